/-
  What the document's Copy comes to.
-/
import Derived.Test.YtbndohpcaahenaaWrt
namespace Go.Proofs.Ytbndohpcaahenaa
open Go.RowKit
set_option linter.unusedVariables false
/-- A list of lists of bytes, of the call's own, none of which is turned any more. -/
structure Lq (w : World) (lo : Nat) (v : Value) (ls : List (List Nat)) : Prop where
  ex : ∃ vs : List Value, vs.length = ls.length ∧ Ow w lo 22 1 v ls.length vs ∧ ∀ (i : Nat) (a : Value) (l : List Nat), vs[i]? = some a → ls[i]? = some l → Ow w lo 5 1 a l.length (ob l)
theorem Lq.nil {w : World} {lo : Nat} (h : lo ≤ w.heap.size) : Lq w lo (.slice none 0 0) [] := ⟨[], rfl, Ow.nil h, fun i a l h => by simp at h⟩
theorem Lq.at {w : World} {lo : Nat} {a : Option Addr} {n c : Nat} {ls : List (List Nat)} (h : Lq w lo (.slice a n c) ls) (hn : n = ls.length) {i : Nat} {l : List Nat} (hl : ls[i]? = some l) : ∃ g a1 c1, a = some ⟨g, 0, none⟩ ∧ w.cell? ⟨g, i, none⟩ = some (.slice a1 l.length c1) ∧ Lies w a1 l ∧ l.length ≤ c1 ∧ (a1 = none → l.length = 0 ∧ c1 = 0) := by
  obtain ⟨vs, h1, h2, h3⟩ := h.ex
  have hi := (List.getElem?_eq_some_iff.1 hl).1
  obtain ⟨v, hv⟩ : ∃ v, vs[i]? = some v := ⟨_, List.getElem?_eq_getElem (by omega)⟩
  obtain ⟨a9, c9, h9, _, h10 | ⟨g, h10, _, _, h11, _⟩, _⟩ := h2.shape
  · omega
  cases h9
  obtain ⟨a1, c1, e1, e2, e3, e4, e5⟩ := (h3 i v l hv hl).lies
  subst e1
  exact ⟨g, a1, c1, h10, h11 i _ hv, e4, e3, e5⟩
theorem Lq.rl {w : World} {lo : Nat} {a : Option Addr} {n c : Nat} {ls : List (List Nat)} (h : Lq w lo (.slice a n c) ls) (hn : n = ls.length) : Rl w a ls := by
  rcases Nat.eq_zero_or_pos ls.length with h0 | h0
  · exact Or.inl (List.eq_nil_of_length_eq_zero h0)
  · obtain ⟨l0, hl0⟩ : ∃ l0, ls[0]? = some l0 := ⟨_, List.getElem?_eq_getElem h0⟩
    obtain ⟨g, _, _, hg, _⟩ := h.at hn hl0
    refine Or.inr ⟨g, 0, hg, fun i l hl => ?_⟩
    obtain ⟨g', a1, c1, hg', h1, h2, h3, h4⟩ := h.at hn hl
    rw [hg] at hg'
    cases hg'
    exact ⟨a1, c1, by rw [Nat.zero_add]; exact h1, h2, h3, h4⟩
theorem Lq.push {w u u' : World} {lo : Nat} {v v' x : Value} {ls : List (List Nat)} {p : List Nat} {vs : List Value} (h1 : vs.length = ls.length) (h3 : ∀ (i : Nat) (a : Value) (l : List Nat), vs[i]? = some a → ls[i]? = some l → Ow w lo 5 1 a l.length (ob l)) (hb : Below w.heap.size w u) (hx : Ow u lo 5 1 x p.length (ob p)) (k : Got lo 22 1 u u' v v' (ls.length + 1) (vs ++ [x])) : Lq u' lo v' (ls ++ [p]) := by
  refine ⟨vs ++ [x], by simp [h1], by simpa using k.ow, fun i a l ha hl => ?_⟩
  by_cases hlt : i < vs.length
  · rw [List.getElem?_append_left hlt] at ha
    rw [List.getElem?_append_left (by omega)] at hl
    exact ((h3 i a l ha hl).below hb (Nat.le_refl _)).got k (by decide)
  · have hi : i = vs.length := by
      have := (List.getElem?_eq_some_iff.1 ha).1
      simp at this
      omega
    subst hi
    rw [List.getElem?_append_right (by omega)] at ha
    rw [List.getElem?_append_right (by omega)] at hl
    simp [h1] at ha hl
    subst hl
    rw [← ha]
    exact hx.got k (by decide)
theorem Ow.made {w : World} {lo : Nat} (h : lo ≤ w.heap.size) : Ow (w.alloc (.cells #[] 5)) lo 5 1 (.slice (some ⟨w.heap.size, 0, none⟩) 0 0) 0 (ob []) :=
  ⟨World.ownsRow_made (base := lo) (e := 5) (size := 1) w #[] 0 h (by decide) rfl, by show _ ≤ (w.heap.push _).size; simp; omega⟩
theorem Ow.lower {w : World} {lo lo2 sz n : Nat} {e : TypeId} {v : Value} {l : List Value} (h : Ow w lo e sz v n l) (hl : lo2 ≤ lo) : Ow w lo2 e sz v n l := by
  refine ⟨⟨h.own.1, ?_⟩, Nat.le_trans hl h.le⟩
  rcases h.own.2 with q | ⟨g, c, cur, hv, hg, q⟩
  · exact Or.inl q
  · exact Or.inr ⟨g, c, cur, hv, Nat.le_trans hl hg, q⟩
/-- What Copy answers. -/
structure Cx (lo : Nat) (w : World) (ls : List (List Nat)) (N : Nat) (e : Ending) (w' : World) : Prop where
  ex : ∃ a c, e = .returned (.slice a N c) ∧ Rl w' a ls ∧ Below lo w w'
set_option maxRecDepth 20000 in
set_option maxHeartbeats 4000000 in
theorem copy_c (w : World) (a : Option Addr) (ls : List (List Nat)) (N c : Nat) (hN : ls.length = N) (hNb : N ≤ 2000000) (hx : Rl w a ls) (hlb : ∀ l ∈ ls, l.length ≤ 2000000) : Calls Try.prog 22 #[.slice a N c] w fun e w' => Cx w.heap.size w ls N e w' := by
  obtain ⟨lo, hlo⟩ : ∃ lo, w.heap.size = lo := ⟨_, rfl⟩
  rw [hlo]
  have hll : ∀ u, Below lo w u → ∀ (i : Nat) l, ls[i]? = some l → ∃ g o a1 c1, a = some ⟨g, o, none⟩ ∧ u.cell? ⟨g, o + i, none⟩ = some (.slice a1 l.length c1) ∧ Lies u a1 l ∧ l.length ≤ c1 ∧ (a1 = none → l.length = 0 ∧ c1 = 0) := fun u hu i l hl => by
    rcases hx.below (u := u) (by rw [hlo]; exact hu) with e | ⟨g, o, ha, hc⟩
    · rw [e] at hl; simp at hl
    · obtain ⟨a1, c1, k⟩ := hc i l hl
      exact ⟨g, o, a1, c1, ha, k⟩
  have AX : Aside (ls.length = N ∧ N ≤ 2000000 ∧ (∀ l ∈ ls, l.length ≤ 2000000) ∧ w.heap.size = lo) := ⟨hN, hNb, hlb, hlo⟩
  have AL : Aside (∀ u, Below lo w u → ∀ (i : Nat) l, ls[i]? = some l → ∃ g o a1 c1, a = some ⟨g, o, none⟩ ∧ u.cell? ⟨g, o + i, none⟩ = some (.slice a1 l.length c1) ∧ Lies u a1 l ∧ l.length ≤ c1 ∧ (a1 = none → l.length = 0 ∧ c1 = 0)) := hll
  obtain ⟨i5, hi5, hz50, hz51, hz52⟩ := ginfo_parts ginfo5
  obtain ⟨i22, hi22, hz220, hz221, hz222⟩ := ginfo_parts ginfo22
  have AI : Aside (Try.prog.info? 5 = some i5 ∧ i5.zero = some (.int .u8 0) ∧ i5.size = 1 ∧ i5.bytes = 1) := ⟨hi5, hz50, hz51, hz52⟩
  have AJ : Aside (Try.prog.info? 22 = some i22 ∧ i22.zero = some (.slice none 0 0) ∧ i22.size = 1 ∧ i22.bytes = 24) := ⟨hi22, hz220, hz221, hz222⟩
  clear hll hx hN hNb hlb hlo hi5 hz50 hz51 hz52 hi22 hz220 hz221 hz222
  go_enter Try.func22, Try.ntmps22
  go_wp2_with fail
  go_loopg [3, 4] N (fun gg s3 s4 wr => ∃ (i : Nat) (va : Option Addr) (cv' : Nat), s3 = .slice va i cv' ∧ s4 = .int .i64 (i : Int) ∧ Aside (i + gg = N ∧ Lq wr lo (.slice va i cv') (ls.take i) ∧ Below lo w wr))
  case atStart => exact ⟨0, none, 0, rfl, rfl, ⟨by omega, Lq.nil (by have := AX.out.2.2.2; omega), Below.refl _ _⟩⟩
  case round =>
    obtain ⟨i, va, cv', rfl, rfl, hT⟩ := hrel
    obtain ⟨hig, hlq, hbel⟩ := hT.out
    have ax := AX.out
    by_cases hi : i < N
    · have t5 : ((i : Int) < (N : Int)) = True := eq_true (by omega)
      have t6 : (i < N) = True := eq_true hi
      have bi : (i : Int) < 200000000 := by omega
      obtain ⟨p, hp⟩ : ∃ p, ls[i]? = some p := ⟨_, List.getElem?_eq_getElem (by omega)⟩
      have hlow : lo ≤ wr.heap.size := by have := hbel.size; omega
      have b0 : Below wr.heap.size wr (wr.alloc (.cells #[] 5)) := (Below.refl _ wr).alloc (Nat.le_refl _) _
      obtain ⟨g, o, a1, c1, rfl, cp, lp, hc1, hnil⟩ := AL.out (wr.alloc (.cells #[] 5)) (hbel.trans (b0.mono hlow)) i p hp
      obtain ⟨q, hq⟩ : ∃ q, p.length = q := ⟨_, rfl⟩
      rw [hq] at cp hc1 hnil
      have hqb : q ≤ 2000000 := by rw [← hq]; exact ax.2.2.1 p (List.mem_of_getElem? hp)
      have hlx := lies_ob lp
      have hmade : Ow (wr.alloc (.cells #[] 5)) wr.heap.size 5 1 (.slice (some ⟨wr.heap.size, 0, none⟩) 0 0) 0 (ob []) := Ow.made (Nat.le_refl _)
      obtain ⟨K, hK⟩ : ∃ K, wr.heap.size = K := ⟨_, rfl⟩
      rw [hK] at hmade b0
      obtain ⟨vs, hv1, hv2, hv3⟩ := hlq.ex
      have hti : (ls.take i).length = i := by rw [List.length_take]; omega
      rw [hti] at hv1 hv2
      have AQ : Aside (∀ v1 w1, Got K 5 1 (wr.alloc (.cells #[] 5)) w1 (.slice (some ⟨K, 0, none⟩) 0 0) v1 (0 + q) (ob [] ++ ob p) → ∃ a5 c5, v1 = .slice a5 q c5 ∧ Ow (w1.alloc (.cells #[.slice a5 q c5] 22)) lo 22 1 (.slice va i cv') i vs ∧ (w1.alloc (.cells #[.slice a5 q c5] 22)).cell? ⟨w1.heap.size, 0, none⟩ = some (.slice a5 q c5) ∧ Below lo w (w1.alloc (.cells #[.slice a5 q c5] 22)) ∧ ∀ u' v', Got lo 22 1 (w1.alloc (.cells #[.slice a5 q c5] 22)) u' (.slice va i cv') v' (i + 1) (vs ++ [.slice a5 q c5]) → Lq u' lo v' (ls.take (i + 1))) := by
        intro v1 w1 hg
        have how := hg.ow
        rw [ob_append, List.nil_append, Nat.zero_add] at how
        obtain ⟨a5, c5, rfl, _⟩ := how.lies
        have b1 : Below K wr w1 := b0.trans hg.bel
        have ba : Below w1.heap.size w1 (w1.alloc (.cells #[.slice a5 q c5] 22)) := (Below.refl _ w1).alloc (Nat.le_refl _) _
        have hKw : K ≤ w1.heap.size := by have := b1.size; omega
        have b2 : Below K wr (w1.alloc (.cells #[.slice a5 q c5] 22)) := b1.trans (ba.mono hKw)
        refine ⟨a5, c5, rfl, hv2.below b2 (by omega), by rw [(Cells.new w1 _ 22).cell]; rfl, hbel.trans (b2.mono (by omega)), fun u' v' hg2 => ?_⟩
        have e : ls.take (i + 1) = ls.take i ++ [p] := by rw [List.take_add_one, hp]; rfl
        rw [e]
        refine Lq.push (w := wr) (u := w1.alloc (.cells #[.slice a5 q c5] 22)) (x := .slice a5 q c5) (vs := vs) (by omega) hv3 (by rw [hK]; exact b2) ?_ (by rw [hti]; exact hg2)
        rw [hq]
        exact (how.below ba (Nat.le_refl _)).lower (by omega)
      have A2 : Aside (i + gk = N ∧ i < N ∧ q ≤ 2000000 ∧ i ≤ 2000000 ∧ (ob p).length = q * 1) := ⟨hig, hi, hqb, by omega, by rw [ob_length]; omega⟩
      have A3 : Aside (a1 = none → q = 0 ∧ c1 = 0) := hnil
      have hcp : (wr.alloc (.cells #[] 5)).cell? ⟨g, o + i, none⟩ = some (.slice a1 q c1) := cp
      clear hT hig hlq hbel ax hi hp lp hc1 hnil hq hqb b0 hv1 hv2 hv3 hti hlow cp
      go_upto_region 4 with (first | (at_builtin; refine wpList_ow Try.prog _ rfl (.tmp 12) (.tmp 16) 22 rfl 5 i5 _ 1 1 Try.underlying22 AI.out.1 AI.out.2.1 AI.out.2.2.1 AI.out.2.2.2 rfl (by decide) K (.slice (some ⟨K, 0, none⟩) 0 0) 0 _ (by rfl) hmade a1 (ob p) q c1 A2.out.2.2.2.2 (by rfl) A3.out hlx ob_one (by have := A2.out.2.2.1; unfold maxLen; omega) (by have := A2.out.2.2.1; omega) ?_; intro v1 w1 hg1; obtain ⟨a5, c5, rfl, how5, hc5, hb5, hq5⟩ := AQ.out v1 w1 hg1; obtain ⟨K1, hK1⟩ : ∃ K1, w1.heap.size = K1 := ⟨_, rfl⟩; rw [hK1] at hc5; have A5 : Aside (Below lo w (w1.alloc (.cells #[.slice a5 q c5] 22)) ∧ ∀ u' v', Got lo 22 1 (w1.alloc (.cells #[.slice a5 q c5] 22)) u' (.slice va i cv') v' (i + 1) (vs ++ [.slice a5 q c5]) → Lq u' lo v' (ls.take (i + 1))) := ⟨hb5, hq5⟩; clear hg1 hb5 hq5) | (at_builtin; refine wpList_ow Try.prog _ rfl (.tmp 11) (.tmp 18) 23 rfl 22 i22 _ 1 24 Try.underlying23 AJ.out.1 AJ.out.2.1 AJ.out.2.2.1 AJ.out.2.2.2 rfl (by decide) lo (.slice va i cv') i _ (by rfl) how5 (some ⟨K1, 0, none⟩) [.slice a5 q c5] 1 1 rfl (by rfl) (fun h => by cases h) (Or.inr ⟨K1, 0, rfl, fun j u hj => by cases j with | zero => (simp at hj; rw [← hj]; exact hc5) | succ j => simp at hj⟩) (fun u hu => by simp at hu; rw [hu]; rfl) (by have := A2.out.2.2.2.1; unfold maxLen; omega) (by have := A2.out.2.2.2.1; omega) ?_; intro v6' w6 hg6; obtain ⟨v6, c6, hv6, _⟩ := hg6.ow.shape; subst hv6))
      have A6 : Aside (Lq w6 lo (.slice v6 (i + 1) c6) (ls.take (i + 1)) ∧ Below lo w w6) := ⟨A5.out.2 _ _ hg6, A5.out.1.trans hg6.bel⟩
      clear hg6 how5 hc5 hmade hcp hlx hK1 hK
      go_wp2_with fail
      have a2 := A2.out
      go_roundg (gk - 1)
      case measure => omega
      case rel => exact ⟨i + 1, v6, c6, rfl, by go_num, ⟨by omega, A6.out.1, A6.out.2⟩⟩
    · have t5 : ((i : Int) < (N : Int)) = False := eq_false (by omega)
      have t6 : (i < N) = False := eq_false hi
      have hiN : i = N := by omega
      subst hiN
      rw [List.take_of_length_le (by omega)] at hlq
      have A2 : Aside (Rl wr va ls ∧ Below lo w wr) := ⟨hlq.rl (by omega), hbel⟩
      clear hT hig hlq hbel ax hi
      go_wp2_with fail
      first | go_ret | go_ret2
      exact ⟨va, cv', rfl, A2.out.1, A2.out.2⟩
end Go.Proofs.Ytbndohpcaahenaa

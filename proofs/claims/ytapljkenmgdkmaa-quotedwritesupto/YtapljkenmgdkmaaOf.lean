/-
  What the document's Of comes to.
-/
import Derived.Test.YtapljkenmgdkmaaBla
namespace Go.Proofs.Ytapljkenmgdkmaa
open Go.RowKit
set_option linter.unusedVariables false
theorem size28 : (Try.prog.info? 28).map (·.size) = some 4 := by kernel_rfl
theorem set4q {w : World} {B : Nat} {v0 v1 v2 v3 : Value} {t : TypeId} (h : Cells w B #[v0, v1, v2, v3] t) (u0 u1 u2 u3 : Value) : Cells ((((w.setCell ⟨B, 0, none⟩ u0).setCell ⟨B, 1, none⟩ u1).setCell ⟨B, 2, none⟩ u2).setCell ⟨B, 3, none⟩ u3) B #[u0, u1, u2, u3] t := by
  have := (((h.set 0 u0).set 1 u1).set 2 u2).set 3 u3
  simpa using this
/-- What was said so far, and what the rest says. -/
def So (l : List Nat) (i : Nat) (out tm : List Nat) : Prop := rn 0 .no [] l = cat out tm (rn i .no [] (l.drop i))
theorem So.tk {l : List Nat} {i n : Nat} {out tm K T : List Nat} (h : So l i out tm) (k : Tk l i n K T) : So l (i + n) (out ++ K) (tm ++ T) := by
  rw [So, h, k, cat_cat]
theorem So.len {l : List Nat} {i : Nat} {out tm : List Nat} (h : So l i out tm) : out.length ≤ l.length ∧ tm.length ≤ l.length := by
  have h1 := congrArg (fun r => r.out.length) h
  have h2 := congrArg (fun r => r.tm.length) h
  have h3 := rn_len l 0 .no []
  have h4 := rn_tm l 0 .no []
  simp [cat, pend] at h1 h2 h3
  omega
/-- Blanks, as far as they go. -/
theorem span_blanks : ∀ m : List Nat, ∃ bl r, m = bl ++ r ∧ (∀ x ∈ bl, isB x = true) ∧ (∀ x, r[0]? = some x → isB x = false)
  | [] => ⟨[], [], rfl, by simp, by simp⟩
  | x :: m => by
    by_cases h : isB x = true
    · obtain ⟨bl, r, e, h1, h2⟩ := span_blanks m
      refine ⟨x :: bl, r, by rw [e]; rfl, ?_, h2⟩
      intro y hy
      rcases List.mem_cons.1 hy with rfl | hy
      · exact h
      · exact h1 y hy
    · exact ⟨[], x :: m, rfl, by simp, fun y hy => by simp at hy; subst hy; simpa using h⟩
/-- The document's run, while it goes. -/
structure Rq (w wr : World) (Q : Nat) (l : List Nat) (L i : Nat) (out tm : List Nat) : Prop where
  r : Rr wr Q (Q + 1) out tm 0 L
  q : ∃ c0 c1 c2 c3, Cells wr Q #[c0, c1, c2, c3] 28
  b : Below Q w wr
  s : So l i out tm
  le : i ≤ L
theorem Rq.step {w wr w2 : World} {Q : Nat} {l : List Nat} {L i n : Nat} {out tm K T : List Nat} (h : Rq w wr Q l L i out tm) (h2 : Rr w2 Q (Q + 1) (out ++ K) (tm ++ T) 0 L) (f : Fr Q (Q + 1) wr w2) (k : Tk l i n K T) (hn : i + n ≤ L) : Rq w w2 Q l L (i + n) (out ++ K) (tm ++ T) := by
  obtain ⟨c0, c1, c2, c3, hc⟩ := h.q
  exact ⟨h2, ⟨c0, c1, c2, c3, f.kp Q _ (by omega) hc⟩, h.b.trans f.bel, h.s.tk k, hn⟩
/-- The document's run, stopped. -/
structure Rz (w wr : World) (Q : Nat) (l : List Nat) (L y t : Nat) (out tm : List Nat) : Prop where
  r : Rr wr Q (Q + 1) out tm y t
  q : ∃ c0 c1 c2 c3, Cells wr Q #[c0, c1, c2, c3] 28
  b : Below Q w wr
  s : rn 0 .no [] l = ⟨out, tm, y, t⟩
  ny : y ≠ 0
  yb : y ≤ 22
/-- What Of comes to. -/
def OfTo (l : List Nat) (w : World) (e : Ending) (w' : World) : Prop :=
  ∃ vO vT, e = .returned (.agg #[vO, vT, .int .i64 ((rn 0 .no [] l).why : Nat), .int .i64 ((rn 0 .no [] l).at_ : Nat)]) ∧ Ob w' w.heap.size vO (rn 0 .no [] l).out ∧ Oi w' w.heap.size vT (rn 0 .no [] l).tm ∧ Below w.heap.size w w'
set_option maxRecDepth 20000 in
set_option maxHeartbeats 2000000 in
theorem of_c (w : World) (a : Option Addr) (l : List Nat) (L C : Nat) (hB : Lies w a l) (hL : l.length = L) (hLb : L < 100000000000) (ho : Oct l) : Calls Try.prog 10 #[.slice a L C] w fun e w' => OfTo l w e w' := by
  obtain ⟨w1, hw1⟩ : ∃ w1, w1 = w.alloc (.cells #[.slice none 0 0, .slice none 0 0, .int .i64 0, .int .i64 0] 28) := ⟨_, rfl⟩
  obtain ⟨w2, hw2⟩ : ∃ w2, w2 = w1.alloc (.cells #[.slice none 0 0, .slice none 0 0, .int .i64 0, .int .i64 0] 28) := ⟨_, rfl⟩
  obtain ⟨Q, hQ⟩ : ∃ Q, w.heap.size = Q := ⟨_, rfl⟩
  have hz1 : w1.heap.size = Q + 1 := by rw [hw1, ← hQ]; show (w.heap.push _).size = _; simp
  have k1 : Cells w1 Q #[.slice none 0 0, .slice none 0 0, .int .i64 0, .int .i64 0] 28 := by rw [hw1, ← hQ]; exact Cells.new w _ 28
  have k2 : Cells w2 (Q + 1) #[.slice none 0 0, .slice none 0 0, .int .i64 0, .int .i64 0] 28 := by rw [hw2, ← hz1]; exact Cells.new w1 _ 28
  have k3 : Cells w2 Q #[.slice none 0 0, .slice none 0 0, .int .i64 0, .int .i64 0] 28 := by rw [hw2]; exact k1.alloc _
  have b1 : Below Q w w1 := by rw [hw1, ← hQ]; exact (Below.refl _ w).alloc (Nat.le_refl _) _
  have b2 : Below Q w1 w2 := by rw [hw2]; exact (Below.refl _ w1).alloc (by omega) _
  obtain ⟨c0, c1, c2, c3⟩ := four k2
  have f3 := k2.frozen 3
  have k4 := k2.set 3 (.int .i64 (L : Int))
  simp only [List.setIfInBounds_toArray, List.set_cons_succ, List.set_cons_zero] at k4
  have AC : Aside (Cells (w2.setCell ⟨Q + 1, 3, none⟩ (.int .i64 (L : Int))) (Q + 1) #[.slice none 0 0, .slice none 0 0, .int .i64 0, .int .i64 (L : Int)] 28 ∧ Cells (w2.setCell ⟨Q + 1, 3, none⟩ (.int .i64 (L : Int))) Q #[.slice none 0 0, .slice none 0 0, .int .i64 0, .int .i64 0] 28 ∧ Below Q w (w2.setCell ⟨Q + 1, 3, none⟩ (.int .i64 (L : Int)))) := ⟨k4, k3.only ((Only.refl _ _).setCell 3 _) (by omega), (b1.trans b2).trans (((Only.refl (Q + 1) w2).setCell 3 _).below (by omega))⟩
  have A : Aside (Lies w a l ∧ l.length = L ∧ L < 100000000000 ∧ Oct l ∧ w.heap.size = Q) := ⟨hB, hL, hLb, ho, hQ⟩
  clear hB hL hLb ho k1 k2 k3 k4 b1 b2
  go_enter Try.func10, Try.ntmps10
  go_upto_region 2 with fail
  rw [← hw1, ← hw2]
  clear hw1 hw2 hz1 hQ
  go_wp2_with fail
  go_loopg [4, 5] (L + 1) (fun gg s4 s5 wr => ∃ i : Nat, s4 = .int .i64 (i : Int) ∧ Aside ((∃ out tm, i + gg = L + 1 ∧ Rq w wr Q l L i out tm) ∨ (∃ y t out tm, i ≤ L + 2 ∧ Rz w wr Q l L y t out tm)))
  case atStart =>
    have a0 := A.out
    have ac := AC.out
    exact ⟨0, rfl, Or.inl ⟨[], [], by omega, ⟨⟨_, _, ac.1, Ow.nil (by have := ac.2.2.size; omega), Ow.nil (by have := ac.2.2.size; omega)⟩, ⟨_, _, _, _, ac.2.1⟩, ac.2.2, by rw [So]; simp [cat], by omega⟩⟩⟩
  case round =>
    obtain ⟨i, rfl, hI⟩ := hrel
    have a0 := A.out
    rcases hI.out with ⟨out, tm, hig, hq⟩ | ⟨y, t, out, tm, hi2, hz⟩
    · by_cases hiL : i < L
      · obtain ⟨x, hx⟩ : ∃ x, l[i]? = some x := ⟨_, List.getElem?_eq_getElem (by omega)⟩
        have hx256 : x < 256 := a0.2.2.2.1 x (List.mem_of_getElem? hx)
        have hdrop : l.drop i = x :: l.drop (i + 1) := drop_more hx
        obtain ⟨ab, ao, ha⟩ := a0.1.some' (by omega)
        subst ha
        have hlA : ∀ w', Fr Q (Q + 1) wr w' → Lies w' (some ⟨ab, ao, none⟩) l := fun w' f => a0.1.below (by rw [a0.2.2.2.2]; exact hq.b.trans f.bel)
        have hlw := hlA wr (Fr.refl _ _ _)
        have cx := hlw.at' hx
        have t1 : ((i : Int) < (L : Int)) = True := eq_true (by omega)
        have t1' : (i < L) = True := eq_true hiL
        have hiI : (i : Int) < 100000000000 := by omega
        have c2 : wr.cell? ⟨Q + 1, 2, none⟩ = some (.int .i64 0) := by obtain ⟨vO, vT, kR, _⟩ := hq.r.ex; exact (four kR).2.2.1
        have hbk := breaks_c wr (some ⟨ab, ao, none⟩) l L C i _ hlw a0.2.1 (by omega) (by omega) hdrop
        obtain ⟨hl1, hl2⟩ := hq.s.len
        have hsay := fun (z s : Nat) => say_c wr Q (Q + 1) out tm 0 L z s (by omega) hq.r (by omega) (by omega)
        have hi1 : (i : Int) + 1 = ((i + 1 : Nat) : Int) := by omega
        by_cases h10 : x = 10
        · subst h10
          have hs := hsay 10 i
          have hbk0 : Calls Try.prog 23 #[.slice (some ⟨ab, ao, none⟩) L C, .int .i64 (i : Int)] wr fun e w' => e = .returned (.int .i64 1) ∧ wr = w' := hbk
          have AX : Aside (i + gk = L + 1 ∧ i < L ∧ Rq w wr Q l L i out tm ∧ Tk l i 1 [10] [i]) := ⟨hig, hiL, hq, by rw [Tk, hdrop, rn_lf]; rfl⟩
          clear hI a0 hig hq hiL hx hx256 hdrop hlA hlw hbk hl1 hl2 hsay hi1
          go_wp2_with (first
            | (go_at_call 23; refine hbk0.mono ?_; rintro e1 w0 ⟨rfl, hw0⟩; subst hw0)
            | (go_at_call 24; refine hs.mono ?_; rintro e7 w7 ⟨rfl, h7, f7⟩))
          have ax := AX.out
          go_roundg (gk - 1)
          case measure => omega
          case rel => exact ⟨i + 1, by go_num, Or.inl ⟨out ++ [10], tm ++ [i], by omega, ax.2.2.1.step h7 f7 ax.2.2.2 (by omega)⟩⟩
        by_cases hc : crlf (x :: l.drop (i + 1)) = true
        · obtain ⟨q, e⟩ := (crlf_iff _).1 hc
          rw [e] at hbk hdrop
          obtain ⟨_, hd1, _⟩ := drop_cons hdrop
          obtain ⟨_, hd2, hlt2⟩ := drop_cons hd1
          obtain ⟨j, hj⟩ : ∃ j, i + 1 = j := ⟨_, rfl⟩
          have hjI : (i : Int) + 1 = (j : Int) := by omega
          have hjb : (j : Int) < 200000000000 := by omega
          have hs := hsay 13 j
          have hbk0 : Calls Try.prog 23 #[.slice (some ⟨ab, ao, none⟩) L C, .int .i64 (i : Int)] wr fun e w' => e = .returned (.int .i64 2) ∧ wr = w' := hbk
          have AX : Aside (i + gk = L + 1 ∧ i + 2 ≤ L ∧ Rq w wr Q l L i out tm ∧ Tk l i 2 [13, 10] [j, j] ∧ out.length ≤ L ∧ tm.length ≤ L ∧ L < 100000000000) := ⟨hig, by omega, hq, by rw [Tk, hdrop, rn_crlf, ← hj, show i + 2 = i + 1 + 1 by omega, hd2]; rfl, by omega, by omega, a0.2.2.1⟩
          clear hI a0 hig hq hiL hx hx256 hdrop hlA hlw hbk hl1 hl2 hsay hi1 e hc hd1 hd2 hlt2 hj h10
          go_wp2_with (first
            | (go_at_call 23; refine hbk0.mono ?_; rintro e1 w0 ⟨rfl, hw0⟩; subst hw0)
            | (go_at_call 24; (fail_if_success (have hh := f7)); refine hs.mono ?_; rintro e7 w7 ⟨rfl, h7, f7⟩; have hs2 := say_c w7 Q (Q + 1) (out ++ [13]) (tm ++ [j]) 0 L 10 j (by omega) h7 (by have := AX.out; simp; omega) (by have := AX.out; simp; omega); clear hs)
            | (go_at_call 24; refine hs2.mono ?_; rintro e8 w8 ⟨rfl, h8, f8⟩))
          have ax := AX.out
          go_roundg (gk - 2)
          case measure => omega
          case rel => exact ⟨i + 2, by go_num, Or.inl ⟨out ++ [13, 10], tm ++ [j, j], by omega, ax.2.2.1.step (by simpa using h8) (f7.trans f8) ax.2.2.2.1 (by omega)⟩⟩
        have hcf : crlf (x :: l.drop (i + 1)) = false := by simpa using hc
        have hbk3 : brk (x :: l.drop (i + 1)) = 0 := by
          refine brk_x h10 ?_
          by_cases h13 : x = 13
          · right
            intro q e
            rw [e, h13] at hcf
            simp [crlf] at hcf
          · exact Or.inl h13
        rw [hbk3] at hbk
        have hbk0 : Calls Try.prog 23 #[.slice (some ⟨ab, ao, none⟩) L C, .int .i64 (i : Int)] wr fun e w' => e = .returned (.int .i64 0) ∧ wr = w' := hbk
        clear hbk hbk3 hc
        have hTo : ∀ (e : Ending) (w' : World), TkTo l i L Q (Q + 1) out tm wr e w' → ∃ n : Nat, e = .returned (.int .i64 (n : Int)) ∧ (n : Int) < 200000000000 ∧ ((∃ out2 tm2, 0 < n ∧ i + n ≤ L ∧ Rq w w' Q l L (i + n) out2 tm2) ∨ (∃ y t out2 tm2, i + n ≤ L + 2 ∧ Rz w w' Q l L y t out2 tm2)) := by
          rintro e w' ⟨n, he, hn, f, h | h⟩
          · obtain ⟨K, T, hR, h0, hle, hk⟩ := h
            exact ⟨n, he, by omega, Or.inl ⟨_, _, h0, hle, hq.step hR f hk hle⟩⟩
          · obtain ⟨y, t, hy0, hy22, ht, hR, hrn⟩ := h
            obtain ⟨d0, d1, d2, d3, hc⟩ := hq.q
            exact ⟨n, he, by omega, Or.inr ⟨y, t, out, tm, hn, ⟨hR, ⟨d0, d1, d2, d3, f.kp Q _ (by omega) hc⟩, hq.b.trans f.bel, by rw [hq.s, hrn]; simp [cat], hy0, hy22⟩⟩⟩
        by_cases h61 : x = 61
        · subst h61
          have hes := (escape_c wr Q (Q + 1) out tm (some ⟨ab, ao, none⟩) l L C i _ (by omega) hq.r hlw a0.2.2.2.1 a0.2.1 (by omega) hdrop (by omega) (by omega)).mono hTo
          have AX : Aside (i + gk = L + 1 ∧ i < L) := ⟨hig, hiL⟩
          clear hI a0 hig hq hiL hx hx256 hdrop hlA hlw hl1 hl2 hsay hi1 hTo hcf h10
          go_wp2_with (first
            | (go_at_call 23; refine hbk0.mono ?_; rintro e1 w0 ⟨rfl, hw0⟩; subst hw0)
            | (go_at_call 25; refine hes.mono ?_; rintro e7 w7 ⟨n7, rfl, hn7, h7⟩; have A7 : Aside (((∃ out2 tm2, 0 < n7 ∧ i + n7 ≤ L ∧ Rq w w7 Q l L (i + n7) out2 tm2) ∨ (∃ y t out2 tm2, i + n7 ≤ L + 2 ∧ Rz w w7 Q l L y t out2 tm2))) := h7; clear h7))
          have ax := AX.out
          rcases A7.out with ⟨o2, m2, h0, hle, h8⟩ | ⟨y, t, o2, m2, hle, h8⟩
          · go_roundg (gk - n7)
            case measure => omega
            case rel => exact ⟨i + n7, by go_num, Or.inl ⟨o2, m2, by omega, h8⟩⟩
          · go_roundg 0
            case measure => omega
            case rel => exact ⟨i + n7, by go_num, Or.inr ⟨y, t, o2, m2, hle, h8⟩⟩
        have u61 : ((x : Int) == 61) = false := by rw [beq_eq_false_iff_ne]; omega
        have hbl := rblank_c x hx256 wr
        by_cases hB : isB x = true
        · rw [hB] at hbl
          obtain ⟨bl, r, hm, hb, hr⟩ := span_blanks (l.drop i)
          have hbl0 : 0 < bl.length := by
            cases bl with
            | nil =>
              rw [List.nil_append, hdrop] at hm
              have := hr x (by rw [← hm]; rfl)
              rw [hB] at this
              cases this
            | cons z bl => simp
          have hes := (blanks_c wr Q (Q + 1) out tm (some ⟨ab, ao, none⟩) l L C i bl r (by omega) hq.r hlA a0.2.2.2.1 a0.2.1 a0.2.2.1 hm hb hr hbl0 (by omega) (by omega)).mono hTo
          have AX : Aside (i + gk = L + 1 ∧ i < L) := ⟨hig, hiL⟩
          clear hI a0 hig hq hiL hx hx256 hdrop hlA hlw hl1 hl2 hsay hi1 hTo hcf h10 h61 hB hm hb hr hbl0
          go_wp2_with (first
            | (go_at_call 23; refine hbk0.mono ?_; rintro e1 w0 ⟨rfl, hw0⟩; subst hw0)
            | (go_at_call 26; refine hbl.mono ?_; rintro e1 w0 ⟨rfl, hw0⟩; subst hw0)
            | (go_at_call 27; refine hes.mono ?_; rintro e7 w7 ⟨n7, rfl, hn7, h7⟩; have A7 : Aside (((∃ out2 tm2, 0 < n7 ∧ i + n7 ≤ L ∧ Rq w w7 Q l L (i + n7) out2 tm2) ∨ (∃ y t out2 tm2, i + n7 ≤ L + 2 ∧ Rz w w7 Q l L y t out2 tm2))) := h7; clear h7))
          have ax := AX.out
          rcases A7.out with ⟨o2, m2, h0, hle, h8⟩ | ⟨y, t, o2, m2, hle, h8⟩
          · go_roundg (gk - n7)
            case measure => omega
            case rel => exact ⟨i + n7, by go_num, Or.inl ⟨o2, m2, by omega, h8⟩⟩
          · go_roundg 0
            case measure => omega
            case rel => exact ⟨i + n7, by go_num, Or.inr ⟨y, t, o2, m2, hle, h8⟩⟩
        have hBf : isB x = false := by simpa using hB
        rw [hBf] at hbl
        by_cases h13 : x = 13
        · subst h13
          obtain ⟨j, hj⟩ : ∃ j, i + 1 = j := ⟨_, rfl⟩
          have hjI : (i : Int) + 1 = (j : Int) := by omega
          have hjb : (j : Int) < 200000000000 := by omega
          have hs := hsay 13 j
          have hn10 : (l.drop (i + 1))[0]? ≠ some 10 := by
            intro h
            cases hq2 : l.drop (i + 1) with
            | nil => rw [hq2] at h; simp at h
            | cons z q =>
              rw [hq2] at h hcf
              simp at h
              rw [h] at hcf
              simp [crlf] at hcf
          have AX : Aside (i + gk = L + 1 ∧ i < L ∧ Rq w wr Q l L i out tm ∧ Tk l i 1 [13] [j] ∧ i + 1 = j) := ⟨hig, hiL, hq, by rw [Tk, hdrop, rn_cr i _ hn10, ← hj]; rfl, hj⟩
          clear hI a0 hig hq hiL hx hx256 hdrop hlA hlw hl1 hl2 hsay hi1 hTo hcf h10 h61 hB hBf hj hn10
          go_wp2_with (first
            | (go_at_call 23; refine hbk0.mono ?_; rintro e1 w0 ⟨rfl, hw0⟩; subst hw0)
            | (go_at_call 26; refine hbl.mono ?_; rintro e1 w0 ⟨rfl, hw0⟩; subst hw0)
            | (go_at_call 24; refine hs.mono ?_; rintro e7 w7 ⟨rfl, h7, f7⟩))
          have ax := AX.out
          go_roundg (gk - 1)
          case measure => omega
          case rel => exact ⟨i + 1, by rw [ax.2.2.2.2], Or.inl ⟨out ++ [13], tm ++ [j], by omega, ax.2.2.1.step h7 f7 ax.2.2.2.1 (by omega)⟩⟩
        · have u13 : ((x : Int) == 13) = false := by rw [beq_eq_false_iff_ne]; omega
          have hs := hsay x i
          have AX : Aside (i + gk = L + 1 ∧ i < L ∧ Rq w wr Q l L i out tm ∧ Tk l i 1 [x] [i]) := ⟨hig, hiL, hq, by rw [Tk, hdrop, rn_plain hBf h61 h13 h10]; rfl⟩
          clear hI a0 hig hq hiL hx hx256 hdrop hlA hlw hl1 hl2 hsay hi1 hTo hcf h10 h61 hB hBf h13
          go_wp2_with (first
            | (go_at_call 23; refine hbk0.mono ?_; rintro e1 w0 ⟨rfl, hw0⟩; subst hw0)
            | (go_at_call 26; refine hbl.mono ?_; rintro e1 w0 ⟨rfl, hw0⟩; subst hw0)
            | (go_at_call 24; refine hs.mono ?_; rintro e7 w7 ⟨rfl, h7, f7⟩))
          have ax := AX.out
          go_roundg (gk - 1)
          case measure => omega
          case rel => exact ⟨i + 1, by go_num, Or.inl ⟨out ++ [x], tm ++ [i], by omega, ax.2.2.1.step h7 f7 ax.2.2.2 (by omega)⟩⟩
      · have hiL2 : i = L := by have := hq.le; omega
        have t1 : ((i : Int) < (L : Int)) = False := eq_false (by omega)
        have t1' : (i < L) = False := eq_false hiL
        have hR := hq.r
        have hbel := hq.b
        have hQc := hq.q
        have hfin : rn 0 .no [] l = ⟨out, tm, 0, L⟩ := by
          have h := hq.s
          rw [So, List.drop_eq_nil_of_le (by omega), hiL2] at h
          rw [h]
          simp [cat, rn, fin, finy]
        obtain ⟨vO, vT, kR, hO, hT⟩ := hR.ex
        obtain ⟨q0, q1, q2, q3, kQ⟩ := hQc
        obtain ⟨oa, oc, hvO, _⟩ := Ow.shape hO
        obtain ⟨ta, tc, hvT, _⟩ := Ow.shape hT
        obtain ⟨on, hon⟩ : ∃ n, (ob out).length = n := ⟨_, rfl⟩
        obtain ⟨tn, htn⟩ : ∃ n, (oi tm).length = n := ⟨_, rfl⟩
        rw [hon] at hvO
        rw [htn] at hvT
        subst hvO
        subst hvT
        obtain ⟨c0, c1, c2, c3⟩ := four kR
        obtain ⟨d0, d1, d2, d3⟩ := four kQ
        have z0 := kQ.frozen 0
        have z1 := kQ.frozen 1
        have z2 := kQ.frozen 2
        have z3 := kQ.frozen 3
        have AX : Aside (Cells wr Q #[q0, q1, q2, q3] 28 ∧ Ob wr Q (.slice oa on oc) out ∧ Oi wr Q (.slice ta tn tc) tm ∧ Below Q w wr ∧ rn 0 .no [] l = ⟨out, tm, 0, L⟩ ∧ w.heap.size = Q) := ⟨kQ, hO, hT, hbel, hfin, a0.2.2.2.2⟩
        clear hI hR hbel a0 kR kQ hO hT hon htn hfin hig hq hiL hiL2
        go_wp2_with fail
        have ax := AX.out
        have m3 := set4q ax.1 (.slice oa on oc) (.slice ta tn tc) (.int .i64 (0 : Int)) (.int .i64 (L : Int))
        have o2 : Only Q wr ((((wr.setCell ⟨Q, 0, none⟩ (.slice oa on oc)).setCell ⟨Q, 1, none⟩ (.slice ta tn tc)).setCell ⟨Q, 2, none⟩ (.int .i64 (0 : Int))).setCell ⟨Q, 3, none⟩ (.int .i64 (L : Int))) := (((Only.refl Q wr).setCell 0 _).setCell 1 _).setCell 2 _ |>.setCell 3 _
        (try simp only [Exit.inBlock, Exit.then])
        refine bodyPost_ret (v := .agg #[.slice oa on oc, .slice ta tn tc, .int .i64 (0 : Int), .int .i64 (L : Int)]) ?_ rfl ?_
        · exact results_cell_row rfl _ _ Q 28 _ (0, 0) _ rfl m3 Try.underlying28 rfl size28
        · refine ⟨.slice oa on oc, .slice ta tn tc, by rw [ax.2.2.2.2.1] <;> rfl, ?_, ?_, ?_⟩
          · rw [ax.2.2.2.2.1, ax.2.2.2.2.2]; exact ow_only ax.2.1 o2 ax.1 (by decide)
          · rw [ax.2.2.2.2.1, ax.2.2.2.2.2]; exact ow_only ax.2.2.1 o2 ax.1 (by decide)
          · rw [ax.2.2.2.2.2]; exact ax.2.2.2.1.trans (o2.below (Nat.le_refl _))

    · have hR := hz.r
      have hbel := hz.b
      have hQc := hz.q
      have hfin := hz.s
      have ty : ((y : Int) == 0) = false := by have := hz.ny; rw [beq_eq_false_iff_ne]; omega
      by_cases hiL : i < L
      · have t1 : ((i : Int) < (L : Int)) = True := eq_true (by omega)
        have t1' : (i < L) = True := eq_true hiL
        obtain ⟨vO, vT, kR, hO, hT⟩ := hR.ex
        obtain ⟨q0, q1, q2, q3, kQ⟩ := hQc
        obtain ⟨oa, oc, hvO, _⟩ := Ow.shape hO
        obtain ⟨ta, tc, hvT, _⟩ := Ow.shape hT
        obtain ⟨on, hon⟩ : ∃ n, (ob out).length = n := ⟨_, rfl⟩
        obtain ⟨tn, htn⟩ : ∃ n, (oi tm).length = n := ⟨_, rfl⟩
        rw [hon] at hvO
        rw [htn] at hvT
        subst hvO
        subst hvT
        obtain ⟨c0, c1, c2, c3⟩ := four kR
        obtain ⟨d0, d1, d2, d3⟩ := four kQ
        have z0 := kQ.frozen 0
        have z1 := kQ.frozen 1
        have z2 := kQ.frozen 2
        have z3 := kQ.frozen 3
        have AX : Aside (Cells wr Q #[q0, q1, q2, q3] 28 ∧ Ob wr Q (.slice oa on oc) out ∧ Oi wr Q (.slice ta tn tc) tm ∧ Below Q w wr ∧ rn 0 .no [] l = ⟨out, tm, y, t⟩ ∧ w.heap.size = Q) := ⟨kQ, hO, hT, hbel, hfin, a0.2.2.2.2⟩
        clear hI hR hbel a0 kR kQ hO hT hon htn hfin hz hi2 hiL
        go_wp2_with fail
        have ax := AX.out
        have m3 := set4q ax.1 (.slice oa on oc) (.slice ta tn tc) (.int .i64 (y : Int)) (.int .i64 (t : Int))
        have o2 : Only Q wr ((((wr.setCell ⟨Q, 0, none⟩ (.slice oa on oc)).setCell ⟨Q, 1, none⟩ (.slice ta tn tc)).setCell ⟨Q, 2, none⟩ (.int .i64 (y : Int))).setCell ⟨Q, 3, none⟩ (.int .i64 (t : Int))) := (((Only.refl Q wr).setCell 0 _).setCell 1 _).setCell 2 _ |>.setCell 3 _
        (try simp only [Exit.inBlock, Exit.then])
        refine bodyPost_ret (v := .agg #[.slice oa on oc, .slice ta tn tc, .int .i64 (y : Int), .int .i64 (t : Int)]) ?_ rfl ?_
        · exact results_cell_row rfl _ _ Q 28 _ (0, 0) _ rfl m3 Try.underlying28 rfl size28
        · refine ⟨.slice oa on oc, .slice ta tn tc, by rw [ax.2.2.2.2.1] <;> rfl, ?_, ?_, ?_⟩
          · rw [ax.2.2.2.2.1, ax.2.2.2.2.2]; exact ow_only ax.2.1 o2 ax.1 (by decide)
          · rw [ax.2.2.2.2.1, ax.2.2.2.2.2]; exact ow_only ax.2.2.1 o2 ax.1 (by decide)
          · rw [ax.2.2.2.2.2]; exact ax.2.2.2.1.trans (o2.below (Nat.le_refl _))

      · have t1 : ((i : Int) < (L : Int)) = False := eq_false (by omega)
        have t1' : (i < L) = False := eq_false hiL
        obtain ⟨vO, vT, kR, hO, hT⟩ := hR.ex
        obtain ⟨q0, q1, q2, q3, kQ⟩ := hQc
        obtain ⟨oa, oc, hvO, _⟩ := Ow.shape hO
        obtain ⟨ta, tc, hvT, _⟩ := Ow.shape hT
        obtain ⟨on, hon⟩ : ∃ n, (ob out).length = n := ⟨_, rfl⟩
        obtain ⟨tn, htn⟩ : ∃ n, (oi tm).length = n := ⟨_, rfl⟩
        rw [hon] at hvO
        rw [htn] at hvT
        subst hvO
        subst hvT
        obtain ⟨c0, c1, c2, c3⟩ := four kR
        obtain ⟨d0, d1, d2, d3⟩ := four kQ
        have z0 := kQ.frozen 0
        have z1 := kQ.frozen 1
        have z2 := kQ.frozen 2
        have z3 := kQ.frozen 3
        have AX : Aside (Cells wr Q #[q0, q1, q2, q3] 28 ∧ Ob wr Q (.slice oa on oc) out ∧ Oi wr Q (.slice ta tn tc) tm ∧ Below Q w wr ∧ rn 0 .no [] l = ⟨out, tm, y, t⟩ ∧ w.heap.size = Q) := ⟨kQ, hO, hT, hbel, hfin, a0.2.2.2.2⟩
        clear hI hR hbel a0 kR kQ hO hT hon htn hfin hz hi2 hiL
        go_wp2_with fail
        have ax := AX.out
        have m3 := set4q ax.1 (.slice oa on oc) (.slice ta tn tc) (.int .i64 (y : Int)) (.int .i64 (t : Int))
        have o2 : Only Q wr ((((wr.setCell ⟨Q, 0, none⟩ (.slice oa on oc)).setCell ⟨Q, 1, none⟩ (.slice ta tn tc)).setCell ⟨Q, 2, none⟩ (.int .i64 (y : Int))).setCell ⟨Q, 3, none⟩ (.int .i64 (t : Int))) := (((Only.refl Q wr).setCell 0 _).setCell 1 _).setCell 2 _ |>.setCell 3 _
        (try simp only [Exit.inBlock, Exit.then])
        refine bodyPost_ret (v := .agg #[.slice oa on oc, .slice ta tn tc, .int .i64 (y : Int), .int .i64 (t : Int)]) ?_ rfl ?_
        · exact results_cell_row rfl _ _ Q 28 _ (0, 0) _ rfl m3 Try.underlying28 rfl size28
        · refine ⟨.slice oa on oc, .slice ta tn tc, by rw [ax.2.2.2.2.1] <;> rfl, ?_, ?_, ?_⟩
          · rw [ax.2.2.2.2.1, ax.2.2.2.2.2]; exact ow_only ax.2.1 o2 ax.1 (by decide)
          · rw [ax.2.2.2.2.1, ax.2.2.2.2.2]; exact ow_only ax.2.2.1 o2 ax.1 (by decide)
          · rw [ax.2.2.2.2.2]; exact ax.2.2.2.1.trans (o2.below (Nat.le_refl _))

end Go.Proofs.Ytapljkenmgdkmaa

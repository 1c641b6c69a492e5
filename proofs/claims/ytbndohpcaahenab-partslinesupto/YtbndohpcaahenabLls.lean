/-
  Lists of lists of bytes, of the call's own: the parts as they are gathered. And what is known of a splitter, told one by one.
-/
import Derived.Test.YtbndohpcaahenabNex
import Derived.Deep.RegionLaw
namespace Go.Proofs.Ytbndohpcaahenab
open Go.RowKit
set_option linter.unusedVariables false
theorem ginfo22 : (Try.prog.info? 23).map (fun i => (i.zero, i.size, i.bytes)) = some (some (.slice none 0 0), 1, 24) := by kernel_rfl
/-- Parts out of signs. -/
def po : List (List Nat) → List Nat → List (List Nat)
  | ls, [] => ls
  | ls, g :: r => if g = 256 then po (ls ++ [[]]) r else if g = 257 then po ls r else po (ls.dropLast ++ [ls.getLastD [] ++ [g]]) r
/-- Bytes come behind an open part alone. -/
def Gd : Bool → List Nat → Prop
  | _, [] => True
  | i, g :: r => if g = 256 then Gd true r else if g = 257 then Gd i r else i = true ∧ Gd i r
theorem po_append (ls : List (List Nat)) (a b : List Nat) : po ls (a ++ b) = po (po ls a) b := by
  induction a generalizing ls with
  | nil => rfl
  | cons g r ih =>
    simp only [List.cons_append, po]
    split
    · exact ih _
    · split
      · exact ih _
      · exact ih _
/-- A list of lists of bytes, of the call's own, in blocks from lo on; the last one's block is no other one's. -/
structure Ll (w : World) (lo : Nat) (v : Value) (ls : List (List Nat)) : Prop where
  ex : ∃ vs : List Value, vs.length = ls.length ∧ Ow w lo 23 1 v ls.length vs ∧ (∀ (i : Nat) (a : Value) (l : List Nat), vs[i]? = some a → ls[i]? = some l → Ow w lo 5 1 a l.length (ob l)) ∧ ∀ (i : Nat) (a z : Value), vs[i]? = some a → i + 1 < vs.length → vs.getLast? = some z → ∀ g, a.ownBlock = some g → z.ownBlock ≠ some g
theorem Ll.nil {w : World} {lo : Nat} (h : lo ≤ w.heap.size) : Ll w lo (.slice none 0 0) [] := ⟨[], rfl, Ow.nil h, fun i a l h => by simp at h, fun i a z h => by simp at h⟩
theorem Ll.keep {w u : World} {lo : Nat} {v : Value} {ls : List (List Nat)} (h : Ll w lo v ls) (hs : w.heap.size ≤ u.heap.size) (k : ∀ g, lo ≤ g → g < w.heap.size → (∃ cs e fr, w.heap[g]? = some (.cells cs e fr) ∧ (e = 5 ∨ e = 23)) → u.heap[g]? = w.heap[g]?) : Ll u lo v ls := by
  obtain ⟨vs, h1, h2, h3, h4⟩ := h.ex
  exact ⟨vs, h1, h2.keep hs (fun g a b ⟨cs, fr, c⟩ => k g a b ⟨cs, 23, fr, c, Or.inr rfl⟩), fun i a l ha hl => (h3 i a l ha hl).keep hs (fun g a b ⟨cs, fr, c⟩ => k g a b ⟨cs, 5, fr, c, Or.inl rfl⟩), h4⟩
theorem Ll.below {w u : World} {lo C : Nat} {v : Value} {ls : List (List Nat)} (h : Ll w lo v ls) (k : Below C w u) (hC : w.heap.size ≤ C) : Ll u lo v ls := h.keep k.size fun g _ h2 _ => k.block g (by omega)
theorem Ll.drewN {w : World} {lo : Nat} {v : Value} {ls : List (List Nat)} (h : Ll w lo v ls) (n : Nat) : Ll (w.drewN n) lo v ls := h.keep (Nat.le_refl _) fun _ _ _ _ => rfl
theorem Ll.but {w u : World} {lo M : Nat} {v : Value} {ls : List (List Nat)} {cs : Array Value} {t : TypeId} (h : Ll w lo v ls) (k : But M w u) (hM : Cells w M cs t) (ht : t ≠ 5 ∧ t ≠ 23) : Ll u lo v ls := h.keep k.size fun g _ h2 ⟨cs', e, fr, hc, he⟩ => k.block g h2 (fun e2 => by
  subst e2
  unfold Cells at hM
  rw [hM] at hc
  cases hc
  rcases he with rfl | rfl
  · exact ht.1 rfl
  · exact ht.2 rfl)
theorem Ll.le {w : World} {lo : Nat} {v : Value} {ls : List (List Nat)} (h : Ll w lo v ls) : lo ≤ w.heap.size := by obtain ⟨vs, _, h2, _⟩ := h.ex; exact h2.le
theorem Ll.shape {w : World} {lo : Nat} {v : Value} {ls : List (List Nat)} (h : Ll w lo v ls) : ∃ a c, v = .slice a ls.length c ∧ ls.length ≤ c := by
  obtain ⟨vs, _, h2, _⟩ := h.ex
  obtain ⟨a, c, hv, hc, _⟩ := h2.shape
  exact ⟨a, c, hv, hc⟩
/-- One more part. -/
theorem Ll.open_ {w u : World} {lo : Nat} {v v' : Value} {ls : List (List Nat)} (h : Ll w lo v ls) (vs : List Value) (k : Got lo 23 1 w u v v' (ls.length + 1) (vs ++ [.slice none 0 0])) (hvs : vs.length = ls.length) (h3 : ∀ (i : Nat) (a : Value) (l : List Nat), vs[i]? = some a → ls[i]? = some l → Ow w lo 5 1 a l.length (ob l)) : Ll u lo v' (ls ++ [[]]) := by
  refine ⟨vs ++ [.slice none 0 0], by simp [hvs], by simpa using k.ow, fun i a l ha hl => ?_, fun i a z ha hi hz g hg => ?_⟩
  · by_cases hlt : i < vs.length
    · rw [List.getElem?_append_left hlt] at ha
      rw [List.getElem?_append_left (by omega)] at hl
      exact (h3 i a l ha hl).got k (by decide)
    · have hi : i = vs.length := by
        have := (List.getElem?_eq_some_iff.1 ha).1
        simp at this
        omega
      subst hi
      rw [List.getElem?_append_right (by omega)] at ha
      rw [List.getElem?_append_right (by omega)] at hl
      simp [hvs] at ha hl
      subst hl
      rw [← ha]
      exact Ow.nil k.ow.le
  · rw [List.getLast?_append] at hz
    simp at hz
    rw [← hz]
    simp [Value.ownBlock]
theorem Ow.keep1 {w u : World} {lo sz n : Nat} {e : TypeId} {v : Value} {l : List Value} (h : Ow w lo e sz v n l) (hs : w.heap.size ≤ u.heap.size) (k : ∀ g, v.ownBlock = some g → u.heap[g]? = w.heap[g]?) : Ow u lo e sz v n l := by
  refine ⟨⟨h.own.1, ?_⟩, Nat.le_trans h.le hs⟩
  rcases h.own.2 with q | ⟨g, c, cur, hv, hg, hh, q⟩
  · exact Or.inl q
  · exact Or.inr ⟨g, c, cur, hv, hg, (k g (by rw [hv]; rfl)).trans hh, q⟩
/-- What an append to the last part's bytes comes to, ahead of its being laid back. -/
structure Gob (lo : Nat) (w w' : World) (a a' : Value) (n : Nat) (l : List Nat) : Prop where
  got : Got lo 5 1 w w' a a' n (ob l)
  blk : ∀ g, a'.ownBlock = some g → a.ownBlock = some g ∨ g = w.heap.size
theorem Ow.set_at {w : World} {lo n i g : Nat} {e : TypeId} {a : Option Addr} {c : Nat} {xs : List Value} (h : Ow w lo e 1 (.slice (some ⟨g, 0, none⟩) n c) n xs) (x : Value) (hi : i < n) (h1 : x.oneCell' = true) : Ow (w.setCell ⟨g, i, none⟩ x) lo e 1 (.slice (some ⟨g, 0, none⟩) n c) n (xs.set i x) := by
  have hl := h.own.1
  refine ⟨⟨by simpa using hl, ?_⟩, by simpa [World.setCell] using h.le⟩
  rcases h.own.2 with ⟨hv, h0⟩ | ⟨g', c', cur, hv, hg, hh, hc, hm, hs, ht⟩
  · cases hv
  · cases hv
    refine Or.inr ⟨g, c, cur.setIfInBounds i x, rfl, hg, ?_, hc, hm, by simpa using hs, ?_⟩
    · simp [World.setCell, Array.getElem?_modify, hh]
    · rw [Array.toList_setIfInBounds, List.take_set, ht]
theorem Ll.byte {w u : World} {lo n g c x : Nat} {ls : List (List Nat)} {l : List Nat} {vs : List Value} {a a' : Value} (h : Ll w lo (.slice (some ⟨g, 0, none⟩) (n + 1) c) ls) (hls : ls.length = n + 1) (hvs : vs.length = n + 1) (hl : ls[n]? = some l)
    (h2 : Ow w lo 23 1 (.slice (some ⟨g, 0, none⟩) (n + 1) c) (n + 1) vs) (h3 : ∀ (i : Nat) (a : Value) (l : List Nat), vs[i]? = some a → ls[i]? = some l → Ow w lo 5 1 a l.length (ob l)) (h4 : ∀ (i : Nat) (a z : Value), vs[i]? = some a → i + 1 < vs.length → vs.getLast? = some z → ∀ g, a.ownBlock = some g → z.ownBlock ≠ some g)
    (ha : vs[n]? = some a) (k : Gob lo w u a a' (l.length + 1) (l ++ [x])) (h1 : a'.oneCell' = true) : Ll (u.setCell ⟨g, n, none⟩ a') lo (.slice (some ⟨g, 0, none⟩) (n + 1) c) (ls.dropLast ++ [l ++ [x]]) := by
  have hlast : vs.getLast? = some a := by rw [List.getLast?_eq_getElem?, hvs, Nat.add_sub_cancel, ha]
  have hu := h2.got k.got (by decide)
  have hset := Ow.set_at (a := none) hu a' (i := n) (by omega) h1
  have kg : ∃ cs, u.heap[g]? = some (.cells cs 23 (0, 0)) := by
    rcases hu.own.2 with ⟨hv, h0⟩ | ⟨g', c', cur, hv, hg, hh, _⟩
    · cases hv
    · cases hv; exact ⟨_, hh⟩
  obtain ⟨cg, hcg⟩ := kg
  have hdl : ls.dropLast.length = n := by simp [hls]
  refine ⟨vs.set n a', by simp [hvs, hls], by simpa [hls] using hset, fun i b m hb hm => ?_, fun i b z hb hi hz gb hgb => ?_⟩
  · by_cases hin : i = n
    · rw [hin, List.getElem?_set_self (by omega)] at hb
      rw [hin, List.getElem?_append_right (by omega), hdl] at hm
      simp at hb hm
      subst hb hm
      have := k.got.ow.set (i := n) (x := a') (b := g) (cs := cg) (t := 23) hcg (by decide)
      simpa using this
    · rw [List.getElem?_set_ne (Ne.symm hin)] at hb
      have hilt : i < n := by have := (List.getElem?_eq_some_iff.1 hb).1; omega
      rw [List.getElem?_append_left (by omega), List.getElem?_dropLast, if_pos (by omega)] at hm
      have ho := h3 i b m hb hm
      refine (ho.keep1 k.got.size (fun gg hgg => ?_)).set (b := g) (cs := cg) (t := 23) hcg (by decide)
      exact k.got.kb gg (ho.lt_block hgg).2 (fun e => h4 i b a hb (by omega) hlast gg hgg e.symm)
  · rw [List.length_set] at hi
    have hin : i ≠ n := by omega
    rw [List.getElem?_set_ne (Ne.symm hin)] at hb
    have hz2 : z = a' := by
      rw [List.getLast?_eq_getElem?, List.length_set, hvs, Nat.add_sub_cancel, List.getElem?_set_self (by omega)] at hz
      simpa using hz.symm
    rw [hz2]
    intro e
    have hilt : i < n := by omega
    obtain ⟨m, hm⟩ : ∃ m, ls[i]? = some m := ⟨_, List.getElem?_eq_getElem (by omega)⟩
    rcases k.blk gb e with h5 | h5
    · exact h4 i b a hb (by omega) hlast gb hgb h5
    · have := ((h3 i b m hb hm).lt_block hgb).2
      omega
/-- What is known of a splitter and not told yet: rem; when it is told, the splitter is q. -/
structure Kn (w : World) (B : Nat) (D : List Nat) (q : Sp) (ed : Bool) (rem : List Nat) : Prop where
  ex : ∃ s td, Sm w B D s td ed ∧ s.kn ≤ s.hl.length ∧ ((s.kn = 0 ∧ td = 0 ∧ rem = [] ∧ q = s) ∨ (td < s.kn ∧ rem = (s.hl.take s.kn).drop td ∧ q = tk s))
section
variable {w u : World} {B : Nat} {D : List Nat} {q : Sp} {ed : Bool} {rem : List Nat}
theorem Kn.cells (h : Kn w B D q ed rem) : ∃ cs, Cells w B cs 48 := by obtain ⟨s, td, h1, _⟩ := h.ex; exact h1.cells
theorem Kn.lt (h : Kn w B D q ed rem) : B < w.heap.size := by obtain ⟨cs, h⟩ := h.cells; exact h.lt
theorem Kn.keep (h : Kn w B D q ed rem) (k : u.heap[B]? = w.heap[B]?) : Kn u B D q ed rem := by obtain ⟨s, td, h1, h2⟩ := h.ex; exact ⟨s, td, h1.keep k, h2⟩
theorem Kn.below (h : Kn w B D q ed rem) (k : Below w.heap.size w u) : Kn u B D q ed rem := h.keep (k.block B h.lt)
theorem Kn.got {lo n : Nat} {e : TypeId} {v v' : Value} {xs : List Value} (h : Kn w B D q ed rem) (k : Got lo e 1 w u v v' n xs) (he : 48 ≠ e) : Kn u B D q ed rem := by obtain ⟨s, td, h1, h2⟩ := h.ex; exact ⟨s, td, h1.got k he, h2⟩
theorem Kn.done (h : Kn w B D q ed []) : Sm w B D q 0 ed := by
  obtain ⟨s, td, h1, h2, h3 | ⟨h3, h4, _⟩⟩ := h.ex
  · obtain ⟨_, rfl, _, rfl⟩ := h3; exact h1
  · have := congrArg List.length h4
    simp at this
    omega
theorem Kn.of (s : Sp) (h : Sm w B D s 0 ed) (hk : s.kn ≤ s.hl.length) : Kn w B D (tk s) ed (out s) := by
  rcases Nat.eq_zero_or_pos s.kn with e | e
  · exact ⟨s, 0, h, hk, Or.inl ⟨e, rfl, out_nil e, tk_id e⟩⟩
  · exact ⟨s, 0, h, hk, Or.inr ⟨e, by simp [out], rfl⟩⟩
theorem nx_no (h : Kn w B D q ed []) (hk : q.kn = 0) : Calls Try.prog 19 #[.pointer (some ⟨B, 0, none⟩)] w fun e w' => e = .returned (.tuple #[.agg ev0, .bool false]) ∧ Below w.heap.size w w' := next_no w h.done hk
theorem nx_yes {g : Nat} {r : List Nat} (h : Kn w B D q ed (g :: r)) (hg : g < 258) : Calls Try.prog 19 #[.pointer (some ⟨B, 0, none⟩)] w fun e w' => e = .returned (.tuple #[.agg (evv g), .bool true]) ∧ Kn w' B D q ed r ∧ But B w w' := by
  obtain ⟨s, td, h1, h2, ⟨_, _, h3, _⟩ | ⟨h3, h4, h5⟩⟩ := h.ex
  · cases h3
  · have hx : s.hl[td]? = some g := by
      have := congrArg (·[0]?) h4
      simp only [List.getElem?_cons_zero, List.getElem?_drop, Nat.add_zero] at this
      rw [List.getElem?_take, if_pos h3] at this
      exact this.symm
    refine (next_yes g hx hg h2 h3 w h1).mono fun e w' k => ⟨k.1, ?_, k.2.2⟩
    have hr : r = (s.hl.take s.kn).drop (td + 1) := by
      have := congrArg List.tail h4
      simpa [List.tail_drop] using this
    by_cases hl : td + 1 = s.kn
    · rw [if_pos hl, if_pos hl] at k
      refine ⟨tk s, 0, k.2.1, by simp [tk], Or.inl ⟨rfl, rfl, ?_, h5⟩⟩
      rw [hr, List.drop_eq_nil_of_le (by simp; omega)]
    · rw [if_neg hl, if_neg hl] at k
      exact ⟨s, td + 1, k.2.1, h2, Or.inr ⟨by omega, hr, h5⟩⟩
end
/-- One byte behind an own list of bytes, at a step of a region that draws its order. -/
theorem step_gob {w : World} {ops : Array Oper} {o : Oper} {a : Act} {K : Act → World → Prop} {Q : Exit → Act → World → Prop} {E : Prop} (hgd : o.guard = none) (s x : Operand)
    (ho : o.op = .call { callee := .builtin .append, args := #[s, x], argTypes := #[23, 23] }) (lo : Nat) (v : Value) (k : Nat) (l : List Nat) (hs : a.eval s = v) (hown : Ow w lo 5 1 v k (ob l)) (hk : l.length = k)
    (b c y : Nat) (hx : a.eval x = .slice (some ⟨b, 0, none⟩) 1 c) (hl : w.cell? ⟨b, 0, none⟩ = some (.int .u8 (y : Int))) (hlen : k + 1 ≤ 140737488355328)
    (h : ∀ g cap w', Gob lo w w' v (.slice (some ⟨g, 0, none⟩) (k + 1) cap) (k + 1) (l ++ [y]) → K (a.put o.dst (.slice (some ⟨g, 0, none⟩) (k + 1) cap)) w') :
    if Region.wanted o (yielded ops a.tmps) = true then Oper.wp Try.prog o a w K Q else E := by
  obtain ⟨i, hi, hz0, hz1, hz2⟩ := ginfo_parts ginfo5
  refine step_append_lies w hgd s x 23 ho lo 5 i _ 1 1 Try.underlying23 hi hz0 hz1 hz2 rfl (by decide) v _ _ hs hown.own ⟨b, 0, none⟩ 1 c (ob [y]) hx (by rfl) (fun j u hj => ?_) ob_one (by decide) (by unfold maxLen; omega) (by omega) hown.le _ rfl fun g cap w' h2 h3 h4 _ => h g cap w' ⟨?_, ?_⟩
  · cases j with
    | zero => simp [ob] at hj; rw [← hj, addr_add]; exact hl
    | succ j => simp [ob] at hj
  · have := Got.mk' hown h2 h3
    rw [ob_append] at this
    exact this
  · intro g' hg'
    simp [Value.ownBlock] at hg'
    subst hg'
    exact h4
end Go.Proofs.Ytbndohpcaahenab

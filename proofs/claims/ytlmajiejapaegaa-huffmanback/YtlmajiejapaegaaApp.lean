/-
  append of numbers to an empty list of the call's own; a list of the call's own that is written.
-/
import Derived.Test.YtlmajiejapaegaaHu
import Derived.Laws.AppendOwnNone
namespace Go.Proofs.Ytlmajiejapaegaa
open Go.RowKit
set_option linter.unusedVariables false
def vz (l : List Int) : List Value := l.map (Value.int .i64)
theorem vz_length (l : List Int) : (vz l).length = l.length := by simp [vz]
theorem vz_get (l : List Int) (j : Nat) : (vz l)[j]? = (l[j]?).map (Value.int .i64) := by simp [vz]
theorem vz_one {l : List Int} : ∀ u ∈ vz l, u.oneCell' = true := by
  intro u hu
  obtain ⟨z, _, rfl⟩ := List.mem_map.1 hu
  rfl
theorem info3 : (Try.prog.info? 3).map (fun i => (i.zero, i.size, i.bytes)) = some (some (.int .i64 0), 1, 8) := by kernel_rfl
/-- A list of numbers of the call's own. -/
structure Apn (w w' : World) (base : Nat) (v' : Value) (l : List Int) : Prop where
  own : w'.ownsRow base 3 1 v' l.length (vz l)
  bel : Below base w w'
  le : base ≤ w'.heap.size
theorem Apn.shape {w w' : World} {base : Nat} {v' : Value} {l : List Int} (h : Apn w w' base v' l) : ∃ a c, v' = .slice a l.length c ∧ Lens w' a l ∧ l.length ≤ c ∧ (∀ b o s, a = some ⟨b, o, s⟩ → o = 0 ∧ s = none ∧ base ≤ b ∧ ∃ cur, Cells w' b cur 3 ∧ l.length ≤ cur.size) := by
  rcases h.own.2 with ⟨hv, h0⟩ | ⟨g, c, cur, hv, hg, hh, hc, hm, hs, ht⟩
  · exact ⟨none, 0, by rw [hv, h0], Or.inl (List.eq_nil_of_length_eq_zero h0), by omega, fun b o s e => by cases e⟩
  · refine ⟨_, c, hv, Or.inr ⟨g, 0, rfl, fun i x hx => ?_⟩, hc, fun b o s e => by cases e; exact ⟨rfl, rfl, hg, cur, hh, by omega⟩⟩
    rw [Nat.zero_add, Cells.cell (cs := cur) (t := 3) hh]
    have hi : i < l.length := (List.getElem?_eq_some_iff.1 hx).1
    have e : (cur.toList.take (l.length * 1))[i]? = some (.int .i64 x) := by rw [ht, vz_get, hx]; rfl
    rw [List.getElem?_take, if_pos (by omega)] at e
    simpa using e
theorem wpList_appn (w : World) {ops : Array Oper} {rest : List Oper} {o : Oper} {a : Act} {Q : Exit → Act → World → Prop} (hgd : o.guard = none) (s x : Operand)
    (ho : o.op = .call { callee := .builtin .append, args := #[s, x], argTypes := #[22, 22] }) (w0 : World) (hw : w = w0.alloc (.cells #[] 3)) (B : Nat) (hB : B = w0.heap.size) (hs : a.eval s = .slice (some ⟨B, 0, none⟩) 0 0)
    (ax : Option Addr) (m : List Int) (n c : Nat) (hnm : m.length = n) (hx : a.eval x = .slice ax n c) (hz : ax = none → n = 0 ∧ c = 0) (hl : Lens w0 ax m) (hlen : m.length * 8 ≤ 140737488355328)
    (h : ∀ v' w', Apn w0 w' w0.heap.size v' m → wpList Try.prog ops Q rest (a.put o.dst v') w') : wpList Try.prog ops Q (o :: rest) a w := by
  subst hnm
  subst hB
  subst hw
  obtain ⟨i0, hi, hz0, hz1, hz2⟩ := info_parts info3
  have hown : (w0.alloc (.cells #[] 3)).ownsRow w0.heap.size 3 1 (.slice (some ⟨w0.heap.size, 0, none⟩) 0 0) 0 [] := World.ownsRow_made (base := w0.heap.size) (e := 3) (size := 1) w0 #[] 0 (Nat.le_refl _) (by decide) rfl
  have b0 : Below w0.heap.size w0 (w0.alloc (.cells #[] 3)) := (Below.refl _ w0).alloc (Nat.le_refl _) _
  have le0 : w0.heap.size ≤ (w0.alloc (.cells #[] 3)).heap.size := by show _ ≤ (w0.heap.push _).size; simp
  cases ax with
  | none =>
    obtain ⟨h1, h2⟩ := hz rfl
    have hm : m = [] := List.eq_nil_of_length_eq_zero h1
    subst hm
    subst h2
    exact wpList_append_own_none hgd s x 22 ho w0.heap.size 3 i0 1 Try.underlying22 hi _ 0 [] hs hown hx (h _ _ ⟨hown, b0, le0⟩)
  | some ad =>
    refine wpList_append_own _ hgd s x 22 ho w0.heap.size 3 i0 (.int .i64 0) 1 8 Try.underlying22 hi hz0 hz1 hz2 rfl (by decide) _ 0 [] hs hown ad m.length c (vz m) hx (by rw [vz_length]; omega) ?_ vz_one (by unfold maxLen; omega) (by omega) le0 ?_
    · intro j u hj
      rw [vz_get] at hj
      rcases hl with rfl | ⟨b, off, ha, hc⟩
      · simp at hj
      · cases ha
        cases hq : m[j]? with
        | none => simp [hq] at hj
        | some y =>
          simp [hq] at hj
          rw [← hj]
          have h1 := hc j y hq
          rw [add_off]
          exact (b0.cell (p := ⟨b, off + j, none⟩) (World.block_lt_of_cell? w0 ⟨b, off + j, none⟩ h1)).trans h1
    · intro v' w' h2 h3 h4
      have hb : Below w0.heap.size (w0.alloc (.cells #[] 3)) w' := (Below.refl _ _).grown h3 le0 (fun k hk => by cases hk; exact Nat.le_refl _)
      refine h v' w' ⟨?_, b0.trans hb, Nat.le_trans le0 h3.size⟩
      rw [Nat.zero_add, List.nil_append] at h2
      exact h2
/-- Numbers that may be written, in a block from lo to hi. -/
def Wz (w : World) (a : Option Addr) (lo hi n : Nat) : Prop := n = 0 ∨ ∃ b cur, a = some ⟨b, 0, none⟩ ∧ lo ≤ b ∧ b < hi ∧ Cells w b cur 3 ∧ n ≤ cur.size
theorem Wz.below {w u : World} {a : Option Addr} {lo hi n B : Nat} (h : Wz w a lo hi n) (k : Below B w u) (hB : hi ≤ B) : Wz u a lo hi n := by
  rcases h with h | ⟨b, cur, e1, e2, e3, e4, e5⟩
  · exact Or.inl h
  · exact Or.inr ⟨b, cur, e1, e2, e3, e4.below k (by omega), e5⟩
/-- Blocks from lo to hi alone may have turned. -/
structure Mid (lo hi : Nat) (w w' : World) : Prop where
  os : w'.os = w.os
  tape : w'.tape = w.tape
  output : w'.output = w.output
  size : w'.heap.size = w.heap.size
  block : ∀ k, k < lo ∨ hi ≤ k → w'.heap[k]? = w.heap[k]?
theorem Mid.refl (lo hi : Nat) (w : World) : Mid lo hi w w := ⟨rfl, rfl, rfl, rfl, fun _ _ => rfl⟩
theorem Mid.set {lo hi : Nat} {w u : World} (h : Mid lo hi w u) {b : Nat} (h1 : lo ≤ b) (h2 : b < hi) (k : Nat) (v : Value) : Mid lo hi w (u.setCell ⟨b, k, none⟩ v) := by
  refine ⟨h.os, h.tape, h.output, ?_, fun j hj => ?_⟩
  · rw [← h.size]; simp [World.setCell]
  · rw [Below.heap_setCell _ _ _ _ (show j ≠ b by omega)]; exact h.block j hj
theorem Mid.below {lo hi : Nat} {w u : World} (h : Mid lo hi w u) : Below lo w u := ⟨h.os, h.tape, h.output, Nat.le_of_eq h.size.symm, fun k hk => h.block k (Or.inl hk)⟩
end Go.Proofs.Ytlmajiejapaegaa

/-
  How an argument that is a slice of structs of two bytes and two ints is opened: over any program.
-/
import Derived.Test.YtkdlcdincimnkaaDoorOpen
namespace Go.Proofs.YtkdlcdincimnkaaDoor
open Go.ChangeShapes Go.WideShapes Go.ChangeAt Go.RowKit
section
variable {H : Type} {enc : TypeId × Value → H} {P : Program} {w : World} {spare : Nat → Bool} {held : Bool}
/-- What is known of a slice of structs of two bytes and two ints: none, or a row of them in old memory. -/
def Acts (w : World) (a : Option Addr) (len : Nat) : Prop :=
  len = 0 ∨ ∃ (b off : Nat) (K X Z Y : Nat → Int), a = some ⟨b, off, none⟩ ∧ b < w.heap.size ∧
    ∀ i, i < len → w.cell? ⟨b, off + i * 4, none⟩ = some (.int .u8 (K i)) ∧ w.cell? ⟨b, off + i * 4 + 1, none⟩ = some (.int .u8 (X i)) ∧ w.cell? ⟨b, off + i * 4 + 2, none⟩ = some (.int .i64 (Z i)) ∧ w.cell? ⟨b, off + i * 4 + 3, none⟩ = some (.int .i64 (Y i)) ∧ (Lit.int .u8 (K i)).wf = true ∧ (Lit.int .i64 (Z i)).wf = true ∧ (Lit.int .i64 (Y i)).wf = true ∧ (Lit.int .u8 (X i)).wf = true

theorem open_acts {t e : TypeId} {f0 f1 f2 f3 : Field} {b0 : Nat} {r : Reach} {v : Value} {d : DataW H} {p : List MemPlace} (ht : P.underlying t = some (.slice e)) (he : P.underlying e = some (.struct #[f0, f1, f2, f3]))
    (ce : P.cellsOf e = 4) (o0 : f0.offset = 0) (o1 : f1.offset = 1) (o2 : f2.offset = 2) (o3 : f3.offset = 3) (c0 : P.cellsOf f0.type = 1) (c1 : P.cellsOf f1.type = 1) (c2 : P.cellsOf f2.type = 1) (c3 : P.cellsOf f3.type = 1)
    (u0 : P.underlying f0.type = some (.int .u8)) (u1 : P.underlying f1.type = some (.int .u8)) (u2 : P.underlying f2.type = some (.int .i64)) (u3 : P.underlying f3.type = some (.int .i64))
    (hv : Value.okWide P w r b0 t v) (h : DataW.Trod enc P w 0 spare held t v d p) :
    ∃ (a : Option Addr) (len cap : Nat), v = .slice a len cap ∧ len ≤ maxLen ∧ Acts w a len := by
  obtain ⟨a, len, cap, rfl⟩ := okWide_slice ht hv
  obtain ⟨fuel, hf⟩ := h
  rcases Deep.open_slice ht hf with ⟨hcs, _⟩ | ⟨a', len', cap', m, n, D, Pl, hcs, _, hl, hm, hmm, _, hx⟩
  · simp [Value.cells] at hcs
    obtain ⟨rfl, rfl, rfl⟩ := hcs
    exact ⟨_, _, _, rfl, Nat.zero_le _, Or.inl rfl⟩
  · simp [Value.cells] at hcs
    obtain ⟨rfl, rfl, rfl⟩ := hcs
    have hlm : len ≤ m := by rw [hmm]; split <;> omega
    by_cases h0 : len = 0
    · subst h0; exact ⟨_, _, _, rfl, Nat.zero_le _, Or.inl rfl⟩
    obtain ⟨b, off, spot⟩ := a'
    have each : ∀ i, i < len → ∃ q : Int × Int × Int × Int, w.cell? ((⟨b, off, spot⟩ : Addr).add (i * 4)) = some (.int .u8 q.1) ∧ w.cell? ((⟨b, off, spot⟩ : Addr).add (i * 4 + 1)) = some (.int .u8 q.2.1) ∧
        w.cell? ((⟨b, off, spot⟩ : Addr).add (i * 4 + 2)) = some (.int .i64 q.2.2.1) ∧ w.cell? ((⟨b, off, spot⟩ : Addr).add (i * 4 + 3)) = some (.int .i64 q.2.2.2) ∧ (Lit.int .u8 q.1).wf = true ∧ (Lit.int .i64 q.2.2.1).wf = true ∧ (Lit.int .i64 q.2.2.2).wf = true ∧ (Lit.int .u8 q.2.1).wf = true := by
      intro i hi
      obtain ⟨cs', h1, h2⟩ := hx i (by omega)
      rw [ce] at h1
      obtain ⟨_, hlen, hcell⟩ := World.cells?_some h1
      obtain ⟨xs, k, hk, hxy, _, hxl, hf⟩ := DataW.trod_struct he h2
      match xs, hxl, cs', hlen with
      | [y0, y1, y2, y3], _, [v0, v1, v2, v3], _ =>
        have g0 := hf 0 f0 rfl
        have g1 := hf 1 f1 rfl
        have g2 := hf 2 f2 rfl
        have g3 := hf 3 f3 rfl
        simp [o0, o1, o2, o3, c0, c1, c2, c3] at g0 g1 g2 g3
        have e0 := hcell 0 (by omega)
        have e1 := hcell 1 (by omega)
        have e2 := hcell 2 (by omega)
        have e3 := hcell 3 (by omega)
        rw [Deep.add_add] at e0 e1 e2 e3
        obtain ⟨z0, hz0, _, hw0⟩ := DataW.trod_int u0 g0
        obtain ⟨z1, hz1, _, hw1⟩ := DataW.trod_int u1 g1
        obtain ⟨z2, hz2, _, hw2⟩ := DataW.trod_int u2 g2
        obtain ⟨z3, hz3, _, hw3⟩ := DataW.trod_int u3 g3
        simp only [List.cons.injEq, and_true] at hz0 hz1 hz2 hz3
        subst hz0 hz1 hz2 hz3
        exact ⟨(z0, z1, z2, z3), by simpa using e0, by simpa using e1, by simpa using e2, by simpa using e3, hw0, hw2, hw3, hw1⟩
    obtain ⟨q, hq⟩ := Deep.choose_lt each
    have g := (hq 0 (by omega)).1
    have hs : spot = none := by simpa [Addr.add] using World.cell?_spot g
    subst hs
    have hb : b < w.heap.size := by
      apply Decidable.byContradiction
      intro hn
      simp [Addr.add, World.cell?, Array.getElem?_eq_none (Nat.le_of_not_lt hn)] at g
    refine ⟨_, len, cap, rfl, by omega, Or.inr ⟨b, off, fun i => (q i).1, fun i => (q i).2.1, fun i => (q i).2.2.1, fun i => (q i).2.2.2, rfl, hb, ?_⟩⟩
    intro i hi
    obtain ⟨g0, g1, g2, g3, g4, g5, g6, g7⟩ := hq i hi
    have hadd : ∀ j, (⟨b, off, none⟩ : Addr).add j = ⟨b, off + j, none⟩ := fun j => by unfold Addr.add; split <;> simp_all
    rw [hadd] at g0 g1 g2 g3
    exact ⟨g0, by rw [Nat.add_assoc]; exact g1, by rw [Nat.add_assoc]; exact g2, by rw [Nat.add_assoc]; exact g3, g4, g5, g6, g7⟩
end
end Go.Proofs.YtkdlcdincimnkaaDoor

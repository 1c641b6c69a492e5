/-
  How an argument that is a slice of arrays of two ints is opened: over any program.
-/
import Derived.Test.YtbepbjbbhenphaaDoorOpen
namespace Go.Proofs.YtbepbjbbhenphaaDoor
open Go.ChangeShapes Go.WideShapes Go.ChangeAt Go.RowKit
section
variable {H : Type} {enc : TypeId × Value → H} {P : Program} {w : World} {spare : Nat → Bool} {held : Bool}
/-- What is known of a slice of arrays of two ints: none, or a row of them in old memory. -/
def Pairs (w : World) (a : Option Addr) (len : Nat) : Prop :=
  len = 0 ∨ ∃ (b off : Nat) (X Y : Nat → Int), a = some ⟨b, off, none⟩ ∧ b < w.heap.size ∧
    ∀ i, i < len → w.cell? ⟨b, off + i * 2, none⟩ = some (.int .i64 (X i)) ∧ w.cell? ⟨b, off + i * 2 + 1, none⟩ = some (.int .i64 (Y i)) ∧ (Lit.int .i64 (X i)).wf = true ∧ (Lit.int .i64 (Y i)).wf = true

theorem open_asks {t e f : TypeId} {b0 : Nat} {r : Reach} {v : Value} {d : DataW H} {p : List MemPlace} (ht : P.underlying t = some (.slice e)) (he : P.underlying e = some (.array 2 f))
    (ce : P.cellsOf e = 2) (cf : P.cellsOf f = 1) (uf : P.underlying f = some (.int .i64))
    (hv : Value.okWide P w r b0 t v) (h : DataW.Trod enc P w 0 spare held t v d p) :
    ∃ (a : Option Addr) (len cap : Nat), v = .slice a len cap ∧ len ≤ maxLen ∧ Pairs w a len := by
  obtain ⟨a, len, cap, rfl⟩ := okWide_slice ht hv
  obtain ⟨fuel, hf⟩ := h
  rcases Deep.open_slice ht hf with ⟨hcs, _⟩ | ⟨a', len', cap', m, n, D, Pl, hcs, _, hl, hm, hmm, _, hx⟩
  · simp [Value.cells] at hcs
    obtain ⟨rfl, rfl, rfl⟩ := hcs
    exact ⟨_, _, _, rfl, Nat.zero_le _, Or.inl rfl⟩
  · simp [Value.cells] at hcs
    obtain ⟨rfl, rfl, rfl⟩ := hcs
    have hlm : len ≤ m := by rw [hmm]; split <;> omega
    by_cases h0 : len = 0
    · subst h0; exact ⟨_, _, _, rfl, Nat.zero_le _, Or.inl rfl⟩
    obtain ⟨b, off, spot⟩ := a'
    have each : ∀ i, i < len → ∃ q : Int × Int, w.cell? ((⟨b, off, spot⟩ : Addr).add (i * 2)) = some (.int .i64 q.1) ∧ w.cell? ((⟨b, off, spot⟩ : Addr).add (i * 2 + 1)) = some (.int .i64 q.2) ∧ (Lit.int .i64 q.1).wf = true ∧ (Lit.int .i64 q.2).wf = true := by
      intro i hi
      obtain ⟨cs', h1, h2⟩ := hx i (by omega)
      rw [ce] at h1
      obtain ⟨_, hlen, hcell⟩ := World.cells?_some h1
      obtain ⟨xs, k, _, _, _, hxl, hf⟩ := DataW.trod_array he h2
      match xs, hxl, cs', hlen with
      | [y0, y1], _, [v0, v1], _ =>
        have g0 := hf 0 (by omega)
        have g1 := hf 1 (by omega)
        simp [cf] at g0 g1
        have e0 := hcell 0 (by omega)
        have e1 := hcell 1 (by omega)
        rw [Deep.add_add] at e0 e1
        obtain ⟨z0, hz0, _, hw0⟩ := DataW.trod_int uf g0
        obtain ⟨z1, hz1, _, hw1⟩ := DataW.trod_int uf g1
        simp only [List.cons.injEq, and_true] at hz0 hz1
        subst hz0 hz1
        exact ⟨(z0, z1), by simpa using e0, by simpa using e1, hw0, hw1⟩
    obtain ⟨q, hq⟩ := Deep.choose_lt each
    have g := (hq 0 (by omega)).1
    have hs : spot = none := by simpa [Addr.add] using World.cell?_spot g
    subst hs
    have hb : b < w.heap.size := by
      apply Decidable.byContradiction
      intro hn
      simp [Addr.add, World.cell?, Array.getElem?_eq_none (Nat.le_of_not_lt hn)] at g
    refine ⟨_, len, cap, rfl, by omega, Or.inr ⟨b, off, fun i => (q i).1, fun i => (q i).2, rfl, hb, ?_⟩⟩
    intro i hi
    obtain ⟨g0, g1, g2, g3⟩ := hq i hi
    have hadd : ∀ j, (⟨b, off, none⟩ : Addr).add j = ⟨b, off + j, none⟩ := fun j => by unfold Addr.add; split <;> simp_all
    rw [hadd] at g0 g1
    exact ⟨g0, by rw [Nat.add_assoc]; exact g1, g2, g3⟩
end
end Go.Proofs.YtbepbjbbhenphaaDoor

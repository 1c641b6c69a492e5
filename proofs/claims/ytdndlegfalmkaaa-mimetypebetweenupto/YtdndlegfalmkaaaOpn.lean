/-
  How an argument that is a type is opened: its texts, its list of fields, and how much they hold; slices of bytes.
-/
import Derived.Test.YtdndlegfalmkaaaRows
import Derived.Test.YtdndlegfalmkaaaRen
import Derived.ProofKit
import Derived.OpenShut
import Derived.Deep.Slices
import Derived.ChangeSame
import Derived.SizedLaws
import Derived.Deep.SlicePairs
import Derived.Lib.SmallJoins
namespace Go.Proofs.Ytdndlegfalmkaaa
open Go.ChangeShapes Go.WideShapes Go.ChangeAt Go.RowKit
set_option linter.unusedVariables false
theorem bulk_wt {H : Type} (f : Nat → Fd) (g : Nat → DataW H) : ∀ xs : List Nat, (∀ i ∈ xs, (f i).1.length + (f i).2.length + 1 ≤ Rows.uptoBulk (g i)) → wt (xs.map f) ≤ Rows.uptoBulkAll (xs.map g)
  | [], _ => Nat.zero_le _
  | i :: xs, h => by
    have h1 := h i (by simp)
    have h2 := bulk_wt f g xs (fun j hj => h j (by simp [hj]))
    rw [List.map_cons, List.map_cons, wt_cons, Rows.uptoBulkAll]
    omega
theorem fl_of {w : World} {a : Option Addr} {C b off len : Nat} (ha : a = some ⟨b, off, none⟩) (q : Nat → ByteArray × ByteArray) (hq : ∀ i, i < len → w.cell? ⟨b, off + i * 2, none⟩ = some (.string (q i).1) ∧ w.cell? ⟨b, off + i * 2 + 1, none⟩ = some (.string (q i).2)) : FL w (.slice a len C) ((List.range len).map fun i => (bl (q i).1, bl (q i).2)) := by
  refine ⟨a, C, by simp, Or.inr ⟨b, off, ha, fun i f hf => ?_⟩⟩
  have hi : i < len := by
    obtain ⟨hi, _⟩ := List.getElem?_eq_some_iff.1 hf
    simpa using hi
  simp [hi] at hf
  rw [← hf]
  simp only [st_bl]
  exact hq i hi
/-- A slice of fields within what came in. -/
theorem open_fs {H : Type} {enc : TypeId × Value → H} {w : World} {held : Bool} {fuel : Nat} {v : Value} {x : DataW H × List MemPlace} (hf : DataW.trod enc Try.prog w 0 (fun _ => true) held fuel 22 [v] = some x) :
    ∃ (a : Option Addr) (T : List Fd) (L C : Nat), v = .slice a L C ∧ FL w (.slice a L C) T ∧ OctF T ∧ wt T ≤ Rows.uptoBulk x.1 ∧ (a = none → L = 0 ∧ C = 0) ∧ L ≤ C := by
  rcases Deep.open_slice_pairs Try.underlying22 Try.underlying29 (by kernel_rfl) rfl rfl (by kernel_rfl) (by kernel_rfl) hf with ⟨hcs, _⟩ | ⟨a', len, cap, m, n, V0, V1, D0, D1, P0, P1, hcs, _, hl, hm, hmm, hxe, hx⟩
  · simp at hcs
    subst hcs
    exact ⟨none, [], 0, 0, rfl, ⟨none, 0, rfl, Or.inl rfl⟩, by simp [OctF], by simp [wt], fun _ => ⟨rfl, rfl⟩, Nat.le_refl _⟩
  · simp at hcs
    subst hcs
    have hlm : len ≤ m := by rw [hmm]; split <;> omega
    by_cases h0 : len = 0
    · subst h0
      exact ⟨_, [], 0, cap, rfl, ⟨_, cap, rfl, Or.inl rfl⟩, by simp [OctF], by simp [wt], (fun h => by cases h), by omega⟩
    obtain ⟨b, off, spot⟩ := a'
    have g := (hx 0 (by omega)).1
    have hs : spot = none := by simpa [Addr.add] using World.cell?_spot g
    subst hs
    have each : ∀ i, i < len → ∃ q : ByteArray × ByteArray, (w.cell? ⟨b, off + i * 2, none⟩ = some (.string q.1) ∧ w.cell? ⟨b, off + i * 2 + 1, none⟩ = some (.string q.2)) ∧ D0 i = .lit (.string q.1.data.toList) ∧ D1 i = .lit (.string q.2.data.toList) := by
      intro i hi
      obtain ⟨g0, g1, g2, g3⟩ := hx i (by omega)
      obtain ⟨x, hx0, hx1, hxm⟩ := DataW.trod_string Try.underlying9 g2
      obtain ⟨y, hy0, hy1, hym⟩ := DataW.trod_string Try.underlying9 g3
      simp only [List.cons.injEq, and_true] at hx0 hy0
      rw [hx0, addr_add] at g0
      rw [hy0, addr_add] at g1
      exact ⟨(x, y), ⟨g0, by rw [Nat.add_assoc]; exact g1⟩, (Prod.mk.inj hx1).1, (Prod.mk.inj hy1).1⟩
    obtain ⟨q, hq⟩ := Deep.choose_lt each
    refine ⟨_, (List.range len).map fun i => (bl (q i).1, bl (q i).2), len, cap, rfl, fl_of rfl q (fun i hi => (hq i hi).1), ?_, ?_, (fun h => by cases h), hl⟩
    · intro f hf
      obtain ⟨i, _, rfl⟩ := List.mem_map.1 hf
      exact ⟨bl_oct _, bl_oct _⟩
    · rw [hxe]
      have := bulk_wt (H := H) (fun i => (bl (q i).1, bl (q i).2)) (fun i => .agg [D0 i, D1 i]) (List.range len) (fun i hi => by
        obtain ⟨_, e0, e1⟩ := hq i (List.mem_range.1 hi)
        rw [e0, e1]
        simp only [Rows.uptoBulk, Rows.uptoBulkAll, bl, List.length_map]
        omega)
      rw [Rows.uptoBulk]
      omega
/-- A type that came in. -/
theorem open_t {H : Type} {enc : TypeId × Value → H} {w : World} {b0 : Nat} {r : Reach} {held : Bool} {v : Value} {d : DataW H} {p : List MemPlace}
    (hv : Value.okWide Try.prog w r b0 24 v) (h : DataW.Trod enc Try.prog w 0 (fun _ => true) held 24 v d p) :
    ∃ (m s : List Nat) (a : Option Addr) (T : List Fd) (L C : Nat), v = .agg #[.string (st m), .string (st s), .slice a L C] ∧ FL w (.slice a L C) T ∧ OctF T ∧ Oct m ∧ Oct s ∧ m.length + s.length + wt T ≤ Rows.uptoBulk d ∧ (a = none → L = 0 ∧ C = 0) ∧ L ≤ C := by
  obtain ⟨v0, v1, v2, y0, y1, y2, n, rfl, hd, _, h0, h1, h2⟩ := Go.Joins.open_agg3 (P := Try.prog) Try.underlying24 (by kernel_rfl) (by kernel_rfl) hv h
  obtain ⟨x, hx0, hx1, _⟩ := DataW.trod_string Try.underlying9 h0
  obtain ⟨y, hy0, hy1, _⟩ := DataW.trod_string Try.underlying9 h1
  simp only [List.cons.injEq, and_true] at hx0 hy0
  subst hx0
  subst hy0
  obtain ⟨a, T, L, C, rfl, f1, f2, f3, f4, f5⟩ := open_fs h2
  refine ⟨bl x, bl y, a, T, L, C, by rw [st_bl, st_bl], f1, f2, bl_oct _, bl_oct _, ?_, f4, f5⟩
  rw [hd, hx1, hy1]
  simp only [Rows.uptoBulk, Rows.uptoBulkAll, bl, List.length_map]
  omega
end Go.Proofs.Ytdndlegfalmkaaa

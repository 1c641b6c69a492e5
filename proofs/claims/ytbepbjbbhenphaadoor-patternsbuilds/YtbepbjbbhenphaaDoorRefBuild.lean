/-
  What the document's Build comes to.
  Conditions: the patterns lie in memory.
-/
import Derived.Test.YtbepbjbbhenphaaDoorRefKin
import Derived.Deep.RegionLaw
namespace Go.Proofs.YtbepbjbbhenphaaDoor
open Go.RowKit
set_option linter.unusedVariables false
theorem info68 : (Tryd.prog.info? 65).map (fun i => (i.zero, i.size, i.bytes)) = some (some (.agg #[.int .u8 0, .int .i64 0]), 2, 16) := by kernel_rfl
theorem info47 : (Tryd.prog.info? 36).map (fun i => (i.zero, i.size, i.bytes)) = some (some (.slice none 0 0), 1, 24) := by kernel_rfl
theorem info63 : (Tryd.prog.info? 63).map (fun i => (i.zero, i.size, i.bytes)) = some (some (.slice none 0 0), 1, 24) := by kernel_rfl
set_option maxHeartbeats 1000000 in
theorem rbuild_err (a : Option Addr) (ps : List (List Nat)) (L C : Nat) (w : World) (hp : Rows2 w a ps) (hL : ps.length = L) (hLC : L ≤ C) (hC : L < 140737488355328) (he : chk ps ≠ 0) :
    Calls Tryd.prog 14 #[.slice a L C] w fun e w' => e = .returned (.tuple #[.pointer none, .int .i64 (chk ps : Nat)]) ∧ Drawn w w' := by
  have hc := rcheck_c a ps L C w hp hL hLC hC
  obtain ⟨z, hz⟩ : ∃ z, chk ps = z := ⟨_, rfl⟩
  rw [hz] at hc he ⊢
  have h0 : ((z : Int) != 0) = true := by rw [bne_iff_ne]; omega
  have h1 : ¬ (z : Int) = 0 := by omega
  clear hp hL hLC hC he hz
  go_enter Tryd.func14, Tryd.ntmps14
  go_wp2_with (go_at_call 9; refine hc.mono ?_; rintro e2 w2 ⟨rfl, hd2⟩)
  first | go_ret | go_ret2
  exact ⟨rfl, hd2⟩
/-- The machine with the state 0 alone. -/
theorem rb_zero (w0 w : World) (pa : Option Addr) (PL PC : Nat) (hb : Below w0.heap.size w0 w) :
    ∀ u, u = ((((w.alloc (.cells #[] 5)).alloc (.cells #[.slice (some ⟨w.heap.size, 0, none⟩) 0 0] 36)).alloc (.cells #[] 65)).alloc (.cells #[.slice (some ⟨w.heap.size + 2, 0, none⟩) 0 0] 63)).alloc (.cells #[.slice pa PL PC, .slice (some ⟨w.heap.size + 1, 0, none⟩) 1 1, .slice (some ⟨w.heap.size + 3, 0, none⟩) 1 1] 40) →
      RB w0 u (w.heap.size + 4) pa PL PC [[]] [[]] (.slice (some ⟨w.heap.size + 1, 0, none⟩) 1 1) (.slice (some ⟨w.heap.size + 3, 0, none⟩) 1 1) [.slice (some ⟨w.heap.size, 0, none⟩) 0 0] [.slice (some ⟨w.heap.size + 2, 0, none⟩) 0 0] := by
  rintro u rfl
  have hs := hb.size
  have g1 : ∀ (x : World) (o : Obj), (x.alloc o).heap[x.heap.size]? = some o := fun x o => by show (x.heap.push _)[_]? = _; simp
  have g2 : ∀ (x : World) (o : Obj) (k : Nat), k < x.heap.size → (x.alloc o).heap[k]? = x.heap[k]? := fun x o k h => Below.heap_alloc x o k h
  have sz : ∀ (x : World) (o : Obj), (x.alloc o).heap.size = x.heap.size + 1 := fun x o => by show (x.heap.push _).size = _; simp
  obtain ⟨w1, h1⟩ : ∃ w1, w1 = w.alloc (.cells #[] 5) := ⟨_, rfl⟩
  obtain ⟨w2, h2⟩ : ∃ w2, w2 = w1.alloc (.cells #[.slice (some ⟨w.heap.size, 0, none⟩) 0 0] 36) := ⟨_, rfl⟩
  obtain ⟨w3, h3⟩ : ∃ w3, w3 = w2.alloc (.cells #[] 65) := ⟨_, rfl⟩
  obtain ⟨w4, h4⟩ : ∃ w4, w4 = w3.alloc (.cells #[.slice (some ⟨w.heap.size + 2, 0, none⟩) 0 0] 63) := ⟨_, rfl⟩
  obtain ⟨w5, h5⟩ : ∃ w5, w5 = w4.alloc (.cells #[.slice pa PL PC, .slice (some ⟨w.heap.size + 1, 0, none⟩) 1 1, .slice (some ⟨w.heap.size + 3, 0, none⟩) 1 1] 40) := ⟨_, rfl⟩
  rw [← h1, ← h2, ← h3, ← h4, ← h5]
  have s1 : w1.heap.size = w.heap.size + 1 := by rw [h1, sz]
  have s2 : w2.heap.size = w.heap.size + 2 := by rw [h2, sz, s1]
  have s3 : w3.heap.size = w.heap.size + 3 := by rw [h3, sz, s2]
  have s4 : w4.heap.size = w.heap.size + 4 := by rw [h4, sz, s3]
  have c2 : w5.heap[w.heap.size + 1]? = some (.cells #[.slice (some ⟨w.heap.size, 0, none⟩) 0 0] 36) := by
    rw [h5, g2 w4 _ _ (by omega), h4, g2 w3 _ _ (by omega), h3, g2 w2 _ _ (by omega), h2, ← s1]; exact g1 w1 _
  have c3 : w5.heap[w.heap.size + 2]? = some (.cells #[] 65) := by
    rw [h5, g2 w4 _ _ (by omega), h4, g2 w3 _ _ (by omega), h3, ← s2]; exact g1 w2 _
  have c4 : w5.heap[w.heap.size + 3]? = some (.cells #[.slice (some ⟨w.heap.size + 2, 0, none⟩) 0 0] 63) := by
    rw [h5, g2 w4 _ _ (by omega), h4, ← s3]; exact g1 w3 _
  have c5 : w5.heap[w.heap.size + 4]? = some (.cells #[.slice pa PL PC, .slice (some ⟨w.heap.size + 1, 0, none⟩) 1 1, .slice (some ⟨w.heap.size + 3, 0, none⟩) 1 1] 40) := by
    rw [h5, ← s4]; exact g1 w4 _
  refine ⟨c5, by omega, ⟨rfl, Or.inr ⟨_, 1, _, rfl, by omega, c2, Nat.le_refl _, by decide, rfl, rfl⟩⟩, ?_, ⟨rfl, Or.inr ⟨_, 1, _, rfl, by omega, c4, Nat.le_refl _, by decide, rfl, rfl⟩⟩, ?_, ?_, ?_⟩
  · intro s u hu
    have h0 : s = 0 := by have := at_lt hu; simpa using this
    subst h0
    have e1 : [] = u := by simpa using hu
    subst e1
    exact ⟨_, 0, rfl, Or.inl rfl, Nat.le_refl _, by decide, fun e => by cases e⟩
  · intro s l hl
    have h0 : s = 0 := by have := at_lt hl; simpa using this
    subst h0
    have e1 : [] = l := by simpa using hl
    subst e1
    exact ⟨_, rfl, ⟨rfl, Or.inr ⟨_, 0, _, rfl, by omega, c3, Nat.le_refl _, by decide, rfl, rfl⟩⟩⟩
  · intro s s' v v' g hne ha hb
    have h0 := at_lt ha
    have h0' := at_lt hb
    simp at h0 h0'
    omega
  · have b1 : Below w0.heap.size w0 w1 := by rw [h1]; exact hb.alloc hs _
    have b2 : Below w0.heap.size w0 w2 := by rw [h2]; exact b1.alloc (by omega) _
    have b3 : Below w0.heap.size w0 w3 := by rw [h3]; exact b2.alloc (by omega) _
    have b4 : Below w0.heap.size w0 w4 := by rw [h4]; exact b3.alloc (by omega) _
    rw [h5]; exact b4.alloc (by omega) _
end Go.Proofs.YtbepbjbbhenphaaDoor

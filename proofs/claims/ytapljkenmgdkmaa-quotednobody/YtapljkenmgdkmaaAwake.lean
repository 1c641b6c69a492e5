/-
  What the laws' first look comes to: the document's examples.
-/
import Derived.Test.YtapljkenmgdkmaaWrc
import Derived.Laws.IdiomStrings
import Derived.Lib.SlBytesConst
namespace Go.Proofs.Ytapljkenmgdkmaa
open Go.RowKit
set_option linter.unusedVariables false
def exA : List Nat := [97, 61, 51, 68, 98, 32, 13, 10, 61, 10]
def exB : List Nat := [97, 98, 99, 100, 101, 102]
theorem exA_rn : rn 0 .no [] exA = ⟨[97, 61, 98, 13, 10], [0, 3, 4, 7, 7], 0, 10⟩ := by rfl
theorem exB_wr : wri 4 0 exB = [97, 98, 99, 61, 13, 10, 100, 101, 102] := by simp [exB, wri_cons, wri_nil, crlf, pc, stn, isB]
theorem wid4 : wid 4 = 4 := by decide
/-- Bytes of a list of the call's own as a string. -/
theorem conv_ob {w : World} {lo : Nat} {v : Value} {l : List Nat} (h : Ob w lo v l) (hl : l ≠ []) (bs : List UInt8) (hb : l = bs.map UInt8.toNat) : (convert 22 9 v).run Try.prog w = .ok (.string ⟨bs.toArray⟩) w := by
  obtain ⟨va, vc, hv, hvc, hlies, hvn⟩ := h.shape
  obtain ⟨g, off, hva, hc⟩ : ∃ g off, va = some ⟨g, off, none⟩ ∧ ∀ (i x : Nat), l[i]? = some x → w.cell? ⟨g, off + i, none⟩ = some (.int .u8 (x : Int)) := by
    rcases hlies with e | ⟨g, off, e, h⟩
    · exact absurd e hl
    · exact ⟨g, off, e, h⟩
  subst hva
  have hlen : l.length = bs.length := by rw [hb]; simp
  rw [hlen] at hv
  subst hv
  refine run_convert_bytes_back w 22 9 5 ⟨g, off, none⟩ vc bs Try.underlying22 Try.underlying5 Try.underlying9 fun j hj => ?_
  rw [addr_add]
  refine hc j _ ?_
  rw [hb]
  simp [List.getElem?_eq_getElem hj]
set_option maxRecDepth 20000 in
set_option maxHeartbeats 1000000 in
theorem awake_c (w : World) : Calls Try.prog 12 #[] w fun e w' => e = .returned (.bool true) ∧ Below w.heap.size w w' := by
  obtain ⟨B, hB⟩ : ∃ B, w.heap.size = B := ⟨_, rfl⟩
  obtain ⟨w1, hw1⟩ : ∃ w1, w1 = w.alloc (.cells (ob exA).toArray 5 (10, 11)) := ⟨_, rfl⟩
  have b1 : Below B w w1 := by rw [hw1, ← hB]; exact (Below.refl _ w).alloc (Nat.le_refl _) _
  have hl : Lies w1 (some ⟨B, 0, none⟩) exA := by rw [hw1]; exact lies_new w B hB exA _
  have hcv : (convert 22 22 (.slice (some ⟨B, 0, none⟩) 10 10)).run Try.prog (w.alloc (.cells #[.int .u8 97, .int .u8 61, .int .u8 51, .int .u8 68, .int .u8 98, .int .u8 32, .int .u8 13, .int .u8 10, .int .u8 61, .int .u8 10] 5)) = .ok (.slice (some ⟨B, 0, none⟩) 10 10) w1 := by
    rw [hw1, ← hB]
    exact Lib.run_convert_bytes_const w 22 5 _ 10 10 Try.underlying22 Try.underlying5
  have hwh := whole_c w1 (some ⟨B, 0, none⟩) exA 10 10 hl rfl (by decide) (by unfold Oct exA; decide)
  have hs1 : B ≤ w1.heap.size := by have := b1.size; omega
  unfold WhTo at hwh
  rw [exA_rn] at hwh
  have A1 : Aside (Below B w w1 ∧ B ≤ w1.heap.size) := ⟨b1, hs1⟩
  rw [hB]
  clear b1 hl hs1 hw1
  go_enter Try.func12, Try.ntmps12
  go_upto_region 2 with (go_at_call 9; refine hwh.mono ?_; rintro e2 w2 ⟨vo, he, hob, hb2⟩
                         obtain rfl := (show e2 = .returned (.tuple #[vo, .int .i64 0, .int .i64 10]) from he))
  have hconv := conv_ob hob (by simp) [97, 61, 98, 13, 10] rfl
  obtain ⟨H, hH⟩ : ∃ H, w2.heap.size = H := ⟨_, rfl⟩
  obtain ⟨w3, hw3⟩ : ∃ w3, w3 = w2.alloc (.cells (ob exB).toArray 5 (6, 7)) := ⟨_, rfl⟩
  have b3 : Below H w2 w3 := by rw [hw3, ← hH]; exact (Below.refl _ w2).alloc (Nat.le_refl _) _
  have hl3 : Lies w3 (some ⟨H, 0, none⟩) exB := by rw [hw3]; exact lies_new w2 H hH exB _
  have hcv3 : (convert 22 22 (.slice (some ⟨H, 0, none⟩) 6 6)).run Try.prog (w2.alloc (.cells #[.int .u8 97, .int .u8 98, .int .u8 99, .int .u8 100, .int .u8 101, .int .u8 102] 5)) = .ok (.slice (some ⟨H, 0, none⟩) 6 6) w3 := by
    rw [hw3, ← hH]
    exact Lib.run_convert_bytes_const w2 22 5 _ 6 6 Try.underlying22 Try.underlying5
  have hwr := write_c w3 (some ⟨H, 0, none⟩) exB 6 6 4 hl3 rfl (by decide) (by decide) (by unfold Oct exB; decide) (fun h => by cases h)
  rw [wid4, exB_wr] at hwr
  have a1 := A1.out
  have hs2 := hb2.size
  have A2 : Aside (Below B w w3 ∧ B ≤ w3.heap.size) := ⟨(a1.1.trans (hb2.mono a1.2)).trans (b3.mono (by omega)), by have := b3.size; omega⟩
  clear hob hb2 hwh b3 hl3 a1 hs2 hw3 hcv
  go_wp2_with (go_at_call 19; refine hwr.mono ?_; rintro e4 w4 ⟨v4, rfl, hob4, hb4⟩; have hconv4 := conv_ob hob4 (by simp) [97, 98, 99, 61, 13, 10, 100, 101, 102] rfl)
  first | go_ret | go_ret2
  exact ⟨rfl, A2.out.1.trans (hb4.mono A2.out.2)⟩
end Go.Proofs.Ytapljkenmgdkmaa

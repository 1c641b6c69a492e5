/-
  What End of the splitter comes to.
-/
import Derived.Test.YtbndohpcaahenabNex
namespace Go.Proofs.Ytbndohpcaahenab
open Go.RowKit
set_option linter.unusedVariables false
section
variable {B td : Nat} {D : List Nat} {s : Sp} {ed : Bool} {P1 P2 P3 : World → Prop}
set_option maxHeartbeats 400000 in
theorem end_40 (w : World) (c1 : w.cell? ⟨B, 1, none⟩ = some (.func (.func 24) #[] #[])) (hop : Calls Try.prog 18 #[.pointer (some ⟨B, 0, none⟩)] w fun e w' => e = .returned (.bool true) ∧ w = w') (hst : Calls Try.prog 24 #[.pointer (some ⟨B, 0, none⟩), .int .u16 258] w fun e w' => e = .returned (.tuple #[]) ∧ P1 w') (k1 : ∀ w2, P1 w2 → Calls Try.prog 20 #[.pointer (some ⟨B, 0, none⟩), .int .u16 257] w2 fun e w' => e = .returned (.tuple #[]) ∧ P2 w') (k2 : ∀ w4, P2 w4 → Calls Try.prog 21 #[.pointer (some ⟨B, 0, none⟩)] w4 fun e w' => e = .returned (.tuple #[]) ∧ P3 w') (k3 : ∀ w5, P3 w5 → (∃ b, w5.cell? ⟨B, 104, none⟩ = some (.bool b)) ∧ w5.frozen? ⟨B, 104, none⟩ = false) : Calls Try.prog 13 #[.pointer (some ⟨B, 0, none⟩)] w fun e w' => e = .returned (.tuple #[]) ∧ ∃ w5, P3 w5 ∧ w' = w5.setCell ⟨B, 104, none⟩ (.bool true) := by
  have K1 : Aside _ := k1
  have K2 : Aside _ := k2
  have K3 : Aside _ := k3
  clear k1 k2 k3
  go_enter Try.func13, Try.ntmps13
  go_upto_region 1 with (go_at_call 18; refine hop.mono ?_; rintro e1 w1 ⟨rfl, rfl⟩)
  go_upto_region 2 with (go_at_call 24; refine hst.mono ?_; rintro e2 w2 ⟨rfl, h3⟩)
  have hadd := K1.out w2 h3
  clear hst hop c1
  go_upto_region 3 with (go_at_call 20; refine hadd.mono ?_; rintro e4 w4 ⟨rfl, h4⟩)
  have hkn := K2.out w4 h4
  clear hadd
  go_upto_region 4 with (go_at_call 21; refine hkn.mono ?_; rintro e5 w5 ⟨rfl, h5⟩)
  obtain ⟨⟨b, d1⟩, z1⟩ := K3.out w5 h5
  clear hkn
  go_wp2_with fail
  first | go_end0 | (refine bodyPost_ret (results_none rfl _ _ _) rfl ?_)
  exact ⟨rfl, w5, h5, rfl⟩
set_option maxHeartbeats 400000 in
theorem end_45 (w : World) (c1 : w.cell? ⟨B, 1, none⟩ = some (.func (.func 29) #[] #[])) (hop : Calls Try.prog 18 #[.pointer (some ⟨B, 0, none⟩)] w fun e w' => e = .returned (.bool true) ∧ w = w') (hst : Calls Try.prog 29 #[.pointer (some ⟨B, 0, none⟩), .int .u16 258] w fun e w' => e = .returned (.tuple #[]) ∧ P1 w') (k1 : ∀ w2, P1 w2 → Calls Try.prog 20 #[.pointer (some ⟨B, 0, none⟩), .int .u16 257] w2 fun e w' => e = .returned (.tuple #[]) ∧ P2 w') (k2 : ∀ w4, P2 w4 → Calls Try.prog 21 #[.pointer (some ⟨B, 0, none⟩)] w4 fun e w' => e = .returned (.tuple #[]) ∧ P3 w') (k3 : ∀ w5, P3 w5 → (∃ b, w5.cell? ⟨B, 104, none⟩ = some (.bool b)) ∧ w5.frozen? ⟨B, 104, none⟩ = false) : Calls Try.prog 13 #[.pointer (some ⟨B, 0, none⟩)] w fun e w' => e = .returned (.tuple #[]) ∧ ∃ w5, P3 w5 ∧ w' = w5.setCell ⟨B, 104, none⟩ (.bool true) := by
  have K1 : Aside _ := k1
  have K2 : Aside _ := k2
  have K3 : Aside _ := k3
  clear k1 k2 k3
  go_enter Try.func13, Try.ntmps13
  go_upto_region 1 with (go_at_call 18; refine hop.mono ?_; rintro e1 w1 ⟨rfl, rfl⟩)
  go_upto_region 2 with (go_at_call 29; refine hst.mono ?_; rintro e2 w2 ⟨rfl, h3⟩)
  have hadd := K1.out w2 h3
  clear hst hop c1
  go_upto_region 3 with (go_at_call 20; refine hadd.mono ?_; rintro e4 w4 ⟨rfl, h4⟩)
  have hkn := K2.out w4 h4
  clear hadd
  go_upto_region 4 with (go_at_call 21; refine hkn.mono ?_; rintro e5 w5 ⟨rfl, h5⟩)
  obtain ⟨⟨b, d1⟩, z1⟩ := K3.out w5 h5
  clear hkn
  go_wp2_with fail
  first | go_end0 | (refine bodyPost_ret (results_none rfl _ _ _) rfl ?_)
  exact ⟨rfl, w5, h5, rfl⟩
set_option maxHeartbeats 400000 in
theorem end_48 (w : World) (c1 : w.cell? ⟨B, 1, none⟩ = some (.func (.func 32) #[] #[])) (hop : Calls Try.prog 18 #[.pointer (some ⟨B, 0, none⟩)] w fun e w' => e = .returned (.bool true) ∧ w = w') (hst : Calls Try.prog 32 #[.pointer (some ⟨B, 0, none⟩), .int .u16 258] w fun e w' => e = .returned (.tuple #[]) ∧ P1 w') (k1 : ∀ w2, P1 w2 → Calls Try.prog 20 #[.pointer (some ⟨B, 0, none⟩), .int .u16 257] w2 fun e w' => e = .returned (.tuple #[]) ∧ P2 w') (k2 : ∀ w4, P2 w4 → Calls Try.prog 21 #[.pointer (some ⟨B, 0, none⟩)] w4 fun e w' => e = .returned (.tuple #[]) ∧ P3 w') (k3 : ∀ w5, P3 w5 → (∃ b, w5.cell? ⟨B, 104, none⟩ = some (.bool b)) ∧ w5.frozen? ⟨B, 104, none⟩ = false) : Calls Try.prog 13 #[.pointer (some ⟨B, 0, none⟩)] w fun e w' => e = .returned (.tuple #[]) ∧ ∃ w5, P3 w5 ∧ w' = w5.setCell ⟨B, 104, none⟩ (.bool true) := by
  have K1 : Aside _ := k1
  have K2 : Aside _ := k2
  have K3 : Aside _ := k3
  clear k1 k2 k3
  go_enter Try.func13, Try.ntmps13
  go_upto_region 1 with (go_at_call 18; refine hop.mono ?_; rintro e1 w1 ⟨rfl, rfl⟩)
  go_upto_region 2 with (go_at_call 32; refine hst.mono ?_; rintro e2 w2 ⟨rfl, h3⟩)
  have hadd := K1.out w2 h3
  clear hst hop c1
  go_upto_region 3 with (go_at_call 20; refine hadd.mono ?_; rintro e4 w4 ⟨rfl, h4⟩)
  have hkn := K2.out w4 h4
  clear hadd
  go_upto_region 4 with (go_at_call 21; refine hkn.mono ?_; rintro e5 w5 ⟨rfl, h5⟩)
  obtain ⟨⟨b, d1⟩, z1⟩ := K3.out w5 h5
  clear hkn
  go_wp2_with fail
  first | go_end0 | (refine bodyPost_ret (results_none rfl _ _ _) rfl ?_)
  exact ⟨rfl, w5, h5, rfl⟩
set_option maxHeartbeats 400000 in
theorem end_49 (w : World) (c1 : w.cell? ⟨B, 1, none⟩ = some (.func (.func 33) #[] #[])) (hop : Calls Try.prog 18 #[.pointer (some ⟨B, 0, none⟩)] w fun e w' => e = .returned (.bool true) ∧ w = w') (hst : Calls Try.prog 33 #[.pointer (some ⟨B, 0, none⟩), .int .u16 258] w fun e w' => e = .returned (.tuple #[]) ∧ P1 w') (k1 : ∀ w2, P1 w2 → Calls Try.prog 20 #[.pointer (some ⟨B, 0, none⟩), .int .u16 257] w2 fun e w' => e = .returned (.tuple #[]) ∧ P2 w') (k2 : ∀ w4, P2 w4 → Calls Try.prog 21 #[.pointer (some ⟨B, 0, none⟩)] w4 fun e w' => e = .returned (.tuple #[]) ∧ P3 w') (k3 : ∀ w5, P3 w5 → (∃ b, w5.cell? ⟨B, 104, none⟩ = some (.bool b)) ∧ w5.frozen? ⟨B, 104, none⟩ = false) : Calls Try.prog 13 #[.pointer (some ⟨B, 0, none⟩)] w fun e w' => e = .returned (.tuple #[]) ∧ ∃ w5, P3 w5 ∧ w' = w5.setCell ⟨B, 104, none⟩ (.bool true) := by
  have K1 : Aside _ := k1
  have K2 : Aside _ := k2
  have K3 : Aside _ := k3
  clear k1 k2 k3
  go_enter Try.func13, Try.ntmps13
  go_upto_region 1 with (go_at_call 18; refine hop.mono ?_; rintro e1 w1 ⟨rfl, rfl⟩)
  go_upto_region 2 with (go_at_call 33; refine hst.mono ?_; rintro e2 w2 ⟨rfl, h3⟩)
  have hadd := K1.out w2 h3
  clear hst hop c1
  go_upto_region 3 with (go_at_call 20; refine hadd.mono ?_; rintro e4 w4 ⟨rfl, h4⟩)
  have hkn := K2.out w4 h4
  clear hadd
  go_upto_region 4 with (go_at_call 21; refine hkn.mono ?_; rintro e5 w5 ⟨rfl, h5⟩)
  obtain ⟨⟨b, d1⟩, z1⟩ := K3.out w5 h5
  clear hkn
  go_wp2_with fail
  first | go_end0 | (refine bodyPost_ret (results_none rfl _ _ _) rfl ?_)
  exact ⟨rfl, w5, h5, rfl⟩
set_option maxHeartbeats 400000 in
theorem end_53 (w : World) (c1 : w.cell? ⟨B, 1, none⟩ = some (.func (.func 36) #[] #[])) (hop : Calls Try.prog 18 #[.pointer (some ⟨B, 0, none⟩)] w fun e w' => e = .returned (.bool true) ∧ w = w') (hst : Calls Try.prog 36 #[.pointer (some ⟨B, 0, none⟩), .int .u16 258] w fun e w' => e = .returned (.tuple #[]) ∧ P1 w') (k1 : ∀ w2, P1 w2 → Calls Try.prog 20 #[.pointer (some ⟨B, 0, none⟩), .int .u16 257] w2 fun e w' => e = .returned (.tuple #[]) ∧ P2 w') (k2 : ∀ w4, P2 w4 → Calls Try.prog 21 #[.pointer (some ⟨B, 0, none⟩)] w4 fun e w' => e = .returned (.tuple #[]) ∧ P3 w') (k3 : ∀ w5, P3 w5 → (∃ b, w5.cell? ⟨B, 104, none⟩ = some (.bool b)) ∧ w5.frozen? ⟨B, 104, none⟩ = false) : Calls Try.prog 13 #[.pointer (some ⟨B, 0, none⟩)] w fun e w' => e = .returned (.tuple #[]) ∧ ∃ w5, P3 w5 ∧ w' = w5.setCell ⟨B, 104, none⟩ (.bool true) := by
  have K1 : Aside _ := k1
  have K2 : Aside _ := k2
  have K3 : Aside _ := k3
  clear k1 k2 k3
  go_enter Try.func13, Try.ntmps13
  go_upto_region 1 with (go_at_call 18; refine hop.mono ?_; rintro e1 w1 ⟨rfl, rfl⟩)
  go_upto_region 2 with (go_at_call 36; refine hst.mono ?_; rintro e2 w2 ⟨rfl, h3⟩)
  have hadd := K1.out w2 h3
  clear hst hop c1
  go_upto_region 3 with (go_at_call 20; refine hadd.mono ?_; rintro e4 w4 ⟨rfl, h4⟩)
  have hkn := K2.out w4 h4
  clear hadd
  go_upto_region 4 with (go_at_call 21; refine hkn.mono ?_; rintro e5 w5 ⟨rfl, h5⟩)
  obtain ⟨⟨b, d1⟩, z1⟩ := K3.out w5 h5
  clear hkn
  go_wp2_with fail
  first | go_end0 | (refine bodyPost_ret (results_none rfl _ _ _) rfl ?_)
  exact ⟨rfl, w5, h5, rfl⟩
set_option maxHeartbeats 400000 in
theorem end_47 (w : World) (c1 : w.cell? ⟨B, 1, none⟩ = some (.func (.func 31) #[] #[])) (hop : Calls Try.prog 18 #[.pointer (some ⟨B, 0, none⟩)] w fun e w' => e = .returned (.bool true) ∧ w = w') (hst : Calls Try.prog 31 #[.pointer (some ⟨B, 0, none⟩), .int .u16 258] w fun e w' => e = .returned (.tuple #[]) ∧ P1 w') (k1 : ∀ w2, P1 w2 → Calls Try.prog 20 #[.pointer (some ⟨B, 0, none⟩), .int .u16 257] w2 fun e w' => e = .returned (.tuple #[]) ∧ P2 w') (k2 : ∀ w4, P2 w4 → Calls Try.prog 21 #[.pointer (some ⟨B, 0, none⟩)] w4 fun e w' => e = .returned (.tuple #[]) ∧ P3 w') (k3 : ∀ w5, P3 w5 → (∃ b, w5.cell? ⟨B, 104, none⟩ = some (.bool b)) ∧ w5.frozen? ⟨B, 104, none⟩ = false) : Calls Try.prog 13 #[.pointer (some ⟨B, 0, none⟩)] w fun e w' => e = .returned (.tuple #[]) ∧ ∃ w5, P3 w5 ∧ w' = w5.setCell ⟨B, 104, none⟩ (.bool true) := by
  have K1 : Aside _ := k1
  have K2 : Aside _ := k2
  have K3 : Aside _ := k3
  clear k1 k2 k3
  go_enter Try.func13, Try.ntmps13
  go_upto_region 1 with (go_at_call 18; refine hop.mono ?_; rintro e1 w1 ⟨rfl, rfl⟩)
  go_upto_region 2 with (go_at_call 31; refine hst.mono ?_; rintro e2 w2 ⟨rfl, h3⟩)
  have hadd := K1.out w2 h3
  clear hst hop c1
  go_upto_region 3 with (go_at_call 20; refine hadd.mono ?_; rintro e4 w4 ⟨rfl, h4⟩)
  have hkn := K2.out w4 h4
  clear hadd
  go_upto_region 4 with (go_at_call 21; refine hkn.mono ?_; rintro e5 w5 ⟨rfl, h5⟩)
  obtain ⟨⟨b, d1⟩, z1⟩ := K3.out w5 h5
  clear hkn
  go_wp2_with fail
  first | go_end0 | (refine bodyPost_ret (results_none rfl _ _ _) rfl ?_)
  exact ⟨rfl, w5, h5, rfl⟩
set_option maxHeartbeats 400000 in
theorem end_51 (w : World) (c1 : w.cell? ⟨B, 1, none⟩ = some (.func (.func 34) #[] #[])) (hop : Calls Try.prog 18 #[.pointer (some ⟨B, 0, none⟩)] w fun e w' => e = .returned (.bool true) ∧ w = w') (hst : Calls Try.prog 34 #[.pointer (some ⟨B, 0, none⟩), .int .u16 258] w fun e w' => e = .returned (.tuple #[]) ∧ P1 w') (k1 : ∀ w2, P1 w2 → Calls Try.prog 20 #[.pointer (some ⟨B, 0, none⟩), .int .u16 257] w2 fun e w' => e = .returned (.tuple #[]) ∧ P2 w') (k2 : ∀ w4, P2 w4 → Calls Try.prog 21 #[.pointer (some ⟨B, 0, none⟩)] w4 fun e w' => e = .returned (.tuple #[]) ∧ P3 w') (k3 : ∀ w5, P3 w5 → (∃ b, w5.cell? ⟨B, 104, none⟩ = some (.bool b)) ∧ w5.frozen? ⟨B, 104, none⟩ = false) : Calls Try.prog 13 #[.pointer (some ⟨B, 0, none⟩)] w fun e w' => e = .returned (.tuple #[]) ∧ ∃ w5, P3 w5 ∧ w' = w5.setCell ⟨B, 104, none⟩ (.bool true) := by
  have K1 : Aside _ := k1
  have K2 : Aside _ := k2
  have K3 : Aside _ := k3
  clear k1 k2 k3
  go_enter Try.func13, Try.ntmps13
  go_upto_region 1 with (go_at_call 18; refine hop.mono ?_; rintro e1 w1 ⟨rfl, rfl⟩)
  go_upto_region 2 with (go_at_call 34; refine hst.mono ?_; rintro e2 w2 ⟨rfl, h3⟩)
  have hadd := K1.out w2 h3
  clear hst hop c1
  go_upto_region 3 with (go_at_call 20; refine hadd.mono ?_; rintro e4 w4 ⟨rfl, h4⟩)
  have hkn := K2.out w4 h4
  clear hadd
  go_upto_region 4 with (go_at_call 21; refine hkn.mono ?_; rintro e5 w5 ⟨rfl, h5⟩)
  obtain ⟨⟨b, d1⟩, z1⟩ := K3.out w5 h5
  clear hkn
  go_wp2_with fail
  first | go_end0 | (refine bodyPost_ret (results_none rfl _ _ _) rfl ?_)
  exact ⟨rfl, w5, h5, rfl⟩
set_option maxHeartbeats 400000 in
theorem end_54 (w : World) (c1 : w.cell? ⟨B, 1, none⟩ = some (.func (.func 37) #[] #[])) (hop : Calls Try.prog 18 #[.pointer (some ⟨B, 0, none⟩)] w fun e w' => e = .returned (.bool true) ∧ w = w') (hst : Calls Try.prog 37 #[.pointer (some ⟨B, 0, none⟩), .int .u16 258] w fun e w' => e = .returned (.tuple #[]) ∧ P1 w') (k1 : ∀ w2, P1 w2 → Calls Try.prog 20 #[.pointer (some ⟨B, 0, none⟩), .int .u16 257] w2 fun e w' => e = .returned (.tuple #[]) ∧ P2 w') (k2 : ∀ w4, P2 w4 → Calls Try.prog 21 #[.pointer (some ⟨B, 0, none⟩)] w4 fun e w' => e = .returned (.tuple #[]) ∧ P3 w') (k3 : ∀ w5, P3 w5 → (∃ b, w5.cell? ⟨B, 104, none⟩ = some (.bool b)) ∧ w5.frozen? ⟨B, 104, none⟩ = false) : Calls Try.prog 13 #[.pointer (some ⟨B, 0, none⟩)] w fun e w' => e = .returned (.tuple #[]) ∧ ∃ w5, P3 w5 ∧ w' = w5.setCell ⟨B, 104, none⟩ (.bool true) := by
  have K1 : Aside _ := k1
  have K2 : Aside _ := k2
  have K3 : Aside _ := k3
  clear k1 k2 k3
  go_enter Try.func13, Try.ntmps13
  go_upto_region 1 with (go_at_call 18; refine hop.mono ?_; rintro e1 w1 ⟨rfl, rfl⟩)
  go_upto_region 2 with (go_at_call 37; refine hst.mono ?_; rintro e2 w2 ⟨rfl, h3⟩)
  have hadd := K1.out w2 h3
  clear hst hop c1
  go_upto_region 3 with (go_at_call 20; refine hadd.mono ?_; rintro e4 w4 ⟨rfl, h4⟩)
  have hkn := K2.out w4 h4
  clear hadd
  go_upto_region 4 with (go_at_call 21; refine hkn.mono ?_; rintro e5 w5 ⟨rfl, h5⟩)
  obtain ⟨⟨b, d1⟩, z1⟩ := K3.out w5 h5
  clear hkn
  go_wp2_with fail
  first | go_end0 | (refine bodyPost_ret (results_none rfl _ _ _) rfl ?_)
  exact ⟨rfl, w5, h5, rfl⟩
theorem end_yes (ho : Oct D) (hD : D.length ≤ 72) (hk : Okm D s) (w : World) (h : Sm w B D s td false) : Calls Try.prog 13 #[.pointer (some ⟨B, 0, none⟩)] w fun e w' => e = .returned (.tuple #[]) ∧ Sm w' B D (en D s) td true ∧ Only B w w' := by
  have hop : Calls Try.prog 18 #[.pointer (some ⟨B, 0, none⟩)] w fun e w' => e = .returned (.bool true) ∧ w = w' := (open_c w h).mono fun e w' k => ⟨by rw [k.1, hk.kn]; rfl, k.2.symm⟩
  obtain ⟨hf, hst⟩ := step_c 258 ho hD hk w h
  have c1 := h.k1
  have hl := len_end ho s (hk.lt hD)
  have k1 : ∀ w2, (Sm w2 B D (stp D 258 s) td false ∧ Only B w w2) → Calls Try.prog 20 #[.pointer (some ⟨B, 0, none⟩), .int .u16 257] w2 fun e w' => e = .returned (.tuple #[]) ∧ (Sm w' B D (add 257 (stp D 258 s)) td false ∧ Only B w w') := fun w2 h3 => (add_c 257 hl w2 h3.1).mono fun e w' k => ⟨k.1, k.2.1, h3.2.trans k.2.2⟩
  have k2 : ∀ w4, (Sm w4 B D (add 257 (stp D 258 s)) td false ∧ Only B w w4) → Calls Try.prog 21 #[.pointer (some ⟨B, 0, none⟩)] w4 fun e w' => e = .returned (.tuple #[]) ∧ (Sm w' B D (en D s) td false ∧ Only B w w') := fun w4 h4 => (know_c w4 h4.1).mono fun e w' k => ⟨k.1, k.2.1, h4.2.trans k.2.2⟩
  have k3 : ∀ w5, (Sm w5 B D (en D s) td false ∧ Only B w w5) → (∃ b, w5.cell? ⟨B, 104, none⟩ = some (.bool b)) ∧ w5.frozen? ⟨B, 104, none⟩ = false := fun w5 h5 => ⟨⟨_, h5.1.k104⟩, h5.1.fz 104⟩
  have fin : ∀ (e : Ending) (w' : World), (e = .returned (.tuple #[]) ∧ ∃ w5, (Sm w5 B D (en D s) td false ∧ Only B w w5) ∧ w' = w5.setCell ⟨B, 104, none⟩ (.bool true)) → e = .returned (.tuple #[]) ∧ Sm w' B D (en D s) td true ∧ Only B w w' := by
    rintro e w' ⟨h1, w5, h5, rfl⟩
    exact ⟨h1, h5.1.set104 true, h5.2.setCell _ _⟩
  generalize fno s.md = k at *
  rcases hf with rfl | rfl | rfl | rfl | rfl | rfl | rfl | rfl
  · exact (end_40 w c1 hop hst k1 k2 k3).mono fin
  · exact (end_45 w c1 hop hst k1 k2 k3).mono fin
  · exact (end_48 w c1 hop hst k1 k2 k3).mono fin
  · exact (end_49 w c1 hop hst k1 k2 k3).mono fin
  · exact (end_53 w c1 hop hst k1 k2 k3).mono fin
  · exact (end_47 w c1 hop hst k1 k2 k3).mono fin
  · exact (end_51 w c1 hop hst k1 k2 k3).mono fin
  · exact (end_54 w c1 hop hst k1 k2 k3).mono fin
end
end Go.Proofs.Ytbndohpcaahenab

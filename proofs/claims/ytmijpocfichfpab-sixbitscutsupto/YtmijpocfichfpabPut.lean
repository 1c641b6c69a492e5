/-
  The decoder: what Put, End and Reset come to.
-/
import Derived.Test.YtmijpocfichfpabAdd
namespace Go.Proofs.Ytmijpocfichfpab
open Go.RowKit
set_option linter.unusedVariables false
/-- The bits that were not told yet, as the highest ones. -/
def rst (pl : Nat) (p : Bool) (pv : Nat) : Nat := if p = true ∨ pl = 0 then 0 else pv * 4 ^ pl % 256
/-- The decoder's cells. -/
def Dd (w : World) (B pl : Nat) (p : Bool) (pv y : Nat) : Prop := Cells w B #[.int .u8 pl, .int .u8 (rst pl p pv), .bool (p && pl == 3), .bool (p && pl == 0), .int .i64 y] 43
theorem set4 {w : World} {B : Nat} {v0 v1 v2 v3 v4 : Value} {t : TypeId} (h : Cells w B #[v0, v1, v2, v3, v4] t) (u : Value) : Cells (w.setCell ⟨B, 4, none⟩ u) B #[v0, v1, v2, v3, u] t := by
  have := h.set 4 u
  simpa using this
theorem set03 {w : World} {B : Nat} {v0 v1 v2 v3 v4 : Value} {t : TypeId} (h : Cells w B #[v0, v1, v2, v3, v4] t) (u : Value) : Cells (w.setCell ⟨B, 3, none⟩ u) B #[v0, v1, v2, u, v4] t := by
  have := h.set 3 u
  simpa using this
theorem five {w : World} {B : Nat} {v0 v1 v2 v3 v4 : Value} {t : TypeId} (h : Cells w B #[v0, v1, v2, v3, v4] t) : w.cell? ⟨B, 0, none⟩ = some v0 ∧ w.cell? ⟨B, 1, none⟩ = some v1 ∧ w.cell? ⟨B, 2, none⟩ = some v2 ∧ w.cell? ⟨B, 3, none⟩ = some v3 ∧ w.cell? ⟨B, 4, none⟩ = some v4 :=
  ⟨h.cell 0, h.cell 1, h.cell 2, h.cell 3, h.cell 4⟩
theorem end_why (B y : Nat) (a r : Int) (pd la : Bool) (hy : y ≠ 0) (w : World) (h : Cells w B #[.int .u8 a, .int .u8 r, .bool pd, .bool la, .int .i64 y] 43) : Calls Try.prog 12 #[.pointer (some ⟨B, 0, none⟩)] w fun e w' => e = .returned (.int .i64 y) ∧ w' = w := by
  obtain ⟨c0, c1, c2, c3, c4⟩ := five h
  have h1 : ((y : Int) == 0) = false := by rw [beq_eq_false_iff_ne]; omega
  have h2 : (y : Int) ≠ 0 := by omega
  go_enter Try.func12, Try.ntmps12
  go_wp2_with fail
  go_ret
  exact ⟨rfl, rfl⟩
theorem end_no (B : Nat) (la : Bool) (w : World) (h : Cells w B #[.int .u8 0, .int .u8 0, .bool false, .bool la, .int .i64 0] 43) : Calls Try.prog 12 #[.pointer (some ⟨B, 0, none⟩)] w fun e w' => e = .returned (.int .i64 0) ∧ Cells w' B #[.int .u8 0, .int .u8 0, .bool false, .bool la, .int .i64 0] 43 ∧ But B w w' := by
  obtain ⟨c0, c1, c2, c3, c4⟩ := five h
  have hbn := begun_no w
  go_enter Try.func12, Try.ntmps12
  go_upto_region 5 with (go_at_call 16; refine hbn.mono ?_; rintro e1 w1 ⟨rfl, hb⟩)
  have h1 := h.below hb h.lt
  have A : Aside (Cells w1 B #[.int .u8 0, .int .u8 0, .bool false, .bool la, .int .i64 0] 43 ∧ But B w w1) := ⟨h1, But.of_below hb⟩
  clear c0 c1 c2 c3 c4 hbn
  obtain ⟨c0, c1, c2, c3, c4⟩ := five h1
  go_wp2_with fail
  go_ret
  exact ⟨rfl, A.out⟩
theorem end_cut (B a r : Nat) (pd la : Bool) (ha : a ≠ 0) (w : World) (h : Cells w B #[.int .u8 a, .int .u8 r, .bool pd, .bool la, .int .i64 0] 43) : Calls Try.prog 12 #[.pointer (some ⟨B, 0, none⟩)] w fun e w' => e = .returned (.int .i64 1) ∧ Cells w' B #[.int .u8 a, .int .u8 r, .bool pd, .bool la, .int .i64 1] 43 ∧ But B w w' := by
  obtain ⟨c0, c1, c2, c3, c4⟩ := five h
  have hbn := begun_yes a r pd ha w
  go_enter Try.func12, Try.ntmps12
  go_upto_region 4 with (go_at_call 16; refine hbn.mono ?_; rintro e1 w1 ⟨rfl, hb⟩)
  have h1 := h.below hb h.lt
  have A : Aside (Cells w1 B #[.int .u8 a, .int .u8 r, .bool pd, .bool la, .int .i64 0] 43 ∧ But B w w1) := ⟨h1, But.of_below hb⟩
  clear c0 c1 c2 c3 c4 hbn
  obtain ⟨c0, c1, c2, c3, c4⟩ := five h1
  have f4 := h1.frozen 4
  go_wp2_with fail
  go_ret
  exact ⟨rfl, set4 A.out.1 _, A.out.2.trans (But.of_only (((Only.refl B w1).setCell 4 _)))⟩
theorem pad_few (B a r : Nat) (pd la : Bool) (ha : a < 2) (w : World) (h : Cells w B #[.int .u8 a, .int .u8 r, .bool pd, .bool la, .int .i64 0] 43) : Calls Try.prog 14 #[.pointer (some ⟨B, 0, none⟩)] w fun e w' => e = .returned (.tuple #[]) ∧ Cells w' B #[.int .u8 a, .int .u8 r, .bool pd, .bool la, .int .i64 21] 43 ∧ But B w w' := by
  obtain ⟨c0, c1, c2, c3, c4⟩ := five h
  have f4 := h.frozen 4
  have A : Aside (Cells w B #[.int .u8 a, .int .u8 r, .bool pd, .bool la, .int .i64 0] 43) := h
  clear h
  rcases (show a = 0 ∨ a = 1 by omega) with rfl | rfl
  all_goals
    go_enter Try.func14, Try.ntmps14
    go_wp2_with fail
    first | go_end0 | (refine bodyPost_ret (results_none rfl _ _ _) rfl ?_)
    exact ⟨rfl, set4 A.out _, (But.of_only (((Only.refl B w).setCell 4 _)))⟩
theorem pad_two (B r : Nat) (pd la : Bool) (w : World) (h : Cells w B #[.int .u8 2, .int .u8 r, .bool pd, .bool la, .int .i64 0] 43) : Calls Try.prog 14 #[.pointer (some ⟨B, 0, none⟩)] w fun e w' => e = .returned (.tuple #[]) ∧ Cells w' B #[.int .u8 3, .int .u8 0, .bool true, .bool la, .int .i64 0] 43 ∧ But B w w' := by
  obtain ⟨c0, c1, c2, c3, c4⟩ := five h
  have f0 := h.frozen 0
  have f1 := h.frozen 1
  have f2 := h.frozen 2
  have A : Aside (Cells w B #[.int .u8 2, .int .u8 r, .bool pd, .bool la, .int .i64 0] 43) := h
  clear h
  go_enter Try.func14, Try.ntmps14
  go_wp2_with fail
  first | go_end0 | (refine bodyPost_ret (results_none rfl _ _ _) rfl ?_)
  exact ⟨rfl, set3 A.out _ _ _, But.of_only ((only3 (Only.refl B w) _ _ _))⟩
theorem pad_three (B r : Nat) (pd la : Bool) (w : World) (h : Cells w B #[.int .u8 3, .int .u8 r, .bool pd, .bool la, .int .i64 0] 43) : Calls Try.prog 14 #[.pointer (some ⟨B, 0, none⟩)] w fun e w' => e = .returned (.tuple #[]) ∧ Cells w' B #[.int .u8 0, .int .u8 0, .bool false, .bool true, .int .i64 0] 43 ∧ But B w w' := by
  obtain ⟨c0, c1, c2, c3, c4⟩ := five h
  have f0 := h.frozen 0
  have f1 := h.frozen 1
  have f2 := h.frozen 2
  have f3 := h.frozen 3
  have A : Aside (Cells w B #[.int .u8 3, .int .u8 r, .bool pd, .bool la, .int .i64 0] 43) := h
  clear h
  go_enter Try.func14, Try.ntmps14
  go_wp2_with fail
  first | go_end0 | (refine bodyPost_ret (results_none rfl _ _ _) rfl ?_)
  exact ⟨rfl, set03 (set3 A.out _ _ _) _, But.of_only (((only3 (Only.refl B w) _ _ _).setCell 3 _))⟩
end Go.Proofs.Ytmijpocfichfpab

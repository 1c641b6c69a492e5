/-
  What New of the splitter comes to.
-/
import Derived.Test.YtbndohpcaahenabVlc
import Derived.Test.YtbndohpcaahenabStp
import Derived.Test.YtbndohpcaahenabInv
namespace Go.Proofs.Ytbndohpcaahenab
open Go.RowKit
set_option linter.unusedVariables false
/-- A new splitter's cells, but for the step. -/
def nw (v : Value) : Nat → Value := fun j => if j = 0 then v else if j = 1 then .nilFunc else if j = 4 then .bool false else if 5 ≤ j ∧ j < 99 then .int .u16 0 else if 102 ≤ j then .bool false else .int .i64 0
theorem line_n (w : World) (B : Nat) (v : Value) (h : Cells w B (cz (nw v)) 48) : Calls Try.prog 17 #[.pointer (some ⟨B, 0, none⟩)] w fun e w' => e = .returned (.tuple #[]) ∧ Cells w' B (cz (upd (upd (upd (upd (nw v) 2 (.int .i64 0)) 3 (.int .i64 0)) 4 (.bool false)) 1 (fnv 0))) 48 ∧ Only B w w' := by
  have c1 : w.cell? ⟨B, 1, none⟩ = some .nilFunc := by rw [h.cell, cz_at _ (by decide)]; rfl
  have c2 : w.cell? ⟨B, 2, none⟩ = some (.int .i64 0) := by rw [h.cell, cz_at _ (by decide)]; rfl
  have c3 : w.cell? ⟨B, 3, none⟩ = some (.int .i64 0) := by rw [h.cell, cz_at _ (by decide)]; rfl
  have c4 : w.cell? ⟨B, 4, none⟩ = some (.bool false) := by rw [h.cell, cz_at _ (by decide)]; rfl
  have z1 := h.frozen 1
  have z2 := h.frozen 2
  have z3 := h.frozen 3
  have z4 := h.frozen 4
  have hA : Aside (Cells w B (cz (nw v)) 48) := h
  clear h
  go_enter Try.func17, Try.ntmps17
  go_wp2_with fail
  first | go_end0 | (refine bodyPost_ret (results_none rfl _ _ _) rfl ?_)
  refine ⟨rfl, ?_, ((((Only.refl B w).setCell _ _).setCell _ _).setCell _ _).setCell _ _⟩
  have := (((hA.out.set 2 (.int .i64 0)).set 3 (.int .i64 0)).set 4 (.bool false)).set 1 (fnv 0)
  rw [cz_set, cz_set, cz_set, cz_set] at this
  exact this
theorem zv62 (w : World) : (zeroValue 48).run Try.prog w = .ok (.agg (cz (nw (.string ⟨#[]⟩)))) w := by kernel_rfl
theorem sf_new (D : List Nat) : Sf (upd (upd (upd (upd (nw (.string (st D))) 2 (.int .i64 0)) 3 (.int .i64 0)) 4 (.bool false)) 1 (fnv 0)) D s0 0 false := by
  refine ⟨rfl, rfl, rfl, rfl, rfl, fun j x hx => by simp [s0] at hx, fun j hj => ⟨0, ?_⟩, rfl, rfl, rfl, rfl, rfl, rfl, by simp [s0]⟩
  rw [upd_ne _ _ (by omega), upd_ne _ _ (by omega), upd_ne _ _ (by omega), upd_ne _ _ (by omega)]
  unfold nw
  rw [if_neg (by omega), if_neg (by omega), if_neg (by omega), if_pos (by omega)]
set_option maxHeartbeats 1000000 in
theorem new_no (b : List Nat) (ho : Oct b) (hb : b.length < 1000000000000) (hv : vd b = false) (w : World) : Calls Try.prog 10 #[.string (st b)] w fun e w' => e = .returned (.tuple #[.pointer none, .int .i64 2]) ∧ Below w.heap.size w w' := by
  have hvl := valid_c b ho hb w
  rw [hv] at hvl
  clear hv ho hb
  go_enter Try.func10, Try.ntmps10
  go_wp2_with (go_at_call 8; refine hvl.mono ?_; rintro e1 w1 ⟨rfl, b1⟩)
  first | go_ret | go_ret2
  exact ⟨rfl, b1⟩
set_option maxRecDepth 100000 in
set_option maxHeartbeats 1000000 in
theorem new_yes (b : List Nat) (ho : Oct b) (hv : vd b = true) (w : World) : Calls Try.prog 10 #[.string (st b)] w fun e w' => ∃ B, e = .returned (.tuple #[.pointer (some ⟨B, 0, none⟩), .int .i64 0]) ∧ w.heap.size ≤ B ∧ Sm w' B (dd b) s0 0 false ∧ Below w.heap.size w w' := by
  have hlen := vd_len hv
  have hvl := valid_c b ho (by omega) w
  rw [hv] at hvl
  have hcat := dd_st b
  obtain ⟨u, hu⟩ : ∃ u, st b = u := ⟨_, rfl⟩
  obtain ⟨S, hS⟩ : ∃ S, st (dd b) = S := ⟨_, rfl⟩
  have hz : u.size = b.length := by rw [← hu, st_size]
  rw [hu, hS] at hcat
  rw [hu] at hvl ⊢
  have t1 : (9223372036854775807 < 2 + u.size) = False := eq_false (by omega)
  have AS : Aside (st (dd b) = S) := hS
  clear hv hlen hu hS hz ho
  go_enter Try.func10, Try.ntmps10
  go_upto_region 3 with (go_at_call 8; refine hvl.mono ?_; rintro e1 w1 ⟨rfl, b1⟩)
  obtain ⟨Z, hZ⟩ : ∃ Z, Z = cz (nw (.string ⟨#[]⟩)) := ⟨_, rfl⟩
  have hz : ∀ w', (zeroValue 48).run Try.prog w' = .ok (.agg Z) w' := fun w' => by rw [hZ]; exact zv62 w'
  obtain ⟨cs, hcs⟩ : ∃ cs, cs = cz (nw (.string S)) := ⟨_, rfl⟩
  have hset : Z.setIfInBounds 0 (.string S) = cs := by
    rw [hZ, hcs, cz_set]
    congr 1
    funext j
    unfold upd nw
    split <;> rfl
  have hne : (Z = #[]) = False := eq_false (by
    rw [hZ]
    intro e
    have := congrArg Array.size e
    rw [cz_size] at this
    simp at this)
  have hsz : cs.size = 105 := by rw [hcs, cz_size]
  obtain ⟨B, hB⟩ : ∃ B, w1.heap.size = B := ⟨_, rfl⟩
  obtain ⟨w2, hw2⟩ : ∃ w2, w1.alloc (.cells cs 48) = w2 := ⟨_, rfl⟩
  have kB : Cells w2 B (cz (nw (.string S))) 48 := by rw [← hw2, ← hB, ← hcs]; exact Cells.new w1 _ 48
  have b2 : Below w1.heap.size w1 w2 := by rw [← hw2]; exact (Below.refl _ w1).alloc (Nat.le_refl _) _
  have hln := line_n w2 B (.string S) kB
  have A : Aside (Below w.heap.size w w1 ∧ Below B w1 w2 ∧ w.heap.size ≤ B) := ⟨b1, by rw [← hB]; exact b2, by rw [← hB]; exact b1.size⟩
  clear kB b2 b1 hZ hcs hvl
  go_upto_region 4 with fail
  clear hB hw2 hz hset hne
  go_wp2_with (go_at_call 17; refine hln.mono ?_; rintro e3 w3 ⟨rfl, h3, o3⟩)
  first | go_ret | go_ret2
  have a := A.out
  refine ⟨B, rfl, a.2.2, ⟨_, h3, ?_⟩, a.1.trans ((a.2.1.mono a.2.2).trans (o3.below a.2.2))⟩
  rw [← AS.out]
  exact sf_new (dd b)
end Go.Proofs.Ytbndohpcaahenab

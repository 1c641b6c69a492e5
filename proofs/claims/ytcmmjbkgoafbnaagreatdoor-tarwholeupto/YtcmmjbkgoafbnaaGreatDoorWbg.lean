/-
  The walker's steps: begin, keep; a block's kind and name.
-/
import Derived.Test.YtcmmjbkgoafbnaaGreatDoorWed
namespace Go.Proofs.YtcmmjbkgoafbnaaGreatDoor
open Go.RowKit
set_option linter.unusedVariables false
set_option linter.unusedSimpArgs false
section
variable {W : Nat} {s : Ts} {v : Rv}
theorem Wp.from {w w1 : World} {e : Ending} {w' : World} {s' : Ts} {v' : Rv} (h : Wp W s' v' w1 e w') (k : But W w w1) : Wp W s' v' w e w' := ⟨h.re, h.wm, k.trans h.bu, h.er⟩
/-- What begin makes of the events. -/
def vbeg (us z : Nat) (v : Rv) : Rv := if z = 0 then vcl us v else v
set_option maxRecDepth 20000 in
theorem begin_c (us z : Nat) (w : World) (h : Wm w W s v) (h0 : s.why = 0) (he : Er w) (hW : 3 ≤ W) (hu : us ≤ 3) (hz : z < 9223372036854775808) : Calls Tryz.prog 45 #[.pointer (some ⟨W, 0, none⟩), .int .i64 (us : Int), .int .u64 (z : Int)] w fun e w' => Wp W (tbeg us z s).1 (vbeg us z v) w e w' := by
  have c1 := h.k514
  have c2 := h.k515
  have f1 := h.fz 514
  have f2 := h.fz 515
  have k := h.ok
  have k1 := h.sul us z ⟨k.bl, k.bo, k.kl, k.ko, k.ps, k.wh, hu, hz, k.ln, k.cm⟩
  have o1 : Only W w ((w.setCell ⟨W, 514, none⟩ (.int .i64 (us : Int))).setCell ⟨W, 515, none⟩ (.int .u64 (z : Int))) := ((Only.refl W w).setCell 514 _).setCell 515 _
  have b1 := But.of_only o1
  have r1 := he.but b1 hW
  obtain ⟨w1, hw1⟩ : ∃ w1, (w.setCell ⟨W, 514, none⟩ (.int .i64 (us : Int))).setCell ⟨W, 515, none⟩ (.int .u64 (z : Int)) = w1 := ⟨_, rfl⟩
  rw [hw1] at k1 b1 r1
  by_cases hz0 : z = 0
  · subst hz0
    have hen := endData_c w1 k1 h0 r1 hW
    have AT : Aside ((tbeg us 0 s).1 = tend { s with us := us, lf := 0 } ∧ vbeg us 0 v = vcl us v ∧ But W w w1) := ⟨by unfold tbeg; rfl, by unfold vbeg; rfl, b1⟩
    have AW : Aside ((w.setCell ⟨W, 514, none⟩ (.int .i64 (us : Int))).setCell ⟨W, 515, none⟩ (.int .u64 ((0 : Nat) : Int)) = w1) := hw1
    clear h h0 he hW hu hz k k1 o1 b1 r1 hw1
    go_enter Tryz.func45, Tryz.ntmps45
    go_upto_region 1 with fail
    have hw1 : (w.setCell ⟨W, 514, none⟩ (.int .i64 (us : Int))).setCell ⟨W, 515, none⟩ (.int .u64 0) = w1 := AW.out
    rw [hw1]
    clear hw1 AW c1 c2 f1 f2
    go_wp2_with (go_at_call 47; refine hen.mono ?_; rintro e2 w2 k2; obtain ⟨rfl, k2, b2, r2⟩ := k2)
    first | go_end0 | (refine bodyPost_ret (results_none rfl _ _ _) rfl ?_)
    rw [AT.out.1, AT.out.2.1]
    exact ⟨rfl, k2, AT.out.2.2.trans b2, r2⟩
  · have t1 : ((z : Int) == 0) = false := by rw [beq_eq_false_iff_ne]; omega
    have c3 := k1.k0
    have f3 := k1.fz 0
    have AT : Aside ((tbeg us z s).1 = { s with us := us, lf := z, wh := 1 } ∧ vbeg us z v = v ∧ But W w w1 ∧ Wm w1 W { s with us := us, lf := z } v ∧ Er w1 ∧ 3 ≤ W) := ⟨by unfold tbeg; rw [if_neg hz0], by unfold vbeg; rw [if_neg hz0], b1, k1, r1, hW⟩
    have AW : Aside ((w.setCell ⟨W, 514, none⟩ (.int .i64 (us : Int))).setCell ⟨W, 515, none⟩ (.int .u64 (z : Int)) = w1) := hw1
    clear h h0 he hW hu hz k k1 o1 b1 r1 hw1 hz0
    go_enter Tryz.func45, Tryz.ntmps45
    go_upto_region 1 with fail
    rw [AW.out]
    clear AW c1 c2 f1 f2
    go_wp2_with fail
    first | go_end0 | (refine bodyPost_ret (results_none rfl _ _ _) rfl ?_)
    have at0 := AT.out
    rw [at0.1, at0.2.1]
    have kk := at0.2.2.2.1.ok
    have o : Only W w1 (w1.setCell ⟨W, 0, none⟩ (.int .i64 1)) := (Only.refl W w1).setCell 0 _
    exact ⟨rfl, at0.2.2.2.1.s0 1 ⟨kk.bl, kk.bo, kk.kl, kk.ko, kk.ps, by show (1 : Nat) ≤ 3; decide, kk.us, kk.lf, kk.ln, kk.cm⟩, at0.2.2.1.trans (But.of_only o), at0.2.2.2.2.1.but (But.of_only o) at0.2.2.2.2.2⟩
set_option maxRecDepth 20000 in
theorem keep_c (us z m : Nat) (w : World) (h : Wm w W s v) (h0 : s.why = 0) (he : Er w) (hW : 3 ≤ W) (hu : us ≤ 3) (hz : z < 9223372036854775808) (hm : m < 10000) : Calls Tryz.prog 44 #[.pointer (some ⟨W, 0, none⟩), .int .i64 (us : Int), .int .u64 (z : Int), .int .u64 (m : Int)] w fun e w' => Wp W (if m < z then { s with why := 46 } else (tbeg us z { s with ln := 0 }).1) (if m < z then v else vbeg us z v) w e w' := by
  have k := h.ok
  by_cases hmz : m < z
  · have t1 : ((m : Int) < (z : Int)) = True := eq_true (by omega)
    have c1 := h.k1552
    have f1 := h.fz 1552
    rw [if_pos hmz, if_pos hmz]
    have A : Aside (Wm w W s v ∧ Er w ∧ 3 ≤ W) := ⟨h, he, hW⟩
    clear h h0 he hW hu hz k hmz hm
    go_enter Tryz.func44, Tryz.ntmps44
    go_wp2_with fail
    first | go_end0 | (refine bodyPost_ret (results_none rfl _ _ _) rfl ?_)
    have a0 := A.out
    have o : Only W w (w.setCell ⟨W, 1552, none⟩ (.int .i64 46)) := (Only.refl W w).setCell 1552 _
    exact ⟨rfl, a0.1.s1552 46, But.of_only o, a0.2.1.but (But.of_only o) a0.2.2⟩
  · have t1 : ((m : Int) < (z : Int)) = False := eq_false (by omega)
    have c1 := h.k1540
    have f1 := h.fz 1540
    rw [if_neg hmz, if_neg hmz]
    have k1 := h.s1540 0 ⟨k.bl, k.bo, k.kl, k.ko, k.ps, k.wh, k.us, k.lf, Nat.zero_le _, k.cm⟩
    have o1 : Only W w (w.setCell ⟨W, 1540, none⟩ (.int .i64 ((0 : Nat) : Int))) := (Only.refl W w).setCell 1540 _
    have b1 := But.of_only o1
    have r1 := he.but b1 hW
    have hbe := begin_c us z _ k1 h0 r1 hW hu hz
    have hbe2 : Calls Tryz.prog 45 #[.pointer (some ⟨W, 0, none⟩), .int .i64 (us : Int), .int .u64 (z : Int)] (w.setCell ⟨W, 1540, none⟩ (.int .i64 0)) fun e w' => Wp W (tbeg us z { s with ln := 0 }).1 (vbeg us z v) w e w' := hbe.mono fun e w' q => q.from b1
    clear h h0 he hW hu hz k hmz hm k1 o1 b1 r1 hbe
    go_enter Tryz.func44, Tryz.ntmps44
    go_wp2_with (go_at_call 45; refine hbe2.mono ?_; rintro e2 w2 k2; have re2 := k2.re; subst re2)
    first | go_end0 | (refine bodyPost_ret (results_none rfl _ _ _) rfl ?_)
    exact k2
theorem isFile_c (w : World) (h : Wm w W s v) : Calls Tryz.prog 55 #[.pointer (some ⟨W, 2, none⟩)] w fun e w' => e = .returned (.bool (tisf (tkd s.B))) ∧ w' = w := by
  have hk := h.ok
  obtain ⟨x, hx⟩ : ∃ x, s.B[156]? = some x := ⟨_, List.getElem?_eq_getElem (by have := hk.bl; omega)⟩
  have c1 := h.kb hx
  have e : tkd s.B = x := by unfold tkd; rw [List.getD_eq_getElem?_getD, hx]; rfl
  rw [e]
  have t1 : (x == 48) = ((x : Int) == 48) := by have := beq_int x 48; rw [show ((48 : Nat) : Int) = 48 from rfl] at this; rw [this]; by_cases q : x = 48 <;> simp [q]
  have t2 : (x == 0) = ((x : Int) == 0) := by have := beq_int x 0; rw [show ((0 : Nat) : Int) = 0 from rfl] at this; rw [this]; by_cases q : x = 0 <;> simp [q]
  have t3 : (x == 55) = ((x : Int) == 55) := by have := beq_int x 55; rw [show ((55 : Nat) : Int) = 55 from rfl] at this; rw [this]; by_cases q : x = 55 <;> simp [q]
  unfold tisf
  rw [t1, t2, t3]
  generalize hb1 : ((x : Int) == 48) = b1
  generalize hb2 : ((x : Int) == 0) = b2
  generalize hb3 : ((x : Int) == 55) = b3
  clear h hk e hx t1 t2 t3
  cases b1 <;> cases b2 <;> cases b3
  all_goals
    go_enter Tryz.func55, Tryz.ntmps55
    go_wp2_with fail
    go_ret
    exact ⟨rfl, rfl⟩
end
end Go.Proofs.YtcmmjbkgoafbnaaGreatDoor

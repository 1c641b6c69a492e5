/-
  The walker's steps: a byte of data.
-/
import Derived.Test.YtcmmjbkgoafbnaaGreatDoorWhd
namespace Go.Proofs.YtcmmjbkgoafbnaaGreatDoor
open Go.RowKit
set_option linter.unusedVariables false
set_option linter.unusedSimpArgs false
/-- The event of a byte. -/
def vbyt (x : Nat) (v : Rv) : Rv := { v with ek := 2, eb := (x : Int), en := 0, et := [] }
def vdt (x : Nat) (s : Ts) (v : Rv) : Rv := if s.lf = 1 then vcl s.us (if s.us = 1 then vbyt x v else v) else if s.us = 1 then vbyt x v else v
section
variable {W : Nat} {s : Ts} {v : Rv}
theorem Wm.byte_ {w : World} (h : Wm w W s v) (x : Nat) : Wm (((((w.setCell ⟨W, 1545, none⟩ (.int .i64 2)).setCell ⟨W, 1546, none⟩ (.int .u8 (x : Int))).setCell ⟨W, 1547, none⟩ (.int .i64 0)).setCell ⟨W, 1548, none⟩ (.int .i64 0)).setCell ⟨W, 1549, none⟩ (.string ⟨#[]⟩)) W s (vbyt x v) := ((((h.s1545 2).s1546 x).s1547 0).s1548).s1549 []
/-- What holds ahead of the count: the byte is dealt with. -/
structure Dq (W : Nat) (s : Ts) (x : Nat) (v v1 : Rv) (s1 : Ts) (w w1 : World) : Prop where
  wm : Wm w1 W s1 v1
  bu : But W w w1
  er : Er w1
  lf : s1.lf = s.lf
  why : s1.why = 0
  us : s1.us = s.us
  kp : tkp x s = { s1 with lf := s1.lf - 1 }
  vv : v1 = if s.us = 1 then vbyt x v else v
set_option maxRecDepth 20000 in
set_option maxHeartbeats 2000000 in
theorem data_c (x : Nat) (w : World) (h : Wm w W s v) (h0 : s.why = 0) (he : Er w) (hW : 3 ≤ W) (hx : x < 256) (hl : 1 ≤ s.lf) (hd : 2 ≤ s.us → s.ln + s.lf ≤ 1024) : Calls Tryz.prog 28 #[.pointer (some ⟨W, 0, none⟩), .int .u8 (x : Int)] w fun e w' => Wp W (tdat x s).1 (vdt x s v) w e w' := by
  have hk := h.ok
  have c0 := h.k514
  have A : Aside (Wm w W s v ∧ s.why = 0 ∧ Er w ∧ 3 ≤ W ∧ x < 256 ∧ 1 ≤ s.lf ∧ (2 ≤ s.us → s.ln + s.lf ≤ 1024)) := ⟨h, h0, he, hW, hx, hl, hd⟩
  have hu := hk.us
  by_cases h1 : s.us = 1
  · rw [h1] at c0
    have c5 := h.k1545
    have c6 := h.k1546
    have c7 := h.k1547
    have c8 := h.k1548
    have c9 := h.k1549
    have f5 := h.fz 1545
    have f6 := h.fz 1546
    have f7 := h.fz 1547
    have f8 := h.fz 1548
    have f9 := h.fz 1549
    have m1 := h.byte_ x
    obtain ⟨w1, hw1⟩ : ∃ w1, ((((w.setCell ⟨W, 1545, none⟩ (.int .i64 2)).setCell ⟨W, 1546, none⟩ (.int .u8 (x : Int))).setCell ⟨W, 1547, none⟩ (.int .i64 0)).setCell ⟨W, 1548, none⟩ (.int .i64 0)).setCell ⟨W, 1549, none⟩ (.string ⟨#[]⟩) = w1 := ⟨_, rfl⟩
    have q1 : But W w w1 := by rw [← hw1]; exact But.of_only (only5 w _ _ _ _ _)
    rw [hw1] at m1
    have dq : Dq W s x v (vbyt x v) s w w1 := ⟨m1, q1, he.but q1 hW, rfl, h0, rfl, by unfold tkp; rw [if_neg (by omega)], by rw [if_pos h1]⟩
    have AW : Aside (((((w.setCell ⟨W, 1545, none⟩ (.int .i64 2)).setCell ⟨W, 1546, none⟩ (.int .u8 (x : Int))).setCell ⟨W, 1547, none⟩ (.int .i64 0)).setCell ⟨W, 1548, none⟩ (.int .i64 0)).setCell ⟨W, 1549, none⟩ (.string ⟨#[]⟩) = w1) := hw1
    have AD : Aside (Dq W s x v (vbyt x v) s w w1) := dq
    clear h h0 he hW hx hl hd hk hu h1 m1 q1 dq hw1
    go_enter Tryz.func28, Tryz.ntmps28
    go_upto_region 7 with fail
    rw [AW.out]
    clear AW c0 c5 c6 c7 c8 c9 f5 f6 f7 f8 f9
    have c1 := AD.out.wm.k515
    have f1 := AD.out.wm.fz 515
    obtain ⟨L, hL⟩ : ∃ L, s.lf = L := ⟨_, rfl⟩
    rw [hL] at c1
    have hLb : 1 ≤ L ∧ L < 9223372036854775808 := by have := AD.out.lf; have := A.out.2.2.2.2.2.1; have := AD.out.wm.ok.lf; omega
    obtain ⟨M, hM⟩ : ∃ M, L = M + 1 := ⟨L - 1, by omega⟩
    have hwr : IntKind.u64.wrap ((L : Int) - 1) = (M : Int) := by rw [IntKind.wrap_u64]; omega
    have kk := AD.out.wm.ok
    have m2 := AD.out.wm.s515 M ⟨kk.bl, kk.bo, kk.kl, kk.ko, kk.ps, kk.wh, kk.us, by show M < _; omega, kk.ln, kk.cm⟩
    obtain ⟨w2, hw2⟩ : ∃ w2, w1.setCell ⟨W, 515, none⟩ (.int .u64 (M : Int)) = w2 := ⟨_, rfl⟩
    have q2 : But W w1 w2 := by rw [← hw2]; exact But.of_only ((Only.refl W w1).setCell 515 _)
    rw [hw2] at m2
    have c2 := m2.k515
    have f2 := m2.fz 515
    by_cases hM0 : M = 0
    · have t1 : ((M : Int) == 0) = true := by rw [beq_iff_eq]; omega
      have c3 := m2.k0
      have f3 := m2.fz 0
      have m3 := m2.s0 2 ⟨kk.bl, kk.bo, kk.kl, kk.ko, kk.ps, by show (2 : Nat) ≤ 3; decide, kk.us, by show M < _; omega, kk.ln, kk.cm⟩
      obtain ⟨w3, hw3⟩ : ∃ w3, w2.setCell ⟨W, 0, none⟩ (.int .i64 ((2 : Nat) : Int)) = w3 := ⟨_, rfl⟩
      have q3 : But W w2 w3 := by rw [← hw3]; exact But.of_only ((Only.refl W w2).setCell 0 _)
      rw [hw3] at m3
      have q33 : But W w w3 := (AD.out.bu.trans q2).trans q3
      have hen := endData_c w3 m3 AD.out.why (A.out.2.2.1.but q33 A.out.2.2.2.1) A.out.2.2.2.1
      have hen2 : Calls Tryz.prog 47 #[.pointer (some ⟨W, 0, none⟩)] w3 fun e w' => Wp W (tdat x s).1 (vdt x s v) w e w' := hen.mono fun e w' q => by
        have q := q.from q33
        have ad := AD.out
        have hs1 : s.lf = 1 := by have := ad.lf; omega
        have e1 : (tdat x s).1 = tend { s with lf := M, wh := 2 } := by
          unfold tdat
          rw [if_pos hs1, ad.kp, hL, show L - 1 = M by omega]
        have e2 : vdt x s v = vcl s.us (vbyt x v) := by unfold vdt; rw [if_pos hs1, ad.us, ← ad.vv]
        rw [e1, e2]
        exact q
      have AW2 : Aside (w1.setCell ⟨W, 515, none⟩ (.int .u64 (M : Int)) = w2 ∧ w2.setCell ⟨W, 0, none⟩ (.int .i64 2) = w3) := ⟨hw2, hw3⟩
      clear hen q33 q3 m3 hw3 q2 m2 hw2 kk hM0 hLb hM hL
      go_upto_region 8 with fail
      rw [AW2.out.1]
      clear c1 f1 hwr
      go_upto_region 10 with fail
      rw [AW2.out.2]
      clear c2 f2 c3 f3 t1
      go_wp2_with (go_at_call 47; refine hen2.mono ?_; rintro e4 w4 k4; have re4 := k4.re; subst re4)
      first | go_end0 | (refine bodyPost_ret (results_none rfl _ _ _) rfl ?_)
      exact k4
    · have t1 : ((M : Int) == 0) = false := by rw [beq_eq_false_iff_ne]; omega
      have AX : Aside (Wp W (tdat x s).1 (vdt x s v) w (.returned (.tuple #[])) w2) := by
        have ad := AD.out
        have hs1 : s.lf ≠ 1 := by have := ad.lf; omega
        have e1 : (tdat x s).1 = { s with lf := M } := by
          unfold tdat
          rw [if_neg hs1, ad.kp, hL, show L - 1 = M by omega]
        have e2 : vdt x s v = (vbyt x v) := by unfold vdt; rw [if_neg hs1, ← ad.vv]
        rw [e1, e2]
        have q22 := ad.bu.trans q2
        exact ⟨rfl, m2, q22, A.out.2.2.1.but q22 A.out.2.2.2.1⟩
      have AW2 : Aside (w1.setCell ⟨W, 515, none⟩ (.int .u64 (M : Int)) = w2) := hw2
      clear q2 m2 hw2 kk hM0 hLb hM hL
      go_upto_region 8 with fail
      rw [AW2.out]
      clear c1 f1 hwr
      go_wp2_with fail
      first | go_end0 | (refine bodyPost_ret (results_none rfl _ _ _) rfl ?_)
      exact AX.out
  · by_cases h2 : s.us = 2 ∨ s.us = 3
    · have hd2 := hd (by omega)
      have c1 := h.k1540
      have f1 := h.fz 1540
      obtain ⟨y, hy⟩ : ∃ y, s.K[s.ln]? = some y := ⟨_, List.getElem?_eq_getElem (by have := hk.kl; omega)⟩
      have c2 := h.kk hy
      have f2 := h.fz (516 + s.ln)
      obtain ⟨N, hN⟩ : ∃ N, s.ln = N := ⟨_, rfl⟩
      have m1 := h.sK s.ln x (by omega) hx
      have m2 := m1.drew.s1540 (s.ln + 1) ⟨m1.ok.bl, m1.ok.bo, m1.ok.kl, m1.ok.ko, m1.ok.ps, m1.ok.wh, m1.ok.us, m1.ok.lf, by show s.ln + 1 ≤ 1024; omega, m1.ok.cm⟩
      have c3 := m1.drew.k1540
      have f3 := m1.drew.fz 1540
      have hN1 : s.ln + 1 ≤ 1024 := by omega
      simp only [hN] at c1 c2 f2 m1 c3 f3 hN1
      rw [hN] at m2
      obtain ⟨w0, hw0⟩ : ∃ w0, (w.setCell ⟨W, 516 + N, none⟩ (.int .u8 (x : Int))).drew = w0 := ⟨_, rfl⟩
      rw [hw0] at m2 c3 f3
      obtain ⟨w1, hw1⟩ : ∃ w1, w0.setCell ⟨W, 1540, none⟩ (.int .i64 ((N + 1 : Nat) : Int)) = w1 := ⟨_, rfl⟩
      rw [hw1] at m2
      have q1 : But W w w1 := by rw [← hw1, ← hw0]; exact But.of_only ((((Only.refl W w).setCell _ _).drew).setCell _ _)
      obtain ⟨s1, hs1⟩ : ∃ s1 : Ts, s1 = { s with K := s.K.set N x, ln := N + 1 } := ⟨_, rfl⟩
      have dq : Dq W s x v v s1 w w1 := ⟨by rw [hs1]; exact m2, q1, he.but q1 hW, by rw [hs1], by rw [hs1]; exact h0, by rw [hs1], by rw [hs1]; unfold tkp; rw [if_pos h2, hN], by rw [if_neg h1]⟩
      have AD : Aside (Dq W s x v v s1 w w1) := dq
      have AW : Aside ((w.setCell ⟨W, 516 + N, none⟩ (.int .u8 (x : Int))).drew = w0 ∧ w0.setCell ⟨W, 1540, none⟩ (.int .i64 ((N + 1 : Nat) : Int)) = w1) := ⟨hw0, hw1⟩
      have t1 : (N : Int) < 1024 := by omega
      have t2 : (N < 1024) = True := eq_true (by omega)
      have t3 : (s.us : Int) = 2 ∨ (s.us : Int) = 3 := by omega
      clear h h0 he hW hx hl hd hk hu h1 h2 hd2 hy m1 m2 q1 dq hN1 hw0 hw1 hN hs1
      rcases t3 with t3 | t3
      all_goals
        rw [t3] at c0
        clear t3
        go_enter Tryz.func28, Tryz.ntmps28
        go_upto_region 5 with fail
        go_region
        go_upto_region 6 with fail
        rw [AW.out.1]
        go_upto_region 7 with fail
        have hw1 := AW.out.2
        simp only [Int.natCast_add, Int.natCast_one] at hw1
        rw [hw1]
        clear hw1 AW c0 c1 c2 c3 f1 f2 f3 t1 t2
        have c1 := AD.out.wm.k515
        have f1 := AD.out.wm.fz 515
        obtain ⟨L, hL⟩ : ∃ L, s1.lf = L := ⟨_, rfl⟩
        rw [hL] at c1
        have hLb : 1 ≤ L ∧ L < 9223372036854775808 := by have := AD.out.lf; have := A.out.2.2.2.2.2.1; have := AD.out.wm.ok.lf; omega
        obtain ⟨M, hM⟩ : ∃ M, L = M + 1 := ⟨L - 1, by omega⟩
        have hwr : IntKind.u64.wrap ((L : Int) - 1) = (M : Int) := by rw [IntKind.wrap_u64]; omega
        have kk := AD.out.wm.ok
        have m2 := AD.out.wm.s515 M ⟨kk.bl, kk.bo, kk.kl, kk.ko, kk.ps, kk.wh, kk.us, by show M < _; omega, kk.ln, kk.cm⟩
        obtain ⟨w2, hw2⟩ : ∃ w2, w1.setCell ⟨W, 515, none⟩ (.int .u64 (M : Int)) = w2 := ⟨_, rfl⟩
        have q2 : But W w1 w2 := by rw [← hw2]; exact But.of_only ((Only.refl W w1).setCell 515 _)
        rw [hw2] at m2
        have c2 := m2.k515
        have f2 := m2.fz 515
        by_cases hM0 : M = 0
        · have t1 : ((M : Int) == 0) = true := by rw [beq_iff_eq]; omega
          have c3 := m2.k0
          have f3 := m2.fz 0
          have m3 := m2.s0 2 ⟨kk.bl, kk.bo, kk.kl, kk.ko, kk.ps, by show (2 : Nat) ≤ 3; decide, kk.us, by show M < _; omega, kk.ln, kk.cm⟩
          obtain ⟨w3, hw3⟩ : ∃ w3, w2.setCell ⟨W, 0, none⟩ (.int .i64 ((2 : Nat) : Int)) = w3 := ⟨_, rfl⟩
          have q3 : But W w2 w3 := by rw [← hw3]; exact But.of_only ((Only.refl W w2).setCell 0 _)
          rw [hw3] at m3
          have q33 : But W w w3 := (AD.out.bu.trans q2).trans q3
          have hen := endData_c w3 m3 AD.out.why (A.out.2.2.1.but q33 A.out.2.2.2.1) A.out.2.2.2.1
          have hen2 : Calls Tryz.prog 47 #[.pointer (some ⟨W, 0, none⟩)] w3 fun e w' => Wp W (tdat x s).1 (vdt x s v) w e w' := hen.mono fun e w' q => by
            have q := q.from q33
            have ad := AD.out
            have hs1 : s.lf = 1 := by have := ad.lf; omega
            have e1 : (tdat x s).1 = tend { s1 with lf := M, wh := 2 } := by
              unfold tdat
              rw [if_pos hs1, ad.kp, hL, show L - 1 = M by omega]
            have e2 : vdt x s v = vcl s1.us v := by unfold vdt; rw [if_pos hs1, ad.us, ← ad.vv]
            rw [e1, e2]
            exact q
          have AW2 : Aside (w1.setCell ⟨W, 515, none⟩ (.int .u64 (M : Int)) = w2 ∧ w2.setCell ⟨W, 0, none⟩ (.int .i64 2) = w3) := ⟨hw2, hw3⟩
          clear hen q33 q3 m3 hw3 q2 m2 hw2 kk hM0 hLb hM hL
          go_upto_region 8 with fail
          rw [AW2.out.1]
          clear c1 f1 hwr
          go_upto_region 10 with fail
          rw [AW2.out.2]
          clear c2 f2 c3 f3 t1
          go_wp2_with (go_at_call 47; refine hen2.mono ?_; rintro e4 w4 k4; have re4 := k4.re; subst re4)
          first | go_end0 | (refine bodyPost_ret (results_none rfl _ _ _) rfl ?_)
          exact k4
        · have t1 : ((M : Int) == 0) = false := by rw [beq_eq_false_iff_ne]; omega
          have AX : Aside (Wp W (tdat x s).1 (vdt x s v) w (.returned (.tuple #[])) w2) := by
            have ad := AD.out
            have hs1 : s.lf ≠ 1 := by have := ad.lf; omega
            have e1 : (tdat x s).1 = { s1 with lf := M } := by
              unfold tdat
              rw [if_neg hs1, ad.kp, hL, show L - 1 = M by omega]
            have e2 : vdt x s v = v := by unfold vdt; rw [if_neg hs1, ← ad.vv]
            rw [e1, e2]
            have q22 := ad.bu.trans q2
            exact ⟨rfl, m2, q22, A.out.2.2.1.but q22 A.out.2.2.2.1⟩
          have AW2 : Aside (w1.setCell ⟨W, 515, none⟩ (.int .u64 (M : Int)) = w2) := hw2
          clear q2 m2 hw2 kk hM0 hLb hM hL
          go_upto_region 8 with fail
          rw [AW2.out]
          clear c1 f1 hwr
          go_wp2_with fail
          first | go_end0 | (refine bodyPost_ret (results_none rfl _ _ _) rfl ?_)
          exact AX.out
    · have h3 : s.us = 0 := by omega
      rw [h3] at c0
      have dq : Dq W s x v v s w w := ⟨h, But.refl _ _, he, rfl, h0, rfl, by unfold tkp; rw [if_neg h2], by rw [if_neg h1]⟩
      have AD : Aside (Dq W s x v v s w w) := dq
      clear h h0 he hW hx hl hd hk hu h1 h2 h3 dq
      go_enter Tryz.func28, Tryz.ntmps28
      go_upto_region 7 with fail
      clear c0
      have c1 := AD.out.wm.k515
      have f1 := AD.out.wm.fz 515
      obtain ⟨L, hL⟩ : ∃ L, s.lf = L := ⟨_, rfl⟩
      rw [hL] at c1
      have hLb : 1 ≤ L ∧ L < 9223372036854775808 := by have := AD.out.lf; have := A.out.2.2.2.2.2.1; have := AD.out.wm.ok.lf; omega
      obtain ⟨M, hM⟩ : ∃ M, L = M + 1 := ⟨L - 1, by omega⟩
      have hwr : IntKind.u64.wrap ((L : Int) - 1) = (M : Int) := by rw [IntKind.wrap_u64]; omega
      have kk := AD.out.wm.ok
      have m2 := AD.out.wm.s515 M ⟨kk.bl, kk.bo, kk.kl, kk.ko, kk.ps, kk.wh, kk.us, by show M < _; omega, kk.ln, kk.cm⟩
      obtain ⟨w2, hw2⟩ : ∃ w2, w.setCell ⟨W, 515, none⟩ (.int .u64 (M : Int)) = w2 := ⟨_, rfl⟩
      have q2 : But W w w2 := by rw [← hw2]; exact But.of_only ((Only.refl W w).setCell 515 _)
      rw [hw2] at m2
      have c2 := m2.k515
      have f2 := m2.fz 515
      by_cases hM0 : M = 0
      · have t1 : ((M : Int) == 0) = true := by rw [beq_iff_eq]; omega
        have c3 := m2.k0
        have f3 := m2.fz 0
        have m3 := m2.s0 2 ⟨kk.bl, kk.bo, kk.kl, kk.ko, kk.ps, by show (2 : Nat) ≤ 3; decide, kk.us, by show M < _; omega, kk.ln, kk.cm⟩
        obtain ⟨w3, hw3⟩ : ∃ w3, w2.setCell ⟨W, 0, none⟩ (.int .i64 ((2 : Nat) : Int)) = w3 := ⟨_, rfl⟩
        have q3 : But W w2 w3 := by rw [← hw3]; exact But.of_only ((Only.refl W w2).setCell 0 _)
        rw [hw3] at m3
        have q33 : But W w w3 := (AD.out.bu.trans q2).trans q3
        have hen := endData_c w3 m3 AD.out.why (A.out.2.2.1.but q33 A.out.2.2.2.1) A.out.2.2.2.1
        have hen2 : Calls Tryz.prog 47 #[.pointer (some ⟨W, 0, none⟩)] w3 fun e w' => Wp W (tdat x s).1 (vdt x s v) w e w' := hen.mono fun e w' q => by
          have q := q.from q33
          have ad := AD.out
          have hs1 : s.lf = 1 := by have := ad.lf; omega
          have e1 : (tdat x s).1 = tend { s with lf := M, wh := 2 } := by
            unfold tdat
            rw [if_pos hs1, ad.kp, hL, show L - 1 = M by omega]
          have e2 : vdt x s v = vcl s.us v := by unfold vdt; rw [if_pos hs1, ad.us, ← ad.vv]
          rw [e1, e2]
          exact q
        have AW2 : Aside (w.setCell ⟨W, 515, none⟩ (.int .u64 (M : Int)) = w2 ∧ w2.setCell ⟨W, 0, none⟩ (.int .i64 2) = w3) := ⟨hw2, hw3⟩
        clear hen q33 q3 m3 hw3 q2 m2 hw2 kk hM0 hLb hM hL
        go_upto_region 8 with fail
        rw [AW2.out.1]
        clear c1 f1 hwr
        go_upto_region 10 with fail
        rw [AW2.out.2]
        clear c2 f2 c3 f3 t1
        go_wp2_with (go_at_call 47; refine hen2.mono ?_; rintro e4 w4 k4; have re4 := k4.re; subst re4)
        first | go_end0 | (refine bodyPost_ret (results_none rfl _ _ _) rfl ?_)
        exact k4
      · have t1 : ((M : Int) == 0) = false := by rw [beq_eq_false_iff_ne]; omega
        have AX : Aside (Wp W (tdat x s).1 (vdt x s v) w (.returned (.tuple #[])) w2) := by
          have ad := AD.out
          have hs1 : s.lf ≠ 1 := by have := ad.lf; omega
          have e1 : (tdat x s).1 = { s with lf := M } := by
            unfold tdat
            rw [if_neg hs1, ad.kp, hL, show L - 1 = M by omega]
          have e2 : vdt x s v = v := by unfold vdt; rw [if_neg hs1, ← ad.vv]
          rw [e1, e2]
          have q22 := ad.bu.trans q2
          exact ⟨rfl, m2, q22, A.out.2.2.1.but q22 A.out.2.2.2.1⟩
        have AW2 : Aside (w.setCell ⟨W, 515, none⟩ (.int .u64 (M : Int)) = w2) := hw2
        clear q2 m2 hw2 kk hM0 hLb hM hL
        go_upto_region 8 with fail
        rw [AW2.out]
        clear c1 f1 hwr
        go_wp2_with fail
        first | go_end0 | (refine bodyPost_ret (results_none rfl _ _ _) rfl ?_)
        exact AX.out
end
end Go.Proofs.YtcmmjbkgoafbnaaGreatDoor

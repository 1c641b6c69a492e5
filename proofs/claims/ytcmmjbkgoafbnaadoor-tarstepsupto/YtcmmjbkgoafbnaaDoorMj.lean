/-
  Own texts of this seat, one behind the other: what each says stands ahead of it.
-/
import Derived.Test.YtcmmjbkgoafbnaaDoorMi
import Derived.Test.YtcmmjbkgoafbnaaDoorMc
/-
  The walker's steps: a header that is all there.
-/
namespace Go.Proofs.YtcmmjbkgoafbnaaDoor
open Go.RowKit
set_option linter.unusedVariables false
set_option linter.unusedSimpArgs false
/-- What a header makes of the events. -/
def vhd (s : Ts) (v : Rv) : Rv := if noughts s.B then v else if rgt s.B = false then v else match fld ((s.B.drop 124).take 12) with
  | none => v
  | some z => if tmuch (tkd s.B) z then v else if town (tkd s.B) then vent s.B z s v else vbeg (tus (tkd s.B)) z v
/-- What a step of the walker comes to: as a function of the state. -/
theorem thead_own {s : Ts} {z : Nat} (h1 : noughts s.B = false) (h2 : rgt s.B = true) (h3 : fld ((s.B.drop 124).take 12) = some z) (h4 : town (tkd s.B) = true) : (thead s).1 = tent z s := by
  have hm : tmuch (tkd s.B) z = false := by
    unfold town at h4
    simp only [Bool.and_eq_true, bne_iff_ne, ne_eq] at h4
    unfold tmuch
    simp [h4.1.1.1, h4.1.1.2]
  have hu : tus (tkd s.B) = if tisf (tkd s.B) then 1 else 0 := by
    unfold town at h4
    simp only [Bool.and_eq_true, bne_iff_ne, ne_eq] at h4
    unfold tus
    rw [if_neg h4.1.1.1, if_neg h4.1.1.2]
  unfold thead tent
  rw [if_neg (by rw [h1]; decide), if_neg (by rw [h2]; decide), h3]
  simp only
  rw [if_neg (by rw [hm]; decide), hu]
  simp only [tsz, tcm, h4, if_true, Bool.true_or]
theorem thead_not {s : Ts} {z : Nat} (h1 : noughts s.B = false) (h2 : rgt s.B = true) (h3 : fld ((s.B.drop 124).take 12) = some z) (h4 : town (tkd s.B) = false) : (thead s).1 = if tmuch (tkd s.B) z then { s with why := 46 } else (tbeg (tus (tkd s.B)) z { s with ln := if tus (tkd s.B) == 0 then s.ln else 0 }).1 := by
  unfold thead
  rw [if_neg (by rw [h1]; decide), if_neg (by rw [h2]; decide), h3]
  simp only [h4, tsz, tcm, Bool.false_or]
  split
  · rfl
  · rfl
section
variable {W : Nat} {s : Ts} {v : Rv}
set_option maxRecDepth 20000 in
set_option maxHeartbeats 2000000 in
theorem header_c (w : World) (h : Wm w W s v) (h0 : s.why = 0) (he : Er w) (hW : 3 ≤ W) : Calls Tryd.prog 25 #[.pointer (some ⟨W, 0, none⟩)] w fun e w' => Wp W (thead s).1 (vhd s v) w e w' := by
  have hk := h.ok
  have hz := zero_c (some ⟨W, 2, none⟩) s.B 512 w hk.bl h.lb
  have hr := right_c (some ⟨W, 2, none⟩) s.B 512 w hk.bl hk.bo (by decide) (by decide) h.lb
  have hfl : ((s.B.drop 124).take 12).length = 12 := by rw [List.length_take, List.length_drop]; have := hk.bl; omega
  have hf := field_c (some ⟨W, 126, none⟩) ((s.B.drop 124).take 12) 12 388 w hfl ((hk.bo.drop _).take _) (by decide) (by decide) (Or.inr ⟨W, 126, rfl, fun i x hx => h.sub w 124 12 i x hx⟩)
  obtain ⟨x, hx⟩ : ∃ x, s.B[156]? = some x := ⟨_, List.getElem?_eq_getElem (by have := hk.bl; omega)⟩
  have ck := h.kb hx
  have ek : tkd s.B = x := by unfold tkd; rw [List.getD_eq_getElem?_getD, hx]; rfl
  have A : Aside (Wm w W s v ∧ s.why = 0 ∧ Er w ∧ 3 ≤ W ∧ tkd s.B = x) := ⟨h, h0, he, hW, ek⟩
  cases hno : noughts s.B with
  | true =>
    rw [hno] at hz
    have c1 := h.k0
    have f1 := h.fz 0
    have AT : Aside ((thead s).1 = { s with wh := 3 } ∧ vhd s v = v) := ⟨by unfold thead; rw [if_pos hno], by unfold vhd; rw [if_pos hno]⟩
    clear h h0 he hW hk hr hf hfl hx ck ek hno
    go_enter Tryd.func25, Tryd.ntmps25
    go_wp2_with (go_at_call 41; refine hz.mono ?_; rintro e1 w1 ⟨rfl, rfl⟩)
    first | go_end0 | (refine bodyPost_ret (results_none rfl _ _ _) rfl ?_)
    have a0 := A.out
    have kk := a0.1.ok
    rw [AT.out.1, AT.out.2]
    have o : Only W w (w.setCell ⟨W, 0, none⟩ (.int .i64 3)) := (Only.refl W w).setCell 0 _
    exact ⟨rfl, a0.1.s0 3 ⟨kk.bl, kk.bo, kk.kl, kk.ko, kk.ps, by show (3 : Nat) ≤ 3; decide, kk.us, kk.lf, kk.ln, kk.cm⟩, But.of_only o, a0.2.2.1.but (But.of_only o) a0.2.2.2.1⟩
  | false =>
    rw [hno] at hz
    have c1 := h.k1552
    have f1 := h.fz 1552
    cases hrg : rgt s.B with
    | false =>
      rw [hrg] at hr
      have AT : Aside ((thead s).1 = { s with why := 44 } ∧ vhd s v = v) := ⟨by unfold thead; rw [if_neg (by rw [hno]; decide), if_pos hrg], by unfold vhd; rw [if_neg (by rw [hno]; decide), if_pos hrg]⟩
      clear h h0 he hW hk hf hfl hx ck ek hno hrg
      go_enter Tryd.func25, Tryd.ntmps25
      go_wp2_with (first | (go_at_call 41; refine hz.mono ?_; rintro e1 w1 ⟨rfl, rfl⟩) | (go_at_call 42; refine hr.mono ?_; rintro e2 w2 ⟨rfl, rfl⟩))
      first | go_end0 | (refine bodyPost_ret (results_none rfl _ _ _) rfl ?_)
      have a0 := A.out
      rw [AT.out.1, AT.out.2]
      have o : Only W w (w.setCell ⟨W, 1552, none⟩ (.int .i64 44)) := (Only.refl W w).setCell 1552 _
      exact ⟨rfl, a0.1.s1552 44, But.of_only o, a0.2.2.1.but (But.of_only o) a0.2.2.2.1⟩
    | true =>
      rw [hrg] at hr
      cases hfd : fld ((s.B.drop 124).take 12) with
      | none =>
        rw [hfd] at hf
        have hf : Calls Tryd.prog 43 #[.slice (some ⟨W, 126, none⟩) 12 388] w fun e w' => e = .returned (.tuple #[.int .u64 0, .bool false]) ∧ w = w' := hf
        have AT : Aside ((thead s).1 = { s with why := 48 } ∧ vhd s v = v) := ⟨by unfold thead; rw [if_neg (by rw [hno]; decide), if_neg (by rw [hrg]; decide), hfd], by unfold vhd; rw [if_neg (by rw [hno]; decide), if_neg (by rw [hrg]; decide), hfd]⟩
        clear h h0 he hW hk hfl hx ck ek hno hrg hfd
        go_enter Tryd.func25, Tryd.ntmps25
        go_wp2_with (first | (go_at_call 41; refine hz.mono ?_; rintro e1 w1 ⟨rfl, rfl⟩) | (go_at_call 42; refine hr.mono ?_; rintro e2 w2 ⟨rfl, rfl⟩) | (go_at_call 43; refine hf.mono ?_; rintro e3 w3 ⟨rfl, rfl⟩))
        first | go_end0 | (refine bodyPost_ret (results_none rfl _ _ _) rfl ?_)
        have a0 := A.out
        rw [AT.out.1, AT.out.2]
        have o : Only W w (w.setCell ⟨W, 1552, none⟩ (.int .i64 48)) := (Only.refl W w).setCell 1552 _
        exact ⟨rfl, a0.1.s1552 48, But.of_only o, a0.2.2.1.but (But.of_only o) a0.2.2.2.1⟩
      | some z =>
        rw [hfd] at hf
        have hzb := fld_lt ((hk.bo.drop 124).take 12) hfd
        have hf : Calls Tryd.prog 43 #[.slice (some ⟨W, 126, none⟩) 12 388] w fun e w' => e = .returned (.tuple #[.int .u64 (z : Int), .bool true]) ∧ w = w' := hf
        have hvh : vhd s v = if tmuch x z then v else if town x then vent s.B z s v else vbeg (tus x) z v := by unfold vhd; rw [if_neg (by rw [hno]; decide), if_neg (by rw [hrg]; decide), hfd, ek]
        by_cases hot : town x = true
        · have hen := entry_c z w h h0 he hW hzb
          have hm : tmuch x z = false := by
            unfold town at hot
            simp only [Bool.and_eq_true, bne_iff_ne, ne_eq] at hot
            unfold tmuch
            simp [hot.1.1.1, hot.1.1.2]
          have hen2 : Calls Tryd.prog 46 #[.pointer (some ⟨W, 0, none⟩), .int .u64 (z : Int)] w fun e w' => Wp W (thead s).1 (vhd s v) w e w' := by
            rw [thead_own hno hrg hfd (by rw [ek]; exact hot), hvh, if_neg (by rw [hm]; decide), if_pos hot]
            exact hen
          have hq : x ≠ 76 ∧ x ≠ 120 ∧ x ≠ 75 ∧ x ≠ 103 := by
            unfold town at hot
            simp only [Bool.and_eq_true, bne_iff_ne, ne_eq] at hot
            exact ⟨hot.1.1.1, hot.1.1.2, hot.1.2, hot.2⟩
          have t1 : ((x : Int) == 76) = false := by rw [beq_eq_false_iff_ne]; omega
          have t2 : ((x : Int) == 120) = false := by rw [beq_eq_false_iff_ne]; omega
          have t3 : ((x : Int) == 75) = false := by rw [beq_eq_false_iff_ne]; omega
          have t4 : ((x : Int) == 103) = false := by rw [beq_eq_false_iff_ne]; omega
          clear h h0 he hW hk hfl hx ek hno hrg hfd hvh hot hen hm hq hzb A c1 f1
          go_enter Tryd.func25, Tryd.ntmps25
          go_wp2_with (first | (go_at_call 41; refine hz.mono ?_; rintro e1 w1 ⟨rfl, rfl⟩) | (go_at_call 42; refine hr.mono ?_; rintro e2 w2 ⟨rfl, rfl⟩) | (go_at_call 43; refine hf.mono ?_; rintro e3 w3 ⟨rfl, rfl⟩) | (go_at_call 46; refine hen2.mono ?_; rintro e4 w4 k4; have re4 := k4.re; subst re4))
          first | go_end0 | (refine bodyPost_ret (results_none rfl _ _ _) rfl ?_)
          exact k4
        · have hot : town x = false := by simpa using hot
          have hth := thead_not hno hrg hfd (by rw [ek]; exact hot)
          rw [ek] at hth
          have hc : x = 76 ∨ x = 120 ∨ x = 75 ∨ x = 103 := by
            unfold town at hot
            by_cases q1 : x = 76
            · exact Or.inl q1
            · by_cases q2 : x = 120
              · exact Or.inr (Or.inl q2)
              · by_cases q3 : x = 75
                · exact Or.inr (Or.inr (Or.inl q3))
                · by_cases q4 : x = 103
                  · exact Or.inr (Or.inr (Or.inr q4))
                  · simp [q1, q2, q3, q4] at hot
          rw [if_neg (show ¬ town x = true by rw [hot]; decide)] at hvh
          have hg : ∀ us m : Nat, us ≤ 3 → m < 10000 → us ≠ 0 → tus x = us → (tmuch x z = decide (m < z)) → Calls Tryd.prog 44 #[.pointer (some ⟨W, 0, none⟩), .int .i64 (us : Int), .int .u64 (z : Int), .int .u64 (m : Int)] w fun e w' => Wp W (thead s).1 (vhd s v) w e w' := fun us m h1 h2 h3 h4 h5 => by
            have := keep_c us z m w h h0 he hW h1 hzb h2
            rw [hth, hvh, h5, h4]
            by_cases q : m < z
            · simp only [q, decide_true, if_true] at this ⊢
              exact this
            · simp only [q, decide_false, if_false, beq_iff_eq, h3, Bool.false_eq_true] at this ⊢
              exact this
          have hg0 : tus x = 0 → tmuch x z = false → Calls Tryd.prog 45 #[.pointer (some ⟨W, 0, none⟩), .int .i64 0, .int .u64 (z : Int)] w fun e w' => Wp W (thead s).1 (vhd s v) w e w' := fun h4 h5 => by
            have := begin_c 0 z w h h0 he hW (by decide) hzb
            rw [hth, hvh, h5, h4]
            exact this
          rcases hc with rfl | rfl | rfl | rfl
          · have hkp := hg 2 257 (by decide) (by decide) (by decide) rfl (by simp [tmuch])
            clear h h0 he hW hk hfl hx ek hno hrg hfd hvh hot hzb A c1 f1 hth hg hg0
            go_enter Tryd.func25, Tryd.ntmps25
            go_wp2_with (first | (go_at_call 41; refine hz.mono ?_; rintro e1 w1 ⟨rfl, rfl⟩) | (go_at_call 42; refine hr.mono ?_; rintro e2 w2 ⟨rfl, rfl⟩) | (go_at_call 43; refine hf.mono ?_; rintro e3 w3 ⟨rfl, rfl⟩) | (go_at_call 44; refine hkp.mono ?_; rintro e4 w4 k4; have re4 := k4.re; subst re4))
            first | go_end0 | (refine bodyPost_ret (results_none rfl _ _ _) rfl ?_)
            exact k4
          · have hkp := hg 3 1024 (by decide) (by decide) (by decide) rfl (by simp [tmuch])
            clear h h0 he hW hk hfl hx ek hno hrg hfd hvh hot hzb A c1 f1 hth hg hg0
            go_enter Tryd.func25, Tryd.ntmps25
            go_wp2_with (first | (go_at_call 41; refine hz.mono ?_; rintro e1 w1 ⟨rfl, rfl⟩) | (go_at_call 42; refine hr.mono ?_; rintro e2 w2 ⟨rfl, rfl⟩) | (go_at_call 43; refine hf.mono ?_; rintro e3 w3 ⟨rfl, rfl⟩) | (go_at_call 44; refine hkp.mono ?_; rintro e4 w4 k4; have re4 := k4.re; subst re4))
            first | go_end0 | (refine bodyPost_ret (results_none rfl _ _ _) rfl ?_)
            exact k4
          all_goals
            have hkp := hg0 rfl (by simp [tmuch])
            clear h h0 he hW hk hfl hx ek hno hrg hfd hvh hot hzb A c1 f1 hth hg hg0
            go_enter Tryd.func25, Tryd.ntmps25
            go_wp2_with (first | (go_at_call 41; refine hz.mono ?_; rintro e1 w1 ⟨rfl, rfl⟩) | (go_at_call 42; refine hr.mono ?_; rintro e2 w2 ⟨rfl, rfl⟩) | (go_at_call 43; refine hf.mono ?_; rintro e3 w3 ⟨rfl, rfl⟩) | (go_at_call 45; refine hkp.mono ?_; rintro e4 w4 k4; have re4 := k4.re; subst re4))
            first | go_end0 | (refine bodyPost_ret (results_none rfl _ _ _) rfl ?_)
            exact k4
end
end Go.Proofs.YtcmmjbkgoafbnaaDoor

/-
  The walker's steps: a byte of data.
-/
namespace Go.Proofs.YtcmmjbkgoafbnaaDoor
open Go.RowKit
set_option linter.unusedVariables false
set_option linter.unusedSimpArgs false
/-- The event of a byte. -/
def vbyt (x : Nat) (v : Rv) : Rv := { v with ek := 2, eb := (x : Int), en := 0, et := [] }
def vdt (x : Nat) (s : Ts) (v : Rv) : Rv := if s.lf = 1 then vcl s.us (if s.us = 1 then vbyt x v else v) else if s.us = 1 then vbyt x v else v
section
variable {W : Nat} {s : Ts} {v : Rv}
theorem Wm.byte_ {w : World} (h : Wm w W s v) (x : Nat) : Wm (((((w.setCell ⟨W, 1545, none⟩ (.int .i64 2)).setCell ⟨W, 1546, none⟩ (.int .u8 (x : Int))).setCell ⟨W, 1547, none⟩ (.int .i64 0)).setCell ⟨W, 1548, none⟩ (.int .i64 0)).setCell ⟨W, 1549, none⟩ (.string ⟨#[]⟩)) W s (vbyt x v) := ((((h.s1545 2).s1546 x).s1547 0).s1548).s1549 []
/-- What holds ahead of the count: the byte is dealt with. -/
structure Dq (W : Nat) (s : Ts) (x : Nat) (v v1 : Rv) (s1 : Ts) (w w1 : World) : Prop where
  wm : Wm w1 W s1 v1
  bu : But W w w1
  er : Er w1
  lf : s1.lf = s.lf
  why : s1.why = 0
  us : s1.us = s.us
  kp : tkp x s = { s1 with lf := s1.lf - 1 }
  vv : v1 = if s.us = 1 then vbyt x v else v
set_option maxRecDepth 20000 in
set_option maxHeartbeats 2000000 in
theorem data_c (x : Nat) (w : World) (h : Wm w W s v) (h0 : s.why = 0) (he : Er w) (hW : 3 ≤ W) (hx : x < 256) (hl : 1 ≤ s.lf) (hd : 2 ≤ s.us → s.ln + s.lf ≤ 1024) : Calls Tryd.prog 26 #[.pointer (some ⟨W, 0, none⟩), .int .u8 (x : Int)] w fun e w' => Wp W (tdat x s).1 (vdt x s v) w e w' := by
  have hk := h.ok
  have c0 := h.k514
  have A : Aside (Wm w W s v ∧ s.why = 0 ∧ Er w ∧ 3 ≤ W ∧ x < 256 ∧ 1 ≤ s.lf ∧ (2 ≤ s.us → s.ln + s.lf ≤ 1024)) := ⟨h, h0, he, hW, hx, hl, hd⟩
  have hu := hk.us
  by_cases h1 : s.us = 1
  · rw [h1] at c0
    have c5 := h.k1545
    have c6 := h.k1546
    have c7 := h.k1547
    have c8 := h.k1548
    have c9 := h.k1549
    have f5 := h.fz 1545
    have f6 := h.fz 1546
    have f7 := h.fz 1547
    have f8 := h.fz 1548
    have f9 := h.fz 1549
    have m1 := h.byte_ x
    obtain ⟨w1, hw1⟩ : ∃ w1, ((((w.setCell ⟨W, 1545, none⟩ (.int .i64 2)).setCell ⟨W, 1546, none⟩ (.int .u8 (x : Int))).setCell ⟨W, 1547, none⟩ (.int .i64 0)).setCell ⟨W, 1548, none⟩ (.int .i64 0)).setCell ⟨W, 1549, none⟩ (.string ⟨#[]⟩) = w1 := ⟨_, rfl⟩
    have q1 : But W w w1 := by rw [← hw1]; exact But.of_only (only5 w _ _ _ _ _)
    rw [hw1] at m1
    have dq : Dq W s x v (vbyt x v) s w w1 := ⟨m1, q1, he.but q1 hW, rfl, h0, rfl, by unfold tkp; rw [if_neg (by omega)], by rw [if_pos h1]⟩
    have AW : Aside (((((w.setCell ⟨W, 1545, none⟩ (.int .i64 2)).setCell ⟨W, 1546, none⟩ (.int .u8 (x : Int))).setCell ⟨W, 1547, none⟩ (.int .i64 0)).setCell ⟨W, 1548, none⟩ (.int .i64 0)).setCell ⟨W, 1549, none⟩ (.string ⟨#[]⟩) = w1) := hw1
    have AD : Aside (Dq W s x v (vbyt x v) s w w1) := dq
    clear h h0 he hW hx hl hd hk hu h1 m1 q1 dq hw1
    go_enter Tryd.func26, Tryd.ntmps26
    go_upto_region 7 with fail
    rw [AW.out]
    clear AW c0 c5 c6 c7 c8 c9 f5 f6 f7 f8 f9
    have c1 := AD.out.wm.k515
    have f1 := AD.out.wm.fz 515
    obtain ⟨L, hL⟩ : ∃ L, s.lf = L := ⟨_, rfl⟩
    rw [hL] at c1
    have hLb : 1 ≤ L ∧ L < 9223372036854775808 := by have := AD.out.lf; have := A.out.2.2.2.2.2.1; have := AD.out.wm.ok.lf; omega
    obtain ⟨M, hM⟩ : ∃ M, L = M + 1 := ⟨L - 1, by omega⟩
    have hwr : IntKind.u64.wrap ((L : Int) - 1) = (M : Int) := by rw [IntKind.wrap_u64]; omega
    have kk := AD.out.wm.ok
    have m2 := AD.out.wm.s515 M ⟨kk.bl, kk.bo, kk.kl, kk.ko, kk.ps, kk.wh, kk.us, by show M < _; omega, kk.ln, kk.cm⟩
    obtain ⟨w2, hw2⟩ : ∃ w2, w1.setCell ⟨W, 515, none⟩ (.int .u64 (M : Int)) = w2 := ⟨_, rfl⟩
    have q2 : But W w1 w2 := by rw [← hw2]; exact But.of_only ((Only.refl W w1).setCell 515 _)
    rw [hw2] at m2
    have c2 := m2.k515
    have f2 := m2.fz 515
    by_cases hM0 : M = 0
    · have t1 : ((M : Int) == 0) = true := by rw [beq_iff_eq]; omega
      have c3 := m2.k0
      have f3 := m2.fz 0
      have m3 := m2.s0 2 ⟨kk.bl, kk.bo, kk.kl, kk.ko, kk.ps, by show (2 : Nat) ≤ 3; decide, kk.us, by show M < _; omega, kk.ln, kk.cm⟩
      obtain ⟨w3, hw3⟩ : ∃ w3, w2.setCell ⟨W, 0, none⟩ (.int .i64 ((2 : Nat) : Int)) = w3 := ⟨_, rfl⟩
      have q3 : But W w2 w3 := by rw [← hw3]; exact But.of_only ((Only.refl W w2).setCell 0 _)
      rw [hw3] at m3
      have q33 : But W w w3 := (AD.out.bu.trans q2).trans q3
      have hen := endData_c w3 m3 AD.out.why (A.out.2.2.1.but q33 A.out.2.2.2.1) A.out.2.2.2.1
      have hen2 : Calls Tryd.prog 47 #[.pointer (some ⟨W, 0, none⟩)] w3 fun e w' => Wp W (tdat x s).1 (vdt x s v) w e w' := hen.mono fun e w' q => by
        have q := q.from q33
        have ad := AD.out
        have hs1 : s.lf = 1 := by have := ad.lf; omega
        have e1 : (tdat x s).1 = tend { s with lf := M, wh := 2 } := by
          unfold tdat
          rw [if_pos hs1, ad.kp, hL, show L - 1 = M by omega]
        have e2 : vdt x s v = vcl s.us (vbyt x v) := by unfold vdt; rw [if_pos hs1, ad.us, ← ad.vv]
        rw [e1, e2]
        exact q
      have AW2 : Aside (w1.setCell ⟨W, 515, none⟩ (.int .u64 (M : Int)) = w2 ∧ w2.setCell ⟨W, 0, none⟩ (.int .i64 2) = w3) := ⟨hw2, hw3⟩
      clear hen q33 q3 m3 hw3 q2 m2 hw2 kk hM0 hLb hM hL
      go_upto_region 8 with fail
      rw [AW2.out.1]
      clear c1 f1 hwr
      go_upto_region 10 with fail
      rw [AW2.out.2]
      clear c2 f2 c3 f3 t1
      go_wp2_with (go_at_call 47; refine hen2.mono ?_; rintro e4 w4 k4; have re4 := k4.re; subst re4)
      first | go_end0 | (refine bodyPost_ret (results_none rfl _ _ _) rfl ?_)
      exact k4
    · have t1 : ((M : Int) == 0) = false := by rw [beq_eq_false_iff_ne]; omega
      have AX : Aside (Wp W (tdat x s).1 (vdt x s v) w (.returned (.tuple #[])) w2) := by
        have ad := AD.out
        have hs1 : s.lf ≠ 1 := by have := ad.lf; omega
        have e1 : (tdat x s).1 = { s with lf := M } := by
          unfold tdat
          rw [if_neg hs1, ad.kp, hL, show L - 1 = M by omega]
        have e2 : vdt x s v = (vbyt x v) := by unfold vdt; rw [if_neg hs1, ← ad.vv]
        rw [e1, e2]
        have q22 := ad.bu.trans q2
        exact ⟨rfl, m2, q22, A.out.2.2.1.but q22 A.out.2.2.2.1⟩
      have AW2 : Aside (w1.setCell ⟨W, 515, none⟩ (.int .u64 (M : Int)) = w2) := hw2
      clear q2 m2 hw2 kk hM0 hLb hM hL
      go_upto_region 8 with fail
      rw [AW2.out]
      clear c1 f1 hwr
      go_wp2_with fail
      first | go_end0 | (refine bodyPost_ret (results_none rfl _ _ _) rfl ?_)
      exact AX.out
  · by_cases h2 : s.us = 2 ∨ s.us = 3
    · have hd2 := hd (by omega)
      have c1 := h.k1540
      have f1 := h.fz 1540
      obtain ⟨y, hy⟩ : ∃ y, s.K[s.ln]? = some y := ⟨_, List.getElem?_eq_getElem (by have := hk.kl; omega)⟩
      have c2 := h.kk hy
      have f2 := h.fz (516 + s.ln)
      obtain ⟨N, hN⟩ : ∃ N, s.ln = N := ⟨_, rfl⟩
      have m1 := h.sK s.ln x (by omega) hx
      have m2 := m1.drew.s1540 (s.ln + 1) ⟨m1.ok.bl, m1.ok.bo, m1.ok.kl, m1.ok.ko, m1.ok.ps, m1.ok.wh, m1.ok.us, m1.ok.lf, by show s.ln + 1 ≤ 1024; omega, m1.ok.cm⟩
      have c3 := m1.drew.k1540
      have f3 := m1.drew.fz 1540
      have hN1 : s.ln + 1 ≤ 1024 := by omega
      simp only [hN] at c1 c2 f2 m1 c3 f3 hN1
      rw [hN] at m2
      obtain ⟨w0, hw0⟩ : ∃ w0, (w.setCell ⟨W, 516 + N, none⟩ (.int .u8 (x : Int))).drew = w0 := ⟨_, rfl⟩
      rw [hw0] at m2 c3 f3
      obtain ⟨w1, hw1⟩ : ∃ w1, w0.setCell ⟨W, 1540, none⟩ (.int .i64 ((N + 1 : Nat) : Int)) = w1 := ⟨_, rfl⟩
      rw [hw1] at m2
      have q1 : But W w w1 := by rw [← hw1, ← hw0]; exact But.of_only ((((Only.refl W w).setCell _ _).drew).setCell _ _)
      obtain ⟨s1, hs1⟩ : ∃ s1 : Ts, s1 = { s with K := s.K.set N x, ln := N + 1 } := ⟨_, rfl⟩
      have dq : Dq W s x v v s1 w w1 := ⟨by rw [hs1]; exact m2, q1, he.but q1 hW, by rw [hs1], by rw [hs1]; exact h0, by rw [hs1], by rw [hs1]; unfold tkp; rw [if_pos h2, hN], by rw [if_neg h1]⟩
      have AD : Aside (Dq W s x v v s1 w w1) := dq
      have AW : Aside ((w.setCell ⟨W, 516 + N, none⟩ (.int .u8 (x : Int))).drew = w0 ∧ w0.setCell ⟨W, 1540, none⟩ (.int .i64 ((N + 1 : Nat) : Int)) = w1) := ⟨hw0, hw1⟩
      have t1 : (N : Int) < 1024 := by omega
      have t2 : (N < 1024) = True := eq_true (by omega)
      have t3 : (s.us : Int) = 2 ∨ (s.us : Int) = 3 := by omega
      clear h h0 he hW hx hl hd hk hu h1 h2 hd2 hy m1 m2 q1 dq hN1 hw0 hw1 hN hs1
      rcases t3 with t3 | t3
      all_goals
        rw [t3] at c0
        clear t3
        go_enter Tryd.func26, Tryd.ntmps26
        go_upto_region 5 with fail
        go_region
        go_upto_region 6 with fail
        rw [AW.out.1]
        go_upto_region 7 with fail
        have hw1 := AW.out.2
        simp only [Int.natCast_add, Int.natCast_one] at hw1
        rw [hw1]
        clear hw1 AW c0 c1 c2 c3 f1 f2 f3 t1 t2
        have c1 := AD.out.wm.k515
        have f1 := AD.out.wm.fz 515
        obtain ⟨L, hL⟩ : ∃ L, s1.lf = L := ⟨_, rfl⟩
        rw [hL] at c1
        have hLb : 1 ≤ L ∧ L < 9223372036854775808 := by have := AD.out.lf; have := A.out.2.2.2.2.2.1; have := AD.out.wm.ok.lf; omega
        obtain ⟨M, hM⟩ : ∃ M, L = M + 1 := ⟨L - 1, by omega⟩
        have hwr : IntKind.u64.wrap ((L : Int) - 1) = (M : Int) := by rw [IntKind.wrap_u64]; omega
        have kk := AD.out.wm.ok
        have m2 := AD.out.wm.s515 M ⟨kk.bl, kk.bo, kk.kl, kk.ko, kk.ps, kk.wh, kk.us, by show M < _; omega, kk.ln, kk.cm⟩
        obtain ⟨w2, hw2⟩ : ∃ w2, w1.setCell ⟨W, 515, none⟩ (.int .u64 (M : Int)) = w2 := ⟨_, rfl⟩
        have q2 : But W w1 w2 := by rw [← hw2]; exact But.of_only ((Only.refl W w1).setCell 515 _)
        rw [hw2] at m2
        have c2 := m2.k515
        have f2 := m2.fz 515
        by_cases hM0 : M = 0
        · have t1 : ((M : Int) == 0) = true := by rw [beq_iff_eq]; omega
          have c3 := m2.k0
          have f3 := m2.fz 0
          have m3 := m2.s0 2 ⟨kk.bl, kk.bo, kk.kl, kk.ko, kk.ps, by show (2 : Nat) ≤ 3; decide, kk.us, by show M < _; omega, kk.ln, kk.cm⟩
          obtain ⟨w3, hw3⟩ : ∃ w3, w2.setCell ⟨W, 0, none⟩ (.int .i64 ((2 : Nat) : Int)) = w3 := ⟨_, rfl⟩
          have q3 : But W w2 w3 := by rw [← hw3]; exact But.of_only ((Only.refl W w2).setCell 0 _)
          rw [hw3] at m3
          have q33 : But W w w3 := (AD.out.bu.trans q2).trans q3
          have hen := endData_c w3 m3 AD.out.why (A.out.2.2.1.but q33 A.out.2.2.2.1) A.out.2.2.2.1
          have hen2 : Calls Tryd.prog 47 #[.pointer (some ⟨W, 0, none⟩)] w3 fun e w' => Wp W (tdat x s).1 (vdt x s v) w e w' := hen.mono fun e w' q => by
            have q := q.from q33
            have ad := AD.out
            have hs1 : s.lf = 1 := by have := ad.lf; omega
            have e1 : (tdat x s).1 = tend { s1 with lf := M, wh := 2 } := by
              unfold tdat
              rw [if_pos hs1, ad.kp, hL, show L - 1 = M by omega]
            have e2 : vdt x s v = vcl s1.us v := by unfold vdt; rw [if_pos hs1, ad.us, ← ad.vv]
            rw [e1, e2]
            exact q
          have AW2 : Aside (w1.setCell ⟨W, 515, none⟩ (.int .u64 (M : Int)) = w2 ∧ w2.setCell ⟨W, 0, none⟩ (.int .i64 2) = w3) := ⟨hw2, hw3⟩
          clear hen q33 q3 m3 hw3 q2 m2 hw2 kk hM0 hLb hM hL
          go_upto_region 8 with fail
          rw [AW2.out.1]
          clear c1 f1 hwr
          go_upto_region 10 with fail
          rw [AW2.out.2]
          clear c2 f2 c3 f3 t1
          go_wp2_with (go_at_call 47; refine hen2.mono ?_; rintro e4 w4 k4; have re4 := k4.re; subst re4)
          first | go_end0 | (refine bodyPost_ret (results_none rfl _ _ _) rfl ?_)
          exact k4
        · have t1 : ((M : Int) == 0) = false := by rw [beq_eq_false_iff_ne]; omega
          have AX : Aside (Wp W (tdat x s).1 (vdt x s v) w (.returned (.tuple #[])) w2) := by
            have ad := AD.out
            have hs1 : s.lf ≠ 1 := by have := ad.lf; omega
            have e1 : (tdat x s).1 = { s1 with lf := M } := by
              unfold tdat
              rw [if_neg hs1, ad.kp, hL, show L - 1 = M by omega]
            have e2 : vdt x s v = v := by unfold vdt; rw [if_neg hs1, ← ad.vv]
            rw [e1, e2]
            have q22 := ad.bu.trans q2
            exact ⟨rfl, m2, q22, A.out.2.2.1.but q22 A.out.2.2.2.1⟩
          have AW2 : Aside (w1.setCell ⟨W, 515, none⟩ (.int .u64 (M : Int)) = w2) := hw2
          clear q2 m2 hw2 kk hM0 hLb hM hL
          go_upto_region 8 with fail
          rw [AW2.out]
          clear c1 f1 hwr
          go_wp2_with fail
          first | go_end0 | (refine bodyPost_ret (results_none rfl _ _ _) rfl ?_)
          exact AX.out
    · have h3 : s.us = 0 := by omega
      rw [h3] at c0
      have dq : Dq W s x v v s w w := ⟨h, But.refl _ _, he, rfl, h0, rfl, by unfold tkp; rw [if_neg h2], by rw [if_neg h1]⟩
      have AD : Aside (Dq W s x v v s w w) := dq
      clear h h0 he hW hx hl hd hk hu h1 h2 h3 dq
      go_enter Tryd.func26, Tryd.ntmps26
      go_upto_region 7 with fail
      clear c0
      have c1 := AD.out.wm.k515
      have f1 := AD.out.wm.fz 515
      obtain ⟨L, hL⟩ : ∃ L, s.lf = L := ⟨_, rfl⟩
      rw [hL] at c1
      have hLb : 1 ≤ L ∧ L < 9223372036854775808 := by have := AD.out.lf; have := A.out.2.2.2.2.2.1; have := AD.out.wm.ok.lf; omega
      obtain ⟨M, hM⟩ : ∃ M, L = M + 1 := ⟨L - 1, by omega⟩
      have hwr : IntKind.u64.wrap ((L : Int) - 1) = (M : Int) := by rw [IntKind.wrap_u64]; omega
      have kk := AD.out.wm.ok
      have m2 := AD.out.wm.s515 M ⟨kk.bl, kk.bo, kk.kl, kk.ko, kk.ps, kk.wh, kk.us, by show M < _; omega, kk.ln, kk.cm⟩
      obtain ⟨w2, hw2⟩ : ∃ w2, w.setCell ⟨W, 515, none⟩ (.int .u64 (M : Int)) = w2 := ⟨_, rfl⟩
      have q2 : But W w w2 := by rw [← hw2]; exact But.of_only ((Only.refl W w).setCell 515 _)
      rw [hw2] at m2
      have c2 := m2.k515
      have f2 := m2.fz 515
      by_cases hM0 : M = 0
      · have t1 : ((M : Int) == 0) = true := by rw [beq_iff_eq]; omega
        have c3 := m2.k0
        have f3 := m2.fz 0
        have m3 := m2.s0 2 ⟨kk.bl, kk.bo, kk.kl, kk.ko, kk.ps, by show (2 : Nat) ≤ 3; decide, kk.us, by show M < _; omega, kk.ln, kk.cm⟩
        obtain ⟨w3, hw3⟩ : ∃ w3, w2.setCell ⟨W, 0, none⟩ (.int .i64 ((2 : Nat) : Int)) = w3 := ⟨_, rfl⟩
        have q3 : But W w2 w3 := by rw [← hw3]; exact But.of_only ((Only.refl W w2).setCell 0 _)
        rw [hw3] at m3
        have q33 : But W w w3 := (AD.out.bu.trans q2).trans q3
        have hen := endData_c w3 m3 AD.out.why (A.out.2.2.1.but q33 A.out.2.2.2.1) A.out.2.2.2.1
        have hen2 : Calls Tryd.prog 47 #[.pointer (some ⟨W, 0, none⟩)] w3 fun e w' => Wp W (tdat x s).1 (vdt x s v) w e w' := hen.mono fun e w' q => by
          have q := q.from q33
          have ad := AD.out
          have hs1 : s.lf = 1 := by have := ad.lf; omega
          have e1 : (tdat x s).1 = tend { s with lf := M, wh := 2 } := by
            unfold tdat
            rw [if_pos hs1, ad.kp, hL, show L - 1 = M by omega]
          have e2 : vdt x s v = vcl s.us v := by unfold vdt; rw [if_pos hs1, ad.us, ← ad.vv]
          rw [e1, e2]
          exact q
        have AW2 : Aside (w.setCell ⟨W, 515, none⟩ (.int .u64 (M : Int)) = w2 ∧ w2.setCell ⟨W, 0, none⟩ (.int .i64 2) = w3) := ⟨hw2, hw3⟩
        clear hen q33 q3 m3 hw3 q2 m2 hw2 kk hM0 hLb hM hL
        go_upto_region 8 with fail
        rw [AW2.out.1]
        clear c1 f1 hwr
        go_upto_region 10 with fail
        rw [AW2.out.2]
        clear c2 f2 c3 f3 t1
        go_wp2_with (go_at_call 47; refine hen2.mono ?_; rintro e4 w4 k4; have re4 := k4.re; subst re4)
        first | go_end0 | (refine bodyPost_ret (results_none rfl _ _ _) rfl ?_)
        exact k4
      · have t1 : ((M : Int) == 0) = false := by rw [beq_eq_false_iff_ne]; omega
        have AX : Aside (Wp W (tdat x s).1 (vdt x s v) w (.returned (.tuple #[])) w2) := by
          have ad := AD.out
          have hs1 : s.lf ≠ 1 := by have := ad.lf; omega
          have e1 : (tdat x s).1 = { s with lf := M } := by
            unfold tdat
            rw [if_neg hs1, ad.kp, hL, show L - 1 = M by omega]
          have e2 : vdt x s v = v := by unfold vdt; rw [if_neg hs1, ← ad.vv]
          rw [e1, e2]
          have q22 := ad.bu.trans q2
          exact ⟨rfl, m2, q22, A.out.2.2.1.but q22 A.out.2.2.2.1⟩
        have AW2 : Aside (w.setCell ⟨W, 515, none⟩ (.int .u64 (M : Int)) = w2) := hw2
        clear q2 m2 hw2 kk hM0 hLb hM hL
        go_upto_region 8 with fail
        rw [AW2.out]
        clear c1 f1 hwr
        go_wp2_with fail
        first | go_end0 | (refine bodyPost_ret (results_none rfl _ _ _) rfl ?_)
        exact AX.out
end
end Go.Proofs.YtcmmjbkgoafbnaaDoor

/-
  What Put, Reason, End and Next come to.
-/
namespace Go.Proofs.YtcmmjbkgoafbnaaDoor
open Go.RowKit
set_option linter.unusedVariables false
set_option linter.unusedSimpArgs false
/-- May a byte be put in? -/
def vop (s : Ts) (v : Rv) : Bool := decide (v.ek = 0) && decide (s.why = 0) && !v.ed
/-- What a byte makes of the events. -/
def vpu (s : Ts) (x : Nat) (v : Rv) : Rv := if s.wh = 0 then (if (s.ps + 1) % 512 = 0 then vhd { s with B := s.B.set s.ps x, ps := 0 } v else v) else if s.wh = 1 then vdt x { s with ps := (s.ps + 1) % 512 } v else v
section
variable {W : Nat} {s : Ts} {v : Rv}
theorem open_c (w : World) (h : Wm w W s v) : Calls Tryd.prog 24 #[.pointer (some ⟨W, 0, none⟩)] w fun e w' => e = .returned (.bool (vop s v)) ∧ w' = w := by
  have c1 := h.k1545
  have c2 := h.k1552
  have c3 := h.k1551
  have e1 : decide (v.ek = 0) = (v.ek == 0) := rfl
  have e2 : decide (s.why = 0) = ((s.why : Int) == 0) := by by_cases q : s.why = 0 <;> simp [q]
  unfold vop
  rw [e1, e2]
  generalize v.ek = a at *
  generalize (s.why : Int) = b at *
  generalize v.ed = c at *
  generalize hb1 : (a == 0) = b1
  generalize hb2 : (b == 0) = b2
  clear h e1 e2
  cases b1 <;> cases b2 <;> cases c
  all_goals
    go_enter Tryd.func24, Tryd.ntmps24
    go_wp2_with fail
    go_ret
    exact ⟨rfl, rfl⟩
/-- What Put comes to where it takes the byte. -/
structure Pt (W : Nat) (s' : Ts) (v' : Rv) (w : World) (e : Ending) (w' : World) : Prop where
  re : e = .returned (.bool true)
  wm : Wm w' W s' v'
  bu : But W w w'
  er : Er w'
theorem put_no (x : Nat) (w : World) (h : Wm w W s v) (ho : vop s v = false) : Calls Tryd.prog 9 #[.pointer (some ⟨W, 0, none⟩), .int .u8 (x : Int)] w fun e w' => e = .returned (.bool false) ∧ w' = w := by
  have hop := open_c w h
  rw [ho] at hop
  clear h ho
  go_enter Tryd.func9, Tryd.ntmps9
  go_wp2_with (go_at_call 24; refine hop.mono ?_; rintro e1 w1 ⟨rfl, rfl⟩)
  go_ret
  exact ⟨rfl, rfl⟩
set_option maxRecDepth 20000 in
set_option maxHeartbeats 4000000 in
theorem put_yes (x : Nat) (w : World) (h : Wm w W s v) (hd : Tod s) (ho : vop s v = true) (h0 : s.why = 0) (he : Er w) (hW : 3 ≤ W) (hx : x < 256) : Calls Tryd.prog 9 #[.pointer (some ⟨W, 0, none⟩), .int .u8 (x : Int)] w fun e w' => Pt W (tput s x).1 (vpu s x v) w e w' := by
  have hop := open_c w h
  rw [ho] at hop
  have hk := h.ok
  obtain ⟨P, hP⟩ : ∃ P, s.ps = P := ⟨_, rfl⟩
  obtain ⟨P1, hP1⟩ : ∃ P1, (P + 1) % 512 = P1 := ⟨_, rfl⟩
  have hPb : P < 512 ∧ P1 < 512 := by have := hk.ps; omega
  have c1 := h.k1
  have f1 := h.fz 1
  rw [hP] at c1
  have hrem : ((P : Int) + 1) % 512 = (P1 : Int) := by omega
  have hrem2 : Int.tmod ((P : Int) + 1) 512 = (P1 : Int) := by rw [Int.tmod_eq_emod_of_nonneg (by omega)]; omega
  have t0 : (P : Int) < 512 := by omega
  have m1 := h.s1 P1 hPb.2
  obtain ⟨w1, hw1⟩ : ∃ w1, w.setCell ⟨W, 1, none⟩ (.int .i64 (P1 : Int)) = w1 := ⟨_, rfl⟩
  rw [hw1] at m1
  have q1 : But W w w1 := by rw [← hw1]; exact But.of_only ((Only.refl W w).setCell 1 _)
  have c2 := m1.k0
  have c3 := m1.k1
  have AW : Aside (w.setCell ⟨W, 1, none⟩ (.int .i64 (P1 : Int)) = w1) := hw1
  have A : Aside (Wm w1 W { s with ps := P1 } v ∧ But W w w1 ∧ Er w1 ∧ 3 ≤ W ∧ x < 256 ∧ s.why = 0 ∧ s.ps = P ∧ (P + 1) % 512 = P1 ∧ P < 512 ∧ P1 < 512 ∧ Tod s ∧ Er w) := ⟨m1, q1, he.but q1 hW, hW, hx, h0, hP, hP1, hPb.1, hPb.2, hd, he⟩
  clear h he hW hx hk hPb hP hP1 hw1 m1 q1 ho
  go_enter Tryd.func9, Tryd.ntmps9
  go_upto_region 5 with (go_at_call 24; refine hop.mono ?_; rintro e1 w ⟨rfl, rfl⟩)
  rw [AW.out]
  clear hop c1 f1 hrem hrem2 AW
  by_cases hw0 : s.wh = 0
  · rw [show ({ s with ps := P1 } : Ts).wh = s.wh from rfl, hw0] at c2
    obtain ⟨y, hy⟩ : ∃ y, s.B[P]? = some y := ⟨_, List.getElem?_eq_getElem (by have := A.out.1.ok.bl; have : s.B.length = 512 := this; have := A.out.2.2.2.2.2.2.2.2.1; omega)⟩
    have c4 : w1.cell? ⟨W, 2 + P, none⟩ = some (.int .u8 (y : Int)) := A.out.1.kb hy
    have f4 := A.out.1.fz (2 + P)
    have m2 := A.out.1.sB P x A.out.2.2.2.2.2.2.2.2.1 A.out.2.2.2.2.1
    obtain ⟨w2, hw2⟩ : ∃ w2, w1.setCell ⟨W, 2 + P, none⟩ (.int .u8 (x : Int)) = w2 := ⟨_, rfl⟩
    rw [hw2] at m2
    have q2 : But W w1 w2 := by rw [← hw2]; exact But.of_only ((Only.refl W w1).setCell _ _)
    have c5 := m2.k1
    have c6 := m2.k0
    rw [show ({ s with ps := P1, B := s.B.set P x } : Ts).wh = s.wh from rfl, hw0] at c6
    have t2 : (P < 512) = True := eq_true A.out.2.2.2.2.2.2.2.2.1
    have AW : Aside (w1.setCell ⟨W, 2 + P, none⟩ (.int .u8 (x : Int)) = w2) := hw2
    by_cases hp1 : P1 = 0
    · subst hp1
      have hhd := header_c w2 m2 A.out.2.2.2.2.2.1 (A.out.2.2.1.but q2 A.out.2.2.2.1) A.out.2.2.2.1
      have t3 : (((0 : Nat) : Int) == 0) = true := rfl
      have AT : Aside ((tput s x).1 = tnx (thead { s with B := s.B.set P x, ps := 0 }).1 ∧ vpu s x v = vhd { s with B := s.B.set P x, ps := 0 } v ∧ But W w w2) := by
        have a0 := A.out
        refine ⟨?_, ?_, a0.2.1.trans q2⟩
        · unfold tput; rw [if_pos hw0, a0.2.2.2.2.2.2.1, if_pos a0.2.2.2.2.2.2.2.1]
        · unfold vpu; rw [if_pos hw0, a0.2.2.2.2.2.2.1, if_pos a0.2.2.2.2.2.2.2.1]
      clear c3 m2 q2 hw2 hy
      go_upto_region 8 with fail
      rw [AW.out]
      clear AW c4 f4 c6
      go_upto_region 12 with (go_at_call 25; refine hhd.mono ?_; rintro e3 w3 k3; obtain ⟨rfl, m3, b3, r3⟩ := k3)
      clear hhd c2 c5 t3
      have q3 : But W w w3 := AT.out.2.2.trans b3
      obtain ⟨s3, hs3⟩ : ∃ s3, (thead { s with B := s.B.set P x, ps := 0 }).1 = s3 := ⟨_, rfl⟩
      obtain ⟨v3, hv3⟩ : ∃ v3, vhd { s with B := s.B.set P x, ps := 0 } v = v3 := ⟨_, rfl⟩
      have AS : Aside ((tput s x).1 = tnx s3 ∧ vpu s x v = v3) := ⟨by rw [AT.out.1, hs3], by rw [AT.out.2.1, hv3]⟩
      have m3 : Wm w3 W s3 v3 := by rw [← hs3, ← hv3]; exact m3
      clear AT b3 hs3 hv3
      have c7 := m3.k0
      have c8 := m3.k1
      have f7 := m3.fz 0
      have AZ : Aside (Wm w3 W s3 v3 ∧ But W w w3 ∧ Er w3) := ⟨m3, q3, r3⟩
      by_cases h2 : s3.wh = 2
      · have u1 : ((s3.wh : Int) == 2) = true := by rw [beq_iff_eq]; omega
        by_cases h3 : s3.ps = 0
        · have u2 : ((s3.ps : Int) == 0) = true := by rw [beq_iff_eq]; omega
          have AU : Aside (tnx s3 = { s3 with wh := 0 }) := by show tnx s3 = _; unfold tnx; rw [if_pos ⟨h2, h3⟩]
          clear m3 q3 r3 h2 h3
          go_wp2_with fail
          go_ret
          have az := AZ.out
          rw [AS.out.1, AS.out.2, AU.out]
          have kk := az.1.ok
          have o : Only W w3 (w3.setCell ⟨W, 0, none⟩ (.int .i64 0)) := (Only.refl W w3).setCell 0 _
          exact ⟨rfl, az.1.s0 0 ⟨kk.bl, kk.bo, kk.kl, kk.ko, kk.ps, by show (0 : Nat) ≤ 3; decide, kk.us, kk.lf, kk.ln, kk.cm⟩, az.2.1.trans (But.of_only o), az.2.2.but (But.of_only o) A.out.2.2.2.1⟩
        · have u2 : ((s3.ps : Int) == 0) = false := by rw [beq_eq_false_iff_ne]; omega
          have AU : Aside (tnx s3 = s3) := by show tnx s3 = _; unfold tnx; rw [if_neg (fun q => h3 q.2)]
          clear m3 q3 r3 h2 h3
          go_wp2_with fail
          go_ret
          rw [AS.out.1, AS.out.2, AU.out]
          exact ⟨rfl, AZ.out.1, AZ.out.2.1, AZ.out.2.2⟩
      · have u1 : ((s3.wh : Int) == 2) = false := by rw [beq_eq_false_iff_ne]; omega
        have AU : Aside (tnx s3 = s3) := by show tnx s3 = _; unfold tnx; rw [if_neg (fun q => h2 q.1)]
        clear m3 q3 r3 h2
        go_wp2_with fail
        go_ret
        rw [AS.out.1, AS.out.2, AU.out]
        exact ⟨rfl, AZ.out.1, AZ.out.2.1, AZ.out.2.2⟩
    · have t3 : ((P1 : Int) == 0) = false := by rw [beq_eq_false_iff_ne]; omega
      have AX : Aside (Pt W (tput s x).1 (vpu s x v) w (.returned (.bool true)) w2) := by
        have a0 := A.out
        have e1 : (tput s x).1 = { s with ps := P1, B := s.B.set P x } := by unfold tput; rw [if_pos hw0, a0.2.2.2.2.2.2.1, a0.2.2.2.2.2.2.2.1, if_neg hp1]
        have e2 : vpu s x v = v := by unfold vpu; rw [if_pos hw0, a0.2.2.2.2.2.2.1, a0.2.2.2.2.2.2.2.1, if_neg hp1]
        rw [e1, e2]
        have qq := a0.2.1.trans q2
        exact ⟨rfl, m2, qq, a0.2.2.2.2.2.2.2.2.2.2.2.but qq a0.2.2.2.1⟩
      clear c3 m2 q2 hw2 hy
      go_upto_region 8 with fail
      rw [AW.out]
      clear AW c4 f4
      go_wp2_with fail
      go_ret
      exact AX.out
  · by_cases hw1 : s.wh = 1
    · rw [show ({ s with ps := P1 } : Ts).wh = s.wh from rfl, hw1] at c2
      have hda := A.out.2.2.2.2.2.2.2.2.2.2.1.da hw1
      have hdt := data_c x w1 A.out.1 A.out.2.2.2.2.2.1 A.out.2.2.1 A.out.2.2.2.1 A.out.2.2.2.2.1 hda.1 hda.2
      have AT : Aside ((tput s x).1 = tnx (tdat x { s with ps := P1 }).1 ∧ vpu s x v = vdt x { s with ps := P1 } v) := by
        have a0 := A.out
        refine ⟨?_, ?_⟩
        · unfold tput; rw [if_neg hw0, if_pos hw1, a0.2.2.2.2.2.2.1, a0.2.2.2.2.2.2.2.1]
        · unfold vpu; rw [if_neg hw0, if_pos hw1, a0.2.2.2.2.2.2.1, a0.2.2.2.2.2.2.2.1]
      clear hda
      go_upto_region 12 with (go_at_call 26; refine hdt.mono ?_; rintro e3 w3 k3; obtain ⟨rfl, m3, b3, r3⟩ := k3)
      clear hdt c2 c3
      have q3 : But W w w3 := A.out.2.1.trans b3
      obtain ⟨s3, hs3⟩ : ∃ s3, (tdat x { s with ps := P1 }).1 = s3 := ⟨_, rfl⟩
      obtain ⟨v3, hv3⟩ : ∃ v3, vdt x { s with ps := P1 } v = v3 := ⟨_, rfl⟩
      have AS : Aside ((tput s x).1 = tnx s3 ∧ vpu s x v = v3) := ⟨by rw [AT.out.1, hs3], by rw [AT.out.2, hv3]⟩
      have m3 : Wm w3 W s3 v3 := by rw [← hs3, ← hv3]; exact m3
      clear AT b3 hs3 hv3
      have c7 := m3.k0
      have c8 := m3.k1
      have f7 := m3.fz 0
      have AZ : Aside (Wm w3 W s3 v3 ∧ But W w w3 ∧ Er w3) := ⟨m3, q3, r3⟩
      by_cases h2 : s3.wh = 2
      · have u1 : ((s3.wh : Int) == 2) = true := by rw [beq_iff_eq]; omega
        by_cases h3 : s3.ps = 0
        · have u2 : ((s3.ps : Int) == 0) = true := by rw [beq_iff_eq]; omega
          have AU : Aside (tnx s3 = { s3 with wh := 0 }) := by show tnx s3 = _; unfold tnx; rw [if_pos ⟨h2, h3⟩]
          clear m3 q3 r3 h2 h3
          go_wp2_with fail
          go_ret
          have az := AZ.out
          rw [AS.out.1, AS.out.2, AU.out]
          have kk := az.1.ok
          have o : Only W w3 (w3.setCell ⟨W, 0, none⟩ (.int .i64 0)) := (Only.refl W w3).setCell 0 _
          exact ⟨rfl, az.1.s0 0 ⟨kk.bl, kk.bo, kk.kl, kk.ko, kk.ps, by show (0 : Nat) ≤ 3; decide, kk.us, kk.lf, kk.ln, kk.cm⟩, az.2.1.trans (But.of_only o), az.2.2.but (But.of_only o) A.out.2.2.2.1⟩
        · have u2 : ((s3.ps : Int) == 0) = false := by rw [beq_eq_false_iff_ne]; omega
          have AU : Aside (tnx s3 = s3) := by show tnx s3 = _; unfold tnx; rw [if_neg (fun q => h3 q.2)]
          clear m3 q3 r3 h2 h3
          go_wp2_with fail
          go_ret
          rw [AS.out.1, AS.out.2, AU.out]
          exact ⟨rfl, AZ.out.1, AZ.out.2.1, AZ.out.2.2⟩
      · have u1 : ((s3.wh : Int) == 2) = false := by rw [beq_eq_false_iff_ne]; omega
        have AU : Aside (tnx s3 = s3) := by show tnx s3 = _; unfold tnx; rw [if_neg (fun q => h2 q.1)]
        clear m3 q3 r3 h2
        go_wp2_with fail
        go_ret
        rw [AS.out.1, AS.out.2, AU.out]
        exact ⟨rfl, AZ.out.1, AZ.out.2.1, AZ.out.2.2⟩
    · have t1 : ((s.wh : Int) == 0) = false := by rw [beq_eq_false_iff_ne]; omega
      have t2 : ((s.wh : Int) == 1) = false := by rw [beq_eq_false_iff_ne]; omega
      have AT : Aside ((tput s x).1 = tnx { s with ps := P1 } ∧ vpu s x v = v) := by
        have a0 := A.out
        refine ⟨?_, ?_⟩
        · unfold tput; rw [if_neg hw0, if_neg hw1, a0.2.2.2.2.2.2.1, a0.2.2.2.2.2.2.2.1]
        · unfold vpu; rw [if_neg hw0, if_neg hw1]
      clear hw0 hw1
      go_upto_region 12 with fail
      clear c3 c2 t1 t2
      obtain ⟨w3, hw3⟩ : ∃ w3, w1 = w3 := ⟨_, rfl⟩
      have q3 := A.out.2.1
      have r3 := A.out.2.2.1
      have m3 := A.out.1
      rw [hw3] at q3 r3 m3 ⊢
      obtain ⟨s3, hs3⟩ : ∃ s3 : Ts, ({ s with ps := P1 } : Ts) = s3 := ⟨_, rfl⟩
      obtain ⟨v3, hv3⟩ : ∃ v3, v = v3 := ⟨_, rfl⟩
      have AS : Aside ((tput s x).1 = tnx s3 ∧ vpu s x v = v3) := ⟨by rw [AT.out.1, hs3], by rw [AT.out.2, hv3]⟩
      have m3 : Wm w3 W s3 v3 := by rw [← hs3, ← hv3]; exact m3
      clear AT hs3 hv3 hw3
      have c7 := m3.k0
      have c8 := m3.k1
      have f7 := m3.fz 0
      have AZ : Aside (Wm w3 W s3 v3 ∧ But W w w3 ∧ Er w3) := ⟨m3, q3, r3⟩
      by_cases h2 : s3.wh = 2
      · have u1 : ((s3.wh : Int) == 2) = true := by rw [beq_iff_eq]; omega
        by_cases h3 : s3.ps = 0
        · have u2 : ((s3.ps : Int) == 0) = true := by rw [beq_iff_eq]; omega
          have AU : Aside (tnx s3 = { s3 with wh := 0 }) := by show tnx s3 = _; unfold tnx; rw [if_pos ⟨h2, h3⟩]
          clear m3 q3 r3 h2 h3
          go_wp2_with fail
          go_ret
          have az := AZ.out
          rw [AS.out.1, AS.out.2, AU.out]
          have kk := az.1.ok
          have o : Only W w3 (w3.setCell ⟨W, 0, none⟩ (.int .i64 0)) := (Only.refl W w3).setCell 0 _
          exact ⟨rfl, az.1.s0 0 ⟨kk.bl, kk.bo, kk.kl, kk.ko, kk.ps, by show (0 : Nat) ≤ 3; decide, kk.us, kk.lf, kk.ln, kk.cm⟩, az.2.1.trans (But.of_only o), az.2.2.but (But.of_only o) A.out.2.2.2.1⟩
        · have u2 : ((s3.ps : Int) == 0) = false := by rw [beq_eq_false_iff_ne]; omega
          have AU : Aside (tnx s3 = s3) := by show tnx s3 = _; unfold tnx; rw [if_neg (fun q => h3 q.2)]
          clear m3 q3 r3 h2 h3
          go_wp2_with fail
          go_ret
          rw [AS.out.1, AS.out.2, AU.out]
          exact ⟨rfl, AZ.out.1, AZ.out.2.1, AZ.out.2.2⟩
      · have u1 : ((s3.wh : Int) == 2) = false := by rw [beq_eq_false_iff_ne]; omega
        have AU : Aside (tnx s3 = s3) := by show tnx s3 = _; unfold tnx; rw [if_neg (fun q => h2 q.1)]
        clear m3 q3 r3 h2
        go_wp2_with fail
        go_ret
        rw [AS.out.1, AS.out.2, AU.out]
        exact ⟨rfl, AZ.out.1, AZ.out.2.1, AZ.out.2.2⟩
end
end Go.Proofs.YtcmmjbkgoafbnaaDoor

/-
  What Next, Reason and End come to.
-/
namespace Go.Proofs.YtcmmjbkgoafbnaaDoor
open Go.RowKit
set_option linter.unusedVariables false
set_option linter.unusedSimpArgs false
/-- An event as it lies. -/
def ev5 (v : Rv) : Array Value := #[.int .i64 v.ek, .int .u8 v.eb, .int .i64 v.en, .int .i64 0, .string (st v.et)]
def ev0 : Array Value := #[.int .i64 0, .int .u8 0, .int .i64 0, .int .i64 0, .string ⟨#[]⟩]
/-- What is left behind an event that was told. -/
def vnx (v : Rv) : Rv := if v.cl then ⟨3, 0, 0, [], false, v.ed⟩ else ⟨0, 0, 0, [], false, v.ed⟩
theorem set5 {w : World} {H : Nat} {a0 a1 a2 a3 a4 : Value} {t : TypeId} (h : Cells w H #[a0, a1, a2, a3, a4] t) (b0 b1 b2 b3 b4 : Value) : Cells (((((w.setCell ⟨H, 0, none⟩ b0).setCell ⟨H, 1, none⟩ b1).setCell ⟨H, 2, none⟩ b2).setCell ⟨H, 3, none⟩ b3).setCell ⟨H, 4, none⟩ b4) H #[b0, b1, b2, b3, b4] t := ((((h.set 0 b0).set 1 b1).set 2 b2).set 3 b3).set 4 b4
theorem only_five (H : Nat) (w : World) (b0 b1 b2 b3 b4 : Value) : Only H w (((((w.setCell ⟨H, 0, none⟩ b0).setCell ⟨H, 1, none⟩ b1).setCell ⟨H, 2, none⟩ b2).setCell ⟨H, 3, none⟩ b3).setCell ⟨H, 4, none⟩ b4) := (((((Only.refl H w).setCell 0 _).setCell 1 _).setCell 2 _).setCell 3 _).setCell 4 _
theorem size36 : (Tryd.prog.info? 36).map (·.size) = some 5 := by kernel_rfl
theorem ret36 {w : World} {g : Nat} {cs : Array Value} (h : Cells w g cs 36) (hc : cs.size = 5) : (loadVar 36 ⟨g, 0, none⟩).run Tryd.prog w = .ok (.agg cs) w := by
  exact run_loadVar_row (P := Tryd.prog) w g 36 36 cs (0, 0) _ h Tryd.underlying36 rfl (by rw [hc]; exact size36)
section
variable {W : Nat} {s : Ts} {v : Rv}
theorem reason_c (w : World) (h : Wm w W s v) : Calls Tryd.prog 13 #[.pointer (some ⟨W, 0, none⟩)] w fun e w' => e = .returned (.int .i64 (s.why : Int)) ∧ w = w' := by
  have c1 := h.k1552
  clear h
  go_enter Tryd.func13, Tryd.ntmps13
  go_wp2_with fail
  go_ret
  exact ⟨rfl, rfl⟩
set_option maxRecDepth 20000 in
theorem next_no (w : World) (h : Wm w W s v) (hk : v.ek = 0) : Calls Tryd.prog 15 #[.pointer (some ⟨W, 0, none⟩)] w fun e w' => e = .returned (.tuple #[.agg ev0, .bool false]) ∧ Below w.heap.size w w' := by
  obtain ⟨H, hH⟩ : ∃ H, w.heap.size = H := ⟨_, rfl⟩
  have hB := h.lt
  have h1 := h.alloc (.cells ev0 36)
  have hC := Cells.new w ev0 36
  have c2 := h1.k1545
  rw [hk] at c2
  rw [hH] at hC hB ⊢
  have hbel : Below H w (w.alloc (.cells ev0 36)) := by rw [← hH]; exact (Below.refl _ w).alloc (Nat.le_refl _) _
  obtain ⟨w1, hw1⟩ : ∃ w1, w.alloc (.cells ev0 36) = w1 := ⟨_, rfl⟩
  rw [hw1] at hC c2 hbel
  have d0 : w1.cell? ⟨H, 0, none⟩ = some (.int .i64 0) := by rw [hC.cell]; rfl
  have d1 : w1.cell? ⟨H, 1, none⟩ = some (.int .u8 0) := by rw [hC.cell]; rfl
  have d2 : w1.cell? ⟨H, 2, none⟩ = some (.int .i64 0) := by rw [hC.cell]; rfl
  have d3 : w1.cell? ⟨H, 3, none⟩ = some (.int .i64 0) := by rw [hC.cell]; rfl
  have d4 : w1.cell? ⟨H, 4, none⟩ = some (.string ⟨#[]⟩) := by rw [hC.cell]; rfl
  have z0 := hC.frozen 0
  have z1 := hC.frozen 1
  have z2 := hC.frozen 2
  have z3 := hC.frozen 3
  have z4 := hC.frozen 4
  have A : Aside (Cells w1 H ev0 36 ∧ Below H w w1) := ⟨hC, hbel⟩
  clear h1 hC hbel h hB hk
  unfold ev0 at hw1
  go_enter Tryd.func15, Tryd.ntmps15
  go_upto_region 1 with fail
  clear hw1
  go_wp2_with fail
  (try simp only [Exit.inBlock, Exit.then])
  have hC2 := set5 A.out.1 (.int .i64 0) (.int .u8 0) (.int .i64 0) (.int .i64 0) (.string ⟨#[]⟩)
  have o2 := only_five H w1 (.int .i64 0) (.int .u8 0) (.int .i64 0) (.int .i64 0) (.string ⟨#[]⟩)
  refine bodyPost_ret (v := .tuple #[.agg ev0, .bool false]) ?_ rfl ?_
  · rw [results_cell_tmp rfl]
    simp [asAddr, Result.andThen, ret36 hC2 rfl, ev0, ev5]
  · exact ⟨rfl, A.out.2.trans (o2.below (Nat.le_refl _))⟩
set_option maxRecDepth 20000 in
set_option maxHeartbeats 1000000 in
theorem next_yes (w : World) (h : Wm w W s v) (hk : v.ek ≠ 0) : Calls Tryd.prog 15 #[.pointer (some ⟨W, 0, none⟩)] w fun e w' => e = .returned (.tuple #[.agg (ev5 v), .bool true]) ∧ Wm w' W s (vnx v) ∧ But W w w' := by
  have hB := h.lt
  obtain ⟨H, hH⟩ : ∃ H, w.heap.size = H := ⟨_, rfl⟩
  obtain ⟨w1, hw1⟩ : ∃ w1, w.alloc (.cells ev0 36) = w1 := ⟨_, rfl⟩
  have kH : Cells w1 H ev0 36 := by rw [← hw1, ← hH]; exact Cells.new w ev0 36
  have b1 : Below w.heap.size w w1 := by rw [← hw1]; exact (Below.refl _ w).alloc (Nat.le_refl _) _
  have m1 := h.below b1 hB
  have c5 := m1.k1545
  have c6 := m1.k1546
  have c7 := m1.k1547
  have c8 := m1.k1548
  have c9 := m1.k1549
  obtain ⟨H2, hH2⟩ : ∃ H2, w1.heap.size = H2 := ⟨_, rfl⟩
  obtain ⟨w2, hw2⟩ : ∃ w2, w1.alloc (.cells (ev5 v) 36) = w2 := ⟨_, rfl⟩
  have kH2 : Cells w2 H2 (ev5 v) 36 := by rw [← hw2, ← hH2]; exact Cells.new w1 _ 36
  have b2 : Below w1.heap.size w1 w2 := by rw [← hw2]; exact (Below.refl _ w1).alloc (Nat.le_refl _) _
  have m2 := m1.below b2 m1.lt
  have kH1 := kH.below b2 kH.lt
  have g5 := m2.k1545
  have g6 := m2.k1546
  have g7 := m2.k1547
  have g8 := m2.k1548
  have g9 := m2.k1549
  have f5 := m2.fz 1545
  have f6 := m2.fz 1546
  have f7 := m2.fz 1547
  have f8 := m2.fz 1548
  have f9 := m2.fz 1549
  obtain ⟨w3, hw3⟩ : ∃ w3, ((((w2.setCell ⟨W, 1545, none⟩ (.int .i64 0)).setCell ⟨W, 1546, none⟩ (.int .u8 0)).setCell ⟨W, 1547, none⟩ (.int .i64 0)).setCell ⟨W, 1548, none⟩ (.int .i64 0)).setCell ⟨W, 1549, none⟩ (.string ⟨#[]⟩) = w3 := ⟨_, rfl⟩
  have m3 : Wm w3 W s { v with ek := 0, eb := 0, en := 0, et := [] } := by rw [← hw3]; exact ((((m2.s1545 0).s1546 0).s1547 0).s1548).s1549 []
  have o3 : Only W w2 w3 := by rw [← hw3]; exact only5 w2 _ _ _ _ _
  have l1 := kH1.lt
  have l2 := kH2.lt
  have hne : H ≠ W := by omega
  have hne2 : H2 ≠ W := by have := b1.size; omega
  have hne3 : H ≠ H2 := by have := kH.lt; omega
  have kA := kH1.only o3 hne
  have kB := kH2.only o3 hne2
  have c10 := m3.k1550
  have f10 := m3.fz 1550
  have c11 := m3.k1545
  have f11 := m3.fz 1545
  have ebase : But W w w3 := ((But.of_below b1).trans (But.of_below b2)).trans (But.of_only o3)
  have AW : Aside (w.alloc (.cells #[.int .i64 0, .int .u8 0, .int .i64 0, .int .i64 0, .string ⟨#[]⟩] 36) = w1 ∧ w1.alloc (.cells #[.int .i64 v.ek, .int .u8 v.eb, .int .i64 v.en, .int .i64 0, .string (st v.et)] 36) = w2 ∧ ((((w2.setCell ⟨W, 1545, none⟩ (.int .i64 0)).setCell ⟨W, 1546, none⟩ (.int .u8 0)).setCell ⟨W, 1547, none⟩ (.int .i64 0)).setCell ⟨W, 1548, none⟩ (.int .i64 0)).setCell ⟨W, 1549, none⟩ (.string ⟨#[]⟩) = w3 ∧ w.heap.size = H ∧ w1.heap.size = H2) := ⟨hw1, hw2, hw3, hH, hH2⟩
  have A : Aside (Wm w3 W s { v with ek := 0, eb := 0, en := 0, et := [] } ∧ Cells w3 H ev0 36 ∧ Cells w3 H2 (ev5 v) 36 ∧ But W w w3 ∧ H ≠ W ∧ H2 ≠ W ∧ H ≠ H2 ∧ w.heap.size ≤ H) := ⟨m3, kA, kB, ebase, hne, hne2, hne3, by omega⟩
  have t1 : (v.ek == 0) = false := by rw [beq_eq_false_iff_ne]; exact hk
  clear h hB hH hw1 kH b1 m1 hH2 hw2 kH2 b2 m2 kH1 hw3 m3 o3 l1 l2 hne hne2 hne3 kA kB ebase hk
  go_enter Tryd.func15, Tryd.ntmps15
  go_upto_region 1 with fail
  rw [AW.out.1, AW.out.2.2.2.1]
  go_upto_region 4 with fail
  rw [AW.out.2.1, AW.out.2.2.2.2]
  clear c5 c6 c7 c8 c9 t1
  go_upto_region 5 with fail
  rw [AW.out.2.2.1]
  clear g5 g6 g7 g8 g9 f5 f6 f7 f8 f9 AW
  obtain ⟨cl, hcl⟩ : ∃ cl, v.cl = cl := ⟨_, rfl⟩
  rw [show ({ v with ek := 0, eb := 0, en := 0, et := [] } : Rv).cl = v.cl from rfl, hcl] at c10
  cases cl
  · have AV : Aside (vnx v = { v with ek := 0, eb := 0, en := 0, et := [] }) := by show vnx v = _; unfold vnx; rw [hcl]; obtain ⟨_, _, _, _, _, _⟩ := v; simp only at hcl; subst hcl; rfl
    clear hcl
    go_upto_region 8 with fail
    obtain ⟨w5, hw5⟩ : ∃ w5, w3 = w5 := ⟨_, rfl⟩
    have m5 : Wm w5 W s (vnx v) := by rw [← hw5, AV.out]; exact A.out.1
    have kA : Cells w5 H ev0 36 := by rw [← hw5]; exact A.out.2.1
    have kB : Cells w5 H2 (ev5 v) 36 := by rw [← hw5]; exact A.out.2.2.1
    have q5 : But W w w5 := by rw [← hw5]; exact A.out.2.2.2.1
    rw [hw5]
    clear hw5 c10 f10 c11 f11
    have d0 : w5.cell? ⟨H, 0, none⟩ = some (.int .i64 0) := by rw [kA.cell]; rfl
    have d1 : w5.cell? ⟨H, 1, none⟩ = some (.int .u8 0) := by rw [kA.cell]; rfl
    have d2 : w5.cell? ⟨H, 2, none⟩ = some (.int .i64 0) := by rw [kA.cell]; rfl
    have d3 : w5.cell? ⟨H, 3, none⟩ = some (.int .i64 0) := by rw [kA.cell]; rfl
    have d4 : w5.cell? ⟨H, 4, none⟩ = some (.string ⟨#[]⟩) := by rw [kA.cell]; rfl
    have z0 := kA.frozen 0
    have z1 := kA.frozen 1
    have z2 := kA.frozen 2
    have z3 := kA.frozen 3
    have z4 := kA.frozen 4
    have y0 : w5.cell? ⟨H2, 0, none⟩ = some (.int .i64 v.ek) := by rw [kB.cell]; rfl
    have y1 : w5.cell? ⟨H2, 1, none⟩ = some (.int .u8 v.eb) := by rw [kB.cell]; rfl
    have y2 : w5.cell? ⟨H2, 2, none⟩ = some (.int .i64 v.en) := by rw [kB.cell]; rfl
    have y3 : w5.cell? ⟨H2, 3, none⟩ = some (.int .i64 0) := by rw [kB.cell]; rfl
    have y4 : w5.cell? ⟨H2, 4, none⟩ = some (.string (st v.et)) := by rw [kB.cell]; rfl
    have A5 : Aside (Cells w5 H ev0 36 ∧ Wm w5 W s (vnx v) ∧ But W w w5) := ⟨kA, m5, q5⟩
    clear kA kB m5 q5
    go_wp2_with fail
    (try simp only [Exit.inBlock, Exit.then])
    have hC2 := set5 A5.out.1 (.int .i64 v.ek) (.int .u8 v.eb) (.int .i64 v.en) (.int .i64 0) (.string (st v.et))
    have o2 := only_five H w5 (.int .i64 v.ek) (.int .u8 v.eb) (.int .i64 v.en) (.int .i64 0) (.string (st v.et))
    refine bodyPost_ret (v := .tuple #[.agg (ev5 v), .bool true]) ?_ rfl ?_
    · rw [results_cell_tmp rfl]
      simp [asAddr, Result.andThen, ret36 hC2 rfl, ev0, ev5]
    · exact ⟨rfl, A5.out.2.1.keep (o2.block W (Ne.symm A.out.2.2.2.2.1)), A5.out.2.2.new o2 A.out.2.2.2.2.2.2.2⟩
  · have AV : Aside (vnx v = ⟨3, 0, 0, [], false, v.ed⟩) := by show vnx v = _; unfold vnx; rw [hcl]; rfl
    clear hcl
    obtain ⟨w4, hw4⟩ : ∃ w4, w3.setCell ⟨W, 1545, none⟩ (.int .i64 3) = w4 := ⟨_, rfl⟩
    have m4 : Wm w4 W s { v with ek := 3, eb := 0, en := 0, et := [] } := by rw [← hw4]; exact A.out.1.s1545 3
    have o4 : Only W w3 w4 := by rw [← hw4]; exact (Only.refl W w3).setCell _ _
    have c12 := m4.k1550
    have f12 := m4.fz 1550
    obtain ⟨w5, hw5⟩ : ∃ w5, w4.setCell ⟨W, 1550, none⟩ (.bool false) = w5 := ⟨_, rfl⟩
    have m5 : Wm w5 W s (vnx v) := by rw [← hw5, AV.out]; exact m4.s1550 false
    have o5 : Only W w4 w5 := by rw [← hw5]; exact (Only.refl W w4).setCell _ _
    have kA : Cells w5 H ev0 36 := (A.out.2.1.only o4 A.out.2.2.2.2.1).only o5 A.out.2.2.2.2.1
    have kB : Cells w5 H2 (ev5 v) 36 := (A.out.2.2.1.only o4 A.out.2.2.2.2.2.1).only o5 A.out.2.2.2.2.2.1
    have q5 : But W w w5 := (A.out.2.2.2.1.trans (But.of_only o4)).trans (But.of_only o5)
    clear m4 o4 o5
    go_upto_region 7 with fail
    (try rw [hw4])
    clear hw4 c10 f10 c11 f11
    go_upto_region 8 with fail
    (try rw [hw5])
    clear hw5 c12 f12
    have d0 : w5.cell? ⟨H, 0, none⟩ = some (.int .i64 0) := by rw [kA.cell]; rfl
    have d1 : w5.cell? ⟨H, 1, none⟩ = some (.int .u8 0) := by rw [kA.cell]; rfl
    have d2 : w5.cell? ⟨H, 2, none⟩ = some (.int .i64 0) := by rw [kA.cell]; rfl
    have d3 : w5.cell? ⟨H, 3, none⟩ = some (.int .i64 0) := by rw [kA.cell]; rfl
    have d4 : w5.cell? ⟨H, 4, none⟩ = some (.string ⟨#[]⟩) := by rw [kA.cell]; rfl
    have z0 := kA.frozen 0
    have z1 := kA.frozen 1
    have z2 := kA.frozen 2
    have z3 := kA.frozen 3
    have z4 := kA.frozen 4
    have y0 : w5.cell? ⟨H2, 0, none⟩ = some (.int .i64 v.ek) := by rw [kB.cell]; rfl
    have y1 : w5.cell? ⟨H2, 1, none⟩ = some (.int .u8 v.eb) := by rw [kB.cell]; rfl
    have y2 : w5.cell? ⟨H2, 2, none⟩ = some (.int .i64 v.en) := by rw [kB.cell]; rfl
    have y3 : w5.cell? ⟨H2, 3, none⟩ = some (.int .i64 0) := by rw [kB.cell]; rfl
    have y4 : w5.cell? ⟨H2, 4, none⟩ = some (.string (st v.et)) := by rw [kB.cell]; rfl
    have A5 : Aside (Cells w5 H ev0 36 ∧ Wm w5 W s (vnx v) ∧ But W w w5) := ⟨kA, m5, q5⟩
    clear kA kB m5 q5
    go_wp2_with fail
    (try simp only [Exit.inBlock, Exit.then])
    have hC2 := set5 A5.out.1 (.int .i64 v.ek) (.int .u8 v.eb) (.int .i64 v.en) (.int .i64 0) (.string (st v.et))
    have o2 := only_five H w5 (.int .i64 v.ek) (.int .u8 v.eb) (.int .i64 v.en) (.int .i64 0) (.string (st v.et))
    refine bodyPost_ret (v := .tuple #[.agg (ev5 v), .bool true]) ?_ rfl ?_
    · rw [results_cell_tmp rfl]
      simp [asAddr, Result.andThen, ret36 hC2 rfl, ev0, ev5]
    · exact ⟨rfl, A5.out.2.1.keep (o2.block W (Ne.symm A.out.2.2.2.2.1)), A5.out.2.2.new o2 A.out.2.2.2.2.2.2.2⟩
end
end Go.Proofs.YtcmmjbkgoafbnaaDoor

/-
  The walker's steps: a header that is all there.
-/
import Derived.Test.YtcmmjbkgoafbnaaGreatDoorWen
import Derived.Test.YtcmmjbkgoafbnaaGreatDoorRight
import Derived.Test.YtcmmjbkgoafbnaaGreatDoorReadB
namespace Go.Proofs.YtcmmjbkgoafbnaaGreatDoor
open Go.RowKit
set_option linter.unusedVariables false
set_option linter.unusedSimpArgs false
/-- What a header makes of the events. -/
def vhd (s : Ts) (v : Rv) : Rv := if noughts s.B then v else if rgt s.B = false then v else match fld ((s.B.drop 124).take 12) with
  | none => v
  | some z => if tmuch (tkd s.B) z then v else if town (tkd s.B) then vent s.B z s v else vbeg (tus (tkd s.B)) z v
/-- What a step of the walker comes to: as a function of the state. -/
theorem thead_own {s : Ts} {z : Nat} (h1 : noughts s.B = false) (h2 : rgt s.B = true) (h3 : fld ((s.B.drop 124).take 12) = some z) (h4 : town (tkd s.B) = true) : (thead s).1 = tent z s := by
  have hm : tmuch (tkd s.B) z = false := by
    unfold town at h4
    simp only [Bool.and_eq_true, bne_iff_ne, ne_eq] at h4
    unfold tmuch
    simp [h4.1.1.1, h4.1.1.2]
  have hu : tus (tkd s.B) = if tisf (tkd s.B) then 1 else 0 := by
    unfold town at h4
    simp only [Bool.and_eq_true, bne_iff_ne, ne_eq] at h4
    unfold tus
    rw [if_neg h4.1.1.1, if_neg h4.1.1.2]
  unfold thead tent
  rw [if_neg (by rw [h1]; decide), if_neg (by rw [h2]; decide), h3]
  simp only
  rw [if_neg (by rw [hm]; decide), hu]
  simp only [tsz, tcm, h4, if_true, Bool.true_or]
theorem thead_not {s : Ts} {z : Nat} (h1 : noughts s.B = false) (h2 : rgt s.B = true) (h3 : fld ((s.B.drop 124).take 12) = some z) (h4 : town (tkd s.B) = false) : (thead s).1 = if tmuch (tkd s.B) z then { s with why := 46 } else (tbeg (tus (tkd s.B)) z { s with ln := if tus (tkd s.B) == 0 then s.ln else 0 }).1 := by
  unfold thead
  rw [if_neg (by rw [h1]; decide), if_neg (by rw [h2]; decide), h3]
  simp only [h4, tsz, tcm, Bool.false_or]
  split
  · rfl
  · rfl
section
variable {W : Nat} {s : Ts} {v : Rv}
set_option maxRecDepth 20000 in
set_option maxHeartbeats 2000000 in
theorem header_c (w : World) (h : Wm w W s v) (h0 : s.why = 0) (he : Er w) (hW : 3 ≤ W) : Calls Tryz.prog 27 #[.pointer (some ⟨W, 0, none⟩)] w fun e w' => Wp W (thead s).1 (vhd s v) w e w' := by
  have hk := h.ok
  have hz := zero_c (some ⟨W, 2, none⟩) s.B 512 w hk.bl h.lb
  have hr := right_c (some ⟨W, 2, none⟩) s.B 512 w hk.bl hk.bo (by decide) (by decide) h.lb
  have hfl : ((s.B.drop 124).take 12).length = 12 := by rw [List.length_take, List.length_drop]; have := hk.bl; omega
  have hf := field_c (some ⟨W, 126, none⟩) ((s.B.drop 124).take 12) 12 388 w hfl ((hk.bo.drop _).take _) (by decide) (by decide) (Or.inr ⟨W, 126, rfl, fun i x hx => h.sub w 124 12 i x hx⟩)
  obtain ⟨x, hx⟩ : ∃ x, s.B[156]? = some x := ⟨_, List.getElem?_eq_getElem (by have := hk.bl; omega)⟩
  have ck := h.kb hx
  have ek : tkd s.B = x := by unfold tkd; rw [List.getD_eq_getElem?_getD, hx]; rfl
  have A : Aside (Wm w W s v ∧ s.why = 0 ∧ Er w ∧ 3 ≤ W ∧ tkd s.B = x) := ⟨h, h0, he, hW, ek⟩
  cases hno : noughts s.B with
  | true =>
    rw [hno] at hz
    have c1 := h.k0
    have f1 := h.fz 0
    have AT : Aside ((thead s).1 = { s with wh := 3 } ∧ vhd s v = v) := ⟨by unfold thead; rw [if_pos hno], by unfold vhd; rw [if_pos hno]⟩
    clear h h0 he hW hk hr hf hfl hx ck ek hno
    go_enter Tryz.func27, Tryz.ntmps27
    go_wp2_with (go_at_call 41; refine hz.mono ?_; rintro e1 w1 ⟨rfl, rfl⟩)
    first | go_end0 | (refine bodyPost_ret (results_none rfl _ _ _) rfl ?_)
    have a0 := A.out
    have kk := a0.1.ok
    rw [AT.out.1, AT.out.2]
    have o : Only W w (w.setCell ⟨W, 0, none⟩ (.int .i64 3)) := (Only.refl W w).setCell 0 _
    exact ⟨rfl, a0.1.s0 3 ⟨kk.bl, kk.bo, kk.kl, kk.ko, kk.ps, by show (3 : Nat) ≤ 3; decide, kk.us, kk.lf, kk.ln, kk.cm⟩, But.of_only o, a0.2.2.1.but (But.of_only o) a0.2.2.2.1⟩
  | false =>
    rw [hno] at hz
    have c1 := h.k1552
    have f1 := h.fz 1552
    cases hrg : rgt s.B with
    | false =>
      rw [hrg] at hr
      have AT : Aside ((thead s).1 = { s with why := 44 } ∧ vhd s v = v) := ⟨by unfold thead; rw [if_neg (by rw [hno]; decide), if_pos hrg], by unfold vhd; rw [if_neg (by rw [hno]; decide), if_pos hrg]⟩
      clear h h0 he hW hk hf hfl hx ck ek hno hrg
      go_enter Tryz.func27, Tryz.ntmps27
      go_wp2_with (first | (go_at_call 41; refine hz.mono ?_; rintro e1 w1 ⟨rfl, rfl⟩) | (go_at_call 42; refine hr.mono ?_; rintro e2 w2 ⟨rfl, rfl⟩))
      first | go_end0 | (refine bodyPost_ret (results_none rfl _ _ _) rfl ?_)
      have a0 := A.out
      rw [AT.out.1, AT.out.2]
      have o : Only W w (w.setCell ⟨W, 1552, none⟩ (.int .i64 44)) := (Only.refl W w).setCell 1552 _
      exact ⟨rfl, a0.1.s1552 44, But.of_only o, a0.2.2.1.but (But.of_only o) a0.2.2.2.1⟩
    | true =>
      rw [hrg] at hr
      cases hfd : fld ((s.B.drop 124).take 12) with
      | none =>
        rw [hfd] at hf
        have hf : Calls Tryz.prog 43 #[.slice (some ⟨W, 126, none⟩) 12 388] w fun e w' => e = .returned (.tuple #[.int .u64 0, .bool false]) ∧ w = w' := hf
        have AT : Aside ((thead s).1 = { s with why := 48 } ∧ vhd s v = v) := ⟨by unfold thead; rw [if_neg (by rw [hno]; decide), if_neg (by rw [hrg]; decide), hfd], by unfold vhd; rw [if_neg (by rw [hno]; decide), if_neg (by rw [hrg]; decide), hfd]⟩
        clear h h0 he hW hk hfl hx ck ek hno hrg hfd
        go_enter Tryz.func27, Tryz.ntmps27
        go_wp2_with (first | (go_at_call 41; refine hz.mono ?_; rintro e1 w1 ⟨rfl, rfl⟩) | (go_at_call 42; refine hr.mono ?_; rintro e2 w2 ⟨rfl, rfl⟩) | (go_at_call 43; refine hf.mono ?_; rintro e3 w3 ⟨rfl, rfl⟩))
        first | go_end0 | (refine bodyPost_ret (results_none rfl _ _ _) rfl ?_)
        have a0 := A.out
        rw [AT.out.1, AT.out.2]
        have o : Only W w (w.setCell ⟨W, 1552, none⟩ (.int .i64 48)) := (Only.refl W w).setCell 1552 _
        exact ⟨rfl, a0.1.s1552 48, But.of_only o, a0.2.2.1.but (But.of_only o) a0.2.2.2.1⟩
      | some z =>
        rw [hfd] at hf
        have hzb := fld_lt ((hk.bo.drop 124).take 12) hfd
        have hf : Calls Tryz.prog 43 #[.slice (some ⟨W, 126, none⟩) 12 388] w fun e w' => e = .returned (.tuple #[.int .u64 (z : Int), .bool true]) ∧ w = w' := hf
        have hvh : vhd s v = if tmuch x z then v else if town x then vent s.B z s v else vbeg (tus x) z v := by unfold vhd; rw [if_neg (by rw [hno]; decide), if_neg (by rw [hrg]; decide), hfd, ek]
        by_cases hot : town x = true
        · have hen := entry_c z w h h0 he hW hzb
          have hm : tmuch x z = false := by
            unfold town at hot
            simp only [Bool.and_eq_true, bne_iff_ne, ne_eq] at hot
            unfold tmuch
            simp [hot.1.1.1, hot.1.1.2]
          have hen2 : Calls Tryz.prog 46 #[.pointer (some ⟨W, 0, none⟩), .int .u64 (z : Int)] w fun e w' => Wp W (thead s).1 (vhd s v) w e w' := by
            rw [thead_own hno hrg hfd (by rw [ek]; exact hot), hvh, if_neg (by rw [hm]; decide), if_pos hot]
            exact hen
          have hq : x ≠ 76 ∧ x ≠ 120 ∧ x ≠ 75 ∧ x ≠ 103 := by
            unfold town at hot
            simp only [Bool.and_eq_true, bne_iff_ne, ne_eq] at hot
            exact ⟨hot.1.1.1, hot.1.1.2, hot.1.2, hot.2⟩
          have t1 : ((x : Int) == 76) = false := by rw [beq_eq_false_iff_ne]; omega
          have t2 : ((x : Int) == 120) = false := by rw [beq_eq_false_iff_ne]; omega
          have t3 : ((x : Int) == 75) = false := by rw [beq_eq_false_iff_ne]; omega
          have t4 : ((x : Int) == 103) = false := by rw [beq_eq_false_iff_ne]; omega
          clear h h0 he hW hk hfl hx ek hno hrg hfd hvh hot hen hm hq hzb A c1 f1
          go_enter Tryz.func27, Tryz.ntmps27
          go_wp2_with (first | (go_at_call 41; refine hz.mono ?_; rintro e1 w1 ⟨rfl, rfl⟩) | (go_at_call 42; refine hr.mono ?_; rintro e2 w2 ⟨rfl, rfl⟩) | (go_at_call 43; refine hf.mono ?_; rintro e3 w3 ⟨rfl, rfl⟩) | (go_at_call 46; refine hen2.mono ?_; rintro e4 w4 k4; have re4 := k4.re; subst re4))
          first | go_end0 | (refine bodyPost_ret (results_none rfl _ _ _) rfl ?_)
          exact k4
        · have hot : town x = false := by simpa using hot
          have hth := thead_not hno hrg hfd (by rw [ek]; exact hot)
          rw [ek] at hth
          have hc : x = 76 ∨ x = 120 ∨ x = 75 ∨ x = 103 := by
            unfold town at hot
            by_cases q1 : x = 76
            · exact Or.inl q1
            · by_cases q2 : x = 120
              · exact Or.inr (Or.inl q2)
              · by_cases q3 : x = 75
                · exact Or.inr (Or.inr (Or.inl q3))
                · by_cases q4 : x = 103
                  · exact Or.inr (Or.inr (Or.inr q4))
                  · simp [q1, q2, q3, q4] at hot
          rw [if_neg (show ¬ town x = true by rw [hot]; decide)] at hvh
          have hg : ∀ us m : Nat, us ≤ 3 → m < 10000 → us ≠ 0 → tus x = us → (tmuch x z = decide (m < z)) → Calls Tryz.prog 44 #[.pointer (some ⟨W, 0, none⟩), .int .i64 (us : Int), .int .u64 (z : Int), .int .u64 (m : Int)] w fun e w' => Wp W (thead s).1 (vhd s v) w e w' := fun us m h1 h2 h3 h4 h5 => by
            have := keep_c us z m w h h0 he hW h1 hzb h2
            rw [hth, hvh, h5, h4]
            by_cases q : m < z
            · simp only [q, decide_true, if_true] at this ⊢
              exact this
            · simp only [q, decide_false, if_false, beq_iff_eq, h3, Bool.false_eq_true] at this ⊢
              exact this
          have hg0 : tus x = 0 → tmuch x z = false → Calls Tryz.prog 45 #[.pointer (some ⟨W, 0, none⟩), .int .i64 0, .int .u64 (z : Int)] w fun e w' => Wp W (thead s).1 (vhd s v) w e w' := fun h4 h5 => by
            have := begin_c 0 z w h h0 he hW (by decide) hzb
            rw [hth, hvh, h5, h4]
            exact this
          rcases hc with rfl | rfl | rfl | rfl
          · have hkp := hg 2 257 (by decide) (by decide) (by decide) rfl (by simp [tmuch])
            clear h h0 he hW hk hfl hx ek hno hrg hfd hvh hot hzb A c1 f1 hth hg hg0
            go_enter Tryz.func27, Tryz.ntmps27
            go_wp2_with (first | (go_at_call 41; refine hz.mono ?_; rintro e1 w1 ⟨rfl, rfl⟩) | (go_at_call 42; refine hr.mono ?_; rintro e2 w2 ⟨rfl, rfl⟩) | (go_at_call 43; refine hf.mono ?_; rintro e3 w3 ⟨rfl, rfl⟩) | (go_at_call 44; refine hkp.mono ?_; rintro e4 w4 k4; have re4 := k4.re; subst re4))
            first | go_end0 | (refine bodyPost_ret (results_none rfl _ _ _) rfl ?_)
            exact k4
          · have hkp := hg 3 1024 (by decide) (by decide) (by decide) rfl (by simp [tmuch])
            clear h h0 he hW hk hfl hx ek hno hrg hfd hvh hot hzb A c1 f1 hth hg hg0
            go_enter Tryz.func27, Tryz.ntmps27
            go_wp2_with (first | (go_at_call 41; refine hz.mono ?_; rintro e1 w1 ⟨rfl, rfl⟩) | (go_at_call 42; refine hr.mono ?_; rintro e2 w2 ⟨rfl, rfl⟩) | (go_at_call 43; refine hf.mono ?_; rintro e3 w3 ⟨rfl, rfl⟩) | (go_at_call 44; refine hkp.mono ?_; rintro e4 w4 k4; have re4 := k4.re; subst re4))
            first | go_end0 | (refine bodyPost_ret (results_none rfl _ _ _) rfl ?_)
            exact k4
          all_goals
            have hkp := hg0 rfl (by simp [tmuch])
            clear h h0 he hW hk hfl hx ek hno hrg hfd hvh hot hzb A c1 f1 hth hg hg0
            go_enter Tryz.func27, Tryz.ntmps27
            go_wp2_with (first | (go_at_call 41; refine hz.mono ?_; rintro e1 w1 ⟨rfl, rfl⟩) | (go_at_call 42; refine hr.mono ?_; rintro e2 w2 ⟨rfl, rfl⟩) | (go_at_call 43; refine hf.mono ?_; rintro e3 w3 ⟨rfl, rfl⟩) | (go_at_call 45; refine hkp.mono ?_; rintro e4 w4 k4; have re4 := k4.re; subst re4))
            first | go_end0 | (refine bodyPost_ret (results_none rfl _ _ _) rfl ?_)
            exact k4
end
end Go.Proofs.YtcmmjbkgoafbnaaGreatDoor

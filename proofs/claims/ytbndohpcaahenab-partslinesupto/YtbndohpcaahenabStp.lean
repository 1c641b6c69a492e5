/-
  What the splitter's steps come to.
-/
import Derived.Test.YtbndohpcaahenabSm
namespace Go.Proofs.Ytbndohpcaahenab
open Go.RowKit
set_option linter.unusedVariables false
theorem delim0_cl (s : Sp) : (delim0 s).cl = s.last := by
  obtain ⟨md, seen, pads, last, hl, kn, ins, cl⟩ := s
  cases ins <;> cases last <;> rfl
section
variable {B td : Nat} {D : List Nat} {s : Sp} {ed : Bool}
set_option maxHeartbeats 1000000 in
theorem within_c (g : Nat) (hl : s.hl.length < 94) (w : World) (h : Sm w B D s td ed) : Calls Try.prog 31 #[.pointer (some ⟨B, 0, none⟩), .int .u16 (g : Int)] w fun e w' => e = .returned (.tuple #[]) ∧ Sm w' B D (within g s) td ed ∧ Only B w w' := by
  by_cases h13 : g = 13
  · subst h13
    have hh : Calls Try.prog 28 #[.pointer (some ⟨B, 0, none⟩), .int .u16 13, .func (.func 34) #[] #[]] w _ := hold_c 13 6 hl w h
    rw [show within 13 s = hold 13 6 s by simp [within]]
    clear h hl
    go_enter Try.func31, Try.ntmps31
    go_wp2_with (go_at_call 28; refine hh.mono ?_; rintro e1 w1 ⟨rfl, h1, o1⟩)
    first | go_end0 | (refine bodyPost_ret (results_none rfl _ _ _) rfl ?_)
    exact ⟨rfl, h1, o1⟩
  · by_cases h10 : g = 10
    · subst h10
      have hh : Calls Try.prog 20 #[.pointer (some ⟨B, 0, none⟩), .int .u16 10] w _ := add_c 10 hl w h
      rw [show within 10 s = line (add 10 s) by simp [within]]
      clear h hl h13
      go_enter Try.func31, Try.ntmps31
      go_upto_region 7 with (go_at_call 20; refine hh.mono ?_; rintro e1 w1 ⟨rfl, h1, o1⟩)
      have h2 := line_c w1 h1
      clear hh h1
      go_wp2_with (go_at_call 17; refine h2.mono ?_; rintro e2 w2 ⟨rfl, h3, o3⟩)
      first | go_end0 | (refine bodyPost_ret (results_none rfl _ _ _) rfl ?_)
      exact ⟨rfl, h3, o1.trans o3⟩
    · by_cases h258 : g = 258
      · subst h258
        rw [show within 258 s = s by simp [within]]
        have hA : Aside (Sm w B D s td ed) := h
        clear h hl h13 h10
        go_enter Try.func31, Try.ntmps31
        go_wp2_with fail
        first | go_end0 | (refine bodyPost_ret (results_none rfl _ _ _) rfl ?_)
        exact ⟨rfl, hA.out, Only.refl B w⟩
      · have hh := add_c g hl w h
        rw [show within g s = know (add g s) by simp [within, h13, h10, h258]]
        have t1 : ((g : Int) == 13) = false := by rw [beq_eq_false_iff_ne]; omega
        have t2 : ((g : Int) == 10) = false := by rw [beq_eq_false_iff_ne]; omega
        have t3 : ((g : Int) == 258) = false := by rw [beq_eq_false_iff_ne]; omega
        clear h hl h13 h10 h258
        go_enter Try.func31, Try.ntmps31
        go_upto_region 2 with (go_at_call 20; refine hh.mono ?_; rintro e1 w1 ⟨rfl, h1, o1⟩)
        have h2 := know_c w1 h1
        clear hh h1
        go_wp2_with (go_at_call 21; refine h2.mono ?_; rintro e2 w2 ⟨rfl, h3, o3⟩)
        first | go_end0 | (refine bodyPost_ret (results_none rfl _ _ _) rfl ?_)
        exact ⟨rfl, h3, o1.trans o3⟩
theorem miss_c (g : Nat) (hl : s.hl.length < 94) (w : World) (h : Sm w B D s td ed) : Calls Try.prog 27 #[.pointer (some ⟨B, 0, none⟩), .int .u16 (g : Int)] w fun e w' => e = .returned (.tuple #[]) ∧ Sm w' B D (miss g s) td ed ∧ Only B w w' := by
  have hk := know_c w h
  have hl2 : Aside ((know s).hl.length < 94) := hl
  clear h hl
  go_enter Try.func27, Try.ntmps27
  go_upto_region 1 with (go_at_call 21; refine hk.mono ?_; rintro e1 w1 ⟨rfl, h1, o1⟩)
  have c1 := h1.k1
  have z1 := h1.fz 1
  have s2 := h1.set1 5
  have o2 : Only B w (w1.setCell ⟨B, 1, none⟩ (fnv 5)) := o1.setCell _ _
  have hw := within_c (s := { know s with md := 5 }) g hl2.out _ s2
  have hw' : Calls Try.prog 31 #[.pointer (some ⟨B, 0, none⟩), .int .u16 (g : Int)] (w1.setCell ⟨B, 1, none⟩ (.func (.func 31) #[] #[])) _ := hw
  have A : Aside (Only B w (w1.setCell ⟨B, 1, none⟩ (.func (.func 31) #[] #[]))) := o2
  clear s2 hw o2 h1 o1 hk hl2
  go_wp2_with (go_at_call 31; refine hw'.mono ?_; rintro e2 w2 ⟨rfl, h3, o3⟩)
  first | go_end0 | (refine bodyPost_ret (results_none rfl _ _ _) rfl ?_)
  exact ⟨rfl, h3, A.out.trans o3⟩
theorem bret_c (g : Nat) (hl : s.hl.length < 94) (w : World) (h : Sm w B D s td ed) : Calls Try.prog 34 #[.pointer (some ⟨B, 0, none⟩), .int .u16 (g : Int)] w fun e w' => e = .returned (.tuple #[]) ∧ Sm w' B D (bRet g s) td ed ∧ Only B w w' := by
  by_cases h10 : g = 10
  · have hh := within_c g hl w h
    rw [show bRet g s = within g s by simp [bRet, h10]]
    have t1 : ((g : Int) == 10) = true := by rw [beq_iff_eq]; omega
    subst h10
    clear h hl t1
    go_enter Try.func34, Try.ntmps34
    go_wp2_with (go_at_call 31; refine hh.mono ?_; rintro e2 w2 ⟨rfl, h3, o3⟩)
    first | go_end0 | (refine bodyPost_ret (results_none rfl _ _ _) rfl ?_)
    exact ⟨rfl, h3, o3⟩
  · have hh := miss_c g hl w h
    rw [show bRet g s = miss g s by simp [bRet, h10]]
    have t1 : ((g : Int) == 10) = false := by rw [beq_eq_false_iff_ne]; omega
    clear h hl h10
    go_enter Try.func34, Try.ntmps34
    go_wp2_with (go_at_call 27; refine hh.mono ?_; rintro e2 w2 ⟨rfl, h3, o3⟩)
    first | go_end0 | (refine bodyPost_ret (results_none rfl _ _ _) rfl ?_) | (rw [Exit.noGoto_ret]; refine bodyPost_ret (results_none rfl _ _ _) rfl ?_)
    exact ⟨rfl, h3, o3⟩
set_option maxHeartbeats 1000000 in
theorem delim_c (w : World) (h : Sm w B D s td ed) : Calls Try.prog 35 #[.pointer (some ⟨B, 0, none⟩)] w fun e w' => e = .returned (.tuple #[]) ∧ Sm w' B D (delim s) td ed ∧ Only B w w' := by
  have c99 := h.k99
  have z99 := h.fz 99
  have s1 := h.setN
  have o1 : Only B w (w.setCell ⟨B, 99, none⟩ (.int .i64 0)) := (Only.refl B w).setCell _ _
  have hadd : Calls Try.prog 20 #[.pointer (some ⟨B, 0, none⟩), .int .u16 257] (w.setCell ⟨B, 99, none⟩ (.int .i64 0)) _ := add_c (s := { s with hl := [] }) 257 (by simp) _ s1
  have AO : Aside (Only B w (w.setCell ⟨B, 99, none⟩ (.int .i64 0))) := o1
  clear h s1 o1
  go_enter Try.func35, Try.ntmps35
  go_upto_region 2 with (go_at_call 20; refine hadd.mono ?_; rintro e1 w1 ⟨rfl, h1, o1⟩)
  have c4 := h1.k4
  have z102 := h1.fz 102
  have z103 := h1.fz 103
  have c102 := h1.k102
  have c103 := h1.k103
  have el : (add 257 { s with hl := [] }).last = s.last := by unfold add; split <;> rfl
  rw [el] at c4
  obtain ⟨l, hl⟩ : ∃ l, s.last = l := ⟨_, rfl⟩
  rw [hl] at c4
  have h2 : Sm ((w1.setCell ⟨B, 102, none⟩ (.bool (!l))).setCell ⟨B, 103, none⟩ (.bool l)) B D (swap (add 257 { s with hl := [] })) td ed := by
    have h2 : ∀ l, (add 257 { s with hl := [] }).last = l → Sm ((w1.setCell ⟨B, 102, none⟩ (.bool (!l))).setCell ⟨B, 103, none⟩ (.bool l)) B D (swap (add 257 { s with hl := [] })) td ed := by
      rintro _ rfl
      exact (h1.set102 _).set103 _
    exact h2 l (el.trans hl)
  have o2 : Only B w ((w1.setCell ⟨B, 102, none⟩ (.bool (!l))).setCell ⟨B, 103, none⟩ (.bool l)) := ((AO.out.trans o1).setCell _ _).setCell _ _
  have A2 : Aside (Sm ((w1.setCell ⟨B, 102, none⟩ (.bool (!l))).setCell ⟨B, 103, none⟩ (.bool l)) B D (swap (add 257 { s with hl := [] })) td ed ∧ Only B w ((w1.setCell ⟨B, 102, none⟩ (.bool (!l))).setCell ⟨B, 103, none⟩ (.bool l)) ∧ s.last = l) := ⟨h2, o2, hl⟩
  clear h1 o1 h2 o2 hl el AO hadd c99 z99
  go_region
  have a2 := A2.out
  have hlen : (swap (add 257 { s with hl := [] })).hl.length < 94 := by
    show (add 257 { s with hl := [] }).hl.length < 94
    unfold add
    split <;> simp
  have k2 := a2.1.drew
  have hadd2 : Calls Try.prog 20 #[.pointer (some ⟨B, 0, none⟩), .int .u16 256] (((w1.setCell ⟨B, 102, none⟩ (.bool (!l))).setCell ⟨B, 103, none⟩ (.bool l)).drew) _ := add_c 256 hlen _ k2
  have o2 := a2.2.1.drew
  obtain ⟨w2, hw2⟩ : ∃ w2, (((w1.setCell ⟨B, 102, none⟩ (.bool (!l))).setCell ⟨B, 103, none⟩ (.bool l)).drew) = w2 := ⟨_, rfl⟩
  rw [hw2] at hadd2 o2 ⊢
  have A3 : Aside (Only B w w2 ∧ s.last = l) := ⟨o2, a2.2.2⟩
  clear a2 A2 hlen k2 o2 hw2 c4 z102 z103 c102 c103
  go_upto_region 4 with (go_at_call 20; refine hadd2.mono ?_; rintro e3 w3 ⟨rfl, h3, o3⟩)
  have hk := know_c w3 h3
  have A4 : Aside (Only B w w3) := A3.out.1.trans o3
  clear hadd2 o3 h3
  go_upto_region 5 with (go_at_call 21; refine hk.mono ?_; rintro e4 w4 ⟨rfl, h4, o4⟩)
  have c103 := h4.k103
  have ecl : (know (add 256 (swap (add 257 { s with hl := [] })))).cl = l := by
    rw [← A3.out.2]
    exact delim0_cl s
  rw [ecl] at c103
  have c1 := h4.k1
  have z1 := h4.fz 1
  have h5 := line_c w4 h4
  have A5 : Aside (Sm w4 B D (delim0 s) td ed ∧ Only B w w4) := ⟨h4, A4.out.trans o4⟩
  clear h4 o4 hk A4 ecl
  cases l with
  | true =>
    clear h5
    go_wp2_with fail
    first | go_end0 | (refine bodyPost_ret (results_none rfl _ _ _) rfl ?_) | (rw [Exit.noGoto_ret]; refine bodyPost_ret (results_none rfl _ _ _) rfl ?_)
    refine ⟨rfl, ?_, A5.out.2.setCell _ _⟩
    rw [show delim s = { delim0 s with md := 7 } by simp [delim, A3.out.2]]
    exact A5.out.1.set1 7
  | false =>
    go_wp2_with (go_at_call 17; refine h5.mono ?_; rintro e6 w6 ⟨rfl, h6, o6⟩)
    first | go_end0 | (refine bodyPost_ret (results_none rfl _ _ _) rfl ?_)
    refine ⟨rfl, ?_, A5.out.2.trans o6⟩
    rw [show delim s = line (delim0 s) by simp [delim, A3.out.2]]
    exact h6
theorem bpad_c (g : Nat) (hl : s.hl.length < 94) (w : World) (h : Sm w B D s td ed) : Calls Try.prog 36 #[.pointer (some ⟨B, 0, none⟩), .int .u16 (g : Int)] w fun e w' => e = .returned (.tuple #[]) ∧ Sm w' B D (bPad g s) td ed ∧ Only B w w' := by
  by_cases h10 : g = 10
  · have hh := delim_c w h
    rw [show bPad g s = delim s by simp [bPad, h10]]
    subst h10
    clear h hl
    go_enter Try.func36, Try.ntmps36
    go_wp2_with (go_at_call 35; refine hh.mono ?_; rintro e2 w2 ⟨rfl, h3, o3⟩)
    first | go_end0 | (refine bodyPost_ret (results_none rfl _ _ _) rfl ?_)
    exact ⟨rfl, h3, o3⟩
  · have hh := miss_c g hl w h
    rw [show bPad g s = miss g s by simp [bPad, h10]]
    have t1 : ((g : Int) == 10) = false := by rw [beq_eq_false_iff_ne]; omega
    clear h hl h10
    go_enter Try.func36, Try.ntmps36
    go_wp2_with (go_at_call 27; refine hh.mono ?_; rintro e2 w2 ⟨rfl, h3, o3⟩)
    first | go_end0 | (refine bodyPost_ret (results_none rfl _ _ _) rfl ?_) | (rw [Exit.noGoto_ret]; refine bodyPost_ret (results_none rfl _ _ _) rfl ?_)
    exact ⟨rfl, h3, o3⟩
set_option maxHeartbeats 1000000 in
theorem pad_c (g : Nat) (hl : s.hl.length < 94) (hp : s.pads ≤ 16) (w : World) (h : Sm w B D s td ed) : Calls Try.prog 33 #[.pointer (some ⟨B, 0, none⟩), .int .u16 (g : Int)] w fun e w' => e = .returned (.tuple #[]) ∧ Sm w' B D (pad g s) td ed ∧ Only B w w' := by
  by_cases hd : g = 10 ∨ g = 258
  · have hh := delim_c w h
    rw [show pad g s = delim s by simp [pad, hd]]
    clear h hl hp
    rcases hd with rfl | rfl
    all_goals
      go_enter Try.func33, Try.ntmps33
      go_wp2_with (go_at_call 35; refine hh.mono ?_; rintro e2 w2 ⟨rfl, h3, o3⟩)
      first | go_end0 | (refine bodyPost_ret (results_none rfl _ _ _) rfl ?_)
      exact ⟨rfl, h3, o3⟩
  · by_cases h13 : g = 13
    · subst h13
      have hh : Calls Try.prog 28 #[.pointer (some ⟨B, 0, none⟩), .int .u16 13, .func (.func 36) #[] #[]] w _ := hold_c 13 4 hl w h
      rw [show pad 13 s = hold 13 4 s by simp [pad]]
      clear h hl hp hd
      go_enter Try.func33, Try.ntmps33
      go_wp2_with (go_at_call 28; refine hh.mono ?_; rintro e1 w1 ⟨rfl, h1, o1⟩)
      first | go_end0 | (refine bodyPost_ret (results_none rfl _ _ _) rfl ?_)
      exact ⟨rfl, h1, o1⟩
    · have c3 := h.k3
      have z3 := h.fz 3
      obtain ⟨p, hpp⟩ : ∃ p, s.pads = p := ⟨_, rfl⟩
      rw [hpp] at c3 hp
      have t1 : ((g : Int) == 10) = false := by rw [beq_eq_false_iff_ne]; omega
      have t2 : ((g : Int) == 258) = false := by rw [beq_eq_false_iff_ne]; omega
      have t3 : ((g : Int) == 13) = false := by rw [beq_eq_false_iff_ne]; omega
      by_cases hb : g = 9 ∨ g = 32
      · by_cases h16 : p < 16
        · have s2 := h.set3 (p + 1)
          have hh := hold_c (s := { s with pads := p + 1 }) g 3 hl _ s2
          have hh' : Calls Try.prog 28 #[.pointer (some ⟨B, 0, none⟩), .int .u16 (g : Int), .func (.func 33) #[] #[]] (w.setCell ⟨B, 3, none⟩ (.int .i64 ((p : Int) + 1))) _ := hh
          rw [show pad g s = hold g 3 { s with pads := p + 1 } by simp [pad, hd, h13, hb, hpp, h16]]
          have t4 : ((p : Int) < 16) = True := eq_true (by omega)
          have t5 : (p < 16) = True := eq_true h16
          have A : Aside (Only B w (w.setCell ⟨B, 3, none⟩ (.int .i64 ((p : Int) + 1)))) := (Only.refl B w).setCell _ _
          have hpI : (p : Int) < 100 := by omega
          clear h hl hp hd h13 s2 hh hpp h16
          rcases hb with rfl | rfl
          all_goals
            clear t1 t2 t3
            go_enter Try.func33, Try.ntmps33
            go_wp2_with (go_at_call 28; refine hh'.mono ?_; rintro e1 w1 ⟨rfl, h1, o1⟩)
            first | go_end0 | (refine bodyPost_ret (results_none rfl _ _ _) rfl ?_)
            exact ⟨rfl, h1, A.out.trans o1⟩
        · have hh := miss_c g hl w h
          rw [show pad g s = miss g s by simp [pad, hd, h13, hpp, h16]]
          have t4 : ((p : Int) < 16) = False := eq_false (by omega)
          have t5 : (p < 16) = False := eq_false h16
          clear h hl hp hd h13 hpp h16
          rcases hb with rfl | rfl
          all_goals
            clear t1 t2 t3
            go_enter Try.func33, Try.ntmps33
            go_wp2_with (go_at_call 27; refine hh.mono ?_; rintro e1 w1 ⟨rfl, h1, o1⟩)
            first | go_end0 | (refine bodyPost_ret (results_none rfl _ _ _) rfl ?_)
            exact ⟨rfl, h1, o1⟩
      · have hh := miss_c g hl w h
        rw [show pad g s = miss g s by simp [pad, hd, h13, hb]]
        have t4 : ((g : Int) == 9) = false := by rw [beq_eq_false_iff_ne]; omega
        have t5 : ((g : Int) == 32) = false := by rw [beq_eq_false_iff_ne]; omega
        clear h hl hp hd h13 hpp hb
        go_enter Try.func33, Try.ntmps33
        go_wp2_with (go_at_call 27; refine hh.mono ?_; rintro e1 w1 ⟨rfl, h1, o1⟩)
        first | go_end0 | (refine bodyPost_ret (results_none rfl _ _ _) rfl ?_)
        exact ⟨rfl, h1, o1⟩
theorem bdash_c (g : Nat) (hl : s.hl.length < 94) (w : World) (h : Sm w B D s td ed) : Calls Try.prog 32 #[.pointer (some ⟨B, 0, none⟩), .int .u16 (g : Int)] w fun e w' => e = .returned (.tuple #[]) ∧ Sm w' B D (bDash g s) td ed ∧ Only B w w' := by
  by_cases h45 : g = 45
  · subst h45
    have c4 := h.k4
    have z4 := h.fz 4
    have s2 := h.set4 true
    have hh : Calls Try.prog 28 #[.pointer (some ⟨B, 0, none⟩), .int .u16 45, .func (.func 33) #[] #[]] (w.setCell ⟨B, 4, none⟩ (.bool true)) _ := hold_c (s := { s with last := true }) 45 3 hl _ s2
    rw [show bDash 45 s = hold 45 3 { s with last := true } by simp [bDash]]
    have A : Aside (Only B w (w.setCell ⟨B, 4, none⟩ (.bool true))) := (Only.refl B w).setCell _ _
    clear h hl s2
    go_enter Try.func32, Try.ntmps32
    go_wp2_with (go_at_call 28; refine hh.mono ?_; rintro e1 w1 ⟨rfl, h1, o1⟩)
    first | go_end0 | (refine bodyPost_ret (results_none rfl _ _ _) rfl ?_)
    exact ⟨rfl, h1, A.out.trans o1⟩
  · have hh := miss_c g hl w h
    rw [show bDash g s = miss g s by simp [bDash, h45]]
    have t1 : ((g : Int) == 45) = false := by rw [beq_eq_false_iff_ne]; omega
    clear h hl h45
    go_enter Try.func32, Try.ntmps32
    go_wp2_with (go_at_call 27; refine hh.mono ?_; rintro e2 w2 ⟨rfl, h3, o3⟩)
    first | go_end0 | (refine bodyPost_ret (results_none rfl _ _ _) rfl ?_) | (rw [Exit.noGoto_ret]; refine bodyPost_ret (results_none rfl _ _ _) rfl ?_)
    exact ⟨rfl, h3, o3⟩
theorem bborder_c (g : Nat) (hl : s.hl.length < 94) (hp : s.pads ≤ 16) (w : World) (h : Sm w B D s td ed) : Calls Try.prog 29 #[.pointer (some ⟨B, 0, none⟩), .int .u16 (g : Int)] w fun e w' => e = .returned (.tuple #[]) ∧ Sm w' B D (bBorder g s) td ed ∧ Only B w w' := by
  by_cases h45 : g = 45
  · subst h45
    have hh : Calls Try.prog 28 #[.pointer (some ⟨B, 0, none⟩), .int .u16 45, .func (.func 32) #[] #[]] w _ := hold_c 45 2 hl w h
    rw [show bBorder 45 s = hold 45 2 s by simp [bBorder]]
    clear h hl hp
    go_enter Try.func29, Try.ntmps29
    go_wp2_with (go_at_call 28; refine hh.mono ?_; rintro e1 w1 ⟨rfl, h1, o1⟩)
    first | go_end0 | (refine bodyPost_ret (results_none rfl _ _ _) rfl ?_) | (rw [Exit.noGoto_ret]; refine bodyPost_ret (results_none rfl _ _ _) rfl ?_)
    exact ⟨rfl, h1, o1⟩
  · have hh := pad_c g hl hp w h
    rw [show bBorder g s = pad g s by simp [bBorder, h45]]
    have t1 : ((g : Int) == 45) = false := by rw [beq_eq_false_iff_ne]; omega
    clear h hl h45 hp
    go_enter Try.func29, Try.ntmps29
    go_wp2_with (go_at_call 33; refine hh.mono ?_; rintro e2 w2 ⟨rfl, h3, o3⟩)
    first | go_end0 | (refine bodyPost_ret (results_none rfl _ _ _) rfl ?_)
    exact ⟨rfl, h3, o3⟩
theorem ignore_c (g : Nat) (w : World) (h : Sm w B D s td ed) : Calls Try.prog 37 #[.pointer (some ⟨B, 0, none⟩), .int .u16 (g : Int)] w fun e w' => e = .returned (.tuple #[]) ∧ Sm w' B D s td ed ∧ Only B w w' := by
  have hA : Aside (Sm w B D s td ed) := h
  clear h
  go_enter Try.func37, Try.ntmps37
  go_wp2_with fail
  first | go_end0 | (refine bodyPost_ret (results_none rfl _ _ _) rfl ?_)
  exact ⟨rfl, hA.out, Only.refl B w⟩
end
end Go.Proofs.Ytbndohpcaahenab

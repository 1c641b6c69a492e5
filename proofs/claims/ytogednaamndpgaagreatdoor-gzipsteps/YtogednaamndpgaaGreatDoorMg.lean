/-
  Own texts of this seat, one behind the other: what each says stands ahead of it.
-/
import Derived.Test.YtogednaamndpgaaGreatDoorMf
/-
  What the document's copied comes to, told by the machine's steps.
-/
namespace Go.Proofs.YtogednaamndpgaaGreatDoor
open Go.RowKit
set_option linter.unusedVariables false
theorem lmore_le (s : Nat) (h : s ≤ 285) : lmore s ≤ 5 := by unfold lmore; split <;> (try split) <;> omega
theorem dmore_le (x : Nat) (h : x ≤ 29) : dmore x ≤ 13 := by unfold dmore; split <;> omega
theorem lbase_le (s : Nat) (h1 : 257 ≤ s) (h2 : s ≤ 285) : lbase s ≤ 1000 := by
  by_cases h : s = 285
  · subst h; decide
  · rw [lbase_lbs h]; exact lbs_le _ (by omega)
theorem numb_lt {bs : List Bool} {p n x : Nat} (h : num? bs p n = some x) : x < 2 ^ n := by
  unfold num? at h; split at h
  · cases h
    have h1 := nm_lt ((bs.drop p).take n)
    refine Nat.lt_of_lt_of_le h1 (Nat.pow_le_pow_right (by decide) ?_)
    rw [List.length_take]; omega
  · cases h
variable {w u : World} {base R L C most : Nat} {a : Option Addr} {s : Rs} {vO vT : Value} {B : List Nat}
theorem Ctx.drew (h : Ctx B base R a L C most w s vO vT) : Ctx B base R a L C most w.drew s vO vT := h.on h.run.drew (Chg.drawn ⟨1, rfl⟩) h.pos h.og
theorem wrap_sub {M d q : Nat} (h : M ≤ maxLen) (hd : d ≤ M) (hq : M - d = q) : ∀ z : Int, z = (M : Int) - (d : Int) → IntKind.i64.wrap z = (q : Int) := by
  intro z hz
  unfold maxLen at h
  rw [IntKind.wrap_i64, hz]
  omega
/-- What a call of the run's leaves: c0 the machine's place ahead, k what comes next where it goes on. -/
def Left (B : List Nat) (base R : Nat) (a : Option Addr) (L C most : Nat) (vO vT : Value) (w w' : World) (c0 : Cfg) (k : St) : Prop :=
  ∃ s' vO' vT' c', Ctx B base R a L C most w' s' vO' vT' ∧ Chg R vO vT vO' vT' w w' ∧ Runs (allb B) most c0 c' ∧ ((Opn s' ∧ c' = ⟨k, s'.pos, s'.out, s'.times⟩) ∨ Fin (allb B) most L c' s')
set_option maxRecDepth 100000 in
set_option maxHeartbeats 8000000 in
theorem copied_c (h : Ctx B base R a L C most w s vO vT) (ho : Opn s) (x : Nat) (hx1 : 257 ≤ x) (hx2 : x ≤ 285) (T : Nat) (lit di : List Nat) (last : Bool) (hT : Tab R vO vT w T di) :
    Calls Tryz.prog 90 #[.pointer (some ⟨R, 0, none⟩), .int .i64 (x : Int), .pointer (some ⟨T, 0, none⟩)] w fun e w' => e = .returned (.tuple #[]) ∧ Left B base R a L C most vO vT w w' ⟨.lext last lit di x, s.pos, s.out, s.times⟩ (.sym last lit di) := by
  have hob : ∀ y ∈ s.out, y < 256 := h.og
  have hlb := lbase_c x hx1 hx2 w
  have hm5 := lmore_le x hx2
  have hb1 := lbase_le x hx1 hx2
  obtain ⟨c0, hc0⟩ : ∃ c0, (⟨.lext last lit di x, s.pos, s.out, s.times⟩ : Cfg) = c0 := ⟨_, rfl⟩
  rw [hc0]
  cases hnum : num? (allb B) s.pos (lmore x) with
  | none =>
    have hno := h.number_none (lmore x) (by omega) hnum
    have hfin : Fin (allb B) most L c0 { s with why := 1, at_ := L } := by
      rw [← hc0]
      refine Fin.cut (by unfold step; simp only [hnum]; rfl) rfl rfl ho.2 (by intro y e; cases e) (by intro e; cases e)
    obtain ⟨lb, hlbe⟩ : ∃ lb, lbase x = lb := ⟨_, rfl⟩
    obtain ⟨lm, hlme⟩ : ∃ lm, lmore x = lm := ⟨_, rfl⟩
    rw [hlbe, hlme] at hlb
    rw [hlme] at hno
    rw [hlbe] at hb1
    have hop : ∀ W, Ctx B base R a L C most W { s with why := 1, at_ := L } vO vT → Calls Tryz.prog 58 #[.pointer (some ⟨R, 0, none⟩)] W fun e w' => e = .returned (.bool false) ∧ W = w' := fun W hW => hW.open_ false hfin.opn
    have AF : Aside (Fin (allb B) most L c0 { s with why := 1, at_ := L }) := hfin
    clear hnum hfin h hT hc0 hlbe hlme hob
    go_enter Tryz.func90, Tryz.ntmps90
    go_wp2_with (first
      | (go_at_call 104; refine hlb.mono ?_; rintro e1 w1 ⟨rfl, rfl⟩)
      | (go_at_call 59; refine hno.mono ?_; rintro e2 w2 ⟨rfl, hc2, hg2⟩)
      | (go_at_call 58; refine (hop _ hc2).mono ?_; rintro e3 w3 ⟨rfl, rfl⟩))
    first | (refine bodyPost_ret (results_none rfl _ _ _) rfl ?_) | go_end0
    exact ⟨rfl, _, _, _, c0, hc2, hg2, Runs.refl _, Or.inr AF.out⟩
  | some v =>
    have hyes := h.number_some (lmore x) v (by omega) hnum
    have hvb := numb_lt hnum
    have hv32 : v < 32 := Nat.lt_of_lt_of_le hvb (show 2 ^ lmore x ≤ 2 ^ 5 from Nat.pow_le_pow_right (by decide) hm5)
    obtain ⟨s1, hs1⟩ : ∃ s1 : Rs, { s with pos := s.pos + lmore x } = s1 := ⟨_, rfl⟩
    rw [hs1] at hyes
    have ho1 : Opn s1 := by rw [← hs1]; exact ho
    have hst1 : Runs (allb B) most c0 ⟨.dist last lit di (lbase x + v), s1.pos, s1.out, s1.times⟩ := by
      rw [← hc0, ← hs1]
      exact Runs.one (by unfold step; simp only [hnum]; rfl)
    have hso : s1.out = s.out := by rw [← hs1]
    obtain ⟨lb, hlbe⟩ : ∃ lb, lbase x = lb := ⟨_, rfl⟩
    obtain ⟨lm, hlme⟩ : ∃ lm, lmore x = lm := ⟨_, rfl⟩
    rw [hlbe, hlme] at hlb
    rw [hlme] at hyes
    rw [hlbe] at hb1 hst1
    obtain ⟨n, hn⟩ : ∃ n, lb + v = n := ⟨_, rfl⟩
    rw [hn] at hst1
    have hnI : (lb : Int) + (v : Int) = (n : Int) := by omega
    have hn2k : n ≤ 1032 := by omega
    obtain ⟨r, hr⟩ : ∃ r, sread di ((allb B).drop s1.pos) = r := ⟨_, rfl⟩
    have hsym : ∀ W, Ctx B base R a L C most W s1 vO vT → Chg R vO vT vO vT w W → Calls Tryz.prog 89 #[.pointer (some ⟨R, 0, none⟩), .pointer (some ⟨T, 0, none⟩)] W fun e w' => e = .returned (.int .i64 (symV r : Int)) ∧ Ctx B base R a L C most w' (symS r L s1) vO vT ∧ Chg R vO vT vO vT W w' := fun W hW hg => hW.symbol T di (hT.on hg) r hr
    have hop1 : ∀ W, Ctx B base R a L C most W s1 vO vT → Calls Tryz.prog 58 #[.pointer (some ⟨R, 0, none⟩)] W fun e w' => e = .returned (.bool true) ∧ W = w' := fun W hW => hW.open_ true ho1.opn
    have A0 : Aside (Runs (allb B) most c0 ⟨.dist last lit di n, s1.pos, s1.out, s1.times⟩ ∧ Opn s1 ∧ sread di ((allb B).drop s1.pos) = r ∧ s1.out = s.out) := ⟨hst1, ho1, hr, hso⟩
    have Hob : Aside (∀ y ∈ s.out, y < 256) := hob
    clear hnum h hT hc0 hlbe hlme hs1 ho1 hst1 hr hvb hm5 hob hso hn
    cases r using SR.el with
    | cut =>
      have hfin : Fin (allb B) most L ⟨.dist last lit di n, s1.pos, s1.out, s1.times⟩ (symS .cut L s1) := Fin.cut (by unfold step; simp only [A0.out.2.2.1]) rfl rfl A0.out.2.1.2 (by intro y e; cases e) (by intro e; cases e)
      have hop2 : ∀ W, Ctx B base R a L C most W (symS .cut L s1) vO vT → Calls Tryz.prog 58 #[.pointer (some ⟨R, 0, none⟩)] W fun e w' => e = .returned (.bool false) ∧ W = w' := fun W hW => hW.open_ false hfin.opn
      have AF : Aside (Fin (allb B) most L ⟨.dist last lit di n, s1.pos, s1.out, s1.times⟩ (symS .cut L s1)) := hfin
      clear hfin
      go_enter Tryz.func90, Tryz.ntmps90
      go_wp2_with (first
        | (go_at_call 104; refine hlb.mono ?_; rintro e1 w1 ⟨rfl, rfl⟩)
        | (go_at_call 59; refine hyes.mono ?_; rintro e2 w2 ⟨rfl, hc2, hg2⟩)
        | (go_at_call 58; (fail_if_success (have hh := hc4)); refine (hop1 _ hc2).mono ?_; rintro e3 w3 ⟨rfl, rfl⟩)
        | (go_at_call 89; refine (hsym _ hc2 hg2).mono ?_; rintro e4 w4 ⟨rfl, hc4, hg4⟩)
        | (go_at_call 58; refine (hop2 _ hc4).mono ?_; rintro e5 w5 ⟨rfl, rfl⟩))
      first | (refine bodyPost_ret (results_none rfl _ _ _) rfl ?_) | go_end0
      exact ⟨rfl, _, _, _, _, hc4, hg2.trans hg4, A0.out.1, Or.inr AF.out⟩
    | bad j =>
      have hfin : Fin (allb B) most L ⟨.bad 13, s1.pos + j, s1.out, s1.times⟩ (symS (.bad j) L s1) := Fin.bad (s := { s1 with pos := s1.pos + j }) 13 rfl rfl rfl A0.out.2.1.2 (by decide) rfl
      have hrun : Runs (allb B) most ⟨.dist last lit di n, s1.pos, s1.out, s1.times⟩ ⟨.bad 13, s1.pos + j, s1.out, s1.times⟩ := Runs.one (by unfold step; simp only [A0.out.2.2.1])
      have hop2 : ∀ W, Ctx B base R a L C most W (symS (.bad j) L s1) vO vT → Calls Tryz.prog 58 #[.pointer (some ⟨R, 0, none⟩)] W fun e w' => e = .returned (.bool false) ∧ W = w' := fun W hW => hW.open_ false hfin.opn
      have AF : Aside (Fin (allb B) most L ⟨.bad 13, s1.pos + j, s1.out, s1.times⟩ (symS (.bad j) L s1) ∧ Runs (allb B) most ⟨.dist last lit di n, s1.pos, s1.out, s1.times⟩ ⟨.bad 13, s1.pos + j, s1.out, s1.times⟩) := ⟨hfin, hrun⟩
      clear hfin hrun
      go_enter Tryz.func90, Tryz.ntmps90
      go_wp2_with (first
        | (go_at_call 104; refine hlb.mono ?_; rintro e1 w1 ⟨rfl, rfl⟩)
        | (go_at_call 59; (fail_if_success (have hh := hg2)); refine hyes.mono ?_; rintro e2 w2 ⟨rfl, hc2, hg2⟩)
        | (go_at_call 58; (fail_if_success (have hh := hc4)); refine (hop1 _ hc2).mono ?_; rintro e3 w3 ⟨rfl, rfl⟩)
        | (go_at_call 89; refine (hsym _ hc2 hg2).mono ?_; rintro e4 w4 ⟨rfl, hc4, hg4⟩)
        | (go_at_call 58; refine (hop2 _ hc4).mono ?_; rintro e5 w5 ⟨rfl, rfl⟩))
      first | (refine bodyPost_ret (results_none rfl _ _ _) rfl ?_) | go_end0
      exact ⟨rfl, _, _, _, _, hc4, hg2.trans hg4, A0.out.1.trans AF.out.2, Or.inr AF.out.1⟩
    | got y k =>
      obtain ⟨s2, hs2⟩ : ∃ s2 : Rs, symS (.got y k) L s1 = s2 := ⟨_, rfl⟩
      have ho2 : Opn s2 := by rw [← hs2]; exact A0.out.2.1
      have hso2 : s2.out = s.out := by rw [← hs2]; exact A0.out.2.2.2
      rw [hs2] at hsym
      have hop2 : ∀ W, Ctx B base R a L C most W s2 vO vT → Calls Tryz.prog 58 #[.pointer (some ⟨R, 0, none⟩)] W fun e w' => e = .returned (.bool true) ∧ W = w' := fun W hW => hW.open_ true ho2.opn
      have hrun : Runs (allb B) most ⟨.dist last lit di n, s1.pos, s1.out, s1.times⟩ ⟨if 29 < y then .bad 13 else .dext last lit di n y, s2.pos, s2.out, s2.times⟩ := by
        rw [← hs2]
        exact Runs.one (by unfold step; simp only [A0.out.2.2.1]; rfl)
      have hsym' : ∀ W, Ctx B base R a L C most W s1 vO vT → Chg R vO vT vO vT w W → Calls Tryz.prog 89 #[.pointer (some ⟨R, 0, none⟩), .pointer (some ⟨T, 0, none⟩)] W fun e w' => e = .returned (.int .i64 (y : Int)) ∧ Ctx B base R a L C most w' s2 vO vT ∧ Chg R vO vT vO vT W w' := hsym
      clear hsym
      have hsym := hsym'
      clear hsym'
      have A2 : Aside (Runs (allb B) most c0 ⟨if 29 < y then .bad 13 else .dext last lit di n y, s2.pos, s2.out, s2.times⟩ ∧ Opn s2 ∧ s2.out = s.out) := ⟨A0.out.1.trans hrun, ho2, hso2⟩
      clear hs2 ho2 hso2 hrun A0
      by_cases hy29 : 29 < y
      · have t29 : (29 : Int) < (y : Int) := by omega
        have hst : ∀ W, Ctx B base R a L C most W s2 vO vT → Calls Tryz.prog 63 #[.pointer (some ⟨R, 0, none⟩), .int .i64 13] W fun e w' => e = .returned (.tuple #[]) ∧ Ctx B base R a L C most w' { s2 with why := 13, at_ := (s2.pos - 1) / 8 } vO vT ∧ Chg R vO vT vO vT W w' := fun W hW => hW.stop 13
        have hfin : Fin (allb B) most L ⟨.bad 13, s2.pos, s2.out, s2.times⟩ { s2 with why := 13, at_ := (s2.pos - 1) / 8 } := Fin.bad 13 rfl rfl rfl A2.out.2.1.2 (by decide) rfl
        have AF : Aside (Fin (allb B) most L ⟨.bad 13, s2.pos, s2.out, s2.times⟩ { s2 with why := 13, at_ := (s2.pos - 1) / 8 } ∧ Runs (allb B) most c0 ⟨.bad 13, s2.pos, s2.out, s2.times⟩) := ⟨hfin, by have := A2.out.1; rw [if_pos hy29] at this; exact this⟩
        clear hfin hy29
        go_enter Tryz.func90, Tryz.ntmps90
        go_wp2_with (first
        | (go_at_call 104; refine hlb.mono ?_; rintro e1 w1 ⟨rfl, rfl⟩)
        | (go_at_call 59; (fail_if_success (have hh := hg2)); refine hyes.mono ?_; rintro e2 w2 ⟨rfl, hc2, hg2⟩)
        | (go_at_call 58; (fail_if_success (have hh := hc4)); refine (hop1 _ hc2).mono ?_; rintro e3 w3 ⟨rfl, rfl⟩)
        | (go_at_call 89; refine (hsym _ hc2 hg2).mono ?_; rintro e4 w4 ⟨rfl, hc4, hg4⟩)
        | (go_at_call 58; refine (hop2 _ hc4).mono ?_; rintro e5 w5 ⟨rfl, rfl⟩)
        | (go_at_call 63; refine (hst _ hc4).mono ?_; rintro e6 w6 ⟨rfl, hc6, hg6⟩))
        first | (refine bodyPost_ret (results_none rfl _ _ _) rfl ?_) | go_end0
        exact ⟨rfl, _, _, _, _, hc6, (hg2.trans hg4).trans hg6, AF.out.2, Or.inr AF.out.1⟩
      · have t29 : ¬ (29 : Int) < (y : Int) := by omega
        have hdb : ∀ W, Calls Tryz.prog 105 #[.int .i64 (y : Int)] W fun e w' => e = .returned (.tuple #[.int .i64 (dbase y : Nat), .int .i64 (dmore y : Nat)]) ∧ W = w' := fun W => dbase_c y (by omega) W
        have hdm := dmore_le y (by omega)
        have hdbl : dbase y ≤ 40000 := dbs_le y (by omega)
        have A3 : Aside (Runs (allb B) most c0 ⟨.dext last lit di n y, s2.pos, s2.out, s2.times⟩ ∧ Opn s2 ∧ s2.out = s.out) := ⟨by have := A2.out.1; rw [if_neg hy29] at this; exact this, A2.out.2.1, A2.out.2.2⟩
        clear A2
        cases hnum2 : num? (allb B) s2.pos (dmore y) with
        | none =>
          have hno : ∀ W, Ctx B base R a L C most W s2 vO vT → Calls Tryz.prog 59 #[.pointer (some ⟨R, 0, none⟩), .int .i64 (dmore y : Int)] W fun e w' => e = .returned (.int .i64 0) ∧ Ctx B base R a L C most w' { s2 with why := 1, at_ := L } vO vT ∧ Chg R vO vT vO vT W w' := fun W hW => hW.number_none (dmore y) (by omega) hnum2
          have hfin : Fin (allb B) most L ⟨.dext last lit di n y, s2.pos, s2.out, s2.times⟩ { s2 with why := 1, at_ := L } := Fin.cut (by unfold step; simp only [hnum2]; rfl) rfl rfl A3.out.2.1.2 (by intro y e; cases e) (by intro e; cases e)
          have hop3 : ∀ W, Ctx B base R a L C most W { s2 with why := 1, at_ := L } vO vT → Calls Tryz.prog 58 #[.pointer (some ⟨R, 0, none⟩)] W fun e w' => e = .returned (.bool false) ∧ W = w' := fun W hW => hW.open_ false hfin.opn
          have AF : Aside (Fin (allb B) most L ⟨.dext last lit di n y, s2.pos, s2.out, s2.times⟩ { s2 with why := 1, at_ := L }) := hfin
          obtain ⟨db, hdbe⟩ : ∃ db, dbase y = db := ⟨_, rfl⟩
          obtain ⟨dm, hdme⟩ : ∃ dm, dmore y = dm := ⟨_, rfl⟩
          rw [hdbe, hdme] at hdb
          rw [hdme] at hno
          rw [hdbe] at hdbl
          clear hfin hnum2 hdbe hdme hdm hy29
          go_enter Tryz.func90, Tryz.ntmps90
          go_wp2_with (first
        | (go_at_call 104; refine hlb.mono ?_; rintro e1 w1 ⟨rfl, rfl⟩)
        | (go_at_call 59; (fail_if_success (have hh := hg2)); refine hyes.mono ?_; rintro e2 w2 ⟨rfl, hc2, hg2⟩)
        | (go_at_call 58; (fail_if_success (have hh := hc4)); refine (hop1 _ hc2).mono ?_; rintro e3 w3 ⟨rfl, rfl⟩)
        | (go_at_call 89; refine (hsym _ hc2 hg2).mono ?_; rintro e4 w4 ⟨rfl, hc4, hg4⟩)
        | (go_at_call 58; (fail_if_success (have hh := hc7)); refine (hop2 _ hc4).mono ?_; rintro e5 w5 ⟨rfl, rfl⟩)
        | (go_at_call 105; refine (hdb _).mono ?_; rintro e6 w6 ⟨rfl, rfl⟩)
        | (go_at_call 59; refine (hno _ hc4).mono ?_; rintro e7 w7 ⟨rfl, hc7, hg7⟩)
        | (go_at_call 58; refine (hop3 _ hc7).mono ?_; rintro e8 w8 ⟨rfl, rfl⟩))
          first | (refine bodyPost_ret (results_none rfl _ _ _) rfl ?_) | go_end0
          exact ⟨rfl, _, _, _, _, hc7, (hg2.trans hg4).trans hg7, A3.out.1, Or.inr AF.out⟩
        | some v2 =>
          have hyes2 : ∀ W, Ctx B base R a L C most W s2 vO vT → Calls Tryz.prog 59 #[.pointer (some ⟨R, 0, none⟩), .int .i64 (dmore y : Int)] W fun e w' => e = .returned (.int .i64 (v2 : Int)) ∧ Ctx B base R a L C most w' { s2 with pos := s2.pos + dmore y } vO vT ∧ Chg R vO vT vO vT W w' := fun W hW => hW.number_some (dmore y) v2 (by omega) hnum2
          have hv2b := numb_lt hnum2
          have hv2c : v2 < 8192 := Nat.lt_of_lt_of_le hv2b (show 2 ^ dmore y ≤ 2 ^ 13 from Nat.pow_le_pow_right (by decide) hdm)
          obtain ⟨s3, hs3⟩ : ∃ s3 : Rs, { s2 with pos := s2.pos + dmore y } = s3 := ⟨_, rfl⟩
          obtain ⟨d, hd⟩ : ∃ d, dbase y + v2 = d := ⟨_, rfl⟩
          have ho3 : Opn s3 := by rw [← hs3]; exact A3.out.2.1
          have hso3 : s3.out = s.out := by rw [← hs3]; exact A3.out.2.2
          have hrun3 : Runs (allb B) most c0 ⟨if s3.out.length < d then .bad 14 else .copy last lit di n d, s3.pos, s3.out, s3.times⟩ := by
            refine A3.out.1.trans (Runs.one ?_)
            rw [← hs3, ← hd]
            unfold step; simp only [hnum2]; rfl
          have hd1 : 1 ≤ d := by
            have : 1 ≤ dbase y := by
              have : ∀ i, i ≤ 30 → 1 ≤ dbs i := by decide
              exact this y (by omega)
            omega
          rw [hs3] at hyes2
          have hop3 : ∀ W, Ctx B base R a L C most W s3 vO vT → Calls Tryz.prog 58 #[.pointer (some ⟨R, 0, none⟩)] W fun e w' => e = .returned (.bool true) ∧ W = w' := fun W hW => hW.open_ true ho3.opn
          obtain ⟨db, hdbe⟩ : ∃ db, dbase y = db := ⟨_, rfl⟩
          obtain ⟨dm, hdme⟩ : ∃ dm, dmore y = dm := ⟨_, rfl⟩
          rw [hdbe, hdme] at hdb
          rw [hdme] at hyes2
          rw [hdbe] at hdbl hd
          have hdI : (db : Int) + (v2 : Int) = (d : Int) := by omega
          have hdb2 : d ≤ 48192 := by omega
          obtain ⟨N, hN⟩ : ∃ N, s.out.length = N := ⟨_, rfl⟩
          rw [hso3, hN] at hrun3
          have A4 : Aside (Runs (allb B) most c0 ⟨if N < d then .bad 14 else .copy last lit di n d, s3.pos, s3.out, s3.times⟩ ∧ Opn s3 ∧ s3.out = s.out ∧ s.out.length = N ∧ 1 ≤ d) := ⟨by rw [hso3]; exact hrun3, ho3, hso3, hN, hd1⟩
          clear hnum2 hdbe hdme hdm hy29 hs3 hd ho3 hso3 hrun3 hv2b hN hd1 A3
          have sh : ∀ W, Ctx B base R a L C most W s3 vO vT → ∃ oa oc, vO = .slice oa N oc := fun W hW => by
            obtain ⟨oa, oc, e⟩ := own_shape hW.run.oo
            rw [A4.out.2.2.1, A4.out.2.2.2.1] at e
            exact ⟨oa, oc, e⟩
          by_cases hdN : N < d
          · have tN : (N : Int) < (d : Int) := by omega
            have hst : ∀ W, Ctx B base R a L C most W s3 vO vT → Calls Tryz.prog 63 #[.pointer (some ⟨R, 0, none⟩), .int .i64 14] W fun e w' => e = .returned (.tuple #[]) ∧ Ctx B base R a L C most w' { s3 with why := 14, at_ := (s3.pos - 1) / 8 } vO vT ∧ Chg R vO vT vO vT W w' := fun W hW => hW.stop 14
            have hfin : Fin (allb B) most L ⟨.bad 14, s3.pos, s3.out, s3.times⟩ { s3 with why := 14, at_ := (s3.pos - 1) / 8 } := Fin.bad 14 rfl rfl rfl A4.out.2.1.2 (by decide) rfl
            have AF : Aside (Fin (allb B) most L ⟨.bad 14, s3.pos, s3.out, s3.times⟩ { s3 with why := 14, at_ := (s3.pos - 1) / 8 } ∧ Runs (allb B) most c0 ⟨.bad 14, s3.pos, s3.out, s3.times⟩) := ⟨hfin, by have := A4.out.1; rw [if_pos hdN] at this; exact this⟩
            clear hfin hdN
            go_enter Tryz.func90, Tryz.ntmps90
            go_upto_region 10 with (first
        | (go_at_call 104; refine hlb.mono ?_; rintro e1 w1 ⟨rfl, rfl⟩)
        | (go_at_call 59; (fail_if_success (have hh := hg2)); refine hyes.mono ?_; rintro e2 w2 ⟨rfl, hc2, hg2⟩)
        | (go_at_call 58; (fail_if_success (have hh := hc4)); refine (hop1 _ hc2).mono ?_; rintro e3 w3 ⟨rfl, rfl⟩)
        | (go_at_call 89; refine (hsym _ hc2 hg2).mono ?_; rintro e4 w4 ⟨rfl, hc4, hg4⟩)
        | (go_at_call 58; (fail_if_success (have hh := hc7)); refine (hop2 _ hc4).mono ?_; rintro e5 w5 ⟨rfl, rfl⟩)
        | (go_at_call 105; refine (hdb _).mono ?_; rintro e6 w6 ⟨rfl, rfl⟩)
        | (go_at_call 59; refine (hyes2 _ hc4).mono ?_; rintro e7 w7 ⟨rfl, hc7, hg7⟩)
        | (go_at_call 58; refine (hop3 _ hc7).mono ?_; rintro e8 w8 ⟨rfl, rfl⟩))
            obtain ⟨oa, oc, hvO⟩ := sh _ hc7
            have c2 := hc7.run.c2
            rw [hvO] at c2
            have A7 : Aside (Chg R vO vT vO vT w w7) := (hg2.trans hg4).trans hg7
            have hst7 := hst _ hc7
            clear hg2 hg4 hg7 hc2 hc4 hvO
            go_wp2_with (go_at_call 63; refine hst7.mono ?_; rintro e9 w9 ⟨rfl, hc9, hg9⟩)
            first | (refine bodyPost_ret (results_none rfl _ _ _) rfl ?_) | go_end0
            exact ⟨rfl, _, _, _, _, hc9, A7.out.trans hg9, AF.out.2, Or.inr AF.out.1⟩
          · have tN : ¬ (N : Int) < (d : Int) := by omega
            have A5 : Aside (Runs (allb B) most c0 ⟨.copy last lit di n d, s3.pos, s3.out, s3.times⟩ ∧ Opn s3 ∧ s3.out = s.out ∧ s.out.length = N ∧ 1 ≤ d ∧ d ≤ N) := ⟨by have := A4.out.1; rw [if_neg hdN] at this; exact this, A4.out.2.1, A4.out.2.2.1, A4.out.2.2.2.1, A4.out.2.2.2.2, by omega⟩
            clear A4 hdN
            go_enter Tryz.func90, Tryz.ntmps90
            go_upto_region 10 with (first
        | (go_at_call 104; refine hlb.mono ?_; rintro e1 w1 ⟨rfl, rfl⟩)
        | (go_at_call 59; (fail_if_success (have hh := hg2)); refine hyes.mono ?_; rintro e2 w2 ⟨rfl, hc2, hg2⟩)
        | (go_at_call 58; (fail_if_success (have hh := hc4)); refine (hop1 _ hc2).mono ?_; rintro e3 w3 ⟨rfl, rfl⟩)
        | (go_at_call 89; refine (hsym _ hc2 hg2).mono ?_; rintro e4 w4 ⟨rfl, hc4, hg4⟩)
        | (go_at_call 58; (fail_if_success (have hh := hc7)); refine (hop2 _ hc4).mono ?_; rintro e5 w5 ⟨rfl, rfl⟩)
        | (go_at_call 105; refine (hdb _).mono ?_; rintro e6 w6 ⟨rfl, rfl⟩)
        | (go_at_call 59; refine (hyes2 _ hc4).mono ?_; rintro e7 w7 ⟨rfl, hc7, hg7⟩)
        | (go_at_call 58; refine (hop3 _ hc7).mono ?_; rintro e8 w8 ⟨rfl, rfl⟩))
            obtain ⟨oa, oc, hvO⟩ := sh _ hc7
            have c2 := hc7.run.c2
            rw [hvO] at c2
            have A7 : Aside (Chg R vO vT vO vT w w7 ∧ Ctx B base R a L C most w7 s3 vO vT) := ⟨(hg2.trans hg4).trans hg7, hc7⟩
            clear hg2 hg4 hg7 hc2 hc4 hvO sh hc7 hsym hyes hyes2 hop1 hop2 hop3 hdb
            go_wp2_with fail
            clear c2 tN t29
            (try generalize decide ((29 : Int) < (y : Int)) = b29)
            (try generalize decide ((N : Int) < (d : Int)) = bNd)
            (try generalize decide (N < d) = bNd2)
            go_loopg [11] (n + 1) (fun g si wr => ∃ i : Nat, si = .int .i64 (i : Int) ∧ Aside (i + g = n + 1 ∧ i ≤ n ∧ ∃ s4 vO4 vT4 c4, Ctx B base R a L C most wr s4 vO4 vT4 ∧ Chg R vO vT vO4 vT4 w wr ∧ Runs (allb B) most c0 c4 ∧ ((Opn s4 ∧ c4 = ⟨.copy last lit di (n - i) d, s4.pos, s4.out, s4.times⟩ ∧ d ≤ s4.out.length ∧ (∀ y ∈ s4.out, y < 256)) ∨ Fin (allb B) most L c4 s4)))
            case atStart =>
              have a5 := A5.out
              exact ⟨0, rfl, by omega, by omega, s3, vO, vT, _, A7.out.2, A7.out.1, a5.1, Or.inl ⟨a5.2.1, rfl, by rw [a5.2.2.1]; omega, by rw [a5.2.2.1]; exact Hob.out⟩⟩
            case round =>
              obtain ⟨i, rfl, hI⟩ := hrel
              obtain ⟨s4, vO4, vT4, c4, hc4, hg4, hr4, hcase⟩ := hI.out.2.2
              have hI1 := hI.out.1
              have hI2 := hI.out.2.1
              rcases hcase with ⟨ho4, hc4e, hdl, hob4⟩ | hfin
              · by_cases hin : i < n
                · have ti : (i : Int) < (n : Int) := by omega
                  obtain ⟨M, hM⟩ : ∃ M, s4.out.length = M := ⟨_, rfl⟩
                  obtain ⟨q, hq⟩ : ∃ q, M - d = q := ⟨_, rfl⟩
                  have d1 := A5.out.2.2.2.2.1
                  obtain ⟨b, hb⟩ : ∃ b, s4.out[q]? = some b := ⟨_, List.getElem?_eq_getElem (by omega)⟩
                  have hb256 := hob4 b (List.mem_of_getElem? hb)
                  have hqM : (q : Int) < (M : Int) := by omega
                  obtain ⟨g, oc4, cur, hvO4⟩ : ∃ g oc4 cur, vO4 = .slice (some ⟨g, 0, none⟩) M oc4 ∧ wr.heap[g]? = some (.cells cur 5 (0, 0)) ∧ M ≤ oc4 := by
                    rcases hc4.run.oo.2 with ⟨_, h0⟩ | ⟨g, c, cur, hv, _, hh, hcc, _⟩
                    · omega
                    · exact ⟨g, c, cur, by rw [hv, hM], hh, by omega⟩
                  have hcell : wr.cell? ⟨g, q, none⟩ = some (.int .u8 (b : Int)) := by
                    have := hc4.run.oo
                    rw [hvO4.1, hM] at this
                    rw [this.cellAt q (by omega)]
                    simp [vn, hb]
                  have c2 := hc4.run.c2
                  have hop := hc4.open_ true ho4.opn
                  have hgv := hc4.drew.give ho4 b hb256 (.copy last lit di (n - (i + 1)) d)
                  have hMx : M ≤ maxLen := by
                    rcases hc4.run.oo.2 with ⟨_, h0⟩ | ⟨_, c, _, _, _, _, h3, h4, _⟩
                    · rw [← hM, h0]; exact Nat.zero_le _
                    · rw [← hM]; exact Nat.le_trans h3 h4
                  have hwr : ∀ z : Int, z = (M : Int) - (d : Int) → IntKind.i64.wrap z = (q : Int) := wrap_sub hMx (by omega) hq
                  have hstep : step (allb B) most c4 = some (YtogednaamndpgaaGreatDoor.give most (.copy last lit di (n - (i + 1)) d) b s4.pos ⟨.copy last lit di (n - (i + 1)) d, s4.pos, s4.out, s4.times⟩) := by
                    rw [hc4e, show n - i = (n - (i + 1)) + 1 by omega]
                    unfold step
                    simp only [hM, hq]
                    rw [List.getD_eq_getElem?_getD, hb]
                    rfl
                  have AR : Aside (i + gk = n + 1 ∧ i < n ∧ Runs (allb B) most c0 (YtogednaamndpgaaGreatDoor.give most (.copy last lit di (n - (i + 1)) d) b s4.pos ⟨.copy last lit di (n - (i + 1)) d, s4.pos, s4.out, s4.times⟩) ∧ Chg R vO vT vO4 vT4 w wr ∧ (∀ y ∈ s4.out, y < 256) ∧ b < 256 ∧ s4.out.length = M ∧ d ≤ M) := ⟨hI1, hin, hr4.trans (Runs.one hstep), hg4, hob4, hb256, hM, by omega⟩
                  obtain ⟨hvO4, _⟩ := hvO4
                  subst hvO4
                  clear hI hI1 hI2 hc4 hg4 hr4 ho4 hc4e hdl hob4 hin hM hq d1 hb hb256 hstep
                  go_upto_region 15 with (go_at_call 58; refine hop.mono ?_; rintro e9 w9 ⟨rfl, rfl⟩)
                  go_region_with (go_at_call 88; refine hgv.mono ?_; rintro e10 w10 ⟨rfl, s5, vO5, vT5, c5, hc5, hg5, hce5, hcase5⟩)
                  all_goals
                    have A10 : Aside (Ctx B base R a L C most w10 s5 vO5 vT5 ∧ Chg R (.slice (some ⟨g, 0, none⟩) M oc4) vT4 vO5 vT5 wr w10 ∧ Runs (allb B) most c0 c5 ∧ ((Opn s5 ∧ c5 = ⟨.copy last lit di (n - (i + 1)) d, s5.pos, s5.out, s5.times⟩ ∧ d ≤ s5.out.length ∧ (∀ y ∈ s5.out, y < 256)) ∨ Fin (allb B) most L c5 s5)) := by
                      have ar := AR.out
                      refine ⟨hc5, (Chg.drawn ⟨1, rfl⟩).trans hg5, by rw [hce5]; exact ar.2.2.1, ?_⟩
                      rcases hcase5 with ⟨h1, h2, h3, h4⟩ | h1
                      · refine Or.inl ⟨h1, h2, by rw [h3, List.length_append]; omega, fun z hz => ?_⟩
                        rw [h3] at hz
                        rcases List.mem_append.1 hz with h5 | h5
                        · exact ar.2.2.2.2.1 z h5
                        · rw [List.mem_singleton.1 h5]; exact ar.2.2.2.2.2.1
                      · exact Or.inr h1
                    clear hc5 hg5 hce5 hcase5 hgv hop hcell c2 hwr
                    go_wp2_with fail
                    go_roundg (n - i)
                    case measure => have := AR.out; omega
                    case rel =>
                      have ar := AR.out
                      have a10 := A10.out
                      exact ⟨i + 1, by go_num, by omega, by omega, s5, vO5, vT5, c5, a10.1, ar.2.2.2.1.trans a10.2.1, a10.2.2.1, a10.2.2.2⟩
                · have hin2 : i = n := by omega
                  subst hin2
                  have ti : ¬ (i : Int) < (i : Int) := by omega
                  have AR : Aside (Left B base R a L C most vO vT w wr c0 (.sym last lit di)) := ⟨s4, vO4, vT4, _, hc4, hg4, hr4.trans (Runs.one (by rw [hc4e, Nat.sub_self]; rfl)), Or.inl ⟨ho4, rfl⟩⟩
                  clear hI hI1 hI2 hc4 hg4 hr4 ho4 hc4e hdl hob4 hin
                  go_wp2_with fail
                  first | (refine bodyPost_ret (results_none rfl _ _ _) rfl ?_) | go_end0
                  exact ⟨rfl, AR.out⟩
              · have hop := hc4.open_ false hfin.opn
                have AR : Aside (Left B base R a L C most vO vT w wr c0 (.sym last lit di)) := ⟨s4, vO4, vT4, _, hc4, hg4, hr4, Or.inr hfin⟩
                by_cases hin : i < n
                · have ti : (i : Int) < (n : Int) := by omega
                  clear hI hI1 hI2 hc4 hg4 hr4 hfin hin
                  go_wp2_with (go_at_call 58; refine hop.mono ?_; rintro e9 w9 ⟨rfl, rfl⟩)
                  first | (refine bodyPost_ret (results_none rfl _ _ _) rfl ?_) | go_end0
                  exact ⟨rfl, AR.out⟩
                · have ti : ¬ (i : Int) < (n : Int) := by omega
                  clear hI hI1 hI2 hc4 hg4 hr4 hfin hin
                  go_wp2_with fail
                  first | (refine bodyPost_ret (results_none rfl _ _ _) rfl ?_) | go_end0
                  exact ⟨rfl, AR.out⟩
end Go.Proofs.YtogednaamndpgaaGreatDoor

/-
  What the document's symbols comes to: a block's symbols, told by the machine's steps.
-/
namespace Go.Proofs.YtogednaamndpgaaGreatDoor
open Go.RowKit
set_option linter.unusedVariables false
theorem give_pos {most : Nat} {k : St} {b p : Nat} {c : Cfg} : (give most k b p c).pos = p := by unfold give; split <;> rfl
theorem step_pos {bs : List Bool} {most : Nat} {c d : Cfg} (h : step bs most c = some d) : c.pos ≤ d.pos := by
  obtain ⟨st, pos, out, times⟩ := c
  unfold step at h
  cases st using St.el with
  | head last =>
    cases last with
    | true => simp only [Option.some.injEq] at h; rw [← h]; exact Nat.le_refl _
    | false => simp only [Option.map_eq_some_iff] at h; obtain ⟨v, _, rfl⟩ := h; show pos ≤ pos + 3; omega
  | slen last => simp only [Option.map_eq_some_iff] at h; obtain ⟨v, _, rfl⟩ := h; show pos ≤ (pos + 7) / 8 * 8 + 16; omega
  | snot last l => simp only [Option.map_eq_some_iff] at h; obtain ⟨v, _, rfl⟩ := h; show pos ≤ pos + 16; omega
  | sraw last n =>
    cases n with
    | zero => simp only [Option.some.injEq] at h; rw [← h]; exact Nat.le_refl _
    | succ n => simp only [Option.map_eq_some_iff] at h; obtain ⟨v, _, rfl⟩ := h; rw [give_pos]; show pos ≤ pos + 8; omega
  | dnum last => simp only [Option.map_eq_some_iff] at h; obtain ⟨v, _, rfl⟩ := h; show pos ≤ pos + 14; omega
  | dfst last a b k i first =>
    simp only [] at h
    split at h
    · simp only [Option.map_eq_some_iff] at h; obtain ⟨v, _, rfl⟩ := h; show pos ≤ pos + 3; omega
    · simp only [Option.some.injEq] at h; rw [← h]; exact Nat.le_refl _
  | dsym last a b code l =>
    simp only [] at h
    split at h
    · split at h
      · cases h
      · simp only [Option.some.injEq] at h; rw [← h]; show pos ≤ pos + _; omega
      · simp only [Option.some.injEq] at h; rw [← h]; show pos ≤ pos + _; omega
    · simp only [Option.some.injEq] at h; rw [← h]; exact Nat.le_refl _
  | drep last a b code l s => simp only [Option.map_eq_some_iff] at h; obtain ⟨v, _, rfl⟩ := h; show pos ≤ pos + _; omega
  | sym last lit di =>
    simp only [] at h
    split at h
    · cases h
    · simp only [Option.some.injEq] at h; rw [← h]; show pos ≤ pos + _; omega
    · split at h
      · simp only [Option.some.injEq] at h; rw [← h, give_pos]; show pos ≤ pos + _; omega
      · simp only [Option.some.injEq] at h; rw [← h]; show pos ≤ pos + _; omega
  | lext last lit di s => simp only [Option.map_eq_some_iff] at h; obtain ⟨v, _, rfl⟩ := h; show pos ≤ pos + _; omega
  | dist last lit di n =>
    simp only [] at h
    split at h
    · cases h
    · simp only [Option.some.injEq] at h; rw [← h]; show pos ≤ pos + _; omega
    · simp only [Option.some.injEq] at h; rw [← h]; show pos ≤ pos + _; omega
  | dext last lit di n x => simp only [Option.map_eq_some_iff] at h; obtain ⟨v, _, rfl⟩ := h; show pos ≤ pos + _; omega
  | copy last lit di n d =>
    cases n with
    | zero => simp only [Option.some.injEq] at h; rw [← h]; exact Nat.le_refl _
    | succ n => simp only [Option.some.injEq] at h; rw [← h, give_pos]; exact Nat.le_refl _
  | done => cases h
  | bad y => cases h
theorem Runs.pos {bs : List Bool} {most : Nat} {c d : Cfg} (h : Runs bs most c d) : c.pos ≤ d.pos := by
  induction h using Runs.el with
  | refl => exact Nat.le_refl _
  | cons h1 _ ih => exact Nat.le_trans (step_pos h1) ih
variable {w u : World} {base R L C most : Nat} {a : Option Addr} {s : Rs} {vO vT : Value} {B : List Nat}
theorem Left.of {s' : Rs} {vO' vT' : Value} {c' : Cfg} {c0 : Cfg} {k : St} {w' : World} (h1 : Ctx B base R a L C most w' s' vO' vT') (h2 : Chg R vO vT vO' vT' w w') (h3 : Runs (allb B) most c0 c') (h4 : (Opn s' ∧ c' = ⟨k, s'.pos, s'.out, s'.times⟩) ∨ Fin (allb B) most L c' s') : Left B base R a L C most vO vT w w' c0 k := ⟨s', vO', vT', c', h1, h2, h3, h4⟩
set_option maxRecDepth 100000 in
set_option maxHeartbeats 8000000 in
theorem symbols_c (h : Ctx B base R a L C most w s vO vT) (ho : Opn s) (Tl Td : Nat) (lit di : List Nat) (last : Bool) (hl : Tab R vO vT w Tl lit) (hd : Tab R vO vT w Td di) :
    Calls Tryz.prog 61 #[.pointer (some ⟨R, 0, none⟩), .pointer (some ⟨Tl, 0, none⟩), .pointer (some ⟨Td, 0, none⟩)] w fun e w' => e = .returned (.tuple #[]) ∧ Left B base R a L C most vO vT w w' ⟨.sym last lit di, s.pos, s.out, s.times⟩ (.head last) := by
  obtain ⟨c0, hc0⟩ : ∃ c0, (⟨.sym last lit di, s.pos, s.out, s.times⟩ : Cfg) = c0 := ⟨_, rfl⟩
  rw [hc0]
  have A0 : Aside (Ctx B base R a L C most w s vO vT ∧ Opn s ∧ Tab R vO vT w Tl lit ∧ Tab R vO vT w Td di ∧ (⟨.sym last lit di, s.pos, s.out, s.times⟩ : Cfg) = c0) := ⟨h, ho, hl, hd, hc0⟩
  clear h ho hl hd hc0
  go_enter Tryz.func61, Tryz.ntmps61
  go_wp2_with fail
  go_loopg [] (8 * L + 2) (fun g wr => Aside (∃ s1 vO1 vT1 c1, Ctx B base R a L C most wr s1 vO1 vT1 ∧ Chg R vO vT vO1 vT1 w wr ∧ Runs (allb B) most c0 c1 ∧ ((Opn s1 ∧ c1 = ⟨.sym last lit di, s1.pos, s1.out, s1.times⟩ ∧ 8 * L + 2 ≤ s1.pos + g) ∨ Fin (allb B) most L c1 s1)))
  case atStart => exact ⟨s, vO, vT, _, A0.out.1, Chg.refl _ _ _ _, Runs.refl _, Or.inl ⟨A0.out.2.1, A0.out.2.2.2.2.symm, by omega⟩⟩
  case round =>
    obtain ⟨s1, vO1, vT1, c1, hc1, hg1, hr1, hcase⟩ := hrel.out
    rcases hcase with ⟨ho1, he1, hm1⟩ | hfin
    · have hop := hc1.open_ true ho1.opn
      obtain ⟨r, hr⟩ : ∃ r, sread lit ((allb B).drop s1.pos) = r := ⟨_, rfl⟩
      have hsym := hc1.symbol Tl lit (A0.out.2.2.1.on hg1) r hr
      have hgk : 2 ≤ gk := by have := hc1.pos; omega
      have A1 : Aside (Chg R vO vT vO1 vT1 w wr ∧ Runs (allb B) most c0 ⟨.sym last lit di, s1.pos, s1.out, s1.times⟩ ∧ Opn s1 ∧ sread lit ((allb B).drop s1.pos) = r ∧ 8 * L + 2 ≤ s1.pos + gk ∧ 2 ≤ gk) := ⟨hg1, by rw [← he1]; exact hr1, ho1, hr, hm1, hgk⟩
      clear hrel hc1 hg1 hr1 ho1 he1 hm1 hr hgk
      cases r using SR.el with
      | cut =>
        have hfin : Fin (allb B) most L ⟨.sym last lit di, s1.pos, s1.out, s1.times⟩ (symS .cut L s1) := Fin.cut (by unfold step; simp only [A1.out.2.2.2.1]) rfl rfl A1.out.2.2.1.2 (by intro y e; cases e) (by intro e; cases e)
        have hop2 : ∀ W, Ctx B base R a L C most W (symS .cut L s1) vO1 vT1 → Calls Tryz.prog 58 #[.pointer (some ⟨R, 0, none⟩)] W fun e w' => e = .returned (.bool false) ∧ W = w' := fun W hW => hW.open_ false hfin.opn
        have AF : Aside (Fin (allb B) most L ⟨.sym last lit di, s1.pos, s1.out, s1.times⟩ (symS .cut L s1)) := hfin
        clear hfin
        go_wp2_with (first
          | (go_at_call 58; (fail_if_success (have hh := hc4)); refine hop.mono ?_; rintro e3 w3 ⟨rfl, rfl⟩)
          | (go_at_call 89; refine hsym.mono ?_; rintro e4 w4 ⟨rfl, hc4, hg4⟩)
          | (go_at_call 58; refine (hop2 _ hc4).mono ?_; rintro e5 w5 ⟨rfl, rfl⟩))
        first | (refine bodyPost_ret (results_none rfl _ _ _) rfl ?_) | go_end0
        exact ⟨rfl, Left.of hc4 (A1.out.1.trans hg4) A1.out.2.1 (Or.inr AF.out)⟩
      | bad j =>
        have hfin : Fin (allb B) most L ⟨.bad 13, s1.pos + j, s1.out, s1.times⟩ (symS (.bad j) L s1) := Fin.bad (s := { s1 with pos := s1.pos + j }) 13 rfl rfl rfl A1.out.2.2.1.2 (by decide) rfl
        have hop2 : ∀ W, Ctx B base R a L C most W (symS (.bad j) L s1) vO1 vT1 → Calls Tryz.prog 58 #[.pointer (some ⟨R, 0, none⟩)] W fun e w' => e = .returned (.bool false) ∧ W = w' := fun W hW => hW.open_ false hfin.opn
        have AF : Aside (Fin (allb B) most L ⟨.bad 13, s1.pos + j, s1.out, s1.times⟩ (symS (.bad j) L s1) ∧ Runs (allb B) most c0 ⟨.bad 13, s1.pos + j, s1.out, s1.times⟩) := ⟨hfin, A1.out.2.1.trans (Runs.one (by unfold step; simp only [A1.out.2.2.2.1]))⟩
        clear hfin
        go_wp2_with (first
          | (go_at_call 58; (fail_if_success (have hh := hc4)); refine hop.mono ?_; rintro e3 w3 ⟨rfl, rfl⟩)
          | (go_at_call 89; refine hsym.mono ?_; rintro e4 w4 ⟨rfl, hc4, hg4⟩)
          | (go_at_call 58; refine (hop2 _ hc4).mono ?_; rintro e5 w5 ⟨rfl, rfl⟩))
        first | (refine bodyPost_ret (results_none rfl _ _ _) rfl ?_) | go_end0
        exact ⟨rfl, Left.of hc4 (A1.out.1.trans hg4) AF.out.2 (Or.inr AF.out.1)⟩
      | got x n =>
        have hx15 : 0 < n := by
          have := sread_le (ls := lit) (h := (allb B).drop s1.pos)
          rw [A1.out.2.2.2.1] at this
          exact this.2.1
        have hxl : x < 320 := by
          have := sread_le (ls := lit) (h := (allb B).drop s1.pos)
          rw [A1.out.2.2.2.1] at this
          have h1 := (List.getElem?_eq_some_iff.1 this.1).1
          have := A0.out.2.2.1.len
          omega
        obtain ⟨s2, hs2⟩ : ∃ s2 : Rs, symS (.got x n) L s1 = s2 := ⟨_, rfl⟩
        have ho2 : Opn s2 := by rw [← hs2]; exact A1.out.2.2.1
        have hp2 : s2.pos = s1.pos + n := by rw [← hs2]; rfl
        have ho2o : s2.out = s1.out := by rw [← hs2]; rfl
        have ho2t : s2.times = s1.times := by rw [← hs2]; rfl
        rw [hs2] at hsym
        have hsym' : Calls Tryz.prog 89 #[.pointer (some ⟨R, 0, none⟩), .pointer (some ⟨Tl, 0, none⟩)] wr fun e w' => e = .returned (.int .i64 (x : Int)) ∧ Ctx B base R a L C most w' s2 vO1 vT1 ∧ Chg R vO1 vT1 vO1 vT1 wr w' := hsym
        clear hsym
        have hop2 : ∀ W, Ctx B base R a L C most W s2 vO1 vT1 → Calls Tryz.prog 58 #[.pointer (some ⟨R, 0, none⟩)] W fun e w' => e = .returned (.bool true) ∧ W = w' := fun W hW => hW.open_ true ho2.opn
        have hstep : step (allb B) most ⟨.sym last lit di, s1.pos, s1.out, s1.times⟩ = if x < 256 then some (give most (.sym last lit di) x s2.pos ⟨.sym last lit di, s2.pos, s2.out, s2.times⟩) else some ⟨if x = 256 then .head last else if 285 < x then .bad 13 else .lext last lit di x, s2.pos, s2.out, s2.times⟩ := by
          rw [hp2, ho2o, ho2t]
          unfold step
          simp only [A1.out.2.2.2.1]
          rfl
        have A2 : Aside (Chg R vO vT vO1 vT1 w wr ∧ Runs (allb B) most c0 ⟨.sym last lit di, s1.pos, s1.out, s1.times⟩ ∧ step (allb B) most ⟨.sym last lit di, s1.pos, s1.out, s1.times⟩ = (if x < 256 then some (give most (.sym last lit di) x s2.pos ⟨.sym last lit di, s2.pos, s2.out, s2.times⟩) else some ⟨if x = 256 then .head last else if 285 < x then .bad 13 else .lext last lit di x, s2.pos, s2.out, s2.times⟩) ∧ Opn s2 ∧ 8 * L + 3 ≤ s2.pos + gk ∧ 2 ≤ gk) := ⟨A1.out.1, A1.out.2.1, hstep, ho2, by have := A1.out; omega, A1.out.2.2.2.2.2⟩
        clear hs2 hp2 ho2o ho2t hstep A1 hx15 ho2
        by_cases h256 : x = 256
        · subst h256
          have AF : Aside (Runs (allb B) most c0 ⟨.head last, s2.pos, s2.out, s2.times⟩) := A2.out.2.1.trans (Runs.one (by rw [A2.out.2.2.1]; rfl))
          go_wp2_with (first
            | (go_at_call 58; (fail_if_success (have hh := hc4)); refine hop.mono ?_; rintro e3 w3 ⟨rfl, rfl⟩)
            | (go_at_call 89; refine hsym'.mono ?_; rintro e4 w4 ⟨rfl, hc4, hg4⟩)
            | (go_at_call 58; refine (hop2 _ hc4).mono ?_; rintro e5 w5 ⟨rfl, rfl⟩))
          first | (refine bodyPost_ret (results_none rfl _ _ _) rfl ?_) | go_end0
          exact ⟨rfl, Left.of hc4 (A2.out.1.trans hg4) AF.out (Or.inl ⟨A2.out.2.2.2.1, rfl⟩)⟩
        · have t256 : ((x : Int) == 256) = false := beq_eq_false_iff_ne.2 (by omega)
          by_cases hlt : x < 256
          · have tl : (x : Int) < 256 := by omega
            have hgv : ∀ W, Ctx B base R a L C most W s2 vO1 vT1 → Calls Tryz.prog 88 #[.pointer (some ⟨R, 0, none⟩), .int .u8 (x : Int)] W fun e w' => e = .returned (.tuple #[]) ∧ ∃ s' vO' vT' c', Ctx B base R a L C most w' s' vO' vT' ∧ Chg R vO1 vT1 vO' vT' W w' ∧ c' = give most (.sym last lit di) x s2.pos ⟨.sym last lit di, s2.pos, s2.out, s2.times⟩ ∧ ((Opn s' ∧ c' = ⟨.sym last lit di, s'.pos, s'.out, s'.times⟩ ∧ s'.out = s2.out ++ [x] ∧ s'.pos = s2.pos) ∨ Fin (allb B) most L c' s') := fun W hW => hW.give A2.out.2.2.2.1 x hlt (.sym last lit di)
            have AF : Aside (Runs (allb B) most c0 (give most (.sym last lit di) x s2.pos ⟨.sym last lit di, s2.pos, s2.out, s2.times⟩)) := A2.out.2.1.trans (Runs.one (by rw [A2.out.2.2.1, if_pos hlt]))
            clear hlt h256
            go_wp2_with (first
              | (go_at_call 58; (fail_if_success (have hh := hc4)); refine hop.mono ?_; rintro e3 w3 ⟨rfl, rfl⟩)
              | (go_at_call 89; refine hsym'.mono ?_; rintro e4 w4 ⟨rfl, hc4, hg4⟩)
              | (go_at_call 58; refine (hop2 _ hc4).mono ?_; rintro e5 w5 ⟨rfl, rfl⟩)
              | (go_at_call 88; refine (hgv _ hc4).mono ?_; rintro e6 w6 ⟨rfl, s5, vO5, vT5, c5, hc5, hg5, hce5, hcase5⟩))
            have A6 : Aside (∃ s1 vO1 vT1 c1, Ctx B base R a L C most w6 s1 vO1 vT1 ∧ Chg R vO vT vO1 vT1 w w6 ∧ Runs (allb B) most c0 c1 ∧ ((Opn s1 ∧ c1 = ⟨.sym last lit di, s1.pos, s1.out, s1.times⟩ ∧ 8 * L + 2 ≤ s1.pos + (gk - 1)) ∨ Fin (allb B) most L c1 s1)) := by
              refine ⟨s5, vO5, vT5, c5, hc5, (A2.out.1.trans hg4).trans hg5, by rw [hce5]; exact AF.out, ?_⟩
              rcases hcase5 with ⟨q1, q2, q3, q4⟩ | q1
              · exact Or.inl ⟨q1, q2, by rw [q4]; have := A2.out; omega⟩
              · exact Or.inr q1
            clear hc4 hg4 hc5 hg5 hce5 hcase5 hgv hop hop2 hsym'
            go_roundg (gk - 1)
            case measure => have := A2.out; omega
            case rel => exact A6.out
          · have tl : ¬ (x : Int) < 256 := by omega
            by_cases h285 : 285 < x
            · have t285 : (285 : Int) < (x : Int) := by omega
              have hst : ∀ W, Ctx B base R a L C most W s2 vO1 vT1 → Calls Tryz.prog 63 #[.pointer (some ⟨R, 0, none⟩), .int .i64 13] W fun e w' => e = .returned (.tuple #[]) ∧ Ctx B base R a L C most w' { s2 with why := 13, at_ := (s2.pos - 1) / 8 } vO1 vT1 ∧ Chg R vO1 vT1 vO1 vT1 W w' := fun W hW => hW.stop 13
              have AF : Aside (Runs (allb B) most c0 ⟨.bad 13, s2.pos, s2.out, s2.times⟩ ∧ Fin (allb B) most L ⟨.bad 13, s2.pos, s2.out, s2.times⟩ { s2 with why := 13, at_ := (s2.pos - 1) / 8 }) := ⟨A2.out.2.1.trans (Runs.one (by rw [A2.out.2.2.1, if_neg hlt, if_neg h256, if_pos h285])), Fin.bad 13 rfl rfl rfl A2.out.2.2.2.1.2 (by decide) rfl⟩
              clear hlt h256 h285
              go_wp2_with (first
                | (go_at_call 58; (fail_if_success (have hh := hc4)); refine hop.mono ?_; rintro e3 w3 ⟨rfl, rfl⟩)
                | (go_at_call 89; refine hsym'.mono ?_; rintro e4 w4 ⟨rfl, hc4, hg4⟩)
                | (go_at_call 58; refine (hop2 _ hc4).mono ?_; rintro e5 w5 ⟨rfl, rfl⟩)
                | (go_at_call 63; refine (hst _ hc4).mono ?_; rintro e6 w6 ⟨rfl, hc5, hg5⟩))
              have A6 : Aside (∃ s1 vO1 vT1 c1, Ctx B base R a L C most w6 s1 vO1 vT1 ∧ Chg R vO vT vO1 vT1 w w6 ∧ Runs (allb B) most c0 c1 ∧ ((Opn s1 ∧ c1 = ⟨.sym last lit di, s1.pos, s1.out, s1.times⟩ ∧ 8 * L + 2 ≤ s1.pos + (gk - 1)) ∨ Fin (allb B) most L c1 s1)) := ⟨_, vO1, vT1, _, hc5, (A2.out.1.trans hg4).trans hg5, AF.out.1, Or.inr AF.out.2⟩
              clear hc4 hg4 hc5 hg5 hst hop hop2 hsym'
              go_roundg (gk - 1)
              case measure => have := A2.out; omega
              case rel => exact A6.out
            · have t285 : ¬ (285 : Int) < (x : Int) := by omega
              have hcp : ∀ W, Ctx B base R a L C most W s2 vO1 vT1 → Chg R vO1 vT1 vO1 vT1 wr W → Calls Tryz.prog 90 #[.pointer (some ⟨R, 0, none⟩), .int .i64 (x : Int), .pointer (some ⟨Td, 0, none⟩)] W fun e w' => e = .returned (.tuple #[]) ∧ Left B base R a L C most vO1 vT1 W w' ⟨.lext last lit di x, s2.pos, s2.out, s2.times⟩ (.sym last lit di) := fun W hW hg => copied_c hW A2.out.2.2.2.1 x (by omega) (by omega) Td lit di last ((A0.out.2.2.2.1.on A2.out.1).on hg)
              have AF : Aside (Runs (allb B) most c0 ⟨.lext last lit di x, s2.pos, s2.out, s2.times⟩) := A2.out.2.1.trans (Runs.one (by rw [A2.out.2.2.1, if_neg hlt, if_neg h256, if_neg h285]))
              clear hlt h256 h285
              go_wp2_with (first
                | (go_at_call 58; (fail_if_success (have hh := hc4)); refine hop.mono ?_; rintro e3 w3 ⟨rfl, rfl⟩)
                | (go_at_call 89; refine hsym'.mono ?_; rintro e4 w4 ⟨rfl, hc4, hg4⟩)
                | (go_at_call 58; refine (hop2 _ hc4).mono ?_; rintro e5 w5 ⟨rfl, rfl⟩)
                | (go_at_call 90; refine (hcp _ hc4 hg4).mono ?_; rintro e6 w6 ⟨rfl, hleft⟩))
              have A6 : Aside (∃ s1 vO1 vT1 c1, Ctx B base R a L C most w6 s1 vO1 vT1 ∧ Chg R vO vT vO1 vT1 w w6 ∧ Runs (allb B) most c0 c1 ∧ ((Opn s1 ∧ c1 = ⟨.sym last lit di, s1.pos, s1.out, s1.times⟩ ∧ 8 * L + 2 ≤ s1.pos + (gk - 1)) ∨ Fin (allb B) most L c1 s1)) := by
                obtain ⟨s5, vO5, vT5, c5, q1, q2, q3, q4⟩ := hleft
                refine ⟨s5, vO5, vT5, c5, q1, (A2.out.1.trans hg4).trans q2, AF.out.trans q3, ?_⟩
                rcases q4 with ⟨k1, k2⟩ | k1
                · refine Or.inl ⟨k1, k2, ?_⟩
                  have := q3.pos
                  rw [k2] at this
                  have h5 : s2.pos ≤ s5.pos := this
                  have := A2.out
                  omega
                · exact Or.inr k1
              clear hc4 hg4 hleft hcp hop hop2 hsym'
              go_roundg (gk - 1)
              case measure => have := A2.out; omega
              case rel => exact A6.out
    · have hop := hc1.open_ false hfin.opn
      have AR : Aside (Left B base R a L C most vO vT w wr c0 (.head last)) := Left.of hc1 hg1 hr1 (Or.inr hfin)
      clear hrel hc1 hg1 hr1 hfin
      go_wp2_with (go_at_call 58; refine hop.mono ?_; rintro e3 w3 ⟨rfl, rfl⟩)
      first | (refine bodyPost_ret (results_none rfl _ _ _) rfl ?_) | go_end0
      exact ⟨rfl, AR.out⟩
end Go.Proofs.YtogednaamndpgaaGreatDoor

/-
  Own texts of this seat, one behind the other: what each says stands ahead of it.
-/
import Derived.Test.YtcmmjbkgoafbnaaGreatDoorWda
import Derived.Deep.RegionHeld3
import Derived.Test.YtcmmjbkgoafbnaaGreatDoorTev
import Derived.Test.YtcmmjbkgoafbnaaGreatDoorOwn
import Derived.Deep.AppendLies
import Derived.Deep.RegionLaw
import Derived.Test.YtcmmjbkgoafbnaaGreatDoorWwe
import Derived.Test.YtcmmjbkgoafbnaaGreatDoorMsg
import Derived.Test.YtcmmjbkgoafbnaaGreatDoorWwt
/-
  What Put, Reason, End and Next come to.
-/
namespace Go.Proofs.YtcmmjbkgoafbnaaGreatDoor
open Go.RowKit
set_option linter.unusedVariables false
set_option linter.unusedSimpArgs false
/-- May a byte be put in? -/
def vop (s : Ts) (v : Rv) : Bool := decide (v.ek = 0) && decide (s.why = 0) && !v.ed
/-- What a byte makes of the events. -/
def vpu (s : Ts) (x : Nat) (v : Rv) : Rv := if s.wh = 0 then (if (s.ps + 1) % 512 = 0 then vhd { s with B := s.B.set s.ps x, ps := 0 } v else v) else if s.wh = 1 then vdt x { s with ps := (s.ps + 1) % 512 } v else v
section
variable {W : Nat} {s : Ts} {v : Rv}
theorem open_c (w : World) (h : Wm w W s v) : Calls Tryz.prog 26 #[.pointer (some ⟨W, 0, none⟩)] w fun e w' => e = .returned (.bool (vop s v)) ∧ w' = w := by
  have c1 := h.k1545
  have c2 := h.k1552
  have c3 := h.k1551
  have e1 : decide (v.ek = 0) = (v.ek == 0) := rfl
  have e2 : decide (s.why = 0) = ((s.why : Int) == 0) := by by_cases q : s.why = 0 <;> simp [q]
  unfold vop
  rw [e1, e2]
  generalize v.ek = a at *
  generalize (s.why : Int) = b at *
  generalize v.ed = c at *
  generalize hb1 : (a == 0) = b1
  generalize hb2 : (b == 0) = b2
  clear h e1 e2
  cases b1 <;> cases b2 <;> cases c
  all_goals
    go_enter Tryz.func26, Tryz.ntmps26
    go_wp2_with fail
    go_ret
    exact ⟨rfl, rfl⟩
/-- What Put comes to where it takes the byte. -/
structure Pt (W : Nat) (s' : Ts) (v' : Rv) (w : World) (e : Ending) (w' : World) : Prop where
  re : e = .returned (.bool true)
  wm : Wm w' W s' v'
  bu : But W w w'
  er : Er w'
theorem put_no (x : Nat) (w : World) (h : Wm w W s v) (ho : vop s v = false) : Calls Tryz.prog 13 #[.pointer (some ⟨W, 0, none⟩), .int .u8 (x : Int)] w fun e w' => e = .returned (.bool false) ∧ w' = w := by
  have hop := open_c w h
  rw [ho] at hop
  clear h ho
  go_enter Tryz.func13, Tryz.ntmps13
  go_wp2_with (go_at_call 26; refine hop.mono ?_; rintro e1 w1 ⟨rfl, rfl⟩)
  go_ret
  exact ⟨rfl, rfl⟩
set_option maxRecDepth 20000 in
set_option maxHeartbeats 4000000 in
theorem put_yes (x : Nat) (w : World) (h : Wm w W s v) (hd : Tod s) (ho : vop s v = true) (h0 : s.why = 0) (he : Er w) (hW : 3 ≤ W) (hx : x < 256) : Calls Tryz.prog 13 #[.pointer (some ⟨W, 0, none⟩), .int .u8 (x : Int)] w fun e w' => Pt W (tput s x).1 (vpu s x v) w e w' := by
  have hop := open_c w h
  rw [ho] at hop
  have hk := h.ok
  obtain ⟨P, hP⟩ : ∃ P, s.ps = P := ⟨_, rfl⟩
  obtain ⟨P1, hP1⟩ : ∃ P1, (P + 1) % 512 = P1 := ⟨_, rfl⟩
  have hPb : P < 512 ∧ P1 < 512 := by have := hk.ps; omega
  have c1 := h.k1
  have f1 := h.fz 1
  rw [hP] at c1
  have hrem : ((P : Int) + 1) % 512 = (P1 : Int) := by omega
  have hrem2 : Int.tmod ((P : Int) + 1) 512 = (P1 : Int) := by rw [Int.tmod_eq_emod_of_nonneg (by omega)]; omega
  have t0 : (P : Int) < 512 := by omega
  have m1 := h.s1 P1 hPb.2
  obtain ⟨w1, hw1⟩ : ∃ w1, w.setCell ⟨W, 1, none⟩ (.int .i64 (P1 : Int)) = w1 := ⟨_, rfl⟩
  rw [hw1] at m1
  have q1 : But W w w1 := by rw [← hw1]; exact But.of_only ((Only.refl W w).setCell 1 _)
  have c2 := m1.k0
  have c3 := m1.k1
  have AW : Aside (w.setCell ⟨W, 1, none⟩ (.int .i64 (P1 : Int)) = w1) := hw1
  have A : Aside (Wm w1 W { s with ps := P1 } v ∧ But W w w1 ∧ Er w1 ∧ 3 ≤ W ∧ x < 256 ∧ s.why = 0 ∧ s.ps = P ∧ (P + 1) % 512 = P1 ∧ P < 512 ∧ P1 < 512 ∧ Tod s ∧ Er w) := ⟨m1, q1, he.but q1 hW, hW, hx, h0, hP, hP1, hPb.1, hPb.2, hd, he⟩
  clear h he hW hx hk hPb hP hP1 hw1 m1 q1 ho
  go_enter Tryz.func13, Tryz.ntmps13
  go_upto_region 5 with (go_at_call 26; refine hop.mono ?_; rintro e1 w ⟨rfl, rfl⟩)
  rw [AW.out]
  clear hop c1 f1 hrem hrem2 AW
  by_cases hw0 : s.wh = 0
  · rw [show ({ s with ps := P1 } : Ts).wh = s.wh from rfl, hw0] at c2
    obtain ⟨y, hy⟩ : ∃ y, s.B[P]? = some y := ⟨_, List.getElem?_eq_getElem (by have := A.out.1.ok.bl; have : s.B.length = 512 := this; have := A.out.2.2.2.2.2.2.2.2.1; omega)⟩
    have c4 : w1.cell? ⟨W, 2 + P, none⟩ = some (.int .u8 (y : Int)) := A.out.1.kb hy
    have f4 := A.out.1.fz (2 + P)
    have m2 := A.out.1.sB P x A.out.2.2.2.2.2.2.2.2.1 A.out.2.2.2.2.1
    obtain ⟨w2, hw2⟩ : ∃ w2, w1.setCell ⟨W, 2 + P, none⟩ (.int .u8 (x : Int)) = w2 := ⟨_, rfl⟩
    rw [hw2] at m2
    have q2 : But W w1 w2 := by rw [← hw2]; exact But.of_only ((Only.refl W w1).setCell _ _)
    have c5 := m2.k1
    have c6 := m2.k0
    rw [show ({ s with ps := P1, B := s.B.set P x } : Ts).wh = s.wh from rfl, hw0] at c6
    have t2 : (P < 512) = True := eq_true A.out.2.2.2.2.2.2.2.2.1
    have AW : Aside (w1.setCell ⟨W, 2 + P, none⟩ (.int .u8 (x : Int)) = w2) := hw2
    by_cases hp1 : P1 = 0
    · subst hp1
      have hhd := header_c w2 m2 A.out.2.2.2.2.2.1 (A.out.2.2.1.but q2 A.out.2.2.2.1) A.out.2.2.2.1
      have t3 : (((0 : Nat) : Int) == 0) = true := rfl
      have AT : Aside ((tput s x).1 = tnx (thead { s with B := s.B.set P x, ps := 0 }).1 ∧ vpu s x v = vhd { s with B := s.B.set P x, ps := 0 } v ∧ But W w w2) := by
        have a0 := A.out
        refine ⟨?_, ?_, a0.2.1.trans q2⟩
        · unfold tput; rw [if_pos hw0, a0.2.2.2.2.2.2.1, if_pos a0.2.2.2.2.2.2.2.1]
        · unfold vpu; rw [if_pos hw0, a0.2.2.2.2.2.2.1, if_pos a0.2.2.2.2.2.2.2.1]
      clear c3 m2 q2 hw2 hy
      go_upto_region 8 with fail
      rw [AW.out]
      clear AW c4 f4 c6
      go_upto_region 12 with (go_at_call 27; refine hhd.mono ?_; rintro e3 w3 k3; obtain ⟨rfl, m3, b3, r3⟩ := k3)
      clear hhd c2 c5 t3
      have q3 : But W w w3 := AT.out.2.2.trans b3
      obtain ⟨s3, hs3⟩ : ∃ s3, (thead { s with B := s.B.set P x, ps := 0 }).1 = s3 := ⟨_, rfl⟩
      obtain ⟨v3, hv3⟩ : ∃ v3, vhd { s with B := s.B.set P x, ps := 0 } v = v3 := ⟨_, rfl⟩
      have AS : Aside ((tput s x).1 = tnx s3 ∧ vpu s x v = v3) := ⟨by rw [AT.out.1, hs3], by rw [AT.out.2.1, hv3]⟩
      have m3 : Wm w3 W s3 v3 := by rw [← hs3, ← hv3]; exact m3
      clear AT b3 hs3 hv3
      have c7 := m3.k0
      have c8 := m3.k1
      have f7 := m3.fz 0
      have AZ : Aside (Wm w3 W s3 v3 ∧ But W w w3 ∧ Er w3) := ⟨m3, q3, r3⟩
      by_cases h2 : s3.wh = 2
      · have u1 : ((s3.wh : Int) == 2) = true := by rw [beq_iff_eq]; omega
        by_cases h3 : s3.ps = 0
        · have u2 : ((s3.ps : Int) == 0) = true := by rw [beq_iff_eq]; omega
          have AU : Aside (tnx s3 = { s3 with wh := 0 }) := by show tnx s3 = _; unfold tnx; rw [if_pos ⟨h2, h3⟩]
          clear m3 q3 r3 h2 h3
          go_wp2_with fail
          go_ret
          have az := AZ.out
          rw [AS.out.1, AS.out.2, AU.out]
          have kk := az.1.ok
          have o : Only W w3 (w3.setCell ⟨W, 0, none⟩ (.int .i64 0)) := (Only.refl W w3).setCell 0 _
          exact ⟨rfl, az.1.s0 0 ⟨kk.bl, kk.bo, kk.kl, kk.ko, kk.ps, by show (0 : Nat) ≤ 3; decide, kk.us, kk.lf, kk.ln, kk.cm⟩, az.2.1.trans (But.of_only o), az.2.2.but (But.of_only o) A.out.2.2.2.1⟩
        · have u2 : ((s3.ps : Int) == 0) = false := by rw [beq_eq_false_iff_ne]; omega
          have AU : Aside (tnx s3 = s3) := by show tnx s3 = _; unfold tnx; rw [if_neg (fun q => h3 q.2)]
          clear m3 q3 r3 h2 h3
          go_wp2_with fail
          go_ret
          rw [AS.out.1, AS.out.2, AU.out]
          exact ⟨rfl, AZ.out.1, AZ.out.2.1, AZ.out.2.2⟩
      · have u1 : ((s3.wh : Int) == 2) = false := by rw [beq_eq_false_iff_ne]; omega
        have AU : Aside (tnx s3 = s3) := by show tnx s3 = _; unfold tnx; rw [if_neg (fun q => h2 q.1)]
        clear m3 q3 r3 h2
        go_wp2_with fail
        go_ret
        rw [AS.out.1, AS.out.2, AU.out]
        exact ⟨rfl, AZ.out.1, AZ.out.2.1, AZ.out.2.2⟩
    · have t3 : ((P1 : Int) == 0) = false := by rw [beq_eq_false_iff_ne]; omega
      have AX : Aside (Pt W (tput s x).1 (vpu s x v) w (.returned (.bool true)) w2) := by
        have a0 := A.out
        have e1 : (tput s x).1 = { s with ps := P1, B := s.B.set P x } := by unfold tput; rw [if_pos hw0, a0.2.2.2.2.2.2.1, a0.2.2.2.2.2.2.2.1, if_neg hp1]
        have e2 : vpu s x v = v := by unfold vpu; rw [if_pos hw0, a0.2.2.2.2.2.2.1, a0.2.2.2.2.2.2.2.1, if_neg hp1]
        rw [e1, e2]
        have qq := a0.2.1.trans q2
        exact ⟨rfl, m2, qq, a0.2.2.2.2.2.2.2.2.2.2.2.but qq a0.2.2.2.1⟩
      clear c3 m2 q2 hw2 hy
      go_upto_region 8 with fail
      rw [AW.out]
      clear AW c4 f4
      go_wp2_with fail
      go_ret
      exact AX.out
  · by_cases hw1 : s.wh = 1
    · rw [show ({ s with ps := P1 } : Ts).wh = s.wh from rfl, hw1] at c2
      have hda := A.out.2.2.2.2.2.2.2.2.2.2.1.da hw1
      have hdt := data_c x w1 A.out.1 A.out.2.2.2.2.2.1 A.out.2.2.1 A.out.2.2.2.1 A.out.2.2.2.2.1 hda.1 hda.2
      have AT : Aside ((tput s x).1 = tnx (tdat x { s with ps := P1 }).1 ∧ vpu s x v = vdt x { s with ps := P1 } v) := by
        have a0 := A.out
        refine ⟨?_, ?_⟩
        · unfold tput; rw [if_neg hw0, if_pos hw1, a0.2.2.2.2.2.2.1, a0.2.2.2.2.2.2.2.1]
        · unfold vpu; rw [if_neg hw0, if_pos hw1, a0.2.2.2.2.2.2.1, a0.2.2.2.2.2.2.2.1]
      clear hda
      go_upto_region 12 with (go_at_call 28; refine hdt.mono ?_; rintro e3 w3 k3; obtain ⟨rfl, m3, b3, r3⟩ := k3)
      clear hdt c2 c3
      have q3 : But W w w3 := A.out.2.1.trans b3
      obtain ⟨s3, hs3⟩ : ∃ s3, (tdat x { s with ps := P1 }).1 = s3 := ⟨_, rfl⟩
      obtain ⟨v3, hv3⟩ : ∃ v3, vdt x { s with ps := P1 } v = v3 := ⟨_, rfl⟩
      have AS : Aside ((tput s x).1 = tnx s3 ∧ vpu s x v = v3) := ⟨by rw [AT.out.1, hs3], by rw [AT.out.2, hv3]⟩
      have m3 : Wm w3 W s3 v3 := by rw [← hs3, ← hv3]; exact m3
      clear AT b3 hs3 hv3
      have c7 := m3.k0
      have c8 := m3.k1
      have f7 := m3.fz 0
      have AZ : Aside (Wm w3 W s3 v3 ∧ But W w w3 ∧ Er w3) := ⟨m3, q3, r3⟩
      by_cases h2 : s3.wh = 2
      · have u1 : ((s3.wh : Int) == 2) = true := by rw [beq_iff_eq]; omega
        by_cases h3 : s3.ps = 0
        · have u2 : ((s3.ps : Int) == 0) = true := by rw [beq_iff_eq]; omega
          have AU : Aside (tnx s3 = { s3 with wh := 0 }) := by show tnx s3 = _; unfold tnx; rw [if_pos ⟨h2, h3⟩]
          clear m3 q3 r3 h2 h3
          go_wp2_with fail
          go_ret
          have az := AZ.out
          rw [AS.out.1, AS.out.2, AU.out]
          have kk := az.1.ok
          have o : Only W w3 (w3.setCell ⟨W, 0, none⟩ (.int .i64 0)) := (Only.refl W w3).setCell 0 _
          exact ⟨rfl, az.1.s0 0 ⟨kk.bl, kk.bo, kk.kl, kk.ko, kk.ps, by show (0 : Nat) ≤ 3; decide, kk.us, kk.lf, kk.ln, kk.cm⟩, az.2.1.trans (But.of_only o), az.2.2.but (But.of_only o) A.out.2.2.2.1⟩
        · have u2 : ((s3.ps : Int) == 0) = false := by rw [beq_eq_false_iff_ne]; omega
          have AU : Aside (tnx s3 = s3) := by show tnx s3 = _; unfold tnx; rw [if_neg (fun q => h3 q.2)]
          clear m3 q3 r3 h2 h3
          go_wp2_with fail
          go_ret
          rw [AS.out.1, AS.out.2, AU.out]
          exact ⟨rfl, AZ.out.1, AZ.out.2.1, AZ.out.2.2⟩
      · have u1 : ((s3.wh : Int) == 2) = false := by rw [beq_eq_false_iff_ne]; omega
        have AU : Aside (tnx s3 = s3) := by show tnx s3 = _; unfold tnx; rw [if_neg (fun q => h2 q.1)]
        clear m3 q3 r3 h2
        go_wp2_with fail
        go_ret
        rw [AS.out.1, AS.out.2, AU.out]
        exact ⟨rfl, AZ.out.1, AZ.out.2.1, AZ.out.2.2⟩
    · have t1 : ((s.wh : Int) == 0) = false := by rw [beq_eq_false_iff_ne]; omega
      have t2 : ((s.wh : Int) == 1) = false := by rw [beq_eq_false_iff_ne]; omega
      have AT : Aside ((tput s x).1 = tnx { s with ps := P1 } ∧ vpu s x v = v) := by
        have a0 := A.out
        refine ⟨?_, ?_⟩
        · unfold tput; rw [if_neg hw0, if_neg hw1, a0.2.2.2.2.2.2.1, a0.2.2.2.2.2.2.2.1]
        · unfold vpu; rw [if_neg hw0, if_neg hw1]
      clear hw0 hw1
      go_upto_region 12 with fail
      clear c3 c2 t1 t2
      obtain ⟨w3, hw3⟩ : ∃ w3, w1 = w3 := ⟨_, rfl⟩
      have q3 := A.out.2.1
      have r3 := A.out.2.2.1
      have m3 := A.out.1
      rw [hw3] at q3 r3 m3 ⊢
      obtain ⟨s3, hs3⟩ : ∃ s3 : Ts, ({ s with ps := P1 } : Ts) = s3 := ⟨_, rfl⟩
      obtain ⟨v3, hv3⟩ : ∃ v3, v = v3 := ⟨_, rfl⟩
      have AS : Aside ((tput s x).1 = tnx s3 ∧ vpu s x v = v3) := ⟨by rw [AT.out.1, hs3], by rw [AT.out.2, hv3]⟩
      have m3 : Wm w3 W s3 v3 := by rw [← hs3, ← hv3]; exact m3
      clear AT hs3 hv3 hw3
      have c7 := m3.k0
      have c8 := m3.k1
      have f7 := m3.fz 0
      have AZ : Aside (Wm w3 W s3 v3 ∧ But W w w3 ∧ Er w3) := ⟨m3, q3, r3⟩
      by_cases h2 : s3.wh = 2
      · have u1 : ((s3.wh : Int) == 2) = true := by rw [beq_iff_eq]; omega
        by_cases h3 : s3.ps = 0
        · have u2 : ((s3.ps : Int) == 0) = true := by rw [beq_iff_eq]; omega
          have AU : Aside (tnx s3 = { s3 with wh := 0 }) := by show tnx s3 = _; unfold tnx; rw [if_pos ⟨h2, h3⟩]
          clear m3 q3 r3 h2 h3
          go_wp2_with fail
          go_ret
          have az := AZ.out
          rw [AS.out.1, AS.out.2, AU.out]
          have kk := az.1.ok
          have o : Only W w3 (w3.setCell ⟨W, 0, none⟩ (.int .i64 0)) := (Only.refl W w3).setCell 0 _
          exact ⟨rfl, az.1.s0 0 ⟨kk.bl, kk.bo, kk.kl, kk.ko, kk.ps, by show (0 : Nat) ≤ 3; decide, kk.us, kk.lf, kk.ln, kk.cm⟩, az.2.1.trans (But.of_only o), az.2.2.but (But.of_only o) A.out.2.2.2.1⟩
        · have u2 : ((s3.ps : Int) == 0) = false := by rw [beq_eq_false_iff_ne]; omega
          have AU : Aside (tnx s3 = s3) := by show tnx s3 = _; unfold tnx; rw [if_neg (fun q => h3 q.2)]
          clear m3 q3 r3 h2 h3
          go_wp2_with fail
          go_ret
          rw [AS.out.1, AS.out.2, AU.out]
          exact ⟨rfl, AZ.out.1, AZ.out.2.1, AZ.out.2.2⟩
      · have u1 : ((s3.wh : Int) == 2) = false := by rw [beq_eq_false_iff_ne]; omega
        have AU : Aside (tnx s3 = s3) := by show tnx s3 = _; unfold tnx; rw [if_neg (fun q => h2 q.1)]
        clear m3 q3 r3 h2
        go_wp2_with fail
        go_ret
        rw [AS.out.1, AS.out.2, AU.out]
        exact ⟨rfl, AZ.out.1, AZ.out.2.1, AZ.out.2.2⟩
end
end Go.Proofs.YtcmmjbkgoafbnaaGreatDoor

/-
  What Next, Reason and End come to.
-/
namespace Go.Proofs.YtcmmjbkgoafbnaaGreatDoor
open Go.RowKit
set_option linter.unusedVariables false
set_option linter.unusedSimpArgs false
/-- An event as it lies. -/
def ev5 (v : Rv) : Array Value := #[.int .i64 v.ek, .int .u8 v.eb, .int .i64 v.en, .int .i64 0, .string (st v.et)]
def ev0 : Array Value := #[.int .i64 0, .int .u8 0, .int .i64 0, .int .i64 0, .string ⟨#[]⟩]
/-- What is left behind an event that was told. -/
def vnx (v : Rv) : Rv := if v.cl then ⟨3, 0, 0, [], false, v.ed⟩ else ⟨0, 0, 0, [], false, v.ed⟩
theorem set5 {w : World} {H : Nat} {a0 a1 a2 a3 a4 : Value} {t : TypeId} (h : Cells w H #[a0, a1, a2, a3, a4] t) (b0 b1 b2 b3 b4 : Value) : Cells (((((w.setCell ⟨H, 0, none⟩ b0).setCell ⟨H, 1, none⟩ b1).setCell ⟨H, 2, none⟩ b2).setCell ⟨H, 3, none⟩ b3).setCell ⟨H, 4, none⟩ b4) H #[b0, b1, b2, b3, b4] t := ((((h.set 0 b0).set 1 b1).set 2 b2).set 3 b3).set 4 b4
theorem only_five (H : Nat) (w : World) (b0 b1 b2 b3 b4 : Value) : Only H w (((((w.setCell ⟨H, 0, none⟩ b0).setCell ⟨H, 1, none⟩ b1).setCell ⟨H, 2, none⟩ b2).setCell ⟨H, 3, none⟩ b3).setCell ⟨H, 4, none⟩ b4) := (((((Only.refl H w).setCell 0 _).setCell 1 _).setCell 2 _).setCell 3 _).setCell 4 _
theorem size36 : (Tryz.prog.info? 44).map (·.size) = some 5 := by kernel_rfl
theorem ret36 {w : World} {g : Nat} {cs : Array Value} (h : Cells w g cs 44) (hc : cs.size = 5) : (loadVar 44 ⟨g, 0, none⟩).run Tryz.prog w = .ok (.agg cs) w := by
  exact run_loadVar_row (P := Tryz.prog) w g 44 44 cs (0, 0) _ h Tryz.underlying44 rfl (by rw [hc]; exact size36)
section
variable {W : Nat} {s : Ts} {v : Rv}
theorem reason_c (w : World) (h : Wm w W s v) : Calls Tryz.prog 16 #[.pointer (some ⟨W, 0, none⟩)] w fun e w' => e = .returned (.int .i64 (s.why : Int)) ∧ w = w' := by
  have c1 := h.k1552
  clear h
  go_enter Tryz.func16, Tryz.ntmps16
  go_wp2_with fail
  go_ret
  exact ⟨rfl, rfl⟩
set_option maxRecDepth 20000 in
theorem next_no (w : World) (h : Wm w W s v) (hk : v.ek = 0) : Calls Tryz.prog 14 #[.pointer (some ⟨W, 0, none⟩)] w fun e w' => e = .returned (.tuple #[.agg ev0, .bool false]) ∧ Below w.heap.size w w' := by
  obtain ⟨H, hH⟩ : ∃ H, w.heap.size = H := ⟨_, rfl⟩
  have hB := h.lt
  have h1 := h.alloc (.cells ev0 44)
  have hC := Cells.new w ev0 44
  have c2 := h1.k1545
  rw [hk] at c2
  rw [hH] at hC hB ⊢
  have hbel : Below H w (w.alloc (.cells ev0 44)) := by rw [← hH]; exact (Below.refl _ w).alloc (Nat.le_refl _) _
  obtain ⟨w1, hw1⟩ : ∃ w1, w.alloc (.cells ev0 44) = w1 := ⟨_, rfl⟩
  rw [hw1] at hC c2 hbel
  have d0 : w1.cell? ⟨H, 0, none⟩ = some (.int .i64 0) := by rw [hC.cell]; rfl
  have d1 : w1.cell? ⟨H, 1, none⟩ = some (.int .u8 0) := by rw [hC.cell]; rfl
  have d2 : w1.cell? ⟨H, 2, none⟩ = some (.int .i64 0) := by rw [hC.cell]; rfl
  have d3 : w1.cell? ⟨H, 3, none⟩ = some (.int .i64 0) := by rw [hC.cell]; rfl
  have d4 : w1.cell? ⟨H, 4, none⟩ = some (.string ⟨#[]⟩) := by rw [hC.cell]; rfl
  have z0 := hC.frozen 0
  have z1 := hC.frozen 1
  have z2 := hC.frozen 2
  have z3 := hC.frozen 3
  have z4 := hC.frozen 4
  have A : Aside (Cells w1 H ev0 44 ∧ Below H w w1) := ⟨hC, hbel⟩
  clear h1 hC hbel h hB hk
  unfold ev0 at hw1
  go_enter Tryz.func14, Tryz.ntmps14
  go_upto_region 1 with fail
  clear hw1
  go_wp2_with fail
  (try simp only [Exit.inBlock, Exit.then])
  have hC2 := set5 A.out.1 (.int .i64 0) (.int .u8 0) (.int .i64 0) (.int .i64 0) (.string ⟨#[]⟩)
  have o2 := only_five H w1 (.int .i64 0) (.int .u8 0) (.int .i64 0) (.int .i64 0) (.string ⟨#[]⟩)
  refine bodyPost_ret (v := .tuple #[.agg ev0, .bool false]) ?_ rfl ?_
  · rw [results_cell_tmp rfl]
    simp [asAddr, Result.andThen, ret36 hC2 rfl, ev0, ev5]
  · exact ⟨rfl, A.out.2.trans (o2.below (Nat.le_refl _))⟩
set_option maxRecDepth 20000 in
set_option maxHeartbeats 1000000 in
theorem next_yes (w : World) (h : Wm w W s v) (hk : v.ek ≠ 0) : Calls Tryz.prog 14 #[.pointer (some ⟨W, 0, none⟩)] w fun e w' => e = .returned (.tuple #[.agg (ev5 v), .bool true]) ∧ Wm w' W s (vnx v) ∧ But W w w' := by
  have hB := h.lt
  obtain ⟨H, hH⟩ : ∃ H, w.heap.size = H := ⟨_, rfl⟩
  obtain ⟨w1, hw1⟩ : ∃ w1, w.alloc (.cells ev0 44) = w1 := ⟨_, rfl⟩
  have kH : Cells w1 H ev0 44 := by rw [← hw1, ← hH]; exact Cells.new w ev0 44
  have b1 : Below w.heap.size w w1 := by rw [← hw1]; exact (Below.refl _ w).alloc (Nat.le_refl _) _
  have m1 := h.below b1 hB
  have c5 := m1.k1545
  have c6 := m1.k1546
  have c7 := m1.k1547
  have c8 := m1.k1548
  have c9 := m1.k1549
  obtain ⟨H2, hH2⟩ : ∃ H2, w1.heap.size = H2 := ⟨_, rfl⟩
  obtain ⟨w2, hw2⟩ : ∃ w2, w1.alloc (.cells (ev5 v) 44) = w2 := ⟨_, rfl⟩
  have kH2 : Cells w2 H2 (ev5 v) 44 := by rw [← hw2, ← hH2]; exact Cells.new w1 _ 44
  have b2 : Below w1.heap.size w1 w2 := by rw [← hw2]; exact (Below.refl _ w1).alloc (Nat.le_refl _) _
  have m2 := m1.below b2 m1.lt
  have kH1 := kH.below b2 kH.lt
  have g5 := m2.k1545
  have g6 := m2.k1546
  have g7 := m2.k1547
  have g8 := m2.k1548
  have g9 := m2.k1549
  have f5 := m2.fz 1545
  have f6 := m2.fz 1546
  have f7 := m2.fz 1547
  have f8 := m2.fz 1548
  have f9 := m2.fz 1549
  obtain ⟨w3, hw3⟩ : ∃ w3, ((((w2.setCell ⟨W, 1545, none⟩ (.int .i64 0)).setCell ⟨W, 1546, none⟩ (.int .u8 0)).setCell ⟨W, 1547, none⟩ (.int .i64 0)).setCell ⟨W, 1548, none⟩ (.int .i64 0)).setCell ⟨W, 1549, none⟩ (.string ⟨#[]⟩) = w3 := ⟨_, rfl⟩
  have m3 : Wm w3 W s { v with ek := 0, eb := 0, en := 0, et := [] } := by rw [← hw3]; exact ((((m2.s1545 0).s1546 0).s1547 0).s1548).s1549 []
  have o3 : Only W w2 w3 := by rw [← hw3]; exact only5 w2 _ _ _ _ _
  have l1 := kH1.lt
  have l2 := kH2.lt
  have hne : H ≠ W := by omega
  have hne2 : H2 ≠ W := by have := b1.size; omega
  have hne3 : H ≠ H2 := by have := kH.lt; omega
  have kA := kH1.only o3 hne
  have kB := kH2.only o3 hne2
  have c10 := m3.k1550
  have f10 := m3.fz 1550
  have c11 := m3.k1545
  have f11 := m3.fz 1545
  have ebase : But W w w3 := ((But.of_below b1).trans (But.of_below b2)).trans (But.of_only o3)
  have AW : Aside (w.alloc (.cells #[.int .i64 0, .int .u8 0, .int .i64 0, .int .i64 0, .string ⟨#[]⟩] 44) = w1 ∧ w1.alloc (.cells #[.int .i64 v.ek, .int .u8 v.eb, .int .i64 v.en, .int .i64 0, .string (st v.et)] 44) = w2 ∧ ((((w2.setCell ⟨W, 1545, none⟩ (.int .i64 0)).setCell ⟨W, 1546, none⟩ (.int .u8 0)).setCell ⟨W, 1547, none⟩ (.int .i64 0)).setCell ⟨W, 1548, none⟩ (.int .i64 0)).setCell ⟨W, 1549, none⟩ (.string ⟨#[]⟩) = w3 ∧ w.heap.size = H ∧ w1.heap.size = H2) := ⟨hw1, hw2, hw3, hH, hH2⟩
  have A : Aside (Wm w3 W s { v with ek := 0, eb := 0, en := 0, et := [] } ∧ Cells w3 H ev0 44 ∧ Cells w3 H2 (ev5 v) 44 ∧ But W w w3 ∧ H ≠ W ∧ H2 ≠ W ∧ H ≠ H2 ∧ w.heap.size ≤ H) := ⟨m3, kA, kB, ebase, hne, hne2, hne3, by omega⟩
  have t1 : (v.ek == 0) = false := by rw [beq_eq_false_iff_ne]; exact hk
  clear h hB hH hw1 kH b1 m1 hH2 hw2 kH2 b2 m2 kH1 hw3 m3 o3 l1 l2 hne hne2 hne3 kA kB ebase hk
  go_enter Tryz.func14, Tryz.ntmps14
  go_upto_region 1 with fail
  rw [AW.out.1, AW.out.2.2.2.1]
  go_upto_region 4 with fail
  rw [AW.out.2.1, AW.out.2.2.2.2]
  clear c5 c6 c7 c8 c9 t1
  go_upto_region 5 with fail
  rw [AW.out.2.2.1]
  clear g5 g6 g7 g8 g9 f5 f6 f7 f8 f9 AW
  obtain ⟨cl, hcl⟩ : ∃ cl, v.cl = cl := ⟨_, rfl⟩
  rw [show ({ v with ek := 0, eb := 0, en := 0, et := [] } : Rv).cl = v.cl from rfl, hcl] at c10
  cases cl
  · have AV : Aside (vnx v = { v with ek := 0, eb := 0, en := 0, et := [] }) := by show vnx v = _; unfold vnx; rw [hcl]; obtain ⟨_, _, _, _, _, _⟩ := v; simp only at hcl; subst hcl; rfl
    clear hcl
    go_upto_region 8 with fail
    obtain ⟨w5, hw5⟩ : ∃ w5, w3 = w5 := ⟨_, rfl⟩
    have m5 : Wm w5 W s (vnx v) := by rw [← hw5, AV.out]; exact A.out.1
    have kA : Cells w5 H ev0 44 := by rw [← hw5]; exact A.out.2.1
    have kB : Cells w5 H2 (ev5 v) 44 := by rw [← hw5]; exact A.out.2.2.1
    have q5 : But W w w5 := by rw [← hw5]; exact A.out.2.2.2.1
    rw [hw5]
    clear hw5 c10 f10 c11 f11
    have d0 : w5.cell? ⟨H, 0, none⟩ = some (.int .i64 0) := by rw [kA.cell]; rfl
    have d1 : w5.cell? ⟨H, 1, none⟩ = some (.int .u8 0) := by rw [kA.cell]; rfl
    have d2 : w5.cell? ⟨H, 2, none⟩ = some (.int .i64 0) := by rw [kA.cell]; rfl
    have d3 : w5.cell? ⟨H, 3, none⟩ = some (.int .i64 0) := by rw [kA.cell]; rfl
    have d4 : w5.cell? ⟨H, 4, none⟩ = some (.string ⟨#[]⟩) := by rw [kA.cell]; rfl
    have z0 := kA.frozen 0
    have z1 := kA.frozen 1
    have z2 := kA.frozen 2
    have z3 := kA.frozen 3
    have z4 := kA.frozen 4
    have y0 : w5.cell? ⟨H2, 0, none⟩ = some (.int .i64 v.ek) := by rw [kB.cell]; rfl
    have y1 : w5.cell? ⟨H2, 1, none⟩ = some (.int .u8 v.eb) := by rw [kB.cell]; rfl
    have y2 : w5.cell? ⟨H2, 2, none⟩ = some (.int .i64 v.en) := by rw [kB.cell]; rfl
    have y3 : w5.cell? ⟨H2, 3, none⟩ = some (.int .i64 0) := by rw [kB.cell]; rfl
    have y4 : w5.cell? ⟨H2, 4, none⟩ = some (.string (st v.et)) := by rw [kB.cell]; rfl
    have A5 : Aside (Cells w5 H ev0 44 ∧ Wm w5 W s (vnx v) ∧ But W w w5) := ⟨kA, m5, q5⟩
    clear kA kB m5 q5
    go_wp2_with fail
    (try simp only [Exit.inBlock, Exit.then])
    have hC2 := set5 A5.out.1 (.int .i64 v.ek) (.int .u8 v.eb) (.int .i64 v.en) (.int .i64 0) (.string (st v.et))
    have o2 := only_five H w5 (.int .i64 v.ek) (.int .u8 v.eb) (.int .i64 v.en) (.int .i64 0) (.string (st v.et))
    refine bodyPost_ret (v := .tuple #[.agg (ev5 v), .bool true]) ?_ rfl ?_
    · rw [results_cell_tmp rfl]
      simp [asAddr, Result.andThen, ret36 hC2 rfl, ev0, ev5]
    · exact ⟨rfl, A5.out.2.1.keep (o2.block W (Ne.symm A.out.2.2.2.2.1)), A5.out.2.2.new o2 A.out.2.2.2.2.2.2.2⟩
  · have AV : Aside (vnx v = ⟨3, 0, 0, [], false, v.ed⟩) := by show vnx v = _; unfold vnx; rw [hcl]; rfl
    clear hcl
    obtain ⟨w4, hw4⟩ : ∃ w4, w3.setCell ⟨W, 1545, none⟩ (.int .i64 3) = w4 := ⟨_, rfl⟩
    have m4 : Wm w4 W s { v with ek := 3, eb := 0, en := 0, et := [] } := by rw [← hw4]; exact A.out.1.s1545 3
    have o4 : Only W w3 w4 := by rw [← hw4]; exact (Only.refl W w3).setCell _ _
    have c12 := m4.k1550
    have f12 := m4.fz 1550
    obtain ⟨w5, hw5⟩ : ∃ w5, w4.setCell ⟨W, 1550, none⟩ (.bool false) = w5 := ⟨_, rfl⟩
    have m5 : Wm w5 W s (vnx v) := by rw [← hw5, AV.out]; exact m4.s1550 false
    have o5 : Only W w4 w5 := by rw [← hw5]; exact (Only.refl W w4).setCell _ _
    have kA : Cells w5 H ev0 44 := (A.out.2.1.only o4 A.out.2.2.2.2.1).only o5 A.out.2.2.2.2.1
    have kB : Cells w5 H2 (ev5 v) 44 := (A.out.2.2.1.only o4 A.out.2.2.2.2.2.1).only o5 A.out.2.2.2.2.2.1
    have q5 : But W w w5 := (A.out.2.2.2.1.trans (But.of_only o4)).trans (But.of_only o5)
    clear m4 o4 o5
    go_upto_region 7 with fail
    (try rw [hw4])
    clear hw4 c10 f10 c11 f11
    go_upto_region 8 with fail
    (try rw [hw5])
    clear hw5 c12 f12
    have d0 : w5.cell? ⟨H, 0, none⟩ = some (.int .i64 0) := by rw [kA.cell]; rfl
    have d1 : w5.cell? ⟨H, 1, none⟩ = some (.int .u8 0) := by rw [kA.cell]; rfl
    have d2 : w5.cell? ⟨H, 2, none⟩ = some (.int .i64 0) := by rw [kA.cell]; rfl
    have d3 : w5.cell? ⟨H, 3, none⟩ = some (.int .i64 0) := by rw [kA.cell]; rfl
    have d4 : w5.cell? ⟨H, 4, none⟩ = some (.string ⟨#[]⟩) := by rw [kA.cell]; rfl
    have z0 := kA.frozen 0
    have z1 := kA.frozen 1
    have z2 := kA.frozen 2
    have z3 := kA.frozen 3
    have z4 := kA.frozen 4
    have y0 : w5.cell? ⟨H2, 0, none⟩ = some (.int .i64 v.ek) := by rw [kB.cell]; rfl
    have y1 : w5.cell? ⟨H2, 1, none⟩ = some (.int .u8 v.eb) := by rw [kB.cell]; rfl
    have y2 : w5.cell? ⟨H2, 2, none⟩ = some (.int .i64 v.en) := by rw [kB.cell]; rfl
    have y3 : w5.cell? ⟨H2, 3, none⟩ = some (.int .i64 0) := by rw [kB.cell]; rfl
    have y4 : w5.cell? ⟨H2, 4, none⟩ = some (.string (st v.et)) := by rw [kB.cell]; rfl
    have A5 : Aside (Cells w5 H ev0 44 ∧ Wm w5 W s (vnx v) ∧ But W w w5) := ⟨kA, m5, q5⟩
    clear kA kB m5 q5
    go_wp2_with fail
    (try simp only [Exit.inBlock, Exit.then])
    have hC2 := set5 A5.out.1 (.int .i64 v.ek) (.int .u8 v.eb) (.int .i64 v.en) (.int .i64 0) (.string (st v.et))
    have o2 := only_five H w5 (.int .i64 v.ek) (.int .u8 v.eb) (.int .i64 v.en) (.int .i64 0) (.string (st v.et))
    refine bodyPost_ret (v := .tuple #[.agg (ev5 v), .bool true]) ?_ rfl ?_
    · rw [results_cell_tmp rfl]
      simp [asAddr, Result.andThen, ret36 hC2 rfl, ev0, ev5]
    · exact ⟨rfl, A5.out.2.1.keep (o2.block W (Ne.symm A.out.2.2.2.2.1)), A5.out.2.2.new o2 A.out.2.2.2.2.2.2.2⟩
end
end Go.Proofs.YtcmmjbkgoafbnaaGreatDoor

/-
  What whole, End, New and Reset come to; a walker that is not there.
-/
namespace Go.Proofs.YtcmmjbkgoafbnaaGreatDoor
open Go.RowKit
set_option linter.unusedVariables false
set_option linter.unusedSimpArgs false
/-- May the archive end here? -/
def twhl (s : Ts) : Bool := decide (s.wh = 3) || (decide (s.wh = 0) && decide (s.ps = 0))
/-- What End makes of a state that may take a byte. -/
def tfn (s : Ts) : Ts := if twhl s then s else { s with why := 1 }
section
variable {W : Nat} {s : Ts} {v : Rv}
theorem whole35 (w : World) (h : Wm w W s v) : Calls Tryz.prog 29 #[.pointer (some ⟨W, 0, none⟩)] w fun e w' => e = .returned (.bool (twhl s)) ∧ w' = w := by
  have c1 := h.k0
  have c2 := h.k1
  have e1 : decide (s.wh = 3) = ((s.wh : Int) == 3) := by by_cases q : s.wh = 3 <;> simp [q]; omega
  have e2 : decide (s.wh = 0) = ((s.wh : Int) == 0) := by by_cases q : s.wh = 0 <;> simp [q]
  have e3 : decide (s.ps = 0) = ((s.ps : Int) == 0) := by by_cases q : s.ps = 0 <;> simp [q]
  unfold twhl
  rw [e1, e2, e3]
  generalize (s.wh : Int) = a at *
  generalize (s.ps : Int) = b at *
  generalize hb1 : (a == 3) = b1
  generalize hb2 : (a == 0) = b2
  generalize hb3 : (b == 0) = b3
  clear h e1 e2 e3
  cases b1 <;> cases b2 <;> cases b3
  all_goals
    go_enter Tryz.func29, Tryz.ntmps29
    go_wp2_with fail
    go_ret
    exact ⟨rfl, rfl⟩
theorem end_no (w : World) (h : Wm w W s v) (ho : vop s v = false) : Calls Tryz.prog 15 #[.pointer (some ⟨W, 0, none⟩)] w fun e w' => e = .returned (.tuple #[]) ∧ w' = w := by
  have hop := open_c w h
  rw [ho] at hop
  clear h ho
  go_enter Tryz.func15, Tryz.ntmps15
  go_wp2_with (go_at_call 26; refine hop.mono ?_; rintro e1 w1 ⟨rfl, rfl⟩)
  first | go_end0 | (refine bodyPost_ret (results_none rfl _ _ _) rfl ?_)
  exact ⟨rfl, rfl⟩
theorem end_yes (w : World) (h : Wm w W s v) (ho : vop s v = true) (he : Er w) (hW : 3 ≤ W) : Calls Tryz.prog 15 #[.pointer (some ⟨W, 0, none⟩)] w fun e w' => Wp W (tfn s) { v with ed := true } w e w' := by
  have hop := open_c w h
  rw [ho] at hop
  have c1 := h.k1551
  have f1 := h.fz 1551
  have m1 := h.s1551 true
  obtain ⟨w1, hw1⟩ : ∃ w1, w.setCell ⟨W, 1551, none⟩ (.bool true) = w1 := ⟨_, rfl⟩
  rw [hw1] at m1
  have q1 : But W w w1 := by rw [← hw1]; exact But.of_only ((Only.refl W w).setCell 1551 _)
  have hwh := whole35 w1 m1
  have c2 := m1.k1552
  have f2 := m1.fz 1552
  have AW : Aside (w.setCell ⟨W, 1551, none⟩ (.bool true) = w1) := hw1
  have A : Aside (Wm w1 W s { v with ed := true } ∧ But W w w1 ∧ Er w1 ∧ 3 ≤ W) := ⟨m1, q1, he.but q1 hW, hW⟩
  clear h ho he hW m1 q1 hw1
  cases hb : twhl s with
  | true =>
    rw [hb] at hwh
    have AT : Aside (tfn s = s) := by show tfn s = s; unfold tfn; rw [if_pos hb]
    clear hb
    go_enter Tryz.func15, Tryz.ntmps15
    go_upto_region 2 with (go_at_call 26; refine hop.mono ?_; rintro e1 w ⟨rfl, rfl⟩)
    rw [AW.out]
    clear hop c1 f1
    go_wp2_with (go_at_call 29; refine hwh.mono ?_; rintro e1 w1 ⟨rfl, rfl⟩)
    first | go_end0 | (refine bodyPost_ret (results_none rfl _ _ _) rfl ?_)
    rw [AT.out]
    exact ⟨rfl, A.out.1, A.out.2.1, A.out.2.2.1⟩
  | false =>
    rw [hb] at hwh
    have AT : Aside (tfn s = { s with why := 1 }) := by show tfn s = _; unfold tfn; rw [if_neg (by rw [hb]; decide)]
    clear hb
    go_enter Tryz.func15, Tryz.ntmps15
    go_upto_region 2 with (go_at_call 26; refine hop.mono ?_; rintro e1 w ⟨rfl, rfl⟩)
    rw [AW.out]
    clear hop c1 f1
    go_wp2_with (go_at_call 29; refine hwh.mono ?_; rintro e1 w1 ⟨rfl, rfl⟩)
    first | go_end0 | (refine bodyPost_ret (results_none rfl _ _ _) rfl ?_)
    rw [AT.out]
    have a0 := A.out
    have o : Only W w1 (w1.setCell ⟨W, 1552, none⟩ (.int .i64 1)) := (Only.refl W w1).setCell 1552 _
    exact ⟨rfl, a0.1.s1552 1, a0.2.1.trans (But.of_only o), a0.2.2.1.but (But.of_only o) a0.2.2.2⟩
end
def v0 : Rv := ⟨0, 0, 0, [], false, false⟩
/-- The cells of a new walker. -/
def nf (i : Nat) : Value := if i = 0 then .int .i64 0 else if i = 1 then .int .i64 0 else if i < 514 then .int .u8 0 else if i = 514 then .int .i64 0 else if i = 515 then .int .u64 0 else if i < 1540 then .int .u8 0 else if i = 1540 then .int .i64 0 else if i = 1541 then .string ⟨#[]⟩ else if i = 1542 then .bool false else if i = 1543 then .int .u64 0 else if i = 1544 then .bool false else if i = 1545 then .int .i64 0 else if i = 1546 then .int .u8 0 else if i = 1547 then .int .i64 0 else if i = 1548 then .int .i64 0 else if i = 1549 then .string ⟨#[]⟩ else if i = 1550 then .bool false else if i = 1551 then .bool false else .int .i64 0
set_option maxRecDepth 100000 in
theorem nf_cells : Tryz.zeroCells67 = cz nf := by kernel_rfl
theorem nf_wf : Wf nf t0 v0 := by
  refine ⟨rfl, rfl, rfl, rfl, rfl, rfl, rfl, rfl, rfl, rfl, rfl, rfl, rfl, rfl, rfl, rfl, rfl, fun j x hx => ?_, fun j x hx => ?_, tok0⟩
  · have h1 : j < 512 := by have := (List.getElem?_eq_some_iff.1 hx).1; rw [show t0.B.length = 512 from List.length_replicate] at this; exact this
    have h2 : x = 0 := by have := List.mem_of_getElem? hx; exact (List.mem_replicate.1 this).2
    rw [h2]
    unfold nf
    rw [if_neg (by omega), if_neg (by omega), if_pos (by omega)]
    rfl
  · have h1 : j < 1024 := by have := (List.getElem?_eq_some_iff.1 hx).1; rw [show t0.K.length = 1024 from List.length_replicate] at this; exact this
    have h2 : x = 0 := by have := List.mem_of_getElem? hx; exact (List.mem_replicate.1 this).2
    rw [h2]
    unfold nf
    rw [if_neg (by omega), if_neg (by omega), if_neg (by omega), if_neg (by omega), if_neg (by omega), if_pos (by omega)]
    rfl
theorem new_c (w : World) : Calls Tryz.prog 12 #[] w fun e w' => e = .returned (.pointer (some ⟨w.heap.size, 0, none⟩)) ∧ Wm w' w.heap.size t0 v0 ∧ Below w.heap.size w w' := by
  have hz := nf_cells
  go_enter Tryz.func12, Tryz.ntmps12
  go_wp2_with fail
  go_ret
  exact ⟨rfl, ⟨nf, Cells.new w _ 67, nf_wf⟩, (Below.refl _ w).alloc (Nat.le_refl _) _⟩
theorem nil_put (x : Nat) (w : World) : Calls Tryz.prog 13 #[.pointer none, .int .u8 (x : Int)] w fun e w' => e = .returned (.bool false) ∧ w' = w := by
  have ho : Calls Tryz.prog 26 #[.pointer none] w fun e w' => e = .returned (.bool false) ∧ w' = w := by
    go_enter Tryz.func26, Tryz.ntmps26
    go_wp2_with fail
    go_ret
    exact ⟨rfl, rfl⟩
  go_enter Tryz.func13, Tryz.ntmps13
  go_wp2_with (go_at_call 26; refine ho.mono ?_; rintro e1 w1 ⟨rfl, rfl⟩)
  go_ret
  exact ⟨rfl, rfl⟩
end Go.Proofs.YtcmmjbkgoafbnaaGreatDoor

/-
  Reset: the walker as a new one; a walker that is not there.
-/
namespace Go.Proofs.YtcmmjbkgoafbnaaGreatDoor
open Go.RowKit
set_option linter.unusedVariables false
set_option linter.unusedSimpArgs false
section
variable {P : Program}
/-- A row was stored into the inflater's block, from place off on. -/
structure Mid (D off : Nat) (f f' : Nat → Value) (vs : List Value) (w w' : World) : Prop where
  cells : Cells w' D (cz f') 67
  only : Only D w w'
  new : ∀ (j : Nat) (v : Value), vs[j]? = some v → f' (off + j) = v
  old : ∀ j, j < off ∨ off + vs.length ≤ j → f' j = f j
theorem store_mid (D off : Nat) : ∀ (vs : List Value) (i : Nat) (f : Nat → Value) (w : World), Cells w D (cz f) 67 → off + i + vs.length ≤ 1553 → (∀ v ∈ vs, v.oneCell' = true) →
    ∃ w' f', (storeCells ⟨D, off, none⟩ vs i).run P w = .ok () w' ∧ Mid D (off + i) f f' vs w w'
  | [], i, f, w, hc, hl, h1 => ⟨w, f, rfl, hc, Only.refl _ _, fun j v h => by simp at h, fun _ _ => rfl⟩
  | v :: rest, i, f, w, hc, hl, h1 => by
    rw [List.length_cons] at hl
    have hadd : (⟨D, off, none⟩ : Addr).add i = ⟨D, off + i, none⟩ := by unfold Addr.add; split <;> simp_all
    have hcell : w.cell? ⟨D, off + i, none⟩ = some (f (off + i)) := (hc.cell _).trans (cz_at f (by omega))
    have hfro := hc.frozen (off + i)
    have hst : (store ((⟨D, off, none⟩ : Addr).add i) v).run P w = .ok () (w.setCell ⟨D, off + i, none⟩ v) := by
      rw [hadd, run_store P w _ v _ (h1 v (by simp)), hcell]
      simp [hfro]
    have hc2 : Cells (w.setCell ⟨D, off + i, none⟩ v) D (cz (upd f (off + i) v)) 67 := by
      have := hc.set (off + i) v
      rwa [cz_set] at this
    obtain ⟨w', f', h2, h3⟩ := store_mid D off rest (i + 1) (upd f (off + i) v) _ hc2 (by omega) (fun x hx => h1 x (by simp [hx]))
    refine ⟨w', f', ?_, h3.cells, ((Only.refl D w).setCell _ _).trans h3.only, ?_, ?_⟩
    · simp only [storeCells, Sem.run_bind, hst, Result.andThen_ok, h2]
    · intro j x hj
      cases j with
      | zero =>
        rw [List.getElem?_cons_zero] at hj
        cases hj
        rw [Nat.add_zero, h3.old _ (Or.inl (by omega)), upd_same]
      | succ j =>
        rw [List.getElem?_cons_succ] at hj
        have := h3.new j x hj
        rw [show off + i + (j + 1) = off + (i + 1) + j by omega]
        exact this
    · intro j hj
      rw [List.length_cons] at hj
      rw [h3.old j (by omega), upd_ne _ _ (by omega)]
theorem wpList_store_mid {ops : Array Oper} {rest : List Oper} {o : Oper} {a : Act} {w : World} {Q : Exit → Act → World → Prop} (hgd : o.guard = none) (ty : TypeId) (x y : Operand) (ho : o.op = .store ty x y)
    (D off : Nat) (cells : Array Value) (hx : a.eval x = .pointer (some ⟨D, off, none⟩)) (hy : a.eval y = .agg cells) (f : Nat → Value) (hg : Cells w D (cz f) 67) (hi : (P.info? ty).map (·.size) = some cells.size)
    (hle : off + cells.size ≤ 1553) (h1 : cells.all (·.oneCell') = true)
    (h : ∀ w' f', Mid D off f f' cells.toList w w' → wpList P ops Q rest (a.put o.dst undef) w') : wpList P ops Q (o :: rest) a w := by
  refine wpList_plain hgd fun K hK => ?_
  obtain ⟨w', f', h2, h3⟩ := store_mid (P := P) D off cells.toList 0 f w hg (by simp; omega) (fun v hv => (Array.all_eq_true_iff_forall_mem.1 h1) v (by simpa using hv))
  have hv : (storeVar ty ⟨D, off, none⟩ (.agg cells)).run P w = .ok () w' := by
    cases hq : P.info? ty with
    | none => simp [hq] at hi
    | some i =>
      have hs : cells.size = i.size := by simp [hq] at hi; omega
      simp [storeVar, sizeOf, typeInfo, hq, Value.cells, hs, h2]
  unfold Oper.wp execOp
  simp only [ho, hx, hy, Instr.storeAt, Instr.sureAddr, Sem.run_bind, Sem.run_pure, Result.andThen_ok, hv]
  exact hK _ _ (h w' f' h3)
end
theorem ite_one {p : Prop} [Decidable p] {a b : Value} (ha : a.oneCell' = true) (hb : b.oneCell' = true) : (if p then a else b).oneCell' = true := by
  split
  · exact ha
  · exact hb
theorem nf_cell (i : Nat) : (nf i).oneCell' = true := by
  unfold nf
  repeat (refine ite_one rfl ?_)
  rfl
theorem czn_one (n : Nat) (f : Nat → Value) (h : ∀ i, (f i).oneCell' = true) : (czn n f).all (·.oneCell') = true := by
  rw [Array.all_eq_true_iff_forall_mem]
  intro x hx
  simp only [czn, List.mem_toArray, List.mem_map] at hx
  obtain ⟨i, _, rfl⟩ := hx
  exact h i
theorem nf_one : (cz nf).all (·.oneCell') = true := czn_one 1553 nf nf_cell
theorem size64 : (Tryz.prog.info? 67).map (·.size) = some 1553 := by kernel_rfl
section
variable {W : Nat} {s : Ts} {v : Rv}
end
theorem nil_end (w : World) : Calls Tryz.prog 15 #[.pointer none] w fun e w' => e = .returned (.tuple #[]) ∧ w' = w := by
  have ho : Calls Tryz.prog 26 #[.pointer none] w fun e w' => e = .returned (.bool false) ∧ w' = w := by
    go_enter Tryz.func26, Tryz.ntmps26
    go_wp2_with fail
    go_ret
    exact ⟨rfl, rfl⟩
  go_enter Tryz.func15, Tryz.ntmps15
  go_wp2_with (go_at_call 26; refine ho.mono ?_; rintro e1 w1 ⟨rfl, rfl⟩)
  first | go_end0 | (refine bodyPost_ret (results_none rfl _ _ _) rfl ?_)
  exact ⟨rfl, rfl⟩
theorem nil_reason (w : World) : Calls Tryz.prog 16 #[.pointer none] w fun e w' => e = .returned (.int .i64 0) ∧ w' = w := by
  go_enter Tryz.func16, Tryz.ntmps16
  go_wp2_with fail
  go_ret
  exact ⟨rfl, rfl⟩
set_option maxRecDepth 20000 in
theorem nil_next (w : World) : Calls Tryz.prog 14 #[.pointer none] w fun e w' => e = .returned (.tuple #[.agg ev0, .bool false]) ∧ Below w.heap.size w w' := by
  obtain ⟨H, hH⟩ : ∃ H, w.heap.size = H := ⟨_, rfl⟩
  have hC := Cells.new w ev0 44
  rw [hH] at hC ⊢
  have hbel : Below H w (w.alloc (.cells ev0 44)) := by rw [← hH]; exact (Below.refl _ w).alloc (Nat.le_refl _) _
  obtain ⟨w1, hw1⟩ : ∃ w1, w.alloc (.cells ev0 44) = w1 := ⟨_, rfl⟩
  rw [hw1] at hC hbel
  have d0 : w1.cell? ⟨H, 0, none⟩ = some (.int .i64 0) := by rw [hC.cell]; rfl
  have d1 : w1.cell? ⟨H, 1, none⟩ = some (.int .u8 0) := by rw [hC.cell]; rfl
  have d2 : w1.cell? ⟨H, 2, none⟩ = some (.int .i64 0) := by rw [hC.cell]; rfl
  have d3 : w1.cell? ⟨H, 3, none⟩ = some (.int .i64 0) := by rw [hC.cell]; rfl
  have d4 : w1.cell? ⟨H, 4, none⟩ = some (.string ⟨#[]⟩) := by rw [hC.cell]; rfl
  have z0 := hC.frozen 0
  have z1 := hC.frozen 1
  have z2 := hC.frozen 2
  have z3 := hC.frozen 3
  have z4 := hC.frozen 4
  have A : Aside (Cells w1 H ev0 44 ∧ Below H w w1) := ⟨hC, hbel⟩
  clear hC hbel
  unfold ev0 at hw1
  go_enter Tryz.func14, Tryz.ntmps14
  go_upto_region 1 with fail
  clear hw1
  go_wp2_with fail
  (try simp only [Exit.inBlock, Exit.then])
  have hC2 := set5 A.out.1 (.int .i64 0) (.int .u8 0) (.int .i64 0) (.int .i64 0) (.string ⟨#[]⟩)
  have o2 := only_five H w1 (.int .i64 0) (.int .u8 0) (.int .i64 0) (.int .i64 0) (.string ⟨#[]⟩)
  refine bodyPost_ret (v := .tuple #[.agg ev0, .bool false]) ?_ rfl ?_
  · rw [results_cell_tmp rfl]
    simp [asAddr, Result.andThen, ret36 hC2 rfl, ev0, ev5]
  · exact ⟨rfl, A.out.2.trans (o2.below (Nat.le_refl _))⟩
end Go.Proofs.YtcmmjbkgoafbnaaGreatDoor

/-
  The walker with what is pending: what Put, Next, End and Reason come to.
-/
namespace Go.Proofs.YtcmmjbkgoafbnaaGreatDoor
open Go.RowKit
set_option linter.unusedVariables false
set_option linter.unusedSimpArgs false
def gk1 (g : Nat) : Int := if g = 256 then 1 else if g = 257 then 3 else 2
def gk2 (g : Nat) : Int := if g < 256 then (g : Int) else 0
def gk3 (g : Nat) : Int := if g = 256 then 2 else 0
def gevv (g : Nat) (nm : List Nat) : Array Value := #[.int .i64 (gk1 g), .int .u8 (gk2 g), .int .i64 (gk3 g), .int .i64 0, .string (st nm)]
/-- What is pending, as it lies. -/
def rv : List Evn → Rv
  | [] => v0
  | e :: r => ⟨gk1 e.1, gk2 e.1, gk3 e.1, e.2, !r.isEmpty, false⟩
theorem gk1_ne (g : Nat) : gk1 g ≠ 0 := by unfold gk1; split <;> (try split) <;> decide
theorem rv_next {e : Evn} {E : List Evn} (h : Tfo (e :: E)) : vnx (rv (e :: E)) = rv E := by
  rcases (tfo_next h).2.2.2 with rfl | rfl
  · rfl
  · rfl
theorem vbeg_no {us z : Nat} {v : Rv} (h : us ≠ 1) : vbeg us z v = v := by
  unfold vbeg vcl
  rw [if_neg h]
  split <;> rfl
theorem vopn_rv (n : List Nat) (z : Nat) (s : Ts) : vbeg 1 z (vopn n v0) = rv ((256, n) :: (tbeg 1 z s).2) := by
  unfold vbeg tbeg
  split
  · rfl
  · rfl
theorem vhd_rv (s : Ts) : vhd s v0 = rv (thead s).2 := by
  unfold vhd thead
  split
  · rfl
  · split
    · rfl
    · split
      · rename_i h; rw [h]; rfl
      · rename_i z h
        rw [h]
        simp only
        split
        · rfl
        · by_cases ho : town (tkd s.B) = true
          · rw [if_pos ho]
            unfold vent topn tsz
            rw [if_pos ho]
            have hu : tus (tkd s.B) = if tisf (tkd s.B) then 1 else 0 := by
              unfold town at ho
              simp only [Bool.and_eq_true, bne_iff_ne, ne_eq] at ho
              unfold tus
              rw [if_neg ho.1.1.1, if_neg ho.1.1.2]
            rw [hu]
            by_cases hf : tisf (tkd s.B) = true
            · rw [if_pos hf, if_pos hf, if_pos hf]
              exact vopn_rv _ _ _
            · rw [if_neg hf, if_neg hf, if_neg hf, vbeg_no (by decide)]
              show v0 = rv ([] ++ _)
              rw [tbeg_ev (by decide)]; rfl
          · rw [if_neg ho]
            have hc : tkd s.B = 76 ∨ tkd s.B = 120 ∨ tkd s.B = 75 ∨ tkd s.B = 103 := by
              unfold town at ho
              by_cases q1 : tkd s.B = 76
              · exact Or.inl q1
              · by_cases q2 : tkd s.B = 120
                · exact Or.inr (Or.inl q2)
                · by_cases q3 : tkd s.B = 75
                  · exact Or.inr (Or.inr (Or.inl q3))
                  · by_cases q4 : tkd s.B = 103
                    · exact Or.inr (Or.inr (Or.inr q4))
                    · simp [q1, q2, q3, q4] at ho
            have hu : tus (tkd s.B) ≠ 1 := by rcases hc with e | e | e | e <;> rw [e] <;> decide
            have hf : tisf (tkd s.B) = false := by rcases hc with e | e | e | e <;> rw [e] <;> rfl
            rw [vbeg_no hu]
            unfold topn
            show v0 = rv ((if tisf (tkd s.B) = true then [(256, s.nm.getD (tnm s.B))] else []) ++ (tbeg (tus (tkd s.B)) _ _).2)
            rw [if_neg (by rw [hf]; decide), tbeg_ev hu]; rfl
theorem vdt_rv (x : Nat) (s : Ts) (hx : x < 256) : vdt x s v0 = rv (tdat x s).2 := by
  have h1 : vbyt x v0 = rv [(x, [])] := by
    unfold rv vbyt gk1 gk2 gk3
    simp only
    rw [if_neg (by omega), if_neg (by omega), if_pos hx, if_neg (by omega)]; rfl
  have h2 : ({ vbyt x v0 with cl := true } : Rv) = rv [(x, []), (257, [])] := by rw [h1]; rfl
  unfold vdt tdat tbt tcl vcl
  by_cases hl : s.lf = 1
  · rw [if_pos hl, if_pos hl]
    by_cases hu : s.us = 1
    · rw [if_pos hu, if_pos hu]; simp only [if_pos hu]; exact h2
    · rw [if_neg hu, if_neg hu]; simp only [if_neg hu]; rfl
  · rw [if_neg hl, if_neg hl]
    by_cases hu : s.us = 1
    · rw [if_pos hu]; simp only [if_pos hu]; exact h1
    · rw [if_neg hu]; simp only [if_neg hu]; rfl
theorem vpu_rv (s : Ts) (x : Nat) (hx : x < 256) : vpu s x v0 = rv (tput s x).2 := by
  unfold vpu tput
  split
  · split
    · exact vhd_rv _
    · rfl
  · split
    · exact vdt_rv x _ hx
    · rfl
/-- The walker between calls: E is pending. -/
structure Wz (w : World) (W : Nat) (s : Ts) (E : List Evn) : Prop where
  wm : Wm w W s (rv E)
  ok : Tod s
  er : Er w
  hW : 3 ≤ W
  fo : Tfo E
/-- The walker when it has ended. -/
structure We (w : World) (W : Nat) (s : Ts) : Prop where
  wm : Wm w W s { v0 with ed := true }
/-- What is told in the end. -/
def zfin (s : Ts) : Nat := if s.why ≠ 0 then s.why else if twhl s then 0 else 1
section
variable {w u : World} {W : Nat} {s s1 : Ts} {E : List Evn}
theorem Wz.lt (h : Wz w W s E) : W < w.heap.size := h.wm.lt
theorem Wz.below (h : Wz w W s E) {C : Nat} (k : Below C w u) (hC : w.heap.size ≤ C) : Wz u W s E := ⟨h.wm.below k (by have := h.lt; omega), h.ok, h.er.below k (by have := h.er.1; omega), h.hW, h.fo⟩
theorem Wz.drewN (h : Wz w W s E) (n : Nat) : Wz (w.drewN n) W s E := ⟨h.wm.drewN n, h.ok, h.er.drewN n, h.hW, h.fo⟩
/-- Where what may have turned is another block. -/
theorem Wz.keep (h : Wz w W s E) (hs : w.heap.size ≤ u.heap.size) (k : ∀ i, i < 3 ∨ i = W → u.heap[i]? = w.heap[i]?) : Wz u W s E := by
  refine ⟨h.wm.keep (k W (Or.inr rfl)), h.ok, ?_, h.hW, h.fo⟩
  obtain ⟨h0, t1, x1, t2, x2, h1, h2⟩ := h.er
  exact ⟨Nat.le_trans h0 hs, t1, x1, t2, x2, by rw [World.cell?_of_block (w := w) (k 1 (by show 1 < 3 ∨ _; omega))]; exact h1, by rw [World.cell?_of_block (w := w) (k 2 (by show 2 < 3 ∨ _; omega))]; exact h2⟩
theorem Wz.low (h : Wz w W s E) {C : Nat} (k : Below C w u) (hC : W < C) : Wz u W s E := h.keep k.size fun i hi => k.block i (by have := h.hW; omega)
theorem wz_put (x : Nat) (hx : x < 256) (w : World) (h : Wz w W s []) (h0 : s.why = 0) (hs : Sp s x s1 E) : Calls Tryz.prog 13 #[.pointer (some ⟨W, 0, none⟩), .int .u8 (x : Int)] w fun e w' => e = .returned (.bool true) ∧ Wz w' W s1 E ∧ But W w w' := by
  have := put_yes x w h.wm h.ok (by unfold vop; rw [h0]; rfl) h0 h.er h.hW hx
  refine this.mono fun e w' k => ⟨k.re, ⟨?_, ?_, k.er, h.hW, ?_⟩, k.bu⟩
  · rw [hs.1, hs.2, ← vpu_rv s x hx]; exact k.wm
  · rw [hs.1]; exact h.ok.put hx
  · rw [hs.2]; exact tput_form s x hx
theorem wz_put_no (x : Nat) (w : World) (h : Wz w W s E) (h0 : E ≠ [] ∨ s.why ≠ 0) : Calls Tryz.prog 13 #[.pointer (some ⟨W, 0, none⟩), .int .u8 (x : Int)] w fun e w' => e = .returned (.bool false) ∧ w = w' := by
  refine (put_no x w h.wm ?_).mono fun e w' k => ⟨k.1, k.2.symm⟩
  unfold vop
  rcases h0 with h0 | h0
  · cases E with
    | nil => exact absurd rfl h0
    | cons e r => rw [decide_eq_false (show ¬ (rv (e :: r)).ek = 0 from gk1_ne e.1)]; rfl
  · rw [decide_eq_false h0]; simp
theorem wz_next (e : Evn) (w : World) (h : Wz w W s (e :: E)) : Calls Tryz.prog 14 #[.pointer (some ⟨W, 0, none⟩)] w fun x w' => x = .returned (.tuple #[.agg (gevv e.1 e.2), .bool true]) ∧ Wz w' W s E ∧ But W w w' := by
  refine (next_yes w h.wm (gk1_ne e.1)).mono fun x w' k => ⟨k.1, ⟨?_, h.ok, h.er.but k.2.2 h.hW, h.hW, (tfo_next h.fo).1⟩, k.2.2⟩
  rw [← rv_next h.fo]; exact k.2.1
theorem wz_next_no (w : World) (h : Wz w W s []) : Calls Tryz.prog 14 #[.pointer (some ⟨W, 0, none⟩)] w fun x w' => x = .returned (.tuple #[.agg ev0, .bool false]) ∧ Wz w' W s [] ∧ Below w.heap.size w w' :=
  (next_no w h.wm rfl).mono fun x w' k => ⟨k.1, h.below k.2 (Nat.le_refl _), k.2⟩
theorem wz_reason (w : World) (h : Wz w W s E) : Calls Tryz.prog 16 #[.pointer (some ⟨W, 0, none⟩)] w fun e w' => e = .returned (.int .i64 (s.why : Int)) ∧ w = w' := reason_c w h.wm
theorem wz_end (w : World) (h : Wz w W s []) : Calls Tryz.prog 15 #[.pointer (some ⟨W, 0, none⟩)] w fun e w' => e = .returned (.tuple #[]) ∧ (∃ s2 v2, Wm w' W s2 v2 ∧ s2.why = zfin s ∧ v2.ek = 0 ∧ vop s2 v2 = false) ∧ But W w w' := by
  by_cases h0 : s.why = 0
  · refine (end_yes w h.wm (by unfold vop; rw [h0]; rfl) h.er h.hW).mono fun e w' k => ⟨k.re, ⟨_, _, k.wm, ?_, rfl, ?_⟩, k.bu⟩
    · have hz : zfin s = if twhl s then 0 else 1 := by unfold zfin; rw [if_neg (fun q => q h0)]
      rw [hz]
      unfold tfn
      split
      · exact h0
      · rfl
    · unfold vop; simp
  · refine (end_no w h.wm (by unfold vop; rw [decide_eq_false h0]; simp)).mono fun e w' k => ⟨k.1, ⟨s, rv [], ?_, ?_, rfl, ?_⟩, ?_⟩
    · rw [k.2]; exact h.wm
    · unfold zfin; rw [if_pos h0]
    · unfold vop; rw [decide_eq_false h0]; simp
    · rw [k.2]; exact But.refl _ _
theorem wz_new (w : World) (he : Er w) : Calls Tryz.prog 12 #[] w fun e w' => e = .returned (.pointer (some ⟨w.heap.size, 0, none⟩)) ∧ Wz w' w.heap.size t0 [] ∧ Below w.heap.size w w' :=
  (new_c w).mono fun e w' k => ⟨k.1, ⟨k.2.1, tod0, he.below k.2.2 he.1, he.1, tfo_nil⟩, k.2.2⟩
end
end Go.Proofs.YtcmmjbkgoafbnaaGreatDoor

/-
  Lists of lists of bytes, of the call's own: the members as they are gathered.
-/
namespace Go.Proofs.YtcmmjbkgoafbnaaGreatDoor
open Go.RowKit
set_option linter.unusedVariables false
theorem ginfo22 : (Tryz.prog.info? 22).map (fun i => (i.zero, i.size, i.bytes)) = some (some (.slice none 0 0), 1, 24) := by kernel_rfl
/-- Parts out of signs. -/
def po : List (List Nat) → List Nat → List (List Nat)
  | ls, [] => ls
  | ls, g :: r => if g = 256 then po (ls ++ [[]]) r else if g = 257 then po ls r else po (ls.dropLast ++ [ls.getLastD [] ++ [g]]) r
/-- Bytes come behind an open part alone. -/
def Gd : Bool → List Nat → Prop
  | _, [] => True
  | i, g :: r => if g = 256 then Gd true r else if g = 257 then Gd i r else i = true ∧ Gd i r
theorem po_append (ls : List (List Nat)) (a b : List Nat) : po ls (a ++ b) = po (po ls a) b := by
  induction a generalizing ls with
  | nil => rfl
  | cons g r ih =>
    simp only [List.cons_append, po]
    split
    · exact ih _
    · split
      · exact ih _
      · exact ih _
/-- A list of lists of bytes, of the call's own, in blocks from lo on; the last one's block is no other one's. -/
structure Ll (w : World) (lo : Nat) (v : Value) (ls : List (List Nat)) : Prop where
  ex : ∃ vs : List Value, vs.length = ls.length ∧ Ow w lo 22 1 v ls.length vs ∧ (∀ (i : Nat) (a : Value) (l : List Nat), vs[i]? = some a → ls[i]? = some l → Ow w lo 5 1 a l.length (ob l)) ∧ ∀ (i : Nat) (a z : Value), vs[i]? = some a → i + 1 < vs.length → vs.getLast? = some z → ∀ g, a.ownBlock = some g → z.ownBlock ≠ some g
theorem Ll.nil {w : World} {lo : Nat} (h : lo ≤ w.heap.size) : Ll w lo (.slice none 0 0) [] := ⟨[], rfl, Ow.nil h, fun i a l h => by simp at h, fun i a z h => by simp at h⟩
theorem Ll.keep {w u : World} {lo : Nat} {v : Value} {ls : List (List Nat)} (h : Ll w lo v ls) (hs : w.heap.size ≤ u.heap.size) (k : ∀ g, lo ≤ g → g < w.heap.size → (∃ cs e fr, w.heap[g]? = some (.cells cs e fr) ∧ (e = 5 ∨ e = 22)) → u.heap[g]? = w.heap[g]?) : Ll u lo v ls := by
  obtain ⟨vs, h1, h2, h3, h4⟩ := h.ex
  exact ⟨vs, h1, h2.keep hs (fun g a b ⟨cs, fr, c⟩ => k g a b ⟨cs, 22, fr, c, Or.inr rfl⟩), fun i a l ha hl => (h3 i a l ha hl).keep hs (fun g a b ⟨cs, fr, c⟩ => k g a b ⟨cs, 5, fr, c, Or.inl rfl⟩), h4⟩
theorem Ll.below {w u : World} {lo C : Nat} {v : Value} {ls : List (List Nat)} (h : Ll w lo v ls) (k : Below C w u) (hC : w.heap.size ≤ C) : Ll u lo v ls := h.keep k.size fun g _ h2 _ => k.block g (by omega)
theorem Ll.drewN {w : World} {lo : Nat} {v : Value} {ls : List (List Nat)} (h : Ll w lo v ls) (n : Nat) : Ll (w.drewN n) lo v ls := h.keep (Nat.le_refl _) fun _ _ _ _ => rfl
theorem Ll.but {w u : World} {lo M : Nat} {v : Value} {ls : List (List Nat)} {cs : Array Value} {t : TypeId} (h : Ll w lo v ls) (k : But M w u) (hM : Cells w M cs t) (ht : t ≠ 5 ∧ t ≠ 22) : Ll u lo v ls := h.keep k.size fun g _ h2 ⟨cs', e, fr, hc, he⟩ => k.block g h2 (fun e2 => by
  subst e2
  unfold Cells at hM
  rw [hM] at hc
  cases hc
  rcases he with rfl | rfl
  · exact ht.1 rfl
  · exact ht.2 rfl)
theorem Ll.le {w : World} {lo : Nat} {v : Value} {ls : List (List Nat)} (h : Ll w lo v ls) : lo ≤ w.heap.size := by obtain ⟨vs, _, h2, _⟩ := h.ex; exact h2.le
theorem Ll.shape {w : World} {lo : Nat} {v : Value} {ls : List (List Nat)} (h : Ll w lo v ls) : ∃ a c, v = .slice a ls.length c ∧ ls.length ≤ c := by
  obtain ⟨vs, _, h2, _⟩ := h.ex
  obtain ⟨a, c, hv, hc, _⟩ := h2.shape
  exact ⟨a, c, hv, hc⟩
/-- One more part. -/
theorem Ll.open_ {w u : World} {lo : Nat} {v v' : Value} {ls : List (List Nat)} (h : Ll w lo v ls) (vs : List Value) (k : Got lo 22 1 w u v v' (ls.length + 1) (vs ++ [.slice none 0 0])) (hvs : vs.length = ls.length) (h3 : ∀ (i : Nat) (a : Value) (l : List Nat), vs[i]? = some a → ls[i]? = some l → Ow w lo 5 1 a l.length (ob l)) : Ll u lo v' (ls ++ [[]]) := by
  refine ⟨vs ++ [.slice none 0 0], by simp [hvs], by simpa using k.ow, fun i a l ha hl => ?_, fun i a z ha hi hz g hg => ?_⟩
  · by_cases hlt : i < vs.length
    · rw [List.getElem?_append_left hlt] at ha
      rw [List.getElem?_append_left (by omega)] at hl
      exact (h3 i a l ha hl).got k (by decide)
    · have hi : i = vs.length := by
        have := (List.getElem?_eq_some_iff.1 ha).1
        simp at this
        omega
      subst hi
      rw [List.getElem?_append_right (by omega)] at ha
      rw [List.getElem?_append_right (by omega)] at hl
      simp [hvs] at ha hl
      subst hl
      rw [← ha]
      exact Ow.nil k.ow.le
  · rw [List.getLast?_append] at hz
    simp at hz
    rw [← hz]
    simp [Value.ownBlock]
theorem Ow.keep1 {w u : World} {lo sz n : Nat} {e : TypeId} {v : Value} {l : List Value} (h : Ow w lo e sz v n l) (hs : w.heap.size ≤ u.heap.size) (k : ∀ g, v.ownBlock = some g → u.heap[g]? = w.heap[g]?) : Ow u lo e sz v n l := by
  refine ⟨⟨h.own.1, ?_⟩, Nat.le_trans h.le hs⟩
  rcases h.own.2 with q | ⟨g, c, cur, hv, hg, hh, q⟩
  · exact Or.inl q
  · exact Or.inr ⟨g, c, cur, hv, hg, (k g (by rw [hv]; rfl)).trans hh, q⟩
/-- What an append to the last part's bytes comes to, ahead of its being laid back. -/
structure Gob (lo : Nat) (w w' : World) (a a' : Value) (n : Nat) (l : List Nat) : Prop where
  got : Got lo 5 1 w w' a a' n (ob l)
  blk : ∀ g, a'.ownBlock = some g → a.ownBlock = some g ∨ g = w.heap.size
theorem Ow.set_at {w : World} {lo n i g : Nat} {e : TypeId} {a : Option Addr} {c : Nat} {xs : List Value} (h : Ow w lo e 1 (.slice (some ⟨g, 0, none⟩) n c) n xs) (x : Value) (hi : i < n) (h1 : x.oneCell' = true) : Ow (w.setCell ⟨g, i, none⟩ x) lo e 1 (.slice (some ⟨g, 0, none⟩) n c) n (xs.set i x) := by
  have hl := h.own.1
  refine ⟨⟨by simpa using hl, ?_⟩, by simpa [World.setCell] using h.le⟩
  rcases h.own.2 with ⟨hv, h0⟩ | ⟨g', c', cur, hv, hg, hh, hc, hm, hs, ht⟩
  · cases hv
  · cases hv
    refine Or.inr ⟨g, c, cur.setIfInBounds i x, rfl, hg, ?_, hc, hm, by simpa using hs, ?_⟩
    · simp [World.setCell, Array.getElem?_modify, hh]
    · rw [Array.toList_setIfInBounds, List.take_set, ht]
theorem Ll.byte {w u : World} {lo n g c x : Nat} {ls : List (List Nat)} {l : List Nat} {vs : List Value} {a a' : Value} (h : Ll w lo (.slice (some ⟨g, 0, none⟩) (n + 1) c) ls) (hls : ls.length = n + 1) (hvs : vs.length = n + 1) (hl : ls[n]? = some l)
    (h2 : Ow w lo 22 1 (.slice (some ⟨g, 0, none⟩) (n + 1) c) (n + 1) vs) (h3 : ∀ (i : Nat) (a : Value) (l : List Nat), vs[i]? = some a → ls[i]? = some l → Ow w lo 5 1 a l.length (ob l)) (h4 : ∀ (i : Nat) (a z : Value), vs[i]? = some a → i + 1 < vs.length → vs.getLast? = some z → ∀ g, a.ownBlock = some g → z.ownBlock ≠ some g)
    (ha : vs[n]? = some a) (k : Gob lo w u a a' (l.length + 1) (l ++ [x])) (h1 : a'.oneCell' = true) : Ll (u.setCell ⟨g, n, none⟩ a') lo (.slice (some ⟨g, 0, none⟩) (n + 1) c) (ls.dropLast ++ [l ++ [x]]) := by
  have hlast : vs.getLast? = some a := by rw [List.getLast?_eq_getElem?, hvs, Nat.add_sub_cancel, ha]
  have hu := h2.got k.got (by decide)
  have hset := Ow.set_at (a := none) hu a' (i := n) (by omega) h1
  have kg : ∃ cs, u.heap[g]? = some (.cells cs 22 (0, 0)) := by
    rcases hu.own.2 with ⟨hv, h0⟩ | ⟨g', c', cur, hv, hg, hh, _⟩
    · cases hv
    · cases hv; exact ⟨_, hh⟩
  obtain ⟨cg, hcg⟩ := kg
  have hdl : ls.dropLast.length = n := by simp [hls]
  refine ⟨vs.set n a', by simp [hvs, hls], by simpa [hls] using hset, fun i b m hb hm => ?_, fun i b z hb hi hz gb hgb => ?_⟩
  · by_cases hin : i = n
    · rw [hin, List.getElem?_set_self (by omega)] at hb
      rw [hin, List.getElem?_append_right (by omega), hdl] at hm
      simp at hb hm
      subst hb hm
      have := k.got.ow.set (i := n) (x := a') (b := g) (cs := cg) (t := 22) hcg (by decide)
      simpa using this
    · rw [List.getElem?_set_ne (Ne.symm hin)] at hb
      have hilt : i < n := by have := (List.getElem?_eq_some_iff.1 hb).1; omega
      rw [List.getElem?_append_left (by omega), List.getElem?_dropLast, if_pos (by omega)] at hm
      have ho := h3 i b m hb hm
      refine (ho.keep1 k.got.size (fun gg hgg => ?_)).set (b := g) (cs := cg) (t := 22) hcg (by decide)
      exact k.got.kb gg (ho.lt_block hgg).2 (fun e => h4 i b a hb (by omega) hlast gg hgg e.symm)
  · rw [List.length_set] at hi
    have hin : i ≠ n := by omega
    rw [List.getElem?_set_ne (Ne.symm hin)] at hb
    have hz2 : z = a' := by
      rw [List.getLast?_eq_getElem?, List.length_set, hvs, Nat.add_sub_cancel, List.getElem?_set_self (by omega)] at hz
      simpa using hz.symm
    rw [hz2]
    intro e
    have hilt : i < n := by omega
    obtain ⟨m, hm⟩ : ∃ m, ls[i]? = some m := ⟨_, List.getElem?_eq_getElem (by omega)⟩
    rcases k.blk gb e with h5 | h5
    · exact h4 i b a hb (by omega) hlast gb hgb h5
    · have := ((h3 i b m hb hm).lt_block hgb).2
      omega
theorem step_gob {w : World} {ops : Array Oper} {o : Oper} {a : Act} {K : Act → World → Prop} {Q : Exit → Act → World → Prop} {E : Prop} (hgd : o.guard = none) (s x : Operand)
    (ho : o.op = .call { callee := .builtin .append, args := #[s, x], argTypes := #[22, 22] }) (lo : Nat) (v : Value) (k : Nat) (l : List Nat) (hs : a.eval s = v) (hown : Ow w lo 5 1 v k (ob l)) (hk : l.length = k)
    (b c y : Nat) (hx : a.eval x = .slice (some ⟨b, 0, none⟩) 1 c) (hl : w.cell? ⟨b, 0, none⟩ = some (.int .u8 (y : Int))) (hlen : k + 1 ≤ 140737488355328)
    (h : ∀ g cap w', Gob lo w w' v (.slice (some ⟨g, 0, none⟩) (k + 1) cap) (k + 1) (l ++ [y]) → K (a.put o.dst (.slice (some ⟨g, 0, none⟩) (k + 1) cap)) w') :
    if Region.wanted o (yielded ops a.tmps) = true then Oper.wp Tryz.prog o a w K Q else E := by
  obtain ⟨i, hi, hz0, hz1, hz2⟩ := ginfo_parts ginfo5
  refine step_append_lies w hgd s x 22 ho lo 5 i _ 1 1 Tryz.underlying22 hi hz0 hz1 hz2 rfl (by decide) v _ _ hs hown.own ⟨b, 0, none⟩ 1 c (ob [y]) hx (by rfl) (fun j u hj => ?_) ob_one (by decide) (by unfold maxLen; omega) (by omega) hown.le _ rfl fun g cap w' h2 h3 h4 _ => h g cap w' ⟨?_, ?_⟩
  · cases j with
    | zero => simp [ob] at hj; rw [← hj, addr_add]; exact hl
    | succ j => simp [ob] at hj
  · have := Got.mk' hown h2 h3
    rw [ob_append] at this
    exact this
  · intro g' hg'
    simp [Value.ownBlock] at hg'
    subst hg'
    exact h4
end Go.Proofs.YtcmmjbkgoafbnaaGreatDoor

/-
  What Whole's loops stand at. No walk.
-/
namespace Go.Proofs.YtcmmjbkgoafbnaaGreatDoor
open Go.RowKit
set_option linter.unusedVariables false
/-- What is gathered, what is still to come, and what is answered in the end. -/
structure Ms (ns ls : List (List Nat)) (L : Nat) (fut : List Evn) (R0 : List (List Nat) × List (List Nat)) : Prop where
  res : po2 ns ls fut = R0
  gd : Gd2 (decide (ls ≠ [])) fut
  lt : ∀ e ∈ fut, e.1 < 258
  no : ls.length + nop fut ≤ L
  each : ∀ l ∈ ls, l.length + nbe fut ≤ L
  tot : nbe fut ≤ L
  eqn : ns.length = ls.length
section
variable {ns ls : List (List Nat)} {L : Nat} {e : Evn} {fut : List Evn} {R0 : List (List Nat) × List (List Nat)}
theorem Ms.open_ (h : Ms ns ls L (e :: fut) R0) (he : e.1 = 256) : Ms (ns ++ [e.2]) (ls ++ [[]]) L fut R0 := by
  have h1 := h.res
  rw [po2, if_pos he] at h1
  have hb : nbe (e :: fut) = nbe fut := by simp only [nbe]; rw [if_neg (by omega)]; omega
  refine ⟨h1, ?_, fun c hc => h.lt c (List.mem_cons_of_mem _ hc), ?_, fun l hl => ?_, by have := h.tot; rw [hb] at this; exact this, by simp [h.eqn]⟩
  · have : decide (ls ++ [[]] ≠ []) = true := by simp
    rw [this]; exact gd2_true _
  · have := h.no
    simp only [nop, he, if_true, List.length_append, List.length_singleton] at this ⊢
    omega
  · rcases List.mem_append.1 hl with q | q
    · have := h.each l q; rw [hb] at this; exact this
    · rw [List.mem_singleton.1 q]; have := h.tot; rw [hb] at this; simpa using this
theorem Ms.close (h : Ms ns ls L (e :: fut) R0) (he : e.1 = 257) : Ms ns ls L fut R0 := by
  have h1 := h.res
  rw [po2, if_neg (by omega), if_pos he] at h1
  have hb : nbe (e :: fut) = nbe fut := by simp only [nbe]; rw [if_neg (by omega)]; omega
  have hn : nop (e :: fut) = nop fut := by simp only [nop]; rw [if_neg (by omega)]; omega
  refine ⟨h1, ?_, fun c hc => h.lt c (List.mem_cons_of_mem _ hc), by have := h.no; rw [hn] at this; exact this, fun l hl => by have := h.each l hl; rw [hb] at this; exact this, by have := h.tot; rw [hb] at this; exact this, h.eqn⟩
  have := h.gd
  unfold Gd2 at this
  rw [if_neg (by omega), if_pos he] at this
  exact this
theorem Ms.ne (h : Ms ns ls L (e :: fut) R0) (hg : e.1 < 256) : ls ≠ [] := by
  have := h.gd
  unfold Gd2 at this
  rw [if_neg (by omega), if_neg (by omega)] at this
  simpa using this.1
theorem Ms.byte (h : Ms ns ls L (e :: fut) R0) (hg : e.1 < 256) {l : List Nat} (hl : ls.getLastD [] = l) (hm : l ∈ ls) : Ms ns (ls.dropLast ++ [l ++ [e.1]]) L fut R0 := by
  have hne := h.ne hg
  have h1 := h.res
  rw [po2, if_neg (by omega), if_neg (by omega), hl] at h1
  have hb : nbe (e :: fut) = 1 + nbe fut := by simp only [nbe]; rw [if_pos hg]
  have hn : nop (e :: fut) = nop fut := by simp only [nop]; rw [if_neg (by omega)]; omega
  have hp := List.length_pos_iff.2 hne
  refine ⟨h1, ?_, fun c hc => h.lt c (List.mem_cons_of_mem _ hc), ?_, fun m hm' => ?_, by have := h.tot; omega, ?_⟩
  · have : decide (ls.dropLast ++ [l ++ [e.1]] ≠ []) = true := by simp
    rw [this]; exact gd2_true _
  · have := h.no
    simp only [List.length_append, List.length_singleton, List.length_dropLast] at this ⊢
    omega
  · rcases List.mem_append.1 hm' with q | q
    · have := h.each m (List.dropLast_subset _ q); omega
    · rw [List.mem_singleton.1 q, List.length_append, List.length_singleton]
      have := h.each l hm
      omega
  · have := h.eqn
    simp only [List.length_append, List.length_singleton, List.length_dropLast]
    omega
theorem Ms.nil (h : Ms ns ls L [] R0) : R0 = (ns, ls) := h.res.symm
end
/-- Names as values. -/
def sv (ns : List (List Nat)) : List Value := ns.map fun n => .string (st n)
theorem sv_length (ns : List (List Nat)) : (sv ns).length = ns.length := by simp [sv]
theorem sv_append (a b : List (List Nat)) : sv (a ++ b) = sv a ++ sv b := by simp [sv]
/-- A list of names, of the call's own. -/
def Ns (w : World) (lo : Nat) (v : Value) (ns : List (List Nat)) : Prop := Ow w lo 9 1 v ns.length (sv ns)
theorem Ns.nil {w : World} {lo : Nat} (h : lo ≤ w.heap.size) : Ns w lo (.slice none 0 0) [] := Ow.nil h
theorem Ns.keep {w u : World} {lo : Nat} {v : Value} {ns : List (List Nat)} (h : Ns w lo v ns) (hs : w.heap.size ≤ u.heap.size) (k : ∀ g, lo ≤ g → g < w.heap.size → (∃ cs fr, w.heap[g]? = some (.cells cs 9 fr)) → u.heap[g]? = w.heap[g]?) : Ns u lo v ns := Ow.keep h hs k
theorem Ns.below {w u : World} {lo C : Nat} {v : Value} {ns : List (List Nat)} (h : Ns w lo v ns) (k : Below C w u) (hC : w.heap.size ≤ C) : Ns u lo v ns := h.keep k.size fun g _ h2 _ => k.block g (by omega)
theorem Ns.only {w u : World} {lo M : Nat} {v : Value} {ns : List (List Nat)} {cs : Array Value} {t : TypeId} (h : Ns w lo v ns) (k : Only M w u) (hM : Cells w M cs t) (ht : t ≠ 9) : Ns u lo v ns := h.keep (Nat.le_of_eq k.size.symm) fun g _ h2 ⟨cs', fr, hc⟩ => k.block g fun e2 => by
  subst e2
  unfold Cells at hM
  rw [hM] at hc
  cases hc
  exact ht rfl
theorem Ns.butW {w u : World} {lo W : Nat} {v : Value} {ns : List (List Nat)} (h : Ns w lo v ns) (k : But W w u) (hW : W < lo) : Ns u lo v ns := h.keep k.size fun g h1 h2 _ => k.block g h2 (by omega)
theorem Ll.butW {w u : World} {lo W : Nat} {v : Value} {ls : List (List Nat)} (h : Ll w lo v ls) (k : But W w u) (hW : W < lo) : Ll u lo v ls := h.keep k.size fun g h1 h2 _ => k.block g h2 (by omega)
theorem Ll.only {w u : World} {lo M : Nat} {v : Value} {ls : List (List Nat)} {cs : Array Value} {t : TypeId} (h : Ll w lo v ls) (k : Only M w u) (hM : Cells w M cs t) (ht : t ≠ 5 ∧ t ≠ 22) : Ll u lo v ls := h.but (But.of_only k) hM ht
theorem Ns.got {w u : World} {lo lo2 n : Nat} {e : TypeId} {v a a' : Value} {ns : List (List Nat)} {xs : List Value} (h : Ns w lo v ns) (k : Got lo2 e 1 w u a a' n xs) (he : e ≠ 9) : Ns u lo v ns := Ow.got h k (Ne.symm he)
theorem Ll.got9 {w u : World} {lo lo2 n : Nat} {v a a' : Value} {ls : List (List Nat)} {xs : List Value} (h : Ll w lo v ls) (k : Got lo2 9 1 w u a a' n xs) : Ll u lo v ls := by
  obtain ⟨vs, h1, h2, h3, h4⟩ := h.ex
  exact ⟨vs, h1, h2.got k (by decide), fun i a l ha hl => (h3 i a l ha hl).got k (by decide), h4⟩
/-- What Whole answers. -/
structure Wr0 (R0 : List (List Nat) × List (List Nat)) (y : Nat) (w : World) (e : Ending) (w' : World) : Prop where
  ex : ∃ vn vl lo2, e = .returned (.tuple #[vn, vl, .int .i64 (y : Int)]) ∧ w.heap.size ≤ lo2 ∧ Ns w' lo2 vn R0.1 ∧ Ll w' lo2 vl R0.2 ∧ Below w.heap.size w w'
section
variable {W lo2 E E2 : Nat} {w wr wx w7 : World} {ek eb en ek2 eb2 en2 : Int} {nm nm2 : List Nat} {ok ok2 : Bool} {vn vl : Value} {ns ls : List (List Nat)} {s1 : Ts} {rem rem2 : List Evn} {L : Nat} {fut : List Evn} {R0 : List (List Nat) × List (List Nat)}
/-- The inner loop. -/
structure Gq (W lo2 E : Nat) (w wr : World) (ek eb en : Int) (nm : List Nat) (ok : Bool) (vn vl : Value) (ns ls : List (List Nat)) (s1 : Ts) (rem : List Evn) (L : Nat) (fut : List Evn) (R0 : List (List Nat) × List (List Nat)) : Prop where
  wz : Wz wr W s1 rem
  nn : Ns wr lo2 vn ns
  ll : Ll wr lo2 vl ls
  ev : Cells wr E #[.int .i64 ek, .int .u8 eb, .int .i64 en, .int .i64 0, .string (st nm)] 44
  bel : Below w.heap.size w wr
  le : lo2 ≤ E
  geo : w.heap.size ≤ W ∧ W < lo2
  st : (ok = false ∧ rem = [] ∧ Ms ns ls L fut R0) ∨ (ok = true ∧ ∃ g : Evn, ek = gk1 g.1 ∧ eb = gk2 g.1 ∧ nm = g.2 ∧ Ms ns ls L (g :: (rem ++ fut)) R0)
/-- Behind an event, ahead of the next. -/
structure Gu (W lo2 : Nat) (w wr : World) (vn vl : Value) (ns ls : List (List Nat)) (s1 : Ts) (rem : List Evn) (L : Nat) (fut : List Evn) (R0 : List (List Nat) × List (List Nat)) : Prop where
  wz : Wz wr W s1 rem
  nn : Ns wr lo2 vn ns
  ll : Ll wr lo2 vl ls
  bel : Below w.heap.size w wr
  geo : w.heap.size ≤ W ∧ W < lo2
  ms : Ms ns ls L (rem ++ fut) R0
theorem But.bel {M : Nat} {w u x : World} (h : But M u x) (k : Below w.heap.size w u) (hM : w.heap.size ≤ M) : Below w.heap.size w x := k.trans ⟨h.os, h.tape, h.output, h.size, fun i hi => h.block i (by have := k.size; omega) (by omega)⟩
/-- What Next answers, whatever is pending. -/
def NxC (W : Nat) (s1 : Ts) (rem : List Evn) (u : World) (ek eb en : Int) (nm : List Nat) (ok : Bool) (rem2 : List Evn) : Prop := (Calls Tryz.prog 14 #[.pointer (some ⟨W, 0, none⟩)] u fun e w' => e = .returned (.tuple #[.agg #[.int .i64 ek, .int .u8 eb, .int .i64 en, .int .i64 0, .string (st nm)], .bool ok]) ∧ Wz w' W s1 rem2 ∧ But W u w') ∧ ((ok = false ∧ rem = [] ∧ rem2 = []) ∨ (ok = true ∧ ∃ g : Evn, ek = gk1 g.1 ∧ eb = gk2 g.1 ∧ nm = g.2 ∧ rem = g :: rem2))
theorem next_all {u : World} (hz : Wz u W s1 rem) : ∃ ek eb en nm ok rem2, NxC W s1 rem u ek eb en nm ok rem2 := by
  cases rem with
  | nil => exact ⟨0, 0, 0, [], false, [], (wz_next_no u hz).mono fun e w' k => ⟨k.1, k.2.1, But.of_below k.2.2⟩, Or.inl ⟨rfl, rfl, rfl⟩⟩
  | cons e r => exact ⟨gk1 e.1, gk2 e.1, gk3 e.1, e.2, true, r, wz_next e u hz, Or.inr ⟨rfl, e, rfl, rfl, rfl, rfl⟩⟩
/-- The next event is laid into its place. -/
theorem Gu.next (h : Gu W lo2 w wx vn vl ns ls s1 rem L fut R0) (hE : wx.heap.size = E2) (hz : Wz w7 W s1 rem2) (hf : But W (wx.alloc (.cells #[.int .i64 ek, .int .u8 eb, .int .i64 en, .int .i64 0, .string (st nm)] 44)) w7) (hc : (ok2 = false ∧ rem = [] ∧ rem2 = []) ∨ (ok2 = true ∧ ∃ g : Evn, ek2 = gk1 g.1 ∧ eb2 = gk2 g.1 ∧ nm2 = g.2 ∧ rem = g :: rem2)) :
    Cells w7 E2 #[.int .i64 ek, .int .u8 eb, .int .i64 en, .int .i64 0, .string (st nm)] 44 ∧ Gq W lo2 E2 w (((((w7.setCell ⟨E2, 0, none⟩ (.int .i64 ek2)).setCell ⟨E2, 1, none⟩ (.int .u8 eb2)).setCell ⟨E2, 2, none⟩ (.int .i64 en2)).setCell ⟨E2, 3, none⟩ (.int .i64 0)).setCell ⟨E2, 4, none⟩ (.string (st nm2))) ek2 eb2 en2 nm2 ok2 vn vl ns ls s1 rem2 L fut R0 := by
  have bA : Below wx.heap.size wx (wx.alloc (.cells #[.int .i64 ek, .int .u8 eb, .int .i64 en, .int .i64 0, .string (st nm)] 44)) := (Below.refl _ wx).alloc (Nat.le_refl _) _
  have kA : Cells (wx.alloc (.cells #[.int .i64 ek, .int .u8 eb, .int .i64 en, .int .i64 0, .string (st nm)] 44)) E2 #[.int .i64 ek, .int .u8 eb, .int .i64 en, .int .i64 0, .string (st nm)] 44 := by rw [← hE]; exact Cells.new wx _ 44
  have hle := h.ll.le
  have geo := h.geo
  have k7 := hf.cells kA (by omega)
  have l7 := (h.ll.below bA (Nat.le_refl _)).butW hf geo.2
  have n7 := (h.nn.below bA (Nat.le_refl _)).butW hf geo.2
  have o8 := only_five E2 w7 (.int .i64 ek2) (.int .u8 eb2) (.int .i64 en2) (.int .i64 0) (.string (st nm2))
  refine ⟨k7, ⟨hz.low (o8.below (Nat.le_refl _)) (by omega), n7.only o8 k7 (by decide), l7.only o8 k7 ⟨by decide, by decide⟩, set5 k7 _ _ _ _ _, ?_, by omega, geo, ?_⟩⟩
  · exact (hf.bel (h.bel.trans (bA.mono h.bel.size)) geo.1).trans (o8.below (by omega))
  · rcases hc with ⟨h1, h2, h3⟩ | ⟨h1, g, h2, h3, h4, h5⟩
    · left
      have ms := h.ms
      rw [h2] at ms
      exact ⟨h1, h3, ms⟩
    · right
      have ms := h.ms
      rw [h5] at ms
      exact ⟨h1, g, h2, h3, h4, ms⟩
end
end Go.Proofs.YtcmmjbkgoafbnaaGreatDoor

/-
  What the document's Rows and Strings come to.
-/
namespace Go.Proofs.YtcmmjbkgoafbnaaGreatDoor
open Go.RowKit
set_option linter.unusedVariables false
def Dn (w u : World) : Prop := ∃ n, u = w.drewN n
theorem Dn.refl (w : World) : Dn w w := ⟨0, rfl⟩
theorem Dn.drewN {w u : World} (h : Dn w u) (n : Nat) : Dn w (u.drewN n) := by
  obtain ⟨m, rfl⟩ := h
  exact ⟨_, World.drewN_drewN _ _ _⟩
/-- A list of lists of bytes in memory. -/
def Rl (w : World) (a : Option Addr) (ls : List (List Nat)) : Prop := ls = [] ∨ ∃ g o, a = some ⟨g, o, none⟩ ∧ ∀ (i : Nat) (l : List Nat), ls[i]? = some l → ∃ a1 c1, w.cell? ⟨g, o + i, none⟩ = some (.slice a1 l.length c1) ∧ Lies w a1 l ∧ l.length ≤ c1 ∧ (a1 = none → l.length = 0 ∧ c1 = 0)
theorem Rl.below {w u : World} {a : Option Addr} {ls : List (List Nat)} (h : Rl w a ls) (k : Below w.heap.size w u) : Rl u a ls := by
  rcases h with h | ⟨g, o, ha, hx⟩
  · exact Or.inl h
  · refine Or.inr ⟨g, o, ha, fun i l hl => ?_⟩
    obtain ⟨a1, c1, h1, h2, h3⟩ := hx i l hl
    exact ⟨a1, c1, (k.cell (p := ⟨g, o + i, none⟩) (World.block_lt_of_cell? w _ h1)).trans h1, h2.below k, h3⟩
theorem Rl.drewN {w : World} {a : Option Addr} {ls : List (List Nat)} (h : Rl w a ls) (n : Nat) : Rl (w.drewN n) a ls := h
theorem Ll.at {w : World} {lo : Nat} {a : Option Addr} {n c : Nat} {ls : List (List Nat)} (h : Ll w lo (.slice a n c) ls) (hn : n = ls.length) {i : Nat} {l : List Nat} (hl : ls[i]? = some l) : ∃ g a1 c1, a = some ⟨g, 0, none⟩ ∧ w.cell? ⟨g, i, none⟩ = some (.slice a1 l.length c1) ∧ Lies w a1 l ∧ l.length ≤ c1 ∧ (a1 = none → l.length = 0 ∧ c1 = 0) := by
  obtain ⟨vs, h1, h2, h3, h4⟩ := h.ex
  have hi := (List.getElem?_eq_some_iff.1 hl).1
  obtain ⟨v, hv⟩ : ∃ v, vs[i]? = some v := ⟨_, List.getElem?_eq_getElem (by omega)⟩
  obtain ⟨a9, c9, h9, _, h10 | ⟨g, h10, _, _, h11, _⟩, _⟩ := h2.shape
  · omega
  cases h9
  obtain ⟨a1, c1, e1, e2, e3, e4, e5⟩ := (h3 i v l hv hl).lies
  subst e1
  exact ⟨g, a1, c1, h10, h11 i _ hv, e4, e3, e5⟩
theorem Ll.rl {w : World} {lo : Nat} {a : Option Addr} {n c : Nat} {ls : List (List Nat)} (h : Ll w lo (.slice a n c) ls) (hn : n = ls.length) : Rl w a ls := by
  rcases Nat.eq_zero_or_pos ls.length with h0 | h0
  · exact Or.inl (List.eq_nil_of_length_eq_zero h0)
  · obtain ⟨l0, hl0⟩ : ∃ l0, ls[0]? = some l0 := ⟨_, List.getElem?_eq_getElem h0⟩
    obtain ⟨g, _, _, hg, _⟩ := h.at hn hl0
    refine Or.inr ⟨g, 0, hg, fun i l hl => ?_⟩
    obtain ⟨g', a1, c1, hg', h1, h2, h3, h4⟩ := h.at hn hl
    rw [hg] at hg'
    cases hg'
    exact ⟨a1, c1, by rw [Nat.zero_add]; exact h1, h2, h3, h4⟩
set_option maxHeartbeats 1000000 in
theorem rows_c (w : World) (a b : Option Addr) (ls : List (List Nat)) (n c d : Nat) (hn : ls.length = n) (hb : n < 200000000001) (ha : Rl w a ls) (hbb : Rl w b ls) (ho : ∀ l ∈ ls, Oct l) : Calls Tryz.prog 8 #[.slice a n c, .slice b n d] w fun e w' => e = .returned (.bool true) ∧ ∃ m, w' = w.drewN m := by
  have A : Aside (ls.length = n ∧ n < 200000000001 ∧ Rl w a ls ∧ Rl w b ls ∧ ∀ l ∈ ls, Oct l) := ⟨hn, hb, ha, hbb, ho⟩
  have hz : ((n : Int) != (n : Int)) = false := by simp
  clear hn hb ha hbb ho
  go_enter Tryz.func8, Tryz.ntmps8
  go_wp2_with fail
  go_loopg [5] n (fun g s5 wr => ∃ k : Nat, s5 = .int .i64 (k : Int) ∧ Aside (k + g = n ∧ Dn w wr))
  case atStart => exact ⟨0, rfl, ⟨by omega, Dn.refl _⟩⟩
  case round =>
    obtain ⟨k, rfl, hT⟩ := hrel
    obtain ⟨hkg, m0, hm0⟩ := hT.out
    have a0 := A.out
    by_cases hk : k < n
    · have t1 : ((k : Int) < (n : Int)) = True := eq_true (by omega)
      have t2 : (k < n) = True := eq_true hk
      obtain ⟨l, hl⟩ : ∃ l, ls[k]? = some l := ⟨_, List.getElem?_eq_getElem (by omega)⟩
      rcases a0.2.2.1 with e | ⟨g1, o1, rfl, h1⟩
      · rw [e] at hl; simp at hl
      rcases a0.2.2.2.1 with e | ⟨g2, o2, rfl, h2⟩
      · rw [e] at hl; simp at hl
      obtain ⟨a1, c1, k1, l1, _⟩ := h1 k l hl
      obtain ⟨a2, c2, k2, l2, _⟩ := h2 k l hl
      have hol := a0.2.2.2.2 l (List.mem_of_getElem? hl)
      obtain ⟨q, hq⟩ : ∃ q, l.length = q := ⟨_, rfl⟩
      obtain ⟨S, hS⟩ : ∃ S, st l = S := ⟨_, rfl⟩
      have kk1 : wr.cell? ⟨g1, o1 + k, none⟩ = some (.slice a1 q c1) := by rw [hm0, ← hq]; exact k1
      have kk2 : wr.cell? ⟨g2, o2 + k, none⟩ = some (.slice a2 q c2) := by rw [hm0, ← hq]; exact k2
      have e1 : ∀ n, (convert 22 9 (.slice a1 q c1)).run Tryz.prog (wr.drewN n) = .ok (.string S) (wr.drewN n) := fun n => by rw [← hS]; exact conv_st q c1 hq hol (by rw [hm0]; exact (l1.drewN _).drewN _)
      have e2 : ∀ n, (convert 22 9 (.slice a2 q c2)).run Tryz.prog (wr.drewN n) = .ok (.string S) (wr.drewN n) := fun n => by rw [← hS]; exact conv_st q c2 hq hol (by rw [hm0]; exact (l2.drewN _).drewN _)
      have bk : (k : Int) < 400000000000 := by omega
      have A2 : Aside (k + gk = n ∧ k < n ∧ Dn w wr) := ⟨hkg, hk, ⟨m0, hm0⟩⟩
      have hsz : (S.toList == S.toList) = true := by simp
      clear hT hkg hm0 a0 hk hl h1 h2 k1 k2 l1 l2 hol hq hS
      go_upto_region 6 with fail
      go_quiet (fail)
      go_wp2_with fail
      have a2 := A2.out
      go_roundg (gk - 1)
      case measure => omega
      case rel => exact ⟨k + 1, by go_num, ⟨by omega, a2.2.2.drewN _⟩⟩
    · have t1 : ((k : Int) < (n : Int)) = False := eq_false (by omega)
      have t2 : (k < n) = False := eq_false hk
      have A2 : Aside (∃ m, wr = w.drewN m) := ⟨m0, hm0⟩
      clear hT hkg hm0 a0 hk
      go_wp2_with fail
      first | go_ret | go_ret2
      exact ⟨rfl, A2.out⟩
/-- Strings in memory. -/
def Nl (w : World) (a : Option Addr) (ns : List (List Nat)) : Prop := ns = [] ∨ ∃ g o, a = some ⟨g, o, none⟩ ∧ ∀ (i : Nat) (l : List Nat), ns[i]? = some l → w.cell? ⟨g, o + i, none⟩ = some (.string (st l))
theorem Nl.below {w u : World} {a : Option Addr} {ns : List (List Nat)} (h : Nl w a ns) (k : Below w.heap.size w u) : Nl u a ns := by
  rcases h with h | ⟨g, o, ha, hx⟩
  · exact Or.inl h
  · refine Or.inr ⟨g, o, ha, fun i l hl => ?_⟩
    have h1 := hx i l hl
    exact (k.cell (p := ⟨g, o + i, none⟩) (World.block_lt_of_cell? w _ h1)).trans h1
theorem Ns.nl {w : World} {lo : Nat} {v : Value} {ns : List (List Nat)} (h : Ns w lo v ns) : ∃ a c, v = .slice a ns.length c ∧ ns.length ≤ c ∧ Nl w a ns ∧ (a = none → ns.length = 0 ∧ c = 0) := by
  obtain ⟨a, c, hv, hc, h10, h12⟩ := Ow.shape h
  refine ⟨a, c, hv, hc, ?_, h12⟩
  rcases h10 with h0 | ⟨g, hg, _, _, h11, _⟩
  · exact Or.inl (List.eq_nil_of_length_eq_zero h0)
  · refine Or.inr ⟨g, 0, hg, fun i l hl => ?_⟩
    rw [Nat.zero_add]
    exact h11 i _ (by unfold sv; rw [List.getElem?_map, hl]; rfl)
set_option maxHeartbeats 1000000 in
theorem strings_c (w : World) (a b : Option Addr) (ls : List (List Nat)) (n c d : Nat) (hn : ls.length = n) (hb : n < 200000000001) (ha : Nl w a ls) (hbb : Nl w b ls) : Calls Tryz.prog 6 #[.slice a n c, .slice b n d] w fun e w' => e = .returned (.bool true) ∧ ∃ m, w' = w.drewN m := by
  have A : Aside (ls.length = n ∧ n < 200000000001 ∧ Nl w a ls ∧ Nl w b ls) := ⟨hn, hb, ha, hbb⟩
  have hz : ((n : Int) != (n : Int)) = false := by simp
  clear hn hb ha hbb
  go_enter Tryz.func6, Tryz.ntmps6
  go_wp2_with fail
  go_loopg [5] n (fun g s5 wr => ∃ k : Nat, s5 = .int .i64 (k : Int) ∧ Aside (k + g = n ∧ Dn w wr))
  case atStart => exact ⟨0, rfl, ⟨by omega, Dn.refl _⟩⟩
  case round =>
    obtain ⟨k, rfl, hT⟩ := hrel
    obtain ⟨hkg, m0, hm0⟩ := hT.out
    have a0 := A.out
    by_cases hk : k < n
    · have t1 : ((k : Int) < (n : Int)) = True := eq_true (by omega)
      have t2 : (k < n) = True := eq_true hk
      obtain ⟨l, hl⟩ : ∃ l, ls[k]? = some l := ⟨_, List.getElem?_eq_getElem (by omega)⟩
      rcases a0.2.2.1 with e | ⟨g1, o1, rfl, h1⟩
      · rw [e] at hl; simp at hl
      rcases a0.2.2.2 with e | ⟨g2, o2, rfl, h2⟩
      · rw [e] at hl; simp at hl
      have k1 := h1 k l hl
      have k2 := h2 k l hl
      obtain ⟨S, hS⟩ : ∃ S, st l = S := ⟨_, rfl⟩
      have kk1 : wr.cell? ⟨g1, o1 + k, none⟩ = some (.string S) := by rw [hm0, ← hS]; exact k1
      have kk2 : wr.cell? ⟨g2, o2 + k, none⟩ = some (.string S) := by rw [hm0, ← hS]; exact k2
      have bk : (k : Int) < 400000000000 := by omega
      have A2 : Aside (k + gk = n ∧ k < n ∧ Dn w wr) := ⟨hkg, hk, ⟨m0, hm0⟩⟩
      have hsz : (S.toList == S.toList) = true := by simp
      clear hT hkg hm0 a0 hk hl h1 h2 k1 k2 hS
      go_upto_region 6 with fail
      go_quiet (fail)
      go_wp2_with fail
      have a2 := A2.out
      go_roundg (gk - 1)
      case measure => omega
      case rel => exact ⟨k + 1, by go_num, ⟨by omega, a2.2.2.drewN _⟩⟩
    · have t1 : ((k : Int) < (n : Int)) = False := eq_false (by omega)
      have t2 : (k < n) = False := eq_false hk
      have A2 : Aside (∃ m, wr = w.drewN m) := ⟨m0, hm0⟩
      clear hT hkg hm0 a0 hk
      go_wp2_with fail
      first | go_ret | go_ret2
      exact ⟨rfl, A2.out⟩
end Go.Proofs.YtcmmjbkgoafbnaaGreatDoor

/-
  What told comes to.
-/
namespace Go.Proofs.YtcmmjbkgoafbnaaGreatDoor
open Go.RowKit
set_option linter.unusedVariables false
set_option linter.unusedSimpArgs false
/-- The names and the data of files. -/
def tdn : List Ent → List (List Nat)
  | [] => []
  | e :: r => if e.2.2.2 = 0 then nmd e.1 :: tdn r else tdn r
def tdd : List Ent → List (List Nat)
  | [] => []
  | e :: r => if e.2.2.2 = 0 then e.2.1 :: tdd r else tdd r
theorem tdn_append (a b : List Ent) : tdn (a ++ b) = tdn a ++ tdn b := by
  induction a with
  | nil => rfl
  | cons e r ih => simp only [List.cons_append, tdn, ih]; split <;> rfl
theorem tdd_append (a b : List Ent) : tdd (a ++ b) = tdd a ++ tdd b := by
  induction a with
  | nil => rfl
  | cons e r ih => simp only [List.cons_append, tdd, ih]; split <;> rfl
theorem td_len (l : List Ent) : (tdn l).length = (tdd l).length := by
  induction l with
  | nil => rfl
  | cons e r ih => simp only [tdn, tdd]; split <;> simp [ih]
theorem tdn_len (l : List Ent) : (tdn l).length ≤ l.length := by
  induction l with
  | nil => exact Nat.le_refl _
  | cons e r ih => simp only [tdn]; split <;> simp <;> omega
theorem td_more {l : List Ent} {i : Nat} {e : Ent} (h : l[i]? = some e) : tdn (l.take (i + 1)) = (if e.2.2.2 = 0 then tdn (l.take i) ++ [nmd e.1] else tdn (l.take i)) ∧ tdd (l.take (i + 1)) = (if e.2.2.2 = 0 then tdd (l.take i) ++ [e.2.1] else tdd (l.take i)) := by
  obtain ⟨h1, h2⟩ := List.getElem?_eq_some_iff.1 h
  rw [List.take_succ_eq_append_getElem h1, h2, tdn_append, tdd_append]
  simp only [tdn, tdd]
  constructor <;> split <;> simp
/-- Slices that lie where bytes are. -/
structure Sv (w : World) (vs : List Value) (ls : List (List Nat)) : Prop where
  len : vs.length = ls.length
  at_ : ∀ (i : Nat) (l : List Nat), ls[i]? = some l → ∃ a c, vs[i]? = some (.slice a l.length c) ∧ Lies w a l ∧ l.length ≤ c ∧ (a = none → l.length = 0 ∧ c = 0)
theorem Sv.nil (w : World) : Sv w [] [] := ⟨rfl, fun i l h => by simp at h⟩
theorem Sv.more {w : World} {vs : List Value} {ls : List (List Nat)} (h : Sv w vs ls) {l : List Nat} {a : Option Addr} {c : Nat} (hl : Lies w a l) (hc : l.length ≤ c) (hn : a = none → l.length = 0 ∧ c = 0) : Sv w (vs ++ [.slice a l.length c]) (ls ++ [l]) := by
  refine ⟨by simp [h.len], fun i m hm => ?_⟩
  rcases Nat.lt_or_ge i ls.length with hi | hi
  · rw [List.getElem?_append_left hi] at hm
    obtain ⟨a', c', h1, h2⟩ := h.at_ i m hm
    exact ⟨a', c', by rw [List.getElem?_append_left (by rw [h.len]; exact hi)]; exact h1, h2⟩
  · rw [List.getElem?_append_right hi] at hm
    have h0 : i - ls.length = 0 := by
      rcases Nat.eq_zero_or_pos (i - ls.length) with h | h
      · exact h
      · rw [List.getElem?_eq_none (by simp; omega)] at hm; cases hm
    rw [h0] at hm
    simp at hm
    subst hm
    exact ⟨a, c, by rw [List.getElem?_append_right (by rw [h.len]; exact hi), h.len, h0]; rfl, hl, hc, hn⟩
theorem Sv.below {w u : World} {vs : List Value} {ls : List (List Nat)} (h : Sv w vs ls) (k : Below w.heap.size w u) : Sv u vs ls := ⟨h.len, fun i l hl => by
  obtain ⟨a, c, h1, h2, h3⟩ := h.at_ i l hl
  exact ⟨a, c, h1, h2.below k, h3⟩⟩
theorem Sv.rl {w : World} {lo n : Nat} {v : Value} {vs : List Value} {ls : List (List Nat)} (h : Sv w vs ls) (ho : Ow w lo 22 1 v n vs) (hn : n = ls.length) : ∃ a c, v = .slice a n c ∧ n ≤ c ∧ Rl w a ls ∧ (a = none → n = 0 ∧ c = 0) := by
  obtain ⟨a, c, hv, hc, h10, h12⟩ := ho.shape
  refine ⟨a, c, hv, hc, ?_, h12⟩
  rcases h10 with h0 | ⟨g, hg, _, _, h11, _⟩
  · exact Or.inl (List.eq_nil_of_length_eq_zero (by omega))
  · refine Or.inr ⟨g, 0, hg, fun i l hl => ?_⟩
    obtain ⟨a1, c1, h1, h2, h3⟩ := h.at_ i l hl
    exact ⟨a1, c1, by rw [Nat.zero_add]; exact h11 i _ h1, h2, h3⟩
end Go.Proofs.YtcmmjbkgoafbnaaGreatDoor

/-
  Entries that are written, through the machine. No walk.
-/
namespace Go.Proofs.YtcmmjbkgoafbnaaGreatDoor
set_option linter.unusedVariables false
set_option linter.unusedSimpArgs false
/-- What an entry tells. -/
def ete (e : Ent) : List Evn := if e.2.2.2 = 0 then (256, nmd e.1) :: (e.2.1.map (fun x => (x, [])) ++ [(257, [])]) else []
def eta : List Ent → List Evn
  | [] => []
  | e :: r => ete e ++ eta r
theorem oct_x : Oct [120] := fun x hx => by simp at hx; omega
theorem other_run {n d : List Nat} {z k t : Nat} {s : Ts} (h : Sd (none, none) s) (hn : Oct n) (hk : k = 75 ∨ k = 103) (hz : z < 8589934592) (hd : d.length = z) : ∃ s' T, Mr t s (hdr n z k ++ wh512 d) s' T ∧ Sd (none, none) s' ∧ evx T = [] := by
  have hu : tus k = 0 := by rcases hk with rfl | rfl <;> rfl
  have ho : town k = false := by rcases hk with rfl | rfl <;> rfl
  have hi : tisf k = false := by rcases hk with rfl | rfl <;> rfl
  have hm : tmuch k z = false := by unfold tmuch; rcases hk with rfl | rfl <;> simp
  have hc : tcm k (none, none) = (none, none) := by unfold tcm; split <;> rfl
  have hs : tsz k z none = z := by unfold tsz; rw [ho, if_neg (by decide)]
  have hf : tfin 0 d (none, none) = ((none, none), 0) := by unfold tfin; rw [if_neg (by decide), if_neg (by decide)]
  obtain ⟨s', T, q1, q2, q3⟩ := seg (n := n) (d := d) (z := z) (k := k) (t := t) h hn (by omega) hz hm (by rw [hd]; exact hs.symm) (fun q => by omega) (by rw [hu, hc, hf])
  rw [hu, hc, hf] at q2
  refine ⟨s', T, q1, q2, ?_⟩
  rw [q3, hu]
  unfold topn dte
  rw [hdr_kind, hi, if_neg (by decide), if_neg (by decide)]
  rfl
theorem file_run {n d : List Nat} {z t : Nat} {cn : Option (List Nat)} {cz : Option Nat} {s : Ts} (h : Sd (cn, cz) s) (hn : Oct n) (hnz : ∀ c ∈ n, c ≠ 0) (hz : z < 8589934592) (hd : d.length = cz.getD z) : ∃ s' T, Mr t s (hdr n z 48 ++ wh512 d) s' T ∧ Sd (none, none) s' ∧ evx T = (256, cn.getD (n.take 100)) :: (d.map (fun x => (x, [])) ++ [(257, [])]) := by
  have hu : tus 48 = 1 := rfl
  have hm : tmuch 48 z = false := by unfold tmuch; simp
  have hc : tcm 48 (cn, cz) = (none, none) := rfl
  have hs : tsz 48 z cz = cz.getD z := rfl
  have hf : tfin 1 d (none, none) = ((none, none), 0) := by unfold tfin; rw [if_neg (by decide), if_neg (by decide)]
  obtain ⟨s', T, q1, q2, q3⟩ := seg (n := n) (d := d) (z := z) (k := 48) (t := t) h hn (by omega) hz hm (by rw [hd]; exact hs.symm) (fun q => by omega) (by rw [hu, hc, hf])
  rw [hu, hc, hf] at q2
  refine ⟨s', T, q1, q2, ?_⟩
  rw [q3, hu]
  unfold topn dte
  rw [hdr_kind, show tisf 48 = true from rfl, if_pos rfl, if_pos rfl, hdr_tnm _ _ hnz]
  rfl
theorem long_run {d : List Nat} {z k t : Nat} {s : Ts} {c : Cm} (h : Sd (none, none) s) (hk : k = 76 ∨ k = 120) (hd : d.length = z) (hz : z ≤ if k = 76 then 257 else 1024) (hf : tfin (tus k) d (none, none) = (c, 0)) : ∃ s' T, Mr t s (hdr [120] z k ++ wh512 d) s' T ∧ Sd c s' ∧ evx T = [] := by
  have ho : town k = false := by rcases hk with rfl | rfl <;> rfl
  have hi : tisf k = false := by rcases hk with rfl | rfl <;> rfl
  have hu : tus k ≠ 1 := by rcases hk with rfl | rfl <;> decide
  have hz2 : z ≤ 1024 := by rcases hk with rfl | rfl <;> simp at hz <;> omega
  have hm : tmuch k z = false := by
    unfold tmuch
    rcases hk with rfl | rfl <;> simp at hz ⊢ <;> omega
  have hc : tcm k (none, none) = (none, none) := by unfold tcm; split <;> rfl
  have hs : tsz k z none = z := by unfold tsz; rw [ho, if_neg (by decide)]
  obtain ⟨s', T, q1, q2, q3⟩ := seg (n := [120]) (d := d) (z := z) (k := k) (t := t) h oct_x (by omega) (by omega) hm (by rw [hd]; exact hs.symm) (fun q => by omega) (by rw [hc, hf])
  rw [hc, hf] at q2
  refine ⟨s', T, q1, q2, ?_⟩
  rw [q3]
  unfold topn dte
  rw [hdr_kind, hi, if_neg (by decide), if_neg hu]
  rfl
/-- What stands ahead of a file's header. -/
theorem ahead_run {n d : List Nat} {hw t : Nat} {s : Ts} (h : Sd (none, none) s) (hn : n.length ≤ 256) (hnz : ∀ c ∈ n, c ≠ 0) (hd : d.length ≤ 100000) (hhw : hw < 4) (h0 : hw = 0 → n.length ≤ 100) : ∃ s' T cn cz, Mr t s (wpr hw n d) s' T ∧ Sd (cn, cz) s' ∧ evx T = [] ∧ cn.getD (n.take 100) = n ∧ cz.getD (if hw = 3 then 7 else d.length) = d.length := by
  have hpl := sad_len2 (k := kpath) (v := n) (by decide) (by omega)
  have hzl := sad_len2 (k := ksize) (v := dgs d.length) (by decide) (by have := dgs_len (n := d.length) (by omega); omega)
  have hc : hw = 0 ∨ hw = 1 ∨ hw = 2 ∨ hw = 3 := by omega
  rcases hc with rfl | rfl | rfl | rfl
  · refine ⟨s, [], none, none, ⟨rfl, rfl⟩, h, rfl, ?_, rfl⟩
    show n.take 100 = n
    exact List.take_of_length_le (h0 rfl)
  · obtain ⟨s', T, q1, q2, q3⟩ := long_run (d := n ++ [0]) (z := n.length + 1) (k := 76) (t := t) (c := (some n, none)) h (Or.inl rfl) (by simp) (by simp; omega) (by
      show tfin 2 (n ++ [0]) (none, none) = _
      unfold tfin tnam
      rw [if_pos rfl, ttx_nz (m := []) hnz, if_neg (by omega)])
    exact ⟨s', T, some n, none, q1, q2, q3, rfl, rfl⟩
  · obtain ⟨s', T, q1, q2, q3⟩ := long_run (d := sad kpath n) (z := (sad kpath n).length) (k := 120) (t := t) (c := (some n, none)) h (Or.inr rfl) rfl (by simp; omega) (by
      show tfin 3 (sad kpath n) (none, none) = _
      unfold tfin
      rw [if_neg (by decide), if_pos rfl, trr_one hn])
    exact ⟨s', T, some n, none, q1, q2, q3, rfl, rfl⟩
  · obtain ⟨s', T, q1, q2, q3⟩ := long_run (d := sad kpath n ++ sad ksize (dgs d.length)) (z := (sad kpath n ++ sad ksize (dgs d.length)).length) (k := 120) (t := t) (c := (some n, some d.length)) h (Or.inr rfl) rfl (by rw [List.length_append]; simp; omega) (by
      show tfin 3 (sad kpath n ++ sad ksize (dgs d.length)) (none, none) = _
      unfold tfin
      rw [if_neg (by decide), if_pos rfl, trr_two hn hd])
    exact ⟨s', T, some n, some d.length, q1, q2, q3, rfl, rfl⟩
theorem ent_run {e : Ent} {t : Nat} {s : Ts} (he : Eok e) (h : Sd (none, none) s) : ∃ s' T, Mr t s (wen e) s' T ∧ Sd (none, none) s' ∧ evx T = ete e := by
  have hno := nmd_oct he.n
  have hnz := nmd_nz e.1
  have hnl := nmd_len e.1
  have hdl := he.dl
  by_cases hk : e.2.2.2 = 0
  · have hw4 : whw e.2.2.1 (nmd e.1) < 4 := by unfold whw; split <;> omega
    have hw0 : whw e.2.2.1 (nmd e.1) = 0 → (nmd e.1).length ≤ 100 := by unfold whw; split <;> omega
    obtain ⟨s1, T1, cn, cz, q1, q2, q3, q4, q5⟩ := ahead_run (d := e.2.1) (t := t) h hnl hnz hdl hw4 hw0
    obtain ⟨s2, T2, r1, r2, r3⟩ := file_run (n := nmd e.1) (d := e.2.1) (z := if whw e.2.2.1 (nmd e.1) = 3 then 7 else e.2.1.length) (t := t + (wpr (whw e.2.2.1 (nmd e.1)) (nmd e.1) e.2.1).length) q2 hno hnz (by split <;> omega) q5.symm
    refine ⟨s2, T1 ++ T2, ?_, r2, ?_⟩
    · unfold wen
      rw [if_neg (by rw [hk]; simp)]
      exact (mr_append _ _ _ _ _ _).2 ⟨s1, T1, T2, q1, r1, rfl⟩
    · rw [evx_append, q3, r3, q4]
      unfold ete
      rw [if_pos hk]
      rfl
  · obtain ⟨s', T, q1, q2, q3⟩ := other_run (n := nmd e.1) (d := e.2.1) (z := e.2.1.length) (k := wotk e.2.2.2) (t := t) h hno (by unfold wotk; split <;> simp) (by omega) rfl
    refine ⟨s', T, ?_, q2, by rw [q3]; unfold ete; rw [if_neg hk]⟩
    unfold wen
    rw [if_pos hk]
    exact q1
theorem wal_run : ∀ (l : List Ent) (t : Nat) (s : Ts), (∀ e ∈ l, Eok e) → Sd (none, none) s → ∃ s' T, Mr t s (wal l) s' T ∧ Sd (none, none) s' ∧ evx T = eta l
  | [], t, s, _, h => ⟨s, [], ⟨rfl, rfl⟩, h, rfl⟩
  | e :: r, t, s, he, h => by
    obtain ⟨s1, T1, q1, q2, q3⟩ := ent_run (t := t) (he e (by simp)) h
    obtain ⟨s2, T2, r1, r2, r3⟩ := wal_run r (t + (wen e).length) s1 (fun x hx => he x (List.mem_cons_of_mem _ hx)) q2
    exact ⟨s2, T1 ++ T2, (mr_append _ _ _ _ _ _).2 ⟨s1, T1, T2, q1, r1, rfl⟩, r2, by rw [evx_append, q3, r3]; rfl⟩
end Go.Proofs.YtcmmjbkgoafbnaaGreatDoor

/-
  What is told of an archive that is written. No walk.
-/
namespace Go.Proofs.YtcmmjbkgoafbnaaGreatDoor
set_option linter.unusedVariables false
set_option linter.unusedSimpArgs false
theorem po2_bytes : ∀ (d : List Nat) (ns ls : List (List Nat)) (p : List Nat) (r : List Evn), Oct d → po2 ns (ls ++ [p]) (d.map (fun x => (x, [])) ++ r) = po2 ns (ls ++ [p ++ d]) r
  | [], ns, ls, p, r, _ => by simp
  | x :: d, ns, ls, p, r, h => by
    have hx := h x (by simp)
    show po2 ns (ls ++ [p]) ((x, []) :: (d.map (fun x => (x, [])) ++ r)) = _
    rw [po2, if_neg (by simp only; omega), if_neg (by simp only; omega)]
    have e1 : (ls ++ [p]).dropLast = ls := by simp
    have e2 : (ls ++ [p]).getLastD [] = p := by simp
    rw [e1, e2]
    rw [po2_bytes d ns ls (p ++ [x]) r fun y hy => h y (List.mem_cons_of_mem _ hy)]
    simp
theorem po2_ent {e : Ent} (he : Oct e.2.1) (ns ls : List (List Nat)) (r : List Evn) : po2 ns ls (ete e ++ r) = po2 (ns ++ tdn [e]) (ls ++ tdd [e]) r := by
  unfold ete
  by_cases hk : e.2.2.2 = 0
  · rw [if_pos hk]
    simp only [tdn, tdd, hk, if_true]
    rw [List.cons_append, po2, if_pos rfl, List.append_assoc, po2_bytes _ _ _ _ _ he, List.nil_append]
    show po2 _ _ ((257, []) :: r) = _
    rw [po2, if_neg (by decide), if_pos rfl]
  · rw [if_neg hk]
    simp only [tdn, tdd, hk, if_false, List.append_nil, List.nil_append]
theorem po2_eta : ∀ (l : List Ent) (ns ls : List (List Nat)) (r : List Evn), (∀ e ∈ l, Oct e.2.1) → po2 ns ls (eta l ++ r) = po2 (ns ++ tdn l) (ls ++ tdd l) r
  | [], ns, ls, r, _ => by simp [eta, tdn, tdd]
  | e :: l, ns, ls, r, h => by
    show po2 ns ls ((ete e ++ eta l) ++ r) = _
    rw [List.append_assoc, po2_ent (h e (by simp)), po2_eta l _ _ _ fun x hx => h x (List.mem_cons_of_mem _ hx), List.append_assoc, List.append_assoc, ← tdn_append, ← tdd_append]
    rfl
theorem po2_told {l : List Ent} (h : ∀ e ∈ l, Eok e) : po2 [] [] (eta l) = (tdn l, tdd l) := by
  have := po2_eta l [] [] [] fun e he => (h e he).d
  rw [List.append_nil] at this
  rw [this]; rfl
theorem zero_run {t : Nat} {s : Ts} {c : Cm} (h : Sd c s) : ∃ s', Mr t s (List.replicate 512 0) s' [] ∧ s'.wh = 3 ∧ s'.why = 0 ∧ s'.ps = 0 := by
  have hb := run_block (h := List.replicate 512 0) (t := t) h.why h.wh h.ps h.bl List.length_replicate
  have hn : noughts (List.replicate 512 0) = true := by unfold noughts; rw [List.all_eq_true]; intro x hx; rw [(List.mem_replicate.1 hx).2]; rfl
  have ht : ∀ S : Ts, noughts S.B = true → thead S = ({ S with wh := 3 }, []) := fun S hS => by unfold thead; rw [if_pos hS]
  rw [ht _ (by exact hn)] at hb
  obtain ⟨S, hS⟩ : ∃ S : Ts, { s with B := List.replicate 512 0, ps := 0, wh := 3 } = S := ⟨_, rfl⟩
  have e : tnx S = S := by unfold tnx; rw [if_neg (fun q => by have := q.1; rw [← hS] at this; exact absurd (show (3 : Nat) = 2 from this) (by decide))]
  refine ⟨S, ?_, by rw [← hS], by rw [← hS]; exact h.why, by rw [← hS]⟩
  have hb2 : Mr t s (List.replicate 512 0) (tnx S) [] := by rw [← hS]; exact hb
  rw [e] at hb2
  exact hb2
theorem rch_all {b : List Nat} {s : Ts} {T : List Gev} (h : Mr 0 t0 b s T) : Rch b b.length s T := ⟨Nat.le_refl _, by rw [List.take_length]; exact h⟩
/-- Noughts behind entries, and anything behind these. -/
theorem ends_run {l : List Ent} (h : ∀ e ∈ l, Eok e) (x : List Nat) : ∃ s T, Rch (wal l ++ (List.replicate 512 0 ++ x)) (wal l ++ (List.replicate 512 0 ++ x)).length s T ∧ zfin s = 0 ∧ po2 [] [] (evx T) = (tdn l, tdd l) := by
  obtain ⟨s1, T1, q1, q2, q3⟩ := wal_run l 0 t0 h sd0
  obtain ⟨s2, r1, r2, r3, r4⟩ := zero_run (t := 0 + (wal l).length) q2
  have ho := run_over x (0 + (wal l).length + (List.replicate 512 0).length) s2 r3 r2 (by omega)
  refine ⟨_, _, rch_all ((mr_append _ _ _ _ _ _).2 ⟨_, _, _, q1, (mr_append _ _ _ _ _ _).2 ⟨_, _, _, r1, ho, rfl⟩, rfl⟩), ?_, ?_⟩
  · unfold zfin
    rw [if_neg (fun q => q r3), if_pos (by unfold twhl; show (decide (s2.wh = 3) || _) = true; rw [r2]; rfl)]
  · rw [List.append_nil, List.append_nil, q3]; exact po2_told h
theorem wri_eq (l : List Ent) : wri l = wal l ++ (List.replicate 512 0 ++ List.replicate 512 0) := by
  unfold wri
  rw [List.replicate_append_replicate]
theorem back_run {l : List Ent} (h : ∀ e ∈ l, Eok e) : ∃ s T, Rch (wri l) (wri l).length s T ∧ zfin s = 0 ∧ po2 [] [] (evx T) = (tdn l, tdd l) := by
  rw [wri_eq]
  exact ends_run h _
/-- Entries alone. -/
theorem bare_run {l : List Ent} (h : ∀ e ∈ l, Eok e) : ∃ s T, Rch (wal l) (wal l).length s T ∧ zfin s = 0 ∧ po2 [] [] (evx T) = (tdn l, tdd l) := by
  obtain ⟨s1, T1, q1, q2, q3⟩ := wal_run l 0 t0 h sd0
  refine ⟨_, _, rch_all q1, ?_, by rw [q3]; exact po2_told h⟩
  unfold zfin
  rw [if_neg (fun q => q q2.why), if_pos (by unfold twhl; rw [q2.wh, q2.ps]; rfl)]
/-- A byte behind entries. -/
theorem cut_run {l : List Ent} (h : ∀ e ∈ l, Eok e) (x : Nat) : ∃ s T, Rch (wal l ++ [x]) (wal l ++ [x]).length s T ∧ zfin s = 1 ∧ po2 [] [] (evx T) = (tdn l, tdd l) := by
  obtain ⟨s1, T1, q1, q2, q3⟩ := wal_run l 0 t0 h sd0
  have hr := run_head [x] [] s1.B (0 + (wal l).length) s1 q2.why q2.wh q2.ps rfl q2.bl (by simp)
  refine ⟨_, _, rch_all ((mr_append _ _ _ _ _ _).2 ⟨_, _, _, q1, hr, rfl⟩), ?_, by rw [List.append_nil, q3]; exact po2_told h⟩
  unfold zfin
  rw [if_neg (fun q => q q2.why), if_neg (by unfold twhl; show ¬ (decide (s1.wh = 3) || (decide (s1.wh = 0) && decide (([] : List Nat).length + [x].length = 0))) = true; rw [q2.wh]; simp)]
theorem wal_oct : ∀ (l : List Ent), (∀ e ∈ l, Eok e) → Oct (wal l)
  | [], _ => fun x hx => by simp [wal] at hx
  | e :: r, h => by
    have he := h e (by simp)
    have hr : ∀ n, Oct (List.replicate n 0) := fun n x hx => by rw [(List.mem_replicate.1 hx).2]; decide
    have hw : ∀ d, Oct d → Oct (wh512 d) := fun d hd => hd.app (hr _)
    have hno := nmd_oct he.n
    have h0 : Oct [0] := fun x hx => by simp at hx; omega
    refine Oct.app ?_ (wal_oct r fun x hx => h x (List.mem_cons_of_mem _ hx))
    unfold wen
    split
    · refine (hdr_oct hno ?_).app (hw _ he.d)
      unfold wotk; split <;> decide
    · refine Oct.app ?_ ((hdr_oct hno (by decide)).app (hw _ he.d))
      have hp := sad_oct kpath_oct hno
      have hz := sad_oct ksize_oct (dgs_oct _ _ (Nat.le_refl e.2.1.length))
      unfold wpr
      split
      · exact (hdr_oct oct_x (by decide)).app (hw _ (hno.app h0))
      · split
        · exact (hdr_oct oct_x (by decide)).app (hw _ hp)
        · split
          · exact (hdr_oct oct_x (by decide)).app (hw _ (hp.app hz))
          · intro x hx; simp at hx
theorem wri_oct {l : List Ent} (h : ∀ e ∈ l, Eok e) : Oct (wri l) := (wal_oct l h).app fun x hx => by rw [(List.mem_replicate.1 hx).2]; decide
theorem wri_len {l : List Ent} (h : ∀ e ∈ l, Eok e) (hl : l.length ≤ 1000) : (wri l).length ≤ 300000000 := by
  have := wal_len l h
  unfold wri
  rw [List.length_append, List.length_replicate]
  omega
end Go.Proofs.YtcmmjbkgoafbnaaGreatDoor

/-
  What the machine makes of a header and its data, whatever they are. No walk.
-/
namespace Go.Proofs.YtcmmjbkgoafbnaaGreatDoor
set_option linter.unusedVariables false
set_option linter.unusedSimpArgs false
/-- Behind a header and all its data: p bytes of a block have come. -/
structure Sw (c : Cm) (y p : Nat) (s : Ts) : Prop where
  wh : s.wh = (if p = 0 then 0 else 2)
  ps : s.ps = p
  why : s.why = y
  bl : s.B.length = 512
  kl : s.K.length = 1024
  cm : (s.nm, s.sz) = c
/-- Data is to come. -/
structure Dt (U Z : Nat) (c : Cm) (s : Ts) : Prop where
  wh : s.wh = 1
  ps : s.ps = 0
  why : s.why = 0
  bl : s.B.length = 512
  kl : s.K.length = 1024
  cm : (s.nm, s.sz) = c
  us : s.us = U
  lf : s.lf = Z
  ln : 2 ≤ U → s.ln = 0
theorem nought_list {h : List Nat} (hl : h.length = 512) (hn : noughts h = true) : h = List.replicate 512 0 := by
  unfold noughts at hn
  rw [List.all_eq_true] at hn
  exact List.eq_replicate_iff.2 ⟨hl, fun x hx => by simpa using hn x hx⟩
section
variable {t : Nat} {s : Ts} {c : Cm} {h : List Nat}
theorem hd_stop {y : Nat} (hs : Sd c s) (hl : h.length = 512) (ht : ∀ S : Ts, S.B = h → thead S = ({ S with why := y }, [])) : ∃ s', Mr t s h s' [] ∧ s'.why = y := by
  have hb := run_block (h := h) (t := t) hs.why hs.wh hs.ps hs.bl hl
  rw [ht _ rfl] at hb
  refine ⟨_, hb, ?_⟩
  unfold tnx
  split <;> rfl
theorem hd_sum (hs : Sd c s) (hl : h.length = 512) (h1 : noughts h = false) (h2 : rgt h = false) : ∃ s', Mr t s h s' [] ∧ s'.why = 44 :=
  hd_stop hs hl fun S e => by unfold thead; rw [e, if_neg (by rw [h1]; decide), if_pos h2]
theorem hd_num (hs : Sd c s) (hl : h.length = 512) (h1 : noughts h = false) (h2 : rgt h = true) (h3 : fld ((h.drop 124).take 12) = none) : ∃ s', Mr t s h s' [] ∧ s'.why = 48 :=
  hd_stop hs hl fun S e => by unfold thead; rw [e, if_neg (by rw [h1]; decide), if_neg (by rw [h2]; decide), h3]
theorem hd_much {z : Nat} (hs : Sd c s) (hl : h.length = 512) (h1 : noughts h = false) (h2 : rgt h = true) (h3 : fld ((h.drop 124).take 12) = some z) (h4 : tmuch (tkd h) z = true) : ∃ s', Mr t s h s' [] ∧ s'.why = 46 :=
  hd_stop hs hl fun S e => by unfold thead; rw [e, if_neg (by rw [h1]; decide), if_neg (by rw [h2]; decide), h3]; simp only; rw [if_pos h4]
/-- What is asked of a header that is right. -/
structure Hg (h : List Nat) (z : Nat) : Prop where
  len : h.length = 512
  no : noughts h = false
  ri : rgt h = true
  fl : fld ((h.drop 124).take 12) = some z
  mu : tmuch (tkd h) z = false
theorem Hg.most {z : Nat} (g : Hg h z) (c : Option Nat) (h2 : 2 ≤ tus (tkd h)) : tsz (tkd h) z c ≤ 1024 := by
  have hm := g.mu
  obtain ⟨k, hk⟩ : ∃ k, tkd h = k := ⟨_, rfl⟩
  rw [hk] at hm h2 ⊢
  unfold tus at h2
  unfold tmuch at hm
  by_cases h7 : k = 76
  · subst h7
    simp at hm
    show z ≤ 1024
    omega
  · by_cases h8 : k = 120
    · subst h8
      simp at hm
      show z ≤ 1024
      exact hm
    · rw [if_neg h7, if_neg h8] at h2
      split at h2 <;> omega
theorem hd_good {z : Nat} (hs : Sd c s) (g : Hg h z) : ∃ S, (tsz (tkd h) z c.2 = 0 → Mr t s h S (evs (t + 511) (topn h c.1 ++ tcl (tus (tkd h)))) ∧ Sw (tfin (tus (tkd h)) [] (tcm (tkd h) c)).1 (tfin (tus (tkd h)) [] (tcm (tkd h) c)).2 0 S) ∧ (tsz (tkd h) z c.2 ≠ 0 → Mr t s h S (evs (t + 511) (topn h c.1)) ∧ Dt (tus (tkd h)) (tsz (tkd h) z c.2) (tcm (tkd h) c) S) := by
  have hb := run_block (h := h) (t := t) (s := s) hs.why hs.wh hs.ps hs.bl g.len
  obtain ⟨cn, cz⟩ := c
  obtain ⟨hc1, hc2⟩ : s.nm = cn ∧ s.sz = cz := by have := hs.cm; simpa using this
  obtain ⟨k, hk⟩ : ∃ k, tkd h = k := ⟨_, rfl⟩
  have ht : thead { s with B := h, ps := 0 } = ((tbeg (tus k) (tsz k z cz) { s with B := h, ps := 0, ln := if town k || tus k == 0 then s.ln else 0, nm := (tcm k (cn, cz)).1, sz := (tcm k (cn, cz)).2 }).1, topn h cn ++ (tbeg (tus k) (tsz k z cz) { s with B := h, ps := 0 }).2) := by
    refine (thead_of (s := { s with B := h, ps := 0 }) g.no g.ri g.fl hk (by rw [← hk]; exact g.mu)).trans ?_
    show ((tbeg (tus k) (tsz k z s.sz) { s with B := h, ps := 0, ln := if town k || tus k == 0 then s.ln else 0, nm := (tcm k (s.nm, s.sz)).1, sz := (tcm k (s.nm, s.sz)).2 }).1, topn h s.nm ++ (tbeg (tus k) (tsz k z s.sz) { s with B := h, ps := 0 }).2) = _
    rw [hc1, hc2]
  rw [ht] at hb
  rw [hk]
  obtain ⟨S1, hS1⟩ : ∃ S1 : Ts, { s with B := h, ps := 0, ln := if town k || tus k == 0 then s.ln else 0, nm := (tcm k (cn, cz)).1, sz := (tcm k (cn, cz)).2 } = S1 := ⟨_, rfl⟩
  have q : S1.wh = 0 ∧ S1.ps = 0 ∧ S1.why = 0 ∧ S1.B.length = 512 ∧ S1.K.length = 1024 ∧ (S1.nm, S1.sz) = tcm k (cn, cz) ∧ (2 ≤ tus k → S1.ln = 0) := by
    rw [← hS1]
    refine ⟨hs.wh, rfl, hs.why, g.len, hs.kl, rfl, fun h2 => ?_⟩
    show (if town k || tus k == 0 then s.ln else 0) = 0
    rw [tus_own h2]; rfl
  rw [hS1] at hb
  obtain ⟨g1, g2, g3, g4, g5, g6, g7⟩ := q
  refine ⟨tnx (tbeg (tus k) (tsz k z cz) S1).1, fun hz0 => ?_, fun hz0 => ?_⟩
  · simp only at hz0
    have e1 : ∀ S, tbeg (tus k) (tsz k z cz) S = (tend { S with us := tus k, lf := tsz k z cz }, tcl (tus k)) := fun S => by unfold tbeg; rw [if_pos hz0]
    rw [e1] at hb ⊢
    rw [e1] at hb
    have hkt : tfin (tus k) (S1.K.take S1.ln) (tcm k (cn, cz)) = tfin (tus k) [] (tcm k (cn, cz)) := by
      by_cases h2 : 2 ≤ tus k
      · rw [g7 h2, List.take_zero]
      · exact tfin_low h2 _ _ _
    have hw : tnx (tend { S1 with us := tus k, lf := tsz k z cz }) = tend { S1 with us := tus k, lf := tsz k z cz } := by
      unfold tnx
      rw [if_neg (fun q => by have q1 : S1.wh = 2 := q.1; omega)]
    refine ⟨hb, ?_⟩
    show Sw _ _ 0 (tnx (tend { S1 with us := tus k, lf := tsz k z cz }))
    rw [hw]
    refine ⟨g1, g2, ?_, g4, g5, ?_⟩
    · show (tfin (tus k) (S1.K.take S1.ln) (S1.nm, S1.sz)).2 = _
      rw [g6, hkt]
    · show ((tfin (tus k) (S1.K.take S1.ln) (S1.nm, S1.sz)).1.1, (tfin (tus k) (S1.K.take S1.ln) (S1.nm, S1.sz)).1.2) = _
      rw [g6, hkt]
  · simp only at hz0
    have e1 : ∀ S, tbeg (tus k) (tsz k z cz) S = ({ S with us := tus k, lf := tsz k z cz, wh := 1 }, []) := fun S => by unfold tbeg; rw [if_neg hz0]
    rw [e1] at hb ⊢
    rw [e1] at hb
    have hw : tnx ({ S1 with us := tus k, lf := tsz k z cz, wh := 1 } : Ts) = { S1 with us := tus k, lf := tsz k z cz, wh := 1 } := tnx_wh rfl
    rw [List.append_nil] at hb
    refine ⟨hb, ?_⟩
    show Dt _ _ _ (tnx ({ S1 with us := tus k, lf := tsz k z cz, wh := 1 } : Ts))
    rw [hw]
    exact ⟨rfl, g2, g3, g4, g5, g6, rfl, rfl, g7⟩
theorem dt_all {us Z : Nat} {d : List Nat} (hs : Dt us Z c s) (hd : d.length = Z) (hZ : Z ≠ 0) (hus : us ≤ 3) (hK : 2 ≤ us → Z ≤ 1024) : ∃ S, Mr t s d S (bts us t d ++ evs (t + d.length - 1) (tcl us)) ∧ Sw (tfin us d c).1 (tfin us d c).2 (d.length % 512) S := by
  have hr := run_all (l := d) (t := t) hs.why hs.wh (by rw [hs.lf]; exact hd) (by omega) (by rw [hs.ps]; decide) (by rw [hs.us]; exact hus) (fun h => by rw [hs.us] at h; rw [hs.ln h, hs.lf, hs.kl, Nat.zero_add]; exact hK h)
  have hkt : tfin us ((tdt d s).K.take (tdt d s).ln) c = tfin us d c := by
    by_cases h2 : 2 ≤ us
    · have hl := hs.ln h2
      have e : tdt d s = { s with K := s.K.take s.ln ++ d ++ s.K.drop (s.ln + d.length), ln := s.ln + d.length, lf := s.lf - d.length, ps := (s.ps + d.length) % 512 } := by unfold tdt; rw [if_pos (by rw [hs.us]; omega)]
      rw [e]
      show tfin us ((s.K.take s.ln ++ d ++ s.K.drop (s.ln + d.length)).take (s.ln + d.length)) c = _
      rw [hl, List.take_zero, List.nil_append, Nat.zero_add, List.take_left]
    · exact tfin_low h2 _ _ _
  have hfld : (tdt d s).us = s.us ∧ (tdt d s).nm = s.nm ∧ (tdt d s).sz = s.sz ∧ (tdt d s).ps = d.length % 512 ∧ (tdt d s).B = s.B ∧ (tdt d s).K.length = 1024 := by
    unfold tdt
    split
    · refine ⟨rfl, rfl, rfl, ?_, rfl, ?_⟩
      · show (s.ps + d.length) % 512 = _; rw [hs.ps, Nat.zero_add]
      · show (s.K.take s.ln ++ d ++ s.K.drop (s.ln + d.length)).length = 1024
        rename_i h2
        rw [hs.us] at h2
        have hl := hs.ln (by omega)
        have := hK (by omega)
        rw [hl, List.length_append, List.length_append, List.length_take, List.length_drop, hs.kl]
        omega
    · exact ⟨rfl, rfl, rfl, by show (s.ps + d.length) % 512 = _; rw [hs.ps, Nat.zero_add], rfl, hs.kl⟩
  obtain ⟨f1, f2, f3, f4, f5, f6⟩ := hfld
  have hcm := hs.cm
  obtain ⟨S2, hS2⟩ : ∃ S2, tend { tdt d s with wh := 2 } = S2 := ⟨_, rfl⟩
  have g : S2.wh = 2 ∧ S2.ps = d.length % 512 ∧ S2.why = (tfin us d c).2 ∧ S2.B.length = 512 ∧ S2.K.length = 1024 ∧ (S2.nm, S2.sz) = (tfin us d c).1 := by
    rw [← hS2]
    refine ⟨rfl, f4, ?_, by show (tdt d s).B.length = 512; rw [f5]; exact hs.bl, f6, ?_⟩
    · show (tfin (tdt d s).us ((tdt d s).K.take (tdt d s).ln) ((tdt d s).nm, (tdt d s).sz)).2 = _
      rw [f1, f2, f3, hcm, hs.us, hkt]
    · show ((tfin (tdt d s).us ((tdt d s).K.take (tdt d s).ln) ((tdt d s).nm, (tdt d s).sz)).1.1, (tfin (tdt d s).us ((tdt d s).K.take (tdt d s).ln) ((tdt d s).nm, (tdt d s).sz)).1.2) = _
      rw [f1, f2, f3, hcm, hs.us, hkt]
  rw [hS2, hs.us] at hr
  obtain ⟨g1, g2, g3, g4, g5, g6⟩ := g
  by_cases hm : d.length % 512 = 0
  · have e : tnx S2 = { S2 with wh := 0 } := by unfold tnx; rw [if_pos ⟨g1, by rw [g2, hm]⟩]
    rw [e] at hr
    exact ⟨_, hr, by rw [hm]; rfl, g2, g3, g4, g5, g6⟩
  · have e : tnx S2 = S2 := by unfold tnx; rw [if_neg (by rw [g2]; omega)]
    rw [e] at hr
    exact ⟨_, hr, by rw [if_neg hm]; exact g1, g2, g3, g4, g5, g6⟩
theorem zfin_mid {s : Ts} (h0 : s.why = 0) (h3 : s.wh ≠ 3) (h : s.wh ≠ 0 ∨ s.ps ≠ 0) : zfin s = 1 := by
  unfold zfin
  rw [if_neg (fun q => q h0), if_neg]
  unfold twhl
  rcases h with h | h <;> simp [h3, h]
theorem dt_part {us Z : Nat} {d : List Nat} (hs : Dt us Z c s) (hd : d.length < Z) (hus : us ≤ 3) (hK : 2 ≤ us → Z ≤ 1024) : ∃ S, Mr t s d S (bts us t d) ∧ S.why = 0 ∧ zfin S = 1 := by
  have hr := run_data d t s hs.why hs.wh (by rw [hs.lf]; exact hd) (by rw [hs.ps]; decide) (by rw [hs.us]; exact hus) (fun h => by rw [hs.us] at h; rw [hs.ln h, hs.lf, hs.kl, Nat.zero_add]; exact hK h)
  rw [hs.us] at hr
  have e : (tdt d s).why = 0 ∧ (tdt d s).wh = 1 := by
    unfold tdt
    split
    · exact ⟨hs.why, hs.wh⟩
    · exact ⟨hs.why, hs.wh⟩
  exact ⟨_, hr, e.1, zfin_mid e.1 (by rw [e.2]; decide) (Or.inl (by rw [e.2]; decide))⟩
theorem sw_pad {p : Nat} {l : List Nat} (hs : Sw c 0 p s) (hp : p < 512) (hl : l.length < (512 - p) % 512) : ∃ S, Mr t s l S [] ∧ S.why = 0 ∧ zfin S = 1 := by
  have h0 : p ≠ 0 := fun e => by subst e; simp at hl
  have hw : s.wh = 2 := by rw [hs.wh, if_neg h0]
  have hr := run_pad l t s hs.why hw (by rw [hs.ps]; omega) (by rw [hs.ps]; have : (512 - p) % 512 ≤ 512 - p := Nat.mod_le _ _; omega)
  exact ⟨_, hr, hs.why, zfin_mid hs.why (by show s.wh ≠ 3; rw [hw]; decide) (Or.inl (by show s.wh ≠ 0; rw [hw]; decide))⟩
theorem sw_rest {p : Nat} {l : List Nat} (hs : Sw c 0 p s) (hp : p < 512) (hl : l.length = (512 - p) % 512) : ∃ S, Mr t s l S [] ∧ Sd c S := by
  by_cases h0 : p = 0
  · subst h0
    have : l = [] := List.eq_nil_of_length_eq_zero hl
    subst this
    exact ⟨s, ⟨rfl, rfl⟩, ⟨hs.wh, hs.ps, hs.why, hs.bl, hs.kl, hs.cm⟩⟩
  · have hw : s.wh = 2 := by rw [hs.wh, if_neg h0]
    have e : (512 - p) % 512 = 512 - p := Nat.mod_eq_of_lt (by omega)
    have hr := run_rest (l := l) (t := t) hs.why hw (by rw [hs.ps]; omega) (by rw [hs.ps]; omega) (by rw [hs.ps]; exact hp)
    exact ⟨_, hr, ⟨rfl, rfl, hs.why, hs.bl, hs.kl, hs.cm⟩⟩
/-- A header's and its data's events. -/
def hev (h : List Nat) (cn : Option (List Nat)) (at_ : Nat) (d : List Nat) : List Gev := evs (at_ + 511) (topn h cn) ++ bts (tus (tkd h)) (at_ + 512) d
theorem evs_append (t : Nat) (E F : List Evn) : evs t (E ++ F) = evs t E ++ evs t F := by simp [evs]
theorem bts_nil (us t : Nat) : bts us t [] = [] := by unfold bts; split <;> rfl
theorem seg_all {z : Nat} {d : List Nat} (hs : Sd c s) (g : Hg h z) (hd : d.length = tsz (tkd h) z c.2) : ∃ S, Mr t s (h ++ d) S (hev h c.1 t d ++ evs (t + 511 + d.length) (tcl (tus (tkd h)))) ∧ Sw (tfin (tus (tkd h)) d (tcm (tkd h) c)).1 (tfin (tus (tkd h)) d (tcm (tkd h) c)).2 (d.length % 512) S := by
  obtain ⟨S1, q1, q2⟩ := hd_good (t := t) hs g
  have hK := g.most c.2
  by_cases hz0 : tsz (tkd h) z c.2 = 0
  · obtain ⟨r1, r2⟩ := q1 hz0
    have hdn : d = [] := List.eq_nil_of_length_eq_zero (by omega)
    subst hdn
    refine ⟨S1, ?_, r2⟩
    rw [List.append_nil]
    unfold hev
    rw [bts_nil, List.append_nil]
    rw [evs_append] at r1
    exact r1
  · obtain ⟨r1, r2⟩ := q2 hz0
    obtain ⟨S2, v1, v2⟩ := dt_all (t := t + 512) r2 hd hz0 (tus_le _) hK
    refine ⟨S2, ?_, v2⟩
    refine (mr_append _ _ _ _ _ _).2 ⟨_, _, _, r1, by rw [g.len]; exact v1, ?_⟩
    unfold hev
    rw [List.append_assoc, show t + 512 + d.length - 1 = t + 511 + d.length by omega]
theorem seg_part {z : Nat} {d : List Nat} (hs : Sd c s) (g : Hg h z) (hd : d.length < tsz (tkd h) z c.2) : ∃ S, Mr t s (h ++ d) S (hev h c.1 t d) ∧ S.why = 0 ∧ zfin S = 1 := by
  obtain ⟨S1, _, q2⟩ := hd_good (t := t) hs g
  obtain ⟨r1, r2⟩ := q2 (by omega)
  obtain ⟨S2, v1, v2⟩ := dt_part (t := t + 512) r2 hd (tus_le _) (g.most c.2)
  exact ⟨S2, (mr_append _ _ _ _ _ _).2 ⟨_, _, _, r1, by rw [g.len]; exact v1, rfl⟩, v2⟩
end
/-- What the document's run comes to: events, why it was stopped, with which byte. -/
structure Fo (b : List Nat) (T : List Gev) (y p : Nat) : Prop where
  ex : ∃ k s, Rch b k s T ∧ ((s.why ≠ 0 ∧ y = s.why ∧ p + 1 = k) ∨ (s.why = 0 ∧ k = b.length ∧ y = zfin s ∧ p = b.length ∧ (y = 0 ∨ y = 1)))
/-- Where it stands ahead of a header. -/
structure Lp (b : List Nat) (at_ : Nat) (T : List Gev) (c : Cm) : Prop where
  ex : ∃ s, Rch b at_ s T ∧ Sd c s
theorem Lp.start (b : List Nat) : Lp b 0 [] (none, none) := ⟨t0, rch_zero b, sd0⟩
section
variable {b T : List Nat} {at_ : Nat} {c : Cm} {T : List Gev}
/-- The header's block. -/
def hb (b : List Nat) (at_ : Nat) : List Nat := (b.drop at_).take 512
theorem hb_len (h : at_ + 512 ≤ b.length) : (hb b at_).length = 512 := by unfold hb; rw [List.length_take, List.length_drop]; omega
theorem Lp.fin (h : Lp b b.length T c) : Fo b T 0 b.length := by
  obtain ⟨s, h1, h2⟩ := h.ex
  exact ⟨_, s, h1, Or.inr ⟨h2.why, rfl, by unfold zfin; rw [if_neg (fun q => q h2.why), if_pos (by unfold twhl; rw [h2.wh, h2.ps]; rfl)], rfl, Or.inl rfl⟩⟩
theorem Lp.go {m : List Nat} {s s' : Ts} {U : List Gev} (h1 : Rch b at_ s T) (hm : m = (b.drop at_).take m.length) (hr : Mr at_ s m s' U) (hl : at_ + m.length = b.length) (h0 : s'.why = 0) (hz : zfin s' = 1) : Fo b (T ++ U) 1 b.length := by
  have := h1.run hm hr
  rw [hl] at this
  exact ⟨_, s', this, Or.inr ⟨h0, rfl, hz.symm, rfl, Or.inr rfl⟩⟩
theorem Lp.cut (h : Lp b at_ T c) (h1 : at_ < b.length) (h2 : b.length < at_ + 512) : Fo b T 1 b.length := by
  obtain ⟨s, hr, hs⟩ := h.ex
  have hl : (b.drop at_).length = b.length - at_ := List.length_drop
  have hm := run_head (b.drop at_) [] s.B at_ s hs.why hs.wh hs.ps rfl hs.bl (by show 0 + _ < 512; omega)
  have := Lp.go hr (by rw [List.take_length]) hm (by omega) hs.why (zfin_mid hs.why (by show s.wh ≠ 3; rw [hs.wh]; decide) (Or.inr (by show 0 + (b.drop at_).length ≠ 0; omega)))
  rwa [List.append_nil] at this
theorem Lp.bad {y : Nat} (h : Lp b at_ T c) (h1 : at_ + 512 ≤ b.length) (hy : y ≠ 0) (hs : ∀ s, Sd c s → ∃ s', Mr at_ s (hb b at_) s' [] ∧ s'.why = y) : Fo b T y (at_ + 511) := by
  obtain ⟨s, hr, hd⟩ := h.ex
  obtain ⟨s', q1, q2⟩ := hs s hd
  have hl := hb_len h1
  have := hr.run (m := hb b at_) (by rw [hl]; rfl) q1
  rw [hl, List.append_nil] at this
  exact ⟨_, s', this, Or.inl ⟨by rw [q2]; exact hy, q2.symm, rfl⟩⟩
theorem Lp.sum (h : Lp b at_ T c) (h1 : at_ + 512 ≤ b.length) (h2 : noughts (hb b at_) = false) (h3 : rgt (hb b at_) = false) : Fo b T 44 (at_ + 511) := h.bad h1 (by decide) fun s hs => hd_sum hs (hb_len h1) h2 h3
theorem Lp.num (h : Lp b at_ T c) (h1 : at_ + 512 ≤ b.length) (h2 : noughts (hb b at_) = false) (h3 : rgt (hb b at_) = true) (h4 : fld (((hb b at_).drop 124).take 12) = none) : Fo b T 48 (at_ + 511) := h.bad h1 (by decide) fun s hs => hd_num hs (hb_len h1) h2 h3 h4
theorem Lp.much {z : Nat} (h : Lp b at_ T c) (h1 : at_ + 512 ≤ b.length) (h2 : noughts (hb b at_) = false) (h3 : rgt (hb b at_) = true) (h4 : fld (((hb b at_).drop 124).take 12) = some z) (h5 : tmuch (tkd (hb b at_)) z = true) : Fo b T 46 (at_ + 511) := h.bad h1 (by decide) fun s hs => hd_much hs (hb_len h1) h2 h3 h4 h5
theorem Lp.zero (h : Lp b at_ T c) (h1 : at_ + 512 ≤ b.length) (h2 : noughts (hb b at_) = true) : Fo b T 0 b.length := by
  obtain ⟨s, hr, hs⟩ := h.ex
  obtain ⟨s2, r1, r2, r3, r4⟩ := zero_run (t := at_) hs
  rw [← nought_list (hb_len h1) h2] at r1
  have q1 := hr.run (m := hb b at_) (by rw [hb_len h1]; rfl) r1
  rw [hb_len h1, List.append_nil] at q1
  have ho := run_over (b.drop (at_ + 512)) (at_ + 512) s2 r3 r2 (by omega)
  have q2 := q1.run (m := b.drop (at_ + 512)) (by rw [List.take_length]) ho
  rw [List.length_drop, List.append_nil, show at_ + 512 + (b.length - (at_ + 512)) = b.length by omega] at q2
  refine ⟨_, _, q2, Or.inr ⟨r3, rfl, ?_, rfl, Or.inl rfl⟩⟩
  unfold zfin
  rw [if_neg (fun q => q r3), if_pos (by unfold twhl; show (decide (s2.wh = 3) || _) = true; rw [r2]; rfl)]
theorem hb_split (Z : Nat) (h1 : at_ + 512 ≤ b.length) : hb b at_ ++ (b.drop (at_ + 512)).take Z = (b.drop at_).take (hb b at_ ++ (b.drop (at_ + 512)).take Z).length := by
  have hl := hb_len h1
  rw [List.length_append, hl]
  unfold hb
  rw [List.take_add, List.drop_drop]
  congr 1
  rw [List.length_take]
  apply List.ext_getElem?
  intro i
  rw [List.getElem?_take, List.getElem?_take]
  by_cases h : i < Z
  · by_cases h3 : i < (b.drop (at_ + 512)).length
    · rw [if_pos h, if_pos (by omega)]
    · rw [if_pos h, if_neg (by omega), List.getElem?_eq_none (by omega)]
  · rw [if_neg h, if_neg (by omega)]
theorem Lp.part {z : Nat} (h : Lp b at_ T c) (h1 : at_ + 512 ≤ b.length) (g : Hg (hb b at_) z) (hd : b.length - at_ - 512 < tsz (tkd (hb b at_)) z c.2) : Fo b (T ++ hev (hb b at_) c.1 at_ (b.drop (at_ + 512))) 1 b.length := by
  obtain ⟨s, hr, hs⟩ := h.ex
  have hl : (b.drop (at_ + 512)).length = b.length - at_ - 512 := by rw [List.length_drop]; omega
  obtain ⟨S, q1, q2, q3⟩ := seg_part (t := at_) (d := b.drop (at_ + 512)) hs g (by omega)
  have e := hb_split (b.length - at_ - 512) h1
  rw [List.take_of_length_le (by omega)] at e
  exact Lp.go hr e q1 (by rw [List.length_append, hb_len h1, hl]; omega) q2 q3
/-- All data is there. -/
theorem Lp.all {z Z : Nat} {c' : Cm} {y : Nat} (h : Lp b at_ T c) (h1 : at_ + 512 ≤ b.length) (g : Hg (hb b at_) z) (hZ : tsz (tkd (hb b at_)) z c.2 = Z) (hd : Z ≤ b.length - at_ - 512) (hf : tfin (tus (tkd (hb b at_))) ((b.drop (at_ + 512)).take Z) (tcm (tkd (hb b at_)) c) = (c', y)) :
    ∃ S, Rch b (at_ + 512 + Z) S (T ++ (hev (hb b at_) c.1 at_ ((b.drop (at_ + 512)).take Z) ++ evs (at_ + 511 + Z) (tcl (tus (tkd (hb b at_)))))) ∧ Sw c' y (Z % 512) S := by
  obtain ⟨s, hr, hs⟩ := h.ex
  have hl : ((b.drop (at_ + 512)).take Z).length = Z := by rw [List.length_take, List.length_drop]; omega
  obtain ⟨S, q1, q2⟩ := seg_all (t := at_) (d := (b.drop (at_ + 512)).take Z) hs g (by rw [hl, hZ])
  have := hr.run (hb_split Z h1) q1
  rw [List.length_append, hb_len h1, hl] at this
  rw [hf, hl] at q2
  exact ⟨S, by rw [show at_ + 512 + Z = at_ + (512 + Z) by omega]; exact this, q2⟩
theorem Lp.told {z Z : Nat} {c' : Cm} {y : Nat} (h : Lp b at_ T c) (h1 : at_ + 512 ≤ b.length) (g : Hg (hb b at_) z) (hZ : tsz (tkd (hb b at_)) z c.2 = Z) (hd : Z ≤ b.length - at_ - 512) (hf : tfin (tus (tkd (hb b at_))) ((b.drop (at_ + 512)).take Z) (tcm (tkd (hb b at_)) c) = (c', y)) (hy : y ≠ 0) :
    Fo b (T ++ (hev (hb b at_) c.1 at_ ((b.drop (at_ + 512)).take Z) ++ evs (at_ + 511 + Z) (tcl (tus (tkd (hb b at_)))))) y (at_ + 511 + Z) := by
  obtain ⟨S, q1, q2⟩ := h.all h1 g hZ hd hf
  exact ⟨_, S, q1, Or.inl ⟨by rw [q2.why]; exact hy, q2.why.symm, by omega⟩⟩
theorem Lp.pad {z Z : Nat} {c' : Cm} (h : Lp b at_ T c) (h1 : at_ + 512 ≤ b.length) (g : Hg (hb b at_) z) (hZ : tsz (tkd (hb b at_)) z c.2 = Z) (hd : Z ≤ b.length - at_ - 512) (hf : tfin (tus (tkd (hb b at_))) ((b.drop (at_ + 512)).take Z) (tcm (tkd (hb b at_)) c) = (c', 0)) (hp : b.length - at_ - 512 - Z < (512 - Z % 512) % 512) :
    Fo b (T ++ (hev (hb b at_) c.1 at_ ((b.drop (at_ + 512)).take Z) ++ evs (at_ + 511 + Z) (tcl (tus (tkd (hb b at_)))))) 1 b.length := by
  obtain ⟨S, q1, q2⟩ := h.all h1 g hZ hd hf
  have hl : (b.drop (at_ + 512 + Z)).length = b.length - at_ - 512 - Z := by rw [List.length_drop]; omega
  obtain ⟨S2, r1, r2, r3⟩ := sw_pad (t := at_ + 512 + Z) (l := b.drop (at_ + 512 + Z)) q2 (Nat.mod_lt _ (by decide)) (by omega)
  have := Lp.go q1 (by rw [List.take_length]) r1 (by omega) r2 r3
  rwa [List.append_nil] at this
theorem Lp.next {z Z : Nat} {c' : Cm} (h : Lp b at_ T c) (h1 : at_ + 512 ≤ b.length) (g : Hg (hb b at_) z) (hZ : tsz (tkd (hb b at_)) z c.2 = Z) (hd : Z ≤ b.length - at_ - 512) (hf : tfin (tus (tkd (hb b at_))) ((b.drop (at_ + 512)).take Z) (tcm (tkd (hb b at_)) c) = (c', 0)) (hp : (512 - Z % 512) % 512 ≤ b.length - at_ - 512 - Z) :
    Lp b (at_ + 512 + Z + (512 - Z % 512) % 512) (T ++ (hev (hb b at_) c.1 at_ ((b.drop (at_ + 512)).take Z) ++ evs (at_ + 511 + Z) (tcl (tus (tkd (hb b at_)))))) c' := by
  obtain ⟨S, q1, q2⟩ := h.all h1 g hZ hd hf
  obtain ⟨P, hP⟩ : ∃ P, (512 - Z % 512) % 512 = P := ⟨_, rfl⟩
  have hl : ((b.drop (at_ + 512 + Z)).take P).length = P := by rw [List.length_take, List.length_drop]; omega
  obtain ⟨S2, r1, r2⟩ := sw_rest (t := at_ + 512 + Z) (l := (b.drop (at_ + 512 + Z)).take P) q2 (Nat.mod_lt _ (by decide)) (by rw [hl, hP])
  have := q1.run (m := (b.drop (at_ + 512 + Z)).take P) (by rw [hl]) r1
  rw [hl, List.append_nil] at this
  rw [hP]
  exact ⟨S2, this, r2⟩
end
end Go.Proofs.YtcmmjbkgoafbnaaGreatDoor

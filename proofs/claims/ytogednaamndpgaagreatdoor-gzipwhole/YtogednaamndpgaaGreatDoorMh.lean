/-
  Own texts of this seat, one behind the other: what each says stands ahead of it.
-/
import Derived.Test.YtogednaamndpgaaGreatDoorMg
import Derived.Laws.AppendOwnNone
import Derived.Deep.RegionHeld3
/-
  What the document's stored comes to: a stored block, told by the machine's steps.
-/
namespace Go.Proofs.YtogednaamndpgaaGreatDoor
open Go.RowKit
set_option linter.unusedVariables false
variable {w u : World} {base R L C most : Nat} {a : Option Addr} {s : Rs} {vO vT : Value} {B : List Nat}
theorem Ctx.move (h : Ctx B base R a L C most w s vO vT) (p : Nat) (hp : p ≤ 8 * L) : Ctx B base R a L C most (w.setCell ⟨R, 7, none⟩ (.int .i64 (p : Int))) { s with pos := p } vO vT ∧ Chg R vO vT vO vT w (w.setCell ⟨R, 7, none⟩ (.int .i64 (p : Int))) :=
  ⟨h.on (h.run.move p).1 (Chg.of_only (h.run.move p).2) hp h.og, Chg.of_only (h.run.move p).2⟩
set_option maxRecDepth 100000 in
set_option maxHeartbeats 8000000 in
theorem stored_c (h : Ctx B base R a L C most w s vO vT) (ho : Opn s) (last : Bool) :
    Calls Tryz.prog 60 #[.pointer (some ⟨R, 0, none⟩)] w fun e w' => e = .returned (.tuple #[]) ∧ Left B base R a L C most vO vT w w' ⟨.slen last, s.pos, s.out, s.times⟩ (.head last) := by
  obtain ⟨c0, hc0⟩ : ∃ c0, (⟨.slen last, s.pos, s.out, s.times⟩ : Cfg) = c0 := ⟨_, rfl⟩
  rw [hc0]
  obtain ⟨p, hp⟩ : ∃ p, s.pos = p := ⟨_, rfl⟩
  obtain ⟨P, hP⟩ : ∃ P, (p + 7) / 8 * 8 = P := ⟨_, rfl⟩
  have hpl := h.pos
  have hlb := h.lb
  rw [hp] at hpl
  have hPL : P ≤ 8 * L := by omega
  have c7 := h.run.c7
  have f7 := h.run.fz 7
  rw [hp] at c7
  have hmv := h.move P hPL
  obtain ⟨s1, hs1⟩ : ∃ s1 : Rs, { s with pos := P } = s1 := ⟨_, rfl⟩
  obtain ⟨w1, hw1⟩ : ∃ w1, w.setCell ⟨R, 7, none⟩ (.int .i64 (P : Int)) = w1 := ⟨_, rfl⟩
  rw [hs1, hw1] at hmv
  have ho1 : Opn s1 := by rw [← hs1]; exact ho
  have hpI : ((p : Int) + 7) / 8 * 8 = (P : Int) := by omega
  have API : Aside (((p : Int) + 7) / 8 * 8 = (P : Int)) := hpI
  have hp7 : (p : Int) + 7 < 9000000000000000000 := by omega
  have AS : Aside (s.pos = p ∧ (p + 7) / 8 * 8 = P ∧ s1.pos = P ∧ s1.out = s.out ∧ s1.times = s.times ∧ Opn s1 ∧ Opn s ∧ (⟨.slen last, s.pos, s.out, s.times⟩ : Cfg) = c0) := ⟨hp, hP, by rw [← hs1], by rw [← hs1], by rw [← hs1], ho1, ho, hc0⟩
  have A1 : Aside (Ctx B base R a L C most w1 s1 vO vT ∧ Chg R vO vT vO vT w w1) := hmv
  clear h hmv hs1 hc0 hp hP hpl ho ho1 hlb hpI
  go_enter Tryz.func60, Tryz.ntmps60
  go_upto_region 1 with fail
  rw [API.out, hw1]
  clear hw1 c7 f7 hp7
  obtain ⟨num1, hnum1⟩ : ∃ num1, num? (allb B) P 16 = num1 := ⟨_, rfl⟩
  cases num1 with
  | none =>
    have hno := A1.out.1.number_none 16 (by omega) (by rw [AS.out.2.2.1]; exact hnum1)
    have hfin : Fin (allb B) most L c0 { s1 with why := 1, at_ := L } := by
      have q := AS.out
      rw [← q.2.2.2.2.2.2.2]
      exact Fin.cut (by unfold step; simp only [q.1, q.2.1, hnum1]; rfl) q.2.2.2.1 q.2.2.2.2.1 q.2.2.2.2.2.1.2 (by intro y e; cases e) (by intro e; cases e)
    have hop : ∀ W, Ctx B base R a L C most W { s1 with why := 1, at_ := L } vO vT → Calls Tryz.prog 58 #[.pointer (some ⟨R, 0, none⟩)] W fun e w' => e = .returned (.bool false) ∧ W = w' := fun W hW => hW.open_ false hfin.opn
    have AF : Aside (Fin (allb B) most L c0 { s1 with why := 1, at_ := L }) := hfin
    clear hfin hnum1
    go_wp2_with (first
      | (go_at_call 59; refine hno.mono ?_; rintro e2 w2 ⟨rfl, hc2, hg2⟩)
      | (go_at_call 58; refine (hop _ hc2).mono ?_; rintro e3 w3 ⟨rfl, rfl⟩))
    first | (refine bodyPost_ret (results_none rfl _ _ _) rfl ?_) | go_end0
    exact ⟨rfl, Left.of hc2 (A1.out.2.trans hg2) (Runs.refl _) (Or.inr AF.out)⟩
  | some l =>
    have hyes := A1.out.1.number_some 16 l (by omega) (by rw [AS.out.2.2.1]; exact hnum1)
    have hl16 := numb_lt hnum1
    obtain ⟨s2, hs2⟩ : ∃ s2 : Rs, { s1 with pos := s1.pos + 16 } = s2 := ⟨_, rfl⟩
    rw [hs2] at hyes
    have A2 : Aside (Opn s2 ∧ Runs (allb B) most c0 ⟨.snot last l, s2.pos, s2.out, s2.times⟩) := by
      have q := AS.out
      refine ⟨by rw [← hs2]; exact q.2.2.2.2.2.1, ?_⟩
      rw [← q.2.2.2.2.2.2.2, ← hs2]
      refine Runs.one ?_
      unfold step
      simp only [q.1, q.2.1, hnum1, q.2.2.1, q.2.2.2.1, q.2.2.2.2.1]
      rfl
    have hop : ∀ W, Ctx B base R a L C most W s2 vO vT → Calls Tryz.prog 58 #[.pointer (some ⟨R, 0, none⟩)] W fun e w' => e = .returned (.bool true) ∧ W = w' := fun W hW => hW.open_ true A2.out.1.opn
    clear hs2 hnum1 AS
    cases hnum2 : num? (allb B) s2.pos 16 with
    | none =>
      have hno : ∀ W, Ctx B base R a L C most W s2 vO vT → Calls Tryz.prog 59 #[.pointer (some ⟨R, 0, none⟩), .int .i64 16] W fun e w' => e = .returned (.int .i64 0) ∧ Ctx B base R a L C most w' { s2 with why := 1, at_ := L } vO vT ∧ Chg R vO vT vO vT W w' := fun W hW => hW.number_none 16 (by omega) hnum2
      have hfin : Fin (allb B) most L ⟨.snot last l, s2.pos, s2.out, s2.times⟩ { s2 with why := 1, at_ := L } := Fin.cut (by unfold step; simp only [hnum2]; rfl) rfl rfl A2.out.1.2 (by intro y e; cases e) (by intro e; cases e)
      have hop3 : ∀ W, Ctx B base R a L C most W { s2 with why := 1, at_ := L } vO vT → Calls Tryz.prog 58 #[.pointer (some ⟨R, 0, none⟩)] W fun e w' => e = .returned (.bool false) ∧ W = w' := fun W hW => hW.open_ false hfin.opn
      have AF : Aside (Fin (allb B) most L ⟨.snot last l, s2.pos, s2.out, s2.times⟩ { s2 with why := 1, at_ := L }) := hfin
      clear hfin hnum2
      go_wp2_with (first
        | (go_at_call 59; (fail_if_success (have hh := hg2)); refine hyes.mono ?_; rintro e2 w2 ⟨rfl, hc2, hg2⟩)
        | (go_at_call 58; (fail_if_success (have hh := hg4)); refine (hop _ hc2).mono ?_; rintro e3 w3 ⟨rfl, rfl⟩)
        | (go_at_call 59; refine (hno _ hc2).mono ?_; rintro e4 w4 ⟨rfl, hc4, hg4⟩)
        | (go_at_call 58; refine (hop3 _ hc4).mono ?_; rintro e5 w5 ⟨rfl, rfl⟩))
      first | (refine bodyPost_ret (results_none rfl _ _ _) rfl ?_) | go_end0
      exact ⟨rfl, Left.of hc4 ((A1.out.2.trans hg2).trans hg4) A2.out.2 (Or.inr AF.out)⟩
    | some m =>
      have hyes2 : ∀ W, Ctx B base R a L C most W s2 vO vT → Calls Tryz.prog 59 #[.pointer (some ⟨R, 0, none⟩), .int .i64 16] W fun e w' => e = .returned (.int .i64 (m : Int)) ∧ Ctx B base R a L C most w' { s2 with pos := s2.pos + 16 } vO vT ∧ Chg R vO vT vO vT W w' := fun W hW => hW.number_some 16 m (by omega) hnum2
      have hm16 := numb_lt hnum2
      obtain ⟨s3, hs3⟩ : ∃ s3 : Rs, { s2 with pos := s2.pos + 16 } = s3 := ⟨_, rfl⟩
      rw [hs3] at hyes2
      have A3 : Aside (Opn s3 ∧ Runs (allb B) most c0 ⟨if l + m = 65535 then .sraw last l else .bad 11, s3.pos, s3.out, s3.times⟩) := by
        refine ⟨by rw [← hs3]; exact A2.out.1, A2.out.2.trans ?_⟩
        rw [← hs3]
        refine Runs.one ?_
        unfold step
        simp only [hnum2]
        rfl
      have hop3 : ∀ W, Ctx B base R a L C most W s3 vO vT → Calls Tryz.prog 58 #[.pointer (some ⟨R, 0, none⟩)] W fun e w' => e = .returned (.bool true) ∧ W = w' := fun W hW => hW.open_ true A3.out.1.opn
      have hl64 : l < 65536 := hl16
      have hm64 : m < 65536 := hm16
      clear hs3 hnum2 A2 hl16 hm16
      by_cases hlm : l + m = 65535
      · have tlm : ((l : Int) + (m : Int) == 65535) = true := beq_iff_eq.2 (by omega)
        have A4 : Aside (Runs (allb B) most c0 ⟨.sraw last l, s3.pos, s3.out, s3.times⟩) := by have := A3.out.2; rw [if_pos hlm] at this; exact this
        clear hlm
        go_upto_region 7 with (first
          | (go_at_call 59; (fail_if_success (have hh := hg2)); refine hyes.mono ?_; rintro e2 w2 ⟨rfl, hc2, hg2⟩)
          | (go_at_call 58; (fail_if_success (have hh := hg4)); refine (hop _ hc2).mono ?_; rintro e3 w3 ⟨rfl, rfl⟩)
          | (go_at_call 59; refine (hyes2 _ hc2).mono ?_; rintro e4 w4 ⟨rfl, hc4, hg4⟩)
          | (go_at_call 58; refine (hop3 _ hc4).mono ?_; rintro e5 w5 ⟨rfl, rfl⟩))
        have A5 : Aside (Ctx B base R a L C most w4 s3 vO vT ∧ Chg R vO vT vO vT w w4) := ⟨hc4, (A1.out.2.trans hg2).trans hg4⟩
        clear hc2 hg2 hc4 hg4 hyes hyes2 hop hop3 hm64
        go_wp2_with fail
        clear tlm
        generalize ((l : Int) + (m : Int) != 65535) = blm
        go_loopg [4] (l + 1) (fun g si wr => ∃ i : Nat, si = .int .i64 (i : Int) ∧ Aside (i + g = l + 1 ∧ i ≤ l ∧ ∃ s4 vO4 vT4 c4, Ctx B base R a L C most wr s4 vO4 vT4 ∧ Chg R vO vT vO4 vT4 w wr ∧ Runs (allb B) most c0 c4 ∧ ((Opn s4 ∧ c4 = ⟨.sraw last (l - i), s4.pos, s4.out, s4.times⟩) ∨ Fin (allb B) most L c4 s4)))
        case atStart => exact ⟨0, rfl, by omega, by omega, s3, vO, vT, _, A5.out.1, A5.out.2, A4.out, Or.inl ⟨A3.out.1, rfl⟩⟩
        case round =>
          obtain ⟨i, rfl, hI⟩ := hrel
          obtain ⟨s4, vO4, vT4, c4, hc4, hg4, hr4, hcase⟩ := hI.out.2.2
          have hI1 := hI.out.1
          have hI2 := hI.out.2.1
          rcases hcase with ⟨ho4, hc4e⟩ | hfin
          · by_cases hin : i < l
            · have ti : (i : Int) < (l : Int) := by omega
              have hop := hc4.open_ true ho4.opn
              cases hnum3 : num? (allb B) s4.pos 8 with
              | none =>
                have hno := hc4.number_none 8 (by omega) hnum3
                have hfin : Fin (allb B) most L c4 { s4 with why := 1, at_ := L } := by
                  rw [hc4e, show l - i = (l - (i + 1)) + 1 by omega]
                  exact Fin.cut (by unfold step; simp only [hnum3]; rfl) rfl rfl ho4.2 (by intro y e; cases e) (by intro e; cases e)
                have hop3 : ∀ W, Ctx B base R a L C most W { s4 with why := 1, at_ := L } vO4 vT4 → Calls Tryz.prog 58 #[.pointer (some ⟨R, 0, none⟩)] W fun e w' => e = .returned (.bool false) ∧ W = w' := fun W hW => hW.open_ false hfin.opn
                have AF : Aside (Fin (allb B) most L c4 { s4 with why := 1, at_ := L } ∧ Chg R vO vT vO4 vT4 w wr ∧ Runs (allb B) most c0 c4 ∧ i + gk = l + 1 ∧ i < l) := ⟨hfin, hg4, hr4, hI1, hin⟩
                clear hfin hnum3 hI hI1 hI2 hc4 hg4 hr4 ho4 hc4e hin
                go_wp2_with (first
                  | (go_at_call 58; (fail_if_success (have hh := hg7)); refine hop.mono ?_; rintro e6 w6 ⟨rfl, rfl⟩)
                  | (go_at_call 59; refine hno.mono ?_; rintro e7 w7 ⟨rfl, hc7, hg7⟩)
                  | (go_at_call 58; refine (hop3 _ hc7).mono ?_; rintro e8 w8 ⟨rfl, rfl⟩))
                have A7 : Aside (Ctx B base R a L C most w7 { s4 with why := 1, at_ := L } vO4 vT4 ∧ Chg R vO vT vO4 vT4 w w7) := ⟨hc7, AF.out.2.1.trans hg7⟩
                clear hc7 hg7 hop hop3 hno
                go_roundg (l - i)
                case measure => have := AF.out; omega
                case rel =>
                  have q := AF.out
                  exact ⟨i + 1, by go_num, by omega, by omega, _, vO4, vT4, c4, A7.out.1, A7.out.2, q.2.2.1, Or.inr q.1⟩
              | some b =>
                have hyes := hc4.number_some 8 b (by omega) hnum3
                have hb256 : b < 256 := numb_lt hnum3
                obtain ⟨s5, hs5⟩ : ∃ s5 : Rs, { s4 with pos := s4.pos + 8 } = s5 := ⟨_, rfl⟩
                rw [hs5] at hyes
                have ho5 : Opn s5 := by rw [← hs5]; exact ho4
                have hst : Runs (allb B) most c0 (give most (.sraw last (l - (i + 1))) b s5.pos ⟨.sraw last (l - (i + 1)), s5.pos, s5.out, s5.times⟩) := by
                  refine hr4.trans (Runs.one ?_)
                  rw [hc4e, show l - i = (l - (i + 1)) + 1 by omega, ← hs5]
                  unfold step
                  simp only [hnum3]
                  rfl
                have hop3 : ∀ W, Ctx B base R a L C most W s5 vO4 vT4 → Calls Tryz.prog 58 #[.pointer (some ⟨R, 0, none⟩)] W fun e w' => e = .returned (.bool true) ∧ W = w' := fun W hW => hW.open_ true ho5.opn
                have hgv : ∀ W, Ctx B base R a L C most W s5 vO4 vT4 → Calls Tryz.prog 88 #[.pointer (some ⟨R, 0, none⟩), .int .u8 (b : Int)] W fun e w' => e = .returned (.tuple #[]) ∧ ∃ s' vO' vT' c', Ctx B base R a L C most w' s' vO' vT' ∧ Chg R vO4 vT4 vO' vT' W w' ∧ c' = give most (.sraw last (l - (i + 1))) b s5.pos ⟨.sraw last (l - (i + 1)), s5.pos, s5.out, s5.times⟩ ∧ ((Opn s' ∧ c' = ⟨.sraw last (l - (i + 1)), s'.pos, s'.out, s'.times⟩ ∧ s'.out = s5.out ++ [b] ∧ s'.pos = s5.pos) ∨ Fin (allb B) most L c' s') := fun W hW => hW.give ho5 b hb256 _
                have AF : Aside (Runs (allb B) most c0 (give most (.sraw last (l - (i + 1))) b s5.pos ⟨.sraw last (l - (i + 1)), s5.pos, s5.out, s5.times⟩) ∧ Chg R vO vT vO4 vT4 w wr ∧ i + gk = l + 1 ∧ i < l) := ⟨hst, hg4, hI1, hin⟩
                clear hst hnum3 hI hI1 hI2 hc4 hg4 hr4 ho4 hc4e hin hs5 ho5
                go_wp2_with (first
                  | (go_at_call 58; (fail_if_success (have hh := hg7)); refine hop.mono ?_; rintro e6 w6 ⟨rfl, rfl⟩)
                  | (go_at_call 59; refine hyes.mono ?_; rintro e7 w7 ⟨rfl, hc7, hg7⟩)
                  | (go_at_call 58; refine (hop3 _ hc7).mono ?_; rintro e8 w8 ⟨rfl, rfl⟩)
                  | (go_at_call 88; refine (hgv _ hc7).mono ?_; rintro e9 w9 ⟨rfl, s6, vO6, vT6, c6, hc6, hg6, hce6, hcase6⟩))
                have A9 : Aside (Ctx B base R a L C most w9 s6 vO6 vT6 ∧ Chg R vO vT vO6 vT6 w w9 ∧ Runs (allb B) most c0 c6 ∧ ((Opn s6 ∧ c6 = ⟨.sraw last (l - (i + 1)), s6.pos, s6.out, s6.times⟩) ∨ Fin (allb B) most L c6 s6)) := ⟨hc6, (AF.out.2.1.trans hg7).trans hg6, by rw [hce6]; exact AF.out.1, by
                  rcases hcase6 with ⟨q1, q2, _⟩ | q1
                  · exact Or.inl ⟨q1, q2⟩
                  · exact Or.inr q1⟩
                clear hc7 hg7 hop hop3 hyes hgv hc6 hg6 hce6 hcase6
                go_roundg (l - i)
                case measure => have := AF.out; omega
                case rel =>
                  have q := AF.out
                  have q9 := A9.out
                  exact ⟨i + 1, by go_num, by omega, by omega, s6, vO6, vT6, c6, q9.1, q9.2.1, q9.2.2.1, q9.2.2.2⟩
            · have hil : i = l := by omega
              subst hil
              have ti : ¬ (i : Int) < (i : Int) := by omega
              have AR : Aside (Left B base R a L C most vO vT w wr c0 (.head last)) := Left.of hc4 hg4 (hr4.trans (Runs.one (by rw [hc4e, Nat.sub_self]; rfl))) (Or.inl ⟨ho4, rfl⟩)
              clear hI hI1 hI2 hc4 hg4 hr4 ho4 hc4e hin
              go_wp2_with fail
              first | (refine bodyPost_ret (results_none rfl _ _ _) rfl ?_) | go_end0
              exact ⟨rfl, AR.out⟩
          · have hop := hc4.open_ false hfin.opn
            have AR : Aside (Left B base R a L C most vO vT w wr c0 (.head last)) := Left.of hc4 hg4 hr4 (Or.inr hfin)
            by_cases hin : i < l
            · have ti : (i : Int) < (l : Int) := by omega
              clear hI hI1 hI2 hc4 hg4 hr4 hfin hin
              go_wp2_with (go_at_call 58; refine hop.mono ?_; rintro e9 w9 ⟨rfl, rfl⟩)
              first | (refine bodyPost_ret (results_none rfl _ _ _) rfl ?_) | go_end0
              exact ⟨rfl, AR.out⟩
            · have ti : ¬ (i : Int) < (l : Int) := by omega
              clear hI hI1 hI2 hc4 hg4 hr4 hfin hin
              go_wp2_with fail
              first | (refine bodyPost_ret (results_none rfl _ _ _) rfl ?_) | go_end0
              exact ⟨rfl, AR.out⟩
      · have tlm : ((l : Int) + (m : Int) == 65535) = false := beq_eq_false_iff_ne.2 (by omega)
        have hst : ∀ W, Ctx B base R a L C most W s3 vO vT → Calls Tryz.prog 63 #[.pointer (some ⟨R, 0, none⟩), .int .i64 11] W fun e w' => e = .returned (.tuple #[]) ∧ Ctx B base R a L C most w' { s3 with why := 11, at_ := (s3.pos - 1) / 8 } vO vT ∧ Chg R vO vT vO vT W w' := fun W hW => hW.stop 11
        have AF : Aside (Runs (allb B) most c0 ⟨.bad 11, s3.pos, s3.out, s3.times⟩ ∧ Fin (allb B) most L ⟨.bad 11, s3.pos, s3.out, s3.times⟩ { s3 with why := 11, at_ := (s3.pos - 1) / 8 }) := ⟨by have := A3.out.2; rw [if_neg hlm] at this; exact this, Fin.bad 11 rfl rfl rfl A3.out.1.2 (by decide) rfl⟩
        clear hlm
        go_wp2_with (first
          | (go_at_call 59; (fail_if_success (have hh := hg2)); refine hyes.mono ?_; rintro e2 w2 ⟨rfl, hc2, hg2⟩)
          | (go_at_call 58; (fail_if_success (have hh := hg4)); refine (hop _ hc2).mono ?_; rintro e3 w3 ⟨rfl, rfl⟩)
          | (go_at_call 59; refine (hyes2 _ hc2).mono ?_; rintro e4 w4 ⟨rfl, hc4, hg4⟩)
          | (go_at_call 58; refine (hop3 _ hc4).mono ?_; rintro e5 w5 ⟨rfl, rfl⟩)
          | (go_at_call 63; refine (hst _ hc4).mono ?_; rintro e6 w6 ⟨rfl, hc6, hg6⟩))
        first | (refine bodyPost_ret (results_none rfl _ _ _) rfl ?_) | go_end0
        exact ⟨rfl, Left.of hc6 (((A1.out.2.trans hg2).trans hg4).trans hg6) AF.out.1 (Or.inr AF.out.2)⟩
end Go.Proofs.YtogednaamndpgaaGreatDoor

/-
  What the document's Fixed and Order come to: lists of numbers.
-/
namespace Go.Proofs.YtogednaamndpgaaGreatDoor
open Go.RowKit
set_option linter.unusedVariables false
def iz (l : List Nat) : List Int := l.map fun x : Nat => (x : Int)
theorem lens_iz (l : List Nat) : lens (iz l) = l := by
  unfold lens iz
  rw [List.map_map]
  conv => rhs; rw [← List.map_id l]
  exact List.map_congr_left fun x _ => by simp
theorem fixL_len : fixL.length = 288 := by simp [fixL]
theorem fixL_at {i n : Nat} (h : i < 288) (hn : (if 256 ≤ i ∧ i < 280 then 7 else if 144 ≤ i ∧ i < 256 then 9 else 8) = n) : fixL[i]? = some n := by
  rw [← hn]; simp [fixL, h]
theorem own_lens {w : World} {base n : Nat} {v : Value} {l : List Nat} (h : w.ownsRow base 3 1 v n (vt l)) (hn : l.length = n) : ∃ a c, v = .slice a n c ∧ Lens w a (iz l) ∧ n ≤ c ∧ (a = none → n = 0 ∧ c = 0) ∧ (∀ b o s, a = some ⟨b, o, s⟩ → base ≤ b) := by
  rcases h.2 with ⟨hv, h0⟩ | ⟨g, c, cur, hv, hg, hh, hc, hm, hs, ht⟩
  · exact ⟨none, 0, by rw [hv, h0], Or.inl (by rw [List.eq_nil_of_length_eq_zero (by omega : l.length = 0)]; rfl), by omega, (fun _ => ⟨h0, rfl⟩), (fun b o s e => by cases e)⟩
  · refine ⟨_, c, hv, Or.inr ⟨g, 0, rfl, fun i z hz => ?_⟩, hc, (fun e => by cases e), (fun b o s e => by cases e; exact hg)⟩
    rw [Nat.zero_add, Cells.cell (cs := cur) (t := 3) hh]
    unfold iz at hz
    rw [List.getElem?_map] at hz
    cases e1 : l[i]? with
    | none => rw [e1] at hz; cases hz
    | some x =>
      rw [e1] at hz
      have hz' : (x : Int) = z := by simpa using hz
      have hi : i < l.length := (List.getElem?_eq_some_iff.1 e1).1
      have e : (cur.toList.take (n * 1))[i]? = some (.int .i64 (x : Int)) := by rw [ht]; simp [vt, e1]
      rw [List.getElem?_take, if_pos (by omega)] at e
      rw [← hz']
      simpa using e
def FixedTo (w : World) (e : Ending) (w' : World) : Prop := ∃ la lc da dc, e = .returned (.tuple #[.slice la 288 lc, .slice da 32 dc]) ∧ Lens w' la (iz fixL) ∧ Lens w' da (iz fixD) ∧ Below w.heap.size w w'
set_option maxRecDepth 100000 in
set_option maxHeartbeats 4000000 in
theorem fixed_c (w : World) : Calls Tryz.prog 50 #[] w fun e w' => FixedTo w e w' := by
  obtain ⟨i3, hi3, hz30, hz31, hz32⟩ := info_parts info3'
  obtain ⟨W, hW⟩ : ∃ W, w.heap.size = W := ⟨_, rfl⟩
  have AW : Aside (w.heap.size = W) := hW
  clear hW
  go_enter Tryz.func50, Tryz.ntmps50
  go_wp2_with fail
  go_loopg [2, 4] 288 (fun g vl si wr => ∃ i : Nat, si = .int .i64 (i : Int) ∧ Aside (i + g = 288 ∧ wr.ownsRow W 3 1 vl i (vt (fixL.take i)) ∧ Below W w wr))
  case atStart => exact ⟨0, rfl, by omega, World.ownsRow_nil _ _ _ _, Below.refl _ _⟩
  case round =>
    obtain ⟨i, rfl, hI⟩ := hrel
    by_cases hi8 : i < 288
    · have ti : (i : Int) < 288 := by omega
      by_cases h0 : i < 144
      · have _z0 : True := trivial
        have t0 : ¬ ((144 : Int) ≤ (i : Int)) := by omega
        have t1 : ¬ ((256 : Int) ≤ (i : Int)) := by omega
        have hv : fixL[i]? = some 8 := fixL_at (by omega) (by rw [if_neg (by omega), if_neg (by omega)])
        have AV : Aside (i < 288 ∧ i + gk = 288 ∧ fixL.take (i + 1) = fixL.take i ++ [8] ∧ wr.ownsRow W 3 1 u2 i (vt (fixL.take i)) ∧ Below W w wr ∧ W ≤ wr.heap.size) := ⟨hi8, hI.out.1, by rw [List.take_add_one, hv]; rfl, hI.out.2.1, hI.out.2.2, by rw [← AW.out]; exact hI.out.2.2.size⟩
        clear hI hi8 h0 hv
        obtain ⟨H, hH⟩ : ∃ H, wr.heap.size = H := ⟨_, rfl⟩
        go_wp2_with (at_builtin; refine wpList_append_own _ rfl (.tmp 23) (.tmp 25) 74 rfl W 3 i3 (.int .i64 0) 1 8 Tryz.underlying74 hi3 hz30 hz31 hz32 rfl (by decide) u2 i (vt (fixL.take i)) (by rfl) (own_alloc AV.out.2.2.2.1 _) ⟨H, 0, none⟩ 1 1 [.int .i64 8] (by rfl) rfl (fun j u hu => by rw [add_off, Nat.zero_add, ← hH, (Cells.new wr #[.int .i64 8] 3).cell]; simpa using hu) (by simp [Value.oneCell']) (by unfold maxLen; have := AV.out; omega) (by have := AV.out; omega) (by have := AV.out; have := size_al' wr (.cells #[.int .i64 8] 3); omega) ?_; intro v3 w3 hown3 hgrow3 hnil3)
        have A3 : Aside (w3.ownsRow W 3 1 v3 (i + 1) (vt (fixL.take (i + 1))) ∧ Below W w w3) := by
          have q := AV.out
          refine ⟨by rw [q.2.2.1]; simpa [vt] using hown3, ?_⟩
          have h2 : Below W w (wr.alloc (.cells #[.int .i64 8] 3)) := q.2.2.2.2.1.alloc q.2.2.2.2.2 _
          exact h2.trans ((Below.refl _ _).grown hgrow3 (by have := size_al' wr (.cells #[.int .i64 8] 3); omega) (fun g hg => (q.2.2.2.1.lt g hg).1))
        clear hown3 hgrow3 hnil3 hH
        go_roundg (288 - (i + 1))
        case measure => have := AV.out; omega
        case rel => exact ⟨i + 1, by go_num, by have := AV.out; omega, A3.out.1, A3.out.2⟩
      by_cases h1 : i < 256
      · have _z1 : True := trivial
        have t0 : (144 : Int) ≤ (i : Int) := by omega
        have t1 : (i : Int) < 256 := by omega
        have t2 : ¬ ((256 : Int) ≤ (i : Int)) := by omega
        have hv : fixL[i]? = some 9 := fixL_at (by omega) (by rw [if_neg (by omega), if_pos (by omega)])
        have AV : Aside (i < 288 ∧ i + gk = 288 ∧ fixL.take (i + 1) = fixL.take i ++ [9] ∧ wr.ownsRow W 3 1 u2 i (vt (fixL.take i)) ∧ Below W w wr ∧ W ≤ wr.heap.size) := ⟨hi8, hI.out.1, by rw [List.take_add_one, hv]; rfl, hI.out.2.1, hI.out.2.2, by rw [← AW.out]; exact hI.out.2.2.size⟩
        clear hI hi8 h0 h1 hv
        obtain ⟨H, hH⟩ : ∃ H, wr.heap.size = H := ⟨_, rfl⟩
        go_wp2_with (at_builtin; refine wpList_append_own _ rfl (.tmp 23) (.tmp 25) 74 rfl W 3 i3 (.int .i64 0) 1 8 Tryz.underlying74 hi3 hz30 hz31 hz32 rfl (by decide) u2 i (vt (fixL.take i)) (by rfl) (own_alloc AV.out.2.2.2.1 _) ⟨H, 0, none⟩ 1 1 [.int .i64 9] (by rfl) rfl (fun j u hu => by rw [add_off, Nat.zero_add, ← hH, (Cells.new wr #[.int .i64 9] 3).cell]; simpa using hu) (by simp [Value.oneCell']) (by unfold maxLen; have := AV.out; omega) (by have := AV.out; omega) (by have := AV.out; have := size_al' wr (.cells #[.int .i64 9] 3); omega) ?_; intro v3 w3 hown3 hgrow3 hnil3)
        have A3 : Aside (w3.ownsRow W 3 1 v3 (i + 1) (vt (fixL.take (i + 1))) ∧ Below W w w3) := by
          have q := AV.out
          refine ⟨by rw [q.2.2.1]; simpa [vt] using hown3, ?_⟩
          have h2 : Below W w (wr.alloc (.cells #[.int .i64 9] 3)) := q.2.2.2.2.1.alloc q.2.2.2.2.2 _
          exact h2.trans ((Below.refl _ _).grown hgrow3 (by have := size_al' wr (.cells #[.int .i64 9] 3); omega) (fun g hg => (q.2.2.2.1.lt g hg).1))
        clear hown3 hgrow3 hnil3 hH
        go_roundg (288 - (i + 1))
        case measure => have := AV.out; omega
        case rel => exact ⟨i + 1, by go_num, by have := AV.out; omega, A3.out.1, A3.out.2⟩
      by_cases h2 : i < 280
      · have _z2 : True := trivial
        have t0 : (144 : Int) ≤ (i : Int) := by omega
        have t1 : ¬ ((i : Int) < 256) := by omega
        have t2 : (256 : Int) ≤ (i : Int) := by omega
        have t3 : (i : Int) < 280 := by omega
        have hv : fixL[i]? = some 7 := fixL_at (by omega) (by rw [if_pos (by omega)])
        have AV : Aside (i < 288 ∧ i + gk = 288 ∧ fixL.take (i + 1) = fixL.take i ++ [7] ∧ wr.ownsRow W 3 1 u2 i (vt (fixL.take i)) ∧ Below W w wr ∧ W ≤ wr.heap.size) := ⟨hi8, hI.out.1, by rw [List.take_add_one, hv]; rfl, hI.out.2.1, hI.out.2.2, by rw [← AW.out]; exact hI.out.2.2.size⟩
        clear hI hi8 h0 h1 h2 hv
        obtain ⟨H, hH⟩ : ∃ H, wr.heap.size = H := ⟨_, rfl⟩
        go_wp2_with (at_builtin; refine wpList_append_own _ rfl (.tmp 23) (.tmp 25) 74 rfl W 3 i3 (.int .i64 0) 1 8 Tryz.underlying74 hi3 hz30 hz31 hz32 rfl (by decide) u2 i (vt (fixL.take i)) (by rfl) (own_alloc AV.out.2.2.2.1 _) ⟨H, 0, none⟩ 1 1 [.int .i64 7] (by rfl) rfl (fun j u hu => by rw [add_off, Nat.zero_add, ← hH, (Cells.new wr #[.int .i64 7] 3).cell]; simpa using hu) (by simp [Value.oneCell']) (by unfold maxLen; have := AV.out; omega) (by have := AV.out; omega) (by have := AV.out; have := size_al' wr (.cells #[.int .i64 7] 3); omega) ?_; intro v3 w3 hown3 hgrow3 hnil3)
        have A3 : Aside (w3.ownsRow W 3 1 v3 (i + 1) (vt (fixL.take (i + 1))) ∧ Below W w w3) := by
          have q := AV.out
          refine ⟨by rw [q.2.2.1]; simpa [vt] using hown3, ?_⟩
          have h2 : Below W w (wr.alloc (.cells #[.int .i64 7] 3)) := q.2.2.2.2.1.alloc q.2.2.2.2.2 _
          exact h2.trans ((Below.refl _ _).grown hgrow3 (by have := size_al' wr (.cells #[.int .i64 7] 3); omega) (fun g hg => (q.2.2.2.1.lt g hg).1))
        clear hown3 hgrow3 hnil3 hH
        go_roundg (288 - (i + 1))
        case measure => have := AV.out; omega
        case rel => exact ⟨i + 1, by go_num, by have := AV.out; omega, A3.out.1, A3.out.2⟩
      have t0 : (144 : Int) ≤ (i : Int) := by omega
      have t1 : ¬ ((i : Int) < 256) := by omega
      have t2 : (256 : Int) ≤ (i : Int) := by omega
      have t3 : ¬ ((i : Int) < 280) := by omega
      have hv : fixL[i]? = some 8 := fixL_at (by omega) (by rw [if_neg (by omega), if_neg (by omega)])
      have AV : Aside (i < 288 ∧ i + gk = 288 ∧ fixL.take (i + 1) = fixL.take i ++ [8] ∧ wr.ownsRow W 3 1 u2 i (vt (fixL.take i)) ∧ Below W w wr ∧ W ≤ wr.heap.size) := ⟨hi8, hI.out.1, by rw [List.take_add_one, hv]; rfl, hI.out.2.1, hI.out.2.2, by rw [← AW.out]; exact hI.out.2.2.size⟩
      clear hI hi8 h0 h1 h2 hv
      obtain ⟨H, hH⟩ : ∃ H, wr.heap.size = H := ⟨_, rfl⟩
      go_wp2_with (at_builtin; refine wpList_append_own _ rfl (.tmp 23) (.tmp 25) 74 rfl W 3 i3 (.int .i64 0) 1 8 Tryz.underlying74 hi3 hz30 hz31 hz32 rfl (by decide) u2 i (vt (fixL.take i)) (by rfl) (own_alloc AV.out.2.2.2.1 _) ⟨H, 0, none⟩ 1 1 [.int .i64 8] (by rfl) rfl (fun j u hu => by rw [add_off, Nat.zero_add, ← hH, (Cells.new wr #[.int .i64 8] 3).cell]; simpa using hu) (by simp [Value.oneCell']) (by unfold maxLen; have := AV.out; omega) (by have := AV.out; omega) (by have := AV.out; have := size_al' wr (.cells #[.int .i64 8] 3); omega) ?_; intro v3 w3 hown3 hgrow3 hnil3)
      have A3 : Aside (w3.ownsRow W 3 1 v3 (i + 1) (vt (fixL.take (i + 1))) ∧ Below W w w3) := by
        have q := AV.out
        refine ⟨by rw [q.2.2.1]; simpa [vt] using hown3, ?_⟩
        have h2 : Below W w (wr.alloc (.cells #[.int .i64 8] 3)) := q.2.2.2.2.1.alloc q.2.2.2.2.2 _
        exact h2.trans ((Below.refl _ _).grown hgrow3 (by have := size_al' wr (.cells #[.int .i64 8] 3); omega) (fun g hg => (q.2.2.2.1.lt g hg).1))
      clear hown3 hgrow3 hnil3 hH
      go_roundg (288 - (i + 1))
      case measure => have := AV.out; omega
      case rel => exact ⟨i + 1, by go_num, by have := AV.out; omega, A3.out.1, A3.out.2⟩
    · have hi2 : i = 288 := by have := hI.out.1; omega
      subst hi2
      have ti : ¬ ((288 : Nat) : Int) < 288 := by omega
      have hw1 : wr.ownsRow W 3 1 u2 288 (vt fixL) := by have := hI.out.2.1; rw [List.take_of_length_le (by rw [fixL_len]; omega)] at this; exact this
      obtain ⟨la, lc, hvl, hll, _, _, hlb⟩ := own_lens hw1 fixL_len
      obtain ⟨w1, hww⟩ : ∃ w1, w1 = wr := ⟨_, rfl⟩
      obtain ⟨W2, hW2⟩ : ∃ W2, wr.heap.size = W2 := ⟨_, rfl⟩
      have A1 : Aside (Lens w1 la (iz fixL) ∧ Below W w w1 ∧ w1.heap.size = W2) := by rw [hww]; exact ⟨hll, hI.out.2.2, hW2⟩
      subst hww
      subst hvl
      clear hI hi8 hw1 hll hlb hW2
      go_wp2_with fail
      go_loopg [3, 6] 32 (fun g vd si wr => ∃ k : Nat, si = .int .i64 (k : Int) ∧ Aside (k + g = 32 ∧ wr.ownsRow W2 3 1 vd k (vt (List.replicate k 5)) ∧ Below W2 w1 wr))
      case atStart => exact ⟨0, rfl, by omega, World.ownsRow_nil _ _ _ _, Below.refl _ _⟩
      case round =>
        obtain ⟨k, rfl, hK⟩ := hrel
        by_cases hk : k < 32
        · have tk : (k : Int) < 32 := by omega
          have AV : Aside (k < 32 ∧ k + gk = 32 ∧ wr.ownsRow W2 3 1 u3 k (vt (List.replicate k 5)) ∧ Below W2 w1 wr ∧ W2 ≤ wr.heap.size) := ⟨hk, hK.out.1, hK.out.2.1, hK.out.2.2, by rw [← A1.out.2.2]; exact hK.out.2.2.size⟩
          clear hK hk
          obtain ⟨H, hH⟩ : ∃ H, wr.heap.size = H := ⟨_, rfl⟩
          go_wp2_with (at_builtin; refine wpList_append_own _ rfl (.tmp 31) (.tmp 32) 74 rfl W2 3 i3 (.int .i64 0) 1 8 Tryz.underlying74 hi3 hz30 hz31 hz32 rfl (by decide) u3 k (vt (List.replicate k 5)) (by rfl) (own_alloc AV.out.2.2.1 _) ⟨H, 0, none⟩ 1 1 [.int .i64 5] (by rfl) rfl (fun j u hu => by rw [add_off, Nat.zero_add, ← hH, (Cells.new wr #[.int .i64 5] 3).cell]; simpa using hu) (by simp [Value.oneCell']) (by unfold maxLen; have := AV.out; omega) (by have := AV.out; omega) (by have := AV.out; have := size_al' wr (.cells #[.int .i64 5] 3); omega) ?_; intro v3 w3 hown3 hgrow3 hnil3)
          have A3 : Aside (w3.ownsRow W2 3 1 v3 (k + 1) (vt (List.replicate (k + 1) 5)) ∧ Below W2 w1 w3) := by
            have q := AV.out
            refine ⟨by rw [List.replicate_succ']; simpa [vt] using hown3, ?_⟩
            have h2 : Below W2 w1 (wr.alloc (.cells #[.int .i64 5] 3)) := q.2.2.2.1.alloc q.2.2.2.2 _
            exact h2.trans ((Below.refl _ _).grown hgrow3 (by have := size_al' wr (.cells #[.int .i64 5] 3); omega) (fun g hg => (q.2.2.1.lt g hg).1))
          clear hown3 hgrow3 hnil3 hH
          go_roundg (32 - (k + 1))
          case measure => have := AV.out; omega
          case rel => exact ⟨k + 1, by go_num, by have := AV.out; omega, A3.out.1, A3.out.2⟩
        · have hk2 : k = 32 := by have := hK.out.1; omega
          subst hk2
          have tk : ¬ ((32 : Nat) : Int) < 32 := by omega
          obtain ⟨da, dc, hvd, hdl, _, _, hdb⟩ := own_lens hK.out.2.1 (by simp)
          have A4 : Aside (Lens wr da (iz fixD) ∧ Lens wr la (iz fixL) ∧ Below w.heap.size w wr) := by
            have q := A1.out
            have hb : Below w1.heap.size w1 wr := by rw [q.2.2]; exact hK.out.2.2
            refine ⟨hdl, q.1.below hb, ?_⟩
            have h2 : Below W w wr := q.2.1.trans (hb.mono (by rw [← AW.out]; exact q.2.1.size))
            rw [AW.out]; exact h2
          subst hvd
          clear hK hk hdl hdb
          go_wp2_with fail
          first | go_ret | go_ret2
          exact ⟨la, lc, da, dc, rfl, A4.out.2.1, A4.out.1, A4.out.2.2⟩
/-- The order of the lengths of lengths. -/
theorem order_c (w : World) : Calls Tryz.prog 86 #[] w fun e w' => e = .returned (.slice (some ⟨w.heap.size, 0, none⟩) 19 19) ∧ Cells w' w.heap.size (vt ordr).toArray 3 ∧ Below w.heap.size w w' := by
  go_enter Tryz.func86, Tryz.ntmps86
  go_wp2_with fail
  first | go_ret | go_ret2
  exact ⟨rfl, Cells.new w _ 3, (Below.refl _ w).alloc (Nat.le_refl _) _⟩
end Go.Proofs.YtogednaamndpgaaGreatDoor

/-
  What the document's repeated comes to: how often a length is said.
-/
namespace Go.Proofs.YtogednaamndpgaaGreatDoor
open Go.RowKit
set_option linter.unusedVariables false
variable {w u : World} {base R L C most : Nat} {a : Option Addr} {s : Rs} {vO vT : Value} {B : List Nat}
set_option maxRecDepth 100000 in
set_option maxHeartbeats 4000000 in
theorem rep_len (h : Ctx B base R a L C most w s vO vT) (x : Nat) (hx : x < 16) (la : Option Addr) (ll lc : Nat) : Calls Tryz.prog 91 #[.pointer (some ⟨R, 0, none⟩), .int .i64 (x : Int), .slice la ll lc] w fun e w' => e = .returned (.tuple #[.int .i64 1, .int .i64 (x : Int)]) ∧ w = w' := by
  have t1 : ((x : Int) == 16) = false := beq_eq_false_iff_ne.2 (by omega)
  have t2 : ((x : Int) == 17) = false := beq_eq_false_iff_ne.2 (by omega)
  have t3 : ((x : Int) == 18) = false := beq_eq_false_iff_ne.2 (by omega)
  clear h
  go_enter Tryz.func91, Tryz.ntmps91
  go_wp2_with fail
  first | go_ret | go_ret2
  exact ⟨rfl, rfl⟩
set_option maxRecDepth 100000 in
set_option maxHeartbeats 4000000 in
theorem rep_first (h : Ctx B base R a L C most w s vO vT) (la : Option Addr) (lc : Nat) : Calls Tryz.prog 91 #[.pointer (some ⟨R, 0, none⟩), .int .i64 16, .slice la 0 lc] w fun e w' => e = .returned (.tuple #[.int .i64 0, .int .i64 0]) ∧ Ctx B base R a L C most w' { s with why := 12, at_ := (s.pos - 1) / 8 } vO vT ∧ Chg R vO vT vO vT w w' := by
  have hst := h.stop 12
  clear h
  go_enter Tryz.func91, Tryz.ntmps91
  go_wp2_with (go_at_call 63; refine hst.mono ?_; rintro e2 w2 ⟨rfl, hc2, hg2⟩)
  first | go_ret | go_ret2
  exact ⟨rfl, hc2, hg2⟩
set_option maxRecDepth 100000 in
set_option maxHeartbeats 4000000 in
theorem rep_nought (h : Ctx B base R a L C most w s vO vT) (x : Nat) (hx : x = 17 ∨ x = 18) (la : Option Addr) (ll lc : Nat) (v : Nat) (s' : Rs) (hv : (num? (allb B) s.pos (if x = 17 then 3 else 7) = some v ∧ s' = { s with pos := s.pos + (if x = 17 then 3 else 7) }) ∨ (num? (allb B) s.pos (if x = 17 then 3 else 7) = none ∧ v = 0 ∧ s' = { s with why := 1, at_ := L })) :
    Calls Tryz.prog 91 #[.pointer (some ⟨R, 0, none⟩), .int .i64 (x : Int), .slice la ll lc] w fun e w' => e = .returned (.tuple #[.int .i64 (((if x = 18 then 11 else 3) + v : Nat) : Int), .int .i64 0]) ∧ Ctx B base R a L C most w' s' vO vT ∧ Chg R vO vT vO vT w w' := by
  rcases hx with rfl | rfl
  · have hn : Calls Tryz.prog 59 #[.pointer (some ⟨R, 0, none⟩), .int .i64 3] w fun e w' => e = .returned (.int .i64 (v : Int)) ∧ Ctx B base R a L C most w' s' vO vT ∧ Chg R vO vT vO vT w w' := by
      rcases hv with ⟨h1, h2⟩ | ⟨h1, h2, h3⟩
      · rw [h2]; exact h.number_some 3 v (by omega) h1
      · rw [h3, h2]; exact h.number_none 3 (by omega) h1
    have hvb : v < 8 := by
      rcases hv with ⟨h1, _⟩ | ⟨_, h2, _⟩
      · exact numb_lt h1
      · omega
    clear h hv
    go_enter Tryz.func91, Tryz.ntmps91
    go_wp2_with (go_at_call 59; refine hn.mono ?_; rintro e2 w2 ⟨rfl, hc2, hg2⟩)
    first | go_ret | go_ret2
    exact ⟨by simp, hc2, hg2⟩
  · have hn : Calls Tryz.prog 59 #[.pointer (some ⟨R, 0, none⟩), .int .i64 7] w fun e w' => e = .returned (.int .i64 (v : Int)) ∧ Ctx B base R a L C most w' s' vO vT ∧ Chg R vO vT vO vT w w' := by
      rcases hv with ⟨h1, h2⟩ | ⟨h1, h2, h3⟩
      · rw [h2]; exact h.number_some 7 v (by omega) h1
      · rw [h3, h2]; exact h.number_none 7 (by omega) h1
    have hvb : v < 128 := by
      rcases hv with ⟨h1, _⟩ | ⟨_, h2, _⟩
      · exact numb_lt h1
      · omega
    clear h hv
    go_enter Tryz.func91, Tryz.ntmps91
    go_wp2_with (go_at_call 59; refine hn.mono ?_; rintro e2 w2 ⟨rfl, hc2, hg2⟩)
    first | go_ret | go_ret2
    exact ⟨by simp, hc2, hg2⟩
set_option maxRecDepth 100000 in
set_option maxHeartbeats 4000000 in
theorem rep_again (h : Ctx B base R a L C most w s vO vT) (la : Option Addr) (l : List Nat) (ll lc : Nat) (hll : l.length = ll) (hl0 : 0 < ll) (hlb : ll ≤ 1000) (hl : Kept (fun u => Lens u la (iz l)) R vO vT w) (z : Nat) (hz : l.getD (ll - 1) 0 = z) (v : Nat) (s' : Rs) (hv : (num? (allb B) s.pos 2 = some v ∧ s' = { s with pos := s.pos + 2 }) ∨ (num? (allb B) s.pos 2 = none ∧ v = 0 ∧ s' = { s with why := 1, at_ := L })) :
    Calls Tryz.prog 91 #[.pointer (some ⟨R, 0, none⟩), .int .i64 16, .slice la ll lc] w fun e w' => e = .returned (.tuple #[.int .i64 ((3 + v : Nat) : Int), .int .i64 (z : Int)]) ∧ Ctx B base R a L C most w' s' vO vT ∧ Chg R vO vT vO vT w w' := by
  have hn : Calls Tryz.prog 59 #[.pointer (some ⟨R, 0, none⟩), .int .i64 2] w.drew fun e w' => e = .returned (.int .i64 (v : Int)) ∧ Ctx B base R a L C most w' s' vO vT ∧ Chg R vO vT vO vT w.drew w' := by
    rcases hv with ⟨h1, h2⟩ | ⟨h1, h2, h3⟩
    · rw [h2]; exact h.drew.number_some 2 v (by omega) h1
    · rw [h3, h2]; exact h.drew.number_none 2 (by omega) h1
  have hvb : v < 4 := by
    rcases hv with ⟨h1, _⟩ | ⟨_, h2, _⟩
    · exact numb_lt h1
    · omega
  have hge : l[ll - 1]? = some z := by rw [← hz, List.getD_eq_getElem?_getD, List.getElem?_eq_getElem (by omega)]; rfl
  have hcell : ∀ u vO' vT', Chg R vO vT vO' vT' w u → ∀ b o, la = some ⟨b, o, none⟩ → u.cell? ⟨b, o + (ll - 1), none⟩ = some (.int .i64 (z : Int)) := by
    intro u vO' vT' hu b o hla
    rcases hl u vO' vT' hu with e | ⟨b', o', hla', hc⟩
    · have : l = [] := by unfold iz at e; simpa using e
      rw [this] at hll; simp at hll; omega
    · rw [hla] at hla'; cases hla'
      exact hc (ll - 1) z (by unfold iz; rw [List.getElem?_map, hge]; rfl)
  obtain ⟨b0, o0, rfl⟩ : ∃ b0 o0, la = some ⟨b0, o0, none⟩ := by
    rcases hl.now with e | ⟨b', o', hla', hc⟩
    · have : l = [] := by unfold iz at e; simpa using e
      rw [this] at hll; simp at hll; omega
    · exact ⟨b', o', hla'⟩
  obtain ⟨q, hq⟩ : ∃ q, ll - 1 = q := ⟨_, rfl⟩
  rw [hq] at hcell
  have c0 := hcell w vO vT (Chg.refl _ _ _ _) b0 o0 rfl
  have hc2' : Aside (∀ u, Chg R vO vT vO vT w.drew u → u.cell? ⟨b0, o0 + q, none⟩ = some (.int .i64 (z : Int))) := fun u hu => hcell u vO vT ((Chg.drawn ⟨1, rfl⟩).trans hu) b0 o0 rfl
  have hwr : ∀ x : Int, x = (ll : Int) - 1 → IntKind.i64.wrap x = (q : Int) := by intro x hx; rw [IntKind.wrap_i64, hx]; omega
  have hwr2 : ∀ x : Int, x = 3 + (v : Int) → IntKind.i64.wrap x = 3 + (v : Int) := by intro x hx; rw [IntKind.wrap_i64, hx]; omega
  have hqI : (q : Int) < (ll : Int) := by omega
  have tl0 : ((ll : Int) == 0) = false := beq_eq_false_iff_ne.2 (by omega)
  clear h hv hl hz hge hcell hll hl0 hq
  go_enter Tryz.func91, Tryz.ntmps91
  go_upto_region 6 with fail
  go_region_held3 (fun w' => w'.cell? ⟨b0, o0 + q, none⟩ = some (.int .i64 (z : Int))) (first | assumption | exact hc2'.out _ hg2)
    (first | (go_at_call 59; refine hn.mono ?_; rintro e2 w2 ⟨rfl, hc2, hg2⟩))
  all_goals
    have A2 : Aside (Ctx B base R a L C most w2 s' vO vT ∧ Chg R vO vT vO vT w w2) := ⟨hc2, (Chg.drawn ⟨1, rfl⟩).trans hg2⟩
    clear hc2 hg2 hc2' hn
    go_wp2_with fail
    first | go_ret | go_ret2
    exact ⟨by simp, A2.out.1, A2.out.2⟩
end Go.Proofs.YtogednaamndpgaaGreatDoor

/-
  The document's New within a run, and what its Of comes to, told by the machine's steps; of dynamic blocks by a contract that is handed in.
-/
namespace Go.Proofs.YtogednaamndpgaaGreatDoor
open Go.RowKit
set_option linter.unusedVariables false
theorem iz_len (l : List Nat) : (iz l).length = l.length := by simp [iz]
theorem okl_iz {l : List Nat} : Okl (iz l) ↔ l.length ≤ 320 ∧ ∀ x ∈ l, x ≤ 15 := by
  unfold Okl
  rw [iz_len]
  constructor
  · rintro ⟨h1, h2⟩
    exact ⟨h1, fun x hx => by have := h2 (x : Int) (List.mem_map.2 ⟨x, hx, rfl⟩); omega⟩
  · rintro ⟨h1, h2⟩
    refine ⟨h1, fun z hz => ?_⟩
    obtain ⟨x, hx, rfl⟩ := List.mem_map.1 hz
    have := h2 x hx
    constructor
    · show (0 : Int) ≤ (x : Int); omega
    · show (x : Int) ≤ 15; omega
theorem mays_iff {l : List Nat} : mays l = true ↔ nerr (iz l) = 0 := by
  unfold mays nerr
  rw [lens_iz, decide_eq_true_iff]
  constructor
  · rintro ⟨h1, h2, h3, h4⟩
    rw [if_neg (by rw [Decidable.not_not]; exact okl_iz.2 ⟨h1, h2⟩), if_neg (by omega), if_neg h4]
  · intro h
    split at h
    · omega
    · rename_i h1
      split at h
      · omega
      · rename_i h2
        split at h
        · omega
        · rename_i h3
          have := okl_iz.1 (Decidable.not_not.1 h1)
          exact ⟨this.1, this.2, by omega, h3⟩
variable {w u : World} {base R L C most : Nat} {a : Option Addr} {s : Rs} {vO vT : Value} {B : List Nat}
/-- What is new stays, whatever the run does. -/
theorem Ctx.away (h : Ctx B base R a L C most w s vO vT) {w' : World} (hb : Below w.heap.size w w') {u : World} {vO' vT' : Value} (k : Chg R vO vT vO' vT' w' u) {i : Nat} (h1 : w.heap.size ≤ i) (h2 : i < w'.heap.size) : u.heap[i]? = w'.heap[i]? :=
  k.block i h2 (by have := h.run.lt; omega) (fun e => by have := (h.run.oo.lt i e.symm).2; omega) (fun e => by have := (h.run.ot.lt i e.symm).2; omega)
theorem Ctx.grow (h : Ctx B base R a L C most w s vO vT) {w' : World} (hb : Below w.heap.size w w') : Ctx B base R a L C most w' s vO vT := h.on (h.run.below hb) (Chg.of_below hb) h.pos h.og
theorem Ctx.table (h : Ctx B base R a L C most w s vO vT) (la : Option Addr) (l : List Nat) (ll lc : Nat) (hl : Lens w la (iz l)) (hll : l.length = ll) (hm : mays l = true) :
    Calls Tryz.prog 51 #[.slice la ll lc] w fun e w' => ∃ T, e = .returned (.tuple #[.pointer (some ⟨T, 0, none⟩), .int .i64 0]) ∧ Ctx B base R a L C most w' s vO vT ∧ Below w.heap.size w w' ∧ Tab R vO vT w' T l := by
  have he := mays_iff.1 hm
  obtain ⟨h1, h2, h3⟩ := nerr_ok he
  refine (rnew_rest la (iz l) ll lc w hl (by rw [iz_len]; exact hll) h1 h2).mono fun e w' hh => ?_
  rcases hh with ⟨h4, _⟩ | ⟨_, T, h5, h6, h7, h8⟩
  · exact absurd h4 h3
  · rw [lens_iz] at h6 h8 h2
    have ho := okl_iz.1 h1
    exact ⟨T, h5, h.grow h7, h7, ⟨fun u x y hu => h8 u fun k hk1 hk2 => h.away h7 hu hk1 hk2, ho.1, by rw [← kr_part ho.2]; exact h2, ho.2⟩⟩
theorem notable (la : Option Addr) (l : List Nat) (ll lc : Nat) (w : World) (hl : Lens w la (iz l)) (hll : l.length = ll) (hb : ll < 140737488355328) (hm : mays l = false) :
    ∃ er : Nat, er ≠ 0 ∧ Calls Tryz.prog 51 #[.slice la ll lc] w fun e w' => e = .returned (.tuple #[.pointer none, .int .i64 (er : Int)]) ∧ w = w' := by
  have hne : nerr (iz l) ≠ 0 := fun e => by rw [mays_iff.2 e] at hm; cases hm
  by_cases ho : Okl (iz l)
  · by_cases h2 : 32768 < kr (lens (iz l))
    · exact ⟨80, by decide, rnew_over la (iz l) ll lc w hl (by rw [iz_len]; exact hll) hb ho h2⟩
    · have hu : Under (lens (iz l)) := by
        apply Decidable.byContradiction
        intro h3
        apply hne
        unfold nerr
        rw [if_neg (by rw [Decidable.not_not]; exact ho), if_neg h2, if_neg h3]
      refine ⟨81, by decide, (rnew_rest la (iz l) ll lc w hl (by rw [iz_len]; exact hll) ho (by omega)).mono fun e w' hh => ?_⟩
      rcases hh with ⟨_, h4⟩ | ⟨h4, _⟩
      · exact h4
      · exact absurd hu h4
  · exact ⟨2, by decide, rnew_arg la (iz l) ll lc w hl (by rw [iz_len]; exact hll) hb ho⟩
theorem fixD_len : fixD.length = 32 := by simp [fixD]
theorem mays_fixL : mays fixL = true := by decide +kernel
theorem mays_fixD : mays fixD = true := by decide +kernel
/-- What comes behind a block's head. -/
def kindSt (kd : Nat) (lb : Bool) : St := match kd with
  | 0 => .slen lb
  | 1 => .sym lb fixL fixD
  | 2 => .dnum lb
  | _ => .bad 10
/-- What is asked of dynamic blocks. -/
def DynOk (B : List Nat) (base R : Nat) (a : Option Addr) (L C most : Nat) : Prop := ∀ (w : World) (s : Rs) (vO vT : Value) (last : Bool), Ctx B base R a L C most w s vO vT → Opn s →
  Calls Tryz.prog 62 #[.pointer (some ⟨R, 0, none⟩)] w fun e w' => e = .returned (.tuple #[]) ∧ Left B base R a L C most vO vT w w' ⟨.dnum last, s.pos, s.out, s.times⟩ (.head last)
/-- The machine has come to c, and it is over, or more bytes are wanted: so the run knows it. -/
def Endc (bs : List Bool) (most L : Nat) (c : Cfg) (s : Rs) : Prop := Fin bs most L c s ∨ (c.st = .done ∧ s.ended = true ∧ s.why = 0 ∧ s.at_ = (c.pos - 1) / 8 ∧ s.out = c.out ∧ s.times = c.times)
def OfTo (B : List Nat) (a : Option Addr) (L C : Nat) (most : Nat) (w : World) (e : Ending) (w' : World) : Prop :=
  ∃ R s vO vT c, e = .returned (.pointer (some ⟨R, 0, none⟩)) ∧ Rn w' w.heap.size R a L C most s vO vT ∧ Below w.heap.size w w' ∧ Runs (allb B) most ⟨.head false, 0, [], []⟩ c ∧ Endc (allb B) most L c s
set_option maxRecDepth 100000 in
set_option maxHeartbeats 8000000 in
theorem of_c (n : Int) (hn : n ≤ 1048576) (hB : Lies w a B) (hL : B.length = L) (hLb : L < 140737488355328) (ho : Oct B) (hdyn : ∀ R, DynOk B w.heap.size R a L C n.toNat) :
    Calls Tryz.prog 37 #[.slice a L C, .int .i64 n] w fun e w' => OfTo B a L C n.toNat w e w' := by
  obtain ⟨M, hM⟩ : ∃ M, n.toNat = M := ⟨_, rfl⟩
  rw [hM] at hdyn ⊢
  obtain ⟨W, hW⟩ : ∃ W, w.heap.size = W := ⟨_, rfl⟩
  obtain ⟨w1, hw1⟩ : ∃ w1, w1 = w.alloc (.cells #[.slice a L C, .int .i64 (M : Int), .slice none 0 0, .slice none 0 0, .int .i64 0, .int .i64 0, .bool false, .int .i64 0, .bool false] 76) := ⟨_, rfl⟩
  have b1 : Below w.heap.size w w1 := by rw [hw1]; exact (Below.refl _ w).alloc (Nat.le_refl _) _
  have k1 : Cells w1 W #[.slice a L C, .int .i64 (M : Int), .slice none 0 0, .slice none 0 0, .int .i64 0, .int .i64 0, .bool false, .int .i64 0, .bool false] 76 := by rw [hw1, ← hW]; exact Cells.new w _ 76
  have hc1 : Ctx B W W a L C M w1 ⟨0, [], [], 0, 0, false⟩ (.slice none 0 0) (.slice none 0 0) := by
    refine ⟨⟨⟨false, k1⟩, World.ownsRow_nil _ _ _ _, World.ownsRow_nil _ _ _ _, Nat.le_refl _, rfl⟩, fun u x y hu => ?_, hL, hLb, ho, by show 0 ≤ _; omega, by omega, by rw [← hW]; exact b1.size, fun y hy => by cases hy⟩
    have hb : Below w.heap.size w u := b1.trans ⟨hu.os, hu.tape, hu.output, hu.size, fun k hk => hu.block k (Nat.lt_of_lt_of_le hk b1.size) (by omega) (by intro e; cases e) (by intro e; cases e)⟩
    exact hB.below hb
  have A1 : Aside (Ctx B W W a L C M w1 ⟨0, [], [], 0, 0, false⟩ (.slice none 0 0) (.slice none 0 0) ∧ Below w.heap.size w w1 ∧ w.heap.size = W ∧ DynOk B W W a L C M) := ⟨hc1, b1, hW, by rw [← hW]; exact hdyn _⟩
  clear hB hL hLb ho b1 k1 hc1 hdyn
  have hmax : (if n < 0 then (0 : Int) else n) = (M : Int) := by split <;> omega
  have hmax2 : (if (0 : Int) < n then n else 0) = (M : Int) := by split <;> omega
  have hmax3 : max n 0 = (M : Int) := by omega
  go_enter Tryz.func37, Tryz.ntmps37
  go_upto_region 2 with fail
  rw [← hw1]
  clear hw1 hmax hmax2 hmax3 hM hn
  have AE : Aside (∀ (wr : World) (s1 : Rs) (vO1 vT1 : Value) (c1 : Cfg), Rn wr W W a L C M s1 vO1 vT1 → Chg W (.slice none 0 0) (.slice none 0 0) vO1 vT1 w1 wr → Runs (allb B) M ⟨.head false, 0, [], []⟩ c1 → Endc (allb B) M L c1 s1 → OfTo B a L C M w (.returned (.pointer (some ⟨W, 0, none⟩))) wr) := by
    intro wr s1 vO1 vT1 c1 h1 h2 h3 h4
    have q := A1.out
    have hb : Below W w1 wr := h2.below q.1.run q.1.base_
    refine ⟨W, s1, vO1, vT1, c1, rfl, by rw [q.2.2.1]; exact h1, ?_, h3, h4⟩
    exact q.2.1.trans (by rw [q.2.2.1]; exact hb)
  clear hW
  go_wp2_with fail
  go_loopg [6] (8 * L + 2) (fun g sl wr => ∃ last : Bool, sl = .bool last ∧ Aside (∃ s1 vO1 vT1 c1, Ctx B W W a L C M wr s1 vO1 vT1 ∧ Chg W (.slice none 0 0) (.slice none 0 0) vO1 vT1 w1 wr ∧ Runs (allb B) M ⟨.head false, 0, [], []⟩ c1 ∧ ((Opn s1 ∧ c1 = ⟨.head last, s1.pos, s1.out, s1.times⟩ ∧ 8 * L + 2 ≤ s1.pos + g) ∨ Fin (allb B) M L c1 s1)))
  case atStart => exact ⟨false, rfl, ⟨0, [], [], 0, 0, false⟩, _, _, _, A1.out.1, Chg.refl _ _ _ _, Runs.refl _, Or.inl ⟨⟨rfl, rfl⟩, rfl, by omega⟩⟩
  case round =>
    obtain ⟨last, rfl, hrel2⟩ := hrel
    obtain ⟨s1, vO1, vT1, c1, hc1, hg1, hr1, hcase⟩ := hrel2.out
    rcases hcase with ⟨ho1, he1, hm1⟩ | hfin
    · have hop := hc1.open_ true ho1.opn
      cases last with
      | true =>
        have hr2 : Runs (allb B) M ⟨.head false, 0, [], []⟩ ⟨.done, s1.pos, s1.out, s1.times⟩ := hr1.trans (Runs.one (by rw [he1]; rfl))
        have c6 := hc1.run.c6
        have f6 := hc1.run.fz 6
        obtain ⟨f, hcc⟩ := hc1.run.cells
        have k6 := hcc.set 6 (.bool true)
        have c57 : (wr.setCell ⟨W, 6, none⟩ (.bool true)).cell? ⟨W, 7, none⟩ = some (.int .i64 (s1.pos : Int)) := by rw [k6.cell]; rfl
        have c55 : (wr.setCell ⟨W, 6, none⟩ (.bool true)).cell? ⟨W, 5, none⟩ = some (.int .i64 (s1.at_ : Int)) := by rw [k6.cell]; rfl
        have f55 := k6.frozen 5
        obtain ⟨p, hp⟩ : ∃ p, s1.pos = p := ⟨_, rfl⟩
        have hpb : (p : Int) < 9000000000000000000 := by have := hc1.pos; have := hc1.lb; omega
        rw [hp] at c57
        have k7 := k6.set 5 (.int .i64 (((p - 1) / 8 : Nat) : Int))
        have o7 : Only W wr ((wr.setCell ⟨W, 6, none⟩ (.bool true)).setCell ⟨W, 5, none⟩ (.int .i64 (((p - 1) / 8 : Nat) : Int))) := ((Only.refl W wr).setCell _ _).setCell _ _
        have hrn : Rn ((wr.setCell ⟨W, 6, none⟩ (.bool true)).setCell ⟨W, 5, none⟩ (.int .i64 (((p - 1) / 8 : Nat) : Int))) W W a L C M { s1 with ended := true, at_ := (p - 1) / 8 } vO1 vT1 := hc1.run.only o7 ⟨f, k7⟩ rfl rfl
        have AR : Aside (OfTo B a L C M w (.returned (.pointer (some ⟨W, 0, none⟩))) ((wr.setCell ⟨W, 6, none⟩ (.bool true)).setCell ⟨W, 5, none⟩ (.int .i64 (((p - 1) / 8 : Nat) : Int)))) := AE.out _ _ _ _ _ hrn (hg1.trans (Chg.of_only o7)) hr2 (Or.inr ⟨rfl, rfl, ho1.1, by rw [hp], rfl, rfl⟩)
        clear hrel2 hc1 hg1 hr1 ho1 he1 hm1 hr2 hcc k6 k7 o7 hrn hp
        go_wp2_with (go_at_call 58; refine hop.mono ?_; rintro e2 w2 ⟨rfl, rfl⟩)
        rw [tdiv8]
        first | go_ret | go_ret2
        exact AR.out
      | false =>
        cases hnum : num? (allb B) s1.pos 3 with
        | none =>
          have hno := hc1.number_none 3 (by omega) hnum
          have hfin : Fin (allb B) M L c1 { s1 with why := 1, at_ := L } := by
            rw [he1]
            exact Fin.cut (by unfold step; simp only [hnum]; rfl) rfl rfl ho1.2 (by intro y e; cases e) (by intro e; cases e)
          have hop2 : ∀ X, Ctx B W W a L C M X { s1 with why := 1, at_ := L } vO1 vT1 → Calls Tryz.prog 58 #[.pointer (some ⟨W, 0, none⟩)] X fun e w' => e = .returned (.bool false) ∧ X = w' := fun X hX => hX.open_ false hfin.opn
          have AF : Aside (Fin (allb B) M L c1 { s1 with why := 1, at_ := L } ∧ Chg W (.slice none 0 0) (.slice none 0 0) vO1 vT1 w1 wr ∧ Runs (allb B) M ⟨.head false, 0, [], []⟩ c1) := ⟨hfin, hg1, hr1⟩
          clear hrel2 hc1 hg1 hr1 ho1 he1 hm1 hfin hnum
          go_wp2_with (first
            | (go_at_call 58; (fail_if_success (have hh := hg3)); refine hop.mono ?_; rintro e2 w2 ⟨rfl, rfl⟩)
            | (go_at_call 59; refine hno.mono ?_; rintro e3 w3 ⟨rfl, hc3, hg3⟩)
            | (go_at_call 58; refine (hop2 _ hc3).mono ?_; rintro e4 w4 ⟨rfl, rfl⟩))
          first | go_ret | go_ret2
          exact AE.out _ _ _ _ _ hc3.run (AF.out.2.1.trans hg3) AF.out.2.2 (Or.inl AF.out.1)
        | some v =>
          have hyes := hc1.number_some 3 v (by omega) hnum
          have hv8 : v < 8 := numb_lt hnum
          obtain ⟨s2, hs2⟩ : ∃ s2 : Rs, { s1 with pos := s1.pos + 3 } = s2 := ⟨_, rfl⟩
          rw [hs2] at hyes
          have ho2 : Opn s2 := by rw [← hs2]; exact ho1
          obtain ⟨lb, hlb⟩ : ∃ lb, (v % 2 == 1) = lb := ⟨_, rfl⟩
          obtain ⟨kd, hkd⟩ : ∃ kd, v / 2 = kd := ⟨_, rfl⟩
          have hst : Runs (allb B) M ⟨.head false, 0, [], []⟩ ⟨kindSt kd lb, s2.pos, s2.out, s2.times⟩ := by
            refine hr1.trans (Runs.one ?_)
            rw [he1, ← hs2, ← hkd, ← hlb]
            unfold step
            simp only [hnum]
            rfl
          have hop2 : ∀ X, Ctx B W W a L C M X s2 vO1 vT1 → Calls Tryz.prog 58 #[.pointer (some ⟨W, 0, none⟩)] X fun e w' => e = .returned (.bool true) ∧ X = w' := fun X hX => hX.open_ true ho2.opn
          have hlbI : ((v : Int) % 2 == 1) = lb := by
            rw [← hlb]
            have h2 : v % 2 = 0 ∨ v % 2 = 1 := by omega
            have e : (v : Int) % 2 = ((v % 2 : Nat) : Int) := by omega
            rw [e]
            rcases h2 with h | h <;> rw [h] <;> rfl
          have hkdI : (v : Int) / 2 = (kd : Int) := by omega
          have hkd4 : kd < 4 := by omega
          have A2 : Aside (Chg W (.slice none 0 0) (.slice none 0 0) vO1 vT1 w1 wr ∧ Opn s2 ∧ 8 * L + 5 ≤ s2.pos + gk ∧ 2 ≤ gk ∧ Runs (allb B) M ⟨.head false, 0, [], []⟩ ⟨kindSt kd lb, s2.pos, s2.out, s2.times⟩) := ⟨hg1, ho2, by rw [← hs2]; show 8 * L + 5 ≤ s1.pos + 3 + gk; omega, by have := hc1.pos; omega, hst⟩
          have hvI : (v : Int) < 8 := by omega
          clear hrel2 hc1 hg1 hr1 ho1 he1 hm1 hnum hs2 ho2 hlb hkd hst hv8
          go_upto_region 14 with (first
            | (go_at_call 58; (fail_if_success (have hh := hg3)); refine hop.mono ?_; rintro e2 w2 ⟨rfl, rfl⟩)
            | (go_at_call 59; refine hyes.mono ?_; rintro e3 w3 ⟨rfl, hc3, hg3⟩)
            | (go_at_call 58; refine (hop2 _ hc3).mono ?_; rintro e4 w4 ⟨rfl, rfl⟩))
          have A3 : Aside (Ctx B W W a L C M w3 s2 vO1 vT1 ∧ Chg W (.slice none 0 0) (.slice none 0 0) vO1 vT1 w1 w3 ∧ Opn s2 ∧ 8 * L + 5 ≤ s2.pos + gk ∧ 2 ≤ gk) := ⟨hc3, A2.out.1.trans hg3, A2.out.2.1, A2.out.2.2.1, A2.out.2.2.2.1⟩
          have AK : Aside (Runs (allb B) M ⟨.head false, 0, [], []⟩ ⟨kindSt kd lb, s2.pos, s2.out, s2.times⟩) := A2.out.2.2.2.2
          clear hc3 hg3 A2 hop hop2 hyes hlbI hkdI hvI
          match kd, hkd4 with
          | 0, _ =>
            have hsto := stored_c A3.out.1 A3.out.2.2.1 lb
            have AF : Aside (Runs (allb B) M ⟨.head false, 0, [], []⟩ ⟨.slen lb, s2.pos, s2.out, s2.times⟩) := AK.out
            clear AK
            go_wp2_with (go_at_call 60; refine hsto.mono ?_; rintro e5 w5 ⟨rfl, hleft⟩)
            have A6 : Aside (∃ s1 vO1 vT1 c1, Ctx B W W a L C M w5 s1 vO1 vT1 ∧ Chg W (.slice none 0 0) (.slice none 0 0) vO1 vT1 w1 w5 ∧ Runs (allb B) M ⟨.head false, 0, [], []⟩ c1 ∧ ((Opn s1 ∧ c1 = ⟨.head lb, s1.pos, s1.out, s1.times⟩ ∧ 8 * L + 2 ≤ s1.pos + (gk - 1)) ∨ Fin (allb B) M L c1 s1)) := by
              obtain ⟨s5, vO5, vT5, c5, q1, q2, q3, q4⟩ := hleft
              refine ⟨s5, vO5, vT5, c5, q1, A3.out.2.1.trans q2, AF.out.trans q3, ?_⟩
              rcases q4 with ⟨k1, k2⟩ | k1
              · refine Or.inl ⟨k1, k2, ?_⟩
                have := q3.pos
                rw [k2] at this
                have h5 : s2.pos ≤ s5.pos := this
                have := A3.out
                omega
              · exact Or.inr k1
            clear hsto hleft
            go_roundg (gk - 1)
            case measure => have := A3.out; omega
            case rel => exact ⟨lb, rfl, A6.out⟩
          | 1, _ =>
            have AF : Aside (Runs (allb B) M ⟨.head false, 0, [], []⟩ ⟨.sym lb fixL fixD, s2.pos, s2.out, s2.times⟩) := AK.out
            clear AK
            have hfx := fixed_c w3
            go_upto_region 18 with (go_at_call 50; refine hfx.mono ?_; rintro e5 w5 ⟨la, lc, da, dc, rfl, hll, hdl, hb5⟩)
            have hc5 := A3.out.1.grow hb5
            have t1 := hc5.table la fixL 288 lc hll fixL_len mays_fixL
            go_wp2_with (first
              | (go_at_call 51; (fail_if_success (have hh := hc6)); refine t1.mono ?_; rintro e6 w6 ⟨T, rfl, hc6, hb6, tab6⟩)
              | (go_at_call 51; refine (hc6.table da fixD 32 dc (hdl.below hb6) fixD_len mays_fixD).mono ?_; rintro e7 w7 ⟨D, rfl, hc7, hb7, tab7⟩)
              | (go_at_call 61; refine (symbols_c hc7 A3.out.2.2.1 T D fixL fixD lb (tab6.on (Chg.of_below hb7)) tab7).mono ?_; rintro e8 w8 ⟨rfl, hleft⟩))
            have A6 : Aside (∃ s1 vO1 vT1 c1, Ctx B W W a L C M w8 s1 vO1 vT1 ∧ Chg W (.slice none 0 0) (.slice none 0 0) vO1 vT1 w1 w8 ∧ Runs (allb B) M ⟨.head false, 0, [], []⟩ c1 ∧ ((Opn s1 ∧ c1 = ⟨.head lb, s1.pos, s1.out, s1.times⟩ ∧ 8 * L + 2 ≤ s1.pos + (gk - 1)) ∨ Fin (allb B) M L c1 s1)) := by
              obtain ⟨s5, vO5, vT5, c5, q1, q2, q3, q4⟩ := hleft
              refine ⟨s5, vO5, vT5, c5, q1, (A3.out.2.1.trans (Chg.of_below hb5)).trans ((Chg.of_below hb6).trans ((Chg.of_below hb7).trans q2)), AF.out.trans q3, ?_⟩
              rcases q4 with ⟨k1, k2⟩ | k1
              · refine Or.inl ⟨k1, k2, ?_⟩
                have := q3.pos
                rw [k2] at this
                have h5 : s2.pos ≤ s5.pos := this
                have := A3.out
                omega
              · exact Or.inr k1
            clear hfx hleft t1 hc5 hc6 hc7 hb5 hb6 hb7 tab6 tab7 hll hdl
            go_roundg (gk - 1)
            case measure => have := A3.out; omega
            case rel => exact ⟨lb, rfl, A6.out⟩
          | 2, _ =>
            have hdy := A1.out.2.2.2 w3 s2 vO1 vT1 lb A3.out.1 A3.out.2.2.1
            have AF : Aside (Runs (allb B) M ⟨.head false, 0, [], []⟩ ⟨.dnum lb, s2.pos, s2.out, s2.times⟩) := AK.out
            clear AK
            go_wp2_with (go_at_call 62; refine hdy.mono ?_; rintro e5 w5 ⟨rfl, hleft⟩)
            have A6 : Aside (∃ s1 vO1 vT1 c1, Ctx B W W a L C M w5 s1 vO1 vT1 ∧ Chg W (.slice none 0 0) (.slice none 0 0) vO1 vT1 w1 w5 ∧ Runs (allb B) M ⟨.head false, 0, [], []⟩ c1 ∧ ((Opn s1 ∧ c1 = ⟨.head lb, s1.pos, s1.out, s1.times⟩ ∧ 8 * L + 2 ≤ s1.pos + (gk - 1)) ∨ Fin (allb B) M L c1 s1)) := by
              obtain ⟨s5, vO5, vT5, c5, q1, q2, q3, q4⟩ := hleft
              refine ⟨s5, vO5, vT5, c5, q1, A3.out.2.1.trans q2, AF.out.trans q3, ?_⟩
              rcases q4 with ⟨k1, k2⟩ | k1
              · refine Or.inl ⟨k1, k2, ?_⟩
                have := q3.pos
                rw [k2] at this
                have h5 : s2.pos ≤ s5.pos := this
                have := A3.out
                omega
              · exact Or.inr k1
            clear hdy hleft
            go_roundg (gk - 1)
            case measure => have := A3.out; omega
            case rel => exact ⟨lb, rfl, A6.out⟩
          | 3, _ =>
            have hst := A3.out.1.stop 10
            have AF : Aside (Runs (allb B) M ⟨.head false, 0, [], []⟩ ⟨.bad 10, s2.pos, s2.out, s2.times⟩) := AK.out
            clear AK
            go_wp2_with (go_at_call 63; refine hst.mono ?_; rintro e5 w5 ⟨rfl, hc5, hg5⟩)
            have A6 : Aside (∃ s1 vO1 vT1 c1, Ctx B W W a L C M w5 s1 vO1 vT1 ∧ Chg W (.slice none 0 0) (.slice none 0 0) vO1 vT1 w1 w5 ∧ Runs (allb B) M ⟨.head false, 0, [], []⟩ c1 ∧ ((Opn s1 ∧ c1 = ⟨.head lb, s1.pos, s1.out, s1.times⟩ ∧ 8 * L + 2 ≤ s1.pos + (gk - 1)) ∨ Fin (allb B) M L c1 s1)) := ⟨_, vO1, vT1, _, hc5, A3.out.2.1.trans hg5, AF.out, Or.inr (Fin.bad 10 rfl rfl rfl A3.out.2.2.1.2 (by decide) rfl)⟩
            clear hst hc5 hg5
            go_roundg (gk - 1)
            case measure => have := A3.out; omega
            case rel => exact ⟨lb, rfl, A6.out⟩
    · have hop := hc1.open_ false hfin.opn
      have AR : Aside (OfTo B a L C M w (.returned (.pointer (some ⟨W, 0, none⟩))) wr) := AE.out _ _ _ _ _ hc1.run hg1 hr1 (Or.inl hfin)
      clear hrel2 hc1 hg1 hr1 hfin
      go_wp2_with (go_at_call 58; refine hop.mono ?_; rintro e3 w3 ⟨rfl, rfl⟩)
      first | go_ret | go_ret2
      exact AR.out
end Go.Proofs.YtogednaamndpgaaGreatDoor

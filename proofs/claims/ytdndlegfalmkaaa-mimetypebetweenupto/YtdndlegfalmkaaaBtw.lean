/-
  The reader: between, token, sign.
-/
import Derived.Test.YtdndlegfalmkaaaCom
namespace Go.Proofs.Ytdndlegfalmkaaa
open Go.RowKit
set_option linter.unusedVariables false
theorem ahead_b {w : World} {B : Nat} {l r : List Nat} (h : Rd w B l r) (hl : l.length ≤ 140737488355328) (ho : Oct l) (c : Nat) (C : Int) (hC : (c : Int) = C) (q : Bool) (hq : decide (r.head? = some c) = q) : Calls Try.prog 53 #[.pointer (some ⟨B, 0, none⟩), .int .u8 C] w fun e w' => e = .returned (.bool q) ∧ Rd w' B l r ∧ But B w w' := by
  subst hC
  subst hq
  refine (ahead_c h hl ho c).mono ?_
  rintro e w' ⟨rfl, n, rfl⟩
  exact ⟨rfl, h.drewN n, (But.refl B w).drewN n⟩
theorem ended_b {w : World} {B : Nat} {l r : List Nat} (h : Rd w B l r) (hl : l.length ≤ 140737488355328) (q : Bool) (hq : r.isEmpty = q) : Calls Try.prog 47 #[.pointer (some ⟨B, 0, none⟩)] w fun e w' => e = .returned (.bool q) ∧ Rd w' B l r ∧ But B w w' := by
  subst hq
  refine (ended_c h hl).mono ?_
  rintro e w' ⟨rfl, n, rfl⟩
  exact ⟨rfl, h.drewN n, (But.refl B w).drewN n⟩
theorem Rd.inc {w : World} {B x : Nat} {l r : List Nat} (h : Rd w B l (x :: r)) (hl : l.length ≤ 140737488355328) : ∃ p : Nat, w.cell? ⟨B, 1, none⟩ = some (.int .i64 (p : Int)) ∧ w.frozen? ⟨B, 1, none⟩ = false ∧ (p : Int) < 1000000000000000 ∧ Aside (Rd (w.setCell ⟨B, 1, none⟩ (.int .i64 ((p : Int) + 1))) B l r ∧ But B w (w.setCell ⟨B, 1, none⟩ (.int .i64 ((p : Int) + 1)))) := by
  obtain ⟨p, hc, hp, hr⟩ := h
  have hx : l[p]? = some x := by
    have := congrArg (·[0]?) hr
    simpa using this
  have hr2 : l.drop (p + 1) = r := by
    have := drop_more hx
    rw [hr] at this
    exact (List.cons.inj this).2.symm
  have hpl := (List.getElem?_eq_some_iff.1 hx).1
  exact ⟨p, by rw [hc.cell]; rfl, hc.frozen 1, by omega, ⟨p + 1, hc.set 1 _, by omega, hr2⟩, But.of_only ((Only.refl B w).setCell 1 _)⟩
theorem hd_no {r : List Nat} {x c : Nat} (h : x ≠ c) : decide ((x :: r).head? = some c) = false := by simp [h]
theorem hd_yes {r : List Nat} {x c : Nat} (h : x = c) : decide ((x :: r).head? = some c) = true := by simp [h]
set_option maxHeartbeats 1000000 in
theorem between_c {w : World} {B : Nat} {l r : List Nat} (h : Rd w B l r) (hl : l.length ≤ 140737488355328) (ho : Oct l) : Calls Try.prog 44 #[.pointer (some ⟨B, 0, none⟩)] w (Go0 w B l (bt 0 r)) := by
  obtain ⟨R, hR⟩ : ∃ R, bt 0 r = R := ⟨_, rfl⟩
  rw [hR]
  have A : Aside (Rd w B l r ∧ l.length ≤ 140737488355328 ∧ Oct l ∧ bt 0 r = R) := ⟨h, hl, ho, hR⟩
  clear h hl ho hR
  go_enter Try.func44, Try.ntmps44
  go_wp2_with fail
  go_loopg [] r.length (fun g wr => ∃ (r : List Nat), Aside (g = r.length ∧ Rd wr B l r ∧ But B w wr ∧ bt 0 r = R))
  case atStart => exact ⟨r, rfl, A.out.1, But.refl _ _, A.out.2.2.2⟩
  case round =>
    obtain ⟨r, hI⟩ := hrel
    obtain ⟨hg, hrd, hbt, hcm⟩ := hI.out
    obtain ⟨_, hl, ho, _⟩ := A.out
    cases r with
    | nil =>
      have h1 := ahead_b hrd hl ho 9 9 rfl false rfl
      have h2 := fun W (hW : Rd W B l []) => ahead_b hW hl ho 32 32 rfl false rfl
      have h3 := fun W (hW : Rd W B l []) => ahead_b hW hl ho 40 40 rfl false rfl
      have A2 : Aside (R = some [] ∧ But B w wr) := ⟨by rw [← hcm]; rfl, hbt⟩
      clear hI hg hrd hbt hcm hl ho
      go_wp2_with (first
        | (go_at_call 53; (with_reducible refine h1.mono ?_); rintro e1 w1 ⟨rfl, hr1, hb1⟩)
        | (go_at_call 53; (with_reducible refine (h2 _ hr1).mono ?_); rintro e2 w2 ⟨rfl, hr2, hb2⟩)
        | (go_at_call 53; (with_reducible refine (h3 _ hr2).mono ?_); rintro e3 w3 ⟨rfl, hr3, hb3⟩))
      refine bodyPost_ret (results_none rfl _ _ _) rfl ?_
      exact ⟨((A2.out.2.trans hb1).trans hb2).trans hb3, Or.inl ⟨[], A2.out.1, rfl, hr3⟩⟩
    | cons x r =>
      by_cases h9 : x = 9
      · have h1 := ahead_b hrd hl ho 9 9 rfl true (hd_yes h9)
        have A2 : Aside (gk = r.length + 1 ∧ But B w wr ∧ bt 0 r = R ∧ l.length ≤ 140737488355328) := ⟨by simpa using hg, hbt, by rw [← hcm, bt_blank (by rw [h9]; rfl)], hl⟩
        clear hI hg hrd hbt hcm hl ho h9
        go_upto_region 2 with (go_at_call 53; (with_reducible refine h1.mono ?_); rintro e1 w1 ⟨rfl, hr1, hb1⟩)
        obtain ⟨p, c1, f1, b1, A3⟩ := hr1.inc A2.out.2.2.2
        go_wp2_with fail
        have a2 := A2.out
        go_roundg r.length
        case measure => omega
        case rel => exact ⟨r, rfl, A3.out.1, (a2.2.1.trans hb1).trans A3.out.2, a2.2.2.1⟩
      · have h1 := ahead_b hrd hl ho 9 9 rfl false (hd_no h9)
        by_cases h32 : x = 32
        · have h2 := fun W (hW : Rd W B l (x :: r)) => ahead_b hW hl ho 32 32 rfl true (hd_yes h32)
          have A2 : Aside (gk = r.length + 1 ∧ But B w wr ∧ bt 0 r = R ∧ l.length ≤ 140737488355328) := ⟨by simpa using hg, hbt, by rw [← hcm, bt_blank (by rw [h32]; rfl)], hl⟩
          clear hI hg hrd hbt hcm hl ho h9 h32
          go_upto_region 2 with (first
            | (go_at_call 53; (with_reducible refine h1.mono ?_); rintro e1 w1 ⟨rfl, hr1, hb1⟩)
            | (go_at_call 53; (with_reducible refine (h2 _ hr1).mono ?_); rintro e2 w2 ⟨rfl, hr2, hb2⟩))
          obtain ⟨p, c1, f1, b1, A3⟩ := hr2.inc A2.out.2.2.2
          go_wp2_with fail
          have a2 := A2.out
          go_roundg r.length
          case measure => omega
          case rel => exact ⟨r, rfl, A3.out.1, ((a2.2.1.trans hb1).trans hb2).trans A3.out.2, a2.2.2.1⟩
        · have h2 := fun W (hW : Rd W B l (x :: r)) => ahead_b hW hl ho 32 32 rfl false (hd_no h32)
          by_cases h40 : x = 40
          · subst h40
            have h3 := fun W (hW : Rd W B l (40 :: r)) => ahead_b hW hl ho 40 40 rfl true rfl
            have h4 := fun W (hW : Rd W B l (40 :: r)) => comment_c hW hl ho
            rw [bt_open] at hcm
            cases hc : cm 0 (40 :: r) with
            | none =>
              rw [hc] at hcm h4
              have A2 : Aside (R = none ∧ But B w wr) := ⟨hcm.symm, hbt⟩
              clear hI hg hrd hbt hcm hl ho h9 h32 hc
              go_wp2_with (first
                | (go_at_call 53; (with_reducible refine h1.mono ?_); rintro e1 w1 ⟨rfl, hr1, hb1⟩)
                | (go_at_call 53; (with_reducible refine (h2 _ hr1).mono ?_); rintro e2 w2 ⟨rfl, hr2, hb2⟩)
                | (go_at_call 53; (with_reducible refine (h3 _ hr2).mono ?_); rintro e3 w3 ⟨rfl, hr3, hb3⟩)
                | (go_at_call 54; (with_reducible refine (h4 _ hr3).mono ?_); intro e4 w4 h4'; obtain ⟨rfl, hb4⟩ := h4'.no))
              exact ⟨rfl, (((A2.out.2.trans hb1).trans hb2).trans hb3).trans hb4, Or.inr ⟨A2.out.1, rfl⟩⟩
            | some q =>
              rw [hc] at hcm h4
              have k := cm_suf (r.length + 1) 0 (40 :: r) q (by simp) hc
              have A2 : Aside (gk = r.length + 1 ∧ But B w wr ∧ bt 0 q = R ∧ q.length < r.length + 1) := ⟨by simpa using hg, hbt, hcm, by simpa using k.1⟩
              clear hI hg hrd hbt hcm hl ho h9 h32 hc k
              go_wp2_with (first
                | (go_at_call 53; (with_reducible refine h1.mono ?_); rintro e1 w1 ⟨rfl, hr1, hb1⟩)
                | (go_at_call 53; (with_reducible refine (h2 _ hr1).mono ?_); rintro e2 w2 ⟨rfl, hr2, hb2⟩)
                | (go_at_call 53; (with_reducible refine (h3 _ hr2).mono ?_); rintro e3 w3 ⟨rfl, hr3, hb3⟩)
                | (go_at_call 54; (with_reducible refine (h4 _ hr3).mono ?_); intro e4 w4 h4'; obtain ⟨rfl, hr4, hb4⟩ := h4'.ok))
              have a2 := A2.out
              go_roundg q.length
              case measure => omega
              case rel => exact ⟨q, rfl, hr4, (((a2.2.1.trans hb1).trans hb2).trans hb3).trans hb4, a2.2.2.1⟩
          · have h3 := fun W (hW : Rd W B l (x :: r)) => ahead_b hW hl ho 40 40 rfl false (hd_no h40)
            have A2 : Aside (R = some (x :: r) ∧ But B w wr) := ⟨by rw [← hcm, bt_stop (by simp [isB, h9, h32]) h40], hbt⟩
            clear hI hg hrd hbt hcm hl ho h9 h32 h40
            go_wp2_with (first
              | (go_at_call 53; (with_reducible refine h1.mono ?_); rintro e1 w1 ⟨rfl, hr1, hb1⟩)
              | (go_at_call 53; (with_reducible refine (h2 _ hr1).mono ?_); rintro e2 w2 ⟨rfl, hr2, hb2⟩)
              | (go_at_call 53; (with_reducible refine (h3 _ hr2).mono ?_); rintro e3 w3 ⟨rfl, hr3, hb3⟩))
            refine bodyPost_ret (results_none rfl _ _ _) rfl ?_
            exact ⟨((A2.out.2.trans hb1).trans hb2).trans hb3, Or.inl ⟨x :: r, A2.out.1, rfl, hr3⟩⟩
end Go.Proofs.Ytdndlegfalmkaaa

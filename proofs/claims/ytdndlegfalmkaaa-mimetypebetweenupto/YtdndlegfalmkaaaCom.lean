/-
  The reader: comment, between.
-/
import Derived.Test.YtdndlegfalmkaaaRdr
namespace Go.Proofs.Ytdndlegfalmkaaa
open Go.RowKit
set_option linter.unusedVariables false
/-- What a call of the reader comes to that answers nothing: r' is left, or it gave up. -/
def Go0 (w : World) (B : Nat) (l : List Nat) (R : Option (List Nat)) (e : Ending) (w' : World) : Prop := But B w w' ∧ ((∃ r', R = some r' ∧ e = .returned (.tuple #[]) ∧ Rd w' B l r') ∨ (R = none ∧ e = .panicked pz))
theorem Go0.ok {w w' : World} {B : Nat} {l r' : List Nat} {e : Ending} (h : Go0 w B l (some r') e w') : e = .returned (.tuple #[]) ∧ Rd w' B l r' ∧ But B w w' := by
  obtain ⟨hb, ⟨q, h1, h2, h3⟩ | ⟨h1, _⟩⟩ := h
  · cases h1; exact ⟨h2, h3, hb⟩
  · cases h1
theorem Go0.no {w w' : World} {B : Nat} {l : List Nat} {e : Ending} (h : Go0 w B l none e w') : e = .panicked pz ∧ But B w w' := by
  obtain ⟨hb, ⟨q, h1, h2, h3⟩ | ⟨h1, h2⟩⟩ := h
  · cases h1
  · exact ⟨h2, hb⟩
theorem cm_nil (d : Nat) : cm d [] = none := rfl
theorem cm_40 {d x : Nat} {r : List Nat} (hx : x = 40) (h : d < 32) : cm d (x :: r) = cm (d + 1) r := by rw [cm.eq_def]; simp [hx, h]
theorem cm_deep {d x : Nat} {r : List Nat} (hx : x = 40) (h : ¬ d < 32) : cm d (x :: r) = none := by rw [cm.eq_def]; simp [hx]; omega
theorem cm_41 {d x : Nat} {r : List Nat} (hx : x = 41) (h : ¬ d ≤ 1) : cm d (x :: r) = cm (d - 1) r := by rw [cm.eq_def]; simp [hx]; omega
theorem cm_end {d x : Nat} {r : List Nat} (hx : x = 41) (h : d ≤ 1) : cm d (x :: r) = some r := by rw [cm.eq_def]; simp [hx]; omega
theorem cm_92 {d x y : Nat} {r : List Nat} (hx : x = 92) : cm d (x :: y :: r) = cm d r := by rw [cm.eq_def]; simp [hx]
theorem cm_cut {d x : Nat} (hx : x = 92) : cm d [x] = none := by rw [cm.eq_def]; simp [hx]
theorem cm_more {d x : Nat} {r : List Nat} (h1 : x ≠ 40) (h2 : x ≠ 41) (h3 : x ≠ 92) : cm d (x :: r) = cm d r := by rw [cm.eq_def]; simp [h1, h2, h3]
set_option maxHeartbeats 1000000 in
theorem comment_c {w : World} {B : Nat} {l q : List Nat} (h : Rd w B l (40 :: q)) (hl : l.length ≤ 140737488355328) (ho : Oct l) : Calls Try.prog 54 #[.pointer (some ⟨B, 0, none⟩)] w (Go0 w B l (cm 0 (40 :: q))) := by
  obtain ⟨R, hR⟩ : ∃ R, cm 0 (40 :: q) = R := ⟨_, rfl⟩
  rw [hR]
  have A : Aside (Rd w B l (40 :: q) ∧ l.length ≤ 140737488355328 ∧ Oct l ∧ cm 0 (40 :: q) = R) := ⟨h, hl, ho, hR⟩
  clear h hl ho hR
  go_enter Try.func54, Try.ntmps54
  go_wp2_with fail
  go_loopg [2] (q.length + 1) (fun g s2 wr => ∃ (d : Nat) (r : List Nat), s2 = .int .i64 (d : Int) ∧ Aside (g = r.length ∧ Rd wr B l r ∧ But B w wr ∧ (d = 0 → ∃ q, r = 40 :: q) ∧ cm d r = R ∧ d ≤ 32))
  case atStart => exact ⟨0, 40 :: q, rfl, by simp, A.out.1, But.refl _ _, fun _ => ⟨q, rfl⟩, A.out.2.2.2, by omega⟩
  case round =>
    obtain ⟨d, r, rfl, hI⟩ := hrel
    obtain ⟨hg, hrd, hbt, h0, hcm, hd⟩ := hI.out
    have a0 := A.out
    cases r with
    | nil =>
      have hn := next_no hrd a0.2.1
      have A2 : Aside (R = none ∧ But B w wr) := ⟨by rw [← hcm]; rfl, hbt⟩
      clear hI hg hrd hbt h0 hcm hd a0
      go_wp2_with (go_at_call 55; refine hn.mono ?_; rintro e1 w1 ⟨rfl, hw1⟩)
      obtain ⟨n1, hw1⟩ := hw1
      exact ⟨rfl, by rw [hw1]; exact A2.out.2.drewN _, Or.inr ⟨A2.out.1, rfl⟩⟩
    | cons x r =>
      have hn := next_ok hrd a0.2.1 a0.2.2.1
      have hdI : (d : Int) < 1000 := by omega
      by_cases h40 : x = 40
      · have t1 : ((x : Int) == 40) = true := by rw [beq_iff_eq]; omega
        have t2 : ((d : Int) + 1 == 0) = false := by rw [beq_eq_false_iff_ne]; omega
        by_cases h32 : d < 32
        · have t3 : ((32 : Int) < (d : Int) + 1) = False := eq_false (by omega)
          have t4 : (32 < d + 1) = False := eq_false (by omega)
          have A2 : Aside (gk = r.length + 1 ∧ But B w wr ∧ cm (d + 1) r = R ∧ d + 1 ≤ 32) := ⟨by simpa using hg, hbt, by rw [← hcm, cm_40 h40 h32], by omega⟩
          clear hI hg hrd hbt h0 hcm hd a0 h40 h32
          go_wp2_with (go_at_call 55; refine hn.mono ?_; rintro e1 w1 ⟨rfl, hr1, hb1⟩)
          have a2 := A2.out
          go_roundg r.length
          case measure => omega
          case rel => exact ⟨d + 1, r, by go_num, rfl, hr1, a2.2.1.trans hb1, (by intro h; omega), a2.2.2.1, a2.2.2.2⟩
        · have t3 : ((32 : Int) < (d : Int) + 1) = True := eq_true (by omega)
          have t4 : (32 < d + 1) = True := eq_true (by omega)
          have A2 : Aside (R = none ∧ But B w wr) := ⟨by rw [← hcm, cm_deep h40 h32], hbt⟩
          clear hI hg hrd hbt h0 hcm hd a0 h40 h32
          go_wp2_with (go_at_call 55; refine hn.mono ?_; rintro e1 w1 ⟨rfl, hr1, hb1⟩)
          exact ⟨rfl, A2.out.2.trans hb1, Or.inr ⟨A2.out.1, rfl⟩⟩
      · have t1 : ((x : Int) == 40) = false := by rw [beq_eq_false_iff_ne]; omega
        have hd1 : 1 ≤ d := by
          rcases Nat.eq_zero_or_pos d with e | e
          · obtain ⟨q', hq'⟩ := h0 e
            injection hq' with e1
            exact absurd e1 h40
          · exact e
        have t2 : ((d : Int) == 0) = false := by rw [beq_eq_false_iff_ne]; omega
        have t3 : ((32 : Int) < (d : Int)) = False := eq_false (by omega)
        have t4 : (32 < d) = False := eq_false (by omega)
        by_cases h41 : x = 41
        · have t5 : ((x : Int) == 41) = true := by rw [beq_iff_eq]; omega
          obtain ⟨d', hd'⟩ : ∃ d' : Nat, d = d' + 1 := ⟨d - 1, by omega⟩
          have t6 : (d : Int) - 1 = (d' : Int) := by omega
          have t9 : (d' : Int) < 1000 := by omega
          by_cases h1 : d ≤ 1
          · have t7 : ((d' : Int) == 0) = true := by rw [beq_iff_eq]; omega
            have A2 : Aside (R = some r ∧ But B w wr) := ⟨by rw [← hcm, cm_end h41 h1], hbt⟩
            clear hI hg hrd hbt h0 hcm hd a0 h40 h41 hd1 hd' h1 t2 t3 t4
            go_wp2_with (go_at_call 55; refine hn.mono ?_; rintro e1 w1 ⟨rfl, hr1, hb1⟩)
            refine bodyPost_ret (results_none rfl _ _ _) rfl ?_
            exact ⟨A2.out.2.trans hb1, Or.inl ⟨r, A2.out.1, rfl, hr1⟩⟩
          · have t7 : ((d' : Int) == 0) = false := by rw [beq_eq_false_iff_ne]; omega
            have t8 : ((32 : Int) < (d' : Int)) = False := eq_false (by omega)
            have t8' : (32 < d') = False := eq_false (by omega)
            have A2 : Aside (gk = r.length + 1 ∧ But B w wr ∧ cm d' r = R ∧ d' ≤ 32 ∧ d' ≠ 0) := ⟨by simpa using hg, hbt, by rw [← hcm, cm_41 h41 h1, hd']; rfl, by omega, by omega⟩
            clear hI hg hrd hbt h0 hcm hd a0 h40 h41 hd1 hd' h1 t2 t3 t4
            go_wp2_with (go_at_call 55; refine hn.mono ?_; rintro e1 w1 ⟨rfl, hr1, hb1⟩)
            have a2 := A2.out
            go_roundg r.length
            case measure => omega
            case rel => exact ⟨d', r, by first | rfl | go_num, rfl, hr1, a2.2.1.trans hb1, (by intro h; omega), a2.2.2.1, a2.2.2.2.1⟩
        · have t5 : ((x : Int) == 41) = false := by rw [beq_eq_false_iff_ne]; omega
          by_cases h92 : x = 92
          · have t6 : ((x : Int) == 92) = true := by rw [beq_iff_eq]; omega
            cases r with
            | nil =>
              have hn2 := fun W (hW : Rd W B l []) => next_no hW a0.2.1
              have A2 : Aside (R = none ∧ But B w wr) := ⟨by rw [← hcm, cm_cut h92], hbt⟩
              clear hI hg hrd hbt h0 hcm hd a0 h40 h41 hd1 h92
              go_wp2_with (first
                | (go_at_call 55; with_reducible refine hn.mono ?_; rintro e1 w1 ⟨rfl, hr1, hb1⟩)
                | (go_at_call 55; refine (hn2 _ hr1).mono ?_; rintro e2 w2 ⟨rfl, hw2⟩))
              obtain ⟨n2, hw2⟩ := hw2
              exact ⟨rfl, by rw [hw2]; exact (A2.out.2.trans hb1).drewN _, Or.inr ⟨A2.out.1, rfl⟩⟩
            | cons y r =>
              have hn2 := fun W (hW : Rd W B l (y :: r)) => next_ok hW a0.2.1 a0.2.2.1
              have A2 : Aside (gk = r.length + 2 ∧ But B w wr ∧ cm d r = R ∧ d ≤ 32 ∧ 1 ≤ d) := ⟨by simpa using hg, hbt, by rw [← hcm, cm_92 h92], hd, hd1⟩
              clear hI hg hrd hbt h0 hcm hd a0 h40 h41 hd1 h92
              go_wp2_with (first
                | (go_at_call 55; with_reducible refine hn.mono ?_; rintro e1 w1 ⟨rfl, hr1, hb1⟩)
                | (go_at_call 55; refine (hn2 _ hr1).mono ?_; rintro e2 w2 ⟨rfl, hr2, hb2⟩))
              have a2 := A2.out
              go_roundg r.length
              case measure => omega
              case rel => exact ⟨d, r, rfl, rfl, hr2, (a2.2.1.trans hb1).trans hb2, (by intro h; omega), a2.2.2.1, a2.2.2.2.1⟩
          · have t6 : ((x : Int) == 92) = false := by rw [beq_eq_false_iff_ne]; omega
            have A2 : Aside (gk = r.length + 1 ∧ But B w wr ∧ cm d r = R ∧ d ≤ 32 ∧ 1 ≤ d) := ⟨by simpa using hg, hbt, by rw [← hcm, cm_more h40 h41 h92], hd, hd1⟩
            clear hI hg hrd hbt h0 hcm hd a0 h40 h41 hd1 h92
            go_wp2_with (go_at_call 55; refine hn.mono ?_; rintro e1 w1 ⟨rfl, hr1, hb1⟩)
            have a2 := A2.out
            go_roundg r.length
            case measure => omega
            case rel => exact ⟨d, r, rfl, rfl, hr1, a2.2.1.trans hb1, (by intro h; omega), a2.2.2.1, a2.2.2.2.1⟩
end Go.Proofs.Ytdndlegfalmkaaa

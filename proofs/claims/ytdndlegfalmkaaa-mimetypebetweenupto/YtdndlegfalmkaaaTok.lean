/-
  The reader: token, sign.
-/
import Derived.Test.YtdndlegfalmkaaaBtw
namespace Go.Proofs.Ytdndlegfalmkaaa
open Go.RowKit
set_option linter.unusedVariables false
/-- What a call of the reader comes to that answers a text: v is told and r' left, or it gave up. -/
def Go1 (w : World) (B : Nat) (l : List Nat) (R : Option (List Nat × List Nat)) (e : Ending) (w' : World) : Prop := But B w w' ∧ ((∃ v r', R = some (v, r') ∧ e = .returned (.string (st v)) ∧ Rd w' B l r') ∨ (R = none ∧ e = .panicked pz))
theorem Go1.ok {w w' : World} {B : Nat} {l v r' : List Nat} {e : Ending} (h : Go1 w B l (some (v, r')) e w') : e = .returned (.string (st v)) ∧ Rd w' B l r' ∧ But B w w' := by
  obtain ⟨hb, ⟨u, q, h1, h2, h3⟩ | ⟨h1, _⟩⟩ := h
  · cases h1; exact ⟨h2, h3, hb⟩
  · cases h1
theorem Go1.no {w w' : World} {B : Nat} {l : List Nat} {e : Ending} (h : Go1 w B l none e w') : e = .panicked pz ∧ But B w w' := by
  obtain ⟨hb, ⟨u, q, h1, h2, h3⟩ | ⟨h1, h2⟩⟩ := h
  · cases h1
  · exact ⟨h2, hb⟩
/-- A token alone. -/
def tk1 (r : List Nat) : Option (List Nat × List Nat) := if rn r = 0 then none else some (r.take (rn r), r.drop (rn r))
theorem tkn_eq (r : List Nat) : tkn r = (tk1 r).bind fun a => (bt 0 a.2).map fun q => (a.1, q) := by
  unfold tkn tk1
  split <;> rfl
set_option maxHeartbeats 1000000 in
theorem rtok_c {w : World} {B : Nat} {l r : List Nat} (h : Rd w B l r) (hl : l.length ≤ 140737488355328) (ho : Oct l) : Calls Try.prog 45 #[.pointer (some ⟨B, 0, none⟩)] w (Go1 w B l (tk1 r)) := by
  have hro : Oct r := ho.suf h.suf
  obtain ⟨p, hc, hp, hr⟩ := h
  have hrl : r.length = l.length - p := by rw [← hr]; simp
  have hrun := fun n : Nat => run_c r hro (by omega) (w.drewN n)
  have z1 : (st l).size = l.length := st_size l
  have e1 : (st l).extract p l.length = st r := by rw [st_extract, List.take_length, hr]
  have hrn := rn_le r
  obtain ⟨n, hn⟩ : ∃ n, rn r = n := ⟨_, rfl⟩
  rw [hn] at hrn hrun
  obtain ⟨q, hq⟩ : ∃ q : Nat, q = p + n := ⟨_, rfl⟩
  have e2 : (st l).extract p q = st (r.take n) := by
    rw [st_extract, hq, ← hr, List.drop_take]
    congr 2
    omega
  have e3 : l.drop q = r.drop n := by rw [hq, ← hr, List.drop_drop]
  obtain ⟨L, hL⟩ : ∃ L, l.length = L := ⟨_, rfl⟩
  obtain ⟨s, hs⟩ : ∃ s, s = st l := ⟨_, rfl⟩
  obtain ⟨u, hu⟩ : ∃ u, u = st r := ⟨_, rfl⟩
  obtain ⟨v, hv⟩ : ∃ v, v = st (r.take n) := ⟨_, rfl⟩
  rw [← hs, hL] at z1
  rw [← hs, ← hu, hL] at e1
  rw [← hs, ← hv] at e2
  rw [← hu] at hrun
  rw [← hs] at hc
  have c0 : w.cell? ⟨B, 0, none⟩ = some (.string s) := by rw [hc.cell]; rfl
  have c1 : w.cell? ⟨B, 1, none⟩ = some (.int .i64 (p : Int)) := by rw [hc.cell]; rfl
  have f1 := hc.frozen 1
  have b1 : (p : Int) ≤ (L : Int) := by omega
  have b1' : p ≤ L := by omega
  by_cases h0 : n = 0
  · have t0 : ((n : Int) == 0) = true := by rw [beq_iff_eq]; omega
    have A : Aside (tk1 r = none) := by show _ = _; unfold tk1; rw [hn, h0]; rfl
    clear hro hc hp hr hrl hrn hn hq e2 e3 hL hs hu hv hl ho h0
    go_enter Try.func45, Try.ntmps45
    go_wp2_with fail
    go_quiet ((go_at_call 33; exact Calls.quiet_of_same (hrun _)))
    go_wp2_with fail
    exact ⟨rfl, (But.refl B w).drewN _, Or.inr ⟨A.out, rfl⟩⟩
  · have t0 : ((n : Int) == 0) = false := by rw [beq_eq_false_iff_ne]; omega
    have b2 : (n : Int) < 1000000000000000 := by omega
    have b3 : (p : Int) < 1000000000000000 := by omega
    obtain ⟨w2, hw2⟩ : ∃ w2 : Nat → World, ∀ m, (w.drewN m).setCell ⟨B, 1, none⟩ (.int .i64 ((p : Int) + (n : Int))) = w2 m := ⟨_, fun _ => rfl⟩
    have hqi : (p : Int) + (n : Int) = (q : Int) := by omega
    have k2 : ∀ m, Cells (w2 m) B #[.string s, .int .i64 (q : Int)] 46 := fun m => by
      have k := (hc.drewN m).set 1 (.int .i64 ((p : Int) + (n : Int)))
      rw [hw2, hqi] at k
      exact k
    have A : Aside (tk1 r = some (r.take n, r.drop n) ∧ v = st (r.take n) ∧ s = st l ∧ l.drop q = r.drop n ∧ q ≤ l.length ∧ (∀ m, Cells (w2 m) B #[.string s, .int .i64 (q : Int)] 46) ∧ (∀ m, But B w (w2 m))) := by
      refine ⟨?_, hv, hs, e3, by omega, k2, fun m => ?_⟩
      · unfold tk1
        rw [hn, if_neg h0]
      · rw [← hw2]
        exact ((But.refl B w).drewN m).trans (But.of_only ((Only.refl B _).setCell 1 _))
    have AQ : Aside ((q : Int) - (n : Int) = (p : Int) ∧ (p : Int) ≤ (q : Int) ∧ p ≤ q ∧ (q : Int) ≤ (L : Int) ∧ q ≤ L ∧ (q : Int) < 1000000000000000) := ⟨by omega, by omega, by omega, by omega, by omega, by omega⟩
    have d0 : ∀ m, (w2 m).cell? ⟨B, 0, none⟩ = some (.string s) := fun m => by rw [(k2 m).cell]; rfl
    have d1 : ∀ m, (w2 m).cell? ⟨B, 1, none⟩ = some (.int .i64 (q : Int)) := fun m => by rw [(k2 m).cell]; rfl
    clear hro hc hp hr hrl hrn hn hq e3 hL hs hu hv hl ho h0 hqi k2
    go_enter Try.func45, Try.ntmps45
    go_wp2_with fail
    go_quiet ((go_at_call 33; exact Calls.quiet_of_same (hrun _)))
    go_upto_region 5 with fail
    clear hw2 hrun c0 c1 f1 b3 e1
    obtain ⟨q1, q2, q3, q4, q5, q6⟩ := AQ.out
    generalize hW : w2 _ = W
    have d0' : W.cell? ⟨B, 0, none⟩ = some (.string s) := by rw [← hW]; exact d0 _
    have d1' : W.cell? ⟨B, 1, none⟩ = some (.int .i64 (q : Int)) := by rw [← hW]; exact d1 _
    have A3 : Aside (Cells W B #[.string s, .int .i64 (q : Int)] 46 ∧ But B w W) := by rw [← hW]; exact ⟨A.out.2.2.2.2.2.1 _, A.out.2.2.2.2.2.2 _⟩
    clear hW d0 d1
    go_quiet (fail)
    go_wp2_with fail
    go_ret
    obtain ⟨h1, h2, h3, h4, h5, _⟩ := A.out
    exact ⟨A3.out.2.drewN _, Or.inl ⟨_, _, h1, by rw [← h2]; rfl, ⟨q, by rw [← h3]; exact A3.out.1.drewN _, h5, h4⟩⟩⟩
theorem sign_c {w : World} {B : Nat} {l r : List Nat} (h : Rd w B l r) (hl : l.length ≤ 140737488355328) (ho : Oct l) (c : Nat) (C : Int) (hC : (c : Int) = C) : Calls Try.prog 46 #[.pointer (some ⟨B, 0, none⟩), .int .u8 C] w (Go0 w B l ((bt 0 r).bind (sg c))) := by
  have hb := between_c h hl ho
  cases h1 : bt 0 r with
  | none =>
    rw [h1] at hb
    have A : Aside ((none : Option (List Nat)).bind (sg c) = none) := rfl
    clear h hl ho hC h1
    go_enter Try.func46, Try.ntmps46
    go_wp2_with (go_at_call 44; (with_reducible refine hb.mono ?_); intro e1 w1 h1; obtain ⟨rfl, hb1⟩ := h1.no)
    exact ⟨rfl, hb1, Or.inr ⟨A.out, rfl⟩⟩
  | some q =>
    rw [h1] at hb
    cases q with
    | nil =>
      have hn := fun W (hW : Rd W B l []) => next_no hW hl
      have A : Aside ((some ([] : List Nat)).bind (sg c) = none) := rfl
      clear h hl ho hC h1
      go_enter Try.func46, Try.ntmps46
      go_wp2_with (first
        | (go_at_call 44; (with_reducible refine hb.mono ?_); intro e1 w1 h1; obtain ⟨rfl, hr1, hb1⟩ := h1.ok)
        | (go_at_call 55; (with_reducible refine (hn _ hr1).mono ?_); rintro e2 w2 ⟨rfl, hw2⟩))
      obtain ⟨n2, hw2⟩ := hw2
      exact ⟨rfl, by rw [hw2]; exact hb1.drewN _, Or.inr ⟨A.out, rfl⟩⟩
    | cons x q =>
      have hn := fun W (hW : Rd W B l (x :: q)) => next_ok hW hl ho
      by_cases hx : x = c
      · have t1 : ((x : Int) != C) = false := by rw [← hC, bne_eq_false_iff_eq]; omega
        have t2 : ((x : Int) == C) = true := by rw [← hC, beq_iff_eq]; omega
        have hb2 := fun W (hW : Rd W B l q) => between_c hW hl ho
        have A : Aside ((some (x :: q)).bind (sg c) = bt 0 q) := by
          show sg c (x :: q) = _
          simp [sg, hx]
        cases h3 : bt 0 q with
        | none =>
          rw [h3] at hb2 A
          clear h hl ho hC h1 hx h3
          go_enter Try.func46, Try.ntmps46
          go_wp2_with (first
            | (go_at_call 44; (with_reducible refine hb.mono ?_); intro e1 w1 h1; obtain ⟨rfl, hr1, hb1⟩ := h1.ok)
            | (go_at_call 55; (with_reducible refine (hn _ hr1).mono ?_); rintro e2 w2 ⟨rfl, hr2, hb2'⟩)
            | (go_at_call 44; (with_reducible refine (hb2 _ hr2).mono ?_); intro e3 w3 h3; obtain ⟨rfl, hb3⟩ := h3.no))
          exact ⟨rfl, (hb1.trans hb2').trans hb3, Or.inr ⟨A.out, rfl⟩⟩
        | some q2 =>
          rw [h3] at hb2 A
          clear h hl ho hC h1 hx h3
          go_enter Try.func46, Try.ntmps46
          go_wp2_with (first
            | (go_at_call 44; (with_reducible refine hb.mono ?_); intro e1 w1 h1; obtain ⟨rfl, hr1, hb1⟩ := h1.ok)
            | (go_at_call 55; (with_reducible refine (hn _ hr1).mono ?_); rintro e2 w2 ⟨rfl, hr2, hb2'⟩)
            | (go_at_call 44; (with_reducible refine (hb2 _ hr2).mono ?_); intro e3 w3 h3; obtain ⟨rfl, hr3, hb3⟩ := h3.ok))
          first | go_end0 | refine bodyPost_ret (results_none rfl _ _ _) rfl ?_
          exact ⟨(hb1.trans hb2').trans hb3, Or.inl ⟨q2, A.out, rfl, hr3⟩⟩
      · have t1 : ((x : Int) != C) = true := by rw [← hC, bne_iff_ne]; omega
        have t2 : ((x : Int) == C) = false := by rw [← hC, beq_eq_false_iff_ne]; omega
        have A : Aside ((some (x :: q)).bind (sg c) = none) := by
          show sg c (x :: q) = _
          simp [sg, hx]
        clear h hl ho hC h1 hx
        go_enter Try.func46, Try.ntmps46
        go_wp2_with (first
          | (go_at_call 44; (with_reducible refine hb.mono ?_); intro e1 w1 h1; obtain ⟨rfl, hr1, hb1⟩ := h1.ok)
          | (go_at_call 55; (with_reducible refine (hn _ hr1).mono ?_); rintro e2 w2 ⟨rfl, hr2, hb2'⟩))
        exact ⟨rfl, hb1.trans hb2', Or.inr ⟨A.out, rfl⟩⟩
end Go.Proofs.Ytdndlegfalmkaaa

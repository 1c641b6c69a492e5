/-
  What Put, last, End, Reset and New come to.
-/
import Derived.Test.YtmlkdpoignimaaaLin
namespace Go.Proofs.Ytmlkdpoignimaaa
open Go.RowKit
set_option linter.unusedVariables false
section
variable {w u : World} {lo B most k bg y : Nat} {vl vm : Value} {l : List Nat} {M : List (Nat × Nat)} {dn : Bool} {F : List Fd} {c : List Nat}
theorem Nx.cells {r : Nat × Bool × List Fd × List Nat} (h : Nx w lo B most k r) : ∃ k' vl l bg vm M, Rm w lo B most k' vl l bg vm M (r.2.1 && r.1 == 0) r.1 := by
  unfold Nx at h
  by_cases e : r.1 = 0
  · rw [if_neg (by simpa using e)] at h
    cases hd : r.2.1 with
    | true =>
      rw [if_pos hd] at h
      obtain ⟨k', vl, vm, bg, hr⟩ := h.ex
      exact ⟨k', vl, _, bg, vm, _, by rw [e]; simpa using hr⟩
    | false =>
      rw [if_neg (by simp [hd])] at h
      obtain ⟨vl, vm, hr⟩ := h.ex
      exact ⟨_, vl, _, _, vm, _, by rw [e]; simpa using hr⟩
  · rw [if_pos e] at h
    obtain ⟨k', vl, vm, hr⟩ := h.ex
    refine ⟨k', vl, [], 0, vm, [], ?_⟩
    have : (r.1 == 0) = false := by simpa using e
    rw [this, Bool.and_false]
    exact hr
/-- What Put answers of a reader that goes on. -/
def PutTo (w : World) (lo B most k : Nat) (F : List Fd) (c : List Nat) (x : Nat) (e : Ending) (w' : World) : Prop :=
  e = .returned (.tuple #[.bool ((nx most k F c x).2.1 && (nx most k F c x).1 == 0), .int .i64 ((nx most k F c x).1 : Nat)]) ∧ Nx w' lo B most (k + 1) (nx most k F c x) ∧ Chg lo w w'
theorem Nx.drewN {r : Nat × Bool × List Fd × List Nat} (h : Nx w lo B most k r) (n : Nat) : Nx (w.drewN n) lo B most k r := by
  unfold Nx at *
  split
  · rename_i e
    rw [if_pos e] at h
    obtain ⟨k', vl, vm, hr⟩ := h.ex
    exact ⟨⟨k', vl, vm, hr.drewN n⟩, h.mb, h.ny⟩
  · rename_i e
    rw [if_neg e] at h
    split
    · rename_i e2
      rw [if_pos e2] at h
      obtain ⟨k', vl, vm, bg, hr⟩ := h.ex
      exact ⟨⟨k', vl, vm, bg, hr.drewN n⟩, h.mb, h.lk, h.f64, h.oct⟩
    · rename_i e2
      rw [if_neg e2] at h
      obtain ⟨vl, vm, hr⟩ := h.ex
      exact ⟨⟨vl, vm, hr.drewN n⟩, h.km, h.mb, h.lk, h.f64, h.oct⟩
set_option maxHeartbeats 1000000 in
theorem put_go (x : Nat) (hx : x < 256) (h : Rg w lo B most k F c) : Calls Try.prog 14 #[.pointer (some ⟨B, 0, none⟩), .int .u8 (x : Int)] w fun e w' => PutTo w lo B most k F c x e w' := by
  obtain ⟨vl, vm, hr⟩ := h.ex
  have hov := over_c hr
  have c0 := hr.c0
  have c1 := hr.c1
  have f1 := hr.fz 1
  have hkb : (k : Int) < 100000 := by have := h.km; have := h.mb; omega
  by_cases hkm : k = most
  · subst hkm
    have e : nx k k F c x = (31, false, [], []) := by unfold nx; rw [if_pos (Nat.le_refl _)]
    have hst := fun n => stop_c (hr.drewN n) 31
    have hfin : ∀ n (W : World), Fg (w.drewN n) lo B k k false 31 W → Nx W lo B k (k + 1) (31, false, [], []) ∧ Chg lo w W ∧ W.cell? ⟨B, 5, none⟩ = some (.bool false) ∧ W.cell? ⟨B, 6, none⟩ = some (.int .i64 31) := by
      rintro n W ⟨vl1, vm1, r1, ch⟩
      refine ⟨?_, ((Chg.refl lo w).drewN n).trans ch, r1.c5, r1.c6⟩
      unfold Nx
      rw [if_pos (by decide)]
      exact ⟨⟨_, _, _, r1⟩, h.mb, Or.inr rfl⟩
    have AF : Aside (nx k k F c x = (31, false, [], [])) := e
    have t1 : ((k : Int) == (k : Int)) = true := by simp
    clear h hr e hx
    go_enter Try.func14, Try.ntmps14
    go_upto_region 6 with (go_at_call 26; refine hov.mono ?_; rintro e1 w1 ⟨rfl, rfl⟩)
    go_quiet (fail)
    go_upto_region 8 with (go_at_call 29; refine (hst _).mono ?_; rintro e2 w2 ⟨rfl, h2⟩; obtain ⟨n2, ch2, d5, d6⟩ := hfin _ _ h2)
    go_quiet (fail)
    go_wp2_with fail
    go_ret2
    unfold PutTo
    rw [AF.out]
    exact ⟨rfl, n2.drewN _, ch2.drewN _⟩
  · have hk2 : k < most := by have := h.km; omega
    have t1 : ((k : Int) == (most : Int)) = false := by rw [beq_eq_false_iff_ne]; omega
    have hr1 := fun n => (hr.drewN n).set1 (k + 1)
    have htk := fun n => take_c x hx hk2 h.mb h.lk h.f64 h.oct (hr1 n)
    have hfin : ∀ n (W : World), (Nx W lo B most (k + 1) (nx most k F c x) ∧ Chg lo ((w.drewN n).setCell ⟨B, 1, none⟩ (.int .i64 ((k + 1 : Nat) : Int))) W) → ∃ k' vl l bg vm M, Rm W lo B most k' vl l bg vm M ((nx most k F c x).2.1 && (nx most k F c x).1 == 0) (nx most k F c x).1 := fun n W h2 => h2.1.cells
    have AR : Aside (∀ n, Chg lo w ((w.drewN n).setCell ⟨B, 1, none⟩ (.int .i64 ((k + 1 : Nat) : Int)))) := fun n => ((Chg.refl lo w).drewN n).trans ((hr.drewN n).chg _ _)
    obtain ⟨R, hR⟩ : ∃ R, nx most k F c x = R := ⟨_, rfl⟩
    rw [hR] at htk hfin
    have AE : Aside (nx most k F c x = R) := hR
    clear h hr hx hkm hk2 hr1 hR
    go_enter Try.func14, Try.ntmps14
    go_upto_region 6 with (go_at_call 26; refine hov.mono ?_; rintro e1 w1 ⟨rfl, rfl⟩)
    go_quiet (fail)
    go_upto_region 8 with (go_at_call 30; refine (htk _).mono ?_; rintro e2 w2 ⟨rfl, h2⟩; obtain ⟨k', vl', l', bg', vm', M', r2⟩ := hfin _ _ h2; have d5 := r2.c5; have d6 := r2.c6)
    go_quiet (fail)
    go_wp2_with fail
    go_ret2
    unfold PutTo
    rw [AE.out]
    exact ⟨rfl, h2.1.drewN _, ((AR.out _).trans h2.2).drewN _⟩
/-- Put on a reader that is done or was stopped. -/
theorem put_shut (x : Nat) (h : Rm w lo B most k vl l bg vm M dn y) (hs : (dn || y != 0) = true) : Calls Try.prog 14 #[.pointer (some ⟨B, 0, none⟩), .int .u8 (x : Int)] w fun e w' => e = .returned (.tuple #[.bool dn, .int .i64 (y : Int)]) ∧ ∃ n, w' = w.drewN n := by
  have hov := over_c h
  rw [hs] at hov
  have c5 := h.c5
  have c6 := h.c6
  clear h
  go_enter Try.func14, Try.ntmps14
  go_upto_region 8 with (go_at_call 26; refine hov.mono ?_; rintro e1 w1 ⟨rfl, rfl⟩)
  go_quiet (fail)
  go_wp2_with fail
  go_ret2
  exact ⟨rfl, _, rfl⟩
theorem put_nil (x : Int) (w : World) : Calls Try.prog 14 #[.pointer none, .int .u8 x] w fun e w' => e = .returned (.tuple #[.bool false, .int .i64 0]) ∧ w' = w := by
  go_enter Try.func14, Try.ntmps14
  go_wp2_with fail
  go_ret2
  exact ⟨rfl, rfl⟩
/-- What End leaves of a reader that goes on. -/
def EndTo (w : World) (lo B most : Nat) (F : List Fd) (c : List Nat) (e : Ending) (w' : World) : Prop :=
  e = .returned (.int .i64 ((fin F c).1 : Nat)) ∧ ((fin F c).1 = 0 → Rn w' lo B most (fin F c).2) ∧ ((fin F c).1 ≠ 0 → Rs w' lo B most (fin F c).1) ∧ Chg lo w w'
set_option maxHeartbeats 1000000 in
theorem last_c (h : Rg w lo B most k F c) : Calls Try.prog 32 #[.pointer (some ⟨B, 0, none⟩)] w fun e w' => e = .returned (.tuple #[]) ∧ ((fin F c).1 = 0 → Rn w' lo B most (fin F c).2) ∧ ((fin F c).1 ≠ 0 → Rs w' lo B most (fin F c).1) ∧ Chg lo w w' := by
  obtain ⟨vl, vm, hr⟩ := h.ex
  obtain ⟨a, cp, hv, hcp, hl, _⟩ := hr.vlShape
  obtain ⟨q, hq⟩ : ∃ q, (flat F).length = q := ⟨_, rfl⟩
  obtain ⟨L, hL⟩ : ∃ L, (flat F ++ c).length = L := ⟨_, rfl⟩
  have hlk := h.lk
  have hkm := h.km
  have hmb := h.mb
  rw [hL] at hv hlk
  by_cases hc : c = []
  · have e : fin F c = (0, F) := by unfold fin; rw [if_pos hc]
    rw [e]
    have hLq : L = q := by rw [← hL, hc, List.append_nil, hq]
    have t1 : ((q : Int) < (L : Int)) = False := eq_false (by omega)
    have t1' : (q < L) = False := eq_false (by omega)
    have c2 := hr.c2
    have c3 := hr.c3
    have c5 := hr.c5
    have c6 := hr.c6
    have f5 := hr.fz 5
    rw [hq] at c3
    have AF : Aside (∀ n, Rn ((w.drewN n).setCell ⟨B, 5, none⟩ (.bool true)) lo B most F ∧ Chg lo w ((w.drewN n).setCell ⟨B, 5, none⟩ (.bool true))) := by
      intro n
      refine ⟨⟨⟨k, vl, vm, (flat F).length, ?_⟩, hmb, by omega, h.f64, h.oct.left⟩, ((Chg.refl lo w).drewN n).trans ((hr.drewN n).chg _ _)⟩
      have := (hr.drewN n).set5 true
      rw [hc, List.append_nil] at this
      exact this
    subst hv
    clear h hr hc e hL hq hlk hkm hmb hcp hl hLq
    go_enter Try.func32, Try.ntmps32
    go_wp2_with fail
    go_quiet (fail)
    go_wp2_with fail
    go_end0
    have af := AF.out
    exact ⟨rfl, fun _ => (af _).1, fun h => absurd rfl h, (af _).2⟩
  · have e : fin F c = lin F c := by unfold fin; rw [if_neg hc]
    rw [e]
    have hLq : q < L := by
      have := List.length_pos_iff.2 hc
      rw [List.length_append] at hL
      omega
    have t1 : ((q : Int) < (L : Int)) = True := eq_true (by omega)
    have t1' : (q < L) = True := eq_true (by omega)
    have c2 := hr.c2
    have c3 := hr.c3
    rw [hq] at c3
    have hln := fun n => line_c hc (hr.drewN n) (by omega) h.oct h.f64
    have hfin : ∀ n (W : World), Lt (w.drewN n) lo B most k F c W → ∃ k' vl l bg vm M, Rm W lo B most k' vl l bg vm M false (lin F c).1 := by
      rintro n W ⟨h1, h2⟩
      rcases h1 with ⟨e0, vl1, vm1, r1⟩ | ⟨e0, vl1, vm1, r1⟩
      · exact ⟨_, _, _, _, _, _, by rw [e0]; exact r1⟩
      · exact ⟨_, _, _, _, _, _, r1⟩
    have AF : Aside (∀ n (W : World), Lt (w.drewN n) lo B most k F c W → ((lin F c).1 = 0 → Rn (W.setCell ⟨B, 5, none⟩ (.bool ((lin F c).1 == 0))) lo B most (lin F c).2) ∧ ((lin F c).1 ≠ 0 → Rs (W.setCell ⟨B, 5, none⟩ (.bool ((lin F c).1 == 0))) lo B most (lin F c).1) ∧ Chg lo w (W.setCell ⟨B, 5, none⟩ (.bool ((lin F c).1 == 0)))) := by
      rintro n W ⟨h1, h2⟩
      rcases h1 with ⟨e0, vl1, vm1, r1⟩ | ⟨e0, vl1, vm1, r1⟩
      · have hf := flat_lin e0
        have et : ((lin F c).1 == 0) = true := by simpa using e0
        refine ⟨fun _ => ⟨⟨k, vl1, vm1, (flat (lin F c).2).length, ?_⟩, hmb, by rw [hf]; omega, lin_len h.f64, by rw [hf]; exact h.oct⟩, fun h => absurd e0 h, ((Chg.refl lo w).drewN n).trans (h2.trans (r1.chg _ _))⟩
        rw [et]; exact r1.set5 true
      · have et : ((lin F c).1 == 0) = false := by simpa using e0
        refine ⟨fun h => absurd h e0, fun _ => ⟨⟨k, vl1, vm1, ?_⟩, hmb, ?_⟩, ((Chg.refl lo w).drewN n).trans (h2.trans (r1.chg _ _))⟩
        · rw [et]; exact r1.set5 false
        · rcases lin_why F c with e | e | e
          · exact absurd e e0
          · exact Or.inl e
          · exact Or.inr e
    obtain ⟨R, hR⟩ : ∃ R, (lin F c).1 = R := ⟨_, rfl⟩
    rw [hR] at hfin AF
    rw [hR]
    obtain ⟨rb, hrb⟩ : ∃ rb, (R == 0) = rb := ⟨_, rfl⟩
    have trb : ((R : Int) == 0) = rb := by rw [← hrb, Bool.eq_iff_iff, beq_iff_eq, beq_iff_eq]; omega
    rw [hrb] at AF
    subst hv
    clear h hr hc e hL hq hlk hkm hmb hcp hl hLq hR hrb
    go_enter Try.func32, Try.ntmps32
    go_wp2_with fail
    go_quiet (fail)
    go_wp2_with (go_at_call 39; refine (hln _).mono ?_; rintro e2 w2 ⟨rfl, h2⟩; obtain ⟨k', vl', l', bg', vm', M', r2⟩ := hfin _ _ h2; have d5 := r2.c5; have d6 := r2.c6; have g5 := r2.fz 5)
    go_end0
    exact ⟨rfl, AF.out _ _ h2⟩
theorem end_go (h : Rg w lo B most k F c) : Calls Try.prog 17 #[.pointer (some ⟨B, 0, none⟩)] w fun e w' => EndTo w lo B most F c e w' := by
  obtain ⟨vl, vm, hr⟩ := h.ex
  have hov := over_c hr
  have hla := last_c h
  have hfin : ∀ W : World, ((fin F c).1 = 0 → Rn W lo B most (fin F c).2) ∧ ((fin F c).1 ≠ 0 → Rs W lo B most (fin F c).1) ∧ Chg lo w W → W.cell? ⟨B, 6, none⟩ = some (.int .i64 ((fin F c).1 : Nat)) := by
    rintro W ⟨h1, h2, h3⟩
    by_cases e : (fin F c).1 = 0
    · obtain ⟨k', vl', vm', bg', r1⟩ := (h1 e).ex
      rw [r1.c6, e]
    · obtain ⟨k', vl', vm', r1⟩ := (h2 e).ex
      rw [r1.c6]
  clear h hr
  go_enter Try.func17, Try.ntmps17
  go_wp2_with (first
    | (go_at_call 26; refine hov.mono ?_; rintro e1 w1 ⟨rfl, rfl⟩)
    | (go_at_call 32; refine hla.mono ?_; rintro e2 w2 ⟨rfl, h2⟩; have d6 := hfin _ h2))
  go_ret
  exact ⟨rfl, h2⟩
theorem end_shut (h : Rm w lo B most k vl l bg vm M dn y) (hs : (dn || y != 0) = true) : Calls Try.prog 17 #[.pointer (some ⟨B, 0, none⟩)] w fun e w' => e = .returned (.int .i64 (y : Int)) ∧ w' = w := by
  have hov := over_c h
  rw [hs] at hov
  have c6 := h.c6
  clear h
  go_enter Try.func17, Try.ntmps17
  go_wp2_with (go_at_call 26; refine hov.mono ?_; rintro e1 w1 ⟨rfl, rfl⟩)
  go_ret
  exact ⟨rfl, rfl⟩
theorem end_nil (w : World) : Calls Try.prog 17 #[.pointer none] w fun e w' => e = .returned (.int .i64 0) ∧ w' = w := by
  go_enter Try.func17, Try.ntmps17
  go_wp2_with fail
  go_ret
  exact ⟨rfl, rfl⟩
theorem reset_c (h : Rm w lo B most k vl l bg vm M dn y) (hmb : most ≤ 65536) : Calls Try.prog 15 #[.pointer (some ⟨B, 0, none⟩)] w fun e w' => e = .returned (.tuple #[]) ∧ Rg w' lo B most 0 [] [] ∧ Chg lo w w' := by
  have hf := forget_c h
  clear h
  go_enter Try.func15, Try.ntmps15
  go_wp2_with (go_at_call 31; refine hf.mono ?_; rintro e1 w1 ⟨rfl, vl1, vm1, r1, ch1⟩; have d1 := r1.c1; have d5 := r1.c5; have d6 := r1.c6; have g1 := r1.fz 1; have g5 := r1.fz 5; have g6 := r1.fz 6)
  go_end0
  have r2 := r1.set1 0
  have r3 := r2.set5 false
  have r4 := r3.set6 0
  exact ⟨rfl, ⟨⟨_, _, r4⟩, by omega, hmb, by simp [flat], by simp, by simp [flat, Oct]⟩, ((ch1.trans (r1.chg _ _)).trans (r2.chg _ _)).trans (r3.chg _ _)⟩
theorem reset_nil (w : World) : Calls Try.prog 15 #[.pointer none] w fun e w' => e = .returned (.tuple #[]) ∧ w' = w := by
  go_enter Try.func15, Try.ntmps15
  go_wp2_with fail
  go_end0
  exact ⟨rfl, rfl⟩
end
end Go.Proofs.Ytmlkdpoignimaaa

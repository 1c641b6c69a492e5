/-
  The decoder: Put.
-/
import Derived.Test.YtmijpocfichfpabPuts
namespace Go.Proofs.Ytmijpocfichfpab
open Go.RowKit
set_option linter.unusedVariables false
theorem put_why (B y x : Nat) (a r : Int) (pd la : Bool) (hy : y ≠ 0) (w : World) (h : Cells w B #[.int .u8 a, .int .u8 r, .bool pd, .bool la, .int .i64 y] 43) : Calls Try.prog 11 #[.pointer (some ⟨B, 0, none⟩), .int .u8 x] w fun e w' => e = .returned (.tuple #[.int .u8 0, .bool false, .int .i64 y]) ∧ ∃ n, w' = w.drewN n := by
  obtain ⟨c0, c1, c2, c3, c4⟩ := five h
  have h1 : ((y : Int) == 0) = false := by rw [beq_eq_false_iff_ne]; omega
  have h3 : ((y : Int) != 0) = true := by rw [bne_iff_ne]; omega
  have h2 : (y : Int) ≠ 0 := by omega
  clear h
  go_enter Try.func11, Try.ntmps11
  go_upto_region 7 with fail
  go_quiet (fail)
  go_wp2_with fail
  go_ret3
  exact ⟨rfl, _, rfl⟩
theorem put_blank (B x : Nat) (a r : Int) (pd la : Bool) (hx : x < 256) (hb : isBlank x = true) (w : World) (h : Cells w B #[.int .u8 a, .int .u8 r, .bool pd, .bool la, .int .i64 0] 43) : Calls Try.prog 11 #[.pointer (some ⟨B, 0, none⟩), .int .u8 x] w fun e w' => e = .returned (.tuple #[.int .u8 0, .bool false, .int .i64 0]) ∧ ∃ n, w' = w.drewN n := by
  obtain ⟨c0, c1, c2, c3, c4⟩ := five h
  have hbl := blank_c x hx w
  rw [hb] at hbl
  clear h
  go_enter Try.func11, Try.ntmps11
  go_upto_region 7 with (go_at_call 13; refine hbl.mono ?_; rintro e1 w0 ⟨rfl, hw0⟩; have hw0 := hw0.symm; subst hw0)
  go_quiet (fail)
  go_wp2_with fail
  go_ret3
  exact ⟨rfl, _, rfl⟩
theorem put_pad (B : Nat) (a r a2 r2 : Int) (pd la pd2 la2 : Bool) (y : Nat) (w : World) (h : Cells w B #[.int .u8 a, .int .u8 r, .bool pd, .bool la, .int .i64 0] 43)
    (hp : Calls Try.prog 14 #[.pointer (some ⟨B, 0, none⟩)] w fun e w' => e = .returned (.tuple #[]) ∧ Cells w' B #[.int .u8 a2, .int .u8 r2, .bool pd2, .bool la2, .int .i64 y] 43 ∧ But B w w') :
    Calls Try.prog 11 #[.pointer (some ⟨B, 0, none⟩), .int .u8 61] w fun e w' => e = .returned (.tuple #[.int .u8 0, .bool false, .int .i64 y]) ∧ Cells w' B #[.int .u8 a2, .int .u8 r2, .bool pd2, .bool la2, .int .i64 y] 43 ∧ But B w w' := by
  obtain ⟨c0, c1, c2, c3, c4⟩ := five h
  have hbl := blank_c 61 (by decide) w
  rw [show isBlank 61 = false by decide] at hbl
  clear h
  go_enter Try.func11, Try.ntmps11
  go_upto_region 7 with (first | (go_at_call 13; refine hbl.mono ?_; rintro e1 w0 ⟨rfl, hw0⟩; have hw0 := hw0.symm; subst hw0) | (go_at_call 14; refine hp.mono ?_; rintro e1 w1 ⟨rfl, hc, hb⟩))
  clear c0 c1 c2 c3 c4
  obtain ⟨c0, c1, c2, c3, c4⟩ := five hc
  have A : Aside (Cells w1 B #[.int .u8 a2, .int .u8 r2, .bool pd2, .bool la2, .int .i64 y] 43 ∧ But B w w1) := ⟨hc, hb⟩
  clear hc hb
  go_quiet (fail)
  go_wp2_with fail
  go_ret3
  exact ⟨rfl, A.out.1.drewN _, A.out.2.trans (But.of_only (((Only.refl B w1).drewN _)))⟩
theorem put_let (B x u : Nat) (t : Bool) (a r a2 r2 : Int) (pd la pd2 la2 : Bool) (y : Nat) (hx : x < 256) (hb : isBlank x = false) (h61 : x ≠ 61) (w : World) (h : Cells w B #[.int .u8 a, .int .u8 r, .bool pd, .bool la, .int .i64 0] 43)
    (hp : Calls Try.prog 15 #[.pointer (some ⟨B, 0, none⟩), .int .u8 x] w fun e w' => e = .returned (.tuple #[.int .u8 u, .bool t]) ∧ Cells w' B #[.int .u8 a2, .int .u8 r2, .bool pd2, .bool la2, .int .i64 y] 43 ∧ But B w w') :
    Calls Try.prog 11 #[.pointer (some ⟨B, 0, none⟩), .int .u8 x] w fun e w' => e = .returned (.tuple #[.int .u8 u, .bool t, .int .i64 y]) ∧ Cells w' B #[.int .u8 a2, .int .u8 r2, .bool pd2, .bool la2, .int .i64 y] 43 ∧ But B w w' := by
  obtain ⟨c0, c1, c2, c3, c4⟩ := five h
  have hbl := blank_c x hx w
  rw [hb] at hbl
  have h1 : ((x : Int) == 61) = false := by rw [beq_eq_false_iff_ne]; omega
  have h2 : (x : Int) ≠ 61 := by omega
  clear h
  go_enter Try.func11, Try.ntmps11
  go_upto_region 7 with (first | (go_at_call 13; refine hbl.mono ?_; rintro e1 w0 ⟨rfl, hw0⟩; have hw0 := hw0.symm; subst hw0) | (go_at_call 15; refine hp.mono ?_; rintro e1 w1 ⟨rfl, hc, hbel⟩))
  clear c0 c1 c2 c3 c4
  obtain ⟨c0, c1, c2, c3, c4⟩ := five hc
  have A : Aside (Cells w1 B #[.int .u8 a2, .int .u8 r2, .bool pd2, .bool la2, .int .i64 y] 43 ∧ But B w w1) := ⟨hc, hbel⟩
  clear hc hbel
  go_quiet (fail)
  go_wp2_with fail
  go_ret3
  exact ⟨rfl, A.out.1.drewN _, A.out.2.trans (But.of_only (((Only.refl B w1).drewN _)))⟩
theorem rst0 (p : Bool) (pv : Nat) : rst 0 p pv = 0 := by simp [rst]
theorem rstp (pl pv : Nat) : rst pl true pv = 0 := by simp [rst]
/-- A byte that goes on. -/
theorem put_go (B pl pv x : Nat) (p : Bool) (hx : x < 256) (hw : Wf pl p pv) (w : World) (h : Dd w B pl p pv 0) {pl' pv' : Nat} {p' : Bool} {o : Option Nat} (e : ev pl p pv x = .go pl' p' pv' o) :
    Calls Try.prog 11 #[.pointer (some ⟨B, 0, none⟩), .int .u8 x] w fun e w' => e = .returned (.tuple #[.int .u8 (ov o : Nat), .bool o.isSome, .int .i64 0]) ∧ Dd w' B pl' p' pv' 0 ∧ But B w w' := by
  obtain ⟨h1, h2, h3⟩ := hw
  unfold ev at e
  split at e
  · rename_i hb
    cases e
    refine (put_blank B x _ _ _ _ hx hb w h).mono ?_
    rintro e1 w1 ⟨he, n, rfl⟩
    exact ⟨he, Cells.drewN h n, But.of_only (((Only.refl B w).drewN _))⟩
  rename_i hb
  split at e
  · rename_i h61
    subst h61
    split at e
    · cases e
    · rename_i hp2
      cases e
      rcases (show pl = 2 ∨ pl = 3 by omega) with rfl | rfl
      · have hpf : p = false := by
          cases p
          · rfl
          · have := h3 rfl; omega
        subst hpf
        refine (put_pad B _ _ 3 0 _ _ true _ 0 w h (pad_two B _ _ _ w h)).mono ?_
        rintro e1 w1 ⟨he, hc, hbel⟩
        refine ⟨he, ?_, hbel⟩
        unfold Dd
        rw [show (2 + 1) % 4 = 3 by rfl, rstp]
        exact hc
      · refine (put_pad B _ _ 0 0 _ _ false true 0 w h (pad_three B _ _ _ w h)).mono ?_
        rintro e1 w1 ⟨he, hc, hbel⟩
        refine ⟨he, ?_, hbel⟩
        unfold Dd
        rw [show (3 + 1) % 4 = 0 by rfl, rst0]
        exact hc
  rename_i h61
  split at e
  · cases e
  rename_i hpf
  have hpf : p = false := by simpa using hpf
  subst hpf
  split at e
  · cases e
  · rename_i hv
    cases e
    have hbf : isBlank x = false := by simpa using hb
    exact put_let B x _ _ _ _ _ _ _ _ _ _ 0 hx hbf h61 w h (let_go B pl pv x hx hv ⟨h1, h2, h3⟩ w h _ rfl)
/-- A byte that stops it. -/
theorem put_stop (B pl pv x : Nat) (p : Bool) (hx : x < 256) (hw : Wf pl p pv) (w : World) (h : Dd w B pl p pv 0) {y : Nat} (e : ev pl p pv x = .stop y) :
    Calls Try.prog 11 #[.pointer (some ⟨B, 0, none⟩), .int .u8 x] w fun e w' => e = .returned (.tuple #[.int .u8 0, .bool false, .int .i64 y]) ∧ Dd w' B pl p pv y ∧ But B w w' := by
  obtain ⟨h1, h2, h3⟩ := hw
  unfold ev at e
  split at e
  · cases e
  rename_i hb
  have hbf : isBlank x = false := by simpa using hb
  split at e
  · rename_i h61
    subst h61
    split at e
    · rename_i hp2
      cases e
      exact put_pad B _ _ _ _ _ _ _ _ 21 w h (pad_few B pl _ _ _ hp2 w h)
    · cases e
  rename_i h61
  split at e
  · rename_i hp
    cases e
    subst hp
    refine put_let B x 0 false _ _ _ _ _ _ _ _ 21 hx hbf h61 w h (let_bad B pl _ x _ _ hx ?_ w h)
    have := h3 rfl
    rcases this with rfl | rfl <;> rfl
  rename_i hpf
  have hpf : p = false := by simpa using hpf
  subst hpf
  split at e
  · rename_i hv
    cases e
    exact put_let B x 0 false _ _ _ _ _ _ _ _ 20 hx hbf h61 w h (let_stray B pl _ x hx hv w h)
  · cases e
/-- End. -/
theorem end_c (B pl pv : Nat) (p : Bool) (hw : Wf pl p pv) (w : World) (h : Dd w B pl p pv 0) (y : Nat) (hy : (if pl = 0 then 0 else 1) = y) :
    Calls Try.prog 12 #[.pointer (some ⟨B, 0, none⟩)] w fun e w' => e = .returned (.int .i64 y) ∧ Dd w' B pl p pv y ∧ But B w w' := by
  by_cases h0 : pl = 0
  · subst h0
    subst hy
    unfold Dd at h ⊢
    rw [rst0] at h ⊢
    have e0 : (p && (0 : Nat) == 3) = false := by cases p <;> rfl
    rw [e0] at h ⊢
    exact end_no B _ w h
  · rw [if_neg h0] at hy
    subst hy
    exact end_cut B pl _ _ _ h0 w h
end Go.Proofs.Ytmijpocfichfpab

/-
  The decoder's steps, behind what was begun.
-/
import Derived.Test.YtapljkenmgdkmabQue
import Derived.Deep.RegionWith
namespace Go.Proofs.Ytapljkenmgdkmab
open Go.RowKit
set_option linter.unusedVariables false
theorem value_c (x : Nat) (hx : x < 256) (s : Nat) (q : Bool) (hr : Aside ((vl x = 16 ∧ s = 0 ∧ q = false) ∨ (vl x < 16 ∧ s = vl x ∧ q = true))) (w : World) : Calls Try.prog 24 #[.int .u8 x] w fun e w' => e = .returned (.tuple #[.int .u8 s, .bool q]) ∧ w = w' := by
  by_cases h1 : 48 ≤ x ∧ x ≤ 57
  · have e : vl x = x - 48 := by unfold vl; rw [if_pos h1]
    have A : Aside (q = true ∧ x - 48 = s) := by
      have := hr.out
      rw [e] at this
      show _ ∧ _
      rcases this with h | h
      · omega
      · exact ⟨h.2.2, h.2.1.symm⟩
    obtain ⟨rfl, h⟩ := A.out
    have i1 : (48 : Int) ≤ (x : Int) := by omega
    have i2 : (x : Int) ≤ 57 := by omega
    have hsub : (x : Int) - 48 = (s : Int) := by omega
    have hs : (s : Int) < 10 := by omega
    clear hr e h1 h A
    go_enter Try.func24, Try.ntmps24
    go_wp2_with fail
    go_ret2
    exact ⟨rfl, rfl⟩
  by_cases h2 : 65 ≤ x ∧ x ≤ 70
  · have e : vl x = x - 55 := by unfold vl; rw [if_neg h1, if_pos h2]
    have A : Aside (q = true ∧ x - 55 = s) := by
      have := hr.out
      rw [e] at this
      show _ ∧ _
      rcases this with h | h
      · omega
      · exact ⟨h.2.2, h.2.1.symm⟩
    obtain ⟨rfl, h⟩ := A.out
    have hx : x = s + 55 := by omega
    clear hr e h1 A
    have hs2 : s = 10 ∨ s = 11 ∨ s = 12 ∨ s = 13 ∨ s = 14 ∨ s = 15 := by omega
    clear h2 h
    rcases hs2 with rfl | rfl | rfl | rfl | rfl | rfl
    all_goals
      subst hx
      go_enter Try.func24, Try.ntmps24
      go_wp2_with fail
      go_ret2
      exact ⟨rfl, rfl⟩
  by_cases h3 : 97 ≤ x ∧ x ≤ 102
  · have e : vl x = x - 87 := by unfold vl; rw [if_neg h1, if_neg h2, if_pos h3]
    have A : Aside (q = true ∧ x - 87 = s) := by
      have := hr.out
      rw [e] at this
      show _ ∧ _
      rcases this with h | h
      · omega
      · exact ⟨h.2.2, h.2.1.symm⟩
    obtain ⟨rfl, h⟩ := A.out
    have hx : x = s + 87 := by omega
    clear hr e h1 h2 A
    have hs2 : s = 10 ∨ s = 11 ∨ s = 12 ∨ s = 13 ∨ s = 14 ∨ s = 15 := by omega
    clear h3 h
    rcases hs2 with rfl | rfl | rfl | rfl | rfl | rfl
    all_goals
      subst hx
      go_enter Try.func24, Try.ntmps24
      go_wp2_with fail
      go_ret2
      exact ⟨rfl, rfl⟩
  have e : vl x = 16 := by unfold vl; rw [if_neg h1, if_neg h2, if_neg h3]
  have A : Aside (q = false ∧ s = 0) := by
    have := hr.out
    rw [e] at this
    show _ ∧ _
    rcases this with h | h
    · exact ⟨h.2.2, h.2.1⟩
    · omega
  obtain ⟨rfl, rfl⟩ := A.out
  clear hr e A
  have g1 : ((48 : Int) ≤ (x : Int)) = True ∧ ((x : Int) ≤ 57) = False ∨ ((48 : Int) ≤ (x : Int)) = False := by
    by_cases h : 48 ≤ x
    · exact Or.inl ⟨eq_true (by omega), eq_false (by omega)⟩
    · exact Or.inr (eq_false (by omega))
  have g2 : ((65 : Int) ≤ (x : Int)) = True ∧ ((x : Int) ≤ 70) = False ∨ ((65 : Int) ≤ (x : Int)) = False := by
    by_cases h : 65 ≤ x
    · exact Or.inl ⟨eq_true (by omega), eq_false (by omega)⟩
    · exact Or.inr (eq_false (by omega))
  have g3 : ((97 : Int) ≤ (x : Int)) = True ∧ ((x : Int) ≤ 102) = False ∨ ((97 : Int) ≤ (x : Int)) = False := by
    by_cases h : 97 ≤ x
    · exact Or.inl ⟨eq_true (by omega), eq_false (by omega)⟩
    · exact Or.inr (eq_false (by omega))
  clear h1 h2 h3 hx
  rcases g1 with ⟨a1, a2⟩ | a1 <;> rcases g2 with ⟨b1, b2⟩ | b1 <;> rcases g3 with ⟨c1, c2⟩ | c1
  all_goals
    go_enter Try.func24, Try.ntmps24
    go_wp2_with fail
    go_ret2
    exact ⟨rfl, rfl⟩
/-- A decoder that is open, K known, W waiting. -/
structure Du (w : World) (B : Nat) (s : St) (K W : List Nat) : Prop where
  ex : ∃ hi, (∀ h, s = .dg h → hi = h) ∧ Dl w B s.num hi (K ++ W) K.length 0
  wf : Wf s W
/-- A decoder that was stopped, or has ended. -/
structure Dv (w : World) (B : Nat) (K : List Nat) (y : Nat) : Prop where
  ex : ∃ hi, Dl w B 5 hi K K.length y
section
variable {B hi : Nat}
theorem eq_stop (x : Nat) (hx : x < 256) (hv : ¬ vl x < 16) (h13 : x ≠ 13) (h10 : x ≠ 10) (w : World) (h : Dl w B 1 hi [] 0 0) : Calls Try.prog 14 #[.pointer (some ⟨B, 0, none⟩), .int .u8 x] w fun e w' => e = .returned (.tuple #[]) ∧ Dl w' B 5 hi [] 0 22 ∧ But B w w' := by
  have hval := value_c x hx 0 false (Or.inl ⟨by have := vl_le x; omega, rfl, rfl⟩) w
  have hst := stop_l w h
  have t13 : ((x : Int) == 13) = false := by rw [beq_eq_false_iff_ne]; omega
  have t10 : ((x : Int) == 10) = false := by rw [beq_eq_false_iff_ne]; omega
  clear h hv h13 h10
  go_enter Try.func14, Try.ntmps14
  go_wp2_with (first
    | (go_at_call 24; refine hval.mono ?_; rintro e1 w0 ⟨rfl, hw0⟩; subst hw0)
    | (go_at_call 25; refine hst.mono ?_; rintro e1 w2 ⟨rfl, h2, o2⟩))
  first | go_end0 | (refine bodyPost_ret (results_none rfl _ _ _) rfl ?_)
  exact ⟨rfl, h2, o2⟩
theorem eq_dig (x : Nat) (hx : x < 256) (hv : vl x < 16) (w : World) (h : Dl w B 1 hi [] 0 0) : Calls Try.prog 14 #[.pointer (some ⟨B, 0, none⟩), .int .u8 x] w fun e w' => e = .returned (.tuple #[]) ∧ Dl w' B 2 (vl x) [] 0 0 ∧ But B w w' := by
  have hval := value_c x hx (vl x) true (Or.inr ⟨hv, rfl, rfl⟩) w
  obtain ⟨v, hve⟩ : ∃ v, vl x = v := ⟨_, rfl⟩
  rw [hve] at hval ⊢
  have c0 := h.c0
  have c1 := h.c1
  have z0 := h.fz 0
  have z1 := h.fz 1
  have A : Aside (Dl w B 1 hi [] 0 0) := h
  clear h hv hve
  go_enter Try.func14, Try.ntmps14
  go_wp2_with (go_at_call 24; refine hval.mono ?_; rintro e1 w0 ⟨rfl, hw0⟩; subst hw0)
  first | go_end0 | (refine bodyPost_ret (results_none rfl _ _ _) rfl ?_)
  exact ⟨rfl, (A.out.set0 2).set1 v, But.of_only (((Only.refl B _).setCell _ _).setCell _ _)⟩
theorem eq_13 (w : World) (h : Dl w B 1 hi [] 0 0) : Calls Try.prog 14 #[.pointer (some ⟨B, 0, none⟩), .int .u8 13] w fun e w' => e = .returned (.tuple #[]) ∧ Dl w' B 3 hi [] 0 0 ∧ But B w w' := by
  have hval := value_c 13 (by decide) 0 false (Or.inl ⟨by decide, rfl, rfl⟩) w
  have c0 := h.c0
  have z0 := h.fz 0
  have A : Aside (Dl w B 1 hi [] 0 0) := h
  clear h
  go_enter Try.func14, Try.ntmps14
  go_wp2_with (go_at_call 24; refine hval.mono ?_; rintro e1 w0 ⟨rfl, hw0⟩; subst hw0)
  first | go_end0 | (refine bodyPost_ret (results_none rfl _ _ _) rfl ?_)
  exact ⟨rfl, A.out.set0 3, But.of_only ((Only.refl B _).setCell _ _)⟩
theorem eq_10 (w : World) (h : Dl w B 1 hi [] 0 0) : Calls Try.prog 14 #[.pointer (some ⟨B, 0, none⟩), .int .u8 10] w fun e w' => e = .returned (.tuple #[]) ∧ Dl w' B 0 hi [] 0 0 ∧ But B w w' := by
  have hval := value_c 10 (by decide) 0 false (Or.inl ⟨by decide, rfl, rfl⟩) w
  have c0 := h.c0
  have z0 := h.fz 0
  have A : Aside (Dl w B 1 hi [] 0 0) := h
  clear h
  go_enter Try.func14, Try.ntmps14
  go_wp2_with (go_at_call 24; refine hval.mono ?_; rintro e1 w0 ⟨rfl, hw0⟩; subst hw0)
  first | go_end0 | (refine bodyPost_ret (results_none rfl _ _ _) rfl ?_)
  exact ⟨rfl, A.out.set0 0, But.of_only ((Only.refl B _).setCell _ _)⟩
theorem dg_stop (x : Nat) (hx : x < 256) (hv : ¬ vl x < 16) (w : World) (h : Dl w B 2 hi [] 0 0) : Calls Try.prog 15 #[.pointer (some ⟨B, 0, none⟩), .int .u8 x] w fun e w' => e = .returned (.tuple #[]) ∧ Dl w' B 5 hi [] 0 22 ∧ But B w w' := by
  have hval := value_c x hx 0 false (Or.inl ⟨by have := vl_le x; omega, rfl, rfl⟩) w
  have hst := stop_l w h
  clear h hv
  go_enter Try.func15, Try.ntmps15
  go_wp2_with (first
    | (go_at_call 24; refine hval.mono ?_; rintro e1 w0 ⟨rfl, hw0⟩; subst hw0)
    | (go_at_call 25; refine hst.mono ?_; rintro e1 w2 ⟨rfl, h2, o2⟩))
  first | go_end0 | (refine bodyPost_ret (results_none rfl _ _ _) rfl ?_)
  exact ⟨rfl, h2, o2⟩
theorem sf_stop (x : Nat) (hx : x ≠ 10) (w : World) (h : Dl w B 3 hi [] 0 0) : Calls Try.prog 16 #[.pointer (some ⟨B, 0, none⟩), .int .u8 x] w fun e w' => e = .returned (.tuple #[]) ∧ Dl w' B 5 hi [] 0 22 ∧ But B w w' := by
  have hst := stop_l w h
  have t10 : ((x : Int) == 10) = false := by rw [beq_eq_false_iff_ne]; omega
  have t10' : ((x : Int) != 10) = true := by rw [bne_iff_ne]; omega
  clear h hx
  go_enter Try.func16, Try.ntmps16
  go_wp2_with (go_at_call 25; refine hst.mono ?_; rintro e1 w2 ⟨rfl, h2, o2⟩)
  first | go_end0 | (refine bodyPost_ret (results_none rfl _ _ _) rfl ?_)
  exact ⟨rfl, h2, o2⟩
theorem sf_10 (w : World) (h : Dl w B 3 hi [] 0 0) : Calls Try.prog 16 #[.pointer (some ⟨B, 0, none⟩), .int .u8 10] w fun e w' => e = .returned (.tuple #[]) ∧ Dl w' B 0 hi [] 0 0 ∧ But B w w' := by
  have c0 := h.c0
  have z0 := h.fz 0
  have A : Aside (Dl w B 3 hi [] 0 0) := h
  clear h
  go_enter Try.func16, Try.ntmps16
  go_wp2_with fail
  first | go_end0 | (refine bodyPost_ret (results_none rfl _ _ _) rfl ?_)
  exact ⟨rfl, A.out.set0 0, But.of_only ((Only.refl B _).setCell _ _)⟩
theorem u8_or (h v : Nat) (hh : h < 16) (hv : v < 16) : bits .or .u8 ((h : Int) * 16) (v : Int) = ((16 * h + v : Nat) : Int) := by
  have key : ∀ (h : Fin 16) (v : Fin 16), bits .or .u8 (((h : Nat) : Int) * 16) ((v : Nat) : Int) = ((16 * (h : Nat) + (v : Nat) : Nat) : Int) := by decide +kernel
  exact key ⟨h, hh⟩ ⟨v, hv⟩
theorem dg_go (x : Nat) (hx : x < 256) (hv : vl x < 16) (hh : hi < 16) (w : World) (h : Dl w B 2 hi [] 0 0) : Calls Try.prog 15 #[.pointer (some ⟨B, 0, none⟩), .int .u8 x] w fun e w' => e = .returned (.tuple #[]) ∧ Dl w' B 0 hi [16 * hi + vl x] 1 0 ∧ But B w w' := by
  have hval := value_c x hx (vl x) true (Or.inr ⟨hv, rfl, rfl⟩) w
  obtain ⟨v, hve⟩ : ∃ v, vl x = v := ⟨_, rfl⟩
  rw [hve] at hval hv ⊢
  have hor := u8_or hi v hh hv
  obtain ⟨z, hz⟩ : ∃ z, 16 * hi + v = z := ⟨_, rfl⟩
  rw [hz] at hor ⊢
  have c0 := h.c0
  have z0 := h.fz 0
  have h1 := h.set0 0
  have c1 := h1.c1
  have o1 : Only B w (w.setCell ⟨B, 0, none⟩ (.int .u8 0)) := (Only.refl B w).setCell 0 _
  obtain ⟨w1, hw1⟩ : ∃ w1, w.setCell ⟨B, 0, none⟩ (.int .u8 0) = w1 := ⟨_, rfl⟩
  have hw1' : w.setCell ⟨B, 0, none⟩ (.int .u8 ((0 : Nat) : Int)) = w1 := hw1
  rw [hw1'] at h1 c1
  rw [hw1] at o1
  have A : Aside (Dl w1 B 0 hi [] 0 0 ∧ Only B w w1) := ⟨h1, o1⟩
  have hh8 : IntKind.u8.wrap ((hi : Int) * 16) = (hi : Int) * 16 := by rw [IntKind.wrap_u8]; omega
  have hk := know_new z w1.drew h1.drew (by simp)
  clear h hve hv h1 o1 hh hx hz
  go_enter Try.func15, Try.ntmps15
  go_upto_region 4 with (go_at_call 24; refine hval.mono ?_; rintro e1 w0 ⟨rfl, hw0⟩; subst hw0)
  go_region_with (go_at_call 20; refine hk.mono ?_; rintro e1 w2 ⟨rfl, h2, o2⟩)
  first | go_end0 | (refine bodyPost_ret (results_none rfl _ _ _) rfl ?_)
  exact ⟨rfl, h2, (But.of_only A.out.2.drew).trans o2⟩
theorem bk_go {W : List Nat} (x : Nat) (hx : x < 256) (hW : W.length ≤ 64) (w : World) (h : Dl w B 4 hi W 0 0) {s' : St} {W' K' : List Nat} (e : ev .bk W x = .go s' W' K') : Calls Try.prog 17 #[.pointer (some ⟨B, 0, none⟩), .int .u8 x] w fun e w' => e = .returned (.tuple #[]) ∧ Dl w' B s'.num hi (K' ++ W') K'.length 0 ∧ But B w w' := by
  simp only [ev] at e
  split at e
  · rename_i h10
    subst h10
    cases e
    have hdr := drop_l w h
    clear h hx
    have AP : Aside (∀ w2 : World, Dl w2 B 4 hi ([13] ++ []) [13].length 0 → Calls Try.prog 18 #[.pointer (some ⟨B, 0, none⟩), .int .u8 10] w2 fun e w' => e = .returned (.tuple #[]) ∧ Dl w' B 0 hi [13, 10] 2 0 ∧ But B w2 w') := fun w2 h2 => plain_c (K := [13]) (W := []) (s' := .no) (W' := []) (K' := [13, 10]) 10 (by decide) w2 h2 (by simp) (by simp) (by rfl)
    go_enter Try.func17, Try.ntmps17
    go_wp2_with (first
      | (go_at_call 21; refine hdr.mono ?_; rintro e1 w2 ⟨rfl, h2, o2⟩; have hkn := know_new 13 w2 h2 (by simp); have A2 : Aside (Only B w w2) := o2; clear o2 h2)
      | (go_at_call 20; refine hkn.mono ?_; rintro e1 w3 ⟨rfl, h3, o3⟩; have hpl := AP.out w3 (by simpa using h3); have A3 : Aside (But B w2 w3) := o3; clear h3 o3)
      | (go_at_call 18; refine hpl.mono ?_; rintro e1 w4 ⟨rfl, h4, o4⟩))
    first | go_end0 | (refine bodyPost_ret (results_none rfl _ _ _) rfl ?_)
    exact ⟨rfl, h4, ((But.of_only A2.out).trans A3.out).trans o4⟩
  · rename_i h10
    have t10 : ((x : Int) == 10) = false := by rw [beq_eq_false_iff_ne]; omega
    have hkn := know_new 13 w h (by omega)
    have AP : Aside (∀ w2 : World, Dl w2 B 4 hi (W ++ [13]) (W.length + 1) 0 → Calls Try.prog 18 #[.pointer (some ⟨B, 0, none⟩), .int .u8 x] w2 fun e w' => e = .returned (.tuple #[]) ∧ Dl w' B s'.num hi (K' ++ W') K'.length 0 ∧ But B w2 w') := fun w2 h2 => plain_c (K := W ++ [13]) (W := []) x hx w2 (by simpa using h2) (by simp; omega) (by simp) e
    clear h hx e h10 hW
    go_enter Try.func17, Try.ntmps17
    go_wp2_with (first
      | (go_at_call 20; refine hkn.mono ?_; rintro e1 w3 ⟨rfl, h3, o3⟩; have hpl := AP.out w3 h3; have A3 : Aside (But B w w3) := o3; clear h3 o3)
      | (go_at_call 18; refine hpl.mono ?_; rintro e1 w4 ⟨rfl, h4, o4⟩))
    first | go_end0 | (refine bodyPost_ret (results_none rfl _ _ _) rfl ?_)
    exact ⟨rfl, h4, A3.out.trans o4⟩
theorem open_yes {l : List Nat} {s y : Nat} (hs : s < 5) (w : World) (h : Dl w B s hi l 0 y) : Calls Try.prog 13 #[.pointer (some ⟨B, 0, none⟩)] w fun e w' => e = .returned (.bool true) ∧ w = w' := by
  have c0 := h.c0
  have c1 := h.c70
  have t1 : ((s : Int) == 5) = false := by rw [beq_eq_false_iff_ne]; omega
  have t2 : ((s : Int) != 5) = true := by rw [bne_iff_ne]; omega
  clear h hs
  go_enter Try.func13, Try.ntmps13
  go_wp2_with fail
  go_ret
  exact ⟨rfl, rfl⟩
theorem open_over {l : List Nat} {kn y : Nat} (w : World) (h : Dl w B 5 hi l kn y) : Calls Try.prog 13 #[.pointer (some ⟨B, 0, none⟩)] w fun e w' => e = .returned (.bool false) ∧ w = w' := by
  have c0 := h.c0
  have c1 := h.c70
  clear h
  go_enter Try.func13, Try.ntmps13
  go_wp2_with fail
  go_ret
  exact ⟨rfl, rfl⟩
theorem open_full {l : List Nat} {s kn y : Nat} (hk : 0 < kn) (w : World) (h : Dl w B s hi l kn y) : Calls Try.prog 13 #[.pointer (some ⟨B, 0, none⟩)] w fun e w' => e = .returned (.bool false) ∧ w = w' := by
  by_cases hs : s = 5
  · subst hs; exact open_over w h
  have c0 := h.c0
  have c1 := h.c70
  have t1 : ((s : Int) == 5) = false := by rw [beq_eq_false_iff_ne]; omega
  have t2 : ((s : Int) != 5) = true := by rw [bne_iff_ne]; omega
  have t3 : ((kn : Int) == 0) = false := by rw [beq_eq_false_iff_ne]; omega
  clear h hs hk
  go_enter Try.func13, Try.ntmps13
  go_wp2_with fail
  go_ret
  exact ⟨rfl, rfl⟩
theorem open_nil (w : World) : Calls Try.prog 13 #[.pointer none] w fun e w' => e = .returned (.bool false) ∧ w = w' := by
  go_enter Try.func13, Try.ntmps13
  go_wp2_with fail
  go_ret
  exact ⟨rfl, rfl⟩
end
end Go.Proofs.Ytapljkenmgdkmab

/-
  What open, Put, take, Next, End, Reason of the splitter come to.
-/
import Derived.Test.YtbndohpcaahenabStp
import Derived.Test.YtbndohpcaahenabInv
import Derived.Laws.CopyOwn
import Derived.Laws.ResultCell
namespace Go.Proofs.Ytbndohpcaahenab
open Go.RowKit
set_option linter.unusedVariables false
/-- Why it was stopped. -/
def why (ed : Bool) (kn : Nat) (cl : Bool) : Int := if ed = true ∧ kn = 0 ∧ cl = false then 33 else 0
section
variable {B td : Nat} {D : List Nat} {s : Sp} {ed : Bool}
set_option maxHeartbeats 1000000 in
theorem start_c (g : Nat) (ho : Oct D) (hD : D.length ≤ 72) (hs : s.seen < D.length) (hl : s.hl.length < 94) (w : World) (h : Sm w B D s td ed) : Calls Try.prog 24 #[.pointer (some ⟨B, 0, none⟩), .int .u16 (g : Int)] w fun e w' => e = .returned (.tuple #[]) ∧ Sm w' B D (start D g s) td ed ∧ Only B w w' := by
  have c0 := h.k0
  have c2 := h.k2
  have z2 := h.fz 2
  obtain ⟨p, hp⟩ : ∃ p, s.seen = p := ⟨_, rfl⟩
  obtain ⟨u, hu⟩ : ∃ u, u = st D := ⟨_, rfl⟩
  obtain ⟨L, hL⟩ : ∃ L, D.length = L := ⟨_, rfl⟩
  obtain ⟨x, hx⟩ : ∃ x, D[s.seen]? = some x := ⟨_, List.getElem?_eq_getElem hs⟩
  have hx2 : x < 256 := ho x (List.mem_of_getElem? hx)
  have hz : u.size = L := by rw [hu, st_size, hL]
  rw [hp] at c2 hs hx
  rw [← hu] at c0
  have hx0 : ∀ h : p < u.size, (u[p]'h).toNat = x := by rw [hu]; exact fun h => st_get ho hx h
  have hu2 : Aside (st D = u) := hu.symm
  have b1 : (p : Int) < (L : Int) := by omega
  have b2 : p < L := by omega
  have b3 : (L : Int) < 100 := by omega
  by_cases hg : g = x
  · subst hg
    have t1 : ((g : Int) == (g : Int)) = true := by rw [beq_iff_eq]
    have e : start D g s = if p + 1 < L then hold g 0 { s with seen := p + 1 } else hold g 1 { s with seen := p + 1 } := by simp [start, hp, hx, hL]
    rw [e]
    have A : Aside (Sm w B D s td ed ∧ s.hl.length < 94) := ⟨h, hl⟩
    obtain ⟨q, hq⟩ : ∃ q, p + 1 = q := ⟨_, rfl⟩
    have hq2 : (p : Int) + 1 = (q : Int) := by omega
    rw [hq]
    have AQ : Aside (p + 1 = q) := hq
    clear h hl e hx hp hu hs ho hq
    go_enter Try.func24, Try.ntmps24
    go_upto_region 0 with fail
    go_quiet (fail)
    go_upto_region 2 with fail
    have hS := (A.out.1.drewN nq).set2 q
    have oS : Only B w ((w.drewN nq).setCell ⟨B, 2, none⟩ (.int .i64 (q : Int))) := ((Only.refl B w).drewN nq).setCell _ _
    go_upto_region 3 with fail
    obtain ⟨w3, hw3⟩ : ∃ w3, ((w.drewN nq).setCell ⟨B, 2, none⟩ (.int .i64 (q : Int))) = w3 := ⟨_, rfl⟩
    rw [hw3] at hS oS ⊢
    have d2 : w3.cell? ⟨B, 2, none⟩ = some (.int .i64 (q : Int)) := hS.k2
    have d0 := hS.k0
    have AU : Aside (Only B w w3) := oS
    by_cases hlt : q < L
    · have t2 : ((q : Int) < (L : Int)) = True := eq_true (by omega)
      have t3 : (q < L) = True := eq_true hlt
      have hh : ∀ n, Calls Try.prog 28 #[.pointer (some ⟨B, 0, none⟩), .int .u16 (g : Int), .func (.func 24) #[] #[]] (w3.drewN n) fun e w' => e = .returned (.tuple #[]) ∧ Sm w' B D (hold g 0 { s with seen := q }) td ed ∧ Only B (w3.drewN n) w' := fun n => hold_c (s := { s with seen := q }) g 0 A.out.2 _ (hS.drewN n)
      have AL : Aside (q < L) := hlt
      rw [show st D = u from hu2.out] at d0
      clear hS oS hw3 c0 c2 z2 hx0 t1 A AQ hlt hq2 hL b1 b2
      go_quiet (fail)
      go_wp2_with (go_at_call 28; refine (hh _).mono ?_; rintro e2 w4 ⟨rfl, h3, o3⟩)
      first | go_end0 | (refine bodyPost_ret (results_none rfl _ _ _) rfl ?_) | (rw [Exit.noGoto_ret]; refine bodyPost_ret (results_none rfl _ _ _) rfl ?_)
      exact ⟨rfl, h3, (AU.out.drewN _).trans o3⟩
    · have t2 : ((q : Int) < (L : Int)) = False := eq_false (by omega)
      have t3 : (q < L) = False := eq_false hlt
      have hh : ∀ n, Calls Try.prog 28 #[.pointer (some ⟨B, 0, none⟩), .int .u16 (g : Int), .func (.func 29) #[] #[]] (w3.drewN n) fun e w' => e = .returned (.tuple #[]) ∧ Sm w' B D (hold g 1 { s with seen := q }) td ed ∧ Only B (w3.drewN n) w' := fun n => hold_c (s := { s with seen := q }) g 1 A.out.2 _ (hS.drewN n)
      have AL : Aside (¬ q < L) := hlt
      rw [show st D = u from hu2.out] at d0
      clear hS oS hw3 c0 c2 z2 hx0 t1 A AQ hlt hq2 hL b1 b2
      go_quiet (fail)
      go_wp2_with (go_at_call 28; refine (hh _).mono ?_; rintro e2 w4 ⟨rfl, h3, o3⟩)
      first | go_end0 | (refine bodyPost_ret (results_none rfl _ _ _) rfl ?_) | (rw [Exit.noGoto_ret]; refine bodyPost_ret (results_none rfl _ _ _) rfl ?_)
      exact ⟨rfl, h3, (AU.out.drewN _).trans o3⟩
  · have hh := miss_c g hl w h
    have hm : ∀ n, Calls Try.prog 27 #[.pointer (some ⟨B, 0, none⟩), .int .u16 (g : Int)] (w.drewN n) fun e w' => e = .returned (.tuple #[]) ∧ Sm w' B D (miss g s) td ed ∧ Only B (w.drewN n) w' := fun n => miss_c g hl _ (h.drewN n)
    have t1 : ((g : Int) == (x : Int)) = false := by rw [beq_eq_false_iff_ne]; omega
    have e : start D g s = miss g s := by simp [start, hp, hx, Ne.symm hg]
    rw [e]
    clear h hl hh e hx hp hu hs ho hg
    go_enter Try.func24, Try.ntmps24
    go_upto_region 0 with fail
    go_quiet (fail)
    go_wp2_with (go_at_call 27; refine (hm _).mono ?_; rintro e2 w2 ⟨rfl, h3, o3⟩)
    first | go_end0 | (refine bodyPost_ret (results_none rfl _ _ _) rfl ?_) | (rw [Exit.noGoto_ret]; refine bodyPost_ret (results_none rfl _ _ _) rfl ?_)
    exact ⟨rfl, h3, ((Only.refl B w).drewN _).trans o3⟩
theorem open_c (w : World) (h : Sm w B D s td ed) : Calls Try.prog 18 #[.pointer (some ⟨B, 0, none⟩)] w fun e w' => e = .returned (.bool (!ed && decide (s.kn = 0))) ∧ w' = w := by
  have c1 := h.k104
  have c2 := h.k100
  obtain ⟨n, hn⟩ : ∃ n, s.kn = n := ⟨_, rfl⟩
  rw [hn] at c2 ⊢
  obtain ⟨q, hq⟩ : ∃ q, decide (n = 0) = q := ⟨_, rfl⟩
  have he : ((n : Int) == 0) = q := by rw [← hq, Bool.eq_iff_iff, beq_iff_eq, decide_eq_true_iff]; omega
  rw [hq]
  clear h hn hq
  cases ed with
  | true =>
    go_enter Try.func18, Try.ntmps18
    go_wp2_with fail
    go_ret
    exact ⟨rfl, rfl⟩
  | false =>
    go_enter Try.func18, Try.ntmps18
    go_wp2_with fail
    go_ret
    exact ⟨by rw [← he]; rfl, rfl⟩
/-- The step that comes next. -/
theorem step_c (g : Nat) (ho : Oct D) (hD : D.length ≤ 72) (hk : Okm D s) (w : World) (h : Sm w B D s td ed) : (fno s.md = 24 ∨ fno s.md = 29 ∨ fno s.md = 32 ∨ fno s.md = 33 ∨ fno s.md = 36 ∨ fno s.md = 31 ∨ fno s.md = 34 ∨ fno s.md = 37) ∧ Calls Try.prog (fno s.md) #[.pointer (some ⟨B, 0, none⟩), .int .u16 (g : Int)] w fun e w' => e = .returned (.tuple #[]) ∧ Sm w' B D (stp D g s) td ed ∧ Only B w w' := by
  have hl := hk.lt hD
  have hm := hk.md
  rcases (show s.md = 0 ∨ s.md = 1 ∨ s.md = 2 ∨ s.md = 3 ∨ s.md = 4 ∨ s.md = 5 ∨ s.md = 6 ∨ s.md = 7 by omega) with e | e | e | e | e | e | e | e
  · rw [show fno s.md = 24 by rw [e]; rfl, show stp D g s = start D g s by simp [stp, e]]
    exact ⟨by decide, start_c g ho hD (hk.seen e) hl w h⟩
  · rw [show fno s.md = 29 by rw [e]; rfl, show stp D g s = bBorder g s by simp [stp, e]]
    exact ⟨by decide, bborder_c g hl hk.pads w h⟩
  · rw [show fno s.md = 32 by rw [e]; rfl, show stp D g s = bDash g s by simp [stp, e]]
    exact ⟨by decide, bdash_c g hl w h⟩
  · rw [show fno s.md = 33 by rw [e]; rfl, show stp D g s = pad g s by simp [stp, e]]
    exact ⟨by decide, pad_c g hl hk.pads w h⟩
  · rw [show fno s.md = 36 by rw [e]; rfl, show stp D g s = bPad g s by simp [stp, e]]
    exact ⟨by decide, bpad_c g hl w h⟩
  · rw [show fno s.md = 31 by rw [e]; rfl, show stp D g s = within g s by simp [stp, e]]
    exact ⟨by decide, within_c g hl w h⟩
  · rw [show fno s.md = 34 by rw [e]; rfl, show stp D g s = bRet g s by simp [stp, e]]
    exact ⟨by decide, bret_c g hl w h⟩
  · rw [show fno s.md = 37 by rw [e]; rfl, show stp D g s = s by simp [stp, e]]
    exact ⟨by decide, ignore_c g w h⟩
set_option maxHeartbeats 1000000 in
theorem put_yes (g : Nat) (ho : Oct D) (hD : D.length ≤ 72) (hg : g < 256) (hk : Okm D s) (w : World) (h : Sm w B D s td false) : Calls Try.prog 11 #[.pointer (some ⟨B, 0, none⟩), .int .u8 (g : Int)] w fun e w' => e = .returned (.bool true) ∧ Sm w' B D (stp D g s) td false ∧ Only B w w' := by
  have hop : Calls Try.prog 18 #[.pointer (some ⟨B, 0, none⟩)] w fun e w' => e = .returned (.bool true) ∧ w = w' := (open_c w h).mono fun e w' k => ⟨by rw [k.1, hk.kn]; rfl, k.2.symm⟩
  obtain ⟨hf, hst⟩ := step_c g ho hD hk w h
  have c1 := h.k1
  generalize fno s.md = k at *
  clear h ho hD hk
  rcases hf with rfl | rfl | rfl | rfl | rfl | rfl | rfl | rfl
  all_goals
    go_enter Try.func11, Try.ntmps11
    go_upto_region 3 with (go_at_call 18; refine hop.mono ?_; rintro e1 w1 ⟨rfl, rfl⟩)
    go_wp2_with (refine hst.mono ?_; rintro e2 w2 ⟨rfl, h3, o3⟩)
    first | go_ret | go_ret2
    exact ⟨rfl, h3, o3⟩
theorem put_no (g : Nat) (w : World) (h : Sm w B D s td ed) (hn : ed = true ∨ s.kn ≠ 0) : Calls Try.prog 11 #[.pointer (some ⟨B, 0, none⟩), .int .u8 (g : Int)] w fun e w' => e = .returned (.bool false) ∧ w' = w := by
  have hop : Calls Try.prog 18 #[.pointer (some ⟨B, 0, none⟩)] w fun e w' => e = .returned (.bool false) ∧ w = w' := (open_c w h).mono fun e w' k => ⟨by
    rw [k.1]
    rcases hn with rfl | hn
    · rfl
    · simp [hn], k.2.symm⟩
  clear h hn
  go_enter Try.func11, Try.ntmps11
  go_wp2_with (go_at_call 18; refine hop.mono ?_; rintro e1 w1 ⟨rfl, rfl⟩)
  first | go_ret | go_ret2
  exact ⟨rfl, rfl⟩
theorem reason_c (w : World) (h : Sm w B D s td ed) : Calls Try.prog 14 #[.pointer (some ⟨B, 0, none⟩)] w fun e w' => e = .returned (.int .i64 (why ed s.kn s.cl)) ∧ w' = w := by
  have c1 := h.k104
  have c2 := h.k100
  have c3 := h.k103
  obtain ⟨n, hn⟩ : ∃ n, s.kn = n := ⟨_, rfl⟩
  obtain ⟨c, hc⟩ : ∃ c, s.cl = c := ⟨_, rfl⟩
  rw [hn] at c2 ⊢
  rw [hc] at c3 ⊢
  obtain ⟨r, hr⟩ : ∃ r, why ed n c = r := ⟨_, rfl⟩
  rw [hr]
  clear h hn hc
  cases ed with
  | false =>
    have e : r = 0 := by rw [← hr]; simp [why]
    subst e
    clear hr
    go_enter Try.func14, Try.ntmps14
    go_wp2_with fail
    go_ret
    exact ⟨rfl, rfl⟩
  | true =>
    by_cases h0 : n = 0
    · subst h0
      cases c with
      | true =>
        have e : r = 0 := by rw [← hr]; simp [why]
        subst e
        clear hr
        go_enter Try.func14, Try.ntmps14
        go_wp2_with fail
        go_ret
        exact ⟨rfl, rfl⟩
      | false =>
        have e : r = 33 := by rw [← hr]; simp [why]
        subst e
        clear hr
        go_enter Try.func14, Try.ntmps14
        go_wp2_with fail
        go_ret
        exact ⟨rfl, rfl⟩
    · have t1 : ((0 : Int) < (n : Int)) = True := eq_true (by omega)
      have t2 : (0 < n) = True := eq_true (by omega)
      have e : r = 0 := by rw [← hr]; simp [why, h0]
      subst e
      clear h0 hr
      go_enter Try.func14, Try.ntmps14
      go_wp2_with fail
      go_ret
      exact ⟨rfl, rfl⟩
end
end Go.Proofs.Ytbndohpcaahenab

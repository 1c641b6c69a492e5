/-
  Own texts of this seat, one behind the other: what each says stands ahead of it.
-/
import Derived.Test.YtcmmjbkgoafbnaaDoorMg
import Derived.Test.YtcmmjbkgoafbnaaDoorMb
import Derived.Test.YtcmmjbkgoafbnaaDoorMa
import Derived.WalkMore
import Derived.Deep.RegionHeld3
import Derived.Lib.BytesEntry
/-
  The first record of some: what cut comes to.
-/
namespace Go.Proofs.YtcmmjbkgoafbnaaDoor
open Go.RowKit
set_option linter.unusedVariables false
set_option linter.unusedSimpArgs false
/-- What cut answers. -/
structure Ct (b o : Nat) (l : List Nat) (w : World) (e : Ending) (w' : World) : Prop where
  ex : (tcut l = none ∧ e = .returned (.tuple #[.slice none 0 0, .int .i64 0])) ∨ ∃ (x : List Nat) (n m c f : Nat), tcut l = some (x, n) ∧ x.length = m ∧ m < c ∧ c < 1000000 ∧ e = .returned (.tuple #[.slice (some ⟨b, o + f, none⟩) m c, .int .i64 (n : Int)]) ∧ ∀ (i z : Nat), x[i]? = some z → l[f + i]? = some z
  dr : w' = w
set_option maxRecDepth 100000 in
set_option maxHeartbeats 4000000 in
theorem cut_c (b o : Nat) (l : List Nat) (L C : Nat) (w : World) (hL : l.length = L) (hb : Oct l) (hlc : L ≤ C) (hC : C < 1000000) (hc : ∀ (i x : Nat), l[i]? = some x → w.cell? ⟨b, o + i, none⟩ = some (.int .u8 (x : Int))) : Calls Tryd.prog 70 #[.slice (some ⟨b, o, none⟩) L C] w fun e w' => Ct b o l w e w' := by
  have A : Aside (l.length = L ∧ Oct l ∧ L ≤ C ∧ C < 1000000 ∧ ∀ (i x : Nat), l[i]? = some x → w.cell? ⟨b, o + i, none⟩ = some (.int .u8 (x : Int))) := ⟨hL, hb, hlc, hC, hc⟩
  clear hL hb hlc hC hc
  go_enter Tryd.func70, Tryd.ntmps70
  go_upto_block 0 with fail
  go_cut [3, 4] (fun s3 s4 wx => ∃ d n : Nat, s3 = .int .i64 (n : Int) ∧ s4 = .int .i64 (d : Int) ∧ wx = w ∧ Aside (Dg l d ∧ d ≤ 4 ∧ n = num 0 (l.take d) ∧ (d = 4 ∨ d = l.length ∨ ∃ x, l[d]? = some x ∧ isd x = false)))
  case first =>
    go_wp2_with fail
    go_loopg [3, 4] 5 (fun gg s3 s4 wr => ∃ d n : Nat, s3 = .int .i64 (n : Int) ∧ s4 = .int .i64 (d : Int) ∧ wr = w ∧ Aside (d + gg = 5 ∧ d ≤ 4 ∧ Dg l d ∧ n = num 0 (l.take d)))
    case atStart => exact ⟨0, 0, rfl, rfl, rfl, ⟨rfl, by decide, dg_zero l, rfl⟩⟩
    case round =>
      obtain ⟨d, n, rfl, rfl, rfl, AR⟩ := hrel
      have a0 := A.out
      have r0 := AR.out
      obtain ⟨M, hM⟩ : ∃ M : Nat, (if (4 : Nat) < L then 4 else L) = M := ⟨_, rfl⟩
      have hMi : (if (L : Int) < 4 then (L : Int) else 4) = (M : Int) := by split <;> (split at hM <;> omega)
      have hMj : (if (4 : Int) < (L : Int) then 4 else (L : Int)) = (M : Int) := by split <;> (split at hM <;> omega)
      have hMk : M ≤ 4 ∧ M ≤ L ∧ (M = 4 ∨ M = L) := by split at hM <;> omega
      by_cases hd : d < M
      · obtain ⟨x, hx⟩ : ∃ x, l[d]? = some x := ⟨_, List.getElem?_eq_getElem (by omega)⟩
        have hcell := a0.2.2.2.2 d x hx
        have hx2 : x < 256 := a0.2.1 x (List.mem_of_getElem? hx)
        have t1 : ((d : Int) < (M : Int)) = True := eq_true (by omega)
        have t2 : (d < L) = True := eq_true (by omega)
        have t3 : ((d : Int) < (L : Int)) = True := eq_true (by omega)
        by_cases h1 : 48 ≤ x
        · have e1 : ((48 : Int) ≤ (x : Int)) = True := eq_true (by omega)
          by_cases h2 : x ≤ 57
          · have e2 : ((x : Int) ≤ 57) = True := eq_true (by omega)
            obtain ⟨y, hy⟩ : ∃ y : Nat, x = y + 48 := ⟨x - 48, by omega⟩
            have e3 : IntKind.u8.wrap ((x : Int) - 48) = (y : Int) := by rw [IntKind.wrap_u8]; omega
            have hid : isd x = true := isd_true.2 ⟨h1, h2⟩
            have hbd := r0.2.2.1.bound
            have hn4 : n < 100000 := by
              rw [r0.2.2.2]
              have : 10 ^ d ≤ 10 ^ 4 := Nat.pow_le_pow_right (by decide) (by omega)
              omega
            have e4 : (n : Int) < 100000 := by omega
            have e5 : (y : Int) < 256 := by omega
            have e6 : (d : Int) < 10 := by omega
            have AG : Aside (Dg l (d + 1) ∧ 10 * n + y = num 0 (l.take (d + 1)) ∧ d < 4 ∧ d + gk = 5) := ⟨r0.2.2.1.more hx hid, by rw [num_more hx, ← r0.2.2.2]; omega, by omega, r0.1⟩
            clear hx hx2 h1 h2 hy hid hbd hn4 a0 r0 AR hM hd
            go_wp2_with fail
            have ag := AG.out
            go_roundg (gk - 1)
            case measure => omega
            case rel => exact ⟨d + 1, 10 * n + y, by go_num, by go_num, rfl, ⟨by omega, by omega, ag.1, ag.2.1⟩⟩
          · have e2 : ((x : Int) ≤ 57) = False := eq_false (by omega)
            have hid : isd x = false := isd_false.2 (by omega)
            have AG : Aside (Dg l d ∧ d ≤ 4 ∧ n = num 0 (l.take d) ∧ (d = 4 ∨ d = l.length ∨ ∃ x, l[d]? = some x ∧ isd x = false)) := ⟨r0.2.2.1, r0.2.1, r0.2.2.2, Or.inr (Or.inr ⟨x, hx, hid⟩)⟩
            clear hx hx2 h1 h2 hid a0 r0 AR hM hd
            go_wp2_with fail
            go_meet
            exact ⟨d, n, rfl, rfl, rfl, AG⟩
        · have e1 : ((48 : Int) ≤ (x : Int)) = False := eq_false (by omega)
          have hid : isd x = false := isd_false.2 (by omega)
          have AG : Aside (Dg l d ∧ d ≤ 4 ∧ n = num 0 (l.take d) ∧ (d = 4 ∨ d = l.length ∨ ∃ x, l[d]? = some x ∧ isd x = false)) := ⟨r0.2.2.1, r0.2.1, r0.2.2.2, Or.inr (Or.inr ⟨x, hx, hid⟩)⟩
          clear hx hx2 h1 hid a0 r0 AR hM hd
          go_wp2_with fail
          go_meet
          exact ⟨d, n, rfl, rfl, rfl, AG⟩
      · have t1 : ((d : Int) < (M : Int)) = False := eq_false (by omega)
        have hdl := r0.2.2.1.1
        have AG : Aside (Dg l d ∧ d ≤ 4 ∧ n = num 0 (l.take d) ∧ (d = 4 ∨ d = l.length ∨ ∃ x, l[d]? = some x ∧ isd x = false)) := ⟨r0.2.2.1, r0.2.1, r0.2.2.2, by rcases hMk.2.2 with e | e; exact Or.inl (by omega); exact Or.inr (Or.inl (by omega))⟩
        clear hd hdl a0 r0 AR hM
        go_wp2_with fail
        go_meet
        exact ⟨d, n, rfl, rfl, rfl, AG⟩
  case rest =>
    obtain ⟨d, n, rfl, rfl, rfl, AR⟩ := hcut
    have a0 := A.out
    have r0 := AR.out
    have hq := tcut_eq r0.1 r0.2.1 r0.2.2.2
    rw [← r0.2.2.1] at hq
    have hbd := r0.1.bound
    have hn4 : n < 100000 := by
      rw [r0.2.2.1]
      have : 10 ^ d ≤ 10 ^ 4 := Nat.pow_le_pow_right (by decide) (by omega)
      omega
    have e6 : (d : Int) < 10 := by omega
    have e7 : (n : Int) < 100000 := by omega
    have e9 : (0 : Int) ≤ (n : Int) := by omega
    by_cases h1 : n < d + 2
    · have t1 : ((n : Int) - 1 < (d : Int) + 1) = True := eq_true (by omega)
      rw [if_pos (Or.inl h1)] at hq
      have AQ : Aside (tcut l = none) := hq
      clear hq h1 hn4 hbd r0 a0 AR A
      go_wp2_with fail
      go_ret2
      exact ⟨Or.inl ⟨AQ.out, rfl⟩, rfl⟩
    · have t1 : ((n : Int) - 1 < (d : Int) + 1) = False := eq_false (by omega)
      by_cases h2 : l.length < n
      · rw [if_pos (Or.inr (Or.inl h2))] at hq
        have t2 : ((L : Int) < (n : Int)) = True := eq_true (by omega)
        have AQ : Aside (tcut l = none) := hq
        clear hq h1 h2 hn4 hbd r0 a0 AR A
        go_wp2_with fail
        go_ret2
        exact ⟨Or.inl ⟨AQ.out, rfl⟩, rfl⟩
      · have t2 : ((L : Int) < (n : Int)) = False := eq_false (by omega)
        obtain ⟨x, hx⟩ : ∃ x, l[d]? = some x := ⟨_, List.getElem?_eq_getElem (by omega)⟩
        obtain ⟨m, hm⟩ : ∃ m : Nat, n = m + 1 := ⟨n - 1, by omega⟩
        obtain ⟨y, hy⟩ : ∃ y, l[m]? = some y := ⟨_, List.getElem?_eq_getElem (by omega)⟩
        have c1 := a0.2.2.2.2 d x hx
        have c2 := a0.2.2.2.2 m y hy
        have u1 : (d < L) = True := eq_true (by omega)
        have u2 : (m < L) = True := eq_true (by omega)
        have u3 : ((d : Int) < (L : Int)) = True := eq_true (by omega)
        have u4 : ((m : Int) < (L : Int)) = True := eq_true (by omega)
        have u5 : (n : Int) - 1 = (m : Int) := by omega
        have u6 : ((m : Int) < (d : Int) + 1) = False := eq_false (by omega)
        rw [hx, show n - 1 = m by omega, hy] at hq
        have u7 : (m : Int) < 100000 := by omega
        clear t1
        by_cases h3 : x = 32
        · subst h3
          by_cases h4 : y = 10
          · subst h4
            rw [if_neg (by simp; omega)] at hq
            have hlen : ((l.take m).drop (d + 1)).length = m - (d + 1) := by rw [List.length_drop, List.length_take]; omega
            have hLi : ∀ (i z : Nat), ((l.take m).drop (d + 1))[i]? = some z → l[d + 1 + i]? = some z := fun i z hz => by
              rw [List.getElem?_drop, List.getElem?_take] at hz
              split at hz
              · exact hz
              · cases hz
            have AQ : Aside (tcut l = some ((l.take m).drop (d + 1), n) ∧ ((l.take m).drop (d + 1)).length = m - (d + 1) ∧ (∀ (i z : Nat), ((l.take m).drop (d + 1))[i]? = some z → l[d + 1 + i]? = some z) ∧ m < C ∧ d + 1 ≤ m ∧ C < 1000000) := ⟨hq, hlen, hLi, by omega, by omega, a0.2.2.2.1⟩
            have v1 : (d : Int) + 1 ≤ (m : Int) := by omega
            have v2 : (m : Int) ≤ (C : Int) := by omega
            have v3 : ¬ ((C : Int) = (d : Int) + 1) := by omega
            have v4 : (C : Int) < 1000000 := by omega
            have v5 : ¬ (C = d + 1) := by omega
            clear hm hq hlen hLi h1 h2 hn4 hbd r0 a0 AR A hx hy
            go_wp2_with fail
            go_ret2
            have aq := AQ.out
            exact ⟨Or.inr ⟨_, n, m - (d + 1), C - (d + 1), d + 1, aq.1, aq.2.1, by omega, by omega, by congr 2, aq.2.2.1⟩, rfl⟩
          · have t4 : ((y : Int) == 10) = false := by rw [beq_eq_false_iff_ne]; omega
            have t5 : ((y : Int) != 10) = true := by rw [bne_iff_ne]; omega
            rw [if_pos (Or.inr (Or.inr (Or.inr (by simp; exact h4))))] at hq
            have AQ : Aside (tcut l = none) := hq
            clear hm hq h1 h2 h4 hn4 hbd r0 a0 AR A hx hy
            go_wp2_with fail
            go_ret2
            exact ⟨Or.inl ⟨AQ.out, rfl⟩, rfl⟩
        · have t4 : ((x : Int) == 32) = false := by rw [beq_eq_false_iff_ne]; omega
          have t5 : ((x : Int) != 32) = true := by rw [bne_iff_ne]; omega
          rw [if_pos (Or.inr (Or.inr (Or.inl (by simp; exact h3))))] at hq
          have AQ : Aside (tcut l = none) := hq
          clear hm hq h1 h2 h3 hn4 hbd r0 a0 AR A hx hy
          go_wp2_with fail
          go_ret2
          exact ⟨Or.inl ⟨AQ.out, rfl⟩, rfl⟩
end Go.Proofs.YtcmmjbkgoafbnaaDoor

/-
  A part of a slice of bytes. No walk.
-/
namespace Go.Proofs.YtcmmjbkgoafbnaaDoor
open Go.RowKit
set_option linter.unusedVariables false
theorem slice_fe (b o L C f e : Nat) (h1 : f ≤ e) (h2 : e ≤ C) (h3 : f ≠ C) (W : World) : (Instr.slice 22 (.slice (some ⟨b, o, none⟩) L C) (some (.int .i64 (f : Int))) (some (.int .i64 (e : Int))) none).run Tryd.prog W = .ok (.slice (some ⟨b, o + f, none⟩) (e - f) (C - f)) W := by
  have hk1 : (f : Int) ≤ (e : Int) := by omega
  have hk2 : (e : Int) ≤ (C : Int) := by omega
  have hk0 : (0 : Int) ≤ (f : Int) := by omega
  have hk3 : (0 : Int) ≤ (e : Int) := by omega
  have hCk : ¬ C = f := by omega
  have hCk2 : ¬ (C : Int) = (f : Int) := by omega
  clear h1 h2 h3
  go_simp
theorem slice_ee (b o L C : Nat) (W : World) : (Instr.slice 22 (.slice (some ⟨b, o, none⟩) L C) (some (.int .i64 (C : Int))) (some (.int .i64 (C : Int))) none).run Tryd.prog W = .ok (.slice (some ⟨b, o, none⟩) 0 0) W := by
  have hk0 : (0 : Int) ≤ (C : Int) := by omega
  go_simp
theorem slice_00 (p : Addr) (L C : Nat) : ∃ q, ∀ W : World, (Instr.slice 22 (.slice (some p) L C) (some (.int .i64 0)) (some (.int .i64 0)) none).run Tryd.prog W = .ok (.slice (some q) 0 C) W := by
  have hk0 : (0 : Int) ≤ (C : Int) := by omega
  by_cases h : C = 0
  · subst h
    refine ⟨p, fun W => ?_⟩
    go_simp
  · have h2 : ¬ (C : Int) = 0 := by omega
    refine ⟨p.add 0, fun W => ?_⟩
    go_simp
theorem slice_nn (W : World) : (Instr.slice 22 (.slice none 0 0) (some (.int .i64 0)) (some (.int .i64 0)) none).run Tryd.prog W = .ok (.slice none 0 0) W := by go_simp
/-- From f up to e. -/
theorem cut_of (a : Option Addr) (l : List Nat) (L C f e : Nat) (hL : l.length = L) (hLC : L ≤ C) (hf : f ≤ e) (he : e ≤ L) (haz : a = none → L = 0 ∧ C = 0) (w0 : World) (hl : Lies w0 a l) :
    ∃ a2, (∀ W : World, (Instr.slice 22 (.slice a L C) (some (.int .i64 (f : Int))) (some (.int .i64 (e : Int))) none).run Tryd.prog W = .ok (.slice a2 (e - f) (C - f)) W) ∧ (∀ w, Lies w a l → Lies w a2 ((l.take e).drop f)) ∧ (a2 = none → e - f = 0 ∧ C - f = 0) := by
  cases a with
  | none =>
    obtain ⟨h1, h2⟩ := haz rfl
    subst h1
    subst h2
    obtain rfl : e = 0 := by omega
    obtain rfl : f = 0 := by omega
    exact ⟨none, fun W => slice_nn W, fun w _ => Or.inl (by simp), fun _ => ⟨rfl, rfl⟩⟩
  | some p =>
    rcases hl with h | ⟨b, o, h, _⟩
    · rw [h] at hL
      have h0 : L = 0 := by simpa using hL.symm
      subst h0
      obtain rfl : e = 0 := by omega
      obtain rfl : f = 0 := by omega
      obtain ⟨q, hq⟩ := slice_00 p 0 C
      exact ⟨some q, fun W => hq W, fun w _ => Or.inl (by simp), fun h => by cases h⟩
    · cases h
      by_cases h3 : f = C
      · obtain rfl : e = C := by omega
        obtain rfl : L = e := by omega
        subst h3
        refine ⟨some ⟨b, o, none⟩, fun W => ?_, fun w _ => Or.inl (by simp), fun h => by cases h⟩
        rw [Nat.sub_self]
        exact slice_ee b o f f W
      · refine ⟨some ⟨b, o + f, none⟩, fun W => slice_fe b o L C f e hf (by omega) h3 W, fun w h => ?_, fun h => by cases h⟩
        rcases h with rfl | ⟨b', o', ha', hc⟩
        · exact Or.inl (by simp)
        · cases ha'
          refine Or.inr ⟨b, o + f, rfl, fun j x hx => ?_⟩
          rw [List.getElem?_drop, List.getElem?_take] at hx
          split at hx
          · rw [Nat.add_assoc]; exact hc _ _ hx
          · simp at hx
end Go.Proofs.YtcmmjbkgoafbnaaDoor

/-
  Records gone through: what read comes to.
-/
namespace Go.Proofs.YtcmmjbkgoafbnaaDoor
open Go.RowKit
set_option linter.unusedVariables false
set_option linter.unusedSimpArgs false
theorem slice_f (b o L C f : Nat) (h1 : f ≤ L) (h2 : L ≤ C) (h3 : f ≠ C) (W : World) : (Instr.slice 22 (.slice (some ⟨b, o, none⟩) L C) (some (.int .i64 (f : Int))) none none).run Tryd.prog W = .ok (.slice (some ⟨b, o + f, none⟩) (L - f) (C - f)) W := by
  have hk1 : (f : Int) ≤ (L : Int) := by omega
  have hk2 : (L : Int) ≤ (C : Int) := by omega
  have hk0 : (0 : Int) ≤ (f : Int) := by omega
  have hCk : ¬ C = f := by omega
  have hCk2 : ¬ (C : Int) = (f : Int) := by omega
  clear h1 h2 h3
  go_simp
theorem slice_fC (b o C : Nat) (W : World) : (Instr.slice 22 (.slice (some ⟨b, o, none⟩) C C) (some (.int .i64 (C : Int))) none none).run Tryd.prog W = .ok (.slice (some ⟨b, o, none⟩) 0 0) W := by
  have hk0 : (0 : Int) ≤ (C : Int) := by omega
  go_simp
theorem slice_t (b o L C e : Nat) (h1 : e ≤ L) (h2 : L ≤ C) (h3 : 0 < C) (W : World) : (Instr.slice 22 (.slice (some ⟨b, o, none⟩) L C) none (some (.int .i64 (e : Int))) none).run Tryd.prog W = .ok (.slice (some ⟨b, o, none⟩) e C) W := by
  have hk1 : (e : Int) ≤ (L : Int) := by omega
  have hk2 : (e : Int) ≤ (C : Int) := by omega
  have hk0 : (0 : Int) ≤ (e : Int) := by omega
  have hCk : ¬ C = 0 := by omega
  have hCk2 : ¬ (C : Int) = 0 := by omega
  clear h1 h2 h3
  go_simp
section
variable {W : Nat} {s : Ts} {v : Rv}
/-- Where the outer loop stands: k bytes are gone through, c is to come. -/
structure Rq (W : Nat) (s : Ts) (v : Rv) (w wr : World) (k : Nat) (c : Cm) : Prop where
  wm : Wm wr W (tcs s c) v
  bu : But W w wr
  er : Er wr
  le : k ≤ s.ln
  res : trr ((s.K.take s.ln).drop k) c = trr (s.K.take s.ln) (s.nm, s.sz)
set_option maxRecDepth 100000 in
set_option maxHeartbeats 4000000 in
theorem read_c (w : World) (h : Wm w W s v) (he : Er w) (hW : 3 ≤ W) : Calls Tryd.prog 62 #[.pointer (some ⟨W, 1541, none⟩), .slice (some ⟨W, 516, none⟩) s.ln 1024] w fun e w' => Cr W s v (trr (s.K.take s.ln) (s.nm, s.sz)) w e w' := by
  obtain ⟨N, hN⟩ : ∃ N, s.ln = N := ⟨_, rfl⟩
  obtain ⟨R, hR⟩ : ∃ R, trr (s.K.take s.ln) (s.nm, s.sz) = R := ⟨_, rfl⟩
  rw [hR, hN]
  have A : Aside (s.ln = N ∧ 3 ≤ W ∧ trr (s.K.take s.ln) (s.nm, s.sz) = R) := ⟨hN, hW, hR⟩
  have A0 : Aside (Rq W s v w w 0 (s.nm, s.sz)) := ⟨h, But.refl _ _, he, Nat.zero_le _, by simp⟩
  clear hN hR he hW h
  go_enter Tryd.func62, Tryd.ntmps62
  go_wp2_with fail
  go_step3
  go_wp2_with fail
  go_step3
  go_wp2_with fail
  go_loopg [1] (N + 1) (fun gg s1 wr => ∃ (o L C : Nat), s1 = .slice (some ⟨W, o, none⟩) L C ∧ Aside (∃ k c, Rq W s v w wr k c ∧ k + gg = N + 1 ∧ L = N - k ∧ C = 1024 - k ∧ (L = 0 ∨ o = 516 + k)))
  case atStart => exact ⟨516, N, 1024, rfl, ⟨0, _, A0.out, by omega, by omega, rfl, Or.inr rfl⟩⟩
  case round =>
    clear A0
    obtain ⟨o, L, C, rfl, AR⟩ := hrel
    obtain ⟨k, c, rq, hkg, hL, hC, ho⟩ := AR.out
    have a0 := A.out
    by_cases hL0 : L = 0
    · have t1 : ((0 : Int) < (L : Int)) = False := eq_false (by omega)
      have AX : Aside (Cr W s v R w (.returned (.int .i64 0)) wr) := by
        have hl : (s.K.take s.ln).drop k = [] := List.drop_of_length_le (by rw [List.length_take]; have := rq.le; omega)
        have hr := rq.res
        rw [hl, trr_nil, a0.2.2] at hr
        rw [← hr]
        exact ⟨rfl, rq.wm, rq.bu, rq.er⟩
      subst hL0
      clear AR rq hkg hL hC ho a0 A
      go_wp2_with fail
      (try rw [Exit.noGoto_ret])
      first | go_ret | go_ret2
      exact AX.out
    · obtain rfl : o = 516 + k := by rcases ho with e | e; exact absurd e hL0; exact e
      have hk9 := rq.wm.ok
      have hkl : s.K.length = 1024 := hk9.kl
      have hko : Oct s.K := hk9.ko
      have hln : s.ln ≤ 1024 := hk9.ln
      obtain ⟨l, hl⟩ : ∃ l, (s.K.take s.ln).drop k = l := ⟨_, rfl⟩
      have hll : l.length = L := by rw [← hl, List.length_drop, List.length_take]; omega
      have hlo : Oct l := by rw [← hl]; exact (hko.take _).drop _
      have hlx : ∀ (i x : Nat), l[i]? = some x → s.K[k + i]? = some x := fun i x hx => by
        rw [← hl, List.getElem?_drop, List.getElem?_take] at hx
        split at hx
        · exact hx
        · cases hx
      have hcx : ∀ (u : World) (c' : Cm), Wm u W (tcs s c') v → ∀ (i x : Nat), l[i]? = some x → u.cell? ⟨W, 516 + k + i, none⟩ = some (.int .u8 (x : Int)) := fun u c' hu i x hx => by
        rw [Nat.add_assoc]; exact hu.kk (hlx i x hx)
      have hcut := cut_c W (516 + k) l L C wr hll hlo (by omega) (by omega) (hcx wr c rq.wm)
      have t1 : ((0 : Int) < (L : Int)) = True := eq_true (by omega)
      have t1n : (0 < L) = True := eq_true (by omega)
      have AQ : Aside (Rq W s v w wr k c ∧ k + gk = N + 1 ∧ L = N - k ∧ C = 1024 - k ∧ (s.K.take s.ln).drop k = l ∧ l.length = L ∧ Oct l ∧ L ≠ 0 ∧ N ≤ 1024 ∧ trr l c = R) := ⟨rq, hkg, hL, hC, hl, hll, hlo, hL0, by omega, by rw [← a0.2.2, ← rq.res, hl]⟩
      have ACX : Aside (∀ (u : World) (c' : Cm), Wm u W (tcs s c') v → ∀ (i x : Nat), l[i]? = some x → u.cell? ⟨W, 516 + k + i, none⟩ = some (.int .u8 (x : Int))) := hcx
      clear AR rq hkg hL hC ho a0 hk9 hkl hko hln hl hll hlo hlx hcx hL0
      go_upto_region 3 with (go_at_call 70; refine hcut.mono ?_; rintro e1 w1 ⟨hx, rfl⟩; rcases hx with ⟨hz, rfl⟩ | ⟨x, n, m, c1, f, hz, hm, hmc, hc1, rfl, hxl⟩)
      · have aq := AQ.out
        have t2 : (0 : Int) ≤ (L : Int) := by omega
        have t3 : ¬ (C : Int) = 0 := by omega
        have t4 : ¬ C = 0 := by omega
        have t5 : (L : Int) ≤ (C : Int) := by omega
        have AX : Aside (Cr W s v R w (.returned (.int .i64 49)) w1) := by
          have hl0 : l ≠ [] := fun e => by rw [e] at aq; simp at aq; omega
          have hr := aq.2.2.2.2.2.2.2.2.2
          rw [trr_none hl0 (trc_cut hz)] at hr
          rw [← hr]
          exact ⟨rfl, aq.1.wm, aq.1.bu, aq.1.er⟩
        clear aq hz AQ ACX hcut t1 t1n
        go_wp2_with fail
        obtain ⟨G, hG⟩ : ∃ G, G = gk := ⟨_, rfl⟩
        subst hG
        go_loopg [23] 1 (fun gg s23 wq => s23 = .int .i64 0 ∧ wq = w1)
        case atStart => exact ⟨rfl, rfl⟩
        case round =>
          obtain ⟨rfl, rfl⟩ := hrel
          go_wp2_with fail
          (try rw [Exit.noGoto_ret])
          first | go_ret | go_ret2
          exact AX.out
      · have aq := AQ.out
        have hn : 2 ≤ n ∧ n ≤ L := by
          have := tcut_len hz
          omega
        obtain ⟨o2, ho2, ho3⟩ : ∃ o2, (∀ W1 : World, (Instr.slice 22 (.slice (some ⟨W, 516 + k, none⟩) L C) (some (.int .i64 (n : Int))) none none).run Tryd.prog W1 = .ok (.slice (some ⟨W, o2, none⟩) (L - n) (C - n)) W1) ∧ (L - n = 0 ∨ o2 = 516 + (k + n)) := by
          by_cases hcn : C = n
          · obtain rfl : L = C := by omega
            subst hcn
            exact ⟨516 + k, fun W1 => by rw [Nat.sub_self]; exact slice_fC W (516 + k) L W1, Or.inl (by omega)⟩
          · exact ⟨516 + k + n, fun W1 => slice_f W (516 + k) L C n hn.2 (by omega) (fun e => hcn e.symm) W1, Or.inr (by omega)⟩
        have AZ : Aside (tcut l = some (x, n) ∧ x.length = m ∧ m < c1 ∧ c1 < 1000000 ∧ (∀ (i z : Nat), x[i]? = some z → l[f + i]? = some z) ∧ 2 ≤ n ∧ n ≤ L ∧ (L - n = 0 ∨ o2 = 516 + (k + n)) ∧ Oct x) := ⟨hz, hm, hmc, hc1, hxl, hn.1, hn.2, ho3, fun y hy => aq.2.2.2.2.2.2.1 y ((tcut_len hz).2.2 y hy)⟩
        obtain ⟨Ln, hLn⟩ : ∃ Ln, L - n = Ln := ⟨_, rfl⟩
        obtain ⟨Cn, hCn⟩ : ∃ Cn, C - n = Cn := ⟨_, rfl⟩
        rw [hLn, hCn] at ho2
        have ALC : Aside (L - n = Ln ∧ C - n = Cn) := ⟨hLn, hCn⟩
        clear aq hz hm hmc hc1 hxl hn ho3 hcut t1 t1n hLn hCn
        go_upto_region 4 with fail
        clear ho2
        go_wp2_with fail
        obtain ⟨G, hG⟩ : ∃ G, G = gk := ⟨_, rfl⟩
        subst hG
        go_loopg [23] m (fun gg s23 wq => ∃ i : Nat, s23 = .int .i64 (i : Int) ∧ wq = w1 ∧ Aside (i + gg = m ∧ ∀ j y, j < i → x[j]? = some y → y ≠ 61))
        case atStart => exact ⟨0, rfl, rfl, ⟨by omega, fun j y hj => by omega⟩⟩
        case round =>
          obtain ⟨i, rfl, rfl, AI⟩ := hrel
          have az := AZ.out
          have ai := AI.out
          by_cases him : i < m
          · obtain ⟨y, hy⟩ : ∃ y, x[i]? = some y := ⟨_, List.getElem?_eq_getElem (by omega)⟩
            have hcell : wr.cell? ⟨W, 516 + k + f + i, none⟩ = some (.int .u8 (y : Int)) := by
              have := ACX.out wr c AQ.out.1.wm (f + i) y (az.2.2.2.2.1 i y hy)
              rw [← Nat.add_assoc] at this
              exact this
            have t1 : ((i : Int) < (m : Int)) = True := eq_true (by omega)
            have t2 : (i < m) = True := eq_true him
            have t3 : (i : Int) < 1000000 := by omega
            by_cases h61 : y = 61
            · subst h61
              have aq := AQ.out
              have hte : teq x = some (x.take i, x.drop (i + 1)) := teq_at hy ai.2
              have htr : trc l = some (x.take i, x.drop (i + 1), n) := by rw [trc_of az.1, hte]
              obtain ⟨i1, hi1⟩ : ∃ i1, i + 1 = i1 := ⟨_, rfl⟩
              rw [hi1] at htr hte
              have hko : Oct (x.take i) := az.2.2.2.2.2.2.2.2.take i
              have hvo : Oct (x.drop i1) := az.2.2.2.2.2.2.2.2.drop i1
              obtain ⟨ks, hks⟩ : ∃ ks, st (x.take i) = ks := ⟨_, rfl⟩
              obtain ⟨vs, hvs⟩ : ∃ vs, st (x.drop i1) = vs := ⟨_, rfl⟩
              have hlk : (x.take i).length = i := by rw [List.length_take]; omega
              have hlv : (x.drop i1).length = m - i1 := by rw [List.length_drop, az.2.1]
              obtain ⟨nv, hnv⟩ : ∃ nv, m - i1 = nv := ⟨_, rfl⟩
              rw [hnv] at hlv
              have SH : ∀ (u : World) (c' : Cm), Wm u W (tcs s c') v → (∀ C', (convert 22 9 (.slice (some ⟨W, 516 + k + f, none⟩) i C')).run Tryd.prog u = .ok (.string ks) u) ∧ (∀ C', (convert 22 9 (.slice (some ⟨W, 516 + k + f + i1, none⟩) nv C')).run Tryd.prog u = .ok (.string vs) u) := fun u c' hu => by
                have hcx := ACX.out u c' hu
                rw [← hks, ← hvs]
                refine ⟨fun C' => conv_st i C' hlk hko (Or.inr ⟨W, 516 + k + f, rfl, fun j z hz => ?_⟩), fun C' => conv_st nv C' hlv hvo (Or.inr ⟨W, 516 + k + f + i1, rfl, fun j z hz => ?_⟩)⟩
                · rw [List.getElem?_take] at hz
                  split at hz
                  · have := hcx (f + j) z (az.2.2.2.2.1 j z hz)
                    rw [← Nat.add_assoc] at this
                    exact this
                  · cases hz
                · rw [List.getElem?_drop] at hz
                  have := hcx (f + (i1 + j)) z (az.2.2.2.2.1 _ z hz)
                  rw [← Nat.add_assoc, ← Nat.add_assoc] at this
                  exact this
              have hset := set_c (s := tcs s c) (x.take i) (x.drop i1) hko hvo (by rw [hlv]; omega) wr.drew aq.1.wm.drew aq.1.er.drew A.out.2.1
              rw [hks, hvs] at hset
              have hs1 := fun W1 => slice_t W (516 + k + f) m c1 i (by omega) (by omega) (by omega) W1
              have hs2 := fun W1 => slice_f W (516 + k + f) m c1 i1 (by omega) (by omega) (by omega) W1
              rw [hnv] at hs2
              obtain ⟨cv, hcv⟩ : ∃ cv, c1 - i1 = cv := ⟨_, rfl⟩
              rw [hcv] at hs2
              have hwr : IntKind.i64.wrap ((i : Int) + 1) = (i1 : Int) := by rw [IntKind.wrap_i64]; omega
              have hS0 := SH wr.drew c aq.1.wm.drew
              obtain ⟨r, hr⟩ : ∃ r, tset (x.take i) (x.drop i1) c = r := ⟨_, rfl⟩
              rw [show tset (x.take i) (x.drop i1) ((tcs s c).nm, (tcs s c).sz) = r from hr] at hset
              have AT : Aside (trr l c = if r.2 ≠ 0 then r else trr (l.drop n) r.1) := by
                show trr l c = _
                rw [trr_some htr, hr]
              have ASH : Aside (∀ (u : World) (c' : Cm), Wm u W (tcs s c') v → (∀ C', (convert 22 9 (.slice (some ⟨W, 516 + k + f, none⟩) i C')).run Tryd.prog u = .ok (.string ks) u) ∧ (∀ C', (convert 22 9 (.slice (some ⟨W, 516 + k + f + i1, none⟩) nv C')).run Tryd.prog u = .ok (.string vs) u)) := SH
              clear aq az ai htr hte hko hvo hks hvs hlk hlv hnv hcv SH hr hi1 hy him AI
              go_upto_region 8 with fail
              clear hcell t1 t2
              go_region_held3 (fun u => (∀ C', (convert 22 9 (.slice (some ⟨W, 516 + k + f, none⟩) i C')).run Tryd.prog u = .ok (.string ks) u) ∧ (∀ C', (convert 22 9 (.slice (some ⟨W, 516 + k + f + i1, none⟩) nv C')).run Tryd.prog u = .ok (.string vs) u)) (first | exact hS0 | exact ASH.out _ _ k2) ((go_at_call 71; refine hset.mono ?_; rintro e2 w2 ⟨rfl, k2, b2, r2⟩))
              have aq := AQ.out
              have bu2 : But W w w2 := (aq.1.bu.trans (But.of_below (Below.drewN2 (Below.refl _ wr) 1))).trans b2
              by_cases hr2 : r.2 = 0
              · have hr2i : ((r.2 : Nat) : Int) = 0 := by omega
                have AG : Aside (Rq W s v w w2 (k + n) r.1 ∧ n ≤ L ∧ 2 ≤ n ∧ Ln = N - (k + n) ∧ Cn = 1024 - (k + n) ∧ (Ln = 0 ∨ o2 = 516 + (k + n)) ∧ k + n ≤ N ∧ k + G = N + 1) := by
                  have az := AZ.out
                  have al := ALC.out
                  refine ⟨⟨by rw [tcs_tcs] at k2; exact k2, bu2, r2, by have := A.out.1; omega, ?_⟩, az.2.2.2.2.2.2.1, az.2.2.2.2.2.1, by omega, by omega, by rcases az.2.2.2.2.2.2.2.1 with e | e; exact Or.inl (by omega); exact Or.inr e, by omega, aq.2.1⟩
                  have ht := AT.out
                  rw [if_neg (by rw [hr2]; simp)] at ht
                  rw [← List.drop_drop, aq.2.2.2.2.1, ← ht, aq.2.2.2.2.2.2.2.2.2, A.out.2.2]
                obtain ⟨rc, rw0⟩ := r
                simp only at hr2 hr2i AG
                subst hr2
                clear aq bu2 k2 b2 r2 hset hs1 hs2 hwr hS0 ASH AT AZ ALC AQ ACX hr2i
                go_wp2_with fail
                have ag := AG.out
                go_roundg (G - n)
                case measure => omega
                case rel => exact ⟨o2, Ln, Cn, rfl, ⟨k + n, rc, ag.1, by omega, ag.2.2.2.1, ag.2.2.2.2.1, ag.2.2.2.2.2.1⟩⟩
              · have t6 : (((r.2 : Nat) : Int) != 0) = true := by rw [bne_iff_ne]; omega
                have t7 : (((r.2 : Nat) : Int) == 0) = false := by rw [beq_eq_false_iff_ne]; omega
                have AX : Aside (Cr W s v R w (.returned (.int .i64 (r.2 : Int))) w2) := by
                  have ht := AT.out
                  rw [if_pos hr2, aq.2.2.2.2.2.2.2.2.2] at ht
                  rw [ht]
                  exact ⟨rfl, by rw [tcs_tcs] at k2; exact k2, bu2, r2⟩
                generalize ((r.2 : Nat) : Int) = rr at *
                clear aq bu2 k2 b2 r2 hset hs1 hs2 hwr hS0 ASH AT AZ ALC AQ ACX hr2
                go_wp2_with fail
                (try rw [Exit.noGoto_ret])
                first | go_ret | go_ret2
                exact AX.out
            · have t4 : ((y : Int) != 61) = true := by rw [bne_iff_ne]; omega
              have t5 : ((y : Int) == 61) = false := by rw [beq_eq_false_iff_ne]; omega
              have AG : Aside (i < m ∧ i + gk = m ∧ ∀ j z, j < i + 1 → x[j]? = some z → z ≠ 61) := ⟨him, ai.1, fun j z hj hz => by
                by_cases e : j = i
                · subst e; rw [hy] at hz; cases hz; exact h61
                · exact ai.2 j z (by omega) hz⟩
              clear az ai him hy h61 AI
              go_wp2_with fail
              have ag := AG.out
              go_roundg (gk - 1)
              case measure => omega
              case rel => exact ⟨i + 1, by go_num, rfl, ⟨by omega, ag.2.2⟩⟩
          · have t1 : ((i : Int) < (m : Int)) = False := eq_false (by omega)
            have t2 : (i < m) = False := eq_false him
            have AX : Aside (Cr W s v R w (.returned (.int .i64 49)) wr) := by
              have aq := AQ.out
              have hl0 : l ≠ [] := fun e => by rw [e] at aq; simp at aq; omega
              have hno : 61 ∉ x := fun hm => by
                obtain ⟨j, hj⟩ := List.getElem?_of_mem hm
                have := (List.getElem?_eq_some_iff.1 hj).1
                exact ai.2 j 61 (by omega) hj rfl
              have hr := aq.2.2.2.2.2.2.2.2.2
              have htr : trc l = none := by rw [trc_of az.1, teq_none hno]
              rw [trr_none hl0 htr] at hr
              rw [← hr]
              exact ⟨rfl, aq.1.wm, aq.1.bu, aq.1.er⟩
            clear az ai him AI AZ AQ ACX
            go_wp2_with fail
            (try rw [Exit.noGoto_ret])
            first | go_ret | go_ret2
            exact AX.out
end
end Go.Proofs.YtcmmjbkgoafbnaaDoor

/-
  A field's text: what bytes.Cut and text come to.
-/
namespace Go.Proofs.YtcmmjbkgoafbnaaDoor
open Go.RowKit
set_option linter.unusedVariables false
/-- Where the first nought stands. -/
def idx (l : List Nat) : Int := if 0 ∈ l then ((ttx l).length : Int) else -1
theorem ix_cons (x : Nat) (l : List Nat) : idx (x :: l) = if x = 0 then 0 else if idx l = -1 then -1 else idx l + 1 := by
  unfold idx ttx
  by_cases h : x = 0
  · subst h; simp
  · rw [if_neg h]
    have h2 : (x != 0) = true := by simpa using h
    have h3 : (0 ∈ x :: l) ↔ 0 ∈ l := by simp [Ne.symm h]
    simp only [List.takeWhile_cons, h2, if_true, List.length_cons, h3]
    by_cases h4 : 0 ∈ l
    · rw [if_pos h4, if_pos h4, if_neg (by omega)]; omega
    · rw [if_neg h4, if_neg h4, if_pos rfl]
theorem ix_lib : ∀ (l : List Nat), Oct l → Lib.indexByte (Lib.bytesOf (l.map fun x : Nat => (x : Int))) (0 : Int).toNat.toUInt8 = idx l
  | [], _ => rfl
  | x :: l, h => by
    have ih := ix_lib l fun y hy => h y (List.mem_cons_of_mem _ hy)
    have hx := h x (by simp)
    rw [ix_cons]
    simp only [List.map_cons, Lib.bytesOf, List.map_cons, Lib.indexByte] at ih ⊢
    rw [ih]
    have e : ((UInt8.ofNat ((x : Int)).toNat == (0 : Int).toNat.toUInt8) = true) ↔ x = 0 := by
      have : ∀ y : Fin 256, ((UInt8.ofNat ((y.val : Int)).toNat == (0 : Int).toNat.toUInt8) = true) ↔ y.val = 0 := by decide +kernel
      exact this ⟨x, hx⟩
    by_cases h0 : x = 0
    · rw [if_pos (e.2 h0), if_pos h0]
    · rw [if_neg (fun q => h0 (e.1 q)), if_neg h0]
      simp
theorem idx_facts (l : List Nat) : (idx l = -1 ∧ ttx l = l) ∨ (∃ n : Nat, idx l = (n : Int) ∧ n < l.length ∧ ttx l = l.take n) := by
  unfold idx
  by_cases h : 0 ∈ l
  · right
    rw [if_pos h]
    refine ⟨(ttx l).length, rfl, ?_, ?_⟩
    · have h1 := ttx_len l
      rcases Nat.lt_or_eq_of_le h1 with q | q
      · exact q
      · exfalso
        have e : ttx l = l := (List.takeWhile_sublist _).eq_of_length q
        have := h
        rw [← e] at this
        have h2 := List.all_takeWhile (p := fun x : Nat => x != 0) (l := l)
        rw [List.all_eq_true] at h2
        have := h2 0 this
        simp at this
    · obtain ⟨t, ht⟩ := List.takeWhile_prefix (p := fun x : Nat => x != 0) (l := l)
      have e : l = ttx l ++ t := ht.symm
      have : (ttx l ++ t).take (ttx l).length = ttx l := List.take_left' rfl
      rw [← e] at this
      exact this.symm
  · left
    rw [if_neg h]
    refine ⟨rfl, ?_⟩
    have tw : ∀ m : List Nat, 0 ∉ m → ttx m = m := by
      intro m
      induction m with
      | nil => intro _; rfl
      | cons x r ih =>
        intro hm
        have h1 : x ≠ 0 := fun e => hm (by rw [e]; simp)
        have h2 : 0 ∉ r := fun e => hm (List.mem_cons_of_mem _ e)
        have := ih h2
        unfold ttx at this ⊢
        rw [List.takeWhile_cons, if_pos (by simpa using h1), this]
    exact tw l h
section
variable {b o : Nat} {l : List Nat} {L C : Nat}
theorem index80 (w : World) (hL : l.length = L) (ho : Oct l) (hc : ∀ (i x : Nat), l[i]? = some x → w.cell? ⟨b, o + i, none⟩ = some (.int .u8 (x : Int))) :
    (callFunc 80 #[.slice (some ⟨b, o, none⟩) L C, .int .u8 0]).run Tryd.prog w = .ok (.value (.int .i64 (idx l))) w := by
  rw [run_callFunc_extern Tryd.func80 (by kernel_rfl) (by kernel_rfl) (by kernel_rfl) (e := Extern.BytealgIndexByte.indexByte) (by kernel_rfl), Lib.run_indexByteSlice w b o L C (l.map fun x : Nat => (x : Int)) (by simp [hL]) (fun i hi => by
    have hi2 : i < l.length := by omega
    rw [hc i l[i] (List.getElem?_eq_getElem hi2)]
    simp [List.getD_eq_getElem?_getD, hi2]), ix_lib l ho]
  rfl
theorem index74 (w : World) (hL : l.length = L) (ho : Oct l) (hc : ∀ (i x : Nat), l[i]? = some x → w.cell? ⟨b, o + i, none⟩ = some (.int .u8 (x : Int))) : Calls Tryd.prog 74 #[.slice (some ⟨b, o, none⟩) L C, .int .u8 0] w fun e w' => e = .returned (.int .i64 (idx l)) ∧ w' = w := by
  have h := index80 (C := C) w hL ho hc
  generalize idx l = i at *
  clear hL ho hc
  go_enter Tryd.func74, Tryd.ntmps74
  go_wp2
  go_ret
  exact ⟨rfl, rfl⟩
set_option maxRecDepth 20000 in
theorem index72 (g c1 : Nat) (w : World) (hL : l.length = L) (ho : Oct l) (hc : ∀ (i x : Nat), l[i]? = some x → w.cell? ⟨b, o + i, none⟩ = some (.int .u8 (x : Int))) (hg : w.cell? ⟨g, 0, none⟩ = some (.int .u8 0)) : Calls Tryd.prog 72 #[.slice (some ⟨b, o, none⟩) L C, .slice (some ⟨g, 0, none⟩) 1 c1] w fun e w' => e = .returned (.int .i64 (idx l)) ∧ w' = w := by
  have h := index74 (C := C) w hL ho hc
  generalize idx l = i at *
  clear hL ho hc
  go_enter Tryd.func72, Tryd.ntmps72
  go_wp2_with (go_at_call 74; refine h.mono ?_; rintro e1 w1 ⟨rfl, rfl⟩)
  first | go_ret | go_ret2
  exact ⟨rfl, rfl⟩
set_option maxRecDepth 20000 in
theorem cut69 (g c1 : Nat) (w : World) (hL : l.length = L) (ho : Oct l) (hLC : L ≤ C) (hC : C < 1000000000000) (hc : ∀ (i x : Nat), l[i]? = some x → w.cell? ⟨b, o + i, none⟩ = some (.int .u8 (x : Int))) (hg : w.cell? ⟨g, 0, none⟩ = some (.int .u8 0)) : Calls Tryd.prog 69 #[.slice (some ⟨b, o, none⟩) L C, .slice (some ⟨g, 0, none⟩) 1 c1] w fun e w' => ∃ x y n c, e = .returned (.tuple #[.slice (some ⟨b, o, none⟩) n c, x, y]) ∧ n = (ttx l).length ∧ Below w.heap.size w w' := by
  have h := index72 (C := C) g c1 w hL ho hc hg
  rcases idx_facts l with ⟨h1, h2⟩ | ⟨n, h1, h2, h3⟩
  · rw [h1] at h
    have A : Aside (L = (ttx l).length) := by show L = _; rw [h2, hL]
    clear hL ho hc hg h1 h2 hLC hC
    go_enter Tryd.func69, Tryd.ntmps69
    go_wp2_with (go_at_call 72; refine h.mono ?_; rintro e1 w1 ⟨rfl, rfl⟩)
    go_ret3
    exact ⟨_, _, _, _, rfl, A.out, Below.refl _ _⟩
  · rw [h1] at h
    have A : Aside (n = (ttx l).length) := by show n = _; rw [h3, List.length_take]; omega
    have hn : n + 1 ≤ L := by omega
    by_cases hC2 : C = n + 1
    · subst hC2
      have q1 : ((n : Int) + 1) ≤ (L : Int) := by omega
      have q2 : (L : Int) ≤ (n : Int) + 1 := by omega
      have q3 : (n : Int) < 1000000000000 := by omega
      have q4 : (0 : Int) ≤ (n : Int) := by omega
      have e5 : L = n + 1 := by omega
      subst e5
      clear hL ho hc hg h1 h2 h3 hLC hC hn
      go_enter Tryd.func69, Tryd.ntmps69
      go_upto_region 3 with (go_at_call 72; refine h.mono ?_; rintro e1 w1 ⟨rfl, rfl⟩)
      go_region
      all_goals go_wp2_with fail
      all_goals go_ret3
      all_goals exact ⟨_, _, _, _, rfl, A.out, Below.drewN2 (Below.refl _ _) _⟩
    · have q1 : ((n : Int) + 1) ≤ (L : Int) := by omega
      have q2 : (L : Int) ≤ (C : Int) := by omega
      have q3 : (C : Int) < 1000000000000 := by omega
      have q4 : (0 : Int) ≤ (n : Int) := by omega
      have q5 : ¬ ((C : Int) = (n : Int) + 1) := by omega
      clear hL ho hc hg h1 h2 h3 hLC hC hn
      go_enter Tryd.func69, Tryd.ntmps69
      go_upto_region 3 with (go_at_call 72; refine h.mono ?_; rintro e1 w1 ⟨rfl, rfl⟩)
      go_region
      all_goals go_wp2_with fail
      all_goals go_ret3
      all_goals exact ⟨_, _, _, _, rfl, A.out, Below.drewN2 (Below.refl _ _) _⟩
theorem ttx_take (l : List Nat) : ttx l = l.take (ttx l).length := by
  rcases idx_facts l with ⟨_, h⟩ | ⟨n, _, h2, h⟩
  · rw [h, List.take_length]
  · rw [h, List.length_take, Nat.min_eq_left (by omega)]
theorem lies_ttx {w : World} (hc : ∀ (i x : Nat), l[i]? = some x → w.cell? ⟨b, o + i, none⟩ = some (.int .u8 (x : Int))) : Lies w (some ⟨b, o, none⟩) (ttx l) := Or.inr ⟨b, o, rfl, fun i x hx => by
  rw [ttx_take] at hx
  rw [List.getElem?_take] at hx
  split at hx
  · exact hc i x hx
  · cases hx⟩
set_option maxRecDepth 20000 in
theorem text_c (w : World) (hL : l.length = L) (ho : Oct l) (hLC : L ≤ C) (hC : C < 1000000000000) (hb : b < w.heap.size) (hc : ∀ (i x : Nat), l[i]? = some x → w.cell? ⟨b, o + i, none⟩ = some (.int .u8 (x : Int))) : Calls Tryd.prog 61 #[.slice (some ⟨b, o, none⟩) L C] w fun e w' => e = .returned (.string (st (ttx l))) ∧ Below w.heap.size w w' := by
  have A : Aside (l.length = L ∧ Oct l ∧ L ≤ C ∧ C < 1000000000000 ∧ b < w.heap.size ∧ ∀ (i x : Nat), l[i]? = some x → w.cell? ⟨b, o + i, none⟩ = some (.int .u8 (x : Int))) := ⟨hL, ho, hLC, hC, hb, hc⟩
  obtain ⟨g, hg⟩ : ∃ g, w.heap.size = g := ⟨_, rfl⟩
  obtain ⟨w1, hw1⟩ : ∃ w1, w.alloc (.cells #[.int .u8 0] 5) = w1 := ⟨_, rfl⟩
  have b1 : Below w.heap.size w w1 := by rw [← hw1]; exact (Below.refl _ w).alloc (Nat.le_refl _) _
  have k1 : Cells w1 g #[.int .u8 0] 5 := by rw [← hw1, ← hg]; exact Cells.new w _ 5
  have hc1 : ∀ (i x : Nat), l[i]? = some x → w1.cell? ⟨b, o + i, none⟩ = some (.int .u8 (x : Int)) := fun i x hx => by
    rw [World.cell?_of_block (w := w) (b1.block b hb)]; exact hc i x hx
  have h := cut69 (C := C) g 1 w1 hL ho hLC hC hc1 (k1.cell 0)
  have A2 : Aside (w.alloc (.cells #[.int .u8 0] 5) = w1 ∧ w.heap.size = g ∧ Below w.heap.size w w1) := ⟨hw1, hg, b1⟩
  clear hL ho hLC hC hb hc hc1 k1 b1 hw1 hg
  go_enter Tryd.func61, Tryd.ntmps61
  go_upto_region 2 with (go_at_call 69; rw [A2.out.1, A2.out.2.1]; refine h.mono ?_; rintro e1 w2 ⟨x, y, n, c, rfl, hn, b2⟩)
  have a1 := A.out
  have bb : Below w.heap.size w w2 := A2.out.2.2.trans (b2.mono A2.out.2.2.size)
  have hcv : (convert 22 9 (.slice (some ⟨b, o, none⟩) (ttx l).length c)).run Tryd.prog w2 = .ok (.string (st (ttx l))) w2 := conv_st (ttx l).length c rfl (oct_ttx a1.2.1) (lies_ttx (fun i x hx => by rw [World.cell?_of_block (w := w) (bb.block b a1.2.2.2.2.1)]; exact a1.2.2.2.2.2 i x hx))
  have AB : Aside (Below w.heap.size w w2) := bb
  clear a1 bb hn b2 h A
  go_wp2_with fail
  first | go_ret | go_ret2
  exact ⟨rfl, AB.out⟩
end
end Go.Proofs.YtcmmjbkgoafbnaaDoor

/-
  The walker's steps: endData, begin, keep.
-/
namespace Go.Proofs.YtcmmjbkgoafbnaaDoor
open Go.RowKit
set_option linter.unusedVariables false
set_option linter.unusedSimpArgs false
/-- What a step of the walker comes to. -/
structure Wp (W : Nat) (s' : Ts) (v' : Rv) (w : World) (e : Ending) (w' : World) : Prop where
  re : e = .returned (.tuple #[])
  wm : Wm w' W s' v'
  bu : But W w w'
  er : Er w'
/-- Something closes, where it was a file. -/
def vcl (us : Nat) (v : Rv) : Rv := if us = 1 then { v with cl := true } else v
theorem tend_no {s : Ts} (h0 : s.why = 0) (h2 : s.us ≠ 2) (h3 : s.us ≠ 3) : tend s = s := by
  unfold tend tfin
  rw [if_neg h2, if_neg h3, ← h0]
theorem tend_two {s : Ts} (h2 : s.us = 2) : tend s = { tcs s (tnam (ttx (s.K.take s.ln)) (s.nm, s.sz)).1 with why := (tnam (ttx (s.K.take s.ln)) (s.nm, s.sz)).2 } := by
  unfold tend tfin
  rw [if_pos h2]; rfl
theorem tend_three {s : Ts} (h2 : s.us = 3) : tend s = { tcs s (trr (s.K.take s.ln) (s.nm, s.sz)).1 with why := (trr (s.K.take s.ln) (s.nm, s.sz)).2 } := by
  unfold tend tfin
  rw [if_neg (by omega), if_pos h2]; rfl
section
variable {W : Nat} {s : Ts} {v : Rv}
set_option maxRecDepth 20000 in
set_option maxHeartbeats 1000000 in
theorem endData_c (w : World) (h : Wm w W s v) (h0 : s.why = 0) (he : Er w) (hW : 3 ≤ W) : Calls Tryd.prog 47 #[.pointer (some ⟨W, 0, none⟩)] w fun e w' => Wp W (tend s) (vcl s.us v) w e w' := by
  have c1 := h.k514
  have hus := h.ok.us
  have A : Aside (Wm w W s v ∧ s.why = 0 ∧ Er w ∧ 3 ≤ W) := ⟨h, h0, he, hW⟩
  by_cases h1 : s.us = 1
  · have AT : Aside (tend s = s ∧ vcl s.us v = { v with cl := true }) := ⟨tend_no h0 (by omega) (by omega), by unfold vcl; rw [if_pos h1]⟩
    rw [h1] at c1
    have c2 := h.k1550
    have f2 := h.fz 1550
    clear h h0 he hW hus h1
    go_enter Tryd.func47, Tryd.ntmps47
    go_wp2_with fail
    first | go_end0 | (refine bodyPost_ret (results_none rfl _ _ _) rfl ?_)
    have a0 := A.out
    have o : Only W w (w.setCell ⟨W, 1550, none⟩ (.bool true)) := (Only.refl W w).setCell 1550 _
    rw [AT.out.1, AT.out.2]
    exact ⟨rfl, a0.1.s1550 true, But.of_only o, a0.2.2.1.but (But.of_only o) a0.2.2.2⟩
  · have hv : vcl s.us v = v := by unfold vcl; rw [if_neg h1]
    by_cases h2 : s.us = 2
    · have hk := h.ok
      have htl : (s.K.take s.ln).length = s.ln := by rw [List.length_take]; have := hk.kl; have := hk.ln; omega
      have htx := text_c (b := W) (o := 516) (C := 1024) w.drew htl (hk.ko.take _) hk.ln (by decide) h.lt (fun i x hx => by
        rw [List.getElem?_take] at hx
        split at hx
        · exact h.drew.kk hx
        · cases hx)
      obtain ⟨r, hr⟩ : ∃ r, tnam (ttx (s.K.take s.ln)) (s.nm, s.sz) = r := ⟨_, rfl⟩
      have hsn : ∀ u, Below w.drew.heap.size w.drew u → Calls Tryd.prog 60 #[.pointer (some ⟨W, 1541, none⟩), .string (st (ttx (s.K.take s.ln)))] u fun e w' => Cr W s v r u e w' := fun u bu => by
        have := setName_c (s := s) (v := v) (ttx (s.K.take s.ln)) (oct_ttx (hk.ko.take _)) (by have := ttx_len (s.K.take s.ln); have := hk.ln; omega) u (h.drew.below bu h.lt) (he.drew.below bu he.1) hW
        rw [hr] at this
        exact this
      have hd0 := h.drew.k1540
      have hd1 : ∀ u, Below w.drew.heap.size w.drew u → u.cell? ⟨W, 1540, none⟩ = some (.int .i64 (s.ln : Int)) := fun u bu => (h.drew.below bu h.lt).k1540
      have t1 : (s.ln : Int) ≤ 1024 := by have := hk.ln; omega
      have AT : Aside (tend s = { tcs s r.1 with why := r.2 } ∧ vcl s.us v = v) := ⟨by rw [tend_two h2, hr], hv⟩
      rw [h2] at c1
      clear h h0 he hW hus h1 h2 hk htl hr hv
      go_enter Tryd.func47, Tryd.ntmps47
      go_upto_region 4 with fail
      go_region_held3 (fun u => u.cell? ⟨W, 1540, none⟩ = some (.int .i64 (s.ln : Int))) (first | exact hd0 | exact hd1 _ b1 | exact k2.k1540 | exact (k2.s1552 _).k1540) (first | (go_at_call 61; refine htx.mono ?_; rintro e1 w1 ⟨rfl, b1⟩; have hsn1 := hsn w1 b1) | (go_at_call 60; refine hsn1.mono ?_; rintro e2 w2 ⟨rfl, k2, b2, r2⟩; have c2 := k2.k1552; have f2 := k2.fz 1552))
      go_wp2_with fail
      first | go_end0 | (refine bodyPost_ret (results_none rfl _ _ _) rfl ?_)
      have a0 := A.out
      rw [AT.out.1, AT.out.2]
      have o : Only W w2 (w2.setCell ⟨W, 1552, none⟩ (.int .i64 (r.2 : Int))) := (Only.refl W w2).setCell 1552 _
      have bb : But W w (w2.setCell ⟨W, 1552, none⟩ (.int .i64 (r.2 : Int))) := (((But.of_below (Below.drewN2 (Below.refl _ w) 1)).trans (But.of_below b1)).trans b2).trans (But.of_only o)
      exact ⟨rfl, k2.s1552 r.2, bb, a0.2.2.1.but bb a0.2.2.2⟩
    · by_cases h3 : s.us = 3
      · have hk := h.ok
        obtain ⟨r, hr⟩ : ∃ r, trr (s.K.take s.ln) (s.nm, s.sz) = r := ⟨_, rfl⟩
        have hrd := read_c w.drew h.drew he.drew hW
        rw [hr] at hrd
        have hd0 := h.drew.k1540
        have t1 : (s.ln : Int) ≤ 1024 := by have := hk.ln; omega
        have AT : Aside (tend s = { tcs s r.1 with why := r.2 } ∧ vcl s.us v = v) := ⟨by rw [tend_three h3, hr], hv⟩
        rw [h3] at c1
        clear h h0 he hW hus h1 h2 hk hr hv h3
        go_enter Tryd.func47, Tryd.ntmps47
        go_upto_region 6 with fail
        go_region_held3 (fun u => u.cell? ⟨W, 1540, none⟩ = some (.int .i64 (s.ln : Int))) (first | exact hd0 | exact k2.k1540 | exact (k2.s1552 _).k1540) ((go_at_call 62; refine hrd.mono ?_; rintro e2 w2 ⟨rfl, k2, b2, r2⟩; have c2 := k2.k1552; have f2 := k2.fz 1552))
        go_wp2_with fail
        first | go_end0 | (refine bodyPost_ret (results_none rfl _ _ _) rfl ?_)
        have a0 := A.out
        rw [AT.out.1, AT.out.2]
        have o : Only W w2 (w2.setCell ⟨W, 1552, none⟩ (.int .i64 (r.2 : Int))) := (Only.refl W w2).setCell 1552 _
        have bb : But W w (w2.setCell ⟨W, 1552, none⟩ (.int .i64 (r.2 : Int))) := ((But.of_below (Below.drewN2 (Below.refl _ w) 1)).trans b2).trans (But.of_only o)
        exact ⟨rfl, k2.s1552 r.2, bb, a0.2.2.1.but bb a0.2.2.2⟩
      · have h4 : s.us = 0 := by omega
        have AT : Aside (tend s = s ∧ vcl s.us v = v) := ⟨tend_no h0 h2 h3, hv⟩
        rw [h4] at c1
        clear h h0 he hW hus h1 h2 h3 h4 hv
        go_enter Tryd.func47, Tryd.ntmps47
        go_wp2_with fail
        first | go_end0 | (refine bodyPost_ret (results_none rfl _ _ _) rfl ?_)
        have a0 := A.out
        rw [AT.out.1, AT.out.2]
        exact ⟨rfl, a0.1, But.refl _ _, a0.2.2.1⟩
end
end Go.Proofs.YtcmmjbkgoafbnaaDoor

/-
  The walker's steps: begin, keep; a block's kind and name.
-/
namespace Go.Proofs.YtcmmjbkgoafbnaaDoor
open Go.RowKit
set_option linter.unusedVariables false
set_option linter.unusedSimpArgs false
section
variable {W : Nat} {s : Ts} {v : Rv}
theorem Wp.from {w w1 : World} {e : Ending} {w' : World} {s' : Ts} {v' : Rv} (h : Wp W s' v' w1 e w') (k : But W w w1) : Wp W s' v' w e w' := ⟨h.re, h.wm, k.trans h.bu, h.er⟩
/-- What begin makes of the events. -/
def vbeg (us z : Nat) (v : Rv) : Rv := if z = 0 then vcl us v else v
set_option maxRecDepth 20000 in
theorem begin_c (us z : Nat) (w : World) (h : Wm w W s v) (h0 : s.why = 0) (he : Er w) (hW : 3 ≤ W) (hu : us ≤ 3) (hz : z < 9223372036854775808) : Calls Tryd.prog 45 #[.pointer (some ⟨W, 0, none⟩), .int .i64 (us : Int), .int .u64 (z : Int)] w fun e w' => Wp W (tbeg us z s).1 (vbeg us z v) w e w' := by
  have c1 := h.k514
  have c2 := h.k515
  have f1 := h.fz 514
  have f2 := h.fz 515
  have k := h.ok
  have k1 := h.sul us z ⟨k.bl, k.bo, k.kl, k.ko, k.ps, k.wh, hu, hz, k.ln, k.cm⟩
  have o1 : Only W w ((w.setCell ⟨W, 514, none⟩ (.int .i64 (us : Int))).setCell ⟨W, 515, none⟩ (.int .u64 (z : Int))) := ((Only.refl W w).setCell 514 _).setCell 515 _
  have b1 := But.of_only o1
  have r1 := he.but b1 hW
  obtain ⟨w1, hw1⟩ : ∃ w1, (w.setCell ⟨W, 514, none⟩ (.int .i64 (us : Int))).setCell ⟨W, 515, none⟩ (.int .u64 (z : Int)) = w1 := ⟨_, rfl⟩
  rw [hw1] at k1 b1 r1
  by_cases hz0 : z = 0
  · subst hz0
    have hen := endData_c w1 k1 h0 r1 hW
    have AT : Aside ((tbeg us 0 s).1 = tend { s with us := us, lf := 0 } ∧ vbeg us 0 v = vcl us v ∧ But W w w1) := ⟨by unfold tbeg; rfl, by unfold vbeg; rfl, b1⟩
    have AW : Aside ((w.setCell ⟨W, 514, none⟩ (.int .i64 (us : Int))).setCell ⟨W, 515, none⟩ (.int .u64 ((0 : Nat) : Int)) = w1) := hw1
    clear h h0 he hW hu hz k k1 o1 b1 r1 hw1
    go_enter Tryd.func45, Tryd.ntmps45
    go_upto_region 1 with fail
    have hw1 : (w.setCell ⟨W, 514, none⟩ (.int .i64 (us : Int))).setCell ⟨W, 515, none⟩ (.int .u64 0) = w1 := AW.out
    rw [hw1]
    clear hw1 AW c1 c2 f1 f2
    go_wp2_with (go_at_call 47; refine hen.mono ?_; rintro e2 w2 k2; obtain ⟨rfl, k2, b2, r2⟩ := k2)
    first | go_end0 | (refine bodyPost_ret (results_none rfl _ _ _) rfl ?_)
    rw [AT.out.1, AT.out.2.1]
    exact ⟨rfl, k2, AT.out.2.2.trans b2, r2⟩
  · have t1 : ((z : Int) == 0) = false := by rw [beq_eq_false_iff_ne]; omega
    have c3 := k1.k0
    have f3 := k1.fz 0
    have AT : Aside ((tbeg us z s).1 = { s with us := us, lf := z, wh := 1 } ∧ vbeg us z v = v ∧ But W w w1 ∧ Wm w1 W { s with us := us, lf := z } v ∧ Er w1 ∧ 3 ≤ W) := ⟨by unfold tbeg; rw [if_neg hz0], by unfold vbeg; rw [if_neg hz0], b1, k1, r1, hW⟩
    have AW : Aside ((w.setCell ⟨W, 514, none⟩ (.int .i64 (us : Int))).setCell ⟨W, 515, none⟩ (.int .u64 (z : Int)) = w1) := hw1
    clear h h0 he hW hu hz k k1 o1 b1 r1 hw1 hz0
    go_enter Tryd.func45, Tryd.ntmps45
    go_upto_region 1 with fail
    rw [AW.out]
    clear AW c1 c2 f1 f2
    go_wp2_with fail
    first | go_end0 | (refine bodyPost_ret (results_none rfl _ _ _) rfl ?_)
    have at0 := AT.out
    rw [at0.1, at0.2.1]
    have kk := at0.2.2.2.1.ok
    have o : Only W w1 (w1.setCell ⟨W, 0, none⟩ (.int .i64 1)) := (Only.refl W w1).setCell 0 _
    exact ⟨rfl, at0.2.2.2.1.s0 1 ⟨kk.bl, kk.bo, kk.kl, kk.ko, kk.ps, by show (1 : Nat) ≤ 3; decide, kk.us, kk.lf, kk.ln, kk.cm⟩, at0.2.2.1.trans (But.of_only o), at0.2.2.2.2.1.but (But.of_only o) at0.2.2.2.2.2⟩
set_option maxRecDepth 20000 in
theorem keep_c (us z m : Nat) (w : World) (h : Wm w W s v) (h0 : s.why = 0) (he : Er w) (hW : 3 ≤ W) (hu : us ≤ 3) (hz : z < 9223372036854775808) (hm : m < 10000) : Calls Tryd.prog 44 #[.pointer (some ⟨W, 0, none⟩), .int .i64 (us : Int), .int .u64 (z : Int), .int .u64 (m : Int)] w fun e w' => Wp W (if m < z then { s with why := 46 } else (tbeg us z { s with ln := 0 }).1) (if m < z then v else vbeg us z v) w e w' := by
  have k := h.ok
  by_cases hmz : m < z
  · have t1 : ((m : Int) < (z : Int)) = True := eq_true (by omega)
    have c1 := h.k1552
    have f1 := h.fz 1552
    rw [if_pos hmz, if_pos hmz]
    have A : Aside (Wm w W s v ∧ Er w ∧ 3 ≤ W) := ⟨h, he, hW⟩
    clear h h0 he hW hu hz k hmz hm
    go_enter Tryd.func44, Tryd.ntmps44
    go_wp2_with fail
    first | go_end0 | (refine bodyPost_ret (results_none rfl _ _ _) rfl ?_)
    have a0 := A.out
    have o : Only W w (w.setCell ⟨W, 1552, none⟩ (.int .i64 46)) := (Only.refl W w).setCell 1552 _
    exact ⟨rfl, a0.1.s1552 46, But.of_only o, a0.2.1.but (But.of_only o) a0.2.2⟩
  · have t1 : ((m : Int) < (z : Int)) = False := eq_false (by omega)
    have c1 := h.k1540
    have f1 := h.fz 1540
    rw [if_neg hmz, if_neg hmz]
    have k1 := h.s1540 0 ⟨k.bl, k.bo, k.kl, k.ko, k.ps, k.wh, k.us, k.lf, Nat.zero_le _, k.cm⟩
    have o1 : Only W w (w.setCell ⟨W, 1540, none⟩ (.int .i64 ((0 : Nat) : Int))) := (Only.refl W w).setCell 1540 _
    have b1 := But.of_only o1
    have r1 := he.but b1 hW
    have hbe := begin_c us z _ k1 h0 r1 hW hu hz
    have hbe2 : Calls Tryd.prog 45 #[.pointer (some ⟨W, 0, none⟩), .int .i64 (us : Int), .int .u64 (z : Int)] (w.setCell ⟨W, 1540, none⟩ (.int .i64 0)) fun e w' => Wp W (tbeg us z { s with ln := 0 }).1 (vbeg us z v) w e w' := hbe.mono fun e w' q => q.from b1
    clear h h0 he hW hu hz k hmz hm k1 o1 b1 r1 hbe
    go_enter Tryd.func44, Tryd.ntmps44
    go_wp2_with (go_at_call 45; refine hbe2.mono ?_; rintro e2 w2 k2; have re2 := k2.re; subst re2)
    first | go_end0 | (refine bodyPost_ret (results_none rfl _ _ _) rfl ?_)
    exact k2
theorem isFile_c (w : World) (h : Wm w W s v) : Calls Tryd.prog 58 #[.pointer (some ⟨W, 2, none⟩)] w fun e w' => e = .returned (.bool (tisf (tkd s.B))) ∧ w' = w := by
  have hk := h.ok
  obtain ⟨x, hx⟩ : ∃ x, s.B[156]? = some x := ⟨_, List.getElem?_eq_getElem (by have := hk.bl; omega)⟩
  have c1 := h.kb hx
  have e : tkd s.B = x := by unfold tkd; rw [List.getD_eq_getElem?_getD, hx]; rfl
  rw [e]
  have t1 : (x == 48) = ((x : Int) == 48) := by have := beq_int x 48; rw [show ((48 : Nat) : Int) = 48 from rfl] at this; rw [this]; by_cases q : x = 48 <;> simp [q]
  have t2 : (x == 0) = ((x : Int) == 0) := by have := beq_int x 0; rw [show ((0 : Nat) : Int) = 0 from rfl] at this; rw [this]; by_cases q : x = 0 <;> simp [q]
  have t3 : (x == 55) = ((x : Int) == 55) := by have := beq_int x 55; rw [show ((55 : Nat) : Int) = 55 from rfl] at this; rw [this]; by_cases q : x = 55 <;> simp [q]
  unfold tisf
  rw [t1, t2, t3]
  generalize hb1 : ((x : Int) == 48) = b1
  generalize hb2 : ((x : Int) == 0) = b2
  generalize hb3 : ((x : Int) == 55) = b3
  clear h hk e hx t1 t2 t3
  cases b1 <;> cases b2 <;> cases b3
  all_goals
    go_enter Tryd.func58, Tryd.ntmps58
    go_wp2_with fail
    go_ret
    exact ⟨rfl, rfl⟩
end
end Go.Proofs.YtcmmjbkgoafbnaaDoor

/-
  Own texts of this seat, one behind the other: what each says stands ahead of it.
-/
import Derived.Test.YtpihipbeagpgpaaGreatDoorMf
import Derived.Deep.RegionHeld3
import Derived.Test.YtpihipbeagpgpaaGreatDoorMg
import Derived.Test.YtpihipbeagpgpaaGreatDoorMh
/-
 What the step that lays a run of lengths comes to.
-/
namespace Go.Proofs.YtpihipbeagpgpaaGreatDoor
open Go.RowKit
set_option linter.unusedVariables false
theorem run_tabs : ∀ s, 16 ≤ s → s ≤ 18 → ([2, 3, 7].getD (s - 16) 0 = if s = 16 then 2 else if s = 17 then 3 else 7) ∧ ([3, 3, 11].getD (s - 16) 0 = if s = 18 then 11 else 3) := by
 intro s h1 h2
 rcases (show s = 16 ∨ s = 17 ∨ s = 18 by omega) with rfl | rfl | rfl <;> decide
section
variable {B D b R : Nat} {f : Nat → Value} {bs : List Bool} {most : Nat}
set_option maxHeartbeats 1000000 in
theorem runOfLengths_s (w : World) {last : Bool} {a c s : Nat} {code l : List Nat} {pos : Nat} {out times : List Nat} (hI : Is w B D b R f bs ⟨.drep last a c code l s, pos, out, times⟩) (hO : Op f) : StepOk 138 B D b R bs most ⟨.drep last a c code l s, pos, out, times⟩ w := by
 obtain ⟨k2, k5, pl, k8, k9, k10, k11⟩ := id hI.at_
 have hle' : pos ≤ bs.length := hI.le
 have hm' : Bs w B D b R f (bs.drop pos) (win out) := hI.mem
 obtain ⟨L, hL⟩ : ∃ L, l.length = L := ⟨_, rfl⟩
 obtain ⟨r, hr⟩ : ∃ r, s - 16 = r := ⟨_, rfl⟩
 obtain ⟨m, hm⟩ : ∃ m, (if s = 16 then 2 else if s = 17 then 3 else 7) = m := ⟨_, rfl⟩
 obtain ⟨mb, hmb⟩ : ∃ mb, (if s = 18 then 11 else 3) = mb := ⟨_, rfl⟩
 have hr3 : r < 3 := by omega
 have hm7 : m ≤ 7 ∧ 2 ≤ m := by rw [← hm]; split <;> (try split) <;> omega
 have hmb11 : mb ≤ 11 ∧ 3 ≤ mb := by rw [← hmb]; split <;> omega
 have hrt := run_tabs s k9 k10
 rw [hr, hm, hmb] at hrt
 have c8 := (hm'.cell (show 348 < 355 by decide)).trans (congrArg some k8)
 have c0 := (hm'.cell (show 0 < 355 by decide)).trans (congrArg some hm'.c0)
 have A : Aside (Is w B D b R f bs ⟨.drep last a c code l s, pos, out, times⟩ ∧ Op f ∧ pos ≤ bs.length ∧ Bs w B D b R f (bs.drop pos) (win out)) := ⟨hI, hO, hle', hm'⟩
 have AK : Aside (f 2 = fnv D 138 ∧ f 5 = .bool last ∧ Pl w B f a c code l ∧ l.length = L ∧ f 348 = .int .i64 (s : Int) ∧ 16 ≤ s ∧ s ≤ 18 ∧ (s = 16 → l ≠ [])) := ⟨k2, k5, pl, hL, k8, k9, k10, k11⟩
 have AM : Aside (s - 16 = r ∧ (if s = 16 then 2 else if s = 17 then 3 else 7) = m ∧ (if s = 18 then 11 else 3) = mb ∧ r < 3 ∧ m ≤ 7 ∧ mb ≤ 11 ∧ 3 ≤ mb ∧ 2 ≤ m) := ⟨hr, hm, hmb, hr3, hm7.1, hmb11.1, hmb11.2, hm7.2⟩
 have hsr : (s : Int) - 16 = (r : Int) := by omega
 have hsI : (s : Int) < 19 := by omega
 have ht : ∀ u, Fm B w.drew u → u.cell? ⟨6, r, none⟩ = some (.int .u8 (m : Int)) ∧ u.cell? ⟨7, r, none⟩ = some (.int .u8 (mb : Int)) := fun u hf => by
  have t := hI.tabs.below (hf.of_drew.below (by have := hm'.lt; omega)) hI.b7
  have t5 := t.t5 r hr3
  have t6 := t.t6 r hr3
  rw [hrt.1] at t5
  rw [hrt.2] at t6
  exact ⟨t5, t6⟩
 have AT : Aside (∀ u, Fm B w.drew u → u.cell? ⟨6, r, none⟩ = some (.int .u8 (m : Int)) ∧ u.cell? ⟨7, r, none⟩ = some (.int .u8 (mb : Int))) := ht
 have t0 := (ht w.drew (Fm.refl B _)).1
 have hrI : ((r : Int) < 3) = True := eq_true (by omega)
 have hrn : (r < 3) = True := eq_true hr3
 have hmw : IntKind.i64.wrap (m : Int) = (m : Int) := by rw [IntKind.wrap_i64]; omega
 have hkeep : Aside (∀ u h', Bs u B D b R f h' (win out) → Fm B w.drew u → u.cell? ⟨D, 0, none⟩ = some (.pointer (some ⟨b, 0, none⟩)) ∧ u.cell? ⟨6, r, none⟩ = some (.int .u8 (m : Int))) := fun u h' hb hf => ⟨(hb.cell (show 0 < 355 by decide)).trans (congrArg some hb.c0), (ht u hf).1⟩
 have t00 : w.cell? ⟨6, r, none⟩ = some (.int .u8 (m : Int)) := t0
 unfold StepOk
 by_cases hshort : (bs.drop pos).length < m
 ·have htake := take_short m w.drew hm'.drew hshort
  have AS : Aside ((bs.drop pos).length < m) := hshort
  clear hI hO hle' hm' k2 k5 pl k8 k9 k10 k11 hr hm hmb hr3 hm7 hmb11 hrt ht hshort hL t0
  go_enter Tryz.func138, Tryz.ntmps138
  go_upto_region 2 with fail
  go_region_held3 (fun u => u.cell? ⟨D, 0, none⟩ = some (.pointer (some ⟨b, 0, none⟩)) ∧ u.cell? ⟨6, r, none⟩ = some (.int .u8 (m : Int))) (first | assumption | exact ⟨c0, t00⟩)
   (first | (go_at_call 58; refine htake.mono ?_; rintro e2 w2 ⟨rfl, rfl⟩))
  all_goals
   go_wp2_with fail
   first | go_ret | go_ret2
   have a' := A.out
   have am := AM.out
   have sh := AS.out
   rw [List.length_drop] at sh
   refine ⟨false, rfl, (Fm.refl B w).drew, Res.want (a'.1.same (Fm.refl B w).drew a'.1.mem.drew) a'.2.1 ?_ ?_ (fun y => by simp) (by simp)⟩
   ·show bs.length < pos + 32
    omega
   ·unfold step
    simp only [am.2.1]
    rw [num_no (by omega)]; rfl
 ·obtain ⟨v, hv⟩ : ∃ v, nm ((bs.drop pos).take m) = v := ⟨_, rfl⟩
  have hvlt : v < 128 := by
   have := nm_take_lt (bs.drop pos) m
   have h2 : 2 ^ m ≤ 2 ^ 7 := Nat.pow_le_pow_right (by decide) hm7.1
   omega
  have htake := take_at m w.drew hm'.drew (by omega) (by omega) v hv
  obtain ⟨mm, hmm⟩ : ∃ mm, mb + v = mm := ⟨_, rfl⟩
  have AS : Aside (pos + m ≤ bs.length ∧ nm ((bs.drop pos).take m) = v ∧ v < 128 ∧ mb + v = mm) := ⟨by rw [List.length_drop] at hshort; omega, hv, hvlt, hmm⟩
  have hmbI : (mb : Int) + (v : Int) = (mm : Int) := by omega
  have hvI : (v : Int) < 128 := by omega
  have hmbI2 : (mb : Int) < 12 := by omega
  have hmI : (mm : Int) < 200 := by omega
  have hLI : (L : Int) < 400 := by have := pl.len; have := pl.a2; have := pl.b2; omega
  have haI : (a : Int) < 300 := by have := pl.a2; omega
  have hcI : (c : Int) < 40 := by have := pl.b2; omega
  have hstep : ∀ st, (if a + c < L + mm then St.bad 12 else .dsym last a c code (l ++ List.replicate mm (if s = 16 then l.getD (L - 1) 0 else 0))) = st → step bs most ⟨.drep last a c code l s, pos, out, times⟩ = some ⟨st, pos + m, out, times⟩ := fun st h => by
   have q := AS.out
   have am := AM.out
   unfold step
   simp only [am.2.1, am.2.2.1]
   rw [pnum_at q.1, q.2.1, Option.map_some, q.2.2.2, hL, h]
  have AST : Aside (∀ st, (if a + c < L + mm then St.bad 12 else .dsym last a c code (l ++ List.replicate mm (if s = 16 then l.getD (L - 1) 0 else 0))) = st → step bs most ⟨.drep last a c code l s, pos, out, times⟩ = some ⟨st, pos + m, out, times⟩) := hstep
  clear hI hO hle' hm' k2 k5 pl k8 k9 k10 k11 hr hm hmb hr3 hm7 hmb11 hrt ht hshort hL t0 hv hvlt hmm hstep
  go_enter Tryz.func138, Tryz.ntmps138
  go_upto_region 2 with fail
  go_region_held3 (fun u => u.cell? ⟨D, 0, none⟩ = some (.pointer (some ⟨b, 0, none⟩)) ∧ u.cell? ⟨6, r, none⟩ = some (.int .u8 (m : Int))) (first | assumption | exact ⟨c0, t00⟩ | exact hkeep.out _ _ hb2 hf2)
   (first | (go_at_call 58; refine htake.mono ?_; rintro e2 w2 ⟨rfl, hb2, hf2⟩))
  all_goals
   have d6 := (AT.out _ hf2).2
   have p := AK.out.2.2.1
   have d11 := (hb2.cell (show 11 < 355 by decide)).trans (congrArg some (by rw [p.have_, AK.out.2.2.2.1]))
   have d8 := (hb2.cell (show 8 < 355 by decide)).trans (congrArg some p.c8)
   have d9 := (hb2.cell (show 9 < 355 by decide)).trans (congrArg some p.c9)
   have ds := (hb2.cell (show 348 < 355 by decide)).trans (congrArg some AK.out.2.2.2.2.1)
   have A2 : Aside (Bs w2 B D b R f ((bs.drop pos).drop m) (win out) ∧ Fm B w w2) := ⟨hb2, hf2.of_drew⟩
   clear hb2 hf2 p htake c0 c8 t00 hkeep AT hmw
   go_upto_region 7 with fail
   by_cases hbig : a + c < L + mm
   ·have t1 : ((a : Int) + (c : Int) < (L : Int) + (mm : Int)) = True := eq_true (by omega)
    have AB : Aside (a + c < L + mm) := hbig
    clear hbig
    go_quiet (fail)
    have hst := pstop_c 12 _ (A2.out.1.drewN nq)
    go_wp2_with (go_at_call 65; refine hst.mono ?_; rintro e3 w3 ⟨rfl, hb3, hf3⟩)
    first | go_ret | go_ret2
    have a' := A.out
    have hf : Fm B w w3 := (A2.out.2.drewN nq).trans hf3
    exact ⟨false, rfl, hf, Res.over (c' := ⟨.bad 12, pos + m, out, times⟩) (Runs.one (AST.out _ (if_pos AB.out))) (a'.1.bad a'.2.1 hf hb3 12 (by decide) rfl rfl rfl rfl rfl rfl) rfl⟩
   ·have t1 : ((a : Int) + (c : Int) < (L : Int) + (mm : Int)) = False := eq_false (by omega)
    have AB : Aside (¬ a + c < L + mm) := hbig
    obtain ⟨x, hx⟩ : ∃ x, (if s = 16 then l.getD (L - 1) 0 else 0) = x := ⟨_, rfl⟩
    have AX : Aside ((if s = 16 then l.getD (L - 1) 0 else 0) = x) := hx
    have hmain : ∀ w3, Bs w3 B D b R f ((bs.drop pos).drop m) (win out) → Fm B w w3 → ∃ f', Bs w3 B D b R f' ((bs.drop pos).drop m) (win out) ∧ Fm B w w3 ∧ f' 11 = .int .i64 ((L + 0 : Nat) : Int) ∧ (∀ (j y : Nat), (l ++ List.replicate 0 x)[j]? = some y → f' (32 + j) = .int .i64 (y : Int)) ∧ (∀ n, n ≠ 11 → n < 32 ∨ 348 ≤ n → f' n = f n) := fun w3 h1 h2 => ⟨f, h1, h2, by rw [AK.out.2.2.1.have_, AK.out.2.2.2.1]; rfl, fun j y hy => by rw [List.replicate_zero, List.append_nil] at hy; exact AK.out.2.2.1.row j y hy, fun _ _ _ => rfl⟩
    have AMN : Aside (∀ w3, Bs w3 B D b R f ((bs.drop pos).drop m) (win out) → Fm B w w3 → ∃ f', Bs w3 B D b R f' ((bs.drop pos).drop m) (win out) ∧ Fm B w w3 ∧ f' 11 = .int .i64 ((L + 0 : Nat) : Int) ∧ (∀ (j y : Nat), (l ++ List.replicate 0 x)[j]? = some y → f' (32 + j) = .int .i64 (y : Int)) ∧ (∀ n, n ≠ 11 → n < 32 ∨ 348 ≤ n → f' n = f n)) := hmain
    clear hbig hmain
    go_quiet (fail)
    have hb3 := A2.out.1.drewN nq
    have hf3 : Fm B w (w2.drewN nq) := A2.out.2.drewN nq
    obtain ⟨w3, hw3⟩ : ∃ w3, w2.drewN nq = w3 := ⟨_, rfl⟩
    rw [hw3] at hb3 hf3 ⊢
    have gs := (hb3.cell (show 348 < 355 by decide)).trans (congrArg some AK.out.2.2.2.2.1)
    have g11 := (hb3.cell (show 11 < 355 by decide)).trans (congrArg some (show f 11 = .int .i64 (L : Int) by rw [AK.out.2.2.1.have_, AK.out.2.2.2.1]))
    have A3 : Aside (Bs w3 B D b R f ((bs.drop pos).drop m) (win out) ∧ Fm B w w3) := ⟨hb3, hf3⟩
    clear hw3 d6 d11 d8 d9 ds t1
    by_cases h16 : s = 16
    ·have t2 : ((s : Int) == 16) = true := by rw [beq_iff_eq]; omega
     rw [if_pos h16] at hx
     have hL0 : 0 < L := by
      have := AK.out.2.2.2.2.2.2.2 h16
      rw [← AK.out.2.2.2.1]
      exact List.length_pos_iff.2 this
     obtain ⟨q, hq⟩ : ∃ q, L - 1 = q := ⟨_, rfl⟩
     have hqI : (L : Int) - 1 = (q : Int) := by omega
     have hq316 : q < 316 := by have := AK.out.2.2.1.len; have := AK.out.2.2.1.a2; have := AK.out.2.2.1.b2; have := AK.out.2.2.2.1; omega
     have hqL : q < l.length := by rw [AK.out.2.2.2.1]; omega
     have eq : f (32 + q) = .int .i64 (x : Int) := by
      rw [← hx, hq, List.getD_eq_getElem?_getD, List.getElem?_eq_getElem hqL]
      exact AK.out.2.2.1.row q _ (List.getElem?_eq_getElem hqL)
     have gq := (hb3.cell (show 32 + q < 355 by omega)).trans (congrArg some eq)
     have t3 : ((q : Int) < 316) = True := eq_true (by omega)
     have t3' : (q < 316) = True := eq_true hq316
     have hwq : ∀ z : Int, z = (L : Int) - 1 → IntKind.i64.wrap z = (q : Int) := by intro z hz; rw [IntKind.wrap_i64, hz]; omega
     clear h16 hx hL0 hq hqL eq hb3 hf3 hq316
     go_upto_region 11 with fail
     go_quiet (fail)
     have A4 : Aside (∃ f', Bs (w3.drewN nq) B D b R f' ((bs.drop pos).drop m) (win out) ∧ Fm B w (w3.drewN nq) ∧ f' 11 = .int .i64 ((L + 0 : Nat) : Int) ∧ (∀ (j y : Nat), (l ++ List.replicate 0 x)[j]? = some y → f' (32 + j) = .int .i64 (y : Int)) ∧ (∀ n, n ≠ 11 → n < 32 ∨ 348 ≤ n → f' n = f n)) := AMN.out _ (A3.out.1.drewN nq) (A3.out.2.drewN nq)
     obtain ⟨w4, hw4⟩ : ∃ w4, w3.drewN nq = w4 := ⟨_, rfl⟩
     rw [hw4] at A4 ⊢
     clear hw4 gs g11 gq t3 t3' hwq t2
     go_wp2_with fail
     go_loopg [72] mm (fun gg si wr => ∃ t : Nat, si = .int .i64 t ∧ Aside (t + gg = mm ∧ ∃ f', Bs wr B D b R f' ((bs.drop pos).drop m) (win out) ∧ Fm B w wr ∧ f' 11 = .int .i64 ((L + t : Nat) : Int) ∧ (∀ (j y : Nat), (l ++ List.replicate t x)[j]? = some y → f' (32 + j) = .int .i64 (y : Int)) ∧ (∀ n, n ≠ 11 → n < 32 ∨ 348 ≤ n → f' n = f n)))
     case atStart => exact ⟨0, rfl, by omega, A4.out⟩
     case round =>
      obtain ⟨t, rfl, hI⟩ := hrel
      obtain ⟨htg, f', hb5, hf5, h11, hrow, hrest⟩ := hI.out
      by_cases htm : t < mm
      ·have u1 : ((t : Int) < (mm : Int)) = True := eq_true (by omega)
       have u2 : (t < mm) = True := eq_true htm
       have htI : (t : Int) < 1000 := by omega
       obtain ⟨g, hg⟩ : ∃ g, L + t = g := ⟨_, rfl⟩
       rw [hg] at h11
       have hg316 : g < 316 := by have := AB.out; have := AK.out.2.2.1.a2; have := AK.out.2.2.1.b2; omega
       have c11 := (hb5.cell (show 11 < 355 by decide)).trans (congrArg some h11)
       have cg := hb5.cell (show 32 + g < 355 by omega)
       have zg := hb5.fz (32 + g)
       have u3 : ((g : Int) < 316) = True := eq_true (by omega)
       have u3' : (g < 316) = True := eq_true hg316
       have AN : Aside (t + gk = mm ∧ Bs wr B D b R f' ((bs.drop pos).drop m) (win out) ∧ Fm B w wr ∧ f' 11 = .int .i64 (g : Int) ∧ (∀ (j y : Nat), (l ++ List.replicate t x)[j]? = some y → f' (32 + j) = .int .i64 (y : Int)) ∧ (∀ n, n ≠ 11 → n < 32 ∨ 348 ≤ n → f' n = f n) ∧ L + t = g ∧ g < 316 ∧ t < mm) := ⟨htg, hb5, hf5, h11, hrow, hrest, hg, hg316, htm⟩
       clear hI htg hb5 hf5 h11 hrow hrest hg hg316 htm
       go_upto_region 14 with fail
       go_region
       have an := AN.out
       have hb6 := (an.2.1.set (32 + g) (.int .i64 (x : Int)) (by omega)).drew
       have hf6 : Fm B w (wr.setCell ⟨D, 32 + g, none⟩ (.int .i64 (x : Int))).drew := (an.2.2.1.trans (an.2.1.fmD ((Only.refl D wr).setCell (32 + g) _))).drew
       obtain ⟨w6, hw6⟩ : ∃ w6, (wr.setCell ⟨D, 32 + g, none⟩ (.int .i64 (x : Int))).drew = w6 := ⟨_, rfl⟩
       rw [hw6] at hb6 hf6 ⊢
       have e11 : upd f' (32 + g) (.int .i64 (x : Int)) 11 = .int .i64 (g : Int) := (upd_ne _ _ (by omega)).trans an.2.2.2.1
       have y11 := (hb6.cell (show 11 < 355 by decide)).trans (congrArg some e11)
       have z11 := hb6.fz 11
       have hgI : (g : Int) < 400 := by omega
       have A6 : Aside (Bs w6 B D b R (upd f' (32 + g) (.int .i64 (x : Int))) ((bs.drop pos).drop m) (win out) ∧ Fm B w w6) := ⟨hb6, hf6⟩
       clear an hb6 hf6 hw6 e11 c11 cg zg u3 u3'
       go_wp2_with fail
       have an := AN.out
       go_roundg (gk - 1)
       case measure => omega
       case rel =>
        refine ⟨t + 1, by go_num, by omega, _, A6.out.1.set 11 (.int .i64 ((g : Int) + 1)) (by decide), A6.out.2.trans (A6.out.1.fmD ((Only.refl D w6).setCell 11 _)), ?_, ?_, ?_⟩
        ·rw [upd_same, show L + (t + 1) = g + 1 by omega]; rfl
        ·intro j y hy
         rw [upd_ne _ _ (by omega)]
         rw [List.replicate_succ', ← List.append_assoc, List.getElem?_append] at hy
         have hlen : (l ++ List.replicate t x).length = g := by rw [List.length_append, List.length_replicate, AK.out.2.2.2.1]; exact an.2.2.2.2.2.2.1
         rw [hlen] at hy
         split at hy
         ·rw [upd_ne _ _ (by omega)]; exact an.2.2.2.2.1 j y hy
         ·rename_i hjg
          have hj1 : j - g = 0 := by
           have := (List.getElem?_eq_some_iff.1 hy).1
           rw [List.length_singleton] at this
           omega
          rw [hj1] at hy
          cases hy
          rw [show 32 + j = 32 + g by omega, upd_same]
        ·intro n h1 h2
         have := an.2.2.2.2.2.2.2.1
         rw [upd_ne _ _ h1, upd_ne _ _ (by omega)]
         exact an.2.2.2.2.2.1 n h1 h2
      ·have ht : t = mm := by omega
       subst ht
       have u1 : ((t : Int) < (t : Int)) = False := eq_false (by omega)
       have u2 : (t < t) = False := eq_false (by omega)
       have hth := pthen_c 122 wr hb5
       have AN : Aside (Fm B w wr ∧ f' 11 = .int .i64 ((L + t : Nat) : Int) ∧ (∀ (j y : Nat), (l ++ List.replicate t x)[j]? = some y → f' (32 + j) = .int .i64 (y : Int)) ∧ (∀ n, n ≠ 11 → n < 32 ∨ 348 ≤ n → f' n = f n)) := ⟨hf5, h11, hrow, hrest⟩
       clear hI htg hb5 hf5 h11 hrow hrest htm
       go_wp2_with (go_at_call 60; refine hth.mono ?_; rintro e7 w7 ⟨rfl, hb7, hf7⟩)
       first | go_ret | go_ret2
       have a' := A.out
       have an := AN.out
       have hf : Fm B w w7 := an.1.trans hf7
       have p := AK.out.2.2.1
       have ab := AB.out
       rw [List.drop_drop] at hb7
       have u : ∀ n, n ≠ 2 → n ≠ 11 → n < 32 ∨ 348 ≤ n → upd f' 2 (fnv D 122) n = f n := fun n h0 h1 h2 => by rw [upd_ne _ _ h0]; exact an.2.2.2 n h1 h2
       have hlen : (l ++ List.replicate t x).length = L + t := by rw [List.length_append, List.length_replicate, AK.out.2.2.2.1]
       refine ⟨true, rfl, hf, Res.next (c' := ⟨.dsym last a c code (l ++ List.replicate t x), pos + m, out, times⟩) (Runs.one (AST.out _ (by rw [if_neg ab, AX.out]))) (a'.1.to hf hb7 ⟨rfl, (u 5 (by decide) (by decide) (by decide)).trans AK.out.2.1, p.a1, p.a2, p.b1, p.b2, (u 8 (by decide) (by decide) (by decide)).trans p.c8, (u 9 (by decide) (by decide) (by decide)).trans p.c9, ?_, by rw [hlen]; omega, ?_, ?_, p.code⟩ (u 3 (by decide) (by decide) (by decide)) (u 4 (by decide) (by decide) (by decide)) AS.out.1) (a'.2.1.to (u 352 (by decide) (by decide) (by decide)) (u 353 (by decide) (by decide) (by decide)) (u 354 (by decide) (by decide) (by decide))) rfl ?_⟩
       ·rw [upd_ne _ _ (by decide), an.2.1, hlen]
       ·intro j y hy
        rw [upd_ne _ _ (by omega)]
        exact an.2.2.1 j y hy
       ·rw [u 31 (by decide) (by decide) (by decide)]
        exact p.tbl.fm hf
       ·unfold mu rk
        simp only []
        have := AM.out
        have := AS.out.1
        omega
    ·have t2 : ((s : Int) == 16) = false := by rw [beq_eq_false_iff_ne]; omega
     rw [if_neg h16] at hx
     subst hx
     have A4 : Aside (∃ f', Bs w3 B D b R f' ((bs.drop pos).drop m) (win out) ∧ Fm B w w3 ∧ f' 11 = .int .i64 ((L + 0 : Nat) : Int) ∧ (∀ (j y : Nat), (l ++ List.replicate 0 0)[j]? = some y → f' (32 + j) = .int .i64 (y : Int)) ∧ (∀ n, n ≠ 11 → n < 32 ∨ 348 ≤ n → f' n = f n)) := AMN.out _ A3.out.1 A3.out.2
     clear h16 hb3 hf3
     go_upto_region 12 with fail
     clear gs g11 t2
     go_wp2_with fail
     go_loopg [72] mm (fun gg si wr => ∃ t : Nat, si = .int .i64 t ∧ Aside (t + gg = mm ∧ ∃ f', Bs wr B D b R f' ((bs.drop pos).drop m) (win out) ∧ Fm B w wr ∧ f' 11 = .int .i64 ((L + t : Nat) : Int) ∧ (∀ (j y : Nat), (l ++ List.replicate t 0)[j]? = some y → f' (32 + j) = .int .i64 (y : Int)) ∧ (∀ n, n ≠ 11 → n < 32 ∨ 348 ≤ n → f' n = f n)))
     case atStart => exact ⟨0, rfl, by omega, A4.out⟩
     case round =>
      obtain ⟨t, rfl, hI⟩ := hrel
      obtain ⟨htg, f', hb5, hf5, h11, hrow, hrest⟩ := hI.out
      by_cases htm : t < mm
      ·have u1 : ((t : Int) < (mm : Int)) = True := eq_true (by omega)
       have u2 : (t < mm) = True := eq_true htm
       have htI : (t : Int) < 1000 := by omega
       obtain ⟨g, hg⟩ : ∃ g, L + t = g := ⟨_, rfl⟩
       rw [hg] at h11
       have hg316 : g < 316 := by have := AB.out; have := AK.out.2.2.1.a2; have := AK.out.2.2.1.b2; omega
       have c11 := (hb5.cell (show 11 < 355 by decide)).trans (congrArg some h11)
       have cg := hb5.cell (show 32 + g < 355 by omega)
       have zg := hb5.fz (32 + g)
       have u3 : ((g : Int) < 316) = True := eq_true (by omega)
       have u3' : (g < 316) = True := eq_true hg316
       have AN : Aside (t + gk = mm ∧ Bs wr B D b R f' ((bs.drop pos).drop m) (win out) ∧ Fm B w wr ∧ f' 11 = .int .i64 (g : Int) ∧ (∀ (j y : Nat), (l ++ List.replicate t 0)[j]? = some y → f' (32 + j) = .int .i64 (y : Int)) ∧ (∀ n, n ≠ 11 → n < 32 ∨ 348 ≤ n → f' n = f n) ∧ L + t = g ∧ g < 316 ∧ t < mm) := ⟨htg, hb5, hf5, h11, hrow, hrest, hg, hg316, htm⟩
       clear hI htg hb5 hf5 h11 hrow hrest hg hg316 htm
       go_upto_region 14 with fail
       go_region
       have an := AN.out
       have hb6 := (an.2.1.set (32 + g) (.int .i64 0) (by omega)).drew
       have hf6 : Fm B w (wr.setCell ⟨D, 32 + g, none⟩ (.int .i64 0)).drew := (an.2.2.1.trans (an.2.1.fmD ((Only.refl D wr).setCell (32 + g) _))).drew
       obtain ⟨w6, hw6⟩ : ∃ w6, (wr.setCell ⟨D, 32 + g, none⟩ (.int .i64 0)).drew = w6 := ⟨_, rfl⟩
       rw [hw6] at hb6 hf6 ⊢
       have e11 : upd f' (32 + g) (.int .i64 0) 11 = .int .i64 (g : Int) := (upd_ne _ _ (by omega)).trans an.2.2.2.1
       have y11 := (hb6.cell (show 11 < 355 by decide)).trans (congrArg some e11)
       have z11 := hb6.fz 11
       have hgI : (g : Int) < 400 := by omega
       have A6 : Aside (Bs w6 B D b R (upd f' (32 + g) (.int .i64 0)) ((bs.drop pos).drop m) (win out) ∧ Fm B w w6) := ⟨hb6, hf6⟩
       clear an hb6 hf6 hw6 e11 c11 cg zg u3 u3'
       go_wp2_with fail
       have an := AN.out
       go_roundg (gk - 1)
       case measure => omega
       case rel =>
        refine ⟨t + 1, by go_num, by omega, _, A6.out.1.set 11 (.int .i64 ((g : Int) + 1)) (by decide), A6.out.2.trans (A6.out.1.fmD ((Only.refl D w6).setCell 11 _)), ?_, ?_, ?_⟩
        ·rw [upd_same, show L + (t + 1) = g + 1 by omega]; rfl
        ·intro j y hy
         rw [upd_ne _ _ (by omega)]
         rw [List.replicate_succ', ← List.append_assoc, List.getElem?_append] at hy
         have hlen : (l ++ List.replicate t 0).length = g := by rw [List.length_append, List.length_replicate, AK.out.2.2.2.1]; exact an.2.2.2.2.2.2.1
         rw [hlen] at hy
         split at hy
         ·rw [upd_ne _ _ (by omega)]; exact an.2.2.2.2.1 j y hy
         ·rename_i hjg
          have hj1 : j - g = 0 := by
           have := (List.getElem?_eq_some_iff.1 hy).1
           rw [List.length_singleton] at this
           omega
          rw [hj1] at hy
          cases hy
          rw [show 32 + j = 32 + g by omega, upd_same]
          rfl
        ·intro n h1 h2
         have := an.2.2.2.2.2.2.2.1
         rw [upd_ne _ _ h1, upd_ne _ _ (by omega)]
         exact an.2.2.2.2.2.1 n h1 h2
      ·have ht : t = mm := by omega
       subst ht
       have u1 : ((t : Int) < (t : Int)) = False := eq_false (by omega)
       have u2 : (t < t) = False := eq_false (by omega)
       have hth := pthen_c 122 wr hb5
       have AN : Aside (Fm B w wr ∧ f' 11 = .int .i64 ((L + t : Nat) : Int) ∧ (∀ (j y : Nat), (l ++ List.replicate t 0)[j]? = some y → f' (32 + j) = .int .i64 (y : Int)) ∧ (∀ n, n ≠ 11 → n < 32 ∨ 348 ≤ n → f' n = f n)) := ⟨hf5, h11, hrow, hrest⟩
       clear hI htg hb5 hf5 h11 hrow hrest htm
       go_wp2_with (go_at_call 60; refine hth.mono ?_; rintro e7 w7 ⟨rfl, hb7, hf7⟩)
       first | go_ret | go_ret2
       have a' := A.out
       have an := AN.out
       have hf : Fm B w w7 := an.1.trans hf7
       have p := AK.out.2.2.1
       have ab := AB.out
       rw [List.drop_drop] at hb7
       have u : ∀ n, n ≠ 2 → n ≠ 11 → n < 32 ∨ 348 ≤ n → upd f' 2 (fnv D 122) n = f n := fun n h0 h1 h2 => by rw [upd_ne _ _ h0]; exact an.2.2.2 n h1 h2
       have hlen : (l ++ List.replicate t 0).length = L + t := by rw [List.length_append, List.length_replicate, AK.out.2.2.2.1]
       refine ⟨true, rfl, hf, Res.next (c' := ⟨.dsym last a c code (l ++ List.replicate t 0), pos + m, out, times⟩) (Runs.one (AST.out _ (by rw [if_neg ab, AX.out]))) (a'.1.to hf hb7 ⟨rfl, (u 5 (by decide) (by decide) (by decide)).trans AK.out.2.1, p.a1, p.a2, p.b1, p.b2, (u 8 (by decide) (by decide) (by decide)).trans p.c8, (u 9 (by decide) (by decide) (by decide)).trans p.c9, ?_, by rw [hlen]; omega, ?_, ?_, p.code⟩ (u 3 (by decide) (by decide) (by decide)) (u 4 (by decide) (by decide) (by decide)) AS.out.1) (a'.2.1.to (u 352 (by decide) (by decide) (by decide)) (u 353 (by decide) (by decide) (by decide)) (u 354 (by decide) (by decide) (by decide))) rfl ?_⟩
       ·rw [upd_ne _ _ (by decide), an.2.1, hlen]
       ·intro j y hy
        rw [upd_ne _ _ (by omega)]
        exact an.2.2.1 j y hy
       ·rw [u 31 (by decide) (by decide) (by decide)]
        exact p.tbl.fm hf
       ·unfold mu rk
        simp only []
        have := AM.out
        have := AS.out.1
        omega
end
end Go.Proofs.YtpihipbeagpgpaaGreatDoor

/-
 What a run of steps comes to: up to a byte, an end, or more bits that are wanted.
-/
namespace Go.Proofs.YtpihipbeagpgpaaGreatDoor
open Go.RowKit
set_option linter.unusedVariables false
def Bd : St → Prop
 | .inl (.inl (.inr (.inl (_, l)))) => l < 65536
 | .inl (.inl (.inr (.inr (_, m)))) => m < 65536
 | .inr (.inl (.inl (.inr (_, _, _, s)))) => 257 ≤ s ∧ s ≤ 285
 | .inr (.inl (.inr (.inl (_, _, _, m)))) => m < 65536
 | .inr (.inl (.inr (.inr (_, _, _, m, _)))) => m < 65536
 | .inr (.inr (.inl (.inl (_, _, _, m, _)))) => m < 65536
 | _ => True
theorem num_lt2 {bs : List Bool} {p n v : Nat} (h : num? bs p n = some v) : v < 2 ^ n := by
 unfold num? at h
 split at h
 ·cases h; exact nm_take_lt _ _
 ·cases h
theorem give_bd {most : Nat} {k : St} {b p : Nat} {c : Cfg} (h : Bd k) : Bd (give most k b p c).st := by
 unfold give
 split
 ·exact h
 ·trivial
theorem step_bd {bs : List Bool} {most : Nat} {c d : Cfg} (h : step bs most c = some d) (hc : Bd c.st) : Bd d.st := by
 obtain ⟨st, pos, out, times⟩ := c
 unfold step at h
 cases st using St.el with
 | head last =>
  cases last with
  | true => simp only [Option.some.injEq] at h; rw [← h]; trivial
  | false =>
   simp only [Option.map_eq_some_iff] at h
   obtain ⟨v, hv, rfl⟩ := h
   show Bd (match v / 2 with
    | 0 => St.slen (v % 2 == 1)
    | 1 => .sym (v % 2 == 1) fixL fixD
    | 2 => .dnum (v % 2 == 1)
    | _ => .bad 10)
   split <;> trivial
 | slen last =>
  simp only [Option.map_eq_some_iff] at h
  obtain ⟨v, hv, rfl⟩ := h
  exact num_lt2 hv
 | snot last l =>
  simp only [Option.map_eq_some_iff] at h
  obtain ⟨v, hv, rfl⟩ := h
  show Bd (if l + v = 65535 then St.sraw last l else .bad 11)
  split
  ·exact hc
  ·trivial
 | sraw last n =>
  cases n with
  | zero => simp only [Option.some.injEq] at h; rw [← h]; trivial
  | succ n =>
   simp only [Option.map_eq_some_iff] at h
   obtain ⟨v, hv, rfl⟩ := h
   exact give_bd (show n < 65536 by have h1 : n + 1 < 65536 := hc; omega)
 | dnum last =>
  simp only [Option.map_eq_some_iff] at h
  obtain ⟨v, hv, rfl⟩ := h
  simp only []
  split <;> trivial
 | dfst last a b i j first =>
  simp only [] at h
  split at h
  ·simp only [Option.map_eq_some_iff] at h
   obtain ⟨v, hv, rfl⟩ := h
   trivial
  ·simp only [Option.some.injEq] at h
   rw [← h]
   simp only []
   split <;> trivial
 | dsym last a b code l =>
  simp only [] at h
  split at h
  ·split at h
   ·cases h
   ·simp only [Option.some.injEq] at h; rw [← h]; trivial
   ·simp only [Option.some.injEq] at h
    rw [← h]
    simp only []
    split
    ·trivial
    ·split <;> trivial
  ·simp only [Option.some.injEq] at h
   rw [← h]
   simp only []
   split <;> trivial
 | drep last a b code l s =>
  simp only [Option.map_eq_some_iff] at h
  obtain ⟨v, hv, rfl⟩ := h
  simp only []
  split <;> split <;> trivial
 | sym last lit di =>
  simp only [] at h
  split at h
  ·cases h
  ·simp only [Option.some.injEq] at h; rw [← h]; trivial
  ·rename_i s n e
   split at h
   ·simp only [Option.some.injEq] at h
    rw [← h]
    exact give_bd trivial
   ·simp only [Option.some.injEq] at h
    rw [← h]
    simp only []
    split
    ·trivial
    ·split
     ·trivial
     ·show 257 ≤ s ∧ s ≤ 285
      omega
 | lext last lit di s =>
  simp only [Option.map_eq_some_iff] at h
  obtain ⟨v, hv, rfl⟩ := h
  have h1 := num_lt2 hv
  have h2 : 257 ≤ s ∧ s ≤ 285 := hc
  have h3 := plmore_le (s - 257) (by omega)
  rw [show 257 + (s - 257) = s by omega] at h3
  have h4 : 2 ^ lmore s ≤ 2 ^ 5 := Nat.pow_le_pow_right (by decide) h3.1
  show lbase s + v < 65536
  omega
 | dist last lit di n =>
  simp only [] at h
  split at h
  ·cases h
  ·simp only [Option.some.injEq] at h; rw [← h]; trivial
  ·simp only [Option.some.injEq] at h
   rw [← h]
   simp only []
   split
   ·trivial
   ·exact hc
 | dext last lit di n x =>
  simp only [Option.map_eq_some_iff] at h
  obtain ⟨v, hv, rfl⟩ := h
  simp only []
  split
  ·trivial
  ·exact hc
 | copy last lit di n d =>
  cases n with
  | zero => simp only [Option.some.injEq] at h; rw [← h]; trivial
  | succ n =>
   simp only [Option.some.injEq] at h
   rw [← h]
   exact give_bd (show n < 65536 by have h1 : n + 1 < 65536 := hc; omega)
 | done => cases h
 | bad y => cases h
theorem Runs.bd {bs : List Bool} {most : Nat} {c d : Cfg} (h : Runs bs most c d) (hc : Bd c.st) : Bd d.st := by
 induction h using Runs.el with
 | refl => exact hc
 | cons h1 _ ih => exact ih (step_bd h1 hc)
section
variable {B D b R : Nat} {f : Nat → Value} {bs : List Bool} {most : Nat}
theorem step_any (w : World) {c : Cfg} (hI : Is w B D b R f bs c) (hO : Op f) (hm : c.out.length < most) (h8 : bs.length % 8 = 0) (hb : Bd c.st) : ∃ k, f 2 = fnv D k ∧ StepOk k B D b R bs most c w ∧ (k = 45 ∨ k = 61 ∨ k = 86 ∨ k = 64 ∨ k = 93 ∨ k = 122 ∨ k = 138 ∨ k = 63 ∨ k = 92 ∨ k = 120 ∨ k = 136 ∨ k = 146) := by
 obtain ⟨st, pos, out, times⟩ := c
 have hat := hI.at_
 cases st using St.el with
 | head last =>
  cases last with
  | true => exact hat.elim
  | false => exact ⟨45, hat, block_s w hI hO h8, by decide⟩
 | slen last => exact ⟨61, hat.1, storedLength_s w hI hO, by decide⟩
 | snot last l => exact hat.elim
 | sraw last n => exact ⟨86, hat.1, storedByte_s w hI hO hm hb, by decide⟩
 | dnum last => exact ⟨64, hat.1, counts_s w hI hO, by decide⟩
 | dfst last a c k i first => exact ⟨93, hat.1, smallLength_s w hI hO, by decide⟩
 | dsym last a c code l => exact ⟨122, hat.1, codeLength_s w hI hO, by decide⟩
 | drep last a c code l s => exact ⟨138, hat.1, runOfLengths_s w hI hO, by decide⟩
 | sym last lit di => exact ⟨63, hat.1, literal_s w hI hO hm, by decide⟩
 | lext last lit di s => exact ⟨92, hat.1, lengthMore_s w hI hO, by decide⟩
 | dist last lit di n => exact ⟨120, hat.1, back_s w hI hO, by decide⟩
 | dext last lit di n x => exact ⟨136, hat.1, backMore_s w hI hO, by decide⟩
 | copy last lit di n d => exact ⟨146, hat.1, copied_s w hI hO hm hb, by decide⟩
 | done => exact hat.elim
 | bad y => exact hat.elim
def RunTo (B D b R : Nat) (bs : List Bool) (most : Nat) (c : Cfg) (w' : World) : Prop := ∃ f' c', Runs bs most c c' ∧ (Gv w' B D b R f' bs c c' ∨ (Ov w' B D b R f' c' ∧ c'.out = c.out) ∨ (Wt w' B D b R f' bs most c' ∧ c'.out = c.out))
set_option maxHeartbeats 1000000 in
theorem prun_c (w : World) {c : Cfg} (hI : Is w B D b R f bs c) (hO : Op f) (hm : c.out.length < most) (h8 : bs.length % 8 = 0) (hb : Bd c.st) : Calls Tryz.prog 166 #[.pointer (some ⟨D, 0, none⟩)] w fun e w' => e = .returned (.tuple #[]) ∧ Fm B w w' ∧ RunTo B D b R bs most c w' := by
 have A : Aside (c.out.length < most ∧ bs.length % 8 = 0 ∧ Bd c.st) := ⟨hm, h8, hb⟩
 have A0 : Aside (Is w B D b R f bs c ∧ Op f) := ⟨hI, hO⟩
 clear hm h8 hb hI hO
 go_enter Tryz.func166, Tryz.ntmps166
 go_wp2_with fail
 go_loopg [] (mu bs c) (fun gg wr => Aside (∃ f' c', Is wr B D b R f' bs c' ∧ Op f' ∧ Runs bs most c c' ∧ c'.out = c.out ∧ Fm B w wr ∧ mu bs c' = gg))
 case atStart => exact ⟨f, c, A0.out.1, A0.out.2, Runs.refl _, rfl, Fm.refl _ _, rfl⟩
 case round =>
  obtain ⟨f', c', hI, hO, hr, ho, hf, hmu⟩ := hrel.out
  obtain ⟨k, hk2, hst, hks⟩ := step_any (most := most) wr hI hO (by rw [ho]; exact A.out.1) A.out.2.1 (hr.bd A.out.2.2)
  have c2 := (hI.mem.cell (show 2 < 355 by decide)).trans (congrArg some hk2)
  unfold fnv at c2
  unfold StepOk at hst
  have A1 : Aside (Runs bs most c c' ∧ c'.out = c.out ∧ Fm B w wr ∧ mu bs c' = gk) := ⟨hr, ho, hf, hmu⟩
  clear hI hO hr ho hf hmu hk2 hrel
  rcases hks with rfl | rfl | rfl | rfl | rfl | rfl | rfl | rfl | rfl | rfl | rfl | rfl
  all_goals
   go_wp2_with (first
    | (go_at_call 45; refine hst.mono ?_; rintro e2 w2 ⟨_ | _, rfl, hf2, hres⟩)
    | (go_at_call 61; refine hst.mono ?_; rintro e2 w2 ⟨_ | _, rfl, hf2, hres⟩)
    | (go_at_call 86; refine hst.mono ?_; rintro e2 w2 ⟨_ | _, rfl, hf2, hres⟩)
    | (go_at_call 64; refine hst.mono ?_; rintro e2 w2 ⟨_ | _, rfl, hf2, hres⟩)
    | (go_at_call 93; refine hst.mono ?_; rintro e2 w2 ⟨_ | _, rfl, hf2, hres⟩)
    | (go_at_call 122; refine hst.mono ?_; rintro e2 w2 ⟨_ | _, rfl, hf2, hres⟩)
    | (go_at_call 138; refine hst.mono ?_; rintro e2 w2 ⟨_ | _, rfl, hf2, hres⟩)
    | (go_at_call 63; refine hst.mono ?_; rintro e2 w2 ⟨_ | _, rfl, hf2, hres⟩)
    | (go_at_call 92; refine hst.mono ?_; rintro e2 w2 ⟨_ | _, rfl, hf2, hres⟩)
    | (go_at_call 120; refine hst.mono ?_; rintro e2 w2 ⟨_ | _, rfl, hf2, hres⟩)
    | (go_at_call 136; refine hst.mono ?_; rintro e2 w2 ⟨_ | _, rfl, hf2, hres⟩)
    | (go_at_call 146; refine hst.mono ?_; rintro e2 w2 ⟨_ | _, rfl, hf2, hres⟩))
   ·go_end0
    obtain ⟨f2, c2', hr2, h⟩ := hres
    have a1 := A1.out
    rcases h with ⟨h, _⟩ | ⟨_, h⟩ | ⟨_, h, ho2⟩ | ⟨_, h, rfl⟩
    ·cases h
    ·exact ⟨rfl, a1.2.2.1.trans hf2, f2, c2', a1.1.trans hr2, Or.inl ⟨h.is_, h.waits, h.done, h.why, by obtain ⟨x, h1, h2⟩ := h.out; exact ⟨x, h1, by rw [h2, a1.2.1]⟩⟩⟩
    ·exact ⟨rfl, a1.2.2.1.trans hf2, f2, c2', a1.1.trans hr2, Or.inr (Or.inl ⟨h, ho2.trans a1.2.1⟩)⟩
    ·exact ⟨rfl, a1.2.2.1.trans hf2, f2, _, a1.1, Or.inr (Or.inr ⟨h, a1.2.1⟩)⟩
   ·obtain ⟨f2, c2', hr2, h⟩ := hres
    have a1 := A1.out
    rcases h with ⟨_, h1, h2, h3, h4⟩ | ⟨h, _⟩ | ⟨h, _⟩ | ⟨h, _⟩
    ·go_roundg (mu bs c2')
     case measure => omega
     case rel => exact ⟨f2, c2', h1, h2, a1.1.trans hr2, h3.trans a1.2.1, a1.2.2.1.trans hf2, rfl⟩
    ·cases h
    ·cases h
    ·cases h
end
end Go.Proofs.YtpihipbeagpgpaaGreatDoor

/-
 The inflater between its calls: what it was handed, where it stands, in which of four ways; and what its calls come to.
-/
namespace Go.Proofs.YtpihipbeagpgpaaGreatDoor
open Go.RowKit
set_option linter.unusedVariables false
structure Kp (B : Nat) (w u : World) : Prop where
 size : w.heap.size ≤ u.heap.size
 block : ∀ k, k < w.heap.size → u.heap[k]? = w.heap[k]? ∨ (B + 4 ≤ k ∧ ∃ cs fr, w.heap[k]? = some (.cells cs 5 fr))
section
variable {w u : World} {B D b R : Nat} {f : Nat → Value} {bs : List Bool} {most : Nat}
end
def c0 : Cfg := ⟨.head false, 0, [], []⟩
abbrev Md := Nat ⊕ Option Bool
abbrev Md.wait (x : Nat) : Md := .inl x
abbrev Md.want : Md := .inr none
abbrev Md.over : Md := .inr (some false)
abbrev Md.shut : Md := .inr (some true)
theorem Md.el {motive : Md → Prop} (q : Md) (wait : ∀ x, motive (.wait x)) (want : motive .want) (over : motive .over) (shut : motive .shut) : motive q :=
 match q with
 | .inl x => wait x
 | .inr none => want
 | .inr (some false) => over
 | .inr (some true) => shut
def Inf (w : World) (B D b R : Nat) (I : List Nat) (M : Nat) (c : Cfg) (q : Md) : Prop := Runs (allb I) M c0 c ∧ match q with
 | .inl x => ∃ f, Is w B D b R f (allb I) c ∧ f 352 = .bool true ∧ f 353 = .bool false ∧ f 354 = .int .i64 0 ∧ f 351 = .int .u8 (x : Int) ∧ ∃ p, c.out = p ++ [x]
 | .inr none => ∃ f, Wt w B D b R f (allb I) M c
 | .inr (some false) => ∃ f, Ov w B D b R f c
 | .inr (some true) => ∃ f h l, Bs w B D b R f h l ∧ f 352 = .bool false ∧ f 353 = .bool false ∧ f 354 = .int .i64 1 ∧ Fx w B f ∧ Tabs w ∧ 8 ≤ B
section
variable {w u : World} {B D b R : Nat} {I : List Nat} {M : Nat} {c : Cfg} {q : Md}
theorem Inf.mem (h : Inf w B D b R I M c q) : ∃ f hh l, Bs w B D b R f hh l ∧ Fx w B f ∧ Tabs w ∧ 8 ≤ B := by
 have h2 := h.2
 cases q using Md.el with
 | wait x => obtain ⟨f, h3, _⟩ := h2; exact ⟨f, _, _, h3.mem, h3.fx, h3.tabs, h3.b7⟩
 | want => obtain ⟨f, h3⟩ := h2; exact ⟨f, _, _, h3.is_.mem, h3.is_.fx, h3.is_.tabs, h3.is_.b7⟩
 | over => obtain ⟨f, h3⟩ := h2; obtain ⟨hh, l, s⟩ := h3.mem; exact ⟨f, hh, l, s, h3.fx, h3.tabs, h3.b7⟩
 | shut => obtain ⟨f, hh, l, h3, _, _, _, h4, h5, h6⟩ := h2; exact ⟨f, hh, l, h3, h4, h5, h6⟩
theorem Inf.lt (h : Inf w B D b R I M c q) : B + 4 ≤ w.heap.size := by obtain ⟨f, hh, l, s, _⟩ := h.mem; exact s.lt
theorem allb_len8 (I : List Nat) : (allb I).length % 8 = 0 := by rw [allb_len]; omega
theorem RunTo.inf (h : RunTo B D b R (allb I) M c w) (hr : Runs (allb I) M c0 c) : ∃ c', Runs (allb I) M c c' ∧ ((∃ x, Inf w B D b R I M c' (.wait x) ∧ c'.out = c.out ++ [x]) ∨ (Inf w B D b R I M c' .over ∧ c'.out = c.out) ∨ (Inf w B D b R I M c' .want ∧ c'.out = c.out)) := by
 obtain ⟨f, c', h1, h2⟩ := h
 refine ⟨c', h1, ?_⟩
 rcases h2 with h2 | ⟨h2, h3⟩ | ⟨h2, h3⟩
 ·obtain ⟨x, hx, ho⟩ := h2.out
  exact Or.inl ⟨x, ⟨hr.trans h1, f, h2.is_, h2.waits, h2.done, h2.why, hx, _, ho⟩, ho⟩
 ·exact Or.inr (Or.inl ⟨⟨hr.trans h1, f, h2⟩, h3⟩)
 ·exact Or.inr (Or.inr ⟨⟨hr.trans h1, f, h2⟩, h3⟩)
end
section
variable {w : World} {B D b R : Nat} {f : Nat → Value} {h : List Bool} {l : List Int}
theorem open_yes (w : World) (s : Bs w B D b R f h l) (hO : Op f) : Calls Tryz.prog 164 #[.pointer (some ⟨D, 0, none⟩)] w fun e w' => e = .returned (.bool true) ∧ w = w' := by
 have c1 := (s.cell (show 352 < 355 by decide)).trans (congrArg some hO.waits)
 have c2 := (s.cell (show 353 < 355 by decide)).trans (congrArg some hO.done)
 have c3 := (s.cell (show 354 < 355 by decide)).trans (congrArg some hO.why)
 clear s hO
 go_enter Tryz.func164, Tryz.ntmps164
 go_wp2_with fail
 first | go_ret | go_ret2
 exact ⟨rfl, rfl⟩
theorem open_wait (w : World) (s : Bs w B D b R f h l) (h1 : f 352 = .bool true) : Calls Tryz.prog 164 #[.pointer (some ⟨D, 0, none⟩)] w fun e w' => e = .returned (.bool false) ∧ w = w' := by
 have c1 := (s.cell (show 352 < 355 by decide)).trans (congrArg some h1)
 clear s h1
 go_enter Tryz.func164, Tryz.ntmps164
 go_wp2_with fail
 first | go_ret | go_ret2
 exact ⟨rfl, rfl⟩
theorem open_done (w : World) (s : Bs w B D b R f h l) (h1 : f 352 = .bool false) (h2 : f 353 = .bool true) : Calls Tryz.prog 164 #[.pointer (some ⟨D, 0, none⟩)] w fun e w' => e = .returned (.bool false) ∧ w = w' := by
 have c1 := (s.cell (show 352 < 355 by decide)).trans (congrArg some h1)
 have c2 := (s.cell (show 353 < 355 by decide)).trans (congrArg some h2)
 clear s h1 h2
 go_enter Tryz.func164, Tryz.ntmps164
 go_wp2_with fail
 first | go_ret | go_ret2
 exact ⟨rfl, rfl⟩
theorem open_why (y : Nat) (w : World) (s : Bs w B D b R f h l) (h1 : f 352 = .bool false) (h2 : f 353 = .bool false) (h3 : f 354 = .int .i64 (y : Int)) (hy : y ≠ 0) : Calls Tryz.prog 164 #[.pointer (some ⟨D, 0, none⟩)] w fun e w' => e = .returned (.bool false) ∧ w = w' := by
 have c1 := (s.cell (show 352 < 355 by decide)).trans (congrArg some h1)
 have c2 := (s.cell (show 353 < 355 by decide)).trans (congrArg some h2)
 have c3 := (s.cell (show 354 < 355 by decide)).trans (congrArg some h3)
 have t : ((y : Int) == 0) = false := by rw [beq_eq_false_iff_ne]; omega
 clear s h1 h2 h3 hy
 go_enter Tryz.func164, Tryz.ntmps164
 go_wp2_with fail
 first | go_ret | go_ret2
 exact ⟨rfl, rfl⟩
end
section
variable {B D b R : Nat} {I : List Nat} {M : Nat} {c : Cfg} {q : Md}
theorem popen_c (w : World) (h : Inf w B D b R I M c q) (t : Bool) (ht : (t = true ∧ q = .want) ∨ (t = false ∧ q ≠ .want)) : Calls Tryz.prog 164 #[.pointer (some ⟨D, 0, none⟩)] w fun e w' => e = .returned (.bool t) ∧ w = w' := by
 have h2 := h.2
 rcases ht with ⟨rfl, rfl⟩ | ⟨rfl, hq⟩
 ·obtain ⟨f, h3⟩ := h2
  exact open_yes w h3.is_.mem h3.op
 ·cases q using Md.el with
  | wait x => obtain ⟨f, h3, h4, _⟩ := h2; exact open_wait w h3.mem h4
  | want => exact absurd rfl hq
  | over =>
   obtain ⟨f, h3⟩ := h2
   obtain ⟨hh, l, s⟩ := h3.mem
   rcases h3.how with ⟨_, h4, _⟩ | ⟨y, _, h4, h5, h6⟩
   ·exact open_done w s h3.waits h4
   ·exact open_why y w s h3.waits h4 h5 h6
  | shut => obtain ⟨f, hh, l, s, h3, h4, h5, _⟩ := h2; exact open_why 1 w s h3 h4 h5 (by decide)
def doneM (q : Md) (c : Cfg) : Bool := match q with
 | .inr (some false) => endC c
 | _ => false
def whyM (q : Md) (c : Cfg) : Nat := match q with
 | .inr (some false) => whyC c
 | .inr (some true) => 1
 | _ => 0
theorem pdone_c (w : World) (h : Inf w B D b R I M c q) : Calls Tryz.prog 160 #[.pointer (some ⟨D, 0, none⟩)] w fun e w' => e = .returned (.bool (doneM q c)) ∧ w = w' := by
 obtain ⟨t, ht⟩ : ∃ t, doneM q c = t := ⟨_, rfl⟩
 have c3 : w.cell? ⟨D, 353, none⟩ = some (.bool t) := by
  have h2 := h.2
  cases q using Md.el with
  | wait x => obtain ⟨f, h3, _, h4, _⟩ := h2; rw [h3.mem.cell (show 353 < 355 by decide), h4, ← ht]; rfl
  | want => obtain ⟨f, h3⟩ := h2; rw [h3.is_.mem.cell (show 353 < 355 by decide), h3.op.done, ← ht]; rfl
  | over =>
   obtain ⟨f, h3⟩ := h2
   obtain ⟨hh, l, s⟩ := h3.mem
   rw [s.cell (show 353 < 355 by decide), ← ht]
   rcases h3.how with ⟨e, h4, _⟩ | ⟨y, e, h4, h5, h6⟩
   ·rw [h4]; unfold doneM endC; rw [e]
   ·rw [h4]; unfold doneM endC; rw [e]
  | shut => obtain ⟨f, hh, l, s, _, h4, _⟩ := h2; rw [s.cell (show 353 < 355 by decide), h4, ← ht]; rfl
 rw [ht]
 clear h ht
 go_enter Tryz.func160, Tryz.ntmps160
 go_wp2_with fail
 first | go_ret | go_ret2
 exact ⟨rfl, rfl⟩
theorem reason_c (w : World) (h : Inf w B D b R I M c q) : Calls Tryz.prog 159 #[.pointer (some ⟨D, 0, none⟩)] w fun e w' => e = .returned (.int .i64 (whyM q c : Nat)) ∧ w = w' := by
 obtain ⟨t, ht⟩ : ∃ t, whyM q c = t := ⟨_, rfl⟩
 have c3 : w.cell? ⟨D, 354, none⟩ = some (.int .i64 (t : Int)) := by
  have h2 := h.2
  cases q using Md.el with
  | wait x => obtain ⟨f, h3, _, _, h4, _⟩ := h2; rw [h3.mem.cell (show 354 < 355 by decide), h4, ← ht]; rfl
  | want => obtain ⟨f, h3⟩ := h2; rw [h3.is_.mem.cell (show 354 < 355 by decide), h3.op.why, ← ht]; rfl
  | over =>
   obtain ⟨f, h3⟩ := h2
   obtain ⟨hh, l, s⟩ := h3.mem
   rw [s.cell (show 354 < 355 by decide), ← ht]
   rcases h3.how with ⟨e, h4, h5⟩ | ⟨y, e, h4, h5, h6⟩
   ·rw [h5]; unfold whyM whyC; rw [e]; rfl
   ·rw [h5]; unfold whyM whyC; rw [e]
  | shut => obtain ⟨f, hh, l, s, _, _, h4, _⟩ := h2; rw [s.cell (show 354 < 355 by decide), h4, ← ht]; rfl
 rw [ht]
 clear h ht
 go_enter Tryz.func159, Tryz.ntmps159
 go_wp2_with fail
 first | go_ret | go_ret2
 exact ⟨rfl, rfl⟩
end
end Go.Proofs.YtpihipbeagpgpaaGreatDoor

/-
 What Put, Next and New of the inflater come to.
-/
namespace Go.Proofs.YtpihipbeagpgpaaGreatDoor
open Go.RowKit
set_option linter.unusedVariables false
theorem allb_one (x : Nat) : allb [x] = bitsOf 8 x := by simp [allb]
section
variable {B D b R : Nat} {I : List Nat} {M : Nat} {c : Cfg}
def Goes (B D b R : Nat) (I : List Nat) (M : Nat) (c : Cfg) (w' : World) : Prop := ∃ c', Runs (allb I) M c c' ∧ ((∃ x, Inf w' B D b R I M c' (.wait x) ∧ c'.out = c.out ++ [x]) ∨ (Inf w' B D b R I M c' .over ∧ c'.out = c.out) ∨ (Inf w' B D b R I M c' .want ∧ c'.out = c.out))
set_option maxHeartbeats 1000000 in
theorem put_open (x : Nat) (hx : x < 256) (w : World) (h : Inf w B D b R I M c .want) (hm : c.out.length < M) : Calls Tryz.prog 157 #[.pointer (some ⟨D, 0, none⟩), .int .u8 (x : Int)] w fun e w' => e = .returned (.bool true) ∧ Fm B w w' ∧ Goes B D b R (I ++ [x]) M c w' := by
 have ho := popen_c w h true (Or.inl ⟨rfl, rfl⟩)
 obtain ⟨hr, f, h3⟩ := id h
 have hmem := h3.is_.mem
 have hle := h3.is_.le
 have hfew := h3.few
 have hlen : ((allb I).drop (ep c)).length ≤ 56 := by rw [List.length_drop]; omega
 have hput := put_yes b (nm ((allb I).drop (ep c))) ((allb I).drop (ep c)).length x w hmem.br hlen hx
 have hbits : nm ((allb I).drop (ep c)) + x * 2 ^ ((allb I).drop (ep c)).length = nm ((allb (I ++ [x])).drop (ep c)) ∧ ((allb I).drop (ep c)).length + 8 = ((allb (I ++ [x])).drop (ep c)).length := by
  rw [allb_append, List.drop_append_of_le_length hle, allb_one, nm_append, nm_byte x hx, List.length_append, bitsOf_length]
  exact ⟨rfl, rfl⟩
 rw [hbits.1, hbits.2] at hput
 have c0' := (hmem.cell (show 0 < 355 by decide)).trans (congrArg some hmem.c0)
 have hr2 : Runs (allb (I ++ [x])) M c0 c := runs_agree hr (by rw [allb_append]; exact Agree.append _ _ (runs_ends hr (Nat.zero_le _)))
 have hbd : Bd c.st := hr.bd trivial
 have A : Aside (Wt w B D b R f (allb I) M c ∧ Runs (allb (I ++ [x])) M c0 c ∧ Bd c.st ∧ c.out.length < M) := ⟨h3, hr2, hbd, hm⟩
 clear h hr h3 hmem hle hfew hlen hbits hr2 hbd hm
 go_enter Tryz.func157, Tryz.ntmps157
 go_upto_region 4 with (first
  | (go_at_call 164; refine ho.mono ?_; rintro e2 w2 ⟨rfl, rfl⟩)
  | (go_at_call 165; refine hput.mono ?_; rintro e3 w3 ⟨rfl, hb3, ho3⟩))
 have a := A.out
 have hf3 : Fm B w w3 := Fm.of_only ho3 (by have := a.1.is_.mem.eb; omega) (by have := a.1.is_.mem.eb; omega)
 have is3 : Is w3 B D b R f (allb (I ++ [x])) c := ⟨a.1.is_.mem.onb ho3 hb3, a.1.is_.at_.mono hf3 (fun _ _ _ _ _ => rfl), a.1.is_.fx.fm hf3 rfl rfl, a.1.is_.tabs.below (hf3.below (by have := a.1.is_.mem.lt; omega)) a.1.is_.b7, by have := a.1.is_.le; rw [allb_append, List.length_append]; omega, a.1.is_.b7⟩
 have hrun := prun_c (most := M) w3 is3 a.1.op a.2.2.2 (allb_len8 _) a.2.2.1
 have A3 : Aside (Fm B w w3) := hf3
 clear a hf3 is3 hb3 ho3 hput ho c0'
 go_wp2_with (go_at_call 166; refine hrun.mono ?_; rintro e4 w4 ⟨rfl, hf4, hto⟩)
 first | go_ret | go_ret2
 exact ⟨rfl, A3.out.trans hf4, hto.inf A.out.2.1⟩
theorem next_no {q : Md} (w : World) (h : Inf w B D b R I M c q) (hq : ∀ x, q ≠ .wait x) : Calls Tryz.prog 158 #[.pointer (some ⟨D, 0, none⟩)] w fun e w' => e = .returned (.tuple #[.int .u8 0, .bool false]) ∧ w = w' := by
 have c1 : w.cell? ⟨D, 352, none⟩ = some (.bool false) := by
  have h2 := h.2
  cases q using Md.el with
  | wait x => exact absurd rfl (hq x)
  | want => obtain ⟨f, h3⟩ := h2; exact (h3.is_.mem.cell (show 352 < 355 by decide)).trans (congrArg some h3.op.waits)
  | over => obtain ⟨f, h3⟩ := h2; obtain ⟨hh, l, s⟩ := h3.mem; exact (s.cell (show 352 < 355 by decide)).trans (congrArg some h3.waits)
  | shut => obtain ⟨f, hh, l, s, h4, _⟩ := h2; exact (s.cell (show 352 < 355 by decide)).trans (congrArg some h4)
 clear h hq
 go_enter Tryz.func158, Tryz.ntmps158
 go_wp2_with fail
 first | go_ret | go_ret2
 exact ⟨rfl, rfl⟩
set_option maxHeartbeats 1000000 in
theorem next_yes (x : Nat) (w : World) (h : Inf w B D b R I M c (.wait x)) (hm : c.out.length < M) : Calls Tryz.prog 158 #[.pointer (some ⟨D, 0, none⟩)] w fun e w' => e = .returned (.tuple #[.int .u8 (x : Int), .bool true]) ∧ Fm B w w' ∧ Goes B D b R I M c w' := by
 obtain ⟨hr, f, h3, h4, h5, h6, h7, _⟩ := id h
 have hmem := h3.mem
 have c1 := (hmem.cell (show 352 < 355 by decide)).trans (congrArg some h4)
 have c2 := (hmem.cell (show 351 < 355 by decide)).trans (congrArg some h7)
 have z1 := hmem.fz 352
 have z2 := hmem.fz 351
 have hs2 := (hmem.set 351 (.int .u8 0) (by decide)).set 352 (.bool false) (by decide)
 have hf2 : Fm B w ((w.setCell ⟨D, 351, none⟩ (.int .u8 0)).setCell ⟨D, 352, none⟩ (.bool false)) := hmem.fmD (((Only.refl D w).setCell 351 _).setCell 352 _)
 have is2 := h3.to hf2 hs2 (h3.at_.mono hf2 fun i _ hi _ _ => by rw [upd_ne _ _ (by omega), upd_ne _ _ (by omega)]) rfl rfl h3.le
 have hrun := prun_c (most := M) _ is2 ⟨upd_same _ _ _, (by rw [upd_ne _ _ (by decide), upd_ne _ _ (by decide)]; exact h5), (by rw [upd_ne _ _ (by decide), upd_ne _ _ (by decide)]; exact h6)⟩ hm (allb_len8 _) (hr.bd trivial)
 have A : Aside (Runs (allb I) M c0 c ∧ Fm B w ((w.setCell ⟨D, 351, none⟩ (.int .u8 0)).setCell ⟨D, 352, none⟩ (.bool false))) := ⟨hr, hf2⟩
 clear h hr h3 h4 h5 h6 h7 hmem hs2 hf2 is2 hm
 go_enter Tryz.func158, Tryz.ntmps158
 go_wp2_with (go_at_call 166; refine hrun.mono ?_; rintro e4 w4 ⟨rfl, hf4, hto⟩)
 first | go_ret | go_ret2
 exact ⟨rfl, A.out.2.trans hf4, hto.inf A.out.1⟩
theorem want_new {w : World} {f : Nat → Value} (hs : Bs w B D b R f [] []) (h2 : f 2 = fnv D 45) (h1 : f 352 = .bool false) (h3 : f 353 = .bool false) (h4 : f 354 = .int .i64 0) (hx : Fx w B f) (ht : Tabs w) (h7 : 8 ≤ B) : Inf w B D b R [] M c0 .want := by
 refine ⟨Runs.refl _, f, ⟨hs, h2, hx, ht, Nat.zero_le _, h7⟩, ⟨h1, h3, h4⟩, by decide, c0, Runs.refl _, rfl, rfl, fun y => by simp [c0], by simp [c0]⟩
end
theorem zc73 (b R : Nat) : (Tryz.zeroCells97.setIfInBounds 0 (.pointer (some ⟨b, 0, none⟩))).setIfInBounds 1 (.pointer (some ⟨R, 0, none⟩)) = cz (nf b R (.pointer none) (.pointer none)) := by kernel_rfl
set_option maxRecDepth 100000 in
set_option maxHeartbeats 1000000 in
theorem new_i (M : Nat) (w : World) (ht : Tabs w) : Calls Tryz.prog 30 #[] w fun e w' => e = .returned (.pointer (some ⟨w.heap.size + 3, 0, none⟩)) ∧ Inf w' w.heap.size (w.heap.size + 3) (w.heap.size + 2) (w.heap.size + 1) [] M c0 .want ∧ Below w.heap.size w w' := by
 have hring := gnew_r 32768 w (by decide) (by decide)
 have AT : Aside (Tabs w) := ht
 clear ht
 obtain ⟨B, hB⟩ : ∃ B, w.heap.size = B := ⟨_, rfl⟩
 rw [hB] at hring ⊢
 have AB : Aside (w.heap.size = B) := hB
 clear hB
 go_enter Tryz.func30, Tryz.ntmps30
 go_upto_region 2 with (go_at_call 43; refine hring.mono ?_; rintro e2 w2 ⟨rfl, hr2, hb2, hz2⟩)
 have hbits := new_b w2
 rw [hz2] at hbits
 have A2 : Aside (GRg w2 (B + 1) B 32768 [] ∧ Below B w w2 ∧ w2.heap.size = B + 2) := ⟨hr2, hb2, hz2⟩
 clear hr2 hb2 hz2 hring
 obtain ⟨cs, hcs⟩ : ∃ cs, cs = cz (nf (B + 2) (B + 1) (.pointer none) (.pointer none)) := ⟨_, rfl⟩
 have hz := zc73 (B + 2) (B + 1)
 rw [← hcs] at hz
 go_upto_region 3 with (go_at_call 44; refine hbits.mono ?_; rintro e3 w3 ⟨rfl, hb3, hbel3, hz3⟩)
 have a2 := A2.out
 obtain ⟨w4, hw4⟩ : ∃ w4, w3.alloc (.cells (cz (nf (B + 2) (B + 1) (.pointer none) (.pointer none))) 97) = w4 := ⟨_, rfl⟩
 have hk4 : Cells w4 (B + 2 + 1) (cz (nf (B + 2) (B + 1) (.pointer none) (.pointer none))) 97 := by
  rw [← hw4]
  have := Cells.new w3 (cz (nf (B + 2) (B + 1) (.pointer none) (.pointer none))) 97
  rwa [hz3] at this
 have bel4 : Below w3.heap.size w3 w4 := by rw [← hw4]; exact (Below.refl _ w3).alloc (Nat.le_refl _) _
 have s4 : Bs w4 B (B + 2 + 1) (B + 2) (B + 1) (nf (B + 2) (B + 1) (.pointer none) (.pointer none)) [] [] :=
  ⟨hk4, rfl, rfl, hb3.below bel4 (by omega), (a2.1.below hbel3 (by omega) (by omega)).below bel4 (by omega) (by omega), rfl, rfl, rfl⟩
 have belA : Below B w w4 := (a2.2.1.trans (hbel3.mono (by omega))).trans (bel4.mono (by omega))
 rw [hw4]
 obtain ⟨Dd, hDd⟩ : ∃ Dd, B + 2 + 1 = Dd := ⟨_, rfl⟩
 rw [hDd] at s4 hk4 ⊢
 have d2 := s4.cell (show 2 < 355 by decide)
 have z2 := s4.fz 2
 have e2 : nf (B + 2) (B + 1) (.pointer none) (.pointer none) 2 = .nilFunc := rfl
 rw [e2] at d2
 have A4 : Aside (Bs w4 B Dd (B + 2) (B + 1) (nf (B + 2) (B + 1) (.pointer none) (.pointer none)) [] [] ∧ Below B w w4 ∧ B + 2 + 1 = Dd) := ⟨s4, belA, hDd⟩
 clear a2 hw4 hk4 bel4 s4 belA hDd e2 hb3 hbel3 hz3 hbits hz hcs
 go_wp2_with fail
 first | go_ret | go_ret2
 have a := A4.out
 have hB := AB.out
 have ht := AT.out
 have h7 : 8 ≤ B := by have := ht.lt; omega
 have s5 := a.1.set 2 (fnv Dd 45) (by decide)
 have o5 : Only Dd w4 (w4.setCell ⟨Dd, 2, none⟩ (fnv Dd 45)) := (Only.refl Dd w4).setCell 2 _
 have b5 : Below B w (w4.setCell ⟨Dd, 2, none⟩ (fnv Dd 45)) := a.2.1.trans (o5.below (by omega))
 refine ⟨by rw [← a.2.2]; rfl, ?_, b5⟩
 have hD : B + 3 = Dd := a.2.2
 rw [hD]
 exact want_new s5 (upd_same _ _ _) rfl rfl rfl (Or.inl ⟨rfl, rfl⟩) (ht.below b5 h7) h7
end Go.Proofs.YtpihipbeagpgpaaGreatDoor

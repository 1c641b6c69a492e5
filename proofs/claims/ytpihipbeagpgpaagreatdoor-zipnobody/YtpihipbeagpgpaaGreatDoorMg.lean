/-
  Own texts of this seat, one behind the other: what each says stands ahead of it.
-/
import Derived.Test.YtpihipbeagpgpaaGreatDoorMf
import Derived.Laws.BitsAllLaws
/-
 What the steps of a copy come to: backMore, copied.
-/
namespace Go.Proofs.YtpihipbeagpgpaaGreatDoor
open Go.RowKit
set_option linter.unusedVariables false
theorem win_len (out : List Nat) : (win out).length = min out.length 32768 := by
 unfold win
 rw [glastN_length, iz_len]
theorem win_back {out : List Nat} {d : Nat} (h1 : 1 ≤ d) (h2 : d ≤ out.length) (h3 : d ≤ 32768) : (win out)[(win out).length - d]? = some ((out.getD (out.length - d) 0 : Nat) : Int) := by
 rw [win_len]
 unfold win glastN
 rw [List.getElem?_drop, iz_len]
 have e : out.length - 32768 + (min out.length 32768 - d) = out.length - d := by omega
 rw [e]
 unfold iz
 rw [List.getElem?_map, List.getElem?_eq_getElem (by omega), List.getD_eq_getElem?_getD, List.getElem?_eq_getElem (by omega)]
 rfl
section
variable {B D b R : Nat} {f : Nat → Value} {bs : List Bool} {most : Nat}
set_option maxHeartbeats 1000000 in
theorem backMore_s (w : World) {last : Bool} {lit di : List Nat} {n q pos : Nat} {out times : List Nat} (hI : Is w B D b R f bs ⟨.dext last lit di n q, pos, out, times⟩) (hO : Op f) : StepOk 136 B D b R bs most ⟨.dext last lit di n q, pos, out, times⟩ w := by
 obtain ⟨k2, k5, k6, k7, k8, k9, k10⟩ := id hI.at_
 have hle' : pos ≤ bs.length := hI.le
 have hm' : Bs w B D b R f (bs.drop pos) (win out) := hI.mem
 have c0 := (hm'.cell (show 0 < 355 by decide)).trans (congrArg some hm'.c0)
 have c8 := (hm'.cell (show 348 < 355 by decide)).trans (congrArg some k10)
 have t0 := hI.tabs.t3 q (by omega)
 have hl := pdmore_le q (by omega)
 obtain ⟨m, hm⟩ : ∃ m, dmore q = m := ⟨_, rfl⟩
 obtain ⟨mb, hmb⟩ : ∃ mb, dbase q = mb := ⟨_, rfl⟩
 rw [hm] at t0
 rw [hm, hmb] at hl
 have hqi : ((q : Int) < 30) = True := eq_true (by omega)
 have hqn : (q < 30) = True := eq_true (by omega)
 have hmw : IntKind.i64.wrap (m : Int) = (m : Int) := by rw [IntKind.wrap_i64]; omega
 have A : Aside (Is w B D b R f bs ⟨.dext last lit di n q, pos, out, times⟩ ∧ Op f ∧ pos ≤ bs.length) := ⟨hI, hO, hle'⟩
 have AK : Aside (f 2 = fnv D 136 ∧ f 5 = .bool last ∧ Tbl w B (f 6) lit ∧ Tbl w B (f 7) di ∧ f 350 = .int .i64 (n : Int)) := ⟨k2, k5, k6, k7, k8⟩
 have AM : Aside (dmore q = m ∧ dbase q = mb ∧ m ≤ 13 ∧ mb + 2 ^ m ≤ 32769 ∧ 1 ≤ mb ∧ f 348 = .int .i64 (q : Int)) := ⟨hm, hmb, hl.1, hl.2.1, hl.2.2, k10⟩
 have hkeep : Aside (∀ u h', Bs u B D b R f h' (win out) → Fm B w.drew u → u.cell? ⟨D, 0, none⟩ = some (.pointer (some ⟨b, 0, none⟩)) ∧ u.cell? ⟨D, 348, none⟩ = some (.int .i64 (q : Int)) ∧ u.cell? ⟨4, q, none⟩ = some (.int .u8 (m : Int))) := fun u h' hb hf => by
  refine ⟨(hb.cell (show 0 < 355 by decide)).trans (congrArg some hb.c0), (hb.cell (show 348 < 355 by decide)).trans (congrArg some k10), ?_⟩
  have := (hI.tabs.below ((show Fm B w u from ⟨hf.os, hf.tape, hf.output, hf.size, hf.block⟩).below (by have := hm'.lt; omega)) hI.b7).t3 q (by omega)
  rw [hm] at this
  exact this
 unfold StepOk
 by_cases hshort : (bs.drop pos).length < m
 ·have htake := take_short m w.drew hm'.drew hshort
  have AS : Aside ((bs.drop pos).length < m) := hshort
  clear hI hO hle' hm' k2 k5 k6 k7 k8 k9 k10 hm hmb hl hshort
  go_enter Tryz.func136, Tryz.ntmps136
  go_upto_region 1 with fail
  go_region_held3 (fun u => u.cell? ⟨D, 0, none⟩ = some (.pointer (some ⟨b, 0, none⟩)) ∧ u.cell? ⟨D, 348, none⟩ = some (.int .i64 (q : Int)) ∧ u.cell? ⟨4, q, none⟩ = some (.int .u8 (m : Int))) (first | assumption | exact ⟨c0, c8, t0⟩)
   (first | (go_at_call 58; refine htake.mono ?_; rintro e2 w2 ⟨rfl, rfl⟩))
  all_goals
   go_wp2_with fail
   first | go_ret | go_ret2
   have a := A.out
   have am := AM.out
   have sh := AS.out
   rw [List.length_drop] at sh
   refine ⟨false, rfl, (Fm.refl B w).drew, Res.want (a.1.same (Fm.refl B w).drew a.1.mem.drew) a.2.1 ?_ ?_ (fun y => by simp) (by simp)⟩
   ·show bs.length < pos + 32
    omega
   ·unfold step
    simp only [am.1]
    rw [num_no (by omega)]; rfl
 ·obtain ⟨v, hv⟩ : ∃ v, nm ((bs.drop pos).take m) = v := ⟨_, rfl⟩
  have hvlt : v < 2 ^ m := by rw [← hv]; exact nm_take_lt _ _
  have htake := take_at m w.drew hm'.drew (by omega) (by omega) v hv
  have AS : Aside (pos + m ≤ bs.length ∧ nm ((bs.drop pos).take m) = v ∧ mb + v ≤ 32768) := ⟨by rw [List.length_drop] at hshort; omega, hv, by omega⟩
  obtain ⟨dd, hdd⟩ : ∃ dd, mb + v = dd := ⟨_, rfl⟩
  have hmbI : (mb : Int) + (v : Int) = (dd : Int) := by omega
  have g1 : mb < 9223372036854775808 := by omega
  have g2 : v < 9223372036854775808 := by omega
  have g3 : dd < 9223372036854775808 := by omega
  have AB7 : Aside (B ≤ w.heap.size) := (show B ≤ w.heap.size by have := hm'.lt; omega)
  have hq30 : q < 30 := by omega
  have hf0 : Aside (∀ u, Fm B w.drew u → u.cell? ⟨5, q, none⟩ = some (.int .u16 (mb : Int))) := fun u hf => by
   have := (hI.tabs.below (hf.of_drew.below AB7.out) hI.b7).t4 q hq30
   rw [hmb] at this
   exact this
  have hwr : wrap64 ((mb : Int) + (v : Int)) = (dd : Int) := by rw [hmbI]; exact w64_cast g3
  have hw1 : wrap64 (mb : Int) = (mb : Int) := w64_cast g1
  have hw2 : wrap64 (v : Int) = (v : Int) := w64_cast g2
  have hw3 : wrap64 (dd : Int) = (dd : Int) := w64_cast g3
  clear g1 g2 g3 hq30
  have ADD : Aside (mb + v = dd) := hdd
  clear hI hO hle' hm' k2 k5 k6 k7 k8 k9 k10 hm hmb hl hshort hvlt hv hdd
  go_enter Tryz.func136, Tryz.ntmps136
  go_upto_region 1 with fail
  go_region_held3 (fun u => u.cell? ⟨D, 0, none⟩ = some (.pointer (some ⟨b, 0, none⟩)) ∧ u.cell? ⟨D, 348, none⟩ = some (.int .i64 (q : Int)) ∧ u.cell? ⟨4, q, none⟩ = some (.int .u8 (m : Int))) (first | assumption | exact ⟨c0, c8, t0⟩ | exact hkeep.out _ _ hb2 hf2)
   (first | (go_at_call 58; refine htake.mono ?_; rintro e2 w2 ⟨rfl, hb2, hf2⟩))
  all_goals
   have d0 := hf0.out _ hf2
   have d8 := (hkeep.out _ _ hb2 hf2).2.1
   have d9 := hb2.cell (show 349 < 355 by decide)
   have z9 := hb2.fz 349
   have hs4 := hb2.set 349 (.int .i64 (dd : Int)) (by decide)
   have hf4 : Aside (Fm B w (w2.setCell ⟨D, 349, none⟩ (.int .i64 (dd : Int)))) := hf2.of_drew.trans (hb2.fmD ((Only.refl D w2).setCell 349 _))
   clear c0 c8 t0 htake
   go_upto_region 5 with fail
   obtain ⟨w4, hw4⟩ : ∃ w4, w2.setCell ⟨D, 349, none⟩ (.int .i64 (dd : Int)) = w4 := ⟨_, rfl⟩
   rw [hw4] at hs4 hf4 ⊢
   have e1 := (hs4.cell (show 1 < 355 by decide)).trans (congrArg some hs4.c1)
   have e9 := hs4.cell (show 349 < 355 by decide)
   rw [upd_same] at e9
   have hlen : ∀ n, Calls Tryz.prog 145 #[.pointer (some ⟨R, 0, none⟩)] (w4.drewN n) fun e w' => e = .returned (.int .i64 ((win out).length : Int)) ∧ w' = w4.drewN n := fun n => (glen_r (w4.drewN n) (hs4.drewN n).rg).mono fun e w' h => ⟨h.1, h.2.symm⟩
   obtain ⟨LL, hLL⟩ : ∃ LL, (win out).length = LL := ⟨_, rfl⟩
   rw [hLL] at hlen
   have ALL : Aside ((win out).length = LL ∧ Bs w4 B D b R (upd f 349 (.int .i64 (dd : Int))) ((bs.drop pos).drop m) (win out)) := ⟨hLL, hs4⟩
   clear hLL hs4 hw4 d0 d8 d9 z9 hb2 hf2 hmbI hwr hw1 hw2 hw3
   by_cases hfar : LL < dd
   ·have hfi : ((LL : Int) < (dd : Int)) = True := eq_true (by omega)
    have hfn : (LL < dd) = True := eq_true hfar
    have AF : Aside (LL < dd) := hfar
    clear hfar
    go_quiet (first | (go_at_call 145; refine Calls.quiet_of_same (hlen _)))
    have hst := pstop_c 14 _ (ALL.out.2.drewN nq)
    go_wp2_with (go_at_call 65; refine hst.mono ?_; rintro e3 w3 ⟨rfl, hb3, hf3⟩)
    first | go_ret | go_ret2
    have a := A.out
    have am := AM.out
    have sh := AS.out
    have hf : Fm B w w3 := (hf4.out.drewN nq).trans hf3
    refine ⟨false, rfl, hf, Res.over (c' := ⟨.bad 14, pos + m, out, times⟩) (Runs.one ?_) (a.1.bad a.2.1 hf hb3 14 (by decide) rfl rfl rfl rfl rfl rfl) rfl⟩
    unfold step
    simp only [am.1, am.2.1]
    rw [pnum_at sh.1, sh.2.1]
    have h1 := ALL.out.1
    rw [win_len] at h1
    have h2 := AF.out
    have h3 := ADD.out
    simp only [Option.map_some]
    rw [if_pos (by omega)]
   ·have hfi : ((LL : Int) < (dd : Int)) = False := eq_false (by omega)
    have hfn : (LL < dd) = False := eq_false hfar
    have AF : Aside (¬ LL < dd) := hfar
    clear hfar
    go_quiet (first | (go_at_call 145; refine Calls.quiet_of_same (hlen _)))
    have hst := pthen_c 146 _ (ALL.out.2.drewN nq)
    go_wp2_with (go_at_call 60; refine hst.mono ?_; rintro e3 w3 ⟨rfl, hb3, hf3⟩)
    first | go_ret | go_ret2
    have a := A.out
    have am := AM.out
    have sh := AS.out
    have hf : Fm B w w3 := (hf4.out.drewN nq).trans hf3
    have h1 := ALL.out.1
    rw [win_len] at h1
    have h2 := AF.out
    have h3 := ADD.out
    rw [List.drop_drop] at hb3
    refine ⟨true, rfl, hf, Res.next (c' := ⟨.copy last lit di n dd, pos + m, out, times⟩) (Runs.one ?_) (a.1.to hf hb3 ⟨rfl, AK.out.2.1, AK.out.2.2.1.fm hf, AK.out.2.2.2.1.fm hf, AK.out.2.2.2.2, rfl, by omega, (show dd ≤ out.length by omega), by omega⟩ rfl rfl sh.1) (a.2.1.to rfl rfl rfl) rfl ?_⟩
    ·unfold step
     simp only [am.1, am.2.1]
     rw [pnum_at sh.1, sh.2.1]
     simp only [Option.map_some]
     rw [if_neg (by omega), h3]
    ·unfold mu rk
     simp only []
     omega
set_option maxHeartbeats 1000000 in
theorem copied_s (w : World) {last : Bool} {lit di : List Nat} {n d pos : Nat} {out times : List Nat} (hI : Is w B D b R f bs ⟨.copy last lit di n d, pos, out, times⟩) (hO : Op f) (hm : out.length < most) (hnb : n < 65536) : StepOk 146 B D b R bs most ⟨.copy last lit di n d, pos, out, times⟩ w := by
 obtain ⟨k2, k5, k6, k7, k8, k9, k10, k11, k12⟩ := id hI.at_
 have hle' : pos ≤ bs.length := hI.le
 have hm' : Bs w B D b R f (bs.drop pos) (win out) := hI.mem
 have c8 := (hm'.cell (show 350 < 355 by decide)).trans (congrArg some k8)
 have A : Aside (Is w B D b R f bs ⟨.copy last lit di n d, pos, out, times⟩ ∧ Op f ∧ pos ≤ bs.length ∧ out.length < most) := ⟨hI, hO, hle', hm⟩
 have AK : Aside (f 2 = fnv D 146 ∧ f 5 = .bool last ∧ Tbl w B (f 6) lit ∧ Tbl w B (f 7) di ∧ 1 ≤ d ∧ d ≤ out.length ∧ d ≤ 32768 ∧ f 349 = .int .i64 (d : Int)) := ⟨k2, k5, k6, k7, k10, k11, k12, k9⟩
 unfold StepOk
 cases n with
 | zero =>
  have hst := pthen_c 63 _ hm'
  have c8' : w.cell? ⟨D, 350, none⟩ = some (.int .i64 0) := c8
  clear hI hO hle' hm' k2 k5 k6 k7 k8 k9 k10 k11 k12 hm hnb c8
  go_enter Tryz.func146, Tryz.ntmps146
  go_wp2_with (go_at_call 60; refine hst.mono ?_; rintro e3 w3 ⟨rfl, hb3, hf3⟩)
  first | go_ret | go_ret2
  have a := A.out
  refine ⟨true, rfl, hf3, Res.next (c' := ⟨.sym last lit di, pos, out, times⟩) (Runs.one rfl) (a.1.to hf3 hb3 ⟨rfl, AK.out.2.1, AK.out.2.2.1.fm hf3, AK.out.2.2.2.1.fm hf3⟩ rfl rfl a.2.2.1) (a.2.1.to rfl rfl rfl) rfl ?_⟩
  unfold mu rk
  simp only []
  omega
 | succ n =>
  have z8 := hm'.fz 350
  have hs4 := hm'.set 350 (.int .i64 (n : Int)) (by decide)
  have hf4 : Aside (Fm B w (w.setCell ⟨D, 350, none⟩ (.int .i64 (n : Int)))) := hm'.fmD ((Only.refl D w).setCell 350 _)
  have hne : (((n + 1 : Nat) : Int) == 0) = false := by rw [beq_eq_false_iff_ne]; omega
  obtain ⟨n1, hn1⟩ : ∃ n1, n + 1 = n1 := ⟨_, rfl⟩
  rw [hn1] at c8 hne hnb
  have hsub : (n1 : Int) - 1 = (n : Int) := by omega
  have hnw : n < 9223372036854775808 := by omega
  have hw : wrap64 (n : Int) = (n : Int) := w64_cast hnw
  clear hI hO hle' hm' k2 k5 k6 k7 k8 k9 k10 k11 k12 hm hnb hn1 hnw
  go_enter Tryz.func146, Tryz.ntmps146
  go_upto_region 4 with fail
  obtain ⟨w4, hw4⟩ : ∃ w4, w.setCell ⟨D, 350, none⟩ (.int .i64 (n : Int)) = w4 := ⟨_, rfl⟩
  rw [hw4] at hs4 hf4 ⊢
  have e1 := (hs4.cell (show 1 < 355 by decide)).trans (congrArg some hs4.c1)
  have e9 := hs4.cell (show 349 < 355 by decide)
  rw [upd_ne _ _ (show 349 ≠ 350 by decide), AK.out.2.2.2.2.2.2.2] at e9
  obtain ⟨z, hz⟩ : ∃ z, out.getD (out.length - d) 0 = z := ⟨_, rfl⟩
  have hback : ∀ n, Calls Tryz.prog 152 #[.pointer (some ⟨R, 0, none⟩), .int .i64 (d : Int)] (w4.drewN n) fun e w' => e = .returned (.tuple #[.int .u8 (z : Int), .bool true]) ∧ ∃ m, w' = (w4.drewN n).drewN m := fun n => by
   have k := AK.out
   clear hw hsub
   refine gback_r d (z : Int) (w4.drewN n) (hs4.drewN n).rg k.2.2.2.2.1 ?_ ?_
   ·rw [win_len]; omega
   ·rw [win_back k.2.2.2.2.1 k.2.2.2.2.2.1 k.2.2.2.2.2.2.1, hz]
  have AS : Aside (Bs w4 B D b R (upd f 350 (.int .i64 (n : Int))) (bs.drop pos) (win out) ∧ out.getD (out.length - d) 0 = z) := ⟨hs4, hz⟩
  clear hs4 hw4 hz c8 z8 hne hw hsub
  go_quiet (first | (go_at_call 152; refine Calls.quiet_of (hback _)))
  have hst := pgive_c (z : Int) _ (AS.out.1.drewN nq)
  go_wp2_with (go_at_call 90; refine hst.mono ?_; rintro e3 w3 ⟨rfl, hb3, hf3⟩)
  first | go_ret | go_ret2
  have a := A.out
  have k := AK.out
  have hf : Fm B w w3 := (hf4.out.drewN nq).trans hf3
  rw [win_put] at hb3
  refine ⟨false, rfl, hf, Res.gave (c' := ⟨.copy last lit di n d, pos, out ++ [z], times ++ [(pos - 1) / 8]⟩) (Runs.one ?_) (a.1.to hf hb3 ⟨k.1, k.2.1, k.2.2.1.fm hf, k.2.2.2.1.fm hf, rfl, k.2.2.2.2.2.2.2, k.2.2.2.2.1, ?_, k.2.2.2.2.2.2.1⟩ rfl rfl a.2.2.1) rfl a.2.1.done a.2.1.why z rfl rfl⟩
  ·unfold step
   simp only [AS.out.2]
   rw [give_lt a.2.2.2]
  ·show d ≤ (out ++ [z]).length
   rw [List.length_append]
   have := k.2.2.2.2.2.1
   omega
end
end Go.Proofs.YtpihipbeagpgpaaGreatDoor

/-
  What fixedCodes comes to: the codes of fixed blocks, made once.
-/
namespace Go.Proofs.YtpihipbeagpgpaaGreatDoor
open Go.RowKit
set_option linter.unusedVariables false
def vi (l : List Int) : List Value := l.map (Value.int .i64)
theorem vi_set (l : List Int) (i : Nat) (z : Int) : (vi l).toArray.setIfInBounds i (.int .i64 z) = (vi (l.set i z)).toArray := by simp [vi, List.map_set]
theorem Cells.int {w : World} {g : Nat} {l : List Int} (h : Cells w g (vi l).toArray 3) {i : Nat} {z : Int} (hi : l[i]? = some z) : w.cell? ⟨g, i, none⟩ = some (.int .i64 z) := by
  rw [h.cell i, List.getElem?_toArray]
  unfold vi
  rw [List.getElem?_map, hi]
  rfl
theorem Cells.lens {w : World} {g : Nat} {l zs : List Int} (h : Cells w g (vi l).toArray 3) (hz : ∀ (i : Nat) (z : Int), zs[i]? = some z → l[i]? = some z) : Lens w (some ⟨g, 0, none⟩) zs :=
  Or.inr ⟨g, 0, rfl, fun i z hi => by rw [Nat.zero_add]; exact h.int (hz i z hi)⟩
theorem info3 : (Tryz.prog.info? 3).map (fun i => (i.zero, i.size, i.bytes)) = some (some (.int .i64 0), 1, 8) := by kernel_rfl
theorem madei (n : Nat) (hn : n ≤ 1048576) (w : World) : (Instr.makeSlice 105 (.int .i64 (n : Int)) (.int .i64 (n : Int))).run Tryz.prog w = .ok (.slice (some ⟨w.heap.size, 0, none⟩) n n) (w.alloc (.cells (vi (List.replicate n 0)).toArray 3)) := by
  obtain ⟨i, hi, hz, hs, hb⟩ := ginfo_parts info3
  have := run_make (P := Tryz.prog) w 105 3 i _ Tryz.underlying105 hi hz .i64 .i64 n n (by omega) (by omega) (by rw [hb]; omega) (by omega)
  rw [this, hs]
  have e : madeCells (Value.int .i64 0).cells ((n : Int).toNat * 1) = (vi (List.replicate n 0)).toArray := by
    apply Array.toList_inj.1
    show (madeCells #[Value.int .i64 0] _).toList = _
    rw [toList_madeCells_one]
    simp [vi]
  rw [e]
  simp
theorem fixedLength_c (s : Nat) (hs : s < 288) (w : World) : Calls Tryz.prog 87 #[.int .i64 (s : Int)] w fun e w' => e = .returned (.int .i64 (fixL.getD s 0 : Nat)) ∧ w = w' := by
  have hv : fixL.getD s 0 = if 256 ≤ s ∧ s < 280 then 7 else if 144 ≤ s ∧ s < 256 then 9 else 8 := by
    unfold fixL
    rw [List.getD_eq_getElem?_getD, List.getElem?_map, List.getElem?_range hs]
    rfl
  rw [hv]
  clear hv
  by_cases h1 : s < 144
  · rw [if_neg (by omega), if_neg (by omega)]
    have e1 : ((s : Int) < 144) = True := eq_true (by omega)
    clear hs h1
    go_enter Tryz.func87, Tryz.ntmps87
    go_wp2_with fail
    first | go_ret | go_ret2
    exact ⟨rfl, rfl⟩
  · by_cases h2 : s < 256
    · rw [if_neg (by omega), if_pos (by omega)]
      have e1 : ((s : Int) < 144) = False := eq_false (by omega)
      have e2 : ((s : Int) < 256) = True := eq_true (by omega)
      clear hs h1 h2
      go_enter Tryz.func87, Tryz.ntmps87
      go_wp2_with fail
      first | go_ret | go_ret2
      exact ⟨rfl, rfl⟩
    · by_cases h3 : s < 280
      · rw [if_pos (by omega)]
        have e1 : ((s : Int) < 144) = False := eq_false (by omega)
        have e2 : ((s : Int) < 256) = False := eq_false (by omega)
        have e3 : ((s : Int) < 280) = True := eq_true (by omega)
        clear hs h1 h2 h3
        go_enter Tryz.func87, Tryz.ntmps87
        go_wp2_with fail
        first | go_ret | go_ret2
        exact ⟨rfl, rfl⟩
      · rw [if_neg (by omega), if_neg (by omega)]
        have e1 : ((s : Int) < 144) = False := eq_false (by omega)
        have e2 : ((s : Int) < 256) = False := eq_false (by omega)
        have e3 : ((s : Int) < 280) = False := eq_false (by omega)
        clear hs h1 h2 h3
        go_enter Tryz.func87, Tryz.ntmps87
        go_wp2_with fail
        first | go_ret | go_ret2
        exact ⟨rfl, rfl⟩
theorem size67 : (Tryz.prog.info? 91).map (·.size) = some 2 := by kernel_rfl
section
variable {B D b R : Nat} {f : Nat → Value} {h : List Bool} {l : List Int}
def FixTo (B D b R : Nat) (f : Nat → Value) (h : List Bool) (l : List Int) (w : World) (e : Ending) (w' : World) : Prop :=
  ∃ v3 v4 f', e = .returned (.agg #[v3, v4]) ∧ Bs w' B D b R f' h l ∧ Fm B w w' ∧ f' 3 = v3 ∧ f' 4 = v4 ∧ (∀ i, i ≠ 3 → i ≠ 4 → f' i = f i) ∧ Tbl w' B v3 fixL ∧ Tbl w' B v4 fixD
set_option maxHeartbeats 1000000 in
theorem fixed_had (w : World) (s : Bs w B D b R f h l) (t3 : Tbl w B (f 3) fixL) (t4 : Tbl w B (f 4) fixD) : Calls Tryz.prog 62 #[.pointer (some ⟨D, 0, none⟩)] w fun e w' => FixTo B D b R f h l w e w' := by
  obtain ⟨lo, hi, T, e3, _⟩ := id t3
  obtain ⟨lo4, hi4, T4, e4, _⟩ := id t4
  obtain ⟨w1, hw1⟩ : ∃ w1, w1 = w.alloc (.cells #[.pointer none, .pointer none] 91) := ⟨_, rfl⟩
  have b1 : Below w.heap.size w w1 := by rw [hw1]; exact (Below.refl _ w).alloc (Nat.le_refl _) _
  have s1 := s.below b1 (Nat.le_refl _)
  have c3 := (s1.cell (show 3 < 355 by decide)).trans (congrArg some e3)
  have c4 := s1.cell (show 4 < 355 by decide)
  have k0 : Cells w1 w.heap.size #[.pointer none, .pointer none] 91 := by rw [hw1]; exact Cells.new w _ 91
  obtain ⟨H, hH⟩ : ∃ H, w.heap.size = H := ⟨_, rfl⟩
  rw [hH] at k0
  have r0 := k0.cell 0
  have r1 := k0.cell 1
  have q0 := k0.frozen 0
  have q1 := k0.frozen 1
  simp only [List.getElem?_toArray, List.getElem?_cons_zero, List.getElem?_cons_succ] at r0 r1
  have A : Aside (Bs w B D b R f h l ∧ Below w.heap.size w w1 ∧ Tbl w B (f 3) fixL ∧ Tbl w B (f 4) fixD ∧ f 3 = .pointer (some ⟨T, 0, none⟩) ∧ Bs w1 B D b R f h l ∧ Cells w1 H #[.pointer none, .pointer none] 91 ∧ w.heap.size = H) := ⟨s, b1, t3, t4, e3, s1, k0, hH⟩
  clear s t3 t4 e3 b1 s1 k0
  obtain ⟨v4, hv4⟩ : ∃ v, v = Value.pointer (some ⟨T4, 0, none⟩) := ⟨_, rfl⟩
  have AV : Aside (f 4 = v4) := e4.trans hv4.symm
  rw [e4] at c4
  subst hv4
  clear e4
  go_enter Tryz.func62, Tryz.ntmps62
  go_upto_region 1 with fail
  rw [← hw1]
  clear hw1 hH
  go_wp2_with fail
  obtain ⟨v4, hv4⟩ : ∃ v, v = Value.pointer (some ⟨T4, 0, none⟩) := ⟨_, rfl⟩
  rw [← hv4] at AV ⊢
  have a := A.out
  have k2 : Cells ((w1.setCell ⟨H, 0, none⟩ (.pointer (some ⟨T, 0, none⟩))).setCell ⟨H, 1, none⟩ v4) H #[.pointer (some ⟨T, 0, none⟩), v4] 91 := (a.2.2.2.2.2.2.1.set 0 (.pointer (some ⟨T, 0, none⟩))).set 1 v4
  have hb : Below w.heap.size w ((w1.setCell ⟨H, 0, none⟩ (.pointer (some ⟨T, 0, none⟩))).setCell ⟨H, 1, none⟩ v4) := a.2.1.trans ((((Only.refl H w1).setCell 0 _).setCell 1 _).below (by omega))
  (try simp only [Exit.inBlock, Exit.then])
  refine bodyPost_ret (v := .agg #[.pointer (some ⟨T, 0, none⟩), v4]) ?_ rfl ?_
  · exact results_cell_row rfl _ _ H 91 _ (0, 0) _ rfl k2 Tryz.underlying91 rfl size67
  · refine ⟨_, v4, f, rfl, a.1.below hb (Nat.le_refl _), Fm.of_below hb (Nat.le_refl _), a.2.2.2.2.1, AV.out, fun _ _ _ => rfl, ?_, ?_⟩
    · have := a.2.2.1.fm (Fm.of_below (B := B) hb (Nat.le_refl _)); rwa [a.2.2.2.2.1] at this
    · have := a.2.2.2.1.fm (Fm.of_below (B := B) hb (Nat.le_refl _)); rwa [AV.out] at this
set_option maxRecDepth 100000 in
set_option maxHeartbeats 2000000 in
theorem fixed_make (w : World) (s : Bs w B D b R f h l) (e3 : f 3 = .pointer none) : Calls Tryz.prog 62 #[.pointer (some ⟨D, 0, none⟩)] w fun e w' => FixTo B D b R f h l w e w' := by
  obtain ⟨w1, hw1⟩ : ∃ w1, w1 = w.alloc (.cells #[.pointer none, .pointer none] 91) := ⟨_, rfl⟩
  have b1 : Below w.heap.size w w1 := by rw [hw1]; exact (Below.refl _ w).alloc (Nat.le_refl _) _
  have s1 := s.below b1 (Nat.le_refl _)
  have c3 := (s1.cell (show 3 < 355 by decide)).trans (congrArg some e3)
  have k0 : Cells w1 w.heap.size #[.pointer none, .pointer none] 91 := by rw [hw1]; exact Cells.new w _ 91
  have z1 : w1.heap.size = w.heap.size + 1 := by rw [hw1]; simp
  have hmk : (Instr.makeSlice 105 (.int .i64 288) (.int .i64 288)).run Tryz.prog w1 = .ok (.slice (some ⟨w1.heap.size, 0, none⟩) 288 288) (w1.alloc (.cells (vi (List.replicate 288 0)).toArray 3)) := madei 288 (by decide) w1
  obtain ⟨w2, hw2⟩ : ∃ w2, w2 = w1.alloc (.cells (vi (List.replicate 288 0)).toArray 3) := ⟨_, rfl⟩
  have b2 : Below w1.heap.size w1 w2 := by rw [hw2]; exact (Below.refl _ w1).alloc (Nat.le_refl _) _
  have k1 : Cells w2 w1.heap.size (vi (List.replicate 288 0)).toArray 3 := by rw [hw2]; exact Cells.new w1 _ 3
  rw [← hw2] at hmk
  have k0' := k0.below b2 (by omega)
  obtain ⟨g, hg⟩ : ∃ g, w1.heap.size = g := ⟨_, rfl⟩
  rw [hg] at hmk k1
  obtain ⟨H, hH⟩ : ∃ H, w.heap.size = H := ⟨_, rfl⟩
  have A : Aside (Bs w B D b R f h l ∧ Below w.heap.size w w2 ∧ Cells w2 H #[.pointer none, .pointer none] 91 ∧ Cells w2 g (vi (List.replicate 288 0)).toArray 3 ∧ w.heap.size = H ∧ g = H + 1 ∧ B + 4 ≤ H) := ⟨s, b1.trans (b2.mono b1.size), by rw [← hH]; exact k0', k1, hH, by omega, by have := s.lt; omega⟩
  clear s e3 b1 s1 k0 k0' b2 k1 z1 hg hw2
  go_enter Tryz.func62, Tryz.ntmps62
  go_upto_region 1 with fail
  rw [← hw1]
  clear hw1 hH
  go_wp2_with fail
  go_loopg [19] 288 (fun gg si wr => ∃ k : Nat, si = .int .i64 k ∧ Aside (k + gg = 288 ∧ Only g w2 wr ∧ ∃ l', Cells wr g (vi l').toArray 3 ∧ l'.length = 288 ∧ ∀ i, i < k → l'[i]? = some ((fixL.getD i 0 : Nat) : Int)))
  case atStart => exact ⟨0, rfl, by omega, Only.refl _ _, _, A.out.2.2.2.1, by simp, fun i hi => by omega⟩
  case round =>
    obtain ⟨k, rfl, hI⟩ := hrel
    obtain ⟨hkg, hon, l', hcl, hll, hfix⟩ := hI.out
    by_cases hk : k < 288
    · have hki : ((k : Int) < 288) = True := eq_true (by omega)
      have hkn : (k < 288) = True := eq_true hk
      have hkI : (k : Int) < 1000 := by omega
      have hc := fixedLength_c k hk wr
      obtain ⟨x, hx⟩ : ∃ x, fixL.getD k 0 = x := ⟨_, rfl⟩
      rw [hx] at hc
      obtain ⟨y0, hy0⟩ : ∃ y, l'[k]? = some y := ⟨_, List.getElem?_eq_getElem (show k < l'.length by omega)⟩
      have cc := hcl.int hy0
      have zz := hcl.frozen k
      have hnew := hcl.set k (.int .i64 (x : Int))
      rw [vi_set] at hnew
      have AN : Aside (k + gk = 288 ∧ Only g w2 (wr.setCell ⟨g, k, none⟩ (.int .i64 (x : Int))) ∧ Cells (wr.setCell ⟨g, k, none⟩ (.int .i64 (x : Int))) g (vi (l'.set k (x : Int))).toArray 3 ∧ l'.length = 288 ∧ (∀ i, i < k → l'[i]? = some ((fixL.getD i 0 : Nat) : Int)) ∧ fixL.getD k 0 = x ∧ k < 288) := ⟨hkg, hon.setCell k _, hnew, hll, hfix, hx, hk⟩
      clear hI hkg hon hcl hll hfix hnew hx hk hy0
      go_wp2_with (go_at_call 87; refine hc.mono ?_; rintro e5 w5 ⟨rfl, rfl⟩)
      have an := AN.out
      go_roundg (gk - 1)
      case measure => omega
      case rel =>
        refine ⟨k + 1, by go_num, by omega, an.2.1, _, an.2.2.1, by rw [List.length_set]; exact an.2.2.2.1, fun i hi => ?_⟩
        rcases (show i < k ∨ i = k by omega) with h1 | rfl
        · rw [List.getElem?_set_ne (by omega)]; exact an.2.2.2.2.1 i h1
        · rw [List.getElem?_set_self (by omega), an.2.2.2.2.2.1]
    · have hk1 : k = 288 := by omega
      subst hk1
      have hlens : Lens wr (some ⟨g, 0, none⟩) (iz fixL) := hcl.lens fun i z hz => by
        unfold iz at hz
        rw [List.getElem?_map] at hz
        have hi : i < 288 := by
          have := Option.isSome_map ▸ congrArg Option.isSome hz
          cases hq : fixL[i]? with
          | none => rw [hq] at hz; cases hz
          | some y => have := (List.getElem?_eq_some_iff.1 hq).1; rw [fixL_len] at this; exact this
        rw [hfix i hi, ← hz, List.getD_eq_getElem?_getD]
        cases hq : fixL[i]? with
        | none => rw [hq] at hz; cases hz
        | some y => rfl
      have hnew := new_yes (some ⟨g, 0, none⟩) (iz fixL) 288 288 wr hlens (by rw [iz_len]; exact fixL_len) (by decide) (mays_iff.1 mays_fixL)
      rw [lens_iz] at hnew
      have AW : Aside (Only g w2 wr ∧ Cells wr g (vi l').toArray 3 ∧ l'.length = 288) := ⟨hon, hcl, hll⟩
      clear hI hkg hon hcl hll hfix hlens hk
      have a := A.out
      have hs5 : ∀ u, Below wr.heap.size wr u → Bs u B D b R f h l := fun u hu => a.1.below (a.2.1.trans ((AW.out.1.below (show w.heap.size ≤ g by omega)).trans (hu.mono (by have := AW.out.1.size; have := a.2.1.size; omega)))) (Nat.le_refl _)
      have AH : Aside (∀ u, Below wr.heap.size wr u → Bs u B D b R f h l) := hs5
      clear a hs5
      go_upto_region 10 with (go_at_call 88; refine hnew.mono ?_; rintro e6 w6 ⟨T, rfl, hp6, hb6⟩
                              have s6 := AH.out w6 hb6
                              have d3 := s6.cell (show 3 < 355 by decide)
                              have q3 := s6.fz 3)
      have hl6 : wr.heap.size ≤ w6.heap.size := hb6.size
      have s7 := s6.set 3 (.pointer (some ⟨T, 0, none⟩)) (by decide)
      have o7 : Only D w6 (w6.setCell ⟨D, 3, none⟩ (.pointer (some ⟨T, 0, none⟩))) := (Only.refl D w6).setCell 3 _
      have hDB := s6.eD
      have a := A.out
      have a3 := AW.out
      have hgw : g < wr.heap.size := a3.2.1.lt
      have hHw : H < wr.heap.size := by omega
      have kg7 : Cells (w6.setCell ⟨D, 3, none⟩ (.pointer (some ⟨T, 0, none⟩))) g (vi l').toArray 3 := (a3.2.1.below hb6 hgw).only o7 (by omega)
      have kH7 : Cells (w6.setCell ⟨D, 3, none⟩ (.pointer (some ⟨T, 0, none⟩))) H #[.pointer none, .pointer none] 91 := ((a.2.2.1.only a3.1 (by omega)).below hb6 hHw).only o7 (by omega)
      have hp7 : PT (w6.setCell ⟨D, 3, none⟩ (.pointer (some ⟨T, 0, none⟩))) wr.heap.size w6.heap.size T fixL := hp6.keep fun k h1 h2 => o7.block k (by omega)
      have f7 : Fm B w (w6.setCell ⟨D, 3, none⟩ (.pointer (some ⟨T, 0, none⟩))) := (((Fm.of_below a.2.1 (Nat.le_refl _)).only a3.1 (by omega)).trans (Fm.of_below hb6 (Nat.le_refl _))).trans (s6.fmD o7)
      have z7 : (w6.setCell ⟨D, 3, none⟩ (.pointer (some ⟨T, 0, none⟩))).heap.size = w6.heap.size := o7.size
      obtain ⟨w7, hw7⟩ : ∃ w7, w7 = w6.setCell ⟨D, 3, none⟩ (.pointer (some ⟨T, 0, none⟩)) := ⟨_, rfl⟩
      rw [← hw7] at s7 kg7 kH7 hp7 f7 z7 ⊢
      obtain ⟨lo, hlo⟩ : ∃ lo, wr.heap.size = lo := ⟨_, rfl⟩
      obtain ⟨hi, hhi⟩ : ∃ hi, w6.heap.size = hi := ⟨_, rfl⟩
      rw [hlo] at hp7 hgw hHw hl6
      rw [hhi] at hp7 z7 hl6
      have A7 : Aside (Bs w7 B D b R (upd f 3 (.pointer (some ⟨T, 0, none⟩))) h l ∧ Cells w7 g (vi l').toArray 3 ∧ Cells w7 H #[.pointer none, .pointer none] 91 ∧ PT w7 lo hi T fixL ∧ Fm B w w7 ∧ w7.heap.size = hi ∧ l'.length = 288 ∧ g < lo ∧ H < lo ∧ lo ≤ hi ∧ w.heap.size = H ∧ g = H + 1 ∧ B + 4 ≤ H ∧ D = B + 3) := ⟨s7, kg7, kH7, hp7, f7, z7, a3.2.2, hgw, hHw, hl6, a.2.2.2.2.1, a.2.2.2.2.2.1, a.2.2.2.2.2.2, hDB⟩
      clear s7 kg7 kH7 hp7 f7 z7 hgw hHw hl6 hDB a a3 o7 s6 d3 q3 hw7 hlo hhi hp6 hb6 hnew AH AW c3 hmk
      go_wp2_with fail
      go_loopg [41] 32 (fun gg si wr => ∃ k : Nat, si = .int .i64 k ∧ Aside (k + gg = 32 ∧ Only g w7 wr ∧ ∃ l', Cells wr g (vi l').toArray 3 ∧ l'.length = 288 ∧ ∀ i, i < k → l'[i]? = some 5))
      case atStart => exact ⟨0, rfl, by omega, Only.refl _ _, _, A7.out.2.1, A7.out.2.2.2.2.2.2.1, fun i hi => by omega⟩
      case round =>
        obtain ⟨k, rfl, hI⟩ := hrel
        obtain ⟨hkg, hon, l', hcl, hll, hfix⟩ := hI.out
        by_cases hk : k < 32
        · have hki : ((k : Int) < 32) = True := eq_true (by omega)
          have hkn : (k < 32) = True := eq_true hk
          have hkI : (k : Int) < 1000 := by omega
          obtain ⟨y0, hy0⟩ : ∃ y, l'[k]? = some y := ⟨_, List.getElem?_eq_getElem (show k < l'.length by omega)⟩
          have cc := hcl.int hy0
          have zz := hcl.frozen k
          have hnew := hcl.set k (.int .i64 5)
          rw [vi_set] at hnew
          have AN : Aside (k + gk = 32 ∧ Only g w7 (wr.setCell ⟨g, k, none⟩ (.int .i64 5)) ∧ Cells (wr.setCell ⟨g, k, none⟩ (.int .i64 5)) g (vi (l'.set k 5)).toArray 3 ∧ l'.length = 288 ∧ (∀ i, i < k → l'[i]? = some 5) ∧ k < 32) := ⟨hkg, hon.setCell k _, hnew, hll, hfix, hk⟩
          clear hI hkg hon hcl hll hfix hnew hk hy0
          go_wp2_with fail
          have an := AN.out
          go_roundg (gk - 1)
          case measure => omega
          case rel =>
            refine ⟨k + 1, by go_num, by omega, an.2.1, _, an.2.2.1, by rw [List.length_set]; exact an.2.2.2.1, fun i hi => ?_⟩
            rcases (show i < k ∨ i = k by omega) with h1 | rfl
            · rw [List.getElem?_set_ne (by omega)]; exact an.2.2.2.2.1 i h1
            · rw [List.getElem?_set_self (by omega)]
        · have hk1 : k = 32 := by omega
          subst hk1
          have hlens : Lens wr (some ⟨g, 0, none⟩) (iz fixD) := hcl.lens fun i z hz => by
            unfold iz at hz
            rw [List.getElem?_map] at hz
            cases hq : fixD[i]? with
            | none => rw [hq] at hz; cases hz
            | some y =>
              have hi := (List.getElem?_eq_some_iff.1 hq).1
              rw [fixD_len] at hi
              rw [hfix i hi, ← hz, hq]
              have hy : y = 5 := List.eq_of_mem_replicate (List.mem_of_getElem? hq)
              rw [hy]
              rfl
          have hnew := new_yes (some ⟨g, 0, none⟩) (iz fixD) 32 288 wr hlens (by rw [iz_len]; exact fixD_len) (by decide) (mays_iff.1 mays_fixD)
          rw [lens_iz] at hnew
          have hs8 : ∀ u, Below wr.heap.size wr u → Bs u B D b R (upd f 3 (.pointer (some ⟨T, 0, none⟩))) h l := fun u hu => by
            have a7 := A7.out
            exact (a7.1.keep (u := wr) fun k h1 h2 => hon.block k (by omega)).below hu (Nat.le_refl _)
          have AH : Aside ((∀ u, Below wr.heap.size wr u → Bs u B D b R (upd f 3 (.pointer (some ⟨T, 0, none⟩))) h l) ∧ Only g w7 wr) := ⟨hs8, hon⟩
          clear hI hkg hon hcl hll hfix hlens hk hs8
          go_upto_region 17 with (go_at_call 88; refine hnew.mono ?_; rintro e8 w8 ⟨T2, rfl, hp8, hb8⟩
                                  have s8 := AH.out.1 w8 hb8
                                  have d4 := s8.cell (show 4 < 355 by decide)
                                  have q4 := s8.fz 4)
          have a7 := A7.out
          have o8 := AH.out.2
          have s9 := s8.set 4 (.pointer (some ⟨T2, 0, none⟩)) (by decide)
          have o9 : Only D w8 (w8.setCell ⟨D, 4, none⟩ (.pointer (some ⟨T2, 0, none⟩))) := (Only.refl D w8).setCell 4 _
          have hsz : wr.heap.size = hi := by rw [o8.size]; exact a7.2.2.2.2.2.1
          have kH9 : Cells (w8.setCell ⟨D, 4, none⟩ (.pointer (some ⟨T2, 0, none⟩))) H #[.pointer none, .pointer none] 91 := ((a7.2.2.1.only o8 (by omega)).below hb8 (by omega)).only o9 (by omega)
          have p1 : PT (w8.setCell ⟨D, 4, none⟩ (.pointer (some ⟨T2, 0, none⟩))) lo hi T fixL := a7.2.2.2.1.keep fun k h1 h2 => ((o9.block k (by omega)).trans (hb8.block k (by omega))).trans (o8.block k (by omega))
          have p2 : PT (w8.setCell ⟨D, 4, none⟩ (.pointer (some ⟨T2, 0, none⟩))) wr.heap.size w8.heap.size T2 fixD := hp8.keep fun k h1 h2 => o9.block k (by omega)
          have f9 : Fm B w (w8.setCell ⟨D, 4, none⟩ (.pointer (some ⟨T2, 0, none⟩))) := ((a7.2.2.2.2.1.only o8 (by omega)).trans (Fm.of_below hb8 (Nat.le_refl _))).trans (s8.fmD o9)
          have z9 : (w8.setCell ⟨D, 4, none⟩ (.pointer (some ⟨T2, 0, none⟩))).heap.size = w8.heap.size := o9.size
          have hz8 : hi ≤ w8.heap.size := by have := hb8.size; omega
          obtain ⟨w9, hw9⟩ : ∃ w9, w9 = w8.setCell ⟨D, 4, none⟩ (.pointer (some ⟨T2, 0, none⟩)) := ⟨_, rfl⟩
          rw [← hw9] at s9 kH9 p1 p2 f9 z9 ⊢
          have r0 := kH9.cell 0
          have r1 := kH9.cell 1
          have q0 := kH9.frozen 0
          have q1 := kH9.frozen 1
          simp only [List.getElem?_toArray, List.getElem?_cons_zero, List.getElem?_cons_succ] at r0 r1
          have c3 := s9.cell (show 3 < 355 by decide)
          have c4 := s9.cell (show 4 < 355 by decide)
          rw [upd_ne _ _ (by decide), upd_same] at c3
          rw [upd_same] at c4
          have A9 : Aside (Bs w9 B D b R (upd (upd f 3 (.pointer (some ⟨T, 0, none⟩))) 4 (.pointer (some ⟨T2, 0, none⟩))) h l ∧ Cells w9 H #[.pointer none, .pointer none] 91 ∧ PT w9 lo hi T fixL ∧ PT w9 wr.heap.size w8.heap.size T2 fixD ∧ Fm B w w9 ∧ w9.heap.size = w8.heap.size ∧ hi ≤ w8.heap.size ∧ wr.heap.size = hi) := ⟨s9, kH9, p1, p2, f9, z9, hz8, hsz⟩
          clear s9 kH9 p1 p2 f9 z9 hz8 hsz a7 o8 o9 s8 d4 q4 hw9 hp8 hb8 hnew AH
          go_wp2_with fail
          have a := A9.out
          have a7 := A7.out
          have hD := a7.2.2.2.2.2.2.2.2.2.2.2.2.2
          obtain ⟨w10, hw10⟩ : ∃ w10, w10 = (w9.setCell ⟨H, 0, none⟩ (.pointer (some ⟨T, 0, none⟩))).setCell ⟨H, 1, none⟩ (.pointer (some ⟨T2, 0, none⟩)) := ⟨_, rfl⟩
          have oH : Only H w9 w10 := by rw [hw10]; exact ((Only.refl H w9).setCell 0 _).setCell 1 _
          have k2 : Cells w10 H #[.pointer (some ⟨T, 0, none⟩), .pointer (some ⟨T2, 0, none⟩)] 91 := by rw [hw10]; exact (a.2.1.set 0 _).set 1 _
          rw [← hw10]
          (try simp only [Exit.inBlock, Exit.then])
          refine bodyPost_ret (v := .agg #[.pointer (some ⟨T, 0, none⟩), .pointer (some ⟨T2, 0, none⟩)]) ?_ rfl ?_
          · exact results_cell_row rfl _ _ H 91 _ (0, 0) _ rfl k2 Tryz.underlying91 rfl size67
          · refine ⟨_, _, _, rfl, a.1.keep fun k h1 h2 => oH.block k (by omega), a.2.2.2.2.1.only oH (by omega), rfl, rfl, fun i h3 h4 => by rw [upd_ne _ _ h4, upd_ne _ _ h3], ?_, ?_⟩
            · exact ⟨lo, hi, T, rfl, by omega, by rw [oH.size]; omega, a.2.2.1.keep fun k h1 h2 => oH.block k (by omega), by rw [fixL_len]; omega⟩
            · exact ⟨_, _, T2, rfl, by omega, by rw [oH.size]; omega, a.2.2.2.1.keep fun k h1 h2 => oH.block k (by omega), by rw [fixD_len]; omega⟩
end
end Go.Proofs.YtpihipbeagpgpaaGreatDoor

/-
 What the steps of a stored block come to: storedLength, storedByte.
-/
namespace Go.Proofs.YtpihipbeagpgpaaGreatDoor
open Go.RowKit
set_option linter.unusedVariables false
theorem u32_mask (v k : Nat) (hv : v < 4294967296) (hk : k ≤ 32) (m : Nat) (hm : 2 ^ k - 1 = m) : bits .and .u32 (v : Int) (m : Int) = ((v % 2 ^ k : Nat) : Int) := by
 have h1 : 2 ^ k ≤ 4294967296 := pow_le64 hk
 have h0 : 0 < 2 ^ k := Nat.two_pow_pos k
 rw [← hm, u32_and_nat v _ hv (by omega), Nat.and_two_pow_sub_one_eq_mod]
section
variable {B D b R : Nat} {f : Nat → Value} {bs : List Bool} {most : Nat}
set_option maxHeartbeats 1000000 in
theorem storedByte_s (w : World) {last : Bool} {n pos : Nat} {out times : List Nat} (hI : Is w B D b R f bs ⟨.sraw last n, pos, out, times⟩) (hO : Op f) (hm : out.length < most) (hnb : n < 65536) : StepOk 86 B D b R bs most ⟨.sraw last n, pos, out, times⟩ w := by
 obtain ⟨k2, k5, k8⟩ := id hI.at_
 have hle' : pos ≤ bs.length := hI.le
 have hm' : Bs w B D b R f (bs.drop pos) (win out) := hI.mem
 have c8 := (hm'.cell (show 350 < 355 by decide)).trans (congrArg some k8)
 have A : Aside (Is w B D b R f bs ⟨.sraw last n, pos, out, times⟩ ∧ Op f ∧ pos ≤ bs.length ∧ out.length < most) := ⟨hI, hO, hle', hm⟩
 have AK : Aside (f 2 = fnv D 86 ∧ f 5 = .bool last) := ⟨k2, k5⟩
 unfold StepOk
 cases n with
 | zero =>
  have c8' : w.cell? ⟨D, 350, none⟩ = some (.int .i64 0) := c8
  cases last with
  | true =>
   have hst := end_last w hm' k5
   clear hI hO hle' hm' k2 k5 k8 hm hnb c8
   go_enter Tryz.func86, Tryz.ntmps86
   go_wp2_with (go_at_call 91; refine hst.mono ?_; rintro e3 w3 ⟨rfl, hb3, hf3⟩)
   first | go_ret | go_ret2
   have a := A.out
   exact ⟨false, rfl, hf3, Res.over (c' := ⟨.done, pos, out, times⟩) (Runs.cons (d := ⟨.head true, pos, out, times⟩) rfl (Runs.one rfl)) (a.1.end_ a.2.1 hf3 hb3 rfl rfl rfl rfl rfl rfl) rfl⟩
  | false =>
   have hst := end_more w hm' k5
   clear hI hO hle' hm' k2 k5 k8 hm hnb c8
   go_enter Tryz.func86, Tryz.ntmps86
   go_wp2_with (go_at_call 91; refine hst.mono ?_; rintro e3 w3 ⟨rfl, hb3, hf3⟩)
   first | go_ret | go_ret2
   have a := A.out
   refine ⟨true, rfl, hf3, Res.next (c' := ⟨.head false, pos, out, times⟩) (Runs.one rfl) (a.1.to hf3 hb3 rfl rfl rfl a.2.2.1) (a.2.1.to rfl rfl rfl) rfl ?_⟩
   unfold mu rk
   simp only []
   omega
 | succ n =>
  have c0 := (hm'.cell (show 0 < 355 by decide)).trans (congrArg some hm'.c0)
  have hne : (((n + 1 : Nat) : Int) == 0) = false := by rw [beq_eq_false_iff_ne]; omega
  obtain ⟨n1, hn1⟩ : ∃ n1, n + 1 = n1 := ⟨_, rfl⟩
  rw [hn1] at c8 hne hnb k8
  by_cases hshort : (bs.drop pos).length < 8
  ·have htake := take_short 8 w hm' hshort
   have AS : Aside ((bs.drop pos).length < 8 ∧ n + 1 = n1) := ⟨hshort, hn1⟩
   clear hI hO hle' hm' k2 k5 k8 hm hnb hshort hn1
   go_enter Tryz.func86, Tryz.ntmps86
   go_wp2_with (go_at_call 58; refine htake.mono ?_; rintro e3 w3 ⟨rfl, rfl⟩)
   first | go_ret | go_ret2
   have a := A.out
   have sh := AS.out.1
   rw [List.length_drop] at sh
   refine ⟨false, rfl, Fm.refl B w, Res.want a.1 a.2.1 ?_ ?_ (fun y => by simp) (by simp)⟩
   ·show bs.length < pos + 32
    omega
   ·unfold step
    simp only []
    rw [num_no (by omega)]; rfl
  ·obtain ⟨v, hv⟩ : ∃ v, nm ((bs.drop pos).take 8) = v := ⟨_, rfl⟩
   have hvlt : v < 256 := by rw [← hv]; exact nm_take_lt _ 8
   have htake := take_at 8 w hm' (by decide) (by omega) v hv
   have AS : Aside (pos + 8 ≤ bs.length ∧ nm ((bs.drop pos).take 8) = v ∧ n + 1 = n1) := ⟨by rw [List.length_drop] at hshort; omega, hv, hn1⟩
   have hvI : (v : Int) < 256 := by omega
   have hsub : (n1 : Int) - 1 = (n : Int) := by omega
   have hnI : (n : Int) < 65536 := by omega
   have Ak8 : Aside (f 350 = .int .i64 (n1 : Int)) := k8
   clear hI hO hle' hm' k2 k5 k8 hm hnb hshort hn1 hvlt hv
   go_enter Tryz.func86, Tryz.ntmps86
   go_upto_region 6 with (go_at_call 58; refine htake.mono ?_; rintro e2 w2 ⟨rfl, hb2, hf2⟩)
   have d8 := (hb2.cell (show 350 < 355 by decide)).trans (congrArg some Ak8.out)
   have z8 := hb2.fz 350
   have hs4 := hb2.set 350 (.int .i64 (n : Int)) (by decide)
   have hst := pgive_c (v : Int) _ hs4
   have Af : Aside (Fm B w (w2.setCell ⟨D, 350, none⟩ (.int .i64 (n : Int)))) := hf2.trans (hb2.fmD ((Only.refl D w2).setCell 350 _))
   clear htake c0 c8 hs4 hb2 hf2
   go_wp2_with (go_at_call 90; refine hst.mono ?_; rintro e3 w3 ⟨rfl, hb3, hf3⟩)
   first | go_ret | go_ret2
   have a := A.out
   have hf : Fm B w w3 := Af.out.trans hf3
   rw [win_put, List.drop_drop] at hb3
   refine ⟨false, rfl, hf, Res.gave (c' := ⟨.sraw last n, pos + 8, out ++ [v], times ++ [(pos + 8 - 1) / 8]⟩) (Runs.one ?_) (a.1.to hf hb3 ⟨AK.out.1, AK.out.2, rfl⟩ rfl rfl AS.out.1) rfl a.2.1.done a.2.1.why v rfl rfl⟩
   unfold step
   simp only [pnum_at AS.out.1, AS.out.2.1, Option.map_some]
   rw [give_lt a.2.2.2]
set_option maxHeartbeats 1000000 in
theorem storedLength_s (w : World) {last : Bool} {pos : Nat} {out times : List Nat} (hI : Is w B D b R f bs ⟨.slen last, pos, out, times⟩) (hO : Op f) : StepOk 61 B D b R bs most ⟨.slen last, pos, out, times⟩ w := by
 obtain ⟨k2, k5⟩ := id hI.at_
 obtain ⟨p, hp⟩ : ∃ p, (pos + 7) / 8 * 8 = p := ⟨_, rfl⟩
 have hle' : p ≤ bs.length := by rw [← hp]; exact hI.le
 have hm' : Bs w B D b R f (bs.drop p) (win out) := by rw [← hp]; exact hI.mem
 have c0 := (hm'.cell (show 0 < 355 by decide)).trans (congrArg some hm'.c0)
 have A : Aside (Is w B D b R f bs ⟨.slen last, pos, out, times⟩ ∧ Op f ∧ p ≤ bs.length ∧ (pos + 7) / 8 * 8 = p) := ⟨hI, hO, hle', hp⟩
 have AK : Aside (f 2 = fnv D 61 ∧ f 5 = .bool last) := ⟨k2, k5⟩
 unfold StepOk
 by_cases hshort : (bs.drop p).length < 32
 ·have htake := take_short 32 w hm' hshort
  have AS : Aside ((bs.drop p).length < 32) := hshort
  clear hI hO hle' hm' k2 k5 hshort hp
  go_enter Tryz.func61, Tryz.ntmps61
  go_wp2_with (go_at_call 58; refine htake.mono ?_; rintro e3 w3 ⟨rfl, rfl⟩)
  first | go_ret | go_ret2
  have a := A.out
  have sh := AS.out
  rw [List.length_drop] at sh
  have hfew : bs.length < ep ⟨.slen last, pos, out, times⟩ + 32 := by
   show bs.length < (pos + 7) / 8 * 8 + 32
   omega
  by_cases h16 : bs.length < p + 16
  ·refine ⟨false, rfl, Fm.refl B w, Res.want a.1 a.2.1 hfew ?_ (fun y => by simp) (by simp)⟩
   unfold step
   simp only [a.2.2.2]
   rw [num_no (by omega)]; rfl
  ·refine ⟨false, rfl, Fm.refl B w, f, _, Runs.refl _, Or.inr (Or.inr (Or.inr ⟨rfl, ⟨a.1, a.2.1, hfew, ⟨.snot last (nm ((bs.drop p).take 16)), p + 16, out, times⟩, Runs.one ?_, ?_, rfl, fun y => by simp, by simp⟩, rfl⟩))⟩
   ·unfold step
    simp only [a.2.2.2]
    rw [pnum_at (by omega)]; rfl
   ·unfold step
    simp only []
    rw [num_no (by omega)]; rfl
 ·obtain ⟨v, hv⟩ : ∃ v, nm ((bs.drop p).take 32) = v := ⟨_, rfl⟩
  have hvlt : v < 4294967296 := by rw [← hv]; exact nm_take_lt _ 32
  have htake := take_at 32 w hm' (by decide) (by omega) v hv
  obtain ⟨x, hx⟩ : ∃ x, v % 65536 = x := ⟨_, rfl⟩
  obtain ⟨y, hy⟩ : ∃ y, v / 65536 = y := ⟨_, rfl⟩
  have hx2 : nm ((bs.drop p).take 16) = x := by
   have h1 := congrArg (· % 2 ^ 16) hv
   rw [← nm_take, List.take_take, Nat.min_eq_left (by decide)] at h1
   rw [h1, ← hx]
  have hy2 : nm ((bs.drop (p + 16)).take 16) = y := by
   have h1 := congrArg (· / 2 ^ 16) hv
   rw [← nm_drop, List.drop_take, List.drop_drop] at h1
   rw [h1, ← hy]
  have hand : bits .and .u32 (v : Int) 65535 = (x : Int) := by
   have := u32_mask v 16 hvlt (by decide) 65535 rfl
   rw [hx] at this
   exact this
  have hshr : (v : Int) / 65536 = (y : Int) := by omega
  have AS : Aside (p + 32 ≤ bs.length ∧ nm ((bs.drop p).take 16) = x ∧ nm ((bs.drop (p + 16)).take 16) = y) := ⟨by rw [List.length_drop] at hshort; omega, hx2, hy2⟩
  have hxI : (x : Int) < 65536 := by omega
  have hyI : (y : Int) < 65536 := by omega
  have A3 : Aside (x < 65536) := (show x < 65536 by omega)
  by_cases hsum : x + y = 65535
  ·have hne : (((x : Int) + (y : Int)) != 65535) = false := by rw [bne_eq_false_iff_eq]; omega
   have AQ : Aside (x + y = 65535) := hsum
   clear hI hO hle' hm' k2 k5 hshort hp hv hvlt hx hy hx2 hy2 hsum
   go_enter Tryz.func61, Tryz.ntmps61
   go_upto_region 7 with (go_at_call 58; refine htake.mono ?_; rintro e2 w2 ⟨rfl, hb2, hf2⟩)
   have z8 := hb2.fz 350
   have d8 := hb2.cell (show 350 < 355 by decide)
   have hs4 := hb2.set 350 (.int .i64 (x : Int)) (by decide)
   have hst := pthen_c 86 _ hs4
   have Af : Aside (Fm B w (w2.setCell ⟨D, 350, none⟩ (.int .i64 (x : Int)))) := hf2.trans (hb2.fmD ((Only.refl D w2).setCell 350 _))
   clear htake c0 hs4 hb2 hf2 hand hshr
   go_wp2_with (go_at_call 60; refine hst.mono ?_; rintro e3 w3 ⟨rfl, hb3, hf3⟩)
   first | go_ret | go_ret2
   have a := A.out
   have s := AS.out
   have hf : Fm B w w3 := Af.out.trans hf3
   rw [List.drop_drop] at hb3
   refine ⟨true, rfl, hf, Res.next (c' := ⟨.sraw last x, p + 32, out, times⟩) (Runs.cons (d := ⟨.snot last x, p + 16, out, times⟩) ?_ (Runs.one ?_)) (a.1.to hf hb3 ⟨rfl, AK.out.2, rfl⟩ rfl rfl s.1) (a.2.1.to rfl rfl rfl) rfl ?_⟩
   ·unfold step
    simp only [a.2.2.2]
    rw [pnum_at (by omega), s.2.1]; rfl
   ·unfold step
    simp only []
    rw [pnum_at (by omega), s.2.2, Option.map_some, if_pos AQ.out]
   ·unfold mu rk
    simp only []
    omega
  ·have hne : (((x : Int) + (y : Int)) != 65535) = true := by rw [bne_iff_ne]; omega
   have AQ : Aside (¬ x + y = 65535) := hsum
   clear hI hO hle' hm' k2 k5 hshort hp hv hvlt hx hy hx2 hy2 hsum
   go_enter Tryz.func61, Tryz.ntmps61
   go_upto_region 6 with (go_at_call 58; refine htake.mono ?_; rintro e2 w2 ⟨rfl, hb2, hf2⟩)
   have hst := pstop_c 11 _ hb2
   clear htake c0 hand hshr
   go_wp2_with (go_at_call 65; refine hst.mono ?_; rintro e3 w3 ⟨rfl, hb3, hf3⟩)
   first | go_ret | go_ret2
   have a := A.out
   have s := AS.out
   refine ⟨false, rfl, hf2.trans hf3, Res.over (c' := ⟨.bad 11, p + 32, out, times⟩) (Runs.cons (d := ⟨.snot last x, p + 16, out, times⟩) ?_ (Runs.one ?_)) (a.1.bad a.2.1 (hf2.trans hf3) hb3 11 (by decide) rfl rfl rfl rfl rfl rfl) rfl⟩
   ·unfold step
    simp only [a.2.2.2]
    rw [pnum_at (by omega), s.2.1]; rfl
   ·unfold step
    simp only []
    rw [pnum_at (by omega), s.2.2, Option.map_some, if_neg AQ.out]
end
end Go.Proofs.YtpihipbeagpgpaaGreatDoor

/-
  What the step that begins a block comes to.
-/
namespace Go.Proofs.YtpihipbeagpgpaaGreatDoor
open Go.RowKit
set_option linter.unusedVariables false
theorem head_k {bs : List Bool} {most pos : Nat} {out times : List Nat} {v k : Nat} {st : St} (h : num? bs pos 3 = some v) (hk : v / 2 = k) (hs : (k = 0 ∧ st = .slen (v % 2 == 1)) ∨ (k = 1 ∧ st = .sym (v % 2 == 1) fixL fixD) ∨ (k = 2 ∧ st = .dnum (v % 2 == 1)) ∨ (k = 3 ∧ st = .bad 10)) : Runs bs most ⟨.head false, pos, out, times⟩ ⟨st, pos + 3, out, times⟩ := by
  refine Runs.one ?_
  unfold step
  rcases hs with ⟨rfl, rfl⟩ | ⟨rfl, rfl⟩ | ⟨rfl, rfl⟩ | ⟨rfl, rfl⟩ <;> simp only [h, Option.map_some, hk]
section
variable {B D b R : Nat} {f : Nat → Value} {bs : List Bool} {most : Nat}
theorem align_at {h : List Bool} {l : List Int} (w : World) (s : Bs w B D b R f h l) : Calls Tryz.prog 59 #[.pointer (some ⟨b, 0, none⟩)] w fun e w' => (∃ z, e = .returned (.int .i64 z)) ∧ Bs w' B D b R f (h.drop (h.length % 8)) l ∧ Fm B w w' := by
  refine (align_b b (nm h) h.length w s.br).mono fun e w' hh => ?_
  obtain ⟨h1, h2, h3⟩ := hh
  rw [← nm_drop, ← List.length_drop] at h2
  exact ⟨⟨_, h1⟩, s.onb h3 h2, Fm.of_only h3 (by have := s.eb; omega) (by have := s.eb; omega)⟩
theorem fixed_any {h : List Bool} {l : List Int} (w : World) (s : Bs w B D b R f h l) (hx : Fx w B f) : Calls Tryz.prog 62 #[.pointer (some ⟨D, 0, none⟩)] w fun e w' => FixTo B D b R f h l w e w' := by
  rcases hx with h3 | ⟨h3, h4⟩
  · exact fixed_make w s h3.1
  · exact fixed_had w s h3 h4
set_option maxHeartbeats 1000000 in
theorem block_s (w : World) {pos : Nat} {out times : List Nat} (hI : Is w B D b R f bs ⟨.head false, pos, out, times⟩) (hO : Op f) (h8 : bs.length % 8 = 0) : StepOk 45 B D b R bs most ⟨.head false, pos, out, times⟩ w := by
  have k2 : f 2 = fnv D 45 := hI.at_
  have hle' : pos ≤ bs.length := hI.le
  have hm' : Bs w B D b R f (bs.drop pos) (win out) := hI.mem
  have c0 := (hm'.cell (show 0 < 355 by decide)).trans (congrArg some hm'.c0)
  have A : Aside (Is w B D b R f bs ⟨.head false, pos, out, times⟩ ∧ Op f ∧ pos ≤ bs.length ∧ bs.length % 8 = 0) := ⟨hI, hO, hle', h8⟩
  unfold StepOk
  by_cases hshort : (bs.drop pos).length < 3
  · have htake := take_short 3 w hm' hshort
    have AS : Aside ((bs.drop pos).length < 3) := hshort
    clear hI hO hle' hm' k2 hshort h8
    go_enter Tryz.func45, Tryz.ntmps45
    go_wp2_with (go_at_call 58; refine htake.mono ?_; rintro e3 w3 ⟨rfl, rfl⟩)
    first | go_ret | go_ret2
    have a := A.out
    have sh := AS.out
    rw [List.length_drop] at sh
    refine ⟨false, rfl, Fm.refl B w, Res.want a.1 a.2.1 ?_ ?_ (fun y => by simp) (by simp)⟩
    · show bs.length < pos + 32
      omega
    · unfold step
      simp only []
      rw [num_no (by omega)]; rfl
  · obtain ⟨v, hv⟩ : ∃ v, nm ((bs.drop pos).take 3) = v := ⟨_, rfl⟩
    have hvlt : v < 8 := by rw [← hv]; exact nm_take_lt _ 3
    have htake := take_at 3 w hm' (by decide) (by omega) v hv
    obtain ⟨u, hu⟩ : ∃ u, v % 2 = u := ⟨_, rfl⟩
    have hand : bits .and .u32 (v : Int) 1 = (u : Int) := by
      have := u32_mask v 1 (by omega) (by decide) 1 rfl
      rw [show 2 ^ 1 = 2 from rfl, hu] at this
      exact this
    obtain ⟨lb, hlb⟩ : ∃ lb, ((u : Int) == 1) = lb := ⟨_, rfl⟩
    have hlb2 : (v % 2 == 1) = lb := by rw [hu, ← hlb]; rw [Bool.eq_iff_iff, beq_iff_eq, beq_iff_eq]; omega
    have AS : Aside (pos + 3 ≤ bs.length ∧ nm ((bs.drop pos).take 3) = v ∧ (v % 2 == 1) = lb) := ⟨by rw [List.length_drop] at hshort; omega, hv, hlb2⟩
    have AR : Aside (num? bs pos 3 = some v) := (by show num? bs pos 3 = some v; rw [pnum_at AS.out.1, AS.out.2.1])
    have hcases : v / 2 = 0 ∨ v / 2 = 1 ∨ v / 2 = 2 ∨ v / 2 = 3 := by omega
    rcases hcases with hk | hk | hk | hk
    · have hshr : (v : Int) / 2 = 0 := by omega
      have AK : Aside (v / 2 = 0) := hk
      clear hI hO hle' hm' k2 hshort h8 hv hvlt hu hlb2 hk
      go_enter Tryz.func45, Tryz.ntmps45
      go_upto_region 7 with (go_at_call 58; refine htake.mono ?_; rintro e2 w2 ⟨rfl, hb2, hf2⟩
                             have z5 := hb2.fz 5
                             have d5 := hb2.cell (show 5 < 355 by decide))
      have hs3 := hb2.set 5 (.bool lb) (by decide)
      have f3 : Fm B w (w2.setCell ⟨D, 5, none⟩ (.bool lb)) := hf2.trans (hb2.fmD ((Only.refl D w2).setCell 5 _))
      obtain ⟨w3, hw3⟩ : ∃ w3, w2.setCell ⟨D, 5, none⟩ (.bool lb) = w3 := ⟨_, rfl⟩
      rw [hw3] at hs3 f3 ⊢
      have d0 := (hs3.cell (show 0 < 355 by decide)).trans (congrArg some hs3.c0)
      have hal := align_at w3 hs3
      have Af : Aside (Fm B w w3) := f3
      clear hb2 hf2 hw3 hand hlb hshr htake c0 z5 d5 hs3 f3
      go_wp2_with (first
        | (go_at_call 59; refine hal.mono ?_; rintro e4 w4 ⟨⟨z4, rfl⟩, hb4, hf4⟩
           have hth := pthen_c 61 w4 hb4)
        | (go_at_call 60; refine hth.mono ?_; rintro e5 w5 ⟨rfl, hb5, hf5⟩))
      first | go_ret | go_ret2
      have a := A.out
      have s := AS.out
      have hf : Fm B w w5 := (Af.out.trans hf4).trans hf5
      have hd : ((bs.drop pos).drop 3).drop (((bs.drop pos).drop 3).length % 8) = bs.drop ((pos + 3 + 7) / 8 * 8) := by
        rw [List.drop_drop, List.drop_drop, List.length_drop]
        congr 1
        have := a.2.2.2
        have h9 : (bs.drop pos).length = bs.length - pos := List.length_drop ..
        omega
      rw [hd] at hb5
      refine ⟨true, rfl, hf, Res.next (c' := ⟨.slen lb, pos + 3, out, times⟩) (head_k AR.out AK.out (Or.inl ⟨rfl, by rw [s.2.2]⟩)) (a.1.to hf hb5 ⟨rfl, rfl⟩ rfl rfl ?_) (a.2.1.to rfl rfl rfl) rfl ?_⟩
      · show (pos + 3 + 7) / 8 * 8 ≤ bs.length
        have := a.2.2.2
        omega
      · unfold mu rk
        simp only []
        omega
    · have hshr : (v : Int) / 2 = 1 := by omega
      have AK : Aside (v / 2 = 1) := hk
      clear hI hO hle' hm' k2 hshort h8 hv hvlt hu hlb2 hk
      go_enter Tryz.func45, Tryz.ntmps45
      go_upto_region 10 with (go_at_call 58; refine htake.mono ?_; rintro e2 w2 ⟨rfl, hb2, hf2⟩
                              have z5 := hb2.fz 5
                              have d5 := hb2.cell (show 5 < 355 by decide))
      have hs3 := hb2.set 5 (.bool lb) (by decide)
      have f3 : Fm B w (w2.setCell ⟨D, 5, none⟩ (.bool lb)) := hf2.trans (hb2.fmD ((Only.refl D w2).setCell 5 _))
      obtain ⟨w3, hw3⟩ : ∃ w3, w2.setCell ⟨D, 5, none⟩ (.bool lb) = w3 := ⟨_, rfl⟩
      rw [hw3] at hs3 f3 ⊢
      have hfix := fixed_any w3 hs3 (A.out.1.fx.fm f3 rfl rfl)
      have Af : Aside (Fm B w w3) := f3
      clear hb2 hf2 hw3 hand hlb hshr htake c0 z5 d5 hs3 f3
      go_wp2_with (first
        | (go_at_call 62; refine hfix.mono ?_; rintro e4 w4 ⟨v3, v4, f4, rfl, hb4, hf4, g3, g4, grest, ht3, ht4⟩
           obtain ⟨_, _, T3, rfl, _⟩ := id ht3
           obtain ⟨_, _, T4, rfl, _⟩ := id ht4
           have d6 := hb4.cell (show 6 < 355 by decide)
           have d7 := hb4.cell (show 7 < 355 by decide)
           have z6 := hb4.fz 6
           have z7 := hb4.fz 7
           have hth := pthen_c 63 _ ((hb4.set 6 (.pointer (some ⟨T3, 0, none⟩)) (by decide)).set 7 (.pointer (some ⟨T4, 0, none⟩)) (by decide))
           have A4 : Aside (Bs w4 B D b R f4 ((bs.drop pos).drop 3) (win out) ∧ Fm B w3 w4 ∧ f4 3 = .pointer (some ⟨T3, 0, none⟩) ∧ f4 4 = .pointer (some ⟨T4, 0, none⟩) ∧ (∀ i, i ≠ 3 → i ≠ 4 → f4 i = upd f 5 (.bool lb) i) ∧ Tbl w4 B (.pointer (some ⟨T3, 0, none⟩)) fixL ∧ Tbl w4 B (.pointer (some ⟨T4, 0, none⟩)) fixD) := ⟨hb4, hf4, g3, g4, grest, ht3, ht4⟩
           clear hb4 hf4 g3 g4 grest ht3 ht4)
        | (go_at_call 60; refine hth.mono ?_; rintro e5 w5 ⟨rfl, hb5, hf5⟩))
      first | go_ret | go_ret2
      have a := A.out
      have s := AS.out
      have a4 := A4.out
      have hf45 : Fm B w4 w5 := (a4.1.fmD (((Only.refl D w4).setCell 6 (.pointer (some ⟨T3, 0, none⟩))).setCell 7 (.pointer (some ⟨T4, 0, none⟩)))).trans hf5
      have hf : Fm B w w5 := (Af.out.trans a4.2.1).trans hf45
      rw [List.drop_drop] at hb5
      have e5 : f4 5 = .bool lb := (a4.2.2.2.2.1 5 (by decide) (by decide)).trans (upd_same _ _ _)
      have e352 : f4 352 = f 352 := a4.2.2.2.2.1 352 (by decide) (by decide)
      have e353 : f4 353 = f 353 := a4.2.2.2.2.1 353 (by decide) (by decide)
      have e354 : f4 354 = f 354 := a4.2.2.2.2.1 354 (by decide) (by decide)
      refine ⟨true, rfl, hf, Res.next (c' := ⟨.sym lb fixL fixD, pos + 3, out, times⟩) (head_k AR.out AK.out (Or.inr (Or.inl ⟨rfl, by rw [s.2.2]⟩))) ⟨hb5, ⟨rfl, e5, a4.2.2.2.2.2.1.fm hf45, a4.2.2.2.2.2.2.fm hf45⟩, Or.inr ⟨?_, ?_⟩, a.1.tabs.below (hf.below (by have := a.1.mem.lt; omega)) a.1.b7, s.1, a.1.b7⟩ (a.2.1.to e352 e353 e354) rfl ?_⟩
      · have := a4.2.2.2.2.2.1.fm hf45
        rw [← a4.2.2.1] at this
        exact this
      · have := a4.2.2.2.2.2.2.fm hf45
        rw [← a4.2.2.2.1] at this
        exact this
      · unfold mu rk
        simp only []
        omega
    · have hshr : (v : Int) / 2 = 2 := by omega
      have AK : Aside (v / 2 = 2) := hk
      clear hI hO hle' hm' k2 hshort h8 hv hvlt hu hlb2 hk
      go_enter Tryz.func45, Tryz.ntmps45
      go_wp2_with (first
        | (go_at_call 58; refine htake.mono ?_; rintro e2 w2 ⟨rfl, hb2, hf2⟩
           have z5 := hb2.fz 5
           have d5 := hb2.cell (show 5 < 355 by decide)
           have hth := pthen_c 64 _ (hb2.set 5 (.bool lb) (by decide)))
        | (go_at_call 60; refine hth.mono ?_; rintro e5 w5 ⟨rfl, hb5, hf5⟩))
      first | go_ret | go_ret2
      have a := A.out
      have s := AS.out
      have hf : Fm B w w5 := (hf2.trans (hb2.fmD ((Only.refl D w2).setCell 5 (.bool lb)))).trans hf5
      rw [List.drop_drop] at hb5
      refine ⟨true, rfl, hf, Res.next (c' := ⟨.dnum lb, pos + 3, out, times⟩) (head_k AR.out AK.out (Or.inr (Or.inr (Or.inl ⟨rfl, by rw [s.2.2]⟩)))) (a.1.to hf hb5 ⟨rfl, rfl⟩ rfl rfl s.1) (a.2.1.to rfl rfl rfl) rfl ?_⟩
      unfold mu rk
      simp only []
      omega
    · have hshr : (v : Int) / 2 = 3 := by omega
      have AK : Aside (v / 2 = 3) := hk
      clear hI hO hle' hm' k2 hshort h8 hv hvlt hu hlb2 hk
      go_enter Tryz.func45, Tryz.ntmps45
      go_wp2_with (first
        | (go_at_call 58; refine htake.mono ?_; rintro e2 w2 ⟨rfl, hb2, hf2⟩
           have z5 := hb2.fz 5
           have d5 := hb2.cell (show 5 < 355 by decide)
           have hth := pstop_c 10 _ (hb2.set 5 (.bool lb) (by decide)))
        | (go_at_call 65; refine hth.mono ?_; rintro e5 w5 ⟨rfl, hb5, hf5⟩))
      first | go_ret | go_ret2
      have a := A.out
      have s := AS.out
      have hf : Fm B w w5 := (hf2.trans (hb2.fmD ((Only.refl D w2).setCell 5 (.bool lb)))).trans hf5
      exact ⟨false, rfl, hf, Res.over (c' := ⟨.bad 10, pos + 3, out, times⟩) (head_k AR.out AK.out (Or.inr (Or.inr (Or.inr ⟨rfl, rfl⟩)))) (a.1.bad a.2.1 hf hb5 10 (by decide) rfl rfl rfl rfl rfl rfl) rfl⟩
end
end Go.Proofs.YtpihipbeagpgpaaGreatDoor

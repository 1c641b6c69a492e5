/-
  Own texts of this seat, one behind the other: what each says stands ahead of it.
-/
import Derived.Test.YtogednaamndpgaaGreatDoorMf
import Derived.Deep.RegionHeld3
/-
  What the steps of a block's symbols come to: literal, lengthMore, back, backMore, copied.
-/
namespace Go.Proofs.YtogednaamndpgaaGreatDoor
open Go.RowKit
set_option linter.unusedVariables false
section
variable {B D b R : Nat} {f : Nat → Value} {bs : List Bool} {most : Nat}
set_option maxHeartbeats 1000000 in
theorem literal_s (w : World) {last : Bool} {lit di : List Nat} {pos : Nat} {out times : List Nat} (hI : Is w B D b R f bs ⟨.sym last lit di, pos, out, times⟩) (hO : Op f) (hm : out.length < most) : StepOk 69 B D b R bs most ⟨.sym last lit di, pos, out, times⟩ w := by
  obtain ⟨k2, k5, k6, k7⟩ := id hI.at_
  have hle' : pos ≤ bs.length := hI.le
  have hm' : Bs w B D b R f (bs.drop pos) (win out) := hI.mem
  have c6 := hm'.cell (show 6 < 355 by decide)
  obtain ⟨v6, hv6⟩ : ∃ v, f 6 = v := ⟨_, rfl⟩
  have k6' := k6
  rw [hv6] at c6 k6'
  have hread := pread_c v6 lit w hm' k6'
  have A : Aside (Is w B D b R f bs ⟨.sym last lit di, pos, out, times⟩ ∧ Op f ∧ out.length < most ∧ pos ≤ bs.length) := ⟨hI, hO, hm, hle'⟩
  have AK : Aside (f 2 = fnv D 69 ∧ f 5 = .bool last ∧ Tbl w B (f 6) lit ∧ Tbl w B (f 7) di) := ⟨k2, k5, k6, k7⟩
  unfold StepOk
  cases hs : sread lit (bs.drop pos) using SR.el with
  | cut =>
    rw [hs] at hread
    have AS : Aside (sread lit (bs.drop pos) = .cut) := hs
    clear hI hO hm hle' hm' k2 k5 k6 k7 k6' hv6 hs
    go_enter Tryz.func69, Tryz.ntmps69
    go_wp2_with (go_at_call 97; refine hread.mono ?_; rintro e2 w2 ⟨hf2, rfl, hb2⟩)
    first | go_ret | go_ret2
    have a := A.out
    refine ⟨false, rfl, hf2, Res.want (a.1.same hf2 hb2) a.2.1 ?_ ?_ (fun y => by simp) (by simp)⟩
    · have := cut_short AS.out AK.out.2.2.1.le15
      rw [List.length_drop] at this
      show bs.length < pos + 32
      omega
    · unfold step
      simp only [AS.out]
  | bad j =>
    rw [hs] at hread
    have AS : Aside (sread lit (bs.drop pos) = .bad j) := hs
    clear hI hO hm hle' hm' k2 k5 k6 k7 k6' hv6 hs
    go_enter Tryz.func69, Tryz.ntmps69
    go_wp2_with (go_at_call 97; refine hread.mono ?_; rintro e2 w2 ⟨hf2, rfl, hb2⟩)
    first | go_ret | go_ret2
    have a := A.out
    refine ⟨false, rfl, hf2, Res.over (c' := ⟨.bad 13, pos + j, out, times⟩) (Runs.one ?_) (a.1.bad a.2.1 hf2 hb2 13 (by decide) rfl rfl rfl rfl rfl rfl) rfl⟩
    unfold step
    simp only [AS.out]
  | got s n =>
    rw [hs] at hread
    have AS : Aside (sread lit (bs.drop pos) = .got s n) := hs
    have hn : Aside (pos + n ≤ bs.length ∧ 0 < n) := ⟨sread_end hs hle', by have := sread_le (ls := lit) (h := bs.drop pos); rw [hs] at this; exact this.2.1⟩
    by_cases h256 : s < 256
    · have hlt : (s : Int) < 256 := by omega
      clear hI hO hm hle' hm' k2 k5 k6 k7 k6' hv6 hs
      have A256 : Aside (s < 256) := h256
      clear h256
      go_enter Tryz.func69, Tryz.ntmps69
      go_wp2_with (first
        | (go_at_call 97; refine hread.mono ?_; rintro e2 w2 ⟨hf2, rfl, hb2⟩
           have hgive := pgive_c (s : Int) w2 hb2)
        | (go_at_call 98; refine hgive.mono ?_; rintro e3 w3 ⟨rfl, hb3, hf3⟩))
      first | go_ret | go_ret2
      have a := A.out
      have q := hn.out
      rw [win_put, List.drop_drop] at hb3
      refine ⟨false, rfl, hf2.trans hf3, Res.gave (c' := ⟨.sym last lit di, pos + n, out ++ [s], times ++ [(pos + n - 1) / 8]⟩) (Runs.one ?_) (a.1.to (hf2.trans hf3) hb3 ⟨AK.out.1, AK.out.2.1, AK.out.2.2.1.fm (hf2.trans hf3), AK.out.2.2.2.fm (hf2.trans hf3)⟩ rfl rfl q.1) rfl a.2.1.done a.2.1.why s rfl rfl⟩
      unfold step
      simp only [AS.out]
      rw [if_pos A256.out, give_lt a.2.2.1]
    · by_cases he : s = 256
      · subst he
        cases last with
        | true =>
          clear hI hO hm hle' hm' k2 k6 k7 k6' hv6 hs h256
          go_enter Tryz.func69, Tryz.ntmps69
          go_wp2_with (first
            | (go_at_call 97; refine hread.mono ?_; rintro e2 w2 ⟨hf2, rfl, hb2⟩
               have hend := end_last w2 hb2 k5)
            | (go_at_call 99; refine hend.mono ?_; rintro e3 w3 ⟨rfl, hb3, hf3⟩))
          first | go_ret | go_ret2
          have a := A.out
          refine ⟨false, rfl, hf2.trans hf3, Res.over (c' := ⟨.done, pos + n, out, times⟩) (Runs.cons (d := ⟨.head true, pos + n, out, times⟩) ?_ (Runs.one rfl)) (a.1.end_ a.2.1 (hf2.trans hf3) hb3 rfl rfl rfl rfl rfl rfl) rfl⟩
          unfold step
          simp only [AS.out]
          rw [if_neg (by decide)]; rfl
        | false =>
          clear hI hO hm hle' hm' k2 k6 k7 k6' hv6 hs h256
          go_enter Tryz.func69, Tryz.ntmps69
          go_wp2_with (first
            | (go_at_call 97; refine hread.mono ?_; rintro e2 w2 ⟨hf2, rfl, hb2⟩
               have hend := end_more w2 hb2 k5)
            | (go_at_call 99; refine hend.mono ?_; rintro e3 w3 ⟨rfl, hb3, hf3⟩))
          first | go_ret | go_ret2
          have a := A.out
          have q := hn.out
          rw [List.drop_drop] at hb3
          refine ⟨true, rfl, hf2.trans hf3, Res.next (c' := ⟨.head false, pos + n, out, times⟩) (Runs.one ?_) (a.1.to (hf2.trans hf3) hb3 rfl rfl rfl q.1) (a.2.1.to rfl rfl rfl) rfl ?_⟩
          · unfold step
            simp only [AS.out]
            rw [if_neg (by decide)]; rfl
          · unfold mu rk
            simp only []
            omega
      · by_cases hbig : 285 < s
        · have h1 : ((s : Int) < 256) = False := eq_false (by omega)
          have h2 : ((s : Int) == 256) = false := by rw [beq_eq_false_iff_ne]; omega
          have h3 : ((29 : Int) ≤ (s : Int) - 257) = True := eq_true (by omega)
          have h4 : (s : Int) < 320 := by have := got_lt hs; have := k6.len; omega
          have AB : Aside (285 < s) := hbig
          clear hI hO hm hle' hm' k2 k5 k6 k7 k6' hv6 hs h256 he hbig
          go_enter Tryz.func69, Tryz.ntmps69
          go_wp2_with (first
            | (go_at_call 97; refine hread.mono ?_; rintro e2 w2 ⟨hf2, rfl, hb2⟩
               have hst := pstop_c 13 w2 hb2)
            | (go_at_call 71; refine hst.mono ?_; rintro e3 w3 ⟨rfl, hb3, hf3⟩))
          first | go_ret | go_ret2
          have a := A.out
          have bb := AB.out
          refine ⟨false, rfl, hf2.trans hf3, Res.over (c' := ⟨.bad 13, pos + n, out, times⟩) (Runs.one ?_) (a.1.bad a.2.1 (hf2.trans hf3) hb3 13 (by decide) rfl rfl rfl rfl rfl rfl) rfl⟩
          unfold step
          simp only [AS.out]
          rw [if_neg (by omega), if_neg (by omega), if_pos bb]
        · have h1 : ((s : Int) < 256) = False := eq_false (by omega)
          have h2 : ((s : Int) == 256) = false := by rw [beq_eq_false_iff_ne]; omega
          have h3 : ((29 : Int) ≤ (s : Int) - 257) = False := eq_false (by omega)
          have h4 : (s : Int) < 320 := by have := got_lt hs; have := k6.len; omega
          have hsi : (s : Int) - 257 = ((s - 257 : Nat) : Int) := by omega
          have AB : Aside (257 ≤ s ∧ s ≤ 285) := ⟨by omega, by omega⟩
          have ASI : Aside ((s : Int) - 257 = ((s - 257 : Nat) : Int)) := hsi
          clear hI hO hm hle' hm' k2 k5 k6 k7 k6' hv6 hs h256 he hbig hsi
          go_enter Tryz.func69, Tryz.ntmps69
          go_wp2_with (first
            | (go_at_call 97; refine hread.mono ?_; rintro e2 w2 ⟨hf2, rfl, hb2⟩
               have c8 := hb2.cell (show 348 < 355 by decide)
               have z8 := hb2.fz 348
               have hth := pthen_c 100 _ (hb2.set 348 (.int .i64 ((s : Int) - 257)) (by decide)))
            | (go_at_call 66; refine hth.mono ?_; rintro e3 w3 ⟨rfl, hb3, hf3⟩))
          first | go_ret | go_ret2
          have a := A.out
          have bb := AB.out
          have q := hn.out
          have hf : Fm B w w3 := (hf2.trans (Fm.of_only ((Only.refl D w2).setCell 348 _) (by have := hb2.eD; omega) (by have := hb2.eD; omega))).trans hf3
          rw [List.drop_drop] at hb3
          refine ⟨true, rfl, hf, Res.next (c' := ⟨.lext last lit di s, pos + n, out, times⟩) (Runs.one ?_) (a.1.to hf hb3 ⟨rfl, AK.out.2.1, AK.out.2.2.1.fm hf, AK.out.2.2.2.fm hf, bb.1, bb.2, ?_⟩ rfl rfl q.1) (a.2.1.to rfl rfl rfl) rfl ?_⟩
          · unfold step
            simp only [AS.out]
            rw [if_neg (by omega), if_neg (by omega), if_neg (by omega)]
          · rw [← ASI.out]; rfl
          · unfold mu rk
            simp only []
            omega
end
end Go.Proofs.YtogednaamndpgaaGreatDoor

/-
  What the steps of a block's symbols come to: lengthMore, back, backMore, copied.
-/
namespace Go.Proofs.YtogednaamndpgaaGreatDoor
open Go.RowKit
set_option linter.unusedVariables false
theorem plmore_le : ∀ i, i < 29 → lmore (257 + i) ≤ 5 ∧ lbase (257 + i) ≤ 258 := by decide +kernel
theorem pdmore_le : ∀ i, i < 30 → dmore i ≤ 13 ∧ dbase i + 2 ^ dmore i ≤ 32769 ∧ 1 ≤ dbase i := by decide +kernel
section
variable {B D b R : Nat} {f : Nat → Value} {bs : List Bool} {most : Nat}
set_option maxHeartbeats 1000000 in
theorem lengthMore_s (w : World) {last : Bool} {lit di : List Nat} {s pos : Nat} {out times : List Nat} (hI : Is w B D b R f bs ⟨.lext last lit di s, pos, out, times⟩) (hO : Op f) : StepOk 100 B D b R bs most ⟨.lext last lit di s, pos, out, times⟩ w := by
  obtain ⟨k2, k5, k6, k7, k8, k9, k10⟩ := id hI.at_
  have hle' : pos ≤ bs.length := hI.le
  have hm' : Bs w B D b R f (bs.drop pos) (win out) := hI.mem
  obtain ⟨q, hq⟩ : ∃ q, s - 257 = q := ⟨_, rfl⟩
  have hsq : 257 + q = s := by omega
  rw [hq] at k10
  have c0 := (hm'.cell (show 0 < 355 by decide)).trans (congrArg some hm'.c0)
  have c8 := (hm'.cell (show 348 < 355 by decide)).trans (congrArg some k10)
  have t0 := hI.tabs.t0 q (by omega)
  have hl := plmore_le q (by omega)
  rw [hsq] at t0 hl
  obtain ⟨m, hm⟩ : ∃ m, lmore s = m := ⟨_, rfl⟩
  obtain ⟨mb, hmb⟩ : ∃ mb, lbase s = mb := ⟨_, rfl⟩
  rw [hm] at t0
  rw [hm, hmb] at hl
  have hqi : ((q : Int) < 29) = True := eq_true (by omega)
  have hqn : (q < 29) = True := eq_true (by omega)
  have hmw : IntKind.i64.wrap (m : Int) = (m : Int) := by rw [IntKind.wrap_i64]; omega
  have A : Aside (Is w B D b R f bs ⟨.lext last lit di s, pos, out, times⟩ ∧ Op f ∧ pos ≤ bs.length) := ⟨hI, hO, hle'⟩
  have AK : Aside (f 2 = fnv D 100 ∧ f 5 = .bool last ∧ Tbl w B (f 6) lit ∧ Tbl w B (f 7) di) := ⟨k2, k5, k6, k7⟩
  have AM : Aside (lmore s = m ∧ lbase s = mb ∧ m ≤ 5 ∧ mb ≤ 258 ∧ 257 + q = s ∧ f 348 = .int .i64 (q : Int)) := ⟨hm, hmb, hl.1, hl.2, hsq, k10⟩
  have hkeep : Aside (∀ u h', Bs u B D b R f h' (win out) → Fm B w.drew u → u.cell? ⟨D, 0, none⟩ = some (.pointer (some ⟨b, 0, none⟩)) ∧ u.cell? ⟨D, 348, none⟩ = some (.int .i64 (q : Int)) ∧ u.cell? ⟨1, q, none⟩ = some (.int .u8 (m : Int))) := fun u h' hb hf => by
    refine ⟨(hb.cell (show 0 < 355 by decide)).trans (congrArg some hb.c0), (hb.cell (show 348 < 355 by decide)).trans (congrArg some k10), ?_⟩
    have := (hI.tabs.below ((show Fm B w u from ⟨hf.os, hf.tape, hf.output, hf.size, hf.block⟩).below (by have := hm'.lt; omega)) hI.b7).t0 q (by omega)
    rw [hsq, hm] at this
    exact this
  unfold StepOk
  by_cases hshort : (bs.drop pos).length < m
  · have htake := take_short m w.drew hm'.drew hshort
    have AS : Aside ((bs.drop pos).length < m) := hshort
    clear hI hO hle' hm' k2 k5 k6 k7 k8 k9 k10 hq hsq hm hmb hl hshort
    go_enter Tryz.func100, Tryz.ntmps100
    go_upto_region 1 with fail
    go_region_held3 (fun u => u.cell? ⟨D, 0, none⟩ = some (.pointer (some ⟨b, 0, none⟩)) ∧ u.cell? ⟨D, 348, none⟩ = some (.int .i64 (q : Int)) ∧ u.cell? ⟨1, q, none⟩ = some (.int .u8 (m : Int))) (first | assumption | exact ⟨c0, c8, t0⟩)
      (first | (go_at_call 64; refine htake.mono ?_; rintro e2 w2 ⟨rfl, rfl⟩))
    all_goals
      go_wp2_with fail
      first | go_ret | go_ret2
      have a := A.out
      have am := AM.out
      have sh := AS.out
      rw [List.length_drop] at sh
      refine ⟨false, rfl, (Fm.refl B w).drew, Res.want (a.1.same (Fm.refl B w).drew a.1.mem.drew) a.2.1 ?_ ?_ (fun y => by simp) (by simp)⟩
      · show bs.length < pos + 32
        omega
      · unfold step
        simp only [am.1]
        rw [num_no (by omega)]; rfl
  · obtain ⟨v, hv⟩ : ∃ v, nm ((bs.drop pos).take m) = v := ⟨_, rfl⟩
    have hvlt : v < 32 := by
      have := nm_take_lt (bs.drop pos) m
      have h2 : 2 ^ m ≤ 2 ^ 5 := Nat.pow_le_pow_right (by decide) hl.1
      omega
    have htake := take_at m w.drew hm'.drew (by omega) (by omega) v hv
    have AS : Aside (pos + m ≤ bs.length ∧ nm ((bs.drop pos).take m) = v) := ⟨by rw [List.length_drop] at hshort; omega, hv⟩
    have hmbI : (mb : Int) + (v : Int) < 1000 := by omega
    have hf0 : Aside (∀ u, Fm B w.drew u → u.cell? ⟨2, q, none⟩ = some (.int .u16 (mb : Int))) := fun u hf => by
      have := (hI.tabs.below ((show Fm B w u from ⟨hf.os, hf.tape, hf.output, hf.size, hf.block⟩).below (by have := hm'.lt; omega)) hI.b7).t1 q (by omega)
      rw [hsq, hmb] at this
      exact this
    clear hI hO hle' hm' k2 k5 k6 k7 k8 k9 k10 hq hsq hm hmb hl hshort hvlt hv
    go_enter Tryz.func100, Tryz.ntmps100
    go_upto_region 1 with fail
    go_region_held3 (fun u => u.cell? ⟨D, 0, none⟩ = some (.pointer (some ⟨b, 0, none⟩)) ∧ u.cell? ⟨D, 348, none⟩ = some (.int .i64 (q : Int)) ∧ u.cell? ⟨1, q, none⟩ = some (.int .u8 (m : Int))) (first | assumption | exact ⟨c0, c8, t0⟩ | exact hkeep.out _ _ hb2 hf2)
      (first | (go_at_call 64; refine htake.mono ?_; rintro e2 w2 ⟨rfl, hb2, hf2⟩))
    all_goals
      have d0 := hf0.out _ hf2
      have d8 := (hkeep.out _ _ hb2 hf2).2.1
      have d9 := hb2.cell (show 350 < 355 by decide)
      have z9 := hb2.fz 350
      have hth := pthen_c 113 _ (hb2.set 350 (.int .i64 ((mb : Int) + (v : Int))) (by decide))
      clear c0 c8 t0 htake
      go_wp2_with (go_at_call 66; refine hth.mono ?_; rintro e3 w3 ⟨rfl, hb3, hf3⟩)
      first | go_ret | go_ret2
      have a := A.out
      have am := AM.out
      have sh := AS.out
      have hf : Fm B w w3 := ((show Fm B w w2 from ⟨hf2.os, hf2.tape, hf2.output, hf2.size, hf2.block⟩).trans (Fm.of_only ((Only.refl D w2).setCell 350 _) (by have := hb2.eD; omega) (by have := hb2.eD; omega))).trans hf3
      rw [List.drop_drop] at hb3
      refine ⟨true, rfl, hf, Res.next (c' := ⟨.dist last lit di (mb + v), pos + m, out, times⟩) (Runs.one ?_) (a.1.to hf hb3 ⟨rfl, AK.out.2.1, AK.out.2.2.1.fm hf, AK.out.2.2.2.fm hf, ?_⟩ rfl rfl sh.1) (a.2.1.to rfl rfl rfl) rfl ?_⟩
      · unfold step
        simp only [am.1, am.2.1]
        rw [pnum_at sh.1, sh.2]; rfl
      · show Value.int .i64 ((mb : Int) + (v : Int)) = _
        push_cast; rfl
      · unfold mu rk
        simp only []
        omega
set_option maxHeartbeats 1000000 in
theorem back_s (w : World) {last : Bool} {lit di : List Nat} {m pos : Nat} {out times : List Nat} (hI : Is w B D b R f bs ⟨.dist last lit di m, pos, out, times⟩) (hO : Op f) : StepOk 113 B D b R bs most ⟨.dist last lit di m, pos, out, times⟩ w := by
  obtain ⟨k2, k5, k6, k7, k8⟩ := id hI.at_
  have hle' : pos ≤ bs.length := hI.le
  have hm' : Bs w B D b R f (bs.drop pos) (win out) := hI.mem
  have c7 := hm'.cell (show 7 < 355 by decide)
  obtain ⟨v7, hv7⟩ : ∃ v, f 7 = v := ⟨_, rfl⟩
  have k7' := k7
  rw [hv7] at c7 k7'
  have hread := pread_c v7 di w hm' k7'
  have A : Aside (Is w B D b R f bs ⟨.dist last lit di m, pos, out, times⟩ ∧ Op f ∧ pos ≤ bs.length) := ⟨hI, hO, hle'⟩
  have AK : Aside (f 2 = fnv D 113 ∧ f 5 = .bool last ∧ Tbl w B (f 6) lit ∧ Tbl w B (f 7) di ∧ f 350 = .int .i64 (m : Int)) := ⟨k2, k5, k6, k7, k8⟩
  unfold StepOk
  cases hs : sread di (bs.drop pos) using SR.el with
  | cut =>
    rw [hs] at hread
    have AS : Aside (sread di (bs.drop pos) = .cut) := hs
    clear hI hO hle' hm' k2 k5 k6 k7 k7' k8 hv7 hs
    go_enter Tryz.func113, Tryz.ntmps113
    go_wp2_with (go_at_call 97; refine hread.mono ?_; rintro e2 w2 ⟨hf2, rfl, hb2⟩)
    first | go_ret | go_ret2
    have a := A.out
    refine ⟨false, rfl, hf2, Res.want (a.1.same hf2 hb2) a.2.1 ?_ ?_ (fun y => by simp) (by simp)⟩
    · have := cut_short AS.out AK.out.2.2.2.1.le15
      rw [List.length_drop] at this
      show bs.length < pos + 32
      omega
    · unfold step
      simp only [AS.out]
  | bad j =>
    rw [hs] at hread
    have AS : Aside (sread di (bs.drop pos) = .bad j) := hs
    clear hI hO hle' hm' k2 k5 k6 k7 k7' k8 hv7 hs
    go_enter Tryz.func113, Tryz.ntmps113
    go_wp2_with (go_at_call 97; refine hread.mono ?_; rintro e2 w2 ⟨hf2, rfl, hb2⟩)
    first | go_ret | go_ret2
    have a := A.out
    refine ⟨false, rfl, hf2, Res.over (c' := ⟨.bad 13, pos + j, out, times⟩) (Runs.one ?_) (a.1.bad a.2.1 hf2 hb2 13 (by decide) rfl rfl rfl rfl rfl rfl) rfl⟩
    unfold step
    simp only [AS.out]
  | got s n =>
    rw [hs] at hread
    have AS : Aside (sread di (bs.drop pos) = .got s n) := hs
    have hn : Aside (pos + n ≤ bs.length ∧ 0 < n) := ⟨sread_end hs hle', by have := sread_le (ls := di) (h := bs.drop pos); rw [hs] at this; exact this.2.1⟩
    by_cases hbig : 29 < s
    · have h3 : (30 : Int) ≤ (s : Int) := by omega
      have AB : Aside (29 < s) := hbig
      clear hI hO hle' hm' k2 k5 k6 k7 k7' k8 hv7 hs hbig
      go_enter Tryz.func113, Tryz.ntmps113
      go_wp2_with (first
        | (go_at_call 97; refine hread.mono ?_; rintro e2 w2 ⟨hf2, rfl, hb2⟩
           have hst := pstop_c 13 w2 hb2)
        | (go_at_call 71; refine hst.mono ?_; rintro e3 w3 ⟨rfl, hb3, hf3⟩))
      first | go_ret | go_ret2
      have a := A.out
      have bb := AB.out
      refine ⟨false, rfl, hf2.trans hf3, Res.over (c' := ⟨.bad 13, pos + n, out, times⟩) (Runs.one ?_) (a.1.bad a.2.1 (hf2.trans hf3) hb3 13 (by decide) rfl rfl rfl rfl rfl rfl) rfl⟩
      unfold step
      simp only [AS.out]
      rw [if_pos bb]
    · have h3 : ¬ (30 : Int) ≤ (s : Int) := by omega
      have AB : Aside (s ≤ 29) := (show s ≤ 29 by omega)
      clear hI hO hle' hm' k2 k5 k6 k7 k7' k8 hv7 hs hbig
      go_enter Tryz.func113, Tryz.ntmps113
      go_wp2_with (first
        | (go_at_call 97; refine hread.mono ?_; rintro e2 w2 ⟨hf2, rfl, hb2⟩
           have c8 := hb2.cell (show 348 < 355 by decide)
           have z8 := hb2.fz 348
           have hth := pthen_c 124 _ (hb2.set 348 (.int .i64 (s : Int)) (by decide)))
        | (go_at_call 66; refine hth.mono ?_; rintro e3 w3 ⟨rfl, hb3, hf3⟩))
      first | go_ret | go_ret2
      have a := A.out
      have bb := AB.out
      have q := hn.out
      have hf : Fm B w w3 := (hf2.trans (Fm.of_only ((Only.refl D w2).setCell 348 _) (by have := hb2.eD; omega) (by have := hb2.eD; omega))).trans hf3
      rw [List.drop_drop] at hb3
      refine ⟨true, rfl, hf, Res.next (c' := ⟨.dext last lit di m s, pos + n, out, times⟩) (Runs.one ?_) (a.1.to hf hb3 ⟨rfl, AK.out.2.1, AK.out.2.2.1.fm hf, AK.out.2.2.2.1.fm hf, AK.out.2.2.2.2, bb, rfl⟩ rfl rfl q.1) (a.2.1.to rfl rfl rfl) rfl ?_⟩
      · unfold step
        simp only [AS.out]
        rw [if_neg (by omega)]
      · unfold mu rk
        simp only []
        omega
end
end Go.Proofs.YtogednaamndpgaaGreatDoor

/-
 What the steps of a copy come to: backMore, copied.
-/
namespace Go.Proofs.YtogednaamndpgaaGreatDoor
open Go.RowKit
set_option linter.unusedVariables false
theorem win_len (out : List Nat) : (win out).length = min out.length 32768 := by
 unfold win
 rw [glastN_length, iz_len]
theorem win_back {out : List Nat} {d : Nat} (h1 : 1 ≤ d) (h2 : d ≤ out.length) (h3 : d ≤ 32768) : (win out)[(win out).length - d]? = some ((out.getD (out.length - d) 0 : Nat) : Int) := by
 rw [win_len]
 unfold win glastN
 rw [List.getElem?_drop, iz_len]
 have e : out.length - 32768 + (min out.length 32768 - d) = out.length - d := by omega
 rw [e]
 unfold iz
 rw [List.getElem?_map, List.getElem?_eq_getElem (by omega), List.getD_eq_getElem?_getD, List.getElem?_eq_getElem (by omega)]
 rfl
section
variable {B D b R : Nat} {f : Nat → Value} {bs : List Bool} {most : Nat}
set_option maxHeartbeats 1000000 in
theorem backMore_s (w : World) {last : Bool} {lit di : List Nat} {n q pos : Nat} {out times : List Nat} (hI : Is w B D b R f bs ⟨.dext last lit di n q, pos, out, times⟩) (hO : Op f) : StepOk 124 B D b R bs most ⟨.dext last lit di n q, pos, out, times⟩ w := by
 obtain ⟨k2, k5, k6, k7, k8, k9, k10⟩ := id hI.at_
 have hle' : pos ≤ bs.length := hI.le
 have hm' : Bs w B D b R f (bs.drop pos) (win out) := hI.mem
 have c0 := (hm'.cell (show 0 < 355 by decide)).trans (congrArg some hm'.c0)
 have c8 := (hm'.cell (show 348 < 355 by decide)).trans (congrArg some k10)
 have t0 := hI.tabs.t3 q (by omega)
 have hl := pdmore_le q (by omega)
 obtain ⟨m, hm⟩ : ∃ m, dmore q = m := ⟨_, rfl⟩
 obtain ⟨mb, hmb⟩ : ∃ mb, dbase q = mb := ⟨_, rfl⟩
 rw [hm] at t0
 rw [hm, hmb] at hl
 have hqi : ((q : Int) < 30) = True := eq_true (by omega)
 have hqn : (q < 30) = True := eq_true (by omega)
 have hmw : IntKind.i64.wrap (m : Int) = (m : Int) := by rw [IntKind.wrap_i64]; omega
 have A : Aside (Is w B D b R f bs ⟨.dext last lit di n q, pos, out, times⟩ ∧ Op f ∧ pos ≤ bs.length) := ⟨hI, hO, hle'⟩
 have AK : Aside (f 2 = fnv D 124 ∧ f 5 = .bool last ∧ Tbl w B (f 6) lit ∧ Tbl w B (f 7) di ∧ f 350 = .int .i64 (n : Int)) := ⟨k2, k5, k6, k7, k8⟩
 have AM : Aside (dmore q = m ∧ dbase q = mb ∧ m ≤ 13 ∧ mb + 2 ^ m ≤ 32769 ∧ 1 ≤ mb ∧ f 348 = .int .i64 (q : Int)) := ⟨hm, hmb, hl.1, hl.2.1, hl.2.2, k10⟩
 have hkeep : Aside (∀ u h', Bs u B D b R f h' (win out) → Fm B w.drew u → u.cell? ⟨D, 0, none⟩ = some (.pointer (some ⟨b, 0, none⟩)) ∧ u.cell? ⟨D, 348, none⟩ = some (.int .i64 (q : Int)) ∧ u.cell? ⟨4, q, none⟩ = some (.int .u8 (m : Int))) := fun u h' hb hf => by
  refine ⟨(hb.cell (show 0 < 355 by decide)).trans (congrArg some hb.c0), (hb.cell (show 348 < 355 by decide)).trans (congrArg some k10), ?_⟩
  have := (hI.tabs.below ((show Fm B w u from ⟨hf.os, hf.tape, hf.output, hf.size, hf.block⟩).below (by have := hm'.lt; omega)) hI.b7).t3 q (by omega)
  rw [hm] at this
  exact this
 unfold StepOk
 by_cases hshort : (bs.drop pos).length < m
 ·have htake := take_short m w.drew hm'.drew hshort
  have AS : Aside ((bs.drop pos).length < m) := hshort
  clear hI hO hle' hm' k2 k5 k6 k7 k8 k9 k10 hm hmb hl hshort
  go_enter Tryz.func124, Tryz.ntmps124
  go_upto_region 1 with fail
  go_region_held3 (fun u => u.cell? ⟨D, 0, none⟩ = some (.pointer (some ⟨b, 0, none⟩)) ∧ u.cell? ⟨D, 348, none⟩ = some (.int .i64 (q : Int)) ∧ u.cell? ⟨4, q, none⟩ = some (.int .u8 (m : Int))) (first | assumption | exact ⟨c0, c8, t0⟩)
   (first | (go_at_call 64; refine htake.mono ?_; rintro e2 w2 ⟨rfl, rfl⟩))
  all_goals
   go_wp2_with fail
   first | go_ret | go_ret2
   have a := A.out
   have am := AM.out
   have sh := AS.out
   rw [List.length_drop] at sh
   refine ⟨false, rfl, (Fm.refl B w).drew, Res.want (a.1.same (Fm.refl B w).drew a.1.mem.drew) a.2.1 ?_ ?_ (fun y => by simp) (by simp)⟩
   ·show bs.length < pos + 32
    omega
   ·unfold step
    simp only [am.1]
    rw [num_no (by omega)]; rfl
 ·obtain ⟨v, hv⟩ : ∃ v, nm ((bs.drop pos).take m) = v := ⟨_, rfl⟩
  have hvlt : v < 2 ^ m := by rw [← hv]; exact nm_take_lt _ _
  have htake := take_at m w.drew hm'.drew (by omega) (by omega) v hv
  have AS : Aside (pos + m ≤ bs.length ∧ nm ((bs.drop pos).take m) = v ∧ mb + v ≤ 32768) := ⟨by rw [List.length_drop] at hshort; omega, hv, by omega⟩
  obtain ⟨dd, hdd⟩ : ∃ dd, mb + v = dd := ⟨_, rfl⟩
  have hmbI : (mb : Int) + (v : Int) = (dd : Int) := by omega
  have g1 : mb < 9223372036854775808 := by omega
  have g2 : v < 9223372036854775808 := by omega
  have g3 : dd < 9223372036854775808 := by omega
  have AB7 : Aside (B ≤ w.heap.size) := (show B ≤ w.heap.size by have := hm'.lt; omega)
  have hq30 : q < 30 := by omega
  have hf0 : Aside (∀ u, Fm B w.drew u → u.cell? ⟨5, q, none⟩ = some (.int .u16 (mb : Int))) := fun u hf => by
   have := (hI.tabs.below (hf.of_drew.below AB7.out) hI.b7).t4 q hq30
   rw [hmb] at this
   exact this
  have hwr : wrap64 ((mb : Int) + (v : Int)) = (dd : Int) := by rw [hmbI]; exact w64_cast g3
  have hw1 : wrap64 (mb : Int) = (mb : Int) := w64_cast g1
  have hw2 : wrap64 (v : Int) = (v : Int) := w64_cast g2
  have hw3 : wrap64 (dd : Int) = (dd : Int) := w64_cast g3
  clear g1 g2 g3 hq30
  have ADD : Aside (mb + v = dd) := hdd
  clear hI hO hle' hm' k2 k5 k6 k7 k8 k9 k10 hm hmb hl hshort hvlt hv hdd
  go_enter Tryz.func124, Tryz.ntmps124
  go_upto_region 1 with fail
  go_region_held3 (fun u => u.cell? ⟨D, 0, none⟩ = some (.pointer (some ⟨b, 0, none⟩)) ∧ u.cell? ⟨D, 348, none⟩ = some (.int .i64 (q : Int)) ∧ u.cell? ⟨4, q, none⟩ = some (.int .u8 (m : Int))) (first | assumption | exact ⟨c0, c8, t0⟩ | exact hkeep.out _ _ hb2 hf2)
   (first | (go_at_call 64; refine htake.mono ?_; rintro e2 w2 ⟨rfl, hb2, hf2⟩))
  all_goals
   have d0 := hf0.out _ hf2
   have d8 := (hkeep.out _ _ hb2 hf2).2.1
   have d9 := hb2.cell (show 349 < 355 by decide)
   have z9 := hb2.fz 349
   have hs4 := hb2.set 349 (.int .i64 (dd : Int)) (by decide)
   have hf4 : Aside (Fm B w (w2.setCell ⟨D, 349, none⟩ (.int .i64 (dd : Int)))) := hf2.of_drew.trans (hb2.fmD ((Only.refl D w2).setCell 349 _))
   clear c0 c8 t0 htake
   go_upto_region 5 with fail
   obtain ⟨w4, hw4⟩ : ∃ w4, w2.setCell ⟨D, 349, none⟩ (.int .i64 (dd : Int)) = w4 := ⟨_, rfl⟩
   rw [hw4] at hs4 hf4 ⊢
   have e1 := (hs4.cell (show 1 < 355 by decide)).trans (congrArg some hs4.c1)
   have e9 := hs4.cell (show 349 < 355 by decide)
   rw [upd_same] at e9
   have hlen : ∀ n, Calls Tryz.prog 128 #[.pointer (some ⟨R, 0, none⟩)] (w4.drewN n) fun e w' => e = .returned (.int .i64 ((win out).length : Int)) ∧ w' = w4.drewN n := fun n => (glen_r (w4.drewN n) (hs4.drewN n).rg).mono fun e w' h => ⟨h.1, h.2.symm⟩
   obtain ⟨LL, hLL⟩ : ∃ LL, (win out).length = LL := ⟨_, rfl⟩
   rw [hLL] at hlen
   have ALL : Aside ((win out).length = LL ∧ Bs w4 B D b R (upd f 349 (.int .i64 (dd : Int))) ((bs.drop pos).drop m) (win out)) := ⟨hLL, hs4⟩
   clear hLL hs4 hw4 d0 d8 d9 z9 hb2 hf2 hmbI hwr hw1 hw2 hw3
   by_cases hfar : LL < dd
   ·have hfi : ((LL : Int) < (dd : Int)) = True := eq_true (by omega)
    have hfn : (LL < dd) = True := eq_true hfar
    have AF : Aside (LL < dd) := hfar
    clear hfar
    go_quiet (first | (go_at_call 128; refine Calls.quiet_of_same (hlen _)))
    have hst := pstop_c 14 _ (ALL.out.2.drewN nq)
    go_wp2_with (go_at_call 71; refine hst.mono ?_; rintro e3 w3 ⟨rfl, hb3, hf3⟩)
    first | go_ret | go_ret2
    have a := A.out
    have am := AM.out
    have sh := AS.out
    have hf : Fm B w w3 := (hf4.out.drewN nq).trans hf3
    refine ⟨false, rfl, hf, Res.over (c' := ⟨.bad 14, pos + m, out, times⟩) (Runs.one ?_) (a.1.bad a.2.1 hf hb3 14 (by decide) rfl rfl rfl rfl rfl rfl) rfl⟩
    unfold step
    simp only [am.1, am.2.1]
    rw [pnum_at sh.1, sh.2.1]
    have h1 := ALL.out.1
    rw [win_len] at h1
    have h2 := AF.out
    have h3 := ADD.out
    simp only [Option.map_some]
    rw [if_pos (by omega)]
   ·have hfi : ((LL : Int) < (dd : Int)) = False := eq_false (by omega)
    have hfn : (LL < dd) = False := eq_false hfar
    have AF : Aside (¬ LL < dd) := hfar
    clear hfar
    go_quiet (first | (go_at_call 128; refine Calls.quiet_of_same (hlen _)))
    have hst := pthen_c 129 _ (ALL.out.2.drewN nq)
    go_wp2_with (go_at_call 66; refine hst.mono ?_; rintro e3 w3 ⟨rfl, hb3, hf3⟩)
    first | go_ret | go_ret2
    have a := A.out
    have am := AM.out
    have sh := AS.out
    have hf : Fm B w w3 := (hf4.out.drewN nq).trans hf3
    have h1 := ALL.out.1
    rw [win_len] at h1
    have h2 := AF.out
    have h3 := ADD.out
    rw [List.drop_drop] at hb3
    refine ⟨true, rfl, hf, Res.next (c' := ⟨.copy last lit di n dd, pos + m, out, times⟩) (Runs.one ?_) (a.1.to hf hb3 ⟨rfl, AK.out.2.1, AK.out.2.2.1.fm hf, AK.out.2.2.2.1.fm hf, AK.out.2.2.2.2, rfl, by omega, (show dd ≤ out.length by omega), by omega⟩ rfl rfl sh.1) (a.2.1.to rfl rfl rfl) rfl ?_⟩
    ·unfold step
     simp only [am.1, am.2.1]
     rw [pnum_at sh.1, sh.2.1]
     simp only [Option.map_some]
     rw [if_neg (by omega), h3]
    ·unfold mu rk
     simp only []
     omega
set_option maxHeartbeats 1000000 in
theorem copied_s (w : World) {last : Bool} {lit di : List Nat} {n d pos : Nat} {out times : List Nat} (hI : Is w B D b R f bs ⟨.copy last lit di n d, pos, out, times⟩) (hO : Op f) (hm : out.length < most) (hnb : n < 65536) : StepOk 129 B D b R bs most ⟨.copy last lit di n d, pos, out, times⟩ w := by
 obtain ⟨k2, k5, k6, k7, k8, k9, k10, k11, k12⟩ := id hI.at_
 have hle' : pos ≤ bs.length := hI.le
 have hm' : Bs w B D b R f (bs.drop pos) (win out) := hI.mem
 have c8 := (hm'.cell (show 350 < 355 by decide)).trans (congrArg some k8)
 have A : Aside (Is w B D b R f bs ⟨.copy last lit di n d, pos, out, times⟩ ∧ Op f ∧ pos ≤ bs.length ∧ out.length < most) := ⟨hI, hO, hle', hm⟩
 have AK : Aside (f 2 = fnv D 129 ∧ f 5 = .bool last ∧ Tbl w B (f 6) lit ∧ Tbl w B (f 7) di ∧ 1 ≤ d ∧ d ≤ out.length ∧ d ≤ 32768 ∧ f 349 = .int .i64 (d : Int)) := ⟨k2, k5, k6, k7, k10, k11, k12, k9⟩
 unfold StepOk
 cases n with
 | zero =>
  have hst := pthen_c 69 _ hm'
  have c8' : w.cell? ⟨D, 350, none⟩ = some (.int .i64 0) := c8
  clear hI hO hle' hm' k2 k5 k6 k7 k8 k9 k10 k11 k12 hm hnb c8
  go_enter Tryz.func129, Tryz.ntmps129
  go_wp2_with (go_at_call 66; refine hst.mono ?_; rintro e3 w3 ⟨rfl, hb3, hf3⟩)
  first | go_ret | go_ret2
  have a := A.out
  refine ⟨true, rfl, hf3, Res.next (c' := ⟨.sym last lit di, pos, out, times⟩) (Runs.one rfl) (a.1.to hf3 hb3 ⟨rfl, AK.out.2.1, AK.out.2.2.1.fm hf3, AK.out.2.2.2.1.fm hf3⟩ rfl rfl a.2.2.1) (a.2.1.to rfl rfl rfl) rfl ?_⟩
  unfold mu rk
  simp only []
  omega
 | succ n =>
  have z8 := hm'.fz 350
  have hs4 := hm'.set 350 (.int .i64 (n : Int)) (by decide)
  have hf4 : Aside (Fm B w (w.setCell ⟨D, 350, none⟩ (.int .i64 (n : Int)))) := hm'.fmD ((Only.refl D w).setCell 350 _)
  have hne : (((n + 1 : Nat) : Int) == 0) = false := by rw [beq_eq_false_iff_ne]; omega
  obtain ⟨n1, hn1⟩ : ∃ n1, n + 1 = n1 := ⟨_, rfl⟩
  rw [hn1] at c8 hne hnb
  have hsub : (n1 : Int) - 1 = (n : Int) := by omega
  have hnw : n < 9223372036854775808 := by omega
  have hw : wrap64 (n : Int) = (n : Int) := w64_cast hnw
  clear hI hO hle' hm' k2 k5 k6 k7 k8 k9 k10 k11 k12 hm hnb hn1 hnw
  go_enter Tryz.func129, Tryz.ntmps129
  go_upto_region 4 with fail
  obtain ⟨w4, hw4⟩ : ∃ w4, w.setCell ⟨D, 350, none⟩ (.int .i64 (n : Int)) = w4 := ⟨_, rfl⟩
  rw [hw4] at hs4 hf4 ⊢
  have e1 := (hs4.cell (show 1 < 355 by decide)).trans (congrArg some hs4.c1)
  have e9 := hs4.cell (show 349 < 355 by decide)
  rw [upd_ne _ _ (show 349 ≠ 350 by decide), AK.out.2.2.2.2.2.2.2] at e9
  obtain ⟨z, hz⟩ : ∃ z, out.getD (out.length - d) 0 = z := ⟨_, rfl⟩
  have hback : ∀ n, Calls Tryz.prog 131 #[.pointer (some ⟨R, 0, none⟩), .int .i64 (d : Int)] (w4.drewN n) fun e w' => e = .returned (.tuple #[.int .u8 (z : Int), .bool true]) ∧ ∃ m, w' = (w4.drewN n).drewN m := fun n => by
   have k := AK.out
   clear hw hsub
   refine gback_r d (z : Int) (w4.drewN n) (hs4.drewN n).rg k.2.2.2.2.1 ?_ ?_
   ·rw [win_len]; omega
   ·rw [win_back k.2.2.2.2.1 k.2.2.2.2.2.1 k.2.2.2.2.2.2.1, hz]
  have AS : Aside (Bs w4 B D b R (upd f 350 (.int .i64 (n : Int))) (bs.drop pos) (win out) ∧ out.getD (out.length - d) 0 = z) := ⟨hs4, hz⟩
  clear hs4 hw4 hz c8 z8 hne hw hsub
  go_quiet (first | (go_at_call 131; refine Calls.quiet_of (hback _)))
  have hst := pgive_c (z : Int) _ (AS.out.1.drewN nq)
  go_wp2_with (go_at_call 98; refine hst.mono ?_; rintro e3 w3 ⟨rfl, hb3, hf3⟩)
  first | go_ret | go_ret2
  have a := A.out
  have k := AK.out
  have hf : Fm B w w3 := (hf4.out.drewN nq).trans hf3
  rw [win_put] at hb3
  refine ⟨false, rfl, hf, Res.gave (c' := ⟨.copy last lit di n d, pos, out ++ [z], times ++ [(pos - 1) / 8]⟩) (Runs.one ?_) (a.1.to hf hb3 ⟨k.1, k.2.1, k.2.2.1.fm hf, k.2.2.2.1.fm hf, rfl, k.2.2.2.2.2.2.2, k.2.2.2.2.1, ?_, k.2.2.2.2.2.2.1⟩ rfl rfl a.2.2.1) rfl a.2.1.done a.2.1.why z rfl rfl⟩
  ·unfold step
   simp only [AS.out.2]
   rw [give_lt a.2.2.2]
  ·show d ≤ (out ++ [z]).length
   rw [List.length_append]
   have := k.2.2.2.2.2.1
   omega
end
end Go.Proofs.YtogednaamndpgaaGreatDoor

/-
  What fixedCodes comes to: the codes of fixed blocks, made once.
-/
namespace Go.Proofs.YtogednaamndpgaaGreatDoor
open Go.RowKit
set_option linter.unusedVariables false
def vi (l : List Int) : List Value := l.map (Value.int .i64)
theorem vi_set (l : List Int) (i : Nat) (z : Int) : (vi l).toArray.setIfInBounds i (.int .i64 z) = (vi (l.set i z)).toArray := by simp [vi, List.map_set]
theorem Cells.int {w : World} {g : Nat} {l : List Int} (h : Cells w g (vi l).toArray 3) {i : Nat} {z : Int} (hi : l[i]? = some z) : w.cell? ⟨g, i, none⟩ = some (.int .i64 z) := by
  rw [h.cell i, List.getElem?_toArray]
  unfold vi
  rw [List.getElem?_map, hi]
  rfl
theorem Cells.lens {w : World} {g : Nat} {l zs : List Int} (h : Cells w g (vi l).toArray 3) (hz : ∀ (i : Nat) (z : Int), zs[i]? = some z → l[i]? = some z) : Lens w (some ⟨g, 0, none⟩) zs :=
  Or.inr ⟨g, 0, rfl, fun i z hi => by rw [Nat.zero_add]; exact h.int (hz i z hi)⟩
theorem info3 : (Tryz.prog.info? 3).map (fun i => (i.zero, i.size, i.bytes)) = some (some (.int .i64 0), 1, 8) := by kernel_rfl
theorem madei (n : Nat) (hn : n ≤ 1048576) (w : World) : (Instr.makeSlice 74 (.int .i64 (n : Int)) (.int .i64 (n : Int))).run Tryz.prog w = .ok (.slice (some ⟨w.heap.size, 0, none⟩) n n) (w.alloc (.cells (vi (List.replicate n 0)).toArray 3)) := by
  obtain ⟨i, hi, hz, hs, hb⟩ := ginfo_parts info3
  have := run_make (P := Tryz.prog) w 74 3 i _ Tryz.underlying74 hi hz .i64 .i64 n n (by omega) (by omega) (by rw [hb]; omega) (by omega)
  rw [this, hs]
  have e : madeCells (Value.int .i64 0).cells ((n : Int).toNat * 1) = (vi (List.replicate n 0)).toArray := by
    apply Array.toList_inj.1
    show (madeCells #[Value.int .i64 0] _).toList = _
    rw [toList_madeCells_one]
    simp [vi]
  rw [e]
  simp
theorem fixedLength_c (s : Nat) (hs : s < 288) (w : World) : Calls Tryz.prog 95 #[.int .i64 (s : Int)] w fun e w' => e = .returned (.int .i64 (fixL.getD s 0 : Nat)) ∧ w = w' := by
  have hv : fixL.getD s 0 = if 256 ≤ s ∧ s < 280 then 7 else if 144 ≤ s ∧ s < 256 then 9 else 8 := by
    unfold fixL
    rw [List.getD_eq_getElem?_getD, List.getElem?_map, List.getElem?_range hs]
    rfl
  rw [hv]
  clear hv
  by_cases h1 : s < 144
  · rw [if_neg (by omega), if_neg (by omega)]
    have e1 : ((s : Int) < 144) = True := eq_true (by omega)
    clear hs h1
    go_enter Tryz.func95, Tryz.ntmps95
    go_wp2_with fail
    first | go_ret | go_ret2
    exact ⟨rfl, rfl⟩
  · by_cases h2 : s < 256
    · rw [if_neg (by omega), if_pos (by omega)]
      have e1 : ((s : Int) < 144) = False := eq_false (by omega)
      have e2 : ((s : Int) < 256) = True := eq_true (by omega)
      clear hs h1 h2
      go_enter Tryz.func95, Tryz.ntmps95
      go_wp2_with fail
      first | go_ret | go_ret2
      exact ⟨rfl, rfl⟩
    · by_cases h3 : s < 280
      · rw [if_pos (by omega)]
        have e1 : ((s : Int) < 144) = False := eq_false (by omega)
        have e2 : ((s : Int) < 256) = False := eq_false (by omega)
        have e3 : ((s : Int) < 280) = True := eq_true (by omega)
        clear hs h1 h2 h3
        go_enter Tryz.func95, Tryz.ntmps95
        go_wp2_with fail
        first | go_ret | go_ret2
        exact ⟨rfl, rfl⟩
      · rw [if_neg (by omega), if_neg (by omega)]
        have e1 : ((s : Int) < 144) = False := eq_false (by omega)
        have e2 : ((s : Int) < 256) = False := eq_false (by omega)
        have e3 : ((s : Int) < 280) = False := eq_false (by omega)
        clear hs h1 h2 h3
        go_enter Tryz.func95, Tryz.ntmps95
        go_wp2_with fail
        first | go_ret | go_ret2
        exact ⟨rfl, rfl⟩
theorem size67 : (Tryz.prog.info? 86).map (·.size) = some 2 := by kernel_rfl
section
variable {B D b R : Nat} {f : Nat → Value} {h : List Bool} {l : List Int}
def FixTo (B D b R : Nat) (f : Nat → Value) (h : List Bool) (l : List Int) (w : World) (e : Ending) (w' : World) : Prop :=
  ∃ v3 v4 f', e = .returned (.agg #[v3, v4]) ∧ Bs w' B D b R f' h l ∧ Fm B w w' ∧ f' 3 = v3 ∧ f' 4 = v4 ∧ (∀ i, i ≠ 3 → i ≠ 4 → f' i = f i) ∧ Tbl w' B v3 fixL ∧ Tbl w' B v4 fixD
set_option maxHeartbeats 1000000 in
theorem fixed_had (w : World) (s : Bs w B D b R f h l) (t3 : Tbl w B (f 3) fixL) (t4 : Tbl w B (f 4) fixD) : Calls Tryz.prog 68 #[.pointer (some ⟨D, 0, none⟩)] w fun e w' => FixTo B D b R f h l w e w' := by
  obtain ⟨lo, hi, T, e3, _⟩ := id t3
  obtain ⟨lo4, hi4, T4, e4, _⟩ := id t4
  obtain ⟨w1, hw1⟩ : ∃ w1, w1 = w.alloc (.cells #[.pointer none, .pointer none] 86) := ⟨_, rfl⟩
  have b1 : Below w.heap.size w w1 := by rw [hw1]; exact (Below.refl _ w).alloc (Nat.le_refl _) _
  have s1 := s.below b1 (Nat.le_refl _)
  have c3 := (s1.cell (show 3 < 355 by decide)).trans (congrArg some e3)
  have c4 := s1.cell (show 4 < 355 by decide)
  have k0 : Cells w1 w.heap.size #[.pointer none, .pointer none] 86 := by rw [hw1]; exact Cells.new w _ 86
  obtain ⟨H, hH⟩ : ∃ H, w.heap.size = H := ⟨_, rfl⟩
  rw [hH] at k0
  have r0 := k0.cell 0
  have r1 := k0.cell 1
  have q0 := k0.frozen 0
  have q1 := k0.frozen 1
  simp only [List.getElem?_toArray, List.getElem?_cons_zero, List.getElem?_cons_succ] at r0 r1
  have A : Aside (Bs w B D b R f h l ∧ Below w.heap.size w w1 ∧ Tbl w B (f 3) fixL ∧ Tbl w B (f 4) fixD ∧ f 3 = .pointer (some ⟨T, 0, none⟩) ∧ Bs w1 B D b R f h l ∧ Cells w1 H #[.pointer none, .pointer none] 86 ∧ w.heap.size = H) := ⟨s, b1, t3, t4, e3, s1, k0, hH⟩
  clear s t3 t4 e3 b1 s1 k0
  obtain ⟨v4, hv4⟩ : ∃ v, v = Value.pointer (some ⟨T4, 0, none⟩) := ⟨_, rfl⟩
  have AV : Aside (f 4 = v4) := e4.trans hv4.symm
  rw [e4] at c4
  subst hv4
  clear e4
  go_enter Tryz.func68, Tryz.ntmps68
  go_upto_region 1 with fail
  rw [← hw1]
  clear hw1 hH
  go_wp2_with fail
  obtain ⟨v4, hv4⟩ : ∃ v, v = Value.pointer (some ⟨T4, 0, none⟩) := ⟨_, rfl⟩
  rw [← hv4] at AV ⊢
  have a := A.out
  have k2 : Cells ((w1.setCell ⟨H, 0, none⟩ (.pointer (some ⟨T, 0, none⟩))).setCell ⟨H, 1, none⟩ v4) H #[.pointer (some ⟨T, 0, none⟩), v4] 86 := (a.2.2.2.2.2.2.1.set 0 (.pointer (some ⟨T, 0, none⟩))).set 1 v4
  have hb : Below w.heap.size w ((w1.setCell ⟨H, 0, none⟩ (.pointer (some ⟨T, 0, none⟩))).setCell ⟨H, 1, none⟩ v4) := a.2.1.trans ((((Only.refl H w1).setCell 0 _).setCell 1 _).below (by omega))
  (try simp only [Exit.inBlock, Exit.then])
  refine bodyPost_ret (v := .agg #[.pointer (some ⟨T, 0, none⟩), v4]) ?_ rfl ?_
  · exact results_cell_row rfl _ _ H 86 _ (0, 0) _ rfl k2 Tryz.underlying86 rfl size67
  · refine ⟨_, v4, f, rfl, a.1.below hb (Nat.le_refl _), Fm.of_below hb (Nat.le_refl _), a.2.2.2.2.1, AV.out, fun _ _ _ => rfl, ?_, ?_⟩
    · have := a.2.2.1.fm (Fm.of_below (B := B) hb (Nat.le_refl _)); rwa [a.2.2.2.2.1] at this
    · have := a.2.2.2.1.fm (Fm.of_below (B := B) hb (Nat.le_refl _)); rwa [AV.out] at this
set_option maxRecDepth 100000 in
set_option maxHeartbeats 2000000 in
theorem fixed_make (w : World) (s : Bs w B D b R f h l) (e3 : f 3 = .pointer none) : Calls Tryz.prog 68 #[.pointer (some ⟨D, 0, none⟩)] w fun e w' => FixTo B D b R f h l w e w' := by
  obtain ⟨w1, hw1⟩ : ∃ w1, w1 = w.alloc (.cells #[.pointer none, .pointer none] 86) := ⟨_, rfl⟩
  have b1 : Below w.heap.size w w1 := by rw [hw1]; exact (Below.refl _ w).alloc (Nat.le_refl _) _
  have s1 := s.below b1 (Nat.le_refl _)
  have c3 := (s1.cell (show 3 < 355 by decide)).trans (congrArg some e3)
  have k0 : Cells w1 w.heap.size #[.pointer none, .pointer none] 86 := by rw [hw1]; exact Cells.new w _ 86
  have z1 : w1.heap.size = w.heap.size + 1 := by rw [hw1]; simp
  have hmk : (Instr.makeSlice 74 (.int .i64 288) (.int .i64 288)).run Tryz.prog w1 = .ok (.slice (some ⟨w1.heap.size, 0, none⟩) 288 288) (w1.alloc (.cells (vi (List.replicate 288 0)).toArray 3)) := madei 288 (by decide) w1
  obtain ⟨w2, hw2⟩ : ∃ w2, w2 = w1.alloc (.cells (vi (List.replicate 288 0)).toArray 3) := ⟨_, rfl⟩
  have b2 : Below w1.heap.size w1 w2 := by rw [hw2]; exact (Below.refl _ w1).alloc (Nat.le_refl _) _
  have k1 : Cells w2 w1.heap.size (vi (List.replicate 288 0)).toArray 3 := by rw [hw2]; exact Cells.new w1 _ 3
  rw [← hw2] at hmk
  have k0' := k0.below b2 (by omega)
  obtain ⟨g, hg⟩ : ∃ g, w1.heap.size = g := ⟨_, rfl⟩
  rw [hg] at hmk k1
  obtain ⟨H, hH⟩ : ∃ H, w.heap.size = H := ⟨_, rfl⟩
  have A : Aside (Bs w B D b R f h l ∧ Below w.heap.size w w2 ∧ Cells w2 H #[.pointer none, .pointer none] 86 ∧ Cells w2 g (vi (List.replicate 288 0)).toArray 3 ∧ w.heap.size = H ∧ g = H + 1 ∧ B + 4 ≤ H) := ⟨s, b1.trans (b2.mono b1.size), by rw [← hH]; exact k0', k1, hH, by omega, by have := s.lt; omega⟩
  clear s e3 b1 s1 k0 k0' b2 k1 z1 hg hw2
  go_enter Tryz.func68, Tryz.ntmps68
  go_upto_region 1 with fail
  rw [← hw1]
  clear hw1 hH
  go_wp2_with fail
  go_loopg [19] 288 (fun gg si wr => ∃ k : Nat, si = .int .i64 k ∧ Aside (k + gg = 288 ∧ Only g w2 wr ∧ ∃ l', Cells wr g (vi l').toArray 3 ∧ l'.length = 288 ∧ ∀ i, i < k → l'[i]? = some ((fixL.getD i 0 : Nat) : Int)))
  case atStart => exact ⟨0, rfl, by omega, Only.refl _ _, _, A.out.2.2.2.1, by simp, fun i hi => by omega⟩
  case round =>
    obtain ⟨k, rfl, hI⟩ := hrel
    obtain ⟨hkg, hon, l', hcl, hll, hfix⟩ := hI.out
    by_cases hk : k < 288
    · have hki : ((k : Int) < 288) = True := eq_true (by omega)
      have hkn : (k < 288) = True := eq_true hk
      have hkI : (k : Int) < 1000 := by omega
      have hc := fixedLength_c k hk wr
      obtain ⟨x, hx⟩ : ∃ x, fixL.getD k 0 = x := ⟨_, rfl⟩
      rw [hx] at hc
      obtain ⟨y0, hy0⟩ : ∃ y, l'[k]? = some y := ⟨_, List.getElem?_eq_getElem (show k < l'.length by omega)⟩
      have cc := hcl.int hy0
      have zz := hcl.frozen k
      have hnew := hcl.set k (.int .i64 (x : Int))
      rw [vi_set] at hnew
      have AN : Aside (k + gk = 288 ∧ Only g w2 (wr.setCell ⟨g, k, none⟩ (.int .i64 (x : Int))) ∧ Cells (wr.setCell ⟨g, k, none⟩ (.int .i64 (x : Int))) g (vi (l'.set k (x : Int))).toArray 3 ∧ l'.length = 288 ∧ (∀ i, i < k → l'[i]? = some ((fixL.getD i 0 : Nat) : Int)) ∧ fixL.getD k 0 = x ∧ k < 288) := ⟨hkg, hon.setCell k _, hnew, hll, hfix, hx, hk⟩
      clear hI hkg hon hcl hll hfix hnew hx hk hy0
      go_wp2_with (go_at_call 95; refine hc.mono ?_; rintro e5 w5 ⟨rfl, rfl⟩)
      have an := AN.out
      go_roundg (gk - 1)
      case measure => omega
      case rel =>
        refine ⟨k + 1, by go_num, by omega, an.2.1, _, an.2.2.1, by rw [List.length_set]; exact an.2.2.2.1, fun i hi => ?_⟩
        rcases (show i < k ∨ i = k by omega) with h1 | rfl
        · rw [List.getElem?_set_ne (by omega)]; exact an.2.2.2.2.1 i h1
        · rw [List.getElem?_set_self (by omega), an.2.2.2.2.2.1]
    · have hk1 : k = 288 := by omega
      subst hk1
      have hlens : Lens wr (some ⟨g, 0, none⟩) (iz fixL) := hcl.lens fun i z hz => by
        unfold iz at hz
        rw [List.getElem?_map] at hz
        have hi : i < 288 := by
          have := Option.isSome_map ▸ congrArg Option.isSome hz
          cases hq : fixL[i]? with
          | none => rw [hq] at hz; cases hz
          | some y => have := (List.getElem?_eq_some_iff.1 hq).1; rw [fixL_len] at this; exact this
        rw [hfix i hi, ← hz, List.getD_eq_getElem?_getD]
        cases hq : fixL[i]? with
        | none => rw [hq] at hz; cases hz
        | some y => rfl
      have hnew := new_yes (some ⟨g, 0, none⟩) (iz fixL) 288 288 wr hlens (by rw [iz_len]; exact fixL_len) (by decide) (mays_iff.1 mays_fixL)
      rw [lens_iz] at hnew
      have AW : Aside (Only g w2 wr ∧ Cells wr g (vi l').toArray 3 ∧ l'.length = 288) := ⟨hon, hcl, hll⟩
      clear hI hkg hon hcl hll hfix hlens hk
      have a := A.out
      have hs5 : ∀ u, Below wr.heap.size wr u → Bs u B D b R f h l := fun u hu => a.1.below (a.2.1.trans ((AW.out.1.below (show w.heap.size ≤ g by omega)).trans (hu.mono (by have := AW.out.1.size; have := a.2.1.size; omega)))) (Nat.le_refl _)
      have AH : Aside (∀ u, Below wr.heap.size wr u → Bs u B D b R f h l) := hs5
      clear a hs5
      go_upto_region 10 with (go_at_call 96; refine hnew.mono ?_; rintro e6 w6 ⟨T, rfl, hp6, hb6⟩
                              have s6 := AH.out w6 hb6
                              have d3 := s6.cell (show 3 < 355 by decide)
                              have q3 := s6.fz 3)
      have hl6 : wr.heap.size ≤ w6.heap.size := hb6.size
      have s7 := s6.set 3 (.pointer (some ⟨T, 0, none⟩)) (by decide)
      have o7 : Only D w6 (w6.setCell ⟨D, 3, none⟩ (.pointer (some ⟨T, 0, none⟩))) := (Only.refl D w6).setCell 3 _
      have hDB := s6.eD
      have a := A.out
      have a3 := AW.out
      have hgw : g < wr.heap.size := a3.2.1.lt
      have hHw : H < wr.heap.size := by omega
      have kg7 : Cells (w6.setCell ⟨D, 3, none⟩ (.pointer (some ⟨T, 0, none⟩))) g (vi l').toArray 3 := (a3.2.1.below hb6 hgw).only o7 (by omega)
      have kH7 : Cells (w6.setCell ⟨D, 3, none⟩ (.pointer (some ⟨T, 0, none⟩))) H #[.pointer none, .pointer none] 86 := ((a.2.2.1.only a3.1 (by omega)).below hb6 hHw).only o7 (by omega)
      have hp7 : PT (w6.setCell ⟨D, 3, none⟩ (.pointer (some ⟨T, 0, none⟩))) wr.heap.size w6.heap.size T fixL := hp6.keep fun k h1 h2 => o7.block k (by omega)
      have f7 : Fm B w (w6.setCell ⟨D, 3, none⟩ (.pointer (some ⟨T, 0, none⟩))) := (((Fm.of_below a.2.1 (Nat.le_refl _)).only a3.1 (by omega)).trans (Fm.of_below hb6 (Nat.le_refl _))).trans (s6.fmD o7)
      have z7 : (w6.setCell ⟨D, 3, none⟩ (.pointer (some ⟨T, 0, none⟩))).heap.size = w6.heap.size := o7.size
      obtain ⟨w7, hw7⟩ : ∃ w7, w7 = w6.setCell ⟨D, 3, none⟩ (.pointer (some ⟨T, 0, none⟩)) := ⟨_, rfl⟩
      rw [← hw7] at s7 kg7 kH7 hp7 f7 z7 ⊢
      obtain ⟨lo, hlo⟩ : ∃ lo, wr.heap.size = lo := ⟨_, rfl⟩
      obtain ⟨hi, hhi⟩ : ∃ hi, w6.heap.size = hi := ⟨_, rfl⟩
      rw [hlo] at hp7 hgw hHw hl6
      rw [hhi] at hp7 z7 hl6
      have A7 : Aside (Bs w7 B D b R (upd f 3 (.pointer (some ⟨T, 0, none⟩))) h l ∧ Cells w7 g (vi l').toArray 3 ∧ Cells w7 H #[.pointer none, .pointer none] 86 ∧ PT w7 lo hi T fixL ∧ Fm B w w7 ∧ w7.heap.size = hi ∧ l'.length = 288 ∧ g < lo ∧ H < lo ∧ lo ≤ hi ∧ w.heap.size = H ∧ g = H + 1 ∧ B + 4 ≤ H ∧ D = B + 3) := ⟨s7, kg7, kH7, hp7, f7, z7, a3.2.2, hgw, hHw, hl6, a.2.2.2.2.1, a.2.2.2.2.2.1, a.2.2.2.2.2.2, hDB⟩
      clear s7 kg7 kH7 hp7 f7 z7 hgw hHw hl6 hDB a a3 o7 s6 d3 q3 hw7 hlo hhi hp6 hb6 hnew AH AW c3 hmk
      go_wp2_with fail
      go_loopg [41] 32 (fun gg si wr => ∃ k : Nat, si = .int .i64 k ∧ Aside (k + gg = 32 ∧ Only g w7 wr ∧ ∃ l', Cells wr g (vi l').toArray 3 ∧ l'.length = 288 ∧ ∀ i, i < k → l'[i]? = some 5))
      case atStart => exact ⟨0, rfl, by omega, Only.refl _ _, _, A7.out.2.1, A7.out.2.2.2.2.2.2.1, fun i hi => by omega⟩
      case round =>
        obtain ⟨k, rfl, hI⟩ := hrel
        obtain ⟨hkg, hon, l', hcl, hll, hfix⟩ := hI.out
        by_cases hk : k < 32
        · have hki : ((k : Int) < 32) = True := eq_true (by omega)
          have hkn : (k < 32) = True := eq_true hk
          have hkI : (k : Int) < 1000 := by omega
          obtain ⟨y0, hy0⟩ : ∃ y, l'[k]? = some y := ⟨_, List.getElem?_eq_getElem (show k < l'.length by omega)⟩
          have cc := hcl.int hy0
          have zz := hcl.frozen k
          have hnew := hcl.set k (.int .i64 5)
          rw [vi_set] at hnew
          have AN : Aside (k + gk = 32 ∧ Only g w7 (wr.setCell ⟨g, k, none⟩ (.int .i64 5)) ∧ Cells (wr.setCell ⟨g, k, none⟩ (.int .i64 5)) g (vi (l'.set k 5)).toArray 3 ∧ l'.length = 288 ∧ (∀ i, i < k → l'[i]? = some 5) ∧ k < 32) := ⟨hkg, hon.setCell k _, hnew, hll, hfix, hk⟩
          clear hI hkg hon hcl hll hfix hnew hk hy0
          go_wp2_with fail
          have an := AN.out
          go_roundg (gk - 1)
          case measure => omega
          case rel =>
            refine ⟨k + 1, by go_num, by omega, an.2.1, _, an.2.2.1, by rw [List.length_set]; exact an.2.2.2.1, fun i hi => ?_⟩
            rcases (show i < k ∨ i = k by omega) with h1 | rfl
            · rw [List.getElem?_set_ne (by omega)]; exact an.2.2.2.2.1 i h1
            · rw [List.getElem?_set_self (by omega)]
        · have hk1 : k = 32 := by omega
          subst hk1
          have hlens : Lens wr (some ⟨g, 0, none⟩) (iz fixD) := hcl.lens fun i z hz => by
            unfold iz at hz
            rw [List.getElem?_map] at hz
            cases hq : fixD[i]? with
            | none => rw [hq] at hz; cases hz
            | some y =>
              have hi := (List.getElem?_eq_some_iff.1 hq).1
              rw [fixD_len] at hi
              rw [hfix i hi, ← hz, hq]
              have hy : y = 5 := List.eq_of_mem_replicate (List.mem_of_getElem? hq)
              rw [hy]
              rfl
          have hnew := new_yes (some ⟨g, 0, none⟩) (iz fixD) 32 288 wr hlens (by rw [iz_len]; exact fixD_len) (by decide) (mays_iff.1 mays_fixD)
          rw [lens_iz] at hnew
          have hs8 : ∀ u, Below wr.heap.size wr u → Bs u B D b R (upd f 3 (.pointer (some ⟨T, 0, none⟩))) h l := fun u hu => by
            have a7 := A7.out
            exact (a7.1.keep (u := wr) fun k h1 h2 => hon.block k (by omega)).below hu (Nat.le_refl _)
          have AH : Aside ((∀ u, Below wr.heap.size wr u → Bs u B D b R (upd f 3 (.pointer (some ⟨T, 0, none⟩))) h l) ∧ Only g w7 wr) := ⟨hs8, hon⟩
          clear hI hkg hon hcl hll hfix hlens hk hs8
          go_upto_region 17 with (go_at_call 96; refine hnew.mono ?_; rintro e8 w8 ⟨T2, rfl, hp8, hb8⟩
                                  have s8 := AH.out.1 w8 hb8
                                  have d4 := s8.cell (show 4 < 355 by decide)
                                  have q4 := s8.fz 4)
          have a7 := A7.out
          have o8 := AH.out.2
          have s9 := s8.set 4 (.pointer (some ⟨T2, 0, none⟩)) (by decide)
          have o9 : Only D w8 (w8.setCell ⟨D, 4, none⟩ (.pointer (some ⟨T2, 0, none⟩))) := (Only.refl D w8).setCell 4 _
          have hsz : wr.heap.size = hi := by rw [o8.size]; exact a7.2.2.2.2.2.1
          have kH9 : Cells (w8.setCell ⟨D, 4, none⟩ (.pointer (some ⟨T2, 0, none⟩))) H #[.pointer none, .pointer none] 86 := ((a7.2.2.1.only o8 (by omega)).below hb8 (by omega)).only o9 (by omega)
          have p1 : PT (w8.setCell ⟨D, 4, none⟩ (.pointer (some ⟨T2, 0, none⟩))) lo hi T fixL := a7.2.2.2.1.keep fun k h1 h2 => ((o9.block k (by omega)).trans (hb8.block k (by omega))).trans (o8.block k (by omega))
          have p2 : PT (w8.setCell ⟨D, 4, none⟩ (.pointer (some ⟨T2, 0, none⟩))) wr.heap.size w8.heap.size T2 fixD := hp8.keep fun k h1 h2 => o9.block k (by omega)
          have f9 : Fm B w (w8.setCell ⟨D, 4, none⟩ (.pointer (some ⟨T2, 0, none⟩))) := ((a7.2.2.2.2.1.only o8 (by omega)).trans (Fm.of_below hb8 (Nat.le_refl _))).trans (s8.fmD o9)
          have z9 : (w8.setCell ⟨D, 4, none⟩ (.pointer (some ⟨T2, 0, none⟩))).heap.size = w8.heap.size := o9.size
          have hz8 : hi ≤ w8.heap.size := by have := hb8.size; omega
          obtain ⟨w9, hw9⟩ : ∃ w9, w9 = w8.setCell ⟨D, 4, none⟩ (.pointer (some ⟨T2, 0, none⟩)) := ⟨_, rfl⟩
          rw [← hw9] at s9 kH9 p1 p2 f9 z9 ⊢
          have r0 := kH9.cell 0
          have r1 := kH9.cell 1
          have q0 := kH9.frozen 0
          have q1 := kH9.frozen 1
          simp only [List.getElem?_toArray, List.getElem?_cons_zero, List.getElem?_cons_succ] at r0 r1
          have c3 := s9.cell (show 3 < 355 by decide)
          have c4 := s9.cell (show 4 < 355 by decide)
          rw [upd_ne _ _ (by decide), upd_same] at c3
          rw [upd_same] at c4
          have A9 : Aside (Bs w9 B D b R (upd (upd f 3 (.pointer (some ⟨T, 0, none⟩))) 4 (.pointer (some ⟨T2, 0, none⟩))) h l ∧ Cells w9 H #[.pointer none, .pointer none] 86 ∧ PT w9 lo hi T fixL ∧ PT w9 wr.heap.size w8.heap.size T2 fixD ∧ Fm B w w9 ∧ w9.heap.size = w8.heap.size ∧ hi ≤ w8.heap.size ∧ wr.heap.size = hi) := ⟨s9, kH9, p1, p2, f9, z9, hz8, hsz⟩
          clear s9 kH9 p1 p2 f9 z9 hz8 hsz a7 o8 o9 s8 d4 q4 hw9 hp8 hb8 hnew AH
          go_wp2_with fail
          have a := A9.out
          have a7 := A7.out
          have hD := a7.2.2.2.2.2.2.2.2.2.2.2.2.2
          obtain ⟨w10, hw10⟩ : ∃ w10, w10 = (w9.setCell ⟨H, 0, none⟩ (.pointer (some ⟨T, 0, none⟩))).setCell ⟨H, 1, none⟩ (.pointer (some ⟨T2, 0, none⟩)) := ⟨_, rfl⟩
          have oH : Only H w9 w10 := by rw [hw10]; exact ((Only.refl H w9).setCell 0 _).setCell 1 _
          have k2 : Cells w10 H #[.pointer (some ⟨T, 0, none⟩), .pointer (some ⟨T2, 0, none⟩)] 86 := by rw [hw10]; exact (a.2.1.set 0 _).set 1 _
          rw [← hw10]
          (try simp only [Exit.inBlock, Exit.then])
          refine bodyPost_ret (v := .agg #[.pointer (some ⟨T, 0, none⟩), .pointer (some ⟨T2, 0, none⟩)]) ?_ rfl ?_
          · exact results_cell_row rfl _ _ H 86 _ (0, 0) _ rfl k2 Tryz.underlying86 rfl size67
          · refine ⟨_, _, _, rfl, a.1.keep fun k h1 h2 => oH.block k (by omega), a.2.2.2.2.1.only oH (by omega), rfl, rfl, fun i h3 h4 => by rw [upd_ne _ _ h4, upd_ne _ _ h3], ?_, ?_⟩
            · exact ⟨lo, hi, T, rfl, by omega, by rw [oH.size]; omega, a.2.2.1.keep fun k h1 h2 => oH.block k (by omega), by rw [fixL_len]; omega⟩
            · exact ⟨_, _, T2, rfl, by omega, by rw [oH.size]; omega, a.2.2.2.1.keep fun k h1 h2 => oH.block k (by omega), by rw [fixD_len]; omega⟩
end
end Go.Proofs.YtogednaamndpgaaGreatDoor

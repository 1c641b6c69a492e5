/-
  Own texts of this seat, one behind the other: what each says stands ahead of it.
-/
import Derived.Test.YtikdpnpkmmmacaaDoorMm
import Derived.Deep.RegionHeld3
/-
  What the steps of a block's symbols come to: literal, lengthMore, back, backMore, copied.
-/
namespace Go.Proofs.YtikdpnpkmmmacaaDoor
open Go.RowKit
set_option linter.unusedVariables false
section
variable {B D b R : Nat} {f : Nat → Value} {bs : List Bool} {most : Nat}
set_option maxHeartbeats 1000000 in
theorem literal_s (w : World) {last : Bool} {lit di : List Nat} {pos : Nat} {out times : List Nat} (hI : Is w B D b R f bs ⟨.sym last lit di, pos, out, times⟩) (hO : Op f) (hm : out.length < most) : StepOk 55 B D b R bs most ⟨.sym last lit di, pos, out, times⟩ w := by
  obtain ⟨k2, k5, k6, k7⟩ := id hI.at_
  have hle' : pos ≤ bs.length := hI.le
  have hm' : Bs w B D b R f (bs.drop pos) (win out) := hI.mem
  have c6 := hm'.cell (show 6 < 355 by decide)
  obtain ⟨v6, hv6⟩ : ∃ v, f 6 = v := ⟨_, rfl⟩
  have k6' := k6
  rw [hv6] at c6 k6'
  have hread := pread_c v6 lit w hm' k6'
  have A : Aside (Is w B D b R f bs ⟨.sym last lit di, pos, out, times⟩ ∧ Op f ∧ out.length < most ∧ pos ≤ bs.length) := ⟨hI, hO, hm, hle'⟩
  have AK : Aside (f 2 = fnv D 55 ∧ f 5 = .bool last ∧ Tbl w B (f 6) lit ∧ Tbl w B (f 7) di) := ⟨k2, k5, k6, k7⟩
  unfold StepOk
  cases hs : sread lit (bs.drop pos) using SR.el with
  | cut =>
    rw [hs] at hread
    have AS : Aside (sread lit (bs.drop pos) = .cut) := hs
    clear hI hO hm hle' hm' k2 k5 k6 k7 k6' hv6 hs
    go_enter Tryd.func55, Tryd.ntmps55
    go_wp2_with (go_at_call 71; refine hread.mono ?_; rintro e2 w2 ⟨hf2, rfl, hb2⟩)
    first | go_ret | go_ret2
    have a := A.out
    refine ⟨false, rfl, hf2, Res.want (a.1.same hf2 hb2) a.2.1 ?_ ?_ (fun y => by simp) (by simp)⟩
    · have := cut_short AS.out AK.out.2.2.1.le15
      rw [List.length_drop] at this
      show bs.length < pos + 32
      omega
    · unfold step
      simp only [AS.out]
  | bad j =>
    rw [hs] at hread
    have AS : Aside (sread lit (bs.drop pos) = .bad j) := hs
    clear hI hO hm hle' hm' k2 k5 k6 k7 k6' hv6 hs
    go_enter Tryd.func55, Tryd.ntmps55
    go_wp2_with (go_at_call 71; refine hread.mono ?_; rintro e2 w2 ⟨hf2, rfl, hb2⟩)
    first | go_ret | go_ret2
    have a := A.out
    refine ⟨false, rfl, hf2, Res.over (c' := ⟨.bad 13, pos + j, out, times⟩) (Runs.one ?_) (a.1.bad a.2.1 hf2 hb2 13 (by decide) rfl rfl rfl rfl rfl rfl) rfl⟩
    unfold step
    simp only [AS.out]
  | got s n =>
    rw [hs] at hread
    have AS : Aside (sread lit (bs.drop pos) = .got s n) := hs
    have hn : Aside (pos + n ≤ bs.length ∧ 0 < n) := ⟨sread_end hs hle', by have := sread_le (ls := lit) (h := bs.drop pos); rw [hs] at this; exact this.2.1⟩
    by_cases h256 : s < 256
    · have hlt : (s : Int) < 256 := by omega
      clear hI hO hm hle' hm' k2 k5 k6 k7 k6' hv6 hs
      have A256 : Aside (s < 256) := h256
      clear h256
      go_enter Tryd.func55, Tryd.ntmps55
      go_wp2_with (first
        | (go_at_call 71; refine hread.mono ?_; rintro e2 w2 ⟨hf2, rfl, hb2⟩
           have hgive := pgive_c (s : Int) w2 hb2)
        | (go_at_call 72; refine hgive.mono ?_; rintro e3 w3 ⟨rfl, hb3, hf3⟩))
      first | go_ret | go_ret2
      have a := A.out
      have q := hn.out
      rw [win_put, List.drop_drop] at hb3
      refine ⟨false, rfl, hf2.trans hf3, Res.gave (c' := ⟨.sym last lit di, pos + n, out ++ [s], times ++ [(pos + n - 1) / 8]⟩) (Runs.one ?_) (a.1.to (hf2.trans hf3) hb3 ⟨AK.out.1, AK.out.2.1, AK.out.2.2.1.fm (hf2.trans hf3), AK.out.2.2.2.fm (hf2.trans hf3)⟩ rfl rfl q.1) rfl a.2.1.done a.2.1.why s rfl rfl⟩
      unfold step
      simp only [AS.out]
      rw [if_pos A256.out, give_lt a.2.2.1]
    · by_cases he : s = 256
      · subst he
        cases last with
        | true =>
          clear hI hO hm hle' hm' k2 k6 k7 k6' hv6 hs h256
          go_enter Tryd.func55, Tryd.ntmps55
          go_wp2_with (first
            | (go_at_call 71; refine hread.mono ?_; rintro e2 w2 ⟨hf2, rfl, hb2⟩
               have hend := end_last w2 hb2 k5)
            | (go_at_call 73; refine hend.mono ?_; rintro e3 w3 ⟨rfl, hb3, hf3⟩))
          first | go_ret | go_ret2
          have a := A.out
          refine ⟨false, rfl, hf2.trans hf3, Res.over (c' := ⟨.done, pos + n, out, times⟩) (Runs.cons (d := ⟨.head true, pos + n, out, times⟩) ?_ (Runs.one rfl)) (a.1.end_ a.2.1 (hf2.trans hf3) hb3 rfl rfl rfl rfl rfl rfl) rfl⟩
          unfold step
          simp only [AS.out]
          rw [if_neg (by decide)]; rfl
        | false =>
          clear hI hO hm hle' hm' k2 k6 k7 k6' hv6 hs h256
          go_enter Tryd.func55, Tryd.ntmps55
          go_wp2_with (first
            | (go_at_call 71; refine hread.mono ?_; rintro e2 w2 ⟨hf2, rfl, hb2⟩
               have hend := end_more w2 hb2 k5)
            | (go_at_call 73; refine hend.mono ?_; rintro e3 w3 ⟨rfl, hb3, hf3⟩))
          first | go_ret | go_ret2
          have a := A.out
          have q := hn.out
          rw [List.drop_drop] at hb3
          refine ⟨true, rfl, hf2.trans hf3, Res.next (c' := ⟨.head false, pos + n, out, times⟩) (Runs.one ?_) (a.1.to (hf2.trans hf3) hb3 rfl rfl rfl q.1) (a.2.1.to rfl rfl rfl) rfl ?_⟩
          · unfold step
            simp only [AS.out]
            rw [if_neg (by decide)]; rfl
          · unfold mu rk
            simp only []
            omega
      · by_cases hbig : 285 < s
        · have h1 : ((s : Int) < 256) = False := eq_false (by omega)
          have h2 : ((s : Int) == 256) = false := by rw [beq_eq_false_iff_ne]; omega
          have h3 : ((29 : Int) ≤ (s : Int) - 257) = True := eq_true (by omega)
          have h4 : (s : Int) < 320 := by have := got_lt hs; have := k6.len; omega
          have AB : Aside (285 < s) := hbig
          clear hI hO hm hle' hm' k2 k5 k6 k7 k6' hv6 hs h256 he hbig
          go_enter Tryd.func55, Tryd.ntmps55
          go_wp2_with (first
            | (go_at_call 71; refine hread.mono ?_; rintro e2 w2 ⟨hf2, rfl, hb2⟩
               have hst := pstop_c 13 w2 hb2)
            | (go_at_call 36; refine hst.mono ?_; rintro e3 w3 ⟨rfl, hb3, hf3⟩))
          first | go_ret | go_ret2
          have a := A.out
          have bb := AB.out
          refine ⟨false, rfl, hf2.trans hf3, Res.over (c' := ⟨.bad 13, pos + n, out, times⟩) (Runs.one ?_) (a.1.bad a.2.1 (hf2.trans hf3) hb3 13 (by decide) rfl rfl rfl rfl rfl rfl) rfl⟩
          unfold step
          simp only [AS.out]
          rw [if_neg (by omega), if_neg (by omega), if_pos bb]
        · have h1 : ((s : Int) < 256) = False := eq_false (by omega)
          have h2 : ((s : Int) == 256) = false := by rw [beq_eq_false_iff_ne]; omega
          have h3 : ((29 : Int) ≤ (s : Int) - 257) = False := eq_false (by omega)
          have h4 : (s : Int) < 320 := by have := got_lt hs; have := k6.len; omega
          have hsi : (s : Int) - 257 = ((s - 257 : Nat) : Int) := by omega
          have AB : Aside (257 ≤ s ∧ s ≤ 285) := ⟨by omega, by omega⟩
          have ASI : Aside ((s : Int) - 257 = ((s - 257 : Nat) : Int)) := hsi
          clear hI hO hm hle' hm' k2 k5 k6 k7 k6' hv6 hs h256 he hbig hsi
          go_enter Tryd.func55, Tryd.ntmps55
          go_wp2_with (first
            | (go_at_call 71; refine hread.mono ?_; rintro e2 w2 ⟨hf2, rfl, hb2⟩
               have c8 := hb2.cell (show 348 < 355 by decide)
               have z8 := hb2.fz 348
               have hth := pthen_c 74 _ (hb2.set 348 (.int .i64 ((s : Int) - 257)) (by decide)))
            | (go_at_call 52; refine hth.mono ?_; rintro e3 w3 ⟨rfl, hb3, hf3⟩))
          first | go_ret | go_ret2
          have a := A.out
          have bb := AB.out
          have q := hn.out
          have hf : Fm B w w3 := (hf2.trans (Fm.of_only ((Only.refl D w2).setCell 348 _) (by have := hb2.eD; omega) (by have := hb2.eD; omega))).trans hf3
          rw [List.drop_drop] at hb3
          refine ⟨true, rfl, hf, Res.next (c' := ⟨.lext last lit di s, pos + n, out, times⟩) (Runs.one ?_) (a.1.to hf hb3 ⟨rfl, AK.out.2.1, AK.out.2.2.1.fm hf, AK.out.2.2.2.fm hf, bb.1, bb.2, ?_⟩ rfl rfl q.1) (a.2.1.to rfl rfl rfl) rfl ?_⟩
          · unfold step
            simp only [AS.out]
            rw [if_neg (by omega), if_neg (by omega), if_neg (by omega)]
          · rw [← ASI.out]; rfl
          · unfold mu rk
            simp only []
            omega
end
end Go.Proofs.YtikdpnpkmmmacaaDoor

/-
  What the steps of a block's symbols come to: lengthMore, back, backMore, copied.
-/
namespace Go.Proofs.YtikdpnpkmmmacaaDoor
open Go.RowKit
set_option linter.unusedVariables false
theorem plmore_le : ∀ i, i < 29 → lmore (257 + i) ≤ 5 ∧ lbase (257 + i) ≤ 258 := by decide +kernel
theorem pdmore_le : ∀ i, i < 30 → dmore i ≤ 13 ∧ dbase i + 2 ^ dmore i ≤ 32769 ∧ 1 ≤ dbase i := by decide +kernel
section
variable {B D b R : Nat} {f : Nat → Value} {bs : List Bool} {most : Nat}
set_option maxHeartbeats 1000000 in
theorem lengthMore_s (w : World) {last : Bool} {lit di : List Nat} {s pos : Nat} {out times : List Nat} (hI : Is w B D b R f bs ⟨.lext last lit di s, pos, out, times⟩) (hO : Op f) : StepOk 74 B D b R bs most ⟨.lext last lit di s, pos, out, times⟩ w := by
  obtain ⟨k2, k5, k6, k7, k8, k9, k10⟩ := id hI.at_
  have hle' : pos ≤ bs.length := hI.le
  have hm' : Bs w B D b R f (bs.drop pos) (win out) := hI.mem
  obtain ⟨q, hq⟩ : ∃ q, s - 257 = q := ⟨_, rfl⟩
  have hsq : 257 + q = s := by omega
  rw [hq] at k10
  have c0 := (hm'.cell (show 0 < 355 by decide)).trans (congrArg some hm'.c0)
  have c8 := (hm'.cell (show 348 < 355 by decide)).trans (congrArg some k10)
  have t0 := hI.tabs.t0 q (by omega)
  have hl := plmore_le q (by omega)
  rw [hsq] at t0 hl
  obtain ⟨m, hm⟩ : ∃ m, lmore s = m := ⟨_, rfl⟩
  obtain ⟨mb, hmb⟩ : ∃ mb, lbase s = mb := ⟨_, rfl⟩
  rw [hm] at t0
  rw [hm, hmb] at hl
  have hqi : ((q : Int) < 29) = True := eq_true (by omega)
  have hqn : (q < 29) = True := eq_true (by omega)
  have hmw : IntKind.i64.wrap (m : Int) = (m : Int) := by rw [IntKind.wrap_i64]; omega
  have A : Aside (Is w B D b R f bs ⟨.lext last lit di s, pos, out, times⟩ ∧ Op f ∧ pos ≤ bs.length) := ⟨hI, hO, hle'⟩
  have AK : Aside (f 2 = fnv D 74 ∧ f 5 = .bool last ∧ Tbl w B (f 6) lit ∧ Tbl w B (f 7) di) := ⟨k2, k5, k6, k7⟩
  have AM : Aside (lmore s = m ∧ lbase s = mb ∧ m ≤ 5 ∧ mb ≤ 258 ∧ 257 + q = s ∧ f 348 = .int .i64 (q : Int)) := ⟨hm, hmb, hl.1, hl.2, hsq, k10⟩
  have hkeep : Aside (∀ u h', Bs u B D b R f h' (win out) → Fm B w.drew u → u.cell? ⟨D, 0, none⟩ = some (.pointer (some ⟨b, 0, none⟩)) ∧ u.cell? ⟨D, 348, none⟩ = some (.int .i64 (q : Int)) ∧ u.cell? ⟨0, q, none⟩ = some (.int .u8 (m : Int))) := fun u h' hb hf => by
    refine ⟨(hb.cell (show 0 < 355 by decide)).trans (congrArg some hb.c0), (hb.cell (show 348 < 355 by decide)).trans (congrArg some k10), ?_⟩
    have := (hI.tabs.below ((show Fm B w u from ⟨hf.os, hf.tape, hf.output, hf.size, hf.block⟩).below (by have := hm'.lt; omega)) hI.b7).t0 q (by omega)
    rw [hsq, hm] at this
    exact this
  unfold StepOk
  by_cases hshort : (bs.drop pos).length < m
  · have htake := take_short m w.drew hm'.drew hshort
    have AS : Aside ((bs.drop pos).length < m) := hshort
    clear hI hO hle' hm' k2 k5 k6 k7 k8 k9 k10 hq hsq hm hmb hl hshort
    go_enter Tryd.func74, Tryd.ntmps74
    go_upto_region 1 with fail
    go_region_held3 (fun u => u.cell? ⟨D, 0, none⟩ = some (.pointer (some ⟨b, 0, none⟩)) ∧ u.cell? ⟨D, 348, none⟩ = some (.int .i64 (q : Int)) ∧ u.cell? ⟨0, q, none⟩ = some (.int .u8 (m : Int))) (first | assumption | exact ⟨c0, c8, t0⟩)
      (first | (go_at_call 50; refine htake.mono ?_; rintro e2 w2 ⟨rfl, rfl⟩))
    all_goals
      go_wp2_with fail
      first | go_ret | go_ret2
      have a := A.out
      have am := AM.out
      have sh := AS.out
      rw [List.length_drop] at sh
      refine ⟨false, rfl, (Fm.refl B w).drew, Res.want (a.1.same (Fm.refl B w).drew a.1.mem.drew) a.2.1 ?_ ?_ (fun y => by simp) (by simp)⟩
      · show bs.length < pos + 32
        omega
      · unfold step
        simp only [am.1]
        rw [num_no (by omega)]; rfl
  · obtain ⟨v, hv⟩ : ∃ v, nm ((bs.drop pos).take m) = v := ⟨_, rfl⟩
    have hvlt : v < 32 := by
      have := nm_take_lt (bs.drop pos) m
      have h2 : 2 ^ m ≤ 2 ^ 5 := Nat.pow_le_pow_right (by decide) hl.1
      omega
    have htake := take_at m w.drew hm'.drew (by omega) (by omega) v hv
    have AS : Aside (pos + m ≤ bs.length ∧ nm ((bs.drop pos).take m) = v) := ⟨by rw [List.length_drop] at hshort; omega, hv⟩
    have hmbI : (mb : Int) + (v : Int) < 1000 := by omega
    have hf0 : Aside (∀ u, Fm B w.drew u → u.cell? ⟨1, q, none⟩ = some (.int .u16 (mb : Int))) := fun u hf => by
      have := (hI.tabs.below ((show Fm B w u from ⟨hf.os, hf.tape, hf.output, hf.size, hf.block⟩).below (by have := hm'.lt; omega)) hI.b7).t1 q (by omega)
      rw [hsq, hmb] at this
      exact this
    clear hI hO hle' hm' k2 k5 k6 k7 k8 k9 k10 hq hsq hm hmb hl hshort hvlt hv
    go_enter Tryd.func74, Tryd.ntmps74
    go_upto_region 1 with fail
    go_region_held3 (fun u => u.cell? ⟨D, 0, none⟩ = some (.pointer (some ⟨b, 0, none⟩)) ∧ u.cell? ⟨D, 348, none⟩ = some (.int .i64 (q : Int)) ∧ u.cell? ⟨0, q, none⟩ = some (.int .u8 (m : Int))) (first | assumption | exact ⟨c0, c8, t0⟩ | exact hkeep.out _ _ hb2 hf2)
      (first | (go_at_call 50; refine htake.mono ?_; rintro e2 w2 ⟨rfl, hb2, hf2⟩))
    all_goals
      have d0 := hf0.out _ hf2
      have d8 := (hkeep.out _ _ hb2 hf2).2.1
      have d9 := hb2.cell (show 350 < 355 by decide)
      have z9 := hb2.fz 350
      have hth := pthen_c 83 _ (hb2.set 350 (.int .i64 ((mb : Int) + (v : Int))) (by decide))
      clear c0 c8 t0 htake
      go_wp2_with (go_at_call 52; refine hth.mono ?_; rintro e3 w3 ⟨rfl, hb3, hf3⟩)
      first | go_ret | go_ret2
      have a := A.out
      have am := AM.out
      have sh := AS.out
      have hf : Fm B w w3 := ((show Fm B w w2 from ⟨hf2.os, hf2.tape, hf2.output, hf2.size, hf2.block⟩).trans (Fm.of_only ((Only.refl D w2).setCell 350 _) (by have := hb2.eD; omega) (by have := hb2.eD; omega))).trans hf3
      rw [List.drop_drop] at hb3
      refine ⟨true, rfl, hf, Res.next (c' := ⟨.dist last lit di (mb + v), pos + m, out, times⟩) (Runs.one ?_) (a.1.to hf hb3 ⟨rfl, AK.out.2.1, AK.out.2.2.1.fm hf, AK.out.2.2.2.fm hf, ?_⟩ rfl rfl sh.1) (a.2.1.to rfl rfl rfl) rfl ?_⟩
      · unfold step
        simp only [am.1, am.2.1]
        rw [pnum_at sh.1, sh.2]; rfl
      · show Value.int .i64 ((mb : Int) + (v : Int)) = _
        push_cast; rfl
      · unfold mu rk
        simp only []
        omega
set_option maxHeartbeats 1000000 in
theorem back_s (w : World) {last : Bool} {lit di : List Nat} {m pos : Nat} {out times : List Nat} (hI : Is w B D b R f bs ⟨.dist last lit di m, pos, out, times⟩) (hO : Op f) : StepOk 83 B D b R bs most ⟨.dist last lit di m, pos, out, times⟩ w := by
  obtain ⟨k2, k5, k6, k7, k8⟩ := id hI.at_
  have hle' : pos ≤ bs.length := hI.le
  have hm' : Bs w B D b R f (bs.drop pos) (win out) := hI.mem
  have c7 := hm'.cell (show 7 < 355 by decide)
  obtain ⟨v7, hv7⟩ : ∃ v, f 7 = v := ⟨_, rfl⟩
  have k7' := k7
  rw [hv7] at c7 k7'
  have hread := pread_c v7 di w hm' k7'
  have A : Aside (Is w B D b R f bs ⟨.dist last lit di m, pos, out, times⟩ ∧ Op f ∧ pos ≤ bs.length) := ⟨hI, hO, hle'⟩
  have AK : Aside (f 2 = fnv D 83 ∧ f 5 = .bool last ∧ Tbl w B (f 6) lit ∧ Tbl w B (f 7) di ∧ f 350 = .int .i64 (m : Int)) := ⟨k2, k5, k6, k7, k8⟩
  unfold StepOk
  cases hs : sread di (bs.drop pos) using SR.el with
  | cut =>
    rw [hs] at hread
    have AS : Aside (sread di (bs.drop pos) = .cut) := hs
    clear hI hO hle' hm' k2 k5 k6 k7 k7' k8 hv7 hs
    go_enter Tryd.func83, Tryd.ntmps83
    go_wp2_with (go_at_call 71; refine hread.mono ?_; rintro e2 w2 ⟨hf2, rfl, hb2⟩)
    first | go_ret | go_ret2
    have a := A.out
    refine ⟨false, rfl, hf2, Res.want (a.1.same hf2 hb2) a.2.1 ?_ ?_ (fun y => by simp) (by simp)⟩
    · have := cut_short AS.out AK.out.2.2.2.1.le15
      rw [List.length_drop] at this
      show bs.length < pos + 32
      omega
    · unfold step
      simp only [AS.out]
  | bad j =>
    rw [hs] at hread
    have AS : Aside (sread di (bs.drop pos) = .bad j) := hs
    clear hI hO hle' hm' k2 k5 k6 k7 k7' k8 hv7 hs
    go_enter Tryd.func83, Tryd.ntmps83
    go_wp2_with (go_at_call 71; refine hread.mono ?_; rintro e2 w2 ⟨hf2, rfl, hb2⟩)
    first | go_ret | go_ret2
    have a := A.out
    refine ⟨false, rfl, hf2, Res.over (c' := ⟨.bad 13, pos + j, out, times⟩) (Runs.one ?_) (a.1.bad a.2.1 hf2 hb2 13 (by decide) rfl rfl rfl rfl rfl rfl) rfl⟩
    unfold step
    simp only [AS.out]
  | got s n =>
    rw [hs] at hread
    have AS : Aside (sread di (bs.drop pos) = .got s n) := hs
    have hn : Aside (pos + n ≤ bs.length ∧ 0 < n) := ⟨sread_end hs hle', by have := sread_le (ls := di) (h := bs.drop pos); rw [hs] at this; exact this.2.1⟩
    by_cases hbig : 29 < s
    · have h3 : (30 : Int) ≤ (s : Int) := by omega
      have AB : Aside (29 < s) := hbig
      clear hI hO hle' hm' k2 k5 k6 k7 k7' k8 hv7 hs hbig
      go_enter Tryd.func83, Tryd.ntmps83
      go_wp2_with (first
        | (go_at_call 71; refine hread.mono ?_; rintro e2 w2 ⟨hf2, rfl, hb2⟩
           have hst := pstop_c 13 w2 hb2)
        | (go_at_call 36; refine hst.mono ?_; rintro e3 w3 ⟨rfl, hb3, hf3⟩))
      first | go_ret | go_ret2
      have a := A.out
      have bb := AB.out
      refine ⟨false, rfl, hf2.trans hf3, Res.over (c' := ⟨.bad 13, pos + n, out, times⟩) (Runs.one ?_) (a.1.bad a.2.1 (hf2.trans hf3) hb3 13 (by decide) rfl rfl rfl rfl rfl rfl) rfl⟩
      unfold step
      simp only [AS.out]
      rw [if_pos bb]
    · have h3 : ¬ (30 : Int) ≤ (s : Int) := by omega
      have AB : Aside (s ≤ 29) := (show s ≤ 29 by omega)
      clear hI hO hle' hm' k2 k5 k6 k7 k7' k8 hv7 hs hbig
      go_enter Tryd.func83, Tryd.ntmps83
      go_wp2_with (first
        | (go_at_call 71; refine hread.mono ?_; rintro e2 w2 ⟨hf2, rfl, hb2⟩
           have c8 := hb2.cell (show 348 < 355 by decide)
           have z8 := hb2.fz 348
           have hth := pthen_c 91 _ (hb2.set 348 (.int .i64 (s : Int)) (by decide)))
        | (go_at_call 52; refine hth.mono ?_; rintro e3 w3 ⟨rfl, hb3, hf3⟩))
      first | go_ret | go_ret2
      have a := A.out
      have bb := AB.out
      have q := hn.out
      have hf : Fm B w w3 := (hf2.trans (Fm.of_only ((Only.refl D w2).setCell 348 _) (by have := hb2.eD; omega) (by have := hb2.eD; omega))).trans hf3
      rw [List.drop_drop] at hb3
      refine ⟨true, rfl, hf, Res.next (c' := ⟨.dext last lit di m s, pos + n, out, times⟩) (Runs.one ?_) (a.1.to hf hb3 ⟨rfl, AK.out.2.1, AK.out.2.2.1.fm hf, AK.out.2.2.2.1.fm hf, AK.out.2.2.2.2, bb, rfl⟩ rfl rfl q.1) (a.2.1.to rfl rfl rfl) rfl ?_⟩
      · unfold step
        simp only [AS.out]
        rw [if_neg (by omega)]
      · unfold mu rk
        simp only []
        omega
end
end Go.Proofs.YtikdpnpkmmmacaaDoor

/-
  What the steps of a copy come to: backMore, copied.
-/
namespace Go.Proofs.YtikdpnpkmmmacaaDoor
open Go.RowKit
set_option linter.unusedVariables false
theorem win_len (out : List Nat) : (win out).length = min out.length 32768 := by
  unfold win
  rw [glastN_length, iz_len]
theorem win_back {out : List Nat} {d : Nat} (h1 : 1 ≤ d) (h2 : d ≤ out.length) (h3 : d ≤ 32768) : (win out)[(win out).length - d]? = some ((out.getD (out.length - d) 0 : Nat) : Int) := by
  rw [win_len]
  unfold win glastN
  rw [List.getElem?_drop, iz_len]
  have e : out.length - 32768 + (min out.length 32768 - d) = out.length - d := by omega
  rw [e]
  unfold iz
  rw [List.getElem?_map, List.getElem?_eq_getElem (by omega), List.getD_eq_getElem?_getD, List.getElem?_eq_getElem (by omega)]
  rfl
section
variable {B D b R : Nat} {f : Nat → Value} {bs : List Bool} {most : Nat}
set_option maxHeartbeats 1000000 in
theorem backMore_s (w : World) {last : Bool} {lit di : List Nat} {n q pos : Nat} {out times : List Nat} (hI : Is w B D b R f bs ⟨.dext last lit di n q, pos, out, times⟩) (hO : Op f) : StepOk 91 B D b R bs most ⟨.dext last lit di n q, pos, out, times⟩ w := by
  obtain ⟨k2, k5, k6, k7, k8, k9, k10⟩ := id hI.at_
  have hle' : pos ≤ bs.length := hI.le
  have hm' : Bs w B D b R f (bs.drop pos) (win out) := hI.mem
  have c0 := (hm'.cell (show 0 < 355 by decide)).trans (congrArg some hm'.c0)
  have c8 := (hm'.cell (show 348 < 355 by decide)).trans (congrArg some k10)
  have t0 := hI.tabs.t3 q (by omega)
  have hl := pdmore_le q (by omega)
  obtain ⟨m, hm⟩ : ∃ m, dmore q = m := ⟨_, rfl⟩
  obtain ⟨mb, hmb⟩ : ∃ mb, dbase q = mb := ⟨_, rfl⟩
  rw [hm] at t0
  rw [hm, hmb] at hl
  have hqi : ((q : Int) < 30) = True := eq_true (by omega)
  have hqn : (q < 30) = True := eq_true (by omega)
  have hmw : IntKind.i64.wrap (m : Int) = (m : Int) := by rw [IntKind.wrap_i64]; omega
  have A : Aside (Is w B D b R f bs ⟨.dext last lit di n q, pos, out, times⟩ ∧ Op f ∧ pos ≤ bs.length) := ⟨hI, hO, hle'⟩
  have AK : Aside (f 2 = fnv D 91 ∧ f 5 = .bool last ∧ Tbl w B (f 6) lit ∧ Tbl w B (f 7) di ∧ f 350 = .int .i64 (n : Int)) := ⟨k2, k5, k6, k7, k8⟩
  have AM : Aside (dmore q = m ∧ dbase q = mb ∧ m ≤ 13 ∧ mb + 2 ^ m ≤ 32769 ∧ 1 ≤ mb ∧ f 348 = .int .i64 (q : Int)) := ⟨hm, hmb, hl.1, hl.2.1, hl.2.2, k10⟩
  have hkeep : Aside (∀ u h', Bs u B D b R f h' (win out) → Fm B w.drew u → u.cell? ⟨D, 0, none⟩ = some (.pointer (some ⟨b, 0, none⟩)) ∧ u.cell? ⟨D, 348, none⟩ = some (.int .i64 (q : Int)) ∧ u.cell? ⟨3, q, none⟩ = some (.int .u8 (m : Int))) := fun u h' hb hf => by
    refine ⟨(hb.cell (show 0 < 355 by decide)).trans (congrArg some hb.c0), (hb.cell (show 348 < 355 by decide)).trans (congrArg some k10), ?_⟩
    have := (hI.tabs.below ((show Fm B w u from ⟨hf.os, hf.tape, hf.output, hf.size, hf.block⟩).below (by have := hm'.lt; omega)) hI.b7).t3 q (by omega)
    rw [hm] at this
    exact this
  unfold StepOk
  by_cases hshort : (bs.drop pos).length < m
  · have htake := take_short m w.drew hm'.drew hshort
    have AS : Aside ((bs.drop pos).length < m) := hshort
    clear hI hO hle' hm' k2 k5 k6 k7 k8 k9 k10 hm hmb hl hshort
    go_enter Tryd.func91, Tryd.ntmps91
    go_upto_region 1 with fail
    go_region_held3 (fun u => u.cell? ⟨D, 0, none⟩ = some (.pointer (some ⟨b, 0, none⟩)) ∧ u.cell? ⟨D, 348, none⟩ = some (.int .i64 (q : Int)) ∧ u.cell? ⟨3, q, none⟩ = some (.int .u8 (m : Int))) (first | assumption | exact ⟨c0, c8, t0⟩)
      (first | (go_at_call 50; refine htake.mono ?_; rintro e2 w2 ⟨rfl, rfl⟩))
    all_goals
      go_wp2_with fail
      first | go_ret | go_ret2
      have a := A.out
      have am := AM.out
      have sh := AS.out
      rw [List.length_drop] at sh
      refine ⟨false, rfl, (Fm.refl B w).drew, Res.want (a.1.same (Fm.refl B w).drew a.1.mem.drew) a.2.1 ?_ ?_ (fun y => by simp) (by simp)⟩
      · show bs.length < pos + 32
        omega
      · unfold step
        simp only [am.1]
        rw [num_no (by omega)]; rfl
  · obtain ⟨v, hv⟩ : ∃ v, nm ((bs.drop pos).take m) = v := ⟨_, rfl⟩
    have hvlt : v < 2 ^ m := by rw [← hv]; exact nm_take_lt _ _
    have htake := take_at m w.drew hm'.drew (by omega) (by omega) v hv
    have AS : Aside (pos + m ≤ bs.length ∧ nm ((bs.drop pos).take m) = v ∧ mb + v ≤ 32768) := ⟨by rw [List.length_drop] at hshort; omega, hv, by omega⟩
    obtain ⟨dd, hdd⟩ : ∃ dd, mb + v = dd := ⟨_, rfl⟩
    have hmbI : (mb : Int) + (v : Int) = (dd : Int) := by omega
    have g1 : mb < 9223372036854775808 := by omega
    have g2 : v < 9223372036854775808 := by omega
    have g3 : dd < 9223372036854775808 := by omega
    have AB7 : Aside (B ≤ w.heap.size) := (show B ≤ w.heap.size by have := hm'.lt; omega)
    have hq30 : q < 30 := by omega
    have hf0 : Aside (∀ u, Fm B w.drew u → u.cell? ⟨4, q, none⟩ = some (.int .u16 (mb : Int))) := fun u hf => by
      have := (hI.tabs.below (hf.of_drew.below AB7.out) hI.b7).t4 q hq30
      rw [hmb] at this
      exact this
    have hwr : wrap64 ((mb : Int) + (v : Int)) = (dd : Int) := by rw [hmbI]; exact w64_cast g3
    have hw1 : wrap64 (mb : Int) = (mb : Int) := w64_cast g1
    have hw2 : wrap64 (v : Int) = (v : Int) := w64_cast g2
    have hw3 : wrap64 (dd : Int) = (dd : Int) := w64_cast g3
    clear g1 g2 g3 hq30
    have ADD : Aside (mb + v = dd) := hdd
    clear hI hO hle' hm' k2 k5 k6 k7 k8 k9 k10 hm hmb hl hshort hvlt hv hdd
    go_enter Tryd.func91, Tryd.ntmps91
    go_upto_region 1 with fail
    go_region_held3 (fun u => u.cell? ⟨D, 0, none⟩ = some (.pointer (some ⟨b, 0, none⟩)) ∧ u.cell? ⟨D, 348, none⟩ = some (.int .i64 (q : Int)) ∧ u.cell? ⟨3, q, none⟩ = some (.int .u8 (m : Int))) (first | assumption | exact ⟨c0, c8, t0⟩ | exact hkeep.out _ _ hb2 hf2)
      (first | (go_at_call 50; refine htake.mono ?_; rintro e2 w2 ⟨rfl, hb2, hf2⟩))
    all_goals
      have d0 := hf0.out _ hf2
      have d8 := (hkeep.out _ _ hb2 hf2).2.1
      have d9 := hb2.cell (show 349 < 355 by decide)
      have z9 := hb2.fz 349
      have hs4 := hb2.set 349 (.int .i64 (dd : Int)) (by decide)
      have hf4 : Aside (Fm B w (w2.setCell ⟨D, 349, none⟩ (.int .i64 (dd : Int)))) := hf2.of_drew.trans (hb2.fmD ((Only.refl D w2).setCell 349 _))
      clear c0 c8 t0 htake
      go_upto_region 5 with fail
      obtain ⟨w4, hw4⟩ : ∃ w4, w2.setCell ⟨D, 349, none⟩ (.int .i64 (dd : Int)) = w4 := ⟨_, rfl⟩
      rw [hw4] at hs4 hf4 ⊢
      have e1 := (hs4.cell (show 1 < 355 by decide)).trans (congrArg some hs4.c1)
      have e9 := hs4.cell (show 349 < 355 by decide)
      rw [upd_same] at e9
      have hlen : ∀ n, Calls Tryd.prog 94 #[.pointer (some ⟨R, 0, none⟩)] (w4.drewN n) fun e w' => e = .returned (.int .i64 ((win out).length : Int)) ∧ w' = w4.drewN n := fun n => (glen_r (w4.drewN n) (hs4.drewN n).rg).mono fun e w' h => ⟨h.1, h.2.symm⟩
      obtain ⟨LL, hLL⟩ : ∃ LL, (win out).length = LL := ⟨_, rfl⟩
      rw [hLL] at hlen
      have ALL : Aside ((win out).length = LL ∧ Bs w4 B D b R (upd f 349 (.int .i64 (dd : Int))) ((bs.drop pos).drop m) (win out)) := ⟨hLL, hs4⟩
      clear hLL hs4 hw4 d0 d8 d9 z9 hb2 hf2 hmbI hwr hw1 hw2 hw3
      by_cases hfar : LL < dd
      · have hfi : ((LL : Int) < (dd : Int)) = True := eq_true (by omega)
        have hfn : (LL < dd) = True := eq_true hfar
        have AF : Aside (LL < dd) := hfar
        clear hfar
        go_quiet (first | (go_at_call 94; refine Calls.quiet_of_same (hlen _)))
        have hst := pstop_c 14 _ (ALL.out.2.drewN nq)
        go_wp2_with (go_at_call 36; refine hst.mono ?_; rintro e3 w3 ⟨rfl, hb3, hf3⟩)
        first | go_ret | go_ret2
        have a := A.out
        have am := AM.out
        have sh := AS.out
        have hf : Fm B w w3 := (hf4.out.drewN nq).trans hf3
        refine ⟨false, rfl, hf, Res.over (c' := ⟨.bad 14, pos + m, out, times⟩) (Runs.one ?_) (a.1.bad a.2.1 hf hb3 14 (by decide) rfl rfl rfl rfl rfl rfl) rfl⟩
        unfold step
        simp only [am.1, am.2.1]
        rw [pnum_at sh.1, sh.2.1]
        have h1 := ALL.out.1
        rw [win_len] at h1
        have h2 := AF.out
        have h3 := ADD.out
        simp only [Option.map_some]
        rw [if_pos (by omega)]
      · have hfi : ((LL : Int) < (dd : Int)) = False := eq_false (by omega)
        have hfn : (LL < dd) = False := eq_false hfar
        have AF : Aside (¬ LL < dd) := hfar
        clear hfar
        go_quiet (first | (go_at_call 94; refine Calls.quiet_of_same (hlen _)))
        have hst := pthen_c 95 _ (ALL.out.2.drewN nq)
        go_wp2_with (go_at_call 52; refine hst.mono ?_; rintro e3 w3 ⟨rfl, hb3, hf3⟩)
        first | go_ret | go_ret2
        have a := A.out
        have am := AM.out
        have sh := AS.out
        have hf : Fm B w w3 := (hf4.out.drewN nq).trans hf3
        have h1 := ALL.out.1
        rw [win_len] at h1
        have h2 := AF.out
        have h3 := ADD.out
        rw [List.drop_drop] at hb3
        refine ⟨true, rfl, hf, Res.next (c' := ⟨.copy last lit di n dd, pos + m, out, times⟩) (Runs.one ?_) (a.1.to hf hb3 ⟨rfl, AK.out.2.1, AK.out.2.2.1.fm hf, AK.out.2.2.2.1.fm hf, AK.out.2.2.2.2, rfl, by omega, (show dd ≤ out.length by omega), by omega⟩ rfl rfl sh.1) (a.2.1.to rfl rfl rfl) rfl ?_⟩
        · unfold step
          simp only [am.1, am.2.1]
          rw [pnum_at sh.1, sh.2.1]
          simp only [Option.map_some]
          rw [if_neg (by omega), h3]
        · unfold mu rk
          simp only []
          omega
set_option maxHeartbeats 1000000 in
theorem copied_s (w : World) {last : Bool} {lit di : List Nat} {n d pos : Nat} {out times : List Nat} (hI : Is w B D b R f bs ⟨.copy last lit di n d, pos, out, times⟩) (hO : Op f) (hm : out.length < most) (hnb : n < 65536) : StepOk 95 B D b R bs most ⟨.copy last lit di n d, pos, out, times⟩ w := by
  obtain ⟨k2, k5, k6, k7, k8, k9, k10, k11, k12⟩ := id hI.at_
  have hle' : pos ≤ bs.length := hI.le
  have hm' : Bs w B D b R f (bs.drop pos) (win out) := hI.mem
  have c8 := (hm'.cell (show 350 < 355 by decide)).trans (congrArg some k8)
  have A : Aside (Is w B D b R f bs ⟨.copy last lit di n d, pos, out, times⟩ ∧ Op f ∧ pos ≤ bs.length ∧ out.length < most) := ⟨hI, hO, hle', hm⟩
  have AK : Aside (f 2 = fnv D 95 ∧ f 5 = .bool last ∧ Tbl w B (f 6) lit ∧ Tbl w B (f 7) di ∧ 1 ≤ d ∧ d ≤ out.length ∧ d ≤ 32768 ∧ f 349 = .int .i64 (d : Int)) := ⟨k2, k5, k6, k7, k10, k11, k12, k9⟩
  unfold StepOk
  cases n with
  | zero =>
    have hst := pthen_c 55 _ hm'
    have c8' : w.cell? ⟨D, 350, none⟩ = some (.int .i64 0) := c8
    clear hI hO hle' hm' k2 k5 k6 k7 k8 k9 k10 k11 k12 hm hnb c8
    go_enter Tryd.func95, Tryd.ntmps95
    go_wp2_with (go_at_call 52; refine hst.mono ?_; rintro e3 w3 ⟨rfl, hb3, hf3⟩)
    first | go_ret | go_ret2
    have a := A.out
    refine ⟨true, rfl, hf3, Res.next (c' := ⟨.sym last lit di, pos, out, times⟩) (Runs.one rfl) (a.1.to hf3 hb3 ⟨rfl, AK.out.2.1, AK.out.2.2.1.fm hf3, AK.out.2.2.2.1.fm hf3⟩ rfl rfl a.2.2.1) (a.2.1.to rfl rfl rfl) rfl ?_⟩
    unfold mu rk
    simp only []
    omega
  | succ n =>
    have z8 := hm'.fz 350
    have hs4 := hm'.set 350 (.int .i64 (n : Int)) (by decide)
    have hf4 : Aside (Fm B w (w.setCell ⟨D, 350, none⟩ (.int .i64 (n : Int)))) := hm'.fmD ((Only.refl D w).setCell 350 _)
    have hne : (((n + 1 : Nat) : Int) == 0) = false := by rw [beq_eq_false_iff_ne]; omega
    obtain ⟨n1, hn1⟩ : ∃ n1, n + 1 = n1 := ⟨_, rfl⟩
    rw [hn1] at c8 hne hnb
    have hsub : (n1 : Int) - 1 = (n : Int) := by omega
    have hnw : n < 9223372036854775808 := by omega
    have hw : wrap64 (n : Int) = (n : Int) := w64_cast hnw
    clear hI hO hle' hm' k2 k5 k6 k7 k8 k9 k10 k11 k12 hm hnb hn1 hnw
    go_enter Tryd.func95, Tryd.ntmps95
    go_upto_region 4 with fail
    obtain ⟨w4, hw4⟩ : ∃ w4, w.setCell ⟨D, 350, none⟩ (.int .i64 (n : Int)) = w4 := ⟨_, rfl⟩
    rw [hw4] at hs4 hf4 ⊢
    have e1 := (hs4.cell (show 1 < 355 by decide)).trans (congrArg some hs4.c1)
    have e9 := hs4.cell (show 349 < 355 by decide)
    rw [upd_ne _ _ (show 349 ≠ 350 by decide), AK.out.2.2.2.2.2.2.2] at e9
    obtain ⟨z, hz⟩ : ∃ z, out.getD (out.length - d) 0 = z := ⟨_, rfl⟩
    have hback : ∀ n, Calls Tryd.prog 96 #[.pointer (some ⟨R, 0, none⟩), .int .i64 (d : Int)] (w4.drewN n) fun e w' => e = .returned (.tuple #[.int .u8 (z : Int), .bool true]) ∧ ∃ m, w' = (w4.drewN n).drewN m := fun n => by
      have k := AK.out
      clear hw hsub
      refine gback_r d (z : Int) (w4.drewN n) (hs4.drewN n).rg k.2.2.2.2.1 ?_ ?_
      · rw [win_len]; omega
      · rw [win_back k.2.2.2.2.1 k.2.2.2.2.2.1 k.2.2.2.2.2.2.1, hz]
    have AS : Aside (Bs w4 B D b R (upd f 350 (.int .i64 (n : Int))) (bs.drop pos) (win out) ∧ out.getD (out.length - d) 0 = z) := ⟨hs4, hz⟩
    clear hs4 hw4 hz c8 z8 hne hw hsub
    go_quiet (first | (go_at_call 96; refine Calls.quiet_of (hback _)))
    have hst := pgive_c (z : Int) _ (AS.out.1.drewN nq)
    go_wp2_with (go_at_call 72; refine hst.mono ?_; rintro e3 w3 ⟨rfl, hb3, hf3⟩)
    first | go_ret | go_ret2
    have a := A.out
    have k := AK.out
    have hf : Fm B w w3 := (hf4.out.drewN nq).trans hf3
    rw [win_put] at hb3
    refine ⟨false, rfl, hf, Res.gave (c' := ⟨.copy last lit di n d, pos, out ++ [z], times ++ [(pos - 1) / 8]⟩) (Runs.one ?_) (a.1.to hf hb3 ⟨k.1, k.2.1, k.2.2.1.fm hf, k.2.2.2.1.fm hf, rfl, k.2.2.2.2.2.2.2, k.2.2.2.2.1, ?_, k.2.2.2.2.2.2.1⟩ rfl rfl a.2.2.1) rfl a.2.1.done a.2.1.why z rfl rfl⟩
    · unfold step
      simp only [AS.out.2]
      rw [give_lt a.2.2.2]
    · show d ≤ (out ++ [z]).length
      rw [List.length_append]
      have := k.2.2.2.2.2.1
      omega
end
end Go.Proofs.YtikdpnpkmmmacaaDoor

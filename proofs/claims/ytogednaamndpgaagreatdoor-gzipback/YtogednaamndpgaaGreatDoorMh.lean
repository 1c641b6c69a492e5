/-
  Own texts of this seat, one behind the other: what each says stands ahead of it.
-/
import Derived.Test.YtogednaamndpgaaGreatDoorMf
import Derived.Laws.BitsAllLaws
import Derived.Test.YtogednaamndpgaaGreatDoorMg
/-
 What the steps of a stored block come to: storedLength, storedByte.
-/
namespace Go.Proofs.YtogednaamndpgaaGreatDoor
open Go.RowKit
set_option linter.unusedVariables false
theorem u32_mask (v k : Nat) (hv : v < 4294967296) (hk : k ≤ 32) (m : Nat) (hm : 2 ^ k - 1 = m) : bits .and .u32 (v : Int) (m : Int) = ((v % 2 ^ k : Nat) : Int) := by
 have h1 : 2 ^ k ≤ 4294967296 := pow_le64 hk
 have h0 : 0 < 2 ^ k := Nat.two_pow_pos k
 rw [← hm, u32_and_nat v _ hv (by omega), Nat.and_two_pow_sub_one_eq_mod]
section
variable {B D b R : Nat} {f : Nat → Value} {bs : List Bool} {most : Nat}
set_option maxHeartbeats 1000000 in
theorem storedByte_s (w : World) {last : Bool} {n pos : Nat} {out times : List Nat} (hI : Is w B D b R f bs ⟨.sraw last n, pos, out, times⟩) (hO : Op f) (hm : out.length < most) (hnb : n < 65536) : StepOk 94 B D b R bs most ⟨.sraw last n, pos, out, times⟩ w := by
 obtain ⟨k2, k5, k8⟩ := id hI.at_
 have hle' : pos ≤ bs.length := hI.le
 have hm' : Bs w B D b R f (bs.drop pos) (win out) := hI.mem
 have c8 := (hm'.cell (show 350 < 355 by decide)).trans (congrArg some k8)
 have A : Aside (Is w B D b R f bs ⟨.sraw last n, pos, out, times⟩ ∧ Op f ∧ pos ≤ bs.length ∧ out.length < most) := ⟨hI, hO, hle', hm⟩
 have AK : Aside (f 2 = fnv D 94 ∧ f 5 = .bool last) := ⟨k2, k5⟩
 unfold StepOk
 cases n with
 | zero =>
  have c8' : w.cell? ⟨D, 350, none⟩ = some (.int .i64 0) := c8
  cases last with
  | true =>
   have hst := end_last w hm' k5
   clear hI hO hle' hm' k2 k5 k8 hm hnb c8
   go_enter Tryz.func94, Tryz.ntmps94
   go_wp2_with (go_at_call 99; refine hst.mono ?_; rintro e3 w3 ⟨rfl, hb3, hf3⟩)
   first | go_ret | go_ret2
   have a := A.out
   exact ⟨false, rfl, hf3, Res.over (c' := ⟨.done, pos, out, times⟩) (Runs.cons (d := ⟨.head true, pos, out, times⟩) rfl (Runs.one rfl)) (a.1.end_ a.2.1 hf3 hb3 rfl rfl rfl rfl rfl rfl) rfl⟩
  | false =>
   have hst := end_more w hm' k5
   clear hI hO hle' hm' k2 k5 k8 hm hnb c8
   go_enter Tryz.func94, Tryz.ntmps94
   go_wp2_with (go_at_call 99; refine hst.mono ?_; rintro e3 w3 ⟨rfl, hb3, hf3⟩)
   first | go_ret | go_ret2
   have a := A.out
   refine ⟨true, rfl, hf3, Res.next (c' := ⟨.head false, pos, out, times⟩) (Runs.one rfl) (a.1.to hf3 hb3 rfl rfl rfl a.2.2.1) (a.2.1.to rfl rfl rfl) rfl ?_⟩
   unfold mu rk
   simp only []
   omega
 | succ n =>
  have c0 := (hm'.cell (show 0 < 355 by decide)).trans (congrArg some hm'.c0)
  have hne : (((n + 1 : Nat) : Int) == 0) = false := by rw [beq_eq_false_iff_ne]; omega
  obtain ⟨n1, hn1⟩ : ∃ n1, n + 1 = n1 := ⟨_, rfl⟩
  rw [hn1] at c8 hne hnb k8
  by_cases hshort : (bs.drop pos).length < 8
  ·have htake := take_short 8 w hm' hshort
   have AS : Aside ((bs.drop pos).length < 8 ∧ n + 1 = n1) := ⟨hshort, hn1⟩
   clear hI hO hle' hm' k2 k5 k8 hm hnb hshort hn1
   go_enter Tryz.func94, Tryz.ntmps94
   go_wp2_with (go_at_call 64; refine htake.mono ?_; rintro e3 w3 ⟨rfl, rfl⟩)
   first | go_ret | go_ret2
   have a := A.out
   have sh := AS.out.1
   rw [List.length_drop] at sh
   refine ⟨false, rfl, Fm.refl B w, Res.want a.1 a.2.1 ?_ ?_ (fun y => by simp) (by simp)⟩
   ·show bs.length < pos + 32
    omega
   ·unfold step
    simp only []
    rw [num_no (by omega)]; rfl
  ·obtain ⟨v, hv⟩ : ∃ v, nm ((bs.drop pos).take 8) = v := ⟨_, rfl⟩
   have hvlt : v < 256 := by rw [← hv]; exact nm_take_lt _ 8
   have htake := take_at 8 w hm' (by decide) (by omega) v hv
   have AS : Aside (pos + 8 ≤ bs.length ∧ nm ((bs.drop pos).take 8) = v ∧ n + 1 = n1) := ⟨by rw [List.length_drop] at hshort; omega, hv, hn1⟩
   have hvI : (v : Int) < 256 := by omega
   have hsub : (n1 : Int) - 1 = (n : Int) := by omega
   have hnI : (n : Int) < 65536 := by omega
   have Ak8 : Aside (f 350 = .int .i64 (n1 : Int)) := k8
   clear hI hO hle' hm' k2 k5 k8 hm hnb hshort hn1 hvlt hv
   go_enter Tryz.func94, Tryz.ntmps94
   go_upto_region 6 with (go_at_call 64; refine htake.mono ?_; rintro e2 w2 ⟨rfl, hb2, hf2⟩)
   have d8 := (hb2.cell (show 350 < 355 by decide)).trans (congrArg some Ak8.out)
   have z8 := hb2.fz 350
   have hs4 := hb2.set 350 (.int .i64 (n : Int)) (by decide)
   have hst := pgive_c (v : Int) _ hs4
   have Af : Aside (Fm B w (w2.setCell ⟨D, 350, none⟩ (.int .i64 (n : Int)))) := hf2.trans (hb2.fmD ((Only.refl D w2).setCell 350 _))
   clear htake c0 c8 hs4 hb2 hf2
   go_wp2_with (go_at_call 98; refine hst.mono ?_; rintro e3 w3 ⟨rfl, hb3, hf3⟩)
   first | go_ret | go_ret2
   have a := A.out
   have hf : Fm B w w3 := Af.out.trans hf3
   rw [win_put, List.drop_drop] at hb3
   refine ⟨false, rfl, hf, Res.gave (c' := ⟨.sraw last n, pos + 8, out ++ [v], times ++ [(pos + 8 - 1) / 8]⟩) (Runs.one ?_) (a.1.to hf hb3 ⟨AK.out.1, AK.out.2, rfl⟩ rfl rfl AS.out.1) rfl a.2.1.done a.2.1.why v rfl rfl⟩
   unfold step
   simp only [pnum_at AS.out.1, AS.out.2.1, Option.map_some]
   rw [give_lt a.2.2.2]
set_option maxHeartbeats 1000000 in
theorem storedLength_s (w : World) {last : Bool} {pos : Nat} {out times : List Nat} (hI : Is w B D b R f bs ⟨.slen last, pos, out, times⟩) (hO : Op f) : StepOk 67 B D b R bs most ⟨.slen last, pos, out, times⟩ w := by
 obtain ⟨k2, k5⟩ := id hI.at_
 obtain ⟨p, hp⟩ : ∃ p, (pos + 7) / 8 * 8 = p := ⟨_, rfl⟩
 have hle' : p ≤ bs.length := by rw [← hp]; exact hI.le
 have hm' : Bs w B D b R f (bs.drop p) (win out) := by rw [← hp]; exact hI.mem
 have c0 := (hm'.cell (show 0 < 355 by decide)).trans (congrArg some hm'.c0)
 have A : Aside (Is w B D b R f bs ⟨.slen last, pos, out, times⟩ ∧ Op f ∧ p ≤ bs.length ∧ (pos + 7) / 8 * 8 = p) := ⟨hI, hO, hle', hp⟩
 have AK : Aside (f 2 = fnv D 67 ∧ f 5 = .bool last) := ⟨k2, k5⟩
 unfold StepOk
 by_cases hshort : (bs.drop p).length < 32
 ·have htake := take_short 32 w hm' hshort
  have AS : Aside ((bs.drop p).length < 32) := hshort
  clear hI hO hle' hm' k2 k5 hshort hp
  go_enter Tryz.func67, Tryz.ntmps67
  go_wp2_with (go_at_call 64; refine htake.mono ?_; rintro e3 w3 ⟨rfl, rfl⟩)
  first | go_ret | go_ret2
  have a := A.out
  have sh := AS.out
  rw [List.length_drop] at sh
  have hfew : bs.length < ep ⟨.slen last, pos, out, times⟩ + 32 := by
   show bs.length < (pos + 7) / 8 * 8 + 32
   omega
  by_cases h16 : bs.length < p + 16
  ·refine ⟨false, rfl, Fm.refl B w, Res.want a.1 a.2.1 hfew ?_ (fun y => by simp) (by simp)⟩
   unfold step
   simp only [a.2.2.2]
   rw [num_no (by omega)]; rfl
  ·refine ⟨false, rfl, Fm.refl B w, f, _, Runs.refl _, Or.inr (Or.inr (Or.inr ⟨rfl, ⟨a.1, a.2.1, hfew, ⟨.snot last (nm ((bs.drop p).take 16)), p + 16, out, times⟩, Runs.one ?_, ?_, rfl, fun y => by simp, by simp⟩, rfl⟩))⟩
   ·unfold step
    simp only [a.2.2.2]
    rw [pnum_at (by omega)]; rfl
   ·unfold step
    simp only []
    rw [num_no (by omega)]; rfl
 ·obtain ⟨v, hv⟩ : ∃ v, nm ((bs.drop p).take 32) = v := ⟨_, rfl⟩
  have hvlt : v < 4294967296 := by rw [← hv]; exact nm_take_lt _ 32
  have htake := take_at 32 w hm' (by decide) (by omega) v hv
  obtain ⟨x, hx⟩ : ∃ x, v % 65536 = x := ⟨_, rfl⟩
  obtain ⟨y, hy⟩ : ∃ y, v / 65536 = y := ⟨_, rfl⟩
  have hx2 : nm ((bs.drop p).take 16) = x := by
   have h1 := congrArg (· % 2 ^ 16) hv
   rw [← nm_take, List.take_take, Nat.min_eq_left (by decide)] at h1
   rw [h1, ← hx]
  have hy2 : nm ((bs.drop (p + 16)).take 16) = y := by
   have h1 := congrArg (· / 2 ^ 16) hv
   rw [← nm_drop, List.drop_take, List.drop_drop] at h1
   rw [h1, ← hy]
  have hand : bits .and .u32 (v : Int) 65535 = (x : Int) := by
   have := u32_mask v 16 hvlt (by decide) 65535 rfl
   rw [hx] at this
   exact this
  have hshr : (v : Int) / 65536 = (y : Int) := by omega
  have AS : Aside (p + 32 ≤ bs.length ∧ nm ((bs.drop p).take 16) = x ∧ nm ((bs.drop (p + 16)).take 16) = y) := ⟨by rw [List.length_drop] at hshort; omega, hx2, hy2⟩
  have hxI : (x : Int) < 65536 := by omega
  have hyI : (y : Int) < 65536 := by omega
  have A3 : Aside (x < 65536) := (show x < 65536 by omega)
  by_cases hsum : x + y = 65535
  ·have hne : (((x : Int) + (y : Int)) != 65535) = false := by rw [bne_eq_false_iff_eq]; omega
   have AQ : Aside (x + y = 65535) := hsum
   clear hI hO hle' hm' k2 k5 hshort hp hv hvlt hx hy hx2 hy2 hsum
   go_enter Tryz.func67, Tryz.ntmps67
   go_upto_region 7 with (go_at_call 64; refine htake.mono ?_; rintro e2 w2 ⟨rfl, hb2, hf2⟩)
   have z8 := hb2.fz 350
   have d8 := hb2.cell (show 350 < 355 by decide)
   have hs4 := hb2.set 350 (.int .i64 (x : Int)) (by decide)
   have hst := pthen_c 94 _ hs4
   have Af : Aside (Fm B w (w2.setCell ⟨D, 350, none⟩ (.int .i64 (x : Int)))) := hf2.trans (hb2.fmD ((Only.refl D w2).setCell 350 _))
   clear htake c0 hs4 hb2 hf2 hand hshr
   go_wp2_with (go_at_call 66; refine hst.mono ?_; rintro e3 w3 ⟨rfl, hb3, hf3⟩)
   first | go_ret | go_ret2
   have a := A.out
   have s := AS.out
   have hf : Fm B w w3 := Af.out.trans hf3
   rw [List.drop_drop] at hb3
   refine ⟨true, rfl, hf, Res.next (c' := ⟨.sraw last x, p + 32, out, times⟩) (Runs.cons (d := ⟨.snot last x, p + 16, out, times⟩) ?_ (Runs.one ?_)) (a.1.to hf hb3 ⟨rfl, AK.out.2, rfl⟩ rfl rfl s.1) (a.2.1.to rfl rfl rfl) rfl ?_⟩
   ·unfold step
    simp only [a.2.2.2]
    rw [pnum_at (by omega), s.2.1]; rfl
   ·unfold step
    simp only []
    rw [pnum_at (by omega), s.2.2, Option.map_some, if_pos AQ.out]
   ·unfold mu rk
    simp only []
    omega
  ·have hne : (((x : Int) + (y : Int)) != 65535) = true := by rw [bne_iff_ne]; omega
   have AQ : Aside (¬ x + y = 65535) := hsum
   clear hI hO hle' hm' k2 k5 hshort hp hv hvlt hx hy hx2 hy2 hsum
   go_enter Tryz.func67, Tryz.ntmps67
   go_upto_region 6 with (go_at_call 64; refine htake.mono ?_; rintro e2 w2 ⟨rfl, hb2, hf2⟩)
   have hst := pstop_c 11 _ hb2
   clear htake c0 hand hshr
   go_wp2_with (go_at_call 71; refine hst.mono ?_; rintro e3 w3 ⟨rfl, hb3, hf3⟩)
   first | go_ret | go_ret2
   have a := A.out
   have s := AS.out
   refine ⟨false, rfl, hf2.trans hf3, Res.over (c' := ⟨.bad 11, p + 32, out, times⟩) (Runs.cons (d := ⟨.snot last x, p + 16, out, times⟩) ?_ (Runs.one ?_)) (a.1.bad a.2.1 (hf2.trans hf3) hb3 11 (by decide) rfl rfl rfl rfl rfl rfl) rfl⟩
   ·unfold step
    simp only [a.2.2.2]
    rw [pnum_at (by omega), s.2.1]; rfl
   ·unfold step
    simp only []
    rw [pnum_at (by omega), s.2.2, Option.map_some, if_neg AQ.out]
end
end Go.Proofs.YtogednaamndpgaaGreatDoor

/-
  What the step that begins a block comes to.
-/
namespace Go.Proofs.YtogednaamndpgaaGreatDoor
open Go.RowKit
set_option linter.unusedVariables false
theorem head_k {bs : List Bool} {most pos : Nat} {out times : List Nat} {v k : Nat} {st : St} (h : num? bs pos 3 = some v) (hk : v / 2 = k) (hs : (k = 0 ∧ st = .slen (v % 2 == 1)) ∨ (k = 1 ∧ st = .sym (v % 2 == 1) fixL fixD) ∨ (k = 2 ∧ st = .dnum (v % 2 == 1)) ∨ (k = 3 ∧ st = .bad 10)) : Runs bs most ⟨.head false, pos, out, times⟩ ⟨st, pos + 3, out, times⟩ := by
  refine Runs.one ?_
  unfold step
  rcases hs with ⟨rfl, rfl⟩ | ⟨rfl, rfl⟩ | ⟨rfl, rfl⟩ | ⟨rfl, rfl⟩ <;> simp only [h, Option.map_some, hk]
section
variable {B D b R : Nat} {f : Nat → Value} {bs : List Bool} {most : Nat}
theorem align_at {h : List Bool} {l : List Int} (w : World) (s : Bs w B D b R f h l) : Calls Tryz.prog 65 #[.pointer (some ⟨b, 0, none⟩)] w fun e w' => (∃ z, e = .returned (.int .i64 z)) ∧ Bs w' B D b R f (h.drop (h.length % 8)) l ∧ Fm B w w' := by
  refine (align_b b (nm h) h.length w s.br).mono fun e w' hh => ?_
  obtain ⟨h1, h2, h3⟩ := hh
  rw [← nm_drop, ← List.length_drop] at h2
  exact ⟨⟨_, h1⟩, s.onb h3 h2, Fm.of_only h3 (by have := s.eb; omega) (by have := s.eb; omega)⟩
theorem fixed_any {h : List Bool} {l : List Int} (w : World) (s : Bs w B D b R f h l) (hx : Fx w B f) : Calls Tryz.prog 68 #[.pointer (some ⟨D, 0, none⟩)] w fun e w' => FixTo B D b R f h l w e w' := by
  rcases hx with h3 | ⟨h3, h4⟩
  · exact fixed_make w s h3.1
  · exact fixed_had w s h3 h4
set_option maxHeartbeats 1000000 in
theorem block_s (w : World) {pos : Nat} {out times : List Nat} (hI : Is w B D b R f bs ⟨.head false, pos, out, times⟩) (hO : Op f) (h8 : bs.length % 8 = 0) : StepOk 41 B D b R bs most ⟨.head false, pos, out, times⟩ w := by
  have k2 : f 2 = fnv D 41 := hI.at_
  have hle' : pos ≤ bs.length := hI.le
  have hm' : Bs w B D b R f (bs.drop pos) (win out) := hI.mem
  have c0 := (hm'.cell (show 0 < 355 by decide)).trans (congrArg some hm'.c0)
  have A : Aside (Is w B D b R f bs ⟨.head false, pos, out, times⟩ ∧ Op f ∧ pos ≤ bs.length ∧ bs.length % 8 = 0) := ⟨hI, hO, hle', h8⟩
  unfold StepOk
  by_cases hshort : (bs.drop pos).length < 3
  · have htake := take_short 3 w hm' hshort
    have AS : Aside ((bs.drop pos).length < 3) := hshort
    clear hI hO hle' hm' k2 hshort h8
    go_enter Tryz.func41, Tryz.ntmps41
    go_wp2_with (go_at_call 64; refine htake.mono ?_; rintro e3 w3 ⟨rfl, rfl⟩)
    first | go_ret | go_ret2
    have a := A.out
    have sh := AS.out
    rw [List.length_drop] at sh
    refine ⟨false, rfl, Fm.refl B w, Res.want a.1 a.2.1 ?_ ?_ (fun y => by simp) (by simp)⟩
    · show bs.length < pos + 32
      omega
    · unfold step
      simp only []
      rw [num_no (by omega)]; rfl
  · obtain ⟨v, hv⟩ : ∃ v, nm ((bs.drop pos).take 3) = v := ⟨_, rfl⟩
    have hvlt : v < 8 := by rw [← hv]; exact nm_take_lt _ 3
    have htake := take_at 3 w hm' (by decide) (by omega) v hv
    obtain ⟨u, hu⟩ : ∃ u, v % 2 = u := ⟨_, rfl⟩
    have hand : bits .and .u32 (v : Int) 1 = (u : Int) := by
      have := u32_mask v 1 (by omega) (by decide) 1 rfl
      rw [show 2 ^ 1 = 2 from rfl, hu] at this
      exact this
    obtain ⟨lb, hlb⟩ : ∃ lb, ((u : Int) == 1) = lb := ⟨_, rfl⟩
    have hlb2 : (v % 2 == 1) = lb := by rw [hu, ← hlb]; rw [Bool.eq_iff_iff, beq_iff_eq, beq_iff_eq]; omega
    have AS : Aside (pos + 3 ≤ bs.length ∧ nm ((bs.drop pos).take 3) = v ∧ (v % 2 == 1) = lb) := ⟨by rw [List.length_drop] at hshort; omega, hv, hlb2⟩
    have AR : Aside (num? bs pos 3 = some v) := (by show num? bs pos 3 = some v; rw [pnum_at AS.out.1, AS.out.2.1])
    have hcases : v / 2 = 0 ∨ v / 2 = 1 ∨ v / 2 = 2 ∨ v / 2 = 3 := by omega
    rcases hcases with hk | hk | hk | hk
    · have hshr : (v : Int) / 2 = 0 := by omega
      have AK : Aside (v / 2 = 0) := hk
      clear hI hO hle' hm' k2 hshort h8 hv hvlt hu hlb2 hk
      go_enter Tryz.func41, Tryz.ntmps41
      go_upto_region 7 with (go_at_call 64; refine htake.mono ?_; rintro e2 w2 ⟨rfl, hb2, hf2⟩
                             have z5 := hb2.fz 5
                             have d5 := hb2.cell (show 5 < 355 by decide))
      have hs3 := hb2.set 5 (.bool lb) (by decide)
      have f3 : Fm B w (w2.setCell ⟨D, 5, none⟩ (.bool lb)) := hf2.trans (hb2.fmD ((Only.refl D w2).setCell 5 _))
      obtain ⟨w3, hw3⟩ : ∃ w3, w2.setCell ⟨D, 5, none⟩ (.bool lb) = w3 := ⟨_, rfl⟩
      rw [hw3] at hs3 f3 ⊢
      have d0 := (hs3.cell (show 0 < 355 by decide)).trans (congrArg some hs3.c0)
      have hal := align_at w3 hs3
      have Af : Aside (Fm B w w3) := f3
      clear hb2 hf2 hw3 hand hlb hshr htake c0 z5 d5 hs3 f3
      go_wp2_with (first
        | (go_at_call 65; refine hal.mono ?_; rintro e4 w4 ⟨⟨z4, rfl⟩, hb4, hf4⟩
           have hth := pthen_c 67 w4 hb4)
        | (go_at_call 66; refine hth.mono ?_; rintro e5 w5 ⟨rfl, hb5, hf5⟩))
      first | go_ret | go_ret2
      have a := A.out
      have s := AS.out
      have hf : Fm B w w5 := (Af.out.trans hf4).trans hf5
      have hd : ((bs.drop pos).drop 3).drop (((bs.drop pos).drop 3).length % 8) = bs.drop ((pos + 3 + 7) / 8 * 8) := by
        rw [List.drop_drop, List.drop_drop, List.length_drop]
        congr 1
        have := a.2.2.2
        have h9 : (bs.drop pos).length = bs.length - pos := List.length_drop ..
        omega
      rw [hd] at hb5
      refine ⟨true, rfl, hf, Res.next (c' := ⟨.slen lb, pos + 3, out, times⟩) (head_k AR.out AK.out (Or.inl ⟨rfl, by rw [s.2.2]⟩)) (a.1.to hf hb5 ⟨rfl, rfl⟩ rfl rfl ?_) (a.2.1.to rfl rfl rfl) rfl ?_⟩
      · show (pos + 3 + 7) / 8 * 8 ≤ bs.length
        have := a.2.2.2
        omega
      · unfold mu rk
        simp only []
        omega
    · have hshr : (v : Int) / 2 = 1 := by omega
      have AK : Aside (v / 2 = 1) := hk
      clear hI hO hle' hm' k2 hshort h8 hv hvlt hu hlb2 hk
      go_enter Tryz.func41, Tryz.ntmps41
      go_upto_region 10 with (go_at_call 64; refine htake.mono ?_; rintro e2 w2 ⟨rfl, hb2, hf2⟩
                              have z5 := hb2.fz 5
                              have d5 := hb2.cell (show 5 < 355 by decide))
      have hs3 := hb2.set 5 (.bool lb) (by decide)
      have f3 : Fm B w (w2.setCell ⟨D, 5, none⟩ (.bool lb)) := hf2.trans (hb2.fmD ((Only.refl D w2).setCell 5 _))
      obtain ⟨w3, hw3⟩ : ∃ w3, w2.setCell ⟨D, 5, none⟩ (.bool lb) = w3 := ⟨_, rfl⟩
      rw [hw3] at hs3 f3 ⊢
      have hfix := fixed_any w3 hs3 (A.out.1.fx.fm f3 rfl rfl)
      have Af : Aside (Fm B w w3) := f3
      clear hb2 hf2 hw3 hand hlb hshr htake c0 z5 d5 hs3 f3
      go_wp2_with (first
        | (go_at_call 68; refine hfix.mono ?_; rintro e4 w4 ⟨v3, v4, f4, rfl, hb4, hf4, g3, g4, grest, ht3, ht4⟩
           obtain ⟨_, _, T3, rfl, _⟩ := id ht3
           obtain ⟨_, _, T4, rfl, _⟩ := id ht4
           have d6 := hb4.cell (show 6 < 355 by decide)
           have d7 := hb4.cell (show 7 < 355 by decide)
           have z6 := hb4.fz 6
           have z7 := hb4.fz 7
           have hth := pthen_c 69 _ ((hb4.set 6 (.pointer (some ⟨T3, 0, none⟩)) (by decide)).set 7 (.pointer (some ⟨T4, 0, none⟩)) (by decide))
           have A4 : Aside (Bs w4 B D b R f4 ((bs.drop pos).drop 3) (win out) ∧ Fm B w3 w4 ∧ f4 3 = .pointer (some ⟨T3, 0, none⟩) ∧ f4 4 = .pointer (some ⟨T4, 0, none⟩) ∧ (∀ i, i ≠ 3 → i ≠ 4 → f4 i = upd f 5 (.bool lb) i) ∧ Tbl w4 B (.pointer (some ⟨T3, 0, none⟩)) fixL ∧ Tbl w4 B (.pointer (some ⟨T4, 0, none⟩)) fixD) := ⟨hb4, hf4, g3, g4, grest, ht3, ht4⟩
           clear hb4 hf4 g3 g4 grest ht3 ht4)
        | (go_at_call 66; refine hth.mono ?_; rintro e5 w5 ⟨rfl, hb5, hf5⟩))
      first | go_ret | go_ret2
      have a := A.out
      have s := AS.out
      have a4 := A4.out
      have hf45 : Fm B w4 w5 := (a4.1.fmD (((Only.refl D w4).setCell 6 (.pointer (some ⟨T3, 0, none⟩))).setCell 7 (.pointer (some ⟨T4, 0, none⟩)))).trans hf5
      have hf : Fm B w w5 := (Af.out.trans a4.2.1).trans hf45
      rw [List.drop_drop] at hb5
      have e5 : f4 5 = .bool lb := (a4.2.2.2.2.1 5 (by decide) (by decide)).trans (upd_same _ _ _)
      have e352 : f4 352 = f 352 := a4.2.2.2.2.1 352 (by decide) (by decide)
      have e353 : f4 353 = f 353 := a4.2.2.2.2.1 353 (by decide) (by decide)
      have e354 : f4 354 = f 354 := a4.2.2.2.2.1 354 (by decide) (by decide)
      refine ⟨true, rfl, hf, Res.next (c' := ⟨.sym lb fixL fixD, pos + 3, out, times⟩) (head_k AR.out AK.out (Or.inr (Or.inl ⟨rfl, by rw [s.2.2]⟩))) ⟨hb5, ⟨rfl, e5, a4.2.2.2.2.2.1.fm hf45, a4.2.2.2.2.2.2.fm hf45⟩, Or.inr ⟨?_, ?_⟩, a.1.tabs.below (hf.below (by have := a.1.mem.lt; omega)) a.1.b7, s.1, a.1.b7⟩ (a.2.1.to e352 e353 e354) rfl ?_⟩
      · have := a4.2.2.2.2.2.1.fm hf45
        rw [← a4.2.2.1] at this
        exact this
      · have := a4.2.2.2.2.2.2.fm hf45
        rw [← a4.2.2.2.1] at this
        exact this
      · unfold mu rk
        simp only []
        omega
    · have hshr : (v : Int) / 2 = 2 := by omega
      have AK : Aside (v / 2 = 2) := hk
      clear hI hO hle' hm' k2 hshort h8 hv hvlt hu hlb2 hk
      go_enter Tryz.func41, Tryz.ntmps41
      go_wp2_with (first
        | (go_at_call 64; refine htake.mono ?_; rintro e2 w2 ⟨rfl, hb2, hf2⟩
           have z5 := hb2.fz 5
           have d5 := hb2.cell (show 5 < 355 by decide)
           have hth := pthen_c 70 _ (hb2.set 5 (.bool lb) (by decide)))
        | (go_at_call 66; refine hth.mono ?_; rintro e5 w5 ⟨rfl, hb5, hf5⟩))
      first | go_ret | go_ret2
      have a := A.out
      have s := AS.out
      have hf : Fm B w w5 := (hf2.trans (hb2.fmD ((Only.refl D w2).setCell 5 (.bool lb)))).trans hf5
      rw [List.drop_drop] at hb5
      refine ⟨true, rfl, hf, Res.next (c' := ⟨.dnum lb, pos + 3, out, times⟩) (head_k AR.out AK.out (Or.inr (Or.inr (Or.inl ⟨rfl, by rw [s.2.2]⟩)))) (a.1.to hf hb5 ⟨rfl, rfl⟩ rfl rfl s.1) (a.2.1.to rfl rfl rfl) rfl ?_⟩
      unfold mu rk
      simp only []
      omega
    · have hshr : (v : Int) / 2 = 3 := by omega
      have AK : Aside (v / 2 = 3) := hk
      clear hI hO hle' hm' k2 hshort h8 hv hvlt hu hlb2 hk
      go_enter Tryz.func41, Tryz.ntmps41
      go_wp2_with (first
        | (go_at_call 64; refine htake.mono ?_; rintro e2 w2 ⟨rfl, hb2, hf2⟩
           have z5 := hb2.fz 5
           have d5 := hb2.cell (show 5 < 355 by decide)
           have hth := pstop_c 10 _ (hb2.set 5 (.bool lb) (by decide)))
        | (go_at_call 71; refine hth.mono ?_; rintro e5 w5 ⟨rfl, hb5, hf5⟩))
      first | go_ret | go_ret2
      have a := A.out
      have s := AS.out
      have hf : Fm B w w5 := (hf2.trans (hb2.fmD ((Only.refl D w2).setCell 5 (.bool lb)))).trans hf5
      exact ⟨false, rfl, hf, Res.over (c' := ⟨.bad 10, pos + 3, out, times⟩) (head_k AR.out AK.out (Or.inr (Or.inr (Or.inr ⟨rfl, rfl⟩)))) (a.1.bad a.2.1 hf hb5 10 (by decide) rfl rfl rfl rfl rfl rfl) rfl⟩
end
end Go.Proofs.YtogednaamndpgaaGreatDoor

/-
 Rows of many cells: built, stored into the inflater's block.
-/
namespace Go.Proofs.YtogednaamndpgaaGreatDoor
open Go.RowKit
set_option linter.unusedVariables false
section
variable {P : Program}
structure Mid (D off : Nat) (f f' : Nat → Value) (vs : List Value) (w w' : World) : Prop where
 cells : Cells w' D (cz f') 92
 only : Only D w w'
 new : ∀ (j : Nat) (v : Value), vs[j]? = some v → f' (off + j) = v
 old : ∀ j, j < off ∨ off + vs.length ≤ j → f' j = f j
theorem store_mid (D off : Nat) : ∀ (vs : List Value) (i : Nat) (f : Nat → Value) (w : World), Cells w D (cz f) 92 → off + i + vs.length ≤ 355 → (∀ v ∈ vs, v.oneCell' = true) →
  ∃ w' f', (storeCells ⟨D, off, none⟩ vs i).run P w = .ok () w' ∧ Mid D (off + i) f f' vs w w'
 | [], i, f, w, hc, hl, h1 => ⟨w, f, rfl, hc, Only.refl _ _, fun j v h => by simp at h, fun _ _ => rfl⟩
 | v :: rest, i, f, w, hc, hl, h1 => by
  rw [List.length_cons] at hl
  have hadd : (⟨D, off, none⟩ : Addr).add i = ⟨D, off + i, none⟩ := by unfold Addr.add; split <;> simp_all
  have hcell : w.cell? ⟨D, off + i, none⟩ = some (f (off + i)) := (hc.cell _).trans (cz_at f (by omega))
  have hfro := hc.frozen (off + i)
  have hst : (store ((⟨D, off, none⟩ : Addr).add i) v).run P w = .ok () (w.setCell ⟨D, off + i, none⟩ v) := by
   rw [hadd, run_store P w _ v _ (h1 v (by simp)), hcell]
   simp [hfro]
  have hc2 : Cells (w.setCell ⟨D, off + i, none⟩ v) D (cz (upd f (off + i) v)) 92 := by
   have := hc.set (off + i) v
   rwa [cz_set] at this
  obtain ⟨w', f', h2, h3⟩ := store_mid D off rest (i + 1) (upd f (off + i) v) _ hc2 (by omega) (fun x hx => h1 x (by simp [hx]))
  refine ⟨w', f', ?_, h3.cells, ((Only.refl D w).setCell _ _).trans h3.only, ?_, ?_⟩
  ·simp only [storeCells, Sem.run_bind, hst, Result.andThen_ok, h2]
  ·intro j x hj
   cases j with
   | zero =>
    rw [List.getElem?_cons_zero] at hj
    cases hj
    rw [Nat.add_zero, h3.old _ (Or.inl (by omega)), upd_same]
   | succ j =>
    rw [List.getElem?_cons_succ] at hj
    have := h3.new j x hj
    rw [show off + i + (j + 1) = off + (i + 1) + j by omega]
    exact this
  ·intro j hj
   rw [List.length_cons] at hj
   rw [h3.old j (by omega), upd_ne _ _ (by omega)]
theorem wpList_store_mid {ops : Array Oper} {rest : List Oper} {o : Oper} {a : Act} {w : World} {Q : Exit → Act → World → Prop} (hgd : o.guard = none) (ty : TypeId) (x y : Operand) (ho : o.op = .store ty x y)
  (D off : Nat) (cells : Array Value) (hx : a.eval x = .pointer (some ⟨D, off, none⟩)) (hy : a.eval y = .agg cells) (f : Nat → Value) (hg : Cells w D (cz f) 92) (hi : (P.info? ty).map (·.size) = some cells.size)
  (hle : off + cells.size ≤ 355) (h1 : cells.all (·.oneCell') = true)
  (h : ∀ w' f', Mid D off f f' cells.toList w w' → wpList P ops Q rest (a.put o.dst undef) w') : wpList P ops Q (o :: rest) a w := by
 refine wpList_plain hgd fun K hK => ?_
 obtain ⟨w', f', h2, h3⟩ := store_mid (P := P) D off cells.toList 0 f w hg (by simp; omega) (fun v hv => (Array.all_eq_true_iff_forall_mem.1 h1) v (by simpa using hv))
 have hv : (storeVar ty ⟨D, off, none⟩ (.agg cells)).run P w = .ok () w' := by
  cases hq : P.info? ty with
  | none => simp [hq] at hi
  | some i =>
   have hs : cells.size = i.size := by simp [hq] at hi; omega
   simp [storeVar, sizeOf, typeInfo, hq, Value.cells, hs, h2]
 unfold Oper.wp execOp
 simp only [ho, hx, hy, Instr.storeAt, Instr.sureAddr, Sem.run_bind, Sem.run_pure, Result.andThen_ok, hv]
 exact hK _ _ (h w' f' h3)
end
def pf (a b c : Int) (i : Nat) : Value := if i = 0 then .int .i64 a else if i = 1 then .int .i64 b else if i = 2 then .int .i64 c else if i = 23 then .pointer none else .int .i64 0
def pz (a b c : Int) : Array Value := ((List.range 340).map (pf a b c)).toArray
theorem pz_size (a b c : Int) : (pz a b c).size = 340 := by simp [pz]
theorem pz_at (a b c : Int) {i : Nat} (h : i < 340) : (pz a b c).toList[i]? = some (pf a b c i) := by simp [pz, h]
theorem pz_one (a b c : Int) : (pz a b c).all (·.oneCell') = true := by
 rw [Array.all_eq_true_iff_forall_mem]
 intro v hv
 simp only [pz, List.mem_toArray, List.mem_map] at hv
 obtain ⟨i, _, rfl⟩ := hv
 unfold pf
 split
 ·rfl
 split
 ·rfl
 split
 ·rfl
 split <;> rfl
theorem size71 : (Tryz.prog.info? 90).map (·.size) = some 340 := by kernel_rfl
def nf (b R : Nat) (v3 v4 : Value) (i : Nat) : Value := if i = 0 then .pointer (some ⟨b, 0, none⟩) else if i = 1 then .pointer (some ⟨R, 0, none⟩) else if i = 2 then .nilFunc else if i = 3 then v3 else if i = 4 then v4
 else if i = 5 then .bool false else if i = 6 then .pointer none else if i = 7 then .pointer none else if i = 31 then .pointer none else if i = 351 then .int .u8 0 else if i = 352 then .bool false else if i = 353 then .bool false else .int .i64 0
theorem size73 : (Tryz.prog.info? 92).map (·.size) = some 355 := by kernel_rfl
theorem zc71 (a b c : Int) : ((Tryz.zeroCells90.setIfInBounds 0 (.int .i64 a)).setIfInBounds 1 (.int .i64 b)).setIfInBounds 2 (.int .i64 c) = pz a b c := by kernel_rfl
theorem zc71_none : Tryz.zeroCells90 = pz 0 0 0 := by kernel_rfl
end Go.Proofs.YtogednaamndpgaaGreatDoor

/-
  What the step that takes a length of a length comes to.
-/
namespace Go.Proofs.YtogednaamndpgaaGreatDoor
open Go.RowKit
set_option linter.unusedVariables false
theorem ordr_lt : ∀ i, i < 19 → ordr.getD i 0 < 19 := by decide +kernel
section
variable {B D b R : Nat} {f : Nat → Value} {bs : List Bool} {most : Nat}
set_option maxHeartbeats 1000000 in
theorem smallLength_s (w : World) {last : Bool} {a c k i : Nat} {first : List Nat} {pos : Nat} {out times : List Nat} (hI : Is w B D b R f bs ⟨.dfst last a c k i first, pos, out, times⟩) (hO : Op f) : StepOk 101 B D b R bs most ⟨.dfst last a c k i first, pos, out, times⟩ w := by
  obtain ⟨k2, k5, sm⟩ := id hI.at_
  have hle' : pos ≤ bs.length := hI.le
  have hm' : Bs w B D b R f (bs.drop pos) (win out) := hI.mem
  have c0 := (hm'.cell (show 0 < 355 by decide)).trans (congrArg some hm'.c0)
  have A : Aside (Is w B D b R f bs ⟨.dfst last a c k i first, pos, out, times⟩ ∧ Op f ∧ pos ≤ bs.length) := ⟨hI, hO, hle'⟩
  have AK : Aside (f 2 = fnv D 101 ∧ f 5 = .bool last ∧ Sm f a c k i first) := ⟨k2, k5, sm⟩
  unfold StepOk
  by_cases hshort : (bs.drop pos).length < 3
  · have htake := take_short 3 w hm' hshort
    have AS : Aside ((bs.drop pos).length < 3) := hshort
    clear hI hO hle' hm' k2 k5 hshort sm
    go_enter Tryz.func101, Tryz.ntmps101
    go_wp2_with (go_at_call 64; refine htake.mono ?_; rintro e3 w3 ⟨rfl, rfl⟩)
    first | go_ret | go_ret2
    have a' := A.out
    have sh := AS.out
    rw [List.length_drop] at sh
    refine ⟨false, rfl, Fm.refl B w, Res.want a'.1 a'.2.1 ?_ ?_ (fun y => by simp) (by simp)⟩
    · show bs.length < pos + 32
      omega
    · unfold step
      simp only []
      rw [if_pos AK.out.2.2.lt, num_no (by omega)]; rfl
  · obtain ⟨v, hv⟩ : ∃ v, nm ((bs.drop pos).take 3) = v := ⟨_, rfl⟩
    have hvlt : v < 8 := by rw [← hv]; exact nm_take_lt _ 3
    have htake := take_at 3 w hm' (by decide) (by omega) v hv
    obtain ⟨o, ho⟩ : ∃ o, ordr.getD i 0 = o := ⟨_, rfl⟩
    have hik := sm.lt
    have hk19 := sm.k19
    have holt : o < 19 := by rw [← ho]; exact ordr_lt i (by omega)
    have hvI : (v : Int) < 8 := by omega
    have hoI : ((o : Int) < 19) = True := eq_true (by omega)
    have hon : (o < 19) = True := eq_true (by omega)
    have hiI : ((i : Int) < 19) = True := eq_true (by omega)
    have hin : (i < 19) = True := eq_true (by omega)
    have AS : Aside (pos + 3 ≤ bs.length ∧ nm ((bs.drop pos).take 3) = v ∧ ordr.getD i 0 = o ∧ o < 19 ∧ v < 8 ∧ i < 19) := ⟨by rw [List.length_drop] at hshort; omega, hv, ho, holt, hvlt, by omega⟩
    clear hI hO hle' hm' k2 k5 hshort sm hv hvlt ho hik hk19 holt
    go_enter Tryz.func101, Tryz.ntmps101
    go_upto_region 5 with (go_at_call 64; refine htake.mono ?_; rintro e2 w2 ⟨rfl, hb2, hf2⟩)
    have s := AS.out
    have k' := AK.out
    have d11 := (hb2.cell (show 11 < 355 by decide)).trans (congrArg some k'.2.2.have_)
    have t2 := (A.out.1.tabs.below (hf2.below (by have := A.out.1.mem.lt; omega)) A.out.1.b7).t2 i s.2.2.2.2.2
    rw [s.2.2.1] at t2
    have dO := hb2.cell (show 12 + o < 355 by omega)
    have zO := hb2.fz (12 + o)
    have Ab2 : Aside (Bs w2 B D b R f ((bs.drop pos).drop 3) (win out) ∧ Fm B w w2) := ⟨hb2, hf2⟩
    clear hb2 hf2 htake c0 s k'
    go_region
    have hb3 := (Ab2.out.1.set (12 + o) (.int .i64 (v : Int)) (by omega)).drew
    have hf3 : Fm B w (w2.setCell ⟨D, 12 + o, none⟩ (.int .i64 (v : Int))).drew := (Ab2.out.2.trans (Ab2.out.1.fmD ((Only.refl D w2).setCell (12 + o) _))).drew
    obtain ⟨w3, hw3⟩ : ∃ w3, (w2.setCell ⟨D, 12 + o, none⟩ (.int .i64 (v : Int))).drew = w3 := ⟨_, rfl⟩
    rw [hw3] at hb3 hf3 ⊢
    obtain ⟨j, hj⟩ : ∃ j, i + 1 = j := ⟨_, rfl⟩
    have hjI : (i : Int) + 1 = (j : Int) := by omega
    have e11 : upd f (12 + o) (.int .i64 (v : Int)) 11 = .int .i64 (i : Int) := (upd_ne _ _ (by omega)).trans AK.out.2.2.have_
    have g11 := (hb3.cell (show 11 < 355 by decide)).trans (congrArg some e11)
    have y11 := hb3.fz 11
    have hb4 := hb3.set 11 (.int .i64 (j : Int)) (by decide)
    have hf4 : Fm B w (w3.setCell ⟨D, 11, none⟩ (.int .i64 (j : Int))) := hf3.trans (hb3.fmD ((Only.refl D w3).setCell 11 _))
    have hib : (i : Int) < 100 := by have := AS.out; omega
    have AJ : Aside (i + 1 = j) := hj
    clear hw3 hb3 hf3 d11 t2 dO zO e11 hj
    go_upto_region 7 with fail
    obtain ⟨w4, hw4⟩ : ∃ w4, w3.setCell ⟨D, 11, none⟩ (.int .i64 (j : Int)) = w4 := ⟨_, rfl⟩
    rw [hw4] at hb4 hf4 ⊢
    have g11' := hb4.cell (show 11 < 355 by decide)
    rw [upd_same] at g11'
    have g10 := hb4.cell (show 10 < 355 by decide)
    rw [upd_ne _ _ (by decide), upd_ne _ _ (by omega), AK.out.2.2.c10] at g10
    obtain ⟨first', hfst⟩ : ∃ l, first.set o v = l := ⟨_, rfl⟩
    have hrow : ∀ (n x : Nat), first'[n]? = some x → upd (upd f (12 + o) (.int .i64 (v : Int))) 11 (.int .i64 (j : Int)) (12 + n) = .int .i64 (x : Int) := fun n x hx => by
      rw [upd_ne _ _ (by omega)]
      rw [← hfst, List.getElem?_set] at hx
      by_cases e : o = n
      · subst e
        rw [if_pos rfl] at hx
        split at hx
        · cases hx; exact upd_same _ _ _
        · cases hx
      · rw [if_neg e] at hx
        rw [upd_ne _ _ (by omega)]
        exact AK.out.2.2.row n x hx
    have hlen' : first'.length = 19 := by rw [← hfst, List.length_set]; exact AK.out.2.2.len
    have hle7 : ∀ x ∈ first', x ≤ 7 := fun x hx => by
      rw [← hfst] at hx
      rcases List.mem_or_eq_of_mem_set hx with h | h
      · exact AK.out.2.2.le x h
      · have := AS.out; omega
    have A4 : Aside (Bs w4 B D b R (upd (upd f (12 + o) (.int .i64 (v : Int))) 11 (.int .i64 (j : Int))) ((bs.drop pos).drop 3) (win out) ∧ Fm B w w4 ∧ first.set o v = first' ∧ (∀ (n x : Nat), first'[n]? = some x → upd (upd f (12 + o) (.int .i64 (v : Int))) 11 (.int .i64 (j : Int)) (12 + n) = .int .i64 (x : Int)) ∧ first'.length = 19 ∧ ∀ x ∈ first', x ≤ 7) := ⟨hb4, hf4, hfst, hrow, hlen', hle7⟩
    have hupd : ∀ n, n ≠ 11 → n < 12 ∨ 31 ≤ n → upd (upd f (12 + o) (.int .i64 (v : Int))) 11 (.int .i64 (j : Int)) n = f n := fun n h1 h2 => by
      have := AS.out
      rw [upd_ne _ _ h1, upd_ne _ _ (by omega)]
    have AU : Aside (∀ n, n ≠ 11 → n < 12 ∨ 31 ≤ n → upd (upd f (12 + o) (.int .i64 (v : Int))) 11 (.int .i64 (j : Int)) n = f n) := hupd
    clear hb4 hf4 hfst hrow hlen' hle7 hw4 hupd g11 y11
    have hstep : step bs most ⟨.dfst last a c k i first, pos, out, times⟩ = some ⟨.dfst last a c k j first', pos + 3, out, times⟩ := by
      have s := AS.out
      unfold step
      simp only []
      rw [if_pos AK.out.2.2.lt, pnum_at s.1, s.2.1, s.2.2.1, Option.map_some, A4.out.2.2.1, AJ.out]
    have AT : Aside (step bs most ⟨.dfst last a c k i first, pos, out, times⟩ = some ⟨.dfst last a c k j first', pos + 3, out, times⟩) := hstep
    clear hstep
    by_cases hjk : j < k
    · have t1 : ((j : Int) < (k : Int)) = True := eq_true (by omega)
      have t2 : (j < k) = True := eq_true hjk
      have AL : Aside (j < k) := hjk
      clear hjk hjI hib
      go_quiet (fail)
      go_wp2_with fail
      first | go_ret | go_ret2
      have a' := A.out
      have s := AS.out
      have a4 := A4.out
      have u := AU.out
      have m := AK.out.2.2
      have hb5 := a4.1.drewN nq
      rw [List.drop_drop] at hb5
      have hf : Fm B w (w4.drewN nq) := a4.2.1.drewN nq
      refine ⟨true, rfl, hf, Res.next (c' := ⟨.dfst last a c k j first', pos + 3, out, times⟩) (Runs.one AT.out) (a'.1.to hf hb5 ⟨(u 2 (by decide) (by decide)).trans AK.out.1, (u 5 (by decide) (by decide)).trans AK.out.2.1, m.a1, m.a2, m.b1, m.b2, (u 8 (by decide) (by decide)).trans m.c8, (u 9 (by decide) (by decide)).trans m.c9, (u 10 (by decide) (by decide)).trans m.c10, upd_same _ _ _, AL.out, m.k19, a4.2.2.2.2.1, a4.2.2.2.1, a4.2.2.2.2.2⟩ (u 3 (by decide) (by decide)) (u 4 (by decide) (by decide)) s.1) (a'.2.1.to (u 352 (by decide) (by decide)) (u 353 (by decide) (by decide)) (u 354 (by decide) (by decide))) rfl ?_⟩
      unfold mu rk
      simp only []
      omega
    · have hjk' : j = k := by have := AK.out.2.2.lt; have := AJ.out; omega
      have AL : Aside (j = k ∧ ¬ j < k) := ⟨hjk', hjk⟩
      have t1 : ((j : Int) < (k : Int)) = False := eq_false (by omega)
      have t2 : (j < k) = False := eq_false hjk
      clear hjk hjI hib hjk'
      go_quiet (fail)
      have hb5 := A4.out.1.drewN nq
      have hf5 : Fm B w (w4.drewN nq) := A4.out.2.1.drewN nq
      obtain ⟨w5, hw5⟩ : ∃ w5, w4.drewN nq = w5 := ⟨_, rfl⟩
      rw [hw5] at hb5 hf5 ⊢
      have hlens : ∀ u, Bs u B D b R (upd (upd f (12 + o) (.int .i64 (v : Int))) 11 (.int .i64 (j : Int))) ((bs.drop pos).drop 3) (win out) → Lens u (some ⟨D, 12, none⟩) (iz first') := fun u hu => Or.inr ⟨D, 12, rfl, fun n z hz => by
        unfold iz at hz
        rw [List.getElem?_map, Option.map_eq_some_iff] at hz
        obtain ⟨x, hx, rfl⟩ := hz
        have hn : n < 19 := by rw [← A4.out.2.2.2.2.1]; exact (List.getElem?_eq_some_iff.1 hx).1
        rw [hu.cell (show 12 + n < 355 by omega), A4.out.2.2.2.1 n x hx]⟩
      have hok : Okl (iz first') := okl_iz.2 ⟨by rw [A4.out.2.2.2.2.1]; decide, fun x hx => by have := A4.out.2.2.2.2.2 x hx; omega⟩
      have hkr := kraft_c (some ⟨D, 12, none⟩) (iz first') 19 19 (kr first') true w5 (hlens _ hb5) (by rw [iz_len]; exact A4.out.2.2.2.2.1) (by decide) (Or.inl ⟨hok, by rw [lens_iz], rfl⟩)
      obtain ⟨q, hq⟩ : ∃ q, kr first' = q := ⟨_, rfl⟩
      rw [hq] at hkr
      have A5 : Aside (Bs w5 B D b R (upd (upd f (12 + o) (.int .i64 (v : Int))) 11 (.int .i64 (j : Int))) ((bs.drop pos).drop 3) (win out) ∧ Fm B w w5 ∧ Okl (iz first') ∧ kr first' = q ∧ (∀ u, Bs u B D b R (upd (upd f (12 + o) (.int .i64 (v : Int))) 11 (.int .i64 (j : Int))) ((bs.drop pos).drop 3) (win out) → Lens u (some ⟨D, 12, none⟩) (iz first'))) := ⟨hb5, hf5, hok, hq, hlens⟩
      clear hb5 hf5 hok hlens hw5 g11' g10
      by_cases hfull : q = 32768
      · have AF : Aside (q = 32768) := hfull
        have hqt : ((q : Int) != 32768) = false := by rw [bne_eq_false_iff_eq]; omega
        clear hfull hq
        go_upto_region 12 with (go_at_call 114; refine hkr.mono ?_; rintro e6 w6 ⟨rfl, hb6⟩)
        have s6 := A5.out.1.below hb6 (Nat.le_refl _)
        have hnerr : nerr (iz first') = 0 := by
          unfold nerr
          rw [if_neg (by rw [Decidable.not_not]; exact A5.out.2.2.1), lens_iz, if_neg (by rw [A5.out.2.2.2.1, AF.out]; decide), if_neg]
          rintro ⟨h1, _⟩
          rw [A5.out.2.2.2.1, AF.out] at h1
          omega
        have hnew := new_yes (some ⟨D, 12, none⟩) (iz first') 19 19 w6 (A5.out.2.2.2.2 _ s6) (by rw [iz_len]; exact A4.out.2.2.2.2.1) (by decide) hnerr
        rw [lens_iz] at hnew
        have A6 : Aside (Bs w6 B D b R (upd (upd f (12 + o) (.int .i64 (v : Int))) 11 (.int .i64 (j : Int))) ((bs.drop pos).drop 3) (win out) ∧ Fm B w w6) := ⟨s6, A5.out.2.1.trans (Fm.of_below hb6 (Nat.le_refl _))⟩
        clear s6 hnerr hb6 hkr hqt
        go_wp2_with (first
          | (go_at_call 96; refine hnew.mono ?_; rintro e7 w7 ⟨T, rfl, hp7, hb7⟩
             have s7 := A6.out.1.below hb7 (Nat.le_refl _)
             have d31 := s7.cell (show 31 < 355 by decide)
             have z31 := s7.fz 31
             have s8 := s7.set 31 (.pointer (some ⟨T, 0, none⟩)) (by decide)
             have d11 := s7.cell (show 11 < 355 by decide)
             have z11 := s7.fz 11
             have hth := pthen_c 115 _ (s8.set 11 (.int .i64 0) (by decide))
             have A7 : Aside (Bs w7 B D b R (upd (upd f (12 + o) (.int .i64 (v : Int))) 11 (.int .i64 (j : Int))) ((bs.drop pos).drop 3) (win out) ∧ Fm B w w7 ∧ Tbl w7 B (.pointer (some ⟨T, 0, none⟩)) first') := ⟨s7, A6.out.2.trans (Fm.of_below hb7 (Nat.le_refl _)), w6.heap.size, w7.heap.size, T, rfl, A6.out.1.lt, Nat.le_refl _, hp7, by rw [A4.out.2.2.2.2.1]; decide⟩
             clear s7 s8 hp7 hb7)
          | (go_at_call 66; refine hth.mono ?_; rintro e9 w9 ⟨rfl, hb9, hf9⟩))
        first | go_ret | go_ret2
        have a' := A.out
        have s := AS.out
        have a7 := A7.out
        have u := AU.out
        have m := AK.out.2.2
        have hf79 : Fm B w7 w9 := (a7.1.fmD (((Only.refl D w7).setCell 31 (.pointer (some ⟨T, 0, none⟩))).setCell 11 (.int .i64 0))).trans hf9
        have hf : Fm B w w9 := a7.2.1.trans hf79
        rw [List.drop_drop] at hb9
        have u' : ∀ n, n ≠ 2 → n ≠ 11 → n ≠ 31 → n < 12 ∨ 31 ≤ n → upd (upd (upd (upd (upd f (12 + o) (.int .i64 (v : Int))) 11 (.int .i64 (j : Int))) 31 (.pointer (some ⟨T, 0, none⟩))) 11 (.int .i64 0)) 2 (fnv D 115) n = f n := fun n h0 h1 h2 h3 => by
          rw [upd_ne _ _ h0, upd_ne _ _ h1, upd_ne _ _ h2]
          exact u n h1 h3
        refine ⟨true, rfl, hf, Res.next (c' := ⟨.dsym last a c first' [], pos + 3, out, times⟩) (Runs.cons AT.out (Runs.one ?_)) (a'.1.to hf hb9 ⟨upd_same _ _ _, (u' 5 (by decide) (by decide) (by decide) (by decide)).trans AK.out.2.1, m.a1, m.a2, m.b1, m.b2, (u' 8 (by decide) (by decide) (by decide) (by decide)).trans m.c8, (u' 9 (by decide) (by decide) (by decide) (by decide)).trans m.c9, rfl, by simp, fun j x hx => by simp at hx, ?_, A4.out.2.2.2.2.1⟩ (u' 3 (by decide) (by decide) (by decide) (by decide)) (u' 4 (by decide) (by decide) (by decide) (by decide)) s.1) (a'.2.1.to (u' 352 (by decide) (by decide) (by decide) (by decide)) (u' 353 (by decide) (by decide) (by decide) (by decide)) (u' 354 (by decide) (by decide) (by decide) (by decide))) rfl ?_⟩
        · unfold step
          simp only []
          rw [if_neg AL.out.2, if_pos (by rw [A5.out.2.2.2.1]; exact AF.out)]
        · exact a7.2.2.fm hf79
        · unfold mu rk
          simp only []
          omega
      · have AF : Aside (¬ q = 32768) := hfull
        have hqt : ((q : Int) != 32768) = true := by rw [bne_iff_ne]; omega
        clear hfull hq
        go_wp2_with (first
          | (go_at_call 114; refine hkr.mono ?_; rintro e6 w6 ⟨rfl, hb6⟩
             have s6 := A5.out.1.below hb6 (Nat.le_refl _)
             have hst := pstop_c 12 w6 s6
             have A6 : Aside (Fm B w w6) := A5.out.2.1.trans (Fm.of_below hb6 (Nat.le_refl _)))
          | (go_at_call 71; refine hst.mono ?_; rintro e9 w9 ⟨rfl, hb9, hf9⟩))
        first | go_ret | go_ret2
        have a' := A.out
        have u := AU.out
        have hf : Fm B w w9 := A6.out.trans hf9
        refine ⟨false, rfl, hf, Res.over (c' := ⟨.bad 12, pos + 3, out, times⟩) (Runs.cons AT.out (Runs.one ?_)) (a'.1.bad a'.2.1 hf hb9 12 (by decide) rfl rfl ((upd_ne _ _ (by decide)).trans (u 352 (by decide) (by decide))) ((upd_ne _ _ (by decide)).trans (u 353 (by decide) (by decide))) ((upd_ne _ _ (by decide)).trans (u 3 (by decide) (by decide))) ((upd_ne _ _ (by decide)).trans (u 4 (by decide) (by decide)))) rfl⟩
        unfold step
        simp only []
        rw [if_neg AL.out.2, if_neg (by rw [A5.out.2.2.2.1]; exact AF.out)]
end
end Go.Proofs.YtogednaamndpgaaGreatDoor

/-
 What the steps at a dynamic block's beginning come to: counts.
-/
namespace Go.Proofs.YtogednaamndpgaaGreatDoor
open Go.RowKit
set_option linter.unusedVariables false
section
variable {B D b R : Nat} {f : Nat → Value} {bs : List Bool} {most : Nat}
theorem Bs.mid {w w' : World} {h : List Bool} {l : List Int} {f' : Nat → Value} {off : Nat} {vs : List Value} (s : Bs w B D b R f h l) (m : Mid D off f f' vs w w') (ho : 2 ≤ off) : Bs w' B D b R f' h l :=
 s.onD m.only m.cells (m.old 0 (Or.inl (by omega))) (m.old 1 (Or.inl (by omega)))
set_option maxRecDepth 100000 in
set_option maxHeartbeats 1000000 in
theorem counts_s (w : World) {last : Bool} {pos : Nat} {out times : List Nat} (hI : Is w B D b R f bs ⟨.dnum last, pos, out, times⟩) (hO : Op f) : StepOk 70 B D b R bs most ⟨.dnum last, pos, out, times⟩ w := by
 obtain ⟨k2, k5⟩ := id hI.at_
 have hle' : pos ≤ bs.length := hI.le
 have hm' : Bs w B D b R f (bs.drop pos) (win out) := hI.mem
 have c0 := (hm'.cell (show 0 < 355 by decide)).trans (congrArg some hm'.c0)
 have A : Aside (Is w B D b R f bs ⟨.dnum last, pos, out, times⟩ ∧ Op f ∧ pos ≤ bs.length) := ⟨hI, hO, hle'⟩
 have AK : Aside (f 2 = fnv D 70 ∧ f 5 = .bool last) := ⟨k2, k5⟩
 unfold StepOk
 by_cases hshort : (bs.drop pos).length < 14
 ·have htake := take_short 14 w hm' hshort
  have AS : Aside ((bs.drop pos).length < 14) := hshort
  clear hI hO hle' hm' k2 k5 hshort
  go_enter Tryz.func70, Tryz.ntmps70
  go_wp2_with (go_at_call 64; refine htake.mono ?_; rintro e3 w3 ⟨rfl, rfl⟩)
  first | go_ret | go_ret2
  have a := A.out
  have sh := AS.out
  rw [List.length_drop] at sh
  refine ⟨false, rfl, Fm.refl B w, Res.want a.1 a.2.1 ?_ ?_ (fun y => by simp) (by simp)⟩
  ·show bs.length < pos + 32
   omega
  ·unfold step
   simp only []
   rw [num_no (by omega)]; rfl
 ·obtain ⟨v, hv⟩ : ∃ v, nm ((bs.drop pos).take 14) = v := ⟨_, rfl⟩
  have hvlt : v < 16384 := by rw [← hv]; exact nm_take_lt _ 14
  have htake := take_at 14 w hm' (by decide) (by omega) v hv
  obtain ⟨x, hx⟩ : ∃ x, v % 32 = x := ⟨_, rfl⟩
  obtain ⟨y0, hy0⟩ : ∃ y, v / 32 = y := ⟨_, rfl⟩
  obtain ⟨y, hy⟩ : ∃ y, y0 % 32 = y := ⟨_, rfl⟩
  obtain ⟨z, hz⟩ : ∃ z, v / 1024 = z := ⟨_, rfl⟩
  have hand1 : bits .and .u32 (v : Int) 31 = (x : Int) := by
   have := u32_mask v 5 (by omega) (by decide) 31 rfl
   rw [show 2 ^ 5 = 32 from rfl, hx] at this
   exact this
  have hand2 : bits .and .u32 (y0 : Int) 31 = (y : Int) := by
   have := u32_mask y0 5 (by omega) (by decide) 31 rfl
   rw [show 2 ^ 5 = 32 from rfl, hy] at this
   exact this
  have hdiv1 : (v : Int) / 32 = (y0 : Int) := by omega
  have hdiv2 : (v : Int) / 1024 = (z : Int) := by omega
  have hxI : (x : Int) < 32 := by omega
  have hyI : (y : Int) < 32 := by omega
  have hzI : (z : Int) < 16 := by omega
  have AS : Aside (pos + 14 ≤ bs.length ∧ nm ((bs.drop pos).take 14) = v ∧ v % 32 = x ∧ v / 32 % 32 = y ∧ v / 1024 = z ∧ x < 32 ∧ y < 32 ∧ z < 16) := ⟨by rw [List.length_drop] at hshort; omega, hv, hx, by rw [hy0]; exact hy, hz, by omega, by omega, by omega⟩
  clear hI hO hle' hm' k2 k5 hshort hv hvlt hx hy0 hy hz
  go_enter Tryz.func70, Tryz.ntmps70
  go_upto_region 4 with (go_at_call 64; refine htake.mono ?_; rintro e2 w2 ⟨rfl, hb2, hf2⟩)
  have hfr := hb2.fr
  have Ab2 : Aside (Bs w2 B D b R f ((bs.drop pos).drop 14) (win out) ∧ Fm B w w2) := ⟨hb2, hf2⟩
  clear hb2 hf2 htake c0
  go_upto_region 5 with (first
   | (refine wpList_store_mid rfl 90 (.tmp 31) (.tmp 29) rfl D 8 (((Tryz.zeroCells90.setIfInBounds 0 (.int .i64 (257 + (x : Int)))).setIfInBounds 1 (.int .i64 (1 + (y : Int)))).setIfInBounds 2 (.int .i64 (4 + (z : Int)))) rfl rfl f hfr (by rw [zc71, pz_size]; exact size71) (by rw [zc71, pz_size]; decide) (by rw [zc71]; exact pz_one _ _ _) ?_; intro w4 f4 hm4; rw [zc71] at hm4))
  have hb4 := Ab2.out.1.mid hm4 (by decide)
  have hf4 : Fm B w w4 := Ab2.out.2.trans (Ab2.out.1.fmD hm4.only)
  have hnew : ∀ j, j < 340 → f4 (8 + j) = pf (257 + (x : Int)) (1 + (y : Int)) (4 + (z : Int)) j := fun j hj => hm4.new j _ (pz_at _ _ _ hj)
  have hold : ∀ j, j < 8 ∨ 348 ≤ j → f4 j = f j := fun j hj => hm4.old j (by rw [Array.length_toList, pz_size]; exact hj)
  have e8 : f4 8 = .int .i64 (257 + (x : Int)) := hnew 0 (by decide)
  have e9 : f4 9 = .int .i64 (1 + (y : Int)) := hnew 1 (by decide)
  have e10 : f4 10 = .int .i64 (4 + (z : Int)) := hnew 2 (by decide)
  have d8 := (hb4.cell (show 8 < 355 by decide)).trans (congrArg some e8)
  have d9 := (hb4.cell (show 9 < 355 by decide)).trans (congrArg some e9)
  have A4 : Aside (Bs w4 B D b R f4 ((bs.drop pos).drop 14) (win out) ∧ Fm B w w4 ∧ (∀ j, j < 340 → f4 (8 + j) = pf (257 + (x : Int)) (1 + (y : Int)) (4 + (z : Int)) j) ∧ (∀ j, j < 8 ∨ 348 ≤ j → f4 j = f j) ∧ f4 8 = .int .i64 (257 + (x : Int)) ∧ f4 9 = .int .i64 (1 + (y : Int)) ∧ f4 10 = .int .i64 (4 + (z : Int))) := ⟨hb4, hf4, hnew, hold, e8, e9, e10⟩
  clear hm4 hb4 hf4 hnew hold e8 e9 e10 hfr
  by_cases hbad : 286 < 257 + x ∨ 30 < 1 + y
  ·have AB : Aside (286 < 257 + x ∨ 30 < 1 + y) := hbad
   have hst := pstop_c 12 w4 A4.out.1
   by_cases h1 : 286 < 257 + x
   ·have t1 : ((286 : Int) < 257 + (x : Int)) = True := eq_true (by omega)
    clear hbad h1
    go_wp2_with (go_at_call 71; refine hst.mono ?_; rintro e5 w5 ⟨rfl, hb5, hf5⟩)
    first | go_ret | go_ret2
    have a := A.out
    have s := AS.out
    have hf : Fm B w w5 := A4.out.2.1.trans hf5
    have ho := A4.out.2.2.2.1
    refine ⟨false, rfl, hf, Res.over (c' := ⟨.bad 12, pos + 14, out, times⟩) (Runs.one ?_) (a.1.bad a.2.1 hf hb5 12 (by decide) rfl rfl (ho 352 (by decide)) (ho 353 (by decide)) (ho 3 (by decide)) (ho 4 (by decide))) rfl⟩
    unfold step
    simp only [pnum_at s.1, s.2.1, Option.map_some, s.2.2.1, s.2.2.2.1]
    rw [if_pos AB.out]
   ·have t1 : ((286 : Int) < 257 + (x : Int)) = False := eq_false (by omega)
    have t2 : ((30 : Int) < 1 + (y : Int)) = True := eq_true (by omega)
    clear hbad h1
    go_wp2_with (go_at_call 71; refine hst.mono ?_; rintro e5 w5 ⟨rfl, hb5, hf5⟩)
    first | go_ret | go_ret2
    have a := A.out
    have s := AS.out
    have hf : Fm B w w5 := A4.out.2.1.trans hf5
    have ho := A4.out.2.2.2.1
    refine ⟨false, rfl, hf, Res.over (c' := ⟨.bad 12, pos + 14, out, times⟩) (Runs.one ?_) (a.1.bad a.2.1 hf hb5 12 (by decide) rfl rfl (ho 352 (by decide)) (ho 353 (by decide)) (ho 3 (by decide)) (ho 4 (by decide))) rfl⟩
    unfold step
    simp only [pnum_at s.1, s.2.1, Option.map_some, s.2.2.1, s.2.2.2.1]
    rw [if_pos AB.out]
  ·have t1 : ((286 : Int) < 257 + (x : Int)) = False := eq_false (by omega)
   have t2 : ((30 : Int) < 1 + (y : Int)) = False := eq_false (by omega)
   have AB : Aside (¬ (286 < 257 + x ∨ 30 < 1 + y)) := hbad
   have hst := pthen_c 101 w4 A4.out.1
   clear hbad
   go_wp2_with (go_at_call 66; refine hst.mono ?_; rintro e5 w5 ⟨rfl, hb5, hf5⟩)
   first | go_ret | go_ret2
   have a := A.out
   have s := AS.out
   have a4 := A4.out
   have hbad := AB.out
   have hf : Fm B w w5 := a4.2.1.trans hf5
   have ho := a4.2.2.2.1
   rw [List.drop_drop] at hb5
   refine ⟨true, rfl, hf, Res.next (c' := ⟨.dfst last (257 + x) (1 + y) (4 + z) 0 (List.replicate 19 0), pos + 14, out, times⟩) (Runs.one ?_) (a.1.to hf hb5 ⟨rfl, (ho 5 (by decide)).trans AK.out.2, by omega, by omega, by omega, by omega, ?_, ?_, ?_, ?_, by omega, by omega, by simp, ?_, ?_⟩ (ho 3 (by decide)) (ho 4 (by decide)) s.1) (a.2.1.to (ho 352 (by decide)) (ho 353 (by decide)) (ho 354 (by decide))) rfl ?_⟩
   ·unfold step
    simp only [pnum_at s.1, s.2.1, Option.map_some, s.2.2.1, s.2.2.2.1, s.2.2.2.2.1]
    rw [if_neg hbad]
   ·rw [upd_ne _ _ (by decide), a4.2.2.2.2.1]; congr 1
   ·rw [upd_ne _ _ (by decide), a4.2.2.2.2.2.1]; congr 1
   ·rw [upd_ne _ _ (by decide), a4.2.2.2.2.2.2]; congr 1
   ·exact a4.2.2.1 3 (by decide)
   ·intro j x' hj
    have hjl := (List.getElem?_eq_some_iff.1 hj).1
    rw [List.length_replicate] at hjl
    have hx0 : x' = 0 := List.eq_of_mem_replicate (List.mem_of_getElem? hj)
    have := a4.2.2.1 (4 + j) (by omega)
    rw [show 8 + (4 + j) = 12 + j by omega] at this
    rw [upd_ne _ _ (by omega), this, hx0]
    unfold pf
    rw [if_neg (by omega), if_neg (by omega), if_neg (by omega), if_neg (by omega)]
    rfl
   ·intro x' hx'
    rw [List.eq_of_mem_replicate hx']
    omega
   ·unfold mu rk
    simp only []
    omega
end
end Go.Proofs.YtogednaamndpgaaGreatDoor

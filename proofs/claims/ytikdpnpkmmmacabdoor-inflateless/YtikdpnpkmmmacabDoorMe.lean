/-
  Own texts of this seat, one behind the other: what each says stands ahead of it.
-/
import Derived.Test.YtikdpnpkmmmacabDoorMd
import Derived.Deep.RegionHeld3
import Derived.OwnWalk
import Derived.Laws.AppendOwn
import Derived.Laws.AppendOwnNone
/-
  What the steps at a dynamic block's beginning come to: counts.
-/
namespace Go.Proofs.YtikdpnpkmmmacabDoor
open Go.RowKit
set_option linter.unusedVariables false
section
variable {B D b R : Nat} {f : Nat → Value} {bs : List Bool} {most : Nat}
theorem Bs.mid {w w' : World} {h : List Bool} {l : List Int} {f' : Nat → Value} {off : Nat} {vs : List Value} (s : Bs w B D b R f h l) (m : Mid D off f f' vs w w') (ho : 2 ≤ off) : Bs w' B D b R f' h l :=
  s.onD m.only m.cells (m.old 0 (Or.inl (by omega))) (m.old 1 (Or.inl (by omega)))
set_option maxRecDepth 100000 in
set_option maxHeartbeats 1000000 in
theorem counts_s (w : World) {last : Bool} {pos : Nat} {out times : List Nat} (hI : Is w B D b R f bs ⟨.dnum last, pos, out, times⟩) (hO : Op f) : StepOk 25 B D b R bs most ⟨.dnum last, pos, out, times⟩ w := by
  obtain ⟨k2, k5⟩ := id hI.at_
  have hle' : pos ≤ bs.length := hI.le
  have hm' : Bs w B D b R f (bs.drop pos) (win out) := hI.mem
  have c0 := (hm'.cell (show 0 < 355 by decide)).trans (congrArg some hm'.c0)
  have A : Aside (Is w B D b R f bs ⟨.dnum last, pos, out, times⟩ ∧ Op f ∧ pos ≤ bs.length) := ⟨hI, hO, hle'⟩
  have AK : Aside (f 2 = fnv D 25 ∧ f 5 = .bool last) := ⟨k2, k5⟩
  unfold StepOk
  by_cases hshort : (bs.drop pos).length < 14
  · have htake := take_short 14 w hm' hshort
    have AS : Aside ((bs.drop pos).length < 14) := hshort
    clear hI hO hle' hm' k2 k5 hshort
    go_enter Tryd.func25, Tryd.ntmps25
    go_wp2_with (go_at_call 19; refine htake.mono ?_; rintro e3 w3 ⟨rfl, rfl⟩)
    first | go_ret | go_ret2
    have a := A.out
    have sh := AS.out
    rw [List.length_drop] at sh
    refine ⟨false, rfl, Fm.refl B w, Res.want a.1 a.2.1 ?_ ?_ (fun y => by simp) (by simp)⟩
    · show bs.length < pos + 32
      omega
    · unfold step
      simp only []
      rw [num_no (by omega)]; rfl
  · obtain ⟨v, hv⟩ : ∃ v, nm ((bs.drop pos).take 14) = v := ⟨_, rfl⟩
    have hvlt : v < 16384 := by rw [← hv]; exact nm_take_lt _ 14
    have htake := take_at 14 w hm' (by decide) (by omega) v hv
    obtain ⟨x, hx⟩ : ∃ x, v % 32 = x := ⟨_, rfl⟩
    obtain ⟨y0, hy0⟩ : ∃ y, v / 32 = y := ⟨_, rfl⟩
    obtain ⟨y, hy⟩ : ∃ y, y0 % 32 = y := ⟨_, rfl⟩
    obtain ⟨z, hz⟩ : ∃ z, v / 1024 = z := ⟨_, rfl⟩
    have hand1 : bits .and .u32 (v : Int) 31 = (x : Int) := by
      have := u32_mask v 5 (by omega) (by decide) 31 rfl
      rw [show 2 ^ 5 = 32 from rfl, hx] at this
      exact this
    have hand2 : bits .and .u32 (y0 : Int) 31 = (y : Int) := by
      have := u32_mask y0 5 (by omega) (by decide) 31 rfl
      rw [show 2 ^ 5 = 32 from rfl, hy] at this
      exact this
    have hdiv1 : (v : Int) / 32 = (y0 : Int) := by omega
    have hdiv2 : (v : Int) / 1024 = (z : Int) := by omega
    have hxI : (x : Int) < 32 := by omega
    have hyI : (y : Int) < 32 := by omega
    have hzI : (z : Int) < 16 := by omega
    have AS : Aside (pos + 14 ≤ bs.length ∧ nm ((bs.drop pos).take 14) = v ∧ v % 32 = x ∧ v / 32 % 32 = y ∧ v / 1024 = z ∧ x < 32 ∧ y < 32 ∧ z < 16) := ⟨by rw [List.length_drop] at hshort; omega, hv, hx, by rw [hy0]; exact hy, hz, by omega, by omega, by omega⟩
    clear hI hO hle' hm' k2 k5 hshort hv hvlt hx hy0 hy hz
    go_enter Tryd.func25, Tryd.ntmps25
    go_upto_region 4 with (go_at_call 19; refine htake.mono ?_; rintro e2 w2 ⟨rfl, hb2, hf2⟩)
    have hfr := hb2.fr
    have Ab2 : Aside (Bs w2 B D b R f ((bs.drop pos).drop 14) (win out) ∧ Fm B w w2) := ⟨hb2, hf2⟩
    clear hb2 hf2 htake c0
    go_upto_region 5 with (first
      | (refine wpList_store_mid rfl 48 (.tmp 31) (.tmp 29) rfl D 8 (((Tryd.zeroCells48.setIfInBounds 0 (.int .i64 (257 + (x : Int)))).setIfInBounds 1 (.int .i64 (1 + (y : Int)))).setIfInBounds 2 (.int .i64 (4 + (z : Int)))) rfl rfl f hfr (by rw [zc71, pz_size]; exact size71) (by rw [zc71, pz_size]; decide) (by rw [zc71]; exact pz_one _ _ _) ?_; intro w4 f4 hm4; rw [zc71] at hm4))
    have hb4 := Ab2.out.1.mid hm4 (by decide)
    have hf4 : Fm B w w4 := Ab2.out.2.trans (Ab2.out.1.fmD hm4.only)
    have hnew : ∀ j, j < 340 → f4 (8 + j) = pf (257 + (x : Int)) (1 + (y : Int)) (4 + (z : Int)) j := fun j hj => hm4.new j _ (pz_at _ _ _ hj)
    have hold : ∀ j, j < 8 ∨ 348 ≤ j → f4 j = f j := fun j hj => hm4.old j (by rw [Array.length_toList, pz_size]; exact hj)
    have e8 : f4 8 = .int .i64 (257 + (x : Int)) := hnew 0 (by decide)
    have e9 : f4 9 = .int .i64 (1 + (y : Int)) := hnew 1 (by decide)
    have e10 : f4 10 = .int .i64 (4 + (z : Int)) := hnew 2 (by decide)
    have d8 := (hb4.cell (show 8 < 355 by decide)).trans (congrArg some e8)
    have d9 := (hb4.cell (show 9 < 355 by decide)).trans (congrArg some e9)
    have A4 : Aside (Bs w4 B D b R f4 ((bs.drop pos).drop 14) (win out) ∧ Fm B w w4 ∧ (∀ j, j < 340 → f4 (8 + j) = pf (257 + (x : Int)) (1 + (y : Int)) (4 + (z : Int)) j) ∧ (∀ j, j < 8 ∨ 348 ≤ j → f4 j = f j) ∧ f4 8 = .int .i64 (257 + (x : Int)) ∧ f4 9 = .int .i64 (1 + (y : Int)) ∧ f4 10 = .int .i64 (4 + (z : Int))) := ⟨hb4, hf4, hnew, hold, e8, e9, e10⟩
    clear hm4 hb4 hf4 hnew hold e8 e9 e10 hfr
    by_cases hbad : 286 < 257 + x ∨ 30 < 1 + y
    · have AB : Aside (286 < 257 + x ∨ 30 < 1 + y) := hbad
      have hst := pstop_c 12 w4 A4.out.1
      by_cases h1 : 286 < 257 + x
      · have t1 : ((286 : Int) < 257 + (x : Int)) = True := eq_true (by omega)
        clear hbad h1
        go_wp2_with (go_at_call 18; refine hst.mono ?_; rintro e5 w5 ⟨rfl, hb5, hf5⟩)
        first | go_ret | go_ret2
        have a := A.out
        have s := AS.out
        have hf : Fm B w w5 := A4.out.2.1.trans hf5
        have ho := A4.out.2.2.2.1
        refine ⟨false, rfl, hf, Res.over (c' := ⟨.bad 12, pos + 14, out, times⟩) (Runs.one ?_) (a.1.bad a.2.1 hf hb5 12 (by decide) rfl rfl (ho 352 (by decide)) (ho 353 (by decide)) (ho 3 (by decide)) (ho 4 (by decide))) rfl⟩
        unfold step
        simp only [pnum_at s.1, s.2.1, Option.map_some, s.2.2.1, s.2.2.2.1]
        rw [if_pos AB.out]
      · have t1 : ((286 : Int) < 257 + (x : Int)) = False := eq_false (by omega)
        have t2 : ((30 : Int) < 1 + (y : Int)) = True := eq_true (by omega)
        clear hbad h1
        go_wp2_with (go_at_call 18; refine hst.mono ?_; rintro e5 w5 ⟨rfl, hb5, hf5⟩)
        first | go_ret | go_ret2
        have a := A.out
        have s := AS.out
        have hf : Fm B w w5 := A4.out.2.1.trans hf5
        have ho := A4.out.2.2.2.1
        refine ⟨false, rfl, hf, Res.over (c' := ⟨.bad 12, pos + 14, out, times⟩) (Runs.one ?_) (a.1.bad a.2.1 hf hb5 12 (by decide) rfl rfl (ho 352 (by decide)) (ho 353 (by decide)) (ho 3 (by decide)) (ho 4 (by decide))) rfl⟩
        unfold step
        simp only [pnum_at s.1, s.2.1, Option.map_some, s.2.2.1, s.2.2.2.1]
        rw [if_pos AB.out]
    · have t1 : ((286 : Int) < 257 + (x : Int)) = False := eq_false (by omega)
      have t2 : ((30 : Int) < 1 + (y : Int)) = False := eq_false (by omega)
      have AB : Aside (¬ (286 < 257 + x ∨ 30 < 1 + y)) := hbad
      have hst := pthen_c 35 w4 A4.out.1
      clear hbad
      go_wp2_with (go_at_call 21; refine hst.mono ?_; rintro e5 w5 ⟨rfl, hb5, hf5⟩)
      first | go_ret | go_ret2
      have a := A.out
      have s := AS.out
      have a4 := A4.out
      have hbad := AB.out
      have hf : Fm B w w5 := a4.2.1.trans hf5
      have ho := a4.2.2.2.1
      rw [List.drop_drop] at hb5
      refine ⟨true, rfl, hf, Res.next (c' := ⟨.dfst last (257 + x) (1 + y) (4 + z) 0 (List.replicate 19 0), pos + 14, out, times⟩) (Runs.one ?_) (a.1.to hf hb5 ⟨rfl, (ho 5 (by decide)).trans AK.out.2, by omega, by omega, by omega, by omega, ?_, ?_, ?_, ?_, by omega, by omega, by simp, ?_, ?_⟩ (ho 3 (by decide)) (ho 4 (by decide)) s.1) (a.2.1.to (ho 352 (by decide)) (ho 353 (by decide)) (ho 354 (by decide))) rfl ?_⟩
      · unfold step
        simp only [pnum_at s.1, s.2.1, Option.map_some, s.2.2.1, s.2.2.2.1, s.2.2.2.2.1]
        rw [if_neg hbad]
      · rw [upd_ne _ _ (by decide), a4.2.2.2.2.1]; congr 1
      · rw [upd_ne _ _ (by decide), a4.2.2.2.2.2.1]; congr 1
      · rw [upd_ne _ _ (by decide), a4.2.2.2.2.2.2]; congr 1
      · exact a4.2.2.1 3 (by decide)
      · intro j x' hj
        have hjl := (List.getElem?_eq_some_iff.1 hj).1
        rw [List.length_replicate] at hjl
        have hx0 : x' = 0 := List.eq_of_mem_replicate (List.mem_of_getElem? hj)
        have := a4.2.2.1 (4 + j) (by omega)
        rw [show 8 + (4 + j) = 12 + j by omega] at this
        rw [upd_ne _ _ (by omega), this, hx0]
        unfold pf
        rw [if_neg (by omega), if_neg (by omega), if_neg (by omega), if_neg (by omega)]
        rfl
      · intro x' hx'
        rw [List.eq_of_mem_replicate hx']
        omega
      · unfold mu rk
        simp only []
        omega
end
end Go.Proofs.YtikdpnpkmmmacabDoor

/-
  What dynamicCodes comes to.
-/
namespace Go.Proofs.YtikdpnpkmmmacabDoor
open Go.RowKit
set_option linter.unusedVariables false
section
variable {B D b R : Nat} {f : Nat → Value}
/-- New, whatever the lengths are. -/
theorem new_any2 (w : World) (a : Option Addr) (ls : List Nat) (L C : Nat) (hl : Lens w a (iz ls)) (hL : ls.length = L) (hb : L ≤ 316) (hB : B + 4 ≤ w.heap.size) : Calls Tryd.prog 30 #[.slice a L C] w fun e w' => ∃ (p : Option Addr) (er : Nat), e = .returned (.tuple #[.pointer p, .int .i64 (er : Int)]) ∧ Below w.heap.size w w' ∧ ((mays ls = true ∧ er = 0 ∧ Tbl w' B (.pointer p) ls) ∨ (mays ls = false ∧ er ≠ 0)) := by
  have hL' : (iz ls).length = L := by rw [iz_len]; exact hL
  cases hm : mays ls with
  | true =>
    refine (new_yes a (iz ls) L C w hl hL' (by omega) (mays_iff.1 hm)).mono ?_
    rintro e w' ⟨T, h1, h2, h3⟩
    rw [lens_iz] at h2
    exact ⟨some ⟨T, 0, none⟩, 0, h1, h3, Or.inl ⟨rfl, rfl, _, _, T, rfl, hB, Nat.le_refl _, h2, by omega⟩⟩
  | false =>
    have hne : nerr (iz ls) ≠ 0 := fun e => by rw [mays_iff.2 e] at hm; cases hm
    refine (new_err a (iz ls) L C _ w hl hL' (by omega) rfl hne).mono ?_
    rintro e w' ⟨h1, h2⟩
    exact ⟨none, _, h1, h2, Or.inr ⟨rfl, hne⟩⟩
/-- What dynamicCodes comes to. -/
def DynTo (B D b R : Nat) (f : Nat → Value) (h : List Bool) (o : List Int) (a : Nat) (l : List Nat) (w : World) (e : Ending) (w' : World) : Prop :=
  Fm B w w' ∧ (((l.getD 256 0 = 0 ∨ mays (l.take a) = false ∨ mays (l.drop a) = false) ∧ e = .returned (.bool false) ∧ Bs w' B D b R (upd f 354 (.int .i64 12)) h o) ∨
    (¬ (l.getD 256 0 = 0 ∨ mays (l.take a) = false ∨ mays (l.drop a) = false) ∧ e = .returned (.bool true) ∧ ∃ f', Bs w' B D b R f' h o ∧ f' 2 = fnv D 24 ∧ Tbl w' B (f' 6) (l.take a) ∧ Tbl w' B (f' 7) (l.drop a) ∧ f' 3 = f 3 ∧ f' 4 = f 4 ∧ f' 5 = f 5 ∧ ∀ n, 348 ≤ n → f' n = f n))
set_option maxRecDepth 100000 in
set_option maxHeartbeats 1000000 in
theorem dynCodes_c (w : World) {h : List Bool} {o : List Int} {a c : Nat} {code l : List Nat} (s : Bs w B D b R f h o) (p : Pl w B f a c code l) (hll : l.length = a + c) : Calls Tryd.prog 51 #[.pointer (some ⟨D, 0, none⟩)] w fun e w' => DynTo B D b R f h o a l w e w' := by
  have ha1 := p.a1
  have ha2 := p.a2
  have hb1 := p.b1
  have hb2 := p.b2
  have hcell : ∀ u, Bs u B D b R f h o → u.cell? ⟨D, 8, none⟩ = some (.int .i64 (a : Int)) ∧ u.cell? ⟨D, 11, none⟩ = some (.int .i64 ((a + c : Nat) : Int)) := fun u hu => ⟨(hu.cell (show 8 < 355 by decide)).trans (congrArg some p.c8), (hu.cell (show 11 < 355 by decide)).trans (congrArg some (by rw [p.have_, hll]))⟩
  have hlens1 : ∀ u, Bs u B D b R f h o → Lens u (some ⟨D, 32, none⟩) (iz (l.take a)) := fun u hu => Or.inr ⟨D, 32, rfl, fun n z hz => by
    unfold iz at hz
    rw [List.getElem?_map, Option.map_eq_some_iff] at hz
    obtain ⟨x, hx, rfl⟩ := hz
    have hn := (List.getElem?_eq_some_iff.1 hx).1
    rw [List.length_take] at hn
    rw [List.getElem?_take_of_lt (by omega)] at hx
    rw [hu.cell (show 32 + n < 355 by omega), p.row n x hx]⟩
  have hlens2 : ∀ u, Bs u B D b R f h o → Lens u (some ⟨D, 32 + a, none⟩) (iz (l.drop a)) := fun u hu => Or.inr ⟨D, 32 + a, rfl, fun n z hz => by
    unfold iz at hz
    rw [List.getElem?_map, Option.map_eq_some_iff] at hz
    obtain ⟨x, hx, rfl⟩ := hz
    have hn := (List.getElem?_eq_some_iff.1 hx).1
    rw [List.length_drop] at hn
    rw [List.getElem?_drop] at hx
    rw [hu.cell (show 32 + a + n < 355 by omega), show 32 + a + n = 32 + (a + n) by omega, p.row (a + n) x hx]⟩
  obtain ⟨x256, hx256⟩ : ∃ x, l.getD 256 0 = x := ⟨_, rfl⟩
  have h256 : f 288 = .int .i64 (x256 : Int) := by
    rw [← hx256, List.getD_eq_getElem?_getD, List.getElem?_eq_getElem (show 256 < l.length by omega)]
    exact p.row 256 _ (List.getElem?_eq_getElem (show 256 < l.length by omega))
  have l1 : (l.take a).length = a := by rw [List.length_take]; omega
  have l2 : (l.drop a).length = c := by rw [List.length_drop]; omega
  have hn1 := new_any2 (B := B) w.drew (some ⟨D, 32, none⟩) (l.take a) a 316 (hlens1 _ s.drew) l1 (by omega) s.drew.lt
  have AC : Aside ((∀ u, Bs u B D b R f h o → u.cell? ⟨D, 8, none⟩ = some (.int .i64 (a : Int)) ∧ u.cell? ⟨D, 11, none⟩ = some (.int .i64 ((a + c : Nat) : Int))) ∧ (∀ u, Bs u B D b R f h o → Lens u (some ⟨D, 32 + a, none⟩) (iz (l.drop a))) ∧ (l.drop a).length = c ∧ Bs w B D b R f h o ∧ l.getD 256 0 = x256 ∧ f 288 = .int .i64 (x256 : Int) ∧ 257 ≤ a ∧ a ≤ 286 ∧ 1 ≤ c ∧ c ≤ 30) := ⟨hcell, hlens2, l2, s, hx256, h256, ha1, ha2, hb1, hb2⟩
  have c8 := (hcell w s).1
  have t1 : ((a : Int) ≤ 316) = True := eq_true (by omega)
  have t1' : (a ≤ 316) = True := eq_true (by omega)
  have t2 : ((316 : Int) < (a : Int)) = False := eq_false (by omega)
  have t2' : (316 < a) = False := eq_false (by omega)
  obtain ⟨hv, hhv⟩ : ∃ hv, a + c = hv := ⟨_, rfl⟩
  clear s p hll ha1 ha2 hb1 hb2 hcell hlens1 hlens2 hx256 h256 l1 l2
  go_enter Tryd.func51, Tryd.ntmps51
  go_upto_region 2 with fail
  go_region_held3 (fun u => u.cell? ⟨D, 8, none⟩ = some (.int .i64 (a : Int))) (first | assumption | exact c8 | exact (AC.out.1 _ (AC.out.2.2.2.1.drew.below hb2 (Nat.le_refl _))).1)
    (first | (go_at_call 30; refine hn1.mono ?_; rintro e2 w2 ⟨p1, er1, rfl, hb2, hh2⟩))
  all_goals
    have s2 := AC.out.2.2.2.1.drew.below hb2 (Nat.le_refl _)
    have d8 := (AC.out.1 _ s2).1
    have d11 := (AC.out.1 _ s2).2
    rw [hhv] at d11
    have t3 : ((a : Int) ≤ (hv : Int)) = True := eq_true (by omega)
    have t3' : (a ≤ hv) = True := eq_true (by omega)
    have t4 : ((hv : Int) ≤ 316) = True := eq_true (by have := AC.out; omega)
    have t4' : (hv ≤ 316) = True := eq_true (by have := AC.out; omega)
    have t5 : (316 = a) = False := eq_false (by have := AC.out; omega)
    have t5' : ((316 : Int) = (a : Int)) = False := eq_false (by have := AC.out; omega)
    have hk2 : Aside (∀ u, Below w2.drew.heap.size w2.drew u → u.cell? ⟨D, 8, none⟩ = some (.int .i64 (a : Int)) ∧ u.cell? ⟨D, 11, none⟩ = some (.int .i64 (hv : Int))) := fun u hu => by
      have := AC.out.1 _ (s2.drew.below hu (Nat.le_refl _))
      rw [hhv] at this
      exact this
    have hn2 := new_any2 (B := B) w2.drew (some ⟨D, 32 + a, none⟩) (l.drop a) (hv - a) (316 - a) (AC.out.2.1 _ s2.drew) (by rw [AC.out.2.2.1]; omega) (by have := AC.out; omega) s2.drew.lt
    have A2 : Aside (Bs w2 B D b R f h o ∧ Fm B w w2 ∧ ((mays (l.take a) = true ∧ er1 = 0 ∧ Tbl w2 B (.pointer p1) (l.take a)) ∨ (mays (l.take a) = false ∧ er1 ≠ 0)) ∧ a + c = hv) := ⟨s2, (Fm.refl B w).drew.trans (Fm.of_below hb2 (Nat.le_refl _)), hh2, hhv⟩
    clear s2 hb2 hh2 hn1 hhv c8
    go_upto_region 3 with fail
    go_region_held3 (fun u => u.cell? ⟨D, 8, none⟩ = some (.int .i64 (a : Int)) ∧ u.cell? ⟨D, 11, none⟩ = some (.int .i64 (hv : Int))) (first | assumption | exact ⟨d8, d11⟩ | exact hk2.out _ hb3)
      (first | (go_at_call 30; refine hn2.mono ?_; rintro e3 w3 ⟨p2, er2, rfl, hb3, hh3⟩))
    all_goals
      have s3 := A2.out.1.drew.below hb3 (Nat.le_refl _)
      have g3 := (s3.cell (show 288 < 355 by decide)).trans (congrArg some AC.out.2.2.2.2.2.1)
      have A3 : Aside (Bs w3 B D b R f h o ∧ Fm B w w3 ∧ ((mays (l.take a) = true ∧ er1 = 0 ∧ Tbl w3 B (.pointer p1) (l.take a)) ∨ (mays (l.take a) = false ∧ er1 ≠ 0)) ∧ ((mays (l.drop a) = true ∧ er2 = 0 ∧ Tbl w3 B (.pointer p2) (l.drop a)) ∨ (mays (l.drop a) = false ∧ er2 ≠ 0)) ∧ l.getD 256 0 = x256) := by
        refine ⟨s3, A2.out.2.1.trans ((Fm.refl B w2).drew.trans (Fm.of_below hb3 (Nat.le_refl _))), ?_, hh3, AC.out.2.2.2.2.1⟩
        rcases A2.out.2.2.1 with ⟨q1, q2, q3⟩ | q
        · exact Or.inl ⟨q1, q2, q3.fm ((Fm.refl B w2).drew.trans (Fm.of_below hb3 (Nat.le_refl _)))⟩
        · exact Or.inr q
      clear s3 hb3 hh3 hn2 d8 d11 A2 AC hk2 t1 t1' t2 t2' t3 t3' t4 t4' t5 t5'
      by_cases hx : x256 = 0
      · subst hx
        have g3' : w3.cell? ⟨D, 288, none⟩ = some (.int .i64 0) := g3
        have hst := pstop_c 12 w3 A3.out.1
        clear g3
        go_wp2_with (go_at_call 18; refine hst.mono ?_; rintro e5 w5 ⟨rfl, hb5, hf5⟩)
        first | go_ret | go_ret2
        exact ⟨A3.out.2.1.trans hf5, Or.inl ⟨Or.inl A3.out.2.2.2.2, rfl, hb5⟩⟩
      · have x0 : ((x256 : Int) == 0) = false := by rw [beq_eq_false_iff_ne]; omega
        have AX : Aside (x256 ≠ 0) := hx
        clear hx
        rcases A3.out.2.2.1 with ⟨q1, q2, q3⟩ | ⟨q1, q2⟩
        · rcases A3.out.2.2.2.1 with ⟨r1, r2, r3⟩ | ⟨r1, r2⟩
          · subst q2 r2
            obtain ⟨_, _, T1, hT1, _⟩ := id q3
            obtain ⟨_, _, T2, hT2, _⟩ := id r3
            cases hT1
            cases hT2
            have d6 := A3.out.1.cell (show 6 < 355 by decide)
            have d7 := A3.out.1.cell (show 7 < 355 by decide)
            have z6 := A3.out.1.fz 6
            have z7 := A3.out.1.fz 7
            have s4 := (A3.out.1.set 6 (.pointer (some ⟨T1, 0, none⟩)) (by decide)).set 7 (.pointer (some ⟨T2, 0, none⟩)) (by decide)
            have hfr := s4.fr
            have f4 : Fm B w3 ((w3.setCell ⟨D, 6, none⟩ (.pointer (some ⟨T1, 0, none⟩))).setCell ⟨D, 7, none⟩ (.pointer (some ⟨T2, 0, none⟩))) := A3.out.1.fmD (((Only.refl D w3).setCell 6 _).setCell 7 _)
            have A4 : Aside (Bs ((w3.setCell ⟨D, 6, none⟩ (.pointer (some ⟨T1, 0, none⟩))).setCell ⟨D, 7, none⟩ (.pointer (some ⟨T2, 0, none⟩))) B D b R (upd (upd f 6 (.pointer (some ⟨T1, 0, none⟩))) 7 (.pointer (some ⟨T2, 0, none⟩))) h o ∧ Fm B w3 ((w3.setCell ⟨D, 6, none⟩ (.pointer (some ⟨T1, 0, none⟩))).setCell ⟨D, 7, none⟩ (.pointer (some ⟨T2, 0, none⟩))) ∧ Tbl w3 B (.pointer (some ⟨T1, 0, none⟩)) (l.take a) ∧ Tbl w3 B (.pointer (some ⟨T2, 0, none⟩)) (l.drop a) ∧ mays (l.take a) = true ∧ mays (l.drop a) = true) := ⟨s4, f4, q3, r3, q1, r1⟩
            clear s4 f4 q3 r3 q1 r1
            go_wp2_with (first
              | (refine wpList_store_mid rfl 48 (.tmp 64) (.tmp 62) rfl D 8 Tryd.zeroCells48 rfl rfl _ hfr (by rw [zc71_none, pz_size]; exact size71) (by rw [zc71_none, pz_size]; decide) (by rw [zc71_none]; exact pz_one _ _ _) ?_; intro w5 f5 hm5; rw [zc71_none] at hm5
                 have s5 := A4.out.1.mid hm5 (by decide)
                 have hth := pthen_c 24 w5 s5
                 have A5 : Aside (Fm B w3 w5 ∧ (∀ j, j < 8 ∨ 348 ≤ j → f5 j = upd (upd f 6 (.pointer (some ⟨T1, 0, none⟩))) 7 (.pointer (some ⟨T2, 0, none⟩)) j)) := ⟨A4.out.2.1.trans (A4.out.1.fmD hm5.only), fun j hj => hm5.old j (by rw [Array.length_toList, pz_size]; exact hj)⟩
                 clear s5 hm5 hfr)
              | (go_at_call 21; refine hth.mono ?_; rintro e6 w6 ⟨rfl, hb6, hf6⟩))
            first | go_ret | go_ret2
            have a4 := A4.out
            have a5 := A5.out
            have hf36 := a5.1.trans hf6
            have hx := AX.out
            refine ⟨A3.out.2.1.trans hf36, Or.inr ⟨?_, rfl, _, hb6, upd_same _ _ _, ?_, ?_, ?_, ?_, ?_, ?_⟩⟩
            · rw [A3.out.2.2.2.2, a4.2.2.2.2.1, a4.2.2.2.2.2]
              rintro (h1 | h1 | h1)
              · exact hx h1
              · cases h1
              · cases h1
            · rw [upd_ne _ _ (by decide), a5.2 6 (by decide), upd_ne _ _ (by decide), upd_same]; exact a4.2.2.1.fm hf36
            · rw [upd_ne _ _ (by decide), a5.2 7 (by decide), upd_same]; exact a4.2.2.2.1.fm hf36
            · rw [upd_ne _ _ (by decide), a5.2 3 (by decide), upd_ne _ _ (by decide), upd_ne _ _ (by decide)]
            · rw [upd_ne _ _ (by decide), a5.2 4 (by decide), upd_ne _ _ (by decide), upd_ne _ _ (by decide)]
            · rw [upd_ne _ _ (by decide), a5.2 5 (by decide), upd_ne _ _ (by decide), upd_ne _ _ (by decide)]
            · intro n hn
              rw [upd_ne _ _ (by omega), a5.2 n (Or.inr hn), upd_ne _ _ (by omega), upd_ne _ _ (by omega)]
          · subst q2
            have y0 : ((er2 : Int) != 0) = true := by rw [bne_iff_ne]; omega
            have AQ : Aside (mays (l.drop a) = false) := r1
            have hst := pstop_c 12 w3 A3.out.1
            clear q1 q3 r1 r2
            go_wp2_with (go_at_call 18; refine hst.mono ?_; rintro e5 w5 ⟨rfl, hb5, hf5⟩)
            first | go_ret | go_ret2
            exact ⟨A3.out.2.1.trans hf5, Or.inl ⟨Or.inr (Or.inr AQ.out), rfl, hb5⟩⟩
        · have y0 : ((er1 : Int) != 0) = true := by rw [bne_iff_ne]; omega
          have AQ : Aside (mays (l.take a) = false) := q1
          have hst := pstop_c 12 w3 A3.out.1
          clear q1 q2
          go_wp2_with (go_at_call 18; refine hst.mono ?_; rintro e5 w5 ⟨rfl, hb5, hf5⟩)
          first | go_ret | go_ret2
          exact ⟨A3.out.2.1.trans hf5, Or.inl ⟨Or.inr (Or.inl AQ.out), rfl, hb5⟩⟩
end
end Go.Proofs.YtikdpnpkmmmacabDoor

/-
  What the step that takes a length of the row comes to.
-/
namespace Go.Proofs.YtikdpnpkmmmacabDoor
open Go.RowKit
set_option linter.unusedVariables false
section
variable {B D b R : Nat} {f : Nat → Value} {bs : List Bool} {most : Nat}
set_option maxHeartbeats 1000000 in
theorem codeLength_s (w : World) {last : Bool} {a c : Nat} {code l : List Nat} {pos : Nat} {out times : List Nat} (hI : Is w B D b R f bs ⟨.dsym last a c code l, pos, out, times⟩) (hO : Op f) : StepOk 44 B D b R bs most ⟨.dsym last a c code l, pos, out, times⟩ w := by
  obtain ⟨k2, k5, pl⟩ := id hI.at_
  have hle' : pos ≤ bs.length := hI.le
  have hm' : Bs w B D b R f (bs.drop pos) (win out) := hI.mem
  obtain ⟨L, hL⟩ : ∃ L, l.length = L := ⟨_, rfl⟩
  have c11 := (hm'.cell (show 11 < 355 by decide)).trans (congrArg some pl.have_)
  rw [hL] at c11
  have c8 := (hm'.cell (show 8 < 355 by decide)).trans (congrArg some pl.c8)
  have c9 := (hm'.cell (show 9 < 355 by decide)).trans (congrArg some pl.c9)
  have A : Aside (Is w B D b R f bs ⟨.dsym last a c code l, pos, out, times⟩ ∧ Op f ∧ pos ≤ bs.length ∧ Bs w B D b R f (bs.drop pos) (win out)) := ⟨hI, hO, hle', hm'⟩
  have AK : Aside (f 2 = fnv D 44 ∧ f 5 = .bool last ∧ Pl w B f a c code l ∧ l.length = L) := ⟨k2, k5, pl, hL⟩
  have haI : (a : Int) < 300 := by have := pl.a2; omega
  have hcI : (c : Int) < 40 := by have := pl.b2; omega
  have hLac : L ≤ a + c := by rw [← hL]; exact pl.len
  unfold StepOk
  by_cases hfull : L = a + c
  · have t1 : ((L : Int) == (a : Int) + (c : Int)) = true := by rw [beq_iff_eq]; omega
    have AF : Aside (L = a + c) := hfull
    clear hI hO hle' hm' k2 k5 pl hL hLac hfull
    go_enter Tryd.func44, Tryd.ntmps44
    go_upto_region 2 with fail
    go_quiet (fail)
    have hd := dynCodes_c _ (A.out.2.2.2.drewN nq) (AK.out.2.2.1.mono ((Fm.refl B w).drewN nq) rfl rfl rfl rfl (fun _ _ => rfl)) (AK.out.2.2.2.trans AF.out)
    go_wp2_with (go_at_call 51; refine hd.mono ?_; rintro e2 w2 ⟨hf2, ⟨hbad, rfl, hb2⟩ | ⟨hgood, rfl, f', hb2, g2, g6, g7, g3, g4, g5, gr⟩⟩)
    · first | go_ret | go_ret2
      have a' := A.out
      have hf : Fm B w w2 := ((Fm.refl B w).drewN nq).trans hf2
      refine ⟨false, rfl, hf, Res.over (c' := ⟨.bad 12, pos, out, times⟩) (Runs.one ?_) (a'.1.bad a'.2.1 hf hb2 12 (by decide) rfl rfl rfl rfl rfl rfl) rfl⟩
      unfold step
      simp only []
      rw [if_neg (by rw [AK.out.2.2.2, AF.out]; omega), if_pos hbad]
    · first | go_ret | go_ret2
      have a' := A.out
      have hf : Fm B w w2 := ((Fm.refl B w).drewN nq).trans hf2
      refine ⟨true, rfl, hf, Res.next (c' := ⟨.sym last (l.take a) (l.drop a), pos, out, times⟩) (Runs.one ?_) (a'.1.to hf hb2 ⟨g2, g5.trans AK.out.2.1, g6, g7⟩ g3 g4 a'.2.2.1) (a'.2.1.to (gr 352 (by decide)) (gr 353 (by decide)) (gr 354 (by decide))) rfl ?_⟩
      · unfold step
        simp only []
        rw [if_neg (by rw [AK.out.2.2.2, AF.out]; omega), if_neg hgood]
      · unfold mu rk
        simp only []
        omega
  · have t1 : ((L : Int) == (a : Int) + (c : Int)) = false := by rw [beq_eq_false_iff_ne]; omega
    have AF : Aside (L < a + c) := (show L < a + c by omega)
    have c31 := hm'.cell (show 31 < 355 by decide)
    obtain ⟨v31, hv31⟩ : ∃ v, f 31 = v := ⟨_, rfl⟩
    have tb := pl.tbl
    rw [hv31] at c31 tb
    have A31 : Aside (f 31 = v31 ∧ Tbl w B v31 code) := ⟨hv31, tb⟩
    clear hI hO hle' hm' k2 k5 pl hL hLac hfull hv31 tb
    go_enter Tryd.func44, Tryd.ntmps44
    go_upto_region 2 with fail
    go_quiet (fail)
    have hread := pread_c v31 code _ (A.out.2.2.2.drewN nq) (A31.out.2.fm ((Fm.refl B w).drewN nq))
    have h31 : (w.drewN nq).cell? ⟨D, 31, none⟩ = some v31 := c31
    obtain ⟨w1, hw1⟩ : ∃ w1, w.drewN nq = w1 := ⟨_, rfl⟩
    have A1 : Aside (Fm B w w1) := (by show Fm B w w1; rw [← hw1]; exact (Fm.refl B w).drewN nq)
    rw [hw1] at hread h31 ⊢
    clear c31 c8 c9 c11 hw1
    cases hs : sread code (bs.drop pos) with
    | cut =>
      rw [hs] at hread
      have AS : Aside (sread code (bs.drop pos) = .cut) := hs
      clear hs
      go_wp2_with (go_at_call 31; refine hread.mono ?_; rintro e2 w2 ⟨hf2, rfl, hb2⟩)
      first | go_ret | go_ret2
      have a' := A.out
      have hf : Fm B w w2 := A1.out.trans hf2
      refine ⟨false, rfl, hf, Res.want (a'.1.same hf hb2) a'.2.1 ?_ ?_ (fun y => by simp) (by simp)⟩
      · have := cut_short AS.out A31.out.2.le15
        rw [List.length_drop] at this
        show bs.length < pos + 32
        omega
      · unfold step
        simp only [AS.out]
        rw [if_pos (by rw [AK.out.2.2.2]; exact AF.out)]
    | bad j =>
      rw [hs] at hread
      have AS : Aside (sread code (bs.drop pos) = .bad j) := hs
      clear hs
      go_wp2_with (go_at_call 31; refine hread.mono ?_; rintro e2 w2 ⟨hf2, rfl, hb2⟩)
      first | go_ret | go_ret2
      have a' := A.out
      have hf : Fm B w w2 := A1.out.trans hf2
      refine ⟨false, rfl, hf, Res.over (c' := ⟨.bad 13, pos + j, out, times⟩) (Runs.one ?_) (a'.1.bad a'.2.1 hf hb2 13 (by decide) rfl rfl rfl rfl rfl rfl) rfl⟩
      unfold step
      simp only [AS.out]
      rw [if_pos (by rw [AK.out.2.2.2]; exact AF.out)]
    | got s n =>
      rw [hs] at hread
      have AS : Aside (sread code (bs.drop pos) = .got s n) := hs
      have hn : Aside (pos + n ≤ bs.length ∧ 0 < n ∧ s < 19) := ⟨sread_end hs A.out.2.2.1, by have := sread_le (ls := code) (h := bs.drop pos); rw [hs] at this; exact this.2.1, by have := got_lt hs; rw [AK.out.2.2.1.code] at this; exact this⟩
      have hst : ∀ st, (if s < 16 then .dsym last a c code (l ++ [s]) else if s = 16 ∧ l = [] then .bad 12 else .drep last a c code l s) = st → step bs most ⟨.dsym last a c code l, pos, out, times⟩ = some ⟨st, pos + n, out, times⟩ := fun st h => by
        unfold step
        simp only [AS.out]
        rw [if_pos (by rw [AK.out.2.2.2]; exact AF.out), h]
      have AST : Aside (∀ st, (if s < 16 then .dsym last a c code (l ++ [s]) else if s = 16 ∧ l = [] then .bad 12 else .drep last a c code l s) = st → step bs most ⟨.dsym last a c code l, pos, out, times⟩ = some ⟨st, pos + n, out, times⟩) := hst
      clear hs hst
      by_cases h16 : s < 16
      · have t2 : ((s : Int) < 16) = True := eq_true (by omega)
        have A16 : Aside (s < 16) := h16
        clear h16
        go_upto_region 8 with (go_at_call 31; refine hread.mono ?_; rintro e2 w2 ⟨hf2, rfl, hb2⟩)
        have p := AK.out.2.2.1
        have hLt : L < 316 := by have := AF.out; have := p.a2; have := p.b2; omega
        have d11 := (hb2.cell (show 11 < 355 by decide)).trans (congrArg some (by rw [p.have_, AK.out.2.2.2]))
        have dL := hb2.cell (show 32 + L < 355 by omega)
        have zL := hb2.fz (32 + L)
        have t3 : ((L : Int) < 316) = True := eq_true (by omega)
        have t3' : (L < 316) = True := eq_true hLt
        have A2 : Aside (Bs w2 B D b R f ((bs.drop pos).drop n) (win out) ∧ Fm B w w2 ∧ L < 316) := ⟨hb2, A1.out.trans hf2, hLt⟩
        clear hb2 hf2 p hread h31 hLt
        go_region
        have hb3 := (A2.out.1.set (32 + L) (.int .i64 (s : Int)) (by omega)).drew
        have hf3 : Fm B w (w2.setCell ⟨D, 32 + L, none⟩ (.int .i64 (s : Int))).drew := (A2.out.2.1.trans (A2.out.1.fmD ((Only.refl D w2).setCell (32 + L) _))).drew
        obtain ⟨w3, hw3⟩ : ∃ w3, (w2.setCell ⟨D, 32 + L, none⟩ (.int .i64 (s : Int))).drew = w3 := ⟨_, rfl⟩
        rw [hw3] at hb3 hf3 ⊢
        have e11 : upd f (32 + L) (.int .i64 (s : Int)) 11 = .int .i64 (L : Int) := (upd_ne _ _ (by omega)).trans (by rw [AK.out.2.2.1.have_, AK.out.2.2.2])
        have g11 := (hb3.cell (show 11 < 355 by decide)).trans (congrArg some e11)
        have y11 := hb3.fz 11
        have hLI : (L : Int) < 400 := by have := A2.out.2.2; omega
        have A3 : Aside (Bs w3 B D b R (upd f (32 + L) (.int .i64 (s : Int))) ((bs.drop pos).drop n) (win out) ∧ Fm B w w3) := ⟨hb3, hf3⟩
        clear hw3 hb3 hf3 e11 d11 dL zL t3 t3'
        go_wp2_with fail
        first | go_ret | go_ret2
        have a' := A.out
        have p := AK.out.2.2.1
        have hb4 := A3.out.1.set 11 (.int .i64 ((L : Int) + 1)) (by decide)
        have hf4 : Fm B w (w3.setCell ⟨D, 11, none⟩ (.int .i64 ((L : Int) + 1))) := A3.out.2.trans (A3.out.1.fmD ((Only.refl D w3).setCell 11 _))
        rw [List.drop_drop] at hb4
        have u : ∀ m, m ≠ 11 → m < 32 ∨ 348 ≤ m → upd (upd f (32 + L) (.int .i64 (s : Int))) 11 (.int .i64 ((L : Int) + 1)) m = f m := fun m h1 h2 => by
          have := A2.out.2.2
          rw [upd_ne _ _ h1, upd_ne _ _ (by omega)]
        refine ⟨true, rfl, hf4, Res.next (c' := ⟨.dsym last a c code (l ++ [s]), pos + n, out, times⟩) (Runs.one (AST.out _ (if_pos A16.out))) (a'.1.to hf4 hb4 ⟨(u 2 (by decide) (by decide)).trans AK.out.1, (u 5 (by decide) (by decide)).trans AK.out.2.1, p.a1, p.a2, p.b1, p.b2, (u 8 (by decide) (by decide)).trans p.c8, (u 9 (by decide) (by decide)).trans p.c9, ?_, ?_, ?_, ?_, p.code⟩ (u 3 (by decide) (by decide)) (u 4 (by decide) (by decide)) hn.out.1) (a'.2.1.to (u 352 (by decide) (by decide)) (u 353 (by decide) (by decide)) (u 354 (by decide) (by decide))) rfl ?_⟩
        · rw [upd_same, List.length_append, AK.out.2.2.2]
          rfl
        · rw [List.length_append, AK.out.2.2.2]
          exact AF.out
        · intro j x hx
          rw [upd_ne _ _ (by omega)]
          rw [List.getElem?_append] at hx
          split at hx
          · rename_i hjl
            rw [upd_ne _ _ (by rw [AK.out.2.2.2] at hjl; omega)]
            exact p.row j x hx
          · rename_i hjl
            rw [AK.out.2.2.2] at hjl hx
            have hj1 : j - L = 0 := by
              have := (List.getElem?_eq_some_iff.1 hx).1
              rw [List.length_singleton] at this
              omega
            rw [hj1] at hx
            cases hx
            rw [show 32 + j = 32 + L by omega, upd_same]
        · rw [u 31 (by decide) (by decide)]
          exact p.tbl.fm hf4
        · unfold mu rk
          simp only []
          have := hn.out
          omega
      · have t2 : ((s : Int) < 16) = False := eq_false (by omega)
        by_cases hz : s = 16 ∧ L = 0
        · obtain ⟨rfl, rfl⟩ := hz
          have hl0 : Aside (l = []) := List.eq_nil_of_length_eq_zero AK.out.2.2.2
          have hL0 : f 11 = .int .i64 0 := by rw [AK.out.2.2.1.have_, AK.out.2.2.2]; rfl
          clear h16 t2
          go_wp2_with (first
            | (go_at_call 31; refine hread.mono ?_; rintro e2 w2 ⟨hf2, rfl, hb2⟩
               have d11 := (hb2.cell (show 11 < 355 by decide)).trans (congrArg some hL0)
               have hst := pstop_c 12 w2 hb2)
            | (go_at_call 18; refine hst.mono ?_; rintro e3 w3 ⟨rfl, hb3, hf3⟩))
          first | go_ret | go_ret2
          have a' := A.out
          have hf : Fm B w w3 := (A1.out.trans hf2).trans hf3
          exact ⟨false, rfl, hf, Res.over (c' := ⟨.bad 12, pos + n, out, times⟩) (Runs.one (AST.out _ (by rw [if_neg (by decide), if_pos (by simp [hl0.out])]))) (a'.1.bad a'.2.1 hf hb3 12 (by decide) rfl rfl rfl rfl rfl rfl) rfl⟩
        · have AZ : Aside (¬ s < 16 ∧ ¬ (s = 16 ∧ L = 0)) := ⟨h16, hz⟩
          have hsI : (s : Int) < 400 := by have := hn.out; omega
          have hL11 : f 11 = .int .i64 (L : Int) := by rw [AK.out.2.2.1.have_, AK.out.2.2.2]
          have hfin : ∀ (w2 w3 : World), Fm B w1 w2 → Bs w2 B D b R f ((bs.drop pos).drop n) (win out) → Bs w3 B D b R (upd (upd f 348 (.int .i64 (s : Int))) 2 (fnv D 52)) ((bs.drop pos).drop n) (win out) → Fm B (w2.setCell ⟨D, 348, none⟩ (.int .i64 (s : Int))) w3 → Fm B w w3 ∧ Res B D b R bs most ⟨.dsym last a c code l, pos, out, times⟩ true w3 := fun w2 w3 hf2 hb2 hb3 hf3 => by
            have a' := A.out
            have p := AK.out.2.2.1
            have hf : Fm B w w3 := ((A1.out.trans hf2).trans (hb2.fmD ((Only.refl D w2).setCell 348 _))).trans hf3
            rw [List.drop_drop] at hb3
            have z := AZ.out
            refine ⟨hf, Res.next (c' := ⟨.drep last a c code l s, pos + n, out, times⟩) (Runs.one (AST.out _ ?_)) (a'.1.to hf hb3 ⟨rfl, AK.out.2.1, p.mono hf rfl rfl rfl rfl (fun j hj => by rw [upd_ne _ _ (by omega), upd_ne _ _ (by omega)]), rfl, by omega, by have := hn.out; omega, ?_⟩ rfl rfl hn.out.1) (a'.2.1.to rfl rfl rfl) rfl ?_⟩
            · rw [if_neg z.1, if_neg (fun h => z.2 ⟨h.1, by rw [← AK.out.2.2.2, h.2]; rfl⟩)]
            · intro h h'
              exact z.2 ⟨h, by rw [← AK.out.2.2.2, h']; rfl⟩
            · unfold mu rk
              simp only []
              have := hn.out
              omega
          have AFIN : Aside (∀ (w2 w3 : World), Fm B w1 w2 → Bs w2 B D b R f ((bs.drop pos).drop n) (win out) → Bs w3 B D b R (upd (upd f 348 (.int .i64 (s : Int))) 2 (fnv D 52)) ((bs.drop pos).drop n) (win out) → Fm B (w2.setCell ⟨D, 348, none⟩ (.int .i64 (s : Int))) w3 → Fm B w w3 ∧ Res B D b R bs most ⟨.dsym last a c code l, pos, out, times⟩ true w3) := hfin
          clear hfin
          by_cases h16' : s = 16
          · have t4 : ((s : Int) == 16) = true := by rw [beq_iff_eq]; omega
            have t5 : ((L : Int) == 0) = false := by rw [beq_eq_false_iff_ne]; have := AZ.out; omega
            clear h16 hz h16'
            go_wp2_with (first
              | (go_at_call 31; refine hread.mono ?_; rintro e2 w2 ⟨hf2, rfl, hb2⟩
                 have d11 := (hb2.cell (show 11 < 355 by decide)).trans (congrArg some hL11)
                 have d8 := hb2.cell (show 348 < 355 by decide)
                 have z8 := hb2.fz 348
                 have hth := pthen_c 52 _ (hb2.set 348 (.int .i64 (s : Int)) (by decide)))
              | (go_at_call 21; refine hth.mono ?_; rintro e3 w3 ⟨rfl, hb3, hf3⟩))
            first | go_ret | go_ret2
            have q := AFIN.out w2 w3 hf2 hb2 hb3 hf3
            exact ⟨true, rfl, q.1, q.2⟩
          · have t4 : ((s : Int) == 16) = false := by rw [beq_eq_false_iff_ne]; omega
            clear h16 hz h16'
            go_wp2_with (first
              | (go_at_call 31; refine hread.mono ?_; rintro e2 w2 ⟨hf2, rfl, hb2⟩
                 have d11 := (hb2.cell (show 11 < 355 by decide)).trans (congrArg some hL11)
                 have d8 := hb2.cell (show 348 < 355 by decide)
                 have z8 := hb2.fz 348
                 have hth := pthen_c 52 _ (hb2.set 348 (.int .i64 (s : Int)) (by decide)))
              | (go_at_call 21; refine hth.mono ?_; rintro e3 w3 ⟨rfl, hb3, hf3⟩))
            first | go_ret | go_ret2
            have q := AFIN.out w2 w3 hf2 hb2 hb3 hf3
            exact ⟨true, rfl, q.1, q.2⟩
end
end Go.Proofs.YtikdpnpkmmmacabDoor

/-
  What the step that lays a run of lengths comes to.
-/
namespace Go.Proofs.YtikdpnpkmmmacabDoor
open Go.RowKit
set_option linter.unusedVariables false
theorem run_tabs : ∀ s, 16 ≤ s → s ≤ 18 → ([2, 3, 7].getD (s - 16) 0 = if s = 16 then 2 else if s = 17 then 3 else 7) ∧ ([3, 3, 11].getD (s - 16) 0 = if s = 18 then 11 else 3) := by
  intro s h1 h2
  rcases (show s = 16 ∨ s = 17 ∨ s = 18 by omega) with rfl | rfl | rfl <;> decide
section
variable {B D b R : Nat} {f : Nat → Value} {bs : List Bool} {most : Nat}
set_option maxHeartbeats 1000000 in
theorem runOfLengths_s (w : World) {last : Bool} {a c s : Nat} {code l : List Nat} {pos : Nat} {out times : List Nat} (hI : Is w B D b R f bs ⟨.drep last a c code l s, pos, out, times⟩) (hO : Op f) : StepOk 52 B D b R bs most ⟨.drep last a c code l s, pos, out, times⟩ w := by
  obtain ⟨k2, k5, pl, k8, k9, k10, k11⟩ := id hI.at_
  have hle' : pos ≤ bs.length := hI.le
  have hm' : Bs w B D b R f (bs.drop pos) (win out) := hI.mem
  obtain ⟨L, hL⟩ : ∃ L, l.length = L := ⟨_, rfl⟩
  obtain ⟨r, hr⟩ : ∃ r, s - 16 = r := ⟨_, rfl⟩
  obtain ⟨m, hm⟩ : ∃ m, (if s = 16 then 2 else if s = 17 then 3 else 7) = m := ⟨_, rfl⟩
  obtain ⟨mb, hmb⟩ : ∃ mb, (if s = 18 then 11 else 3) = mb := ⟨_, rfl⟩
  have hr3 : r < 3 := by omega
  have hm7 : m ≤ 7 ∧ 2 ≤ m := by rw [← hm]; split <;> (try split) <;> omega
  have hmb11 : mb ≤ 11 ∧ 3 ≤ mb := by rw [← hmb]; split <;> omega
  have hrt := run_tabs s k9 k10
  rw [hr, hm, hmb] at hrt
  have c8 := (hm'.cell (show 348 < 355 by decide)).trans (congrArg some k8)
  have c0 := (hm'.cell (show 0 < 355 by decide)).trans (congrArg some hm'.c0)
  have A : Aside (Is w B D b R f bs ⟨.drep last a c code l s, pos, out, times⟩ ∧ Op f ∧ pos ≤ bs.length ∧ Bs w B D b R f (bs.drop pos) (win out)) := ⟨hI, hO, hle', hm'⟩
  have AK : Aside (f 2 = fnv D 52 ∧ f 5 = .bool last ∧ Pl w B f a c code l ∧ l.length = L ∧ f 348 = .int .i64 (s : Int) ∧ 16 ≤ s ∧ s ≤ 18 ∧ (s = 16 → l ≠ [])) := ⟨k2, k5, pl, hL, k8, k9, k10, k11⟩
  have AM : Aside (s - 16 = r ∧ (if s = 16 then 2 else if s = 17 then 3 else 7) = m ∧ (if s = 18 then 11 else 3) = mb ∧ r < 3 ∧ m ≤ 7 ∧ mb ≤ 11 ∧ 3 ≤ mb ∧ 2 ≤ m) := ⟨hr, hm, hmb, hr3, hm7.1, hmb11.1, hmb11.2, hm7.2⟩
  have hsr : (s : Int) - 16 = (r : Int) := by omega
  have hsI : (s : Int) < 19 := by omega
  have ht : ∀ u, Fm B w.drew u → u.cell? ⟨5, r, none⟩ = some (.int .u8 (m : Int)) ∧ u.cell? ⟨6, r, none⟩ = some (.int .u8 (mb : Int)) := fun u hf => by
    have t := hI.tabs.below (hf.of_drew.below (by have := hm'.lt; omega)) hI.b7
    have t5 := t.t5 r hr3
    have t6 := t.t6 r hr3
    rw [hrt.1] at t5
    rw [hrt.2] at t6
    exact ⟨t5, t6⟩
  have AT : Aside (∀ u, Fm B w.drew u → u.cell? ⟨5, r, none⟩ = some (.int .u8 (m : Int)) ∧ u.cell? ⟨6, r, none⟩ = some (.int .u8 (mb : Int))) := ht
  have t0 := (ht w.drew (Fm.refl B _)).1
  have hrI : ((r : Int) < 3) = True := eq_true (by omega)
  have hrn : (r < 3) = True := eq_true hr3
  have hmw : IntKind.i64.wrap (m : Int) = (m : Int) := by rw [IntKind.wrap_i64]; omega
  have hkeep : Aside (∀ u h', Bs u B D b R f h' (win out) → Fm B w.drew u → u.cell? ⟨D, 0, none⟩ = some (.pointer (some ⟨b, 0, none⟩)) ∧ u.cell? ⟨5, r, none⟩ = some (.int .u8 (m : Int))) := fun u h' hb hf => ⟨(hb.cell (show 0 < 355 by decide)).trans (congrArg some hb.c0), (ht u hf).1⟩
  have t00 : w.cell? ⟨5, r, none⟩ = some (.int .u8 (m : Int)) := t0
  unfold StepOk
  by_cases hshort : (bs.drop pos).length < m
  · have htake := take_short m w.drew hm'.drew hshort
    have AS : Aside ((bs.drop pos).length < m) := hshort
    clear hI hO hle' hm' k2 k5 pl k8 k9 k10 k11 hr hm hmb hr3 hm7 hmb11 hrt ht hshort hL t0
    go_enter Tryd.func52, Tryd.ntmps52
    go_upto_region 2 with fail
    go_region_held3 (fun u => u.cell? ⟨D, 0, none⟩ = some (.pointer (some ⟨b, 0, none⟩)) ∧ u.cell? ⟨5, r, none⟩ = some (.int .u8 (m : Int))) (first | assumption | exact ⟨c0, t00⟩)
      (first | (go_at_call 19; refine htake.mono ?_; rintro e2 w2 ⟨rfl, rfl⟩))
    all_goals
      go_wp2_with fail
      first | go_ret | go_ret2
      have a' := A.out
      have am := AM.out
      have sh := AS.out
      rw [List.length_drop] at sh
      refine ⟨false, rfl, (Fm.refl B w).drew, Res.want (a'.1.same (Fm.refl B w).drew a'.1.mem.drew) a'.2.1 ?_ ?_ (fun y => by simp) (by simp)⟩
      · show bs.length < pos + 32
        omega
      · unfold step
        simp only [am.2.1]
        rw [num_no (by omega)]; rfl
  · obtain ⟨v, hv⟩ : ∃ v, nm ((bs.drop pos).take m) = v := ⟨_, rfl⟩
    have hvlt : v < 128 := by
      have := nm_take_lt (bs.drop pos) m
      have h2 : 2 ^ m ≤ 2 ^ 7 := Nat.pow_le_pow_right (by decide) hm7.1
      omega
    have htake := take_at m w.drew hm'.drew (by omega) (by omega) v hv
    obtain ⟨mm, hmm⟩ : ∃ mm, mb + v = mm := ⟨_, rfl⟩
    have AS : Aside (pos + m ≤ bs.length ∧ nm ((bs.drop pos).take m) = v ∧ v < 128 ∧ mb + v = mm) := ⟨by rw [List.length_drop] at hshort; omega, hv, hvlt, hmm⟩
    have hmbI : (mb : Int) + (v : Int) = (mm : Int) := by omega
    have hvI : (v : Int) < 128 := by omega
    have hmbI2 : (mb : Int) < 12 := by omega
    have hmI : (mm : Int) < 200 := by omega
    have hLI : (L : Int) < 400 := by have := pl.len; have := pl.a2; have := pl.b2; omega
    have haI : (a : Int) < 300 := by have := pl.a2; omega
    have hcI : (c : Int) < 40 := by have := pl.b2; omega
    have hstep : ∀ st, (if a + c < L + mm then St.bad 12 else .dsym last a c code (l ++ List.replicate mm (if s = 16 then l.getD (L - 1) 0 else 0))) = st → step bs most ⟨.drep last a c code l s, pos, out, times⟩ = some ⟨st, pos + m, out, times⟩ := fun st h => by
      have q := AS.out
      have am := AM.out
      unfold step
      simp only [am.2.1, am.2.2.1]
      rw [pnum_at q.1, q.2.1, Option.map_some, q.2.2.2, hL, h]
    have AST : Aside (∀ st, (if a + c < L + mm then St.bad 12 else .dsym last a c code (l ++ List.replicate mm (if s = 16 then l.getD (L - 1) 0 else 0))) = st → step bs most ⟨.drep last a c code l s, pos, out, times⟩ = some ⟨st, pos + m, out, times⟩) := hstep
    clear hI hO hle' hm' k2 k5 pl k8 k9 k10 k11 hr hm hmb hr3 hm7 hmb11 hrt ht hshort hL t0 hv hvlt hmm hstep
    go_enter Tryd.func52, Tryd.ntmps52
    go_upto_region 2 with fail
    go_region_held3 (fun u => u.cell? ⟨D, 0, none⟩ = some (.pointer (some ⟨b, 0, none⟩)) ∧ u.cell? ⟨5, r, none⟩ = some (.int .u8 (m : Int))) (first | assumption | exact ⟨c0, t00⟩ | exact hkeep.out _ _ hb2 hf2)
      (first | (go_at_call 19; refine htake.mono ?_; rintro e2 w2 ⟨rfl, hb2, hf2⟩))
    all_goals
      have d6 := (AT.out _ hf2).2
      have p := AK.out.2.2.1
      have d11 := (hb2.cell (show 11 < 355 by decide)).trans (congrArg some (by rw [p.have_, AK.out.2.2.2.1]))
      have d8 := (hb2.cell (show 8 < 355 by decide)).trans (congrArg some p.c8)
      have d9 := (hb2.cell (show 9 < 355 by decide)).trans (congrArg some p.c9)
      have ds := (hb2.cell (show 348 < 355 by decide)).trans (congrArg some AK.out.2.2.2.2.1)
      have A2 : Aside (Bs w2 B D b R f ((bs.drop pos).drop m) (win out) ∧ Fm B w w2) := ⟨hb2, hf2.of_drew⟩
      clear hb2 hf2 p htake c0 c8 t00 hkeep AT hmw
      go_upto_region 7 with fail
      by_cases hbig : a + c < L + mm
      · have t1 : ((a : Int) + (c : Int) < (L : Int) + (mm : Int)) = True := eq_true (by omega)
        have AB : Aside (a + c < L + mm) := hbig
        clear hbig
        go_quiet (fail)
        have hst := pstop_c 12 _ (A2.out.1.drewN nq)
        go_wp2_with (go_at_call 18; refine hst.mono ?_; rintro e3 w3 ⟨rfl, hb3, hf3⟩)
        first | go_ret | go_ret2
        have a' := A.out
        have hf : Fm B w w3 := (A2.out.2.drewN nq).trans hf3
        exact ⟨false, rfl, hf, Res.over (c' := ⟨.bad 12, pos + m, out, times⟩) (Runs.one (AST.out _ (if_pos AB.out))) (a'.1.bad a'.2.1 hf hb3 12 (by decide) rfl rfl rfl rfl rfl rfl) rfl⟩
      · have t1 : ((a : Int) + (c : Int) < (L : Int) + (mm : Int)) = False := eq_false (by omega)
        have AB : Aside (¬ a + c < L + mm) := hbig
        obtain ⟨x, hx⟩ : ∃ x, (if s = 16 then l.getD (L - 1) 0 else 0) = x := ⟨_, rfl⟩
        have AX : Aside ((if s = 16 then l.getD (L - 1) 0 else 0) = x) := hx
        have hmain : ∀ w3, Bs w3 B D b R f ((bs.drop pos).drop m) (win out) → Fm B w w3 → ∃ f', Bs w3 B D b R f' ((bs.drop pos).drop m) (win out) ∧ Fm B w w3 ∧ f' 11 = .int .i64 ((L + 0 : Nat) : Int) ∧ (∀ (j y : Nat), (l ++ List.replicate 0 x)[j]? = some y → f' (32 + j) = .int .i64 (y : Int)) ∧ (∀ n, n ≠ 11 → n < 32 ∨ 348 ≤ n → f' n = f n) := fun w3 h1 h2 => ⟨f, h1, h2, by rw [AK.out.2.2.1.have_, AK.out.2.2.2.1]; rfl, fun j y hy => by rw [List.replicate_zero, List.append_nil] at hy; exact AK.out.2.2.1.row j y hy, fun _ _ _ => rfl⟩
        have AMN : Aside (∀ w3, Bs w3 B D b R f ((bs.drop pos).drop m) (win out) → Fm B w w3 → ∃ f', Bs w3 B D b R f' ((bs.drop pos).drop m) (win out) ∧ Fm B w w3 ∧ f' 11 = .int .i64 ((L + 0 : Nat) : Int) ∧ (∀ (j y : Nat), (l ++ List.replicate 0 x)[j]? = some y → f' (32 + j) = .int .i64 (y : Int)) ∧ (∀ n, n ≠ 11 → n < 32 ∨ 348 ≤ n → f' n = f n)) := hmain
        clear hbig hmain
        go_quiet (fail)
        have hb3 := A2.out.1.drewN nq
        have hf3 : Fm B w (w2.drewN nq) := A2.out.2.drewN nq
        obtain ⟨w3, hw3⟩ : ∃ w3, w2.drewN nq = w3 := ⟨_, rfl⟩
        rw [hw3] at hb3 hf3 ⊢
        have gs := (hb3.cell (show 348 < 355 by decide)).trans (congrArg some AK.out.2.2.2.2.1)
        have g11 := (hb3.cell (show 11 < 355 by decide)).trans (congrArg some (show f 11 = .int .i64 (L : Int) by rw [AK.out.2.2.1.have_, AK.out.2.2.2.1]))
        have A3 : Aside (Bs w3 B D b R f ((bs.drop pos).drop m) (win out) ∧ Fm B w w3) := ⟨hb3, hf3⟩
        clear hw3 d6 d11 d8 d9 ds t1
        by_cases h16 : s = 16
        · have t2 : ((s : Int) == 16) = true := by rw [beq_iff_eq]; omega
          rw [if_pos h16] at hx
          have hL0 : 0 < L := by
            have := AK.out.2.2.2.2.2.2.2 h16
            rw [← AK.out.2.2.2.1]
            exact List.length_pos_iff.2 this
          obtain ⟨q, hq⟩ : ∃ q, L - 1 = q := ⟨_, rfl⟩
          have hqI : (L : Int) - 1 = (q : Int) := by omega
          have hq316 : q < 316 := by have := AK.out.2.2.1.len; have := AK.out.2.2.1.a2; have := AK.out.2.2.1.b2; have := AK.out.2.2.2.1; omega
          have hqL : q < l.length := by rw [AK.out.2.2.2.1]; omega
          have eq : f (32 + q) = .int .i64 (x : Int) := by
            rw [← hx, hq, List.getD_eq_getElem?_getD, List.getElem?_eq_getElem hqL]
            exact AK.out.2.2.1.row q _ (List.getElem?_eq_getElem hqL)
          have gq := (hb3.cell (show 32 + q < 355 by omega)).trans (congrArg some eq)
          have t3 : ((q : Int) < 316) = True := eq_true (by omega)
          have t3' : (q < 316) = True := eq_true hq316
          have hwq : ∀ z : Int, z = (L : Int) - 1 → IntKind.i64.wrap z = (q : Int) := by intro z hz; rw [IntKind.wrap_i64, hz]; omega
          clear h16 hx hL0 hq hqL eq hb3 hf3 hq316
          go_upto_region 11 with fail
          go_quiet (fail)
          have A4 : Aside (∃ f', Bs (w3.drewN nq) B D b R f' ((bs.drop pos).drop m) (win out) ∧ Fm B w (w3.drewN nq) ∧ f' 11 = .int .i64 ((L + 0 : Nat) : Int) ∧ (∀ (j y : Nat), (l ++ List.replicate 0 x)[j]? = some y → f' (32 + j) = .int .i64 (y : Int)) ∧ (∀ n, n ≠ 11 → n < 32 ∨ 348 ≤ n → f' n = f n)) := AMN.out _ (A3.out.1.drewN nq) (A3.out.2.drewN nq)
          obtain ⟨w4, hw4⟩ : ∃ w4, w3.drewN nq = w4 := ⟨_, rfl⟩
          rw [hw4] at A4 ⊢
          clear hw4 gs g11 gq t3 t3' hwq t2
          go_wp2_with fail
          go_loopg [72] mm (fun gg si wr => ∃ t : Nat, si = .int .i64 t ∧ Aside (t + gg = mm ∧ ∃ f', Bs wr B D b R f' ((bs.drop pos).drop m) (win out) ∧ Fm B w wr ∧ f' 11 = .int .i64 ((L + t : Nat) : Int) ∧ (∀ (j y : Nat), (l ++ List.replicate t x)[j]? = some y → f' (32 + j) = .int .i64 (y : Int)) ∧ (∀ n, n ≠ 11 → n < 32 ∨ 348 ≤ n → f' n = f n)))
          case atStart => exact ⟨0, rfl, by omega, A4.out⟩
          case round =>
            obtain ⟨t, rfl, hI⟩ := hrel
            obtain ⟨htg, f', hb5, hf5, h11, hrow, hrest⟩ := hI.out
            by_cases htm : t < mm
            · have u1 : ((t : Int) < (mm : Int)) = True := eq_true (by omega)
              have u2 : (t < mm) = True := eq_true htm
              have htI : (t : Int) < 1000 := by omega
              obtain ⟨g, hg⟩ : ∃ g, L + t = g := ⟨_, rfl⟩
              rw [hg] at h11
              have hg316 : g < 316 := by have := AB.out; have := AK.out.2.2.1.a2; have := AK.out.2.2.1.b2; omega
              have c11 := (hb5.cell (show 11 < 355 by decide)).trans (congrArg some h11)
              have cg := hb5.cell (show 32 + g < 355 by omega)
              have zg := hb5.fz (32 + g)
              have u3 : ((g : Int) < 316) = True := eq_true (by omega)
              have u3' : (g < 316) = True := eq_true hg316
              have AN : Aside (t + gk = mm ∧ Bs wr B D b R f' ((bs.drop pos).drop m) (win out) ∧ Fm B w wr ∧ f' 11 = .int .i64 (g : Int) ∧ (∀ (j y : Nat), (l ++ List.replicate t x)[j]? = some y → f' (32 + j) = .int .i64 (y : Int)) ∧ (∀ n, n ≠ 11 → n < 32 ∨ 348 ≤ n → f' n = f n) ∧ L + t = g ∧ g < 316 ∧ t < mm) := ⟨htg, hb5, hf5, h11, hrow, hrest, hg, hg316, htm⟩
              clear hI htg hb5 hf5 h11 hrow hrest hg hg316 htm
              go_upto_region 14 with fail
              go_region
              have an := AN.out
              have hb6 := (an.2.1.set (32 + g) (.int .i64 (x : Int)) (by omega)).drew
              have hf6 : Fm B w (wr.setCell ⟨D, 32 + g, none⟩ (.int .i64 (x : Int))).drew := (an.2.2.1.trans (an.2.1.fmD ((Only.refl D wr).setCell (32 + g) _))).drew
              obtain ⟨w6, hw6⟩ : ∃ w6, (wr.setCell ⟨D, 32 + g, none⟩ (.int .i64 (x : Int))).drew = w6 := ⟨_, rfl⟩
              rw [hw6] at hb6 hf6 ⊢
              have e11 : upd f' (32 + g) (.int .i64 (x : Int)) 11 = .int .i64 (g : Int) := (upd_ne _ _ (by omega)).trans an.2.2.2.1
              have y11 := (hb6.cell (show 11 < 355 by decide)).trans (congrArg some e11)
              have z11 := hb6.fz 11
              have hgI : (g : Int) < 400 := by omega
              have A6 : Aside (Bs w6 B D b R (upd f' (32 + g) (.int .i64 (x : Int))) ((bs.drop pos).drop m) (win out) ∧ Fm B w w6) := ⟨hb6, hf6⟩
              clear an hb6 hf6 hw6 e11 c11 cg zg u3 u3'
              go_wp2_with fail
              have an := AN.out
              go_roundg (gk - 1)
              case measure => omega
              case rel =>
                refine ⟨t + 1, by go_num, by omega, _, A6.out.1.set 11 (.int .i64 ((g : Int) + 1)) (by decide), A6.out.2.trans (A6.out.1.fmD ((Only.refl D w6).setCell 11 _)), ?_, ?_, ?_⟩
                · rw [upd_same, show L + (t + 1) = g + 1 by omega]; rfl
                · intro j y hy
                  rw [upd_ne _ _ (by omega)]
                  rw [List.replicate_succ', ← List.append_assoc, List.getElem?_append] at hy
                  have hlen : (l ++ List.replicate t x).length = g := by rw [List.length_append, List.length_replicate, AK.out.2.2.2.1]; exact an.2.2.2.2.2.2.1
                  rw [hlen] at hy
                  split at hy
                  · rw [upd_ne _ _ (by omega)]; exact an.2.2.2.2.1 j y hy
                  · rename_i hjg
                    have hj1 : j - g = 0 := by
                      have := (List.getElem?_eq_some_iff.1 hy).1
                      rw [List.length_singleton] at this
                      omega
                    rw [hj1] at hy
                    cases hy
                    rw [show 32 + j = 32 + g by omega, upd_same]
                · intro n h1 h2
                  have := an.2.2.2.2.2.2.2.1
                  rw [upd_ne _ _ h1, upd_ne _ _ (by omega)]
                  exact an.2.2.2.2.2.1 n h1 h2
            · have ht : t = mm := by omega
              subst ht
              have u1 : ((t : Int) < (t : Int)) = False := eq_false (by omega)
              have u2 : (t < t) = False := eq_false (by omega)
              have hth := pthen_c 44 wr hb5
              have AN : Aside (Fm B w wr ∧ f' 11 = .int .i64 ((L + t : Nat) : Int) ∧ (∀ (j y : Nat), (l ++ List.replicate t x)[j]? = some y → f' (32 + j) = .int .i64 (y : Int)) ∧ (∀ n, n ≠ 11 → n < 32 ∨ 348 ≤ n → f' n = f n)) := ⟨hf5, h11, hrow, hrest⟩
              clear hI htg hb5 hf5 h11 hrow hrest htm
              go_wp2_with (go_at_call 21; refine hth.mono ?_; rintro e7 w7 ⟨rfl, hb7, hf7⟩)
              first | go_ret | go_ret2
              have a' := A.out
              have an := AN.out
              have hf : Fm B w w7 := an.1.trans hf7
              have p := AK.out.2.2.1
              have ab := AB.out
              rw [List.drop_drop] at hb7
              have u : ∀ n, n ≠ 2 → n ≠ 11 → n < 32 ∨ 348 ≤ n → upd f' 2 (fnv D 44) n = f n := fun n h0 h1 h2 => by rw [upd_ne _ _ h0]; exact an.2.2.2 n h1 h2
              have hlen : (l ++ List.replicate t x).length = L + t := by rw [List.length_append, List.length_replicate, AK.out.2.2.2.1]
              refine ⟨true, rfl, hf, Res.next (c' := ⟨.dsym last a c code (l ++ List.replicate t x), pos + m, out, times⟩) (Runs.one (AST.out _ (by rw [if_neg ab, AX.out]))) (a'.1.to hf hb7 ⟨rfl, (u 5 (by decide) (by decide) (by decide)).trans AK.out.2.1, p.a1, p.a2, p.b1, p.b2, (u 8 (by decide) (by decide) (by decide)).trans p.c8, (u 9 (by decide) (by decide) (by decide)).trans p.c9, ?_, by rw [hlen]; omega, ?_, ?_, p.code⟩ (u 3 (by decide) (by decide) (by decide)) (u 4 (by decide) (by decide) (by decide)) AS.out.1) (a'.2.1.to (u 352 (by decide) (by decide) (by decide)) (u 353 (by decide) (by decide) (by decide)) (u 354 (by decide) (by decide) (by decide))) rfl ?_⟩
              · rw [upd_ne _ _ (by decide), an.2.1, hlen]
              · intro j y hy
                rw [upd_ne _ _ (by omega)]
                exact an.2.2.1 j y hy
              · rw [u 31 (by decide) (by decide) (by decide)]
                exact p.tbl.fm hf
              · unfold mu rk
                simp only []
                have := AM.out
                have := AS.out.1
                omega
        · have t2 : ((s : Int) == 16) = false := by rw [beq_eq_false_iff_ne]; omega
          rw [if_neg h16] at hx
          subst hx
          have A4 : Aside (∃ f', Bs w3 B D b R f' ((bs.drop pos).drop m) (win out) ∧ Fm B w w3 ∧ f' 11 = .int .i64 ((L + 0 : Nat) : Int) ∧ (∀ (j y : Nat), (l ++ List.replicate 0 0)[j]? = some y → f' (32 + j) = .int .i64 (y : Int)) ∧ (∀ n, n ≠ 11 → n < 32 ∨ 348 ≤ n → f' n = f n)) := AMN.out _ A3.out.1 A3.out.2
          clear h16 hb3 hf3
          go_upto_region 12 with fail
          clear gs g11 t2
          go_wp2_with fail
          go_loopg [72] mm (fun gg si wr => ∃ t : Nat, si = .int .i64 t ∧ Aside (t + gg = mm ∧ ∃ f', Bs wr B D b R f' ((bs.drop pos).drop m) (win out) ∧ Fm B w wr ∧ f' 11 = .int .i64 ((L + t : Nat) : Int) ∧ (∀ (j y : Nat), (l ++ List.replicate t 0)[j]? = some y → f' (32 + j) = .int .i64 (y : Int)) ∧ (∀ n, n ≠ 11 → n < 32 ∨ 348 ≤ n → f' n = f n)))
          case atStart => exact ⟨0, rfl, by omega, A4.out⟩
          case round =>
            obtain ⟨t, rfl, hI⟩ := hrel
            obtain ⟨htg, f', hb5, hf5, h11, hrow, hrest⟩ := hI.out
            by_cases htm : t < mm
            · have u1 : ((t : Int) < (mm : Int)) = True := eq_true (by omega)
              have u2 : (t < mm) = True := eq_true htm
              have htI : (t : Int) < 1000 := by omega
              obtain ⟨g, hg⟩ : ∃ g, L + t = g := ⟨_, rfl⟩
              rw [hg] at h11
              have hg316 : g < 316 := by have := AB.out; have := AK.out.2.2.1.a2; have := AK.out.2.2.1.b2; omega
              have c11 := (hb5.cell (show 11 < 355 by decide)).trans (congrArg some h11)
              have cg := hb5.cell (show 32 + g < 355 by omega)
              have zg := hb5.fz (32 + g)
              have u3 : ((g : Int) < 316) = True := eq_true (by omega)
              have u3' : (g < 316) = True := eq_true hg316
              have AN : Aside (t + gk = mm ∧ Bs wr B D b R f' ((bs.drop pos).drop m) (win out) ∧ Fm B w wr ∧ f' 11 = .int .i64 (g : Int) ∧ (∀ (j y : Nat), (l ++ List.replicate t 0)[j]? = some y → f' (32 + j) = .int .i64 (y : Int)) ∧ (∀ n, n ≠ 11 → n < 32 ∨ 348 ≤ n → f' n = f n) ∧ L + t = g ∧ g < 316 ∧ t < mm) := ⟨htg, hb5, hf5, h11, hrow, hrest, hg, hg316, htm⟩
              clear hI htg hb5 hf5 h11 hrow hrest hg hg316 htm
              go_upto_region 14 with fail
              go_region
              have an := AN.out
              have hb6 := (an.2.1.set (32 + g) (.int .i64 0) (by omega)).drew
              have hf6 : Fm B w (wr.setCell ⟨D, 32 + g, none⟩ (.int .i64 0)).drew := (an.2.2.1.trans (an.2.1.fmD ((Only.refl D wr).setCell (32 + g) _))).drew
              obtain ⟨w6, hw6⟩ : ∃ w6, (wr.setCell ⟨D, 32 + g, none⟩ (.int .i64 0)).drew = w6 := ⟨_, rfl⟩
              rw [hw6] at hb6 hf6 ⊢
              have e11 : upd f' (32 + g) (.int .i64 0) 11 = .int .i64 (g : Int) := (upd_ne _ _ (by omega)).trans an.2.2.2.1
              have y11 := (hb6.cell (show 11 < 355 by decide)).trans (congrArg some e11)
              have z11 := hb6.fz 11
              have hgI : (g : Int) < 400 := by omega
              have A6 : Aside (Bs w6 B D b R (upd f' (32 + g) (.int .i64 0)) ((bs.drop pos).drop m) (win out) ∧ Fm B w w6) := ⟨hb6, hf6⟩
              clear an hb6 hf6 hw6 e11 c11 cg zg u3 u3'
              go_wp2_with fail
              have an := AN.out
              go_roundg (gk - 1)
              case measure => omega
              case rel =>
                refine ⟨t + 1, by go_num, by omega, _, A6.out.1.set 11 (.int .i64 ((g : Int) + 1)) (by decide), A6.out.2.trans (A6.out.1.fmD ((Only.refl D w6).setCell 11 _)), ?_, ?_, ?_⟩
                · rw [upd_same, show L + (t + 1) = g + 1 by omega]; rfl
                · intro j y hy
                  rw [upd_ne _ _ (by omega)]
                  rw [List.replicate_succ', ← List.append_assoc, List.getElem?_append] at hy
                  have hlen : (l ++ List.replicate t 0).length = g := by rw [List.length_append, List.length_replicate, AK.out.2.2.2.1]; exact an.2.2.2.2.2.2.1
                  rw [hlen] at hy
                  split at hy
                  · rw [upd_ne _ _ (by omega)]; exact an.2.2.2.2.1 j y hy
                  · rename_i hjg
                    have hj1 : j - g = 0 := by
                      have := (List.getElem?_eq_some_iff.1 hy).1
                      rw [List.length_singleton] at this
                      omega
                    rw [hj1] at hy
                    cases hy
                    rw [show 32 + j = 32 + g by omega, upd_same]
                    rfl
                · intro n h1 h2
                  have := an.2.2.2.2.2.2.2.1
                  rw [upd_ne _ _ h1, upd_ne _ _ (by omega)]
                  exact an.2.2.2.2.2.1 n h1 h2
            · have ht : t = mm := by omega
              subst ht
              have u1 : ((t : Int) < (t : Int)) = False := eq_false (by omega)
              have u2 : (t < t) = False := eq_false (by omega)
              have hth := pthen_c 44 wr hb5
              have AN : Aside (Fm B w wr ∧ f' 11 = .int .i64 ((L + t : Nat) : Int) ∧ (∀ (j y : Nat), (l ++ List.replicate t 0)[j]? = some y → f' (32 + j) = .int .i64 (y : Int)) ∧ (∀ n, n ≠ 11 → n < 32 ∨ 348 ≤ n → f' n = f n)) := ⟨hf5, h11, hrow, hrest⟩
              clear hI htg hb5 hf5 h11 hrow hrest htm
              go_wp2_with (go_at_call 21; refine hth.mono ?_; rintro e7 w7 ⟨rfl, hb7, hf7⟩)
              first | go_ret | go_ret2
              have a' := A.out
              have an := AN.out
              have hf : Fm B w w7 := an.1.trans hf7
              have p := AK.out.2.2.1
              have ab := AB.out
              rw [List.drop_drop] at hb7
              have u : ∀ n, n ≠ 2 → n ≠ 11 → n < 32 ∨ 348 ≤ n → upd f' 2 (fnv D 44) n = f n := fun n h0 h1 h2 => by rw [upd_ne _ _ h0]; exact an.2.2.2 n h1 h2
              have hlen : (l ++ List.replicate t 0).length = L + t := by rw [List.length_append, List.length_replicate, AK.out.2.2.2.1]
              refine ⟨true, rfl, hf, Res.next (c' := ⟨.dsym last a c code (l ++ List.replicate t 0), pos + m, out, times⟩) (Runs.one (AST.out _ (by rw [if_neg ab, AX.out]))) (a'.1.to hf hb7 ⟨rfl, (u 5 (by decide) (by decide) (by decide)).trans AK.out.2.1, p.a1, p.a2, p.b1, p.b2, (u 8 (by decide) (by decide) (by decide)).trans p.c8, (u 9 (by decide) (by decide) (by decide)).trans p.c9, ?_, by rw [hlen]; omega, ?_, ?_, p.code⟩ (u 3 (by decide) (by decide) (by decide)) (u 4 (by decide) (by decide) (by decide)) AS.out.1) (a'.2.1.to (u 352 (by decide) (by decide) (by decide)) (u 353 (by decide) (by decide) (by decide)) (u 354 (by decide) (by decide) (by decide))) rfl ?_⟩
              · rw [upd_ne _ _ (by decide), an.2.1, hlen]
              · intro j y hy
                rw [upd_ne _ _ (by omega)]
                exact an.2.2.1 j y hy
              · rw [u 31 (by decide) (by decide) (by decide)]
                exact p.tbl.fm hf
              · unfold mu rk
                simp only []
                have := AM.out
                have := AS.out.1
                omega
end
end Go.Proofs.YtikdpnpkmmmacabDoor

/-
  What a run of steps comes to: up to a byte, an end, or more bits that are wanted.
-/
namespace Go.Proofs.YtikdpnpkmmmacabDoor
open Go.RowKit
set_option linter.unusedVariables false
/-- Numbers that stay small. -/
def Bd : St → Prop
  | .snot _ l => l < 65536
  | .sraw _ m => m < 65536
  | .lext _ _ _ s => 257 ≤ s ∧ s ≤ 285
  | .dist _ _ _ m => m < 65536
  | .dext _ _ _ m _ => m < 65536
  | .copy _ _ _ m _ => m < 65536
  | _ => True
theorem num_lt2 {bs : List Bool} {p n v : Nat} (h : num? bs p n = some v) : v < 2 ^ n := by
  unfold num? at h
  split at h
  · cases h; exact nm_take_lt _ _
  · cases h
theorem give_bd {most : Nat} {k : St} {b p : Nat} {c : Cfg} (h : Bd k) : Bd (give most k b p c).st := by
  unfold give
  split
  · exact h
  · trivial
theorem step_bd {bs : List Bool} {most : Nat} {c d : Cfg} (h : step bs most c = some d) (hc : Bd c.st) : Bd d.st := by
  obtain ⟨st, pos, out, times⟩ := c
  unfold step at h
  cases st with
  | head last =>
    cases last with
    | true => simp only [Option.some.injEq] at h; rw [← h]; trivial
    | false =>
      simp only [Option.map_eq_some_iff] at h
      obtain ⟨v, hv, rfl⟩ := h
      show Bd (match v / 2 with
        | 0 => St.slen (v % 2 == 1)
        | 1 => .sym (v % 2 == 1) fixL fixD
        | 2 => .dnum (v % 2 == 1)
        | _ => .bad 10)
      split <;> trivial
  | slen last =>
    simp only [Option.map_eq_some_iff] at h
    obtain ⟨v, hv, rfl⟩ := h
    exact num_lt2 hv
  | snot last l =>
    simp only [Option.map_eq_some_iff] at h
    obtain ⟨v, hv, rfl⟩ := h
    show Bd (if l + v = 65535 then St.sraw last l else .bad 11)
    split
    · exact hc
    · trivial
  | sraw last n =>
    cases n with
    | zero => simp only [Option.some.injEq] at h; rw [← h]; trivial
    | succ n =>
      simp only [Option.map_eq_some_iff] at h
      obtain ⟨v, hv, rfl⟩ := h
      exact give_bd (show n < 65536 by have h1 : n + 1 < 65536 := hc; omega)
  | dnum last =>
    simp only [Option.map_eq_some_iff] at h
    obtain ⟨v, hv, rfl⟩ := h
    simp only []
    split <;> trivial
  | dfst last a b i j first =>
    simp only [] at h
    split at h
    · simp only [Option.map_eq_some_iff] at h
      obtain ⟨v, hv, rfl⟩ := h
      trivial
    · simp only [Option.some.injEq] at h
      rw [← h]
      simp only []
      split <;> trivial
  | dsym last a b code l =>
    simp only [] at h
    split at h
    · split at h
      · cases h
      · simp only [Option.some.injEq] at h; rw [← h]; trivial
      · simp only [Option.some.injEq] at h
        rw [← h]
        simp only []
        split
        · trivial
        · split <;> trivial
    · simp only [Option.some.injEq] at h
      rw [← h]
      simp only []
      split <;> trivial
  | drep last a b code l s =>
    simp only [Option.map_eq_some_iff] at h
    obtain ⟨v, hv, rfl⟩ := h
    simp only []
    split <;> split <;> trivial
  | sym last lit di =>
    simp only [] at h
    split at h
    · cases h
    · simp only [Option.some.injEq] at h; rw [← h]; trivial
    · rename_i s n e
      split at h
      · simp only [Option.some.injEq] at h
        rw [← h]
        exact give_bd trivial
      · simp only [Option.some.injEq] at h
        rw [← h]
        simp only []
        split
        · trivial
        · split
          · trivial
          · show 257 ≤ s ∧ s ≤ 285
            omega
  | lext last lit di s =>
    simp only [Option.map_eq_some_iff] at h
    obtain ⟨v, hv, rfl⟩ := h
    have h1 := num_lt2 hv
    have h2 : 257 ≤ s ∧ s ≤ 285 := hc
    have h3 := plmore_le (s - 257) (by omega)
    rw [show 257 + (s - 257) = s by omega] at h3
    have h4 : 2 ^ lmore s ≤ 2 ^ 5 := Nat.pow_le_pow_right (by decide) h3.1
    show lbase s + v < 65536
    omega
  | dist last lit di n =>
    simp only [] at h
    split at h
    · cases h
    · simp only [Option.some.injEq] at h; rw [← h]; trivial
    · simp only [Option.some.injEq] at h
      rw [← h]
      simp only []
      split
      · trivial
      · exact hc
  | dext last lit di n x =>
    simp only [Option.map_eq_some_iff] at h
    obtain ⟨v, hv, rfl⟩ := h
    simp only []
    split
    · trivial
    · exact hc
  | copy last lit di n d =>
    cases n with
    | zero => simp only [Option.some.injEq] at h; rw [← h]; trivial
    | succ n =>
      simp only [Option.some.injEq] at h
      rw [← h]
      exact give_bd (show n < 65536 by have h1 : n + 1 < 65536 := hc; omega)
  | done => cases h
  | bad y => cases h
theorem Runs.bd {bs : List Bool} {most : Nat} {c d : Cfg} (h : Runs bs most c d) (hc : Bd c.st) : Bd d.st := by
  induction h with
  | refl => exact hc
  | cons h1 _ ih => exact ih (step_bd h1 hc)
section
variable {B D b R : Nat} {f : Nat → Value} {bs : List Bool} {most : Nat}
theorem step_any (w : World) {c : Cfg} (hI : Is w B D b R f bs c) (hO : Op f) (hm : c.out.length < most) (h8 : bs.length % 8 = 0) (hb : Bd c.st) : ∃ k, f 2 = fnv D k ∧ StepOk k B D b R bs most c w ∧ (k = 14 ∨ k = 22 ∨ k = 28 ∨ k = 25 ∨ k = 35 ∨ k = 44 ∨ k = 52 ∨ k = 24 ∨ k = 34 ∨ k = 42 ∨ k = 50 ∨ k = 54) := by
  obtain ⟨st, pos, out, times⟩ := c
  have hat := hI.at_
  cases st with
  | head last =>
    cases last with
    | true => exact hat.elim
    | false => exact ⟨14, hat, block_s w hI hO h8, by decide⟩
  | slen last => exact ⟨22, hat.1, storedLength_s w hI hO, by decide⟩
  | snot last l => exact hat.elim
  | sraw last n => exact ⟨28, hat.1, storedByte_s w hI hO hm hb, by decide⟩
  | dnum last => exact ⟨25, hat.1, counts_s w hI hO, by decide⟩
  | dfst last a c k i first => exact ⟨35, hat.1, smallLength_s w hI hO, by decide⟩
  | dsym last a c code l => exact ⟨44, hat.1, codeLength_s w hI hO, by decide⟩
  | drep last a c code l s => exact ⟨52, hat.1, runOfLengths_s w hI hO, by decide⟩
  | sym last lit di => exact ⟨24, hat.1, literal_s w hI hO hm, by decide⟩
  | lext last lit di s => exact ⟨34, hat.1, lengthMore_s w hI hO, by decide⟩
  | dist last lit di n => exact ⟨42, hat.1, back_s w hI hO, by decide⟩
  | dext last lit di n x => exact ⟨50, hat.1, backMore_s w hI hO, by decide⟩
  | copy last lit di n d => exact ⟨54, hat.1, copied_s w hI hO hm hb, by decide⟩
  | done => exact hat.elim
  | bad y => exact hat.elim
/-- What a run of steps comes to. -/
def RunTo (B D b R : Nat) (bs : List Bool) (most : Nat) (c : Cfg) (w' : World) : Prop := ∃ f' c', Runs bs most c c' ∧ (Gv w' B D b R f' bs c c' ∨ (Ov w' B D b R f' c' ∧ c'.out = c.out) ∨ (Wt w' B D b R f' bs most c' ∧ c'.out = c.out))
set_option maxHeartbeats 1000000 in
theorem prun_c (w : World) {c : Cfg} (hI : Is w B D b R f bs c) (hO : Op f) (hm : c.out.length < most) (h8 : bs.length % 8 = 0) (hb : Bd c.st) : Calls Tryd.prog 17 #[.pointer (some ⟨D, 0, none⟩)] w fun e w' => e = .returned (.tuple #[]) ∧ Fm B w w' ∧ RunTo B D b R bs most c w' := by
  have A : Aside (c.out.length < most ∧ bs.length % 8 = 0 ∧ Bd c.st) := ⟨hm, h8, hb⟩
  have A0 : Aside (Is w B D b R f bs c ∧ Op f) := ⟨hI, hO⟩
  clear hm h8 hb hI hO
  go_enter Tryd.func17, Tryd.ntmps17
  go_wp2_with fail
  go_loopg [] (mu bs c) (fun gg wr => Aside (∃ f' c', Is wr B D b R f' bs c' ∧ Op f' ∧ Runs bs most c c' ∧ c'.out = c.out ∧ Fm B w wr ∧ mu bs c' = gg))
  case atStart => exact ⟨f, c, A0.out.1, A0.out.2, Runs.refl _, rfl, Fm.refl _ _, rfl⟩
  case round =>
    obtain ⟨f', c', hI, hO, hr, ho, hf, hmu⟩ := hrel.out
    obtain ⟨k, hk2, hst, hks⟩ := step_any (most := most) wr hI hO (by rw [ho]; exact A.out.1) A.out.2.1 (hr.bd A.out.2.2)
    have c2 := (hI.mem.cell (show 2 < 355 by decide)).trans (congrArg some hk2)
    unfold fnv at c2
    unfold StepOk at hst
    have A1 : Aside (Runs bs most c c' ∧ c'.out = c.out ∧ Fm B w wr ∧ mu bs c' = gk) := ⟨hr, ho, hf, hmu⟩
    clear hI hO hr ho hf hmu hk2 hrel
    rcases hks with rfl | rfl | rfl | rfl | rfl | rfl | rfl | rfl | rfl | rfl | rfl | rfl
    all_goals
      go_wp2_with (first
        | (go_at_call 14; refine hst.mono ?_; rintro e2 w2 ⟨_ | _, rfl, hf2, hres⟩)
        | (go_at_call 22; refine hst.mono ?_; rintro e2 w2 ⟨_ | _, rfl, hf2, hres⟩)
        | (go_at_call 28; refine hst.mono ?_; rintro e2 w2 ⟨_ | _, rfl, hf2, hres⟩)
        | (go_at_call 25; refine hst.mono ?_; rintro e2 w2 ⟨_ | _, rfl, hf2, hres⟩)
        | (go_at_call 35; refine hst.mono ?_; rintro e2 w2 ⟨_ | _, rfl, hf2, hres⟩)
        | (go_at_call 44; refine hst.mono ?_; rintro e2 w2 ⟨_ | _, rfl, hf2, hres⟩)
        | (go_at_call 52; refine hst.mono ?_; rintro e2 w2 ⟨_ | _, rfl, hf2, hres⟩)
        | (go_at_call 24; refine hst.mono ?_; rintro e2 w2 ⟨_ | _, rfl, hf2, hres⟩)
        | (go_at_call 34; refine hst.mono ?_; rintro e2 w2 ⟨_ | _, rfl, hf2, hres⟩)
        | (go_at_call 42; refine hst.mono ?_; rintro e2 w2 ⟨_ | _, rfl, hf2, hres⟩)
        | (go_at_call 50; refine hst.mono ?_; rintro e2 w2 ⟨_ | _, rfl, hf2, hres⟩)
        | (go_at_call 54; refine hst.mono ?_; rintro e2 w2 ⟨_ | _, rfl, hf2, hres⟩))
      · go_end0
        obtain ⟨f2, c2', hr2, h⟩ := hres
        have a1 := A1.out
        rcases h with ⟨h, _⟩ | ⟨_, h⟩ | ⟨_, h, ho2⟩ | ⟨_, h, rfl⟩
        · cases h
        · exact ⟨rfl, a1.2.2.1.trans hf2, f2, c2', a1.1.trans hr2, Or.inl ⟨h.is_, h.waits, h.done, h.why, by obtain ⟨x, h1, h2⟩ := h.out; exact ⟨x, h1, by rw [h2, a1.2.1]⟩⟩⟩
        · exact ⟨rfl, a1.2.2.1.trans hf2, f2, c2', a1.1.trans hr2, Or.inr (Or.inl ⟨h, ho2.trans a1.2.1⟩)⟩
        · exact ⟨rfl, a1.2.2.1.trans hf2, f2, _, a1.1, Or.inr (Or.inr ⟨h, a1.2.1⟩)⟩
      · obtain ⟨f2, c2', hr2, h⟩ := hres
        have a1 := A1.out
        rcases h with ⟨_, h1, h2, h3, h4⟩ | ⟨h, _⟩ | ⟨h, _⟩ | ⟨h, _⟩
        · go_roundg (mu bs c2')
          case measure => omega
          case rel => exact ⟨f2, c2', h1, h2, a1.1.trans hr2, h3.trans a1.2.1, a1.2.2.1.trans hf2, rfl⟩
        · cases h
        · cases h
        · cases h
end
end Go.Proofs.YtikdpnpkmmmacabDoor

/-
  The inflater between its calls: what it was handed, where it stands, in which of four ways; and what its calls come to.
-/
namespace Go.Proofs.YtikdpnpkmmmacabDoor
open Go.RowKit
set_option linter.unusedVariables false
/-- What is old stays, but for rows of bytes beyond the inflater's blocks; memory may have come. -/
structure Kp (B : Nat) (w u : World) : Prop where
  size : w.heap.size ≤ u.heap.size
  block : ∀ k, k < w.heap.size → u.heap[k]? = w.heap[k]? ∨ (B + 4 ≤ k ∧ ∃ cs fr, w.heap[k]? = some (.cells cs 5 fr))
theorem Kp.of_below {B C : Nat} {w u : World} (h : Below C w u) (hC : w.heap.size ≤ C) : Kp B w u := ⟨h.size, fun k hk => Or.inl (h.block k (by omega))⟩
theorem Kp.drawn {B : Nat} {w u : World} (h : Drawn w u) : Kp B w u := by
  obtain ⟨n, rfl⟩ := h
  exact ⟨Nat.le_refl _, fun k hk => Or.inl rfl⟩
theorem Tbl.kp {w u : World} {B : Nat} {v : Value} {ls : List Nat} (h : Tbl w B v ls) (k : Kp B w u) : Tbl u B v ls := by
  obtain ⟨lo, hi, T, h1, h2, h3, ⟨g, M, n, q, a1, a2, a3, a4, a5, a6, a7⟩, h5⟩ := h
  have e1 : u.heap[T]? = w.heap[T]? := by
    rcases k.block T (by omega) with e | ⟨_, cs, fr, e⟩
    · exact e
    · have := q.t; unfold Cells at this; rw [this] at e; cases e
  have e2 : u.heap[g]? = w.heap[g]? := by
    rcases k.block g (by omega) with e | ⟨_, cs, fr, e⟩
    · exact e
    · obtain ⟨cs', hc, _⟩ := q.c; unfold Cells at hc; rw [hc] at e; cases e
  have e3 : u.heap[M]? = w.heap[M]? := by
    rcases k.block M (by omega) with e | ⟨_, cs, fr, e⟩
    · exact e
    · obtain ⟨G, ⟨D, ⟨es, cl, hb, _⟩, _⟩, _⟩ := q.m; rw [hb] at e; cases e
  exact ⟨lo, hi, T, h1, h2, Nat.le_trans h3 k.size, ⟨g, M, n, q.heap e1 e2 e3, a1, a2, a3, a4, a5, a6, a7⟩, h5⟩
section
variable {w u : World} {B D b R : Nat} {f : Nat → Value} {bs : List Bool} {most : Nat}
theorem Bs.kp {h : List Bool} {l : List Int} (s : Bs w B D b R f h l) (k : Kp B w u) : Bs u B D b R f h l := by
  have := s.lt
  refine s.keep fun i h1 h2 => ?_
  rcases k.block i (by omega) with e | ⟨h3, _⟩
  · exact e
  · omega
theorem Fx.kp (h : Fx w B f) (k : Kp B w u) : Fx u B f := by
  rcases h with h | ⟨h, h'⟩
  · exact Or.inl h
  · exact Or.inr ⟨h.kp k, h'.kp k⟩
theorem Kp.below (k : Kp B w u) (hos : u.os = w.os) (ht : u.tape = w.tape) (ho : u.output = w.output) (hB : B ≤ w.heap.size) : Below B w u := ⟨hos, ht, ho, k.size, fun i hi => by
  rcases k.block i (by omega) with e | ⟨h3, _⟩
  · exact e
  · omega⟩
theorem Tabs.kp (h : Tabs w) (k : Kp B w u) (hB : 7 ≤ B) (hs : B ≤ w.heap.size) : Tabs u := by
  have hc : ∀ p : Addr, p.block < 7 → u.cell? p = w.cell? p := fun p hp => World.cell?_of_block (w := w) (by
    rcases k.block p.block (by omega) with e | ⟨h3, _⟩
    · exact e
    · omega)
  exact ⟨fun i hi => (hc ⟨0, i, none⟩ (show 0 < 7 by decide)).trans (h.t0 i hi), fun i hi => (hc ⟨1, i, none⟩ (show 1 < 7 by decide)).trans (h.t1 i hi), fun i hi => (hc ⟨2, i, none⟩ (show 2 < 7 by decide)).trans (h.t2 i hi), fun i hi => (hc ⟨3, i, none⟩ (show 3 < 7 by decide)).trans (h.t3 i hi), fun i hi => (hc ⟨4, i, none⟩ (show 4 < 7 by decide)).trans (h.t4 i hi), fun i hi => (hc ⟨5, i, none⟩ (show 5 < 7 by decide)).trans (h.t5 i hi), fun i hi => (hc ⟨6, i, none⟩ (show 6 < 7 by decide)).trans (h.t6 i hi)⟩
theorem Pl.kp {a c : Nat} {code l : List Nat} (h : Pl w B f a c code l) (k : Kp B w u) : Pl u B f a c code l := ⟨h.a1, h.a2, h.b1, h.b2, h.c8, h.c9, h.have_, h.len, h.row, h.tbl.kp k, h.code⟩
theorem At.kp {n : Nat} {st : St} (h : At w B D f n st) (k : Kp B w u) : At u B D f n st := by
  cases st with
  | head last => cases last <;> exact h
  | dsym last a b code l => exact ⟨h.1, h.2.1, h.2.2.kp k⟩
  | drep last a b code l s => exact ⟨h.1, h.2.1, h.2.2.1.kp k, h.2.2.2⟩
  | sym last lit di => exact ⟨h.1, h.2.1, h.2.2.1.kp k, h.2.2.2.kp k⟩
  | lext last lit di s => exact ⟨h.1, h.2.1, h.2.2.1.kp k, h.2.2.2.1.kp k, h.2.2.2.2⟩
  | dist last lit di m => exact ⟨h.1, h.2.1, h.2.2.1.kp k, h.2.2.2.1.kp k, h.2.2.2.2⟩
  | dext last lit di m x => exact ⟨h.1, h.2.1, h.2.2.1.kp k, h.2.2.2.1.kp k, h.2.2.2.2⟩
  | copy last lit di m d => exact ⟨h.1, h.2.1, h.2.2.1.kp k, h.2.2.2.1.kp k, h.2.2.2.2⟩
  | _ => exact h
theorem Is.kp {c : Cfg} (h : Is w B D b R f bs c) (k : Kp B w u) : Is u B D b R f bs c :=
  ⟨h.mem.kp k, h.at_.kp k, h.fx.kp k, h.tabs.kp k h.b7 (by have := h.mem.lt; omega), h.le, h.b7⟩
theorem Ov.kp {c : Cfg} (h : Ov w B D b R f c) (k : Kp B w u) : Ov u B D b R f c := by
  obtain ⟨hh, l, s⟩ := h.mem
  exact ⟨⟨hh, l, s.kp k⟩, h.waits, h.how, h.fx.kp k, h.tabs.kp k h.b7 (by have := s.lt; omega), h.b7⟩
end
/-- Where it begins. -/
def c0 : Cfg := ⟨.head false, 0, [], []⟩
/-- A byte waits; more is wanted; it is over; it was shut. -/
inductive Md where
  | wait (x : Nat)
  | want
  | over
  | shut
/-- The inflater, handed the bytes I, stands at c. -/
def Inf (w : World) (B D b R : Nat) (I : List Nat) (M : Nat) (c : Cfg) (q : Md) : Prop := Runs (allb I) M c0 c ∧ match q with
  | .wait x => ∃ f, Is w B D b R f (allb I) c ∧ f 352 = .bool true ∧ f 353 = .bool false ∧ f 354 = .int .i64 0 ∧ f 351 = .int .u8 (x : Int) ∧ ∃ p, c.out = p ++ [x]
  | .want => ∃ f, Wt w B D b R f (allb I) M c
  | .over => ∃ f, Ov w B D b R f c
  | .shut => ∃ f h l, Bs w B D b R f h l ∧ f 352 = .bool false ∧ f 353 = .bool false ∧ f 354 = .int .i64 1 ∧ Fx w B f ∧ Tabs w ∧ 7 ≤ B
section
variable {w u : World} {B D b R : Nat} {I : List Nat} {M : Nat} {c : Cfg} {q : Md}
theorem Inf.kp (h : Inf w B D b R I M c q) (k : Kp B w u) : Inf u B D b R I M c q := by
  refine ⟨h.1, ?_⟩
  have h2 := h.2
  cases q with
  | wait x =>
    obtain ⟨f, h3, h4⟩ := h2
    exact ⟨f, h3.kp k, h4⟩
  | want =>
    obtain ⟨f, h3⟩ := h2
    exact ⟨f, h3.is_.kp k, h3.op, h3.few, h3.z⟩
  | over =>
    obtain ⟨f, h3⟩ := h2
    exact ⟨f, h3.kp k⟩
  | shut =>
    obtain ⟨f, h, l, h3, h4, h5, h6, h7, h8, h9⟩ := h2
    exact ⟨f, h, l, h3.kp k, h4, h5, h6, h7.kp k, h8.kp k h9 (by have := h3.lt; omega), h9⟩
theorem Inf.mem (h : Inf w B D b R I M c q) : ∃ f hh l, Bs w B D b R f hh l ∧ Fx w B f ∧ Tabs w ∧ 7 ≤ B := by
  have h2 := h.2
  cases q with
  | wait x => obtain ⟨f, h3, _⟩ := h2; exact ⟨f, _, _, h3.mem, h3.fx, h3.tabs, h3.b7⟩
  | want => obtain ⟨f, h3⟩ := h2; exact ⟨f, _, _, h3.is_.mem, h3.is_.fx, h3.is_.tabs, h3.is_.b7⟩
  | over => obtain ⟨f, h3⟩ := h2; obtain ⟨hh, l, s⟩ := h3.mem; exact ⟨f, hh, l, s, h3.fx, h3.tabs, h3.b7⟩
  | shut => obtain ⟨f, hh, l, h3, _, _, _, h4, h5, h6⟩ := h2; exact ⟨f, hh, l, h3, h4, h5, h6⟩
theorem Inf.lt (h : Inf w B D b R I M c q) : B + 4 ≤ w.heap.size := by obtain ⟨f, hh, l, s, _⟩ := h.mem; exact s.lt
theorem allb_len8 (I : List Nat) : (allb I).length % 8 = 0 := by rw [allb_len]; omega
/-- What a run of steps comes to, told of the inflater. -/
theorem RunTo.inf (h : RunTo B D b R (allb I) M c w) (hr : Runs (allb I) M c0 c) : ∃ c', Runs (allb I) M c c' ∧ ((∃ x, Inf w B D b R I M c' (.wait x) ∧ c'.out = c.out ++ [x]) ∨ (Inf w B D b R I M c' .over ∧ c'.out = c.out) ∨ (Inf w B D b R I M c' .want ∧ c'.out = c.out)) := by
  obtain ⟨f, c', h1, h2⟩ := h
  refine ⟨c', h1, ?_⟩
  rcases h2 with h2 | ⟨h2, h3⟩ | ⟨h2, h3⟩
  · obtain ⟨x, hx, ho⟩ := h2.out
    exact Or.inl ⟨x, ⟨hr.trans h1, f, h2.is_, h2.waits, h2.done, h2.why, hx, _, ho⟩, ho⟩
  · exact Or.inr (Or.inl ⟨⟨hr.trans h1, f, h2⟩, h3⟩)
  · exact Or.inr (Or.inr ⟨⟨hr.trans h1, f, h2⟩, h3⟩)
end
section
variable {w : World} {B D b R : Nat} {f : Nat → Value} {h : List Bool} {l : List Int}
theorem open_yes (w : World) (s : Bs w B D b R f h l) (hO : Op f) : Calls Tryd.prog 15 #[.pointer (some ⟨D, 0, none⟩)] w fun e w' => e = .returned (.bool true) ∧ w = w' := by
  have c1 := (s.cell (show 352 < 355 by decide)).trans (congrArg some hO.waits)
  have c2 := (s.cell (show 353 < 355 by decide)).trans (congrArg some hO.done)
  have c3 := (s.cell (show 354 < 355 by decide)).trans (congrArg some hO.why)
  clear s hO
  go_enter Tryd.func15, Tryd.ntmps15
  go_wp2_with fail
  first | go_ret | go_ret2
  exact ⟨rfl, rfl⟩
theorem open_wait (w : World) (s : Bs w B D b R f h l) (h1 : f 352 = .bool true) : Calls Tryd.prog 15 #[.pointer (some ⟨D, 0, none⟩)] w fun e w' => e = .returned (.bool false) ∧ w = w' := by
  have c1 := (s.cell (show 352 < 355 by decide)).trans (congrArg some h1)
  clear s h1
  go_enter Tryd.func15, Tryd.ntmps15
  go_wp2_with fail
  first | go_ret | go_ret2
  exact ⟨rfl, rfl⟩
theorem open_done (w : World) (s : Bs w B D b R f h l) (h1 : f 352 = .bool false) (h2 : f 353 = .bool true) : Calls Tryd.prog 15 #[.pointer (some ⟨D, 0, none⟩)] w fun e w' => e = .returned (.bool false) ∧ w = w' := by
  have c1 := (s.cell (show 352 < 355 by decide)).trans (congrArg some h1)
  have c2 := (s.cell (show 353 < 355 by decide)).trans (congrArg some h2)
  clear s h1 h2
  go_enter Tryd.func15, Tryd.ntmps15
  go_wp2_with fail
  first | go_ret | go_ret2
  exact ⟨rfl, rfl⟩
theorem open_why (y : Nat) (w : World) (s : Bs w B D b R f h l) (h1 : f 352 = .bool false) (h2 : f 353 = .bool false) (h3 : f 354 = .int .i64 (y : Int)) (hy : y ≠ 0) : Calls Tryd.prog 15 #[.pointer (some ⟨D, 0, none⟩)] w fun e w' => e = .returned (.bool false) ∧ w = w' := by
  have c1 := (s.cell (show 352 < 355 by decide)).trans (congrArg some h1)
  have c2 := (s.cell (show 353 < 355 by decide)).trans (congrArg some h2)
  have c3 := (s.cell (show 354 < 355 by decide)).trans (congrArg some h3)
  have t : ((y : Int) == 0) = false := by rw [beq_eq_false_iff_ne]; omega
  clear s h1 h2 h3 hy
  go_enter Tryd.func15, Tryd.ntmps15
  go_wp2_with fail
  first | go_ret | go_ret2
  exact ⟨rfl, rfl⟩
end
section
variable {B D b R : Nat} {I : List Nat} {M : Nat} {c : Cfg} {q : Md}
/-- open tells whether more is wanted. -/
theorem popen_c (w : World) (h : Inf w B D b R I M c q) (t : Bool) (ht : (t = true ∧ q = .want) ∨ (t = false ∧ q ≠ .want)) : Calls Tryd.prog 15 #[.pointer (some ⟨D, 0, none⟩)] w fun e w' => e = .returned (.bool t) ∧ w = w' := by
  have h2 := h.2
  rcases ht with ⟨rfl, rfl⟩ | ⟨rfl, hq⟩
  · obtain ⟨f, h3⟩ := h2
    exact open_yes w h3.is_.mem h3.op
  · cases q with
    | wait x => obtain ⟨f, h3, h4, _⟩ := h2; exact open_wait w h3.mem h4
    | want => exact absurd rfl hq
    | over =>
      obtain ⟨f, h3⟩ := h2
      obtain ⟨hh, l, s⟩ := h3.mem
      rcases h3.how with ⟨_, h4, _⟩ | ⟨y, _, h4, h5, h6⟩
      · exact open_done w s h3.waits h4
      · exact open_why y w s h3.waits h4 h5 h6
    | shut => obtain ⟨f, hh, l, s, h3, h4, h5, _⟩ := h2; exact open_why 1 w s h3 h4 h5 (by decide)
theorem put_shut (x : Nat) (w : World) (h : Inf w B D b R I M c q) (hq : q ≠ .want) : Calls Tryd.prog 8 #[.pointer (some ⟨D, 0, none⟩), .int .u8 (x : Int)] w fun e w' => e = .returned (.bool false) ∧ w = w' := by
  have ho := popen_c w h false (Or.inr ⟨rfl, hq⟩)
  clear h
  go_enter Tryd.func8, Tryd.ntmps8
  go_wp2_with (go_at_call 15; refine ho.mono ?_; rintro e2 w2 ⟨rfl, rfl⟩)
  first | go_ret | go_ret2
  exact ⟨rfl, rfl⟩
theorem end_shut (w : World) (h : Inf w B D b R I M c q) (hq : q ≠ .want) : Calls Tryd.prog 10 #[.pointer (some ⟨D, 0, none⟩)] w fun e w' => e = .returned (.tuple #[]) ∧ w = w' := by
  have ho := popen_c w h false (Or.inr ⟨rfl, hq⟩)
  clear h
  go_enter Tryd.func10, Tryd.ntmps10
  go_wp2_with (go_at_call 15; refine ho.mono ?_; rintro e2 w2 ⟨rfl, rfl⟩)
  go_end0
  exact ⟨rfl, rfl⟩
theorem end_open (w : World) (h : Inf w B D b R I M c .want) : Calls Tryd.prog 10 #[.pointer (some ⟨D, 0, none⟩)] w fun e w' => e = .returned (.tuple #[]) ∧ Inf w' B D b R I M c .shut ∧ Fm B w w' := by
  have ho := popen_c w h true (Or.inl ⟨rfl, rfl⟩)
  obtain ⟨hr, f, h3⟩ := id h
  have hst := pstop_c 1 w h3.is_.mem
  have A : Aside (Runs (allb I) M c0 c ∧ Wt w B D b R f (allb I) M c) := ⟨hr, h3⟩
  clear h hr h3
  go_enter Tryd.func10, Tryd.ntmps10
  go_wp2_with (first
    | (go_at_call 15; refine ho.mono ?_; rintro e2 w2 ⟨rfl, rfl⟩)
    | (go_at_call 18; refine hst.mono ?_; rintro e3 w3 ⟨rfl, hb3, hf3⟩))
  go_end0
  have a := A.out
  exact ⟨rfl, ⟨a.1, _, _, _, hb3, a.2.op.waits, a.2.op.done, rfl, a.2.is_.fx.fm hf3 rfl rfl, a.2.is_.tabs.below (hf3.below (by have := a.2.is_.mem.lt; omega)) a.2.is_.b7, a.2.is_.b7⟩, hf3⟩
/-- What is told of an end. -/
def doneM (q : Md) (c : Cfg) : Bool := match q with
  | .over => endC c
  | _ => false
def whyM (q : Md) (c : Cfg) : Nat := match q with
  | .over => whyC c
  | .shut => 1
  | _ => 0
theorem reason_c (w : World) (h : Inf w B D b R I M c q) : Calls Tryd.prog 11 #[.pointer (some ⟨D, 0, none⟩)] w fun e w' => e = .returned (.int .i64 (whyM q c : Nat)) ∧ w = w' := by
  obtain ⟨t, ht⟩ : ∃ t, whyM q c = t := ⟨_, rfl⟩
  have c3 : w.cell? ⟨D, 354, none⟩ = some (.int .i64 (t : Int)) := by
    have h2 := h.2
    cases q with
    | wait x => obtain ⟨f, h3, _, _, h4, _⟩ := h2; rw [h3.mem.cell (show 354 < 355 by decide), h4, ← ht]; rfl
    | want => obtain ⟨f, h3⟩ := h2; rw [h3.is_.mem.cell (show 354 < 355 by decide), h3.op.why, ← ht]; rfl
    | over =>
      obtain ⟨f, h3⟩ := h2
      obtain ⟨hh, l, s⟩ := h3.mem
      rw [s.cell (show 354 < 355 by decide), ← ht]
      rcases h3.how with ⟨e, h4, h5⟩ | ⟨y, e, h4, h5, h6⟩
      · rw [h5]; unfold whyM whyC; rw [e]; rfl
      · rw [h5]; unfold whyM whyC; rw [e]
    | shut => obtain ⟨f, hh, l, s, _, _, h4, _⟩ := h2; rw [s.cell (show 354 < 355 by decide), h4, ← ht]; rfl
  rw [ht]
  clear h ht
  go_enter Tryd.func11, Tryd.ntmps11
  go_wp2_with fail
  first | go_ret | go_ret2
  exact ⟨rfl, rfl⟩
end
end Go.Proofs.YtikdpnpkmmmacabDoor

/-
  What Put, Next and New of the inflater come to.
-/
namespace Go.Proofs.YtikdpnpkmmmacabDoor
open Go.RowKit
set_option linter.unusedVariables false
theorem allb_one (x : Nat) : allb [x] = bitsOf 8 x := by simp [allb]
section
variable {B D b R : Nat} {I : List Nat} {M : Nat} {c : Cfg}
/-- What a call that goes on comes to. -/
def Goes (B D b R : Nat) (I : List Nat) (M : Nat) (c : Cfg) (w' : World) : Prop := ∃ c', Runs (allb I) M c c' ∧ ((∃ x, Inf w' B D b R I M c' (.wait x) ∧ c'.out = c.out ++ [x]) ∨ (Inf w' B D b R I M c' .over ∧ c'.out = c.out) ∨ (Inf w' B D b R I M c' .want ∧ c'.out = c.out))
set_option maxHeartbeats 1000000 in
theorem put_open (x : Nat) (hx : x < 256) (w : World) (h : Inf w B D b R I M c .want) (hm : c.out.length < M) : Calls Tryd.prog 8 #[.pointer (some ⟨D, 0, none⟩), .int .u8 (x : Int)] w fun e w' => e = .returned (.bool true) ∧ Fm B w w' ∧ Goes B D b R (I ++ [x]) M c w' := by
  have ho := popen_c w h true (Or.inl ⟨rfl, rfl⟩)
  obtain ⟨hr, f, h3⟩ := id h
  have hmem := h3.is_.mem
  have hle := h3.is_.le
  have hfew := h3.few
  have hlen : ((allb I).drop (ep c)).length ≤ 56 := by rw [List.length_drop]; omega
  have hput := put_yes b (nm ((allb I).drop (ep c))) ((allb I).drop (ep c)).length x w hmem.br hlen hx
  have hbits : nm ((allb I).drop (ep c)) + x * 2 ^ ((allb I).drop (ep c)).length = nm ((allb (I ++ [x])).drop (ep c)) ∧ ((allb I).drop (ep c)).length + 8 = ((allb (I ++ [x])).drop (ep c)).length := by
    rw [allb_append, List.drop_append_of_le_length hle, allb_one, nm_append, nm_byte x hx, List.length_append, bitsOf_length]
    exact ⟨rfl, rfl⟩
  rw [hbits.1, hbits.2] at hput
  have c0' := (hmem.cell (show 0 < 355 by decide)).trans (congrArg some hmem.c0)
  have hr2 : Runs (allb (I ++ [x])) M c0 c := runs_agree hr (by rw [allb_append]; exact Agree.append _ _ (runs_ends hr (Nat.zero_le _)))
  have hbd : Bd c.st := hr.bd trivial
  have A : Aside (Wt w B D b R f (allb I) M c ∧ Runs (allb (I ++ [x])) M c0 c ∧ Bd c.st ∧ c.out.length < M) := ⟨h3, hr2, hbd, hm⟩
  clear h hr h3 hmem hle hfew hlen hbits hr2 hbd hm
  go_enter Tryd.func8, Tryd.ntmps8
  go_upto_region 4 with (first
    | (go_at_call 15; refine ho.mono ?_; rintro e2 w2 ⟨rfl, rfl⟩)
    | (go_at_call 16; refine hput.mono ?_; rintro e3 w3 ⟨rfl, hb3, ho3⟩))
  have a := A.out
  have hf3 : Fm B w w3 := Fm.of_only ho3 (by have := a.1.is_.mem.eb; omega) (by have := a.1.is_.mem.eb; omega)
  have is3 : Is w3 B D b R f (allb (I ++ [x])) c := ⟨a.1.is_.mem.onb ho3 hb3, a.1.is_.at_.mono hf3 (fun _ _ _ _ _ => rfl), a.1.is_.fx.fm hf3 rfl rfl, a.1.is_.tabs.below (hf3.below (by have := a.1.is_.mem.lt; omega)) a.1.is_.b7, by have := a.1.is_.le; rw [allb_append, List.length_append]; omega, a.1.is_.b7⟩
  have hrun := prun_c (most := M) w3 is3 a.1.op a.2.2.2 (allb_len8 _) a.2.2.1
  have A3 : Aside (Fm B w w3) := hf3
  clear a hf3 is3 hb3 ho3 hput ho c0'
  go_wp2_with (go_at_call 17; refine hrun.mono ?_; rintro e4 w4 ⟨rfl, hf4, hto⟩)
  first | go_ret | go_ret2
  exact ⟨rfl, A3.out.trans hf4, hto.inf A.out.2.1⟩
theorem next_no {q : Md} (w : World) (h : Inf w B D b R I M c q) (hq : ∀ x, q ≠ .wait x) : Calls Tryd.prog 9 #[.pointer (some ⟨D, 0, none⟩)] w fun e w' => e = .returned (.tuple #[.int .u8 0, .bool false]) ∧ w = w' := by
  have c1 : w.cell? ⟨D, 352, none⟩ = some (.bool false) := by
    have h2 := h.2
    cases q with
    | wait x => exact absurd rfl (hq x)
    | want => obtain ⟨f, h3⟩ := h2; exact (h3.is_.mem.cell (show 352 < 355 by decide)).trans (congrArg some h3.op.waits)
    | over => obtain ⟨f, h3⟩ := h2; obtain ⟨hh, l, s⟩ := h3.mem; exact (s.cell (show 352 < 355 by decide)).trans (congrArg some h3.waits)
    | shut => obtain ⟨f, hh, l, s, h4, _⟩ := h2; exact (s.cell (show 352 < 355 by decide)).trans (congrArg some h4)
  clear h hq
  go_enter Tryd.func9, Tryd.ntmps9
  go_wp2_with fail
  first | go_ret | go_ret2
  exact ⟨rfl, rfl⟩
set_option maxHeartbeats 1000000 in
theorem next_yes (x : Nat) (w : World) (h : Inf w B D b R I M c (.wait x)) (hm : c.out.length < M) : Calls Tryd.prog 9 #[.pointer (some ⟨D, 0, none⟩)] w fun e w' => e = .returned (.tuple #[.int .u8 (x : Int), .bool true]) ∧ Fm B w w' ∧ Goes B D b R I M c w' := by
  obtain ⟨hr, f, h3, h4, h5, h6, h7, _⟩ := id h
  have hmem := h3.mem
  have c1 := (hmem.cell (show 352 < 355 by decide)).trans (congrArg some h4)
  have c2 := (hmem.cell (show 351 < 355 by decide)).trans (congrArg some h7)
  have z1 := hmem.fz 352
  have z2 := hmem.fz 351
  have hs2 := (hmem.set 351 (.int .u8 0) (by decide)).set 352 (.bool false) (by decide)
  have hf2 : Fm B w ((w.setCell ⟨D, 351, none⟩ (.int .u8 0)).setCell ⟨D, 352, none⟩ (.bool false)) := hmem.fmD (((Only.refl D w).setCell 351 _).setCell 352 _)
  have is2 := h3.to hf2 hs2 (h3.at_.mono hf2 fun i _ hi _ _ => by rw [upd_ne _ _ (by omega), upd_ne _ _ (by omega)]) rfl rfl h3.le
  have hrun := prun_c (most := M) _ is2 ⟨upd_same _ _ _, (by rw [upd_ne _ _ (by decide), upd_ne _ _ (by decide)]; exact h5), (by rw [upd_ne _ _ (by decide), upd_ne _ _ (by decide)]; exact h6)⟩ hm (allb_len8 _) (hr.bd trivial)
  have A : Aside (Runs (allb I) M c0 c ∧ Fm B w ((w.setCell ⟨D, 351, none⟩ (.int .u8 0)).setCell ⟨D, 352, none⟩ (.bool false))) := ⟨hr, hf2⟩
  clear h hr h3 h4 h5 h6 h7 hmem hs2 hf2 is2 hm
  go_enter Tryd.func9, Tryd.ntmps9
  go_wp2_with (go_at_call 17; refine hrun.mono ?_; rintro e4 w4 ⟨rfl, hf4, hto⟩)
  first | go_ret | go_ret2
  exact ⟨rfl, A.out.2.trans hf4, hto.inf A.out.1⟩
/-- A new one wants bytes. -/
theorem want_new {w : World} {f : Nat → Value} (hs : Bs w B D b R f [] []) (h2 : f 2 = fnv D 14) (h1 : f 352 = .bool false) (h3 : f 353 = .bool false) (h4 : f 354 = .int .i64 0) (hx : Fx w B f) (ht : Tabs w) (h7 : 7 ≤ B) : Inf w B D b R [] M c0 .want := by
  refine ⟨Runs.refl _, f, ⟨hs, h2, hx, ht, Nat.zero_le _, h7⟩, ⟨h1, h3, h4⟩, by decide, c0, Runs.refl _, rfl, rfl, fun y => by simp [c0], by simp [c0]⟩
end
theorem zc73 (b R : Nat) : (Tryd.zeroCells50.setIfInBounds 0 (.pointer (some ⟨b, 0, none⟩))).setIfInBounds 1 (.pointer (some ⟨R, 0, none⟩)) = cz (nf b R (.pointer none) (.pointer none)) := by kernel_rfl
set_option maxRecDepth 100000 in
set_option maxHeartbeats 1000000 in
theorem new_i (M : Nat) (w : World) (ht : Tabs w) : Calls Tryd.prog 7 #[] w fun e w' => e = .returned (.pointer (some ⟨w.heap.size + 3, 0, none⟩)) ∧ Inf w' w.heap.size (w.heap.size + 3) (w.heap.size + 2) (w.heap.size + 1) [] M c0 .want ∧ Below w.heap.size w w' := by
  have hring := gnew_r 32768 w (by decide) (by decide)
  have AT : Aside (Tabs w) := ht
  clear ht
  obtain ⟨B, hB⟩ : ∃ B, w.heap.size = B := ⟨_, rfl⟩
  rw [hB] at hring ⊢
  have AB : Aside (w.heap.size = B) := hB
  clear hB
  go_enter Tryd.func7, Tryd.ntmps7
  go_upto_region 2 with (go_at_call 12; refine hring.mono ?_; rintro e2 w2 ⟨rfl, hr2, hb2, hz2⟩)
  have hbits := new_b w2
  rw [hz2] at hbits
  have A2 : Aside (GRg w2 (B + 1) B 32768 [] ∧ Below B w w2 ∧ w2.heap.size = B + 2) := ⟨hr2, hb2, hz2⟩
  clear hr2 hb2 hz2 hring
  obtain ⟨cs, hcs⟩ : ∃ cs, cs = cz (nf (B + 2) (B + 1) (.pointer none) (.pointer none)) := ⟨_, rfl⟩
  have hz := zc73 (B + 2) (B + 1)
  rw [← hcs] at hz
  go_upto_region 3 with (go_at_call 13; refine hbits.mono ?_; rintro e3 w3 ⟨rfl, hb3, hbel3, hz3⟩)
  have a2 := A2.out
  obtain ⟨w4, hw4⟩ : ∃ w4, w3.alloc (.cells (cz (nf (B + 2) (B + 1) (.pointer none) (.pointer none))) 50) = w4 := ⟨_, rfl⟩
  have hk4 : Cells w4 (B + 2 + 1) (cz (nf (B + 2) (B + 1) (.pointer none) (.pointer none))) 50 := by
    rw [← hw4]
    have := Cells.new w3 (cz (nf (B + 2) (B + 1) (.pointer none) (.pointer none))) 50
    rwa [hz3] at this
  have bel4 : Below w3.heap.size w3 w4 := by rw [← hw4]; exact (Below.refl _ w3).alloc (Nat.le_refl _) _
  have s4 : Bs w4 B (B + 2 + 1) (B + 2) (B + 1) (nf (B + 2) (B + 1) (.pointer none) (.pointer none)) [] [] :=
    ⟨hk4, rfl, rfl, hb3.below bel4 (by omega), (a2.1.below hbel3 (by omega) (by omega)).below bel4 (by omega) (by omega), rfl, rfl, rfl⟩
  have belA : Below B w w4 := (a2.2.1.trans (hbel3.mono (by omega))).trans (bel4.mono (by omega))
  rw [hw4]
  obtain ⟨Dd, hDd⟩ : ∃ Dd, B + 2 + 1 = Dd := ⟨_, rfl⟩
  rw [hDd] at s4 hk4 ⊢
  have d2 := s4.cell (show 2 < 355 by decide)
  have z2 := s4.fz 2
  have e2 : nf (B + 2) (B + 1) (.pointer none) (.pointer none) 2 = .nilFunc := rfl
  rw [e2] at d2
  have A4 : Aside (Bs w4 B Dd (B + 2) (B + 1) (nf (B + 2) (B + 1) (.pointer none) (.pointer none)) [] [] ∧ Below B w w4 ∧ B + 2 + 1 = Dd) := ⟨s4, belA, hDd⟩
  clear a2 hw4 hk4 bel4 s4 belA hDd e2 hb3 hbel3 hz3 hbits hz hcs
  go_wp2_with fail
  first | go_ret | go_ret2
  have a := A4.out
  have hB := AB.out
  have ht := AT.out
  have h7 : 7 ≤ B := by have := ht.lt; omega
  have s5 := a.1.set 2 (fnv Dd 14) (by decide)
  have o5 : Only Dd w4 (w4.setCell ⟨Dd, 2, none⟩ (fnv Dd 14)) := (Only.refl Dd w4).setCell 2 _
  have b5 : Below B w (w4.setCell ⟨Dd, 2, none⟩ (fnv Dd 14)) := a.2.1.trans (o5.below (by omega))
  refine ⟨by rw [← a.2.2]; rfl, ?_, b5⟩
  have hD : B + 3 = Dd := a.2.2
  rw [hD]
  exact want_new s5 (upd_same _ _ _) rfl rfl rfl (Or.inl rfl) (ht.below b5 h7) h7
end Go.Proofs.YtikdpnpkmmmacabDoor

/-
  Lists of bytes of a call's own, beyond the inflater's blocks: append, and what is kept by it.
-/
namespace Go.Proofs.YtikdpnpkmmmacabDoor
open Go.RowKit
set_option linter.unusedVariables false
/-- Bytes as cells. -/
def ob (l : List Nat) : List Value := l.map fun x : Nat => Value.int .u8 (x : Int)
theorem ob_length (l : List Nat) : (ob l).length = l.length := by simp [ob]
theorem ob_get (l : List Nat) (j : Nat) : (ob l)[j]? = (l[j]?).map fun x : Nat => Value.int .u8 (x : Int) := by simp [ob]
theorem ob_append (l m : List Nat) : ob l ++ ob m = ob (l ++ m) := by simp [ob]
theorem ob_one {l : List Nat} : ∀ u ∈ ob l, u.oneCell' = true := by
  intro u hu
  obtain ⟨x, _, rfl⟩ := List.mem_map.1 hu
  rfl
/-- A list of bytes of the call's own, in a block from lo on. -/
structure Ob (w : World) (lo : Nat) (v : Value) (l : List Nat) : Prop where
  own : w.ownsRow lo 5 1 v l.length (ob l)
  le : lo ≤ w.heap.size
theorem Ob.nil {w : World} {lo : Nat} (h : lo ≤ w.heap.size) : Ob w lo (.slice none 0 0) [] := ⟨⟨rfl, Or.inl ⟨rfl, rfl⟩⟩, h⟩
theorem Ob.made {w : World} {lo : Nat} (h : lo ≤ w.heap.size) : Ob (w.alloc (.cells #[] 5)) lo (.slice (some ⟨w.heap.size, 0, none⟩) 0 0) [] :=
  ⟨World.ownsRow_made (base := lo) (e := 5) (size := 1) w #[] 0 h (by decide) rfl, by show _ ≤ (w.heap.push _).size; simp; omega⟩
theorem Ob.keep {w u : World} {lo : Nat} {v : Value} {l : List Nat} (h : Ob w lo v l) (hs : w.heap.size ≤ u.heap.size) (k : ∀ g, lo ≤ g → g < w.heap.size → u.heap[g]? = w.heap[g]?) : Ob u lo v l := by
  refine ⟨⟨h.own.1, ?_⟩, Nat.le_trans h.le hs⟩
  rcases h.own.2 with q | ⟨g, c, cur, hv, hg, hh, q⟩
  · exact Or.inl q
  · have hlt : g < w.heap.size := (Array.getElem?_eq_some_iff.1 hh).1
    exact Or.inr ⟨g, c, cur, hv, hg, (k g hg hlt).trans hh, q⟩
theorem Ob.fm {w u : World} {B lo : Nat} {v : Value} {l : List Nat} (h : Ob w lo v l) (k : Fm B w u) (hlo : B + 4 ≤ lo) : Ob u lo v l := h.keep k.size fun g h1 h2 => k.block g h2 (Or.inr (by omega))
theorem Ob.below {w u : World} {C lo : Nat} {v : Value} {l : List Nat} (h : Ob w lo v l) (k : Below C w u) (hC : w.heap.size ≤ C) : Ob u lo v l := h.keep k.size fun g h1 h2 => k.block g (by omega)
theorem Ob.drewN {w : World} {lo : Nat} {v : Value} {l : List Nat} (h : Ob w lo v l) (n : Nat) : Ob (w.drewN n) lo v l := ⟨h.own, h.le⟩
theorem Ob.drew {w : World} {lo : Nat} {v : Value} {l : List Nat} (h : Ob w lo v l) : Ob w.drew lo v l := ⟨h.own, h.le⟩
theorem Ob.shape {w : World} {lo : Nat} {v : Value} {l : List Nat} (h : Ob w lo v l) : ∃ a c, v = .slice a l.length c ∧ l.length ≤ c ∧ Lies w a l ∧ (a = none → l.length = 0 ∧ c = 0) := by
  rcases h.own.2 with ⟨hv, h0⟩ | ⟨g, c, cur, hv, hg, hh, hc, hm, hs, ht⟩
  · refine ⟨none, 0, by rw [hv, h0], by omega, Or.inl (List.eq_nil_of_length_eq_zero h0), fun _ => ⟨h0, rfl⟩⟩
  · refine ⟨_, c, hv, hc, Or.inr ⟨g, 0, rfl, fun i x hx => ?_⟩, fun h => by cases h⟩
    rw [Nat.zero_add, Cells.cell (cs := cur) (t := 5) hh]
    have hi : i < l.length := (List.getElem?_eq_some_iff.1 hx).1
    have e : (cur.toList.take (l.length * 1))[i]? = some (.int .u8 (x : Int)) := by rw [ht, ob_get, hx]; rfl
    rw [List.getElem?_take, if_pos (by omega)] at e
    simpa using e
theorem Ob.own_shape {w : World} {lo : Nat} {v : Value} {l : List Nat} (h : Ob w lo v l) : v.ownBlock = none ∨ ∃ g cur, v.ownBlock = some g ∧ lo ≤ g ∧ w.heap[g]? = some (.cells cur 5 (0, 0)) := by
  rcases h.own.2 with ⟨rfl, h0⟩ | ⟨g, c, cur, rfl, hg, hh, _⟩
  · left; rfl
  · right; exact ⟨g, cur, rfl, hg, hh⟩
/-- What an append comes to. -/
structure Ap (B lo : Nat) (w w' : World) (v' : Value) (l : List Nat) : Prop where
  ob_ : Ob w' lo v' l
  kp : Kp B w w'
  bel : Below lo w w'
theorem wpList_ob (B : Nat) (w : World) {ops : Array Oper} {rest : List Oper} {o : Oper} {a : Act} {Q : Exit → Act → World → Prop} (hgd : o.guard = none) (s x : Operand)
    (ho : o.op = .call { callee := .builtin .append, args := #[s, x], argTypes := #[22, 22] }) (lo : Nat) (v : Value) (l : List Nat) (hs : a.eval s = v) (hown : Ob w lo v l) (hB : B + 4 ≤ lo)
    (ax : Option Addr) (m : List Nat) (n c : Nat) (hnm : m.length = n) (hx : a.eval x = .slice ax n c) (hz : ax = none → n = 0 ∧ c = 0) (hl : Lies w ax m) (hlen : l.length + m.length ≤ 140737488355328)
    (h : ∀ v' w', Ap B lo w w' v' (l ++ m) → wpList Tryd.prog ops Q rest (a.put o.dst v') w') : wpList Tryd.prog ops Q (o :: rest) a w := by
  subst hnm
  obtain ⟨i0, hi, hz0, hz1, hz2⟩ := ginfo_parts ginfo5
  cases ax with
  | none =>
    obtain ⟨h1, h2⟩ := hz rfl
    have hm : m = [] := List.eq_nil_of_length_eq_zero h1
    subst hm
    subst h2
    refine wpList_append_own_none hgd s x 22 ho lo 5 i0 1 Tryd.underlying22 hi v _ _ hs hown.own hx (h v w ?_)
    rw [List.append_nil]
    exact ⟨hown, ⟨Nat.le_refl _, fun k _ => Or.inl rfl⟩, Below.refl _ _⟩
  | some ad =>
    refine wpList_append_own w hgd s x 22 ho lo 5 i0 (.int .u8 0) 1 1 Tryd.underlying22 hi hz0 hz1 hz2 rfl (by decide) v _ _ hs hown.own ad m.length c (ob m) hx (by rw [ob_length]; omega) ?_ ob_one (by unfold maxLen; omega) (by omega) hown.le ?_
    · intro j u hj
      rw [ob_get] at hj
      rcases hl with rfl | ⟨b, off, ha, hc⟩
      · simp at hj
      · cases ha
        cases hq : m[j]? with
        | none => simp [hq] at hj
        | some y =>
          simp [hq] at hj
          rw [← hj]
          have := hc j y hq
          have hadd : (⟨b, off, none⟩ : Addr).add j = ⟨b, off + j, none⟩ := by unfold Addr.add; split <;> simp_all
          rw [hadd]; exact this
    · intro v' w' h2 h3 h4
      have hb : Below lo w w' := (Below.refl lo w).grown h3 hown.le (fun k hk => by
        rcases hown.own_shape with h5 | ⟨g, cur, h5, hg, _⟩
        · rw [h5] at hk; cases hk
        · rw [h5] at hk; cases hk; exact hg)
      refine h v' w' ⟨⟨?_, Nat.le_trans hown.le h3.size⟩, ⟨h3.size, fun k hk => ?_⟩, hb⟩
      · rw [ob_append] at h2
        rw [List.length_append]; exact h2
      · by_cases e : some k = v.ownBlock
        · rcases hown.own_shape with h5 | ⟨g, cur, h5, hg, hh⟩
          · rw [h5] at e; cases e
          · rw [h5] at e
            cases e
            exact Or.inr ⟨by omega, cur, (0, 0), hh⟩
        · exact Or.inl (h3.block k hk e)
end Go.Proofs.YtikdpnpkmmmacabDoor

/-
  Where the machine stands, told of the inflater between its calls. No walk in this text.
-/
namespace Go.Proofs.YtikdpnpkmmmacabDoor
open Go.RowKit
set_option linter.unusedVariables false
theorem step_none_most {bs : List Bool} {M N : Nat} {c : Cfg} (h : step bs M c = none) : step bs N c = none := by
  obtain ⟨st, pos, out, times⟩ := c
  unfold step at *
  cases st with
  | head last => cases last <;> simp_all
  | sraw last n => cases n <;> simp_all
  | copy last lit di n d => cases n <;> simp_all
  | dfst last a b i j first => simp_all
  | sym last lit di =>
    simp only [] at h ⊢
    cases e5 : sread lit (bs.drop pos) with
    | cut => rfl
    | bad j => rw [e5] at h; cases h
    | got s n => rw [e5] at h; simp only [] at h; split at h <;> cases h
  | done => rfl
  | bad y => rfl
  | _ => simp_all
theorem runs_le {bs : List Bool} {M N : Nat} {z : Cfg} (h : Runs bs M c0 z) (hN : N ≤ M) (hz : z.out.length ≤ N) : Runs bs N c0 z := by
  rcases runs_fewer h hN (Nat.zero_le _) (Nat.zero_le _) with ⟨q, _⟩ | ⟨e, _, _, _, _, q, _⟩
  · exact q
  · omega
theorem step_most {bs : List Bool} {N : Nat} {c d : Cfg} (h : step bs N c = some d) (hc : c.out.length ≤ N) : d.out.length ≤ N := by
  rcases step_fewer h (Nat.le_refl N) hc with ⟨_, q⟩ | ⟨_, q, b, e⟩
  · exact q
  · rw [h] at q
    have e1 := Option.some.inj q
    have e2 := congrArg Cfg.out e1
    have e3 : d.out = c.out := e2
    rw [e3]
    exact hc
theorem runs_most {bs : List Bool} {N : Nat} {c d : Cfg} (h : Runs bs N c d) (hc : c.out.length ≤ N) : d.out.length ≤ N := by
  induction h with
  | refl => exact hc
  | cons h1 _ ih => exact ih (step_most h1 hc)
theorem stands_most {I : List Nat} {N : Nat} {z : Cfg} (h : Stands I N z) : z.out.length ≤ N := runs_most h.1 (Nat.zero_le _)
/-- It is over. -/
def Over (c : Cfg) : Prop := c.st = .done ∨ ∃ y, c.st = .bad y
section
variable {w : World} {B D b R : Nat} {I : List Nat} {M N : Nat} {c : Cfg}
theorem Inf.stands (h : Inf w B D b R I M c .want) (hN : N ≤ M) (ho : c.out.length ≤ N) : ∃ z, Stands I N z ∧ z.out = c.out ∧ ¬ Over z := by
  obtain ⟨hr, f, h3⟩ := h
  obtain ⟨z, h4, h5, h6, h7, h8⟩ := h3.z
  refine ⟨z, ⟨runs_le (hr.trans h4) hN (by rw [h6]; exact ho), step_none_most h5⟩, h6, ?_⟩
  rintro (e | ⟨y, e⟩)
  · exact h8 e
  · exact h7 y e
theorem Inf.over_st (h : Inf w B D b R I M c .over) : Over c := by
  obtain ⟨hr, f, h3⟩ := h
  rcases h3.how with ⟨e, _⟩ | ⟨y, e, _⟩
  · exact Or.inl e
  · exact Or.inr ⟨y, e⟩
theorem Over.none {bs : List Bool} (h : Over c) : step bs N c = none := by
  unfold step
  rcases h with e | ⟨y, e⟩ <;> rw [e]
theorem Inf.stands_over (h : Inf w B D b R I M c .over) (hN : N ≤ M) (ho : c.out.length ≤ N) : Stands I N c := ⟨runs_le h.1 hN ho, h.over_st.none⟩
theorem over_pos {I : List Nat} {x : Nat} {z c : Cfg} (h : Stands I N z) (hz : ¬ Over z) (k : Stands (I ++ [x]) N c) (hc : Over c) : 8 * I.length < c.pos := by
  obtain ⟨o, _, _, e | e⟩ := h.next k
  · rw [e] at hc; exact absurd hc hz
  · exact e.1
theorem too_much {I : List Nat} {x : Nat} {z c : Cfg} (hr : Runs (allb (I ++ [x])) M c0 c) (hN : N ≤ M) (hc : N < c.out.length) (h : Stands I N z) (hz : ¬ Over z) : ∃ e, Stands (I ++ [x]) N e ∧ e.st = .bad 62 ∧ e.out = c.out.take N ∧ 8 * I.length < e.pos := by
  rcases runs_fewer hr hN (Nat.zero_le _) (Nat.zero_le _) with ⟨_, q⟩ | ⟨e, h1, h2, h3, h4, _, h6⟩
  · omega
  · have hst : Stands (I ++ [x]) N e := ⟨h1, Over.none (Or.inr ⟨62, h2⟩)⟩
    refine ⟨e, hst, h2, ?_, over_pos h hz hst (Or.inr ⟨62, h2⟩)⟩
    obtain ⟨t, ht⟩ := h4
    rw [← ht, List.take_append_of_le_length (by omega), List.take_of_length_le (by omega)]
theorem Stands.of_take {Bb : List Nat} {i : Nat} (h : Stands (Bb.take i) N c) (hc : Over c) : Stands Bb N c := by
  have := h.over (D := Bb.drop i) hc
  rwa [List.take_append_drop] at this
theorem over_at {L i : Nat} (hc : Over c) (h1 : 8 * i < c.pos) (h2 : c.pos ≤ 8 * (i + 1)) : atC L c = i := by
  unfold atC
  rcases hc with e | ⟨y, e⟩ <;> rw [e] <;> simp only [] <;> omega
theorem open_at {L : Nat} (hc : ¬ Over c) : atC L c = L ∧ whyC c = 1 ∧ endC c = false := by
  unfold atC whyC endC
  cases e : c.st <;> first | exact ⟨rfl, rfl, rfl⟩ | exact absurd (Or.inl e) hc | exact absurd (Or.inr ⟨_, e⟩) hc
end
/-- What is told, and what waits. -/
def Pd (o : List Nat) (c : Cfg) (q : Md) : Prop := (∃ x, q = .wait x ∧ c.out = o ++ [x]) ∨ ((q = .over ∨ q = .want) ∧ c.out = o)
/-- What Next told. -/
def Nx (o : List Nat) (v10 v11 : Value) (c : Cfg) (q : Md) : Prop := (∃ x : Nat, v10 = .int .u8 (x : Int) ∧ v11 = .bool true ∧ Pd (o ++ [x]) c q) ∨ (v10 = .int .u8 0 ∧ v11 = .bool false ∧ (q = .over ∨ q = .want) ∧ c.out = o)
theorem Pd.le {o : List Nat} {c : Cfg} {q : Md} (h : Pd o c q) : c.out.length ≤ o.length + 1 := by
  rcases h with ⟨x, _, e⟩ | ⟨_, e⟩ <;> rw [e]
  · simp
  · omega
section
variable {B D b R : Nat} {I : List Nat} {M : Nat} {c : Cfg} {q : Md}
theorem Goes.pd {w : World} (h : Goes B D b R I M c w) : ∃ c' q', Inf w B D b R I M c' q' ∧ Pd c.out c' q' := by
  obtain ⟨c', _, ⟨x, h1, h2⟩ | ⟨h1, h2⟩ | ⟨h1, h2⟩⟩ := h
  · exact ⟨c', _, h1, Or.inl ⟨x, rfl, h2⟩⟩
  · exact ⟨c', _, h1, Or.inr ⟨Or.inl rfl, h2⟩⟩
  · exact ⟨c', _, h1, Or.inr ⟨Or.inr rfl, h2⟩⟩
theorem next_any (w : World) (h : Inf w B D b R I M c q) (o : List Nat) (hp : Pd o c q) (hm : o.length + 1 < M) : Calls Tryd.prog 9 #[.pointer (some ⟨D, 0, none⟩)] w fun e w' => ∃ v10 v11 c' q', e = .returned (.tuple #[v10, v11]) ∧ Fm B w w' ∧ Inf w' B D b R I M c' q' ∧ Nx o v10 v11 c' q' := by
  have hle := hp.le
  rcases hp with ⟨x, rfl, e⟩ | ⟨hq, e⟩
  · refine (next_yes x w h (by omega)).mono ?_
    rintro e2 w' ⟨h1, h2, h3⟩
    obtain ⟨c', q', h4, h5⟩ := h3.pd
    rw [e] at h5
    exact ⟨_, _, c', q', h1, h2, h4, Or.inl ⟨x, rfl, rfl, h5⟩⟩
  · refine (next_no w h (fun x ex => by rcases hq with hq | hq <;> rw [hq] at ex <;> cases ex)).mono ?_
    rintro e2 w' ⟨h1, rfl⟩
    exact ⟨_, _, c, q, h1, Fm.refl _ _, h, Or.inr ⟨rfl, rfl, hq, e⟩⟩
theorem put_any (x : Nat) (hx : x < 256) (w : World) (h : Inf w B D b R I M c .want) (hm : c.out.length < M) : Calls Tryd.prog 8 #[.pointer (some ⟨D, 0, none⟩), .int .u8 (x : Int)] w fun e w' => e = .returned (.bool true) ∧ Fm B w w' ∧ ∃ c' q', Inf w' B D b R (I ++ [x]) M c' q' ∧ Pd c.out c' q' := by
  refine (put_open x hx w h hm).mono ?_
  rintro e w' ⟨h1, h2, h3⟩
  exact ⟨h1, h2, h3.pd⟩
end
end Go.Proofs.YtikdpnpkmmmacabDoor

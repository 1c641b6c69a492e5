/-
  InflateSteps' call: the inflater, byte by byte, beside the document's answer.
-/
import Derived.Test.YtikdpnpkmmmacaaDoorPRz
import Derived.Deep.RegionHeld3
namespace Go.Proofs.YtikdpnpkmmmacaaDoor
open Go.RowKit
set_option linter.unusedVariables false
theorem why_end {c : Cfg} (h : Over c) (hy : ∀ y, c.st = .bad y → y ≠ 0) : (endC c = true ∧ whyC c = 0) ∨ (endC c = false ∧ whyC c ≠ 0) := by
  unfold endC whyC
  rcases h with e | ⟨y, e⟩
  · rw [e]; exact Or.inl ⟨rfl, rfl⟩
  · rw [e]; exact Or.inr ⟨rfl, hy y e⟩
theorem Inf.why_ne {w : World} {B D b R : Nat} {I : List Nat} {M : Nat} {c : Cfg} (h : Inf w B D b R I M c .over) : ∀ y, c.st = .bad y → y ≠ 0 := by
  obtain ⟨_, f, h3⟩ := h
  intro y hy
  rcases h3.how with ⟨e, _⟩ | ⟨y', e, _, _, h6⟩
  · rw [e] at hy; cases hy
  · rw [e] at hy; cases hy; exact h6
theorem runs_tm {bs : List Bool} {N : Nat} {c d : Cfg} (h : Runs bs N c d) (hc : c.pos ≤ bs.length) : c.times <+: d.times := by
  induction h using Runs.el with
  | refl => exact List.prefix_refl _
  | cons h1 _ ih =>
    obtain ⟨q1, q2⟩ := step_ends h1 hc
    refine List.IsPrefix.trans ?_ (ih q1)
    rcases q2 with ⟨_, q3⟩ | ⟨b, _, q3⟩
    · rw [q3]; exact List.prefix_refl _
    · rw [q3]; exact List.prefix_append _ _
/-- The state between the rounds. -/
def StR (w : World) (Bb : List Nat) (L N M B D b R base Q : Nat) (a : Option Addr) (C : Nat) (z : Cfg) (oa : Option Addr) (oc : Nat) (ta : Option Addr) (tc : Nat) (i told : Nat) (wr : World) : Prop :=
  i ≤ L ∧ Rz wr base Q a L C z oa oc ta tc ∧ Below B w wr ∧ ((∃ c, Inf wr B D b R (Bb.take i) M c .want ∧ c.out.length = told ∧ told ≤ N ∧ i ≤ atC L z) ∨ (Inf wr B D b R (Bb.take (atC L z + 1)) M z .over ∧ told = z.out.length ∧ atC L z < i))
set_option maxRecDepth 100000 in
set_option maxHeartbeats 4000000 in
theorem steps_core (w : World) (ht : Tabs w) (a : Option Addr) (Bb : List Nat) (L C : Nat) (hB : Lies w a Bb) (hL : Bb.length = L) (hLb : L < 140737488355328) (ho : Oct Bb) :
    Calls Tryd.prog 4 #[.slice a L C] w fun e w' => e = .returned (.bool true) ∧ Below w.heap.size w w' := by
  obtain ⟨N, hN⟩ : ∃ N, N = (1048576 : Int).toNat := ⟨_, rfl⟩
  have hN2 : N = 1048576 := hN
  obtain ⟨M, hM⟩ : ∃ M, N + 3 = M := ⟨_, rfl⟩
  have hnew := new_i M w ht
  obtain ⟨B, hBe⟩ : ∃ B, w.heap.size = B := ⟨_, rfl⟩
  obtain ⟨D, hD⟩ : ∃ D, B + 3 = D := ⟨_, rfl⟩
  obtain ⟨b, hb⟩ : ∃ b, B + 2 = b := ⟨_, rfl⟩
  obtain ⟨R, hR⟩ : ∃ R, B + 1 = R := ⟨_, rfl⟩
  rw [hBe, hD, hb, hR] at hnew
  rw [hBe]
  have A : Aside (Lies w a Bb ∧ Bb.length = L ∧ L < 140737488355328 ∧ Oct Bb ∧ Tabs w ∧ N + 3 = M ∧ w.heap.size = B ∧ N = 1048576 ∧ 7 ≤ B) := ⟨hB, hL, hLb, ho, ht, hM, hBe, hN2, by have := ht.lt; omega⟩
  have ANI : Aside (N = (1048576 : Int).toNat) := hN
  clear hB hL hLb ho hM hBe hD hb hR ht hN hN2
  go_enter Tryd.func4, Tryd.ntmps4
  go_upto_region 2 with (go_at_call 14; refine hnew.mono ?_; rintro e1 w1 ⟨rfl, hinf1, hb1⟩)
  have hof := of_st (w := w1) (C := C) (1048576 : Int) (by decide) (A.out.1.below (by rw [A.out.2.2.2.2.2.2.1]; exact hb1)) A.out.2.1 A.out.2.2.1 A.out.2.2.2.1
  rw [← ANI.out] at hof
  have A1 : Aside (Inf w1 B D b R [] M c0 .want ∧ Below B w w1) := ⟨hinf1, hb1⟩
  clear hinf1 hb1 hnew
  go_upto_region 3 with (go_at_call 10; refine hof.mono ?_; rintro e2 w2 ⟨Q, s, vO, vT, z, rfl, hr2, hb2, hst, h1, h2, h3, h4, h5⟩)
  obtain ⟨oa, oc, ta, tc, rfl, rfl, hrz⟩ := Rz.of hr2 h1 h2 h3 h4 h5
  obtain ⟨base, hbase⟩ : ∃ base, w1.heap.size = base := ⟨_, rfl⟩
  rw [hbase] at hrz
  have hinf2 := A1.out.1.kp (Kp.of_below (B := B) hb2 (Nat.le_refl _))
  have A2 : Aside (Inf w2 B D b R [] M c0 .want ∧ Below B w w2 ∧ Rz w2 base Q a L C z oa oc ta tc ∧ Stands Bb N z ∧ B + 4 ≤ base) := ⟨hinf2, A1.out.2.trans (hb2.mono (by have := A1.out.1.lt; omega)), hrz, hst, by rw [← hbase]; exact A1.out.1.lt⟩
  have hdn0 := pdone_c w2 hinf2
  have hrn0 := reason_c w2 hinf2
  have hdn1 : Calls Tryd.prog 15 #[.pointer (some ⟨D, 0, none⟩)] w2 fun e w' => e = .returned (.bool false) ∧ w2 = w' := hdn0
  have hrn1 : Calls Tryd.prog 16 #[.pointer (some ⟨D, 0, none⟩)] w2 fun e w' => e = .returned (.int .i64 0) ∧ w2 = w' := hrn0
  clear hof hr2 hb2 hst h1 h2 h3 h4 h5 hrz hbase hinf2 hdn0 hrn0
  go_wp2_with (first
    | (go_at_call 15; refine hdn1.mono ?_; rintro e3 w3 ⟨rfl, rfl⟩)
    | (go_at_call 16; refine hrn1.mono ?_; rintro e4 w4 ⟨rfl, rfl⟩))
  clear hdn1 hrn1
  go_loopg [5, 6] (L + 1) (fun gg s5 s6 wr => ∃ i told : Nat, s6 = .int .i64 (i : Int) ∧ s5 = .int .i64 (told : Int) ∧ Aside (i + gg = L + 1) ∧ Aside (StR w Bb L N M B D b R base Q a C z oa oc ta tc i told wr))
  case atStart => exact ⟨0, 0, rfl, rfl, (show 0 + (L + 1) = L + 1 by omega), ⟨Nat.zero_le _, A2.out.2.2.1, A2.out.2.1, Or.inl ⟨c0, A2.out.1, rfl, Nat.zero_le _, Nat.zero_le _⟩⟩⟩
  case round =>
    obtain ⟨i, told, rfl, rfl, AGK, hSt⟩ := hrel
    obtain ⟨hiL, hrz, hbel, hway⟩ := hSt.out
    have a0 := A.out
    by_cases hi : i < L
    · have t1 : ((i : Int) < (L : Int)) = True := eq_true (by omega)
      have t1' : (i < L) = True := eq_true hi
      have hiI : (i : Int) < 200000000000000 := by omega
      obtain ⟨x, hx⟩ : ∃ x, Bb[i]? = some x := ⟨_, List.getElem?_eq_getElem (by omega)⟩
      have hx256 : x < 256 := a0.2.2.2.1 x (List.mem_of_getElem? hx)
      obtain ⟨ab, ao, ha, hcB⟩ : ∃ ab ao, a = some ⟨ab, ao, none⟩ ∧ ∀ (j y : Nat), Bb[j]? = some y → w.cell? ⟨ab, ao + j, none⟩ = some (.int .u8 (y : Int)) := by
        rcases a0.1 with e | ⟨ab, ao, e, h⟩
        · rw [e] at hx; simp at hx
        · exact ⟨ab, ao, e, h⟩
      subst ha
      have cx0 := hcB i x hx
      have hlt := World.block_lt_of_cell? w ⟨ab, ao + i, none⟩ cx0
      have cx : wr.cell? ⟨ab, ao + i, none⟩ = some (.int .u8 (x : Int)) := (hbel.cell (p := ⟨ab, ao + i, none⟩) (by rw [← a0.2.2.2.2.2.2.1]; exact hlt)).trans cx0
      have htake : Bb.take (i + 1) = Bb.take i ++ [x] := by rw [List.take_add_one, hx]; rfl
      have c5 := hrz.c5
      have c4 := hrz.c4
      obtain ⟨ay, hay⟩ : ∃ ay, atC L z = ay := ⟨_, rfl⟩
      obtain ⟨y, hy⟩ : ∃ y, whyC z = y := ⟨_, rfl⟩
      rw [hay] at c5
      rw [hy] at c4
      by_cases hret : y = 62 ∧ ay ≤ i
      · have r1 : ((y : Int) == 62) = true := by rw [beq_iff_eq]; omega
        have r2 : ((ay : Int) ≤ (i : Int)) = True := eq_true (by omega)
        have haw := awake_c wr (a0.2.2.2.2.1.below hbel a0.2.2.2.2.2.2.2.2)
        have AB : Aside (Below B w wr ∧ w.heap.size = B) := ⟨hbel, a0.2.2.2.2.2.2.1⟩
        clear hSt hiL hrz hbel hway a0 hi hx256 hx hcB cx0 hlt cx htake hay hy hret
        by_cases hoa : (i : Int) ≤ (ay : Int)
        all_goals
          go_wp2_with (go_at_call 13; refine haw.mono ?_; rintro e5 w5 ⟨rfl, hb5⟩)
          first | go_ret | go_ret2
          exact ⟨rfl, AB.out.1.trans (hb5.mono (by rw [← AB.out.2]; exact AB.out.1.size))⟩
      · have hlB : B ≤ wr.heap.size := by rw [← a0.2.2.2.2.2.2.1]; exact hbel.size
        rcases hway with ⟨c, hinf, hct, htN, hia⟩ | ⟨hinf, htz, hai⟩
        · -- it is open
          have r3 : ((i : Int) ≤ (ay : Int)) = True := eq_true (by omega)
          have r3' : (i ≤ ay) = True := eq_true (by omega)
          obtain ⟨zi, hzi, hzo, hzn⟩ := hinf.stands (N := N) (by omega) (by omega)
          have hput := put_any x hx256 wr hinf (by omega)
          rw [← htake] at hput
          have AP : Aside (i < L ∧ Rz wr base Q (some ⟨ab, ao, none⟩) L C z oa oc ta tc ∧ Below B w wr ∧ Stands (Bb.take i) N zi ∧ zi.out = c.out ∧ ¬ Over zi ∧ c.out.length = told ∧ told ≤ N ∧ i ≤ atC L z ∧ Bb.take (i + 1) = Bb.take i ++ [x] ∧ (Bb.take i).length = i ∧ ¬ (whyC z = 62 ∧ atC L z ≤ i) ∧ B ≤ wr.heap.size) := ⟨hi, hrz, hbel, hzi, hzo, hzn, hct, htN, hia, htake, by rw [List.length_take]; omega, by rw [hay, hy]; exact hret, hlB⟩
          have hpick : (y = 62 ∧ ¬ ay ≤ i) ∨ y ≠ 62 := by omega
          clear hSt hiL hrz hbel a0 hi hx256 hx hcB cx0 hlt htake hinf hct htN hia hzi hzo hzn hay hy hret hlB
          have hto : ∃ t0, Calls Tryd.prog 17 #[.pointer (some ⟨D, 0, none⟩), .int .u8 (x : Int)] wr fun e w' => e = .returned (.bool true) ∧ Fm B wr w' ∧ ∃ c' q', Inf w' B D b R (Bb.take (i + 1)) M c' q' ∧ Pd c.out c' q' ∧ t0 = true := ⟨true, hput.mono fun e w' h => ⟨h.1, h.2.1, by obtain ⟨c', q', h1, h2⟩ := h.2.2; exact ⟨c', q', h1, h2, rfl⟩⟩⟩
          clear hto
          rcases hpick with ⟨hy62, hayi⟩ | hy62
          all_goals
            first
              | (have r1 : ((y : Int) == 62) = true := by rw [beq_iff_eq]; omega
                 have r2 : ((ay : Int) ≤ (i : Int)) = False := eq_false (by omega)
                 have r2' : (ay ≤ i) = False := eq_false hayi
                 clear hayi)
              | (have r1 : ((y : Int) == 62) = false := by rw [beq_eq_false_iff_ne]; omega)
            clear hy62
            go_wp2_with (go_at_call 17; refine hput.mono ?_; rintro e2 w2 ⟨rfl, hf2, c2, q2, hinf2, hpd2⟩)
            have A3 : Aside (Inf w2 B D b R (Bb.take (i + 1)) M c2 q2 ∧ Pd c.out c2 q2 ∧ Rz w2 base Q (some ⟨ab, ao, none⟩) L C z oa oc ta tc ∧ Below B w w2) := ⟨hinf2, hpd2, AP.out.2.1.fm hf2 A2.out.2.2.2.2, AP.out.2.2.1.trans (hf2.below AP.out.2.2.2.2.2.2.2.2.2.2.2.2)⟩
            clear hput hf2 hinf2 hpd2 cx c4 c5 r1 r3 r3' t1 t1'
            have ACZ : Aside (c.out.length ≤ z.out.length) := (by show _ ≤ _; obtain ⟨o', _, h, _⟩ := stands_late AP.out.2.2.2.1 (show i ≤ Bb.length by have := A.out; have := AP.out.1; omega) A2.out.2.2.2.1; rw [← AP.out.2.2.2.2.1, h, List.length_append]; omega)
            go_loopg [5] (z.out.length + 1 - c.out.length) (fun gg s5 wr => ∃ o : List Nat, s5 = .int .i64 (o.length : Int) ∧ Aside (c.out.length ≤ o.length ∧ o.length ≤ N ∧ Rz wr base Q (some ⟨ab, ao, none⟩) L C z oa oc ta tc ∧ Below B w wr ∧ o.length + gg = z.out.length + 1 ∧ ∃ c q, Inf wr B D b R (Bb.take (i + 1)) M c q ∧ Pd o c q))
            case atStart => exact ⟨c.out, by rw [AP.out.2.2.2.2.2.2.1], Nat.le_refl _, by rw [AP.out.2.2.2.2.2.2.1]; exact AP.out.2.2.2.2.2.2.2.1, A3.out.2.2.1, A3.out.2.2.2, by have := ACZ.out; omega, c2, q2, A3.out.1, A3.out.2.1⟩
            case round =>
              obtain ⟨o, rfl, hI⟩ := hrel
              obtain ⟨hco, hoN, hrz5, hbel5, hog, c5, q5, hinf5, hpd5⟩ := hI.out
              have ap := AP.out
              have a0 := A.out
              have hst := A2.out.2.2.2.1
              have d2 := hrz5.c2
              have hoI : (o.length : Int) < 2000000 := by omega
              rcases hpd5 with ⟨y2, rfl, hc5⟩ | ⟨hq5, hc5⟩
              · have hr5 := hinf5.1
                have hr5' := hr5
                rw [ap.2.2.2.2.2.2.2.2.2.1] at hr5'
                have hle5 : c5.out.length ≤ N := by
                  apply Decidable.byContradiction
                  intro hgt
                  obtain ⟨e, he1, he2, he3, he4⟩ := too_much hr5' (by omega) (by omega) ap.2.2.2.1 ap.2.2.2.2.2.1
                  have hep := he1.pos
                  rw [List.length_append, List.length_singleton, ap.2.2.2.2.2.2.2.2.2.2.1] at hep
                  rw [ap.2.2.2.2.2.2.2.2.2.2.1] at he4
                  have hat := over_at (L := L) (Or.inr ⟨62, he2⟩) he4 hep
                  rw [← ap.2.2.2.2.2.2.2.2.2.1] at he1
                  have hez := (he1.of_take (Or.inr ⟨62, he2⟩)).one hst
                  subst hez
                  exact ap.2.2.2.2.2.2.2.2.2.2.2.1 ⟨by unfold whyC; rw [he2], by omega⟩
                have hrun := runs_pre (i := i + 1) hr5 (show N ≤ M by omega) hle5 hst
                have hp5 : c5.pos ≤ (allb Bb).length := by
                  have := runs_ends hr5 (Nat.zero_le _)
                  rw [allb_len, List.length_take] at this
                  rw [allb_len]
                  omega
                have hpo := runs_out hrun hp5
                have hpt := runs_tm hrun hp5
                obtain ⟨o1, ho1, ht1⟩ := runs_one ap.2.2.2.1 (runs_le hr5' (show N ≤ M by omega) hle5) (by rw [ap.2.2.2.2.1, hc5, List.length_append, List.length_singleton]; omega)
                have hzit : zi.times.length = zi.out.length := times_len ap.2.2.2.1.1 (Nat.zero_le _) rfl
                have hol1 : zi.out.length + o1.length = o.length + 1 := by have := congrArg List.length ho1; rw [hc5, List.length_append, List.length_append, List.length_singleton] at this; omega
                have htl : o.length < z.out.length := by have := hpo.length_le; rw [hc5, List.length_append, List.length_singleton] at this; omega
                have hzo : z.out[o.length]? = some y2 := by
                  obtain ⟨t, ht⟩ := hpo
                  rw [← ht, hc5, List.append_assoc, List.getElem?_append_right (Nat.le_refl _), Nat.sub_self]
                  rfl
                have hzt : z.times[o.length]? = some i := by
                  obtain ⟨t, ht⟩ := hpt
                  have hlt5 : o.length < c5.times.length := by rw [ht1, List.length_append, List.length_replicate]; omega
                  rw [← ht, List.getElem?_append_left hlt5, ht1, List.getElem?_append_right (by rw [hzit]; have := ap.2.2.2.2.1; rw [this]; exact hco), List.getElem?_replicate, if_pos (by have := ap.2.2.2.2.1; rw [hzit, this]; rw [this] at hol1; omega), ap.2.2.2.2.2.2.2.2.2.2.1]
                have d3 := hrz5.c3
                obtain ⟨ob9, oo9, hoa9, hcO⟩ : ∃ b o, oa = some ⟨b, o, none⟩ ∧ ∀ (i x : Nat), z.out[i]? = some x → wr.cell? ⟨b, o + i, none⟩ = some (.int .u8 (x : Int)) := by
                  rcases hrz5.lies with e | h
                  · rw [e] at hzo; simp at hzo
                  · exact h
                obtain ⟨tb9, to9, hta9, hcT⟩ : ∃ b o, ta = some ⟨b, o, none⟩ ∧ ∀ (i : Nat) (x : Int), (iz z.times)[i]? = some x → wr.cell? ⟨b, o + i, none⟩ = some (.int .i64 x) := by
                  rcases hrz5.lens with e | h
                  · unfold iz at e; rw [List.map_eq_nil_iff] at e; rw [e] at hzt; simp at hzt
                  · exact h
                rw [hoa9] at d2
                rw [hta9] at d3
                have x1 := hcO _ _ hzo
                have x2 := hcT o.length (i : Int) (by unfold iz; rw [List.getElem?_map, hzt]; rfl)
                have htlen : o.length < z.times.length := (List.getElem?_eq_some_iff.1 hzt).1
                have hnx := next_yes y2 wr hinf5 (by omega)
                obtain ⟨ol, hol⟩ : ∃ ol, z.out.length = ol := ⟨_, rfl⟩
                obtain ⟨tl, htl9⟩ : ∃ tl, z.times.length = tl := ⟨_, rfl⟩
                obtain ⟨tn, htn⟩ : ∃ tn, o.length = tn := ⟨_, rfl⟩
                rw [hol] at d2
                rw [htl9] at d3
                rw [htn] at x1 x2 hoI
                have u1 : ((tn : Int) < (ol : Int)) = True := eq_true (by omega)
                have u1' : (tn < ol) = True := eq_true (by omega)
                have u2 : ((tn : Int) < (tl : Int)) = True := eq_true (by omega)
                have u2' : (tn < tl) = True := eq_true (by omega)
                have hqo : ∀ u, Fm B wr u → u.cell? ⟨Q, 2, none⟩ = some (.slice (some ⟨ob9, oo9, none⟩) ol oc) ∧ u.cell? ⟨ob9, oo9 + tn, none⟩ = some (.int .u8 (y2 : Int)) := fun u hu => by
                  have hq := hrz5.fm hu A2.out.2.2.2.2
                  have h2 := hq.c2
                  rw [hoa9, hol] at h2
                  refine ⟨h2, ?_⟩
                  rcases hq.lies with e | ⟨b', o', e, h⟩
                  · rw [e] at hzo; simp at hzo
                  · rw [hoa9] at e; cases e; rw [← htn]; exact h _ _ hzo
                have AQ1 : Aside ((∀ u, Fm B wr u → u.cell? ⟨Q, 2, none⟩ = some (.slice (some ⟨ob9, oo9, none⟩) ol oc) ∧ u.cell? ⟨ob9, oo9 + tn, none⟩ = some (.int .u8 (y2 : Int))) ∧ c.out.length ≤ o.length ∧ o.length + 1 ≤ N ∧ Rz wr base Q (some ⟨ab, ao, none⟩) L C z oa oc ta tc ∧ Below B w wr ∧ o.length + gk = z.out.length + 1 ∧ c5.out = o ++ [y2] ∧ o.length = tn ∧ B ≤ wr.heap.size ∧ o.length < z.out.length) := ⟨hqo, hco, by rw [hc5, List.length_append, List.length_singleton] at hle5; exact hle5, hrz5, hbel5, hog, hc5, htn, by have := hinf5.lt; omega, htl⟩
                rw [htn]
                clear hI hco hoN hrz5 hbel5 hog hinf5 hc5 hr5 hr5' hle5 hrun hp5 hpo hpt ho1 ht1 hzit hol1 htl hzo hzt hoa9 hcO hta9 hcT htlen hol htl9 htn hqo ap a0 hst
                go_upto_region 16 with (go_at_call 18; refine hnx.mono ?_; rintro e7 w7 ⟨rfl, hf7, hgo7⟩)
                have x3 := (AQ1.out.1 w7 hf7).1
                have x4 := (AQ1.out.1 w7 hf7).2
                clear d2 d3 x1 x2 hnx
                go_wp2_with fail
                have aq := AQ1.out
                obtain ⟨c8, q8, hi8, hp8⟩ := hgo7.pd
                rw [aq.2.2.2.2.2.2.1] at hp8
                go_roundg (gk - 1)
                case measure => omega
                case rel => exact ⟨o ++ [y2], by rw [List.length_append, List.length_singleton, aq.2.2.2.2.2.2.2.1]; go_num, by rw [List.length_append, List.length_singleton]; omega, by rw [List.length_append, List.length_singleton]; omega, aq.2.2.2.1.fm hf7 A2.out.2.2.2.2, aq.2.2.2.2.1.trans (hf7.below aq.2.2.2.2.2.2.2.2.1), by rw [List.length_append, List.length_singleton]; omega, c8, q8, hi8, hp8⟩
              · rcases hq5 with rfl | rfl
                · have hst5 := hinf5.stands_over (N := N) (by omega) (by rw [hc5]; exact hoN)
                  have hov5 := hinf5.over_st
                  have hez := (hst5.of_take hov5).one hst
                  subst hez
                  have hpos := hst5.pos
                  rw [ap.2.2.2.2.2.2.2.2.2.1] at hst5
                  have hpos2 := over_pos ap.2.2.2.1 ap.2.2.2.2.2.1 hst5 hov5
                  rw [List.length_take] at hpos
                  rw [ap.2.2.2.2.2.2.2.2.2.2.1] at hpos2
                  have hat := over_at (L := L) hov5 (i := i) hpos2 (by omega)
                  have hnx := next_no wr hinf5 (fun x => by simp)
                  obtain ⟨ol, hol⟩ : ∃ ol, c5.out.length = ol := ⟨_, rfl⟩
                  rw [hol] at d2
                  have hlo : o.length = ol := by rw [← hol, hc5]
                  have u1 : ((ol : Int) < (ol : Int)) = False := eq_false (by omega)
                  have u1' : (ol < ol) = False := eq_false (by omega)
                  have AQ : Aside (Inf wr B D b R (Bb.take (atC L c5 + 1)) M c5 .over ∧ Rz wr base Q (some ⟨ab, ao, none⟩) L C c5 oa oc ta tc ∧ Below B w wr ∧ atC L c5 ≤ i ∧ i < L ∧ ol = c5.out.length) := ⟨by rw [hat]; exact hinf5, hrz5, hbel5, by omega, ap.1, hol.symm⟩
                  rw [hlo]
                  clear hI hco hoN hrz5 hbel5 hog hinf5 hc5 hst5 hov5 hpos hpos2 hat hol ap a0 hst hlo
                  go_upto_region 22 with (go_at_call 18; refine hnx.mono ?_; rintro e7 w7 ⟨rfl, rfl⟩)
                  clear d2 hnx u1 u1'
                  have aq := AQ.out
                  have hdn : ∀ n, Calls Tryd.prog 15 #[.pointer (some ⟨D, 0, none⟩)] (wr.drewN n) fun e w' => e = .returned (.bool (endC c5)) ∧ w' = wr.drewN n := fun n => (pdone_c _ (aq.1.kp (Kp.drawn ⟨n, rfl⟩))).mono fun e w' h => ⟨h.1, h.2.symm⟩
                  have hrn : ∀ n, Calls Tryd.prog 16 #[.pointer (some ⟨D, 0, none⟩)] (wr.drewN n) fun e w' => e = .returned (.int .i64 (whyC c5 : Nat)) ∧ w' = wr.drewN n := fun n => (reason_c _ (aq.1.kp (Kp.drawn ⟨n, rfl⟩))).mono fun e w' h => ⟨h.1, h.2.symm⟩
                  have x5 := aq.2.1.c5
                  have x6 := aq.2.1.c6
                  have hwe := why_end aq.1.over_st aq.1.why_ne
                  obtain ⟨at9, hat9⟩ : ∃ at9, atC L c5 = at9 := ⟨_, rfl⟩
                  obtain ⟨y9, hy9⟩ : ∃ y9, whyC c5 = y9 := ⟨_, rfl⟩
                  rw [hat9] at x5
                  rw [hy9] at hrn hwe
                  have k1 : ((at9 : Int) ≤ (i : Int)) = True := eq_true (by have := aq.2.2.2.1; omega)
                  have k1' : (at9 ≤ i) = True := eq_true (by have := aq.2.2.2.1; omega)
                  have AZ : Aside (StR w Bb L N M B D b R base Q (some ⟨ab, ao, none⟩) C c5 oa oc ta tc (i + 1) (ol) wr) := ⟨aq.2.2.2.2.1, aq.2.1, aq.2.2.1, Or.inr ⟨aq.1, aq.2.2.2.2.2, by have := aq.2.2.2.1; omega⟩⟩
                  have AZg : Aside (i < L) := aq.2.2.2.2.1
                  clear aq hat9 hy9
                  rcases hwe with ⟨he, hy⟩ | ⟨he, hy⟩
                  · rw [he] at hdn x6
                    subst hy
                    have hrn0 : ∀ n, Calls Tryd.prog 16 #[.pointer (some ⟨D, 0, none⟩)] (wr.drewN n) fun e w' => e = .returned (.int .i64 0) ∧ w' = wr.drewN n := hrn
                    clear hrn he
                    go_quiet ((first | (go_at_call 15; refine Calls.quiet_of_same (hdn _)) | (go_at_call 16; refine Calls.quiet_of_same (hrn0 _))))
                    have AZ2 : Aside (StR w Bb L N M B D b R base Q (some ⟨ab, ao, none⟩) C c5 oa oc ta tc (i + 1) (ol) (wr.drewN nq)) := ⟨AZ.out.1, AZ.out.2.1.drewN nq, ⟨AZ.out.2.2.1.os, AZ.out.2.2.1.tape, AZ.out.2.2.1.output, AZ.out.2.2.1.size, AZ.out.2.2.1.block⟩, by
                      rcases AZ.out.2.2.2 with ⟨c, h1, h2⟩ | ⟨h1, h2⟩
                      · exact Or.inl ⟨c, h1.kp (Kp.drawn ⟨nq, rfl⟩), h2⟩
                      · exact Or.inr ⟨h1.kp (Kp.drawn ⟨nq, rfl⟩), h2⟩⟩
                    go_wp2_with fail
                    go_roundg (L + 1 - (i + 1))
                    case measure => have := AZg.out; have := AGK.out; omega
                    case rel => exact ⟨i + 1, ol, by go_num, rfl, (show i + 1 + (L + 1 - (i + 1)) = L + 1 by have := AZg.out; omega), AZ2.out⟩
                  · rw [he] at hdn x6
                    have k2 : ((y9 : Int) != 0) = true := by rw [bne_iff_ne]; omega
                    have k2' : ((y9 : Int) == 0) = false := by rw [beq_eq_false_iff_ne]; omega
                    clear he hy
                    go_quiet ((first | (go_at_call 15; refine Calls.quiet_of_same (hdn _)) | (go_at_call 16; refine Calls.quiet_of_same (hrn _))))
                    have AZ2 : Aside (StR w Bb L N M B D b R base Q (some ⟨ab, ao, none⟩) C c5 oa oc ta tc (i + 1) (ol) (wr.drewN nq)) := ⟨AZ.out.1, AZ.out.2.1.drewN nq, ⟨AZ.out.2.2.1.os, AZ.out.2.2.1.tape, AZ.out.2.2.1.output, AZ.out.2.2.1.size, AZ.out.2.2.1.block⟩, by
                      rcases AZ.out.2.2.2 with ⟨c, h1, h2⟩ | ⟨h1, h2⟩
                      · exact Or.inl ⟨c, h1.kp (Kp.drawn ⟨nq, rfl⟩), h2⟩
                      · exact Or.inr ⟨h1.kp (Kp.drawn ⟨nq, rfl⟩), h2⟩⟩
                    go_wp2_with fail
                    go_roundg (L + 1 - (i + 1))
                    case measure => have := AZg.out; have := AGK.out; omega
                    case rel => exact ⟨i + 1, ol, by go_num, rfl, (show i + 1 + (L + 1 - (i + 1)) = L + 1 by have := AZg.out; omega), AZ2.out⟩
                · obtain ⟨z1, hz1, hz1o, hz1n⟩ := hinf5.stands (N := N) (by omega) (by rw [hc5]; exact hoN)
                  obtain ⟨o', ts, hzo, hzt, htso, htsl, _⟩ := stands_late hz1 (show i + 1 ≤ Bb.length by omega) hst
                  have hatl := at_late hz1 hz1n (show i + 1 ≤ L by omega) a0.2.1 hst
                  have hz1t : z1.times.length = z1.out.length := times_len hz1.1 (Nat.zero_le _) rfl
                  rw [hz1o, hc5] at hzo hz1t
                  have hnx := next_no wr hinf5 (fun x => by simp)
                  have d3 := hrz5.c3
                  obtain ⟨ol, hol⟩ : ∃ ol, z.out.length = ol := ⟨_, rfl⟩
                  obtain ⟨tl, htl9⟩ : ∃ tl, z.times.length = tl := ⟨_, rfl⟩
                  obtain ⟨tn, htn⟩ : ∃ tn, o.length = tn := ⟨_, rfl⟩
                  rw [hol] at d2
                  rw [htl9] at d3
                  rw [htn] at hoI
                  have x5 := hrz5.c5
                  have x6 := hrz5.c6
                  obtain ⟨at9, hat9⟩ : ∃ at9, atC L z = at9 := ⟨_, rfl⟩
                  rw [hat9] at x5
                  have k1 : ((at9 : Int) ≤ (i : Int)) = False := eq_false (by omega)
                  have k1' : (at9 ≤ i) = False := eq_false (by omega)
                  have hdn : ∀ n, Calls Tryd.prog 15 #[.pointer (some ⟨D, 0, none⟩)] (wr.drewN n) fun e w' => e = .returned (.bool false) ∧ w' = wr.drewN n := fun n => (pdone_c _ (hinf5.kp (Kp.drawn ⟨n, rfl⟩))).mono fun e w' h => ⟨h.1, h.2.symm⟩
                  have hrn : ∀ n, Calls Tryd.prog 16 #[.pointer (some ⟨D, 0, none⟩)] (wr.drewN n) fun e w' => e = .returned (.int .i64 0) ∧ w' = wr.drewN n := fun n => (reason_c _ (hinf5.kp (Kp.drawn ⟨n, rfl⟩))).mono fun e w' h => ⟨h.1, h.2.symm⟩
                  have AZ : Aside (∀ n, StR w Bb L N M B D b R base Q (some ⟨ab, ao, none⟩) C z oa oc ta tc (i + 1) tn (wr.drewN n)) := fun n => ⟨ap.1, hrz5.drewN n, ⟨hbel5.os, hbel5.tape, hbel5.output, hbel5.size, hbel5.block⟩, Or.inl ⟨c5, hinf5.kp (Kp.drawn ⟨n, rfl⟩), by rw [hc5]; exact htn, by omega, hatl⟩⟩
                  have AZg : Aside (i < L) := ap.1
                  obtain ⟨eb, heb⟩ : ∃ eb, endC z = eb := ⟨_, rfl⟩
                  rw [heb] at x6
                  rw [htn]
                  by_cases hlast : tn < ol
                  · have hol2 : 0 < o'.length := by have := congrArg List.length hzo; rw [List.length_append] at this; omega
                    obtain ⟨t0, ht0⟩ : ∃ t0, ts[0]? = some t0 := ⟨_, List.getElem?_eq_getElem (by omega)⟩
                    have ht0i : i + 1 ≤ t0 := htsl t0 (List.mem_of_getElem? ht0)
                    have hztn : z.times[tn]? = some t0 := by rw [hzt, List.getElem?_append_right (by omega), show tn - z1.times.length = 0 by omega]; exact ht0
                    obtain ⟨tb9, to9, hta9, hcT⟩ : ∃ b o, ta = some ⟨b, o, none⟩ ∧ ∀ (i : Nat) (x : Int), (iz z.times)[i]? = some x → wr.cell? ⟨b, o + i, none⟩ = some (.int .i64 x) := by
                      rcases hrz5.lens with e | h
                      · unfold iz at e; rw [List.map_eq_nil_iff] at e; rw [e] at hztn; simp at hztn
                      · exact h
                    rw [hta9] at d3
                    have x2 := hcT tn (t0 : Int) (by unfold iz; rw [List.getElem?_map, hztn]; rfl)
                    have u1 : ((tn : Int) < (ol : Int)) = True := eq_true (by omega)
                    have u1' : (tn < ol) = True := eq_true (by omega)
                    have u2 : ((tn : Int) < (tl : Int)) = True := eq_true (by have := (List.getElem?_eq_some_iff.1 hztn).1; omega)
                    have u2' : (tn < tl) = True := eq_true (by have := (List.getElem?_eq_some_iff.1 hztn).1; omega)
                    have u3 : ((t0 : Int) == (i : Int)) = false := by rw [beq_eq_false_iff_ne]; omega
                    clear hI hco hoN hrz5 hbel5 hog hinf5 hc5 hz1 hz1o hz1n hzo hzt htso htsl hatl hz1t hol htl9 htn hat9 heb hlast hol2 ht0 ht0i hztn hta9 hcT ap a0 hst
                    go_upto_region 22 with (go_at_call 18; refine hnx.mono ?_; rintro e7 w7 ⟨rfl, rfl⟩)
                    clear d2 d3 x2 hnx u1 u1' u2 u2' u3
                    cases eb
                    all_goals
                      go_quiet ((first | (go_at_call 15; refine Calls.quiet_of_same (hdn _)) | (go_at_call 16; refine Calls.quiet_of_same (hrn _))))
                      go_wp2_with fail
                      go_roundg (L + 1 - (i + 1))
                      case measure => have := AZg.out; have := AGK.out; omega
                      case rel => exact ⟨i + 1, tn, by go_num, rfl, (show i + 1 + (L + 1 - (i + 1)) = L + 1 by have := AZg.out; omega), AZ.out nq⟩
                  · have u1 : ((tn : Int) < (ol : Int)) = False := eq_false (by omega)
                    have u1' : (tn < ol) = False := eq_false (by omega)
                    clear hI hco hoN hrz5 hbel5 hog hinf5 hc5 hz1 hz1o hz1n hzo hzt htso htsl hatl hz1t hol htl9 htn hat9 heb hlast ap a0 hst
                    go_upto_region 22 with (go_at_call 18; refine hnx.mono ?_; rintro e7 w7 ⟨rfl, rfl⟩)
                    clear d2 d3 hnx u1 u1'
                    cases eb
                    all_goals
                      go_quiet ((first | (go_at_call 15; refine Calls.quiet_of_same (hdn _)) | (go_at_call 16; refine Calls.quiet_of_same (hrn _))))
                      go_wp2_with fail
                      go_roundg (L + 1 - (i + 1))
                      case measure => have := AZg.out; have := AGK.out; omega
                      case rel => exact ⟨i + 1, tn, by go_num, rfl, (show i + 1 + (L + 1 - (i + 1)) = L + 1 by have := AZg.out; omega), AZ.out nq⟩
        · -- it was over
          have r3 : ((i : Int) ≤ (ay : Int)) = False := eq_false (by omega)
          have r3' : (i ≤ ay) = False := eq_false (by omega)
          have r1 : ((y : Int) == 62) = false := by rw [beq_eq_false_iff_ne]; omega
          have hput := put_shut x wr hinf (by simp)
          have hnx := next_no wr hinf (fun x => by simp)
          have d2 := hrz.c2
          rw [← htz] at d2
          have u1 : ((told : Int) < (told : Int)) = False := eq_false (by omega)
          have u1' : (told < told) = False := eq_false (by omega)
          have AQ : Aside (Inf wr B D b R (Bb.take (atC L z + 1)) M z .over ∧ Rz wr base Q (some ⟨ab, ao, none⟩) L C z oa oc ta tc ∧ Below B w wr ∧ atC L z ≤ i ∧ i < L ∧ told = z.out.length) := ⟨hinf, hrz, hbel, by omega, hi, htz⟩
          clear hSt hiL hrz hbel a0 hi hx256 hx hcB cx0 hlt htake hinf htz hai hay hy hret hlB
          go_wp2_with (go_at_call 17; refine hput.mono ?_; rintro e2 w2 ⟨rfl, rfl⟩)
          go_loopg [5] 0 (fun gg s5 wr' => s5 = .int .i64 (told : Int) ∧ wr' = wr)
          case atStart => exact ⟨rfl, rfl⟩
          case round =>
            obtain ⟨rfl, rfl⟩ := hrel
            go_upto_region 22 with (go_at_call 18; refine hnx.mono ?_; rintro e7 w7 ⟨rfl, rfl⟩)
            clear d2 hnx hput u1 u1' c4 c5 r1 r3 r3' cx t1 t1'
            have aq := AQ.out
            have hdn : ∀ n, Calls Tryd.prog 15 #[.pointer (some ⟨D, 0, none⟩)] (wr.drewN n) fun e w' => e = .returned (.bool (endC z)) ∧ w' = wr.drewN n := fun n => (pdone_c _ (aq.1.kp (Kp.drawn ⟨n, rfl⟩))).mono fun e w' h => ⟨h.1, h.2.symm⟩
            have hrn : ∀ n, Calls Tryd.prog 16 #[.pointer (some ⟨D, 0, none⟩)] (wr.drewN n) fun e w' => e = .returned (.int .i64 (whyC z : Nat)) ∧ w' = wr.drewN n := fun n => (reason_c _ (aq.1.kp (Kp.drawn ⟨n, rfl⟩))).mono fun e w' h => ⟨h.1, h.2.symm⟩
            have x5 := aq.2.1.c5
            have x6 := aq.2.1.c6
            have hwe := why_end aq.1.over_st aq.1.why_ne
            obtain ⟨at9, hat9⟩ : ∃ at9, atC L z = at9 := ⟨_, rfl⟩
            obtain ⟨y9, hy9⟩ : ∃ y9, whyC z = y9 := ⟨_, rfl⟩
            rw [hat9] at x5
            rw [hy9] at hrn hwe
            have k1 : ((at9 : Int) ≤ (i : Int)) = True := eq_true (by have := aq.2.2.2.1; omega)
            have k1' : (at9 ≤ i) = True := eq_true (by have := aq.2.2.2.1; omega)
            have AZ : Aside (StR w Bb L N M B D b R base Q (some ⟨ab, ao, none⟩) C z oa oc ta tc (i + 1) (told) wr) := ⟨aq.2.2.2.2.1, aq.2.1, aq.2.2.1, Or.inr ⟨aq.1, aq.2.2.2.2.2, by have := aq.2.2.2.1; omega⟩⟩
            have AZg : Aside (i < L) := aq.2.2.2.2.1
            clear aq hat9 hy9
            rcases hwe with ⟨he, hy⟩ | ⟨he, hy⟩
            · rw [he] at hdn x6
              subst hy
              have hrn0 : ∀ n, Calls Tryd.prog 16 #[.pointer (some ⟨D, 0, none⟩)] (wr.drewN n) fun e w' => e = .returned (.int .i64 0) ∧ w' = wr.drewN n := hrn
              clear hrn he
              go_quiet ((first | (go_at_call 15; refine Calls.quiet_of_same (hdn _)) | (go_at_call 16; refine Calls.quiet_of_same (hrn0 _))))
              have AZ2 : Aside (StR w Bb L N M B D b R base Q (some ⟨ab, ao, none⟩) C z oa oc ta tc (i + 1) (told) (wr.drewN nq)) := ⟨AZ.out.1, AZ.out.2.1.drewN nq, ⟨AZ.out.2.2.1.os, AZ.out.2.2.1.tape, AZ.out.2.2.1.output, AZ.out.2.2.1.size, AZ.out.2.2.1.block⟩, by
                rcases AZ.out.2.2.2 with ⟨c, h1, h2⟩ | ⟨h1, h2⟩
                · exact Or.inl ⟨c, h1.kp (Kp.drawn ⟨nq, rfl⟩), h2⟩
                · exact Or.inr ⟨h1.kp (Kp.drawn ⟨nq, rfl⟩), h2⟩⟩
              go_wp2_with fail
              go_roundg (L + 1 - (i + 1))
              case measure => have := AZg.out; have := AGK.out; omega
              case rel => exact ⟨i + 1, told, by go_num, rfl, (show i + 1 + (L + 1 - (i + 1)) = L + 1 by have := AZg.out; omega), AZ2.out⟩
            · rw [he] at hdn x6
              have k2 : ((y9 : Int) != 0) = true := by rw [bne_iff_ne]; omega
              have k2' : ((y9 : Int) == 0) = false := by rw [beq_eq_false_iff_ne]; omega
              clear he hy
              go_quiet ((first | (go_at_call 15; refine Calls.quiet_of_same (hdn _)) | (go_at_call 16; refine Calls.quiet_of_same (hrn _))))
              have AZ2 : Aside (StR w Bb L N M B D b R base Q (some ⟨ab, ao, none⟩) C z oa oc ta tc (i + 1) (told) (wr.drewN nq)) := ⟨AZ.out.1, AZ.out.2.1.drewN nq, ⟨AZ.out.2.2.1.os, AZ.out.2.2.1.tape, AZ.out.2.2.1.output, AZ.out.2.2.1.size, AZ.out.2.2.1.block⟩, by
                rcases AZ.out.2.2.2 with ⟨c, h1, h2⟩ | ⟨h1, h2⟩
                · exact Or.inl ⟨c, h1.kp (Kp.drawn ⟨nq, rfl⟩), h2⟩
                · exact Or.inr ⟨h1.kp (Kp.drawn ⟨nq, rfl⟩), h2⟩⟩
              go_wp2_with fail
              go_roundg (L + 1 - (i + 1))
              case measure => have := AZg.out; have := AGK.out; omega
              case rel => exact ⟨i + 1, told, by go_num, rfl, (show i + 1 + (L + 1 - (i + 1)) = L + 1 by have := AZg.out; omega), AZ2.out⟩
    · -- all bytes were put in
      have hiL' : L = i := by omega
      subst hiL'
      have hlB : B ≤ wr.heap.size := by rw [← a0.2.2.2.2.2.2.1]; exact hbel.size
      have hst := A2.out.2.2.2.1
      have hboth : told = z.out.length ∧ Calls Tryd.prog 19 #[.pointer (some ⟨D, 0, none⟩)] wr fun e w' => e = .returned (.tuple #[]) ∧ ∃ I c q, Inf w' B D b R I M c q ∧ whyM q c = whyC z ∧ doneM q c = endC z ∧ Fm B wr w' := by
        rcases hway with ⟨c, hinf, hct, htN, hia⟩ | ⟨hinf, htz, hai⟩
        · obtain ⟨zi, hzi, hzo, hzn⟩ := hinf.stands (N := N) (by omega) (by omega)
          rw [show Bb.take L = Bb by rw [← a0.2.1]; exact List.take_length] at hzi
          have hzz := hst.one hzi
          rw [← hzz] at hzo hzn
          obtain ⟨_, hwy, hen⟩ := open_at (L := L) hzn
          refine ⟨by rw [hzo, hct], (end_open wr hinf).mono ?_⟩
          rintro e w' ⟨rfl, h1, h2⟩
          exact ⟨rfl, _, _, _, h1, hwy.symm, hen.symm, h2⟩
        · refine ⟨htz, (end_shut wr hinf (by simp)).mono ?_⟩
          rintro e w' ⟨rfl, rfl⟩
          exact ⟨rfl, _, _, _, hinf, rfl, rfl, Fm.refl B wr⟩
      obtain ⟨htz, hend⟩ := hboth
      have t1 : ((L : Int) < (L : Int)) = False := eq_false (by omega)
      have t1' : (L < L) = False := eq_false (by omega)
      have AE : Aside (Rz wr base Q a L C z oa oc ta tc ∧ Below B w wr ∧ B ≤ wr.heap.size ∧ Tabs w ∧ 7 ≤ B ∧ told = z.out.length) := ⟨hrz, hbel, hlB, a0.2.2.2.2.1, a0.2.2.2.2.2.2.2.2, htz⟩
      clear hSt hiL hrz hbel a0 hi hlB hst hway htz
      go_upto_region 25 with (go_at_call 19; refine hend.mono ?_; rintro e4 w4 ⟨rfl, I4, c4, q4, hinf4, hy4, hd4, hf4⟩)
      have hrz4 := AE.out.1.fm hf4 A2.out.2.2.2.2
      have hbel4 := AE.out.2.1.trans (hf4.below AE.out.2.2.1)
      have hbel5 : Below B w w4.drew := ⟨hbel4.os, hbel4.tape, hbel4.output, hbel4.size, hbel4.block⟩
      have hin5 : Inf w4.drew B D b R I4 M c4 q4 := hinf4.kp ⟨Nat.le_refl _, fun _ _ => Or.inl rfl⟩
      have hrn : Calls Tryd.prog 16 #[.pointer (some ⟨D, 0, none⟩)] w4.drew fun e w' => e = .returned (.int .i64 (whyC z : Nat)) ∧ w4.drew = w' := by rw [← hy4]; exact reason_c _ hin5
      have hdn : Calls Tryd.prog 15 #[.pointer (some ⟨D, 0, none⟩)] w4.drew fun e w' => e = .returned (.bool (endC z)) ∧ w4.drew = w' := by rw [← hd4]; exact pdone_c _ hin5
      have haw := awake_c w4.drew (AE.out.2.2.2.1.below hbel5 AE.out.2.2.2.2.1)
      have htz := AE.out.2.2.2.2.2
      have hrz5 := hrz4.drew
      have d2 := hrz5.c2
      have d4 := hrz5.c4
      have d6 := hrz5.c6
      rw [← htz] at d2
      obtain ⟨y9, hy9⟩ : ∃ y9, whyC z = y9 := ⟨_, rfl⟩
      obtain ⟨eb, heb⟩ : ∃ eb, endC z = eb := ⟨_, rfl⟩
      rw [hy9] at d4 hrn
      rw [heb] at d6 hdn
      have hk : Aside (∀ u, Below w4.drew.heap.size w4.drew u → u.cell? ⟨Q, 2, none⟩ = some (.slice oa told oc) ∧ u.cell? ⟨Q, 4, none⟩ = some (.int .i64 (y9 : Nat)) ∧ u.cell? ⟨Q, 6, none⟩ = some (.bool eb)) := fun u hu => by
        have h := hrz5.below hu (Nat.le_refl _)
        have e2 := h.c2
        have e4 := h.c4
        have e6 := h.c6
        rw [← htz] at e2
        rw [hy9] at e4
        rw [heb] at e6
        exact ⟨e2, e4, e6⟩
      have AF : Aside (Below B w w4.drew ∧ B ≤ w4.drew.heap.size) := ⟨hbel5, by have := hin5.lt; omega⟩
      clear hrz4 hbel4 hbel5 hin5 hinf4 hy4 hd4 hf4 hrz5 htz hy9 heb hend t1 t1'
      cases eb
      · go_region_held3 (fun u => u.cell? ⟨Q, 2, none⟩ = some (.slice oa told oc) ∧ u.cell? ⟨Q, 4, none⟩ = some (.int .i64 (y9 : Nat)) ∧ u.cell? ⟨Q, 6, none⟩ = some (.bool false)) (first | assumption | exact ⟨d2, d4, d6⟩ | exact hk.out _ hb5)
          (first
            | (go_at_call 16; refine hrn.mono ?_; rintro e5 w5 ⟨rfl, rfl⟩)
            | (go_at_call 15; refine hdn.mono ?_; rintro e5 w5 ⟨rfl, rfl⟩)
            | (go_at_call 13; refine haw.mono ?_; rintro e5 w5 ⟨rfl, hb5⟩))
        all_goals
          first | go_ret | go_ret2 | (go_wp2; go_ret)
          exact ⟨rfl, AF.out.1.trans (hb5.mono AF.out.2)⟩
      · go_region_held3 (fun u => u.cell? ⟨Q, 2, none⟩ = some (.slice oa told oc) ∧ u.cell? ⟨Q, 4, none⟩ = some (.int .i64 (y9 : Nat)) ∧ u.cell? ⟨Q, 6, none⟩ = some (.bool true)) (first | assumption | exact ⟨d2, d4, d6⟩ | exact hk.out _ hb5)
          (first
            | (go_at_call 16; refine hrn.mono ?_; rintro e5 w5 ⟨rfl, rfl⟩)
            | (go_at_call 15; refine hdn.mono ?_; rintro e5 w5 ⟨rfl, rfl⟩)
            | (go_at_call 13; refine haw.mono ?_; rintro e5 w5 ⟨rfl, hb5⟩))
        all_goals
          first | go_ret | go_ret2 | (go_wp2; go_ret)
          exact ⟨rfl, AF.out.1.trans (hb5.mono AF.out.2)⟩
end Go.Proofs.YtikdpnpkmmmacaaDoor

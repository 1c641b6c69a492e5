/-
  InflatePlays' call: whatever is called, beside the document's answers.
-/
import Derived.Test.YtikdpnpkmmmacaaDoorPRz
import Derived.Test.YtikdpnpkmmmacaaDoorPRst
import Derived.Test.YtikdpnpkmmmacaaDoorPPly
import Derived.Test.YtikdpnpkmmmacaaDoorMs
import Derived.Deep.CutBlock
import Derived.Deep.CutRange
namespace Go.Proofs.YtikdpnpkmmmacaaDoor
open Go.RowKit
set_option linter.unusedVariables false
/-- Calls as they lie: two bytes each. -/
def Acts (w : World) (a : Option Addr) (As : List (Nat × Nat)) : Prop := As = [] ∨ ∃ b o, a = some ⟨b, o, none⟩ ∧ ∀ (i k x : Nat), As[i]? = some (k, x) → w.cell? ⟨b, o + i * 2, none⟩ = some (.int .u8 (k : Int)) ∧ w.cell? ⟨b, o + i * 2 + 1, none⟩ = some (.int .u8 (x : Int))
/-- The state between the calls. -/
def StP (w : World) (N M B D b R : Nat) (v4 : Value) (Q tn : Nat) (t : Bool) (n : Nat) (wr : World) : Prop :=
  ∃ (I : List Nat) (z c : Cfg) (q : Md) (o : List Nat) (base : Nat) (a : Option Addr) (L C : Nat) (oa : Option Addr) (oc : Nat) (ta : Option Addr) (tc : Nat),
    Ob wr (B + 4) v4 I ∧ o.length = tn ∧ Inf wr B D b R I M c q ∧ Rz wr base Q a L C z oa oc ta tc ∧ Stands I N z ∧ whyC z ≠ 62 ∧ Sy z c q o t ∧ Below B w wr ∧ B + 4 ≤ base ∧ I.length ≤ n ∧ Oct I
theorem stands_nil (N : Nat) : Stands [] N c0 := ⟨Runs.refl _, rfl⟩
theorem Pd.start {c : Cfg} (h : c.out = []) : Pd [] c .want := Or.inr ⟨Or.inr rfl, h⟩
theorem stp_fresh {w u w4 : World} {N M B D b R Q : Nat} {s : Rs} {vO vT : Value} {z : Cfg} (n : Nat) (hin : Inf u B D b R [] M c0 .want) (hbw : Below B w u) (hM : N ≤ M) (hr2 : Rn w4 u.heap.size Q none 0 0 N s vO vT) (hb2 : Below u.heap.size u w4) (hst : Stands [] N z)
    (h1 : s.out = z.out) (h2 : s.times = z.times) (h3 : s.why = whyC z) (h4 : s.at_ = atC 0 z) (h5 : s.ended = endC z) : StP w N M B D b R (.slice none 0 0) Q 0 false n w4 := by
  obtain ⟨oa, oc, ta, tc, rfl, rfl, hrz⟩ := Rz.of hr2 h1 h2 h3 h4 h5
  have hin2 := hin.kp (Kp.of_below (B := B) hb2 (Nat.le_refl _))
  have hzc := hst.one (stands_nil N)
  have h62 : whyC z ≠ 62 := by rw [hzc]; decide
  exact ⟨[], z, c0, .want, [], u.heap.size, none, 0, 0, oa, oc, ta, tc, Ob.nil hin2.lt, rfl, hin2, hrz, hst, h62, sy_of hin2 hM hst h62 (Pd.start rfl), hbw.trans (hb2.mono (by have := hin.lt; omega)), hin.lt, Nat.zero_le _, fun x hx => by cases hx⟩
/-- What a Sy says of the next answers. -/
theorem sy_case {z c : Cfg} {q : Md} {o : List Nat} {t : Bool} (h : Sy z c q o t) :
    (∃ x, q = .wait x ∧ o.length < z.out.length ∧ t = false ∧ z.out[o.length]? = some x ∧ c.out = o ++ [x]) ∨ (q = .want ∧ z.out.length = o.length ∧ endC z = false ∧ whyC z = 1 ∧ t = false)
    ∨ (q ≠ .want ∧ (∀ x, q ≠ .wait x) ∧ z.out.length = o.length ∧ (endC z || decide (whyC z ≠ 1) || t) = true) := by
  rcases h with ⟨x, rfl, h1, ⟨r, hr⟩, h3⟩ | ⟨rfl, h1, h2, h3, h4, h5⟩ | ⟨rfl, rfl, h2, h3, h4⟩ | ⟨rfl, h1, h2, h3, h4, h5⟩
  · refine Or.inl ⟨x, rfl, ?_, h3, ?_, h1⟩
    · rw [← hr]; simp
    · rw [← hr, List.append_assoc, List.getElem?_append_right (Nat.le_refl _), Nat.sub_self]; rfl
  · exact Or.inr (Or.inl ⟨rfl, by rw [h2], h3, h4, h5⟩)
  · refine Or.inr (Or.inr ⟨by simp, by simp, by rw [h2], ?_⟩)
    rcases h4 with ⟨e, _⟩ | ⟨e, _, e2⟩
    · rw [e]; simp
    · rw [decide_eq_true e2]; simp
  · exact Or.inr (Or.inr ⟨by simp, by simp, by rw [h2], by rw [h5]; simp⟩)
set_option maxRecDepth 100000 in
set_option maxHeartbeats 4000000 in
theorem plays_core (w : World) (ht : Tabs w) (a : Option Addr) (As : List (Nat × Nat)) (L C : Nat) (hA : Acts w a As) (hL : As.length = L) (hLb : L ≤ 9223372036854775807) (ho : ∀ p ∈ As, p.1 < 256 ∧ p.2 < 256) :
    Calls Tryd.prog 5 #[.slice a L C] w fun e w' => e = .returned (.bool true) ∧ Below w.heap.size w w' := by
  obtain ⟨N, hN⟩ : ∃ N, N = (1048576 : Int).toNat := ⟨_, rfl⟩
  have hN2 : N = 1048576 := hN
  obtain ⟨M, hM⟩ : ∃ M, N + 3 = M := ⟨_, rfl⟩
  have hnew := new_i M w ht
  obtain ⟨B, hBe⟩ : ∃ B, w.heap.size = B := ⟨_, rfl⟩
  obtain ⟨D, hD⟩ : ∃ D, B + 3 = D := ⟨_, rfl⟩
  obtain ⟨b, hb⟩ : ∃ b, B + 2 = b := ⟨_, rfl⟩
  obtain ⟨R, hR⟩ : ∃ R, B + 1 = R := ⟨_, rfl⟩
  rw [hBe, hD, hb, hR] at hnew
  rw [hBe]
  have A : Aside (Acts w a As ∧ As.length = L ∧ L ≤ 9223372036854775807 ∧ (∀ p ∈ As, p.1 < 256 ∧ p.2 < 256) ∧ Tabs w ∧ N + 3 = M ∧ w.heap.size = B ∧ N = 1048576 ∧ 7 ≤ B) := ⟨hA, hL, hLb, ho, ht, hM, hBe, hN2, by have := ht.lt; omega⟩
  have ANI : Aside (N = (1048576 : Int).toNat) := hN
  have hLI : (L : Int) < 9223372036854775808 := by omega
  clear hA hL hLb ho hM hBe hD hb hR ht hN hN2
  go_enter Tryd.func5, Tryd.ntmps5
  go_upto_region 5 with (go_at_call 14; refine hnew.mono ?_; rintro e1 w1 ⟨rfl, hinf1, hb1⟩)
  have hof0 : ∀ u, Calls Tryd.prog 10 #[.slice none 0 0, .int .i64 1048576] u fun e w' => OfSt [] none 0 0 N u e w' := fun u => by
    have := of_st (w := u) (a := none) (B := []) (L := 0) (C := 0) (1048576 : Int) (by decide) (Or.inl rfl) rfl (by decide) (fun x hx => by cases hx)
    rwa [← ANI.out] at this
  have AOF : Aside (∀ u, Calls Tryd.prog 10 #[.slice none 0 0, .int .i64 1048576] u fun e w' => OfSt [] none 0 0 N u e w') := hof0
  have hof1 := hof0 w1
  have A1 : Aside (Inf w1 B D b R [] M c0 .want ∧ Below B w w1) := ⟨hinf1, hb1⟩
  clear hinf1 hb1 hnew hof0
  go_upto_region 6 with (go_at_call 10; refine hof1.mono ?_; rintro e2 w2 ⟨Q, s, vO, vT, z, rfl, hr2, hb2, hst, h1, h2, h3, h4, h5⟩)
  have hStart : StP w N M B D b R (.slice none 0 0) Q 0 false 0 w2 := by
    exact stp_fresh 0 A1.out.1 A1.out.2 (by have := A.out; omega) hr2 hb2 hst h1 h2 h3 h4 h5
  have AS : Aside (StP w N M B D b R (.slice none 0 0) Q 0 false 0 w2) := hStart
  clear hStart hof1 hr2 hb2 hst h1 h2 h3 h4 h5
  go_wp2_with fail
  go_loopg [4, 5, 6, 7, 8] (401) (fun gg s4 s5 s6 s7 s8 wr => ∃ (i Q tn : Nat) (t : Bool), s5 = .pointer (some ⟨Q, 0, none⟩) ∧ s6 = .int .i64 (tn : Int) ∧ s7 = .bool t ∧ s8 = .int .i64 (i : Int) ∧ Aside (i + gg = 401 ∧ i ≤ 400) ∧ Aside (StP w N M B D b R s4 Q tn t i wr))
  case atStart => exact ⟨0, Q, 0, false, rfl, rfl, rfl, rfl, ⟨by omega, by omega⟩, AS.out⟩
  case round =>
    obtain ⟨i, Q, tn, t, rfl, rfl, rfl, rfl, AGK, hSt⟩ := hrel
    by_cases hi : i < L ∧ i < 400
    · have t1 : ((i : Int) < (L : Int)) = True := eq_true (by omega)
      have t1' : (i < L) = True := eq_true hi.1
      have t2 : ((i : Int) < 400) = True := eq_true (by omega)
      have t2' : (i < 400) = True := eq_true hi.2
      have a0 := A.out
      obtain ⟨⟨k, x⟩, hx⟩ : ∃ p, As[i]? = some p := ⟨_, List.getElem?_eq_getElem (by omega)⟩
      have hkx := a0.2.2.2.1 _ (List.mem_of_getElem? hx)
      obtain ⟨ab, ao, ha, hcA⟩ : ∃ b o, a = some ⟨b, o, none⟩ ∧ ∀ (i k x : Nat), As[i]? = some (k, x) → w.cell? ⟨b, o + i * 2, none⟩ = some (.int .u8 (k : Int)) ∧ w.cell? ⟨b, o + i * 2 + 1, none⟩ = some (.int .u8 (x : Int)) := by
        rcases a0.1 with e | h
        · rw [e] at hx; simp at hx
        · exact h
      subst ha
      obtain ⟨cK0, cX0⟩ := hcA i k x hx
      have hlt : ab < B := by rw [← a0.2.2.2.2.2.2.1]; exact World.block_lt_of_cell? w ⟨ab, ao + i * 2, none⟩ cK0
      have hcell : ∀ u, Below B w u → u.cell? ⟨ab, ao + i * 2, none⟩ = some (.int .u8 (k : Int)) ∧ u.cell? ⟨ab, ao + i * 2 + 1, none⟩ = some (.int .u8 (x : Int)) := fun u hu => ⟨(hu.cell (p := ⟨ab, ao + i * 2, none⟩) hlt).trans cK0, (hu.cell (p := ⟨ab, ao + i * 2 + 1, none⟩) hlt).trans cX0⟩
      obtain ⟨I, z, c, q, o, base, ra, rL, rC, oa, oc, ta, tc, hob, hol, hinf, hrz, hst, h62, hsy, hbel, hbase, hIn, hoI⟩ := hSt.out
      have cK := (hcell wr hbel).1
      have cX := (hcell wr hbel).2
      have d2 := hrz.c2
      have d4 := hrz.c4
      have d6 := hrz.c6
      obtain ⟨zl, hzl⟩ : ∃ zl, z.out.length = zl := ⟨_, rfl⟩
      obtain ⟨y, hy⟩ : ∃ y, whyC z = y := ⟨_, rfl⟩
      obtain ⟨eb, heb⟩ : ∃ eb, endC z = eb := ⟨_, rfl⟩
      rw [hzl] at d2
      rw [hy] at d4
      rw [heb] at d6
      have hiI : (i : Int) < 400 := by omega
      have htnI : tn ≤ 1048576 := by
        have h1 := stands_most hst
        have h2 : o.length ≤ z.out.length := by
          rcases hsy with ⟨x, _, _, h, _⟩ | ⟨_, _, h, _⟩ | ⟨_, _, h, _⟩ | ⟨_, _, h, _⟩
          · have := h.length_le; rw [List.length_append] at this; omega
          · rw [h]; omega
          · rw [h]; omega
          · rw [h]; omega
        omega
      have htnI' : (tn : Int) ≤ 1048576 := by omega
      obtain ⟨k8, hk8⟩ : ∃ k8, k % 8 = k8 := ⟨_, rfl⟩
      have hk8b : k8 < 8 := by rw [← hk8]; exact Nat.mod_lt _ (by decide)
      have hrem : Int.tmod (k : Int) 8 = (k8 : Int) := by rw [← hk8, Int.tmod_eq_emod_of_nonneg (by omega)]; omega
      have ACL : Aside (∀ u, Below B w u → u.cell? ⟨ab, ao + i * 2, none⟩ = some (.int .u8 (k : Int)) ∧ u.cell? ⟨ab, ao + i * 2 + 1, none⟩ = some (.int .u8 (x : Int))) := hcell
      obtain ⟨wb, hwb⟩ : ∃ wb, decide ((tn : Int) < (zl : Int)) = wb := ⟨_, rfl⟩
      obtain ⟨ov, hov⟩ : ∃ ov, (eb || decide (y ≠ 1) || t) = ov := ⟨_, rfl⟩
      have hcase : (∃ x1, q = .wait x1 ∧ wb = true ∧ t = false ∧ z.out[tn]? = some x1 ∧ c.out = o ++ [x1] ∧ tn < zl) ∨ (q = .want ∧ wb = false ∧ ov = false ∧ t = false) ∨ (q ≠ .want ∧ (∀ x, q ≠ .wait x) ∧ wb = false ∧ ov = true) := by
        rcases sy_case hsy with ⟨x1, h1, h2, h3, h4, h5⟩ | ⟨h1, h2, h3, h4, h5⟩ | ⟨h1, h2, h3, h4⟩
        · rw [hol] at h2 h4
          rw [hzl] at h2
          exact Or.inl ⟨x1, h1, by rw [← hwb]; exact decide_eq_true (by omega), h3, h4, h5, h2⟩
        · refine Or.inr (Or.inl ⟨h1, by rw [← hwb]; exact decide_eq_false (by omega), ?_, h5⟩)
          rw [← hov, ← heb, ← hy, h3, h4, h5]; rfl
        · refine Or.inr (Or.inr ⟨h1, h2, by rw [← hwb]; exact decide_eq_false (by omega), ?_⟩)
          rw [← hov, ← heb, ← hy]; exact h4
      have AC : Aside ((∃ x1, q = .wait x1 ∧ wb = true ∧ t = false ∧ z.out[tn]? = some x1 ∧ c.out = o ++ [x1] ∧ tn < zl) ∨ (q = .want ∧ wb = false ∧ ov = false ∧ t = false) ∨ (q ≠ .want ∧ (∀ x, q ≠ .wait x) ∧ wb = false ∧ ov = true)) := hcase
      have AOV : Aside ((eb || decide (y ≠ 1) || t) = ov) := hov
      have AX : Aside (Ob wr (B + 4) u4 I ∧ o.length = tn ∧ Inf wr B D b R I M c q ∧ Rz wr base Q ra rL rC z oa oc ta tc ∧ Stands I N z ∧ whyC z ≠ 62 ∧ Sy z c q o t ∧ Below B w wr ∧ B + 4 ≤ base ∧ I.length ≤ i ∧ Oct I ∧ z.out.length = zl ∧ whyC z = y ∧ endC z = eb ∧ i < 400 ∧ x < 256 ∧ k8 < 8) := ⟨hob, hol, hinf, hrz, hst, h62, hsy, hbel, hbase, hIn, hoI, hzl, hy, heb, hi.2, hkx.2, hk8b⟩
      have AS0 : Aside (StP w N M B D b R u4 Q tn t (i + 1) wr) := ⟨I, z, c, q, o, base, ra, rL, rC, oa, oc, ta, tc, hob, hol, hinf, hrz, hst, h62, hsy, hbel, hbase, by omega, hoI⟩
      have hwb' : decide (tn < zl) = wb := by rw [← hwb]; exact decide_eq_decide.2 (by omega)
      clear hSt a0 hx hkx hcA cK0 cX0 hlt hob hol hinf hrz hst h62 hsy hbel hbase hIn hoI hzl hy heb hk8 htnI hcell hcase hov hi hk8b
      go_upto_region 11 with fail
      clear hwb hwb' t2 t2'
      go_cut [10] from 18 to 191 (fun s10 wx => s10 = .bool ov ∧ wr = wx)
      case first =>
        clear cK cX hrem
        cases eb
        · by_cases hy1 : y = 1
          · have e1 : ((y : Int) == 1) = true := by rw [beq_iff_eq]; omega
            have e1' : ((y : Int) != 1) = false := by rw [bne, e1]; rfl
            have AT : Aside (t = ov) := (show t = ov by rw [← AOV.out, hy1]; rfl)
            clear hy1
            go_wp2_with fail
            go_meet
            case rel => exact ⟨by rw [AT.out], rfl⟩
          · have e1 : ((y : Int) == 1) = false := by rw [beq_eq_false_iff_ne]; omega
            have e1' : ((y : Int) != 1) = true := by rw [bne, e1]; rfl
            have AT : Aside (true = ov) := (show true = ov by rw [← AOV.out, decide_eq_true hy1]; rfl)
            clear hy1
            go_wp2_with fail
            go_meet
            case rel => exact ⟨by rw [AT.out], rfl⟩
        · have AT : Aside (true = ov) := (show true = ov by rw [← AOV.out]; rfl)
          go_wp2_with fail
          go_meet
          case rel => exact ⟨by rw [AT.out], rfl⟩
      case rest =>
        obtain ⟨h10, hwc⟩ := hcut
        subst h10
        subst hwc
        go_upto_block 2 with fail
        go_cut [4, 5, 6, 7, 11, 12] from 18 to 191 (fun s4 s5 s6 s7 s11 s12 wx => ∃ (Q tn : Nat) (t : Bool), s5 = .pointer (some ⟨Q, 0, none⟩) ∧ s6 = .int .i64 (tn : Int) ∧ s7 = .bool t ∧ Aside (StP w N M B D b R s4 Q tn t (i + 1) wx))
        case first =>
          have hk : k8 = 7 ∨ k8 = 6 ∨ k8 = 5 ∨ k8 = 4 ∨ k8 < 4 := by have := AX.out.2.2.2.2.2.2.2.2.2.2.2.2.2.2.2.2; omega
          rcases hk with rfl | rfl | rfl | rfl | hk4
          · as_aux_lemma =>
              have hrs := reset_c wr AX.out.2.2.1
              clear d2 d4 d6 cK cX hrem
              go_wp2_with (first
                | (go_at_call 20; refine hrs.mono ?_; rintro e3 w3 ⟨rfl, hin3, hf3⟩
                   have h10 := AOF.out w3
                   have A3 : Aside (Inf w3 B D b R [] M c0 .want ∧ Fm B wr w3) := ⟨hin3, hf3⟩
                   clear hin3 hf3)
                | (go_at_call 10; refine h10.mono ?_; rintro e4 w4 ⟨Q4, s4, vO, vT, z4, rfl, hr4, hb4, hst4, h1, h2, h3, h4, h5⟩))
              have AZ : Aside (StP w N M B D b R (.slice none 0 0) Q4 0 false (i + 1) w4) := stp_fresh (i + 1) A3.out.1 (AX.out.2.2.2.2.2.2.2.1.trans (A3.out.2.below (by have := AX.out.2.2.1.lt; omega))) (by have := A.out; omega) hr4 hb4 hst4 h1 h2 h3 h4 h5
              go_meet
              case rel => exact ⟨Q4, 0, false, rfl, rfl, rfl, AZ.out⟩
          · as_aux_lemma =>
              rcases AC.out with ⟨x1, hq, rfl, rfl, _, _, _⟩ | ⟨rfl, rfl, rfl, rfl⟩ | ⟨hqn, hnw, rfl, rfl⟩
              · have hen := end_shut wr AX.out.2.2.1 (by rw [hq]; simp)
                clear d2 d4 d6 cK cX hrem hq
                go_wp2_with (go_at_call 19; refine hen.mono ?_; rintro e3 w3 ⟨rfl, rfl⟩)
                go_meet
                case rel => exact ⟨Q, tn, false, rfl, rfl, rfl, AS0.out⟩
              · have hen := end_open wr AX.out.2.2.1
                clear d2 d4 d6 cK cX hrem
                go_wp2_with (go_at_call 19; refine hen.mono ?_; rintro e3 w3 ⟨rfl, hin3, hf3⟩)
                have AZ : Aside (StP w N M B D b R u4 Q tn true (i + 1) w3) := by
                  have ax := AX.out
                  obtain ⟨hw1, hw2⟩ : c.out = o ∧ z.out = o ∧ endC z = false ∧ whyC z = 1 := by
                    rcases ax.2.2.2.2.2.2.1 with ⟨x, h, _⟩ | ⟨_, h1, h2, h3, h4, _⟩ | ⟨h, _⟩ | ⟨h, _⟩
                    · cases h
                    · exact ⟨h1, h2, h3, h4⟩
                    · cases h
                    · cases h
                  exact ⟨I, z, c, .shut, o, base, ra, rL, rC, oa, oc, ta, tc, ax.1.fm hf3 (Nat.le_refl _), ax.2.1, hin3, ax.2.2.2.1.fm hf3 ax.2.2.2.2.2.2.2.2.1, ax.2.2.2.2.1, ax.2.2.2.2.2.1, Or.inr (Or.inr (Or.inr ⟨rfl, hw1, hw2.1, hw2.2.1, hw2.2.2, rfl⟩)), ax.2.2.2.2.2.2.2.1.trans (hf3.below (by have := ax.2.2.1.lt; omega)), ax.2.2.2.2.2.2.2.2.1, by have := ax.2.2.2.2.2.2.2.2.2.1; omega, ax.2.2.2.2.2.2.2.2.2.2.1⟩
                go_meet
                case rel => exact ⟨Q, tn, true, rfl, rfl, rfl, AZ.out⟩
              · have hen := end_shut wr AX.out.2.2.1 hqn
                clear d2 d4 d6 cK cX hrem hqn hnw
                cases t
                all_goals
                  go_wp2_with (go_at_call 19; refine hen.mono ?_; rintro e3 w3 ⟨rfl, rfl⟩)
                  go_meet
                  case rel => exact ⟨Q, tn, _, rfl, rfl, rfl, AS0.out⟩
          · as_aux_lemma =>
              have hnx3 : (∃ x1, q = .wait x1 ∧ wb = true ∧ t = false ∧ z.out[tn]? = some x1 ∧ c.out = o ++ [x1] ∧ tn < zl) ∨ ((∀ x, q ≠ .wait x) ∧ wb = false) := by
                rcases AC.out with h | ⟨hq, h1, _⟩ | ⟨_, h1, h2, _⟩
                · exact Or.inl h
                · exact Or.inr ⟨fun x => by rw [hq]; simp, h1⟩
                · exact Or.inr ⟨h1, h2⟩
              rcases hnx3 with ⟨x1, rfl, rfl, rfl, hx1, hcx1, htz⟩ | ⟨hnw, rfl⟩
              · have A1x : Aside (z.out[tn]? = some x1 ∧ c.out = o ++ [x1] ∧ tn < zl) := ⟨hx1, hcx1, htz⟩
                clear hx1 hcx1 htz
                have hnx := next_yes x1 wr AX.out.2.2.1 (by have := inf_le AX.out.2.2.1 (show N ≤ M by have := A.out; omega) AX.out.2.2.2.2.1 AX.out.2.2.2.2.2.1; have := A.out; omega)
                go_upto_region 23 with (go_at_call 18; refine hnx.mono ?_; rintro e3 w3 ⟨rfl, hf3, hgo3⟩)
                have hrz3 := AX.out.2.2.2.1.fm hf3 AX.out.2.2.2.2.2.2.2.2.1
                have x2 := hrz3.c2
                rw [AX.out.2.2.2.2.2.2.2.2.2.2.2.1] at x2
                obtain ⟨ob9, oo9, hoa9, hcO⟩ : ∃ b o, oa = some ⟨b, o, none⟩ ∧ ∀ (i x : Nat), z.out[i]? = some x → w3.cell? ⟨b, o + i, none⟩ = some (.int .u8 (x : Int)) := by
                  rcases hrz3.lies with e | h
                  · have := A1x.out.1; rw [e] at this; simp at this
                  · exact h
                rw [hoa9] at x2
                have x3 := hcO _ _ A1x.out.1
                have u2 : ((tn : Int) < (zl : Int)) = True := eq_true (by have := A1x.out.2.2; omega)
                have u2' : (tn < zl) = True := eq_true A1x.out.2.2
                obtain ⟨c4, q4, hi4, hp4⟩ := hgo3.pd
                rw [A1x.out.2.1] at hp4
                have AZ : Aside (StP w N M B D b R u4 Q (tn + 1) false (i + 1) w3) := ⟨I, z, c4, q4, o ++ [x1], base, ra, rL, rC, oa, oc, ta, tc, AX.out.1.fm hf3 (Nat.le_refl _), by rw [List.length_append, List.length_singleton, AX.out.2.1], hi4, hrz3, AX.out.2.2.2.2.1, AX.out.2.2.2.2.2.1, sy_of hi4 (by have := A.out; omega) AX.out.2.2.2.2.1 AX.out.2.2.2.2.2.1 hp4, AX.out.2.2.2.2.2.2.2.1.trans (hf3.below (by have := AX.out.2.2.1.lt; omega)), AX.out.2.2.2.2.2.2.2.2.1, by have := AX.out.2.2.2.2.2.2.2.2.2.1; omega, AX.out.2.2.2.2.2.2.2.2.2.2.1⟩
                clear hrz3 hcO hoa9 hi4 hp4 hgo3 hf3 hnx d2 d4 d6 cK cX hrem
                go_wp2_with fail
                go_meet
                case rel => exact ⟨Q, tn + 1, false, rfl, by go_num, rfl, AZ.out⟩
              · skip
                have hnx := next_no wr AX.out.2.2.1 hnw
                clear d2 d4 d6 cK cX hrem hnw
                go_wp2_with (go_at_call 18; refine hnx.mono ?_; rintro e3 w3 ⟨rfl, rfl⟩)
                go_meet
                case rel => exact ⟨Q, tn, t, rfl, rfl, rfl, AS0.out⟩
          · as_aux_lemma =>
              have hnx3 : (∃ x1, q = .wait x1 ∧ wb = true ∧ t = false ∧ z.out[tn]? = some x1 ∧ c.out = o ++ [x1] ∧ tn < zl) ∨ ((∀ x, q ≠ .wait x) ∧ wb = false) := by
                rcases AC.out with h | ⟨hq, h1, _⟩ | ⟨_, h1, h2, _⟩
                · exact Or.inl h
                · exact Or.inr ⟨fun x => by rw [hq]; simp, h1⟩
                · exact Or.inr ⟨h1, h2⟩
              rcases hnx3 with ⟨x1, rfl, rfl, rfl, hx1, hcx1, htz⟩ | ⟨hnw, rfl⟩
              · have A1x : Aside (z.out[tn]? = some x1 ∧ c.out = o ++ [x1] ∧ tn < zl) := ⟨hx1, hcx1, htz⟩
                clear hx1 hcx1 htz
                have hnx := next_yes x1 wr AX.out.2.2.1 (by have := inf_le AX.out.2.2.1 (show N ≤ M by have := A.out; omega) AX.out.2.2.2.2.1 AX.out.2.2.2.2.2.1; have := A.out; omega)
                go_upto_region 23 with (go_at_call 18; refine hnx.mono ?_; rintro e3 w3 ⟨rfl, hf3, hgo3⟩)
                have hrz3 := AX.out.2.2.2.1.fm hf3 AX.out.2.2.2.2.2.2.2.2.1
                have x2 := hrz3.c2
                rw [AX.out.2.2.2.2.2.2.2.2.2.2.2.1] at x2
                obtain ⟨ob9, oo9, hoa9, hcO⟩ : ∃ b o, oa = some ⟨b, o, none⟩ ∧ ∀ (i x : Nat), z.out[i]? = some x → w3.cell? ⟨b, o + i, none⟩ = some (.int .u8 (x : Int)) := by
                  rcases hrz3.lies with e | h
                  · have := A1x.out.1; rw [e] at this; simp at this
                  · exact h
                rw [hoa9] at x2
                have x3 := hcO _ _ A1x.out.1
                have u2 : ((tn : Int) < (zl : Int)) = True := eq_true (by have := A1x.out.2.2; omega)
                have u2' : (tn < zl) = True := eq_true A1x.out.2.2
                obtain ⟨c4, q4, hi4, hp4⟩ := hgo3.pd
                rw [A1x.out.2.1] at hp4
                have AZ : Aside (StP w N M B D b R u4 Q (tn + 1) false (i + 1) w3) := ⟨I, z, c4, q4, o ++ [x1], base, ra, rL, rC, oa, oc, ta, tc, AX.out.1.fm hf3 (Nat.le_refl _), by rw [List.length_append, List.length_singleton, AX.out.2.1], hi4, hrz3, AX.out.2.2.2.2.1, AX.out.2.2.2.2.2.1, sy_of hi4 (by have := A.out; omega) AX.out.2.2.2.2.1 AX.out.2.2.2.2.2.1 hp4, AX.out.2.2.2.2.2.2.2.1.trans (hf3.below (by have := AX.out.2.2.1.lt; omega)), AX.out.2.2.2.2.2.2.2.2.1, by have := AX.out.2.2.2.2.2.2.2.2.2.1; omega, AX.out.2.2.2.2.2.2.2.2.2.2.1⟩
                clear hrz3 hcO hoa9 hi4 hp4 hgo3 hf3 hnx d2 d4 d6 cK cX hrem
                go_wp2_with fail
                go_meet
                case rel => exact ⟨Q, tn + 1, false, rfl, by go_num, rfl, AZ.out⟩
              · skip
                have hnx := next_no wr AX.out.2.2.1 hnw
                clear d2 d4 d6 cK cX hrem hnw
                go_wp2_with (go_at_call 18; refine hnx.mono ?_; rintro e3 w3 ⟨rfl, rfl⟩)
                go_meet
                case rel => exact ⟨Q, tn, t, rfl, rfl, rfl, AS0.out⟩
          · as_aux_lemma =>
              have k4 : ((k8 : Int) == 4) = false := by rw [beq_eq_false_iff_ne]; omega
              have k5 : ((k8 : Int) == 5) = false := by rw [beq_eq_false_iff_ne]; omega
              have k6 : ((k8 : Int) == 6) = false := by rw [beq_eq_false_iff_ne]; omega
              have k7 : ((k8 : Int) == 7) = false := by rw [beq_eq_false_iff_ne]; omega
              clear hk4
              rcases AC.out with ⟨x1, hq, rfl, rfl, _, _, _⟩ | ⟨rfl, rfl, rfl, rfl⟩ | ⟨hqn, hnw, rfl, rfl⟩
              · have hput := put_shut x wr AX.out.2.2.1 (by rw [hq]; simp)
                clear d2 d4 d6 cK hrem hq
                go_wp2_with (go_at_call 17; refine hput.mono ?_; rintro e3 w3 ⟨rfl, rfl⟩)
                go_meet
                case rel => exact ⟨Q, tn, false, rfl, rfl, rfl, AS0.out⟩
              · have hput := put_any x AX.out.2.2.2.2.2.2.2.2.2.2.2.2.2.2.2.1 wr AX.out.2.2.1 (by have := inf_le AX.out.2.2.1 (show N ≤ M by have := A.out; omega) AX.out.2.2.2.2.1 AX.out.2.2.2.2.2.1; have := A.out; omega)
                clear d2 d4 d6 cK hrem
                go_upto_region 16 with (go_at_call 17; refine hput.mono ?_; rintro e3 w3 ⟨rfl, hf3, c3, q3, hin3, hp3⟩)
                have hb3 : Below B w w3 := AX.out.2.2.2.2.2.2.2.1.trans (hf3.below (by have := AX.out.2.2.1.lt; omega))
                have hob3 := AX.out.1.fm hf3 (Nat.le_refl _)
                obtain ⟨va, vc, hv, hvc, hlies3, hvn⟩ := hob3.shape
                obtain ⟨ln, hln⟩ : ∃ ln, I.length = ln := ⟨_, rfl⟩
                rw [hln] at hv
                subst hv
                have cX3 := (ACL.out w3 hb3).2
                obtain ⟨H, hH⟩ : ∃ H, w3.heap.size = H := ⟨_, rfl⟩
                have bal : Below w3.heap.size w3 (w3.alloc (.cells #[.int .u8 (x : Int)] 5)) := (Below.refl _ w3).alloc (Nat.le_refl _) _
                have hobA := hob3.below bal (Nat.le_refl _)
                have hlA : Lies (w3.alloc (.cells #[.int .u8 (x : Int)] 5)) (some ⟨H, 0, none⟩) [x] := Or.inr ⟨H, 0, rfl, fun k z hz => by
                  have hk : k = 0 := by have := (List.getElem?_eq_some_iff.1 hz).1; simp at this; exact this
                  subst hk
                  cases hz
                  rw [← hH, Nat.zero_add, (Cells.new w3 #[.int .u8 (x : Int)] 5).cell 0]
                  rfl⟩
                have AQ : Aside (Inf w3 B D b R (I ++ [x]) M c3 q3 ∧ Below B w w3 ∧ Pd c.out c3 q3 ∧ Kp B w3 (w3.alloc (.cells #[.int .u8 (x : Int)] 5)) ∧ Below B w3 (w3.alloc (.cells #[.int .u8 (x : Int)] 5)) ∧ I.length = ln ∧ w3.heap.size = H) := ⟨hin3, hb3, hp3, Kp.of_below bal (Nat.le_refl _), bal.mono (by have := hin3.lt; omega), hln, hH⟩
                have AL : Aside (I.length + 1 ≤ 140737488355328) := (show I.length + 1 ≤ 140737488355328 by have := AX.out.2.2.2.2.2.2.2.2.2.1; have := AX.out.2.2.2.2.2.2.2.2.2.2.2.2.2.2.1; omega)
                clear hput hf3 hin3 hp3 hob3 hvc hlies3 hvn bal hb3 cX
                go_upto_region 17 with (at_builtin; refine wpList_ob B _ rfl (.tmp 75) (.tmp 81) rfl (B + 4) (.slice va ln vc) I (by rfl) hobA (Nat.le_refl _) (some ⟨H, 0, none⟩) [x] 1 1 rfl (by rfl) (by intro h; cases h) hlA AL.out ?_; intro v6 w6 hap)
                have aq := AQ.out
                have hin6 := (aq.1.kp aq.2.2.2.1).kp hap.kp
                have hb6 : Below B w w6 := (aq.2.1.trans aq.2.2.2.2.1).trans (hap.bel.mono (by omega))
                obtain ⟨ia, ic, hiv, hic, hil, hin_⟩ := hap.ob_.shape
                have hlen6 : (I ++ [x]).length = ln + 1 := by rw [List.length_append, List.length_singleton, aq.2.2.2.2.2.1]
                rw [hlen6] at hiv
                subst hiv
                have hoct : Oct (I ++ [x]) := fun y hy => by
                  rcases List.mem_append.1 hy with h | h
                  · exact AX.out.2.2.2.2.2.2.2.2.2.2.1 y h
                  · rw [List.mem_singleton] at h; rw [h]; exact AX.out.2.2.2.2.2.2.2.2.2.2.2.2.2.2.2.1
                have hof6 := of_st (w := w6) (C := ic) (1048576 : Int) (by decide) hil hlen6 (by have h1 := AX.out.2.2.2.2.2.2.2.2.2.1; have h2 := AX.out.2.2.2.2.2.2.2.2.2.2.2.2.2.2.1; have h3 := aq.2.2.2.2.2.1; omega) hoct
                rw [← ANI.out] at hof6
                have A6 : Aside (Inf w6 B D b R (I ++ [x]) M c3 q3 ∧ Below B w w6 ∧ Ob w6 (B + 4) (.slice ia (ln + 1) ic) (I ++ [x]) ∧ Oct (I ++ [x]) ∧ Pd c.out c3 q3 ∧ (I ++ [x]).length = ln + 1 ∧ I.length = ln) := ⟨hin6, hb6, hap.ob_, hoct, aq.2.2.1, hlen6, aq.2.2.2.2.2.1⟩
                clear aq hin6 hb6 hap hic hil hin_ hlen6 hoct hobA hlA cX3
                go_upto_region 18 with (go_at_call 10; refine hof6.mono ?_; rintro e7 w7 ⟨Q7, s7, vO, vT, z7, rfl, hr7, hb7, hst7, h1, h2, h3, h4, h5⟩)
                obtain ⟨oa7, oc7, ta7, tc7, rfl, rfl, hrz7⟩ := Rz.of hr7 h1 h2 h3 h4 h5
                have g4 := hrz7.c4
                have hin7 := A6.out.1.kp (Kp.of_below (B := B) hb7 (Nat.le_refl _))
                have hb07 : Below B w w7 := A6.out.2.1.trans (hb7.mono (by have := A6.out.1.lt; omega))
                obtain ⟨y7, hy7⟩ : ∃ y7, whyC z7 = y7 := ⟨_, rfl⟩
                rw [hy7] at g4
                have A7 : Aside (Inf w7 B D b R (I ++ [x]) M c3 q3 ∧ Below B w w7 ∧ Ob w7 (B + 4) (.slice ia (ln + 1) ic) (I ++ [x]) ∧ Rz w7 w6.heap.size Q7 ia (ln + 1) ic z7 oa7 oc7 ta7 tc7 ∧ Stands (I ++ [x]) N z7 ∧ whyC z7 = y7 ∧ B + 4 ≤ w6.heap.size) := ⟨hin7, hb07, A6.out.2.2.1.below hb7 (Nat.le_refl _), hrz7, hst7, hy7, A6.out.1.lt⟩
                clear hof6 hr7 hb7 hst7 h1 h2 h3 h4 h5 hrz7 hin7 hb07 hy7
                by_cases h62 : y7 = 62
                · have r1 : ((y7 : Int) == 62) = true := by rw [beq_iff_eq]; omega
                  have haw := awake_c w7 (A.out.2.2.2.2.1.below A7.out.2.1 A.out.2.2.2.2.2.2.2.2)
                  clear h62
                  go_wp2_with (go_at_call 13; refine haw.mono ?_; rintro e8 w8 ⟨rfl, b8⟩)
                  first | go_ret | go_ret2 | go_ret3
                  exact ⟨rfl, A7.out.2.1.trans (b8.mono (by have := A7.out.1.lt; omega))⟩
                · have r1 : ((y7 : Int) == 62) = false := by rw [beq_eq_false_iff_ne]; omega
                  have AZ : Aside (StP w N M B D b R (.slice ia (ln + 1) ic) Q7 tn false (i + 1) w7) := by
                    have a7 := A7.out
                    have hco : c.out = o := by
                      rcases AX.out.2.2.2.2.2.2.1 with ⟨x, h, _⟩ | ⟨_, h1, _⟩ | ⟨h, _⟩ | ⟨h, _⟩
                      · cases h
                      · exact h1
                      · cases h
                      · cases h
                    have hp := A6.out.2.2.2.2.1
                    rw [hco] at hp
                    exact ⟨I ++ [x], z7, c3, q3, o, w6.heap.size, ia, ln + 1, ic, oa7, oc7, ta7, tc7, a7.2.2.1, AX.out.2.1, a7.1, a7.2.2.2.1, a7.2.2.2.2.1, by rw [a7.2.2.2.2.2.1]; exact h62, sy_of a7.1 (by have := A.out; omega) a7.2.2.2.2.1 (by rw [a7.2.2.2.2.2.1]; exact h62) hp, a7.2.1, a7.2.2.2.2.2.2, by rw [A6.out.2.2.2.2.2.1]; have := AX.out.2.2.2.2.2.2.2.2.2.1; have := A6.out.2.2.2.2.2.2; omega, A6.out.2.2.2.1⟩
                  clear h62
                  go_wp2_with fail
                  go_meet
                  case rel => exact ⟨Q7, tn, false, rfl, rfl, rfl, AZ.out⟩
              · have hput := put_shut x wr AX.out.2.2.1 hqn
                clear d2 d4 d6 cK hrem hqn hnw
                go_wp2_with (go_at_call 17; refine hput.mono ?_; rintro e3 w3 ⟨rfl, rfl⟩)
                go_meet
                case rel => exact ⟨Q, tn, t, rfl, rfl, rfl, AS0.out⟩
        case rest =>
          obtain ⟨Q2, tn2, t2, rfl, rfl, rfl, hSt2⟩ := hcut
          clear d2 d4 d6 cK cX hrem
          obtain ⟨I2, z2, c2, q2, o2, base2, ra2, rL2, rC2, oa2, oc2, ta2, tc2, hob2, hol2, hinf2, hrz2, hst2, h622, hsy2, hbel2, hbase2, hIn2, hoI2⟩ := hSt2.out
          have hdn := pdone_c wc hinf2
          have hrn := reason_c wc hinf2
          have g2 := hrz2.c2
          have g4 := hrz2.c4
          have g6 := hrz2.c6
          have hti : tn2 ≤ 1048576 ∧ z2.out.length ≤ 1048576 := by
            have h1 := stands_most hst2
            have h2 : o2.length ≤ z2.out.length := by
              rcases sy_case hsy2 with ⟨_, _, h, _⟩ | ⟨_, h, _⟩ | ⟨_, _, h, _⟩ <;> omega
            have := A.out
            omega
          have hsy3 := hsy2
          have AGO : Aside (StP w N M B D b R u4 Q2 tn2 t2 (i + 1) wc) := hSt2.out
          have hfin : (∃ x, q2 = .wait x ∧ tn2 < z2.out.length) ∨ (tn2 = z2.out.length ∧ doneM q2 c2 = endC z2 ∧ ((endC z2 = true ∧ whyM q2 c2 = 0) ∨ (endC z2 = false ∧ ((whyC z2 = 1 ∧ t2 = false ∧ whyM q2 c2 = 0) ∨ (whyC z2 = 1 ∧ t2 = true ∧ whyM q2 c2 = 1) ∨ (whyC z2 ≠ 1 ∧ whyM q2 c2 = whyC z2))))) := by
            rcases hsy2 with ⟨x, rfl, h1, h2, h3⟩ | ⟨rfl, h1, h2, h3, h4, h5⟩ | ⟨rfl, rfl, h2, h3, h4⟩ | ⟨rfl, h1, h2, h3, h4, h5⟩
            · exact Or.inl ⟨x, rfl, by have := h2.length_le; rw [List.length_append, List.length_singleton] at this; omega⟩
            · exact Or.inr ⟨by rw [h2, hol2], h3.symm, Or.inr ⟨h3, Or.inl ⟨h4, h5, rfl⟩⟩⟩
            · refine Or.inr ⟨by rw [h2, hol2], rfl, ?_⟩
              rcases h4 with ⟨e, e2⟩ | ⟨e, _, e2⟩
              · exact Or.inl ⟨e, e2⟩
              · exact Or.inr ⟨e, Or.inr (Or.inr ⟨e2, rfl⟩)⟩
            · exact Or.inr ⟨by rw [h2, hol2], h3.symm, Or.inr ⟨h3, Or.inr (Or.inl ⟨h4, h5, rfl⟩)⟩⟩
          obtain ⟨zl2, hzl2⟩ : ∃ zl, z2.out.length = zl := ⟨_, rfl⟩
          obtain ⟨y2, hy2⟩ : ∃ y, whyC z2 = y := ⟨_, rfl⟩
          obtain ⟨eb2, heb2⟩ : ∃ eb, endC z2 = eb := ⟨_, rfl⟩
          obtain ⟨dm, hdm⟩ : ∃ dm, doneM q2 c2 = dm := ⟨_, rfl⟩
          obtain ⟨ym, hym⟩ : ∃ ym, whyM q2 c2 = ym := ⟨_, rfl⟩
          rw [hzl2] at g2 hfin hti
          rw [hy2] at g4 hfin
          rw [heb2] at g6 hfin
          rw [hdm] at hdn hfin
          rw [hym] at hrn hfin
          have htn2 : (tn2 : Int) ≤ 1048576 := by omega
          have hqw : (∃ x, q2 = .wait x ∧ tn2 < zl2) → tn2 < zl2 ∧ dm = false ∧ ym = 0 := by
            rintro ⟨x, rfl, h⟩
            exact ⟨h, hdm.symm, hym.symm⟩
          clear hSt2 hob2 hol2 hinf2 hrz2 hst2 h622 hsy2 hsy3 hbel2 hbase2 hIn2 hoI2 hzl2 hy2 heb2 hdm hym hti
          rcases hfin with hw | ⟨he, hd, hfin⟩
          · obtain ⟨h1, rfl, rfl⟩ := hqw hw
            have u1 : ((tn2 : Int) < (zl2 : Int)) = True := eq_true (by omega)
            have u1' : (tn2 < zl2) = True := eq_true h1
            clear hw hqw h1
            as_aux_lemma =>
              go_wp2_with (first
                | (go_at_call 15; refine hdn.mono ?_; rintro e5 w5 ⟨rfl, rfl⟩)
                | (go_at_call 16; refine hrn.mono ?_; rintro e6 w6 ⟨rfl, rfl⟩))
              go_roundg (401 - (i + 1))
              case measure => have := AGK.out; omega
              case rel => exact ⟨i + 1, Q2, tn2, _, rfl, rfl, rfl, by go_num, ⟨by have := AX.out.2.2.2.2.2.2.2.2.2.2.2.2.2.2.1; omega, by have := AX.out.2.2.2.2.2.2.2.2.2.2.2.2.2.2.1; omega⟩, AGO.out⟩
          · have u1 : ((tn2 : Int) < (zl2 : Int)) = False := eq_false (by omega)
            have u1' : (tn2 < zl2) = False := eq_false (by omega)
            subst hd
            clear hqw he
            rcases hfin with ⟨rfl, rfl⟩ | ⟨rfl, ⟨rfl, rfl, rfl⟩ | ⟨rfl, rfl, rfl⟩ | ⟨h1, h2⟩⟩
            · skip
              as_aux_lemma =>
                go_wp2_with (first
                  | (go_at_call 15; refine hdn.mono ?_; rintro e5 w5 ⟨rfl, rfl⟩)
                  | (go_at_call 16; refine hrn.mono ?_; rintro e6 w6 ⟨rfl, rfl⟩))
                go_roundg (401 - (i + 1))
                case measure => have := AGK.out; omega
                case rel => exact ⟨i + 1, Q2, tn2, _, rfl, rfl, rfl, by go_num, ⟨by have := AX.out.2.2.2.2.2.2.2.2.2.2.2.2.2.2.1; omega, by have := AX.out.2.2.2.2.2.2.2.2.2.2.2.2.2.2.1; omega⟩, AGO.out⟩
            · skip
              as_aux_lemma =>
                go_wp2_with (first
                  | (go_at_call 15; refine hdn.mono ?_; rintro e5 w5 ⟨rfl, rfl⟩)
                  | (go_at_call 16; refine hrn.mono ?_; rintro e6 w6 ⟨rfl, rfl⟩))
                go_roundg (401 - (i + 1))
                case measure => have := AGK.out; omega
                case rel => exact ⟨i + 1, Q2, tn2, _, rfl, rfl, rfl, by go_num, ⟨by have := AX.out.2.2.2.2.2.2.2.2.2.2.2.2.2.2.1; omega, by have := AX.out.2.2.2.2.2.2.2.2.2.2.2.2.2.2.1; omega⟩, AGO.out⟩
            · skip
              as_aux_lemma =>
                go_wp2_with (first
                  | (go_at_call 15; refine hdn.mono ?_; rintro e5 w5 ⟨rfl, rfl⟩)
                  | (go_at_call 16; refine hrn.mono ?_; rintro e6 w6 ⟨rfl, rfl⟩))
                go_roundg (401 - (i + 1))
                case measure => have := AGK.out; omega
                case rel => exact ⟨i + 1, Q2, tn2, _, rfl, rfl, rfl, by go_num, ⟨by have := AX.out.2.2.2.2.2.2.2.2.2.2.2.2.2.2.1; omega, by have := AX.out.2.2.2.2.2.2.2.2.2.2.2.2.2.2.1; omega⟩, AGO.out⟩
            · subst h2
              have e1 : ((ym : Int) == 1) = false := by rw [beq_eq_false_iff_ne]; omega
              have e1' : ((ym : Int) != 1) = true := by rw [bne, e1]; rfl
              clear h1
              as_aux_lemma =>
                go_wp2_with (first
                  | (go_at_call 15; refine hdn.mono ?_; rintro e5 w5 ⟨rfl, rfl⟩)
                  | (go_at_call 16; refine hrn.mono ?_; rintro e6 w6 ⟨rfl, rfl⟩))
                go_roundg (401 - (i + 1))
                case measure => have := AGK.out; omega
                case rel => exact ⟨i + 1, Q2, tn2, _, rfl, rfl, rfl, by go_num, ⟨by have := AX.out.2.2.2.2.2.2.2.2.2.2.2.2.2.2.1; omega, by have := AX.out.2.2.2.2.2.2.2.2.2.2.2.2.2.2.1; omega⟩, AGO.out⟩
    · have a0 := A.out
      obtain ⟨I, z, c, q, o, base, ra, rL, rC, oa, oc, ta, tc, hob, hol, hinf, hrz, hst, h62, hsy, hbel, hbase, hIn, hoI⟩ := hSt.out
      have haw := awake_c wr (a0.2.2.2.2.1.below hbel a0.2.2.2.2.2.2.2.2)
      have AB : Aside (Below B w wr ∧ B ≤ wr.heap.size) := ⟨hbel, by have := hinf.lt; omega⟩
      have hiI : (i : Int) ≤ 400 := by have := AGK.out; omega
      clear hSt a0 hob hol hinf hrz hst h62 hsy hbel hbase hIn hoI
      by_cases hiL : i < L
      · have t1 : ((i : Int) < (L : Int)) = True := eq_true (by omega)
        have t1' : (i < L) = True := eq_true hiL
        have t2 : ((i : Int) < 400) = False := eq_false (by omega)
        have t2' : (i < 400) = False := eq_false (by omega)
        clear hi hiL
        go_wp2_with (go_at_call 13; refine haw.mono ?_; rintro e8 w8 ⟨rfl, b8⟩)
        first | go_ret | go_ret2 | go_ret3
        exact ⟨rfl, AB.out.1.trans (b8.mono AB.out.2)⟩
      · have t1 : ((i : Int) < (L : Int)) = False := eq_false (by omega)
        have t1' : (i < L) = False := eq_false hiL
        clear hi hiL
        go_wp2_with (go_at_call 13; refine haw.mono ?_; rintro e8 w8 ⟨rfl, b8⟩)
        first | go_ret | go_ret2 | go_ret3
        exact ⟨rfl, AB.out.1.trans (b8.mono AB.out.2)⟩
end Go.Proofs.YtikdpnpkmmmacaaDoor

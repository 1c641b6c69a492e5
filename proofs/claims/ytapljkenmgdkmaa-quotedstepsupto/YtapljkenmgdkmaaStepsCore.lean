/-
  QuotedSteps' walk.
-/
import Derived.Test.YtapljkenmgdkmaaStp
namespace Go.Proofs.Ytapljkenmgdkmaa
open Go.RowKit
set_option linter.unusedVariables false
set_option maxRecDepth 20000 in
set_option maxHeartbeats 800000 in
theorem steps_core (w : World) (a a' : Option Addr) (l m : List Nat) (L C M C' : Nat) (hl : Lies w a l) (hL : l.length = L) (hLb : L ≤ 2000000) (ho : Oct l) (hm : Lies w a' m) (hM : m.length = M) (hMb : M ≤ 2000000) (ho' : Oct m) :
    Calls Try.prog 4 #[.slice a L C, .slice a' M C'] w fun e w' => e = .returned (.bool true) ∧ Below w.heap.size w w' := by
  have hnew := new_c w
  obtain ⟨B, hB⟩ : ∃ B, w.heap.size = B := ⟨_, rfl⟩
  rw [hB] at hnew
  rw [hB]
  have A : Aside (Lies w a l ∧ l.length = L ∧ L ≤ 2000000 ∧ Oct l ∧ w.heap.size = B ∧ Lies w a' m ∧ m.length = M ∧ M ≤ 2000000 ∧ Oct m) := ⟨hl, hL, hLb, ho, hB, hm, hM, hMb, ho'⟩
  have hLi : (L : Int) ≤ 2000000 := by omega
  have hMi : (M : Int) ≤ 2000000 := by omega
  clear hl hL hLb ho hB hm hM hMb ho'
  go_enter Try.func4, Try.ntmps4
  go_wp2_with (go_at_call 13; refine hnew.mono ?_; rintro e1 w2 ⟨rfl, hd1, hb1⟩)
  clear hnew
  go_loopg [6] M (fun gg s6 wr => ∃ k : Nat, s6 = .int .i64 (k : Int) ∧ Aside (k + gg = M ∧ Ds wr B ∧ Below B w wr))
  case atStart => exact ⟨0, rfl, by omega, Or.inl ⟨_, _, _, hd1⟩, hb1⟩
  case round =>
    obtain ⟨k, rfl, hI⟩ := hrel
    obtain ⟨hkg, hds, hbel⟩ := hI.out
    have a0 := A.out
    have hlt := hds.lt
    by_cases hk : k < M
    · have t1 : ((k : Int) < (M : Int)) = True := eq_true (by omega)
      have t1' : (k < M) = True := eq_true hk
      have hkI : (k : Int) < 2000000 := by omega
      obtain ⟨x, hx⟩ : ∃ x, m[k]? = some x := ⟨_, List.getElem?_eq_getElem (by omega)⟩
      have hx8 : x < 256 := a0.2.2.2.2.2.2.2.2 x (List.mem_of_getElem? hx)
      have hlm : Lies wr a' m := a0.2.2.2.2.2.1.below (by rw [a0.2.2.2.2.1]; exact hbel)
      obtain ⟨ab, ao, ha⟩ := hlm.some' (by omega)
      subst ha
      have cx := hlm.at' hx
      have hput := put_any wr B x hx8 hds
      have AX : Aside (k + gk = M ∧ k < M ∧ Below B w wr ∧ B < wr.heap.size) := ⟨hkg, hk, hbel, hlt⟩
      clear hI hkg hds hbel a0 hlt hk hx hx8 hlm
      go_wp2_with (go_at_call 14; refine hput.mono ?_; rintro e2 w2 ⟨⟨t2, rfl⟩, hds2, hb2⟩)
      have ax := AX.out
      go_roundg (gk - 1)
      case measure => omega
      case rel => exact ⟨k + 1, by go_num, by omega, hds2, ax.2.2.1.trans (hb2.below (Nat.le_refl _) (by omega))⟩
    · have t1 : ((k : Int) < (M : Int)) = False := eq_false (by omega)
      have t1' : (k < M) = False := eq_false hk
      have hrs := reset_any wr B hds
      obtain ⟨w2, hw2⟩ : ∃ w2, w2 = wr := ⟨_, rfl⟩
      subst hw2
      have AX : Aside (Below B w w2 ∧ B < w2.heap.size) := ⟨hbel, hlt⟩
      clear hI hkg hds hbel a0 hlt hk
      go_upto_region 9 with (go_at_call 15; refine hrs.mono ?_; rintro e2 w3 ⟨rfl, hd3, hb3⟩)
      have ax := AX.out
      have a0 := A.out
      have bel3 : Below B w w3 := ax.1.trans (hb3.below (Nat.le_refl _) (by omega))
      have hla : Lies w3 a l := a0.1.below (by rw [a0.2.2.2.2.1]; exact bel3)
      have hof := of_c w3 a l L C hla a0.2.1 (by omega) a0.2.2.2.1
      unfold OfTo at hof
      obtain ⟨ry, hry⟩ : ∃ ry, (rn 0 .no [] l).why = ry := ⟨_, rfl⟩
      obtain ⟨rt, hrt⟩ : ∃ rt, (rn 0 .no [] l).at_ = rt := ⟨_, rfl⟩
      obtain ⟨B3, hB3⟩ : ∃ B3, w3.heap.size = B3 := ⟨_, rfl⟩
      rw [hry, hrt, hB3] at hof
      have hltB : B < B3 := by rw [← hB3]; exact hd3.lt
      have A3 : Aside (Below B w w3 ∧ B < B3 ∧ Du w3 B .no [] [] ∧ w3.heap.size = B3 ∧ (rn 0 .no [] l).why = ry ∧ (rn 0 .no [] l).at_ = rt) := ⟨bel3, hltB, hd3, hB3, hry, hrt⟩
      clear ax a0 bel3 hla hd3 hb3 hrs hry hrt hB3 hltB t1 t1'
      go_upto_region 10 with (go_at_call 10; refine hof.mono ?_; rintro e1 w4 ⟨vO, vT, rfl, hobO, hobT, hb4⟩; obtain ⟨oa, nO, oc, hvO⟩ : ∃ aO nO cO, vO = .slice aO nO cO := (by obtain ⟨a7, c7, h6, _⟩ := Ow.shape hobO; exact ⟨_, _, _, h6⟩); obtain ⟨ta, nT, tc, hvT⟩ : ∃ aT nT cT, vT = .slice aT nT cT := (by obtain ⟨a7, c7, h6, _⟩ := Ow.shape hobT; exact ⟨_, _, _, h6⟩); subst hvO; subst hvT)
      have a3 := A3.out
      have hnO : (rn 0 .no [] l).out.length = nO := by obtain ⟨_, _, h, _⟩ := Ow.shape hobO; injection h with _ h _; rw [h, ob_length]
      have hnT : (rn 0 .no [] l).tm.length = nT := by obtain ⟨_, _, h, _⟩ := Ow.shape hobT; injection h with _ h _; rw [h, oi_length]
      have hlens := rn_tm l 0 .no []
      have hlen0 := rn_len0 l
      obtain rfl : nT = nO := by omega
      obtain ⟨w5, hw5⟩ : ∃ w5, w5 = w4.alloc (.cells #[.slice oa nT oc, .slice ta nT tc, .int .i64 (ry : Int), .int .i64 (rt : Int)] 28) := ⟨_, rfl⟩
      obtain ⟨F, hF⟩ : ∃ F, w4.heap.size = F := ⟨_, rfl⟩
      have b5 : Below w4.heap.size w4 w5 := by rw [hw5]; exact (Below.refl _ w4).alloc (Nat.le_refl _) _
      have kF : Cells w5 F #[.slice oa nT oc, .slice ta nT tc, .int .i64 (ry : Int), .int .i64 (rt : Int)] 28 := by rw [hw5, ← hF]; exact Cells.new w4 _ 28
      have h43 := hb4.size
      have hd5 : Du w5 B .no [] [] := (a3.2.2.1.below hb4 (by omega)).below b5 (by omega)
      have A5 : Aside (Below B w w5 ∧ Du w5 B .no [] [] ∧ Cells w5 F #[.slice oa nT oc, .slice ta nT tc, .int .i64 (ry : Int), .int .i64 (rt : Int)] 28 ∧ Ob w5 B3 (.slice oa nT oc) (rn 0 .no [] l).out ∧ Oi w5 B3 (.slice ta nT tc) (rn 0 .no [] l).tm ∧ B < F ∧ B < B3 ∧ (rn 0 .no [] l).why = ry ∧ (rn 0 .no [] l).at_ = rt ∧ (rn 0 .no [] l).out.length = nT ∧ (rn 0 .no [] l).tm.length = nT ∧ nT ≤ 2000000 ∧ rt ≤ 2000000 ∧ ry ≤ 22 ∧ B < w5.heap.size) := by
        refine ⟨(a3.1.trans (hb4.mono (by omega))).trans (b5.mono (by omega)), hd5, kF, Ow.below hobO b5 (Nat.le_refl _), Ow.below hobT b5 (Nat.le_refl _), by omega, a3.2.1, a3.2.2.2.2.1, a3.2.2.2.2.2, hnO, hnT, ?_, ?_, ?_, ?_⟩
        · have := A.out; omega
        · have := A.out; have := a3.2.2.2.2.2; have := (rn_at l 0 .no []).2.1; omega
        · have := rn_why l 0 .no []; have := a3.2.2.2.2.1; omega
        · have := b5.size; omega
      obtain ⟨csB, kB0⟩ := hd5.cells
      have KB : Aside (Cells w5 B csB 51) := kB0
      have hnTi : (nT : Int) ≤ 2000000 := by have := A5.out; omega
      have hrti : (rt : Int) ≤ 2000000 := by have := A5.out; omega
      have hryi : (ry : Int) ≤ 22 := by have := A5.out; omega
      rw [← hw5, hF]
      obtain ⟨v30, hv30⟩ : ∃ v30, Value.agg #[.slice oa nT oc, .slice ta nT tc, .int .i64 (ry : Int), .int .i64 (rt : Int)] = v30 := ⟨_, rfl⟩
      rw [hv30]
      clear hv30
      clear a3 hobO hobT hb4 hnO hnT hlens hlen0 hof hw5 hF b5 kF h43 hd5 kB0
      go_wp2_with fail
      go_loopg [8, 9, 10, 11] L (fun gg s8 s9 s10 s11 wr => ∃ k told : Nat, s8 = .int .i64 (told : Int) ∧ s9 = .bool true ∧ s10 = .int .i64 (k : Int) ∧ Aside (k + gg = L ∧ told ≤ nT ∧ Sx l wr B k told ∧ But B w5 wr))
      case atStart => exact ⟨0, 0, rfl, rfl, rfl, by omega, by omega, .run .no [] [] [] A5.out.2.1 (by rw [Sk]; simp [cat]) rfl rfl, But.refl _ _⟩
      case round =>
        obtain ⟨k, told, rfl, rfl, rfl, hJ⟩ := hrel
        obtain ⟨hkg, htk, hsx, hbt⟩ := hJ.out
        have a0 := A.out
        have a5 := A5.out
        have kr := hbt.cells a5.2.2.1 (by omega)
        obtain ⟨c0, c1, c2, c3⟩ := four kr
        have htI : (told : Int) ≤ 2000000 := by omega
        by_cases hk : k < L
        · have t1 : ((k : Int) < (L : Int)) = True := eq_true (by omega)
          have t1' : (k < L) = True := eq_true hk
          have hkI : (k : Int) < 2000000 := by omega
          obtain ⟨x, hx⟩ : ∃ x, l[k]? = some x := ⟨_, List.getElem?_eq_getElem (by omega)⟩
          have belr : Below B w wr := a5.1.trans (hbt.below (Nat.le_refl _) (by omega))
          have hlw : Lies wr a l := a0.1.below (by rw [a0.2.2.2.2.1]; exact belr)
          obtain ⟨ab, ao, ha⟩ := hlw.some' (by omega)
          subst ha
          have cx := hlw.at' hx
          have hput := put_sx l wr B k told x hx a0.2.2.2.1 hsx
          rw [a5.2.2.2.2.2.2.2.1, a5.2.2.2.2.2.2.2.2.1] at hput
          have AX : Aside (k + gk = L ∧ k < L ∧ told ≤ nT ∧ But B w5 wr) := ⟨hkg, hk, htk, hbt⟩
          clear hJ hkg htk hsx hbt a0 a5 hk hx belr hlw kr
          by_cases h22 : ry = 22
          · have u22 : ((ry : Int) == 22) = true := by rw [h22]; rfl
            by_cases hrk : rt < k
            · have u1 : ((rt : Int) < (k : Int)) = True := eq_true (by omega)
              have u1' : (rt < k) = True := eq_true (by omega)
              have u2 : ((rt : Int) ≤ (k : Int)) = True := eq_true (by omega)
              have u2' : (rt ≤ k) = True := eq_true (by omega)
              have hsb : (!decide (ry = 22 ∧ rt < k)) = false := by rw [decide_eq_true (show (ry = 22 ∧ rt < k) from by omega)]; rfl
              rw [hsb] at hput
              clear hsb
              go_upto_region 17 with (go_at_call 14; refine hput.mono ?_; rintro e2 w6 ⟨q, rfl, hq, hpx, hb6⟩; subst hq)
              have ax := AX.out
              have a5 := A5.out
              have bt6 : But B w5 w6 := ax.2.2.2.trans hb6
              have k6 := bt6.cells a5.2.2.1 (by omega)
              obtain ⟨d0, d1, d2, d3⟩ := four k6
              have oO : Ob w6 B3 (.slice oa nT oc) (rn 0 .no [] l).out := Ow.but a5.2.2.2.1 bt6 (by exact KB.out) (by decide)
              have oT : Oi w6 B3 (.slice ta nT tc) (rn 0 .no [] l).tm := Ow.but a5.2.2.2.2.1 bt6 (by exact KB.out) (by decide)
              have a58 := a5.2.2.2.2.2.2.2.1
              have a59 := a5.2.2.2.2.2.2.2.2.1
              cases hpx using Px.el with
              | go hq sn hi y K V d hy hl hk he hs nx => cases hq
              | stop d hy ha ht hq =>
                clear h22 hrk
                obtain ⟨hi, dd⟩ := d.ex
                have htn : told = nT := by rw [a5.2.2.2.2.2.2.2.2.2.1] at ht; omega
                have htl := tells_c w6 B 5 hi 22 B3 [] [] (rn 0 .no [] l).out (rn 0 .no [] l).tm oa ta nT oc tc (ry : Int) (rt : Int) told k dd oO oT a5.2.2.2.2.2.2.2.2.2.1 a5.2.2.2.2.2.2.2.2.2.2.1 (by omega) (by omega) (fun h => absurd rfl h) (by simp; omega) (fun j x hj => by simp at hj) (fun t ht2 => by
                  have h9 := (List.getElem?_eq_some_iff.1 ht2).1
                  simp at h9
                  omega)
                rw [List.length_nil, Nat.add_zero] at htl
                have A7 : Aside (k + gk = L ∧ k < L ∧ But B w5 w6 ∧ told ≤ nT ∧ (rn 0 .no [] l).why = 22 ∧ (rn 0 .no [] l).at_ ≤ k ∧ (rn 0 .no [] l).out.length = told ∧ Cells w6 F #[.slice oa nT oc, .slice ta nT tc, .int .i64 (ry : Int), .int .i64 (rt : Int)] 28) := ⟨ax.1, ax.2.1, bt6, by omega, hy, ha, ht, k6⟩
                have hFB : F ≠ B := by omega
                clear ax a5 bt6 k6 oO oT d dd hy ha ht hput cx hb6 htn hq
                go_upto_region 18 with (go_at_call 16; refine htl.mono ?_; rintro e7 w7 ⟨rfl, h7, o7⟩)
                have a7 := A7.out
                have k7 := o7.cells a7.2.2.2.2.2.2.2 hFB
                obtain ⟨g0, g1, g2, g3⟩ := four k7
                have hwy := why_l w7 h7
                have A8 : Aside (Sx l w7 B (k + 1) told ∧ But B w5 w7) := ⟨.stop ⟨hi, h7⟩ a7.2.2.2.2.1 (by have := a7.2.2.2.2.2.1; omega) a7.2.2.2.2.2.2.1, a7.2.2.1.trans o7⟩
                clear a7 k7 h7 o7 d0 d1 d2 d3 htl
                go_wp2_with (go_at_call 17; refine hwy.mono ?_; rintro e9 w0 ⟨rfl, hw0⟩; subst hw0)
                have a7 := A7.out
                have a8 := A8.out
                go_roundg (gk - 1)
                case measure => omega
                case rel => exact ⟨k + 1, told, rfl, rfl, by go_num, by omega, a7.2.2.2.1, a8.1, a8.2⟩

            · have u1 : ((rt : Int) < (k : Int)) = False := eq_false (by omega)
              have u1' : (rt < k) = False := eq_false (by omega)
              have hsb : (!decide (ry = 22 ∧ rt < k)) = true := by rw [decide_eq_false (show ¬ (ry = 22 ∧ rt < k) from by omega)]; rfl
              rw [hsb] at hput
              clear hsb
              go_upto_region 17 with (go_at_call 14; refine hput.mono ?_; rintro e2 w6 ⟨q, rfl, hq, hpx, hb6⟩; subst hq)
              have ax := AX.out
              have a5 := A5.out
              have bt6 : But B w5 w6 := ax.2.2.2.trans hb6
              have k6 := bt6.cells a5.2.2.1 (by omega)
              obtain ⟨d0, d1, d2, d3⟩ := four k6
              have oO : Ob w6 B3 (.slice oa nT oc) (rn 0 .no [] l).out := Ow.but a5.2.2.2.1 bt6 (by exact KB.out) (by decide)
              have oT : Oi w6 B3 (.slice ta nT tc) (rn 0 .no [] l).tm := Ow.but a5.2.2.2.2.1 bt6 (by exact KB.out) (by decide)
              have a58 := a5.2.2.2.2.2.2.2.1
              have a59 := a5.2.2.2.2.2.2.2.2.1
              cases hpx using Px.el with
              | stop d hy ha ht hq =>
                have u2 : ((rt : Int) ≤ (k : Int)) = True := eq_true (by omega)
                have u2' : (rt ≤ k) = True := eq_true (by omega)
                have A22 : Aside (ry = 22) := h22
                clear hrk h22
                obtain ⟨hi, dd⟩ := d.ex
                have htn : told = nT := by rw [a5.2.2.2.2.2.2.2.2.2.1] at ht; omega
                have htl := tells_c w6 B 5 hi 22 B3 [] [] (rn 0 .no [] l).out (rn 0 .no [] l).tm oa ta nT oc tc (ry : Int) (rt : Int) told k dd oO oT a5.2.2.2.2.2.2.2.2.2.1 a5.2.2.2.2.2.2.2.2.2.2.1 (by omega) (by omega) (fun h => absurd rfl h) (by simp; omega) (fun j x hj => by simp at hj) (fun t ht2 => by
                  have h9 := (List.getElem?_eq_some_iff.1 ht2).1
                  simp at h9
                  omega)
                rw [List.length_nil, Nat.add_zero] at htl
                have A7 : Aside (k + gk = L ∧ k < L ∧ But B w5 w6 ∧ told ≤ nT ∧ (rn 0 .no [] l).why = 22 ∧ (rn 0 .no [] l).at_ ≤ k ∧ (rn 0 .no [] l).out.length = told ∧ Cells w6 F #[.slice oa nT oc, .slice ta nT tc, .int .i64 (ry : Int), .int .i64 (rt : Int)] 28) := ⟨ax.1, ax.2.1, bt6, by omega, hy, ha, ht, k6⟩
                have hFB : F ≠ B := by omega
                clear ax a5 bt6 k6 oO oT d dd hy ha ht hput cx hb6 htn hq
                go_upto_region 18 with (go_at_call 16; refine htl.mono ?_; rintro e7 w7 ⟨rfl, h7, o7⟩)
                have a7 := A7.out
                have k7 := o7.cells a7.2.2.2.2.2.2.2 hFB
                obtain ⟨g0, g1, g2, g3⟩ := four k7
                have hwy := why_l w7 h7
                have A8 : Aside (Sx l w7 B (k + 1) told ∧ But B w5 w7) := ⟨.stop ⟨hi, h7⟩ a7.2.2.2.2.1 (by have := a7.2.2.2.2.2.1; omega) a7.2.2.2.2.2.2.1, a7.2.2.1.trans o7⟩
                clear a7 k7 h7 o7 d0 d1 d2 d3 htl
                go_wp2_with (go_at_call 17; refine hwy.mono ?_; rintro e9 w0 ⟨rfl, hw0⟩; subst hw0)
                have a7 := A7.out
                have a8 := A8.out
                go_roundg (gk - 1)
                case measure => omega
                case rel => exact ⟨k + 1, told, rfl, rfl, by go_num, by omega, a7.2.2.2.1, a8.1, a8.2⟩

              | go hq1 sn hi y K V d hy hl hk he hs nx =>
                clear hq1
                have u2 : ((rt : Int) ≤ (k : Int)) = False := eq_false (by omega)
                have u2' : (rt ≤ k) = False := eq_false (by omega)
                clear hrk h22
                subst hy
                obtain ⟨n1, hn1⟩ : ∃ n1, told + K.length = n1 := ⟨_, rfl⟩
                have htl := tells_c w6 B sn hi 0 B3 K V (rn 0 .no [] l).out (rn 0 .no [] l).tm oa ta nT oc tc (ry : Int) (rt : Int) told k d oO oT a5.2.2.2.2.2.2.2.2.2.1 a5.2.2.2.2.2.2.2.2.2.2.1 (by omega) (by omega) (fun _ => rfl) (by rw [a5.2.2.2.2.2.2.2.2.2.1] at hl; exact hl) hk he
                rw [hn1] at htl
                have A7 : Aside (k + gk = L ∧ k < L ∧ But B w5 w6 ∧ (∀ u, Dl u B sn hi V 0 0 → Sx l u B (k + 1) n1) ∧ n1 ≤ nT ∧ Cells w6 F #[.slice oa nT oc, .slice ta nT tc, .int .i64 (ry : Int), .int .i64 (rt : Int)] 28) := ⟨ax.1, ax.2.1, bt6, by rw [← hn1]; exact nx, by rw [a5.2.2.2.2.2.2.2.2.2.1] at hl; omega, k6⟩
                have hFB : F ≠ B := by omega
                clear ax a5 bt6 k6 oO oT d hl hk he hs nx hn1 hput cx hb6
                go_upto_region 18 with (go_at_call 16; refine htl.mono ?_; rintro e7 w7 ⟨rfl, h7, o7⟩)
                have a7 := A7.out
                have k7 := o7.cells a7.2.2.2.2.2 hFB
                obtain ⟨g0, g1, g2, g3⟩ := four k7
                have hwy := why_l w7 h7
                have A8 : Aside (Sx l w7 B (k + 1) n1 ∧ But B w5 w7) := ⟨a7.2.2.2.1 _ h7, a7.2.2.1.trans o7⟩
                clear a7 k7 h7 o7 d0 d1 d2 d3 htl
                go_wp2_with (go_at_call 17; refine hwy.mono ?_; rintro e9 w0 ⟨rfl, hw0⟩; subst hw0)
                have a7 := A7.out
                have a8 := A8.out
                go_roundg (gk - 1)
                case measure => omega
                case rel => exact ⟨k + 1, n1, rfl, rfl, by go_num, by omega, a7.2.2.2.2.1, a8.1, a8.2⟩

          · have u22 : ((ry : Int) == 22) = false := by rw [beq_eq_false_iff_ne]; omega
            have hsb : (!decide (ry = 22 ∧ rt < k)) = true := by rw [decide_eq_false (show ¬ (ry = 22 ∧ rt < k) from by omega)]; rfl
            rw [hsb] at hput
            clear hsb
            go_upto_region 17 with (go_at_call 14; refine hput.mono ?_; rintro e2 w6 ⟨q, rfl, hq, hpx, hb6⟩; subst hq)
            have ax := AX.out
            have a5 := A5.out
            have bt6 : But B w5 w6 := ax.2.2.2.trans hb6
            have k6 := bt6.cells a5.2.2.1 (by omega)
            obtain ⟨d0, d1, d2, d3⟩ := four k6
            have oO : Ob w6 B3 (.slice oa nT oc) (rn 0 .no [] l).out := Ow.but a5.2.2.2.1 bt6 (by exact KB.out) (by decide)
            have oT : Oi w6 B3 (.slice ta nT tc) (rn 0 .no [] l).tm := Ow.but a5.2.2.2.2.1 bt6 (by exact KB.out) (by decide)
            have a58 := a5.2.2.2.2.2.2.2.1
            have a59 := a5.2.2.2.2.2.2.2.2.1
            cases hpx using Px.el with
            | stop d hy ha ht hq => omega
            | go hq1 sn hi y K V d hy hl hk he hs nx =>
              clear hq1
              clear h22
              subst hy
              obtain ⟨n1, hn1⟩ : ∃ n1, told + K.length = n1 := ⟨_, rfl⟩
              have htl := tells_c w6 B sn hi 0 B3 K V (rn 0 .no [] l).out (rn 0 .no [] l).tm oa ta nT oc tc (ry : Int) (rt : Int) told k d oO oT a5.2.2.2.2.2.2.2.2.2.1 a5.2.2.2.2.2.2.2.2.2.2.1 (by omega) (by omega) (fun _ => rfl) (by rw [a5.2.2.2.2.2.2.2.2.2.1] at hl; exact hl) hk he
              rw [hn1] at htl
              have A7 : Aside (k + gk = L ∧ k < L ∧ But B w5 w6 ∧ (∀ u, Dl u B sn hi V 0 0 → Sx l u B (k + 1) n1) ∧ n1 ≤ nT ∧ Cells w6 F #[.slice oa nT oc, .slice ta nT tc, .int .i64 (ry : Int), .int .i64 (rt : Int)] 28) := ⟨ax.1, ax.2.1, bt6, by rw [← hn1]; exact nx, by rw [a5.2.2.2.2.2.2.2.2.2.1] at hl; omega, k6⟩
              have hFB : F ≠ B := by omega
              clear ax a5 bt6 k6 oO oT d hl hk he hs nx hn1 hput cx hb6
              go_upto_region 18 with (go_at_call 16; refine htl.mono ?_; rintro e7 w7 ⟨rfl, h7, o7⟩)
              have a7 := A7.out
              have k7 := o7.cells a7.2.2.2.2.2 hFB
              obtain ⟨g0, g1, g2, g3⟩ := four k7
              have hwy := why_l w7 h7
              have A8 : Aside (Sx l w7 B (k + 1) n1 ∧ But B w5 w7) := ⟨a7.2.2.2.1 _ h7, a7.2.2.1.trans o7⟩
              clear a7 k7 h7 o7 d0 d1 d2 d3 htl
              go_wp2_with (go_at_call 17; refine hwy.mono ?_; rintro e9 w0 ⟨rfl, hw0⟩; subst hw0)
              have a7 := A7.out
              have a8 := A8.out
              go_roundg (gk - 1)
              case measure => omega
              case rel => exact ⟨k + 1, n1, rfl, rfl, by go_num, by omega, a7.2.2.2.2.1, a8.1, a8.2⟩

        · have t1 : ((k : Int) < (L : Int)) = False := eq_false (by omega)
          have t1' : (k < L) = False := eq_false hk
          have hkL : k = l.length := by omega
          rw [hkL] at hsx
          obtain ⟨K, y, hend⟩ := end_sx l wr B told hsx
          obtain ⟨w6, hw6⟩ : ∃ w6, w6 = wr := ⟨_, rfl⟩
          subst hw6
          have AX : Aside (But B w5 w6 ∧ l.length = L) := ⟨hbt, a0.2.1⟩
          clear hJ hkg htk hbt a0 a5 hk hkL hsx kr c0 c1 c2 c3
          go_upto_region 22 with (go_at_call 18; refine hend.mono ?_; rintro e7 w7 ⟨rfl, hx7, o7⟩)
          have ax := AX.out
          have a5 := A5.out
          have bt7 : But B w5 w7 := ax.1.trans o7
          have k7 := bt7.cells a5.2.2.1 (by omega)
          obtain ⟨d0, d1, d2, d3⟩ := four k7
          have oO : Ob w7 B3 (.slice oa nT oc) (rn 0 .no [] l).out := Ow.but a5.2.2.2.1 bt7 (by exact KB.out) (by decide)
          have oT : Oi w7 B3 (.slice ta nT tc) (rn 0 .no [] l).tm := Ow.but a5.2.2.2.2.1 bt7 (by exact KB.out) (by decide)
          obtain ⟨hi, hd7⟩ := hx7.d.ex
          have hn7 : told + K.length = nT := by rw [hx7.n]; exact a5.2.2.2.2.2.2.2.2.2.1
          have hyr : y = ry := by rw [← hx7.w]; exact a5.2.2.2.2.2.2.2.1
          have hkk := hx7.k
          rw [ax.2] at hkk
          have htl := tells_c w7 B 5 hi y B3 K [] (rn 0 .no [] l).out (rn 0 .no [] l).tm oa ta nT oc tc (ry : Int) (rt : Int) told L (by simpa using hd7) oO oT a5.2.2.2.2.2.2.2.2.2.1 a5.2.2.2.2.2.2.2.2.2.2.1 (by omega) (by omega) hx7.y0 (by omega) hkk (fun t ht2 => by
            have h9 := (List.getElem?_eq_some_iff.1 ht2).1
            omega)
          rw [hn7] at htl
          have A7 : Aside (But B w5 w7 ∧ Cells w7 F #[.slice oa nT oc, .slice ta nT tc, .int .i64 (ry : Int), .int .i64 (rt : Int)] 28 ∧ y = ry ∧ F ≠ B ∧ Below B w w5 ∧ B < w5.heap.size) := ⟨bt7, k7, hyr, by omega, a5.1, a5.2.2.2.2.2.2.2.2.2.2.2.2.2.2⟩
          clear ax a5 bt7 k7 oO oT hd7 hn7 hyr hkk hx7 o7 hend
          go_upto_region 23 with (go_at_call 16; refine htl.mono ?_; rintro e8 w8 ⟨rfl, h8, o8⟩)
          have a7 := A7.out
          have k8 := o8.cells a7.2.1 a7.2.2.2.1
          obtain ⟨g0, g1, g2, g3⟩ := four k8
          rw [a7.2.2.1] at h8
          have bt8 : But B w5 w8 := a7.1.trans o8
          have hsz8 := bt8.size
          have A8 : Aside (Dl w8 B 5 hi [] 0 ry ∧ Below B w w8 ∧ B ≤ w8.heap.size ∧ Cells w8 F #[.slice oa nT oc, .slice ta nT tc, .int .i64 (ry : Int), .int .i64 (rt : Int)] 28) := ⟨h8, a7.2.2.2.2.1.trans (bt8.below (Nat.le_refl _) (Nat.le_of_lt a7.2.2.2.2.2)), by omega, k8⟩
          have q1 : ((nT : Int) == (nT : Int)) = true := by simp
          have q2 : ((ry : Int) == (ry : Int)) = true := by simp
          have hput : ∀ W : World, Dl W B 5 hi [] 0 ry → Calls Try.prog 14 #[.pointer (some ⟨B, 0, none⟩), .int .u8 97] W fun e w' => e = .returned (.bool false) ∧ W = w' := fun W hW => put_shut 97 W (open_over W hW)
          clear a7 k8 h8 o8 bt8 hsz8 d0 d1 d2 d3 htl
          go_region_held3 (fun u => u.cell? ⟨F, 0, none⟩ = some (.slice oa nT oc) ∧ u.cell? ⟨F, 2, none⟩ = some (.int .i64 (ry : Int))) (first | exact ⟨g0, g2⟩ | exact ⟨(Below.cell hb9 (World.block_lt_of_cell? _ _ g0)).trans g0, (Below.cell hb9 (World.block_lt_of_cell? _ _ g2)).trans g2⟩)
            (first
              | (go_at_call 17; refine (why_l _ (by first | exact A8.out.1.drew | exact A8.out.1 | exact A8.out.1.drewN _)).mono ?_; rintro e9 w0 ⟨rfl, hw0⟩; subst hw0)
              | (go_at_call 14; refine (hput _ (by first | exact A8.out.1.drew | exact A8.out.1 | exact A8.out.1.drewN _)).mono ?_; rintro e9 w0 ⟨rfl, hw0⟩; subst hw0)
              | (go_at_call 12; refine (awake_c _).mono ?_; rintro e9 w9 ⟨rfl, hb9⟩))
          go_wp2_with fail
          first | go_ret | go_ret2
          exact ⟨rfl, (A8.out.2.1.drew).trans (hb9.mono A8.out.2.2.1)⟩
end Go.Proofs.Ytapljkenmgdkmaa

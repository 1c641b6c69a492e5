/-
  SixbitsSteps' walk.
-/
import Derived.Test.YtmijpocfichfpaaAny
import Derived.Deep.RegionHeld3
namespace Go.Proofs.Ytmijpocfichfpaa
open Go.RowKit
set_option linter.unusedVariables false
theorem Ow.but' {w u : World} {lo M : Nat} {e : TypeId} {v : Value} {l : List Value} (h : Ow w lo e v l) (k : But M w u) (hM : M < lo) : Ow u lo e v l :=
  h.keep k.size fun g h1 h2 _ => k.block g h2 (by omega)
theorem Oi.get {w : World} {lo : Nat} {a : Option Addr} {n c : Nat} {l : List Nat} (h : Oi w lo (.slice a n c) l) {i x : Nat} (hx : l[i]? = some x) : ∃ g, a = some ⟨g, 0, none⟩ ∧ w.cell? ⟨g, i, none⟩ = some (.int .i64 (x : Int)) := by
  obtain ⟨a', c', hv, _, hl, _⟩ := Ow.shape h
  injection hv with i1 _ _
  subst i1
  rcases hl with e | ⟨g, ha, _, _, hh⟩
  · have := congrArg List.length e
    rw [oi_length] at this
    have h0 : l.length = 0 := this
    have := (List.getElem?_eq_some_iff.1 hx).1
    omega
  · exact ⟨g, ha, hh i _ (by rw [oi_get, hx]; rfl)⟩
theorem Ob.get {w : World} {lo : Nat} {a : Option Addr} {n c : Nat} {l : List Nat} (h : Ob w lo (.slice a n c) l) {i x : Nat} (hx : l[i]? = some x) : ∃ g, a = some ⟨g, 0, none⟩ ∧ w.cell? ⟨g, i, none⟩ = some (.int .u8 (x : Int)) := by
  obtain ⟨a', c', hv, _, hl, _⟩ := Ow.shape h
  injection hv with i1 _ _
  subst i1
  rcases hl with e | ⟨g, ha, _, _, hh⟩
  · have := congrArg List.length e
    rw [ob_length] at this
    have h0 : l.length = 0 := this
    have := (List.getElem?_eq_some_iff.1 hx).1
    omega
  · exact ⟨g, ha, hh i _ (by rw [ob_get, hx]; rfl)⟩
set_option maxRecDepth 20000 in
set_option maxHeartbeats 4000000 in
theorem steps_core (w : World) (a a' : Option Addr) (l m : List Nat) (L C M C' : Nat) (hl : Lies w a l) (hL : l.length = L) (hLb : L ≤ 2000000) (ho : Oct l) (hm : Lies w a' m) (hM : m.length = M) (hMb : M ≤ 2000000) (ho' : Oct m) :
    Calls Try.prog 4 #[.slice a L C, .slice a' M C'] w fun e w' => e = .returned (.bool true) ∧ Below w.heap.size w w' := by
  have hnew := new_c w
  obtain ⟨B, hB⟩ : ∃ B, w.heap.size = B := ⟨_, rfl⟩
  have A1 : Aside (Dd (w.alloc (.cells #[.int .u8 0, .int .u8 0, .bool false, .bool false, .int .i64 0] 46)) B 0 false 0 0 ∧ Below B w (w.alloc (.cells #[.int .u8 0, .int .u8 0, .bool false, .bool false, .int .i64 0] 46))) := by
    rw [← hB]; exact ⟨Dd.new w, (Below.refl _ w).alloc (Nat.le_refl _) _⟩
  obtain ⟨w1, hw1⟩ : ∃ w1, w.alloc (.cells #[.int .u8 0, .int .u8 0, .bool false, .bool false, .int .i64 0] 46) = w1 := ⟨_, rfl⟩
  rw [hB, hw1] at hnew
  rw [hw1] at A1
  rw [hB]
  have A : Aside (Lies w a l ∧ l.length = L ∧ L ≤ 2000000 ∧ Oct l ∧ w.heap.size = B ∧ Lies w a' m ∧ m.length = M ∧ M ≤ 2000000 ∧ Oct m) := ⟨hl, hL, hLb, ho, hB, hm, hM, hMb, ho'⟩
  have hLi : (L : Int) ≤ 2000000 := by omega
  have hMi : (M : Int) ≤ 2000000 := by omega
  clear hl hL hLb ho hB hm hM hMb ho' hw1
  go_enter Try.func4, Try.ntmps4
  go_wp2_with (go_at_call 13; refine hnew.mono ?_; rintro e1 w2 ⟨rfl, hw2⟩; subst hw2)
  clear hnew
  go_loopg [6] M (fun gg s6 wr => ∃ k : Nat, s6 = .int .i64 (k : Int) ∧ Aside (k + gg = M ∧ Ds wr B ∧ Below B w wr))
  case atStart => exact ⟨0, rfl, by omega, ⟨0, false, 0, 0, wf0, A1.out.1⟩, A1.out.2⟩
  case round =>
    obtain ⟨k, rfl, hI⟩ := hrel
    obtain ⟨hkg, hds, hbel⟩ := hI.out
    have a0 := A.out
    have hlt : B < wr.heap.size := by obtain ⟨_, _, _, _, _, hd⟩ := hds; exact Cells.lt hd
    by_cases hk : k < M
    · have t1 : ((k : Int) < (M : Int)) = True := eq_true (by omega)
      have t1' : (k < M) = True := eq_true hk
      have hkI : (k : Int) < 2000000 := by omega
      obtain ⟨x, hx⟩ : ∃ x, m[k]? = some x := ⟨_, List.getElem?_eq_getElem (by omega)⟩
      have hx8 : x < 256 := a0.2.2.2.2.2.2.2.2 x (List.mem_of_getElem? hx)
      obtain ⟨ab, ao, ha, hcB⟩ : ∃ ab ao, a' = some ⟨ab, ao, none⟩ ∧ w.cell? ⟨ab, ao + k, none⟩ = some (.int .u8 (x : Int)) := by
        rcases a0.2.2.2.2.2.1 with e | ⟨ab, ao, e, h⟩
        · rw [e] at hx; simp at hx
        · exact ⟨ab, ao, e, h k x hx⟩
      subst ha
      have hcl := World.block_lt_of_cell? w ⟨ab, ao + k, none⟩ hcB
      rw [a0.2.2.2.2.1] at hcl
      have cx : wr.cell? ⟨ab, ao + k, none⟩ = some (.int .u8 (x : Int)) := (hbel.cell (p := ⟨ab, ao + k, none⟩) hcl).trans hcB
      have hput := put_any wr B x hx8 hds
      have AX : Aside (k + gk = M ∧ k < M ∧ Below B w wr ∧ B < wr.heap.size) := ⟨hkg, hk, hbel, hlt⟩
      clear hI hkg hds hbel a0 hlt hk hx hx8 hcB hcl
      go_wp2_with (go_at_call 14; refine hput.mono ?_; rintro e2 w2 ⟨⟨u2, t2, z2, rfl⟩, hds2, hb2⟩)
      have ax := AX.out
      go_roundg (gk - 1)
      case measure => omega
      case rel => exact ⟨k + 1, by go_num, by omega, hds2, ax.2.2.1.trans (hb2.below (Nat.le_refl _) (by omega))⟩
    · have t1 : ((k : Int) < (M : Int)) = False := eq_false (by omega)
      have t1' : (k < M) = False := eq_false hk
      have hrs := reset_any wr B hds
      obtain ⟨w2, hw2⟩ : ∃ w2, w2 = wr := ⟨_, rfl⟩
      subst hw2
      have AX : Aside (Below B w w2 ∧ B < w2.heap.size) := ⟨hbel, hlt⟩
      clear hI hkg hds hbel a0 hlt hk
      go_upto_region 9 with (go_at_call 15; refine hrs.mono ?_; rintro e2 w3 ⟨rfl, hd3, hb3⟩)
      have ax := AX.out
      have a0 := A.out
      have bel3 : Below B w w3 := ax.1.trans (hb3.below (Nat.le_refl _) (by omega))
      have hla : Lies w3 a l := a0.1.below (by rw [a0.2.2.2.2.1]; exact bel3)
      have hof := of_c w3 a l L C hla a0.2.1 (by omega) a0.2.2.2.1
      unfold OfTo at hof
      obtain ⟨ry, hry⟩ : ∃ ry, (rn 0 0 false 0 l).why = ry := ⟨_, rfl⟩
      obtain ⟨rt, hrt⟩ : ∃ rt, (rn 0 0 false 0 l).at_ = rt := ⟨_, rfl⟩
      obtain ⟨B3, hB3⟩ : ∃ B3, w3.heap.size = B3 := ⟨_, rfl⟩
      rw [hry, hrt, hB3] at hof
      have hltB : B < B3 := by rw [← hB3]; exact Cells.lt hd3
      have A3 : Aside (Below B w w3 ∧ B < B3 ∧ Dd w3 B 0 false 0 0 ∧ w3.heap.size = B3 ∧ (rn 0 0 false 0 l).why = ry ∧ (rn 0 0 false 0 l).at_ = rt) := ⟨bel3, hltB, hd3, hB3, hry, hrt⟩
      clear ax a0 bel3 hla hd3 hb3 hrs hry hrt hB3 hltB t1 t1'
      go_upto_region 10 with (go_at_call 10; refine hof.mono ?_; rintro e1 w4 ⟨vO, vT, rfl, hobO, hobT, hb4⟩; obtain ⟨oa, nO, oc, hvO⟩ : ∃ aO nO cO, vO = .slice aO nO cO := (by obtain ⟨a7, c7, h6, _⟩ := Ow.shape hobO; exact ⟨_, _, _, h6⟩); obtain ⟨ta, nT, tc, hvT⟩ : ∃ aT nT cT, vT = .slice aT nT cT := (by obtain ⟨a7, c7, h6, _⟩ := Ow.shape hobT; exact ⟨_, _, _, h6⟩); subst hvO; subst hvT)
      have a3 := A3.out
      have hnO : (rn 0 0 false 0 l).out.length = nO := by obtain ⟨_, _, h, _⟩ := Ow.shape hobO; injection h with _ h _; rw [h, ob_length]
      have hnT : (rn 0 0 false 0 l).tm.length = nT := by obtain ⟨_, _, h, _⟩ := Ow.shape hobT; injection h with _ h _; rw [h, oi_length]
      have hlens := rn_lens l 0 0 false 0
      obtain rfl : nT = nO := by omega
      obtain ⟨w5, hw5⟩ : ∃ w5, w5 = w4.alloc (.cells #[.slice oa nT oc, .slice ta nT tc, .int .i64 (ry : Int), .int .i64 (rt : Int)] 28) := ⟨_, rfl⟩
      obtain ⟨F, hF⟩ : ∃ F, w4.heap.size = F := ⟨_, rfl⟩
      have b5 : Below w4.heap.size w4 w5 := by rw [hw5]; exact (Below.refl _ w4).alloc (Nat.le_refl _) _
      have kF : Cells w5 F #[.slice oa nT oc, .slice ta nT tc, .int .i64 (ry : Int), .int .i64 (rt : Int)] 28 := by rw [hw5, ← hF]; exact Cells.new w4 _ 28
      have h43 := hb4.size
      have A5 : Aside (Below B w w5 ∧ Dd w5 B 0 false 0 0 ∧ Cells w5 F #[.slice oa nT oc, .slice ta nT tc, .int .i64 (ry : Int), .int .i64 (rt : Int)] 28 ∧ Ob w5 B3 (.slice oa nT oc) (rn 0 0 false 0 l).out ∧ Oi w5 B3 (.slice ta nT tc) (rn 0 0 false 0 l).tm ∧ B < F ∧ B < B3 ∧ (rn 0 0 false 0 l).why = ry ∧ (rn 0 0 false 0 l).at_ = rt ∧ (rn 0 0 false 0 l).out.length = nT ∧ nT ≤ 2000000 ∧ rt ≤ 2000000 ∧ ry ≤ 21 ∧ B < w5.heap.size) := by
        refine ⟨(a3.1.trans (hb4.mono (by omega))).trans (b5.mono (by omega)), Cells.below (Cells.below a3.2.2.1 hb4 (by omega)) b5 (by omega), kF, Ow.below hobO b5 (Nat.le_refl _), Ow.below hobT b5 (Nat.le_refl _), by omega, a3.2.1, a3.2.2.2.2.1, a3.2.2.2.2.2, hnO, ?_, ?_, ?_, ?_⟩
        · have := A.out; omega
        · have := A.out; have := a3.2.2.2.2.2; omega
        · have := rn_why l 0 0 false 0; have := a3.2.2.2.2.1; omega
        · have := b5.size; omega
      have hnTi : (nT : Int) ≤ 2000000 := by have := A5.out; omega
      have hrti : (rt : Int) ≤ 2000000 := by have := A5.out; omega
      have hryi : (ry : Int) ≤ 21 := by have := A5.out; omega
      rw [← hw5, hF]
      clear a3 hobO hobT hb4 hnO hnT hlens hof hw5 hF b5 kF h43
      go_wp2_with fail
      go_loopg [8, 9] L (fun gg s8 s9 wr => ∃ k told : Nat, s8 = .int .i64 (told : Int) ∧ s9 = .int .i64 (k : Int) ∧ Aside (k + gg = L ∧ told ≤ k ∧ Sx l wr B k told ∧ But B w5 wr))
      case atStart => exact ⟨0, 0, rfl, rfl, by omega, by omega, .run 0 false 0 [] [] wf0 A5.out.2.1 ⟨⟨rfl, rfl, rfl⟩, rfl⟩ rfl rfl, But.refl _ _⟩
      case round =>
        obtain ⟨k, told, rfl, rfl, hJ⟩ := hrel
        obtain ⟨hkg, htk, hsx, hbt⟩ := hJ.out
        have a0 := A.out
        have a5 := A5.out
        by_cases hk : k < L
        · have t1 : ((k : Int) < (L : Int)) = True := eq_true (by omega)
          have t1' : (k < L) = True := eq_true hk
          have hkI : (k : Int) < 2000000 := by omega
          have htI : (told : Int) < 2000000 := by omega
          obtain ⟨x, hx⟩ : ∃ x, l[k]? = some x := ⟨_, List.getElem?_eq_getElem (by omega)⟩
          obtain ⟨ab, ao, ha, hcB⟩ : ∃ ab ao, a = some ⟨ab, ao, none⟩ ∧ w.cell? ⟨ab, ao + k, none⟩ = some (.int .u8 (x : Int)) := by
            rcases a0.1 with e | ⟨ab, ao, e, h⟩
            · rw [e] at hx; simp at hx
            · exact ⟨ab, ao, e, h k x hx⟩
          subst ha
          have hcl := World.block_lt_of_cell? w ⟨ab, ao + k, none⟩ hcB
          rw [a0.2.2.2.2.1] at hcl
          have belr : Below B w wr := a5.1.trans (hbt.below (Nat.le_refl _) (by omega))
          have cx : wr.cell? ⟨ab, ao + k, none⟩ = some (.int .u8 (x : Int)) := (belr.cell (p := ⟨ab, ao + k, none⟩) hcl).trans hcB
          have hput := put_sx l wr B k told x hx a0.2.2.2.1 hsx
          have AX : Aside (k + gk = L ∧ k < L ∧ told ≤ k ∧ But B w5 wr) := ⟨hkg, hk, htk, hbt⟩
          clear hJ hkg htk hsx hbt a0 a5 hk hx hcB hcl belr
          go_upto_region 15 with (go_at_call 14; refine hput.mono ?_; rintro e2 w6 ⟨u, has, y, told', rfl, hnx, hsx6, hb6⟩)
          have ax := AX.out
          have a5 := A5.out
          have bt6 : But B w5 w6 := ax.2.2.2.trans hb6
          have k6 := bt6.cells a5.2.2.1 (by omega)
          have d0 := (four k6).1
          have d1 := (four k6).2.1
          have d2 := (four k6).2.2.1
          have d3 := (four k6).2.2.2
          have oO := Ow.but' a5.2.2.2.1 bt6 a5.2.2.2.2.2.2.1
          have oT := Ow.but' a5.2.2.2.2.1 bt6 a5.2.2.2.2.2.2.1
          have A6 : Aside (k + gk = L ∧ k < L ∧ told ≤ k ∧ Sx l w6 B (k + 1) told' ∧ But B w5 w6) := ⟨ax.1, ax.2.1, ax.2.2.1, hsx6, bt6⟩
          cases hnx using Nx.el with
          | none h hu hy ht hw hs =>
            subst h
            subst hu
            subst hy
            obtain rfl := ht
            rcases hw with hw | ⟨hw, t, hw2, hw3⟩
            · have t5 : ((told' : Int) < (nT : Int)) = False := eq_false (by omega)
              have t5' : (told' < nT) = False := eq_false (by omega)
              clear hw
              by_cases hr0 : ry = 0
              · subst hr0
                clear ax a5 hput hsx6 hb6 bt6 k6 oO oT cx
                go_wp2_with fail
                have a6 := A6.out
                go_roundg (gk - 1)
                case measure => omega
                case rel => exact ⟨k + 1, told', by first | rfl | go_num, by go_num, by omega, by omega, a6.2.2.2.1, a6.2.2.2.2⟩
              · have t8 : ((ry : Int) != 0) = true := by rw [bne_iff_ne]; omega
                have t8' : ((ry : Int) = 0) = False := eq_false (by omega)
                have t8'' : ((ry : Int) == 0) = false := by rw [beq_eq_false_iff_ne]; omega
                have hat : k < rt := by rcases hs with h | h <;> omega
                have t9 : ((rt : Int) ≤ (k : Int)) = False := eq_false (by omega)
                have t9' : (rt ≤ k) = False := eq_false (by omega)
                clear ax a5 hput hsx6 hb6 bt6 k6 oO oT cx hr0 hat
                go_wp2_with fail
                have a6 := A6.out
                go_roundg (gk - 1)
                case measure => omega
                case rel => exact ⟨k + 1, told', by first | rfl | go_num, by go_num, by omega, by omega, a6.2.2.2.1, a6.2.2.2.2⟩
            · have t5 : ((told' : Int) < (nT : Int)) = True := eq_true (by omega)
              have t5' : (told' < nT) = True := eq_true (by omega)
              obtain ⟨tb, hta, ct⟩ := Oi.get oT hw2
              subst hta
              have t6 : ((t : Int) == (k : Int)) = false := by rw [beq_eq_false_iff_ne]; omega
              have t6' : ((t : Int) = (k : Int)) = False := eq_false (by omega)
              have t6'' : (t = k) = False := eq_false (by omega)
              clear hw2
              by_cases hr0 : ry = 0
              · subst hr0
                clear ax a5 hput hsx6 hb6 bt6 k6 oO oT cx hw3
                go_wp2_with fail
                have a6 := A6.out
                go_roundg (gk - 1)
                case measure => omega
                case rel => exact ⟨k + 1, told', by first | rfl | go_num, by go_num, by omega, by omega, a6.2.2.2.1, a6.2.2.2.2⟩
              · have t8 : ((ry : Int) != 0) = true := by rw [bne_iff_ne]; omega
                have t8' : ((ry : Int) = 0) = False := eq_false (by omega)
                have t8'' : ((ry : Int) == 0) = false := by rw [beq_eq_false_iff_ne]; omega
                have hat : k < rt := by rcases hs with h | h <;> omega
                have t9 : ((rt : Int) ≤ (k : Int)) = False := eq_false (by omega)
                have t9' : (rt ≤ k) = False := eq_false (by omega)
                clear ax a5 hput hsx6 hb6 bt6 k6 oO oT cx hw3 hr0 hat
                go_wp2_with fail
                have a6 := A6.out
                go_roundg (gk - 1)
                case measure => omega
                case rel => exact ⟨k + 1, told', by first | rfl | go_num, by go_num, by omega, by omega, a6.2.2.2.1, a6.2.2.2.2⟩
          | some h hy ht hl h1 h2 hs =>
            subst h
            subst hy
            have t5 : ((told : Int) < (nT : Int)) = True := eq_true (by omega)
            have t5' : (told < nT) = True := eq_true (by omega)
            obtain ⟨tb, hta, ct⟩ := Oi.get oT h1
            subst hta
            obtain ⟨ob', hoa, cO⟩ := Ob.get oO h2
            subst hoa
            clear h1 h2
            have t6 : ((k : Int) == (k : Int)) = true := by simp
            have t7 : ((u : Int) != (u : Int)) = false := by simp
            subst ht
            by_cases hr0 : ry = 0
            · subst hr0
              clear ax a5 hput hsx6 hb6 bt6 k6 oO oT cx
              go_wp2_with fail
              have a6 := A6.out
              go_roundg (gk - 1)
              case measure => omega
              case rel => exact ⟨k + 1, told + 1, by first | rfl | go_num, by go_num, by omega, by omega, a6.2.2.2.1, a6.2.2.2.2⟩
            · have t8 : ((ry : Int) != 0) = true := by rw [bne_iff_ne]; omega
              have t8' : ((ry : Int) = 0) = False := eq_false (by omega)
              have t8'' : ((ry : Int) == 0) = false := by rw [beq_eq_false_iff_ne]; omega
              have hat : k < rt := by rcases hs with h | h <;> omega
              have t9 : ((rt : Int) ≤ (k : Int)) = False := eq_false (by omega)
              have t9' : (rt ≤ k) = False := eq_false (by omega)
              clear ax a5 hput hsx6 hb6 bt6 k6 oO oT cx hr0 hat
              go_wp2_with fail
              have a6 := A6.out
              go_roundg (gk - 1)
              case measure => omega
              case rel => exact ⟨k + 1, told + 1, by first | rfl | go_num, by go_num, by omega, by omega, a6.2.2.2.1, a6.2.2.2.2⟩
          | stop h hu hy hy0 ht hw hs =>
            subst h
            subst hu
            obtain rfl := ht
            have hyr : y = ry := by omega
            subst hyr
            have t5 : ((told' : Int) < (nT : Int)) = False := eq_false (by omega)
            have t5' : (told' < nT) = False := eq_false (by omega)
            have t8 : ((y : Int) != 0) = true := by rw [bne_iff_ne]; omega
            have t8' : ((y : Int) = 0) = False := eq_false (by omega)
            have t8'' : ((y : Int) == 0) = false := by rw [beq_eq_false_iff_ne]; omega
            have t9 : ((rt : Int) ≤ (k : Int)) = True := eq_true (by omega)
            have t9' : (rt ≤ k) = True := eq_true (by omega)
            have t10 : ((y : Int) != (y : Int)) = false := by simp
            clear ax a5 hput hsx6 hb6 bt6 k6 oO oT cx hy0 hw hy
            go_wp2_with fail
            have a6 := A6.out
            go_roundg (gk - 1)
            case measure => omega
            case rel => exact ⟨k + 1, told', by first | rfl | go_num, by go_num, by omega, by omega, a6.2.2.2.1, a6.2.2.2.2⟩
        · have t1 : ((k : Int) < (L : Int)) = False := eq_false (by omega)
          have t1' : (k < L) = False := eq_false hk
          have hkL : k = l.length := by omega
          rw [hkL] at hsx
          have htold := (end_sx l wr B told hsx).2
          have hE1 : ∀ W, Sx l W B l.length told → Calls Try.prog 16 #[.pointer (some ⟨B, 0, none⟩)] W (fun e w' => e = .returned (.int .i64 (ry : Int)) ∧ De w' B ry ∧ But B W w') := fun W hW => by
            have := (end_sx l W B told hW).1
            rw [a5.2.2.2.2.2.2.2.1] at this
            exact this
          obtain ⟨w6, hw6⟩ : ∃ w6, w6 = wr := ⟨_, rfl⟩
          subst hw6
          have k6 := hbt.cells a5.2.2.1 (by omega)
          have d0 := (four k6).1
          have d2 := (four k6).2.2.1
          obtain rfl : told = nT := by omega
          have bel6 : Below B w w6 := a5.1.trans (hbt.below (Nat.le_refl _) (by omega))
          have hBs : B < w6.heap.size := by have := hbt.size; omega
          have AX : Aside (Below B w w6 ∧ B < w6.heap.size ∧ Cells w6 F #[.slice oa told oc, .slice ta told tc, .int .i64 (ry : Int), .int .i64 (rt : Int)] 28 ∧ F ≠ B ∧ ry ≤ 21) := ⟨bel6, hBs, k6, by omega, a5.2.2.2.2.2.2.2.2.2.2.2.2.1⟩
          have tq : ((ry : Int) != (ry : Int)) = false := by simp
          have tq2 : ((ry : Int) == (ry : Int)) = true := by simp
          clear hJ hkg htk hbt a0 a5 hk hkL htold k6 bel6 hBs
          go_upto_region 23 with fail
          go_region_held3 (fun u => u.cell? ⟨F, 2, none⟩ = some (.int .i64 (ry : Int))) (first | assumption | exact d2 | exact d7 | exact d8)
            (first
              | (go_at_call 16; (fail_if_success (have hh := hde7)); refine (hE1 _ (by first | exact hsx | exact hsx.drew | exact hsx.drewN _)).mono ?_; rintro e7 w7 ⟨rfl, hde7, hb7⟩; have k7 := hb7.cells (b := F) (t := 28) (by exact AX.out.2.2.1) AX.out.2.2.2.1; have d7 := (four k7).2.2.1)
              | (go_at_call 16; refine (end_de _ B ry (by first | exact hde7 | exact hde7.drew | exact hde7.drewN _)).mono ?_; rintro e8 w8 ⟨rfl, hde8, hb8⟩; have k8 := hb8.cells (b := F) (t := 28) (by exact k7) AX.out.2.2.2.1; have d8 := (four k8).2.2.1))
          have hp := put_de w8 B ry hde8
          have ax := AX.out
          have A8 : Aside (Below B w w8 ∧ B < w8.heap.size ∧ Cells w8 F #[.slice oa told oc, .slice ta told tc, .int .i64 (ry : Int), .int .i64 (rt : Int)] 28 ∧ F ≠ B) := by
            have b7 : But B w6 w7 := ⟨hb7.os, hb7.tape, hb7.output, hb7.size, hb7.block⟩
            have h7 := b7.size
            have h8 := hb8.size
            exact ⟨ax.1.trans ((b7.trans hb8).below (Nat.le_refl _) (Nat.le_of_lt ax.2.1)), by omega, k8, ax.2.2.2.1⟩
          clear ax hE1 hsx d0 d2 hde7 hb7 k7 d7 hde8 hb8 k8 d8
          go_upto_region 26 with (go_at_call 14; refine hp.mono ?_; rintro e9 w9 ⟨⟨z, hz, rfl⟩, hb9⟩)
          have a8 := A8.out
          have k9 := hb9.cells a8.2.2.1 a8.2.2.2
          have d0 := (four k9).1
          have tz : ((z : Int) != 0) = true := by rw [bne_iff_ne]; omega
          have tz' : ((z : Int) = 0) = False := eq_false (by omega)
          have tz'' : ((z : Int) == 0) = false := by rw [beq_eq_false_iff_ne]; omega
          have tt : ((told : Int) == (told : Int)) = true := by simp
          have haw := awake_c w9
          have A9 : Aside (Below B w w9 ∧ B ≤ w9.heap.size) := ⟨a8.1.trans (hb9.below (Nat.le_refl _) (by omega)), by have := hb9.size; omega⟩
          clear a8 k9 hb9 hz hp
          go_wp2_with (go_at_call 12; refine haw.mono ?_; rintro e10 w10 ⟨rfl, hb10⟩)
          first | go_ret | go_ret2
          exact ⟨rfl, A9.out.1.trans (hb10.mono A9.out.2)⟩
end Go.Proofs.Ytmijpocfichfpaa

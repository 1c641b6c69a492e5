/-
  SixbitsBlanks' walk.
-/
import Derived.Test.YtmijpocfichfpaaBackCore
namespace Go.Proofs.Ytmijpocfichfpaa
open Go.RowKit
set_option linter.unusedVariables false
def blk (q : Nat) : Nat := if q = 0 then 9 else if q = 1 then 10 else if q = 2 then 13 else 32
theorem blk_blank (q : Nat) : isBlank (blk q) = true := by
  unfold blk
  split
  · rfl
  split
  · rfl
  split <;> rfl
set_option maxRecDepth 20000 in
set_option maxHeartbeats 2000000 in
theorem blanks_core (w : World) (a a' : Option Addr) (l m : List Nat) (L C M C' : Nat) (hl : Lies w a l) (hL : l.length = L) (hLb : L ≤ 2000000) (ho : Oct l) (hm : Lies w a' m) (hM : m.length = M) (hMb : M ≤ 2000000) (ho' : Oct m) :
    Calls Try.prog 8 #[.slice a L C, .slice a' M C'] w fun e w' => e = .returned (.bool true) ∧ Below w.heap.size w w' := by
  obtain ⟨B, hB⟩ : ∃ B, w.heap.size = B := ⟨_, rfl⟩
  rw [hB]
  have A : Aside (Lies w a l ∧ l.length = L ∧ L ≤ 2000000 ∧ Oct l ∧ w.heap.size = B ∧ Lies w a' m ∧ m.length = M ∧ M ≤ 2000000 ∧ Oct m) := ⟨hl, hL, hLb, ho, hB, hm, hM, hMb, ho'⟩
  have hLi : (L : Int) ≤ 2000000 := by omega
  have hMi : (M : Int) ≤ 2000000 := by omega
  clear hl hL hLb ho hB hm hM hMb ho'
  go_enter Try.func8, Try.ntmps8
  go_wp2_with fail
  go_loopg [5, 6] L (fun gg s5 s6 wr => ∃ i : Nat, s6 = .int .i64 (i : Int) ∧ Aside (i + gg = L ∧ ∃ acc, Ob wr B s5 acc ∧ Wv (l.take i) acc ∧ Below B w wr ∧ acc.length ≤ 3 * i))
  case atStart => exact ⟨0, rfl, by omega, [], Ow.nil (by have := A.out; omega), .nil, Below.refl _ _, by simp⟩
  case round =>
    obtain ⟨i, rfl, hI⟩ := hrel
    obtain ⟨w5, hw5⟩ : ∃ w5, w5 = wr := ⟨_, rfl⟩
    subst hw5
    obtain ⟨G, hG⟩ : ∃ G, G = gk := ⟨_, rfl⟩
    subst hG
    obtain ⟨hig, acc, hob, hwv, hbel, hal⟩ := hI.out
    have a0 := A.out
    obtain ⟨va, vc, hv, hvc, hlies, hvn⟩ := hob.shape
    obtain ⟨ln, hln⟩ : ∃ ln, acc.length = ln := ⟨_, rfl⟩
    rw [hln] at hv
    subst hv
    by_cases hi : i < L
    · have t1 : ((i : Int) < (L : Int)) = True := eq_true (by omega)
      have t1' : (i < L) = True := eq_true hi
      have hiI : (i : Int) < 2000000 := by omega
      obtain ⟨x, hx⟩ : ∃ x, l[i]? = some x := ⟨_, List.getElem?_eq_getElem (by omega)⟩
      obtain ⟨ab, ao, ha, hcB⟩ : ∃ ab ao, a = some ⟨ab, ao, none⟩ ∧ w.cell? ⟨ab, ao + i, none⟩ = some (.int .u8 (x : Int)) := by
        rcases a0.1 with e | ⟨ab, ao, e, h⟩
        · rw [e] at hx; simp at hx
        · exact ⟨ab, ao, e, h i x hx⟩
      subst ha
      have htk : l.take (i + 1) = l.take i ++ [x] := by rw [List.take_add_one, hx]; rfl
      have hcl := World.block_lt_of_cell? w ⟨ab, ao + i, none⟩ hcB
      rw [a0.2.2.2.2.1] at hcl
      have AX : Aside (i + G = L ∧ i < L ∧ Ob w5 B (.slice va ln vc) acc ∧ Wv (l.take i) acc ∧ Below B w w5 ∧ acc.length ≤ 3 * i ∧ l.take (i + 1) = l.take i ++ [x] ∧ L ≤ 2000000 ∧ w.cell? ⟨ab, ao + i, none⟩ = some (.int .u8 (x : Int)) ∧ ab < B) := ⟨hig, hi, hob, hwv, hbel, hal, htk, a0.2.2.1, hcB, hcl⟩
      by_cases hM0 : 0 < M
      · have t2 : ((0 : Int) < (M : Int)) = True := eq_true (by omega)
        have t2' : (0 < M) = True := eq_true hM0
        have hMne : (M : Int) ≠ 0 := by omega
        obtain ⟨j, hj⟩ : ∃ j, i % M = j := ⟨_, rfl⟩
        have hjM : j < M := by rw [← hj]; exact Nat.mod_lt _ hM0
        have hrem : Int.tmod (i : Int) (M : Int) = (j : Int) := by rw [← hj, Int.ofNat_tmod]
        obtain ⟨u, hu⟩ : ∃ u, m[j]? = some u := ⟨_, List.getElem?_eq_getElem (by omega)⟩
        have hu8 : u < 256 := a0.2.2.2.2.2.2.2.2 u (List.mem_of_getElem? hu)
        obtain ⟨mb, mo, hmm, hcM⟩ : ∃ mb mo, a' = some ⟨mb, mo, none⟩ ∧ w.cell? ⟨mb, mo + j, none⟩ = some (.int .u8 (u : Int)) := by
          rcases a0.2.2.2.2.2.1 with e | ⟨mb, mo, e, h⟩
          · rw [e] at hu; simp at hu
          · exact ⟨mb, mo, e, h j u hu⟩
        subst hmm
        have hml := World.block_lt_of_cell? w ⟨mb, mo + j, none⟩ hcM
        rw [a0.2.2.2.2.1] at hml
        obtain ⟨r, hr⟩ : ∃ r, u % 3 = r := ⟨_, rfl⟩
        have hri : (u : Int) % 3 = (r : Int) := by omega
        have hr3 : r < 3 := by omega
        have AM : Aside (w.cell? ⟨mb, mo + j, none⟩ = some (.int .u8 (u : Int)) ∧ mb < B ∧ r < 3) := ⟨hcM, hml, hr3⟩
        have hjI : (j : Int) < (M : Int) := by omega
        have hjI2 : (j : Int) < 2000000 := by omega
        have huI : (u : Int) < 256 := by omega
        clear hI hig hob hwv hbel hal a0 hvc hlies hvn hln hi hx hcB htk hcl hM0 hj hjM hu hu8 hcM hml hr hr3
        go_wp2_with fail
        go_loopg [5, 7] r (fun gg s5 s7 wq => ∃ k : Nat, s7 = .int .i64 (k : Int) ∧ Aside (k + gg = r ∧ ∃ acc, Ob wq B s5 acc ∧ Wv (l.take i) acc ∧ Below B w wq ∧ acc.length ≤ 3 * i + k))
        case atStart => exact ⟨0, rfl, by omega, acc, AX.out.2.2.1, AX.out.2.2.2.1, AX.out.2.2.2.2.1, AX.out.2.2.2.2.2.1⟩
        case round =>
          obtain ⟨k, rfl, hJ⟩ := hrel
          obtain ⟨hkg, acc2, hob2, hwv2, hbel2, hal2⟩ := hJ.out
          obtain ⟨va2, vc2, hv2, _, _, _⟩ := hob2.shape
          obtain ⟨ln2, hln2⟩ : ∃ ln, acc2.length = ln := ⟨_, rfl⟩
          rw [hln2] at hv2
          subst hv2
          have am := AM.out
          have ax := AX.out
          have cu : wr.cell? ⟨mb, mo + j, none⟩ = some (.int .u8 (u : Int)) := (hbel2.cell (p := ⟨mb, mo + j, none⟩) am.2.1).trans am.1
          by_cases hk : k < r
          · have t3 : ((k : Int) < (r : Int)) = True := eq_true (by omega)
            have t3' : (k < r) = True := eq_true hk
            have hkI : (k : Int) < 3 := by omega
            obtain ⟨q, hq⟩ : ∃ q, (i + k) % 4 = q := ⟨_, rfl⟩
            have hqi : ((i : Int) + (k : Int)) % 4 = (q : Int) := by omega
            have hq4 : (q : Int) < 4 := by omega
            obtain ⟨H, hH⟩ : ∃ H, wr.heap.size = H := ⟨_, rfl⟩
            obtain ⟨bl, hbl⟩ : ∃ bl, blk q = bl := ⟨_, rfl⟩
            have hz1 : (wr.alloc (.cells #[.int .u8 9, .int .u8 10, .int .u8 13, .int .u8 32] 5)).heap.size = H + 1 := by rw [← hH]; show (wr.heap.push _).size = _; simp
            have cq : (wr.alloc (.cells #[.int .u8 9, .int .u8 10, .int .u8 13, .int .u8 32] 5)).cell? ⟨H, q, none⟩ = some (.int .u8 (bl : Int)) := by
              rw [← hH, (Cells.new wr _ 5).cell q, ← hbl]
              rcases (show q = 0 ∨ q = 1 ∨ q = 2 ∨ q = 3 by omega) with rfl | rfl | rfl | rfl <;> rfl
            have b1 : Below wr.heap.size wr (wr.alloc (.cells #[.int .u8 9, .int .u8 10, .int .u8 13, .int .u8 32] 5)) := (Below.refl _ wr).alloc (Nat.le_refl _) _
            obtain ⟨w7, hw7⟩ : ∃ w7, w7 = wr.alloc (.cells #[.int .u8 9, .int .u8 10, .int .u8 13, .int .u8 32] 5) := ⟨_, rfl⟩
            have b2 : Below w7.heap.size w7 (w7.alloc (.cells #[.int .u8 (bl : Int)] 5)) := (Below.refl _ w7).alloc (Nat.le_refl _) _
            rw [← hw7] at hz1 b1
            have hobA : Ob (w7.alloc (.cells #[.int .u8 (bl : Int)] 5)) B (.slice va2 ln2 vc2) acc2 := Ow.below (Ow.below hob2 b1 (Nat.le_refl _)) b2 (Nat.le_refl _)
            have hlA := lies_one w7 (H + 1) bl hz1
            have hle2 := hob2.le
            have A2 : Aside (Below B w (w7.alloc (.cells #[.int .u8 (bl : Int)] 5)) ∧ acc2.length + 1 ≤ 140737488355328 ∧ k + gk = r ∧ k < r ∧ Wv (l.take i) acc2 ∧ acc2.length ≤ 3 * i + k ∧ isBlank bl = true) := ⟨(hbel2.trans (b1.mono hle2)).trans (b2.mono (by omega)), by omega, hkg, hk, hwv2, hal2, by rw [← hbl]; exact blk_blank q⟩
            rw [hw7] at hobA hlA A2
            clear hJ hkg hob2 hwv2 hbel2 hal2 hln2 am ax hk hq hbl hz1 b1 b2 hw7 hle2
            go_wp2_with (at_builtin; refine wpList_ob _ rfl (.tmp 36) (.tmp 44) rfl B (.slice va2 ln2 vc2) acc2 (by rfl) hobA (some ⟨H + 1, 0, none⟩) [bl] 1 1 rfl (by rfl) (by intro h; cases h) hlA A2.out.2.1 ?_; intro v6 w6 hap)
            have a2 := A2.out
            go_roundg (gk - 1)
            case measure => omega
            case rel => exact ⟨k + 1, by go_num, by omega, acc2 ++ [bl], hap.ow, a2.2.2.2.2.1.blank a2.2.2.2.2.2.2, a2.1.trans hap.ap.bel, by rw [List.length_append]; simp; omega⟩
          · have t3 : ((k : Int) < (r : Int)) = False := eq_false (by omega)
            have t3' : (k < r) = False := eq_false hk
            have hkI : (k : Int) ≤ 3 := by omega
            have cx : wr.cell? ⟨ab, ao + i, none⟩ = some (.int .u8 (x : Int)) := (hbel2.cell (p := ⟨ab, ao + i, none⟩) ax.2.2.2.2.2.2.2.2.2).trans ax.2.2.2.2.2.2.2.2.1
            obtain ⟨H, hH⟩ : ∃ H, wr.heap.size = H := ⟨_, rfl⟩
            have bal : Below wr.heap.size wr (wr.alloc (.cells #[.int .u8 (x : Int)] 5)) := (Below.refl _ wr).alloc (Nat.le_refl _) _
            have hobA : Ob (wr.alloc (.cells #[.int .u8 (x : Int)] 5)) B (.slice va2 ln2 vc2) acc2 := Ow.below hob2 bal (Nat.le_refl _)
            have hlA := lies_one wr H x hH
            have A2 : Aside (Below B w (wr.alloc (.cells #[.int .u8 (x : Int)] 5)) ∧ acc2.length + 1 ≤ 140737488355328 ∧ Wv (l.take i) acc2 ∧ acc2.length ≤ 3 * i + 2) := ⟨hbel2.trans (bal.mono hob2.le), by omega, hwv2, by omega⟩
            clear hJ hkg hob2 hwv2 hbel2 hal2 hln2 am ax hk bal
            go_wp2_with (at_builtin; refine wpList_ob _ rfl (.tmp 46) (.tmp 51) rfl B (.slice va2 ln2 vc2) acc2 (by rfl) hobA (some ⟨H, 0, none⟩) [x] 1 1 rfl (by rfl) (by intro h; cases h) hlA A2.out.2.1 ?_; intro v6 w6 hap)
            have a2 := A2.out
            have ax := AX.out
            go_roundg (G - 1)
            case measure => omega
            case rel => exact ⟨i + 1, by go_num, by omega, acc2 ++ [x], hap.ow, by rw [ax.2.2.2.2.2.2.1]; exact a2.2.2.1.snoc x, a2.1.trans hap.ap.bel, by rw [List.length_append]; simp; omega⟩
      · obtain rfl : M = 0 := by omega
        have cx : w5.cell? ⟨ab, ao + i, none⟩ = some (.int .u8 (x : Int)) := (hbel.cell (p := ⟨ab, ao + i, none⟩) hcl).trans hcB
        obtain ⟨H, hH⟩ : ∃ H, w5.heap.size = H := ⟨_, rfl⟩
        have bal : Below w5.heap.size w5 (w5.alloc (.cells #[.int .u8 (x : Int)] 5)) := (Below.refl _ w5).alloc (Nat.le_refl _) _
        have hobA : Ob (w5.alloc (.cells #[.int .u8 (x : Int)] 5)) B (.slice va ln vc) acc := Ow.below hob bal (Nat.le_refl _)
        have hlA := lies_one w5 H x hH
        have A2 : Aside (Below B w (w5.alloc (.cells #[.int .u8 (x : Int)] 5)) ∧ acc.length + 1 ≤ 140737488355328) := ⟨hbel.trans (bal.mono hob.le), by omega⟩
        clear hI hig hob hwv hbel hal a0 hvc hlies hvn hln hi hx hcB htk hcl hM0 bal
        go_wp2_with (at_builtin; refine wpList_ob _ rfl (.tmp 46) (.tmp 51) rfl B (.slice va ln vc) acc (by rfl) hobA (some ⟨H, 0, none⟩) [x] 1 1 rfl (by rfl) (by intro h; cases h) hlA A2.out.2 ?_; intro v6 w6 hap)
        have a2 := A2.out
        have ax := AX.out
        go_roundg (G - 1)
        case measure => omega
        case rel => exact ⟨i + 1, by go_num, by omega, acc ++ [x], hap.ow, by rw [ax.2.2.2.2.2.2.1]; exact ax.2.2.2.1.snoc x, a2.1.trans hap.ap.bel, by rw [List.length_append]; simp; omega⟩
    · have t1 : ((i : Int) < (L : Int)) = False := eq_false (by omega)
      have t1' : (i < L) = False := eq_false hi
      rw [List.take_of_length_le (by omega)] at hwv
      have hla : Lies w5 a l := a0.1.below (by rw [a0.2.2.2.2.1]; exact hbel)
      have hw1 := whole_c w5 a l L C hla a0.2.1 (by omega) a0.2.2.2.1
      obtain ⟨r1, r2, r3⟩ := rn_wv hwv 0 0 0 false 0
      obtain ⟨y, hy⟩ : ∃ y, (rn 0 0 false 0 l).why = y := ⟨_, rfl⟩
      obtain ⟨t, ht⟩ : ∃ t, (rn 0 0 false 0 l).at_ = t := ⟨_, rfl⟩
      obtain ⟨t2, ht2⟩ : ∃ t2, (rn 0 0 false 0 acc).at_ = t2 := ⟨_, rfl⟩
      obtain ⟨R, hR⟩ : ∃ R, (rn 0 0 false 0 l).out = R := ⟨_, rfl⟩
      unfold WhTo at hw1
      rw [hy, ht, hR] at hw1
      rw [hR] at r1
      rw [hy] at r2
      rw [ht, ht2] at r3
      have hRl := (rn_lens l 0 0 false 0).1
      rw [hR] at hRl
      have hge : ((t : Int) ≤ (t2 : Int)) = True := eq_true (by omega)
      have hge' : (t ≤ t2) = True := eq_true (by omega)
      have hoa : Oct acc := hwv.oct a0.2.2.2.1
      have AX : Aside (Below B w w5 ∧ B ≤ w5.heap.size ∧ Lies w5 va acc ∧ acc.length = ln ∧ ln < 140737488355328 ∧ Oct acc ∧ R = (rn 0 0 false 0 acc).out ∧ y = (rn 0 0 false 0 acc).why ∧ (rn 0 0 false 0 acc).at_ = t2 ∧ R.length ≤ 2000000) := ⟨hbel, hob.le, hlies, hln, by omega, hoa, r1, r2, ht2, by omega⟩
      clear hI hig hob hwv hbel hal a0 hvc hlies hvn hln hi hla r1 r2 r3 hy ht ht2 hR hRl hoa
      go_upto_region 12 with (go_at_call 9; refine hw1.mono ?_; rintro e1 w6 ⟨vo, rfl, hob6, hb6⟩)
      have ax := AX.out
      obtain ⟨oa, oc, hvo, _, hol, _⟩ := hob6.shape
      obtain ⟨rl, hrl⟩ : ∃ rl, R.length = rl := ⟨_, rfl⟩
      rw [hrl] at hvo
      subst hvo
      have hlc := ax.2.2.1.below hb6
      have hw2 := whole_c w6 va acc ln vc hlc ax.2.2.2.1 ax.2.2.2.2.1 ax.2.2.2.2.2.1
      unfold WhTo at hw2
      rw [← ax.2.2.2.2.2.2.1, ← ax.2.2.2.2.2.2.2.1, ax.2.2.2.2.2.2.2.2.1] at hw2
      have A6 : Aside (Below B w w6 ∧ B ≤ w6.heap.size ∧ Lies w6 oa R ∧ R.length = rl ∧ rl ≤ 2000000) := ⟨ax.1.trans (hb6.mono ax.2.1), Nat.le_trans ax.2.1 hb6.size, hol, hrl, by omega⟩
      clear ax hol hlc hb6 hob6 hw1 hrl
      go_upto_region 13 with (go_at_call 9; refine hw2.mono ?_; rintro e1 w7 ⟨vo, rfl, hob7, hb7⟩)
      have a6 := A6.out
      obtain ⟨pa, pc, hvo, _, hpl, _⟩ := hob7.shape
      rw [a6.2.2.2.1] at hvo
      subst hvo
      have hs1 := same_c oa pa R R rl rl oc pc w7 a6.2.2.2.1 a6.2.2.2.1 (by omega) (a6.2.2.1.below hb7) hpl
      rw [decide_eq_true rfl] at hs1
      have A7 : Aside (Below B w w7 ∧ B ≤ w7.heap.size) := ⟨a6.1.trans (hb7.mono a6.2.1), Nat.le_trans a6.2.1 hb7.size⟩
      clear a6 hpl hb7 hob7 hw2
      have hyy : ((y : Int) == (y : Int)) = true := by simp
      go_wp2_with (first
        | (go_at_call 11; refine hs1.mono ?_; rintro e1 w8 ⟨rfl, n8, hw8⟩; have haw := awake_c w8; have A8 : Aside (Below B w w8 ∧ B ≤ w8.heap.size) := (by rw [hw8]; exact ⟨Below.drewN' A7.out.1 n8, A7.out.2⟩); clear hw8 hs1)
        | (go_at_call 12; refine haw.mono ?_; rintro e1 w9 ⟨rfl, hb9⟩))
      first | go_ret | go_ret2
      exact ⟨rfl, A8.out.1.trans (hb9.mono A8.out.2)⟩
end Go.Proofs.Ytmijpocfichfpaa

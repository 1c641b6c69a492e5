/-
  HeaderSteps' walk.
-/
import Derived.Test.YtmlkdpoignimaaaStp
namespace Go.Proofs.Ytmlkdpoignimaaa
open Go.RowKit
set_option linter.unusedVariables false
set_option maxRecDepth 20000 in
set_option maxHeartbeats 8000000 in
theorem steps_core (w : World) (a : Option Addr) (l : List Nat) (L C z : Nat) (a2 : Option Addr) (m : List Nat) (M D : Nat) (hl : Lies w a l) (hL : l.length = L) (hLC : L ≤ C) (hLb : L < 1000000000000000) (ho : Oct l) (hm : Lies w a2 m) (hM : m.length = M) (hMb : M < 1000000000000000) (hom : Oct m) (hz : z < 65536) :
    Calls Try.prog 4 #[.slice a L C, .int .u16 (z : Int), .slice a2 M D] w fun e w' => e = .returned (.bool true) ∧ Below w.heap.size w w' := by
  obtain ⟨lo, hlo⟩ : ∃ lo, w.heap.size = lo := ⟨_, rfl⟩
  obtain ⟨n, hn⟩ : ∃ n, z + 1 = n := ⟨_, rfl⟩
  obtain ⟨R, hR⟩ : ∃ R, rn n 0 [] [] l = R := ⟨_, rfl⟩
  obtain ⟨y, hy⟩ : ∃ y, R.why = y := ⟨_, rfl⟩
  obtain ⟨t, ht⟩ : ∃ t, R.at_ = t := ⟨_, rfl⟩
  obtain ⟨T, hT⟩ : ∃ T, told R.fs = T := ⟨_, rfl⟩
  have hnew := new_c n (by omega) (by omega) w
  unfold NewTo at hnew
  rw [hlo] at hnew
  have hof := fun W (h : Lies W a l) => rof_c W a l L C n h hL hLC hLb ho (by omega) (by omega)
  unfold OfTo at hof
  rw [hR, hy, ht, hT] at hof
  have hro : OctF T ∧ T.length ≤ 64 := by have := rn_oct n ho; rw [hR, hT] at this; exact this
  have hat : t ≤ L := by have := (rn_at n l 0 [] []).2; rw [hR, ht, hL] at this; omega
  have A : Aside (Lies w a l ∧ l.length = L ∧ L < 1000000000000000 ∧ Oct l ∧ Lies w a2 m ∧ m.length = M ∧ M < 1000000000000000 ∧ Oct m ∧ w.heap.size = lo ∧ OctF T ∧ T.length ≤ 64 ∧ t ≤ L) := ⟨hl, hL, hLb, ho, hm, hM, hMb, hom, hlo, hro.1, hro.2, hat⟩
  have AR : Aside (rn n 0 [] [] l = R ∧ R.why = y ∧ R.at_ = t ∧ told R.fs = T) := ⟨hR, hy, ht, hT⟩
  have hzn : (z : Int) + 1 = (n : Int) := by omega
  have hzI : (z : Int) < 65536 := by omega
  rw [hlo]
  clear hl hL hLC hLb ho hm hM hMb hom hz hR hy ht hT hro hlo hn hat
  go_enter Try.func4, Try.ntmps4
  go_wp2_with (go_at_call 13; refine hnew.mono ?_; rintro e1 w1 ⟨B, rfl, hg1, hb1⟩)
  clear hnew
  go_loopg [10] M (fun gg s10 wr => ∃ k : Nat, s10 = .int .i64 (k : Int) ∧ Aside (k + gg = M ∧ Sr wr lo B n ∧ Below lo w wr))
  case atStart => exact ⟨0, rfl, by omega, Or.inl ⟨_, _, _, hg1⟩, hb1⟩
  case round =>
    obtain ⟨k, rfl, hI⟩ := hrel
    obtain ⟨hkg, hS, hbel⟩ := hI.out
    have a0 := A.out
    clear hI hg1 hb1
    by_cases hk : k < M
    · have t1 : ((k : Int) < (M : Int)) = True := eq_true (by omega)
      have t1' : (k < M) = True := eq_true hk
      have hkI : (k : Int) < 1000000000000000 := by omega
      obtain ⟨x, hx⟩ : ∃ x, m[k]? = some x := ⟨_, List.getElem?_eq_getElem (by omega)⟩
      have hx8 := a0.2.2.2.2.2.2.2.1 x (List.mem_of_getElem? hx)
      obtain ⟨ab, ao, ha, cx⟩ : ∃ ab ao, a2 = some ⟨ab, ao, none⟩ ∧ wr.cell? ⟨ab, ao + k, none⟩ = some (.int .u8 (x : Int)) := by
        rcases a0.2.2.2.2.1 with e | ⟨ab, ao, e, hc⟩
        · rw [e] at hx; simp at hx
        · have c0 := hc k x hx
          exact ⟨ab, ao, e, (hbel.cell (p := ⟨ab, ao + k, none⟩) (by rw [← a0.2.2.2.2.2.2.2.2.1]; exact World.block_lt_of_cell? w _ c0)).trans c0⟩
      subst ha
      have hpu := put_any x hx8 hS
      have A2 : Aside (k + gk = M ∧ k < M ∧ Below lo w wr) := ⟨hkg, hk, hbel⟩
      clear hkg hS hbel a0 hx hx8 hk
      go_wp2_with (go_at_call 14; refine hpu.mono ?_; rintro e2 w2 ⟨q2, y2, rfl, hS2, hc2⟩)
      have a2 := A2.out
      go_roundg (gk - 1)
      case measure => omega
      case rel => exact ⟨k + 1, by go_num, by omega, hS2, a2.2.2.trans hc2.bel⟩
    · have t1 : ((k : Int) < (M : Int)) = False := eq_false (by omega)
      have t1' : (k < M) = False := eq_false hk
      have hrs := reset_any hS
      have A2 : Aside (Below lo w wr) := hbel
      clear hkg hS hbel a0 hk
      go_upto_region 10 with (go_at_call 15; refine hrs.mono ?_; rintro e2 w2 ⟨rfl, hg2, hc2⟩)
      clear hrs
      have a0 := A.out
      have bel2 : Below lo w w2 := A2.out.trans hc2.bel
      have hof2 := hof w2 (a0.1.below (by rw [a0.2.2.2.2.2.2.2.2.1]; exact bel2))
      obtain ⟨lo2, hlo2⟩ : ∃ lo2, w2.heap.size = lo2 := ⟨_, rfl⟩
      rw [hlo2] at hof2
      have A3 : Aside (Below lo w w2 ∧ Rg w2 lo B n 0 [] [] ∧ w2.heap.size = lo2 ∧ lo ≤ lo2) := ⟨bel2, hg2, hlo2, by have := bel2.size; have := a0.2.2.2.2.2.2.2.2.1; omega⟩
      clear hof a0 bel2 hg2 hc2 hlo2 A2
      go_upto_region 11 with (go_at_call 11; refine hof2.mono ?_; rintro e3 w3 ⟨vf, rfl, hfl3, how3, hb3⟩; obtain ⟨af, cf, hvf, _⟩ := how3.shape; obtain ⟨nf, hnf⟩ : ∃ nf, R.fs.length = nf := ⟨_, rfl⟩; rw [hnf] at hvf how3; subst hvf)
      obtain ⟨w4, hw4⟩ : ∃ w4, w4 = w3.alloc (.cells #[.slice af nf cf, .int .i64 (y : Int), .int .i64 (t : Int)] 30) := ⟨_, rfl⟩
      obtain ⟨F, hF⟩ : ∃ F, w3.heap.size = F := ⟨_, rfl⟩
      have b4 : Below w3.heap.size w3 w4 := by rw [hw4]; exact (Below.refl _ w3).alloc (Nat.le_refl _) _
      have kF : Cells w4 F #[.slice af nf cf, .int .i64 (y : Int), .int .i64 (t : Int)] 30 := by rw [hw4, ← hF]; exact Cells.new w3 _ 30
      have a3 := A3.out
      have b24 : Below lo2 w2 w4 := hb3.trans (b4.mono (by have := hb3.size; omega))
      have A4 : Aside (Wj w4 lo B n l R 0 ∧ Cells w4 F #[.slice af nf cf, .int .i64 (y : Int), .int .i64 (t : Int)] 30 ∧ Ow w4 lo2 43 2 (.slice af nf cf) nf (fc T) ∧ Below lo w w4 ∧ R.fs.length = nf) := by
        refine ⟨Or.inl ⟨[], [], a3.2.1.below (by rw [a3.2.2.1]; exact b24), ?_⟩, kF, how3.below b4 (Nat.le_refl _), a3.1.trans (b24.mono a3.2.2.2), hnf⟩
        rw [List.drop_zero]; exact AR.out.1
      rw [← hw4, hF]
      clear hw4 b4 kF a3 b24 A3 hfl3 how3 hb3 hof2 hnf hF
      go_wp2_with fail
      go_loopg [12] L (fun gg s12 wv => ∃ i : Nat, s12 = .int .i64 (i : Int) ∧ Aside (i + gg = L ∧ Wj wv lo B n l R i ∧ Cells wv F #[.slice af nf cf, .int .i64 (y : Int), .int .i64 (t : Int)] 30 ∧ Ow wv lo2 43 2 (.slice af nf cf) nf (fc T) ∧ Below lo w wv))
      case atStart => exact ⟨0, rfl, by omega, A4.out.1, A4.out.2.1, A4.out.2.2.1, A4.out.2.2.2.1⟩
      case round =>
        obtain ⟨i, rfl, hI⟩ := hrel
        obtain ⟨hig, hW, kF, how, hbel⟩ := hI.out
        have a0 := A.out
        have ar := AR.out
        clear hI
        have d0 : wr.cell? ⟨F, 0, none⟩ = some (.slice af nf cf) := by rw [kF.cell]; rfl
        have d1 : wr.cell? ⟨F, 1, none⟩ = some (.int .i64 (y : Int)) := by rw [kF.cell]; rfl
        have d2 : wr.cell? ⟨F, 2, none⟩ = some (.int .i64 (t : Int)) := by rw [kF.cell]; rfl
        by_cases hi : i < L
        · have t1 : ((i : Int) < (L : Int)) = True := eq_true (by omega)
          have t1' : (i < L) = True := eq_true hi
          have hiI : (i : Int) < 1000000000000000 := by omega
          obtain ⟨x, hx⟩ : ∃ x, l[i]? = some x := ⟨_, List.getElem?_eq_getElem (by omega)⟩
          have hx8 := a0.2.2.2.1 x (List.mem_of_getElem? hx)
          obtain ⟨ab, ao, ha, cx⟩ : ∃ ab ao, a = some ⟨ab, ao, none⟩ ∧ wr.cell? ⟨ab, ao + i, none⟩ = some (.int .u8 (x : Int)) := by
            rcases a0.1 with e | ⟨ab, ao, e, hc⟩
            · rw [e] at hx; simp at hx
            · have c0 := hc i x hx
              exact ⟨ab, ao, e, (hbel.cell (p := ⟨ab, ao + i, none⟩) (by rw [← a0.2.2.2.2.2.2.2.2.1]; exact World.block_lt_of_cell? w _ c0)).trans c0⟩
          subst ha
          have hpu := wj_put hx hx8 hW
          rw [ar.2.1, ar.2.2.1] at hpu
          have hkeep : ∀ W, Wj W lo B n l R (i + 1) → Chg lo wr W → Cells W F #[.slice af nf cf, .int .i64 (y : Int), .int .i64 (t : Int)] 30 ∧ Ow W lo2 43 2 (.slice af nf cf) nf (fc T) ∧ Below lo w W := fun W _ hc => ⟨kF.chg hc (by decide), how.chg hc (by decide), hbel.trans hc.bel⟩
          have hcl : ∀ W, Cells W F #[.slice af nf cf, .int .i64 (y : Int), .int .i64 (t : Int)] 30 → W.cell? ⟨F, 1, none⟩ = some (.int .i64 (y : Int)) ∧ W.cell? ⟨F, 2, none⟩ = some (.int .i64 (t : Int)) := fun W hk => ⟨by rw [hk.cell]; rfl, by rw [hk.cell]; rfl⟩
          have A5 : Aside (i + gk = L ∧ i < L) := ⟨hig, hi⟩
          by_cases hti : t ≤ i
          · have u1 : ((t : Int) ≤ (i : Int)) = True := eq_true (by omega)
            have u1' : (t ≤ i) = True := eq_true hti
            rw [decide_eq_true hti, if_pos hti, Bool.true_and] at hpu
            by_cases hy0 : y = 0
            · subst hy0
              have hpu2 : Calls Try.prog 14 #[.pointer (some ⟨B, 0, none⟩), .int .u8 (x : Int)] wr fun e w' => e = .returned (.tuple #[.bool true, .int .i64 0]) ∧ Wj w' lo B n l R (i + 1) ∧ Chg lo wr w' := hpu
              clear hpu hig hW kF how hbel a0 ar hx hx8 hi hti d0 d1 d2
              go_wp2_with (go_at_call 14; refine hpu2.mono ?_; rintro e6 w6 ⟨rfl, hW6, hc6⟩; obtain ⟨k6, o6, b6⟩ := hkeep _ hW6 hc6; obtain ⟨d1, d2⟩ := hcl _ k6)
              have a5 := A5.out
              go_roundg (gk - 1)
              case measure => omega
              case rel => exact ⟨i + 1, by go_num, by omega, hW6, k6, o6, b6⟩
            · have v1 : ((y : Int) == 0) = false := by rw [beq_eq_false_iff_ne]; omega
              have v2 : ((y : Int) != 0) = true := by rw [bne_iff_ne]; omega
              have v3 : ((y : Int) != (y : Int)) = false := by simp
              have v4 : (y == 0) = false := by simpa using hy0
              rw [v4] at hpu
              have hfd := fun W (h : Wj W lo B n l R (i + 1)) => wj_fields h (Or.inr (by rw [ar.2.1]; exact hy0))
              clear hig hW kF how hbel a0 ar hx hx8 hi hti hy0 v4 d0 d1 d2
              go_wp2_with (first
                | (go_at_call 14; refine hpu.mono ?_; rintro e6 w6 ⟨rfl, hW6, hc6⟩; obtain ⟨k6, o6, b6⟩ := hkeep _ hW6 hc6; obtain ⟨d1, d2⟩ := hcl _ k6; have hf6 := hfd _ hW6)
                | (go_at_call 16; refine hf6.mono ?_; rintro e7 w7 ⟨rfl, hw7⟩; subst hw7))
              have a5 := A5.out
              go_roundg (gk - 1)
              case measure => omega
              case rel => exact ⟨i + 1, by go_num, by omega, hW6, k6, o6, b6⟩
          · have u1 : ((t : Int) ≤ (i : Int)) = False := eq_false (by omega)
            have u1' : (t ≤ i) = False := eq_false hti
            rw [decide_eq_false hti, if_neg hti, Bool.false_and] at hpu
            have hpu2 : Calls Try.prog 14 #[.pointer (some ⟨B, 0, none⟩), .int .u8 (x : Int)] wr fun e w' => e = .returned (.tuple #[.bool false, .int .i64 0]) ∧ Wj w' lo B n l R (i + 1) ∧ Chg lo wr w' := hpu
            have hfd := fun W (h : Wj W lo B n l R (i + 1)) => wj_fields h (Or.inl (by rw [ar.2.2.1]; omega))
            clear hpu hig hW kF how hbel a0 ar hx hx8 hi hti d0 d1 d2
            go_wp2_with (first
              | (go_at_call 14; refine hpu2.mono ?_; rintro e6 w6 ⟨rfl, hW6, hc6⟩; obtain ⟨k6, o6, b6⟩ := hkeep _ hW6 hc6; obtain ⟨d1, d2⟩ := hcl _ k6; have hf6 := hfd _ hW6)
              | (go_at_call 16; refine hf6.mono ?_; rintro e7 w7 ⟨rfl, hw7⟩; subst hw7))
            have a5 := A5.out
            go_roundg (gk - 1)
            case measure => omega
            case rel => exact ⟨i + 1, by go_num, by omega, hW6, k6, o6, b6⟩
        · have t1 : ((i : Int) < (L : Int)) = False := eq_false (by omega)
          have t1' : (i < L) = False := eq_false hi
          have hiL : i = L := by omega
          have hW1 : Wj wr.drew lo B n l R i := hW.drewN 1
          have hen := wj_end (L := i) (by omega) hW1
          rw [ar.2.1] at hen
          have hen2 := fun W (h : Rx W lo B n R.fs y) => end_x h
          have hkeep : ∀ W, Chg lo wr W → Cells W F #[.slice af nf cf, .int .i64 (y : Int), .int .i64 (t : Int)] 30 ∧ Ow W lo2 43 2 (.slice af nf cf) nf (fc T) ∧ Below lo w W := fun W hc => ⟨kF.chg hc (by decide), how.chg hc (by decide), hbel.trans hc.bel⟩
          have hc1 : ∀ W, Cells W F #[.slice af nf cf, .int .i64 (y : Int), .int .i64 (t : Int)] 30 → W.cell? ⟨F, 1, none⟩ = some (.int .i64 (y : Int)) := fun W hk => by rw [hk.cell]; rfl
          have v3 : ((y : Int) != (y : Int)) = false := by simp
          have v3' : ((y : Int) == (y : Int)) = true := by simp
          clear hig hW hW1 hi hiL d0 d2 ar
          go_upto_region 20 with fail
          go_region_held3 (fun w' => w'.cell? ⟨F, 1, none⟩ = some (.int .i64 (y : Int))) (first | exact d1 | exact hc1 _ (hkeep _ hch6).1)
            (first
              | (go_at_call 17; (with_reducible refine hen.mono ?_); rintro e6 w6 ⟨rfl, hx6, hch⟩; have hch6 : Chg lo wr w6 := ((Chg.refl lo wr).drew).trans hch; have hen6 := hen2 w6 hx6)
              | (go_at_call 17; (with_reducible refine hen6.mono ?_); rintro e7 w7 ⟨rfl, hw7⟩; subst hw7))
          obtain ⟨k7, o7, b7⟩ := hkeep w7 hch6
          have hfx := fields_x hx6
          rw [AR.out.2.2.2] at hfx
          have A7 : Aside (Rx w7 lo B n R.fs y ∧ Cells w7 F #[.slice af nf cf, .int .i64 (y : Int), .int .i64 (t : Int)] 30 ∧ Ow w7 lo2 43 2 (.slice af nf cf) nf (fc T) ∧ Below lo w w7 ∧ T.length = nf) := ⟨hx6, k7, o7, b7, by rw [← AR.out.2.2.2, told_length]; exact A4.out.2.2.2.2⟩
          have hlo7 : lo ≤ w7.heap.size := by have := b7.size; have := a0.2.2.2.2.2.2.2.2.1; omega
          clear hx6 hch6 hch k7 o7 b7 hen hen2 hen6 hkeep hc1 d1 kF how hbel a0 v3
          go_upto_region 23 with (go_at_call 16; refine hfx.mono ?_; rintro e8 w8 ⟨v8, rfl, hfl8, hor8, hb8⟩; obtain ⟨a8, c8, hv8, hq8⟩ := id hfl8; obtain ⟨n8, hn8⟩ : ∃ n8, T.length = n8 := ⟨_, rfl⟩; rw [hn8] at hv8; subst hv8)
          have a7 := A7.out
          have hnn : n8 = nf := by rw [← hn8]; exact a7.2.2.2.2
          have hk8 : Cells w8 F #[.slice af nf cf, .int .i64 (y : Int), .int .i64 (t : Int)] 30 := a7.2.1.below hb8 a7.2.1.lt
          have ho8 : Ow w8 lo2 43 2 (.slice af nf cf) nf (fc T) := a7.2.2.1.below hb8 (Nat.le_refl _)
          have hfl8r : FL w8 (.slice af nf cf) T := ho8.fl a7.2.2.2.2
          have hfe := feq_c w8 _ _ _ _ hfl8 hfl8r A.out.2.2.2.2.2.2.2.2.2.1 A.out.2.2.2.2.2.2.2.2.2.1 (by have := A.out.2.2.2.2.2.2.2.2.2.2.1; omega)
          rw [decide_eq_true rfl] at hfe
          have d0 : w8.cell? ⟨F, 0, none⟩ = some (.slice af nf cf) := by rw [hk8.cell]; rfl
          have bel8 : Below lo w w8 := a7.2.2.2.1.trans (hb8.mono (by have := a7.2.2.2.1.size; have := A.out.2.2.2.2.2.2.2.2.1; omega))
          have A8 : Aside (Rx w8 lo B n R.fs y ∧ Cells w8 F #[.slice af nf cf, .int .i64 (y : Int), .int .i64 (t : Int)] 30 ∧ FL w8 (.slice af nf cf) T ∧ Below lo w w8 ∧ (T = [] ∨ ∃ G, Value.slice a8 n8 c8 = .slice (some ⟨G, 0, none⟩) T.length T.length ∧ Cells w8 G (fc T).toArray 43 ∧ w7.heap.size ≤ G) ∧ (af = none ∨ ∃ gr, af = some ⟨gr, 0, none⟩ ∧ gr < w7.heap.size) ∧ T.length = n8 ∧ n8 = nf) := by
            refine ⟨a7.1.below hb8, hk8, hfl8r, bel8, hor8, ?_, hn8, hnn⟩
            rcases a7.2.2.1.own.2 with ⟨e, _⟩ | ⟨gr, c', cur, e, _, hh, _⟩
            · injection e with e1; exact Or.inl e1
            · injection e with e1 e2 e3; exact Or.inr ⟨gr, e1, (Array.getElem?_eq_some_iff.1 hh).1⟩
          clear a7 hk8 ho8 hfl8r bel8 hfl8 hor8 hb8 hfx A7 hq8 hn8 hnn
          go_upto_region 25 with (go_at_call 12; refine hfe.mono ?_; rintro e9 w9 ⟨rfl, n9, hw9⟩; have H9 : Aside (w9 = w8.drewN n9) := hw9; clear hw9)
          have hw9 := H9.out
          have a8' := A8.out
          have hR9 : Rx w9 lo B n R.fs y := by rw [hw9]; exact a8'.1.drewN n9
          have hk9 : Cells w9 F #[.slice af nf cf, .int .i64 (y : Int), .int .i64 (t : Int)] 30 := by rw [hw9]; exact a8'.2.1.drewN n9
          have hf9 : FL w9 (.slice af nf cf) T := by rw [hw9]; exact a8'.2.2.1.drewN n9
          have hb9 : Below lo w w9 := by rw [hw9]; exact Below.drewN2 a8'.2.2.2.1 n9
          have hnf2 := a8'.2.2.2.2.2.2
          rcases a8'.2.2.2.2.1 with hT0 | ⟨G, hG, hGc, hGle⟩
          · have hn0 : n8 = 0 := by rw [← hnf2.1, hT0]; rfl
            subst hn0
            clear a8' hw9 hnf2 hT0 A8 d0 hfe
            go_wp2_with fail
            go_loopg [17] 0 (fun gg s17 wv => s17 = .int .i64 0 ∧ wv = w9)
            case atStart => exact ⟨rfl, rfl⟩
            case round =>
              obtain ⟨rfl, rfl⟩ := hrel
              obtain ⟨wz, hwz⟩ : ∃ wz, wz = wr := ⟨_, rfl⟩
              have hRz : Rx wz lo B n R.fs y := by rw [hwz]; exact hR9
              have hkz : Cells wz F #[.slice af nf cf, .int .i64 (y : Int), .int .i64 (t : Int)] 30 := by rw [hwz]; exact hk9
              have hfz : FL wz (.slice af nf cf) T := by rw [hwz]; exact hf9
              have hbz : Below lo w wz := by rw [hwz]; exact hb9
              rw [← hwz]
              clear hR9 hk9 hf9 hb9 hwz
              -- the reader again, and the law's end, at world wz
              have hpx := put_x 120 hRz
              obtain ⟨qb, hqb⟩ : ∃ qb, (y == 0) = qb := ⟨_, rfl⟩
              rw [hqb] at hpx
              have tqb : ((y : Int) == 0) = qb := by rw [← hqb, Bool.eq_iff_iff, beq_iff_eq, beq_iff_eq]; omega
              have tqq : (qb == qb) = true := by simp
              have Az : Aside (Rx wz lo B n R.fs y ∧ Cells wz F #[.slice af nf cf, .int .i64 (y : Int), .int .i64 (t : Int)] 30 ∧ FL wz (.slice af nf cf) T ∧ Below lo w wz) := ⟨hRz, hkz, hfz, hbz⟩
              clear hRz hkz hfz hbz hqb
              go_upto_region 30 with (go_at_call 14; refine hpx.mono ?_; rintro e10 w10 ⟨rfl, n10, hw10⟩; have H10 : Aside (w10 = wz.drewN n10) := hw10; clear hw10)
              have hw10 := H10.out
              have az := Az.out
              have hR10 : Rx w10.drew lo B n R.fs y := by rw [hw10]; exact (az.1.drewN n10).drewN 1
              have hk10 : Cells w10.drew F #[.slice af nf cf, .int .i64 (y : Int), .int .i64 (t : Int)] 30 := by rw [hw10]; exact (az.2.1.drewN n10).drew
              have hf10 : FL w10.drew (.slice af nf cf) T := by rw [hw10]; exact (az.2.2.1.drewN n10).drewN 1
              have hb10 : Below lo w w10.drew := by rw [hw10]; exact (Below.drewN2 az.2.2.2 n10).drew
              have hfx := fields_x hR10
              rw [AR.out.2.2.2] at hfx
              have hcl : ∀ W, Cells W F #[.slice af nf cf, .int .i64 (y : Int), .int .i64 (t : Int)] 30 → W.cell? ⟨F, 0, none⟩ = some (.slice af nf cf) ∧ W.cell? ⟨F, 1, none⟩ = some (.int .i64 (y : Int)) := fun W hk => ⟨by rw [hk.cell]; rfl, by rw [hk.cell]; rfl⟩
              have hS0 := hcl _ hk10
              have hfeq := fun W v (h1 : FL W v T) (h2 : FL W (.slice af nf cf) T) => feq_c W v (.slice af nf cf) T T h1 h2 A.out.2.2.2.2.2.2.2.2.2.1 A.out.2.2.2.2.2.2.2.2.2.1 (by have := A.out.2.2.2.2.2.2.2.2.2.2.1; omega)
              have hawk := fun W => awake_c W
              have A10 : Aside (Cells w10.drew F #[.slice af nf cf, .int .i64 (y : Int), .int .i64 (t : Int)] 30 ∧ FL w10.drew (.slice af nf cf) T ∧ Below lo w w10.drew ∧ lo ≤ w10.drew.heap.size) := ⟨hk10, hf10, hb10, by have := hb10.size; have := A.out.2.2.2.2.2.2.2.2.1; omega⟩
              have vyy : ((y : Int) == (y : Int)) = true := by simp
              clear az hR10 hk10 hf10 hb10 hw10 hpx
              go_region_held3 (fun w' => w'.cell? ⟨F, 0, none⟩ = some (.slice af nf cf) ∧ w'.cell? ⟨F, 1, none⟩ = some (.int .i64 (y : Int))) (first | exact hS0 | exact hS11 | exact hS12 | exact hS13)
                (first
                  | (go_at_call 16; (with_reducible refine hfx.mono ?_); rintro e11 w11 ⟨v11, rfl, hfl11, _, hb11⟩; have hk11 := A10.out.1.below hb11 A10.out.1.lt; have hS11 := hcl _ hk11; obtain ⟨a11, c11, hv11, _⟩ := id hfl11; subst hv11; have hfe11 := hfeq w11 _ hfl11 (A10.out.2.1.below hb11); rw [decide_eq_true rfl] at hfe11)
                  | (go_at_call 12; (with_reducible refine hfe11.mono ?_); rintro e12 w12 ⟨rfl, n12, hw12⟩; have hk12 : Cells w12 F #[.slice af nf cf, .int .i64 (y : Int), .int .i64 (t : Int)] 30 := (by rw [hw12]; exact hk11.drewN n12); have hS12 := hcl _ hk12; have hb12 : Below lo w w12 ∧ lo ≤ w12.heap.size := (by rw [hw12]; exact ⟨Below.drewN2 (A10.out.2.2.1.trans (hb11.mono A10.out.2.2.2)) n12, Nat.le_trans A10.out.2.2.2 hb11.size⟩); have haw12 := hawk w12; clear hw12)
                  | (go_at_call 10; (with_reducible refine haw12.mono ?_); rintro e13 w13 ⟨rfl, hb13⟩; have hk13 := hk12.below hb13 hk12.lt; have hS13 := hcl _ hk13))
              go_wp2_with fail
              first | go_ret | go_ret2
              exact ⟨rfl, hb12.1.trans (hb13.mono hb12.2)⟩
          · injection hG with q1 q2 q3
            have hGw : w9.heap.size = w8.heap.size := by rw [hw9]; rfl
            have hG9 : Cells w9 G (fc T).toArray 43 := by rw [hw9]; exact hGc.drewN n9
            have hne : ∀ gr, af = some ⟨gr, 0, none⟩ → gr ≠ G := fun gr e => by
              rcases a8'.2.2.2.2.2.1 with e0 | ⟨gr', e1, e2⟩
              · rw [e0] at e; cases e
              · rw [e1] at e; injection e with e3; injection e3 with e4; omega
            have hc8 : c8 = n8 := by omega
            have hGlo : lo ≤ G := by have := A.out.2.2.2.2.2.2.2.2.1; have := a8'.2.2.2.1.size; have := hlo7; omega
            subst hc8
            subst q1
            have AG : Aside (Rx w9 lo B n R.fs y ∧ Cells w9 F #[.slice af nf cf, .int .i64 (y : Int), .int .i64 (t : Int)] 30 ∧ FL w9 (.slice af nf cf) T ∧ Below lo w w9 ∧ Cells w9 G (fc T).toArray 43 ∧ (∀ gr, af = some ⟨gr, 0, none⟩ → gr ≠ G) ∧ lo ≤ G ∧ (fc T).toArray.size = c8 * 2 ∧ c8 ≤ 64 ∧ (af = none ∨ ∃ gr, af = some ⟨gr, 0, none⟩)) := ⟨hR9, hk9, hf9, hb9, hG9, hne, hGlo, by simp [fc_length, hnf2.1], by have := A.out.2.2.2.2.2.2.2.2.2.2.1; have := hnf2.1; omega, a8'.2.2.2.2.2.1.elim Or.inl (fun ⟨gr, e, _⟩ => Or.inr ⟨gr, e⟩)⟩
            clear a8' hw9 hnf2 A8 d0 hfe hR9 hk9 hf9 hb9 hG9 hne hGlo hGw hGc hGle q2 q3
            go_wp2_with fail
            go_loopg [17] c8 (fun gg s17 wv => ∃ j : Nat, s17 = .int .i64 (j : Int) ∧ Aside (j + gg = c8 ∧ Rx wv lo B n R.fs y ∧ Cells wv F #[.slice af nf cf, .int .i64 (y : Int), .int .i64 (t : Int)] 30 ∧ FL wv (.slice af nf cf) T ∧ Below lo w wv ∧ ∃ cs, Cells wv G cs 43 ∧ cs.size = c8 * 2))
            case atStart => exact ⟨0, rfl, by omega, AG.out.1, AG.out.2.1, AG.out.2.2.1, AG.out.2.2.2.1, _, AG.out.2.2.2.2.1, AG.out.2.2.2.2.2.2.2.1⟩
            case round =>
              obtain ⟨j, rfl, hI⟩ := hrel
              obtain ⟨hjg, hRj, hkj, hfj, hbj, cs, hGj, hcs⟩ := hI.out
              have ag := AG.out
              clear hI
              by_cases hj : j < c8
              · have t1 : ((j : Int) < (c8 : Int)) = True := eq_true (by omega)
                have t1' : (j < c8) = True := eq_true hj
                have hjI : (j : Int) < 64 := by omega
                obtain ⟨x1, hx1⟩ : ∃ x1, cs[j * 2]? = some x1 := ⟨_, Array.getElem?_eq_getElem (by omega)⟩
                obtain ⟨x2, hx2⟩ : ∃ x2, cs[j * 2 + 1]? = some x2 := ⟨_, Array.getElem?_eq_getElem (by omega)⟩
                have g1 : wr.cell? ⟨G, j * 2, none⟩ = some x1 := by rw [hGj.cell]; exact hx1
                have g2 : wr.cell? ⟨G, j * 2 + 1, none⟩ = some x2 := by rw [hGj.cell]; exact hx2
                have f1 := hGj.frozen (j * 2)
                have f2 := hGj.frozen (j * 2 + 1)
                have hG1 := hGj.set (j * 2) (.string ⟨#[]⟩)
                have g3 : (wr.setCell ⟨G, j * 2, none⟩ (.string ⟨#[]⟩)).cell? ⟨G, j * 2 + 1, none⟩ = some x2 := by rw [hG1.cell, Array.getElem?_setIfInBounds_ne (by omega)]; exact hx2
                have f3 := hG1.frozen (j * 2 + 1)
                have A2 : Aside (j + gk = c8 ∧ j < c8 ∧ Rx ((wr.setCell ⟨G, j * 2, none⟩ (.string ⟨#[]⟩)).setCell ⟨G, j * 2 + 1, none⟩ (.string ⟨#[]⟩)) lo B n R.fs y ∧ Cells ((wr.setCell ⟨G, j * 2, none⟩ (.string ⟨#[]⟩)).setCell ⟨G, j * 2 + 1, none⟩ (.string ⟨#[]⟩)) F #[.slice af nf cf, .int .i64 (y : Int), .int .i64 (t : Int)] 30 ∧ FL ((wr.setCell ⟨G, j * 2, none⟩ (.string ⟨#[]⟩)).setCell ⟨G, j * 2 + 1, none⟩ (.string ⟨#[]⟩)) (.slice af nf cf) T ∧ Below lo w ((wr.setCell ⟨G, j * 2, none⟩ (.string ⟨#[]⟩)).setCell ⟨G, j * 2 + 1, none⟩ (.string ⟨#[]⟩)) ∧ ∃ cs, Cells ((wr.setCell ⟨G, j * 2, none⟩ (.string ⟨#[]⟩)).setCell ⟨G, j * 2 + 1, none⟩ (.string ⟨#[]⟩)) G cs 43 ∧ cs.size = c8 * 2) := by
                  refine ⟨hjg, hj, (hRj.setOther hGj).setOther hG1, (hkj.only ((Only.refl _ _).setCell _ _) (hkj.ne hGj (by decide))).only ((Only.refl _ _).setCell _ _) (hkj.ne hGj (by decide)), ?_, (hbj.setCell ag.2.2.2.2.2.2.1 _).setCell ag.2.2.2.2.2.2.1 _, _, hG1.set (j * 2 + 1) _, by simp [hcs]⟩
                  obtain ⟨a', c', hv', hq'⟩ := hfj
                  injection hv' with e1 e2 e3
                  refine ⟨a', c', by rw [e1, e2, e3], ?_⟩
                  rcases hq' with e | ⟨g', o', ha', hx'⟩
                  · exact Or.inl e
                  · refine Or.inr ⟨g', o', ha', fun i' f' hf' => ?_⟩
                    have hgne : g' ≠ G := by
                      rcases ag.2.2.2.2.2.2.2.2.2 with e | ⟨gr, e⟩
                      · rw [e1, ha'] at e; cases e
                      · have := ag.2.2.2.2.2.1 gr e
                        rw [e1, ha'] at e
                        injection e with e5; injection e5 with e6
                        omega
                    have ho : Only G wr ((wr.setCell ⟨G, j * 2, none⟩ (.string ⟨#[]⟩)).setCell ⟨G, j * 2 + 1, none⟩ (.string ⟨#[]⟩)) := ((Only.refl _ _).setCell _ _).setCell _ _
                    exact ⟨(ho.cell (p := ⟨g', o' + i' * 2, none⟩) hgne).trans (hx' i' f' hf').1, (ho.cell (p := ⟨g', o' + i' * 2 + 1, none⟩) hgne).trans (hx' i' f' hf').2⟩
                clear hjg hRj hkj hfj hbj hGj hcs ag hj hx1 hx2 hG1
                go_wp2_with fail
                have a2 := A2.out
                go_roundg (gk - 1)
                case measure => omega
                case rel => exact ⟨j + 1, by go_num, by omega, a2.2.2.1, a2.2.2.2.1, a2.2.2.2.2.1, a2.2.2.2.2.2.1, a2.2.2.2.2.2.2⟩
              · have t1 : ((j : Int) < (c8 : Int)) = False := eq_false (by omega)
                have t1' : (j < c8) = False := eq_false hj
                obtain ⟨wz, hwz⟩ : ∃ wz, wz = wr := ⟨_, rfl⟩
                have hRz : Rx wz lo B n R.fs y := by rw [hwz]; exact hRj
                have hkz : Cells wz F #[.slice af nf cf, .int .i64 (y : Int), .int .i64 (t : Int)] 30 := by rw [hwz]; exact hkj
                have hfz : FL wz (.slice af nf cf) T := by rw [hwz]; exact hfj
                have hbz : Below lo w wz := by rw [hwz]; exact hbj
                rw [← hwz]
                clear hjg hRj hkj hfj hbj hGj hcs ag hj hwz
                -- the reader again, and the law's end, at world wz
                have hpx := put_x 120 hRz
                obtain ⟨qb, hqb⟩ : ∃ qb, (y == 0) = qb := ⟨_, rfl⟩
                rw [hqb] at hpx
                have tqb : ((y : Int) == 0) = qb := by rw [← hqb, Bool.eq_iff_iff, beq_iff_eq, beq_iff_eq]; omega
                have tqq : (qb == qb) = true := by simp
                have Az : Aside (Rx wz lo B n R.fs y ∧ Cells wz F #[.slice af nf cf, .int .i64 (y : Int), .int .i64 (t : Int)] 30 ∧ FL wz (.slice af nf cf) T ∧ Below lo w wz) := ⟨hRz, hkz, hfz, hbz⟩
                clear hRz hkz hfz hbz hqb
                go_upto_region 30 with (go_at_call 14; refine hpx.mono ?_; rintro e10 w10 ⟨rfl, n10, hw10⟩; have H10 : Aside (w10 = wz.drewN n10) := hw10; clear hw10)
                have hw10 := H10.out
                have az := Az.out
                have hR10 : Rx w10.drew lo B n R.fs y := by rw [hw10]; exact (az.1.drewN n10).drewN 1
                have hk10 : Cells w10.drew F #[.slice af nf cf, .int .i64 (y : Int), .int .i64 (t : Int)] 30 := by rw [hw10]; exact (az.2.1.drewN n10).drew
                have hf10 : FL w10.drew (.slice af nf cf) T := by rw [hw10]; exact (az.2.2.1.drewN n10).drewN 1
                have hb10 : Below lo w w10.drew := by rw [hw10]; exact (Below.drewN2 az.2.2.2 n10).drew
                have hfx := fields_x hR10
                rw [AR.out.2.2.2] at hfx
                have hcl : ∀ W, Cells W F #[.slice af nf cf, .int .i64 (y : Int), .int .i64 (t : Int)] 30 → W.cell? ⟨F, 0, none⟩ = some (.slice af nf cf) ∧ W.cell? ⟨F, 1, none⟩ = some (.int .i64 (y : Int)) := fun W hk => ⟨by rw [hk.cell]; rfl, by rw [hk.cell]; rfl⟩
                have hS0 := hcl _ hk10
                have hfeq := fun W v (h1 : FL W v T) (h2 : FL W (.slice af nf cf) T) => feq_c W v (.slice af nf cf) T T h1 h2 A.out.2.2.2.2.2.2.2.2.2.1 A.out.2.2.2.2.2.2.2.2.2.1 (by have := A.out.2.2.2.2.2.2.2.2.2.2.1; omega)
                have hawk := fun W => awake_c W
                have A10 : Aside (Cells w10.drew F #[.slice af nf cf, .int .i64 (y : Int), .int .i64 (t : Int)] 30 ∧ FL w10.drew (.slice af nf cf) T ∧ Below lo w w10.drew ∧ lo ≤ w10.drew.heap.size) := ⟨hk10, hf10, hb10, by have := hb10.size; have := A.out.2.2.2.2.2.2.2.2.1; omega⟩
                have vyy : ((y : Int) == (y : Int)) = true := by simp
                clear az hR10 hk10 hf10 hb10 hw10 hpx
                go_region_held3 (fun w' => w'.cell? ⟨F, 0, none⟩ = some (.slice af nf cf) ∧ w'.cell? ⟨F, 1, none⟩ = some (.int .i64 (y : Int))) (first | exact hS0 | exact hS11 | exact hS12 | exact hS13)
                  (first
                    | (go_at_call 16; (with_reducible refine hfx.mono ?_); rintro e11 w11 ⟨v11, rfl, hfl11, _, hb11⟩; have hk11 := A10.out.1.below hb11 A10.out.1.lt; have hS11 := hcl _ hk11; obtain ⟨a11, c11, hv11, _⟩ := id hfl11; subst hv11; have hfe11 := hfeq w11 _ hfl11 (A10.out.2.1.below hb11); rw [decide_eq_true rfl] at hfe11)
                    | (go_at_call 12; (with_reducible refine hfe11.mono ?_); rintro e12 w12 ⟨rfl, n12, hw12⟩; have hk12 : Cells w12 F #[.slice af nf cf, .int .i64 (y : Int), .int .i64 (t : Int)] 30 := (by rw [hw12]; exact hk11.drewN n12); have hS12 := hcl _ hk12; have hb12 : Below lo w w12 ∧ lo ≤ w12.heap.size := (by rw [hw12]; exact ⟨Below.drewN2 (A10.out.2.2.1.trans (hb11.mono A10.out.2.2.2)) n12, Nat.le_trans A10.out.2.2.2 hb11.size⟩); have haw12 := hawk w12; clear hw12)
                    | (go_at_call 10; (with_reducible refine haw12.mono ?_); rintro e13 w13 ⟨rfl, hb13⟩; have hk13 := hk12.below hb13 hk12.lt; have hS13 := hcl _ hk13))
                go_wp2_with fail
                first | go_ret | go_ret2
                exact ⟨rfl, hb12.1.trans (hb13.mono hb12.2)⟩
end Go.Proofs.Ytmlkdpoignimaaa

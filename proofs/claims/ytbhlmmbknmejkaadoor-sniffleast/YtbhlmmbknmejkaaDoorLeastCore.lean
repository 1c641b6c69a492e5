/-
  SniffLeast's walk.
-/
import Derived.Test.YtbhlmmbknmejkaaDoorRsn
namespace Go.Proofs.YtbhlmmbknmejkaaDoor
open Go.RowKit
set_option linter.unusedVariables false
/-- Whether one of the first files is of a kind. -/
def os (l : List Nat) (i : Nat) : Bool := ([ext l gz, ext l pk].take i).any fun f => decide (kd f ≠ 1)
theorem least_kd {l : List Nat} (h : (sn l false).2 = false) : (os l 2 || decide (kd (tarf l 170) = 8)) = true := by
  rcases other_kd h with (h | h) | h
  · simp [os, h]
  · simp [os, h]
  · simp [h]
theorem pad_one (l : List Nat) (x n L : Nat) (hL : l.length = L) (hn : L ≤ n) : pad l x (n + 1) = pad l x n ++ [x] := by
  unfold pad
  rw [hL, show n + 1 - L = (n - L) + 1 by omega, List.replicate_succ', List.append_assoc]
theorem pad_self (l : List Nat) (x L : Nat) (hL : l.length = L) : pad l x L = l := by unfold pad; rw [hL, Nat.sub_self]; simp
theorem pad_end (l : List Nat) (x n N L : Nat) (hL : l.length = L) (h1 : n = L ∨ n ≤ N) (h2 : ¬ n < N) : pad l x n = pad l x N := by
  rcases h1 with e | e
  · unfold pad; rw [hL, show n - L = 0 by omega, show N - L = 0 by omega]
  · rw [show n = N by omega]
/-- A byte that was just built. -/
theorem src_one (w : World) (y Z : Nat) (hZ : w.heap.size = Z) : ob [y] = [] ∨ ∃ b o, (some ⟨Z, 0, none⟩ : Option Addr) = some ⟨b, o, none⟩ ∧ ∀ (i : Nat) u, (ob [y])[i]? = some u → (w.alloc (.cells #[.int .u8 (y : Int)] 5)).cell? ⟨b, o + i, none⟩ = some u := by
  refine Or.inr ⟨Z, 0, rfl, fun i u hu => ?_⟩
  cases i with
  | zero => simp [ob] at hu; rw [← hZ, (Cells.new w _ 5).cell, ← hu]; rfl
  | succ i => simp [ob] at hu
/-- The three lists of the marks, just built. -/
theorem Fm.new (w2 : World) (H1 : Nat) (hH1 : w2.heap.size = H1) : Fm (((w2.alloc (.cells #[.int .u8 31, .int .u8 139, .int .u8 8] 5)).alloc (.cells #[.int .u8 80, .int .u8 75, .int .u8 3, .int .u8 4] 5)).alloc (.cells #[.slice (some ⟨H1, 0, none⟩) 3 3, .slice (some ⟨H1 + 1, 0, none⟩) 4 4] 22)) (H1 + 1 + 1) H1 (H1 + 1) ∧ Below H1 w2 (((w2.alloc (.cells #[.int .u8 31, .int .u8 139, .int .u8 8] 5)).alloc (.cells #[.int .u8 80, .int .u8 75, .int .u8 3, .int .u8 4] 5)).alloc (.cells #[.slice (some ⟨H1, 0, none⟩) 3 3, .slice (some ⟨H1 + 1, 0, none⟩) 4 4] 22)) := by
  rw [← hH1]
  have e1 : (w2.alloc (.cells #[.int .u8 31, .int .u8 139, .int .u8 8] 5)).heap.size = w2.heap.size + 1 := by show (w2.heap.push _).size = _; simp
  have e2 : ((w2.alloc (.cells #[.int .u8 31, .int .u8 139, .int .u8 8] 5)).alloc (.cells #[.int .u8 80, .int .u8 75, .int .u8 3, .int .u8 4] 5)).heap.size = w2.heap.size + 2 := by show (Array.push _ _).size = _; rw [Array.size_push, e1]
  refine ⟨⟨?_, ?_, ?_⟩, (((Below.refl _ w2).alloc (Nat.le_refl _) _).alloc (by omega) _).alloc (by omega) _⟩
  · have := Cells.new ((w2.alloc (.cells #[.int .u8 31, .int .u8 139, .int .u8 8] 5)).alloc (.cells #[.int .u8 80, .int .u8 75, .int .u8 3, .int .u8 4] 5)) #[.slice (some ⟨w2.heap.size, 0, none⟩) 3 3, .slice (some ⟨w2.heap.size + 1, 0, none⟩) 4 4] 22
    rw [e2] at this
    exact this
  · exact ((Cells.new w2 _ 5).alloc _).alloc _
  · have := (Cells.new (w2.alloc (.cells #[.int .u8 31, .int .u8 139, .int .u8 8] 5)) #[.int .u8 80, .int .u8 75, .int .u8 3, .int .u8 4] 5).alloc (.cells #[.slice (some ⟨w2.heap.size, 0, none⟩) 3 3, .slice (some ⟨w2.heap.size + 1, 0, none⟩) 4 4] 22)
    rw [e1] at this
    exact this
set_option maxRecDepth 20000 in
set_option maxHeartbeats 4000000 in
theorem least_core (w : World) (h : Mk w) (a : Option Addr) (l : List Nat) (L C : Nat) (hl : Lies w a l) (hL : l.length = L) (hLC : L ≤ C) (hLb : L ≤ 140737488351232) (ho : Oct l) (haz : a = none → L = 0 ∧ C = 0) :
    Calls Tryd.prog 5 #[.slice a L C] w fun ex w' => ex = .returned (.bool true) ∧ Below w.heap.size w w' := by
  obtain ⟨B, hB⟩ : ∃ B, w.heap.size = B := ⟨_, rfl⟩
  have s1 := sniff_c w h a l L C hl hL ho (by omega) false
  rw [hB] at s1 ⊢
  obtain ⟨K1, hK1⟩ : ∃ K, (sn l false).1 = K := ⟨_, rfl⟩
  rw [hK1] at s1
  obtain ⟨F, hF⟩ : ∃ F, (sn l false).2 = F := ⟨_, rfl⟩
  rw [hF] at s1
  have A : Aside (Lies w a l ∧ l.length = L ∧ L ≤ C ∧ L ≤ 140737488351232 ∧ Oct l ∧ w.heap.size = B ∧ Mk w ∧ 0 + L ≤ maxLen ∧ (0 + L) * 1 ≤ 140737488355328 ∧ (ob l).length = L * 1) := ⟨hl, hL, hLC, hLb, ho, hB, h, by unfold maxLen; omega, by omega, by rw [ob_length]; omega⟩
  have AZ : Aside (a = none → L = 0 ∧ C = 0) := haz
  obtain ⟨i0, hi, hz0, hz1, hz2⟩ := ginfo_parts ginfo5
  have mkl : ∀ u, Below B w u → Mk u := fun u hu => h.below hu (by have := h.lt; omega)
  have sub : ∀ u a2 l2 L2 C2, Below B w u → Lies u a2 l2 → l2.length = L2 → Oct l2 → L2 ≤ 140737488351832 → Calls Tryd.prog 7 #[.slice a2 L2 C2, .bool true] u fun ex w' => ex = .returned (.tuple #[.int .i64 (kd l2 : Int), .bool true]) ∧ Below B w w' ∧ Below u.heap.size u w' := fun u a2 l2 L2 C2 hu h1 h2 h3 h4 => by
    have := sniff_c u (mkl u hu) a2 l2 L2 C2 h1 h2 h3 (by omega) true
    rw [sn_end] at this
    exact this.mono fun e w' ⟨q1, q2⟩ => ⟨q1, hu.trans (q2.mono (by have := hu.size; omega)), q2⟩
  have AS : Aside (∀ u a2 l2 L2 C2, Below B w u → Lies u a2 l2 → l2.length = L2 → Oct l2 → L2 ≤ 140737488351832 → Calls Tryd.prog 7 #[.slice a2 L2 C2, .bool true] u fun ex w' => ex = .returned (.tuple #[.int .i64 (kd l2 : Int), .bool true]) ∧ Below B w w' ∧ Below u.heap.size u w') := sub
  have AW : Aside (∀ u, Below B w u → Calls Tryd.prog 9 #[] u fun ex w' => ex = .returned (.bool true) ∧ Below B w w') := fun u hu => (awake_c u (mkl u hu)).mono fun e w' ⟨q1, q2⟩ => ⟨q1, hu.trans (q2.mono (by have := hu.size; omega))⟩
  have AF : Aside ((sn l false).2 = F) := hF
  clear hl hL hLC hLb ho haz h mkl sub hK1 hF hB
  go_enter Tryd.func5, Tryd.ntmps5
  go_upto_region 2 with (go_at_call 7; refine s1.mono ?_; rintro e1 w1 ⟨rfl, hb1⟩)
  cases F with
  | true =>
    have haw := AW.out w1 hb1
    clear s1 hb1 A AZ AS AW AF
    go_wp2_with (go_at_call 9; refine haw.mono ?_; rintro e1 w2 ⟨rfl, hb2⟩)
    first | go_ret | go_ret2
    exact ⟨rfl, hb2⟩
  | false =>
    have aa := A.out
    obtain ⟨K, hK⟩ : ∃ K, w1.heap.size = K := ⟨_, rfl⟩
    have hBK : B ≤ K := by have := hb1.size; have := aa.2.2.2.2.2.1; omega
    have hob : Ow (w1.alloc (.cells #[] 5)) K 5 1 (.slice (some ⟨K, 0, none⟩) 0 0) 0 (ob []) := by rw [← hK]; exact Ow.empty (Nat.le_refl _)
    have bK : Below K w1 (w1.alloc (.cells #[] 5)) := by rw [← hK]; exact (Below.refl _ w1).alloc (Nat.le_refl _) _
    have hlr := lies_ob (aa.1.below (by rw [aa.2.2.2.2.2.1]; exact hb1.trans (bK.mono hBK)))
    have A1 : Aside (Below B w (w1.alloc (.cells #[] 5)) ∧ B ≤ K) := ⟨hb1.trans (bK.mono hBK), hBK⟩
    clear aa hBK bK hb1 s1
    go_upto_region 5 with (at_builtin; refine wpList_ow Tryd.prog _ rfl (.tmp 24) (.tmp 25) 22 rfl 5 i0 _ 1 1 Tryd.underlying22 hi hz0 hz1 hz2 rfl (by decide) K (.slice (some ⟨K, 0, none⟩) 0 0) 0 _ (by rfl) hob a (ob l) L C A.out.2.2.2.2.2.2.2.2.2 (by rfl) AZ.out hlr ob_one A.out.2.2.2.2.2.2.2.1 A.out.2.2.2.2.2.2.2.2.1 ?_; intro v6 w6 hgot; have how := ow_first hgot; obtain ⟨va6, vc6, hv, _⟩ := how.shape; subst hv)
    have A2 : Aside (Below B w w6 ∧ Ow w6 K 5 1 (.slice va6 L vc6) L (ob (pad l 170 L))) := ⟨A1.out.1.trans (hgot.bel.mono A1.out.2), by rw [pad_self l 170 L A.out.2.1]; exact how⟩
    clear hgot how hob hlr hK
    go_wp2_with fail
    go_loopg [5] (300 - L) (fun gg s5 wq => ∃ (ax : Option Addr) (n cx : Nat), s5 = .slice ax n cx ∧ Aside (L ≤ n ∧ (n = L ∨ n ≤ 300) ∧ gg = 300 - n ∧ Ow wq K 5 1 (.slice ax n cx) n (ob (pad l 170 n)) ∧ Below B w wq))
    case atStart => exact ⟨va6, L, vc6, rfl, ⟨Nat.le_refl _, Or.inl rfl, rfl, A2.out.2, A2.out.1⟩⟩
    case round =>
      obtain ⟨ax, n, cx, rfl, AR⟩ := hrel
      have ar := AR.out
      by_cases hn : n < 300
      · have t1 : ((n : Int) < 300) = True := eq_true (by omega)
        have t1n : (n < 300) = True := eq_true hn
        obtain ⟨Z, hZ⟩ : ∃ Z, wr.heap.size = Z := ⟨_, rfl⟩
        have bZ : Below Z wr (wr.alloc (.cells #[.int .u8 170] 5)) := by rw [← hZ]; exact (Below.refl _ wr).alloc (Nat.le_refl _) _
        have hown := ar.2.2.2.1.below bZ (by omega)
        have hsrc := src_one wr 170 Z hZ
        have hbw := ar.2.2.2.2.trans (bZ.mono (by have := ar.2.2.2.1.le; have := A1.out.2; omega))
        have A3 : Aside (n + 1 ≤ maxLen ∧ (n + 1) * 1 ≤ 140737488355328 ∧ L ≤ n ∧ n < 300 ∧ gk = 300 - n ∧ pad l 170 (n + 1) = pad l 170 n ++ [170] ∧ Below B w (wr.alloc (.cells #[.int .u8 170] 5))) := ⟨by unfold maxLen; omega, by omega, ar.1, hn, ar.2.2.1, pad_one l 170 n L A.out.2.1 ar.1, hbw⟩
        have hn3 : (n : Int) < 300 := by omega
        clear AR ar hn bZ hbw
        go_wp2_with (at_builtin; refine wpList_ow Tryd.prog _ rfl (.tmp 30) (.tmp 31) 22 rfl 5 i0 _ 1 1 Tryd.underlying22 hi hz0 hz1 hz2 rfl (by decide) K (.slice ax n cx) n _ (by rfl) hown (some ⟨Z, 0, none⟩) (ob [170]) 1 1 rfl (by rfl) (fun h => by cases h) hsrc ob_one A3.out.1 A3.out.2.1 ?_; intro v9 w9 hgot9; have how9 := ow_next hgot9; obtain ⟨va9, vc9, hv9, _⟩ := how9.shape; subst hv9)
        have a3 := A3.out
        go_roundg (300 - (n + 1))
        case measure => omega
        case rel => exact ⟨va9, n + 1, vc9, rfl, ⟨by omega, Or.inr (by omega), rfl, by rw [a3.2.2.2.2.2.1]; exact how9, a3.2.2.2.2.2.2.trans (hgot9.bel.mono A1.out.2)⟩⟩
      · have t1 : ((n : Int) < 300) = False := eq_false (by omega)
        have t1n : (n < 300) = False := eq_false hn
        have how := ar.2.2.2.1
        rw [pad_end l 170 n 300 L A.out.2.1 ar.2.1 hn] at how
        obtain ⟨a', c', hv, hln, _, hli, _⟩ := how.lies
        cases hv
        have s7 := AS.out wr ax (pad l 170 300) n cx ar.2.2.2.2 hli hln (pad_oct A.out.2.2.2.2.1 (by decide) 300) (by have := A.out.2.2.2.1; omega)
        rw [raw_kd AF.out] at s7
        clear AR ar hn how hln hli t1n
        go_upto_region 8 with (go_at_call 7; refine s7.mono ?_; rintro e1 w7 ⟨rfl, hb7, _⟩)
        obtain ⟨H1, hH1⟩ : ∃ H, w7.heap.size = H := ⟨_, rfl⟩
        obtain ⟨hfm, bfm⟩ := Fm.new w7 H1 hH1
        have AM0 : Aside (Fm (((w7.alloc (.cells #[.int .u8 31, .int .u8 139, .int .u8 8] 5)).alloc (.cells #[.int .u8 80, .int .u8 75, .int .u8 3, .int .u8 4] 5)).alloc (.cells #[.slice (some ⟨H1, 0, none⟩) 3 3, .slice (some ⟨H1 + 1, 0, none⟩) 4 4] 22)) (H1 + 1 + 1) H1 (H1 + 1) ∧ Below B w (((w7.alloc (.cells #[.int .u8 31, .int .u8 139, .int .u8 8] 5)).alloc (.cells #[.int .u8 80, .int .u8 75, .int .u8 3, .int .u8 4] 5)).alloc (.cells #[.slice (some ⟨H1, 0, none⟩) 3 3, .slice (some ⟨H1 + 1, 0, none⟩) 4 4] 22))) := ⟨hfm, hb7.trans (bfm.mono (by have := hb7.size; have := A.out.2.2.2.2.2.1; omega))⟩
        clear hfm bfm hb7 s7
        obtain ⟨w8, hw8⟩ : ∃ w8, (((w7.alloc (.cells #[.int .u8 31, .int .u8 139, .int .u8 8] 5)).alloc (.cells #[.int .u8 80, .int .u8 75, .int .u8 3, .int .u8 4] 5)).alloc (.cells #[.slice (some ⟨H1, 0, none⟩) 3 3, .slice (some ⟨H1 + 1, 0, none⟩) 4 4] 22)) = w8 := ⟨_, rfl⟩
        rw [hw8] at AM0
        go_wp2_with fail
        obtain ⟨H2, hH2⟩ : ∃ H, H1 + 1 = H := ⟨_, rfl⟩
        obtain ⟨M, hM⟩ : ∃ H, H2 + 1 = H := ⟨_, rfl⟩
        rw [hH2, hM] at AM0 ⊢
        have AM : Aside (Fm w8 M H1 H2 ∧ Below B w w8) := AM0
        clear AM0 hw8 hH2 hM hH1
        go_loopg [8, 10] 2 (fun gg s8 s10 wq => ∃ i : Nat, s8 = .bool (os l i) ∧ s10 = .int .i64 (i : Int) ∧ Aside (i + gg = 2 ∧ Fm wq M H1 H2 ∧ Below B w wq))
        case atStart => exact ⟨0, rfl, rfl, ⟨rfl, AM.out.1, AM.out.2⟩⟩
        case round =>
          obtain ⟨i, rfl, rfl, AR⟩ := hrel
          have ar := AR.out
          by_cases hi2 : i < 2
          · have t2 : ((i : Int) < 2) = True := eq_true (by omega)
            have t2n : (i < 2) = True := eq_true hi2
            obtain ⟨Hm, m, ml, hml, hm4, hmo, hcM, hcH, hos⟩ : ∃ (Hm m : Nat) (ml : List Nat), ml.length = m ∧ m ≤ 4 ∧ Oct ml ∧ (∀ u, Fm u M H1 H2 → u.cell? ⟨M, i, none⟩ = some (.slice (some ⟨Hm, 0, none⟩) m m)) ∧ (∀ u, Fm u M H1 H2 → ∀ j y : Nat, ml[j]? = some y → u.cell? ⟨Hm, j, none⟩ = some (.int .u8 (y : Int))) ∧ os l (i + 1) = (os l i || decide (kd (ext l ml) ≠ 1)) := by
              have h2 : i = 0 ∨ i = 1 := by omega
              rcases h2 with rfl | rfl
              · refine ⟨H1, 3, gz, rfl, by decide, oct_gz, fun u hu => by rw [hu.m.cell]; rfl, fun u hu j y hy => ?_, by simp [os]⟩
                rw [hu.g.cell]
                have hj : j < 3 := (List.getElem?_eq_some_iff.1 hy).1
                obtain rfl | rfl | rfl : j = 0 ∨ j = 1 ∨ j = 2 := by omega
                all_goals (simp [gz] at hy; subst hy; rfl)
              · refine ⟨H2, 4, pk, rfl, by decide, oct_pk, fun u hu => by rw [hu.m.cell]; rfl, fun u hu j y hy => ?_, by simp [os]⟩
                rw [hu.p.cell]
                have hj : j < 4 := (List.getElem?_eq_some_iff.1 hy).1
                obtain rfl | rfl | rfl | rfl : j = 0 ∨ j = 1 ∨ j = 2 ∨ j = 3 := by omega
                all_goals (simp [pk] at hy; subst hy; rfl)
            obtain ⟨Z, hZ⟩ : ∃ Z, wr.heap.size = Z := ⟨_, rfl⟩
            have aa := A.out
            have hBZ : B ≤ Z := by have := ar.2.2.size; omega
            have hob : Ow (wr.alloc (.cells #[] 5)) Z 5 1 (.slice (some ⟨Z, 0, none⟩) 0 0) 0 (ob []) := by rw [← hZ]; exact Ow.empty (Nat.le_refl _)
            have bZ : Below Z wr (wr.alloc (.cells #[] 5)) := by rw [← hZ]; exact (Below.refl _ wr).alloc (Nat.le_refl _) _
            have hlr := lies_ob (aa.1.below (by rw [aa.2.2.2.2.2.1]; exact ar.2.2.trans (bZ.mono hBZ)))
            have A3 : Aside (Fm wr M H1 H2 ∧ Below B w wr ∧ wr.heap.size = Z ∧ Below Z wr (wr.alloc (.cells #[] 5)) ∧ B ≤ Z ∧ i + gk = 2 ∧ i < 2) := ⟨ar.2.1, ar.2.2, hZ, bZ, hBZ, ar.1, hi2⟩
            have A4 : Aside (ml.length = m ∧ m ≤ 4 ∧ Oct ml ∧ (∀ u, Fm u M H1 H2 → ∀ j y : Nat, ml[j]? = some y → u.cell? ⟨Hm, j, none⟩ = some (.int .u8 (y : Int))) ∧ os l (i + 1) = (os l i || decide (kd (ext l ml) ≠ 1))) := ⟨hml, hm4, hmo, hcH, hos⟩
            have ACM : Aside (∀ u, Fm u M H1 H2 → u.cell? ⟨M, i, none⟩ = some (.slice (some ⟨Hm, 0, none⟩) m m)) := hcM
            obtain ⟨q, hq⟩ : ∃ q, os l i = q := ⟨_, rfl⟩
            have AQ : Aside (os l i = q) := hq
            rw [hq]
            clear AR ar aa hi2 hml hm4 hmo hcM hcH hos bZ hBZ hq
            go_upto_region 14 with (at_builtin; refine wpList_ow Tryd.prog _ rfl (.tmp 45) (.tmp 46) 22 rfl 5 i0 _ 1 1 Tryd.underlying22 hi hz0 hz1 hz2 rfl (by decide) Z (.slice (some ⟨Z, 0, none⟩) 0 0) 0 _ (by rfl) hob a (ob l) L C A.out.2.2.2.2.2.2.2.2.2 (by rfl) AZ.out hlr ob_one A.out.2.2.2.2.2.2.2.1 A.out.2.2.2.2.2.2.2.2.1 ?_; intro v9 w9 hgot; have how := ow_first hgot; obtain ⟨va9, vc9, hv, _⟩ := how.shape; subst hv)
            have a3 := A3.out
            have b9 : Below Z wr w9 := a3.2.2.2.1.trans hgot.bel
            have f9 : Fm w9 M H1 H2 := a3.1.below b9 (by omega)
            have hcm := ACM.out w9 f9
            have A5 : Aside (Fm w9 M H1 H2 ∧ Below B w w9 ∧ Ow w9 Z 5 1 (.slice va9 L vc9) L (ob l) ∧ Below Z wr w9) := ⟨f9, a3.2.1.trans (b9.mono a3.2.2.2.2.1), how, b9⟩
            clear a3 b9 f9 hgot hob hlr hZ how
            obtain ⟨tb, htb⟩ : ∃ tb, decide (L < m) = tb := ⟨_, rfl⟩
            have htb2 : decide ((L : Int) < (m : Int)) = tb := by rw [← htb]; congr 1; simp
            have AT : Aside (decide (L < m) = tb) := htb
            go_upto_if 55 with fail
            go_cut [11] (fun s11 wc => ∃ (ay : Option Addr) (ny cy : Nat), s11 = .slice ay ny cy ∧ Aside (Fm wc M H1 H2 ∧ Below B w wc ∧ Ow wc Z 5 1 (.slice ay ny cy) ny (ob (ext l ml))))
            case first =>
              cases tb with
              | true =>
                have hLm : L < m := of_decide_eq_true AT.out
                have a5 := A5.out
                have a4 := A4.out
                have u1 : (L : Int) ≤ (m : Int) := by omega
                have u3 : ¬ m = L := by omega
                have u4 : ¬ (m : Int) = (L : Int) := by omega
                have hsl : ∀ W : World, (Instr.slice 22 (.slice (some ⟨Hm, 0, none⟩) m m) (some (.int .i64 (L : Int))) none none).run Tryd.prog W = .ok (.slice (some ⟨Hm, L, none⟩) (m - L) (m - L)) W := fun W => by
                  have u2 : (0 : Int) ≤ (L : Int) := by omega
                  clear a5 a4 hcm htb htb2
                  go_simp
                have hdl : Lies w9 (some ⟨Hm, L, none⟩) (ml.drop L) := Or.inr ⟨Hm, L, rfl, fun j y hy => by
                  rw [List.getElem?_drop] at hy
                  exact a4.2.2.2.1 w9 a5.1 _ y hy⟩
                have hob2 := lies_ob hdl
                have hdn : (ob (ml.drop L)).length = (m - L) * 1 := by rw [ob_length, List.length_drop, a4.1]; omega
                obtain ⟨d, hd⟩ : ∃ d, m - L = d := ⟨_, rfl⟩
                rw [hd] at hsl hdn
                have how := a5.2.2.1
                have AE : Aside (ext l ml = l ++ ml.drop L ∧ L + d ≤ maxLen ∧ (L + d) * 1 ≤ 140737488355328) := by
                  have e1 : ext l ml = l ++ ml.drop L := by unfold ext; rw [if_pos (by rw [A.out.2.1, a4.1]; exact hLm), A.out.2.1]
                  refine ⟨e1, ?_, ?_⟩
                  · have := A.out.2.2.2.1; unfold maxLen; omega
                  · have := A.out.2.2.2.1; omega
                clear a5 a4 u3 u4 htb htb2 AT hLm hd hdl
                go_wp2_with (at_builtin; refine wpList_ow Tryd.prog _ rfl (.tmp 56) (.tmp 63) 22 rfl 5 i0 _ 1 1 Tryd.underlying22 hi hz0 hz1 hz2 rfl (by decide) Z (.slice va9 L vc9) L _ (by rfl) how (some ⟨Hm, L, none⟩) (ob (ml.drop L)) d d hdn (by rfl) (fun h => by cases h) hob2 ob_one AE.out.2.1 AE.out.2.2 ?_; intro v7 w7 hgot7; have how7 := ow_next hgot7; obtain ⟨va7, vc7, hv7, _⟩ := how7.shape; subst hv7)
                have a5 := A5.out
                go_meet
                exact ⟨va7, L + d, vc7, rfl, ⟨A3.out.1.below (a5.2.2.2.trans hgot7.bel) (Nat.le_of_eq A3.out.2.2.1), a5.2.1.trans (hgot7.bel.mono A3.out.2.2.2.2.1), by rw [AE.out.1]; exact how7⟩⟩
              | false =>
                have hLm : ¬ L < m := of_decide_eq_false AT.out
                have a5 := A5.out
                have e1 : ext l ml = l := by unfold ext; rw [if_neg (by rw [A.out.2.1, A4.out.1]; exact hLm)]
                clear htb htb2 AT hLm hcm
                go_wp2_with fail
                go_meet
                exact ⟨va9, L, vc9, rfl, ⟨a5.1, a5.2.1, by rw [e1]; exact a5.2.2.1⟩⟩
            case rest =>
              obtain ⟨ay, ny, cy, rfl, AC⟩ := hcut
              have ac := AC.out
              obtain ⟨a', c', hv, hln, _, hli, _⟩ := ac.2.2.lies
              cases hv
              have hel := ext_len l ml
              have s9 := AS.out wc ay (ext l ml) ny cy ac.2.1 hli hln (ext_oct A.out.2.2.2.2.1 A4.out.2.2.1) (by have := A.out.2.2.2.1; have := A.out.2.1; have := A4.out.1; have := A4.out.2.1; omega)
              obtain ⟨k9, hk9⟩ : ∃ k, kd (ext l ml) = k := ⟨_, rfl⟩
              have hk0 := kd_ne (ext l ml)
              rw [hk9] at s9 hk0
              have z0 : ((k9 : Int) != 0) = true := by simp; omega
              obtain ⟨t, ht⟩ : ∃ t, decide (k9 ≠ 1) = t := ⟨_, rfl⟩
              have z1 : ((k9 : Int) != 1) = t := by
                rw [← ht]
                by_cases h : k9 = 1
                · subst h; decide
                · rw [decide_eq_true h]; simp; omega
              have A6 : Aside (os l (i + 1) = (q || t)) := by
                show os l (i + 1) = (q || t)
                rw [A4.out.2.2.2.2, AQ.out, hk9, ht]
              have AFm : Aside (Fm wc M H1 H2 ∧ wc.heap.size = wc.heap.size) := ⟨ac.1, rfl⟩
              have hi3 : (i : Int) < 2 := by have := A3.out.2.2.2.2.2.2; omega
              clear ac hln hli hel hk9 hk0 ht AT htb htb2 hcm t2 t2n
              go_upto_region 17 with (go_at_call 7; refine s9.mono ?_; rintro e1 w10 ⟨rfl, hb10, hc10⟩)
              have A7 : Aside (Fm w10 M H1 H2 ∧ Below B w w10) := ⟨AFm.out.1.below hc10 (Nat.le_refl _), hb10⟩
              clear s9 hb10 hc10 AFm AC
              cases q with
              | true =>
                have e6 := A6.out
                rw [Bool.true_or] at e6
                have A8 : Aside (os l (i + 1) = true) := e6
                clear e6 A6 A4 AQ z0 z1
                go_wp2_with fail
                have a3 := A3.out
                go_roundg (gk - 1)
                case measure => omega
                case rel => exact ⟨i + 1, by rw [A8.out], by go_num, ⟨by omega, A7.out.1, A7.out.2⟩⟩
              | false =>
                have e6 := A6.out
                rw [Bool.false_or] at e6
                have A8 : Aside (os l (i + 1) = t) := e6
                clear e6 A6 A4 AQ
                cases t with
                | true =>
                  go_wp2_with fail
                  have a3 := A3.out
                  go_roundg (gk - 1)
                  case measure => omega
                  case rel => exact ⟨i + 1, by rw [A8.out], by go_num, ⟨by omega, A7.out.1, A7.out.2⟩⟩
                | false =>
                  go_wp2_with fail
                  have a3 := A3.out
                  go_roundg (gk - 1)
                  case measure => omega
                  case rel => exact ⟨i + 1, by rw [A8.out], by go_num, ⟨by omega, A7.out.1, A7.out.2⟩⟩
          · have hi3 : i = 2 := by omega
            have t2 : ((i : Int) < 2) = False := eq_false (by omega)
            subst hi3
            obtain ⟨q, hq⟩ : ∃ q, os l 2 = q := ⟨_, rfl⟩
            have AQ : Aside (os l 2 = q) := hq
            rw [hq]
            obtain ⟨Z, hZ⟩ : ∃ Z, wr.heap.size = Z := ⟨_, rfl⟩
            have aa := A.out
            have hBZ : B ≤ Z := by have := ar.2.2.size; omega
            have hob : Ow (wr.alloc (.cells #[] 5)) Z 5 1 (.slice (some ⟨Z, 0, none⟩) 0 0) 0 (ob []) := by rw [← hZ]; exact Ow.empty (Nat.le_refl _)
            have bZ : Below Z wr (wr.alloc (.cells #[] 5)) := by rw [← hZ]; exact (Below.refl _ wr).alloc (Nat.le_refl _) _
            have hlr := lies_ob (aa.1.below (by rw [aa.2.2.2.2.2.1]; exact ar.2.2.trans (bZ.mono hBZ)))
            have A3 : Aside (Below B w (wr.alloc (.cells #[] 5)) ∧ B ≤ Z) := ⟨ar.2.2.trans (bZ.mono hBZ), hBZ⟩
            clear AR ar aa hi2 bZ hBZ hq t2
            go_upto_region 19 with (at_builtin; refine wpList_ow Tryd.prog _ rfl (.tmp 79) (.tmp 80) 22 rfl 5 i0 _ 1 1 Tryd.underlying22 hi hz0 hz1 hz2 rfl (by decide) Z (.slice (some ⟨Z, 0, none⟩) 0 0) 0 _ (by rfl) hob a (ob l) L C A.out.2.2.2.2.2.2.2.2.2 (by rfl) AZ.out hlr ob_one A.out.2.2.2.2.2.2.2.1 A.out.2.2.2.2.2.2.2.2.1 ?_; intro v9 w9 hgot; have how := ow_first hgot; obtain ⟨va9, vc9, hv, _⟩ := how.shape; subst hv)
            have A4 : Aside (Below B w w9 ∧ Ow w9 Z 5 1 (.slice va9 L vc9) L (ob (pad l 170 L))) := ⟨A3.out.1.trans (hgot.bel.mono A3.out.2), by rw [pad_self l 170 L A.out.2.1]; exact how⟩
            clear hgot how hob hlr hZ
            go_wp2_with fail
            go_loopg [14] (257 - L) (fun gg s14 wq => ∃ (ay : Option Addr) (m cy : Nat), s14 = .slice ay m cy ∧ Aside (L ≤ m ∧ (m = L ∨ m ≤ 257) ∧ gg = 257 - m ∧ Ow wq Z 5 1 (.slice ay m cy) m (ob (pad l 170 m)) ∧ Below B w wq))
            case atStart => exact ⟨va9, L, vc9, rfl, ⟨Nat.le_refl _, Or.inl rfl, rfl, A4.out.2, A4.out.1⟩⟩
            case round =>
              obtain ⟨ay, m, cy, rfl, AR⟩ := hrel
              have ar := AR.out
              by_cases hm : m < 257
              · have t3 : ((m : Int) < 257) = True := eq_true (by omega)
                have t3n : (m < 257) = True := eq_true hm
                obtain ⟨Y, hY⟩ : ∃ Z, wr.heap.size = Z := ⟨_, rfl⟩
                have bY : Below Y wr (wr.alloc (.cells #[.int .u8 170] 5)) := by rw [← hY]; exact (Below.refl _ wr).alloc (Nat.le_refl _) _
                have hown := ar.2.2.2.1.below bY (by omega)
                have hsrc := src_one wr 170 Y hY
                have hbw := ar.2.2.2.2.trans (bY.mono (by have := ar.2.2.2.1.le; have := A3.out.2; omega))
                have A5 : Aside (m + 1 ≤ maxLen ∧ (m + 1) * 1 ≤ 140737488355328 ∧ L ≤ m ∧ m < 257 ∧ gk = 257 - m ∧ pad l 170 (m + 1) = pad l 170 m ++ [170] ∧ Below B w (wr.alloc (.cells #[.int .u8 170] 5))) := ⟨by unfold maxLen; omega, by omega, ar.1, hm, ar.2.2.1, pad_one l 170 m L A.out.2.1 ar.1, hbw⟩
                have hn3 : (m : Int) < 257 := by omega
                clear AR ar hm bY hbw
                go_wp2_with (at_builtin; refine wpList_ow Tryd.prog _ rfl (.tmp 85) (.tmp 86) 22 rfl 5 i0 _ 1 1 Tryd.underlying22 hi hz0 hz1 hz2 rfl (by decide) Z (.slice ay m cy) m _ (by rfl) hown (some ⟨Y, 0, none⟩) (ob [170]) 1 1 rfl (by rfl) (fun h => by cases h) hsrc ob_one A5.out.1 A5.out.2.1 ?_; intro vA wA hgotA; have howA := ow_next hgotA; obtain ⟨vaA, vcA, hvA, _⟩ := howA.shape; subst hvA)
                have a5 := A5.out
                go_roundg (257 - (m + 1))
                case measure => omega
                case rel => exact ⟨vaA, m + 1, vcA, rfl, ⟨by omega, Or.inr (by omega), rfl, by rw [a5.2.2.2.2.2.1]; exact howA, a5.2.2.2.2.2.2.trans (hgotA.bel.mono A3.out.2)⟩⟩
              · have t3 : ((m : Int) < 257) = False := eq_false (by omega)
                have t3n : (m < 257) = False := eq_false hm
                have how := ar.2.2.2.1
                rw [pad_end l 170 m 257 L A.out.2.1 ar.2.1 hm] at how
                have hTl : (pad l 170 257).length = m := by have := how.own.1; rw [ob_length] at this; omega
                obtain ⟨T, hT⟩ : ∃ T, pad l 170 257 = T := ⟨_, rfl⟩
                rw [hT] at how hTl
                have A5 : Aside (pad l 170 257 = T ∧ T.length = m ∧ 257 ≤ m ∧ Ow wr Z 5 1 (.slice ay m cy) m (ob T) ∧ Below B w wr) := ⟨hT, hTl, by omega, how, ar.2.2.2.2⟩
                clear AR ar hm how hTl hT t3n
                go_wp2_with fail
                go_loopg [14] (262 - m) (fun gg s14 wq => ∃ (az : Option Addr) (n5 cz : Nat), s14 = .slice az n5 cz ∧ Aside (m ≤ n5 ∧ (n5 = m ∨ n5 ≤ 262) ∧ gg = 262 - n5 ∧ Ow wq Z 5 1 (.slice az n5 cz) n5 (ob (T ++ (us.drop (m - 257)).take (n5 - m))) ∧ Below B w wq))
                case atStart => exact ⟨ay, m, cy, rfl, ⟨Nat.le_refl _, Or.inl rfl, rfl, by rw [Nat.sub_self, List.take_zero, List.append_nil]; exact A5.out.2.2.2.1, A5.out.2.2.2.2⟩⟩
                case round =>
                  obtain ⟨az, n5, cz, rfl, AR⟩ := hrel
                  have ar := AR.out
                  have a5 := A5.out
                  by_cases hn5 : n5 < 262
                  · have t4 : ((n5 : Int) < 262) = True := eq_true (by omega)
                    have t4n : (n5 < 262) = True := eq_true hn5
                    obtain ⟨k, hk⟩ : ∃ k, n5 - 257 = k := ⟨_, rfl⟩
                    have hk5 : k < us.length := by show k < 5; omega
                    obtain ⟨y, hy⟩ : ∃ y, us[k]? = some y := ⟨_, List.getElem?_eq_getElem hk5⟩
                    have hy0 : ∀ h : k < (⟨#[117, 115, 116, 97, 114]⟩ : ByteArray).size, ((⟨#[117, 115, 116, 97, 114]⟩ : ByteArray)[k]'h).toNat = y := fun h => st_get (l := us) oct_us hy h
                    have hwk : IntKind.i64.wrap ((n5 : Int) - 257) = (k : Int) := by rw [IntKind.wrap_i64]; omega
                    have hk5b : (k : Int) < 5 := by have : us.length = 5 := rfl; omega
                    obtain ⟨Y, hY⟩ : ∃ Z, wr.heap.size = Z := ⟨_, rfl⟩
                    have bY : Below Y wr (wr.alloc (.cells #[.int .u8 (y : Int)] 5)) := by rw [← hY]; exact (Below.refl _ wr).alloc (Nat.le_refl _) _
                    have hown := ar.2.2.2.1.below bY (by omega)
                    have hsrc := src_one wr y Y hY
                    have hbw := ar.2.2.2.2.trans (bY.mono (by have := ar.2.2.2.1.le; have := A3.out.2; omega))
                    have A6 : Aside (n5 + 1 ≤ maxLen ∧ (n5 + 1) * 1 ≤ 140737488355328 ∧ m ≤ n5 ∧ n5 < 262 ∧ gk = 262 - n5 ∧ T ++ (us.drop (m - 257)).take (n5 + 1 - m) = T ++ (us.drop (m - 257)).take (n5 - m) ++ [y] ∧ Below B w (wr.alloc (.cells #[.int .u8 (y : Int)] 5))) := by
                      refine ⟨by unfold maxLen; omega, by omega, ar.1, hn5, ar.2.2.1, ?_, hbw⟩
                      rw [show n5 + 1 - m = (n5 - m) + 1 by have := ar.1; omega, take_more (l := us.drop (m - 257)) (k := n5 - m) (x := y) (by rw [List.getElem?_drop, show m - 257 + (n5 - m) = k by have := ar.1; have := a5.2.2.1; omega]; exact hy), List.append_assoc]
                    have hm3 : (n5 : Int) < 262 := by omega
                    clear AR ar a5 hn5 bY hbw hk hk5 hy
                    go_wp2_with (at_builtin; refine wpList_ow Tryd.prog _ rfl (.tmp 91) (.tmp 96) 22 rfl 5 i0 _ 1 1 Tryd.underlying22 hi hz0 hz1 hz2 rfl (by decide) Z (.slice az n5 cz) n5 _ (by rfl) hown (some ⟨Y, 0, none⟩) (ob [y]) 1 1 rfl (by rfl) (fun h => by cases h) hsrc ob_one A6.out.1 A6.out.2.1 ?_; intro vA wA hgotA; have howA := ow_next hgotA; obtain ⟨vaA, vcA, hvA, _⟩ := howA.shape; subst hvA)
                    have a6 := A6.out
                    go_roundg (262 - (n5 + 1))
                    case measure => omega
                    case rel => exact ⟨vaA, n5 + 1, vcA, rfl, ⟨by omega, Or.inr (by omega), rfl, by rw [a6.2.2.2.2.2.1]; exact howA, a6.2.2.2.2.2.2.trans (hgotA.bel.mono A3.out.2)⟩⟩
                  · have t4 : ((n5 : Int) < 262) = False := eq_false (by omega)
                    have t4n : (n5 < 262) = False := eq_false hn5
                    have hX : T ++ (us.drop (m - 257)).take (n5 - m) = tarf l 170 := by
                      unfold tarf
                      rw [a5.1, a5.2.1, List.take_of_length_le]
                      rw [List.length_drop, show us.length = 5 from rfl]
                      have := ar.2.1
                      omega
                    have how := ar.2.2.2.1
                    rw [hX] at how
                    obtain ⟨a', c', hv, hln, _, hli, _⟩ := how.lies
                    cases hv
                    have htl := tarf_len l 170
                    have s14 := AS.out wr az (tarf l 170) n5 cz ar.2.2.2.2 hli hln (tarf_oct A.out.2.2.2.2.1 (by decide)) (by have := A.out.2.2.2.1; have := A.out.2.1; omega)
                    have hlk := least_kd AF.out
                    rw [AQ.out] at hlk
                    obtain ⟨k9, hk9⟩ : ∃ k, kd (tarf l 170) = k := ⟨_, rfl⟩
                    rw [hk9] at s14 hlk
                    clear AR ar a5 hn5 hX how hln hli htl hk9 t4n
                    go_upto_region 24 with (go_at_call 7; refine s14.mono ?_; rintro e1 wB ⟨rfl, hbB, _⟩)
                    have haw := AW.out wB hbB
                    clear s14 hbB
                    cases q with
                    | true =>
                      clear hlk
                      go_wp2_with (go_at_call 9; refine haw.mono ?_; rintro e1 wC ⟨rfl, hbC⟩)
                      first | go_ret | go_ret2
                      exact ⟨rfl, hbC⟩
                    | false =>
                      have h8 : k9 = 8 := by rw [Bool.false_or] at hlk; exact of_decide_eq_true hlk
                      subst h8
                      clear hlk
                      go_wp2_with (go_at_call 9; refine haw.mono ?_; rintro e1 wC ⟨rfl, hbC⟩)
                      first | go_ret | go_ret2
                      exact ⟨rfl, hbC⟩
end Go.Proofs.YtbhlmmbknmejkaaDoor

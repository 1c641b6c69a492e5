/-
  TarTurned's walk.
-/
import Derived.Test.YtcmmjbkgoafbnaaDoorTec
import Derived.Test.YtcmmjbkgoafbnaaDoorMtu
import Derived.BigQuiet
import Derived.Deep.CutBlock
import Derived.Deep.DeepCutAuto
namespace Go.Proofs.YtcmmjbkgoafbnaaDoor
open Go.RowKit
set_option linter.unusedVariables false
set_option maxRecDepth 100000 in
set_option maxHeartbeats 8000000 in
theorem turned_core (w : World) (he : Er w) (a : Option Addr) (l : List Ent) (N C : Nat) (h : Ea w a l N) (hN : a = none → N = 0 ∧ C = 0) (e : List Nat) (S : ByteArray) (v1 v2 v3 : Value) (hS : S = st e) (ho : Oct e) (hel : e.length ≤ 9223372036854775807) (at_ by_ : Nat) (hat : at_ < 256) (hby : by_ < 256) : Calls Tryd.prog 7 #[.slice a N C, .agg #[.string S, v1, v2, v3], .agg #[.int .u8 (at_ : Int), .int .u8 (by_ : Int)]] w fun e w' => e = .returned (.bool true) ∧ Below w.heap.size w w' := by
  obtain ⟨lo, hlo⟩ : ∃ lo, w.heap.size = lo := ⟨_, rfl⟩
  have h3 := he.1
  have AW : Aside (∀ u, Below lo w u → Calls Tryd.prog 16 #[] u fun e w' => e = .returned (.bool true) ∧ Below u.heap.size u w') := fun u hu => by
    rw [← hlo] at hu
    exact awake_c u (he.below hu (by omega))
  have A : Aside (Ea w a l N ∧ (∀ u, Below lo w u → Er u) ∧ w.heap.size = lo ∧ 3 ≤ lo) := ⟨h, fun u hu => he.below (show Below w.heap.size w u by rw [hlo]; exact hu) (by omega), hlo, by omega⟩
  have AE : Aside (S = st e ∧ Oct e ∧ e.length ≤ 9223372036854775807) := ⟨hS, ho, hel⟩
  obtain ⟨w1, hw1⟩ : ∃ w1, (w.alloc (.cells #[.string S, v1, v2, v3] 54)).alloc (.cells #[.int .u8 (at_ : Int), .int .u8 (by_ : Int)] 55) = w1 := ⟨_, rfl⟩
  have b1 : Below lo w w1 := by rw [← hw1, ← hlo]; exact ((Below.refl _ w).alloc (Nat.le_refl _) _).alloc (by simp) _
  have k1 : Cells w1 lo #[.string S, v1, v2, v3] 54 := by rw [← hw1, ← hlo]; exact (Cells.new w _ 54).alloc _
  have kt : Cells w1 (lo + 1) #[.int .u8 (at_ : Int), .int .u8 (by_ : Int)] 55 := by
    have := Cells.new (w.alloc (.cells #[.string S, v1, v2, v3] 54)) #[.int .u8 (at_ : Int), .int .u8 (by_ : Int)] 55
    rw [hw1] at this
    rwa [show (w.alloc (.cells #[.string S, v1, v2, v3] 54)).heap.size = lo + 1 by rw [← hlo]; simp] at this
  have hz1 : w1.heap.size = lo + 2 := by rw [← hw1, ← hlo]; simp
  have t0 : w1.cell? ⟨lo + 1, 0, none⟩ = some (.int .u8 (at_ : Int)) := (kt.cell 0).trans rfl
  have t1 : w1.cell? ⟨lo + 1, 1, none⟩ = some (.int .u8 (by_ : Int)) := (kt.cell 1).trans rfl
  rw [hlo]
  clear h he h3 hS ho hel
  go_enter Tryd.func7, Tryd.ntmps7
  go_upto_region 1 with fail
  (try rw [hw1])
  clear hw1 kt
  go_quiet (fail)
  obtain ⟨w2, hw2⟩ : ∃ w2, w1.drewN nq = w2 := ⟨_, rfl⟩
  rw [hw2]
  have b2 : Below lo w w2 := by rw [← hw2]; exact Below.drewN2 b1 _
  have k2 : Cells w2 lo #[.string S, v1, v2, v3] 54 := by rw [← hw2]; exact k1.drewN _
  have hz2 : w2.heap.size = lo + 2 := by rw [← hw2]; exact hz1
  have c3 : w2.cell? ⟨lo, 3, none⟩ = some v3 := (k2.cell 3).trans rfl
  have f3 := k2.frozen 3
  have k3 := k2.set 3 (.int .u8 0)
  have c2 : (w2.setCell ⟨lo, 3, none⟩ (.int .u8 0)).cell? ⟨lo, 2, none⟩ = some v2 := (k3.cell 2).trans rfl
  have f2 := k3.frozen 2
  have k4 := k3.set 2 (.int .u8 0)
  have c1 : ((w2.setCell ⟨lo, 3, none⟩ (.int .u8 0)).setCell ⟨lo, 2, none⟩ (.int .u8 0)).cell? ⟨lo, 1, none⟩ = some v1 := (k4.cell 1).trans rfl
  have f1 := k4.frozen 1
  have k5 := k4.set 1 (.slice none 0 0)
  obtain ⟨w3, hw3⟩ : ∃ w3, ((w2.setCell ⟨lo, 3, none⟩ (.int .u8 0)).setCell ⟨lo, 2, none⟩ (.int .u8 0)).setCell ⟨lo, 1, none⟩ (.slice none 0 0) = w3 := ⟨_, rfl⟩
  have k3' : Cells w3 lo #[.string S, .slice none 0 0, .int .u8 0, .int .u8 0] 54 := by rw [← hw3]; exact k5
  have o3 : Only lo w2 w3 := by rw [← hw3]; exact (((Only.refl lo w2).setCell 3 _).setCell 2 _).setCell 1 _
  have b3 : Below lo w w3 := b2.trans (o3.below (Nat.le_refl _))
  have hz3 : w3.heap.size = lo + 2 := o3.size.trans hz2
  have A3 : Aside (Below lo w w3 ∧ Cells w3 lo #[.string S, .slice none 0 0, .int .u8 0, .int .u8 0] 54 ∧ w3.heap.size = lo + 2) := ⟨b3, k3', hz3⟩
  clear b1 k1 hz1 t0 t1 b2 k2 hz2 k3 k4 k5 k3' o3 b3 hz3 hw2 hlo
  go_upto_region 3 with fail
  (try rw [hw3])
  clear hw3 c1 c2 c3 f1 f2 f3
  have d0 : w3.cell? ⟨lo, 0, none⟩ = some (.string S) := (A3.out.2.1.cell 0).trans rfl
  have hNm : Calls Tryd.prog 23 #[.string S] w3 fun e1 w' => e1 = .returned (.string (st (nmd e))) ∧ Below w3.heap.size w3 w' := by rw [AE.out.1]; exact named_c e AE.out.2.1 AE.out.2.2 w3
  obtain ⟨nm, hnm⟩ : ∃ nm, nmd e = nm := ⟨_, rfl⟩
  obtain ⟨ns, hns⟩ : ∃ ns, st nm = ns := ⟨_, rfl⟩
  obtain ⟨LN, hLN⟩ : ∃ LN, nm.length = LN := ⟨_, rfl⟩
  rw [hnm, hns] at hNm
  have zN : ns.size = LN := by rw [← hns, st_size, hLN]
  have AN : Aside (nmd e = nm ∧ nm.length = LN) := ⟨hnm, hLN⟩
  clear hnm hns hLN
  by_cases hb0 : by_ = 0
  · have e1 : ((by_ : Int) == 0) = true := by rw [hb0]; rfl
    have ha := AW.out w3 A3.out.1
    clear hb0 hNm
    go_wp2_with (go_at_call 16; refine ha.mono ?_; rintro e2 w2 ⟨rfl, b2⟩)
    first | go_ret | go_ret2
    exact ⟨rfl, A3.out.1.trans (b2.mono (by have := A3.out.2.2; omega))⟩
  have e1 : ((by_ : Int) == 0) = false := by rw [beq_eq_false_iff_ne]; omega
  by_cases h100 : 100 < LN
  · have g1 : ((100 : Int) < (LN : Int)) = True := eq_true (by omega)
    have g2 : (100 < LN) = True := eq_true h100
    clear h100
    go_upto_region 4 with (go_at_call 23; refine hNm.mono ?_; rintro e4 w4 ⟨rfl, b4⟩)
    have bl4 : Below lo w w4 := A3.out.1.trans (b4.mono (by have := A3.out.2.2; omega))
    have ha := AW.out w4 bl4
    have hs4 : lo ≤ w4.heap.size := by have := b4.size; have := A3.out.2.2; omega
    have A4 : Aside (Below lo w w4 ∧ lo ≤ w4.heap.size) := ⟨bl4, hs4⟩
    clear hNm b4 bl4 hs4
    go_wp2_with (go_at_call 16; refine ha.mono ?_; rintro e2 w2 ⟨rfl, b2⟩)
    first | go_ret | go_ret2
    exact ⟨rfl, A4.out.1.trans (b2.mono A4.out.2)⟩
  have g1 : ((100 : Int) < (LN : Int)) = False := eq_false (by omega)
  have g2 : (100 < LN) = False := eq_false h100
  have hsm := fun (u : World) (hu : Below lo w u) => A.out.1.small (u := u) (by rw [A.out.2.2.1]; exact hu) C
  have ASm : Aside _ := hsm
  have AB : Aside (by_ ≠ 0 ∧ LN ≤ 100) := ⟨hb0, by omega⟩
  clear hsm h100 hb0
  go_upto_if 35 with (first
    | (go_at_call 23; refine hNm.mono ?_; rintro e4 w4 ⟨rfl, b4⟩; have bl4 : Below lo w w4 := A3.out.1.trans (b4.mono (by have := A3.out.2.2; omega)); have hsm := ASm.out w4 bl4)
    | (go_at_call 17; refine hsm.mono ?_; rintro e5 w5 ⟨⟨b, rfl, hb⟩, rfl⟩))
  have A4 : Aside (Below lo w w4 ∧ Cells w4 lo #[.string S, .slice none 0 0, .int .u8 0, .int .u8 0] 54 ∧ lo + 2 ≤ w4.heap.size) := ⟨bl4, A3.out.2.1.below b4 A3.out.2.1.lt, by have := b4.size; have := A3.out.2.2; omega⟩
  clear hNm hsm b4 bl4 ASm d0 e1 g1 g2 zN
  cases b with
  | false =>
    have ha := AW.out w4 A4.out.1
    clear hb
    go_wp2_with (go_at_call 16; refine ha.mono ?_; rintro e2 w2 ⟨rfl, b2⟩)
    first | go_ret | go_ret2
    exact ⟨rfl, A4.out.1.trans (b2.mono (by have := A4.out.2.2; omega))⟩
  | true =>
  have AS : Aside (N * 500 + sdt l < 20000) := hb rfl
  clear hb
  go_upto_region 5 with fail
  obtain ⟨w3d, hw3d⟩ : ∃ x, w4.drew = x := ⟨_, rfl⟩
  obtain ⟨K0, hK0⟩ : ∃ K0, w4.heap.size = K0 := ⟨_, rfl⟩
  have hbd : Below w4.heap.size w4 w3d := by rw [← hw3d]; exact Below.drew (Below.refl _ w4)
  obtain ⟨mm, hm1, hm2⟩ := (A.out.1.em.below (show Below w.heap.size w w4 by rw [A.out.2.2.1]; exact A4.out.1) (Nat.le_refl _)).cells
  have hNs : N < 40 := by have := AS.out; omega
  have hml := hm1.len
  rw [A.out.1.len] at hml
  have AM : Aside ((mm.length = N * 4 ∧ (a = none → N = 0 ∧ C = 0) ∧ (∀ u ∈ mm, u.oneCell' = true) ∧ 0 + N ≤ maxLen ∧ (0 + N) * 48 ≤ 140737488355328) ∧ ∀ u, Below K0 w4 u → (mm = [] ∨ ∃ b o, a = some ⟨b, o, none⟩ ∧ ∀ (i : Nat) (v : Value), mm[i]? = some v → u.cell? ⟨b, o + i, none⟩ = some v)) := by
    refine ⟨⟨hml, hN, hm1.one, by unfold maxLen; omega, by omega⟩, fun u hu => ?_⟩
    rcases hm2 with q | ⟨b, o, q1, q2⟩
    · exact Or.inl q
    · exact Or.inr ⟨b, o, q1, fun i v hv => (hu.cell (p := ⟨b, o + i, none⟩) (by rw [← hK0]; exact World.block_lt_of_cell? w4 _ (q2 i v hv))).trans (q2 i v hv)⟩
  have AM2 : Aside (N + 1 ≤ maxLen ∧ (N + 1) * 48 ≤ 140737488355328) := ⟨by unfold maxLen; omega, by omega⟩
  have AQ : Aside (∀ (u : World) (g c : Nat), Below K0 w4 u → Ow u K0 54 4 (.slice (some ⟨g, 0, none⟩) (N + 1) c) (N + 1) (mm ++ bare e) → Calls Tryd.prog 19 #[.slice (some ⟨g, 0, none⟩) (N + 1) c] u fun e1 w' => Wtn (l ++ [(e, [], 0, 0)]) u e1 w') := fun u g c hu ho => by
    have hee := (hm1.below (show Below w4.heap.size w4 u by rw [hK0]; exact hu)).last e
    refine write_n u (some ⟨g, 0, none⟩) (l ++ [(e, [], 0, 0)]) (N + 1) c (by rw [List.length_append, A.out.1.len]; rfl) (by omega) (own_em ho (by omega) hee) (fun x hx => ?_)
    rcases List.mem_append.1 hx with q | q
    · exact A.out.1.eok AS.out x q
    · have : x = (e, [], 0, 0) := by simpa using q
      subst this
      exact ⟨AE.out.2.1, AE.out.2.2, (fun y hy => by cases hy), (show (0 : Nat) ≤ 100000 by decide), (show (0 : Nat) < 256 by decide), (show (0 : Nat) < 256 by decide)⟩
  obtain ⟨i0, hii, hz0, hz1, hz2⟩ := ginfo_parts ginfo54
  have Td : Tp lo K0 #[.string S, .slice none 0 0, .int .u8 0, .int .u8 0] w4 w3d := ⟨by rw [← hK0]; exact hbd, A4.out.2.1.below hbd A4.out.2.1.lt, by have := A4.out.2.2; omega, by rw [← hK0]; exact hbd.size⟩
  have zd : w3d.heap.size = K0 := by rw [← hw3d, ← hK0]; rfl
  have Dd := Td.four
  clear hbd hm1 hm2 hNs hml hN
  go_cut [9] (fun s wd => ∃ g9 n9 c9, s = .slice (some ⟨g9, 0, none⟩) n9 c9 ∧ Aside ((wri (l ++ [(e, [], 0, 0)])).length = n9 ∧ n9 ≤ 300000000 ∧ Below K0 w4 wd ∧ Cells wd lo #[.string S, .slice none 0 0, .int .u8 0, .int .u8 0] 54 ∧ ∃ K, K0 ≤ K ∧ Ow wd K 5 1 (.slice (some ⟨g9, 0, none⟩) n9 c9) n9 (ob (wri (l ++ [(e, [], 0, 0)])))))
  case first =>
    refine wp_region_held_drew (S := fun u => u.cell? ⟨lo, 0, none⟩ = some (.string S) ∧ u.cell? ⟨lo, 1, none⟩ = some (.slice none 0 0) ∧ u.cell? ⟨lo, 2, none⟩ = some (.int .u8 0) ∧ u.cell? ⟨lo, 3, none⟩ = some (.int .u8 0)) (by kernel_rfl) (by rw [← hw3d] at Dd; exact Dd) (fun hHeld => ?_)
    (try rw [hw3d])
    rw [hw3d] at hHeld
    refine wpAnyH_take (i := 1) (oi := ⟨_, _, _, _, _, _⟩) (v := ?_) rfl (by kernel_rfl) (by kernel_rfl) (by kernel_rfl) (fun _ _ _ h => h) (Or.inl ⟨by rfl, ?_⟩) hHeld ?_
    rotate_left
    · (intro w9 hSw; (try dsimp only at hSw); obtain ⟨q0, q1, q2, q3⟩ := hSw; go_simp; try (with_reducible rfl))
    try simp only [Act.put, List.setIfInBounds_toArray, List.set_cons_zero, List.set_cons_succ]
    refine wpAnyH_take (i := 3) (oi := ⟨_, _, _, _, _, _⟩) (v := ?_) rfl (by kernel_rfl) (by kernel_rfl) (by kernel_rfl) (fun _ _ _ h => h) (Or.inl ⟨by rfl, ?_⟩) hHeld ?_
    rotate_left
    · (intro w9 hSw; (try dsimp only at hSw); obtain ⟨q0, q1, q2, q3⟩ := hSw; go_simp; try (with_reducible rfl))
    try simp only [Act.put, List.setIfInBounds_toArray, List.set_cons_zero, List.set_cons_succ]
    refine wpAnyH_ready (rs := [0, 4]) (by kernel_rfl) (by simp) ?_
    refine AllReadyH.cons (o := ⟨_, _, _, _, _, _⟩) rfl (fun K hK => ?_) ?_
    · go_simp
      obtain ⟨x0, hx0⟩ : ∃ x, w3d.alloc (.cells #[] 54) = x := ⟨_, rfl⟩
      (try rw [hx0])
      have O0 : Ow x0 K0 54 4 (.slice (some ⟨K0, 0, none⟩) 0 0) 0 [] := by rw [← hx0]; have := Ow.made54 Td.le; rwa [zd] at this
      have T0 := Td.alloc (.cells #[] 54)
      rw [hx0] at T0
      have z0 : x0.heap.size = K0 + 1 := by rw [← hx0]; simp [zd]
      have D0 := T0.four
      refine hK.out _ _ D0 (fun hH0 => ?_)
      clear hK K
      try simp only [Act.put, List.setIfInBounds_toArray, List.set_cons_zero, List.set_cons_succ]
      refine wpAnyH_ready (rs := [2, 4]) (by kernel_rfl) (by simp) ?_
      refine AllReadyH.cons (o := ⟨_, _, _, _, _, _⟩) rfl (fun K hK => ?_) ?_
      · have M02 := AM.out.2 x0 T0.bel
        refine step_ows Tryd.prog _ rfl (.tmp 37) (.tmp 38) 41 rfl 54 i0 _ 4 48 Tryd.underlying41 hii hz0 hz1 hz2 rfl (by decide) K0 (.slice (some ⟨K0, 0, none⟩) 0 0) 0 [] (by first | rfl | go_simp) O0 a mm N C AM.out.1.1 (by first | rfl | go_simp) AM.out.1.2.1 M02 AM.out.1.2.2.1 AM.out.1.2.2.2.1 AM.out.1.2.2.2.2 ?_
        intro va vc x02 hg02
        have T02 := T0.step hg02.bel
        have O02 : Ow x02 K0 54 4 (.slice va N vc) N mm := by have := hg02.ow; rw [Nat.zero_add, List.nil_append] at this; exact this
        rw [Nat.zero_add]
        obtain ⟨Z02, z02⟩ : ∃ Z, x02.heap.size = Z := ⟨_, rfl⟩
        have D02 := T02.four
        refine hK.out _ _ D02 (fun hH02 => ?_)
        clear hK K
        try simp only [Act.put, List.setIfInBounds_toArray, List.set_cons_zero, List.set_cons_succ]
        refine wpAnyH_ready (rs := [4]) (by kernel_rfl) (by simp) ?_
        refine AllReadyH.cons (o := ⟨_, _, _, _, _, _⟩) rfl (fun K hK => ?_) AllReadyH.nil
        go_simp
        obtain ⟨x024, hx024⟩ : ∃ x, x02.alloc (.cells #[.string S, .slice none 0 0, .int .u8 0, .int .u8 0] 54) = x := ⟨_, rfl⟩
        (try rw [hx024])
        have k024 : Cells x024 Z02 #[.string S, .slice none 0 0, .int .u8 0, .int .u8 0] 54 := by rw [← hx024, ← z02]; exact Cells.new _ _ 54
        have T024 := T02.alloc (.cells #[.string S, .slice none 0 0, .int .u8 0, .int .u8 0] 54)
        rw [hx024] at T024
        have z024 : x024.heap.size = Z02 + 1 := by rw [← hx024]; simp [z02]
        have O024 := O02.below ((Below.refl _ x02).alloc (Nat.le_refl _) (.cells #[.string S, .slice none 0 0, .int .u8 0, .int .u8 0] 54)) (Nat.le_refl _)
        rw [hx024] at O024
        have D024 := T024.four
        refine hK.out _ _ D024 (fun hH024 => ?_)
        clear hK K
        try simp only [Act.put, List.setIfInBounds_toArray, List.set_cons_zero, List.set_cons_succ]
        refine wpAnyH_ready (rs := [5]) (by kernel_rfl) (by simp) ?_
        refine AllReadyH.cons (o := ⟨_, _, _, _, _, _⟩) rfl (fun K hK => ?_) AllReadyH.nil
        refine step_ow Tryd.prog _ rfl (.tmp 39) (.tmp 41) 41 rfl 54 i0 _ 4 48 Tryd.underlying41 hii hz0 hz1 hz2 rfl (by decide) K0 (.slice va N vc) N mm (by first | rfl | go_simp) O024 Z02 0 1 (bare e) rfl (by first | rfl | go_simp) (bare_at AE.out.1 k024) (bare_one e) AM2.out.1 AM2.out.2 ?_
        intro gg gc x0245 hg0245
        have T0245 := T024.step hg0245.bel
        have D0245 := T0245.four
        have hwr := AQ.out x0245 gg gc T0245.bel hg0245.ow
        refine hK.out _ _ D0245 (fun hH0245 => ?_)
        clear hK K
        try simp only [Act.put, List.setIfInBounds_toArray, List.set_cons_zero, List.set_cons_succ]
        refine wpAnyH_ready (rs := [6]) (by kernel_rfl) (by simp) ?_
        refine AllReadyH.cons (o := ⟨_, _, _, _, _, _⟩) rfl (fun K hK => ?_) AllReadyH.nil
        go_simp
        go_at_call 19
        refine hwr.mono ?_
        intro e9 x9 h9
        obtain ⟨g9, n9, c9, he9, hl9, hb9, ow9, bl9⟩ := h9.ex
        subst he9
        dsimp only
        have T9 := T0245.step (bl9.mono T0245.le)
        have D9 := T9.four
        refine hK.out _ _ D9 (fun hH9 => ?_)
        clear hK K
        try simp only [Act.put, List.setIfInBounds_toArray, List.set_cons_zero, List.set_cons_succ]
        refine wpAnyH_take (i := 7) (oi := ⟨_, _, _, _, _, _⟩) (v := ?_) rfl (by kernel_rfl) (by kernel_rfl) (by kernel_rfl) (fun _ _ _ h => h) (Or.inl ⟨by rfl, ?_⟩) hH9 ?_
        rotate_left
        · (intro w9 hSw; (try dsimp only at hSw); obtain ⟨q0, q1, q2, q3⟩ := hSw; go_simp; try (with_reducible rfl))
        try simp only [Act.put, List.setIfInBounds_toArray, List.set_cons_zero, List.set_cons_succ]
        refine wpAnyH_done (by kernel_rfl) ?_ _
        (try dsimp only [Exit.then])
        have AFin : Aside ((wri (l ++ [(e, [], 0, 0)])).length = n9 ∧ n9 ≤ 300000000 ∧ Below K0 w4 x9 ∧ Cells x9 lo #[.string S, .slice none 0 0, .int .u8 0, .int .u8 0] 54 ∧ ∃ K, K0 ≤ K ∧ Ow x9 K 5 1 (.slice (some ⟨g9, 0, none⟩) n9 c9) n9 (ob (wri (l ++ [(e, [], 0, 0)])))) := ⟨hl9, hb9, T9.bel, T9.cel, _, T0245.le, ow9⟩
        clear hl9 hb9 T9 ow9 D9 hH9 bl9 h9 hwr
        go_wp2_with fail
        go_meet
        exact ⟨g9, n9, c9, rfl, AFin⟩
      refine AllReadyH.cons (o := ⟨_, _, _, _, _, _⟩) rfl (fun K hK => ?_) AllReadyH.nil
      go_simp
      obtain ⟨x04, hx04⟩ : ∃ x, x0.alloc (.cells #[.string S, .slice none 0 0, .int .u8 0, .int .u8 0] 54) = x := ⟨_, rfl⟩
      (try rw [hx04])
      have k04 : Cells x04 (K0 + 1) #[.string S, .slice none 0 0, .int .u8 0, .int .u8 0] 54 := by rw [← hx04, ← z0]; exact Cells.new _ _ 54
      have T04 := T0.alloc (.cells #[.string S, .slice none 0 0, .int .u8 0, .int .u8 0] 54)
      rw [hx04] at T04
      have z04 : x04.heap.size = (K0 + 1) + 1 := by rw [← hx04]; simp [z0]
      have O04 := O0.below ((Below.refl _ x0).alloc (Nat.le_refl _) (.cells #[.string S, .slice none 0 0, .int .u8 0, .int .u8 0] 54)) (Nat.le_refl _)
      rw [hx04] at O04
      have D04 := T04.four
      refine hK.out _ _ D04 (fun hH04 => ?_)
      clear hK K
      try simp only [Act.put, List.setIfInBounds_toArray, List.set_cons_zero, List.set_cons_succ]
      refine wpAnyH_ready (rs := [2]) (by kernel_rfl) (by simp) ?_
      refine AllReadyH.cons (o := ⟨_, _, _, _, _, _⟩) rfl (fun K hK => ?_) AllReadyH.nil
      have M042 := AM.out.2 x04 T04.bel
      refine step_ows Tryd.prog _ rfl (.tmp 37) (.tmp 38) 41 rfl 54 i0 _ 4 48 Tryd.underlying41 hii hz0 hz1 hz2 rfl (by decide) K0 (.slice (some ⟨K0, 0, none⟩) 0 0) 0 [] (by first | rfl | go_simp) O04 a mm N C AM.out.1.1 (by first | rfl | go_simp) AM.out.1.2.1 M042 AM.out.1.2.2.1 AM.out.1.2.2.2.1 AM.out.1.2.2.2.2 ?_
      intro va vc x042 hg042
      have T042 := T04.step hg042.bel
      have O042 : Ow x042 K0 54 4 (.slice va N vc) N mm := by have := hg042.ow; rw [Nat.zero_add, List.nil_append] at this; exact this
      rw [Nat.zero_add]
      have k042 := k04.kept hg042 (by show (some K0 : Option Nat) ≠ _; simp)
      obtain ⟨Z042, z042⟩ : ∃ Z, x042.heap.size = Z := ⟨_, rfl⟩
      have D042 := T042.four
      refine hK.out _ _ D042 (fun hH042 => ?_)
      clear hK K
      try simp only [Act.put, List.setIfInBounds_toArray, List.set_cons_zero, List.set_cons_succ]
      refine wpAnyH_ready (rs := [5]) (by kernel_rfl) (by simp) ?_
      refine AllReadyH.cons (o := ⟨_, _, _, _, _, _⟩) rfl (fun K hK => ?_) AllReadyH.nil
      refine step_ow Tryd.prog _ rfl (.tmp 39) (.tmp 41) 41 rfl 54 i0 _ 4 48 Tryd.underlying41 hii hz0 hz1 hz2 rfl (by decide) K0 (.slice va N vc) N mm (by first | rfl | go_simp) O042 (K0 + 1) 0 1 (bare e) rfl (by first | rfl | go_simp) (bare_at AE.out.1 k042) (bare_one e) AM2.out.1 AM2.out.2 ?_
      intro gg gc x0425 hg0425
      have T0425 := T042.step hg0425.bel
      have D0425 := T0425.four
      have hwr := AQ.out x0425 gg gc T0425.bel hg0425.ow
      refine hK.out _ _ D0425 (fun hH0425 => ?_)
      clear hK K
      try simp only [Act.put, List.setIfInBounds_toArray, List.set_cons_zero, List.set_cons_succ]
      refine wpAnyH_ready (rs := [6]) (by kernel_rfl) (by simp) ?_
      refine AllReadyH.cons (o := ⟨_, _, _, _, _, _⟩) rfl (fun K hK => ?_) AllReadyH.nil
      go_simp
      go_at_call 19
      refine hwr.mono ?_
      intro e9 x9 h9
      obtain ⟨g9, n9, c9, he9, hl9, hb9, ow9, bl9⟩ := h9.ex
      subst he9
      dsimp only
      have T9 := T0425.step (bl9.mono T0425.le)
      have D9 := T9.four
      refine hK.out _ _ D9 (fun hH9 => ?_)
      clear hK K
      try simp only [Act.put, List.setIfInBounds_toArray, List.set_cons_zero, List.set_cons_succ]
      refine wpAnyH_take (i := 7) (oi := ⟨_, _, _, _, _, _⟩) (v := ?_) rfl (by kernel_rfl) (by kernel_rfl) (by kernel_rfl) (fun _ _ _ h => h) (Or.inl ⟨by rfl, ?_⟩) hH9 ?_
      rotate_left
      · (intro w9 hSw; (try dsimp only at hSw); obtain ⟨q0, q1, q2, q3⟩ := hSw; go_simp; try (with_reducible rfl))
      try simp only [Act.put, List.setIfInBounds_toArray, List.set_cons_zero, List.set_cons_succ]
      refine wpAnyH_done (by kernel_rfl) ?_ _
      (try dsimp only [Exit.then])
      have AFin : Aside ((wri (l ++ [(e, [], 0, 0)])).length = n9 ∧ n9 ≤ 300000000 ∧ Below K0 w4 x9 ∧ Cells x9 lo #[.string S, .slice none 0 0, .int .u8 0, .int .u8 0] 54 ∧ ∃ K, K0 ≤ K ∧ Ow x9 K 5 1 (.slice (some ⟨g9, 0, none⟩) n9 c9) n9 (ob (wri (l ++ [(e, [], 0, 0)])))) := ⟨hl9, hb9, T9.bel, T9.cel, _, T0425.le, ow9⟩
      clear hl9 hb9 T9 ow9 D9 hH9 bl9 h9 hwr
      go_wp2_with fail
      go_meet
      exact ⟨g9, n9, c9, rfl, AFin⟩
    refine AllReadyH.cons (o := ⟨_, _, _, _, _, _⟩) rfl (fun K hK => ?_) AllReadyH.nil
    go_simp
    obtain ⟨x4, hx4⟩ : ∃ x, w3d.alloc (.cells #[.string S, .slice none 0 0, .int .u8 0, .int .u8 0] 54) = x := ⟨_, rfl⟩
    (try rw [hx4])
    have k4 : Cells x4 K0 #[.string S, .slice none 0 0, .int .u8 0, .int .u8 0] 54 := by rw [← hx4, ← zd]; exact Cells.new _ _ 54
    have T4 := Td.alloc (.cells #[.string S, .slice none 0 0, .int .u8 0, .int .u8 0] 54)
    rw [hx4] at T4
    have z4 : x4.heap.size = K0 + 1 := by rw [← hx4]; simp [zd]
    have D4 := T4.four
    refine hK.out _ _ D4 (fun hH4 => ?_)
    clear hK K
    try simp only [Act.put, List.setIfInBounds_toArray, List.set_cons_zero, List.set_cons_succ]
    refine wpAnyH_ready (rs := [0]) (by kernel_rfl) (by simp) ?_
    refine AllReadyH.cons (o := ⟨_, _, _, _, _, _⟩) rfl (fun K hK => ?_) AllReadyH.nil
    go_simp
    obtain ⟨x40, hx40⟩ : ∃ x, x4.alloc (.cells #[] 54) = x := ⟨_, rfl⟩
    (try rw [hx40])
    have O40 : Ow x40 K0 54 4 (.slice (some ⟨(K0 + 1), 0, none⟩) 0 0) 0 [] := by rw [← hx40]; have := Ow.made54 T4.le; rwa [z4] at this
    have T40 := T4.alloc (.cells #[] 54)
    rw [hx40] at T40
    have z40 : x40.heap.size = (K0 + 1) + 1 := by rw [← hx40]; simp [z4]
    have k40 := k4.alloc (.cells #[] 54)
    rw [hx40] at k40
    have D40 := T40.four
    refine hK.out _ _ D40 (fun hH40 => ?_)
    clear hK K
    try simp only [Act.put, List.setIfInBounds_toArray, List.set_cons_zero, List.set_cons_succ]
    refine wpAnyH_ready (rs := [2]) (by kernel_rfl) (by simp) ?_
    refine AllReadyH.cons (o := ⟨_, _, _, _, _, _⟩) rfl (fun K hK => ?_) AllReadyH.nil
    have M402 := AM.out.2 x40 T40.bel
    refine step_ows Tryd.prog _ rfl (.tmp 37) (.tmp 38) 41 rfl 54 i0 _ 4 48 Tryd.underlying41 hii hz0 hz1 hz2 rfl (by decide) K0 (.slice (some ⟨(K0 + 1), 0, none⟩) 0 0) 0 [] (by first | rfl | go_simp) O40 a mm N C AM.out.1.1 (by first | rfl | go_simp) AM.out.1.2.1 M402 AM.out.1.2.2.1 AM.out.1.2.2.2.1 AM.out.1.2.2.2.2 ?_
    intro va vc x402 hg402
    have T402 := T40.step hg402.bel
    have O402 : Ow x402 K0 54 4 (.slice va N vc) N mm := by have := hg402.ow; rw [Nat.zero_add, List.nil_append] at this; exact this
    rw [Nat.zero_add]
    have k402 := k40.kept hg402 (by show (some (K0 + 1) : Option Nat) ≠ _; simp)
    obtain ⟨Z402, z402⟩ : ∃ Z, x402.heap.size = Z := ⟨_, rfl⟩
    have D402 := T402.four
    refine hK.out _ _ D402 (fun hH402 => ?_)
    clear hK K
    try simp only [Act.put, List.setIfInBounds_toArray, List.set_cons_zero, List.set_cons_succ]
    refine wpAnyH_ready (rs := [5]) (by kernel_rfl) (by simp) ?_
    refine AllReadyH.cons (o := ⟨_, _, _, _, _, _⟩) rfl (fun K hK => ?_) AllReadyH.nil
    refine step_ow Tryd.prog _ rfl (.tmp 39) (.tmp 41) 41 rfl 54 i0 _ 4 48 Tryd.underlying41 hii hz0 hz1 hz2 rfl (by decide) K0 (.slice va N vc) N mm (by first | rfl | go_simp) O402 K0 0 1 (bare e) rfl (by first | rfl | go_simp) (bare_at AE.out.1 k402) (bare_one e) AM2.out.1 AM2.out.2 ?_
    intro gg gc x4025 hg4025
    have T4025 := T402.step hg4025.bel
    have D4025 := T4025.four
    have hwr := AQ.out x4025 gg gc T4025.bel hg4025.ow
    refine hK.out _ _ D4025 (fun hH4025 => ?_)
    clear hK K
    try simp only [Act.put, List.setIfInBounds_toArray, List.set_cons_zero, List.set_cons_succ]
    refine wpAnyH_ready (rs := [6]) (by kernel_rfl) (by simp) ?_
    refine AllReadyH.cons (o := ⟨_, _, _, _, _, _⟩) rfl (fun K hK => ?_) AllReadyH.nil
    go_simp
    go_at_call 19
    refine hwr.mono ?_
    intro e9 x9 h9
    obtain ⟨g9, n9, c9, he9, hl9, hb9, ow9, bl9⟩ := h9.ex
    subst he9
    dsimp only
    have T9 := T4025.step (bl9.mono T4025.le)
    have D9 := T9.four
    refine hK.out _ _ D9 (fun hH9 => ?_)
    clear hK K
    try simp only [Act.put, List.setIfInBounds_toArray, List.set_cons_zero, List.set_cons_succ]
    refine wpAnyH_take (i := 7) (oi := ⟨_, _, _, _, _, _⟩) (v := ?_) rfl (by kernel_rfl) (by kernel_rfl) (by kernel_rfl) (fun _ _ _ h => h) (Or.inl ⟨by rfl, ?_⟩) hH9 ?_
    rotate_left
    · (intro w9 hSw; (try dsimp only at hSw); obtain ⟨q0, q1, q2, q3⟩ := hSw; go_simp; try (with_reducible rfl))
    try simp only [Act.put, List.setIfInBounds_toArray, List.set_cons_zero, List.set_cons_succ]
    refine wpAnyH_done (by kernel_rfl) ?_ _
    (try dsimp only [Exit.then])
    have AFin : Aside ((wri (l ++ [(e, [], 0, 0)])).length = n9 ∧ n9 ≤ 300000000 ∧ Below K0 w4 x9 ∧ Cells x9 lo #[.string S, .slice none 0 0, .int .u8 0, .int .u8 0] 54 ∧ ∃ K, K0 ≤ K ∧ Ow x9 K 5 1 (.slice (some ⟨g9, 0, none⟩) n9 c9) n9 (ob (wri (l ++ [(e, [], 0, 0)])))) := ⟨hl9, hb9, T9.bel, T9.cel, _, T4025.le, ow9⟩
    clear hl9 hb9 T9 ow9 D9 hH9 bl9 h9 hwr
    go_wp2_with fail
    go_meet
    exact ⟨g9, n9, c9, rfl, AFin⟩
  case rest =>
  obtain ⟨g9, n9, c9, rfl, AC⟩ := hcut
  obtain ⟨hl9, hb9, b9, cel9, K, hK, ow9⟩ := AC.out
  have hnl : (nmd e).length ≤ 100 := by rw [AN.out.1, AN.out.2]; exact AB.out.2
  have hwl := wri_last (l := l) hnl
  rw [AN.out.1] at hwl
  obtain ⟨hd, hhd⟩ : ∃ hd, hdr nm 0 48 = hd := ⟨_, rfl⟩
  rw [hhd] at hwl
  have hdl : hd.length = 512 := by rw [← hhd, hdr_len]
  obtain ⟨m, hm⟩ : ∃ m, (wal l).length = m := ⟨_, rfl⟩
  have hn9 : n9 = m + 1536 := by rw [← hl9, hwl, List.length_append, List.length_append, List.length_replicate, hdl, hm]
  obtain ⟨k, hk⟩ : ∃ k, at_ % 100 = k := ⟨_, rfl⟩
  have hk1 : k < 100 := by omega
  obtain ⟨p, hp⟩ : ∃ p, m + k = p := ⟨_, rfl⟩
  obtain ⟨x, hx⟩ : ∃ x, hd[k]? = some x := ⟨_, List.getElem?_eq_getElem (by omega)⟩
  have hno : Oct nm := by rw [← AN.out.1]; exact nmd_oct AE.out.2.1
  have hxo : x < 256 := by have := hdr_oct (size := 0) hno (show 48 < 256 by decide); rw [hhd] at this; exact this x (List.mem_of_getElem? hx)
  obtain ⟨y, hy⟩ : ∃ y, (x + by_) % 256 = y := ⟨_, rfl⟩
  have hyx : y % 256 ≠ x % 256 := by have := AB.out.1; omega
  have hyo : y < 256 := by omega
  have hzx : (wri (l ++ [(e, [], 0, 0)]))[p]? = some x := by
    rw [hwl, List.getElem?_append_right (by omega), List.getElem?_append_left (by omega), hm, show p - m = k by omega]
    exact hx
  obtain ⟨a9, c92, hv, _, h0 | ⟨g, hg, hglo, ⟨cg, hcg⟩, hcx, hfr⟩, _⟩ := ow9.shape
  · omega
  cases hv
  cases hg
  have cz : wc.cell? ⟨g9, p, none⟩ = some (.int .u8 (x : Int)) := hcx p _ (by rw [ob_get, hzx]; rfl)
  have fz : wc.frozen? ⟨g9, p, none⟩ = false := hfr p
  obtain ⟨w6, hw6⟩ : ∃ w6, wc.setCell ⟨g9, p, none⟩ (.int .u8 (y : Int)) = w6 := ⟨_, rfl⟩
  have o6 : Only g9 wc w6 := by rw [← hw6]; exact (Only.refl g9 wc).setCell p _
  have hz6 : (wri (l ++ [(e, [], 0, 0)])).set p y = wal l ++ (hd.set k y ++ List.replicate 1024 0) := by
    rw [hwl, List.set_append, if_neg (by omega), List.set_append, if_pos (by omega), hm, show p - m = k by omega]
  have ho6 : Ow w6 K 5 1 (.slice (some ⟨g9, 0, none⟩) n9 c9) n9 (ob (wal l ++ (hd.set k y ++ List.replicate 1024 0))) := by
    rw [← hw6, ← hz6, ← tob_set]
    exact Ow.set_at (a := none) ow9 _ (by omega) rfl
  have hZl : (wal l ++ (hd.set k y ++ List.replicate 1024 0)).length = n9 := by rw [← hz6, List.length_set]; exact hl9
  have hZo : Oct (wal l ++ (hd.set k y ++ List.replicate 1024 0)) := by
    rw [← hz6, hwl]
    exact ((wal_oct l (A.out.1.eok AS.out)).app ((by rw [← hhd]; exact hdr_oct hno (by decide) : Oct hd).app fun z hz => by rw [(List.mem_replicate.1 hz).2]; decide)).set _ hyo
  obtain ⟨sx, Tx, hrx, hwx, hpx⟩ := turned_run (A.out.1.eok AS.out) (b := hd.set k y) (by rw [List.length_set]; exact hdl) (by rw [← hhd]; exact turned_some hk1) (by rw [← hhd]; exact hdr_turned hno (by decide) hk1 (by rw [hhd]; exact hx) hyx) (List.replicate 1024 0)
  have b36 : Below K0 w4 w6 := b9.trans (o6.below (by omega))
  have b46 : Below w4.heap.size w4 w6 := by
    have hk0 : w4.heap.size ≤ K0 := by have := Td.bel; have h1 := zd; have h2 : w3d.heap.size = w4.heap.size := (by rw [← hw3d]; rfl); omega
    exact b36.mono hk0
  have bl6 : Below lo w w6 := A4.out.1.trans (b46.mono (by have := A4.out.2.2; omega))
  have li6 : Lies w6 (some ⟨g9, 0, none⟩) (wal l ++ (hd.set k y ++ List.replicate 1024 0)) := by
    obtain ⟨a2, c2, hv, _, _, hl, _⟩ := ho6.lies
    cases hv
    exact hl
  have hwh := whole_l (b := []) (C := c9) (A.out.2.1 w6 bl6) li6 hZl (by omega) hZo hrx (Or.inl (by rw [hwx]; decide)) hpx (y := 44) (by unfold zfin; rw [if_pos (by rw [hwx]; decide), hwx])
  have A6 : Aside (Below w4.heap.size w4 w6 ∧ Below lo w w6 ∧ lo ≤ w6.heap.size ∧ Below w.heap.size w w6) := ⟨b46, bl6, by have := bl6.size; have := A.out.2.2.1; omega, by rw [A.out.2.2.1]; exact bl6⟩
  have r1 : (n9 : Int) - 1536 = (m : Int) := by omega
  have r2 : (at_ : Int) % 100 = (k : Int) := by omega
  have r3 : Int.tmod (at_ : Int) 100 = (k : Int) := by rw [Int.tmod_eq_emod_of_nonneg (by omega)]; omega
  have r4 : (m : Int) + (k : Int) = (p : Int) := by omega
  have r5 : IntKind.u8.wrap ((x : Int) + (by_ : Int)) = (y : Int) := by rw [tw_u8]; omega
  have bp : (p : Int) < (n9 : Int) := by omega
  have bpn : p < n9 := by omega
  have bn : (n9 : Int) ≤ 300000000 := by omega
  have bn2 : (1536 : Int) ≤ (n9 : Int) := by omega
  have bk : (k : Int) < 100 := by omega
  have htd := A.out.1.told A6.out.2.2.2 AS.out C
  clear hl9 hb9 b9 cel9 hK ow9 hnl hwl hhd hdl hm hn9 hk hk1 hp hx hno hxo hy hyx hyo hzx hglo hcg hcx hfr o6 hz6 ho6 hZl hZo hrx hwx hpx b36 b46 bl6 li6 AC hw3d Td zd Dd hK0 hii hz0 hz1 hz2 AQ AM AM2 htd
  go_upto_region 7 with fail
  (try rw [hw6])
  clear hw6 cz fz r1 r2 r3 r4 r5 bp bpn bn bn2 bk
  go_upto_region 8 with (go_at_call 18; refine hwh.mono ?_; intro e7 w7 h7; obtain ⟨an, nn, cn, al, nl, cl, he7, hn7, hm7, nl7, rl7, b7⟩ := h7.ex; subst he7)
  have b07 : Below w.heap.size w w7 := A6.out.2.2.2.trans (b7.mono A6.out.2.2.2.size)
  have htd := A.out.1.told b07 AS.out C
  have A7 : Aside (Below w.heap.size w w7 ∧ (tdn l).length = nn ∧ (tdd l).length = nl ∧ Nl w7 an (tdn l) ∧ Rl w7 al (tdd l)) := ⟨b07, hn7, hm7, nl7, rl7⟩
  clear hwh h7 hn7 hm7 nl7 rl7 b7 b07
  go_upto_region 9 with (go_at_call 20; refine htd.mono ?_; intro e8 w8 h8; obtain ⟨bn, mm, dn, bl_, dl, he8, hn8, hm8, nl8, rl8, b8⟩ := h8.ex; subst he8)
  have a7 := A7.out
  obtain rfl : nn = mm := by rw [← hn8]; exact a7.2.1.symm
  obtain rfl : nl = nn := by rw [← hm8]; exact a7.2.2.1.symm
  have hst := strings_c w8 an bn (tdn l) nl cn dn hn8 (by have := tdn_few A.out.1 AS.out; omega) (a7.2.2.2.1.below b8) nl8
  have hrw := fun j => rows_c (w8.drewN j) al bl_ (tdd l) nl cl dl hm8 (by have := tdn_few A.out.1 AS.out; omega) ((a7.2.2.2.2.below b8).drewN j) (rl8.drewN j) (tdd_oct A.out.1)
  have A8 : Aside (Below lo w w8 ∧ lo ≤ w8.heap.size) := ⟨by rw [← A.out.2.2.1]; exact a7.1.trans (b8.mono a7.1.size), by have := b8.size; have := a7.1.size; have := A.out.2.2.1; omega⟩
  have AR : Aside _ := hrw
  clear hrw htd h8 hn8 hm8 nl8 rl8 b8 a7
  go_wp2_with (first
    | (go_at_call 21; refine hst.mono ?_; rintro e6 w6 ⟨rfl, m6, hm6⟩; have hr6 := AR.out m6; rw [← hm6] at hr6; have bl6 : Below lo w w6 := (by rw [hm6]; exact Below.drewN2 A8.out.1 _); clear hm6)
    | (go_at_call 22; refine hr6.mono ?_; rintro e7 w7 ⟨rfl, m7, hm7⟩; have bl7 : Below lo w w7 := (by rw [hm7]; exact Below.drewN2 bl6 _); clear hm7; have ha := AW.out w7 bl7; have hs7 : lo ≤ w7.heap.size := (by have := bl7.size; have := A.out.2.2.1; omega))
    | (go_at_call 16; refine ha.mono ?_; rintro e8 w8 ⟨rfl, b8⟩))
  first | go_ret | go_ret2
  exact ⟨rfl, bl7.trans (b8.mono hs7)⟩
end Go.Proofs.YtcmmjbkgoafbnaaDoor

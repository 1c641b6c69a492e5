/-
  PatternsTurned, behind the opening of its arguments: the call answers true, and what lay in memory is as it was.
  Conditions: the library's table holds what its text lays there; the patterns and the text lie in memory.
-/
import Derived.Test.YtbepbjbbhenphabDoorTurnedB
import Derived.Test.YtbepbjbbhenphabDoorAwake
import Derived.Test.YtbepbjbbhenphabDoorRefCheck
import Derived.Deep.RegionHeld3
import Derived.Deep.RegionLaw
import Derived.Deep.CutBlock
import Derived.Deep.DeepCutAuto
import Derived.BigQuiet
namespace Go.Proofs.YtbepbjbbhenphabDoor
open Go.RowKit
set_option linter.unusedVariables false
set_option maxRecDepth 100000 in
set_option maxHeartbeats 16000000 in
theorem turned_core (w : World) (hT : Tab w) (a : Option Addr) (ps : List (List Nat)) (L C : Nat) (hp : Rows2 w a ps) (hL : ps.length = L) (hLC : L ≤ C) (hC : C * 24 < 140737488355328) (ho : Octs ps) (hz : a = none → C = 0)
    (ta : Option Addr) (t : List Nat) (TL TC : Nat) (ht : Lies w ta t) (hTL : t.length = TL) (hTC : TL ≤ TC) (hTb : TC < 140737488355328) (hto : Oct t) (bz : Nat) (hbz : bz < 256) :
    Calls Tryd.prog 3 #[.slice a L C, .slice ta TL TC, .int .u8 (bz : Int)] w fun e w' => e = .returned (.bool true) ∧ Below w.heap.size w w' := by
  obtain ⟨H, hH⟩ : ∃ H, w.heap.size = H := ⟨_, rfl⟩
  have AB : Aside (Tab w ∧ Rows2 w a ps ∧ ps.length = L ∧ L ≤ C ∧ C * 24 < 140737488355328 ∧ Octs ps ∧ (a = none → C = 0) ∧ w.heap.size = H) := ⟨hT, hp, hL, hLC, hC, ho, hz, hH⟩
  have AT : Aside (Lies w ta t ∧ t.length = TL ∧ TL ≤ TC ∧ TC < 140737488355328 ∧ Oct t ∧ bz < 256) := ⟨ht, hTL, hTC, hTb, hto, hbz⟩
  by_cases hL0 : L = 0
  · subst hL0
    have haw := awake_c w hT
    rw [hH] at haw ⊢
    clear hT hp hL hLC hC ho hz hH ht hTL hTC hTb hto hbz
    go_enter Tryd.func3, Tryd.ntmps3
    go_wp2_with (go_at_call 4; refine haw.mono ?_; rintro e5 w5 ⟨rfl, hb5⟩)
    go_ret
    exact ⟨rfl, hb5⟩
  have hLn : ¬ (L : Int) = 0 := by omega
  have hLe : ((L : Int) == 0) = false := by rw [beq_eq_false_iff_ne]; exact hLn
  rcases hp with e | ⟨pb, po, rfl, hpc⟩
  · rw [e] at hL; simp at hL; omega
  obtain ⟨k, hk⟩ : ∃ k, bz % L = k := ⟨_, rfl⟩
  have hkL : k < L := by rw [← hk]; exact Nat.mod_lt _ (by omega)
  have hrem : Int.tmod (bz : Int) (L : Int) = (k : Int) := by rw [← hk, Int.ofNat_tmod]
  have hk1 : (k : Int) ≤ (C : Int) := by omega
  have hk2 : (k : Int) ≤ (L : Int) := by omega
  have hk0 : (0 : Int) ≤ (k : Int) := by omega
  have sl1 : ∀ W : World, (Instr.slice 22 (.slice (some ⟨pb, po, none⟩) L C) (some (.int .i64 (k : Int))) none none).run Tryd.prog W = .ok (.slice (some ⟨pb, po + k, none⟩) (L - k) (C - k)) W := by
    intro W
    have hCk : ¬ C = k := by omega
    have hCk2 : ¬ (C : Int) = (k : Int) := by omega
    clear hrem hk hkL hLe hLn hpc AB AT hL hLC hC ht hTL hTC hTb hto hbz ho hz hH hT hL0
    go_simp
  have sl2 : ∀ W : World, (Instr.slice 22 (.slice (some ⟨pb, po, none⟩) L C) none (some (.int .i64 (k : Int))) none).run Tryd.prog W = .ok (.slice (some ⟨pb, po, none⟩) k C) W := by
    intro W
    clear hrem hk hkL hLe hLn hpc AB AT hL hLC hC ht hTL hTC hTb hto hbz ho hz hH hT hL0
    go_simp
  have AK : Aside (k < L ∧ bz % L = k) := ⟨hkL, hk⟩
  rw [hH]
  clear hpc hL hLC hC ht hTL hTC hTb hto ho hz hH hT hL0 hk hkL hk1 hk2 hk0
  have hbz2 : (bz : Int) < 256 := by omega
  clear hbz
  go_enter Tryd.func3, Tryd.ntmps3
  go_upto_region 4 with fail
  clear hrem hLe hbz2
  go_cut [8] (fun s8 wc => Aside (∃ a3 C3, s8 = .slice a3 L C3 ∧ L ≤ C3 ∧ Rows2 wc a3 (turn k ps) ∧ (a3 = none → C3 = 0) ∧ Below w.heap.size w wc))
  case first =>
    have hrd := AB.out.2.1.drop k
    have hrt := AB.out.2.1.take k
    have cop1 := fun (W : World) (hW : Below w.heap.size w W) => copy2_c (some ⟨pb, po + k, none⟩) (ps.drop k) (L - k) (C - k) W (hrd.below hW) (by rw [List.length_drop, AB.out.2.2.1]) (by have := AB.out; omega) (by have := AB.out; omega)
    have cop2 := fun (W : World) (hW : Below w.heap.size w W) => copy2_c (some ⟨pb, po, none⟩) (ps.take k) k C W (hrt.below hW) (by rw [List.length_take]; have := AB.out; have := AK.out; omega) (by have := AB.out; have := AK.out; omega) (by have := AB.out; have := AK.out; omega)
    have CP : Aside ((∀ W, Below w.heap.size w W → _) ∧ (∀ W, Below w.heap.size w W → _)) := ⟨cop1, cop2⟩
    clear cop1 cop2 hrd hrt
    obtain ⟨LK, hLK⟩ : ∃ LK, L - k = LK := ⟨_, rfl⟩
    have AL : Aside (L - k = LK ∧ (ps.drop k).length = LK ∧ (ps.take k).length = k) := ⟨hLK, by rw [List.length_drop, AB.out.2.2.1]; exact hLK, by rw [List.length_take]; have := AB.out; have := AK.out; omega⟩
    rw [hLK] at sl1
    have CP1 : Aside (∀ W, Below w.heap.size w W → Calls Tryd.prog 5 #[.slice (some ⟨pb, po + k, none⟩) LK (C - k)] W fun e w' => ∃ v, e = .returned v ∧ Cop2 W w' v (ps.drop k)) := by rw [← hLK]; exact CP.out.1
    clear hLK
    refine wp_region_noPanic ?_
    refine wp_region_held_drew (S := fun w' => Below w.heap.size w w') (by kernel_rfl) ⟨rfl, rfl, rfl, Nat.le_refl _, fun _ _ => rfl⟩ (fun hHeld => ?_)
    refine wpAnyH_take (i := 0) (oi := ⟨_, _, _, _, _, _⟩) (v := ?_) rfl (by kernel_rfl) (by kernel_rfl) (by kernel_rfl) (fun _ _ _ h => h) (Or.inl ⟨by rfl, ?_⟩) hHeld ?_
    rotate_left
    · (intro w9 hSw; (try dsimp only at hSw); go_simp; try (with_reducible rfl))
    try simp only [Act.put, List.setIfInBounds_toArray, List.set_cons_zero, List.set_cons_succ]
    refine wpAnyH_take (i := 1) (oi := ⟨_, _, _, _, _, _⟩) (v := ?_) rfl (by kernel_rfl) (by kernel_rfl) (by kernel_rfl) (fun _ _ _ h => h) (Or.inl ⟨by rfl, ?_⟩) hHeld ?_
    rotate_left
    · (intro w9 hSw; (try dsimp only at hSw); go_simp; try (with_reducible rfl))
    try simp only [Act.put, List.setIfInBounds_toArray, List.set_cons_zero, List.set_cons_succ]
    refine wpAnyH_take (i := 2) (oi := ⟨_, _, _, _, _, _⟩) (v := ?_) rfl (by kernel_rfl) (by kernel_rfl) (by kernel_rfl) (fun _ _ _ h => h) (Or.inl ⟨by rfl, ?_⟩) hHeld ?_
    rotate_left
    · (intro w9 hSw; (try dsimp only at hSw); go_simp; try (with_reducible rfl))
    try simp only [Act.put, List.setIfInBounds_toArray, List.set_cons_zero, List.set_cons_succ]
    refine wpAnyH_take (i := 4) (oi := ⟨_, _, _, _, _, _⟩) (v := ?_) rfl (by kernel_rfl) (by kernel_rfl) (by kernel_rfl) (fun _ _ _ h => h) (Or.inl ⟨by rfl, ?_⟩) hHeld ?_
    rotate_left
    · (intro w9 hSw; (try dsimp only at hSw); go_simp; try (with_reducible rfl))
    try simp only [Act.put, List.setIfInBounds_toArray, List.set_cons_zero, List.set_cons_succ]
    refine wpAnyH_take (i := 5) (oi := ⟨_, _, _, _, _, _⟩) (v := ?_) rfl (by kernel_rfl) (by kernel_rfl) (by kernel_rfl) (fun _ _ _ h => h) (Or.inl ⟨by rfl, ?_⟩) hHeld ?_
    rotate_left
    · (intro w9 hSw; (try dsimp only at hSw); go_simp; try (with_reducible rfl))
    try simp only [Act.put, List.setIfInBounds_toArray, List.set_cons_zero, List.set_cons_succ]
    refine wpAnyH_take (i := 6) (oi := ⟨_, _, _, _, _, _⟩) (v := ?_) rfl (by kernel_rfl) (by kernel_rfl) (by kernel_rfl) (fun _ _ _ h => h) (Or.inl ⟨by rfl, ?_⟩) hHeld ?_
    rotate_left
    · (intro w9 hSw; (try dsimp only at hSw); go_simp; try (with_reducible rfl))
    try simp only [Act.put, List.setIfInBounds_toArray, List.set_cons_zero, List.set_cons_succ]
    by_cases hk0 : k = 0
    · subst hk0
      have cnil := fun (W : World) => copy_nil (some ⟨pb, po, none⟩) C W
      have CP2 : Aside (∀ W, Below w.heap.size w W → Calls Tryd.prog 5 #[.slice (some ⟨pb, po, none⟩) LK C] W fun e w' => ∃ v, e = .returned v ∧ Cop2 W w' v (ps.drop 0)) := CP1.out
      refine wpAnyH_ready (rs := [3]) (by kernel_rfl) (by simp) ?_
      refine AllReadyH.cons (o := ⟨_, _, _, _, _, _⟩) rfl (fun K hK => ?_) AllReadyH.nil
      go_simp
      with_reducible refine (CP2.out _ hHeld).mono ?_
      rintro e5 w5 ⟨v5, rfl, hc5⟩
      try go_wp2_with fail
      have b5 : Below w.heap.size w w5 := hHeld.trans (hc5.bel.mono hHeld.size)
      refine hK.out _ _ b5 (fun hHeldA => ?_)
      clear hK K
      try simp only [Act.put, List.setIfInBounds_toArray, List.set_cons_zero, List.set_cons_succ]
      refine wpAnyH_ready (rs := [7]) (by kernel_rfl) (by simp) ?_
      refine AllReadyH.cons (o := ⟨_, _, _, _, _, _⟩) rfl (fun K hK => ?_) AllReadyH.nil
      go_simp
      with_reducible refine (cnil _).mono ?_
      rintro e6 w6 ⟨rfl, rfl⟩
      try go_wp2_with fail
      refine hK.out _ _ b5 (fun hHeldB => ?_)
      clear hK K
      try simp only [Act.put, List.setIfInBounds_toArray, List.set_cons_zero, List.set_cons_succ]
      have e0 : (ps.drop 0).length = L := by rw [List.length_drop, AB.out.2.2.1]; omega
      have eK : LK = L := by have := AL.out; omega
      subst eK
      obtain ⟨g1, C1, vs1, hv5, _, _, hl1, _, how1, _, _, _⟩ := hc5.row (by have := AK.out; omega)
      obtain ⟨a5, C5, hv5', _, hr5, hz5⟩ := hc5.cop.rows
      rw [hv5] at hv5'
      cases hv5'
      rw [e0] at hv5 hl1 how1
      subst hv5
      obtain ⟨i0, hi0, hz0, hz1, hz2⟩ := info_parts info36
      refine wpAnyH_ready (rs := [8]) (by kernel_rfl) (by simp) ?_
      refine AllReadyH.cons (o := ⟨_, _, _, _, _, _⟩) rfl (fun K hK => ?_) AllReadyH.nil
      refine step_append_none (by rfl) _ _ _ (by rfl) _ 23 i0 1 Tryd.underlying22 hi0 _ _ vs1 (by rfl) how1 (by rfl) ?_
      refine hK.out _ _ b5 (fun hHeldC => ?_)
      clear hK K
      try simp only [Act.put, List.setIfInBounds_toArray, List.set_cons_zero, List.set_cons_succ]
      refine wpAnyH_ready (rs := [9]) (by kernel_rfl) (by simp) ?_
      refine AllReadyH.cons (o := ⟨_, _, _, _, _, _⟩) rfl (fun K hK => ?_) AllReadyH.nil
      go_simp
      refine hK.out _ _ b5 (fun hHeldD => ?_)
      clear hK K
      try simp only [Act.put, List.setIfInBounds_toArray, List.set_cons_zero, List.set_cons_succ]
      refine wpAnyH_done (by kernel_rfl) ?_ _
      refine NoPanic.normal ?_
      have hrt : Rows2 w5 (some ⟨g1, 0, none⟩) (turn 0 ps) := by unfold turn; rw [List.take_zero, List.append_nil]; exact hr5
      clear hHeld hHeldA hHeldB hHeldC hHeldD
      go_wp2_with fail
      go_meet
      exact ⟨_, _, rfl, hl1, hrt, (fun h => by cases h), b5⟩
    · refine wpAnyH_ready (rs := [3]) (by kernel_rfl) (by simp) ?_
      refine AllReadyH.cons (o := ⟨_, _, _, _, _, _⟩) rfl (fun K hK => ?_) AllReadyH.nil
      go_simp
      with_reducible refine (CP1.out _ hHeld).mono ?_
      rintro e5 w5 ⟨v5, rfl, hc5⟩
      try go_wp2_with fail
      have b5 : Below w.heap.size w w5 := hHeld.trans (hc5.bel.mono hHeld.size)
      refine hK.out _ _ b5 (fun hHeldA => ?_)
      clear hK K
      try simp only [Act.put, List.setIfInBounds_toArray, List.set_cons_zero, List.set_cons_succ]
      refine wpAnyH_ready (rs := [7]) (by kernel_rfl) (by simp) ?_
      refine AllReadyH.cons (o := ⟨_, _, _, _, _, _⟩) rfl (fun K hK => ?_) AllReadyH.nil
      go_simp
      with_reducible refine (CP.out.2 _ b5).mono ?_
      rintro e6 w6 ⟨v6, rfl, hc6⟩
      try go_wp2_with fail
      have b6 : Below w.heap.size w w6 := b5.trans (hc6.bel.mono b5.size)
      refine hK.out _ _ b6 (fun hHeldB => ?_)
      clear hK K
      try simp only [Act.put, List.setIfInBounds_toArray, List.set_cons_zero, List.set_cons_succ]
      have hkp : 0 < k := by omega
      have eD := AL.out.2.1
      have eT := AL.out.2.2
      obtain ⟨g1, C1, vs1, hv5, hg1w, hg1, hl1, hvl1, how1, _, _, hrw1⟩ := hc5.row (by have := AL.out; have := AK.out; omega)
      obtain ⟨g2, C2, vs2, hv6, _, _, _, hvl2, how2, hcell2, hone2, hrw2⟩ := hc6.row (by omega)
      rw [eD] at hv5 how1
      rw [eT] at hv6
      subst hv5
      subst hv6
      have how1' := owns_below how1 hc6.bel
      have hnews : ∀ j u, vs2[j]? = some u → w6.cell? ((⟨g2, 0, none⟩ : Addr).add j) = some u := by
        intro j u hj
        rw [add_plain]; exact hcell2 j u hj
      have hvl2' : vs2.length = k * 1 := by omega
      obtain ⟨i0, hi0, hz0, hz1, hz2⟩ := info_parts info36
      have hszw : w.heap.size ≤ w6.heap.size := b6.size
      refine wpAnyH_ready (rs := [8]) (by kernel_rfl) (by simp) ?_
      refine AllReadyH.cons (o := ⟨_, _, _, _, _, _⟩) rfl (fun K hK => ?_) AllReadyH.nil
      refine step_append_lies _ (by rfl) _ _ _ (by rfl) w.heap.size 23 i0 (.slice none 0 0) 1 24 Tryd.underlying22 hi0 hz0 hz1 hz2 rfl (by decide) (.slice (some ⟨g1, 0, none⟩) LK C1) LK vs1 (by rfl) how1' ⟨g2, 0, none⟩ k C2 vs2 (by rfl) hvl2' hnews hone2 hkp (by unfold maxLen; have := AB.out; have := AL.out; have := AK.out; omega) (by have := AB.out; have := AL.out; have := AK.out; omega) hszw _ rfl ?_
      intro gg cap' w7 hown7 hgrow hat hlt7
      have b7 : Below w.heap.size w w7 := b6.trans ((Below.refl w.heap.size w6).grown hgrow hszw (fun j hj => by cases hj; exact hg1w))
      refine hK.out _ _ b7 (fun hHeldC => ?_)
      clear hK K
      try simp only [Act.put, List.setIfInBounds_toArray, List.set_cons_zero, List.set_cons_succ]
      refine wpAnyH_ready (rs := [9]) (by kernel_rfl) (by simp) ?_
      refine AllReadyH.cons (o := ⟨_, _, _, _, _, _⟩) rfl (fun K hK => ?_) AllReadyH.nil
      go_simp
      refine hK.out _ _ b7 (fun hHeldD => ?_)
      clear hK K
      try simp only [Act.put, List.setIfInBounds_toArray, List.set_cons_zero, List.set_cons_succ]
      refine wpAnyH_done (by kernel_rfl) ?_ _
      refine NoPanic.normal ?_
      have eL : LK + k = L := by have := AL.out; have := AK.out; omega
      have hrt : Rows2 w7 (some ⟨gg, 0, none⟩) (turn k ps) := by
        unfold turn
        refine rows_two (w0 := w.drew) (w1 := w5) (w2 := w6) (wD := w6) (g1 := g1) (vs1 := vs1) (vs2 := vs2) (cap := cap') (C1 := 0) (v1 := .slice none 0 0) (v2 := .slice none 0 0) hrw1 (fun i l hl => ?_) hvl1 hg1 hc6.bel rfl hgrow (by rw [eD, eT]; exact hown7)
        obtain ⟨ai, ci, k1, k2, k3, k4, k5, k6⟩ := hrw2 i l hl
        exact ⟨ai, ci, k1, k2, k3, k4, k5, fun h0 b o s e => Or.inr (k6 h0 b o s e).2, fun h0 b o s e => (k6 h0 b o s e).2⟩
      have hcapL : L ≤ cap' := by
        rcases hown7.2 with ⟨e, _⟩ | ⟨g', c, cur, e, _, _, hc, _⟩
        · cases e
        · cases e; omega
      rw [eL]
      clear hHeld hHeldA hHeldB hHeldC hHeldD
      go_wp2_with fail
      go_meet
      exact ⟨_, _, rfl, hcapL, hrt, (fun h => by cases h), b7⟩
  case rest =>
    obtain ⟨a3, C3, rfl, hLC3, hr3, hz3, hb3⟩ := hcut.out
    have cop := copy_c (some ⟨pb, po, none⟩) ps L C wc (AB.out.2.1.below hb3) AB.out.2.2.1 AB.out.2.2.2.1 (by have := AB.out; omega)
    have A3 : Aside (L ≤ C3 ∧ Rows2 wc a3 (turn k ps) ∧ (a3 = none → C3 = 0) ∧ Below w.heap.size w wc ∧ (turn k ps).length = L ∧ Octs (turn k ps)) := ⟨hLC3, hr3, hz3, hb3, by rw [turn_len k ps (by have := AB.out; have := AK.out; omega)]; exact AB.out.2.2.1, fun p hp => AB.out.2.2.2.2.2.1 p (turn_mem.1 hp)⟩
    clear hcut sl1 sl2 hLC3 hr3 hz3 hb3
    go_wp2_with fail
    refine cop.mono ?_
    rintro e4 w4 ⟨v4, rfl, hc4⟩
    obtain ⟨a4, C4, hv4, hL4, hr4, hz4⟩ := hc4.rows
    rw [AB.out.2.2.1] at hv4 hL4
    subst hv4
    have A4 : Aside (Below wc.heap.size wc w4) := hc4.bel
    have hkl : k ≤ ps.length := by have := AB.out; have := AK.out; omega
    by_cases hck : chk ps = 0
    · have hck2 : chk (turn k ps) = 0 := (chk_turn hkl).2 hck
      have hbuild := build_ok a4 ps L C4 w4 hr4 AB.out.2.2.1 hL4 (by have := AB.out; omega) AB.out.2.2.2.2.2.1 hz4 hck
      have AG : Aside (Good ps ∧ Good (turn k ps) ∧ chk (turn k ps) = 0) := ⟨chk_good hck, chk_good hck2, hck2⟩
      clear cop hc4 hr4 hz4 hL4 hck hck2 hkl
      go_upto_region 6 with (go_at_call 6; refine hbuild.mono ?_; rintro e5 w5 ⟨A, rfl, nd, G, hm5, hf5, hb5⟩)
      have bc5 : Below wc.heap.size wc w5 := A4.out.trans (hb5.mono A4.out.size)
      have hbuild2 := build_ok a3 (turn k ps) L C3 w5 (A3.out.2.1.below bc5) A3.out.2.2.2.2.1 A3.out.1 (by have := AB.out; omega) A3.out.2.2.2.2.2 A3.out.2.2.1 AG.out.2.2
      obtain ⟨X, hX⟩ : ∃ X, longest ps = X := ⟨_, rfl⟩
      rw [longest_turn, hX] at hbuild2
      rw [hX] at hm5
      have A5 : Aside ((∃ base, Mach w5 base A L X nd G) ∧ Full ps nd G ∧ Below wc.heap.size wc w5) := ⟨⟨_, hm5⟩, hf5, bc5⟩
      clear hbuild hm5 hf5 hb5 bc5 hX
      go_upto_region 9 with (go_at_call 6; refine hbuild2.mono ?_; rintro e6 w6 ⟨B, rfl, nd2, G2, hm6, hf6, hb6⟩)
      obtain ⟨base, hm5⟩ := A5.out.1
      obtain ⟨base2, hbase2⟩ : ∃ base2, base2 = w5.heap.size := ⟨_, rfl⟩
      rw [← hbase2] at hm6
      obtain ⟨N, hN⟩ : ∃ N, (words ps).length = N := ⟨_, rfl⟩
      have bw6 : Below w.heap.size w w6 := A3.out.2.2.2.1.trans ((A5.out.2.2.trans (hb6.mono A5.out.2.2.size)).mono A3.out.2.2.2.1.size)
      have A6 : Aside (Mach w6 base A L X nd G ∧ Full ps nd G ∧ Mach w6 base2 B L X nd2 G2 ∧ Full (turn k ps) nd2 G2 ∧ Below w.heap.size w w6 ∧ Tab w6 ∧ nd.length = N ∧ nd2.length = N ∧ H ≤ w6.heap.size) := ⟨hm5.below hb6, A5.out.2.1, hm6, hf6, bw6, AB.out.1.below bw6, by rw [A5.out.2.1.laid.len]; exact hN, by rw [hf6.laid.len, words_many]; exact hN, by have := bw6.size; have := AB.out; omega⟩
      have stA := states_c w6 A6.out.1 N A6.out.2.2.2.2.2.2.1
      have stB := states_c w6 A6.out.2.2.1 N A6.out.2.2.2.2.2.2.2.1
      have loA := longest_c w6 A6.out.1
      have loB := longest_c w6 A6.out.2.2.1
      have n1 : ((N : Int) != (N : Int)) = false := by simp
      have n2 : ((X : Int) != (X : Int)) = false := by simp
      clear hbuild2 hm6 hf6 hb6 hm5 hbase2 hN bw6 A5
      go_upto_region 12 with (first
        | (go_at_call 7; with_reducible refine stA.mono ?_; rintro e7 w7 ⟨rfl, rfl⟩)
        | (go_at_call 7; with_reducible refine stB.mono ?_; rintro e7 w7 ⟨rfl, rfl⟩)
        | (go_at_call 8; with_reducible refine loA.mono ?_; rintro e7 w7 ⟨rfl, rfl⟩)
        | (go_at_call 8; with_reducible refine loB.mono ?_; rintro e7 w7 ⟨rfl, rfl⟩))
      clear stA stB loA loB n1 n2
      go_wp2_with fail
      go_loopg [13, 14, 15] 300 (fun g sx sy si wr => ∃ (x y i : Nat), sx = .int .i64 x ∧ sy = .int .i64 y ∧ si = .int .i64 i ∧ Aside (i + g = 300 ∧ i ≤ TL ∧ (words ps)[x]? = some (lsf (words ps) (t.take i)) ∧ (words (turn k ps))[y]? = some (lsf (words ps) (t.take i)) ∧ Below w6.heap.size w6 wr))
      case atStart => exact ⟨0, 0, 0, rfl, rfl, rfl, ⟨by omega, by omega, by simpa [lsf] using A6.out.2.1.laid.tri.zero, by simpa [lsf] using A6.out.2.2.2.1.laid.tri.zero, Below.refl _ _⟩⟩
      case round =>
        obtain ⟨x, y, i, rfl, rfl, rfl, hI⟩ := hrel
        have hbw : Below w.heap.size w wr := A6.out.2.2.2.2.1.trans (hI.out.2.2.2.2.mono A6.out.2.2.2.2.1.size)
        by_cases hgo : i < TL ∧ i < 300
        · have hi : (i : Int) < (TL : Int) := by omega
          have hi3 : (i : Int) < 300 := by omega
          have hil : i < t.length := by have := AT.out; omega
          obtain ⟨c, hc⟩ : ∃ c, t[i]? = some c := ⟨_, List.getElem?_eq_getElem hil⟩
          have hc256 : c < 256 := AT.out.2.2.2.2.1 c (List.mem_of_getElem? hc)
          have htk : t.take (i + 1) = t.take i ++ [c] := take_snoc hc
          obtain ⟨U, hU⟩ : ∃ U, lsf (words ps) (t.take (i + 1)) = U := ⟨_, rfl⟩
          have hUs : lsf (words ps) (lsf (words ps) (t.take i) ++ [c]) = U := by rw [lsf_snoc A6.out.2.1.laid.tri, ← htk]; exact hU
          have hUm : U ∈ words ps := by rw [← hU]; exact lsf_mem A6.out.2.1.laid.tri.nil_mem _
          obtain ⟨x', hx'⟩ := mem_at hUm
          obtain ⟨y', hy'⟩ := mem_at (words_turn (k := k).2 hUm)
          have hli := AT.out.1.below hbw
          rcases hli with hli | ⟨tb, to0, rfl, htc⟩
          · rw [hli] at hil; simp at hil
          have cx := htc i c hc
          have hMA : Mach wr base A L X nd G := A6.out.1.below hI.out.2.2.2.2
          have hMB : Mach wr base2 B L X nd2 G2 := A6.out.2.2.1.below hI.out.2.2.2.2
          have hnA := fun (W : World) (hW : Mach W base A L X nd G) => next_c x c x' _ W hW A6.out.2.1.laid hI.out.2.2.1 hc256 (fun s u n h1 h2 _ => (A6.out.2.1.fin h1 h2).1) (by rw [hUs]; exact hx')
          have hnB := fun (W : World) (hW : Mach W base2 B L X nd2 G2) => next_c y c y' _ W hW A6.out.2.2.2.1.laid hI.out.2.2.2.1 hc256 (fun s u n h1 h2 _ => (A6.out.2.2.2.1.fin h1 h2).1) (by rw [lsf_turn, hUs]; exact hy')
          have AX : Aside (i < TL ∧ i < 300 ∧ (words ps)[x']? = some U ∧ (words (turn k ps))[y']? = some U ∧ lsf (words ps) (t.take (i + 1)) = U ∧ Below w6.heap.size w6 wr ∧ U.length ≤ 32) := ⟨hgo.1, hgo.2, hx', hy', hU, hI.out.2.2.2.2, words_32 AG.out.1 hUm⟩
          clear hil hc hc256 htk hU hUs hUm hx' hy' htc hbw hgo
          go_upto_region 15 with fail
          go_cut [13, 14] from 92 to 167 (fun s13 s14 wc => s13 = .int .i64 (x' : Int) ∧ s14 = .int .i64 (y' : Int) ∧ Aside (Below w6.heap.size w6 wc))
          case first =>
            go_quiet ((first
              | (go_at_call 9; with_reducible refine Calls.quiet_of_same ((hnA _ ?_).mono fun e w' h => ⟨h.1, h.2.symm⟩); exact hMA.drewN _)
              | (go_at_call 9; with_reducible refine Calls.quiet_of_same ((hnB _ ?_).mono fun e w' h => ⟨h.1, h.2.symm⟩); exact hMB.drewN _)))
            go_wp2_with fail
            go_meet
            have hb := AX.out.2.2.2.2.2.1
            exact ⟨rfl, rfl, ⟨hb.os, hb.tape, hb.output, hb.size, hb.block⟩⟩
          case rest =>
            obtain ⟨rfl, rfl, hB⟩ := hcut
            clear hnA hnB hMA hMB cx
            obtain ⟨nA, hnA⟩ := A6.out.2.1.laid.node AX.out.2.2.1
            obtain ⟨nB, hnB⟩ := A6.out.2.2.2.1.laid.node AX.out.2.2.2.1
            have finA := A6.out.2.1.fin AX.out.2.2.1 hnA
            have finB := A6.out.2.2.2.1.fin AX.out.2.2.2.1 hnB
            have hoA := out_c x' nA wc (A6.out.1.below hB.out) hnA finA.2.1 (A6.out.2.2.2.2.2.1.below hB.out)
            rw [outs_of_fin finA AG.out.1.few] at hoA
            have hoB := fun (W : World) (hW : Below w6.heap.size w6 W) => out_c y' nB W (A6.out.2.2.1.below hW) hnB finB.2.1 (A6.out.2.2.2.2.2.1.below hW)
            rw [outs_of_fin finB AG.out.2.1.few] at hoB
            obtain ⟨E1, hE1⟩ : ∃ E1, endsOf ps U = E1 := ⟨_, rfl⟩
            obtain ⟨E2, hE2⟩ : ∃ E2, endsOf (turn k ps) U = E2 := ⟨_, rfl⟩
            obtain ⟨EL, hEL⟩ : ∃ EL, E1.length = EL := ⟨_, rfl⟩
            have hEL2 : E2.length = EL := by rw [← hE2, ends_many U (by have := AB.out; have := AK.out; omega), hE1]; exact hEL
            have AE : Aside (E1.length = EL ∧ E2.length = EL ∧ EL ≤ 64 ∧ (∀ z ∈ E2, z < 64) ∧ (∀ z ∈ E2, (z + k) % L ∈ E1)) := ⟨hEL, hEL2, by rw [← hEL, ← hE1]; exact (endsOf_64 AG.out.1 U).1, by rw [← hE2]; exact (endsOf_64 AG.out.2.1 U).2, by
              intro z hz
              rw [← hE2] at hz
              rw [← hE1, ← AB.out.2.2.1]
              exact ends_turn (by have := AB.out; have := AK.out; omega) hz⟩
            rw [hE1] at hoA
            rw [hE2] at hoB
            have HB : Aside (∀ W, Below w6.heap.size w6 W → _) := hoB
            clear hnA hnB finA finB hoB hE1 hE2 hEL hEL2
            go_upto_region 17 with (first
              | (go_at_call 10; with_reducible refine hoA.mono ?_; rintro e8 w8 ⟨v8, rfl, ho8⟩
                 obtain ⟨oa8, oc8, hv8, hnum8, _, _, _⟩ := ho8.shape
                 rw [AE.out.1] at hv8
                 subst hv8
                 have b8 : Below w6.heap.size w6 w8 := hB.out.trans (ho8.bel.mono hB.out.size)
                 have A8 : Aside (Below w6.heap.size w6 w8 ∧ Nums w8 oa8 E1) := ⟨b8, hnum8⟩
                 have hoB := HB.out w8 b8
                 clear ho8 hnum8 b8)
              | (go_at_call 10; with_reducible refine hoB.mono ?_; rintro e9 w9 ⟨v9, rfl, ho9⟩
                 obtain ⟨oa9, oc9, hv9, hnum9, _, _, _⟩ := ho9.shape
                 rw [AE.out.2.1] at hv9
                 subst hv9
                 have A9 : Aside (Below w6.heap.size w6 w9 ∧ Nums w9 oa8 E1 ∧ Nums w9 oa9 E2) := ⟨A8.out.1.trans (ho9.bel.mono A8.out.1.size), A8.out.2.below ho9.bel, hnum9⟩
                 clear ho9 hnum9))
            obtain ⟨UL, hUL⟩ : ∃ UL, U.length = UL := ⟨_, rfl⟩
            obtain ⟨B9, hB9⟩ : ∃ B9, w9.heap.size = B9 := ⟨_, rfl⟩
            have AU : Aside (U.length = UL ∧ UL ≤ 32) := ⟨hUL, by have := AX.out; omega⟩
            have hwA := word_c x' U UL w9 (A6.out.1.below A9.out.1) A6.out.2.1.laid AX.out.2.2.1 hUL (by have := AU.out; omega)
            rw [hB9] at hwA
            have hEE : ((EL : Int) != (EL : Int)) = false := by simp
            have A9' : Aside (w9.heap.size = B9) := hB9
            clear hoA hoB hUL hB9
            go_upto_region 19 with (first
              | (go_at_call 12; with_reducible refine hwA.mono ?_; rintro e10 w10 ⟨rfl, hk10, hb10⟩
                 have hb10' : Below w9.heap.size w9 w10 := by rw [A9'.out]; exact hb10
                 have b10 : Below w6.heap.size w6 w10 := A9.out.1.trans (hb10'.mono A9.out.1.size)
                 obtain ⟨B10, hB10⟩ : ∃ B10, w10.heap.size = B10 := ⟨_, rfl⟩
                 have hwB := word_c y' U UL w10 (A6.out.2.2.1.below b10) A6.out.2.2.2.1.laid AX.out.2.2.2.1 AU.out.1 (by have := AU.out; omega)
                 rw [hB10] at hwB
                 have A10 : Aside (Below w6.heap.size w6 w10 ∧ Lies w10 (some ⟨B9, 0, none⟩) U ∧ Nums w10 oa8 E1 ∧ Nums w10 oa9 E2 ∧ w10.heap.size = B10) := ⟨b10, hk10.lies, A9.out.2.1.below hb10', A9.out.2.2.below hb10', hB10⟩
                 clear hk10 hb10 hb10' b10 hB10)
              | (go_at_call 12; with_reducible refine hwB.mono ?_; rintro e11 w11 ⟨rfl, hk11, hb11⟩
                 have hb11' : Below w10.heap.size w10 w11 := by rw [A10.out.2.2.2.2]; exact hb11
                 have A11 : Aside (Below w6.heap.size w6 w11 ∧ Nums w11 oa8 E1 ∧ Nums w11 oa9 E2) := ⟨A10.out.1.trans (hb11'.mono A10.out.1.size), A10.out.2.2.1.below hb11', A10.out.2.2.2.1.below hb11'⟩
                 have hsame := same_c (some ⟨B9, 0, none⟩) (some ⟨B10, 0, none⟩) U U UL UL UL UL w11 AU.out.1 AU.out.1 (by have := AU.out; omega) (A10.out.2.1.below hb11') hk11.lies
                 rw [decide_eq_true (rfl : U = U)] at hsame
                 clear hk11 hb11 hb11')
              | (go_at_call 11; refine hsame.mono ?_; rintro e12 w12 ⟨rfl, hd12⟩
                 have bd12 : Below w11.heap.size w11 w12 := Drawn.below hd12 _
                 have A12 : Aside (Below w6.heap.size w6 w12 ∧ Nums w12 oa8 E1 ∧ Nums w12 oa9 E2) := ⟨A11.out.1.trans (bd12.mono A11.out.1.size), A11.out.2.1.below bd12, A11.out.2.2.below bd12⟩
                 clear hd12 bd12))
            clear hwA hwB hsame hEE A8 A9 A9' A10 A11 HB hB
            go_wp2_with fail
            go_loopg [18] EL (fun g sn wr => ∃ n : Nat, sn = .int .i64 n ∧ Aside (n + g = EL ∧ Drawn w12 wr))
            case atStart => exact ⟨0, rfl, ⟨by omega, Drawn.refl _⟩⟩
            case round =>
              obtain ⟨n, rfl, hNn⟩ := hrel
              by_cases hnE : n < EL
              · have hn : (n : Int) < (EL : Int) := by omega
                obtain ⟨z, hz⟩ : ∃ z, E2[n]? = some z := ⟨_, List.getElem?_eq_getElem (by have := AE.out; omega)⟩
                have hzm := List.mem_of_getElem? hz
                obtain ⟨tg, htg⟩ : ∃ tg, (z + k) % L = tg := ⟨_, rfl⟩
                have AZ : Aside (n < EL ∧ E2[n]? = some z ∧ z < 64 ∧ tg ∈ E1 ∧ (z + k) % L = tg) := ⟨hnE, hz, AE.out.2.2.2.1 z hzm, by rw [← htg]; exact AE.out.2.2.2.2 z hzm, htg⟩
                clear hz hzm htg hnE
                go_wp2_with fail
                go_loopg [19, 20] EL (fun g sh sm wr => ∃ (th : Bool) (m : Nat), sh = .bool th ∧ sm = .int .i64 m ∧ Aside (m + g = EL ∧ th = decide (tg ∈ E1.take m) ∧ Drawn w12 wr))
                case atStart => exact ⟨false, 0, rfl, rfl, ⟨by omega, by simp, hNn.out.2⟩⟩
                case round =>
                  obtain ⟨th, m, rfl, rfl, hM⟩ := hrel
                  by_cases hmE : m < EL
                  · have hm : (m : Int) < (EL : Int) := by omega
                    have hmb : (m : Int) < 64 := by have := AE.out; omega
                    obtain ⟨pm, hpm⟩ : ∃ pm, E1[m]? = some pm := ⟨_, List.getElem?_eq_getElem (by have := AE.out; omega)⟩
                    have htk : E1.take (m + 1) = E1.take m ++ [pm] := take_snoc hpm
                    have hN1 : Nums wr oa8 E1 := A12.out.2.1.below (Drawn.below hM.out.2.2 _)
                    have hN2 : Nums wr oa9 E2 := A12.out.2.2.below (Drawn.below hM.out.2.2 _)
                    have AMm : Aside (m < EL) := hmE
                    rcases hN1 with e | ⟨b1, o1, rfl, hc1⟩
                    · rw [e] at hpm; simp at hpm
                    rcases hN2 with e | ⟨b2, o2, rfl, hc2⟩
                    · have := AZ.out.2.1; rw [e] at this; simp at this
                    have c1 := hc1 m pm hpm
                    have c2 := hc2 n z AZ.out.2.1
                    have hzb : (z : Int) < 64 := by have := AZ.out; omega
                    have hrem2 : Int.tmod ((z : Int) + (k : Int)) (L : Int) = (tg : Int) := by
                      rw [← AZ.out.2.2.2.2]
                      have : ((z : Int) + (k : Int)) = ((z + k : Nat) : Int) := by omega
                      rw [this, Int.ofNat_tmod]
                    have hkb : (k : Int) < 256 := by have := AK.out; have := AT.out; have := Nat.mod_le bz L; omega
                    cases th with
                    | true =>
                      have A13 : Aside (true = decide (tg ∈ E1.take (m + 1))) := by
                        show _ = _
                        rw [htk, eq_comm, decide_eq_true_iff]
                        exact List.mem_append_left _ (of_decide_eq_true hM.out.2.1.symm)
                      clear hpm htk hc1 hc2 c1 c2 hrem2 hmE
                      go_wp2_with fail
                      go_quiet (fail)
                      go_wp2_with fail
                      have h1 := hM.out.1; have h2 := AMm.out
                      go_roundg (EL - (m + 1))
                      case measure => omega
                      case rel => exact ⟨true, m + 1, rfl, by go_num, ⟨by omega, A13.out, hM.out.2.2.drewN _⟩⟩
                    | false =>
                      have hno : tg ∉ E1.take m := of_decide_eq_false hM.out.2.1.symm
                      by_cases hq : pm = tg
                      · have A13 : Aside (true = decide (tg ∈ E1.take (m + 1))) := by
                          show _ = _
                          rw [htk, eq_comm, decide_eq_true_iff, hq]
                          simp
                        have q1 : ((pm : Int) == (tg : Int)) = true := by rw [beq_iff_eq]; omega
                        have q2 : decide (pm = tg) = true := decide_eq_true hq
                        clear hpm htk hc1 hc2 hno hq hmE
                        go_wp2_with fail
                        go_quiet (fail)
                        go_wp2_with fail
                        have h1 := hM.out.1; have h2 := AMm.out
                        go_roundg (EL - (m + 1))
                        case measure => omega
                        case rel => exact ⟨true, m + 1, by rfl, by go_num, ⟨by omega, A13.out, hM.out.2.2.drewN _⟩⟩
                      · have A13 : Aside (false = decide (tg ∈ E1.take (m + 1))) := by
                          show _ = _
                          rw [htk, eq_comm, decide_eq_false_iff_not]
                          intro h
                          rcases List.mem_append.1 h with h | h
                          · exact hno h
                          · exact hq (List.mem_singleton.1 h).symm
                        have q1 : ((pm : Int) == (tg : Int)) = false := by rw [beq_eq_false_iff_ne]; omega
                        have q2 : decide (pm = tg) = false := decide_eq_false hq
                        have q3 : ¬ (pm : Int) = (tg : Int) := by omega
                        clear hpm htk hc1 hc2 hno hq hmE
                        go_wp2_with fail
                        go_quiet (fail)
                        go_wp2_with fail
                        have h1 := hM.out.1; have h2 := AMm.out
                        go_roundg (EL - (m + 1))
                        case measure => omega
                        case rel => exact ⟨false, m + 1, by rfl, by go_num, ⟨by omega, A13.out, hM.out.2.2.drewN _⟩⟩
                  · have hm : ¬ (m : Int) < (EL : Int) := by omega
                    have hth : th = true := by
                      rw [hM.out.2.1, List.take_of_length_le (by have := AE.out; omega)]
                      exact decide_eq_true AZ.out.2.2.2.1
                    subst hth
                    have hnb : (n : Int) < 64 := by have := AE.out; have := AZ.out; omega
                    clear hmE
                    go_wp2_with fail
                    have h1 := hNn.out.1; have h2 := AZ.out
                    go_roundg (EL - (n + 1))
                    case measure => omega
                    case rel => exact ⟨n + 1, by go_num, ⟨by omega, hM.out.2.2⟩⟩
              · have hn : ¬ (n : Int) < (EL : Int) := by omega
                clear hnE
                go_wp2_with fail
                have h1 := hI.out; have h2 := AX.out; have h3 := A12.out
                go_roundg (300 - (i + 1))
                case measure => omega
                case rel => exact ⟨x', y', i + 1, rfl, rfl, by go_num, ⟨by omega, by omega, by rw [h2.2.2.2.2.1]; exact h2.2.2.1, by rw [h2.2.2.2.2.1]; exact h2.2.2.2.1, h3.1.trans (Drawn.below hNn.out.2 _)⟩⟩
        · have haw := awake_c wr (AB.out.1.below hbw)
          have A30 : Aside (Below H w wr ∧ H ≤ wr.heap.size) := ⟨by rw [← AB.out.2.2.2.2.2.2.2]; exact hbw, by rw [← AB.out.2.2.2.2.2.2.2]; exact hbw.size⟩
          by_cases hi1 : i < TL
          · have hi : (i : Int) < (TL : Int) := by omega
            have hi3 : ¬ (i : Int) < 300 := by omega
            clear hgo hi1 hbw
            go_wp2_with (go_at_call 4; refine haw.mono ?_; rintro e5 w5 ⟨rfl, hb5⟩)
            go_ret
            exact ⟨rfl, A30.out.1.trans (hb5.mono A30.out.2)⟩
          · have hi : ¬ (i : Int) < (TL : Int) := by omega
            clear hgo hi1 hbw
            go_wp2_with (go_at_call 4; refine haw.mono ?_; rintro e5 w5 ⟨rfl, hb5⟩)
            go_ret
            exact ⟨rfl, A30.out.1.trans (hb5.mono A30.out.2)⟩
    · have hck2 : chk (turn k ps) ≠ 0 := fun h => hck ((chk_turn hkl).1 h)
      have hbuild := build_err a4 ps L C4 w4 hr4 AB.out.2.2.1 hL4 (by have := AB.out; omega) AB.out.2.2.2.2.2.1 hz4 hck
      obtain ⟨z1, hz1⟩ : ∃ z1, chk ps = z1 := ⟨_, rfl⟩
      obtain ⟨z2, hz2⟩ : ∃ z2, chk (turn k ps) = z2 := ⟨_, rfl⟩
      rw [hz1] at hbuild
      have f1 : ((z1 : Int) == 0) = false := by rw [beq_eq_false_iff_ne]; omega
      have f2 : ((z2 : Int) == 0) = false := by rw [beq_eq_false_iff_ne]; omega
      have m1 : ((z1 : Int) != 0) = true := by rw [bne_iff_ne]; omega
      have m2 : ((z2 : Int) != 0) = true := by rw [bne_iff_ne]; omega
      have g1 : ¬ (z1 : Int) = 0 := by omega
      have g2 : ¬ (z2 : Int) = 0 := by omega
      have AZ : Aside (chk (turn k ps) = z2 ∧ chk (turn k ps) ≠ 0) := ⟨hz2, hck2⟩
      clear cop hc4 hr4 hz4 hL4 hck hck2 hkl hz1 hz2
      go_upto_region 6 with (go_at_call 6; refine hbuild.mono ?_; rintro e5 w5 ⟨rfl, hb5⟩)
      have bc5 : Below wc.heap.size wc w5 := A4.out.trans (hb5.mono A4.out.size)
      have hbuild2 := build_err a3 (turn k ps) L C3 w5 (A3.out.2.1.below bc5) A3.out.2.2.2.2.1 A3.out.1 (by have := AB.out; omega) A3.out.2.2.2.2.2 A3.out.2.2.1 AZ.out.2
      rw [AZ.out.1] at hbuild2
      have A5 : Aside (Below wc.heap.size wc w5) := bc5
      clear hbuild hb5 bc5
      go_upto_region 7 with (go_at_call 6; refine hbuild2.mono ?_; rintro e6 w6 ⟨rfl, hb6⟩)
      have bw6 : Below w.heap.size w w6 := A3.out.2.2.2.1.trans ((A5.out.trans (hb6.mono A5.out.size)).mono A3.out.2.2.2.1.size)
      have haw := awake_c w6 (AB.out.1.below bw6)
      have A7 : Aside (Below H w w6 ∧ H ≤ w6.heap.size) := ⟨by rw [← AB.out.2.2.2.2.2.2.2]; exact bw6, by rw [← AB.out.2.2.2.2.2.2.2]; exact bw6.size⟩
      clear hbuild2 hb6 bw6
      go_wp2_with (go_at_call 4; refine haw.mono ?_; rintro e7 w7 ⟨rfl, hb7⟩)
      go_ret
      exact ⟨rfl, A7.out.1.trans (hb7.mono A7.out.2)⟩
end Go.Proofs.YtbepbjbbhenphabDoor

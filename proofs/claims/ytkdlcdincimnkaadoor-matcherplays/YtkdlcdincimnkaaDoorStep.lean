/-
  What a matcher's Set, Reset and Step come to.
  Conditions: its machine lies below it and is whole; its place is at most 2^62.
-/
import Derived.Test.YtkdlcdincimnkaaDoorMat
namespace Go.Proofs.YtkdlcdincimnkaaDoor
open Go.RowKit
set_option linter.unusedVariables false
set_option maxHeartbeats 2000000 in
theorem reset_c (M s p A : Nat) (w : World) (h : Mt w M s p A) : Calls Tryd.prog 16 #[.pointer (some ⟨M, 0, none⟩)] w fun e w' => e = .returned (.tuple #[]) ∧ Mt w' M 0 0 A ∧ Only M w w' := by
  obtain ⟨c0, c1, c2, f⟩ := h.cells
  have f0 := f 0
  have f1 := f 1
  have key : Aside (Mt ((w.setCell ⟨M, 0, none⟩ (.int .i64 0)).setCell ⟨M, 1, none⟩ (.int .i64 0)) M 0 0 A ∧ Only M w ((w.setCell ⟨M, 0, none⟩ (.int .i64 0)).setCell ⟨M, 1, none⟩ (.int .i64 0))) := ⟨h.put 0 0, ((Only.refl M w).setCell 0 _).setCell 1 _⟩
  clear h f
  go_enter Tryd.func16, Tryd.ntmps16
  go_wp2_with fail
  first | go_end0 | (refine bodyPost_ret (results_none rfl _ _ _) rfl ?_) | go_ret2
  exact ⟨rfl, key.out⟩
set_option maxHeartbeats 2000000 in
theorem set_yes {base A pn lg : Nat} {nd : List Nd} {G : Nat → Nat → Option Nat} (M s p s' p' N : Nat) (w : World) (hm : Mach w base A pn lg nd G) (hN : nd.length = N) (h : Mt w M s p A) (hs : s' < N) (hp : p' ≤ 4611686018427387904) :
    Calls Tryd.prog 15 #[.pointer (some ⟨M, 0, none⟩), .int .i64 (s' : Int), .int .i64 (p' : Int)] w fun e w' => e = .returned (.bool true) ∧ Mt w' M s' p' A ∧ Only M w w' := by
  obtain ⟨c0, c1, c2, f⟩ := h.cells
  have f0 := f 0
  have f1 := f 1
  have hst := states_c w hm N hN
  have key : Aside (Mt ((w.setCell ⟨M, 0, none⟩ (.int .i64 (s' : Int))).setCell ⟨M, 1, none⟩ (.int .i64 (p' : Int))) M s' p' A ∧ Only M w ((w.setCell ⟨M, 0, none⟩ (.int .i64 (s' : Int))).setCell ⟨M, 1, none⟩ (.int .i64 (p' : Int)))) := ⟨h.put s' p', ((Only.refl M w).setCell 0 _).setCell 1 _⟩
  have t1 : decide ((s' : Int) < 0) = false := decide_eq_false (by omega)
  have t2 : decide (N ≤ s') = false := decide_eq_false (by omega)
  have t3 : decide ((p' : Int) < 0) = false := decide_eq_false (by omega)
  have t4 : decide ((4611686018427387904 : Int) < (p' : Int)) = false := decide_eq_false (by omega)
  clear h f hs hp hN hm
  go_enter Tryd.func15, Tryd.ntmps15
  go_wp2_with (go_at_call 33; refine hst.mono ?_; rintro e2 w2 ⟨rfl, rfl⟩)
  go_ret
  exact ⟨rfl, key.out⟩
set_option maxHeartbeats 2000000 in
theorem set_no {base A pn lg : Nat} {nd : List Nd} {G : Nat → Nat → Option Nat} (M s p N : Nat) (s' p' : Int) (w : World) (hm : Mach w base A pn lg nd G) (hN : nd.length = N) (h : Mt w M s p A) (hn : ¬ (0 ≤ s' ∧ s' < (N : Int) ∧ 0 ≤ p' ∧ p' ≤ 4611686018427387904)) :
    Calls Tryd.prog 15 #[.pointer (some ⟨M, 0, none⟩), .int .i64 s', .int .i64 p'] w fun e w' => e = .returned (.bool false) ∧ w = w' := by
  obtain ⟨c0, c1, c2, f⟩ := h.cells
  have hst := states_c w hm N hN
  clear h f hN hm
  by_cases h1 : s' < 0
  · have t1 : decide (s' < 0) = true := decide_eq_true h1
    clear hn h1
    go_enter Tryd.func15, Tryd.ntmps15
    go_wp2_with (go_at_call 33; refine hst.mono ?_; rintro e2 w2 ⟨rfl, rfl⟩)
    go_ret
    exact ⟨rfl, rfl⟩
  · have t1 : decide (s' < 0) = false := decide_eq_false h1
    by_cases h2 : (N : Int) ≤ s'
    · have t2 : decide ((N : Int) ≤ s') = true := decide_eq_true h2
      clear hn h1 h2
      go_enter Tryd.func15, Tryd.ntmps15
      go_wp2_with (go_at_call 33; refine hst.mono ?_; rintro e2 w2 ⟨rfl, rfl⟩)
      go_ret
      exact ⟨rfl, rfl⟩
    · have t2 : decide ((N : Int) ≤ s') = false := decide_eq_false h2
      by_cases h3 : p' < 0
      · have t3 : decide (p' < 0) = true := decide_eq_true h3
        clear hn h1 h2 h3
        go_enter Tryd.func15, Tryd.ntmps15
        go_wp2_with (go_at_call 33; refine hst.mono ?_; rintro e2 w2 ⟨rfl, rfl⟩)
        go_ret
        exact ⟨rfl, rfl⟩
      · have t3 : decide (p' < 0) = false := decide_eq_false h3
        have t4 : decide ((4611686018427387904 : Int) < p') = true := decide_eq_true (by omega)
        clear hn h1 h2 h3
        go_enter Tryd.func15, Tryd.ntmps15
        go_wp2_with (go_at_call 33; refine hst.mono ?_; rintro e2 w2 ⟨rfl, rfl⟩)
        go_ret
        exact ⟨rfl, rfl⟩
set_option maxRecDepth 100000 in
set_option maxHeartbeats 4000000 in
theorem step_c {base A pn lg : Nat} {nd : List Nd} {G : Nat → Nat → Option Nat} {ps : List (List Nat)} (w0 w : World) (hm : Mach w0 base A pn lg nd G) (hf : Full ps nd G) (hg : Good ps) (hT : Tab w0) (hb : Below w0.heap.size w0 w) (M s x p : Nat) (u : List Nat) (hM : w0.heap.size ≤ M) (hc : Mt w M s p A) (hs : (words ps)[s]? = some u) (hx : x < 256) (hp : p ≤ 4611686018427387904) :
    Calls Tryd.prog 18 #[.pointer (some ⟨M, 0, none⟩), .int .u8 (x : Int)] w fun e w' => ∃ v s', e = .returned v ∧ (words ps)[s']? = some (lsf (words ps) (u ++ [x])) ∧ Mt w' M s' (min (p + 1) 4611686018427387904) A ∧ But M w w' ∧ Own w' w' w.heap.size v (endsOf ps (lsf (words ps) (u ++ [x]))) := by
  obtain ⟨s', hs'⟩ := mem_at (lsf_mem hf.laid.tri.nil_mem (u ++ [x]))
  obtain ⟨n, hn⟩ := hf.laid.node hs'
  have hfin := hf.fin hs' hn
  have hnext := fun (W : World) (hW : Mach W base A pn lg nd G) => next_c s x s' u W hW hf.laid hs hx (fun s u n h1 h2 _ => (hf.fin h1 h2).1) hs'
  have hout := fun (W : World) (hW : Mach W base A pn lg nd G) (hTW : Tab W) => out_c s' n W hW hn hfin.2.1 hTW
  have hends := outs_of_fin hfin hg.few
  rw [hends] at hout
  obtain ⟨E, hE⟩ : ∃ E, endsOf ps (lsf (words ps) (u ++ [x])) = E := ⟨_, rfl⟩
  rw [hE] at hout ⊢
  obtain ⟨p', hp'⟩ : ∃ p', min (p + 1) 4611686018427387904 = p' := ⟨_, rfl⟩
  rw [hp']
  obtain ⟨c0, c1, c2, f⟩ := hc.cells
  have f0 := f 0
  obtain ⟨w3, hw3⟩ : ∃ w3, w3 = (w.setCell ⟨M, 0, none⟩ (.int .i64 (s' : Int))).drew := ⟨_, rfl⟩
  have m3 : Mt w3 M s' p A := by rw [hw3]; exact Cells.drew (hc.put0 s')
  have o3 : Only M w w3 := by rw [hw3]; exact ((Only.refl M w).setCell 0 _).drew
  obtain ⟨d0, d1, d2, g⟩ := m3.cells
  have g1 := g 1
  obtain ⟨w4, hw4⟩ : ∃ w4, w4 = w3.setCell ⟨M, 1, none⟩ (.int .i64 (p' : Int)) := ⟨_, rfl⟩
  have m4 : Mt w4 M s' p' A := by rw [hw4]; exact m3.put1 p'
  have o4 : Only M w w4 := by rw [hw4]; exact o3.setCell 1 _
  obtain ⟨k0, k1, k2, k⟩ := m4.cells
  have AM : Aside (Mach w base A pn lg nd G) := hm.below hb
  have b4 : Below w0.heap.size w0 w4 := hb.trans ((But.of_only o4).below hM hb.size)
  have AM4 : Aside (Mach w4 base A pn lg nd G ∧ Tab w4) := ⟨hm.below b4, hT.below b4⟩
  have AR : Aside (Mt w4 M s' p' A ∧ But M w w4 ∧ w4.heap.size = w.heap.size ∧ (words ps)[s']? = some (lsf (words ps) (u ++ [x])) ∧ M < w4.heap.size) := ⟨m4, But.of_only o4, o4.size, hs', m4.lt⟩
  have AP : Aside (p ≤ 4611686018427387904 ∧ min (p + 1) 4611686018427387904 = p') := ⟨hp, hp'⟩
  clear hm hf hg hT hb hM hc hs hx hp hs' hn hfin hends hE hp' f m3 o3 g m4 o4 k b4
  go_enter Tryd.func18, Tryd.ntmps18
  go_upto_region 3 with fail
  go_cut [] (fun wc => wc = w3)
  case first =>
    clear d0 d1 d2 g1 hw4 k0 k1 k2 hout AM4 AR AP
    go_region_with (first | (go_at_call 35; refine (hnext _ (by first | exact AM.out.drew | exact AM.out | exact AM.out.drewN _)).mono ?_; rintro e2 w2 ⟨rfl, rfl⟩))
    all_goals go_wp2_with fail
    all_goals go_meet
    all_goals exact hw3.symm
  case rest =>
    obtain rfl := hcut
    clear hw3 c0 c1 c2 f0 hnext AM
    have hpp := AP.out
    by_cases hlt : p + 1 ≤ 4611686018427387904
    · have e1 : (p : Int) + 1 = (p' : Int) := by omega
      have t1 : (p : Int) + 1 ≤ 4611686018427387904 := by omega
      clear hpp hlt
      go_upto_region 5 with fail
      clear e1 t1
      rw [← hw4]
      clear hw4 d0 d1 d2 g1
      go_region_with (first | (go_at_call 36; refine (hout _ (by first | exact AM4.out.1.drew | exact AM4.out.1 | exact AM4.out.1.drewN _) (by first | exact AM4.out.2 | exact AM4.out.2.drew | exact AM4.out.2.below (Below.refl _ _))).mono ?_; rintro e5 w5 ⟨v, rfl, ho5⟩))
      all_goals (
        go_wp2_with fail
        go_ret
        have ho : Own w4 w5 w4.heap.size v E := ⟨ho5.own, ⟨ho5.bel.1, ho5.bel.2, ho5.bel.3, ho5.bel.4, ho5.bel.5⟩, ho5.le⟩
        obtain ⟨r1, r2, r3, r4, r5⟩ := AR.out
        exact ⟨v, s', rfl, r4, Cells.below r1 ho.bel r5, r2.trans (But.of_below ho.bel), ⟨by rw [← r3]; exact ho.own, Below.refl _ _, by rw [← r3]; exact ho.le⟩⟩)
    · have e1 : (p' : Int) = 4611686018427387904 := by omega
      have e2 : (p : Int) = 4611686018427387904 := by omega
      rw [e1] at hw4 k1
      rw [e2] at d1
      clear hpp hlt
      go_upto_region 5 with fail
      rw [← hw4]
      clear hw4 d0 d1 d2 g1
      go_region_with (first | (go_at_call 36; refine (hout _ (by first | exact AM4.out.1.drew | exact AM4.out.1 | exact AM4.out.1.drewN _) (by first | exact AM4.out.2 | exact AM4.out.2.drew | exact AM4.out.2.below (Below.refl _ _))).mono ?_; rintro e5 w5 ⟨v, rfl, ho5⟩))
      all_goals (
        go_wp2_with fail
        go_ret
        have ho : Own w4 w5 w4.heap.size v E := ⟨ho5.own, ⟨ho5.bel.1, ho5.bel.2, ho5.bel.3, ho5.bel.4, ho5.bel.5⟩, ho5.le⟩
        obtain ⟨r1, r2, r3, r4, r5⟩ := AR.out
        exact ⟨v, s', rfl, r4, Cells.below r1 ho.bel r5, r2.trans (But.of_below ho.bel), ⟨by rw [← r3]; exact ho.own, Below.refl _ _, by rw [← r3]; exact ho.le⟩⟩)
end Go.Proofs.YtkdlcdincimnkaaDoor

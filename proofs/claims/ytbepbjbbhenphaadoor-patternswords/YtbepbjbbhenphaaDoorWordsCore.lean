/-
  PatternsWords, behind the opening of its arguments: the call answers true, and what lay in memory is as it was.
  Conditions: the library's table holds what its text lays there; the patterns and the text lie in memory.
-/
import Derived.Test.YtbepbjbbhenphaaDoorBegins
namespace Go.Proofs.YtbepbjbbhenphaaDoor
open Go.RowKit
set_option linter.unusedVariables false
theorem same_yes (a b : Option Addr) (l : List Nat) (L c d : Nat) (w : World) (hL : l.length = L) (hlt : L < 9223372036854775808) (h1 : Lies w a l) (h2 : Lies w b l) : Calls Tryd.prog 20 #[.slice a L c, .slice b L d] w fun e w' => e = .returned (.bool true) ∧ Drawn w w' := by
  have := same_c a b l l L L c d w hL hL hlt h1 h2
  rw [decide_eq_true rfl] at this
  exact this
set_option maxRecDepth 100000 in
set_option maxHeartbeats 40000000 in
theorem words_core (w : World) (hT : Tab w) (a : Option Addr) (ps : List (List Nat)) (L C : Nat) (hp : Rows2 w a ps) (hL : ps.length = L) (hLC : L ≤ C) (hC : C * 24 < 140737488355328) (ho : Octs ps) (hz : a = none → C = 0)
    (ta : Option Addr) (t : List Nat) (TL TC : Nat) (ht : Lies w ta t) (hTL : t.length = TL) (hTC : TL ≤ TC) (hTb : TC < 140737488355328) (hto : Oct t) (htz : ta = none → TL = 0) :
    Calls Tryd.prog 6 #[.slice a L C, .slice ta TL TC] w fun e w' => e = .returned (.bool true) ∧ Below w.heap.size w w' := by
  obtain ⟨H, hH⟩ : ∃ H, w.heap.size = H := ⟨_, rfl⟩
  have AB : Aside (Tab w ∧ Rows2 w a ps ∧ ps.length = L ∧ L ≤ C ∧ C * 24 < 140737488355328 ∧ Octs ps ∧ (a = none → C = 0) ∧ w.heap.size = H) := ⟨hT, hp, hL, hLC, hC, ho, hz, hH⟩
  have AT : Aside (Lies w ta t ∧ t.length = TL ∧ TL ≤ TC ∧ TC < 140737488355328 ∧ Oct t ∧ (ta = none → TL = 0)) := ⟨ht, hTL, hTC, hTb, hto, htz⟩
  have cop := copy_c a ps L C w hp hL hLC (by omega)
  rw [hH]
  clear hT hp hL hLC hC ho hz hH ht hTL hTC hTb hto htz
  go_enter Tryd.func6, Tryd.ntmps6
  go_wp2_with fail
  refine cop.mono ?_
  rintro e2 w2 ⟨v2, rfl, hc2⟩
  obtain ⟨a2, C2, hv2, hL2, hr2, hz2⟩ := hc2.rows
  rw [AB.out.2.2.1] at hv2 hL2
  subst hv2
  have b2 : Below H w w2 := by have := hc2.bel; rw [AB.out.2.2.2.2.2.2.2] at this; exact this
  have s2 : H ≤ w2.heap.size := by have := hc2.bel.size; rw [AB.out.2.2.2.2.2.2.2] at this; exact this
  clear cop hc2
  by_cases hck : chk ps = 0
  · have hbuild := build_ok a2 ps L C2 w2 hr2 AB.out.2.2.1 hL2 (by have := AB.out; omega) AB.out.2.2.2.2.2.1 hz2 hck
    have AG : Aside (Good ps) := chk_good hck
    clear hr2 hz2 hL2 hck
    go_wp2_with fail
    refine hbuild.mono ?_
    rintro e3 w3 ⟨A, rfl, nd, G, hm3, hf3, hb3⟩
    have A3 : Aside (∃ base, Mach w3 base A L (longest ps) nd G ∧ Full ps nd G ∧ Below H w w3 ∧ H ≤ w3.heap.size) := ⟨_, hm3, hf3, b2.trans (hb3.mono s2), Nat.le_trans s2 hb3.size⟩
    clear hbuild hm3 hf3 hb3 b2 s2
    go_wp2_with fail
    go_loopg [7, 8] 300 (fun g ss si wr => ∃ (s i : Nat), ss = .int .i64 s ∧ si = .int .i64 i ∧ Aside (i + g = 300 ∧ i ≤ TL ∧ (words ps)[s]? = some (lsf (words ps) (t.take i)) ∧ Below w3.heap.size w3 wr))
    case atStart =>
      obtain ⟨base, hm3, hf3, _⟩ := A3.out
      exact ⟨0, 0, rfl, rfl, ⟨by omega, by omega, by simpa [lsf] using hf3.laid.tri.zero, Below.refl _ _⟩⟩
    case round =>
      obtain ⟨s, i, rfl, rfl, hA⟩ := hrel
      obtain ⟨base, hm3, hf3, hbw3, hs3⟩ := A3.out
      have hbH : Below H w wr := hbw3.trans (hA.out.2.2.2.mono hs3)
      have hbw : Below w.heap.size w wr := by rw [AB.out.2.2.2.2.2.2.2]; exact hbH
      have hsz : H ≤ wr.heap.size := by have := hbw.size; rw [AB.out.2.2.2.2.2.2.2] at this; exact this
      have AW : Aside (Mach wr base A L (longest ps) nd G ∧ Full ps nd G ∧ Below H w wr ∧ Below w.heap.size w wr ∧ H ≤ wr.heap.size) := ⟨hm3.below hA.out.2.2.2, hf3, hbH, hbw, hsz⟩
      clear hm3 hf3 hbw3 hs3 hbH hbw hsz
      by_cases hgo : i < TL ∧ i < 300
      · have hi : (i : Int) < (TL : Int) := by omega
        have hi3 : (i : Int) < 300 := by omega
        have hil : i < t.length := by have := AT.out; omega
        obtain ⟨x, hx⟩ : ∃ x, t[i]? = some x := ⟨_, List.getElem?_eq_getElem hil⟩
        have hx256 : x < 256 := AT.out.2.2.2.2.1 x (List.mem_of_getElem? hx)
        have htk : t.take (i + 1) = t.take i ++ [x] := take_snoc hx
        obtain ⟨T, hT⟩ : ∃ T, t.take (i + 1) = T := ⟨_, rfl⟩
        obtain ⟨s', hs'⟩ := mem_at (lsf_mem AW.out.2.1.laid.tri.nil_mem T)
        have hnext := next_c s x s' (lsf (words ps) (t.take i)) wr AW.out.1 AW.out.2.1.laid hA.out.2.2.1 hx256 (fun s u n h1 h2 _ => (AW.out.2.1.fin h1 h2).1) (by rw [lsf_snoc AW.out.2.1.laid.tri, ← htk, hT]; exact hs')
        obtain ⟨n, hn⟩ := AW.out.2.1.laid.node hs'
        have hdp := AW.out.2.1.laid.dp hs' hn
        obtain ⟨X, hX⟩ : ∃ X, longest ps = X := ⟨_, rfl⟩
        have hlong := longest_c wr AW.out.1
        rw [hX] at hlong
        obtain ⟨k0, hk0⟩ : ∃ k0, i + 1 - X = k0 := ⟨_, rfl⟩
        have hmx : max (0 : Int) ((i : Int) + 1 - (X : Int)) = (k0 : Int) := by omega
        have hXb : X < 1048576 := by
          rw [← hX]
          have := longest_le (B := 32) (fun p hp => (AG.out.len p hp).2)
          omega
        have hli := AT.out.1.below AW.out.2.2.2.1
        have AX : Aside (i < TL ∧ i < 300 ∧ t.take (i + 1) = T ∧ (words ps)[s']? = some (lsf (words ps) T) ∧ Lies wr ta t ∧ T.length = i + 1 ∧ nd[s']? = some n ∧ n.dp = (lsf (words ps) T).length ∧ longest ps = X ∧ i + 1 - X = k0 ∧ X < 1048576) := ⟨hgo.1, hgo.2, hT, hs', hli, by rw [← hT, List.length_take]; omega, hn, hdp, hX, hk0, hXb⟩
        rcases hli with hli | ⟨tb0, to0, rfl, htc⟩
        · rw [hli] at hil; simp at hil
        have cx := htc i x hx
        clear hil hx hx256 htk hT hs' hn hgo htc hdp hX hk0 hXb
        go_upto_region 9 with (go_at_call 27; refine hnext.mono ?_; rintro e4 w4 ⟨rfl, rfl⟩)
        clear hnext cx
        go_cut [9] from 38 to 95 (fun s9 wc => s9 = .int .i64 (k0 : Int) ∧ wc = wr)
        case first =>
          go_wp2_with (go_at_call 17; refine hlong.mono ?_; rintro e5 w5 ⟨rfl, rfl⟩)
          all_goals go_meet
          all_goals (
            have hx := AX.out
            have hw : wrap64 ((i : Int) + 1 - (X : Int)) = (i : Int) + 1 - (X : Int) := by unfold wrap64; omega
            rw [hw] at h
            clear hw
            refine ⟨?_, rfl⟩
            first | (rw [show (k0 : Int) = 0 by omega]; done) | (rw [show (k0 : Int) = (i : Int) + 1 - (X : Int) by omega]; first | rfl | (rw [w64_id _ (by omega) (by omega)])))
        obtain ⟨rfl, hwc⟩ := hcut
        have hwc' := hwc.symm
        clear hwc
        subst hwc'
        clear hlong
        obtain ⟨wo, hwo⟩ : ∃ wo, wo = wr := ⟨_, rfl⟩
        subst hwo
        go_wp2_with fail
        obtain ⟨M0, hM0⟩ : ∃ M0, i + 1 - k0 = M0 := ⟨_, rfl⟩
        go_loopg [9] M0 (fun g sk wr => ∃ k : Nat, sk = .int .i64 k ∧ Aside (k + g = i + 1 ∧ lsf (words ps) T = lsf (words ps) (T.drop k) ∧ Drawn wo wr))
        case atStart =>
          refine ⟨k0, ?_, ⟨?_, ?_, Drawn.refl _⟩⟩
          · rfl
          · have hx := AX.out; omega
          · have hx := AX.out
            refine lsf_skip T k0 (fun j hj => Or.inl fun hm => ?_)
            have := words_short hm
            rw [List.length_drop] at this
            omega
        case round =>
          obtain ⟨k, rfl, hK⟩ := hrel
          have hx0 := AX.out
          have hkb : k ≤ i + 1 := by have := hK.out; omega
          obtain ⟨D, hD⟩ : ∃ D, i + 1 - k = D := ⟨_, rfl⟩
          have hTd : (T.drop k).length = D := by rw [List.length_drop]; omega
          have AE : Aside (Below H w wr ∧ Below w.heap.size w wr ∧ Below w3.heap.size w3 wr) := ⟨AW.out.2.2.1.trans (hK.out.2.2.below _), AW.out.2.2.2.1.trans (hK.out.2.2.below _), hA.out.2.2.2.trans (hK.out.2.2.below _)⟩
          have hTT : Lies wr (some ⟨tb0, to0, none⟩) T := by rw [← hx0.2.2.1]; exact (AT.out.1.below AE.out.2.1).take (i + 1)
          have hTk : Lies wr (some ⟨tb0, to0 + k, none⟩) (T.drop k) := by
            rcases hTT with h | ⟨b1, o1, e1, h1⟩
            · rw [h] at hx0; simp at hx0
            · cases e1; exact lies_drop h1 k
          have AM : Aside (Mach wr base A L X nd G) := by
            have := AW.out.1.below (hK.out.2.2.below _)
            rw [hx0.2.2.2.2.2.2.2.2.1] at this
            exact this
          have hi1 : (i : Int) + 1 ≤ (TC : Int) := by have := AT.out; omega
          have hi0 : (0 : Int) ≤ (i : Int) + 1 := by omega
          have hit : ((i : Int) + 1).toNat = i + 1 := by omega
          have hkI : (k : Int) ≤ (i : Int) + 1 := by omega
          have hDi : (i : Int) + 1 - (k : Int) = (D : Int) := by omega
          have hkc : (k : Int) ≤ (TC : Int) := by omega
          by_cases hki : k ≤ i
          · have hkii : (k : Int) ≤ (i : Int) := by omega
            have hck2 : ¬ (TC : Int) = (k : Int) := by omega
            have hck2n : ¬ TC = k := by omega
            have hDn : i + 1 - k = D := by omega
            have hbeg := fun (cc : Nat) => begins_c a (some ⟨tb0, to0 + k, none⟩) ps (T.drop k) L C D cc wr (AB.out.2.1.below AE.out.2.1) AB.out.2.2.1 (by have := AB.out; omega) hTk hTd
            have hne : T.drop k ≠ [] := by intro h; rw [h] at hTd; simp at hTd; omega
            cases hq : begB ps (T.drop k) with
            | false =>
              rw [hq] at hbeg
              have hst : Aside (lsf (words ps) T = lsf (words ps) (T.drop (k + 1))) := by
                show _ = _
                rw [hK.out.2.1, lsf_skip (T.drop k) 1 (fun j hj => Or.inl (by rw [show j = 0 by omega, List.drop_zero]; intro hm; rw [(begB_words hne).2 hm] at hq; cases hq)), List.drop_drop]
              clear hTT hTk hTd hne hq hx0 hki hkb
              go_wp2_with (go_at_call 29; refine (hbeg _).mono ?_; rintro e6 w6 ⟨rfl, hd6⟩)
              have hkk := hK.out; have hx := AX.out
              go_roundg (i + 1 - (k + 1))
              case measure => omega
              case rel => exact ⟨k + 1, by first | (rw [w64_id _ (by omega) (by omega)]; rfl) | go_num, ⟨by omega, hst.out, hkk.2.2.trans hd6⟩⟩
            | true =>
              rw [hq] at hbeg
              have hu : lsf (words ps) T = T.drop k := by rw [hK.out.2.1]; exact lsf_of_mem ((begB_words hne).1 hq)
              have hword : ∀ W : World, Mach W base A L X nd G → Calls Tryd.prog 18 #[.pointer (some ⟨A, 0, none⟩), .int .i64 (s' : Int)] W fun e w' => e = .returned (.slice (some ⟨W.heap.size, 0, none⟩) D D) ∧ Bk w' W.heap.size (T.drop k) ∧ Below W.heap.size W w' := fun W hm => word_c s' (T.drop k) D W hm AW.out.2.1.laid (by rw [← hu]; exact hx0.2.2.2.1) hTd (by omega)
              have hdep : ∀ W : World, Mach W base A L X nd G → Calls Tryd.prog 24 #[.pointer (some ⟨A, 0, none⟩), .int .i64 (s' : Int)] W fun e w' => e = .returned (.int .i64 (D : Int)) ∧ W = w' := fun W hm => by
                have := depth_c s' n W hm hx0.2.2.2.2.2.2.1
                rw [hx0.2.2.2.2.2.2.2.1, hu, hTd] at this
                exact this
              have hDD : ((D : Int) != (D : Int)) = false := by simp
              have hsame := fun (h0 cc : Nat) (W : World) (h1 : Bk W h0 (T.drop k)) (h2 : Lies W (some ⟨tb0, to0 + k, none⟩) (T.drop k)) => same_yes (some ⟨h0, 0, none⟩) (some ⟨tb0, to0 + k, none⟩) (T.drop k) D D cc W hTd (by omega) h1.lies h2
              have AH : Aside (Lies wr (some ⟨tb0, to0 + k, none⟩) (T.drop k)) := hTk
              clear hTT hTk hTd hne hq hx0 hki hkb hu
              go_wp2_with (go_at_call 29; refine (hbeg _).mono ?_; rintro e6 w6 ⟨rfl, hd6⟩)
              have AM6 : Aside (Mach w6 base A L X nd G ∧ Lies w6 (some ⟨tb0, to0 + k, none⟩) (T.drop k) ∧ Below w3.heap.size w3 w6) := ⟨AM.out.below (hd6.below _), hd6.lies AH.out, AE.out.2.2.trans (hd6.below _)⟩
              clear hbeg hd6
              have hwr : ∀ z : Int, (z = (i : Int) + 1 ∨ z = (D : Int)) → IntKind.i64.wrap z = z := fun z hz => by rw [IntKind.wrap_i64]; rcases hz with hz | hz <;> (rw [hz]; omega)
              go_region_with (first
                | (go_at_call 18; refine (hword w6.drew AM6.out.1.drew).mono ?_; rintro e7 w7 ⟨rfl, hbk7, hb7⟩; have hb7' : Below w6.heap.size w6 w7 := ⟨hb7.1, hb7.2, hb7.3, hb7.4, hb7.5⟩; have A7 : Aside (Mach w7 base A L X nd G ∧ Lies w7 (some ⟨tb0, to0 + k, none⟩) (T.drop k) ∧ Below w3.heap.size w3 w7) := ⟨AM6.out.1.below hb7', AM6.out.2.1.below hb7', AM6.out.2.2.trans (hb7'.mono AM6.out.2.2.size)⟩; have B7 : Aside (Bk w7 w6.heap.size (T.drop k)) := hbk7; clear hbk7 hb7 hb7')
                | (go_at_call 20; refine (hsame w6.heap.size (TC - k) w7 B7.out A7.out.2.1).mono ?_; rintro e8 w8 ⟨rfl, hd8⟩; have A8 : Aside (Mach w8 base A L X nd G ∧ Below w3.heap.size w3 w8) := ⟨A7.out.1.below (hd8.below _), A7.out.2.2.trans (hd8.below _)⟩; clear hd8)
                | (go_at_call 24; refine (hdep w8 A8.out.1).mono ?_; rintro e9 w9 ⟨rfl, rfl⟩))
              all_goals (
                go_wp2_with fail
                have hx := AX.out
                go_roundg (300 - (i + 1))
                case measure => have := hA.out; omega
                case rel => exact ⟨s', i + 1, rfl, by first | rfl | go_num, ⟨by have := hA.out; omega, by omega, by rw [hx.2.2.1]; exact hx.2.2.2.1, ⟨A8.out.2.1, A8.out.2.2, A8.out.2.3, A8.out.2.4, A8.out.2.5⟩⟩⟩)
          · have hke : k = i + 1 := by omega
            have hD0 : D = 0 := by omega
            subst hke
            have hnil : T.drop (i + 1) = [] := List.eq_nil_of_length_eq_zero (by omega)
            have hu : lsf (words ps) T = [] := by rw [hK.out.2.1, hnil]; rfl
            have hword : ∀ W : World, Mach W base A L X nd G → Calls Tryd.prog 18 #[.pointer (some ⟨A, 0, none⟩), .int .i64 (s' : Int)] W fun e w' => e = .returned (.slice (some ⟨W.heap.size, 0, none⟩) 0 0) ∧ Bk w' W.heap.size [] ∧ Below W.heap.size W w' := fun W hm => word_c s' [] 0 W hm AW.out.2.1.laid (by rw [← hu]; exact hx0.2.2.2.1) rfl (by omega)
            have hdep : ∀ W : World, Mach W base A L X nd G → Calls Tryd.prog 24 #[.pointer (some ⟨A, 0, none⟩), .int .i64 (s' : Int)] W fun e w' => e = .returned (.int .i64 0) ∧ W = w' := fun W hm => by
              have := depth_c s' n W hm hx0.2.2.2.2.2.2.1
              rw [hx0.2.2.2.2.2.2.2.1, hu] at this
              exact this
            have hsame := fun (h0 cc : Nat) (b : Option Addr) (W : World) (h1 : Bk W h0 []) => same_yes (some ⟨h0, 0, none⟩) b [] 0 0 cc W rfl (by omega) h1.lies (Or.inl rfl)
            have hwr : ∀ z : Int, (z = (i : Int) + 1 ∨ z = 0) → IntKind.i64.wrap z = z := fun z hz => by rw [IntKind.wrap_i64]; rcases hz with hz | hz <;> (rw [hz]; omega)
            have hii : ¬ (i : Int) + 1 ≤ (i : Int) := by omega
            obtain ⟨w6, hw6⟩ : ∃ w6, w6 = wr := ⟨_, rfl⟩
            have AM6 : Aside (Mach w6 base A L X nd G ∧ Lies w6 none ([] : List Nat) ∧ Below w3.heap.size w3 w6) := ⟨by rw [hw6]; exact AM.out, Or.inl rfl, by rw [hw6]; exact AE.out.2.2⟩
            subst hw6
            clear hTT hTk hTd hnil hx0 hki hkb hu hDi hkI hD0 hD
            by_cases hct : TC = i + 1
            · have hct2 : i + 1 = TC := hct.symm
              have hct3 : (i : Int) + 1 = (TC : Int) := by omega
              have hwr3 : ∀ z : Int, (z = (TC : Int) ∨ z = 0) → IntKind.i64.wrap z = z := fun z hz => by rw [IntKind.wrap_i64]; rcases hz with hz | hz <;> (rw [hz]; omega)
              clear hct hwr
              go_wp2_with fail
              go_region_with (first
                | (go_at_call 18; refine (hword w6.drew AM6.out.1.drew).mono ?_; rintro e7 w7 ⟨rfl, hbk7, hb7⟩; have hb7' : Below w6.heap.size w6 w7 := ⟨hb7.1, hb7.2, hb7.3, hb7.4, hb7.5⟩; have A7 : Aside (Mach w7 base A L X nd G ∧ Lies w7 none ([] : List Nat) ∧ Below w3.heap.size w3 w7) := ⟨AM6.out.1.below hb7', AM6.out.2.1.below hb7', AM6.out.2.2.trans (hb7'.mono AM6.out.2.2.size)⟩; have B7 : Aside (Bk w7 w6.heap.size []) := hbk7; clear hbk7 hb7 hb7')
                | (go_at_call 20; refine (hsame w6.heap.size _ _ w7 B7.out).mono ?_; rintro e8 w8 ⟨rfl, hd8⟩; have A8 : Aside (Mach w8 base A L X nd G ∧ Below w3.heap.size w3 w8) := ⟨A7.out.1.below (hd8.below _), A7.out.2.2.trans (hd8.below _)⟩; clear hd8)
                | (go_at_call 24; refine (hdep w8 A8.out.1).mono ?_; rintro e9 w9 ⟨rfl, rfl⟩))
              all_goals (
                go_wp2_with fail
                have hx := AX.out
                go_roundg (300 - (i + 1))
                case measure => have := hA.out; omega
                case rel => exact ⟨s', i + 1, rfl, by first | rfl | (rw [hct2]) | go_num, ⟨by have := hA.out; omega, by omega, by rw [hx.2.2.1]; exact hx.2.2.2.1, ⟨A8.out.2.1, A8.out.2.2, A8.out.2.3, A8.out.2.4, A8.out.2.5⟩⟩⟩)
            · skip
              go_wp2_with fail
              go_region_with (first
                | (go_at_call 18; refine (hword w6.drew AM6.out.1.drew).mono ?_; rintro e7 w7 ⟨rfl, hbk7, hb7⟩; have hb7' : Below w6.heap.size w6 w7 := ⟨hb7.1, hb7.2, hb7.3, hb7.4, hb7.5⟩; have A7 : Aside (Mach w7 base A L X nd G ∧ Lies w7 none ([] : List Nat) ∧ Below w3.heap.size w3 w7) := ⟨AM6.out.1.below hb7', AM6.out.2.1.below hb7', AM6.out.2.2.trans (hb7'.mono AM6.out.2.2.size)⟩; have B7 : Aside (Bk w7 w6.heap.size []) := hbk7; clear hbk7 hb7 hb7')
                | (go_at_call 20; refine (hsame w6.heap.size _ _ w7 B7.out).mono ?_; rintro e8 w8 ⟨rfl, hd8⟩; have A8 : Aside (Mach w8 base A L X nd G ∧ Below w3.heap.size w3 w8) := ⟨A7.out.1.below (hd8.below _), A7.out.2.2.trans (hd8.below _)⟩; clear hd8)
                | (go_at_call 24; refine (hdep w8 A8.out.1).mono ?_; rintro e9 w9 ⟨rfl, rfl⟩))
              all_goals (
                go_wp2_with fail
                have hx := AX.out
                go_roundg (300 - (i + 1))
                case measure => have := hA.out; omega
                case rel => exact ⟨s', i + 1, rfl, by first | rfl | go_num, ⟨by have := hA.out; omega, by omega, by rw [hx.2.2.1]; exact hx.2.2.2.1, ⟨A8.out.2.1, A8.out.2.2, A8.out.2.3, A8.out.2.4, A8.out.2.5⟩⟩⟩)
      · have hwake := awake_c wr (AB.out.1.below AW.out.2.2.2.1)
        have AF : Aside (Below H w wr ∧ H ≤ wr.heap.size) := ⟨AW.out.2.2.1, AW.out.2.2.2.2⟩
        by_cases hiT : i < TL
        · have hi : (i : Int) < (TL : Int) := by omega
          have hi3 : ¬ (i : Int) < 300 := by omega
          clear hgo hiT
          go_wp2_with (go_at_call 13; refine hwake.mono ?_; rintro e6 w6 ⟨rfl, hb6⟩)
          go_ret
          exact ⟨rfl, AF.out.1.trans (hb6.mono AF.out.2)⟩
        · have hi : ¬ (i : Int) < (TL : Int) := by omega
          clear hgo hiT
          go_wp2_with (go_at_call 13; refine hwake.mono ?_; rintro e6 w6 ⟨rfl, hb6⟩)
          go_ret
          exact ⟨rfl, AF.out.1.trans (hb6.mono AF.out.2)⟩
  · have hbuild := build_err a2 ps L C2 w2 hr2 AB.out.2.2.1 hL2 (by have := AB.out; omega) AB.out.2.2.2.2.2.1 hz2 hck
    obtain ⟨z, hzz⟩ : ∃ z, chk ps = z := ⟨_, rfl⟩
    rw [hzz] at hbuild hck
    have AZ : Aside (chk ps = z) := hzz
    have h0i : ((z : Int) == 0) = false := by rw [beq_eq_false_iff_ne]; omega
    have h0n : ((z : Int) != 0) = true := by rw [bne_iff_ne]; omega
    have AE : Aside (Below H w w2 ∧ H ≤ w2.heap.size) := ⟨b2, s2⟩
    clear hr2 hz2 hL2 hck hzz b2 s2
    go_wp2_with fail
    refine hbuild.mono ?_
    rintro e3 w3 ⟨rfl, hb3⟩
    have b3 : Below H w w3 := AE.out.1.trans (hb3.mono AE.out.2)
    have s3 : H ≤ w3.heap.size := Nat.le_trans AE.out.2 hb3.size
    have hwake := awake_c w3 (AB.out.1.below (by rw [AB.out.2.2.2.2.2.2.2]; exact b3))
    clear hb3 hbuild
    go_wp2_with (go_at_call 13; refine hwake.mono ?_; rintro e6 w6 ⟨rfl, hb6⟩)
    have b6 : Below H w w6 := b3.trans (hb6.mono s3)
    have s6 : H ≤ w6.heap.size := Nat.le_trans s3 hb6.size
    have b6w : Below w.heap.size w w6 := by rw [AB.out.2.2.2.2.2.2.2]; exact b6
    refine (copy_c a ps L C w6 (AB.out.2.1.below b6w) AB.out.2.2.1 AB.out.2.2.2.1 (by have := AB.out; omega)).mono ?_
    rintro e4 w4 ⟨v4, rfl, hc4⟩
    obtain ⟨a4, C4, hv4, hL4, hr4, hz4⟩ := hc4.rows
    rw [AB.out.2.2.1] at hv4 hL4
    subst hv4
    have b4 : Below H w w4 := b6.trans (hc4.bel.mono s6)
    have s4 : H ≤ w4.heap.size := Nat.le_trans s6 hc4.bel.size
    go_wp2_with fail
    refine (check_c a4 ps L C4 w4 hr4 AB.out.2.2.1 hL4 (by have := AB.out; omega) AB.out.2.2.2.2.2.1 hz4).mono ?_
    rintro e5 w5 ⟨rfl, hb5⟩
    have AF : Aside (Below H w w5) := b4.trans (hb5.mono s4)
    rw [AZ.out]
    have hzz : ((z : Int) == (z : Int)) = true := by simp
    clear hb5 hr4 hz4 hL4 hc4 b4 s4 b6 s6 b6w hb6 b3 s3
    go_wp2_with fail
    go_ret
    exact ⟨rfl, AF.out⟩
end Go.Proofs.YtbepbjbbhenphaaDoor

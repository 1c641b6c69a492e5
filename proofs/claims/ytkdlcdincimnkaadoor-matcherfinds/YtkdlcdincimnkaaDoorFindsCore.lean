/-
  MatcherFinds, behind the opening of its arguments: the call answers true, and what lay in memory is as it was.
  Conditions: the library's table holds what its text lays there; the patterns and the text lie in memory.
-/
import Derived.Test.YtkdlcdincimnkaaDoorWake
namespace Go.Proofs.YtkdlcdincimnkaaDoor
open Go.RowKit
set_option linter.unusedVariables false
set_option maxRecDepth 100000 in
set_option maxHeartbeats 8000000 in
theorem finds_core (w : World) (hT : Tab w) (a : Option Addr) (ps : List (List Nat)) (L C : Nat) (hp : Rows2 w a ps) (hL : ps.length = L) (hLC : L ≤ C) (hC : C * 24 < 140737488355328) (ho : Octs ps) (hz : a = none → C = 0)
    (ta : Option Addr) (t : List Nat) (TL TC : Nat) (ht : Lies w ta t) (hTL : t.length = TL) (hTC : TL ≤ TC) (hTb : TC < 140737488355328) (hto : Oct t) (htz : ta = none → TL = 0) :
    Calls Tryd.prog 6 #[.slice a L C, .slice ta TL TC] w fun e w' => e = .returned (.bool true) ∧ Below w.heap.size w w' := by
  obtain ⟨H, hH⟩ : ∃ H, w.heap.size = H := ⟨_, rfl⟩
  have AB : Aside (Tab w ∧ Rows2 w a ps ∧ ps.length = L ∧ L ≤ C ∧ C * 24 < 140737488355328 ∧ Octs ps ∧ (a = none → C = 0) ∧ w.heap.size = H) := ⟨hT, hp, hL, hLC, hC, ho, hz, hH⟩
  have AT : Aside (Lies w ta t ∧ t.length = TL ∧ TL ≤ TC ∧ TC < 140737488355328 ∧ Oct t ∧ (ta = none → TL = 0)) := ⟨ht, hTL, hTC, hTb, hto, htz⟩
  have cop := copy_c a ps L C w hp hL hLC (by omega)
  rw [hH]
  clear hT hp hL hLC hC ho hz hH ht hTL hTC hTb hto htz
  go_enter Tryd.func6, Tryd.ntmps6
  go_wp2_with fail
  refine cop.mono ?_
  rintro e2 w2 ⟨v2, rfl, hc2⟩
  obtain ⟨a2, C2, hv2, hL2, hr2, hz2⟩ := hc2.rows
  rw [AB.out.2.2.1] at hv2 hL2
  subst hv2
  have b2 : Below H w w2 := by have := hc2.bel; rw [AB.out.2.2.2.2.2.2.2] at this; exact this
  have s2 : H ≤ w2.heap.size := by have := hc2.bel.size; rw [AB.out.2.2.2.2.2.2.2] at this; exact this
  clear cop hc2
  by_cases hck : chk ps = 0
  · have hbuild := build_ok a2 ps L C2 w2 hr2 AB.out.2.2.1 hL2 (by have := AB.out; omega) AB.out.2.2.2.2.2.1 hz2 hck
    have AG : Aside (Good ps) := chk_good hck
    clear hr2 hz2 hL2 hck
    go_wp2_with fail
    refine hbuild.mono ?_
    rintro e3 w3 ⟨A, rfl, nd, G, hm3, hf3, hb3⟩
    have A3 : Aside (∃ base, Mach w3 base A L (longest ps) nd G ∧ Full ps nd G ∧ Below H w w3 ∧ H ≤ w3.heap.size) := ⟨_, hm3, hf3, b2.trans (hb3.mono s2), Nat.le_trans s2 hb3.size⟩
    obtain ⟨M, hM⟩ : ∃ M, w3.heap.size = M := ⟨_, rfl⟩
    have hnew := new_c A w3
    rw [hM] at hnew
    clear hbuild hm3 hf3 hb3 b2 s2
    go_wp2_with (go_at_call 12; refine hnew.mono ?_; rintro e4 w4 ⟨rfl, hm4, hb4⟩)
    have A4 : Aside (Mt w4 M 0 0 A ∧ Below w3.heap.size w3 w4 ∧ w3.heap.size = M) := ⟨hm4, by rw [hM]; exact hb4, hM⟩
    clear hnew hm4 hb4 hM
    go_loopg [9] 400 (fun g si wr => ∃ i : Nat, si = .int .i64 i ∧ Aside (i + g = 400 ∧ i ≤ TL ∧ (∃ s, Mt wr M s i A ∧ (words ps)[s]? = some (lsf (words ps) (t.take i))) ∧ Below w3.heap.size w3 wr))
    case atStart =>
      obtain ⟨base, hm3, hf3, _⟩ := A3.out
      exact ⟨0, rfl, ⟨by omega, by omega, ⟨0, A4.out.1, by simpa [lsf] using hf3.laid.tri.zero⟩, A4.out.2.1⟩⟩
    case round =>
      obtain ⟨i, rfl, hA⟩ := hrel
      obtain ⟨base, hm3, hf3, hbw3, hs3⟩ := A3.out
      have hbH : Below H w wr := hbw3.trans (hA.out.2.2.2.mono hs3)
      have hbw : Below w.heap.size w wr := by rw [AB.out.2.2.2.2.2.2.2]; exact hbH
      have hsz : H ≤ wr.heap.size := by have := hbw.size; rw [AB.out.2.2.2.2.2.2.2] at this; exact this
      have hb3w : Below w.heap.size w w3 := by rw [AB.out.2.2.2.2.2.2.2]; exact hbw3
      have AW : Aside (Mach w3 base A L (longest ps) nd G ∧ Full ps nd G ∧ Below H w wr ∧ Below w.heap.size w wr ∧ H ≤ wr.heap.size ∧ Tab w3 ∧ Below H w w3 ∧ H ≤ w3.heap.size) := ⟨hm3, hf3, hbH, hbw, hsz, AB.out.1.below hb3w, hbw3, hs3⟩
      clear hm3 hf3 hbw3 hs3 hbH hbw hsz hb3w
      by_cases hgo : i < TL ∧ i < 400
      · have hi : (i : Int) < (TL : Int) := by omega
        have hi3 : (i : Int) < 400 := by omega
        have hil : i < t.length := by have := AT.out; omega
        obtain ⟨x, hx⟩ : ∃ x, t[i]? = some x := ⟨_, List.getElem?_eq_getElem hil⟩
        have hx256 : x < 256 := AT.out.2.2.2.2.1 x (List.mem_of_getElem? hx)
        have htk : t.take (i + 1) = t.take i ++ [x] := take_snoc hx
        obtain ⟨T, hT⟩ : ∃ T, t.take (i + 1) = T := ⟨_, rfl⟩
        obtain ⟨s, hmt, hws⟩ := hA.out.2.2.1
        have hstep := step_c w3 wr AW.out.1 AW.out.2.1 AG.out AW.out.2.2.2.2.2.1 hA.out.2.2.2 M s x i _ (by have := A4.out.2.2; omega) hmt hws hx256 (by omega)
        rw [lsf_snoc AW.out.2.1.laid.tri, ← htk, hT, endsOf_text words_sub, show min (i + 1) 4611686018427387904 = i + 1 by omega] at hstep
        have hli := AT.out.1.below AW.out.2.2.2.1
        have AX : Aside (i < TL ∧ i < 400 ∧ t.take (i + 1) = T ∧ True ∧ Lies wr ta t ∧ T.length = i + 1) := ⟨hgo.1, hgo.2, hT, trivial, hli, by rw [← hT, List.length_take]; omega⟩
        rcases hli with hli | ⟨tb0, to0, rfl, htc⟩
        · rw [hli] at hil; simp at hil
        have cx := htc i x hx
        clear hil hx hx256 htk hT hgo htc hmt hws
        go_wp2_with (go_at_call 18; refine hstep.mono ?_; rintro e5 w5 ⟨v5, s5, rfl, hs5, hm5, hb5, ho5⟩)
        obtain ⟨ar, cr, hv5, hnum5, hlc5, hz5, _⟩ := ho5.shape
        obtain ⟨OL, hOL⟩ : ∃ OL, (endsOf ps T).length = OL := ⟨_, rfl⟩
        rw [hOL] at hv5
        subst hv5
        have A5 : Aside (Nums w5 ar (endsOf ps T) ∧ (endsOf ps T).length = OL ∧ Below H w w5 ∧ Below w.heap.size w w5 ∧ Below w3.heap.size w3 w5 ∧ OL ≤ L ∧ Mt w5 M s5 (i + 1) A ∧ (words ps)[s5]? = some (lsf (words ps) T)) := by
          have k0 : Below w3.heap.size w3 w5 := hA.out.2.2.2.trans (hb5.below (by have := A4.out.2.2; omega) hA.out.2.2.2.size)
          have k1 : Below H w w5 := AW.out.2.2.2.2.2.2.1.trans (k0.mono AW.out.2.2.2.2.2.2.2)
          refine ⟨hnum5, hOL, k1, by rw [AB.out.2.2.2.2.2.2.2]; exact k1, k0, ?_, hm5, hs5⟩
          have := endsOf_len ps T
          rw [AB.out.2.2.1] at this
          omega
        clear hstep ho5 hnum5 hlc5 hz5 hOL cx hs5 hm5 hb5
        go_loopg [11, 12] L (fun g sn sk wr => ∃ (n k : Nat), sn = .int .i64 n ∧ sk = .int .i64 k ∧ Aside (k + g = L ∧ n = ((List.range k).filter (endsB ps T)).length ∧ Drawn w5 wr))
        case atStart => exact ⟨0, 0, rfl, rfl, ⟨by omega, rfl, Drawn.refl _⟩⟩
        case round =>
          obtain ⟨n, k, rfl, rfl, hK⟩ := hrel
          have AE : Aside (Below H w wr ∧ Below w.heap.size w wr ∧ Below w3.heap.size w3 wr) := ⟨A5.out.2.2.1.trans (hK.out.2.2.below _), A5.out.2.2.2.1.trans (hK.out.2.2.below _), A5.out.2.2.2.2.1.trans (hK.out.2.2.below _)⟩
          by_cases hkL : k < L
          · have hk : (k : Int) < (L : Int) := by omega
            have hkl : k < ps.length := by have := AB.out; omega
            obtain ⟨p, hp⟩ : ∃ p, ps[k]? = some p := ⟨_, List.getElem?_eq_getElem hkl⟩
            rcases AB.out.2.1 with e | ⟨pb, po, rfl, hc⟩
            · rw [e] at hkl; simp at hkl
            obtain ⟨ai, ci, c1, c2, c3, c4, c5⟩ := hc k p hp
            have c1' : wr.cell? ⟨pb, po + k, none⟩ = some (.slice ai p.length ci) := (AE.out.2.1.cell (p := ⟨pb, po + k, none⟩) (World.block_lt_of_cell? w ⟨pb, po + k, none⟩ c1)).trans c1
            have hlt : Lies wr (some ⟨tb0, to0, none⟩) T := by rw [← AX.out.2.2.1]; exact (AT.out.1.below AE.out.2.1).take (i + 1)
            have hlp := c2.below AE.out.2.1
            have hends := fun (W : World) (hW : Drawn wr W) => ends_c (some ⟨tb0, to0, none⟩) ai T p (i + 1) TC p.length ci W (hW.lies hlt) (hW.lies hlp) AX.out.2.2.2.2.2 rfl (by have := AX.out; have := AT.out; omega) (by have := AX.out; omega) (fun h => by cases h) (AG.out.len p (List.mem_of_getElem? hp)).1
            have hb : endsB ps T k = p.isSuffixOf T := by unfold endsB; rw [hp]
            rw [← hb] at hends
            have hi1 : (i : Int) + 1 ≤ (TC : Int) := by have := AX.out; have := AT.out; omega
            have hi0 : (0 : Int) ≤ (i : Int) + 1 := by omega
            have hit : ((i : Int) + 1).toNat = i + 1 := by omega
            obtain ⟨m, hm⟩ : ∃ m, p.length = m := ⟨_, rfl⟩
            rw [hm] at hends c1'
            have AK : Aside (k < L) := hkL
            have hDw : Drawn wr wr := Drawn.refl _
            clear hkl hp hc c1 c2 c3 c4 c5 hm hkL hb
            cases hq : endsB ps T k with
            | false =>
              rw [hq] at hends
              have hlen : Aside (n = ((List.range (k + 1)).filter (endsB ps T)).length) := by show _ = _; rw [filter_succ_len, hq, ← hK.out.2.1]; rfl
              clear hlt hlp
              go_wp2_with fail
              go_quiet (first | (go_at_call 26; refine Calls.quiet_of (hends _ ?_); exact hDw.drewN _))
              go_wp2_with fail
              have hkk := hK.out; have hk1 := AK.out; have hl := A5.out.2.2.2.2.2.1; have hC := AB.out
              go_roundg (L - (k + 1))
              case measure => omega
              case rel => exact ⟨n, k + 1, rfl, by first | (rw [w64_id _ (by omega) (by omega)]; rfl) | go_num, ⟨by omega, hlen.out, hkk.2.2.drewN _⟩⟩
            | true =>
              rw [hq] at hends
              have hlen : Aside (n + 1 = ((List.range (k + 1)).filter (endsB ps T)).length) := by show _ = _; rw [filter_succ_len, hq, ← hK.out.2.1]; rfl
              have hat : (endsOf ps T)[n]? = some k := by
                rw [hK.out.2.1]
                exact filter_at (endsB ps T) (P := ps.length) (by have := AB.out; have := AK.out; omega) hq
              have hnO : n < OL := by rw [← A5.out.2.1]; exact (List.getElem?_eq_some_iff.1 hat).1
              have hni : ¬ (OL : Int) ≤ (n : Int) := by omega
              have hni2 : (n : Int) < (OL : Int) := by omega
              have hnd : decide (OL ≤ n) = false := decide_eq_false (by omega)
              have hnd2 : decide ((OL : Int) ≤ (n : Int)) = false := decide_eq_false hni
              rcases A5.out.1 with e | ⟨ob, oo, rfl, hoc⟩
              · rw [e] at hat; simp at hat
              have hcell := fun (nq : Nat) => (hK.out.2.2.drewN nq).cell (hoc n k hat)
              have hkz : ((k : Int) != (k : Int)) = false := by simp
              clear hat hoc hlt hlp
              go_wp2_with fail
              go_quiet (first | (go_at_call 26; refine Calls.quiet_of (hends _ ?_); exact hDw.drewN _))
              have hcell2 := hcell nq
              clear hcell hends
              have hnb : (n : Int) + 1 < 9223372036854775808 := by have := A5.out.2.2.2.2.2.1; have := AB.out; omega
              have AD : Aside (Drawn w5 (wr.drewN nq)) := hK.out.2.2.drewN nq
              generalize wr.drewN nq = w7 at *
              go_wp2_with fail
              have hkk := hK.out; have hk1 := AK.out; have hl := A5.out.2.2.2.2.2.1; have hC := AB.out
              go_roundg (L - (k + 1))
              case measure => omega
              case rel => exact ⟨n + 1, k + 1, by first | (rw [w64_id _ (by omega) (by omega)]; rfl) | go_num, by first | (rw [w64_id _ (by omega) (by omega)]; rfl) | go_num, ⟨by omega, hlen.out, AD.out⟩⟩
          · have hk : ¬ (k : Int) < (L : Int) := by omega
            have hnO : n = OL := by
              rw [hK.out.2.1, ← A5.out.2.1, show k = L by have := hK.out; omega]
              unfold endsOf
              rw [AB.out.2.2.1]
            subst hnO
            have hne : ((n : Int) != (n : Int)) = false := by simp
            have hmr : Mt wr M s5 (i + 1) A := by
              obtain ⟨nn, hnn⟩ := hK.out.2.2
              rw [hnn]; exact Cells.drewN A5.out.2.2.2.2.2.2.1 nn
            have hat := at_c M s5 (i + 1) A wr hmr
            rw [show ((i + 1 : Nat) : Int) = (i : Int) + 1 by omega] at hat
            have AMr : Aside (Mt wr M s5 (i + 1) A) := hmr
            have hii : ((i : Int) + 1 != (i : Int) + 1) = false := by simp
            clear hkL hmr
            go_wp2_with (go_at_call 22; refine hat.mono ?_; rintro e8 w8 ⟨rfl, rfl⟩)
            have hx := AX.out
            go_roundg (400 - (i + 1))
            case measure => have := hA.out; omega
            case rel => exact ⟨i + 1, by first | rfl | go_num, ⟨by omega, by omega, ⟨s5, AMr.out, by rw [hx.2.2.1]; exact A5.out.2.2.2.2.2.2.2⟩, AE.out.2.2⟩⟩
      · have hwake := awake_c wr (AB.out.1.below AW.out.2.2.2.1)
        have AF : Aside (Below H w wr ∧ H ≤ wr.heap.size) := ⟨AW.out.2.2.1, AW.out.2.2.2.2.1⟩
        by_cases hiT : i < TL
        · have hi : (i : Int) < (TL : Int) := by omega
          have hi3 : ¬ (i : Int) < 400 := by omega
          clear hgo hiT
          go_wp2_with (go_at_call 13; refine hwake.mono ?_; rintro e6 w6 ⟨rfl, hb6⟩)
          go_ret
          exact ⟨rfl, AF.out.1.trans (hb6.mono AF.out.2)⟩
        · have hi : ¬ (i : Int) < (TL : Int) := by omega
          clear hgo hiT
          go_wp2_with (go_at_call 13; refine hwake.mono ?_; rintro e6 w6 ⟨rfl, hb6⟩)
          go_ret
          exact ⟨rfl, AF.out.1.trans (hb6.mono AF.out.2)⟩
  · have hbuild := build_err a2 ps L C2 w2 hr2 AB.out.2.2.1 hL2 (by have := AB.out; omega) AB.out.2.2.2.2.2.1 hz2 hck
    obtain ⟨z, hzz⟩ : ∃ z, chk ps = z := ⟨_, rfl⟩
    rw [hzz] at hbuild hck
    have h0i : ((z : Int) == 0) = false := by rw [beq_eq_false_iff_ne]; omega
    have h0n : ((z : Int) != 0) = true := by rw [bne_iff_ne]; omega
    have AE : Aside (Below H w w2 ∧ H ≤ w2.heap.size) := ⟨b2, s2⟩
    clear hr2 hz2 hL2 hck hzz b2 s2
    go_wp2_with fail
    refine hbuild.mono ?_
    rintro e3 w3 ⟨rfl, hb3⟩
    have AF : Aside (Below H w w3 ∧ H ≤ w3.heap.size) := ⟨AE.out.1.trans (hb3.mono AE.out.2), Nat.le_trans AE.out.2 hb3.size⟩
    have hwake := awake_c w3 (AB.out.1.below (by rw [AB.out.2.2.2.2.2.2.2]; exact AF.out.1))
    have hnew := new_nil w3
    clear hb3 hbuild
    go_wp2_with (first
      | (go_at_call 12; refine hnew.mono ?_; rintro e4 w4 ⟨rfl, rfl⟩)
      | (go_at_call 13; refine hwake.mono ?_; rintro e6 w6 ⟨rfl, hb6⟩))
    go_ret
    exact ⟨rfl, AF.out.1.trans (hb6.mono AF.out.2)⟩
end Go.Proofs.YtkdlcdincimnkaaDoor

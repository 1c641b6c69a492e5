/-
  MatcherPlays, behind the opening of its arguments: the call answers true, and what lay in memory is as it was.
  Conditions: the library's table holds what its text lays there; the patterns and the calls lie in memory.
-/
import Derived.Test.YtkdlcdincimnkaaDoorRefMade
import Derived.Test.YtkdlcdincimnkaaDoorRefOut
import Derived.Test.YtkdlcdincimnkaaDoorWake
import Derived.Test.YtkdlcdincimnkaaDoorActs
namespace Go.Proofs.YtkdlcdincimnkaaDoor
open Go.RowKit
set_option linter.unusedVariables false
/-- The matcher at work: all that lay below it is as it was. -/
structure Pl (w4 wr : World) (M A s p : Nat) : Prop where
  mt : Mt wr M s p A
  bel : Below w4.heap.size w4 wr
  at_ : M = w4.heap.size
theorem Pl.below {w4 w u : World} {M A s p : Nat} (h : Pl w4 w M A s p) (k : Below w.heap.size w u) : Pl w4 u M A s p :=
  ⟨h.mt.below k h.mt.lt, h.bel.trans (k.mono h.bel.size), h.at_⟩
theorem Pl.but {w4 w u : World} {M A s p s' p' : Nat} (h : Pl w4 w M A s p) (k : But M w u) (hm : Mt u M s' p' A) : Pl w4 u M A s' p' :=
  ⟨hm, h.bel.trans (k.below (Nat.le_of_eq h.at_.symm) h.bel.size), h.at_⟩
/-- A list of numbers in a block behind the matcher, from its place k on. -/
def Tail (w : World) (M : Nat) (oa : Option Addr) (E : List Nat) (k : Nat) : Prop := E = [] ∨ ∃ ob cur, oa = some ⟨ob, 0, none⟩ ∧ Cells w ob cur 3 ∧ M < ob ∧ ∀ j x, k ≤ j → E[j]? = some x → cur[j]? = some (.int .i64 (x : Int))
theorem words_32 {ps : List (List Nat)} (hg : Good ps) {u : List Nat} (h : u ∈ words ps) : u.length ≤ 32 := by
  rcases words_mem_iff.1 h with rfl | ⟨p, hp, hpre⟩
  · simp
  · exact Nat.le_trans hpre.length_le (hg.len p hp).2
theorem endsOf_lt {ps : List (List Nat)} {u : List Nat} {i x : Nat} (h : (endsOf ps u)[i]? = some x) : x < ps.length := by
  have := List.mem_of_getElem? h
  unfold endsOf at this
  exact List.mem_range.1 (List.mem_filter.1 this).1
set_option maxRecDepth 100000 in
set_option maxHeartbeats 8000000 in
theorem plays_core (w : World) (hT : Tab w) (a : Option Addr) (ps : List (List Nat)) (L C : Nat) (hp : Rows2 w a ps) (hL : ps.length = L) (hLC : L ≤ C) (hC : C * 24 < 140737488355328) (ho : Octs ps) (hz : a = none → C = 0)
    (ca : Option Addr) (cl CC : Nat) (hacts : Acts w ca cl) (hcl : cl ≤ maxLen) :
    Calls Tryd.prog 3 #[.slice a L C, .slice ca cl CC] w fun e w' => e = .returned (.bool true) ∧ Below w.heap.size w w' := by
  obtain ⟨H, hH⟩ : ∃ H, w.heap.size = H := ⟨_, rfl⟩
  have AB : Aside (Tab w ∧ Rows2 w a ps ∧ ps.length = L ∧ L ≤ C ∧ C * 24 < 140737488355328 ∧ Octs ps ∧ (a = none → C = 0) ∧ w.heap.size = H) := ⟨hT, hp, hL, hLC, hC, ho, hz, hH⟩
  have AC : Aside (Acts w ca cl ∧ cl ≤ 9223372036854775807) := ⟨hacts, by unfold maxLen at hcl; omega⟩
  clear hacts hcl hT
  by_cases hck : chk ps = 0
  · have hq := rbuild_ok a ps L C w hp hL hLC (by omega) ho hck
    have AG : Aside (Good ps ∧ chk ps = 0) := ⟨chk_good hck, hck⟩
    clear hp hL hLC hC ho hz hck
    rw [hH] at hq ⊢
    clear hH
    go_enter Tryd.func3, Tryd.ntmps3
    go_upto_region 2 with (go_at_call 9; refine hq.mono ?_; rintro e1 w1 ⟨Q, kids, rfl, hm1, hb1⟩)
    have hbw1 : Below w.heap.size w w1 := by rw [AB.out.2.2.2.2.2.2.2]; exact hb1
    have cop := copy_c a ps L C w1 (AB.out.2.1.below hbw1) AB.out.2.2.1 AB.out.2.2.2.1 (by have := AB.out; omega)
    have A1 : Aside (Rm w1 Q (words ps).length a L C (words ps) kids ∧ Below w.heap.size w w1) := ⟨hm1, hbw1⟩
    clear hq hm1 hb1 hbw1
    go_wp2_with fail
    refine cop.mono ?_
    rintro e2 w2 ⟨v2, rfl, hc2⟩
    obtain ⟨a2, C2, hv2, hL2, hr2, hz2⟩ := hc2.rows
    rw [AB.out.2.2.1] at hv2 hL2
    subst hv2
    have hbuild := build_ok a2 ps L C2 w2 hr2 AB.out.2.2.1 hL2 (by have := AB.out; omega) AB.out.2.2.2.2.2.1 hz2 AG.out.2
    have A2 : Aside (Below w1.heap.size w1 w2) := hc2.bel
    clear cop hc2 hr2 hz2 hL2
    go_wp2_with fail
    refine hbuild.mono ?_
    rintro e3 w3 ⟨A, rfl, nd, G, hm3, hf3, hb3⟩
    have hb13 : Below w1.heap.size w1 w3 := A2.out.trans (hb3.mono A2.out.size)
    have hbw3 : Below w.heap.size w w3 := A1.out.2.trans (hb13.mono A1.out.2.size)
    obtain ⟨N, hN⟩ : ∃ N, (words ps).length = N := ⟨_, rfl⟩
    have hndN : nd.length = N := by rw [← hN]; exact hf3.laid.len
    obtain ⟨M, hM⟩ : ∃ M, w3.heap.size = M := ⟨_, rfl⟩
    have A3 : Aside (∃ base, Mach w3 base A L (longest ps) nd G ∧ Full ps nd G ∧ Rm w3 Q N a L C (words ps) kids ∧ Tab w3 ∧ Below w.heap.size w w3 ∧ (words ps).length = N ∧ nd.length = N ∧ w3.heap.size = M ∧ N ≤ 2049) := ⟨_, hm3, hf3, by rw [← hN]; exact A1.out.1.below hb13, AB.out.1.below hbw3, hbw3, hN, hndN, hM, by rw [← hN]; have := words_few AG.out.1 ps.length; rwa [List.take_length] at this⟩
    have hnew := new_c A w3
    rw [hM] at hnew
    clear hbuild hm3 hf3 hb3 A1 A2 hb13 hbw3 hN hndN
    go_upto_region 9 with (go_at_call 12; refine hnew.mono ?_; rintro e4 w4 ⟨rfl, hm4, hb4⟩)
    have A4 : Aside (Pl w3 w4 M A 0 0) := ⟨hm4, by rw [hM]; exact hb4, hM.symm⟩
    clear hnew hm4 hb4 hM
    go_wp2_with fail
    go_loopg [11, 12, 13] cl (fun g ss sp si wr => ∃ (s p i : Nat), ss = .int .i64 s ∧ sp = .int .i64 p ∧ si = .int .i64 i ∧ Aside (i + g = cl ∧ Pl w3 wr M A s p ∧ s < N ∧ p ≤ 4611686018427387904))
    case atStart =>
      obtain ⟨base, _, hf3, _, _, _, hN, _⟩ := A3.out
      exact ⟨0, 0, 0, rfl, rfl, rfl, ⟨by omega, A4.out, by rw [← hN]; exact hf3.laid.tri.pos, by omega⟩⟩
    case round =>
      obtain ⟨s, p, i, rfl, rfl, rfl, hI⟩ := hrel
      by_cases hic : i < cl
      · have hi : (i : Int) < (cl : Int) := by omega
        rcases AC.out.1 with e | ⟨cb, co, KK, X, Z, Y, rfl, hcb, hcc⟩
        · omega
        obtain ⟨g0, g1, g2, g3, hK, hZ, hY, hX⟩ := hcc i hic
        obtain ⟨base, hm3, hf3, hrm3, hT3, hbw3, hN, hnd, hM3, hNb⟩ := A3.out
        have hbw : Below w.heap.size w wr := hbw3.trans (hI.out.2.1.bel.mono hbw3.size)
        have g0' := (hbw.cell (p := ⟨cb, co + i * 4, none⟩) hcb).trans g0
        have g1' := (hbw.cell (p := ⟨cb, co + i * 4 + 1, none⟩) hcb).trans g1
        have g2' := (hbw.cell (p := ⟨cb, co + i * 4 + 2, none⟩) hcb).trans g2
        have g3' := (hbw.cell (p := ⟨cb, co + i * 4 + 3, none⟩) hcb).trans g3
        have AI : Aside (i < cl) := hic
        clear g0 g1 g2 g3 hcc hcb hic hbw
        go_upto_region 13 with fail
        obtain ⟨kk, hkk, hkk2⟩ := byte_of_wf hK
        obtain ⟨x, hx, hx2⟩ := byte_of_wf hX
        rw [hkk, hx]
        obtain ⟨c, hc4, hc4l⟩ : ∃ c : Nat, (kk : Int) % 4 = (c : Int) ∧ c < 4 := ⟨kk % 4, by omega, by omega⟩
        clear g0' g1' g2' g3' hkk hK hX hx
        generalize Z i = z at *
        generalize Y i = y at *
        have hPM : M < wr.heap.size := hI.out.2.1.mt.lt
        generalize hwa : wr.alloc (Obj.cells #[Value.int IntKind.u8 (kk : Int), Value.int IntKind.u8 (x : Int), Value.int IntKind.i64 z, Value.int IntKind.i64 y] 37) = wa
        have hca : Cells wa wr.heap.size #[Value.int IntKind.u8 (kk : Int), Value.int IntKind.u8 (x : Int), Value.int IntKind.i64 z, Value.int IntKind.i64 y] 37 := by rw [← hwa]; exact Cells.new _ _ _
        have hpa : Pl w3 wa M A s p := by rw [← hwa]; exact hI.out.2.1.below ((Below.refl _ wr).alloc (Nat.le_refl _) _)
        clear hwa
        generalize wr.heap.size = P at hca hPM ⊢
        have k0 : wa.cell? ⟨P, 0, none⟩ = some (.int .u8 (kk : Int)) := (hca.cell 0).trans rfl
        have k1 : wa.cell? ⟨P, 1, none⟩ = some (.int .u8 (x : Int)) := (hca.cell 1).trans rfl
        have k2 : wa.cell? ⟨P, 2, none⟩ = some (.int .i64 z) := (hca.cell 2).trans rfl
        have k3 : wa.cell? ⟨P, 3, none⟩ = some (.int .i64 y) := (hca.cell 3).trans rfl
        have AA : Aside (Cells wa P #[Value.int IntKind.u8 (kk : Int), Value.int IntKind.u8 (x : Int), Value.int IntKind.i64 z, Value.int IntKind.i64 y] 37 ∧ Pl w3 wa M A s p ∧ M < P ∧ s < N ∧ p ≤ 4611686018427387904 ∧ x < 256 ∧ P < wa.heap.size) := ⟨hca, hpa, hPM, hI.out.2.2.1, hI.out.2.2.2, hx2, hca.lt⟩
        have AM : Aside (Mach w3 base A L (longest ps) nd G ∧ Full ps nd G ∧ Rm w3 Q N a L C (words ps) kids ∧ Tab w3 ∧ Below w.heap.size w w3 ∧ (words ps).length = N ∧ nd.length = N ∧ w3.heap.size = M ∧ N ≤ 2049) := ⟨hm3, hf3, hrm3, hT3, hbw3, hN, hnd, hM3, hNb⟩
        have AZ : Aside ((Lit.int .i64 z).wf = true ∧ (Lit.int .i64 y).wf = true) := ⟨hZ, hY⟩
        clear hca hpa hPM hx2 hm3 hf3 hrm3 hT3 hbw3 hN hnd hM3 hNb hZ hY hkk2
        go_upto_block 2 with fail
        rw [hc4]
        clear hc4 k0
        go_cut [11, 12] (fun s11 s12 wc => Aside (∃ s p : Nat, s11 = .int .i64 s ∧ s12 = .int .i64 p ∧ Pl w3 wc M A s p ∧ s < N ∧ p ≤ 4611686018427387904))
        case first =>
          match c, hc4l with
          | 0, _ =>
            obtain ⟨u, hu⟩ : ∃ u, (words ps)[s]? = some u := ⟨_, List.getElem?_eq_getElem (by have := AA.out; have := AM.out; omega)⟩
            obtain ⟨r, hr⟩ := mem_at (lsf_mem AM.out.2.1.laid.tri.nil_mem (u ++ [x]))
            have hu32 := words_32 AG.out.1 (List.mem_of_getElem? hu)
            have hr32 := words_32 AG.out.1 (List.mem_of_getElem? hr)
            have hnx := rnext_c s x r u wa (AM.out.2.2.1.below AA.out.2.1.bel) hu (by omega) hr
            have AU : Aside ((words ps)[s]? = some u ∧ (words ps)[r]? = some (lsf (words ps) (u ++ [x])) ∧ (lsf (words ps) (u ++ [x])).length ≤ 32 ∧ r < N) := ⟨hu, hr, hr32, by have := at_lt hr; have := AM.out; omega⟩
            clear hu hr hu32 hr32
            go_upto_region 15 with (go_at_call 17; refine hnx.mono ?_; rintro e6 w6 ⟨rfl, hb6⟩)
            have hp6 : Pl w3 w6 M A s p := AA.out.2.1.below hb6
            have j1 : w6.cell? ⟨P, 1, none⟩ = some (.int .u8 (x : Int)) := (hb6.cell (p := ⟨P, 1, none⟩) AA.out.2.2.2.2.2.2).trans k1
            have hstep := step_c w3 w6 AM.out.1 AM.out.2.1 AG.out.1 AM.out.2.2.2.1 hp6.bel M s x p u (Nat.le_of_eq hp6.at_.symm) hp6.mt AU.out.1 AA.out.2.2.2.2.2.1 AA.out.2.2.2.2.1
            have A6 : Aside (Pl w3 w6 M A s p) := hp6
            obtain ⟨q, hq⟩ : ∃ q, min (p + 1) 4611686018427387904 = q := ⟨_, rfl⟩
            rw [hq] at hstep
            obtain ⟨E, hE⟩ : ∃ E, endsOf ps (lsf (words ps) (u ++ [x])) = E := ⟨_, rfl⟩
            rw [hE] at hstep
            have hmin : ∃ c0 : Bool, decide ((p : Int) + 1 ≤ 4611686018427387904) = c0 := ⟨_, rfl⟩
            have AQ : Aside (min (p + 1) 4611686018427387904 = q ∧ endsOf ps (lsf (words ps) (u ++ [x])) = E ∧ q ≤ 4611686018427387904) := ⟨hq, hE, by omega⟩
            clear hnx hb6 hp6 k1 k2 k3 hE hmin
            go_cut [12] (fun s12 wc => s12 = .int .i64 (q : Int) ∧ w6 = wc)
            case first =>
              have hpl := AA.out.2.2.2.2.1
              by_cases hlt : p + 1 ≤ 4611686018427387904
              · have e1 : (p : Int) + 1 = (q : Int) := by omega
                have t1 : (q : Int) ≤ 4611686018427387904 := by omega
                clear hq hlt hpl
                go_wp2_with fail
                go_meet
                exact ⟨rfl, rfl⟩
              · have e1 : p = 4611686018427387904 := by omega
                have e2 : q = 4611686018427387904 := by omega
                subst e1
                subst e2
                clear hq hlt hpl
                go_wp2_with fail
                go_meet
                exact ⟨rfl, rfl⟩
            case rest =>
              obtain ⟨rfl, rfl⟩ := hcut
              clear hq
              go_upto_region 17 with (go_at_call 18; refine hstep.mono ?_; rintro e7 w7 ⟨v7, s7, rfl, hs7, hm7, hb7, ho7⟩)
              have hs7r : s7 = r := AM.out.2.1.laid.tri.one hs7 AU.out.2.1
              subst hs7r
              have hp7 : Pl w3 w7 M A s7 q := A6.out.but hb7 hm7
              obtain ⟨oa, oc, hv7, hnum7, hlc7, hz7, hsh7⟩ := ho7.shape
              obtain ⟨EL, hEL⟩ : ∃ EL, E.length = EL := ⟨_, rfl⟩
              rw [hEL] at hv7
              subst hv7
              have hbw7 : Below w.heap.size w w7 := AM.out.2.2.2.2.1.trans (hp7.bel.mono AM.out.2.2.2.2.1.size)
              have hrout := rout_c s7 _ w7 (AM.out.2.2.1.below hp7.bel) (AB.out.2.1.below hbw7) AB.out.2.2.1 AG.out.1 AU.out.2.1 (by have := AU.out; omega)
              rw [AQ.out.2.1] at hrout
              have hEb : EL ≤ 64 := by
                have h1 := endsOf_len ps (lsf (words ps) (u ++ [x]))
                rw [AQ.out.2.1] at h1
                have := AG.out.1.few
                omega
              have hT7 : Tail w7 M oa E 0 := by
                rcases hnum7 with e | ⟨ob, o, e, hc⟩
                · exact Or.inl e
                · obtain ⟨ho0, _, hob, cur, hcur, _⟩ := hsh7 ob o none e
                  subst ho0
                  refine Or.inr ⟨ob, cur, e, hcur, ?_, fun j y _ hy => ?_⟩
                  · have := A6.out.mt.lt; omega
                  · have h1 := hc j y hy
                    rw [Nat.zero_add, Cells.cell (w := w7) (b := ob) (cs := cur) (t := 3) hcur] at h1
                    exact h1
              have A7 : Aside (Pl w3 w7 M A s7 q ∧ Nums w7 oa E ∧ E.length = EL ∧ EL ≤ 64 ∧ Tail w7 M oa E 0) := ⟨hp7, hnum7, hEL, hEb, hT7⟩
              clear hstep hs7 hm7 hb7 ho7 hp7 hnum7 hlc7 hz7 hsh7 hEL hbw7 hEb hT7 j1
              go_upto_region 19 with (first
                | (go_at_call 20; refine hrout.mono ?_; rintro e8 w8 ⟨v8, rfl, ho8⟩
                   obtain ⟨oa8, oc8, hv8, hnum8, hlc8, hz8, hsh8⟩ := ho8.shape
                   rw [A7.out.2.2.1] at hv8
                   subst hv8
                   have hints := ints_c oa oa8 E E EL EL oc oc8 w8 A7.out.2.2.1 A7.out.2.2.1 (by have := A7.out; omega) (A7.out.2.1.below ho8.bel) hnum8
                   rw [decide_eq_true (rfl : E = E)] at hints
                   have A8 : Aside (Below w7.heap.size w7 w8) := ho8.bel
                   clear ho8 hnum8 hlc8 hz8 hsh8)
                | (go_at_call 19; refine hints.mono ?_; rintro e9 w9 ⟨rfl, hd9⟩))
              have A9 : Aside (Pl w3 w9 M A s7 q ∧ Tail w9 M oa E 0) := by
                have hb : Below w7.heap.size w7 w9 := A8.out.trans (Drawn.below hd9 _)
                refine ⟨A7.out.1.below hb, ?_⟩
                rcases A7.out.2.2.2.2 with e | ⟨ob, cur, e1, e2, e3, e4⟩
                · exact Or.inl e
                · exact Or.inr ⟨ob, cur, e1, e2.below hb e2.lt, e3, e4⟩
              clear hints hd9 hrout A8
              go_wp2_with fail
              go_loopg [17] EL (fun g sk wr2 => ∃ k : Nat, sk = .int .i64 k ∧ Aside (k + g = EL ∧ Pl w3 wr2 M A s7 q ∧ Tail wr2 M oa E k))
              case atStart => exact ⟨0, rfl, ⟨by omega, A9.out⟩⟩
              case round =>
                obtain ⟨k, rfl, hK⟩ := hrel
                by_cases hkE : k < EL
                · have hk : (k : Int) < (EL : Int) := by omega
                  obtain ⟨y2, hy2⟩ : ∃ y2, E[k]? = some y2 := ⟨_, List.getElem?_eq_getElem (by have := A7.out; omega)⟩
                  rcases hK.out.2.2 with e | ⟨ob, cur, rfl, hcur, hMo, hrow⟩
                  · rw [e] at hy2; simp at hy2
                  have cy : wr.cell? ⟨ob, k, none⟩ = some (.int .i64 (y2 : Int)) := (hcur.cell k).trans (hrow k y2 (Nat.le_refl _) hy2)
                  have fy : wr.frozen? ⟨ob, k, none⟩ = false := hcur.frozen k
                  have hyb : (y2 : Int) < 64 := by
                    have h1 := hy2
                    rw [← AQ.out.2.1] at h1
                    have := endsOf_lt h1; have := AG.out.1.few; omega
                  have hkb : (k : Int) < 64 := by have := A7.out; omega
                  have AW : Aside (∀ v : Value, Pl w3 (wr.setCell ⟨ob, k, none⟩ v) M A s7 q ∧ Tail (wr.setCell ⟨ob, k, none⟩ v) M (some ⟨ob, 0, none⟩) E (k + 1)) := by
                    intro v
                    have ho : Only ob wr (wr.setCell ⟨ob, k, none⟩ v) := (Only.refl ob wr).setCell k v
                    have hP := hK.out.2.1
                    refine ⟨⟨Cells.only hP.mt ho (by omega), hP.bel.trans (ho.below (by have := hP.at_; omega)), hP.at_⟩, Or.inr ⟨ob, _, rfl, hcur.set k v, hMo, fun j z2 hj hz2 => ?_⟩⟩
                    rw [Array.getElem?_setIfInBounds, if_neg (by omega)]
                    exact hrow j z2 (by omega) hz2
                  have AL : Aside (k < EL) := hkE
                  clear hy2 hcur hMo hrow hkE
                  go_upto_region 21 with fail
                  obtain ⟨w10, hw10⟩ : ∃ w10, w10 = wr.setCell ⟨ob, k, none⟩ (.int .i64 ((y2 : Int) + 1)) := ⟨_, rfl⟩
                  have A10 := AW.out (.int .i64 ((y2 : Int) + 1))
                  rw [← hw10] at A10 ⊢
                  have A11 : Aside (Pl w3 w10 M A s7 q ∧ Tail w10 M (some ⟨ob, 0, none⟩) E (k + 1)) := A10
                  clear AW A10 hw10 cy fy hyb
                  go_wp2_with fail
                  have h1 := hK.out.1; have h2 := AL.out
                  go_roundg (EL - (k + 1))
                  case measure => omega
                  case rel => exact ⟨k + 1, by go_num, ⟨by omega, A11.out⟩⟩
                · have hk : ¬ (k : Int) < (EL : Int) := by omega
                  clear hkE
                  go_wp2_with fail
                  go_meet
                  exact ⟨s7, q, rfl, rfl, hK.out.2.1, AU.out.2.2.2, AQ.out.2.2⟩
          | 1, _ =>
            obtain ⟨u, hu⟩ : ∃ u, (words ps)[s]? = some u := ⟨_, List.getElem?_eq_getElem (by have := AA.out; have := AM.out; omega)⟩
            obtain ⟨r, hr⟩ := mem_at (lsf_mem AM.out.2.1.laid.tri.nil_mem (u ++ [x]))
            have hu32 := words_32 AG.out.1 (List.mem_of_getElem? hu)
            have hr32 := words_32 AG.out.1 (List.mem_of_getElem? hr)
            have hnx := rnext_c s x r u wa (AM.out.2.2.1.below AA.out.2.1.bel) hu (by omega) hr
            have AU : Aside ((words ps)[s]? = some u ∧ (words ps)[r]? = some (lsf (words ps) (u ++ [x])) ∧ (lsf (words ps) (u ++ [x])).length ≤ 32 ∧ r < N) := ⟨hu, hr, hr32, by have := at_lt hr; have := AM.out; omega⟩
            clear hu hr hu32 hr32
            go_upto_region 15 with (go_at_call 17; refine hnx.mono ?_; rintro e6 w6 ⟨rfl, hb6⟩)
            have hp6 : Pl w3 w6 M A s p := AA.out.2.1.below hb6
            have j1 : w6.cell? ⟨P, 1, none⟩ = some (.int .u8 (x : Int)) := (hb6.cell (p := ⟨P, 1, none⟩) AA.out.2.2.2.2.2.2).trans k1
            have hstep := step_c w3 w6 AM.out.1 AM.out.2.1 AG.out.1 AM.out.2.2.2.1 hp6.bel M s x p u (Nat.le_of_eq hp6.at_.symm) hp6.mt AU.out.1 AA.out.2.2.2.2.2.1 AA.out.2.2.2.2.1
            have A6 : Aside (Pl w3 w6 M A s p) := hp6
            obtain ⟨q, hq⟩ : ∃ q, min (p + 1) 4611686018427387904 = q := ⟨_, rfl⟩
            rw [hq] at hstep
            obtain ⟨E, hE⟩ : ∃ E, endsOf ps (lsf (words ps) (u ++ [x])) = E := ⟨_, rfl⟩
            rw [hE] at hstep
            have hmin : ∃ c0 : Bool, decide ((p : Int) + 1 ≤ 4611686018427387904) = c0 := ⟨_, rfl⟩
            have AQ : Aside (min (p + 1) 4611686018427387904 = q ∧ endsOf ps (lsf (words ps) (u ++ [x])) = E ∧ q ≤ 4611686018427387904) := ⟨hq, hE, by omega⟩
            clear hnx hb6 hp6 k1 k2 k3 hE hmin
            go_cut [12] (fun s12 wc => s12 = .int .i64 (q : Int) ∧ w6 = wc)
            case first =>
              have hpl := AA.out.2.2.2.2.1
              by_cases hlt : p + 1 ≤ 4611686018427387904
              · have e1 : (p : Int) + 1 = (q : Int) := by omega
                have t1 : (q : Int) ≤ 4611686018427387904 := by omega
                clear hq hlt hpl
                go_wp2_with fail
                go_meet
                exact ⟨rfl, rfl⟩
              · have e1 : p = 4611686018427387904 := by omega
                have e2 : q = 4611686018427387904 := by omega
                subst e1
                subst e2
                clear hq hlt hpl
                go_wp2_with fail
                go_meet
                exact ⟨rfl, rfl⟩
            case rest =>
              obtain ⟨rfl, rfl⟩ := hcut
              clear hq
              go_upto_region 17 with (go_at_call 18; refine hstep.mono ?_; rintro e7 w7 ⟨v7, s7, rfl, hs7, hm7, hb7, ho7⟩)
              have hs7r : s7 = r := AM.out.2.1.laid.tri.one hs7 AU.out.2.1
              subst hs7r
              have hp7 : Pl w3 w7 M A s7 q := A6.out.but hb7 hm7
              obtain ⟨oa, oc, hv7, hnum7, hlc7, hz7, hsh7⟩ := ho7.shape
              obtain ⟨EL, hEL⟩ : ∃ EL, E.length = EL := ⟨_, rfl⟩
              rw [hEL] at hv7
              subst hv7
              have hbw7 : Below w.heap.size w w7 := AM.out.2.2.2.2.1.trans (hp7.bel.mono AM.out.2.2.2.2.1.size)
              have hrout := rout_c s7 _ w7 (AM.out.2.2.1.below hp7.bel) (AB.out.2.1.below hbw7) AB.out.2.2.1 AG.out.1 AU.out.2.1 (by have := AU.out; omega)
              rw [AQ.out.2.1] at hrout
              have hEb : EL ≤ 64 := by
                have h1 := endsOf_len ps (lsf (words ps) (u ++ [x]))
                rw [AQ.out.2.1] at h1
                have := AG.out.1.few
                omega
              have hT7 : Tail w7 M oa E 0 := by
                rcases hnum7 with e | ⟨ob, o, e, hc⟩
                · exact Or.inl e
                · obtain ⟨ho0, _, hob, cur, hcur, _⟩ := hsh7 ob o none e
                  subst ho0
                  refine Or.inr ⟨ob, cur, e, hcur, ?_, fun j y _ hy => ?_⟩
                  · have := A6.out.mt.lt; omega
                  · have h1 := hc j y hy
                    rw [Nat.zero_add, Cells.cell (w := w7) (b := ob) (cs := cur) (t := 3) hcur] at h1
                    exact h1
              have A7 : Aside (Pl w3 w7 M A s7 q ∧ Nums w7 oa E ∧ E.length = EL ∧ EL ≤ 64 ∧ Tail w7 M oa E 0) := ⟨hp7, hnum7, hEL, hEb, hT7⟩
              clear hstep hs7 hm7 hb7 ho7 hp7 hnum7 hlc7 hz7 hsh7 hEL hbw7 hEb hT7 j1
              go_upto_region 19 with (first
                | (go_at_call 20; refine hrout.mono ?_; rintro e8 w8 ⟨v8, rfl, ho8⟩
                   obtain ⟨oa8, oc8, hv8, hnum8, hlc8, hz8, hsh8⟩ := ho8.shape
                   rw [A7.out.2.2.1] at hv8
                   subst hv8
                   have hints := ints_c oa oa8 E E EL EL oc oc8 w8 A7.out.2.2.1 A7.out.2.2.1 (by have := A7.out; omega) (A7.out.2.1.below ho8.bel) hnum8
                   rw [decide_eq_true (rfl : E = E)] at hints
                   have A8 : Aside (Below w7.heap.size w7 w8) := ho8.bel
                   clear ho8 hnum8 hlc8 hz8 hsh8)
                | (go_at_call 19; refine hints.mono ?_; rintro e9 w9 ⟨rfl, hd9⟩))
              have A9 : Aside (Pl w3 w9 M A s7 q ∧ Tail w9 M oa E 0) := by
                have hb : Below w7.heap.size w7 w9 := A8.out.trans (Drawn.below hd9 _)
                refine ⟨A7.out.1.below hb, ?_⟩
                rcases A7.out.2.2.2.2 with e | ⟨ob, cur, e1, e2, e3, e4⟩
                · exact Or.inl e
                · exact Or.inr ⟨ob, cur, e1, e2.below hb e2.lt, e3, e4⟩
              clear hints hd9 hrout A8
              go_wp2_with fail
              go_loopg [17] EL (fun g sk wr2 => ∃ k : Nat, sk = .int .i64 k ∧ Aside (k + g = EL ∧ Pl w3 wr2 M A s7 q ∧ Tail wr2 M oa E k))
              case atStart => exact ⟨0, rfl, ⟨by omega, A9.out⟩⟩
              case round =>
                obtain ⟨k, rfl, hK⟩ := hrel
                by_cases hkE : k < EL
                · have hk : (k : Int) < (EL : Int) := by omega
                  obtain ⟨y2, hy2⟩ : ∃ y2, E[k]? = some y2 := ⟨_, List.getElem?_eq_getElem (by have := A7.out; omega)⟩
                  rcases hK.out.2.2 with e | ⟨ob, cur, rfl, hcur, hMo, hrow⟩
                  · rw [e] at hy2; simp at hy2
                  have cy : wr.cell? ⟨ob, k, none⟩ = some (.int .i64 (y2 : Int)) := (hcur.cell k).trans (hrow k y2 (Nat.le_refl _) hy2)
                  have fy : wr.frozen? ⟨ob, k, none⟩ = false := hcur.frozen k
                  have hyb : (y2 : Int) < 64 := by
                    have h1 := hy2
                    rw [← AQ.out.2.1] at h1
                    have := endsOf_lt h1; have := AG.out.1.few; omega
                  have hkb : (k : Int) < 64 := by have := A7.out; omega
                  have AW : Aside (∀ v : Value, Pl w3 (wr.setCell ⟨ob, k, none⟩ v) M A s7 q ∧ Tail (wr.setCell ⟨ob, k, none⟩ v) M (some ⟨ob, 0, none⟩) E (k + 1)) := by
                    intro v
                    have ho : Only ob wr (wr.setCell ⟨ob, k, none⟩ v) := (Only.refl ob wr).setCell k v
                    have hP := hK.out.2.1
                    refine ⟨⟨Cells.only hP.mt ho (by omega), hP.bel.trans (ho.below (by have := hP.at_; omega)), hP.at_⟩, Or.inr ⟨ob, _, rfl, hcur.set k v, hMo, fun j z2 hj hz2 => ?_⟩⟩
                    rw [Array.getElem?_setIfInBounds, if_neg (by omega)]
                    exact hrow j z2 (by omega) hz2
                  have AL : Aside (k < EL) := hkE
                  clear hy2 hcur hMo hrow hkE
                  go_upto_region 21 with fail
                  obtain ⟨w10, hw10⟩ : ∃ w10, w10 = wr.setCell ⟨ob, k, none⟩ (.int .i64 ((y2 : Int) + 1)) := ⟨_, rfl⟩
                  have A10 := AW.out (.int .i64 ((y2 : Int) + 1))
                  rw [← hw10] at A10 ⊢
                  have A11 : Aside (Pl w3 w10 M A s7 q ∧ Tail w10 M (some ⟨ob, 0, none⟩) E (k + 1)) := A10
                  clear AW A10 hw10 cy fy hyb
                  go_wp2_with fail
                  have h1 := hK.out.1; have h2 := AL.out
                  go_roundg (EL - (k + 1))
                  case measure => omega
                  case rel => exact ⟨k + 1, by go_num, ⟨by omega, A11.out⟩⟩
                · have hk : ¬ (k : Int) < (EL : Int) := by omega
                  clear hkE
                  go_wp2_with fail
                  go_meet
                  exact ⟨s7, q, rfl, rfl, hK.out.2.1, AU.out.2.2.2, AQ.out.2.2⟩
          | 2, _ =>
            have hrm : Rm wa Q N a L C (words ps) kids := AM.out.2.2.1.below AA.out.2.1.bel
            have hma : Mach wa base A L (longest ps) nd G := AM.out.1.below AA.out.2.1.bel
            have his := is_c z wa hrm
            by_cases hok : (0 ≤ z ∧ z < (N : Int)) ∧ 0 ≤ y ∧ y ≤ 4611686018427387904
            · obtain ⟨s', hs'⟩ : ∃ s' : Nat, z = (s' : Int) := ⟨z.toNat, by omega⟩
              obtain ⟨p', hp'⟩ : ∃ p' : Nat, y = (p' : Int) := ⟨y.toNat, by omega⟩
              subst hs'
              subst hp'
              have hset := set_yes M s p s' p' N wa hma AM.out.2.2.2.2.2.2.1 AA.out.2.1.mt (by omega) (by omega)
              rw [decide_eq_true hok.1] at his
              have y0 : (0 : Int) ≤ (p' : Int) := hok.2.1
              have y1 : (p' : Int) ≤ 4611686018427387904 := hok.2.2
              have AS : Aside (s' < N ∧ p' ≤ 4611686018427387904) := ⟨by omega, by omega⟩
              clear hok hrm hma
              go_upto_region 28 with (first
                | (go_at_call 14; refine his.mono ?_; rintro e5 w5 ⟨rfl, rfl⟩)
                | (go_at_call 15; refine hset.mono ?_; rintro e6 w6 ⟨rfl, hm6, ho6⟩
                   have j2 : w6.cell? ⟨P, 2, none⟩ = some (.int .i64 (s' : Int)) := (ho6.cell (p := ⟨P, 2, none⟩) (by show P ≠ M; have := AA.out; omega)).trans k2
                   have j3 : w6.cell? ⟨P, 3, none⟩ = some (.int .i64 (p' : Int)) := (ho6.cell (p := ⟨P, 3, none⟩) (by show P ≠ M; have := AA.out; omega)).trans k3))
              have A6 : Aside (Pl w3 w6 M A s' p') := AA.out.2.1.but (But.of_only ho6) hm6
              clear his hset y0 y1 k1 k2 k3 hm6 ho6
              go_quiet (fail)
              go_wp2_with fail
              go_meet
              exact ⟨s', p', rfl, rfl, A6.out.below ⟨rfl, rfl, rfl, Nat.le_refl _, fun _ _ => rfl⟩, AS.out.1, AS.out.2⟩
            · have hset := set_no M s p N z y wa hma AM.out.2.2.2.2.2.2.1 AA.out.2.1.mt (fun h => hok ⟨⟨h.1, h.2.1⟩, h.2.2⟩)
              by_cases hz : 0 ≤ z ∧ z < (N : Int)
              · rw [decide_eq_true hz] at his
                by_cases hy0 : 0 ≤ y
                · have hy1 : ¬ y ≤ 4611686018427387904 := fun h => hok ⟨hz, hy0, h⟩
                  clear hok hrm hma hz
                  go_wp2_with (first
                    | (go_at_call 14; refine his.mono ?_; rintro e5 w5 ⟨rfl, rfl⟩)
                    | (go_at_call 15; refine hset.mono ?_; rintro e6 w6 ⟨rfl, rfl⟩))
                  go_meet
                  exact ⟨s, p, rfl, rfl, AA.out.2.1, AA.out.2.2.2.1, AA.out.2.2.2.2.1⟩
                · clear hok hrm hma hz
                  go_wp2_with (first
                    | (go_at_call 14; refine his.mono ?_; rintro e5 w5 ⟨rfl, rfl⟩)
                    | (go_at_call 15; refine hset.mono ?_; rintro e6 w6 ⟨rfl, rfl⟩))
                  go_meet
                  exact ⟨s, p, rfl, rfl, AA.out.2.1, AA.out.2.2.2.1, AA.out.2.2.2.2.1⟩
              · rw [decide_eq_false hz] at his
                clear hok hrm hma hz
                go_wp2_with (first
                  | (go_at_call 14; refine his.mono ?_; rintro e5 w5 ⟨rfl, rfl⟩)
                  | (go_at_call 15; refine hset.mono ?_; rintro e6 w6 ⟨rfl, rfl⟩))
                go_meet
                exact ⟨s, p, rfl, rfl, AA.out.2.1, AA.out.2.2.2.1, AA.out.2.2.2.2.1⟩
          | 3, _ =>
            have hre := reset_c M s p A wa AA.out.2.1.mt
            go_wp2_with (go_at_call 16; refine hre.mono ?_; rintro e5 w5 ⟨rfl, hm5, ho5⟩)
            go_meet
            exact ⟨0, 0, rfl, rfl, AA.out.2.1.but (But.of_only ho5) hm5, by have := AA.out; omega, by omega⟩
        case rest =>
          obtain ⟨s', p', rfl, rfl, hP', hs', hp'⟩ := hcut.out
          have hst := state_c M s' p' A wc hP'.mt
          have hat := at_c M s' p' A wc hP'.mt
          have A5 : Aside (Pl w3 wc M A s' p' ∧ s' < N ∧ p' ≤ 4611686018427387904) := ⟨hP', hs', hp'⟩
          have e1 : ((s' : Int) != (s' : Int)) = false := by simp
          have e2 : ((p' : Int) != (p' : Int)) = false := by simp
          have hib : (i : Int) < 9223372036854775807 := by have := AI.out; have := AC.out; omega
          clear hcut hP' hs' hp' k1 k2 k3 AA
          go_wp2_with (first | (go_at_call 21; refine hst.mono ?_; rintro e5 w5 ⟨rfl, rfl⟩) | (go_at_call 22; refine hat.mono ?_; rintro e5 w5 ⟨rfl, rfl⟩))
          have h1 := hI.out.1; have h2 := AI.out; have h3 := A5.out; have h4 := AC.out.2
          go_roundg (cl - (i + 1))
          case measure => omega
          case rel => exact ⟨s', p', i + 1, rfl, rfl, by go_num, ⟨by omega, h3.1, h3.2.1, h3.2.2⟩⟩
      · have hi : ¬ (i : Int) < (cl : Int) := by omega
        obtain ⟨base, hm3, hf3, hrm3, hT3, hbw3, hN, hnd, hM3, hNb⟩ := A3.out
        have hbw : Below w.heap.size w wr := hbw3.trans (hI.out.2.1.bel.mono hbw3.size)
        have haw := awake_c wr (AB.out.1.below hbw)
        have A6 : Aside (Below w.heap.size w wr ∧ Below H w wr ∧ H ≤ wr.heap.size) := ⟨hbw, by rw [← AB.out.2.2.2.2.2.2.2]; exact hbw, by rw [← AB.out.2.2.2.2.2.2.2]; exact hbw.size⟩
        clear hic hm3 hf3 hrm3 hT3 hbw3 hN hnd hM3 hNb hbw
        go_wp2_with (go_at_call 13; refine haw.mono ?_; rintro e5 w5 ⟨rfl, hb5⟩)
        go_ret
        exact ⟨rfl, A6.out.2.1.trans (hb5.mono A6.out.2.2)⟩
  · have hq := rbuild_err a ps L C w hp hL hLC (by omega) hck
    clear hp hL hLC hC ho hz
    rw [hH]
    clear hH
    obtain ⟨z, hz⟩ : ∃ z, chk ps = z := ⟨_, rfl⟩
    rw [hz] at hq
    go_enter Tryd.func3, Tryd.ntmps3
    go_upto_region 2 with (go_at_call 9; refine hq.mono ?_; rintro e1 w1 ⟨rfl, hd1⟩)
    have hbw1 : Below w.heap.size w w1 := Drawn.below hd1 _
    have cop := copy_c a ps L C w1 (AB.out.2.1.below hbw1) AB.out.2.2.1 AB.out.2.2.2.1 (by have := AB.out; omega)
    have A1 : Aside (Below w.heap.size w w1) := hbw1
    clear hq hd1 hbw1
    go_wp2_with fail
    refine cop.mono ?_
    rintro e2 w2 ⟨v2, rfl, hc2⟩
    obtain ⟨a2, C2, hv2, hL2, hr2, hz2⟩ := hc2.rows
    rw [AB.out.2.2.1] at hv2 hL2
    subst hv2
    have hbuild := build_err a2 ps L C2 w2 hr2 AB.out.2.2.1 hL2 (by have := AB.out; omega) AB.out.2.2.2.2.2.1 hz2 hck
    rw [hz] at hbuild
    have A2 : Aside (Below w1.heap.size w1 w2) := hc2.bel
    clear cop hc2 hr2 hz2 hL2 hck hz
    go_wp2_with fail
    refine hbuild.mono ?_
    rintro e3 w3 ⟨rfl, hb3⟩
    have hbw3 : Below w.heap.size w w3 := A1.out.trans ((A2.out.trans (hb3.mono A2.out.size)).mono A1.out.size)
    have haw := awake_c w3 (AB.out.1.below hbw3)
    have A3 : Aside (Below H w w3 ∧ H ≤ w3.heap.size) := ⟨by rw [← AB.out.2.2.2.2.2.2.2]; exact hbw3, by rw [← AB.out.2.2.2.2.2.2.2]; exact hbw3.size⟩
    have hnew := new_nil w3
    clear hbuild hb3 hbw3
    go_wp2_with (first | (go_at_call 12; refine hnew.mono ?_; rintro e4 w4 ⟨rfl, rfl⟩) | (go_at_call 13; refine haw.mono ?_; rintro e5 w5 ⟨rfl, hb5⟩))
    go_ret
    exact ⟨rfl, A3.out.1.trans (hb5.mono A3.out.2)⟩
end Go.Proofs.YtkdlcdincimnkaaDoor

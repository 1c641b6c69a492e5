/-
  MatcherSplits, behind the opening of its arguments: the call answers true, and what lay in memory is as it was.
  Conditions: the library's table holds what its text lays there; the patterns and the text lie in memory; the text has at most 2^20 bytes.
-/
import Derived.Test.YtkdlcdincimnkaaDoorMore
import Derived.Deep.RegionLaw
namespace Go.Proofs.YtkdlcdincimnkaaDoor
open Go.RowKit
set_option linter.unusedVariables false
/-- Two matchers, one of them at work, and the hits so far, a list of the call's own. -/
structure Sp (w3 w : World) (B Mx Mo A s i so po : Nat) (v : Value) (l : List (Nat × Nat)) : Prop where
  mx : Mt w Mx s i A
  mo : Mt w Mo so po A
  own : w.ownsRow B 59 3 v l.length (hvs l)
  le : B ≤ w.heap.size
  lx : Mx < B
  lo : Mo < B
  ne : Mx ≠ Mo
  bel : Below w3.heap.size w3 w
  low : w3.heap.size ≤ Mx ∧ w3.heap.size ≤ Mo
theorem owns_block {w : World} {B : Nat} {v : Value} {l : List (Nat × Nat)} (h : w.ownsRow B 59 3 v l.length (hvs l)) {k : Nat} (hk : k < B) : some k ≠ v.ownBlock := by
  intro e
  obtain ⟨_, _, _, _, hob, _⟩ := owns_shape h
  have := hob k e.symm
  omega
theorem owns_below {w u : World} {B : Nat} {v : Value} {l : List (Nat × Nat)} (h : w.ownsRow B 59 3 v l.length (hvs l)) (k : Below w.heap.size w u) : u.ownsRow B 59 3 v l.length (hvs l) := by
  rcases h.2 with ⟨hv, h0⟩ | ⟨g, c, cur, hv, hg, hh, r⟩
  · exact ⟨h.1, Or.inl ⟨hv, h0⟩⟩
  · exact ⟨h.1, Or.inr ⟨g, c, cur, hv, hg, (k.block g (Array.getElem?_eq_some_iff.1 hh).1).trans hh, r⟩⟩
theorem owns_but {w u : World} {B M : Nat} {v : Value} {l : List (Nat × Nat)} (h : w.ownsRow B 59 3 v l.length (hvs l)) (k : But M w u) (hM : M < B) : u.ownsRow B 59 3 v l.length (hvs l) := by
  rcases h.2 with ⟨hv, h0⟩ | ⟨g, c, cur, hv, hg, hh, r⟩
  · exact ⟨h.1, Or.inl ⟨hv, h0⟩⟩
  · exact ⟨h.1, Or.inr ⟨g, c, cur, hv, hg, (k.block g (Array.getElem?_eq_some_iff.1 hh).1 (by omega)).trans hh, r⟩⟩
theorem Sp.grow {w3 w w1 w2 : World} {B Mx Mo A s i so po : Nat} {v v' : Value} {l : List (Nat × Nat)} {h : Nat × Nat} (hs : Sp w3 w B Mx Mo A s i so po v l) (hb : Below w.heap.size w w1) (hg : w1.grownBy w2 v.ownBlock) (ho : w2.ownsRow B 59 3 v' (l.length + 1) (hvs l ++ hv h)) : Sp w3 w2 B Mx Mo A s i so po v' (l ++ [h]) := by
  have keep : ∀ k, k < B → w2.heap[k]? = w.heap[k]? := fun k hk => by
    have := hs.le
    have := hb.size
    rw [hg.block k (by omega) (owns_block hs.own hk), hb.block k (by omega)]
  have mt : ∀ {M a b}, M < B → Mt w M a b A → Mt w2 M a b A := fun {M a b} hM h => by
    unfold Mt Cells at *
    rw [keep M hM]; exact h
  refine ⟨mt hs.lx hs.mx, mt hs.lo hs.mo, ?_, ?_, hs.lx, hs.lo, hs.ne, ?_, hs.low⟩
  · rw [List.length_append, ← hvs_app]; exact ho
  · have := hs.le; have := hb.size; have := hg.size; omega
  · refine hs.bel.trans ⟨hg.os.trans hb.os, hg.tape.trans hb.tape, hg.output.trans hb.output, Nat.le_trans hb.size hg.size, fun k hk => keep k ?_⟩
    have := hs.low; have := hs.lx; omega
theorem OutAt.grow {w w1 w2 : World} {B : Nat} {v : Value} {l : List (Nat × Nat)} {oa : Option Addr} {E : List Nat} (h : OutAt w oa E) (hown : w.ownsRow B 59 3 v l.length (hvs l)) (hb : Below w.heap.size w w1) (hg : w1.grownBy w2 v.ownBlock) : OutAt w2 oa E := by
  rcases h with h | ⟨ob, cur, ha, hc, hx⟩
  · exact Or.inl h
  · refine Or.inr ⟨ob, cur, ha, ?_, hx⟩
    have hlt := hc.lt
    have hne : some ob ≠ v.ownBlock := fun e => by
      rcases hown.2 with ⟨hv, _⟩ | ⟨g, c, cur', hv, _, hh, _⟩
      · rw [hv] at e; cases e
      · rw [hv] at e; cases e
        unfold Cells at hc
        rw [hc] at hh; cases hh
    unfold Cells at *
    rw [hg.block ob (Nat.lt_of_lt_of_le hlt hb.size) hne, hb.block ob hlt]; exact hc
theorem Sp.set {w3 w u : World} {B Mx Mo A s i so po s' p' : Nat} {v : Value} {l : List (Nat × Nat)} (h : Sp w3 w B Mx Mo A s i so po v l) (k : Only Mo w u) (hm : Mt u Mo s' p' A) : Sp w3 u B Mo Mx A s' p' s i v l := by
  refine ⟨hm, Cells.only h.mx k h.ne, owns_but h.own (But.of_only k) h.lo, by rw [k.size]; exact h.le, h.lo, h.lx, fun e => h.ne e.symm, ?_, h.low.2, h.low.1⟩
  exact h.bel.trans ((But.of_only k).below h.low.2 h.bel.size)
theorem Sp.step {w3 w u : World} {B Mx Mo A s i so po s' p' : Nat} {v : Value} {l : List (Nat × Nat)} (h : Sp w3 w B Mx Mo A s i so po v l) (k : But Mx w u) (hm : Mt u Mx s' p' A) : Sp w3 u B Mx Mo A s' p' so po v l :=
  ⟨hm, k.cells h.mo (fun e => h.ne e.symm), owns_but h.own k h.lx, Nat.le_trans h.le k.size, h.lx, h.lo, h.ne, h.bel.trans (k.below h.low.1 h.bel.size), h.low⟩
theorem Sp.below {w3 w u : World} {B Mx Mo A s i so po : Nat} {v : Value} {l : List (Nat × Nat)} (h : Sp w3 w B Mx Mo A s i so po v l) (k : Below w.heap.size w u) : Sp w3 u B Mx Mo A s i so po v l :=
  ⟨Cells.below h.mx k (Cells.lt h.mx), Cells.below h.mo k (Cells.lt h.mo), owns_below h.own k, Nat.le_trans h.le k.size, h.lx, h.lo, h.ne, h.bel.trans (k.mono h.bel.size), h.low⟩
set_option maxRecDepth 100000 in
set_option maxHeartbeats 8000000 in
theorem splits_core (w : World) (hT : Tab w) (a : Option Addr) (ps : List (List Nat)) (L C : Nat) (hp : Rows2 w a ps) (hL : ps.length = L) (hLC : L ≤ C) (hC : C * 24 < 140737488355328) (ho : Octs ps) (hz : a = none → C = 0)
    (ta : Option Addr) (t : List Nat) (TL TC : Nat) (ht : Lies w ta t) (hTL : t.length = TL) (hTC : TL ≤ TC) (hTb : TC < 140737488355328) (hto : Oct t) (hfew : TL ≤ 1048576) (z : Nat) (hz16 : z < 65536) :
    Calls Tryd.prog 7 #[.slice a L C, .slice ta TL TC, .int .u16 (z : Int)] w fun e w' => e = .returned (.bool true) ∧ Below w.heap.size w w' := by
  obtain ⟨H, hH⟩ : ∃ H, w.heap.size = H := ⟨_, rfl⟩
  have AB : Aside (Tab w ∧ Rows2 w a ps ∧ ps.length = L ∧ L ≤ C ∧ C * 24 < 140737488355328 ∧ Octs ps ∧ (a = none → C = 0) ∧ w.heap.size = H) := ⟨hT, hp, hL, hLC, hC, ho, hz, hH⟩
  have AT : Aside (Lies w ta t ∧ t.length = TL ∧ TL ≤ TC ∧ TC < 140737488355328 ∧ Oct t ∧ TL ≤ 1048576 ∧ z < 65536) := ⟨ht, hTL, hTC, hTb, hto, hfew, hz16⟩
  have cop := copy_c a ps L C w hp hL hLC (by omega)
  rw [hH]
  clear hT hp hL hLC hC ho hz hH ht hTL hTC hTb hto hfew hz16
  go_enter Tryd.func7, Tryd.ntmps7
  go_wp2_with fail
  refine cop.mono ?_
  rintro e2 w2 ⟨v2, rfl, hc2⟩
  obtain ⟨a2, C2, hv2, hL2, hr2, hz2⟩ := hc2.rows
  rw [AB.out.2.2.1] at hv2 hL2
  subst hv2
  have b2 : Below H w w2 := by have := hc2.bel; rw [AB.out.2.2.2.2.2.2.2] at this; exact this
  have s2 : H ≤ w2.heap.size := by have := hc2.bel.size; rw [AB.out.2.2.2.2.2.2.2] at this; exact this
  clear cop hc2
  by_cases hck : chk ps = 0
  · have hbuild := build_ok a2 ps L C2 w2 hr2 AB.out.2.2.1 hL2 (by have := AB.out; omega) AB.out.2.2.2.2.2.1 hz2 hck
    have AG : Aside (Good ps) := chk_good hck
    clear hr2 hz2 hL2 hck
    go_wp2_with fail
    refine hbuild.mono ?_
    rintro e3 w3 ⟨A, rfl, nd, G, hm3, hf3, hb3⟩
    have hbw3 : Below H w w3 := b2.trans (hb3.mono s2)
    have hb3w : Below w.heap.size w w3 := by rw [AB.out.2.2.2.2.2.2.2]; exact hbw3
    obtain ⟨base, hbase⟩ : ∃ base, base = w2.heap.size := ⟨_, rfl⟩
    rw [← hbase] at hm3
    have A3 : Aside (Mach w3 base A L (longest ps) nd G ∧ Full ps nd G ∧ Below w.heap.size w w3 ∧ Tab w3 ∧ Lies w3 ta t) := ⟨hm3, hf3, hb3w, AB.out.1.below hb3w, AT.out.1.below hb3w⟩
    clear hbuild hm3 hf3 hb3 b2 s2 hbw3 hb3w hbase
    obtain ⟨M1, hM1⟩ : ∃ M1, w3.heap.size = M1 := ⟨_, rfl⟩
    have hnew := new_c A w3
    rw [hM1] at hnew
    go_upto_region 5 with (go_at_call 12; refine hnew.mono ?_; rintro e4 w4 ⟨rfl, hm4, hb4⟩)
    obtain ⟨M2, hM2⟩ : ∃ M2, w4.heap.size = M2 := ⟨_, rfl⟩
    have hnew2 := new_c A w4
    rw [hM2] at hnew2
    have A4 : Aside (w3.heap.size = M1 ∧ w4.heap.size = M2 ∧ Mt w4 M1 0 0 A ∧ Below M1 w3 w4) := ⟨hM1, hM2, hm4, hb4⟩
    clear hnew hm4 hb4 hM1 hM2
    go_upto_region 6 with (go_at_call 12; refine hnew2.mono ?_; rintro e5 w5 ⟨rfl, hm5, hb5⟩)
    obtain ⟨B, hB⟩ : ∃ B, w5.heap.size = B := ⟨_, rfl⟩
    have S5 : Aside (Sp w3 w5 B M1 M2 A 0 0 0 0 (.slice none 0 0) [] ∧ w5.heap.size = B ∧ w3.heap.size = M1 ∧ M1 < M2 ∧ M2 < B) := by
      obtain ⟨q1, q2, q3, q4⟩ := A4.out
      have l1 := q3.lt
      have l2 := hm5.lt
      have b35 : Below w3.heap.size w3 w5 := by rw [q1]; exact q4.trans (hb5.mono (by omega))
      exact ⟨⟨q3.below (B := M2) hb5 (by omega), hm5, ⟨rfl, Or.inl ⟨rfl, rfl⟩⟩, by omega, by omega, by omega, by omega, b35, by omega, by omega⟩, hB, q1, by omega, by omega⟩
    clear hnew2 hm5 hb5 hB A4
    obtain ⟨K, hK⟩ : ∃ K, z % (TL + 1) = K := ⟨_, rfl⟩
    have hKl : K ≤ TL := by rw [← hK]; have := Nat.mod_lt z (show 0 < TL + 1 by omega); omega
    have hrem : Int.tmod (z : Int) ((TL : Int) + 1) = (K : Int) := by
      rw [← hK]
      have : ((TL : Int) + 1) = ((TL + 1 : Nat) : Int) := by omega
      rw [this, Int.ofNat_tmod]
    have hTs : (TL : Int) < 1048577 := by have := AT.out; omega
    have hTn : ¬ (TL : Int) + 1 = 0 := by omega
    have AK : Aside (K ≤ TL) := hKl
    clear hK hKl
    go_upto_region 9 with fail
    rw [w64_id (z : Int) (by omega) (by have := AT.out; omega), hrem]
    clear hrem hTs hTn
    go_wp2_with fail
    go_loopg [14, 15] TL (fun g sv si wr => ∃ (v : Value) (i : Nat), sv = v ∧ si = .int .i64 i ∧ Aside (i + g = TL ∧ ∃ Mx Mo s so po, ((i ≤ K ∧ Mx = M1 ∧ Mo = M2) ∨ (K < i ∧ Mx = M2 ∧ Mo = M1)) ∧ (words ps)[s]? = some (lsf (words ps) (t.take i)) ∧ Sp w3 wr B Mx Mo A s i so po v (hitsTo ps t i)))
    case atStart => exact ⟨_, 0, rfl, rfl, ⟨by omega, M1, M2, 0, 0, 0, Or.inl ⟨by omega, rfl, rfl⟩, by simpa [lsf] using A3.out.2.1.laid.tri.zero, S5.out.1⟩⟩
    case round =>
      obtain ⟨v, i, hv, rfl, hA⟩ := hrel
      have hv2 := hv.symm
      clear hv
      subst hv2
      by_cases hiL : i < TL
      · have hi : (i : Int) < (TL : Int) := by omega
        have AI : Aside (i < TL) := hiL
        have hil : i < t.length := by have := AT.out; omega
        obtain ⟨x, hx⟩ : ∃ x, t[i]? = some x := ⟨_, List.getElem?_eq_getElem hil⟩
        have hx256 : x < 256 := AT.out.2.2.2.2.1 x (List.mem_of_getElem? hx)
        have htk : t.take (i + 1) = t.take i ++ [x] := take_snoc hx
        obtain ⟨Mx, Mo, s, so, po, hside, hws, hS⟩ := hA.out.2
        clear hiL
        rcases Nat.lt_trichotomy i K with hlt | heq | hgt
        · obtain ⟨rfl, rfl⟩ : M1 = Mx ∧ M2 = Mo := hside.elim (fun h => ⟨h.2.1.symm, h.2.2.symm⟩) (fun h => absurd h.1 (by omega))
          have t1 : decide (i = K) = false := decide_eq_false (by omega)
          have t2 : ((i : Int) == (K : Int)) = false := by rw [beq_eq_false_iff_ne]; omega
          have t3 : decide (K ≤ i) = false := decide_eq_false (by omega)
          have t4 : decide ((K : Int) ≤ (i : Int)) = false := decide_eq_false (by omega)
          have AW : Aside (i + 1 ≤ K) := hlt
          clear hside hlt
          have hstep := step_c w3 wr A3.out.1 A3.out.2.1 AG.out A3.out.2.2.2.1 hS.bel M1 s x i _ hS.low.1 hS.mx hws hx256 (by have := AT.out; have := AI.out; omega)
          rw [lsf_snoc A3.out.2.1.laid.tri, ← htk, endsOf_text words_sub, show min (i + 1) 4611686018427387904 = i + 1 by have := AT.out; have := AI.out; omega] at hstep
          obtain ⟨E, hE⟩ : ∃ E, endsOf ps (t.take (i + 1)) = E := ⟨_, rfl⟩
          rw [hE] at hstep
          obtain ⟨J, hJ⟩ : ∃ J, i + 1 = J := ⟨_, rfl⟩
          have hli := A3.out.2.2.2.2.below hS.bel
          have AX : Aside (True ∧ i < t.length ∧ endsOf ps (t.take (i + 1)) = E ∧ i + 1 = J ∧ Sp w3 wr B M1 M2 A s i so po v (hitsTo ps t i)) := ⟨trivial, hil, hE, hJ, hS⟩
          rcases hli with hli | ⟨tb0, to0, rfl, htc⟩
          · rw [hli] at hil; simp at hil
          have cx := htc i x hx
          clear hil hx hx256 htk hE hJ hS hws htc
          go_wp2_with (go_at_call 18; refine hstep.mono ?_; rintro e7 w7 ⟨v7, s7, rfl, hs7, hm7, hb7, ho7⟩; obtain ⟨oa, oc, rfl, hoa, hoc⟩ := ho7.outAt)
          obtain ⟨EL, hEL⟩ : ∃ EL, E.length = EL := ⟨_, rfl⟩
          rw [hEL]
          rw [AX.out.2.2.2.1] at hm7
          have R7 : Aside (Sp w3 w7 B M1 M2 A s7 J so po v (hitsTo ps t i ++ (E.take 0).map fun x => (x, J)) ∧ OutAt w7 oa E ∧ (words ps)[s7]? = some (lsf (words ps) (t.take (i + 1)))) := ⟨by simpa using AX.out.2.2.2.2.step hb7 hm7, hoa, hs7⟩
          have AJ : Aside (E.length = EL ∧ EL ≤ oc) := ⟨hEL, by omega⟩
          clear hstep hs7 hm7 hb7 ho7 hoa hoc hEL cx
          go_loopg [14, 18] EL (fun g sv sn wr2 => ∃ (v : Value) (n : Nat), sv = v ∧ sn = .int .i64 n ∧ Aside (n + g = EL ∧ Sp w3 wr2 B M1 M2 A s7 J so po v (hitsTo ps t i ++ (E.take n).map fun x => (x, J)) ∧ OutAt wr2 oa E))
          case atStart => exact ⟨_, 0, rfl, rfl, ⟨by omega, R7.out.1, R7.out.2.1⟩⟩
          case round =>
            obtain ⟨v, n, hv, rfl, hN⟩ := hrel
            have hv2 := hv.symm
            clear hv
            subst hv2
            by_cases hnE : n < EL
            · have hn : (n : Int) < (EL : Int) := by omega
              have hnl : n < E.length := by have := AJ.out; omega
              obtain ⟨q, hq⟩ : ∃ q, E[n]? = some q := ⟨_, List.getElem?_eq_getElem hnl⟩
              obtain ⟨l, hl⟩ : ∃ l, hitsTo ps t i ++ (E.take n).map (fun x => (x, J)) = l := ⟨_, rfl⟩
              have hS := hN.out.2.1
              rw [hl] at hS
              rcases hN.out.2.2 with e | ⟨ob, cur, rfl, hcur, hcx⟩
              · rw [e] at hnl; simp at hnl
              have cq : wr.cell? ⟨ob, n, none⟩ = some (.int .i64 (q : Int)) := (hcur.cell n).trans (hcx n q hq)
              have hat := fun (W : World) (hW : Mt W M1 s7 J A) => at_c M1 s7 J A W hW
              obtain ⟨vl, hvl⟩ : ∃ vl, l.length = vl := ⟨_, rfl⟩
              have hlb : (vl + 1) * 40 ≤ 140737488355328 := by
                obtain ⟨r, hr⟩ := hits_cut (ps := ps) (t := t) (i := i) AX.out.2.1 AX.out.2.2.1 hq
                rw [AX.out.2.2.2.1, hl] at hr
                have := hits_few AG.out (t := t) (by have := AT.out; omega)
                rw [hr, List.length_append, List.length_cons] at this
                omega
              obtain ⟨HH, hHH⟩ : ∃ HH, wr.heap.size = HH := ⟨_, rfl⟩
              obtain ⟨wD, hwD⟩ : ∃ wD, wD = (wr.alloc (.cells #[.int .i64 (q : Int), .slice none 0 0, .int .i64 (J : Int)] 59)).drew := ⟨_, rfl⟩
              have bD : Below wr.heap.size wr wD := by
                rw [hwD]
                have h0 := (Below.refl wr.heap.size wr).alloc (Nat.le_refl _) (.cells #[.int .i64 (q : Int), .slice none 0 0, .int .i64 (J : Int)] 59)
                exact ⟨h0.os, h0.tape, h0.output, h0.size, h0.block⟩
              have hownD : wD.ownsRow B 59 3 v vl (hvs l) := by rw [← hvl]; exact owns_below hS.own bD
              have hnewsD : ∀ j u, (YtkdlcdincimnkaaDoor.hv (q, J))[j]? = some u → wD.cell? ((⟨HH, 0, none⟩ : Addr).add j) = some u := by
                rw [← hHH, hwD]
                exact World.news_of_block (cs := #[.int .i64 (q : Int), .slice none 0 0, .int .i64 (J : Int)]) (Cells.new wr _ 59)
              have hBD : B ≤ wD.heap.size := Nat.le_trans hS.le bD.size
              obtain ⟨i0, hi0, hz0, hz1, hz2⟩ := info_parts info59
              have AQ : Aside (n < EL ∧ E[n]? = some q ∧ Sp w3 wr B M1 M2 A s7 J so po v l ∧ l.length = vl ∧ (vl + 1) * 40 ≤ 140737488355328 ∧ Below wr.heap.size wr wD ∧ OutAt wr (some ⟨ob, 0, none⟩) E ∧ hitsTo ps t i ++ (E.take n).map (fun x => (x, J)) = l ∧ B ≤ wD.heap.size) := ⟨hnE, hq, hS, hvl, hlb, bD, hN.out.2.2, hl, hBD⟩
              have AM : Aside (Mt wr M1 s7 J A) := hS.mx
              clear hnl hq hl hS hcur hcx hvl hlb bD hnE hBD
              go_upto_region 22 with fail
              subst hwD
              go_region_law (first
                | (refine step_append_lies _ (by rfl) _ _ _ (by rfl) B 59 i0 (.agg #[.int .i64 0, .slice none 0 0, .int .i64 0]) 3 40 Tryd.underlying48 hi0 hz0 hz1 hz2 rfl (by decide) _ vl (hvs l) (by rfl) hownD ⟨HH, 0, none⟩ 1 1 (YtkdlcdincimnkaaDoor.hv (q, J)) (by rfl) (by rfl) hnewsD (hv_one _) (by decide) (by unfold maxLen; have := AQ.out.2.2.2.2.1; omega) (by exact AQ.out.2.2.2.2.1) AQ.out.2.2.2.2.2.2.2.2 _ rfl ?_
                   intro gg cap' w8 hown8 hgrow8 hat8 hlt8)
                | (go_simp; go_wp2_with (go_at_call 22; refine (hat _ (by first | exact AM.out | exact Cells.drew AM.out)).mono ?_; rintro e9 w9 ⟨rfl, rfl⟩)))
              all_goals (
                have hh := AQ.out
                have hC : Aside (Sp w3 w8 B M1 M2 A s7 J so po (.slice (some ⟨gg, 0, none⟩) (vl + 1) cap') (l ++ [(q, J)]) ∧ OutAt w8 (some ⟨ob, 0, none⟩) E) := ⟨hh.2.2.1.grow hh.2.2.2.2.2.1 hgrow8 (by rw [hh.2.2.2.1]; exact hown8), hh.2.2.2.2.2.2.1.grow hh.2.2.1.own hh.2.2.2.2.2.1 hgrow8⟩
                clear hh hownD hnewsD cq hat hi0 hz0 hz1 hz2 AM hown8 hgrow8 hat8 hlt8
                have hn64 : (n : Int) < 64 := by have h1 := endsOf_len ps (t.take (i + 1)); rw [AX.out.2.2.1] at h1; have := AG.out.few; have := AJ.out; omega
                go_wp2_with fail
                have hh := AQ.out; have hnn := hN.out.1
                go_roundg (EL - (n + 1))
                case measure => omega
                case rel => exact ⟨_, n + 1, rfl, by go_num, ⟨by omega, by rw [← take_step hh.2.1, hh.2.2.2.2.2.2.2.1]; exact hC.out.1, hC.out.2⟩⟩)
            · have hn : ¬ (n : Int) < (EL : Int) := by omega
              have hnE2 : n = EL := by have := hN.out.1; omega
              have hS := hN.out.2.1
              rw [hnE2, ← AJ.out.1, ← AX.out.2.2.2.1, hitsTo_all AX.out.2.1 AX.out.2.2.1] at hS
              have AS : Aside (Sp w3 wr B M1 M2 A s7 (i + 1) so po v (hitsTo ps t (i + 1))) := hS
              have hib : (i : Int) < 1048577 := by have := AX.out; have := AT.out; omega
              clear hnE hS
              go_wp2_with fail
              have h1 := AI.out; have h2 := hA.out.1
              go_roundg (TL - (i + 1))
              case measure => omega
              case rel => exact ⟨v, i + 1, rfl, by go_num, ⟨by omega, M1, M2, s7, so, po, Or.inl ⟨AW.out, rfl, rfl⟩, R7.out.2.2, AS.out⟩⟩
        · obtain ⟨rfl, rfl⟩ : M1 = Mx ∧ M2 = Mo := hside.elim (fun h => ⟨h.2.1.symm, h.2.2.symm⟩) (fun h => absurd h.1 (by omega))
          have t1 : decide (i = K) = true := decide_eq_true heq
          have t2 : ((i : Int) == (K : Int)) = true := by rw [beq_iff_eq]; omega
          have t3 : decide (K ≤ i) = true := decide_eq_true (by omega)
          have t4 : decide ((K : Int) ≤ (i : Int)) = true := decide_eq_true (by omega)
          have AW : Aside (K < i + 1) := by show _ < _; omega
          have hst := state_c M1 s i A wr hS.mx
          have hat0 := at_c M1 s i A wr hS.mx
          have hset := set_yes M2 so po s i (words ps).length wr (A3.out.1.below hS.bel) A3.out.2.1.laid.len hS.mo (at_lt hws) (by have := AT.out; have := AI.out; omega)
          have A0 : Aside (Sp w3 wr B M1 M2 A s i so po v (hitsTo ps t i) ∧ (words ps)[s]? = some (lsf (words ps) (t.take i)) ∧ t[i]? = some x ∧ x < 256 ∧ t.take (i + 1) = t.take i ++ [x] ∧ i < t.length) := ⟨hS, hws, hx, hx256, htk, hil⟩
          clear hside heq hS hws hx hx256 htk hil
          go_upto_region 18 with (first
            | (go_at_call 21; refine hst.mono ?_; rintro e5 w6 ⟨rfl, rfl⟩)
            | (go_at_call 22; refine hat0.mono ?_; rintro e5 w6 ⟨rfl, rfl⟩)
            | (go_at_call 15; refine hset.mono ?_; rintro e6 w6 ⟨rfl, hm6, ho6⟩))
          obtain ⟨hS0, hws, hx, hx256, htk, hil⟩ := A0.out
          have hS := hS0.set ho6 hm6
          obtain ⟨so', hso'⟩ : ∃ so', so' = s := ⟨_, rfl⟩
          clear hst hat0 hset hm6 ho6 hS0 A0
          have hstep := step_c w3 w6 A3.out.1 A3.out.2.1 AG.out A3.out.2.2.2.1 hS.bel M2 s x i _ hS.low.1 hS.mx hws hx256 (by have := AT.out; have := AI.out; omega)
          rw [lsf_snoc A3.out.2.1.laid.tri, ← htk, endsOf_text words_sub, show min (i + 1) 4611686018427387904 = i + 1 by have := AT.out; have := AI.out; omega] at hstep
          obtain ⟨E, hE⟩ : ∃ E, endsOf ps (t.take (i + 1)) = E := ⟨_, rfl⟩
          rw [hE] at hstep
          obtain ⟨J, hJ⟩ : ∃ J, i + 1 = J := ⟨_, rfl⟩
          have hli := A3.out.2.2.2.2.below hS.bel
          have AX : Aside (True ∧ i < t.length ∧ endsOf ps (t.take (i + 1)) = E ∧ i + 1 = J ∧ Sp w3 w6 B M2 M1 A s i s i v (hitsTo ps t i)) := ⟨trivial, hil, hE, hJ, hS⟩
          rcases hli with hli | ⟨tb0, to0, rfl, htc⟩
          · rw [hli] at hil; simp at hil
          have cx := htc i x hx
          clear hil hx hx256 htk hE hJ hS hws htc
          go_wp2_with (go_at_call 18; refine hstep.mono ?_; rintro e7 w7 ⟨v7, s7, rfl, hs7, hm7, hb7, ho7⟩; obtain ⟨oa, oc, rfl, hoa, hoc⟩ := ho7.outAt)
          obtain ⟨EL, hEL⟩ : ∃ EL, E.length = EL := ⟨_, rfl⟩
          rw [hEL]
          rw [AX.out.2.2.2.1] at hm7
          have R7 : Aside (Sp w3 w7 B M2 M1 A s7 J s i v (hitsTo ps t i ++ (E.take 0).map fun x => (x, J)) ∧ OutAt w7 oa E ∧ (words ps)[s7]? = some (lsf (words ps) (t.take (i + 1)))) := ⟨by simpa using AX.out.2.2.2.2.step hb7 hm7, hoa, hs7⟩
          have AJ : Aside (E.length = EL ∧ EL ≤ oc) := ⟨hEL, by omega⟩
          clear hstep hs7 hm7 hb7 ho7 hoa hoc hEL cx
          go_loopg [14, 18] EL (fun g sv sn wr2 => ∃ (v : Value) (n : Nat), sv = v ∧ sn = .int .i64 n ∧ Aside (n + g = EL ∧ Sp w3 wr2 B M2 M1 A s7 J s i v (hitsTo ps t i ++ (E.take n).map fun x => (x, J)) ∧ OutAt wr2 oa E))
          case atStart => exact ⟨_, 0, rfl, rfl, ⟨by omega, R7.out.1, R7.out.2.1⟩⟩
          case round =>
            obtain ⟨v, n, hv, rfl, hN⟩ := hrel
            have hv2 := hv.symm
            clear hv
            subst hv2
            by_cases hnE : n < EL
            · have hn : (n : Int) < (EL : Int) := by omega
              have hnl : n < E.length := by have := AJ.out; omega
              obtain ⟨q, hq⟩ : ∃ q, E[n]? = some q := ⟨_, List.getElem?_eq_getElem hnl⟩
              obtain ⟨l, hl⟩ : ∃ l, hitsTo ps t i ++ (E.take n).map (fun x => (x, J)) = l := ⟨_, rfl⟩
              have hS := hN.out.2.1
              rw [hl] at hS
              rcases hN.out.2.2 with e | ⟨ob, cur, rfl, hcur, hcx⟩
              · rw [e] at hnl; simp at hnl
              have cq : wr.cell? ⟨ob, n, none⟩ = some (.int .i64 (q : Int)) := (hcur.cell n).trans (hcx n q hq)
              have hat := fun (W : World) (hW : Mt W M2 s7 J A) => at_c M2 s7 J A W hW
              obtain ⟨vl, hvl⟩ : ∃ vl, l.length = vl := ⟨_, rfl⟩
              have hlb : (vl + 1) * 40 ≤ 140737488355328 := by
                obtain ⟨r, hr⟩ := hits_cut (ps := ps) (t := t) (i := i) AX.out.2.1 AX.out.2.2.1 hq
                rw [AX.out.2.2.2.1, hl] at hr
                have := hits_few AG.out (t := t) (by have := AT.out; omega)
                rw [hr, List.length_append, List.length_cons] at this
                omega
              obtain ⟨HH, hHH⟩ : ∃ HH, wr.heap.size = HH := ⟨_, rfl⟩
              obtain ⟨wD, hwD⟩ : ∃ wD, wD = (wr.alloc (.cells #[.int .i64 (q : Int), .slice none 0 0, .int .i64 (J : Int)] 59)).drew := ⟨_, rfl⟩
              have bD : Below wr.heap.size wr wD := by
                rw [hwD]
                have h0 := (Below.refl wr.heap.size wr).alloc (Nat.le_refl _) (.cells #[.int .i64 (q : Int), .slice none 0 0, .int .i64 (J : Int)] 59)
                exact ⟨h0.os, h0.tape, h0.output, h0.size, h0.block⟩
              have hownD : wD.ownsRow B 59 3 v vl (hvs l) := by rw [← hvl]; exact owns_below hS.own bD
              have hnewsD : ∀ j u, (YtkdlcdincimnkaaDoor.hv (q, J))[j]? = some u → wD.cell? ((⟨HH, 0, none⟩ : Addr).add j) = some u := by
                rw [← hHH, hwD]
                exact World.news_of_block (cs := #[.int .i64 (q : Int), .slice none 0 0, .int .i64 (J : Int)]) (Cells.new wr _ 59)
              have hBD : B ≤ wD.heap.size := Nat.le_trans hS.le bD.size
              obtain ⟨i0, hi0, hz0, hz1, hz2⟩ := info_parts info59
              have AQ : Aside (n < EL ∧ E[n]? = some q ∧ Sp w3 wr B M2 M1 A s7 J s i v l ∧ l.length = vl ∧ (vl + 1) * 40 ≤ 140737488355328 ∧ Below wr.heap.size wr wD ∧ OutAt wr (some ⟨ob, 0, none⟩) E ∧ hitsTo ps t i ++ (E.take n).map (fun x => (x, J)) = l ∧ B ≤ wD.heap.size) := ⟨hnE, hq, hS, hvl, hlb, bD, hN.out.2.2, hl, hBD⟩
              have AM : Aside (Mt wr M2 s7 J A) := hS.mx
              clear hnl hq hl hS hcur hcx hvl hlb bD hnE hBD
              go_upto_region 22 with fail
              subst hwD
              go_region_law (first
                | (refine step_append_lies _ (by rfl) _ _ _ (by rfl) B 59 i0 (.agg #[.int .i64 0, .slice none 0 0, .int .i64 0]) 3 40 Tryd.underlying48 hi0 hz0 hz1 hz2 rfl (by decide) _ vl (hvs l) (by rfl) hownD ⟨HH, 0, none⟩ 1 1 (YtkdlcdincimnkaaDoor.hv (q, J)) (by rfl) (by rfl) hnewsD (hv_one _) (by decide) (by unfold maxLen; have := AQ.out.2.2.2.2.1; omega) (by exact AQ.out.2.2.2.2.1) AQ.out.2.2.2.2.2.2.2.2 _ rfl ?_
                   intro gg cap' w8 hown8 hgrow8 hat8 hlt8)
                | (go_simp; go_wp2_with (go_at_call 22; refine (hat _ (by first | exact AM.out | exact Cells.drew AM.out)).mono ?_; rintro e9 w9 ⟨rfl, rfl⟩)))
              all_goals (
                have hh := AQ.out
                have hC : Aside (Sp w3 w8 B M2 M1 A s7 J s i (.slice (some ⟨gg, 0, none⟩) (vl + 1) cap') (l ++ [(q, J)]) ∧ OutAt w8 (some ⟨ob, 0, none⟩) E) := ⟨hh.2.2.1.grow hh.2.2.2.2.2.1 hgrow8 (by rw [hh.2.2.2.1]; exact hown8), hh.2.2.2.2.2.2.1.grow hh.2.2.1.own hh.2.2.2.2.2.1 hgrow8⟩
                clear hh hownD hnewsD cq hat hi0 hz0 hz1 hz2 AM hown8 hgrow8 hat8 hlt8
                have hn64 : (n : Int) < 64 := by have h1 := endsOf_len ps (t.take (i + 1)); rw [AX.out.2.2.1] at h1; have := AG.out.few; have := AJ.out; omega
                go_wp2_with fail
                have hh := AQ.out; have hnn := hN.out.1
                go_roundg (EL - (n + 1))
                case measure => omega
                case rel => exact ⟨_, n + 1, rfl, by go_num, ⟨by omega, by rw [← take_step hh.2.1, hh.2.2.2.2.2.2.2.1]; exact hC.out.1, hC.out.2⟩⟩)
            · have hn : ¬ (n : Int) < (EL : Int) := by omega
              have hnE2 : n = EL := by have := hN.out.1; omega
              have hS := hN.out.2.1
              rw [hnE2, ← AJ.out.1, ← AX.out.2.2.2.1, hitsTo_all AX.out.2.1 AX.out.2.2.1] at hS
              have AS : Aside (Sp w3 wr B M2 M1 A s7 (i + 1) s i v (hitsTo ps t (i + 1))) := hS
              have hib : (i : Int) < 1048577 := by have := AX.out; have := AT.out; omega
              clear hnE hS
              go_wp2_with fail
              have h1 := AI.out; have h2 := hA.out.1
              go_roundg (TL - (i + 1))
              case measure => omega
              case rel => exact ⟨v, i + 1, rfl, by go_num, ⟨by omega, M2, M1, s7, s, i, Or.inr ⟨AW.out, rfl, rfl⟩, R7.out.2.2, AS.out⟩⟩
        · obtain ⟨rfl, rfl⟩ : M2 = Mx ∧ M1 = Mo := hside.elim (fun h => absurd h.1 (by omega)) (fun h => ⟨h.2.1.symm, h.2.2.symm⟩)
          have t1 : decide (i = K) = false := decide_eq_false (by omega)
          have t2 : ((i : Int) == (K : Int)) = false := by rw [beq_eq_false_iff_ne]; omega
          have t3 : decide (K ≤ i) = true := decide_eq_true (by omega)
          have t4 : decide ((K : Int) ≤ (i : Int)) = true := decide_eq_true (by omega)
          have AW : Aside (K < i + 1) := by show _ < _; omega
          clear hside hgt
          have hstep := step_c w3 wr A3.out.1 A3.out.2.1 AG.out A3.out.2.2.2.1 hS.bel M2 s x i _ hS.low.1 hS.mx hws hx256 (by have := AT.out; have := AI.out; omega)
          rw [lsf_snoc A3.out.2.1.laid.tri, ← htk, endsOf_text words_sub, show min (i + 1) 4611686018427387904 = i + 1 by have := AT.out; have := AI.out; omega] at hstep
          obtain ⟨E, hE⟩ : ∃ E, endsOf ps (t.take (i + 1)) = E := ⟨_, rfl⟩
          rw [hE] at hstep
          obtain ⟨J, hJ⟩ : ∃ J, i + 1 = J := ⟨_, rfl⟩
          have hli := A3.out.2.2.2.2.below hS.bel
          have AX : Aside (True ∧ i < t.length ∧ endsOf ps (t.take (i + 1)) = E ∧ i + 1 = J ∧ Sp w3 wr B M2 M1 A s i so po v (hitsTo ps t i)) := ⟨trivial, hil, hE, hJ, hS⟩
          rcases hli with hli | ⟨tb0, to0, rfl, htc⟩
          · rw [hli] at hil; simp at hil
          have cx := htc i x hx
          clear hil hx hx256 htk hE hJ hS hws htc
          go_wp2_with (go_at_call 18; refine hstep.mono ?_; rintro e7 w7 ⟨v7, s7, rfl, hs7, hm7, hb7, ho7⟩; obtain ⟨oa, oc, rfl, hoa, hoc⟩ := ho7.outAt)
          obtain ⟨EL, hEL⟩ : ∃ EL, E.length = EL := ⟨_, rfl⟩
          rw [hEL]
          rw [AX.out.2.2.2.1] at hm7
          have R7 : Aside (Sp w3 w7 B M2 M1 A s7 J so po v (hitsTo ps t i ++ (E.take 0).map fun x => (x, J)) ∧ OutAt w7 oa E ∧ (words ps)[s7]? = some (lsf (words ps) (t.take (i + 1)))) := ⟨by simpa using AX.out.2.2.2.2.step hb7 hm7, hoa, hs7⟩
          have AJ : Aside (E.length = EL ∧ EL ≤ oc) := ⟨hEL, by omega⟩
          clear hstep hs7 hm7 hb7 ho7 hoa hoc hEL cx
          go_loopg [14, 18] EL (fun g sv sn wr2 => ∃ (v : Value) (n : Nat), sv = v ∧ sn = .int .i64 n ∧ Aside (n + g = EL ∧ Sp w3 wr2 B M2 M1 A s7 J so po v (hitsTo ps t i ++ (E.take n).map fun x => (x, J)) ∧ OutAt wr2 oa E))
          case atStart => exact ⟨_, 0, rfl, rfl, ⟨by omega, R7.out.1, R7.out.2.1⟩⟩
          case round =>
            obtain ⟨v, n, hv, rfl, hN⟩ := hrel
            have hv2 := hv.symm
            clear hv
            subst hv2
            by_cases hnE : n < EL
            · have hn : (n : Int) < (EL : Int) := by omega
              have hnl : n < E.length := by have := AJ.out; omega
              obtain ⟨q, hq⟩ : ∃ q, E[n]? = some q := ⟨_, List.getElem?_eq_getElem hnl⟩
              obtain ⟨l, hl⟩ : ∃ l, hitsTo ps t i ++ (E.take n).map (fun x => (x, J)) = l := ⟨_, rfl⟩
              have hS := hN.out.2.1
              rw [hl] at hS
              rcases hN.out.2.2 with e | ⟨ob, cur, rfl, hcur, hcx⟩
              · rw [e] at hnl; simp at hnl
              have cq : wr.cell? ⟨ob, n, none⟩ = some (.int .i64 (q : Int)) := (hcur.cell n).trans (hcx n q hq)
              have hat := fun (W : World) (hW : Mt W M2 s7 J A) => at_c M2 s7 J A W hW
              obtain ⟨vl, hvl⟩ : ∃ vl, l.length = vl := ⟨_, rfl⟩
              have hlb : (vl + 1) * 40 ≤ 140737488355328 := by
                obtain ⟨r, hr⟩ := hits_cut (ps := ps) (t := t) (i := i) AX.out.2.1 AX.out.2.2.1 hq
                rw [AX.out.2.2.2.1, hl] at hr
                have := hits_few AG.out (t := t) (by have := AT.out; omega)
                rw [hr, List.length_append, List.length_cons] at this
                omega
              obtain ⟨HH, hHH⟩ : ∃ HH, wr.heap.size = HH := ⟨_, rfl⟩
              obtain ⟨wD, hwD⟩ : ∃ wD, wD = (wr.alloc (.cells #[.int .i64 (q : Int), .slice none 0 0, .int .i64 (J : Int)] 59)).drew := ⟨_, rfl⟩
              have bD : Below wr.heap.size wr wD := by
                rw [hwD]
                have h0 := (Below.refl wr.heap.size wr).alloc (Nat.le_refl _) (.cells #[.int .i64 (q : Int), .slice none 0 0, .int .i64 (J : Int)] 59)
                exact ⟨h0.os, h0.tape, h0.output, h0.size, h0.block⟩
              have hownD : wD.ownsRow B 59 3 v vl (hvs l) := by rw [← hvl]; exact owns_below hS.own bD
              have hnewsD : ∀ j u, (YtkdlcdincimnkaaDoor.hv (q, J))[j]? = some u → wD.cell? ((⟨HH, 0, none⟩ : Addr).add j) = some u := by
                rw [← hHH, hwD]
                exact World.news_of_block (cs := #[.int .i64 (q : Int), .slice none 0 0, .int .i64 (J : Int)]) (Cells.new wr _ 59)
              have hBD : B ≤ wD.heap.size := Nat.le_trans hS.le bD.size
              obtain ⟨i0, hi0, hz0, hz1, hz2⟩ := info_parts info59
              have AQ : Aside (n < EL ∧ E[n]? = some q ∧ Sp w3 wr B M2 M1 A s7 J so po v l ∧ l.length = vl ∧ (vl + 1) * 40 ≤ 140737488355328 ∧ Below wr.heap.size wr wD ∧ OutAt wr (some ⟨ob, 0, none⟩) E ∧ hitsTo ps t i ++ (E.take n).map (fun x => (x, J)) = l ∧ B ≤ wD.heap.size) := ⟨hnE, hq, hS, hvl, hlb, bD, hN.out.2.2, hl, hBD⟩
              have AM : Aside (Mt wr M2 s7 J A) := hS.mx
              clear hnl hq hl hS hcur hcx hvl hlb bD hnE hBD
              go_upto_region 22 with fail
              subst hwD
              go_region_law (first
                | (refine step_append_lies _ (by rfl) _ _ _ (by rfl) B 59 i0 (.agg #[.int .i64 0, .slice none 0 0, .int .i64 0]) 3 40 Tryd.underlying48 hi0 hz0 hz1 hz2 rfl (by decide) _ vl (hvs l) (by rfl) hownD ⟨HH, 0, none⟩ 1 1 (YtkdlcdincimnkaaDoor.hv (q, J)) (by rfl) (by rfl) hnewsD (hv_one _) (by decide) (by unfold maxLen; have := AQ.out.2.2.2.2.1; omega) (by exact AQ.out.2.2.2.2.1) AQ.out.2.2.2.2.2.2.2.2 _ rfl ?_
                   intro gg cap' w8 hown8 hgrow8 hat8 hlt8)
                | (go_simp; go_wp2_with (go_at_call 22; refine (hat _ (by first | exact AM.out | exact Cells.drew AM.out)).mono ?_; rintro e9 w9 ⟨rfl, rfl⟩)))
              all_goals (
                have hh := AQ.out
                have hC : Aside (Sp w3 w8 B M2 M1 A s7 J so po (.slice (some ⟨gg, 0, none⟩) (vl + 1) cap') (l ++ [(q, J)]) ∧ OutAt w8 (some ⟨ob, 0, none⟩) E) := ⟨hh.2.2.1.grow hh.2.2.2.2.2.1 hgrow8 (by rw [hh.2.2.2.1]; exact hown8), hh.2.2.2.2.2.2.1.grow hh.2.2.1.own hh.2.2.2.2.2.1 hgrow8⟩
                clear hh hownD hnewsD cq hat hi0 hz0 hz1 hz2 AM hown8 hgrow8 hat8 hlt8
                have hn64 : (n : Int) < 64 := by have h1 := endsOf_len ps (t.take (i + 1)); rw [AX.out.2.2.1] at h1; have := AG.out.few; have := AJ.out; omega
                go_wp2_with fail
                have hh := AQ.out; have hnn := hN.out.1
                go_roundg (EL - (n + 1))
                case measure => omega
                case rel => exact ⟨_, n + 1, rfl, by go_num, ⟨by omega, by rw [← take_step hh.2.1, hh.2.2.2.2.2.2.2.1]; exact hC.out.1, hC.out.2⟩⟩)
            · have hn : ¬ (n : Int) < (EL : Int) := by omega
              have hnE2 : n = EL := by have := hN.out.1; omega
              have hS := hN.out.2.1
              rw [hnE2, ← AJ.out.1, ← AX.out.2.2.2.1, hitsTo_all AX.out.2.1 AX.out.2.2.1] at hS
              have AS : Aside (Sp w3 wr B M2 M1 A s7 (i + 1) so po v (hitsTo ps t (i + 1))) := hS
              have hib : (i : Int) < 1048577 := by have := AX.out; have := AT.out; omega
              clear hnE hS
              go_wp2_with fail
              have h1 := AI.out; have h2 := hA.out.1
              go_roundg (TL - (i + 1))
              case measure => omega
              case rel => exact ⟨v, i + 1, rfl, by go_num, ⟨by omega, M2, M1, s7, so, po, Or.inr ⟨AW.out, rfl, rfl⟩, R7.out.2.2, AS.out⟩⟩
      · have hi : ¬ (i : Int) < (TL : Int) := by omega
        have hiE : i = TL := by have := hA.out.1; omega
        obtain ⟨Mx, Mo, s, so, po, _, _, hS⟩ := hA.out.2
        have e : hitsTo ps t i = hitsOf ps t := by unfold hitsOf; rw [hiE, AT.out.2.1]
        rw [e] at hS
        have hbw : Below w.heap.size w wr := A3.out.2.2.1.trans (hS.bel.mono A3.out.2.2.1.size)
        have hfew := hits_few AG.out (t := t) (by have := AT.out; omega)
        obtain ⟨X, hX⟩ : ∃ X, hitsOf ps t = X := ⟨_, rfl⟩
        obtain ⟨XL, hXL⟩ : ∃ XL, X.length = XL := ⟨_, rfl⟩
        have hall := all_c wr (A3.out.1.below hS.bel) A3.out.2.1 AG.out (A3.out.2.2.2.1.below hS.bel) ta t TL TC (A3.out.2.2.2.2.below hS.bel) AT.out.2.1 (by have := AT.out; omega) AT.out.2.2.2.2.1 ((XL : Int) + 1) (fun n h1 _ => by omega)
        rw [hX] at hS hfew hall
        rw [decide_eq_true (by omega : X.length ≤ ((XL : Int) + 1).toNat), List.take_of_length_le (by omega)] at hall
        obtain ⟨la, lc, hv, hl, _⟩ := owns_hits hS.own
        rw [hXL] at hv
        subst hv
        have AZ : Aside (Below w.heap.size w wr ∧ Hits wr la X ∧ X.length = XL ∧ XL ≤ 134217728) := ⟨hbw, hl, hXL, by omega⟩
        have hXs : (XL : Int) < 134217729 := by omega
        clear hiL hiE hS e hbw hfew hX hXL hl
        go_upto_region 24 with (go_at_call 23; refine hall.mono ?_; rintro e5 w6 ⟨v6, rfl, h6⟩)
        obtain ⟨ra, rc, hv6, hl6, _⟩ := owns_hits h6.own
        rw [AZ.out.2.2.1] at hv6
        subst hv6
        have hb6w : Below w.heap.size w w6 := AZ.out.1.trans (h6.bel.mono AZ.out.1.size)
        have hsame := hsame_yes la ra X XL lc rc w6 AZ.out.2.2.1 (by have := AZ.out; omega) (AZ.out.2.1.below h6.bel) hl6
        have A6 : Aside (Below w.heap.size w w6) := hb6w
        clear hall h6 hl6 hb6w hXs
        go_wp2_with (first
          | (go_at_call 25; refine hsame.mono ?_; rintro e7 w7 ⟨rfl, hd7⟩
             have hb7 : Below w.heap.size w w7 := A6.out.trans (hd7.below _)
             have hwake := awake_c w7 (AB.out.1.below hb7)
             have A7 : Aside (Below w.heap.size w w7) := hb7
             clear hsame hd7 hb7)
          | (go_at_call 13; refine hwake.mono ?_; rintro e8 w8 ⟨rfl, hb8⟩))
        go_ret
        exact ⟨rfl, by have := A7.out.trans (hb8.mono A7.out.size); rw [AB.out.2.2.2.2.2.2.2] at this; exact this⟩
  · have hbuild := build_err a2 ps L C2 w2 hr2 AB.out.2.2.1 hL2 (by have := AB.out; omega) AB.out.2.2.2.2.2.1 hz2 hck
    have AE : Aside (Below H w w2 ∧ H ≤ w2.heap.size) := ⟨b2, s2⟩
    clear hr2 hz2 hL2 hck b2 s2
    go_wp2_with fail
    refine hbuild.mono ?_
    rintro e3 w3 ⟨rfl, hb3⟩
    have AF : Aside (Below H w w3 ∧ H ≤ w3.heap.size) := ⟨AE.out.1.trans (hb3.mono AE.out.2), Nat.le_trans AE.out.2 hb3.size⟩
    have hwake := awake_c w3 (AB.out.1.below (by rw [AB.out.2.2.2.2.2.2.2]; exact AF.out.1))
    clear hb3 hbuild
    go_wp2_with (go_at_call 13; refine hwake.mono ?_; rintro e6 w6 ⟨rfl, hb6⟩)
    go_ret
    exact ⟨rfl, AF.out.1.trans (hb6.mono AF.out.2)⟩
end Go.Proofs.YtkdlcdincimnkaaDoor

/-
  What the document's Of comes to.
-/
import Derived.Test.YtmijpocfichfpaaWhole
import Derived.Laws.Rows
namespace Go.Proofs.Ytmijpocfichfpaa
open Go.RowKit
set_option linter.unusedVariables false
theorem size28 : (Try.prog.info? 28).map (·.size) = some 4 := by kernel_rfl
/-- The bytes told so far and with which each was known, and what the rest says. -/
def SofarT (l : List Nat) (k pl : Nat) (p : Bool) (pv : Nat) (acc tms : List Nat) : Prop := Sofar l k pl p pv acc ∧ (rn 0 0 false 0 l).tm = tms ++ (rn k pl p pv (l.drop k)).tm
theorem SofarT.go {l : List Nat} {k pl : Nat} {p : Bool} {pv : Nat} {acc tms : List Nat} (h : SofarT l k pl p pv acc tms) {x : Nat} (hx : l[k]? = some x) {pl' pv' : Nat} {p' : Bool} {o : Option Nat} (e : ev pl p pv x = .go pl' p' pv' o) : SofarT l (k + 1) pl' p' pv' (acc ++ o.toList) (tms ++ (o.map fun _ => k).toList) := by
  refine ⟨h.1.go hx e, ?_⟩
  have h1 := h.2
  rw [drop_more hx, rn_go e] at h1
  cases o with
  | none => simpa [addo] using h1
  | some y => simpa [addo] using h1
theorem SofarT.stop {l : List Nat} {k pl : Nat} {p : Bool} {pv : Nat} {acc tms : List Nat} (h : SofarT l k pl p pv acc tms) {x : Nat} (hx : l[k]? = some x) {y : Nat} (e : ev pl p pv x = .stop y) : (rn 0 0 false 0 l).out = acc ∧ (rn 0 0 false 0 l).why = y ∧ (rn 0 0 false 0 l).at_ = k ∧ (rn 0 0 false 0 l).tm = tms := by
  obtain ⟨a, b, c⟩ := h.1.stop hx e
  refine ⟨a, b, c, ?_⟩
  have h1 := h.2
  rw [drop_more hx, rn_stop e] at h1
  simpa using h1
theorem SofarT.over {l : List Nat} {k pl : Nat} {p : Bool} {pv : Nat} {acc tms : List Nat} (h : SofarT l k pl p pv acc tms) (hk : k = l.length) : (rn 0 0 false 0 l).out = acc ∧ (rn 0 0 false 0 l).why = (if pl = 0 then 0 else 1) ∧ (rn 0 0 false 0 l).at_ = k ∧ (rn 0 0 false 0 l).tm = tms := by
  obtain ⟨a, b, c⟩ := h.1.over hk
  refine ⟨a, b, c, ?_⟩
  have h1 := h.2
  have e : l.drop k = [] := List.drop_eq_nil_of_le (by omega)
  rw [e, rn] at h1
  simpa using h1
theorem SofarT.len {l : List Nat} {k pl : Nat} {p : Bool} {pv : Nat} {acc tms : List Nat} (h : SofarT l k pl p pv acc tms) : acc.length ≤ l.length ∧ tms.length ≤ l.length := by
  refine ⟨h.1.len, ?_⟩
  have h1 := congrArg List.length h.2
  rw [List.length_append] at h1
  have := rn_lens l 0 0 false 0
  omega
/-- The document's run in memory, while it goes. -/
structure Rq (w wr : World) (Q : Nat) (l : List Nat) (L k pl pads v : Nat) (pv : Nat) (acc tms : List Nat) (vO vT : Value) : Prop where
  wf : Wf pl (decide (0 < pads)) pv
  c : Cells wr (Q + 1) #[vO, vT, .int .i64 0, .int .i64 (L : Int)] 28
  q : ∃ c0 c1 c2 c3, Cells wr Q #[c0, c1, c2, c3] 28
  oO : Ob wr Q vO acc
  oT : Oi wr Q vT tms
  b : Below Q w wr
  s : SofarT l k pl (decide (0 < pads)) pv acc tms
  hv : v % 64 = pv
  vb : v < 4096
  pk : pads ≤ k
/-- What Of comes to. -/
def OfTo (l : List Nat) (w : World) (e : Ending) (w' : World) : Prop :=
  ∃ vO vT, e = .returned (.agg #[vO, vT, .int .i64 ((rn 0 0 false 0 l).why : Nat), .int .i64 ((rn 0 0 false 0 l).at_ : Nat)]) ∧ Ob w' w.heap.size vO (rn 0 0 false 0 l).out ∧ Oi w' w.heap.size vT (rn 0 0 false 0 l).tm ∧ Below w.heap.size w w'
theorem ow_but {w u : World} {lo M : Nat} {e t : TypeId} {v : Value} {xs : List Value} {cs : Array Value} (h : Ow w lo e v xs) (k : Only M w u) (hM : Cells w M cs t) (ht : t ≠ e) : Ow u lo e v xs := h.but (But.of_only k) hM ht
theorem set4q {w : World} {B : Nat} {v0 v1 v2 v3 : Value} {t : TypeId} (h : Cells w B #[v0, v1, v2, v3] t) (u0 u1 u2 u3 : Value) : Cells ((((w.setCell ⟨B, 0, none⟩ u0).setCell ⟨B, 1, none⟩ u1).setCell ⟨B, 2, none⟩ u2).setCell ⟨B, 3, none⟩ u3) B #[u0, u1, u2, u3] t := by
  have := (((h.set 0 u0).set 1 u1).set 2 u2).set 3 u3
  simpa using this
theorem four {w : World} {B : Nat} {v0 v1 v2 v3 : Value} {t : TypeId} (h : Cells w B #[v0, v1, v2, v3] t) : w.cell? ⟨B, 0, none⟩ = some v0 ∧ w.cell? ⟨B, 1, none⟩ = some v1 ∧ w.cell? ⟨B, 2, none⟩ = some v2 ∧ w.cell? ⟨B, 3, none⟩ = some v3 :=
  ⟨h.cell 0, h.cell 1, h.cell 2, h.cell 3⟩
set_option maxRecDepth 20000 in
set_option maxHeartbeats 2000000 in
theorem of_c (w : World) (a : Option Addr) (l : List Nat) (L C : Nat) (hB : Lies w a l) (hL : l.length = L) (hLb : L < 1000000000000) (ho : Oct l) : Calls Try.prog 10 #[.slice a L C] w fun e w' => OfTo l w e w' := by
  obtain ⟨w1, hw1⟩ : ∃ w1, w1 = w.alloc (.cells #[.slice none 0 0, .slice none 0 0, .int .i64 0, .int .i64 0] 28) := ⟨_, rfl⟩
  obtain ⟨w2, hw2⟩ : ∃ w2, w2 = w1.alloc (.cells #[.slice none 0 0, .slice none 0 0, .int .i64 0, .int .i64 0] 28) := ⟨_, rfl⟩
  obtain ⟨Q, hQ⟩ : ∃ Q, w.heap.size = Q := ⟨_, rfl⟩
  have hz1 : w1.heap.size = Q + 1 := by rw [hw1, ← hQ]; show (w.heap.push _).size = _; simp
  have k1 : Cells w1 Q #[.slice none 0 0, .slice none 0 0, .int .i64 0, .int .i64 0] 28 := by rw [hw1, ← hQ]; exact Cells.new w _ 28
  have k2 : Cells w2 (Q + 1) #[.slice none 0 0, .slice none 0 0, .int .i64 0, .int .i64 0] 28 := by rw [hw2, ← hz1]; exact Cells.new w1 _ 28
  have k3 : Cells w2 Q #[.slice none 0 0, .slice none 0 0, .int .i64 0, .int .i64 0] 28 := by rw [hw2]; exact k1.alloc _
  have b1 : Below Q w w1 := by rw [hw1, ← hQ]; exact (Below.refl _ w).alloc (Nat.le_refl _) _
  have b2 : Below Q w1 w2 := by rw [hw2]; exact (Below.refl _ w1).alloc (by omega) _
  obtain ⟨c0, c1, c2, c3⟩ := four k2
  have f3 := k2.frozen 3
  have k4 := k2.set 3 (.int .i64 (L : Int))
  simp only [List.setIfInBounds_toArray, List.set_cons_succ, List.set_cons_zero] at k4
  have AC : Aside (Cells (w2.setCell ⟨Q + 1, 3, none⟩ (.int .i64 (L : Int))) (Q + 1) #[.slice none 0 0, .slice none 0 0, .int .i64 0, .int .i64 (L : Int)] 28 ∧ Cells (w2.setCell ⟨Q + 1, 3, none⟩ (.int .i64 (L : Int))) Q #[.slice none 0 0, .slice none 0 0, .int .i64 0, .int .i64 0] 28 ∧ Below Q w (w2.setCell ⟨Q + 1, 3, none⟩ (.int .i64 (L : Int)))) := ⟨k4, k3.only ((Only.refl _ _).setCell 3 _) (by omega), (b1.trans b2).trans (((Only.refl (Q + 1) w2).setCell 3 _).below (by omega))⟩
  have A : Aside (Lies w a l ∧ l.length = L ∧ L < 1000000000000 ∧ Oct l ∧ w.heap.size = Q) := ⟨hB, hL, hLb, ho, hQ⟩
  clear hB hL hLb ho k1 k2 k3 k4 b1 b2
  go_enter Try.func10, Try.ntmps10
  go_upto_region 2 with fail
  rw [← hw1, ← hw2]
  clear hw1 hw2 hz1 hQ
  go_wp2_with fail
  go_loopg [4, 5, 6, 7] L (fun gg s4 s5 s6 s7 wr => ∃ k pl pads v : Nat, s4 = .int .i64 (pl : Int) ∧ s5 = .int .i64 (pads : Int) ∧ s6 = .int .i64 (v : Int) ∧ s7 = .int .i64 (k : Int) ∧ Aside (k + gg = L ∧ ∃ pv acc tms vO vT, Rq w wr Q l L k pl pads v pv acc tms vO vT))
  case atStart =>
    have a0 := A.out
    have ac := AC.out
    exact ⟨0, 0, 0, 0, rfl, rfl, rfl, rfl, by omega, 0, [], [], _, _, wf0, ac.1, ⟨_, _, _, _, ac.2.1⟩, Ow.nil (by have := ac.2.2.size; omega), Ow.nil (by have := ac.2.2.size; omega), ac.2.2, ⟨⟨rfl, rfl, rfl⟩, rfl⟩, rfl, by omega, by omega⟩
  case round =>
    obtain ⟨k, pl, pads, v, rfl, rfl, rfl, rfl, hI⟩ := hrel
    obtain ⟨hkg, pv, acc, tms, vO, vT, hq⟩ := hI.out
    have a0 := A.out
    have hQe := a0.2.2.2.2
    obtain ⟨oa, oc, hvO, _, _, _⟩ := Ow.shape hq.oO
    obtain ⟨ta, tc, hvT, _, _, _⟩ := Ow.shape hq.oT
    obtain ⟨ln, hln⟩ : ∃ ln, (ob acc).length = ln := ⟨_, rfl⟩
    obtain ⟨tn, htn⟩ : ∃ tn, (oi tms).length = tn := ⟨_, rfl⟩
    rw [hln] at hvO
    rw [htn] at hvT
    subst hvO
    subst hvT
    clear hln htn
    have kc := hq.c
    obtain ⟨q0, q1, q2, q3, kq⟩ := hq.q
    obtain ⟨c0, c1, c2, c3⟩ := four kc
    have f0 := kc.frozen 0
    have f1 := kc.frozen 1
    have f2 := kc.frozen 2
    have f3 := kc.frozen 3
    obtain ⟨d0, d1, d2, d3⟩ := four kq
    have g0 := kq.frozen 0
    have g1 := kq.frozen 1
    have g2 := kq.frozen 2
    have g3 := kq.frozen 3
    by_cases hk : k < L
    · have t1 : ((k : Int) < (L : Int)) = True := eq_true (by omega)
      have t1' : (k < L) = True := eq_true hk
      have hkI : (k : Int) < 1000000000000 := by omega
      have hpI : (pads : Int) < 1000000000000 := by have := hq.pk; omega
      have hvI : (v : Int) < 4096 := by have := hq.vb; omega
      obtain ⟨x, hx⟩ : ∃ x, l[k]? = some x := ⟨_, List.getElem?_eq_getElem (by omega)⟩
      have hx256 : x < 256 := a0.2.2.2.1 x (List.mem_of_getElem? hx)
      obtain ⟨ab, ao, ha, hcB⟩ : ∃ ab ao, a = some ⟨ab, ao, none⟩ ∧ ∀ (j y : Nat), l[j]? = some y → w.cell? ⟨ab, ao + j, none⟩ = some (.int .u8 (y : Int)) := by
        rcases a0.1 with e | ⟨ab, ao, e, h⟩
        · rw [e] at hx; simp at hx
        · exact ⟨ab, ao, e, h⟩
      subst ha
      have cx0 := hcB k x hx
      have hlt := World.block_lt_of_cell? w ⟨ab, ao + k, none⟩ cx0
      have cx : wr.cell? ⟨ab, ao + k, none⟩ = some (.int .u8 (x : Int)) := (hq.b.cell (p := ⟨ab, ao + k, none⟩) (by rw [← hQe]; exact hlt)).trans cx0
      have hbl := rblank_c x hx256 wr
      have AX : Aside (k + gk = L ∧ k < L ∧ l[k]? = some x ∧ x < 256 ∧ w.heap.size = Q ∧ Rq w wr Q l L k pl pads v pv acc tms (.slice oa ln oc) (.slice ta tn tc) ∧ Cells wr (Q + 1) #[(.slice oa ln oc), (.slice ta tn tc), .int .i64 0, .int .i64 (L : Int)] 28 ∧ Cells wr Q #[q0, q1, q2, q3] 28) := ⟨hkg, hk, hx, hx256, hQe, hq, kc, kq⟩
      obtain ⟨hwf1, hwf2, hwf3⟩ := hq.wf
      have hvv := hq.hv
      clear hI hkg hx a0 hcB cx0 hlt kc kq hq hQe hk
      by_cases hb : isBlank x = true
      · have e := ev_blank (pl := pl) (p := decide (0 < pads)) (pv := pv) hb
        have AE : Aside (ev pl (decide (0 < pads)) pv x = .go pl (decide (0 < pads)) pv none) := e
        rw [hb] at hbl
        clear e hb hwf1 hwf2 hwf3 hvv
        go_wp2_with (go_at_call 19; refine hbl.mono ?_; rintro e2 w0 ⟨rfl, hw0⟩; have hw0 := hw0.symm; subst hw0)
        have ax := AX.out
        have hq := ax.2.2.2.2.2.1
        have hs := hq.s.go ax.2.2.1 AE.out
        go_roundg (gk - 1)
        case measure => omega
        case rel => exact ⟨k + 1, pl, pads, v, rfl, rfl, rfl, by go_num, by omega, pv, acc, tms, (.slice oa ln oc), (.slice ta tn tc), hq.wf, hq.c, hq.q, hq.oO, hq.oT, hq.b, by simpa using hs, hq.hv, hq.vb, Nat.le_succ_of_le hq.pk⟩
      have hbf : isBlank x = false := by simpa using hb
      rw [hbf] at hbl
      obtain ⟨r, hr⟩ : ∃ r : Int, Aside ((vl x = 64 ∧ r = -1) ∨ (vl x ≠ 64 ∧ r = vl x)) := by
        by_cases e : vl x = 64
        · exact ⟨-1, Or.inl ⟨e, rfl⟩⟩
        · exact ⟨vl x, Or.inr ⟨e, rfl⟩⟩
      have hrv := rvalue_c x hx256 r hr wr
      have hev : ev pl (decide (0 < pads)) pv x = if x = 61 then (if pl < 2 then .stop 21 else .go ((pl + 1) % 4) true pv none) else if decide (0 < pads) = true then .stop 21 else if vl x = 64 then .stop 20 else .go ((pl + 1) % 4) false (vl x) (if pl = 0 then none else some (tell pl pv (vl x))) := by rw [ev, if_neg (by rw [hbf]; simp)]
      have hrl : (-1 : Int) ≤ r ∧ r < 64 := by have := hr.out; have := vl_le x; omega
      by_cases h61 : x = 61
      · subst h61
        rw [if_pos rfl] at hev
        by_cases hpl : pl < 2
        · rw [if_pos hpl] at hev
          have AE : Aside (ev pl (decide (0 < pads)) pv 61 = .stop 21) := hev
          by_cases hpd : 0 < pads
          · have t2 : ((0 : Int) < (pads : Int)) = True := eq_true (by omega)
            have t2' : (0 < pads) = True := eq_true hpd
            have t2'' : pads ≠ 0 := by omega
            obtain rfl : pl = 0 := by have := hwf3 (by simpa using hpd); omega
            clear hev hpl hpd hwf1 hwf2 hwf3 hvv hb hbf hr
            go_wp2_with (first | (go_at_call 19; refine hbl.mono ?_; rintro e2 w0 ⟨rfl, hw0⟩; have hw0 := hw0.symm; subst hw0) | (go_at_call 20; refine hrv.mono ?_; rintro e2 w0 ⟨rfl, hw0⟩; have hw0 := hw0.symm; subst hw0))
            have ax := AX.out
            have hq := ax.2.2.2.2.2.1
            obtain ⟨r1, r2, r3, r4⟩ := hq.s.stop ax.2.2.1 AE.out
            have o1 : Only (Q + 1) wr ((wr.setCell ⟨Q + 1, 2, none⟩ (.int .i64 21)).setCell ⟨Q + 1, 3, none⟩ (.int .i64 (k : Int))) := ((Only.refl (Q + 1) wr).setCell 2 _).setCell 3 _
            have m1 : Cells ((wr.setCell ⟨Q + 1, 2, none⟩ (.int .i64 21)).setCell ⟨Q + 1, 3, none⟩ (.int .i64 (k : Int))) (Q + 1) #[(.slice oa ln oc), (.slice ta tn tc), .int .i64 21, .int .i64 (k : Int)] 28 := by
              have := (ax.2.2.2.2.2.2.1.set 2 (.int .i64 21)).set 3 (.int .i64 (k : Int))
              simpa using this
            have m2 := ax.2.2.2.2.2.2.2.only o1 (by omega)
            obtain ⟨w5, hw5⟩ : ∃ w5, (wr.setCell ⟨Q + 1, 2, none⟩ (.int .i64 21)).setCell ⟨Q + 1, 3, none⟩ (.int .i64 (k : Int)) = w5 := ⟨_, rfl⟩
            rw [hw5] at o1 m1 m2 ⊢
            have m3 := set4q m2 (.slice oa ln oc) (.slice ta tn tc) (.int .i64 21) (.int .i64 (k : Int))
            have o2 : Only Q w5 ((((w5.setCell ⟨Q, 0, none⟩ (.slice oa ln oc)).setCell ⟨Q, 1, none⟩ (.slice ta tn tc)).setCell ⟨Q, 2, none⟩ (.int .i64 21)).setCell ⟨Q, 3, none⟩ (.int .i64 (k : Int))) := (((Only.refl Q w5).setCell 0 _).setCell 1 _).setCell 2 _ |>.setCell 3 _
            (try simp only [Exit.inBlock, Exit.then])
            refine bodyPost_ret (v := .agg #[(.slice oa ln oc), (.slice ta tn tc), .int .i64 21, .int .i64 (k : Int)]) ?_ rfl ?_
            · exact results_cell_row rfl _ _ Q 28 _ (0, 0) _ rfl m3 Try.underlying28 rfl size28
            · have hQ := ax.2.2.2.2.1
              refine ⟨(.slice oa ln oc), (.slice ta tn tc), by rw [r2, r3]; rfl, ?_, ?_, ?_⟩
              · rw [r1, hQ]; exact ow_but (ow_but hq.oO o1 ax.2.2.2.2.2.2.1 (by decide)) o2 m2 (by decide)
              · rw [r4, hQ]; exact ow_but (ow_but hq.oT o1 ax.2.2.2.2.2.2.1 (by decide)) o2 m2 (by decide)
              · rw [hQ]; exact hq.b.trans ((o1.below (by omega)).trans (o2.below (by omega)))
          · obtain rfl : pads = 0 := by omega
            rcases (show pl = 0 ∨ pl = 1 by omega) with rfl | rfl
            · clear hev hpl hpd hwf1 hwf2 hwf3 hvv hb hbf hr
              go_wp2_with (first | (go_at_call 19; refine hbl.mono ?_; rintro e2 w0 ⟨rfl, hw0⟩; have hw0 := hw0.symm; subst hw0) | (go_at_call 20; refine hrv.mono ?_; rintro e2 w0 ⟨rfl, hw0⟩; have hw0 := hw0.symm; subst hw0))
              have ax := AX.out
              have hq := ax.2.2.2.2.2.1
              obtain ⟨r1, r2, r3, r4⟩ := hq.s.stop ax.2.2.1 AE.out
              have o1 : Only (Q + 1) wr ((wr.setCell ⟨Q + 1, 2, none⟩ (.int .i64 21)).setCell ⟨Q + 1, 3, none⟩ (.int .i64 (k : Int))) := ((Only.refl (Q + 1) wr).setCell 2 _).setCell 3 _
              have m1 : Cells ((wr.setCell ⟨Q + 1, 2, none⟩ (.int .i64 21)).setCell ⟨Q + 1, 3, none⟩ (.int .i64 (k : Int))) (Q + 1) #[(.slice oa ln oc), (.slice ta tn tc), .int .i64 21, .int .i64 (k : Int)] 28 := by
                have := (ax.2.2.2.2.2.2.1.set 2 (.int .i64 21)).set 3 (.int .i64 (k : Int))
                simpa using this
              have m2 := ax.2.2.2.2.2.2.2.only o1 (by omega)
              obtain ⟨w5, hw5⟩ : ∃ w5, (wr.setCell ⟨Q + 1, 2, none⟩ (.int .i64 21)).setCell ⟨Q + 1, 3, none⟩ (.int .i64 (k : Int)) = w5 := ⟨_, rfl⟩
              rw [hw5] at o1 m1 m2 ⊢
              have m3 := set4q m2 (.slice oa ln oc) (.slice ta tn tc) (.int .i64 21) (.int .i64 (k : Int))
              have o2 : Only Q w5 ((((w5.setCell ⟨Q, 0, none⟩ (.slice oa ln oc)).setCell ⟨Q, 1, none⟩ (.slice ta tn tc)).setCell ⟨Q, 2, none⟩ (.int .i64 21)).setCell ⟨Q, 3, none⟩ (.int .i64 (k : Int))) := (((Only.refl Q w5).setCell 0 _).setCell 1 _).setCell 2 _ |>.setCell 3 _
              (try simp only [Exit.inBlock, Exit.then])
              refine bodyPost_ret (v := .agg #[(.slice oa ln oc), (.slice ta tn tc), .int .i64 21, .int .i64 (k : Int)]) ?_ rfl ?_
              · exact results_cell_row rfl _ _ Q 28 _ (0, 0) _ rfl m3 Try.underlying28 rfl size28
              · have hQ := ax.2.2.2.2.1
                refine ⟨(.slice oa ln oc), (.slice ta tn tc), by rw [r2, r3]; rfl, ?_, ?_, ?_⟩
                · rw [r1, hQ]; exact ow_but (ow_but hq.oO o1 ax.2.2.2.2.2.2.1 (by decide)) o2 m2 (by decide)
                · rw [r4, hQ]; exact ow_but (ow_but hq.oT o1 ax.2.2.2.2.2.2.1 (by decide)) o2 m2 (by decide)
                · rw [hQ]; exact hq.b.trans ((o1.below (by omega)).trans (o2.below (by omega)))
            · clear hev hpl hpd hwf1 hwf2 hwf3 hvv hb hbf hr
              go_wp2_with (first | (go_at_call 19; refine hbl.mono ?_; rintro e2 w0 ⟨rfl, hw0⟩; have hw0 := hw0.symm; subst hw0) | (go_at_call 20; refine hrv.mono ?_; rintro e2 w0 ⟨rfl, hw0⟩; have hw0 := hw0.symm; subst hw0))
              have ax := AX.out
              have hq := ax.2.2.2.2.2.1
              obtain ⟨r1, r2, r3, r4⟩ := hq.s.stop ax.2.2.1 AE.out
              have o1 : Only (Q + 1) wr ((wr.setCell ⟨Q + 1, 2, none⟩ (.int .i64 21)).setCell ⟨Q + 1, 3, none⟩ (.int .i64 (k : Int))) := ((Only.refl (Q + 1) wr).setCell 2 _).setCell 3 _
              have m1 : Cells ((wr.setCell ⟨Q + 1, 2, none⟩ (.int .i64 21)).setCell ⟨Q + 1, 3, none⟩ (.int .i64 (k : Int))) (Q + 1) #[(.slice oa ln oc), (.slice ta tn tc), .int .i64 21, .int .i64 (k : Int)] 28 := by
                have := (ax.2.2.2.2.2.2.1.set 2 (.int .i64 21)).set 3 (.int .i64 (k : Int))
                simpa using this
              have m2 := ax.2.2.2.2.2.2.2.only o1 (by omega)
              obtain ⟨w5, hw5⟩ : ∃ w5, (wr.setCell ⟨Q + 1, 2, none⟩ (.int .i64 21)).setCell ⟨Q + 1, 3, none⟩ (.int .i64 (k : Int)) = w5 := ⟨_, rfl⟩
              rw [hw5] at o1 m1 m2 ⊢
              have m3 := set4q m2 (.slice oa ln oc) (.slice ta tn tc) (.int .i64 21) (.int .i64 (k : Int))
              have o2 : Only Q w5 ((((w5.setCell ⟨Q, 0, none⟩ (.slice oa ln oc)).setCell ⟨Q, 1, none⟩ (.slice ta tn tc)).setCell ⟨Q, 2, none⟩ (.int .i64 21)).setCell ⟨Q, 3, none⟩ (.int .i64 (k : Int))) := (((Only.refl Q w5).setCell 0 _).setCell 1 _).setCell 2 _ |>.setCell 3 _
              (try simp only [Exit.inBlock, Exit.then])
              refine bodyPost_ret (v := .agg #[(.slice oa ln oc), (.slice ta tn tc), .int .i64 21, .int .i64 (k : Int)]) ?_ rfl ?_
              · exact results_cell_row rfl _ _ Q 28 _ (0, 0) _ rfl m3 Try.underlying28 rfl size28
              · have hQ := ax.2.2.2.2.1
                refine ⟨(.slice oa ln oc), (.slice ta tn tc), by rw [r2, r3]; rfl, ?_, ?_, ?_⟩
                · rw [r1, hQ]; exact ow_but (ow_but hq.oO o1 ax.2.2.2.2.2.2.1 (by decide)) o2 m2 (by decide)
                · rw [r4, hQ]; exact ow_but (ow_but hq.oT o1 ax.2.2.2.2.2.2.1 (by decide)) o2 m2 (by decide)
                · rw [hQ]; exact hq.b.trans ((o1.below (by omega)).trans (o2.below (by omega)))
        · rw [if_neg hpl] at hev
          have hpd2 : decide (0 < pads + 1) = true := by simp
          have AE : Aside (ev pl (decide (0 < pads)) pv 61 = .go ((pl + 1) % 4) (decide (0 < pads + 1)) pv none) := by rw [hpd2]; exact hev
          rcases (show pl = 2 ∨ pl = 3 by omega) with rfl | rfl
          · have hpd : ¬ 0 < pads := fun h => by have := hwf3 (by simpa using h); omega
            obtain rfl : pads = 0 := by omega
            clear hev hpl hpd hpd2 hwf1 hwf2 hwf3 hvv hb hbf hr
            go_wp2_with (first | (go_at_call 19; refine hbl.mono ?_; rintro e2 w0 ⟨rfl, hw0⟩; have hw0 := hw0.symm; subst hw0) | (go_at_call 20; refine hrv.mono ?_; rintro e2 w0 ⟨rfl, hw0⟩; have hw0 := hw0.symm; subst hw0))
            have ax := AX.out
            have hq := ax.2.2.2.2.2.1
            have hs := hq.s.go ax.2.2.1 AE.out
            have hw2 := ev_wf hq.wf AE.out
            go_roundg (gk - 1)
            case measure => omega
            case rel => exact ⟨k + 1, 3, 0 + 1, v, rfl, by go_num, rfl, by go_num, by omega, pv, acc, tms, (.slice oa ln oc), (.slice ta tn tc), hw2, hq.c, hq.q, hq.oO, hq.oT, hq.b, by simpa using hs, hq.hv, hq.vb, Nat.succ_le_succ hq.pk⟩
          · by_cases hpd : 0 < pads
            · have t2 : ((0 : Int) < (pads : Int)) = True := eq_true (by omega)
              have t2' : (0 < pads) = True := eq_true hpd
              have t2'' : pads ≠ 0 := by omega
              clear hev hpl hpd hpd2 hwf1 hwf2 hwf3 hvv hb hbf hr
              go_wp2_with (first | (go_at_call 19; refine hbl.mono ?_; rintro e2 w0 ⟨rfl, hw0⟩; have hw0 := hw0.symm; subst hw0) | (go_at_call 20; refine hrv.mono ?_; rintro e2 w0 ⟨rfl, hw0⟩; have hw0 := hw0.symm; subst hw0))
              have ax := AX.out
              have hq := ax.2.2.2.2.2.1
              have hs := hq.s.go ax.2.2.1 AE.out
              have hw2 := ev_wf hq.wf AE.out
              go_roundg (gk - 1)
              case measure => omega
              case rel => exact ⟨k + 1, 0, pads + 1, v, rfl, by go_num, rfl, by go_num, by omega, pv, acc, tms, (.slice oa ln oc), (.slice ta tn tc), hw2, hq.c, hq.q, hq.oO, hq.oT, hq.b, by simpa using hs, hq.hv, hq.vb, Nat.succ_le_succ hq.pk⟩
            · obtain rfl : pads = 0 := by omega
              clear hev hpl hpd hpd2 hwf1 hwf2 hwf3 hvv hb hbf hr
              go_wp2_with (first | (go_at_call 19; refine hbl.mono ?_; rintro e2 w0 ⟨rfl, hw0⟩; have hw0 := hw0.symm; subst hw0) | (go_at_call 20; refine hrv.mono ?_; rintro e2 w0 ⟨rfl, hw0⟩; have hw0 := hw0.symm; subst hw0))
              have ax := AX.out
              have hq := ax.2.2.2.2.2.1
              have hs := hq.s.go ax.2.2.1 AE.out
              have hw2 := ev_wf hq.wf AE.out
              go_roundg (gk - 1)
              case measure => omega
              case rel => exact ⟨k + 1, 0, 0 + 1, v, rfl, by go_num, rfl, by go_num, by omega, pv, acc, tms, (.slice oa ln oc), (.slice ta tn tc), hw2, hq.c, hq.q, hq.oO, hq.oT, hq.b, by simpa using hs, hq.hv, hq.vb, Nat.succ_le_succ hq.pk⟩
      · rw [if_neg h61] at hev
        have t3 : ((x : Int) == 61) = false := by rw [beq_eq_false_iff_ne]; omega
        have t3' : ((x : Int) = 61) = False := eq_false (by omega)
        by_cases hpd : 0 < pads
        · rw [if_pos (by simpa using hpd)] at hev
          have AE : Aside (ev pl (decide (0 < pads)) pv x = .stop 21) := hev
          have t2 : ((0 : Int) < (pads : Int)) = True := eq_true (by omega)
          have t2' : (0 < pads) = True := eq_true hpd
          have t2'' : pads ≠ 0 := by omega
          rcases (show pl = 0 ∨ pl = 3 from hwf3 (by simpa using hpd)) with rfl | rfl
          · clear hev hpd hwf1 hwf2 hwf3 hvv hb hbf hr h61
            go_wp2_with (first | (go_at_call 19; refine hbl.mono ?_; rintro e2 w0 ⟨rfl, hw0⟩; have hw0 := hw0.symm; subst hw0) | (go_at_call 20; refine hrv.mono ?_; rintro e2 w0 ⟨rfl, hw0⟩; have hw0 := hw0.symm; subst hw0))
            have ax := AX.out
            have hq := ax.2.2.2.2.2.1
            obtain ⟨r1, r2, r3, r4⟩ := hq.s.stop ax.2.2.1 AE.out
            have o1 : Only (Q + 1) wr ((wr.setCell ⟨Q + 1, 2, none⟩ (.int .i64 21)).setCell ⟨Q + 1, 3, none⟩ (.int .i64 (k : Int))) := ((Only.refl (Q + 1) wr).setCell 2 _).setCell 3 _
            have m1 : Cells ((wr.setCell ⟨Q + 1, 2, none⟩ (.int .i64 21)).setCell ⟨Q + 1, 3, none⟩ (.int .i64 (k : Int))) (Q + 1) #[(.slice oa ln oc), (.slice ta tn tc), .int .i64 21, .int .i64 (k : Int)] 28 := by
              have := (ax.2.2.2.2.2.2.1.set 2 (.int .i64 21)).set 3 (.int .i64 (k : Int))
              simpa using this
            have m2 := ax.2.2.2.2.2.2.2.only o1 (by omega)
            obtain ⟨w5, hw5⟩ : ∃ w5, (wr.setCell ⟨Q + 1, 2, none⟩ (.int .i64 21)).setCell ⟨Q + 1, 3, none⟩ (.int .i64 (k : Int)) = w5 := ⟨_, rfl⟩
            rw [hw5] at o1 m1 m2 ⊢
            have m3 := set4q m2 (.slice oa ln oc) (.slice ta tn tc) (.int .i64 21) (.int .i64 (k : Int))
            have o2 : Only Q w5 ((((w5.setCell ⟨Q, 0, none⟩ (.slice oa ln oc)).setCell ⟨Q, 1, none⟩ (.slice ta tn tc)).setCell ⟨Q, 2, none⟩ (.int .i64 21)).setCell ⟨Q, 3, none⟩ (.int .i64 (k : Int))) := (((Only.refl Q w5).setCell 0 _).setCell 1 _).setCell 2 _ |>.setCell 3 _
            (try simp only [Exit.inBlock, Exit.then])
            refine bodyPost_ret (v := .agg #[(.slice oa ln oc), (.slice ta tn tc), .int .i64 21, .int .i64 (k : Int)]) ?_ rfl ?_
            · exact results_cell_row rfl _ _ Q 28 _ (0, 0) _ rfl m3 Try.underlying28 rfl size28
            · have hQ := ax.2.2.2.2.1
              refine ⟨(.slice oa ln oc), (.slice ta tn tc), by rw [r2, r3]; rfl, ?_, ?_, ?_⟩
              · rw [r1, hQ]; exact ow_but (ow_but hq.oO o1 ax.2.2.2.2.2.2.1 (by decide)) o2 m2 (by decide)
              · rw [r4, hQ]; exact ow_but (ow_but hq.oT o1 ax.2.2.2.2.2.2.1 (by decide)) o2 m2 (by decide)
              · rw [hQ]; exact hq.b.trans ((o1.below (by omega)).trans (o2.below (by omega)))
          · clear hev hpd hwf1 hwf2 hwf3 hvv hb hbf hr h61
            go_wp2_with (first | (go_at_call 19; refine hbl.mono ?_; rintro e2 w0 ⟨rfl, hw0⟩; have hw0 := hw0.symm; subst hw0) | (go_at_call 20; refine hrv.mono ?_; rintro e2 w0 ⟨rfl, hw0⟩; have hw0 := hw0.symm; subst hw0))
            have ax := AX.out
            have hq := ax.2.2.2.2.2.1
            obtain ⟨r1, r2, r3, r4⟩ := hq.s.stop ax.2.2.1 AE.out
            have o1 : Only (Q + 1) wr ((wr.setCell ⟨Q + 1, 2, none⟩ (.int .i64 21)).setCell ⟨Q + 1, 3, none⟩ (.int .i64 (k : Int))) := ((Only.refl (Q + 1) wr).setCell 2 _).setCell 3 _
            have m1 : Cells ((wr.setCell ⟨Q + 1, 2, none⟩ (.int .i64 21)).setCell ⟨Q + 1, 3, none⟩ (.int .i64 (k : Int))) (Q + 1) #[(.slice oa ln oc), (.slice ta tn tc), .int .i64 21, .int .i64 (k : Int)] 28 := by
              have := (ax.2.2.2.2.2.2.1.set 2 (.int .i64 21)).set 3 (.int .i64 (k : Int))
              simpa using this
            have m2 := ax.2.2.2.2.2.2.2.only o1 (by omega)
            obtain ⟨w5, hw5⟩ : ∃ w5, (wr.setCell ⟨Q + 1, 2, none⟩ (.int .i64 21)).setCell ⟨Q + 1, 3, none⟩ (.int .i64 (k : Int)) = w5 := ⟨_, rfl⟩
            rw [hw5] at o1 m1 m2 ⊢
            have m3 := set4q m2 (.slice oa ln oc) (.slice ta tn tc) (.int .i64 21) (.int .i64 (k : Int))
            have o2 : Only Q w5 ((((w5.setCell ⟨Q, 0, none⟩ (.slice oa ln oc)).setCell ⟨Q, 1, none⟩ (.slice ta tn tc)).setCell ⟨Q, 2, none⟩ (.int .i64 21)).setCell ⟨Q, 3, none⟩ (.int .i64 (k : Int))) := (((Only.refl Q w5).setCell 0 _).setCell 1 _).setCell 2 _ |>.setCell 3 _
            (try simp only [Exit.inBlock, Exit.then])
            refine bodyPost_ret (v := .agg #[(.slice oa ln oc), (.slice ta tn tc), .int .i64 21, .int .i64 (k : Int)]) ?_ rfl ?_
            · exact results_cell_row rfl _ _ Q 28 _ (0, 0) _ rfl m3 Try.underlying28 rfl size28
            · have hQ := ax.2.2.2.2.1
              refine ⟨(.slice oa ln oc), (.slice ta tn tc), by rw [r2, r3]; rfl, ?_, ?_, ?_⟩
              · rw [r1, hQ]; exact ow_but (ow_but hq.oO o1 ax.2.2.2.2.2.2.1 (by decide)) o2 m2 (by decide)
              · rw [r4, hQ]; exact ow_but (ow_but hq.oT o1 ax.2.2.2.2.2.2.1 (by decide)) o2 m2 (by decide)
              · rw [hQ]; exact hq.b.trans ((o1.below (by omega)).trans (o2.below (by omega)))
        · rw [if_neg (by simpa using hpd)] at hev
          obtain rfl : pads = 0 := by omega
          by_cases hvl : vl x = 64
          · rw [if_pos hvl] at hev
            have AE : Aside (ev pl (decide (0 < 0)) pv x = .stop 20) := hev
            obtain rfl : r = -1 := by have := hr.out; omega
            clear hev hpd hwf1 hwf2 hwf3 hvv hb hbf hr h61 hvl
            go_wp2_with (first | (go_at_call 19; refine hbl.mono ?_; rintro e2 w0 ⟨rfl, hw0⟩; have hw0 := hw0.symm; subst hw0) | (go_at_call 20; refine hrv.mono ?_; rintro e2 w0 ⟨rfl, hw0⟩; have hw0 := hw0.symm; subst hw0))
            have ax := AX.out
            have hq := ax.2.2.2.2.2.1
            obtain ⟨r1, r2, r3, r4⟩ := hq.s.stop ax.2.2.1 AE.out
            have o1 : Only (Q + 1) wr ((wr.setCell ⟨Q + 1, 2, none⟩ (.int .i64 20)).setCell ⟨Q + 1, 3, none⟩ (.int .i64 (k : Int))) := ((Only.refl (Q + 1) wr).setCell 2 _).setCell 3 _
            have m1 : Cells ((wr.setCell ⟨Q + 1, 2, none⟩ (.int .i64 20)).setCell ⟨Q + 1, 3, none⟩ (.int .i64 (k : Int))) (Q + 1) #[(.slice oa ln oc), (.slice ta tn tc), .int .i64 20, .int .i64 (k : Int)] 28 := by
              have := (ax.2.2.2.2.2.2.1.set 2 (.int .i64 20)).set 3 (.int .i64 (k : Int))
              simpa using this
            have m2 := ax.2.2.2.2.2.2.2.only o1 (by omega)
            obtain ⟨w5, hw5⟩ : ∃ w5, (wr.setCell ⟨Q + 1, 2, none⟩ (.int .i64 20)).setCell ⟨Q + 1, 3, none⟩ (.int .i64 (k : Int)) = w5 := ⟨_, rfl⟩
            rw [hw5] at o1 m1 m2 ⊢
            have m3 := set4q m2 (.slice oa ln oc) (.slice ta tn tc) (.int .i64 20) (.int .i64 (k : Int))
            have o2 : Only Q w5 ((((w5.setCell ⟨Q, 0, none⟩ (.slice oa ln oc)).setCell ⟨Q, 1, none⟩ (.slice ta tn tc)).setCell ⟨Q, 2, none⟩ (.int .i64 20)).setCell ⟨Q, 3, none⟩ (.int .i64 (k : Int))) := (((Only.refl Q w5).setCell 0 _).setCell 1 _).setCell 2 _ |>.setCell 3 _
            (try simp only [Exit.inBlock, Exit.then])
            refine bodyPost_ret (v := .agg #[(.slice oa ln oc), (.slice ta tn tc), .int .i64 20, .int .i64 (k : Int)]) ?_ rfl ?_
            · exact results_cell_row rfl _ _ Q 28 _ (0, 0) _ rfl m3 Try.underlying28 rfl size28
            · have hQ := ax.2.2.2.2.1
              refine ⟨(.slice oa ln oc), (.slice ta tn tc), by rw [r2, r3]; rfl, ?_, ?_, ?_⟩
              · rw [r1, hQ]; exact ow_but (ow_but hq.oO o1 ax.2.2.2.2.2.2.1 (by decide)) o2 m2 (by decide)
              · rw [r4, hQ]; exact ow_but (ow_but hq.oT o1 ax.2.2.2.2.2.2.1 (by decide)) o2 m2 (by decide)
              · rw [hQ]; exact hq.b.trans ((o1.below (by omega)).trans (o2.below (by omega)))
          · rw [if_neg hvl] at hev
            obtain ⟨sx, hsx⟩ : ∃ sx, vl x = sx := ⟨_, rfl⟩
            obtain rfl : r = (sx : Int) := by have := hr.out; omega
            rw [hsx] at hev
            have hsx64 : sx < 64 := by omega
            have t4 : ((sx : Int) < 0) = False := eq_false (by omega)
            rcases (show pl = 0 ∨ pl = 1 ∨ pl = 2 ∨ pl = 3 by omega) with rfl | rfl | rfl | rfl
            · have AE : Aside (ev 0 (decide (0 < 0)) pv x = .go 1 (decide (0 < 0)) sx none) := hev
              have AV : Aside (v % 64 = pv) := hvv
              clear hev hpd hwf1 hwf2 hwf3 hvv hb hbf hr h61 hvl hsx
              go_wp2_with (first | (go_at_call 19; refine hbl.mono ?_; rintro e2 w0 ⟨rfl, hw0⟩; have hw0 := hw0.symm; subst hw0) | (go_at_call 20; refine hrv.mono ?_; rintro e2 w0 ⟨rfl, hw0⟩; have hw0 := hw0.symm; subst hw0))
              have ax := AX.out
              have hq := ax.2.2.2.2.2.1
              have hs := hq.s.go ax.2.2.1 AE.out
              have hw2 := ev_wf hq.wf AE.out
              go_roundg (gk - 1)
              case measure => omega
              case rel => exact ⟨k + 1, 1, 0, v % 64 * 64 + sx, rfl, rfl, by go_num, by go_num, by omega, sx, acc, tms, (.slice oa ln oc), (.slice ta tn tc), hw2, hq.c, hq.q, hq.oO, hq.oT, hq.b, by simpa using hs, by omega, by omega, Nat.zero_le _⟩
            · have AE : Aside (ev 1 (decide (0 < 0)) pv x = .go 2 (decide (0 < 0)) sx (some (tell 1 pv sx))) := hev
              have AV : Aside (v % 64 = pv) := hvv
              obtain ⟨y, hy⟩ : ∃ y, tell 1 pv sx = y := ⟨_, rfl⟩
              rw [hy] at AE
              obtain ⟨v2, hv2⟩ : ∃ v2, v % 64 * 64 + sx = v2 := ⟨_, rfl⟩
              have hyv : (v2 : Int) / 16 = (y : Int) := by
                rw [← hy, ← hv2, ← hvv]
                simp only [tell]
                omega
              have AV2 : Aside (v2 % 64 = sx ∧ v2 < 4096 ∧ (v : Int) % 64 * 64 + (sx : Int) = (v2 : Int)) := ⟨by omega, by omega, by omega⟩
              have hv2b : (v2 : Int) < 4096 := by omega
              clear hev hpd hwf1 hwf2 hwf3 hvv hb hbf hr h61 hvl hsx hy hv2
              go_upto_region 11 with (first | (go_at_call 19; refine hbl.mono ?_; rintro e2 w0 ⟨rfl, hw0⟩; have hw0 := hw0.symm; subst hw0) | (go_at_call 20; refine hrv.mono ?_; rintro e2 w0 ⟨rfl, hw0⟩; have hw0 := hw0.symm; subst hw0))
              rw [AV2.out.2.2]
              have ax := AX.out
              have hq := ax.2.2.2.2.2.1
              obtain ⟨H, hH⟩ : ∃ H, wr.heap.size = H := ⟨_, rfl⟩
              have bal : Below wr.heap.size wr (wr.alloc (.cells #[.int .u8 (y : Int)] 5)) := (Below.refl _ wr).alloc (Nat.le_refl _) _
              have hobA : Ob (wr.alloc (.cells #[.int .u8 (y : Int)] 5)) Q (.slice oa ln oc) acc := Ow.below hq.oO bal (Nat.le_refl _)
              have hoiA : Oi (wr.alloc (.cells #[.int .u8 (y : Int)] 5)) Q (.slice ta tn tc) tms := Ow.below hq.oT bal (Nat.le_refl _)
              have hlA := lies_one wr H y hH
              have hkA := ax.2.2.2.2.2.2.1.alloc (.cells #[.int .u8 (y : Int)] 5)
              have hkB := ax.2.2.2.2.2.2.2.alloc (.cells #[.int .u8 (y : Int)] 5)
              have AB : Aside (Below Q w (wr.alloc (.cells #[.int .u8 (y : Int)] 5))) := hq.b.trans (bal.mono (hq.oO.le))
              have hlen := hq.s.len
              have AL : Aside (acc.length + 1 ≤ 140737488355328 ∧ tms.length < 1000000000000) := ⟨by have := A.out; omega, by have := A.out; omega⟩
              clear ax hq bal hlen cx hbl hrv t1 t1' d0 d1 d2 d3 g0 g1 g2 g3
              go_upto_region 12 with (at_builtin; refine wpList_ob _ rfl (.tmp 36) (.tmp 44) rfl Q (.slice oa ln oc) acc (by rfl) hobA (some ⟨H, 0, none⟩) [y] 1 1 rfl (by rfl) (by intro h; cases h) hlA AL.out.1 ?_; intro v6 w6 hap; obtain ⟨a6, n6, c6, hv6⟩ : ∃ a6 n6 c6, v6 = .slice a6 n6 c6 := (by obtain ⟨a7, c7, h6, _⟩ := Ow.shape hap.ow; exact ⟨_, _, _, h6⟩); subst hv6; have k6 := hkA.ap hap.ap (by decide); have e0 := (four k6).1; have f60 := k6.frozen 0; clear c0 c1 c2 c3 f0 f1 f2 f3)
              have m6 := hkB.ap hap.ap (by decide)
              obtain ⟨v6, hv6⟩ : ∃ v6, Value.slice a6 n6 c6 = v6 := ⟨_, rfl⟩
              have o7 : Only (Q + 1) w6 (w6.setCell ⟨Q + 1, 0, none⟩ v6) := (Only.refl (Q + 1) w6).setCell 0 _
              have k7 : Cells (w6.setCell ⟨Q + 1, 0, none⟩ v6) (Q + 1) #[v6, (.slice ta tn tc), .int .i64 0, .int .i64 (L : Int)] 28 := by
                have := k6.set 0 v6
                simpa using this
              have m7 := m6.only o7 (by omega)
              have ob7 : Ob (w6.setCell ⟨Q + 1, 0, none⟩ v6) Q v6 (acc ++ [y]) := ow_but (by rw [← hv6]; exact hap.ow) o7 k6 (by decide)
              have oi7 : Oi (w6.setCell ⟨Q + 1, 0, none⟩ v6) Q (.slice ta tn tc) tms := ow_but (Ow.ap hoiA hap.ap (by decide)) o7 k6 (by decide)
              have b7 : Below Q w (w6.setCell ⟨Q + 1, 0, none⟩ v6) := (AB.out.trans hap.ap.bel).trans (o7.below (by omega))
              rw [hv6]
              obtain ⟨w7, hw7⟩ : ∃ w7, w6.setCell ⟨Q + 1, 0, none⟩ v6 = w7 := ⟨_, rfl⟩
              rw [hw7] at k7 m7 ob7 oi7 b7 ⊢
              obtain ⟨H2, hH2⟩ : ∃ H2, w7.heap.size = H2 := ⟨_, rfl⟩
              have bal7 : Below w7.heap.size w7 (w7.alloc (.cells #[.int .i64 (k : Int)] 3)) := (Below.refl _ w7).alloc (Nat.le_refl _) _
              have obA7 : Ob (w7.alloc (.cells #[.int .i64 (k : Int)] 3)) Q v6 (acc ++ [y]) := Ow.below ob7 bal7 (Nat.le_refl _)
              have oiA7 : Oi (w7.alloc (.cells #[.int .i64 (k : Int)] 3)) Q (.slice ta tn tc) tms := Ow.below oi7 bal7 (Nat.le_refl _)
              have lA7 : (w7.alloc (.cells #[.int .i64 (k : Int)] 3)).cell? ⟨H2, 0, none⟩ = some (.int .i64 (k : Int)) := by rw [← hH2]; exact (Cells.new w7 #[.int .i64 (k : Int)] 3).cell 0
              have kA7 := k7.alloc (.cells #[.int .i64 (k : Int)] 3)
              have mA7 := m7.alloc (.cells #[.int .i64 (k : Int)] 3)
              have bA7 : Aside (Below Q w (w7.alloc (.cells #[.int .i64 (k : Int)] 3))) := b7.trans (bal7.mono ob7.le)
              have c0 := (four k7).1
              have c1 := (four k7).2.1
              clear hobA hoiA hlA hkA hkB hap k6 e0 f60 m6 hv6 o7 m7 ob7 oi7 b7 hw7 bal7 hH
              go_upto_region 13 with (at_builtin; refine wpList_oi _ rfl (.tmp 48) (.tmp 50) rfl Q (.slice ta tn tc) tms (by rfl) oiA7 H2 1 k (by rfl) lA7 AL.out.2 ?_; intro v8 w8 hap8; obtain ⟨a8, n8, c8, hv8⟩ : ∃ a8 n8 c8, v8 = .slice a8 n8 c8 := (by obtain ⟨a9, c9, h9, _⟩ := Ow.shape hap8.ow; exact ⟨_, _, _, h9⟩); subst hv8; have k8 := kA7.ap hap8.ap (by decide); have e1 := (four k8).2.1; have f81 := k8.frozen 1; clear c0 c1)
              have m8 := mA7.ap hap8.ap (by decide)
              obtain ⟨v8, hv8⟩ : ∃ v8, Value.slice a8 n8 c8 = v8 := ⟨_, rfl⟩
              have o9 : Only (Q + 1) w8 (w8.setCell ⟨Q + 1, 1, none⟩ v8) := (Only.refl (Q + 1) w8).setCell 1 _
              have k9 : Cells (w8.setCell ⟨Q + 1, 1, none⟩ v8) (Q + 1) #[v6, v8, .int .i64 0, .int .i64 (L : Int)] 28 := by
                have := k8.set 1 v8
                simpa using this
              have m9 := m8.only o9 (by omega)
              have ob9 : Ob (w8.setCell ⟨Q + 1, 1, none⟩ v8) Q v6 (acc ++ [y]) := ow_but (Ow.ap obA7 hap8.ap (by decide)) o9 k8 (by decide)
              have oi9 : Oi (w8.setCell ⟨Q + 1, 1, none⟩ v8) Q v8 (tms ++ [k]) := ow_but (by rw [← hv8]; exact hap8.ow) o9 k8 (by decide)
              have b9 : Below Q w (w8.setCell ⟨Q + 1, 1, none⟩ v8) := (bA7.out.trans hap8.ap.bel).trans (o9.below (by omega))
              rw [hv8]
              obtain ⟨w9, hw9⟩ : ∃ w9, w8.setCell ⟨Q + 1, 1, none⟩ v8 = w9 := ⟨_, rfl⟩
              rw [hw9] at k9 m9 ob9 oi9 b9 ⊢
              have c2 := (four k9).2.2.1
              clear obA7 oiA7 lA7 kA7 mA7 hap8 k8 e1 f81 m8 hv8 o9 hw9 hH2
              go_wp2_with fail
              have ax := AX.out
              have hq := ax.2.2.2.2.2.1
              have hs := hq.s.go ax.2.2.1 AE.out
              have hw2 := ev_wf hq.wf AE.out
              have av2 := AV2.out
              go_roundg (gk - 1)
              case measure => omega
              case rel => exact ⟨k + 1, 2, 0, v2, by go_num, rfl, rfl, by go_num, by omega, sx, acc ++ [y], tms ++ [k], v6, v8, hw2, k9, ⟨_, _, _, _, m9⟩, ob9, oi9, b9, by simpa using hs, av2.1, av2.2.1, Nat.zero_le _⟩
            · have AE : Aside (ev 2 (decide (0 < 0)) pv x = .go 3 (decide (0 < 0)) sx (some (tell 2 pv sx))) := hev
              have AV : Aside (v % 64 = pv) := hvv
              obtain ⟨y, hy⟩ : ∃ y, tell 2 pv sx = y := ⟨_, rfl⟩
              rw [hy] at AE
              obtain ⟨v2, hv2⟩ : ∃ v2, v % 64 * 64 + sx = v2 := ⟨_, rfl⟩
              have hyv : (v2 : Int) / 4 % 256 = (y : Int) := by
                rw [← hy, ← hv2, ← hvv]
                simp only [tell]
                omega
              have AV2 : Aside (v2 % 64 = sx ∧ v2 < 4096 ∧ (v : Int) % 64 * 64 + (sx : Int) = (v2 : Int)) := ⟨by omega, by omega, by omega⟩
              have hv2b : (v2 : Int) < 4096 := by omega
              clear hev hpd hwf1 hwf2 hwf3 hvv hb hbf hr h61 hvl hsx hy hv2
              go_upto_region 11 with (first | (go_at_call 19; refine hbl.mono ?_; rintro e2 w0 ⟨rfl, hw0⟩; have hw0 := hw0.symm; subst hw0) | (go_at_call 20; refine hrv.mono ?_; rintro e2 w0 ⟨rfl, hw0⟩; have hw0 := hw0.symm; subst hw0))
              rw [AV2.out.2.2]
              have ax := AX.out
              have hq := ax.2.2.2.2.2.1
              obtain ⟨H, hH⟩ : ∃ H, wr.heap.size = H := ⟨_, rfl⟩
              have bal : Below wr.heap.size wr (wr.alloc (.cells #[.int .u8 (y : Int)] 5)) := (Below.refl _ wr).alloc (Nat.le_refl _) _
              have hobA : Ob (wr.alloc (.cells #[.int .u8 (y : Int)] 5)) Q (.slice oa ln oc) acc := Ow.below hq.oO bal (Nat.le_refl _)
              have hoiA : Oi (wr.alloc (.cells #[.int .u8 (y : Int)] 5)) Q (.slice ta tn tc) tms := Ow.below hq.oT bal (Nat.le_refl _)
              have hlA := lies_one wr H y hH
              have hkA := ax.2.2.2.2.2.2.1.alloc (.cells #[.int .u8 (y : Int)] 5)
              have hkB := ax.2.2.2.2.2.2.2.alloc (.cells #[.int .u8 (y : Int)] 5)
              have AB : Aside (Below Q w (wr.alloc (.cells #[.int .u8 (y : Int)] 5))) := hq.b.trans (bal.mono (hq.oO.le))
              have hlen := hq.s.len
              have AL : Aside (acc.length + 1 ≤ 140737488355328 ∧ tms.length < 1000000000000) := ⟨by have := A.out; omega, by have := A.out; omega⟩
              clear ax hq bal hlen cx hbl hrv t1 t1' d0 d1 d2 d3 g0 g1 g2 g3
              go_upto_region 12 with (at_builtin; refine wpList_ob _ rfl (.tmp 36) (.tmp 44) rfl Q (.slice oa ln oc) acc (by rfl) hobA (some ⟨H, 0, none⟩) [y] 1 1 rfl (by rfl) (by intro h; cases h) hlA AL.out.1 ?_; intro v6 w6 hap; obtain ⟨a6, n6, c6, hv6⟩ : ∃ a6 n6 c6, v6 = .slice a6 n6 c6 := (by obtain ⟨a7, c7, h6, _⟩ := Ow.shape hap.ow; exact ⟨_, _, _, h6⟩); subst hv6; have k6 := hkA.ap hap.ap (by decide); have e0 := (four k6).1; have f60 := k6.frozen 0; clear c0 c1 c2 c3 f0 f1 f2 f3)
              have m6 := hkB.ap hap.ap (by decide)
              obtain ⟨v6, hv6⟩ : ∃ v6, Value.slice a6 n6 c6 = v6 := ⟨_, rfl⟩
              have o7 : Only (Q + 1) w6 (w6.setCell ⟨Q + 1, 0, none⟩ v6) := (Only.refl (Q + 1) w6).setCell 0 _
              have k7 : Cells (w6.setCell ⟨Q + 1, 0, none⟩ v6) (Q + 1) #[v6, (.slice ta tn tc), .int .i64 0, .int .i64 (L : Int)] 28 := by
                have := k6.set 0 v6
                simpa using this
              have m7 := m6.only o7 (by omega)
              have ob7 : Ob (w6.setCell ⟨Q + 1, 0, none⟩ v6) Q v6 (acc ++ [y]) := ow_but (by rw [← hv6]; exact hap.ow) o7 k6 (by decide)
              have oi7 : Oi (w6.setCell ⟨Q + 1, 0, none⟩ v6) Q (.slice ta tn tc) tms := ow_but (Ow.ap hoiA hap.ap (by decide)) o7 k6 (by decide)
              have b7 : Below Q w (w6.setCell ⟨Q + 1, 0, none⟩ v6) := (AB.out.trans hap.ap.bel).trans (o7.below (by omega))
              rw [hv6]
              obtain ⟨w7, hw7⟩ : ∃ w7, w6.setCell ⟨Q + 1, 0, none⟩ v6 = w7 := ⟨_, rfl⟩
              rw [hw7] at k7 m7 ob7 oi7 b7 ⊢
              obtain ⟨H2, hH2⟩ : ∃ H2, w7.heap.size = H2 := ⟨_, rfl⟩
              have bal7 : Below w7.heap.size w7 (w7.alloc (.cells #[.int .i64 (k : Int)] 3)) := (Below.refl _ w7).alloc (Nat.le_refl _) _
              have obA7 : Ob (w7.alloc (.cells #[.int .i64 (k : Int)] 3)) Q v6 (acc ++ [y]) := Ow.below ob7 bal7 (Nat.le_refl _)
              have oiA7 : Oi (w7.alloc (.cells #[.int .i64 (k : Int)] 3)) Q (.slice ta tn tc) tms := Ow.below oi7 bal7 (Nat.le_refl _)
              have lA7 : (w7.alloc (.cells #[.int .i64 (k : Int)] 3)).cell? ⟨H2, 0, none⟩ = some (.int .i64 (k : Int)) := by rw [← hH2]; exact (Cells.new w7 #[.int .i64 (k : Int)] 3).cell 0
              have kA7 := k7.alloc (.cells #[.int .i64 (k : Int)] 3)
              have mA7 := m7.alloc (.cells #[.int .i64 (k : Int)] 3)
              have bA7 : Aside (Below Q w (w7.alloc (.cells #[.int .i64 (k : Int)] 3))) := b7.trans (bal7.mono ob7.le)
              have c0 := (four k7).1
              have c1 := (four k7).2.1
              clear hobA hoiA hlA hkA hkB hap k6 e0 f60 m6 hv6 o7 m7 ob7 oi7 b7 hw7 bal7 hH
              go_upto_region 13 with (at_builtin; refine wpList_oi _ rfl (.tmp 48) (.tmp 50) rfl Q (.slice ta tn tc) tms (by rfl) oiA7 H2 1 k (by rfl) lA7 AL.out.2 ?_; intro v8 w8 hap8; obtain ⟨a8, n8, c8, hv8⟩ : ∃ a8 n8 c8, v8 = .slice a8 n8 c8 := (by obtain ⟨a9, c9, h9, _⟩ := Ow.shape hap8.ow; exact ⟨_, _, _, h9⟩); subst hv8; have k8 := kA7.ap hap8.ap (by decide); have e1 := (four k8).2.1; have f81 := k8.frozen 1; clear c0 c1)
              have m8 := mA7.ap hap8.ap (by decide)
              obtain ⟨v8, hv8⟩ : ∃ v8, Value.slice a8 n8 c8 = v8 := ⟨_, rfl⟩
              have o9 : Only (Q + 1) w8 (w8.setCell ⟨Q + 1, 1, none⟩ v8) := (Only.refl (Q + 1) w8).setCell 1 _
              have k9 : Cells (w8.setCell ⟨Q + 1, 1, none⟩ v8) (Q + 1) #[v6, v8, .int .i64 0, .int .i64 (L : Int)] 28 := by
                have := k8.set 1 v8
                simpa using this
              have m9 := m8.only o9 (by omega)
              have ob9 : Ob (w8.setCell ⟨Q + 1, 1, none⟩ v8) Q v6 (acc ++ [y]) := ow_but (Ow.ap obA7 hap8.ap (by decide)) o9 k8 (by decide)
              have oi9 : Oi (w8.setCell ⟨Q + 1, 1, none⟩ v8) Q v8 (tms ++ [k]) := ow_but (by rw [← hv8]; exact hap8.ow) o9 k8 (by decide)
              have b9 : Below Q w (w8.setCell ⟨Q + 1, 1, none⟩ v8) := (bA7.out.trans hap8.ap.bel).trans (o9.below (by omega))
              rw [hv8]
              obtain ⟨w9, hw9⟩ : ∃ w9, w8.setCell ⟨Q + 1, 1, none⟩ v8 = w9 := ⟨_, rfl⟩
              rw [hw9] at k9 m9 ob9 oi9 b9 ⊢
              have c2 := (four k9).2.2.1
              clear obA7 oiA7 lA7 kA7 mA7 hap8 k8 e1 f81 m8 hv8 o9 hw9 hH2
              go_wp2_with fail
              have ax := AX.out
              have hq := ax.2.2.2.2.2.1
              have hs := hq.s.go ax.2.2.1 AE.out
              have hw2 := ev_wf hq.wf AE.out
              have av2 := AV2.out
              go_roundg (gk - 1)
              case measure => omega
              case rel => exact ⟨k + 1, 3, 0, v2, by go_num, rfl, rfl, by go_num, by omega, sx, acc ++ [y], tms ++ [k], v6, v8, hw2, k9, ⟨_, _, _, _, m9⟩, ob9, oi9, b9, by simpa using hs, av2.1, av2.2.1, Nat.zero_le _⟩
            · have AE : Aside (ev 3 (decide (0 < 0)) pv x = .go 0 (decide (0 < 0)) sx (some (tell 3 pv sx))) := hev
              have AV : Aside (v % 64 = pv) := hvv
              obtain ⟨y, hy⟩ : ∃ y, tell 3 pv sx = y := ⟨_, rfl⟩
              rw [hy] at AE
              obtain ⟨v2, hv2⟩ : ∃ v2, v % 64 * 64 + sx = v2 := ⟨_, rfl⟩
              have hyv : (v2 : Int) % 256 = (y : Int) := by
                rw [← hy, ← hv2, ← hvv]
                simp only [tell]
                omega
              have AV2 : Aside (v2 % 64 = sx ∧ v2 < 4096 ∧ (v : Int) % 64 * 64 + (sx : Int) = (v2 : Int)) := ⟨by omega, by omega, by omega⟩
              have hv2b : (v2 : Int) < 4096 := by omega
              clear hev hpd hwf1 hwf2 hwf3 hvv hb hbf hr h61 hvl hsx hy hv2
              go_upto_region 11 with (first | (go_at_call 19; refine hbl.mono ?_; rintro e2 w0 ⟨rfl, hw0⟩; have hw0 := hw0.symm; subst hw0) | (go_at_call 20; refine hrv.mono ?_; rintro e2 w0 ⟨rfl, hw0⟩; have hw0 := hw0.symm; subst hw0))
              rw [AV2.out.2.2]
              have ax := AX.out
              have hq := ax.2.2.2.2.2.1
              obtain ⟨H, hH⟩ : ∃ H, wr.heap.size = H := ⟨_, rfl⟩
              have bal : Below wr.heap.size wr (wr.alloc (.cells #[.int .u8 (y : Int)] 5)) := (Below.refl _ wr).alloc (Nat.le_refl _) _
              have hobA : Ob (wr.alloc (.cells #[.int .u8 (y : Int)] 5)) Q (.slice oa ln oc) acc := Ow.below hq.oO bal (Nat.le_refl _)
              have hoiA : Oi (wr.alloc (.cells #[.int .u8 (y : Int)] 5)) Q (.slice ta tn tc) tms := Ow.below hq.oT bal (Nat.le_refl _)
              have hlA := lies_one wr H y hH
              have hkA := ax.2.2.2.2.2.2.1.alloc (.cells #[.int .u8 (y : Int)] 5)
              have hkB := ax.2.2.2.2.2.2.2.alloc (.cells #[.int .u8 (y : Int)] 5)
              have AB : Aside (Below Q w (wr.alloc (.cells #[.int .u8 (y : Int)] 5))) := hq.b.trans (bal.mono (hq.oO.le))
              have hlen := hq.s.len
              have AL : Aside (acc.length + 1 ≤ 140737488355328 ∧ tms.length < 1000000000000) := ⟨by have := A.out; omega, by have := A.out; omega⟩
              clear ax hq bal hlen cx hbl hrv t1 t1' d0 d1 d2 d3 g0 g1 g2 g3
              go_upto_region 12 with (at_builtin; refine wpList_ob _ rfl (.tmp 36) (.tmp 44) rfl Q (.slice oa ln oc) acc (by rfl) hobA (some ⟨H, 0, none⟩) [y] 1 1 rfl (by rfl) (by intro h; cases h) hlA AL.out.1 ?_; intro v6 w6 hap; obtain ⟨a6, n6, c6, hv6⟩ : ∃ a6 n6 c6, v6 = .slice a6 n6 c6 := (by obtain ⟨a7, c7, h6, _⟩ := Ow.shape hap.ow; exact ⟨_, _, _, h6⟩); subst hv6; have k6 := hkA.ap hap.ap (by decide); have e0 := (four k6).1; have f60 := k6.frozen 0; clear c0 c1 c2 c3 f0 f1 f2 f3)
              have m6 := hkB.ap hap.ap (by decide)
              obtain ⟨v6, hv6⟩ : ∃ v6, Value.slice a6 n6 c6 = v6 := ⟨_, rfl⟩
              have o7 : Only (Q + 1) w6 (w6.setCell ⟨Q + 1, 0, none⟩ v6) := (Only.refl (Q + 1) w6).setCell 0 _
              have k7 : Cells (w6.setCell ⟨Q + 1, 0, none⟩ v6) (Q + 1) #[v6, (.slice ta tn tc), .int .i64 0, .int .i64 (L : Int)] 28 := by
                have := k6.set 0 v6
                simpa using this
              have m7 := m6.only o7 (by omega)
              have ob7 : Ob (w6.setCell ⟨Q + 1, 0, none⟩ v6) Q v6 (acc ++ [y]) := ow_but (by rw [← hv6]; exact hap.ow) o7 k6 (by decide)
              have oi7 : Oi (w6.setCell ⟨Q + 1, 0, none⟩ v6) Q (.slice ta tn tc) tms := ow_but (Ow.ap hoiA hap.ap (by decide)) o7 k6 (by decide)
              have b7 : Below Q w (w6.setCell ⟨Q + 1, 0, none⟩ v6) := (AB.out.trans hap.ap.bel).trans (o7.below (by omega))
              rw [hv6]
              obtain ⟨w7, hw7⟩ : ∃ w7, w6.setCell ⟨Q + 1, 0, none⟩ v6 = w7 := ⟨_, rfl⟩
              rw [hw7] at k7 m7 ob7 oi7 b7 ⊢
              obtain ⟨H2, hH2⟩ : ∃ H2, w7.heap.size = H2 := ⟨_, rfl⟩
              have bal7 : Below w7.heap.size w7 (w7.alloc (.cells #[.int .i64 (k : Int)] 3)) := (Below.refl _ w7).alloc (Nat.le_refl _) _
              have obA7 : Ob (w7.alloc (.cells #[.int .i64 (k : Int)] 3)) Q v6 (acc ++ [y]) := Ow.below ob7 bal7 (Nat.le_refl _)
              have oiA7 : Oi (w7.alloc (.cells #[.int .i64 (k : Int)] 3)) Q (.slice ta tn tc) tms := Ow.below oi7 bal7 (Nat.le_refl _)
              have lA7 : (w7.alloc (.cells #[.int .i64 (k : Int)] 3)).cell? ⟨H2, 0, none⟩ = some (.int .i64 (k : Int)) := by rw [← hH2]; exact (Cells.new w7 #[.int .i64 (k : Int)] 3).cell 0
              have kA7 := k7.alloc (.cells #[.int .i64 (k : Int)] 3)
              have mA7 := m7.alloc (.cells #[.int .i64 (k : Int)] 3)
              have bA7 : Aside (Below Q w (w7.alloc (.cells #[.int .i64 (k : Int)] 3))) := b7.trans (bal7.mono ob7.le)
              have c0 := (four k7).1
              have c1 := (four k7).2.1
              clear hobA hoiA hlA hkA hkB hap k6 e0 f60 m6 hv6 o7 m7 ob7 oi7 b7 hw7 bal7 hH
              go_upto_region 13 with (at_builtin; refine wpList_oi _ rfl (.tmp 48) (.tmp 50) rfl Q (.slice ta tn tc) tms (by rfl) oiA7 H2 1 k (by rfl) lA7 AL.out.2 ?_; intro v8 w8 hap8; obtain ⟨a8, n8, c8, hv8⟩ : ∃ a8 n8 c8, v8 = .slice a8 n8 c8 := (by obtain ⟨a9, c9, h9, _⟩ := Ow.shape hap8.ow; exact ⟨_, _, _, h9⟩); subst hv8; have k8 := kA7.ap hap8.ap (by decide); have e1 := (four k8).2.1; have f81 := k8.frozen 1; clear c0 c1)
              have m8 := mA7.ap hap8.ap (by decide)
              obtain ⟨v8, hv8⟩ : ∃ v8, Value.slice a8 n8 c8 = v8 := ⟨_, rfl⟩
              have o9 : Only (Q + 1) w8 (w8.setCell ⟨Q + 1, 1, none⟩ v8) := (Only.refl (Q + 1) w8).setCell 1 _
              have k9 : Cells (w8.setCell ⟨Q + 1, 1, none⟩ v8) (Q + 1) #[v6, v8, .int .i64 0, .int .i64 (L : Int)] 28 := by
                have := k8.set 1 v8
                simpa using this
              have m9 := m8.only o9 (by omega)
              have ob9 : Ob (w8.setCell ⟨Q + 1, 1, none⟩ v8) Q v6 (acc ++ [y]) := ow_but (Ow.ap obA7 hap8.ap (by decide)) o9 k8 (by decide)
              have oi9 : Oi (w8.setCell ⟨Q + 1, 1, none⟩ v8) Q v8 (tms ++ [k]) := ow_but (by rw [← hv8]; exact hap8.ow) o9 k8 (by decide)
              have b9 : Below Q w (w8.setCell ⟨Q + 1, 1, none⟩ v8) := (bA7.out.trans hap8.ap.bel).trans (o9.below (by omega))
              rw [hv8]
              obtain ⟨w9, hw9⟩ : ∃ w9, w8.setCell ⟨Q + 1, 1, none⟩ v8 = w9 := ⟨_, rfl⟩
              rw [hw9] at k9 m9 ob9 oi9 b9 ⊢
              have c2 := (four k9).2.2.1
              clear obA7 oiA7 lA7 kA7 mA7 hap8 k8 e1 f81 m8 hv8 o9 hw9 hH2
              go_wp2_with fail
              have ax := AX.out
              have hq := ax.2.2.2.2.2.1
              have hs := hq.s.go ax.2.2.1 AE.out
              have hw2 := ev_wf hq.wf AE.out
              have av2 := AV2.out
              go_roundg (gk - 1)
              case measure => omega
              case rel => exact ⟨k + 1, 0, 0, v2, by go_num, rfl, rfl, by go_num, by omega, sx, acc ++ [y], tms ++ [k], v6, v8, hw2, k9, ⟨_, _, _, _, m9⟩, ob9, oi9, b9, by simpa using hs, av2.1, av2.2.1, Nat.zero_le _⟩
    · have t1 : ((k : Int) < (L : Int)) = False := eq_false (by omega)
      have t1' : (k < L) = False := eq_false hk
      obtain ⟨r1, r2, r3, r4⟩ := hq.s.over (by omega)
      have hkL : k = L := by omega
      have AX : Aside ((rn 0 0 false 0 l).out = acc ∧ (rn 0 0 false 0 l).at_ = L ∧ (rn 0 0 false 0 l).tm = tms ∧ Rq w wr Q l L k pl pads v pv acc tms (.slice oa ln oc) (.slice ta tn tc) ∧ w.heap.size = Q ∧ Cells wr (Q + 1) #[(.slice oa ln oc), (.slice ta tn tc), .int .i64 0, .int .i64 (L : Int)] 28 ∧ Cells wr Q #[q0, q1, q2, q3] 28) := ⟨r1, by rw [r3, hkL], r4, hq, hQe, kc, kq⟩
      clear hI hkg a0 hq kc kq hkL hk r1 r3 r4
      by_cases hp0 : pl = 0
      · subst hp0
        have AY : Aside ((rn 0 0 false 0 l).why = 0) := r2
        clear r2
        go_wp2_with fail
        have ax := AX.out
        have hq := ax.2.2.2.1
        have m1 := ax.2.2.2.2.2.1
        have m2 := ax.2.2.2.2.2.2
        have o1 : Only (Q + 1) wr wr := Only.refl _ _
        have m3 := set4q m2 (.slice oa ln oc) (.slice ta tn tc) (.int .i64 0) (.int .i64 (L : Int))
        have o2 : Only Q wr ((((wr.setCell ⟨Q, 0, none⟩ (.slice oa ln oc)).setCell ⟨Q, 1, none⟩ (.slice ta tn tc)).setCell ⟨Q, 2, none⟩ (.int .i64 0)).setCell ⟨Q, 3, none⟩ (.int .i64 (L : Int))) := (((Only.refl Q wr).setCell 0 _).setCell 1 _).setCell 2 _ |>.setCell 3 _
        (try simp only [Exit.inBlock, Exit.then])
        refine bodyPost_ret (v := .agg #[(.slice oa ln oc), (.slice ta tn tc), .int .i64 0, .int .i64 (L : Int)]) ?_ rfl ?_
        · exact results_cell_row rfl _ _ Q 28 _ (0, 0) _ rfl m3 Try.underlying28 rfl size28
        · have hQ := ax.2.2.2.2.1
          refine ⟨(.slice oa ln oc), (.slice ta tn tc), by rw [AY.out, ax.2.1]; rfl, ?_, ?_, ?_⟩
          · rw [ax.1, hQ]; exact ow_but (ow_but hq.oO o1 ax.2.2.2.2.2.1 (by decide)) o2 m2 (by decide)
          · rw [ax.2.2.1, hQ]; exact ow_but (ow_but hq.oT o1 ax.2.2.2.2.2.1 (by decide)) o2 m2 (by decide)
          · rw [hQ]; exact hq.b.trans ((o1.below (by omega)).trans (o2.below (by omega)))
      · have t5 : ((pl : Int) != 0) = true := by rw [bne_iff_ne]; omega
        have t5' : ((pl : Int) = 0) = False := eq_false (by omega)
        have AY : Aside ((rn 0 0 false 0 l).why = 1) := by rw [if_neg hp0] at r2; exact r2
        clear r2 hp0
        go_wp2_with fail
        have ax := AX.out
        have hq := ax.2.2.2.1
        have o1 : Only (Q + 1) wr (wr.setCell ⟨Q + 1, 2, none⟩ (.int .i64 1)) := (Only.refl (Q + 1) wr).setCell 2 _
        have m1 : Cells (wr.setCell ⟨Q + 1, 2, none⟩ (.int .i64 1)) (Q + 1) #[(.slice oa ln oc), (.slice ta tn tc), .int .i64 1, .int .i64 (L : Int)] 28 := by
          have := ax.2.2.2.2.2.1.set 2 (.int .i64 1)
          simpa using this
        have m2 := ax.2.2.2.2.2.2.only o1 (by omega)
        obtain ⟨w5, hw5⟩ : ∃ w5, wr.setCell ⟨Q + 1, 2, none⟩ (.int .i64 1) = w5 := ⟨_, rfl⟩
        rw [hw5] at o1 m1 m2 ⊢
        have m3 := set4q m2 (.slice oa ln oc) (.slice ta tn tc) (.int .i64 1) (.int .i64 (L : Int))
        have o2 : Only Q w5 ((((w5.setCell ⟨Q, 0, none⟩ (.slice oa ln oc)).setCell ⟨Q, 1, none⟩ (.slice ta tn tc)).setCell ⟨Q, 2, none⟩ (.int .i64 1)).setCell ⟨Q, 3, none⟩ (.int .i64 (L : Int))) := (((Only.refl Q w5).setCell 0 _).setCell 1 _).setCell 2 _ |>.setCell 3 _
        (try simp only [Exit.inBlock, Exit.then])
        refine bodyPost_ret (v := .agg #[(.slice oa ln oc), (.slice ta tn tc), .int .i64 1, .int .i64 (L : Int)]) ?_ rfl ?_
        · exact results_cell_row rfl _ _ Q 28 _ (0, 0) _ rfl m3 Try.underlying28 rfl size28
        · have hQ := ax.2.2.2.2.1
          refine ⟨(.slice oa ln oc), (.slice ta tn tc), by rw [AY.out, ax.2.1]; rfl, ?_, ?_, ?_⟩
          · rw [ax.1, hQ]; exact ow_but (ow_but hq.oO o1 ax.2.2.2.2.2.1 (by decide)) o2 m2 (by decide)
          · rw [ax.2.2.1, hQ]; exact ow_but (ow_but hq.oT o1 ax.2.2.2.2.2.1 (by decide)) o2 m2 (by decide)
          · rw [hQ]; exact hq.b.trans ((o1.below (by omega)).trans (o2.below (by omega)))
end Go.Proofs.Ytmijpocfichfpaa

/-
  Own texts of this seat, one behind the other: what each says stands ahead of it.
-/
import Derived.Test.YtogednaamndpgaaGreatDoorMw
import Derived.Test.YtogednaamndpgaaGreatDoorMj
import Derived.Deep.CutBlock
import Derived.Deep.DeepCutAuto
import Derived.Laws.IdiomStrings
import Derived.Deep.RegionHeld3
import Derived.Test.YtogednaamndpgaaGreatDoorMm
import Derived.Test.YtogednaamndpgaaGreatDoorMs
/-
 What gzip.Whole comes to.
-/
namespace Go.Proofs.YtogednaamndpgaaGreatDoor
open Go.RowKit
set_option linter.unusedVariables false
theorem gotw {lo hi B D b R W A lo2 n : Nat} {e : TypeId} {w u : World} {v v' : Value} {xs : List Value} {s : Gs} {E : List Evn} (h : Wz w lo hi B D b R W A s E) (k : Got lo2 e 1 w u v v' n xs) (hl : hi ≤ lo2) (he : e = 5 ∨ e = 22) : Wz u lo hi B D b R W A s E :=
 h.out ⟨k.bel.os, k.bel.tape, k.bel.output, k.bel.size, fun i hi' => k.bel.block i (by omega)⟩ fun i hi' => by
  rcases k.kp i hi' with e1 | ⟨_, cs, e1⟩
  ·exact Or.inl e1
  ·exact Or.inr ⟨cs, e, _, e1, by rcases he with q | q <;> simp [q]⟩
theorem wr0_end {lo hi lo2 : Nat} {w wr w3 : World} {v : Value} {ls : List (List Nat)} {y : Nat} {R0 : List (List Nat) × Nat} (h1 : Ll wr lo2 v ls) (h2 : Below w.heap.size w wr) (h3 : R0 = (ls, y)) (hg : w.heap.size ≤ lo ∧ hi ≤ lo2 ∧ w.heap.size ≤ lo2) (f : Fw lo hi wr w3) : Wr0 R0 w (.returned (.tuple #[v, .int .i64 (y : Int)])) w3 := by
 subst h3
 exact ⟨v, lo2, rfl, hg.2.2, h1.fw f hg.2.1, h2.trans ⟨f.os, f.tape, f.output, f.size, fun j hj => f.block j (by have := h2.size; omega) (Or.inl (by omega))⟩⟩
set_option maxHeartbeats 8000000 in
theorem wwhole_c (w : World) (ht : Tabs w) (hct : Ctab w) (h8 : 8 ≤ w.heap.size) (aB : Option Addr) (bb : List Nat) (L C : Nat) (n0 : Int) (N : Nat) (hN : n0.toNat = N) (hNb : N ≤ 100000000) (hB : Lies w aB bb) (hL : bb.length = L) (hLb : L ≤ 1000000000000) (ho : Oct bb) (k : Nat) (s : Gs) (T : List Gev) (hr : Rch bb k s T) (hk : s.why ≠ 0 ∨ k = L) (R0 : List (List Nat) × Nat) (hR : rs N (zfin s) [] (cds T) = R0) : Calls Tryz.prog 8 #[.slice aB L C, .int .i64 n0] w fun e w' => Wr0 R0 w e w' := by
 have kn := wz_new w ht hct h8
 have hf := rch_facts ho k s T hr
 have hkL : k ≤ L := by rw [← hL]; exact hr.1
 obtain ⟨y, hy⟩ : ∃ y, zfin s = y := ⟨_, rfl⟩
 rw [hy] at hR
 have AN : Aside (N ≤ 100000000 ∧ Rch bb k s T ∧ (s.why ≠ 0 ∨ k = L) ∧ zfin s = y ∧ Oct bb ∧ bb.length = L ∧ L ≤ 1000000000000 ∧ Lies w aB bb ∧ n0.toNat = N ∧ k ≤ L) := ⟨hNb, hr, hk, hy, ho, hL, hLb, hB, hN, hkL⟩
 have AM0 : Aside (Ms [] 0 N L y (cds T) R0) := ⟨by rw [Nat.sub_zero]; exact hR, by simpa using hf.gd, hf.lt, by have := hf.no; simp; omega, fun l hl => by simp at hl, Nat.zero_le _⟩
 clear ht hct h8 hNb hr hk hy ho hL hLb hB hf hR hN hkL
 go_enter Tryz.func8, Tryz.ntmps8
 go_upto_region 2 with (go_at_call 14; refine kn.mono ?_; rintro e1 w1 ⟨B, W, A, rfl, hz1, hb1⟩)
 obtain ⟨D, hD⟩ : ∃ D, B + 3 = D := ⟨_, rfl⟩
 obtain ⟨b, hbb⟩ : ∃ b, B + 2 = b := ⟨_, rfl⟩
 obtain ⟨R, hRR⟩ : ∃ R, B + 1 = R := ⟨_, rfl⟩
 obtain ⟨lo, hlo⟩ : ∃ lo, w.heap.size = lo := ⟨_, rfl⟩
 obtain ⟨hi, hhi⟩ : ∃ hi, W + 1 = hi := ⟨_, rfl⟩
 obtain ⟨lo2, hlo2⟩ : ∃ lo2, w1.heap.size = lo2 := ⟨_, rfl⟩
 rw [hD, hbb, hRR, hlo, hhi] at hz1
 have hgeo : w.heap.size ≤ lo ∧ hi ≤ lo2 ∧ w.heap.size ≤ lo2 := by
  obtain ⟨_, _, _, _, _, hk⟩ := hz1.wk
  exact ⟨by omega, by rw [← hlo2]; exact hk.hs, by rw [← hlo2]; exact hb1.size⟩
 have A1 : Aside (Wz w1 lo hi B D b R W A s0 [] ∧ Below w.heap.size w w1 ∧ w1.heap.size = lo2) := ⟨hz1, hb1, hlo2⟩
 have AG : Aside (w.heap.size ≤ lo ∧ hi ≤ lo2 ∧ w.heap.size ≤ lo2) := hgeo
 clear kn hz1 hb1 hD hbb hRR hlo hhi hlo2 hgeo
 go_upto_block 1 with fail
 go_loopg [4, 7, 16] L (fun gg s4 s7 s16 wr => ∃ (i gv n c : Nat) (ax : Option Addr), s4 = .slice ax n c ∧ s7 = .int .i64 (gv : Int) ∧ s16 = .int .i64 (i : Int) ∧ Aside (∃ ls si Ti fut, Wz wr lo hi B D b R W A si [] ∧ Ll wr lo2 (.slice ax n c) ls ∧ Below w.heap.size w wr ∧ Rch bb i si Ti ∧ cds T = cds Ti ++ fut ∧ Ms ls gv N L y fut R0 ∧ i ≤ k ∧ n = ls.length ∧ gg = L - i ∧ gv = nbe (cds Ti)))
 case atStart =>
  exact ⟨0, 0, 0, 0, none, rfl, rfl, rfl, ⟨[], s0, [], cds T, A1.out.1, Ll.nil (by rw [A1.out.2.2]; exact Nat.le_refl _), A1.out.2.1, rch_zero bb, rfl, AM0.out, Nat.zero_le _, rfl, by simp, rfl⟩⟩
 case round =>
  clear A1 AM0
  obtain ⟨i, gv, n, c, ax, rfl, rfl, rfl, hT⟩ := hrel
  obtain ⟨ls, si, Ti, fut, hz, hll, hbel, hri, hTf, hms, hik, hnl, hgk, hgvn⟩ := hT.out
  have an := AN.out
  by_cases hiL : i < L
  ·have t1 : decide ((i : Int) < (L : Int)) = true := decide_eq_true (by omega)
   obtain ⟨x, hx⟩ : ∃ x, bb[i]? = some x := ⟨_, List.getElem?_eq_getElem (by rw [an.2.2.2.2.2.1]; exact hiL)⟩
   have hxb := an.2.2.2.2.1 x (List.mem_of_getElem? hx)
   have hlies := an.2.2.2.2.2.2.2.1.below hbel
   obtain ⟨g0, o0, haB, hcell⟩ : ∃ g0 o0, aB = some ⟨g0, o0, none⟩ ∧ wr.cell? ⟨g0, o0 + i, none⟩ = some (.int .u8 (x : Int)) := by
    rcases hlies with h5 | ⟨g0, o0, h5, h6⟩
    ·rw [h5] at hx; simp at hx
    ·exact ⟨g0, o0, h5, h6 i x hx⟩
   subst haB
   have bi : (i : Int) < (L : Int) := by omega
   by_cases hikk : i = k
   ·-- it was stopped
    subst hikk
    obtain ⟨rfl, rfl⟩ := an.2.1.det hri
    have hfut : fut = [] := by
     have := congrArg List.length hTf
     rw [List.length_append] at this
     exact List.eq_nil_of_length_eq_zero (by omega)
    subst hfut
    have hw0 : s.why ≠ 0 := by rcases an.2.2.1 with q | q; exact q; omega
    have kp := wz_put_no x wr hz (Or.inr hw0)
    have kE := wz_end wr hz
    rw [an.2.2.2.1] at kE
    have A9 : Aside (Ll wr lo2 (.slice ax n c) ls ∧ Below w.heap.size w wr ∧ R0 = (ls, y) ∧ w.heap.size ≤ lo) := ⟨hll, hbel, hms.nil, AG.out.1⟩
    clear hT hz hll hbel hri hTf hms hik hnl hgk hgvn an hx hxb hlies hw0 hiL
    go_wp2_with (first
     | (go_at_call 15; refine kp.mono ?_; rintro e2 w2 ⟨rfl, rfl⟩)
     | (go_at_call 19; refine kE.mono ?_; rintro e3 w3 ⟨rfl, h3, f3⟩)
     | (go_at_call 18; refine (we_reason _ h3).mono ?_; rintro e4 w4 ⟨rfl, rfl⟩))
    first | go_ret | go_ret2
    obtain ⟨a1, a2, a3, a4⟩ := A9.out
    exact wr0_end a1 a2 a3 AG.out f3
   ·obtain ⟨h0, x', s1, E, T2, hx', hsp, hr1, hTT, _⟩ := an.2.1.at hri (by omega)
    obtain rfl : x = x' := Option.some.inj (hx.symm.trans hx')
    have hfi := rch_facts an.2.2.2.2.1 i si Ti hri
    obtain ⟨q1, q2, q3, q4, q5⟩ := sp_tells hfi.ok h0 hsp
    have hlen := hfi.len
    have hfut : fut = cde E ++ cds T2 := by
     rw [hTT, cds_append, cds_append, cds_evs, List.append_assoc] at hTf
     exact (List.append_cancel_left hTf).symm
    have kp := wz_put x hxb wr hz hfi.ok h0 hsp (fun _ => by have := hms.gn; have := an.1; unfold MM; omega)
    obtain ⟨fut2, hfut2⟩ : ∃ fut2, cds T2 = fut2 := ⟨_, rfl⟩
    obtain ⟨G1, hG1⟩ : ∃ G1, gv + nbe (cde E) = G1 := ⟨_, rfl⟩
    have A5 : Aside (Ll wr lo2 (.slice ax n c) ls ∧ Below w.heap.size w wr ∧ Ms ls gv N L y (cde E ++ fut2) R0 ∧ n = ls.length ∧ gk = L - i ∧ gv + nbe (cde E) = G1 ∧ s1.y.out.length ≤ G1 ∧ Rch bb (i + 1) s1 (Ti ++ evs i E) ∧ cds T = cds (Ti ++ evs i E) ++ fut2 ∧ i < k ∧ gv = nbe (cds Ti) ∧ gv ≤ N ∧ i < L) := ⟨hll, hbel, by rw [← hfut2, ← hfut]; exact hms, hnl, hgk, hG1, by rw [← hG1]; omega, hr1, by rw [hTT, cds_append, hfut2], by omega, hgvn, hms.gn, hiL⟩
    clear hT hz hll hbel hri hTf hms hik hnl hgk hgvn an hx hx' hxb hlies hikk h0 hsp hr1 hTT hfi q1 q2 q3 q4 q5 hlen hfut hfut2 hG1 hiL
    go_upto_region 7 with (go_at_call 15; refine kp.mono ?_; rintro e2 w2 ⟨rfl, hz2, f2⟩)
    clear kp hcell
    obtain ⟨ek, eb, en, nm, ok, rem, hn, hc⟩ := next_all hz2 (fun _ => by
     have a5 := A5.out
     have h1 := a5.2.2.2.2.2.2.1
     have h2 := nbe_le E
     have h3 := a5.2.2.2.2.2.1
     have h4 := a5.2.2.2.2.2.2.2.2.2.2.2.1
     have h5 := AN.out.1
     unfold MM
     omega)
    have A6 : Aside (Fw lo hi wr w2 ∧ ((ok = false ∧ E = [] ∧ rem = []) ∨ (ok = true ∧ ∃ g m, ek = gk1 g ∧ eb = gk2 g ∧ E = (g, m) :: rem))) := ⟨f2, hc⟩
    clear hz2 f2 hc
    go_upto_region 8 with (go_at_call 20; refine hn.mono ?_; rintro e3 w3 ⟨rfl, hz3, f3⟩)
    clear hn
    obtain ⟨E0, hE0⟩ : ∃ E0, w3.heap.size = E0 := ⟨_, rfl⟩
    obtain ⟨w4, hw4⟩ : ∃ w4, w3.alloc (.cells #[.int .i64 ek, .int .u8 eb, .int .i64 en, .int .i64 0, .string (st nm)] 43) = w4 := ⟨_, rfl⟩
    rw [hw4, hE0]
    have gq : Gq lo hi B D b R W A lo2 E0 w w4 ek eb en nm ok (.slice ax n c) ls s1 rem gv N L y G1 fut2 R0 := by
     obtain ⟨b1, b2, b3, b4, b5, b6, b7, b8, b9, b10, b11, b12, b13⟩ := A5.out
     have fw3 := A6.out.1.trans f3
     have geo := AG.out
     have bA : Below w3.heap.size w3 w4 := by rw [← hw4]; exact (Below.refl _ w3).alloc (Nat.le_refl _) _
     have l3 := b1.fw fw3 geo.2.1
     have bel3 : Below w.heap.size w w3 := b2.trans ⟨fw3.os, fw3.tape, fw3.output, fw3.size, fun j hj => fw3.block j (by have := b2.size; omega) (Or.inl (by omega))⟩
     refine ⟨hz3.below bA (Nat.le_refl _), l3.below bA (Nat.le_refl _), by rw [← hw4, ← hE0]; exact Cells.new w3 _ 43, bel3.trans (bA.mono bel3.size), by rw [← hE0]; exact l3.le, geo, b7, ?_⟩
     rcases A6.out.2 with ⟨h1, h2, h3⟩ | ⟨h1, g, m, h2, h3, h4⟩
     ·rw [h2] at b3 b6
      exact Or.inl ⟨h1, h3, b3, b6⟩
     ·rw [h4] at b3 b6
      exact Or.inr ⟨h1, g, h2, h3, b3, b6⟩
    have AQ : Aside (Gq lo hi B D b R W A lo2 E0 w w4 ek eb en nm ok (.slice ax n c) ls s1 rem gv N L y G1 fut2 R0 ∧ n = ls.length) := ⟨gq, A5.out.2.2.2.1⟩
    have A7 : Aside (gk = L - i ∧ gv + nbe (cde E) = G1 ∧ Rch bb (i + 1) s1 (Ti ++ evs i E) ∧ cds T = cds (Ti ++ evs i E) ++ fut2 ∧ i < k ∧ gv = nbe (cds Ti) ∧ i < L) := ⟨A5.out.2.2.2.2.1, A5.out.2.2.2.2.2.1, A5.out.2.2.2.2.2.2.2.1, A5.out.2.2.2.2.2.2.2.2.1, A5.out.2.2.2.2.2.2.2.2.2.1, A5.out.2.2.2.2.2.2.2.2.2.2.1, A5.out.2.2.2.2.2.2.2.2.2.2.2.2⟩
    obtain ⟨gv0, hgv0⟩ : ∃ gv0, gv = gv0 := ⟨_, rfl⟩
    obtain ⟨gk0, hgk0⟩ : ∃ gk0, gk = gk0 := ⟨_, rfl⟩
    have AK : Aside (gk = gk0) := hgk0
    clear gq hz3 f3 hE0 hw4 A5 A6
    go_loopg [4, 7, 10, 11] (rem.length + ok.toNat) (fun gg s4 s7 s10 s11 wr => ∃ (E : Nat) (ok : Bool) (ax : Option Addr) (n c gv : Nat), s4 = .slice ax n c ∧ s7 = .int .i64 (gv : Int) ∧ s10 = .pointer (some ⟨E, 0, none⟩) ∧ s11 = .bool ok ∧ Aside (∃ ek eb en nm ls rem, Gq lo hi B D b R W A lo2 E w wr ek eb en nm ok (.slice ax n c) ls s1 rem gv N L y G1 fut2 R0 ∧ gg = rem.length + ok.toNat ∧ n = ls.length))
    case atStart => exact ⟨E0, ok, ax, n, c, gv, rfl, rfl, rfl, rfl, ⟨ek, eb, en, nm, ls, rem, AQ.out.1, rfl, AQ.out.2⟩⟩
    case round =>
     have A8 : Aside (gk0 = L - i ∧ gv0 + nbe (cde E) = G1 ∧ Rch bb (i + 1) s1 (Ti ++ evs i E) ∧ cds T = cds (Ti ++ evs i E) ++ fut2 ∧ i < k ∧ gv0 = nbe (cds Ti) ∧ i < L) := by rw [← hgv0, ← hgk0]; exact A7.out
     clear AQ A7 hgv0 hgk0
     obtain ⟨E1, ok, ax, n, c, gv, rfl, rfl, rfl, rfl, hT⟩ := hrel
     obtain ⟨ek, eb, en, nm, ls, rem, gs, hgk, hnl⟩ := hT.out
     cases ok with
     | false =>
      have hst : rem = [] ∧ Ms ls gv N L y fut2 R0 ∧ gv = G1 := by
       rcases gs.st with ⟨_, h⟩ | ⟨h1, _⟩
       ·exact h
       ·cases h1
      have A9 : Aside (Wz wr lo hi B D b R W A s1 [] ∧ Ll wr lo2 (.slice ax n c) ls ∧ Below w.heap.size w wr ∧ Ms ls gv N L y fut2 R0 ∧ gv = G1 ∧ n = ls.length) := ⟨by rw [← hst.1]; exact gs.wz, gs.ll, gs.bel, hst.2.1, hst.2.2, hnl⟩
      clear hT gs hgk hnl hst
      have bi2 : (i : Int) + 1 < 9000000000000 := by have := A8.out.2.2.2.2.2.2; have := AN.out.2.2.2.2.2.2.1; omega
      go_wp2_with fail
      obtain ⟨a1, a2, a3, a4, a5, a6⟩ := A9.out
      obtain ⟨c1, c2, c3, c4, c5, c6, c7⟩ := A8.out
      have ak := AK.out
      go_roundg (L - (i + 1))
      case measure => omega
      case rel => exact ⟨i + 1, gv, n, c, ax, rfl, rfl, by push_cast; rfl, ⟨ls, s1, Ti ++ evs i E, fut2, a1, a2, a3, c3, c4, a4, by omega, a6, rfl, by rw [cds_append, cds_evs, nbe_append]; omega⟩⟩
     | true =>
      obtain ⟨g, hek, heb, hMs, hG⟩ : ∃ g, ek = gk1 g ∧ eb = gk2 g ∧ Ms ls gv N L y (g :: (cde rem ++ fut2)) R0 ∧ gv + nbe (g :: cde rem) = G1 := by
       rcases gs.st with ⟨h1, _⟩ | ⟨_, h⟩
       ·cases h1
       ·exact h
      have hg258 := hMs.lt g (by simp)
      have c0' := gs.ev.cell 0
      have c1' := gs.ev.cell 1
      by_cases h256 : g = 256
      ·subst h256
       have ek1 : ek = 1 := by rw [hek]; rfl
       subst ek1
       obtain ⟨vs, hv1, hv2, hv3, hv4⟩ := gs.ll.ex
       obtain ⟨H, hH⟩ : ∃ H, wr.heap.size = H := ⟨_, rfl⟩
       have bA : Below wr.heap.size wr (wr.alloc (.cells #[.slice none 0 0] 22)) := (Below.refl _ wr).alloc (Nat.le_refl _) _
       have howA := hv2.below bA (Nat.le_refl _)
       rw [← hnl] at howA
       have hlA := gs.ll.below bA (Nat.le_refl _)
       have hcA : (wr.alloc (.cells #[.slice none 0 0] 22)).cell? ⟨H, 0, none⟩ = some (.slice none 0 0) := by rw [← hH, (Cells.new wr #[.slice none 0 0] 22).cell 0]; rfl
       have hlz : ([.slice none 0 0] : List Value) = [] ∨ ∃ b o, (some ⟨H, 0, none⟩ : Option Addr) = some ⟨b, o, none⟩ ∧ ∀ i u, ([.slice none 0 0] : List Value)[i]? = some u → (wr.alloc (.cells #[.slice none 0 0] 22)).cell? ⟨b, o + i, none⟩ = some u := Or.inr ⟨H, 0, rfl, fun i u hu => by
        cases i with
        | zero => simp at hu; rw [← hu]; exact hcA
        | succ i => simp at hu⟩
       have h1c : ∀ u ∈ ([.slice none 0 0] : List Value), u.oneCell' = true := fun u hu => by simp at hu; subst hu; rfl
       obtain ⟨i0, hi0, hz0, hz1, hz2⟩ := ginfo_parts ginfo22
       have hAm : Aside (n + 1 ≤ maxLen ∧ (n + 1) * 24 ≤ 140737488355328) := by
        have h9 := hMs.no
        have h10 := AN.out.2.2.2.2.2.2.1
        simp only [nop, if_true] at h9
        exact ⟨by unfold maxLen; omega, by omega⟩
       obtain ⟨lsx, hlsx⟩ : ∃ lsx, lsx = ls ++ [[]] := ⟨_, rfl⟩
       have hT0 : ∀ (a5 : Option Addr) (c5 : Nat) (w5 : World), Got lo2 22 1 (wr.alloc (.cells #[.slice none 0 0] 22)) w5 (.slice ax n c) (.slice a5 (n + 1) c5) (n + 1) (vs ++ [.slice none 0 0]) → Aside (Gu lo hi B D b R W A lo2 w w5 (.slice a5 (n + 1) c5) lsx s1 rem gv N L y G1 fut2 R0 ∧ Cells w5 E1 #[.int .i64 1, .int .u8 eb, .int .i64 en, .int .i64 0, .string (st nm)] 43 ∧ gk = rem.length + true.toNat ∧ (n + 1) = lsx.length) := fun a5 c5 w5 hgot => by
        have geo := gs.geo
        refine ⟨⟨gotw (gs.wz.below bA (Nat.le_refl _)) hgot geo.2.1 (by simp), ?_, (gs.bel.trans (bA.mono gs.bel.size)).trans (hgot.bel.mono geo.2.2), geo, gs.yl, ?_, ?_⟩, (gs.ev.alloc _).got hgot (by decide), hgk, ?_⟩
        ·rw [hlsx]
         have hlA2 := hlA
         rw [hnl] at hgot hlA2 ⊢
         exact hlA2.open_ vs hgot hv1 (fun i a l h5 h6 => (hv3 i a l h5 h6).below bA (Nat.le_refl _))
        ·rw [hlsx]; exact hMs.open_
        ·have := hG; simp only [nbe, if_neg (show ¬ (256 < 256) by omega)] at this; omega
        ·rw [hlsx, hnl]; simp
       have AT : Aside _ := hT0
       clear hT gs hgk hMs hG hek heb hg258 hv1 hv2 hv3 hv4 bA hlA hcA hlsx hT0 hnl
       go_upto_region 19 with (at_builtin; refine wpList_ow Tryz.prog _ rfl (.tmp 39) (.tmp 40) 23 rfl 22 i0 _ 1 24 Tryz.underlying23 hi0 hz0 hz1 hz2 rfl (by decide) lo2 (.slice ax n c) n _ (by rfl) howA (some ⟨H, 0, none⟩) [.slice none 0 0] 1 1 rfl (by rfl) (by intro h; cases h) hlz h1c hAm.out.1 hAm.out.2 ?_; intro v5 w5 hgot; obtain ⟨a5, c5, hv5, _⟩ := hgot.ow.shape; subst hv5)
       have T0 := AT.out a5 c5 w5 hgot
       clear hgot howA hlz h1c hi0 hz0 hz1 hz2 hH c0' c1'
       have t0 := T0.out
       obtain ⟨E2, hE2⟩ : ∃ E2, w5.heap.size = E2 := ⟨_, rfl⟩
       obtain ⟨wa, hwa⟩ : ∃ wa, w5.alloc (.cells #[.int .i64 1, .int .u8 eb, .int .i64 en, .int .i64 0, .string (st nm)] 43) = wa := ⟨_, rfl⟩
       have d0 := t0.2.1.cell 0
       have d1 := t0.2.1.cell 1
       have d2 := t0.2.1.cell 2
       have d3 := t0.2.1.cell 3
       have d4 := t0.2.1.cell 4
       obtain ⟨ek2, eb2, en2, nm2, ok2, rem2, hn2, hc2⟩ := next_all (t0.1.wz.below (u := wa) (by rw [← hwa]; exact (Below.refl _ w5).alloc (Nat.le_refl _) _) (Nat.le_refl _)) (fun hne => by
        have h1 := t0.1.yl
        have h2 := t0.1.g1
        have h3 := nbe_le rem
        have h4 := t0.1.ms.gn
        have h5 := AN.out.1
        unfold MM
        omega)
       have hfin : ∀ w7, Wz w7 lo hi B D b R W A s1 rem2 → Fw lo hi wa w7 → Cells w7 E2 #[.int .i64 1, .int .u8 eb, .int .i64 en, .int .i64 0, .string (st nm)] 43 ∧ Gq lo hi B D b R W A lo2 E2 w (((((w7.setCell ⟨E2, 0, none⟩ (.int .i64 ek2)).setCell ⟨E2, 1, none⟩ (.int .u8 eb2)).setCell ⟨E2, 2, none⟩ (.int .i64 en2)).setCell ⟨E2, 3, none⟩ (.int .i64 0)).setCell ⟨E2, 4, none⟩ (.string (st nm2))) ek2 eb2 en2 nm2 ok2 (.slice a5 (n + 1) c5) lsx s1 rem2 gv N L y G1 fut2 R0 := fun w7 k7 b7 => by
        rw [← hwa] at b7
        exact t0.1.next hE2 k7 b7 hc2
       have AF : Aside _ := hfin
       have hmeas : rem2.length + ok2.toNat < gk := by
        rw [t0.2.2.1]
        rcases hc2 with ⟨h1, h2, h3⟩ | ⟨h1, g', m', _, _, h4⟩
        ·rw [h1, h3]; simp
        ·rw [h1, h4]; simp
       have AM : Aside (rem2.length + ok2.toNat < gk ∧ (n + 1) = (lsx).length) := ⟨hmeas, t0.2.2.2⟩
       have AWa : Aside _ := hwa
       clear t0 hc2 hfin hmeas hwa
       go_upto_region 9 with fail
       rw [AWa.out]
       clear hE2 d0 d1 d2 d3 d4
       go_wp2_with (go_at_call 20; refine hn2.mono ?_; rintro e7 w7 ⟨rfl, k7, b7⟩; have kk := (AF.out w7 k7 b7).1; have g0 := kk.cell 0; have g1 := kk.cell 1; have g2 := kk.cell 2; have g3 := kk.cell 3; have g4 := kk.cell 4; have z0 := kk.frozen 0; have z1 := kk.frozen 1; have z2 := kk.frozen 2; have z3 := kk.frozen 3; have z4 := kk.frozen 4)
       have am := AM.out
       go_roundg (rem2.length + ok2.toNat)
       case measure => exact am.1
       case rel => exact ⟨E2, ok2, _, (n + 1), c5, gv, rfl, rfl, rfl, rfl, ⟨ek2, eb2, en2, nm2, lsx, rem2, (AF.out w7 k7 b7).2, rfl, am.2⟩⟩
      ·by_cases h257 : g = 257
       ·subst h257
        have ek3 : ek = 3 := by rw [hek]; rfl
        subst ek3
        obtain ⟨lsx, hlsx⟩ : ∃ lsx, lsx = ls := ⟨_, rfl⟩
        subst hlsx
        have T0 : Aside (Gu lo hi B D b R W A lo2 w wr (.slice ax n c) lsx s1 rem gv N L y G1 fut2 R0 ∧ Cells wr E1 #[.int .i64 3, .int .u8 eb, .int .i64 en, .int .i64 0, .string (st nm)] 43 ∧ gk = rem.length + true.toNat ∧ n = lsx.length) := ⟨⟨gs.wz, gs.ll, gs.bel, gs.geo, gs.yl, hMs.close, by have := hG; simp only [nbe, if_neg (show ¬ (257 < 256) by omega)] at this; omega⟩, gs.ev, hgk, hnl⟩
        clear hT gs hgk hnl hMs hG hek heb hg258 h256
        go_upto_region 19 with fail
        clear c0' c1'
        have t0 := T0.out
        obtain ⟨E2, hE2⟩ : ∃ E2, wr.heap.size = E2 := ⟨_, rfl⟩
        obtain ⟨wa, hwa⟩ : ∃ wa, wr.alloc (.cells #[.int .i64 3, .int .u8 eb, .int .i64 en, .int .i64 0, .string (st nm)] 43) = wa := ⟨_, rfl⟩
        have d0 := t0.2.1.cell 0
        have d1 := t0.2.1.cell 1
        have d2 := t0.2.1.cell 2
        have d3 := t0.2.1.cell 3
        have d4 := t0.2.1.cell 4
        obtain ⟨ek2, eb2, en2, nm2, ok2, rem2, hn2, hc2⟩ := next_all (t0.1.wz.below (u := wa) (by rw [← hwa]; exact (Below.refl _ wr).alloc (Nat.le_refl _) _) (Nat.le_refl _)) (fun hne => by
         have h1 := t0.1.yl
         have h2 := t0.1.g1
         have h3 := nbe_le rem
         have h4 := t0.1.ms.gn
         have h5 := AN.out.1
         unfold MM
         omega)
        have hfin : ∀ w7, Wz w7 lo hi B D b R W A s1 rem2 → Fw lo hi wa w7 → Cells w7 E2 #[.int .i64 3, .int .u8 eb, .int .i64 en, .int .i64 0, .string (st nm)] 43 ∧ Gq lo hi B D b R W A lo2 E2 w (((((w7.setCell ⟨E2, 0, none⟩ (.int .i64 ek2)).setCell ⟨E2, 1, none⟩ (.int .u8 eb2)).setCell ⟨E2, 2, none⟩ (.int .i64 en2)).setCell ⟨E2, 3, none⟩ (.int .i64 0)).setCell ⟨E2, 4, none⟩ (.string (st nm2))) ek2 eb2 en2 nm2 ok2 (.slice ax n c) lsx s1 rem2 gv N L y G1 fut2 R0 := fun w7 k7 b7 => by
         rw [← hwa] at b7
         exact t0.1.next hE2 k7 b7 hc2
        have AF : Aside _ := hfin
        have hmeas : rem2.length + ok2.toNat < gk := by
         rw [t0.2.2.1]
         rcases hc2 with ⟨h1, h2, h3⟩ | ⟨h1, g', m', _, _, h4⟩
         ·rw [h1, h3]; simp
         ·rw [h1, h4]; simp
        have AM : Aside (rem2.length + ok2.toNat < gk ∧ n = (lsx).length) := ⟨hmeas, t0.2.2.2⟩
        have AWa : Aside _ := hwa
        clear t0 hc2 hfin hmeas hwa
        go_upto_region 9 with fail
        rw [AWa.out]
        clear hE2 d0 d1 d2 d3 d4
        go_wp2_with (go_at_call 20; refine hn2.mono ?_; rintro e7 w7 ⟨rfl, k7, b7⟩; have kk := (AF.out w7 k7 b7).1; have g0 := kk.cell 0; have g1 := kk.cell 1; have g2 := kk.cell 2; have g3 := kk.cell 3; have g4 := kk.cell 4; have z0 := kk.frozen 0; have z1 := kk.frozen 1; have z2 := kk.frozen 2; have z3 := kk.frozen 3; have z4 := kk.frozen 4)
        have am := AM.out
        go_roundg (rem2.length + ok2.toNat)
        case measure => exact am.1
        case rel => exact ⟨E2, ok2, _, n, c, gv, rfl, rfl, rfl, rfl, ⟨ek2, eb2, en2, nm2, lsx, rem2, (AF.out w7 k7 b7).2, rfl, am.2⟩⟩
       ·have hgb : g < 256 := by omega
        have ekk : ek = 2 := by rw [hek]; unfold gk1; rw [if_neg h256, if_neg h257]
        have ebb : eb = (g : Int) := by rw [heb]; unfold gk2; rw [if_pos hgb]
        subst ekk
        subst ebb
        by_cases hgN : gv < N
        ·have tg : decide ((gv : Int) ≥ n0) = false := decide_eq_false (by have := AN.out.2.2.2.2.2.2.2.2.1; omega)
         have hne := hMs.ne hgb
         obtain ⟨m, hm⟩ : ∃ m, n = m + 1 := ⟨n - 1, by have := List.length_pos_iff.2 hne; omega⟩
         subst hm
         obtain ⟨l, hl⟩ : ∃ l, ls[m]? = some l := ⟨_, List.getElem?_eq_getElem (by omega)⟩
         obtain ⟨vs, hv1, hv2, hv3, hv4⟩ := gs.ll.ex
         rw [← hnl] at hv1 hv2
         obtain ⟨av, hav⟩ : ∃ av, vs[m]? = some av := ⟨_, List.getElem?_eq_getElem (by omega)⟩
         have hsh := hv2.shape
         obtain ⟨a9, c9, h9, _, h10 | ⟨gb, h10, hgblo, ⟨cgb, hcgb⟩, h11, h12⟩, _⟩ := hsh
         ·omega
         cases h9
         subst h10
         have cel := h11 m av hav
         have fel := h12 m
         have hoi := hv3 m av l hav hl
         obtain ⟨a6, c6, hv6, _⟩ := hoi.shape
         obtain ⟨k6, hk6⟩ : ∃ k6, l.length = k6 := ⟨_, rfl⟩
         rw [hk6] at hv6 hoi
         subst hv6
         obtain ⟨H, hH⟩ : ∃ H, wr.heap.size = H := ⟨_, rfl⟩
         obtain ⟨wA, hwA⟩ : ∃ wA, (wr.alloc (.cells #[.int .u8 (g : Int)] 5)).drew = wA := ⟨_, rfl⟩
         have bA : Below wr.heap.size wr wA := by rw [← hwA]; exact ((Below.refl _ wr).alloc (Nat.le_refl _) _).drew
         have hoiA := hoi.below bA (Nat.le_refl _)
         have hbyteA : wA.cell? ⟨H, 0, none⟩ = some (.int .u8 (g : Int)) := by rw [← hwA, ← hH]; exact ((Cells.new wr #[.int .u8 (g : Int)] 5).drew).cell 0
         have celA : (wr.alloc (.cells #[.int .u8 (g : Int)] 5)).cell? ⟨gb, m, none⟩ = some (.slice a6 k6 c6) := by
          have hlt : gb < wr.heap.size := (Array.getElem?_eq_some_iff.1 hcgb).1
          have := (((Below.refl _ wr).alloc (Nat.le_refl _) (.cells #[.int .u8 (g : Int)] 5)).cell (p := ⟨gb, m, none⟩) hlt)
          rw [this]; exact cel
         have c1A : (wr.alloc (.cells #[.int .u8 (g : Int)] 5)).cell? ⟨E1, 1, none⟩ = some (.int .u8 (g : Int)) := by rw [(gs.ev.alloc _).cell]; rfl
         have hlen9 := hMs.each l (List.mem_of_getElem? hl)
         have hAm : Aside (k6 + 1 ≤ 140737488355328 ∧ l.length = k6) := by
          have := hMs.gn
          have := AN.out.1
          exact ⟨by omega, hk6⟩
         obtain ⟨lsx, hlsx⟩ : ∃ lsx, lsx = ls.dropLast ++ [l ++ [g]] := ⟨_, rfl⟩
         have hlastl : ls.getLastD [] = l := by
          rw [List.getLastD_eq_getLast?, List.getLast?_eq_getElem?, ← hnl, Nat.add_sub_cancel, hl]; rfl
         have hT0 : ∀ (g5 c5 : Nat) (w5 : World), Gob lo2 wA w5 (.slice a6 k6 c6) (.slice (some ⟨g5, 0, none⟩) (k6 + 1) c5) (k6 + 1) (l ++ [g]) → (w5.cell? ⟨gb, m, none⟩ = some (.slice a6 k6 c6) ∧ w5.frozen? ⟨gb, m, none⟩ = false) ∧ Aside (Gu lo hi B D b R W A lo2 w (w5.setCell ⟨gb, m, none⟩ (.slice (some ⟨g5, 0, none⟩) (k6 + 1) c5)) (.slice (some ⟨gb, 0, none⟩) (m + 1) c) lsx s1 rem (gv + 1) N L y G1 fut2 R0 ∧ Cells (w5.setCell ⟨gb, m, none⟩ (.slice (some ⟨g5, 0, none⟩) (k6 + 1) c5)) E1 #[.int .i64 2, .int .u8 (g : Int), .int .i64 en, .int .i64 0, .string (st nm)] 43 ∧ gk = rem.length + true.toNat ∧ (m + 1) = lsx.length) := fun g5 c5 w5 hgob => by
          have hv2A := hv2.below bA (Nat.le_refl _)
          have hv2u := hv2A.got hgob.got (by decide)
          have hcg5 : ∃ cs, w5.heap[gb]? = some (.cells cs 22 (0, 0)) := by
           rcases hv2u.own.2 with ⟨hv, h0⟩ | ⟨g', c', cur, hv, hg, hh, _⟩
           ·cases hv
           ·cases hv; exact ⟨_, hh⟩
          obtain ⟨cg, hcg⟩ := hcg5
          obtain ⟨a9, c9, h9, _, h10 | ⟨gb', h10, _, _, h11', h12'⟩, _⟩ := hv2u.shape
          ·omega
          cases h9
          cases h10
          have geo := gs.geo
          have o6 : Only gb w5 (w5.setCell ⟨gb, m, none⟩ (.slice (some ⟨g5, 0, none⟩) (k6 + 1) c5)) := (Only.refl gb w5).setCell _ _
          have wz5 := gotw (gs.wz.below bA (Nat.le_refl _)) hgob.got geo.2.1 (Or.inl rfl)
          have hE5 := (gs.ev.below bA gs.ev.lt).got hgob.got (by decide)
          have hEne : E1 ≠ gb := fun e => by subst e; unfold Cells at hE5; rw [hE5] at hcg; cases hcg
          refine ⟨⟨h11' m _ hav, h12' m⟩, ⟨?_, ?_, ((gs.bel.trans (bA.mono gs.bel.size)).trans (hgob.got.bel.mono geo.2.2)).trans (o6.below (by omega)), geo, gs.yl, ?_, ?_⟩, hE5.only o6 hEne, hgk, ?_⟩
          ·refine wz5.out ⟨o6.os, o6.tape, o6.output, Nat.le_of_eq o6.size.symm, fun k hk => o6.block k (by omega)⟩ fun i hi' => ?_
           by_cases e : i = gb
           ·subst e; exact Or.inr ⟨cg, 22, _, hcg, Or.inr (Or.inl rfl)⟩
           ·exact Or.inl (o6.block i e)
          ·rw [hlsx]
           have hllA := gs.ll.below bA (Nat.le_refl _)
           have hg2 : Gob lo2 wA w5 (.slice a6 k6 c6) (.slice (some ⟨g5, 0, none⟩) (k6 + 1) c5) (l.length + 1) (l ++ [g]) := by rw [hk6]; exact hgob
           exact Ll.byte hllA hnl.symm hv1 hl hv2A (fun i a l' h5 h6 => (hv3 i a l' h5 h6).below bA (Nat.le_refl _)) hv4 hav hg2 rfl
          ·rw [hlsx]; exact hMs.byte hgb hgN hlastl (List.mem_of_getElem? hl)
          ·have := hG; simp only [nbe, if_pos hgb] at this; omega
          ·rw [hlsx]; simp; omega
         have AT : Aside _ := hT0
         have hm1 : ((m : Int) + 1) - 1 = (m : Int) := by omega
         have bm : (m : Int) < 2000000000000 := by have := hMs.no; have := AN.out.2.2.2.2.2.2.1; omega
         have bgv : (gv : Int) < 2000000000000 := by have := hMs.gn; have := AN.out.1; omega
         rw [← hwA] at hoiA hbyteA AT
         have b1 : ((m : Int) < (m : Int) + 1) = True := eq_true (by omega)
         have tgn : ¬ ((gv : Int) ≥ n0) := by have := AN.out.2.2.2.2.2.2.2.2.1; omega
         clear hT gs hgk hMs hG hek heb hg258 hv1 hv2 hv3 hv4 bA hlsx hT0 hnl hlen9 hlastl h11 h12 hoi hne hl hav hcgb hwA hk6 h256 h257 hgb hgN hgblo
         go_upto_region 18 with fail
         go_region_law (refine step_gob rfl (.tmp 58) (.tmp 61) rfl lo2 (.slice a6 k6 c6) k6 l (by go_simp) hoiA hAm.out.2 H 1 g (by go_simp) hbyteA hAm.out.1 ?_; intro g5 c5 w5 hgob; have e4 := (AT.out g5 c5 w5 hgob).1.1; have f4 := (AT.out g5 c5 w5 hgob).1.2)
         all_goals
          have T0 := (AT.out g5 c5 w5 hgob).2
          obtain ⟨wx, hwx⟩ : ∃ wx, w5.setCell ⟨gb, m, none⟩ (.slice (some ⟨g5, 0, none⟩) (k6 + 1) c5) = wx := ⟨_, rfl⟩
          go_upto_region 19 with fail
          (try rw [hwx])
          rw [hwx] at T0
          clear hgob hoiA hbyteA hH c0' c1' cel fel celA c1A e4 f4 hwx
          have t0 := T0.out
          obtain ⟨E2, hE2⟩ : ∃ E2, wx.heap.size = E2 := ⟨_, rfl⟩
          obtain ⟨wa, hwa⟩ : ∃ wa, wx.alloc (.cells #[.int .i64 2, .int .u8 (g : Int), .int .i64 en, .int .i64 0, .string (st nm)] 43) = wa := ⟨_, rfl⟩
          have d0 := t0.2.1.cell 0
          have d1 := t0.2.1.cell 1
          have d2 := t0.2.1.cell 2
          have d3 := t0.2.1.cell 3
          have d4 := t0.2.1.cell 4
          obtain ⟨ek2, eb2, en2, nm2, ok2, rem2, hn2, hc2⟩ := next_all (t0.1.wz.below (u := wa) (by rw [← hwa]; exact (Below.refl _ wx).alloc (Nat.le_refl _) _) (Nat.le_refl _)) (fun hne => by
           have h1 := t0.1.yl
           have h2 := t0.1.g1
           have h3 := nbe_le rem
           have h4 := t0.1.ms.gn
           have h5 := AN.out.1
           unfold MM
           omega)
          have hfin : ∀ w7, Wz w7 lo hi B D b R W A s1 rem2 → Fw lo hi wa w7 → Cells w7 E2 #[.int .i64 2, .int .u8 (g : Int), .int .i64 en, .int .i64 0, .string (st nm)] 43 ∧ Gq lo hi B D b R W A lo2 E2 w (((((w7.setCell ⟨E2, 0, none⟩ (.int .i64 ek2)).setCell ⟨E2, 1, none⟩ (.int .u8 eb2)).setCell ⟨E2, 2, none⟩ (.int .i64 en2)).setCell ⟨E2, 3, none⟩ (.int .i64 0)).setCell ⟨E2, 4, none⟩ (.string (st nm2))) ek2 eb2 en2 nm2 ok2 (.slice (some ⟨gb, 0, none⟩) (m + 1) c) lsx s1 rem2 (gv + 1) N L y G1 fut2 R0 := fun w7 k7 b7 => by
           rw [← hwa] at b7
           exact t0.1.next hE2 k7 b7 hc2
          have AF : Aside _ := hfin
          have hmeas : rem2.length + ok2.toNat < gk := by
           rw [t0.2.2.1]
           rcases hc2 with ⟨h1, h2, h3⟩ | ⟨h1, g', m', _, _, h4⟩
           ·rw [h1, h3]; simp
           ·rw [h1, h4]; simp
          have AM : Aside (rem2.length + ok2.toNat < gk ∧ (m + 1) = (lsx).length) := ⟨hmeas, t0.2.2.2⟩
          have AWa : Aside _ := hwa
          clear t0 hc2 hfin hmeas hwa
          go_upto_region 9 with fail
          rw [AWa.out]
          clear hE2 d0 d1 d2 d3 d4
          go_wp2_with (go_at_call 20; refine hn2.mono ?_; rintro e7 w7 ⟨rfl, k7, b7⟩; have kk := (AF.out w7 k7 b7).1; have g0 := kk.cell 0; have g1 := kk.cell 1; have g2 := kk.cell 2; have g3 := kk.cell 3; have g4 := kk.cell 4; have z0 := kk.frozen 0; have z1 := kk.frozen 1; have z2 := kk.frozen 2; have z3 := kk.frozen 3; have z4 := kk.frozen 4)
          have am := AM.out
          go_roundg (rem2.length + ok2.toNat)
          case measure => exact am.1
          case rel => exact ⟨E2, ok2, _, (m + 1), c, (gv + 1), rfl, rfl, rfl, rfl, ⟨ek2, eb2, en2, nm2, lsx, rem2, (AF.out w7 k7 b7).2, rfl, am.2⟩⟩
        ·have tg : decide ((gv : Int) ≥ n0) = true := decide_eq_true (by have := AN.out.2.2.2.2.2.2.2.2.1; omega)
         have A9 : Aside (Ll wr lo2 (.slice ax n c) ls ∧ Below w.heap.size w wr ∧ R0 = (ls, 62)) := ⟨gs.ll, gs.bel, hMs.over hgb hgN⟩
         clear hT gs hgk hnl hMs hG hek heb hg258 h256 h257 hgb hgN
         go_wp2_with fail
         first | go_ret | go_ret2
         obtain ⟨a1, a2, a3⟩ := A9.out
         exact wr0_end a1 a2 a3 AG.out (Fw.refl _ _ _)
  ·have t1 : decide ((i : Int) < (L : Int)) = false := decide_eq_false (by omega)
   have bn : ¬ ((i : Int) < (L : Int)) := by omega
   obtain rfl : i = k := by have := an.2.2.2.2.2.2.2.2.2; omega
   obtain ⟨rfl, rfl⟩ := an.2.1.det hri
   have hfut : fut = [] := by
    have := congrArg List.length hTf
    rw [List.length_append] at this
    exact List.eq_nil_of_length_eq_zero (by omega)
   subst hfut
   have kE := wz_end wr hz
   rw [an.2.2.2.1] at kE
   have A9 : Aside (Ll wr lo2 (.slice ax n c) ls ∧ Below w.heap.size w wr ∧ R0 = (ls, y)) := ⟨hll, hbel, hms.nil⟩
   clear hT hz hll hbel hri hTf hms hik hnl hgk hgvn an hiL
   go_wp2_with (first
    | (go_at_call 19; refine kE.mono ?_; rintro e3 w3 ⟨rfl, h3, f3⟩)
    | (go_at_call 18; refine (we_reason _ h3).mono ?_; rintro e4 w4 ⟨rfl, rfl⟩))
   first | go_ret | go_ret2
   obtain ⟨a1, a2, a3⟩ := A9.out
   exact wr0_end a1 a2 a3 AG.out f3
end Go.Proofs.YtogednaamndpgaaGreatDoor

/-
 What Whole comes to: what the machine of small steps stands at over all bytes, asked for so many.
-/
namespace Go.Proofs.YtogednaamndpgaaGreatDoor
open Go.RowKit
set_option linter.unusedVariables false
end Go.Proofs.YtogednaamndpgaaGreatDoor

/-
 What the law's first look comes to: the document's example.
-/
namespace Go.Proofs.YtogednaamndpgaaGreatDoor
open Go.RowKit
set_option linter.unusedVariables false
def iter (bs : List Bool) (most : Nat) : Nat → Cfg → Cfg
 | 0, c => c
 | k + 1, c => match step bs most c with
  | some d => iter bs most k d
  | none => c
theorem runs_iter {bs : List Bool} {most : Nat} : ∀ (k : Nat) (c : Cfg), Runs bs most c (iter bs most k c)
 | 0, c => Runs.refl c
 | k + 1, c => by
  unfold iter
  cases e : step bs most c with
  | none => exact Runs.refl c
  | some d => exact Runs.cons e (runs_iter k d)
end Go.Proofs.YtogednaamndpgaaGreatDoor

/-
 What awake comes to.
-/
namespace Go.Proofs.YtogednaamndpgaaGreatDoor
open Go.RowKit
set_option linter.unusedVariables false
theorem ow_lies {w : World} {lo : Nat} {v : Value} {l : List Nat} (h : Ow w lo 5 1 v l.length (ob l)) : ∃ a c, v = .slice a l.length c ∧ l.length ≤ c ∧ Lies w a l ∧ (a = none → l.length = 0 ∧ c = 0) := by
 have h2 : Ob w lo v l := ⟨h.own, h.le⟩
 obtain ⟨a, c, h3, h4, h5, h6⟩ := h2.shape
 exact ⟨a, c, h3, h4, h5, h6⟩
theorem Ll.at {w : World} {lo : Nat} {a : Option Addr} {n c : Nat} {ls : List (List Nat)} (h : Ll w lo (.slice a n c) ls) (hn : n = ls.length) {i : Nat} {l : List Nat} (hl : ls[i]? = some l) : ∃ g a1 c1, a = some ⟨g, 0, none⟩ ∧ w.cell? ⟨g, i, none⟩ = some (.slice a1 l.length c1) ∧ Lies w a1 l ∧ l.length ≤ c1 ∧ (a1 = none → l.length = 0 ∧ c1 = 0) := by
 obtain ⟨vs, h1, h2, h3, h4⟩ := h.ex
 have hi := (List.getElem?_eq_some_iff.1 hl).1
 obtain ⟨v, hv⟩ : ∃ v, vs[i]? = some v := ⟨_, List.getElem?_eq_getElem (by omega)⟩
 obtain ⟨a9, c9, h9, _, h10 | ⟨g, h10, _, _, h11, _⟩, _⟩ := h2.shape
 ·omega
 cases h9
 obtain ⟨a1, c1, e1, e3, e4, e5⟩ := ow_lies (h3 i v l hv hl)
 subst e1
 exact ⟨g, a1, c1, h10, h11 i _ hv, e4, e3, e5⟩
def ex15 : List Nat := [31, 139, 8, 0, 0, 0, 0, 0, 0, 3, 75, 76, 74, 6, 0, 194, 65, 36, 53, 3, 0, 0, 0]
def exz : Cfg := ⟨.done, 34, [97, 98, 99], [1, 2, 3]⟩
def exr : Gr := ⟨[], 0, 23, 0, 99⟩
def exT : List Gev := [(9, 256, []), (11, 97, []), (12, 98, []), (13, 99, []), (22, 257, [])]
theorem ex_iter : iter (allb (ex15.drop 10)) 99 12 c0 = exz := by kernel_rfl
theorem ex_st : Stands (ex15.drop 10) 99 exz := ⟨by have := runs_iter (bs := allb (ex15.drop 10)) (most := 99) 12 c0; rwa [ex_iter] at this, rfl⟩
theorem ex_head : ghead ex15 exr = (⟨[], 0, 23, 10, 99⟩, []) := by kernel_rfl
theorem ex_memb : gmemb ex15 exr exz = ⟨exT, 0, 23, 23, 96⟩ := by kernel_rfl
theorem ex_run : ∃ s, Rch ex15 23 s exT ∧ zfin s = 0 := by
 have h := memb_ok (b := ex15) (r := exr) (s := s0) (z := exz) (show ∀ x ∈ ex15, x < 256 by decide) ⟨rfl, rch_zero ex15, rfl, Or.inl ⟨rfl, rfl⟩, rfl, by decide⟩ (by rw [ex_head]; exact fun _ => ex_st) (by rw [ex_head]; decide)
 rw [ex_memb] at h
 rcases h with ⟨s1, q⟩ | q | q
 ·exact ⟨s1, q.rch, by unfold zfin; rw [if_neg (fun e => e q.sw), if_pos q.wh]⟩
 ·exact absurd rfl q.1
 ·have := q.1; cases this
theorem ex_res : rs 9 0 [] (cds exT) = ([[97, 98, 99]], 0) := by kernel_rfl
set_option maxHeartbeats 2000000 in
set_option maxRecDepth 20000 in
theorem wawake_c (w : World) (ht : Tabs w) (hct : Ctab w) (h8 : 8 ≤ w.heap.size) : Calls Tryz.prog 13 #[] w fun e w' => e = .returned (.bool true) ∧ Below w.heap.size w w' := by
 obtain ⟨s, hr, hfin⟩ := ex_run
 obtain ⟨H, hH⟩ : ∃ H, w.heap.size = H := ⟨_, rfl⟩
 obtain ⟨w1, hw1⟩ : ∃ w1, w1 = w.alloc (.cells (ob ex15).toArray 5) := ⟨_, rfl⟩
 have b1 : Below w.heap.size w w1 := by rw [hw1]; exact (Below.refl _ w).alloc (Nat.le_refl _) _
 have hz1 : w1.heap.size = H + 1 := by rw [hw1, ← hH]; simp
 have hlies : Lies w1 (some ⟨H, 0, none⟩) ex15 := by
  rw [hw1, ← hH]
  exact Or.inr ⟨_, 0, rfl, fun i x hx => by rw [Nat.zero_add, (Cells.new w (ob ex15).toArray 5).cell]; simp [ob_get, hx]⟩
 have hwh := wwhole_c w1 (ht.below b1 h8) (hct.below b1 (by omega)) (by omega) (some ⟨H, 0, none⟩) ex15 23 23 9 9 rfl (by decide) hlies rfl (by decide) (show ∀ x ∈ ex15, x < 256 by decide) 23 s exT hr (Or.inr rfl) ([[97, 98, 99]], 0) (by rw [hfin]; exact ex_res)
 have A : Aside (Below w.heap.size w w1 ∧ w.heap.size = H ∧ w1.heap.size = H + 1) := ⟨b1, hH, hz1⟩
 have hw1' : w.alloc (.cells #[.int .u8 31, .int .u8 139, .int .u8 8, .int .u8 0, .int .u8 0, .int .u8 0, .int .u8 0, .int .u8 0, .int .u8 0, .int .u8 3, .int .u8 75, .int .u8 76, .int .u8 74, .int .u8 6, .int .u8 0, .int .u8 194, .int .u8 65, .int .u8 36, .int .u8 53, .int .u8 3, .int .u8 0, .int .u8 0, .int .u8 0] 5) = w1 := hw1.symm
 clear b1 hz1 hlies hw1 ht hct h8 hr hfin
 go_enter Tryz.func13, Tryz.ntmps13
 go_upto_region 2 with fail
 go_upto_region 3 with (go_at_call 8; refine hwh.mono ?_; rintro e2 w2 ⟨v2, lo2, rfl, hl2, l2, bel2⟩)
 obtain ⟨a2, c2, hv2, _⟩ := l2.shape
 subst hv2
 obtain ⟨g, a5, c5, hg, k0, li0, _, _⟩ := l2.at rfl (i := 0) (l := [97, 98, 99]) rfl
 subst hg
 have h0 : (convert 22 9 (.slice a5 3 c5)).run Tryz.prog w2 = .ok (.string ⟨#[97, 98, 99]⟩) w2 := conv_st 3 c5 rfl (show ∀ x ∈ [97, 98, 99], x < 256 by decide) li0
 have k0' : w2.cell? ⟨g, 0, none⟩ = some (.slice a5 3 c5) := k0
 have A2 : Aside (Below w.heap.size w w2) := A.out.1.trans (bel2.mono (by have := A.out; omega))
 clear k0 li0 l2 bel2 hH hwh hl2 hw1'
 go_wp2_with fail
 first | go_ret | go_ret2
 exact ⟨rfl, A2.out⟩
end Go.Proofs.YtogednaamndpgaaGreatDoor

/-
 What the document's Rows comes to.
-/
namespace Go.Proofs.YtogednaamndpgaaGreatDoor
open Go.RowKit
set_option linter.unusedVariables false
def Dn (w u : World) : Prop := ∃ n, u = w.drewN n
theorem Dn.refl (w : World) : Dn w w := ⟨0, rfl⟩
theorem Dn.drewN {w u : World} (h : Dn w u) (n : Nat) : Dn w (u.drewN n) := by
 obtain ⟨m, rfl⟩ := h
 exact ⟨_, World.drewN_drewN _ _ _⟩
structure Bn (N : Nat) (ls : List (List Nat)) (rem : List Nat) : Prop where
 all : ls.length + rem.length ≤ N
 each : ∀ l ∈ ls, l.length + rem.length ≤ N
theorem Bn.open_ {N : Nat} {ls : List (List Nat)} {r : List Nat} {g : Nat} (h : Bn N ls (g :: r)) : Bn N (ls ++ [[]]) r := by
 have h1 := h.all
 simp at h1
 refine ⟨by simp; omega, fun l hl => ?_⟩
 rcases List.mem_append.1 hl with e | e
 ·have := h.each l e; simp at this; omega
 ·simp at e; subst e; simp; omega
theorem Bn.close {N : Nat} {ls : List (List Nat)} {r : List Nat} {g : Nat} (h : Bn N ls (g :: r)) : Bn N ls r := by
 have h1 := h.all
 simp at h1
 refine ⟨by omega, fun l hl => ?_⟩
 have := h.each l hl; simp at this; omega
theorem Bn.byte {N : Nat} {ls : List (List Nat)} {l : List Nat} {r : List Nat} {g : Nat} (h : Bn N ls (g :: r)) (hl : l ∈ ls) : Bn N (ls.dropLast ++ [l ++ [g]]) r := by
 have h1 := h.all
 simp at h1
 have hne : ls ≠ [] := List.ne_nil_of_mem hl
 have hd : ls.dropLast.length + 1 = ls.length := by have := List.length_pos_iff.2 hne; simp; omega
 refine ⟨by simp at hd ⊢; omega, fun m hm => ?_⟩
 rcases List.mem_append.1 hm with e | e
 ·have := h.each m (List.dropLast_subset _ e); simp at this; omega
 ·simp at e; subst e; have := h.each l hl; simp at this ⊢; omega
def Rl (w : World) (a : Option Addr) (ls : List (List Nat)) : Prop := ls = [] ∨ ∃ g o, a = some ⟨g, o, none⟩ ∧ ∀ (i : Nat) (l : List Nat), ls[i]? = some l → ∃ a1 c1, w.cell? ⟨g, o + i, none⟩ = some (.slice a1 l.length c1) ∧ Lies w a1 l ∧ l.length ≤ c1 ∧ (a1 = none → l.length = 0 ∧ c1 = 0)
theorem Rl.below {w u : World} {a : Option Addr} {ls : List (List Nat)} (h : Rl w a ls) (k : Below w.heap.size w u) : Rl u a ls := by
 rcases h with h | ⟨g, o, ha, hx⟩
 ·exact Or.inl h
 ·refine Or.inr ⟨g, o, ha, fun i l hl => ?_⟩
  obtain ⟨a1, c1, h1, h2, h3⟩ := hx i l hl
  exact ⟨a1, c1, (k.cell (p := ⟨g, o + i, none⟩) (World.block_lt_of_cell? w _ h1)).trans h1, h2.below k, h3⟩
theorem Rl.drewN {w : World} {a : Option Addr} {ls : List (List Nat)} (h : Rl w a ls) (n : Nat) : Rl (w.drewN n) a ls := h
theorem Ll.rl {w : World} {lo : Nat} {a : Option Addr} {n c : Nat} {ls : List (List Nat)} (h : Ll w lo (.slice a n c) ls) (hn : n = ls.length) : Rl w a ls := by
 rcases Nat.eq_zero_or_pos ls.length with h0 | h0
 ·exact Or.inl (List.eq_nil_of_length_eq_zero h0)
 ·obtain ⟨l0, hl0⟩ : ∃ l0, ls[0]? = some l0 := ⟨_, List.getElem?_eq_getElem h0⟩
  obtain ⟨g, _, _, hg, _⟩ := h.at hn hl0
  refine Or.inr ⟨g, 0, hg, fun i l hl => ?_⟩
  obtain ⟨g', a1, c1, hg', h1, h2, h3, h4⟩ := h.at hn hl
  rw [hg] at hg'
  cases hg'
  exact ⟨a1, c1, by rw [Nat.zero_add]; exact h1, h2, h3, h4⟩
set_option maxHeartbeats 1000000 in
theorem rows_c (w : World) (a b : Option Addr) (ls : List (List Nat)) (n c d : Nat) (hn : ls.length = n) (hb : n < 200000000001) (ha : Rl w a ls) (hbb : Rl w b ls) (ho : ∀ l ∈ ls, Oct l) : Calls Tryz.prog 10 #[.slice a n c, .slice b n d] w fun e w' => e = .returned (.bool true) ∧ ∃ m, w' = w.drewN m := by
 have A : Aside (ls.length = n ∧ n < 200000000001 ∧ Rl w a ls ∧ Rl w b ls ∧ ∀ l ∈ ls, Oct l) := ⟨hn, hb, ha, hbb, ho⟩
 have hz : ((n : Int) != (n : Int)) = false := by simp
 clear hn hb ha hbb ho
 go_enter Tryz.func10, Tryz.ntmps10
 go_wp2_with fail
 go_loopg [5] n (fun g s5 wr => ∃ k : Nat, s5 = .int .i64 (k : Int) ∧ Aside (k + g = n ∧ Dn w wr))
 case atStart => exact ⟨0, rfl, ⟨by omega, Dn.refl _⟩⟩
 case round =>
  obtain ⟨k, rfl, hT⟩ := hrel
  obtain ⟨hkg, m0, hm0⟩ := hT.out
  have a0 := A.out
  by_cases hk : k < n
  ·have t1 : ((k : Int) < (n : Int)) = True := eq_true (by omega)
   have t2 : (k < n) = True := eq_true hk
   obtain ⟨l, hl⟩ : ∃ l, ls[k]? = some l := ⟨_, List.getElem?_eq_getElem (by omega)⟩
   rcases a0.2.2.1 with e | ⟨g1, o1, rfl, h1⟩
   ·rw [e] at hl; simp at hl
   rcases a0.2.2.2.1 with e | ⟨g2, o2, rfl, h2⟩
   ·rw [e] at hl; simp at hl
   obtain ⟨a1, c1, k1, l1, _⟩ := h1 k l hl
   obtain ⟨a2, c2, k2, l2, _⟩ := h2 k l hl
   have hol := a0.2.2.2.2 l (List.mem_of_getElem? hl)
   obtain ⟨q, hq⟩ : ∃ q, l.length = q := ⟨_, rfl⟩
   obtain ⟨S, hS⟩ : ∃ S, st l = S := ⟨_, rfl⟩
   have kk1 : wr.cell? ⟨g1, o1 + k, none⟩ = some (.slice a1 q c1) := by rw [hm0, ← hq]; exact k1
   have kk2 : wr.cell? ⟨g2, o2 + k, none⟩ = some (.slice a2 q c2) := by rw [hm0, ← hq]; exact k2
   have e1 : ∀ n, (convert 22 9 (.slice a1 q c1)).run Tryz.prog (wr.drewN n) = .ok (.string S) (wr.drewN n) := fun n => by rw [← hS]; exact conv_st q c1 hq hol (by rw [hm0]; exact (l1.drewN _).drewN _)
   have e2 : ∀ n, (convert 22 9 (.slice a2 q c2)).run Tryz.prog (wr.drewN n) = .ok (.string S) (wr.drewN n) := fun n => by rw [← hS]; exact conv_st q c2 hq hol (by rw [hm0]; exact (l2.drewN _).drewN _)
   have bk : (k : Int) < 400000000000 := by omega
   have A2 : Aside (k + gk = n ∧ k < n ∧ Dn w wr) := ⟨hkg, hk, ⟨m0, hm0⟩⟩
   have hsz : (S.toList == S.toList) = true := by simp
   clear hT hkg hm0 a0 hk hl h1 h2 k1 k2 l1 l2 hol hq hS
   go_upto_region 6 with fail
   go_quiet (fail)
   go_wp2_with fail
   have a2 := A2.out
   go_roundg (gk - 1)
   case measure => omega
   case rel => exact ⟨k + 1, by go_num, ⟨by omega, a2.2.2.drewN _⟩⟩
  ·have t1 : ((k : Int) < (n : Int)) = False := eq_false (by omega)
   have t2 : (k < n) = False := eq_false hk
   have A2 : Aside (∃ m, wr = w.drewN m) := ⟨m0, hm0⟩
   clear hT hkg hm0 a0 hk
   go_wp2_with fail
   first | go_ret | go_ret2
   exact ⟨rfl, A2.out⟩
end Go.Proofs.YtogednaamndpgaaGreatDoor

/-
 Members in memory; what Named, small and given come to.
-/
namespace Go.Proofs.YtogednaamndpgaaGreatDoor
open Go.RowKit
set_option linter.unusedVariables false
def nmd (l : List Nat) : List Nat := (l.filter fun c => c != 0).take 256
theorem nmd_len (l : List Nat) : (nmd l).length ≤ 256 := by unfold nmd; rw [List.length_take]; omega
theorem nmd_nz (l : List Nat) : ∀ c ∈ nmd l, c ≠ 0 := fun c hc => by
 have := List.mem_of_mem_take hc
 have := (List.mem_filter.1 this).2
 simpa using this
theorem nmd_oct {l : List Nat} (h : Oct l) : Oct (nmd l) := fun c hc => h c (List.mem_filter.1 (List.mem_of_mem_take hc)).1
set_option maxRecDepth 20000 in
set_option maxHeartbeats 1000000 in
theorem named_c (l : List Nat) (ho : Oct l) (hl : l.length ≤ 9223372036854775807) (w : World) : Calls Tryz.prog 24 #[.string (st l)] w fun e w' => e = .returned (.string (st (nmd l))) ∧ Below w.heap.size w w' := by
 obtain ⟨lo, hlo⟩ : ∃ lo, w.heap.size = lo := ⟨_, rfl⟩
 obtain ⟨s, hs⟩ : ∃ s, s = st l := ⟨_, rfl⟩
 obtain ⟨L, hL⟩ : ∃ L, l.length = L := ⟨_, rfl⟩
 obtain ⟨ans, hans⟩ : ∃ ans, nmd l = ans := ⟨_, rfl⟩
 have z1 : s.size = L := by rw [hs, st_size, hL]
 rw [hans, ← hs, hlo]
 have A : Aside (s = st l ∧ l.length = L ∧ L ≤ 9223372036854775807 ∧ Oct l ∧ w.heap.size = lo ∧ nmd l = ans) := ⟨hs, hL, by omega, ho, hlo, hans⟩
 clear hs hL hl ho hlo hans
 go_enter Tryz.func24, Tryz.ntmps24
 go_wp2_with fail
 go_loopg [3, 4] L (fun gg s3 s4 wr => ∃ (k : Nat) (va : Option Addr) (n c : Nat), s3 = .slice va n c ∧ s4 = .int .i64 (k : Int) ∧ Aside (k + gg = L ∧ ∃ p, Ow wr lo 5 1 (.slice va n c) n (ob p) ∧ p.length = n ∧ n ≤ 256 ∧ (p ++ (l.drop k).filter fun c => c != 0).take 256 = ans ∧ Oct p ∧ Below lo w wr))
 case atStart => exact ⟨0, none, 0, 0, rfl, rfl, ⟨by omega, [], Ow.nil (by rw [A.out.2.2.2.2.1]; exact Nat.le_refl _), rfl, by omega, A.out.2.2.2.2.2, fun x hx => (by cases hx), Below.refl _ _⟩⟩
 case round =>
  obtain ⟨k, va, n, c, rfl, rfl, hI⟩ := hrel
  obtain ⟨hkg, p, how, hpl, hn, hpa, hop, hbel⟩ := hI.out
  have a0 := A.out
  have fin : (k = L ∨ n = 256) → p = ans := fun h => by
   rw [← hpa]
   rcases h with h | h
   ·rw [List.drop_eq_nil_of_le (by omega), List.filter_nil, List.append_nil, List.take_of_length_le (by omega)]
   ·rw [← h, ← hpl, List.take_left]
  by_cases hk : k < L
  ·have hki : ((k : Int) < (L : Int)) = True := eq_true (by omega)
   have hkn : (k < L) = True := eq_true hk
   have hkb : (k : Int) + 1 ≤ 9223372036854775807 := by omega
   by_cases hn6 : n < 256
   ·have hni : ((n : Int) < 256) = True := eq_true (by omega)
    have hnn : (n < 256) = True := eq_true hn6
    obtain ⟨x, hx⟩ : ∃ x, l[k]? = some x := ⟨_, List.getElem?_eq_getElem (by omega)⟩
    have hx0 : ∀ h : k < s.size, (s[k]'h).toNat = x := by rw [a0.1]; exact fun h => st_get a0.2.2.2.1 hx h
    have hxo := a0.2.2.2.1 x (List.mem_of_getElem? hx)
    rw [drop_more hx] at hpa
    by_cases hz : x = 0
    ·have t3 : ((x : Int) != 0) = false := by rw [hz]; rfl
     have A2 : Aside (k + gk = L ∧ k < L ∧ Ow wr lo 5 1 (.slice va n c) n (ob p) ∧ p.length = n ∧ n ≤ 256 ∧ (p ++ (l.drop (k + 1)).filter fun c => c != 0).take 256 = ans ∧ Oct p ∧ Below lo w wr) := ⟨hkg, hk, how, hpl, hn, by rw [← hpa, hz]; simp, hop, hbel⟩
     clear hI hkg how hpl hn hpa hop hbel a0 hk hx hz hn6 fin
     go_wp2_with fail
     obtain ⟨q1, q2, q3⟩ := A2.out
     go_roundg (gk - 1)
     case measure => omega
     case rel => exact ⟨k + 1, va, n, c, rfl, by go_num, ⟨by omega, p, q3⟩⟩
    ·have t3 : ((x : Int) != 0) = true := by rw [bne_iff_ne]; omega
     obtain ⟨H, hH⟩ : ∃ H, wr.heap.size = H := ⟨_, rfl⟩
     have bA : Below wr.heap.size wr (wr.alloc (.cells #[.int .u8 (x : Int)] 5)) := (Below.refl _ wr).alloc (Nat.le_refl _) _
     have howA := how.below bA (Nat.le_refl _)
     have hlz := one_cell (x := x) hH
     have h1c : ∀ u ∈ ob [x], u.oneCell' = true := ob_one
     obtain ⟨i0, hii, hz0, hz1, hz2⟩ := ginfo_parts ginfo5
     have hAm : Aside (n + 1 ≤ maxLen ∧ (n + 1) * 1 ≤ 140737488355328) := ⟨by unfold maxLen; omega, by omega⟩
     have hle := how.le
     have hT0 : ∀ (v5 : Value) (w5 : World), Got lo 5 1 (wr.alloc (.cells #[.int .u8 (x : Int)] 5)) w5 (.slice va n c) v5 (n + 1) (ob p ++ ob [x]) → ∃ a5 c5, v5 = .slice a5 (n + 1) c5 ∧ Aside (Ow w5 lo 5 1 (.slice a5 (n + 1) c5) (n + 1) (ob (p ++ [x])) ∧ (p ++ [x]).length = n + 1 ∧ n + 1 ≤ 256 ∧ ((p ++ [x]) ++ (l.drop (k + 1)).filter fun c => c != 0).take 256 = ans ∧ Oct (p ++ [x]) ∧ Below lo w w5) := fun v5 w5 hgot => by
      obtain ⟨a5, c5, hv5, _⟩ := hgot.ow.shape
      subst hv5
      have h5 := hgot.ow
      rw [ob_append] at h5
      refine ⟨a5, c5, rfl, h5, by simp [hpl], by omega, ?_, hop.append (Oct.cons hxo Oct.nil), (hbel.trans (bA.mono hle)).trans hgot.bel⟩
      rw [← hpa, List.append_assoc]
      simp [hz]
     have AT : Aside _ := hT0
     have AG : Aside (k + gk = L ∧ k < L) := ⟨hkg, hk⟩
     clear hI hkg how hpl hn hpa hop hbel a0 hk hx hz hn6 fin bA hT0 hle
     go_wp2_with (at_builtin; refine wpList_ow Tryz.prog _ rfl (.tmp 20) (.tmp 24) 22 rfl 5 i0 _ 1 1 Tryz.underlying22 hii hz0 hz1 hz2 rfl (by decide) lo (.slice va n c) n _ (by rfl) howA (some ⟨H, 0, none⟩) (ob [x]) 1 1 rfl (by rfl) (by intro h; cases h) hlz h1c hAm.out.1 hAm.out.2 ?_; intro v5 w5 hgot; obtain ⟨a5, c5, hv5, T5⟩ := AT.out v5 w5 hgot; subst hv5)
     have ag := AG.out
     go_roundg (gk - 1)
     case measure => omega
     case rel => exact ⟨k + 1, a5, n + 1, c5, rfl, by go_num, ⟨by omega, p ++ [x], T5.out⟩⟩
   ·have hni : ((n : Int) < 256) = False := eq_false (by omega)
    have hnn : (n < 256) = False := eq_false hn6
    have e := fin (Or.inr (by omega))
    subst e
    obtain ⟨a, c', hv, hn2, _, hlies, _⟩ := how.lies
    cases hv
    have hcv := conv_st (w := wr) n c hn2 hop hlies
    have AE : Aside (Below lo w wr) := hbel
    clear hI hkg how hpl hn hpa hop hbel a0 hk hn6 fin hn2 hlies
    go_wp2_with fail
    first | go_ret | go_ret2
    exact ⟨rfl, AE.out⟩
  ·have hki : ((k : Int) < (L : Int)) = False := eq_false (by omega)
   have hkn : (k < L) = False := eq_false hk
   have e := fin (Or.inl (by omega))
   subst e
   obtain ⟨a, c', hv, hn2, _, hlies, _⟩ := how.lies
   cases hv
   have hcv := conv_st (w := wr) n c hn2 hop hlies
   have AE : Aside (Below lo w wr) := hbel
   clear hI hkg how hpl hn hpa hop hbel a0 hk fin hn2 hlies
   go_wp2_with fail
   first | go_ret | go_ret2
   exact ⟨rfl, AE.out⟩
structure Mb where
 nm : List Nat
 ex : List Nat
 sb : Bool
 dt : List Nat
 ps : List Pb
def Sl (w : World) (a : Option Addr) (l : List Nat) (c : Nat) : Prop := Lies w a l ∧ l.length ≤ c ∧ (a = none → l.length = 0 ∧ c = 0)
theorem Sl.below {w u : World} {a : Option Addr} {l : List Nat} {c : Nat} (h : Sl w a l c) (k : Below w.heap.size w u) : Sl u a l c := ⟨h.1.below k, h.2⟩
structure L1 (w : World) (g o : Nat) (m : Mb) (ea : Option Addr) (ec : Nat) (da : Option Addr) (dc : Nat) (pa : Option Addr) (pc : Nat) : Prop where
 c0 : w.cell? ⟨g, o, none⟩ = some (.string (st m.nm))
 c1 : w.cell? ⟨g, o + 1, none⟩ = some (.slice ea m.ex.length ec)
 c2 : w.cell? ⟨g, o + 2, none⟩ = some (.bool m.sb)
 c3 : w.cell? ⟨g, o + 3, none⟩ = some (.slice da m.dt.length dc)
 c4 : w.cell? ⟨g, o + 4, none⟩ = some (.slice pa m.ps.length pc)
 ex : Sl w ea m.ex ec
 dt : Sl w da m.dt dc
 ps : Plan w pa m.ps
theorem L1.below {w u : World} {g o : Nat} {m : Mb} {ea da pa : Option Addr} {ec dc pc : Nat} (h : L1 w g o m ea ec da dc pa pc) (k : Below w.heap.size w u) : L1 u g o m ea ec da dc pa pc := by
 have f : ∀ {q : Addr} {v : Value}, w.cell? q = some v → u.cell? q = some v := fun {q v} hq => (k.cell (p := q) (World.block_lt_of_cell? w _ hq)).trans hq
 exact ⟨f h.c0, f h.c1, f h.c2, f h.c3, f h.c4, h.ex.below k, h.dt.below k, h.ps.below k⟩
def Lm (w : World) (a : Option Addr) (ms : List Mb) : Prop := ms = [] ∨ ∃ g o, a = some ⟨g, o, none⟩ ∧ ∀ (i : Nat) (m : Mb), ms[i]? = some m → ∃ ea ec da dc pa pc, L1 w g (o + i * 5) m ea ec da dc pa pc
theorem Lm.below {w u : World} {a : Option Addr} {ms : List Mb} (h : Lm w a ms) (k : Below w.heap.size w u) : Lm u a ms := by
 rcases h with h | ⟨g, o, ha, hx⟩
 ·exact Or.inl h
 ·refine Or.inr ⟨g, o, ha, fun i m hm => ?_⟩
  obtain ⟨ea, ec, da, dc, pa, pc, q⟩ := hx i m hm
  exact ⟨ea, ec, da, dc, pa, pc, q.below k⟩
theorem Lm.at {w : World} {a : Option Addr} {ms : List Mb} (h : Lm w a ms) {i : Nat} {m : Mb} (hm : ms[i]? = some m) : ∃ g o ea ec da dc pa pc, a = some ⟨g, o, none⟩ ∧ L1 w g (o + i * 5) m ea ec da dc pa pc := by
 rcases h with e | ⟨g, o, ha, hx⟩
 ·rw [e] at hm; simp at hm
 ·obtain ⟨ea, ec, da, dc, pa, pc, q⟩ := hx i m hm
  exact ⟨g, o, ea, ec, da, dc, pa, pc, ha, q⟩
def msz : List Mb → Nat
 | [] => 0
 | m :: l => m.dt.length + 20 * m.ps.length + msz l
theorem msz_drop {ms : List Mb} {i : Nat} {m : Mb} (h : ms[i]? = some m) : msz (ms.drop i) = m.dt.length + 20 * m.ps.length + msz (ms.drop (i + 1)) := by
 obtain ⟨h1, h2⟩ := List.getElem?_eq_some_iff.1 h
 rw [List.drop_eq_getElem_cons h1, h2]
 rfl
set_option maxRecDepth 20000 in
set_option maxHeartbeats 1000000 in
theorem small_c (w : World) (a : Option Addr) (ms : List Mb) (N C : Nat) (hN : ms.length = N) (hNb : N ≤ 9223372036854775807) (hm : Lm w a ms) (hs : ∀ m ∈ ms, m.dt.length ≤ 140737488355328 ∧ m.ps.length ≤ 140737488355328) : Calls Tryz.prog 21 #[.slice a N C] w fun e w' => e = .returned (.bool (decide (N + msz ms < 3000))) ∧ ∃ n, w' = w.drewN n := by
 obtain ⟨tot, htot⟩ : ∃ tot, N + msz ms = tot := ⟨_, rfl⟩
 rw [htot]
 obtain ⟨bb, hbb⟩ : ∃ bb, decide (tot < 3000) = bb := ⟨_, rfl⟩
 rw [hbb]
 have A : Aside (ms.length = N ∧ N ≤ 9223372036854775807 ∧ Lm w a ms ∧ (∀ m ∈ ms, m.dt.length ≤ 140737488355328 ∧ m.ps.length ≤ 140737488355328) ∧ N + msz ms = tot) := ⟨hN, hNb, hm, hs, htot⟩
 have AB : Aside (decide (tot < 3000) = bb) := hbb
 clear hN hNb hm hs htot hbb
 go_enter Tryz.func21, Tryz.ntmps21
 go_wp2_with fail
 go_loopg [3, 4] N (fun gg s3 s4 wr => ∃ (n i : Nat), s3 = .int .i64 (n : Int) ∧ s4 = .int .i64 (i : Int) ∧ Aside (i + gg = N ∧ n + msz (ms.drop i) = tot ∧ n ≤ 9223372036854775807 ∧ Dn w wr))
 case atStart => exact ⟨N, 0, rfl, rfl, ⟨by omega, A.out.2.2.2.2, by have := A.out.2.1; omega, Dn.refl _⟩⟩
 case round =>
  obtain ⟨n, i, rfl, rfl, hT⟩ := hrel
  obtain ⟨hig, hsum, hnb, m0, hm0⟩ := hT.out
  have a0 := A.out
  by_cases hi : i < N
  ·have t1 : ((i : Int) < (N : Int)) = True := eq_true (by omega)
   have t2 : (i < N) = True := eq_true hi
   by_cases hn : n < 3000
   ·have t3 : ((n : Int) < 3000) = True := eq_true (by omega)
    have t4 : (n < 3000) = True := eq_true hn
    obtain ⟨m, hm⟩ : ∃ m, ms[i]? = some m := ⟨_, List.getElem?_eq_getElem (by omega)⟩
    obtain ⟨g, o, ea, ec, da, dc, pa, pc, rfl, hl⟩ := a0.2.2.1.at hm
    have hb := a0.2.2.2.1 m (List.mem_of_getElem? hm)
    obtain ⟨dl, hdl⟩ : ∃ dl, m.dt.length = dl := ⟨_, rfl⟩
    obtain ⟨pl, hpl⟩ : ∃ pl, m.ps.length = pl := ⟨_, rfl⟩
    have k3 : wr.cell? ⟨g, o + i * 5 + 3, none⟩ = some (.slice da dl dc) := by rw [hm0, ← hdl]; exact hl.c3
    have k4 : wr.cell? ⟨g, o + i * 5 + 4, none⟩ = some (.slice pa pl pc) := by rw [hm0, ← hpl]; exact hl.c4
    rw [hdl, hpl] at hb
    have b1 : (i : Int) + 1 ≤ 9223372036854775807 := by omega
    have b2 : (dl : Int) ≤ 140737488355328 := by omega
    have b3 : (pl : Int) ≤ 140737488355328 := by omega
    have b4 : (n : Int) < 3000 := by omega
    have AN : Aside (i + gk = N ∧ i < N ∧ n + (dl + 20 * pl) + msz (ms.drop (i + 1)) = tot ∧ n + (dl + 20 * pl) ≤ 9223372036854775807 ∧ Dn w wr) := ⟨hig, hi, by rw [msz_drop hm, hdl, hpl] at hsum; omega, by omega, m0, hm0⟩
    clear hT hig hsum hnb hm0 a0 hi hm hl hb hdl hpl hn
    go_upto_region 5 with fail
    go_quiet (fail)
    go_wp2_with fail
    obtain ⟨q1, q2, q3, q4, q5⟩ := AN.out
    go_roundg (gk - 1)
    case measure => omega
    case rel => exact ⟨n + (dl + 20 * pl), i + 1, by go_num, by go_num, ⟨by omega, q3, q4, q5.drewN _⟩⟩
   ·have t3 : ((n : Int) < 3000) = False := eq_false (by omega)
    have t4 : (n < 3000) = False := eq_false hn
    have e : bb = false := by rw [← AB.out]; exact decide_eq_false (by omega)
    subst e
    have AE : Aside (∃ k, wr = w.drewN k) := ⟨m0, hm0⟩
    clear hT hig hsum hnb hm0 a0 hi hn
    go_wp2_with fail
    first | go_ret | go_ret2
    exact ⟨rfl, AE.out⟩
  ·have t1 : ((i : Int) < (N : Int)) = False := eq_false (by omega)
   have t2 : (i < N) = False := eq_false hi
   have hd : ms.drop i = [] := List.drop_eq_nil_of_le (by omega)
   rw [hd] at hsum
   simp only [msz, Nat.add_zero] at hsum
   subst hsum
   have AE : Aside (∃ k, wr = w.drewN k) := ⟨m0, hm0⟩
   have bn : (n : Int) ≤ 9223372036854775807 := by omega
   clear hT hig hnb hm0 a0 hi hd A
   by_cases hn : n < 3000
   ·have t3 : ((n : Int) < 3000) = True := eq_true (by omega)
    have t4 : (n < 3000) = True := eq_true hn
    have e : bb = true := by rw [← AB.out]; exact decide_eq_true hn
    subst e
    clear hn
    go_wp2_with fail
    first | go_ret | go_ret2
    exact ⟨rfl, AE.out⟩
   ·have t3 : ((n : Int) < 3000) = False := eq_false (by omega)
    have t4 : (n < 3000) = False := eq_false hn
    have e : bb = false := by rw [← AB.out]; exact decide_eq_false hn
    subst e
    clear hn
    go_wp2_with fail
    first | go_ret | go_ret2
    exact ⟨rfl, AE.out⟩
structure Gl (w : World) (lo : Nat) (v : Value) (ls : List (List Nat)) : Prop where
 ex : ∃ vs : List Value, vs.length = ls.length ∧ Ow w lo 22 1 v ls.length vs ∧ ∀ (i : Nat) (x : Value) (l : List Nat), vs[i]? = some x → ls[i]? = some l → ∃ a1 c1, x = .slice a1 l.length c1 ∧ Sl w a1 l c1
theorem Gl.rl {w : World} {lo : Nat} {a : Option Addr} {n c : Nat} {ls : List (List Nat)} (h : Gl w lo (.slice a n c) ls) : Rl w a ls := by
 obtain ⟨vs, h1, h2, h3⟩ := h.ex
 obtain ⟨a2, c2, hv, _, h0 | ⟨g, hg, _, _, hx, _⟩, _⟩ := h2.shape
 ·exact Or.inl (List.eq_nil_of_length_eq_zero h0)
 ·cases hv
  refine Or.inr ⟨g, 0, hg, fun i l hl => ?_⟩
  have hi : i < vs.length := by have := (List.getElem?_eq_some_iff.1 hl).1; omega
  obtain ⟨x, hx'⟩ : ∃ x, vs[i]? = some x := ⟨_, List.getElem?_eq_getElem hi⟩
  obtain ⟨a1, c1, rfl, q⟩ := h3 i x l hx' hl
  exact ⟨a1, c1, by rw [Nat.zero_add]; exact hx i _ hx', q.1, q.2⟩
end Go.Proofs.YtogednaamndpgaaGreatDoor

/-
  What tar.Whole comes to.
-/
import Derived.Test.YtcmmjbkgoafbnaaDoorMk
namespace Go.Proofs.YtcmmjbkgoafbnaaDoor
open Go.RowKit
set_option linter.unusedVariables false
theorem ginfo9 : (Tryd.prog.info? 9).map (fun i => (i.zero, i.size, i.bytes)) = some (some (.string ⟨#[]⟩), 1, 16) := by kernel_rfl
theorem wr0_end {W lo2 y : Nat} {w wr w3 : World} {vn vl : Value} {ns ls : List (List Nat)} {R0 : List (List Nat) × List (List Nat)} (hn : Ns wr lo2 vn ns) (h1 : Ll wr lo2 vl ls) (h2 : Below w.heap.size w wr) (h3 : R0 = (ns, ls)) (hg : w.heap.size ≤ W ∧ W < lo2) (f : But W wr w3) : Wr0 R0 y w (.returned (.tuple #[vn, vl, .int .i64 (y : Int)])) w3 := by
  subst h3
  exact ⟨vn, vl, lo2, rfl, by omega, hn.butW f hg.2, h1.butW f hg.2, f.bel h2 hg.1⟩
set_option maxRecDepth 100000 in
set_option maxHeartbeats 8000000 in
theorem wwhole_c (w : World) (he : Er w) (aB : Option Addr) (bb : List Nat) (L C : Nat) (hB : Lies w aB bb) (hL : bb.length = L) (hLb : L ≤ 1000000000000) (ho : Oct bb) (k : Nat) (s : Ts) (T : List Gev) (hr : Rch bb k s T) (hk : s.why ≠ 0 ∨ k = L) (R0 : List (List Nat) × List (List Nat)) (hR : po2 [] [] (evx T) = R0) (y : Nat) (hy : zfin s = y) : Calls Tryd.prog 18 #[.slice aB L C] w fun e w' => Wr0 R0 y w e w' := by
  have kn := wz_new w he
  have hf := hr.rf ho
  have hkL : k ≤ L := by rw [← hL]; exact hr.1
  obtain ⟨W, hWW⟩ : ∃ W, w.heap.size = W := ⟨_, rfl⟩
  rw [hWW] at kn
  have AN : Aside (Rch bb k s T ∧ (s.why ≠ 0 ∨ k = L) ∧ zfin s = y ∧ Oct bb ∧ bb.length = L ∧ L ≤ 1000000000000 ∧ Lies w aB bb ∧ k ≤ L) := ⟨hr, hk, hy, ho, hL, hLb, hB, hkL⟩
  have AM0 : Aside (Ms [] [] L (evx T) R0) := ⟨hR, by simpa using hf.gd, hf.lt, by have := hf.no; simp; omega, fun l hl => by simp at hl, by have := hf.nb; omega, rfl⟩
  have AW0 : Aside (w.heap.size = W) := hWW
  clear he hr hk hy ho hL hLb hB hf hR hkL hWW
  go_enter Tryd.func18, Tryd.ntmps18
  go_upto_region 2 with (go_at_call 8; refine kn.mono ?_; rintro e1 w1 ⟨rfl, hz1, hb1⟩)
  obtain ⟨lo2, hlo2⟩ : ∃ lo2, w1.heap.size = lo2 := ⟨_, rfl⟩
  have hgeo : w.heap.size ≤ W ∧ W < lo2 := ⟨Nat.le_of_eq AW0.out, by rw [← hlo2]; exact hz1.lt⟩
  have A1 : Aside (Wz w1 W t0 [] ∧ Below w.heap.size w w1 ∧ w1.heap.size = lo2) := ⟨hz1, by rw [AW0.out]; exact hb1, hlo2⟩
  have AG : Aside (w.heap.size ≤ W ∧ W < lo2) := hgeo
  clear kn hz1 hb1 hlo2 hgeo
  go_wp2_with fail
  go_loopg [2, 3, 14] L (fun gg s2 s3 s14 wr => ∃ (i n c c' : Nat) (ax ay : Option Addr), s2 = .slice ax n c ∧ s3 = .slice ay n c' ∧ s14 = .int .i64 (i : Int) ∧ Aside (∃ ns ls si Ti fut, Wz wr W si [] ∧ Ns wr lo2 (.slice ax n c) ns ∧ Ll wr lo2 (.slice ay n c') ls ∧ Below w.heap.size w wr ∧ Rch bb i si Ti ∧ evx T = evx Ti ++ fut ∧ Ms ns ls L fut R0 ∧ i ≤ k ∧ n = ls.length ∧ gg = L - i))
  case atStart =>
    exact ⟨0, 0, 0, 0, none, none, rfl, rfl, rfl, ⟨[], [], t0, [], evx T, A1.out.1, Ns.nil (by rw [A1.out.2.2]; exact Nat.le_refl _), Ll.nil (by rw [A1.out.2.2]; exact Nat.le_refl _), A1.out.2.1, rch_zero bb, rfl, AM0.out, Nat.zero_le _, rfl, by simp⟩⟩
  case round =>
    clear A1 AM0
    obtain ⟨i, n, c, c', ax, ay, rfl, rfl, rfl, hT⟩ := hrel
    obtain ⟨ns, ls, si, Ti, fut, hz, hnn, hll, hbel, hri, hTf, hms, hik, hnl, hgk⟩ := hT.out
    have an := AN.out
    by_cases hiL : i < L
    · have t1 : ((i : Int) < (L : Int)) = True := eq_true (by omega)
      have t2 : (i < L) = True := eq_true hiL
      obtain ⟨x, hx⟩ : ∃ x, bb[i]? = some x := ⟨_, List.getElem?_eq_getElem (by rw [an.2.2.2.2.1]; exact hiL)⟩
      have hxb := an.2.2.2.1 x (List.mem_of_getElem? hx)
      have hlies := an.2.2.2.2.2.2.1.below hbel
      obtain ⟨g0, o0, haB, hcell⟩ : ∃ g0 o0, aB = some ⟨g0, o0, none⟩ ∧ wr.cell? ⟨g0, o0 + i, none⟩ = some (.int .u8 (x : Int)) := by
        rcases hlies with h5 | ⟨g0, o0, h5, h6⟩
        · rw [h5] at hx; simp at hx
        · exact ⟨g0, o0, h5, h6 i x hx⟩
      subst haB
      have bi : (i : Int) < 2000000000000 := by have := an.2.2.2.2.2.1; omega
      by_cases hikk : i = k
      · subst hikk
        obtain ⟨rfl, rfl⟩ := an.1.det hri
        have hfut : fut = [] := by
          have := congrArg List.length hTf
          rw [List.length_append] at this
          exact List.eq_nil_of_length_eq_zero (by omega)
        subst hfut
        have hw0 : s.why ≠ 0 := by rcases an.2.1 with q | q; exact q; omega
        have kp := wz_put_no x wr hz (Or.inr hw0)
        have kE := wz_end wr hz
        rw [an.2.2.1] at kE
        have A9 : Aside (Ns wr lo2 (.slice ax n c) ns ∧ Ll wr lo2 (.slice ay n c') ls ∧ Below w.heap.size w wr ∧ R0 = (ns, ls)) := ⟨hnn, hll, hbel, hms.nil⟩
        clear hT hz hnn hll hbel hri hTf hms hik hnl hgk an hx hxb hlies hw0 hiL
        go_wp2_with (first
          | (go_at_call 9; refine kp.mono ?_; rintro e2 w2 ⟨rfl, rfl⟩)
          | (go_at_call 14; refine kE.mono ?_; rintro e3 w3 ⟨rfl, ⟨s2, v2, h3, hs2, _, _⟩, f3⟩; have hrs := reason_c w3 h3; rw [hs2] at hrs)
          | (go_at_call 13; refine hrs.mono ?_; rintro e4 w4 ⟨rfl, rfl⟩))
        go_ret3
        obtain ⟨a0, a1, a2, a3⟩ := A9.out
        exact wr0_end a0 a1 a2 a3 AG.out f3
      · obtain ⟨h0, x', s1, E, T2, hx', hsp, hr1, hTT, _⟩ := an.1.at hri (by omega)
        obtain rfl : x = x' := Option.some.inj (hx.symm.trans hx')
        have hfut : fut = E ++ evx T2 := by
          rw [hTT, evx_append, evx_append, evx_evs, List.append_assoc] at hTf
          exact (List.append_cancel_left hTf).symm
        have kp := wz_put x hxb wr hz h0 hsp
        obtain ⟨fut2, hfut2⟩ : ∃ fut2, evx T2 = fut2 := ⟨_, rfl⟩
        have A5 : Aside (Ns wr lo2 (.slice ax n c) ns ∧ Ll wr lo2 (.slice ay n c') ls ∧ Below w.heap.size w wr ∧ Ms ns ls L (E ++ fut2) R0 ∧ n = ls.length ∧ gk = L - i ∧ Rch bb (i + 1) s1 (Ti ++ evs i E) ∧ evx T = evx (Ti ++ evs i E) ++ fut2 ∧ i < k ∧ i < L) := ⟨hnn, hll, hbel, by rw [← hfut2, ← hfut]; exact hms, hnl, hgk, hr1, by rw [hTT, evx_append, hfut2], by omega, hiL⟩
        clear hT hz hnn hll hbel hri hTf hms hik hnl hgk an hx hx' hxb hlies hikk h0 hsp hr1 hTT hfut hfut2 hiL
        go_upto_region 6 with (go_at_call 9; refine kp.mono ?_; rintro e2 w2 ⟨rfl, hz2, f2⟩)
        clear kp hcell
        obtain ⟨ek, eb, en, nm, ok, rem, hn, hc⟩ := next_all hz2
        have A6 : Aside (But W wr w2 ∧ ((ok = false ∧ E = [] ∧ rem = []) ∨ (ok = true ∧ ∃ g : Evn, ek = gk1 g.1 ∧ eb = gk2 g.1 ∧ nm = g.2 ∧ E = g :: rem))) := ⟨f2, hc⟩
        clear hz2 f2 hc
        go_upto_region 7 with (go_at_call 15; refine hn.mono ?_; rintro e3 w3 ⟨rfl, hz3, f3⟩)
        clear hn
        obtain ⟨E0, hE0⟩ : ∃ E0, w3.heap.size = E0 := ⟨_, rfl⟩
        obtain ⟨w4, hw4⟩ : ∃ w4, w3.alloc (.cells #[.int .i64 ek, .int .u8 eb, .int .i64 en, .int .i64 0, .string (st nm)] 36) = w4 := ⟨_, rfl⟩
        rw [hw4, hE0]
        have gq : Gq W lo2 E0 w w4 ek eb en nm ok (.slice ax n c) (.slice ay n c') ns ls s1 rem L fut2 R0 := by
          obtain ⟨b0, b1, b2, b3, b4, b5, b6, b7, b8, b9⟩ := A5.out
          have fw3 := A6.out.1.trans f3
          have geo := AG.out
          have bA : Below w3.heap.size w3 w4 := by rw [← hw4]; exact (Below.refl _ w3).alloc (Nat.le_refl _) _
          have l3 := b1.butW fw3 geo.2
          have bel3 := fw3.bel b2 geo.1
          refine ⟨hz3.below bA (Nat.le_refl _), (b0.butW fw3 geo.2).below bA (Nat.le_refl _), l3.below bA (Nat.le_refl _), by rw [← hw4, ← hE0]; exact Cells.new w3 _ 36, bel3.trans (bA.mono bel3.size), by rw [← hE0]; exact l3.le, geo, ?_⟩
          rcases A6.out.2 with ⟨h1, h2, h3⟩ | ⟨h1, g, h2, h3, h4, h5⟩
          · rw [h2] at b3
            exact Or.inl ⟨h1, h3, b3⟩
          · rw [h5] at b3
            exact Or.inr ⟨h1, g, h2, h3, h4, b3⟩
        have AQ : Aside (Gq W lo2 E0 w w4 ek eb en nm ok (.slice ax n c) (.slice ay n c') ns ls s1 rem L fut2 R0 ∧ n = ls.length) := ⟨gq, A5.out.2.2.2.2.1⟩
        have A7 : Aside (gk = L - i ∧ Rch bb (i + 1) s1 (Ti ++ evs i E) ∧ evx T = evx (Ti ++ evs i E) ++ fut2 ∧ i < k ∧ i < L) := ⟨A5.out.2.2.2.2.2.1, A5.out.2.2.2.2.2.2.1, A5.out.2.2.2.2.2.2.2.1, A5.out.2.2.2.2.2.2.2.2.1, A5.out.2.2.2.2.2.2.2.2.2⟩
        obtain ⟨gk0, hgk0⟩ : ∃ gk0, gk = gk0 := ⟨_, rfl⟩
        have AK : Aside (gk = gk0) := hgk0
        clear gq hz3 f3 hE0 hw4 A5 A6
        (try go_wp2_with fail)
        go_loopg [2, 3, 8, 9] (rem.length + ok.toNat) (fun gg s2 s3 s8 s9 wr => ∃ (E : Nat) (ok : Bool) (n c c' : Nat) (ax ay : Option Addr), s2 = .slice ax n c ∧ s3 = .slice ay n c' ∧ s8 = .pointer (some ⟨E, 0, none⟩) ∧ s9 = .bool ok ∧ Aside (∃ ek eb en nm ns ls rem, Gq W lo2 E w wr ek eb en nm ok (.slice ax n c) (.slice ay n c') ns ls s1 rem L fut2 R0 ∧ gg = rem.length + ok.toNat ∧ n = ls.length))
        case atStart => exact ⟨E0, ok, n, c, c', ax, ay, rfl, rfl, rfl, rfl, ⟨ek, eb, en, nm, ns, ls, rem, AQ.out.1, rfl, AQ.out.2⟩⟩
        case round =>
          have A8 : Aside (gk0 = L - i ∧ Rch bb (i + 1) s1 (Ti ++ evs i E) ∧ evx T = evx (Ti ++ evs i E) ++ fut2 ∧ i < k ∧ i < L) := by rw [← hgk0]; exact A7.out
          clear AQ A7 hgk0
          obtain ⟨E1, ok, n, c, c', ax, ay, rfl, rfl, rfl, rfl, hT⟩ := hrel
          obtain ⟨ek, eb, en, nm, ns, ls, rem, gs, hgk, hnl⟩ := hT.out
          cases ok with
          | false =>
            have hst : rem = [] ∧ Ms ns ls L fut2 R0 := by
              rcases gs.st with ⟨_, h⟩ | ⟨h1, _⟩
              · exact h
              · cases h1
            have A9 : Aside (Wz wr W s1 [] ∧ Ns wr lo2 (.slice ax n c) ns ∧ Ll wr lo2 (.slice ay n c') ls ∧ Below w.heap.size w wr ∧ Ms ns ls L fut2 R0 ∧ n = ls.length) := ⟨by rw [← hst.1]; exact gs.wz, gs.nn, gs.ll, gs.bel, hst.2, hnl⟩
            clear hT gs hgk hnl hst
            go_wp2_with fail
            obtain ⟨a1, a0, a2, a3, a4, a6⟩ := A9.out
            obtain ⟨c1, c3, c4, c5, c7⟩ := A8.out
            have ak := AK.out
            go_roundg (L - (i + 1))
            case measure => omega
            case rel => exact ⟨i + 1, n, c, c', ax, ay, rfl, rfl, by push_cast; rfl, ⟨ns, ls, s1, Ti ++ evs i E, fut2, a1, a0, a2, a3, c3, c4, a4, by omega, a6, rfl⟩⟩
          | true =>
            obtain ⟨g, hek, heb, hnm, hMs⟩ : ∃ g : Evn, ek = gk1 g.1 ∧ eb = gk2 g.1 ∧ nm = g.2 ∧ Ms ns ls L (g :: (rem ++ fut2)) R0 := by
              rcases gs.st with ⟨h1, _⟩ | ⟨_, h⟩
              · cases h1
              · exact h
            have hg258 := hMs.lt g (by simp)
            have hLb : L ≤ 1000000000000 := AN.out.2.2.2.2.2.1
            have c0' := gs.ev.cell 0
            have c1' := gs.ev.cell 1
            have c4' := gs.ev.cell 4
            by_cases h256 : g.1 = 256
            · have ek1 : ek = 1 := by rw [hek, h256]; rfl
              subst ek1
              have hn2 : ns.length = n := by rw [hMs.eqn, hnl]
              obtain ⟨H, hH⟩ : ∃ H, wr.heap.size = H := ⟨_, rfl⟩
              have bA : Below wr.heap.size wr (wr.alloc (.cells #[.string (st nm)] 9)) := (Below.refl _ wr).alloc (Nat.le_refl _) _
              have howN : Ow (wr.alloc (.cells #[.string (st nm)] 9)) lo2 9 1 (.slice ax n c) n (sv ns) := by
                have := gs.nn.below bA (Nat.le_refl _)
                unfold Ns at this
                rw [hn2] at this
                exact this
              have hcN : (wr.alloc (.cells #[.string (st nm)] 9)).cell? ⟨H, 0, none⟩ = some (.string (st nm)) := by rw [← hH, (Cells.new wr #[.string (st nm)] 9).cell 0]; rfl
              have hlN : ([.string (st nm)] : List Value) = [] ∨ ∃ b o, (some ⟨H, 0, none⟩ : Option Addr) = some ⟨b, o, none⟩ ∧ ∀ i u, ([.string (st nm)] : List Value)[i]? = some u → (wr.alloc (.cells #[.string (st nm)] 9)).cell? ⟨b, o + i, none⟩ = some u := Or.inr ⟨H, 0, rfl, fun i u hu => by
                cases i with
                | zero => simp at hu; rw [← hu]; exact hcN
                | succ i => simp at hu⟩
              have h1N : ∀ u ∈ ([.string (st nm)] : List Value), u.oneCell' = true := fun u hu => by simp at hu; subst hu; rfl
              obtain ⟨i9, hi9, hy0, hy1, hy2⟩ := ginfo_parts ginfo9
              have hnb : n + 1 ≤ L := by have := hMs.no; simp only [nop, h256, if_true] at this; omega
              have hAm : Aside (n + 1 ≤ maxLen ∧ (n + 1) * 16 ≤ 140737488355328 ∧ (n + 1) * 24 ≤ 140737488355328) := ⟨by unfold maxLen; omega, by omega, by omega⟩
              have AS : Aside (Gq W lo2 E1 w wr 1 eb en nm true (.slice ax n c) (.slice ay n c') ns ls s1 rem L fut2 R0 ∧ Ms (ns ++ [g.2]) (ls ++ [[]]) L (rem ++ fut2) R0 ∧ gk = rem.length + true.toNat ∧ n = ls.length ∧ nm = g.2 ∧ ns.length = n ∧ wr.heap.size = H) := ⟨gs, hMs.open_ h256, hgk, hnl, hnm, hn2, hH⟩
              clear hT gs hgk hMs hek heb hg258 bA hcN hnl hnm hn2 hnb h256
              go_upto_region 12 with (at_builtin; refine wpList_ow Tryd.prog _ rfl (.tmp 37) (.tmp 40) 43 rfl 9 i9 _ 1 16 Tryd.underlying43 hi9 hy0 hy1 hy2 rfl (by decide) lo2 (.slice ax n c) n _ (by rfl) howN (some ⟨H, 0, none⟩) [.string (st nm)] 1 1 rfl (by rfl) (by intro h; cases h) hlN h1N hAm.out.1 hAm.out.2.1 ?_; intro v4 w4 hg4; obtain ⟨a4, c4, hv4, _⟩ := hg4.ow.shape; subst hv4)
              have ax0 := AS.out
              have gs := ax0.1
              have bA : Below wr.heap.size wr (wr.alloc (.cells #[.string (st nm)] 9)) := (Below.refl _ wr).alloc (Nat.le_refl _) _
              have geo := gs.geo
              have ll4 : Ll w4 lo2 (.slice ay n c') ls := (gs.ll.below bA (Nat.le_refl _)).got9 hg4
              have wz4 : Wz w4 W s1 rem := (gs.wz.below bA (Nat.le_refl _)).low hg4.bel geo.2
              have ev4 : Cells w4 E1 #[.int .i64 1, .int .u8 eb, .int .i64 en, .int .i64 0, .string (st nm)] 36 := (gs.ev.alloc _).got hg4 (by decide)
              have bel4 : Below w.heap.size w w4 := (gs.bel.trans (bA.mono gs.bel.size)).trans (hg4.bel.mono (by omega))
              have nn4 : Ns w4 lo2 (.slice a4 (n + 1) c4) (ns ++ [nm]) := by
                unfold Ns
                rw [List.length_append, List.length_singleton, ax0.2.2.2.2.2.1, sv_append]
                exact hg4.ow
              obtain ⟨vs, hv1, hv2, hv3, hv4⟩ := ll4.ex
              obtain ⟨H4, hH4⟩ : ∃ H4, w4.heap.size = H4 := ⟨_, rfl⟩
              have bB : Below w4.heap.size w4 (w4.alloc (.cells #[.slice none 0 0] 22)) := (Below.refl _ w4).alloc (Nat.le_refl _) _
              have howA := hv2.below bB (Nat.le_refl _)
              rw [← ax0.2.2.2.1] at howA
              have hlA := ll4.below bB (Nat.le_refl _)
              have hcA : (w4.alloc (.cells #[.slice none 0 0] 22)).cell? ⟨H4, 0, none⟩ = some (.slice none 0 0) := by rw [← hH4, (Cells.new w4 #[.slice none 0 0] 22).cell 0]; rfl
              have hlz : ([.slice none 0 0] : List Value) = [] ∨ ∃ b o, (some ⟨H4, 0, none⟩ : Option Addr) = some ⟨b, o, none⟩ ∧ ∀ i u, ([.slice none 0 0] : List Value)[i]? = some u → (w4.alloc (.cells #[.slice none 0 0] 22)).cell? ⟨b, o + i, none⟩ = some u := Or.inr ⟨H4, 0, rfl, fun i u hu => by
                cases i with
                | zero => simp at hu; rw [← hu]; exact hcA
                | succ i => simp at hu⟩
              have h1c : ∀ u ∈ ([.slice none 0 0] : List Value), u.oneCell' = true := fun u hu => by simp at hu; subst hu; rfl
              obtain ⟨i0, hi0, hz0, hz1, hz2⟩ := ginfo_parts ginfo22
              obtain ⟨lsx, hlsx⟩ : ∃ lsx, lsx = ls ++ [[]] := ⟨_, rfl⟩
              obtain ⟨nsx, hnsx⟩ : ∃ nsx, nsx = ns ++ [nm] := ⟨_, rfl⟩
              have hT0 : ∀ (a5 : Option Addr) (c5 : Nat) (w5 : World), Got lo2 22 1 (w4.alloc (.cells #[.slice none 0 0] 22)) w5 (.slice ay n c') (.slice a5 (n + 1) c5) (n + 1) (vs ++ [.slice none 0 0]) → Aside (Gu W lo2 w w5 (.slice a4 (n + 1) c4) (.slice a5 (n + 1) c5) nsx lsx s1 rem L fut2 R0 ∧ Cells w5 E1 #[.int .i64 1, .int .u8 eb, .int .i64 en, .int .i64 0, .string (st nm)] 36 ∧ gk = rem.length + true.toNat ∧ (n + 1) = lsx.length) := fun a5 c5 w5 hgot => by
                refine ⟨⟨(wz4.below bB (Nat.le_refl _)).low hgot.bel geo.2, ?_, ?_, (bel4.trans (bB.mono bel4.size)).trans (hgot.bel.mono (by omega)), geo, ?_⟩, (ev4.alloc _).got hgot (by decide), ax0.2.2.1, ?_⟩
                · rw [hnsx]; exact (nn4.below bB (Nat.le_refl _)).got hgot (by decide)
                · rw [hlsx]
                  have hlA2 := hlA
                  rw [ax0.2.2.2.1] at hgot hlA2 ⊢
                  exact hlA2.open_ vs hgot hv1 (fun i a l h5 h6 => (hv3 i a l h5 h6).below bB (Nat.le_refl _))
                · rw [hnsx, hlsx, ax0.2.2.2.2.1]; exact ax0.2.1
                · rw [hlsx, ax0.2.2.2.1]; simp
              have AT : Aside _ := hT0
              clear hg4 howN hlN h1N hi9 hy0 hy1 hy2 hv1 hv2 hv3 hv4 bA bB hlA hcA hlsx hnsx hT0 ax0 gs geo ll4 wz4 ev4 bel4 nn4 AS
              go_upto_region 16 with (at_builtin; refine wpList_ow Tryd.prog _ rfl (.tmp 42) (.tmp 43) 44 rfl 22 i0 _ 1 24 Tryd.underlying44 hi0 hz0 hz1 hz2 rfl (by decide) lo2 (.slice ay n c') n _ (by rfl) howA (some ⟨H4, 0, none⟩) [.slice none 0 0] 1 1 rfl (by rfl) (by intro h; cases h) hlz h1c hAm.out.1 hAm.out.2.2 ?_; intro v5 w5 hgot; obtain ⟨a5, c5, hv5, _⟩ := hgot.ow.shape; subst hv5)
              have T0 := AT.out a5 c5 w5 hgot
              clear hgot howA hlz h1c hi0 hz0 hz1 hz2 hH hH4 c0' c1' c4'
              have t0 := T0.out
              obtain ⟨E2, hE2⟩ : ∃ E2, w5.heap.size = E2 := ⟨_, rfl⟩
              obtain ⟨wa, hwa⟩ : ∃ wa, w5.alloc (.cells #[.int .i64 1, .int .u8 eb, .int .i64 en, .int .i64 0, .string (st nm)] 36) = wa := ⟨_, rfl⟩
              have d0 := t0.2.1.cell 0
              have d1 := t0.2.1.cell 1
              have d2 := t0.2.1.cell 2
              have d3 := t0.2.1.cell 3
              have d4 := t0.2.1.cell 4
              obtain ⟨ek2, eb2, en2, nm2, ok2, rem2, hn2, hc2⟩ := next_all (t0.1.wz.below (u := wa) (by rw [← hwa]; exact (Below.refl _ w5).alloc (Nat.le_refl _) _) (Nat.le_refl _))
              have hfin : ∀ w7, Wz w7 W s1 rem2 → But W wa w7 → Cells w7 E2 #[.int .i64 1, .int .u8 eb, .int .i64 en, .int .i64 0, .string (st nm)] 36 ∧ Gq W lo2 E2 w (((((w7.setCell ⟨E2, 0, none⟩ (.int .i64 ek2)).setCell ⟨E2, 1, none⟩ (.int .u8 eb2)).setCell ⟨E2, 2, none⟩ (.int .i64 en2)).setCell ⟨E2, 3, none⟩ (.int .i64 0)).setCell ⟨E2, 4, none⟩ (.string (st nm2))) ek2 eb2 en2 nm2 ok2 (.slice a4 (n + 1) c4) (.slice a5 (n + 1) c5) nsx lsx s1 rem2 L fut2 R0 := fun w7 k7 b7 => by
                rw [← hwa] at b7
                exact t0.1.next hE2 k7 b7 hc2
              have AF : Aside _ := hfin
              have hmeas : rem2.length + ok2.toNat < gk := by
                rw [t0.2.2.1]
                rcases hc2 with ⟨h1, h2, h3⟩ | ⟨h1, g', _, _, _, h4⟩
                · rw [h1, h3]; simp
                · rw [h1, h4]; simp
              have AM : Aside (rem2.length + ok2.toNat < gk ∧ ((n + 1)) = (lsx).length) := ⟨hmeas, t0.2.2.2⟩
              have AWa : Aside _ := hwa
              clear t0 hc2 hfin hmeas hwa
              go_upto_region 8 with fail
              rw [AWa.out]
              clear hE2 d0 d1 d2 d3 d4
              go_wp2_with (go_at_call 15; refine hn2.mono ?_; rintro e7 w7 ⟨rfl, k7, b7⟩; have kk := (AF.out w7 k7 b7).1; have g0 := kk.cell 0; have g1 := kk.cell 1; have g2 := kk.cell 2; have g3 := kk.cell 3; have g4 := kk.cell 4; have z0 := kk.frozen 0; have z1 := kk.frozen 1; have z2 := kk.frozen 2; have z3 := kk.frozen 3; have z4 := kk.frozen 4)
              have am := AM.out
              go_roundg (rem2.length + ok2.toNat)
              case measure => exact am.1
              case rel => exact ⟨E2, ok2, (n + 1), _, _, _, _, rfl, rfl, rfl, rfl, ⟨ek2, eb2, en2, nm2, nsx, lsx, rem2, (AF.out w7 k7 b7).2, rfl, am.2⟩⟩
            · by_cases h257 : g.1 = 257
              · have ek3 : ek = 3 := by rw [hek, h257]; rfl
                subst ek3
                obtain ⟨lsx, hlsx⟩ : ∃ lsx, lsx = ls := ⟨_, rfl⟩
                subst hlsx
                obtain ⟨nsx, hnsx⟩ : ∃ nsx, nsx = ns := ⟨_, rfl⟩
                subst hnsx
                have T0 : Aside (Gu W lo2 w wr (.slice ax n c) (.slice ay n c') nsx lsx s1 rem L fut2 R0 ∧ Cells wr E1 #[.int .i64 3, .int .u8 eb, .int .i64 en, .int .i64 0, .string (st nm)] 36 ∧ gk = rem.length + true.toNat ∧ n = lsx.length) := ⟨⟨gs.wz, gs.nn, gs.ll, gs.bel, gs.geo, hMs.close h257⟩, gs.ev, hgk, hnl⟩
                clear hT gs hgk hnl hMs hek heb hg258 h256 h257 hnm
                go_upto_region 16 with fail
                clear c0' c1' c4'
                have t0 := T0.out
                obtain ⟨E2, hE2⟩ : ∃ E2, wr.heap.size = E2 := ⟨_, rfl⟩
                obtain ⟨wa, hwa⟩ : ∃ wa, wr.alloc (.cells #[.int .i64 3, .int .u8 eb, .int .i64 en, .int .i64 0, .string (st nm)] 36) = wa := ⟨_, rfl⟩
                have d0 := t0.2.1.cell 0
                have d1 := t0.2.1.cell 1
                have d2 := t0.2.1.cell 2
                have d3 := t0.2.1.cell 3
                have d4 := t0.2.1.cell 4
                obtain ⟨ek2, eb2, en2, nm2, ok2, rem2, hn2, hc2⟩ := next_all (t0.1.wz.below (u := wa) (by rw [← hwa]; exact (Below.refl _ wr).alloc (Nat.le_refl _) _) (Nat.le_refl _))
                have hfin : ∀ w7, Wz w7 W s1 rem2 → But W wa w7 → Cells w7 E2 #[.int .i64 3, .int .u8 eb, .int .i64 en, .int .i64 0, .string (st nm)] 36 ∧ Gq W lo2 E2 w (((((w7.setCell ⟨E2, 0, none⟩ (.int .i64 ek2)).setCell ⟨E2, 1, none⟩ (.int .u8 eb2)).setCell ⟨E2, 2, none⟩ (.int .i64 en2)).setCell ⟨E2, 3, none⟩ (.int .i64 0)).setCell ⟨E2, 4, none⟩ (.string (st nm2))) ek2 eb2 en2 nm2 ok2 (.slice ax n c) (.slice ay n c') nsx lsx s1 rem2 L fut2 R0 := fun w7 k7 b7 => by
                  rw [← hwa] at b7
                  exact t0.1.next hE2 k7 b7 hc2
                have AF : Aside _ := hfin
                have hmeas : rem2.length + ok2.toNat < gk := by
                  rw [t0.2.2.1]
                  rcases hc2 with ⟨h1, h2, h3⟩ | ⟨h1, g', _, _, _, h4⟩
                  · rw [h1, h3]; simp
                  · rw [h1, h4]; simp
                have AM : Aside (rem2.length + ok2.toNat < gk ∧ (n) = (lsx).length) := ⟨hmeas, t0.2.2.2⟩
                have AWa : Aside _ := hwa
                clear t0 hc2 hfin hmeas hwa
                go_upto_region 8 with fail
                rw [AWa.out]
                clear hE2 d0 d1 d2 d3 d4
                go_wp2_with (go_at_call 15; refine hn2.mono ?_; rintro e7 w7 ⟨rfl, k7, b7⟩; have kk := (AF.out w7 k7 b7).1; have g0 := kk.cell 0; have g1 := kk.cell 1; have g2 := kk.cell 2; have g3 := kk.cell 3; have g4 := kk.cell 4; have z0 := kk.frozen 0; have z1 := kk.frozen 1; have z2 := kk.frozen 2; have z3 := kk.frozen 3; have z4 := kk.frozen 4)
                have am := AM.out
                go_roundg (rem2.length + ok2.toNat)
                case measure => exact am.1
                case rel => exact ⟨E2, ok2, n, _, _, _, _, rfl, rfl, rfl, rfl, ⟨ek2, eb2, en2, nm2, nsx, lsx, rem2, (AF.out w7 k7 b7).2, rfl, am.2⟩⟩
              · have hgb : g.1 < 256 := by omega
                obtain ⟨gg, hgg⟩ : ∃ gg, g.1 = gg := ⟨_, rfl⟩
                have ekk : ek = 2 := by rw [hek]; unfold gk1; rw [if_neg h256, if_neg h257]
                have ebb : eb = (gg : Int) := by rw [heb, ← hgg]; unfold gk2; rw [if_pos hgb]
                subst ekk
                subst ebb
                have hne := hMs.ne hgb
                obtain ⟨m, hm⟩ : ∃ m, n = m + 1 := ⟨n - 1, by have := List.length_pos_iff.2 hne; omega⟩
                subst hm
                obtain ⟨l, hl⟩ : ∃ l, ls[m]? = some l := ⟨_, List.getElem?_eq_getElem (by omega)⟩
                obtain ⟨vs, hv1, hv2, hv3, hv4⟩ := gs.ll.ex
                rw [← hnl] at hv1 hv2
                obtain ⟨av, hav⟩ : ∃ av, vs[m]? = some av := ⟨_, List.getElem?_eq_getElem (by omega)⟩
                have hsh := hv2.shape
                obtain ⟨a9, c9, h9, _, h10 | ⟨gb, h10, hgblo, ⟨cgb, hcgb⟩, h11, h12⟩, _⟩ := hsh
                · omega
                cases h9
                subst h10
                have cel := h11 m av hav
                have fel := h12 m
                have hoi := hv3 m av l hav hl
                obtain ⟨a6, c6, hv6, _⟩ := hoi.shape
                obtain ⟨k6, hk6⟩ : ∃ k6, l.length = k6 := ⟨_, rfl⟩
                rw [hk6] at hv6 hoi
                subst hv6
                obtain ⟨H, hH⟩ : ∃ H, wr.heap.size = H := ⟨_, rfl⟩
                obtain ⟨wA, hwA⟩ : ∃ wA, (wr.alloc (.cells #[.int .u8 (gg : Int)] 5)).drew = wA := ⟨_, rfl⟩
                have bA : Below wr.heap.size wr wA := by rw [← hwA]; exact ((Below.refl _ wr).alloc (Nat.le_refl _) _).drew
                have hoiA := hoi.below bA (Nat.le_refl _)
                have hbyteA : wA.cell? ⟨H, 0, none⟩ = some (.int .u8 (gg : Int)) := by rw [← hwA, ← hH]; exact ((Cells.new wr #[.int .u8 (gg : Int)] 5).drew).cell 0
                have celA : (wr.alloc (.cells #[.int .u8 (gg : Int)] 5)).cell? ⟨gb, m, none⟩ = some (.slice a6 k6 c6) := by
                  have hlt : gb < wr.heap.size := (Array.getElem?_eq_some_iff.1 hcgb).1
                  have := (((Below.refl _ wr).alloc (Nat.le_refl _) (.cells #[.int .u8 (gg : Int)] 5)).cell (p := ⟨gb, m, none⟩) hlt)
                  rw [this]; exact cel
                have c1A : (wr.alloc (.cells #[.int .u8 (gg : Int)] 5)).cell? ⟨E1, 1, none⟩ = some (.int .u8 (gg : Int)) := by rw [(gs.ev.alloc _).cell]; rfl
                have hlen9 := hMs.each l (List.mem_of_getElem? hl)
                have hAm : Aside (k6 + 1 ≤ 140737488355328 ∧ l.length = k6) := ⟨by omega, hk6⟩
                obtain ⟨lsx, hlsx⟩ : ∃ lsx, lsx = ls.dropLast ++ [l ++ [gg]] := ⟨_, rfl⟩
                obtain ⟨nsx, hnsx⟩ : ∃ nsx, nsx = ns := ⟨_, rfl⟩
                subst hnsx
                have hlastl : ls.getLastD [] = l := by
                  rw [List.getLastD_eq_getLast?, List.getLast?_eq_getElem?, ← hnl, Nat.add_sub_cancel, hl]; rfl
                have hT0 : ∀ (g5 c5 : Nat) (w5 : World), Gob lo2 wA w5 (.slice a6 k6 c6) (.slice (some ⟨g5, 0, none⟩) (k6 + 1) c5) (k6 + 1) (l ++ [gg]) → (w5.cell? ⟨gb, m, none⟩ = some (.slice a6 k6 c6) ∧ w5.frozen? ⟨gb, m, none⟩ = false) ∧ Aside (Gu W lo2 w (w5.setCell ⟨gb, m, none⟩ (.slice (some ⟨g5, 0, none⟩) (k6 + 1) c5)) (.slice ax (m + 1) c) (.slice (some ⟨gb, 0, none⟩) (m + 1) c') nsx lsx s1 rem L fut2 R0 ∧ Cells (w5.setCell ⟨gb, m, none⟩ (.slice (some ⟨g5, 0, none⟩) (k6 + 1) c5)) E1 #[.int .i64 2, .int .u8 (gg : Int), .int .i64 en, .int .i64 0, .string (st nm)] 36 ∧ gk = rem.length + true.toNat ∧ (m + 1) = lsx.length) := fun g5 c5 w5 hgob => by
                  have hv2A := hv2.below bA (Nat.le_refl _)
                  have hv2u := hv2A.got hgob.got (by decide)
                  have hcg5 : ∃ cs, w5.heap[gb]? = some (.cells cs 22 (0, 0)) := by
                    rcases hv2u.own.2 with ⟨hv, h0⟩ | ⟨g', c', cur, hv, hg, hh, _⟩
                    · cases hv
                    · cases hv; exact ⟨_, hh⟩
                  obtain ⟨cg, hcg⟩ := hcg5
                  obtain ⟨a9, c9, h9, _, h10 | ⟨gb', h10, _, _, h11', h12'⟩, _⟩ := hv2u.shape
                  · omega
                  cases h9
                  cases h10
                  have geo := gs.geo
                  have o6 : Only gb w5 (w5.setCell ⟨gb, m, none⟩ (.slice (some ⟨g5, 0, none⟩) (k6 + 1) c5)) := (Only.refl gb w5).setCell _ _
                  have wz5 := (gs.wz.below bA (Nat.le_refl _)).low hgob.got.bel geo.2
                  have hE5 := (gs.ev.below bA gs.ev.lt).got hgob.got (by decide)
                  have hEne : E1 ≠ gb := fun e => by subst e; unfold Cells at hE5; rw [hE5] at hcg; cases hcg
                  refine ⟨⟨h11' m _ hav, h12' m⟩, ⟨wz5.low (o6.below (Nat.le_refl _)) (by omega), ?_, ?_, ((gs.bel.trans (bA.mono gs.bel.size)).trans (hgob.got.bel.mono (by omega))).trans (o6.below (by omega)), geo, ?_⟩, hE5.only o6 hEne, hgk, ?_⟩
                  · exact ((gs.nn.below bA (Nat.le_refl _)).got hgob.got (by decide)).only o6 (cs := cg) (t := 22) hcg (by decide)
                  · rw [hlsx]
                    have hllA := gs.ll.below bA (Nat.le_refl _)
                    have hg2 : Gob lo2 wA w5 (.slice a6 k6 c6) (.slice (some ⟨g5, 0, none⟩) (k6 + 1) c5) (l.length + 1) (l ++ [gg]) := by rw [hk6]; exact hgob
                    exact Ll.byte hllA hnl.symm hv1 hl hv2A (fun i a l' h5 h6 => (hv3 i a l' h5 h6).below bA (Nat.le_refl _)) hv4 hav hg2 rfl
                  · rw [hlsx, ← hgg]; exact hMs.byte hgb hlastl (List.mem_of_getElem? hl)
                  · rw [hlsx]; simp; omega
                have AT : Aside _ := hT0
                have hm1 : ((m : Int) + 1) - 1 = (m : Int) := by omega
                have bm : (m : Int) < 2000000000000 := by have := hMs.no; omega
                rw [← hwA] at hoiA hbyteA AT
                have b1 : ((m : Int) < (m : Int) + 1) = True := eq_true (by omega)
                clear hT gs hgk hMs hek heb hg258 hv1 hv2 hv3 hv4 bA hlsx hT0 hnl hlen9 hlastl h11 h12 hoi hne hl hav hcgb hwA hk6 h256 h257 hgb hgblo hLb hnm hgg
                go_upto_region 15 with fail
                go_region_law (refine step_gob rfl (.tmp 55) (.tmp 58) rfl lo2 (.slice a6 k6 c6) k6 l (by go_simp) hoiA hAm.out.2 H 1 gg (by go_simp) hbyteA hAm.out.1 ?_; intro g5 c5 w5 hgob; have e4 := (AT.out g5 c5 w5 hgob).1.1; have f4 := (AT.out g5 c5 w5 hgob).1.2)
                all_goals
                  have T0 := (AT.out g5 c5 w5 hgob).2
                  obtain ⟨wx, hwx⟩ : ∃ wx, w5.setCell ⟨gb, m, none⟩ (.slice (some ⟨g5, 0, none⟩) (k6 + 1) c5) = wx := ⟨_, rfl⟩
                  go_upto_region 16 with fail
                  (try rw [hwx])
                  rw [hwx] at T0
                  clear hgob hoiA hbyteA hH c0' c1' c4' cel fel celA c1A e4 f4 hwx
                  have t0 := T0.out
                  obtain ⟨E2, hE2⟩ : ∃ E2, wx.heap.size = E2 := ⟨_, rfl⟩
                  obtain ⟨wa, hwa⟩ : ∃ wa, wx.alloc (.cells #[.int .i64 2, .int .u8 (gg : Int), .int .i64 en, .int .i64 0, .string (st nm)] 36) = wa := ⟨_, rfl⟩
                  have d0 := t0.2.1.cell 0
                  have d1 := t0.2.1.cell 1
                  have d2 := t0.2.1.cell 2
                  have d3 := t0.2.1.cell 3
                  have d4 := t0.2.1.cell 4
                  obtain ⟨ek2, eb2, en2, nm2, ok2, rem2, hn2, hc2⟩ := next_all (t0.1.wz.below (u := wa) (by rw [← hwa]; exact (Below.refl _ wx).alloc (Nat.le_refl _) _) (Nat.le_refl _))
                  have hfin : ∀ w7, Wz w7 W s1 rem2 → But W wa w7 → Cells w7 E2 #[.int .i64 2, .int .u8 (gg : Int), .int .i64 en, .int .i64 0, .string (st nm)] 36 ∧ Gq W lo2 E2 w (((((w7.setCell ⟨E2, 0, none⟩ (.int .i64 ek2)).setCell ⟨E2, 1, none⟩ (.int .u8 eb2)).setCell ⟨E2, 2, none⟩ (.int .i64 en2)).setCell ⟨E2, 3, none⟩ (.int .i64 0)).setCell ⟨E2, 4, none⟩ (.string (st nm2))) ek2 eb2 en2 nm2 ok2 (.slice ax (m + 1) c) (.slice (some ⟨gb, 0, none⟩) (m + 1) c') nsx lsx s1 rem2 L fut2 R0 := fun w7 k7 b7 => by
                    rw [← hwa] at b7
                    exact t0.1.next hE2 k7 b7 hc2
                  have AF : Aside _ := hfin
                  have hmeas : rem2.length + ok2.toNat < gk := by
                    rw [t0.2.2.1]
                    rcases hc2 with ⟨h1, h2, h3⟩ | ⟨h1, g', _, _, _, h4⟩
                    · rw [h1, h3]; simp
                    · rw [h1, h4]; simp
                  have AM : Aside (rem2.length + ok2.toNat < gk ∧ ((m + 1)) = (lsx).length) := ⟨hmeas, t0.2.2.2⟩
                  have AWa : Aside _ := hwa
                  clear t0 hc2 hfin hmeas hwa
                  go_upto_region 8 with fail
                  rw [AWa.out]
                  clear hE2 d0 d1 d2 d3 d4
                  go_wp2_with (go_at_call 15; refine hn2.mono ?_; rintro e7 w7 ⟨rfl, k7, b7⟩; have kk := (AF.out w7 k7 b7).1; have g0 := kk.cell 0; have g1 := kk.cell 1; have g2 := kk.cell 2; have g3 := kk.cell 3; have g4 := kk.cell 4; have z0 := kk.frozen 0; have z1 := kk.frozen 1; have z2 := kk.frozen 2; have z3 := kk.frozen 3; have z4 := kk.frozen 4)
                  have am := AM.out
                  go_roundg (rem2.length + ok2.toNat)
                  case measure => exact am.1
                  case rel => exact ⟨E2, ok2, (m + 1), _, _, _, _, rfl, rfl, rfl, rfl, ⟨ek2, eb2, en2, nm2, nsx, lsx, rem2, (AF.out w7 k7 b7).2, rfl, am.2⟩⟩
    · have t1 : ((i : Int) < (L : Int)) = False := eq_false (by omega)
      have t2 : (i < L) = False := eq_false hiL
      obtain rfl : i = k := by have := an.2.2.2.2.2.2.2; omega
      obtain ⟨rfl, rfl⟩ := an.1.det hri
      have hfut : fut = [] := by
        have := congrArg List.length hTf
        rw [List.length_append] at this
        exact List.eq_nil_of_length_eq_zero (by omega)
      subst hfut
      have kE := wz_end wr hz
      rw [an.2.2.1] at kE
      have A9 : Aside (Ns wr lo2 (.slice ax n c) ns ∧ Ll wr lo2 (.slice ay n c') ls ∧ Below w.heap.size w wr ∧ R0 = (ns, ls)) := ⟨hnn, hll, hbel, hms.nil⟩
      clear hT hz hnn hll hbel hri hTf hms hik hnl hgk an hiL
      go_wp2_with (first
        | (go_at_call 14; refine kE.mono ?_; rintro e3 w3 ⟨rfl, ⟨s2, v2, h3, hs2, _, _⟩, f3⟩; have hrs := reason_c w3 h3; rw [hs2] at hrs)
        | (go_at_call 13; refine hrs.mono ?_; rintro e4 w4 ⟨rfl, rfl⟩))
      go_ret3
      obtain ⟨a0, a1, a2, a3⟩ := A9.out
      exact wr0_end a0 a1 a2 a3 AG.out f3
end Go.Proofs.YtcmmjbkgoafbnaaDoor

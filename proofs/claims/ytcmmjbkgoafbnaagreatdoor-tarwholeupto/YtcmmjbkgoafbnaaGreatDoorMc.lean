/-
  Own texts of this seat, one behind the other: what each says stands ahead of it.
-/
import Derived.Test.YtcmmjbkgoafbnaaGreatDoorMa
import Derived.Test.YtcmmjbkgoafbnaaGreatDoorMb
import Derived.Test.YtcmmjbkgoafbnaaGreatDoorOwn
import Derived.Deep.LoopGhost
import Derived.BigQuiet
import Derived.Lib.SlBytesConst
/-
  What tar.Whole comes to.
-/
namespace Go.Proofs.YtcmmjbkgoafbnaaGreatDoor
open Go.RowKit
set_option linter.unusedVariables false
theorem ginfo9 : (Tryz.prog.info? 9).map (fun i => (i.zero, i.size, i.bytes)) = some (some (.string ⟨#[]⟩), 1, 16) := by kernel_rfl
theorem wr0_end {W lo2 y : Nat} {w wr w3 : World} {vn vl : Value} {ns ls : List (List Nat)} {R0 : List (List Nat) × List (List Nat)} (hn : Ns wr lo2 vn ns) (h1 : Ll wr lo2 vl ls) (h2 : Below w.heap.size w wr) (h3 : R0 = (ns, ls)) (hg : w.heap.size ≤ W ∧ W < lo2) (f : But W wr w3) : Wr0 R0 y w (.returned (.tuple #[vn, vl, .int .i64 (y : Int)])) w3 := by
  subst h3
  exact ⟨vn, vl, lo2, rfl, by omega, hn.butW f hg.2, h1.butW f hg.2, f.bel h2 hg.1⟩
set_option maxRecDepth 100000 in
set_option maxHeartbeats 8000000 in
theorem wwhole_c (w : World) (he : Er w) (aB : Option Addr) (bb : List Nat) (L C : Nat) (hB : Lies w aB bb) (hL : bb.length = L) (hLb : L ≤ 1000000000000) (ho : Oct bb) (k : Nat) (s : Ts) (T : List Gev) (hr : Rch bb k s T) (hk : s.why ≠ 0 ∨ k = L) (R0 : List (List Nat) × List (List Nat)) (hR : po2 [] [] (evx T) = R0) (y : Nat) (hy : zfin s = y) : Calls Tryz.prog 4 #[.slice aB L C] w fun e w' => Wr0 R0 y w e w' := by
  have kn := wz_new w he
  have hf := hr.rf ho
  have hkL : k ≤ L := by rw [← hL]; exact hr.1
  obtain ⟨W, hWW⟩ : ∃ W, w.heap.size = W := ⟨_, rfl⟩
  rw [hWW] at kn
  have AN : Aside (Rch bb k s T ∧ (s.why ≠ 0 ∨ k = L) ∧ zfin s = y ∧ Oct bb ∧ bb.length = L ∧ L ≤ 1000000000000 ∧ Lies w aB bb ∧ k ≤ L) := ⟨hr, hk, hy, ho, hL, hLb, hB, hkL⟩
  have AM0 : Aside (Ms [] [] L (evx T) R0) := ⟨hR, by simpa using hf.gd, hf.lt, by have := hf.no; simp; omega, fun l hl => by simp at hl, by have := hf.nb; omega, rfl⟩
  have AW0 : Aside (w.heap.size = W) := hWW
  clear he hr hk hy ho hL hLb hB hf hR hkL hWW
  go_enter Tryz.func4, Tryz.ntmps4
  go_upto_region 2 with (go_at_call 12; refine kn.mono ?_; rintro e1 w1 ⟨rfl, hz1, hb1⟩)
  obtain ⟨lo2, hlo2⟩ : ∃ lo2, w1.heap.size = lo2 := ⟨_, rfl⟩
  have hgeo : w.heap.size ≤ W ∧ W < lo2 := ⟨Nat.le_of_eq AW0.out, by rw [← hlo2]; exact hz1.lt⟩
  have A1 : Aside (Wz w1 W t0 [] ∧ Below w.heap.size w w1 ∧ w1.heap.size = lo2) := ⟨hz1, by rw [AW0.out]; exact hb1, hlo2⟩
  have AG : Aside (w.heap.size ≤ W ∧ W < lo2) := hgeo
  clear kn hz1 hb1 hlo2 hgeo
  go_wp2_with fail
  go_loopg [2, 3, 14] L (fun gg s2 s3 s14 wr => ∃ (i n c c' : Nat) (ax ay : Option Addr), s2 = .slice ax n c ∧ s3 = .slice ay n c' ∧ s14 = .int .i64 (i : Int) ∧ Aside (∃ ns ls si Ti fut, Wz wr W si [] ∧ Ns wr lo2 (.slice ax n c) ns ∧ Ll wr lo2 (.slice ay n c') ls ∧ Below w.heap.size w wr ∧ Rch bb i si Ti ∧ evx T = evx Ti ++ fut ∧ Ms ns ls L fut R0 ∧ i ≤ k ∧ n = ls.length ∧ gg = L - i))
  case atStart =>
    exact ⟨0, 0, 0, 0, none, none, rfl, rfl, rfl, ⟨[], [], t0, [], evx T, A1.out.1, Ns.nil (by rw [A1.out.2.2]; exact Nat.le_refl _), Ll.nil (by rw [A1.out.2.2]; exact Nat.le_refl _), A1.out.2.1, rch_zero bb, rfl, AM0.out, Nat.zero_le _, rfl, by simp⟩⟩
  case round =>
    clear A1 AM0
    obtain ⟨i, n, c, c', ax, ay, rfl, rfl, rfl, hT⟩ := hrel
    obtain ⟨ns, ls, si, Ti, fut, hz, hnn, hll, hbel, hri, hTf, hms, hik, hnl, hgk⟩ := hT.out
    have an := AN.out
    by_cases hiL : i < L
    · have t1 : ((i : Int) < (L : Int)) = True := eq_true (by omega)
      have t2 : (i < L) = True := eq_true hiL
      obtain ⟨x, hx⟩ : ∃ x, bb[i]? = some x := ⟨_, List.getElem?_eq_getElem (by rw [an.2.2.2.2.1]; exact hiL)⟩
      have hxb := an.2.2.2.1 x (List.mem_of_getElem? hx)
      have hlies := an.2.2.2.2.2.2.1.below hbel
      obtain ⟨g0, o0, haB, hcell⟩ : ∃ g0 o0, aB = some ⟨g0, o0, none⟩ ∧ wr.cell? ⟨g0, o0 + i, none⟩ = some (.int .u8 (x : Int)) := by
        rcases hlies with h5 | ⟨g0, o0, h5, h6⟩
        · rw [h5] at hx; simp at hx
        · exact ⟨g0, o0, h5, h6 i x hx⟩
      subst haB
      have bi : (i : Int) < 2000000000000 := by have := an.2.2.2.2.2.1; omega
      by_cases hikk : i = k
      · subst hikk
        obtain ⟨rfl, rfl⟩ := an.1.det hri
        have hfut : fut = [] := by
          have := congrArg List.length hTf
          rw [List.length_append] at this
          exact List.eq_nil_of_length_eq_zero (by omega)
        subst hfut
        have hw0 : s.why ≠ 0 := by rcases an.2.1 with q | q; exact q; omega
        have kp := wz_put_no x wr hz (Or.inr hw0)
        have kE := wz_end wr hz
        rw [an.2.2.1] at kE
        have A9 : Aside (Ns wr lo2 (.slice ax n c) ns ∧ Ll wr lo2 (.slice ay n c') ls ∧ Below w.heap.size w wr ∧ R0 = (ns, ls)) := ⟨hnn, hll, hbel, hms.nil⟩
        clear hT hz hnn hll hbel hri hTf hms hik hnl hgk an hx hxb hlies hw0 hiL
        go_wp2_with (first
          | (go_at_call 13; refine kp.mono ?_; rintro e2 w2 ⟨rfl, rfl⟩)
          | (go_at_call 15; refine kE.mono ?_; rintro e3 w3 ⟨rfl, ⟨s2, v2, h3, hs2, _, _⟩, f3⟩; have hrs := reason_c w3 h3; rw [hs2] at hrs)
          | (go_at_call 16; refine hrs.mono ?_; rintro e4 w4 ⟨rfl, rfl⟩))
        go_ret3
        obtain ⟨a0, a1, a2, a3⟩ := A9.out
        exact wr0_end a0 a1 a2 a3 AG.out f3
      · obtain ⟨h0, x', s1, E, T2, hx', hsp, hr1, hTT, _⟩ := an.1.at hri (by omega)
        obtain rfl : x = x' := Option.some.inj (hx.symm.trans hx')
        have hfut : fut = E ++ evx T2 := by
          rw [hTT, evx_append, evx_append, evx_evs, List.append_assoc] at hTf
          exact (List.append_cancel_left hTf).symm
        have kp := wz_put x hxb wr hz h0 hsp
        obtain ⟨fut2, hfut2⟩ : ∃ fut2, evx T2 = fut2 := ⟨_, rfl⟩
        have A5 : Aside (Ns wr lo2 (.slice ax n c) ns ∧ Ll wr lo2 (.slice ay n c') ls ∧ Below w.heap.size w wr ∧ Ms ns ls L (E ++ fut2) R0 ∧ n = ls.length ∧ gk = L - i ∧ Rch bb (i + 1) s1 (Ti ++ evs i E) ∧ evx T = evx (Ti ++ evs i E) ++ fut2 ∧ i < k ∧ i < L) := ⟨hnn, hll, hbel, by rw [← hfut2, ← hfut]; exact hms, hnl, hgk, hr1, by rw [hTT, evx_append, hfut2], by omega, hiL⟩
        clear hT hz hnn hll hbel hri hTf hms hik hnl hgk an hx hx' hxb hlies hikk h0 hsp hr1 hTT hfut hfut2 hiL
        go_upto_region 6 with (go_at_call 13; refine kp.mono ?_; rintro e2 w2 ⟨rfl, hz2, f2⟩)
        clear kp hcell
        obtain ⟨ek, eb, en, nm, ok, rem, hn, hc⟩ := next_all hz2
        have A6 : Aside (But W wr w2 ∧ ((ok = false ∧ E = [] ∧ rem = []) ∨ (ok = true ∧ ∃ g : Evn, ek = gk1 g.1 ∧ eb = gk2 g.1 ∧ nm = g.2 ∧ E = g :: rem))) := ⟨f2, hc⟩
        clear hz2 f2 hc
        go_upto_region 7 with (go_at_call 14; refine hn.mono ?_; rintro e3 w3 ⟨rfl, hz3, f3⟩)
        clear hn
        obtain ⟨E0, hE0⟩ : ∃ E0, w3.heap.size = E0 := ⟨_, rfl⟩
        obtain ⟨w4, hw4⟩ : ∃ w4, w3.alloc (.cells #[.int .i64 ek, .int .u8 eb, .int .i64 en, .int .i64 0, .string (st nm)] 44) = w4 := ⟨_, rfl⟩
        rw [hw4, hE0]
        have gq : Gq W lo2 E0 w w4 ek eb en nm ok (.slice ax n c) (.slice ay n c') ns ls s1 rem L fut2 R0 := by
          obtain ⟨b0, b1, b2, b3, b4, b5, b6, b7, b8, b9⟩ := A5.out
          have fw3 := A6.out.1.trans f3
          have geo := AG.out
          have bA : Below w3.heap.size w3 w4 := by rw [← hw4]; exact (Below.refl _ w3).alloc (Nat.le_refl _) _
          have l3 := b1.butW fw3 geo.2
          have bel3 := fw3.bel b2 geo.1
          refine ⟨hz3.below bA (Nat.le_refl _), (b0.butW fw3 geo.2).below bA (Nat.le_refl _), l3.below bA (Nat.le_refl _), by rw [← hw4, ← hE0]; exact Cells.new w3 _ 44, bel3.trans (bA.mono bel3.size), by rw [← hE0]; exact l3.le, geo, ?_⟩
          rcases A6.out.2 with ⟨h1, h2, h3⟩ | ⟨h1, g, h2, h3, h4, h5⟩
          · rw [h2] at b3
            exact Or.inl ⟨h1, h3, b3⟩
          · rw [h5] at b3
            exact Or.inr ⟨h1, g, h2, h3, h4, b3⟩
        have AQ : Aside (Gq W lo2 E0 w w4 ek eb en nm ok (.slice ax n c) (.slice ay n c') ns ls s1 rem L fut2 R0 ∧ n = ls.length) := ⟨gq, A5.out.2.2.2.2.1⟩
        have A7 : Aside (gk = L - i ∧ Rch bb (i + 1) s1 (Ti ++ evs i E) ∧ evx T = evx (Ti ++ evs i E) ++ fut2 ∧ i < k ∧ i < L) := ⟨A5.out.2.2.2.2.2.1, A5.out.2.2.2.2.2.2.1, A5.out.2.2.2.2.2.2.2.1, A5.out.2.2.2.2.2.2.2.2.1, A5.out.2.2.2.2.2.2.2.2.2⟩
        obtain ⟨gk0, hgk0⟩ : ∃ gk0, gk = gk0 := ⟨_, rfl⟩
        have AK : Aside (gk = gk0) := hgk0
        clear gq hz3 f3 hE0 hw4 A5 A6
        (try go_wp2_with fail)
        go_loopg [2, 3, 8, 9] (rem.length + ok.toNat) (fun gg s2 s3 s8 s9 wr => ∃ (E : Nat) (ok : Bool) (n c c' : Nat) (ax ay : Option Addr), s2 = .slice ax n c ∧ s3 = .slice ay n c' ∧ s8 = .pointer (some ⟨E, 0, none⟩) ∧ s9 = .bool ok ∧ Aside (∃ ek eb en nm ns ls rem, Gq W lo2 E w wr ek eb en nm ok (.slice ax n c) (.slice ay n c') ns ls s1 rem L fut2 R0 ∧ gg = rem.length + ok.toNat ∧ n = ls.length))
        case atStart => exact ⟨E0, ok, n, c, c', ax, ay, rfl, rfl, rfl, rfl, ⟨ek, eb, en, nm, ns, ls, rem, AQ.out.1, rfl, AQ.out.2⟩⟩
        case round =>
          have A8 : Aside (gk0 = L - i ∧ Rch bb (i + 1) s1 (Ti ++ evs i E) ∧ evx T = evx (Ti ++ evs i E) ++ fut2 ∧ i < k ∧ i < L) := by rw [← hgk0]; exact A7.out
          clear AQ A7 hgk0
          obtain ⟨E1, ok, n, c, c', ax, ay, rfl, rfl, rfl, rfl, hT⟩ := hrel
          obtain ⟨ek, eb, en, nm, ns, ls, rem, gs, hgk, hnl⟩ := hT.out
          cases ok with
          | false =>
            have hst : rem = [] ∧ Ms ns ls L fut2 R0 := by
              rcases gs.st with ⟨_, h⟩ | ⟨h1, _⟩
              · exact h
              · cases h1
            have A9 : Aside (Wz wr W s1 [] ∧ Ns wr lo2 (.slice ax n c) ns ∧ Ll wr lo2 (.slice ay n c') ls ∧ Below w.heap.size w wr ∧ Ms ns ls L fut2 R0 ∧ n = ls.length) := ⟨by rw [← hst.1]; exact gs.wz, gs.nn, gs.ll, gs.bel, hst.2, hnl⟩
            clear hT gs hgk hnl hst
            go_wp2_with fail
            obtain ⟨a1, a0, a2, a3, a4, a6⟩ := A9.out
            obtain ⟨c1, c3, c4, c5, c7⟩ := A8.out
            have ak := AK.out
            go_roundg (L - (i + 1))
            case measure => omega
            case rel => exact ⟨i + 1, n, c, c', ax, ay, rfl, rfl, by push_cast; rfl, ⟨ns, ls, s1, Ti ++ evs i E, fut2, a1, a0, a2, a3, c3, c4, a4, by omega, a6, rfl⟩⟩
          | true =>
            obtain ⟨g, hek, heb, hnm, hMs⟩ : ∃ g : Evn, ek = gk1 g.1 ∧ eb = gk2 g.1 ∧ nm = g.2 ∧ Ms ns ls L (g :: (rem ++ fut2)) R0 := by
              rcases gs.st with ⟨h1, _⟩ | ⟨_, h⟩
              · cases h1
              · exact h
            have hg258 := hMs.lt g (by simp)
            have hLb : L ≤ 1000000000000 := AN.out.2.2.2.2.2.1
            have c0' := gs.ev.cell 0
            have c1' := gs.ev.cell 1
            have c4' := gs.ev.cell 4
            by_cases h256 : g.1 = 256
            · have ek1 : ek = 1 := by rw [hek, h256]; rfl
              subst ek1
              have hn2 : ns.length = n := by rw [hMs.eqn, hnl]
              obtain ⟨H, hH⟩ : ∃ H, wr.heap.size = H := ⟨_, rfl⟩
              have bA : Below wr.heap.size wr (wr.alloc (.cells #[.string (st nm)] 9)) := (Below.refl _ wr).alloc (Nat.le_refl _) _
              have howN : Ow (wr.alloc (.cells #[.string (st nm)] 9)) lo2 9 1 (.slice ax n c) n (sv ns) := by
                have := gs.nn.below bA (Nat.le_refl _)
                unfold Ns at this
                rw [hn2] at this
                exact this
              have hcN : (wr.alloc (.cells #[.string (st nm)] 9)).cell? ⟨H, 0, none⟩ = some (.string (st nm)) := by rw [← hH, (Cells.new wr #[.string (st nm)] 9).cell 0]; rfl
              have hlN : ([.string (st nm)] : List Value) = [] ∨ ∃ b o, (some ⟨H, 0, none⟩ : Option Addr) = some ⟨b, o, none⟩ ∧ ∀ i u, ([.string (st nm)] : List Value)[i]? = some u → (wr.alloc (.cells #[.string (st nm)] 9)).cell? ⟨b, o + i, none⟩ = some u := Or.inr ⟨H, 0, rfl, fun i u hu => by
                cases i with
                | zero => simp at hu; rw [← hu]; exact hcN
                | succ i => simp at hu⟩
              have h1N : ∀ u ∈ ([.string (st nm)] : List Value), u.oneCell' = true := fun u hu => by simp at hu; subst hu; rfl
              obtain ⟨i9, hi9, hy0, hy1, hy2⟩ := ginfo_parts ginfo9
              have hnb : n + 1 ≤ L := by have := hMs.no; simp only [nop, h256, if_true] at this; omega
              have hAm : Aside (n + 1 ≤ maxLen ∧ (n + 1) * 16 ≤ 140737488355328 ∧ (n + 1) * 24 ≤ 140737488355328) := ⟨by unfold maxLen; omega, by omega, by omega⟩
              have AS : Aside (Gq W lo2 E1 w wr 1 eb en nm true (.slice ax n c) (.slice ay n c') ns ls s1 rem L fut2 R0 ∧ Ms (ns ++ [g.2]) (ls ++ [[]]) L (rem ++ fut2) R0 ∧ gk = rem.length + true.toNat ∧ n = ls.length ∧ nm = g.2 ∧ ns.length = n ∧ wr.heap.size = H) := ⟨gs, hMs.open_ h256, hgk, hnl, hnm, hn2, hH⟩
              clear hT gs hgk hMs hek heb hg258 bA hcN hnl hnm hn2 hnb h256
              go_upto_region 12 with (at_builtin; refine wpList_ow Tryz.prog _ rfl (.tmp 37) (.tmp 40) 23 rfl 9 i9 _ 1 16 Tryz.underlying23 hi9 hy0 hy1 hy2 rfl (by decide) lo2 (.slice ax n c) n _ (by rfl) howN (some ⟨H, 0, none⟩) [.string (st nm)] 1 1 rfl (by rfl) (by intro h; cases h) hlN h1N hAm.out.1 hAm.out.2.1 ?_; intro v4 w4 hg4; obtain ⟨a4, c4, hv4, _⟩ := hg4.ow.shape; subst hv4)
              have ax0 := AS.out
              have gs := ax0.1
              have bA : Below wr.heap.size wr (wr.alloc (.cells #[.string (st nm)] 9)) := (Below.refl _ wr).alloc (Nat.le_refl _) _
              have geo := gs.geo
              have ll4 : Ll w4 lo2 (.slice ay n c') ls := (gs.ll.below bA (Nat.le_refl _)).got9 hg4
              have wz4 : Wz w4 W s1 rem := (gs.wz.below bA (Nat.le_refl _)).low hg4.bel geo.2
              have ev4 : Cells w4 E1 #[.int .i64 1, .int .u8 eb, .int .i64 en, .int .i64 0, .string (st nm)] 44 := (gs.ev.alloc _).got hg4 (by decide)
              have bel4 : Below w.heap.size w w4 := (gs.bel.trans (bA.mono gs.bel.size)).trans (hg4.bel.mono (by omega))
              have nn4 : Ns w4 lo2 (.slice a4 (n + 1) c4) (ns ++ [nm]) := by
                unfold Ns
                rw [List.length_append, List.length_singleton, ax0.2.2.2.2.2.1, sv_append]
                exact hg4.ow
              obtain ⟨vs, hv1, hv2, hv3, hv4⟩ := ll4.ex
              obtain ⟨H4, hH4⟩ : ∃ H4, w4.heap.size = H4 := ⟨_, rfl⟩
              have bB : Below w4.heap.size w4 (w4.alloc (.cells #[.slice none 0 0] 22)) := (Below.refl _ w4).alloc (Nat.le_refl _) _
              have howA := hv2.below bB (Nat.le_refl _)
              rw [← ax0.2.2.2.1] at howA
              have hlA := ll4.below bB (Nat.le_refl _)
              have hcA : (w4.alloc (.cells #[.slice none 0 0] 22)).cell? ⟨H4, 0, none⟩ = some (.slice none 0 0) := by rw [← hH4, (Cells.new w4 #[.slice none 0 0] 22).cell 0]; rfl
              have hlz : ([.slice none 0 0] : List Value) = [] ∨ ∃ b o, (some ⟨H4, 0, none⟩ : Option Addr) = some ⟨b, o, none⟩ ∧ ∀ i u, ([.slice none 0 0] : List Value)[i]? = some u → (w4.alloc (.cells #[.slice none 0 0] 22)).cell? ⟨b, o + i, none⟩ = some u := Or.inr ⟨H4, 0, rfl, fun i u hu => by
                cases i with
                | zero => simp at hu; rw [← hu]; exact hcA
                | succ i => simp at hu⟩
              have h1c : ∀ u ∈ ([.slice none 0 0] : List Value), u.oneCell' = true := fun u hu => by simp at hu; subst hu; rfl
              obtain ⟨i0, hi0, hz0, hz1, hz2⟩ := ginfo_parts ginfo22
              obtain ⟨lsx, hlsx⟩ : ∃ lsx, lsx = ls ++ [[]] := ⟨_, rfl⟩
              obtain ⟨nsx, hnsx⟩ : ∃ nsx, nsx = ns ++ [nm] := ⟨_, rfl⟩
              have hT0 : ∀ (a5 : Option Addr) (c5 : Nat) (w5 : World), Got lo2 22 1 (w4.alloc (.cells #[.slice none 0 0] 22)) w5 (.slice ay n c') (.slice a5 (n + 1) c5) (n + 1) (vs ++ [.slice none 0 0]) → Aside (Gu W lo2 w w5 (.slice a4 (n + 1) c4) (.slice a5 (n + 1) c5) nsx lsx s1 rem L fut2 R0 ∧ Cells w5 E1 #[.int .i64 1, .int .u8 eb, .int .i64 en, .int .i64 0, .string (st nm)] 44 ∧ gk = rem.length + true.toNat ∧ (n + 1) = lsx.length) := fun a5 c5 w5 hgot => by
                refine ⟨⟨(wz4.below bB (Nat.le_refl _)).low hgot.bel geo.2, ?_, ?_, (bel4.trans (bB.mono bel4.size)).trans (hgot.bel.mono (by omega)), geo, ?_⟩, (ev4.alloc _).got hgot (by decide), ax0.2.2.1, ?_⟩
                · rw [hnsx]; exact (nn4.below bB (Nat.le_refl _)).got hgot (by decide)
                · rw [hlsx]
                  have hlA2 := hlA
                  rw [ax0.2.2.2.1] at hgot hlA2 ⊢
                  exact hlA2.open_ vs hgot hv1 (fun i a l h5 h6 => (hv3 i a l h5 h6).below bB (Nat.le_refl _))
                · rw [hnsx, hlsx, ax0.2.2.2.2.1]; exact ax0.2.1
                · rw [hlsx, ax0.2.2.2.1]; simp
              have AT : Aside _ := hT0
              clear hg4 howN hlN h1N hi9 hy0 hy1 hy2 hv1 hv2 hv3 hv4 bA bB hlA hcA hlsx hnsx hT0 ax0 gs geo ll4 wz4 ev4 bel4 nn4 AS
              go_upto_region 16 with (at_builtin; refine wpList_ow Tryz.prog _ rfl (.tmp 42) (.tmp 43) 24 rfl 22 i0 _ 1 24 Tryz.underlying24 hi0 hz0 hz1 hz2 rfl (by decide) lo2 (.slice ay n c') n _ (by rfl) howA (some ⟨H4, 0, none⟩) [.slice none 0 0] 1 1 rfl (by rfl) (by intro h; cases h) hlz h1c hAm.out.1 hAm.out.2.2 ?_; intro v5 w5 hgot; obtain ⟨a5, c5, hv5, _⟩ := hgot.ow.shape; subst hv5)
              have T0 := AT.out a5 c5 w5 hgot
              clear hgot howA hlz h1c hi0 hz0 hz1 hz2 hH hH4 c0' c1' c4'
              have t0 := T0.out
              obtain ⟨E2, hE2⟩ : ∃ E2, w5.heap.size = E2 := ⟨_, rfl⟩
              obtain ⟨wa, hwa⟩ : ∃ wa, w5.alloc (.cells #[.int .i64 1, .int .u8 eb, .int .i64 en, .int .i64 0, .string (st nm)] 44) = wa := ⟨_, rfl⟩
              have d0 := t0.2.1.cell 0
              have d1 := t0.2.1.cell 1
              have d2 := t0.2.1.cell 2
              have d3 := t0.2.1.cell 3
              have d4 := t0.2.1.cell 4
              obtain ⟨ek2, eb2, en2, nm2, ok2, rem2, hn2, hc2⟩ := next_all (t0.1.wz.below (u := wa) (by rw [← hwa]; exact (Below.refl _ w5).alloc (Nat.le_refl _) _) (Nat.le_refl _))
              have hfin : ∀ w7, Wz w7 W s1 rem2 → But W wa w7 → Cells w7 E2 #[.int .i64 1, .int .u8 eb, .int .i64 en, .int .i64 0, .string (st nm)] 44 ∧ Gq W lo2 E2 w (((((w7.setCell ⟨E2, 0, none⟩ (.int .i64 ek2)).setCell ⟨E2, 1, none⟩ (.int .u8 eb2)).setCell ⟨E2, 2, none⟩ (.int .i64 en2)).setCell ⟨E2, 3, none⟩ (.int .i64 0)).setCell ⟨E2, 4, none⟩ (.string (st nm2))) ek2 eb2 en2 nm2 ok2 (.slice a4 (n + 1) c4) (.slice a5 (n + 1) c5) nsx lsx s1 rem2 L fut2 R0 := fun w7 k7 b7 => by
                rw [← hwa] at b7
                exact t0.1.next hE2 k7 b7 hc2
              have AF : Aside _ := hfin
              have hmeas : rem2.length + ok2.toNat < gk := by
                rw [t0.2.2.1]
                rcases hc2 with ⟨h1, h2, h3⟩ | ⟨h1, g', _, _, _, h4⟩
                · rw [h1, h3]; simp
                · rw [h1, h4]; simp
              have AM : Aside (rem2.length + ok2.toNat < gk ∧ ((n + 1)) = (lsx).length) := ⟨hmeas, t0.2.2.2⟩
              have AWa : Aside _ := hwa
              clear t0 hc2 hfin hmeas hwa
              go_upto_region 8 with fail
              rw [AWa.out]
              clear hE2 d0 d1 d2 d3 d4
              go_wp2_with (go_at_call 14; refine hn2.mono ?_; rintro e7 w7 ⟨rfl, k7, b7⟩; have kk := (AF.out w7 k7 b7).1; have g0 := kk.cell 0; have g1 := kk.cell 1; have g2 := kk.cell 2; have g3 := kk.cell 3; have g4 := kk.cell 4; have z0 := kk.frozen 0; have z1 := kk.frozen 1; have z2 := kk.frozen 2; have z3 := kk.frozen 3; have z4 := kk.frozen 4)
              have am := AM.out
              go_roundg (rem2.length + ok2.toNat)
              case measure => exact am.1
              case rel => exact ⟨E2, ok2, (n + 1), _, _, _, _, rfl, rfl, rfl, rfl, ⟨ek2, eb2, en2, nm2, nsx, lsx, rem2, (AF.out w7 k7 b7).2, rfl, am.2⟩⟩
            · by_cases h257 : g.1 = 257
              · have ek3 : ek = 3 := by rw [hek, h257]; rfl
                subst ek3
                obtain ⟨lsx, hlsx⟩ : ∃ lsx, lsx = ls := ⟨_, rfl⟩
                subst hlsx
                obtain ⟨nsx, hnsx⟩ : ∃ nsx, nsx = ns := ⟨_, rfl⟩
                subst hnsx
                have T0 : Aside (Gu W lo2 w wr (.slice ax n c) (.slice ay n c') nsx lsx s1 rem L fut2 R0 ∧ Cells wr E1 #[.int .i64 3, .int .u8 eb, .int .i64 en, .int .i64 0, .string (st nm)] 44 ∧ gk = rem.length + true.toNat ∧ n = lsx.length) := ⟨⟨gs.wz, gs.nn, gs.ll, gs.bel, gs.geo, hMs.close h257⟩, gs.ev, hgk, hnl⟩
                clear hT gs hgk hnl hMs hek heb hg258 h256 h257 hnm
                go_upto_region 16 with fail
                clear c0' c1' c4'
                have t0 := T0.out
                obtain ⟨E2, hE2⟩ : ∃ E2, wr.heap.size = E2 := ⟨_, rfl⟩
                obtain ⟨wa, hwa⟩ : ∃ wa, wr.alloc (.cells #[.int .i64 3, .int .u8 eb, .int .i64 en, .int .i64 0, .string (st nm)] 44) = wa := ⟨_, rfl⟩
                have d0 := t0.2.1.cell 0
                have d1 := t0.2.1.cell 1
                have d2 := t0.2.1.cell 2
                have d3 := t0.2.1.cell 3
                have d4 := t0.2.1.cell 4
                obtain ⟨ek2, eb2, en2, nm2, ok2, rem2, hn2, hc2⟩ := next_all (t0.1.wz.below (u := wa) (by rw [← hwa]; exact (Below.refl _ wr).alloc (Nat.le_refl _) _) (Nat.le_refl _))
                have hfin : ∀ w7, Wz w7 W s1 rem2 → But W wa w7 → Cells w7 E2 #[.int .i64 3, .int .u8 eb, .int .i64 en, .int .i64 0, .string (st nm)] 44 ∧ Gq W lo2 E2 w (((((w7.setCell ⟨E2, 0, none⟩ (.int .i64 ek2)).setCell ⟨E2, 1, none⟩ (.int .u8 eb2)).setCell ⟨E2, 2, none⟩ (.int .i64 en2)).setCell ⟨E2, 3, none⟩ (.int .i64 0)).setCell ⟨E2, 4, none⟩ (.string (st nm2))) ek2 eb2 en2 nm2 ok2 (.slice ax n c) (.slice ay n c') nsx lsx s1 rem2 L fut2 R0 := fun w7 k7 b7 => by
                  rw [← hwa] at b7
                  exact t0.1.next hE2 k7 b7 hc2
                have AF : Aside _ := hfin
                have hmeas : rem2.length + ok2.toNat < gk := by
                  rw [t0.2.2.1]
                  rcases hc2 with ⟨h1, h2, h3⟩ | ⟨h1, g', _, _, _, h4⟩
                  · rw [h1, h3]; simp
                  · rw [h1, h4]; simp
                have AM : Aside (rem2.length + ok2.toNat < gk ∧ (n) = (lsx).length) := ⟨hmeas, t0.2.2.2⟩
                have AWa : Aside _ := hwa
                clear t0 hc2 hfin hmeas hwa
                go_upto_region 8 with fail
                rw [AWa.out]
                clear hE2 d0 d1 d2 d3 d4
                go_wp2_with (go_at_call 14; refine hn2.mono ?_; rintro e7 w7 ⟨rfl, k7, b7⟩; have kk := (AF.out w7 k7 b7).1; have g0 := kk.cell 0; have g1 := kk.cell 1; have g2 := kk.cell 2; have g3 := kk.cell 3; have g4 := kk.cell 4; have z0 := kk.frozen 0; have z1 := kk.frozen 1; have z2 := kk.frozen 2; have z3 := kk.frozen 3; have z4 := kk.frozen 4)
                have am := AM.out
                go_roundg (rem2.length + ok2.toNat)
                case measure => exact am.1
                case rel => exact ⟨E2, ok2, n, _, _, _, _, rfl, rfl, rfl, rfl, ⟨ek2, eb2, en2, nm2, nsx, lsx, rem2, (AF.out w7 k7 b7).2, rfl, am.2⟩⟩
              · have hgb : g.1 < 256 := by omega
                obtain ⟨gg, hgg⟩ : ∃ gg, g.1 = gg := ⟨_, rfl⟩
                have ekk : ek = 2 := by rw [hek]; unfold gk1; rw [if_neg h256, if_neg h257]
                have ebb : eb = (gg : Int) := by rw [heb, ← hgg]; unfold gk2; rw [if_pos hgb]
                subst ekk
                subst ebb
                have hne := hMs.ne hgb
                obtain ⟨m, hm⟩ : ∃ m, n = m + 1 := ⟨n - 1, by have := List.length_pos_iff.2 hne; omega⟩
                subst hm
                obtain ⟨l, hl⟩ : ∃ l, ls[m]? = some l := ⟨_, List.getElem?_eq_getElem (by omega)⟩
                obtain ⟨vs, hv1, hv2, hv3, hv4⟩ := gs.ll.ex
                rw [← hnl] at hv1 hv2
                obtain ⟨av, hav⟩ : ∃ av, vs[m]? = some av := ⟨_, List.getElem?_eq_getElem (by omega)⟩
                have hsh := hv2.shape
                obtain ⟨a9, c9, h9, _, h10 | ⟨gb, h10, hgblo, ⟨cgb, hcgb⟩, h11, h12⟩, _⟩ := hsh
                · omega
                cases h9
                subst h10
                have cel := h11 m av hav
                have fel := h12 m
                have hoi := hv3 m av l hav hl
                obtain ⟨a6, c6, hv6, _⟩ := hoi.shape
                obtain ⟨k6, hk6⟩ : ∃ k6, l.length = k6 := ⟨_, rfl⟩
                rw [hk6] at hv6 hoi
                subst hv6
                obtain ⟨H, hH⟩ : ∃ H, wr.heap.size = H := ⟨_, rfl⟩
                obtain ⟨wA, hwA⟩ : ∃ wA, (wr.alloc (.cells #[.int .u8 (gg : Int)] 5)).drew = wA := ⟨_, rfl⟩
                have bA : Below wr.heap.size wr wA := by rw [← hwA]; exact ((Below.refl _ wr).alloc (Nat.le_refl _) _).drew
                have hoiA := hoi.below bA (Nat.le_refl _)
                have hbyteA : wA.cell? ⟨H, 0, none⟩ = some (.int .u8 (gg : Int)) := by rw [← hwA, ← hH]; exact ((Cells.new wr #[.int .u8 (gg : Int)] 5).drew).cell 0
                have celA : (wr.alloc (.cells #[.int .u8 (gg : Int)] 5)).cell? ⟨gb, m, none⟩ = some (.slice a6 k6 c6) := by
                  have hlt : gb < wr.heap.size := (Array.getElem?_eq_some_iff.1 hcgb).1
                  have := (((Below.refl _ wr).alloc (Nat.le_refl _) (.cells #[.int .u8 (gg : Int)] 5)).cell (p := ⟨gb, m, none⟩) hlt)
                  rw [this]; exact cel
                have c1A : (wr.alloc (.cells #[.int .u8 (gg : Int)] 5)).cell? ⟨E1, 1, none⟩ = some (.int .u8 (gg : Int)) := by rw [(gs.ev.alloc _).cell]; rfl
                have hlen9 := hMs.each l (List.mem_of_getElem? hl)
                have hAm : Aside (k6 + 1 ≤ 140737488355328 ∧ l.length = k6) := ⟨by omega, hk6⟩
                obtain ⟨lsx, hlsx⟩ : ∃ lsx, lsx = ls.dropLast ++ [l ++ [gg]] := ⟨_, rfl⟩
                obtain ⟨nsx, hnsx⟩ : ∃ nsx, nsx = ns := ⟨_, rfl⟩
                subst hnsx
                have hlastl : ls.getLastD [] = l := by
                  rw [List.getLastD_eq_getLast?, List.getLast?_eq_getElem?, ← hnl, Nat.add_sub_cancel, hl]; rfl
                have hT0 : ∀ (g5 c5 : Nat) (w5 : World), Gob lo2 wA w5 (.slice a6 k6 c6) (.slice (some ⟨g5, 0, none⟩) (k6 + 1) c5) (k6 + 1) (l ++ [gg]) → (w5.cell? ⟨gb, m, none⟩ = some (.slice a6 k6 c6) ∧ w5.frozen? ⟨gb, m, none⟩ = false) ∧ Aside (Gu W lo2 w (w5.setCell ⟨gb, m, none⟩ (.slice (some ⟨g5, 0, none⟩) (k6 + 1) c5)) (.slice ax (m + 1) c) (.slice (some ⟨gb, 0, none⟩) (m + 1) c') nsx lsx s1 rem L fut2 R0 ∧ Cells (w5.setCell ⟨gb, m, none⟩ (.slice (some ⟨g5, 0, none⟩) (k6 + 1) c5)) E1 #[.int .i64 2, .int .u8 (gg : Int), .int .i64 en, .int .i64 0, .string (st nm)] 44 ∧ gk = rem.length + true.toNat ∧ (m + 1) = lsx.length) := fun g5 c5 w5 hgob => by
                  have hv2A := hv2.below bA (Nat.le_refl _)
                  have hv2u := hv2A.got hgob.got (by decide)
                  have hcg5 : ∃ cs, w5.heap[gb]? = some (.cells cs 22 (0, 0)) := by
                    rcases hv2u.own.2 with ⟨hv, h0⟩ | ⟨g', c', cur, hv, hg, hh, _⟩
                    · cases hv
                    · cases hv; exact ⟨_, hh⟩
                  obtain ⟨cg, hcg⟩ := hcg5
                  obtain ⟨a9, c9, h9, _, h10 | ⟨gb', h10, _, _, h11', h12'⟩, _⟩ := hv2u.shape
                  · omega
                  cases h9
                  cases h10
                  have geo := gs.geo
                  have o6 : Only gb w5 (w5.setCell ⟨gb, m, none⟩ (.slice (some ⟨g5, 0, none⟩) (k6 + 1) c5)) := (Only.refl gb w5).setCell _ _
                  have wz5 := (gs.wz.below bA (Nat.le_refl _)).low hgob.got.bel geo.2
                  have hE5 := (gs.ev.below bA gs.ev.lt).got hgob.got (by decide)
                  have hEne : E1 ≠ gb := fun e => by subst e; unfold Cells at hE5; rw [hE5] at hcg; cases hcg
                  refine ⟨⟨h11' m _ hav, h12' m⟩, ⟨wz5.low (o6.below (Nat.le_refl _)) (by omega), ?_, ?_, ((gs.bel.trans (bA.mono gs.bel.size)).trans (hgob.got.bel.mono (by omega))).trans (o6.below (by omega)), geo, ?_⟩, hE5.only o6 hEne, hgk, ?_⟩
                  · exact ((gs.nn.below bA (Nat.le_refl _)).got hgob.got (by decide)).only o6 (cs := cg) (t := 22) hcg (by decide)
                  · rw [hlsx]
                    have hllA := gs.ll.below bA (Nat.le_refl _)
                    have hg2 : Gob lo2 wA w5 (.slice a6 k6 c6) (.slice (some ⟨g5, 0, none⟩) (k6 + 1) c5) (l.length + 1) (l ++ [gg]) := by rw [hk6]; exact hgob
                    exact Ll.byte hllA hnl.symm hv1 hl hv2A (fun i a l' h5 h6 => (hv3 i a l' h5 h6).below bA (Nat.le_refl _)) hv4 hav hg2 rfl
                  · rw [hlsx, ← hgg]; exact hMs.byte hgb hlastl (List.mem_of_getElem? hl)
                  · rw [hlsx]; simp; omega
                have AT : Aside _ := hT0
                have hm1 : ((m : Int) + 1) - 1 = (m : Int) := by omega
                have bm : (m : Int) < 2000000000000 := by have := hMs.no; omega
                rw [← hwA] at hoiA hbyteA AT
                have b1 : ((m : Int) < (m : Int) + 1) = True := eq_true (by omega)
                clear hT gs hgk hMs hek heb hg258 hv1 hv2 hv3 hv4 bA hlsx hT0 hnl hlen9 hlastl h11 h12 hoi hne hl hav hcgb hwA hk6 h256 h257 hgb hgblo hLb hnm hgg
                go_upto_region 15 with fail
                go_region_law (refine step_gob rfl (.tmp 55) (.tmp 58) rfl lo2 (.slice a6 k6 c6) k6 l (by go_simp) hoiA hAm.out.2 H 1 gg (by go_simp) hbyteA hAm.out.1 ?_; intro g5 c5 w5 hgob; have e4 := (AT.out g5 c5 w5 hgob).1.1; have f4 := (AT.out g5 c5 w5 hgob).1.2)
                all_goals
                  have T0 := (AT.out g5 c5 w5 hgob).2
                  obtain ⟨wx, hwx⟩ : ∃ wx, w5.setCell ⟨gb, m, none⟩ (.slice (some ⟨g5, 0, none⟩) (k6 + 1) c5) = wx := ⟨_, rfl⟩
                  go_upto_region 16 with fail
                  (try rw [hwx])
                  rw [hwx] at T0
                  clear hgob hoiA hbyteA hH c0' c1' c4' cel fel celA c1A e4 f4 hwx
                  have t0 := T0.out
                  obtain ⟨E2, hE2⟩ : ∃ E2, wx.heap.size = E2 := ⟨_, rfl⟩
                  obtain ⟨wa, hwa⟩ : ∃ wa, wx.alloc (.cells #[.int .i64 2, .int .u8 (gg : Int), .int .i64 en, .int .i64 0, .string (st nm)] 44) = wa := ⟨_, rfl⟩
                  have d0 := t0.2.1.cell 0
                  have d1 := t0.2.1.cell 1
                  have d2 := t0.2.1.cell 2
                  have d3 := t0.2.1.cell 3
                  have d4 := t0.2.1.cell 4
                  obtain ⟨ek2, eb2, en2, nm2, ok2, rem2, hn2, hc2⟩ := next_all (t0.1.wz.below (u := wa) (by rw [← hwa]; exact (Below.refl _ wx).alloc (Nat.le_refl _) _) (Nat.le_refl _))
                  have hfin : ∀ w7, Wz w7 W s1 rem2 → But W wa w7 → Cells w7 E2 #[.int .i64 2, .int .u8 (gg : Int), .int .i64 en, .int .i64 0, .string (st nm)] 44 ∧ Gq W lo2 E2 w (((((w7.setCell ⟨E2, 0, none⟩ (.int .i64 ek2)).setCell ⟨E2, 1, none⟩ (.int .u8 eb2)).setCell ⟨E2, 2, none⟩ (.int .i64 en2)).setCell ⟨E2, 3, none⟩ (.int .i64 0)).setCell ⟨E2, 4, none⟩ (.string (st nm2))) ek2 eb2 en2 nm2 ok2 (.slice ax (m + 1) c) (.slice (some ⟨gb, 0, none⟩) (m + 1) c') nsx lsx s1 rem2 L fut2 R0 := fun w7 k7 b7 => by
                    rw [← hwa] at b7
                    exact t0.1.next hE2 k7 b7 hc2
                  have AF : Aside _ := hfin
                  have hmeas : rem2.length + ok2.toNat < gk := by
                    rw [t0.2.2.1]
                    rcases hc2 with ⟨h1, h2, h3⟩ | ⟨h1, g', _, _, _, h4⟩
                    · rw [h1, h3]; simp
                    · rw [h1, h4]; simp
                  have AM : Aside (rem2.length + ok2.toNat < gk ∧ ((m + 1)) = (lsx).length) := ⟨hmeas, t0.2.2.2⟩
                  have AWa : Aside _ := hwa
                  clear t0 hc2 hfin hmeas hwa
                  go_upto_region 8 with fail
                  rw [AWa.out]
                  clear hE2 d0 d1 d2 d3 d4
                  go_wp2_with (go_at_call 14; refine hn2.mono ?_; rintro e7 w7 ⟨rfl, k7, b7⟩; have kk := (AF.out w7 k7 b7).1; have g0 := kk.cell 0; have g1 := kk.cell 1; have g2 := kk.cell 2; have g3 := kk.cell 3; have g4 := kk.cell 4; have z0 := kk.frozen 0; have z1 := kk.frozen 1; have z2 := kk.frozen 2; have z3 := kk.frozen 3; have z4 := kk.frozen 4)
                  have am := AM.out
                  go_roundg (rem2.length + ok2.toNat)
                  case measure => exact am.1
                  case rel => exact ⟨E2, ok2, (m + 1), _, _, _, _, rfl, rfl, rfl, rfl, ⟨ek2, eb2, en2, nm2, nsx, lsx, rem2, (AF.out w7 k7 b7).2, rfl, am.2⟩⟩
    · have t1 : ((i : Int) < (L : Int)) = False := eq_false (by omega)
      have t2 : (i < L) = False := eq_false hiL
      obtain rfl : i = k := by have := an.2.2.2.2.2.2.2; omega
      obtain ⟨rfl, rfl⟩ := an.1.det hri
      have hfut : fut = [] := by
        have := congrArg List.length hTf
        rw [List.length_append] at this
        exact List.eq_nil_of_length_eq_zero (by omega)
      subst hfut
      have kE := wz_end wr hz
      rw [an.2.2.1] at kE
      have A9 : Aside (Ns wr lo2 (.slice ax n c) ns ∧ Ll wr lo2 (.slice ay n c') ls ∧ Below w.heap.size w wr ∧ R0 = (ns, ls)) := ⟨hnn, hll, hbel, hms.nil⟩
      clear hT hz hnn hll hbel hri hTf hms hik hnl hgk an hiL
      go_wp2_with (first
        | (go_at_call 15; refine kE.mono ?_; rintro e3 w3 ⟨rfl, ⟨s2, v2, h3, hs2, _, _⟩, f3⟩; have hrs := reason_c w3 h3; rw [hs2] at hrs)
        | (go_at_call 16; refine hrs.mono ?_; rintro e4 w4 ⟨rfl, rfl⟩))
      go_ret3
      obtain ⟨a0, a1, a2, a3⟩ := A9.out
      exact wr0_end a0 a1 a2 a3 AG.out f3
end Go.Proofs.YtcmmjbkgoafbnaaGreatDoor

/-
  What the document's Names and Parts come to.
-/
namespace Go.Proofs.YtcmmjbkgoafbnaaGreatDoor
open Go.RowKit
set_option linter.unusedVariables false
def cds (T : List Gev) : List Nat := T.map fun e => e.2.1
theorem drop_mor {α : Type} {l : List α} {i : Nat} {x : α} (h : l[i]? = some x) : l.drop i = x :: l.drop (i + 1) := by
  obtain ⟨h1, h2⟩ := List.getElem?_eq_some_iff.1 h
  rw [← h2, ← List.drop_eq_getElem_cons h1]
theorem gcs_length (T : List Gev) : (gcs T).length = T.length * 6 := by
  induction T with
  | nil => rfl
  | cons p T ih => rw [show gcs (p :: T) = gcel p ++ gcs T from rfl, List.length_append, ih, List.length_cons]; show 6 + _ = _; omega
structure Bn (N : Nat) (ls : List (List Nat)) (rem : List Nat) : Prop where
  all : ls.length + rem.length ≤ N
  each : ∀ l ∈ ls, l.length + rem.length ≤ N
theorem Bn.open_ {N : Nat} {ls : List (List Nat)} {r : List Nat} {g : Nat} (h : Bn N ls (g :: r)) : Bn N (ls ++ [[]]) r := by
  have h1 := h.all
  simp at h1
  refine ⟨by simp; omega, fun l hl => ?_⟩
  rcases List.mem_append.1 hl with e | e
  · have := h.each l e; simp at this; omega
  · simp at e; subst e; simp; omega
theorem Bn.close {N : Nat} {ls : List (List Nat)} {r : List Nat} {g : Nat} (h : Bn N ls (g :: r)) : Bn N ls r := by
  have h1 := h.all
  simp at h1
  refine ⟨by omega, fun l hl => ?_⟩
  have := h.each l hl; simp at this; omega
theorem Bn.byte {N : Nat} {ls : List (List Nat)} {l : List Nat} {r : List Nat} {g : Nat} (h : Bn N ls (g :: r)) (hl : l ∈ ls) : Bn N (ls.dropLast ++ [l ++ [g]]) r := by
  have h1 := h.all
  simp at h1
  have hne : ls ≠ [] := List.ne_nil_of_mem hl
  have hd : ls.dropLast.length + 1 = ls.length := by have := List.length_pos_iff.2 hne; simp; omega
  refine ⟨by simp at hd ⊢; omega, fun m hm => ?_⟩
  rcases List.mem_append.1 hm with e | e
  · have := h.each m (List.dropLast_subset _ e); simp at this; omega
  · simp at e; subst e; have := h.each l hl; simp at this ⊢; omega
/-- Timed events in memory. -/
def Te (w : World) (a : Option Addr) (T : List Gev) : Prop := T = [] ∨ ∃ g o, a = some ⟨g, o, none⟩ ∧ ∀ (i : Nat) (p : Gev), T[i]? = some p → w.cell? ⟨g, o + i * 6, none⟩ = some (.int .i64 (p.1 : Nat)) ∧ w.cell? ⟨g, o + i * 6 + 1, none⟩ = some (.int .i64 (gk1 p.2.1)) ∧ w.cell? ⟨g, o + i * 6 + 2, none⟩ = some (.int .u8 (gk2 p.2.1)) ∧ w.cell? ⟨g, o + i * 6 + 3, none⟩ = some (.int .i64 (gk3 p.2.1)) ∧ w.cell? ⟨g, o + i * 6 + 4, none⟩ = some (.int .i64 0) ∧ w.cell? ⟨g, o + i * 6 + 5, none⟩ = some (.string (st p.2.2))
theorem Te.below {w u : World} {a : Option Addr} {T : List Gev} (h : Te w a T) (k : Below w.heap.size w u) : Te u a T := by
  rcases h with h | ⟨g, o, ha, hx⟩
  · exact Or.inl h
  · refine Or.inr ⟨g, o, ha, fun i p hp => ?_⟩
    obtain ⟨h0, h1, h2, h3, h4, h5⟩ := hx i p hp
    have f : ∀ {q : Addr} {v : Value}, w.cell? q = some v → u.cell? q = some v := fun {q v} hq => (k.cell (p := q) (World.block_lt_of_cell? w _ hq)).trans hq
    exact ⟨f h0, f h1, f h2, f h3, f h4, f h5⟩
theorem gcs_at {T : List Gev} {i : Nat} {p : Gev} (hp : T[i]? = some p) (j : Nat) (hj : j < 6) : (gcs T)[i * 6 + j]? = (gcs [p])[j]? := by
  have e : T = T.take i ++ p :: T.drop (i + 1) := by
    have h := (List.getElem?_eq_some_iff.1 hp)
    obtain ⟨h1, h2⟩ := h
    rw [← h2, ← List.drop_eq_getElem_cons h1, List.take_append_drop]
  have hl : (T.take i).length = i := by rw [List.length_take]; have := (List.getElem?_eq_some_iff.1 hp).1; omega
  rw [e, gcs_app, List.getElem?_append_right (by rw [gcs_length, hl]; omega), gcs_length, hl, show p :: T.drop (i + 1) = [p] ++ T.drop (i + 1) from rfl, gcs_app, List.getElem?_append_left (by rw [gcs_length]; simp; omega)]
  congr 1
  omega
theorem te_of {w : World} {lo : Nat} {v : Value} {T : List Gev} (h : Ow w lo 56 6 v T.length (gcs T)) : ∃ a c, v = .slice a T.length c ∧ Te w a T ∧ T.length ≤ c := by
  obtain ⟨a, c, hv, hc, h0 | ⟨g, hg, _, _, hx, _⟩, _⟩ := h.shape
  · exact ⟨a, c, hv, Or.inl (List.eq_nil_of_length_eq_zero h0), hc⟩
  · refine ⟨a, c, hv, Or.inr ⟨g, 0, hg, fun i p hp => ?_⟩, hc⟩
    have f : ∀ j, j < 6 → ∀ u, (gcs [p])[j]? = some u → w.cell? ⟨g, 0 + i * 6 + j, none⟩ = some u := fun j hj u hu => by
      rw [Nat.zero_add]
      exact hx _ _ (by rw [gcs_at hp j hj]; exact hu)
    exact ⟨f 0 (by decide) _ rfl, f 1 (by decide) _ rfl, f 2 (by decide) _ rfl, f 3 (by decide) _ rfl, f 4 (by decide) _ rfl, f 5 (by decide) _ rfl⟩
/-- What Parts answers. -/
structure Pr (lo : Nat) (w : World) (LS : List (List Nat)) (e : Ending) (w' : World) : Prop where
  ex : ∃ a n c, e = .returned (.slice a n c) ∧ Ll w' lo (.slice a n c) LS ∧ n = LS.length ∧ Below lo w w'
/-- Where the loop stands. -/
structure Pq (lo : Nat) (w wr : World) (v : Value) (ls : List (List Nat)) (rem : List Nat) (LS : List (List Nat)) : Prop where
  ll : Ll wr lo v ls
  bel : Below lo w wr
  po' : po ls rem = LS
  gd : Gd (decide (ls ≠ [])) rem
  bn : Bn 200000000000 ls rem
set_option maxHeartbeats 2000000 in
theorem parts_c (w : World) (a : Option Addr) (T : List Gev) (N c : Nat) (hN : T.length = N) (hT : Te w a T) (hsg : ∀ g ∈ cds T, g < 258) (hgd : Gd false (cds T)) (hbn : Bn 200000000000 [] (cds T)) : Calls Tryz.prog 9 #[.slice a N c] w fun e w' => Pr w.heap.size w (po [] (cds T)) e w' := by
  obtain ⟨LS, hLS⟩ : ∃ LS, po [] (cds T) = LS := ⟨_, rfl⟩
  rw [hLS]
  obtain ⟨lo, hlo⟩ : ∃ lo, w.heap.size = lo := ⟨_, rfl⟩
  rw [hlo]
  have hTT : ∀ u, Below lo w u → Te u a T := fun u hu => hT.below (by rw [hlo]; exact hu)
  have hNb : N ≤ 200000000000 := by have := hbn.all; simp [cds] at this; omega
  have A : Aside (T.length = N ∧ (∀ u, Below lo w u → Te u a T) ∧ (∀ g ∈ cds T, g < 258) ∧ N ≤ 200000000000) := ⟨hN, hTT, hsg, hNb⟩
  have A0 : Aside (Pq lo w w (.slice none 0 0) [] (cds T) LS) := ⟨Ll.nil (by omega), Below.refl _ _, hLS, hgd, hbn⟩
  clear hN hTT hsg hgd hbn hT hLS hlo hNb
  go_enter Tryz.func9, Tryz.ntmps9
  go_wp2_with fail
  go_loopg [3, 4] N (fun gg s3 s4 wr => ∃ (i : Nat) (ax : Option Addr) (n cx : Nat), s3 = .slice ax n cx ∧ s4 = .int .i64 (i : Int) ∧ Aside (i + gg = N ∧ ∃ ls, Pq lo w wr (.slice ax n cx) ls ((cds T).drop i) LS ∧ n = ls.length))
  case atStart => exact ⟨0, none, 0, 0, rfl, rfl, ⟨by omega, [], by simpa using A0.out, rfl⟩⟩
  case round =>
    obtain ⟨i, ax, n, cx, rfl, rfl, hT⟩ := hrel
    obtain ⟨hig, ls, pq, hnl⟩ := hT.out
    have a0 := A.out
    by_cases hi : i < N
    · have t1 : ((i : Int) < (N : Int)) = True := eq_true (by omega)
      have t2 : (i < N) = True := eq_true hi
      have bi : (i : Int) < 400000000000 := by omega
      obtain ⟨p, hp⟩ : ∃ p, T[i]? = some p := ⟨_, List.getElem?_eq_getElem (by omega)⟩
      obtain ⟨tt, g, nm⟩ := p
      have hdrop : (cds T).drop i = g :: (cds T).drop (i + 1) := by
        have : (cds T)[i]? = some g := by unfold cds; rw [List.getElem?_map, hp]; rfl
        exact drop_mor this
      obtain ⟨rem, hrem⟩ : ∃ rem, (cds T).drop (i + 1) = rem := ⟨_, rfl⟩
      rw [hrem] at hdrop
      rw [hdrop] at pq
      have hg258 : g < 258 := a0.2.2.1 g (by have := List.mem_of_getElem? hp; exact List.mem_map.2 ⟨_, this, rfl⟩)
      rcases a0.2.1 wr pq.bel with e | ⟨ge, oe, rfl, hce⟩
      · rw [e] at hp; simp at hp
      obtain ⟨_, ce1, ce2, _⟩ := hce i _ hp
      have AR : Aside ((cds T).drop (i + 1) = rem ∧ i + gk = N ∧ i < N) := ⟨hrem, hig, hi⟩
      have hpo := pq.po'
      have hGd := pq.gd
      have hBn := pq.bn
      by_cases h256 : g = 256
      · subst h256
        have ce1' : wr.cell? ⟨ge, oe + i * 6 + 1, none⟩ = some (.int .i64 1) := ce1
        obtain ⟨vs, hv1, hv2, hv3, hv4⟩ := pq.ll.ex
        obtain ⟨H, hH⟩ : ∃ H, wr.heap.size = H := ⟨_, rfl⟩
        have bA : Below wr.heap.size wr (wr.alloc (.cells #[.slice none 0 0] 22)) := (Below.refl _ wr).alloc (Nat.le_refl _) _
        have howA := hv2.below bA (Nat.le_refl _)
        rw [← hnl] at howA
        have hlA := pq.ll.below bA (Nat.le_refl _)
        have hcA : (wr.alloc (.cells #[.slice none 0 0] 22)).cell? ⟨H, 0, none⟩ = some (.slice none 0 0) := by rw [← hH, (Cells.new wr #[.slice none 0 0] 22).cell 0]; rfl
        have hlz : ([.slice none 0 0] : List Value) = [] ∨ ∃ b o, (some ⟨H, 0, none⟩ : Option Addr) = some ⟨b, o, none⟩ ∧ ∀ i u, ([.slice none 0 0] : List Value)[i]? = some u → (wr.alloc (.cells #[.slice none 0 0] 22)).cell? ⟨b, o + i, none⟩ = some u := Or.inr ⟨H, 0, rfl, fun i u hu => by
          cases i with
          | zero => simp at hu; rw [← hu]; exact hcA
          | succ i => simp at hu⟩
        have h1c : ∀ u ∈ ([.slice none 0 0] : List Value), u.oneCell' = true := fun u hu => by simp at hu; subst hu; rfl
        obtain ⟨i0, hii, hz0, hz1, hz2⟩ := ginfo_parts ginfo22
        have hAm : Aside (n + 1 ≤ maxLen ∧ (n + 1) * 24 ≤ 140737488355328) := by
          have h9 := hBn.all
          simp at h9
          exact ⟨by unfold maxLen; omega, by omega⟩
        have hT0 : ∀ (a5 : Option Addr) (c5 : Nat) (w5 : World), Got lo 22 1 (wr.alloc (.cells #[.slice none 0 0] 22)) w5 (.slice ax n cx) (.slice a5 (n + 1) c5) (n + 1) (vs ++ [.slice none 0 0]) → Pq lo w w5 (.slice a5 (n + 1) c5) (ls ++ [[]]) rem LS ∧ n + 1 = (ls ++ [[]]).length := fun a5 c5 w5 hgot => by
          refine ⟨⟨?_, (pq.bel.trans (bA.mono pq.ll.le)).trans hgot.bel, by simpa [po] using hpo, by simpa [Gd] using hGd, hBn.open_⟩, by simp; omega⟩
          have hlA2 := hlA
          rw [hnl] at hgot hlA2 ⊢
          exact hlA2.open_ vs hgot hv1 (fun i a l h5 h6 => (hv3 i a l h5 h6).below bA (Nat.le_refl _))
        have AT : Aside _ := hT0
        clear hT pq hpo hGd hBn hg258 hv1 hv2 hv3 hv4 bA hlA hcA hT0 hnl hce hp hdrop hrem hig hi a0 ce1 ce2
        go_upto_region 4 with (at_builtin; refine wpList_ow Tryz.prog _ rfl (.tmp 19) (.tmp 20) 24 rfl 22 i0 _ 1 24 Tryz.underlying24 hii hz0 hz1 hz2 rfl (by decide) lo (.slice ax n cx) n _ (by rfl) howA (some ⟨H, 0, none⟩) [.slice none 0 0] 1 1 rfl (by rfl) (by intro h; cases h) hlz h1c hAm.out.1 hAm.out.2 ?_; intro v5 w5 hgot; obtain ⟨a5, c5, hv5, _⟩ := hgot.ow.shape; subst hv5)
        have T0 : Aside _ := AT.out a5 c5 w5 hgot
        clear hgot howA hlz h1c hii hz0 hz1 hz2 hH
        go_wp2_with fail
        have ar := AR.out
        go_roundg (gk - 1)
        case measure => omega
        case rel => exact ⟨i + 1, a5, n + 1, c5, rfl, by go_num, ⟨by omega, ls ++ [[]], by rw [ar.1]; exact T0.out.1, T0.out.2⟩⟩
      · by_cases h257 : g = 257
        · subst h257
          have ce1' : wr.cell? ⟨ge, oe + i * 6 + 1, none⟩ = some (.int .i64 3) := ce1
          have A3 : Aside (Pq lo w wr (.slice ax n cx) ls rem LS ∧ n = ls.length) := ⟨⟨pq.ll, pq.bel, by simpa [po] using hpo, by simpa [Gd] using hGd, hBn.close⟩, hnl⟩
          clear hT pq hpo hGd hBn hg258 hnl hce hp hdrop hrem hig hi a0 ce1 ce2 h256
          go_wp2_with fail
          have ar := AR.out
          go_roundg (gk - 1)
          case measure => omega
          case rel => exact ⟨i + 1, ax, n, cx, rfl, by go_num, ⟨by omega, ls, by rw [ar.1]; exact A3.out.1, A3.out.2⟩⟩
        · have hkk : gk1 g = 2 := by simp [gk1, h256, h257]
          have hbb : gk2 g = g := by unfold gk2; rw [if_pos (by omega)]
          have ce1' : wr.cell? ⟨ge, oe + i * 6 + 1, none⟩ = some (.int .i64 2) := by rw [ce1, hkk]
          have ce2' : wr.cell? ⟨ge, oe + i * 6 + 1 + 1, none⟩ = some (.int .u8 (g : Int)) := by have := ce2; rw [hbb] at this; exact this
          have hGd2 : decide (ls ≠ []) = true ∧ Gd (decide (ls ≠ [])) rem := by simpa only [Gd, if_neg h256, if_neg h257] using hGd
          have hne : ls ≠ [] := by simpa using hGd2.1
          obtain ⟨m, hm⟩ : ∃ m, n = m + 1 := ⟨n - 1, by have := List.length_pos_iff.2 hne; omega⟩
          subst hm
          obtain ⟨l, hl⟩ : ∃ l, ls[m]? = some l := ⟨_, List.getElem?_eq_getElem (by omega)⟩
          obtain ⟨vs, hv1, hv2, hv3, hv4⟩ := pq.ll.ex
          rw [← hnl] at hv1 hv2
          obtain ⟨av, hav⟩ : ∃ av, vs[m]? = some av := ⟨_, List.getElem?_eq_getElem (by omega)⟩
          obtain ⟨a9, c9, h9, _, h10 | ⟨gb, h10, _, ⟨cgb, hcgb⟩, h11, h12⟩, _⟩ := hv2.shape
          · omega
          cases h9
          subst h10
          have cel := h11 m av hav
          have fel := h12 m
          have hoi := hv3 m av l hav hl
          obtain ⟨a6, c6, hv6, _⟩ := hoi.shape
          obtain ⟨k6, hk6⟩ : ∃ k6, l.length = k6 := ⟨_, rfl⟩
          rw [hk6] at hv6 hoi
          subst hv6
          obtain ⟨H, hH⟩ : ∃ H, wr.heap.size = H := ⟨_, rfl⟩
          obtain ⟨wA, hwA⟩ : ∃ wA, (wr.alloc (.cells #[.int .u8 (g : Int)] 5)).drew = wA := ⟨_, rfl⟩
          have bA : Below wr.heap.size wr wA := by rw [← hwA]; exact ((Below.refl _ wr).alloc (Nat.le_refl _) _).drew
          have hoiA := hoi.below bA (Nat.le_refl _)
          have hbyteA : wA.cell? ⟨H, 0, none⟩ = some (.int .u8 (g : Int)) := by rw [← hwA, ← hH]; exact ((Cells.new wr #[.int .u8 (g : Int)] 5).drew).cell 0
          have celA : (wr.alloc (.cells #[.int .u8 (g : Int)] 5)).cell? ⟨gb, m, none⟩ = some (.slice a6 k6 c6) := by
            have hlt : gb < wr.heap.size := (Array.getElem?_eq_some_iff.1 hcgb).1
            have := (((Below.refl _ wr).alloc (Nat.le_refl _) (.cells #[.int .u8 (g : Int)] 5)).cell (p := ⟨gb, m, none⟩) hlt)
            rw [this]; exact cel
          have c2A : (wr.alloc (.cells #[.int .u8 (g : Int)] 5)).cell? ⟨ge, oe + i * 6 + 1 + 1, none⟩ = some (.int .u8 (g : Int)) := by
            have := (((Below.refl _ wr).alloc (Nat.le_refl _) (.cells #[.int .u8 (g : Int)] 5)).cell (p := ⟨ge, oe + i * 6 + 1 + 1, none⟩) (World.block_lt_of_cell? wr _ ce2'))
            rw [this]; exact ce2'
          have hlen9 := hBn.each l (List.mem_of_getElem? hl)
          have hAm : Aside (k6 + 1 ≤ 140737488355328 ∧ l.length = k6) := by
            simp at hlen9
            exact ⟨by omega, hk6⟩
          obtain ⟨lsx, hlsx⟩ : ∃ lsx, lsx = ls.dropLast ++ [l ++ [g]] := ⟨_, rfl⟩
          have hlastl : ls.getLastD [] = l := by
            rw [List.getLastD_eq_getLast?, List.getLast?_eq_getElem?, ← hnl, Nat.add_sub_cancel, hl]; rfl
          have hT0 : ∀ (g5 c5 : Nat) (w5 : World), Gob lo wA w5 (.slice a6 k6 c6) (.slice (some ⟨g5, 0, none⟩) (k6 + 1) c5) (k6 + 1) (l ++ [g]) → (w5.cell? ⟨gb, m, none⟩ = some (.slice a6 k6 c6) ∧ w5.frozen? ⟨gb, m, none⟩ = false) ∧ Pq lo w (w5.setCell ⟨gb, m, none⟩ (.slice (some ⟨g5, 0, none⟩) (k6 + 1) c5)) (.slice (some ⟨gb, 0, none⟩) (m + 1) cx) lsx rem LS ∧ m + 1 = lsx.length := fun g5 c5 w5 hgob => by
            have hv2A := hv2.below bA (Nat.le_refl _)
            have hv2u := hv2A.got hgob.got (by decide)
            obtain ⟨a9, c9, h9, _, h10 | ⟨gb', h10, _, _, h11', h12'⟩, _⟩ := hv2u.shape
            · omega
            cases h9
            cases h10
            have o6 : Only gb w5 (w5.setCell ⟨gb, m, none⟩ (.slice (some ⟨g5, 0, none⟩) (k6 + 1) c5)) := (Only.refl gb w5).setCell _ _
            have hlogb : lo ≤ gb := by
              rcases hv2u.own.2 with ⟨hv, h0⟩ | ⟨g', c', cur, hv, hg, hh, _⟩
              · cases hv
              · cases hv; exact hg
            refine ⟨⟨h11' m _ hav, h12' m⟩, ⟨?_, ((pq.bel.trans (bA.mono pq.ll.le)).trans hgob.got.bel).trans (o6.below hlogb), ?_, ?_, ?_⟩, ?_⟩
            · rw [hlsx]
              have hllA := pq.ll.below bA (Nat.le_refl _)
              have hg2 : Gob lo wA w5 (.slice a6 k6 c6) (.slice (some ⟨g5, 0, none⟩) (k6 + 1) c5) (l.length + 1) (l ++ [g]) := by rw [hk6]; exact hgob
              exact Ll.byte hllA hnl.symm hv1 hl hv2A (fun i a l' h5 h6 => (hv3 i a l' h5 h6).below bA (Nat.le_refl _)) hv4 hav hg2 rfl
            · rw [hlsx, ← hpo]; simp only [po, if_neg h256, if_neg h257, hlastl]
            · rw [hlsx]
              have : decide (ls.dropLast ++ [l ++ [g]] ≠ []) = true := by simp
              rw [this]
              have h5 := hGd2.2
              rw [hGd2.1] at h5
              exact h5
            · rw [hlsx]; exact hBn.byte (List.mem_of_getElem? hl)
            · rw [hlsx]; simp; omega
          have AT : Aside _ := hT0
          have hm1 : ((m : Int) + 1) - 1 = (m : Int) := by omega
          have bm : (m : Int) < 400000000000 := by have := hBn.all; simp at this; omega
          rw [← hwA] at hoiA hbyteA AT
          have b1 : ((m : Int) < (m : Int) + 1) = True := eq_true (by omega)
          clear hT pq hpo hGd hBn hg258 hv1 hv2 hv3 hv4 bA hlsx hT0 hnl hlen9 hlastl h11 h12 hoi hGd2 hne hl hav hkk hbb hcgb hwA hk6 hce hp hdrop hrem hig hi a0 ce1 ce2 h256 h257
          have hwA9 : Aside (IntKind.i64.wrap (m : Int) = (m : Int)) := IntWalk.i64_in _ ⟨by omega, by omega⟩
          go_upto_region 9 with fail
          have hwm := hwA9.out
          go_region_law (refine step_gob rfl (.tmp 33) (.tmp 40) rfl lo (.slice a6 k6 c6) k6 l (by go_simp) hoiA hAm.out.2 H 1 g (by go_simp) hbyteA hAm.out.1 ?_; intro g5 c5 w5 hgob; have e4 := (AT.out g5 c5 w5 hgob).1.1; have f4 := (AT.out g5 c5 w5 hgob).1.2)
          all_goals
            have T0 : Aside _ := (AT.out g5 c5 w5 hgob).2
            clear hgob hoiA hbyteA hH cel fel celA c2A ce1' ce2' hwm
            go_wp2_with fail
            have ar := AR.out
            go_roundg (gk - 1)
            case measure => omega
            case rel => exact ⟨i + 1, some ⟨gb, 0, none⟩, m + 1, cx, rfl, by go_num, ⟨by omega, lsx, by rw [ar.1]; exact T0.out.1, T0.out.2⟩⟩
    · have t1 : ((i : Int) < (N : Int)) = False := eq_false (by omega)
      have t2 : (i < N) = False := eq_false hi
      have hnil : (cds T).drop i = [] := List.drop_eq_nil_of_le (by unfold cds; rw [List.length_map]; omega)
      rw [hnil] at pq
      have e : ls = LS := pq.po'
      have A3 : Aside (Ll wr lo (.slice ax n cx) LS ∧ n = LS.length ∧ Below lo w wr) := ⟨by rw [← e]; exact pq.ll, by rw [← e]; exact hnl, pq.bel⟩
      clear hT pq hnl hig hi a0 hnil e
      go_wp2_with fail
      first | go_ret | go_ret2
      exact ⟨⟨_, _, _, rfl, A3.out.1, A3.out.2.1, A3.out.2.2⟩⟩
/-- Names out of events. -/
def nms : List (List Nat) → List Evn → List (List Nat)
  | ns, [] => ns
  | ns, e :: r => if e.1 = 256 then nms (ns ++ [e.2]) r else nms ns r
theorem po2_two : ∀ (E : List Evn) (ns ls : List (List Nat)), po2 ns ls E = (nms ns E, po ls (E.map fun e => e.1))
  | [], ns, ls => rfl
  | e :: r, ns, ls => by
    simp only [po2, nms, po, List.map_cons]
    split
    · exact po2_two r _ _
    · split
      · exact po2_two r _ _
      · exact po2_two r _ _
theorem gd2_gd : ∀ (E : List Evn) (i : Bool), Gd2 i E → Gd i (E.map fun e => e.1)
  | [], i, _ => trivial
  | e :: r, i, h => by
    simp only [Gd2] at h
    simp only [Gd, List.map_cons]
    split
    · rename_i q; rw [if_pos q] at h; exact gd2_gd r _ h
    · rename_i q
      rw [if_neg q] at h
      split
      · rename_i q2; rw [if_pos q2] at h; exact gd2_gd r _ h
      · rename_i q2; rw [if_neg q2] at h; exact ⟨h.1, gd2_gd r _ h.2⟩
theorem cds_evx (T : List Gev) : (evx T).map (fun e => e.1) = cds T := by simp [evx, cds]
/-- What Names answers. -/
structure Nr (lo : Nat) (w : World) (NS : List (List Nat)) (e : Ending) (w' : World) : Prop where
  ex : ∃ v, e = .returned v ∧ Ns w' lo v NS ∧ Below lo w w'
/-- Where the loop stands. -/
structure Nq (lo : Nat) (w wr : World) (v : Value) (ns : List (List Nat)) (rem : List Evn) (NS : List (List Nat)) : Prop where
  ns_ : Ns wr lo v ns
  bel : Below lo w wr
  no : nms ns rem = NS
  bn : ns.length + rem.length ≤ 200000000000
set_option maxHeartbeats 2000000 in
theorem names_c (w : World) (a : Option Addr) (T : List Gev) (N c : Nat) (hN : T.length = N) (hT : Te w a T) (hNb : N ≤ 200000000000) : Calls Tryz.prog 7 #[.slice a N c] w fun e w' => Nr w.heap.size w (nms [] (evx T)) e w' := by
  obtain ⟨NS, hNS⟩ : ∃ NS, nms [] (evx T) = NS := ⟨_, rfl⟩
  rw [hNS]
  obtain ⟨lo, hlo⟩ : ∃ lo, w.heap.size = lo := ⟨_, rfl⟩
  rw [hlo]
  have hTT : ∀ u, Below lo w u → Te u a T := fun u hu => hT.below (by rw [hlo]; exact hu)
  have A : Aside (T.length = N ∧ (∀ u, Below lo w u → Te u a T) ∧ N ≤ 200000000000) := ⟨hN, hTT, hNb⟩
  have A0 : Aside (Nq lo w w (.slice none 0 0) [] (evx T) NS) := ⟨Ns.nil (by omega), Below.refl _ _, hNS, by simp [evx]; omega⟩
  clear hN hTT hT hNS hlo hNb
  go_enter Tryz.func7, Tryz.ntmps7
  go_wp2_with fail
  go_loopg [3, 4] N (fun gg s3 s4 wr => ∃ (i : Nat) (ax : Option Addr) (n cx : Nat), s3 = .slice ax n cx ∧ s4 = .int .i64 (i : Int) ∧ Aside (i + gg = N ∧ ∃ ns, Nq lo w wr (.slice ax n cx) ns ((evx T).drop i) NS ∧ n = ns.length))
  case atStart => exact ⟨0, none, 0, 0, rfl, rfl, ⟨by omega, [], by simpa using A0.out, rfl⟩⟩
  case round =>
    obtain ⟨i, ax, n, cx, rfl, rfl, hT⟩ := hrel
    obtain ⟨hig, ns, pq, hnl⟩ := hT.out
    have a0 := A.out
    by_cases hi : i < N
    · have t1 : ((i : Int) < (N : Int)) = True := eq_true (by omega)
      have t2 : (i < N) = True := eq_true hi
      have bi : (i : Int) < 400000000000 := by omega
      obtain ⟨p, hp⟩ : ∃ p, T[i]? = some p := ⟨_, List.getElem?_eq_getElem (by omega)⟩
      obtain ⟨tt, g, nm⟩ := p
      have hdrop : (evx T).drop i = (g, nm) :: (evx T).drop (i + 1) := by
        have : (evx T)[i]? = some (g, nm) := by unfold evx; rw [List.getElem?_map, hp]; rfl
        exact drop_mor this
      obtain ⟨rem, hrem⟩ : ∃ rem, (evx T).drop (i + 1) = rem := ⟨_, rfl⟩
      rw [hrem] at hdrop
      rw [hdrop] at pq
      rcases a0.2.1 wr pq.bel with e | ⟨ge, oe, rfl, hce⟩
      · rw [e] at hp; simp at hp
      obtain ⟨_, ce1, _, _, _, ce5⟩ := hce i _ hp
      have AR : Aside ((evx T).drop (i + 1) = rem ∧ i + gk = N ∧ i < N) := ⟨hrem, hig, hi⟩
      have hpo := pq.no
      have hBn := pq.bn
      by_cases h256 : g = 256
      · subst h256
        have ce1' : wr.cell? ⟨ge, oe + i * 6 + 1, none⟩ = some (.int .i64 1) := ce1
        obtain ⟨vs, hvs⟩ : ∃ vs, st nm = vs := ⟨_, rfl⟩
        have ce5' : wr.cell? ⟨ge, oe + i * 6 + 1 + 4, none⟩ = some (.string vs) := by rw [← hvs]; exact ce5
        obtain ⟨H, hH⟩ : ∃ H, wr.heap.size = H := ⟨_, rfl⟩
        have bA : Below wr.heap.size wr (wr.alloc (.cells #[.string vs] 9)) := (Below.refl _ wr).alloc (Nat.le_refl _) _
        have hnA := pq.ns_.below bA (Nat.le_refl _)
        have howN : Ow (wr.alloc (.cells #[.string vs] 9)) lo 9 1 (.slice ax n cx) n (sv ns) := by have q := hnA; unfold Ns at q; rw [← hnl] at q; exact q
        have hcA : (wr.alloc (.cells #[.string vs] 9)).cell? ⟨H, 0, none⟩ = some (.string vs) := by rw [← hH, (Cells.new wr #[.string vs] 9).cell 0]; rfl
        have hlN : ([.string vs] : List Value) = [] ∨ ∃ b o, (some ⟨H, 0, none⟩ : Option Addr) = some ⟨b, o, none⟩ ∧ ∀ i u, ([.string vs] : List Value)[i]? = some u → (wr.alloc (.cells #[.string vs] 9)).cell? ⟨b, o + i, none⟩ = some u := Or.inr ⟨H, 0, rfl, fun i u hu => by
          cases i with
          | zero => simp at hu; rw [← hu]; exact hcA
          | succ i => simp at hu⟩
        have h1N : ∀ u ∈ ([.string vs] : List Value), u.oneCell' = true := fun u hu => by simp at hu; subst hu; rfl
        obtain ⟨i9, hi9, hy0, hy1, hy2⟩ := ginfo_parts ginfo9
        have hAm : Aside (n + 1 ≤ maxLen ∧ (n + 1) * 16 ≤ 140737488355328) := by
          simp at hBn
          exact ⟨by unfold maxLen; omega, by omega⟩
        have hT0 : ∀ (a5 : Option Addr) (c5 : Nat) (w5 : World), Got lo 9 1 (wr.alloc (.cells #[.string vs] 9)) w5 (.slice ax n cx) (.slice a5 (n + 1) c5) (n + 1) (sv ns ++ [.string vs]) → Nq lo w w5 (.slice a5 (n + 1) c5) (ns ++ [nm]) rem NS ∧ n + 1 = (ns ++ [nm]).length := fun a5 c5 w5 hgot => by
          refine ⟨⟨?_, (pq.bel.trans (bA.mono (Ow.le pq.ns_))).trans hgot.bel, by simpa [nms] using hpo, by simp at hBn ⊢; omega⟩, by simp; omega⟩
          have := hgot.ow
          show Ow w5 lo 9 1 _ (ns ++ [nm]).length (sv (ns ++ [nm]))
          rw [sv_append, List.length_append, ← hnl]
          show Ow w5 lo 9 1 _ (n + 1) (sv ns ++ [.string (st nm)])
          rw [hvs]
          exact this
        have AT : Aside _ := hT0
        clear hT pq hpo hBn hvs bA hnA hcA hT0 hnl hce hp hdrop hrem hig hi a0 ce1 ce5
        go_upto_region 4 with (at_builtin; refine wpList_ow Tryz.prog _ rfl (.tmp 18) (.tmp 25) 23 rfl 9 i9 _ 1 16 Tryz.underlying23 hi9 hy0 hy1 hy2 rfl (by decide) lo (.slice ax n cx) n _ (by rfl) howN (some ⟨H, 0, none⟩) [.string vs] 1 1 rfl (by rfl) (by intro h; cases h) hlN h1N hAm.out.1 hAm.out.2 ?_; intro v5 w5 hgot; obtain ⟨a5, c5, hv5, _⟩ := hgot.ow.shape; subst hv5)
        have T0 : Aside _ := AT.out a5 c5 w5 hgot
        clear hgot howN hlN h1N hi9 hy0 hy1 hy2 hH ce1' ce5'
        go_wp2_with fail
        have ar := AR.out
        go_roundg (gk - 1)
        case measure => omega
        case rel => exact ⟨i + 1, a5, n + 1, c5, rfl, by go_num, ⟨by omega, ns ++ [nm], by rw [ar.1]; exact T0.out.1, T0.out.2⟩⟩
      · have hk1 : (gk1 g == 1) = false := by
          rw [beq_eq_false_iff_ne]
          unfold gk1
          rw [if_neg h256]
          split <;> decide
        obtain ⟨vk, hvk⟩ : ∃ vk, gk1 g = vk := ⟨_, rfl⟩
        rw [hvk] at hk1
        have ce1' : wr.cell? ⟨ge, oe + i * 6 + 1, none⟩ = some (.int .i64 vk) := by rw [← hvk]; exact ce1
        have A3 : Aside (Nq lo w wr (.slice ax n cx) ns rem NS ∧ n = ns.length) := ⟨⟨pq.ns_, pq.bel, by simpa [nms, h256] using hpo, by simp at hBn; omega⟩, hnl⟩
        clear hT pq hpo hBn hnl hce hp hdrop hrem hig hi a0 ce1 ce5 h256 hvk
        go_wp2_with fail
        have ar := AR.out
        go_roundg (gk - 1)
        case measure => omega
        case rel => exact ⟨i + 1, ax, n, cx, rfl, by go_num, ⟨by omega, ns, by rw [ar.1]; exact A3.out.1, A3.out.2⟩⟩
    · have t1 : ((i : Int) < (N : Int)) = False := eq_false (by omega)
      have t2 : (i < N) = False := eq_false hi
      have hnil : (evx T).drop i = [] := List.drop_eq_nil_of_le (by unfold evx; rw [List.length_map]; omega)
      rw [hnil] at pq
      have e : ns = NS := pq.no
      have A3 : Aside (Ns wr lo (.slice ax n cx) NS ∧ Below lo w wr) := ⟨by rw [← e]; exact pq.ns_, pq.bel⟩
      clear hT pq hnl hig hi a0 hnil e
      go_wp2_with fail
      first | go_ret | go_ret2
      exact ⟨⟨_, rfl, A3.out.1, A3.out.2⟩⟩
end Go.Proofs.YtcmmjbkgoafbnaaGreatDoor

/-
  What Same comes to.
-/
namespace Go.Proofs.YtcmmjbkgoafbnaaGreatDoor
open Go.RowKit
set_option linter.unusedVariables false
set_option maxHeartbeats 1000000 in
theorem same_c (a b : Option Addr) (l m : List Nat) (L M c d : Nat) (w : World) (hL : l.length = L) (hM : m.length = M) (hlt : L < 9223372036854775808) (h1 : Lies w a l) (h2 : Lies w b m) : Calls Tryz.prog 10 #[.slice a L c, .slice b M d] w fun e w' => e = .returned (.bool (decide (l = m))) ∧ ∃ n, w' = w.drewN n := by
  have AL : Aside (l.length = L ∧ m.length = M ∧ L < 9223372036854775808) := ⟨hL, hM, hlt⟩
  clear hL hM hlt
  by_cases hLM : L = M
  · obtain ⟨q, hq⟩ : ∃ q, decide (l = m) = q := ⟨_, rfl⟩
    rw [hq]
    have AQ : Aside (decide (l = m) = q) := hq
    clear hq
    subst hLM
    have hlz : ((L : Int) != (L : Int)) = false := by simp
    go_enter Tryz.func10, Tryz.ntmps10
    go_wp2_with fail
    go_loopg [5] L (fun g si wr => ∃ k : Nat, k + g = L ∧ si = .int .i64 k ∧ Aside (l.take k = m.take k) ∧ ∃ n, wr = w.drewN n)
    case atStart => exact ⟨0, by omega, rfl, (show _ = _ by simp), 0, rfl⟩
    case round =>
      obtain ⟨k, hkg, rfl, hT, n, rfl⟩ := hrel
      have AK : Aside (k + gk = L) := hkg
      clear hkg
      by_cases hk : k < L
      · have hki : (k : Int) < (L : Int) := by omega
        have hkl : k < l.length := by have := AL.out; omega
        have hkm : k < m.length := by have := AL.out; omega
        rcases h1 with rfl | ⟨b1, o1, rfl, h1⟩
        · simp at hkl
        rcases h2 with rfl | ⟨b2, o2, rfl, h2⟩
        · simp at hkm
        have g1 := h1 k _ (List.getElem?_eq_getElem hkl)
        have g2 := h2 k _ (List.getElem?_eq_getElem hkm)
        obtain ⟨x, hx⟩ : ∃ x, l[k] = x := ⟨_, rfl⟩
        obtain ⟨y, hy⟩ : ∃ y, m[k] = y := ⟨_, rfl⟩
        have ex : l[k]? = some x := by rw [List.getElem?_eq_getElem hkl, hx]
        have ey : m[k]? = some y := by rw [List.getElem?_eq_getElem hkm, hy]
        rw [hx] at g1
        rw [hy] at g2
        have hkb : (k : Int) + 1 < 9223372036854775808 := by have := AL.out; omega
        by_cases hxy : x = y
        · have hT2 : Aside (l.take (k + 1) = m.take (k + 1)) := by show _ = _; rw [List.take_add_one, List.take_add_one, hT.out, ex, ey, hxy]
          subst hxy
          have hz : ((x : Int) != (x : Int)) = false := by simp
          clear h1 h2 hx hy hkl hkm ex ey hT
          go_wp2_with fail
          go_quiet (fail)
          go_wp2_with fail
          have AK := AK.out
          go_roundg (gk - 1)
          case measure => omega
          case rel => exact ⟨k + 1, by omega, by go_num, hT2, _, rfl⟩
        · have hz : ((x : Int) != (y : Int)) = true := by rw [bne_iff_ne]; omega
          have hz2 : ((x : Int) == (y : Int)) = false := by rw [beq_eq_false_iff_ne]; omega
          have hne : Aside (false = q) := by
            show _ = _
            rw [← AQ.out]
            exact (decide_eq_false (fun e => hxy (by rw [e, ey] at ex; cases ex; rfl))).symm
          clear h1 h2 hx hy hkl hkm ex ey hT hxy
          go_wp2_with fail
          go_quiet (fail)
          go_wp2_with fail
          go_ret
          exact ⟨by rw [← hne.out]; rfl, _, World.drewN_drewN _ _ _⟩
      · have hki : ¬ (k : Int) < (L : Int) := by omega
        have heq : Aside (true = q) := by
          show _ = _
          rw [← AQ.out]
          have h3 := hT.out
          rw [List.take_of_length_le (by have := AL.out; omega), List.take_of_length_le (by have := AL.out; omega)] at h3
          exact (decide_eq_true h3).symm
        clear hT
        go_wp2_with fail
        go_ret
        exact ⟨by rw [← heq.out]; rfl, _, rfl⟩
  · have hq : decide (l = m) = false := decide_eq_false (fun e => hLM (by rw [← AL.out.1, ← AL.out.2.1, e]))
    rw [hq]
    have hz : ((L : Int) != (M : Int)) = true := by rw [bne_iff_ne]; omega
    have hz2 : ((L : Int) == (M : Int)) = false := by rw [beq_eq_false_iff_ne]; omega
    clear hq hLM h1 h2
    go_enter Tryz.func10, Tryz.ntmps10
    go_wp2_with fail
    go_ret
    exact ⟨rfl, 0, rfl⟩
end Go.Proofs.YtcmmjbkgoafbnaaGreatDoor

/-
  What awake comes to.
-/
namespace Go.Proofs.YtcmmjbkgoafbnaaGreatDoor
open Go.RowKit
set_option linter.unusedVariables false
/-- The archive that awake asks of. -/
def exl : List Ent := [([97], [97, 98, 99], 0, 0), ([98], [], 1, 0)]
theorem exl_ok : ∀ e ∈ exl, Eok e := fun e he => by
  unfold exl at he
  simp only [List.mem_cons, List.not_mem_nil, or_false] at he
  rcases he with rfl | rfl
  · exact ⟨by unfold Oct; decide, by decide, by unfold Oct; decide, by decide, by decide, by decide⟩
  · exact ⟨by unfold Oct; decide, by decide, by unfold Oct; decide, by decide, by decide, by decide⟩
theorem exl_n : tdn exl = [[97], [98]] := by decide
theorem exl_d : tdd exl = [[97, 98, 99], []] := by decide
set_option maxRecDepth 100000 in
set_option maxHeartbeats 1000000 in
theorem awake_c (w : World) (he : Er w) : Calls Tryz.prog 11 #[] w fun e w' => e = .returned (.bool true) ∧ Below w.heap.size w w' := by
  obtain ⟨H, hH⟩ : ∃ H, w.heap.size = H := ⟨_, rfl⟩
  obtain ⟨w1, hw1⟩ : ∃ w1, w1 = w.alloc (.cells #[.int .u8 97, .int .u8 98, .int .u8 99] 5 (3, 4)) := ⟨_, rfl⟩
  have b1 : Below w.heap.size w w1 := by rw [hw1]; exact (Below.refl _ w).alloc (Nat.le_refl _) _
  have hz1 : w1.heap.size = H + 1 := by rw [hw1, ← hH]; simp
  have hc1 : ∀ i x, (#[.int .u8 97, .int .u8 98, .int .u8 99] : Array Value)[i]? = some x → w1.cell? ⟨H, i, none⟩ = some x := fun i x hx => by
    rw [hw1, ← hH]
    simp only [World.cell?, World.alloc]
    simp [hx]
  obtain ⟨w2, hw2⟩ : ∃ w2, w2 = w1.alloc (.cells #[.string ⟨#[97]⟩, .slice (some ⟨H, 0, none⟩) 3 3, .int .u8 0, .int .u8 0, .string ⟨#[98]⟩, .slice none 0 0, .int .u8 1, .int .u8 0] 59) := ⟨_, rfl⟩
  have b2 : Below w1.heap.size w1 w2 := by rw [hw2]; exact (Below.refl _ w1).alloc (Nat.le_refl _) _
  have hz2 : w2.heap.size = H + 2 := by rw [hw2]; simp [hz1]
  have hc2 : Cells w2 (H + 1) #[.string ⟨#[97]⟩, .slice (some ⟨H, 0, none⟩) 3 3, .int .u8 0, .int .u8 0, .string ⟨#[98]⟩, .slice none 0 0, .int .u8 1, .int .u8 0] 59 := by rw [hw2, ← hz1]; exact Cells.new w1 _ 59
  have hc12 : ∀ i x, (#[.int .u8 97, .int .u8 98, .int .u8 99] : Array Value)[i]? = some x → w2.cell? ⟨H, i, none⟩ = some x := fun i x hx => (b2.cell (p := ⟨H, i, none⟩) (World.block_lt_of_cell? w1 _ (hc1 i x hx))).trans (hc1 i x hx)
  have hEm : Em w2 (some ⟨H + 1, 0, none⟩) exl := Or.inr ⟨H + 1, 0, rfl, fun i e hi => by
    cases i with
    | zero =>
      have : e = ([97], [97, 98, 99], 0, 0) := by simpa [exl] using hi.symm
      subst this
      refine ⟨⟨some ⟨H, 0, none⟩, 3, 3, ?_, ?_, ?_, ?_, ?_, rfl, Nat.le_refl _, fun q => by cases q⟩⟩
      · rw [hc2.cell]; rfl
      · rw [hc2.cell]; rfl
      · rw [hc2.cell]; rfl
      · rw [hc2.cell]; rfl
      · refine Or.inr ⟨H, 0, rfl, fun j x hx => ?_⟩
        rw [Nat.zero_add]
        refine hc12 j _ ?_
        match j, hx with
        | 0, hx => simp at hx; subst hx; rfl
        | 1, hx => simp at hx; subst hx; rfl
        | 2, hx => simp at hx; subst hx; rfl
        | j + 3, hx => simp at hx
    | succ i =>
      cases i with
      | zero =>
        have : e = ([98], [], 1, 0) := by simpa [exl] using hi.symm
        subst this
        refine ⟨⟨none, 0, 0, ?_, ?_, ?_, ?_, ?_, rfl, Nat.le_refl _, fun _ => ⟨rfl, rfl⟩⟩⟩
        · rw [hc2.cell]; rfl
        · rw [hc2.cell]; rfl
        · rw [hc2.cell]; rfl
        · rw [hc2.cell]; rfl
        · exact Or.inl rfl
      | succ i => simp [exl] at hi⟩
  have hwr := write_c (some ⟨H + 1, 0, none⟩) exl 2 2 w2 rfl (by decide) hEm exl_ok
  have A : Aside (Below w.heap.size w w2 ∧ w.heap.size = H ∧ w2.heap.size = H + 2 ∧ Er w ∧ 3 ≤ w.heap.size) := ⟨b1.trans (b2.mono b1.size), hH, hz2, he, he.1⟩
  have hw2' : w1.alloc (.cells #[.string ⟨#[97]⟩, .slice (some ⟨H, 0, none⟩) 3 3, .int .u8 0, .int .u8 0, .string ⟨#[98]⟩, .slice none 0 0, .int .u8 1, .int .u8 0] 59) = w2 := hw2.symm
  have hcv : (convert 22 22 (.slice (some ⟨H, 0, none⟩) 3 3)).run Tryz.prog (w.alloc (.cells #[.int .u8 97, .int .u8 98, .int .u8 99] 5)) = .ok (.slice (some ⟨H, 0, none⟩) 3 3) w1 := by
    rw [hw1, ← hH]
    exact Lib.run_convert_bytes_const w 22 5 _ 3 3 Tryz.underlying22 Tryz.underlying5
  clear b1 b2 hz2 hc1 hc2 hc12 hEm hw1 hw2 he
  go_enter Tryz.func11, Tryz.ntmps11
  go_upto_region 2 with (first
    | (go_at_call 25; refine hwr.mono ?_; rintro e3 w3 ⟨v3, rfl, ow3, b3⟩; obtain ⟨a3, c3, hv3, hl3, hc3, hli3, hn3⟩ := ow3.lies; subst hv3; obtain ⟨sx, Tx, hrx, hzx, hpx⟩ := back_run exl_ok; have hwh := wwhole_c w3 (A.out.2.2.2.1.below (A.out.1.trans (b3.mono A.out.1.size)) (by have := A.out.2.2.2.2; omega)) a3 (wri exl) (wri exl).length c3 hli3 rfl (by have := wri_len exl_ok (by decide); omega) (wri_oct exl_ok) _ sx Tx hrx (Or.inr rfl) _ hpx 0 hzx)
    | (go_at_call 4; refine hwh.mono ?_; rintro e4 w4 ⟨vn, vl, lo2, rfl, hlo2, nn4, ll4, bel4⟩))
  rw [exl_n] at nn4
  rw [exl_d] at ll4
  obtain ⟨an, cn, hvn, hcn, nl4, _⟩ := nn4.nl
  subst hvn
  obtain ⟨al, cl, hvl, _⟩ := ll4.shape
  subst hvl
  obtain ⟨g, a5, c5, hg, k0, li0, _, _⟩ := ll4.at rfl (i := 0) (l := [97, 98, 99]) rfl
  subst hg
  obtain ⟨g2, a6, c6, hg2, k1, li1, _, _⟩ := ll4.at rfl (i := 1) (l := []) rfl
  cases hg2
  obtain ⟨H4, hH4⟩ : ∃ H4, w4.heap.size = H4 := ⟨_, rfl⟩
  obtain ⟨w5, hw5⟩ : ∃ w5, w5 = w4.alloc (.cells #[.string ⟨#[97]⟩, .string ⟨#[98]⟩] 9) := ⟨_, rfl⟩
  have b5 : Below w4.heap.size w4 w5 := by rw [hw5]; exact (Below.refl _ w4).alloc (Nat.le_refl _) _
  have hc5 : Cells w5 H4 #[.string ⟨#[97]⟩, .string ⟨#[98]⟩] 9 := by rw [hw5, ← hH4]; exact Cells.new w4 _ 9
  have nl5 : Nl w5 (some ⟨H4, 0, none⟩) [[97], [98]] := Or.inr ⟨H4, 0, rfl, fun i x hx => by
    rw [Nat.zero_add, hc5.cell]
    match i, hx with
    | 0, hx => simp at hx; subst hx; rfl
    | 1, hx => simp at hx; subst hx; rfl
    | i + 2, hx => simp at hx⟩
  have hstr : Calls Tryz.prog 6 #[.slice an 2 cn, .slice (some ⟨H4, 0, none⟩) 2 2] w5 fun e w' => e = .returned (.bool true) ∧ ∃ m, w' = w5.drewN m := strings_c w5 an (some ⟨H4, 0, none⟩) [[97], [98]] 2 cn 2 rfl (by decide) (nl4.below b5) nl5
  have k05 : ∀ m, (w5.drewN m).cell? ⟨g, 0, none⟩ = some (.slice a5 3 c5) := fun m => (b5.cell (p := ⟨g, 0, none⟩) (World.block_lt_of_cell? w4 _ k0)).trans k0
  have k15 : ∀ m, (w5.drewN m).cell? ⟨g, 1, none⟩ = some (.slice a6 0 c6) := fun m => (b5.cell (p := ⟨g, 1, none⟩) (World.block_lt_of_cell? w4 _ k1)).trans k1
  have hcs : ∀ m, (convert 22 9 (.slice a5 3 c5)).run Tryz.prog (w5.drewN m) = .ok (.string ⟨#[97, 98, 99]⟩) (w5.drewN m) := fun m => conv_st 3 c5 rfl (show ∀ x ∈ [97, 98, 99], x < 256 by decide) ((li0.below b5).drewN m)
  have A5 : Aside (Below w.heap.size w w5) := (A.out.1.trans (b3.mono A.out.1.size)).trans ((bel4.trans (b5.mono bel4.size)).mono (by have := A.out.1.size; have := b3.size; omega))
  have hw5' : w4.alloc (.cells #[.string ⟨#[97]⟩, .string ⟨#[98]⟩] 9) = w5 := hw5.symm
  clear hwr hwh hrx hzx hpx ow3 hli3 hc3 hn3 hl3 nn4 ll4 nl4 k0 k1 li0 li1 b5 hc5 nl5 hw5 hw2' hcv hz1 hH bel4 b3 hlo2
  go_wp2_with (go_at_call 6; refine hstr.mono ?_; rintro e6 w6 ⟨rfl, m6, rfl⟩; have k06 := k05 m6; have k16 := k15 m6; have hc6 := hcs m6)
  first | go_ret | go_ret2
  exact ⟨rfl, Below.drewN2 A5.out _⟩
end Go.Proofs.YtcmmjbkgoafbnaaGreatDoor

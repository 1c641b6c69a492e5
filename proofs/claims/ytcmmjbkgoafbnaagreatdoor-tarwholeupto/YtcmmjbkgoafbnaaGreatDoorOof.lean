/-
  What the document's Of comes to: the walk.
-/
import Derived.Test.YtcmmjbkgoafbnaaGreatDoorMb
import Derived.Test.YtcmmjbkgoafbnaaGreatDoorRefReadB
import Derived.Test.YtcmmjbkgoafbnaaGreatDoorRight
import Derived.Test.YtcmmjbkgoafbnaaGreatDoorSumsB
import Derived.Laws.Rows
import Derived.Laws.ResultCell
import Derived.Deep.CutBlock
import Derived.Deep.DeepCutAuto
namespace Go.Proofs.YtcmmjbkgoafbnaaGreatDoor
open Go.RowKit
set_option linter.unusedVariables false
section
variable {L C : Nat} {a : Option Addr} {b : List Nat}
set_option maxRecDepth 1000000 in
set_option maxHeartbeats 16000000 in
theorem of_c (w : World) (ho : Oct b) (hL : b.length = L) (hLb : L ≤ 10000000000) (hLC : L ≤ C) (hC : C < 1000000000000) (hli : Lies w a b) : Calls Tryz.prog 5 #[.slice a L C] w fun e w' => Ofr b w.heap.size w e w' := by
  obtain ⟨H, hH⟩ : ∃ H, w.heap.size = H := ⟨_, rfl⟩
  rw [hH]
  obtain ⟨w1, hw1⟩ : ∃ w1, (w.alloc (.cells zrd 31)).alloc (.cells #[.slice none 0 0, .int .i64 0, .int .i64 (L : Int), .string ⟨#[]⟩, .bool false, .int .u64 0, .bool false, .bool false] 31) = w1 := ⟨_, rfl⟩
  have kH : Cells w1 H zrd 31 := by rw [← hw1, ← hH]; exact (Cells.new w _ 31).alloc _
  have kR : Cells w1 (H + 1) #[.slice none 0 0, .int .i64 0, .int .i64 (L : Int), .string ⟨#[]⟩, .bool false, .int .u64 0, .bool false, .bool false] 31 := by
    rw [← hw1]
    have := Cells.new (w.alloc (.cells zrd 31)) #[.slice none 0 0, .int .i64 0, .int .i64 (L : Int), .string ⟨#[]⟩, .bool false, .int .u64 0, .bool false, .bool false] 31
    rwa [show (w.alloc (.cells zrd 31)).heap.size = H + 1 by rw [← hH]; simp] at this
  have bel : Below H w w1 := by
    rw [← hw1, ← hH]
    exact ((Below.refl _ w).alloc (Nat.le_refl _) _).alloc (by simp) _
  have hz1 : w1.heap.size = H + 2 := by rw [← hw1, ← hH]; simp
  have g1 : Dm w1 H (H + 1) ⟨[], 0, L, [], false, 0, false, false⟩ (.slice none 0 0) := ⟨kR, ⟨World.ownsRow_nil w1 _ 56 6, by omega⟩⟩
  have hlies : ∀ u, Below H w u → Lies u a b := fun u hu => hli.below (by rw [hH]; exact hu)
  have hlow : ∀ g o, a = some ⟨g, o, none⟩ → b ≠ [] → g < H := fun g o e hb => by
    rcases hli with q | ⟨g', o', q, hc⟩
    · exact absurd q hb
    · rw [q] at e
      cases e
      obtain ⟨x, t, rfl⟩ := List.exists_cons_of_ne_nil hb
      have := hc 0 x rfl
      rw [← hH]
      exact World.block_lt_of_cell? w _ this
  have AX : Aside (b.length = L ∧ L ≤ 10000000000 ∧ L ≤ C ∧ C < 1000000000000 ∧ Oct b ∧ (∀ u, Below H w u → Lies u a b) ∧ (∀ g o, a = some ⟨g, o, none⟩ → b ≠ [] → g < H)) := ⟨hL, hLb, hLC, hC, ho, hlies, hlow⟩
  have AH : Aside (w.heap.size = H) := hH
  have A1 : Aside (Below H w w1 ∧ Cells w1 H zrd 31 ∧ w1.heap.size = H + 2) := ⟨bel, kH, hz1⟩
  have A2 : Aside (Dm w1 H (H + 1) ⟨[], 0, L, [], false, 0, false, false⟩ (.slice none 0 0) ∧ Or b 0 L ⟨[], 0, L, [], false, 0, false, false⟩) := ⟨g1, ⟨Lp.start b, rfl, rfl, rfl, Nat.zero_le _⟩⟩
  clear kH kR bel hz1 g1 hlies hlow hL hLb hLC hC ho hli
  have AW1 : Aside ((w.alloc (.cells zrd 31)).alloc (.cells #[.slice none 0 0, .int .i64 0, .int .i64 (L : Int), .string ⟨#[]⟩, .bool false, .int .u64 0, .bool false, .bool false] 31) = w1) := hw1
  clear hw1
  go_enter Tryz.func5, Tryz.ntmps5
  go_upto_region 2 with fail
  (try rw [AW1.out])
  clear AW1 hH
  go_wp2_with fail
  go_loopg [4] L (fun gg s4 wr => ∃ t : Nat, s4 = .int .i64 (t : Int) ∧ Aside (gg = L - t ∧ t ≤ L ∧ ∃ r v, Dm wr H (H + 1) r v ∧ Fr H (H + 1) w1 wr ∧ Or b t L r))
  case atStart => exact ⟨0, rfl, ⟨by omega, Nat.zero_le _, _, _, A2.out.1, Fr.refl _ _ _, A2.out.2⟩⟩
  case round =>
    clear A2
    obtain ⟨t, rfl, hT⟩ := hrel
    obtain ⟨hgk, htL, r, v, hd, hfr, hor⟩ := hT.out
    have ax := AX.out
    have bL : (L : Int) ≤ 10000000000 := by omega
    have bt : (t : Int) ≤ 10000000000 := by omega
    by_cases hend : ¬ t < L
    · have t1 : ((t : Int) < (L : Int)) = False := eq_false (by omega)
      have t1n : (t < L) = False := eq_false hend
      have kH := keepH A1.out.2.1 A1.out.2.2 hfr
      obtain ⟨va, vc, hv, _⟩ := (hd).ow.shape
      have DX := hd
      rw [hv] at DX
      have d0 := DX.c0
      have d1 := DX.c1
      have d2 := DX.c2
      have d3 := DX.c3
      have d4 := DX.c4
      have d5 := DX.c5
      have d6 := DX.c6
      have d7x := DX.c7
      have b0 : (wr).cell? ⟨H, 0, none⟩ = some (.slice none 0 0) := (kH.cell 0).trans rfl
      have b1 : (wr).cell? ⟨H, 1, none⟩ = some (.int .i64 0) := (kH.cell 1).trans rfl
      have b2 : (wr).cell? ⟨H, 2, none⟩ = some (.int .i64 0) := (kH.cell 2).trans rfl
      have b3 : (wr).cell? ⟨H, 3, none⟩ = some (.string ⟨#[]⟩) := (kH.cell 3).trans rfl
      have b4 : (wr).cell? ⟨H, 4, none⟩ = some (.bool false) := (kH.cell 4).trans rfl
      have b5 : (wr).cell? ⟨H, 5, none⟩ = some (.int .u64 0) := (kH.cell 5).trans rfl
      have b6 : (wr).cell? ⟨H, 6, none⟩ = some (.bool false) := (kH.cell 6).trans rfl
      have b7 : (wr).cell? ⟨H, 7, none⟩ = some (.bool false) := (kH.cell 7).trans rfl
      have y0 := kH.frozen 0
      have y1 := kH.frozen 1
      have y2 := kH.frozen 2
      have y3 := kH.frozen 3
      have y4 := kH.frozen 4
      have y5 := kH.frozen 5
      have y6 := kH.frozen 6
      have y7 := kH.frozen 7
      have AF : Aside _ := of_fin DX (A1.out.1.trans (hfr).bel) kH
      have AFo : Aside _ := (⟨by have := hor.lp; rw [hor.why, hor.sat]; obtain rfl : t = b.length := (by omega); have q := this.fin; rw [ax.1] at q; exact q, by have := hor.ln; omega⟩ : Fo b r.ev r.why r.sat ∧ r.ev.length ≤ 3 * b.length)
      clear kH DX hv hT hgk htL hd hfr hor ax hend
      go_wp2_with fail
      (try simp only [Exit.inBlock, Exit.then])
      obtain ⟨m1, m2, m3⟩ := AF.out
      refine bodyPost_ret (v := .agg (dcs (r) (.slice va (r).ev.length vc))) ?_ rfl ?_
      · exact results_cell_row rfl _ _ H 31 _ (0, 0) _ rfl m1 Tryz.underlying31 rfl size29t
      · exact ⟨⟨_, _, rfl, AFo.out.1, AFo.out.2, m2, m3⟩⟩
    have hend : t < L := Classical.byContradiction hend
    have t1 : ((t : Int) < (L : Int)) = True := eq_true (by omega)
    have t1n : (t < L) = True := eq_true hend
    obtain ⟨q0, hq0⟩ : ∃ q0, L - t = q0 := ⟨_, rfl⟩
    have e0 : (L : Int) - (t : Int) = (q0 : Int) := by omega
    have bq0 : (q0 : Int) ≤ 10000000000 := by omega
    by_cases h512 : q0 < 512
    · have t2 : ((q0 : Int) < 512) = True := eq_true (by omega)
      have t2n : (q0 < 512) = True := eq_true h512
      have hst := dstop_c 1 L hd
      have AFX : Aside (Fr H (H + 1) w1 wr ∧ Fo b (dstop 1 L r).ev (dstop 1 L r).why (dstop 1 L r).sat ∧ (dstop 1 L r).ev.length ≤ 3 * b.length) := ⟨hfr, by have := hor.lp.cut (by omega) (by omega); rw [ax.1] at this; exact this, by have := hor.ln; show r.ev.length ≤ _; omega⟩
      clear hT hgk htL hd hfr hor ax hend hq0 h512
      go_upto_region 6 with (go_at_call 17; refine hst.mono ?_; rintro e2 w2 ⟨rfl, D2, O2⟩)
      have F2 := AFX.out.1.trans (Fr.of_only O2 (Nat.le_succ H))
      have kH := keepH A1.out.2.1 A1.out.2.2 F2
      obtain ⟨va, vc, hv, _⟩ := (D2).ow.shape
      have DX := D2
      rw [hv] at DX
      have d0 := DX.c0
      have d1 := DX.c1
      have d2 := DX.c2
      have d3 := DX.c3
      have d4 := DX.c4
      have d5 := DX.c5
      have d6 := DX.c6
      have d7x := DX.c7
      have b0 : (w2).cell? ⟨H, 0, none⟩ = some (.slice none 0 0) := (kH.cell 0).trans rfl
      have b1 : (w2).cell? ⟨H, 1, none⟩ = some (.int .i64 0) := (kH.cell 1).trans rfl
      have b2 : (w2).cell? ⟨H, 2, none⟩ = some (.int .i64 0) := (kH.cell 2).trans rfl
      have b3 : (w2).cell? ⟨H, 3, none⟩ = some (.string ⟨#[]⟩) := (kH.cell 3).trans rfl
      have b4 : (w2).cell? ⟨H, 4, none⟩ = some (.bool false) := (kH.cell 4).trans rfl
      have b5 : (w2).cell? ⟨H, 5, none⟩ = some (.int .u64 0) := (kH.cell 5).trans rfl
      have b6 : (w2).cell? ⟨H, 6, none⟩ = some (.bool false) := (kH.cell 6).trans rfl
      have b7 : (w2).cell? ⟨H, 7, none⟩ = some (.bool false) := (kH.cell 7).trans rfl
      have y0 := kH.frozen 0
      have y1 := kH.frozen 1
      have y2 := kH.frozen 2
      have y3 := kH.frozen 3
      have y4 := kH.frozen 4
      have y5 := kH.frozen 5
      have y6 := kH.frozen 6
      have y7 := kH.frozen 7
      have AF : Aside _ := of_fin DX (A1.out.1.trans (F2).bel) kH
      have AFo : Aside _ := AFX.out.2
      clear kH DX hv D2 O2 F2 hst e0 bq0 t1 t1n t2 t2n
      go_wp2_with fail
      (try simp only [Exit.inBlock, Exit.then])
      obtain ⟨m1, m2, m3⟩ := AF.out
      refine bodyPost_ret (v := .agg (dcs (dstop 1 L r) (.slice va (dstop 1 L r).ev.length vc))) ?_ rfl ?_
      · exact results_cell_row rfl _ _ H 31 _ (0, 0) _ rfl m1 Tryz.underlying31 rfl size29t
      · exact ⟨⟨_, _, rfl, AFo.out.1, AFo.out.2, m2, m3⟩⟩
    have t2 : ((q0 : Int) < 512) = False := eq_false (by omega)
    have t2n : (q0 < 512) = False := eq_false h512
    have h1 : t + 512 ≤ L := by omega
    have hbl : (hb b t).length = 512 := hb_len (by omega)
    have hbo : Oct (hb b t) := (ax.2.2.2.2.1.drop _).take _
    have hne : b ≠ [] := by intro e; rw [e] at ax; have := ax.1; simp at this; omega
    obtain ⟨ba, oa, rfl, hca⟩ : ∃ ba oa, a = some ⟨ba, oa, none⟩ ∧ ∀ u, Below H w u → ∀ (i x : Nat), b[i]? = some x → u.cell? ⟨ba, oa + i, none⟩ = some (.int .u8 (x : Int)) := by
      rcases ax.2.2.2.2.2.1 w (Below.refl _ _) with e | ⟨g, o, e, _⟩
      · exact absurd e hne
      · refine ⟨g, o, e, fun u hu i y hy => ?_⟩
        rcases ax.2.2.2.2.2.1 u hu with e' | ⟨g', o', e', hc'⟩
        · exact absurd e' hne
        · rw [e] at e'; cases e'; exact hc' i y hy
    have hbaH : ba < H := ax.2.2.2.2.2.2 ba oa rfl hne
    obtain ⟨t5, ht5⟩ : ∃ t5, t + 512 = t5 := ⟨_, rfl⟩
    obtain ⟨te, hte⟩ : ∃ te, t + 511 = te := ⟨_, rfl⟩
    obtain ⟨oh, hoh⟩ : ∃ oh, oa + t = oh := ⟨_, rfl⟩
    obtain ⟨Ch, hCh⟩ : ∃ Ch, C - t = Ch := ⟨_, rfl⟩
    have e5 : (t : Int) + 512 = (t5 : Int) := by omega
    have e6 : (t : Int) + 511 = (te : Int) := by omega
    have hsl := slice_fe ba oa L C t t5 (by omega) (by omega) (by omega)
    rw [hoh, hCh, show t5 - t = 512 by omega] at hsl
    have bel0 : Below H w wr := A1.out.1.trans hfr.bel
    have ACa : Aside (∀ u, Below H w u → ∀ (i x : Nat), b[i]? = some x → u.cell? ⟨ba, oa + i, none⟩ = some (.int .u8 (x : Int))) := hca
    have hlh : ∀ u, Below H w u → Lies u (some ⟨ba, oh, none⟩) (hb b t) := fun u hu => Or.inr ⟨ba, oh, rfl, fun i x hx => by
      unfold hb at hx
      rw [List.getElem?_take] at hx
      split at hx
      · rw [List.getElem?_drop] at hx
        rw [← hoh, Nat.add_assoc]
        exact ACa.out u hu _ _ hx
      · simp at hx⟩
    have ALh : Aside (∀ u, Below H w u → Lies u (some ⟨ba, oh, none⟩) (hb b t)) := hlh
    have hze := rzero_c (some ⟨ba, oh, none⟩) (hb b t) 512 Ch wr hbl (by omega) (hlh wr bel0)
    rw [decide_eq_true (rfl : (512 : Nat) = 512), Bool.and_true] at hze
    have AT : Aside (gk = L - t ∧ t < L ∧ L - t = q0 ∧ t + 512 ≤ L ∧ (hb b t).length = 512 ∧ Oct (hb b t) ∧ ba < H ∧ t + 512 = t5 ∧ t + 511 = te ∧ oa + t = oh ∧ C - t = Ch ∧ Below H w wr) := ⟨hgk, hend, hq0, h1, hbl, hbo, hbaH, ht5, hte, hoh, hCh, bel0⟩
    have AR : Aside (Dm wr H (H + 1) r v ∧ Fr H (H + 1) w1 wr ∧ Or b t L r) := ⟨hd, hfr, hor⟩
    have bt5 : (t5 : Int) ≤ 10000000512 := by omega
    have bte : (te : Int) ≤ 10000000511 := by omega
    have bCh : (512 : Int) ≤ (Ch : Int) := by omega
    have bCh2 : (Ch : Int) < 1000000000000 := by omega
    clear hT hgk htL hd hfr hor ax hend hq0 h512 h1 hbl hbo hne hca hbaH ht5 hte hoh hCh bel0 hlh
    cases hn : noughts (hb b t) with
    | true =>
      rw [hn] at hze
      have at_ := AT.out
      have AFX : Aside (Fo b r.ev r.why r.sat ∧ r.ev.length ≤ 3 * b.length) := ⟨by have o := AR.out.2.2; have := o.lp.zero (by have := AX.out.1; omega) hn; rw [o.why, o.sat]; rw [AX.out.1] at this; exact this, by have := AR.out.2.2.ln; have := AX.out.1; omega⟩
      clear hn at_
      go_upto_region 9 with (go_at_call 18; refine hze.mono ?_; rintro e2 w2 ⟨rfl, rfl⟩)
      have kH := keepH A1.out.2.1 A1.out.2.2 AR.out.2.1
      obtain ⟨va, vc, hv, _⟩ := (AR.out.1).ow.shape
      have DX := AR.out.1
      rw [hv] at DX
      have d0 := DX.c0
      have d1 := DX.c1
      have d2 := DX.c2
      have d3 := DX.c3
      have d4 := DX.c4
      have d5 := DX.c5
      have d6 := DX.c6
      have d7x := DX.c7
      have b0 : (wr).cell? ⟨H, 0, none⟩ = some (.slice none 0 0) := (kH.cell 0).trans rfl
      have b1 : (wr).cell? ⟨H, 1, none⟩ = some (.int .i64 0) := (kH.cell 1).trans rfl
      have b2 : (wr).cell? ⟨H, 2, none⟩ = some (.int .i64 0) := (kH.cell 2).trans rfl
      have b3 : (wr).cell? ⟨H, 3, none⟩ = some (.string ⟨#[]⟩) := (kH.cell 3).trans rfl
      have b4 : (wr).cell? ⟨H, 4, none⟩ = some (.bool false) := (kH.cell 4).trans rfl
      have b5 : (wr).cell? ⟨H, 5, none⟩ = some (.int .u64 0) := (kH.cell 5).trans rfl
      have b6 : (wr).cell? ⟨H, 6, none⟩ = some (.bool false) := (kH.cell 6).trans rfl
      have b7 : (wr).cell? ⟨H, 7, none⟩ = some (.bool false) := (kH.cell 7).trans rfl
      have y0 := kH.frozen 0
      have y1 := kH.frozen 1
      have y2 := kH.frozen 2
      have y3 := kH.frozen 3
      have y4 := kH.frozen 4
      have y5 := kH.frozen 5
      have y6 := kH.frozen 6
      have y7 := kH.frozen 7
      have AF : Aside _ := of_fin DX (A1.out.1.trans (AR.out.2.1).bel) kH
      have AFo : Aside _ := AFX.out
      clear kH DX hv hze hsl e0 e5 e6 bq0 t1 t1n t2 t2n bt5 bte bCh bCh2
      go_wp2_with fail
      (try simp only [Exit.inBlock, Exit.then])
      obtain ⟨m1, m2, m3⟩ := AF.out
      refine bodyPost_ret (v := .agg (dcs (r) (.slice va (r).ev.length vc))) ?_ rfl ?_
      · exact results_cell_row rfl _ _ H 31 _ (0, 0) _ rfl m1 Tryz.underlying31 rfl size29t
      · exact ⟨⟨_, _, rfl, AFo.out.1, AFo.out.2, m2, m3⟩⟩
    | false =>
    rw [hn] at hze
    obtain ⟨k, hk⟩ : ∃ k, b[t + 156]? = some k := ⟨_, List.getElem?_eq_getElem (by have := AT.out.2.2.2.1; have := AX.out.1; omega)⟩
    have hk2 : k < 256 := AX.out.2.2.2.2.1 k (List.mem_of_getElem? hk)
    have htk := tkd_at hk
    have hck : wr.cell? ⟨ba, oh + 156, none⟩ = some (.int .u8 (k : Int)) := by
      have := ACa.out wr AT.out.2.2.2.2.2.2.2.2.2.2.2 _ _ hk
      rwa [← Nat.add_assoc, AT.out.2.2.2.2.2.2.2.2.2.1] at this
    obtain ⟨o3, ho3⟩ : ∃ o3, oh + 124 = o3 := ⟨_, rfl⟩
    obtain ⟨C3, hC3⟩ : ∃ C3, Ch - 124 = C3 := ⟨_, rfl⟩
    have hs3 : ∀ W : World, (Instr.slice 22 (.slice (some ⟨ba, oh, none⟩) 512 Ch) (some (.int .i64 124)) (some (.int .i64 136)) none).run Tryz.prog W = .ok (.slice (some ⟨ba, o3, none⟩) 12 C3) W := fun W => by
      have := slice_fe ba oh 512 Ch 124 136 (by omega) (by omega) (by omega) W
      rw [ho3, hC3] at this
      exact this
    have hl12 : Lies wr (some ⟨ba, o3, none⟩) (((hb b t).drop 124).take 12) := by
      rw [← ho3]
      exact lies_take (lies_dr (ALh.out wr AT.out.2.2.2.2.2.2.2.2.2.2.2) 124) 12
    have hfl := rfield_c (some ⟨ba, o3, none⟩) (((hb b t).drop 124).take 12) 12 C3 wr (by rw [List.length_take, List.length_drop]; have := AT.out.2.2.2.2.1; omega) ((AT.out.2.2.2.2.2.1.drop _).take _) (by omega) (by omega) hl12
    have hri := rright_c (some ⟨ba, oh, none⟩) (hb b t) Ch wr AT.out.2.2.2.2.1 AT.out.2.2.2.2.2.1 (by omega) (by omega) (ALh.out wr AT.out.2.2.2.2.2.2.2.2.2.2.2)
    have AK : Aside (noughts (hb b t) = false ∧ tkd (hb b t) = k ∧ k < 256) := ⟨hn, htk, hk2⟩
    obtain ⟨zv, hzv⟩ : ∃ zv, (fld (((hb b t).drop 124).take 12)).getD 0 = zv := ⟨_, rfl⟩
    obtain ⟨zo, hzo⟩ : ∃ zo, (fld (((hb b t).drop 124).take 12)).isSome = zo := ⟨_, rfl⟩
    unfold ans at hfl
    rw [hzv, hzo] at hfl
    obtain ⟨ri, hri2⟩ : ∃ ri, rgt (hb b t) = ri := ⟨_, rfl⟩
    rw [hri2] at hri
    have AZ : Aside ((fld (((hb b t).drop 124).take 12)).getD 0 = zv ∧ (fld (((hb b t).drop 124).take 12)).isSome = zo ∧ rgt (hb b t) = ri) := ⟨hzv, hzo, hri2⟩
    have hzb : zv < 9223372036854775808 := by
      rw [← hzv]
      cases hf : fld (((hb b t).drop 124).take 12) with
      | none => decide
      | some z => exact fld_lt ((AT.out.2.2.2.2.2.1.drop _).take _) hf
    have bzv : (zv : Int) < 9223372036854775808 := by omega
    obtain ⟨nr, hnr⟩ : ∃ nr, (!ri) = nr := ⟨_, rfl⟩
    obtain ⟨no, hno⟩ : ∃ no, (!zo) = no := ⟨_, rfl⟩
    have ANr : Aside ((!ri) = nr ∧ (!zo) = no) := ⟨hnr, hno⟩
    clear hn hk htk ho3 hC3 hl12 hzv hzo hri2 hno
    go_upto_if 50 with (first
      | (go_at_call 18; refine hze.mono ?_; rintro e2 w2 ⟨rfl, rfl⟩)
      | (go_at_call 19; refine hfl.mono ?_; rintro e3 w3 ⟨rfl, rfl⟩)
      | (go_at_call 20; refine hri.mono ?_; rintro e4 w4 ⟨rfl, rfl⟩))
    clear hze hfl hri hs3 hck hnr
    go_cut [] (fun wx => Aside (∃ r1, Dm wx H (H + 1) r1 v ∧ Only (H + 1) wr wx ∧ ((r1.sp = true ∧ Fo b r1.ev r1.why r1.sat ∧ r1.ev = r.ev) ∨ (r1 = r ∧ wx = wr ∧ Hg (hb b t) zv))))
    case first => as_aux_lemma =>
      cases nr with
      | true =>
        have hr : ri = false := by have := ANr.out.1; cases ri <;> simp at this ⊢
        have hst := dstop_c 44 te AR.out.1
        have AFX : Aside (Fo b r.ev 44 te) := by have at_ := AT.out; have := AR.out.2.2.lp.sum (by have := AX.out.1; omega) AK.out.1 (AZ.out.2.2.trans hr); rw [at_.2.2.2.2.2.2.2.2.1] at this; exact this
        clear hr
        go_wp2_with (go_at_call 17; refine hst.mono ?_; rintro e2 w2 ⟨rfl, D2, O2⟩)
        have AG : Aside (Dm w2 H (H + 1) (dstop 44 te r) v ∧ Only (H + 1) wr w2) := ⟨D2, O2⟩
        clear D2 O2 hst
        (try go_meet)
        exact ⟨_, AG.out.1, AG.out.2, Or.inl ⟨rfl, AFX.out, rfl⟩⟩
      | false =>
      have hr : ri = true := by have := ANr.out.1; cases ri <;> simp at this ⊢
      have hrr := AZ.out.2.2.trans hr
      have hno : (!zo) = no := ANr.out.2
      cases no with
      | true =>
        have hz : zo = false := by have := ANr.out.2; cases zo <;> simp at this ⊢
        have hst := dstop_c 48 te AR.out.1
        have AFX : Aside (Fo b r.ev 48 te) := by have at_ := AT.out; have := AR.out.2.2.lp.num (by have := AX.out.1; omega) AK.out.1 hrr (by have := AZ.out.2.1.trans hz; rwa [Option.isSome_eq_false_iff, Option.isNone_iff_eq_none] at this); rw [at_.2.2.2.2.2.2.2.2.1] at this; exact this
        clear hr hrr hz
        go_wp2_with (go_at_call 17; refine hst.mono ?_; rintro e2 w2 ⟨rfl, D2, O2⟩)
        have AG : Aside (Dm w2 H (H + 1) (dstop 48 te r) v ∧ Only (H + 1) wr w2) := ⟨D2, O2⟩
        clear D2 O2 hst
        (try go_meet)
        exact ⟨_, AG.out.1, AG.out.2, Or.inl ⟨rfl, AFX.out, rfl⟩⟩
      | false =>
      have hz : zo = true := by have := ANr.out.2; cases zo <;> simp at this ⊢
      have hfz : fld (((hb b t).drop 124).take 12) = some zv := by
        have := AZ.out
        rw [hz] at this
        cases hf : fld (((hb b t).drop 124).take 12) with
        | none => rw [hf] at this; exact absurd this.2.1 (by simp)
        | some z => rw [hf] at this; rw [← this.1]; rfl
      have hmu : ∀ q, tmuch k zv = q → Aside (q = true → Fo b r.ev 46 te) ∧ Aside (q = false → Hg (hb b t) zv) := fun q hq => ⟨fun e => by have at_ := AT.out; have := AR.out.2.2.lp.much (by have := AX.out.1; omega) AK.out.1 hrr hfz (by rw [AK.out.2.1, hq, e]); rw [at_.2.2.2.2.2.2.2.2.1] at this; exact this, fun e => ⟨AT.out.2.2.2.2.1, AK.out.1, hrr, hfz, by rw [AK.out.2.1, hq, e]⟩⟩
      clear hfz hr hrr hz
      have hst := dstop_c 46 te AR.out.1
      by_cases h76 : k = 76
      · have u1 : ((k : Int) == 76) = true := by rw [h76]; rfl
        by_cases h257 : 257 < zv
        · have u2 : ((257 : Int) < (zv : Int)) = True := eq_true (by omega)
          have u2n : (257 < zv) = True := eq_true h257
          have AQ1 : Aside (Fo b r.ev 46 te) := (hmu true (by rw [h76]; unfold tmuch; simp [h257])).1.out rfl
          clear hmu h76 h257
          go_wp2_with (go_at_call 17; refine hst.mono ?_; rintro e2 w2 ⟨rfl, D2, O2⟩)
          have AG : Aside (Dm w2 H (H + 1) (dstop 46 te r) v ∧ Only (H + 1) wr w2) := ⟨D2, O2⟩
          clear D2 O2 hst
          (try go_meet)
          exact ⟨_, AG.out.1, AG.out.2, Or.inl ⟨rfl, AQ1.out, rfl⟩⟩
        · have u2 : ((257 : Int) < (zv : Int)) = False := eq_false (by omega)
          have u2n : (257 < zv) = False := eq_false h257
          have u3 : ((k : Int) == 120) = false := by rw [h76]; rfl
          have AQ2 : Aside (Hg (hb b t) zv) := (hmu false (by rw [h76]; unfold tmuch; simp; omega)).2.out rfl
          clear hmu h76 h257
          clear hst
          go_wp2_with fail
          (try go_meet)
          exact ⟨r, AR.out.1, Only.refl _ _, Or.inr ⟨rfl, rfl, AQ2.out⟩⟩
      have u1 : ((k : Int) == 76) = false := by rw [beq_eq_false_iff_ne]; omega
      by_cases h120 : k = 120
      · have u3 : ((k : Int) == 120) = true := by rw [h120]; rfl
        by_cases h1024 : 1024 < zv
        · have u2 : ((1024 : Int) < (zv : Int)) = True := eq_true (by omega)
          have u2n : (1024 < zv) = True := eq_true h1024
          have AQ1 : Aside (Fo b r.ev 46 te) := (hmu true (by rw [h120]; unfold tmuch; simp [h1024])).1.out rfl
          clear hmu h76 h120 h1024
          go_wp2_with (go_at_call 17; refine hst.mono ?_; rintro e2 w2 ⟨rfl, D2, O2⟩)
          have AG : Aside (Dm w2 H (H + 1) (dstop 46 te r) v ∧ Only (H + 1) wr w2) := ⟨D2, O2⟩
          clear D2 O2 hst
          (try go_meet)
          exact ⟨_, AG.out.1, AG.out.2, Or.inl ⟨rfl, AQ1.out, rfl⟩⟩
        · have u2 : ((1024 : Int) < (zv : Int)) = False := eq_false (by omega)
          have u2n : (1024 < zv) = False := eq_false h1024
          have AQ2 : Aside (Hg (hb b t) zv) := (hmu false (by rw [h120]; unfold tmuch; simp; omega)).2.out rfl
          clear hmu h76 h120 h1024
          clear hst
          go_wp2_with fail
          (try go_meet)
          exact ⟨r, AR.out.1, Only.refl _ _, Or.inr ⟨rfl, rfl, AQ2.out⟩⟩
      have u3 : ((k : Int) == 120) = false := by rw [beq_eq_false_iff_ne]; omega
      have AQ2 : Aside (Hg (hb b t) zv) := (hmu false (by unfold tmuch; simp [h76, h120])).2.out rfl
      clear hmu h76 h120
      clear hst
      go_wp2_with fail
      (try go_meet)
      exact ⟨r, AR.out.1, Only.refl _ _, Or.inr ⟨rfl, rfl, AQ2.out⟩⟩
    case rest =>
    obtain ⟨r1, D1, O1, hcase⟩ := (hcut : Aside _).out
    rcases hcase with ⟨hsp, hfo, hev⟩ | ⟨rfl, rfl, hg⟩
    · have d7 := D1.c7
      rw [hsp] at d7
      have F1 := AR.out.2.1.trans (Fr.of_only O1 (Nat.le_succ H))
      have AFX : Aside (Fo b r1.ev r1.why r1.sat ∧ r1.ev.length ≤ 3 * b.length) := ⟨hfo, by rw [hev]; have := AR.out.2.2.ln; have := AX.out.1; have := AT.out.2.1; omega⟩
      clear hfo hev hsp hcut
      go_upto_region 19 with fail
      clear d7
      have kH := keepH A1.out.2.1 A1.out.2.2 F1
      obtain ⟨va, vc, hv, _⟩ := (D1).ow.shape
      have DX := D1
      rw [hv] at DX
      have d0 := DX.c0
      have d1 := DX.c1
      have d2 := DX.c2
      have d3 := DX.c3
      have d4 := DX.c4
      have d5 := DX.c5
      have d6 := DX.c6
      have d7x := DX.c7
      have b0 : (wc).cell? ⟨H, 0, none⟩ = some (.slice none 0 0) := (kH.cell 0).trans rfl
      have b1 : (wc).cell? ⟨H, 1, none⟩ = some (.int .i64 0) := (kH.cell 1).trans rfl
      have b2 : (wc).cell? ⟨H, 2, none⟩ = some (.int .i64 0) := (kH.cell 2).trans rfl
      have b3 : (wc).cell? ⟨H, 3, none⟩ = some (.string ⟨#[]⟩) := (kH.cell 3).trans rfl
      have b4 : (wc).cell? ⟨H, 4, none⟩ = some (.bool false) := (kH.cell 4).trans rfl
      have b5 : (wc).cell? ⟨H, 5, none⟩ = some (.int .u64 0) := (kH.cell 5).trans rfl
      have b6 : (wc).cell? ⟨H, 6, none⟩ = some (.bool false) := (kH.cell 6).trans rfl
      have b7 : (wc).cell? ⟨H, 7, none⟩ = some (.bool false) := (kH.cell 7).trans rfl
      have y0 := kH.frozen 0
      have y1 := kH.frozen 1
      have y2 := kH.frozen 2
      have y3 := kH.frozen 3
      have y4 := kH.frozen 4
      have y5 := kH.frozen 5
      have y6 := kH.frozen 6
      have y7 := kH.frozen 7
      have AF : Aside _ := of_fin DX (A1.out.1.trans (F1).bel) kH
      have AFo : Aside _ := AFX.out
      clear kH DX hv D1 F1 O1 hsl e0 e5 e6 bq0 t1 t1n t2 t2n bt5 bte bCh bCh2
      go_wp2_with fail
      (try simp only [Exit.inBlock, Exit.then])
      obtain ⟨m1, m2, m3⟩ := AF.out
      refine bodyPost_ret (v := .agg (dcs (r1) (.slice va (r1).ev.length vc))) ?_ rfl ?_
      · exact results_cell_row rfl _ _ H 31 _ (0, 0) _ rfl m1 Tryz.underlying31 rfl size29t
      · exact ⟨⟨_, _, rfl, AFo.out.1, AFo.out.2, m2, m3⟩⟩
    have d7 := D1.c7
    rw [AR.out.2.2.sp] at d7
    have AHg : Aside (Hg (hb b t) zv) := hg
    clear hg hcut O1
    go_upto_region 20 with fail
    obtain ⟨W2, hW2⟩ : ∃ W2, W2 = wc := ⟨_, rfl⟩
    subst hW2
    have d4 := D1.c4
    have d6 := D1.c6
    have hzl := AHg.out
    obtain ⟨tw, htw⟩ : ∃ tw, town k = tw := ⟨_, rfl⟩
    have ATw : Aside (town k = tw) := htw
    clear htw
    go_cut [10] (fun s10 wx => s10 = .bool tw ∧ wx = W2)
    case first => as_aux_lemma =>
      clear d4 d6 hzl
      have hto : ∀ q, town k = q → town k = q := fun q h => h
      by_cases h76 : k = 76
      · have u1 : ((k : Int) != 76) = false := by rw [h76]; rfl
        have AO : Aside (town k = false) := by rw [h76]; rfl
        clear h76 hto
        go_wp2_with fail
        (try go_meet)
        exact ⟨by rw [← ATw.out, AO.out], rfl⟩
      have u1 : ((k : Int) != 76) = true := by rw [bne_iff_ne]; omega
      by_cases h120 : k = 120
      · have u2 : ((k : Int) != 120) = false := by rw [h120]; rfl
        have AO : Aside (town k = false) := by rw [h120]; rfl
        clear h76 h120 hto
        go_wp2_with fail
        (try go_meet)
        exact ⟨by rw [← ATw.out, AO.out], rfl⟩
      have u2 : ((k : Int) != 120) = true := by rw [bne_iff_ne]; omega
      by_cases h75 : k = 75
      · have u3 : ((k : Int) != 75) = false := by rw [h75]; rfl
        have AO : Aside (town k = false) := by rw [h75]; rfl
        clear h76 h120 h75 hto
        go_wp2_with fail
        (try go_meet)
        exact ⟨by rw [← ATw.out, AO.out], rfl⟩
      have u3 : ((k : Int) != 75) = true := by rw [bne_iff_ne]; omega
      by_cases h103 : k = 103
      · have u4 : ((k : Int) != 103) = false := by rw [h103]; rfl
        have AO : Aside (town k = false) := by rw [h103]; rfl
        clear h76 h120 h75 h103 hto
        go_wp2_with fail
        (try go_meet)
        exact ⟨by rw [← ATw.out, AO.out], rfl⟩
      · have u4 : ((k : Int) != 103) = true := by rw [bne_iff_ne]; omega
        have AO : Aside (town k = true) := (show town k = true by unfold town; simp [h76, h120, h75, h103])
        clear h76 h120 h75 h103 hto
        go_wp2_with fail
        (try go_meet)
        exact ⟨by rw [← ATw.out, AO.out], rfl⟩
    case rest =>
    obtain ⟨rfl, hwc⟩ := hcut
    have hwc := hwc.symm
    subst hwc
    clear hzl d4 d6 d7
    obtain ⟨Z, hZ⟩ : ∃ Z, tsz k zv r1.cm.2 = Z := ⟨_, rfl⟩
    have hZb : Z < 9223372036854775808 := by
      have ok := AR.out.2.2.lp.okc AX.out.2.2.2.2.1
      rw [← hZ]
      unfold tsz
      split
      · cases hs : r1.cm.2 with
        | none => exact hzb
        | some z => exact ok.2 z hs
      · exact hzb
    have AZZ : Aside (tsz k zv r1.cm.2 = Z ∧ Z < 9223372036854775808) := ⟨hZ, hZb⟩
    have bZ : (Z : Int) < 9223372036854775808 := by omega
    clear hZ hZb
    go_upto_if 90 with fail
    go_cut [7] (fun s7 wx => s7 = .int .u64 (Z : Int) ∧ Aside (∃ r2 v2, Dm wx H (H + 1) r2 v2 ∧ Fr H (H + 1) w1 wx ∧ Oh b t L Z r1 r2))
    case first => as_aux_lemma =>
      cases tw with
      | false =>
        have hsz : zv = Z := by rw [← AZZ.out.1]; unfold tsz; rw [ATw.out]; rfl
        have AG : Aside (Oh b t L Z r1 r1) := ⟨by rw [ev_none (by rw [AK.out.2.1]; exact town_nofile ATw.out), List.append_nil], by rw [AK.out.2.1]; unfold tcm; rw [ATw.out]; rfl, AR.out.2.2.why, AR.out.2.2.sat, AR.out.2.2.sp⟩
        subst hsz
        go_wp2_with fail
        (try go_meet)
        exact ⟨rfl, r1, v, AR.out.1, AR.out.2.1, AG.out⟩
      | true =>
      have hpl := dplain_c W2 ba oh Ch (hb b t) AT.out.2.2.2.2.1 (by omega) (by omega) AT.out.2.2.2.2.2.1 (ALh.out W2 AT.out.2.2.2.2.2.2.2.2.2.2.2)
      obtain ⟨sN, hsN⟩ : ∃ sN, st (tnm (hb b t)) = sN := ⟨_, rfl⟩
      obtain ⟨sM, hsM⟩ : ∃ sM, st r1.nm = sM := ⟨_, rfl⟩
      obtain ⟨nm2, hnm2⟩ : ∃ nm2, (r1.cm.1).getD (tnm (hb b t)) = nm2 := ⟨_, rfl⟩
      obtain ⟨sQ, hsQ⟩ : ∃ sQ, st nm2 = sQ := ⟨_, rfl⟩
      obtain ⟨nd, hnd⟩ : ∃ nd, r1.nd = nd := ⟨_, rfl⟩
      obtain ⟨sd, hsd⟩ : ∃ sd, r1.sd = sd := ⟨_, rfl⟩
      obtain ⟨rz, hrz⟩ : ∃ rz, r1.sz = rz := ⟨_, rfl⟩
      rw [hsN] at hpl
      have AN : Aside (st (tnm (hb b t)) = sN ∧ st r1.nm = sM ∧ (r1.cm.1).getD (tnm (hb b t)) = nm2 ∧ st nm2 = sQ ∧ r1.nd = nd ∧ r1.sd = sd ∧ r1.sz = rz) := ⟨hsN, hsM, hnm2, hsQ, hnd, hsd, hrz⟩
      have hq1 : nd = true → sM = sQ := fun e => by rw [← hsM, ← hsQ, ← hnm2]; unfold Dr.cm; rw [hnd, e]; rfl
      have hq2 : nd = false → sN = sQ := fun e => by rw [← hsN, ← hsQ, ← hnm2]; unfold Dr.cm; rw [hnd, e]; rfl
      have hq3 : sd = true → rz = Z := fun e => by rw [← AZZ.out.1, ← hrz]; unfold tsz Dr.cm; rw [ATw.out, hsd, e]; rfl
      have hq4 : sd = false → zv = Z := fun e => by rw [← AZZ.out.1]; unfold tsz Dr.cm; rw [ATw.out, hsd, e]; rfl
      have AQ : Aside ((nd = true → sM = sQ) ∧ (nd = false → sN = sQ)) := ⟨hq1, hq2⟩
      have AQ2 : Aside ((sd = true → rz = Z) ∧ (sd = false → zv = Z)) := ⟨hq3, hq4⟩
      clear hsN hsM hnm2 hsQ hnd hsd hrz hq1 hq2 hq3 hq4
      go_upto_region 23 with (go_at_call 21; refine hpl.mono ?_; rintro e5 w5 ⟨rfl, n5, hw5⟩; have AW5 : Aside (w5 = W2.drewN n5) := hw5; clear hw5)
      have D5 : Dm w5 H (H + 1) r1 v := by rw [AW5.out]; exact AR.out.1.drewN _
      have F5 : Fr H (H + 1) w1 w5 := by rw [AW5.out]; exact AR.out.2.1.trans (Fr.drewN _ _)
      have AD5 : Aside (Dm w5 H (H + 1) r1 v ∧ Fr H (H + 1) w1 w5) := ⟨D5, F5⟩
      have d3 := D5.c3
      have d4 := D5.c4
      have d5 := D5.c5
      have d6 := D5.c6
      rw [AN.out.2.1] at d3
      rw [AN.out.2.2.2.2.1] at d4
      rw [AN.out.2.2.2.2.2.2] at d5
      rw [AN.out.2.2.2.2.2.1] at d6
      clear D5 F5 hpl
      go_upto_if 94 with fail
      go_cut [11] (fun s11 wx => s11 = .string sQ ∧ wx = w5)
      case first => as_aux_lemma =>
        cases nd with
        | true =>
          have AO : Aside (sM = sQ) := AQ.out.1 rfl
          clear d4
          go_wp2_with fail
          (try go_meet)
          exact ⟨by rw [AO.out], rfl⟩
        | false =>
          have AO : Aside (sN = sQ) := AQ.out.2 rfl
          clear d4
          go_wp2_with fail
          (try go_meet)
          exact ⟨by rw [AO.out], rfl⟩
      case rest =>
      obtain ⟨rfl, hwc⟩ := hcut
      have hwc := hwc.symm
      subst hwc
      go_upto_if 98 with fail
      go_cut [7] (fun s7 wx => s7 = .int .u64 (Z : Int) ∧ wx = w5)
      case first => as_aux_lemma =>
        cases sd with
        | true =>
          have AO : Aside (rz = Z) := AQ2.out.1 rfl
          clear d6
          go_wp2_with fail
          (try go_meet)
          exact ⟨by rw [AO.out], rfl⟩
        | false =>
          have AO : Aside (zv = Z) := AQ2.out.2 rfl
          clear d6
          go_wp2_with fail
          (try go_meet)
          exact ⟨by rw [AO.out], rfl⟩
      case rest =>
      obtain ⟨rfl, hwc⟩ := hcut
      have hwc := hwc.symm
      subst hwc
      clear d3 d5
      obtain ⟨D6, O6, c6', f6'⟩ := AD5.out.1.clr
      have c6 := AD5.out.1.c4
      have f6 := AD5.out.1.fz 4
      obtain ⟨w6, hw6⟩ : ∃ w6, (w5.setCell ⟨H + 1, 4, none⟩ (.bool false)).setCell ⟨H + 1, 6, none⟩ (.bool false) = w6 := ⟨_, rfl⟩
      rw [hw6] at D6 O6
      have F6 : Fr H (H + 1) w1 w6 := AD5.out.2.trans (Fr.of_only O6 (Nat.le_succ H))
      obtain ⟨r6, hr6⟩ : ∃ r6, { r1 with nd := false, sd := false } = r6 := ⟨_, rfl⟩
      rw [hr6] at D6
      have h6 : r6.ev = r1.ev ∧ r6.cm = (none, none) ∧ r6.why = 0 ∧ r6.sat = L ∧ r6.sp = false := by rw [← hr6]; exact ⟨rfl, rfl, AR.out.2.2.why, AR.out.2.2.sat, AR.out.2.2.sp⟩
      have AD6 : Aside (Dm w6 H (H + 1) r6 v ∧ Fr H (H + 1) w1 w6 ∧ r6.ev = r1.ev ∧ r6.cm = (none, none) ∧ r6.why = 0 ∧ r6.sat = L ∧ r6.sp = false) := ⟨D6, F6, h6⟩
      have hcm : tcm k r1.cm = (none, none) := by unfold tcm; rw [ATw.out]; rfl
      have ACm : Aside (tcm k r1.cm = (none, none)) := hcm
      have hln := AR.out.2.2.ln
      have hte := dtell_c te 256 nm2 (Nat.le_succ H) D6 (by rw [h6.1]; have := AX.out.2.1; have := AT.out.2.1; omega)
      have hev : gevv 256 nm2 = #[.int .i64 1, .int .u8 0, .int .i64 2, .int .i64 0, .string sQ] := by rw [← AN.out.2.2.2.1]; rfl
      rw [hev] at hte
      clear hcm hln h6 hr6 D6 F6 O6 hev d4 d6 AW5
      go_upto_region 28 with fail
      (try rw [hw6])
      clear hw6 c6 f6 c6' f6'
      by_cases h48 : k = 48
      · have u1 : ((k : Int) == 48) = true := by rw [h48]; rfl
        have AFi : Aside (tisf k = true) := by rw [h48]; rfl
        clear h48
        go_upto_region 30 with (go_at_call 22; refine hte.mono ?_; rintro e7 w7 ⟨rfl, ⟨v7, D7⟩, F7⟩)
        have hfi := dfile_c w7 _ v7 D7 (Nat.le_succ H) (some ⟨ba, oa, none⟩) b L C t5 Z AX.out.1 (by have := AX.out.2.1; omega) AX.out.2.2.2.2.1 (by have := AT.out.2.2.2.1; have := AT.out.2.2.2.2.2.2.2.1; omega) (by have := AT.out.2.2.2.2.2.2.2.1; omega) AZZ.out.2 (by have := AR.out.2.2.ln; have := AT.out.2.2.2.2.2.2.2.1; rw [AD6.out.2.2.1]; simp; omega) (fun u hu => AX.out.2.2.2.2.2.1 u ((A1.out.1.trans (AD6.out.2.1.trans F7).bel).trans hu))
        have AF7 : Aside (Fr H (H + 1) w1 w7) := AD6.out.2.1.trans F7
        clear D7 F7 hte
        go_wp2_with (go_at_call 23; refine hfi.mono ?_; rintro e8 w8 ⟨rfl, ⟨v8, D8⟩, F8⟩)
        (try go_meet)
        refine ⟨rfl, _, v8, D8, AF7.out.trans F8, ?_, ?_, AD6.out.2.2.2.2.1, AD6.out.2.2.2.2.2.1, AD6.out.2.2.2.2.2.2⟩
        · show (r6.ev ++ [(te, 256, nm2)]) ++ fev b t5 Z = _
          rw [ev_file (by rw [AK.out.2.1]; exact AFi.out), AD6.out.2.2.1, AN.out.2.2.1, AT.out.2.2.2.2.2.2.2.1, AT.out.2.2.2.2.2.2.2.2.1, List.append_assoc]
        · rw [AK.out.2.1, ACm.out]; exact AD6.out.2.2.2.1
      have u1 : ((k : Int) == 48) = false := by rw [beq_eq_false_iff_ne]; omega
      by_cases h0 : k = 0
      · have u2 : ((k : Int) == 0) = true := by rw [h0]; rfl
        have AFi : Aside (tisf k = true) := by rw [h0]; rfl
        clear h0 h48
        go_upto_region 30 with (go_at_call 22; refine hte.mono ?_; rintro e7 w7 ⟨rfl, ⟨v7, D7⟩, F7⟩)
        have hfi := dfile_c w7 _ v7 D7 (Nat.le_succ H) (some ⟨ba, oa, none⟩) b L C t5 Z AX.out.1 (by have := AX.out.2.1; omega) AX.out.2.2.2.2.1 (by have := AT.out.2.2.2.1; have := AT.out.2.2.2.2.2.2.2.1; omega) (by have := AT.out.2.2.2.2.2.2.2.1; omega) AZZ.out.2 (by have := AR.out.2.2.ln; have := AT.out.2.2.2.2.2.2.2.1; rw [AD6.out.2.2.1]; simp; omega) (fun u hu => AX.out.2.2.2.2.2.1 u ((A1.out.1.trans (AD6.out.2.1.trans F7).bel).trans hu))
        have AF7 : Aside (Fr H (H + 1) w1 w7) := AD6.out.2.1.trans F7
        clear D7 F7 hte
        go_wp2_with (go_at_call 23; refine hfi.mono ?_; rintro e8 w8 ⟨rfl, ⟨v8, D8⟩, F8⟩)
        (try go_meet)
        refine ⟨rfl, _, v8, D8, AF7.out.trans F8, ?_, ?_, AD6.out.2.2.2.2.1, AD6.out.2.2.2.2.2.1, AD6.out.2.2.2.2.2.2⟩
        · show (r6.ev ++ [(te, 256, nm2)]) ++ fev b t5 Z = _
          rw [ev_file (by rw [AK.out.2.1]; exact AFi.out), AD6.out.2.2.1, AN.out.2.2.1, AT.out.2.2.2.2.2.2.2.1, AT.out.2.2.2.2.2.2.2.2.1, List.append_assoc]
        · rw [AK.out.2.1, ACm.out]; exact AD6.out.2.2.2.1
      have u2 : ((k : Int) == 0) = false := by rw [beq_eq_false_iff_ne]; omega
      by_cases h55 : k = 55
      · have u3 : ((k : Int) == 55) = true := by rw [h55]; rfl
        have AFi : Aside (tisf k = true) := by rw [h55]; rfl
        clear h0 h48 h55
        go_upto_region 30 with (go_at_call 22; refine hte.mono ?_; rintro e7 w7 ⟨rfl, ⟨v7, D7⟩, F7⟩)
        have hfi := dfile_c w7 _ v7 D7 (Nat.le_succ H) (some ⟨ba, oa, none⟩) b L C t5 Z AX.out.1 (by have := AX.out.2.1; omega) AX.out.2.2.2.2.1 (by have := AT.out.2.2.2.1; have := AT.out.2.2.2.2.2.2.2.1; omega) (by have := AT.out.2.2.2.2.2.2.2.1; omega) AZZ.out.2 (by have := AR.out.2.2.ln; have := AT.out.2.2.2.2.2.2.2.1; rw [AD6.out.2.2.1]; simp; omega) (fun u hu => AX.out.2.2.2.2.2.1 u ((A1.out.1.trans (AD6.out.2.1.trans F7).bel).trans hu))
        have AF7 : Aside (Fr H (H + 1) w1 w7) := AD6.out.2.1.trans F7
        clear D7 F7 hte
        go_wp2_with (go_at_call 23; refine hfi.mono ?_; rintro e8 w8 ⟨rfl, ⟨v8, D8⟩, F8⟩)
        (try go_meet)
        refine ⟨rfl, _, v8, D8, AF7.out.trans F8, ?_, ?_, AD6.out.2.2.2.2.1, AD6.out.2.2.2.2.2.1, AD6.out.2.2.2.2.2.2⟩
        · show (r6.ev ++ [(te, 256, nm2)]) ++ fev b t5 Z = _
          rw [ev_file (by rw [AK.out.2.1]; exact AFi.out), AD6.out.2.2.1, AN.out.2.2.1, AT.out.2.2.2.2.2.2.2.1, AT.out.2.2.2.2.2.2.2.2.1, List.append_assoc]
        · rw [AK.out.2.1, ACm.out]; exact AD6.out.2.2.2.1
      have u3 : ((k : Int) == 55) = false := by rw [beq_eq_false_iff_ne]; omega
      have AFi : Aside (tisf k = false) := (show tisf k = false by unfold tisf; simp [h48, h0, h55])
      clear h0 h48 h55 hte
      go_wp2_with fail
      (try go_meet)
      exact ⟨rfl, r6, v, AD6.out.1, AD6.out.2.1, by rw [ev_none (by rw [AK.out.2.1]; exact AFi.out), List.append_nil]; exact AD6.out.2.2.1, by rw [AK.out.2.1, ACm.out]; exact AD6.out.2.2.2.1, AD6.out.2.2.2.2.1, AD6.out.2.2.2.2.2.1, AD6.out.2.2.2.2.2.2⟩
    case rest =>
    obtain ⟨rfl, hr⟩ := hcut
    obtain ⟨W3, hW3⟩ : ∃ W3, W3 = wc := ⟨_, rfl⟩
    subst hW3
    obtain ⟨r2, v2, D2, F2, oh2⟩ := (hr : Aside _).out
    have AR2 : Aside (Dm W3 H (H + 1) r2 v2 ∧ Fr H (H + 1) w1 W3 ∧ Oh b t L Z r1 r2) := ⟨D2, F2, oh2⟩
    obtain ⟨q, hq⟩ : ∃ q, q0 - 512 = q := ⟨_, rfl⟩
    have hq512 : 512 ≤ q0 := by have := AT.out.2.2.1; have := AT.out.2.2.2.1; omega
    have e7 : (q0 : Int) - 512 = (q : Int) := by omega
    have e8 : IntKind.u64.wrap (q : Int) = (q : Int) := by rw [tw_u64]; omega
    have bq : (q : Int) ≤ 10000000000 := by omega
    have AQq : Aside (L - t - 512 = q ∧ t + 512 ≤ L) := ⟨by have := AT.out.2.2.1; omega, AT.out.2.2.2.1⟩
    clear hr hq D2 F2 oh2 hq512
    by_cases hqZ : q < Z
    · have u1 : ((q : Int) < (Z : Int)) = True := eq_true (by omega)
      have u1n : (q < Z) = True := eq_true hqZ
      have hst := dstop_c 1 L AR2.out.1
      have AFX : Aside (Fr H (H + 1) w1 W3 ∧ Fo b (dstop 1 L r2).ev (dstop 1 L r2).why (dstop 1 L r2).sat ∧ (dstop 1 L r2).ev.length ≤ 3 * b.length) := ⟨AR2.out.2.1, AR.out.2.2.part AX.out.1 AQq.out.2 AHg.out (by rw [AK.out.2.1]; exact AZZ.out.1) AR2.out.2.2 (by have := AQq.out.1; omega), by
        show r2.ev.length ≤ _
        have h1 := AR2.out.2.2.ev
        have h3 := AR.out.2.2.ln
        have hp := ev_part (b := b) (t := t) (cn := r1.cm.1) (by have := AQq.out.2; have := AX.out.1; omega) (show b.length - t - 512 < Z by have := AQq.out.1; have := AX.out.1; omega)
        have hh := hev_len (hb b t) r1.cm.1 t (b.drop (t + 512))
        rw [h1, hp, List.length_append]
        rw [List.length_drop] at hh
        have := AQq.out.2
        have := AX.out.1
        omega⟩
      clear hqZ
      go_upto_region 33 with (go_at_call 17; refine hst.mono ?_; rintro e9 w8 ⟨rfl, D8, O8⟩)
      have F8 := AFX.out.1.trans (Fr.of_only O8 (Nat.le_succ H))
      have kH := keepH A1.out.2.1 A1.out.2.2 F8
      obtain ⟨va, vc, hv, _⟩ := (D8).ow.shape
      have DX := D8
      rw [hv] at DX
      have d0 := DX.c0
      have d1 := DX.c1
      have d2 := DX.c2
      have d3 := DX.c3
      have d4 := DX.c4
      have d5 := DX.c5
      have d6 := DX.c6
      have d7x := DX.c7
      have b0 : (w8).cell? ⟨H, 0, none⟩ = some (.slice none 0 0) := (kH.cell 0).trans rfl
      have b1 : (w8).cell? ⟨H, 1, none⟩ = some (.int .i64 0) := (kH.cell 1).trans rfl
      have b2 : (w8).cell? ⟨H, 2, none⟩ = some (.int .i64 0) := (kH.cell 2).trans rfl
      have b3 : (w8).cell? ⟨H, 3, none⟩ = some (.string ⟨#[]⟩) := (kH.cell 3).trans rfl
      have b4 : (w8).cell? ⟨H, 4, none⟩ = some (.bool false) := (kH.cell 4).trans rfl
      have b5 : (w8).cell? ⟨H, 5, none⟩ = some (.int .u64 0) := (kH.cell 5).trans rfl
      have b6 : (w8).cell? ⟨H, 6, none⟩ = some (.bool false) := (kH.cell 6).trans rfl
      have b7 : (w8).cell? ⟨H, 7, none⟩ = some (.bool false) := (kH.cell 7).trans rfl
      have y0 := kH.frozen 0
      have y1 := kH.frozen 1
      have y2 := kH.frozen 2
      have y3 := kH.frozen 3
      have y4 := kH.frozen 4
      have y5 := kH.frozen 5
      have y6 := kH.frozen 6
      have y7 := kH.frozen 7
      have AF : Aside _ := of_fin DX (A1.out.1.trans (F8).bel) kH
      have AFo : Aside _ := AFX.out.2
      clear kH DX hv D8 O8 F8 hst u1 u1n e7 e8 bq bZ hsl e0 e5 e6 bq0 t1 t1n t2 t2n bt5 bte bCh bCh2
      go_wp2_with fail
      (try simp only [Exit.inBlock, Exit.then])
      obtain ⟨m1, m2, m3⟩ := AF.out
      refine bodyPost_ret (v := .agg (dcs (dstop 1 L r2) (.slice va (dstop 1 L r2).ev.length vc))) ?_ rfl ?_
      · exact results_cell_row rfl _ _ H 31 _ (0, 0) _ rfl m1 Tryz.underlying31 rfl size29t
      · exact ⟨⟨_, _, rfl, AFo.out.1, AFo.out.2, m2, m3⟩⟩
    have u1 : ((q : Int) < (Z : Int)) = False := eq_false (by omega)
    have u1n : (q < Z) = False := eq_false hqZ
    obtain ⟨ntw, hntw⟩ : ∃ ntw, (!tw) = ntw := ⟨_, rfl⟩
    have ANt : Aside ((!tw) = ntw ∧ ¬ q < Z) := ⟨hntw, hqZ⟩
    clear hqZ
    go_upto_if 135 with fail
    clear hntw u1 u1n
    go_cut [] (fun wx => Aside (∃ r3, Dm wx H (H + 1) r3 v2 ∧ Only (H + 1) W3 wx ∧ Af r2 r3 (tfin (tus k) ((b.drop (t + 512)).take Z) r2.cm) (t + 511 + Z)))
    case first => as_aux_lemma =>
      cases ntw with
      | false =>
        have htw : town k = true := ATw.out.trans (by have := ANt.out.1; cases tw <;> simp at this ⊢)
        have AG : Aside (Af r2 r2 (tfin (tus k) ((b.drop (t + 512)).take Z) r2.cm) (t + 511 + Z)) := by
          rw [town_fin htw]
          exact ⟨rfl, fun _ => ⟨rfl, AR2.out.2.2.sp, rfl, rfl⟩, fun e => absurd rfl e⟩
        clear htw
        go_wp2_with fail
        (try go_meet)
        exact ⟨r2, AR2.out.1, Only.refl _ _, AG.out⟩
      | true =>
        have htw : town k = false := ATw.out.trans (by have := ANt.out.1; cases tw <;> simp at this ⊢)
        obtain ⟨t6, ht6⟩ : ∃ t6, t5 + Z = t6 := ⟨_, rfl⟩
        obtain ⟨tz, htz⟩ : ∃ tz, te + Z = tz := ⟨_, rfl⟩
        have hZq : Z ≤ q := by have := ANt.out.2; omega
        have at_ := AT.out
        have aq := AQq.out
        have ax := AX.out
        obtain ⟨a2, ha2, hl2, _⟩ := cut_of (some ⟨ba, oa, none⟩) b L C t5 t6 ax.1 ax.2.2.1 (by omega) (by omega) (by intro e; cases e) w (ax.2.2.2.2.2.1 w (Below.refl _ _))
        obtain ⟨C6, hC6⟩ : ∃ C6, C - t5 = C6 := ⟨_, rfl⟩
        rw [show t6 - t5 = Z by omega, hC6] at ha2
        have hdd : (b.take t6).drop t5 = (b.drop (t + 512)).take Z := by rw [List.drop_take, show t6 - t5 = Z by omega, at_.2.2.2.2.2.2.2.1]
        rw [hdd] at hl2
        have hcd : (b.drop (t + 512)).take Z = [] ∨ ∃ b' o', a2 = some ⟨b', o', none⟩ ∧ b' < H ∧ ∀ (i x : Nat), ((b.drop (t + 512)).take Z)[i]? = some x → W3.cell? ⟨b', o' + i, none⟩ = some (.int .u8 (x : Int)) := by
          have h0 := hl2 w (ax.2.2.2.2.2.1 w (Below.refl _ _))
          have h3 := hl2 W3 (ax.2.2.2.2.2.1 W3 (A1.out.1.trans AR2.out.2.1.bel))
          by_cases hne : (b.drop (t + 512)).take Z = []
          · exact Or.inl hne
          · rcases h3 with e | ⟨b', o', e, hc'⟩
            · exact absurd e hne
            · refine Or.inr ⟨b', o', e, ?_, hc'⟩
              rcases h0 with e0 | ⟨b0, o0, e0, hc0⟩
              · exact absurd e0 hne
              · rw [e] at e0
                cases e0
                obtain ⟨x, rest, hx⟩ := List.exists_cons_of_ne_nil hne
                rw [hx] at hc0
                have := World.block_lt_of_cell? w _ (hc0 0 x rfl)
                rw [AH.out] at this
                exact this
        have hgm := AHg.out.most r1.cm.2
        rw [AK.out.2.1, AZZ.out.1] at hgm
        have hsp := dspecial_c W3 r2 tz k AK.out.2.2 htw AR2.out.1 AR2.out.2.2.sp (Nat.le_succ H) a2 ((b.drop (t + 512)).take Z) Z C6 (by rw [List.length_take, List.length_drop]; omega) (fun h2 => by have := hgm h2; omega) (by omega) ((ax.2.2.2.2.1.drop _).take _) hcd
        have e10 : IntKind.i64.wrap (Z : Int) = (Z : Int) := IntWalk.i64_in _ ⟨by omega, by omega⟩
        have e11 : (t5 : Int) + (Z : Int) = (t6 : Int) := by omega
        have e12 : (te : Int) + (Z : Int) = (tz : Int) := by omega
        have bZ3 : (Z : Int) ≤ 10000000000 := by omega
        have bt6 : (t6 : Int) ≤ 30000000000 := by omega
        have btz : (tz : Int) ≤ 30000000000 := by omega
        have ATz : Aside (tz = t + 511 + Z) := (show tz = t + 511 + Z by rw [← htz, ← at_.2.2.2.2.2.2.2.2.1])
        clear htw ht6 htz hZq at_ aq ax hl2 hC6 hdd hcd hgm
        go_wp2_with (go_at_call 24; refine hsp.mono ?_; intro e9 w9 h9; obtain ⟨he9, T9⟩ := h9.ex; subst he9; have A9 : Aside _ := T9; clear T9 h9)
        (try go_meet)
        obtain ⟨r3, m1, m2, m3⟩ := A9.out
        exact ⟨r3, m1, m2, by rw [← ATz.out]; exact m3⟩
    case rest =>
    obtain ⟨r3, D3, O3, af3⟩ := (hcut : Aside _).out
    obtain ⟨W4, hW4⟩ : ∃ W4, W4 = wc := ⟨_, rfl⟩
    subst hW4
    have F3 : Fr H (H + 1) w1 W4 := AR2.out.2.1.trans (Fr.of_only O3 (Nat.le_succ H))
    have AR3 : Aside (Dm W4 H (H + 1) r3 v2 ∧ Fr H (H + 1) w1 W4 ∧ Af r2 r3 (tfin (tus (tkd (hb b t))) ((b.drop (t + 512)).take Z) r2.cm) (t + 511 + Z)) := ⟨D3, F3, by rw [AK.out.2.1]; exact af3⟩
    have d7 := D3.c7
    have hlen3 : r3.ev.length ≤ 3 * b.length := by
      rw [af3.1, AR2.out.2.2.ev, List.length_append]
      have := ev_len b t Z r1.cm.1
      have := AR.out.2.2.ln
      have := AQq.out
      have := ANt.out.2
      have := AX.out.1
      omega
    have ALn : Aside (r3.ev.length ≤ 3 * b.length) := hlen3
    clear hcut D3 O3 af3 F3 hlen3
    cases hsp3 : r3.sp with
    | true =>
      rw [hsp3] at d7
      have AFX : Aside (Fo b r3.ev r3.why r3.sat ∧ r3.ev.length ≤ 3 * b.length) := ⟨AR.out.2.2.told AX.out.1 AQq.out.2 AHg.out (by rw [AK.out.2.1]; exact AZZ.out.1) AR2.out.2.2 (by have := AQq.out.1; have := ANt.out.2; omega) AR3.out.2.2 hsp3, ALn.out⟩
      clear hsp3
      go_upto_region 37 with fail
      clear d7
      have kH := keepH A1.out.2.1 A1.out.2.2 AR3.out.2.1
      obtain ⟨va, vc, hv, _⟩ := (AR3.out.1).ow.shape
      have DX := AR3.out.1
      rw [hv] at DX
      have d0 := DX.c0
      have d1 := DX.c1
      have d2 := DX.c2
      have d3 := DX.c3
      have d4 := DX.c4
      have d5 := DX.c5
      have d6 := DX.c6
      have d7x := DX.c7
      have b0 : (W4).cell? ⟨H, 0, none⟩ = some (.slice none 0 0) := (kH.cell 0).trans rfl
      have b1 : (W4).cell? ⟨H, 1, none⟩ = some (.int .i64 0) := (kH.cell 1).trans rfl
      have b2 : (W4).cell? ⟨H, 2, none⟩ = some (.int .i64 0) := (kH.cell 2).trans rfl
      have b3 : (W4).cell? ⟨H, 3, none⟩ = some (.string ⟨#[]⟩) := (kH.cell 3).trans rfl
      have b4 : (W4).cell? ⟨H, 4, none⟩ = some (.bool false) := (kH.cell 4).trans rfl
      have b5 : (W4).cell? ⟨H, 5, none⟩ = some (.int .u64 0) := (kH.cell 5).trans rfl
      have b6 : (W4).cell? ⟨H, 6, none⟩ = some (.bool false) := (kH.cell 6).trans rfl
      have b7 : (W4).cell? ⟨H, 7, none⟩ = some (.bool false) := (kH.cell 7).trans rfl
      have y0 := kH.frozen 0
      have y1 := kH.frozen 1
      have y2 := kH.frozen 2
      have y3 := kH.frozen 3
      have y4 := kH.frozen 4
      have y5 := kH.frozen 5
      have y6 := kH.frozen 6
      have y7 := kH.frozen 7
      have AF : Aside _ := of_fin DX (A1.out.1.trans (AR3.out.2.1).bel) kH
      have AFo : Aside _ := AFX.out
      clear kH DX hv e7 e8 bq bZ hsl e0 e5 e6 bq0 t1 t1n t2 t2n bt5 bte bCh bCh2
      go_wp2_with fail
      (try simp only [Exit.inBlock, Exit.then])
      obtain ⟨m1, m2, m3⟩ := AF.out
      refine bodyPost_ret (v := .agg (dcs (r3) (.slice va (r3).ev.length vc))) ?_ rfl ?_
      · exact results_cell_row rfl _ _ H 31 _ (0, 0) _ rfl m1 Tryz.underlying31 rfl size29t
      · exact ⟨⟨_, _, rfl, AFo.out.1, AFo.out.2, m2, m3⟩⟩
    | false =>
    rw [hsp3] at d7
    have ASp : Aside (r3.sp = false) := hsp3
    obtain ⟨m, hm⟩ : ∃ m, Z % 512 = m := ⟨_, rfl⟩
    obtain ⟨P, hP⟩ : ∃ P, (512 - m) % 512 = P := ⟨_, rfl⟩
    obtain ⟨g, hg⟩ : ∃ g, q - Z = g := ⟨_, rfl⟩
    have hZq : Z ≤ q := by have := ANt.out.2; omega
    have hm5 : m < 512 := by omega
    have hP5 : P < 512 := by omega
    have v1 : (Z : Int) % 512 = (m : Int) := by omega
    have v2' : Int.tmod (Z : Int) 512 = (m : Int) := by rw [Int.tmod_eq_emod_of_nonneg (by omega)]; omega
    have v3 : IntKind.u64.wrap (512 - (m : Int)) = 512 - (m : Int) := by rw [tw_u64]; omega
    have v4 : (512 - (m : Int)) % 512 = (P : Int) := by omega
    have v5 : Int.tmod (512 - (m : Int)) 512 = (P : Int) := by rw [Int.tmod_eq_emod_of_nonneg (by omega)]; omega
    have v6 : IntKind.u64.wrap ((q : Int) - (Z : Int)) = (g : Int) := by rw [tw_u64]; omega
    have v6' : (q : Int) - (Z : Int) = (g : Int) := by omega
    have bm : (m : Int) < 512 := by omega
    have bP : (P : Int) < 512 := by omega
    have bg : (g : Int) ≤ 10000000000 := by omega
    have bZq : (Z : Int) ≤ (q : Int) := by omega
    have APp : Aside (P = (512 - Z % 512) % 512 ∧ g = q - Z ∧ Z ≤ q ∧ P < 512) := ⟨by rw [hm]; exact hP.symm, hg.symm, hZq, hP5⟩
    by_cases hgP : g < P
    · have u2 : ((g : Int) < (P : Int)) = True := eq_true (by omega)
      have u2n : (g < P) = True := eq_true hgP
      have hst := dstop_c 1 L AR3.out.1
      have AFX : Aside (Fo b (dstop 1 L r3).ev (dstop 1 L r3).why (dstop 1 L r3).sat ∧ (dstop 1 L r3).ev.length ≤ 3 * b.length) := ⟨AR.out.2.2.pad AX.out.1 AQq.out.2 AHg.out (by rw [AK.out.2.1]; exact AZZ.out.1) AR2.out.2.2 (by have := AQq.out.1; omega) AR3.out.2.2 hsp3 (by have := APp.out; have := AQq.out.1; omega), ALn.out⟩
      clear hsp3 hm hP hg hZq hm5 hP5 hgP
      go_upto_region 41 with (go_at_call 17; refine hst.mono ?_; rintro e9 w8 ⟨rfl, D8, O8⟩)
      have F8 := AR3.out.2.1.trans (Fr.of_only O8 (Nat.le_succ H))
      have kH := keepH A1.out.2.1 A1.out.2.2 F8
      obtain ⟨va, vc, hv, _⟩ := (D8).ow.shape
      have DX := D8
      rw [hv] at DX
      have d0 := DX.c0
      have d1 := DX.c1
      have d2 := DX.c2
      have d3 := DX.c3
      have d4 := DX.c4
      have d5 := DX.c5
      have d6 := DX.c6
      have d7x := DX.c7
      have b0 : (w8).cell? ⟨H, 0, none⟩ = some (.slice none 0 0) := (kH.cell 0).trans rfl
      have b1 : (w8).cell? ⟨H, 1, none⟩ = some (.int .i64 0) := (kH.cell 1).trans rfl
      have b2 : (w8).cell? ⟨H, 2, none⟩ = some (.int .i64 0) := (kH.cell 2).trans rfl
      have b3 : (w8).cell? ⟨H, 3, none⟩ = some (.string ⟨#[]⟩) := (kH.cell 3).trans rfl
      have b4 : (w8).cell? ⟨H, 4, none⟩ = some (.bool false) := (kH.cell 4).trans rfl
      have b5 : (w8).cell? ⟨H, 5, none⟩ = some (.int .u64 0) := (kH.cell 5).trans rfl
      have b6 : (w8).cell? ⟨H, 6, none⟩ = some (.bool false) := (kH.cell 6).trans rfl
      have b7 : (w8).cell? ⟨H, 7, none⟩ = some (.bool false) := (kH.cell 7).trans rfl
      have y0 := kH.frozen 0
      have y1 := kH.frozen 1
      have y2 := kH.frozen 2
      have y3 := kH.frozen 3
      have y4 := kH.frozen 4
      have y5 := kH.frozen 5
      have y6 := kH.frozen 6
      have y7 := kH.frozen 7
      have AF : Aside _ := of_fin DX (A1.out.1.trans (F8).bel) kH
      have AFo : Aside _ := AFX.out
      clear kH DX hv D8 O8 F8 hst u2 u2n e7 e8 bq bZ v1 v2' v3 v4 v5 v6 v6' hsl e0 e5 e6 bq0 t1 t1n t2 t2n bt5 bte bCh bCh2
      go_wp2_with fail
      (try simp only [Exit.inBlock, Exit.then])
      obtain ⟨m1, m2, m3⟩ := AF.out
      refine bodyPost_ret (v := .agg (dcs (dstop 1 L r3) (.slice va (dstop 1 L r3).ev.length vc))) ?_ rfl ?_
      · exact results_cell_row rfl _ _ H 31 _ (0, 0) _ rfl m1 Tryz.underlying31 rfl size29t
      · exact ⟨⟨_, _, rfl, AFo.out.1, AFo.out.2, m2, m3⟩⟩
    have u2 : ((g : Int) < (P : Int)) = False := eq_false (by omega)
    have u2n : (g < P) = False := eq_false hgP
    obtain ⟨z1, hz1⟩ : ∃ z1, 512 + Z = z1 := ⟨_, rfl⟩
    obtain ⟨z2, hz2⟩ : ∃ z2, z1 + P = z2 := ⟨_, rfl⟩
    have x1 : IntKind.i64.wrap (Z : Int) = (Z : Int) := IntWalk.i64_in _ ⟨by omega, by omega⟩
    have x2 : IntKind.i64.wrap (P : Int) = (P : Int) := IntWalk.i64_in _ ⟨by omega, by omega⟩
    have x3 : (512 : Int) + (Z : Int) = (z1 : Int) := by omega
    have x4 : (z1 : Int) + (P : Int) = (z2 : Int) := by omega
    have bz1 : (z1 : Int) ≤ 20000000000 := by omega
    have bz2 : (z2 : Int) ≤ 30000000000 := by omega
    have ANx : Aside (t + z2 = t + 512 + Z + (512 - Z % 512) % 512 ∧ t + z2 ≤ L ∧ 512 ≤ z2 ∧ Or b (t + 512 + Z + (512 - Z % 512) % 512) L r3) := ⟨by have := APp.out; omega, by have := APp.out; have := AQq.out; omega, by omega, AR.out.2.2.next AX.out.1 AQq.out.2 AHg.out (by rw [AK.out.2.1]; exact AZZ.out.1) AR2.out.2.2 (by have := AQq.out.1; omega) AR3.out.2.2 hsp3 (by have := APp.out; have := AQq.out.1; omega)⟩
    clear hsp3 hm hP hg hZq hm5 hP5 hgP hz1 hz2
    go_wp2_with fail
    have an := ANx.out
    have at_ := AT.out
    go_roundg (L - (t + z2))
    case measure => omega
    case rel => exact ⟨t + z2, by go_num, ⟨rfl, an.2.1, r3, v2, AR3.out.1, AR3.out.2.1, by rw [an.1]; exact an.2.2.2⟩⟩
end
end Go.Proofs.YtcmmjbkgoafbnaaGreatDoor

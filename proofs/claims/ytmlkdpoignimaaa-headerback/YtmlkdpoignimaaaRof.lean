/-
  What the document's Of comes to: the walk.
-/
import Derived.Test.YtmlkdpoignimaaaOfm
namespace Go.Proofs.Ytmlkdpoignimaaa
open Go.RowKit
set_option linter.unusedVariables false
set_option maxHeartbeats 4000000 in
theorem rof_c (w : World) (a : Option Addr) (l : List Nat) (L C most : Nat) (hlz : Lies w a l) (hL : l.length = L) (hLC : L ≤ C) (hLb : L < 1000000000000000) (ho : Oct l) (h1 : 1 ≤ most) (h2 : most ≤ 65536) : Calls Try.prog 11 #[.slice a L C, .int .i64 (most : Int)] w fun e w' => OfTo l most w e w' := by
  unfold OfTo
  obtain ⟨R, hR⟩ : ∃ R, rn most 0 [] [] l = R := ⟨_, rfl⟩
  rw [hR]
  obtain ⟨H, hH⟩ : ∃ H, w.heap.size = H := ⟨_, rfl⟩
  obtain ⟨y, hy⟩ : ∃ y, R.why = y := ⟨_, rfl⟩
  obtain ⟨t, ht⟩ : ∃ t, R.at_ = t := ⟨_, rfl⟩
  rw [hy, ht]
  have z1 : ∀ (W : World) (o : Obj), (W.alloc o).heap.size = W.heap.size + 1 := fun W o => by show (W.heap.push o).size = _; simp
  obtain ⟨w1, hw1⟩ : ∃ w1, w1 = (w.alloc (.cells #[.slice none 0 0, .int .i64 0, .int .i64 0] 30)).alloc (.cells #[.slice none 0 0, .int .i64 0, .int .i64 (L : Int)] 30) := ⟨_, rfl⟩
  have kR : Cells w1 H #[.slice none 0 0, .int .i64 0, .int .i64 0] 30 := by rw [hw1, ← hH]; exact (Cells.new w _ 30).alloc _
  have kB : Cells w1 (H + 1) (rcs (.slice none 0 0) 0 L) 30 := by
    have := Cells.new (w.alloc (.cells #[.slice none 0 0, .int .i64 0, .int .i64 0] 30)) #[.slice none 0 0, .int .i64 0, .int .i64 (L : Int)] 30
    rw [z1, hH] at this
    rw [hw1]; exact this
  have b1 : Below H w w1 := by rw [hw1, ← hH]; exact ((Below.refl _ w).alloc (Nat.le_refl _) _).alloc (by rw [z1]; omega) _
  have A0 : Aside (Oi w1 w H most L l R 0 0 (.slice none 0 0) []) := ⟨⟨kB, Ow.nil (by have := kB.lt; omega), by omega⟩, kR, b1, by simpa using hR, by omega, Nat.le_refl _, by simp, by simp [flat], by simp [flat, Oct]⟩
  have A : Aside (Lies w a l ∧ l.length = L ∧ L ≤ C ∧ L < 1000000000000000 ∧ Oct l ∧ w.heap.size = H ∧ most ≤ 65536 ∧ R.why = y ∧ R.at_ = t) := ⟨hlz, hL, hLC, hLb, ho, hH, h2, hy, ht⟩
  have hmI : (most : Int) ≤ 65536 := by omega
  clear hlz hL hLC hLb ho h1 h2 hR hy ht kR kB b1
  go_enter Try.func11, Try.ntmps11
  go_upto_region 2 with fail
  rw [← hw1]
  clear hw1 z1
  go_wp2_with fail
  go_loopg [6, 7] L (fun gg s6 s7 wr => ∃ k f0 : Nat, s6 = .int .i64 (f0 : Int) ∧ s7 = .int .i64 (k : Int) ∧ Aside (k + gg = L ∧ ∃ vf F, Oi wr w H most L l R k f0 vf F))
  case atStart => exact ⟨0, 0, rfl, rfl, by omega, _, _, A0.out⟩
  case round =>
    obtain ⟨k, f0, rfl, rfl, hI⟩ := hrel
    obtain ⟨hkg, vf, F, h⟩ := hI.out
    have a0 := A.out
    clear hI A0
    have hfk := h.fk
    have hkm := h.km
    have hff := h.ff
    have hres := zero_res h.res
    obtain ⟨e0, e1, e2, g0, g1, g2⟩ := hres
    have c0 := h.rr.c0
    have c1 := h.rr.c1
    have c2 := h.rr.c2
    have z0 := h.rr.fz 0
    have z1 := h.rr.fz 1
    have z2 := h.rr.fz 2
    obtain ⟨va, vc, hvf, _⟩ := h.rr.own.shape
    obtain ⟨N, hN⟩ : ∃ N, F.length = N := ⟨_, rfl⟩
    rw [hN] at hvf
    subst hvf
    by_cases hk : k < L
    · have t1 : ((k : Int) < (L : Int)) = True := eq_true (by omega)
      have t1' : (k < L) = True := eq_true hk
      obtain ⟨x, hx⟩ : ∃ x, l[k]? = some x := ⟨_, List.getElem?_eq_getElem (by omega)⟩
      obtain ⟨ab, ao, ha, hcW⟩ : ∃ ab ao, a = some ⟨ab, ao, none⟩ ∧ Lies w (some ⟨ab, ao, none⟩) l := by
        rcases a0.1 with e | ⟨ab, ao, e, hh⟩
        · rw [e] at hx; simp at hx
        · exact ⟨ab, ao, e, Or.inr ⟨ab, ao, rfl, hh⟩⟩
      have hlr : Lies wr (some ⟨ab, ao, none⟩) l := hcW.below (by rw [a0.2.2.2.2.2.1]; exact h.bel)
      have hcB : ∀ (j y : Nat), l[j]? = some y → wr.cell? ⟨ab, ao + j, none⟩ = some (.int .u8 (y : Int)) := by
        rcases hlr with e | ⟨b', o', e, hh⟩
        · rw [e] at hx; simp at hx
        · cases e; exact hh
      subst ha
      have cx := hcB k x hx
      by_cases hkm2 : k = most
      · have t2 : ((most : Int) ≤ (k : Int)) = True := eq_true (by omega)
        have t2' : (most ≤ k) = True := eq_true (by omega)
        have hRR : R = ⟨[], 31, k⟩ := by
          have hr := h.run
          rw [drop_more hx, rn, if_pos (by omega)] at hr
          exact hr.symm
        have AE : Aside (y = 31 ∧ t = k ∧ R.fs = [] ∧ Cells ((wr.setCell ⟨H + 1, 1, none⟩ (.int .i64 31)).setCell ⟨H + 1, 2, none⟩ (.int .i64 (k : Int))) H #[.slice none 0 0, .int .i64 0, .int .i64 0] 30 ∧ Below H w ((wr.setCell ⟨H + 1, 1, none⟩ (.int .i64 31)).setCell ⟨H + 1, 2, none⟩ (.int .i64 (k : Int))) ∧ w.heap.size = H) := by
          refine ⟨by rw [← a0.2.2.2.2.2.2.2.1, hRR], by rw [← a0.2.2.2.2.2.2.2.2, hRR], by rw [hRR], ?_, ?_, a0.2.2.2.2.2.1⟩
          · exact (h.res.only ((Only.refl _ _).setCell _ _) (by omega)).only ((Only.refl _ _).setCell _ _) (by omega)
          · exact (h.bel.setCell (by show H ≤ H + 1; omega) _).setCell (by show H ≤ H + 1; omega) _
        have zz := zero_res AE.out.2.2.2.1
        obtain ⟨e0', e1', e2', g0', g1', g2'⟩ := zz
        clear h a0 hkg hx hcW hlr hcB hkm2 hRR hk hfk hkm hff
        go_wp2_with fail
        have ae := AE.out
        refine bodyPost_ret (v := .agg #[.slice none 0 0, .int .i64 31, .int .i64 (k : Int)]) ?_ rfl ?_
        · exact results_cell_row rfl _ _ H 30 _ (0, 0) _ rfl (res_set ae.2.2.2.1 _ _ _) Try.underlying30 rfl size30
        · refine ⟨.slice none 0 0, by rw [ae.1, ae.2.1]; rfl, by rw [ae.2.2.1]; exact FL.nil _, by rw [ae.2.2.1]; exact Ow.nil (res_bel ae.2.2.2.2.1 _ _ _).size, ?_⟩
          rw [ae.2.2.2.2.2]
          exact res_bel ae.2.2.2.2.1 _ _ _
      · have hklt : k < most := by omega
        have t2 : ((most : Int) ≤ (k : Int)) = False := eq_false (by omega)
        have t2' : (most ≤ k) = False := eq_false (by omega)
        by_cases h10 : x = 10
        · subst h10
          have hrun := h.run10 hx hklt
          obtain ⟨c, hc⟩ : ∃ c, (l.take k).drop f0 = c := ⟨_, rfl⟩
          rw [hc] at hrun
          have hcl : c.length = k - f0 := by rw [← hc]; simp; omega
          have hco : Oct c := by rw [← hc]; exact (a0.2.2.2.2.1.take _).drop _
          rcases List.eq_nil_or_concat c with hc0 | ⟨c', z, hcc⟩
          · -- the line is empty
            have hfk2 : f0 = k := by rw [hc0] at hcl; simp at hcl; omega
            subst hfk2
            have u1 : ((f0 : Int) < (f0 : Int)) = False := eq_false (by omega)
            have u2 : ((f0 : Int) == (f0 : Int)) = true := by simp
            rw [hc0, if_pos d13_nil] at hrun
            have hRR : R = ⟨F, 0, f0⟩ := hrun
            have hov := ov_c (w := wr.setCell ⟨H + 1, 2, none⟩ (.int .i64 ((f0 : Nat) : Int))) (w0 := w) (y := 0) (t := f0) (h.rr.own.set h.rr.cells (by decide)) (h.res.only ((Only.refl _ _).setCell _ _) (by omega)) (h.bel.setCell (by show H ≤ H + 1; omega) _) h.f64 h.oct (by omega)
            have AE : Aside (y = 0 ∧ t = f0 ∧ R.fs = F ∧ w.heap.size = H) := ⟨by rw [← a0.2.2.2.2.2.2.2.1, hRR], by rw [← a0.2.2.2.2.2.2.2.2, hRR], by rw [hRR], a0.2.2.2.2.2.1⟩
            have k3 := h.rr.cells.set 2 (.int .i64 ((f0 : Nat) : Int))
            have d0 : (wr.setCell ⟨H + 1, 2, none⟩ (.int .i64 ((f0 : Nat) : Int))).cell? ⟨H + 1, 0, none⟩ = some (.slice va N vc) := by rw [k3.cell]; rfl
            have d1 : (wr.setCell ⟨H + 1, 2, none⟩ (.int .i64 ((f0 : Nat) : Int))).cell? ⟨H + 1, 1, none⟩ = some (.int .i64 0) := by rw [k3.cell]; rfl
            have d2 : (wr.setCell ⟨H + 1, 2, none⟩ (.int .i64 ((f0 : Nat) : Int))).cell? ⟨H + 1, 2, none⟩ = some (.int .i64 ((f0 : Nat) : Int)) := by rw [k3.cell]; rfl
            clear h a0 hkg hx hcW hlr hcB hkm2 hRR hk hfk hkm hff hrun hc hcl hco hklt k3 hc0
            go_wp2_with (go_at_call 27; refine hov.mono ?_; rintro e4 w4 ⟨rfl, q1, q2, q3⟩; obtain ⟨e0', e1', e2', g0', g1', g2'⟩ := zero_res q1)
            have ae := AE.out
            refine bodyPost_ret (v := .agg #[.slice va N vc, .int .i64 0, .int .i64 ((f0 : Nat) : Int)]) ?_ rfl ?_
            · exact results_cell_row rfl _ _ H 30 _ (0, 0) _ rfl (res_set q1 _ _ _) Try.underlying30 rfl size30
            · refine ⟨.slice va N vc, by rw [ae.1, ae.2.1]; rfl, by rw [ae.2.2.1]; exact ov_fl (w0 := w) (y := 0) (t := 0) q1 q2 _ _, by rw [ae.2.2.1, ae.2.2.2]; exact ov_ow q1 q2 _ _, ?_⟩
              rw [ae.2.2.2]
              exact res_bel q3 _ _ _
          · rw [List.concat_eq_append] at hcc
            have hlen' : c'.length + 1 = k - f0 := by rw [← hcl, hcc]; simp
            obtain ⟨k1, hk1⟩ : ∃ k1, k = k1 + 1 := ⟨k - 1, by omega⟩
            have hz : l[k1]? = some z := by
              have e1 : ((l.take k).drop f0)[k1 - f0]? = some z := by
                rw [hc, hcc, List.getElem?_append_right (by omega), show k1 - f0 - c'.length = 0 by omega]; rfl
              rw [List.getElem?_drop, show f0 + (k1 - f0) = k1 by omega, List.getElem?_take, if_pos (by omega)] at e1
              exact e1
            have cz := hcB k1 z hz
            have hk1b : (k1 : Int) < 65536 := by omega
            have u1 : ((f0 : Int) < (k : Int)) = True := eq_true (by omega)
            have u1' : (f0 < k) = True := eq_true (by omega)
            have hk1e : (k : Int) - 1 = (k1 : Int) := by omega
            have hk1L : ((k1 : Int) < (L : Int)) = True := eq_true (by omega)
            have hk1L' : (k1 < L) = True := eq_true (by omega)
            have hkL2 : ((k : Int) ≤ (L : Int)) := by omega
            have hk1L2 : ((k1 : Int) ≤ (L : Int)) := by omega
            have hkb2 : (k : Int) < 65536 := by omega
            have hf0b : (f0 : Int) < 65536 := by omega
            by_cases h13 : z = 13
            · subst h13
              have hd : d13 c = c' := by rw [hcc, d13_snoc, if_pos rfl]
              have hc'e : (l.take k1).drop f0 = c' := by
                have e1 : l.take k = l.take k1 ++ [13] := by rw [hk1, List.take_add_one, hz]; rfl
                rw [e1, List.drop_append_of_le_length (by rw [List.length_take]; omega), hcc] at hc
                exact List.append_cancel_right hc
              rcases Nat.eq_or_lt_of_le (show f0 ≤ k1 by omega) with hfe | hfe
              · have hc'0 : c' = [] := List.eq_nil_of_length_eq_zero (by omega)
                have u2 : ((k1 : Int) == (f0 : Int)) = true := by rw [beq_iff_eq]; omega
                rw [hd, if_pos hc'0] at hrun
                have hRR : R = ⟨F, 0, k⟩ := hrun
                have hov := ov_c (w := wr.setCell ⟨H + 1, 2, none⟩ (.int .i64 ((k : Nat) : Int))) (w0 := w) (y := 0) (t := k) (h.rr.own.set h.rr.cells (by decide)) (h.res.only ((Only.refl _ _).setCell _ _) (by omega)) (h.bel.setCell (by show H ≤ H + 1; omega) _) h.f64 h.oct (by omega)
                have AE : Aside (y = 0 ∧ t = k ∧ R.fs = F ∧ w.heap.size = H) := ⟨by rw [← a0.2.2.2.2.2.2.2.1, hRR], by rw [← a0.2.2.2.2.2.2.2.2, hRR], by rw [hRR], a0.2.2.2.2.2.1⟩
                have k3 := h.rr.cells.set 2 (.int .i64 ((k : Nat) : Int))
                have d0 : (wr.setCell ⟨H + 1, 2, none⟩ (.int .i64 ((k : Nat) : Int))).cell? ⟨H + 1, 0, none⟩ = some (.slice va N vc) := by rw [k3.cell]; rfl
                have d1 : (wr.setCell ⟨H + 1, 2, none⟩ (.int .i64 ((k : Nat) : Int))).cell? ⟨H + 1, 1, none⟩ = some (.int .i64 0) := by rw [k3.cell]; rfl
                have d2 : (wr.setCell ⟨H + 1, 2, none⟩ (.int .i64 ((k : Nat) : Int))).cell? ⟨H + 1, 2, none⟩ = some (.int .i64 ((k : Nat) : Int)) := by rw [k3.cell]; rfl
                clear h a0 hkg hx hcW hlr hcB hkm2 hRR hk hfk hkm hff hrun hc hcl hco hklt k3 hd hc'e hc'0 hz hcc hlen' hfe hk1
                go_wp2_with (go_at_call 27; refine hov.mono ?_; rintro e4 w4 ⟨rfl, q1, q2, q3⟩; obtain ⟨e0', e1', e2', g0', g1', g2'⟩ := zero_res q1)
                have ae := AE.out
                refine bodyPost_ret (v := .agg #[.slice va N vc, .int .i64 0, .int .i64 ((k : Nat) : Int)]) ?_ rfl ?_
                · exact results_cell_row rfl _ _ H 30 _ (0, 0) _ rfl (res_set q1 _ _ _) Try.underlying30 rfl size30
                · refine ⟨.slice va N vc, by rw [ae.1, ae.2.1]; rfl, by rw [ae.2.2.1]; exact ov_fl (w0 := w) (y := 0) (t := 0) q1 q2 _ _, by rw [ae.2.2.1, ae.2.2.2]; exact ov_ow q1 q2 _ _, ?_⟩
                  rw [ae.2.2.2]
                  exact res_bel q3 _ _ _
              · have hc'n : c' ≠ [] := fun e => by rw [e] at hlen'; simp at hlen'; omega
                have u2 : ((k1 : Int) == (f0 : Int)) = false := by rw [beq_eq_false_iff_ne]; omega
                have u3 : (f0 : Int) ≤ (k1 : Int) := by omega
                have hS : c'.length = k1 - f0 := by omega
                have hend : k1 ≤ L := by omega
                have hdd : d13 ((l.take k).drop f0) = c' := by rw [hc, hd]
                rw [hd, if_neg hc'n] at hrun
                have hso : Oct c' := by rw [hcc] at hco; exact hco.left
                have hpc := hlr.piece f0 k1 (some ⟨ab, ao + f0, none⟩) (by omega) (fun _ => rfl)
                rw [hc'e] at hpc
                obtain ⟨S, hSS⟩ : ∃ S, k1 - f0 = S := ⟨_, rfl⟩
                have hcv : ∀ C', (convert 22 9 (.slice (some ⟨ab, ao + f0, none⟩) S C')).run Try.prog wr = .ok (.string (st c')) wr := fun C' => conv_st S C' (by omega) hso hpc
                have hln := rline_c hc'n hso (by omega) (fun f hf => by have := (flat_mem hf).1; omega) h.f64 h.rr
                have hne : (C = f0) = False := eq_false (by omega)
                have hne2 : (f0 = C) = False := eq_false (by omega)
                have hCI : ((k1 : Int) : Int) ≤ (C : Int) := by omega
                have i1 : (((k1 : Int) : Int) - (f0 : Int)) = (S : Int) := by omega
                have i2 : k1 - f0 = S := by omega
                by_cases h0 : (lin F c').1 = 0
                · have hoi := fun w' vf' => Oi.line_ok (w' := w') (vf' := vf') a0.2.2.2.2.1 h hx hklt hdd hc'n h0
                  have hpost : ∀ w', RlTo wr H (H + 1) L F c' w' → ∃ vf', Oi w' w H most L l R (k + 1) (k + 1) vf' (lin F c').2 ∧ w'.cell? ⟨H + 1, 1, none⟩ = some (.int .i64 0) := by
                    rintro w' ⟨hf, hor⟩
                    rcases hor with ⟨_, vf', hr⟩ | ⟨hn0, _⟩
                    · exact ⟨vf', hoi w' vf' hr hf, hr.c1⟩
                    · exact absurd h0 hn0
                  have A2 : Aside (k + gk = L ∧ k < L) := ⟨hkg, hk⟩
                  clear h a0 hkg hx hcW hlr hcB hkm2 hk hfk hkm hff hrun hcl hco hklt hoi h0 hpc hso hc'n hdd hS hc hcc hlen' hz hd hc'e hSS hk1 hfe hend
                  go_wp2_with (first
                    | (go_at_call 28; refine hln.mono ?_; rintro e4 w4 ⟨rfl, q4⟩; obtain ⟨vf4, oi4, d1⟩ := hpost _ q4))
                  have a2 := A2.out
                  go_roundg (gk - 1)
                  case measure => omega
                  case rel => exact ⟨k + 1, k + 1, by go_num, by go_num, by omega, _, _, oi4⟩
                · obtain ⟨Y, hY⟩ : ∃ Y, (lin F c').1 = Y := ⟨_, rfl⟩
                  rw [if_neg h0, hY] at hrun
                  have hpost : ∀ w', RlTo wr H (H + 1) L F c' w' → Cells w' H #[.slice none 0 0, .int .i64 0, .int .i64 0] 30 ∧ Below H w w' ∧ w'.cell? ⟨H + 1, 1, none⟩ = some (.int .i64 (Y : Int)) := by
                    rintro w' ⟨hf, hor⟩
                    refine ⟨hf.kp _ _ _ (by omega) (by decide) h.res, h.bel.trans hf.bel, ?_⟩
                    rcases hor with ⟨hn0, _⟩ | ⟨_, vf', hr⟩
                    · exact absurd hn0 h0
                    · rw [hr.cell, ← hY]; rfl
                  have tY : ((Y : Int) != 0) = true := by rw [bne_iff_ne]; omega
                  have tY2 : ((Y : Int) == 0) = false := by rw [beq_eq_false_iff_ne]; omega
                  have AE : Aside (y = Y ∧ t = k ∧ R.fs = [] ∧ w.heap.size = H) := ⟨by rw [← a0.2.2.2.2.2.2.2.1, hrun], by rw [← a0.2.2.2.2.2.2.2.2, hrun], by rw [hrun], a0.2.2.2.2.2.1⟩
                  clear h a0 hkg hx hcW hlr hcB hkm2 hk hfk hkm hff hrun hcl hco hklt h0 hpc hso hc'n hdd hS hc hcc hlen' hz hd hY hc'e hSS hk1 hfe hend
                  go_wp2_with (first
                    | (go_at_call 28; refine hln.mono ?_; rintro e4 w4 ⟨rfl, q4⟩; obtain ⟨q1, q3, d1⟩ := hpost _ q4; obtain ⟨e0', e1', e2', g0', g1', g2'⟩ := zero_res q1))
                  have ae := AE.out
                  refine bodyPost_ret (v := .agg #[.slice none 0 0, .int .i64 (Y : Int), .int .i64 ((k : Nat) : Int)]) ?_ rfl ?_
                  · exact results_cell_row rfl _ _ H 30 _ (0, 0) _ rfl (res_set q1 _ _ _) Try.underlying30 rfl size30
                  · refine ⟨.slice none 0 0, by rw [ae.1, ae.2.1], by rw [ae.2.2.1]; exact FL.nil _, by rw [ae.2.2.1]; exact Ow.nil (res_bel q3 _ _ _).size, ?_⟩
                    rw [ae.2.2.2]
                    exact res_bel q3 _ _ _
            · have hd : d13 c = c := by rw [hcc, d13_snoc, if_neg h13]
              have t13 : ((z : Int) == 13) = false := by rw [beq_eq_false_iff_ne]; omega
              have hcn : c ≠ [] := by rw [hcc]; simp
              have u2 : ((k : Int) == (f0 : Int)) = false := by rw [beq_eq_false_iff_ne]; omega
              have u3 : (f0 : Int) ≤ (k : Int) := by omega
              have hS : c.length = k - f0 := hcl
              have hend : k ≤ L := by omega
              have hdd : d13 ((l.take k).drop f0) = c := by rw [hc, hd]
              rw [hd, if_neg hcn] at hrun
              have hc'n := hcn
              have hso := hco
              have hpc := hlr.piece f0 k (some ⟨ab, ao + f0, none⟩) (by omega) (fun _ => rfl)
              rw [hc] at hpc
              obtain ⟨S, hSS⟩ : ∃ S, k - f0 = S := ⟨_, rfl⟩
              have hcv : ∀ C', (convert 22 9 (.slice (some ⟨ab, ao + f0, none⟩) S C')).run Try.prog wr = .ok (.string (st c)) wr := fun C' => conv_st S C' (by omega) hso hpc
              have hln := rline_c hc'n hso (by omega) (fun f hf => by have := (flat_mem hf).1; omega) h.f64 h.rr
              have hne : (C = f0) = False := eq_false (by omega)
              have hne2 : (f0 = C) = False := eq_false (by omega)
              have hCI : ((k : Int) : Int) ≤ (C : Int) := by omega
              have i1 : (((k : Int) : Int) - (f0 : Int)) = (S : Int) := by omega
              have i2 : k - f0 = S := by omega
              by_cases h0 : (lin F c).1 = 0
              · have hoi := fun w' vf' => Oi.line_ok (w' := w') (vf' := vf') a0.2.2.2.2.1 h hx hklt hdd hc'n h0
                have hpost : ∀ w', RlTo wr H (H + 1) L F c w' → ∃ vf', Oi w' w H most L l R (k + 1) (k + 1) vf' (lin F c).2 ∧ w'.cell? ⟨H + 1, 1, none⟩ = some (.int .i64 0) := by
                  rintro w' ⟨hf, hor⟩
                  rcases hor with ⟨_, vf', hr⟩ | ⟨hn0, _⟩
                  · exact ⟨vf', hoi w' vf' hr hf, hr.c1⟩
                  · exact absurd h0 hn0
                have A2 : Aside (k + gk = L ∧ k < L) := ⟨hkg, hk⟩
                clear h a0 hkg hx hcW hlr hcB hkm2 hk hfk hkm hff hrun hcl hco hklt hoi h0 hpc hso hc'n hdd hS hc hcc hlen' hz hd hcn h13 hSS hk1 hend
                go_wp2_with (first
                  | (go_at_call 28; refine hln.mono ?_; rintro e4 w4 ⟨rfl, q4⟩; obtain ⟨vf4, oi4, d1⟩ := hpost _ q4))
                have a2 := A2.out
                go_roundg (gk - 1)
                case measure => omega
                case rel => exact ⟨k + 1, k + 1, by go_num, by go_num, by omega, _, _, oi4⟩
              · obtain ⟨Y, hY⟩ : ∃ Y, (lin F c).1 = Y := ⟨_, rfl⟩
                rw [if_neg h0, hY] at hrun
                have hpost : ∀ w', RlTo wr H (H + 1) L F c w' → Cells w' H #[.slice none 0 0, .int .i64 0, .int .i64 0] 30 ∧ Below H w w' ∧ w'.cell? ⟨H + 1, 1, none⟩ = some (.int .i64 (Y : Int)) := by
                  rintro w' ⟨hf, hor⟩
                  refine ⟨hf.kp _ _ _ (by omega) (by decide) h.res, h.bel.trans hf.bel, ?_⟩
                  rcases hor with ⟨hn0, _⟩ | ⟨_, vf', hr⟩
                  · exact absurd hn0 h0
                  · rw [hr.cell, ← hY]; rfl
                have tY : ((Y : Int) != 0) = true := by rw [bne_iff_ne]; omega
                have tY2 : ((Y : Int) == 0) = false := by rw [beq_eq_false_iff_ne]; omega
                have AE : Aside (y = Y ∧ t = k ∧ R.fs = [] ∧ w.heap.size = H) := ⟨by rw [← a0.2.2.2.2.2.2.2.1, hrun], by rw [← a0.2.2.2.2.2.2.2.2, hrun], by rw [hrun], a0.2.2.2.2.2.1⟩
                clear h a0 hkg hx hcW hlr hcB hkm2 hk hfk hkm hff hrun hcl hco hklt h0 hpc hso hc'n hdd hS hc hcc hlen' hz hd hY hcn h13 hSS hk1 hend
                go_wp2_with (first
                  | (go_at_call 28; refine hln.mono ?_; rintro e4 w4 ⟨rfl, q4⟩; obtain ⟨q1, q3, d1⟩ := hpost _ q4; obtain ⟨e0', e1', e2', g0', g1', g2'⟩ := zero_res q1))
                have ae := AE.out
                refine bodyPost_ret (v := .agg #[.slice none 0 0, .int .i64 (Y : Int), .int .i64 ((k : Nat) : Int)]) ?_ rfl ?_
                · exact results_cell_row rfl _ _ H 30 _ (0, 0) _ rfl (res_set q1 _ _ _) Try.underlying30 rfl size30
                · refine ⟨.slice none 0 0, by rw [ae.1, ae.2.1], by rw [ae.2.2.1]; exact FL.nil _, by rw [ae.2.2.1]; exact Ow.nil (res_bel q3 _ _ _).size, ?_⟩
                  rw [ae.2.2.2]
                  exact res_bel q3 _ _ _
        · have t10 : ((x : Int) != 10) = true := by rw [bne_iff_ne]; omega
          have t10' : ((x : Int) == 10) = false := by rw [beq_eq_false_iff_ne]; omega
          have A2 : Aside (k + gk = L ∧ k < L ∧ Oi wr w H most L l R (k + 1) f0 (.slice va N vc) F) := ⟨hkg, hk, h.step_x hx h10 hklt⟩
          have hkI : (k : Int) < 65536 := by omega
          clear h a0 hkg hx hcW hlr hcB hkm2 hk h10 hklt hkm hfk hff
          go_wp2_with fail
          have a2 := A2.out
          go_roundg (gk - 1)
          case measure => omega
          case rel => exact ⟨k + 1, f0, rfl, by go_num, by omega, _, _, a2.2.2⟩
    · have t1 : ((k : Int) < (L : Int)) = False := eq_false (by omega)
      have t1' : (k < L) = False := eq_false hk
      have hkL : k = L := by omega
      subst hkL
      have hrun := h.run
      obtain ⟨c, hc⟩ : ∃ c, (l.take k).drop f0 = c := ⟨_, rfl⟩
      rw [hc, List.drop_eq_nil_of_le (by omega), rn_nil] at hrun
      have hcl : c.length = k - f0 := by rw [← hc]; simp; omega
      have hco : Oct c := by rw [← hc]; exact (a0.2.2.2.2.1.take _).drop _
      have hkb2 : (k : Int) < 65537 := by omega
      by_cases hc0 : c = []
      · have hfk2 : f0 = k := by rw [hc0] at hcl; simp at hcl; omega
        have u1 : ((f0 : Int) < (k : Int)) = False := eq_false (by omega)
        have u1' : (f0 < k) = False := eq_false (by omega)
        have hfin : fin F c = (0, F) := by unfold fin; rw [if_pos hc0]
        rw [hfin] at hrun
        have hRR : R = ⟨F, 0, k⟩ := hrun.symm
        have hov := ov_c (w := wr) (w0 := w) (y := 0) (t := k) h.rr.own h.res h.bel h.f64 h.oct (by omega)
        have AE : Aside (y = 0 ∧ t = k ∧ R.fs = F ∧ w.heap.size = H) := ⟨by rw [← a0.2.2.2.2.2.2.2.1, hRR], by rw [← a0.2.2.2.2.2.2.2.2, hRR], by rw [hRR], a0.2.2.2.2.2.1⟩
        clear h a0 hkg hRR hk hfk hkm hff hrun hc hcl hco hfin hfk2 hc0
        go_wp2_with (go_at_call 27; refine hov.mono ?_; rintro e4 w4 ⟨rfl, q1, q2, q3⟩; obtain ⟨e0', e1', e2', g0', g1', g2'⟩ := zero_res q1)
        have ae := AE.out
        refine bodyPost_ret (v := .agg #[.slice va N vc, .int .i64 0, .int .i64 ((k : Nat) : Int)]) ?_ rfl ?_
        · exact results_cell_row rfl _ _ H 30 _ (0, 0) _ rfl (res_set q1 _ _ _) Try.underlying30 rfl size30
        · refine ⟨.slice va N vc, by rw [ae.1, ae.2.1]; rfl, by rw [ae.2.2.1]; exact ov_fl (w0 := w) (y := 0) (t := 0) q1 q2 _ _, by rw [ae.2.2.1, ae.2.2.2]; exact ov_ow q1 q2 _ _, ?_⟩
          rw [ae.2.2.2]
          exact res_bel q3 _ _ _
      · have hfk2 : f0 < k := by
          have := List.length_pos_iff.2 hc0
          omega
        have u1 : ((f0 : Int) < (k : Int)) = True := eq_true (by omega)
        have u1' : (f0 < k) = True := eq_true hfk2
        have hfin : fin F c = lin F c := by unfold fin; rw [if_neg hc0]
        rw [hfin] at hrun
        obtain ⟨ab, ao, ha, hcW⟩ : ∃ ab ao, a = some ⟨ab, ao, none⟩ ∧ Lies w (some ⟨ab, ao, none⟩) l := by
          rcases a0.1 with e | ⟨ab, ao, e, hh⟩
          · have := a0.2.1; rw [e] at this; simp at this; omega
          · exact ⟨ab, ao, e, Or.inr ⟨ab, ao, rfl, hh⟩⟩
        have hlr : Lies wr (some ⟨ab, ao, none⟩) l := hcW.below (by rw [a0.2.2.2.2.2.1]; exact h.bel)
        subst ha
        have hpc := hlr.piece f0 k (some ⟨ab, ao + f0, none⟩) (by omega) (fun _ => rfl)
        rw [hc] at hpc
        obtain ⟨S, hSS⟩ : ∃ S, k - f0 = S := ⟨_, rfl⟩
        have hcv : ∀ C', (convert 22 9 (.slice (some ⟨ab, ao + f0, none⟩) S C')).run Try.prog wr = .ok (.string (st c)) wr := fun C' => conv_st S C' (by omega) hco hpc
        have hln := rline_c hc0 hco (by omega) (fun f hf => by have := (flat_mem hf).1; omega) h.f64 h.rr
        have hne : (C = f0) = False := eq_false (by omega)
        have hne2 : (f0 = C) = False := eq_false (by omega)
        have hCI : (k : Int) ≤ (C : Int) := by omega
        have i1 : ((k : Int) - (f0 : Int)) = (S : Int) := by omega
        have i2 : k - f0 = S := hSS
        have u3 : (f0 : Int) ≤ (k : Int) := by omega
        have hf0b : (f0 : Int) < 65537 := by omega
        by_cases h0 : (lin F c).1 = 0
        · have hfl := flat_lin h0
          have hRR : R = ⟨(lin F c).2, 0, k⟩ := by rw [← hrun, h0]
          have hpost : ∀ w', RlTo wr H (H + 1) k F c w' → ∃ va' N' vc', (lin F c).2.length = N' ∧ w'.cell? ⟨H + 1, 0, none⟩ = some (.slice va' N' vc') ∧ w'.cell? ⟨H + 1, 1, none⟩ = some (.int .i64 0) ∧ w'.cell? ⟨H + 1, 2, none⟩ = some (.int .i64 (k : Int)) ∧ Calls Try.prog 27 #[.agg #[.slice va' N' vc', .int .i64 0, .int .i64 (k : Int)]] w' fun e w'' => OvTo w H 0 k (lin F c).2 (.slice va' N' vc') e w'' := by
            rintro w' ⟨hf, hor⟩
            rcases hor with ⟨_, vf', hr⟩ | ⟨hn0, _⟩
            · obtain ⟨va', vc', hv', _⟩ := hr.own.shape
              subst hv'
              exact ⟨va', _, vc', rfl, hr.c0, hr.c1, hr.c2, ov_c (w0 := w) (y := 0) (t := k) hr.own (hf.kp _ _ _ (by omega) (by decide) h.res) (h.bel.trans hf.bel) (lin_len h.f64) (by rw [hfl]; exact h.oct.append hco) (by rw [hfl, List.length_append]; omega)⟩
            · exact absurd h0 hn0
          have AE : Aside (y = 0 ∧ t = k ∧ R.fs = (lin F c).2 ∧ w.heap.size = H) := ⟨by rw [← a0.2.2.2.2.2.2.2.1, hRR], by rw [← a0.2.2.2.2.2.2.2.2, hRR], by rw [hRR], a0.2.2.2.2.2.1⟩
          clear h a0 hkg hRR hk hfk hkm hff hrun hcl hco hfin hfk2 hc0 hlr hcW hpc hc h0 hfl hSS
          go_wp2_with (first
            | (go_at_call 28; refine hln.mono ?_; rintro e4 w4 ⟨rfl, q4⟩; obtain ⟨va', N', vc', hN', d0, d1, d2, hov⟩ := hpost _ q4; clear hN')
            | (go_at_call 27; refine hov.mono ?_; rintro e5 w5 ⟨rfl, q1, q2, q3⟩; obtain ⟨e0', e1', e2', g0', g1', g2'⟩ := zero_res q1))
          have ae := AE.out
          refine bodyPost_ret (v := .agg #[.slice va' N' vc', .int .i64 0, .int .i64 ((k : Nat) : Int)]) ?_ rfl ?_
          · exact results_cell_row rfl _ _ H 30 _ (0, 0) _ rfl (res_set q1 _ _ _) Try.underlying30 rfl size30
          · refine ⟨.slice va' N' vc', by rw [ae.1, ae.2.1]; rfl, by rw [ae.2.2.1]; exact ov_fl (w0 := w) (y := 0) (t := 0) q1 q2 _ _, by rw [ae.2.2.1, ae.2.2.2]; exact ov_ow q1 q2 _ _, ?_⟩
            rw [ae.2.2.2]
            exact res_bel q3 _ _ _
        · obtain ⟨Y, hY⟩ : ∃ Y, (lin F c).1 = Y := ⟨_, rfl⟩
          have hls := lin_stop h0
          rw [hls, hY] at hrun
          have hpost : ∀ w', RlTo wr H (H + 1) k F c w' → Cells w' H #[.slice none 0 0, .int .i64 0, .int .i64 0] 30 ∧ Below H w w' ∧ w'.cell? ⟨H + 1, 1, none⟩ = some (.int .i64 (Y : Int)) := by
            rintro w' ⟨hf, hor⟩
            refine ⟨hf.kp _ _ _ (by omega) (by decide) h.res, h.bel.trans hf.bel, ?_⟩
            rcases hor with ⟨hn0, _⟩ | ⟨_, vf', hr⟩
            · exact absurd hn0 h0
            · rw [hr.cell, ← hY]; rfl
          have tY : ((Y : Int) != 0) = true := by rw [bne_iff_ne]; omega
          have tY2 : ((Y : Int) == 0) = false := by rw [beq_eq_false_iff_ne]; omega
          have AE : Aside (y = Y ∧ t = k ∧ R.fs = [] ∧ w.heap.size = H) := ⟨by rw [← a0.2.2.2.2.2.2.2.1, ← hrun], by rw [← a0.2.2.2.2.2.2.2.2, ← hrun], by rw [← hrun], a0.2.2.2.2.2.1⟩
          clear h a0 hkg hk hfk hkm hff hrun hcl hco hfin hfk2 hc0 hlr hcW hpc hc h0 hY hls hSS
          go_wp2_with (first
            | (go_at_call 28; refine hln.mono ?_; rintro e4 w4 ⟨rfl, q4⟩; obtain ⟨q1, q3, d1⟩ := hpost _ q4; obtain ⟨e0', e1', e2', g0', g1', g2'⟩ := zero_res q1))
          have ae := AE.out
          refine bodyPost_ret (v := .agg #[.slice none 0 0, .int .i64 (Y : Int), .int .i64 ((k : Nat) : Int)]) ?_ rfl ?_
          · exact results_cell_row rfl _ _ H 30 _ (0, 0) _ rfl (res_set q1 _ _ _) Try.underlying30 rfl size30
          · refine ⟨.slice none 0 0, by rw [ae.1, ae.2.1], by rw [ae.2.2.1]; exact FL.nil _, by rw [ae.2.2.1]; exact Ow.nil (res_bel q3 _ _ _).size, ?_⟩
            rw [ae.2.2.2]
            exact res_bel q3 _ _ _
end Go.Proofs.Ytmlkdpoignimaaa

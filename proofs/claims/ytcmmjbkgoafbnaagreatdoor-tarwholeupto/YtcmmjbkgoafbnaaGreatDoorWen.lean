/-
  The walker's steps: what is no header of another one.
-/
import Derived.Test.YtcmmjbkgoafbnaaGreatDoorWnm
namespace Go.Proofs.YtcmmjbkgoafbnaaGreatDoor
open Go.RowKit
set_option linter.unusedVariables false
set_option linter.unusedSimpArgs false
/-- The event of a file that begins. -/
def vopn (n : List Nat) (v : Rv) : Rv := { v with ek := 1, eb := 0, en := 2, et := n }
theorem But.new {M E : Nat} {w u x : World} (h : But M w u) (k : Only E u x) (hE : w.heap.size ≤ E) : But M w x := ⟨k.os.trans h.os, k.tape.trans h.tape, k.output.trans h.output, by rw [k.size]; exact h.size, fun i hi hm => (k.block i (by omega)).trans (h.block i hi hm)⟩
section
variable {W : Nat} {s : Ts} {v : Rv}
theorem Wm.open_ {w : World} (h : Wm w W s v) (n : List Nat) : Wm (((((w.setCell ⟨W, 1545, none⟩ (.int .i64 1)).setCell ⟨W, 1546, none⟩ (.int .u8 0)).setCell ⟨W, 1547, none⟩ (.int .i64 2)).setCell ⟨W, 1548, none⟩ (.int .i64 0)).setCell ⟨W, 1549, none⟩ (.string (st n))) W s (vopn n v) := ((((h.s1545 1).s1546 0).s1547 2).s1548).s1549 n
theorem only5 (w : World) (a b c d e : Value) : Only W w (((((w.setCell ⟨W, 1545, none⟩ a).setCell ⟨W, 1546, none⟩ b).setCell ⟨W, 1547, none⟩ c).setCell ⟨W, 1548, none⟩ d).setCell ⟨W, 1549, none⟩ e) := (((((Only.refl W w).setCell 1545 _).setCell 1546 _).setCell 1547 _).setCell 1548 _).setCell 1549 _
/-- What entry makes of the events. -/
def vent (B : List Nat) (z : Nat) (s : Ts) (v : Rv) : Rv := if tisf (tkd B) then vbeg 1 (s.sz.getD z) (vopn (s.nm.getD (tnm B)) v) else vbeg 0 (s.sz.getD z) v
def tent (z : Nat) (s : Ts) : Ts := (tbeg (if tisf (tkd s.B) then 1 else 0) (s.sz.getD z) { s with nm := none, sz := none }).1
set_option maxRecDepth 20000 in
set_option maxHeartbeats 2000000 in
theorem entry_c (z : Nat) (w : World) (h : Wm w W s v) (h0 : s.why = 0) (he : Er w) (hW : 3 ≤ W) (hz : z < 9223372036854775808) : Calls Tryz.prog 46 #[.pointer (some ⟨W, 0, none⟩), .int .u64 (z : Int)] w fun e w' => Wp W (tent z s) (vent s.B z s v) w e w' := by
  have hk := h.ok
  have hlt := h.lt
  obtain ⟨E, hE⟩ : ∃ E, w.heap.size = E := ⟨_, rfl⟩
  obtain ⟨nmv, hnm⟩ : ∃ x, st (s.nm.getD []) = x := ⟨_, rfl⟩
  obtain ⟨bn, hbn⟩ : ∃ x, s.nm.isSome = x := ⟨_, rfl⟩
  obtain ⟨zv, hzv⟩ : ∃ x, s.sz.getD 0 = x := ⟨_, rfl⟩
  obtain ⟨bz, hbz⟩ : ∃ x, s.sz.isSome = x := ⟨_, rfl⟩
  have c1 := h.k1541
  have c2 := h.k1542
  have c3 := h.k1543
  have c4 := h.k1544
  rw [hnm] at c1
  rw [hbn] at c2
  rw [hzv] at c3
  rw [hbz] at c4
  have f1 := h.fz 1541
  have f2 := h.fz 1542
  have f3 := h.fz 1543
  have f4 := h.fz 1544
  obtain ⟨w1, hw1⟩ : ∃ w1, w.alloc (.cells #[.string nmv, .bool bn, .int .u64 (zv : Int), .bool bz] 65) = w1 := ⟨_, rfl⟩
  have b1 : Below w.heap.size w w1 := by rw [← hw1]; exact (Below.refl _ w).alloc (Nat.le_refl _) _
  have kE : Cells w1 E #[.string nmv, .bool bn, .int .u64 (zv : Int), .bool bz] 65 := by rw [← hw1, ← hE]; exact Cells.new w _ 65
  have m1 := h.below b1 hlt
  have cc1 := m1.k1541
  have cc2 := m1.k1542
  have cc3 := m1.k1543
  have cc4 := m1.k1544
  have ff1 := m1.fz 1541
  have ff2 := m1.fz 1542
  have ff3 := m1.fz 1543
  have ff4 := m1.fz 1544
  obtain ⟨w2, hw2⟩ : ∃ w2, (((w1.setCell ⟨W, 1541, none⟩ (.string ⟨#[]⟩)).setCell ⟨W, 1542, none⟩ (.bool false)).setCell ⟨W, 1543, none⟩ (.int .u64 0)).setCell ⟨W, 1544, none⟩ (.bool false) = w2 := ⟨_, rfl⟩
  have k1 : Tok { s with nm := none } := ⟨hk.bl, hk.bo, hk.kl, hk.ko, hk.ps, hk.wh, hk.us, hk.lf, hk.ln, ⟨fun n hn => (by cases hn), hk.cm.2⟩⟩
  have k2 : Tok { s with nm := none, sz := none } := ⟨hk.bl, hk.bo, hk.kl, hk.ko, hk.ps, hk.wh, hk.us, hk.lf, hk.ln, okc_none⟩
  have m2 : Wm w2 W { s with nm := none, sz := none } v := by rw [← hw2]; exact (m1.snn k1).ssn k2
  have o2 : Only W w1 w2 := by rw [← hw2]; exact ((((Only.refl W w1).setCell 1541 _).setCell 1542 _).setCell 1543 _).setCell 1544 _
  have bb2 : But W w w2 := (But.of_below b1).trans (But.of_only o2)
  have r2 := he.but bb2 hW
  have kE2 := kE.only o2 (by omega)
  have d0 := kE2.cell 0
  have d1 := kE2.cell 1
  have d2 := kE2.cell 2
  have d3 := kE2.cell 3
  have e0 := kE2.frozen 0
  obtain ⟨z1, hz1⟩ : ∃ z1, s.sz.getD z = z1 := ⟨_, rfl⟩
  have hz1b : z1 < 9223372036854775808 := by
    rw [← hz1]
    cases e : s.sz with
    | none => exact hz
    | some q => exact hk.cm.2 q e
  have hzz : (bz = true → zv = z1) ∧ (bz = false → z = z1) := by
    rw [← hbz, ← hzv, ← hz1]
    cases s.sz with
    | none => exact ⟨fun q => (by cases q), fun _ => rfl⟩
    | some q => exact ⟨fun _ => rfl, fun q => (by cases q)⟩
  obtain ⟨bf, hbf⟩ : ∃ bf, tisf (tkd s.B) = bf := ⟨_, rfl⟩
  have hif := isFile_c w2 m2
  rw [show tisf (tkd ({ s with nm := none, sz := none } : Ts).B) = bf from hbf] at hif
  have AW : Aside (w.alloc (.cells #[.string nmv, .bool bn, .int .u64 (zv : Int), .bool bz] 65) = w1 ∧ (((w1.setCell ⟨W, 1541, none⟩ (.string ⟨#[]⟩)).setCell ⟨W, 1542, none⟩ (.bool false)).setCell ⟨W, 1543, none⟩ (.int .u64 0)).setCell ⟨W, 1544, none⟩ (.bool false) = w2 ∧ w.heap.size = E) := ⟨hw1, hw2, hE⟩
  have A : Aside (Wm w2 W { s with nm := none, sz := none } v ∧ But W w w2 ∧ Er w2 ∧ 3 ≤ W ∧ z1 < 9223372036854775808 ∧ s.why = 0 ∧ W < E ∧ E < w2.heap.size ∧ w.heap.size ≤ E) := ⟨m2, bb2, r2, hW, hz1b, h0, by omega, kE2.lt, by omega⟩
  have AZ : Aside ((bz = true → zv = z1) ∧ (bz = false → z = z1)) := hzz
  have AT : Aside (tent z s = (tbeg (if bf then 1 else 0) z1 { s with nm := none, sz := none }).1 ∧ vent s.B z s v = if bf then vbeg 1 z1 (vopn (s.nm.getD (tnm s.B)) v) else vbeg 0 z1 v) := ⟨by unfold tent; rw [hbf, hz1], by unfold vent; rw [hbf, hz1]⟩
  have A2 : Aside (Er w) := he
  have AN : Aside (st (s.nm.getD []) = nmv ∧ s.nm.isSome = bn) := ⟨hnm, hbn⟩
  clear h h0 he hW hz hk hlt hnm hbn hzv hbz m1 k1 k2 m2 o2 bb2 r2 kE kE2 b1 hz1 hz1b hw1 hw2 hE hbf hzz
  go_enter Tryz.func46, Tryz.ntmps46
  go_upto_region 1 with fail
  rw [AW.out.1, AW.out.2.2]
  clear c1 c2 c3 c4 f1 f2 f3 f4
  go_upto_region 2 with fail
  rw [AW.out.2.1]
  clear cc1 cc2 cc3 cc4 ff1 ff2 ff3 ff4
  clear AW
  cases bz
  · obtain rfl : z = z1 := AZ.out.2 rfl
    clear AZ
    go_upto_region 4 with fail
    clear d2 d3
    cases bf
    · have hb := begin_c 0 z w2 A.out.1 A.out.2.2.2.2.2.1 A.out.2.2.1 A.out.2.2.2.1 (by decide) A.out.2.2.2.2.1
      have hb2 : Calls Tryz.prog 45 #[.pointer (some ⟨W, 0, none⟩), .int .i64 0, .int .u64 (z : Int)] w2 fun e w' => Wp W (tent z s) (vent s.B z s v) w e w' := hb.mono fun e w' q => by
        rw [AT.out.1, AT.out.2]
        exact q.from A.out.2.1
      clear hb d0 d1 e0 AN
      go_wp2_with (first | (go_at_call 55; refine hif.mono ?_; rintro e3 w3 ⟨rfl, rfl⟩) | (go_at_call 45; refine hb2.mono ?_; rintro e4 w4 k4; have re4 := k4.re; subst re4))
      first | go_end0 | (refine bodyPost_ret (results_none rfl _ _ _) rfl ?_)
      exact k4
    · cases bn
      · have hnmn : s.nm = none := by have := AN.out.2; cases e : s.nm with
          | none => rfl
          | some q => rw [e] at this; cases this
        have hnc := name_c w2 A.out.1
        go_upto_region 7 with (go_at_call 55; refine hif.mono ?_; rintro e3 w3 ⟨rfl, rfl⟩)
        clear hif
        have AX : Aside (s.nm.getD (tnm s.B) = tnm s.B) := by show s.nm.getD _ = _; rw [hnmn]; rfl
        clear hnmn
        go_upto_region 8 with (go_at_call 56; refine hnc.mono ?_; rintro e4 w4 ⟨rfl, b4⟩; have e04 : w4.frozen? ⟨E, 0, none⟩ = false := (by rw [World.frozen?_of_block (w := w3) (b4.block E A.out.2.2.2.2.2.2.2.1)]; exact e0); have d04 : w4.cell? ⟨E, 0, none⟩ = some (.string nmv) := (by rw [World.cell?_of_block (w := w3) (b4.block E A.out.2.2.2.2.2.2.2.1)]; exact d0))
        obtain ⟨w5, hw5⟩ : ∃ w5, w4.setCell ⟨E, 0, none⟩ (.string (st (tnm s.B))) = w5 := ⟨_, rfl⟩
        rw [hw5]
        have bb4 : Below E w3 w4 := b4.mono (Nat.le_of_lt A.out.2.2.2.2.2.2.2.1)
        have o5 : Only E w4 w5 := by rw [← hw5]; exact (Only.refl E w4).setCell 0 _
        have d5 : w5.cell? ⟨E, 0, none⟩ = some (.string (st (tnm s.B))) := by rw [← hw5]; exact World.cell?_setCell_same' _ _ _ (by rw [d04]; rfl)
        have m5 := (A.out.1.below bb4 A.out.2.2.2.2.2.2.1).below (o5.below (Nat.le_refl _)) A.out.2.2.2.2.2.2.1
        have q5 : But W w w5 := (A.out.2.1.trans (But.of_below b4)).new o5 A.out.2.2.2.2.2.2.2.2
        have c5 := m5.k1545
        have c6 := m5.k1546
        have c7 := m5.k1547
        have c8 := m5.k1548
        have c9 := m5.k1549
        have f5 := m5.fz 1545
        have f6 := m5.fz 1546
        have f7 := m5.fz 1547
        have f8 := m5.fz 1548
        have f9 := m5.fz 1549
        have m6 := m5.open_ (tnm s.B)
        have q6 : But W w _ := q5.trans (But.of_only (only5 w5 (.int .i64 1) (.int .u8 0) (.int .i64 2) (.int .i64 0) (.string (st (tnm s.B)))))
        obtain ⟨w6, hw6⟩ : ∃ w6, ((((w5.setCell ⟨W, 1545, none⟩ (.int .i64 1)).setCell ⟨W, 1546, none⟩ (.int .u8 0)).setCell ⟨W, 1547, none⟩ (.int .i64 2)).setCell ⟨W, 1548, none⟩ (.int .i64 0)).setCell ⟨W, 1549, none⟩ (.string (st (tnm s.B))) = w6 := ⟨_, rfl⟩
        rw [hw6] at m6 q6
        have r6 : Er w6 := A2.out.but q6 A.out.2.2.2.1
        have hb := begin_c 1 z w6 m6 A.out.2.2.2.2.2.1 r6 A.out.2.2.2.1 (by decide) A.out.2.2.2.2.1
        have hb2 : Calls Tryz.prog 45 #[.pointer (some ⟨W, 0, none⟩), .int .i64 1, .int .u64 (z : Int)] w6 fun e w' => Wp W (tent z s) (vent s.B z s v) w e w' := hb.mono fun e w' q => by
          rw [AT.out.1, AT.out.2, AX.out]
          exact q.from q6
        obtain ⟨ns, hns⟩ : ∃ ns, st (tnm s.B) = ns := ⟨_, rfl⟩
        rw [hns] at d5 hw6
        have AW6 : Aside (((((w5.setCell ⟨W, 1545, none⟩ (.int .i64 1)).setCell ⟨W, 1546, none⟩ (.int .u8 0)).setCell ⟨W, 1547, none⟩ (.int .i64 2)).setCell ⟨W, 1548, none⟩ (.int .i64 0)).setCell ⟨W, 1549, none⟩ (.string ns) = w6) := hw6
        clear hw6 hb hns m5 m6 q5 q6 r6 o5 bb4 b4 hw5 d0 d1 d04 e04 e0 hnc
        go_upto_region 9 with fail
        rw [AW6.out]
        go_wp2_with (go_at_call 45; refine hb2.mono ?_; rintro e9 w9 k9; have re9 := k9.re; subst re9)
        first | go_end0 | (refine bodyPost_ret (results_none rfl _ _ _) rfl ?_)
        exact k9
      · obtain ⟨q, hq⟩ : ∃ q, s.nm = some q := by have := AN.out.2; cases e : s.nm with
          | none => rw [e] at this; cases this
          | some q => exact ⟨q, rfl⟩
        have hqn : st q = nmv := by have := AN.out.1; rw [hq] at this; exact this
        have AX : Aside (s.nm.getD (tnm s.B) = q) := by show s.nm.getD _ = q; rw [hq]; rfl
        go_upto_region 8 with (go_at_call 55; refine hif.mono ?_; rintro e3 w3 ⟨rfl, rfl⟩)
        clear hif
        obtain ⟨w5, hw5⟩ : ∃ w5, w3 = w5 := ⟨_, rfl⟩
        have d5 : w5.cell? ⟨E, 0, none⟩ = some (.string (st q)) := by rw [← hw5, hqn]; exact d0
        have m5 := A.out.1
        have q5 := A.out.2.1
        rw [hw5] at m5 q5 ⊢
        have c5 := m5.k1545
        have c6 := m5.k1546
        have c7 := m5.k1547
        have c8 := m5.k1548
        have c9 := m5.k1549
        have f5 := m5.fz 1545
        have f6 := m5.fz 1546
        have f7 := m5.fz 1547
        have f8 := m5.fz 1548
        have f9 := m5.fz 1549
        have m6 := m5.open_ q
        have q6 : But W w _ := q5.trans (But.of_only (only5 w5 (.int .i64 1) (.int .u8 0) (.int .i64 2) (.int .i64 0) (.string (st q))))
        obtain ⟨w6, hw6⟩ : ∃ w6, ((((w5.setCell ⟨W, 1545, none⟩ (.int .i64 1)).setCell ⟨W, 1546, none⟩ (.int .u8 0)).setCell ⟨W, 1547, none⟩ (.int .i64 2)).setCell ⟨W, 1548, none⟩ (.int .i64 0)).setCell ⟨W, 1549, none⟩ (.string (st q)) = w6 := ⟨_, rfl⟩
        rw [hw6] at m6 q6
        have r6 : Er w6 := A2.out.but q6 A.out.2.2.2.1
        have hb := begin_c 1 z w6 m6 A.out.2.2.2.2.2.1 r6 A.out.2.2.2.1 (by decide) A.out.2.2.2.2.1
        have hb2 : Calls Tryz.prog 45 #[.pointer (some ⟨W, 0, none⟩), .int .i64 1, .int .u64 (z : Int)] w6 fun e w' => Wp W (tent z s) (vent s.B z s v) w e w' := hb.mono fun e w' q => by
          rw [AT.out.1, AT.out.2, AX.out]
          exact q.from q6
        obtain ⟨ns, hns⟩ : ∃ ns, st (q) = ns := ⟨_, rfl⟩
        rw [hns] at d5 hw6
        have AW6 : Aside (((((w5.setCell ⟨W, 1545, none⟩ (.int .i64 1)).setCell ⟨W, 1546, none⟩ (.int .u8 0)).setCell ⟨W, 1547, none⟩ (.int .i64 2)).setCell ⟨W, 1548, none⟩ (.int .i64 0)).setCell ⟨W, 1549, none⟩ (.string ns) = w6) := hw6
        clear hw6 hb hns m5 m6 q5 q6 r6 hw5 d0 d1 e0 hqn hq
        go_upto_region 9 with fail
        rw [AW6.out]
        go_wp2_with (go_at_call 45; refine hb2.mono ?_; rintro e9 w9 k9; have re9 := k9.re; subst re9)
        first | go_end0 | (refine bodyPost_ret (results_none rfl _ _ _) rfl ?_)
        exact k9
  · obtain rfl : zv = z1 := AZ.out.1 rfl
    clear AZ
    go_upto_region 4 with fail
    clear d2 d3
    cases bf
    · have hb := begin_c 0 zv w2 A.out.1 A.out.2.2.2.2.2.1 A.out.2.2.1 A.out.2.2.2.1 (by decide) A.out.2.2.2.2.1
      have hb2 : Calls Tryz.prog 45 #[.pointer (some ⟨W, 0, none⟩), .int .i64 0, .int .u64 (zv : Int)] w2 fun e w' => Wp W (tent z s) (vent s.B z s v) w e w' := hb.mono fun e w' q => by
        rw [AT.out.1, AT.out.2]
        exact q.from A.out.2.1
      clear hb d0 d1 e0 AN
      go_wp2_with (first | (go_at_call 55; refine hif.mono ?_; rintro e3 w3 ⟨rfl, rfl⟩) | (go_at_call 45; refine hb2.mono ?_; rintro e4 w4 k4; have re4 := k4.re; subst re4))
      first | go_end0 | (refine bodyPost_ret (results_none rfl _ _ _) rfl ?_)
      exact k4
    · cases bn
      · have hnmn : s.nm = none := by have := AN.out.2; cases e : s.nm with
          | none => rfl
          | some q => rw [e] at this; cases this
        have hnc := name_c w2 A.out.1
        go_upto_region 7 with (go_at_call 55; refine hif.mono ?_; rintro e3 w3 ⟨rfl, rfl⟩)
        clear hif
        have AX : Aside (s.nm.getD (tnm s.B) = tnm s.B) := by show s.nm.getD _ = _; rw [hnmn]; rfl
        clear hnmn
        go_upto_region 8 with (go_at_call 56; refine hnc.mono ?_; rintro e4 w4 ⟨rfl, b4⟩; have e04 : w4.frozen? ⟨E, 0, none⟩ = false := (by rw [World.frozen?_of_block (w := w3) (b4.block E A.out.2.2.2.2.2.2.2.1)]; exact e0); have d04 : w4.cell? ⟨E, 0, none⟩ = some (.string nmv) := (by rw [World.cell?_of_block (w := w3) (b4.block E A.out.2.2.2.2.2.2.2.1)]; exact d0))
        obtain ⟨w5, hw5⟩ : ∃ w5, w4.setCell ⟨E, 0, none⟩ (.string (st (tnm s.B))) = w5 := ⟨_, rfl⟩
        rw [hw5]
        have bb4 : Below E w3 w4 := b4.mono (Nat.le_of_lt A.out.2.2.2.2.2.2.2.1)
        have o5 : Only E w4 w5 := by rw [← hw5]; exact (Only.refl E w4).setCell 0 _
        have d5 : w5.cell? ⟨E, 0, none⟩ = some (.string (st (tnm s.B))) := by rw [← hw5]; exact World.cell?_setCell_same' _ _ _ (by rw [d04]; rfl)
        have m5 := (A.out.1.below bb4 A.out.2.2.2.2.2.2.1).below (o5.below (Nat.le_refl _)) A.out.2.2.2.2.2.2.1
        have q5 : But W w w5 := (A.out.2.1.trans (But.of_below b4)).new o5 A.out.2.2.2.2.2.2.2.2
        have c5 := m5.k1545
        have c6 := m5.k1546
        have c7 := m5.k1547
        have c8 := m5.k1548
        have c9 := m5.k1549
        have f5 := m5.fz 1545
        have f6 := m5.fz 1546
        have f7 := m5.fz 1547
        have f8 := m5.fz 1548
        have f9 := m5.fz 1549
        have m6 := m5.open_ (tnm s.B)
        have q6 : But W w _ := q5.trans (But.of_only (only5 w5 (.int .i64 1) (.int .u8 0) (.int .i64 2) (.int .i64 0) (.string (st (tnm s.B)))))
        obtain ⟨w6, hw6⟩ : ∃ w6, ((((w5.setCell ⟨W, 1545, none⟩ (.int .i64 1)).setCell ⟨W, 1546, none⟩ (.int .u8 0)).setCell ⟨W, 1547, none⟩ (.int .i64 2)).setCell ⟨W, 1548, none⟩ (.int .i64 0)).setCell ⟨W, 1549, none⟩ (.string (st (tnm s.B))) = w6 := ⟨_, rfl⟩
        rw [hw6] at m6 q6
        have r6 : Er w6 := A2.out.but q6 A.out.2.2.2.1
        have hb := begin_c 1 zv w6 m6 A.out.2.2.2.2.2.1 r6 A.out.2.2.2.1 (by decide) A.out.2.2.2.2.1
        have hb2 : Calls Tryz.prog 45 #[.pointer (some ⟨W, 0, none⟩), .int .i64 1, .int .u64 (zv : Int)] w6 fun e w' => Wp W (tent z s) (vent s.B z s v) w e w' := hb.mono fun e w' q => by
          rw [AT.out.1, AT.out.2, AX.out]
          exact q.from q6
        obtain ⟨ns, hns⟩ : ∃ ns, st (tnm s.B) = ns := ⟨_, rfl⟩
        rw [hns] at d5 hw6
        have AW6 : Aside (((((w5.setCell ⟨W, 1545, none⟩ (.int .i64 1)).setCell ⟨W, 1546, none⟩ (.int .u8 0)).setCell ⟨W, 1547, none⟩ (.int .i64 2)).setCell ⟨W, 1548, none⟩ (.int .i64 0)).setCell ⟨W, 1549, none⟩ (.string ns) = w6) := hw6
        clear hw6 hb hns m5 m6 q5 q6 r6 o5 bb4 b4 hw5 d0 d1 d04 e04 e0 hnc
        go_upto_region 9 with fail
        rw [AW6.out]
        go_wp2_with (go_at_call 45; refine hb2.mono ?_; rintro e9 w9 k9; have re9 := k9.re; subst re9)
        first | go_end0 | (refine bodyPost_ret (results_none rfl _ _ _) rfl ?_)
        exact k9
      · obtain ⟨q, hq⟩ : ∃ q, s.nm = some q := by have := AN.out.2; cases e : s.nm with
          | none => rw [e] at this; cases this
          | some q => exact ⟨q, rfl⟩
        have hqn : st q = nmv := by have := AN.out.1; rw [hq] at this; exact this
        have AX : Aside (s.nm.getD (tnm s.B) = q) := by show s.nm.getD _ = q; rw [hq]; rfl
        go_upto_region 8 with (go_at_call 55; refine hif.mono ?_; rintro e3 w3 ⟨rfl, rfl⟩)
        clear hif
        obtain ⟨w5, hw5⟩ : ∃ w5, w3 = w5 := ⟨_, rfl⟩
        have d5 : w5.cell? ⟨E, 0, none⟩ = some (.string (st q)) := by rw [← hw5, hqn]; exact d0
        have m5 := A.out.1
        have q5 := A.out.2.1
        rw [hw5] at m5 q5 ⊢
        have c5 := m5.k1545
        have c6 := m5.k1546
        have c7 := m5.k1547
        have c8 := m5.k1548
        have c9 := m5.k1549
        have f5 := m5.fz 1545
        have f6 := m5.fz 1546
        have f7 := m5.fz 1547
        have f8 := m5.fz 1548
        have f9 := m5.fz 1549
        have m6 := m5.open_ q
        have q6 : But W w _ := q5.trans (But.of_only (only5 w5 (.int .i64 1) (.int .u8 0) (.int .i64 2) (.int .i64 0) (.string (st q))))
        obtain ⟨w6, hw6⟩ : ∃ w6, ((((w5.setCell ⟨W, 1545, none⟩ (.int .i64 1)).setCell ⟨W, 1546, none⟩ (.int .u8 0)).setCell ⟨W, 1547, none⟩ (.int .i64 2)).setCell ⟨W, 1548, none⟩ (.int .i64 0)).setCell ⟨W, 1549, none⟩ (.string (st q)) = w6 := ⟨_, rfl⟩
        rw [hw6] at m6 q6
        have r6 : Er w6 := A2.out.but q6 A.out.2.2.2.1
        have hb := begin_c 1 zv w6 m6 A.out.2.2.2.2.2.1 r6 A.out.2.2.2.1 (by decide) A.out.2.2.2.2.1
        have hb2 : Calls Tryz.prog 45 #[.pointer (some ⟨W, 0, none⟩), .int .i64 1, .int .u64 (zv : Int)] w6 fun e w' => Wp W (tent z s) (vent s.B z s v) w e w' := hb.mono fun e w' q => by
          rw [AT.out.1, AT.out.2, AX.out]
          exact q.from q6
        obtain ⟨ns, hns⟩ : ∃ ns, st (q) = ns := ⟨_, rfl⟩
        rw [hns] at d5 hw6
        have AW6 : Aside (((((w5.setCell ⟨W, 1545, none⟩ (.int .i64 1)).setCell ⟨W, 1546, none⟩ (.int .u8 0)).setCell ⟨W, 1547, none⟩ (.int .i64 2)).setCell ⟨W, 1548, none⟩ (.int .i64 0)).setCell ⟨W, 1549, none⟩ (.string ns) = w6) := hw6
        clear hw6 hb hns m5 m6 q5 q6 r6 hw5 d0 d1 e0 hqn hq
        go_upto_region 9 with fail
        rw [AW6.out]
        go_wp2_with (go_at_call 45; refine hb2.mono ?_; rintro e9 w9 k9; have re9 := k9.re; subst re9)
        first | go_end0 | (refine bodyPost_ret (results_none rfl _ _ _) rfl ?_)
        exact k9
end
end Go.Proofs.YtcmmjbkgoafbnaaGreatDoor

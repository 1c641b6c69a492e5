/-
  Own texts of this seat, one behind the other: what each says stands ahead of it.
-/
import Derived.Test.YtcmmjbkgoafbnaaDoorMh
import Derived.Test.YtcmmjbkgoafbnaaDoorMa
import Derived.Test.YtcmmjbkgoafbnaaDoorMc
import Derived.Test.YtcmmjbkgoafbnaaDoorMd
/-
  A header's own name.
-/
namespace Go.Proofs.YtcmmjbkgoafbnaaDoor
open Go.RowKit
set_option linter.unusedVariables false
set_option linter.unusedSimpArgs false
theorem st_nil : st [] = ⟨#[]⟩ := rfl
theorem st_slash : st [47] = ⟨#[47]⟩ := rfl
theorem ustar_eq {k : List Nat} (h : Oct k) : ((st k).toList == [117, 115, 116, 97, 114]) = decide (k = [117, 115, 116, 97, 114]) := by
  have := st_beq h (show Oct [117, 115, 116, 97, 114] from by unfold Oct; decide)
  have e : (st [117, 115, 116, 97, 114]).toList = [117, 115, 116, 97, 114] := by rw [ByteArray.toList_eq]; rfl
  rw [e] at this; exact this
theorem empty_eq {k : List Nat} (h : Oct k) : ((st k).toList == []) = decide (k = []) := by
  have := st_beq h Oct.nil
  have e : (st []).toList = [] := by rw [ByteArray.toList_eq]; rfl
  rw [e] at this; exact this
section
variable {W : Nat} {s : Ts} {v : Rv}
theorem Wm.sub (w : World) (h : Wm w W s v) (f n : Nat) : ∀ (i x : Nat), ((s.B.drop f).take n)[i]? = some x → w.cell? ⟨W, 2 + f + i, none⟩ = some (.int .u8 (x : Int)) := fun i x hx => by
  rw [List.getElem?_take] at hx
  split at hx
  · rw [List.getElem?_drop] at hx
    rw [Nat.add_assoc]
    exact h.kb hx
  · cases hx
set_option maxRecDepth 20000 in
set_option maxHeartbeats 1000000 in
theorem name_c (w : World) (h : Wm w W s v) : Calls Tryd.prog 59 #[.pointer (some ⟨W, 2, none⟩)] w fun e w' => e = .returned (.string (st (tnm s.B))) ∧ Below w.heap.size w w' := by
  have hk := h.ok
  have hbl := hk.bl
  have l1 : ((s.B.drop 0).take 100).length = 100 := by rw [List.length_take, List.length_drop]; omega
  have l2 : ((s.B.drop 257).take 5).length = 5 := by rw [List.length_take, List.length_drop]; omega
  have l3 : ((s.B.drop 345).take 155).length = 155 := by rw [List.length_take, List.length_drop]; omega
  obtain ⟨a, ha⟩ : ∃ a, (s.B.drop 0).take 100 = a := ⟨_, rfl⟩
  obtain ⟨u, hu⟩ : ∃ u, (s.B.drop 257).take 5 = u := ⟨_, rfl⟩
  obtain ⟨p, hp⟩ : ∃ p, (s.B.drop 345).take 155 = p := ⟨_, rfl⟩
  have oa : Oct a := by rw [← ha]; exact (hk.bo.drop _).take _
  have ou : Oct u := by rw [← hu]; exact (hk.bo.drop _).take _
  have op : Oct p := by rw [← hp]; exact (hk.bo.drop _).take _
  have s1 := h.sub w 0 100
  rw [ha] at l1 s1
  rw [hu] at l2
  rw [hp] at l3
  have h1 := text_c (b := W) (o := 2) (C := 512) w l1 oa (by decide) (by decide) h.lt (fun i x hx => s1 i x hx)
  have h2 : ∀ x, Below w.heap.size w x → (convert 22 9 (.slice (some ⟨W, 259, none⟩) 5 255)).run Tryd.prog x = .ok (.string (st u)) x := fun x bx => conv_st 5 255 l2 ou (Or.inr ⟨W, 259, rfl, fun i z hz => by rw [← hu] at hz; exact (h.below bx h.lt).sub x 257 5 i z hz⟩)
  have h3 : ∀ x, Below w.heap.size w x → Calls Tryd.prog 61 #[.slice (some ⟨W, 347, none⟩) 155 167] x fun e w' => e = .returned (.string (st (ttx p))) ∧ Below x.heap.size x w' := fun x bx => text_c (b := W) (o := 347) (C := 167) x l3 op (by decide) (by decide) (Nat.lt_of_lt_of_le h.lt bx.size) (fun i z hz => by rw [← hp] at hz; exact (h.below bx h.lt).sub x 345 155 i z hz)
  have e1 := ustar_eq ou
  have e2 := empty_eq (oct_ttx op)
  have htn : tnm s.B = if u = [117, 115, 116, 97, 114] ∧ ttx p ≠ [] then ttx p ++ [47] ++ ttx a else ttx a := by
    unfold tnm
    rw [hu, hp, show s.B.take 100 = a by rw [← ha, List.drop_zero]]
  have hla : (ttx a).length ≤ 100 := by have := ttx_len a; omega
  have hlp : (ttx p).length ≤ 155 := by have := ttx_len p; omega
  obtain ⟨sa, hsa⟩ : ∃ sa, st (ttx a) = sa := ⟨_, rfl⟩
  obtain ⟨su, hsu⟩ : ∃ su, st u = su := ⟨_, rfl⟩
  obtain ⟨sp, hsp⟩ : ∃ sp, st (ttx p) = sp := ⟨_, rfl⟩
  rw [hsa] at h1
  rw [hsu] at e1
  simp only [hsu] at h2
  rw [hsp] at e2
  simp only [hsp] at h3
  by_cases q1 : u = [117, 115, 116, 97, 114]
  · rw [decide_eq_true q1] at e1
    have e1b : (su.toList != [117, 115, 116, 97, 114]) = false := by rw [bne, e1]; rfl
    by_cases q2 : ttx p = []
    · rw [decide_eq_true q2] at e2
      have e2b : (sp.toList != []) = false := by rw [bne, e2]; rfl
      have AT : Aside (st (tnm s.B) = sa) := by show st _ = sa; rw [htn, if_neg (fun q => q.2 q2), hsa]
      have A2 : Aside (∀ x, Below w.heap.size w x → (convert 22 9 (.slice (some ⟨W, 259, none⟩) 5 255)).run Tryd.prog x = .ok (.string su) x) := h2
      have A3 : Aside (∀ x, Below w.heap.size w x → Calls Tryd.prog 61 #[.slice (some ⟨W, 347, none⟩) 155 167] x fun e w' => e = .returned (.string sp) ∧ Below x.heap.size x w') := h3
      clear h hk hbl l1 l2 l3 ha hu hp oa ou op s1 htn hla hlp hsa hsu hsp q1 q2 h2 h3
      go_enter Tryd.func59, Tryd.ntmps59
      go_upto_region 2 with (go_at_call 61; refine h1.mono ?_; rintro e1 w1 ⟨rfl, b1⟩)
      have h2 := A2.out w1 b1
      go_upto_region 4 with fail
      have h3 := A3.out w1 b1
      clear h2 h1
      go_wp2_with (go_at_call 61; refine h3.mono ?_; rintro e2 w2 ⟨rfl, b2⟩)
      first | go_ret | go_ret2
      exact ⟨by rw [AT.out]; rfl, b1.trans (b2.mono b1.size)⟩
    · rw [decide_eq_false q2] at e2
      have e2b : (sp.toList != []) = true := by rw [bne, e2]; rfl
      have z1 : sp.size = (ttx p).length := by rw [← hsp]; exact st_size _
      have z2 : sa.size = (ttx a).length := by rw [← hsa]; exact st_size _
      obtain ⟨np, hnp⟩ : ∃ np, (ttx p).length = np := ⟨_, rfl⟩
      obtain ⟨na, hna⟩ : ∃ na, (ttx a).length = na := ⟨_, rfl⟩
      rw [hnp] at z1 hlp
      rw [hna] at z2 hla
      obtain ⟨sc, hsc⟩ : ∃ sc, sp ++ (⟨#[47]⟩ : ByteArray) = sc := ⟨_, rfl⟩
      obtain ⟨sd, hsd⟩ : ∃ sd, sc ++ sa = sd := ⟨_, rfl⟩
      have z3 : sc.size = np + 1 := by rw [← hsc, ByteArray.size_append, z1]; rfl
      have u1 : (9223372036854775807 < np + 1) = False := eq_false (by omega)
      have u2 : (9223372036854775807 < np + 1 + na) = False := eq_false (by omega)
      have z47 : (⟨#[47]⟩ : ByteArray).size = 1 := rfl
      have AT : Aside (st (tnm s.B) = sd) := by
        show st _ = sd
        rw [htn, if_pos ⟨q1, q2⟩, ← st_append, ← st_append, hsp, hsa, st_slash, hsc, hsd]
      have A2 : Aside (∀ x, Below w.heap.size w x → (convert 22 9 (.slice (some ⟨W, 259, none⟩) 5 255)).run Tryd.prog x = .ok (.string su) x) := h2
      have A3 : Aside (∀ x, Below w.heap.size w x → Calls Tryd.prog 61 #[.slice (some ⟨W, 347, none⟩) 155 167] x fun e w' => e = .returned (.string sp) ∧ Below x.heap.size x w') := h3
      clear h hk hbl l1 l2 l3 ha hu hp oa ou op s1 htn hla hlp hsa hsu hsp q1 q2 h2 h3 hnp hna
      go_enter Tryd.func59, Tryd.ntmps59
      go_upto_region 2 with (go_at_call 61; refine h1.mono ?_; rintro e1 w1 ⟨rfl, b1⟩)
      have h2 := A2.out w1 b1
      go_upto_region 4 with fail
      have h3 := A3.out w1 b1
      clear h2 h1
      go_wp2_with (go_at_call 61; refine h3.mono ?_; rintro e2 w2 ⟨rfl, b2⟩)
      first | go_ret | go_ret2
      exact ⟨by rw [AT.out]; rfl, b1.trans (b2.mono b1.size)⟩
  · rw [decide_eq_false q1] at e1
    have e1b : (su.toList != [117, 115, 116, 97, 114]) = true := by rw [bne, e1]; rfl
    have AT : Aside (st (tnm s.B) = sa) := by show st _ = sa; rw [htn, if_neg (fun q => q1 q.1), hsa]
    have A2 : Aside (∀ x, Below w.heap.size w x → (convert 22 9 (.slice (some ⟨W, 259, none⟩) 5 255)).run Tryd.prog x = .ok (.string su) x) := h2
    clear h hk hbl l1 l2 l3 ha hu hp oa ou op s1 htn hla hlp hsa hsu hsp q1 h2 h3 e2
    go_enter Tryd.func59, Tryd.ntmps59
    go_upto_region 2 with (go_at_call 61; refine h1.mono ?_; rintro e1 w1 ⟨rfl, b1⟩)
    have h2 := A2.out w1 b1
    go_wp2_with fail
    first | go_ret | go_ret2
    exact ⟨by rw [AT.out]; rfl, b1⟩
end
end Go.Proofs.YtcmmjbkgoafbnaaDoor

/-
  The walker's steps: what is no header of another one.
-/
namespace Go.Proofs.YtcmmjbkgoafbnaaDoor
open Go.RowKit
set_option linter.unusedVariables false
set_option linter.unusedSimpArgs false
/-- The event of a file that begins. -/
def vopn (n : List Nat) (v : Rv) : Rv := { v with ek := 1, eb := 0, en := 2, et := n }
theorem But.new {M E : Nat} {w u x : World} (h : But M w u) (k : Only E u x) (hE : w.heap.size ≤ E) : But M w x := ⟨k.os.trans h.os, k.tape.trans h.tape, k.output.trans h.output, by rw [k.size]; exact h.size, fun i hi hm => (k.block i (by omega)).trans (h.block i hi hm)⟩
section
variable {W : Nat} {s : Ts} {v : Rv}
theorem Wm.open_ {w : World} (h : Wm w W s v) (n : List Nat) : Wm (((((w.setCell ⟨W, 1545, none⟩ (.int .i64 1)).setCell ⟨W, 1546, none⟩ (.int .u8 0)).setCell ⟨W, 1547, none⟩ (.int .i64 2)).setCell ⟨W, 1548, none⟩ (.int .i64 0)).setCell ⟨W, 1549, none⟩ (.string (st n))) W s (vopn n v) := ((((h.s1545 1).s1546 0).s1547 2).s1548).s1549 n
theorem only5 (w : World) (a b c d e : Value) : Only W w (((((w.setCell ⟨W, 1545, none⟩ a).setCell ⟨W, 1546, none⟩ b).setCell ⟨W, 1547, none⟩ c).setCell ⟨W, 1548, none⟩ d).setCell ⟨W, 1549, none⟩ e) := (((((Only.refl W w).setCell 1545 _).setCell 1546 _).setCell 1547 _).setCell 1548 _).setCell 1549 _
/-- What entry makes of the events. -/
def vent (B : List Nat) (z : Nat) (s : Ts) (v : Rv) : Rv := if tisf (tkd B) then vbeg 1 (s.sz.getD z) (vopn (s.nm.getD (tnm B)) v) else vbeg 0 (s.sz.getD z) v
def tent (z : Nat) (s : Ts) : Ts := (tbeg (if tisf (tkd s.B) then 1 else 0) (s.sz.getD z) { s with nm := none, sz := none }).1
set_option maxRecDepth 20000 in
set_option maxHeartbeats 2000000 in
theorem entry_c (z : Nat) (w : World) (h : Wm w W s v) (h0 : s.why = 0) (he : Er w) (hW : 3 ≤ W) (hz : z < 9223372036854775808) : Calls Tryd.prog 46 #[.pointer (some ⟨W, 0, none⟩), .int .u64 (z : Int)] w fun e w' => Wp W (tent z s) (vent s.B z s v) w e w' := by
  have hk := h.ok
  have hlt := h.lt
  obtain ⟨E, hE⟩ : ∃ E, w.heap.size = E := ⟨_, rfl⟩
  obtain ⟨nmv, hnm⟩ : ∃ x, st (s.nm.getD []) = x := ⟨_, rfl⟩
  obtain ⟨bn, hbn⟩ : ∃ x, s.nm.isSome = x := ⟨_, rfl⟩
  obtain ⟨zv, hzv⟩ : ∃ x, s.sz.getD 0 = x := ⟨_, rfl⟩
  obtain ⟨bz, hbz⟩ : ∃ x, s.sz.isSome = x := ⟨_, rfl⟩
  have c1 := h.k1541
  have c2 := h.k1542
  have c3 := h.k1543
  have c4 := h.k1544
  rw [hnm] at c1
  rw [hbn] at c2
  rw [hzv] at c3
  rw [hbz] at c4
  have f1 := h.fz 1541
  have f2 := h.fz 1542
  have f3 := h.fz 1543
  have f4 := h.fz 1544
  obtain ⟨w1, hw1⟩ : ∃ w1, w.alloc (.cells #[.string nmv, .bool bn, .int .u64 (zv : Int), .bool bz] 62) = w1 := ⟨_, rfl⟩
  have b1 : Below w.heap.size w w1 := by rw [← hw1]; exact (Below.refl _ w).alloc (Nat.le_refl _) _
  have kE : Cells w1 E #[.string nmv, .bool bn, .int .u64 (zv : Int), .bool bz] 62 := by rw [← hw1, ← hE]; exact Cells.new w _ 62
  have m1 := h.below b1 hlt
  have cc1 := m1.k1541
  have cc2 := m1.k1542
  have cc3 := m1.k1543
  have cc4 := m1.k1544
  have ff1 := m1.fz 1541
  have ff2 := m1.fz 1542
  have ff3 := m1.fz 1543
  have ff4 := m1.fz 1544
  obtain ⟨w2, hw2⟩ : ∃ w2, (((w1.setCell ⟨W, 1541, none⟩ (.string ⟨#[]⟩)).setCell ⟨W, 1542, none⟩ (.bool false)).setCell ⟨W, 1543, none⟩ (.int .u64 0)).setCell ⟨W, 1544, none⟩ (.bool false) = w2 := ⟨_, rfl⟩
  have k1 : Tok { s with nm := none } := ⟨hk.bl, hk.bo, hk.kl, hk.ko, hk.ps, hk.wh, hk.us, hk.lf, hk.ln, ⟨fun n hn => (by cases hn), hk.cm.2⟩⟩
  have k2 : Tok { s with nm := none, sz := none } := ⟨hk.bl, hk.bo, hk.kl, hk.ko, hk.ps, hk.wh, hk.us, hk.lf, hk.ln, okc_none⟩
  have m2 : Wm w2 W { s with nm := none, sz := none } v := by rw [← hw2]; exact (m1.snn k1).ssn k2
  have o2 : Only W w1 w2 := by rw [← hw2]; exact ((((Only.refl W w1).setCell 1541 _).setCell 1542 _).setCell 1543 _).setCell 1544 _
  have bb2 : But W w w2 := (But.of_below b1).trans (But.of_only o2)
  have r2 := he.but bb2 hW
  have kE2 := kE.only o2 (by omega)
  have d0 := kE2.cell 0
  have d1 := kE2.cell 1
  have d2 := kE2.cell 2
  have d3 := kE2.cell 3
  have e0 := kE2.frozen 0
  obtain ⟨z1, hz1⟩ : ∃ z1, s.sz.getD z = z1 := ⟨_, rfl⟩
  have hz1b : z1 < 9223372036854775808 := by
    rw [← hz1]
    cases e : s.sz with
    | none => exact hz
    | some q => exact hk.cm.2 q e
  have hzz : (bz = true → zv = z1) ∧ (bz = false → z = z1) := by
    rw [← hbz, ← hzv, ← hz1]
    cases s.sz with
    | none => exact ⟨fun q => (by cases q), fun _ => rfl⟩
    | some q => exact ⟨fun _ => rfl, fun q => (by cases q)⟩
  obtain ⟨bf, hbf⟩ : ∃ bf, tisf (tkd s.B) = bf := ⟨_, rfl⟩
  have hif := isFile_c w2 m2
  rw [show tisf (tkd ({ s with nm := none, sz := none } : Ts).B) = bf from hbf] at hif
  have AW : Aside (w.alloc (.cells #[.string nmv, .bool bn, .int .u64 (zv : Int), .bool bz] 62) = w1 ∧ (((w1.setCell ⟨W, 1541, none⟩ (.string ⟨#[]⟩)).setCell ⟨W, 1542, none⟩ (.bool false)).setCell ⟨W, 1543, none⟩ (.int .u64 0)).setCell ⟨W, 1544, none⟩ (.bool false) = w2 ∧ w.heap.size = E) := ⟨hw1, hw2, hE⟩
  have A : Aside (Wm w2 W { s with nm := none, sz := none } v ∧ But W w w2 ∧ Er w2 ∧ 3 ≤ W ∧ z1 < 9223372036854775808 ∧ s.why = 0 ∧ W < E ∧ E < w2.heap.size ∧ w.heap.size ≤ E) := ⟨m2, bb2, r2, hW, hz1b, h0, by omega, kE2.lt, by omega⟩
  have AZ : Aside ((bz = true → zv = z1) ∧ (bz = false → z = z1)) := hzz
  have AT : Aside (tent z s = (tbeg (if bf then 1 else 0) z1 { s with nm := none, sz := none }).1 ∧ vent s.B z s v = if bf then vbeg 1 z1 (vopn (s.nm.getD (tnm s.B)) v) else vbeg 0 z1 v) := ⟨by unfold tent; rw [hbf, hz1], by unfold vent; rw [hbf, hz1]⟩
  have A2 : Aside (Er w) := he
  have AN : Aside (st (s.nm.getD []) = nmv ∧ s.nm.isSome = bn) := ⟨hnm, hbn⟩
  clear h h0 he hW hz hk hlt hnm hbn hzv hbz m1 k1 k2 m2 o2 bb2 r2 kE kE2 b1 hz1 hz1b hw1 hw2 hE hbf hzz
  go_enter Tryd.func46, Tryd.ntmps46
  go_upto_region 1 with fail
  rw [AW.out.1, AW.out.2.2]
  clear c1 c2 c3 c4 f1 f2 f3 f4
  go_upto_region 2 with fail
  rw [AW.out.2.1]
  clear cc1 cc2 cc3 cc4 ff1 ff2 ff3 ff4
  clear AW
  cases bz
  · obtain rfl : z = z1 := AZ.out.2 rfl
    clear AZ
    go_upto_region 4 with fail
    clear d2 d3
    cases bf
    · have hb := begin_c 0 z w2 A.out.1 A.out.2.2.2.2.2.1 A.out.2.2.1 A.out.2.2.2.1 (by decide) A.out.2.2.2.2.1
      have hb2 : Calls Tryd.prog 45 #[.pointer (some ⟨W, 0, none⟩), .int .i64 0, .int .u64 (z : Int)] w2 fun e w' => Wp W (tent z s) (vent s.B z s v) w e w' := hb.mono fun e w' q => by
        rw [AT.out.1, AT.out.2]
        exact q.from A.out.2.1
      clear hb d0 d1 e0 AN
      go_wp2_with (first | (go_at_call 58; refine hif.mono ?_; rintro e3 w3 ⟨rfl, rfl⟩) | (go_at_call 45; refine hb2.mono ?_; rintro e4 w4 k4; have re4 := k4.re; subst re4))
      first | go_end0 | (refine bodyPost_ret (results_none rfl _ _ _) rfl ?_)
      exact k4
    · cases bn
      · have hnmn : s.nm = none := by have := AN.out.2; cases e : s.nm with
          | none => rfl
          | some q => rw [e] at this; cases this
        have hnc := name_c w2 A.out.1
        go_upto_region 7 with (go_at_call 58; refine hif.mono ?_; rintro e3 w3 ⟨rfl, rfl⟩)
        clear hif
        have AX : Aside (s.nm.getD (tnm s.B) = tnm s.B) := by show s.nm.getD _ = _; rw [hnmn]; rfl
        clear hnmn
        go_upto_region 8 with (go_at_call 59; refine hnc.mono ?_; rintro e4 w4 ⟨rfl, b4⟩; have e04 : w4.frozen? ⟨E, 0, none⟩ = false := (by rw [World.frozen?_of_block (w := w3) (b4.block E A.out.2.2.2.2.2.2.2.1)]; exact e0); have d04 : w4.cell? ⟨E, 0, none⟩ = some (.string nmv) := (by rw [World.cell?_of_block (w := w3) (b4.block E A.out.2.2.2.2.2.2.2.1)]; exact d0))
        obtain ⟨w5, hw5⟩ : ∃ w5, w4.setCell ⟨E, 0, none⟩ (.string (st (tnm s.B))) = w5 := ⟨_, rfl⟩
        rw [hw5]
        have bb4 : Below E w3 w4 := b4.mono (Nat.le_of_lt A.out.2.2.2.2.2.2.2.1)
        have o5 : Only E w4 w5 := by rw [← hw5]; exact (Only.refl E w4).setCell 0 _
        have d5 : w5.cell? ⟨E, 0, none⟩ = some (.string (st (tnm s.B))) := by rw [← hw5]; exact World.cell?_setCell_same' _ _ _ (by rw [d04]; rfl)
        have m5 := (A.out.1.below bb4 A.out.2.2.2.2.2.2.1).below (o5.below (Nat.le_refl _)) A.out.2.2.2.2.2.2.1
        have q5 : But W w w5 := (A.out.2.1.trans (But.of_below b4)).new o5 A.out.2.2.2.2.2.2.2.2
        have c5 := m5.k1545
        have c6 := m5.k1546
        have c7 := m5.k1547
        have c8 := m5.k1548
        have c9 := m5.k1549
        have f5 := m5.fz 1545
        have f6 := m5.fz 1546
        have f7 := m5.fz 1547
        have f8 := m5.fz 1548
        have f9 := m5.fz 1549
        have m6 := m5.open_ (tnm s.B)
        have q6 : But W w _ := q5.trans (But.of_only (only5 w5 (.int .i64 1) (.int .u8 0) (.int .i64 2) (.int .i64 0) (.string (st (tnm s.B)))))
        obtain ⟨w6, hw6⟩ : ∃ w6, ((((w5.setCell ⟨W, 1545, none⟩ (.int .i64 1)).setCell ⟨W, 1546, none⟩ (.int .u8 0)).setCell ⟨W, 1547, none⟩ (.int .i64 2)).setCell ⟨W, 1548, none⟩ (.int .i64 0)).setCell ⟨W, 1549, none⟩ (.string (st (tnm s.B))) = w6 := ⟨_, rfl⟩
        rw [hw6] at m6 q6
        have r6 : Er w6 := A2.out.but q6 A.out.2.2.2.1
        have hb := begin_c 1 z w6 m6 A.out.2.2.2.2.2.1 r6 A.out.2.2.2.1 (by decide) A.out.2.2.2.2.1
        have hb2 : Calls Tryd.prog 45 #[.pointer (some ⟨W, 0, none⟩), .int .i64 1, .int .u64 (z : Int)] w6 fun e w' => Wp W (tent z s) (vent s.B z s v) w e w' := hb.mono fun e w' q => by
          rw [AT.out.1, AT.out.2, AX.out]
          exact q.from q6
        obtain ⟨ns, hns⟩ : ∃ ns, st (tnm s.B) = ns := ⟨_, rfl⟩
        rw [hns] at d5 hw6
        have AW6 : Aside (((((w5.setCell ⟨W, 1545, none⟩ (.int .i64 1)).setCell ⟨W, 1546, none⟩ (.int .u8 0)).setCell ⟨W, 1547, none⟩ (.int .i64 2)).setCell ⟨W, 1548, none⟩ (.int .i64 0)).setCell ⟨W, 1549, none⟩ (.string ns) = w6) := hw6
        clear hw6 hb hns m5 m6 q5 q6 r6 o5 bb4 b4 hw5 d0 d1 d04 e04 e0 hnc
        go_upto_region 9 with fail
        rw [AW6.out]
        go_wp2_with (go_at_call 45; refine hb2.mono ?_; rintro e9 w9 k9; have re9 := k9.re; subst re9)
        first | go_end0 | (refine bodyPost_ret (results_none rfl _ _ _) rfl ?_)
        exact k9
      · obtain ⟨q, hq⟩ : ∃ q, s.nm = some q := by have := AN.out.2; cases e : s.nm with
          | none => rw [e] at this; cases this
          | some q => exact ⟨q, rfl⟩
        have hqn : st q = nmv := by have := AN.out.1; rw [hq] at this; exact this
        have AX : Aside (s.nm.getD (tnm s.B) = q) := by show s.nm.getD _ = q; rw [hq]; rfl
        go_upto_region 8 with (go_at_call 58; refine hif.mono ?_; rintro e3 w3 ⟨rfl, rfl⟩)
        clear hif
        obtain ⟨w5, hw5⟩ : ∃ w5, w3 = w5 := ⟨_, rfl⟩
        have d5 : w5.cell? ⟨E, 0, none⟩ = some (.string (st q)) := by rw [← hw5, hqn]; exact d0
        have m5 := A.out.1
        have q5 := A.out.2.1
        rw [hw5] at m5 q5 ⊢
        have c5 := m5.k1545
        have c6 := m5.k1546
        have c7 := m5.k1547
        have c8 := m5.k1548
        have c9 := m5.k1549
        have f5 := m5.fz 1545
        have f6 := m5.fz 1546
        have f7 := m5.fz 1547
        have f8 := m5.fz 1548
        have f9 := m5.fz 1549
        have m6 := m5.open_ q
        have q6 : But W w _ := q5.trans (But.of_only (only5 w5 (.int .i64 1) (.int .u8 0) (.int .i64 2) (.int .i64 0) (.string (st q))))
        obtain ⟨w6, hw6⟩ : ∃ w6, ((((w5.setCell ⟨W, 1545, none⟩ (.int .i64 1)).setCell ⟨W, 1546, none⟩ (.int .u8 0)).setCell ⟨W, 1547, none⟩ (.int .i64 2)).setCell ⟨W, 1548, none⟩ (.int .i64 0)).setCell ⟨W, 1549, none⟩ (.string (st q)) = w6 := ⟨_, rfl⟩
        rw [hw6] at m6 q6
        have r6 : Er w6 := A2.out.but q6 A.out.2.2.2.1
        have hb := begin_c 1 z w6 m6 A.out.2.2.2.2.2.1 r6 A.out.2.2.2.1 (by decide) A.out.2.2.2.2.1
        have hb2 : Calls Tryd.prog 45 #[.pointer (some ⟨W, 0, none⟩), .int .i64 1, .int .u64 (z : Int)] w6 fun e w' => Wp W (tent z s) (vent s.B z s v) w e w' := hb.mono fun e w' q => by
          rw [AT.out.1, AT.out.2, AX.out]
          exact q.from q6
        obtain ⟨ns, hns⟩ : ∃ ns, st (q) = ns := ⟨_, rfl⟩
        rw [hns] at d5 hw6
        have AW6 : Aside (((((w5.setCell ⟨W, 1545, none⟩ (.int .i64 1)).setCell ⟨W, 1546, none⟩ (.int .u8 0)).setCell ⟨W, 1547, none⟩ (.int .i64 2)).setCell ⟨W, 1548, none⟩ (.int .i64 0)).setCell ⟨W, 1549, none⟩ (.string ns) = w6) := hw6
        clear hw6 hb hns m5 m6 q5 q6 r6 hw5 d0 d1 e0 hqn hq
        go_upto_region 9 with fail
        rw [AW6.out]
        go_wp2_with (go_at_call 45; refine hb2.mono ?_; rintro e9 w9 k9; have re9 := k9.re; subst re9)
        first | go_end0 | (refine bodyPost_ret (results_none rfl _ _ _) rfl ?_)
        exact k9
  · obtain rfl : zv = z1 := AZ.out.1 rfl
    clear AZ
    go_upto_region 4 with fail
    clear d2 d3
    cases bf
    · have hb := begin_c 0 zv w2 A.out.1 A.out.2.2.2.2.2.1 A.out.2.2.1 A.out.2.2.2.1 (by decide) A.out.2.2.2.2.1
      have hb2 : Calls Tryd.prog 45 #[.pointer (some ⟨W, 0, none⟩), .int .i64 0, .int .u64 (zv : Int)] w2 fun e w' => Wp W (tent z s) (vent s.B z s v) w e w' := hb.mono fun e w' q => by
        rw [AT.out.1, AT.out.2]
        exact q.from A.out.2.1
      clear hb d0 d1 e0 AN
      go_wp2_with (first | (go_at_call 58; refine hif.mono ?_; rintro e3 w3 ⟨rfl, rfl⟩) | (go_at_call 45; refine hb2.mono ?_; rintro e4 w4 k4; have re4 := k4.re; subst re4))
      first | go_end0 | (refine bodyPost_ret (results_none rfl _ _ _) rfl ?_)
      exact k4
    · cases bn
      · have hnmn : s.nm = none := by have := AN.out.2; cases e : s.nm with
          | none => rfl
          | some q => rw [e] at this; cases this
        have hnc := name_c w2 A.out.1
        go_upto_region 7 with (go_at_call 58; refine hif.mono ?_; rintro e3 w3 ⟨rfl, rfl⟩)
        clear hif
        have AX : Aside (s.nm.getD (tnm s.B) = tnm s.B) := by show s.nm.getD _ = _; rw [hnmn]; rfl
        clear hnmn
        go_upto_region 8 with (go_at_call 59; refine hnc.mono ?_; rintro e4 w4 ⟨rfl, b4⟩; have e04 : w4.frozen? ⟨E, 0, none⟩ = false := (by rw [World.frozen?_of_block (w := w3) (b4.block E A.out.2.2.2.2.2.2.2.1)]; exact e0); have d04 : w4.cell? ⟨E, 0, none⟩ = some (.string nmv) := (by rw [World.cell?_of_block (w := w3) (b4.block E A.out.2.2.2.2.2.2.2.1)]; exact d0))
        obtain ⟨w5, hw5⟩ : ∃ w5, w4.setCell ⟨E, 0, none⟩ (.string (st (tnm s.B))) = w5 := ⟨_, rfl⟩
        rw [hw5]
        have bb4 : Below E w3 w4 := b4.mono (Nat.le_of_lt A.out.2.2.2.2.2.2.2.1)
        have o5 : Only E w4 w5 := by rw [← hw5]; exact (Only.refl E w4).setCell 0 _
        have d5 : w5.cell? ⟨E, 0, none⟩ = some (.string (st (tnm s.B))) := by rw [← hw5]; exact World.cell?_setCell_same' _ _ _ (by rw [d04]; rfl)
        have m5 := (A.out.1.below bb4 A.out.2.2.2.2.2.2.1).below (o5.below (Nat.le_refl _)) A.out.2.2.2.2.2.2.1
        have q5 : But W w w5 := (A.out.2.1.trans (But.of_below b4)).new o5 A.out.2.2.2.2.2.2.2.2
        have c5 := m5.k1545
        have c6 := m5.k1546
        have c7 := m5.k1547
        have c8 := m5.k1548
        have c9 := m5.k1549
        have f5 := m5.fz 1545
        have f6 := m5.fz 1546
        have f7 := m5.fz 1547
        have f8 := m5.fz 1548
        have f9 := m5.fz 1549
        have m6 := m5.open_ (tnm s.B)
        have q6 : But W w _ := q5.trans (But.of_only (only5 w5 (.int .i64 1) (.int .u8 0) (.int .i64 2) (.int .i64 0) (.string (st (tnm s.B)))))
        obtain ⟨w6, hw6⟩ : ∃ w6, ((((w5.setCell ⟨W, 1545, none⟩ (.int .i64 1)).setCell ⟨W, 1546, none⟩ (.int .u8 0)).setCell ⟨W, 1547, none⟩ (.int .i64 2)).setCell ⟨W, 1548, none⟩ (.int .i64 0)).setCell ⟨W, 1549, none⟩ (.string (st (tnm s.B))) = w6 := ⟨_, rfl⟩
        rw [hw6] at m6 q6
        have r6 : Er w6 := A2.out.but q6 A.out.2.2.2.1
        have hb := begin_c 1 zv w6 m6 A.out.2.2.2.2.2.1 r6 A.out.2.2.2.1 (by decide) A.out.2.2.2.2.1
        have hb2 : Calls Tryd.prog 45 #[.pointer (some ⟨W, 0, none⟩), .int .i64 1, .int .u64 (zv : Int)] w6 fun e w' => Wp W (tent z s) (vent s.B z s v) w e w' := hb.mono fun e w' q => by
          rw [AT.out.1, AT.out.2, AX.out]
          exact q.from q6
        obtain ⟨ns, hns⟩ : ∃ ns, st (tnm s.B) = ns := ⟨_, rfl⟩
        rw [hns] at d5 hw6
        have AW6 : Aside (((((w5.setCell ⟨W, 1545, none⟩ (.int .i64 1)).setCell ⟨W, 1546, none⟩ (.int .u8 0)).setCell ⟨W, 1547, none⟩ (.int .i64 2)).setCell ⟨W, 1548, none⟩ (.int .i64 0)).setCell ⟨W, 1549, none⟩ (.string ns) = w6) := hw6
        clear hw6 hb hns m5 m6 q5 q6 r6 o5 bb4 b4 hw5 d0 d1 d04 e04 e0 hnc
        go_upto_region 9 with fail
        rw [AW6.out]
        go_wp2_with (go_at_call 45; refine hb2.mono ?_; rintro e9 w9 k9; have re9 := k9.re; subst re9)
        first | go_end0 | (refine bodyPost_ret (results_none rfl _ _ _) rfl ?_)
        exact k9
      · obtain ⟨q, hq⟩ : ∃ q, s.nm = some q := by have := AN.out.2; cases e : s.nm with
          | none => rw [e] at this; cases this
          | some q => exact ⟨q, rfl⟩
        have hqn : st q = nmv := by have := AN.out.1; rw [hq] at this; exact this
        have AX : Aside (s.nm.getD (tnm s.B) = q) := by show s.nm.getD _ = q; rw [hq]; rfl
        go_upto_region 8 with (go_at_call 58; refine hif.mono ?_; rintro e3 w3 ⟨rfl, rfl⟩)
        clear hif
        obtain ⟨w5, hw5⟩ : ∃ w5, w3 = w5 := ⟨_, rfl⟩
        have d5 : w5.cell? ⟨E, 0, none⟩ = some (.string (st q)) := by rw [← hw5, hqn]; exact d0
        have m5 := A.out.1
        have q5 := A.out.2.1
        rw [hw5] at m5 q5 ⊢
        have c5 := m5.k1545
        have c6 := m5.k1546
        have c7 := m5.k1547
        have c8 := m5.k1548
        have c9 := m5.k1549
        have f5 := m5.fz 1545
        have f6 := m5.fz 1546
        have f7 := m5.fz 1547
        have f8 := m5.fz 1548
        have f9 := m5.fz 1549
        have m6 := m5.open_ q
        have q6 : But W w _ := q5.trans (But.of_only (only5 w5 (.int .i64 1) (.int .u8 0) (.int .i64 2) (.int .i64 0) (.string (st q))))
        obtain ⟨w6, hw6⟩ : ∃ w6, ((((w5.setCell ⟨W, 1545, none⟩ (.int .i64 1)).setCell ⟨W, 1546, none⟩ (.int .u8 0)).setCell ⟨W, 1547, none⟩ (.int .i64 2)).setCell ⟨W, 1548, none⟩ (.int .i64 0)).setCell ⟨W, 1549, none⟩ (.string (st q)) = w6 := ⟨_, rfl⟩
        rw [hw6] at m6 q6
        have r6 : Er w6 := A2.out.but q6 A.out.2.2.2.1
        have hb := begin_c 1 zv w6 m6 A.out.2.2.2.2.2.1 r6 A.out.2.2.2.1 (by decide) A.out.2.2.2.2.1
        have hb2 : Calls Tryd.prog 45 #[.pointer (some ⟨W, 0, none⟩), .int .i64 1, .int .u64 (zv : Int)] w6 fun e w' => Wp W (tent z s) (vent s.B z s v) w e w' := hb.mono fun e w' q => by
          rw [AT.out.1, AT.out.2, AX.out]
          exact q.from q6
        obtain ⟨ns, hns⟩ : ∃ ns, st (q) = ns := ⟨_, rfl⟩
        rw [hns] at d5 hw6
        have AW6 : Aside (((((w5.setCell ⟨W, 1545, none⟩ (.int .i64 1)).setCell ⟨W, 1546, none⟩ (.int .u8 0)).setCell ⟨W, 1547, none⟩ (.int .i64 2)).setCell ⟨W, 1548, none⟩ (.int .i64 0)).setCell ⟨W, 1549, none⟩ (.string ns) = w6) := hw6
        clear hw6 hb hns m5 m6 q5 q6 r6 hw5 d0 d1 e0 hqn hq
        go_upto_region 9 with fail
        rw [AW6.out]
        go_wp2_with (go_at_call 45; refine hb2.mono ?_; rintro e9 w9 k9; have re9 := k9.re; subst re9)
        first | go_end0 | (refine bodyPost_ret (results_none rfl _ _ _) rfl ?_)
        exact k9
end
end Go.Proofs.YtcmmjbkgoafbnaaDoor

/-
  What Octal, Binary and Field come to, the document's: the same numbers.
  Conditions: the bytes lie side by side, and are no more than the slice's room.
-/
namespace Go.Proofs.YtcmmjbkgoafbnaaDoor
open Go.RowKit
set_option linter.unusedVariables false
theorem pads_cons (x : Nat) (s : List Nat) : pads (x :: s) = (pad x && pads s) := rfl
/-- Where no digit stands, what is left is padding or the field is none. -/
theorem digs_end (v : Nat) : ∀ r : List Nat, (∀ x, r[0]? = some x → x < 48 ∨ 55 < x) → digs v r = if pads r = true then some v else none
  | [], _ => rfl
  | x :: s, h => by
    have h1 := h x rfl
    rw [digs, pads_cons]
    cases pad x with
    | true => rw [if_pos rfl, Bool.true_and]
    | false => rw [if_neg (by decide), if_pos h1, Bool.false_and, if_neg (by decide)]
theorem pad_dig {x : Nat} (h1 : 48 ≤ x) : pad x = false := by
  unfold pad
  rw [show (x == 0) = false by rw [beq_eq_false_iff_ne]; omega, show (x == 32) = false by rw [beq_eq_false_iff_ne]; omega]; rfl
theorem skip_end : ∀ r : List Nat, (∀ x, r[0]? = some x → x ≠ 32) → skip r = r
  | [], _ => rfl
  | x :: s, h => by rw [skip, if_neg (h x rfl)]
/-- The document's field, as far as it was gone through. -/
def sofar (g : Bool) (v : Nat) (r : List Nat) : Option Nat := if g = true then none else digs v r
/-- Its last loop: the padding. -/
def padded (g : Bool) (v : Nat) (r : List Nat) : Option Nat := if pads r = true then (if g = true then none else some v) else none
theorem sofar_end (g : Bool) (v : Nat) (r : List Nat) (h : ∀ x, r[0]? = some x → x < 48 ∨ 55 < x) : sofar g v r = padded g v r := by
  unfold sofar padded
  rw [digs_end v r h]
  cases g <;> cases pads r <;> rfl
theorem sofar_dig (v x : Nat) (s : List Nat) (h1 : 48 ≤ x) (h2 : x ≤ 55) : sofar false v (x :: s) = if 1152921504606846976 ≤ v then none else digs (8 * v + (x - 48)) s := by
  unfold sofar
  rw [if_neg (by decide), digs, pad_dig h1, if_neg (by decide), if_neg (by omega)]
set_option maxRecDepth 100000 in
set_option maxHeartbeats 2000000 in
theorem roctal_nil (a : Option Addr) (cap : Nat) (w : World) :
    Calls Tryd.prog 49 #[.slice a 0 cap] w fun e w' => e = .returned (ans (oct [])) ∧ w = w' := by
  go_enter Tryd.func49, Tryd.ntmps49
  go_wp2_with fail
  go_loopg [4] 0 (fun g si wr => si = .int .i64 0 ∧ w = wr)
  case atStart => exact ⟨rfl, rfl⟩
  case round =>
    obtain ⟨rfl, rfl⟩ := hrel
    go_wp2_with fail
    go_loopg [4, 5, 6] 0 (fun g si sv sg wr => si = .int .i64 0 ∧ sv = .int .u64 0 ∧ sg = .bool false ∧ w = wr)
    case atStart => exact ⟨rfl, rfl, rfl, rfl⟩
    case round =>
      obtain ⟨rfl, rfl, rfl, rfl⟩ := hrel
      go_wp2_with fail
      go_loopg [4] 0 (fun g si wr => si = .int .i64 0 ∧ w = wr)
      case atStart => exact ⟨rfl, rfl⟩
      case round =>
        obtain ⟨rfl, rfl⟩ := hrel
        go_wp2_with fail
        go_ret2
        exact ⟨rfl, rfl⟩
set_option maxRecDepth 100000 in
set_option maxHeartbeats 2000000 in
theorem roctal_some (b o : Nat) (l : List Nat) (L cap : Nat) (w : World) (hL : l.length = L) (hb : Oct l) (hlc : L ≤ cap) (hcap : cap < 9223372036854775808) (hc : ∀ (i x : Nat), l[i]? = some x → w.cell? ⟨b, o + i, none⟩ = some (.int .u8 (x : Int))) :
    Calls Tryd.prog 49 #[.slice (some ⟨b, o, none⟩) L cap] w fun e w' => e = .returned (ans (oct l)) ∧ w = w' := by
  have AM : Aside (l.length = L ∧ L < 9223372036854775808) := ⟨hL, by omega⟩
  clear hL hlc hcap
  go_enter Tryd.func49, Tryd.ntmps49
  go_wp2_with fail
  go_loopg [4] L (fun g si wr => ∃ k : Nat, k + g = L ∧ si = .int .i64 k ∧ skip (l.drop k) = skip l ∧ w = wr)
  case atStart => exact ⟨0, by omega, rfl, by rw [List.drop_zero], rfl⟩
  case round =>
    obtain ⟨k, hk, rfl, hs, rfl⟩ := hrel
    have AK : Aside (k + gk = L) := hk
    clear hk
    by_cases hgo : ∃ h : k < l.length, l[k] = 32
    · obtain ⟨hkl, hx⟩ := hgo
      have hlt : k < L := by rw [← AM.out.1]; exact hkl
      have hki : (k : Int) < (L : Int) := by omega
      have hx1 := List.getElem?_eq_getElem hkl
      have hdm := List.drop_eq_getElem_cons hkl
      rw [hx] at hx1 hdm
      rw [hdm, skip, if_pos rfl] at hs
      have hcell := hc k 32 hx1
      have AS : Aside (skip (l.drop (k + 1)) = skip l) := hs
      clear hx1 hdm hs hx hkl
      have hkb : (k : Int) + 1 < 9223372036854775808 := by have := AM.out; omega
      go_wp2_with fail
      have hk := AK.out
      go_roundg (gk - 1)
      case measure => omega
      case rel => exact ⟨k + 1, by omega, by go_num, AS.out, rfl⟩
    · have hsk : skip l = l.drop k := by
        rw [← hs]
        apply skip_end
        intro x hx e
        rw [List.getElem?_drop, Nat.add_zero] at hx
        obtain ⟨h1, h2⟩ := List.getElem?_eq_some_iff.1 hx
        exact hgo ⟨h1, by rw [h2]; exact e⟩
      have AO : Aside (sofar false 0 (l.drop k) = oct l) := by show _ = _; unfold oct; rw [hsk]; rfl
      have hcase : (k : Int) < (L : Int) ∧ (∃ (x : Nat), w.cell? ⟨b, o + k, none⟩ = some (.int .u8 (x : Int)) ∧ ((x : Int) == 32) = false) ∨ ¬ (k : Int) < (L : Int) := by
        by_cases hlt : k < L
        · left
          refine ⟨by omega, ?_⟩
          have hkl : k < l.length := by rw [AM.out.1]; exact hlt
          refine ⟨l[k], hc k _ (List.getElem?_eq_getElem hkl), ?_⟩
          rw [beq_eq_false_iff_ne]
          intro e
          exact hgo ⟨hkl, by omega⟩
        · right; omega
      clear hgo hs hsk
      rcases hcase with ⟨hki, x, hcell, hx⟩ | hki
      all_goals
        go_wp2_with fail
        obtain ⟨G, hG⟩ : ∃ G, L - k = G := ⟨_, rfl⟩
        have AG : Aside (k + G = L) := by show _ = _; have := AK.out; omega
        clear hG AK hki
        try clear hcell hx
        go_loopg [4, 5, 6] G (fun g si sv sg wr => ∃ (j v : Nat) (gr : Bool), j + g = L ∧ si = .int .i64 j ∧ sv = .int .u64 v ∧ sg = .bool gr ∧ v < 9223372036854775808 ∧ sofar gr v (l.drop j) = oct l ∧ w = wr)
        case atStart => exact ⟨k, 0, false, AG.out, rfl, rfl, rfl, by decide, AO.out, rfl⟩
        case round =>
          clear AO AG
          obtain ⟨j, v, gr, hj, rfl, rfl, rfl, hv, hs, rfl⟩ := hrel
          have AJ : Aside (j + gk = L) := hj
          clear hj
          by_cases hgo : ∃ h : j < l.length, 48 ≤ l[j] ∧ l[j] ≤ 55
          · obtain ⟨hkl, h1, h2⟩ := hgo
            have hlt : j < L := by rw [← AM.out.1]; exact hkl
            have hki : (j : Int) < (L : Int) := by omega
            have hx1 := List.getElem?_eq_getElem hkl
            have hdm := List.drop_eq_getElem_cons hkl
            obtain ⟨x, hxx⟩ : ∃ x, l[j] = x := ⟨_, rfl⟩
            rw [hxx] at hx1 hdm h1 h2
            rw [hdm] at hs
            have hcell := hc j x hx1
            have h1' : (48 : Int) ≤ (x : Int) := by omega
            have h2' : (x : Int) ≤ 55 := by omega
            clear hx1 hdm hxx hkl
            cases gr with
            | true =>
              have AS : Aside (sofar true v (l.drop (j + 1)) = oct l ∧ v < 9223372036854775808) := ⟨hs, hv⟩
              clear hs hv
              have hkb : (j : Int) + 1 < 9223372036854775808 := by have := AM.out; omega
              have hj := AJ.out
              go_wp2_with fail
              go_roundg (gk - 1)
              case measure => omega
              case rel => exact ⟨j + 1, v, true, by omega, by go_num, rfl, rfl, AS.out.2, AS.out.1, rfl⟩
            | false =>
              have hs2 : (if 1152921504606846976 ≤ v then none else digs (8 * v + (x - 48)) (l.drop (j + 1))) = oct l := by
                rw [← hs, sofar_dig v x _ h1 h2]
              clear hs
              by_cases hgr : 1152921504606846976 ≤ v
              · rw [if_pos hgr] at hs2
                have hgi : (1152921504606846976 : Int) ≤ (v : Int) := by omega
                have AS : Aside (sofar true v (l.drop (j + 1)) = oct l ∧ v < 9223372036854775808) := ⟨hs2, hv⟩
                clear hs2 hv hgr
                have hkb : (j : Int) + 1 < 9223372036854775808 := by have := AM.out; omega
                have hj := AJ.out
                go_wp2_with fail
                go_roundg (gk - 1)
                case measure => omega
                case rel => exact ⟨j + 1, v, true, by omega, by go_num, rfl, rfl, AS.out.2, AS.out.1, rfl⟩
              · rw [if_neg hgr] at hs2
                have hgi : ¬ (1152921504606846976 : Int) ≤ (v : Int) := by omega
                have AS : Aside (sofar false (8 * v + (x - 48)) (l.drop (j + 1)) = oct l ∧ 8 * v + (x - 48) < 9223372036854775808) := ⟨hs2, by omega⟩
                clear hs2 hgr
                have hkb : (j : Int) + 1 < 9223372036854775808 := by have := AM.out; omega
                have hj := AJ.out
                go_wp2_with fail
                go_roundg (gk - 1)
                case measure => omega
                case rel => exact ⟨j + 1, 8 * v + (x - 48), false, by omega, by go_num, by go_num, rfl, AS.out.2, AS.out.1, rfl⟩
          · have hend : sofar gr v (l.drop j) = padded gr v (l.drop j) := by
              apply sofar_end
              intro x hx
              rw [List.getElem?_drop, Nat.add_zero] at hx
              obtain ⟨h1, h2⟩ := List.getElem?_eq_some_iff.1 hx
              apply Decidable.byContradiction
              intro h3
              exact hgo ⟨h1, by omega, by omega⟩
            rw [hend] at hs
            have AO : Aside (padded gr v (l.drop j) = oct l) := hs
            have hcase : ((j : Int) < (L : Int) ∧ (∃ (x : Nat), w.cell? ⟨b, o + j, none⟩ = some (.int .u8 (x : Int)) ∧ (¬ (48 : Int) ≤ (x : Int) ∨ (48 : Int) ≤ (x : Int) ∧ ¬ (x : Int) ≤ 55))) ∨ ¬ (j : Int) < (L : Int) := by
              by_cases hlt : j < L
              · left
                refine ⟨by omega, ?_⟩
                have hkl : j < l.length := by rw [AM.out.1]; exact hlt
                refine ⟨l[j], hc j _ (List.getElem?_eq_getElem hkl), ?_⟩
                apply Decidable.byContradiction
                intro h3
                exact hgo ⟨hkl, by omega, by omega⟩
              · right; omega
            clear hgo hs hend hv
            rcases hcase with ⟨hki, x, hcell, hx | ⟨hx, hx'⟩⟩ | hki
            all_goals
              go_wp2_with fail
              obtain ⟨G, hG⟩ : ∃ G, L - j = G := ⟨_, rfl⟩
              have AG : Aside (j + G = L) := by show _ = _; have := AJ.out; omega
              clear hG AJ hki
              try clear hcell
              try clear hx
              try clear hx'
              go_loopg [4] G (fun g si wr => ∃ (i : Nat), i + g = L ∧ si = .int .i64 i ∧ padded gr v (l.drop i) = oct l ∧ w = wr)
              case atStart => exact ⟨j, AG.out, rfl, AO.out, rfl⟩
              case round =>
                clear AO AG
                obtain ⟨i, hi, rfl, hs, rfl⟩ := hrel
                have AI : Aside (i + gk = L) := hi
                clear hi
                by_cases hlt : i < L
                · have hki : (i : Int) < (L : Int) := by omega
                  have hkl : i < l.length := by rw [AM.out.1]; exact hlt
                  have hx1 := List.getElem?_eq_getElem hkl
                  have hdm := List.drop_eq_getElem_cons hkl
                  obtain ⟨x, hxx⟩ : ∃ x, l[i] = x := ⟨_, rfl⟩
                  rw [hxx] at hx1 hdm
                  rw [hdm] at hs
                  have hcell := hc i x hx1
                  have hkb : (i : Int) + 1 < 9223372036854775808 := by have := AM.out; omega
                  clear hx1 hdm hxx hkl
                  unfold padded at hs
                  rw [pads_cons] at hs
                  by_cases hx0 : x = 0
                  · have e0 : ((x : Int) != 0) = false := by rw [hx0]; rfl
                    have hp : pad x = true := by rw [hx0]; rfl
                    rw [hp, Bool.true_and] at hs
                    have AS : Aside (padded gr v (l.drop (i + 1)) = oct l) := hs
                    clear hs hp hx0
                    go_wp2_with fail
                    have hi := AI.out
                    go_roundg (gk - 1)
                    case measure => omega
                    case rel => exact ⟨i + 1, by omega, by go_num, AS.out, rfl⟩
                  · have e0 : ((x : Int) != 0) = true := by rw [bne_iff_ne]; omega
                    by_cases hx32 : x = 32
                    · have e32 : ((x : Int) != 32) = false := by rw [hx32]; rfl
                      have hp : pad x = true := by rw [hx32]; rfl
                      rw [hp, Bool.true_and] at hs
                      have AS : Aside (padded gr v (l.drop (i + 1)) = oct l) := hs
                      clear hs hp hx0 hx32
                      go_wp2_with fail
                      have hi := AI.out
                      go_roundg (gk - 1)
                      case measure => omega
                      case rel => exact ⟨i + 1, by omega, by go_num, AS.out, rfl⟩
                    · have e32 : ((x : Int) != 32) = true := by rw [bne_iff_ne]; omega
                      have hp : pad x = false := by
                        unfold pad
                        rw [show (x == 0) = false by rw [beq_eq_false_iff_ne]; omega, show (x == 32) = false by rw [beq_eq_false_iff_ne]; omega]; rfl
                      rw [hp, Bool.false_and, if_neg (by decide)] at hs
                      have AS : Aside (none = oct l) := hs
                      clear hs hp hx0 hx32
                      go_wp2_with fail
                      go_ret2
                      exact ⟨by rw [← AS.out]; rfl, rfl⟩
                · have hki : ¬ (i : Int) < (L : Int) := by omega
                  have hk2 : l.drop i = [] := List.drop_eq_nil_of_le (by have := AM.out; omega)
                  rw [hk2] at hs
                  cases gr with
                  | true =>
                    have AS : Aside (none = oct l) := hs
                    clear hs hk2
                    go_wp2_with fail
                    go_ret2
                    exact ⟨by rw [← AS.out]; rfl, rfl⟩
                  | false =>
                    have AS : Aside (some v = oct l) := hs
                    clear hs hk2
                    go_wp2_with fail
                    go_ret2
                    exact ⟨by rw [← AS.out]; rfl, rfl⟩
theorem roctal_c (a : Option Addr) (l : List Nat) (L cap : Nat) (w : World) (hL : l.length = L) (hb : Oct l) (hlc : L ≤ cap) (hcap : cap < 9223372036854775808) (h : Lies w a l) :
    Calls Tryd.prog 49 #[.slice a L cap] w fun e w' => e = .returned (ans (oct l)) ∧ w = w' := by
  rcases h with rfl | ⟨b, o, rfl, hc⟩
  · have : L = 0 := by simpa using hL.symm
    subst this
    exact roctal_nil a cap w
  · exact roctal_some b o l L cap w hL hb hlc hcap hc
end Go.Proofs.YtcmmjbkgoafbnaaDoor

/-
  What Right comes to, the program's and the document's: whether the sum field's number is one of the two sums.
  Conditions: the bytes lie side by side, and are no more than the slice's room.
-/
namespace Go.Proofs.YtcmmjbkgoafbnaaDoor
open Go.RowKit
set_option linter.unusedVariables false
theorem lies_first {w : World} {a : Option Addr} {l : List Nat} (h : Lies w a l) (k : Nat) : Lies w a (l.take k) := by
  rcases h with rfl | ⟨b, o, ha, hc⟩
  · left; simp
  · refine Or.inr ⟨b, o, ha, fun i z hz => hc i z ?_⟩
    rw [List.getElem?_take] at hz
    split at hz
    · exact hz
    · cases hz
theorem int_beq (x y : Int) : (x == y) = decide (x = y) := rfl
set_option maxRecDepth 100000 in
set_option maxHeartbeats 1000000 in
theorem right_c (a : Option Addr) (l : List Nat) (cap : Nat) (w : World) (hL : l.length = 512) (hb : Oct l) (hlc : 512 ≤ cap) (hcap : cap < 9223372036854775808) (h : Lies w a l) :
    Calls Tryd.prog 42 #[.slice a 512 cap] w fun e w' => e = .returned (.bool (rgt l)) ∧ w = w' := by
  have cs := sums_c a l cap w hL hb h
  rcases h with rfl | ⟨b, o, rfl, hc⟩
  · simp at hL
  have hlen : (sumfield l).length = 8 := by unfold sumfield; rw [List.length_take, List.length_drop]; omega
  have co := octal_c (some ⟨b, o + 148, none⟩) (sumfield l) 8 (cap - 148) w hlen ((hb.drop 148).take 8) (by omega) (by omega) (lies_first (lies_drop hc 148) 8)
  have hn : ¬ cap = 148 := by omega
  unfold rgt
  cases ho : oct (sumfield l) with
  | none =>
    rw [ho] at co
    have co : Calls Tryd.prog 55 #[.slice (some ⟨b, o + 148, none⟩) 8 (cap - 148)] w fun e w' => e = .returned (.tuple #[.int .u64 0, .bool false]) ∧ w = w' := co
    clear ho hlen hc hL hb hcap
    go_enter Tryd.func42, Tryd.ntmps42
    go_wp2_with fail
    refine cs.mono ?_
    rintro e u ⟨rfl, rfl⟩
    go_wp2_with fail
    refine co.mono ?_
    rintro e u ⟨rfl, rfl⟩
    go_wp2_with fail
    go_ret
    exact ⟨rfl, rfl⟩
  | some v =>
    rw [ho] at co
    have hv := oct_lt ho
    have co : Calls Tryd.prog 55 #[.slice (some ⟨b, o + 148, none⟩) 8 (cap - 148)] w fun e w' => e = .returned (.tuple #[.int .u64 v, .bool true]) ∧ w = w' := co
    have hw : IntKind.i64.wrap (v : Int) = (v : Int) := by rw [IntKind.wrap_i64]; omega
    show Calls _ _ _ _ fun e w' => e = .returned (.bool (decide ((v : Int) = pl l 512) || decide ((v : Int) = sn l 512))) ∧ w = w'
    have e1 := int_beq (v : Int) (pl l 512)
    have e2 := int_beq (v : Int) (sn l 512)
    generalize pl l 512 = p at *
    generalize sn l 512 = s at *
    generalize decide ((v : Int) = p) = q1 at *
    generalize decide ((v : Int) = s) = q2 at *
    clear ho hlen hc hL hb hcap hv
    cases q1
    all_goals
      go_enter Tryd.func42, Tryd.ntmps42
      go_wp2_with fail
      refine cs.mono ?_
      rintro e u ⟨rfl, rfl⟩
      go_wp2_with fail
      refine co.mono ?_
      rintro e u ⟨rfl, rfl⟩
      go_wp2_with fail
      go_ret
      exact ⟨rfl, rfl⟩
theorem right_no (a : Option Addr) (L cap : Nat) (w : World) (hL : L ≠ 512) :
    Calls Tryd.prog 42 #[.slice a L cap] w fun e w' => e = .returned (.bool false) ∧ w = w' := by
  have cs := sums_no a L cap w hL
  clear hL
  go_enter Tryd.func42, Tryd.ntmps42
  go_wp2_with fail
  refine cs.mono ?_
  rintro e u ⟨rfl, rfl⟩
  go_wp2_with fail
  go_ret
  exact ⟨rfl, rfl⟩
theorem rright_no (a : Option Addr) (L cap : Nat) (w : World) (hL : L ≠ 512) :
    Calls Tryd.prog 30 #[.slice a L cap] w fun e w' => e = .returned (.bool false) ∧ w = w' := by
  have cs := rsums_no a L cap w hL
  clear hL
  go_enter Tryd.func30, Tryd.ntmps30
  go_wp2_with fail
  refine cs.mono ?_
  rintro e u ⟨rfl, rfl⟩
  go_wp2_with fail
  go_ret
  exact ⟨rfl, rfl⟩
set_option maxRecDepth 100000 in
set_option maxHeartbeats 1000000 in
theorem rright_c (a : Option Addr) (l : List Nat) (cap : Nat) (w : World) (hL : l.length = 512) (hb : Oct l) (hlc : 512 ≤ cap) (hcap : cap < 9223372036854775808) (h : Lies w a l) :
    Calls Tryd.prog 30 #[.slice a 512 cap] w fun e w' => e = .returned (.bool (rgt l)) ∧ w = w' := by
  have cs := rsums_c a l cap w hL hb h
  rcases h with rfl | ⟨b, o, rfl, hc⟩
  · simp at hL
  have hlen : (sumfield l).length = 8 := by unfold sumfield; rw [List.length_take, List.length_drop]; omega
  have co := roctal_c (some ⟨b, o + 148, none⟩) (sumfield l) 8 (cap - 148) w hlen ((hb.drop 148).take 8) (by omega) (by omega) (lies_first (lies_drop hc 148) 8)
  have hn : ¬ cap = 148 := by omega
  unfold rgt
  cases ho : oct (sumfield l) with
  | none =>
    rw [ho] at co
    have co : Calls Tryd.prog 49 #[.slice (some ⟨b, o + 148, none⟩) 8 (cap - 148)] w fun e w' => e = .returned (.tuple #[.int .u64 0, .bool false]) ∧ w = w' := co
    clear ho hlen hc hL hb hcap
    go_enter Tryd.func30, Tryd.ntmps30
    go_wp2_with fail
    refine cs.mono ?_
    rintro e u ⟨rfl, rfl⟩
    go_wp2_with fail
    refine co.mono ?_
    rintro e u ⟨rfl, rfl⟩
    go_wp2_with fail
    go_ret
    exact ⟨rfl, rfl⟩
  | some v =>
    rw [ho] at co
    have hv := oct_lt ho
    have co : Calls Tryd.prog 49 #[.slice (some ⟨b, o + 148, none⟩) 8 (cap - 148)] w fun e w' => e = .returned (.tuple #[.int .u64 v, .bool true]) ∧ w = w' := co
    show Calls _ _ _ _ fun e w' => e = .returned (.bool (decide ((v : Int) = pl l 512) || decide ((v : Int) = sn l 512))) ∧ w = w'
    have e1 := int_beq (v : Int) (pl l 512)
    have e2 := int_beq (v : Int) (sn l 512)
    have hp := pl_bd hb 512
    have hs := sn_bd hb 512
    have hwp : IntKind.u64.wrap (pl l 512) = pl l 512 := by rw [IntKind.wrap_u64]; omega
    by_cases h0 : 0 ≤ sn l 512
    · have h0i : decide (0 ≤ sn l 512) = true := decide_eq_true h0
      have hws : IntKind.u64.wrap (sn l 512) = sn l 512 := by rw [IntKind.wrap_u64]; omega
      generalize pl l 512 = p at *
      generalize sn l 512 = s at *
      generalize decide ((v : Int) = p) = q1 at *
      generalize decide ((v : Int) = s) = q2 at *
      clear ho hlen hc hL hb hcap hv hp hs h0
      cases q1
      all_goals
        go_enter Tryd.func30, Tryd.ntmps30
        go_wp2_with fail
        refine cs.mono ?_
        rintro e u ⟨rfl, rfl⟩
        go_wp2_with fail
        refine co.mono ?_
        rintro e u ⟨rfl, rfl⟩
        go_wp2_with fail
        go_ret
        exact ⟨rfl, rfl⟩
    · have h0i : decide (0 ≤ sn l 512) = false := decide_eq_false h0
      have hq2 : decide ((v : Int) = sn l 512) = false := decide_eq_false (by omega)
      rw [hq2, Bool.or_false]
      generalize pl l 512 = p at *
      generalize sn l 512 = s at *
      generalize decide ((v : Int) = p) = q1 at *
      clear ho hlen hc hL hb hcap hv hp hs h0 e2 hq2
      cases q1
      all_goals
        go_enter Tryd.func30, Tryd.ntmps30
        go_wp2_with fail
        refine cs.mono ?_
        rintro e u ⟨rfl, rfl⟩
        go_wp2_with fail
        refine co.mono ?_
        rintro e u ⟨rfl, rfl⟩
        go_wp2_with fail
        go_ret
        exact ⟨rfl, rfl⟩
end Go.Proofs.YtcmmjbkgoafbnaaDoor

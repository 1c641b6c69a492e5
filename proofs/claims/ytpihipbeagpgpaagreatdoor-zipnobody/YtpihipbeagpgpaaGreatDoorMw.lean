/-
  Own texts of this seat, one behind the other: what each says stands ahead of it.
-/
import Derived.Test.YtpihipbeagpgpaaGreatDoorMv
import Derived.Test.YtpihipbeagpgpaaGreatDoorMu
import Derived.Test.YtpihipbeagpgpaaGreatDoorMj
import Derived.Lib.AppendStr
import Derived.Deep.RegionWith
/-
 The machine over an entry as it is written: up to its body; one that is passed over; one that is stored. No walk.
-/
namespace Go.Proofs.YtpihipbeagpgpaaGreatDoor
open Go.RowKit
set_option linter.unusedVariables false
structure Pz (s : Zs) : Prop where
 why : s.why = 0
 ph : s.ph = 0
 bs : s.bs = []
theorem pz0 : Pz s0 := ⟨rfl, rfl, rfl⟩
section
variable {e : Ent} {z : List Nat} {s : Zs}
theorem Ent.zh_at (e : Ent) (z : List Nat) (s : Zs) (h0 : s.why = 0) (hn : e.nam = []) : e.At (e.siz z.length) (e.siz e.da.length) (e.ext z).length false (e.zh z s) := ⟨h0, rfl, rfl, rfl, rfl, rfl, hn.symm, rfl, rfl, rfl, rfl, rfl⟩
theorem Ent.front_run (f : e.Fit z) (h : Pz s) (t : Nat) : ∃ s3, e.Bd z s3 ∧ Mr t s (e.hdr z ++ e.nam ++ e.ext z) (zbody s3).1 (evs (t + (29 + e.nam.length + (e.ext z).length)) (zbody s3).2) := by
 have a1 := e.hdr_run (z := z) f (t := t) h.why h.ph h.bs
 have hnl := e.nam_length
 have hxl := e.ext_length z
 have hx0 : 5 ≤ (e.ext z).length ∧ (e.ext z).length ≤ 25 := by rw [hxl]; split <;> decide
 have c1 : ¬ (256 < (e.zh z s).nl ∨ 1024 < (e.zh z s).xl) := by
  show ¬ (256 < e.nam.length ∨ 1024 < (e.ext z).length)
  omega
 by_cases hn : e.nam = []
 ·have en : zname (e.zh z s) = zrec (e.zh z s) := by
   unfold zname
   rw [if_neg c1, if_pos (show (e.zh z s).nl = 0 from by show e.nam.length = 0; rw [hn]; rfl)]
  rw [en] at a1
  obtain ⟨b1, s3, b2, b3⟩ := e.ext_run f (e.zh_at z s h.why hn) (t + 30)
  rw [b1] at a1
  refine ⟨s3, b2, ?_⟩
  rw [hn, List.append_nil]
  have a2 := a1.seq (m := e.ext z) (t := t) (by rw [e.hdr_length z]; exact b3)
  rw [show t + 30 + ((e.ext z).length - 1) = t + (29 + ([] : List Nat).length + (e.ext z).length) by simp; omega] at a2
  exact a2
 ·have hn0 : e.nam.length ≠ 0 := fun q => hn (List.eq_nil_of_length_eq_zero q)
  have en : zname (e.zh z s) = ({ e.zh z s with ph := 3, k := 0, mn := e.nam.length }, []) := by
   unfold zname
   rw [if_neg c1, if_neg (show ¬ (e.zh z s).nl = 0 from hn0)]
   rfl
  rw [en] at a1
  have a2 := tak_all (l := e.nam) (t := t + 30) (s := { e.zh z s with ph := 3, k := 0, mn := e.nam.length }) h.why rfl (by show 1 ≤ e.nam.length; omega) rfl
  obtain ⟨s4, hs4⟩ : ∃ s4 : Zs, { e.zh z s with ph := 3, k := 0, nm := e.nam, mn := 0 } = s4 := ⟨_, rfl⟩
  have a3 : Mr (t + 30) { e.zh z s with ph := 3, k := 0, mn := e.nam.length } e.nam (zrec s4).1 (evs (t + 30 + (e.nam.length - 1)) (zrec s4).2) := by
   rw [← hs4]
   exact a2
  have h4 : e.At (e.siz z.length) (e.siz e.da.length) (e.ext z).length false s4 := by
   rw [← hs4]
   exact ⟨h.why, rfl, rfl, rfl, rfl, rfl, rfl, rfl, rfl, rfl, rfl, rfl⟩
  obtain ⟨b1, s3, b2, b3⟩ := e.ext_run f h4 (t + 30 + e.nam.length)
  rw [b1] at a3
  refine ⟨s3, b2, ?_⟩
  have a4 : Mr t s (e.hdr z ++ e.nam) (zrec s4).1 [] := a1.seq (by rw [e.hdr_length z]; exact a3)
  have a5 := a4.seq (m := e.ext z) (t := t) (by rw [List.length_append, e.hdr_length z, ← Nat.add_assoc]; exact b3)
  rw [show t + 30 + e.nam.length + ((e.ext z).length - 1) = t + (29 + e.nam.length + (e.ext z).length) by omega] at a5
  exact a5
theorem Ent.Bd.stor (h : e.Bd z s) (ht : e.tol = true) (hd : e.dfl = false) (hz : z = e.da) (t : Nat) : ∃ s1 T, Pz s1 ∧ Mr (t + 1) (zbody s).1 z s1 T ∧ evs t (zbody s).2 ++ T = evs t [(256, e.nam)] ++ byts (t + 1) e.da ++ evs (t + e.da.length) [(257, [])] := by
 have hb : e.beh = false := by
  unfold Ent.dfl at hd
  simp at hd
  exact hd.2
 have a := h.at_
 have hf : s.fl = 0 := by rw [a.fl]; unfold Ent.flg; rw [hb, ht]; rfl
 have hm : s.me = 0 := by rw [a.me]; unfold Ent.met; rw [hd]; rfl
 have h1 : zbeh s = false := by unfold zbeh; rw [hf]; rfl
 have h2 : zunr s = false := by unfold zunr; rw [hf, hm]; simp
 have hp : s.pk = e.da.length := by rw [a.pk, hb, hz]; simp
 have hs : s.sz = e.da.length := by rw [a.sz, hb]; simp
 have hsu : s.su = sm 0 e.da := by rw [a.su, hb]; simp [Ent.sum]
 have eb : zbody s = zopen s := by
  unfold zbody
  rw [h1, h2]
  simp [hm, hp, hs]
 have hsg := a.sg
 have htk := a.tk
 have hgv := a.gv
 have hnm := a.nm
 rw [eb]
 subst hz
 by_cases h0 : e.da = []
 ·have el : e.da.length = 0 := by rw [h0]; rfl
  have eo : zopen s = (zplace { s with ph := 4 }, [(256, e.nam), (257, [])]) := by
   unfold zopen zbegin
   rw [if_pos hm, if_pos (by omega)]
   have ee : zend { s with ph := 4 } = (zplace { s with ph := 4 }, [(257, [])]) := by
    unfold zend
    rw [if_pos ⟨by show s.tk = s.pk; omega, by show s.gv = s.sz; omega⟩, if_pos (by show s.su = s.sg; rw [hsu, hsg, h0]; rfl)]
   rw [ee, hnm]
  rw [eo, h0]
  exact ⟨zplace { s with ph := 4 }, [], ⟨a.why, rfl, rfl⟩, ⟨rfl, rfl⟩, rfl⟩
 ·have el : e.da.length ≠ 0 := fun q => h0 (List.eq_nil_of_length_eq_zero q)
  have eo : zopen s = ({ s with ph := 4 }, [(256, e.nam)]) := by
   unfold zopen zbegin
   rw [if_pos hm, if_neg (by omega), hnm]
  rw [eo]
  have k := sto_all (l := e.da) (t := t + 1) (s := { s with ph := 4 }) a.why rfl h0 (by show s.tk + e.da.length = s.pk; omega)
  have ee : zend (zgvs e.da { s with ph := 4 }) = (zplace (zgvs e.da { s with ph := 4 }), [(257, [])]) := by
   unfold zend
   rw [if_pos ⟨by show s.tk + e.da.length = s.pk; omega, by show s.gv + e.da.length = s.sz; omega⟩, if_pos (by show s.su = sm s.sg e.da; rw [hsu, hsg])]
  rw [ee] at k
  refine ⟨zplace (zgvs e.da { s with ph := 4 }), _, ⟨a.why, rfl, rfl⟩, k, ?_⟩
  rw [show t + 1 + (e.da.length - 1) = t + e.da.length by omega, List.append_assoc]
end
end Go.Proofs.YtpihipbeagpgpaaGreatDoor

/-
 The machine over deflated bytes, up to the last. No walk.
-/
namespace Go.Proofs.YtpihipbeagpgpaaGreatDoor
open Go.RowKit
set_option linter.unusedVariables false
def zat (s : Zs) (I : List Nat) (y : Cfg) : Zs := { s with ip := I, y := y, sg := sm 0 y.out, gv := y.out.length, tk := I.length }
structure Dz (s : Zs) : Prop where
 why : s.why = 0
 ph : s.ph = 5
 ip : s.ip = []
 y : s.y = c0
 sg : s.sg = 0
 gv : s.gv = 0
 tk : s.tk = 0
theorem Dz.at_ {s : Zs} (h : Dz s) : zat s [] c0 = s := by
 obtain ⟨h1, h2, h3, h4, h5, h6, h7⟩ := h
 cases s
 simp only at h1 h2 h3 h4 h5 h6 h7
 subst h1 h2 h3 h4 h5 h6 h7
 rfl
theorem zask_open {s : Zs} {y : Cfg} {I : List Nat} (ho : ¬ Over y) (hp : zbeh s = true ∨ I.length ≠ s.pk) : zask (zat s I y) = (zat s I y, []) := by
 obtain ⟨a1, a2, a3⟩ := open_c3 ho
 unfold zask
 rw [if_neg (by show ¬ badC y ≠ 0; rw [a2]; simp), if_neg (by show ¬ endC y = true; rw [a1]; simp), if_neg]
 rintro ⟨q1, q2⟩
 rcases hp with h | h
 ·have : zbeh s = false := q1
  rw [h] at this; cases this
 ·exact h q2
theorem zat_dat (s : Zs) (I : List Nat) (x : Nat) (y y' : Cfg) : zdat (zat s I y) x y' = zat s (I ++ [x]) y' := by
 unfold zdat zat
 simp
theorem zdat_run {s : Zs} (h : Dz s) (D : List Nat) (t : Nat) (hp : zbeh s = true ∨ D.length = s.pk) : ∀ (k : Nat), k < D.length → (∀ j, j ≤ k → ∀ y, Stands (D.take j) MM y → ¬ Over y) → ∃ y T, Stands (D.take k) MM y ∧ Mr t s (D.take k) (zat s (D.take k) y) T ∧ evx T = y.out.map fun b => (b, [])
 | 0, hk, hn => ⟨c0, [], by rw [List.take_zero]; exact stands_nil MM, by rw [List.take_zero, h.at_]; exact ⟨rfl, rfl⟩, rfl⟩
 | k + 1, hk, hn => by
  obtain ⟨y, T, h1, h2, h3⟩ := zdat_run h D t hp k (by omega) (fun j hj => hn j (by omega))
  have hkl : k < D.length := by omega
  have et : D.take (k + 1) = D.take k ++ [D[k]] := List.take_succ_eq_append_getElem hkl
  obtain ⟨y', h4⟩ := stands_ex (D.take (k + 1)) MM
  have hno := hn (k + 1) (Nat.le_refl _) y' h4
  have h5 := h4
  rw [et] at h5
  obtain ⟨o, q1, _, _⟩ := h1.next h5
  have ea : zask (zdat (zat s (D.take k) y) D[k] y') = (zat s (D.take (k + 1)) y', []) := by
   rw [zat_dat, ← et]
   refine zask_open hno ?_
   rcases hp with q | q
   ·exact Or.inl q
   ·refine Or.inr ?_
    rw [List.length_take]
    omega
  have sp : Sp (zat s (D.take k) y) D[k] (zat s (D.take (k + 1)) y') (o.map fun b => (b, [])) := by
   refine Or.inl ⟨h.ph, y', h5, by rw [ea], ?_⟩
   rw [ea]
   show _ = List.map _ (y'.out.drop y.out.length) ++ []
   rw [q1, List.drop_left, List.append_nil]
  have m1 := mr_one (t := t + (D.take k).length) (x := D[k]) (show (zat s (D.take k) y).why = 0 from h.why) sp
  refine ⟨y', T ++ evs (t + (D.take k).length) (o.map fun b => (b, [])), h4, ?_, ?_⟩
  ·rw [et] at m1 ⊢
   exact h2.seq2 m1
  ·rw [evx_append, evx_evs, h3, q1, List.map_append]
end Go.Proofs.YtpihipbeagpgpaaGreatDoor

/-
 The machine over deflated bytes with sum and sizes behind them. No walk.
-/
namespace Go.Proofs.YtpihipbeagpgpaaGreatDoor
open Go.RowKit
set_option linter.unusedVariables false
section
variable {e : Ent} {z : List Nat} {s : Zs}
theorem Ent.Bd.dsc (f : e.Fit z) (h : e.Bd z s) (ht : e.tol = true) (hb : e.beh = true) (hw : e.wid = false) (hk : e.mrk = false) (hz : Holds MM z e.da) (hs : e.sum ≠ 134695760) (t : Nat) :
  ∃ s1 T, Pz s1 ∧ Mr (t + 1) (zbody s).1 (z ++ e.tal z) s1 T ∧ evx (evs t (zbody s).2 ++ T) = [(256, e.nam)] ++ e.da.map (fun b => (b, [])) ++ [(257, [])] := by
 have a := h.at_
 have hf : s.fl = 8 := by rw [a.fl]; unfold Ent.flg; rw [hb]; rfl
 have hd : e.dfl = true := by unfold Ent.dfl; rw [hb]; simp
 have hm : s.me = 8 := by rw [a.me]; unfold Ent.met; rw [hd]; rfl
 have h1 : zbeh s = true := by unfold zbeh; rw [hf]; rfl
 have h2 : zunr s = false := by unfold zunr; rw [hf, hm]; simp
 obtain ⟨s5, hs5⟩ : ∃ s5 : Zs, { s with ph := 5, ip := [], y := c0 } = s5 := ⟨_, rfl⟩
 have e1 : zbody s = zopen s := by
  unfold zbody
  rw [h1, h2, hm, if_neg (by rintro ⟨_, z | z⟩ <;> cases z), if_neg (by decide), if_neg (by rintro ⟨z, _⟩; cases z)]
 have e2 : zbegin s = (s5, []) := by
  unfold zbegin
  rw [if_neg (by rw [hm]; decide), h1, if_neg (by rintro ⟨z, _⟩; cases z), hs5]
 have eb : zbody s = (s5, [(256, e.nam)]) := by
  rw [e1]
  unfold zopen
  rw [e2, a.nm]
 have hz5 : Dz s5 := by rw [← hs5]; exact ⟨a.why, rfl, rfl, rfl, a.sg, a.gv, a.tk⟩
 have hb5 : zbeh s5 = true := by rw [← hs5]; exact h1
 have hw5 : s5.wd = false := by rw [← hs5]; exact a.wd.trans hw
 obtain ⟨c, c1, c2, c3, c4, _⟩ := hz.stands []
 have hzl : 0 < z.length := by omega
 obtain ⟨k, hkl⟩ : ∃ k, k + 1 = z.length := ⟨z.length - 1, by omega⟩
 have hno : ∀ j, j ≤ k → ∀ y, Stands (z.take j) MM y → ¬ Over y := fun j hj y hy ho => by
  obtain ⟨_, q2, q3⟩ := hz.cut (k := j) (by omega) hy
  rcases ho with o | ⟨b, o⟩
  ·exact q2 o
  ·exact q3 b o
 obtain ⟨y, T1, k1, k2, k3⟩ := zdat_run hz5 z (t + 1) (Or.inl hb5) k (by omega) hno
 rw [List.append_nil] at c1
 have et : z = z.take k ++ [z[k]] := by
  have := List.take_succ_eq_append_getElem (l := z) (i := k) (by omega)
  rw [List.take_of_length_le (by omega)] at this
  exact this
 have c5 := c1
 rw [et] at c5
 obtain ⟨o, q1, _, _⟩ := k1.next c5
 obtain ⟨d1, d2, _⟩ := done_c3 c2
 obtain ⟨s6, hs6⟩ : ∃ s6 : Zs, { zat s5 z c with ph := 2, k := 3, fs := [(4, 3)], bs := [] } = s6 := ⟨_, rfl⟩
 have ea : zask (zdat (zat s5 (z.take k) y) z[k] c) = (s6, []) := by
  rw [zat_dat, ← et]
  unfold zask
  rw [if_neg (by show ¬ badC c ≠ 0; rw [d2]; simp), if_pos (show endC (zat s5 z c).y = true from d1), if_pos (show zbeh (zat s5 z c) = true from hb5), hs6]
 have sp : Sp (zat s5 (z.take k) y) z[k] s6 (o.map fun b => (b, [])) := by
  refine Or.inl ⟨hz5.ph, c, c5, by rw [ea], ?_⟩
  rw [ea]
  show _ = List.map _ (c.out.drop y.out.length) ++ []
  rw [q1, List.drop_left, List.append_nil]
 have m1 := mr_one (t := t + 1 + (z.take k).length) (x := z[k]) (show (zat s5 (z.take k) y).why = 0 from hz5.why) sp
 have m2 : Mr (t + 1) s5 z s6 (T1 ++ evs (t + 1 + (z.take k).length) (o.map fun b => (b, []))) := by
  have := k2.seq2 m1
  rw [← et] at this
  exact this
 -- the sum
 have p4 : (256 : Nat) ^ 4 = 4294967296 := by decide
 have hsl := e.sum_lt f.od
 have w6 : s6.why = 0 := by rw [← hs6]; exact hz5.why
 have f6 : s6.fs = [(4, 3)] := by rw [← hs6]
 have g1 := gat_all [(4, 3)] (nbs 4 e.sum) (t + 1 + z.length) s6 w6 (by rw [← hs6]) f6 (by rw [← hs6]) (by simp) (by simp) (by simp [nbs_length, tot])
 have z1 : zfill [(4, 3)] (nbs 4 e.sum) s6 = { s6 with fs := [], bs := [], su := e.sum } := by
  have := zfill_cons 4 3 e.sum [] [] s6 (by omega)
  rw [List.append_nil] at this
  rw [this]
  rfl
 obtain ⟨s7, hs7⟩ : ∃ s7 : Zs, { s6 with su := e.sum, ph := 2, k := 5, fs := [(4, 4), (4, 5)], bs := [] } = s7 := ⟨_, rfl⟩
 have z2 : zthen { s6 with fs := [], bs := [], su := e.sum } = (s7, []) := by
  have hk6 : s6.k = 3 := by rw [← hs6]
  have hsg : s6.sg = e.sum := by rw [← hs6]; show sm 0 c.out = _; rw [c3]; rfl
  have hwd : s6.wd = false := by rw [← hs6]; exact hw5
  have e1 : zthen { s6 with fs := [], bs := [], su := e.sum } = zsum1 { s6 with fs := [], bs := [], su := e.sum } := by
   have hk : ({ s6 with fs := [], bs := [], su := e.sum } : Zs).k = 3 := hk6
   obtain ⟨q, hq⟩ : ∃ q : Zs, { s6 with fs := [], bs := [], su := e.sum } = q := ⟨_, rfl⟩
   rw [hq] at hk ⊢
   unfold zthen
   rw [hk]
   rfl
  rw [e1]
  unfold zsum1
  rw [if_neg (show ¬ e.sum = 134695760 from hs)]
  unfold zboth
  rw [if_pos (show e.sum = s6.sg from hsg.symm), if_neg (show ¬ s6.wd = true by rw [hwd]; simp), hs7]
 rw [z1, z2] at g1
 -- the sizes
 have w7 : s7.why = 0 := by rw [← hs7]; exact w6
 have l1 := f.l1
 have l2 := f.l2
 unfold U32 at l1 l2
 have g2 := gat_all [(4, 4), (4, 5)] (nbs 4 z.length ++ nbs 4 e.da.length) (t + 1 + z.length + 4) s7 w7 (by rw [← hs7]) (by rw [← hs7]) (by rw [← hs7]) (by simp) (by simp) (by simp [nbs_length, tot])
 have z3 : zfill [(4, 4), (4, 5)] (nbs 4 z.length ++ nbs 4 e.da.length) s7 = { s7 with fs := [], bs := [], pk := z.length, sz := e.da.length } := by
  rw [zfill_cons 4 4 z.length _ _ s7 (by omega)]
  have := zfill_cons 4 5 e.da.length [] [] (zset 4 z.length { s7 with fs := [(4, 5)], bs := [] }) (by omega)
  rw [List.append_nil] at this
  rw [this]
  rfl
 have z4 : zthen { s7 with fs := [], bs := [], pk := z.length, sz := e.da.length } = (zplace { s7 with fs := [], bs := [], pk := z.length, sz := e.da.length }, [(257, [])]) := by
  have hk7 : s7.k = 5 := by rw [← hs7]
  have hsg : s7.sg = e.sum := by rw [← hs7, ← hs6]; show sm 0 c.out = _; rw [c3]; rfl
  have hsu : s7.su = e.sum := by rw [← hs7]
  have htk : s7.tk = z.length := by rw [← hs7, ← hs6]; rfl
  have hgv : s7.gv = e.da.length := by rw [← hs7, ← hs6]; show c.out.length = _; rw [c3]
  have e1 : zthen { s7 with fs := [], bs := [], pk := z.length, sz := e.da.length } = zend { s7 with fs := [], bs := [], pk := z.length, sz := e.da.length } := by
   have hk : ({ s7 with fs := [], bs := [], pk := z.length, sz := e.da.length } : Zs).k = 5 := hk7
   obtain ⟨q, hq⟩ : ∃ q : Zs, { s7 with fs := [], bs := [], pk := z.length, sz := e.da.length } = q := ⟨_, rfl⟩
   rw [hq] at hk ⊢
   unfold zthen
   rw [hk]
   rfl
  rw [e1]
  unfold zend
  rw [if_pos ⟨show s7.tk = z.length from htk, show s7.gv = e.da.length from hgv⟩, if_pos (show s7.su = s7.sg by rw [hsu, hsg])]
 rw [z3, z4] at g2
 have et2 : e.tal z = nbs 4 e.sum ++ (nbs 4 z.length ++ nbs 4 e.da.length) := by
  unfold Ent.tal
  rw [if_pos hb, hk, hw]
  simp
 have mr := m2.seq2 (g1.seq2 (by rw [nbs_length]; exact g2))
 have fin : ∀ s1 T, Mr (t + 1) s5 (z ++ (nbs 4 e.sum ++ (nbs 4 z.length ++ nbs 4 e.da.length))) s1 T → Pz s1 → evx T = e.da.map (fun b => (b, [])) ++ [(257, [])] → ∃ s1 T, Pz s1 ∧ Mr (t + 1) (zbody s).1 (z ++ e.tal z) s1 T ∧ evx (evs t (zbody s).2 ++ T) = [(256, e.nam)] ++ e.da.map (fun b => (b, [])) ++ [(257, [])] := fun s1 T m p q => by
  refine ⟨s1, T, p, by rw [eb, et2]; exact m, ?_⟩
  rw [eb, evx_append, evx_evs, q]
  simp
 refine fin _ _ mr ⟨w7, rfl, rfl⟩ ?_
 simp only [evx_append, evx_evs, k3, List.nil_append]
 rw [← c3, q1]
 simp
end
end Go.Proofs.YtpihipbeagpgpaaGreatDoor

/-
 A string's bytes behind an own list of bytes.
-/
namespace Go.Proofs.YtpihipbeagpgpaaGreatDoor
open Go.RowKit
set_option linter.unusedVariables false
theorem strCells_st {m : List Nat} (hm : Oct m) : Lib.strCells (st m) = ob m := by
 unfold Lib.strCells ob
 have e : (st m).data.toList = m.map UInt8.ofNat := rfl
 rw [e, List.map_map]
 refine List.map_congr_left fun x hx => ?_
 have := hm x hx
 simp
 omega
theorem own_string (P : Program) (w : World) (t u ty : TypeId) (i : TypeInfo) (ht : P.underlying t = some (.slice 5)) (hu : P.underlying u = some .string) (hi : P.info? 5 = some i) (hz0 : i.zero = some (.int .u8 0)) (hz1 : i.size = 1) (hz2 : i.bytes = 1)
  (lo : Nat) (v : Value) (n : Nat) (l : List Nat) (hown : Ow w lo 5 1 v n (ob l)) (m : List Nat) (M : Nat) (s : ByteArray) (hs : s = st m) (hM : m.length = M) (hm : Oct m) (hlen : n + M ≤ 140737488355328) :
  ∃ va c w', (Builtin.append_ #[t, u] ty #[v, .string s]).run P w = .ok (.slice va (n + M) c) w' ∧ Got lo 5 1 w w' v (.slice va (n + M) c) (n + M) (ob (l ++ m)) := by
 subst hs
 subst hM
 obtain ⟨v', w', hr, h2, h3, h4⟩ := Lib.run_append_own_string (P := P) w lo t u ty 5 i ht hu hi hz0 hz1 hz2 v n _ hown.own (st m) (by rw [st_size]; unfold maxLen; omega) (by rw [st_size]; omega) hown.le
 rw [st_size, strCells_st hm] at h2
 have hg := Got.mk' hown h2 h3
 rw [ob_append] at hg
 obtain ⟨a', c', hv, _⟩ := hg.ow.shape
 subst hv
 exact ⟨a', c', w', hr, hg⟩
section
variable (P : Program) (w : World) {o : Oper} {a : Act}
theorem wpList_ows {ops : Array Oper} {rest : List Oper} {Q : Exit → Act → World → Prop} (hgd : o.guard = none) (s x : Operand) (t u : TypeId)
  (ho : o.op = .call { callee := .builtin .append, args := #[s, x], argTypes := #[t, u] }) (i : TypeInfo) (ht : P.underlying t = some (.slice 5)) (hu : P.underlying u = some .string) (hi : P.info? 5 = some i) (hz0 : i.zero = some (.int .u8 0)) (hz1 : i.size = 1) (hz2 : i.bytes = 1)
  (lo : Nat) (v : Value) (n : Nat) (l : List Nat) (hs : a.eval s = v) (hown : Ow w lo 5 1 v n (ob l)) (m : List Nat) (M : Nat) (S : ByteArray) (hS : S = st m) (hM : m.length = M) (hm : Oct m) (hx : a.eval x = .string S) (hlen : n + M ≤ 140737488355328)
  (h : ∀ va c w', Got lo 5 1 w w' v (.slice va (n + M) c) (n + M) (ob (l ++ m)) → wpList P ops Q rest (a.put o.dst (.slice va (n + M) c)) w') : wpList P ops Q (o :: rest) a w := by
 obtain ⟨va, c, w', hr, hg⟩ := own_string P w t u o.type i ht hu hi hz0 hz1 hz2 lo v n l hown m M S hS hM hm hlen
 refine wpList_plain hgd fun K hK => ?_
 unfold Oper.wp execOp
 simp only [ho, resolve, invoke, builtin, Sem.run_bind, Sem.run_pure, Result.andThen_ok, List.map_toArray, List.map_cons, List.map_nil, hs, hx, hr]
 exact hK _ _ (h va c w' hg)
end
end Go.Proofs.YtpihipbeagpgpaaGreatDoor

/-
 What the document's one comes to, at what awake asks of it.
-/
namespace Go.Proofs.YtpihipbeagpgpaaGreatDoor
open Go.RowKit
set_option linter.unusedVariables false
theorem lies_oc {w : World} {a : Option Addr} {l : List Nat} (h : Lies w a l) : ob l = [] ∨ ∃ b o, a = some ⟨b, o, none⟩ ∧ ∀ i u, (ob l)[i]? = some u → w.cell? ⟨b, o + i, none⟩ = some u := by
 rcases h with rfl | ⟨b, o, ha, hc⟩
 ·exact Or.inl rfl
 ·refine Or.inr ⟨b, o, ha, fun i u hu => ?_⟩
  rw [ob_get] at hu
  cases hx : l[i]? with
  | none => rw [hx] at hu; simp at hu
  | some x => rw [hx] at hu; simp at hu; rw [← hu]; exact hc i x hx
theorem ow_nil {w : World} {lo n c : Nat} {a : Option Addr} {l : List Value} (h : Ow w lo 5 1 (.slice a n c) n l) : a = none → n = 0 ∧ c = 0 := by
 obtain ⟨a2, c2, hv, _, _, hz⟩ := h.shape
 cases hv
 exact hz
section
variable {lo H1 : Nat} {cs : Array Value} {w u u' : World} {v v' : Value} {n n' : Nat} {out : List Nat}
structure Zwt (lo H1 : Nat) (cs : Array Value) (w u : World) (v : Value) (n : Nat) (out : List Nat) : Prop where
 ow : Ow u lo 5 1 v n (ob out)
 bel : Below lo w u
 cel : Cells u H1 cs 57
theorem Zwt.step (h : Zwt lo H1 cs w u v n out) (k : Below u.heap.size u u') : Zwt lo H1 cs w u' v n out := ⟨h.ow.below k (Nat.le_refl _), h.bel.trans (k.mono h.ow.le), h.cel.below k h.cel.lt⟩
theorem Zwt.app {m : List Nat} (h : Zwt lo H1 cs w u v n out) (g : Got lo 5 1 u u' v v' n' (ob out ++ ob m)) : Zwt lo H1 cs w u' v' n' (out ++ m) := ⟨by rw [← ob_append]; exact g.ow, h.bel.trans g.bel, Cells.got h.cel g (by decide)⟩
structure Exl (u : World) (v : Value) (a : Option Addr) (n c : Nat) (l : List Nat) : Prop where
 li : Lies u a l
 ap : ∀ g o, a = some ⟨g, o, none⟩ → l ≠ [] → some g ≠ v.ownBlock
 len : l.length = n
 nil : a = none → n = 0 ∧ c = 0
theorem Exl.app {a : Option Addr} {m c : Nat} {l : List Nat} {xs : List Value} (h : Exl u v a m c l) (g : Got lo 5 1 u u' v v' n' xs) : Lies u' a l := by
 rcases h.li with e | ⟨b, o, ha, hc⟩
 ·exact Or.inl e
 ·refine Or.inr ⟨b, o, ha, fun i x hx => ?_⟩
  have hne : l ≠ [] := by intro e; rw [e] at hx; simp at hx
  have hq := hc i x hx
  have hl := World.block_lt_of_cell? u _ hq
  rw [← hq]
  unfold World.cell?
  rw [g.kb b hl (h.ap b o ha hne)]
theorem Zwt.fresh {a : Option Addr} {m c : Nat} {l : List Nat} (h : Zwt lo H1 cs w u v n out) (k : Ow u' u.heap.size 5 1 (.slice a m c) m (ob l)) (hl : l.length = m) : Exl u' v a m c l := by
 obtain ⟨a2, c2, hv, _, _, hlies, _⟩ := k.lies
 cases hv
 refine ⟨hlies, fun g o ha hne e => ?_, hl, ow_nil k⟩
 obtain ⟨a3, c3, hv3, _, h0 | ⟨g3, hg3, hlo, _⟩, _⟩ := k.shape
 ·exact hne (List.eq_nil_of_length_eq_zero (by omega))
 ·cases hv3
  rw [ha] at hg3
  cases hg3
  have := (h.ow.lt_block e.symm).2
  omega
theorem ow_lit (l : List Nat) (hn : l ≠ []) (W : World) (lo2 : Nat) (hlo : lo2 ≤ W.heap.size) (hb : l.length ≤ 1000) : Ow (W.alloc (.cells (ob l).toArray 5)) lo2 5 1 (.slice (some ⟨W.heap.size, 0, none⟩) l.length l.length) l.length (ob l) :=
 ⟨⟨by simp [ob_length], Or.inr ⟨W.heap.size, l.length, (ob l).toArray, rfl, hlo, heap_alloc_new W _, Nat.le_refl _, by unfold maxLen; omega, by simp [ob_length], by simp [ob_length, List.take_of_length_le]⟩⟩, by show _ ≤ (W.heap.push _).size; simp; omega⟩
end
theorem Zwt.old {lo H1 : Nat} {cs : Array Value} {w u : World} {v : Value} {n m c : Nat} {out l : List Nat} {a : Option Addr} (h : Zwt lo H1 cs w u v n out) (hlo : w.heap.size = lo) (hl : Lies w a l) (hm : l.length = m) (hz : a = none → m = 0 ∧ c = 0) : Exl u v a m c l := by
 refine ⟨?_, fun g o ha hne e => ?_, hm, hz⟩
 ·rw [← hlo] at h
  exact hl.below h.bel
 ·have h1 := (h.ow.lt_block e.symm).1
  rcases hl with q | ⟨g2, o2, q, hc⟩
  ·exact hne q
  ·rw [ha] at q
   cases q
   obtain ⟨x, t, rfl⟩ := List.exists_cons_of_ne_nil hne
   have := World.block_lt_of_cell? w _ (hc 0 x rfl)
   have h2 : g < w.heap.size := this
   omega
theorem Ow.lower {w : World} {lo lo2 sz n : Nat} {e : TypeId} {v : Value} {l : List Value} (h : Ow w lo2 e sz v n l) (k : lo ≤ lo2) : Ow w lo e sz v n l := by
 refine ⟨⟨h.own.1, ?_⟩, Nat.le_trans k h.le⟩
 rcases h.own.2 with q | ⟨g, c, cur, hv, hg, q⟩
 ·exact Or.inl q
 ·exact Or.inr ⟨g, c, cur, hv, Nat.le_trans k hg, q⟩
theorem Zwt.lit {lo H1 : Nat} {cs : Array Value} {w u : World} {v : Value} {n : Nat} {out : List Nat} (R : Zwt lo H1 cs w u v n out) (l : List Nat) (hn : l ≠ []) (hb : l.length ≤ 1000) : Zwt lo H1 cs w (u.alloc (.cells (ob l).toArray 5)) v n out ∧ Exl (u.alloc (.cells (ob l).toArray 5)) v (some ⟨u.heap.size, 0, none⟩) l.length l.length l := by
 have hb1 : Below u.heap.size u (u.alloc (.cells (ob l).toArray 5)) := (Below.refl _ u).alloc (Nat.le_refl _) _
 exact ⟨R.step hb1, R.fresh (ow_lit l hn u u.heap.size (Nat.le_refl _) hb) rfl⟩
theorem Zwt.l1234 {lo H1 : Nat} {cs : Array Value} {w u : World} {v : Value} {n : Nat} {out : List Nat} (R : Zwt lo H1 cs w u v n out) : Zwt lo H1 cs w (u.alloc (.cells #[.int .u8 1, .int .u8 2, .int .u8 3, .int .u8 4] 5)) v n out ∧ Exl (u.alloc (.cells #[.int .u8 1, .int .u8 2, .int .u8 3, .int .u8 4] 5)) v (some ⟨u.heap.size, 0, none⟩) 4 4 [1, 2, 3, 4] := R.lit [1, 2, 3, 4] (by decide) (by decide)
theorem Zwt.start {H1 : Nat} {cs : Array Value} {w : World} (hc : Cells w H1 cs 57) (l : List Nat) (hn : l ≠ []) (hb : l.length ≤ 1000) : Zwt w.heap.size H1 cs w (w.alloc (.cells (ob l).toArray 5)) (.slice (some ⟨w.heap.size, 0, none⟩) l.length l.length) l.length l := by
 have hb1 : Below w.heap.size w (w.alloc (.cells (ob l).toArray 5)) := (Below.refl _ w).alloc (Nat.le_refl _) _
 exact ⟨ow_lit l hn w w.heap.size (Nat.le_refl _) hb, hb1, hc.below hb1 hc.lt⟩
theorem zw_app {lo H1 : Nat} {cs : Array Value} {w u : World} {v : Value} {n : Nat} {out : List Nat} {ops : Array Oper} {rest : List Oper} {o : Oper} {act : Act} {Q : Exit → Act → World → Prop} (hgd : o.guard = none) (s x : Operand)
  (ho : o.op = .call { callee := .builtin .append, args := #[s, x], argTypes := #[22, 22] }) (hs : act.eval s = v) (hR : Zwt lo H1 cs w u v n out) (a : Option Addr) (m : List Nat) (M c : Nat) (hx : act.eval x = .slice a M c) (hE : Exl u v a M c m) (hb : n + M ≤ 1000000000)
  (h : ∀ a' c' w', Zwt lo H1 cs w w' (.slice a' (n + M) c') (n + M) (out ++ m) → (∀ a2 m2 c2 l2, Exl u v a2 m2 c2 l2 → Lies w' a2 l2) → wpList Tryz.prog ops Q rest (act.put o.dst (.slice a' (n + M) c')) w') : wpList Tryz.prog ops Q (o :: rest) act u := by
 obtain ⟨i0, hii, hz0, hz1, hz2⟩ := ginfo_parts ginfo5
 refine wpList_ow Tryz.prog _ hgd s x 22 ho 5 i0 _ 1 1 Tryz.underlying22 hii hz0 hz1 hz2 rfl (by decide) lo v n _ hs hR.ow a (ob m) M c (by rw [ob_length, hE.len, Nat.mul_one]) hx hE.nil (lies_oc hE.li) ob_one (by unfold maxLen; omega) (by omega) fun v8 w8 g => ?_
 obtain ⟨a8, c8, hv8, _⟩ := g.ow.shape
 subst hv8
 exact h a8 c8 w8 (hR.app g) fun a2 m2 c2 l2 e => e.app g
theorem zw_str {lo H1 : Nat} {cs : Array Value} {w u : World} {v : Value} {n : Nat} {out : List Nat} {ops : Array Oper} {rest : List Oper} {o : Oper} {act : Act} {Q : Exit → Act → World → Prop} (hgd : o.guard = none) (s x : Operand)
  (ho : o.op = .call { callee := .builtin .append, args := #[s, x], argTypes := #[22, 9] }) (hs : act.eval s = v) (hR : Zwt lo H1 cs w u v n out) (m : List Nat) (M : Nat) (S : ByteArray) (hS : S = st m) (hM : m.length = M) (hm : Oct m) (hx : act.eval x = .string S) (hb : n + M ≤ 1000000000)
  (h : ∀ a' c' w', Zwt lo H1 cs w w' (.slice a' (n + M) c') (n + M) (out ++ m) → (∀ a2 m2 c2 l2, Exl u v a2 m2 c2 l2 → Lies w' a2 l2) → wpList Tryz.prog ops Q rest (act.put o.dst (.slice a' (n + M) c')) w') : wpList Tryz.prog ops Q (o :: rest) act u := by
 obtain ⟨i0, hii, hz0, hz1, hz2⟩ := ginfo_parts ginfo5
 refine wpList_ows Tryz.prog _ hgd s x 22 9 ho i0 Tryz.underlying22 Tryz.underlying9 hii hz0 hz1 hz2 lo v n out hs hR.ow m M S hS hM hm hx (by omega) fun a8 c8 w8 g => ?_
 rw [← ob_append] at g
 exact h a8 c8 w8 (hR.app g) fun a2 m2 c2 l2 e => e.app g
end Go.Proofs.YtpihipbeagpgpaaGreatDoor

/-
 What the document's one comes to, at the stored entry of awake.
-/
namespace Go.Proofs.YtpihipbeagpgpaaGreatDoor
open Go.RowKit
set_option linter.unusedVariables false
def enA : Ent := ⟨[97], [97, 98, 99], [], 0⟩
set_option maxRecDepth 100000 in
set_option maxHeartbeats 8000000 in
theorem oneA_c (w : World) (hct : Ctab w) (h9 : 9 ≤ w.heap.size) (g : Nat) (hli : Lies w (some ⟨g, 0, none⟩) [97, 98, 99]) : Calls Tryz.prog 33 #[.agg #[.string ⟨#[97]⟩, .slice (some ⟨g, 0, none⟩) 3 3, .slice none 0 0, .int .u8 0]] w fun e w' => Oa (Ent.one enA [97, 98, 99]) 39 w e w' := by
 obtain ⟨H, hH⟩ : ∃ H, w.heap.size = H := ⟨_, rfl⟩
 obtain ⟨w1, hw1⟩ : ∃ w1, w.alloc (.cells #[.string ⟨#[97]⟩, .slice (some ⟨g, 0, none⟩) 3 3, .slice none 0 0, .int .u8 0] 57) = w1 := ⟨_, rfl⟩
 have kH : Cells w1 H #[.string ⟨#[97]⟩, .slice (some ⟨g, 0, none⟩) 3 3, .slice none 0 0, .int .u8 0] 57 := by rw [← hw1, ← hH]; exact Cells.new w _ 57
 have b1 : Below H w w1 := by rw [← hw1, ← hH]; exact (Below.refl _ w).alloc (Nat.le_refl _) _
 have d0 : w1.cell? ⟨H, 0, none⟩ = some (.string ⟨#[97]⟩) := (kH.cell 0).trans rfl
 have d1 : w1.cell? ⟨H, 1, none⟩ = some (.slice (some ⟨g, 0, none⟩) 3 3) := (kH.cell 1).trans rfl
 have d2 : w1.cell? ⟨H, 2, none⟩ = some (.slice none 0 0) := (kH.cell 2).trans rfl
 have d3 : w1.cell? ⟨H, 3, none⟩ = some (.int .u8 0) := (kH.cell 3).trans rfl
 have li1 : Lies w1 (some ⟨g, 0, none⟩) [97, 98, 99] := hli.below (by rw [hH]; exact b1)
 obtain ⟨su, hsu⟩ : ∃ su, sm 0 [97, 98, 99] = su := ⟨_, rfl⟩
 have hsb : su < 4294967296 := by rw [← hsu]; exact (show Oct [97, 98, 99] from oct_dec rfl).sm_lt
 have hmu : (su : Int) % 18446744073709551616 = (su : Int) := by omega
 have ksu : Calls Tryz.prog 50 #[.slice (some ⟨g, 0, none⟩) 3 3] w1 fun e w' => e = .returned (.int .u32 (su : Int)) ∧ w' = w1 := by
  have := rsum_c (some ⟨g, 0, none⟩) [97, 98, 99] 3 w1 (oct_dec rfl) (by decide) li1
  rw [hsu] at this
  exact this.mono fun e w' ⟨x, y⟩ => ⟨x, y.symm⟩
 have kt : ∀ u, Calls Tryz.prog 34 #[.agg #[.string ⟨#[97]⟩, .slice (some ⟨g, 0, none⟩) 3 3, .slice none 0 0, .int .u8 0]] u fun e w' => e = .returned (.bool true) ∧ Below u.heap.size u w' := fun u => told34_c _ _ _ 0 (by decide) u
 have A1 : Aside (w.heap.size = H ∧ Below H w w1 ∧ Cells w1 H #[.string ⟨#[97]⟩, .slice (some ⟨g, 0, none⟩) 3 3, .slice none 0 0, .int .u8 0] 57 ∧ Lies w1 (some ⟨g, 0, none⟩) [97, 98, 99]) := ⟨hH, b1, kH, li1⟩
 have A8 : Aside (w.heap.size = H ∧ sm 0 [97, 98, 99] = su) := ⟨hH, hsu⟩
 clear kH b1 li1 hli hct h9 hsu
 go_enter Tryz.func33, Tryz.ntmps33
 go_upto_region 1 with fail
 (try rw [hH])
 (try rw [hw1])
 clear hw1 hH
 go_upto_region 4 with (go_at_call 50; refine ksu.mono ?_; rintro e2 w2 ⟨rfl, h2⟩; subst h2)
 rw [show (⟨#[97]⟩ : ByteArray).extract 0 1 = ⟨#[97]⟩ from rfl]
 have AF : Aside (∀ u, Below w2.heap.size w2 u → (u.cell? ⟨H, 0, none⟩ = some (.string ⟨#[97]⟩) ∧ u.cell? ⟨H, 1, none⟩ = some (.slice (some ⟨g, 0, none⟩) 3 3) ∧ u.cell? ⟨H, 2, none⟩ = some (.slice none 0 0) ∧ u.cell? ⟨H, 3, none⟩ = some (.int .u8 0)) ∧ Cells u H #[.string ⟨#[97]⟩, .slice (some ⟨g, 0, none⟩) 3 3, .slice none 0 0, .int .u8 0] 57 ∧ Lies u (some ⟨g, 0, none⟩) [97, 98, 99] ∧ Below H w u) := fun u k => by
  obtain ⟨x1, x2, x3, x4⟩ := A1.out
  have c := x3.below k x3.lt
  exact ⟨⟨(c.cell 0).trans rfl, (c.cell 1).trans rfl, (c.cell 2).trans rfl, (c.cell 3).trans rfl⟩, c, x4.below k, x2.trans (k.mono (by have := x2.size; omega))⟩
 clear ksu
 go_upto_region 10 with (go_at_call 34; refine (kt _).mono ?_; rintro e3 w3 ⟨rfl, b3⟩; have hq := AF.out w3 b3; obtain ⟨d0, d1, d2, d3⟩ := hq.1; have AG : Aside _ := hq.2; clear AF A1 b3 hq)
 clear kt
 go_quiet (fail)
 go_upto_region 11 with fail
 generalize hw4 : World.drewN w3 _ = w4
 have AH : Aside (Cells w4 H #[.string ⟨#[97]⟩, .slice (some ⟨g, 0, none⟩) 3 3, .slice none 0 0, .int .u8 0] 57 ∧ Lies w4 (some ⟨g, 0, none⟩) [97, 98, 99] ∧ Below H w w4) := by
  rw [← hw4]
  exact ⟨AG.out.1.drewN _, AG.out.2.1.drewN _, below_drewN AG.out.2.2 _⟩
 have d0 : w4.cell? ⟨H, 0, none⟩ = some (.string ⟨#[97]⟩) := (AH.out.1.cell 0).trans rfl
 have d1 : w4.cell? ⟨H, 1, none⟩ = some (.slice (some ⟨g, 0, none⟩) 3 3) := (AH.out.1.cell 1).trans rfl
 have d2 : w4.cell? ⟨H, 2, none⟩ = some (.slice none 0 0) := (AH.out.1.cell 2).trans rfl
 have d3 : w4.cell? ⟨H, 3, none⟩ = some (.int .u8 0) := (AH.out.1.cell 3).trans rfl
 clear hw4 AG
 refine wp_region_held_drew (S := fun u => u.cell? ⟨H, 3, none⟩ = some (.int .u8 0)) (by kernel_rfl) d3 (fun hHeld => ?_)
 refine wpAnyH_take (i := 6) (oi := ⟨_, _, _, _, _, _⟩) (v := ?_) rfl (by kernel_rfl) (by kernel_rfl) (by kernel_rfl) (fun _ _ _ h => h) (Or.inl ⟨by rfl, ?_⟩) hHeld ?_
 rotate_left
 ·(intro w9 hSw; (try dsimp only at hSw); go_simp; try (with_reducible rfl))
 try simp only [Act.put, List.setIfInBounds_toArray, List.set_cons_zero, List.set_cons_succ]
 refine wpAnyH_take (i := 0) (oi := ⟨_, _, _, _, _, _⟩) (v := ?_) rfl (by kernel_rfl) (by kernel_rfl) (by kernel_rfl) (fun _ _ _ h => h) (Or.inl ⟨by rfl, ?_⟩) hHeld ?_
 rotate_left
 ·(intro w9 hSw; (try dsimp only at hSw); go_simp; try (with_reducible rfl))
 try simp only [Act.put, List.setIfInBounds_toArray, List.set_cons_zero, List.set_cons_succ]
 refine wpAnyH_take (i := 1) (oi := ⟨_, _, _, _, _, _⟩) (v := ?_) rfl (by kernel_rfl) (by kernel_rfl) (by kernel_rfl) (fun _ _ _ h => h) (Or.inl ⟨by rfl, ?_⟩) hHeld ?_
 rotate_left
 ·(intro w9 hSw; (try dsimp only at hSw); go_simp; try (with_reducible rfl))
 try simp only [Act.put, List.setIfInBounds_toArray, List.set_cons_zero, List.set_cons_succ]
 refine wpAnyH_take (i := 2) (oi := ⟨_, _, _, _, _, _⟩) (v := ?_) rfl (by kernel_rfl) (by kernel_rfl) (by kernel_rfl) (fun _ _ _ h => h) (Or.inl ⟨by rfl, ?_⟩) hHeld ?_
 rotate_left
 ·(intro w9 hSw; (try dsimp only at hSw); go_simp; try (with_reducible rfl))
 try simp only [Act.put, List.setIfInBounds_toArray, List.set_cons_zero, List.set_cons_succ]
 refine wpAnyH_take (i := 3) (oi := ⟨_, _, _, _, _, _⟩) (v := ?_) rfl (by kernel_rfl) (by kernel_rfl) (by kernel_rfl) (fun _ _ _ h => h) (Or.inl ⟨by rfl, ?_⟩) hHeld ?_
 rotate_left
 ·(intro w9 hSw; (try dsimp only at hSw); go_simp; try (with_reducible rfl))
 try simp only [Act.put, List.setIfInBounds_toArray, List.set_cons_zero, List.set_cons_succ]
 refine wpAnyH_take (i := 4) (oi := ⟨_, _, _, _, _, _⟩) (v := ?_) rfl (by kernel_rfl) (by kernel_rfl) (by kernel_rfl) (fun _ _ _ h => h) (Or.inl ⟨by rfl, ?_⟩) hHeld ?_
 rotate_left
 ·(intro w9 hSw; (try dsimp only at hSw); go_simp; try (with_reducible rfl))
 try simp only [Act.put, List.setIfInBounds_toArray, List.set_cons_zero, List.set_cons_succ]
 refine wpAnyH_take (i := 7) (oi := ⟨_, _, _, _, _, _⟩) (v := ?_) rfl (by kernel_rfl) (by kernel_rfl) (by kernel_rfl) (fun _ _ _ h => h) (Or.inl ⟨by rfl, ?_⟩) hHeld ?_
 rotate_left
 ·(intro w9 hSw; (try dsimp only at hSw); go_simp; try (with_reducible rfl))
 try simp only [Act.put, List.setIfInBounds_toArray, List.set_cons_zero, List.set_cons_succ]
 refine wpAnyH_ready (rs := [5]) (by kernel_rfl) (by simp) ?_
 refine AllReadyH.cons (o := ⟨_, _, _, _, _, _⟩) rfl (fun K hK => ?_) AllReadyH.nil
 go_simp
 have kA := AH.out.1.alloc (.cells #[.int .u8 9, .int .u8 0, .int .u8 1, .int .u8 0, .int .u8 7] 5)
 have k3 : (w4.alloc (.cells #[.int .u8 9, .int .u8 0, .int .u8 1, .int .u8 0, .int .u8 7] 5)).cell? ⟨H, 3, none⟩ = some (.int .u8 0) := (kA.cell 3).trans rfl
 have hl5 : Lies (w4.alloc (.cells (ob [9, 0, 1, 0, 7]).toArray 5)) (some ⟨w4.heap.size, 0, none⟩) [9, 0, 1, 0, 7] := Or.inr ⟨_, 0, rfl, fun i x hx => by rw [Nat.zero_add, (Cells.new w4 (ob [9, 0, 1, 0, 7]).toArray 5).cell]; simp [ob_get, hx]⟩
 have hb5 : Below w4.heap.size w4 (w4.alloc (.cells #[.int .u8 9, .int .u8 0, .int .u8 1, .int .u8 0, .int .u8 7] 5)) := (Below.refl _ w4).alloc (Nat.le_refl _) _
 obtain ⟨wz, hwz⟩ : ∃ wz, w4.alloc (.cells #[.int .u8 9, .int .u8 0, .int .u8 1, .int .u8 0, .int .u8 7] 5) = wz := ⟨_, rfl⟩
 have hwz' : w4.alloc (.cells (ob [9, 0, 1, 0, 7]).toArray 5) = wz := hwz
 rw [hwz'] at hl5
 rw [hwz] at k3 hb5 ⊢
 have A5 : Aside (Lies (wz.drewN 1) (some ⟨w4.heap.size, 0, none⟩) [9, 0, 1, 0, 7] ∧ Below w4.heap.size w4 (wz.drewN 1)) := ⟨hl5.drewN 1, below_drewN hb5 1⟩
 clear kA hl5 hb5 hwz hwz'
 obtain ⟨w5, hw5⟩ : ∃ w5, wz.drew = w5 := ⟨_, rfl⟩
 have hw5' : wz.drewN 1 = w5 := hw5
 rw [hw5'] at A5
 have D5 : w5.cell? ⟨H, 3, none⟩ = some (.int .u8 0) := by rw [← hw5]; exact k3
 rw [hw5]
 clear k3 hw5 hw5'
 refine hK.out _ _ D5 (fun hH3 => ?_)
 clear hK K
 try simp only [Act.put, List.setIfInBounds_toArray, List.set_cons_zero, List.set_cons_succ]
 refine wpAnyH_take (i := 8) (oi := ⟨_, _, _, _, _, _⟩) (v := ?_) rfl (by kernel_rfl) (by kernel_rfl) (by kernel_rfl) (fun _ _ _ h => h) (Or.inl ⟨by rfl, ?_⟩) hH3 ?_
 rotate_left
 ·(intro w9 hSw; (try dsimp only at hSw); go_simp; try (with_reducible rfl))
 try simp only [Act.put, List.setIfInBounds_toArray, List.set_cons_zero, List.set_cons_succ]
 refine wpAnyH_done (by kernel_rfl) ?_ _
 (try dsimp only [Exit.then])
 rw [show ((IntKind.u8.wrap 0).tmod 2 == 1) = false from rfl]
 have A6 : Aside (Cells w5 H #[.string ⟨#[97]⟩, .slice (some ⟨g, 0, none⟩) 3 3, .slice none 0 0, .int .u8 0] 57 ∧ Lies w5 (some ⟨g, 0, none⟩) [97, 98, 99] ∧ Below H w w5 ∧ Lies w5 (some ⟨w4.heap.size, 0, none⟩) [9, 0, 1, 0, 7]) := by
  obtain ⟨x1, x2, x3⟩ := AH.out
  obtain ⟨x4, x5⟩ := A5.out
  exact ⟨x1.below x5 x1.lt, x2.below x5, x3.trans (x5.mono (Nat.le_of_lt x1.lt)), x4⟩
 obtain ⟨H4, hH4⟩ : ∃ H4, w4.heap.size = H4 := ⟨_, rfl⟩
 rw [hH4] at A6 ⊢
 clear hHeld hH3 A5 AH hH4 d0 d1 d2 d3
 go_upto_region 21 with fail
 obtain ⟨lo2, hlo2⟩ : ∃ lo2, w5.heap.size = lo2 := ⟨_, rfl⟩
 have A7 : Aside (Cells w5 H #[.string ⟨#[97]⟩, .slice (some ⟨g, 0, none⟩) 3 3, .slice none 0 0, .int .u8 0] 57 ∧ Lies w5 (some ⟨g, 0, none⟩) [97, 98, 99] ∧ Below H w w5 ∧ Lies w5 (some ⟨H4, 0, none⟩) [9, 0, 1, 0, 7] ∧ w5.heap.size = lo2 ∧ H ≤ lo2) := ⟨A6.out.1, A6.out.2.1, A6.out.2.2.1, A6.out.2.2.2, hlo2, by have := A6.out.1.lt; omega⟩
 have R0 : Zwt lo2 H #[.string ⟨#[97]⟩, .slice (some ⟨g, 0, none⟩) 3 3, .slice none 0 0, .int .u8 0] w5 (w5.alloc (.cells #[.int .u8 80, .int .u8 75, .int .u8 3, .int .u8 4, .int .u8 20, .int .u8 0] 5)) (.slice (some ⟨lo2, 0, none⟩) 6 6) 6 [80, 75, 3, 4, 20, 0] := by
  have := Zwt.start A6.out.1 [80, 75, 3, 4, 20, 0] (by decide) (by decide)
  rw [hlo2] at this
  exact this
 have AR0 : Aside _ := R0
 have k0 : ∀ u, Calls Tryz.prog 52 #[.int .u64 0, .int .i64 2] u fun e w' => Oa (nbs 2 0) 2 u e w' := fun u => put52_c 0 2 (by decide) (by decide) u
 have kS : ∀ u, Calls Tryz.prog 52 #[.int .u64 (su : Int), .int .i64 4] u fun e w' => Oa (nbs 4 su) 4 u e w' := fun u => put52_c su 4 (by omega) (by decide) u
 have k3 : ∀ u, Calls Tryz.prog 52 #[.int .u64 3, .int .i64 4] u fun e w' => Oa (nbs 4 3) 4 u e w' := fun u => put52_c 3 4 (by decide) (by decide) u
 have k1 : ∀ u, Calls Tryz.prog 52 #[.int .u64 1, .int .i64 2] u fun e w' => Oa (nbs 2 1) 2 u e w' := fun u => put52_c 1 2 (by decide) (by decide) u
 have k5 : ∀ u, Calls Tryz.prog 52 #[.int .u64 5, .int .i64 2] u fun e w' => Oa (nbs 2 5) 2 u e w' := fun u => put52_c 5 2 (by decide) (by decide) u
 clear A6 D5
 clear AR0
 go_upto_region 22 with (first
  | (have q := R0; go_at_call_of 52 (Value.int IntKind.u64 0); refine (k0 _).mono ?_; intro e1 u1 h1; obtain ⟨a1, c1, he1, ho1, hb1⟩ := h1.ex; subst he1; have R1 := R0.step hb1; have X1 := R0.fresh ho1 (nbs_length _ _); clear h1 q R0 hb1 ho1)
  | (have q := R1; at_builtin; refine zw_app rfl (.tmp 80) (.tmp 82) rfl (by rfl) R1 a1 (nbs 2 0) 2 c1 (by rfl) X1 (by decide) ?_; intro a2 c2 u2 R2 L2; clear L2 q R1 X1))
 go_upto_region 23 with (first
  | (have q := R2; go_at_call_of 52 (Value.int IntKind.u64 0); refine (k0 _).mono ?_; intro e3 u3 h3; obtain ⟨a3, c3, he3, ho3, hb3⟩ := h3.ex; subst he3; have R3 := R2.step hb3; have X3 := R2.fresh ho3 (nbs_length _ _); clear h3 q R2 hb3 ho3)
  | (have q := R3; at_builtin; refine zw_app rfl (.tmp 84) (.tmp 86) rfl (by rfl) R3 a3 (nbs 2 0) 2 c3 (by rfl) X3 (by decide) ?_; intro a4 c4 u4 R4 L4; clear L4 q R3 X3; have RX4 := R4.l1234; clear R4)
  | (have q := RX4.1; at_builtin; refine zw_app rfl (.tmp 87) (.tmp 88) rfl (by rfl) RX4.1 (some ⟨_, 0, none⟩) ([1, 2, 3, 4]) 4 4 (by rfl) RX4.2 (by decide) ?_; intro a5 c5 u5 R5 L5; clear L5 q RX4))
 go_upto_region 24 with (first
  | (have q := R5; go_at_call_of 52 (Value.int IntKind.u64 (su : Int)); refine (kS _).mono ?_; intro e6 u6 h6; obtain ⟨a6, c6, he6, ho6, hb6⟩ := h6.ex; subst he6; have R6 := R5.step hb6; have X6 := R5.fresh ho6 (nbs_length _ _); clear h6 q R5 hb6 ho6)
  | (have q := R6; at_builtin; refine zw_app rfl (.tmp 90) (.tmp 92) rfl (by rfl) R6 a6 (nbs 4 su) 4 c6 (by rfl) X6 (by decide) ?_; intro a7 c7 u7 R7 L7; clear L7 q R6 X6)
  | (have q := R7; go_at_call_of 52 (Value.int IntKind.u64 3); refine (k3 _).mono ?_; intro e8 u8 h8; obtain ⟨a8, c8, he8, ho8, hb8⟩ := h8.ex; subst he8; have R8 := R7.step hb8; have X8 := R7.fresh ho8 (nbs_length _ _); clear h8 q R7 hb8 ho8)
  | (have q := R8; at_builtin; refine zw_app rfl (.tmp 93) (.tmp 95) rfl (by rfl) R8 a8 (nbs 4 3) 4 c8 (by rfl) X8 (by decide) ?_; intro a9 c9 u9 R9 L9; clear L9 q R8 X8)
  | (have q := R9; go_at_call_of 52 (Value.int IntKind.u64 3); refine (k3 _).mono ?_; intro e10 u10 h10; obtain ⟨a10, c10, he10, ho10, hb10⟩ := h10.ex; subst he10; have R10 := R9.step hb10; have X10 := R9.fresh ho10 (nbs_length _ _); clear h10 q R9 hb10 ho10)
  | (have q := R10; at_builtin; refine zw_app rfl (.tmp 96) (.tmp 98) rfl (by rfl) R10 a10 (nbs 4 3) 4 c10 (by rfl) X10 (by decide) ?_; intro a11 c11 u11 R11 L11; clear L11 q R10 X10))
 go_upto_region 25 with (first
  | (have q := R11; go_at_call_of 52 (Value.int IntKind.u64 1); refine (k1 _).mono ?_; intro e12 u12 h12; obtain ⟨a12, c12, he12, ho12, hb12⟩ := h12.ex; subst he12; have R12 := R11.step hb12; have X12 := R11.fresh ho12 (nbs_length _ _); clear h12 q R11 hb12 ho12)
  | (have q := R12; at_builtin; refine zw_app rfl (.tmp 100) (.tmp 104) rfl (by rfl) R12 a12 (nbs 2 1) 2 c12 (by rfl) X12 (by decide) ?_; intro a13 c13 u13 R13 L13; clear L13 q R12 X12)
  | (have q := R13; go_at_call_of 52 (Value.int IntKind.u64 5); refine (k5 _).mono ?_; intro e14 u14 h14; obtain ⟨a14, c14, he14, ho14, hb14⟩ := h14.ex; subst he14; have R14 := R13.step hb14; have X14 := R13.fresh ho14 (nbs_length _ _); clear h14 q R13 hb14 ho14)
  | (have q := R14; at_builtin; refine zw_app rfl (.tmp 105) (.tmp 109) rfl (by rfl) R14 a14 (nbs 2 5) 2 c14 (by rfl) X14 (by decide) ?_; intro a15 c15 u15 R15 L15; clear L15 q R14 X14))
 go_upto_region 26 with (first
  | (have q := R15; at_builtin; refine zw_str rfl (.tmp 111) (.tmp 112) rfl (by rfl) R15 [97] 1 ⟨#[97]⟩ rfl rfl (oct_dec rfl) (by rfl) (by decide) ?_; intro a16 c16 u16 R16 L16; clear L16 q R15; have X16 := R16.old A7.out.2.2.2.2.1 A7.out.2.2.2.1 (m := 5) (c := 5) rfl (fun h => by cases h))
  | (have q := R16; at_builtin; refine zw_app rfl (.tmp 113) (.tmp 114) rfl (by rfl) R16 (some ⟨H4, 0, none⟩) [9, 0, 1, 0, 7] 5 5 (by rfl) X16 (by decide) ?_; intro a17 c17 u17 R17 L17; clear L17 q R16 X16; have X17 := R17.old A7.out.2.2.2.2.1 A7.out.2.1 (m := 3) (c := 3) rfl (fun h => by cases h))
  | (have q := R17; at_builtin; refine zw_app rfl (.tmp 115) (.tmp 116) rfl (by rfl) R17 (some ⟨g, 0, none⟩) [97, 98, 99] 3 3 (by rfl) X17 (by decide) ?_; intro a18 c18 u18 R18 L18; clear L18 q R17 X17))
 have AZ : Aside _ := R18
 clear R18
 go_wp2_with fail
 first | go_ret | go_ret2
 obtain ⟨x1, x2, x3, x4, x5, x6⟩ := A7.out
 obtain ⟨q1, q2, q3⟩ := AZ.out
 have hH := A8.out.1
 have eo : [80, 75, 3, 4, 20, 0] ++ nbs 2 0 ++ nbs 2 0 ++ [1, 2, 3, 4] ++ nbs 4 su ++ nbs 4 3 ++ nbs 4 3 ++ nbs 2 1 ++ nbs 2 5 ++ [97] ++ [9, 0, 1, 0, 7] ++ [97, 98, 99] = Ent.one enA [97, 98, 99] := by rw [← A8.out.2]; kernel_rfl
 rw [eo] at q1
 exact ⟨_, _, rfl, by rw [hH]; exact q1.lower x6, by rw [hH]; exact x3.trans (q2.mono (by omega))⟩
end Go.Proofs.YtpihipbeagpgpaaGreatDoor

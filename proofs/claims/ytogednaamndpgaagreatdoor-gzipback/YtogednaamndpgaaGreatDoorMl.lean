/-
  Own texts of this seat, one behind the other: what each says stands ahead of it.
-/
import Derived.Test.YtogednaamndpgaaGreatDoorMk
import Derived.Test.YtogednaamndpgaaGreatDoorMj
/-
 What the document says of a member's header. No walk.
-/
namespace Go.Proofs.YtogednaamndpgaaGreatDoor
open Go.RowKit
set_option linter.unusedVariables false
def hflag (fl : Nat) (r : Gr) : Gr := if r.why = 0 ∧ 32 ≤ fl then gstop 42 (r.pos - 1) r else r
def hoth (b : List Nat) (r : Gr) : Gr := if r.why = 0 then gnum b 6 r else r
def hxb (n : Nat) (r : Gr) : Gr := if r.why = 0 ∧ 1024 < n then gstop 46 (r.pos - 1) r else r
def hxt (b : List Nat) (n : Nat) (r : Gr) : Gr := if r.why = 0 then gnum b n r else r
def hext (b : List Nat) (fl : Nat) (r : Gr) : Gr := if r.why = 0 ∧ fl / 4 % 2 = 1 then hxt b (gval b 2 r) (hxb (gval b 2 r) (gnum b 2 r)) else r
def hnam (b : List Nat) (fl : Nat) (r : Gr) : Gr × List Nat := if r.why = 0 ∧ fl / 8 % 2 = 1 then gtext b r else (r, [])
def hcom (b : List Nat) (fl : Nat) (r : Gr) : Gr := if r.why = 0 ∧ fl / 16 % 2 = 1 then (gtext b r).1 else r
def hsb (x s : Nat) (r : Gr) : Gr := if r.why = 0 ∧ x ≠ s % 65536 then gstop 43 (r.pos - 1) r else r
def hsum (b : List Nat) (fl f : Nat) (r : Gr) : Gr := if r.why = 0 ∧ fl / 2 % 2 = 1 then hsb (gval b 2 r) (sm 0 ((b.take r.pos).drop f)) (gnum b 2 r) else r
def hmag (b : List Nat) (r : Gr) : Gr := gis b 8 41 (gis b 139 40 (gis b 31 40 r))
def hres (b : List Nat) (fl f : Nat) (r : Gr) : Gr × List Nat := (hsum b fl f (hcom b fl (hnam b fl (hext b fl (hoth b (hflag fl r)))).1), (hnam b fl (hext b fl (hoth b (hflag fl r)))).2)
def ghead (b : List Nat) (r : Gr) : Gr × List Nat := if (hmag b r).why = 0 then hres b (gval b 1 (hmag b r)) r.pos (gnum b 1 (hmag b r)) else (hmag b r, [])
section
variable {b : List Nat} {r : Gr}
end
structure Ge (w : World) (base R : Nat) (a : Option Addr) (L C : Nat) (vE : Value) (b : List Nat) : Prop where
 oct : Oct b
 len : b.length = L
 big : L ≤ 100000000000
 cap : L ≤ C
 nil : a = none → L = 0 ∧ C = 0
 apart : ∀ g o, a = some ⟨g, o, none⟩ → b ≠ [] → g ≠ R
 lies : Lies w a b
section
variable {w u : World} {base R L C : Nat} {a : Option Addr} {vE : Value} {b : List Nat} {r : Gr}
theorem Ge.at (h : Ge w base R a L C vE b) (o : Only R w u) : Lies u a b := by
 rcases h.lies with e | ⟨g, of, e, hc⟩
 ·exact Or.inl e
 ·by_cases hb : b = []
  ·exact Or.inl hb
  ·exact Or.inr ⟨g, of, e, fun i x hi => (o.cell (p := ⟨g, of + i, none⟩) (h.apart g of e hb)).trans (hc i x hi)⟩
theorem Ge.open_ (h : Ge w base R a L C vE b) (g : Gm u base R a L C r vE) : Calls Tryz.prog 25 #[.pointer (some ⟨R, 0, none⟩)] u fun e w' => e = .returned (.bool (decide (r.why = 0))) ∧ u = w' := (gopen_c u g).mono fun e w' k => ⟨k.1, k.2.symm⟩
theorem Ge.is_ (h : Ge w base R a L C vE b) (g : Gm u base R a L C r vE) (o : Only R w u) (hp : r.pos ≤ L) (v y : Nat) (hv : v < 1000) : Calls Tryz.prog 56 #[.pointer (some ⟨R, 0, none⟩), .int .i64 (v : Int), .int .i64 (y : Int)] u fun e w' => e = .returned (.tuple #[]) ∧ Gm w' base R a L C (gis b v y r) vE ∧ Only R w w' := (gis_c b v y hv h.oct h.len h.big hp u (h.at o) g).mono fun e w' k => ⟨k.1, k.2.1, o.trans k.2.2⟩
theorem Ge.stop (h : Ge w base R a L C vE b) (g : Gm u base R a L C r vE) (o : Only R w u) (y p : Nat) : Calls Tryz.prog 26 #[.pointer (some ⟨R, 0, none⟩), .int .i64 (y : Int), .int .i64 (p : Int)] u fun e w' => e = .returned (.tuple #[]) ∧ Gm w' base R a L C (gstop y p r) vE ∧ Only R w w' := (gstop_c y p u g).mono fun e w' k => ⟨k.1, k.2.1, o.trans k.2.2⟩
theorem Ge.num (h : Ge w base R a L C vE b) (g : Gm u base R a L C r vE) (o : Only R w u) (hp : r.pos ≤ L) (n : Nat) (hn : n ≤ 70000) : Calls Tryz.prog 38 #[.pointer (some ⟨R, 0, none⟩), .int .i64 (n : Int)] u fun e w' => ∃ v : Int, e = .returned (.int .i64 v) ∧ Aside (n ≤ 6 → v = (gval b n r : Int)) ∧ Gm w' base R a L C (gnum b n r) vE ∧ Only R w w' := (gnum_c b n hn h.oct h.len h.big hp u (h.at o) g).mono fun e w' k => by
 obtain ⟨v, k1, k2, k3, k4⟩ := k.ex
 exact ⟨v, k1, k2, k3, o.trans k4⟩
end
end Go.Proofs.YtogednaamndpgaaGreatDoor

/-
 A member's header: what the document says of it is what the machine comes to. No walk.
-/
namespace Go.Proofs.YtogednaamndpgaaGreatDoor
open Go.RowKit
set_option linter.unusedVariables false
def Jz (b : List Nat) (T : List Gev) (y a : Nat) : Prop := y ≠ 0 ∧ ∃ k s, Rch b k s T ∧ ((s.why = 0 ∧ s.wh = false ∧ k = b.length ∧ y = 1 ∧ a = b.length) ∨ (s.why = y ∧ k = a + 1))
abbrev Js (b : List Nat) (r : Gr) : Prop := Jz b r.ev r.why r.sat
structure Hp (b : List Nat) (f : Nat) (r : Gr) (s : Gs) (k : Nat) (n : List Nat) : Prop where
 why : r.why = 0
 rch : Rch b r.pos s r.ev
 sw : s.why = 0
 nx : s.nx = k
 sum : s.sm = sm 0 ((b.take r.pos).drop f)
 fp : f ≤ r.pos
 wh : s.wh = false
 nm : s.nm = n
 nb : s.nb < 4294967296
structure Fp (b : List Nat) (f : Nat) (r : Gr) (s : Gs) (n : List Nat) : Prop where
 why : r.why = 0
 rch : Rch b r.pos (gfield s).1 (r.ev ++ evs (r.pos - 1) (gfield s).2)
 sw : s.why = 0
 sum : s.sm = sm 0 ((b.take r.pos).drop f)
 fp : f < r.pos
 wh : s.wh = false
 nm : s.nm = n
 nb : s.nb < 4294967296
section
variable {b : List Nat} {f : Nat} {r : Gr} {s : Gs} {k : Nat} {n : List Nat}
theorem sum_step {p x : Nat} (hf : f ≤ p) (hx : b[p]? = some x) : sm 0 ((b.take (p + 1)).drop f) = stp (sm 0 ((b.take p).drop f)) x := by
 obtain ⟨hp, he⟩ := List.getElem?_eq_some_iff.1 hx
 rw [List.take_succ_eq_append_getElem hp, he, List.drop_append_of_le_length (by rw [List.length_take]; omega), sm_append]
 rfl
theorem gval_one {x : Nat} (hx : b[r.pos]? = some x) : gval b 1 r = x := by
 obtain ⟨hp, he⟩ := List.getElem?_eq_some_iff.1 hx
 unfold gval
 rw [if_neg (by omega), List.drop_eq_getElem_cons hp, he]
 simp [le]
theorem gnum_go {m : Nat} (h : r.pos + m ≤ b.length) : gnum b m r = { r with pos := r.pos + m } := by unfold gnum; rw [if_neg (by omega)]
theorem gnum_cut {m : Nat} (h : b.length < r.pos + m) : gnum b m r = gstop 1 b.length r := by unfold gnum; rw [if_pos h]
theorem Hp.cut (h : Hp b f r s k n) (hl : ¬ r.pos < b.length) : Jz b r.ev 1 b.length := ⟨by decide, r.pos, s, h.rch, Or.inl ⟨h.sw, h.wh, by have := h.rch.1; omega, rfl, rfl⟩⟩
theorem at_lt (h : r.pos < b.length) : ∃ x, b[r.pos]? = some x := ⟨_, List.getElem?_eq_getElem h⟩
theorem Hp.one (h : Hp b f r s k n) (hk : k ≠ 9) {x k' : Nat} {n' : List Nat} (hx : b[r.pos]? = some x) {s1 : Gs} (e : gst s x = (s1, [])) (h1 : s1.why = 0) (h2 : s1.nx = k') (h3 : s1.sm = stp s.sm x) (h4 : s1.wh = false) (h5 : s1.nm = n') (h6 : s1.nb < 4294967296) : Hp b f { r with pos := r.pos + 1 } s1 k' n' := by
 have q := h.rch.step h.sw hx (s1 := s1) (E := []) (Or.inr ⟨by rw [h.nx]; exact hk, by rw [e], by rw [e]⟩)
 refine ⟨h.why, by simpa [evs] using q, h1, h2, ?_, Nat.le_succ_of_le h.fp, h4, h5, h6⟩
 rw [h3, h.sum]
 exact (sum_step h.fp hx).symm
theorem Hp.stop (h : Hp b f r s k n) (hk : k ≠ 9) {x y : Nat} (hy : y ≠ 0) (hx : b[r.pos]? = some x) {s1 : Gs} (e : gst s x = (s1, [])) (h1 : s1.why = y) : Jz b r.ev y r.pos := by
 have q := h.rch.step h.sw hx (s1 := s1) (E := []) (Or.inr ⟨by rw [h.nx]; exact hk, by rw [e], by rw [e]⟩)
 exact ⟨hy, r.pos + 1, s1, by simpa [evs] using q, Or.inr ⟨h1, rfl⟩⟩
theorem Hp.field (h : Hp b f r s k n) (hk : k ≠ 9) {x : Nat} {n' : List Nat} (hx : b[r.pos]? = some x) {s1 : Gs} (e : gst s x = gfield s1) (h1 : s1.why = 0) (h3 : s1.sm = stp s.sm x) (h4 : s1.wh = false) (h5 : s1.nm = n') (h6 : s1.nb < 4294967296) : Fp b f { r with pos := r.pos + 1 } s1 n' := by
 have q := h.rch.step h.sw hx (s1 := (gfield s1).1) (E := (gfield s1).2) (Or.inr ⟨by rw [h.nx]; exact hk, by rw [e], by rw [e]⟩)
 refine ⟨h.why, by simpa using q, h1, ?_, Nat.lt_succ_of_le h.fp, h4, h5, h6⟩
 rw [h3, h.sum]
 exact (sum_step h.fp hx).symm
theorem Fp.on (h : Fp b f r s n) {s1 : Gs} (e : gfield s = (s1, [])) (h1 : s1.why = 0) (h2 : s1.nx = k) (h3 : s1.sm = s.sm) (h4 : s1.wh = false) (h5 : s1.nm = n) (h6 : s1.nb < 4294967296) : Hp b f r s1 k n := by
 refine ⟨h.why, ?_, h1, h2, h3.trans h.sum, Nat.le_of_lt h.fp, h4, h5, h6⟩
 have := h.rch
 rw [e] at this
 simpa [evs] using this
theorem gis_stop (v y : Nat) (h : r.why ≠ 0) : gis b v y r = r := by unfold gis; rw [if_neg h]
theorem gis_cut (v y : Nat) (h : r.why = 0) (hl : ¬ r.pos < b.length) : gis b v y r = gstop 1 b.length r := by
 unfold gis
 rw [if_pos h, gnum_cut (by omega)]
 rw [if_neg (by rintro ⟨_, q⟩; simp [gstop] at q)]
theorem gis_at {v y x : Nat} (h : r.why = 0) (hx : b[r.pos]? = some x) : gis b v y r = if x = v then { r with pos := r.pos + 1 } else gstop y r.pos { r with pos := r.pos + 1 } := by
 obtain ⟨hp, _⟩ := List.getElem?_eq_some_iff.1 hx
 unfold gis
 rw [if_pos h, gnum_go (by omega), gval_one hx]
 by_cases e : x = v
 ·rw [if_pos e, if_neg (fun q => q.1 e)]
 ·rw [if_neg e, if_pos ⟨e, h⟩]
  simp
theorem Hp.is (h : Hp b f r s k n) (hk : k ≠ 9) (v y k' : Nat) (hy : y ≠ 0) (s1 : Gs) (e1 : gst s v = (s1, [])) (h1 : s1.why = 0) (h2 : s1.nx = k') (h3 : s1.sm = stp s.sm v) (h4 : s1.wh = false) (h5 : s1.nm = n) (h6 : s1.nb < 4294967296) (e2 : ∀ x, x ≠ v → ∃ s', s'.why = y ∧ gst s x = (s', [])) : (∃ s1, Hp b f (gis b v y r) s1 k' n) ∨ Js b (gis b v y r) := by
 by_cases hl : r.pos < b.length
 ·obtain ⟨x, hx⟩ := at_lt hl
  rw [gis_at h.why hx]
  by_cases e : x = v
  ·subst e
   rw [if_pos rfl]
   exact Or.inl ⟨s1, h.one hk hx e1 h1 h2 h3 h4 h5 h6⟩
  ·rw [if_neg e]
   obtain ⟨s', q1, q2⟩ := e2 x e
   exact Or.inr (h.stop hk hy hx q2 q1)
 ·rw [gis_cut v y h.why hl]
  exact Or.inr (h.cut hl)
structure Sp0 (b : List Nat) (r : Gr) (s : Gs) : Prop where
 why : r.why = 0
 rch : Rch b r.pos s r.ev
 sw : s.why = 0
 nx : (s.nx = 0 ∧ s.wh = false) ∨ (s.nx = 12 ∧ b[r.pos]? = some 31)
 nm : s.nm = []
 nb : s.nb < 4294967296
theorem Sp0.is (h : Sp0 b r s) : (∃ s1, Hp b r.pos (gis b 31 40 r) s1 1 []) ∨ Js b (gis b 31 40 r) := by
 by_cases hl : r.pos < b.length
 ·obtain ⟨x, hx⟩ := at_lt hl
  rw [gis_at h.why hx]
  by_cases e : x = 31
  ·subst e
   rw [if_pos rfl]
   have eg : gst s 31 = (gbgn 31 s, []) := by
    unfold gst
    rcases h.nx with ⟨q, _⟩ | ⟨q, _⟩ <;> rw [q] <;> rfl
   have q := h.rch.step h.sw hx (s1 := gbgn 31 s) (E := []) (Or.inr ⟨by rcases h.nx with ⟨q, _⟩ | ⟨q, _⟩ <;> rw [q] <;> decide, by rw [eg], by rw [eg]⟩)
   refine Or.inl ⟨gbgn 31 s, h.why, by simpa [evs] using q, h.sw, rfl, ?_, Nat.le_succ _, rfl, h.nm, h.nb⟩
   have := sum_step (Nat.le_refl r.pos) hx
   rw [show (b.take r.pos).drop r.pos = [] by rw [List.drop_eq_nil_iff, List.length_take]; omega] at this
   exact this.symm
  ·rw [if_neg e]
   rcases h.nx with ⟨q, _⟩ | ⟨_, q⟩
   ·have eg : gst s x = (gbad 40 s, []) := by unfold gst; rw [q]; simp only [if_neg e]
    have q2 := h.rch.step h.sw hx (s1 := gbad 40 s) (E := []) (Or.inr ⟨by rw [q]; decide, by rw [eg], by rw [eg]⟩)
    exact Or.inr ⟨by show (40 : Nat) ≠ 0; decide, r.pos + 1, _, by simpa [evs, gstop] using q2, Or.inr ⟨rfl, rfl⟩⟩
   ·rw [hx] at q; exact absurd (Option.some.inj q) e
 ·rw [gis_cut _ _ h.why hl]
  rcases h.nx with ⟨_, q⟩ | ⟨_, q⟩
  ·exact Or.inr ⟨by show (1 : Nat) ≠ 0; decide, r.pos, s, h.rch, Or.inl ⟨h.sw, q, by have := h.rch.1; omega, rfl, rfl⟩⟩
  ·exact absurd (List.getElem?_eq_some_iff.1 q).1 hl
theorem Sp0.mag (h : Sp0 b r s) : (∃ s1, Hp b r.pos (hmag b r) s1 3 []) ∨ Js b (hmag b r) := by
 unfold hmag
 rcases h.is with ⟨s1, q⟩ | q
 ·have hr : ∀ r1 : Gr, Hp b r.pos r1 s1 1 [] → (∃ s1, Hp b r.pos (gis b 139 40 r1) s1 2 []) ∨ Js b (gis b 139 40 r1) := fun r1 q => q.is (by decide) 139 40 2 (by decide) { gcnt 139 s1 with nx := 2 } (by unfold gst; rw [q.nx]; rfl) q.sw rfl rfl q.wh q.nm q.nb (fun x hx => ⟨gbad 40 s1, rfl, by unfold gst; rw [q.nx]; simp only [if_neg hx]⟩)
  rcases hr _ q with ⟨s2, q2⟩ | q2
  ·exact q2.is (by decide) 8 41 3 (by decide) { gcnt 8 s2 with nx := 3 } (by unfold gst; rw [q2.nx]; rfl) q2.sw rfl rfl q2.wh q2.nm q2.nb (fun x hx => ⟨gbad 41 s2, rfl, by unfold gst; rw [q2.nx]; simp only [if_neg hx]⟩)
  ·rw [gis_stop 8 41 q2.1]; exact Or.inr q2
 ·rw [gis_stop 139 40 q.1, gis_stop 8 41 q.1]; exact Or.inr q
theorem Hp.flags (h : Hp b f r s 3 []) : (∃ s1, Hp b f (hflag (gval b 1 r) (gnum b 1 r)) s1 4 [] ∧ s1.lf = 6 ∧ s1.fl = gval b 1 r ∧ gval b 1 r < 32) ∨ Js b (hflag (gval b 1 r) (gnum b 1 r)) := by
 by_cases hl : r.pos < b.length
 ·obtain ⟨x, hx⟩ := at_lt hl
  rw [gval_one hx, gnum_go (by omega)]
  unfold hflag
  by_cases e : x < 32
  ·rw [if_neg (fun q => by omega)]
   exact Or.inl ⟨{ gcnt x s with fl := x, nx := 4, lf := 6 }, h.one (by decide) hx (by unfold gst; rw [h.nx]; simp only [if_pos e]) h.sw rfl rfl h.wh h.nm h.nb, rfl, rfl, e⟩
  ·rw [if_pos ⟨h.why, by omega⟩]
   have := h.stop (by decide) (y := 42) (by decide) hx (s1 := gbad 42 s) (by unfold gst; rw [h.nx]; simp only [if_neg e]) rfl
   exact Or.inr (by simpa [Js, gstop] using this)
 ·rw [gnum_cut (by omega)]
  unfold hflag
  rw [if_neg (fun q => by have := q.1; simp [gstop] at this)]
  exact Or.inr (h.cut hl)
theorem any_run : ∀ (m : Nat) (r : Gr) (s : Gs), Hp b f r s 4 n → s.lf = m → 1 ≤ m → (b.length < r.pos + m ∧ Jz b r.ev 1 b.length) ∨ (r.pos + m ≤ b.length ∧ ∃ sf, Fp b f { r with pos := r.pos + m } sf n ∧ sf.fl = s.fl)
 | 0, r, s, h, hm, h1 => by omega
 | m + 1, r, s, h, hm, h1 => by
  by_cases hl : r.pos < b.length
  ·obtain ⟨x, hx⟩ := at_lt hl
   have eg : gst s x = gany x s := by unfold gst; rw [h.nx]; rfl
   unfold gany at eg
   by_cases e : m = 0
   ·subst e
    rw [if_pos (by omega)] at eg
    exact Or.inr ⟨hl, _, h.field (by decide) hx eg h.sw rfl h.wh h.nm h.nb, rfl⟩
   ·rw [if_neg (by omega)] at eg
    have q := h.one (by decide) hx eg h.sw h.nx rfl h.wh h.nm h.nb
    rcases any_run m _ _ q (by show s.lf - 1 = m; omega) (by omega) with ⟨q1, q2⟩ | ⟨q1, sf, q2, q3⟩
    ·exact Or.inl ⟨by have : b.length < r.pos + 1 + m := q1; omega, q2⟩
    ·refine Or.inr ⟨by have : r.pos + 1 + m ≤ b.length := q1; omega, sf, ?_, q3⟩
     have e2 : r.pos + 1 + m = r.pos + (m + 1) := by omega
     have : Fp b f { r with pos := r.pos + 1 + m } sf n := q2
     rwa [e2] at this
  ·exact Or.inl ⟨by have := h.rch.1; omega, h.cut hl⟩
theorem Hp.any (h : Hp b f r s 4 n) (m : Nat) (hm : s.lf = m) (h1 : 1 ≤ m) : (∃ sf, Fp b f (gnum b m r) sf n ∧ sf.fl = s.fl) ∨ Js b (gnum b m r) := by
 rcases any_run m r s h hm h1 with ⟨q1, q2⟩ | ⟨q1, sf, q2, q3⟩
 ·rw [gnum_cut q1]; exact Or.inr q2
 ·rw [gnum_go q1]; exact Or.inl ⟨sf, q2, q3⟩
theorem Hp.oth (h : Hp b f r s 4 n) (hm : s.lf = 6) : (∃ sf, Fp b f (hoth b r) sf n ∧ sf.fl = s.fl) ∨ Js b (hoth b r) := by
 unfold hoth
 rw [if_pos h.why]
 exact h.any 6 hm (by decide)
theorem gath_lt {s : Gs} {x : Nat} (hx : x < 256) (h : s.nb < 4294967296) : (gath x s).nb < 4294967296 := by show s.nb / 256 + x * 16777216 < _; omega
theorem gval_two_at {x z : Nat} (hx : b[r.pos]? = some x) (hz : b[r.pos + 1]? = some z) : gval b 2 r = x + 256 * z := by
 obtain ⟨hp, he⟩ := List.getElem?_eq_some_iff.1 hx
 obtain ⟨hp2, he2⟩ := List.getElem?_eq_some_iff.1 hz
 unfold gval
 rw [if_neg (by omega), List.drop_eq_getElem_cons hp, List.drop_eq_getElem_cons hp2, he, he2]
 simp [le]
theorem Fp.ext (ho : Oct b) (h : Fp b f r s []) (fl : Nat) (hfl : s.fl = fl) : (∃ sf, Fp b f (hext b fl r) sf [] ∧ sf.fl / 4 % 2 = 0 ∧ sf.fl / 8 % 2 = fl / 8 % 2 ∧ sf.fl / 16 % 2 = fl / 16 % 2 ∧ sf.fl / 2 % 2 = fl / 2 % 2) ∨ Js b (hext b fl r) := by
 unfold hext
 by_cases h4 : fl / 4 % 2 = 1
 ·rw [if_pos ⟨h.why, h4⟩]
  have q := h.on (k := 5) (s1 := { s with fl := s.fl - 4, nx := 5, lf := 2 }) (by unfold gfield; rw [if_pos (by rw [hfl]; exact h4)]) h.sw rfl rfl h.wh h.nm h.nb
  have hbits : (s.fl - 4) / 4 % 2 = 0 ∧ (s.fl - 4) / 8 % 2 = fl / 8 % 2 ∧ (s.fl - 4) / 16 % 2 = fl / 16 % 2 ∧ (s.fl - 4) / 2 % 2 = fl / 2 % 2 := by rw [hfl]; omega
  obtain ⟨s1, hs1⟩ : ∃ s1, s1 = { s with fl := s.fl - 4, nx := 5, lf := 2 } := ⟨_, rfl⟩
  rw [← hs1] at q
  have hlf : s1.lf = 2 := by rw [hs1]
  have hf1 : s1.fl = s.fl - 4 := by rw [hs1]
  clear hs1
  by_cases hl : r.pos < b.length
  ·obtain ⟨x, hx⟩ := at_lt hl
   have hxo := ho x (List.mem_of_getElem? hx)
   have e1 : gst s1 x = (gath x (gcnt x s1), []) := by
    unfold gst; rw [q.nx]; show gext (gath x (gcnt x s1)) = _
    unfold gext; rw [if_neg (by show ¬ s1.lf - 1 = 0; omega)]
   have q1 := q.one (by decide) hx e1 q.sw q.nx rfl q.wh q.nm (gath_lt hxo q.nb)
   by_cases hl2 : r.pos + 1 < b.length
   ·obtain ⟨z, hz⟩ := at_lt (r := { r with pos := r.pos + 1 }) hl2
    have hzo := ho z (List.mem_of_getElem? hz)
    have e2 : gst (gath x (gcnt x s1)) z = gext (gath z (gcnt z (gath x (gcnt x s1)))) := by unfold gst; rw [q1.nx]; rfl
    have en : (gath z (gcnt z (gath x (gcnt x s1)))).nb / 65536 = x + 256 * z := by
     show ((s1.nb / 256 + x * 16777216) / 256 + z * 16777216) / 65536 = _
     have := q.nb
     omega
    unfold gext at e2
    rw [if_pos (by show s1.lf - 1 - 1 = 0; omega), en] at e2
    rw [gval_two_at hx hz, gnum_go (by omega)]
    unfold hxb
    by_cases hbig : 1024 < x + 256 * z
    ·rw [if_pos hbig] at e2
     have q2 := q1.stop (by decide) (y := 46) (by decide) hz e2 rfl
     rw [if_pos ⟨h.why, hbig⟩]
     unfold hxt
     rw [if_neg (by simp [gstop])]
     exact Or.inr q2
    ·rw [if_neg hbig] at e2
     rw [if_neg (fun q => hbig q.2)]
     unfold hxt
     rw [if_pos h.why]
     by_cases h0 : x + 256 * z = 0
     ·rw [if_pos h0] at e2
      have q2 := q1.field (by decide) hz e2 q.sw rfl q.wh q.nm (gath_lt hzo q1.nb)
      rw [h0, gnum_go (by show r.pos + 2 + 0 ≤ b.length; omega)]
      exact Or.inl ⟨_, q2, by show (s1.fl) / 4 % 2 = 0; rw [hf1]; exact hbits.1, by show s1.fl / 8 % 2 = _; rw [hf1]; exact hbits.2.1, by show s1.fl / 16 % 2 = _; rw [hf1]; exact hbits.2.2.1, by show s1.fl / 2 % 2 = _; rw [hf1]; exact hbits.2.2.2⟩
     ·rw [if_neg h0] at e2
      have q2 := q1.one (by decide) hz e2 q.sw rfl rfl q.wh q.nm (gath_lt hzo q1.nb)
      rcases q2.any (x + 256 * z) rfl (by omega) with ⟨sf, q3, q4⟩ | q3
      ·refine Or.inl ⟨sf, q3, ?_⟩
       have e5 : sf.fl = s.fl - 4 := q4.trans hf1
       rw [e5]; exact hbits
      ·exact Or.inr q3
   ·rw [gnum_cut (by omega)]
    unfold hxb
    rw [if_neg (fun q => by have := q.1; simp [gstop] at this)]
    unfold hxt
    rw [if_neg (by simp [gstop])]
    exact Or.inr (q1.cut hl2)
  ·rw [gnum_cut (by omega)]
   unfold hxb
   rw [if_neg (fun q => by have := q.1; simp [gstop] at this)]
   unfold hxt
   rw [if_neg (by simp [gstop])]
   exact Or.inr (q.cut hl)
 ·rw [if_neg (fun q => h4 q.2)]
  exact Or.inl ⟨s, h, by rw [hfl]; omega, by rw [hfl], by rw [hfl], by rw [hfl]⟩
theorem text_run (fr : Nat) (hk : k = 6 ∨ k = 7) : ∀ (fu : Nat) (r : Gr) (s : Gs) (n : List Nat) (m : Nat), Hp b f r s k n → fr ≤ r.pos → s.lf + (r.pos - fr) = 256 → fu + (r.pos - fr) = 258 → (k = 6 → n = (b.take r.pos).drop fr) → (∃ sf n', Fp b f (gz b fu fr m r).1 sf n' ∧ sf.fl = s.fl ∧ (k = 6 → n' = (gz b fu fr m r).2) ∧ (k = 7 → n' = n)) ∨ Js b (gz b fu fr m r).1
 | 0, r, s, n, m, h, h1, h2, h3, h4 => by omega
 | fu + 1, r, s, n, m, h, h1, h2, h3, h4 => by
  rw [gz_succ]
  by_cases hl : r.pos < b.length
  ·obtain ⟨x, hx⟩ := at_lt hl
   obtain ⟨hp, hxe⟩ := List.getElem?_eq_some_iff.1 hx
   have hnb : ∀ s2 : Gs, s2 = s ∨ s2 = gnam x s → s2.nb < 4294967296 ∧ s2.lf = s.lf ∧ s2.fl = s.fl ∧ s2.sm = s.sm ∧ s2.why = 0 ∧ s2.wh = false ∧ s2.nx = k := by
    rintro s2 (rfl | rfl)
    ·exact ⟨h.nb, rfl, rfl, rfl, h.sw, h.wh, h.nx⟩
    ·unfold gnam; split <;> exact ⟨h.nb, rfl, rfl, rfl, h.sw, h.wh, h.nx⟩
   obtain ⟨s2, hs2, eg, hnm⟩ : ∃ s2, (s2 = s ∨ s2 = gnam x s) ∧ gst s x = gtxt x s2 ∧ (k = 6 → s2.nm = if x ≠ 0 ∧ 0 < s.lf then n ++ [x] else n) ∧ (k = 7 → s2.nm = n) := by
    rcases hk with rfl | rfl
    ·refine ⟨gnam x s, Or.inr rfl, by unfold gst; rw [h.nx]; rfl, fun _ => ?_, fun q => (by cases q)⟩
     unfold gnam
     split
     ·show s.nm ++ [x] = _; rw [h.nm]
     ·exact h.nm
    ·exact ⟨s, Or.inl rfl, by unfold gst; rw [h.nx]; rfl, fun q => (by cases q), fun _ => h.nm⟩
   obtain ⟨a1, a2, a3, a4, a5, a6, a7⟩ := hnb s2 hs2
   rw [gnum_go (by omega), if_neg (by simp [h.why]), gval_one hx]
   have hk9 : k ≠ 9 := by omega
   by_cases h0 : x = 0
   ·rw [if_pos h0]
    unfold gtxt at eg
    rw [if_pos h0] at eg
    have q := h.field hk9 hx (s1 := gcnt x s2) eg a5 (by show stp s2.sm x = _; rw [a4]) a6 (n' := s2.nm) rfl a1
    refine Or.inl ⟨_, _, q, a3, fun e6 => ?_, fun e7 => hnm.2 e7⟩
    rw [hnm.1 e6, if_neg (fun q => q.1 h0), h4 e6]
    simp
   ·rw [if_neg h0]
    unfold gtxt at eg
    rw [if_neg h0, a2] at eg
    by_cases hlf : s.lf = 0
    ·rw [if_pos (by show 256 < r.pos + 1 - fr; omega)]
     rw [if_pos hlf] at eg
     have := h.stop hk9 (y := 46) (by decide) hx eg rfl
     exact Or.inr (by simpa [Js, gstop] using this)
    ·rw [if_neg (by show ¬ 256 < r.pos + 1 - fr; omega)]
     rw [if_neg hlf] at eg
     have q := h.one hk9 hx (s1 := { gcnt x s2 with lf := s.lf - 1 }) eg a5 a7 (by show stp s2.sm x = _; rw [a4]) a6 (n' := s2.nm) rfl a1
     have ih := text_run fr hk fu _ _ _ (m + 1) q (by show fr ≤ r.pos + 1; omega) (by show s.lf - 1 + (r.pos + 1 - fr) = 256; omega) (by show fu + (r.pos + 1 - fr) = 258; omega) (fun e6 => by
      rw [hnm.1 e6, if_pos ⟨h0, by omega⟩, h4 e6]
      show _ = (b.take (r.pos + 1)).drop fr
      rw [List.take_succ_eq_append_getElem hp, hxe, List.drop_append_of_le_length (by rw [List.length_take]; omega)])
     rcases ih with ⟨sf, n', q1, q2, q3, q4⟩ | q1
     ·exact Or.inl ⟨sf, n', q1, q2.trans a3, q3, fun e7 => (q4 e7).trans (hnm.2 e7)⟩
     ·exact Or.inr q1
  ·rw [gnum_cut (by omega), if_pos (by simp [gstop])]
   exact Or.inr (h.cut hl)
theorem Fp.nam (h : Fp b f r s []) (fl : Nat) (h4 : s.fl / 4 % 2 = 0) (h8 : s.fl / 8 % 2 = fl / 8 % 2) (h16 : s.fl / 16 % 2 = fl / 16 % 2) (h2 : s.fl / 2 % 2 = fl / 2 % 2) : (∃ sf, Fp b f (hnam b fl r).1 sf (hnam b fl r).2 ∧ sf.fl / 4 % 2 = 0 ∧ sf.fl / 8 % 2 = 0 ∧ sf.fl / 16 % 2 = fl / 16 % 2 ∧ sf.fl / 2 % 2 = fl / 2 % 2) ∨ Js b (hnam b fl r).1 := by
 unfold hnam
 by_cases h1 : fl / 8 % 2 = 1
 ·rw [if_pos ⟨h.why, h1⟩]
  have q := h.on (k := 6) (s1 := { s with fl := s.fl - 8, nx := 6, lf := 256 }) (by unfold gfield; rw [if_neg (by omega), if_pos (by omega)]) h.sw rfl rfl h.wh h.nm h.nb
  unfold gtext
  rw [if_pos h.why]
  have hpl := h.rch.1
  rcases text_run r.pos (Or.inl rfl) 258 r _ [] 0 q (Nat.le_refl _) (by show 256 + _ = 256; omega) (by omega) (fun _ => by symm; rw [List.drop_eq_nil_iff, List.length_take]; omega) with ⟨sf, n', q1, q2, q3, q4⟩ | q1
  ·rw [q3 rfl] at q1
   refine Or.inl ⟨sf, q1, ?_⟩
   have e : sf.fl = s.fl - 8 := q2
   rw [e]
   omega
  ·exact Or.inr q1
 ·rw [if_neg (fun q => h1 q.2)]
  exact Or.inl ⟨s, h, h4, by omega, h16, h2⟩
theorem Fp.com (h : Fp b f r s n) (fl : Nat) (h4 : s.fl / 4 % 2 = 0) (h8 : s.fl / 8 % 2 = 0) (h16 : s.fl / 16 % 2 = fl / 16 % 2) (h2 : s.fl / 2 % 2 = fl / 2 % 2) : (∃ sf, Fp b f (hcom b fl r) sf n ∧ sf.fl / 4 % 2 = 0 ∧ sf.fl / 8 % 2 = 0 ∧ sf.fl / 16 % 2 = 0 ∧ sf.fl / 2 % 2 = fl / 2 % 2) ∨ Js b (hcom b fl r) := by
 unfold hcom
 by_cases h1 : fl / 16 % 2 = 1
 ·rw [if_pos ⟨h.why, h1⟩]
  have q := h.on (k := 7) (s1 := { s with fl := s.fl - 16, nx := 7, lf := 256 }) (by unfold gfield; rw [if_neg (by omega), if_neg (by omega), if_pos (by omega)]) h.sw rfl rfl h.wh h.nm h.nb
  unfold gtext
  rw [if_pos h.why]
  rcases text_run r.pos (Or.inr rfl) 258 r _ n 0 q (Nat.le_refl _) (by show 256 + _ = 256; omega) (by omega) (fun e => by cases e) with ⟨sf, n', q1, q2, q3, q4⟩ | q1
  ·rw [q4 rfl] at q1
   refine Or.inl ⟨sf, q1, ?_⟩
   have e : sf.fl = s.fl - 16 := q2
   rw [e]
   omega
  ·exact Or.inr q1
 ·rw [if_neg (fun q => h1 q.2)]
  exact Or.inl ⟨s, h, h4, h8, by omega, h2⟩
structure Op1 (b : List Nat) (r : Gr) (s : Gs) (n : List Nat) : Prop where
 why : r.why = 0
 rch : Rch b r.pos s (r.ev ++ [(r.pos - 1, 256, n)])
 sw : s.why = 0
 nx : s.nx = 9
 wh : s.wh = false
 ip : s.ip = []
 y : s.y = c0
 nm : s.nm = []
 nb : s.nb < 4294967296
 sm : s.sm = 0
 gv : s.gv = 0
theorem Fp.hsum (ho : Oct b) (h : Fp b f r s n) (fl : Nat) (h4 : s.fl / 4 % 2 = 0) (h8 : s.fl / 8 % 2 = 0) (h16 : s.fl / 16 % 2 = 0) (h2 : s.fl / 2 % 2 = fl / 2 % 2) : (∃ s1, Op1 b (Go.Proofs.YtogednaamndpgaaGreatDoor.hsum b fl f r) s1 n) ∨ Js b (Go.Proofs.YtogednaamndpgaaGreatDoor.hsum b fl f r) := by
 unfold Go.Proofs.YtogednaamndpgaaGreatDoor.hsum
 by_cases h1 : fl / 2 % 2 = 1
 ·rw [if_pos ⟨h.why, h1⟩]
  have q := h.on (k := 8) (s1 := { s with fl := s.fl - 2, nx := 8, lf := 2 }) (by unfold gfield; rw [if_neg (by omega), if_neg (by omega), if_neg (by omega), if_pos (by omega)]) h.sw rfl rfl h.wh h.nm h.nb
  obtain ⟨s1, hs1⟩ : ∃ s1, s1 = { s with fl := s.fl - 2, nx := 8, lf := 2 } := ⟨_, rfl⟩
  rw [← hs1] at q
  have hlf : s1.lf = 2 := by rw [hs1]
  clear hs1
  have hsm := q.sum
  by_cases hl : r.pos < b.length
  ·obtain ⟨x, hx⟩ := at_lt hl
   have hxo := ho x (List.mem_of_getElem? hx)
   have e1 : gst s1 x = (gath x s1, []) := by
    unfold gst; rw [q.nx]; show ghsm (gath x s1) = _
    unfold ghsm; rw [if_neg (by show ¬ s1.lf - 1 = 0; omega)]
   have q1 := q.rch.step q.sw hx (s1 := gath x s1) (E := []) (Or.inr ⟨by rw [q.nx]; decide, by rw [e1], by rw [e1]⟩)
   by_cases hl2 : r.pos + 1 < b.length
   ·obtain ⟨z, hz⟩ := at_lt (r := { r with pos := r.pos + 1 }) hl2
    have hzo := ho z (List.mem_of_getElem? hz)
    have e2 : gst (gath x s1) z = ghsm (gath z (gath x s1)) := by unfold gst; rw [show (gath x s1).nx = 8 from q.nx]; rfl
    have en : (gath z (gath x s1)).nb / 65536 = x + 256 * z := by
     show ((s1.nb / 256 + x * 16777216) / 256 + z * 16777216) / 65536 = _
     have := q.nb
     omega
    have es : (gath z (gath x s1)).sm = sm 0 ((b.take r.pos).drop f) := hsm
    unfold ghsm at e2
    rw [if_pos (by show s1.lf - 1 - 1 = 0; omega), en, es] at e2
    rw [gval_two_at hx hz, gnum_go (by omega)]
    unfold hsb
    have st : ∀ (s2 : Gs) (E : List Evn), gst (gath x s1) z = (s2, E) → Rch b (r.pos + 1 + 1) s2 (r.ev ++ evs (r.pos + 1) E) := fun s2 E e => by
     have := q1.step (show (gath x s1).why = 0 from q.sw) hz (s1 := s2) (E := E) (Or.inr ⟨by show s1.nx ≠ 9; rw [q.nx]; decide, by rw [e], by rw [e]⟩)
     simpa [evs] using this
    by_cases hs : x + 256 * z = sm 0 ((b.take r.pos).drop f) % 65536
    ·rw [if_pos hs] at e2
     rw [if_neg (fun q => q.2 hs)]
     have q2 := st (gopn (gath z (gath x s1))).1 [(256, (gath z (gath x s1)).nm)] (by rw [e2]; rfl)
     refine Or.inl ⟨(gopn (gath z (gath x s1))).1, h.why, ?_, q.sw, rfl, q.wh, rfl, rfl, rfl, gath_lt hzo (gath_lt hxo q.nb), rfl, rfl⟩
     have en : (gath z (gath x s1)).nm = n := q.nm
     rw [en] at q2
     simpa [evs] using q2
    ·rw [if_neg hs] at e2
     rw [if_pos ⟨h.why, hs⟩]
     have q2 := st _ _ e2
     exact Or.inr ⟨by show (43 : Nat) ≠ 0; decide, r.pos + 1 + 1, _, by simpa [evs, gstop] using q2, Or.inr ⟨rfl, by show r.pos + 1 + 1 = r.pos + 2 - 1 + 1; omega⟩⟩
   ·rw [gnum_cut (by omega)]
    unfold hsb
    rw [if_neg (fun q => by have := q.1; simp [gstop] at this)]
    exact Or.inr ⟨by show (1 : Nat) ≠ 0; decide, r.pos + 1, gath x s1, by simpa [evs, gstop] using q1, Or.inl ⟨q.sw, q.wh, by have := q1.1; omega, rfl, rfl⟩⟩
  ·rw [gnum_cut (by omega)]
   unfold hsb
   rw [if_neg (fun q => by have := q.1; simp [gstop] at this)]
   exact Or.inr (q.cut hl)
 ·rw [if_neg (fun q => h1 q.2)]
  have eg : gfield s = gopn s := by unfold gfield; rw [if_neg (by omega), if_neg (by omega), if_neg (by omega), if_neg (by omega)]
  have q := h.rch
  rw [eg] at q
  refine Or.inl ⟨(gopn s).1, h.why, ?_, h.sw, rfl, h.wh, rfl, rfl, rfl, h.nb, rfl, rfl⟩
  have : (gopn s).2 = [(256, n)] := by show [(256, s.nm)] = _; rw [h.nm]
  rw [this] at q
  exact q
theorem Sp0.head (ho : Oct b) (h : Sp0 b r s) : (∃ s1, Op1 b (ghead b r).1 s1 (ghead b r).2) ∨ Js b (ghead b r).1 := by
 unfold ghead
 rcases h.mag with ⟨s1, q⟩ | q
 ·rw [if_pos q.why]
  obtain ⟨fl, hfl⟩ : ∃ fl, gval b 1 (hmag b r) = fl := ⟨_, rfl⟩
  have q1 := q.flags
  rw [hfl] at q1 ⊢
  have e3 : ∀ r1, r1.why ≠ 0 → hoth b r1 = r1 := fun r1 h => by unfold hoth; rw [if_neg h]
  have e4 : ∀ r1, r1.why ≠ 0 → hext b fl r1 = r1 := fun r1 h => by unfold hext; rw [if_neg (fun q => h q.1)]
  have e5 : ∀ r1, r1.why ≠ 0 → hnam b fl r1 = (r1, []) := fun r1 h => by unfold hnam; rw [if_neg (fun q => h q.1)]
  have e6 : ∀ r1, r1.why ≠ 0 → hcom b fl r1 = r1 := fun r1 h => by unfold hcom; rw [if_neg (fun q => h q.1)]
  have e7 : ∀ r1 f, r1.why ≠ 0 → hsum b fl f r1 = r1 := fun r1 f h => by unfold hsum; rw [if_neg (fun q => h q.1)]
  unfold hres
  rcases q1 with ⟨s2, q2, a1, a2, a3⟩ | q2
  ·rcases q2.oth a1 with ⟨s3, q3, b1⟩ | q3
   ·rcases q3.ext ho fl (b1.trans a2) with ⟨s4, q4, c1, c2, c3, c4⟩ | q4
    ·rcases q4.nam fl c1 c2 c3 c4 with ⟨s5, q5, d1, d2, d3, d4⟩ | q5
     ·rcases q5.com fl d1 d2 d3 d4 with ⟨s6, q6, f1, f2, f3, f4⟩ | q6
      ·exact q6.hsum ho fl f1 f2 f3 f4
      ·exact Or.inr (by show Js b (hsum b fl r.pos (hcom b fl _)); rw [e7 _ _ q6.1]; exact q6)
     ·exact Or.inr (by simp only []; rw [e6 _ q5.1, e7 _ _ q5.1]; exact q5)
    ·exact Or.inr (by simp only []; rw [e5 _ q4.1, e6 _ q4.1, e7 _ _ q4.1]; exact q4)
   ·exact Or.inr (by simp only []; rw [e4 _ q3.1, e5 _ q3.1, e6 _ q3.1, e7 _ _ q3.1]; exact q3)
  ·exact Or.inr (by simp only []; rw [e3 _ q2.1, e4 _ q2.1, e5 _ q2.1, e6 _ q2.1, e7 _ _ q2.1]; exact q2)
 ·rw [if_neg q.1]
  exact Or.inr q
end
end Go.Proofs.YtogednaamndpgaaGreatDoor

/-
  A member's deflated bytes and what stands behind them: what the document says is what the machine comes to. No walk.
-/
namespace Go.Proofs.YtogednaamndpgaaGreatDoor
open Go.RowKit
set_option linter.unusedVariables false
section
variable {bs : List Bool} {M : Nat}
theorem give_oct {k : St} {v p : Nat} {c : Cfg} (hc : Oct c.out) (hv : v < 256) : Oct (give M k v p c).out := by
  unfold give
  split
  · intro x hx
    rcases List.mem_append.1 hx with h | h
    · exact hc x h
    · rw [List.mem_singleton.1 h]; exact hv
  · exact hc
theorem step_oct {c d : Cfg} (h : step bs M c = some d) (hc : Oct c.out) : Oct d.out := by
  obtain ⟨st, pos, out, times⟩ := c
  unfold step at h
  cases st using St.el with
  | head last =>
    cases last with
    | true => simp only [Option.some.injEq] at h; subst h; exact hc
    | false => simp only [Option.map_eq_some_iff] at h; obtain ⟨v, hv, rfl⟩ := h; exact hc
  | sraw last n =>
    cases n with
    | zero => simp only [Option.some.injEq] at h; subst h; exact hc
    | succ n =>
      simp only [Option.map_eq_some_iff] at h
      obtain ⟨v, hv, rfl⟩ := h
      exact give_oct hc (numb_lt hv)
  | dfst last a b i j first =>
    simp only [] at h
    split at h
    · simp only [Option.map_eq_some_iff] at h; obtain ⟨v, hv, rfl⟩ := h; exact hc
    · simp only [Option.some.injEq] at h; subst h; exact hc
  | dsym last a b code l =>
    simp only [] at h
    split at h
    · cases e : sread code (bs.drop pos) using SR.el with
      | cut => rw [e] at h; cases h
      | bad j => rw [e] at h; simp only [Option.some.injEq] at h; subst h; exact hc
      | got s n => rw [e] at h; simp only [Option.some.injEq] at h; subst h; exact hc
    · simp only [Option.some.injEq] at h; subst h; exact hc
  | sym last lit di =>
    simp only [] at h
    cases e : sread lit (bs.drop pos) using SR.el with
    | cut => rw [e] at h; cases h
    | bad j => rw [e] at h; simp only [Option.some.injEq] at h; subst h; exact hc
    | got s n =>
      rw [e] at h
      simp only [] at h
      split at h
      · rename_i hs; simp only [Option.some.injEq] at h; subst h; exact give_oct hc hs
      · simp only [Option.some.injEq] at h; subst h; exact hc
  | dist last lit di n =>
    simp only [] at h
    cases e : sread di (bs.drop pos) using SR.el with
    | cut => rw [e] at h; cases h
    | bad j => rw [e] at h; simp only [Option.some.injEq] at h; subst h; exact hc
    | got s n => rw [e] at h; simp only [Option.some.injEq] at h; subst h; exact hc
  | copy last lit di n d =>
    cases n with
    | zero => simp only [Option.some.injEq] at h; subst h; exact hc
    | succ n =>
      simp only [Option.some.injEq] at h
      subst h
      refine give_oct hc ?_
      show out.getD (out.length - d) 0 < 256
      rw [List.getD_eq_getElem?_getD]
      cases e : out[out.length - d]? with
      | none => decide
      | some v => exact hc v (List.mem_of_getElem? e)
  | done => cases h
  | bad y => cases h
  | _ => simp only [Option.map_eq_some_iff] at h; obtain ⟨v, hv, rfl⟩ := h; exact hc
theorem runs_oct {c d : Cfg} (h : Runs bs M c d) (hc : Oct c.out) : Oct d.out := by
  induction h using Runs.el with
  | refl => exact hc
  | cons h1 _ ih => exact ih (step_oct h1 hc)
theorem Stands.oct {I : List Nat} {y : Cfg} (h : Stands I M y) : Oct y.out := runs_oct h.1 (fun x hx => by cases hx)
theorem Stands.tl {I : List Nat} {y : Cfg} (h : Stands I M y) : y.times.length = y.out.length := times_len h.1 (Nat.zero_le _) rfl
end
theorem open_c3 {y : Cfg} (h : ¬ Over y) : endC y = false ∧ badC y = 0 ∧ whyC y = 1 := by
  unfold endC badC whyC
  cases e : y.st using St.el <;> first | exact ⟨rfl, rfl, rfl⟩ | exact absurd (Or.inl e) h | exact absurd (Or.inr ⟨_, e⟩) h
theorem done_c3 {y : Cfg} (h : y.st = .done) : endC y = true ∧ badC y = 0 ∧ whyC y = 0 := by unfold endC badC whyC; rw [h]; exact ⟨rfl, rfl, rfl⟩
theorem bad_c3 {y : Cfg} {k : Nat} (h : y.st = .bad k) : endC y = false ∧ badC y = k ∧ whyC y = k := by unfold endC badC whyC; rw [h]; exact ⟨rfl, rfl, rfl⟩
theorem c0_open : ¬ Over c0 := by
  rintro (e | ⟨y, e⟩) <;> simp [c0] at e
def gtells (p : Nat) (z : Cfg) : List Gev := List.zipWith (fun t x => (p + t, x, [])) z.times z.out
theorem gtells_next {p : Nat} {y y' : Cfg} {o : List Nat} {t : Nat} (hl : y.times.length = y.out.length) (h1 : y'.out = y.out ++ o) (h2 : y'.times = y.times ++ List.replicate o.length t) : gtells p y' = gtells p y ++ evs (p + t) (o.map fun b => (b, [])) := by
  unfold gtells
  rw [h1, h2, List.zipWith_append hl]
  congr 1
  clear h1 h2 hl
  induction o with
  | nil => rfl
  | cons a o ih => simp only [List.length_cons, List.replicate_succ, List.zipWith_cons_cons, List.map_cons, evs] at ih ⊢; rw [ih]
def gdd (s : Gs) (I : List Nat) (y : Cfg) : Gs := { s with ip := I, y := y, sm := sm 0 y.out, gv := y.out.length, nx := if endC y then 10 else 9, lf := if endC y then 4 else s.lf, why := badC y }
section
variable {b : List Nat} {r : Gr} {s : Gs} {n : List Nat}
theorem Op1.gdd (h : Op1 b r s n) : s = gdd s [] c0 := by
  obtain ⟨nx, fl, nm, lf, nb, sm_, gv, wh, why, ip, y⟩ := s
  have h1 := h.nx; have h2 := h.ip; have h3 := h.y; have h4 := h.sm; have h5 := h.gv; have h6 := h.sw
  simp only at h1 h2 h3 h4 h5 h6
  subst h1 h2 h3 h4 h5 h6
  rfl
theorem data_run (h : Op1 b r s n) : ∀ (k : Nat), k ≤ (b.drop r.pos).length → (∀ j, j < k → ∀ y, Stands ((b.drop r.pos).take j) MM y → ¬ Over y) → ∃ y, Stands ((b.drop r.pos).take k) MM y ∧ Rch b (r.pos + k) (gdd s ((b.drop r.pos).take k) y) (r.ev ++ [(r.pos - 1, 256, n)] ++ gtells r.pos y)
  | 0, hk, hn => ⟨c0, by rw [List.take_zero]; exact stands_nil MM, by
      rw [List.take_zero, ← h.gdd]
      have := h.rch
      simpa [gtells, c0] using this⟩
  | k + 1, hk, hn => by
    obtain ⟨y, h1, h2⟩ := data_run h k (by omega) (fun j hj => hn j (by omega))
    obtain ⟨a1, a2, a3⟩ := open_c3 (hn k (by omega) y h1)
    have hkl : k < (b.drop r.pos).length := hk
    have et : (b.drop r.pos).take (k + 1) = (b.drop r.pos).take k ++ [(b.drop r.pos)[k]] := List.take_succ_eq_append_getElem hkl
    obtain ⟨y', h3⟩ := stands_ex ((b.drop r.pos).take (k + 1)) MM
    have h4 := h3
    rw [et] at h4
    obtain ⟨o, q1, q2, _⟩ := h1.next h4
    have hx : b[r.pos + k]? = some (b.drop r.pos)[k] := by rw [List.getElem_drop, List.getElem?_eq_getElem]
    have q3 := h2.step (by show badC y = 0; exact a2) hx (s1 := gdd s ((b.drop r.pos).take (k + 1)) y') (E := o.map fun b => (b, [])) (Or.inl ⟨by show (if endC y then 10 else 9) = 9; rw [a1]; rfl, y', h4, ?_, ?_⟩)
    · refine ⟨y', h3, ?_⟩
      have hlen : ((b.drop r.pos).take k).length = k := by rw [List.length_take]; omega
      rw [hlen] at q2
      rw [gtells_next h1.tl q1 q2, ← List.append_assoc]
      exact q3
    · rw [et]
      unfold Go.Proofs.YtogednaamndpgaaGreatDoor.gdd gdat
      simp only [a1]
      rfl
    · show _ = List.map _ (y'.out.drop y.out.length)
      rw [q1, List.drop_left]
end
theorem first_of (P : Nat → Prop) : ∀ n, P n → ∃ k, k ≤ n ∧ P k ∧ ∀ j, j < k → ¬ P j := by
  intro n
  induction n using Nat.strongRecOn with
  | ind n ih =>
    intro h
    by_cases hq : ∃ j, j < n ∧ P j
    · obtain ⟨j, hj, hp⟩ := hq
      obtain ⟨k, h1, h2, h3⟩ := ih j hj hp
      exact ⟨k, by omega, h2, h3⟩
    · exact ⟨n, Nat.le_refl n, h, fun j hj hp => hq ⟨j, hj, hp⟩⟩
section
variable {D : List Nat} {N : Nat} {z : Cfg}
theorem over_first (hz : Stands D N z) (ho : Over z) : ∃ k, k < D.length ∧ Stands (D.take (k + 1)) N z ∧ (∀ j, j ≤ k → ∀ y, Stands (D.take j) N y → ¬ Over y) ∧ 8 * k < z.pos ∧ z.pos ≤ 8 * (k + 1) := by
  obtain ⟨k, h1, ⟨y, h2, h3⟩, h4⟩ := first_of (fun k => ∃ y, Stands (D.take k) N y ∧ Over y) D.length ⟨z, by rw [List.take_length]; exact hz, ho⟩
  have hy : y = z := (h2.of_take h3).one hz
  subst hy
  have hk : k ≠ 0 := by
    rintro rfl
    rw [List.take_zero] at h2
    have := h2.one (stands_nil N)
    rw [this] at ho
    exact c0_open ho
  obtain ⟨m, rfl⟩ : ∃ m, k = m + 1 := ⟨k - 1, by omega⟩
  refine ⟨m, by omega, h2, fun j hj y' q1 q2 => h4 j (by omega) ⟨y', q1, q2⟩, ?_, ?_⟩
  · obtain ⟨e, q1⟩ := stands_ex (D.take m) N
    have q2 : ¬ Over e := fun q => h4 m (by omega) ⟨e, q1, q⟩
    have hlen : (D.take m).length = m := by rw [List.length_take]; omega
    have et : D.take (m + 1) = D.take m ++ [D[m]] := List.take_succ_eq_append_getElem (by omega)
    rw [et] at h2
    have := over_pos q1 q2 h2 h3
    rwa [hlen] at this
  · have := h2.pos
    rw [List.length_take] at this
    omega
theorem open_all (hz : Stands D N z) (ho : ¬ Over z) (j : Nat) (y : Cfg) (h : Stands (D.take j) N y) : ¬ Over y := fun q => ho ((h.of_take q).one hz ▸ q)
end
def le4 (b : List Nat) (p : Nat) : Nat := le ((b.drop p).take 4)
section
variable {b : List Nat} {s : Gs} {T : List Gev}
theorem le4_at {p x0 x1 x2 x3 : Nat} (h0 : b[p]? = some x0) (h1 : b[p + 1]? = some x1) (h2 : b[p + 2]? = some x2) (h3 : b[p + 3]? = some x3) : le4 b p = x0 + 256 * x1 + 65536 * x2 + 16777216 * x3 := by
  obtain ⟨p0, e0⟩ := List.getElem?_eq_some_iff.1 h0
  obtain ⟨p1, e1⟩ := List.getElem?_eq_some_iff.1 h1
  obtain ⟨p2, e2⟩ := List.getElem?_eq_some_iff.1 h2
  obtain ⟨p3, e3⟩ := List.getElem?_eq_some_iff.1 h3
  unfold le4
  rw [List.drop_eq_getElem_cons p0, List.drop_eq_getElem_cons p1, List.drop_eq_getElem_cons p2, List.drop_eq_getElem_cons p3, e0, e1, e2, e3]
  simp [le]
  omega
theorem tail_run (ho : Oct b) (g : Gs → Gs × List Evn) (K p : Nat) (hK : K ≠ 9) (hg : ∀ s x, s.nx = K → gst s x = g (gath x s)) (hg2 : ∀ s, s.lf ≠ 0 → g s = (s, [])) (h : Rch b p s T) (h0 : s.why = 0) (hn : s.nx = K) (hl : s.lf = 4) (hw : s.wh = false) (hb : s.nb < 4294967296) : (b.length < p + 4 ∧ Jz b T 1 b.length) ∨ (p + 4 ≤ b.length ∧ ∃ s', s' = { s with lf := 0, nb := le4 b p } ∧ Rch b (p + 4) (g s').1 (T ++ evs (p + 3) (g s').2)) := by
  have cut : ∀ (q : Nat) (s1 : Gs), Rch b q s1 T → s1.why = 0 → s1.wh = false → ¬ q < b.length → Jz b T 1 b.length := fun q s1 hr h1 h2 hq => ⟨by decide, q, s1, hr, Or.inl ⟨h1, h2, by have := hr.1; omega, rfl, rfl⟩⟩
  have stepn : ∀ (q x : Nat) (s1 : Gs), Rch b q s1 T → s1.why = 0 → s1.nx = K → s1.lf - 1 ≠ 0 → b[q]? = some x → Rch b (q + 1) (gath x s1) T := fun q x s1 hr h1 h2 h3 hx => by
    have e : gst s1 x = (gath x s1, []) := (hg s1 x h2).trans (hg2 _ h3)
    have := hr.step h1 hx (s1 := gath x s1) (E := []) (Or.inr ⟨by rw [h2]; exact hK, by rw [e], by rw [e]⟩)
    simpa [evs] using this
  by_cases c0 : p < b.length
  · obtain ⟨x0, e0⟩ : ∃ x, b[p]? = some x := ⟨_, List.getElem?_eq_getElem c0⟩
    have r1 := stepn p x0 s h h0 hn (by omega) e0
    by_cases c1 : p + 1 < b.length
    · obtain ⟨x1, e1⟩ : ∃ x, b[p + 1]? = some x := ⟨_, List.getElem?_eq_getElem c1⟩
      have r2 := stepn (p + 1) x1 _ r1 h0 hn (by show s.lf - 1 - 1 ≠ 0; omega) e1
      by_cases c2 : p + 2 < b.length
      · obtain ⟨x2, e2⟩ : ∃ x, b[p + 2]? = some x := ⟨_, List.getElem?_eq_getElem c2⟩
        have r3 := stepn (p + 2) x2 _ r2 h0 hn (by show s.lf - 1 - 1 - 1 ≠ 0; omega) e2
        by_cases c3 : p + 3 < b.length
        · obtain ⟨x3, e3⟩ : ∃ x, b[p + 3]? = some x := ⟨_, List.getElem?_eq_getElem c3⟩
          have o0 := ho x0 (List.mem_of_getElem? e0)
          have o1 := ho x1 (List.mem_of_getElem? e1)
          have o2 := ho x2 (List.mem_of_getElem? e2)
          have o3 := ho x3 (List.mem_of_getElem? e3)
          have eg : gst (gath x2 (gath x1 (gath x0 s))) x3 = g (gath x3 (gath x2 (gath x1 (gath x0 s)))) := hg _ _ hn
          have es : gath x3 (gath x2 (gath x1 (gath x0 s))) = { s with lf := 0, nb := le4 b p } := by
            have en : (((s.nb / 256 + x0 * 16777216) / 256 + x1 * 16777216) / 256 + x2 * 16777216) / 256 + x3 * 16777216 = le4 b p := by rw [le4_at e0 e1 e2 e3]; omega
            show { s with lf := s.lf - 1 - 1 - 1 - 1, nb := (((s.nb / 256 + x0 * 16777216) / 256 + x1 * 16777216) / 256 + x2 * 16777216) / 256 + x3 * 16777216 } = _
            rw [en, hl]
          have r4 := r3.step h0 e3 (s1 := (g { s with lf := 0, nb := le4 b p }).1) (E := (g { s with lf := 0, nb := le4 b p }).2) (Or.inr ⟨by show s.nx ≠ 9; rw [hn]; exact hK, by rw [eg, es], by rw [eg, es]⟩)
          exact Or.inr ⟨c3, _, rfl, r4⟩
        · exact Or.inl ⟨by omega, cut (p + 3) _ r3 h0 hw c3⟩
      · exact Or.inl ⟨by omega, cut (p + 2) _ r2 h0 hw c2⟩
    · exact Or.inl ⟨by omega, cut (p + 1) _ r1 h0 hw c1⟩
  · exact Or.inl ⟨by omega, cut p s h h0 hw c0⟩
end
def mtail (b : List Nat) (z : Cfg) (r : Gr) : Gr :=
  if (gnum b 4 r).why = 0 ∧ gval b 4 r ≠ sm 0 z.out then gstop 44 ((gnum b 4 r).pos - 1) (gnum b 4 r) else gnum b 4 r
def msize (b : List Nat) (z : Cfg) (r : Gr) : Gr :=
  if (gnum b 4 r).why = 0 ∧ gval b 4 r ≠ z.out.length % 4294967296 then gstop 45 ((gnum b 4 r).pos - 1) (gnum b 4 r) else gnum b 4 r
def mclose (r : Gr) : Gr := if r.why = 0 then { r with ev := r.ev ++ [(r.pos - 1, 257, [])] } else r
def mdata (b : List Nat) (n : List Nat) (z : Cfg) (r : Gr) : Gr := { r with ev := r.ev ++ [(r.pos - 1, 256, n)] ++ gtells r.pos z, left := r.left - z.out.length }
def mrest (b : List Nat) (z : Cfg) (r : Gr) : Gr := if (mtail b z r).why = 0 then mclose (msize b z (mtail b z r)) else mtail b z r
def gmemb (b : List Nat) (r : Gr) (z : Cfg) : Gr :=
  if (ghead b r).1.why = 0 then
    (if endC z then mrest b z { mdata b (ghead b r).2 z (ghead b r).1 with pos := (ghead b r).1.pos + atC (b.length - (ghead b r).1.pos) z + 1 }
     else gstop (whyC z) (min ((ghead b r).1.pos + atC (b.length - (ghead b r).1.pos) z) b.length) (mdata b (ghead b r).2 z (ghead b r).1))
  else (ghead b r).1
def Jx (b : List Nat) (r : Gr) : Prop := r.why = 62 ∧ r.left = 0 ∧ ∃ k s T x U, Rch b k s T ∧ T.map (fun e => e.2) = r.ev.map (fun e => e.2) ++ (x, []) :: U ∧ x < 256
structure Sb (b : List Nat) (r : Gr) (s : Gs) : Prop where
  why : r.why = 0
  rch : Rch b r.pos s r.ev
  sw : s.why = 0
  nx : s.nx = 12
  wh : s.wh = true
  nm : s.nm = []
  nb : s.nb < 4294967296
theorem gval4 {b : List Nat} {r : Gr} (h : r.pos + 4 ≤ b.length) : gval b 4 r = le4 b r.pos := by unfold gval le4; rw [if_neg (by omega)]
theorem le4_lt {b : List Nat} (ho : Oct b) (p : Nat) : le4 b p < 4294967296 := by
  have h1 := le_lt ((b.drop p).take 4) (fun x hx => ho x (List.mem_of_mem_drop (List.mem_of_mem_take hx)))
  have h2 : ((b.drop p).take 4).length ≤ 4 := by rw [List.length_take]; omega
  have h3 : 256 ^ ((b.drop p).take 4).length ≤ 256 ^ 4 := Nat.pow_le_pow_right (by decide) h2
  unfold le4
  omega
section
variable {b : List Nat} {r : Gr} {s : Gs} {n : List Nat} {z : Cfg}
theorem mtail_cut (h : b.length < r.pos + 4) : mtail b z r = gstop 1 b.length r := by
  unfold mtail
  rw [gnum_cut h]
  exact if_neg (fun q => by have := q.1; simp [gstop] at this)
theorem mtail_at (h : r.pos + 4 ≤ b.length) (hy : r.why = 0) : mtail b z r = if le4 b r.pos = sm 0 z.out then { r with pos := r.pos + 4 } else gstop 44 (r.pos + 4 - 1) { r with pos := r.pos + 4 } := by
  unfold mtail
  rw [gnum_go h, gval4 h]
  by_cases e : le4 b r.pos = sm 0 z.out
  · rw [if_pos e, if_neg (fun q => q.2 e)]
  · rw [if_neg e, if_pos ⟨hy, e⟩]
theorem msize_cut (h : b.length < r.pos + 4) : msize b z r = gstop 1 b.length r := by
  unfold msize
  rw [gnum_cut h]
  exact if_neg (fun q => by have := q.1; simp [gstop] at this)
theorem msize_at (h : r.pos + 4 ≤ b.length) (hy : r.why = 0) : msize b z r = if le4 b r.pos = z.out.length % 4294967296 then { r with pos := r.pos + 4 } else gstop 45 (r.pos + 4 - 1) { r with pos := r.pos + 4 } := by
  unfold msize
  rw [gnum_go h, gval4 h]
  by_cases e : le4 b r.pos = z.out.length % 4294967296
  · rw [if_pos e, if_neg (fun q => q.2 e)]
  · rw [if_neg e, if_pos ⟨hy, e⟩]
theorem rest_ok (ho : Oct b) (h : Rch b r.pos s r.ev) (hy : r.why = 0) (h0 : s.why = 0) (hn : s.nx = 10) (hl : s.lf = 4) (hw : s.wh = false) (hb : s.nb < 4294967296) (hs : s.sm = sm 0 z.out) (hgv : s.gv = z.out.length) (hnm : s.nm = []) : (∃ s1, Sb b (mrest b z r) s1) ∨ Js b (mrest b z r) := by
  unfold mrest
  rcases tail_run ho gdsm 10 r.pos (by decide) (fun s x e => by unfold gst; rw [e]; rfl) (fun s e => by unfold gdsm; rw [if_neg e]) h h0 hn hl hw hb with ⟨q1, q2⟩ | ⟨q1, s', q2, q3⟩
  · rw [mtail_cut q1, if_neg (by simp [gstop])]
    exact Or.inr q2
  · rw [mtail_at q1 hy]
    have e1 : gdsm s' = if le4 b r.pos = sm 0 z.out then ({ s' with nx := 11, lf := 4 }, []) else (gbad 44 s', []) := by
      unfold gdsm
      rw [if_pos (by rw [q2]), show s'.nb = le4 b r.pos by rw [q2], show s'.sm = sm 0 z.out by rw [q2]; exact hs]
    by_cases hm : le4 b r.pos = sm 0 z.out
    · rw [if_pos hm] at e1
      rw [if_pos hm, if_pos hy]
      rw [e1] at q3
      have q4 : Rch b (r.pos + 4) { s' with nx := 11, lf := 4 } r.ev := by simpa [evs] using q3
      rcases tail_run (s := { s' with nx := 11, lf := 4 }) ho gdsz 11 (r.pos + 4) (by decide) (fun s x e => by unfold gst; rw [e]; rfl) (fun s e => by unfold gdsz; rw [if_neg e]) q4 (by rw [q2]; exact h0) rfl rfl (by rw [q2]; exact hw) (by rw [q2]; exact le4_lt ho _) with ⟨p1, p2⟩ | ⟨p1, s2, p2, p3⟩
      · rw [msize_cut (r := { r with pos := r.pos + 4 }) p1]
        unfold mclose
        rw [if_neg (by simp [gstop])]
        exact Or.inr p2
      · rw [msize_at (r := { r with pos := r.pos + 4 }) p1 hy]
        have e2 : gdsz s2 = if le4 b (r.pos + 4) = z.out.length % 4294967296 then ({ s2 with wh := true, nx := 12 }, [(257, [])]) else (gbad 45 s2, []) := by
          unfold gdsz
          rw [if_pos (by rw [p2]), show s2.nb = le4 b (r.pos + 4) by rw [p2], show s2.gv = z.out.length by rw [p2, q2]; exact hgv]
        by_cases hz : le4 b (r.pos + 4) = z.out.length % 4294967296
        · rw [if_pos hz] at e2
          rw [if_pos hz]
          unfold mclose
          rw [if_pos hy]
          rw [e2] at p3
          refine Or.inl ⟨{ s2 with wh := true, nx := 12 }, hy, ?_, by rw [p2, q2]; exact h0, rfl, rfl, by rw [p2, q2]; exact hnm, by rw [p2]; exact le4_lt ho _⟩
          show Rch b (r.pos + 4 + 4) _ (r.ev ++ [(r.pos + 4 + 4 - 1, 257, [])])
          rw [show r.pos + 4 + 4 - 1 = r.pos + 4 + 3 by omega]
          exact p3
        · rw [if_neg hz] at e2
          rw [if_neg hz]
          unfold mclose
          rw [if_neg (by simp [gstop])]
          rw [e2] at p3
          exact Or.inr ⟨by show (45 : Nat) ≠ 0; decide, r.pos + 4 + 4, gbad 45 s2, by simpa [evs, gstop] using p3, Or.inr ⟨rfl, by show r.pos + 4 + 4 = r.pos + 4 + 4 - 1 + 1; omega⟩⟩
    · rw [if_neg hm] at e1
      rw [if_neg hm, if_neg (by simp [gstop])]
      rw [e1] at q3
      exact Or.inr ⟨by show (44 : Nat) ≠ 0; decide, r.pos + 4, gbad 44 s', by simpa [evs, gstop] using q3, Or.inr ⟨rfl, by show r.pos + 4 = r.pos + 4 - 1 + 1; omega⟩⟩
theorem tells_snd (p : Nat) (z : Cfg) (hl : z.times.length = z.out.length) : (gtells p z).map (fun e => e.2) = z.out.map fun x => (x, []) := by
  obtain ⟨st, pos, out, times⟩ := z
  unfold gtells
  simp only at hl ⊢
  clear st pos
  induction out generalizing times with
  | nil => simp
  | cons a o ih =>
    cases times with
    | nil => simp at hl
    | cons t ts => simp only [List.zipWith_cons_cons, List.map_cons]; rw [ih ts (by simpa using hl)]
theorem bad_nz {D : List Nat} {N k : Nat} (h : Stands D N z) (e : z.st = .bad k) : k ≠ 0 := by
  have := stands_bad h e
  omega
theorem memb_ok (ho : Oct b) (h : Sp0 b r s) (hz : (ghead b r).1.why = 0 → Stands (b.drop (ghead b r).1.pos) (ghead b r).1.left z) (hN : (ghead b r).1.left < MM) : (∃ s1, Sb b (gmemb b r z) s1) ∨ Js b (gmemb b r z) ∨ Jx b (gmemb b r z) := by
  unfold gmemb
  rcases h.head ho with ⟨s1, q⟩ | q
  · rw [if_pos q.why]
    have hz := hz q.why
    obtain ⟨rh, hrh⟩ : ∃ rh, (ghead b r).1 = rh := ⟨_, rfl⟩
    obtain ⟨nm, hnm⟩ : ∃ nm, (ghead b r).2 = nm := ⟨_, rfl⟩
    rw [hrh] at q hz hN ⊢
    rw [hnm] at q ⊢
    clear hrh hnm h
    have hpl := q.rch.1
    obtain ⟨D, hD⟩ : ∃ D, b.drop rh.pos = D := ⟨_, rfl⟩
    have hDl : D.length = b.length - rh.pos := by rw [← hD, List.length_drop]
    have run := data_run q
    rw [hD] at hz run
    rw [← hDl]
    by_cases h62 : z.st = .bad 62
    · -- too much
      obtain ⟨k, k1, k2, k3, k4, k5⟩ := over_first hz (Or.inr ⟨62, h62⟩)
      obtain ⟨b1, b2, b3⟩ := bad_c3 h62
      rw [if_neg (by rw [b1]; decide)]
      have hno : ∀ j, j < k + 1 → ∀ y, Stands (D.take j) MM y → ¬ Over y := by
        intro j hj y hy
        obtain ⟨e, he⟩ := stands_ex (D.take j) rh.left
        have ne := k3 j (by omega) e he
        rcases hy.fewer he (Nat.le_of_lt hN) with ⟨q1, _⟩ | ⟨q1, _⟩
        · exact absurd (Or.inr ⟨62, q1⟩) ne
        · rw [← q1]; exact ne
      obtain ⟨y, y1, y2⟩ := run (k + 1) (by omega) hno
      rcases y1.fewer k2 (Nat.le_of_lt hN) with ⟨_, q2, q3, _⟩ | ⟨q1, q2⟩
      · refine Or.inr (Or.inr ⟨b3, ?_, rh.pos + (k + 1), _, _, y.out[rh.left], (y.out.drop (rh.left + 1)).map (fun x => (x, [])), y2, ?_, ?_⟩)
        · show rh.left - z.out.length = 0
          rw [q2, List.length_take]; omega
        · show _ = List.map _ (rh.ev ++ [(rh.pos - 1, 256, nm)] ++ gtells rh.pos z) ++ _
          rw [List.map_append (l₂ := gtells rh.pos y), List.map_append (l₂ := gtells rh.pos z), tells_snd _ y y1.tl, tells_snd _ z hz.tl, q2, List.append_assoc]
          congr 1
          have e : y.out = y.out.take rh.left ++ y.out[rh.left] :: y.out.drop (rh.left + 1) := by rw [← List.drop_eq_getElem_cons q3, List.take_append_drop]
          conv => lhs; rw [e]
          rw [List.map_append, List.map_cons]
        · exact y1.oct _ (List.getElem_mem _)
      · exfalso
        rw [q1] at h62
        exact stands_62 y1 (by omega) h62
    · have hzM : Stands D MM z := by
        rcases runs_more hz.1 (Nat.le_of_lt hN) with ⟨e, _⟩ | e
        · exact absurd e h62
        · exact ⟨e, step_none_most hz.2⟩
      by_cases hov : Over z
      · obtain ⟨k, k1, k2, k3, k4, k5⟩ := over_first hzM hov
        obtain ⟨y, y1, y2⟩ := run (k + 1) (by omega) (fun j hj => k3 j (by omega))
        have := y1.one k2
        subst this
        have hat : atC D.length y = k := over_at hov k4 k5
        rw [hat]
        rcases hov with e | ⟨w, e⟩
        · obtain ⟨b1, b2, b3⟩ := done_c3 e
          rw [if_pos b1]
          rcases rest_ok (r := { mdata b nm y rh with pos := rh.pos + k + 1 }) (z := y) ho y2 q.why b2 (by show (if endC y then 10 else 9) = 10; rw [b1]; rfl) (by show (if endC y then 4 else s1.lf) = 4; rw [b1]; rfl) q.wh q.nb rfl rfl q.nm with p | p
          · exact Or.inl p
          · exact Or.inr (Or.inl p)
        · obtain ⟨b1, b2, b3⟩ := bad_c3 e
          rw [if_neg (by rw [b1]; decide)]
          refine Or.inr (Or.inl ⟨?_, rh.pos + (k + 1), _, y2, Or.inr ⟨b2.trans b3.symm, ?_⟩⟩)
          · show whyC y ≠ 0
            rw [b3]; exact bad_nz hz e
          · show _ = min (rh.pos + k) b.length + 1
            omega
      · obtain ⟨y, y1, y2⟩ := run D.length (Nat.le_refl _) (fun j hj y' hy' => open_all hzM hov j y' hy')
        rw [List.take_length] at y1
        have := y1.one hzM
        subst this
        obtain ⟨b1, b2, b3⟩ := open_c3 hov
        rw [if_neg (by rw [b1]; decide), (open_at hov).1, b3]
        refine Or.inr (Or.inl ⟨by show (1 : Nat) ≠ 0; decide, rh.pos + D.length, _, y2, Or.inl ⟨b2, q.wh, by omega, rfl, ?_⟩⟩)
        show min (rh.pos + D.length) b.length = b.length
        omega
  · rw [if_neg q.1]
    exact Or.inr (Or.inl q)
end
end Go.Proofs.YtogednaamndpgaaGreatDoor

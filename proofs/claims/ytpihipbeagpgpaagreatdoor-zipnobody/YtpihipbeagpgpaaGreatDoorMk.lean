/-
  Own texts of this seat, one behind the other: what each says stands ahead of it.
-/
import Derived.Test.YtpihipbeagpgpaaGreatDoorMj
import Derived.Test.YtpihipbeagpgpaaGreatDoorMa
import Derived.Test.YtpihipbeagpgpaaGreatDoorChecked
import Derived.WalkSpells
import Derived.OwnWalk
/-
 The zip walker as a machine over bytes: its states, what a byte makes of them, what is told with it. No walk.
-/
namespace Go.Proofs.YtpihipbeagpgpaaGreatDoor
open Go.RowKit
set_option linter.unusedVariables false
def MM : Nat := 1000000000000
def lev : List Nat → Nat
 | [] => 0
 | x :: l => x + 256 * lev l
structure Zs where
 ph : Nat
 k : Nat
 bs : List Nat
 fs : List (Nat × Nat)
 mn : Nat
 fl : Nat
 me : Nat
 su : Nat
 pk : Nat
 sz : Nat
 nl : Nat
 xl : Nat
 ri : Nat
 rl : Nat
 wd : Bool
 nm : List Nat
 tk : Nat
 gv : Nat
 sg : Nat
 why : Nat
 ip : List Nat
 y : Cfg
abbrev Evn := Nat × List Nat
def s0 : Zs := ⟨0, 0, [], [], 0, 0, 0, 0, 0, 0, 0, 0, 0, 0, false, [], 0, 0, 0, 0, [], c0⟩
def U32 : Nat := 4294967295
def zset (t v : Nat) (s : Zs) : Zs := match t with
 | 1 => { s with fl := v }
 | 2 => { s with me := v }
 | 3 => { s with su := v }
 | 4 => { s with pk := v }
 | 5 => { s with sz := v }
 | 6 => { s with nl := v }
 | 7 => { s with xl := v }
 | 8 => { s with ri := v }
 | 9 => { s with rl := v }
 | _ => s
def zbad (k : Nat) (s : Zs) : Zs := { s with why := k }
def zplace (s : Zs) : Zs := { s with ph := 0, bs := [] }
def zbeh (s : Zs) : Bool := decide (s.fl / 8 % 2 = 1)
def zunr (s : Zs) : Bool := decide (s.fl % 2 = 1 ∨ (s.me ≠ 0 ∧ s.me ≠ 8))
def zend (s : Zs) : Zs × List Evn :=
 if s.tk = s.pk ∧ s.gv = s.sz then (if s.su = s.sg then (zplace s, [(257, [])]) else (zbad 44 s, [])) else (zbad 45 s, [])
def zbegin (s : Zs) : Zs × List Evn :=
 if s.me = 0 then (if s.tk = s.pk then zend { s with ph := 4 } else ({ s with ph := 4 }, []))
 else (if zbeh s = false ∧ s.tk = s.pk then (zbad 45 { s with ph := 5, ip := [], y := c0 }, []) else ({ s with ph := 5, ip := [], y := c0 }, []))
def zopen (s : Zs) : Zs × List Evn := ((zbegin s).1, (256, s.nm) :: (zbegin s).2)
def zskip (s : Zs) : Zs × List Evn := if s.pk = 0 then (zplace s, []) else ({ s with ph := 3, k := 3, mn := s.pk }, [])
def zbody (s : Zs) : Zs × List Evn :=
 if zbeh s = true ∧ (zunr s = true ∨ s.me = 0) then (zbad 50 s, [])
 else if zunr s = true then zskip s
 else if s.me = 0 ∧ s.pk ≠ s.sz then (zbad 45 s, [])
 else zopen s
def zxb (s : Zs) : Zs × List Evn := if s.xl = 0 then zbody s else ({ s with ph := 3, k := 1, mn := s.xl }, [])
def zrec (s : Zs) : Zs × List Evn :=
 if s.xl < 4 then zxb s else ({ s with xl := s.xl - 4, ph := 2, k := 1, fs := [(2, 8), (2, 9)], bs := [], ri := 0, rl := 0 }, [])
def zpr (n : Nat) (s : Zs) : Zs × List Evn := if n = 0 then zrec s else ({ s with ph := 3, k := 2, mn := n }, [])
def zwf (s : Zs) (n : Nat) : List (Nat × Nat) × Nat :=
 if s.sz = U32 ∧ 8 ≤ n then (if s.pk = U32 ∧ 16 ≤ n then ([(8, 5), (8, 4)], n - 16) else ([(8, 5)], n - 8))
 else (if s.pk = U32 ∧ 8 ≤ n then ([(8, 4)], n - 8) else ([], n))
def zwid (n : Nat) (s : Zs) : Zs × List Evn :=
 if (zwf s n).1 = [] then zpr (zwf s n).2 { s with mn := (zwf s n).2 } else ({ s with ph := 2, k := 2, fs := (zwf s n).1, bs := [], mn := (zwf s n).2 }, [])
def zrc1 (s : Zs) : Zs × List Evn :=
 if s.xl < s.rl then zxb s
 else if s.ri ≠ 1 ∨ s.wd = true then zpr s.rl { s with xl := s.xl - s.rl }
 else zwid s.rl { s with xl := s.xl - s.rl, wd := true }
def zname (s : Zs) : Zs × List Evn :=
 if 256 < s.nl ∨ 1024 < s.xl then (zbad 46 s, []) else if s.nl = 0 then zrec s else ({ s with ph := 3, k := 0, mn := s.nl }, [])
def zboth (s : Zs) : Zs × List Evn :=
 if s.su = s.sg then ({ s with ph := 2, k := 5, fs := if s.wd = true then [(8, 4), (8, 5)] else [(4, 4), (4, 5)], bs := [] }, []) else (zbad 44 s, [])
def zsum1 (s : Zs) : Zs × List Evn :=
 if s.su = 134695760 then ({ s with ph := 2, k := 4, fs := [(4, 3)], bs := [] }, []) else zboth s
def zthen (s : Zs) : Zs × List Evn := match s.k with
 | 0 => zname s
 | 1 => zrc1 s
 | 2 => zpr s.mn s
 | 3 => zsum1 s
 | 4 => zboth s
 | _ => zend s
def zthn (s : Zs) : Zs × List Evn := match s.k with
 | 0 => zrec s
 | 1 => zbody s
 | 2 => zrec s
 | _ => (zplace s, [])
def zhead (s : Zs) : Zs :=
 { s with ph := 2, k := 0, fs := [(2, 0), (2, 1), (2, 2), (4, 0), (4, 3), (4, 4), (4, 5), (2, 6), (2, 7)], bs := [], fl := 0, me := 0, su := 0, pk := 0, sz := 0, nl := 0, xl := 0, wd := false, nm := [], tk := 0, gv := 0, sg := 0 }
def zmag (l : List Nat) : Bool := l.isPrefixOf [80, 75, 3, 4] || l.isPrefixOf [80, 75, 1, 2] || l.isPrefixOf [80, 75, 5, 6] || l.isPrefixOf [80, 75, 6, 6] || l.isPrefixOf [80, 75, 6, 7]
def zpla (x : Nat) (s : Zs) : Zs :=
 if s.bs ++ [x] = [80, 75, 3, 4] then zhead s
 else if zmag (s.bs ++ [x]) = false then zbad 40 s
 else if (s.bs ++ [x]).length = 4 then { s with ph := 1 }
 else { s with bs := s.bs ++ [x] }
def zgat (x : Nat) (s : Zs) : Zs × List Evn := match s.fs with
 | [] => (s, [])
 | (n, t) :: r =>
  if s.bs.length + 1 = n then
   (match r with
    | [] => zthen (zset t (lev (s.bs ++ [x])) { s with fs := [], bs := [] })
    | _ :: _ => (zset t (lev (s.bs ++ [x])) { s with fs := r, bs := [] }, []))
  else ({ s with bs := s.bs ++ [x] }, [])
def zbyt (x : Nat) (s : Zs) : Zs := { s with nm := if s.k = 0 then s.nm ++ [x] else s.nm, mn := s.mn - 1 }
def ztak (x : Nat) (s : Zs) : Zs × List Evn := if s.mn = 1 then zthn (zbyt x s) else (zbyt x s, [])
def zgiv (x : Nat) (s : Zs) : Zs := { s with tk := s.tk + 1, gv := s.gv + 1, sg := stp s.sg x }
def zsen (s : Zs) : Zs × List Evn := if s.tk = s.pk then zend s else (s, [])
def zsto (x : Nat) (s : Zs) : Zs × List Evn := ((zsen (zgiv x s)).1, (x, []) :: (zsen (zgiv x s)).2)
def zst (s : Zs) (x : Nat) : Zs × List Evn := match s.ph with
 | 0 => (zpla x s, [])
 | 1 => (s, [])
 | 2 => zgat x s
 | 3 => ztak x s
 | _ => zsto x s
def badC (c : Cfg) : Nat := match c.st with
 | .inr (.inr (.inr y)) => y
 | _ => 0
def zdat (s : Zs) (x : Nat) (y : Cfg) : Zs := { s with ip := s.ip ++ [x], y := y, sg := sm 0 y.out, gv := y.out.length, tk := s.tk + 1 }
def zask (s : Zs) : Zs × List Evn :=
 if badC s.y ≠ 0 then (zbad (badC s.y) s, [])
 else if endC s.y = true then (if zbeh s = true then ({ s with ph := 2, k := 3, fs := [(4, 3)], bs := [] }, []) else zend s)
 else if zbeh s = false ∧ s.tk = s.pk then (zbad 45 s, []) else (s, [])
def Sp (s : Zs) (x : Nat) (s1 : Zs) (E : List Evn) : Prop := (s.ph = 5 ∧ ∃ y, Stands (s.ip ++ [x]) MM y ∧ s1 = (zask (zdat s x y)).1 ∧ E = ((y.out.drop s.y.out.length).map fun b => (b, [])) ++ (zask (zdat s x y)).2) ∨ (s.ph ≠ 5 ∧ s1 = (zst s x).1 ∧ E = (zst s x).2)
def evs (t : Nat) (E : List Evn) : List Gev := E.map fun e => (t, e)
def Mr : Nat → Zs → List Nat → Zs → List Gev → Prop
 | _, s, [], s', T => s' = s ∧ T = []
 | t, s, x :: l, s', T => s.why = 0 ∧ ∃ s1 E T1, Sp s x s1 E ∧ Mr (t + 1) s1 l s' T1 ∧ T = evs t E ++ T1
theorem mr_append : ∀ (l m : List Nat) (t : Nat) (s s' : Zs) (T : List Gev), Mr t s (l ++ m) s' T ↔ ∃ s1 T1 T2, Mr t s l s1 T1 ∧ Mr (t + l.length) s1 m s' T2 ∧ T = T1 ++ T2
 | [], m, t, s, s', T => by
  constructor
  ·intro h; exact ⟨s, [], T, ⟨rfl, rfl⟩, h, rfl⟩
  ·rintro ⟨s1, T1, T2, ⟨rfl, rfl⟩, h, rfl⟩; exact h
 | x :: l, m, t, s, s', T => by
  have ih := mr_append l m (t + 1)
  constructor
  ·rintro ⟨h0, s1, E, T1, h1, h2, rfl⟩
   obtain ⟨s2, T2, T3, h3, h4, rfl⟩ := (ih s1 s' T1).1 h2
   exact ⟨s2, evs t E ++ T2, T3, ⟨h0, s1, E, T2, h1, h3, rfl⟩, by rw [List.length_cons, show t + (l.length + 1) = t + 1 + l.length by omega]; exact h4, by rw [List.append_assoc]⟩
  ·rintro ⟨s2, T2, T3, ⟨h0, s1, E, T1, h1, h3, rfl⟩, h4, rfl⟩
   rw [List.length_cons, show t + (l.length + 1) = t + 1 + l.length by omega] at h4
   exact ⟨h0, s1, E, T1 ++ T3, h1, (ih s1 s' _).2 ⟨s2, T1, T3, h3, h4, rfl⟩, by rw [List.append_assoc]⟩
theorem Sp.det {s s1 s2 : Zs} {x : Nat} {E F : List Evn} (h : Sp s x s1 E) (k : Sp s x s2 F) : s1 = s2 ∧ E = F := by
 rcases h with ⟨h0, y, h1, h2, h3⟩ | ⟨h0, h1, h2⟩ <;> rcases k with ⟨k0, z, k1, k2, k3⟩ | ⟨k0, k1, k2⟩
 ·have := h1.one k1
  subst this
  exact ⟨h2.trans k2.symm, h3.trans k3.symm⟩
 ·exact absurd h0 k0
 ·exact absurd k0 h0
 ·exact ⟨h1.trans k1.symm, h2.trans k2.symm⟩
theorem mr_det : ∀ (l : List Nat) (t : Nat) (s s1 s2 : Zs) (T U : List Gev), Mr t s l s1 T → Mr t s l s2 U → s1 = s2 ∧ T = U
 | [], t, s, s1, s2, T, U, ⟨h1, h2⟩, ⟨k1, k2⟩ => ⟨h1.trans k1.symm, h2.trans k2.symm⟩
 | x :: l, t, s, s1, s2, T, U, ⟨_, a, E, T1, h1, h2, h3⟩, ⟨_, b, F, U1, k1, k2, k3⟩ => by
  obtain ⟨rfl, rfl⟩ := h1.det k1
  obtain ⟨e1, rfl⟩ := mr_det l (t + 1) a s1 s2 T1 U1 h2 k2
  exact ⟨e1, h3.trans k3.symm⟩
def Rch (b : List Nat) (k : Nat) (s : Zs) (T : List Gev) : Prop := k ≤ b.length ∧ Mr 0 s0 (b.take k) s T
theorem rch_zero (b : List Nat) : Rch b 0 s0 [] := ⟨Nat.zero_le _, by rw [List.take_zero]; exact ⟨rfl, rfl⟩⟩
theorem Rch.step {b : List Nat} {k x : Nat} {s s1 : Zs} {T : List Gev} {E : List Evn} (h : Rch b k s T) (h0 : s.why = 0) (hx : b[k]? = some x) (hs : Sp s x s1 E) : Rch b (k + 1) s1 (T ++ evs k E) := by
 obtain ⟨hk, he⟩ := List.getElem?_eq_some_iff.1 hx
 refine ⟨hk, ?_⟩
 rw [List.take_succ_eq_append_getElem hk, he]
 refine (mr_append _ _ _ _ _ _).2 ⟨s, T, _, h.2, ⟨h0, s1, E, [], hs, ⟨rfl, rfl⟩, rfl⟩, ?_⟩
 rw [List.length_take, Nat.min_eq_left h.1, List.append_nil, Nat.zero_add]
theorem Rch.det {b : List Nat} {k : Nat} {s s1 : Zs} {T U : List Gev} (h : Rch b k s T) (q : Rch b k s1 U) : s = s1 ∧ T = U := mr_det _ _ _ _ _ _ _ h.2 q.2
theorem Rch.back {b : List Nat} {k j : Nat} {s : Zs} {T : List Gev} (h : Rch b k s T) (hj : j ≤ k) : ∃ s1 T1 T2, Rch b j s1 T1 ∧ Mr j s1 ((b.take k).drop j) s T2 ∧ T = T1 ++ T2 := by
 have e : b.take k = b.take j ++ (b.take k).drop j := by
  conv => lhs; rw [← List.take_append_drop j (b.take k)]
  rw [List.take_take, Nat.min_eq_left hj]
 have h2 := h.2
 rw [e] at h2
 obtain ⟨s1, T1, T2, q1, q2, q3⟩ := (mr_append _ _ _ _ _ _).1 h2
 have hl := h.1
 rw [List.length_take, Nat.min_eq_left (by omega), Nat.zero_add] at q2
 exact ⟨s1, T1, T2, ⟨by omega, q1⟩, q2, q3⟩
theorem Rch.at {b : List Nat} {k i : Nat} {s si : Zs} {T Ti : List Gev} (h : Rch b k s T) (hi : Rch b i si Ti) (hik : i < k) : si.why = 0 ∧ ∃ x s1 E T2, b[i]? = some x ∧ Sp si x s1 E ∧ Rch b (i + 1) s1 (Ti ++ evs i E) ∧ T = Ti ++ evs i E ++ T2 ∧ Mr (i + 1) s1 ((b.take k).drop (i + 1)) s T2 := by
 obtain ⟨s1, T1, T2, q1, q2, rfl⟩ := h.back (Nat.le_of_lt hik)
 obtain ⟨rfl, rfl⟩ := hi.det q1
 have hl := h.1
 have hlt : i < (b.take k).length := by rw [List.length_take]; omega
 rw [List.drop_eq_getElem_cons hlt] at q2
 obtain ⟨h0, s2, E, T3, q3, q4, rfl⟩ := q2
 have hx : b[i]? = some (b.take k)[i] := by
  rw [List.getElem_take, List.getElem?_eq_getElem (by omega)]
 exact ⟨h0, _, s2, E, T3, hx, q3, hi.step h0 hx q3, by rw [List.append_assoc], q4⟩
end Go.Proofs.YtpihipbeagpgpaaGreatDoor

/-
 The zip walker in memory: its 278 cells by a function of their place.
-/
namespace Go.Proofs.YtpihipbeagpgpaaGreatDoor
open Go.RowKit
set_option linter.unusedVariables false
def kz (f : Nat → Value) : Array Value := ((List.range 278).map f).toArray
theorem kz_size (f : Nat → Value) : (kz f).size = 278 := by simp [kz]
theorem kz_at (f : Nat → Value) {i : Nat} (h : i < 278) : (kz f)[i]? = some (f i) := by simp [kz, h]
theorem kz_set (f : Nat → Value) (i : Nat) (v : Value) : (kz f).setIfInBounds i v = kz (upd f i v) := by
 apply Array.ext
 ·simp [kz]
 ·intro j h1 h2
  have hj : j < 278 := by simpa [kz] using h2
  simp only [kz, List.setIfInBounds_toArray, List.getElem_toArray, List.getElem_set, List.getElem_map, List.getElem_range, upd]
  by_cases e : i = j
  ·simp [e]
  ·simp [e, Ne.symm e]
def bm (k W : Nat) : Value := .func (.func k) #[.pointer (some ⟨W, 0, none⟩)] #[]
def cl (k : Nat) (a : Array Value) : Value := .func (.func k) #[] a
def ptr (b i : Nat) : Value := .pointer (some ⟨b, i, none⟩)
structure Zc where
 nx : Value
 fl : Nat
 me : Nat
 su : Nat
 pk : Nat
 sz : Nat
 nl : Nat
 xl : Nat
 wd : Bool
 nm : List Nat
 tk : Nat
 gv : Nat
 sg : Nat
 ev : Option Evn
 td : Value
 ov : Bool
 en : Bool
 why : Nat
def ev0 : Option Evn → Int
 | none => 0
 | some e => gk1 e.1
def ev1 : Option Evn → Int
 | none => 0
 | some e => gk2 e.1
def ev2 : Option Evn → Int
 | none => 0
 | some e => gk3 e.1
def ev4 : Option Evn → List Nat
 | none => []
 | some e => e.2

structure Wf (f : Nat → Value) (D : Nat) (c : Zc) : Prop where
 c0 : f 0 = .pointer (some ⟨D, 0, none⟩)
 c1 : f 1 = c.nx
 c2 : f 2 = .int .u64 (c.fl : Int)
 c3 : f 3 = .int .u64 (c.me : Int)
 c4 : f 4 = .int .u64 (c.su : Int)
 c5 : f 5 = .int .u64 (c.pk : Int)
 c6 : f 6 = .int .u64 (c.sz : Int)
 c7 : f 7 = .int .u64 (c.nl : Int)
 c8 : f 8 = .int .u64 (c.xl : Int)
 c9 : f 9 = .bool c.wd
 c266 : f 266 = .int .u64 (c.tk : Int)
 c267 : f 267 = .int .u64 (c.gv : Int)
 c268 : f 268 = .int .u32 (c.sg : Int)
 c269 : f 269 = .int .i64 (ev0 c.ev)
 c270 : f 270 = .int .u8 (ev1 c.ev)
 c271 : f 271 = .int .i64 (ev2 c.ev)
 c272 : f 272 = .int .i64 0
 c273 : f 273 = .string (st (ev4 c.ev))
 c274 : f 274 = c.td
 c275 : f 275 = .bool c.ov
 c276 : f 276 = .bool c.en
 c277 : f 277 = .int .i64 (c.why : Int)
 nb : c.nm.length ≤ 256
 nmc : ∀ (j x : Nat), c.nm[j]? = some x → f (10 + j) = .int .u8 (x : Int)
structure Wc (w : World) (W D : Nat) (c : Zc) : Prop where
 ex : ∃ f, Cells w W (kz f) 72 ∧ Wf f D c
section
variable {w u : World} {W D : Nat} {c : Zc}
theorem Wc.lt (h : Wc w W D c) : W < w.heap.size := by obtain ⟨f, hf, _⟩ := h.ex; exact hf.lt
theorem Wc.cells (h : Wc w W D c) : ∃ cs, Cells w W cs 72 := by obtain ⟨f, hf, _⟩ := h.ex; exact ⟨_, hf⟩
theorem Wc.fz (h : Wc w W D c) (i : Nat) : w.frozen? ⟨W, i, none⟩ = false := by obtain ⟨f, hf, _⟩ := h.ex; exact hf.frozen i
theorem Wc.keep (h : Wc w W D c) (k : u.heap[W]? = w.heap[W]?) : Wc u W D c := by
 obtain ⟨f, hf, hh⟩ := h.ex
 exact ⟨f, by unfold Cells at *; rw [k]; exact hf, hh⟩
theorem Wc.a0 (h : Wc w W D c) : w.cell? ⟨W, 0, none⟩ = some (.pointer (some ⟨D, 0, none⟩)) := by obtain ⟨f, hf, k⟩ := h.ex; rw [hf.cell, kz_at f (by decide), k.c0]
theorem Wc.a1 (h : Wc w W D c) : w.cell? ⟨W, 1, none⟩ = some (c.nx) := by obtain ⟨f, hf, k⟩ := h.ex; rw [hf.cell, kz_at f (by decide), k.c1]
theorem Wc.a2 (h : Wc w W D c) : w.cell? ⟨W, 2, none⟩ = some (.int .u64 (c.fl : Int)) := by obtain ⟨f, hf, k⟩ := h.ex; rw [hf.cell, kz_at f (by decide), k.c2]
theorem Wc.a3 (h : Wc w W D c) : w.cell? ⟨W, 3, none⟩ = some (.int .u64 (c.me : Int)) := by obtain ⟨f, hf, k⟩ := h.ex; rw [hf.cell, kz_at f (by decide), k.c3]
theorem Wc.a4 (h : Wc w W D c) : w.cell? ⟨W, 4, none⟩ = some (.int .u64 (c.su : Int)) := by obtain ⟨f, hf, k⟩ := h.ex; rw [hf.cell, kz_at f (by decide), k.c4]
theorem Wc.a5 (h : Wc w W D c) : w.cell? ⟨W, 5, none⟩ = some (.int .u64 (c.pk : Int)) := by obtain ⟨f, hf, k⟩ := h.ex; rw [hf.cell, kz_at f (by decide), k.c5]
theorem Wc.a6 (h : Wc w W D c) : w.cell? ⟨W, 6, none⟩ = some (.int .u64 (c.sz : Int)) := by obtain ⟨f, hf, k⟩ := h.ex; rw [hf.cell, kz_at f (by decide), k.c6]
theorem Wc.a7 (h : Wc w W D c) : w.cell? ⟨W, 7, none⟩ = some (.int .u64 (c.nl : Int)) := by obtain ⟨f, hf, k⟩ := h.ex; rw [hf.cell, kz_at f (by decide), k.c7]
theorem Wc.a8 (h : Wc w W D c) : w.cell? ⟨W, 8, none⟩ = some (.int .u64 (c.xl : Int)) := by obtain ⟨f, hf, k⟩ := h.ex; rw [hf.cell, kz_at f (by decide), k.c8]
theorem Wc.a9 (h : Wc w W D c) : w.cell? ⟨W, 9, none⟩ = some (.bool c.wd) := by obtain ⟨f, hf, k⟩ := h.ex; rw [hf.cell, kz_at f (by decide), k.c9]
theorem Wc.a266 (h : Wc w W D c) : w.cell? ⟨W, 266, none⟩ = some (.int .u64 (c.tk : Int)) := by obtain ⟨f, hf, k⟩ := h.ex; rw [hf.cell, kz_at f (by decide), k.c266]
theorem Wc.a267 (h : Wc w W D c) : w.cell? ⟨W, 267, none⟩ = some (.int .u64 (c.gv : Int)) := by obtain ⟨f, hf, k⟩ := h.ex; rw [hf.cell, kz_at f (by decide), k.c267]
theorem Wc.a268 (h : Wc w W D c) : w.cell? ⟨W, 268, none⟩ = some (.int .u32 (c.sg : Int)) := by obtain ⟨f, hf, k⟩ := h.ex; rw [hf.cell, kz_at f (by decide), k.c268]
theorem Wc.a269 (h : Wc w W D c) : w.cell? ⟨W, 269, none⟩ = some (.int .i64 (ev0 c.ev)) := by obtain ⟨f, hf, k⟩ := h.ex; rw [hf.cell, kz_at f (by decide), k.c269]
theorem Wc.a270 (h : Wc w W D c) : w.cell? ⟨W, 270, none⟩ = some (.int .u8 (ev1 c.ev)) := by obtain ⟨f, hf, k⟩ := h.ex; rw [hf.cell, kz_at f (by decide), k.c270]
theorem Wc.a271 (h : Wc w W D c) : w.cell? ⟨W, 271, none⟩ = some (.int .i64 (ev2 c.ev)) := by obtain ⟨f, hf, k⟩ := h.ex; rw [hf.cell, kz_at f (by decide), k.c271]
theorem Wc.a272 (h : Wc w W D c) : w.cell? ⟨W, 272, none⟩ = some (.int .i64 0) := by obtain ⟨f, hf, k⟩ := h.ex; rw [hf.cell, kz_at f (by decide), k.c272]
theorem Wc.a273 (h : Wc w W D c) : w.cell? ⟨W, 273, none⟩ = some (.string (st (ev4 c.ev))) := by obtain ⟨f, hf, k⟩ := h.ex; rw [hf.cell, kz_at f (by decide), k.c273]
theorem Wc.a274 (h : Wc w W D c) : w.cell? ⟨W, 274, none⟩ = some (c.td) := by obtain ⟨f, hf, k⟩ := h.ex; rw [hf.cell, kz_at f (by decide), k.c274]
theorem Wc.a275 (h : Wc w W D c) : w.cell? ⟨W, 275, none⟩ = some (.bool c.ov) := by obtain ⟨f, hf, k⟩ := h.ex; rw [hf.cell, kz_at f (by decide), k.c275]
theorem Wc.a276 (h : Wc w W D c) : w.cell? ⟨W, 276, none⟩ = some (.bool c.en) := by obtain ⟨f, hf, k⟩ := h.ex; rw [hf.cell, kz_at f (by decide), k.c276]
theorem Wc.a277 (h : Wc w W D c) : w.cell? ⟨W, 277, none⟩ = some (.int .i64 (c.why : Int)) := by obtain ⟨f, hf, k⟩ := h.ex; rw [hf.cell, kz_at f (by decide), k.c277]
theorem Wc.an (h : Wc w W D c) {j x : Nat} (hx : c.nm[j]? = some x) : w.cell? ⟨W, 10 + j, none⟩ = some (.int .u8 (x : Int)) := by
 obtain ⟨f, hf, k⟩ := h.ex
 have := (List.getElem?_eq_some_iff.1 hx).1
 have := k.nb
 rw [hf.cell, kz_at f (by omega), k.nmc j x hx]
theorem Wc.ln (h : Wc w W D c) : Lies w (some ⟨W, 10, none⟩) c.nm := Or.inr ⟨W, 10, rfl, fun i x hx => h.an hx⟩
theorem Wc.nb (h : Wc w W D c) : c.nm.length ≤ 256 := by obtain ⟨f, hf, k⟩ := h.ex; exact k.nb
theorem Wc.to (h : Wc w W D c) {c' : Zc} {i : Nat} {x : Value} (k : ∀ f, Wf f D c → Wf (upd f i x) D c') : Wc (w.setCell ⟨W, i, none⟩ x) W D c' := by
 obtain ⟨f, hf, hh⟩ := h.ex
 refine ⟨upd f i x, ?_, k f hh⟩
 have := hf.set i x
 rwa [kz_set] at this
theorem Wc.s1 (h : Wc w W D c) (k : Value) : Wc (w.setCell ⟨W, 1, none⟩ (k)) W D { c with nx := k } := h.to fun f k => ⟨(upd_ne _ _ (by decide)).trans k.c0, upd_same _ _ _, (upd_ne _ _ (by decide)).trans k.c2, (upd_ne _ _ (by decide)).trans k.c3, (upd_ne _ _ (by decide)).trans k.c4, (upd_ne _ _ (by decide)).trans k.c5, (upd_ne _ _ (by decide)).trans k.c6, (upd_ne _ _ (by decide)).trans k.c7, (upd_ne _ _ (by decide)).trans k.c8, (upd_ne _ _ (by decide)).trans k.c9, (upd_ne _ _ (by decide)).trans k.c266, (upd_ne _ _ (by decide)).trans k.c267, (upd_ne _ _ (by decide)).trans k.c268, (upd_ne _ _ (by decide)).trans k.c269, (upd_ne _ _ (by decide)).trans k.c270, (upd_ne _ _ (by decide)).trans k.c271, (upd_ne _ _ (by decide)).trans k.c272, (upd_ne _ _ (by decide)).trans k.c273, (upd_ne _ _ (by decide)).trans k.c274, (upd_ne _ _ (by decide)).trans k.c275, (upd_ne _ _ (by decide)).trans k.c276, (upd_ne _ _ (by decide)).trans k.c277, k.nb, fun j x hx => (upd_ne _ _ (by have hq : j < c.nm.length := (List.getElem?_eq_some_iff.1 hx).1; have := k.nb; omega)).trans (k.nmc j x hx)⟩
theorem Wc.s2 (h : Wc w W D c) (k : Nat) : Wc (w.setCell ⟨W, 2, none⟩ (.int .u64 (k : Int))) W D { c with fl := k } := h.to fun f k => ⟨(upd_ne _ _ (by decide)).trans k.c0, (upd_ne _ _ (by decide)).trans k.c1, upd_same _ _ _, (upd_ne _ _ (by decide)).trans k.c3, (upd_ne _ _ (by decide)).trans k.c4, (upd_ne _ _ (by decide)).trans k.c5, (upd_ne _ _ (by decide)).trans k.c6, (upd_ne _ _ (by decide)).trans k.c7, (upd_ne _ _ (by decide)).trans k.c8, (upd_ne _ _ (by decide)).trans k.c9, (upd_ne _ _ (by decide)).trans k.c266, (upd_ne _ _ (by decide)).trans k.c267, (upd_ne _ _ (by decide)).trans k.c268, (upd_ne _ _ (by decide)).trans k.c269, (upd_ne _ _ (by decide)).trans k.c270, (upd_ne _ _ (by decide)).trans k.c271, (upd_ne _ _ (by decide)).trans k.c272, (upd_ne _ _ (by decide)).trans k.c273, (upd_ne _ _ (by decide)).trans k.c274, (upd_ne _ _ (by decide)).trans k.c275, (upd_ne _ _ (by decide)).trans k.c276, (upd_ne _ _ (by decide)).trans k.c277, k.nb, fun j x hx => (upd_ne _ _ (by have hq : j < c.nm.length := (List.getElem?_eq_some_iff.1 hx).1; have := k.nb; omega)).trans (k.nmc j x hx)⟩
theorem Wc.s3 (h : Wc w W D c) (k : Nat) : Wc (w.setCell ⟨W, 3, none⟩ (.int .u64 (k : Int))) W D { c with me := k } := h.to fun f k => ⟨(upd_ne _ _ (by decide)).trans k.c0, (upd_ne _ _ (by decide)).trans k.c1, (upd_ne _ _ (by decide)).trans k.c2, upd_same _ _ _, (upd_ne _ _ (by decide)).trans k.c4, (upd_ne _ _ (by decide)).trans k.c5, (upd_ne _ _ (by decide)).trans k.c6, (upd_ne _ _ (by decide)).trans k.c7, (upd_ne _ _ (by decide)).trans k.c8, (upd_ne _ _ (by decide)).trans k.c9, (upd_ne _ _ (by decide)).trans k.c266, (upd_ne _ _ (by decide)).trans k.c267, (upd_ne _ _ (by decide)).trans k.c268, (upd_ne _ _ (by decide)).trans k.c269, (upd_ne _ _ (by decide)).trans k.c270, (upd_ne _ _ (by decide)).trans k.c271, (upd_ne _ _ (by decide)).trans k.c272, (upd_ne _ _ (by decide)).trans k.c273, (upd_ne _ _ (by decide)).trans k.c274, (upd_ne _ _ (by decide)).trans k.c275, (upd_ne _ _ (by decide)).trans k.c276, (upd_ne _ _ (by decide)).trans k.c277, k.nb, fun j x hx => (upd_ne _ _ (by have hq : j < c.nm.length := (List.getElem?_eq_some_iff.1 hx).1; have := k.nb; omega)).trans (k.nmc j x hx)⟩
theorem Wc.s4 (h : Wc w W D c) (k : Nat) : Wc (w.setCell ⟨W, 4, none⟩ (.int .u64 (k : Int))) W D { c with su := k } := h.to fun f k => ⟨(upd_ne _ _ (by decide)).trans k.c0, (upd_ne _ _ (by decide)).trans k.c1, (upd_ne _ _ (by decide)).trans k.c2, (upd_ne _ _ (by decide)).trans k.c3, upd_same _ _ _, (upd_ne _ _ (by decide)).trans k.c5, (upd_ne _ _ (by decide)).trans k.c6, (upd_ne _ _ (by decide)).trans k.c7, (upd_ne _ _ (by decide)).trans k.c8, (upd_ne _ _ (by decide)).trans k.c9, (upd_ne _ _ (by decide)).trans k.c266, (upd_ne _ _ (by decide)).trans k.c267, (upd_ne _ _ (by decide)).trans k.c268, (upd_ne _ _ (by decide)).trans k.c269, (upd_ne _ _ (by decide)).trans k.c270, (upd_ne _ _ (by decide)).trans k.c271, (upd_ne _ _ (by decide)).trans k.c272, (upd_ne _ _ (by decide)).trans k.c273, (upd_ne _ _ (by decide)).trans k.c274, (upd_ne _ _ (by decide)).trans k.c275, (upd_ne _ _ (by decide)).trans k.c276, (upd_ne _ _ (by decide)).trans k.c277, k.nb, fun j x hx => (upd_ne _ _ (by have hq : j < c.nm.length := (List.getElem?_eq_some_iff.1 hx).1; have := k.nb; omega)).trans (k.nmc j x hx)⟩
theorem Wc.s5 (h : Wc w W D c) (k : Nat) : Wc (w.setCell ⟨W, 5, none⟩ (.int .u64 (k : Int))) W D { c with pk := k } := h.to fun f k => ⟨(upd_ne _ _ (by decide)).trans k.c0, (upd_ne _ _ (by decide)).trans k.c1, (upd_ne _ _ (by decide)).trans k.c2, (upd_ne _ _ (by decide)).trans k.c3, (upd_ne _ _ (by decide)).trans k.c4, upd_same _ _ _, (upd_ne _ _ (by decide)).trans k.c6, (upd_ne _ _ (by decide)).trans k.c7, (upd_ne _ _ (by decide)).trans k.c8, (upd_ne _ _ (by decide)).trans k.c9, (upd_ne _ _ (by decide)).trans k.c266, (upd_ne _ _ (by decide)).trans k.c267, (upd_ne _ _ (by decide)).trans k.c268, (upd_ne _ _ (by decide)).trans k.c269, (upd_ne _ _ (by decide)).trans k.c270, (upd_ne _ _ (by decide)).trans k.c271, (upd_ne _ _ (by decide)).trans k.c272, (upd_ne _ _ (by decide)).trans k.c273, (upd_ne _ _ (by decide)).trans k.c274, (upd_ne _ _ (by decide)).trans k.c275, (upd_ne _ _ (by decide)).trans k.c276, (upd_ne _ _ (by decide)).trans k.c277, k.nb, fun j x hx => (upd_ne _ _ (by have hq : j < c.nm.length := (List.getElem?_eq_some_iff.1 hx).1; have := k.nb; omega)).trans (k.nmc j x hx)⟩
theorem Wc.s6 (h : Wc w W D c) (k : Nat) : Wc (w.setCell ⟨W, 6, none⟩ (.int .u64 (k : Int))) W D { c with sz := k } := h.to fun f k => ⟨(upd_ne _ _ (by decide)).trans k.c0, (upd_ne _ _ (by decide)).trans k.c1, (upd_ne _ _ (by decide)).trans k.c2, (upd_ne _ _ (by decide)).trans k.c3, (upd_ne _ _ (by decide)).trans k.c4, (upd_ne _ _ (by decide)).trans k.c5, upd_same _ _ _, (upd_ne _ _ (by decide)).trans k.c7, (upd_ne _ _ (by decide)).trans k.c8, (upd_ne _ _ (by decide)).trans k.c9, (upd_ne _ _ (by decide)).trans k.c266, (upd_ne _ _ (by decide)).trans k.c267, (upd_ne _ _ (by decide)).trans k.c268, (upd_ne _ _ (by decide)).trans k.c269, (upd_ne _ _ (by decide)).trans k.c270, (upd_ne _ _ (by decide)).trans k.c271, (upd_ne _ _ (by decide)).trans k.c272, (upd_ne _ _ (by decide)).trans k.c273, (upd_ne _ _ (by decide)).trans k.c274, (upd_ne _ _ (by decide)).trans k.c275, (upd_ne _ _ (by decide)).trans k.c276, (upd_ne _ _ (by decide)).trans k.c277, k.nb, fun j x hx => (upd_ne _ _ (by have hq : j < c.nm.length := (List.getElem?_eq_some_iff.1 hx).1; have := k.nb; omega)).trans (k.nmc j x hx)⟩
theorem Wc.s7 (h : Wc w W D c) (k : Nat) : Wc (w.setCell ⟨W, 7, none⟩ (.int .u64 (k : Int))) W D { c with nl := k } := h.to fun f k => ⟨(upd_ne _ _ (by decide)).trans k.c0, (upd_ne _ _ (by decide)).trans k.c1, (upd_ne _ _ (by decide)).trans k.c2, (upd_ne _ _ (by decide)).trans k.c3, (upd_ne _ _ (by decide)).trans k.c4, (upd_ne _ _ (by decide)).trans k.c5, (upd_ne _ _ (by decide)).trans k.c6, upd_same _ _ _, (upd_ne _ _ (by decide)).trans k.c8, (upd_ne _ _ (by decide)).trans k.c9, (upd_ne _ _ (by decide)).trans k.c266, (upd_ne _ _ (by decide)).trans k.c267, (upd_ne _ _ (by decide)).trans k.c268, (upd_ne _ _ (by decide)).trans k.c269, (upd_ne _ _ (by decide)).trans k.c270, (upd_ne _ _ (by decide)).trans k.c271, (upd_ne _ _ (by decide)).trans k.c272, (upd_ne _ _ (by decide)).trans k.c273, (upd_ne _ _ (by decide)).trans k.c274, (upd_ne _ _ (by decide)).trans k.c275, (upd_ne _ _ (by decide)).trans k.c276, (upd_ne _ _ (by decide)).trans k.c277, k.nb, fun j x hx => (upd_ne _ _ (by have hq : j < c.nm.length := (List.getElem?_eq_some_iff.1 hx).1; have := k.nb; omega)).trans (k.nmc j x hx)⟩
theorem Wc.s8 (h : Wc w W D c) (k : Nat) : Wc (w.setCell ⟨W, 8, none⟩ (.int .u64 (k : Int))) W D { c with xl := k } := h.to fun f k => ⟨(upd_ne _ _ (by decide)).trans k.c0, (upd_ne _ _ (by decide)).trans k.c1, (upd_ne _ _ (by decide)).trans k.c2, (upd_ne _ _ (by decide)).trans k.c3, (upd_ne _ _ (by decide)).trans k.c4, (upd_ne _ _ (by decide)).trans k.c5, (upd_ne _ _ (by decide)).trans k.c6, (upd_ne _ _ (by decide)).trans k.c7, upd_same _ _ _, (upd_ne _ _ (by decide)).trans k.c9, (upd_ne _ _ (by decide)).trans k.c266, (upd_ne _ _ (by decide)).trans k.c267, (upd_ne _ _ (by decide)).trans k.c268, (upd_ne _ _ (by decide)).trans k.c269, (upd_ne _ _ (by decide)).trans k.c270, (upd_ne _ _ (by decide)).trans k.c271, (upd_ne _ _ (by decide)).trans k.c272, (upd_ne _ _ (by decide)).trans k.c273, (upd_ne _ _ (by decide)).trans k.c274, (upd_ne _ _ (by decide)).trans k.c275, (upd_ne _ _ (by decide)).trans k.c276, (upd_ne _ _ (by decide)).trans k.c277, k.nb, fun j x hx => (upd_ne _ _ (by have hq : j < c.nm.length := (List.getElem?_eq_some_iff.1 hx).1; have := k.nb; omega)).trans (k.nmc j x hx)⟩
theorem Wc.s9 (h : Wc w W D c) (k : Bool) : Wc (w.setCell ⟨W, 9, none⟩ (.bool k)) W D { c with wd := k } := h.to fun f k => ⟨(upd_ne _ _ (by decide)).trans k.c0, (upd_ne _ _ (by decide)).trans k.c1, (upd_ne _ _ (by decide)).trans k.c2, (upd_ne _ _ (by decide)).trans k.c3, (upd_ne _ _ (by decide)).trans k.c4, (upd_ne _ _ (by decide)).trans k.c5, (upd_ne _ _ (by decide)).trans k.c6, (upd_ne _ _ (by decide)).trans k.c7, (upd_ne _ _ (by decide)).trans k.c8, upd_same _ _ _, (upd_ne _ _ (by decide)).trans k.c266, (upd_ne _ _ (by decide)).trans k.c267, (upd_ne _ _ (by decide)).trans k.c268, (upd_ne _ _ (by decide)).trans k.c269, (upd_ne _ _ (by decide)).trans k.c270, (upd_ne _ _ (by decide)).trans k.c271, (upd_ne _ _ (by decide)).trans k.c272, (upd_ne _ _ (by decide)).trans k.c273, (upd_ne _ _ (by decide)).trans k.c274, (upd_ne _ _ (by decide)).trans k.c275, (upd_ne _ _ (by decide)).trans k.c276, (upd_ne _ _ (by decide)).trans k.c277, k.nb, fun j x hx => (upd_ne _ _ (by have hq : j < c.nm.length := (List.getElem?_eq_some_iff.1 hx).1; have := k.nb; omega)).trans (k.nmc j x hx)⟩
theorem Wc.s266 (h : Wc w W D c) (k : Nat) : Wc (w.setCell ⟨W, 266, none⟩ (.int .u64 (k : Int))) W D { c with tk := k } := h.to fun f k => ⟨(upd_ne _ _ (by decide)).trans k.c0, (upd_ne _ _ (by decide)).trans k.c1, (upd_ne _ _ (by decide)).trans k.c2, (upd_ne _ _ (by decide)).trans k.c3, (upd_ne _ _ (by decide)).trans k.c4, (upd_ne _ _ (by decide)).trans k.c5, (upd_ne _ _ (by decide)).trans k.c6, (upd_ne _ _ (by decide)).trans k.c7, (upd_ne _ _ (by decide)).trans k.c8, (upd_ne _ _ (by decide)).trans k.c9, upd_same _ _ _, (upd_ne _ _ (by decide)).trans k.c267, (upd_ne _ _ (by decide)).trans k.c268, (upd_ne _ _ (by decide)).trans k.c269, (upd_ne _ _ (by decide)).trans k.c270, (upd_ne _ _ (by decide)).trans k.c271, (upd_ne _ _ (by decide)).trans k.c272, (upd_ne _ _ (by decide)).trans k.c273, (upd_ne _ _ (by decide)).trans k.c274, (upd_ne _ _ (by decide)).trans k.c275, (upd_ne _ _ (by decide)).trans k.c276, (upd_ne _ _ (by decide)).trans k.c277, k.nb, fun j x hx => (upd_ne _ _ (by have hq : j < c.nm.length := (List.getElem?_eq_some_iff.1 hx).1; have := k.nb; omega)).trans (k.nmc j x hx)⟩
theorem Wc.s267 (h : Wc w W D c) (k : Nat) : Wc (w.setCell ⟨W, 267, none⟩ (.int .u64 (k : Int))) W D { c with gv := k } := h.to fun f k => ⟨(upd_ne _ _ (by decide)).trans k.c0, (upd_ne _ _ (by decide)).trans k.c1, (upd_ne _ _ (by decide)).trans k.c2, (upd_ne _ _ (by decide)).trans k.c3, (upd_ne _ _ (by decide)).trans k.c4, (upd_ne _ _ (by decide)).trans k.c5, (upd_ne _ _ (by decide)).trans k.c6, (upd_ne _ _ (by decide)).trans k.c7, (upd_ne _ _ (by decide)).trans k.c8, (upd_ne _ _ (by decide)).trans k.c9, (upd_ne _ _ (by decide)).trans k.c266, upd_same _ _ _, (upd_ne _ _ (by decide)).trans k.c268, (upd_ne _ _ (by decide)).trans k.c269, (upd_ne _ _ (by decide)).trans k.c270, (upd_ne _ _ (by decide)).trans k.c271, (upd_ne _ _ (by decide)).trans k.c272, (upd_ne _ _ (by decide)).trans k.c273, (upd_ne _ _ (by decide)).trans k.c274, (upd_ne _ _ (by decide)).trans k.c275, (upd_ne _ _ (by decide)).trans k.c276, (upd_ne _ _ (by decide)).trans k.c277, k.nb, fun j x hx => (upd_ne _ _ (by have hq : j < c.nm.length := (List.getElem?_eq_some_iff.1 hx).1; have := k.nb; omega)).trans (k.nmc j x hx)⟩
theorem Wc.s268 (h : Wc w W D c) (k : Nat) : Wc (w.setCell ⟨W, 268, none⟩ (.int .u32 (k : Int))) W D { c with sg := k } := h.to fun f k => ⟨(upd_ne _ _ (by decide)).trans k.c0, (upd_ne _ _ (by decide)).trans k.c1, (upd_ne _ _ (by decide)).trans k.c2, (upd_ne _ _ (by decide)).trans k.c3, (upd_ne _ _ (by decide)).trans k.c4, (upd_ne _ _ (by decide)).trans k.c5, (upd_ne _ _ (by decide)).trans k.c6, (upd_ne _ _ (by decide)).trans k.c7, (upd_ne _ _ (by decide)).trans k.c8, (upd_ne _ _ (by decide)).trans k.c9, (upd_ne _ _ (by decide)).trans k.c266, (upd_ne _ _ (by decide)).trans k.c267, upd_same _ _ _, (upd_ne _ _ (by decide)).trans k.c269, (upd_ne _ _ (by decide)).trans k.c270, (upd_ne _ _ (by decide)).trans k.c271, (upd_ne _ _ (by decide)).trans k.c272, (upd_ne _ _ (by decide)).trans k.c273, (upd_ne _ _ (by decide)).trans k.c274, (upd_ne _ _ (by decide)).trans k.c275, (upd_ne _ _ (by decide)).trans k.c276, (upd_ne _ _ (by decide)).trans k.c277, k.nb, fun j x hx => (upd_ne _ _ (by have hq : j < c.nm.length := (List.getElem?_eq_some_iff.1 hx).1; have := k.nb; omega)).trans (k.nmc j x hx)⟩
theorem Wc.s274 (h : Wc w W D c) (k : Value) : Wc (w.setCell ⟨W, 274, none⟩ (k)) W D { c with td := k } := h.to fun f k => ⟨(upd_ne _ _ (by decide)).trans k.c0, (upd_ne _ _ (by decide)).trans k.c1, (upd_ne _ _ (by decide)).trans k.c2, (upd_ne _ _ (by decide)).trans k.c3, (upd_ne _ _ (by decide)).trans k.c4, (upd_ne _ _ (by decide)).trans k.c5, (upd_ne _ _ (by decide)).trans k.c6, (upd_ne _ _ (by decide)).trans k.c7, (upd_ne _ _ (by decide)).trans k.c8, (upd_ne _ _ (by decide)).trans k.c9, (upd_ne _ _ (by decide)).trans k.c266, (upd_ne _ _ (by decide)).trans k.c267, (upd_ne _ _ (by decide)).trans k.c268, (upd_ne _ _ (by decide)).trans k.c269, (upd_ne _ _ (by decide)).trans k.c270, (upd_ne _ _ (by decide)).trans k.c271, (upd_ne _ _ (by decide)).trans k.c272, (upd_ne _ _ (by decide)).trans k.c273, upd_same _ _ _, (upd_ne _ _ (by decide)).trans k.c275, (upd_ne _ _ (by decide)).trans k.c276, (upd_ne _ _ (by decide)).trans k.c277, k.nb, fun j x hx => (upd_ne _ _ (by have hq : j < c.nm.length := (List.getElem?_eq_some_iff.1 hx).1; have := k.nb; omega)).trans (k.nmc j x hx)⟩
theorem Wc.s275 (h : Wc w W D c) (k : Bool) : Wc (w.setCell ⟨W, 275, none⟩ (.bool k)) W D { c with ov := k } := h.to fun f k => ⟨(upd_ne _ _ (by decide)).trans k.c0, (upd_ne _ _ (by decide)).trans k.c1, (upd_ne _ _ (by decide)).trans k.c2, (upd_ne _ _ (by decide)).trans k.c3, (upd_ne _ _ (by decide)).trans k.c4, (upd_ne _ _ (by decide)).trans k.c5, (upd_ne _ _ (by decide)).trans k.c6, (upd_ne _ _ (by decide)).trans k.c7, (upd_ne _ _ (by decide)).trans k.c8, (upd_ne _ _ (by decide)).trans k.c9, (upd_ne _ _ (by decide)).trans k.c266, (upd_ne _ _ (by decide)).trans k.c267, (upd_ne _ _ (by decide)).trans k.c268, (upd_ne _ _ (by decide)).trans k.c269, (upd_ne _ _ (by decide)).trans k.c270, (upd_ne _ _ (by decide)).trans k.c271, (upd_ne _ _ (by decide)).trans k.c272, (upd_ne _ _ (by decide)).trans k.c273, (upd_ne _ _ (by decide)).trans k.c274, upd_same _ _ _, (upd_ne _ _ (by decide)).trans k.c276, (upd_ne _ _ (by decide)).trans k.c277, k.nb, fun j x hx => (upd_ne _ _ (by have hq : j < c.nm.length := (List.getElem?_eq_some_iff.1 hx).1; have := k.nb; omega)).trans (k.nmc j x hx)⟩
theorem Wc.s276 (h : Wc w W D c) (k : Bool) : Wc (w.setCell ⟨W, 276, none⟩ (.bool k)) W D { c with en := k } := h.to fun f k => ⟨(upd_ne _ _ (by decide)).trans k.c0, (upd_ne _ _ (by decide)).trans k.c1, (upd_ne _ _ (by decide)).trans k.c2, (upd_ne _ _ (by decide)).trans k.c3, (upd_ne _ _ (by decide)).trans k.c4, (upd_ne _ _ (by decide)).trans k.c5, (upd_ne _ _ (by decide)).trans k.c6, (upd_ne _ _ (by decide)).trans k.c7, (upd_ne _ _ (by decide)).trans k.c8, (upd_ne _ _ (by decide)).trans k.c9, (upd_ne _ _ (by decide)).trans k.c266, (upd_ne _ _ (by decide)).trans k.c267, (upd_ne _ _ (by decide)).trans k.c268, (upd_ne _ _ (by decide)).trans k.c269, (upd_ne _ _ (by decide)).trans k.c270, (upd_ne _ _ (by decide)).trans k.c271, (upd_ne _ _ (by decide)).trans k.c272, (upd_ne _ _ (by decide)).trans k.c273, (upd_ne _ _ (by decide)).trans k.c274, (upd_ne _ _ (by decide)).trans k.c275, upd_same _ _ _, (upd_ne _ _ (by decide)).trans k.c277, k.nb, fun j x hx => (upd_ne _ _ (by have hq : j < c.nm.length := (List.getElem?_eq_some_iff.1 hx).1; have := k.nb; omega)).trans (k.nmc j x hx)⟩
theorem Wc.s277 (h : Wc w W D c) (k : Nat) : Wc (w.setCell ⟨W, 277, none⟩ (.int .i64 (k : Int))) W D { c with why := k } := h.to fun f k => ⟨(upd_ne _ _ (by decide)).trans k.c0, (upd_ne _ _ (by decide)).trans k.c1, (upd_ne _ _ (by decide)).trans k.c2, (upd_ne _ _ (by decide)).trans k.c3, (upd_ne _ _ (by decide)).trans k.c4, (upd_ne _ _ (by decide)).trans k.c5, (upd_ne _ _ (by decide)).trans k.c6, (upd_ne _ _ (by decide)).trans k.c7, (upd_ne _ _ (by decide)).trans k.c8, (upd_ne _ _ (by decide)).trans k.c9, (upd_ne _ _ (by decide)).trans k.c266, (upd_ne _ _ (by decide)).trans k.c267, (upd_ne _ _ (by decide)).trans k.c268, (upd_ne _ _ (by decide)).trans k.c269, (upd_ne _ _ (by decide)).trans k.c270, (upd_ne _ _ (by decide)).trans k.c271, (upd_ne _ _ (by decide)).trans k.c272, (upd_ne _ _ (by decide)).trans k.c273, (upd_ne _ _ (by decide)).trans k.c274, (upd_ne _ _ (by decide)).trans k.c275, (upd_ne _ _ (by decide)).trans k.c276, upd_same _ _ _, k.nb, fun j x hx => (upd_ne _ _ (by have hq : j < c.nm.length := (List.getElem?_eq_some_iff.1 hx).1; have := k.nb; omega)).trans (k.nmc j x hx)⟩
theorem Wc.sn (h : Wc w W D c) (x : Nat) (hl : c.nm.length < 256) : Wc (w.setCell ⟨W, 10 + c.nm.length, none⟩ (.int .u8 (x : Int))) W D { c with nm := c.nm ++ [x] } := h.to fun f k => ⟨(upd_ne _ _ (by omega)).trans k.c0, (upd_ne _ _ (by omega)).trans k.c1, (upd_ne _ _ (by omega)).trans k.c2, (upd_ne _ _ (by omega)).trans k.c3, (upd_ne _ _ (by omega)).trans k.c4, (upd_ne _ _ (by omega)).trans k.c5, (upd_ne _ _ (by omega)).trans k.c6, (upd_ne _ _ (by omega)).trans k.c7, (upd_ne _ _ (by omega)).trans k.c8, (upd_ne _ _ (by omega)).trans k.c9, (upd_ne _ _ (by omega)).trans k.c266, (upd_ne _ _ (by omega)).trans k.c267, (upd_ne _ _ (by omega)).trans k.c268, (upd_ne _ _ (by omega)).trans k.c269, (upd_ne _ _ (by omega)).trans k.c270, (upd_ne _ _ (by omega)).trans k.c271, (upd_ne _ _ (by omega)).trans k.c272, (upd_ne _ _ (by omega)).trans k.c273, (upd_ne _ _ (by omega)).trans k.c274, (upd_ne _ _ (by omega)).trans k.c275, (upd_ne _ _ (by omega)).trans k.c276, (upd_ne _ _ (by omega)).trans k.c277, by show (c.nm ++ [x]).length ≤ 256; rw [List.length_append, List.length_singleton]; omega, fun j y hy => by
  by_cases e : j = c.nm.length
  ·subst e
   have e2 : (c.nm ++ [x])[c.nm.length]? = some y := hy
   rw [List.getElem?_append_right (Nat.le_refl _)] at e2
   simp at e2
   subst e2
   exact upd_same _ _ _
  ·have e2 : (c.nm ++ [x])[j]? = some y := hy
   have hj : j < c.nm.length := by
    have := (List.getElem?_eq_some_iff.1 e2).1
    rw [List.length_append, List.length_singleton] at this
    omega
   rw [List.getElem?_append_left hj] at e2
   exact (upd_ne _ _ (by omega)).trans (k.nmc j y e2)⟩
theorem Wf.ev {f : Nat → Value} (k : Wf f D c) (e : Option Evn) : Wf (upd (upd (upd (upd (upd f 269 (.int .i64 (ev0 e))) 270 (.int .u8 (ev1 e))) 271 (.int .i64 (ev2 e))) 272 (.int .i64 0)) 273 (.string (st (ev4 e)))) D { c with ev := e } := by
 refine ⟨?_, ?_, ?_, ?_, ?_, ?_, ?_, ?_, ?_, ?_, ?_, ?_, ?_, ?_, ?_, ?_, ?_, ?_, ?_, ?_, ?_, ?_, k.nb, fun j x hx => ?_⟩
 ·simp only [upd]; exact k.c0
 ·simp only [upd]; exact k.c1
 ·simp only [upd]; exact k.c2
 ·simp only [upd]; exact k.c3
 ·simp only [upd]; exact k.c4
 ·simp only [upd]; exact k.c5
 ·simp only [upd]; exact k.c6
 ·simp only [upd]; exact k.c7
 ·simp only [upd]; exact k.c8
 ·simp only [upd]; exact k.c9
 ·simp only [upd]; exact k.c266
 ·simp only [upd]; exact k.c267
 ·simp only [upd]; exact k.c268
 ·simp [upd]
 ·simp [upd]
 ·simp [upd]
 ·simp [upd]
 ·simp [upd]
 ·simp only [upd]; exact k.c274
 ·simp only [upd]; exact k.c275
 ·simp only [upd]; exact k.c276
 ·simp only [upd]; exact k.c277
 ·have hj := (List.getElem?_eq_some_iff.1 hx).1
  have hn := k.nb
  have hj2 : j < c.nm.length := hj
  have e : ∀ m, 269 ≤ m → 10 + j ≠ m := fun m hm => by omega
  rw [upd_ne _ _ (e _ (by decide)), upd_ne _ _ (e _ (by decide)), upd_ne _ _ (e _ (by decide)), upd_ne _ _ (e _ (by decide)), upd_ne _ _ (e _ (by decide))]
  exact k.nmc j x hx
theorem Wc.sev (h : Wc w W D c) (e : Option Evn) : Wc (((((w.setCell ⟨W, 269, none⟩ (.int .i64 (ev0 e))).setCell ⟨W, 270, none⟩ (.int .u8 (ev1 e))).setCell ⟨W, 271, none⟩ (.int .i64 (ev2 e))).setCell ⟨W, 272, none⟩ (.int .i64 0)).setCell ⟨W, 273, none⟩ (.string (st (ev4 e)))) W D { c with ev := e } := by
 obtain ⟨f, hf, hh⟩ := h.ex
 refine ⟨_, ?_, hh.ev e⟩
 have := ((((hf.set 269 (.int .i64 (ev0 e))).set 270 (.int .u8 (ev1 e))).set 271 (.int .i64 (ev2 e))).set 272 (.int .i64 0)).set 273 (.string (st (ev4 e)))
 rwa [kz_set, kz_set, kz_set, kz_set, kz_set] at this
theorem only5 (W : Nat) (w : World) (a b c d e : Value) : Only W w (((((w.setCell ⟨W, 269, none⟩ a).setCell ⟨W, 270, none⟩ b).setCell ⟨W, 271, none⟩ c).setCell ⟨W, 272, none⟩ d).setCell ⟨W, 273, none⟩ e) := (((((Only.refl W w).setCell 269 _).setCell 270 _).setCell 271 _).setCell 272 _).setCell 273 _
end
end Go.Proofs.YtpihipbeagpgpaaGreatDoor

/-
 The zip walker with its inflater in memory; what may turn while it works. No walk.
-/
namespace Go.Proofs.YtpihipbeagpgpaaGreatDoor
open Go.RowKit
set_option linter.unusedVariables false
structure Wg (lo hi B W : Nat) : Prop where
 l9 : 9 ≤ lo
 lB : lo ≤ B
 hB : B + 4 ≤ hi
 lW : lo ≤ W
 hW : W < hi
 WB : W < B ∨ B + 4 ≤ W
structure Mtab (w : World) : Prop where
 m0 : w.cell? ⟨0, 0, none⟩ = some (.string (st [80, 75, 1, 2]))
 m1 : w.cell? ⟨0, 1, none⟩ = some (.string (st [80, 75, 5, 6]))
 m2 : w.cell? ⟨0, 2, none⟩ = some (.string (st [80, 75, 6, 6]))
 m3 : w.cell? ⟨0, 3, none⟩ = some (.string (st [80, 75, 6, 7]))
theorem Mtab.keep {w u : World} (h : Mtab w) (k : u.heap[0]? = w.heap[0]?) : Mtab u := by
 have e : ∀ i, u.cell? ⟨0, i, none⟩ = w.cell? ⟨0, i, none⟩ := fun i => World.cell?_of_block (w := w) k
 exact ⟨(e 0).trans h.m0, (e 1).trans h.m1, (e 2).trans h.m2, (e 3).trans h.m3⟩
def Bt (w : World) (k : Nat) : Prop := ∃ cs ty fr, w.heap[k]? = some (.cells cs ty fr) ∧ (ty = 66 ∨ ty = 3 ∨ ty = 98)
structure Fz (lo hi : Nat) (w u : World) : Prop where
 os : u.os = w.os
 tape : u.tape = w.tape
 output : u.output = w.output
 size : w.heap.size ≤ u.heap.size
 block : ∀ k, k < w.heap.size → u.heap[k]? = w.heap[k]? ∨ (lo ≤ k ∧ (k < hi ∨ Bt w k))
section
variable {lo hi B W : Nat} {w u v : World}
theorem Fz.refl (lo hi : Nat) (w : World) : Fz lo hi w w := ⟨rfl, rfl, rfl, Nat.le_refl _, fun _ _ => Or.inl rfl⟩
theorem Fz.trans (h : Fz lo hi w u) (k : Fz lo hi u v) : Fz lo hi w v := ⟨k.os.trans h.os, k.tape.trans h.tape, k.output.trans h.output, Nat.le_trans h.size k.size, fun i hi => by
 rcases h.block i hi with e | e
 ·rcases k.block i (Nat.lt_of_lt_of_le hi h.size) with f | ⟨f1, f2 | ⟨cs, ty, fr, f2, f3⟩⟩
  ·exact Or.inl (f.trans e)
  ·exact Or.inr ⟨f1, Or.inl f2⟩
  ·exact Or.inr ⟨f1, Or.inr ⟨cs, ty, fr, e ▸ f2, f3⟩⟩
 ·exact Or.inr e⟩
theorem Fz.of_only {c : Nat} (h : Only c w u) (h1 : lo ≤ c) (h2 : c < hi ∨ Bt w c) : Fz lo hi w u := ⟨h.os, h.tape, h.output, Nat.le_of_eq h.size.symm, fun k _ => by
 by_cases e : k = c
 ·subst e; exact Or.inr ⟨h1, h2⟩
 ·exact Or.inl (h.block k e)⟩
theorem Fz.of_fm (h : Fm B w u) (h1 : lo ≤ B) (h2 : B + 4 ≤ hi) : Fz lo hi w u := ⟨h.os, h.tape, h.output, h.size, fun k hk => by
 by_cases e : k < B ∨ B + 4 ≤ k
 ·exact Or.inl (h.block k hk e)
 ·exact Or.inr ⟨by omega, Or.inl (by omega)⟩⟩
theorem Fz.of_below {C : Nat} (h : Below C w u) (hC : w.heap.size ≤ C) : Fz lo hi w u := ⟨h.os, h.tape, h.output, h.size, fun k hk => Or.inl (h.block k (by omega))⟩
theorem Fz.below (h : Fz lo hi w u) (hl : lo ≤ w.heap.size) : Below lo w u := ⟨h.os, h.tape, h.output, h.size, fun k hk => (h.block k (by omega)).resolve_right (by omega)⟩
theorem Fz.drewN (w : World) (n : Nat) : Fz lo hi w (w.drewN n) := ⟨rfl, rfl, rfl, Nat.le_refl _, fun _ _ => Or.inl rfl⟩
theorem Fz.stay (h : Fz lo hi w u) {k : Nat} (hk : k < w.heap.size) (h1 : k < lo ∨ hi ≤ k) (h2 : ¬ Bt w k) : u.heap[k]? = w.heap[k]? := by
 rcases h.block k hk with e | ⟨e1, e2 | e2⟩
 ·exact e
 ·omega
 ·exact absurd e2 h2
theorem Bt.not {cs : Array Value} {t : TypeId} {k : Nat} (h : Cells w k cs t) (h1 : t ≠ 66 ∧ t ≠ 3 ∧ t ≠ 98) : ¬ Bt w k := by
 rintro ⟨cs', ty, fr, e, f⟩
 unfold Cells at h
 rw [h] at e
 cases e
 rcases f with f | f | f
 ·exact h1.1 f
 ·exact h1.2.1 f
 ·exact h1.2.2 f
theorem Bt.mk {cs : Array Value} {t : TypeId} {k : Nat} (h : Cells w k cs t) (h1 : t = 66 ∨ t = 3 ∨ t = 98) : Bt w k := ⟨cs, t, (0, 0), h, h1⟩
end
structure Bx (w : World) (hi p : Nat) (t : TypeId) (cs : Array Value) : Prop where
 lo : hi ≤ p
 cell : Cells w p cs t
section
variable {w u : World} {hi p : Nat} {t : TypeId} {cs : Array Value}
theorem Bx.keep (h : Bx w hi p t cs) (k : u.heap[p]? = w.heap[p]?) : Bx u hi p t cs := ⟨h.lo, by have := h.cell; unfold Cells at *; rw [k]; exact this⟩
theorem Bx.lt (h : Bx w hi p t cs) : p < w.heap.size := h.cell.lt
theorem Bx.only {c : Nat} (h : Bx w hi p t cs) (k : Only c w u) (hc : p ≠ c) : Bx u hi p t cs := h.keep (k.block p hc)
theorem Bx.ne {p' : Nat} {t' : TypeId} {cs' : Array Value} (h : Bx w hi p t cs) (k : Bx w hi p' t' cs') (ht : t ≠ t') : p ≠ p' := by
 rintro rfl
 have e1 := h.cell; have e2 := k.cell
 unfold Cells at e1 e2
 rw [e1] at e2
 cases e2
 exact ht rfl
end
structure Wk (w : World) (lo hi B D b R W : Nat) (c : Zc) (I : List Nat) (cf : Cfg) (q : Md) : Prop where
 g : Wg lo hi B W
 wc : Wc w W D c
 inf : Inf w B D b R I MM cf q
 tab : Ctab w
 mg : Mtab w
 hs : hi ≤ w.heap.size
section
variable {w u : World} {lo hi B D b R W p : Nat} {c c' : Zc} {I : List Nat} {cf : Cfg} {q : Md}
theorem Wk.kq (h : Wk w lo hi B D b R W c I cf q) (k : Kq B w u) (hW : u.heap[W]? = w.heap[W]?) (h8 : u.heap[0]? = w.heap[0]?) : Wk u lo hi B D b R W c I cf q :=
 ⟨h.g, h.wc.keep hW, h.inf.kq k, h.tab.kq k, h.mg.keep h8, Nat.le_trans h.hs k.size⟩
theorem Wk.drewN (h : Wk w lo hi B D b R W c I cf q) (m : Nat) : Wk (w.drewN m) lo hi B D b R W c I cf q := h.kq ⟨Nat.le_refl _, fun k _ => Or.inl rfl⟩ rfl rfl
theorem Wk.set (h : Wk w lo hi B D b R W c I cf q) (o : Only W w u) (hc : Wc u W D c') : Wk u lo hi B D b R W c' I cf q := by
 have g := h.g
 obtain ⟨cs, hcs⟩ := h.wc.cells
 have hk : Kq B w u := ⟨Nat.le_of_eq o.size.symm, fun k hk => by
  by_cases e : k = W
  ·subst e
   exact Or.inr ⟨by have := g.l9; have := g.lW; omega, g.WB, _, 72, _, hcs, Or.inr (Or.inl rfl)⟩
  ·exact Or.inl (o.block k e)⟩
 exact ⟨g, hc, h.inf.kq hk, h.tab.kq hk, h.mg.keep (o.block 0 (by have := g.l9; have := g.lW; omega)), by rw [o.size]; exact h.hs⟩
theorem Wk.fw (h : Wk w lo hi B D b R W c I cf q) (o : Only W w u) : Fz lo hi w u := Fz.of_only o h.g.lW (Or.inl h.g.hW)
theorem Wk.box {t : TypeId} {cs : Array Value} (h : Wk w lo hi B D b R W c I cf q) (x : Bx w hi p t cs) (ht : t = 66 ∨ t = 3 ∨ t = 98) (o : Only p w u) : Wk u lo hi B D b R W c I cf q := by
 have g := h.g
 have hp := x.lo
 have hk : Kq B w u := ⟨Nat.le_of_eq o.size.symm, fun k hk => by
  by_cases e : k = p
  ·subst e
   exact Or.inr ⟨by have := g.l9; have := g.lW; have := g.hW; omega, Or.inr (by have := g.hB; omega), cs, t, _, x.cell, by unfold Kt; rcases ht with e | e | e <;> simp [e]⟩
  ·exact Or.inl (o.block k e)⟩
 exact h.kq hk (o.block W (by have := g.hW; omega)) (o.block 0 (by have := g.l9; have := g.lW; have := g.hW; omega))
theorem Wk.fbox {t : TypeId} {cs : Array Value} (h : Wk w lo hi B D b R W c I cf q) (x : Bx w hi p t cs) (ht : t = 66 ∨ t = 3 ∨ t = 98) (o : Only p w u) : Fz lo hi w u :=
 Fz.of_only o (by have := h.g.lW; have := h.g.hW; have := x.lo; omega) (Or.inr (Bt.mk x.cell ht))
theorem Wk.out (h : Wk w lo hi B D b R W c I cf q) (k : Below hi w u) (ht : ∀ i, i < w.heap.size → u.heap[i]? = w.heap[i]? ∨ ∃ cs ty fr, w.heap[i]? = some (.cells cs ty fr) ∧ (ty = 5 ∨ ty = 22 ∨ ty = 9)) : Wk u lo hi B D b R W c I cf q := by
 have g := h.g
 have hk : Kq B w u := ⟨k.size, fun i hi' => by
  by_cases e : i < hi
  ·exact Or.inl (k.block i e)
  ·rcases ht i hi' with e1 | ⟨cs, ty, fr, e1, e2⟩
   ·exact Or.inl e1
   ·exact Or.inr ⟨by have := g.l9; have := g.lW; have := g.hW; omega, Or.inr (by have := g.hB; omega), cs, ty, fr, e1, by unfold Kt; rcases e2 with e2 | e2 | e2 <;> simp [e2]⟩⟩
 exact h.kq hk (k.block W g.hW) (k.block 0 (by have := g.l9; have := g.lW; have := g.hW; omega))
theorem Wk.below {C : Nat} (h : Wk w lo hi B D b R W c I cf q) (k : Below C w u) (hC : w.heap.size ≤ C) : Wk u lo hi B D b R W c I cf q := by
 have := h.hs
 exact h.out ⟨k.os, k.tape, k.output, k.size, fun i hi' => k.block i (by omega)⟩ fun i hi' => Or.inl (k.block i (by omega))
theorem Wk.alloc (h : Wk w lo hi B D b R W c I cf q) (o : Obj) : Wk (w.alloc o) lo hi B D b R W c I cf q := h.below ((Below.refl w.heap.size w).alloc (Nat.le_refl _) o) (Nat.le_refl _)
theorem Wk.fm {I' : List Nat} {cf' : Cfg} {q' : Md} (h : Wk w lo hi B D b R W c I cf q) (k : Fm B w u) (hi' : Inf u B D b R I' MM cf' q') : Wk u lo hi B D b R W c I' cf' q' := by
 have g := h.g
 have hs := h.hs
 have e1 : u.heap[W]? = w.heap[W]? := k.block W (by have := g.hW; omega) (by have := g.WB; omega)
 have e8 : u.heap[8]? = w.heap[8]? := k.block 8 h.tab.lt (by have := g.l9; have := g.lB; omega)
 have e0 : u.heap[0]? = w.heap[0]? := k.block 0 (by have := g.l9; have := g.lW; have := g.hW; omega) (by have := g.l9; have := g.lB; omega)
 exact ⟨g, h.wc.keep e1, hi', fun i hi => (World.cell?_of_block (w := w) e8).trans (h.tab i hi), h.mg.keep e0, Nat.le_trans hs k.size⟩
theorem Wk.ffm (h : Wk w lo hi B D b R W c I cf q) (k : Fm B w u) : Fz lo hi w u := Fz.of_fm k h.g.lB h.g.hB
end
end Go.Proofs.YtpihipbeagpgpaaGreatDoor

/-
 The closure that takes the walker's next byte, as it lies in each phase. No walk.
-/
namespace Go.Proofs.YtpihipbeagpgpaaGreatDoor
open Go.RowKit
set_option linter.unusedVariables false
def Bq (t : TypeId) : Prop := t = 66 ∨ t = 3 ∨ t = 98 ∨ t = 39 ∨ t = 1 ∨ t = 155 ∨ t = 65 ∨ t = 122 ∨ t = 126 ∨ t = 128
def Kz (hi : Nat) (w u : World) : Prop := ∀ p, hi ≤ p → p < w.heap.size → (∃ cs t fr, w.heap[p]? = some (.cells cs t fr) ∧ Bq t) → u.heap[p]? = w.heap[p]?
section
variable {hi : Nat} {w u v : World}
theorem Kz.of_only {c : Nat} (h : Only c w u) (hc : c < hi) : Kz hi w u := fun p h1 _ _ => h.block p (by omega)
theorem Kz.of_below {C : Nat} (h : Below C w u) (hC : w.heap.size ≤ C) : Kz hi w u := fun p _ h2 _ => h.block p (by omega)
theorem Kz.of_out (h : ∀ i, i < w.heap.size → u.heap[i]? = w.heap[i]? ∨ ∃ cs ty fr, w.heap[i]? = some (.cells cs ty fr) ∧ (ty = 5 ∨ ty = 22 ∨ ty = 9)) : Kz hi w u := fun p _ h2 ⟨cs, t, fr, e, hq⟩ => by
 rcases h p h2 with k | ⟨cs', ty, fr', e', k⟩
 ·exact k
 ·rw [e] at e'
  cases e'
  unfold Bq at hq
  rcases k with k | k | k <;> subst k <;> simp at hq
theorem Bx.kz {p : Nat} {t : TypeId} {cs : Array Value} (h : Bx w hi p t cs) (k : Kz hi w u) (ht : Bq t) : Bx u hi p t cs := h.keep (k p h.lo h.lt ⟨cs, t, (0, 0), h.cell, ht⟩)
theorem Kz.trans (h : Kz hi w u) (hs : w.heap.size ≤ u.heap.size) (k : Kz hi u v) : Kz hi w v := fun p h1 h2 ⟨cs, t, fr, e, hq⟩ => by
 have e1 := h p h1 h2 ⟨cs, t, fr, e, hq⟩
 exact (k p h1 (by omega) ⟨cs, t, fr, e1.trans e, hq⟩).trans e1
end
def tg (W P Q t : Nat) : Value := if t = 8 then ptr P 0 else if t = 9 then ptr Q 0 else ptr W (t + 1)
def Uv (w : World) (hi W P Q t : Nat) (v : Value) : Prop := (t = 0 ∧ v = .func (.func 68) #[] #[]) ∨ (t ≠ 0 ∧ ∃ bx, v = cl 98 #[ptr bx 0] ∧ Bx w hi bx 128 #[tg W P Q t])
structure Fls (w : World) (hi W P Q A o : Nat) (fs : List (Nat × Nat)) : Prop where
 ex : ∃ cs, Bx w hi A 126 cs ∧ ∀ (j n t : Nat), fs[j]? = some (n, t) → cs[o + j * 2]? = some (.int .i64 (n : Int)) ∧ ∃ v, cs[o + j * 2 + 1]? = some v ∧ Uv w hi W P Q t v
def Th (w : World) (hi W P Q n : Nat) (s : Zs) (T : Value) : Prop :=
 (s.k = 0 ∧ T = bm 67 W) ∨
 (s.k = 1 ∧ P < n ∧ Q < n ∧ P ≠ Q ∧ Bx w hi P 66 #[.int .u64 (s.ri : Int)] ∧ Bx w hi Q 66 #[.int .u64 (s.rl : Int)] ∧ ∃ be bw, T = cl 126 #[ptr Q 0, ptr be 0, ptr bw 0, ptr P 0] ∧ Bx w hi be 122 #[ptr W 2] ∧ Bx w hi bw 39 #[ptr W 0]) ∨
 (s.k = 2 ∧ ∃ bw L, L < n ∧ Bx w hi L 66 #[.int .u64 (s.mn : Int)] ∧ T = cl 143 #[ptr bw 0, ptr L 0] ∧ Bx w hi bw 39 #[ptr W 0]) ∨
 (s.k = 3 ∧ ∃ bw F bx, T = cl 167 #[ptr bw 0, ptr F 0] ∧ Bx w hi bw 39 #[ptr W 0] ∧ Bx w hi F 126 #[.int .i64 4, cl 98 #[ptr bx 0]] ∧ Bx w hi bx 128 #[ptr W 4]) ∨
 (s.k = 4 ∧ T = bm 168 W) ∨
 (s.k = 5 ∧ T = bm 154 W)
def t3 (W k : Nat) : Value := if k = 1 then bm 125 W else if k = 3 then bm 31 W else bm 97 W
def Nz (w : World) (hi W : Nat) (s : Zs) (v : Value) : Prop :=
 (s.ph = 0 ∧ ∃ pb pt pw cs, v = cl 46 #[ptr pb 0, ptr pt 0, ptr pw 0] ∧ Bx w hi pb 98 cs ∧ cs.size = 4 ∧ (∀ (j x : Nat), s.bs[j]? = some x → cs[j]? = some (.int .u8 (x : Int))) ∧ Bx w hi pt 3 #[.int .i64 (s.bs.length : Int)] ∧ Bx w hi pw 39 #[ptr W 0]) ∨
 (s.ph = 1 ∧ v = .func (.func 49) #[] #[]) ∨
 (s.ph = 2 ∧ ∃ pv pb pf pw pt P Q A o C T, v = cl 94 #[ptr pv 0, ptr pb 0, ptr pf 0, ptr pw 0, ptr pt 0] ∧ Bx w hi pv 66 #[.int .u64 (lev s.bs : Int)] ∧ Bx w hi pb 3 #[.int .i64 ((8 * s.bs.length : Nat) : Int)] ∧ Bx w hi pf 155 #[.slice (some ⟨A, o, none⟩) s.fs.length C] ∧ Bx w hi pw 39 #[ptr W 0] ∧ Bx w hi pt 1 #[T] ∧ s.fs.length ≤ C ∧ C ≤ 9223372036854775807 ∧ Fls w hi W P Q A o s.fs ∧ Th w hi W P Q pv s T) ∨
 (s.ph = 3 ∧ ∃ pu pm pt U, v = cl 123 #[ptr pu 0, ptr pm 0, ptr pt 0] ∧ Bx w hi pu 65 #[U] ∧ Bx w hi pm 66 #[.int .u64 (s.mn : Int)] ∧ Bx w hi pt 1 #[t3 W s.k] ∧ ((s.k = 0 ∧ ∃ be pa, U = cl 96 #[ptr be 0, ptr pa 0] ∧ Bx w hi be 122 #[ptr W 2] ∧ Bx w hi pa 3 #[.int .i64 (s.nm.length : Int)]) ∨ (s.k ≠ 0 ∧ U = .func (.func 139) #[] #[]))) ∨
 (s.ph = 4 ∧ v = bm 147 W) ∨
 (s.ph = 5 ∧ v = bm 150 W)
section
variable {hi W P Q n n' A o t : Nat} {w u : World} {s : Zs} {T v : Value} {fs : List (Nat × Nat)}
theorem Uv.kz (h : Uv w hi W P Q t v) (k : Kz hi w u) : Uv u hi W P Q t v := by
 rcases h with h | ⟨h, bx, h1, h2⟩
 ·exact Or.inl h
 ·exact Or.inr ⟨h, bx, h1, h2.kz k (by simp [Bq])⟩
theorem Fls.kz (h : Fls w hi W P Q A o fs) (k : Kz hi w u) : Fls u hi W P Q A o fs := by
 obtain ⟨cs, h1, h2⟩ := h.ex
 refine ⟨cs, h1.kz k (by simp [Bq]), fun j n t hj => ?_⟩
 obtain ⟨a, v, b, c⟩ := h2 j n t hj
 exact ⟨a, v, b, c.kz k⟩
theorem Fls.tail {a : Nat × Nat} (h : Fls w hi W P Q A o (a :: fs)) : Fls w hi W P Q A (o + 2) fs := by
 obtain ⟨cs, h1, h2⟩ := h.ex
 refine ⟨cs, h1, fun j n t hj => ?_⟩
 have := h2 (j + 1) n t (by simpa using hj)
 rwa [show o + (j + 1) * 2 = o + 2 + j * 2 by omega] at this
theorem Fls.first {m c : Nat} (h : Fls w hi W P Q A o ((m, c) :: fs)) : w.cell? ⟨A, o, none⟩ = some (.int .i64 (m : Int)) ∧ ∃ v, w.cell? ⟨A, o + 1, none⟩ = some v ∧ Uv w hi W P Q c v := by
 obtain ⟨cs, h1, h2⟩ := h.ex
 obtain ⟨a, v, b, d⟩ := h2 0 m c rfl
 rw [h1.cell.cell, h1.cell.cell]
 exact ⟨by simpa using a, v, by simpa using b, d⟩
theorem Th.kz (h : Th w hi W P Q n s T) (k : Kz hi w u) : Th u hi W P Q n s T := by
 rcases h with h | ⟨a, b, c, d, e, f, be, bw, g1, g2, g3⟩ | ⟨a, bw, L, b, c, d, e⟩ | ⟨a, bw, F, bx, b, c, d, e⟩ | h | h
 ·exact Or.inl h
 ·exact Or.inr (Or.inl ⟨a, b, c, d, e.kz k (by simp [Bq]), f.kz k (by simp [Bq]), be, bw, g1, g2.kz k (by simp [Bq]), g3.kz k (by simp [Bq])⟩)
 ·exact Or.inr (Or.inr (Or.inl ⟨a, bw, L, b, c.kz k (by simp [Bq]), d, e.kz k (by simp [Bq])⟩))
 ·exact Or.inr (Or.inr (Or.inr (Or.inl ⟨a, bw, F, bx, b, c.kz k (by simp [Bq]), d.kz k (by simp [Bq]), e.kz k (by simp [Bq])⟩)))
 ·exact Or.inr (Or.inr (Or.inr (Or.inr (Or.inl h))))
 ·exact Or.inr (Or.inr (Or.inr (Or.inr (Or.inr h))))
theorem Th.mono (h : Th w hi W P Q n s T) (hn : n ≤ n') : Th w hi W P Q n' s T := by
 rcases h with h | ⟨a, b, c, d⟩ | ⟨a, bw, L, b, d⟩ | h | h | h
 ·exact Or.inl h
 ·exact Or.inr (Or.inl ⟨a, by omega, by omega, d⟩)
 ·exact Or.inr (Or.inr (Or.inl ⟨a, bw, L, by omega, d⟩))
 ·exact Or.inr (Or.inr (Or.inr (Or.inl h)))
 ·exact Or.inr (Or.inr (Or.inr (Or.inr (Or.inl h))))
 ·exact Or.inr (Or.inr (Or.inr (Or.inr (Or.inr h))))
theorem Nz.kz (h : Nz w hi W s v) (k : Kz hi w u) : Nz u hi W s v := by
 rcases h with ⟨a, pb, pt, pw, cs, b, c, d, e, f, g⟩ | h | ⟨a, pv, pb, pf, pw, pt, P, Q, A, o, C, T, b, c, d, e, f, g, i1, i2, i, j⟩ | ⟨a, pu, pm, pt, U, b, c, d, e, f⟩ | h | h
 ·exact Or.inl ⟨a, pb, pt, pw, cs, b, c.kz k (by simp [Bq]), d, e, f.kz k (by simp [Bq]), g.kz k (by simp [Bq])⟩
 ·exact Or.inr (Or.inl h)
 ·exact Or.inr (Or.inr (Or.inl ⟨a, pv, pb, pf, pw, pt, P, Q, A, o, C, T, b, c.kz k (by simp [Bq]), d.kz k (by simp [Bq]), e.kz k (by simp [Bq]), f.kz k (by simp [Bq]), g.kz k (by simp [Bq]), i1, i2, i.kz k, j.kz k⟩))
 ·refine Or.inr (Or.inr (Or.inr (Or.inl ⟨a, pu, pm, pt, U, b, c.kz k (by simp [Bq]), d.kz k (by simp [Bq]), e.kz k (by simp [Bq]), ?_⟩)))
  rcases f with ⟨f, be, pa, g, i, j⟩ | f
  ·exact Or.inl ⟨f, be, pa, g, i.kz k (by simp [Bq]), j.kz k (by simp [Bq])⟩
  ·exact Or.inr f
 ·exact Or.inr (Or.inr (Or.inr (Or.inr (Or.inl h))))
 ·exact Or.inr (Or.inr (Or.inr (Or.inr (Or.inr h))))
end
def zc (s : Zs) (v td : Value) (ev : Option Evn) : Zc := ⟨v, s.fl, s.me, s.su, s.pk, s.sz, s.nl, s.xl, s.wd, s.nm, s.tk, s.gv, s.sg, ev, td, decide (s.ph = 1), false, s.why⟩
end Go.Proofs.YtpihipbeagpgpaaGreatDoor

/-
 into: a number's place handed to a closure; what the closure does.
-/
namespace Go.Proofs.YtpihipbeagpgpaaGreatDoor
open Go.RowKit
set_option linter.unusedVariables false
theorem into_c (b i : Nat) (w : World) : Calls Tryz.prog 69 #[.pointer (some ⟨b, i, none⟩)] w fun e w' => e = .returned (.func (.func 98) #[] #[.pointer (some ⟨w.heap.size, 0, none⟩)]) ∧ Cells w' w.heap.size #[.pointer (some ⟨b, i, none⟩)] 128 ∧ Below w.heap.size w w' ∧ w'.heap.size = w.heap.size + 1 := by
 go_enter Tryz.func69, Tryz.ntmps69
 go_wp2_with fail
 first | go_ret | go_ret2
 exact ⟨rfl, Cells.new w _ _, (Below.refl _ w).alloc (Nat.le_refl _) _, by simp⟩
theorem into1_c (b i bx : Nat) (v : Nat) (w : World) (h : Cells w bx #[.pointer (some ⟨b, i, none⟩)] 128) (o : Value) (ho : w.cell? ⟨b, i, none⟩ = some o) (hz : w.frozen? ⟨b, i, none⟩ = false) : Calls Tryz.prog 98 #[.int .u64 (v : Int), .pointer (some ⟨bx, 0, none⟩)] w fun e w' => e = .returned (.tuple #[]) ∧ w' = w.setCell ⟨b, i, none⟩ (.int .u64 (v : Int)) := by
 have c1 : w.cell? ⟨bx, 0, none⟩ = some (.pointer (some ⟨b, i, none⟩)) := by rw [h.cell]; rfl
 clear h
 go_enter Tryz.func98, Tryz.ntmps98
 go_wp2_with fail
 first | go_end0 | (refine bodyPost_ret (results_none rfl _ _ _) rfl ?_)
 exact ⟨rfl, rfl⟩
theorem unused_c (v : Nat) (w : World) : Calls Tryz.prog 68 #[.int .u64 (v : Int)] w fun e w' => e = .returned (.tuple #[]) ∧ w' = w := by
 go_enter Tryz.func68, Tryz.ntmps68
 go_wp2_with fail
 first | go_end0 | (refine bodyPost_ret (results_none rfl _ _ _) rfl ?_)
 exact ⟨rfl, rfl⟩
theorem past_c (v : Nat) (w : World) : Calls Tryz.prog 139 #[.int .u8 (v : Int)] w fun e w' => e = .returned (.tuple #[]) ∧ w' = w := by
 go_enter Tryz.func139, Tryz.ntmps139
 go_wp2_with fail
 first | go_end0 | (refine bodyPost_ret (results_none rfl _ _ _) rfl ?_)
 exact ⟨rfl, rfl⟩
theorem rest_c (v : Nat) (w : World) : Calls Tryz.prog 49 #[.int .u8 (v : Int)] w fun e w' => e = .returned (.tuple #[]) ∧ w' = w := by
 go_enter Tryz.func49, Tryz.ntmps49
 go_wp2_with fail
 first | go_end0 | (refine bodyPost_ret (results_none rfl _ _ _) rfl ?_)
 exact ⟨rfl, rfl⟩
end Go.Proofs.YtpihipbeagpgpaaGreatDoor

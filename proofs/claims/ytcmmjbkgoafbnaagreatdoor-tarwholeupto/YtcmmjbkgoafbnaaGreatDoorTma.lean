/-
  The walker as a machine over bytes: its states, what a byte makes of them, what is told with it. No walk.
-/
import Derived.Test.YtcmmjbkgoafbnaaGreatDoorNsm
namespace Go.Proofs.YtcmmjbkgoafbnaaGreatDoor
set_option linter.unusedVariables false
/-- Where the walker stands: 0 in a header, 1 in data, 2 behind data, 3 behind all; the place in the block; the block; what the data is for (0 nothing, 1 a file, 2 a name, 3 records); how many bytes are left; what is kept, how much of it; the name and the size to come; why it was stopped. -/
structure Ts where
  wh : Nat
  ps : Nat
  B : List Nat
  us : Nat
  lf : Nat
  K : List Nat
  ln : Nat
  nm : Option (List Nat)
  sz : Option Nat
  why : Nat
abbrev Evn := Nat × List Nat
abbrev Gev := Nat × Evn
def t0 : Ts := ⟨0, 0, List.replicate 512 0, 0, 0, List.replicate 1024 0, 0, none, none, 0⟩
/-- A field's text. -/
def ttx (l : List Nat) : List Nat := l.takeWhile fun x => x != 0
def isd (x : Nat) : Bool := decide (48 ≤ x ∧ x ≤ 57)
/-- Decimal digits behind a number. -/
def tdc : Nat → List Nat → Option Nat
  | v, [] => some v
  | v, x :: r => if isd x = false then none else if 9223372036854775807 < 10 * v + (x - 48) then none else tdc (10 * v + (x - 48)) r
def tdec (l : List Nat) : Option Nat := if l = [] then none else tdc 0 l
/-- The number of digits that are few. -/
def num : Nat → List Nat → Nat
  | v, [] => v
  | v, x :: r => num (10 * v + (x - 48)) r
/-- What stands ahead of the first =, and behind it. -/
def teq (x : List Nat) : Option (List Nat × List Nat) := if 61 ∈ x then some (x.takeWhile (fun y => y != 61), x.drop ((x.takeWhile (fun y => y != 61)).length + 1)) else none
/-- The first record: what stands between its blank and its end, and how long it is. -/
def tcut (b : List Nat) : Option (List Nat × Nat) :=
  let d := (b.takeWhile isd).length
  let n := num 0 (b.take d)
  if d = 0 ∨ 4 < d ∨ n < d + 2 ∨ b.length < n ∨ b[d]? ≠ some 32 ∨ b[n - 1]? ≠ some 10 then none else some ((b.take (n - 1)).drop (d + 1), n)
def trc (b : List Nat) : Option (List Nat × List Nat × Nat) := match tcut b with
  | none => none
  | some (x, n) => match teq x with
    | none => none
    | some (k, v) => some (k, v, n)
def kpath : List Nat := [112, 97, 116, 104]
def ksize : List Nat := [115, 105, 122, 101]
abbrev Cm := Option (List Nat) × Option Nat
/-- What a name makes of what is to come. -/
def tnam (v : List Nat) (c : Cm) : Cm × Nat := if 256 < v.length then (c, 46) else ((some v, c.2), 0)
def tsiz (v : List Nat) (c : Cm) : Cm × Nat := match tdec v with
  | none => (c, 48)
  | some z => ((c.1, some z), 0)
def tset (k v : List Nat) (c : Cm) : Cm × Nat := if k = kpath then tnam v c else if k = ksize then tsiz v c else (c, 0)
def trs : Nat → List Nat → Cm → Cm × Nat
  | 0, _, c => (c, 0)
  | f + 1, b, c => if b = [] then (c, 0) else match trc b with
    | none => (c, 49)
    | some (k, v, n) => if (tset k v c).2 ≠ 0 then tset k v c else trs f (b.drop n) (tset k v c).1
def trr (b : List Nat) (c : Cm) : Cm × Nat := trs b.length b c
/-- What data that is all there makes of what is to come. -/
def tfin (us : Nat) (d : List Nat) (c : Cm) : Cm × Nat := if us = 2 then tnam (ttx d) c else if us = 3 then trr d c else (c, 0)
def tend (s : Ts) : Ts := { s with nm := (tfin s.us (s.K.take s.ln) (s.nm, s.sz)).1.1, sz := (tfin s.us (s.K.take s.ln) (s.nm, s.sz)).1.2, why := (tfin s.us (s.K.take s.ln) (s.nm, s.sz)).2 }
/-- What is told as all data is there. -/
def tcl (us : Nat) : List Evn := if us = 1 then [(257, [])] else []
def tbeg (us z : Nat) (s : Ts) : Ts × List Evn := if z = 0 then (tend { s with us := us, lf := z }, tcl us) else ({ s with us := us, lf := z, wh := 1 }, [])
/-- A header's own name. -/
def tnm (B : List Nat) : List Nat := if (B.drop 257).take 5 = [117, 115, 116, 97, 114] ∧ ttx ((B.drop 345).take 155) ≠ [] then ttx ((B.drop 345).take 155) ++ [47] ++ ttx (B.take 100) else ttx (B.take 100)
def tkd (B : List Nat) : Nat := B.getD 156 0
/-- Is a header one that says nothing of another one? -/
def town (k : Nat) : Bool := k != 76 && k != 120 && k != 75 && k != 103
def tisf (k : Nat) : Bool := k == 48 || k == 0 || k == 55
/-- What a header's data is for. -/
def tus (k : Nat) : Nat := if k = 76 then 2 else if k = 120 then 3 else if tisf k then 1 else 0
/-- Too much to be kept. -/
def tmuch (k z : Nat) : Bool := (k == 76 && decide (257 < z)) || (k == 120 && decide (1024 < z))
/-- How many bytes of data there are. -/
def tsz (k z : Nat) (sz : Option Nat) : Nat := if town k then sz.getD z else z
def topn (B : List Nat) (nm : Option (List Nat)) : List Evn := if tisf (tkd B) then [(256, nm.getD (tnm B))] else []
/-- What is to come behind a header. -/
def tcm (k : Nat) (c : Cm) : Cm := if town k then (none, none) else c
/-- A header that is all there. -/
def thead (s : Ts) : Ts × List Evn :=
  if noughts s.B then ({ s with wh := 3 }, [])
  else if rgt s.B = false then ({ s with why := 44 }, [])
  else match fld ((s.B.drop 124).take 12) with
    | none => ({ s with why := 48 }, [])
    | some z => if tmuch (tkd s.B) z then ({ s with why := 46 }, [])
      else
        ((tbeg (tus (tkd s.B)) (tsz (tkd s.B) z s.sz) { s with ln := if town (tkd s.B) || tus (tkd s.B) == 0 then s.ln else 0, nm := (tcm (tkd s.B) (s.nm, s.sz)).1, sz := (tcm (tkd s.B) (s.nm, s.sz)).2 }).1,
         topn s.B s.nm ++ (tbeg (tus (tkd s.B)) (tsz (tkd s.B) z s.sz) s).2)
/-- A byte of data. -/
def tkp (x : Nat) (s : Ts) : Ts := if s.us = 2 ∨ s.us = 3 then { s with K := s.K.set s.ln x, ln := s.ln + 1, lf := s.lf - 1 } else { s with lf := s.lf - 1 }
def tbt (us x : Nat) : List Evn := if us = 1 then [(x, [])] else []
def tdat (x : Nat) (s : Ts) : Ts × List Evn := if s.lf = 1 then (tend { tkp x s with wh := 2 }, tbt s.us x ++ tcl s.us) else (tkp x s, tbt s.us x)
def tnx (s : Ts) : Ts := if s.wh = 2 ∧ s.ps = 0 then { s with wh := 0 } else s
/-- One byte: how it stands behind it, and what is told. -/
def tput (s : Ts) (x : Nat) : Ts × List Evn :=
  if s.wh = 0 then (if (s.ps + 1) % 512 = 0 then (tnx (thead { s with B := s.B.set s.ps x, ps := 0 }).1, (thead { s with B := s.B.set s.ps x, ps := 0 }).2) else ({ s with B := s.B.set s.ps x, ps := (s.ps + 1) % 512 }, []))
  else if s.wh = 1 then (tnx (tdat x { s with ps := (s.ps + 1) % 512 }).1, (tdat x { s with ps := (s.ps + 1) % 512 }).2)
  else (tnx { s with ps := (s.ps + 1) % 512 }, [])
def Sp (s : Ts) (x : Nat) (s1 : Ts) (E : List Evn) : Prop := s1 = (tput s x).1 ∧ E = (tput s x).2
def evs (t : Nat) (E : List Evn) : List Gev := E.map fun e => (t, e)
/-- Bytes from a time on, all of them taken. -/
def Mr : Nat → Ts → List Nat → Ts → List Gev → Prop
  | _, s, [], s', T => s' = s ∧ T = []
  | t, s, x :: l, s', T => s.why = 0 ∧ ∃ s1 E T1, Sp s x s1 E ∧ Mr (t + 1) s1 l s' T1 ∧ T = evs t E ++ T1
theorem mr_append : ∀ (l m : List Nat) (t : Nat) (s s' : Ts) (T : List Gev), Mr t s (l ++ m) s' T ↔ ∃ s1 T1 T2, Mr t s l s1 T1 ∧ Mr (t + l.length) s1 m s' T2 ∧ T = T1 ++ T2
  | [], m, t, s, s', T => by
    constructor
    · intro h; exact ⟨s, [], T, ⟨rfl, rfl⟩, h, rfl⟩
    · rintro ⟨s1, T1, T2, ⟨rfl, rfl⟩, h, rfl⟩; exact h
  | x :: l, m, t, s, s', T => by
    have ih := mr_append l m (t + 1)
    constructor
    · rintro ⟨h0, s1, E, T1, h1, h2, rfl⟩
      obtain ⟨s2, T2, T3, h3, h4, rfl⟩ := (ih s1 s' T1).1 h2
      exact ⟨s2, evs t E ++ T2, T3, ⟨h0, s1, E, T2, h1, h3, rfl⟩, by rw [List.length_cons, show t + (l.length + 1) = t + 1 + l.length by omega]; exact h4, by rw [List.append_assoc]⟩
    · rintro ⟨s2, T2, T3, ⟨h0, s1, E, T1, h1, h3, rfl⟩, h4, rfl⟩
      rw [List.length_cons, show t + (l.length + 1) = t + 1 + l.length by omega] at h4
      exact ⟨h0, s1, E, T1 ++ T3, h1, (ih s1 s' _).2 ⟨s2, T1, T3, h3, h4, rfl⟩, by rw [List.append_assoc]⟩
theorem Sp.det {s s1 s2 : Ts} {x : Nat} {E F : List Evn} (h : Sp s x s1 E) (k : Sp s x s2 F) : s1 = s2 ∧ E = F := ⟨h.1.trans k.1.symm, h.2.trans k.2.symm⟩
theorem mr_det : ∀ (l : List Nat) (t : Nat) (s s1 s2 : Ts) (T U : List Gev), Mr t s l s1 T → Mr t s l s2 U → s1 = s2 ∧ T = U
  | [], t, s, s1, s2, T, U, ⟨h1, h2⟩, ⟨k1, k2⟩ => ⟨h1.trans k1.symm, h2.trans k2.symm⟩
  | x :: l, t, s, s1, s2, T, U, ⟨_, a, E, T1, h1, h2, h3⟩, ⟨_, b, F, U1, k1, k2, k3⟩ => by
    obtain ⟨rfl, rfl⟩ := h1.det k1
    obtain ⟨e1, rfl⟩ := mr_det l (t + 1) a s1 s2 T1 U1 h2 k2
    exact ⟨e1, h3.trans k3.symm⟩
/-- The first k bytes of b were taken. -/
def Rch (b : List Nat) (k : Nat) (s : Ts) (T : List Gev) : Prop := k ≤ b.length ∧ Mr 0 t0 (b.take k) s T
theorem rch_zero (b : List Nat) : Rch b 0 t0 [] := ⟨Nat.zero_le _, by rw [List.take_zero]; exact ⟨rfl, rfl⟩⟩
theorem Rch.step {b : List Nat} {k x : Nat} {s s1 : Ts} {T : List Gev} {E : List Evn} (h : Rch b k s T) (h0 : s.why = 0) (hx : b[k]? = some x) (hs : Sp s x s1 E) : Rch b (k + 1) s1 (T ++ evs k E) := by
  obtain ⟨hk, he⟩ := List.getElem?_eq_some_iff.1 hx
  refine ⟨hk, ?_⟩
  rw [List.take_succ_eq_append_getElem hk, he]
  refine (mr_append _ _ _ _ _ _).2 ⟨s, T, _, h.2, ⟨h0, s1, E, [], hs, ⟨rfl, rfl⟩, rfl⟩, ?_⟩
  rw [List.length_take, Nat.min_eq_left h.1, List.append_nil, Nat.zero_add]
theorem Rch.det {b : List Nat} {k : Nat} {s s1 : Ts} {T U : List Gev} (h : Rch b k s T) (q : Rch b k s1 U) : s = s1 ∧ T = U := mr_det _ _ _ _ _ _ _ h.2 q.2
/-- A run more. -/
theorem Rch.run {b m : List Nat} {k : Nat} {s s1 : Ts} {T U : List Gev} (h : Rch b k s T) (hm : m = (b.drop k).take m.length) (hr : Mr k s m s1 U) : Rch b (k + m.length) s1 (T ++ U) := by
  have hl : m.length ≤ b.length - k := by
    have e := congrArg List.length hm
    rw [List.length_take, List.length_drop] at e
    omega
  have hk := h.1
  refine ⟨by omega, ?_⟩
  rw [List.take_add, ← hm]
  refine (mr_append _ _ _ _ _ _).2 ⟨s, T, U, h.2, ?_, rfl⟩
  rw [List.length_take, Nat.min_eq_left hk, Nat.zero_add]
  exact hr
/-- What was taken ahead. -/
theorem Rch.back {b : List Nat} {k j : Nat} {s : Ts} {T : List Gev} (h : Rch b k s T) (hj : j ≤ k) : ∃ s1 T1 T2, Rch b j s1 T1 ∧ Mr j s1 ((b.take k).drop j) s T2 ∧ T = T1 ++ T2 := by
  have e : b.take k = b.take j ++ (b.take k).drop j := by
    conv => lhs; rw [← List.take_append_drop j (b.take k)]
    rw [List.take_take, Nat.min_eq_left hj]
  have h2 := h.2
  rw [e] at h2
  obtain ⟨s1, T1, T2, q1, q2, q3⟩ := (mr_append _ _ _ _ _ _).1 h2
  have hl := h.1
  rw [List.length_take, Nat.min_eq_left (by omega), Nat.zero_add] at q2
  exact ⟨s1, T1, T2, ⟨by omega, q1⟩, q2, q3⟩
/-- The next byte that was taken. -/
theorem Rch.at {b : List Nat} {k i : Nat} {s si : Ts} {T Ti : List Gev} (h : Rch b k s T) (hi : Rch b i si Ti) (hik : i < k) : si.why = 0 ∧ ∃ x s1 E T2, b[i]? = some x ∧ Sp si x s1 E ∧ Rch b (i + 1) s1 (Ti ++ evs i E) ∧ T = Ti ++ evs i E ++ T2 ∧ Mr (i + 1) s1 ((b.take k).drop (i + 1)) s T2 := by
  obtain ⟨s1, T1, T2, q1, q2, rfl⟩ := h.back (Nat.le_of_lt hik)
  obtain ⟨rfl, rfl⟩ := hi.det q1
  have hl := h.1
  have hlt : i < (b.take k).length := by rw [List.length_take]; omega
  rw [List.drop_eq_getElem_cons hlt] at q2
  obtain ⟨h0, s2, E, T3, q3, q4, rfl⟩ := q2
  have hx : b[i]? = some (b.take k)[i] := by
    rw [List.getElem_take, List.getElem?_eq_getElem (by omega)]
  exact ⟨h0, _, s2, E, T3, hx, q3, hi.step h0 hx q3, by rw [List.append_assoc], q4⟩
end Go.Proofs.YtcmmjbkgoafbnaaGreatDoor

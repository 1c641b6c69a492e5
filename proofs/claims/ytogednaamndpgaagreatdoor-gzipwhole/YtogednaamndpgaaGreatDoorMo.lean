/-
  Own texts of this seat, one behind the other: what each says stands ahead of it.
-/
import Derived.Test.YtogednaamndpgaaGreatDoorMn
import Derived.BigRegion
import Derived.Test.YtogednaamndpgaaGreatDoorMe
import Derived.Test.YtogednaamndpgaaGreatDoorMd
import Derived.Laws.IdiomStrings
/-
  The walker as a machine over bytes: its states, what a byte makes of them, what is told with it. No walk.
-/
namespace Go.Proofs.YtogednaamndpgaaGreatDoor
open Go.RowKit
set_option linter.unusedVariables false
/-- How many bytes an inflater may be asked for, at most. -/
def MM : Nat := 1000000000000
/-- Where the walker stands: the step that comes next, the flags that are left, the name, how many bytes are left, the number, the sum, how many bytes were given, may it end, why it was stopped; the deflated bytes, where the inflater stands. -/
structure Gs where
  nx : Nat
  fl : Nat
  nm : List Nat
  lf : Nat
  nb : Nat
  sm : Nat
  gv : Nat
  wh : Bool
  why : Nat
  ip : List Nat
  y : Cfg
abbrev Evn := Nat × List Nat
def s0 : Gs := ⟨0, 0, [], 0, 0, 0, 0, false, 0, [], c0⟩
def gbad (k : Nat) (s : Gs) : Gs := { s with why := k }
def gcnt (x : Nat) (s : Gs) : Gs := { s with sm := stp s.sm x }
def gopn (s : Gs) : Gs × List Evn := ({ s with nm := [], sm := 0, gv := 0, nx := 9, ip := [], y := c0 }, [(256, s.nm)])
def gfield (s : Gs) : Gs × List Evn :=
  if s.fl / 4 % 2 = 1 then ({ s with fl := s.fl - 4, nx := 5, lf := 2 }, [])
  else if s.fl / 8 % 2 = 1 then ({ s with fl := s.fl - 8, nx := 6, lf := 256 }, [])
  else if s.fl / 16 % 2 = 1 then ({ s with fl := s.fl - 16, nx := 7, lf := 256 }, [])
  else if s.fl / 2 % 2 = 1 then ({ s with fl := s.fl - 2, nx := 8, lf := 2 }, [])
  else gopn s
def gbgn (x : Nat) (s : Gs) : Gs := { s with wh := false, sm := stp 0 x, nx := 1 }
def gath (x : Nat) (s : Gs) : Gs := { s with nb := s.nb / 256 + x * 16777216, lf := s.lf - 1 }
def gtxt (x : Nat) (s : Gs) : Gs × List Evn :=
  if x = 0 then gfield (gcnt x s) else if s.lf = 0 then (gbad 46 (gcnt x s), []) else ({ gcnt x s with lf := s.lf - 1 }, [])
def gext (s : Gs) : Gs × List Evn :=
  if s.lf = 0 then (if 1024 < s.nb / 65536 then (gbad 46 s, []) else if s.nb / 65536 = 0 then gfield s else ({ s with nx := 4, lf := s.nb / 65536 }, [])) else (s, [])
def gnam (x : Nat) (s : Gs) : Gs := if x ≠ 0 ∧ 0 < s.lf then { s with nm := s.nm ++ [x] } else s
def ghsm (s : Gs) : Gs × List Evn := if s.lf = 0 then (if s.nb / 65536 = s.sm % 65536 then gopn s else (gbad 43 s, [])) else (s, [])
def gdsm (s : Gs) : Gs × List Evn := if s.lf = 0 then (if s.nb = s.sm then ({ s with nx := 11, lf := 4 }, []) else (gbad 44 s, [])) else (s, [])
def gdsz (s : Gs) : Gs × List Evn := if s.lf = 0 then (if s.nb = s.gv % 4294967296 then ({ s with wh := true, nx := 12 }, [(257, [])]) else (gbad 45 s, [])) else (s, [])
def gnou (x : Nat) (s : Gs) : Gs := if x = 0 then s else gbad 47 s
def gany (x : Nat) (s : Gs) : Gs × List Evn := if s.lf - 1 = 0 then gfield { gcnt x s with lf := s.lf - 1 } else ({ gcnt x s with lf := s.lf - 1 }, [])
/-- What a byte makes of it where nothing is inflated. -/
def gst (s : Gs) (x : Nat) : Gs × List Evn := match s.nx with
  | 0 => (if x = 31 then gbgn x s else gbad 40 s, [])
  | 1 => (if x = 139 then { gcnt x s with nx := 2 } else gbad 40 s, [])
  | 2 => (if x = 8 then { gcnt x s with nx := 3 } else gbad 41 s, [])
  | 3 => (if x < 32 then { gcnt x s with fl := x, nx := 4, lf := 6 } else gbad 42 s, [])
  | 4 => gany x s
  | 5 => gext (gath x (gcnt x s))
  | 6 => gtxt x (gnam x s)
  | 7 => gtxt x s
  | 8 => ghsm (gath x s)
  | 10 => gdsm (gath x s)
  | 11 => gdsz (gath x s)
  | 12 => (if x = 31 then gbgn x s else { gnou x s with nx := 13 }, [])
  | _ => (gnou x s, [])
def badC (c : Cfg) : Nat := match c.st with
  | .inr (.inr (.inr y)) => y
  | _ => 0
/-- The inflater stands at y behind one byte more. -/
def gdat (s : Gs) (x : Nat) (y : Cfg) : Gs := { s with ip := s.ip ++ [x], y := y, sm := sm 0 y.out, gv := y.out.length, nx := if endC y then 10 else 9, lf := if endC y then 4 else s.lf, why := badC y }
/-- One byte: how it stands behind it, and what is told. -/
def Sp (s : Gs) (x : Nat) (s1 : Gs) (E : List Evn) : Prop := (s.nx = 9 ∧ ∃ y, Stands (s.ip ++ [x]) MM y ∧ s1 = gdat s x y ∧ E = (y.out.drop s.y.out.length).map fun b => (b, [])) ∨ (s.nx ≠ 9 ∧ s1 = (gst s x).1 ∧ E = (gst s x).2)
def evs (t : Nat) (E : List Evn) : List Gev := E.map fun e => (t, e)
/-- Bytes from a time on, all of them taken. -/
def Mr : Nat → Gs → List Nat → Gs → List Gev → Prop
  | _, s, [], s', T => s' = s ∧ T = []
  | t, s, x :: l, s', T => s.why = 0 ∧ ∃ s1 E T1, Sp s x s1 E ∧ Mr (t + 1) s1 l s' T1 ∧ T = evs t E ++ T1
theorem mr_append : ∀ (l m : List Nat) (t : Nat) (s s' : Gs) (T : List Gev), Mr t s (l ++ m) s' T ↔ ∃ s1 T1 T2, Mr t s l s1 T1 ∧ Mr (t + l.length) s1 m s' T2 ∧ T = T1 ++ T2
  | [], m, t, s, s', T => by
    constructor
    · intro h; exact ⟨s, [], T, ⟨rfl, rfl⟩, h, rfl⟩
    · rintro ⟨s1, T1, T2, ⟨rfl, rfl⟩, h, rfl⟩; exact h
  | x :: l, m, t, s, s', T => by
    have ih := mr_append l m (t + 1)
    constructor
    · rintro ⟨h0, s1, E, T1, h1, h2, rfl⟩
      obtain ⟨s2, T2, T3, h3, h4, rfl⟩ := (ih s1 s' T1).1 h2
      exact ⟨s2, evs t E ++ T2, T3, ⟨h0, s1, E, T2, h1, h3, rfl⟩, by rw [List.length_cons, show t + (l.length + 1) = t + 1 + l.length by omega]; exact h4, by rw [List.append_assoc]⟩
    · rintro ⟨s2, T2, T3, ⟨h0, s1, E, T1, h1, h3, rfl⟩, h4, rfl⟩
      rw [List.length_cons, show t + (l.length + 1) = t + 1 + l.length by omega] at h4
      exact ⟨h0, s1, E, T1 ++ T3, h1, (ih s1 s' _).2 ⟨s2, T1, T3, h3, h4, rfl⟩, by rw [List.append_assoc]⟩
theorem Sp.det {s s1 s2 : Gs} {x : Nat} {E F : List Evn} (h : Sp s x s1 E) (k : Sp s x s2 F) : s1 = s2 ∧ E = F := by
  rcases h with ⟨h0, y, h1, h2, h3⟩ | ⟨h0, h1, h2⟩ <;> rcases k with ⟨k0, z, k1, k2, k3⟩ | ⟨k0, k1, k2⟩
  · have := h1.one k1
    subst this
    exact ⟨h2.trans k2.symm, h3.trans k3.symm⟩
  · exact absurd h0 k0
  · exact absurd k0 h0
  · exact ⟨h1.trans k1.symm, h2.trans k2.symm⟩
theorem mr_det : ∀ (l : List Nat) (t : Nat) (s s1 s2 : Gs) (T U : List Gev), Mr t s l s1 T → Mr t s l s2 U → s1 = s2 ∧ T = U
  | [], t, s, s1, s2, T, U, ⟨h1, h2⟩, ⟨k1, k2⟩ => ⟨h1.trans k1.symm, h2.trans k2.symm⟩
  | x :: l, t, s, s1, s2, T, U, ⟨_, a, E, T1, h1, h2, h3⟩, ⟨_, b, F, U1, k1, k2, k3⟩ => by
    obtain ⟨rfl, rfl⟩ := h1.det k1
    obtain ⟨e1, rfl⟩ := mr_det l (t + 1) a s1 s2 T1 U1 h2 k2
    exact ⟨e1, h3.trans k3.symm⟩
/-- The first k bytes of b were taken. -/
def Rch (b : List Nat) (k : Nat) (s : Gs) (T : List Gev) : Prop := k ≤ b.length ∧ Mr 0 s0 (b.take k) s T
theorem rch_zero (b : List Nat) : Rch b 0 s0 [] := ⟨Nat.zero_le _, by rw [List.take_zero]; exact ⟨rfl, rfl⟩⟩
theorem Rch.step {b : List Nat} {k x : Nat} {s s1 : Gs} {T : List Gev} {E : List Evn} (h : Rch b k s T) (h0 : s.why = 0) (hx : b[k]? = some x) (hs : Sp s x s1 E) : Rch b (k + 1) s1 (T ++ evs k E) := by
  obtain ⟨hk, he⟩ := List.getElem?_eq_some_iff.1 hx
  refine ⟨hk, ?_⟩
  rw [List.take_succ_eq_append_getElem hk, he]
  refine (mr_append _ _ _ _ _ _).2 ⟨s, T, _, h.2, ⟨h0, s1, E, [], hs, ⟨rfl, rfl⟩, rfl⟩, ?_⟩
  rw [List.length_take, Nat.min_eq_left h.1, List.append_nil, Nat.zero_add]
theorem Rch.det {b : List Nat} {k : Nat} {s s1 : Gs} {T U : List Gev} (h : Rch b k s T) (q : Rch b k s1 U) : s = s1 ∧ T = U := mr_det _ _ _ _ _ _ _ h.2 q.2
/-- What was taken ahead. -/
theorem Rch.back {b : List Nat} {k j : Nat} {s : Gs} {T : List Gev} (h : Rch b k s T) (hj : j ≤ k) : ∃ s1 T1 T2, Rch b j s1 T1 ∧ Mr j s1 ((b.take k).drop j) s T2 ∧ T = T1 ++ T2 := by
  have e : b.take k = b.take j ++ (b.take k).drop j := by
    conv => lhs; rw [← List.take_append_drop j (b.take k)]
    rw [List.take_take, Nat.min_eq_left hj]
  have h2 := h.2
  rw [e] at h2
  obtain ⟨s1, T1, T2, q1, q2, q3⟩ := (mr_append _ _ _ _ _ _).1 h2
  have hl := h.1
  rw [List.length_take, Nat.min_eq_left (by omega), Nat.zero_add] at q2
  exact ⟨s1, T1, T2, ⟨by omega, q1⟩, q2, q3⟩
/-- The next byte that was taken. -/
theorem Rch.at {b : List Nat} {k i : Nat} {s si : Gs} {T Ti : List Gev} (h : Rch b k s T) (hi : Rch b i si Ti) (hik : i < k) : si.why = 0 ∧ ∃ x s1 E T2, b[i]? = some x ∧ Sp si x s1 E ∧ Rch b (i + 1) s1 (Ti ++ evs i E) ∧ T = Ti ++ evs i E ++ T2 ∧ Mr (i + 1) s1 ((b.take k).drop (i + 1)) s T2 := by
  obtain ⟨s1, T1, T2, q1, q2, rfl⟩ := h.back (Nat.le_of_lt hik)
  obtain ⟨rfl, rfl⟩ := hi.det q1
  have hl := h.1
  have hlt : i < (b.take k).length := by rw [List.length_take]; omega
  rw [List.drop_eq_getElem_cons hlt] at q2
  obtain ⟨h0, s2, E, T3, q3, q4, rfl⟩ := q2
  have hx : b[i]? = some (b.take k)[i] := by
    rw [List.getElem_take, List.getElem?_eq_getElem (by omega)]
  exact ⟨h0, _, s2, E, T3, hx, q3, hi.step h0 hx q3, by rw [List.append_assoc], q4⟩
end Go.Proofs.YtogednaamndpgaaGreatDoor

/-
  Wherever the inflater's machine is set out, it comes to stand; asked for more, it goes on as it did. No walk.
-/
namespace Go.Proofs.YtogednaamndpgaaGreatDoor
open Go.RowKit
set_option linter.unusedVariables false
def rnk : St → Nat
  | .inl (.inl (.inl _)) => 1
  | .inl (.inl (.inr (.inl _))) => 1
  | .inl (.inl (.inr (.inr _))) => 2
  | .inl (.inr (.inl (.inl _))) => 1
  | .inl (.inr (.inl (.inr _))) => 5
  | .inl (.inr (.inr (.inl _))) => 4
  | .inl (.inr (.inr (.inr _))) => 1
  | .inr (.inl (.inl (.inl _))) => 3
  | .inr (.inl (.inl (.inr _))) => 9
  | .inr (.inl (.inr (.inl _))) => 8
  | .inr (.inl (.inr (.inr _))) => 7
  | .inr (.inr (.inl (.inl _))) => 6
  | .inr (.inr (.inl (.inr _))) => 0
  | .inr (.inr (.inr _)) => 0
theorem rnk_le (s : St) : rnk s ≤ 9 := by unfold rnk; split <;> decide
section
variable {bs : List Bool} {M N : Nat}
/-- What falls with each step. -/
def Falls (M : Nat) (c d : Cfg) : Prop := c.pos < d.pos ∨ (d.pos = c.pos ∧ c.out.length < M ∧ d.out.length = c.out.length + 1) ∨ (d.pos = c.pos ∧ rnk d.st < rnk c.st)
theorem map_falls {p n : Nat} {f : Nat → Cfg} {c d : Cfg} (h : (num? bs p n).map f = some d) (hf : ∀ v, Falls M c (f v)) : Falls M c d := by
  rw [Option.map_eq_some_iff] at h
  obtain ⟨v, hv, rfl⟩ := h
  exact hf v
theorem sread_pos {ls : List Nat} {p s n : Nat} (h : sread ls (bs.drop p) = .got s n) : 0 < n := by
  have hh := sread_le (ls := ls) (h := bs.drop p)
  rw [h] at hh
  exact hh.2.1
theorem step_falls {c d : Cfg} (h : step bs M c = some d) : Falls M c d := by
  obtain ⟨st, pos, out, times⟩ := c
  unfold step at h
  cases st using St.el with
  | head last =>
    cases last with
    | true => simp only [Option.some.injEq] at h; rw [← h]; exact Or.inr (Or.inr ⟨rfl, by simp [rnk]⟩)
    | false => exact map_falls h (fun v => Or.inl (by simp))
  | slen last => exact map_falls h (fun _ => Or.inl (by show pos < (pos + 7) / 8 * 8 + 16; omega))
  | snot last l => exact map_falls h (fun v => Or.inl (by simp))
  | sraw last n =>
    cases n with
    | zero => simp only [Option.some.injEq] at h; rw [← h]; exact Or.inr (Or.inr ⟨rfl, by simp [rnk]⟩)
    | succ n => exact map_falls h (fun _ => Or.inl (by rw [give_pos]; show pos < pos + 8; omega))
  | dnum last => exact map_falls h (fun v => Or.inl (by simp))
  | dfst last a b i j first =>
    simp only [] at h
    split at h
    · exact map_falls h (fun v => Or.inl (by simp))
    · simp only [Option.some.injEq] at h; rw [← h]; exact Or.inr (Or.inr ⟨rfl, by simp only []; split <;> simp [rnk]⟩)
  | dsym last a b code l =>
    simp only [] at h
    split at h
    · cases e : sread code (bs.drop pos) using SR.el with
      | cut => rw [e] at h; cases h
      | bad j =>
        rw [e] at h; simp only [Option.some.injEq] at h; subst h
        by_cases hj : j = 0
        · subst hj; exact Or.inr (Or.inr ⟨rfl, by simp [rnk]⟩)
        · exact Or.inl (by show pos < pos + j; omega)
      | got s n => rw [e] at h; simp only [Option.some.injEq] at h; subst h; exact Or.inl (by have := sread_pos e; show pos < pos + n; omega)
    · simp only [Option.some.injEq] at h; rw [← h]; exact Or.inr (Or.inr ⟨rfl, by simp only []; split <;> simp [rnk]⟩)
  | drep last a b code l s => exact map_falls h (fun v => Or.inl (by show pos < pos + (if s = 16 then 2 else if s = 17 then 3 else 7); (repeat' split) <;> omega))
  | sym last lit di =>
    simp only [] at h
    cases e : sread lit (bs.drop pos) using SR.el with
    | cut => rw [e] at h; cases h
    | bad j =>
      rw [e] at h; simp only [Option.some.injEq] at h; subst h
      by_cases hj : j = 0
      · subst hj; exact Or.inr (Or.inr ⟨rfl, by simp [rnk]⟩)
      · exact Or.inl (by show pos < pos + j; omega)
    | got s n =>
      have := sread_pos e
      rw [e] at h
      simp only [] at h
      split at h
      · simp only [Option.some.injEq] at h; subst h; exact Or.inl (by rw [give_pos]; show pos < pos + n; omega)
      · simp only [Option.some.injEq] at h; subst h; exact Or.inl (by show pos < pos + n; omega)
  | lext last lit di s =>
    refine map_falls h (fun v => ?_)
    by_cases hj : lmore s = 0
    · exact Or.inr (Or.inr ⟨by show pos + lmore s = pos; omega, by simp [rnk]⟩)
    · exact Or.inl (by show pos < pos + lmore s; omega)
  | dist last lit di n =>
    simp only [] at h
    cases e : sread di (bs.drop pos) using SR.el with
    | cut => rw [e] at h; cases h
    | bad j =>
      rw [e] at h; simp only [Option.some.injEq] at h; subst h
      by_cases hj : j = 0
      · subst hj; exact Or.inr (Or.inr ⟨rfl, by simp [rnk]⟩)
      · exact Or.inl (by show pos < pos + j; omega)
    | got s n => rw [e] at h; simp only [Option.some.injEq] at h; subst h; exact Or.inl (by have := sread_pos e; show pos < pos + n; omega)
  | dext last lit di n x =>
    refine map_falls h (fun v => ?_)
    by_cases hj : dmore x = 0
    · exact Or.inr (Or.inr ⟨by show pos + dmore x = pos; omega, by simp only []; split <;> simp [rnk]⟩)
    · exact Or.inl (by show pos < pos + dmore x; omega)
  | copy last lit di n d =>
    cases n with
    | zero => simp only [Option.some.injEq] at h; rw [← h]; exact Or.inr (Or.inr ⟨rfl, by simp [rnk]⟩)
    | succ n =>
      simp only [Option.some.injEq] at h
      rw [← h]
      unfold give
      split
      · rename_i hl; exact Or.inr (Or.inl ⟨rfl, hl, by simp⟩)
      · exact Or.inr (Or.inr ⟨rfl, by simp [rnk]⟩)
  | done => cases h
  | bad y => cases h
theorem adds_len {c d : Cfg} (h : Adds c d) : c.out.length ≤ d.out.length := by
  rcases h with ⟨e, _⟩ | ⟨b, e, _⟩ <;> rw [e] <;> simp
theorem runs_ex : ∀ (n : Nat) (c : Cfg), c.pos ≤ bs.length → c.out.length ≤ M → (bs.length - c.pos) * (10 * (M + 1)) + (M - c.out.length) * 10 + rnk c.st ≤ n → ∃ d, Runs bs M c d ∧ step bs M d = none
  | n, c, hp, ho, hn => by
    cases hs : step bs M c with
    | none => exact ⟨c, Runs.refl c, hs⟩
    | some d =>
      obtain ⟨q1, q2⟩ := step_ends hs hp
      have q3 := step_falls hs
      have q4 := step_most hs ho
      have q5 := adds_len q2
      have hr := rnk_le d.st
      have hlt : (bs.length - d.pos) * (10 * (M + 1)) + (M - d.out.length) * 10 + rnk d.st < (bs.length - c.pos) * (10 * (M + 1)) + (M - c.out.length) * 10 + rnk c.st := by
        rcases q3 with q | ⟨e, h1, h2⟩ | ⟨e, h1⟩
        · have h3 : bs.length - d.pos + 1 ≤ bs.length - c.pos := by omega
          have h4 := Nat.mul_le_mul_right (10 * (M + 1)) h3
          rw [Nat.add_mul, Nat.one_mul] at h4
          omega
        · rw [e]; omega
        · rw [e]; omega
      cases n with
      | zero => omega
      | succ n =>
        obtain ⟨e, h1, h2⟩ := runs_ex n d q1 q4 (by omega)
        exact ⟨e, Runs.cons hs h1, h2⟩
theorem stands_ex (I : List Nat) (M : Nat) : ∃ c, Stands I M c := runs_ex _ c0 (Nat.zero_le _) (Nat.zero_le _) (Nat.le_refl _)
/-- Asked for more, a step is the same, unless it was too much. -/
theorem step_more {c d : Cfg} (h : step bs N c = some d) (hN : N ≤ M) : (d.st = .bad 62 ∧ d.out.length = c.out.length ∧ N ≤ c.out.length) ∨ step bs M c = some d := by
  have hg : ∀ (k : St) (b p : Nat) (c : Cfg), ((give N k b p c).st = .bad 62 ∧ (give N k b p c).out.length = c.out.length ∧ N ≤ c.out.length) ∨ give M k b p c = give N k b p c := by
    intro k b p c
    unfold give
    by_cases h1 : c.out.length < N
    · right; rw [if_pos h1, if_pos (by omega)]
    · left; rw [if_neg h1]; exact ⟨rfl, rfl, by omega⟩
  obtain ⟨st, pos, out, times⟩ := c
  unfold step at *
  cases st using St.el with
  | head last => cases last <;> exact Or.inr h
  | sraw last n =>
    cases n with
    | zero => exact Or.inr h
    | succ n =>
      simp only [Option.map_eq_some_iff] at h ⊢
      obtain ⟨v, hv, rfl⟩ := h
      rcases hg (.sraw last n) v (pos + 8) ⟨.sraw last (n + 1), pos, out, times⟩ with q | q
      · exact Or.inl q
      · exact Or.inr ⟨v, hv, q⟩
  | copy last lit di n d =>
    cases n with
    | zero => exact Or.inr h
    | succ n =>
      simp only [Option.some.injEq] at h ⊢
      subst h
      rcases hg (.copy last lit di n d) (out.getD (out.length - d) 0) pos ⟨.copy last lit di (n + 1) d, pos, out, times⟩ with q | q
      · exact Or.inl q
      · exact Or.inr q
  | sym last lit di =>
    simp only [] at h ⊢
    cases e5 : sread lit (bs.drop pos) using SR.el with
    | cut => rw [e5] at h; cases h
    | bad j => rw [e5] at h; exact Or.inr h
    | got s n =>
      rw [e5] at h
      simp only [] at h ⊢
      split at h
      · rename_i hs
        rw [if_pos hs]
        simp only [Option.some.injEq] at h ⊢
        subst h
        rcases hg (.sym last lit di) s (pos + n) ⟨.sym last lit di, pos, out, times⟩ with q | q
        · exact Or.inl q
        · exact Or.inr q
      · rename_i hs
        rw [if_neg hs]
        exact Or.inr h
  | done => cases h
  | bad y => cases h
  | _ => exact Or.inr h
theorem runs_more {c d : Cfg} (h : Runs bs N c d) (hN : N ≤ M) : (d.st = .bad 62 ∧ N ≤ d.out.length) ∨ Runs bs M c d := by
  induction h using Runs.el with
  | refl => exact Or.inr (Runs.refl _)
  | @cons c x e s1 r ih =>
    rcases ih with q | q
    · exact Or.inl q
    · rcases step_more s1 hN with ⟨q1, q2, q3⟩ | q1
      · left
        have hx : ∀ (K : Nat), step bs K x = none := fun K => by unfold step; rw [q1]
        cases r using Runs.cs with
        | refl => exact ⟨q1, by omega⟩
        | cons h2 _ => rw [hx] at h2; cases h2
      · exact Or.inr (Runs.cons q1 q)
/-- The reasons that there are; it is too much with none but the last byte that was asked for. -/
theorem step_bad {c d : Cfg} {k : Nat} (h : step bs M c = some d) (hd : d.st = .bad k) : (10 ≤ k ∧ k ≤ 14) ∨ (k = 62 ∧ M ≤ d.out.length) := by
  have hg : ∀ (s : St) (b p : Nat) (c : Cfg), s ≠ .bad k → (give M s b p c).st = .bad k → (10 ≤ k ∧ k ≤ 14) ∨ (k = 62 ∧ M ≤ (give M s b p c).out.length) := by
    intro s b p c hk h
    unfold give at *
    by_cases h1 : c.out.length < M
    · rw [if_pos h1] at h; exact absurd h hk
    · rw [if_neg h1] at h ⊢
      simp at h
      exact Or.inr ⟨h.symm, by show M ≤ c.out.length; omega⟩
  obtain ⟨st, pos, out, times⟩ := c
  unfold step at h
  cases st using St.el with
  | head last =>
    cases last with
    | true => simp only [Option.some.injEq] at h; subst h; cases hd
    | false =>
      simp only [Option.map_eq_some_iff] at h
      obtain ⟨v, hv, rfl⟩ := h
      simp only [] at hd
      split at hd <;> (first | (simp at hd; done) | (simp at hd; subst hd; exact Or.inl (by decide)))
  | slen last => simp only [Option.map_eq_some_iff] at h; obtain ⟨v, hv, rfl⟩ := h; cases hd
  | snot last l =>
    simp only [Option.map_eq_some_iff] at h
    obtain ⟨v, hv, rfl⟩ := h
    simp only [] at hd
    split at hd <;> (first | (simp at hd; done) | (simp at hd; subst hd; exact Or.inl (by decide)))
  | sraw last n =>
    cases n with
    | zero => simp only [Option.some.injEq] at h; subst h; cases hd
    | succ n =>
      simp only [Option.map_eq_some_iff] at h
      obtain ⟨v, hv, rfl⟩ := h
      exact hg _ _ _ _ (by simp) hd
  | dnum last =>
    simp only [Option.map_eq_some_iff] at h
    obtain ⟨v, hv, rfl⟩ := h
    simp only [] at hd
    split at hd <;> (first | (simp at hd; done) | (simp at hd; subst hd; exact Or.inl (by decide)))
  | dfst last a b i j first =>
    simp only [] at h
    split at h
    · simp only [Option.map_eq_some_iff] at h; obtain ⟨v, hv, rfl⟩ := h; cases hd
    · simp only [Option.some.injEq] at h; subst h; simp only [] at hd; split at hd <;> (first | (simp at hd; done) | (simp at hd; subst hd; exact Or.inl (by decide)))
  | dsym last a b code l =>
    simp only [] at h
    split at h
    · cases e : sread code (bs.drop pos) using SR.el with
      | cut => rw [e] at h; cases h
      | bad j => rw [e] at h; simp only [Option.some.injEq] at h; subst h; (first | (simp at hd; done) | (simp at hd; subst hd; exact Or.inl (by decide)))
      | got s n => rw [e] at h; simp only [Option.some.injEq] at h; subst h; simp only [] at hd; (repeat' split at hd) <;> (first | (simp at hd; done) | (simp at hd; subst hd; exact Or.inl (by decide)))
    · simp only [Option.some.injEq] at h; subst h; simp only [] at hd; split at hd <;> (first | (simp at hd; done) | (simp at hd; subst hd; exact Or.inl (by decide)))
  | drep last a b code l s =>
    simp only [Option.map_eq_some_iff] at h
    obtain ⟨v, hv, rfl⟩ := h
    simp only [] at hd
    (repeat' split at hd) <;> (first | (simp at hd; done) | (simp at hd; subst hd; exact Or.inl (by decide)))
  | sym last lit di =>
    simp only [] at h
    cases e : sread lit (bs.drop pos) using SR.el with
    | cut => rw [e] at h; cases h
    | bad j => rw [e] at h; simp only [Option.some.injEq] at h; subst h; (first | (simp at hd; done) | (simp at hd; subst hd; exact Or.inl (by decide)))
    | got s n =>
      rw [e] at h
      simp only [] at h
      split at h
      · simp only [Option.some.injEq] at h; subst h; exact hg _ _ _ _ (by simp) hd
      · simp only [Option.some.injEq] at h; subst h; simp only [] at hd; (repeat' split at hd) <;> (first | (simp at hd; done) | (simp at hd; subst hd; exact Or.inl (by decide)))
  | lext last lit di s => simp only [Option.map_eq_some_iff] at h; obtain ⟨v, hv, rfl⟩ := h; cases hd
  | dist last lit di n =>
    simp only [] at h
    cases e : sread di (bs.drop pos) using SR.el with
    | cut => rw [e] at h; cases h
    | bad j => rw [e] at h; simp only [Option.some.injEq] at h; subst h; (first | (simp at hd; done) | (simp at hd; subst hd; exact Or.inl (by decide)))
    | got s n => rw [e] at h; simp only [Option.some.injEq] at h; subst h; simp only [] at hd; split at hd <;> (first | (simp at hd; done) | (simp at hd; subst hd; exact Or.inl (by decide)))
  | dext last lit di n x =>
    simp only [Option.map_eq_some_iff] at h
    obtain ⟨v, hv, rfl⟩ := h
    simp only [] at hd
    split at hd <;> (first | (simp at hd; done) | (simp at hd; subst hd; exact Or.inl (by decide)))
  | copy last lit di n d =>
    cases n with
    | zero => simp only [Option.some.injEq] at h; subst h; cases hd
    | succ n => simp only [Option.some.injEq] at h; subst h; exact hg _ _ _ _ (by simp) hd
  | done => cases h
  | bad y => cases h
theorem runs_bad {c d : Cfg} {k : Nat} (h : Runs bs M c d) (hc : c.st ≠ .bad k) (hd : d.st = .bad k) : (10 ≤ k ∧ k ≤ 14) ∨ (k = 62 ∧ M ≤ d.out.length) := by
  induction h using Runs.el with
  | refl => exact absurd hd hc
  | @cons c x e s1 r ih =>
    by_cases hx : x.st = .bad k
    · have hn : ∀ (K : Nat), step bs K x = none := fun K => by unfold step; rw [hx]
      cases r using Runs.cs with
      | refl => exact step_bad s1 hx
      | cons h2 _ => rw [hn] at h2; cases h2
    · exact ih hx hd
theorem stands_bad {I : List Nat} {c : Cfg} {k : Nat} (h : Stands I M c) (e : c.st = .bad k) : (10 ≤ k ∧ k ≤ 14) ∨ (k = 62 ∧ M ≤ c.out.length) := runs_bad h.1 (by simp) e
theorem stands_62 {I : List Nat} {c : Cfg} (h : Stands I M c) (hc : c.out.length < M) : c.st ≠ .bad 62 := fun e => by
  have := stands_bad h e
  omega
theorem stands_nil (M : Nat) : Stands [] M c0 := ⟨Runs.refl _, by simp [step, c0, allb, num?]⟩
end
end Go.Proofs.YtogednaamndpgaaGreatDoor

/-
  The document's gzip run in memory, and what its small calls (open, stop, number, is) come to.
-/
namespace Go.Proofs.YtogednaamndpgaaGreatDoor
open Go.RowKit
set_option linter.unusedVariables false
/-- Events as cells. -/
def gcel (e : Gev) : List Value := [.int .i64 (e.1 : Int), .int .i64 (if e.2.1 = 256 then 1 else if e.2.1 = 257 then 3 else 2), .int .u8 (if e.2.1 < 256 then (e.2.1 : Int) else 0), .int .i64 (if e.2.1 = 256 then 2 else 0), .int .i64 0, .string ⟨(e.2.2.map UInt8.ofNat).toArray⟩]
def gcs (l : List Gev) : List Value := l.flatMap gcel
/-- The run, in block R; its events in rows from base on. -/
structure Gm (w : World) (base R : Nat) (a : Option Addr) (L C : Nat) (r : Gr) (vE : Value) : Prop where
  cells : Cells w R #[vE, .int .i64 (r.why : Int), .int .i64 (r.sat : Int), .slice a L C, .int .i64 (r.pos : Int), .int .i64 (r.left : Int)] 29
  own : w.ownsRow base 59 6 vE r.ev.length (gcs r.ev)
  le : base ≤ w.heap.size
section
variable {w u : World} {base R L C : Nat} {a : Option Addr} {r : Gr} {vE : Value}
theorem Gm.lt (h : Gm w base R a L C r vE) : R < w.heap.size := h.cells.lt
theorem Gm.drewN (h : Gm w base R a L C r vE) (n : Nat) : Gm (w.drewN n) base R a L C r vE := ⟨h.cells, h.own, h.le⟩
theorem Gm.c1 (h : Gm w base R a L C r vE) : w.cell? ⟨R, 1, none⟩ = some (.int .i64 (r.why : Int)) := (h.cells.cell 1).trans rfl
theorem Gm.c2 (h : Gm w base R a L C r vE) : w.cell? ⟨R, 2, none⟩ = some (.int .i64 (r.sat : Int)) := (h.cells.cell 2).trans rfl
theorem Gm.c3 (h : Gm w base R a L C r vE) : w.cell? ⟨R, 3, none⟩ = some (.slice a L C) := (h.cells.cell 3).trans rfl
theorem Gm.c4 (h : Gm w base R a L C r vE) : w.cell? ⟨R, 4, none⟩ = some (.int .i64 (r.pos : Int)) := (h.cells.cell 4).trans rfl
theorem Gm.c5 (h : Gm w base R a L C r vE) : w.cell? ⟨R, 5, none⟩ = some (.int .i64 (r.left : Int)) := (h.cells.cell 5).trans rfl
theorem Gm.fz (h : Gm w base R a L C r vE) (i : Nat) : w.frozen? ⟨R, i, none⟩ = false := h.cells.frozen i
/-- The events' rows are of another type than the run's block. -/
theorem own_keep {w u : World} {base n : Nat} {v : Value} {xs : List Value} (h : w.ownsRow base 59 6 v n xs) (k : ∀ g, base ≤ g → g < w.heap.size → (∃ cs fr, w.heap[g]? = some (.cells cs 59 fr)) → u.heap[g]? = w.heap[g]?) : u.ownsRow base 59 6 v n xs := by
  refine ⟨h.1, ?_⟩
  rcases h.2 with q | ⟨g, c, cur, hv, hg, hh, q⟩
  · exact Or.inl q
  · have hlt : g < w.heap.size := (Array.getElem?_eq_some_iff.1 hh).1
    exact Or.inr ⟨g, c, cur, hv, hg, (k g hg hlt ⟨_, _, hh⟩).trans hh, q⟩
theorem Gm.only (h : Gm w base R a L C r vE) (o : Only R w u) {r' : Gr} (he : r'.ev = r.ev) (hc : Cells u R #[vE, .int .i64 (r'.why : Int), .int .i64 (r'.sat : Int), .slice a L C, .int .i64 (r'.pos : Int), .int .i64 (r'.left : Int)] 29) : Gm u base R a L C r' vE := by
  refine ⟨hc, ?_, by rw [o.size]; exact h.le⟩
  rw [he]
  refine own_keep h.own fun g _ _ ⟨cs, fr, hx⟩ => o.block g (fun e => ?_)
  subst e
  have := h.cells
  unfold Cells at this
  rw [this] at hx
  cases hx
end
section
variable {base R L C : Nat} {a : Option Addr} {r : Gr} {vE : Value}
theorem gopen_c (w : World) (h : Gm w base R a L C r vE) : Calls Tryz.prog 25 #[.pointer (some ⟨R, 0, none⟩)] w fun e w' => e = .returned (.bool (decide (r.why = 0))) ∧ w' = w := by
  have c1 := h.c1
  obtain ⟨y, hy⟩ : ∃ y, r.why = y := ⟨_, rfl⟩
  rw [hy] at c1 ⊢
  clear h hy
  by_cases h0 : y = 0
  · subst h0
    go_enter Tryz.func25, Tryz.ntmps25
    go_wp2_with fail
    first | go_ret | go_ret2
    exact ⟨rfl, rfl⟩
  · have t : ((y : Int) == 0) = false := by rw [beq_eq_false_iff_ne]; omega
    rw [decide_eq_false h0]
    clear h0
    go_enter Tryz.func25, Tryz.ntmps25
    go_wp2_with fail
    first | go_ret | go_ret2
    exact ⟨rfl, rfl⟩
theorem gstop_c (y p : Nat) (w : World) (h : Gm w base R a L C r vE) : Calls Tryz.prog 26 #[.pointer (some ⟨R, 0, none⟩), .int .i64 (y : Int), .int .i64 (p : Int)] w fun e w' => e = .returned (.tuple #[]) ∧ Gm w' base R a L C (gstop y p r) vE ∧ Only R w w' := by
  have c1 := h.c1
  have c2 := h.c2
  have z1 := h.fz 1
  have c2' : (w.setCell ⟨R, 1, none⟩ (.int .i64 (y : Int))).cell? ⟨R, 2, none⟩ = some (.int .i64 (r.sat : Int)) := ((h.cells.set 1 _).cell 2).trans rfl
  have z2' : (w.setCell ⟨R, 1, none⟩ (.int .i64 (y : Int))).frozen? ⟨R, 2, none⟩ = false := (h.cells.set 1 _).frozen 2
  have fin : Gm ((w.setCell ⟨R, 1, none⟩ (.int .i64 (y : Int))).setCell ⟨R, 2, none⟩ (.int .i64 (p : Int))) base R a L C (gstop y p r) vE ∧ Only R w ((w.setCell ⟨R, 1, none⟩ (.int .i64 (y : Int))).setCell ⟨R, 2, none⟩ (.int .i64 (p : Int))) := by
    have o : Only R w ((w.setCell ⟨R, 1, none⟩ (.int .i64 (y : Int))).setCell ⟨R, 2, none⟩ (.int .i64 (p : Int))) := ((Only.refl R w).setCell 1 _).setCell 2 _
    exact ⟨h.only o rfl ((h.cells.set 1 _).set 2 _), o⟩
  have AF : Aside (Gm ((w.setCell ⟨R, 1, none⟩ (.int .i64 (y : Int))).setCell ⟨R, 2, none⟩ (.int .i64 (p : Int))) base R a L C (gstop y p r) vE ∧ Only R w ((w.setCell ⟨R, 1, none⟩ (.int .i64 (y : Int))).setCell ⟨R, 2, none⟩ (.int .i64 (p : Int)))) := fin
  clear h fin
  go_enter Tryz.func26, Tryz.ntmps26
  go_wp2_with fail
  first | go_end0 | (refine bodyPost_ret (results_none rfl _ _ _) rfl ?_)
  exact ⟨rfl, AF.out⟩
end
end Go.Proofs.YtogednaamndpgaaGreatDoor

/-
  What the document's number and is come to.
-/
namespace Go.Proofs.YtogednaamndpgaaGreatDoor
open Go.RowKit
set_option linter.unusedVariables false
theorem le_drop {l : List Nat} {k x : Nat} (h : l[k]? = some x) : le (l.drop k) = x + 256 * le (l.drop (k + 1)) := by
  obtain ⟨h1, h2⟩ := List.getElem?_eq_some_iff.1 h
  rw [List.drop_eq_getElem_cons h1, h2]
  rfl
theorem le_small {l : List Nat} (h : ∀ x ∈ l, x < 256) (hl : l.length ≤ 6) : le l < 281474976710656 := by
  have h1 := le_lt l h
  have h2 : 256 ^ l.length ≤ 256 ^ 6 := Nat.pow_le_pow_right (by decide) hl
  omega
section
variable {base R L C : Nat} {a : Option Addr} {r : Gr} {vE : Value}
/-- What number answers. -/
structure Gn (b : List Nat) (n : Nat) (r : Gr) (base R : Nat) (a : Option Addr) (L C : Nat) (vE : Value) (w : World) (e : Ending) (w' : World) : Prop where
  ex : ∃ v : Int, e = .returned (.int .i64 v) ∧ (n ≤ 6 → v = (gval b n r : Int)) ∧ Gm w' base R a L C (gnum b n r) vE ∧ Only R w w'
set_option maxRecDepth 20000 in
set_option maxHeartbeats 2000000 in
theorem gnum_c (b : List Nat) (n : Nat) (hn : n ≤ 70000) (ho : Oct b) (hL : b.length = L) (hLb : L ≤ 100000000000) (hp : r.pos ≤ L) (w : World) (hx : Lies w a b) (h : Gm w base R a L C r vE) : Calls Tryz.prog 38 #[.pointer (some ⟨R, 0, none⟩), .int .i64 (n : Int)] w fun e w' => Gn b n r base R a L C vE w e w' := by
  have c3 := h.c3
  have c4 := h.c4
  obtain ⟨p, hpp⟩ : ∃ p, r.pos = p := ⟨_, rfl⟩
  rw [hpp] at c4 hp
  obtain ⟨q, hq⟩ : ∃ q, p + n = q := ⟨_, rfl⟩
  have w1 : (p : Int) + (n : Int) = (q : Int) := by omega
  have bq : (q : Int) < 200000000000 := by omega
  have AX : Aside (n ≤ 70000 ∧ Oct b ∧ b.length = L ∧ L ≤ 100000000000 ∧ p ≤ L ∧ r.pos = p ∧ p + n = q ∧ Lies w a b ∧ Gm w base R a L C r vE) := ⟨hn, ho, hL, hLb, hp, hpp, hq, hx, h⟩
  by_cases hc : L < q
  · have t1 : ((L : Int) < (q : Int)) = True := eq_true (by omega)
    have t2 : (L < q) = True := eq_true hc
    have e1 : gnum b n r = gstop 1 L r := by unfold gnum; rw [hL, hpp, hq, if_pos hc]
    have e2 : gval b n r = 0 := by unfold gval; rw [hL, hpp, hq, if_pos hc]
    have AE : Aside (gnum b n r = gstop 1 L r ∧ gval b n r = 0) := ⟨e1, e2⟩
    have hst : ∀ m, Calls Tryz.prog 26 #[.pointer (some ⟨R, 0, none⟩), .int .i64 1, .int .i64 (L : Int)] (w.drewN m) fun e w' => e = .returned (.tuple #[]) ∧ Gm w' base R a L C (gstop 1 L r) vE ∧ Only R (w.drewN m) w' := fun m => gstop_c 1 L (w.drewN m) (h.drewN m)
    have AS : Aside (∀ m, Calls Tryz.prog 26 #[.pointer (some ⟨R, 0, none⟩), .int .i64 1, .int .i64 (L : Int)] (w.drewN m) fun e w' => e = .returned (.tuple #[]) ∧ Gm w' base R a L C (gstop 1 L r) vE ∧ Only R (w.drewN m) w') := hst
    clear hn ho hL hLb hp hpp hq hx h hc e1 e2 hst
    go_enter Tryz.func38, Tryz.ntmps38
    go_upto_region 1 with fail
    go_quiet (fail)
    have hst := AS.out nq
    have c3' : (w.drewN nq).cell? ⟨R, 3, none⟩ = some (.slice a L C) := c3
    go_wp2_with (go_at_call 26; refine hst.mono ?_; rintro e2 w2 ⟨rfl, g2, o2⟩)
    first | go_ret | go_ret2
    refine ⟨0, rfl, fun _ => by rw [AE.out.2]; rfl, by rw [AE.out.1]; exact g2, ?_⟩
    exact ((Only.refl R w).drewN _).trans o2
  · have t1 : ((L : Int) < (q : Int)) = False := eq_false (by omega)
    have t2 : (L < q) = False := eq_false hc
    have e1 : gnum b n r = { r with pos := q } := by unfold gnum; rw [hL, hpp, hq, if_neg hc]
    have e2 : gval b n r = le ((b.drop p).take n) := by unfold gval; rw [hL, hpp, hq, if_neg hc]
    obtain ⟨l, hl⟩ : ∃ l, (b.drop p).take n = l := ⟨_, rfl⟩
    have hll : l.length = n := by rw [← hl, List.length_take, List.length_drop]; omega
    have hlo : ∀ x ∈ l, x < 256 := fun x hx' => ho x (List.mem_of_mem_drop (List.mem_of_mem_take (by rw [hl]; exact hx')))
    have hlc : ∀ (k x : Nat), l[k]? = some x → ∃ g o, a = some ⟨g, o, none⟩ ∧ w.cell? ⟨g, o + (p + k), none⟩ = some (.int .u8 (x : Int)) := by
      intro k x hk
      rw [← hl, List.getElem?_take] at hk
      split at hk
      · rw [List.getElem?_drop] at hk
        rcases hx with e | ⟨g, o, e, hcc⟩
        · rw [e] at hk; simp at hk
        · exact ⟨g, o, e, hcc _ _ hk⟩
      · simp at hk
    rw [hl] at e2
    have AE : Aside (gnum b n r = { r with pos := q } ∧ gval b n r = le l ∧ l.length = n ∧ (∀ x ∈ l, x < 256) ∧ (∀ (k x : Nat), l[k]? = some x → ∃ g o, a = some ⟨g, o, none⟩ ∧ w.cell? ⟨g, o + (p + k), none⟩ = some (.int .u8 (x : Int))) ∧ q ≤ L) := ⟨e1, e2, hll, hlo, hlc, by omega⟩
    clear hn ho hL hLb hp hpp hq hx h hc e1 e2 hl hll hlo hlc
    have bn : (n : Int) < 200000 := by have := AX.out.1; omega
    go_enter Tryz.func38, Tryz.ntmps38
    go_upto_region 1 with fail
    go_quiet (fail)
    have A0 : Aside (∃ m, nq = m) := ⟨_, rfl⟩
    obtain ⟨W1, hW1⟩ : ∃ W1, W1 = w.drewN nq := ⟨_, rfl⟩
    rw [← hW1]
    have AW : Aside (∃ m, W1 = w.drewN m) := ⟨nq, hW1⟩
    have d3 : W1.cell? ⟨R, 3, none⟩ = some (.slice a L C) := by rw [hW1]; exact c3
    have d4 : W1.cell? ⟨R, 4, none⟩ = some (.int .i64 (p : Int)) := by rw [hW1]; exact c4
    clear hW1 c3 c4 A0 t1 t2
    go_upto_region 4 with fail
    go_wp2_with fail
    go_loopg [5, 6] n (fun gg s5 s6 wr => ∃ v z : Int, s5 = .int .i64 v ∧ s6 = .int .i64 z ∧ Aside (z = (gg : Int) - 1 ∧ gg ≤ n ∧ (n ≤ 6 → v = (le (l.drop gg) : Int)) ∧ ∃ m, wr = w.drewN m))
    case atStart =>
      have ae := AE.out
      exact ⟨0, (n : Int) - 1, rfl, rfl, ⟨rfl, Nat.le_refl _, fun _ => by rw [List.drop_eq_nil_of_le (by omega)]; rfl, AW.out⟩⟩
    case round =>
      obtain ⟨v, z, rfl, rfl, hT⟩ := hrel
      obtain ⟨hz, hgn, hv, m0, hm0⟩ := hT.out
      have d3 : wr.cell? ⟨R, 3, none⟩ = some (.slice a L C) := by rw [hm0]; exact AX.out.2.2.2.2.2.2.2.2.c3
      have d4 : wr.cell? ⟨R, 4, none⟩ = some (.int .i64 (p : Int)) := by rw [hm0, ← AX.out.2.2.2.2.2.1]; exact AX.out.2.2.2.2.2.2.2.2.c4
      cases gk with
      | zero =>
        have hz1 : z = -1 := by omega
        subst hz1
        have ax := AX.out
        have ae := AE.out
        have A2 : Aside ((n ≤ 6 → v = (le l : Int)) ∧ ∃ m, wr = w.drewN m) := ⟨fun h => by have := hv h; rwa [List.drop_zero] at this, m0, hm0⟩
        have f4 : wr.frozen? ⟨R, 4, none⟩ = false := by rw [hm0]; exact ax.2.2.2.2.2.2.2.2.fz 4
        have AF : Aside (Gm (wr.setCell ⟨R, 4, none⟩ (.int .i64 (q : Int))) base R a L C (gnum b n r) vE ∧ Only R w (wr.setCell ⟨R, 4, none⟩ (.int .i64 (q : Int)))) := by
          have hg : Gm wr base R a L C r vE := by rw [hm0]; exact ax.2.2.2.2.2.2.2.2.drewN m0
          have o : Only R wr (wr.setCell ⟨R, 4, none⟩ (.int .i64 (q : Int))) := (Only.refl R wr).setCell 4 _
          refine ⟨hg.only o (by rw [ae.1]) ?_, ?_⟩
          · rw [ae.1]; exact hg.cells.set 4 _
          · have o2 : Only R w wr := by rw [hm0]; exact (Only.refl R w).drewN m0
            exact o2.trans o
        clear hT hz hgn hv hm0 ax ae
        go_wp2_with fail
        first | go_ret | go_ret2
        exact ⟨v, rfl, fun h => by rw [A2.out.1 h, AE.out.2.1], AF.out⟩
      | succ k =>
        have hz1 : z = (k : Int) := by omega
        subst hz1
        have ae := AE.out
        have ax := AX.out
        obtain ⟨x, hx⟩ : ∃ x, l[k]? = some x := ⟨_, List.getElem?_eq_getElem (by omega)⟩
        have hx256 : x < 256 := ae.2.2.2.1 x (List.mem_of_getElem? hx)
        obtain ⟨g, o, rfl, hcx⟩ := ae.2.2.2.2.1 k x hx
        obtain ⟨e, he⟩ : ∃ e, p + k = e := ⟨_, rfl⟩
        have w2 : (p : Int) + (k : Int) = (e : Int) := by omega
        rw [he] at hcx
        have kx : wr.cell? ⟨g, o + e, none⟩ = some (.int .u8 (x : Int)) := by rw [hm0]; exact hcx
        have be : (e : Int) < 200000000000 := by omega
        have t1 : ((e : Int) < (L : Int)) = True := eq_true (by omega)
        have t2 : (e < L) = True := eq_true (by omega)
        have t3 : ((0 : Int) ≤ (k : Int)) = True := eq_true (by omega)
        have bk : (k : Int) < 200000 := by omega
        obtain ⟨v1, hv1⟩ : ∃ v1, wrap64 (256 * v) = v1 := ⟨_, rfl⟩
        obtain ⟨v2, hv2⟩ : ∃ v2, wrap64 (v1 + (x : Int)) = v2 := ⟨_, rfl⟩
        have bx : (x : Int) < 256 := by omega
        have A2 : Aside (k + 1 ≤ n ∧ (n ≤ 6 → v2 = (le (l.drop k) : Int)) ∧ ∃ m, wr = w.drewN m) := ⟨hgn, fun h => by
          have h1 := hv h
          have h2 := le_drop hx
          have h3 := le_small (l := l.drop k) (fun y hy => ae.2.2.2.1 y (List.mem_of_mem_drop hy)) (by rw [List.length_drop]; omega)
          have e1 : v1 = 256 * v := by rw [← hv1]; unfold wrap64; omega
          rw [← hv2]
          unfold wrap64
          omega, m0, hm0⟩
        have A3 : Aside (wrap64 (v1 + (x : Int)) = v2) := hv2
        clear hT hz hgn hv hm0 ae ax hx hx256 hcx he
        go_upto_region 8 with fail
        go_quiet (fail)
        clear hv1 hv2
        go_wp2_with fail
        have a2 := A2.out
        go_roundg k
        case measure => omega
        case rel =>
          refine ⟨v2, (k : Int) - 1, by rw [A3.out], by go_num, ⟨rfl, by omega, a2.2.1, ?_⟩⟩
          obtain ⟨m1, hm1⟩ := a2.2.2
          exact ⟨m1 + nq, by rw [hm1, World.drewN_drewN]⟩
end
end Go.Proofs.YtogednaamndpgaaGreatDoor

/-
  Strings as lists of bytes. No walk.
-/
namespace Go.Proofs.YtogednaamndpgaaGreatDoor
set_option linter.unusedVariables false
theorem Oct.nil : Oct [] := by simp [Oct]
theorem Oct.append {l m : List Nat} (h : Oct l) (k : Oct m) : Oct (l ++ m) := by
  intro x hx
  rcases List.mem_append.1 hx with e | e
  · exact h x e
  · exact k x e
theorem Oct.left {l m : List Nat} (h : Oct (l ++ m)) : Oct l := fun x hx => h x (List.mem_append.2 (Or.inl hx))
theorem Oct.right {l m : List Nat} (h : Oct (l ++ m)) : Oct m := fun x hx => h x (List.mem_append.2 (Or.inr hx))
theorem Oct.take {l : List Nat} (h : Oct l) (k : Nat) : Oct (l.take k) := fun x hx => h x (List.mem_of_mem_take hx)
theorem Oct.drop {l : List Nat} (h : Oct l) (k : Nat) : Oct (l.drop k) := fun x hx => h x (List.mem_of_mem_drop hx)
/-- A string's bytes; bytes as a string. -/
def bl (s : ByteArray) : List Nat := s.data.toList.map UInt8.toNat
def st (l : List Nat) : ByteArray := ⟨(l.map UInt8.ofNat).toArray⟩
theorem Oct.cons {x : Nat} {l : List Nat} (hx : x < 256) (h : Oct l) : Oct (x :: l) := by
  intro y hy
  rcases List.mem_cons.1 hy with e | e
  · omega
  · exact h y e
end Go.Proofs.YtogednaamndpgaaGreatDoor

/-
  A part of a slice of bytes. No walk.
-/
namespace Go.Proofs.YtogednaamndpgaaGreatDoor
open Go.RowKit
set_option linter.unusedVariables false
theorem slice_fe (b o L C f e : Nat) (h1 : f ≤ e) (h2 : e ≤ C) (h3 : f ≠ C) (W : World) : (Instr.slice 22 (.slice (some ⟨b, o, none⟩) L C) (some (.int .i64 (f : Int))) (some (.int .i64 (e : Int))) none).run Tryz.prog W = .ok (.slice (some ⟨b, o + f, none⟩) (e - f) (C - f)) W := by
  have hk1 : (f : Int) ≤ (e : Int) := by omega
  have hk2 : (e : Int) ≤ (C : Int) := by omega
  have hk0 : (0 : Int) ≤ (f : Int) := by omega
  have hk3 : (0 : Int) ≤ (e : Int) := by omega
  have hCk : ¬ C = f := by omega
  have hCk2 : ¬ (C : Int) = (f : Int) := by omega
  clear h1 h2 h3
  go_simp
theorem slice_ee (b o L C : Nat) (W : World) : (Instr.slice 22 (.slice (some ⟨b, o, none⟩) L C) (some (.int .i64 (C : Int))) (some (.int .i64 (C : Int))) none).run Tryz.prog W = .ok (.slice (some ⟨b, o, none⟩) 0 0) W := by
  have hk0 : (0 : Int) ≤ (C : Int) := by omega
  go_simp
theorem slice_00 (p : Addr) (L C : Nat) : ∃ q, ∀ W : World, (Instr.slice 22 (.slice (some p) L C) (some (.int .i64 0)) (some (.int .i64 0)) none).run Tryz.prog W = .ok (.slice (some q) 0 C) W := by
  have hk0 : (0 : Int) ≤ (C : Int) := by omega
  by_cases h : C = 0
  · subst h
    refine ⟨p, fun W => ?_⟩
    go_simp
  · have h2 : ¬ (C : Int) = 0 := by omega
    refine ⟨p.add 0, fun W => ?_⟩
    go_simp
theorem slice_nn (W : World) : (Instr.slice 22 (.slice none 0 0) (some (.int .i64 0)) (some (.int .i64 0)) none).run Tryz.prog W = .ok (.slice none 0 0) W := by go_simp
/-- From f up to e. -/
theorem cut_of (a : Option Addr) (l : List Nat) (L C f e : Nat) (hL : l.length = L) (hLC : L ≤ C) (hf : f ≤ e) (he : e ≤ L) (haz : a = none → L = 0 ∧ C = 0) (w0 : World) (hl : Lies w0 a l) :
    ∃ a2, (∀ W : World, (Instr.slice 22 (.slice a L C) (some (.int .i64 (f : Int))) (some (.int .i64 (e : Int))) none).run Tryz.prog W = .ok (.slice a2 (e - f) (C - f)) W) ∧ (∀ w, Lies w a l → Lies w a2 ((l.take e).drop f)) ∧ (a2 = none → e - f = 0 ∧ C - f = 0) := by
  cases a with
  | none =>
    obtain ⟨h1, h2⟩ := haz rfl
    subst h1
    subst h2
    obtain rfl : e = 0 := by omega
    obtain rfl : f = 0 := by omega
    exact ⟨none, fun W => slice_nn W, fun w _ => Or.inl (by simp), fun _ => ⟨rfl, rfl⟩⟩
  | some p =>
    rcases hl with h | ⟨b, o, h, _⟩
    · rw [h] at hL
      have h0 : L = 0 := by simpa using hL.symm
      subst h0
      obtain rfl : e = 0 := by omega
      obtain rfl : f = 0 := by omega
      obtain ⟨q, hq⟩ := slice_00 p 0 C
      exact ⟨some q, fun W => hq W, fun w _ => Or.inl (by simp), fun h => by cases h⟩
    · cases h
      by_cases h3 : f = C
      · obtain rfl : e = C := by omega
        obtain rfl : L = e := by omega
        subst h3
        refine ⟨some ⟨b, o, none⟩, fun W => ?_, fun w _ => Or.inl (by simp), fun h => by cases h⟩
        rw [Nat.sub_self]
        exact slice_ee b o f f W
      · refine ⟨some ⟨b, o + f, none⟩, fun W => slice_fe b o L C f e hf (by omega) h3 W, fun w h => ?_, fun h => by cases h⟩
        rcases h with rfl | ⟨b', o', ha', hc⟩
        · exact Or.inl (by simp)
        · cases ha'
          refine Or.inr ⟨b, o + f, rfl, fun j x hx => ?_⟩
          rw [List.getElem?_drop, List.getElem?_take] at hx
          split at hx
          · rw [Nat.add_assoc]; exact hc _ _ hx
          · simp at hx
end Go.Proofs.YtogednaamndpgaaGreatDoor

/-
  What the document's is and text come to.
-/
namespace Go.Proofs.YtogednaamndpgaaGreatDoor
open Go.RowKit
set_option linter.unusedVariables false
theorem addr_add (b o j : Nat) : (⟨b, o, none⟩ : Addr).add j = ⟨b, o + j, none⟩ := by unfold Addr.add; split <;> simp_all
theorem conv_st {w : World} {a : Option Addr} {l : List Nat} (L : Nat) (cap : Nat) (hL : l.length = L) (ho : Oct l) (h : Lies w a l) : (convert 22 9 (.slice a L cap)).run Tryz.prog w = .ok (.string (st l)) w := by
  subst hL
  rcases h with rfl | ⟨b, o, rfl, hc⟩
  · cases a with
    | none =>
      simp [convert, run_underlying Tryz.underlying22, run_underlying Tryz.underlying9, run_underlying Tryz.underlying5, st, Conv.bytesToString]
      rfl
    | some ad =>
      have := run_convert_bytes_back (P := Tryz.prog) w 22 9 5 ad cap [] Tryz.underlying22 Tryz.underlying5 Tryz.underlying9 (by simp)
      exact this
  · have := run_convert_bytes_back (P := Tryz.prog) w 22 9 5 ⟨b, o, none⟩ cap (l.map UInt8.ofNat) Tryz.underlying22 Tryz.underlying5 Tryz.underlying9 (fun j hj => by
      rw [addr_add]
      have hj' : j < l.length := by simpa using hj
      rw [hc j l[j] (List.getElem?_eq_getElem hj')]
      have := ho l[j] (List.getElem_mem hj')
      simp
      omega)
    rw [List.length_map] at this
    exact this
section
variable {base R L C : Nat} {a : Option Addr} {r : Gr} {vE : Value}
theorem gnum_pos (b : List Nat) (n : Nat) (r : Gr) (h : r.pos ≤ b.length) : (gnum b n r).pos ≤ b.length := by
  unfold gnum
  split
  · exact h
  · show r.pos + n ≤ b.length; omega
theorem gnum_one {b : List Nat} {r : Gr} (h : r.why = 0) (h0 : (gnum b 1 r).why = 0) : (gnum b 1 r).pos = r.pos + 1 ∧ r.pos < b.length := by
  unfold gnum at h0 ⊢
  split
  · rename_i hc
    rw [if_pos hc] at h0
    simp [gstop] at h0
  · exact ⟨rfl, by omega⟩
set_option maxRecDepth 20000 in
set_option maxHeartbeats 2000000 in
theorem gis_c (b : List Nat) (v y : Nat) (hv : v < 1000) (ho : Oct b) (hL : b.length = L) (hLb : L ≤ 100000000000) (hp : r.pos ≤ L) (w : World) (hx : Lies w a b) (h : Gm w base R a L C r vE) : Calls Tryz.prog 56 #[.pointer (some ⟨R, 0, none⟩), .int .i64 (v : Int), .int .i64 (y : Int)] w fun e w' => e = .returned (.tuple #[]) ∧ Gm w' base R a L C (gis b v y r) vE ∧ Only R w w' := by
  have hop := gopen_c w h
  by_cases h0 : r.why = 0
  · rw [decide_eq_true h0] at hop
    have hn := gnum_c b 1 (by decide) ho hL hLb hp w hx h
    obtain ⟨x, hxv⟩ : ∃ x, gval b 1 r = x := ⟨_, rfl⟩
    obtain ⟨r1, hr1⟩ : ∃ r1, gnum b 1 r = r1 := ⟨_, rfl⟩
    have hop1 : ∀ w1, Gm w1 base R a L C r1 vE → Calls Tryz.prog 25 #[.pointer (some ⟨R, 0, none⟩)] w1 fun e w' => e = .returned (.bool (decide (r1.why = 0))) ∧ w1 = w' := fun w1 h1 => (gopen_c w1 h1).mono fun e w' k => ⟨k.1, k.2.symm⟩
    have hop' : Calls Tryz.prog 25 #[.pointer (some ⟨R, 0, none⟩)] w fun e w' => e = .returned (.bool true) ∧ w = w' := hop.mono fun e w' k => ⟨k.1, k.2.symm⟩
    have hn' : Calls Tryz.prog 38 #[.pointer (some ⟨R, 0, none⟩), .int .i64 1] w fun e w' => e = .returned (.int .i64 (x : Int)) ∧ Gm w' base R a L C r1 vE ∧ Only R w w' := hn.mono fun e w' k => by
      obtain ⟨v', k1, k2, k3, k4⟩ := k.ex
      rw [k2 (by decide), hxv] at k1
      rw [hr1] at k3
      exact ⟨k1, k3, k4⟩
    have hgi : gis b v y r = if x ≠ v ∧ r1.why = 0 then gstop y (r1.pos - 1) r1 else r1 := by unfold gis; rw [if_pos h0, hxv, hr1]
    by_cases hxe : x = v
    · have t1 : ((x : Int) != (v : Int)) = false := by rw [bne_eq_false_iff_eq]; omega
      rw [if_neg (by rintro ⟨e, _⟩; exact e hxe)] at hgi
      rw [hgi]
      clear hop hn hxv hgi hxe h0 h hop1 hr1 hx hp ho hL hLb hv
      go_enter Tryz.func56, Tryz.ntmps56
      go_wp2_with (first | (go_at_call 25; refine hop'.mono ?_; rintro e1 w1 ⟨rfl, rfl⟩) | (go_at_call 38; refine hn'.mono ?_; rintro e2 w2 ⟨rfl, g2, o2⟩))
      first | go_end0 | (refine bodyPost_ret (results_none rfl _ _ _) rfl ?_)
      exact ⟨rfl, g2, o2⟩
    · have t1 : ((x : Int) != (v : Int)) = true := by rw [bne_iff_ne]; omega
      by_cases h1 : r1.why = 0
      · have ap : 1 ≤ r1.pos ∧ r1.pos ≤ 200000000000 := by
          rw [← hr1] at h1 ⊢
          have := gnum_one h0 h1
          omega
        obtain ⟨p1, hp1⟩ : ∃ p1, r1.pos = p1 := ⟨_, rfl⟩
        obtain ⟨q1, hq1⟩ : ∃ q1, p1 - 1 = q1 := ⟨_, rfl⟩
        have w1' : (p1 : Int) - 1 = (q1 : Int) := by omega
        have bq : (q1 : Int) < 300000000000 := by omega
        rw [if_pos ⟨hxe, h1⟩, hp1, hq1] at hgi
        rw [hgi]
        have AH2 : Aside (∀ w1, Gm w1 base R a L C r1 vE → Calls Tryz.prog 25 #[.pointer (some ⟨R, 0, none⟩)] w1 fun e w' => e = .returned (.bool true) ∧ w1 = w') := fun w1 k => by have := hop1 w1 k; rwa [decide_eq_true h1] at this
        have AQ : Aside (r1.pos = p1) := hp1
        clear ap hp1 hq1 h1 hop hn hxv hgi h0 h hop1 hr1 hx hp hxe ho hL hLb hv
        go_enter Tryz.func56, Tryz.ntmps56
        go_wp2_with (first | (go_at_call 25; refine hop'.mono ?_; rintro e1 w1 ⟨rfl, rfl⟩) | (go_at_call 38; refine hn'.mono ?_; rintro e2 w2 ⟨rfl, g2, o2⟩; clear hop' hn'; have hop' := AH2.out w2 g2; have c4 : w2.cell? ⟨R, 4, none⟩ = some (.int .i64 (p1 : Int)) := (by rw [← AQ.out]; exact g2.c4); have hs2 := gstop_c y q1 w2 g2) | (go_at_call 26; refine hs2.mono ?_; rintro e4 w4 ⟨rfl, g4, o4⟩))
        first | go_end0 | (refine bodyPost_ret (results_none rfl _ _ _) rfl ?_)
        exact ⟨rfl, g4, o2.trans o4⟩
      · rw [if_neg (by rintro ⟨_, e⟩; exact h1 e)] at hgi
        rw [hgi]
        have AH2 : Aside (∀ w1, Gm w1 base R a L C r1 vE → Calls Tryz.prog 25 #[.pointer (some ⟨R, 0, none⟩)] w1 fun e w' => e = .returned (.bool false) ∧ w1 = w') := fun w1 k => by have := hop1 w1 k; rwa [decide_eq_false h1] at this
        clear h1 hop hn hxv hgi h0 h hop1 hr1 hx hp hxe ho hL hLb hv
        go_enter Tryz.func56, Tryz.ntmps56
        go_wp2_with (first | (go_at_call 25; refine hop'.mono ?_; rintro e1 w1 ⟨rfl, rfl⟩) | (go_at_call 38; refine hn'.mono ?_; rintro e2 w2 ⟨rfl, g2, o2⟩; clear hop' hn'; have hop' := AH2.out w2 g2))
        first | go_end0 | (refine bodyPost_ret (results_none rfl _ _ _) rfl ?_)
        exact ⟨rfl, g2, o2⟩
  · rw [decide_eq_false h0] at hop
    have hgi : gis b v y r = r := by unfold gis; rw [if_neg h0]
    rw [hgi]
    have AG : Aside (Gm w base R a L C r vE) := h
    have hop' : Calls Tryz.prog 25 #[.pointer (some ⟨R, 0, none⟩)] w fun e w' => e = .returned (.bool false) ∧ w = w' := hop.mono fun e w' k => ⟨k.1, k.2.symm⟩
    clear hop hgi h0 h hx hp ho hL hLb hv
    go_enter Tryz.func56, Tryz.ntmps56
    go_wp2_with (go_at_call 25; refine hop'.mono ?_; rintro e1 w1 ⟨rfl, rfl⟩)
    first | go_end0 | (refine bodyPost_ret (results_none rfl _ _ _) rfl ?_)
    exact ⟨rfl, AG.out, Only.refl _ _⟩
end
end Go.Proofs.YtogednaamndpgaaGreatDoor

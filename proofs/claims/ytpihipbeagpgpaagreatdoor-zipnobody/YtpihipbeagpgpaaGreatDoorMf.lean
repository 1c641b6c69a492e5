/-
  Own texts of this seat, one behind the other: what each says stands ahead of it.
-/
import Derived.Test.YtpihipbeagpgpaaGreatDoorMe
import Derived.Deep.RegionHeld3
/-
 The machine over bytes that come one at a time: with which of them what is known. No walk in this text.
-/
namespace Go.Proofs.YtpihipbeagpgpaaGreatDoor
set_option linter.unusedVariables false
variable {bs cs : List Bool} {most : Nat}
theorem map_le {p n : Nat} {f : Nat → Cfg} {d : Cfg} (h : (num? bs p n).map f = some d) (hf : ∀ v, (f v).pos = p + n) : d.pos ≤ bs.length := by
 rw [Option.map_eq_some_iff] at h
 obtain ⟨v, hv, rfl⟩ := h
 rw [hf]
 exact num_le hv
theorem sread_end {ls : List Nat} {p s n : Nat} (h : sread ls (bs.drop p) = .got s n) (hp : p ≤ bs.length) : p + n ≤ bs.length := by
 have hh := sread_le (ls := ls) (h := bs.drop p)
 rw [h] at hh
 have := hh.2.2.1
 rw [List.length_drop] at this
 omega
theorem sread_end' {ls : List Nat} {p j : Nat} (h : sread ls (bs.drop p) = .bad j) (hp : p ≤ bs.length) : p + j ≤ bs.length := by
 have hh := sread_le (ls := ls) (h := bs.drop p)
 rw [h] at hh
 have hh' : j ≤ (bs.drop p).length := hh
 rw [List.length_drop] at hh'
 omega
def Adds (c d : Cfg) : Prop := (d.out = c.out ∧ d.times = c.times) ∨ ∃ b, d.out = c.out ++ [b] ∧ d.times = c.times ++ [(d.pos - 1) / 8]
theorem adds_give {most : Nat} {k : St} {b p : Nat} {c : Cfg} : Adds c (give most k b p c) := by
 unfold give
 split
 ·exact Or.inr ⟨b, rfl, rfl⟩
 ·exact Or.inl ⟨rfl, rfl⟩
theorem map_adds {p n : Nat} {f : Nat → Cfg} {c d : Cfg} (h : (num? bs p n).map f = some d) (hf : ∀ v, Adds c (f v)) : Adds c d := by
 rw [Option.map_eq_some_iff] at h
 obtain ⟨v, hv, rfl⟩ := h
 exact hf v
theorem step_ends {c d : Cfg} (h : step bs most c = some d) (hc : c.pos ≤ bs.length) : d.pos ≤ bs.length ∧ Adds c d := by
 obtain ⟨st, pos, out, times⟩ := c
 have hp : pos ≤ bs.length := hc
 unfold step at h
 cases st using St.el with
 | head last =>
  cases last with
  | true => simp only [Option.some.injEq] at h; rw [← h]; exact ⟨hp, Or.inl ⟨rfl, rfl⟩⟩
  | false => exact ⟨map_le h (fun _ => rfl), map_adds h (fun _ => Or.inl ⟨rfl, rfl⟩)⟩
 | slen last => exact ⟨map_le h (fun _ => rfl), map_adds h (fun _ => Or.inl ⟨rfl, rfl⟩)⟩
 | snot last l => exact ⟨map_le h (fun _ => rfl), map_adds h (fun _ => Or.inl ⟨rfl, rfl⟩)⟩
 | sraw last n =>
  cases n with
  | zero => simp only [Option.some.injEq] at h; rw [← h]; exact ⟨hp, Or.inl ⟨rfl, rfl⟩⟩
  | succ n => exact ⟨map_le h (fun _ => give_pos), map_adds h (fun _ => adds_give)⟩
 | dnum last => exact ⟨map_le h (fun _ => rfl), map_adds h (fun _ => Or.inl ⟨rfl, rfl⟩)⟩
 | dfst last a b i j first =>
  simp only [] at h
  split at h
  ·exact ⟨map_le h (fun _ => rfl), map_adds h (fun _ => Or.inl ⟨rfl, rfl⟩)⟩
  ·simp only [Option.some.injEq] at h; rw [← h]; exact ⟨hp, Or.inl ⟨rfl, rfl⟩⟩
 | dsym last a b code l =>
  simp only [] at h
  split at h
  ·cases e : sread code (bs.drop pos) using SR.el with
   | cut => rw [e] at h; cases h
   | bad j => rw [e] at h; simp only [Option.some.injEq] at h; subst h; exact ⟨sread_end' e hp, Or.inl ⟨rfl, rfl⟩⟩
   | got s n => rw [e] at h; simp only [Option.some.injEq] at h; subst h; exact ⟨sread_end e hp, Or.inl ⟨rfl, rfl⟩⟩
  ·simp only [Option.some.injEq] at h; rw [← h]; exact ⟨hp, Or.inl ⟨rfl, rfl⟩⟩
 | drep last a b code l s => exact ⟨map_le h (fun _ => rfl), map_adds h (fun _ => Or.inl ⟨rfl, rfl⟩)⟩
 | sym last lit di =>
  simp only [] at h
  cases e : sread lit (bs.drop pos) using SR.el with
  | cut => rw [e] at h; cases h
  | bad j => rw [e] at h; simp only [Option.some.injEq] at h; subst h; exact ⟨sread_end' e hp, Or.inl ⟨rfl, rfl⟩⟩
  | got s n =>
   rw [e] at h
   simp only [] at h
   split at h
   ·simp only [Option.some.injEq] at h; subst h; exact ⟨by rw [give_pos]; exact sread_end e hp, adds_give⟩
   ·simp only [Option.some.injEq] at h; subst h; exact ⟨sread_end e hp, Or.inl ⟨rfl, rfl⟩⟩
 | lext last lit di s => exact ⟨map_le h (fun _ => rfl), map_adds h (fun _ => Or.inl ⟨rfl, rfl⟩)⟩
 | dist last lit di n =>
  simp only [] at h
  cases e : sread di (bs.drop pos) using SR.el with
  | cut => rw [e] at h; cases h
  | bad j => rw [e] at h; simp only [Option.some.injEq] at h; subst h; exact ⟨sread_end' e hp, Or.inl ⟨rfl, rfl⟩⟩
  | got s n => rw [e] at h; simp only [Option.some.injEq] at h; subst h; exact ⟨sread_end e hp, Or.inl ⟨rfl, rfl⟩⟩
 | dext last lit di n x => exact ⟨map_le h (fun _ => rfl), map_adds h (fun _ => Or.inl ⟨rfl, rfl⟩)⟩
 | copy last lit di n d =>
  cases n with
  | zero => simp only [Option.some.injEq] at h; rw [← h]; exact ⟨hp, Or.inl ⟨rfl, rfl⟩⟩
  | succ n => simp only [Option.some.injEq] at h; rw [← h]; exact ⟨by rw [give_pos]; exact hp, adds_give⟩
 | done => cases h
 | bad y => cases h
theorem runs_ends {c d : Cfg} (h : Runs bs most c d) (hc : c.pos ≤ bs.length) : d.pos ≤ bs.length := by
 induction h using Runs.el with
 | refl => exact hc
 | cons h1 _ ih => exact ih (step_ends h1 hc).1
theorem Runs.linear {c d e : Cfg} (h : Runs bs most c d) (k : Runs bs most c e) (he : step bs most e = none) : Runs bs most d e := by
 induction h using Runs.el with
 | refl => exact k
 | cons h1 _ ih =>
  cases k using Runs.cs with
  | refl => rw [he] at h1; cases h1
  | cons h2 k2 => rw [h1] at h2; cases h2; exact ih k2
theorem runs_in {c d : Cfg} {i : Nat} (h : Runs bs most c d) (h1 : 8 * i < c.pos) (h2 : c.pos ≤ bs.length) (h3 : bs.length = 8 * (i + 1)) : ∃ o, d.out = c.out ++ o ∧ d.times = c.times ++ List.replicate o.length i := by
 induction h using Runs.el with
 | refl => exact ⟨[], by simp, by simp⟩
 | @cons c x e s1 r ih =>
  obtain ⟨q1, q2⟩ := step_ends s1 h2
  obtain ⟨o, q3, q4⟩ := ih (by have := step_pos s1; omega) q1
  rcases q2 with ⟨q5, q6⟩ | ⟨b, q5, q6⟩
  ·exact ⟨o, by rw [q3, q5], by rw [q4, q6]⟩
  ·refine ⟨b :: o, by rw [q3, q5]; simp, ?_⟩
   have e : (x.pos - 1) / 8 = i := by have := step_pos s1; omega
   rw [q4, q6, e, List.length_cons, List.replicate_succ]
   simp
theorem runs_next {c d : Cfg} {i : Nat} (hpre : cs <+: bs) (hcs : cs.length = 8 * i) (hbs : bs.length = 8 * (i + 1)) (hno : step cs most c = none) (hp : c.pos ≤ cs.length) (h : Runs bs most c d) :
  ∃ o, d.out = c.out ++ o ∧ d.times = c.times ++ List.replicate o.length i ∧ (d = c ∨ (8 * i < d.pos ∧ d.pos ≤ 8 * (i + 1))) := by
 cases h using Runs.cs with
 | refl => exact ⟨[], by simp, by simp, Or.inl rfl⟩
 | @cons _ x _ s1 r =>
  have hlt : 8 * i < x.pos := by
   apply Decidable.byContradiction
   intro hh
   obtain ⟨t, rfl⟩ := hpre
   have := step_agree s1 (Agree.append cs t (by omega : x.pos ≤ cs.length)).symm
   rw [hno] at this
   cases this
  obtain ⟨q1, q2⟩ := step_ends s1 (by omega)
  obtain ⟨o, q3, q4⟩ := runs_in r hlt q1 hbs
  have q7 : 8 * i < d.pos ∧ d.pos ≤ 8 * (i + 1) := ⟨Nat.lt_of_lt_of_le hlt r.pos, by rw [← hbs]; exact runs_ends r q1⟩
  rcases q2 with ⟨q5, q6⟩ | ⟨b, q5, q6⟩
  ·exact ⟨o, by rw [q3, q5], by rw [q4, q6], Or.inr q7⟩
  ·refine ⟨b :: o, by rw [q3, q5]; simp, ?_, Or.inr q7⟩
   have e : (x.pos - 1) / 8 = i := by omega
   rw [q4, q6, e, List.length_cons, List.replicate_succ]
   simp
def Stands (B : List Nat) (most : Nat) (c : Cfg) : Prop := Runs (allb B) most ⟨.head false, 0, [], []⟩ c ∧ step (allb B) most c = none
theorem Stands.one {B : List Nat} {c d : Cfg} (h : Stands B most c) (k : Stands B most d) : c = d := h.1.det k.1 h.2 k.2
theorem Stands.pos {B : List Nat} {c : Cfg} (h : Stands B most c) : c.pos ≤ 8 * B.length := by
 have := runs_ends h.1 (Nat.zero_le _)
 rwa [allb_len] at this
theorem allb_append (B D : List Nat) : allb (B ++ D) = allb B ++ allb D := by unfold allb; rw [List.flatMap_append]
theorem Stands.more {B D : List Nat} {c d : Cfg} (h : Stands B most c) (k : Stands (B ++ D) most d) : Runs (allb (B ++ D)) most c d := by
 have h1 : Runs (allb (B ++ D)) most ⟨.head false, 0, [], []⟩ c := runs_agree h.1 (by rw [allb_append]; exact Agree.append _ _ (by have := h.pos; rw [allb_len]; exact this))
 exact h1.linear k.1 k.2
theorem Stands.next {B : List Nat} {x : Nat} {c d : Cfg} (h : Stands B most c) (k : Stands (B ++ [x]) most d) :
  ∃ o, d.out = c.out ++ o ∧ d.times = c.times ++ List.replicate o.length B.length ∧ (d = c ∨ (8 * B.length < d.pos ∧ d.pos ≤ 8 * (B.length + 1))) :=
 runs_next (cs := allb B) ⟨allb [x], (allb_append B [x]).symm⟩ (allb_len B) (by rw [allb_len]; simp) h.2 (by rw [allb_len]; exact h.pos) (h.more k)
theorem Stands.over {B D : List Nat} {c : Cfg} (h : Stands B most c) (ho : c.st = .done ∨ ∃ y, c.st = .bad y) : Stands (B ++ D) most c := by
 refine ⟨runs_agree h.1 (by rw [allb_append]; exact Agree.append _ _ (by have := h.pos; rw [allb_len]; exact this)), ?_⟩
 unfold step
 rcases ho with e | ⟨y, e⟩ <;> rw [e]
end Go.Proofs.YtpihipbeagpgpaaGreatDoor

/-
 The machine asked for fewer bytes: it gives the first ones, and that there are more. No walk in this text.
-/
namespace Go.Proofs.YtpihipbeagpgpaaGreatDoor
set_option linter.unusedVariables false
variable {bs : List Bool} {M N : Nat}
theorem map_out {p n : Nat} {f : Nat → Cfg} {d : Cfg} {o : List Nat} (h : (num? bs p n).map f = some d) (hf : ∀ v, (f v).out = o) : d.out = o := by
 rw [Option.map_eq_some_iff] at h
 obtain ⟨v, hv, rfl⟩ := h
 exact hf v
def Fewer (N : Nat) (c d : Cfg) (r : Option Cfg) : Prop := (r = some d ∧ d.out.length ≤ N) ∨ (c.out.length = N ∧ r = some ⟨.bad 62, d.pos, c.out, c.times⟩ ∧ ∃ b, d.out = c.out ++ [b])
theorem fewer_give {k : St} {b p : Nat} {c : Cfg} (hN : N ≤ M) (hc : c.out.length ≤ N) : Fewer N c (give M k b p c) (some (give N k b p c)) := by
 unfold give
 by_cases h1 : c.out.length < N
 ·rw [if_pos h1, if_pos (by omega)]
  exact Or.inl ⟨rfl, by simp; omega⟩
 ·rw [if_neg h1]
  by_cases h2 : c.out.length < M
  ·rw [if_pos h2]
   exact Or.inr ⟨by omega, rfl, b, rfl⟩
  ·rw [if_neg h2]
   exact Or.inl ⟨rfl, hc⟩
theorem step_fewer {c d : Cfg} (h : step bs M c = some d) (hN : N ≤ M) (hc : c.out.length ≤ N) : Fewer N c d (step bs N c) := by
 obtain ⟨st, pos, out, times⟩ := c
 have ho : out.length ≤ N := hc
 unfold step at *
 have same : d.out = out → ∀ r : Option Cfg, r = some d → Fewer N ⟨st, pos, out, times⟩ d r := fun e r hr => Or.inl ⟨hr, by rw [e]; exact ho⟩
 cases st using St.el with
 | head last =>
  cases last with
  | true => exact same (by simp only [Option.some.injEq] at h; rw [← h]) _ h
  | false => exact same (map_out h fun _ => rfl) _ h
 | slen last => exact same (map_out h fun _ => rfl) _ h
 | snot last l => exact same (map_out h fun _ => rfl) _ h
 | sraw last n =>
  cases n with
  | zero => exact same (by simp only [Option.some.injEq] at h; rw [← h]) _ h
  | succ n =>
   simp only [Option.map_eq_some_iff] at h
   obtain ⟨v, hv, rfl⟩ := h
   simp only [hv]
   exact fewer_give hN hc
 | dnum last => exact same (map_out h fun _ => rfl) _ h
 | dfst last a b i j first =>
  simp only [] at *
  split at h
  ·rename_i hlt; rw [if_pos hlt]; exact same (map_out h fun _ => rfl) _ h
  ·rename_i hlt; rw [if_neg hlt]; exact same (by simp only [Option.some.injEq] at h; rw [← h]) _ h
 | dsym last a b code l =>
  simp only [] at *
  split at h
  ·rename_i hlt
   rw [if_pos hlt]
   refine same ?_ _ h
   split at h
   ·cases h
   ·simp only [Option.some.injEq] at h; rw [← h]
   ·simp only [Option.some.injEq] at h; rw [← h]
  ·rename_i hlt; rw [if_neg hlt]; exact same (by simp only [Option.some.injEq] at h; rw [← h]) _ h
 | drep last a b code l s => exact same (map_out h fun _ => rfl) _ h
 | sym last lit di =>
  simp only [] at *
  cases e : sread lit (bs.drop pos) using SR.el with
  | cut => rw [e] at h; cases h
  | bad j => rw [e] at h; simp only [Option.some.injEq] at h; exact same (by rw [← h]) _ (by rw [← h])
  | got s n =>
   rw [e] at h
   simp only [] at *
   split at h
   ·rename_i hlt
    rw [if_pos hlt]
    simp only [Option.some.injEq] at h
    subst h
    exact fewer_give hN hc
   ·rename_i hlt
    rw [if_neg hlt]
    simp only [Option.some.injEq] at h
    exact same (by rw [← h]) _ (by rw [← h])
 | lext last lit di s => exact same (map_out h fun _ => rfl) _ h
 | dist last lit di n =>
  simp only [] at *
  refine same ?_ _ h
  split at h
  ·cases h
  ·simp only [Option.some.injEq] at h; rw [← h]
  ·simp only [Option.some.injEq] at h; rw [← h]
 | dext last lit di n x => exact same (map_out h fun _ => rfl) _ h
 | copy last lit di n d =>
  cases n with
  | zero => exact same (by simp only [Option.some.injEq] at h; rw [← h]) _ h
  | succ n => simp only [Option.some.injEq] at h; subst h; exact fewer_give hN hc
 | done => cases h
 | bad y => cases h
theorem runs_out {c d : Cfg} (h : Runs bs M c d) (hc : c.pos ≤ bs.length) : c.out <+: d.out := by
 induction h using Runs.el with
 | refl => exact List.prefix_refl _
 | cons h1 _ ih =>
  obtain ⟨q1, q2⟩ := step_ends h1 hc
  refine List.IsPrefix.trans ?_ (ih q1)
  rcases q2 with ⟨q3, _⟩ | ⟨b, q3, _⟩
  ·rw [q3]; exact List.prefix_refl _
  ·rw [q3]; exact List.prefix_append _ _
theorem runs_fewer {c d : Cfg} (h : Runs bs M c d) (hN : N ≤ M) (hc : c.out.length ≤ N) (hp : c.pos ≤ bs.length) :
  (Runs bs N c d ∧ d.out.length ≤ N) ∨ ∃ e, Runs bs N c e ∧ e.st = .bad 62 ∧ e.out.length = N ∧ e.out <+: d.out ∧ N < d.out.length ∧ e.pos ≤ d.pos := by
 induction h using Runs.el with
 | refl => exact Or.inl ⟨Runs.refl _, hc⟩
 | @cons c x d s1 r ih =>
  have hx := (step_ends s1 hp).1
  rcases step_fewer s1 hN hc with ⟨q1, q2⟩ | ⟨q1, q2, b, q3⟩
  ·rcases ih q2 hx with ⟨q4, q5⟩ | ⟨e, q4, q5⟩
   ·exact Or.inl ⟨Runs.cons q1 q4, q5⟩
   ·exact Or.inr ⟨e, Runs.cons q1 q4, q5⟩
  ·have hpre := runs_out r hx
   rw [q3] at hpre
   have hl := hpre.length_le
   rw [List.length_append, List.length_singleton] at hl
   exact Or.inr ⟨_, Runs.one q2, rfl, q1, (List.prefix_append c.out [b]).trans hpre, by omega, r.pos⟩
end Go.Proofs.YtpihipbeagpgpaaGreatDoor

/-
 What the document's Used comes to, and its Same.
-/
namespace Go.Proofs.YtpihipbeagpgpaaGreatDoor
open Go.RowKit
set_option linter.unusedVariables false
def whyC (c : Cfg) : Nat := match c.st with
 | .inr (.inr (.inr y)) => y
 | .inr (.inr (.inl (.inr ()))) => 0
 | _ => 1
def endC (c : Cfg) : Bool := match c.st with
 | .inr (.inr (.inl (.inr ()))) => true
 | _ => false
end Go.Proofs.YtpihipbeagpgpaaGreatDoor

/-
  The inflater's cells where the machine of small steps stands; what one of its steps comes to; its small calls.
-/
namespace Go.Proofs.YtpihipbeagpgpaaGreatDoor
open Go.RowKit
set_option linter.unusedVariables false
structure Tabs (w : World) : Prop where
  t0 : ∀ i, i < 29 → w.cell? ⟨1, i, none⟩ = some (.int .u8 (lmore (257 + i) : Nat))
  t1 : ∀ i, i < 29 → w.cell? ⟨2, i, none⟩ = some (.int .u16 (lbase (257 + i) : Nat))
  t2 : ∀ i, i < 19 → w.cell? ⟨3, i, none⟩ = some (.int .u8 (ordr.getD i 0 : Nat))
  t3 : ∀ i, i < 30 → w.cell? ⟨4, i, none⟩ = some (.int .u8 (dmore i : Nat))
  t4 : ∀ i, i < 30 → w.cell? ⟨5, i, none⟩ = some (.int .u16 (dbase i : Nat))
  t5 : ∀ i, i < 3 → w.cell? ⟨6, i, none⟩ = some (.int .u8 ([2, 3, 7].getD i 0 : Nat))
  t6 : ∀ i, i < 3 → w.cell? ⟨7, i, none⟩ = some (.int .u8 ([3, 3, 11].getD i 0 : Nat))
theorem Tabs.lt {w : World} (h : Tabs w) : 7 < w.heap.size := World.block_lt_of_cell? w ⟨7, 0, none⟩ (h.t6 0 (by decide))
theorem Tabs.below {w u : World} {B : Nat} (h : Tabs w) (k : Below B w u) (hB : 8 ≤ B) : Tabs u :=
  ⟨fun i hi => (k.cell (p := ⟨1, i, none⟩) (show 1 < B by omega)).trans (h.t0 i hi), fun i hi => (k.cell (p := ⟨2, i, none⟩) (show 2 < B by omega)).trans (h.t1 i hi), fun i hi => (k.cell (p := ⟨3, i, none⟩) (show 3 < B by omega)).trans (h.t2 i hi), fun i hi => (k.cell (p := ⟨4, i, none⟩) (show 4 < B by omega)).trans (h.t3 i hi), fun i hi => (k.cell (p := ⟨5, i, none⟩) (show 5 < B by omega)).trans (h.t4 i hi), fun i hi => (k.cell (p := ⟨6, i, none⟩) (show 6 < B by omega)).trans (h.t5 i hi), fun i hi => (k.cell (p := ⟨7, i, none⟩) (show 7 < B by omega)).trans (h.t6 i hi)⟩
def ep (c : Cfg) : Nat := match c.st with
  | .inl (.inl (.inl (.inr _))) => (c.pos + 7) / 8 * 8
  | _ => c.pos
def rk : St → Nat
  | .inl (.inl (.inr (.inr (_, _)))) => 1
  | .inl (.inr (.inr (.inl (_, _, _, _, _)))) => 6
  | .inr (.inl (.inl (.inl (_, _, _)))) => 1
  | .inr (.inl (.inl (.inr (_, _, _, _)))) => 5
  | .inr (.inl (.inr (.inl (_, _, _, _)))) => 4
  | .inr (.inl (.inr (.inr (_, _, _, _, _)))) => 3
  | .inr (.inr (.inl (.inl (_, _, _, _, _)))) => 2
  | _ => 0
def mu (bs : List Bool) (c : Cfg) : Nat := 8 * (bs.length - c.pos) + rk c.st
structure Pl (w : World) (B : Nat) (f : Nat → Value) (a b : Nat) (code l : List Nat) : Prop where
  a1 : 257 ≤ a
  a2 : a ≤ 286
  b1 : 1 ≤ b
  b2 : b ≤ 30
  c8 : f 8 = .int .i64 (a : Int)
  c9 : f 9 = .int .i64 (b : Int)
  have_ : f 11 = .int .i64 (l.length : Int)
  len : l.length ≤ a + b
  row : ∀ (j x : Nat), l[j]? = some x → f (32 + j) = .int .i64 (x : Int)
  tbl : Tbl w B (f 31) code
  code : code.length = 19
structure Sm (f : Nat → Value) (a b k i : Nat) (first : List Nat) : Prop where
  a1 : 257 ≤ a
  a2 : a ≤ 286
  b1 : 1 ≤ b
  b2 : b ≤ 30
  c8 : f 8 = .int .i64 (a : Int)
  c9 : f 9 = .int .i64 (b : Int)
  c10 : f 10 = .int .i64 (k : Int)
  have_ : f 11 = .int .i64 (i : Int)
  lt : i < k
  k19 : k ≤ 19
  len : first.length = 19
  row : ∀ (j x : Nat), first[j]? = some x → f (12 + j) = .int .i64 (x : Int)
  le : ∀ x ∈ first, x ≤ 7
def At (w : World) (B D : Nat) (f : Nat → Value) (n : Nat) : St → Prop
  | .inl (.inl (.inl (.inl false))) => f 2 = fnv D 45
  | .inl (.inl (.inl (.inr last))) => f 2 = fnv D 61 ∧ f 5 = .bool last
  | .inl (.inl (.inr (.inr (last, m)))) => f 2 = fnv D 86 ∧ f 5 = .bool last ∧ f 350 = .int .i64 (m : Int)
  | .inl (.inr (.inl (.inl last))) => f 2 = fnv D 64 ∧ f 5 = .bool last
  | .inl (.inr (.inl (.inr (last, a, b, k, i, first)))) => f 2 = fnv D 93 ∧ f 5 = .bool last ∧ Sm f a b k i first
  | .inl (.inr (.inr (.inl (last, a, b, code, l)))) => f 2 = fnv D 122 ∧ f 5 = .bool last ∧ Pl w B f a b code l
  | .inl (.inr (.inr (.inr (last, a, b, code, l, s)))) => f 2 = fnv D 138 ∧ f 5 = .bool last ∧ Pl w B f a b code l ∧ f 348 = .int .i64 (s : Int) ∧ 16 ≤ s ∧ s ≤ 18 ∧ (s = 16 → l ≠ [])
  | .inr (.inl (.inl (.inl (last, lit, di)))) => f 2 = fnv D 63 ∧ f 5 = .bool last ∧ Tbl w B (f 6) lit ∧ Tbl w B (f 7) di
  | .inr (.inl (.inl (.inr (last, lit, di, s)))) => f 2 = fnv D 92 ∧ f 5 = .bool last ∧ Tbl w B (f 6) lit ∧ Tbl w B (f 7) di ∧ 257 ≤ s ∧ s ≤ 285 ∧ f 348 = .int .i64 ((s - 257 : Nat) : Int)
  | .inr (.inl (.inr (.inl (last, lit, di, m)))) => f 2 = fnv D 120 ∧ f 5 = .bool last ∧ Tbl w B (f 6) lit ∧ Tbl w B (f 7) di ∧ f 350 = .int .i64 (m : Int)
  | .inr (.inl (.inr (.inr (last, lit, di, m, x)))) => f 2 = fnv D 136 ∧ f 5 = .bool last ∧ Tbl w B (f 6) lit ∧ Tbl w B (f 7) di ∧ f 350 = .int .i64 (m : Int) ∧ x ≤ 29 ∧ f 348 = .int .i64 (x : Int)
  | .inr (.inr (.inl (.inl (last, lit, di, m, d)))) => f 2 = fnv D 146 ∧ f 5 = .bool last ∧ Tbl w B (f 6) lit ∧ Tbl w B (f 7) di ∧ f 350 = .int .i64 (m : Int) ∧ f 349 = .int .i64 (d : Int) ∧ 1 ≤ d ∧ d ≤ n ∧ d ≤ 32768
  | _ => False
def Fx (w : World) (B : Nat) (f : Nat → Value) : Prop := (f 3 = .pointer none ∧ f 4 = .pointer none) ∨ (Tbl w B (f 3) fixL ∧ Tbl w B (f 4) fixD)
theorem Fx.fm {w u : World} {B : Nat} {f g : Nat → Value} (h : Fx w B f) (k : Fm B w u) (h3 : g 3 = f 3) (h4 : g 4 = f 4) : Fx u B g := by
  unfold Fx
  rw [h3, h4]
  rcases h with h | ⟨h, h'⟩
  · exact Or.inl h
  · exact Or.inr ⟨h.fm k, h'.fm k⟩
structure Op (f : Nat → Value) : Prop where
  waits : f 352 = .bool false
  done : f 353 = .bool false
  why : f 354 = .int .i64 0
def win (out : List Nat) : List Int := glastN 32768 (iz out)
structure Is (w : World) (B D b R : Nat) (f : Nat → Value) (bs : List Bool) (c : Cfg) : Prop where
  mem : Bs w B D b R f (bs.drop (ep c)) (win c.out)
  at_ : At w B D f c.out.length c.st
  fx : Fx w B f
  tabs : Tabs w
  le : ep c ≤ bs.length
  b7 : 8 ≤ B
structure Ov (w : World) (B D b R : Nat) (f : Nat → Value) (c : Cfg) : Prop where
  mem : ∃ h l, Bs w B D b R f h l
  waits : f 352 = .bool false
  how : (c.st = .done ∧ f 353 = .bool true ∧ f 354 = .int .i64 0) ∨ ∃ y : Nat, c.st = .bad y ∧ f 353 = .bool false ∧ f 354 = .int .i64 (y : Int) ∧ y ≠ 0
  fx : Fx w B f
  tabs : Tabs w
  b7 : 8 ≤ B
structure Gv (w : World) (B D b R : Nat) (f : Nat → Value) (bs : List Bool) (c c' : Cfg) : Prop where
  is_ : Is w B D b R f bs c'
  waits : f 352 = .bool true
  done : f 353 = .bool false
  why : f 354 = .int .i64 0
  out : ∃ x : Nat, f 351 = .int .u8 (x : Int) ∧ c'.out = c.out ++ [x]
structure Wt (w : World) (B D b R : Nat) (f : Nat → Value) (bs : List Bool) (most : Nat) (c : Cfg) : Prop where
  is_ : Is w B D b R f bs c
  op : Op f
  few : bs.length < ep c + 32
  z : ∃ z, Runs bs most c z ∧ step bs most z = none ∧ z.out = c.out ∧ (∀ y, z.st ≠ .bad y) ∧ z.st ≠ .done
def Res (B D b R : Nat) (bs : List Bool) (most : Nat) (c : Cfg) (r : Bool) (w' : World) : Prop := ∃ f' c', Runs bs most c c' ∧
  ((r = true ∧ Is w' B D b R f' bs c' ∧ Op f' ∧ c'.out = c.out ∧ mu bs c' < mu bs c) ∨
   (r = false ∧ Gv w' B D b R f' bs c c') ∨
   (r = false ∧ Ov w' B D b R f' c' ∧ c'.out = c.out) ∨
   (r = false ∧ Wt w' B D b R f' bs most c ∧ c' = c))
def StepOk (k B D b R : Nat) (bs : List Bool) (most : Nat) (c : Cfg) (w : World) : Prop :=
  Calls Tryz.prog k #[.pointer (some ⟨D, 0, none⟩)] w fun e w' => ∃ r, e = .returned (.bool r) ∧ Fm B w w' ∧ Res B D b R bs most c r w'
section
variable {w : World} {B D b R : Nat} {f : Nat → Value} {h : List Bool} {l : List Int}
theorem take_at (n : Nat) (w : World) (s : Bs w B D b R f h l) (h1 : n ≤ 32) (h2 : n ≤ h.length) (v : Nat) (hv : nm (h.take n) = v) :
    Calls Tryz.prog 58 #[.pointer (some ⟨b, 0, none⟩), .int .i64 n] w fun e w' => e = .returned (.tuple #[.int .u32 (v : Int), .bool true]) ∧ Bs w' B D b R f (h.drop n) l ∧ Fm B w w' := by
  refine (take_yes b (nm h) h.length n w s.br h1 h2).mono fun e w' hh => ?_
  rw [← nm_take, hv, ← nm_drop, ← List.length_drop] at hh
  exact ⟨hh.1, s.onb hh.2.2 hh.2.1, Fm.of_only hh.2.2 (by have := s.eb; omega) (by have := s.eb; omega)⟩
theorem take_short (n : Nat) (w : World) (s : Bs w B D b R f h l) (h2 : h.length < n) :
    Calls Tryz.prog 58 #[.pointer (some ⟨b, 0, none⟩), .int .i64 n] w fun e w' => e = .returned (.tuple #[.int .u32 0, .bool false]) ∧ w = w' :=
  take_no b (nm h) h.length n w s.br (fun hc => by have := hc.2.2; omega)
theorem told_got {ls : List Nat} {h : List Bool} {s n : Nat} (e : sread ls h = .got s n) : Told ls h s 0 n := by
  have hh := sread_le (ls := ls) (h := h)
  rw [e] at hh
  exact Or.inl ⟨hh, rfl⟩
theorem sread_nohit {ls : List Nat} {h : List Bool} (e : ∀ s n, sread ls h ≠ .got s n) : ∀ i n, ¬ Hit ls h i n := fun i n hh => e i n (sread_got hh)
theorem sread_bad_may {ls : List Nat} {h : List Bool} {j : Nat} (e : sread ls h = .bad j) : ¬ May ls h := by
  intro hm
  have hn : ∀ i n, ¬ Hit ls h i n := sread_nohit (fun s n q => by rw [e] at q; cases q)
  rw [sread_cut hn hm] at e
  cases e
theorem sread_cut_may {ls : List Nat} {h : List Bool} (e : sread ls h = .cut) : May ls h := by
  apply Classical.byContradiction
  intro hm
  have hn : ∀ i n, ¬ Hit ls h i n := sread_nohit (fun s n q => by rw [e] at q; cases q)
  unfold sread at e
  rw [sread_no hn] at e
  simp only [] at e
  cases e2 : (List.range (h.length + 1)).find? (fun j => !mayb ls (h.take j)) with
  | some j => rw [e2] at e; cases e
  | none =>
    have := List.find?_eq_none.1 e2 h.length (List.mem_range.2 (by omega))
    rw [List.take_length] at this
    cases hb : mayb ls h with
    | true => exact hm (mayb_iff.1 hb)
    | false => rw [hb] at this; simp at this
theorem cut_short {ls : List Nat} {h : List Bool} (e : sread ls h = .cut) (h15 : ∀ x ∈ ls, x ≤ 15) : h.length ≤ 15 := by
  obtain ⟨i, n, h1, h2, h3, _⟩ := sread_cut_may e
  have := h15 n (List.mem_of_getElem? h1)
  omega
set_option maxHeartbeats 1000000 in
theorem pread_c (v : Value) (ls : List Nat) (w : World) (s : Bs w B D b R f h l) (ht : Tbl w B v ls) : Calls Tryz.prog 89 #[.pointer (some ⟨D, 0, none⟩), v] w fun e w' => Fm B w w' ∧ match sread ls h with
    | some (.inl (x, n)) => e = .returned (.tuple #[.int .i64 (x : Int), .bool true]) ∧ Bs w' B D b R f (h.drop n) l
    | some (.inr _) => e = .returned (.tuple #[.int .i64 0, .bool false]) ∧ Bs w' B D b R (upd f 354 (.int .i64 13)) h l
    | none => e = .returned (.tuple #[.int .i64 0, .bool false]) ∧ Bs w' B D b R f h l := by
  obtain ⟨lo, hi, T, rfl, h1, h2, hp, _⟩ := ht
  obtain ⟨_, _, _, _, _, _, _, _, _, _, hk, h15⟩ := id hp
  have c0 := (s.cell (show 0 < 355 by decide)).trans (congrArg some s.c0)
  have e1 : Aside (b = B + 2) := s.eb
  cases hs : sread ls h using SR.el with
  | got x n =>
    have hr := read_c lo hi T ls b x 0 n h w hp hk h15 s.br (told_got hs)
    have AS : Aside (Bs w B D b R f h l) := s
    clear s hs hk h15 hp
    go_enter Tryz.func89, Tryz.ntmps89
    go_wp2_with (go_at_call 118; refine hr.mono ?_; rintro e2 w2 ⟨rfl, hb2, hB2⟩)
    first | go_ret | go_ret2
    have e1 := e1.out
    exact ⟨Fm.of_but hB2 (by omega) (by omega), rfl, AS.out.onbut hB2 hb2⟩
  | cut =>
    have ht : Told ls h 0 1 0 := Or.inr (Or.inl ⟨sread_nohit (fun s n q => by rw [hs] at q; cases q), (may_of hk h15).2 (sread_cut_may hs), rfl, rfl, rfl⟩)
    have hr := read_c lo hi T ls b 0 1 0 h w hp hk h15 s.br ht
    have AS : Aside (Bs w B D b R f h l) := s
    clear s hs hk h15 hp
    go_enter Tryz.func89, Tryz.ntmps89
    go_wp2_with (go_at_call 118; refine hr.mono ?_; rintro e2 w2 ⟨rfl, hb2, hB2⟩)
    first | go_ret | go_ret2
    have e1 := e1.out
    exact ⟨Fm.of_but hB2 (by omega) (by omega), rfl, AS.out.onbut hB2 hb2⟩
  | bad j =>
    have ht : Told ls h 0 2 0 := Or.inr (Or.inr ⟨sread_nohit (fun s n q => by rw [hs] at q; cases q), fun q => sread_bad_may hs ((may_of hk h15).1 q), rfl, rfl, rfl⟩)
    have hr := read_c lo hi T ls b 0 2 0 h w hp hk h15 s.br ht
    have AS : Aside (Bs w B D b R f h l) := s
    clear s hs hk h15 hp
    go_enter Tryz.func89, Tryz.ntmps89
    go_wp2_with (first
      | (go_at_call 118; refine hr.mono ?_; rintro e2 w2 ⟨rfl, hb2, hB2⟩
         have s2 := AS.out.onbut hB2 hb2
         have hst := pstop_c 13 w2 s2)
      | (go_at_call 65; refine hst.mono ?_; rintro e3 w3 ⟨rfl, s3, f3⟩))
    first | go_ret | go_ret2
    have e1 := e1.out
    exact ⟨(Fm.of_but hB2 (by omega) (by omega)).trans f3, rfl, s3⟩
theorem end_last (w : World) (s : Bs w B D b R f h l) (h5 : f 5 = .bool true) : Calls Tryz.prog 91 #[.pointer (some ⟨D, 0, none⟩)] w fun e w' => e = .returned (.bool false) ∧ Bs w' B D b R (upd (upd (upd f 6 (.pointer none)) 7 (.pointer none)) 353 (.bool true)) h l ∧ Fm B w w' := by
  have c5 := (s.cell (show 5 < 355 by decide)).trans (congrArg some h5)
  have c6 := s.cell (show 6 < 355 by decide)
  have c7 := s.cell (show 7 < 355 by decide)
  have c8 := s.cell (show 353 < 355 by decide)
  have z6 := s.fz 6
  have z7 := s.fz 7
  have z8 := s.fz 353
  go_enter Tryz.func91, Tryz.ntmps91
  go_wp2_with fail
  first | go_ret | go_ret2
  have e1 := s.eD
  exact ⟨rfl, ((s.set 6 _ (by decide)).set 7 _ (by decide)).set 353 _ (by decide), Fm.of_only ((((Only.refl D w).setCell 6 _).setCell 7 _).setCell 353 _) (by omega) (by omega)⟩
theorem end_more (w : World) (s : Bs w B D b R f h l) (h5 : f 5 = .bool false) : Calls Tryz.prog 91 #[.pointer (some ⟨D, 0, none⟩)] w fun e w' => e = .returned (.bool true) ∧ Bs w' B D b R (upd (upd (upd f 6 (.pointer none)) 7 (.pointer none)) 2 (fnv D 45)) h l ∧ Fm B w w' := by
  have c5 := (s.cell (show 5 < 355 by decide)).trans (congrArg some h5)
  have c6 := s.cell (show 6 < 355 by decide)
  have c7 := s.cell (show 7 < 355 by decide)
  have z6 := s.fz 6
  have z7 := s.fz 7
  have hth := pthen_c 45 _ ((s.set 6 (.pointer none) (by decide)).set 7 (.pointer none) (by decide))
  go_enter Tryz.func91, Tryz.ntmps91
  go_wp2_with (go_at_call 60; refine hth.mono ?_; rintro e2 w2 ⟨rfl, s2, f2⟩)
  first | go_ret | go_ret2
  have e1 := s.eD
  exact ⟨rfl, s2, (Fm.of_only (((Only.refl D w).setCell 6 _).setCell 7 _) (by omega) (by omega)).trans f2⟩
end
end Go.Proofs.YtpihipbeagpgpaaGreatDoor

/-
 How what a step comes to is put together. No walk in this text.
-/
namespace Go.Proofs.YtpihipbeagpgpaaGreatDoor
open Go.RowKit
set_option linter.unusedVariables false
section
variable {w w' : World} {B D b R : Nat} {f f' : Nat → Value} {bs : List Bool} {most : Nat} {c c' : Cfg}
theorem Res.next (hr : Runs bs most c c') (hI : Is w' B D b R f' bs c') (hO : Op f') (ho : c'.out = c.out) (hm : mu bs c' < mu bs c) : Res B D b R bs most c true w' := ⟨f', c', hr, Or.inl ⟨rfl, hI, hO, ho, hm⟩⟩
theorem Res.gave (hr : Runs bs most c c') (hI : Is w' B D b R f' bs c') (h1 : f' 352 = .bool true) (h2 : f' 353 = .bool false) (h3 : f' 354 = .int .i64 0) (x : Nat) (hx : f' 351 = .int .u8 (x : Int)) (ho : c'.out = c.out ++ [x]) : Res B D b R bs most c false w' := ⟨f', c', hr, Or.inr (Or.inl ⟨rfl, hI, h1, h2, h3, x, hx, ho⟩)⟩
theorem Res.over (hr : Runs bs most c c') (hv : Ov w' B D b R f' c') (ho : c'.out = c.out) : Res B D b R bs most c false w' := ⟨f', c', hr, Or.inr (Or.inr (Or.inl ⟨rfl, hv, ho⟩))⟩
theorem Res.want (hI : Is w' B D b R f' bs c) (hO : Op f') (hf : bs.length < ep c + 32) (hz : step bs most c = none) (h1 : ∀ y, c.st ≠ .bad y) (h2 : c.st ≠ .done) : Res B D b R bs most c false w' := ⟨f', c, Runs.refl _, Or.inr (Or.inr (Or.inr ⟨rfl, ⟨hI, hO, hf, c, Runs.refl _, hz, rfl, h1, h2⟩, rfl⟩))⟩
end
theorem give_lt {most : Nat} {k : St} {b p : Nat} {c : Cfg} (h : c.out.length < most) : give most k b p c = ⟨k, p, c.out ++ [b], c.times ++ [(p - 1) / 8]⟩ := by unfold give; rw [if_pos h]
theorem pnum_at {bs : List Bool} {p n : Nat} (h : p + n ≤ bs.length) : num? bs p n = some (nm ((bs.drop p).take n)) := by unfold num?; rw [if_pos h]
theorem num_no {bs : List Bool} {p n : Nat} (h : bs.length < p + n) : num? bs p n = none := by unfold num?; rw [if_neg (by omega)]
theorem win_put (out : List Nat) (x : Nat) : wput (win out) (x : Int) = win (out ++ [x]) := by
 unfold wput win
 have := glastN_two 32768 (iz out) [] [(x : Int)]
 rw [List.append_nil] at this
 rw [this]
 simp [iz]
theorem nm_take_lt (h : List Bool) (n : Nat) : nm (h.take n) < 2 ^ n := by rw [nm_take]; exact Nat.mod_lt _ (Nat.two_pow_pos n)
theorem Pl.mono {w u : World} {B : Nat} {f g : Nat → Value} {a b : Nat} {code l : List Nat} (h : Pl w B f a b code l) (k : Fm B w u) (h8 : g 8 = f 8) (h9 : g 9 = f 9) (h11 : g 11 = f 11) (h31 : g 31 = f 31) (hr : ∀ j, j < 316 → g (32 + j) = f (32 + j)) : Pl u B g a b code l :=
 ⟨h.a1, h.a2, h.b1, h.b2, h8.trans h.c8, h9.trans h.c9, h11.trans h.have_, h.len, fun j x hx => (hr j (by have := (List.getElem?_eq_some_iff.1 hx).1; have := h.len; have := h.a2; have := h.b2; omega)).trans (h.row j x hx), by rw [h31]; exact h.tbl.fm k, h.code⟩
theorem At.mono {w u : World} {B D : Nat} {f g : Nat → Value} {n : Nat} {st : St} (h : At w B D f n st) (k : Fm B w u) (hg : ∀ i, 2 ≤ i → i < 351 → i ≠ 3 → i ≠ 4 → g i = f i) : At u B D g n st := by
 have e2 := hg 2 (by omega) (by omega) (by omega) (by omega)
 have e5 := hg 5 (by omega) (by omega) (by omega) (by omega)
 have e6 := hg 6 (by omega) (by omega) (by omega) (by omega)
 have e7 := hg 7 (by omega) (by omega) (by omega) (by omega)
 have e350 := hg 350 (by omega) (by omega) (by omega) (by omega)
 have e348 := hg 348 (by omega) (by omega) (by omega) (by omega)
 have e349 := hg 349 (by omega) (by omega) (by omega) (by omega)
 have e8 := hg 8 (by omega) (by omega) (by omega) (by omega)
 have e9 := hg 9 (by omega) (by omega) (by omega) (by omega)
 have e10 := hg 10 (by omega) (by omega) (by omega) (by omega)
 have e11 := hg 11 (by omega) (by omega) (by omega) (by omega)
 have e31 := hg 31 (by omega) (by omega) (by omega) (by omega)
 cases st using St.el with
 | head last => cases last with
  | false => exact e2.trans h
  | true => exact h
 | slen last => exact ⟨e2.trans h.1, e5.trans h.2⟩
 | snot last l => exact h
 | sraw last m => exact ⟨e2.trans h.1, e5.trans h.2.1, e350.trans h.2.2⟩
 | dnum last => exact ⟨e2.trans h.1, e5.trans h.2⟩
 | dfst last a b k' i first =>
  obtain ⟨h1, h2, q⟩ := h
  exact ⟨e2.trans h1, e5.trans h2, q.a1, q.a2, q.b1, q.b2, e8.trans q.c8, e9.trans q.c9, e10.trans q.c10, e11.trans q.have_, q.lt, q.k19, q.len, fun j x hx => (hg (12 + j) (by omega) (by have := (List.getElem?_eq_some_iff.1 hx).1; have := q.len; omega) (by omega) (by omega)).trans (q.row j x hx), q.le⟩
 | dsym last a b code l =>
  obtain ⟨h1, h2, q⟩ := h
  exact ⟨e2.trans h1, e5.trans h2, q.mono k e8 e9 e11 e31 fun j hj => hg (32 + j) (by omega) (by omega) (by omega) (by omega)⟩
 | drep last a b code l s =>
  obtain ⟨h1, h2, q, h3, h4⟩ := h
  exact ⟨e2.trans h1, e5.trans h2, q.mono k e8 e9 e11 e31 fun j hj => hg (32 + j) (by omega) (by omega) (by omega) (by omega), e348.trans h3, h4⟩
 | sym last lit di =>
  obtain ⟨h1, h2, h3, h4⟩ := h
  exact ⟨e2.trans h1, e5.trans h2, by rw [e6]; exact h3.fm k, by rw [e7]; exact h4.fm k⟩
 | lext last lit di s =>
  obtain ⟨h1, h2, h3, h4, h5, h6, h7⟩ := h
  exact ⟨e2.trans h1, e5.trans h2, by rw [e6]; exact h3.fm k, by rw [e7]; exact h4.fm k, h5, h6, e348.trans h7⟩
 | dist last lit di m =>
  obtain ⟨h1, h2, h3, h4, h5⟩ := h
  exact ⟨e2.trans h1, e5.trans h2, by rw [e6]; exact h3.fm k, by rw [e7]; exact h4.fm k, e350.trans h5⟩
 | dext last lit di m x =>
  obtain ⟨h1, h2, h3, h4, h5, h6, h7⟩ := h
  exact ⟨e2.trans h1, e5.trans h2, by rw [e6]; exact h3.fm k, by rw [e7]; exact h4.fm k, e350.trans h5, h6, e348.trans h7⟩
 | copy last lit di m d =>
  obtain ⟨h1, h2, h3, h4, h5, h6, h7⟩ := h
  exact ⟨e2.trans h1, e5.trans h2, by rw [e6]; exact h3.fm k, by rw [e7]; exact h4.fm k, e350.trans h5, e349.trans h6, h7⟩
 | done => exact h
 | bad y => exact h
section
variable {w w' : World} {B D b R : Nat} {f f' : Nat → Value} {bs : List Bool} {c c' : Cfg}
theorem Is.to (hI : Is w B D b R f bs c) (k : Fm B w w') (hb : Bs w' B D b R f' (bs.drop (ep c')) (win c'.out)) (ha : At w' B D f' c'.out.length c'.st) (h3 : f' 3 = f 3) (h4 : f' 4 = f 4) (hle : ep c' ≤ bs.length) : Is w' B D b R f' bs c' :=
 ⟨hb, ha, hI.fx.fm k h3 h4, hI.tabs.below (k.below (by have := hI.mem.lt; omega)) hI.b7, hle, hI.b7⟩
theorem Is.same (hI : Is w B D b R f bs c) (k : Fm B w w') (hb : Bs w' B D b R f (bs.drop (ep c)) (win c.out)) : Is w' B D b R f bs c :=
 hI.to k hb (hI.at_.mono k fun _ _ _ _ _ => rfl) rfl rfl hI.le
theorem Is.bad (hI : Is w B D b R f bs c) (hO : Op f) (k : Fm B w w') {h : List Bool} {l : List Int} (hb : Bs w' B D b R f' h l) (y : Nat) (hy : y ≠ 0) (hst : c'.st = .bad y) (e : f' 354 = .int .i64 (y : Int)) (h1 : f' 352 = f 352) (h2 : f' 353 = f 353) (h3 : f' 3 = f 3) (h4 : f' 4 = f 4) : Ov w' B D b R f' c' :=
 ⟨⟨h, l, hb⟩, h1.trans hO.waits, Or.inr ⟨y, hst, h2.trans hO.done, e, hy⟩, hI.fx.fm k h3 h4, hI.tabs.below (k.below (by have := hI.mem.lt; omega)) hI.b7, hI.b7⟩
theorem Is.end_ (hI : Is w B D b R f bs c) (hO : Op f) (k : Fm B w w') {h : List Bool} {l : List Int} (hb : Bs w' B D b R f' h l) (hst : c'.st = .done) (h1 : f' 352 = f 352) (h2 : f' 353 = .bool true) (e : f' 354 = f 354) (h3 : f' 3 = f 3) (h4 : f' 4 = f 4) : Ov w' B D b R f' c' :=
 ⟨⟨h, l, hb⟩, h1.trans hO.waits, Or.inl ⟨hst, h2, e.trans hO.why⟩, hI.fx.fm k h3 h4, hI.tabs.below (k.below (by have := hI.mem.lt; omega)) hI.b7, hI.b7⟩
theorem Op.to (hO : Op f) (h1 : f' 352 = f 352) (h2 : f' 353 = f 353) (h3 : f' 354 = f 354) : Op f' := ⟨h1.trans hO.waits, h2.trans hO.done, h3.trans hO.why⟩
theorem Tbl.le15 {v : Value} {ls : List Nat} (h : Tbl w B v ls) : ∀ x ∈ ls, x ≤ 15 := by
 obtain ⟨_, _, _, _, _, _, hp, _⟩ := h
 obtain ⟨_, _, _, _, _, _, _, _, _, _, _, q⟩ := hp
 exact q
theorem Tbl.len {v : Value} {ls : List Nat} (h : Tbl w B v ls) : ls.length ≤ 320 := by
 obtain ⟨_, _, _, _, _, _, _, q⟩ := h
 exact q
theorem got_lt {ls : List Nat} {h : List Bool} {s n : Nat} (e : sread ls h = .got s n) : s < ls.length := by
 have := sread_le (ls := ls) (h := h)
 rw [e] at this
 exact (List.getElem?_eq_some_iff.1 this.1).1
end
theorem Bs.fmD {w u v : World} {B D b R : Nat} {f : Nat → Value} {h : List Bool} {l : List Int} (s : Bs v B D b R f h l) (k : Only D w u) : Fm B w u := Fm.of_only k (by have := s.eD; omega) (by have := s.eD; omega)
theorem Fm.of_drew {B : Nat} {w u : World} (h : Fm B w.drew u) : Fm B w u := ⟨h.os, h.tape, h.output, h.size, h.block⟩
theorem Bs.keep {w u : World} {B D b R : Nat} {f : Nat → Value} {h : List Bool} {l : List Int} (s : Bs w B D b R f h l) (hk : ∀ k, B ≤ k → k < B + 4 → u.heap[k]? = w.heap[k]?) : Bs u B D b R f h l := by
 have e1 := s.eD; have e2 := s.eb; have e3 := s.eR
 refine ⟨?_, s.c0, s.c1, ⟨?_, s.br.lt, s.br.le⟩, ?_, s.eD, s.eb, s.eR⟩
 ·have := s.fr; unfold Cells at *; rw [hk D (by omega) (by omega)]; exact this
 ·obtain ⟨t, ht⟩ := s.br.rd
  exact ⟨t, by unfold Cells at *; rw [hk b (by omega) (by omega)]; exact ht⟩
 ·obtain ⟨x, cs, lo, hh⟩ := s.rg.ex
  refine ⟨x, cs, ⟨?_, ?_, lo.len, lo.n1, lo.n2, lo.xlt, lo.hle, lo.ne⟩, hh⟩
  ·have := lo.hd; unfold Cells at *; rw [hk R (by omega) (by omega)]; exact this
  ·have := lo.row; unfold Cells at *; rw [hk B (by omega) (by omega)]; exact this
theorem Fm.only {B g : Nat} {w u v : World} (h : Fm B w u) (k : Only g u v) (hg : w.heap.size ≤ g) : Fm B w v := ⟨k.os.trans h.os, k.tape.trans h.tape, k.output.trans h.output, by rw [k.size]; exact h.size, fun i hi hk => (k.block i (by omega)).trans (h.block i hi hk)⟩
end Go.Proofs.YtpihipbeagpgpaaGreatDoor

/-
  What the steps of a block's symbols come to: literal, lengthMore, back, backMore, copied.
-/
namespace Go.Proofs.YtpihipbeagpgpaaGreatDoor
open Go.RowKit
set_option linter.unusedVariables false
section
variable {B D b R : Nat} {f : Nat → Value} {bs : List Bool} {most : Nat}
set_option maxHeartbeats 1000000 in
theorem literal_s (w : World) {last : Bool} {lit di : List Nat} {pos : Nat} {out times : List Nat} (hI : Is w B D b R f bs ⟨.sym last lit di, pos, out, times⟩) (hO : Op f) (hm : out.length < most) : StepOk 63 B D b R bs most ⟨.sym last lit di, pos, out, times⟩ w := by
  obtain ⟨k2, k5, k6, k7⟩ := id hI.at_
  have hle' : pos ≤ bs.length := hI.le
  have hm' : Bs w B D b R f (bs.drop pos) (win out) := hI.mem
  have c6 := hm'.cell (show 6 < 355 by decide)
  obtain ⟨v6, hv6⟩ : ∃ v, f 6 = v := ⟨_, rfl⟩
  have k6' := k6
  rw [hv6] at c6 k6'
  have hread := pread_c v6 lit w hm' k6'
  have A : Aside (Is w B D b R f bs ⟨.sym last lit di, pos, out, times⟩ ∧ Op f ∧ out.length < most ∧ pos ≤ bs.length) := ⟨hI, hO, hm, hle'⟩
  have AK : Aside (f 2 = fnv D 63 ∧ f 5 = .bool last ∧ Tbl w B (f 6) lit ∧ Tbl w B (f 7) di) := ⟨k2, k5, k6, k7⟩
  unfold StepOk
  cases hs : sread lit (bs.drop pos) using SR.el with
  | cut =>
    rw [hs] at hread
    have AS : Aside (sread lit (bs.drop pos) = .cut) := hs
    clear hI hO hm hle' hm' k2 k5 k6 k7 k6' hv6 hs
    go_enter Tryz.func63, Tryz.ntmps63
    go_wp2_with (go_at_call 89; refine hread.mono ?_; rintro e2 w2 ⟨hf2, rfl, hb2⟩)
    first | go_ret | go_ret2
    have a := A.out
    refine ⟨false, rfl, hf2, Res.want (a.1.same hf2 hb2) a.2.1 ?_ ?_ (fun y => by simp) (by simp)⟩
    · have := cut_short AS.out AK.out.2.2.1.le15
      rw [List.length_drop] at this
      show bs.length < pos + 32
      omega
    · unfold step
      simp only [AS.out]
  | bad j =>
    rw [hs] at hread
    have AS : Aside (sread lit (bs.drop pos) = .bad j) := hs
    clear hI hO hm hle' hm' k2 k5 k6 k7 k6' hv6 hs
    go_enter Tryz.func63, Tryz.ntmps63
    go_wp2_with (go_at_call 89; refine hread.mono ?_; rintro e2 w2 ⟨hf2, rfl, hb2⟩)
    first | go_ret | go_ret2
    have a := A.out
    refine ⟨false, rfl, hf2, Res.over (c' := ⟨.bad 13, pos + j, out, times⟩) (Runs.one ?_) (a.1.bad a.2.1 hf2 hb2 13 (by decide) rfl rfl rfl rfl rfl rfl) rfl⟩
    unfold step
    simp only [AS.out]
  | got s n =>
    rw [hs] at hread
    have AS : Aside (sread lit (bs.drop pos) = .got s n) := hs
    have hn : Aside (pos + n ≤ bs.length ∧ 0 < n) := ⟨sread_end hs hle', by have := sread_le (ls := lit) (h := bs.drop pos); rw [hs] at this; exact this.2.1⟩
    by_cases h256 : s < 256
    · have hlt : (s : Int) < 256 := by omega
      clear hI hO hm hle' hm' k2 k5 k6 k7 k6' hv6 hs
      have A256 : Aside (s < 256) := h256
      clear h256
      go_enter Tryz.func63, Tryz.ntmps63
      go_wp2_with (first
        | (go_at_call 89; refine hread.mono ?_; rintro e2 w2 ⟨hf2, rfl, hb2⟩
           have hgive := pgive_c (s : Int) w2 hb2)
        | (go_at_call 90; refine hgive.mono ?_; rintro e3 w3 ⟨rfl, hb3, hf3⟩))
      first | go_ret | go_ret2
      have a := A.out
      have q := hn.out
      rw [win_put, List.drop_drop] at hb3
      refine ⟨false, rfl, hf2.trans hf3, Res.gave (c' := ⟨.sym last lit di, pos + n, out ++ [s], times ++ [(pos + n - 1) / 8]⟩) (Runs.one ?_) (a.1.to (hf2.trans hf3) hb3 ⟨AK.out.1, AK.out.2.1, AK.out.2.2.1.fm (hf2.trans hf3), AK.out.2.2.2.fm (hf2.trans hf3)⟩ rfl rfl q.1) rfl a.2.1.done a.2.1.why s rfl rfl⟩
      unfold step
      simp only [AS.out]
      rw [if_pos A256.out, give_lt a.2.2.1]
    · by_cases he : s = 256
      · subst he
        cases last with
        | true =>
          clear hI hO hm hle' hm' k2 k6 k7 k6' hv6 hs h256
          go_enter Tryz.func63, Tryz.ntmps63
          go_wp2_with (first
            | (go_at_call 89; refine hread.mono ?_; rintro e2 w2 ⟨hf2, rfl, hb2⟩
               have hend := end_last w2 hb2 k5)
            | (go_at_call 91; refine hend.mono ?_; rintro e3 w3 ⟨rfl, hb3, hf3⟩))
          first | go_ret | go_ret2
          have a := A.out
          refine ⟨false, rfl, hf2.trans hf3, Res.over (c' := ⟨.done, pos + n, out, times⟩) (Runs.cons (d := ⟨.head true, pos + n, out, times⟩) ?_ (Runs.one rfl)) (a.1.end_ a.2.1 (hf2.trans hf3) hb3 rfl rfl rfl rfl rfl rfl) rfl⟩
          unfold step
          simp only [AS.out]
          rw [if_neg (by decide)]; rfl
        | false =>
          clear hI hO hm hle' hm' k2 k6 k7 k6' hv6 hs h256
          go_enter Tryz.func63, Tryz.ntmps63
          go_wp2_with (first
            | (go_at_call 89; refine hread.mono ?_; rintro e2 w2 ⟨hf2, rfl, hb2⟩
               have hend := end_more w2 hb2 k5)
            | (go_at_call 91; refine hend.mono ?_; rintro e3 w3 ⟨rfl, hb3, hf3⟩))
          first | go_ret | go_ret2
          have a := A.out
          have q := hn.out
          rw [List.drop_drop] at hb3
          refine ⟨true, rfl, hf2.trans hf3, Res.next (c' := ⟨.head false, pos + n, out, times⟩) (Runs.one ?_) (a.1.to (hf2.trans hf3) hb3 rfl rfl rfl q.1) (a.2.1.to rfl rfl rfl) rfl ?_⟩
          · unfold step
            simp only [AS.out]
            rw [if_neg (by decide)]; rfl
          · unfold mu rk
            simp only []
            omega
      · by_cases hbig : 285 < s
        · have h1 : ((s : Int) < 256) = False := eq_false (by omega)
          have h2 : ((s : Int) == 256) = false := by rw [beq_eq_false_iff_ne]; omega
          have h3 : ((29 : Int) ≤ (s : Int) - 257) = True := eq_true (by omega)
          have h4 : (s : Int) < 320 := by have := got_lt hs; have := k6.len; omega
          have AB : Aside (285 < s) := hbig
          clear hI hO hm hle' hm' k2 k5 k6 k7 k6' hv6 hs h256 he hbig
          go_enter Tryz.func63, Tryz.ntmps63
          go_wp2_with (first
            | (go_at_call 89; refine hread.mono ?_; rintro e2 w2 ⟨hf2, rfl, hb2⟩
               have hst := pstop_c 13 w2 hb2)
            | (go_at_call 65; refine hst.mono ?_; rintro e3 w3 ⟨rfl, hb3, hf3⟩))
          first | go_ret | go_ret2
          have a := A.out
          have bb := AB.out
          refine ⟨false, rfl, hf2.trans hf3, Res.over (c' := ⟨.bad 13, pos + n, out, times⟩) (Runs.one ?_) (a.1.bad a.2.1 (hf2.trans hf3) hb3 13 (by decide) rfl rfl rfl rfl rfl rfl) rfl⟩
          unfold step
          simp only [AS.out]
          rw [if_neg (by omega), if_neg (by omega), if_pos bb]
        · have h1 : ((s : Int) < 256) = False := eq_false (by omega)
          have h2 : ((s : Int) == 256) = false := by rw [beq_eq_false_iff_ne]; omega
          have h3 : ((29 : Int) ≤ (s : Int) - 257) = False := eq_false (by omega)
          have h4 : (s : Int) < 320 := by have := got_lt hs; have := k6.len; omega
          have hsi : (s : Int) - 257 = ((s - 257 : Nat) : Int) := by omega
          have AB : Aside (257 ≤ s ∧ s ≤ 285) := ⟨by omega, by omega⟩
          have ASI : Aside ((s : Int) - 257 = ((s - 257 : Nat) : Int)) := hsi
          clear hI hO hm hle' hm' k2 k5 k6 k7 k6' hv6 hs h256 he hbig hsi
          go_enter Tryz.func63, Tryz.ntmps63
          go_wp2_with (first
            | (go_at_call 89; refine hread.mono ?_; rintro e2 w2 ⟨hf2, rfl, hb2⟩
               have c8 := hb2.cell (show 348 < 355 by decide)
               have z8 := hb2.fz 348
               have hth := pthen_c 92 _ (hb2.set 348 (.int .i64 ((s : Int) - 257)) (by decide)))
            | (go_at_call 60; refine hth.mono ?_; rintro e3 w3 ⟨rfl, hb3, hf3⟩))
          first | go_ret | go_ret2
          have a := A.out
          have bb := AB.out
          have q := hn.out
          have hf : Fm B w w3 := (hf2.trans (Fm.of_only ((Only.refl D w2).setCell 348 _) (by have := hb2.eD; omega) (by have := hb2.eD; omega))).trans hf3
          rw [List.drop_drop] at hb3
          refine ⟨true, rfl, hf, Res.next (c' := ⟨.lext last lit di s, pos + n, out, times⟩) (Runs.one ?_) (a.1.to hf hb3 ⟨rfl, AK.out.2.1, AK.out.2.2.1.fm hf, AK.out.2.2.2.fm hf, bb.1, bb.2, ?_⟩ rfl rfl q.1) (a.2.1.to rfl rfl rfl) rfl ?_⟩
          · unfold step
            simp only [AS.out]
            rw [if_neg (by omega), if_neg (by omega), if_neg (by omega)]
          · rw [← ASI.out]; rfl
          · unfold mu rk
            simp only []
            omega
end
end Go.Proofs.YtpihipbeagpgpaaGreatDoor

/-
  What the steps of a block's symbols come to: lengthMore, back, backMore, copied.
-/
namespace Go.Proofs.YtpihipbeagpgpaaGreatDoor
open Go.RowKit
set_option linter.unusedVariables false
theorem plmore_le : ∀ i, i < 29 → lmore (257 + i) ≤ 5 ∧ lbase (257 + i) ≤ 258 := by decide +kernel
theorem pdmore_le : ∀ i, i < 30 → dmore i ≤ 13 ∧ dbase i + 2 ^ dmore i ≤ 32769 ∧ 1 ≤ dbase i := by decide +kernel
section
variable {B D b R : Nat} {f : Nat → Value} {bs : List Bool} {most : Nat}
set_option maxHeartbeats 1000000 in
theorem lengthMore_s (w : World) {last : Bool} {lit di : List Nat} {s pos : Nat} {out times : List Nat} (hI : Is w B D b R f bs ⟨.lext last lit di s, pos, out, times⟩) (hO : Op f) : StepOk 92 B D b R bs most ⟨.lext last lit di s, pos, out, times⟩ w := by
  obtain ⟨k2, k5, k6, k7, k8, k9, k10⟩ := id hI.at_
  have hle' : pos ≤ bs.length := hI.le
  have hm' : Bs w B D b R f (bs.drop pos) (win out) := hI.mem
  obtain ⟨q, hq⟩ : ∃ q, s - 257 = q := ⟨_, rfl⟩
  have hsq : 257 + q = s := by omega
  rw [hq] at k10
  have c0 := (hm'.cell (show 0 < 355 by decide)).trans (congrArg some hm'.c0)
  have c8 := (hm'.cell (show 348 < 355 by decide)).trans (congrArg some k10)
  have t0 := hI.tabs.t0 q (by omega)
  have hl := plmore_le q (by omega)
  rw [hsq] at t0 hl
  obtain ⟨m, hm⟩ : ∃ m, lmore s = m := ⟨_, rfl⟩
  obtain ⟨mb, hmb⟩ : ∃ mb, lbase s = mb := ⟨_, rfl⟩
  rw [hm] at t0
  rw [hm, hmb] at hl
  have hqi : ((q : Int) < 29) = True := eq_true (by omega)
  have hqn : (q < 29) = True := eq_true (by omega)
  have hmw : IntKind.i64.wrap (m : Int) = (m : Int) := by rw [IntKind.wrap_i64]; omega
  have A : Aside (Is w B D b R f bs ⟨.lext last lit di s, pos, out, times⟩ ∧ Op f ∧ pos ≤ bs.length) := ⟨hI, hO, hle'⟩
  have AK : Aside (f 2 = fnv D 92 ∧ f 5 = .bool last ∧ Tbl w B (f 6) lit ∧ Tbl w B (f 7) di) := ⟨k2, k5, k6, k7⟩
  have AM : Aside (lmore s = m ∧ lbase s = mb ∧ m ≤ 5 ∧ mb ≤ 258 ∧ 257 + q = s ∧ f 348 = .int .i64 (q : Int)) := ⟨hm, hmb, hl.1, hl.2, hsq, k10⟩
  have hkeep : Aside (∀ u h', Bs u B D b R f h' (win out) → Fm B w.drew u → u.cell? ⟨D, 0, none⟩ = some (.pointer (some ⟨b, 0, none⟩)) ∧ u.cell? ⟨D, 348, none⟩ = some (.int .i64 (q : Int)) ∧ u.cell? ⟨1, q, none⟩ = some (.int .u8 (m : Int))) := fun u h' hb hf => by
    refine ⟨(hb.cell (show 0 < 355 by decide)).trans (congrArg some hb.c0), (hb.cell (show 348 < 355 by decide)).trans (congrArg some k10), ?_⟩
    have := (hI.tabs.below ((show Fm B w u from ⟨hf.os, hf.tape, hf.output, hf.size, hf.block⟩).below (by have := hm'.lt; omega)) hI.b7).t0 q (by omega)
    rw [hsq, hm] at this
    exact this
  unfold StepOk
  by_cases hshort : (bs.drop pos).length < m
  · have htake := take_short m w.drew hm'.drew hshort
    have AS : Aside ((bs.drop pos).length < m) := hshort
    clear hI hO hle' hm' k2 k5 k6 k7 k8 k9 k10 hq hsq hm hmb hl hshort
    go_enter Tryz.func92, Tryz.ntmps92
    go_upto_region 1 with fail
    go_region_held3 (fun u => u.cell? ⟨D, 0, none⟩ = some (.pointer (some ⟨b, 0, none⟩)) ∧ u.cell? ⟨D, 348, none⟩ = some (.int .i64 (q : Int)) ∧ u.cell? ⟨1, q, none⟩ = some (.int .u8 (m : Int))) (first | assumption | exact ⟨c0, c8, t0⟩)
      (first | (go_at_call 58; refine htake.mono ?_; rintro e2 w2 ⟨rfl, rfl⟩))
    all_goals
      go_wp2_with fail
      first | go_ret | go_ret2
      have a := A.out
      have am := AM.out
      have sh := AS.out
      rw [List.length_drop] at sh
      refine ⟨false, rfl, (Fm.refl B w).drew, Res.want (a.1.same (Fm.refl B w).drew a.1.mem.drew) a.2.1 ?_ ?_ (fun y => by simp) (by simp)⟩
      · show bs.length < pos + 32
        omega
      · unfold step
        simp only [am.1]
        rw [num_no (by omega)]; rfl
  · obtain ⟨v, hv⟩ : ∃ v, nm ((bs.drop pos).take m) = v := ⟨_, rfl⟩
    have hvlt : v < 32 := by
      have := nm_take_lt (bs.drop pos) m
      have h2 : 2 ^ m ≤ 2 ^ 5 := Nat.pow_le_pow_right (by decide) hl.1
      omega
    have htake := take_at m w.drew hm'.drew (by omega) (by omega) v hv
    have AS : Aside (pos + m ≤ bs.length ∧ nm ((bs.drop pos).take m) = v) := ⟨by rw [List.length_drop] at hshort; omega, hv⟩
    have hmbI : (mb : Int) + (v : Int) < 1000 := by omega
    have hf0 : Aside (∀ u, Fm B w.drew u → u.cell? ⟨2, q, none⟩ = some (.int .u16 (mb : Int))) := fun u hf => by
      have := (hI.tabs.below ((show Fm B w u from ⟨hf.os, hf.tape, hf.output, hf.size, hf.block⟩).below (by have := hm'.lt; omega)) hI.b7).t1 q (by omega)
      rw [hsq, hmb] at this
      exact this
    clear hI hO hle' hm' k2 k5 k6 k7 k8 k9 k10 hq hsq hm hmb hl hshort hvlt hv
    go_enter Tryz.func92, Tryz.ntmps92
    go_upto_region 1 with fail
    go_region_held3 (fun u => u.cell? ⟨D, 0, none⟩ = some (.pointer (some ⟨b, 0, none⟩)) ∧ u.cell? ⟨D, 348, none⟩ = some (.int .i64 (q : Int)) ∧ u.cell? ⟨1, q, none⟩ = some (.int .u8 (m : Int))) (first | assumption | exact ⟨c0, c8, t0⟩ | exact hkeep.out _ _ hb2 hf2)
      (first | (go_at_call 58; refine htake.mono ?_; rintro e2 w2 ⟨rfl, hb2, hf2⟩))
    all_goals
      have d0 := hf0.out _ hf2
      have d8 := (hkeep.out _ _ hb2 hf2).2.1
      have d9 := hb2.cell (show 350 < 355 by decide)
      have z9 := hb2.fz 350
      have hth := pthen_c 120 _ (hb2.set 350 (.int .i64 ((mb : Int) + (v : Int))) (by decide))
      clear c0 c8 t0 htake
      go_wp2_with (go_at_call 60; refine hth.mono ?_; rintro e3 w3 ⟨rfl, hb3, hf3⟩)
      first | go_ret | go_ret2
      have a := A.out
      have am := AM.out
      have sh := AS.out
      have hf : Fm B w w3 := ((show Fm B w w2 from ⟨hf2.os, hf2.tape, hf2.output, hf2.size, hf2.block⟩).trans (Fm.of_only ((Only.refl D w2).setCell 350 _) (by have := hb2.eD; omega) (by have := hb2.eD; omega))).trans hf3
      rw [List.drop_drop] at hb3
      refine ⟨true, rfl, hf, Res.next (c' := ⟨.dist last lit di (mb + v), pos + m, out, times⟩) (Runs.one ?_) (a.1.to hf hb3 ⟨rfl, AK.out.2.1, AK.out.2.2.1.fm hf, AK.out.2.2.2.fm hf, ?_⟩ rfl rfl sh.1) (a.2.1.to rfl rfl rfl) rfl ?_⟩
      · unfold step
        simp only [am.1, am.2.1]
        rw [pnum_at sh.1, sh.2]; rfl
      · show Value.int .i64 ((mb : Int) + (v : Int)) = _
        push_cast; rfl
      · unfold mu rk
        simp only []
        omega
set_option maxHeartbeats 1000000 in
theorem back_s (w : World) {last : Bool} {lit di : List Nat} {m pos : Nat} {out times : List Nat} (hI : Is w B D b R f bs ⟨.dist last lit di m, pos, out, times⟩) (hO : Op f) : StepOk 120 B D b R bs most ⟨.dist last lit di m, pos, out, times⟩ w := by
  obtain ⟨k2, k5, k6, k7, k8⟩ := id hI.at_
  have hle' : pos ≤ bs.length := hI.le
  have hm' : Bs w B D b R f (bs.drop pos) (win out) := hI.mem
  have c7 := hm'.cell (show 7 < 355 by decide)
  obtain ⟨v7, hv7⟩ : ∃ v, f 7 = v := ⟨_, rfl⟩
  have k7' := k7
  rw [hv7] at c7 k7'
  have hread := pread_c v7 di w hm' k7'
  have A : Aside (Is w B D b R f bs ⟨.dist last lit di m, pos, out, times⟩ ∧ Op f ∧ pos ≤ bs.length) := ⟨hI, hO, hle'⟩
  have AK : Aside (f 2 = fnv D 120 ∧ f 5 = .bool last ∧ Tbl w B (f 6) lit ∧ Tbl w B (f 7) di ∧ f 350 = .int .i64 (m : Int)) := ⟨k2, k5, k6, k7, k8⟩
  unfold StepOk
  cases hs : sread di (bs.drop pos) using SR.el with
  | cut =>
    rw [hs] at hread
    have AS : Aside (sread di (bs.drop pos) = .cut) := hs
    clear hI hO hle' hm' k2 k5 k6 k7 k7' k8 hv7 hs
    go_enter Tryz.func120, Tryz.ntmps120
    go_wp2_with (go_at_call 89; refine hread.mono ?_; rintro e2 w2 ⟨hf2, rfl, hb2⟩)
    first | go_ret | go_ret2
    have a := A.out
    refine ⟨false, rfl, hf2, Res.want (a.1.same hf2 hb2) a.2.1 ?_ ?_ (fun y => by simp) (by simp)⟩
    · have := cut_short AS.out AK.out.2.2.2.1.le15
      rw [List.length_drop] at this
      show bs.length < pos + 32
      omega
    · unfold step
      simp only [AS.out]
  | bad j =>
    rw [hs] at hread
    have AS : Aside (sread di (bs.drop pos) = .bad j) := hs
    clear hI hO hle' hm' k2 k5 k6 k7 k7' k8 hv7 hs
    go_enter Tryz.func120, Tryz.ntmps120
    go_wp2_with (go_at_call 89; refine hread.mono ?_; rintro e2 w2 ⟨hf2, rfl, hb2⟩)
    first | go_ret | go_ret2
    have a := A.out
    refine ⟨false, rfl, hf2, Res.over (c' := ⟨.bad 13, pos + j, out, times⟩) (Runs.one ?_) (a.1.bad a.2.1 hf2 hb2 13 (by decide) rfl rfl rfl rfl rfl rfl) rfl⟩
    unfold step
    simp only [AS.out]
  | got s n =>
    rw [hs] at hread
    have AS : Aside (sread di (bs.drop pos) = .got s n) := hs
    have hn : Aside (pos + n ≤ bs.length ∧ 0 < n) := ⟨sread_end hs hle', by have := sread_le (ls := di) (h := bs.drop pos); rw [hs] at this; exact this.2.1⟩
    by_cases hbig : 29 < s
    · have h3 : (30 : Int) ≤ (s : Int) := by omega
      have AB : Aside (29 < s) := hbig
      clear hI hO hle' hm' k2 k5 k6 k7 k7' k8 hv7 hs hbig
      go_enter Tryz.func120, Tryz.ntmps120
      go_wp2_with (first
        | (go_at_call 89; refine hread.mono ?_; rintro e2 w2 ⟨hf2, rfl, hb2⟩
           have hst := pstop_c 13 w2 hb2)
        | (go_at_call 65; refine hst.mono ?_; rintro e3 w3 ⟨rfl, hb3, hf3⟩))
      first | go_ret | go_ret2
      have a := A.out
      have bb := AB.out
      refine ⟨false, rfl, hf2.trans hf3, Res.over (c' := ⟨.bad 13, pos + n, out, times⟩) (Runs.one ?_) (a.1.bad a.2.1 (hf2.trans hf3) hb3 13 (by decide) rfl rfl rfl rfl rfl rfl) rfl⟩
      unfold step
      simp only [AS.out]
      rw [if_pos bb]
    · have h3 : ¬ (30 : Int) ≤ (s : Int) := by omega
      have AB : Aside (s ≤ 29) := (show s ≤ 29 by omega)
      clear hI hO hle' hm' k2 k5 k6 k7 k7' k8 hv7 hs hbig
      go_enter Tryz.func120, Tryz.ntmps120
      go_wp2_with (first
        | (go_at_call 89; refine hread.mono ?_; rintro e2 w2 ⟨hf2, rfl, hb2⟩
           have c8 := hb2.cell (show 348 < 355 by decide)
           have z8 := hb2.fz 348
           have hth := pthen_c 136 _ (hb2.set 348 (.int .i64 (s : Int)) (by decide)))
        | (go_at_call 60; refine hth.mono ?_; rintro e3 w3 ⟨rfl, hb3, hf3⟩))
      first | go_ret | go_ret2
      have a := A.out
      have bb := AB.out
      have q := hn.out
      have hf : Fm B w w3 := (hf2.trans (Fm.of_only ((Only.refl D w2).setCell 348 _) (by have := hb2.eD; omega) (by have := hb2.eD; omega))).trans hf3
      rw [List.drop_drop] at hb3
      refine ⟨true, rfl, hf, Res.next (c' := ⟨.dext last lit di m s, pos + n, out, times⟩) (Runs.one ?_) (a.1.to hf hb3 ⟨rfl, AK.out.2.1, AK.out.2.2.1.fm hf, AK.out.2.2.2.1.fm hf, AK.out.2.2.2.2, bb, rfl⟩ rfl rfl q.1) (a.2.1.to rfl rfl rfl) rfl ?_⟩
      · unfold step
        simp only [AS.out]
        rw [if_neg (by omega)]
      · unfold mu rk
        simp only []
        omega
end
end Go.Proofs.YtpihipbeagpgpaaGreatDoor

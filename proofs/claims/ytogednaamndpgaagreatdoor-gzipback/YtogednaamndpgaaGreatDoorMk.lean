/-
  Own texts of this seat, one behind the other: what each says stands ahead of it.
-/
import Derived.Test.YtogednaamndpgaaGreatDoorMj
import Derived.BigRegion
import Derived.Test.YtogednaamndpgaaGreatDoorMe
import Derived.Test.YtogednaamndpgaaGreatDoorMd
import Derived.Laws.IdiomStrings
import Derived.Test.YtogednaamndpgaaGreatDoorMa
import Derived.Deep.LoopGhost
import Derived.BigQuiet
import Derived.OwnWalk
import Derived.Laws.AppendOwn
import Derived.Laws.AppendOwnNone
import Derived.Deep.AppendLies
import Derived.Lib.SliceRun
import Derived.Deep.RegionLaw
import Derived.Test.YtogednaamndpgaaGreatDoorProg
import Derived.WalkSpells
import Derived.OpenShut
import Derived.Below
import Derived.Laws.BitsAllLaws
import Derived.Laws.Bits64
/-
 Wherever the inflater's machine is set out, it comes to stand; asked for more, it goes on as it did. No walk.
-/
namespace Go.Proofs.YtogednaamndpgaaGreatDoor
open Go.RowKit
set_option linter.unusedVariables false
def rnk : St → Nat
 | .inl (.inl (.inl _)) => 1
 | .inl (.inl (.inr (.inl _))) => 1
 | .inl (.inl (.inr (.inr _))) => 2
 | .inl (.inr (.inl (.inl _))) => 1
 | .inl (.inr (.inl (.inr _))) => 5
 | .inl (.inr (.inr (.inl _))) => 4
 | .inl (.inr (.inr (.inr _))) => 1
 | .inr (.inl (.inl (.inl _))) => 3
 | .inr (.inl (.inl (.inr _))) => 9
 | .inr (.inl (.inr (.inl _))) => 8
 | .inr (.inl (.inr (.inr _))) => 7
 | .inr (.inr (.inl (.inl _))) => 6
 | .inr (.inr (.inl (.inr _))) => 0
 | .inr (.inr (.inr _)) => 0
theorem rnk_le (s : St) : rnk s ≤ 9 := by unfold rnk; split <;> decide
section
variable {bs : List Bool} {M N : Nat}
def Falls (M : Nat) (c d : Cfg) : Prop := c.pos < d.pos ∨ (d.pos = c.pos ∧ c.out.length < M ∧ d.out.length = c.out.length + 1) ∨ (d.pos = c.pos ∧ rnk d.st < rnk c.st)
theorem map_falls {p n : Nat} {f : Nat → Cfg} {c d : Cfg} (h : (num? bs p n).map f = some d) (hf : ∀ v, Falls M c (f v)) : Falls M c d := by
 rw [Option.map_eq_some_iff] at h
 obtain ⟨v, hv, rfl⟩ := h
 exact hf v
theorem sread_pos {ls : List Nat} {p s n : Nat} (h : sread ls (bs.drop p) = .got s n) : 0 < n := by
 have hh := sread_le (ls := ls) (h := bs.drop p)
 rw [h] at hh
 exact hh.2.1
theorem step_falls {c d : Cfg} (h : step bs M c = some d) : Falls M c d := by
 obtain ⟨st, pos, out, times⟩ := c
 unfold step at h
 cases st using St.el with
 | head last =>
  cases last with
  | true => simp only [Option.some.injEq] at h; rw [← h]; exact Or.inr (Or.inr ⟨rfl, by simp [rnk]⟩)
  | false => exact map_falls h (fun v => Or.inl (by simp))
 | slen last => exact map_falls h (fun _ => Or.inl (by show pos < (pos + 7) / 8 * 8 + 16; omega))
 | snot last l => exact map_falls h (fun v => Or.inl (by simp))
 | sraw last n =>
  cases n with
  | zero => simp only [Option.some.injEq] at h; rw [← h]; exact Or.inr (Or.inr ⟨rfl, by simp [rnk]⟩)
  | succ n => exact map_falls h (fun _ => Or.inl (by rw [give_pos]; show pos < pos + 8; omega))
 | dnum last => exact map_falls h (fun v => Or.inl (by simp))
 | dfst last a b i j first =>
  simp only [] at h
  split at h
  ·exact map_falls h (fun v => Or.inl (by simp))
  ·simp only [Option.some.injEq] at h; rw [← h]; exact Or.inr (Or.inr ⟨rfl, by simp only []; split <;> simp [rnk]⟩)
 | dsym last a b code l =>
  simp only [] at h
  split at h
  ·cases e : sread code (bs.drop pos) using SR.el with
   | cut => rw [e] at h; cases h
   | bad j =>
    rw [e] at h; simp only [Option.some.injEq] at h; subst h
    by_cases hj : j = 0
    ·subst hj; exact Or.inr (Or.inr ⟨rfl, by simp [rnk]⟩)
    ·exact Or.inl (by show pos < pos + j; omega)
   | got s n => rw [e] at h; simp only [Option.some.injEq] at h; subst h; exact Or.inl (by have := sread_pos e; show pos < pos + n; omega)
  ·simp only [Option.some.injEq] at h; rw [← h]; exact Or.inr (Or.inr ⟨rfl, by simp only []; split <;> simp [rnk]⟩)
 | drep last a b code l s => exact map_falls h (fun v => Or.inl (by show pos < pos + (if s = 16 then 2 else if s = 17 then 3 else 7); (repeat' split) <;> omega))
 | sym last lit di =>
  simp only [] at h
  cases e : sread lit (bs.drop pos) using SR.el with
  | cut => rw [e] at h; cases h
  | bad j =>
   rw [e] at h; simp only [Option.some.injEq] at h; subst h
   by_cases hj : j = 0
   ·subst hj; exact Or.inr (Or.inr ⟨rfl, by simp [rnk]⟩)
   ·exact Or.inl (by show pos < pos + j; omega)
  | got s n =>
   have := sread_pos e
   rw [e] at h
   simp only [] at h
   split at h
   ·simp only [Option.some.injEq] at h; subst h; exact Or.inl (by rw [give_pos]; show pos < pos + n; omega)
   ·simp only [Option.some.injEq] at h; subst h; exact Or.inl (by show pos < pos + n; omega)
 | lext last lit di s =>
  refine map_falls h (fun v => ?_)
  by_cases hj : lmore s = 0
  ·exact Or.inr (Or.inr ⟨by show pos + lmore s = pos; omega, by simp [rnk]⟩)
  ·exact Or.inl (by show pos < pos + lmore s; omega)
 | dist last lit di n =>
  simp only [] at h
  cases e : sread di (bs.drop pos) using SR.el with
  | cut => rw [e] at h; cases h
  | bad j =>
   rw [e] at h; simp only [Option.some.injEq] at h; subst h
   by_cases hj : j = 0
   ·subst hj; exact Or.inr (Or.inr ⟨rfl, by simp [rnk]⟩)
   ·exact Or.inl (by show pos < pos + j; omega)
  | got s n => rw [e] at h; simp only [Option.some.injEq] at h; subst h; exact Or.inl (by have := sread_pos e; show pos < pos + n; omega)
 | dext last lit di n x =>
  refine map_falls h (fun v => ?_)
  by_cases hj : dmore x = 0
  ·exact Or.inr (Or.inr ⟨by show pos + dmore x = pos; omega, by simp only []; split <;> simp [rnk]⟩)
  ·exact Or.inl (by show pos < pos + dmore x; omega)
 | copy last lit di n d =>
  cases n with
  | zero => simp only [Option.some.injEq] at h; rw [← h]; exact Or.inr (Or.inr ⟨rfl, by simp [rnk]⟩)
  | succ n =>
   simp only [Option.some.injEq] at h
   rw [← h]
   unfold give
   split
   ·rename_i hl; exact Or.inr (Or.inl ⟨rfl, hl, by simp⟩)
   ·exact Or.inr (Or.inr ⟨rfl, by simp [rnk]⟩)
 | done => cases h
 | bad y => cases h
theorem adds_len {c d : Cfg} (h : Adds c d) : c.out.length ≤ d.out.length := by
 rcases h with ⟨e, _⟩ | ⟨b, e, _⟩ <;> rw [e] <;> simp
theorem runs_ex : ∀ (n : Nat) (c : Cfg), c.pos ≤ bs.length → c.out.length ≤ M → (bs.length - c.pos) * (10 * (M + 1)) + (M - c.out.length) * 10 + rnk c.st ≤ n → ∃ d, Runs bs M c d ∧ step bs M d = none
 | n, c, hp, ho, hn => by
  cases hs : step bs M c with
  | none => exact ⟨c, Runs.refl c, hs⟩
  | some d =>
   obtain ⟨q1, q2⟩ := step_ends hs hp
   have q3 := step_falls hs
   have q4 := step_most hs ho
   have q5 := adds_len q2
   have hr := rnk_le d.st
   have hlt : (bs.length - d.pos) * (10 * (M + 1)) + (M - d.out.length) * 10 + rnk d.st < (bs.length - c.pos) * (10 * (M + 1)) + (M - c.out.length) * 10 + rnk c.st := by
    rcases q3 with q | ⟨e, h1, h2⟩ | ⟨e, h1⟩
    ·have h3 : bs.length - d.pos + 1 ≤ bs.length - c.pos := by omega
     have h4 := Nat.mul_le_mul_right (10 * (M + 1)) h3
     rw [Nat.add_mul, Nat.one_mul] at h4
     omega
    ·rw [e]; omega
    ·rw [e]; omega
   cases n with
   | zero => omega
   | succ n =>
    obtain ⟨e, h1, h2⟩ := runs_ex n d q1 q4 (by omega)
    exact ⟨e, Runs.cons hs h1, h2⟩
theorem stands_ex (I : List Nat) (M : Nat) : ∃ c, Stands I M c := runs_ex _ c0 (Nat.zero_le _) (Nat.zero_le _) (Nat.le_refl _)
theorem step_more {c d : Cfg} (h : step bs N c = some d) (hN : N ≤ M) : (d.st = .bad 62 ∧ d.out.length = c.out.length ∧ N ≤ c.out.length) ∨ step bs M c = some d := by
 have hg : ∀ (k : St) (b p : Nat) (c : Cfg), ((give N k b p c).st = .bad 62 ∧ (give N k b p c).out.length = c.out.length ∧ N ≤ c.out.length) ∨ give M k b p c = give N k b p c := by
  intro k b p c
  unfold give
  by_cases h1 : c.out.length < N
  ·right; rw [if_pos h1, if_pos (by omega)]
  ·left; rw [if_neg h1]; exact ⟨rfl, rfl, by omega⟩
 obtain ⟨st, pos, out, times⟩ := c
 unfold step at *
 cases st using St.el with
 | head last => cases last <;> exact Or.inr h
 | sraw last n =>
  cases n with
  | zero => exact Or.inr h
  | succ n =>
   simp only [Option.map_eq_some_iff] at h ⊢
   obtain ⟨v, hv, rfl⟩ := h
   rcases hg (.sraw last n) v (pos + 8) ⟨.sraw last (n + 1), pos, out, times⟩ with q | q
   ·exact Or.inl q
   ·exact Or.inr ⟨v, hv, q⟩
 | copy last lit di n d =>
  cases n with
  | zero => exact Or.inr h
  | succ n =>
   simp only [Option.some.injEq] at h ⊢
   subst h
   rcases hg (.copy last lit di n d) (out.getD (out.length - d) 0) pos ⟨.copy last lit di (n + 1) d, pos, out, times⟩ with q | q
   ·exact Or.inl q
   ·exact Or.inr q
 | sym last lit di =>
  simp only [] at h ⊢
  cases e5 : sread lit (bs.drop pos) using SR.el with
  | cut => rw [e5] at h; cases h
  | bad j => rw [e5] at h; exact Or.inr h
  | got s n =>
   rw [e5] at h
   simp only [] at h ⊢
   split at h
   ·rename_i hs
    rw [if_pos hs]
    simp only [Option.some.injEq] at h ⊢
    subst h
    rcases hg (.sym last lit di) s (pos + n) ⟨.sym last lit di, pos, out, times⟩ with q | q
    ·exact Or.inl q
    ·exact Or.inr q
   ·rename_i hs
    rw [if_neg hs]
    exact Or.inr h
 | done => cases h
 | bad y => cases h
 | _ => exact Or.inr h
theorem runs_more {c d : Cfg} (h : Runs bs N c d) (hN : N ≤ M) : (d.st = .bad 62 ∧ N ≤ d.out.length) ∨ Runs bs M c d := by
 induction h using Runs.el with
 | refl => exact Or.inr (Runs.refl _)
 | @cons c x e s1 r ih =>
  rcases ih with q | q
  ·exact Or.inl q
  ·rcases step_more s1 hN with ⟨q1, q2, q3⟩ | q1
   ·left
    have hx : ∀ (K : Nat), step bs K x = none := fun K => by unfold step; rw [q1]
    cases r using Runs.cs with
    | refl => exact ⟨q1, by omega⟩
    | cons h2 _ => rw [hx] at h2; cases h2
   ·exact Or.inr (Runs.cons q1 q)
theorem step_bad {c d : Cfg} {k : Nat} (h : step bs M c = some d) (hd : d.st = .bad k) : (10 ≤ k ∧ k ≤ 14) ∨ (k = 62 ∧ M ≤ d.out.length) := by
 have hg : ∀ (s : St) (b p : Nat) (c : Cfg), s ≠ .bad k → (give M s b p c).st = .bad k → (10 ≤ k ∧ k ≤ 14) ∨ (k = 62 ∧ M ≤ (give M s b p c).out.length) := by
  intro s b p c hk h
  unfold give at *
  by_cases h1 : c.out.length < M
  ·rw [if_pos h1] at h; exact absurd h hk
  ·rw [if_neg h1] at h ⊢
   simp at h
   exact Or.inr ⟨h.symm, by show M ≤ c.out.length; omega⟩
 obtain ⟨st, pos, out, times⟩ := c
 unfold step at h
 cases st using St.el with
 | head last =>
  cases last with
  | true => simp only [Option.some.injEq] at h; subst h; cases hd
  | false =>
   simp only [Option.map_eq_some_iff] at h
   obtain ⟨v, hv, rfl⟩ := h
   simp only [] at hd
   split at hd <;> (first | (simp at hd; done) | (simp at hd; subst hd; exact Or.inl (by decide)))
 | slen last => simp only [Option.map_eq_some_iff] at h; obtain ⟨v, hv, rfl⟩ := h; cases hd
 | snot last l =>
  simp only [Option.map_eq_some_iff] at h
  obtain ⟨v, hv, rfl⟩ := h
  simp only [] at hd
  split at hd <;> (first | (simp at hd; done) | (simp at hd; subst hd; exact Or.inl (by decide)))
 | sraw last n =>
  cases n with
  | zero => simp only [Option.some.injEq] at h; subst h; cases hd
  | succ n =>
   simp only [Option.map_eq_some_iff] at h
   obtain ⟨v, hv, rfl⟩ := h
   exact hg _ _ _ _ (by simp) hd
 | dnum last =>
  simp only [Option.map_eq_some_iff] at h
  obtain ⟨v, hv, rfl⟩ := h
  simp only [] at hd
  split at hd <;> (first | (simp at hd; done) | (simp at hd; subst hd; exact Or.inl (by decide)))
 | dfst last a b i j first =>
  simp only [] at h
  split at h
  ·simp only [Option.map_eq_some_iff] at h; obtain ⟨v, hv, rfl⟩ := h; cases hd
  ·simp only [Option.some.injEq] at h; subst h; simp only [] at hd; split at hd <;> (first | (simp at hd; done) | (simp at hd; subst hd; exact Or.inl (by decide)))
 | dsym last a b code l =>
  simp only [] at h
  split at h
  ·cases e : sread code (bs.drop pos) using SR.el with
   | cut => rw [e] at h; cases h
   | bad j => rw [e] at h; simp only [Option.some.injEq] at h; subst h; (first | (simp at hd; done) | (simp at hd; subst hd; exact Or.inl (by decide)))
   | got s n => rw [e] at h; simp only [Option.some.injEq] at h; subst h; simp only [] at hd; (repeat' split at hd) <;> (first | (simp at hd; done) | (simp at hd; subst hd; exact Or.inl (by decide)))
  ·simp only [Option.some.injEq] at h; subst h; simp only [] at hd; split at hd <;> (first | (simp at hd; done) | (simp at hd; subst hd; exact Or.inl (by decide)))
 | drep last a b code l s =>
  simp only [Option.map_eq_some_iff] at h
  obtain ⟨v, hv, rfl⟩ := h
  simp only [] at hd
  (repeat' split at hd) <;> (first | (simp at hd; done) | (simp at hd; subst hd; exact Or.inl (by decide)))
 | sym last lit di =>
  simp only [] at h
  cases e : sread lit (bs.drop pos) using SR.el with
  | cut => rw [e] at h; cases h
  | bad j => rw [e] at h; simp only [Option.some.injEq] at h; subst h; (first | (simp at hd; done) | (simp at hd; subst hd; exact Or.inl (by decide)))
  | got s n =>
   rw [e] at h
   simp only [] at h
   split at h
   ·simp only [Option.some.injEq] at h; subst h; exact hg _ _ _ _ (by simp) hd
   ·simp only [Option.some.injEq] at h; subst h; simp only [] at hd; (repeat' split at hd) <;> (first | (simp at hd; done) | (simp at hd; subst hd; exact Or.inl (by decide)))
 | lext last lit di s => simp only [Option.map_eq_some_iff] at h; obtain ⟨v, hv, rfl⟩ := h; cases hd
 | dist last lit di n =>
  simp only [] at h
  cases e : sread di (bs.drop pos) using SR.el with
  | cut => rw [e] at h; cases h
  | bad j => rw [e] at h; simp only [Option.some.injEq] at h; subst h; (first | (simp at hd; done) | (simp at hd; subst hd; exact Or.inl (by decide)))
  | got s n => rw [e] at h; simp only [Option.some.injEq] at h; subst h; simp only [] at hd; split at hd <;> (first | (simp at hd; done) | (simp at hd; subst hd; exact Or.inl (by decide)))
 | dext last lit di n x =>
  simp only [Option.map_eq_some_iff] at h
  obtain ⟨v, hv, rfl⟩ := h
  simp only [] at hd
  split at hd <;> (first | (simp at hd; done) | (simp at hd; subst hd; exact Or.inl (by decide)))
 | copy last lit di n d =>
  cases n with
  | zero => simp only [Option.some.injEq] at h; subst h; cases hd
  | succ n => simp only [Option.some.injEq] at h; subst h; exact hg _ _ _ _ (by simp) hd
 | done => cases h
 | bad y => cases h
theorem runs_bad {c d : Cfg} {k : Nat} (h : Runs bs M c d) (hc : c.st ≠ .bad k) (hd : d.st = .bad k) : (10 ≤ k ∧ k ≤ 14) ∨ (k = 62 ∧ M ≤ d.out.length) := by
 induction h using Runs.el with
 | refl => exact absurd hd hc
 | @cons c x e s1 r ih =>
  by_cases hx : x.st = .bad k
  ·have hn : ∀ (K : Nat), step bs K x = none := fun K => by unfold step; rw [hx]
   cases r using Runs.cs with
   | refl => exact step_bad s1 hx
   | cons h2 _ => rw [hn] at h2; cases h2
  ·exact ih hx hd
theorem stands_bad {I : List Nat} {c : Cfg} {k : Nat} (h : Stands I M c) (e : c.st = .bad k) : (10 ≤ k ∧ k ≤ 14) ∨ (k = 62 ∧ M ≤ c.out.length) := runs_bad h.1 (by simp) e
theorem stands_62 {I : List Nat} {c : Cfg} (h : Stands I M c) (hc : c.out.length < M) : c.st ≠ .bad 62 := fun e => by
 have := stands_bad h e
 omega
theorem stands_nil (M : Nat) : Stands [] M c0 := ⟨Runs.refl _, by simp [step, c0, allb, num?]⟩
end
end Go.Proofs.YtogednaamndpgaaGreatDoor

/-
 The document's gzip run in memory, and what its small calls (open, stop, number, is) come to.
-/
namespace Go.Proofs.YtogednaamndpgaaGreatDoor
open Go.RowKit
set_option linter.unusedVariables false
def gcel (e : Gev) : List Value := [.int .i64 (e.1 : Int), .int .i64 (if e.2.1 = 256 then 1 else if e.2.1 = 257 then 3 else 2), .int .u8 (if e.2.1 < 256 then (e.2.1 : Int) else 0), .int .i64 (if e.2.1 = 256 then 2 else 0), .int .i64 0, .string ⟨(e.2.2.map UInt8.ofNat).toArray⟩]
def gcs (l : List Gev) : List Value := l.flatMap gcel
structure Gm (w : World) (base R : Nat) (a : Option Addr) (L C : Nat) (r : Gr) (vE : Value) : Prop where
 cells : Cells w R #[vE, .int .i64 (r.why : Int), .int .i64 (r.sat : Int), .slice a L C, .int .i64 (r.pos : Int), .int .i64 (r.left : Int)] 29
 own : w.ownsRow base 59 6 vE r.ev.length (gcs r.ev)
 le : base ≤ w.heap.size
section
variable {w u : World} {base R L C : Nat} {a : Option Addr} {r : Gr} {vE : Value}
theorem Gm.lt (h : Gm w base R a L C r vE) : R < w.heap.size := h.cells.lt
theorem Gm.drewN (h : Gm w base R a L C r vE) (n : Nat) : Gm (w.drewN n) base R a L C r vE := ⟨h.cells, h.own, h.le⟩
theorem Gm.c1 (h : Gm w base R a L C r vE) : w.cell? ⟨R, 1, none⟩ = some (.int .i64 (r.why : Int)) := (h.cells.cell 1).trans rfl
theorem Gm.c2 (h : Gm w base R a L C r vE) : w.cell? ⟨R, 2, none⟩ = some (.int .i64 (r.sat : Int)) := (h.cells.cell 2).trans rfl
theorem Gm.c3 (h : Gm w base R a L C r vE) : w.cell? ⟨R, 3, none⟩ = some (.slice a L C) := (h.cells.cell 3).trans rfl
theorem Gm.c4 (h : Gm w base R a L C r vE) : w.cell? ⟨R, 4, none⟩ = some (.int .i64 (r.pos : Int)) := (h.cells.cell 4).trans rfl
theorem Gm.c5 (h : Gm w base R a L C r vE) : w.cell? ⟨R, 5, none⟩ = some (.int .i64 (r.left : Int)) := (h.cells.cell 5).trans rfl
theorem Gm.fz (h : Gm w base R a L C r vE) (i : Nat) : w.frozen? ⟨R, i, none⟩ = false := h.cells.frozen i
theorem own_keep {w u : World} {base n : Nat} {v : Value} {xs : List Value} (h : w.ownsRow base 59 6 v n xs) (k : ∀ g, base ≤ g → g < w.heap.size → (∃ cs fr, w.heap[g]? = some (.cells cs 59 fr)) → u.heap[g]? = w.heap[g]?) : u.ownsRow base 59 6 v n xs := by
 refine ⟨h.1, ?_⟩
 rcases h.2 with q | ⟨g, c, cur, hv, hg, hh, q⟩
 ·exact Or.inl q
 ·have hlt : g < w.heap.size := (Array.getElem?_eq_some_iff.1 hh).1
  exact Or.inr ⟨g, c, cur, hv, hg, (k g hg hlt ⟨_, _, hh⟩).trans hh, q⟩
theorem Gm.only (h : Gm w base R a L C r vE) (o : Only R w u) {r' : Gr} (he : r'.ev = r.ev) (hc : Cells u R #[vE, .int .i64 (r'.why : Int), .int .i64 (r'.sat : Int), .slice a L C, .int .i64 (r'.pos : Int), .int .i64 (r'.left : Int)] 29) : Gm u base R a L C r' vE := by
 refine ⟨hc, ?_, by rw [o.size]; exact h.le⟩
 rw [he]
 refine own_keep h.own fun g _ _ ⟨cs, fr, hx⟩ => o.block g (fun e => ?_)
 subst e
 have := h.cells
 unfold Cells at this
 rw [this] at hx
 cases hx
end
section
variable {base R L C : Nat} {a : Option Addr} {r : Gr} {vE : Value}
theorem gopen_c (w : World) (h : Gm w base R a L C r vE) : Calls Tryz.prog 25 #[.pointer (some ⟨R, 0, none⟩)] w fun e w' => e = .returned (.bool (decide (r.why = 0))) ∧ w' = w := by
 have c1 := h.c1
 obtain ⟨y, hy⟩ : ∃ y, r.why = y := ⟨_, rfl⟩
 rw [hy] at c1 ⊢
 clear h hy
 by_cases h0 : y = 0
 ·subst h0
  go_enter Tryz.func25, Tryz.ntmps25
  go_wp2_with fail
  first | go_ret | go_ret2
  exact ⟨rfl, rfl⟩
 ·have t : ((y : Int) == 0) = false := by rw [beq_eq_false_iff_ne]; omega
  rw [decide_eq_false h0]
  clear h0
  go_enter Tryz.func25, Tryz.ntmps25
  go_wp2_with fail
  first | go_ret | go_ret2
  exact ⟨rfl, rfl⟩
theorem gstop_c (y p : Nat) (w : World) (h : Gm w base R a L C r vE) : Calls Tryz.prog 26 #[.pointer (some ⟨R, 0, none⟩), .int .i64 (y : Int), .int .i64 (p : Int)] w fun e w' => e = .returned (.tuple #[]) ∧ Gm w' base R a L C (gstop y p r) vE ∧ Only R w w' := by
 have c1 := h.c1
 have c2 := h.c2
 have z1 := h.fz 1
 have c2' : (w.setCell ⟨R, 1, none⟩ (.int .i64 (y : Int))).cell? ⟨R, 2, none⟩ = some (.int .i64 (r.sat : Int)) := ((h.cells.set 1 _).cell 2).trans rfl
 have z2' : (w.setCell ⟨R, 1, none⟩ (.int .i64 (y : Int))).frozen? ⟨R, 2, none⟩ = false := (h.cells.set 1 _).frozen 2
 have fin : Gm ((w.setCell ⟨R, 1, none⟩ (.int .i64 (y : Int))).setCell ⟨R, 2, none⟩ (.int .i64 (p : Int))) base R a L C (gstop y p r) vE ∧ Only R w ((w.setCell ⟨R, 1, none⟩ (.int .i64 (y : Int))).setCell ⟨R, 2, none⟩ (.int .i64 (p : Int))) := by
  have o : Only R w ((w.setCell ⟨R, 1, none⟩ (.int .i64 (y : Int))).setCell ⟨R, 2, none⟩ (.int .i64 (p : Int))) := ((Only.refl R w).setCell 1 _).setCell 2 _
  exact ⟨h.only o rfl ((h.cells.set 1 _).set 2 _), o⟩
 have AF : Aside (Gm ((w.setCell ⟨R, 1, none⟩ (.int .i64 (y : Int))).setCell ⟨R, 2, none⟩ (.int .i64 (p : Int))) base R a L C (gstop y p r) vE ∧ Only R w ((w.setCell ⟨R, 1, none⟩ (.int .i64 (y : Int))).setCell ⟨R, 2, none⟩ (.int .i64 (p : Int)))) := fin
 clear h fin
 go_enter Tryz.func26, Tryz.ntmps26
 go_wp2_with fail
 first | go_end0 | (refine bodyPost_ret (results_none rfl _ _ _) rfl ?_)
 exact ⟨rfl, AF.out⟩
end
end Go.Proofs.YtogednaamndpgaaGreatDoor

/-
 What the document's number and is come to.
-/
namespace Go.Proofs.YtogednaamndpgaaGreatDoor
open Go.RowKit
set_option linter.unusedVariables false
theorem le_drop {l : List Nat} {k x : Nat} (h : l[k]? = some x) : le (l.drop k) = x + 256 * le (l.drop (k + 1)) := by
 obtain ⟨h1, h2⟩ := List.getElem?_eq_some_iff.1 h
 rw [List.drop_eq_getElem_cons h1, h2]
 rfl
theorem le_small {l : List Nat} (h : ∀ x ∈ l, x < 256) (hl : l.length ≤ 6) : le l < 281474976710656 := by
 have h1 := le_lt l h
 have h2 : 256 ^ l.length ≤ 256 ^ 6 := Nat.pow_le_pow_right (by decide) hl
 omega
section
variable {base R L C : Nat} {a : Option Addr} {r : Gr} {vE : Value}
structure Gn (b : List Nat) (n : Nat) (r : Gr) (base R : Nat) (a : Option Addr) (L C : Nat) (vE : Value) (w : World) (e : Ending) (w' : World) : Prop where
 ex : ∃ v : Int, e = .returned (.int .i64 v) ∧ (n ≤ 6 → v = (gval b n r : Int)) ∧ Gm w' base R a L C (gnum b n r) vE ∧ Only R w w'
set_option maxRecDepth 20000 in
set_option maxHeartbeats 2000000 in
theorem gnum_c (b : List Nat) (n : Nat) (hn : n ≤ 70000) (ho : Oct b) (hL : b.length = L) (hLb : L ≤ 100000000000) (hp : r.pos ≤ L) (w : World) (hx : Lies w a b) (h : Gm w base R a L C r vE) : Calls Tryz.prog 38 #[.pointer (some ⟨R, 0, none⟩), .int .i64 (n : Int)] w fun e w' => Gn b n r base R a L C vE w e w' := by
 have c3 := h.c3
 have c4 := h.c4
 obtain ⟨p, hpp⟩ : ∃ p, r.pos = p := ⟨_, rfl⟩
 rw [hpp] at c4 hp
 obtain ⟨q, hq⟩ : ∃ q, p + n = q := ⟨_, rfl⟩
 have w1 : (p : Int) + (n : Int) = (q : Int) := by omega
 have bq : (q : Int) < 200000000000 := by omega
 have AX : Aside (n ≤ 70000 ∧ Oct b ∧ b.length = L ∧ L ≤ 100000000000 ∧ p ≤ L ∧ r.pos = p ∧ p + n = q ∧ Lies w a b ∧ Gm w base R a L C r vE) := ⟨hn, ho, hL, hLb, hp, hpp, hq, hx, h⟩
 by_cases hc : L < q
 ·have t1 : ((L : Int) < (q : Int)) = True := eq_true (by omega)
  have t2 : (L < q) = True := eq_true hc
  have e1 : gnum b n r = gstop 1 L r := by unfold gnum; rw [hL, hpp, hq, if_pos hc]
  have e2 : gval b n r = 0 := by unfold gval; rw [hL, hpp, hq, if_pos hc]
  have AE : Aside (gnum b n r = gstop 1 L r ∧ gval b n r = 0) := ⟨e1, e2⟩
  have hst : ∀ m, Calls Tryz.prog 26 #[.pointer (some ⟨R, 0, none⟩), .int .i64 1, .int .i64 (L : Int)] (w.drewN m) fun e w' => e = .returned (.tuple #[]) ∧ Gm w' base R a L C (gstop 1 L r) vE ∧ Only R (w.drewN m) w' := fun m => gstop_c 1 L (w.drewN m) (h.drewN m)
  have AS : Aside (∀ m, Calls Tryz.prog 26 #[.pointer (some ⟨R, 0, none⟩), .int .i64 1, .int .i64 (L : Int)] (w.drewN m) fun e w' => e = .returned (.tuple #[]) ∧ Gm w' base R a L C (gstop 1 L r) vE ∧ Only R (w.drewN m) w') := hst
  clear hn ho hL hLb hp hpp hq hx h hc e1 e2 hst
  go_enter Tryz.func38, Tryz.ntmps38
  go_upto_region 1 with fail
  go_quiet (fail)
  have hst := AS.out nq
  have c3' : (w.drewN nq).cell? ⟨R, 3, none⟩ = some (.slice a L C) := c3
  go_wp2_with (go_at_call 26; refine hst.mono ?_; rintro e2 w2 ⟨rfl, g2, o2⟩)
  first | go_ret | go_ret2
  refine ⟨0, rfl, fun _ => by rw [AE.out.2]; rfl, by rw [AE.out.1]; exact g2, ?_⟩
  exact ((Only.refl R w).drewN _).trans o2
 ·have t1 : ((L : Int) < (q : Int)) = False := eq_false (by omega)
  have t2 : (L < q) = False := eq_false hc
  have e1 : gnum b n r = { r with pos := q } := by unfold gnum; rw [hL, hpp, hq, if_neg hc]
  have e2 : gval b n r = le ((b.drop p).take n) := by unfold gval; rw [hL, hpp, hq, if_neg hc]
  obtain ⟨l, hl⟩ : ∃ l, (b.drop p).take n = l := ⟨_, rfl⟩
  have hll : l.length = n := by rw [← hl, List.length_take, List.length_drop]; omega
  have hlo : ∀ x ∈ l, x < 256 := fun x hx' => ho x (List.mem_of_mem_drop (List.mem_of_mem_take (by rw [hl]; exact hx')))
  have hlc : ∀ (k x : Nat), l[k]? = some x → ∃ g o, a = some ⟨g, o, none⟩ ∧ w.cell? ⟨g, o + (p + k), none⟩ = some (.int .u8 (x : Int)) := by
   intro k x hk
   rw [← hl, List.getElem?_take] at hk
   split at hk
   ·rw [List.getElem?_drop] at hk
    rcases hx with e | ⟨g, o, e, hcc⟩
    ·rw [e] at hk; simp at hk
    ·exact ⟨g, o, e, hcc _ _ hk⟩
   ·simp at hk
  rw [hl] at e2
  have AE : Aside (gnum b n r = { r with pos := q } ∧ gval b n r = le l ∧ l.length = n ∧ (∀ x ∈ l, x < 256) ∧ (∀ (k x : Nat), l[k]? = some x → ∃ g o, a = some ⟨g, o, none⟩ ∧ w.cell? ⟨g, o + (p + k), none⟩ = some (.int .u8 (x : Int))) ∧ q ≤ L) := ⟨e1, e2, hll, hlo, hlc, by omega⟩
  clear hn ho hL hLb hp hpp hq hx h hc e1 e2 hl hll hlo hlc
  have bn : (n : Int) < 200000 := by have := AX.out.1; omega
  go_enter Tryz.func38, Tryz.ntmps38
  go_upto_region 1 with fail
  go_quiet (fail)
  have A0 : Aside (∃ m, nq = m) := ⟨_, rfl⟩
  obtain ⟨W1, hW1⟩ : ∃ W1, W1 = w.drewN nq := ⟨_, rfl⟩
  rw [← hW1]
  have AW : Aside (∃ m, W1 = w.drewN m) := ⟨nq, hW1⟩
  have d3 : W1.cell? ⟨R, 3, none⟩ = some (.slice a L C) := by rw [hW1]; exact c3
  have d4 : W1.cell? ⟨R, 4, none⟩ = some (.int .i64 (p : Int)) := by rw [hW1]; exact c4
  clear hW1 c3 c4 A0 t1 t2
  go_upto_region 4 with fail
  go_wp2_with fail
  go_loopg [5, 6] n (fun gg s5 s6 wr => ∃ v z : Int, s5 = .int .i64 v ∧ s6 = .int .i64 z ∧ Aside (z = (gg : Int) - 1 ∧ gg ≤ n ∧ (n ≤ 6 → v = (le (l.drop gg) : Int)) ∧ ∃ m, wr = w.drewN m))
  case atStart =>
   have ae := AE.out
   exact ⟨0, (n : Int) - 1, rfl, rfl, ⟨rfl, Nat.le_refl _, fun _ => by rw [List.drop_eq_nil_of_le (by omega)]; rfl, AW.out⟩⟩
  case round =>
   obtain ⟨v, z, rfl, rfl, hT⟩ := hrel
   obtain ⟨hz, hgn, hv, m0, hm0⟩ := hT.out
   have d3 : wr.cell? ⟨R, 3, none⟩ = some (.slice a L C) := by rw [hm0]; exact AX.out.2.2.2.2.2.2.2.2.c3
   have d4 : wr.cell? ⟨R, 4, none⟩ = some (.int .i64 (p : Int)) := by rw [hm0, ← AX.out.2.2.2.2.2.1]; exact AX.out.2.2.2.2.2.2.2.2.c4
   cases gk with
   | zero =>
    have hz1 : z = -1 := by omega
    subst hz1
    have ax := AX.out
    have ae := AE.out
    have A2 : Aside ((n ≤ 6 → v = (le l : Int)) ∧ ∃ m, wr = w.drewN m) := ⟨fun h => by have := hv h; rwa [List.drop_zero] at this, m0, hm0⟩
    have f4 : wr.frozen? ⟨R, 4, none⟩ = false := by rw [hm0]; exact ax.2.2.2.2.2.2.2.2.fz 4
    have AF : Aside (Gm (wr.setCell ⟨R, 4, none⟩ (.int .i64 (q : Int))) base R a L C (gnum b n r) vE ∧ Only R w (wr.setCell ⟨R, 4, none⟩ (.int .i64 (q : Int)))) := by
     have hg : Gm wr base R a L C r vE := by rw [hm0]; exact ax.2.2.2.2.2.2.2.2.drewN m0
     have o : Only R wr (wr.setCell ⟨R, 4, none⟩ (.int .i64 (q : Int))) := (Only.refl R wr).setCell 4 _
     refine ⟨hg.only o (by rw [ae.1]) ?_, ?_⟩
     ·rw [ae.1]; exact hg.cells.set 4 _
     ·have o2 : Only R w wr := by rw [hm0]; exact (Only.refl R w).drewN m0
      exact o2.trans o
    clear hT hz hgn hv hm0 ax ae
    go_wp2_with fail
    first | go_ret | go_ret2
    exact ⟨v, rfl, fun h => by rw [A2.out.1 h, AE.out.2.1], AF.out⟩
   | succ k =>
    have hz1 : z = (k : Int) := by omega
    subst hz1
    have ae := AE.out
    have ax := AX.out
    obtain ⟨x, hx⟩ : ∃ x, l[k]? = some x := ⟨_, List.getElem?_eq_getElem (by omega)⟩
    have hx256 : x < 256 := ae.2.2.2.1 x (List.mem_of_getElem? hx)
    obtain ⟨g, o, rfl, hcx⟩ := ae.2.2.2.2.1 k x hx
    obtain ⟨e, he⟩ : ∃ e, p + k = e := ⟨_, rfl⟩
    have w2 : (p : Int) + (k : Int) = (e : Int) := by omega
    rw [he] at hcx
    have kx : wr.cell? ⟨g, o + e, none⟩ = some (.int .u8 (x : Int)) := by rw [hm0]; exact hcx
    have be : (e : Int) < 200000000000 := by omega
    have t1 : ((e : Int) < (L : Int)) = True := eq_true (by omega)
    have t2 : (e < L) = True := eq_true (by omega)
    have t3 : ((0 : Int) ≤ (k : Int)) = True := eq_true (by omega)
    have bk : (k : Int) < 200000 := by omega
    obtain ⟨v1, hv1⟩ : ∃ v1, wrap64 (256 * v) = v1 := ⟨_, rfl⟩
    obtain ⟨v2, hv2⟩ : ∃ v2, wrap64 (v1 + (x : Int)) = v2 := ⟨_, rfl⟩
    have bx : (x : Int) < 256 := by omega
    have A2 : Aside (k + 1 ≤ n ∧ (n ≤ 6 → v2 = (le (l.drop k) : Int)) ∧ ∃ m, wr = w.drewN m) := ⟨hgn, fun h => by
     have h1 := hv h
     have h2 := le_drop hx
     have h3 := le_small (l := l.drop k) (fun y hy => ae.2.2.2.1 y (List.mem_of_mem_drop hy)) (by rw [List.length_drop]; omega)
     have e1 : v1 = 256 * v := by rw [← hv1]; unfold wrap64; omega
     rw [← hv2]
     unfold wrap64
     omega, m0, hm0⟩
    have A3 : Aside (wrap64 (v1 + (x : Int)) = v2) := hv2
    clear hT hz hgn hv hm0 ae ax hx hx256 hcx he
    go_upto_region 8 with fail
    go_quiet (fail)
    clear hv1 hv2
    go_wp2_with fail
    have a2 := A2.out
    go_roundg k
    case measure => omega
    case rel =>
     refine ⟨v2, (k : Int) - 1, by rw [A3.out], by go_num, ⟨rfl, by omega, a2.2.1, ?_⟩⟩
     obtain ⟨m1, hm1⟩ := a2.2.2
     exact ⟨m1 + nq, by rw [hm1, World.drewN_drewN]⟩
end
end Go.Proofs.YtogednaamndpgaaGreatDoor

/-
 Strings as lists of bytes. No walk.
-/
namespace Go.Proofs.YtogednaamndpgaaGreatDoor
set_option linter.unusedVariables false
theorem Oct.nil : Oct [] := by simp [Oct]
theorem Oct.append {l m : List Nat} (h : Oct l) (k : Oct m) : Oct (l ++ m) := by
 intro x hx
 rcases List.mem_append.1 hx with e | e
 ·exact h x e
 ·exact k x e
theorem Oct.left {l m : List Nat} (h : Oct (l ++ m)) : Oct l := fun x hx => h x (List.mem_append.2 (Or.inl hx))
theorem Oct.take {l : List Nat} (h : Oct l) (k : Nat) : Oct (l.take k) := fun x hx => h x (List.mem_of_mem_take hx)
theorem Oct.drop {l : List Nat} (h : Oct l) (k : Nat) : Oct (l.drop k) := fun x hx => h x (List.mem_of_mem_drop hx)
def bl (s : ByteArray) : List Nat := s.data.toList.map UInt8.toNat
def st (l : List Nat) : ByteArray := ⟨(l.map UInt8.ofNat).toArray⟩
theorem st_size (l : List Nat) : (st l).size = l.length := by show (List.toArray _).size = _; simp
theorem bl_st {l : List Nat} (h : Oct l) : bl (st l) = l := by
 simp only [bl, st]
 rw [List.map_map]
 conv => rhs; rw [← List.map_id l]
 refine List.map_congr_left fun x hx => ?_
 have := h x hx
 simp; omega
theorem bl_get {s : ByteArray} {k : Nat} (h : k < s.size) : (bl s)[k]? = some (s[k]'h).toNat := by
 have h' : k < s.data.size := h
 unfold bl
 rw [List.getElem?_map, Array.getElem?_toList, Array.getElem?_eq_getElem h']
 rfl
theorem st_get {l : List Nat} {k x : Nat} (ho : Oct l) (hx : l[k]? = some x) (h : k < (st l).size) : ((st l)[k]'h).toNat = x := by
 have e := bl_get h
 rw [bl_st ho, hx] at e
 injection e with e
 exact e.symm
theorem st_inj {l m : List Nat} (hl : Oct l) (hm : Oct m) (h : st l = st m) : l = m := by rw [← bl_st hl, h, bl_st hm]
theorem st_beq {l m : List Nat} (hl : Oct l) (hm : Oct m) : ((st l).toList == (st m).toList) = decide (l = m) := by
 rw [ByteArray.toList_eq, ByteArray.toList_eq, Bool.eq_iff_iff, beq_iff_eq, decide_eq_true_iff]
 refine ⟨fun e => st_inj hl hm ?_, fun e => by rw [e]⟩
 rw [ByteArray.ext_iff]
 exact Array.toList_inj.1 e
theorem Oct.cons {x : Nat} {l : List Nat} (hx : x < 256) (h : Oct l) : Oct (x :: l) := by
 intro y hy
 rcases List.mem_cons.1 hy with e | e
 ·omega
 ·exact h y e
end Go.Proofs.YtogednaamndpgaaGreatDoor

/-
 A part of a slice of bytes. No walk.
-/
namespace Go.Proofs.YtogednaamndpgaaGreatDoor
open Go.RowKit
set_option linter.unusedVariables false
end Go.Proofs.YtogednaamndpgaaGreatDoor

/-
 What the document's is and text come to.
-/
namespace Go.Proofs.YtogednaamndpgaaGreatDoor
open Go.RowKit
set_option linter.unusedVariables false
theorem addr_add (b o j : Nat) : (⟨b, o, none⟩ : Addr).add j = ⟨b, o + j, none⟩ := by unfold Addr.add; split <;> simp_all
theorem conv_st {w : World} {a : Option Addr} {l : List Nat} (L : Nat) (cap : Nat) (hL : l.length = L) (ho : Oct l) (h : Lies w a l) : (convert 22 9 (.slice a L cap)).run Tryz.prog w = .ok (.string (st l)) w := by
 subst hL
 rcases h with rfl | ⟨b, o, rfl, hc⟩
 ·cases a with
  | none =>
   simp [convert, run_underlying Tryz.underlying22, run_underlying Tryz.underlying9, run_underlying Tryz.underlying5, st, Conv.bytesToString]
   rfl
  | some ad =>
   have := run_convert_bytes_back (P := Tryz.prog) w 22 9 5 ad cap [] Tryz.underlying22 Tryz.underlying5 Tryz.underlying9 (by simp)
   exact this
 ·have := run_convert_bytes_back (P := Tryz.prog) w 22 9 5 ⟨b, o, none⟩ cap (l.map UInt8.ofNat) Tryz.underlying22 Tryz.underlying5 Tryz.underlying9 (fun j hj => by
   rw [addr_add]
   have hj' : j < l.length := by simpa using hj
   rw [hc j l[j] (List.getElem?_eq_getElem hj')]
   have := ho l[j] (List.getElem_mem hj')
   simp
   omega)
  rw [List.length_map] at this
  exact this
section
variable {base R L C : Nat} {a : Option Addr} {r : Gr} {vE : Value}
theorem gnum_one {b : List Nat} {r : Gr} (h : r.why = 0) (h0 : (gnum b 1 r).why = 0) : (gnum b 1 r).pos = r.pos + 1 ∧ r.pos < b.length := by
 unfold gnum at h0 ⊢
 split
 ·rename_i hc
  rw [if_pos hc] at h0
  simp [gstop] at h0
 ·exact ⟨rfl, by omega⟩
set_option maxRecDepth 20000 in
set_option maxHeartbeats 2000000 in
theorem gis_c (b : List Nat) (v y : Nat) (hv : v < 1000) (ho : Oct b) (hL : b.length = L) (hLb : L ≤ 100000000000) (hp : r.pos ≤ L) (w : World) (hx : Lies w a b) (h : Gm w base R a L C r vE) : Calls Tryz.prog 56 #[.pointer (some ⟨R, 0, none⟩), .int .i64 (v : Int), .int .i64 (y : Int)] w fun e w' => e = .returned (.tuple #[]) ∧ Gm w' base R a L C (gis b v y r) vE ∧ Only R w w' := by
 have hop := gopen_c w h
 by_cases h0 : r.why = 0
 ·rw [decide_eq_true h0] at hop
  have hn := gnum_c b 1 (by decide) ho hL hLb hp w hx h
  obtain ⟨x, hxv⟩ : ∃ x, gval b 1 r = x := ⟨_, rfl⟩
  obtain ⟨r1, hr1⟩ : ∃ r1, gnum b 1 r = r1 := ⟨_, rfl⟩
  have hop1 : ∀ w1, Gm w1 base R a L C r1 vE → Calls Tryz.prog 25 #[.pointer (some ⟨R, 0, none⟩)] w1 fun e w' => e = .returned (.bool (decide (r1.why = 0))) ∧ w1 = w' := fun w1 h1 => (gopen_c w1 h1).mono fun e w' k => ⟨k.1, k.2.symm⟩
  have hop' : Calls Tryz.prog 25 #[.pointer (some ⟨R, 0, none⟩)] w fun e w' => e = .returned (.bool true) ∧ w = w' := hop.mono fun e w' k => ⟨k.1, k.2.symm⟩
  have hn' : Calls Tryz.prog 38 #[.pointer (some ⟨R, 0, none⟩), .int .i64 1] w fun e w' => e = .returned (.int .i64 (x : Int)) ∧ Gm w' base R a L C r1 vE ∧ Only R w w' := hn.mono fun e w' k => by
   obtain ⟨v', k1, k2, k3, k4⟩ := k.ex
   rw [k2 (by decide), hxv] at k1
   rw [hr1] at k3
   exact ⟨k1, k3, k4⟩
  have hgi : gis b v y r = if x ≠ v ∧ r1.why = 0 then gstop y (r1.pos - 1) r1 else r1 := by unfold gis; rw [if_pos h0, hxv, hr1]
  by_cases hxe : x = v
  ·have t1 : ((x : Int) != (v : Int)) = false := by rw [bne_eq_false_iff_eq]; omega
   rw [if_neg (by rintro ⟨e, _⟩; exact e hxe)] at hgi
   rw [hgi]
   clear hop hn hxv hgi hxe h0 h hop1 hr1 hx hp ho hL hLb hv
   go_enter Tryz.func56, Tryz.ntmps56
   go_wp2_with (first | (go_at_call 25; refine hop'.mono ?_; rintro e1 w1 ⟨rfl, rfl⟩) | (go_at_call 38; refine hn'.mono ?_; rintro e2 w2 ⟨rfl, g2, o2⟩))
   first | go_end0 | (refine bodyPost_ret (results_none rfl _ _ _) rfl ?_)
   exact ⟨rfl, g2, o2⟩
  ·have t1 : ((x : Int) != (v : Int)) = true := by rw [bne_iff_ne]; omega
   by_cases h1 : r1.why = 0
   ·have ap : 1 ≤ r1.pos ∧ r1.pos ≤ 200000000000 := by
     rw [← hr1] at h1 ⊢
     have := gnum_one h0 h1
     omega
    obtain ⟨p1, hp1⟩ : ∃ p1, r1.pos = p1 := ⟨_, rfl⟩
    obtain ⟨q1, hq1⟩ : ∃ q1, p1 - 1 = q1 := ⟨_, rfl⟩
    have w1' : (p1 : Int) - 1 = (q1 : Int) := by omega
    have bq : (q1 : Int) < 300000000000 := by omega
    rw [if_pos ⟨hxe, h1⟩, hp1, hq1] at hgi
    rw [hgi]
    have AH2 : Aside (∀ w1, Gm w1 base R a L C r1 vE → Calls Tryz.prog 25 #[.pointer (some ⟨R, 0, none⟩)] w1 fun e w' => e = .returned (.bool true) ∧ w1 = w') := fun w1 k => by have := hop1 w1 k; rwa [decide_eq_true h1] at this
    have AQ : Aside (r1.pos = p1) := hp1
    clear ap hp1 hq1 h1 hop hn hxv hgi h0 h hop1 hr1 hx hp hxe ho hL hLb hv
    go_enter Tryz.func56, Tryz.ntmps56
    go_wp2_with (first | (go_at_call 25; refine hop'.mono ?_; rintro e1 w1 ⟨rfl, rfl⟩) | (go_at_call 38; refine hn'.mono ?_; rintro e2 w2 ⟨rfl, g2, o2⟩; clear hop' hn'; have hop' := AH2.out w2 g2; have c4 : w2.cell? ⟨R, 4, none⟩ = some (.int .i64 (p1 : Int)) := (by rw [← AQ.out]; exact g2.c4); have hs2 := gstop_c y q1 w2 g2) | (go_at_call 26; refine hs2.mono ?_; rintro e4 w4 ⟨rfl, g4, o4⟩))
    first | go_end0 | (refine bodyPost_ret (results_none rfl _ _ _) rfl ?_)
    exact ⟨rfl, g4, o2.trans o4⟩
   ·rw [if_neg (by rintro ⟨_, e⟩; exact h1 e)] at hgi
    rw [hgi]
    have AH2 : Aside (∀ w1, Gm w1 base R a L C r1 vE → Calls Tryz.prog 25 #[.pointer (some ⟨R, 0, none⟩)] w1 fun e w' => e = .returned (.bool false) ∧ w1 = w') := fun w1 k => by have := hop1 w1 k; rwa [decide_eq_false h1] at this
    clear h1 hop hn hxv hgi h0 h hop1 hr1 hx hp hxe ho hL hLb hv
    go_enter Tryz.func56, Tryz.ntmps56
    go_wp2_with (first | (go_at_call 25; refine hop'.mono ?_; rintro e1 w1 ⟨rfl, rfl⟩) | (go_at_call 38; refine hn'.mono ?_; rintro e2 w2 ⟨rfl, g2, o2⟩; clear hop' hn'; have hop' := AH2.out w2 g2))
    first | go_end0 | (refine bodyPost_ret (results_none rfl _ _ _) rfl ?_)
    exact ⟨rfl, g2, o2⟩
 ·rw [decide_eq_false h0] at hop
  have hgi : gis b v y r = r := by unfold gis; rw [if_neg h0]
  rw [hgi]
  have AG : Aside (Gm w base R a L C r vE) := h
  have hop' : Calls Tryz.prog 25 #[.pointer (some ⟨R, 0, none⟩)] w fun e w' => e = .returned (.bool false) ∧ w = w' := hop.mono fun e w' k => ⟨k.1, k.2.symm⟩
  clear hop hgi h0 h hx hp ho hL hLb hv
  go_enter Tryz.func56, Tryz.ntmps56
  go_wp2_with (go_at_call 25; refine hop'.mono ?_; rintro e1 w1 ⟨rfl, rfl⟩)
  first | go_end0 | (refine bodyPost_ret (results_none rfl _ _ _) rfl ?_)
  exact ⟨rfl, AG.out, Only.refl _ _⟩
end
end Go.Proofs.YtogednaamndpgaaGreatDoor

/-
 Lists of a call's own, of cells of any type and width; append, clear, and what is kept by them.
-/
namespace Go.Proofs.YtogednaamndpgaaGreatDoor
open Go.RowKit
set_option linter.unusedVariables false
structure Ow (w : World) (lo : Nat) (e : TypeId) (sz : Nat) (v : Value) (n : Nat) (xs : List Value) : Prop where
 own : w.ownsRow lo e sz v n xs
 le : lo ≤ w.heap.size
theorem Ow.nil {w : World} {lo sz : Nat} {e : TypeId} (h : lo ≤ w.heap.size) : Ow w lo e sz (.slice none 0 0) 0 [] := ⟨⟨by simp, Or.inl ⟨rfl, rfl⟩⟩, h⟩
section
variable {w u : World} {lo sz n : Nat} {e : TypeId} {v : Value} {l : List Value}
theorem Ow.keep (h : Ow w lo e sz v n l) (hs : w.heap.size ≤ u.heap.size) (k : ∀ g, lo ≤ g → g < w.heap.size → (∃ cs fr, w.heap[g]? = some (.cells cs e fr)) → u.heap[g]? = w.heap[g]?) : Ow u lo e sz v n l := by
 refine ⟨⟨h.own.1, ?_⟩, Nat.le_trans h.le hs⟩
 rcases h.own.2 with q | ⟨g, c, cur, hv, hg, hh, q⟩
 ·exact Or.inl q
 ·have hlt : g < w.heap.size := (Array.getElem?_eq_some_iff.1 hh).1
  exact Or.inr ⟨g, c, cur, hv, hg, (k g hg hlt ⟨_, _, hh⟩).trans hh, q⟩
theorem Ow.below {C : Nat} (h : Ow w lo e sz v n l) (k : Below C w u) (hC : w.heap.size ≤ C) : Ow u lo e sz v n l := h.keep k.size fun g h1 h2 _ => k.block g (by omega)
theorem Ow.drewN (h : Ow w lo e sz v n l) (m : Nat) : Ow (w.drewN m) lo e sz v n l := ⟨h.own, h.le⟩
theorem Ow.drew (h : Ow w lo e sz v n l) : Ow w.drew lo e sz v n l := ⟨h.own, h.le⟩
theorem Ow.set {b i : Nat} {x : Value} {cs : Array Value} {t : TypeId} (h : Ow w lo e sz v n l) (hb : Cells w b cs t) (ht : t ≠ e) : Ow (w.setCell ⟨b, i, none⟩ x) lo e sz v n l :=
 h.keep (by simp [World.setCell]) fun g h1 h2 ⟨cs', fr, hx⟩ => Below.heap_setCell _ _ _ _ (fun hg => by
  subst hg
  unfold Cells at hb
  rw [hb] at hx
  cases hx
  exact ht rfl)
theorem Ow.lt_block (h : Ow w lo e sz v n l) {g : Nat} (hg : v.ownBlock = some g) : lo ≤ g ∧ g < w.heap.size := h.own.lt g hg
theorem Ow.shape (h : Ow w lo e sz v n l) : ∃ a c, v = .slice a n c ∧ n ≤ c ∧ (n = 0 ∨ ∃ g, a = some ⟨g, 0, none⟩ ∧ lo ≤ g ∧ (∃ cs, w.heap[g]? = some (.cells cs e (0, 0))) ∧ (∀ i x, l[i]? = some x → w.cell? ⟨g, i, none⟩ = some x) ∧ ∀ i, w.frozen? ⟨g, i, none⟩ = false) ∧ (a = none → n = 0 ∧ c = 0) := by
 rcases h.own.2 with ⟨hv, h0⟩ | ⟨g, c, cur, hv, hg, hh, hc, hm, hs, ht⟩
 ·refine ⟨none, 0, by rw [hv, h0], by omega, Or.inl h0, fun _ => ⟨h0, rfl⟩⟩
 ·refine ⟨_, c, hv, hc, Or.inr ⟨g, rfl, hg, ⟨_, hh⟩, fun i x hx => ?_, fun i => Cells.frozen (cs := cur) (t := e) hh i⟩, fun h => by cases h⟩
  rw [Cells.cell (cs := cur) (t := e) hh]
  have hi : i < l.length := (List.getElem?_eq_some_iff.1 hx).1
  have e : (cur.toList.take (n * sz))[i]? = some x := by rw [ht, hx]
  rw [List.getElem?_take, if_pos (by have := h.own.1; omega)] at e
  simpa using e
end
structure Got (lo : Nat) (e : TypeId) (sz : Nat) (w w' : World) (v v' : Value) (n : Nat) (xs : List Value) : Prop where
 ow : Ow w' lo e sz v' n xs
 bel : Below lo w w'
 kb : ∀ k, k < w.heap.size → some k ≠ v.ownBlock → w'.heap[k]? = w.heap[k]?
 kp : ∀ k, k < w.heap.size → w'.heap[k]? = w.heap[k]? ∨ (lo ≤ k ∧ ∃ cs, w.heap[k]? = some (.cells cs e (0, 0)))
theorem Got.size {lo sz n : Nat} {e : TypeId} {w w' : World} {v v' : Value} {xs : List Value} (h : Got lo e sz w w' v v' n xs) : w.heap.size ≤ w'.heap.size := h.bel.size
theorem Cells.got {lo sz n b : Nat} {e t : TypeId} {w w' : World} {v v' : Value} {xs : List Value} {cs : Array Value} (h : Cells w b cs t) (k : Got lo e sz w w' v v' n xs) (ht : t ≠ e) : Cells w' b cs t := by
 unfold Cells at *
 have hlt : b < w.heap.size := (Array.getElem?_eq_some_iff.1 h).1
 rcases k.kp b hlt with e1 | ⟨_, cs', e1⟩
 ·rw [e1]; exact h
 ·rw [h] at e1; cases e1; exact absurd rfl ht
theorem Ow.got {lo lo2 sz sz2 n n2 : Nat} {e t : TypeId} {w w' : World} {v v' v2 : Value} {xs ys : List Value} (h : Ow w lo2 t sz2 v2 n2 ys) (k : Got lo e sz w w' v v' n xs) (ht : t ≠ e) : Ow w' lo2 t sz2 v2 n2 ys :=
 h.keep k.size fun g h1 h2 ⟨cs, fr, hx⟩ => by
  rcases k.kp g h2 with e1 | ⟨_, cs', e1⟩
  ·exact e1
  ·rw [hx] at e1; cases e1; exact absurd rfl ht
theorem Got.mk' {lo sz n m : Nat} {e : TypeId} {w w' : World} {v v' : Value} {xs news : List Value} (hown : Ow w lo e sz v n xs) (h2 : w'.ownsRow lo e sz v' (n + m) (xs ++ news)) (h3 : w.grownBy w' v.ownBlock) : Got lo e sz w w' v v' (n + m) (xs ++ news) := by
 have hos : v.ownBlock = none ∨ ∃ g cur, v.ownBlock = some g ∧ lo ≤ g ∧ w.heap[g]? = some (.cells cur e (0, 0)) := by
  rcases hown.own.2 with ⟨rfl, h0⟩ | ⟨g, c, cur, rfl, hg, hh, _⟩
  ·left; rfl
  ·right; exact ⟨g, cur, rfl, hg, hh⟩
 have hb : Below lo w w' := (Below.refl lo w).grown h3 hown.le (fun k hk => by
  rcases hos with h5 | ⟨g, cur, h5, hg, _⟩
  ·rw [h5] at hk; cases hk
  ·rw [h5] at hk; cases hk; exact hg)
 refine ⟨⟨h2, Nat.le_trans hown.le h3.size⟩, hb, fun k hk e => h3.block k hk e, fun k hk => ?_⟩
 by_cases e : some k = v.ownBlock
 ·rcases hos with h5 | ⟨g, cur, h5, hg, hh⟩
  ·rw [h5] at e; cases e
  ·rw [h5] at e
   cases e
   exact Or.inr ⟨hg, cur, hh⟩
 ·exact Or.inl (h3.block k hk e)
section
variable (P : Program) (w : World) {o : Oper} {a : Act}
theorem wpList_ow {ops : Array Oper} {rest : List Oper} {Q : Exit → Act → World → Prop} (hgd : o.guard = none) (s x : Operand) (t : TypeId)
  (ho : o.op = .call { callee := .builtin .append, args := #[s, x], argTypes := #[t, t] }) (e : TypeId) (i : TypeInfo) (z : Value) (sz bytes : Nat) (ht : P.underlying t = some (.slice e)) (hi : P.info? e = some i) (hz0 : i.zero = some z) (hz1 : i.size = sz) (hz2 : i.bytes = bytes) (hz3 : z.cells.size = sz) (hsz : 0 < sz)
  (lo : Nat) (v : Value) (k : Nat) (l : List Value) (hs : a.eval s = v) (hown : Ow w lo e sz v k l)
  (ax : Option Addr) (m : List Value) (n c : Nat) (hnm : m.length = n * sz) (hx : a.eval x = .slice ax n c) (hz : ax = none → n = 0 ∧ c = 0) (hl : m = [] ∨ ∃ b o, ax = some ⟨b, o, none⟩ ∧ ∀ i u, m[i]? = some u → w.cell? ⟨b, o + i, none⟩ = some u) (h1 : ∀ u ∈ m, u.oneCell' = true) (h63 : k + n ≤ maxLen) (hlen : (k + n) * bytes ≤ 140737488355328)
  (h : ∀ v' w', Got lo e sz w w' v v' (k + n) (l ++ m) → wpList P ops Q rest (a.put o.dst v') w') : wpList P ops Q (o :: rest) a w := by
 cases ax with
 | none =>
  obtain ⟨h1, h2⟩ := hz rfl
  subst h1
  have hm : m = [] := List.eq_nil_of_length_eq_zero (by omega)
  subst hm
  subst h2
  refine wpList_append_own_none hgd s x t ho lo e i sz ht hi v _ _ hs hown.own hx (h v w ?_)
  rw [List.append_nil]
  exact ⟨hown, Below.refl _ _, fun _ _ _ => rfl, fun k _ => Or.inl rfl⟩
 | some ad =>
  refine wpList_append_own w hgd s x t ho lo e i z sz bytes ht hi hz0 hz1 hz2 hz3 hsz v _ _ hs hown.own ad n c m hx hnm ?_ h1 h63 hlen hown.le ?_
  ·intro j u hj
   rcases hl with rfl | ⟨b, off, ha, hc⟩
   ·simp at hj
   ·cases ha
    rw [addr_add]
    exact hc j u hj
  ·intro v' w' h2 h3 h4
   exact h v' w' (Got.mk' hown h2 h3)
end
theorem Ow.lies {w : World} {lo n : Nat} {v : Value} {l : List Nat} (h : Ow w lo 5 1 v n (ob l)) : ∃ a c, v = .slice a n c ∧ l.length = n ∧ n ≤ c ∧ Lies w a l ∧ (a = none → n = 0 ∧ c = 0) := by
 obtain ⟨a, c, hv, hc, hq, hz⟩ := h.shape
 have hn : l.length = n := by have := h.own.1; rw [ob_length] at this; omega
 refine ⟨a, c, hv, hn, hc, ?_, hz⟩
 rcases hq with h0 | ⟨g, ha, hg, _, hx, _⟩
 ·exact Or.inl (List.eq_nil_of_length_eq_zero (by omega))
 ·refine Or.inr ⟨g, 0, ha, fun i x hi => ?_⟩
  rw [Nat.zero_add]
  exact hx i _ (by rw [ob_get, hi]; rfl)
theorem drop_more {l : List Nat} {k x : Nat} (hx : l[k]? = some x) : l.drop k = x :: l.drop (k + 1) := by
 obtain ⟨h1, h2⟩ := List.getElem?_eq_some_iff.1 hx
 rw [← h2]
 exact List.drop_eq_getElem_cons h1
theorem Below.drewN2 {B : Nat} {w u : World} (h : Below B w u) (n : Nat) : Below B w (u.drewN n) := ⟨h.1, h.2, h.3, h.size, h.block⟩
end Go.Proofs.YtogednaamndpgaaGreatDoor

/-
 What the document's text comes to.
-/
namespace Go.Proofs.YtogednaamndpgaaGreatDoor
open Go.RowKit
set_option linter.unusedVariables false
section
variable {base R L C : Nat} {a : Option Addr} {r : Gr} {vE : Value}
theorem gz_succ (b : List Nat) (k f m : Nat) (r : Gr) : gz b (k + 1) f m r = if (gnum b 1 r).why ≠ 0 then (gnum b 1 r, []) else if gval b 1 r = 0 then (gnum b 1 r, (b.take ((gnum b 1 r).pos - 1)).drop f) else if 256 < (gnum b 1 r).pos - f then (gstop 46 ((gnum b 1 r).pos - 1) (gnum b 1 r), []) else gz b k f (m + 1) (gnum b 1 r) := rfl
end
end Go.Proofs.YtogednaamndpgaaGreatDoor

/-
 What the document's tell comes to.
-/
namespace Go.Proofs.YtogednaamndpgaaGreatDoor
open Go.RowKit
set_option linter.unusedVariables false
def gk1 (g : Nat) : Int := if g = 256 then 1 else if g = 257 then 3 else 2
def gk2 (g : Nat) : Int := if g < 256 then (g : Int) else 0
def gk3 (g : Nat) : Int := if g = 256 then 2 else 0
def gevv (g : Nat) (nm : List Nat) : Array Value := #[.int .i64 (gk1 g), .int .u8 (gk2 g), .int .i64 (gk3 g), .int .i64 0, .string (st nm)]
structure Fr (lo R : Nat) (w w' : World) : Prop where
 bel : Below lo w w'
 size : w.heap.size ≤ w'.heap.size
 kp : ∀ k, k < w.heap.size → k ≠ R → (∀ cs, w.heap[k]? ≠ some (.cells cs 59 (0, 0))) → w'.heap[k]? = w.heap[k]?
theorem Fr.refl (lo R : Nat) (w : World) : Fr lo R w w := ⟨Below.refl _ _, Nat.le_refl _, fun _ _ _ _ => rfl⟩
theorem Fr.trans {lo R : Nat} {w u v : World} (h : Fr lo R w u) (k : Fr lo R u v) : Fr lo R w v := ⟨h.bel.trans k.bel, Nat.le_trans h.size k.size, fun i h1 h2 h3 => by
 have e := h.kp i h1 h2 h3
 exact (k.kp i (Nat.lt_of_lt_of_le h1 h.size) h2 (by rw [e]; exact h3)).trans e⟩
theorem Fr.of_only {lo R : Nat} {w u : World} (h : Only R w u) (hR : lo ≤ R) : Fr lo R w u := ⟨h.below hR, Nat.le_of_eq h.size.symm, fun k _ hk _ => h.block k hk⟩
theorem Fr.of_below {lo R : Nat} {w u : World} (h : Below w.heap.size w u) (hlo : lo ≤ w.heap.size) : Fr lo R w u := ⟨h.mono hlo, h.size, fun k hk _ _ => h.block k hk⟩
theorem Fr.drewN {lo R : Nat} (w : World) (n : Nat) : Fr lo R w (w.drewN n) := ⟨Below.drewN2 (Below.refl _ w) n, Nat.le_refl _, fun k _ _ _ => rfl⟩
section
variable {w : World} {lo R L C : Nat} {aB : Option Addr} {r : Gr} {v : Value}
theorem Gm.ow (h : Gm w lo R aB L C r v) : Ow w lo 59 6 v r.ev.length (gcs r.ev) := ⟨h.own, h.le⟩
theorem Gm.c0 (h : Gm w lo R aB L C r v) : w.cell? ⟨R, 0, none⟩ = some v := (h.cells.cell 0).trans rfl
theorem Gm.below {u : World} (h : Gm w lo R aB L C r v) (k : Below w.heap.size w u) : Gm u lo R aB L C r v := ⟨h.cells.below k h.cells.lt, (h.ow.below k (Nat.le_refl _)).own, (h.ow.below k (Nat.le_refl _)).le⟩
end
end Go.Proofs.YtogednaamndpgaaGreatDoor

/-
 What oneBit, product and the function that squares come to: a move, a product of registers, the power that was told last and its square laid by.
 Conditions: registers are numbers of 32 bits; the cell that holds the power can be written.
-/
namespace Go.Proofs.YtogednaamndpgaaGreatDoor
open Go.RowKit
set_option linter.unusedVariables false
theorem x32 (a b : Nat) (ha : a < 4294967296) (hb : b < 4294967296) : bits .xor .u32 (a : Int) (b : Int) = ((a ^^^ b : Nat) : Int) := u32_xor_nat a b ha hb
theorem xpoly (a : Nat) (ha : a < 4294967296) : bits .xor .u32 (a : Int) 3988292384 = ((a ^^^ 3988292384 : Nat) : Int) := by
 rw [show (3988292384 : Int) = ((3988292384 : Nat) : Int) from rfl, x32 a _ ha (by decide)]

end Go.Proofs.YtogednaamndpgaaGreatDoor

/-
 What Step and Sum come to, where the table holds its 16 numbers: the sum with one byte more, the sum of a list of bytes.
 Conditions: the sum is a number of 32 bits, the bytes lie side by side.
-/
namespace Go.Proofs.YtogednaamndpgaaGreatDoor
open Go.RowKit
set_option linter.unusedVariables false

def Ctab (w : World) : Prop := ∀ i, i < 16 → w.cell? ⟨0, i, none⟩ = some (.int .u32 (tb.getD i 0 : Nat))
theorem Ctab.lt {w : World} (h : Ctab w) : 0 < w.heap.size := World.block_lt_of_cell? w ⟨0, 0, none⟩ (h 0 (by decide))
theorem Ctab.below {w u : World} {B : Nat} (h : Ctab w) (k : Below B w u) (hB : 0 < B) : Ctab u := fun i hi => (k.cell (p := ⟨0, i, none⟩) hB).trans (h i hi)
theorem Ctab.drew {w : World} (h : Ctab w) : Ctab w.drew := h
theorem tb_lt : ∀ i : _root_.Fin 16, tb.getD i.val 0 < 4294967296 := by decide +kernel
theorem and15 (x : Nat) (hx : x < 256) : bits .and .u8 (x : Int) 15 = ((x % 16 : Nat) : Int) := by
 rw [show (15 : Int) = ((15 : Nat) : Int) from rfl, u8_and_nat x 15 hx (by decide), show (15 : Nat) = 2 ^ 4 - 1 from rfl, Nat.and_two_pow_sub_one_eq_mod]
set_option maxHeartbeats 1000000 in
theorem four_c (x : Nat) (hx : x < 4294967296) (w : World) (hT : Ctab w) :
  Calls Tryz.prog 75 #[.int .u32 x] w fun e w' => e = .returned (.int .u32 (mvs 4 x : Nat)) ∧ w = w' := by
 have h1 := and15 (x % 256) (Nat.mod_lt _ (by decide))
 have hc := hT (x % 16) (Nat.mod_lt _ (by decide))
 have hl := tb_lt ⟨x % 16, Nat.mod_lt _ (by decide)⟩
 have h4 := four_eq x
 dsimp only at hl
 obtain ⟨t, ht⟩ : ∃ t, tb.getD (x % 16) 0 = t := ⟨_, rfl⟩
 rw [ht] at hc hl h4
 have hx2 := x32 (x / 16) t (by omega) hl
 rw [show x % 256 % 16 = x % 16 by omega] at h1
 have h16 : x % 16 < 16 := Nat.mod_lt _ (by decide)
 obtain ⟨y, hy⟩ : ∃ y, x % 16 = y := ⟨_, rfl⟩
 rw [hy] at hc h1 h16
 go_enter Tryz.func75, Tryz.ntmps75
 go_wp2_with fail
 go_ret
 exact ⟨by rw [← h4, ← hx2]; push_cast; rfl, rfl⟩
theorem not32 (x : Nat) (hx : x < 4294967296) : bits .xor .u32 IntKind.u32.max (x : Int) = ((x ^^^ 4294967295 : Nat) : Int) := by
 rw [show IntKind.u32.max = ((4294967295 : Nat) : Int) from rfl, x32 _ x (by decide) hx, Nat.xor_comm]
set_option maxHeartbeats 1000000 in
theorem step_c (s b : Nat) (hs : s < 4294967296) (hb : b < 256) (w : World) (hT : Ctab w) :
  Calls Tryz.prog 44 #[.int .u32 s, .int .u8 b] w fun e w' => e = .returned (.int .u32 (stp s b : Nat)) ∧ w = w' := by
 have hsg : IntKind.u32.signed = false := rfl
 have h1 := not32 s hs
 have e : stp s b = mvs 4 (mvs 4 (s ^^^ 4294967295 ^^^ b)) ^^^ 4294967295 := by rw [← mvs_add]; rfl
 rw [e]
 clear e
 obtain ⟨n, hn⟩ : ∃ n, s ^^^ 4294967295 = n := ⟨_, rfl⟩
 have hnl : n < 4294967296 := by rw [← hn]; exact xor_lt32 hs (by decide)
 rw [hn] at h1 ⊢
 have h2 := x32 n b hnl (by omega)
 obtain ⟨x, hx⟩ : ∃ x, n ^^^ b = x := ⟨_, rfl⟩
 have hxl : x < 4294967296 := by rw [← hx]; exact xor_lt32 hnl (by omega)
 rw [hx] at h2 ⊢
 clear hn hx
 have hyl := mvs_lt 4 hxl
 have hzl := mvs_lt 4 hyl
 have h3 := not32 _ hzl
 go_enter Tryz.func44, Tryz.ntmps44
 go_wp2_with fail
 refine (four_c x hxl w hT).mono ?_
 rintro e w' ⟨rfl, rfl⟩
 go_wp2_with fail
 refine (four_c (mvs 4 x) hyl w hT).mono ?_
 rintro e w' ⟨rfl, rfl⟩
 go_wp2_with fail
 go_ret
 exact ⟨by rw [← h3]; rfl, rfl⟩
theorem moved_c (x : Nat) (hx : x < 4294967296) (w : World) :
  Calls Tryz.prog 78 #[.int .u32 x] w fun e w' => e = .returned (.int .u32 (mv x : Nat)) ∧ w = w' := by
 have h2 := xpoly (x / 2) (by omega)
 go_enter Tryz.func78, Tryz.ntmps78
 rcases Nat.mod_two_eq_zero_or_one x with hm | hm
 ·have e : mv x = x / 2 := by unfold mv; rw [if_neg (by omega)]
  have h1 : (x : Int) % 2 = 0 := by omega
  go_wp2
  all_goals go_ret
  all_goals exact ⟨by rw [e]; go_num, rfl⟩
 ·have e : mv x = x / 2 ^^^ 3988292384 := by unfold mv; rw [if_pos hm]
  have h1 : (x : Int) % 2 = 1 := by omega
  go_wp2
  all_goals go_ret
  all_goals exact ⟨by rw [e, ← h2]; go_num, rfl⟩
set_option maxHeartbeats 1000000 in
theorem rstep_c (s b : Nat) (hs : s < 4294967296) (hb : b < 256) (w : World) :
  Calls Tryz.prog 49 #[.int .u32 s, .int .u8 b] w fun e w' => e = .returned (.int .u32 (stp s b : Nat)) ∧ w = w' := by
 have hsg : IntKind.u32.signed = false := rfl
 have h1 := not32 s hs
 have e : stp s b = mvs 8 (s ^^^ 4294967295 ^^^ b) ^^^ 4294967295 := rfl
 rw [e]
 clear e
 obtain ⟨n, hn⟩ : ∃ n, s ^^^ 4294967295 = n := ⟨_, rfl⟩
 have hnl : n < 4294967296 := by rw [← hn]; exact xor_lt32 hs (by decide)
 rw [hn] at h1 ⊢
 have h2 := x32 n b hnl (by omega)
 obtain ⟨x, hx⟩ : ∃ x, n ^^^ b = x := ⟨_, rfl⟩
 have hxl : x < 4294967296 := by rw [← hx]; exact xor_lt32 hnl (by omega)
 rw [hx] at h2 ⊢
 clear hn hx
 go_enter Tryz.func49, Tryz.ntmps49
 go_wp2_with fail
 go_loopg [5, 6] 8 (fun g sx si wr => ∃ i : Nat, i + g = 8 ∧ si = .int .i64 i ∧ sx = .int .u32 (mvs i x : Nat) ∧ w = wr)
 case atStart => exact ⟨0, rfl, rfl, rfl, rfl⟩
 case round =>
  obtain ⟨i, hi, rfl, rfl, rfl⟩ := hrel
  have hml := mvs_lt i hxl
  by_cases hl : i < 8
  ·go_wp2_with (go_at_call 78; refine (moved_c (mvs i x) hml _).mono ?_; rintro e3 w3 ⟨rfl, rfl⟩)
   go_roundg (7 - i)
   case measure => omega
   case rel => exact ⟨i + 1, by omega, by go_num, by rw [mv_mvs]; rfl, rfl⟩
  ·have hi2 : i = 8 := by omega
   rw [hi2] at hml ⊢
   have h3 := not32 _ hml
   go_wp2_with fail
   go_ret
   exact ⟨by rw [← h3]; rfl, rfl⟩
theorem Lies.drew {w : World} {a : Option Addr} {l : List Nat} (h : Lies w a l) : Lies w.drew a l := h
theorem Lies.drewN {w : World} {a : Option Addr} {l : List Nat} (h : Lies w a l) (n : Nat) : Lies (w.drewN n) a l := h
theorem sm_take (l : List Nat) (k x : Nat) (h : l[k]? = some x) : sm 0 (l.take (k + 1)) = stp (sm 0 (l.take k)) x := by
 obtain ⟨hk, he⟩ := List.getElem?_eq_some_iff.1 h
 rw [List.take_succ_eq_append_getElem hk, sm_append, he]; rfl
theorem Oct.sm_lt {l : List Nat} (h : Oct l) : sm 0 l < 4294967296 := YtogednaamndpgaaGreatDoor.sm_lt l (by decide) h
set_option maxHeartbeats 1000000 in
theorem rsum_c (a : Option Addr) (l : List Nat) (cap : Nat) (w : World) (hb : Oct l) (hl : l.length < 9223372036854775808) (h : Lies w a l) :
  Calls Tryz.prog 33 #[.slice a l.length cap] w fun e w' => e = .returned (.int .u32 (sm 0 l : Nat)) ∧ w = w' := by
 obtain ⟨L, hL⟩ : ∃ L, l.length = L := ⟨_, rfl⟩
 have AL : Aside (l.length = L ∧ L < 9223372036854775808) := ⟨hL, by omega⟩
 rw [hL]
 clear hL hl
 go_enter Tryz.func33, Tryz.ntmps33
 go_wp2_with fail
 go_loopg [3, 4] L (fun g sx si wr => ∃ k : Nat, k + g = L ∧ si = .int .i64 k ∧ sx = .int .u32 (sm 0 (l.take k) : Nat) ∧ w = wr)
 case atStart => exact ⟨0, by omega, rfl, by rw [List.take_zero]; rfl, rfl⟩
 case round =>
  obtain ⟨k, hk, rfl, rfl, rfl⟩ := hrel
  have hsl := (hb.take k).sm_lt
  by_cases hlt : k < L
  ·have hki : (k : Int) < (L : Int) := by omega
   have hkl : k < l.length := by rw [AL.out.1]; exact hlt
   have hx := List.getElem?_eq_getElem hkl
   have hx2 := hb _ (List.getElem_mem hkl)
   obtain ⟨x, hxx⟩ : ∃ x, l[k] = x := ⟨_, rfl⟩
   rw [hxx] at hx hx2
   have AX : Aside (sm 0 (l.take (k + 1)) = stp (sm 0 (l.take k)) x) := sm_take l k x hx
   have AK : Aside (k + gk = L) := hk
   have hkb : (k : Int) + 1 < 9223372036854775808 := by have := AL.out; omega
   rcases h with rfl | ⟨b, o, rfl, hc⟩
   ·simp at hkl
   have hcell := hc k x hx
   clear hc hx hxx hkl hk
   obtain ⟨s, hs⟩ : ∃ s, sm 0 (l.take k) = s := ⟨_, rfl⟩
   rw [hs] at hsl AX ⊢
   clear hs
   go_wp2_with (go_at_call 49; refine (rstep_c s x hsl hx2 _).mono ?_; rintro e3 w3 ⟨rfl, rfl⟩)
   have hk := AK.out
   go_roundg (gk - 1)
   case measure => omega
   case rel => exact ⟨k + 1, by omega, by go_num, by rw [AX.out], rfl⟩
  ·have hki : ¬ (k : Int) < (L : Int) := by omega
   have hk2 : l.take k = l := List.take_of_length_le (by have := AL.out; omega)
   rw [hk2]
   clear hk2
   go_wp2_with fail
   go_ret
   exact ⟨rfl, rfl⟩
end Go.Proofs.YtogednaamndpgaaGreatDoor

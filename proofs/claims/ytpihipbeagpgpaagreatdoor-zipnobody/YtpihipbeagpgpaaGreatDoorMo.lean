/-
  Own texts of this seat, one behind the other: what each says stands ahead of it.
-/
import Derived.Test.YtpihipbeagpgpaaGreatDoorMj
import Derived.Test.YtpihipbeagpgpaaGreatDoorMl
import Derived.Test.YtpihipbeagpgpaaGreatDoorMn
import Derived.Deep.QuietTactic
/-
 Wherever the inflater's machine is set out, it comes to stand; asked for more, it goes on as it did. No walk.
-/
namespace Go.Proofs.YtpihipbeagpgpaaGreatDoor
open Go.RowKit
set_option linter.unusedVariables false
def rnk : St → Nat
 | .inl (.inl (.inl _)) => 1
 | .inl (.inl (.inr (.inl _))) => 1
 | .inl (.inl (.inr (.inr _))) => 2
 | .inl (.inr (.inl (.inl _))) => 1
 | .inl (.inr (.inl (.inr _))) => 5
 | .inl (.inr (.inr (.inl _))) => 4
 | .inl (.inr (.inr (.inr _))) => 1
 | .inr (.inl (.inl (.inl _))) => 3
 | .inr (.inl (.inl (.inr _))) => 9
 | .inr (.inl (.inr (.inl _))) => 8
 | .inr (.inl (.inr (.inr _))) => 7
 | .inr (.inr (.inl (.inl _))) => 6
 | .inr (.inr (.inl (.inr _))) => 0
 | .inr (.inr (.inr _)) => 0
theorem rnk_le (s : St) : rnk s ≤ 9 := by unfold rnk; split <;> decide
section
variable {bs : List Bool} {M N : Nat}
def Falls (M : Nat) (c d : Cfg) : Prop := c.pos < d.pos ∨ (d.pos = c.pos ∧ c.out.length < M ∧ d.out.length = c.out.length + 1) ∨ (d.pos = c.pos ∧ rnk d.st < rnk c.st)
theorem map_falls {p n : Nat} {f : Nat → Cfg} {c d : Cfg} (h : (num? bs p n).map f = some d) (hf : ∀ v, Falls M c (f v)) : Falls M c d := by
 rw [Option.map_eq_some_iff] at h
 obtain ⟨v, hv, rfl⟩ := h
 exact hf v
theorem sread_pos {ls : List Nat} {p s n : Nat} (h : sread ls (bs.drop p) = .got s n) : 0 < n := by
 have hh := sread_le (ls := ls) (h := bs.drop p)
 rw [h] at hh
 exact hh.2.1
theorem step_falls {c d : Cfg} (h : step bs M c = some d) : Falls M c d := by
 obtain ⟨st, pos, out, times⟩ := c
 unfold step at h
 cases st using St.el with
 | head last =>
  cases last with
  | true => simp only [Option.some.injEq] at h; rw [← h]; exact Or.inr (Or.inr ⟨rfl, by simp [rnk]⟩)
  | false => exact map_falls h (fun v => Or.inl (by simp))
 | slen last => exact map_falls h (fun _ => Or.inl (by show pos < (pos + 7) / 8 * 8 + 16; omega))
 | snot last l => exact map_falls h (fun v => Or.inl (by simp))
 | sraw last n =>
  cases n with
  | zero => simp only [Option.some.injEq] at h; rw [← h]; exact Or.inr (Or.inr ⟨rfl, by simp [rnk]⟩)
  | succ n => exact map_falls h (fun _ => Or.inl (by rw [give_pos]; show pos < pos + 8; omega))
 | dnum last => exact map_falls h (fun v => Or.inl (by simp))
 | dfst last a b i j first =>
  simp only [] at h
  split at h
  ·exact map_falls h (fun v => Or.inl (by simp))
  ·simp only [Option.some.injEq] at h; rw [← h]; exact Or.inr (Or.inr ⟨rfl, by simp only []; split <;> simp [rnk]⟩)
 | dsym last a b code l =>
  simp only [] at h
  split at h
  ·cases e : sread code (bs.drop pos) using SR.el with
   | cut => rw [e] at h; cases h
   | bad j =>
    rw [e] at h; simp only [Option.some.injEq] at h; subst h
    by_cases hj : j = 0
    ·subst hj; exact Or.inr (Or.inr ⟨rfl, by simp [rnk]⟩)
    ·exact Or.inl (by show pos < pos + j; omega)
   | got s n => rw [e] at h; simp only [Option.some.injEq] at h; subst h; exact Or.inl (by have := sread_pos e; show pos < pos + n; omega)
  ·simp only [Option.some.injEq] at h; rw [← h]; exact Or.inr (Or.inr ⟨rfl, by simp only []; split <;> simp [rnk]⟩)
 | drep last a b code l s => exact map_falls h (fun v => Or.inl (by show pos < pos + (if s = 16 then 2 else if s = 17 then 3 else 7); (repeat' split) <;> omega))
 | sym last lit di =>
  simp only [] at h
  cases e : sread lit (bs.drop pos) using SR.el with
  | cut => rw [e] at h; cases h
  | bad j =>
   rw [e] at h; simp only [Option.some.injEq] at h; subst h
   by_cases hj : j = 0
   ·subst hj; exact Or.inr (Or.inr ⟨rfl, by simp [rnk]⟩)
   ·exact Or.inl (by show pos < pos + j; omega)
  | got s n =>
   have := sread_pos e
   rw [e] at h
   simp only [] at h
   split at h
   ·simp only [Option.some.injEq] at h; subst h; exact Or.inl (by rw [give_pos]; show pos < pos + n; omega)
   ·simp only [Option.some.injEq] at h; subst h; exact Or.inl (by show pos < pos + n; omega)
 | lext last lit di s =>
  refine map_falls h (fun v => ?_)
  by_cases hj : lmore s = 0
  ·exact Or.inr (Or.inr ⟨by show pos + lmore s = pos; omega, by simp [rnk]⟩)
  ·exact Or.inl (by show pos < pos + lmore s; omega)
 | dist last lit di n =>
  simp only [] at h
  cases e : sread di (bs.drop pos) using SR.el with
  | cut => rw [e] at h; cases h
  | bad j =>
   rw [e] at h; simp only [Option.some.injEq] at h; subst h
   by_cases hj : j = 0
   ·subst hj; exact Or.inr (Or.inr ⟨rfl, by simp [rnk]⟩)
   ·exact Or.inl (by show pos < pos + j; omega)
  | got s n => rw [e] at h; simp only [Option.some.injEq] at h; subst h; exact Or.inl (by have := sread_pos e; show pos < pos + n; omega)
 | dext last lit di n x =>
  refine map_falls h (fun v => ?_)
  by_cases hj : dmore x = 0
  ·exact Or.inr (Or.inr ⟨by show pos + dmore x = pos; omega, by simp only []; split <;> simp [rnk]⟩)
  ·exact Or.inl (by show pos < pos + dmore x; omega)
 | copy last lit di n d =>
  cases n with
  | zero => simp only [Option.some.injEq] at h; rw [← h]; exact Or.inr (Or.inr ⟨rfl, by simp [rnk]⟩)
  | succ n =>
   simp only [Option.some.injEq] at h
   rw [← h]
   unfold give
   split
   ·rename_i hl; exact Or.inr (Or.inl ⟨rfl, hl, by simp⟩)
   ·exact Or.inr (Or.inr ⟨rfl, by simp [rnk]⟩)
 | done => cases h
 | bad y => cases h
theorem adds_len {c d : Cfg} (h : Adds c d) : c.out.length ≤ d.out.length := by
 rcases h with ⟨e, _⟩ | ⟨b, e, _⟩ <;> rw [e] <;> simp
theorem runs_ex : ∀ (n : Nat) (c : Cfg), c.pos ≤ bs.length → c.out.length ≤ M → (bs.length - c.pos) * (10 * (M + 1)) + (M - c.out.length) * 10 + rnk c.st ≤ n → ∃ d, Runs bs M c d ∧ step bs M d = none
 | n, c, hp, ho, hn => by
  cases hs : step bs M c with
  | none => exact ⟨c, Runs.refl c, hs⟩
  | some d =>
   obtain ⟨q1, q2⟩ := step_ends hs hp
   have q3 := step_falls hs
   have q4 := step_most hs ho
   have q5 := adds_len q2
   have hr := rnk_le d.st
   have hlt : (bs.length - d.pos) * (10 * (M + 1)) + (M - d.out.length) * 10 + rnk d.st < (bs.length - c.pos) * (10 * (M + 1)) + (M - c.out.length) * 10 + rnk c.st := by
    rcases q3 with q | ⟨e, h1, h2⟩ | ⟨e, h1⟩
    ·have h3 : bs.length - d.pos + 1 ≤ bs.length - c.pos := by omega
     have h4 := Nat.mul_le_mul_right (10 * (M + 1)) h3
     rw [Nat.add_mul, Nat.one_mul] at h4
     omega
    ·rw [e]; omega
    ·rw [e]; omega
   cases n with
   | zero => omega
   | succ n =>
    obtain ⟨e, h1, h2⟩ := runs_ex n d q1 q4 (by omega)
    exact ⟨e, Runs.cons hs h1, h2⟩
theorem stands_ex (I : List Nat) (M : Nat) : ∃ c, Stands I M c := runs_ex _ c0 (Nat.zero_le _) (Nat.zero_le _) (Nat.le_refl _)
theorem step_bad {c d : Cfg} {k : Nat} (h : step bs M c = some d) (hd : d.st = .bad k) : (10 ≤ k ∧ k ≤ 14) ∨ (k = 62 ∧ M ≤ d.out.length) := by
 have hg : ∀ (s : St) (b p : Nat) (c : Cfg), s ≠ .bad k → (give M s b p c).st = .bad k → (10 ≤ k ∧ k ≤ 14) ∨ (k = 62 ∧ M ≤ (give M s b p c).out.length) := by
  intro s b p c hk h
  unfold give at *
  by_cases h1 : c.out.length < M
  ·rw [if_pos h1] at h; exact absurd h hk
  ·rw [if_neg h1] at h ⊢
   simp at h
   exact Or.inr ⟨h.symm, by show M ≤ c.out.length; omega⟩
 obtain ⟨st, pos, out, times⟩ := c
 unfold step at h
 cases st using St.el with
 | head last =>
  cases last with
  | true => simp only [Option.some.injEq] at h; subst h; cases hd
  | false =>
   simp only [Option.map_eq_some_iff] at h
   obtain ⟨v, hv, rfl⟩ := h
   simp only [] at hd
   split at hd <;> (first | (simp at hd; done) | (simp at hd; subst hd; exact Or.inl (by decide)))
 | slen last => simp only [Option.map_eq_some_iff] at h; obtain ⟨v, hv, rfl⟩ := h; cases hd
 | snot last l =>
  simp only [Option.map_eq_some_iff] at h
  obtain ⟨v, hv, rfl⟩ := h
  simp only [] at hd
  split at hd <;> (first | (simp at hd; done) | (simp at hd; subst hd; exact Or.inl (by decide)))
 | sraw last n =>
  cases n with
  | zero => simp only [Option.some.injEq] at h; subst h; cases hd
  | succ n =>
   simp only [Option.map_eq_some_iff] at h
   obtain ⟨v, hv, rfl⟩ := h
   exact hg _ _ _ _ (by simp) hd
 | dnum last =>
  simp only [Option.map_eq_some_iff] at h
  obtain ⟨v, hv, rfl⟩ := h
  simp only [] at hd
  split at hd <;> (first | (simp at hd; done) | (simp at hd; subst hd; exact Or.inl (by decide)))
 | dfst last a b i j first =>
  simp only [] at h
  split at h
  ·simp only [Option.map_eq_some_iff] at h; obtain ⟨v, hv, rfl⟩ := h; cases hd
  ·simp only [Option.some.injEq] at h; subst h; simp only [] at hd; split at hd <;> (first | (simp at hd; done) | (simp at hd; subst hd; exact Or.inl (by decide)))
 | dsym last a b code l =>
  simp only [] at h
  split at h
  ·cases e : sread code (bs.drop pos) using SR.el with
   | cut => rw [e] at h; cases h
   | bad j => rw [e] at h; simp only [Option.some.injEq] at h; subst h; (first | (simp at hd; done) | (simp at hd; subst hd; exact Or.inl (by decide)))
   | got s n => rw [e] at h; simp only [Option.some.injEq] at h; subst h; simp only [] at hd; (repeat' split at hd) <;> (first | (simp at hd; done) | (simp at hd; subst hd; exact Or.inl (by decide)))
  ·simp only [Option.some.injEq] at h; subst h; simp only [] at hd; split at hd <;> (first | (simp at hd; done) | (simp at hd; subst hd; exact Or.inl (by decide)))
 | drep last a b code l s =>
  simp only [Option.map_eq_some_iff] at h
  obtain ⟨v, hv, rfl⟩ := h
  simp only [] at hd
  (repeat' split at hd) <;> (first | (simp at hd; done) | (simp at hd; subst hd; exact Or.inl (by decide)))
 | sym last lit di =>
  simp only [] at h
  cases e : sread lit (bs.drop pos) using SR.el with
  | cut => rw [e] at h; cases h
  | bad j => rw [e] at h; simp only [Option.some.injEq] at h; subst h; (first | (simp at hd; done) | (simp at hd; subst hd; exact Or.inl (by decide)))
  | got s n =>
   rw [e] at h
   simp only [] at h
   split at h
   ·simp only [Option.some.injEq] at h; subst h; exact hg _ _ _ _ (by simp) hd
   ·simp only [Option.some.injEq] at h; subst h; simp only [] at hd; (repeat' split at hd) <;> (first | (simp at hd; done) | (simp at hd; subst hd; exact Or.inl (by decide)))
 | lext last lit di s => simp only [Option.map_eq_some_iff] at h; obtain ⟨v, hv, rfl⟩ := h; cases hd
 | dist last lit di n =>
  simp only [] at h
  cases e : sread di (bs.drop pos) using SR.el with
  | cut => rw [e] at h; cases h
  | bad j => rw [e] at h; simp only [Option.some.injEq] at h; subst h; (first | (simp at hd; done) | (simp at hd; subst hd; exact Or.inl (by decide)))
  | got s n => rw [e] at h; simp only [Option.some.injEq] at h; subst h; simp only [] at hd; split at hd <;> (first | (simp at hd; done) | (simp at hd; subst hd; exact Or.inl (by decide)))
 | dext last lit di n x =>
  simp only [Option.map_eq_some_iff] at h
  obtain ⟨v, hv, rfl⟩ := h
  simp only [] at hd
  split at hd <;> (first | (simp at hd; done) | (simp at hd; subst hd; exact Or.inl (by decide)))
 | copy last lit di n d =>
  cases n with
  | zero => simp only [Option.some.injEq] at h; subst h; cases hd
  | succ n => simp only [Option.some.injEq] at h; subst h; exact hg _ _ _ _ (by simp) hd
 | done => cases h
 | bad y => cases h
theorem runs_bad {c d : Cfg} {k : Nat} (h : Runs bs M c d) (hc : c.st ≠ .bad k) (hd : d.st = .bad k) : (10 ≤ k ∧ k ≤ 14) ∨ (k = 62 ∧ M ≤ d.out.length) := by
 induction h using Runs.el with
 | refl => exact absurd hd hc
 | @cons c x e s1 r ih =>
  by_cases hx : x.st = .bad k
  ·have hn : ∀ (K : Nat), step bs K x = none := fun K => by unfold step; rw [hx]
   cases r using Runs.cs with
   | refl => exact step_bad s1 hx
   | cons h2 _ => rw [hn] at h2; cases h2
  ·exact ih hx hd
theorem stands_bad {I : List Nat} {c : Cfg} {k : Nat} (h : Stands I M c) (e : c.st = .bad k) : (10 ≤ k ∧ k ≤ 14) ∨ (k = 62 ∧ M ≤ c.out.length) := runs_bad h.1 (by simp) e
theorem stands_nil (M : Nat) : Stands [] M c0 := ⟨Runs.refl _, by simp [step, c0, allb, num?]⟩
end
end Go.Proofs.YtpihipbeagpgpaaGreatDoor

/-
 What is known of the inflater's run: bytes, ends. No walk.
-/
namespace Go.Proofs.YtpihipbeagpgpaaGreatDoor
open Go.RowKit
set_option linter.unusedVariables false
section
variable {bs : List Bool} {M : Nat}
theorem give_oct {k : St} {v p : Nat} {c : Cfg} (hc : Oct c.out) (hv : v < 256) : Oct (give M k v p c).out := by
 unfold give
 split
 ·intro x hx
  rcases List.mem_append.1 hx with h | h
  ·exact hc x h
  ·rw [List.mem_singleton.1 h]; exact hv
 ·exact hc
theorem step_oct {c d : Cfg} (h : step bs M c = some d) (hc : Oct c.out) : Oct d.out := by
 obtain ⟨st, pos, out, times⟩ := c
 unfold step at h
 cases st using St.el with
 | head last =>
  cases last with
  | true => simp only [Option.some.injEq] at h; subst h; exact hc
  | false => simp only [Option.map_eq_some_iff] at h; obtain ⟨v, hv, rfl⟩ := h; exact hc
 | sraw last n =>
  cases n with
  | zero => simp only [Option.some.injEq] at h; subst h; exact hc
  | succ n =>
   simp only [Option.map_eq_some_iff] at h
   obtain ⟨v, hv, rfl⟩ := h
   exact give_oct hc (numb_lt hv)
 | dfst last a b i j first =>
  simp only [] at h
  split at h
  ·simp only [Option.map_eq_some_iff] at h; obtain ⟨v, hv, rfl⟩ := h; exact hc
  ·simp only [Option.some.injEq] at h; subst h; exact hc
 | dsym last a b code l =>
  simp only [] at h
  split at h
  ·cases e : sread code (bs.drop pos) using SR.el with
   | cut => rw [e] at h; cases h
   | bad j => rw [e] at h; simp only [Option.some.injEq] at h; subst h; exact hc
   | got s n => rw [e] at h; simp only [Option.some.injEq] at h; subst h; exact hc
  ·simp only [Option.some.injEq] at h; subst h; exact hc
 | sym last lit di =>
  simp only [] at h
  cases e : sread lit (bs.drop pos) using SR.el with
  | cut => rw [e] at h; cases h
  | bad j => rw [e] at h; simp only [Option.some.injEq] at h; subst h; exact hc
  | got s n =>
   rw [e] at h
   simp only [] at h
   split at h
   ·rename_i hs; simp only [Option.some.injEq] at h; subst h; exact give_oct hc hs
   ·simp only [Option.some.injEq] at h; subst h; exact hc
 | dist last lit di n =>
  simp only [] at h
  cases e : sread di (bs.drop pos) using SR.el with
  | cut => rw [e] at h; cases h
  | bad j => rw [e] at h; simp only [Option.some.injEq] at h; subst h; exact hc
  | got s n => rw [e] at h; simp only [Option.some.injEq] at h; subst h; exact hc
 | copy last lit di n d =>
  cases n with
  | zero => simp only [Option.some.injEq] at h; subst h; exact hc
  | succ n =>
   simp only [Option.some.injEq] at h
   subst h
   refine give_oct hc ?_
   show out.getD (out.length - d) 0 < 256
   rw [List.getD_eq_getElem?_getD]
   cases e : out[out.length - d]? with
   | none => decide
   | some v => exact hc v (List.mem_of_getElem? e)
 | done => cases h
 | bad y => cases h
 | _ => simp only [Option.map_eq_some_iff] at h; obtain ⟨v, hv, rfl⟩ := h; exact hc
theorem runs_oct {c d : Cfg} (h : Runs bs M c d) (hc : Oct c.out) : Oct d.out := by
 induction h using Runs.el with
 | refl => exact hc
 | cons h1 _ ih => exact ih (step_oct h1 hc)
theorem Stands.oct {I : List Nat} {y : Cfg} (h : Stands I M y) : Oct y.out := runs_oct h.1 (fun x hx => by cases hx)
end
theorem open_c3 {y : Cfg} (h : ¬ Over y) : endC y = false ∧ badC y = 0 ∧ whyC y = 1 := by
 unfold endC badC whyC
 cases e : y.st using St.el <;> first | exact ⟨rfl, rfl, rfl⟩ | exact absurd (Or.inl e) h | exact absurd (Or.inr ⟨_, e⟩) h
theorem done_c3 {y : Cfg} (h : y.st = .done) : endC y = true ∧ badC y = 0 ∧ whyC y = 0 := by unfold endC badC whyC; rw [h]; exact ⟨rfl, rfl, rfl⟩
theorem bad_c3 {y : Cfg} {k : Nat} (h : y.st = .bad k) : endC y = false ∧ badC y = k ∧ whyC y = k := by unfold endC badC whyC; rw [h]; exact ⟨rfl, rfl, rfl⟩
theorem c0_open : ¬ Over c0 := by
 rintro (e | ⟨y, e⟩) <;> simp [c0] at e
section
variable {D : List Nat} {N : Nat} {z : Cfg}
end
theorem bad_nz {I : List Nat} {y : Cfg} {k : Nat} (h : Stands I MM y) (e : y.st = .bad k) : k ≠ 0 := by
 rcases stands_bad h e with ⟨q, _⟩ | ⟨q, _⟩ <;> omega
section
variable {w : World} {B D b R : Nat} {I o : List Nat} {cf yF : Cfg} {q : Md}
theorem ask_end (h : Inf w B D b R I MM cf q) (hq : q = .over ∨ q = .want) (ho : cf.out.length ≤ MM) (hs : Stands I MM yF) : cf.out = yF.out ∧ doneM q cf = endC yF ∧ whyM q cf = badC yF ∧ (¬ Over yF → q = .want) := by
 rcases hq with rfl | rfl
 ·have h1 := h.stands_over (Nat.le_refl MM) ho
  have e := h1.one hs
  subst e
  refine ⟨rfl, rfl, ?_, fun e => absurd h.over_st e⟩
  rcases h.over_st with q | ⟨y, q⟩
  ·show whyC cf = badC cf
   rw [(done_c3 q).2.1, (done_c3 q).2.2]
  ·show whyC cf = badC cf
   rw [(bad_c3 q).2.1, (bad_c3 q).2.2]
 ·obtain ⟨z, h1, h2, h3⟩ := h.stands (Nat.le_refl MM) ho
  have e := h1.one hs
  subst e
  obtain ⟨a1, a2, a3⟩ := open_c3 h3
  exact ⟨h2.symm, a1.symm, a2.symm, fun _ => rfl⟩
theorem ask_more {x : Nat} (h : Inf w B D b R I MM cf q) (hp : Pd (o ++ [x]) cf q) (hs : Stands I MM yF) : ∃ rest, yF.out = o ++ x :: rest := by
 have hr : Runs (allb I) MM cf yF := h.1.linear hs.1 hs.2
 obtain ⟨t, ht⟩ := runs_out hr (runs_ends h.1 (Nat.zero_le _))
 rcases hp with ⟨y, _, e⟩ | ⟨_, e⟩
 ·rw [e] at ht
  exact ⟨y :: t, by rw [← ht]; simp⟩
 ·rw [e] at ht
  exact ⟨t, by rw [← ht]; simp⟩
end
end Go.Proofs.YtpihipbeagpgpaaGreatDoor

/-
 What the walker asks of its inflater; the data's bytes.
-/
namespace Go.Proofs.YtpihipbeagpgpaaGreatDoor
open Go.RowKit
set_option linter.unusedVariables false
section
variable {lo hi B D b R W P Q be bw : Nat} {I o : List Nat} {cf : Cfg} {q : Md} {c : Zc} {s : Zs} {v td : Value}
set_option maxHeartbeats 2000000 in
theorem ask_c (w : World) (h : Wk w lo hi B D b R W (zc s (bm 150 W) (bm 151 W) none) I cf q) (hp : Pd o cf q) (hsg : s.sg = sm 0 o) (hgv : s.gv = o.length) (h0 : s.why = 0) (h5 : s.ph = 5) (hI : s.ip = I) (hfl : s.fl < 18446744073709551616) (hs : Stands I MM s.y) (ho : o.length + 1 < MM) (s1 : Zs) (hs1 : s1 = { s with sg := sm 0 s.y.out, gv := s.y.out.length }) : Calls Tryz.prog 151 #[.pointer (some ⟨W, 0, none⟩)] w fun e w' => e = .returned (.tuple #[]) ∧ (Wz w' lo hi B D b R W (zask s1).1 (((s.y.out.drop o.length).map fun b => (b, [])) ++ (zask s1).2) ∧ Fz lo hi w w') := by
 have kn := next_any w h.inf o hp ho
 have d0 : w.cell? ⟨W, 0, none⟩ = some (.pointer (some ⟨D, 0, none⟩)) := h.wc.a0
 have AW : Aside (Wk w lo hi B D b R W (zc s (bm 150 W) (bm 151 W) none) I cf q) := h
 obtain ⟨G, hG⟩ : ∃ G : World → Prop, G = fun w' => (Wz w' lo hi B D b R W (zask s1).1 (((s.y.out.drop o.length).map fun b => (b, [])) ++ (zask s1).2) ∧ Fz lo hi w w') := ⟨_, rfl⟩
 rw [show (fun (e : Ending) (w' : World) => e = .returned (.tuple #[]) ∧ (Wz w' lo hi B D b R W (zask s1).1 (((s.y.out.drop o.length).map fun b => (b, [])) ++ (zask s1).2) ∧ Fz lo hi w w')) = fun e w' => e = .returned (.tuple #[]) ∧ G w' by rw [hG]]
 have AG : Aside (∀ w', (Wz w' lo hi B D b R W (zask s1).1 (((s.y.out.drop o.length).map fun b => (b, [])) ++ (zask s1).2) ∧ Fz lo hi w w') → G w') := fun w' k => by rw [hG]; exact k
 have A0 : Aside (s.sg = sm 0 o ∧ s.gv = o.length ∧ s.why = 0 ∧ s.ph = 5 ∧ s.ip = I ∧ s.fl < 18446744073709551616 ∧ Stands I MM s.y ∧ o.length + 1 < MM ∧ s1 = { s with sg := sm 0 s.y.out, gv := s.y.out.length }) := ⟨hsg, hgv, h0, h5, hI, hfl, hs, ho, hs1⟩
 clear h hp hsg hgv h0 h5 hI hfl hs ho hs1 hG
 go_enter Tryz.func151, Tryz.ntmps151
 go_upto_region 2 with (go_at_call 158; refine kn.mono ?_; rintro e1 w1 ⟨v10, v11, cf1, q1, rfl, f1, i1, hx1⟩)
 clear kn
 obtain ⟨hsg, hgv, h0, h5, hI, hfl, hs, ho, hs1⟩ := A0.out
 have hMM : MM = 1000000000000 := rfl
 have hle : cf1.out.length ≤ MM := by
  rcases hx1 with ⟨x, _, _, hp1⟩ | ⟨_, _, _, ho1⟩
  ·have := hp1.le
   rw [List.length_append, List.length_singleton] at this
   omega
  ·rw [ho1]; omega
 have k1 := AW.out.fm f1 i1
 have fw1 : Fz lo hi w w1 := AW.out.ffm f1
 rcases hx1 with ⟨x, rfl, rfl, hp1⟩ | ⟨rfl, rfl, hq1, ho1⟩
 ·obtain ⟨rest, hrest⟩ := ask_more i1 hp1 hs
  have hoc : Oct (o ++ x :: rest) := hrest ▸ hs.oct
  have hxb : x < 256 := hoc x (by simp)
  have hoo : Oct o := fun y hy => hoc y (List.mem_append_left _ hy)
  have hsl := sm_lt o (s := 0) (by decide) hoo
  have kg := give_c x hxb w1 k1 rfl (by show s.sg < _; rw [hsg]; exact hsl) (by show s.gv < _; rw [hgv]; omega)
  have fin : ∀ w4, Wk w4 lo hi B D b R W { zc s (bm 150 W) (bm 151 W) none with gv := s.gv + 1, sg := stp s.sg x, ev := some (x, []) } I cf1 q1 → Fz lo hi w1 w4 → G w4 := fun w4 h4 f4 => by
   refine AG.out w4 ⟨Or.inr (Or.inr (Or.inr (Or.inr ⟨s1, x, rest, o, cf1, q1, ?_, rfl, ?_, ?_, ?_, ?_, ?_, ?_, ?_, hp1⟩))), fw1.trans f4⟩
   ·rw [hrest, List.drop_left]; rfl
   ·rw [hs1]; exact h0
   ·rw [hs1]; exact ⟨h5, hfl⟩
   ·rw [hs1]; exact hrest
   ·rw [hs1]; show Stands s.ip MM s.y; rw [hI]; exact hs
   ·rw [hs1]
   ·rw [hs1]
   ·have e : zc ({ s1 with sg := sm 0 (o ++ [x]), gv := (o ++ [x]).length } : Zs) (bm 150 W) (bm 151 W) (some (x, [])) = { zc s (bm 150 W) (bm 151 W) none with gv := s.gv + 1, sg := stp s.sg x, ev := some (x, []) } := by
     rw [hs1, hsg, hgv]
     unfold zc
     simp only [sm_append, List.length_append, List.length_singleton]
     rfl
    rw [e, hs1]
    show Wk w4 lo hi B D b R W _ s.ip cf1 q1
    rw [hI]
    exact h4
  have AF : Aside (∀ w4, Wk w4 lo hi B D b R W { zc s (bm 150 W) (bm 151 W) none with gv := s.gv + 1, sg := stp s.sg x, ev := some (x, []) } I cf1 q1 → Fz lo hi w1 w4 → G w4) := fin
  have kg2 : Calls Tryz.prog 153 #[.pointer (some ⟨W, 0, none⟩), .int .u8 (x : Int)] w1 fun e w' => e = .returned (.tuple #[]) ∧ G w' := kg.mono fun e w' ⟨a, b, f⟩ => ⟨a, AF.out _ b f⟩
  clear hsg hgv h0 h5 hI hfl hs ho hs1 hle k1 fw1 hrest hoc hxb hoo hsl kg fin AF hp1 f1 i1 hMM AW A0 AG
  go_wp2_with (go_at_call 153; refine kg2.mono ?_; rintro e4 w4 ⟨rfl, h4⟩)
  first | go_end0 | (refine bodyPost_ret (results_none rfl _ _ _) rfl ?_)
  exact ⟨rfl, h4⟩
 ·obtain ⟨a1, a2, a3, a4⟩ := ask_end i1 hq1 hle hs
  have kd := pdone_c w1 i1
  have kr := reason_c w1 i1
  rw [a2] at kd
  rw [a3] at kr
  have a5 : s.y.out = o := a1.symm.trans ho1
  have d0' : w1.cell? ⟨W, 0, none⟩ = some (.pointer (some ⟨D, 0, none⟩)) := k1.wc.a0
  have d5 : w1.cell? ⟨W, 5, none⟩ = some (.int .u64 (s.pk : Int)) := k1.wc.a5
  have d266 : w1.cell? ⟨W, 266, none⟩ = some (.int .u64 (s.tk : Int)) := k1.wc.a266
  have c277 := k1.wc.a277
  have z277 := k1.wc.fz 277
  have es1 : s1 = s := by
   rw [hs1, a5, ← hsg, ← hgv]
  have eE : ((s.y.out.drop o.length).map fun b => (b, ([] : List Nat))) = [] := by rw [a5, List.drop_length]; rfl
  have AG2 : Aside (∀ w', Wz w' lo hi B D b R W (zask s).1 (zask s).2 → Fz lo hi w1 w' → G w') := fun w' k f => by
   refine AG.out w' ⟨?_, fw1.trans f⟩
   rw [eE, es1]
   exact k
  have AK : Aside (Wk w1 lo hi B D b R W (zc s (bm 150 W) (bm 151 W) none) I cf1 q1 ∧ s.why = 0 ∧ s.ph = 5 ∧ s.ip = I ∧ cf1.out = s.y.out ∧ (¬ Over s.y → q1 = .want) ∧ s.sg < 4294967296) := ⟨k1, h0, h5, hI, a1, a4, by
   rw [hsg]
   exact sm_lt o (s := 0) (by decide) (a5 ▸ hs.oct)⟩
  have kb : ∀ t, zbeh s = t → ∀ m, Calls Tryz.prog 140 #[.pointer (some ⟨W, 2, none⟩)] (w1.drewN m) fun e w' => e = .returned (.bool t) ∧ w1.drewN m = w' := by
   rintro t rfl m
   exact sizes_c s.fl _ (k1.drewN m).wc.a2 hfl
  obtain ⟨y, hy⟩ : ∃ y, badC s.y = y := ⟨_, rfl⟩
  obtain ⟨en, hen⟩ : ∃ t, endC s.y = t := ⟨_, rfl⟩
  obtain ⟨bh, hbh⟩ : ∃ t, zbeh s = t := ⟨_, rfl⟩
  obtain ⟨pk, hpk⟩ : ∃ t, s.pk = t := ⟨_, rfl⟩
  obtain ⟨tk, htk⟩ : ∃ t, s.tk = t := ⟨_, rfl⟩
  rw [hy] at kr
  rw [hen] at kd
  rw [hpk] at d5
  rw [htk] at d266
  have kb := kb bh hbh
  have ez : zask s = (if y ≠ 0 then (zbad y s, []) else if en = true then (if bh = true then ({ s with ph := 2, k := 3, fs := [(4, 3)], bs := [] }, []) else zend s) else if bh = false ∧ tk = pk then (zbad 45 s, []) else (s, [])) := by
   unfold zask; rw [hy, hen, hbh, htk, hpk]
  have AZ : Aside (zask s = (if y ≠ 0 then (zbad y s, []) else if en = true then (if bh = true then ({ s with ph := 2, k := 3, fs := [(4, 3)], bs := [] }, []) else zend s) else if bh = false ∧ tk = pk then (zbad 45 s, []) else (s, [])) ∧ (en = false → y = 0 → ¬ Over s.y)) := ⟨ez, fun e1 e2 => by
   rintro (q | ⟨k, q⟩)
   ·rw [(done_c3 q).1] at hen; rw [e1] at hen; cases hen
   ·rw [(bad_c3 q).2.1] at hy
    exact bad_nz (hI ▸ hs) q (hy.trans e2)⟩
  have kend : Aside (Calls Tryz.prog 154 #[.pointer (some ⟨W, 0, none⟩)] w1 fun e w' => e = .returned (.tuple #[]) ∧ Wz w' lo hi B D b R W (zend s).1 (zend s).2 ∧ Fz lo hi w1 w') := end_c w1 k1 h0 (by rw [h5]; decide) AK.out.2.2.2.2.2.2
  have ksum : Aside (Calls Tryz.prog 161 #[.pointer (some ⟨W, 0, none⟩)] w1 fun e w' => e = .returned (.tuple #[]) ∧ (Wz w' lo hi B D b R W { s with ph := 2, k := 3, fs := [(4, 3)], bs := [] } [] ∧ Fz lo hi w1 w')) := sumb_c w1 k1 ⟨h0, by rw [h5]; decide, AK.out.2.2.2.2.2.2⟩
  have kbq : ∀ m, Calls Tryz.prog 140 #[.pointer (some ⟨W, 2, none⟩)] (w1.drewN m) fun e w' => e = .returned (.bool bh) ∧ w' = w1.drewN m := fun m => (kb m).mono fun _ _ ⟨a, b⟩ => ⟨a, b.symm⟩
  have kb0 : Calls Tryz.prog 140 #[.pointer (some ⟨W, 2, none⟩)] w1 fun e w' => e = .returned (.bool bh) ∧ w1 = w' := kb 0
  clear hsg hgv h0 h5 hI hfl hs ho hs1 hle k1 fw1 a1 a2 a3 a4 a5 hq1 ho1 es1 eE f1 i1 hMM AW A0 AG hy hen hbh hpk htk ez d0
  by_cases hy0 : y = 0
  ·subst hy0
   cases en with
   | true =>
    cases bh with
    | true =>
     have ks : Calls Tryz.prog 161 #[.pointer (some ⟨W, 0, none⟩)] w1 fun e w' => e = .returned (.tuple #[]) ∧ G w' := by
      refine ksum.out.mono ?_
      rintro e w' ⟨a, b, f⟩
      refine ⟨a, AG2.out w' ?_ f⟩
      rw [AZ.out.1, if_neg (fun e => e rfl), if_pos rfl, if_pos rfl]
      exact b
     clear AG2 AK AZ kend ksum kb kbq d5 d266 c277 z277
     go_wp2_with (first
      | (go_at_call 159; refine kr.mono ?_; rintro e4 w4 ⟨rfl, rfl⟩)
      | (go_at_call 160; refine kd.mono ?_; rintro e4 w4 ⟨rfl, rfl⟩)
      | (go_at_call 140; refine kb0.mono ?_; rintro e4 w4 ⟨rfl, rfl⟩)
      | (go_at_call 161; refine ks.mono ?_; rintro e5 w5 ⟨rfl, h5⟩))
     first | go_end0 | (refine bodyPost_ret (results_none rfl _ _ _) rfl ?_)
     exact ⟨rfl, h5⟩
    | false =>
     have ks : Calls Tryz.prog 154 #[.pointer (some ⟨W, 0, none⟩)] w1 fun e w' => e = .returned (.tuple #[]) ∧ G w' := by
      refine kend.out.mono ?_
      rintro e w' ⟨a, b, f⟩
      refine ⟨a, AG2.out w' ?_ f⟩
      rw [AZ.out.1, if_neg (fun e => e rfl), if_pos rfl, if_neg (by decide)]
      exact b
     clear AG2 AK AZ kend ksum kb kbq d5 d266 c277 z277
     go_wp2_with (first
      | (go_at_call 159; refine kr.mono ?_; rintro e4 w4 ⟨rfl, rfl⟩)
      | (go_at_call 160; refine kd.mono ?_; rintro e4 w4 ⟨rfl, rfl⟩)
      | (go_at_call 140; refine kb0.mono ?_; rintro e4 w4 ⟨rfl, rfl⟩)
      | (go_at_call 154; refine ks.mono ?_; rintro e5 w5 ⟨rfl, h5⟩))
     first | go_end0 | (refine bodyPost_ret (results_none rfl _ _ _) rfl ?_)
     exact ⟨rfl, h5⟩
   | false =>
    by_cases hc : bh = false ∧ tk = pk
    ·obtain ⟨rfl, rfl⟩ := hc
     have fin : Aside (∀ m, G ((w1.drewN m).setCell ⟨W, 277, none⟩ (.int .i64 45))) := fun m => by
      have k := AK.out.1.drewN m
      have o1 : Only W (w1.drewN m) ((w1.drewN m).setCell ⟨W, 277, none⟩ (.int .i64 45)) := (Only.refl W _).setCell 277 _
      refine AG2.out _ ?_ ((Fz.drewN w1 m).trans (k.fw o1))
      rw [AZ.out.1, if_neg (fun e => e rfl), if_neg (by decide), if_pos ⟨rfl, rfl⟩]
      exact Or.inl ⟨rfl, bm 150 W, bm 151 W, I, cf1, q1, k.set o1 (k.wc.s277 45), fun e => absurd e (by show ¬ (45 : Nat) = 0; decide), fun _ e => absurd e (by show ¬ (45 : Nat) = 0; decide)⟩
     clear AG2 AK AZ kend ksum
     go_wp2_with (first
      | (go_at_call 159; refine kr.mono ?_; rintro e4 w4 ⟨rfl, rfl⟩)
      | (go_at_call 160; refine kd.mono ?_; rintro e4 w4 ⟨rfl, rfl⟩)
      | (go_at_call 140; refine kb0.mono ?_; rintro e4 w4 ⟨rfl, rfl⟩))
     go_quiet ((go_at_call 140; refine Calls.quiet_of_same (kbq _)))
     go_wp2_with fail
     first | go_end0 | (refine bodyPost_ret (results_none rfl _ _ _) rfl ?_)
     exact ⟨rfl, fin.out _⟩
    ·have fin : Aside (∀ m, G (w1.drewN m)) := fun m => by
      have k := AK.out.1.drewN m
      refine AG2.out _ ?_ (Fz.drewN w1 m)
      rw [AZ.out.1, if_neg (fun e => e rfl), if_neg (by decide), if_neg hc]
      obtain ⟨b1, b2, b3, b4, b5, b6, b7⟩ := AK.out
      exact Or.inl ⟨rfl, bm 150 W, bm 151 W, I, cf1, q1, k, fun _ => Or.inr (Or.inr (Or.inr (Or.inr (Or.inr ⟨b3, rfl⟩)))), fun _ _ => ⟨by rw [if_neg (by rw [b3]; decide)], fun _ => ⟨b4.symm, b6 (AZ.out.2 rfl rfl), b5⟩⟩⟩
     have hc2 : bh = true ∨ (bh = false ∧ ((tk : Int) == (pk : Int)) = false) := by
      cases bh with
      | true => exact Or.inl rfl
      | false => exact Or.inr ⟨rfl, by rw [beq_eq_false_iff_ne]; exact fun e => hc ⟨rfl, by omega⟩⟩
     clear AG2 AK AZ kend ksum hc
     rcases hc2 with rfl | ⟨rfl, t1⟩
     all_goals
      go_wp2_with (first
       | (go_at_call 159; refine kr.mono ?_; rintro e4 w4 ⟨rfl, rfl⟩)
       | (go_at_call 160; refine kd.mono ?_; rintro e4 w4 ⟨rfl, rfl⟩)
       | (go_at_call 140; refine kb0.mono ?_; rintro e4 w4 ⟨rfl, rfl⟩))
      go_quiet ((go_at_call 140; refine Calls.quiet_of_same (kbq _)))
      go_wp2_with fail
      first | go_end0 | (refine bodyPost_ret (results_none rfl _ _ _) rfl ?_)
      exact ⟨rfl, fin.out _⟩
  ·have t0 : ((y : Int) != 0) = true := by rw [bne_iff_ne]; omega
   have fin : Aside (G (w1.setCell ⟨W, 277, none⟩ (.int .i64 (y : Int)))) := by
    have k := AK.out.1
    have o1 : Only W w1 (w1.setCell ⟨W, 277, none⟩ (.int .i64 (y : Int))) := (Only.refl W _).setCell 277 _
    refine AG2.out _ ?_ (k.fw o1)
    rw [AZ.out.1, if_pos hy0]
    exact Or.inl ⟨rfl, bm 150 W, bm 151 W, I, cf1, q1, k.set o1 (k.wc.s277 y), fun e => absurd e hy0, fun _ e => absurd e hy0⟩
   clear AG2 AK AZ kend ksum hy0
   go_wp2_with (first
    | (go_at_call 159; refine kr.mono ?_; rintro e4 w4 ⟨rfl, rfl⟩)
    | (go_at_call 160; refine kd.mono ?_; rintro e4 w4 ⟨rfl, rfl⟩)
    | (go_at_call 140; refine kb0.mono ?_; rintro e4 w4 ⟨rfl, rfl⟩))
   first | go_end0 | (refine bodyPost_ret (results_none rfl _ _ _) rfl ?_)
   exact ⟨rfl, fin.out⟩
theorem deflated_c (x : Nat) (hx : x < 256) (y : Cfg) (w : World) (h : Wk w lo hi B D b R W (zc s (bm 150 W) td none) s.ip cf .want) (htd : td = bm 151 W) (ho : cf.out = s.y.out) (hsg : s.sg = sm 0 s.y.out) (hgv : s.gv = s.y.out.length) (h0 : s.why = 0) (h5 : s.ph = 5) (hfl : s.fl < 18446744073709551616) (htk : s.tk < 18446744073709551615) (hs : Stands (s.ip ++ [x]) MM y) (hb : s.y.out.length + 1 < MM) : Calls Tryz.prog 150 #[.pointer (some ⟨W, 0, none⟩), .int .u8 (x : Int)] w fun e w' => e = .returned (.tuple #[]) ∧ (Wz w' lo hi B D b R W (zask (zdat s x y)).1 (((y.out.drop s.y.out.length).map fun b => (b, [])) ++ (zask (zdat s x y)).2) ∧ Fz lo hi w w') := by
 subst htd
 have e1 : ((s.tk + 1 : Nat) : Int) = (s.tk : Int) + 1 := by omega
 have o1 : Only W w (w.setCell ⟨W, 266, none⟩ (.int .u64 ((s.tk : Int) + 1))) := (Only.refl W w).setCell 266 _
 have hc := h.wc.s266 (s.tk + 1)
 rw [e1] at hc
 have k1 := h.set o1 hc
 have kp := put_any x hx _ k1.inf (by rw [ho]; omega)
 rw [ho] at kp
 have ka : ∀ (X : World) (cf1 : Cfg) (q1 : Md), Fm B (w.setCell ⟨W, 266, none⟩ (.int .u64 ((s.tk : Int) + 1))) X → Inf X B D b R (s.ip ++ [x]) MM cf1 q1 → Pd s.y.out cf1 q1 → Calls Tryz.prog 151 #[.pointer (some ⟨W, 0, none⟩)] X fun e w' => e = .returned (.tuple #[]) ∧ (Wz w' lo hi B D b R W (zask (zdat s x y)).1 (((y.out.drop s.y.out.length).map fun b => (b, [])) ++ (zask (zdat s x y)).2) ∧ Fz lo hi w w') := fun X cf1 q1 fX iX pX => by
  have k2 := k1.fm fX iX
  refine (ask_c (s := { s with tk := s.tk + 1, ip := s.ip ++ [x], y := y }) X k2 pX hsg hgv h0 h5 rfl hfl hs hb (zdat s x y) rfl).mono ?_
  rintro e w' ⟨a, b, f⟩
  exact ⟨a, b, (h.fw o1).trans ((k1.ffm fX).trans f)⟩
 obtain ⟨G, hG⟩ : ∃ G : World → Prop, G = fun w' => (Wz w' lo hi B D b R W (zask (zdat s x y)).1 (((y.out.drop s.y.out.length).map fun b => (b, [])) ++ (zask (zdat s x y)).2) ∧ Fz lo hi w w') := ⟨_, rfl⟩
 rw [show (fun (e : Ending) (w' : World) => e = .returned (.tuple #[]) ∧ (Wz w' lo hi B D b R W (zask (zdat s x y)).1 (((y.out.drop s.y.out.length).map fun b => (b, [])) ++ (zask (zdat s x y)).2) ∧ Fz lo hi w w')) = fun e w' => e = .returned (.tuple #[]) ∧ G w' by rw [hG]] at ka ⊢
 have AK : Aside (∀ (X : World) (cf1 : Cfg) (q1 : Md), Fm B (w.setCell ⟨W, 266, none⟩ (.int .u64 ((s.tk : Int) + 1))) X → Inf X B D b R (s.ip ++ [x]) MM cf1 q1 → Pd s.y.out cf1 q1 → Calls Tryz.prog 151 #[.pointer (some ⟨W, 0, none⟩)] X fun e w' => e = .returned (.tuple #[]) ∧ G w') := ka
 have d0 := k1.wc.a0
 have d266 : w.cell? ⟨W, 266, none⟩ = some (.int .u64 (s.tk : Int)) := h.wc.a266
 have z266 := h.wc.fz 266
 obtain ⟨tk, hk⟩ : ∃ t, s.tk = t := ⟨_, rfl⟩
 rw [hk] at d0 d266 kp htk
 have AE : Aside (s.tk = tk) := hk
 have hmod : ((tk : Int) + 1) % 18446744073709551616 = (tk : Int) + 1 := by omega
 clear h ho hsg hgv h0 h5 hfl hs hb e1 o1 hc k1 ka hG hx hk htk
 go_enter Tryz.func150, Tryz.ntmps150
 go_wp2_with (first
  | (go_at_call 157; refine kp.mono ?_; rintro e1 w1 ⟨rfl, f1, cf1, q1, i1, p1⟩)
  | (go_at_call 151; refine (AK.out _ cf1 q1 (by rw [AE.out]; exact f1) i1 p1).mono ?_; rintro e2 w2 ⟨rfl, h2⟩))
 first | go_end0 | (refine bodyPost_ret (results_none rfl _ _ _) rfl ?_)
 exact ⟨rfl, h2⟩
theorem storedEnd_c (w : World) (h : Wk w lo hi B D b R W (zc s (bm 147 W) (bm 148 W) none) I cf q) (h0 : s.why = 0) (h4 : s.ph = 4) (hsg : s.sg < 4294967296) : Calls Tryz.prog 148 #[.pointer (some ⟨W, 0, none⟩)] w fun e w' => e = .returned (.tuple #[]) ∧ (Wz w' lo hi B D b R W (zsen s).1 (zsen s).2 ∧ Fz lo hi w w') := by
 have d5 : w.cell? ⟨W, 5, none⟩ = some (.int .u64 (s.pk : Int)) := h.wc.a5
 have d266 : w.cell? ⟨W, 266, none⟩ = some (.int .u64 (s.tk : Int)) := h.wc.a266
 have ke : ∀ m, Calls Tryz.prog 154 #[.pointer (some ⟨W, 0, none⟩)] (w.drewN m) fun e w' => e = .returned (.tuple #[]) ∧ Wz w' lo hi B D b R W (zend s).1 (zend s).2 ∧ Fz lo hi (w.drewN m) w' := fun m => end_c _ (h.drewN m) h0 (by rw [h4]; decide) hsg
 unfold zsen
 by_cases hk : s.tk = s.pk
 ·rw [if_pos hk]
  have kf : ∀ m, Calls Tryz.prog 154 #[.pointer (some ⟨W, 0, none⟩)] (w.drewN m) fun e w' => e = .returned (.tuple #[]) ∧ (Wz w' lo hi B D b R W (zend s).1 (zend s).2 ∧ Fz lo hi w w') := fun m => (ke m).mono fun e w' ⟨a, b, f⟩ => ⟨a, b, (Fz.drewN w m).trans f⟩
  obtain ⟨G, hG⟩ : ∃ G : World → Prop, G = fun w' => (Wz w' lo hi B D b R W (zend s).1 (zend s).2 ∧ Fz lo hi w w') := ⟨_, rfl⟩
  rw [show (fun (e : Ending) (w' : World) => e = .returned (.tuple #[]) ∧ (Wz w' lo hi B D b R W (zend s).1 (zend s).2 ∧ Fz lo hi w w')) = fun e w' => e = .returned (.tuple #[]) ∧ G w' by rw [hG]] at kf ⊢
  obtain ⟨tk, htk⟩ : ∃ t, s.tk = t := ⟨_, rfl⟩
  rw [← hk, htk] at d5
  rw [htk] at d266
  clear h h0 h4 hsg ke hk hG htk
  go_enter Tryz.func148, Tryz.ntmps148
  go_wp2_with fail
  go_quiet (fail)
  go_wp2_with (go_at_call 154; refine (kf _).mono ?_; rintro e2 w2 ⟨rfl, h2⟩)
  first | go_end0 | (refine bodyPost_ret (results_none rfl _ _ _) rfl ?_)
  exact ⟨rfl, h2⟩
 ·rw [if_neg hk]
  obtain ⟨tk, htk⟩ : ∃ t, s.tk = t := ⟨_, rfl⟩
  obtain ⟨pk, hpk⟩ : ∃ t, s.pk = t := ⟨_, rfl⟩
  rw [hpk] at d5 hk
  rw [htk] at d266 hk
  have t1 : ((tk : Int) == (pk : Int)) = false := by rw [beq_eq_false_iff_ne]; omega
  have AH : Aside (Wk w lo hi B D b R W (zc s (bm 147 W) (bm 148 W) none) I cf q ∧ s.ph = 4) := ⟨h, h4⟩
  clear h h0 h4 hsg ke hk htk hpk
  go_enter Tryz.func148, Tryz.ntmps148
  go_wp2_with fail
  go_quiet (fail)
  go_wp2_with fail
  first | go_end0 | (refine bodyPost_ret (results_none rfl _ _ _) rfl ?_)
  have h := AH.out.1
  refine ⟨rfl, Or.inl ⟨rfl, bm 147 W, bm 148 W, I, cf, q, h.drewN _, fun _ => Or.inr (Or.inr (Or.inr (Or.inr (Or.inl ⟨AH.out.2, rfl⟩)))), fun _ _ => ⟨by rw [if_pos AH.out.2], fun e => ?_⟩⟩, Fz.drewN w _⟩
  have e4 := AH.out.2
  omega
theorem zstored_c (x : Nat) (hx : x < 256) (w : World) (h : Wk w lo hi B D b R W (zc s (bm 147 W) td none) I cf q) (htd : td = bm 148 W) (h0 : s.why = 0) (h4 : s.ph = 4) (hsg : s.sg < 4294967296) (hgv : s.gv < 18446744073709551615) (htk : s.tk < 18446744073709551615) : Calls Tryz.prog 147 #[.pointer (some ⟨W, 0, none⟩), .int .u8 (x : Int)] w fun e w' => e = .returned (.tuple #[]) ∧ (Wz w' lo hi B D b R W (zsto x s).1 (zsto x s).2 ∧ Fz lo hi w w') := by
 subst htd
 have e1 : ((s.tk + 1 : Nat) : Int) = (s.tk : Int) + 1 := by omega
 have o1 : Only W w (w.setCell ⟨W, 266, none⟩ (.int .u64 ((s.tk : Int) + 1))) := (Only.refl W w).setCell 266 _
 have hc := h.wc.s266 (s.tk + 1)
 rw [e1] at hc
 have k1 := h.set o1 hc
 have hss := stp_lt hsg hx
 have kg : Calls Tryz.prog 153 #[.pointer (some ⟨W, 0, none⟩), .int .u8 (x : Int)] (w.setCell ⟨W, 266, none⟩ (.int .u64 ((s.tk : Int) + 1))) fun e w' => e = .returned (.tuple #[]) ∧ (Wz w' lo hi B D b R W (zsto x s).1 (zsto x s).2 ∧ Fz lo hi w w') := by
  refine (give_c x hx _ k1 rfl hsg hgv).mono ?_
  rintro e w' ⟨a, k, f⟩
  exact ⟨a, Or.inr (Or.inr (Or.inr (Or.inl ⟨zgiv x s, x, I, cf, q, rfl, rfl, hx, h0, h4, hss, k⟩))), (h.fw o1).trans f⟩
 obtain ⟨G, hG⟩ : ∃ G : World → Prop, G = fun w' => (Wz w' lo hi B D b R W (zsto x s).1 (zsto x s).2 ∧ Fz lo hi w w') := ⟨_, rfl⟩
 rw [show (fun (e : Ending) (w' : World) => e = .returned (.tuple #[]) ∧ (Wz w' lo hi B D b R W (zsto x s).1 (zsto x s).2 ∧ Fz lo hi w w')) = fun e w' => e = .returned (.tuple #[]) ∧ G w' by rw [hG]] at kg ⊢
 have d266 : w.cell? ⟨W, 266, none⟩ = some (.int .u64 (s.tk : Int)) := h.wc.a266
 have z266 := h.wc.fz 266
 obtain ⟨tk, hk⟩ : ∃ t, s.tk = t := ⟨_, rfl⟩
 rw [hk] at d266 kg htk
 have hmod : ((tk : Int) + 1) % 18446744073709551616 = (tk : Int) + 1 := by omega
 clear h h0 h4 hsg hgv e1 o1 hc k1 hG hx hk htk hss
 go_enter Tryz.func147, Tryz.ntmps147
 go_wp2_with (go_at_call 153; refine kg.mono ?_; rintro e1 w1 ⟨rfl, h1⟩)
 first | go_end0 | (refine bodyPost_ret (results_none rfl _ _ _) rfl ?_)
 exact ⟨rfl, h1⟩
end
end Go.Proofs.YtpihipbeagpgpaaGreatDoor

/-
 A record that is wide; an entry's name.
-/
namespace Go.Proofs.YtpihipbeagpgpaaGreatDoor
open Go.RowKit
set_option linter.unusedVariables false
section
variable {lo hi B D b R W P Q be bw : Nat} {I : List Nat} {cf : Cfg} {q : Md} {c : Zc} {s : Zs} {v td : Value}
set_option maxHeartbeats 1000000 in
theorem rc1_wide (w : World) (h : Wk w lo hi B D b R W (zc s v td none) I cf q) (z : Zh s) (hx : ¬ s.xl < s.rl) (hx2 : s.xl < 18446744073709551616) (hr : s.ri = 1) (hwd : s.wd = false) (xP : Bx w hi P 66 #[.int .u64 (s.ri : Int)]) (xQ : Bx w hi Q 66 #[.int .u64 (s.rl : Int)]) (xe : Bx w hi be 122 #[ptr W 2]) (xw : Bx w hi bw 39 #[ptr W 0]) : Calls Tryz.prog 126 #[.pointer (some ⟨Q, 0, none⟩), .pointer (some ⟨be, 0, none⟩), .pointer (some ⟨bw, 0, none⟩), .pointer (some ⟨P, 0, none⟩)] w fun e w' => e = .returned (.tuple #[]) ∧ (Wz w' lo hi B D b R W (zwid s.rl { s with xl := s.xl - s.rl, wd := true }).1 (zwid s.rl { s with xl := s.xl - s.rl, wd := true }).2 ∧ Fz lo hi w w') := by
 have d8 : w.cell? ⟨W, 8, none⟩ = some (.int .u64 (s.xl : Int)) := h.wc.a8
 have z8 := h.wc.fz 8
 have z9 := h.wc.fz 9
 have d9 : w.cell? ⟨W, 9, none⟩ = some (.bool s.wd) := h.wc.a9
 have dP : w.cell? ⟨P, 0, none⟩ = some (.int .u64 (s.ri : Int)) := by rw [xP.cell.cell]; rfl
 have dQ : w.cell? ⟨Q, 0, none⟩ = some (.int .u64 (s.rl : Int)) := by rw [xQ.cell.cell]; rfl
 have de : w.cell? ⟨be, 0, none⟩ = some (.pointer (some ⟨W, 2, none⟩)) := by rw [xe.cell.cell]; rfl
 have dw : w.cell? ⟨bw, 0, none⟩ = some (.pointer (some ⟨W, 0, none⟩)) := by rw [xw.cell.cell]; rfl
 have hW := h.g.hW
 have nP : ¬ P = W := by have := xP.lo; omega
 have nQ : ¬ Q = W := by have := xQ.lo; omega
 have ne : ¬ be = W := by have := xe.lo; omega
 have nw : ¬ bw = W := by have := xw.lo; omega
 obtain ⟨xl, hxl⟩ : ∃ m, s.xl = m := ⟨_, rfl⟩
 obtain ⟨rl, hrl⟩ : ∃ m, s.rl = m := ⟨_, rfl⟩
 rw [hxl, hrl] at hx
 rw [hxl] at d8 hx2
 rw [hrl] at dQ
 rw [hr] at dP
 rw [hwd] at d9
 generalize hr0 : ({ s with xl := s.xl - s.rl, wd := true } : Zs) = r0
 rw [hrl]
 have esub : ((xl - rl : Nat) : Int) = (xl : Int) - (rl : Int) := by omega
 have kp : ∀ m, Calls Tryz.prog 127 #[.pointer (some ⟨W, 0, none⟩), .int .u64 (rl : Int)] (((w.drewN m).drew.setCell ⟨W, 8, none⟩ (.int .u64 ((xl : Int) - (rl : Int)))).setCell ⟨W, 9, none⟩ (.bool true)) fun e w' => e = .returned (.tuple #[]) ∧ (Wz w' lo hi B D b R W (zwid rl r0).1 (zwid rl r0).2 ∧ Fz lo hi w w') := fun m => by
  have k := (h.drewN m).drewN 1
  have oW : Only W (w.drewN m).drew (((w.drewN m).drew.setCell ⟨W, 8, none⟩ (.int .u64 ((xl : Int) - (rl : Int)))).setCell ⟨W, 9, none⟩ (.bool true)) := ((Only.refl W _).setCell 8 _).setCell 9 _
  have hc := k.wc.s8 (xl - rl)
  rw [esub] at hc
  have hc2 := hc.s9 true
  have k2 : Wk (((w.drewN m).drew.setCell ⟨W, 8, none⟩ (.int .u64 ((xl : Int) - (rl : Int)))).setCell ⟨W, 9, none⟩ (.bool true)) lo hi B D b R W (zc r0 v td none) I cf q := by
   rw [← hr0, hxl, hrl]
   exact k.set oW hc2
  refine (wide_c rl _ k2 (by rw [← hr0]; exact ⟨z.why, z.ph, z.fl, z.sg, z.nl, z.nm, z.s0, z.g0⟩) (by omega) (by rw [← hr0]; show s.xl - s.rl < _; omega)).mono fun e w' ⟨a, b, f⟩ => ⟨a, b, ((Fz.drewN w m).trans (Fz.drewN _ 1)).trans ((k.fw oW).trans f)⟩
 obtain ⟨G, hG⟩ : ∃ G : World → Prop, G = fun w' => (Wz w' lo hi B D b R W (zwid rl r0).1 (zwid rl r0).2 ∧ Fz lo hi w w') := ⟨_, rfl⟩
 have kg : ∀ m, Calls Tryz.prog 127 #[.pointer (some ⟨W, 0, none⟩), .int .u64 (rl : Int)] (((w.drewN m).drew.setCell ⟨W, 8, none⟩ (.int .u64 ((xl : Int) - (rl : Int)))).setCell ⟨W, 9, none⟩ (.bool true)) fun e w' => e = .returned (.tuple #[]) ∧ G w' := by rw [hG]; exact kp
 have AP : Aside (∀ w', G w' → (Wz w' lo hi B D b R W (zwid rl r0).1 (zwid rl r0).2 ∧ Fz lo hi w w')) := fun w' k => by rw [hG] at k; exact k
 have hlt : ¬ ((xl : Int) < (rl : Int)) := by omega
 have hlt2 : decide ((xl : Int) < (rl : Int)) = false := decide_eq_false hlt
 have hmod : ((xl : Int) - (rl : Int)) % 18446744073709551616 = (xl : Int) - (rl : Int) := by omega
 clear h z hxl hrl hr hwd hx hx2 hG xP xQ xe xw kp esub hW hr0
 go_enter Tryz.func126, Tryz.ntmps126
 go_wp2_with fail
 go_quiet (fail)
 go_wp2_with fail
 go_region
 go_wp2_with (go_at_call 127; refine (kg _).mono ?_; rintro e3 w3 ⟨rfl, h3⟩)
 first | go_end0 | (refine bodyPost_ret (results_none rfl _ _ _) rfl ?_)
 exact ⟨rfl, AP.out _ h3⟩
theorem rc1_c (w : World) (h : Wk w lo hi B D b R W (zc s v td none) I cf q) (z : Zh s) (hx2 : s.xl < 18446744073709551616) (xP : Bx w hi P 66 #[.int .u64 (s.ri : Int)]) (xQ : Bx w hi Q 66 #[.int .u64 (s.rl : Int)]) (xe : Bx w hi be 122 #[ptr W 2]) (xw : Bx w hi bw 39 #[ptr W 0]) : Calls Tryz.prog 126 #[.pointer (some ⟨Q, 0, none⟩), .pointer (some ⟨be, 0, none⟩), .pointer (some ⟨bw, 0, none⟩), .pointer (some ⟨P, 0, none⟩)] w fun e w' => e = .returned (.tuple #[]) ∧ (Wz w' lo hi B D b R W (zrc1 s).1 (zrc1 s).2 ∧ Fz lo hi w w') := by
 unfold zrc1
 by_cases h1 : s.xl < s.rl
 ·rw [if_pos h1]
  exact rc1_over w h z h1 xQ xe xw
 ·rw [if_neg h1]
  by_cases h2 : s.ri ≠ 1 ∨ s.wd = true
  ·rw [if_pos h2]
   exact rc1_pass w h z h1 hx2 h2 xP xQ xe xw
  ·rw [if_neg h2]
   refine rc1_wide w h z h1 hx2 (Classical.byContradiction fun e => h2 (Or.inl e)) ?_ xP xQ xe xw
   cases hw : s.wd with
   | true => exact absurd (Or.inr hw) h2
   | false => rfl
structure Zn (s : Zs) : Prop where
 why : s.why = 0
 ph : s.ph ≠ 1
 fl : s.fl < 18446744073709551616
 sg : s.sg < 4294967296
 nm : s.nm = []
 xl : s.xl < 18446744073709551616
 s0 : s.sg = 0
 g0 : s.gv = 0
set_option maxHeartbeats 1000000 in
theorem name_c (w : World) (h : Wk w lo hi B D b R W (zc s v td none) I cf q) (z : Zn s) : Calls Tryz.prog 67 #[.pointer (some ⟨W, 0, none⟩)] w fun e w' => e = .returned (.tuple #[]) ∧ (Wz w' lo hi B D b R W (zname s).1 (zname s).2 ∧ Fz lo hi w w') := by
 have k1 := h.alloc (.cells #[.pointer (some ⟨W, 2, none⟩)] 122)
 have b1 := below_alloc w (.cells #[.pointer (some ⟨W, 2, none⟩)] 122)
 have d7 : (w.alloc (.cells #[.pointer (some ⟨W, 2, none⟩)] 122)).cell? ⟨W, 7, none⟩ = some (.int .u64 (s.nl : Int)) := k1.wc.a7
 have d8 : (w.alloc (.cells #[.pointer (some ⟨W, 2, none⟩)] 122)).cell? ⟨W, 8, none⟩ = some (.int .u64 (s.xl : Int)) := k1.wc.a8
 have k2 := k1.alloc (.cells #[.int .i64 0] 3)
 have b2 := b1.alloc b1.size (.cells #[.int .i64 0] 3)
 have d72 : ((w.alloc (.cells #[.pointer (some ⟨W, 2, none⟩)] 122)).alloc (.cells #[.int .i64 0] 3)).cell? ⟨W, 7, none⟩ = some (.int .u64 (s.nl : Int)) := k2.wc.a7
 have hW := h.g.hW
 have hs := h.hs
 by_cases hb : 256 < s.nl ∨ 1024 < s.xl
 ·have e : zname s = (zbad 46 s, []) := by unfold zname; rw [if_pos hb]
  rw [e]
  have c277 := k1.wc.a277
  have z277 := k1.wc.fz 277
  have AH : Aside (Wk (w.alloc (.cells #[.pointer (some ⟨W, 2, none⟩)] 122)) lo hi B D b R W (zc s v td none) I cf q ∧ Below w.heap.size w (w.alloc (.cells #[.pointer (some ⟨W, 2, none⟩)] 122))) := ⟨k1, b1⟩
  obtain ⟨nl, hnl⟩ : ∃ m, s.nl = m := ⟨_, rfl⟩
  obtain ⟨xl, hxl⟩ : ∃ m, s.xl = m := ⟨_, rfl⟩
  rw [hnl] at d7 hb
  rw [hxl] at d8 hb
  have fin : Aside (∀ u, u = w.alloc (.cells #[.pointer (some ⟨W, 2, none⟩)] 122) → Wz (u.setCell ⟨W, 277, none⟩ (.int .i64 46)) lo hi B D b R W (zbad 46 s) [] ∧ Fz lo hi w (u.setCell ⟨W, 277, none⟩ (.int .i64 46))) := fun u hu => by
   obtain ⟨h, b1⟩ := AH.out
   rw [← hu] at h b1
   exact ⟨Or.inl ⟨rfl, v, td, I, cf, q, h.set ((Only.refl W _).setCell 277 _) (h.wc.s277 46), fun e => absurd e (by show ¬ (46 : Nat) = 0; decide), fun _ e => absurd e (by show ¬ (46 : Nat) = 0; decide)⟩, (Fz.of_below b1 (Nat.le_refl _)).trans (h.fw ((Only.refl W _).setCell 277 _))⟩
  clear h z k1 b1 k2 b2 hnl hxl e d72 AH hW hs
  by_cases h1 : 256 < nl
  ·have t1 : (256 : Int) < (nl : Int) := by omega
   have t2 : decide ((256 : Int) < (nl : Int)) = true := decide_eq_true t1
   clear hb h1
   go_enter Tryz.func67, Tryz.ntmps67
   go_wp2_with fail
   first | go_end0 | (refine bodyPost_ret (results_none rfl _ _ _) rfl ?_)
   exact ⟨rfl, fin.out _ rfl⟩
  ·have t1 : ¬ (256 : Int) < (nl : Int) := by omega
   have t2 : decide ((256 : Int) < (nl : Int)) = false := decide_eq_false t1
   have t3 : (1024 : Int) < (xl : Int) := by omega
   have t4 : decide ((1024 : Int) < (xl : Int)) = true := decide_eq_true t3
   clear hb h1
   go_enter Tryz.func67, Tryz.ntmps67
   go_wp2_with fail
   first | go_end0 | (refine bodyPost_ret (results_none rfl _ _ _) rfl ?_)
   exact ⟨rfl, fin.out _ rfl⟩
 ·obtain ⟨u, hu⟩ : ∃ u, u = (w.alloc (.cells #[.pointer (some ⟨W, 2, none⟩)] 122)).alloc (.cells #[.int .i64 0] 3) := ⟨_, rfl⟩
  have xe : Bx u hi w.heap.size 122 #[ptr W 2] := ⟨hs, by rw [hu]; exact (Cells.new w _ _).alloc _⟩
  have xa : Bx u hi (w.heap.size + 1) 3 #[.int .i64 0] := ⟨by omega, by rw [hu]; exact cn1⟩
  have k2' : Wk u lo hi B D b R W (zc s v td none) I cf q := by rw [hu]; exact k2
  have b2' : Below w.heap.size w u := by rw [hu]; exact b2
  have kt : Calls Tryz.prog 95 #[.pointer (some ⟨W, 0, none⟩), .int .u64 (s.nl : Int), .func (.func 96) #[] #[.pointer (some ⟨w.heap.size, 0, none⟩), .pointer (some ⟨w.heap.size + 1, 0, none⟩)], .func (.func 97) #[.pointer (some ⟨W, 0, none⟩)] #[]] u fun e w' => e = .returned (.tuple #[]) ∧ (Wz w' lo hi B D b R W (zname s).1 (zname s).2 ∧ Fz lo hi w w') := by
   unfold zname
   rw [if_neg hb]
   by_cases h0 : s.nl = 0
   ·rw [if_pos h0, h0]
    refine pass0_c 0 97 rfl (Or.inr (Or.inl rfl)) _ u _ _ _ fun w1 hs1 bb => ?_
    refine (rec_c w1 (k2'.below bb (Nat.le_refl _)) ⟨z.why, z.ph, z.fl, z.sg, by rw [h0, z.nm]; rfl, by rw [z.nm]; intro x hx; (cases hx), z.s0, z.g0⟩ z.xl).mono ?_
    rintro e w' ⟨rfl, a, f⟩
    exact ⟨rfl, a, (Fz.of_below b2' (Nat.le_refl _)).trans ((Fz.of_below bb (Nat.le_refl _)).trans f)⟩
   ·rw [if_neg h0]
    refine (take_c s.nl (.func 96) #[] #[.pointer (some ⟨w.heap.size, 0, none⟩), .pointer (some ⟨w.heap.size + 1, 0, none⟩)] 0 h0 u k2').mono ?_
    rintro e w' ⟨rfl, ⟨v', a1, a2⟩, f⟩
    refine ⟨rfl, Or.inl ⟨rfl, v', td, I, cf, q, ?_, fun _ => a2 _ rfl rfl rfl (Or.inl ⟨rfl, w.heap.size, w.heap.size + 1, rfl, xe, ?_⟩), fun e => by rcases e with e | e <;> cases e⟩, (Fz.of_below b2' (Nat.le_refl _)).trans f⟩
    ·have e : zc ({ s with ph := 3, k := 0, mn := s.nl } : Zs) v' td none = { zc s v td none with nx := v' } := by
      unfold zc
      simp [z.ph]
     rw [e]
     exact a1
    ·show Bx u hi _ 3 #[.int .i64 (s.nm.length : Int)]
     rw [z.nm]
     exact xa
  rw [hu] at kt
  obtain ⟨G, hG⟩ : ∃ G : World → Prop, G = fun w' => (Wz w' lo hi B D b R W (zname s).1 (zname s).2 ∧ Fz lo hi w w') := ⟨_, rfl⟩
  obtain ⟨nl, hnl⟩ : ∃ m, s.nl = m := ⟨_, rfl⟩
  obtain ⟨xl, hxl⟩ : ∃ m, s.xl = m := ⟨_, rfl⟩
  have kg : Calls Tryz.prog 95 #[.pointer (some ⟨W, 0, none⟩), .int .u64 (nl : Int), .func (.func 96) #[] #[.pointer (some ⟨w.heap.size, 0, none⟩), .pointer (some ⟨w.heap.size + 1, 0, none⟩)], .func (.func 97) #[.pointer (some ⟨W, 0, none⟩)] #[]] ((w.alloc (.cells #[.pointer (some ⟨W, 2, none⟩)] 122)).alloc (.cells #[.int .i64 0] 3)) fun e w' => e = .returned (.tuple #[]) ∧ G w' := by rw [hG, ← hnl]; exact kt
  have AP : Aside (∀ w', G w' → (Wz w' lo hi B D b R W (zname s).1 (zname s).2 ∧ Fz lo hi w w')) := fun w' k => by rw [hG] at k; exact k
  rw [hnl] at d7 d72 hb
  rw [hxl] at d8 hb
  have t1 : ¬ (256 : Int) < (nl : Int) := by omega
  have t2 : decide ((256 : Int) < (nl : Int)) = false := decide_eq_false t1
  have t3 : ¬ (1024 : Int) < (xl : Int) := by omega
  have t4 : decide ((1024 : Int) < (xl : Int)) = false := decide_eq_false t3
  clear h z k1 b1 k2 b2 hnl hxl hG kt hb hu xe xa k2' b2' hW hs
  go_enter Tryz.func67, Tryz.ntmps67
  go_wp2_with (go_at_call 95; refine kg.mono ?_; rintro e3 w3 ⟨rfl, h3⟩)
  first | go_end0 | (refine bodyPost_ret (results_none rfl _ _ _) rfl ?_)
  exact ⟨rfl, AP.out _ h3⟩
end
end Go.Proofs.YtpihipbeagpgpaaGreatDoor

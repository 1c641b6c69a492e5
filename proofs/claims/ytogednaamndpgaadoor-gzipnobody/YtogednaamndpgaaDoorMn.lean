/-
  Own texts of this seat, one behind the other: what each says stands ahead of it.
-/
import Derived.Test.YtogednaamndpgaaDoorMl
/-
  Wherever the inflater's machine is set out, it comes to stand; asked for more, it goes on as it did. No walk.
-/
namespace Go.Proofs.YtogednaamndpgaaDoor
open Go.RowKit
set_option linter.unusedVariables false
def rnk : St → Nat
  | .inl (.inl (.inl _)) => 1
  | .inl (.inl (.inr (.inl _))) => 1
  | .inl (.inl (.inr (.inr _))) => 2
  | .inl (.inr (.inl (.inl _))) => 1
  | .inl (.inr (.inl (.inr _))) => 5
  | .inl (.inr (.inr (.inl _))) => 4
  | .inl (.inr (.inr (.inr _))) => 1
  | .inr (.inl (.inl (.inl _))) => 3
  | .inr (.inl (.inl (.inr _))) => 9
  | .inr (.inl (.inr (.inl _))) => 8
  | .inr (.inl (.inr (.inr _))) => 7
  | .inr (.inr (.inl (.inl _))) => 6
  | .inr (.inr (.inl (.inr _))) => 0
  | .inr (.inr (.inr _)) => 0
theorem rnk_le (s : St) : rnk s ≤ 9 := by unfold rnk; split <;> decide
section
variable {bs : List Bool} {M N : Nat}
/-- What falls with each step. -/
def Falls (M : Nat) (c d : Cfg) : Prop := c.pos < d.pos ∨ (d.pos = c.pos ∧ c.out.length < M ∧ d.out.length = c.out.length + 1) ∨ (d.pos = c.pos ∧ rnk d.st < rnk c.st)
theorem map_falls {p n : Nat} {f : Nat → Cfg} {c d : Cfg} (h : (num? bs p n).map f = some d) (hf : ∀ v, Falls M c (f v)) : Falls M c d := by
  rw [Option.map_eq_some_iff] at h
  obtain ⟨v, hv, rfl⟩ := h
  exact hf v
theorem sread_pos {ls : List Nat} {p s n : Nat} (h : sread ls (bs.drop p) = .got s n) : 0 < n := by
  have hh := sread_le (ls := ls) (h := bs.drop p)
  rw [h] at hh
  exact hh.2.1
theorem step_falls {c d : Cfg} (h : step bs M c = some d) : Falls M c d := by
  obtain ⟨st, pos, out, times⟩ := c
  unfold step at h
  cases st using St.el with
  | head last =>
    cases last with
    | true => simp only [Option.some.injEq] at h; rw [← h]; exact Or.inr (Or.inr ⟨rfl, by simp [rnk]⟩)
    | false => exact map_falls h (fun v => Or.inl (by simp))
  | slen last => exact map_falls h (fun _ => Or.inl (by show pos < (pos + 7) / 8 * 8 + 16; omega))
  | snot last l => exact map_falls h (fun v => Or.inl (by simp))
  | sraw last n =>
    cases n with
    | zero => simp only [Option.some.injEq] at h; rw [← h]; exact Or.inr (Or.inr ⟨rfl, by simp [rnk]⟩)
    | succ n => exact map_falls h (fun _ => Or.inl (by rw [give_pos]; show pos < pos + 8; omega))
  | dnum last => exact map_falls h (fun v => Or.inl (by simp))
  | dfst last a b i j first =>
    simp only [] at h
    split at h
    · exact map_falls h (fun v => Or.inl (by simp))
    · simp only [Option.some.injEq] at h; rw [← h]; exact Or.inr (Or.inr ⟨rfl, by simp only []; split <;> simp [rnk]⟩)
  | dsym last a b code l =>
    simp only [] at h
    split at h
    · cases e : sread code (bs.drop pos) using SR.el with
      | cut => rw [e] at h; cases h
      | bad j =>
        rw [e] at h; simp only [Option.some.injEq] at h; subst h
        by_cases hj : j = 0
        · subst hj; exact Or.inr (Or.inr ⟨rfl, by simp [rnk]⟩)
        · exact Or.inl (by show pos < pos + j; omega)
      | got s n => rw [e] at h; simp only [Option.some.injEq] at h; subst h; exact Or.inl (by have := sread_pos e; show pos < pos + n; omega)
    · simp only [Option.some.injEq] at h; rw [← h]; exact Or.inr (Or.inr ⟨rfl, by simp only []; split <;> simp [rnk]⟩)
  | drep last a b code l s => exact map_falls h (fun v => Or.inl (by show pos < pos + (if s = 16 then 2 else if s = 17 then 3 else 7); (repeat' split) <;> omega))
  | sym last lit di =>
    simp only [] at h
    cases e : sread lit (bs.drop pos) using SR.el with
    | cut => rw [e] at h; cases h
    | bad j =>
      rw [e] at h; simp only [Option.some.injEq] at h; subst h
      by_cases hj : j = 0
      · subst hj; exact Or.inr (Or.inr ⟨rfl, by simp [rnk]⟩)
      · exact Or.inl (by show pos < pos + j; omega)
    | got s n =>
      have := sread_pos e
      rw [e] at h
      simp only [] at h
      split at h
      · simp only [Option.some.injEq] at h; subst h; exact Or.inl (by rw [give_pos]; show pos < pos + n; omega)
      · simp only [Option.some.injEq] at h; subst h; exact Or.inl (by show pos < pos + n; omega)
  | lext last lit di s =>
    refine map_falls h (fun v => ?_)
    by_cases hj : lmore s = 0
    · exact Or.inr (Or.inr ⟨by show pos + lmore s = pos; omega, by simp [rnk]⟩)
    · exact Or.inl (by show pos < pos + lmore s; omega)
  | dist last lit di n =>
    simp only [] at h
    cases e : sread di (bs.drop pos) using SR.el with
    | cut => rw [e] at h; cases h
    | bad j =>
      rw [e] at h; simp only [Option.some.injEq] at h; subst h
      by_cases hj : j = 0
      · subst hj; exact Or.inr (Or.inr ⟨rfl, by simp [rnk]⟩)
      · exact Or.inl (by show pos < pos + j; omega)
    | got s n => rw [e] at h; simp only [Option.some.injEq] at h; subst h; exact Or.inl (by have := sread_pos e; show pos < pos + n; omega)
  | dext last lit di n x =>
    refine map_falls h (fun v => ?_)
    by_cases hj : dmore x = 0
    · exact Or.inr (Or.inr ⟨by show pos + dmore x = pos; omega, by simp only []; split <;> simp [rnk]⟩)
    · exact Or.inl (by show pos < pos + dmore x; omega)
  | copy last lit di n d =>
    cases n with
    | zero => simp only [Option.some.injEq] at h; rw [← h]; exact Or.inr (Or.inr ⟨rfl, by simp [rnk]⟩)
    | succ n =>
      simp only [Option.some.injEq] at h
      rw [← h]
      unfold give
      split
      · rename_i hl; exact Or.inr (Or.inl ⟨rfl, hl, by simp⟩)
      · exact Or.inr (Or.inr ⟨rfl, by simp [rnk]⟩)
  | done => cases h
  | bad y => cases h
theorem adds_len {c d : Cfg} (h : Adds c d) : c.out.length ≤ d.out.length := by
  rcases h with ⟨e, _⟩ | ⟨b, e, _⟩ <;> rw [e] <;> simp
theorem runs_ex : ∀ (n : Nat) (c : Cfg), c.pos ≤ bs.length → c.out.length ≤ M → (bs.length - c.pos) * (10 * (M + 1)) + (M - c.out.length) * 10 + rnk c.st ≤ n → ∃ d, Runs bs M c d ∧ step bs M d = none
  | n, c, hp, ho, hn => by
    cases hs : step bs M c with
    | none => exact ⟨c, Runs.refl c, hs⟩
    | some d =>
      obtain ⟨q1, q2⟩ := step_ends hs hp
      have q3 := step_falls hs
      have q4 := step_most hs ho
      have q5 := adds_len q2
      have hr := rnk_le d.st
      have hlt : (bs.length - d.pos) * (10 * (M + 1)) + (M - d.out.length) * 10 + rnk d.st < (bs.length - c.pos) * (10 * (M + 1)) + (M - c.out.length) * 10 + rnk c.st := by
        rcases q3 with q | ⟨e, h1, h2⟩ | ⟨e, h1⟩
        · have h3 : bs.length - d.pos + 1 ≤ bs.length - c.pos := by omega
          have h4 := Nat.mul_le_mul_right (10 * (M + 1)) h3
          rw [Nat.add_mul, Nat.one_mul] at h4
          omega
        · rw [e]; omega
        · rw [e]; omega
      cases n with
      | zero => omega
      | succ n =>
        obtain ⟨e, h1, h2⟩ := runs_ex n d q1 q4 (by omega)
        exact ⟨e, Runs.cons hs h1, h2⟩
theorem stands_ex (I : List Nat) (M : Nat) : ∃ c, Stands I M c := runs_ex _ c0 (Nat.zero_le _) (Nat.zero_le _) (Nat.le_refl _)
/-- Asked for more, a step is the same, unless it was too much. -/
theorem step_more {c d : Cfg} (h : step bs N c = some d) (hN : N ≤ M) : (d.st = .bad 62 ∧ d.out.length = c.out.length ∧ N ≤ c.out.length) ∨ step bs M c = some d := by
  have hg : ∀ (k : St) (b p : Nat) (c : Cfg), ((give N k b p c).st = .bad 62 ∧ (give N k b p c).out.length = c.out.length ∧ N ≤ c.out.length) ∨ give M k b p c = give N k b p c := by
    intro k b p c
    unfold give
    by_cases h1 : c.out.length < N
    · right; rw [if_pos h1, if_pos (by omega)]
    · left; rw [if_neg h1]; exact ⟨rfl, rfl, by omega⟩
  obtain ⟨st, pos, out, times⟩ := c
  unfold step at *
  cases st using St.el with
  | head last => cases last <;> exact Or.inr h
  | sraw last n =>
    cases n with
    | zero => exact Or.inr h
    | succ n =>
      simp only [Option.map_eq_some_iff] at h ⊢
      obtain ⟨v, hv, rfl⟩ := h
      rcases hg (.sraw last n) v (pos + 8) ⟨.sraw last (n + 1), pos, out, times⟩ with q | q
      · exact Or.inl q
      · exact Or.inr ⟨v, hv, q⟩
  | copy last lit di n d =>
    cases n with
    | zero => exact Or.inr h
    | succ n =>
      simp only [Option.some.injEq] at h ⊢
      subst h
      rcases hg (.copy last lit di n d) (out.getD (out.length - d) 0) pos ⟨.copy last lit di (n + 1) d, pos, out, times⟩ with q | q
      · exact Or.inl q
      · exact Or.inr q
  | sym last lit di =>
    simp only [] at h ⊢
    cases e5 : sread lit (bs.drop pos) using SR.el with
    | cut => rw [e5] at h; cases h
    | bad j => rw [e5] at h; exact Or.inr h
    | got s n =>
      rw [e5] at h
      simp only [] at h ⊢
      split at h
      · rename_i hs
        rw [if_pos hs]
        simp only [Option.some.injEq] at h ⊢
        subst h
        rcases hg (.sym last lit di) s (pos + n) ⟨.sym last lit di, pos, out, times⟩ with q | q
        · exact Or.inl q
        · exact Or.inr q
      · rename_i hs
        rw [if_neg hs]
        exact Or.inr h
  | done => cases h
  | bad y => cases h
  | _ => exact Or.inr h
theorem runs_more {c d : Cfg} (h : Runs bs N c d) (hN : N ≤ M) : (d.st = .bad 62 ∧ N ≤ d.out.length) ∨ Runs bs M c d := by
  induction h using Runs.el with
  | refl => exact Or.inr (Runs.refl _)
  | @cons c x e s1 r ih =>
    rcases ih with q | q
    · exact Or.inl q
    · rcases step_more s1 hN with ⟨q1, q2, q3⟩ | q1
      · left
        have hx : ∀ (K : Nat), step bs K x = none := fun K => by unfold step; rw [q1]
        cases r using Runs.cs with
        | refl => exact ⟨q1, by omega⟩
        | cons h2 _ => rw [hx] at h2; cases h2
      · exact Or.inr (Runs.cons q1 q)
/-- The reasons that there are; it is too much with none but the last byte that was asked for. -/
theorem step_bad {c d : Cfg} {k : Nat} (h : step bs M c = some d) (hd : d.st = .bad k) : (10 ≤ k ∧ k ≤ 14) ∨ (k = 62 ∧ M ≤ d.out.length) := by
  have hg : ∀ (s : St) (b p : Nat) (c : Cfg), s ≠ .bad k → (give M s b p c).st = .bad k → (10 ≤ k ∧ k ≤ 14) ∨ (k = 62 ∧ M ≤ (give M s b p c).out.length) := by
    intro s b p c hk h
    unfold give at *
    by_cases h1 : c.out.length < M
    · rw [if_pos h1] at h; exact absurd h hk
    · rw [if_neg h1] at h ⊢
      simp at h
      exact Or.inr ⟨h.symm, by show M ≤ c.out.length; omega⟩
  obtain ⟨st, pos, out, times⟩ := c
  unfold step at h
  cases st using St.el with
  | head last =>
    cases last with
    | true => simp only [Option.some.injEq] at h; subst h; cases hd
    | false =>
      simp only [Option.map_eq_some_iff] at h
      obtain ⟨v, hv, rfl⟩ := h
      simp only [] at hd
      split at hd <;> (first | (simp at hd; done) | (simp at hd; subst hd; exact Or.inl (by decide)))
  | slen last => simp only [Option.map_eq_some_iff] at h; obtain ⟨v, hv, rfl⟩ := h; cases hd
  | snot last l =>
    simp only [Option.map_eq_some_iff] at h
    obtain ⟨v, hv, rfl⟩ := h
    simp only [] at hd
    split at hd <;> (first | (simp at hd; done) | (simp at hd; subst hd; exact Or.inl (by decide)))
  | sraw last n =>
    cases n with
    | zero => simp only [Option.some.injEq] at h; subst h; cases hd
    | succ n =>
      simp only [Option.map_eq_some_iff] at h
      obtain ⟨v, hv, rfl⟩ := h
      exact hg _ _ _ _ (by simp) hd
  | dnum last =>
    simp only [Option.map_eq_some_iff] at h
    obtain ⟨v, hv, rfl⟩ := h
    simp only [] at hd
    split at hd <;> (first | (simp at hd; done) | (simp at hd; subst hd; exact Or.inl (by decide)))
  | dfst last a b i j first =>
    simp only [] at h
    split at h
    · simp only [Option.map_eq_some_iff] at h; obtain ⟨v, hv, rfl⟩ := h; cases hd
    · simp only [Option.some.injEq] at h; subst h; simp only [] at hd; split at hd <;> (first | (simp at hd; done) | (simp at hd; subst hd; exact Or.inl (by decide)))
  | dsym last a b code l =>
    simp only [] at h
    split at h
    · cases e : sread code (bs.drop pos) using SR.el with
      | cut => rw [e] at h; cases h
      | bad j => rw [e] at h; simp only [Option.some.injEq] at h; subst h; (first | (simp at hd; done) | (simp at hd; subst hd; exact Or.inl (by decide)))
      | got s n => rw [e] at h; simp only [Option.some.injEq] at h; subst h; simp only [] at hd; (repeat' split at hd) <;> (first | (simp at hd; done) | (simp at hd; subst hd; exact Or.inl (by decide)))
    · simp only [Option.some.injEq] at h; subst h; simp only [] at hd; split at hd <;> (first | (simp at hd; done) | (simp at hd; subst hd; exact Or.inl (by decide)))
  | drep last a b code l s =>
    simp only [Option.map_eq_some_iff] at h
    obtain ⟨v, hv, rfl⟩ := h
    simp only [] at hd
    (repeat' split at hd) <;> (first | (simp at hd; done) | (simp at hd; subst hd; exact Or.inl (by decide)))
  | sym last lit di =>
    simp only [] at h
    cases e : sread lit (bs.drop pos) using SR.el with
    | cut => rw [e] at h; cases h
    | bad j => rw [e] at h; simp only [Option.some.injEq] at h; subst h; (first | (simp at hd; done) | (simp at hd; subst hd; exact Or.inl (by decide)))
    | got s n =>
      rw [e] at h
      simp only [] at h
      split at h
      · simp only [Option.some.injEq] at h; subst h; exact hg _ _ _ _ (by simp) hd
      · simp only [Option.some.injEq] at h; subst h; simp only [] at hd; (repeat' split at hd) <;> (first | (simp at hd; done) | (simp at hd; subst hd; exact Or.inl (by decide)))
  | lext last lit di s => simp only [Option.map_eq_some_iff] at h; obtain ⟨v, hv, rfl⟩ := h; cases hd
  | dist last lit di n =>
    simp only [] at h
    cases e : sread di (bs.drop pos) using SR.el with
    | cut => rw [e] at h; cases h
    | bad j => rw [e] at h; simp only [Option.some.injEq] at h; subst h; (first | (simp at hd; done) | (simp at hd; subst hd; exact Or.inl (by decide)))
    | got s n => rw [e] at h; simp only [Option.some.injEq] at h; subst h; simp only [] at hd; split at hd <;> (first | (simp at hd; done) | (simp at hd; subst hd; exact Or.inl (by decide)))
  | dext last lit di n x =>
    simp only [Option.map_eq_some_iff] at h
    obtain ⟨v, hv, rfl⟩ := h
    simp only [] at hd
    split at hd <;> (first | (simp at hd; done) | (simp at hd; subst hd; exact Or.inl (by decide)))
  | copy last lit di n d =>
    cases n with
    | zero => simp only [Option.some.injEq] at h; subst h; cases hd
    | succ n => simp only [Option.some.injEq] at h; subst h; exact hg _ _ _ _ (by simp) hd
  | done => cases h
  | bad y => cases h
theorem runs_bad {c d : Cfg} {k : Nat} (h : Runs bs M c d) (hc : c.st ≠ .bad k) (hd : d.st = .bad k) : (10 ≤ k ∧ k ≤ 14) ∨ (k = 62 ∧ M ≤ d.out.length) := by
  induction h using Runs.el with
  | refl => exact absurd hd hc
  | @cons c x e s1 r ih =>
    by_cases hx : x.st = .bad k
    · have hn : ∀ (K : Nat), step bs K x = none := fun K => by unfold step; rw [hx]
      cases r using Runs.cs with
      | refl => exact step_bad s1 hx
      | cons h2 _ => rw [hn] at h2; cases h2
    · exact ih hx hd
theorem stands_bad {I : List Nat} {c : Cfg} {k : Nat} (h : Stands I M c) (e : c.st = .bad k) : (10 ≤ k ∧ k ≤ 14) ∨ (k = 62 ∧ M ≤ c.out.length) := runs_bad h.1 (by simp) e
theorem stands_62 {I : List Nat} {c : Cfg} (h : Stands I M c) (hc : c.out.length < M) : c.st ≠ .bad 62 := fun e => by
  have := stands_bad h e
  omega
theorem stands_nil (M : Nat) : Stands [] M c0 := ⟨Runs.refl _, by simp [step, c0, allb, num?]⟩
end
end Go.Proofs.YtogednaamndpgaaDoor

/-
  What the document says of a member's header. No walk.
-/
namespace Go.Proofs.YtogednaamndpgaaDoor
open Go.RowKit
set_option linter.unusedVariables false
def hflag (fl : Nat) (r : Gr) : Gr := if r.why = 0 ∧ 32 ≤ fl then gstop 42 (r.pos - 1) r else r
def hoth (b : List Nat) (r : Gr) : Gr := if r.why = 0 then gnum b 6 r else r
def hxb (n : Nat) (r : Gr) : Gr := if r.why = 0 ∧ 1024 < n then gstop 46 (r.pos - 1) r else r
def hxt (b : List Nat) (n : Nat) (r : Gr) : Gr := if r.why = 0 then gnum b n r else r
def hext (b : List Nat) (fl : Nat) (r : Gr) : Gr := if r.why = 0 ∧ fl / 4 % 2 = 1 then hxt b (gval b 2 r) (hxb (gval b 2 r) (gnum b 2 r)) else r
def hnam (b : List Nat) (fl : Nat) (r : Gr) : Gr × List Nat := if r.why = 0 ∧ fl / 8 % 2 = 1 then gtext b r else (r, [])
def hcom (b : List Nat) (fl : Nat) (r : Gr) : Gr := if r.why = 0 ∧ fl / 16 % 2 = 1 then (gtext b r).1 else r
def hsb (x s : Nat) (r : Gr) : Gr := if r.why = 0 ∧ x ≠ s % 65536 then gstop 43 (r.pos - 1) r else r
def hsum (b : List Nat) (fl f : Nat) (r : Gr) : Gr := if r.why = 0 ∧ fl / 2 % 2 = 1 then hsb (gval b 2 r) (sm 0 ((b.take r.pos).drop f)) (gnum b 2 r) else r
def hmag (b : List Nat) (r : Gr) : Gr := gis b 8 41 (gis b 139 40 (gis b 31 40 r))
def hres (b : List Nat) (fl f : Nat) (r : Gr) : Gr × List Nat := (hsum b fl f (hcom b fl (hnam b fl (hext b fl (hoth b (hflag fl r)))).1), (hnam b fl (hext b fl (hoth b (hflag fl r)))).2)
def ghead (b : List Nat) (r : Gr) : Gr × List Nat := if (hmag b r).why = 0 then hres b (gval b 1 (hmag b r)) r.pos (gnum b 1 (hmag b r)) else (hmag b r, [])
section
variable {b : List Nat} {r : Gr}
theorem gis_pos (v y : Nat) (h : r.pos ≤ b.length) : (gis b v y r).pos ≤ b.length := by
  unfold gis
  split
  · split
    · exact gnum_pos b 1 r h
    · exact gnum_pos b 1 r h
  · exact h
theorem gz_pos (f : Nat) : ∀ (k m : Nat) (r : Gr), r.pos ≤ b.length → (gz b k f m r).1.pos ≤ b.length
  | 0, m, r, h => h
  | k + 1, m, r, h => by
    rw [gz_succ]
    have := gnum_pos b 1 r h
    split
    · exact this
    · split
      · exact this
      · split
        · exact this
        · exact gz_pos f k (m + 1) _ this
theorem gtext_pos (h : r.pos ≤ b.length) : (gtext b r).1.pos ≤ b.length := by
  unfold gtext
  split
  · exact gz_pos _ _ _ _ h
  · exact h
theorem hflag_pos (fl : Nat) (h : r.pos ≤ b.length) : (hflag fl r).pos ≤ b.length := by unfold hflag; split <;> exact h
theorem hoth_pos (h : r.pos ≤ b.length) : (hoth b r).pos ≤ b.length := by
  unfold hoth; split
  · exact gnum_pos _ _ _ h
  · exact h
theorem hxb_pos (n : Nat) (h : r.pos ≤ b.length) : (hxb n r).pos ≤ b.length := by unfold hxb; split <;> exact h
theorem hxt_pos (n : Nat) (h : r.pos ≤ b.length) : (hxt b n r).pos ≤ b.length := by
  unfold hxt; split
  · exact gnum_pos _ _ _ h
  · exact h
theorem hext_pos (fl : Nat) (h : r.pos ≤ b.length) : (hext b fl r).pos ≤ b.length := by
  unfold hext; split
  · exact hxt_pos _ (hxb_pos _ (gnum_pos _ _ _ h))
  · exact h
theorem hnam_pos (fl : Nat) (h : r.pos ≤ b.length) : (hnam b fl r).1.pos ≤ b.length := by
  unfold hnam; split
  · exact gtext_pos h
  · exact h
theorem hcom_pos (fl : Nat) (h : r.pos ≤ b.length) : (hcom b fl r).pos ≤ b.length := by
  unfold hcom; split
  · exact gtext_pos h
  · exact h
end
theorem gnum_mono (b : List Nat) (n : Nat) (r : Gr) : r.pos ≤ (gnum b n r).pos := by
  unfold gnum; split
  · exact Nat.le_refl _
  · show r.pos ≤ r.pos + n; omega
theorem gis_mono (b : List Nat) (v y : Nat) (r : Gr) : r.pos ≤ (gis b v y r).pos := by
  unfold gis; split
  · split
    · exact gnum_mono b 1 r
    · exact gnum_mono b 1 r
  · exact Nat.le_refl _
theorem gz_mono (b : List Nat) (f : Nat) : ∀ (k m : Nat) (r : Gr), r.pos ≤ (gz b k f m r).1.pos
  | 0, m, r => Nat.le_refl _
  | k + 1, m, r => by
    rw [gz_succ]
    have h := gnum_mono b 1 r
    split
    · exact h
    · split
      · exact h
      · split
        · exact h
        · exact Nat.le_trans h (gz_mono b f k (m + 1) _)
theorem gtext_mono (b : List Nat) (r : Gr) : r.pos ≤ (gtext b r).1.pos := by
  unfold gtext; split
  · exact gz_mono _ _ _ _ _
  · exact Nat.le_refl _
theorem ghead_mono {b : List Nat} {r r4 r5 r6 r7 r8 r9 : Gr} {fl f : Nat} {nm : List Nat} (hf : r.pos = f) (h4 : gnum b 1 (hmag b r) = r4) (h5 : hflag fl r4 = r5) (h6 : hoth b r5 = r6) (h7 : hext b fl r6 = r7) (h8 : hnam b fl r7 = (r8, nm)) (h9 : hcom b fl r8 = r9) (h0 : r9.why = 0) : f ≤ r9.pos := by
  have a1 : r.pos ≤ (hmag b r).pos := Nat.le_trans (Nat.le_trans (gis_mono b 31 40 r) (gis_mono b 139 40 _)) (gis_mono b 8 41 _)
  have a2 : (hmag b r).pos ≤ r4.pos := by rw [← h4]; exact gnum_mono _ _ _
  have a3 : r4.pos ≤ r5.pos := by rw [← h5]; unfold hflag; split <;> exact Nat.le_refl _
  have a4 : r5.pos ≤ r6.pos := by
    rw [← h6]; unfold hoth; split
    · exact gnum_mono _ _ _
    · exact Nat.le_refl _
  have a5 : r6.pos ≤ r7.pos := by
    rw [← h7]; unfold hext; split
    · have b1 := gnum_mono b 2 r6
      have b2 : (gnum b 2 r6).pos ≤ (hxb (gval b 2 r6) (gnum b 2 r6)).pos := by unfold hxb; split <;> exact Nat.le_refl _
      refine Nat.le_trans b1 (Nat.le_trans b2 ?_)
      unfold hxt; split
      · exact gnum_mono _ _ _
      · exact Nat.le_refl _
    · exact Nat.le_refl _
  have a6 : r7.pos ≤ r8.pos := by
    have : (hnam b fl r7).1 = r8 := by rw [h8]
    rw [← this]; unfold hnam; split
    · exact gtext_mono _ _
    · exact Nat.le_refl _
  have a7 : r8.pos ≤ r9.pos := by
    rw [← h9]; unfold hcom; split
    · exact gtext_mono _ _
    · exact Nat.le_refl _
  omega
theorem gval_two {b : List Nat} {r : Gr} (ho : Oct b) : gval b 2 r < 65536 := by
  unfold gval
  split
  · decide
  · have := le_lt ((b.drop r.pos).take 2) (fun x hx => ho x (List.mem_of_mem_drop (List.mem_of_mem_take hx)))
    have h2 : ((b.drop r.pos).take 2).length ≤ 2 := by rw [List.length_take]; omega
    have h3 : 256 ^ ((b.drop r.pos).take 2).length ≤ 256 ^ 2 := Nat.pow_le_pow_right (by decide) h2
    omega
theorem gnum_two {b : List Nat} {r : Gr} (h : r.why = 0) (h0 : (gnum b 2 r).why = 0) : 1 ≤ (gnum b 2 r).pos := by
  unfold gnum at h0 ⊢
  split
  · rename_i hc
    rw [if_pos hc] at h0
    simp [gstop] at h0
  · show 1 ≤ r.pos + 2; omega
/-- What the run's small calls come to while the run alone is worked on. -/
structure Ge (w : World) (base R : Nat) (a : Option Addr) (L C : Nat) (vE : Value) (b : List Nat) : Prop where
  oct : Oct b
  len : b.length = L
  big : L ≤ 100000000000
  cap : L ≤ C
  nil : a = none → L = 0 ∧ C = 0
  apart : ∀ g o, a = some ⟨g, o, none⟩ → b ≠ [] → g ≠ R
  lies : Lies w a b
section
variable {w u : World} {base R L C : Nat} {a : Option Addr} {vE : Value} {b : List Nat} {r : Gr}
theorem Ge.at (h : Ge w base R a L C vE b) (o : Only R w u) : Lies u a b := by
  rcases h.lies with e | ⟨g, of, e, hc⟩
  · exact Or.inl e
  · by_cases hb : b = []
    · exact Or.inl hb
    · exact Or.inr ⟨g, of, e, fun i x hi => (o.cell (p := ⟨g, of + i, none⟩) (h.apart g of e hb)).trans (hc i x hi)⟩
end
end Go.Proofs.YtogednaamndpgaaDoor

/-
  A member's header: what the document says of it is what the machine comes to. No walk.
-/
namespace Go.Proofs.YtogednaamndpgaaDoor
open Go.RowKit
set_option linter.unusedVariables false
/-- It was stopped, or the bytes ended within a member. -/
def Jz (b : List Nat) (T : List Gev) (y a : Nat) : Prop := y ≠ 0 ∧ ∃ k s, Rch b k s T ∧ ((s.why = 0 ∧ s.wh = false ∧ k = b.length ∧ y = 1 ∧ a = b.length) ∨ (s.why = y ∧ k = a + 1))
abbrev Js (b : List Nat) (r : Gr) : Prop := Jz b r.ev r.why r.sat
/-- Within a member's header that began at f. -/
structure Hp (b : List Nat) (f : Nat) (r : Gr) (s : Gs) (k : Nat) (n : List Nat) : Prop where
  why : r.why = 0
  rch : Rch b r.pos s r.ev
  sw : s.why = 0
  nx : s.nx = k
  sum : s.sm = sm 0 ((b.take r.pos).drop f)
  fp : f ≤ r.pos
  wh : s.wh = false
  nm : s.nm = n
  nb : s.nb < 4294967296
/-- Ahead of a field of the header, or of its end. -/
structure Fp (b : List Nat) (f : Nat) (r : Gr) (s : Gs) (n : List Nat) : Prop where
  why : r.why = 0
  rch : Rch b r.pos (gfield s).1 (r.ev ++ evs (r.pos - 1) (gfield s).2)
  sw : s.why = 0
  sum : s.sm = sm 0 ((b.take r.pos).drop f)
  fp : f < r.pos
  wh : s.wh = false
  nm : s.nm = n
  nb : s.nb < 4294967296
section
variable {b : List Nat} {f : Nat} {r : Gr} {s : Gs} {k : Nat} {n : List Nat}
theorem sum_step {p x : Nat} (hf : f ≤ p) (hx : b[p]? = some x) : sm 0 ((b.take (p + 1)).drop f) = stp (sm 0 ((b.take p).drop f)) x := by
  obtain ⟨hp, he⟩ := List.getElem?_eq_some_iff.1 hx
  rw [List.take_succ_eq_append_getElem hp, he, List.drop_append_of_le_length (by rw [List.length_take]; omega), sm_append]
  rfl
theorem gval_one {x : Nat} (hx : b[r.pos]? = some x) : gval b 1 r = x := by
  obtain ⟨hp, he⟩ := List.getElem?_eq_some_iff.1 hx
  unfold gval
  rw [if_neg (by omega), List.drop_eq_getElem_cons hp, he]
  simp [le]
theorem gnum_go {m : Nat} (h : r.pos + m ≤ b.length) : gnum b m r = { r with pos := r.pos + m } := by unfold gnum; rw [if_neg (by omega)]
theorem gnum_cut {m : Nat} (h : b.length < r.pos + m) : gnum b m r = gstop 1 b.length r := by unfold gnum; rw [if_pos h]
theorem Hp.cut (h : Hp b f r s k n) (hl : ¬ r.pos < b.length) : Jz b r.ev 1 b.length := ⟨by decide, r.pos, s, h.rch, Or.inl ⟨h.sw, h.wh, by have := h.rch.1; omega, rfl, rfl⟩⟩
theorem at_lt (h : r.pos < b.length) : ∃ x, b[r.pos]? = some x := ⟨_, List.getElem?_eq_getElem h⟩
/-- One byte more. -/
theorem Hp.one (h : Hp b f r s k n) (hk : k ≠ 9) {x k' : Nat} {n' : List Nat} (hx : b[r.pos]? = some x) {s1 : Gs} (e : gst s x = (s1, [])) (h1 : s1.why = 0) (h2 : s1.nx = k') (h3 : s1.sm = stp s.sm x) (h4 : s1.wh = false) (h5 : s1.nm = n') (h6 : s1.nb < 4294967296) : Hp b f { r with pos := r.pos + 1 } s1 k' n' := by
  have q := h.rch.step h.sw hx (s1 := s1) (E := []) (Or.inr ⟨by rw [h.nx]; exact hk, by rw [e], by rw [e]⟩)
  refine ⟨h.why, by simpa [evs] using q, h1, h2, ?_, Nat.le_succ_of_le h.fp, h4, h5, h6⟩
  rw [h3, h.sum]
  exact (sum_step h.fp hx).symm
/-- One byte that stops it. -/
theorem Hp.stop (h : Hp b f r s k n) (hk : k ≠ 9) {x y : Nat} (hy : y ≠ 0) (hx : b[r.pos]? = some x) {s1 : Gs} (e : gst s x = (s1, [])) (h1 : s1.why = y) : Jz b r.ev y r.pos := by
  have q := h.rch.step h.sw hx (s1 := s1) (E := []) (Or.inr ⟨by rw [h.nx]; exact hk, by rw [e], by rw [e]⟩)
  exact ⟨hy, r.pos + 1, s1, by simpa [evs] using q, Or.inr ⟨h1, rfl⟩⟩
/-- One byte behind which a field comes, or the end. -/
theorem Hp.field (h : Hp b f r s k n) (hk : k ≠ 9) {x : Nat} {n' : List Nat} (hx : b[r.pos]? = some x) {s1 : Gs} (e : gst s x = gfield s1) (h1 : s1.why = 0) (h3 : s1.sm = stp s.sm x) (h4 : s1.wh = false) (h5 : s1.nm = n') (h6 : s1.nb < 4294967296) : Fp b f { r with pos := r.pos + 1 } s1 n' := by
  have q := h.rch.step h.sw hx (s1 := (gfield s1).1) (E := (gfield s1).2) (Or.inr ⟨by rw [h.nx]; exact hk, by rw [e], by rw [e]⟩)
  refine ⟨h.why, by simpa using q, h1, ?_, Nat.lt_succ_of_le h.fp, h4, h5, h6⟩
  rw [h3, h.sum]
  exact (sum_step h.fp hx).symm
/-- A field comes. -/
theorem Fp.on (h : Fp b f r s n) {s1 : Gs} (e : gfield s = (s1, [])) (h1 : s1.why = 0) (h2 : s1.nx = k) (h3 : s1.sm = s.sm) (h4 : s1.wh = false) (h5 : s1.nm = n) (h6 : s1.nb < 4294967296) : Hp b f r s1 k n := by
  refine ⟨h.why, ?_, h1, h2, h3.trans h.sum, Nat.le_of_lt h.fp, h4, h5, h6⟩
  have := h.rch
  rw [e] at this
  simpa [evs] using this
theorem gis_stop (v y : Nat) (h : r.why ≠ 0) : gis b v y r = r := by unfold gis; rw [if_neg h]
theorem gis_cut (v y : Nat) (h : r.why = 0) (hl : ¬ r.pos < b.length) : gis b v y r = gstop 1 b.length r := by
  unfold gis
  rw [if_pos h, gnum_cut (by omega)]
  rw [if_neg (by rintro ⟨_, q⟩; simp [gstop] at q)]
theorem gis_at {v y x : Nat} (h : r.why = 0) (hx : b[r.pos]? = some x) : gis b v y r = if x = v then { r with pos := r.pos + 1 } else gstop y r.pos { r with pos := r.pos + 1 } := by
  obtain ⟨hp, _⟩ := List.getElem?_eq_some_iff.1 hx
  unfold gis
  rw [if_pos h, gnum_go (by omega), gval_one hx]
  by_cases e : x = v
  · rw [if_pos e, if_neg (fun q => q.1 e)]
  · rw [if_neg e, if_pos ⟨e, h⟩]
    simp
/-- A byte that must be there. -/
theorem Hp.is (h : Hp b f r s k n) (hk : k ≠ 9) (v y k' : Nat) (hy : y ≠ 0) (s1 : Gs) (e1 : gst s v = (s1, [])) (h1 : s1.why = 0) (h2 : s1.nx = k') (h3 : s1.sm = stp s.sm v) (h4 : s1.wh = false) (h5 : s1.nm = n) (h6 : s1.nb < 4294967296) (e2 : ∀ x, x ≠ v → ∃ s', s'.why = y ∧ gst s x = (s', [])) : (∃ s1, Hp b f (gis b v y r) s1 k' n) ∨ Js b (gis b v y r) := by
  by_cases hl : r.pos < b.length
  · obtain ⟨x, hx⟩ := at_lt hl
    rw [gis_at h.why hx]
    by_cases e : x = v
    · subst e
      rw [if_pos rfl]
      exact Or.inl ⟨s1, h.one hk hx e1 h1 h2 h3 h4 h5 h6⟩
    · rw [if_neg e]
      obtain ⟨s', q1, q2⟩ := e2 x e
      exact Or.inr (h.stop hk hy hx q2 q1)
  · rw [gis_cut v y h.why hl]
    exact Or.inr (h.cut hl)
/-- Ahead of a member. -/
structure Sp0 (b : List Nat) (r : Gr) (s : Gs) : Prop where
  why : r.why = 0
  rch : Rch b r.pos s r.ev
  sw : s.why = 0
  nx : (s.nx = 0 ∧ s.wh = false) ∨ (s.nx = 12 ∧ b[r.pos]? = some 31)
  nm : s.nm = []
  nb : s.nb < 4294967296
theorem Sp0.is (h : Sp0 b r s) : (∃ s1, Hp b r.pos (gis b 31 40 r) s1 1 []) ∨ Js b (gis b 31 40 r) := by
  by_cases hl : r.pos < b.length
  · obtain ⟨x, hx⟩ := at_lt hl
    rw [gis_at h.why hx]
    by_cases e : x = 31
    · subst e
      rw [if_pos rfl]
      have eg : gst s 31 = (gbgn 31 s, []) := by
        unfold gst
        rcases h.nx with ⟨q, _⟩ | ⟨q, _⟩ <;> rw [q] <;> rfl
      have q := h.rch.step h.sw hx (s1 := gbgn 31 s) (E := []) (Or.inr ⟨by rcases h.nx with ⟨q, _⟩ | ⟨q, _⟩ <;> rw [q] <;> decide, by rw [eg], by rw [eg]⟩)
      refine Or.inl ⟨gbgn 31 s, h.why, by simpa [evs] using q, h.sw, rfl, ?_, Nat.le_succ _, rfl, h.nm, h.nb⟩
      have := sum_step (Nat.le_refl r.pos) hx
      rw [show (b.take r.pos).drop r.pos = [] by rw [List.drop_eq_nil_iff, List.length_take]; omega] at this
      exact this.symm
    · rw [if_neg e]
      rcases h.nx with ⟨q, _⟩ | ⟨_, q⟩
      · have eg : gst s x = (gbad 40 s, []) := by unfold gst; rw [q]; simp only [if_neg e]
        have q2 := h.rch.step h.sw hx (s1 := gbad 40 s) (E := []) (Or.inr ⟨by rw [q]; decide, by rw [eg], by rw [eg]⟩)
        exact Or.inr ⟨by show (40 : Nat) ≠ 0; decide, r.pos + 1, _, by simpa [evs, gstop] using q2, Or.inr ⟨rfl, rfl⟩⟩
      · rw [hx] at q; exact absurd (Option.some.inj q) e
  · rw [gis_cut _ _ h.why hl]
    rcases h.nx with ⟨_, q⟩ | ⟨_, q⟩
    · exact Or.inr ⟨by show (1 : Nat) ≠ 0; decide, r.pos, s, h.rch, Or.inl ⟨h.sw, q, by have := h.rch.1; omega, rfl, rfl⟩⟩
    · exact absurd (List.getElem?_eq_some_iff.1 q).1 hl
theorem Sp0.mag (h : Sp0 b r s) : (∃ s1, Hp b r.pos (hmag b r) s1 3 []) ∨ Js b (hmag b r) := by
  unfold hmag
  rcases h.is with ⟨s1, q⟩ | q
  · have hr : ∀ r1 : Gr, Hp b r.pos r1 s1 1 [] → (∃ s1, Hp b r.pos (gis b 139 40 r1) s1 2 []) ∨ Js b (gis b 139 40 r1) := fun r1 q => q.is (by decide) 139 40 2 (by decide) { gcnt 139 s1 with nx := 2 } (by unfold gst; rw [q.nx]; rfl) q.sw rfl rfl q.wh q.nm q.nb (fun x hx => ⟨gbad 40 s1, rfl, by unfold gst; rw [q.nx]; simp only [if_neg hx]⟩)
    rcases hr _ q with ⟨s2, q2⟩ | q2
    · exact q2.is (by decide) 8 41 3 (by decide) { gcnt 8 s2 with nx := 3 } (by unfold gst; rw [q2.nx]; rfl) q2.sw rfl rfl q2.wh q2.nm q2.nb (fun x hx => ⟨gbad 41 s2, rfl, by unfold gst; rw [q2.nx]; simp only [if_neg hx]⟩)
    · rw [gis_stop 8 41 q2.1]; exact Or.inr q2
  · rw [gis_stop 139 40 q.1, gis_stop 8 41 q.1]; exact Or.inr q
/-- The flags. -/
theorem Hp.flags (h : Hp b f r s 3 []) : (∃ s1, Hp b f (hflag (gval b 1 r) (gnum b 1 r)) s1 4 [] ∧ s1.lf = 6 ∧ s1.fl = gval b 1 r ∧ gval b 1 r < 32) ∨ Js b (hflag (gval b 1 r) (gnum b 1 r)) := by
  by_cases hl : r.pos < b.length
  · obtain ⟨x, hx⟩ := at_lt hl
    rw [gval_one hx, gnum_go (by omega)]
    unfold hflag
    by_cases e : x < 32
    · rw [if_neg (fun q => by omega)]
      exact Or.inl ⟨{ gcnt x s with fl := x, nx := 4, lf := 6 }, h.one (by decide) hx (by unfold gst; rw [h.nx]; simp only [if_pos e]) h.sw rfl rfl h.wh h.nm h.nb, rfl, rfl, e⟩
    · rw [if_pos ⟨h.why, by omega⟩]
      have := h.stop (by decide) (y := 42) (by decide) hx (s1 := gbad 42 s) (by unfold gst; rw [h.nx]; simp only [if_neg e]) rfl
      exact Or.inr (by simpa [Js, gstop] using this)
  · rw [gnum_cut (by omega)]
    unfold hflag
    rw [if_neg (fun q => by have := q.1; simp [gstop] at this)]
    exact Or.inr (h.cut hl)
/-- Bytes that say nothing. -/
theorem any_run : ∀ (m : Nat) (r : Gr) (s : Gs), Hp b f r s 4 n → s.lf = m → 1 ≤ m → (b.length < r.pos + m ∧ Jz b r.ev 1 b.length) ∨ (r.pos + m ≤ b.length ∧ ∃ sf, Fp b f { r with pos := r.pos + m } sf n ∧ sf.fl = s.fl)
  | 0, r, s, h, hm, h1 => by omega
  | m + 1, r, s, h, hm, h1 => by
    by_cases hl : r.pos < b.length
    · obtain ⟨x, hx⟩ := at_lt hl
      have eg : gst s x = gany x s := by unfold gst; rw [h.nx]; rfl
      unfold gany at eg
      by_cases e : m = 0
      · subst e
        rw [if_pos (by omega)] at eg
        exact Or.inr ⟨hl, _, h.field (by decide) hx eg h.sw rfl h.wh h.nm h.nb, rfl⟩
      · rw [if_neg (by omega)] at eg
        have q := h.one (by decide) hx eg h.sw h.nx rfl h.wh h.nm h.nb
        rcases any_run m _ _ q (by show s.lf - 1 = m; omega) (by omega) with ⟨q1, q2⟩ | ⟨q1, sf, q2, q3⟩
        · exact Or.inl ⟨by have : b.length < r.pos + 1 + m := q1; omega, q2⟩
        · refine Or.inr ⟨by have : r.pos + 1 + m ≤ b.length := q1; omega, sf, ?_, q3⟩
          have e2 : r.pos + 1 + m = r.pos + (m + 1) := by omega
          have : Fp b f { r with pos := r.pos + 1 + m } sf n := q2
          rwa [e2] at this
    · exact Or.inl ⟨by have := h.rch.1; omega, h.cut hl⟩
theorem Hp.any (h : Hp b f r s 4 n) (m : Nat) (hm : s.lf = m) (h1 : 1 ≤ m) : (∃ sf, Fp b f (gnum b m r) sf n ∧ sf.fl = s.fl) ∨ Js b (gnum b m r) := by
  rcases any_run m r s h hm h1 with ⟨q1, q2⟩ | ⟨q1, sf, q2, q3⟩
  · rw [gnum_cut q1]; exact Or.inr q2
  · rw [gnum_go q1]; exact Or.inl ⟨sf, q2, q3⟩
theorem Hp.oth (h : Hp b f r s 4 n) (hm : s.lf = 6) : (∃ sf, Fp b f (hoth b r) sf n ∧ sf.fl = s.fl) ∨ Js b (hoth b r) := by
  unfold hoth
  rw [if_pos h.why]
  exact h.any 6 hm (by decide)
theorem gath_lt {s : Gs} {x : Nat} (hx : x < 256) (h : s.nb < 4294967296) : (gath x s).nb < 4294967296 := by show s.nb / 256 + x * 16777216 < _; omega
/-- Two bytes of a number. -/
theorem gval_two_at {x z : Nat} (hx : b[r.pos]? = some x) (hz : b[r.pos + 1]? = some z) : gval b 2 r = x + 256 * z := by
  obtain ⟨hp, he⟩ := List.getElem?_eq_some_iff.1 hx
  obtain ⟨hp2, he2⟩ := List.getElem?_eq_some_iff.1 hz
  unfold gval
  rw [if_neg (by omega), List.drop_eq_getElem_cons hp, List.drop_eq_getElem_cons hp2, he, he2]
  simp [le]
theorem nb_two {s : Gs} {x z : Nat} (hb : s.nb < 4294967296) : (s.nb / 256 + x * 16777216) / 256 + z * 16777216 = s.nb / 65536 + x * 65536 + z * 16777216 := by omega
theorem Fp.ext (ho : Oct b) (h : Fp b f r s []) (fl : Nat) (hfl : s.fl = fl) : (∃ sf, Fp b f (hext b fl r) sf [] ∧ sf.fl / 4 % 2 = 0 ∧ sf.fl / 8 % 2 = fl / 8 % 2 ∧ sf.fl / 16 % 2 = fl / 16 % 2 ∧ sf.fl / 2 % 2 = fl / 2 % 2) ∨ Js b (hext b fl r) := by
  unfold hext
  by_cases h4 : fl / 4 % 2 = 1
  · rw [if_pos ⟨h.why, h4⟩]
    have q := h.on (k := 5) (s1 := { s with fl := s.fl - 4, nx := 5, lf := 2 }) (by unfold gfield; rw [if_pos (by rw [hfl]; exact h4)]) h.sw rfl rfl h.wh h.nm h.nb
    have hbits : (s.fl - 4) / 4 % 2 = 0 ∧ (s.fl - 4) / 8 % 2 = fl / 8 % 2 ∧ (s.fl - 4) / 16 % 2 = fl / 16 % 2 ∧ (s.fl - 4) / 2 % 2 = fl / 2 % 2 := by rw [hfl]; omega
    obtain ⟨s1, hs1⟩ : ∃ s1, s1 = { s with fl := s.fl - 4, nx := 5, lf := 2 } := ⟨_, rfl⟩
    rw [← hs1] at q
    have hlf : s1.lf = 2 := by rw [hs1]
    have hf1 : s1.fl = s.fl - 4 := by rw [hs1]
    clear hs1
    by_cases hl : r.pos < b.length
    · obtain ⟨x, hx⟩ := at_lt hl
      have hxo := ho x (List.mem_of_getElem? hx)
      have e1 : gst s1 x = (gath x (gcnt x s1), []) := by
        unfold gst; rw [q.nx]; show gext (gath x (gcnt x s1)) = _
        unfold gext; rw [if_neg (by show ¬ s1.lf - 1 = 0; omega)]
      have q1 := q.one (by decide) hx e1 q.sw q.nx rfl q.wh q.nm (gath_lt hxo q.nb)
      by_cases hl2 : r.pos + 1 < b.length
      · obtain ⟨z, hz⟩ := at_lt (r := { r with pos := r.pos + 1 }) hl2
        have hzo := ho z (List.mem_of_getElem? hz)
        have e2 : gst (gath x (gcnt x s1)) z = gext (gath z (gcnt z (gath x (gcnt x s1)))) := by unfold gst; rw [q1.nx]; rfl
        have en : (gath z (gcnt z (gath x (gcnt x s1)))).nb / 65536 = x + 256 * z := by
          show ((s1.nb / 256 + x * 16777216) / 256 + z * 16777216) / 65536 = _
          have := q.nb
          omega
        unfold gext at e2
        rw [if_pos (by show s1.lf - 1 - 1 = 0; omega), en] at e2
        rw [gval_two_at hx hz, gnum_go (by omega)]
        unfold hxb
        by_cases hbig : 1024 < x + 256 * z
        · rw [if_pos hbig] at e2
          have q2 := q1.stop (by decide) (y := 46) (by decide) hz e2 rfl
          rw [if_pos ⟨h.why, hbig⟩]
          unfold hxt
          rw [if_neg (by simp [gstop])]
          exact Or.inr q2
        · rw [if_neg hbig] at e2
          rw [if_neg (fun q => hbig q.2)]
          unfold hxt
          rw [if_pos h.why]
          by_cases h0 : x + 256 * z = 0
          · rw [if_pos h0] at e2
            have q2 := q1.field (by decide) hz e2 q.sw rfl q.wh q.nm (gath_lt hzo q1.nb)
            rw [h0, gnum_go (by show r.pos + 2 + 0 ≤ b.length; omega)]
            exact Or.inl ⟨_, q2, by show (s1.fl) / 4 % 2 = 0; rw [hf1]; exact hbits.1, by show s1.fl / 8 % 2 = _; rw [hf1]; exact hbits.2.1, by show s1.fl / 16 % 2 = _; rw [hf1]; exact hbits.2.2.1, by show s1.fl / 2 % 2 = _; rw [hf1]; exact hbits.2.2.2⟩
          · rw [if_neg h0] at e2
            have q2 := q1.one (by decide) hz e2 q.sw rfl rfl q.wh q.nm (gath_lt hzo q1.nb)
            rcases q2.any (x + 256 * z) rfl (by omega) with ⟨sf, q3, q4⟩ | q3
            · refine Or.inl ⟨sf, q3, ?_⟩
              have e5 : sf.fl = s.fl - 4 := q4.trans hf1
              rw [e5]; exact hbits
            · exact Or.inr q3
      · rw [gnum_cut (by omega)]
        unfold hxb
        rw [if_neg (fun q => by have := q.1; simp [gstop] at this)]
        unfold hxt
        rw [if_neg (by simp [gstop])]
        exact Or.inr (q1.cut hl2)
    · rw [gnum_cut (by omega)]
      unfold hxb
      rw [if_neg (fun q => by have := q.1; simp [gstop] at this)]
      unfold hxt
      rw [if_neg (by simp [gstop])]
      exact Or.inr (q.cut hl)
  · rw [if_neg (fun q => h4 q.2)]
    exact Or.inl ⟨s, h, by rw [hfl]; omega, by rw [hfl], by rw [hfl], by rw [hfl]⟩
/-- Bytes up to a 0. -/
theorem text_run (fr : Nat) (hk : k = 6 ∨ k = 7) : ∀ (fu : Nat) (r : Gr) (s : Gs) (n : List Nat) (m : Nat), Hp b f r s k n → fr ≤ r.pos → s.lf + (r.pos - fr) = 256 → fu + (r.pos - fr) = 258 → (k = 6 → n = (b.take r.pos).drop fr) → (∃ sf n', Fp b f (gz b fu fr m r).1 sf n' ∧ sf.fl = s.fl ∧ (k = 6 → n' = (gz b fu fr m r).2) ∧ (k = 7 → n' = n)) ∨ Js b (gz b fu fr m r).1
  | 0, r, s, n, m, h, h1, h2, h3, h4 => by omega
  | fu + 1, r, s, n, m, h, h1, h2, h3, h4 => by
    rw [gz_succ]
    by_cases hl : r.pos < b.length
    · obtain ⟨x, hx⟩ := at_lt hl
      obtain ⟨hp, hxe⟩ := List.getElem?_eq_some_iff.1 hx
      have hnb : ∀ s2 : Gs, s2 = s ∨ s2 = gnam x s → s2.nb < 4294967296 ∧ s2.lf = s.lf ∧ s2.fl = s.fl ∧ s2.sm = s.sm ∧ s2.why = 0 ∧ s2.wh = false ∧ s2.nx = k := by
        rintro s2 (rfl | rfl)
        · exact ⟨h.nb, rfl, rfl, rfl, h.sw, h.wh, h.nx⟩
        · unfold gnam; split <;> exact ⟨h.nb, rfl, rfl, rfl, h.sw, h.wh, h.nx⟩
      obtain ⟨s2, hs2, eg, hnm⟩ : ∃ s2, (s2 = s ∨ s2 = gnam x s) ∧ gst s x = gtxt x s2 ∧ (k = 6 → s2.nm = if x ≠ 0 ∧ 0 < s.lf then n ++ [x] else n) ∧ (k = 7 → s2.nm = n) := by
        rcases hk with rfl | rfl
        · refine ⟨gnam x s, Or.inr rfl, by unfold gst; rw [h.nx]; rfl, fun _ => ?_, fun q => (by cases q)⟩
          unfold gnam
          split
          · show s.nm ++ [x] = _; rw [h.nm]
          · exact h.nm
        · exact ⟨s, Or.inl rfl, by unfold gst; rw [h.nx]; rfl, fun q => (by cases q), fun _ => h.nm⟩
      obtain ⟨a1, a2, a3, a4, a5, a6, a7⟩ := hnb s2 hs2
      rw [gnum_go (by omega), if_neg (by simp [h.why]), gval_one hx]
      have hk9 : k ≠ 9 := by omega
      by_cases h0 : x = 0
      · rw [if_pos h0]
        unfold gtxt at eg
        rw [if_pos h0] at eg
        have q := h.field hk9 hx (s1 := gcnt x s2) eg a5 (by show stp s2.sm x = _; rw [a4]) a6 (n' := s2.nm) rfl a1
        refine Or.inl ⟨_, _, q, a3, fun e6 => ?_, fun e7 => hnm.2 e7⟩
        rw [hnm.1 e6, if_neg (fun q => q.1 h0), h4 e6]
        simp
      · rw [if_neg h0]
        unfold gtxt at eg
        rw [if_neg h0, a2] at eg
        by_cases hlf : s.lf = 0
        · rw [if_pos (by show 256 < r.pos + 1 - fr; omega)]
          rw [if_pos hlf] at eg
          have := h.stop hk9 (y := 46) (by decide) hx eg rfl
          exact Or.inr (by simpa [Js, gstop] using this)
        · rw [if_neg (by show ¬ 256 < r.pos + 1 - fr; omega)]
          rw [if_neg hlf] at eg
          have q := h.one hk9 hx (s1 := { gcnt x s2 with lf := s.lf - 1 }) eg a5 a7 (by show stp s2.sm x = _; rw [a4]) a6 (n' := s2.nm) rfl a1
          have ih := text_run fr hk fu _ _ _ (m + 1) q (by show fr ≤ r.pos + 1; omega) (by show s.lf - 1 + (r.pos + 1 - fr) = 256; omega) (by show fu + (r.pos + 1 - fr) = 258; omega) (fun e6 => by
            rw [hnm.1 e6, if_pos ⟨h0, by omega⟩, h4 e6]
            show _ = (b.take (r.pos + 1)).drop fr
            rw [List.take_succ_eq_append_getElem hp, hxe, List.drop_append_of_le_length (by rw [List.length_take]; omega)])
          rcases ih with ⟨sf, n', q1, q2, q3, q4⟩ | q1
          · exact Or.inl ⟨sf, n', q1, q2.trans a3, q3, fun e7 => (q4 e7).trans (hnm.2 e7)⟩
          · exact Or.inr q1
    · rw [gnum_cut (by omega), if_pos (by simp [gstop])]
      exact Or.inr (h.cut hl)
theorem Fp.nam (h : Fp b f r s []) (fl : Nat) (h4 : s.fl / 4 % 2 = 0) (h8 : s.fl / 8 % 2 = fl / 8 % 2) (h16 : s.fl / 16 % 2 = fl / 16 % 2) (h2 : s.fl / 2 % 2 = fl / 2 % 2) : (∃ sf, Fp b f (hnam b fl r).1 sf (hnam b fl r).2 ∧ sf.fl / 4 % 2 = 0 ∧ sf.fl / 8 % 2 = 0 ∧ sf.fl / 16 % 2 = fl / 16 % 2 ∧ sf.fl / 2 % 2 = fl / 2 % 2) ∨ Js b (hnam b fl r).1 := by
  unfold hnam
  by_cases h1 : fl / 8 % 2 = 1
  · rw [if_pos ⟨h.why, h1⟩]
    have q := h.on (k := 6) (s1 := { s with fl := s.fl - 8, nx := 6, lf := 256 }) (by unfold gfield; rw [if_neg (by omega), if_pos (by omega)]) h.sw rfl rfl h.wh h.nm h.nb
    unfold gtext
    rw [if_pos h.why]
    have hpl := h.rch.1
    rcases text_run r.pos (Or.inl rfl) 258 r _ [] 0 q (Nat.le_refl _) (by show 256 + _ = 256; omega) (by omega) (fun _ => by symm; rw [List.drop_eq_nil_iff, List.length_take]; omega) with ⟨sf, n', q1, q2, q3, q4⟩ | q1
    · rw [q3 rfl] at q1
      refine Or.inl ⟨sf, q1, ?_⟩
      have e : sf.fl = s.fl - 8 := q2
      rw [e]
      omega
    · exact Or.inr q1
  · rw [if_neg (fun q => h1 q.2)]
    exact Or.inl ⟨s, h, h4, by omega, h16, h2⟩
theorem Fp.com (h : Fp b f r s n) (fl : Nat) (h4 : s.fl / 4 % 2 = 0) (h8 : s.fl / 8 % 2 = 0) (h16 : s.fl / 16 % 2 = fl / 16 % 2) (h2 : s.fl / 2 % 2 = fl / 2 % 2) : (∃ sf, Fp b f (hcom b fl r) sf n ∧ sf.fl / 4 % 2 = 0 ∧ sf.fl / 8 % 2 = 0 ∧ sf.fl / 16 % 2 = 0 ∧ sf.fl / 2 % 2 = fl / 2 % 2) ∨ Js b (hcom b fl r) := by
  unfold hcom
  by_cases h1 : fl / 16 % 2 = 1
  · rw [if_pos ⟨h.why, h1⟩]
    have q := h.on (k := 7) (s1 := { s with fl := s.fl - 16, nx := 7, lf := 256 }) (by unfold gfield; rw [if_neg (by omega), if_neg (by omega), if_pos (by omega)]) h.sw rfl rfl h.wh h.nm h.nb
    unfold gtext
    rw [if_pos h.why]
    rcases text_run r.pos (Or.inr rfl) 258 r _ n 0 q (Nat.le_refl _) (by show 256 + _ = 256; omega) (by omega) (fun e => by cases e) with ⟨sf, n', q1, q2, q3, q4⟩ | q1
    · rw [q4 rfl] at q1
      refine Or.inl ⟨sf, q1, ?_⟩
      have e : sf.fl = s.fl - 16 := q2
      rw [e]
      omega
    · exact Or.inr q1
  · rw [if_neg (fun q => h1 q.2)]
    exact Or.inl ⟨s, h, h4, h8, by omega, h2⟩
/-- The header is over. -/
structure Op1 (b : List Nat) (r : Gr) (s : Gs) (n : List Nat) : Prop where
  why : r.why = 0
  rch : Rch b r.pos s (r.ev ++ [(r.pos - 1, 256, n)])
  sw : s.why = 0
  nx : s.nx = 9
  wh : s.wh = false
  ip : s.ip = []
  y : s.y = c0
  nm : s.nm = []
  nb : s.nb < 4294967296
  sm : s.sm = 0
  gv : s.gv = 0
theorem Fp.hsum (ho : Oct b) (h : Fp b f r s n) (fl : Nat) (h4 : s.fl / 4 % 2 = 0) (h8 : s.fl / 8 % 2 = 0) (h16 : s.fl / 16 % 2 = 0) (h2 : s.fl / 2 % 2 = fl / 2 % 2) : (∃ s1, Op1 b (Go.Proofs.YtogednaamndpgaaDoor.hsum b fl f r) s1 n) ∨ Js b (Go.Proofs.YtogednaamndpgaaDoor.hsum b fl f r) := by
  unfold Go.Proofs.YtogednaamndpgaaDoor.hsum
  by_cases h1 : fl / 2 % 2 = 1
  · rw [if_pos ⟨h.why, h1⟩]
    have q := h.on (k := 8) (s1 := { s with fl := s.fl - 2, nx := 8, lf := 2 }) (by unfold gfield; rw [if_neg (by omega), if_neg (by omega), if_neg (by omega), if_pos (by omega)]) h.sw rfl rfl h.wh h.nm h.nb
    obtain ⟨s1, hs1⟩ : ∃ s1, s1 = { s with fl := s.fl - 2, nx := 8, lf := 2 } := ⟨_, rfl⟩
    rw [← hs1] at q
    have hlf : s1.lf = 2 := by rw [hs1]
    clear hs1
    have hsm := q.sum
    by_cases hl : r.pos < b.length
    · obtain ⟨x, hx⟩ := at_lt hl
      have hxo := ho x (List.mem_of_getElem? hx)
      have e1 : gst s1 x = (gath x s1, []) := by
        unfold gst; rw [q.nx]; show ghsm (gath x s1) = _
        unfold ghsm; rw [if_neg (by show ¬ s1.lf - 1 = 0; omega)]
      have q1 := q.rch.step q.sw hx (s1 := gath x s1) (E := []) (Or.inr ⟨by rw [q.nx]; decide, by rw [e1], by rw [e1]⟩)
      by_cases hl2 : r.pos + 1 < b.length
      · obtain ⟨z, hz⟩ := at_lt (r := { r with pos := r.pos + 1 }) hl2
        have hzo := ho z (List.mem_of_getElem? hz)
        have e2 : gst (gath x s1) z = ghsm (gath z (gath x s1)) := by unfold gst; rw [show (gath x s1).nx = 8 from q.nx]; rfl
        have en : (gath z (gath x s1)).nb / 65536 = x + 256 * z := by
          show ((s1.nb / 256 + x * 16777216) / 256 + z * 16777216) / 65536 = _
          have := q.nb
          omega
        have es : (gath z (gath x s1)).sm = sm 0 ((b.take r.pos).drop f) := hsm
        unfold ghsm at e2
        rw [if_pos (by show s1.lf - 1 - 1 = 0; omega), en, es] at e2
        rw [gval_two_at hx hz, gnum_go (by omega)]
        unfold hsb
        have st : ∀ (s2 : Gs) (E : List Evn), gst (gath x s1) z = (s2, E) → Rch b (r.pos + 1 + 1) s2 (r.ev ++ evs (r.pos + 1) E) := fun s2 E e => by
          have := q1.step (show (gath x s1).why = 0 from q.sw) hz (s1 := s2) (E := E) (Or.inr ⟨by show s1.nx ≠ 9; rw [q.nx]; decide, by rw [e], by rw [e]⟩)
          simpa [evs] using this
        by_cases hs : x + 256 * z = sm 0 ((b.take r.pos).drop f) % 65536
        · rw [if_pos hs] at e2
          rw [if_neg (fun q => q.2 hs)]
          have q2 := st (gopn (gath z (gath x s1))).1 [(256, (gath z (gath x s1)).nm)] (by rw [e2]; rfl)
          refine Or.inl ⟨(gopn (gath z (gath x s1))).1, h.why, ?_, q.sw, rfl, q.wh, rfl, rfl, rfl, gath_lt hzo (gath_lt hxo q.nb), rfl, rfl⟩
          have en : (gath z (gath x s1)).nm = n := q.nm
          rw [en] at q2
          simpa [evs] using q2
        · rw [if_neg hs] at e2
          rw [if_pos ⟨h.why, hs⟩]
          have q2 := st _ _ e2
          exact Or.inr ⟨by show (43 : Nat) ≠ 0; decide, r.pos + 1 + 1, _, by simpa [evs, gstop] using q2, Or.inr ⟨rfl, by show r.pos + 1 + 1 = r.pos + 2 - 1 + 1; omega⟩⟩
      · rw [gnum_cut (by omega)]
        unfold hsb
        rw [if_neg (fun q => by have := q.1; simp [gstop] at this)]
        exact Or.inr ⟨by show (1 : Nat) ≠ 0; decide, r.pos + 1, gath x s1, by simpa [evs, gstop] using q1, Or.inl ⟨q.sw, q.wh, by have := q1.1; omega, rfl, rfl⟩⟩
    · rw [gnum_cut (by omega)]
      unfold hsb
      rw [if_neg (fun q => by have := q.1; simp [gstop] at this)]
      exact Or.inr (q.cut hl)
  · rw [if_neg (fun q => h1 q.2)]
    have eg : gfield s = gopn s := by unfold gfield; rw [if_neg (by omega), if_neg (by omega), if_neg (by omega), if_neg (by omega)]
    have q := h.rch
    rw [eg] at q
    refine Or.inl ⟨(gopn s).1, h.why, ?_, h.sw, rfl, h.wh, rfl, rfl, rfl, h.nb, rfl, rfl⟩
    have : (gopn s).2 = [(256, n)] := by show [(256, s.nm)] = _; rw [h.nm]
    rw [this] at q
    exact q
theorem hres_stop (fl f : Nat) (h : r.why ≠ 0) : hres b fl f r = (r, []) := by
  have e1 : hflag fl r = r := by unfold hflag; rw [if_neg (fun q => h q.1)]
  have e2 : hoth b r = r := by unfold hoth; rw [if_neg h]
  have e3 : hext b fl r = r := by unfold hext; rw [if_neg (fun q => h q.1)]
  have e4 : hnam b fl r = (r, []) := by unfold hnam; rw [if_neg (fun q => h q.1)]
  have e5 : hcom b fl r = r := by unfold hcom; rw [if_neg (fun q => h q.1)]
  have e6 : hsum b fl f r = r := by unfold hsum; rw [if_neg (fun q => h q.1)]
  unfold hres
  rw [e1, e2, e3, e4, e5, e6]
/-- A member's header. -/
theorem Sp0.head (ho : Oct b) (h : Sp0 b r s) : (∃ s1, Op1 b (ghead b r).1 s1 (ghead b r).2) ∨ Js b (ghead b r).1 := by
  unfold ghead
  rcases h.mag with ⟨s1, q⟩ | q
  · rw [if_pos q.why]
    obtain ⟨fl, hfl⟩ : ∃ fl, gval b 1 (hmag b r) = fl := ⟨_, rfl⟩
    have q1 := q.flags
    rw [hfl] at q1 ⊢
    have e3 : ∀ r1, r1.why ≠ 0 → hoth b r1 = r1 := fun r1 h => by unfold hoth; rw [if_neg h]
    have e4 : ∀ r1, r1.why ≠ 0 → hext b fl r1 = r1 := fun r1 h => by unfold hext; rw [if_neg (fun q => h q.1)]
    have e5 : ∀ r1, r1.why ≠ 0 → hnam b fl r1 = (r1, []) := fun r1 h => by unfold hnam; rw [if_neg (fun q => h q.1)]
    have e6 : ∀ r1, r1.why ≠ 0 → hcom b fl r1 = r1 := fun r1 h => by unfold hcom; rw [if_neg (fun q => h q.1)]
    have e7 : ∀ r1 f, r1.why ≠ 0 → hsum b fl f r1 = r1 := fun r1 f h => by unfold hsum; rw [if_neg (fun q => h q.1)]
    unfold hres
    rcases q1 with ⟨s2, q2, a1, a2, a3⟩ | q2
    · rcases q2.oth a1 with ⟨s3, q3, b1⟩ | q3
      · rcases q3.ext ho fl (b1.trans a2) with ⟨s4, q4, c1, c2, c3, c4⟩ | q4
        · rcases q4.nam fl c1 c2 c3 c4 with ⟨s5, q5, d1, d2, d3, d4⟩ | q5
          · rcases q5.com fl d1 d2 d3 d4 with ⟨s6, q6, f1, f2, f3, f4⟩ | q6
            · exact q6.hsum ho fl f1 f2 f3 f4
            · exact Or.inr (by show Js b (hsum b fl r.pos (hcom b fl _)); rw [e7 _ _ q6.1]; exact q6)
          · exact Or.inr (by simp only []; rw [e6 _ q5.1, e7 _ _ q5.1]; exact q5)
        · exact Or.inr (by simp only []; rw [e5 _ q4.1, e6 _ q4.1, e7 _ _ q4.1]; exact q4)
      · exact Or.inr (by simp only []; rw [e4 _ q3.1, e5 _ q3.1, e6 _ q3.1, e7 _ _ q3.1]; exact q3)
    · exact Or.inr (by simp only []; rw [e3 _ q2.1, e4 _ q2.1, e5 _ q2.1, e6 _ q2.1, e7 _ _ q2.1]; exact q2)
  · rw [if_neg q.1]
    exact Or.inr q
end
end Go.Proofs.YtogednaamndpgaaDoor

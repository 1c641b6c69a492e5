/-
  The chapter's mathematics: the splitter as a machine over signs, what some bytes are of a delimiter, and how the two go together. No walk.
-/
import Derived.WalkKit
namespace Go.Proofs.Ytbndohpcaahenab
set_option linter.unusedVariables false
/-- The splitter: the step that comes next (0 start, 1 behindBorder, 2 behindDash, 3 pad, 4 behindPad, 5 within, 6 behindReturn, 7 ignore), the line so far, what is held, how much of it is known. -/
structure Sp where
  md : Nat
  seen : Nat
  pads : Nat
  last : Bool
  hl : List Nat
  kn : Nat
  ins : Bool
  cl : Bool
def add (g : Nat) (s : Sp) : Sp := if s.ins then { s with hl := s.hl ++ [g] } else s
def know (s : Sp) : Sp := { s with kn := s.hl.length }
def line (s : Sp) : Sp := { s with md := 0, seen := 0, pads := 0, last := false }
def hold (g m : Nat) (s : Sp) : Sp := { add g s with md := m }
def within (g : Nat) (s : Sp) : Sp := if g = 13 then hold g 6 s else if g = 10 then line (add g s) else if g = 258 then s else know (add g s)
def miss (g : Nat) (s : Sp) : Sp := within g { know s with md := 5 }
def swap (s : Sp) : Sp := { s with ins := !s.last, cl := s.last }
def delim0 (s : Sp) : Sp := know (add 256 (swap (add 257 { s with hl := [] })))
def delim (s : Sp) : Sp := if s.last then { delim0 s with md := 7 } else line (delim0 s)
def start (D : List Nat) (g : Nat) (s : Sp) : Sp := if D[s.seen]? ≠ some g then miss g s else if s.seen + 1 < D.length then hold g 0 { s with seen := s.seen + 1 } else hold g 1 { s with seen := s.seen + 1 }
def pad (g : Nat) (s : Sp) : Sp := if g = 10 ∨ g = 258 then delim s else if g = 13 then hold g 4 s else if (g = 9 ∨ g = 32) ∧ s.pads < 16 then hold g 3 { s with pads := s.pads + 1 } else miss g s
def bBorder (g : Nat) (s : Sp) : Sp := if g = 45 then hold g 2 s else pad g s
def bDash (g : Nat) (s : Sp) : Sp := if g ≠ 45 then miss g s else hold g 3 { s with last := true }
def bPad (g : Nat) (s : Sp) : Sp := if g ≠ 10 then miss g s else delim s
def bRet (g : Nat) (s : Sp) : Sp := if g ≠ 10 then miss g s else within g s
/-- One step. -/
def stp (D : List Nat) (g : Nat) (s : Sp) : Sp :=
  if s.md = 0 then start D g s else if s.md = 1 then bBorder g s else if s.md = 2 then bDash g s else if s.md = 3 then pad g s else if s.md = 4 then bPad g s else if s.md = 5 then within g s else if s.md = 6 then bRet g s else s
/-- What is known, and the splitter when it is told. -/
def out (s : Sp) : List Nat := s.hl.take s.kn
def tk (s : Sp) : Sp := { s with hl := s.hl.drop s.kn, kn := 0 }
/-- Bytes put in: what is told, and the splitter behind them. -/
def fd (D : List Nat) : Sp → List Nat → List Nat × Sp
  | s, [] => ([], s)
  | s, g :: r => (out (stp D g s) ++ (fd D (tk (stp D g s)) r).1, (fd D (tk (stp D g s)) r).2)
/-- The end. -/
def en (D : List Nat) (s : Sp) : Sp := know (add 257 (stp D 258 s))
/-- All that is told, each with its time. -/
def tv (D : List Nat) : Nat → Sp → List Nat → List (Nat × Nat)
  | t, s, [] => (out (en D s)).map fun g => (t, g)
  | t, s, g :: r => (out (stp D g s)).map (fun g => (t, g)) ++ tv D (t + 1) (tk (stp D g s)) r
def tot (D : List Nat) (s : Sp) (x : List Nat) : List Nat := (fd D s x).1 ++ out (en D (fd D s x).2)
def s0 : Sp := ⟨0, 0, 0, false, [], 0, false, false⟩
theorem fd_append (D : List Nat) (s : Sp) (x y : List Nat) : fd D s (x ++ y) = ((fd D s x).1 ++ (fd D (fd D s x).2 y).1, (fd D (fd D s x).2 y).2) := by
  induction x generalizing s with
  | nil => simp [fd]
  | cons g r ih => simp [fd, ih]
theorem tv_snd (D : List Nat) (t : Nat) (s : Sp) (x : List Nat) : (tv D t s x).map Prod.snd = tot D s x := by
  induction x generalizing s t with
  | nil => simp [tv, tot, fd, Function.comp_def]
  | cons g r ih =>
    have h2 := ih (t + 1) (tk (stp D g s))
    simp only [tot] at h2
    simp [tv, tot, fd, h2, Function.comp_def]
theorem tk_id {s : Sp} (h : s.kn = 0) : tk s = s := by cases s; simp_all [tk]
theorem out_nil {s : Sp} (h : s.kn = 0) : out s = [] := by simp [out, h]
/-- What some bytes are of a delimiter: 0 none, 1 they begin one, 2 all but its line's end, 3 a whole one. -/
def lkP : List Nat → Nat → Bool → Nat × Bool
  | [], n, l => (2, l)
  | y :: r, n, l => if y = 9 ∨ y = 32 then (if n = 16 then (0, false) else lkP r (n + 1) l) else if y = 13 ∧ r = [] then (1, l) else if y = 10 ∨ (y = 13 ∧ r.head? = some 10) then (3, l) else (0, false)
def lkD (x : List Nat) : Nat × Bool := if x.head? = some 45 then (if x.tail = [] then (1, false) else if x.tail.head? = some 45 then lkP x.tail.tail 0 true else (0, false)) else lkP x 0 false
def lkB : List Nat → List Nat → Nat × Bool
  | [], x => lkD x
  | d :: ds, [] => (1, false)
  | d :: ds, y :: x => if y = d then lkB ds x else (0, false)
def lkE (D : List Nat) : List Nat → Nat × Bool
  | [] => (1, false)
  | y :: r => if y = 10 then lkB D r else if y = 13 then (match r with | [] => (1, false) | z :: r' => if z = 10 then lkB D r' else (0, false)) else (0, false)
def look (D : List Nat) (f : Bool) (x : List Nat) : Nat × Bool := if f then lkB D x else lkE D x
/-- The bytes x are held by a splitter s, and what comes next is decided as K says. -/
structure Qt (D : List Nat) (s : Sp) (K : List Nat → Nat × Bool) (x : List Nat) (q : Sp) : Prop where
  run : fd D s x = ([], q)
  hl : q.hl = if s.ins then s.hl ++ x else s.hl
  kn : q.kn = 0
  ins : q.ins = s.ins
  cl : q.cl = s.cl
  e2 : (K x).1 = 2 → stp D 258 q = delim q ∧ q.last = (K x).2
  e1 : (K x).1 = 1 → stp D 258 q = miss 258 q
  n3 : ∀ g, g < 256 → (K (x ++ [g])).1 = 3 → stp D g q = delim q ∧ q.last = (K (x ++ [g])).2
  n0 : ∀ g, g < 256 → (K (x ++ [g])).1 = 0 → stp D g q = miss g q
theorem Qt.cons {D : List Nat} {s s1 q : Sp} {K K' : List Nat → Nat × Bool} {y : Nat} {r : List Nat} (h1 : stp D y s = s1) (hk : s1.kn = 0) (hh : s1.hl = if s.ins then s.hl ++ [y] else s.hl) (hi : s1.ins = s.ins) (hc : s1.cl = s.cl) (hK : ∀ z, K (y :: z) = K' z) (h : Qt D s1 K' r q) : Qt D s K (y :: r) q := by
  refine ⟨?_, ?_, h.kn, h.ins.trans hi, h.cl.trans hc, ?_, ?_, ?_, ?_⟩
  · simp [fd, h1, tk_id hk, out_nil hk, h.run]
  · rw [h.hl, hi, hh]; split <;> simp
  · rw [hK]; exact h.e2
  · rw [hK]; exact h.e1
  · intro g hg; rw [List.cons_append, hK]; exact h.n3 g hg
  · intro g hg; rw [List.cons_append, hK]; exact h.n0 g hg
theorem hold_hl (g m : Nat) (s : Sp) : (hold g m s).hl = if s.ins then s.hl ++ [g] else s.hl := by simp only [hold, add]; split <;> rfl
theorem hold_ins (g m : Nat) (s : Sp) : (hold g m s).ins = s.ins := by simp only [hold, add]; split <;> rfl
theorem hold_cl (g m : Nat) (s : Sp) : (hold g m s).cl = s.cl := by simp only [hold, add]; split <;> rfl
theorem hold_kn (g m : Nat) (s : Sp) : (hold g m s).kn = s.kn := by simp only [hold, add]; split <;> rfl
theorem hold_last (g m : Nat) (s : Sp) : (hold g m s).last = s.last := by simp only [hold, add]; split <;> rfl
theorem hold_pads (g m : Nat) (s : Sp) : (hold g m s).pads = s.pads := by simp only [hold, add]; split <;> rfl
theorem hold_seen (g m : Nat) (s : Sp) : (hold g m s).seen = s.seen := by simp only [hold, add]; split <;> rfl
theorem hold_md (g m : Nat) (s : Sp) : (hold g m s).md = m := rfl
theorem qt_pad {D : List Nat} (x : List Nat) (s : Sp) (n : Nat) (l : Bool) (hm : s.md = 3) (hp : s.pads = n) (hl : s.last = l) (hk : s.kn = 0) (hn : n ≤ 16) (hx : (lkP x n l).1 = 1 ∨ (lkP x n l).1 = 2) : ∃ q, Qt D s (fun x => lkP x n l) x q := by
  induction x generalizing s n with
  | nil =>
    refine ⟨s, rfl, by simp, hk, rfl, rfl, fun _ => ⟨by simp [stp, hm, pad], by simp [lkP, hl]⟩, fun h => by simp [lkP] at h, fun g hg h => ?_, fun g hg h => ?_⟩
    · simp only [List.nil_append, lkP] at h ⊢
      by_cases h1 : g = 9 ∨ g = 32
      · rw [if_pos h1] at h; split at h <;> simp at h
      · by_cases h2 : g = 13
        · simp [h2] at h
        · by_cases h3 : g = 10
          · subst h3
            simp [stp, hm, pad, hl]
          · simp [h1, h2, h3] at h
    · simp only [List.nil_append, lkP] at h
      by_cases h1 : g = 9 ∨ g = 32
      · rw [if_pos h1] at h
        by_cases h16 : n = 16
        · have hg : ¬ (g = 10 ∨ g = 258) ∧ g ≠ 13 := by omega
          simp [stp, hm, pad, hg, hp, h16]
        · simp [h16] at h
      · by_cases h2 : g = 13
        · simp [h2] at h
        · by_cases h3 : g = 10
          · simp [h3] at h
          · have h4 : g ≠ 258 := by omega
            simp [stp, hm, pad, h1, h2, h3, h4]
  | cons y r ih =>
    by_cases h1 : y = 9 ∨ y = 32
    · by_cases h16 : n = 16
      · simp [lkP, h1, h16] at hx
      · have hy : ¬ (y = 10 ∨ y = 258) ∧ y ≠ 13 := by omega
        have e : stp D y s = hold y 3 { s with pads := s.pads + 1 } := by simp [stp, hm, pad, hy, h1, hp, show n < 16 by omega]
        obtain ⟨q, hq⟩ := ih (hold y 3 { s with pads := s.pads + 1 }) (n + 1) rfl (by rw [hold_pads, hp]) (by rw [hold_last, hl]) (by rw [hold_kn, hk]) (by omega) (by simpa [lkP, h1, h16] using hx)
        exact ⟨q, Qt.cons e (by rw [hold_kn, hk]) (hold_hl _ _ _) (hold_ins _ _ _) (hold_cl _ _ _) (fun z => by simp [lkP, h1, h16]) hq⟩
    · by_cases h2 : y = 13 ∧ r = []
      · obtain ⟨rfl, rfl⟩ := h2
        have e : stp D 13 s = hold 13 4 s := by simp [stp, hm, pad]
        refine ⟨hold 13 4 s, ?_, hold_hl _ _ _, by rw [hold_kn, hk], hold_ins _ _ _, hold_cl _ _ _, fun h => by simp [lkP] at h, fun _ => by simp [stp, hold_md, bPad], fun g hg h => ?_, fun g hg h => ?_⟩
        · simp [fd, e, tk_id (s := hold 13 4 s) (by rw [hold_kn, hk]), out_nil (s := hold 13 4 s) (by rw [hold_kn, hk])]
        · by_cases h3 : g = 10
          · subst h3; simp [stp, hold_md, bPad, hold_last, hl, lkP]
          · simp [lkP, h3] at h
        · by_cases h3 : g = 10
          · simp [lkP, h3] at h
          · simp [stp, hold_md, bPad, h3]
      · simp only [lkP, if_neg h1, if_neg h2] at hx
        split at hx <;> simp at hx
theorem pad_md (g m : Nat) (s : Sp) : pad g { s with md := m } = pad g s := by
  cases s
  simp only [pad, hold, miss, delim, delim0, add, know, swap, line]
  repeat' split
  all_goals simp_all
theorem delim_md (m : Nat) (s : Sp) : delim { s with md := m } = delim s := by
  cases s
  simp only [delim, delim0, add, know, swap, line]
  repeat' split
  all_goals simp_all
theorem qt_dash {D : List Nat} (x : List Nat) (s : Sp) (hm : s.md = 1) (hp : s.pads = 0) (hl : s.last = false) (hk : s.kn = 0) (hx : (lkD x).1 = 1 ∨ (lkD x).1 = 2) : ∃ q, Qt D s lkD x q := by
  have e3 : ∀ g, g ≠ 45 → stp D g s = stp D g { s with md := 3 } := by
    intro g hg
    have : stp D g { s with md := 3 } = pad g { s with md := 3 } := by simp [stp]
    rw [this, pad_md]
    simp [stp, hm, bBorder, hg]
  by_cases h45 : x.head? = some 45
  · obtain ⟨r, rfl⟩ : ∃ r, x = 45 :: r := by cases x with | nil => simp at h45 | cons a b => simp at h45; exact ⟨b, by rw [h45]⟩
    have e : stp D 45 s = hold 45 2 s := by simp [stp, hm, bBorder]
    cases r with
    | nil =>
      refine ⟨hold 45 2 s, ?_, hold_hl _ _ _, by rw [hold_kn, hk], hold_ins _ _ _, hold_cl _ _ _, fun h => by simp [lkD] at h, fun _ => by simp [stp, hold_md, bDash], fun g hg h => ?_, fun g hg h => ?_⟩
      · simp [fd, e, tk_id (s := hold 45 2 s) (by rw [hold_kn, hk]), out_nil (s := hold 45 2 s) (by rw [hold_kn, hk])]
      · by_cases h3 : g = 45
        · simp [lkD, lkP, h3] at h
        · simp [lkD, h3] at h
      · by_cases h3 : g = 45
        · simp [lkD, lkP, h3] at h
        · simp [stp, hold_md, bDash, h3]
    | cons a b =>
      by_cases ha : a = 45
      · subst ha
        have e2 : stp D 45 (hold 45 2 s) = hold 45 3 { hold 45 2 s with last := true } := by simp [stp, hold_md, bDash]
        obtain ⟨q, hq⟩ := qt_pad (D := D) b (hold 45 3 { hold 45 2 s with last := true }) 0 true rfl (by rw [hold_pads]; show (hold 45 2 s).pads = 0; rw [hold_pads, hp]) (by rw [hold_last]) (by rw [hold_kn]; show (hold 45 2 s).kn = 0; rw [hold_kn, hk]) (by omega) (by simpa [lkD] using hx)
        refine ⟨q, Qt.cons e (by rw [hold_kn, hk]) (hold_hl _ _ _) (hold_ins _ _ _) (hold_cl _ _ _) (fun z => rfl) (K' := fun z => lkD (45 :: z)) (Qt.cons e2 (by rw [hold_kn]; show (hold 45 2 s).kn = 0; rw [hold_kn, hk]) (hold_hl _ _ _) (hold_ins _ _ _) (hold_cl _ _ _) (fun z => ?_) hq)⟩
        simp [lkD]
      · simp [lkD, ha] at hx
  · have hx2 : lkD x = lkP x 0 false := by simp [lkD, h45]
    rw [hx2] at hx
    cases x with
    | nil =>
      refine ⟨s, rfl, by simp, hk, rfl, rfl, fun _ => ⟨by simp [stp, hm, bBorder, pad], by simp [lkD, lkP, hl]⟩, fun h => by simp [lkD, lkP] at h, fun g hg h => ?_, fun g hg h => ?_⟩
      · by_cases hg45 : g = 45
        · simp [lkD, hg45] at h
        · have hd : lkD ([] ++ [g]) = lkP ([] ++ [g]) 0 false := by simp [lkD, hg45]
          obtain ⟨q, hq⟩ := qt_pad (D := D) [] { s with md := 3 } 0 false rfl hp hl hk (by omega) (by simp [lkP])
          have hr := hq.run
          have hq2 : { s with md := 3 } = q := by simpa [fd] using hr
          subst hq2
          have hh := hq.n3 g hg (by rw [← hd]; exact h)
          rw [hd, e3 g hg45, hh.1]
          exact ⟨delim_md _ _, hh.2⟩
      · by_cases hg45 : g = 45
        · simp [lkD, hg45] at h
        · have hd : lkD ([] ++ [g]) = lkP ([] ++ [g]) 0 false := by simp [lkD, hg45]
          obtain ⟨q, hq⟩ := qt_pad (D := D) [] { s with md := 3 } 0 false rfl hp hl hk (by omega) (by simp [lkP])
          have hr := hq.run
          have hq2 : { s with md := 3 } = q := by simpa [fd] using hr
          subst hq2
          have hh := hq.n0 g hg (by rw [← hd]; exact h)
          rw [e3 g hg45, hh]
          simp [miss, know]
    | cons y r =>
      have hy : y ≠ 45 := by simpa using h45
      obtain ⟨q, hq⟩ := qt_pad (D := D) (y :: r) { s with md := 3 } 0 false rfl hp hl hk (by omega) hx
      refine ⟨q, ?_, hq.hl, hq.kn, hq.ins, hq.cl, ?_, ?_, ?_, ?_⟩
      · have := hq.run
        simp only [fd] at this ⊢
        rw [e3 y hy]
        exact this
      · rw [hx2]; exact hq.e2
      · rw [hx2]; exact hq.e1
      · intro g hg
        rw [show lkD (y :: r ++ [g]) = lkP (y :: r ++ [g]) 0 false by simp [lkD, hy]]
        exact hq.n3 g hg
      · intro g hg
        rw [show lkD (y :: r ++ [g]) = lkP (y :: r ++ [g]) 0 false by simp [lkD, hy]]
        exact hq.n0 g hg
theorem qt_line {D : List Nat} (hD : ∀ d ∈ D, d < 256) (x : List Nat) (s : Sp) (d : Nat) (ds : List Nat) (hm : s.md = 0) (hd : D.drop s.seen = d :: ds) (hp : s.pads = 0) (hl : s.last = false) (hk : s.kn = 0) (hx : (lkB (d :: ds) x).1 = 1 ∨ (lkB (d :: ds) x).1 = 2) : ∃ q, Qt D s (lkB (d :: ds)) x q := by
  induction x generalizing s d ds with
  | nil =>
    have hs : D[s.seen]? = some d := by rw [← List.head?_drop, hd]; rfl
    have hd2 : d < 256 := hD d (List.mem_of_getElem? hs)
    refine ⟨s, rfl, by simp, hk, rfl, rfl, fun h => by simp [lkB] at h, fun _ => ?_, fun g hg h => ?_, fun g hg h => ?_⟩
    · simp [stp, hm, start, hs, show ¬ d = 258 by omega]
    · by_cases hgd : g = d
      · cases ds with
        | nil => simp [lkB, lkD, lkP, hgd] at h
        | cons a b => simp [lkB, hgd] at h
      · simp [lkB, hgd] at h
    · by_cases hgd : g = d
      · cases ds with
        | nil => simp [lkB, lkD, lkP, hgd] at h
        | cons a b => simp [lkB, hgd] at h
      · simp [stp, hm, start, hs, Ne.symm hgd]
  | cons y r ih =>
    by_cases hyd : y = d
    · subst hyd
      have hs : D[s.seen]? = some y := by rw [← List.head?_drop, hd]; rfl
      have hdr : D.drop (s.seen + 1) = ds := by rw [← List.drop_drop, hd]; rfl
      cases ds with
      | nil =>
        have hlen : ¬ s.seen + 1 < D.length := by have := congrArg List.length hdr; simp at this; omega
        have e : stp D y s = hold y 1 { s with seen := s.seen + 1 } := by simp [stp, hm, start, hs, hlen]
        obtain ⟨q, hq⟩ := qt_dash (D := D) r (hold y 1 { s with seen := s.seen + 1 }) rfl (by rw [hold_pads]; exact hp) (by rw [hold_last]; exact hl) (by rw [hold_kn]; exact hk) (by simpa [lkB] using hx)
        exact ⟨q, Qt.cons e (by rw [hold_kn]; exact hk) (hold_hl _ _ _) (hold_ins _ _ _) (hold_cl _ _ _) (fun z => by simp [lkB]) hq⟩
      | cons a b =>
        have hlen : s.seen + 1 < D.length := by have := congrArg List.length hdr; simp at this; omega
        have e : stp D y s = hold y 0 { s with seen := s.seen + 1 } := by simp [stp, hm, start, hs, hlen]
        obtain ⟨q, hq⟩ := ih (hold y 0 { s with seen := s.seen + 1 }) a b rfl (by rw [hold_seen]; exact hdr) (by rw [hold_pads]; exact hp) (by rw [hold_last]; exact hl) (by rw [hold_kn]; exact hk) (by simpa [lkB] using hx)
        exact ⟨q, Qt.cons e (by rw [hold_kn]; exact hk) (hold_hl _ _ _) (hold_ins _ _ _) (hold_cl _ _ _) (fun z => by simp [lkB]) hq⟩
    · simp [lkB, hyd] at hx
/-- A line's beginning. -/
structure Ls (s : Sp) : Prop where
  md : s.md = 0
  seen : s.seen = 0
  pads : s.pads = 0
  last : s.last = false
  kn : s.kn = 0
/-- A boundary with its `--`. -/
structure Bd (D : List Nat) : Prop where
  ne : D ≠ []
  oct : ∀ d ∈ D, d < 256
  no10 : 10 ∉ D
  no13 : 13 ∉ D
theorem qt_fresh {D : List Nat} (hD : Bd D) {s : Sp} (h : Ls s) (x : List Nat) (hx : (lkB D x).1 = 1 ∨ (lkB D x).1 = 2) : ∃ q, Qt D s (lkB D) x q := by
  obtain ⟨d, ds, rfl⟩ : ∃ d ds, D = d :: ds := by cases D with | nil => exact absurd rfl hD.ne | cons a b => exact ⟨a, b, rfl⟩
  exact qt_line hD.oct x s d ds h.md (by rw [h.seen]; rfl) h.pads h.last h.kn hx
theorem know_id {s : Sp} (h : s.hl = []) (hk : s.kn = 0) (hm : s.md = 5) : { know s with md := 5 } = s := by cases s; simp_all [know]
theorem add_ls {g : Nat} {s : Sp} (hk : s.kn = 0) : Ls (line (add g s)) := by
  refine ⟨rfl, rfl, rfl, rfl, ?_⟩
  simp only [line, add]
  split <;> exact hk
theorem line_add_hl (g : Nat) (s : Sp) : (line (add g s)).hl = if s.ins then s.hl ++ [g] else s.hl := by simp only [line, add]; split <;> rfl
theorem line_add_ins (g : Nat) (s : Sp) : (line (add g s)).ins = s.ins := by simp only [line, add]; split <;> rfl
theorem line_add_cl (g : Nat) (s : Sp) : (line (add g s)).cl = s.cl := by simp only [line, add]; split <;> rfl
theorem qt_within {D : List Nat} (hD : Bd D) {s : Sp} (hm : s.md = 5) (hk : s.kn = 0) (hh : s.hl = []) (x : List Nat) (hx : (lkE D x).1 = 1 ∨ (lkE D x).1 = 2) : ∃ q, Qt D s (lkE D) x q := by
  obtain ⟨d, ds, rfl⟩ : ∃ d ds, D = d :: ds := by cases D with | nil => exact absurd rfl hD.ne | cons a b => exact ⟨a, b, rfl⟩
  have e13 : stp (d :: ds) 13 s = hold 13 6 s := by simp [stp, hm, within]
  have e10 : stp (d :: ds) 10 s = line (add 10 s) := by simp [stp, hm, within]
  cases x with
  | nil =>
    refine ⟨s, rfl, by simp, hk, rfl, rfl, fun h => by simp [lkE] at h, fun _ => ?_, fun g hg h => ?_, fun g hg h => ?_⟩
    · simp only [miss, know_id hh hk hm]; simp [stp, hm]
    · by_cases h1 : g = 10
      · simp [lkE, lkB, h1] at h
      · by_cases h2 : g = 13
        · simp [lkE, h2] at h
        · simp [lkE, h1, h2] at h
    · simp only [miss, know_id hh hk hm]; simp [stp, hm]
  | cons y r =>
    by_cases h1 : y = 10
    · subst h1
      obtain ⟨q, hq⟩ := qt_fresh hD (add_ls (g := 10) hk) r (by simpa [lkE] using hx)
      exact ⟨q, Qt.cons e10 (add_ls hk).kn (line_add_hl _ _) (line_add_ins _ _) (line_add_cl _ _) (fun z => by simp [lkE]) hq⟩
    · by_cases h2 : y = 13
      · subst h2
        cases r with
        | nil =>
          refine ⟨hold 13 6 s, ?_, hold_hl _ _ _, by rw [hold_kn, hk], hold_ins _ _ _, hold_cl _ _ _, fun h => by simp [lkE] at h, fun _ => by simp [stp, hold_md, bRet], fun g hg h => ?_, fun g hg h => ?_⟩
          · simp [fd, e13, tk_id (s := hold 13 6 s) (by rw [hold_kn, hk]), out_nil (s := hold 13 6 s) (by rw [hold_kn, hk])]
          · by_cases h3 : g = 10
            · simp [lkE, lkB, h3] at h
            · simp [lkE, h3] at h
          · by_cases h3 : g = 10
            · simp [lkE, lkB, h3] at h
            · simp [stp, hold_md, bRet, h3]
        | cons z r' =>
          by_cases hz : z = 10
          · subst hz
            have e2 : stp (d :: ds) 10 (hold 13 6 s) = line (add 10 (hold 13 6 s)) := by simp [stp, hold_md, bRet, within]
            have hk2 : (hold 13 6 s).kn = 0 := by rw [hold_kn, hk]
            obtain ⟨q, hq⟩ := qt_fresh hD (add_ls (g := 10) hk2) r' (by simpa [lkE] using hx)
            exact ⟨q, Qt.cons e13 hk2 (hold_hl _ _ _) (hold_ins _ _ _) (hold_cl _ _ _) (fun z => rfl) (K' := fun z => lkE (d :: ds) (13 :: z)) (Qt.cons e2 (add_ls hk2).kn (line_add_hl _ _) (line_add_ins _ _) (line_add_cl _ _) (fun z => by simp [lkE]) hq)⟩
          · simp [lkE, hz] at hx
      · simp [lkE, h1, h2] at hx
end Go.Proofs.Ytbndohpcaahenab

/-
  The document's run over a body beside the splitter's: what each of its rounds comes to. No walk.
-/
import Derived.Test.YtbndohpcaahenabInv
namespace Go.Proofs.Ytbndohpcaahenab
set_option linter.unusedVariables false
set_option linter.unusedSimpArgs false
def tm (t : Nat) (l : List Nat) : List (Nat × Nat) := l.map fun g => (t, g)
def iff' (b : Bool) (l : List Nat) : List Nat := if b then l else []
/-- Whether the last delimiter was there. -/
def cv (D : List Nat) (s : Sp) (x : List Nat) : Bool := (en D (fd D s x).2).cl
theorem tv_cons (D : List Nat) (t g : Nat) (s : Sp) (r : List Nat) : tv D t s (g :: r) = tm t (out (stp D g s)) ++ tv D (t + 1) (tk (stp D g s)) r := rfl
theorem tv_nil (D : List Nat) (t : Nat) (s : Sp) : tv D t s [] = tm t (out (en D s)) := rfl
theorem cv_cons (D : List Nat) (g : Nat) (s : Sp) (r : List Nat) : cv D s (g :: r) = cv D (tk (stp D g s)) r := rfl
theorem tv_append (D : List Nat) (t : Nat) (s q : Sp) (x r : List Nat) (h : fd D s x = ([], q)) : tv D t s (x ++ r) = tv D (t + x.length) q r ∧ cv D s (x ++ r) = cv D q r := by
  induction x generalizing s t with
  | nil => simp [fd] at h; subst h; simp
  | cons g x ih =>
    simp only [fd, Prod.mk.injEq, List.append_eq_nil_iff] at h
    obtain ⟨⟨h1, h2⟩, h3⟩ := h
    have := ih (t + 1) (tk (stp D g s)) (by rw [← h2, ← h3])
    rw [List.cons_append, tv_cons, cv_cons, h1, this.1, this.2]
    refine ⟨?_, rfl⟩
    simp [tm]
    congr 1
    omega
/-- Where the document's run stands. -/
structure Rs (s : Sp) (fresh o over : Bool) : Prop where
  kn : s.kn = 0
  hl : s.hl = []
  ins : s.ins = o
  cl : s.cl = over
  m7 : over = true → s.md = 7 ∧ o = false
  m0 : over = false → fresh = true → Ls s
  m5 : over = false → fresh = false → s.md = 5
theorem Rs.s0 : Rs s0 true false false := ⟨rfl, rfl, rfl, rfl, fun h => by simp at h, fun _ _ => ⟨rfl, rfl, rfl, rfl, rfl⟩, fun _ h => by simp at h⟩
theorem Rs.qt {D : List Nat} (hD : Bd D) {s : Sp} {f o : Bool} (h : Rs s f o false) (x : List Nat) (hx : (look D f x).1 = 1 ∨ (look D f x).1 = 2) : ∃ q, Qt D s (look D f) x q := by
  cases f with
  | true =>
    have e : look D true = lkB D := by funext x; simp [look]
    rw [e] at hx ⊢
    exact qt_fresh hD (h.m0 rfl rfl) x hx
  | false =>
    have e : look D false = lkE D := by funext x; simp [look]
    rw [e] at hx ⊢
    exact qt_within hD (h.m5 rfl rfl) h.kn h.hl x hx
theorem out_delim (q : Sp) : out (delim q) = iff' q.ins [257] ++ iff' (!q.last) [256] := by
  obtain ⟨md, seen, pads, last, hl, kn, ins, cl⟩ := q
  cases ins <;> cases last <;> simp [delim, delim0, swap, line, know, add, out, iff']
theorem rs_delim (q : Sp) (f : Bool) (hf : q.last = false → f = true) : Rs (tk (delim q)) f (!q.last) q.last := by
  obtain ⟨md, seen, pads, last, hl, kn, ins, cl⟩ := q
  cases last with
  | false =>
    obtain rfl : f = true := hf rfl
    cases ins <;> exact ⟨rfl, rfl, rfl, rfl, fun h => (by simp at h), fun _ _ => ⟨rfl, rfl, rfl, rfl, rfl⟩, fun _ h => (by simp at h)⟩
  | true => cases ins <;> exact ⟨rfl, rfl, rfl, rfl, fun _ => ⟨rfl, rfl⟩, fun h => (by simp at h), fun h => (by simp at h)⟩
theorem within_split (g : Nat) (t : Sp) (hk : t.kn = t.hl.length) : out (within g t) = t.hl ++ out (within g { t with hl := [], kn := 0 }) ∧ tk (within g t) = tk (within g { t with hl := [], kn := 0 }) := by
  obtain ⟨md, seen, pads, last, hl, kn, ins, cl⟩ := t
  simp only at hk
  subst hk
  simp only [within]
  cases ins <;> repeat' split
  all_goals simp [hold, line, know, add, out, tk]
  all_goals exact List.take_of_length_le (by simp)
variable {D : List Nat} {s : Sp} {f o : Bool}
theorem tv_within (hs : Rs s false o false) (t g : Nat) (r : List Nat) (h10 : g ≠ 10) (h13 : g ≠ 13) (hg : g < 256) : ∃ s', Rs s' false o false ∧ tv D t s (g :: r) = tm t (iff' o [g]) ++ tv D (t + 1) s' r ∧ cv D s (g :: r) = cv D s' r := by
  have e : stp D g s = know (add g s) := by
    have : stp D g s = within g s := by simp [stp, hs.m5 rfl rfl]
    rw [this]
    simp [within, h13, h10, show ¬ g = 258 by omega]
  refine ⟨tk (know (add g s)), ?_, ?_, ?_⟩
  · obtain ⟨md, seen, pads, last, hl, kn, ins, cl⟩ := s
    have := hs.kn
    have := hs.hl
    have := hs.ins
    have := hs.cl
    have := hs.m5 rfl rfl
    simp only at *
    subst_vars
    cases ins <;> exact ⟨rfl, rfl, rfl, rfl, fun h => (by simp at h), fun _ h => (by simp at h), fun _ _ => rfl⟩
  · rw [tv_cons, e]
    congr 1
    have := hs.hl
    have := hs.ins
    obtain ⟨md, seen, pads, last, hl, kn, ins, cl⟩ := s
    simp only at *
    subst_vars
    cases ins <;> rfl
  · rw [cv_cons, e]
theorem tv_whole (hD : Bd D) (hs : Rs s f o false) (t g : Nat) (y r : List Nat) (hg : g < 256) (hy : (look D f y).1 = 1 ∨ (look D f y).1 = 2) (l : Bool) (hl : look D f (y ++ [g]) = (3, l)) : ∃ s', Rs s' true (!l) l ∧ tv D t s (y ++ g :: r) = tm (t + y.length) (iff' o [257] ++ iff' (!l) [256]) ++ tv D (t + y.length + 1) s' r ∧ cv D s (y ++ g :: r) = cv D s' r := by
  obtain ⟨q, hq⟩ := hs.qt hD y hy
  obtain ⟨h1, h2⟩ := hq.n3 g hg (by rw [hl])
  have h3 : q.last = l := by rw [h2, hl]
  have := tv_append D t s q y (g :: r) hq.run
  rw [this.1, this.2, tv_cons, cv_cons, h1, out_delim, h3, hq.ins, hs.ins]
  exact ⟨_, by have := rs_delim q true (fun _ => rfl); rwa [h3] at this, rfl, rfl⟩
theorem hl_iff (hs : Rs s f o false) {y : List Nat} {q : Sp} {K : List Nat → Nat × Bool} (hq : Qt D s K y q) : q.hl = iff' o y := by
  rw [hq.hl, hs.ins, hs.hl]
  cases o <;> simp [iff']
theorem tv_no (hD : Bd D) (hs : Rs s f o false) (t g : Nat) (y r : List Nat) (hg : g < 256) (hy : (look D f y).1 = 1 ∨ (look D f y).1 = 2) (hl : (look D f (y ++ [g])).1 = 0) : ∃ s', Rs s' false o false ∧ tv D t s (y ++ g :: r) = tm (t + y.length) (iff' o y) ++ tv D (t + y.length) s' (g :: r) ∧ cv D s (y ++ g :: r) = cv D s' (g :: r) := by
  obtain ⟨q, hq⟩ := hs.qt hD y hy
  have h1 := hq.n0 g hg hl
  have ha := tv_append D t s q y (g :: r) hq.run
  have hsp := within_split g { know q with md := 5 } rfl
  have hst : stp D g { { know q with md := 5 } with hl := [], kn := 0 } = within g { { know q with md := 5 } with hl := [], kn := 0 } := by simp [stp]
  refine ⟨{ { know q with md := 5 } with hl := [], kn := 0 }, ⟨rfl, rfl, hq.ins.trans hs.ins, hq.cl.trans hs.cl, fun h => (by simp at h), fun _ h => (by simp at h), fun _ _ => rfl⟩, ?_, ?_⟩
  · rw [ha.1, tv_cons, tv_cons, h1]
    unfold miss
    rw [hsp.1, hsp.2, hst]
    have h9 := hl_iff hs hq
    have : ({ know q with md := 5 } : Sp).hl = iff' o y := h9
    rw [this]
    simp [tm]
  · rw [ha.2, cv_cons, cv_cons, h1]
    unfold miss
    rw [hsp.2, hst]
theorem out_know (s : Sp) : out (know s) = s.hl := by simp [out, know]
theorem tv_ends (hD : Bd D) (hs : Rs s f o false) (t : Nat) (y : List Nat) (l : Bool) (hy : look D f y = (2, l)) : tv D t s y = tm (t + y.length) (iff' o [257] ++ iff' (!l) [256] ++ iff' (!l) [257]) ∧ cv D s y = l := by
  obtain ⟨q, hq⟩ := hs.qt hD y (by rw [hy]; simp)
  have ha := tv_append D t s q y [] hq.run
  rw [List.append_nil] at ha
  obtain ⟨h1, h2⟩ := hq.e2 (by rw [hy])
  have h3 : q.last = l := by rw [h2, hy]
  have hi : q.ins = o := hq.ins.trans hs.ins
  rw [ha.1, ha.2, tv_nil]
  unfold cv
  show tm _ (out (en D q)) = _ ∧ (en D q).cl = l
  unfold en
  rw [h1, out_know]
  obtain ⟨md, seen, pads, last, hl, kn, ins, cl⟩ := q
  simp only at h3 hi
  subst h3 hi
  cases ins <;> cases last <;> simp [delim, delim0, swap, line, know, add, iff']
theorem tv_begins (hD : Bd D) (hs : Rs s f o false) (t : Nat) (y : List Nat) (hy : (look D f y).1 = 1) : tv D t s y = tm (t + y.length) (iff' o y ++ iff' o [257]) ∧ cv D s y = false := by
  obtain ⟨q, hq⟩ := hs.qt hD y (Or.inl hy)
  have ha := tv_append D t s q y [] hq.run
  rw [List.append_nil] at ha
  have h1 := hq.e1 hy
  have hi : q.ins = o := hq.ins.trans hs.ins
  have hh := hl_iff hs hq
  have hc : q.cl = false := hq.cl.trans hs.cl
  rw [ha.1, ha.2, tv_nil]
  unfold cv
  show tm _ (out (en D q)) = _ ∧ (en D q).cl = false
  unfold en
  rw [h1, out_know]
  obtain ⟨md, seen, pads, last, hl, kn, ins, cl⟩ := q
  simp only at hi hh hc
  subst hi hh hc
  cases ins <;> simp [miss, within, know, add, iff']
theorem stp7 (h : s.md = 7) (g : Nat) : stp D g s = s := by simp [stp, h]
theorem tv_over (hs : Rs s f o true) (t : Nat) (x : List Nat) : tv D t s x = [] ∧ cv D s x = true := by
  have h7 := (hs.m7 rfl).1
  have ho := (hs.m7 rfl).2
  have hi : s.ins = false := hs.ins.trans ho
  induction x generalizing t with
  | nil =>
    rw [tv_nil]
    unfold cv
    show tm _ (out (en D s)) = [] ∧ (en D s).cl = true
    unfold en
    rw [stp7 h7]
    simp [add, hi, know, out, hs.hl, tm, hs.cl]
  | cons g r ih =>
    rw [tv_cons, cv_cons, stp7 h7, tk_id hs.kn, out_nil hs.kn]
    simpa [tm] using ih (t + 1)
theorem tv_end (hD : Bd D) (hs : Rs s f o false) (t : Nat) : tv D t s [] = tm t (iff' o [257]) ∧ cv D s [] = false := by
  cases f with
  | true =>
    have hne : (look D true []).1 = 1 := by
      obtain ⟨d, ds, rfl⟩ : ∃ d ds, D = d :: ds := by
        cases D with
        | nil => exact absurd rfl hD.ne
        | cons a b => exact ⟨a, b, rfl⟩
      simp [look, lkB]
    have := tv_begins hD hs t [] hne
    simpa [iff'] using this
  | false =>
    have := tv_begins hD hs t [] (by simp [look, lkE])
    simpa [iff'] using this
end Go.Proofs.Ytbndohpcaahenab

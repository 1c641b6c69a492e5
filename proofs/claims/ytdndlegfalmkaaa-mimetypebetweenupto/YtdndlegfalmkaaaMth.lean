/-
  The chapter's mathematics: tokens, what stands between, quoted texts, a type's value, its text; no walk.
-/
import Derived.WalkKit
namespace Go.Proofs.Ytdndlegfalmkaaa
set_option linter.unusedVariables false
abbrev Fd := List Nat × List Nat
abbrev Ty := List Nat × List Nat × List Fd
def isB (x : Nat) : Bool := x == 9 || x == 32
def lo (x : Nat) : Nat := if 65 ≤ x ∧ x ≤ 90 then x + 32 else x
def low (l : List Nat) : List Nat := l.map lo
def sp : List Nat := [40, 41, 60, 62, 64, 44, 59, 58, 92, 34, 47, 91, 93, 63, 61]
def tk (x : Nat) : Bool := decide (33 ≤ x) && (decide (x ≤ 126) && !sp.contains x)
def tok (l : List Nat) : Bool := !l.isEmpty && l.all tk
def rn (l : List Nat) : Nat := (l.takeWhile tk).length
/-- Within d comments: what stands behind the outermost. -/
def cm : Nat → List Nat → Option (List Nat)
  | _, [] => none
  | d, x :: r => if x = 40 then (if d < 32 then cm (d + 1) r else none) else if x = 41 then (if d ≤ 1 then some r else cm (d - 1) r) else if x = 92 then (match r with | [] => none | _ :: q => cm d q) else cm d r
/-- Within d comments: what stands behind all that stands between. -/
def bt : Nat → List Nat → Option (List Nat)
  | d, [] => if d = 0 then some [] else none
  | d, x :: r => if d = 0 then (if isB x then bt 0 r else if x = 40 then bt 1 r else some (x :: r)) else if x = 40 then (if d < 32 then bt (d + 1) r else none) else if x = 41 then bt (d - 1) r else if x = 92 then (match r with | [] => none | _ :: q => bt d q) else bt d r
/-- A quoted text, behind its first sign: what it says, what stands behind it. -/
def qt : List Nat → List Nat → Option (List Nat × List Nat)
  | _, [] => none
  | a, x :: r => if x = 34 then some (a, r) else if x = 92 then (match r with | [] => none | y :: q => qt (a ++ [y]) q) else qt (a ++ [x]) r
def tkn (r : List Nat) : Option (List Nat × List Nat) := if rn r = 0 then none else (bt 0 (r.drop (rn r))).map fun q => (r.take (rn r), q)
def sg (c : Nat) : List Nat → Option (List Nat)
  | [] => none
  | x :: q => if x = c then bt 0 q else none
def vl : List Nat → Option (List Nat × List Nat)
  | [] => none
  | x :: q => if x = 34 then (qt [] q).bind fun p => (bt 0 p.2).map fun s => (p.1, s) else tkn (x :: q)
def pm (r : List Nat) : Option (Fd × List Nat) := (tkn r).bind fun a => (sg 61 a.2).bind fun r3 => (vl r3).map fun v => ((low a.1, v.1), v.2)
def ps : Nat → List Nat → Option (List Fd)
  | 0, r => if r = [] then some [] else none
  | n + 1, r => if r = [] then some [] else (sg 59 r).bind fun r1 => (pm r1).bind fun p => (ps n p.2).map (p.1 :: ·)
def ty (l : List Nat) : Option Ty := (bt 0 l).bind fun r0 => (tkn r0).bind fun a => (sg 47 a.2).bind fun r1 => (tkn r1).bind fun b => (ps b.2.length b.2).map fun F => (low a.1, low b.1, F)
/-- A value that is one word, or nothing. -/
def wd (l : List Nat) : Option (List Nat) := (bt 0 l).bind fun r => if r = [] then some [] else (tkn r).bind fun a => if a.2 = [] then some a.1 else none
def enk (n : List Nat) : Nat := if n = [] ∨ n = [55, 98, 105, 116] ∨ n = [56, 98, 105, 116] ∨ n = [98, 105, 110, 97, 114, 121] then 0 else if n = [98, 97, 115, 101, 54, 52] then 1 else if n = [113, 117, 111, 116, 101, 100, 45, 112, 114, 105, 110, 116, 97, 98, 108, 101] then 2 else 3
def ec (l : List Nat) : Nat := match wd l with | none => 3 | some n => enk (low n)
def sm (l : List Nat) : Bool := tok l && decide (low l = l)
def es (l : List Nat) : List Nat := l.flatMap fun x => if x = 34 ∨ x = 92 then [92, x] else [x]
def wr (v : List Nat) : List Nat := if tok v then v else 34 :: (es v ++ [34])
def pt (f : Fd) : List Nat := 59 :: 32 :: (f.1 ++ 61 :: wr f.2)
def tx (t : Ty) : Option (List Nat) := if sm t.1 && (sm t.2.1 && t.2.2.all (fun f => sm f.1)) then some (t.1 ++ 47 :: (t.2.1 ++ t.2.2.flatMap pt)) else none
/-- The first parameter of a name. -/
def pr (F : List Fd) (n : List Nat) : List Nat × Bool := match F.find? (fun f => decide (f.1 = low n)) with | some f => (f.2, true) | none => ([], false)

theorem low_length (l : List Nat) : (low l).length = l.length := by simp [low]
theorem lo_lo (x : Nat) : lo (lo x) = lo x := by unfold lo; repeat' split
                                                 all_goals omega
theorem low_low (l : List Nat) : low (low l) = low l := by simp [low, lo_lo]
theorem low_append (a b : List Nat) : low (a ++ b) = low a ++ low b := by simp [low]
theorem sp_not {x : Nat} (h : (65 ≤ x ∧ x ≤ 90) ∨ (97 ≤ x ∧ x ≤ 122)) : sp.contains x = false := by
  rw [← Bool.not_eq_true, List.contains_iff_mem]
  intro hm
  simp [sp] at hm
  omega
theorem tk_lo (x : Nat) : tk (lo x) = tk x := by
  unfold lo
  split
  · rename_i h
    unfold tk
    rw [sp_not (Or.inl h), sp_not (x := x + 32) (Or.inr (by omega))]
    have h1 : 33 ≤ x := by omega
    have h2 : x ≤ 126 := by omega
    have h3 : x + 32 ≤ 126 := by omega
    have h4 : 33 ≤ x + 32 := by omega
    simp [h1, h2, h3, h4]
  · rfl
theorem all_low (l : List Nat) : (low l).all tk = l.all tk := by
  induction l with
  | nil => rfl
  | cons x r ih =>
    show (tk (lo x) && (low r).all tk) = (tk x && r.all tk)
    rw [tk_lo, ih]
theorem tok_low (l : List Nat) : tok (low l) = tok l := by
  unfold tok
  rw [all_low]
  cases l <;> rfl
theorem tok_append {a b : List Nat} (ha : a ≠ []) (hb : b ≠ []) : tok (a ++ b) = (tok a && tok b) := by
  unfold tok
  cases a with
  | nil => exact absurd rfl ha
  | cons x r =>
    cases b with
    | nil => exact absurd rfl hb
    | cons y q => simp [List.all_append, Bool.and_assoc]
/-! What stands between. -/
theorem cm_suf : ∀ (n d : Nat) (l r : List Nat), l.length ≤ n → cm d l = some r → r.length < l.length ∧ r <:+ l
  | 0, d, [], r, _, h => by simp [cm] at h
  | n + 1, d, [], r, _, h => by simp [cm] at h
  | n + 1, d, x :: l, r, hn, h => by
    have hn' : l.length ≤ n := by simp at hn; omega
    have fin : ∀ d', cm d' l = some r → r.length < (x :: l).length ∧ r <:+ x :: l := fun d' h' => by
      have := cm_suf n d' l r hn' h'
      exact ⟨by simp; omega, this.2.trans (List.suffix_cons x l)⟩
    rw [cm.eq_def] at h
    simp only at h
    split at h
    · split at h
      · exact fin _ h
      · cases h
    · split at h
      · split at h
        · cases h
          exact ⟨by simp, List.suffix_cons x l⟩
        · exact fin _ h
      · split at h
        · cases l with
          | nil => cases h
          | cons y q =>
            have hq : q.length ≤ n := by simp at hn'; omega
            have := cm_suf n d q r hq h
            exact ⟨by simp; omega, (this.2.trans (List.suffix_cons y q)).trans (List.suffix_cons x _)⟩
        · exact fin _ h
theorem bt_cm : ∀ (n d : Nat) (l : List Nat), l.length ≤ n → 0 < d → bt d l = (cm d l).bind (bt 0)
  | n, d, [], _, hd => by
    have : ¬ d = 0 := by omega
    simp [bt, cm, this]
  | n + 1, d, x :: l, hn, hd => by
    have hn' : l.length ≤ n := by simp at hn; omega
    have h0 : ¬ d = 0 := by omega
    rw [bt.eq_def, cm.eq_def]
    simp only [if_neg h0]
    by_cases h1 : x = 40
    · simp only [if_pos h1]
      by_cases h2 : d < 32
      · simp only [if_pos h2]
        exact bt_cm n (d + 1) l hn' (by omega)
      · simp only [if_neg h2]; rfl
    · simp only [if_neg h1]
      by_cases h2 : x = 41
      · simp only [if_pos h2]
        by_cases h3 : d ≤ 1
        · simp only [if_pos h3]
          obtain rfl : d = 1 := by omega
          rfl
        · simp only [if_neg h3]
          exact bt_cm n (d - 1) l hn' (by omega)
      · simp only [if_neg h2]
        by_cases h3 : x = 92
        · simp only [if_pos h3]
          cases l with
          | nil => rfl
          | cons y q => exact bt_cm n d q (by simp at hn'; omega) hd
        · simp only [if_neg h3]
          exact bt_cm n d l hn' hd
theorem bt_nil : bt 0 [] = some [] := rfl
theorem bt_blank {x : Nat} {r : List Nat} (h : isB x = true) : bt 0 (x :: r) = bt 0 r := by rw [bt.eq_def]; simp [h]
theorem bt_open {r : List Nat} : bt 0 (40 :: r) = (cm 0 (40 :: r)).bind (bt 0) := by
  have e1 : bt 0 (40 :: r) = bt 1 r := by rw [bt.eq_def]; simp [isB]
  have e2 : cm 0 (40 :: r) = cm 1 r := by rw [cm.eq_def]; simp
  rw [e1, e2, bt_cm r.length 1 r (Nat.le_refl _) (by omega)]
theorem bt_stop {x : Nat} {r : List Nat} (h1 : isB x = false) (h2 : x ≠ 40) : bt 0 (x :: r) = some (x :: r) := by rw [bt.eq_def]; simp [h1, h2]
theorem bt_out : ∀ (n : Nat) (l r : List Nat), l.length ≤ n → bt 0 l = some r → r.length ≤ l.length ∧ r <:+ l ∧ bt 0 r = some r
  | n, [], r, _, h => by
    rw [bt_nil] at h; cases h
    exact ⟨Nat.le_refl _, List.suffix_refl _, rfl⟩
  | n + 1, x :: l, r, hn, h => by
    have hn' : l.length ≤ n := by simp at hn; omega
    by_cases h1 : isB x = true
    · rw [bt_blank h1] at h
      have := bt_out n l r hn' h
      exact ⟨by simp; omega, this.2.1.trans (List.suffix_cons x l), this.2.2⟩
    · have h1 : isB x = false := by simpa using h1
      by_cases h2 : x = 40
      · subst h2
        rw [bt_open] at h
        cases hc : cm 0 (40 :: l) with
        | none => rw [hc] at h; cases h
        | some q =>
          rw [hc] at h
          have k := cm_suf (l.length + 1) 0 (40 :: l) q (by simp) hc
          have k1 : q.length ≤ n := by have := k.1; simp at this; omega
          have := bt_out n q r k1 h
          exact ⟨by omega, this.2.1.trans k.2, this.2.2⟩
      · rw [bt_stop h1 h2] at h
        cases h
        exact ⟨Nat.le_refl _, List.suffix_refl _, bt_stop h1 h2⟩
theorem bt_le {l r : List Nat} (h : bt 0 l = some r) : r.length ≤ l.length := (bt_out _ l r (Nat.le_refl _) h).1
theorem bt_suf {l r : List Nat} (h : bt 0 l = some r) : r <:+ l := (bt_out _ l r (Nat.le_refl _) h).2.1
theorem bt_id {l r : List Nat} (h : bt 0 l = some r) : bt 0 r = some r := (bt_out _ l r (Nat.le_refl _) h).2.2
theorem qt_suf : ∀ (n : Nat) (a l : List Nat) (v r : List Nat), l.length ≤ n → qt a l = some (v, r) → r.length < l.length ∧ r <:+ l ∧ v.length + r.length < a.length + l.length
  | 0, a, [], v, r, _, h => by simp [qt] at h
  | n + 1, a, [], v, r, _, h => by simp [qt] at h
  | n + 1, a, x :: l, v, r, hn, h => by
    have hn' : l.length ≤ n := by simp at hn; omega
    rw [qt.eq_def] at h
    simp only at h
    split at h
    · cases h
      exact ⟨by simp, List.suffix_cons x _, by simp⟩
    · split at h
      · cases l with
        | nil => cases h
        | cons y q =>
          have := qt_suf n (a ++ [y]) q v r (by simp at hn'; omega) h
          simp at this
          exact ⟨by simp; omega, (this.2.1.trans (List.suffix_cons y q)).trans (List.suffix_cons x _), by simp; omega⟩
      · have := qt_suf n (a ++ [x]) l v r hn' h
        simp at this
        exact ⟨by simp; omega, this.2.1.trans (List.suffix_cons x l), by simp; omega⟩
theorem rn_le (l : List Nat) : rn l ≤ l.length := by
  unfold rn
  exact List.Sublist.length_le (List.takeWhile_sublist tk)
theorem rn_take (l : List Nat) : l.take (rn l) = l.takeWhile tk := by
  unfold rn
  exact (List.prefix_iff_eq_take.1 (List.takeWhile_prefix tk)).symm
theorem all_takeWhile (l : List Nat) : (l.takeWhile tk).all tk = true := by
  induction l with
  | nil => rfl
  | cons x r ih =>
    rw [List.takeWhile_cons]
    cases h : tk x with
    | false => rfl
    | true => simp [h, ih]
theorem tkn_out {r m q : List Nat} (h : tkn r = some (m, q)) : tok m = true ∧ m.length + q.length ≤ r.length ∧ q <:+ r ∧ 0 < m.length ∧ bt 0 q = some q := by
  unfold tkn at h
  split at h
  · cases h
  · rename_i h0
    cases hb : bt 0 (r.drop (rn r)) with
    | none => rw [hb] at h; cases h
    | some s =>
      rw [hb] at h
      simp only [Option.map_some, Option.some.injEq, Prod.mk.injEq] at h
      obtain ⟨h1, h2⟩ := h
      subst h2
      have hl := rn_le r
      have hm : m.length = rn r := by rw [← h1]; simp; omega
      have hs := bt_le hb
      simp at hs
      refine ⟨?_, by omega, (bt_suf hb).trans (List.drop_suffix _ _), by omega, bt_id hb⟩
      unfold tok
      have hne : m.isEmpty = false := by
        cases m with
        | nil => simp at hm; omega
        | cons _ _ => rfl
      rw [hne, ← h1, rn_take, all_takeWhile]
      rfl
theorem sg_out {c : Nat} {r q : List Nat} (h : sg c r = some q) : q.length < r.length ∧ q <:+ r ∧ bt 0 q = some q := by
  cases r with
  | nil => cases h
  | cons x s =>
    simp only [sg] at h
    split at h
    · have := bt_le h
      exact ⟨by simp; omega, (bt_suf h).trans (List.suffix_cons x s), bt_id h⟩
    · cases h
theorem vl_out {r v q : List Nat} (h : vl r = some (v, q)) : v.length + q.length ≤ r.length ∧ q <:+ r ∧ bt 0 q = some q := by
  cases r with
  | nil => cases h
  | cons x s =>
    simp only [vl] at h
    split at h
    · cases hq : qt [] s with
      | none => rw [hq] at h; cases h
      | some p =>
        obtain ⟨p1, p2⟩ := p
        rw [hq] at h
        simp only [Option.bind_some] at h
        cases hb : bt 0 p2 with
        | none => rw [hb] at h; cases h
        | some t =>
          rw [hb] at h
          simp only [Option.map_some, Option.some.injEq, Prod.mk.injEq] at h
          obtain ⟨h1, h2⟩ := h
          subst h1
          subst h2
          have k := qt_suf _ [] s p1 p2 (Nat.le_refl _) hq
          have k2 := bt_le hb
          simp at k
          exact ⟨by simp; omega, ((bt_suf hb).trans k.2.1).trans (List.suffix_cons x s), bt_id hb⟩
    · have := tkn_out h
      exact ⟨this.2.1, this.2.2.1, this.2.2.2.2⟩
theorem pm_out {r q : List Nat} {f : Fd} (h : pm r = some (f, q)) : sm f.1 = true ∧ f.1.length + f.2.length + q.length < r.length ∧ q <:+ r ∧ bt 0 q = some q := by
  unfold pm at h
  cases h1 : tkn r with
  | none => rw [h1] at h; cases h
  | some a =>
    obtain ⟨a1, a2⟩ := a
    rw [h1] at h
    simp only [Option.bind_some] at h
    cases h2 : sg 61 a2 with
    | none => rw [h2] at h; cases h
    | some r3 =>
      rw [h2] at h
      simp only [Option.bind_some] at h
      cases h3 : vl r3 with
      | none => rw [h3] at h; cases h
      | some v =>
        obtain ⟨v1, v2⟩ := v
        rw [h3] at h
        simp only [Option.map_some, Option.some.injEq, Prod.mk.injEq] at h
        obtain ⟨rfl, rfl⟩ := h
        have k1 := tkn_out h1
        have k2 := sg_out h2
        have k3 := vl_out h3
        refine ⟨?_, ?_, (k3.2.1.trans k2.2.1).trans k1.2.2.1, k3.2.2⟩
        · unfold sm
          rw [tok_low, k1.1, low_low]
          simp
        · simp only [low_length]
          omega
theorem ps_more : ∀ (n m : Nat) (r : List Nat), r.length ≤ n → r.length ≤ m → ps n r = ps m r
  | 0, m, r, hn, hm => by
    have : r = [] := List.eq_nil_of_length_eq_zero (by omega)
    subst this
    cases m <;> simp [ps]
  | n + 1, 0, r, hn, hm => by
    have : r = [] := List.eq_nil_of_length_eq_zero (by omega)
    subst this
    simp [ps]
  | n + 1, m + 1, r, hn, hm => by
    simp only [ps]
    split
    · rfl
    · cases h1 : sg 59 r with
      | none => rfl
      | some r1 =>
        simp only [Option.bind_some]
        cases h2 : pm r1 with
        | none => rfl
        | some p =>
          obtain ⟨f, q⟩ := p
          simp only [Option.bind_some]
          have k1 := sg_out h1
          have k2 := pm_out h2
          rw [ps_more n m q (by omega) (by omega)]
theorem ps_nil (n : Nat) : ps n [] = some [] := by cases n <;> simp [ps]
theorem ps_step {r : List Nat} (h : r ≠ []) : ps r.length r = (sg 59 r).bind fun r1 => (pm r1).bind fun p => (ps p.2.length p.2).map (p.1 :: ·) := by
  obtain ⟨n, hn⟩ : ∃ n, r.length = n + 1 := ⟨r.length - 1, by
    cases r with
    | nil => exact absurd rfl h
    | cons _ _ => simp⟩
  rw [hn]
  simp only [ps, if_neg h]
  cases h1 : sg 59 r with
  | none => rfl
  | some r1 =>
    simp only [Option.bind_some]
    cases h2 : pm r1 with
    | none => rfl
    | some p =>
      obtain ⟨f, q⟩ := p
      simp only [Option.bind_some]
      have k1 := sg_out h1
      have k2 := pm_out h2
      rw [ps_more n q.length q (by omega) (Nat.le_refl _)]
/-- How much fields hold. -/
def wt (F : List Fd) : Nat := (F.map fun f => f.1.length + f.2.length + 1).sum
theorem wt_cons (f : Fd) (F : List Fd) : wt (f :: F) = f.1.length + f.2.length + 1 + wt F := by simp [wt]
theorem wt_append (F G : List Fd) : wt (F ++ G) = wt F + wt G := by simp [wt]
theorem wt_len (F : List Fd) : F.length ≤ wt F := by
  induction F with
  | nil => simp [wt]
  | cons f F ih => rw [wt_cons]; simp; omega
theorem wt_mem {F : List Fd} {f : Fd} (h : f ∈ F) : f.1.length + f.2.length + 1 ≤ wt F := by
  induction F with
  | nil => cases h
  | cons g F ih =>
    rw [wt_cons]
    rcases List.mem_cons.1 h with e | e
    · rw [e]; omega
    · have := ih e; omega
theorem ps_out : ∀ (n : Nat) (r : List Nat) (F : List Fd), ps n r = some F → wt F ≤ r.length ∧ F.all (fun f => sm f.1) = true
  | 0, r, F, h => by
    simp only [ps] at h
    split at h
    · cases h; exact ⟨by simp [wt], rfl⟩
    · cases h
  | n + 1, r, F, h => by
    simp only [ps] at h
    split at h
    · cases h; exact ⟨by simp [wt], rfl⟩
    · cases h1 : sg 59 r with
      | none => rw [h1] at h; cases h
      | some r1 =>
        rw [h1] at h
        simp only [Option.bind_some] at h
        cases h2 : pm r1 with
        | none => rw [h2] at h; cases h
        | some p =>
          obtain ⟨f, q⟩ := p
          rw [h2] at h
          simp only [Option.bind_some] at h
          cases h3 : ps n q with
          | none => rw [h3] at h; cases h
          | some G =>
            rw [h3] at h
            simp only [Option.map_some, Option.some.injEq] at h
            subst h
            have k1 := sg_out h1
            have k2 := pm_out h2
            have k3 := ps_out n q G h3
            refine ⟨by rw [wt_cons]; omega, ?_⟩
            simp only [List.all_cons, k2.1, k3.2, Bool.and_self]
theorem ty_out {l : List Nat} {t : Ty} (h : ty l = some t) : sm t.1 = true ∧ sm t.2.1 = true ∧ t.2.2.all (fun f => sm f.1) = true ∧ t.1.length + t.2.1.length + wt t.2.2 ≤ l.length := by
  unfold ty at h
  cases h0 : bt 0 l with
  | none => rw [h0] at h; cases h
  | some r0 =>
    rw [h0] at h
    simp only [Option.bind_some] at h
    cases h1 : tkn r0 with
    | none => rw [h1] at h; cases h
    | some a =>
      obtain ⟨a1, a2⟩ := a
      rw [h1] at h
      simp only [Option.bind_some] at h
      cases h2 : sg 47 a2 with
      | none => rw [h2] at h; cases h
      | some r1 =>
        rw [h2] at h
        simp only [Option.bind_some] at h
        cases h3 : tkn r1 with
        | none => rw [h3] at h; cases h
        | some b =>
          obtain ⟨b1, b2⟩ := b
          rw [h3] at h
          simp only [Option.bind_some] at h
          cases h4 : ps b2.length b2 with
          | none => rw [h4] at h; cases h
          | some F =>
            rw [h4] at h
            simp only [Option.map_some, Option.some.injEq] at h
            subst h
            have k0 := bt_le h0
            have k1 := tkn_out h1
            have k2 := sg_out h2
            have k3 := tkn_out h3
            have k4 := ps_out _ _ _ h4
            refine ⟨?_, ?_, k4.2, ?_⟩
            · show sm (low a1) = true
              unfold sm
              rw [tok_low, k1.1, low_low]; simp
            · show sm (low b1) = true
              unfold sm
              rw [tok_low, k3.1, low_low]; simp
            · simp only [low_length]
              omega
theorem tx_some {t : Ty} (h1 : sm t.1 = true) (h2 : sm t.2.1 = true) (h3 : t.2.2.all (fun f => sm f.1) = true) : tx t = some (t.1 ++ 47 :: (t.2.1 ++ t.2.2.flatMap pt)) := by
  unfold tx
  rw [h1, h2, h3]
  rfl
end Go.Proofs.Ytdndlegfalmkaaa

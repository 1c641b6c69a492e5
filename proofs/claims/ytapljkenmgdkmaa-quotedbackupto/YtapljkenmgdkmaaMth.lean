/-
  The chapter's mathematics: what a byte does to what was begun, what bytes say. No walk in it.
-/
namespace Go.Proofs.Ytapljkenmgdkmaa
def isB (b : Nat) : Bool := b == 9 || b == 32
/-- What a digit says; 16: it is none. -/
def vl (b : Nat) : Nat := if 48 ≤ b ∧ b ≤ 57 then b - 48 else if 65 ≤ b ∧ b ≤ 70 then b - 55 else if 97 ≤ b ∧ b ≤ 102 then b - 87 else 16
theorem vl_le (b : Nat) : vl b ≤ 16 := by unfold vl; (repeat' split) <;> omega
/-- What was begun. -/
abbrev St := (Bool × Bool) ⊕ Nat
abbrev St.no : St := .inl (false, false)
abbrev St.eq : St := .inl (false, true)
abbrev St.dg (h : Nat) : St := .inr h
abbrev St.sf : St := .inl (true, false)
abbrev St.bk : St := .inl (true, true)
theorem St.el {motive : St → Prop} (s : St) (no : motive .no) (eq : motive .eq) (dg : ∀ h, motive (.dg h)) (sf : motive .sf) (bk : motive .bk) : motive s :=
  match s with
  | .inl (false, false) => no
  | .inl (false, true) => eq
  | .inr h => dg h
  | .inl (true, false) => sf
  | .inl (true, true) => bk
def St.num (s : St) : Nat := match s with
  | .inl (false, false) => 0
  | .inl (false, true) => 1
  | .inr _ => 2
  | .inl (true, false) => 3
  | .inl (true, true) => 4
theorem St.num_lt (s : St) : s.num < 5 := by cases s using St.el <;> simp [St.num]
/-- What a byte does: it stops, or it goes on, and tells bytes. -/
abbrev Ev := Option (St × List Nat × List Nat)
abbrev Ev.stop : Ev := none
abbrev Ev.go (s : St) (W K : List Nat) : Ev := some (s, W, K)
theorem Ev.el {motive : Ev → Prop} (e : Ev) (stop : motive .stop) (go : ∀ s W K, motive (.go s W K)) : motive e :=
  match e with
  | none => stop
  | some (s, W, K) => go s W K
/-- A byte where nothing but blanks was begun, K known ahead. -/
def pl (K W : List Nat) (b : Nat) : Ev :=
  if isB b = true then (if 64 ≤ W.length then .go .no (W.drop 1 ++ [b]) (K ++ W.take 1) else .go .no (W ++ [b]) K)
  else if b = 61 then .go .eq [] (K ++ W)
  else if b = 13 then .go .bk W K
  else if b = 10 then .go .no [] (K ++ [10])
  else .go .no [] (K ++ W ++ [b])
def ev (s : St) (W : List Nat) (b : Nat) : Ev := match s with
  | .inl (false, false) => pl [] W b
  | .inl (false, true) => if vl b < 16 then .go (.dg (vl b)) W [] else if b = 13 then .go .sf W [] else if b = 10 then .go .no W [] else .stop
  | .inr h => if vl b < 16 then .go .no [] (W ++ [16 * h + vl b]) else .stop
  | .inl (true, false) => if b = 10 then .go .no W [] else .stop
  | .inl (true, true) => if b = 10 then .go .no [] [13, 10] else pl (W ++ [13]) [] b
/-- What may be begun. -/
structure Wf (s : St) (W : List Nat) : Prop where
  le : W.length ≤ 64
  oct : ∀ x ∈ W, x < 256
  nil : s = .no ∨ s = .bk ∨ W = []
  dig : ∀ h, s = .dg h → h < 16
theorem wf0 : Wf .no [] := ⟨by simp, by simp, Or.inl rfl, fun h e => by cases e⟩
theorem pl_wf {K W : List Nat} {b : Nat} (hb : b < 256) (h1 : W.length ≤ 64) (h2 : ∀ x ∈ W, x < 256) {s' : St} {W' K' : List Nat} (e : pl K W b = .go s' W' K') : Wf s' W' := by
  unfold pl at e
  split at e
  · split at e
    · cases e
      refine ⟨by simp; omega, ?_, Or.inl rfl, fun h e => by cases e⟩
      intro x hx
      rcases List.mem_append.1 hx with hx | hx
      · exact h2 x (List.mem_of_mem_drop hx)
      · simp at hx; omega
    · cases e
      refine ⟨by simp; omega, ?_, Or.inl rfl, fun h e => by cases e⟩
      intro x hx
      rcases List.mem_append.1 hx with hx | hx
      · exact h2 x hx
      · simp at hx; omega
  split at e
  · cases e; exact ⟨by simp, by simp, Or.inr (Or.inr rfl), fun h e => by cases e⟩
  split at e
  · cases e; exact ⟨h1, h2, Or.inr (Or.inl rfl), fun h e => by cases e⟩
  split at e
  · cases e; exact wf0
  · cases e; exact wf0
theorem ev_wf {s : St} {W : List Nat} {b : Nat} (hb : b < 256) (h : Wf s W) {s' : St} {W' K : List Nat} (e : ev s W b = .go s' W' K) : Wf s' W' := by
  obtain ⟨h1, h2, h3, h4⟩ := h
  cases s using St.el with
  | no => exact pl_wf hb h1 h2 e
  | eq =>
    have hW : W = [] := by rcases h3 with h | h | h <;> first | cases h; done | exact h
    subst hW
    unfold ev at e
    simp only at e
    split at e
    · rename_i hv
      cases e
      exact ⟨by simp, by simp, Or.inr (Or.inr rfl), fun h e => by cases e; exact hv⟩
    split at e
    · cases e; exact ⟨by simp, by simp, Or.inr (Or.inr rfl), fun h e => by cases e⟩
    split at e
    · cases e; exact wf0
    · cases e
  | dg k =>
    unfold ev at e
    simp only at e
    split at e
    · cases e; exact wf0
    · cases e
  | sf =>
    have hW : W = [] := by rcases h3 with h | h | h <;> first | cases h; done | exact h
    subst hW
    unfold ev at e
    simp only at e
    split at e
    · cases e; exact wf0
    · cases e
  | bk =>
    unfold ev at e
    simp only at e
    split at e
    · cases e; exact wf0
    · exact pl_wf hb (by simp) (by simp) e
theorem pl_len {K W : List Nat} {b : Nat} {s' : St} {W' K' : List Nat} (e : pl K W b = .go s' W' K') : K'.length + W'.length ≤ K.length + W.length + 1 := by
  unfold pl at e
  split at e
  · split at e
    · cases e; simp; omega
    · cases e; simp; omega
  split at e
  · cases e; simp
  split at e
  · cases e; omega
  split at e
  · cases e; simp
  · cases e; simp; omega
/-- No more is told than came. -/
def pend (s : St) : Nat := match s with
  | .inl (true, true) => 1
  | _ => 0
theorem ev_len {s : St} {W : List Nat} {b : Nat} {s' : St} {W' K : List Nat} (e : ev s W b = .go s' W' K) : K.length + W'.length + pend s' ≤ W.length + pend s + 1 := by
  have hp : pl K W b = pl K W b := rfl
  cases s using St.el with
  | no =>
    have h1 := pl_len e
    unfold ev at e
    simp only [pl] at e
    split at e
    · split at e <;> cases e <;> simp [pend] <;> omega
    split at e
    · cases e; simp [pend]
    split at e
    · cases e; simp [pend]
    split at e
    · cases e; simp [pend]
    · cases e; simp [pend]
  | eq =>
    unfold ev at e
    simp only at e
    split at e
    · cases e; simp [pend]
    split at e
    · cases e; simp [pend]
    split at e
    · cases e; simp [pend]
    · cases e
  | dg k =>
    unfold ev at e
    simp only at e
    split at e
    · cases e; simp [pend]
    · cases e
  | sf =>
    unfold ev at e
    simp only at e
    split at e
    · cases e; simp [pend]
    · cases e
  | bk =>
    unfold ev at e
    simp only [pl] at e
    split at e
    · cases e; simp [pend]
    split at e
    · split at e <;> cases e <;> simp [pend] <;> omega
    split at e
    · cases e; simp [pend]
    split at e
    · cases e; simp [pend]
    · cases e; simp [pend]
theorem pl_oct {K W : List Nat} {b : Nat} (hb : b < 256) (h1 : ∀ x ∈ K, x < 256) (h2 : ∀ x ∈ W, x < 256) {s' : St} {W' K' : List Nat} (e : pl K W b = .go s' W' K') : ∀ x ∈ K', x < 256 := by
  unfold pl at e
  split at e
  · split at e
    · cases e
      intro x hx
      rcases List.mem_append.1 hx with hx | hx
      · exact h1 x hx
      · exact h2 x (List.mem_of_mem_take hx)
    · cases e; exact h1
  split at e
  · cases e
    intro x hx
    rcases List.mem_append.1 hx with hx | hx
    · exact h1 x hx
    · exact h2 x hx
  split at e
  · cases e; exact h1
  split at e
  · cases e
    intro x hx
    rcases List.mem_append.1 hx with hx | hx
    · exact h1 x hx
    · simp at hx; omega
  · cases e
    intro x hx
    rcases List.mem_append.1 hx with hx | hx
    · rcases List.mem_append.1 hx with hx | hx
      · exact h1 x hx
      · exact h2 x hx
    · simp at hx; omega
theorem ev_oct {s : St} {W : List Nat} {b : Nat} (hb : b < 256) (h : Wf s W) {s' : St} {W' K : List Nat} (e : ev s W b = .go s' W' K) : ∀ x ∈ K, x < 256 := by
  obtain ⟨h1, h2, h3, h4⟩ := h
  cases s using St.el with
  | no => exact pl_oct hb (by simp) h2 e
  | eq =>
    unfold ev at e
    simp only at e
    split at e
    · cases e; simp
    split at e
    · cases e; simp
    split at e
    · cases e; simp
    · cases e
  | dg k =>
    unfold ev at e
    simp only at e
    split at e
    · cases e
      intro x hx
      have := h4 k rfl
      rcases List.mem_append.1 hx with hx | hx
      · exact h2 x hx
      · simp at hx; omega
    · cases e
  | sf =>
    unfold ev at e
    simp only at e
    split at e
    · cases e; simp
    · cases e
  | bk =>
    unfold ev at e
    simp only at e
    split at e
    · cases e; simp
    · refine pl_oct hb ?_ (by simp) e
      intro x hx
      rcases List.mem_append.1 hx with hx | hx
      · exact h2 x hx
      · simp at hx; omega
/-- The end: what is told, and why it was stopped. -/
def fin (s : St) (W : List Nat) : List Nat := match s with
  | .inl (true, true) => W ++ [13]
  | _ => []
def finy (s : St) : Nat := match s with
  | .inr _ => 1
  | _ => 0
/-- What bytes say, from the byte i on. -/
structure Rs where
  out : List Nat
  tm : List Nat
  why : Nat
  at_ : Nat
def addk (i : Nat) (K : List Nat) (r : Rs) : Rs := ⟨K ++ r.out, List.replicate K.length i ++ r.tm, r.why, r.at_⟩
def rn (i : Nat) (s : St) (W : List Nat) : List Nat → Rs
  | [] => ⟨fin s W, List.replicate (fin s W).length i, finy s, i⟩
  | b :: l => match ev s W b with
    | none => ⟨[], [], 22, i⟩
    | some (s', W', K) => addk i K (rn (i + 1) s' W' l)
theorem addk_nil (i : Nat) (r : Rs) : addk i [] r = r := by simp [addk]
theorem rn_go {i : Nat} {s : St} {W : List Nat} {b : Nat} {l : List Nat} {s' : St} {W' K : List Nat} (e : ev s W b = .go s' W' K) : rn i s W (b :: l) = addk i K (rn (i + 1) s' W' l) := by rw [rn, e]
theorem rn_stop {i : Nat} {s : St} {W : List Nat} {b : Nat} {l : List Nat} (e : ev s W b = .stop) : rn i s W (b :: l) = ⟨[], [], 22, i⟩ := by rw [rn, e]
theorem rn_tm (l : List Nat) : ∀ (i : Nat) (s : St) (W : List Nat), (rn i s W l).tm.length = (rn i s W l).out.length := by
  induction l with
  | nil => intro i s W; simp [rn]
  | cons b l ih =>
    intro i s W
    cases e : ev s W b using Ev.el with
    | stop => rw [rn_stop e]
    | go s' W' K => rw [rn_go e]; simp [addk, ih]
theorem rn_len (l : List Nat) : ∀ (i : Nat) (s : St) (W : List Nat), (rn i s W l).out.length ≤ l.length + W.length + pend s := by
  induction l with
  | nil => intro i s W; cases s using St.el <;> simp [rn, fin, pend]
  | cons b l ih =>
    intro i s W
    cases e : ev s W b using Ev.el with
    | stop => rw [rn_stop e]; simp
    | go s' W' K =>
      rw [rn_go e]
      have h1 := ev_len e
      have h2 := ih (i + 1) s' W'
      simp [addk]
      omega
theorem rn_at (l : List Nat) : ∀ (i : Nat) (s : St) (W : List Nat), i ≤ (rn i s W l).at_ ∧ (rn i s W l).at_ ≤ i + l.length ∧ ((rn i s W l).why < 2 → (rn i s W l).at_ = i + l.length) ∧ ((rn i s W l).why = 22 → (rn i s W l).at_ < i + l.length) := by
  induction l with
  | nil => intro i s W; cases s using St.el <;> simp [rn, finy]
  | cons b l ih =>
    intro i s W
    cases e : ev s W b using Ev.el with
    | stop => rw [rn_stop e]; simp
    | go s' W' K =>
      rw [rn_go e]
      obtain ⟨h1, h2, h3, h4⟩ := ih (i + 1) s' W'
      simp only [addk, List.length_cons]
      refine ⟨by omega, by omega, fun h => ?_, fun h => ?_⟩
      · rw [h3 h]; omega
      · have := h4 h; omega
theorem rn_why (l : List Nat) : ∀ (i : Nat) (s : St) (W : List Nat), (rn i s W l).why = 0 ∨ (rn i s W l).why = 1 ∨ (rn i s W l).why = 22 := by
  induction l with
  | nil => intro i s W; cases s using St.el <;> simp [rn, finy]
  | cons b l ih =>
    intro i s W
    cases e : ev s W b using Ev.el with
    | stop => rw [rn_stop e]; simp
    | go s' W' K => rw [rn_go e]; exact ih (i + 1) s' W'
theorem rn_oct (l : List Nat) : ∀ (i : Nat) (s : St) (W : List Nat), (∀ x ∈ l, x < 256) → Wf s W → ∀ x ∈ (rn i s W l).out, x < 256 := by
  induction l with
  | nil =>
    intro i s W _ h x hx
    cases s using St.el <;> simp [rn, fin] at hx
    rcases hx with hx | hx
    · exact h.oct x hx
    · omega
  | cons b l ih =>
    intro i s W ho h
    cases e : ev s W b using Ev.el with
    | stop => rw [rn_stop e]; simp
    | go s' W' K =>
      rw [rn_go e]
      have hb := ho b (by simp)
      intro x hx
      rcases List.mem_append.1 hx with hx | hx
      · exact ev_oct hb h e x hx
      · exact ih (i + 1) s' W' (fun y hy => ho y (by simp [hy])) (ev_wf hb h e) x hx
theorem rn_times (l : List Nat) : ∀ (i : Nat) (s : St) (W : List Nat), ∀ t ∈ (rn i s W l).tm, i ≤ t ∧ t ≤ i + l.length := by
  induction l with
  | nil => intro i s W t ht; simp [rn] at ht; simp; omega
  | cons b l ih =>
    intro i s W t ht
    cases e : ev s W b using Ev.el with
    | stop => rw [rn_stop e] at ht; simp at ht
    | go s' W' K =>
      rw [rn_go e] at ht
      rcases List.mem_append.1 ht with ht | ht
      · have := List.eq_of_mem_replicate ht; simp; omega
      · have := ih (i + 1) s' W' t ht; simp; omega
/-! The document's pieces. -/
theorem isB_iff (b : Nat) : isB b = true ↔ b = 9 ∨ b = 32 := by simp [isB]
theorem rn_lf (i : Nat) (l : List Nat) : rn i .no [] (10 :: l) = addk i [10] (rn (i + 1) .no [] l) := rn_go (by rfl)
theorem rn_crlf (i : Nat) (l : List Nat) : rn i .no [] (13 :: 10 :: l) = addk (i + 1) [13, 10] (rn (i + 2) .no [] l) := by
  rw [rn_go (s' := .bk) (W' := []) (K := []) (by rfl), addk_nil, rn_go (s' := .no) (W' := []) (K := [13, 10]) (by rfl)]
theorem ev_plain {b : Nat} (h1 : isB b = false) (h2 : b ≠ 61) (h3 : b ≠ 13) (h4 : b ≠ 10) (W : List Nat) : ev .no W b = .go .no [] (W ++ [b]) := by
  simp only [ev, pl]
  rw [if_neg (by rw [h1]; simp), if_neg h2, if_neg h3, if_neg h4]
  simp
theorem rn_plain {b : Nat} (h1 : isB b = false) (h2 : b ≠ 61) (h3 : b ≠ 13) (h4 : b ≠ 10) (i : Nat) (l : List Nat) : rn i .no [] (b :: l) = addk i [b] (rn (i + 1) .no [] l) := rn_go (by rw [ev_plain h1 h2 h3 h4]; rfl)
theorem pl_pre (K W : List Nat) (b : Nat) : ∀ {s' : St} {W' K' : List Nat}, pl [] W b = .go s' W' K' → pl K W b = .go s' W' (K ++ K') := by
  intro s' W' K' e
  unfold pl at e ⊢
  split at e
  · rename_i h
    rw [if_pos h]
    split at e
    · rename_i h2
      rw [if_pos h2]
      cases e; simp
    · rename_i h2
      rw [if_neg h2]
      cases e; simp
  rename_i h
  rw [if_neg h]
  split at e
  · rename_i h2; rw [if_pos h2]; cases e; simp
  rename_i h2
  rw [if_neg h2]
  split at e
  · rename_i h3; rw [if_pos h3]; cases e; simp
  rename_i h3
  rw [if_neg h3]
  split at e
  · rename_i h4; rw [if_pos h4]; cases e; simp
  · rename_i h4; rw [if_neg h4]; cases e; simp
theorem pl_goes (K W : List Nat) (b : Nat) : ∃ s' W' K', pl K W b = .go s' W' K' := by
  unfold pl
  (repeat' split) <;> exact ⟨_, _, _, rfl⟩
theorem addk_addk (i : Nat) (K M : List Nat) (r : Rs) : addk i (K ++ M) r = addk i K (addk i M r) := by
  simp only [addk, List.length_append, List.append_assoc, ← List.replicate_append_replicate]
/-- A byte 13 that is no line's end. -/
theorem rn_cr (i : Nat) (l : List Nat) (h : l[0]? ≠ some 10) (W : List Nat) : rn i .no W (13 :: l) = addk (i + 1) (W ++ [13]) (rn (i + 1) .no [] l) := by
  rw [rn_go (s' := .bk) (W' := W) (K := []) (by rfl), addk_nil]
  cases l with
  | nil => simp [rn, fin, finy, addk]
  | cons b l =>
    have hb : b ≠ 10 := by simpa using h
    obtain ⟨s', W', K', e⟩ := pl_goes [] [] b
    have e2 : ev .bk W b = .go s' W' ((W ++ [13]) ++ K') := by
      simp only [ev]
      rw [if_neg hb]
      exact pl_pre _ _ _ e
    rw [rn_go e2, rn_go (s := .no) (W := []) (by exact e), addk_addk]
/-- What stands behind blanks that wait. -/
theorem rn_behind (i : Nat) (W l : List Nat) (h1 : ∀ b, l[0]? = some b → isB b = false) :
    rn i .no W l = (if l = [] ∨ l[0]? = some 10 ∨ (l[0]? = some 13 ∧ l[1]? = some 10) then rn i .no [] l else addk (if l[0]? = some 13 then i + 1 else i) W (rn i .no [] l)) := by
  cases l with
  | nil => rw [if_pos (Or.inl rfl)]; rfl
  | cons b l =>
    have hb := h1 b rfl
    by_cases h10 : b = 10
    · subst h10
      rw [if_pos (Or.inr (Or.inl (show (10 :: l)[0]? = some 10 from rfl)))]
      rw [rn_go (s' := .no) (W' := []) (K := [10]) (by rfl), rn_lf]
    by_cases h13 : b = 13
    · subst h13
      by_cases hl : l[0]? = some 10
      · rw [if_pos (Or.inr (Or.inr (show (13 :: l)[0]? = some 13 ∧ (13 :: l)[1]? = some 10 from ⟨rfl, hl⟩)))]
        obtain ⟨m, rfl⟩ : ∃ m, l = 10 :: m := by
          cases l with
          | nil => simp at hl
          | cons y m => simp at hl; exact ⟨m, by rw [hl]⟩
        rw [rn_crlf, rn_go (s' := .bk) (W' := W) (K := []) (by rfl), addk_nil, rn_go (s' := .no) (W' := []) (K := [13, 10]) (by rfl)]
      · rw [if_neg (by simp; exact hl), if_pos (by rfl), rn_cr i l hl, rn_cr i l hl [], addk_addk]
        rfl
    · rw [if_neg (by simp; omega), if_neg (by simpa using h13)]
      by_cases h61 : b = 61
      · subst h61
        rw [rn_go (s' := .eq) (W' := []) (K := W) (by rfl), rn_go (s' := .eq) (W' := []) (K := []) (by rfl), addk_nil]
      · rw [rn_go (ev_plain hb h61 h13 h10 W), rn_plain hb h61 h13 h10, addk_addk]
/-- Blanks, one behind the other: with which byte each is known that is known while they come. -/
theorem rn_blank (i : Nat) (W : List Nat) (b : Nat) (l : List Nat) (hb : isB b = true) : rn i .no W (b :: l) = if 64 ≤ W.length then addk i (W.take 1) (rn (i + 1) .no (W.drop 1 ++ [b]) l) else rn (i + 1) .no (W ++ [b]) l := by
  by_cases h : 64 ≤ W.length
  · rw [if_pos h]
    refine rn_go ?_
    simp only [ev, pl]
    rw [if_pos hb, if_pos h]
    simp
  · rw [if_neg h, rn_go (s' := .no) (W' := W ++ [b]) (K := []), addk_nil]
    simp only [ev, pl]
    rw [if_pos hb, if_neg h]
end Go.Proofs.Ytapljkenmgdkmaa

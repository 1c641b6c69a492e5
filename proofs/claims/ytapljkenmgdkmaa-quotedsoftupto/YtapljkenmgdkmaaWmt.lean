/-
  The writer's mathematics: what is written, and that it is read back. No walk in it.
-/
import Derived.Test.YtapljkenmgdkmaaMth
namespace Go.Proofs.Ytapljkenmgdkmaa
/-- Do bytes begin with 13 and 10? -/
def crlf : List Nat → Bool
  | x :: y :: _ => x == 13 && y == 10
  | _ => false
theorem crlf_iff (l : List Nat) : crlf l = true ↔ ∃ r, l = 13 :: 10 :: r := by
  match l with
  | [] => simp [crlf]
  | [x] => simp [crlf]
  | x :: y :: r => simp [crlf]
/-- A digit's letter. -/
def hx (n : Nat) : Nat := if n < 10 then n + 48 else n + 55
theorem vl_hx {n : Nat} (h : n < 16) : vl (hx n) = n := by
  unfold hx vl
  split
  · rw [if_pos (by omega)]; omega
  · rw [if_neg (by omega), if_pos (by omega)]; omega
theorem hx_lt {n : Nat} (h : n < 16) : 48 ≤ hx n ∧ hx n ≤ 70 := by unfold hx; split <;> omega
/-- Is the byte b, with r behind it, written as it stands? -/
def stn (b : Nat) (r : List Nat) : Bool := if isB b = true then !(r.isEmpty || crlf r) else decide (33 ≤ b ∧ b ≤ 126 ∧ b ≠ 61)
def pc (b : Nat) (r : List Nat) : List Nat := if stn b r = true then [b] else [61, hx (b / 16), hx (b % 16)]
theorem pc_len (b : Nat) (r : List Nat) : 0 < (pc b r).length ∧ (pc b r).length ≤ 3 := by unfold pc; split <;> simp
/-- What is written of l, n bytes standing in the line, with width m. -/
def wrf (m : Nat) : Nat → Nat → List Nat → List Nat
  | 0, _, _ => []
  | _ + 1, _, [] => []
  | f + 1, n, b :: r => if crlf (b :: r) = true then 13 :: 10 :: wrf m f 0 (r.drop 1) else if m - 1 < n + (pc b r).length then [61, 13, 10] ++ (pc b r ++ wrf m f (pc b r).length r) else pc b r ++ wrf m f (n + (pc b r).length) r
def wri (m n : Nat) (l : List Nat) : List Nat := wrf m l.length n l
theorem wrf_eq (m : Nat) : ∀ (f g n : Nat) (l : List Nat), l.length ≤ f → l.length ≤ g → wrf m f n l = wrf m g n l := by
  intro f
  induction f with
  | zero =>
    intro g n l hf hg
    have e : l = [] := List.eq_nil_of_length_eq_zero (by omega)
    subst e
    cases g <;> rfl
  | succ f ih =>
    intro g n l hf hg
    cases g with
    | zero =>
      have e : l = [] := List.eq_nil_of_length_eq_zero (by omega)
      subst e
      rfl
    | succ g =>
      cases l with
      | nil => rfl
      | cons b r =>
        have hf' : r.length ≤ f := by simpa using hf
        have hg' : r.length ≤ g := by simpa using hg
        have hd : (r.drop 1).length ≤ r.length := by simp
        rw [wrf, wrf, ih g 0 (r.drop 1) (by omega) (by omega), ih g _ r hf' hg', ih g (n + (pc b r).length) r hf' hg']
theorem wri_cons (m n b : Nat) (r : List Nat) : wri m n (b :: r) = if crlf (b :: r) = true then 13 :: 10 :: wri m 0 (r.drop 1) else if m - 1 < n + (pc b r).length then [61, 13, 10] ++ (pc b r ++ wri m (pc b r).length r) else pc b r ++ wri m (n + (pc b r).length) r := by
  have hd : (r.drop 1).length ≤ r.length := by simp
  unfold wri
  rw [List.length_cons, wrf, wrf_eq m r.length (r.drop 1).length 0 (r.drop 1) hd (Nat.le_refl _)]
theorem wri_nil (m n : Nat) : wri m n [] = [] := rfl
theorem wri_crlf (m n : Nat) (r : List Nat) : wri m n (13 :: 10 :: r) = 13 :: 10 :: wri m 0 r := by
  rw [wri_cons, if_pos (by rfl)]
  rfl
theorem wri_cut {m n b : Nat} {r : List Nat} (h : crlf (b :: r) = false) (h2 : m - 1 < n + (pc b r).length) : wri m n (b :: r) = [61, 13, 10] ++ (pc b r ++ wri m (pc b r).length r) := by
  rw [wri_cons, if_neg (by rw [h]; simp), if_pos h2]
theorem wri_on {m n b : Nat} {r : List Nat} (h : crlf (b :: r) = false) (h2 : ¬ m - 1 < n + (pc b r).length) : wri m n (b :: r) = pc b r ++ wri m (n + (pc b r).length) r := by
  rw [wri_cons, if_neg (by rw [h]; simp), if_neg h2]
/-- Induction over what is written. -/
theorem wri_ind {P : List Nat → Prop} (h0 : P []) (h1 : ∀ r, P r → P (13 :: 10 :: r)) (h2 : ∀ b r, crlf (b :: r) = false → P r → P (b :: r)) : ∀ l, P l := by
  have key : ∀ n (l : List Nat), l.length ≤ n → P l := by
    intro n
    induction n with
    | zero =>
      intro l hl
      have e : l = [] := List.eq_nil_of_length_eq_zero (by omega)
      rw [e]
      exact h0
    | succ n ih =>
      intro l hl
      cases l with
      | nil => exact h0
      | cons b r =>
        by_cases hc : crlf (b :: r) = true
        · obtain ⟨q, e⟩ := (crlf_iff _).1 hc
          rw [e]
          rw [e] at hl
          simp at hl
          exact h1 q (ih q (by omega))
        · simp at hl
          exact h2 b r (by simpa using hc) (ih r hl)
  exact fun l => key l.length l (Nat.le_refl _)
theorem wri_len (m : Nat) : ∀ (l : List Nat) (n : Nat), (wri m n l).length ≤ 6 * l.length := by
  refine wri_ind ?_ ?_ ?_
  · intro n; simp [wri_nil]
  · intro r ih n
    rw [wri_crlf]
    have := ih 0
    simp; omega
  · intro b r hc ih n
    have hp := pc_len b r
    by_cases h : m - 1 < n + (pc b r).length
    · rw [wri_cut hc h]
      have := ih (pc b r).length
      simp; omega
    · rw [wri_on hc h]
      have := ih (n + (pc b r).length)
      simp; omega
theorem pc_oct {b : Nat} (hb : b < 256) (r : List Nat) : ∀ x ∈ pc b r, x < 256 := by
  intro x hx'
  unfold pc at hx'
  split at hx'
  · simp at hx'; omega
  · have h1 := hx_lt (n := b / 16) (by omega)
    have h2 := hx_lt (n := b % 16) (by omega)
    simp at hx'
    omega
theorem wri_oct (m : Nat) : ∀ (l : List Nat), (∀ x ∈ l, x < 256) → ∀ n, ∀ x ∈ wri m n l, x < 256 := by
  refine wri_ind ?_ ?_ ?_
  · intro _ n; simp [wri_nil]
  · intro r ih ho n x hx'
    rw [wri_crlf] at hx'
    simp at hx'
    rcases hx' with h | h | h
    · omega
    · omega
    · exact ih (fun y hy => ho y (by simp [hy])) 0 x h
  · intro b r hc ih ho n x hx'
    have hb := ho b (by simp)
    have ho2 : ∀ y ∈ r, y < 256 := fun y hy => ho y (by simp [hy])
    by_cases h : m - 1 < n + (pc b r).length
    · rw [wri_cut hc h] at hx'
      simp only [List.mem_append, List.mem_cons, List.not_mem_nil, or_false] at hx'
      rcases hx' with h | h | h
      · omega
      · exact pc_oct hb r x h
      · exact ih ho2 _ x h
    · rw [wri_on hc h] at hx'
      simp only [List.mem_append] at hx'
      rcases hx' with h | h
      · exact pc_oct hb r x h
      · exact ih ho2 _ x h
/-- Where bytes lead to, and what they tell on the way. -/
def run (s : St) (W : List Nat) : List Nat → Option (St × List Nat × List Nat)
  | [] => some (s, W, [])
  | b :: l => match ev s W b with
    | none => none
    | some (s', W', K) => (run s' W' l).map fun q => (q.1, q.2.1, K ++ q.2.2)
theorem run_go {s : St} {W : List Nat} {b : Nat} {l : List Nat} {s' : St} {W' K : List Nat} (e : ev s W b = .go s' W' K) : run s W (b :: l) = (run s' W' l).map fun q => (q.1, q.2.1, K ++ q.2.2) := by rw [run, e]
theorem run_append {s : St} {W : List Nat} {l m : List Nat} {s' : St} {W' K : List Nat} (h : run s W l = some (s', W', K)) : run s W (l ++ m) = (run s' W' m).map fun q => (q.1, q.2.1, K ++ q.2.2) := by
  induction l generalizing s W K with
  | nil => cases h; simp
  | cons b l ih =>
    cases e : ev s W b using Ev.el with
    | stop => rw [run, e] at h; cases h
    | go s1 W1 K1 =>
      rw [run_go e] at h
      cases h2 : run s1 W1 l with
      | none => rw [h2] at h; cases h
      | some q =>
        obtain ⟨s2, W2, K2⟩ := q
        rw [h2] at h
        simp at h
        obtain ⟨rfl, rfl, rfl⟩ := h
        rw [List.cons_append, run_go e, ih h2]
        cases run s2 W2 m <;> simp
theorem run_then {s : St} {W : List Nat} {l m : List Nat} {s' : St} {W' K : List Nat} {s2 : St} {W2 K2 : List Nat} (h : run s W l = some (s', W', K)) (h2 : run s' W' m = some (s2, W2, K2)) : run s W (l ++ m) = some (s2, W2, K ++ K2) := by
  rw [run_append h, h2]; rfl
/-- What was run through says so. -/
theorem rn_run {s : St} {W : List Nat} {l : List Nat} {s' : St} {W' K : List Nat} (h : run s W l = some (s', W', K)) (i : Nat) : (rn i s W l).out = K ++ fin s' W' ∧ (rn i s W l).why = finy s' ∧ (rn i s W l).at_ = i + l.length := by
  induction l generalizing s W K i with
  | nil => cases h; simp [rn]
  | cons b l ih =>
    cases e : ev s W b using Ev.el with
    | stop => rw [run, e] at h; cases h
    | go s1 W1 K1 =>
      rw [run_go e] at h
      cases h2 : run s1 W1 l with
      | none => rw [h2] at h; cases h
      | some q =>
        obtain ⟨s2, W2, K2⟩ := q
        rw [h2] at h
        simp at h
        obtain ⟨rfl, rfl, rfl⟩ := h
        obtain ⟨h3, h4, h5⟩ := ih h2 (i + 1)
        rw [rn_go e]
        simp only [addk]
        refine ⟨by rw [h3]; simp, h4, by rw [h5]; simp; omega⟩
theorem run_soft (W : List Nat) : run .no W [61, 13, 10] = some (.no, [], W) := by
  rw [run_go (s' := .eq) (W' := []) (K := W) (by rfl), run_go (s' := .sf) (W' := []) (K := []) (by rfl), run_go (s' := .no) (W' := []) (K := []) (by rfl)]
  simp [run]
theorem run_soft2 (W : List Nat) : run .no W [61, 10] = some (.no, [], W) := by
  rw [run_go (s' := .eq) (W' := []) (K := W) (by rfl), run_go (s' := .no) (W' := []) (K := []) (by rfl)]
  simp [run]
/-- What is written of a byte says that byte, and blanks that wait are said ahead of it. -/
theorem run_pc {b : Nat} (hb : b < 256) (r W : List Nat) : ∃ W' K, run .no W (pc b r) = some (.no, W', K) ∧ K ++ W' = W ++ [b] ∧ (W' ≠ [] → stn b r = true ∧ isB b = true) := by
  unfold pc
  split
  · rename_i hs
    by_cases hB : isB b = true
    · by_cases h64 : 64 ≤ W.length
      · refine ⟨W.drop 1 ++ [b], W.take 1, ?_, ?_, fun _ => ⟨hs, hB⟩⟩
        · rw [run_go (s' := .no) (W' := W.drop 1 ++ [b]) (K := W.take 1)]
          · simp [run]
          · simp only [ev, pl]
            rw [if_pos hB, if_pos h64]
            rfl
        · rw [← List.append_assoc, List.take_append_drop]
      · refine ⟨W ++ [b], [], ?_, rfl, fun _ => ⟨hs, hB⟩⟩
        rw [run_go (s' := .no) (W' := W ++ [b]) (K := [])]
        · simp [run]
        · simp only [ev, pl]
          rw [if_pos hB, if_neg h64]
    · unfold stn at hs
      rw [if_neg hB] at hs
      have hs := of_decide_eq_true hs
      refine ⟨[], W ++ [b], ?_, by simp, fun h => absurd rfl h⟩
      rw [run_go (ev_plain (by simpa using hB) hs.2.2 (by omega) (by omega) W)]
      simp [run]
  · refine ⟨[], W ++ [b], ?_, by simp, fun h => absurd rfl h⟩
    have h1 := vl_hx (n := b / 16) (by omega)
    have h2 := vl_hx (n := b % 16) (by omega)
    rw [run_go (s' := .eq) (W' := []) (K := W) (by rfl), run_go (s' := .dg (b / 16)) (W' := []) (K := []), run_go (s' := .no) (W' := []) (K := [b])]
    · simp [run]
    · simp only [ev]
      rw [h2, if_pos (by omega)]
      congr 1
      simp
      omega
    · simp only [ev]
      rw [h1, if_pos (by omega)]
/-- What is written is read back. -/
theorem run_wri (m : Nat) : ∀ (l : List Nat), (∀ x ∈ l, x < 256) → ∀ (n : Nat) (W : List Nat), (W ≠ [] → l ≠ [] ∧ crlf l = false) → run .no W (wri m n l) = some (.no, [], W ++ l) := by
  refine wri_ind ?_ ?_ ?_
  · intro _ n W hW
    have : W = [] := by
      cases W with
      | nil => rfl
      | cons x W => exact absurd rfl (hW (by simp)).1
    subst this
    simp [wri_nil, run]
  · intro r ih ho n W hW
    have : W = [] := by
      cases W with
      | nil => rfl
      | cons x W => have := (hW (by simp)).2; simp [crlf] at this
    subst this
    rw [wri_crlf, run_go (s' := .bk) (W' := []) (K := []) (by rfl), run_go (s' := .no) (W' := []) (K := [13, 10]) (by rfl), ih (fun x hx' => ho x (by simp [hx'])) 0 [] (fun h => absurd rfl h)]
    rfl
  · intro b r hc ih ho n W hW
    have hb := ho b (by simp)
    have ho2 : ∀ y ∈ r, y < 256 := fun y hy => ho y (by simp [hy])
    have hcond : ∀ W' : List Nat, (W' ≠ [] → stn b r = true ∧ isB b = true) → (W' ≠ [] → r ≠ [] ∧ crlf r = false) := by
      intro W' h1 h2
      obtain ⟨h3, h4⟩ := h1 h2
      unfold stn at h3
      rw [if_pos h4] at h3
      simp at h3
      refine ⟨?_, h3.2⟩
      intro e
      subst e
      simp at h3
    by_cases h : m - 1 < n + (pc b r).length
    · rw [wri_cut hc h]
      obtain ⟨W', K, h1, h2, h3⟩ := run_pc hb r []
      have h4 := ih ho2 (pc b r).length W' (hcond W' h3)
      rw [run_then (run_soft W) (run_then h1 h4)]
      have : K ++ (W' ++ r) = [b] ++ r := by rw [← List.append_assoc, h2]; rfl
      rw [this]
      rfl
    · rw [wri_on hc h]
      obtain ⟨W', K, h1, h2, h3⟩ := run_pc hb r W
      have h4 := ih ho2 (n + (pc b r).length) W' (hcond W' h3)
      rw [run_then h1 h4]
      have : K ++ (W' ++ r) = W ++ (b :: r) := by rw [← List.append_assoc, h2]; simp
      rw [this]
/-- No line is longer than most. -/
def lok (most n : Nat) : List Nat → Prop
  | [] => True
  | b :: l => let k := if b = 10 then 0 else n + 1; (k ≤ most + 1 ∧ (k ≤ most ∨ b = 13)) ∧ lok most k l
theorem lok_append {most : Nat} : ∀ {n : Nat} {l m : List Nat}, (∀ x ∈ l, x ≠ 10) → n + l.length ≤ most → lok most (n + l.length) m → lok most n (l ++ m)
  | n, [], m, _, _, h => by simpa using h
  | n, b :: l, m, h1, h2, h3 => by
    have hb : b ≠ 10 := h1 b (by simp)
    simp only [List.length_cons] at h2 h3
    rw [List.cons_append, lok]
    simp only [if_neg hb]
    refine ⟨⟨by omega, Or.inl (by omega)⟩, lok_append (fun x hx' => h1 x (by simp [hx'])) (by omega) ?_⟩
    rw [show n + 1 + l.length = n + (l.length + 1) by omega]
    exact h3
theorem pc_not10 {b : Nat} (hb : b < 256) (r : List Nat) : ∀ x ∈ pc b r, x ≠ 10 := by
  intro x hx'
  unfold pc at hx'
  split at hx'
  · rename_i hs
    simp at hx'
    subst hx'
    unfold stn at hs
    split at hs
    · rename_i h; have := (isB_iff x).1 h; omega
    · have := of_decide_eq_true hs; omega
  · have h1 := hx_lt (n := b / 16) (by omega)
    have h2 := hx_lt (n := b % 16) (by omega)
    simp at hx'
    omega
theorem lok_wri {m : Nat} (hm : 4 ≤ m) : ∀ (l : List Nat), (∀ x ∈ l, x < 256) → ∀ n, n ≤ m - 1 → lok m n (wri m n l) := by
  refine wri_ind ?_ ?_ ?_
  · intro _ n _; rw [wri_nil]; trivial
  · intro r ih ho n hn
    rw [wri_crlf, lok]
    simp only [show ¬ (13 : Nat) = 10 by decide, if_false]
    refine ⟨⟨by omega, Or.inl (by omega)⟩, ?_⟩
    rw [lok]
    simp only [if_true]
    exact ⟨⟨by omega, Or.inl (by omega)⟩, ih (fun x hx' => ho x (by simp [hx'])) 0 (by omega)⟩
  · intro b r hc ih ho n hn
    have hb := ho b (by simp)
    have ho2 : ∀ y ∈ r, y < 256 := fun y hy => ho y (by simp [hy])
    have hp := pc_len b r
    by_cases h : m - 1 < n + (pc b r).length
    · rw [wri_cut hc h]
      rw [List.cons_append, lok]
      simp only [show ¬ (61 : Nat) = 10 by decide, if_false]
      refine ⟨⟨by omega, Or.inl (by omega)⟩, ?_⟩
      rw [List.cons_append, lok]
      simp only [show ¬ (13 : Nat) = 10 by decide, if_false]
      refine ⟨⟨by omega, by simp⟩, ?_⟩
      rw [List.cons_append, lok]
      simp only [if_true]
      refine ⟨⟨by omega, Or.inl (by omega)⟩, ?_⟩
      rw [List.nil_append]
      refine lok_append (pc_not10 hb r) (by omega) ?_
      rw [Nat.zero_add]
      exact ih ho2 _ (by omega)
    · rw [wri_on hc h]
      exact lok_append (pc_not10 hb r) (by omega) (ih ho2 _ (by omega))
/-- The width that counts. -/
def wid (z : Int) : Nat := if z < 4 ∨ 76 < z then 76 else z.toNat
theorem wid_le (z : Int) : 4 ≤ wid z ∧ wid z ≤ 76 := by unfold wid; split <;> omega
end Go.Proofs.Ytapljkenmgdkmaa

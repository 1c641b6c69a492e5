/-
  The mathematics of the chapter, no walk in it: the states' words in their order, the longest end that is a state's word, and how going on by fails comes to it.
-/
import Derived.WalkKit
namespace Go.Proofs.YtbepbjbbhenphabDoor
set_option linter.unusedVariables false
/-- A word more, where it is not there yet. -/
def ins (ws : List (List Nat)) (u : List Nat) : List (List Nat) := if u ∈ ws then ws else ws ++ [u]
/-- The beginnings of u and p that are longer than u, laid out one by one. -/
def lw : List (List Nat) → List Nat → List Nat → List (List Nat)
  | ws, _, [] => ws
  | ws, u, b :: p => lw (ins ws (u ++ [b])) (u ++ [b]) p
/-- The states' words of some patterns. -/
def words (ps : List (List Nat)) : List (List Nat) := ps.foldl (fun ws p => lw ws [] p) [[]]
/-- What the states' words keep. -/
structure Tri (ws : List (List Nat)) : Prop where
  zero : ws[0]? = some []
  one : ∀ {i j : Nat} {u : List Nat}, ws[i]? = some u → ws[j]? = some u → i = j
  closed : ∀ {u : List Nat} {b : Nat}, u ++ [b] ∈ ws → u ∈ ws
theorem Tri.nil_mem {ws : List (List Nat)} (h : Tri ws) : [] ∈ ws := List.mem_of_getElem? h.zero
theorem Tri.pos {ws : List (List Nat)} (h : Tri ws) : 0 < ws.length := List.length_pos_of_mem h.nil_mem
theorem mem_at {α : Type} {ws : List α} {u : α} (h : u ∈ ws) : ∃ s : Nat, ws[s]? = some u := List.getElem?_of_mem h
theorem at_lt {α : Type} {ws : List α} {u : α} {s : Nat} (h : ws[s]? = some u) : s < ws.length := (List.getElem?_eq_some_iff.1 h).1
theorem at_app {α : Type} {ws : List α} {u v : α} {s : Nat} (h : ws[s]? = some u) : (ws ++ [v])[s]? = some u := by
  rw [List.getElem?_append_left (at_lt h)]; exact h
theorem at_new {α : Type} (ws : List α) (v : α) : (ws ++ [v])[ws.length]? = some v := by simp
theorem at_app_iff {α : Type} {ws : List α} {u v : α} {s : Nat} : (ws ++ [v])[s]? = some u ↔ ws[s]? = some u ∨ (s = ws.length ∧ u = v) := by
  constructor
  · intro h
    by_cases hs : s < ws.length
    · rw [List.getElem?_append_left hs] at h; exact Or.inl h
    · rw [List.getElem?_append_right (by omega)] at h
      have := at_lt h
      simp at this
      have e : s - ws.length = 0 := by omega
      rw [e] at h
      right; refine ⟨by omega, ?_⟩
      simpa using h.symm
  · rintro (h | ⟨rfl, rfl⟩)
    · exact at_app h
    · exact at_new _ _
theorem tri_one : Tri [[]] := by
  refine ⟨rfl, ?_, ?_⟩
  · intro i j u hi hj
    have h1 := at_lt hi; have h2 := at_lt hj
    simp at h1 h2; omega
  · intro u b h
    simp at h
theorem Tri.add {ws : List (List Nat)} (h : Tri ws) {u : List Nat} {b : Nat} (hu : u ∈ ws) (hn : u ++ [b] ∉ ws) : Tri (ws ++ [u ++ [b]]) := by
  refine ⟨at_app h.zero, ?_, ?_⟩
  · intro i j v hi hj
    rcases at_app_iff.1 hi with hi | ⟨rfl, rfl⟩
    · rcases at_app_iff.1 hj with hj | ⟨rfl, rfl⟩
      · exact h.one hi hj
      · exact absurd (List.mem_of_getElem? hi) hn
    · rcases at_app_iff.1 hj with hj | ⟨rfl, _⟩
      · exact absurd (List.mem_of_getElem? hj) hn
      · rfl
  · intro v c hv
    rcases List.mem_append.1 hv with hv | hv
    · exact List.mem_append_left _ (h.closed hv)
    · simp at hv
      obtain ⟨rfl, rfl⟩ := hv
      exact List.mem_append_left _ hu
theorem Tri.ins {ws : List (List Nat)} (h : Tri ws) {u : List Nat} {b : Nat} (hu : u ∈ ws) : Tri (ins ws (u ++ [b])) := by
  unfold YtbepbjbbhenphabDoor.ins
  split
  · exact h
  · rename_i hn; exact h.add hu hn
theorem ins_mem (ws : List (List Nat)) (u : List Nat) : u ∈ ins ws u := by
  unfold ins; split
  · assumption
  · simp
theorem ins_le (ws : List (List Nat)) (u : List Nat) : ∃ r, ins ws u = ws ++ r ∧ r.length ≤ 1 := by
  unfold ins; split
  · exact ⟨[], by simp, by simp⟩
  · exact ⟨[u], rfl, by simp⟩
theorem ins_mem_iff {ws : List (List Nat)} {u v : List Nat} : v ∈ ins ws u ↔ v ∈ ws ∨ v = u := by
  unfold ins; split
  · rename_i h
    constructor
    · exact Or.inl
    · rintro (h' | rfl)
      · exact h'
      · exact h
  · simp
theorem lw_le : ∀ (p : List Nat) (ws : List (List Nat)) (u : List Nat), ∃ r, lw ws u p = ws ++ r ∧ r.length ≤ p.length
  | [], ws, u => ⟨[], by simp [lw], by simp⟩
  | b :: p, ws, u => by
    obtain ⟨r, hr, hl⟩ := ins_le ws (u ++ [b])
    obtain ⟨r', hr', hl'⟩ := lw_le p (ins ws (u ++ [b])) (u ++ [b])
    refine ⟨r ++ r', ?_, ?_⟩
    · rw [lw, hr', hr, List.append_assoc]
    · simp; omega
theorem Tri.lw {p : List Nat} : ∀ {ws : List (List Nat)} {u : List Nat}, Tri ws → u ∈ ws → Tri (lw ws u p) ∧ u ++ p ∈ YtbepbjbbhenphabDoor.lw ws u p := by
  induction p with
  | nil => intro ws u h hu; simp [YtbepbjbbhenphabDoor.lw]; exact ⟨h, hu⟩
  | cons b p ih =>
    intro ws u h hu
    have := ih (h.ins (b := b) hu) (ins_mem ws (u ++ [b]))
    rw [YtbepbjbbhenphabDoor.lw]
    simpa using this
theorem lw_mem_iff {v : List Nat} : ∀ (p : List Nat) (ws : List (List Nat)) (u : List Nat), v ∈ lw ws u p ↔ v ∈ ws ∨ ∃ k, k < p.length ∧ v = u ++ p.take (k + 1)
  | [], ws, u => by simp [lw]
  | b :: p, ws, u => by
    rw [lw, lw_mem_iff p, ins_mem_iff]
    constructor
    · rintro ((h | rfl) | ⟨k, hk, rfl⟩)
      · exact Or.inl h
      · exact Or.inr ⟨0, by simp, by simp⟩
      · exact Or.inr ⟨k + 1, by simp; omega, by simp⟩
    · rintro (h | ⟨k, hk, rfl⟩)
      · exact Or.inl (Or.inl h)
      · cases k with
        | zero => left; right; simp
        | succ k => right; exact ⟨k, by simp at hk; omega, by simp⟩
theorem fold_tri : ∀ (ps ws : List (List Nat)), Tri ws → Tri (ps.foldl (fun ws p => lw ws [] p) ws)
  | [], _, h => h
  | p :: ps, ws, h => fold_tri ps _ (h.lw h.nil_mem).1
theorem words_tri (ps : List (List Nat)) : Tri (words ps) := fold_tri ps _ tri_one
theorem fold_mem_iff {v : List Nat} : ∀ (ps ws : List (List Nat)), v ∈ ps.foldl (fun ws p => lw ws [] p) ws ↔ v ∈ ws ∨ ∃ p ∈ ps, ∃ k, k < p.length ∧ v = p.take (k + 1)
  | [], ws => by simp
  | p :: ps, ws => by
    rw [List.foldl_cons, fold_mem_iff ps, lw_mem_iff]
    simp only [List.nil_append, List.mem_cons, exists_eq_or_imp, or_assoc]
theorem words_mem_iff {ps : List (List Nat)} {v : List Nat} : v ∈ words ps ↔ v = [] ∨ ∃ p ∈ ps, v <+: p := by
  unfold words
  rw [fold_mem_iff]
  constructor
  · rintro (h | ⟨p, hp, k, hk, rfl⟩)
    · left; simpa using h
    · exact Or.inr ⟨p, hp, List.take_prefix _ _⟩
  · rintro (rfl | ⟨p, hp, hv⟩)
    · left; simp
    · cases hl : v.length with
      | zero => left; simp [List.eq_nil_of_length_eq_zero hl]
      | succ k =>
        right
        refine ⟨p, hp, k, ?_, ?_⟩
        · have := hv.length_le; omega
        · rw [← hl]; exact List.prefix_iff_eq_take.1 hv
theorem fold_len (B : Nat) : ∀ (ps ws : List (List Nat)), (∀ p ∈ ps, p.length ≤ B) → (ps.foldl (fun ws p => lw ws [] p) ws).length ≤ ws.length + ps.length * B
  | [], ws, _ => by simp
  | p :: ps, ws, h => by
    have h1 := fold_len B ps (lw ws [] p) (fun q hq => h q (by simp [hq]))
    obtain ⟨r, hr, hl⟩ := lw_le p ws []
    have h2 := h p (by simp)
    rw [List.foldl_cons]
    rw [hr] at h1 ⊢
    simp only [List.length_append, List.length_cons] at *
    rw [Nat.add_mul]; omega
theorem words_len {B : Nat} {ps : List (List Nat)} (h : ∀ p ∈ ps, p.length ≤ B) : (words ps).length ≤ 1 + ps.length * B := by
  have := fold_len B ps [[]] h
  simpa [words] using this

/-- The longest end of a text that is a state's word. -/
def lsf (ws : List (List Nat)) : List Nat → List Nat
  | [] => []
  | x :: t => if x :: t ∈ ws then x :: t else lsf ws t
theorem lsf_of_mem {ws : List (List Nat)} {t : List Nat} (h : t ∈ ws) : lsf ws t = t := by
  cases t with
  | nil => rfl
  | cons x t => rw [lsf, if_pos h]
theorem lsf_mem {ws : List (List Nat)} (h : [] ∈ ws) : ∀ t, lsf ws t ∈ ws
  | [] => h
  | x :: t => by
    rw [lsf]; split
    · assumption
    · exact lsf_mem h t
theorem lsf_suffix (ws : List (List Nat)) : ∀ t, lsf ws t <:+ t
  | [] => List.suffix_refl _
  | x :: t => by
    rw [lsf]; split
    · exact List.suffix_refl _
    · exact (lsf_suffix ws t).trans (List.suffix_cons x t)
/-- It is the longest. -/
theorem lsf_max {ws : List (List Nat)} {v : List Nat} (hv : v ∈ ws) : ∀ {t}, v <:+ t → v <:+ lsf ws t
  | [], h => by simpa [lsf] using h
  | x :: t, h => by
    rw [lsf]; split
    · exact h
    · rename_i hn
      rcases List.suffix_cons_iff.1 h with rfl | h
      · exact absurd hv hn
      · exact lsf_max hv h
theorem lsf_len (ws : List (List Nat)) (t : List Nat) : (lsf ws t).length ≤ t.length := (lsf_suffix ws t).length_le
/-- Going on from the longest end comes to the longest end. -/
theorem lsf_snoc {ws : List (List Nat)} (h : Tri ws) (b : Nat) : ∀ t, lsf ws (lsf ws t ++ [b]) = lsf ws (t ++ [b])
  | [] => rfl
  | x :: t => by
    rw [lsf]; split
    · rfl
    · rename_i hn
      rw [lsf_snoc h b t, List.cons_append, lsf, if_neg]
      intro hm
      exact hn (h.closed (u := x :: t) hm)
/-- One round of it: where a byte can't be gone on with. -/
theorem lsf_fall {ws : List (List Nat)} (h : Tri ws) {u : List Nat} {b : Nat} (hn : u ++ [b] ∉ ws) (hu : u ≠ []) : lsf ws (lsf ws u.tail ++ [b]) = lsf ws (u ++ [b]) := by
  cases u with
  | nil => exact absurd rfl hu
  | cons x t => rw [lsf_snoc h, List.cons_append, lsf, if_neg (by simpa using hn)]; rfl
theorem lsf_zero {ws : List (List Nat)} {b : Nat} (hn : [] ++ [b] ∉ ws) : lsf ws ([] ++ [b]) = [] := by
  rw [List.nil_append] at *
  rw [lsf, if_neg hn]; rfl
/-- The fail of a word that is another and one byte more. -/
theorem lsf_fail {ws : List (List Nat)} (h : Tri ws) {v : List Nat} {b : Nat} (hv : v ≠ []) : lsf ws (lsf ws v.tail ++ [b]) = lsf ws (v ++ [b]).tail := by
  cases v with
  | nil => exact absurd rfl hv
  | cons x t => rw [lsf_snoc h]; rfl
/-- The patterns that are an end of a word: it, or ends of its fail. -/
theorem ends_iff {ws : List (List Nat)} {q u : List Nat} (hq : q ∈ ws) : q <:+ u ↔ q = u ∨ q <:+ lsf ws u.tail := by
  constructor
  · intro h
    cases u with
    | nil => left; simpa using h
    | cons x t =>
      rcases List.suffix_cons_iff.1 h with rfl | h
      · exact Or.inl rfl
      · exact Or.inr (lsf_max hq h)
  · rintro (rfl | h)
    · exact List.suffix_refl _
    · refine h.trans ((lsf_suffix ws _).trans ?_)
      cases u with
      | nil => exact List.suffix_refl _
      | cons x t => exact List.suffix_cons x t
theorem ends_text {ws : List (List Nat)} {q t : List Nat} (hq : q ∈ ws) : q <:+ lsf ws t ↔ q <:+ t :=
  ⟨fun h => h.trans (lsf_suffix ws t), fun h => lsf_max hq h⟩
theorem lsf_congr {ws ws' : List (List Nat)} (h : ∀ v, v ∈ ws ↔ v ∈ ws') : ∀ t, lsf ws t = lsf ws' t
  | [] => rfl
  | x :: t => by
    rw [lsf, lsf, lsf_congr h t]
    by_cases hm : x :: t ∈ ws
    · rw [if_pos hm, if_pos ((h _).1 hm)]
    · rw [if_neg hm, if_neg (fun h' => hm ((h _).2 h'))]
end Go.Proofs.YtbepbjbbhenphabDoor

/-
  Patterns in another order: as many states, as long a longest one, the same found. No walk in this text.
-/
import Derived.Test.YtbepbjbbhenphabDoorBegins
namespace Go.Proofs.YtbepbjbbhenphabDoor
open Go.RowKit
/-- The order turned round by k. -/
def turn (k : Nat) (ps : List (List Nat)) : List (List Nat) := ps.drop k ++ ps.take k
theorem turn_len (k : Nat) (ps : List (List Nat)) (hk : k ≤ ps.length) : (turn k ps).length = ps.length := by
  unfold turn
  rw [List.length_append, List.length_drop, List.length_take]; omega
theorem turn_mem {k : Nat} {ps : List (List Nat)} {p : List Nat} : p ∈ turn k ps ↔ p ∈ ps := by
  unfold turn
  rw [List.mem_append, or_comm, ← List.mem_append, List.take_append_drop]
theorem turn_perm (k : Nat) (ps : List (List Nat)) : (turn k ps).Perm ps := by
  unfold turn
  have := List.perm_append_comm (l₁ := ps.drop k) (l₂ := ps.take k)
  rwa [List.take_append_drop] at this
theorem chkFrom_good : ∀ (r ahead : List (List Nat)), (∀ p ∈ r, 0 < p.length ∧ p.length ≤ 32) → (ahead ++ r).Nodup → chkFrom ahead r = 0
  | [], _, _, _ => rfl
  | p :: r, ahead, h1, h2 => by
    have hp := h1 p (by simp)
    have hn : p ∉ ahead := by
      intro hm
      have := List.nodup_append.1 h2
      exact this.2.2 p hm p (by simp) rfl
    have ho : oneErr p ahead = 0 := by
      rw [oneErr_long (by omega) (by omega), if_neg hn]
    have hr := chkFrom_good r (ahead ++ [p]) (fun q hq => h1 q (by simp [hq])) (by simpa using h2)
    unfold chkFrom
    rw [ho]
    simpa using hr
theorem chk_of_good {ps : List (List Nat)} (h : Good ps) : chk ps = 0 := by
  unfold chk
  rw [if_neg (by have := h.pos; have := h.few; omega)]
  exact chkFrom_good ps [] h.len (by simpa using h.once)
theorem good_turn {k : Nat} {ps : List (List Nat)} (hk : k ≤ ps.length) (h : Good ps) : Good (turn k ps) :=
  ⟨by rw [turn_len k ps hk]; exact h.pos, by rw [turn_len k ps hk]; exact h.few, fun p hp => h.len p (turn_mem.1 hp), (turn_perm k ps).nodup_iff.2 h.once⟩
theorem good_back {k : Nat} {ps : List (List Nat)} (hk : k ≤ ps.length) (h : Good (turn k ps)) : Good ps :=
  ⟨by rw [← turn_len k ps hk]; exact h.pos, by rw [← turn_len k ps hk]; exact h.few, fun p hp => h.len p (turn_mem.2 hp), (turn_perm k ps).nodup_iff.1 h.once⟩
theorem chk_turn {k : Nat} {ps : List (List Nat)} (hk : k ≤ ps.length) : chk (turn k ps) = 0 ↔ chk ps = 0 :=
  ⟨fun h => chk_of_good (good_back hk (chk_good h)), fun h => chk_of_good (good_turn hk (chk_good h))⟩
theorem words_turn {k : Nat} {ps : List (List Nat)} {u : List Nat} : u ∈ words (turn k ps) ↔ u ∈ words ps := by
  rw [words_mem_iff, words_mem_iff]
  constructor
  · rintro (h | ⟨p, hp, h⟩)
    · exact Or.inl h
    · exact Or.inr ⟨p, turn_mem.1 hp, h⟩
  · rintro (h | ⟨p, hp, h⟩)
    · exact Or.inl h
    · exact Or.inr ⟨p, turn_mem.2 hp, h⟩
theorem tri_nodup {ws : List (List Nat)} (h : Tri ws) : ws.Nodup := by
  rw [List.nodup_iff_pairwise_ne, List.pairwise_iff_getElem]
  intro i j hi hj hlt e
  have := h.one (i := i) (j := j) (u := ws[i]) (List.getElem?_eq_getElem hi) (by rw [List.getElem?_eq_getElem hj, e])
  omega
theorem words_many {k : Nat} {ps : List (List Nat)} : (words (turn k ps)).length = (words ps).length :=
  ((List.perm_ext_iff_of_nodup (tri_nodup (words_tri _)) (tri_nodup (words_tri _))).2 fun _ => words_turn).length_eq
theorem lsf_turn (k : Nat) (ps : List (List Nat)) (t : List Nat) : lsf (words (turn k ps)) t = lsf (words ps) t := lsf_congr (fun _ => words_turn) t
theorem longest_turn (k : Nat) (ps : List (List Nat)) : longest (turn k ps) = longest ps := by
  have h1 : longest (turn k ps) ≤ longest ps := longest_le fun p hp => longest_ge (turn_mem.1 hp)
  have h2 : longest ps ≤ longest (turn k ps) := longest_le fun p hp => longest_ge (turn_mem.2 hp)
  omega
end Go.Proofs.YtbepbjbbhenphabDoor

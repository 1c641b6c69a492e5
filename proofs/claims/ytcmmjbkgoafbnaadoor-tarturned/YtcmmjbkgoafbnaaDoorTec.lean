/-
  Entries as cells; a list of entries that is put together. No walk.
-/
import Derived.Test.YtcmmjbkgoafbnaaDoorMn
namespace Go.Proofs.YtcmmjbkgoafbnaaDoor
open Go.RowKit
set_option linter.unusedVariables false
/-- Entries' cells. -/
structure Ecs (w : World) (m : List Value) (l : List Ent) : Prop where
  len : m.length = l.length * 4
  at_ : ∀ (i : Nat) (e : Ent), l[i]? = some e → ∃ (da : Option Addr) (L C : Nat), m[i * 4]? = some (.string (st e.1)) ∧ m[i * 4 + 1]? = some (.slice da L C) ∧ m[i * 4 + 2]? = some (.int .u8 (e.2.2.1 : Int)) ∧ m[i * 4 + 3]? = some (.int .u8 (e.2.2.2 : Int)) ∧ Lies w da e.2.1 ∧ e.2.1.length = L ∧ L ≤ C ∧ (da = none → L = 0 ∧ C = 0)
  one : ∀ u ∈ m, u.oneCell' = true
theorem em_cells {w : World} {b : Nat} : ∀ (l : List Ent) (o : Nat), (∀ (i : Nat) (e : Ent), l[i]? = some e → E1 w b (o + i * 4) e) → ∃ m, Ecs w m l ∧ ∀ (i : Nat) (u : Value), m[i]? = some u → w.cell? ⟨b, o + i, none⟩ = some u
  | [], o, h => ⟨[], ⟨rfl, fun i e he => by simp at he, fun u hu => by cases hu⟩, fun i u hu => by simp at hu⟩
  | e :: r, o, h => by
    obtain ⟨m, hm, hc⟩ := em_cells r (o + 4) fun i x hx => by
      have := h (i + 1) x (by simpa using hx)
      rwa [show o + (i + 1) * 4 = o + 4 + i * 4 by omega] at this
    obtain ⟨da, L, C, g1, g2, g3, g4, g5⟩ := (h 0 e rfl).ex
    rw [show o + 0 * 4 = o by omega] at g1 g2 g3 g4
    refine ⟨.string (st e.1) :: .slice da L C :: .int .u8 (e.2.2.1 : Int) :: .int .u8 (e.2.2.2 : Int) :: m, ⟨by simp [hm.len]; omega, fun i x hx => ?_, fun u hu => ?_⟩, fun i u hu => ?_⟩
    · cases i with
      | zero =>
        obtain rfl : e = x := by simpa using hx
        exact ⟨da, L, C, rfl, rfl, rfl, rfl, g5⟩
      | succ i =>
        obtain ⟨da2, L2, C2, k1, k2, k3, k4, k5⟩ := hm.at_ i x (by simpa using hx)
        refine ⟨da2, L2, C2, ?_, ?_, ?_, ?_, k5⟩
        · rw [show (i + 1) * 4 = i * 4 + 1 + 1 + 1 + 1 by omega]; simpa using k1
        · rw [show (i + 1) * 4 + 1 = (i * 4 + 1) + 1 + 1 + 1 + 1 by omega]; simpa using k2
        · rw [show (i + 1) * 4 + 2 = (i * 4 + 2) + 1 + 1 + 1 + 1 by omega]; simpa using k3
        · rw [show (i + 1) * 4 + 3 = (i * 4 + 3) + 1 + 1 + 1 + 1 by omega]; simpa using k4
    · simp at hu
      rcases hu with rfl | rfl | rfl | rfl | hu
      · rfl
      · rfl
      · rfl
      · rfl
      · exact hm.one u hu
    · match i, hu with
      | 0, hu => simp at hu; rw [← hu]; exact g1
      | 1, hu => simp at hu; rw [← hu]; exact g2
      | 2, hu => simp at hu; rw [← hu]; exact g3
      | 3, hu => simp at hu; rw [← hu]; exact g4
      | i + 4, hu => rw [show o + (i + 4) = o + 4 + i by omega]; exact hc i u (by simpa using hu)
theorem Em.cells {w : World} {a : Option Addr} {l : List Ent} (h : Em w a l) : ∃ m, Ecs w m l ∧ (m = [] ∨ ∃ b o, a = some ⟨b, o, none⟩ ∧ ∀ (i : Nat) (u : Value), m[i]? = some u → w.cell? ⟨b, o + i, none⟩ = some u) := by
  rcases h with rfl | ⟨b, o, ha, hc⟩
  · exact ⟨[], ⟨rfl, fun i e he => by simp at he, fun u hu => by cases hu⟩, Or.inl rfl⟩
  · obtain ⟨m, h1, h2⟩ := em_cells l o hc
    exact ⟨m, h1, Or.inr ⟨b, o, ha, h2⟩⟩
theorem Ecs.below {w u : World} {m : List Value} {l : List Ent} (h : Ecs w m l) (k : Below w.heap.size w u) : Ecs u m l := ⟨h.len, fun i e he => by
  obtain ⟨da, L, C, g1, g2, g3, g4, g5, g6⟩ := h.at_ i e he
  exact ⟨da, L, C, g1, g2, g3, g4, g5.below k, g6⟩, h.one⟩
/-- A last entry without data. -/
def bare (n : List Nat) : List Value := [.string (st n), .slice none 0 0, .int .u8 0, .int .u8 0]
theorem bare_one (n : List Nat) : ∀ u ∈ bare n, u.oneCell' = true := fun u hu => by
  simp [bare] at hu
  rcases hu with rfl | rfl | rfl <;> rfl
theorem Ecs.last {w : World} {m : List Value} {l : List Ent} (h : Ecs w m l) (n : List Nat) : Ecs w (m ++ bare n) (l ++ [(n, [], 0, 0)]) := by
  refine ⟨by rw [List.length_append, List.length_append, h.len]; simp [bare]; omega, fun i e he => ?_, fun u hu => ?_⟩
  · rcases Nat.lt_or_ge i l.length with hi | hi
    · rw [List.getElem?_append_left hi] at he
      obtain ⟨da, L, C, g1, g2, g3, g4, g5⟩ := h.at_ i e he
      have := h.len
      exact ⟨da, L, C, by rw [List.getElem?_append_left (by omega)]; exact g1, by rw [List.getElem?_append_left (by omega)]; exact g2, by rw [List.getElem?_append_left (by omega)]; exact g3, by rw [List.getElem?_append_left (by omega)]; exact g4, g5⟩
    · have hi2 : i < (l ++ [(n, [], 0, 0)]).length := (List.getElem?_eq_some_iff.1 he).1
      rw [List.length_append, List.length_singleton] at hi2
      obtain rfl : i = l.length := by omega
      rw [List.getElem?_append_right (Nat.le_refl _), Nat.sub_self] at he
      have he2 : (n, [], 0, 0) = e := by simpa using he
      rw [← he2]
      have := h.len
      refine ⟨none, 0, 0, ?_, ?_, ?_, ?_, Or.inl rfl, rfl, Nat.le_refl _, fun _ => ⟨rfl, rfl⟩⟩
      · rw [List.getElem?_append_right (by omega), show l.length * 4 - m.length = 0 by omega]; rfl
      · rw [List.getElem?_append_right (by omega), show l.length * 4 + 1 - m.length = 1 by omega]; rfl
      · rw [List.getElem?_append_right (by omega), show l.length * 4 + 2 - m.length = 2 by omega]; rfl
      · rw [List.getElem?_append_right (by omega), show l.length * 4 + 3 - m.length = 3 by omega]; rfl
  · rcases List.mem_append.1 hu with q | q
    · exact h.one u q
    · exact bare_one n u q
/-- An own list of entries. -/
theorem own_em {u : World} {lo n g c : Nat} {m : List Value} {l : List Ent} (h : Ow u lo 54 4 (.slice (some ⟨g, 0, none⟩) n c) n m) (hn : n ≠ 0) (k : Ecs u m l) : Em u (some ⟨g, 0, none⟩) l := by
  obtain ⟨a, c2, hv, _, h0 | ⟨g2, hg, _, _, hc, _⟩, _⟩ := h.shape
  · exact absurd h0 hn
  · cases hv
    cases hg
    refine Or.inr ⟨g, 0, rfl, fun i e he => ?_⟩
    obtain ⟨da, L, C, g1, g2, g3, g4, g5⟩ := k.at_ i e he
    rw [Nat.zero_add]
    exact ⟨da, L, C, hc _ _ g1, hc _ _ g2, hc _ _ g3, hc _ _ g4, g5⟩
theorem ginfo54 : (Tryd.prog.info? 54).map (fun i => (i.zero, i.size, i.bytes)) = some (some (.agg #[.string ⟨#[]⟩, .slice none 0 0, .int .u8 0, .int .u8 0]), 4, 48) := by kernel_rfl
theorem Ow.made54 {w : World} {lo : Nat} (h : lo ≤ w.heap.size) : Ow (w.alloc (.cells #[] 54)) lo 54 4 (.slice (some ⟨w.heap.size, 0, none⟩) 0 0) 0 [] :=
  ⟨World.ownsRow_made (base := lo) (e := 54) (size := 4) w #[] 0 h (by decide) rfl, by show _ ≤ (w.heap.push _).size; simp; omega⟩
/-- While the list is put together. -/
structure Tp (lo K0 : Nat) (ce : Array Value) (w u : World) : Prop where
  bel : Below K0 w u
  cel : Cells u lo ce 54
  lt : lo < K0
  le : K0 ≤ u.heap.size
theorem Tp.step {lo K0 : Nat} {ce : Array Value} {w u x : World} (h : Tp lo K0 ce w u) (k : Below K0 u x) : Tp lo K0 ce w x := ⟨h.bel.trans k, h.cel.below k h.lt, h.lt, Nat.le_trans h.le k.size⟩
theorem Tp.alloc {lo K0 : Nat} {ce : Array Value} {w u : World} (h : Tp lo K0 ce w u) (o : Obj) : Tp lo K0 ce w (u.alloc o) := h.step ((Below.refl _ u).alloc h.le _)
theorem Tp.four {lo K0 : Nat} {v0 v1 v2 v3 : Value} {w u : World} (h : Tp lo K0 #[v0, v1, v2, v3] w u) : u.cell? ⟨lo, 0, none⟩ = some v0 ∧ u.cell? ⟨lo, 1, none⟩ = some v1 ∧ u.cell? ⟨lo, 2, none⟩ = some v2 ∧ u.cell? ⟨lo, 3, none⟩ = some v3 := ⟨(h.cel.cell 0).trans rfl, (h.cel.cell 1).trans rfl, (h.cel.cell 2).trans rfl, (h.cel.cell 3).trans rfl⟩
/-- What Write answers of a list that was put together. -/
structure Wtn (l : List Ent) (u : World) (e : Ending) (u' : World) : Prop where
  ex : ∃ g n c, e = .returned (.slice (some ⟨g, 0, none⟩) n c) ∧ (wri l).length = n ∧ n ≤ 300000000 ∧ Ow u' u.heap.size 5 1 (.slice (some ⟨g, 0, none⟩) n c) n (ob (wri l)) ∧ Below u.heap.size u u'
theorem write_n (u : World) (a : Option Addr) (l : List Ent) (N C : Nat) (hl : l.length = N) (hN : N ≤ 1000) (hE : Em u a l) (hok : ∀ e ∈ l, Eok e) : Calls Tryd.prog 19 #[.slice a N C] u fun e w' => Wtn l u e w' := by
  refine (write_c a l N C u hl hN hE hok).mono fun e w' q => ?_
  obtain ⟨v, rfl, q1, q2⟩ := q
  obtain ⟨a', c, hv, _, hq, _⟩ := q1.shape
  subst hv
  have hw : (wri l).length = (wal l).length + 1024 := by unfold wri; rw [List.length_append, List.length_replicate]
  rcases hq with h0 | ⟨g, hg, _⟩
  · omega
  · subst hg
    exact ⟨g, _, c, rfl, rfl, wri_len hok (by omega), q1, q2⟩
theorem bare_at {u : World} {H : Nat} {e : List Nat} {S : ByteArray} (hS : S = st e) (k : Cells u H #[.string S, .slice none 0 0, .int .u8 0, .int .u8 0] 54) : ∀ (i : Nat) (v : Value), (bare e)[i]? = some v → u.cell? ⟨H, 0 + i, none⟩ = some v := fun i v hv => by
  rw [Nat.zero_add, k.cell, hS]
  match i, hv with
  | 0, hv => exact hv
  | 1, hv => exact hv
  | 2, hv => exact hv
  | 3, hv => exact hv
  | i + 4, hv => simp [bare] at hv
theorem tob_set (l : List Nat) (i z : Nat) : (ob l).set i (.int .u8 (z : Int)) = ob (l.set i z) := by
  unfold ob
  rw [List.map_set]
theorem tw_u8 (z : Int) : IntKind.u8.wrap z = z % 256 := by
  simp [IntKind.wrap, IntKind.signed, IntKind.bits]
/-- The block of the last entry stays while the others are laid down. -/
theorem Cells.kept {lo sz n H : Nat} {e t : TypeId} {w w' : World} {v v' : Value} {xs : List Value} {cs : Array Value} (h : Cells w H cs t) (k : Got lo e sz w w' v v' n xs) (hv : v.ownBlock ≠ some H) : Cells w' H cs t := by
  have hlt := h.lt
  unfold Cells at *
  rw [k.kb H hlt (fun q => hv q.symm)]
  exact h
end Go.Proofs.YtcmmjbkgoafbnaaDoor

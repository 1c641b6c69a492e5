/-
  The document's table in memory, and how a code is laid into it. No walk in this text.
-/
import Derived.Test.YtlmajiejapaegaaRKraft
import Derived.Test.YtlmajiejapaegaaRefA
import Derived.OwnWalk
import Derived.WalkMore
namespace Go.Proofs.Ytlmajiejapaegaa
open Go.RowKit
set_option linter.unusedVariables false
theorem info42 : (Try.prog.info? 42).map (fun i => (i.zero, i.size, i.bytes)) = some (some (.slice none 0 0), 1, 24) := by kernel_rfl
theorem made_bools (n : Nat) (hn : n ≤ 1048576) (w : World) : (Instr.makeSlice 42 (.int .i64 (n : Int)) (.int .i64 (n : Int))).run Try.prog w = .ok (.slice (some ⟨w.heap.size, 0, none⟩) n n) (w.alloc (.cells (vb (List.replicate n false)).toArray 4)) := by
  obtain ⟨i, hi, hz, hs, hb⟩ := info_parts info4
  have := run_make (P := Try.prog) w 42 4 i _ Try.underlying42 hi hz .i64 .i64 n n (by omega) (by omega) (by rw [hb]; omega) (by omega)
  rw [this, hs]
  have e : madeCells (Value.bool false).cells ((n : Int).toNat * 1) = (vb (List.replicate n false)).toArray := by
    apply Array.toList_inj.1
    show (madeCells #[Value.bool false] _).toList = _
    rw [toList_madeCells_one]
    simp [vb]
  rw [e]
  simp
theorem made_rows (n : Nat) (hn : n ≤ 1048576) (w : World) : (Instr.makeSlice 71 (.int .i64 (n : Int)) (.int .i64 (n : Int))).run Try.prog w = .ok (.slice (some ⟨w.heap.size, 0, none⟩) n n) (w.alloc (.cells (List.replicate n (Value.slice none 0 0)).toArray 42)) := by
  obtain ⟨i, hi, hz, hs, hb⟩ := info_parts info42
  have := run_make (P := Try.prog) w 71 42 i _ Try.underlying71 hi hz .i64 .i64 n n (by omega) (by omega) (by rw [hb]; omega) (by omega)
  rw [this, hs]
  have e : madeCells (Value.slice none 0 0).cells ((n : Int).toNat * 1) = (List.replicate n (Value.slice none 0 0)).toArray := by
    apply Array.toList_inj.1
    show (madeCells #[Value.slice none 0 0] _).toList = _
    rw [toList_madeCells_one]
    simp
  rw [e]
  simp
/-- A list of bits in a block of its own. -/
def Bb (w : World) (b : Nat) (l : List Bool) : Prop := Cells w b (vb l).toArray 4
/-- The table while it is laid: those of fewer than n bits, and of n bits ahead of symbol i. -/
structure Tl (w0 w : World) (T g : Nat) (ls : List Nat) (n i : Nat) : Prop where
  t : Cells w T #[.slice (some ⟨g, 0, none⟩) ls.length ls.length] 73
  row : ∃ rows, Cells w g rows 42 ∧ rows.size = ls.length ∧ ∀ (j m : Nat), ls[j]? = some m → (0 < m ∧ (m < n ∨ (m = n ∧ j < i)) → ∃ b, rows[j]? = some (.slice (some ⟨b, 0, none⟩) m m) ∧ Bb w b (bitsB m (code ls j m)) ∧ w0.heap.size ≤ b) ∧ (¬ (0 < m ∧ (m < n ∨ (m = n ∧ j < i))) → rows[j]? = some (.slice none 0 0))
  bel : Below w0.heap.size w0 w
  tb : w0.heap.size ≤ T
  gb : w0.heap.size ≤ g
theorem Tl.below {w0 w u : World} {T g : Nat} {ls : List Nat} {n i : Nat} (h : Tl w0 w T g ls n i) (k : Below w.heap.size w u) : Tl w0 u T g ls n i := by
  obtain ⟨rows, h1, h2, h3⟩ := h.row
  refine ⟨h.t.below k h.t.lt, ⟨rows, h1.below k h1.lt, h2, fun j m hj => ⟨fun hc => ?_, (h3 j m hj).2⟩⟩, h.bel.trans (k.mono h.bel.size), h.tb, h.gb⟩
  obtain ⟨b, e1, e2, e3⟩ := (h3 j m hj).1 hc
  exact ⟨b, e1, Cells.below e2 k (Cells.lt e2), e3⟩
/-- A symbol of another length: nothing is laid. -/
theorem Tl.skip {w0 w : World} {T g : Nat} {ls : List Nat} {n i m : Nat} (h : Tl w0 w T g ls n i) (hi : ls[i]? = some m) (hm : m ≠ n) : Tl w0 w T g ls n (i + 1) := by
  obtain ⟨rows, h1, h2, h3⟩ := h.row
  refine ⟨h.t, ⟨rows, h1, h2, fun j k hj => ⟨fun hc => (h3 j k hj).1 ⟨hc.1, ?_⟩, fun hc => (h3 j k hj).2 fun hc2 => hc ⟨hc2.1, ?_⟩⟩⟩, h.bel, h.tb, h.gb⟩
  · rcases hc.2 with hlt | ⟨e, hlt⟩
    · exact Or.inl hlt
    · right
      refine ⟨e, ?_⟩
      rcases Nat.lt_or_ge j i with h4 | h4
      · exact h4
      · have e2 : j = i := by omega
        subst e2
        rw [hi] at hj; cases hj
        exact absurd e hm
  · rcases hc2.2 with hlt | ⟨e, hlt⟩
    · exact Or.inl hlt
    · exact Or.inr ⟨e, by omega⟩
/-- A symbol's code is laid. -/
theorem Tl.put {w0 w : World} {T g b : Nat} {ls : List Nat} {n i : Nat} (h : Tl w0 w T g ls n i) (hi : ls[i]? = some n) (hn : 0 < n) (hbw : w0.heap.size ≤ b) (hb : Bb w b (bitsB n (code ls i n))) : Tl w0 (w.setCell ⟨g, i, none⟩ (.slice (some ⟨b, 0, none⟩) n n)) T g ls n (i + 1) := by
  obtain ⟨rows, h1, h2, h3⟩ := h.row
  have hTg : T ≠ g := fun e => by
    have := h.t; unfold Cells at this h1; rw [e, h1] at this; cases this
  have hil := (List.getElem?_eq_some_iff.1 hi).1
  have far : ∀ {c : Nat} {l : List Bool}, Bb w c l → Bb (w.setCell ⟨g, i, none⟩ (.slice (some ⟨b, 0, none⟩) n n)) c l := by
    intro c l hc
    have hne : c ≠ g := fun e => by unfold Bb Cells at hc; unfold Cells at h1; rw [e, h1] at hc; cases hc
    unfold Bb Cells at *
    rw [Below.heap_setCell _ _ _ _ hne]; exact hc
  refine ⟨?_, ⟨_, h1.set i _, by rw [Array.size_setIfInBounds]; exact h2, fun j m hj => ⟨fun hc => ?_, fun hc => ?_⟩⟩, h.bel.setCell (p := ⟨g, i, none⟩) h.gb _, h.tb, h.gb⟩
  · have ht := h.t
    unfold Cells at *
    rw [Below.heap_setCell _ _ _ _ hTg]; exact ht
  · rw [Array.getElem?_setIfInBounds]
    by_cases e : i = j
    · subst e
      rw [hi] at hj; cases hj
      rw [if_pos rfl, if_pos (by omega)]
      exact ⟨b, rfl, far hb, hbw⟩
    · rw [if_neg e]
      obtain ⟨c, e1, e2, e5⟩ := (h3 j m hj).1 ⟨hc.1, by
        rcases hc.2 with hlt | ⟨e4, hlt⟩
        · exact Or.inl hlt
        · exact Or.inr ⟨e4, by omega⟩⟩
      exact ⟨c, e1, far e2, e5⟩
  · rw [Array.getElem?_setIfInBounds]
    by_cases e : i = j
    · subst e
      rw [hi] at hj; cases hj
      exact absurd ⟨hn, Or.inr ⟨rfl, by omega⟩⟩ hc
    · rw [if_neg e]
      refine (h3 j m hj).2 fun hc2 => hc ⟨hc2.1, ?_⟩
      rcases hc2.2 with hlt | ⟨e4, hlt⟩
      · exact Or.inl hlt
      · exact Or.inr ⟨e4, by omega⟩
/-- The next length. -/
theorem Tl.next {w0 w : World} {T g : Nat} {ls : List Nat} {n i : Nat} (h : Tl w0 w T g ls n i) (hi : i = ls.length) : Tl w0 w T g ls (n + 1) 0 := by
  obtain ⟨rows, h1, h2, h3⟩ := h.row
  refine ⟨h.t, ⟨rows, h1, h2, fun j m hj => ?_⟩, h.bel, h.tb, h.gb⟩
  have hjl := (List.getElem?_eq_some_iff.1 hj).1
  refine ⟨fun hc => (h3 j m hj).1 ⟨hc.1, by omega⟩, fun hc => (h3 j m hj).2 fun hc2 => hc ⟨hc2.1, by omega⟩⟩
/-- The document's table of some lengths. -/
structure Tb (w : World) (T : Nat) (ls : List Nat) : Prop where
  cells : ∃ g rows, w.cell? ⟨T, 0, none⟩ = some (.slice (some ⟨g, 0, none⟩) ls.length ls.length) ∧ Cells w g rows 42 ∧ ∀ (j m : Nat), ls[j]? = some m → (0 < m → ∃ b, rows[j]? = some (.slice (some ⟨b, 0, none⟩) m m) ∧ Bb w b (bitsB m (code ls j m))) ∧ (m = 0 → rows[j]? = some (.slice none 0 0))
theorem Tl.tb_ {w0 w : World} {T g : Nat} {ls : List Nat} {i : Nat} (h : Tl w0 w T g ls 16 i) (h15 : ∀ l ∈ ls, l ≤ 15) : Tb w T ls ∧ ∀ u, (∀ k, w0.heap.size ≤ k → k < w.heap.size → u.heap[k]? = w.heap[k]?) → Tb u T ls := by
  obtain ⟨rows, h1, h2, h3⟩ := h.row
  have key : ∀ u, (∀ k, w0.heap.size ≤ k → k < w.heap.size → u.heap[k]? = w.heap[k]?) → Tb u T ls := by
    intro u hk
    have ht : Cells u T #[.slice (some ⟨g, 0, none⟩) ls.length ls.length] 73 := (hk T h.tb h.t.lt).trans h.t
    have hr : Cells u g rows 42 := (hk g h.gb h1.lt).trans h1
    refine ⟨g, rows, Cells.cell ht 0, hr, fun j m hj => ⟨fun hm => ?_, fun hm => (h3 j m hj).2 fun hc => by omega⟩⟩
    have := h15 m (List.mem_of_getElem? hj)
    obtain ⟨b, e1, e2, e3⟩ := (h3 j m hj).1 ⟨hm, Or.inl (by omega)⟩
    exact ⟨b, e1, (hk b e3 (Cells.lt e2)).trans e2⟩
  exact ⟨key w fun _ _ _ => rfl, key⟩
theorem Tb.below {w u : World} {T : Nat} {ls : List Nat} (h : Tb w T ls) (k : Below w.heap.size w u) : Tb u T ls := by
  obtain ⟨g, rows, c0, h1, h3⟩ := h.cells
  refine ⟨g, rows, (k.cell (p := ⟨T, 0, none⟩) (World.block_lt_of_cell? w ⟨T, 0, none⟩ c0)).trans c0, h1.below k h1.lt, fun j m hj => ⟨fun hm => ?_, (h3 j m hj).2⟩⟩
  obtain ⟨b, e1, e2⟩ := (h3 j m hj).1 hm
  exact ⟨b, e1, Cells.below e2 k (Cells.lt e2)⟩
theorem bits_last : ∀ (n j x : Nat), j < n → (bitsB n x)[j]? = some (x / 2 ^ (n - 1 - j) % 2 == 1)
  | 0, j, x, h => by omega
  | n + 1, 0, x, _ => by simp [bitsB]
  | n + 1, j + 1, x, h => by
    rw [bitsB, List.getElem?_cons_succ, bits_last n j x (by omega), show n + 1 - 1 - (j + 1) = n - 1 - j by omega]
theorem bits_row {n j c : Nat} (hj : 0 < j) (hjn : j ≤ n) : (List.replicate j false ++ (bitsB n c).drop j).set (j - 1) (c / 2 ^ (n - j) % 2 == 1) = List.replicate (j - 1) false ++ (bitsB n c).drop (j - 1) := by
  have hb := bits_last n (j - 1) c (by omega)
  rw [show n - 1 - (j - 1) = n - j by omega] at hb
  have hl : j - 1 < (bitsB n c).length := by rw [bitsB_len]; omega
  have hd : (bitsB n c).drop (j - 1) = (c / 2 ^ (n - j) % 2 == 1) :: (bitsB n c).drop j := by
    rw [List.drop_eq_getElem_cons hl, show j - 1 + 1 = j by omega]
    congr 1
    rw [List.getElem?_eq_getElem hl] at hb
    exact Option.some.inj hb
  rw [hd]
  obtain ⟨q, rfl⟩ : ∃ q, j = q + 1 := ⟨j - 1, by omega⟩
  rw [List.replicate_succ', List.append_assoc, show q + 1 - 1 = q by omega, List.set_append_right _ _ (by simp), List.length_replicate, Nat.sub_self]
  rfl
theorem Bb.set {w : World} {b : Nat} {l : List Bool} (h : Bb w b l) (i : Nat) (x : Bool) : Bb (w.setCell ⟨b, i, none⟩ (.bool x)) b (l.set i x) := by
  have := Cells.set h i (.bool x)
  unfold Bb
  have e : (vb (l.set i x)).toArray = (vb l).toArray.setIfInBounds i (.bool x) := by
    apply Array.toList_inj.1
    simp [vb, List.map_set]
  rw [e]; exact this
end Go.Proofs.Ytlmajiejapaegaa

/-
  Patterns in another order, laid out by two copies and an append: the rows, and which are found. No walk in this text but that of Copy of nothing.
-/
import Derived.Test.YtbepbjbbhenphabDoorTurned
import Derived.Test.YtbepbjbbhenphabDoorCopyB
namespace Go.Proofs.YtbepbjbbhenphabDoor
open Go.RowKit
set_option linter.unusedVariables false
theorem turn_at {k n : Nat} {ps : List (List Nat)} (hk : k < ps.length) (hn : n < ps.length) : (turn k ps)[n]? = ps[(n + k) % ps.length]? := by
  unfold turn
  by_cases h : n < ps.length - k
  · rw [List.getElem?_append_left (by rw [List.length_drop]; exact h), List.getElem?_drop, Nat.mod_eq_of_lt (by omega), Nat.add_comm]
  · rw [List.getElem?_append_right (by rw [List.length_drop]; omega), List.length_drop, List.getElem?_take, if_pos (by omega)]
    have e : (n + k) % ps.length = n + k - ps.length := by
      rw [Nat.mod_eq_sub_mod (by omega), Nat.mod_eq_of_lt (by omega)]
    rw [e]
    congr 1
    omega
theorem endsB_turn {k n : Nat} {ps : List (List Nat)} (T : List Nat) (hk : k < ps.length) (hn : n < ps.length) : endsB (turn k ps) T n = endsB ps T ((n + k) % ps.length) := by
  unfold endsB
  rw [turn_at hk hn]
theorem endsOf_mem {ps : List (List Nat)} {T : List Nat} {x : Nat} : x ∈ endsOf ps T ↔ x < ps.length ∧ endsB ps T x = true := by
  unfold endsOf
  rw [List.mem_filter, List.mem_range]
theorem ends_turn {k y : Nat} {ps : List (List Nat)} {T : List Nat} (hk : k < ps.length) (hy : y ∈ endsOf (turn k ps) T) : (y + k) % ps.length ∈ endsOf ps T := by
  obtain ⟨h1, h2⟩ := endsOf_mem.1 hy
  rw [turn_len k ps (by omega)] at h1
  rw [endsB_turn T hk h1] at h2
  exact endsOf_mem.2 ⟨Nat.mod_lt _ (by omega), h2⟩
theorem ends_count (ps : List (List Nat)) (T : List Nat) : ∀ n, n ≤ ps.length → ((List.range n).filter (endsB ps T)).length = (ps.take n).countP (fun p => p.isSuffixOf T)
  | 0, _ => by simp
  | n + 1, h => by
    have ih := ends_count ps T n (by omega)
    obtain ⟨p, hp⟩ : ∃ p, ps[n]? = some p := ⟨_, List.getElem?_eq_getElem (by omega)⟩
    have hb : endsB ps T n = p.isSuffixOf T := by unfold endsB; rw [hp]
    rw [List.range_succ, List.filter_append, List.length_append, ih, take_snoc hp, List.countP_append]
    congr 1
    rw [List.countP_cons, List.countP_nil]
    cases hq : p.isSuffixOf T with
    | true => simp [hb, hq]
    | false => simp [hb, hq]
theorem ends_many {k : Nat} {ps : List (List Nat)} (T : List Nat) (hk : k ≤ ps.length) : (endsOf (turn k ps) T).length = (endsOf ps T).length := by
  have h1 := ends_count ps T ps.length (Nat.le_refl _)
  have h2 := ends_count (turn k ps) T (turn k ps).length (Nat.le_refl _)
  rw [List.take_length] at h1 h2
  unfold endsOf
  rw [h1, h2]
  exact (turn_perm k ps).countP_eq _
theorem endsOf_64 {ps : List (List Nat)} (hg : Good ps) (u : List Nat) : (endsOf ps u).length ≤ 64 ∧ ∀ x ∈ endsOf ps u, x < 64 := by
  have h1 := hg.few
  refine ⟨?_, fun x hx => ?_⟩
  · unfold endsOf
    have := List.length_filter_le (endsB ps u) (List.range ps.length)
    rw [List.length_range] at this; omega
  · have := (endsOf_mem.1 hx).1; omega
theorem words_32 {ps : List (List Nat)} (hg : Good ps) {u : List Nat} (h : u ∈ words ps) : u.length ≤ 32 := by
  rcases words_mem_iff.1 h with rfl | ⟨p, hp, hpre⟩
  · simp
  · exact Nat.le_trans hpre.length_le (hg.len p hp).2
theorem Rows2.drop {w : World} {b o : Nat} {ll : List (List Nat)} (h : Rows2 w (some ⟨b, o, none⟩) ll) (k : Nat) : Rows2 w (some ⟨b, o + k, none⟩) (ll.drop k) := by
  rcases h with h | ⟨b', o', e, hc⟩
  · left; rw [h]; simp
  · cases e
    refine Or.inr ⟨b, o + k, rfl, fun i l hl => ?_⟩
    rw [List.getElem?_drop] at hl
    have := hc (k + i) l hl
    rw [show o + k + i = o + (k + i) by omega]
    exact this
/-- A row's cells, as values. -/
theorem Cop2.row {w w' : World} {v : Value} {ll : List (List Nat)} (h : Cop2 w w' v ll) (hp : 0 < ll.length) : ∃ g C vs, v = .slice (some ⟨g, 0, none⟩) ll.length C ∧ w.heap.size ≤ g ∧ g < w'.heap.size ∧ ll.length ≤ C ∧ vs.length = ll.length ∧ w'.ownsRow w.heap.size 23 1 v ll.length vs ∧ (∀ j u, vs[j]? = some u → w'.cell? ⟨g, j, none⟩ = some u) ∧ (∀ u ∈ vs, u.oneCell' = true) ∧
    ∀ (i : Nat) (l : List Nat), ll[i]? = some l → ∃ (ai : Option Addr) (ci : Nat), vs[i]? = some (.slice ai l.length ci) ∧ Lies w' ai l ∧ l.length ≤ ci ∧ l.length < 140737488355328 ∧ (ai = none → l.length = 0 ∧ ci = 0) ∧ (l ≠ [] → ∀ b o s, ai = some ⟨b, o, s⟩ → b ≠ g ∧ w.heap.size ≤ b) := by
  obtain ⟨vs, ho, hv⟩ := h.vals
  rcases ho.2 with ⟨_, h0⟩ | ⟨g, c, cur, hv0, hg, hh, hc, hm, hs, ht⟩
  · omega
  · have hvl : vs.length = ll.length := by have := ho.1; omega
    refine ⟨g, c, vs, hv0, hg, (Array.getElem?_eq_some_iff.1 hh).1, hc, hvl, ho, fun j u hj => ?_, fun u hu => ?_, fun i l hl => ?_⟩
    · have hjl := at_lt hj
      rw [Cells.cell (cs := cur) (t := 23) hh]
      rw [← ht, List.getElem?_take, if_pos (by omega)] at hj
      simpa using hj
    · obtain ⟨i, hi⟩ := List.getElem?_of_mem hu
      have hil := at_lt hi
      obtain ⟨ai, ci, k1, _⟩ := hv i ll[i] (List.getElem?_eq_getElem (by omega))
      rw [hi] at k1
      cases k1; rfl
    · obtain ⟨ai, ci, k1, k2, k3, k4, k5, k6, k7⟩ := hv i l hl
      refine ⟨ai, ci, k1, k2, k3, k4, k5, fun h0 b o s e => ⟨k6 h0 g (by rw [hv0]; rfl) b o s e, ?_⟩⟩
      obtain ⟨b', cur', e', hb', _⟩ := k7 h0
      rw [e] at e'; cases e'; exact hb'
/-- Two copies, one behind the other. -/
theorem rows_two {w0 w1 w2 wD w3 : World} {v1 v2 : Value} {l1 l2 : List (List Nat)} {g1 C1 : Nat} {vs1 vs2 : List Value} {g cap : Nat}
    (h1 : ∀ (i : Nat) (l : List Nat), l1[i]? = some l → ∃ (ai : Option Addr) (ci : Nat), vs1[i]? = some (.slice ai l.length ci) ∧ Lies w1 ai l ∧ l.length ≤ ci ∧ l.length < 140737488355328 ∧ (ai = none → l.length = 0 ∧ ci = 0) ∧ (l ≠ [] → ∀ b o s, ai = some ⟨b, o, s⟩ → b ≠ g1 ∧ w0.heap.size ≤ b))
    (h2 : ∀ (i : Nat) (l : List Nat), l2[i]? = some l → ∃ (ai : Option Addr) (ci : Nat), vs2[i]? = some (.slice ai l.length ci) ∧ Lies w2 ai l ∧ l.length ≤ ci ∧ l.length < 140737488355328 ∧ (ai = none → l.length = 0 ∧ ci = 0) ∧ (l ≠ [] → ∀ b o s, ai = some ⟨b, o, s⟩ → b ≠ g ∨ w1.heap.size ≤ b) ∧ (l ≠ [] → ∀ b o s, ai = some ⟨b, o, s⟩ → w1.heap.size ≤ b))
    (hl1 : vs1.length = l1.length) (hg1 : g1 < w1.heap.size) (hb : Below w1.heap.size w1 w2) (hd : w2.heap = wD.heap)
    (hgr : wD.grownBy w3 (some g1)) (ho : w3.ownsRow w0.heap.size 23 1 (.slice (some ⟨g, 0, none⟩) (l1.length + l2.length) cap) (l1.length + l2.length) (vs1 ++ vs2)) : Rows2 w3 (some ⟨g, 0, none⟩) (l1 ++ l2) := by
  rcases ho.2 with ⟨e, _⟩ | ⟨g', c, cur, e, _, hh, hc, hm, hs, ht⟩
  · cases e
  · cases e
    refine Or.inr ⟨g, 0, rfl, fun i l hl => ?_⟩
    have hil := at_lt hl
    rw [List.length_append] at hil
    have keep : ∀ {ai : Option Addr}, Lies w2 ai l → (l ≠ [] → ∀ b o s, ai = some ⟨b, o, s⟩ → b ≠ g1) → Lies w3 ai l := by
      intro ai hli hne
      have hli2 : Lies wD ai l := by
        rcases hli with h | ⟨b, o, ha, hcc⟩
        · exact Or.inl h
        · exact Or.inr ⟨b, o, ha, fun j x hx => (World.cell?_of_block (a := ⟨b, o + j, none⟩) (by rw [hd])).trans (hcc j x hx)⟩
      exact hli2.grown hgr (fun h0 b o s ea eb => hne h0 b o s ea (by cases eb; rfl))
    have cell : ∀ {x : Value}, (vs1 ++ vs2)[i]? = some x → w3.cell? ⟨g, 0 + i, none⟩ = some x := by
      intro x hx
      rw [Nat.zero_add, Cells.cell (cs := cur) (t := 23) hh]
      rw [← ht, List.getElem?_take, if_pos (by omega)] at hx
      simpa using hx
    by_cases hi : i < l1.length
    · rw [List.getElem?_append_left hi] at hl
      obtain ⟨ai, ci, k1, k2, k3, k4, k5, k6⟩ := h1 i l hl
      refine ⟨ai, ci, cell (by rw [List.getElem?_append_left (by omega)]; exact k1), keep (k2.below hb) (fun h0 b o s e => (k6 h0 b o s e).1), k3, k4, k5⟩
    · rw [List.getElem?_append_right (by omega)] at hl
      obtain ⟨ai, ci, k1, k2, k3, k4, k5, _, k6⟩ := h2 (i - l1.length) l hl
      refine ⟨ai, ci, cell (by rw [List.getElem?_append_right (by omega), hl1]; exact k1), keep k2 (fun h0 b o s e => by have := k6 h0 b o s e; omega), k3, k4, k5⟩
theorem owns_below {w u : World} {B e k n : Nat} {v : Value} {xs : List Value} (h : w.ownsRow B e k v n xs) (hb : Below w.heap.size w u) : u.ownsRow B e k v n xs := by
  rcases h.2 with ⟨hv, h0⟩ | ⟨g, c, cur, hv, hg, hh, r⟩
  · exact ⟨h.1, Or.inl ⟨hv, h0⟩⟩
  · exact ⟨h.1, Or.inr ⟨g, c, cur, hv, hg, (hb.block g (Array.getElem?_eq_some_iff.1 hh).1).trans hh, r⟩⟩
theorem step_append_none {w : World} {ops : Array Oper} {o : Oper} {a : Act} {K : Act → World → Prop} {Q : Exit → Act → World → Prop} {E : Prop} (hgd : o.guard = none) (s x : Operand) (t : TypeId)
    (ho : o.op = .call { callee := .builtin .append, args := #[s, x], argTypes := #[t, t] })
    (base : Nat) (e : TypeId) (i : TypeInfo) (size : Nat) (ht : Tryd.prog.underlying t = some (.slice e)) (hi : Tryd.prog.info? e = some i)
    (v : Value) (n : Nat) (xs : List Value) (hs : a.eval s = v) (hown : w.ownsRow base e size v n xs) (hx : a.eval x = .slice none 0 0)
    (h : K (a.put o.dst v) w) : if Region.wanted o (yielded ops a.tmps) = true then Oper.wp Tryd.prog o a w K Q else E := by
  have hw : Region.wanted o (yielded ops a.tmps) = true := by simp [Region.wanted, hgd]
  rw [if_pos hw]
  have hrun := run_append_owned_none (P := Tryd.prog) (w := w) base t o.type e i size ht hi v n xs hown
  unfold Oper.wp
  simp [execOp, ho, resolve, invoke, builtin, hs, hx, hrun, Result.andThen]
  exact h
theorem add_plain (g j : Nat) : (⟨g, 0, none⟩ : Addr).add j = ⟨g, j, none⟩ := by unfold Addr.add; split <;> simp_all
theorem copy_nil (a : Option Addr) (C : Nat) (w : World) : Calls Tryd.prog 5 #[.slice a 0 C] w fun e w' => e = .returned (.slice none 0 0) ∧ w = w' := by
  go_enter Tryd.func5, Tryd.ntmps5
  go_wp2_with fail
  go_loopg [3, 4] 0 (fun g sv si wr => ∃ i : Nat, sv = .slice none 0 0 ∧ si = .int .i64 i ∧ w = wr)
  case atStart => exact ⟨0, rfl, rfl, rfl⟩
  case round =>
    obtain ⟨i, rfl, rfl, rfl⟩ := hrel
    go_wp2_with fail
    go_ret
    exact ⟨rfl, rfl⟩
end Go.Proofs.YtbepbjbbhenphabDoor

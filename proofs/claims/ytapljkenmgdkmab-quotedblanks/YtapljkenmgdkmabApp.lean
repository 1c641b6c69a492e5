/-
  Lists of a call's own: bytes (type 5) and numbers (type 3); append, and what is kept by it.
-/
import Derived.Test.YtapljkenmgdkmabMem
import Derived.Test.YtapljkenmgdkmabChecked
import Derived.OwnWalk
import Derived.Laws.AppendOwn
import Derived.Laws.AppendOwnNone
namespace Go.Proofs.Ytapljkenmgdkmab
open Go.RowKit
set_option linter.unusedVariables false
/-- Bytes that lie side by side. -/
def Lies (w : World) (a : Option Addr) (l : List Nat) : Prop := l = [] ∨ ∃ (b o : Nat), a = some ⟨b, o, none⟩ ∧ ∀ (i x : Nat), l[i]? = some x → w.cell? ⟨b, o + i, none⟩ = some (.int .u8 (x : Int))
def Oct (l : List Nat) : Prop := ∀ x ∈ l, x < 256
theorem Lies.below {w u : World} {a : Option Addr} {l : List Nat} (h : Lies w a l) (k : Below w.heap.size w u) : Lies u a l := by
  rcases h with h | ⟨b, o, ha, hc⟩
  · exact Or.inl h
  · exact Or.inr ⟨b, o, ha, fun i x hx => (k.cell (p := ⟨b, o + i, none⟩) (World.block_lt_of_cell? w ⟨b, o + i, none⟩ (hc i x hx))).trans (hc i x hx)⟩
theorem Lies.drewN {w : World} {a : Option Addr} {l : List Nat} (h : Lies w a l) (n : Nat) : Lies (w.drewN n) a l := h
theorem addr_add (b o j : Nat) : (⟨b, o, none⟩ : Addr).add j = ⟨b, o + j, none⟩ := by unfold Addr.add; split <;> simp_all
/-- A list of the call's own, in a block from lo on, of cells of type e. -/
structure Ow (w : World) (lo : Nat) (e : TypeId) (v : Value) (xs : List Value) : Prop where
  own : w.ownsRow lo e 1 v xs.length xs
  le : lo ≤ w.heap.size
theorem Ow.nil {w : World} {lo : Nat} {e : TypeId} (h : lo ≤ w.heap.size) : Ow w lo e (.slice none 0 0) [] := ⟨⟨rfl, Or.inl ⟨rfl, rfl⟩⟩, h⟩
theorem Ow.keep {w u : World} {lo : Nat} {e : TypeId} {v : Value} {l : List Value} (h : Ow w lo e v l) (hs : w.heap.size ≤ u.heap.size) (k : ∀ g, lo ≤ g → g < w.heap.size → (∃ cs fr, w.heap[g]? = some (.cells cs e fr)) → u.heap[g]? = w.heap[g]?) : Ow u lo e v l := by
  refine ⟨⟨h.own.1, ?_⟩, Nat.le_trans h.le hs⟩
  rcases h.own.2 with q | ⟨g, c, cur, hv, hg, hh, q⟩
  · exact Or.inl q
  · have hlt : g < w.heap.size := (Array.getElem?_eq_some_iff.1 hh).1
    exact Or.inr ⟨g, c, cur, hv, hg, (k g hg hlt ⟨_, _, hh⟩).trans hh, q⟩
theorem Ow.below {w u : World} {C lo : Nat} {e : TypeId} {v : Value} {l : List Value} (h : Ow w lo e v l) (k : Below C w u) (hC : w.heap.size ≤ C) : Ow u lo e v l := h.keep k.size fun g h1 h2 _ => k.block g (by omega)
theorem Ow.drewN {w : World} {lo : Nat} {e : TypeId} {v : Value} {l : List Value} (h : Ow w lo e v l) (n : Nat) : Ow (w.drewN n) lo e v l := ⟨h.own, h.le⟩
theorem Ow.drew {w : World} {lo : Nat} {e : TypeId} {v : Value} {l : List Value} (h : Ow w lo e v l) : Ow w.drew lo e v l := ⟨h.own, h.le⟩
theorem Ow.shape {w : World} {lo : Nat} {e : TypeId} {v : Value} {l : List Value} (h : Ow w lo e v l) : ∃ a c, v = .slice a l.length c ∧ l.length ≤ c ∧ (l = [] ∨ ∃ g, a = some ⟨g, 0, none⟩ ∧ lo ≤ g ∧ (∃ cs fr, w.heap[g]? = some (.cells cs e fr)) ∧ ∀ i x, l[i]? = some x → w.cell? ⟨g, i, none⟩ = some x) ∧ (a = none → l.length = 0 ∧ c = 0) := by
  rcases h.own.2 with ⟨hv, h0⟩ | ⟨g, c, cur, hv, hg, hh, hc, hm, hs, ht⟩
  · refine ⟨none, 0, by rw [hv, h0], by omega, Or.inl (List.eq_nil_of_length_eq_zero h0), fun _ => ⟨h0, rfl⟩⟩
  · refine ⟨_, c, hv, hc, Or.inr ⟨g, rfl, hg, ⟨_, _, hh⟩, fun i x hx => ?_⟩, fun h => by cases h⟩
    rw [Cells.cell (cs := cur) (t := e) hh]
    have hi : i < l.length := (List.getElem?_eq_some_iff.1 hx).1
    have e : (cur.toList.take (l.length * 1))[i]? = some x := by rw [ht, hx]
    rw [List.getElem?_take, if_pos (by omega)] at e
    simpa using e
/-- What an append comes to: but for blocks from lo on that hold cells of type e, nothing has turned. -/
structure Ap (lo : Nat) (e : TypeId) (w w' : World) : Prop where
  size : w.heap.size ≤ w'.heap.size
  kp : ∀ k, k < w.heap.size → w'.heap[k]? = w.heap[k]? ∨ (lo ≤ k ∧ ∃ cs fr, w.heap[k]? = some (.cells cs e fr))
  bel : Below lo w w'
theorem Cells.ap {w u : World} {b lo : Nat} {cs : Array Value} {t e : TypeId} (h : Cells w b cs t) (k : Ap lo e w u) (hte : t ≠ e) : Cells u b cs t := by
  unfold Cells at *
  have hlt : b < w.heap.size := (Array.getElem?_eq_some_iff.1 h).1
  rcases k.kp b hlt with e1 | ⟨_, cs', fr, e1⟩
  · rw [e1]; exact h
  · rw [h] at e1; cases e1; exact absurd rfl hte
theorem Ow.ap {w u : World} {lo lo2 : Nat} {e e2 : TypeId} {v : Value} {l : List Value} (h : Ow w lo e v l) (k : Ap lo2 e2 w u) (hte : e ≠ e2) : Ow u lo e v l :=
  h.keep k.size fun g h1 h2 ⟨cs, fr, hx⟩ => by
    rcases k.kp g h2 with e1 | ⟨_, cs', fr', e1⟩
    · exact e1
    · rw [hx] at e1; cases e1; exact absurd rfl hte
/-- What an append comes to: the longer list, and that of all blocks that were there the list's own alone may have turned. -/
structure Got (lo : Nat) (e : TypeId) (w w' : World) (v v' : Value) (xs : List Value) : Prop where
  ow : Ow w' lo e v' xs
  ap : Ap lo e w w'
  kb : ∀ k, k < w.heap.size → some k ≠ v.ownBlock → w'.heap[k]? = w.heap[k]?
theorem Ow.block_lt {w : World} {lo : Nat} {e : TypeId} {v : Value} {l : List Value} (h : Ow w lo e v l) {g : Nat} (hg : v.ownBlock = some g) : g < w.heap.size := by
  rcases h.own.2 with ⟨rfl, h0⟩ | ⟨g', c, cur, rfl, _, hh, _⟩
  · cases hg
  · cases hg; exact (Array.getElem?_eq_some_iff.1 hh).1
/-- A list elder than a block that came later: its append leaves that block alone. -/
theorem Got.lies {lo : Nat} {e : TypeId} {w0 w w' : World} {v v' : Value} {xs ys : List Value} (h : Got lo e w w' v v' xs) (h0 : Ow w0 lo e v ys) {H o : Nat} (hH : w0.heap.size ≤ H) {p : List Nat} (hl : Lies w (some ⟨H, o, none⟩) p) : Lies w' (some ⟨H, o, none⟩) p := by
  rcases hl with hl | ⟨b, o', ha, hc⟩
  · exact Or.inl hl
  · cases ha
    refine Or.inr ⟨H, o, rfl, fun i x hx => ?_⟩
    have h1 := hc i x hx
    have hlt := World.block_lt_of_cell? w ⟨H, o + i, none⟩ h1
    rw [← h1]
    refine World.cell?_of_block (w := w) (h.kb H hlt fun e => ?_)
    have := h0.block_lt e.symm
    omega
theorem wpList_ow (P : Program) (w : World) {ops : Array Oper} {rest : List Oper} {o : Oper} {a : Act} {Q : Exit → Act → World → Prop} (hgd : o.guard = none) (s x : Operand) (t : TypeId)
    (ho : o.op = .call { callee := .builtin .append, args := #[s, x], argTypes := #[t, t] }) (e : TypeId) (i : TypeInfo) (z : Value) (bytes : Nat) (ht : P.underlying t = some (.slice e)) (hi : P.info? e = some i) (hz0 : i.zero = some z) (hz1 : i.size = 1) (hz2 : i.bytes = bytes) (hz3 : z.cells.size = 1)
    (lo : Nat) (v : Value) (l : List Value) (hs : a.eval s = v) (hown : Ow w lo e v l)
    (ax : Option Addr) (m : List Value) (n c : Nat) (hnm : m.length = n) (hx : a.eval x = .slice ax n c) (hz : ax = none → n = 0 ∧ c = 0) (hl : m = [] ∨ ∃ b o, ax = some ⟨b, o, none⟩ ∧ ∀ i u, m[i]? = some u → w.cell? ⟨b, o + i, none⟩ = some u) (h1 : ∀ u ∈ m, u.oneCell' = true) (h63 : l.length + m.length ≤ maxLen) (hlen : (l.length + m.length) * bytes ≤ 140737488355328)
    (h : ∀ v' w', Got lo e w w' v v' (l ++ m) → wpList P ops Q rest (a.put o.dst v') w') : wpList P ops Q (o :: rest) a w := by
  subst hnm
  cases ax with
  | none =>
    obtain ⟨h1, h2⟩ := hz rfl
    have hm : m = [] := List.eq_nil_of_length_eq_zero h1
    subst hm
    subst h2
    refine wpList_append_own_none hgd s x t ho lo e i 1 ht hi v _ _ hs hown.own hx (h v w ?_)
    rw [List.append_nil]
    exact ⟨hown, ⟨Nat.le_refl _, fun k _ => Or.inl rfl, Below.refl _ _⟩, fun _ _ _ => rfl⟩
  | some ad =>
    refine wpList_append_own w hgd s x t ho lo e i z 1 bytes ht hi hz0 hz1 hz2 hz3 (by decide) v _ _ hs hown.own ad m.length c m hx (by omega) ?_ h1 h63 hlen hown.le ?_
    · intro j u hj
      rcases hl with rfl | ⟨b, off, ha, hc⟩
      · simp at hj
      · cases ha
        rw [addr_add]
        exact hc j u hj
    · intro v' w' h2 h3 h4
      have hos : v.ownBlock = none ∨ ∃ g cur, v.ownBlock = some g ∧ lo ≤ g ∧ w.heap[g]? = some (.cells cur e (0, 0)) := by
        rcases hown.own.2 with ⟨rfl, h0⟩ | ⟨g, c, cur, rfl, hg, hh, _⟩
        · left; rfl
        · right; exact ⟨g, cur, rfl, hg, hh⟩
      have hb : Below lo w w' := (Below.refl lo w).grown h3 hown.le (fun k hk => by
        rcases hos with h5 | ⟨g, cur, h5, hg, _⟩
        · rw [h5] at hk; cases hk
        · rw [h5] at hk; cases hk; exact hg)
      refine h v' w' ⟨⟨?_, Nat.le_trans hown.le h3.size⟩, ⟨h3.size, fun k hk => ?_, hb⟩, fun k hk e => h3.block k hk e⟩
      · rw [List.length_append]; exact h2
      · by_cases e : some k = v.ownBlock
        · rcases hos with h5 | ⟨g, cur, h5, hg, hh⟩
          · rw [h5] at e; cases e
          · rw [h5] at e
            cases e
            exact Or.inr ⟨hg, cur, (0, 0), hh⟩
        · exact Or.inl (h3.block k hk e)
/-- Bytes, numbers, as cells. -/
def ob (l : List Nat) : List Value := l.map fun x : Nat => Value.int .u8 (x : Int)
def oi (l : List Nat) : List Value := l.map fun x : Nat => Value.int .i64 (x : Int)
theorem ob_length (l : List Nat) : (ob l).length = l.length := by simp [ob]
theorem oi_length (l : List Nat) : (oi l).length = l.length := by simp [oi]
theorem ob_get (l : List Nat) (j : Nat) : (ob l)[j]? = (l[j]?).map fun x : Nat => Value.int .u8 (x : Int) := by simp [ob]
theorem oi_get (l : List Nat) (j : Nat) : (oi l)[j]? = (l[j]?).map fun x : Nat => Value.int .i64 (x : Int) := by simp [oi]
theorem ob_append (l m : List Nat) : ob l ++ ob m = ob (l ++ m) := by simp [ob]
theorem oi_append (l m : List Nat) : oi l ++ oi m = oi (l ++ m) := by simp [oi]
theorem ob_one {l : List Nat} : ∀ u ∈ ob l, u.oneCell' = true := by
  intro u hu
  obtain ⟨x, _, rfl⟩ := List.mem_map.1 hu
  rfl
theorem oi_one {l : List Nat} : ∀ u ∈ oi l, u.oneCell' = true := by
  intro u hu
  obtain ⟨x, _, rfl⟩ := List.mem_map.1 hu
  rfl
def Ob (w : World) (lo : Nat) (v : Value) (l : List Nat) : Prop := Ow w lo 5 v (ob l)
def Oi (w : World) (lo : Nat) (v : Value) (l : List Nat) : Prop := Ow w lo 3 v (oi l)
theorem Ob.shape {w : World} {lo : Nat} {v : Value} {l : List Nat} (h : Ob w lo v l) : ∃ a c, v = .slice a l.length c ∧ l.length ≤ c ∧ Lies w a l ∧ (a = none → l.length = 0 ∧ c = 0) := by
  obtain ⟨a, c, hv, hc, hl, hn⟩ := Ow.shape h
  rw [ob_length] at hv hc hn
  refine ⟨a, c, hv, hc, ?_, hn⟩
  rcases hl with hl | ⟨g, ha, _, _, hh⟩
  · left; simpa [ob] using hl
  · refine Or.inr ⟨g, 0, ha, fun i x hx => ?_⟩
    rw [Nat.zero_add]
    exact hh i _ (by rw [ob_get, hx]; rfl)
theorem ginfo_parts {P : Program} {t : TypeId} {z : Value} {n m : Nat} (h : (P.info? t).map (fun i => (i.zero, i.size, i.bytes)) = some (some z, n, m)) :
    ∃ i, P.info? t = some i ∧ i.zero = some z ∧ i.size = n ∧ i.bytes = m := by
  cases hq : P.info? t with
  | none => simp [hq] at h
  | some i => simp [hq] at h; exact ⟨i, rfl, h.1, h.2.1, h.2.2⟩
theorem ginfo5 : (Try.prog.info? 5).map (fun i => (i.zero, i.size, i.bytes)) = some (some (.int .u8 0), 1, 1) := by kernel_rfl
theorem ginfo3 : (Try.prog.info? 3).map (fun i => (i.zero, i.size, i.bytes)) = some (some (.int .i64 0), 1, 8) := by kernel_rfl
/-- append of bytes to a list of bytes of the call's own. -/
theorem wpList_ob (w : World) {ops : Array Oper} {rest : List Oper} {o : Oper} {a : Act} {Q : Exit → Act → World → Prop} (hgd : o.guard = none) (s x : Operand)
    (ho : o.op = .call { callee := .builtin .append, args := #[s, x], argTypes := #[23, 23] }) (lo : Nat) (v : Value) (l : List Nat) (hs : a.eval s = v) (hown : Ob w lo v l)
    (ax : Option Addr) (m : List Nat) (n c : Nat) (hnm : m.length = n) (hx : a.eval x = .slice ax n c) (hz : ax = none → n = 0 ∧ c = 0) (hl : Lies w ax m) (hlen : l.length + m.length ≤ 140737488355328)
    (h : ∀ v' w', Got lo 5 w w' v v' (ob (l ++ m)) → wpList Try.prog ops Q rest (a.put o.dst v') w') : wpList Try.prog ops Q (o :: rest) a w := by
  obtain ⟨i0, hi, hz0, hz1, hz2⟩ := ginfo_parts ginfo5
  refine wpList_ow Try.prog w hgd s x 23 ho 5 i0 _ 1 Try.underlying23 hi hz0 hz1 hz2 rfl lo v _ hs hown ax (ob m) n c (by rw [ob_length]; exact hnm) hx hz ?_ ob_one (by rw [ob_length, ob_length]; unfold maxLen; omega) (by rw [ob_length, ob_length]; omega) (fun v' w' hg => h v' w' (by rw [← ob_append]; exact hg))
  rcases hl with rfl | ⟨b, off, ha, hc⟩
  · exact Or.inl rfl
  · refine Or.inr ⟨b, off, ha, fun j u hj => ?_⟩
    rw [ob_get] at hj
    cases hq : m[j]? with
    | none => simp [hq] at hj
    | some y =>
      simp [hq] at hj
      rw [← hj]
      exact hc j y hq
end Go.Proofs.Ytapljkenmgdkmab

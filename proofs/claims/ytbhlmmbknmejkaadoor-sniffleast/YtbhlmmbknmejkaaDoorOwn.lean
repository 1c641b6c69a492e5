/-
  Lists of a call's own, of cells of any type and width; append, clear, and what is kept by them.
-/
import Derived.Test.YtbhlmmbknmejkaaDoorMem
import Derived.Test.YtbhlmmbknmejkaaDoorStr
import Derived.Test.YtbhlmmbknmejkaaDoorChecked
import Derived.Laws.IdiomStrings
import Derived.Deep.LoopGhost
import Derived.BigQuiet
import Derived.OwnWalk
import Derived.Laws.AppendOwn
import Derived.Laws.AppendOwnNone
import Derived.Deep.AppendLies
import Derived.Lib.SliceRun
namespace Go.Proofs.YtbhlmmbknmejkaaDoor
open Go.RowKit
set_option linter.unusedVariables false
theorem addr_add (b o j : Nat) : (⟨b, o, none⟩ : Addr).add j = ⟨b, o + j, none⟩ := by unfold Addr.add; split <;> simp_all
def Lies (w : World) (a : Option Addr) (l : List Nat) : Prop := l = [] ∨ ∃ (b o : Nat), a = some ⟨b, o, none⟩ ∧ ∀ (i x : Nat), l[i]? = some x → w.cell? ⟨b, o + i, none⟩ = some (.int .u8 (x : Int))
theorem Lies.below {w u : World} {a : Option Addr} {l : List Nat} (h : Lies w a l) (k : Below w.heap.size w u) : Lies u a l := by
  rcases h with h | ⟨b, o, ha, hc⟩
  · exact Or.inl h
  · exact Or.inr ⟨b, o, ha, fun i x hx => (k.cell (p := ⟨b, o + i, none⟩) (World.block_lt_of_cell? w ⟨b, o + i, none⟩ (hc i x hx))).trans (hc i x hx)⟩
theorem Lies.drewN {w : World} {a : Option Addr} {l : List Nat} (h : Lies w a l) (n : Nat) : Lies (w.drewN n) a l := h
/-- A list of the call's own, n elements of sz cells, in a block from lo on, of cells of type e. -/
structure Ow (w : World) (lo : Nat) (e : TypeId) (sz : Nat) (v : Value) (n : Nat) (xs : List Value) : Prop where
  own : w.ownsRow lo e sz v n xs
  le : lo ≤ w.heap.size
theorem Ow.nil {w : World} {lo sz : Nat} {e : TypeId} (h : lo ≤ w.heap.size) : Ow w lo e sz (.slice none 0 0) 0 [] := ⟨⟨by simp, Or.inl ⟨rfl, rfl⟩⟩, h⟩
section
variable {w u : World} {lo sz n : Nat} {e : TypeId} {v : Value} {l : List Value}
theorem Ow.keep (h : Ow w lo e sz v n l) (hs : w.heap.size ≤ u.heap.size) (k : ∀ g, lo ≤ g → g < w.heap.size → (∃ cs fr, w.heap[g]? = some (.cells cs e fr)) → u.heap[g]? = w.heap[g]?) : Ow u lo e sz v n l := by
  refine ⟨⟨h.own.1, ?_⟩, Nat.le_trans h.le hs⟩
  rcases h.own.2 with q | ⟨g, c, cur, hv, hg, hh, q⟩
  · exact Or.inl q
  · have hlt : g < w.heap.size := (Array.getElem?_eq_some_iff.1 hh).1
    exact Or.inr ⟨g, c, cur, hv, hg, (k g hg hlt ⟨_, _, hh⟩).trans hh, q⟩
theorem Ow.below {C : Nat} (h : Ow w lo e sz v n l) (k : Below C w u) (hC : w.heap.size ≤ C) : Ow u lo e sz v n l := h.keep k.size fun g h1 h2 _ => k.block g (by omega)
theorem Ow.drewN (h : Ow w lo e sz v n l) (m : Nat) : Ow (w.drewN m) lo e sz v n l := ⟨h.own, h.le⟩
theorem Ow.drew (h : Ow w lo e sz v n l) : Ow w.drew lo e sz v n l := ⟨h.own, h.le⟩
theorem Ow.set {b i : Nat} {x : Value} {cs : Array Value} {t : TypeId} (h : Ow w lo e sz v n l) (hb : Cells w b cs t) (ht : t ≠ e) : Ow (w.setCell ⟨b, i, none⟩ x) lo e sz v n l :=
  h.keep (by simp [World.setCell]) fun g h1 h2 ⟨cs', fr, hx⟩ => Below.heap_setCell _ _ _ _ (fun hg => by
    subst hg
    unfold Cells at hb
    rw [hb] at hx
    cases hx
    exact ht rfl)
theorem Ow.lt_block (h : Ow w lo e sz v n l) {g : Nat} (hg : v.ownBlock = some g) : lo ≤ g ∧ g < w.heap.size := h.own.lt g hg
theorem Ow.shape (h : Ow w lo e sz v n l) : ∃ a c, v = .slice a n c ∧ n ≤ c ∧ (n = 0 ∨ ∃ g, a = some ⟨g, 0, none⟩ ∧ lo ≤ g ∧ (∃ cs, w.heap[g]? = some (.cells cs e (0, 0))) ∧ (∀ i x, l[i]? = some x → w.cell? ⟨g, i, none⟩ = some x) ∧ ∀ i, w.frozen? ⟨g, i, none⟩ = false) ∧ (a = none → n = 0 ∧ c = 0) := by
  rcases h.own.2 with ⟨hv, h0⟩ | ⟨g, c, cur, hv, hg, hh, hc, hm, hs, ht⟩
  · refine ⟨none, 0, by rw [hv, h0], by omega, Or.inl h0, fun _ => ⟨h0, rfl⟩⟩
  · refine ⟨_, c, hv, hc, Or.inr ⟨g, rfl, hg, ⟨_, hh⟩, fun i x hx => ?_, fun i => Cells.frozen (cs := cur) (t := e) hh i⟩, fun h => by cases h⟩
    rw [Cells.cell (cs := cur) (t := e) hh]
    have hi : i < l.length := (List.getElem?_eq_some_iff.1 hx).1
    have e : (cur.toList.take (n * sz))[i]? = some x := by rw [ht, hx]
    rw [List.getElem?_take, if_pos (by have := h.own.1; omega)] at e
    simpa using e
end
/-- What an append comes to: the longer list, and that of all blocks that were there the list's own alone may have turned. -/
structure Got (lo : Nat) (e : TypeId) (sz : Nat) (w w' : World) (v v' : Value) (n : Nat) (xs : List Value) : Prop where
  ow : Ow w' lo e sz v' n xs
  bel : Below lo w w'
  kb : ∀ k, k < w.heap.size → some k ≠ v.ownBlock → w'.heap[k]? = w.heap[k]?
  kp : ∀ k, k < w.heap.size → w'.heap[k]? = w.heap[k]? ∨ (lo ≤ k ∧ ∃ cs, w.heap[k]? = some (.cells cs e (0, 0)))
theorem Got.size {lo sz n : Nat} {e : TypeId} {w w' : World} {v v' : Value} {xs : List Value} (h : Got lo e sz w w' v v' n xs) : w.heap.size ≤ w'.heap.size := h.bel.size
theorem Cells.got {lo sz n b : Nat} {e t : TypeId} {w w' : World} {v v' : Value} {xs : List Value} {cs : Array Value} (h : Cells w b cs t) (k : Got lo e sz w w' v v' n xs) (ht : t ≠ e) : Cells w' b cs t := by
  unfold Cells at *
  have hlt : b < w.heap.size := (Array.getElem?_eq_some_iff.1 h).1
  rcases k.kp b hlt with e1 | ⟨_, cs', e1⟩
  · rw [e1]; exact h
  · rw [h] at e1; cases e1; exact absurd rfl ht
theorem Ow.got {lo lo2 sz sz2 n n2 : Nat} {e t : TypeId} {w w' : World} {v v' v2 : Value} {xs ys : List Value} (h : Ow w lo2 t sz2 v2 n2 ys) (k : Got lo e sz w w' v v' n xs) (ht : t ≠ e) : Ow w' lo2 t sz2 v2 n2 ys :=
  h.keep k.size fun g h1 h2 ⟨cs, fr, hx⟩ => by
    rcases k.kp g h2 with e1 | ⟨_, cs', e1⟩
    · exact e1
    · rw [hx] at e1; cases e1; exact absurd rfl ht
theorem Got.mk' {lo sz n m : Nat} {e : TypeId} {w w' : World} {v v' : Value} {xs news : List Value} (hown : Ow w lo e sz v n xs) (h2 : w'.ownsRow lo e sz v' (n + m) (xs ++ news)) (h3 : w.grownBy w' v.ownBlock) : Got lo e sz w w' v v' (n + m) (xs ++ news) := by
  have hos : v.ownBlock = none ∨ ∃ g cur, v.ownBlock = some g ∧ lo ≤ g ∧ w.heap[g]? = some (.cells cur e (0, 0)) := by
    rcases hown.own.2 with ⟨rfl, h0⟩ | ⟨g, c, cur, rfl, hg, hh, _⟩
    · left; rfl
    · right; exact ⟨g, cur, rfl, hg, hh⟩
  have hb : Below lo w w' := (Below.refl lo w).grown h3 hown.le (fun k hk => by
    rcases hos with h5 | ⟨g, cur, h5, hg, _⟩
    · rw [h5] at hk; cases hk
    · rw [h5] at hk; cases hk; exact hg)
  refine ⟨⟨h2, Nat.le_trans hown.le h3.size⟩, hb, fun k hk e => h3.block k hk e, fun k hk => ?_⟩
  by_cases e : some k = v.ownBlock
  · rcases hos with h5 | ⟨g, cur, h5, hg, hh⟩
    · rw [h5] at e; cases e
    · rw [h5] at e
      cases e
      exact Or.inr ⟨hg, cur, hh⟩
  · exact Or.inl (h3.block k hk e)
section
variable (P : Program) (w : World) {o : Oper} {a : Act}
theorem wpList_ow {ops : Array Oper} {rest : List Oper} {Q : Exit → Act → World → Prop} (hgd : o.guard = none) (s x : Operand) (t : TypeId)
    (ho : o.op = .call { callee := .builtin .append, args := #[s, x], argTypes := #[t, t] }) (e : TypeId) (i : TypeInfo) (z : Value) (sz bytes : Nat) (ht : P.underlying t = some (.slice e)) (hi : P.info? e = some i) (hz0 : i.zero = some z) (hz1 : i.size = sz) (hz2 : i.bytes = bytes) (hz3 : z.cells.size = sz) (hsz : 0 < sz)
    (lo : Nat) (v : Value) (k : Nat) (l : List Value) (hs : a.eval s = v) (hown : Ow w lo e sz v k l)
    (ax : Option Addr) (m : List Value) (n c : Nat) (hnm : m.length = n * sz) (hx : a.eval x = .slice ax n c) (hz : ax = none → n = 0 ∧ c = 0) (hl : m = [] ∨ ∃ b o, ax = some ⟨b, o, none⟩ ∧ ∀ i u, m[i]? = some u → w.cell? ⟨b, o + i, none⟩ = some u) (h1 : ∀ u ∈ m, u.oneCell' = true) (h63 : k + n ≤ maxLen) (hlen : (k + n) * bytes ≤ 140737488355328)
    (h : ∀ v' w', Got lo e sz w w' v v' (k + n) (l ++ m) → wpList P ops Q rest (a.put o.dst v') w') : wpList P ops Q (o :: rest) a w := by
  cases ax with
  | none =>
    obtain ⟨h1, h2⟩ := hz rfl
    subst h1
    have hm : m = [] := List.eq_nil_of_length_eq_zero (by omega)
    subst hm
    subst h2
    refine wpList_append_own_none hgd s x t ho lo e i sz ht hi v _ _ hs hown.own hx (h v w ?_)
    rw [List.append_nil]
    exact ⟨hown, Below.refl _ _, fun _ _ _ => rfl, fun k _ => Or.inl rfl⟩
  | some ad =>
    refine wpList_append_own w hgd s x t ho lo e i z sz bytes ht hi hz0 hz1 hz2 hz3 hsz v _ _ hs hown.own ad n c m hx hnm ?_ h1 h63 hlen hown.le ?_
    · intro j u hj
      rcases hl with rfl | ⟨b, off, ha, hc⟩
      · simp at hj
      · cases ha
        rw [addr_add]
        exact hc j u hj
    · intro v' w' h2 h3 h4
      exact h v' w' (Got.mk' hown h2 h3)
/-- One element, at a step of a region that draws its order. -/
theorem step_ow {ops : Array Oper} {K : Act → World → Prop} {Q : Exit → Act → World → Prop} {E : Prop} (hgd : o.guard = none) (s x : Operand) (t : TypeId)
    (ho : o.op = .call { callee := .builtin .append, args := #[s, x], argTypes := #[t, t] }) (e : TypeId) (i : TypeInfo) (z : Value) (sz bytes : Nat) (ht : P.underlying t = some (.slice e)) (hi : P.info? e = some i) (hz0 : i.zero = some z) (hz1 : i.size = sz) (hz2 : i.bytes = bytes) (hz3 : z.cells.size = sz) (hsz : 0 < sz)
    (lo : Nat) (v : Value) (k : Nat) (l : List Value) (hs : a.eval s = v) (hown : Ow w lo e sz v k l)
    (b off c : Nat) (m : List Value) (hnm : m.length = sz) (hx : a.eval x = .slice (some ⟨b, off, none⟩) 1 c) (hl : ∀ i u, m[i]? = some u → w.cell? ⟨b, off + i, none⟩ = some u) (h1 : ∀ u ∈ m, u.oneCell' = true) (h63 : k + 1 ≤ maxLen) (hlen : (k + 1) * bytes ≤ 140737488355328)
    (h : ∀ g cap w', Got lo e sz w w' v (.slice (some ⟨g, 0, none⟩) (k + 1) cap) (k + 1) (l ++ m) → K (a.put o.dst (.slice (some ⟨g, 0, none⟩) (k + 1) cap)) w') :
    if Region.wanted o (yielded ops a.tmps) = true then Oper.wp P o a w K Q else E :=
  step_append_lies w hgd s x t ho lo e i z sz bytes ht hi hz0 hz1 hz2 hz3 hsz v _ _ hs hown.own ⟨b, off, none⟩ 1 c m hx (by omega) (fun j u hj => by rw [addr_add]; exact hl j u hj) h1 (by decide) h63 hlen hown.le _ rfl fun g cap w' h2 h3 _ _ => h g cap w' (Got.mk' hown h2 h3)
end
/-- Bytes as cells. -/
def ob (l : List Nat) : List Value := l.map fun x : Nat => Value.int .u8 (x : Int)
theorem ob_length (l : List Nat) : (ob l).length = l.length := by simp [ob]
theorem ob_get (l : List Nat) (j : Nat) : (ob l)[j]? = (l[j]?).map fun x : Nat => Value.int .u8 (x : Int) := by simp [ob]
theorem ob_append (l m : List Nat) : ob l ++ ob m = ob (l ++ m) := by simp [ob]
theorem ob_one {l : List Nat} : ∀ u ∈ ob l, u.oneCell' = true := by
  intro u hu
  obtain ⟨x, _, rfl⟩ := List.mem_map.1 hu
  rfl
theorem ginfo5 : (Tryd.prog.info? 5).map (fun i => (i.zero, i.size, i.bytes)) = some (some (.int .u8 0), 1, 1) := by kernel_rfl
theorem ginfo_parts {o : Option TypeInfo} {z : Value} {n b : Nat} (h : o.map (fun i => (i.zero, i.size, i.bytes)) = some (some z, n, b)) : ∃ i, o = some i ∧ i.zero = some z ∧ i.size = n ∧ i.bytes = b := by
  cases o with
  | none => simp at h
  | some i => simp at h; exact ⟨i, rfl, h⟩
theorem conv_st {w : World} {a : Option Addr} {l : List Nat} (L : Nat) (cap : Nat) (hL : l.length = L) (ho : Oct l) (h : Lies w a l) : (convert 22 9 (.slice a L cap)).run Tryd.prog w = .ok (.string (st l)) w := by
  subst hL
  rcases h with rfl | ⟨b, o, rfl, hc⟩
  · cases a with
    | none =>
      simp [convert, run_underlying Tryd.underlying22, run_underlying Tryd.underlying9, run_underlying Tryd.underlying5, st, Conv.bytesToString]
      rfl
    | some ad =>
      have := run_convert_bytes_back (P := Tryd.prog) w 22 9 5 ad cap [] Tryd.underlying22 Tryd.underlying5 Tryd.underlying9 (by simp)
      exact this
  · have := run_convert_bytes_back (P := Tryd.prog) w 22 9 5 ⟨b, o, none⟩ cap (l.map UInt8.ofNat) Tryd.underlying22 Tryd.underlying5 Tryd.underlying9 (fun j hj => by
      rw [addr_add]
      have hj' : j < l.length := by simpa using hj
      rw [hc j l[j] (List.getElem?_eq_getElem hj')]
      have := ho l[j] (List.getElem_mem hj')
      simp
      omega)
    rw [List.length_map] at this
    exact this
theorem Ow.lies {w : World} {lo n : Nat} {v : Value} {l : List Nat} (h : Ow w lo 5 1 v n (ob l)) : ∃ a c, v = .slice a n c ∧ l.length = n ∧ n ≤ c ∧ Lies w a l ∧ (a = none → n = 0 ∧ c = 0) := by
  obtain ⟨a, c, hv, hc, hq, hz⟩ := h.shape
  have hn : l.length = n := by have := h.own.1; rw [ob_length] at this; omega
  refine ⟨a, c, hv, hn, hc, ?_, hz⟩
  rcases hq with h0 | ⟨g, ha, hg, _, hx, _⟩
  · exact Or.inl (List.eq_nil_of_length_eq_zero (by omega))
  · refine Or.inr ⟨g, 0, ha, fun i x hi => ?_⟩
    rw [Nat.zero_add]
    exact hx i _ (by rw [ob_get, hi]; rfl)
theorem drop_more {l : List Nat} {k x : Nat} (hx : l[k]? = some x) : l.drop k = x :: l.drop (k + 1) := by
  obtain ⟨h1, h2⟩ := List.getElem?_eq_some_iff.1 hx
  rw [← h2]
  exact List.drop_eq_getElem_cons h1
theorem take_more {l : List Nat} {k x : Nat} (hx : l[k]? = some x) : l.take (k + 1) = l.take k ++ [x] := by rw [List.take_add_one, hx]; rfl
theorem Below.drewN2 {B : Nat} {w u : World} (h : Below B w u) (n : Nat) : Below B w (u.drewN n) := ⟨h.1, h.2, h.3, h.size, h.block⟩
end Go.Proofs.YtbhlmmbknmejkaaDoor

/-
  Lists of a call's own that begin empty; lists of such lists.
-/
import Derived.Test.YtbhlmmbknmejkaaDoorKnd
namespace Go.Proofs.YtbhlmmbknmejkaaDoor
open Go.RowKit
set_option linter.unusedVariables false
theorem ginfo22 : (Tryd.prog.info? 22).map (fun i => (i.zero, i.size, i.bytes)) = some (some (.slice none 0 0), 1, 24) := by kernel_rfl
theorem Ow.made {w : World} {lo sz cap : Nat} {e : TypeId} {cs : Array Value} (h : lo ≤ w.heap.size) (hm : cap ≤ maxLen) (hs : cs.size = cap * sz) : Ow (w.alloc (.cells cs e)) lo e sz (.slice (some ⟨w.heap.size, 0, none⟩) 0 cap) 0 [] :=
  ⟨World.ownsRow_made w cs cap h hm hs, by show _ ≤ (w.heap.push _).size; simp; omega⟩
theorem Ow.empty {w : World} {lo : Nat} (h : lo ≤ w.heap.size) : Ow (w.alloc (.cells #[] 5)) lo 5 1 (.slice (some ⟨w.heap.size, 0, none⟩) 0 0) 0 (ob []) := Ow.made (cs := #[]) h (by decide) rfl
/-- A list that was just built. -/
theorem Ow.built {w : World} {lo n : Nat} {e : TypeId} (cs : Array Value) (h : lo ≤ w.heap.size) (hm : n ≤ maxLen) (hs : cs.size = n) : Ow (w.alloc (.cells cs e)) lo e 1 (.slice (some ⟨w.heap.size, 0, none⟩) n n) n cs.toList := by
  refine ⟨⟨by simp [hs], Or.inr ⟨w.heap.size, n, cs, rfl, h, ?_, Nat.le_refl _, hm, by omega, ?_⟩⟩, by show _ ≤ (w.heap.push _).size; simp; omega⟩
  · show (w.heap.push _)[_]? = _
    simp
  · rw [List.take_of_length_le (by simp [hs])]
theorem Ow.lower {w : World} {lo B sz n : Nat} {e : TypeId} {v : Value} {l : List Value} (h : Ow w lo e sz v n l) (hB : B ≤ lo) : Ow w B e sz v n l := by
  refine ⟨⟨h.own.1, ?_⟩, Nat.le_trans hB h.le⟩
  rcases h.own.2 with q | ⟨g, c, cur, hv, hg, q⟩
  · exact Or.inl q
  · exact Or.inr ⟨g, c, cur, hv, Nat.le_trans hB hg, q⟩
theorem lies_ob {w : World} {a : Option Addr} {l : List Nat} (h : Lies w a l) : ob l = [] ∨ ∃ b o, a = some ⟨b, o, none⟩ ∧ ∀ (i : Nat) u, (ob l)[i]? = some u → w.cell? ⟨b, o + i, none⟩ = some u := by
  rcases h with rfl | ⟨b, o, ha, hc⟩
  · exact Or.inl rfl
  · refine Or.inr ⟨b, o, ha, fun i u hu => ?_⟩
    rw [ob_get] at hu
    cases hx : l[i]? with
    | none => rw [hx] at hu; simp at hu
    | some x =>
      rw [hx] at hu
      simp at hu
      rw [← hu]; exact hc i x hx
theorem ow_first {w : World} {B : Nat} {v v' : Value} {w' : World} {l : List Nat} {L : Nat} (h : Got B 5 1 w w' v v' (0 + L) (ob [] ++ ob l)) : Ow w' B 5 1 v' L (ob l) := by
  have := h.ow
  rw [Nat.zero_add, ob_append, List.nil_append] at this
  exact this
theorem ow_next {w : World} {B : Nat} {v v' : Value} {w' : World} {l m : List Nat} {L M : Nat} (h : Got B 5 1 w w' v v' (L + M) (ob l ++ ob m)) : Ow w' B 5 1 v' (L + M) (ob (l ++ m)) := by
  have := h.ow
  rw [ob_append] at this
  exact this
/-- Lists of bytes, each of the call's own. -/
structure Sv (w : World) (B : Nat) (vs : List Value) (ls : List (List Nat)) : Prop where
  len : vs.length = ls.length
  own : ∀ (i : Nat) (v : Value) (l : List Nat), vs[i]? = some v → ls[i]? = some l → Ow w B 5 1 v l.length (ob l)
theorem Sv.below {w u : World} {B C : Nat} {vs : List Value} {ls : List (List Nat)} (h : Sv w B vs ls) (k : Below C w u) (hC : w.heap.size ≤ C) : Sv u B vs ls := ⟨h.len, fun i v l hv hl => (h.own i v l hv hl).below k hC⟩
theorem Sv.got {w u : World} {B lo n : Nat} {v v' : Value} {xs : List Value} {vs : List Value} {ls : List (List Nat)} (h : Sv w B vs ls) (k : Got lo 22 1 w u v v' n xs) : Sv u B vs ls := ⟨h.len, fun i v l hv hl => (h.own i v l hv hl).got k (by decide)⟩
theorem Sv.snoc {w : World} {B : Nat} {vs : List Value} {ls : List (List Nat)} {v : Value} {l : List Nat} (h : Sv w B vs ls) (k : Ow w B 5 1 v l.length (ob l)) : Sv w B (vs ++ [v]) (ls ++ [l]) := by
  refine ⟨by simp [h.len], fun i u m hu hm => ?_⟩
  by_cases hi : i < vs.length
  · rw [List.getElem?_append_left hi] at hu
    rw [List.getElem?_append_left (by rw [← h.len]; exact hi)] at hm
    exact h.own i u m hu hm
  · rw [List.getElem?_append_right (by omega)] at hu
    rw [List.getElem?_append_right (by rw [← h.len]; omega)] at hm
    have e : i - vs.length = 0 := by
      have := (List.getElem?_eq_some_iff.1 hu).1
      simp at this
      omega
    rw [← h.len, e] at hm
    rw [e] at hu
    simp at hu hm
    subst hu hm
    exact k
theorem Cells.got2 {lo n b g : Nat} {t : TypeId} {w w' : World} {v' : Value} {xs : List Value} {cs : Array Value} {k c : Nat} (h : Cells w b cs t) (q : Got lo 22 1 w w' (.slice (some ⟨g, 0, none⟩) k c) v' n xs) (ht : g ≠ b) : Cells w' b cs t := by
  have := h.lt
  unfold Cells at *
  rw [q.kb b this (by intro e; exact ht (Option.some.inj e).symm)]
  exact h
/-- One more list behind. -/
theorem wpList_row {P : Program} {w : World} {o : Oper} {a : Act} {ops : Array Oper} {rest : List Oper} {Q : Exit → Act → World → Prop} (hgd : o.guard = none) (s x : Operand) (t : TypeId)
    (ho : o.op = .call { callee := .builtin .append, args := #[s, x], argTypes := #[t, t] }) (i : TypeInfo) (ht : P.underlying t = some (.slice 22)) (hi : P.info? 22 = some i) (hz0 : i.zero = some (.slice none 0 0)) (hz1 : i.size = 1) (hz2 : i.bytes = 24)
    (lo : Nat) (v : Value) (n : Nat) (xs : List Value) (hs : a.eval s = v) (hown : Ow w lo 22 1 v n xs)
    (b c : Nat) (y : Value) (hx : a.eval x = .slice (some ⟨b, 0, none⟩) 1 c) (hl : w.cell? ⟨b, 0, none⟩ = some y) (h1 : y.oneCell' = true) (hn : n ≤ 1000) (H : Nat) (hH : w.heap.size = H)
    (h : ∀ g cap w', Got lo 22 1 w w' v (.slice (some ⟨g, 0, none⟩) (n + 1) cap) (n + 1) (xs ++ [y]) → (v.ownBlock = some g ∨ g = H) → wpList P ops Q rest (a.put o.dst (.slice (some ⟨g, 0, none⟩) (n + 1) cap)) w') : wpList P ops Q (o :: rest) a w :=
  wpList_append_lies w hgd s x t ho lo 22 i _ 1 24 ht hi hz0 hz1 hz2 rfl (by decide) v n xs hs hown.own ⟨b, 0, none⟩ 1 c [y] hx rfl (fun j u hj => by
    cases j with
    | zero => simp at hj; rw [← hj, addr_add]; exact hl
    | succ j => simp at hj) (fun u hu => by simp at hu; rw [hu]; exact h1) (by decide) (by unfold maxLen; omega) (by omega) hown.le H hH fun g cap w' h2 h3 h4 h5 => h g cap w' (Got.mk' hown h2 h3) h4
end Go.Proofs.YtbhlmmbknmejkaaDoor

/-
  What the machine keeps while the patterns are laid out, no walk in it; and how a node's field is written in memory.
-/
import Derived.Test.YtbepbjbbhenphabDoorNext
import Derived.Test.YtbepbjbbhenphabDoorAdd
namespace Go.Proofs.YtbepbjbbhenphabDoor
open Go.RowKit
set_option linter.unusedVariables false
/-- The machine of the patterns so far, no fail worked out. -/
structure Lay (ps ws : List (List Nat)) (nd : List Nd) (G : Nat → Nat → Option Nat) : Prop where
  laid : Laid ws nd G
  fa : ∀ n ∈ nd, n.fa = 0
  ou : ∀ {s : Nat} {u : List Nat} {n : Nd}, ws[s]? = some u → nd[s]? = some n → n.ou < 18446744073709551616 ∧ ∀ i, n.ou.testBit i = decide (ps[i]? = some u)
  sub : ∀ p ∈ ps, p ∈ ws
theorem Laid.add {ws : List (List Nat)} {nd : List Nd} {G : Nat → Nat → Option Nat} (h : Laid ws nd G) {s b : Nat} {u : List Nat} {n : Nd} (hs : ws[s]? = some u) (hG : G s b = none) (hn : nd[s]? = some n) (hb : b < 256) (hsm : ws.length + 1 < 1048576) (v : Nat) :
    Laid (ws ++ [u ++ [b]]) (nd ++ [⟨s, b, n.dp + 1, 0, v⟩]) (upd G s b ws.length) := by
  have hnew : u ++ [b] ∉ ws := fun hm => by
    obtain ⟨q, hq⟩ := mem_at hm
    have := (h.map hs b q).2 hq
    rw [hG] at this; cases this
  have hmem := List.mem_of_getElem? hs
  refine ⟨h.tri.add hmem hnew, by simp [h.len], ?_, ?_, ?_, ?_, ?_, by simpa using hsm⟩
  · intro v' hv x hx
    rcases List.mem_append.1 hv with hv | hv
    · exact h.oct v' hv x hx
    · rw [List.mem_singleton.1 hv] at hx
      rcases List.mem_append.1 hx with hx | hx
      · exact h.oct u hmem x hx
      · rw [List.mem_singleton.1 hx]; exact hb
  · intro s' u' n' h1 h2
    rcases at_app_iff.1 h1 with h1 | ⟨rfl, rfl⟩
    · rcases at_app_iff.1 h2 with h2 | ⟨e, _⟩
      · exact h.dp h1 h2
      · have := at_lt h1; rw [e, h.len] at this; omega
    · rcases at_app_iff.1 h2 with h2 | ⟨_, rfl⟩
      · have := at_lt h2; rw [h.len] at this; omega
      · show n.dp + 1 = _; rw [h.dp hs hn]; simp
  · intro s' u' b' n' h1 h2
    rcases at_app_iff.1 h1 with h1 | ⟨rfl, e⟩
    · rcases at_app_iff.1 h2 with h2 | ⟨e, _⟩
      · obtain ⟨q1, q2⟩ := h.bf h1 h2
        exact ⟨at_app q1, q2⟩
      · have := at_lt h1; rw [e, h.len] at this; omega
    · rcases at_app_iff.1 h2 with h2 | ⟨_, rfl⟩
      · have := at_lt h2; rw [h.len] at this; omega
      · obtain ⟨rfl, e2⟩ := List.append_inj' e rfl
        cases e2
        exact ⟨at_app hs, rfl⟩
  · intro s' u' h0 b' t
    unfold upd
    rcases at_app_iff.1 h0 with k1 | ⟨rfl, rfl⟩
    · clear h0
      by_cases e : s' = s ∧ b' = b
      · obtain ⟨rfl, rfl⟩ := e
        rw [k1] at hs; cases hs
        rw [if_pos ⟨rfl, rfl⟩]
        constructor
        · intro e; cases e; exact at_new _ _
        · intro e
          rcases at_app_iff.1 e with e | ⟨rfl, _⟩
          · exact absurd (List.mem_of_getElem? e) hnew
          · rfl
      · rw [if_neg e, h.map k1]
        constructor
        · exact at_app
        · intro e2
          rcases at_app_iff.1 e2 with e2 | ⟨_, e2⟩
          · exact e2
          · obtain ⟨e4, e3⟩ := List.append_inj' e2 rfl
            cases e3
            subst e4
            exact absurd ⟨h.tri.one k1 hs, rfl⟩ e
    · have hne : ¬ (ws.length = s ∧ b' = b) := fun e => by have := at_lt hs; omega
      rw [if_neg hne, h.out _ _ (Nat.le_refl _)]
      constructor
      · intro e; cases e
      · intro e
        rcases at_app_iff.1 e with e | ⟨_, e⟩
        · exact absurd (h.tri.closed (List.mem_of_getElem? e)) hnew
        · have := congrArg List.length e; simp at this
  · intro s' b' hs'
    simp at hs'
    unfold upd
    rw [if_neg (fun e => by have := at_lt hs; omega)]
    exact h.out s' b' (by omega)
theorem Lay.add {ps ws : List (List Nat)} {nd : List Nd} {G : Nat → Nat → Option Nat} (h : Lay ps ws nd G) {s b : Nat} {u : List Nat} {n : Nd} (hs : ws[s]? = some u) (hG : G s b = none) (hn : nd[s]? = some n) (hb : b < 256) (hsm : ws.length + 1 < 1048576) :
    Lay ps (ws ++ [u ++ [b]]) (nd ++ [⟨s, b, n.dp + 1, 0, 0⟩]) (upd G s b ws.length) ∧ u ++ [b] ∉ ws := by
  have hnew : u ++ [b] ∉ ws := fun hm => by
    obtain ⟨q, hq⟩ := mem_at hm
    have := (h.laid.map hs b q).2 hq
    rw [hG] at this; cases this
  refine ⟨⟨h.laid.add hs hG hn hb hsm 0, ?_, ?_, fun p hp => List.mem_append_left _ (h.sub p hp)⟩, hnew⟩
  · intro m hm
    rcases List.mem_append.1 hm with hm | hm
    · exact h.fa m hm
    · rw [List.mem_singleton.1 hm]
  · intro s' u' n' h1 h2
    rcases at_app_iff.1 h1 with h1 | ⟨rfl, rfl⟩
    · rcases at_app_iff.1 h2 with h2 | ⟨e, _⟩
      · exact h.ou h1 h2
      · have := at_lt h1; rw [e, h.laid.len] at this; omega
    · rcases at_app_iff.1 h2 with h2 | ⟨_, rfl⟩
      · have := at_lt h2; rw [h.laid.len] at this; omega
      · refine ⟨(by decide : (0 : Nat) < 18446744073709551616), fun i => ?_⟩
        show Nat.testBit 0 i = _
        rw [Nat.zero_testBit, decide_eq_false]
        exact fun e => hnew (h.sub _ (List.mem_of_getElem? e))
/-- A node's outs or fail is written. -/
theorem Laid.set {ws : List (List Nat)} {nd : List Nd} {G : Nat → Nat → Option Nat} (h : Laid ws nd G) {s : Nat} {n m : Nd} (hn : nd[s]? = some n) (h1 : m.bf = n.bf) (h2 : m.la = n.la) (h3 : m.dp = n.dp) : Laid ws (nd.set s m) G := by
  have key : ∀ {s' : Nat} {n' : Nd}, (nd.set s m)[s']? = some n' → ∃ n0, nd[s']? = some n0 ∧ n'.bf = n0.bf ∧ n'.la = n0.la ∧ n'.dp = n0.dp := by
    intro s' n' hs'
    rw [List.getElem?_set] at hs'
    split at hs'
    · rename_i e
      subst e
      split at hs'
      · cases hs'; exact ⟨n, hn, h1, h2, h3⟩
      · cases hs'
    · exact ⟨n', hs', rfl, rfl, rfl⟩
  refine ⟨h.tri, by simp [h.len], h.oct, ?_, ?_, h.map, h.out, h.small⟩
  · intro s' u' n' q1 q2
    obtain ⟨n0, e0, e1, e2, e3⟩ := key q2
    rw [e3]; exact h.dp q1 e0
  · intro s' u' b' n' q1 q2
    obtain ⟨n0, e0, e1, e2, e3⟩ := key q2
    rw [e1, e2]; exact h.bf q1 e0
theorem Lay.mark {ps ws : List (List Nat)} {nd : List Nd} {G : Nat → Nat → Option Nat} (h : Lay ps ws nd G) {s : Nat} {p : List Nat} {n : Nd} (hs : ws[s]? = some p) (hn : nd[s]? = some n) (hp : p ∉ ps) (hk : ps.length < 64) :
    Lay (ps ++ [p]) ws (nd.set s { n with ou := 2 ^ ps.length }) G := by
  refine ⟨h.laid.set hn rfl rfl rfl, ?_, ?_, ?_⟩
  · intro m hm
    rcases List.mem_or_eq_of_mem_set hm with hm | rfl
    · exact h.fa m hm
    · exact h.fa n (List.mem_of_getElem? hn)
  · intro s' u' n' q1 q2
    rw [List.getElem?_set] at q2
    split at q2
    · rename_i e
      subst e
      rw [hs] at q1; cases q1
      split at q2
      · cases q2
        refine ⟨?_, fun i => ?_⟩
        · have := Nat.pow_lt_pow_right (a := 2) (by decide) hk
          exact this
        · show Nat.testBit (2 ^ ps.length) i = _
          rw [Nat.testBit_two_pow]
          by_cases e : ps.length = i
          · subst e; rw [decide_eq_true rfl, decide_eq_true (by simp)]
          · rw [decide_eq_false e, decide_eq_false]
            intro e2
            rcases at_app_iff.1 e2 with e2 | ⟨e2, _⟩
            · exact hp (List.mem_of_getElem? e2)
            · exact e e2.symm
      · cases q2
    · rename_i e
      obtain ⟨o1, o2⟩ := h.ou q1 q2
      refine ⟨o1, fun i => ?_⟩
      rw [o2 i]
      congr 1
      apply propext
      constructor
      · exact at_app
      · intro e2
        rcases at_app_iff.1 e2 with e2 | ⟨_, rfl⟩
        · exact e2
        · exact absurd (h.laid.tri.one hs q1) e
  · intro q hq
    rcases List.mem_append.1 hq with hq | hq
    · exact h.sub q hq
    · rw [List.mem_singleton.1 hq]; exact List.mem_of_getElem? hs
theorem nvs_set : ∀ (nd : List Nd) (s j : Nat) (n m : Nd) (v : Value), nd[s]? = some n → j < 5 → n.vs.set j v = m.vs → (nvs nd).set (s * 5 + j) v = nvs (nd.set s m)
  | [], s, j, n, m, v, h, hj, e => by simp at h
  | k :: nd, 0, j, n, m, v, h, hj, e => by
    simp at h; subst h
    unfold nvs
    rw [List.set_cons_zero, List.flatMap_cons, List.flatMap_cons, Nat.zero_mul, Nat.zero_add, List.set_append_left _ _ (by show j < 5; exact hj), e]
  | k :: nd, s + 1, j, n, m, v, h, hj, e => by
    have := nvs_set nd s j n m v (by simpa using h) hj e
    unfold nvs at *
    rw [List.set_cons_succ, List.flatMap_cons, List.flatMap_cons, List.set_append_right _ _ (by show 5 ≤ _; omega), ← this]
    congr 2
    show (s + 1) * 5 + j - 5 = _
    omega
/-- A field of a node is written. -/
theorem Mach.node {w : World} {base A pn lg : Nat} {nd : List Nd} {G : Nat → Nat → Option Nat} (h : Mach w base A pn lg nd G) :
    ∃ g cap, w.cell? ⟨A, 2, none⟩ = some (.slice (some ⟨g, 0, none⟩) nd.length cap) ∧ base ≤ g ∧ A ≠ g ∧ ∀ (s j : Nat) (n m : Nd) (v : Value), nd[s]? = some n → j < 5 → n.vs.set j v = m.vs → (∃ x, w.cell? ⟨g, s * 5 + j, none⟩ = some x) ∧ w.frozen? ⟨g, s * 5 + j, none⟩ = false ∧ Mach (w.setCell ⟨g, s * 5 + j, none⟩ v) base A pn lg (nd.set s m) G ∧ Below base w (w.setCell ⟨g, s * 5 + j, none⟩ v) ∧ (∀ (B : Nat) (cs : Array Value), w.heap[B]? = some (.cells cs 3) → (w.setCell ⟨g, s * 5 + j, none⟩ v).heap[B]? = some (.cells cs 3)) := by
  obtain ⟨g, cap, M, k, cur, hA, hg, h1, h2, h3, h4, h5, h6, h7, h8, h9⟩ := h
  have hAg0 : A ≠ g := fun e => by rw [e, hg] at hA; cases hA
  refine ⟨g, cap, Cells.cell (w := w) (b := A) hA 2, h8, hAg0, ?_⟩
  intro s j n m v hn hj he
  have hs := (List.getElem?_eq_some_iff.1 hn).1
  have hAg : A ≠ g := fun e => by rw [e, hg] at hA; cases hA
  have hMg : M ≠ g := fun e => by
    obtain ⟨es, cl, hm⟩ := h5.isMap
    rw [e, hg] at hm; cases hm
  have far : ∀ k, k ≠ g → (w.setCell ⟨g, s * 5 + j, none⟩ v).heap[k]? = w.heap[k]? := fun k hk => Below.heap_setCell _ _ _ _ hk
  refine ⟨?_, Cells.frozen (w := w) (b := g) hg _, ⟨g, cap, M, k, cur.setIfInBounds (s * 5 + j) v, ?_, Cells.set (w := w) (b := g) hg _ v, by simpa using h1, h2, by simp [h3], ?_, h5.heap (far M hMg), by simpa using h6, h7, h8, h9⟩, (Below.refl base w).setCell (p := ⟨g, s * 5 + j, none⟩) h8 _, fun B cs hB => (far B (fun e => by rw [e, hg] at hB; cases hB)).trans hB⟩
  · rw [Cells.cell (cs := cur) (t := 42) hg]
    exact ⟨_, Array.getElem?_eq_getElem (by rw [h3]; omega)⟩
  · rw [far A hAg, List.length_set]; exact hA
  · rw [List.length_set, ← nvs_set nd s j n m v hn hj he, ← h4]
    apply List.ext_getElem?
    intro i
    rw [List.getElem?_take, List.getElem?_set, List.length_take, List.getElem?_take]
    simp only [Array.toList_setIfInBounds, List.getElem?_set, Array.length_toList]
    by_cases hi : i < nd.length * 5
    · rw [if_pos hi]
      by_cases e : s * 5 + j = i
      · rw [if_pos e, if_pos e, if_pos (by omega), if_pos (by omega)]
      · rw [if_neg e, if_neg e, if_pos hi]
    · rw [if_neg hi, if_neg (by omega), if_neg hi]
/-- The longest is written. -/
theorem Mach.longest {w : World} {base A pn lg : Nat} {nd : List Nd} {G : Nat → Nat → Option Nat} (h : Mach w base A pn lg nd G) (l : Nat) : w.frozen? ⟨A, 1, none⟩ = false ∧ Mach (w.setCell ⟨A, 1, none⟩ (.int .i64 (l : Int))) base A pn l nd G ∧ Below base w (w.setCell ⟨A, 1, none⟩ (.int .i64 (l : Int))) := by
  obtain ⟨g, cap, M, k, cur, hA, hg, h1, h2, h3, h4, h5, h6, h7, h8, h9⟩ := h
  have hAg : g ≠ A := fun e => by rw [e, hA] at hg; cases hg
  have hMA : M ≠ A := fun e => by
    obtain ⟨es, cl, hm⟩ := h5.isMap
    rw [e, hA] at hm; cases hm
  have far : ∀ k, k ≠ A → (w.setCell ⟨A, 1, none⟩ (.int .i64 (l : Int))).heap[k]? = w.heap[k]? := fun k hk => Below.heap_setCell _ _ _ _ hk
  exact ⟨Cells.frozen (w := w) (b := A) hA 1, ⟨g, cap, M, k, cur, Cells.set (w := w) (b := A) hA 1 _, (far g hAg).trans hg, h1, h2, h3, h4, h5.heap (far M hMA), h6, h7, h8, h9⟩, (Below.refl base w).setCell (p := ⟨A, 1, none⟩) h7 _⟩
end Go.Proofs.YtbepbjbbhenphabDoor

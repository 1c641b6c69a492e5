/-
  The document's machine while it is being built: a way, a word, a state more. No walk in this text.
-/
import Derived.Test.YtbepbjbbhenphaaDoorRefLay
namespace Go.Proofs.YtbepbjbbhenphaaDoor
open Go.RowKit
set_option linter.unusedVariables false
variable {w0 w wD w2 : World} {Q : Nat} {pa : Option Addr} {PL PC : Nat} {ws : List (List Nat)} {kids : List (List (Nat × Nat))} {vW vK : Value} {wv kl : List Value}
/-- A block that is neither the row's nor the one that is written is as it was. -/
theorem far_kept {w wD w2 : World} {row : Option Nat} {X : Nat} {i : Nat} {x : Value} (hD : Below w.heap.size w wD) (hg : wD.grownBy w2 row) {k : Nat} (hk : k < w.heap.size) (h1 : some k ≠ row) (h2 : k ≠ X) : (w2.setCell ⟨X, i, none⟩ x).heap[k]? = w.heap[k]? := by
  rw [Below.heap_setCell _ _ _ _ h2, hg.block k (Nat.lt_of_lt_of_le hk hD.size) h1, hD.block k hk]
theorem far_below {w0 w wD w2 : World} {row : Option Nat} {X i : Nat} {x : Value} (hb : Below w0.heap.size w0 w) (hD : Below w.heap.size w wD) (hg : wD.grownBy w2 row) (hr : ∀ g, row = some g → w0.heap.size ≤ g) (hX : w0.heap.size ≤ X) : Below w0.heap.size w0 (w2.setCell ⟨X, i, none⟩ x) := by
  refine hb.trans ⟨hg.os.trans hD.os, hg.tape.trans hD.tape, hg.output.trans hD.output, ?_, fun k hk => far_kept hD hg (Nat.lt_of_lt_of_le hk hb.size) (fun e => by have := hr k e.symm; omega) (by omega)⟩
  have : (w2.setCell ⟨X, i, none⟩ x).heap.size = w2.heap.size := by simp [World.setCell]
  rw [this]; exact Nat.le_trans hD.size hg.size
theorem lt_of_heap {w : World} {k : Nat} {o : Obj} (h : w.heap[k]? = some o) : k < w.heap.size := (Array.getElem?_eq_some_iff.1 h).1
/-- A way more. -/
theorem RB.addKid (h : RB w0 w Q pa PL PC ws kids vW vK wv kl) {s kg KN kc g' c' : Nat} {l : List (Nat × Nat)} {x : Nat × Nat} {v : Value} (hvK : vK = .slice (some ⟨kg, 0, none⟩) KN kc) (hs : kids[s]? = some l) (hv : kl[s]? = some v)
    (hD : Below w.heap.size w wD) (hg : wD.grownBy w2 v.ownBlock) (ho : w2.ownsRow w0.heap.size 65 2 (.slice (some ⟨g', 0, none⟩) (l.length + 1) c') (l.length + 1) (kvs l ++ kv x)) (hat : v.ownBlock = some g' ∨ g' = wD.heap.size) :
    RB w0 (w2.setCell ⟨kg, s, none⟩ (.slice (some ⟨g', 0, none⟩) (l.length + 1) c')) Q pa PL PC ws (kids.set s (l ++ [x])) vW vK wv (kl.set s (.slice (some ⟨g', 0, none⟩) (l.length + 1) c')) := by
  obtain ⟨v1, e1, hvo⟩ := h.klies s l hs
  rw [hv] at e1; cases e1
  have hkg := owns_type h.kown (g := kg) (by rw [hvK]; rfl)
  obtain ⟨hkb, kcur0, hkh0⟩ := hkg
  have hkgv : some kg ≠ v.ownBlock := fun e => by
    obtain ⟨_, cur, hh⟩ := owns_type hvo e.symm
    rw [hh] at hkh0; cases hkh0
  have hsl := at_lt hs
  have hkl : s < kl.length := at_lt hv
  have row : ∀ g, v.ownBlock = some g → w0.heap.size ≤ g := fun g e => (owns_type hvo e).1
  have type_ne : ∀ {k : Nat} {cs : Array Value} {t : TypeId}, w.heap[k]? = some (.cells cs t) → t ≠ 65 → some k ≠ v.ownBlock := fun {k cs t} hk ht e => by
    obtain ⟨_, cur, hh⟩ := owns_type hvo e.symm
    rw [hh] at hk; cases hk; exact ht rfl
  have far : ∀ {k : Nat} {o : Obj}, w.heap[k]? = some o → some k ≠ v.ownBlock → k ≠ kg → (w2.setCell ⟨kg, s, none⟩ (.slice (some ⟨g', 0, none⟩) (l.length + 1) c')).heap[k]? = w.heap[k]? := fun hk h1 h2 => far_kept hD hg (lt_of_heap hk) h1 h2
  have hkg2 : w2.heap[kg]? = w.heap[kg]? := by
    rw [hg.block kg (Nat.lt_of_lt_of_le (lt_of_heap hkh0) hD.size) hkgv, hD.block kg (lt_of_heap hkh0)]
  have hg'kg : g' ≠ kg := fun e => by
    obtain ⟨_, cur, hh⟩ := owns_type ho (g := g') rfl
    rw [e, hkg2, hkh0] at hh; cases hh
  refine ⟨?_, h.qb, ?_, h.wlies, ?_, ?_, ?_, far_below h.bel hD hg row hkb⟩
  · have hq := h.q
    unfold Cells at *
    rw [far hq (type_ne hq (by decide)) (fun e => by rw [e, hkh0] at hq; cases hq)]; exact hq
  · refine owns_keep h.wown fun g e => ?_
    obtain ⟨_, cur, hh⟩ := owns_type h.wown e
    exact far hh (type_ne hh (by decide)) (fun e2 => by rw [e2, hkh0] at hh; cases hh)
  · rw [List.length_set]
    rcases h.kown.2 with ⟨e, _⟩ | ⟨g, c, cur, e, hb, hh, r1, r2, r3, r4⟩
    · rw [hvK] at e; cases e
    · rw [hvK] at e; cases e
      have hset : (w2.setCell ⟨kg, s, none⟩ (.slice (some ⟨g', 0, none⟩) (l.length + 1) c')).heap[kg]? = some (.cells (cur.setIfInBounds s (.slice (some ⟨g', 0, none⟩) (l.length + 1) c')) 63) := Cells.set (w := w2) (b := kg) (cs := cur) (t := 63) (hkg2.trans hh) s _
      refine ⟨by rw [List.length_set]; exact h.kown.1, Or.inr ⟨kg, kc, _, hvK, hb, hset, r1, r2, by rw [Array.size_setIfInBounds]; exact r3, ?_⟩⟩
      rw [← r4, Array.toList_setIfInBounds, List.take_set]
  · intro s' l' hs'
    rw [List.getElem?_set] at hs'
    by_cases e : s = s'
    · rw [if_pos e, if_pos hsl] at hs'
      cases hs'
      refine ⟨_, by rw [List.getElem?_set, if_pos e, if_pos hkl], ?_⟩
      rw [List.length_append, ← kvs_app]
      refine owns_keep ho fun g eg => ?_
      cases eg
      exact Below.heap_setCell _ _ _ _ hg'kg
    · rw [if_neg e] at hs'
      obtain ⟨v2, f1, f2⟩ := h.klies s' l' hs'
      refine ⟨v2, by rw [List.getElem?_set, if_neg e]; exact f1, owns_keep f2 fun g eg => ?_⟩
      obtain ⟨_, cur, hh⟩ := owns_type f2 eg
      exact far hh (fun e3 => h.kdiff s' s v2 v g (fun e4 => e e4.symm) f1 hv eg e3.symm) (fun e2 => by rw [e2, hkh0] at hh; cases hh)
  · intro a b va vb g hne ha hb2 hga
    rw [List.getElem?_set] at ha hb2
    have fresh : ∀ (t : Nat) (vt : Value), t ≠ s → kl[t]? = some vt → vt.ownBlock ≠ some g' := fun t vt ht hvt e => by
      by_cases htl : t < kids.length
      · obtain ⟨v2, f1, f2⟩ := h.klies t kids[t] (List.getElem?_eq_getElem htl)
        rw [hvt] at f1; cases f1
        rcases hat with hat | hat
        · exact h.kdiff t s vt v g' ht hvt hv e hat
        · obtain ⟨_, cur, hh⟩ := owns_type f2 e
          have := lt_of_heap hh
          have := hD.size
          omega
      · have h1 := h.kown.1
        have := at_lt hvt
        rw [Nat.mul_one] at h1
        omega
    by_cases ea : s = a
    · rw [if_pos ea, if_pos hkl] at ha
      cases ha
      cases hga
      rw [if_neg (fun e => hne (ea.symm.trans e))] at hb2
      exact fresh b vb (fun e => hne (ea.symm.trans e.symm)) hb2
    · rw [if_neg ea] at ha
      by_cases eb : s = b
      · rw [if_pos eb, if_pos hkl] at hb2
        cases hb2
        intro e
        cases e
        exact fresh a va (fun e => ea e.symm) ha hga
      · rw [if_neg eb] at hb2
        exact h.kdiff a b va vb g hne ha hb2 hga
/-- A word more. -/
theorem RB.addWord (h : RB w0 w Q pa PL PC ws kids vW vK wv kl) {g' c' ci : Nat} {u : List Nat} {ai : Option Addr} (hlu : Lies w0 ai u) (hci : u.length ≤ ci) (hub : u.length < 140737488355328) (hai : ai = none → u.length = 0 ∧ ci = 0)
    (hD : Below w.heap.size w wD) (hg : wD.grownBy w2 vW.ownBlock) (ho : w2.ownsRow w0.heap.size 36 1 (.slice (some ⟨g', 0, none⟩) (ws.length + 1) c') (ws.length + 1) (wv ++ [.slice ai u.length ci])) :
    RB w0 (w2.setCell ⟨Q, 1, none⟩ (.slice (some ⟨g', 0, none⟩) (ws.length + 1) c')) Q pa PL PC (ws ++ [u]) kids (.slice (some ⟨g', 0, none⟩) (ws.length + 1) c') vK (wv ++ [.slice ai u.length ci]) kl := by
  have hq := h.q
  have row : ∀ g, vW.ownBlock = some g → w0.heap.size ≤ g := fun g e => (owns_type h.wown e).1
  have type_ne : ∀ {k : Nat} {cs : Array Value} {t : TypeId}, w.heap[k]? = some (.cells cs t) → t ≠ 36 → some k ≠ vW.ownBlock := fun {k cs t} hk ht e => by
    obtain ⟨_, cur, hh⟩ := owns_type h.wown e.symm
    rw [hh] at hk; cases hk; exact ht rfl
  have far : ∀ {k : Nat} {cs : Array Value} {t : TypeId}, w.heap[k]? = some (.cells cs t) → t ≠ 36 → t ≠ 40 → (w2.setCell ⟨Q, 1, none⟩ (.slice (some ⟨g', 0, none⟩) (ws.length + 1) c')).heap[k]? = w.heap[k]? := fun {k cs t} hk h1 h2 => far_kept hD hg (lt_of_heap hk) (type_ne hk h1) (fun e => by unfold Cells at hq; rw [e, hq] at hk; cases hk; exact h2 rfl)
  have hq2 : Cells w2 Q #[.slice pa PL PC, vW, vK] 40 := by
    unfold Cells at *
    rw [hg.block Q (Nat.lt_of_lt_of_le (lt_of_heap hq) hD.size) (type_ne hq (by decide)), hD.block Q (lt_of_heap hq)]; exact hq
  have hgQ : g' ≠ Q := fun e => by
    obtain ⟨_, cur, hh⟩ := owns_type ho (g := g') rfl
    unfold Cells at hq2
    rw [e, hq2] at hh; cases hh
  have hwl : wv.length = ws.length := by have := h.wown.1; omega
  refine ⟨hq2.set 1 _, h.qb, ?_, ?_, ?_, ?_, h.kdiff, far_below h.bel hD hg row h.qb⟩
  · rw [List.length_append]
    refine owns_keep ho fun g eg => ?_
    cases eg
    exact Below.heap_setCell _ _ _ _ hgQ
  · intro s x hx
    rcases at_app_iff.1 hx with hx | ⟨rfl, rfl⟩
    · obtain ⟨a1, c1, f1, f2⟩ := h.wlies s x hx
      exact ⟨a1, c1, at_app f1, f2⟩
    · exact ⟨ai, ci, by rw [← hwl]; exact at_new _ _, hlu, hci, hub, hai⟩
  · refine owns_keep h.kown fun g e => ?_
    obtain ⟨_, cur, hh⟩ := owns_type h.kown e
    exact far hh (by decide) (by decide)
  · intro s l hs
    obtain ⟨v, f1, f2⟩ := h.klies s l hs
    refine ⟨v, f1, owns_keep f2 fun g e => ?_⟩
    obtain ⟨_, cur, hh⟩ := owns_type f2 e
    exact far hh (by decide) (by decide)
/-- A state more: it has no ways yet. -/
theorem RB.addRow (h : RB w0 w Q pa PL PC ws kids vW vK wv kl) {g' c' : Nat} (hD : Below w.heap.size w wD) (hg : wD.grownBy w2 vK.ownBlock) (ho : w2.ownsRow w0.heap.size 63 1 (.slice (some ⟨g', 0, none⟩) (kids.length + 1) c') (kids.length + 1) (kl ++ [.slice none 0 0])) :
    RB w0 (w2.setCell ⟨Q, 2, none⟩ (.slice (some ⟨g', 0, none⟩) (kids.length + 1) c')) Q pa PL PC ws (kids ++ [[]]) vW (.slice (some ⟨g', 0, none⟩) (kids.length + 1) c') wv (kl ++ [.slice none 0 0]) := by
  have hq := h.q
  have row : ∀ g, vK.ownBlock = some g → w0.heap.size ≤ g := fun g e => (owns_type h.kown e).1
  have type_ne : ∀ {k : Nat} {cs : Array Value} {t : TypeId}, w.heap[k]? = some (.cells cs t) → t ≠ 63 → some k ≠ vK.ownBlock := fun {k cs t} hk ht e => by
    obtain ⟨_, cur, hh⟩ := owns_type h.kown e.symm
    rw [hh] at hk; cases hk; exact ht rfl
  have far : ∀ {k : Nat} {cs : Array Value} {t : TypeId}, w.heap[k]? = some (.cells cs t) → t ≠ 63 → t ≠ 40 → (w2.setCell ⟨Q, 2, none⟩ (.slice (some ⟨g', 0, none⟩) (kids.length + 1) c')).heap[k]? = w.heap[k]? := fun {k cs t} hk h1 h2 => far_kept hD hg (lt_of_heap hk) (type_ne hk h1) (fun e => by unfold Cells at hq; rw [e, hq] at hk; cases hk; exact h2 rfl)
  have hq2 : Cells w2 Q #[.slice pa PL PC, vW, vK] 40 := by
    unfold Cells at *
    rw [hg.block Q (Nat.lt_of_lt_of_le (lt_of_heap hq) hD.size) (type_ne hq (by decide)), hD.block Q (lt_of_heap hq)]; exact hq
  have hgQ : g' ≠ Q := fun e => by
    obtain ⟨_, cur, hh⟩ := owns_type ho (g := g') rfl
    unfold Cells at hq2
    rw [e, hq2] at hh; cases hh
  have hkl : kl.length = kids.length := by have := h.kown.1; omega
  refine ⟨hq2.set 2 _, h.qb, ?_, h.wlies, ?_, ?_, ?_, far_below h.bel hD hg row h.qb⟩
  · refine owns_keep h.wown fun g e => ?_
    obtain ⟨_, cur, hh⟩ := owns_type h.wown e
    exact far hh (by decide) (by decide)
  · rw [List.length_append]
    refine owns_keep ho fun g eg => ?_
    cases eg
    exact Below.heap_setCell _ _ _ _ hgQ
  · intro s l hs
    rcases at_app_iff.1 hs with hs | ⟨rfl, rfl⟩
    · obtain ⟨v, f1, f2⟩ := h.klies s l hs
      refine ⟨v, at_app f1, owns_keep f2 fun g e => ?_⟩
      obtain ⟨_, cur, hh⟩ := owns_type f2 e
      exact far hh (by decide) (by decide)
    · exact ⟨.slice none 0 0, by rw [← hkl]; exact at_new _ _, ⟨rfl, Or.inl ⟨rfl, rfl⟩⟩⟩
  · intro a b va vb g hne ha hb hga
    rcases at_app_iff.1 ha with ha | ⟨_, rfl⟩
    · rcases at_app_iff.1 hb with hb | ⟨_, rfl⟩
      · exact h.kdiff a b va vb g hne ha hb hga
      · intro e; cases e
    · cases hga
end Go.Proofs.YtbepbjbbhenphaaDoor

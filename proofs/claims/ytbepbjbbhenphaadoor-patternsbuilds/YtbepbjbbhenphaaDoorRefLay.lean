/-
  The document's machine while it is being built: what lies in memory, and how a way, a word, a state are added. No walk in this text.
-/
import Derived.Test.YtbepbjbbhenphaaDoorRefAsk
namespace Go.Proofs.YtbepbjbbhenphaaDoor
open Go.RowKit
set_option linter.unusedVariables false
/-- A way's cells. -/
def kv (x : Nat × Nat) : List Value := [.int .u8 (x.1 : Int), .int .i64 (x.2 : Int)]
def kvs (l : List (Nat × Nat)) : List Value := l.flatMap kv
theorem kvs_len : ∀ l : List (Nat × Nat), (kvs l).length = l.length * 2
  | [] => rfl
  | h :: t => by
    have := kvs_len t
    simp only [kvs, List.flatMap_cons, List.length_append, List.length_cons] at *
    show 2 + _ = _
    omega
theorem kvs_app (l : List (Nat × Nat)) (h : Nat × Nat) : kvs l ++ kv h = kvs (l ++ [h]) := by simp [kvs]
theorem kv_one (h : Nat × Nat) : ∀ u ∈ kv h, u.oneCell' = true := by
  intro u hu
  simp [kv] at hu
  rcases hu with rfl | rfl <;> rfl
theorem kvs_at : ∀ (l : List (Nat × Nat)) (i j : Nat) (h : Nat × Nat), l[i]? = some h → j < 2 → (kvs l)[i * 2 + j]? = (kv h)[j]?
  | [], i, j, h, e, _ => by simp at e
  | x :: t, 0, j, h, e, hj => by
    have e : x = h := by simpa using e
    subst e
    simp only [kvs, List.flatMap_cons]
    rw [List.getElem?_append_left (by show _ < 2; omega)]
    congr 1; omega
  | x :: t, i + 1, j, h, e, hj => by
    have := kvs_at t i j h (by simpa using e) hj
    simp only [kvs, List.flatMap_cons] at *
    rw [List.getElem?_append_right (by show 2 ≤ _; omega), show (i + 1) * 2 + j - (kv x).length = i * 2 + j by show _ - 2 = _; omega]
    exact this
/-- A row that is owned lies in a block of its element's type. -/
theorem owns_type {w : World} {B e k n : Nat} {v : Value} {xs : List Value} (h : w.ownsRow B e k v n xs) {g : Nat} (hg : v.ownBlock = some g) : B ≤ g ∧ ∃ cur, w.heap[g]? = some (.cells cur e) := by
  rcases h.2 with ⟨hv, _⟩ | ⟨g', c, cur, hv, hb, hh, _⟩
  · rw [hv] at hg; cases hg
  · rw [hv] at hg; cases hg; exact ⟨hb, cur, hh⟩
theorem owns_keep {w u : World} {B e k n : Nat} {v : Value} {xs : List Value} (h : w.ownsRow B e k v n xs) (hk : ∀ g, v.ownBlock = some g → u.heap[g]? = w.heap[g]?) : u.ownsRow B e k v n xs := by
  rcases h.2 with ⟨hv, h0⟩ | ⟨g, c, cur, hv, hb, hh, r⟩
  · exact ⟨h.1, Or.inl ⟨hv, h0⟩⟩
  · exact ⟨h.1, Or.inr ⟨g, c, cur, hv, hb, (hk g (by rw [hv]; rfl)).trans hh, r⟩⟩
/-- The machine while it is built, w0: the world ahead of it. -/
structure RB (w0 w : World) (Q : Nat) (pa : Option Addr) (PL PC : Nat) (ws : List (List Nat)) (kids : List (List (Nat × Nat))) (vW vK : Value) (wv kl : List Value) : Prop where
  q : Cells w Q #[.slice pa PL PC, vW, vK] 40
  qb : w0.heap.size ≤ Q
  wown : w.ownsRow w0.heap.size 36 1 vW ws.length wv
  wlies : ∀ (s : Nat) (u : List Nat), ws[s]? = some u → ∃ (ai : Option Addr) (ci : Nat), wv[s]? = some (.slice ai u.length ci) ∧ Lies w0 ai u ∧ u.length ≤ ci ∧ u.length < 140737488355328 ∧ (ai = none → u.length = 0 ∧ ci = 0)
  kown : w.ownsRow w0.heap.size 63 1 vK kids.length kl
  klies : ∀ (s : Nat) (l : List (Nat × Nat)), kids[s]? = some l → ∃ v, kl[s]? = some v ∧ w.ownsRow w0.heap.size 65 2 v l.length (kvs l)
  kdiff : ∀ (s s' : Nat) (v v' : Value) (g : Nat), s ≠ s' → kl[s]? = some v → kl[s']? = some v' → v.ownBlock = some g → v'.ownBlock ≠ some g
  bel : Below w0.heap.size w0 w
theorem RB.rm {w0 w : World} {Q : Nat} {pa : Option Addr} {PL PC N : Nat} {ws : List (List Nat)} {kids : List (List (Nat × Nat))} {vW vK : Value} {wv kl : List Value} (h : RB w0 w Q pa PL PC ws kids vW vK wv kl) (hN : ws.length = N) (hK : kids.length = N) (ht : Tri ws) (hfew : ∀ l ∈ kids, l.length < 1048576)
    (hkin : ∀ (s : Nat) (u : List Nat) (l : List (Nat × Nat)), ws[s]? = some u → kids[s]? = some l → ∀ b, (∀ t : Nat, ws[t]? = some (u ++ [b]) → kidOf l b = (t : Int)) ∧ (u ++ [b] ∉ ws → kidOf l b = -1)) : Rm w Q N pa PL PC ws kids := by
  have cq := fun i => Cells.cell h.q i
  have hpos := ht.pos
  rcases h.wown.2 with ⟨_, h0⟩ | ⟨wg, wc, wcur, hvW, hwb, hwh, hwc, _, _, hwt⟩
  · omega
  rcases h.kown.2 with ⟨_, h0⟩ | ⟨kg, kc, kcur, hvK, hkb, hkh, hkc, _, _, hkt⟩
  · omega
  refine ⟨⟨some ⟨wg, 0, none⟩, wc, some ⟨kg, 0, none⟩, kc, cq 0, by rw [cq 1, hvW, hN]; rfl, by rw [cq 2, hvK, hK]; rfl, Or.inr ⟨wg, 0, rfl, fun s u hs => ?_⟩, Or.inr ⟨kg, 0, rfl, fun s l hs => ?_⟩⟩, hN, hK, ht, hkin⟩
  · obtain ⟨ai, ci, e1, e2, e3, e4, e5⟩ := h.wlies s u hs
    refine ⟨ai, ci, ?_, e2.below h.bel, e3, e4, e5⟩
    rw [Nat.zero_add, Cells.cell (cs := wcur) (t := 36) hwh]
    have := at_lt hs
    rw [← hwt, List.getElem?_take, if_pos (by omega)] at e1
    simpa using e1
  · obtain ⟨v, e1, e2⟩ := h.klies s l hs
    have hl := hfew l (List.mem_of_getElem? hs)
    have hsl := at_lt hs
    have ec : w.cell? ⟨kg, 0 + s, none⟩ = some v := by
      rw [Nat.zero_add, Cells.cell (cs := kcur) (t := 63) hkh]
      rw [← hkt, List.getElem?_take, if_pos (by omega)] at e1
      simpa using e1
    rcases e2.2 with ⟨hv, h0⟩ | ⟨g, c, cur, hv, hb, hh, hc, _, _, ht2⟩
    · exact ⟨none, 0, by rw [ec, hv, h0], Or.inl (List.eq_nil_of_length_eq_zero h0), hl⟩
    · refine ⟨some ⟨g, 0, none⟩, c, by rw [ec, hv], Or.inr ⟨g, 0, rfl, fun i x hx => ?_⟩, hl⟩
      have hil := at_lt hx
      have each : ∀ j, j < 2 → w.cell? ⟨g, 0 + i * 2 + j, none⟩ = (kv x)[j]? := by
        intro j hj
        rw [Cells.cell (cs := cur) (t := 65) hh, ← kvs_at l i j x hx hj, ← ht2, List.getElem?_take, if_pos (by omega)]
        simp
      exact ⟨each 0 (by decide), each 1 (by decide)⟩
end Go.Proofs.YtbepbjbbhenphaaDoor

/-
  The sums of a block in which one byte is another one; a copy of a list in a block of the call's own; how a slice of bytes whose places are counted is opened.
-/
import Derived.Test.YtmaojldkadpheaaZeros
import Derived.Test.YtmaojldkadpheaaSumsB
namespace Go.Proofs.Ytmaojldkadpheaa
open Go.ChangeShapes Go.WideShapes Go.ChangeAt Go.RowKit
set_option linter.unusedVariables false
theorem val_set_in {c : List Nat} {k y i : Nat} (h : 148 ≤ k ∧ k < 156) : val (c.set k y) i = val c i := by
  unfold val
  split
  · rfl
  · rename_i h2
    have hne : k ≠ i := by omega
    rw [List.getD_eq_getElem?_getD, List.getD_eq_getElem?_getD, List.getElem?_set, if_neg hne]
theorem val_set_ne {c : List Nat} {k y i : Nat} (h : k ≠ i) : val (c.set k y) i = val c i := by
  unfold val
  rw [List.getD_eq_getElem?_getD, List.getD_eq_getElem?_getD, List.getElem?_set, if_neg h]
theorem sums_in {c : List Nat} {k y : Nat} (h : 148 ≤ k ∧ k < 156) : ∀ m, pl (c.set k y) m = pl c m ∧ sn (c.set k y) m = sn c m
  | 0 => ⟨rfl, rfl⟩
  | m + 1 => by
    have := sums_in (c := c) (y := y) h m
    rw [pl, pl, sn, sn, this.1, this.2, val_set_in h]; exact ⟨rfl, rfl⟩
theorem sums_out {c : List Nat} {k x y : Nat} (h : k < 148 ∨ 156 ≤ k) (hx : c[k]? = some x) : ∀ m, pl (c.set k y) m = pl c m + (if k < m then (y : Int) - x else 0) ∧ sn (c.set k y) m = sn c m + (if k < m then sg y - sg x else 0)
  | 0 => by rw [if_neg (by omega), if_neg (by omega)]; exact ⟨rfl, rfl⟩
  | m + 1 => by
    have ih := sums_out (y := y) h hx m
    rw [pl, pl, sn, sn, ih.1, ih.2]
    by_cases hk : k = m
    · subst hk
      have hlt : k < c.length := (List.getElem?_eq_some_iff.1 hx).1
      have e1 : val (c.set k y) k = y := val_out h (by rw [List.getElem?_set, if_pos rfl, if_pos hlt])
      have e2 : val c k = x := val_out h hx
      rw [e1, e2, if_neg (Nat.lt_irrefl k), if_neg (Nat.lt_irrefl k), if_pos (Nat.lt_succ_self k), if_pos (Nat.lt_succ_self k)]
      omega
    · rw [val_set_ne hk]
      by_cases h2 : k < m
      · rw [if_pos h2, if_pos h2, if_pos (by omega), if_pos (by omega)]; omega
      · rw [if_neg h2, if_neg h2, if_neg (by omega), if_neg (by omega)]; omega
/-- A byte as a number that may be below 0 is it but for 256. -/
theorem sg_mod (x : Nat) : ∃ q : Int, sg x = (x : Int) - 256 * q := by
  unfold sg; split
  · exact ⟨1, by omega⟩
  · exact ⟨0, by omega⟩
theorem turned_mod {p s p' s' : Int} {x y : Nat} (h1 : p' = p + ((y : Int) - x)) (h2 : s' = s + (sg y - sg x)) : (p - p' - s + s').tmod 256 = 0 := by
  obtain ⟨a, ha⟩ := sg_mod x
  obtain ⟨b, hb⟩ := sg_mod y
  have e : p - p' - s + s' = 256 * (a - b) := by rw [h1, h2, ha, hb]; omega
  rw [e]
  exact Int.mul_tmod_right ..
theorem byte_add (x z : Nat) (hx : x < 256) (hz : z < 256) : (x + z) % 256 = x ↔ z = 0 := by omega
/-- The copy: block G holds the bytes cs first. -/
structure Cp (w u : World) (G L : Nat) (cs : List Nat) : Prop where
  bel : Below w.heap.size w u
  ge : w.heap.size ≤ G
  row : ∃ cur, Cells u G cur 5 ∧ L ≤ cur.size ∧ ∀ (i x : Nat), cs[i]? = some x → cur[i]? = some (.int .u8 (x : Int))
  len : cs.length = L
  oct : Oct cs
theorem Cp.cell {w u : World} {G L : Nat} {cs : List Nat} (h : Cp w u G L cs) {i x : Nat} (hx : cs[i]? = some x) : u.cell? ⟨G, i, none⟩ = some (.int .u8 (x : Int)) ∧ u.frozen? ⟨G, i, none⟩ = false := by
  obtain ⟨cur, hc, _, hr⟩ := h.row
  exact ⟨by rw [hc.cell]; exact hr i x hx, hc.frozen i⟩
theorem Cp.lies {w u : World} {G L : Nat} {cs : List Nat} (h : Cp w u G L cs) : Lies u (some ⟨G, 0, none⟩) cs := Or.inr ⟨G, 0, rfl, fun i x hx => by rw [Nat.zero_add]; exact (h.cell hx).1⟩
theorem Cp.set {w u : World} {G L : Nat} {cs : List Nat} (h : Cp w u G L cs) (j y : Nat) (hj : j < L) (hy : y < 256) : Cp w (u.setCell ⟨G, j, none⟩ (.int .u8 (y : Int))) G L (cs.set j y) := by
  obtain ⟨cur, hc, hl, hr⟩ := h.row
  refine ⟨h.bel.setCell (p := ⟨G, j, none⟩) h.ge _, h.ge, ⟨_, hc.set j _, by simpa using hl, fun i x hx => ?_⟩, by rw [List.length_set]; exact h.len, fun x hx => ?_⟩
  · rw [List.getElem?_set] at hx
    rw [Array.getElem?_setIfInBounds]
    by_cases e : j = i
    · subst e
      rw [if_pos rfl, if_pos (by rw [h.len]; exact hj)] at hx
      rw [if_pos rfl, if_pos (by omega)]
      cases hx; rfl
    · rw [if_neg e] at hx ⊢
      exact hr i x hx
  · rcases List.mem_or_eq_of_mem_set hx with h1 | h1
    · exact h.oct x h1
    · rw [h1]; exact hy
theorem Cp.of_apd {w u : World} {v : Value} {l : List Nat} (h : Apd w u w.heap.size v l) (h0 : l.length ≠ 0) (ol : Oct l) : ∃ G c, v = .slice (some ⟨G, 0, none⟩) l.length c ∧ l.length ≤ c ∧ c ≤ maxLen ∧ Cp w u G l.length l := by
  rcases h.own.2 with ⟨hv, hn⟩ | ⟨g, c, cur, hv, hg, hh, hc, hm, hs, ht⟩
  · exact absurd hn h0
  · refine ⟨g, c, hv, hc, hm, h.bel, hg, ⟨cur, hh, by omega, fun i x hx => ?_⟩, rfl, ol⟩
    have hi : i < l.length := by
      obtain ⟨hi, _⟩ := List.getElem?_eq_some_iff.1 hx
      exact hi
    have e : (cur.toList.take (l.length * 1))[i]? = some (.int .u8 (x : Int)) := by rw [ht, vn_get, hx]; rfl
    rw [List.getElem?_take, if_pos (by omega)] at e
    simpa using e

section
variable {H : Type} {enc : TypeId × Value → H} {P : Program} {w : World} {held : Bool}
theorem open_reach {t e : TypeId} {b0 : Nat} {r : Reach} {v : Value} {d : DataW H} {p : List MemPlace} (ht : P.underlying t = some (.slice e)) (he : P.underlying e = some (.int .u8)) (hc : P.cellsOf e = 1) (hbe : P.bytesOf e = 1)
    (hv : Value.okWide P w r b0 t v) (h : DataW.Trod enc P w 0 (fun _ => true) held t v d p)
    (hz : ∀ elems spare, d = .slice elems spare → (elems.length + spare.length) * P.bytesOf e ≤ reachBytes) :
    ∃ (a : Option Addr) (l : List Nat) (cap : Nat), v = .slice a l.length cap ∧ l.length ≤ cap ∧ cap ≤ 140737488351232 ∧ Oct l ∧ Came w a l ∧ (a = none → l.length = 0 ∧ cap = 0) := by
  obtain ⟨a, len, cap, X, rfl, hl, hm, hr, hn⟩ := open_bytes ht he hc hv h
  obtain ⟨l, rfl, ho, hb⟩ := came_of_row hr
  refine ⟨a, l, cap, rfl, hl, ?_, ho, hb, hn⟩
  obtain ⟨fuel, hf⟩ := h
  rcases Deep.open_slice1 ht hc hf with ⟨hcs, _⟩ | ⟨a', len', cap', m, n, V, D, Pl, hcs, _, hl, hm, hmm, hxe, hx⟩
  · simp [Value.cells] at hcs
    omega
  · simp [Value.cells] at hcs
    obtain ⟨rfl, h2, rfl⟩ := hcs
    have := hz _ _ (Prod.mk.inj hxe).1
    simp only [if_true] at hmm
    subst hmm
    rw [hbe] at this
    simp only [List.length_map, List.length_range] at this
    have h3 : reachBytes = 140737488351232 := rfl
    omega
end
end Go.Proofs.Ytmaojldkadpheaa

/-
  The document's answer in memory, told by where the machine stands: how it is read, what keeps it.
-/
import Derived.Test.YtikdpnpkmmmacaaDoorPTim
import Derived.Test.YtikdpnpkmmmacaaDoorMs
namespace Go.Proofs.YtikdpnpkmmmacaaDoor
open Go.RowKit
set_option linter.unusedVariables false
theorem Rn.keep {w u : World} {base Q L C m : Nat} {a : Option Addr} {s : Rs} {vO vT : Value} (h : Rn w base Q a L C m s vO vT) (k : ∀ g, base ≤ g → g < w.heap.size → u.heap[g]? = w.heap[g]?) : Rn u base Q a L C m s vO vT := by
  refine ⟨?_, ⟨h.oo.1, ?_⟩, ⟨h.ot.1, ?_⟩, h.rb, h.tl⟩
  · obtain ⟨f, hc⟩ := h.cells
    refine ⟨f, ?_⟩
    have := hc.lt
    unfold Cells at *
    rw [k Q h.rb this]; exact hc
  · rcases h.oo.2 with q | ⟨g, c, cur, hv, hg, hh, q⟩
    · exact Or.inl q
    · exact Or.inr ⟨g, c, cur, hv, hg, (k g hg (Array.getElem?_eq_some_iff.1 hh).1).trans hh, q⟩
  · rcases h.ot.2 with q | ⟨g, c, cur, hv, hg, hh, q⟩
    · exact Or.inl q
    · exact Or.inr ⟨g, c, cur, hv, hg, (k g hg (Array.getElem?_eq_some_iff.1 hh).1).trans hh, q⟩
theorem Rn.times_shape {w : World} {base Q L C m : Nat} {a : Option Addr} {s : Rs} {vO vT : Value} (h : Rn w base Q a L C m s vO vT) : ∃ ta tc, vT = .slice ta s.times.length tc ∧ Lens w ta (iz s.times) := by
  rcases h.ot.2 with ⟨hv, h0⟩ | ⟨g, c, cur, hv, hg, hh, hc, hm, hs, ht⟩
  · exact ⟨none, 0, by rw [hv, h0], Or.inl (by rw [List.eq_nil_of_length_eq_zero h0]; rfl)⟩
  · refine ⟨_, c, hv, Or.inr ⟨g, 0, rfl, fun i x hx => ?_⟩⟩
    rw [Nat.zero_add, Cells.cell (cs := cur) (t := 3) hh]
    have hi : i < s.times.length := by have := (List.getElem?_eq_some_iff.1 hx).1; rw [iz_len] at this; exact this
    unfold iz at hx
    rw [List.getElem?_map, Option.map_eq_some_iff] at hx
    obtain ⟨y, hy, rfl⟩ := hx
    have e : (cur.toList.take (s.times.length * 1))[i]? = some (.int .i64 (y : Int)) := by
      rw [ht]
      unfold vt
      rw [List.getElem?_map, hy]; rfl
    rw [List.getElem?_take, if_pos (by omega)] at e
    simpa using e
theorem Rn.out_shape {w : World} {base Q L C m : Nat} {a : Option Addr} {s : Rs} {vO vT : Value} (h : Rn w base Q a L C m s vO vT) : ∃ oa oc, vO = .slice oa s.out.length oc ∧ Lies w oa s.out := by
  have hob : Ob w 0 vO s.out := ⟨⟨h.oo.1, by
    rcases h.oo.2 with q | ⟨g, c, cur, hv, hg, q⟩
    · exact Or.inl q
    · exact Or.inr ⟨g, c, cur, hv, Nat.zero_le _, q⟩⟩, Nat.zero_le _⟩
  obtain ⟨oa, oc, h1, _, h2, _⟩ := hob.shape
  exact ⟨oa, oc, h1, h2⟩
/-- The document's run in block Q, all of it from base on: it tells where the machine stands. -/
structure Rz (w : World) (base Q : Nat) (a : Option Addr) (L C : Nat) (z : Cfg) (oa : Option Addr) (oc : Nat) (ta : Option Addr) (tc : Nat) : Prop where
  rn : ∃ m s, Rn w base Q a L C m s (.slice oa z.out.length oc) (.slice ta z.times.length tc) ∧ s.out = z.out ∧ s.times = z.times ∧ s.why = whyC z ∧ s.at_ = atC L z ∧ s.ended = endC z
section
variable {w u : World} {base Q L C : Nat} {a oa ta : Option Addr} {oc tc : Nat} {z : Cfg}
theorem Rz.of {m : Nat} {s : Rs} {vO vT : Value} (h : Rn w base Q a L C m s vO vT) (h1 : s.out = z.out) (h2 : s.times = z.times) (h3 : s.why = whyC z) (h4 : s.at_ = atC L z) (h5 : s.ended = endC z) : ∃ oa oc ta tc, vO = .slice oa z.out.length oc ∧ vT = .slice ta z.times.length tc ∧ Rz w base Q a L C z oa oc ta tc := by
  obtain ⟨oa, oc, e1, _⟩ := h.out_shape
  obtain ⟨ta, tc, e2, _⟩ := h.times_shape
  rw [h1] at e1
  rw [h2] at e2
  subst e1 e2
  exact ⟨oa, oc, ta, tc, rfl, rfl, ⟨m, s, h, h1, h2, h3, h4, h5⟩⟩
theorem Rz.keep (h : Rz w base Q a L C z oa oc ta tc) (k : ∀ g, base ≤ g → g < w.heap.size → u.heap[g]? = w.heap[g]?) : Rz u base Q a L C z oa oc ta tc := by
  obtain ⟨m, s, h1, h2⟩ := h.rn
  exact ⟨m, s, h1.keep k, h2⟩
theorem Rz.fm {B : Nat} (h : Rz w base Q a L C z oa oc ta tc) (k : Fm B w u) (hb : B + 4 ≤ base) : Rz u base Q a L C z oa oc ta tc := h.keep fun g h1 h2 => k.block g h2 (Or.inr (by omega))
theorem Rz.below {D : Nat} (h : Rz w base Q a L C z oa oc ta tc) (k : Below D w u) (hD : w.heap.size ≤ D) : Rz u base Q a L C z oa oc ta tc := h.keep fun g h1 h2 => k.block g (by omega)
theorem Rz.drewN (h : Rz w base Q a L C z oa oc ta tc) (n : Nat) : Rz (w.drewN n) base Q a L C z oa oc ta tc := h.keep fun _ _ _ => rfl
theorem Rz.drew (h : Rz w base Q a L C z oa oc ta tc) : Rz w.drew base Q a L C z oa oc ta tc := h.keep fun _ _ _ => rfl
theorem Rz.c2 (h : Rz w base Q a L C z oa oc ta tc) : w.cell? ⟨Q, 2, none⟩ = some (.slice oa z.out.length oc) := by obtain ⟨m, s, h1, _⟩ := h.rn; exact h1.c2
theorem Rz.c3 (h : Rz w base Q a L C z oa oc ta tc) : w.cell? ⟨Q, 3, none⟩ = some (.slice ta z.times.length tc) := by obtain ⟨m, s, h1, _⟩ := h.rn; exact h1.c3
theorem Rz.c4 (h : Rz w base Q a L C z oa oc ta tc) : w.cell? ⟨Q, 4, none⟩ = some (.int .i64 (whyC z : Nat)) := by obtain ⟨m, s, h1, _, _, e, _⟩ := h.rn; rw [← e]; exact h1.c4
theorem Rz.c5 (h : Rz w base Q a L C z oa oc ta tc) : w.cell? ⟨Q, 5, none⟩ = some (.int .i64 (atC L z : Nat)) := by obtain ⟨m, s, h1, _, _, _, e, _⟩ := h.rn; rw [← e]; exact h1.c5
theorem Rz.c6 (h : Rz w base Q a L C z oa oc ta tc) : w.cell? ⟨Q, 6, none⟩ = some (.bool (endC z)) := by obtain ⟨m, s, h1, _, _, _, _, e⟩ := h.rn; rw [← e]; exact h1.c6
theorem Rz.lies (h : Rz w base Q a L C z oa oc ta tc) : Lies w oa z.out := by
  obtain ⟨m, s, h1, e, _⟩ := h.rn
  obtain ⟨oa', oc', e2, hl⟩ := h1.out_shape
  simp only [Value.slice.injEq] at e2
  obtain ⟨rfl, _, _⟩ := e2
  rw [← e]; exact hl
theorem Rz.lens (h : Rz w base Q a L C z oa oc ta tc) : Lens w ta (iz z.times) := by
  obtain ⟨m, s, h1, _, e, _⟩ := h.rn
  obtain ⟨ta', tc', e2, hl⟩ := h1.times_shape
  simp only [Value.slice.injEq] at e2
  obtain ⟨rfl, _, _⟩ := e2
  rw [← e]; exact hl
end
end Go.Proofs.YtikdpnpkmmmacaaDoor

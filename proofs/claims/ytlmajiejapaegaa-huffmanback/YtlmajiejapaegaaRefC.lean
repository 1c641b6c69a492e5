/-
  What Put of the document's own reader comes to.
  Conditions: the list has at most 64 bits; the byte is one.
-/
import Derived.Test.YtlmajiejapaegaaRefB
import Derived.Deep.RegionLaw
namespace Go.Proofs.Ytlmajiejapaegaa
open Go.RowKit
theorem rput_no (C base : Nat) (v : Value) (l : List Bool) (x : Nat) (w : World) (h : Rf w C base v l) (hl : 56 < l.length) :
    Calls Try.prog 21 #[.pointer (some ⟨C, 0, none⟩), .int .u8 x] w fun e w' => e = .returned (.bool false) ∧ w = w' := by
  obtain ⟨a, cap, hv⟩ : ∃ a cap, v = .slice a l.length cap := by
    rcases h.form with ⟨rfl, rfl⟩ | ⟨g, cap, hv, _⟩
    · exact ⟨_, _, rfl⟩
    · exact ⟨_, _, hv⟩
  subst hv
  have hc := h.cell
  have hi : (56 : Int) < (l.length : Int) := by omega
  go_enter Try.func21, Try.ntmps21
  go_wp2
  go_ret
  exact ⟨rfl, rfl⟩

set_option maxRecDepth 100000 in
set_option maxHeartbeats 3200000 in
theorem rput_yes (C base : Nat) (v : Value) (l : List Bool) (x : Nat) (w : World) (h : Rf w C base v l) (hl : l.length ≤ 56) (hx : x < 256) :
    Calls Try.prog 21 #[.pointer (some ⟨C, 0, none⟩), .int .u8 x] w fun e w' => e = .returned (.bool true) ∧ (∃ v', Rf w' C base v' (l ++ bitsOf 8 x)) ∧ Grew C v.ownBlock w w' := by
  obtain ⟨i0, hi0, hz0, hz1, hz2⟩ := info_parts info4
  obtain ⟨a, cap, hv⟩ : ∃ a cap, v = .slice a l.length cap := by
    rcases h.form with ⟨rfl, rfl⟩ | ⟨g, cap, hv, _⟩
    · exact ⟨_, _, rfl⟩
    · exact ⟨_, _, hv⟩
  have hc := h.cell
  have hf := h.fz
  have hlt := h.lt
  have hle := h.le
  have hown := h.own
  have hrow : ∀ k, v.ownBlock = some k → base ≤ k := fun k hk => (hown.lt k hk).1
  have hCw : C < w.heap.size := by omega
  have hne : some C ≠ v.ownBlock := fun e => by have := hrow C e.symm; omega
  have hi : ¬ (56 : Int) < (l.length : Int) := by omega
  have AR : Aside (∀ (w1 w2 : World) (v' : Value), Below w.heap.size w w1 → w1.grownBy w2 v.ownBlock → w2.ownsRow base 4 1 v' (l.length + 8) (vb l ++ vb (bitsOf 8 x)) → Rf (w2.setCell ⟨C, 0, none⟩ v') C base v' (l ++ bitsOf 8 x) ∧ Grew C v.ownBlock w (w2.setCell ⟨C, 0, none⟩ v')) := by
    intro w1 w2 v' hb hg ho
    refine rf_store hc hf hlt hle (grown_trans (grown_of_below hb _) hg) hrow ?_
    rw [List.length_append, bitsOf_length, vb, List.map_append]
    exact ho
  have AO : Aside (w.ownsRow base 4 1 v l.length (vb l)) := hown
  have AW : Aside (∀ k, v.ownBlock = some k → base ≤ k) := hrow
  clear h hown hrow
  subst hv
  generalize hn : l.length = n at *
  have hn56 : n ≤ 56 := by omega
  clear hn
  go_enter Try.func21, Try.ntmps21
  go_wp2_with fail
  go_region_law ((first
      | (refine step_append_lies _ (by rfl) _ _ _ (by rfl) base 4 i0 (.bool false) 1 1 Try.underlying42 hi0 hz0 hz1 hz2 rfl (by decide) _ n (vb l) (by rfl) (own_below (w := w.drew) AO.out hb8) ⟨g8, 0, none⟩ 8 cap8 (vb (bitsOf 8 x)) (by rfl) (by simp [vb, bitsOf]) (ho8.cells (by rfl)) vb_one (by decide) (by unfold maxLen; omega) (by omega) (by have := hb8.size; simp at this; omega) _ rfl ?_; intro gg cap' w2 hown2 hgrow hat hlt2; have hf2 := (hgrow.frozen_far ⟨C, 0, none⟩ (Nat.lt_of_lt_of_le hCw hb8.size) hne).trans ((hb8.frozen (p := ⟨C, 0, none⟩) hCw).trans hf); have hc2 := (hgrow.cell_far ⟨C, 0, none⟩ (Nat.lt_of_lt_of_le hCw hb8.size) hne).trans hc1)
      | (go_simp; go_at_call 31; refine (bits_c x hx _).mono ?_; rintro e w1 ⟨v8, rfl, ho8, hb8⟩; obtain ⟨g8, cap8, rfl, hg8, hg8'⟩ := ho8.form (by decide); have hc1 := (hb8.cell (p := ⟨C, 0, none⟩) hCw).trans hc; dsimp only)))
  all_goals
    have R := AR.out w1 w2 _ ⟨hb8.os, hb8.tape, hb8.output, hb8.size, hb8.block⟩ hgrow hown2
    have AR2 : Aside (_ ∧ _) := R
    clear R AR AO AW hown2 hgrow ho8 hb8 hat hlt2 hg8 hg8' hf2 hc2 hc1 hne
    go_wp2_with fail
    go_ret
    exact ⟨rfl, ⟨_, AR2.out.1⟩, AR2.out.2⟩
end Go.Proofs.Ytlmajiejapaegaa

/-
  What the document's Read comes to.
  Conditions: the table lies in memory; the reader's list is the call's own, of at most 64 bits; the lengths make codes.
-/
import Derived.Test.YtlmajiejapaegaaRAsk
import Derived.Test.YtlmajiejapaegaaRefC
namespace Go.Proofs.Ytlmajiejapaegaa
open Go.RowKit
set_option linter.unusedVariables false
theorem Rf.drawn {w u : World} {C base : Nat} {v : Value} {l : List Bool} (h : Rf w C base v l) (k : Drawn w u) : Rf u C base v l := by
  obtain ⟨n, rfl⟩ := k
  exact ⟨h.cell, h.fz, h.own, h.lt, h.le⟩
theorem Grew.drawn {C : Nat} {row : Option Nat} {w u w' : World} (h : Grew C row u w') (k : Drawn w u) : Grew C row w w' := by
  obtain ⟨n, rfl⟩ := k
  exact ⟨h.os, h.tape, h.output, h.size, h.block⟩
theorem Rf.lb {w : World} {C base : Nat} {v : Value} {l : List Bool} (h : Rf w C base v l) : ∃ a c, v = .slice a l.length c ∧ Lb w a l := by
  rcases h.form with ⟨rfl, rfl⟩ | ⟨g, cap, rfl, _, _, _, _, hc⟩
  · exact ⟨none, 0, rfl, Or.inl rfl⟩
  · refine ⟨_, cap, rfl, Or.inr ⟨g, 0, rfl, fun i x hx => ?_⟩⟩
    obtain ⟨hi, e⟩ := List.getElem?_eq_some_iff.1 hx
    rw [Nat.zero_add, hc i hi, e]
theorem add_off (g o j : Nat) : (⟨g, o, none⟩ : Addr).add j = ⟨g, o + j, none⟩ := by unfold Addr.add; split <;> simp_all
theorem Told.le {ls : List Nat} {h : List Bool} {s how k : Nat} (t : Told ls h s how k) : k ≤ h.length := by
  rcases t with ⟨h1, _⟩ | ⟨_, _, _, _, rfl⟩ | ⟨_, _, _, _, rfl⟩
  · exact h1.2.2.1
  · omega
  · omega
set_option maxRecDepth 100000 in
set_option maxHeartbeats 4000000 in
theorem rread_c (T : Nat) (ls : List Nat) (L s how k C base : Nat) (v : Value) (l : List Bool) (w : World) (ht : Tb w T ls) (hL : ls.length = L) (hLb : L ≤ 320) (hpk : part ls 15 ≤ 32768) (h15 : ∀ x ∈ ls, x ≤ 15) (h : Rf w C base v l) (hl : l.length ≤ 64) (hr : Told ls l s how k) :
    Calls Try.prog 18 #[.pointer (some ⟨T, 0, none⟩), .pointer (some ⟨C, 0, none⟩)] w fun e w' => e = .returned (.tuple #[.int .i64 (s : Int), .int .i64 (how : Int)]) ∧ (∃ v', Rf w' C base v' (l.drop k)) ∧ Grew C none w w' := by
  obtain ⟨i0, hi, hz0, hz1, hz2⟩ := info_parts info4
  obtain ⟨a, c, hv, hlb⟩ := h.lb
  have hkn := hr.le
  have hlook := rlook_c T ls a l l.length c L s how k w ht hlb rfl (by omega) hL hLb hpk h15 hr
  have hc0 := h.cell
  rw [hv] at hc0
  obtain ⟨n, hn⟩ : ∃ n, l.length = n := ⟨_, rfl⟩
  rw [hn] at hlook hc0
  have AH : Aside (Rf w C base v l ∧ v = .slice a n c ∧ l.length = n ∧ n ≤ 64 ∧ k ≤ n) := ⟨h, by rw [hv, hn], hn, by omega, by omega⟩
  clear ht hL hLb hpk h15 h hl hr hlb hv hkn hn
  go_enter Try.func18, Try.ntmps18
  go_upto_region 2 with (go_at_call 30; refine hlook.mono ?_; rintro e1 w1 ⟨rfl, hd1⟩)
  have AD : Aside (Drawn w w1) := hd1
  have h : Rf w1 C base v l := AH.out.1.drawn hd1
  have hl : l.length ≤ 64 := by have := AH.out; omega
  have hkn : k ≤ l.length := by have := AH.out; omega
  have hve := AH.out.2.1
  have hne := AH.out.2.2.1
  clear hlook hc0 hd1
  have hc := h.cell
  have hf := h.fz
  have hlt := h.lt
  have hle := h.le
  have hCw : C < w1.heap.size := by omega
  have hca := (World.cell?_of_block (a := ⟨C, 0, none⟩) (Below.heap_alloc w1 (Obj.cells #[] 4) C hCw)).trans hc
  have hmade := World.ownsRow_made (base := base) (e := 4) (size := 1) w1 #[] 0 hle (by decide) rfl
  rcases h.form with ⟨rfl, rfl⟩ | ⟨g, cap, rfl, hgb, hg, hlc, hcm, hcells⟩
  · have hk0 : k = 0 := by simpa using hkn
    subst hk0
    cases hve
    have hfa := (World.frozen?_of_block (a := ⟨C, 0, none⟩) (Below.heap_alloc w1 (Obj.cells #[] 4) C hCw)).trans hf
    clear h hne hl hkn AH
    go_wp2_with (at_builtin; refine wpList_append_own_none rfl (.tmp 20) (.tmp 26) 42 rfl base 4 i0 1 Try.underlying42 hi _ _ _ rfl hmade rfl ?_)
    go_ret2
    have R := rf_store (l' := []) hc hf hlt hle (World.grownBy_alloc w1 (Obj.cells #[] 4) none) (by intro k e; cases e) hmade
    rw [World.setCell_alloc_past _ _ _ _ hCw] at R
    exact ⟨rfl, ⟨_, R.1⟩, R.2.drawn AD.out⟩
  · cases hve
    obtain ⟨n, hn⟩ : ∃ n, l.length = n := ⟨_, rfl⟩
    rw [hn] at hc hca hlc hl hkn ⊢
    have hkni : (k : Int) ≤ (n : Int) := by omega
    have hkci : (k : Int) ≤ (c : Int) := by omega
    have hnci : (n : Int) ≤ (c : Int) := by omega
    have hk0 : (0 : Int) ≤ (k : Int) := Int.natCast_nonneg _
    obtain ⟨o, hif, ho⟩ : ∃ o, (if c = k then some (⟨g, 0, none⟩ : Addr) else some ⟨g, k, none⟩) = some ⟨g, o, none⟩ ∧ (c = k ∨ o = k) := by
      by_cases hck : c = k
      · exact ⟨0, by rw [if_pos hck], Or.inl hck⟩
      · exact ⟨k, by rw [if_neg hck], Or.inr rfl⟩
    have AN : Aside ((vb (l.drop k)).length = (n - k) * 1 ∧ ∀ j u, (vb (l.drop k))[j]? = some u → (w1.alloc (Obj.cells #[] 4)).cell? ((⟨g, o, none⟩ : Addr).add j) = some u) := by
      refine ⟨by rw [vb_length, List.length_drop]; omega, ?_⟩
      intro j u hu
      have hjl : j < l.length - k := by
        obtain ⟨hj, _⟩ := List.getElem?_eq_some_iff.1 hu
        rwa [vb_length, List.length_drop] at hj
      have hok : o = k := by omega
      subst hok
      rw [add_off, World.cell?_of_block (a := ⟨g, o + j, none⟩) (Below.heap_alloc w1 (Obj.cells #[] 4) g hg)]
      obtain ⟨hj, hu'⟩ := List.getElem?_eq_some_iff.1 hu
      have hj' : o + j < l.length := by omega
      rw [hcells (o + j) hj', ← hu']
      simp [vb]
    have ADl : Aside ((l.drop k).length = n - k) := by show _ = _; rw [List.length_drop]; omega
    have hn64 : n - k ≤ 64 := by omega
    clear h hn hcells ho hne AH
    go_wp2_with (at_builtin; refine wpList_append_own _ rfl (.tmp 20) (.tmp 26) 42 rfl base 4 i0 (.bool false) 1 1 Try.underlying42 hi hz0 hz1 hz2 rfl (by decide) _ _ _ rfl hmade ⟨g, o, none⟩ (n - k) (c - k) (vb (l.drop k)) rfl AN.out.1 AN.out.2 vb_one (by unfold maxLen; omega) (by omega) (by simp; omega) ?_)
    intro v' w2 hown' hgrow _
    rw [← ADl.out] at hown'
    have hg1 := grown_new hgrow
    have hc1 := (World.cell?_of_block (a := ⟨C, 0, none⟩) (hg1.block C hCw (by simp))).trans hc
    have hf1 := (World.frozen?_of_block (a := ⟨C, 0, none⟩) (hg1.block C hCw (by simp))).trans hf
    have R := rf_store hc hf hlt hle hg1 (by intro k e; cases e) hown'
    obtain ⟨a', m', c', rfl⟩ : ∃ a' m' c', v' = .slice a' m' c' := by
      rcases hown'.2 with ⟨hv, _⟩ | ⟨_, _, _, hv, _⟩
      · exact ⟨_, _, _, hv⟩
      · exact ⟨_, _, _, hv⟩
    clear hown' hgrow hg1 AN ADl
    have AR : Aside (Rf (w2.setCell ⟨C, 0, none⟩ (.slice a' m' c')) C base (.slice a' m' c') (l.drop k) ∧ Grew C none w1 (w2.setCell ⟨C, 0, none⟩ (.slice a' m' c'))) := R
    clear R
    go_wp2_with fail
    go_ret2
    exact ⟨rfl, ⟨_, AR.out.1⟩, AR.out.2.drawn AD.out⟩
end Go.Proofs.Ytlmajiejapaegaa

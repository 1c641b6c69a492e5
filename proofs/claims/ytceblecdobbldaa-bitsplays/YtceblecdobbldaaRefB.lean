/-
  What Peek, Take, Align and Put of the document's own reader come to, at a reader in memory whose list of bits is the call's own.
  Conditions: the list has at most 64 bits; each method keeps that.
-/
import Derived.Test.YtceblecdobbldaaRefA
import Derived.Test.YtceblecdobbldaaReader
import Derived.Deep.RegionHeld3
import Derived.Deep.AppendLies
import Derived.Laws.AppendOwnNone
namespace Go.Proofs.Ytceblecdobbldaa
open Go.RowKit

/-- Block C holds a reader whose list is l; the list lies in a row of the call's own, from block 'base' on. -/
structure Rf (w : World) (C base : Nat) (v : Value) (l : List Bool) : Prop where
  cell : w.cell? ⟨C, 0, none⟩ = some v
  fz : w.frozen? ⟨C, 0, none⟩ = false
  own : w.ownsRow base 4 1 v l.length (vb l)
  lt : C < base
  le : base ≤ w.heap.size

/-- Blocks have come; of the elder ones block C and that row alone may have turned. -/
structure Grew (C : Nat) (row : Option Nat) (w w' : World) : Prop where
  os : w'.os = w.os
  tape : w'.tape = w.tape
  output : w'.output = w.output
  size : w.heap.size ≤ w'.heap.size
  block : ∀ k, k < w.heap.size → k ≠ C → some k ≠ row → w'.heap[k]? = w.heap[k]?

theorem Grew.below {C B : Nat} {row : Option Nat} {w w' : World} (h : Grew C row w w') (hC : B ≤ C) (hB : B ≤ w.heap.size) (hr : ∀ k, row = some k → B ≤ k) : Below B w w' :=
  ⟨h.os, h.tape, h.output, h.size, fun k hk => h.block k (by omega) (by omega) (fun e => by have := hr k e.symm; omega)⟩
theorem Grew.cell {C : Nat} {row : Option Nat} {w w' : World} (h : Grew C row w w') {p : Addr} (h1 : p.block < w.heap.size) (h2 : p.block ≠ C) (h3 : some p.block ≠ row) : w'.cell? p = w.cell? p :=
  World.cell?_of_block (h.block p.block h1 h2 h3)
theorem grown_of_below {w w' : World} (h : Below w.heap.size w w') (row : Option Nat) : w.grownBy w' row := ⟨h.os, h.tape, h.output, h.size, fun k hk _ => h.block k hk⟩
theorem own_below {w w' : World} {base : Nat} {v : Value} {n : Nat} {xs : List Value} (h : w.ownsRow base 4 1 v n xs) (hb : Below w.heap.size w w') : w'.ownsRow base 4 1 v n xs :=
  h.kept (grown_of_below hb none) (by cases hv : v.ownBlock <;> simp)

/-- What the list's value is. -/
theorem Rf.form {w : World} {C base : Nat} {v : Value} {l : List Bool} (h : Rf w C base v l) : (v = .slice none 0 0 ∧ l = []) ∨ ∃ g cap, v = .slice (some ⟨g, 0, none⟩) l.length cap ∧ base ≤ g ∧ g < w.heap.size ∧ l.length ≤ cap ∧ cap ≤ maxLen ∧ ∀ i (hi : i < l.length), w.cell? ⟨g, i, none⟩ = some (.bool l[i]) := by
  have ho := h.own
  rcases ho.2 with ⟨hv, hn⟩ | ⟨g, cap, cur, hv, hg, hh, hc, hm, _, _⟩
  · exact Or.inl ⟨hv, List.eq_nil_of_length_eq_zero hn⟩
  · refine Or.inr ⟨g, cap, hv, hg, (Array.getElem?_eq_some_iff.1 hh).1, hc, hm, ?_⟩
    intro i hi
    have := ho.cells (g := g) (by rw [hv]; rfl) i (.bool l[i]) (by simp [vb, hi])
    have hadd : (⟨g, 0, none⟩ : Addr).add i = ⟨g, i, none⟩ := by unfold Addr.add; split <;> simp_all
    rw [hadd] at this
    exact this
theorem Rf.nil {w : World} {C base : Nat} (hc : w.cell? ⟨C, 0, none⟩ = some (.slice none 0 0)) (hf : w.frozen? ⟨C, 0, none⟩ = false) (hlt : C < base) (hle : base ≤ w.heap.size) : Rf w C base (.slice none 0 0) [] :=
  ⟨hc, hf, World.ownsRow_nil _ _ _ _, hlt, hle⟩

theorem grown_trans {a b c : World} {r : Option Nat} (h : a.grownBy b r) (k : b.grownBy c r) : a.grownBy c r :=
  ⟨k.os.trans h.os, k.tape.trans h.tape, k.output.trans h.output, Nat.le_trans h.size k.size, fun i hi hr => (k.block i (Nat.lt_of_lt_of_le hi h.size) hr).trans (h.block i hi hr)⟩
/-- A new row that grew behind a new block: of the elder blocks none has turned. -/
theorem grown_new {w w1 : World} {o : Obj} (hg : (w.alloc o).grownBy w1 (some w.heap.size)) : w.grownBy w1 none :=
  ⟨hg.os, hg.tape, hg.output, Nat.le_trans (by simp) hg.size, fun k hk _ => (hg.block k (by simp; omega) (by intro e; cases e; omega)).trans (Below.heap_alloc w o k hk)⟩
/-- The list's new value is laid into the reader. -/
theorem rf_store {w w1 : World} {C base : Nat} {row : Option Nat} {v v' : Value} {l' : List Bool} (hc : w.cell? ⟨C, 0, none⟩ = some v) (hf : w.frozen? ⟨C, 0, none⟩ = false) (hlt : C < base) (hle : base ≤ w.heap.size)
    (hg : w.grownBy w1 row) (hrow : ∀ k, row = some k → base ≤ k) (hown : w1.ownsRow base 4 1 v' l'.length (vb l')) :
    Rf (w1.setCell ⟨C, 0, none⟩ v') C base v' l' ∧ Grew C row w (w1.setCell ⟨C, 0, none⟩ v') := by
  have hne : some C ≠ row := fun e => by have := hrow C e.symm; omega
  have hc1 : w1.cell? ⟨C, 0, none⟩ = some v := (World.cell?_of_block (a := ⟨C, 0, none⟩) (hg.block C (by omega) hne)).trans hc
  have hf1 : w1.frozen? ⟨C, 0, none⟩ = false := (World.frozen?_of_block (a := ⟨C, 0, none⟩) (hg.block C (by omega) hne)).trans hf
  refine ⟨⟨?_, ?_, ownsRow_setCell_below hown hlt v', hlt, ?_⟩, ⟨hg.os, hg.tape, hg.output, ?_, ?_⟩⟩
  · exact World.cell?_setCell_same' _ _ _ (by rw [hc1]; rfl)
  · rw [World.frozen?_setCell]; exact hf1
  · have := hg.size; simp [World.setCell]; omega
  · have := hg.size; simp [World.setCell]; omega
  · intro k hk h1 h2
    rw [Below.heap_setCell _ _ _ _ h1]
    exact hg.block k hk h2

theorem rpeek_no (C base : Nat) (v : Value) (l : List Bool) (k : Int) (w : World) (h : Rf w C base v l) (hk : ¬ Can k l.length) :
    Calls Try.prog 16 #[.pointer (some ⟨C, 0, none⟩), .int .i64 k] w fun e w' => e = .returned (.tuple #[.int .u32 0, .bool false]) ∧ w = w' := by
  obtain ⟨a, cap, hv⟩ : ∃ a cap, v = .slice a l.length cap := by
    rcases h.form with ⟨rfl, rfl⟩ | ⟨g, cap, hv, _⟩
    · exact ⟨_, _, rfl⟩
    · exact ⟨_, _, hv⟩
  subst hv
  have hc := h.cell
  go_enter Try.func16, Try.ntmps16
  unfold Can at hk
  by_cases c1 : k < 0
  · go_wp2
    go_ret2
    exact ⟨rfl, rfl⟩
  · by_cases c2 : 32 < k
    · go_wp2
      go_ret2
      exact ⟨rfl, rfl⟩
    · have c3 : (l.length : Int) < k := by omega
      go_wp2
      go_ret2
      exact ⟨rfl, rfl⟩
theorem rpeek_yes (C base : Nat) (v : Value) (l : List Bool) (k : Nat) (w : World) (h : Rf w C base v l) (hk : k ≤ 32) (hkn : k ≤ l.length) :
    Calls Try.prog 16 #[.pointer (some ⟨C, 0, none⟩), .int .i64 k] w fun e w' => e = .returned (.tuple #[.int .u32 ((nm l % 2 ^ k : Nat) : Int), .bool true]) ∧ w = w' := by
  have hc := h.cell
  have hlen : (l.take k).length = k := by rw [List.length_take]; omega
  have hb : nm l % 2 ^ k < 4294967296 := by
    have h1 := Nat.mod_lt (nm l) (Nat.two_pow_pos k)
    have h2 : 2 ^ k ≤ 4294967296 := pow_le64 hk
    omega
  have c1 : ¬ (k : Int) < 0 := by omega
  have c2 : ¬ (32 : Int) < k := by omega
  have c3 : ¬ (l.length : Int) < k := by omega
  have hk0 : (0 : Int) ≤ k := Int.natCast_nonneg _
  rcases h.form with ⟨rfl, rfl⟩ | ⟨g, cap, rfl, _, hg, hlc, hcm, hcells⟩
  · have hk0 : k = 0 := by simpa using hkn
    subst hk0
    have hn := number_c [] (by decide) none 0 w (Or.inl rfl)
    clear c1 c2 c3 hlen hkn hk h
    go_enter Try.func16, Try.ntmps16
    go_wp2_with fail
    refine hn.mono ?_
    rintro e w' ⟨rfl, rfl⟩
    go_wp2_with fail
    go_ret2
    exact ⟨rfl, rfl⟩
  · have hn := number_c (l.take k) (by omega) (some ⟨g, 0, none⟩) cap w (Or.inr ⟨g, 0, rfl, fun i hi => by
      rw [Nat.zero_add, hcells i (by omega), List.getElem_take]⟩)
    rw [hlen, nm_take] at hn
    have hkc : (k : Int) ≤ (cap : Int) := by omega
    generalize nm l % 2 ^ k = z at hn hb ⊢
    clear hlen hcells h hcm
    generalize l.length = n at *
    go_enter Try.func16, Try.ntmps16
    go_wp2_with fail
    refine hn.mono ?_
    rintro e w' ⟨rfl, rfl⟩
    go_wp2_with fail
    go_ret2
    exact ⟨rfl, rfl⟩
theorem rtake_no (C base : Nat) (v : Value) (l : List Bool) (k : Int) (w : World) (h : Rf w C base v l) (hk : ¬ Can k l.length) :
    Calls Try.prog 14 #[.pointer (some ⟨C, 0, none⟩), .int .i64 k] w fun e w' => e = .returned (.tuple #[.int .u32 0, .bool false]) ∧ w = w' := by
  go_enter Try.func14, Try.ntmps14
  go_wp2_with fail
  refine (rpeek_no C base v l k _ h hk).mono ?_
  rintro e w' ⟨rfl, rfl⟩
  go_wp2_with fail
  go_ret2
  exact ⟨rfl, rfl⟩
theorem rtake_yes (C base : Nat) (v : Value) (l : List Bool) (k : Nat) (w : World) (h : Rf w C base v l) (hk : k ≤ 32) (hkn : k ≤ l.length) (hl : l.length ≤ 64) :
    Calls Try.prog 14 #[.pointer (some ⟨C, 0, none⟩), .int .i64 k] w fun e w' => e = .returned (.tuple #[.int .u32 ((nm l % 2 ^ k : Nat) : Int), .bool true]) ∧ (∃ v', Rf w' C base v' (l.drop k)) ∧ Grew C none w w' := by
  obtain ⟨i0, hi, hz0, hz1, hz2⟩ := info_parts info4
  have hp := rpeek_yes C base v l k w h hk hkn
  generalize nm l % 2 ^ k = z at hp ⊢
  have hc := h.cell
  have hf := h.fz
  have hlt := h.lt
  have hle := h.le
  have hCw : C < w.heap.size := by omega
  have hca := (World.cell?_of_block (a := ⟨C, 0, none⟩) (Below.heap_alloc w (Obj.cells #[] 4) C hCw)).trans hc
  have hmade := World.ownsRow_made (base := base) (e := 4) (size := 1) w #[] 0 hle (by decide) rfl
  rcases h.form with ⟨rfl, rfl⟩ | ⟨g, cap, rfl, hgb, hg, hlc, hcm, hcells⟩
  · have hk0 : k = 0 := by simpa using hkn
    subst hk0
    have hfa := (World.frozen?_of_block (a := ⟨C, 0, none⟩) (Below.heap_alloc w (Obj.cells #[] 4) C hCw)).trans hf
    clear h
    go_enter Try.func14, Try.ntmps14
    go_wp2_with fail
    refine hp.mono ?_
    rintro e w' ⟨rfl, rfl⟩
    go_wp2_with (at_builtin; refine wpList_append_own_none rfl (.tmp 16) (.tmp 22) 26 rfl base 4 i0 1 Try.underlying26 hi _ _ _ rfl hmade rfl ?_)
    go_ret2
    have R := rf_store (l' := []) hc hf hlt hle (World.grownBy_alloc w (Obj.cells #[] 4) none) (by intro k e; cases e) hmade
    rw [World.setCell_alloc_past _ _ _ _ hCw] at R
    exact ⟨rfl, ⟨_, R.1⟩, R.2⟩
  · obtain ⟨n, hn⟩ : ∃ n, l.length = n := ⟨_, rfl⟩
    rw [hn] at hc hca hlc hl hkn
    have hkni : (k : Int) ≤ (n : Int) := by omega
    have hkci : (k : Int) ≤ (cap : Int) := by omega
    have hnci : (n : Int) ≤ (cap : Int) := by omega
    have hk0 : (0 : Int) ≤ (k : Int) := Int.natCast_nonneg _
    obtain ⟨o, hif, ho⟩ : ∃ o, (if cap = k then some (⟨g, 0, none⟩ : Addr) else some ⟨g, k, none⟩) = some ⟨g, o, none⟩ ∧ (cap = k ∨ o = k) := by
      by_cases hck : cap = k
      · exact ⟨0, by rw [if_pos hck], Or.inl hck⟩
      · exact ⟨k, by rw [if_neg hck], Or.inr rfl⟩
    have AN : Aside ((vb (l.drop k)).length = (n - k) * 1 ∧ ∀ j u, (vb (l.drop k))[j]? = some u → (w.alloc (Obj.cells #[] 4)).cell? ((⟨g, o, none⟩ : Addr).add j) = some u) := by
      refine ⟨by rw [vb_length, List.length_drop]; omega, ?_⟩
      intro j u hu
      have hjl : j < l.length - k := by
        obtain ⟨hj, _⟩ := List.getElem?_eq_some_iff.1 hu
        rwa [vb_length, List.length_drop] at hj
      have hok : o = k := by omega
      subst hok
      have hadd : (⟨g, o, none⟩ : Addr).add j = ⟨g, o + j, none⟩ := by unfold Addr.add; split <;> simp_all
      rw [hadd, World.cell?_of_block (a := ⟨g, o + j, none⟩) (Below.heap_alloc w (Obj.cells #[] 4) g hg)]
      obtain ⟨hj, hu'⟩ := List.getElem?_eq_some_iff.1 hu
      have hj' : o + j < l.length := by omega
      rw [hcells (o + j) hj', ← hu']
      simp [vb]
    have ADl : Aside ((l.drop k).length = n - k) := by show _ = _; rw [List.length_drop]; omega
    have hn64 : n - k ≤ 64 := by omega
    clear h hn hcells ho
    go_enter Try.func14, Try.ntmps14
    go_wp2_with fail
    refine hp.mono ?_
    rintro e w' ⟨rfl, rfl⟩
    go_wp2_with (at_builtin; refine wpList_append_own _ rfl (.tmp 16) (.tmp 22) 26 rfl base 4 i0 (.bool false) 1 1 Try.underlying26 hi hz0 hz1 hz2 rfl (by decide) _ _ _ rfl hmade ⟨g, o, none⟩ (n - k) (cap - k) (vb (l.drop k)) rfl AN.out.1 AN.out.2 vb_one (by unfold maxLen; omega) (by omega) (by simp; omega) ?_)
    intro v' w1 hown' hgrow _
    rw [← ADl.out] at hown'
    have hg1 := grown_new hgrow
    have hc1 := (World.cell?_of_block (a := ⟨C, 0, none⟩) (hg1.block C hCw (by simp))).trans hc
    have hf1 := (World.frozen?_of_block (a := ⟨C, 0, none⟩) (hg1.block C hCw (by simp))).trans hf
    have R := rf_store hc hf hlt hle hg1 (by intro k e; cases e) hown'
    obtain ⟨a', m', c', rfl⟩ : ∃ a' m' c', v' = .slice a' m' c' := by
      rcases hown'.2 with ⟨hv, _⟩ | ⟨_, _, _, hv, _⟩
      · exact ⟨_, _, _, hv⟩
      · exact ⟨_, _, _, hv⟩
    clear hown' hgrow hg1 AN ADl
    have AR : Aside (Rf (w1.setCell ⟨C, 0, none⟩ (.slice a' m' c')) C base (.slice a' m' c') (l.drop k) ∧ Grew C none w (w1.setCell ⟨C, 0, none⟩ (.slice a' m' c'))) := R
    clear R
    go_wp2_with fail
    go_ret2
    exact ⟨rfl, ⟨_, AR.out.1⟩, AR.out.2⟩
theorem ralign (C base : Nat) (v : Value) (l : List Bool) (w : World) (h : Rf w C base v l) (hl : l.length ≤ 64) :
    Calls Try.prog 18 #[.pointer (some ⟨C, 0, none⟩)] w fun e w' => e = .returned (.int .i64 ((l.length % 8 : Nat) : Int)) ∧ (∃ v', Rf w' C base v' (l.drop (l.length % 8))) ∧ Grew C none w w' := by
  obtain ⟨k, hk8⟩ : ∃ k, l.length % 8 = k := ⟨_, rfl⟩
  have hki : (l.length : Int) % 8 = (k : Int) := by omega
  have hkn : k ≤ l.length := by omega
  rw [hk8]
  clear hk8
  obtain ⟨i0, hi, hz0, hz1, hz2⟩ := info_parts info4
  have hc := h.cell
  have hf := h.fz
  have hlt := h.lt
  have hle := h.le
  have hCw : C < w.heap.size := by omega
  have hca := (World.cell?_of_block (a := ⟨C, 0, none⟩) (Below.heap_alloc w (Obj.cells #[] 4) C hCw)).trans hc
  have hmade := World.ownsRow_made (base := base) (e := 4) (size := 1) w #[] 0 hle (by decide) rfl
  rcases h.form with ⟨rfl, rfl⟩ | ⟨g, cap, rfl, hgb, hg, hlc, hcm, hcells⟩
  · have hk0 : k = 0 := by simpa using hkn
    subst hk0
    clear hki
    have hfa := (World.frozen?_of_block (a := ⟨C, 0, none⟩) (Below.heap_alloc w (Obj.cells #[] 4) C hCw)).trans hf
    clear h
    go_enter Try.func18, Try.ntmps18
    go_wp2_with (at_builtin; refine wpList_append_own_none rfl (.tmp 11) (.tmp 17) 26 rfl base 4 i0 1 Try.underlying26 hi _ _ _ rfl hmade rfl ?_)
    go_ret
    have R := rf_store (l' := []) hc hf hlt hle (World.grownBy_alloc w (Obj.cells #[] 4) none) (by intro k e; cases e) hmade
    rw [World.setCell_alloc_past _ _ _ _ hCw] at R
    exact ⟨rfl, ⟨_, R.1⟩, R.2⟩
  · obtain ⟨n, hn⟩ : ∃ n, l.length = n := ⟨_, rfl⟩
    rw [hn] at hc hca hlc hl hkn hki
    have hkni : (k : Int) ≤ (n : Int) := by omega
    have hkci : (k : Int) ≤ (cap : Int) := by omega
    have hnci : (n : Int) ≤ (cap : Int) := by omega
    have hk0 : (0 : Int) ≤ (k : Int) := Int.natCast_nonneg _
    obtain ⟨o, hif, ho⟩ : ∃ o, (if cap = k then some (⟨g, 0, none⟩ : Addr) else some ⟨g, k, none⟩) = some ⟨g, o, none⟩ ∧ (cap = k ∨ o = k) := by
      by_cases hck : cap = k
      · exact ⟨0, by rw [if_pos hck], Or.inl hck⟩
      · exact ⟨k, by rw [if_neg hck], Or.inr rfl⟩
    have AN : Aside ((vb (l.drop k)).length = (n - k) * 1 ∧ ∀ j u, (vb (l.drop k))[j]? = some u → (w.alloc (Obj.cells #[] 4)).cell? ((⟨g, o, none⟩ : Addr).add j) = some u) := by
      refine ⟨by rw [vb_length, List.length_drop]; omega, ?_⟩
      intro j u hu
      have hjl : j < l.length - k := by
        obtain ⟨hj, _⟩ := List.getElem?_eq_some_iff.1 hu
        rwa [vb_length, List.length_drop] at hj
      have hok : o = k := by omega
      subst hok
      have hadd : (⟨g, o, none⟩ : Addr).add j = ⟨g, o + j, none⟩ := by unfold Addr.add; split <;> simp_all
      rw [hadd, World.cell?_of_block (a := ⟨g, o + j, none⟩) (Below.heap_alloc w (Obj.cells #[] 4) g hg)]
      obtain ⟨hj, hu'⟩ := List.getElem?_eq_some_iff.1 hu
      have hj' : o + j < l.length := by omega
      rw [hcells (o + j) hj', ← hu']
      simp [vb]
    have ADl : Aside ((l.drop k).length = n - k) := by show _ = _; rw [List.length_drop]; omega
    have hn64 : n - k ≤ 64 := by omega
    clear h hn hcells ho
    go_enter Try.func18, Try.ntmps18
    go_wp2_with (at_builtin; refine wpList_append_own _ rfl (.tmp 11) (.tmp 17) 26 rfl base 4 i0 (.bool false) 1 1 Try.underlying26 hi hz0 hz1 hz2 rfl (by decide) _ _ _ rfl hmade ⟨g, o, none⟩ (n - k) (cap - k) (vb (l.drop k)) rfl AN.out.1 AN.out.2 vb_one (by unfold maxLen; omega) (by omega) (by simp; omega) ?_)
    intro v' w1 hown' hgrow _
    rw [← ADl.out] at hown'
    have hg1 := grown_new hgrow
    have hc1 := (World.cell?_of_block (a := ⟨C, 0, none⟩) (hg1.block C hCw (by simp))).trans hc
    have hf1 := (World.frozen?_of_block (a := ⟨C, 0, none⟩) (hg1.block C hCw (by simp))).trans hf
    have R := rf_store hc hf hlt hle hg1 (by intro k e; cases e) hown'
    obtain ⟨a', m', c', rfl⟩ : ∃ a' m' c', v' = .slice a' m' c' := by
      rcases hown'.2 with ⟨hv, _⟩ | ⟨_, _, _, hv, _⟩
      · exact ⟨_, _, _, hv⟩
      · exact ⟨_, _, _, hv⟩
    clear hown' hgrow hg1 AN ADl
    have AR : Aside (Rf (w1.setCell ⟨C, 0, none⟩ (.slice a' m' c')) C base (.slice a' m' c') (l.drop k) ∧ Grew C none w (w1.setCell ⟨C, 0, none⟩ (.slice a' m' c'))) := R
    clear R
    go_wp2_with fail
    go_ret
    exact ⟨rfl, ⟨_, AR.out.1⟩, AR.out.2⟩
end Go.Proofs.Ytceblecdobbldaa

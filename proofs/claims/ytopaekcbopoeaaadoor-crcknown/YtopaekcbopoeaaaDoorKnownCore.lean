/-
  CrcKnown: the call answers true, and what lay in memory is as it was.
  Conditions: the table holds its numbers.
-/
import Derived.Test.YtopaekcbopoeaaaDoorOpen
import Derived.Test.YtopaekcbopoeaaaDoorJoin
import Derived.Deep.RegionLaw
import Derived.Lib.SlBytesConst
namespace Go.Proofs.YtopaekcbopoeaaaDoor
open Go.RowKit
set_option linter.unusedVariables false
/-- The bytes of the document's text. -/
def nine : List Nat := [49, 50, 51, 52, 53, 54, 55, 56, 57]
theorem sum_nine : sm 0 nine = 3421780262 := by decide +kernel
theorem sum_four : sm 0 [49, 50, 51, 52] = 2615402659 := by decide +kernel
theorem sum_five : sm 0 [53, 54, 55, 56, 57] = 320708720 := by decide +kernel
theorem sum_a : sm 0 [97] = 3904355907 := by decide +kernel
theorem join_nine : mvs (8 * (5 : Int).toNat) 2615402659 ^^^ 320708720 = 3421780262 := by decide +kernel
/-- The table stands, the text lies in block B, and what was there before is as it was. -/
structure Gd (w : World) (B : Nat) (u : World) : Prop where
  tab : Tab u
  row : ∀ (i x : Nat), nine[i]? = some x → u.cell? ⟨B, i, none⟩ = some (.int .u8 (x : Int))
  lt : B < u.heap.size
  bel : Below B w u
theorem Gd.drew {w u : World} {B : Nat} (g : Gd w B u) : Gd w B u.drew := ⟨g.tab, g.row, g.lt, g.bel.drew⟩
theorem Gd.alloc {w u : World} {B : Nat} (g : Gd w B u) (o : Obj) : Gd w B (u.alloc o) := by
  have hb := (Below.refl u.heap.size u).alloc (Nat.le_refl _) o
  exact ⟨g.tab.below hb g.tab.lt, fun i x hx => (hb.cell (p := ⟨B, i, none⟩) g.lt).trans (g.row i x hx), Nat.lt_of_lt_of_le g.lt hb.size, g.bel.trans (hb.mono (Nat.le_of_lt g.lt))⟩
theorem call_nine {w u : World} {B : Nat} (g : Gd w B u) : Calls Tryd.prog 8 #[.slice (some ⟨B, 0, none⟩) 9 9] u fun e w' => e = .returned (.int .u32 3421780262) ∧ u = w' := by
  have := sum_c (some ⟨B, 0, none⟩) nine 9 u g.tab (by unfold Oct nine; decide) (by decide) (Or.inr ⟨B, 0, rfl, fun i x hx => by rw [Nat.zero_add]; exact g.row i x hx⟩)
  rw [sum_nine] at this
  exact this
theorem call_four {w u : World} {B : Nat} (g : Gd w B u) : Calls Tryd.prog 8 #[.slice (some ⟨B, 0, none⟩) 4 9] u fun e w' => e = .returned (.int .u32 2615402659) ∧ u = w' := by
  have := sum_c (some ⟨B, 0, none⟩) [49, 50, 51, 52] 9 u g.tab (by unfold Oct; decide) (by decide) (Or.inr ⟨B, 0, rfl, fun i x hx => by
    rw [Nat.zero_add]
    refine g.row i x ?_
    obtain ⟨hi, _⟩ := List.getElem?_eq_some_iff.1 hx
    simp at hi
    match i, hi, hx with
    | 0, _, hx => exact hx
    | 1, _, hx => exact hx
    | 2, _, hx => exact hx
    | 3, _, hx => exact hx⟩)
  rw [sum_four] at this
  exact this
theorem call_five {w u : World} {B : Nat} (g : Gd w B u) : Calls Tryd.prog 8 #[.slice (some ⟨B, 4, none⟩) 5 5] u fun e w' => e = .returned (.int .u32 320708720) ∧ u = w' := by
  have := sum_c (some ⟨B, 4, none⟩) [53, 54, 55, 56, 57] 5 u g.tab (by unfold Oct; decide) (by decide) (Or.inr ⟨B, 4, rfl, fun i x hx => by
    refine g.row (4 + i) x ?_
    obtain ⟨hi, _⟩ := List.getElem?_eq_some_iff.1 hx
    simp at hi
    match i, hi, hx with
    | 0, _, hx => exact hx
    | 1, _, hx => exact hx
    | 2, _, hx => exact hx
    | 3, _, hx => exact hx
    | 4, _, hx => exact hx⟩)
  rw [sum_five] at this
  exact this
theorem call_nil {w u : World} {B : Nat} (g : Gd w B u) : Calls Tryd.prog 8 #[.slice none 0 0] u fun e w' => e = .returned (.int .u32 0) ∧ u = w' :=
  sum_c none [] 0 u g.tab (by unfold Oct; decide) (by decide) (Or.inl rfl)
theorem call_one {w u : World} {B : Nat} (x s : Nat) (hx : x < 256) (hs : sm 0 [x] = s) (b : Nat) (hb : b = u.heap.size) (fr : Nat × Nat) (g : Gd w B u) :
    Calls Tryd.prog 8 #[.slice (some ⟨b, 0, none⟩) 1 1] (u.alloc (.cells #[.int .u8 (x : Int)] 5 fr)) fun e w' => e = .returned (.int .u32 s) ∧ u.alloc (.cells #[.int .u8 (x : Int)] 5 fr) = w' := by
  subst hb
  have := sum_c (some ⟨u.heap.size, 0, none⟩) [x] 1 (u.alloc (.cells #[.int .u8 (x : Int)] 5 fr)) (g.alloc _).tab (by intro y hy; simp at hy; omega) (by simp) (Or.inr ⟨u.heap.size, 0, rfl, fun i y hy => by
    match i, hy with
    | 0, hy =>
      have : x = y := by simpa using hy
      subst this
      have hh : (u.alloc (.cells #[.int .u8 (x : Int)] 5 fr)).heap[u.heap.size]? = some (.cells #[.int .u8 (x : Int)] 5 fr) := by
        show (u.heap.push _)[_]? = _
        simp
      unfold World.cell?
      dsimp only
      rw [hh]
      rfl⟩)
  rw [hs] at this
  exact this
theorem call_one_drew {w u : World} {B : Nat} (x s : Nat) (hx : x < 256) (hs : sm 0 [x] = s) (b : Nat) (hb : b = u.heap.size) (fr : Nat × Nat) (g : Gd w B u) :
    Calls Tryd.prog 8 #[.slice (some ⟨b, 0, none⟩) 1 1] (u.alloc (.cells #[.int .u8 (x : Int)] 5 fr)).drew fun e w' => e = .returned (.int .u32 s) ∧ (u.alloc (.cells #[.int .u8 (x : Int)] 5 fr)).drew = w' :=
  call_one (u := u.drew) x s hx hs b hb fr g.drew
theorem call_a {w u : World} {B : Nat} (b : Nat) (hb : b = u.heap.size) (fr : Nat × Nat) (g : Gd w B u) :
    Calls Tryd.prog 8 #[.slice (some ⟨b, 0, none⟩) 1 1] (u.alloc (.cells #[.int .u8 97] 5 fr)).drew fun e w' => e = .returned (.int .u32 3904355907) ∧ (u.alloc (.cells #[.int .u8 97] 5 fr)).drew = w' :=
  call_one_drew 97 3904355907 (by decide) sum_a b hb fr g
theorem call_0 {w u : World} {B : Nat} (b : Nat) (hb : b = u.heap.size) (fr : Nat × Nat) (g : Gd w B u) :
    Calls Tryd.prog 8 #[.slice (some ⟨b, 0, none⟩) 1 1] (u.alloc (.cells #[.int .u8 0] 5 fr)).drew fun e w' => e = .returned (.int .u32 3523407757) ∧ (u.alloc (.cells #[.int .u8 0] 5 fr)).drew = w' :=
  call_one_drew 0 3523407757 (by decide) sum_nought b hb fr g
set_option maxRecDepth 100000 in
set_option maxHeartbeats 1000000 in
theorem known_core (w : World) (hT : Tab w) : Calls Tryd.prog 4 #[] w fun e w' => e = .returned (.bool true) ∧ Below w.heap.size w w' := by
  have kc := fun (w : World) (C : Array Value) (n c : Nat) => Lib.run_convert_bytes_const (P := Tryd.prog) w 22 5 C n c Tryd.underlying22 Tryd.underlying5
  have gd : Gd w w.heap.size (w.alloc (.cells #[.int .u8 49, .int .u8 50, .int .u8 51, .int .u8 52, .int .u8 53, .int .u8 54, .int .u8 55, .int .u8 56, .int .u8 57] 5 (9, 10))) := by
    have hb := (Below.refl w.heap.size w).alloc (Nat.le_refl _) (.cells #[.int .u8 49, .int .u8 50, .int .u8 51, .int .u8 52, .int .u8 53, .int .u8 54, .int .u8 55, .int .u8 56, .int .u8 57] 5 (9, 10))
    refine ⟨hT.below hb hT.lt, fun i x hx => ?_, by show _ < (w.heap.push _).size; simp, hb⟩
    have hh : (w.alloc (.cells #[.int .u8 49, .int .u8 50, .int .u8 51, .int .u8 52, .int .u8 53, .int .u8 54, .int .u8 55, .int .u8 56, .int .u8 57] 5 (9, 10))).heap[w.heap.size]? = some (.cells #[.int .u8 49, .int .u8 50, .int .u8 51, .int .u8 52, .int .u8 53, .int .u8 54, .int .u8 55, .int .u8 56, .int .u8 57] 5 (9, 10)) := by
      show (w.heap.push _)[_]? = _
      simp
    obtain ⟨hi, _⟩ := List.getElem?_eq_some_iff.1 hx
    simp [nine] at hi
    simp only [World.cell?, hh]
    match i, hi, hx with
    | 0, _, hx => cases hx; rfl
    | 1, _, hx => cases hx; rfl
    | 2, _, hx => cases hx; rfl
    | 3, _, hx => cases hx; rfl
    | 4, _, hx => cases hx; rfl
    | 5, _, hx => cases hx; rfl
    | 6, _, hx => cases hx; rfl
    | 7, _, hx => cases hx; rfl
    | 8, _, hx => cases hx; rfl
  obtain ⟨B, hB⟩ : ∃ B, w.heap.size = B := ⟨_, rfl⟩
  have AB : Aside (w.heap.size = B) := hB
  clear hB
  go_enter Tryd.func4, Tryd.ntmps4
  go_wp2_with fail
  rw [AB.out] at gd ⊢
  generalize (w.alloc (.cells #[.int .u8 49, .int .u8 50, .int .u8 51, .int .u8 52, .int .u8 53, .int .u8 54, .int .u8 55, .int .u8 56, .int .u8 57] 5 (9, 10))) = W at gd ⊢
  clear hT
  have kd : ∀ (u : World) (C : Array Value) (n c : Nat), (convert 22 22 (.slice (some ⟨u.heap.size, 0, none⟩) n c)).run Tryd.prog (u.alloc (.cells C 5)).drew = .ok (.slice (some ⟨u.heap.size, 0, none⟩) n c) (u.alloc (.cells C 5 (C.size, C.size + 1))).drew := fun u C n c => kc u.drew C n c
  go_region_law (first
    | (go_simp; go_at_call 12; refine (join_c 2615402659 320708720 (by decide) (by decide) 5 _).mono ?_; rintro e u6 ⟨rfl, hb6⟩; rw [join_nine]; dsimp only)
    | (go_simp; go_at_call 8; with_reducible refine (call_nine (w := w) (B := B) (by repeat (first | exact gd | apply Gd.alloc | apply Gd.drew))).mono ?_; rintro e u1 ⟨rfl, rfl⟩; dsimp only)
    | (go_simp; go_at_call 8; with_reducible refine (call_four (w := w) (B := B) (by repeat (first | exact gd | apply Gd.alloc | apply Gd.drew))).mono ?_; rintro e u1 ⟨rfl, rfl⟩; dsimp only)
    | (go_simp; go_at_call 8; with_reducible refine (call_five (w := w) (B := B) (by repeat (first | exact gd | apply Gd.alloc | apply Gd.drew))).mono ?_; rintro e u1 ⟨rfl, rfl⟩; dsimp only)
    | (go_simp; go_at_call 8; with_reducible refine (call_nil (w := w) (B := B) (by repeat (first | exact gd | apply Gd.alloc | apply Gd.drew))).mono ?_; rintro e u1 ⟨rfl, rfl⟩; dsimp only)
    | (go_simp; go_at_call 8; with_reducible refine (call_a (w := w) (B := B) _ (by simp) _ (by repeat (first | exact gd | apply Gd.alloc | apply Gd.drew))).mono ?_; rintro e u1 ⟨rfl, rfl⟩; dsimp only)
    | (go_simp; go_at_call 8; with_reducible refine (call_0 (w := w) (B := B) _ (by simp) _ (by repeat (first | exact gd | apply Gd.alloc | apply Gd.drew))).mono ?_; rintro e u1 ⟨rfl, rfl⟩; dsimp only))
  all_goals
    have g6 : Gd w B ((W.alloc (.cells #[.int .u8 97] 5 (1, 2))).alloc (.cells #[.int .u8 0] 5)).drew := by repeat (first | exact gd | apply Gd.alloc | apply Gd.drew)
    have b6 : Below B w u6 := g6.bel.trans (hb6.mono (Nat.le_of_lt g6.lt))
    rw [← AB.out] at b6
    go_wp2_with fail
    go_ret
    exact ⟨rfl, b6⟩
end Go.Proofs.YtopaekcbopoeaaaDoor

/-
  Rows of sixteen numbers, as the program counts lengths in them: how they are read and written whole, and what the program's count comes to.
  Conditions: the lengths lie in memory.
-/
import Derived.Test.YtlmajiejapaegaaRKraft
import Derived.Deep.WholeRow
import Derived.Laws.Rows
import Derived.Laws.Tables
import Derived.Laws.ResultCell
namespace Go.Proofs.Ytlmajiejapaegaa
open Go.RowKit
set_option linter.unusedVariables false
def rw16 (f : Nat → Nat) : Array Value := ((List.range 16).map fun j => Value.int .u32 (f j : Nat)).toArray
theorem rw16_size (f : Nat → Nat) : (rw16 f).size = 16 := by simp [rw16]
theorem rw16_at (f : Nat → Nat) (j : Nat) (h : j < 16) : (rw16 f)[j]? = some (.int .u32 (f j : Nat)) := by simp [rw16, h]
theorem rw16_congr {f g : Nat → Nat} (h : ∀ j, j < 16 → f j = g j) : rw16 f = rw16 g := by
  unfold rw16
  exact congrArg List.toArray (List.map_congr_left fun j hj => by rw [h j (List.mem_range.1 hj)])
theorem rw16_set (f : Nat → Nat) (i x : Nat) : (rw16 f).setIfInBounds i (.int .u32 (x : Nat)) = rw16 (fun j => if j = i then x else f j) := by
  apply Array.ext_getElem?
  intro j
  by_cases hj : j < 16
  · rw [Array.getElem?_setIfInBounds, rw16_at _ _ hj, rw16_at _ _ hj, rw16_size]
    by_cases e : i = j
    · subst e; rw [if_pos rfl, if_pos hj, if_pos rfl]
    · rw [if_neg e, if_neg (fun h => e h.symm)]
  · rw [Array.getElem?_eq_none (by simp [rw16_size]; omega), Array.getElem?_eq_none (by rw [rw16_size]; omega)]
theorem rw16_one (f : Nat → Nat) : (rw16 f).all (·.oneCell') = true := by simp [rw16, Value.oneCell']
theorem set_row {w : World} {b : Nat} {cs : Array Value} {t : TypeId} (h : Cells w b cs t) (c : Array Value) : Cells (w.setRow b c) b c t := by
  unfold Cells at *
  simp [World.setRow, Array.getElem?_modify, h]
theorem only_row {w : World} {b : Nat} {cs : Array Value} {t : TypeId} (h : Cells w b cs t) (c : Array Value) : Only b w (w.setRow b c) :=
  ⟨rfl, rfl, rfl, by simp [World.setRow], fun k hk => by
    have : b ≠ k := fun e => hk e.symm
    simp [World.setRow, Array.getElem?_modify, this]⟩
theorem size59 : (Try.prog.info? 59).map (·.size) = some 16 := by kernel_rfl
theorem zero59 : Value.agg (rw16 fun _ => 0) = .agg #[.int .u32 0, .int .u32 0, .int .u32 0, .int .u32 0, .int .u32 0, .int .u32 0, .int .u32 0, .int .u32 0, .int .u32 0, .int .u32 0, .int .u32 0, .int .u32 0, .int .u32 0, .int .u32 0, .int .u32 0, .int .u32 0] := by rfl
theorem ret59 {w : World} {B : Nat} {f : Nat → Nat} (h : Cells w B (rw16 f) 59) : (loadVar 59 ⟨B, 0, none⟩).run Try.prog w = .ok (.agg (rw16 f)) w :=
  run_loadVar_row _ _ 59 59 _ (0, 0) _ h Try.underlying59 rfl (by rw [rw16_size]; exact size59)
set_option maxRecDepth 100000 in
set_option maxHeartbeats 2000000 in
theorem count_c (a : Option Addr) (zs : List Int) (L C : Nat) (f : Nat → Nat) (ok : Bool) (w : World) (h : Lens w a zs) (hL : zs.length = L) (hLb : L < 140737488355328) (hr : (Okl zs ∧ (f = fun j => (lens zs).count j) ∧ ok = true) ∨ (¬ Okl zs ∧ (f = fun _ => 0) ∧ ok = false)) :
    Calls Try.prog 23 #[.slice a L C] w fun e w' => e = .returned (.tuple #[.agg (rw16 f), .bool ok]) ∧ Below w.heap.size w w' := by
  have AH : Aside (Lens w a zs ∧ zs.length = L ∧ L < 140737488355328) := ⟨h, hL, hLb⟩
  have AR : Aside ((Okl zs ∧ (f = fun j => (lens zs).count j) ∧ ok = true) ∨ (¬ Okl zs ∧ (f = fun _ => 0) ∧ ok = false)) := hr
  clear h hL hLb hr
  obtain ⟨B, hB⟩ : ∃ B, w.heap.size = B := ⟨_, rfl⟩
  obtain ⟨w1, hw1⟩ : ∃ w1, w1 = w.alloc (.cells (rw16 fun _ => 0) 59) := ⟨_, rfl⟩
  obtain ⟨w2, hw2⟩ : ∃ w2, w2 = w1.alloc (.cells (rw16 fun _ => 0) 59) := ⟨_, rfl⟩
  have hB1 : w1.heap.size = B + 1 := by rw [hw1, ← hB]; exact Array.size_push _
  have c0 : Cells w2 B (rw16 fun _ => 0) 59 := by rw [hw2]; refine Cells.alloc ?_ _; rw [hw1, ← hB]; exact Cells.new w _ 59
  have c1 : Cells w2 (B + 1) (rw16 fun _ => 0) 59 := by rw [hw2, ← hB1]; exact Cells.new w1 _ 59
  have bel : Below B w w2 := by
    rw [hw2, hw1, ← hB]; exact ((Below.refl _ w).alloc (Nat.le_refl _) _).alloc (by show w.heap.size ≤ (w.heap.push _).size; rw [Array.size_push]; omega) _
  have AW : Aside (Cells w2 B (rw16 fun _ => 0) 59 ∧ Cells w2 (B + 1) (rw16 fun _ => 0) 59 ∧ Below B w w2 ∧ w.heap.size = B) := ⟨c0, c1, bel, hB⟩
  clear c0 c1 bel
  have hz : ∀ w', (zeroValue 59).run Try.prog w' = .ok (.agg (rw16 fun _ => 0)) w' := fun w' => by kernel_rfl
  have hb : (Try.prog.built 59 []).getD #[] = rw16 fun _ => 0 := by kernel_rfl
  have hf : (Try.prog.built 59 []).isSome = true := by kernel_rfl
  by_cases h320 : 320 < L
  · have h1 : (320 : Int) < (L : Int) := by omega
    have hno : Aside ((f = fun _ => 0) ∧ ok = false) := by
      rcases AR.out with ⟨h, _⟩ | h
      · have := h.1; have := AH.out; omega
      · exact h.2
    clear h320
    go_enter Try.func23, Try.ntmps23
    go_upto_region 3 with fail
    rw [← hw1, ← hw2]
    clear hw1 hw2 hB hB1
    go_wp2_with (refine wpList_store_row rfl 59 (.tmp 2) (.tmp 10) rfl B (rw16 fun _ => 0) rfl rfl 59 (rw16 fun _ => 0) AW.out.1 (by rw [rw16_size]; exact size59) rfl (rw16_one _) ?_)
    have hc := set_row AW.out.1 (rw16 fun _ => 0)
    have hbel := AW.out.2.2.1.trans ((only_row AW.out.1 (rw16 fun _ => 0)).below (Nat.le_refl _))
    (try simp only [Exit.inBlock, Exit.then])
    refine bodyPost_ret (v := .tuple #[.agg (rw16 fun _ => 0), .bool false]) ?_ rfl ?_
    · rw [results_cell_tmp rfl]
      simp [asAddr, Result.andThen, ret59 hc]
    · obtain ⟨rfl, rfl⟩ := hno.out
      exact ⟨rfl, by rw [AW.out.2.2.2]; exact hbel⟩
  have h1 : ¬ (320 : Int) < (L : Int) := by omega
  have hLs : (L : Int) ≤ 320 := by omega
  go_enter Try.func23, Try.ntmps23
  go_upto_region 4 with fail
  rw [← hw1, ← hw2]
  clear hw1 hw2 hB hB1 h320 h1
  go_wp2_with fail
  go_loopg [13] L (fun g si wr => ∃ (i : Nat), si = .int .i64 i ∧ Aside (i + g = L ∧ (∀ z ∈ zs.take i, 0 ≤ z ∧ z ≤ 15) ∧ Cells wr B (rw16 fun _ => 0) 59 ∧ Cells wr (B + 1) (rw16 fun j => (lens (zs.take i)).count j) 59 ∧ Below B w wr))
  case atStart => exact ⟨0, rfl, ⟨by omega, by simp, AW.out.1, AW.out.2.1, AW.out.2.2.1⟩⟩
  case round =>
    obtain ⟨i, rfl, hI⟩ := hrel
    by_cases hiL : i < L
    · have hi : (i : Int) < (L : Int) := by omega
      obtain ⟨z, hz1⟩ : ∃ z, zs[i]? = some z := ⟨_, List.getElem?_eq_getElem (by have := AH.out; omega)⟩
      rcases AH.out.1 with e | ⟨b, o, rfl, hc⟩
      · rw [e] at hz1; simp at hz1
      have hcw := hc i z hz1
      have cz : wr.cell? ⟨b, o + i, none⟩ = some (.int .i64 z) := (hI.out.2.2.2.2.cell (p := ⟨b, o + i, none⟩) (by have := World.block_lt_of_cell? w ⟨b, o + i, none⟩ hcw; rw [AW.out.2.2.2] at this; exact this)).trans hcw
      have AZ : Aside (zs[i]? = some z ∧ i < L) := ⟨hz1, hiL⟩
      clear hc hz1 hiL hcw
      by_cases hbad : z < 0 ∨ 15 < z
      · have hno : Aside ((f = fun _ => 0) ∧ ok = false) := by
          rcases AR.out with ⟨h, _⟩ | h
          · have := h.2 z (List.mem_of_getElem? AZ.out.1); omega
          · exact h.2
        have hc := set_row hI.out.2.2.1 (rw16 fun _ => 0)
        have hbel := hI.out.2.2.2.2.trans ((only_row hI.out.2.2.1 (rw16 fun _ => 0)).below (Nat.le_refl _))
        have AC : Aside (Cells (wr.setRow B (rw16 fun _ => 0)) B (rw16 fun _ => 0) 59 ∧ Below B w (wr.setRow B (rw16 fun _ => 0))) := ⟨hc, hbel⟩
        clear hc hbel
        by_cases hneg : z < 0
        · clear hbad
          go_wp2_with (refine wpList_store_row rfl 59 (.tmp 2) (.tmp 23) rfl B (rw16 fun _ => 0) rfl rfl 59 (rw16 fun _ => 0) hI.out.2.2.1 (by rw [rw16_size]; exact size59) rfl (rw16_one _) ?_)
          (try simp only [Exit.inBlock, Exit.then])
          refine bodyPost_ret (v := .tuple #[.agg (rw16 fun _ => 0), .bool false]) ?_ rfl ?_
          · rw [results_cell_tmp rfl]
            simp [asAddr, Result.andThen, ret59 AC.out.1]
          · obtain ⟨rfl, rfl⟩ := hno.out
            exact ⟨rfl, by rw [AW.out.2.2.2]; exact AC.out.2⟩
        · have hgt : 15 < z := by omega
          clear hbad
          go_wp2_with (refine wpList_store_row rfl 59 (.tmp 2) (.tmp 23) rfl B (rw16 fun _ => 0) rfl rfl 59 (rw16 fun _ => 0) hI.out.2.2.1 (by rw [rw16_size]; exact size59) rfl (rw16_one _) ?_)
          (try simp only [Exit.inBlock, Exit.then])
          refine bodyPost_ret (v := .tuple #[.agg (rw16 fun _ => 0), .bool false]) ?_ rfl ?_
          · rw [results_cell_tmp rfl]
            simp [asAddr, Result.andThen, ret59 AC.out.1]
          · obtain ⟨rfl, rfl⟩ := hno.out
            exact ⟨rfl, by rw [AW.out.2.2.2]; exact AC.out.2⟩
      · have hz0 : ¬ z < 0 := by omega
        have hz15 : ¬ 15 < z := by omega
        obtain ⟨l, rfl⟩ : ∃ l : Nat, z = (l : Int) := ⟨z.toNat, by omega⟩
        have hl16 : l < 16 := by omega
        have hnx : Aside ((∀ z ∈ zs.take (i + 1), 0 ≤ z ∧ z ≤ 15) ∧ ∀ j, (lens (zs.take (i + 1))).count j = if j = l then (lens (zs.take i)).count l + 1 else (lens (zs.take i)).count j) := by
          have e1 : lens (zs.take (i + 1)) = lens (zs.take i) ++ [l] := by rw [take_one AZ.out.1]; simp [lens]
          refine ⟨?_, ?_⟩
          · intro y hy
            rw [take_one AZ.out.1] at hy
            rcases List.mem_append.1 hy with hy | hy
            · exact hI.out.2.1 y hy
            · rw [List.mem_singleton.1 hy]; omega
          · intro j
            rw [e1, List.count_append]
            by_cases e : j = l
            · subst e; rw [if_pos rfl]; simp
            · rw [if_neg e]
              have : List.count j [l] = 0 := by rw [List.count_cons, List.count_nil]; simp; exact fun h => e h.symm
              omega
        obtain ⟨q, hq⟩ : ∃ q, (lens (zs.take i)).count l = q := ⟨_, rfl⟩
        have hqb : q ≤ 320 := by
          rw [← hq]
          have h2 := List.count_le_length (a := l) (l := lens (zs.take i))
          have h3 : (lens (zs.take i)).length ≤ 320 := by unfold lens; rw [List.length_map, List.length_take]; omega
          omega
        have cq : wr.cell? ⟨B + 1, l, none⟩ = some (.int .u32 (q : Int)) := by rw [hI.out.2.2.2.1.cell, rw16_at _ _ hl16, hq]
        have fq := hI.out.2.2.2.1.frozen l
        have AQ : Aside ((lens (zs.take i)).count l = q) := hq
        clear hbad hq
        have hlI : (l : Int) < 16 := by omega
        go_wp2_with fail
        go_roundg (L - (i + 1))
        case measure => have := hI.out.1; have := AZ.out.2; omega
        case rel =>
          refine ⟨i + 1, by go_num, ⟨by have := AZ.out.2; omega, hnx.out.1, ?_, ?_, ?_⟩⟩
          · exact hI.out.2.2.1.only ((Only.refl (B + 1) wr).setCell l _) (by omega)
          · have := hI.out.2.2.2.1.set l (.int .u32 ((q + 1 : Nat) : Int))
            rw [rw16_set] at this
            have e : (rw16 fun j => if j = l then q + 1 else (lens (zs.take i)).count j) = rw16 fun j => (lens (zs.take (i + 1))).count j := rw16_congr fun j _ => by
              rw [hnx.out.2 j, AQ.out]
            rw [e] at this
            exact this
          · exact hI.out.2.2.2.2.setCell (p := ⟨B + 1, l, none⟩) (by show B ≤ B + 1; omega) _
    · have hieq : i = L := by have := hI.out.1; omega
      have hni : ¬ (i : Int) < (L : Int) := by omega
      have hall : zs.take i = zs := List.take_of_length_le (by have := AH.out.2.1; omega)
      have hI2 := hI.out
      rw [hall] at hI2
      have hyes : Aside ((f = fun j => (lens zs).count j) ∧ ok = true) := by
        rcases AR.out with h | ⟨h, _⟩
        · exact h.2
        · exact absurd ⟨by have := AH.out.2.1; omega, hI2.2.1⟩ h
      have hc := set_row hI2.2.2.1 (rw16 fun j => (lens zs).count j)
      have hbel := hI2.2.2.2.2.trans ((only_row hI2.2.2.1 (rw16 fun j => (lens zs).count j)).below (Nat.le_refl _))
      have hc1 := hI2.2.2.2.1
      have hc0 := hI2.2.2.1
      obtain ⟨R, hR⟩ : ∃ R, (rw16 fun j => (lens zs).count j) = R := ⟨_, rfl⟩
      have hRs : R.size = 16 := by rw [← hR]; exact rw16_size _
      have hR1 : R.all (·.oneCell') = true := by rw [← hR]; exact rw16_one _
      rw [hR] at hc hbel hc1
      have AC : Aside (Cells (wr.setRow B R) B R 59 ∧ Below B w (wr.setRow B R) ∧ (rw16 fun j => (lens zs).count j) = R) := ⟨hc, hbel, hR⟩
      clear hI2 hI hc hbel hR hall hieq hiL
      go_wp2_with (first
        | (refine wpList_load_row rfl 59 (.tmp 4) rfl (B + 1) rfl 59 _ (0, 0) _ hc1 Try.underlying59 rfl (by rw [hRs]; exact size59) ?_)
        | (refine wpList_store_row rfl 59 (.tmp 2) (.tmp 30) rfl B R rfl rfl 59 (rw16 fun _ => 0) hc0 (by rw [hRs]; exact size59) (by rw [hRs]; rfl) hR1 ?_))
      (try simp only [Exit.inBlock, Exit.then])
      refine bodyPost_ret (v := .tuple #[.agg R, .bool true]) ?_ rfl ?_
      · rw [results_cell_tmp rfl]
        have := AC.out.1
        rw [← AC.out.2.2] at this ⊢
        simp [asAddr, Result.andThen, ret59 this]
      · obtain ⟨rfl, rfl⟩ := hyes.out
        exact ⟨by rw [AC.out.2.2], by rw [AW.out.2.2.2]; exact AC.out.2.1⟩
end Go.Proofs.Ytlmajiejapaegaa

/-
  Own texts of this seat, one behind the other: what each says stands ahead of it.
-/
import Derived.Test.YtogednaamndpgaaGreatDoorProg
import Derived.Test.YtogednaamndpgaaGreatDoorMa
import Derived.WalkSpells
import Derived.Deep.CutBlock
import Derived.Deep.DeepCutAuto
import Derived.BigQuiet
import Derived.Deep.LoopGhost
import Derived.Deep.WholeRow
import Derived.Laws.Rows
import Derived.Laws.Tables
import Derived.Laws.ResultCell
import Derived.WalkKit
import Derived.Laws.BitsAllLaws
import Derived.Laws.Bits64
import Derived.Laws.Bits64b
import Derived.OwnWalk
import Derived.Laws.AppendOwn
import Derived.WalkMore
/-
  What the document's Kraft comes to: the sum of lengths, or none.
  Conditions: the lengths lie in memory.
-/
namespace Go.Proofs.YtogednaamndpgaaGreatDoor
open Go.RowKit
set_option linter.unusedVariables false
/-- Numbers that lie side by side. -/
def Lens (w : World) (a : Option Addr) (zs : List Int) : Prop := zs = [] ∨ ∃ (b o : Nat), a = some ⟨b, o, none⟩ ∧ ∀ (i : Nat) (z : Int), zs[i]? = some z → w.cell? ⟨b, o + i, none⟩ = some (.int .i64 z)
theorem Lens.below {w u : World} {a : Option Addr} {zs : List Int} (h : Lens w a zs) (k : Below w.heap.size w u) : Lens u a zs := by
  rcases h with h | ⟨b, o, ha, hc⟩
  · exact Or.inl h
  · exact Or.inr ⟨b, o, ha, fun i z hz => (k.cell (p := ⟨b, o + i, none⟩) (World.block_lt_of_cell? w ⟨b, o + i, none⟩ (hc i z hz))).trans (hc i z hz)⟩
/-- Lengths that may be. -/
abbrev Okl (zs : List Int) : Prop := zs.length ≤ 320 ∧ ∀ z ∈ zs, 0 ≤ z ∧ z ≤ 15
def lens (zs : List Int) : List Nat := zs.map Int.toNat
theorem kr_snoc : ∀ (ls : List Nat) (l : Nat), kr (ls ++ [l]) = kr ls + (if l = 0 then 0 else 2 ^ (15 - l))
  | [], l => by simp [kr]
  | x :: ls, l => by rw [List.cons_append, kr, kr, kr_snoc ls l]; omega
theorem take_one {α : Type} {l : List α} {k : Nat} {x : α} (h : l[k]? = some x) : l.take (k + 1) = l.take k ++ [x] := by rw [List.take_add_one, h]; rfl
theorem kr_le : ∀ (ls : List Nat), kr ls ≤ ls.length * 32768
  | [] => by simp [kr]
  | x :: ls => by
    have := kr_le ls
    rw [kr, List.length_cons, Nat.add_mul]
    by_cases h : x = 0
    · rw [if_pos h]; omega
    · rw [if_neg h]
      have : 2 ^ (15 - x) ≤ 2 ^ 15 := Nat.pow_le_pow_right (by decide) (by omega)
      omega
set_option maxRecDepth 100000 in
set_option maxHeartbeats 2000000 in
theorem rkraft_c (a : Option Addr) (zs : List Int) (L C r : Nat) (ok : Bool) (w : World) (h : Lens w a zs) (hL : zs.length = L) (hLb : L < 140737488355328) (hr : (Okl zs ∧ r = kr (lens zs) ∧ ok = true) ∨ (¬ Okl zs ∧ r = 0 ∧ ok = false)) :
    Calls Tryz.prog 79 #[.slice a L C] w fun e w' => e = .returned (.tuple #[.int .i64 (r : Int), .bool ok]) ∧ w = w' := by
  have AH : Aside (Lens w a zs ∧ zs.length = L ∧ L < 140737488355328) := ⟨h, hL, hLb⟩
  have AR : Aside ((Okl zs ∧ r = kr (lens zs) ∧ ok = true) ∨ (¬ Okl zs ∧ r = 0 ∧ ok = false)) := hr
  clear h hL hLb hr
  by_cases h320 : 320 < L
  · have h1 : (320 : Int) < (L : Int) := by omega
    have hno : Aside (r = 0 ∧ ok = false) := by
      rcases AR.out with ⟨h, _⟩ | h
      · have := h.1; have := AH.out; omega
      · exact h.2
    clear h320
    go_enter Tryz.func79, Tryz.ntmps79
    go_wp2_with fail
    first | go_ret | go_ret2
    obtain ⟨rfl, rfl⟩ := hno.out
    exact ⟨rfl, rfl⟩
  have h1 : ¬ (320 : Int) < (L : Int) := by omega
  have hLs : (L : Int) ≤ 320 := by omega
  go_enter Tryz.func79, Tryz.ntmps79
  go_wp2_with fail
  clear h1 h320
  go_loopg [4, 5] L (fun g ss si wr => ∃ (s i : Nat), ss = .int .i64 s ∧ si = .int .i64 i ∧ Aside (i + g = L ∧ s = kr (lens (zs.take i)) ∧ ∀ z ∈ zs.take i, 0 ≤ z ∧ z ≤ 15) ∧ w = wr)
  case atStart => exact ⟨0, 0, rfl, rfl, ⟨by omega, rfl, by simp⟩, rfl⟩
  case round =>
    obtain ⟨s, i, rfl, rfl, hI, hw⟩ := hrel
    subst hw
    by_cases hiL : i < L
    · have hi : (i : Int) < (L : Int) := by omega
      obtain ⟨z, hz⟩ : ∃ z, zs[i]? = some z := ⟨_, List.getElem?_eq_getElem (by have := AH.out; omega)⟩
      rcases AH.out.1 with e | ⟨b, o, rfl, hc⟩
      · rw [e] at hz; simp at hz
      have cz := hc i z hz
      have AZ : Aside (zs[i]? = some z ∧ i < L) := ⟨hz, hiL⟩
      clear hc hz hiL
      by_cases hbad : z < 0 ∨ 15 < z
      · have hno : Aside (r = 0 ∧ ok = false) := by
          rcases AR.out with ⟨h, _⟩ | h
          · have := h.2 z (List.mem_of_getElem? AZ.out.1); omega
          · exact h.2
        by_cases hneg : z < 0
        · clear hbad
          go_wp2_with fail
          first | go_ret | go_ret2
          obtain ⟨rfl, rfl⟩ := hno.out
          exact ⟨rfl, rfl⟩
        · have hgt : 15 < z := by omega
          clear hbad
          go_wp2_with fail
          first | go_ret | go_ret2
          obtain ⟨rfl, rfl⟩ := hno.out
          exact ⟨rfl, rfl⟩
      · have hz0 : ¬ z < 0 := by omega
        have hz15 : ¬ 15 < z := by omega
        obtain ⟨l, rfl⟩ : ∃ l : Nat, z = (l : Int) := ⟨z.toNat, by omega⟩
        have hnx : Aside (lens (zs.take (i + 1)) = lens (zs.take i) ++ [l] ∧ (∀ z ∈ zs.take (i + 1), 0 ≤ z ∧ z ≤ 15) ∧ s + (if l = 0 then 0 else 2 ^ (15 - l)) = kr (lens (zs.take (i + 1)))) := by
          have e1 : lens (zs.take (i + 1)) = lens (zs.take i) ++ [l] := by rw [take_one AZ.out.1]; simp [lens]
          refine ⟨e1, ?_, ?_⟩
          · intro y hy
            rw [take_one AZ.out.1] at hy
            rcases List.mem_append.1 hy with hy | hy
            · exact hI.out.2.2 y hy
            · rw [List.mem_singleton.1 hy]; omega
          · rw [e1, kr_snoc, hI.out.2.1]
        have hsb : s ≤ 10485760 := by
          rw [hI.out.2.1]
          have h2 := kr_le (lens (zs.take i))
          have h3 : (lens (zs.take i)).length ≤ 320 := by unfold lens; rw [List.length_map, List.length_take]; omega
          have := Nat.mul_le_mul_right 32768 h3
          omega
        have hib : (i : Int) < 320 := by have := AZ.out; omega
        by_cases hl0 : l = 0
        · subst hl0
          clear hbad hz0 hz15 hsb
          go_wp2_with fail
          have h1 := hnx.out; have h2 := hI.out; have h3 := AZ.out
          go_roundg (L - (i + 1))
          case measure => omega
          case rel => exact ⟨s, i + 1, rfl, by go_num, ⟨by omega, by have := h1.2.2; simpa using this, h1.2.1⟩, rfl⟩
        · have hlp : (0 : Int) < (l : Int) := by omega
          clear hbad
          go_upto_region 6 with fail
          obtain ⟨q, hq⟩ : ∃ q : Nat, 2 ^ (15 - l) = q := ⟨_, rfl⟩
          have hqi : (2 : Int) ^ (15 - l) = (q : Int) := by rw [← hq]; push_cast; rfl
          have hqb : q ≤ 32768 := by rw [← hq]; exact Nat.pow_le_pow_right (n := 2) (by decide) (show 15 - l ≤ 15 by omega)
          have hw : wrap64 ((s : Int) + wrap64 (q : Int)) = ((s + q : Nat) : Int) := by unfold wrap64; omega
          rw [hqi, hw]
          have hs2 : Aside (s + q = kr (lens (zs.take (i + 1)))) := by
            have := hnx.out.2.2
            rw [if_neg hl0, hq] at this
            exact this
          obtain ⟨s2, hs2e⟩ : ∃ s2, s + q = s2 := ⟨_, rfl⟩
          rw [hs2e] at hs2 ⊢
          clear hw hqi hqb hq hs2e hl0 hlp hz0 hz15 cz
          go_wp2_with fail
          have h1 := hnx.out; have h2 := hI.out; have h3 := AZ.out
          go_roundg (L - (i + 1))
          case measure => omega
          case rel => exact ⟨s2, i + 1, rfl, by go_num, ⟨by omega, hs2.out, h1.2.1⟩, rfl⟩
    · have hi : ¬ (i : Int) < (L : Int) := by omega
      have hyes : Aside (s = r ∧ ok = true) := by
        have e : zs.take i = zs := List.take_of_length_le (by have := AH.out; omega)
        have h1 := hI.out
        rw [e] at h1
        rcases AR.out with ⟨_, h2, h3⟩ | ⟨h2, _⟩
        · exact ⟨by rw [h1.2.1, h2], h3⟩
        · exact absurd ⟨by have := AH.out; omega, h1.2.2⟩ h2
      clear hiL
      go_wp2_with fail
      first | go_ret | go_ret2
      obtain ⟨rfl, rfl⟩ := hyes.out
      exact ⟨rfl, rfl⟩
end Go.Proofs.YtogednaamndpgaaGreatDoor

/-
  Rows of sixteen numbers, as the program counts lengths in them: how they are read and written whole, and what the program's count comes to.
  Conditions: the lengths lie in memory.
-/
namespace Go.Proofs.YtogednaamndpgaaGreatDoor
open Go.RowKit
set_option linter.unusedVariables false
def rw16 (f : Nat → Nat) : Array Value := ((List.range 16).map fun j => Value.int .u32 (f j : Nat)).toArray
theorem rw16_size (f : Nat → Nat) : (rw16 f).size = 16 := by simp [rw16]
theorem rw16_at (f : Nat → Nat) (j : Nat) (h : j < 16) : (rw16 f)[j]? = some (.int .u32 (f j : Nat)) := by simp [rw16, h]
theorem rw16_congr {f g : Nat → Nat} (h : ∀ j, j < 16 → f j = g j) : rw16 f = rw16 g := by
  unfold rw16
  exact congrArg List.toArray (List.map_congr_left fun j hj => by rw [h j (List.mem_range.1 hj)])
theorem rw16_set (f : Nat → Nat) (i x : Nat) : (rw16 f).setIfInBounds i (.int .u32 (x : Nat)) = rw16 (fun j => if j = i then x else f j) := by
  apply Array.ext_getElem?
  intro j
  by_cases hj : j < 16
  · rw [Array.getElem?_setIfInBounds, rw16_at _ _ hj, rw16_at _ _ hj, rw16_size]
    by_cases e : i = j
    · subst e; rw [if_pos rfl, if_pos hj, if_pos rfl]
    · rw [if_neg e, if_neg (fun h => e h.symm)]
  · rw [Array.getElem?_eq_none (by simp [rw16_size]; omega), Array.getElem?_eq_none (by rw [rw16_size]; omega)]
theorem rw16_one (f : Nat → Nat) : (rw16 f).all (·.oneCell') = true := by simp [rw16, Value.oneCell']
theorem set_row {w : World} {b : Nat} {cs : Array Value} {t : TypeId} (h : Cells w b cs t) (c : Array Value) : Cells (w.setRow b c) b c t := by
  unfold Cells at *
  simp [World.setRow, Array.getElem?_modify, h]
theorem only_row {w : World} {b : Nat} {cs : Array Value} {t : TypeId} (h : Cells w b cs t) (c : Array Value) : Only b w (w.setRow b c) :=
  ⟨rfl, rfl, rfl, by simp [World.setRow], fun k hk => by
    have : b ≠ k := fun e => hk e.symm
    simp [World.setRow, Array.getElem?_modify, this]⟩
theorem size59 : (Tryz.prog.info? 155).map (·.size) = some 16 := by kernel_rfl
theorem zero59 : Value.agg (rw16 fun _ => 0) = .agg #[.int .u32 0, .int .u32 0, .int .u32 0, .int .u32 0, .int .u32 0, .int .u32 0, .int .u32 0, .int .u32 0, .int .u32 0, .int .u32 0, .int .u32 0, .int .u32 0, .int .u32 0, .int .u32 0, .int .u32 0, .int .u32 0] := by rfl
theorem ret59 {w : World} {B : Nat} {f : Nat → Nat} (h : Cells w B (rw16 f) 155) : (loadVar 155 ⟨B, 0, none⟩).run Tryz.prog w = .ok (.agg (rw16 f)) w :=
  run_loadVar_row _ _ 155 155 _ (0, 0) _ h Tryz.underlying155 rfl (by rw [rw16_size]; exact size59)
set_option maxRecDepth 100000 in
set_option maxHeartbeats 2000000 in
theorem count_c (a : Option Addr) (zs : List Int) (L C : Nat) (f : Nat → Nat) (ok : Bool) (w : World) (h : Lens w a zs) (hL : zs.length = L) (hLb : L < 140737488355328) (hr : (Okl zs ∧ (f = fun j => (lens zs).count j) ∧ ok = true) ∨ (¬ Okl zs ∧ (f = fun _ => 0) ∧ ok = false)) :
    Calls Tryz.prog 107 #[.slice a L C] w fun e w' => e = .returned (.tuple #[.agg (rw16 f), .bool ok]) ∧ Below w.heap.size w w' := by
  have AH : Aside (Lens w a zs ∧ zs.length = L ∧ L < 140737488355328) := ⟨h, hL, hLb⟩
  have AR : Aside ((Okl zs ∧ (f = fun j => (lens zs).count j) ∧ ok = true) ∨ (¬ Okl zs ∧ (f = fun _ => 0) ∧ ok = false)) := hr
  clear h hL hLb hr
  obtain ⟨B, hB⟩ : ∃ B, w.heap.size = B := ⟨_, rfl⟩
  obtain ⟨w1, hw1⟩ : ∃ w1, w1 = w.alloc (.cells (rw16 fun _ => 0) 155) := ⟨_, rfl⟩
  obtain ⟨w2, hw2⟩ : ∃ w2, w2 = w1.alloc (.cells (rw16 fun _ => 0) 155) := ⟨_, rfl⟩
  have hB1 : w1.heap.size = B + 1 := by rw [hw1, ← hB]; exact Array.size_push _
  have c0 : Cells w2 B (rw16 fun _ => 0) 155 := by rw [hw2]; refine Cells.alloc ?_ _; rw [hw1, ← hB]; exact Cells.new w _ 155
  have c1 : Cells w2 (B + 1) (rw16 fun _ => 0) 155 := by rw [hw2, ← hB1]; exact Cells.new w1 _ 155
  have bel : Below B w w2 := by
    rw [hw2, hw1, ← hB]; exact ((Below.refl _ w).alloc (Nat.le_refl _) _).alloc (by show w.heap.size ≤ (w.heap.push _).size; rw [Array.size_push]; omega) _
  have AW : Aside (Cells w2 B (rw16 fun _ => 0) 155 ∧ Cells w2 (B + 1) (rw16 fun _ => 0) 155 ∧ Below B w w2 ∧ w.heap.size = B) := ⟨c0, c1, bel, hB⟩
  clear c0 c1 bel
  have hz : ∀ w', (zeroValue 155).run Tryz.prog w' = .ok (.agg (rw16 fun _ => 0)) w' := fun w' => by kernel_rfl
  have hb : (Tryz.prog.built 155 []).getD #[] = rw16 fun _ => 0 := by kernel_rfl
  have hf : (Tryz.prog.built 155 []).isSome = true := by kernel_rfl
  by_cases h320 : 320 < L
  · have h1 : (320 : Int) < (L : Int) := by omega
    have hno : Aside ((f = fun _ => 0) ∧ ok = false) := by
      rcases AR.out with ⟨h, _⟩ | h
      · have := h.1; have := AH.out; omega
      · exact h.2
    clear h320
    go_enter Tryz.func107, Tryz.ntmps107
    go_upto_region 3 with fail
    rw [← hw1, ← hw2]
    clear hw1 hw2 hB hB1
    go_wp2_with (refine wpList_store_row rfl 155 (.tmp 2) (.tmp 10) rfl B (rw16 fun _ => 0) rfl rfl 155 (rw16 fun _ => 0) AW.out.1 (by rw [rw16_size]; exact size59) rfl (rw16_one _) ?_)
    have hc := set_row AW.out.1 (rw16 fun _ => 0)
    have hbel := AW.out.2.2.1.trans ((only_row AW.out.1 (rw16 fun _ => 0)).below (Nat.le_refl _))
    (try simp only [Exit.inBlock, Exit.then])
    refine bodyPost_ret (v := .tuple #[.agg (rw16 fun _ => 0), .bool false]) ?_ rfl ?_
    · rw [results_cell_tmp rfl]
      simp [asAddr, Result.andThen, ret59 hc]
    · obtain ⟨rfl, rfl⟩ := hno.out
      exact ⟨rfl, by rw [AW.out.2.2.2]; exact hbel⟩
  have h1 : ¬ (320 : Int) < (L : Int) := by omega
  have hLs : (L : Int) ≤ 320 := by omega
  go_enter Tryz.func107, Tryz.ntmps107
  go_upto_region 4 with fail
  rw [← hw1, ← hw2]
  clear hw1 hw2 hB hB1 h320 h1
  go_wp2_with fail
  go_loopg [13] L (fun g si wr => ∃ (i : Nat), si = .int .i64 i ∧ Aside (i + g = L ∧ (∀ z ∈ zs.take i, 0 ≤ z ∧ z ≤ 15) ∧ Cells wr B (rw16 fun _ => 0) 155 ∧ Cells wr (B + 1) (rw16 fun j => (lens (zs.take i)).count j) 155 ∧ Below B w wr))
  case atStart => exact ⟨0, rfl, ⟨by omega, by simp, AW.out.1, AW.out.2.1, AW.out.2.2.1⟩⟩
  case round =>
    obtain ⟨i, rfl, hI⟩ := hrel
    by_cases hiL : i < L
    · have hi : (i : Int) < (L : Int) := by omega
      obtain ⟨z, hz1⟩ : ∃ z, zs[i]? = some z := ⟨_, List.getElem?_eq_getElem (by have := AH.out; omega)⟩
      rcases AH.out.1 with e | ⟨b, o, rfl, hc⟩
      · rw [e] at hz1; simp at hz1
      have hcw := hc i z hz1
      have cz : wr.cell? ⟨b, o + i, none⟩ = some (.int .i64 z) := (hI.out.2.2.2.2.cell (p := ⟨b, o + i, none⟩) (by have := World.block_lt_of_cell? w ⟨b, o + i, none⟩ hcw; rw [AW.out.2.2.2] at this; exact this)).trans hcw
      have AZ : Aside (zs[i]? = some z ∧ i < L) := ⟨hz1, hiL⟩
      clear hc hz1 hiL hcw
      by_cases hbad : z < 0 ∨ 15 < z
      · have hno : Aside ((f = fun _ => 0) ∧ ok = false) := by
          rcases AR.out with ⟨h, _⟩ | h
          · have := h.2 z (List.mem_of_getElem? AZ.out.1); omega
          · exact h.2
        have hc := set_row hI.out.2.2.1 (rw16 fun _ => 0)
        have hbel := hI.out.2.2.2.2.trans ((only_row hI.out.2.2.1 (rw16 fun _ => 0)).below (Nat.le_refl _))
        have AC : Aside (Cells (wr.setRow B (rw16 fun _ => 0)) B (rw16 fun _ => 0) 155 ∧ Below B w (wr.setRow B (rw16 fun _ => 0))) := ⟨hc, hbel⟩
        clear hc hbel
        by_cases hneg : z < 0
        · clear hbad
          go_wp2_with (refine wpList_store_row rfl 155 (.tmp 2) (.tmp 23) rfl B (rw16 fun _ => 0) rfl rfl 155 (rw16 fun _ => 0) hI.out.2.2.1 (by rw [rw16_size]; exact size59) rfl (rw16_one _) ?_)
          (try simp only [Exit.inBlock, Exit.then])
          refine bodyPost_ret (v := .tuple #[.agg (rw16 fun _ => 0), .bool false]) ?_ rfl ?_
          · rw [results_cell_tmp rfl]
            simp [asAddr, Result.andThen, ret59 AC.out.1]
          · obtain ⟨rfl, rfl⟩ := hno.out
            exact ⟨rfl, by rw [AW.out.2.2.2]; exact AC.out.2⟩
        · have hgt : 15 < z := by omega
          clear hbad
          go_wp2_with (refine wpList_store_row rfl 155 (.tmp 2) (.tmp 23) rfl B (rw16 fun _ => 0) rfl rfl 155 (rw16 fun _ => 0) hI.out.2.2.1 (by rw [rw16_size]; exact size59) rfl (rw16_one _) ?_)
          (try simp only [Exit.inBlock, Exit.then])
          refine bodyPost_ret (v := .tuple #[.agg (rw16 fun _ => 0), .bool false]) ?_ rfl ?_
          · rw [results_cell_tmp rfl]
            simp [asAddr, Result.andThen, ret59 AC.out.1]
          · obtain ⟨rfl, rfl⟩ := hno.out
            exact ⟨rfl, by rw [AW.out.2.2.2]; exact AC.out.2⟩
      · have hz0 : ¬ z < 0 := by omega
        have hz15 : ¬ 15 < z := by omega
        obtain ⟨l, rfl⟩ : ∃ l : Nat, z = (l : Int) := ⟨z.toNat, by omega⟩
        have hl16 : l < 16 := by omega
        have hnx : Aside ((∀ z ∈ zs.take (i + 1), 0 ≤ z ∧ z ≤ 15) ∧ ∀ j, (lens (zs.take (i + 1))).count j = if j = l then (lens (zs.take i)).count l + 1 else (lens (zs.take i)).count j) := by
          have e1 : lens (zs.take (i + 1)) = lens (zs.take i) ++ [l] := by rw [take_one AZ.out.1]; simp [lens]
          refine ⟨?_, ?_⟩
          · intro y hy
            rw [take_one AZ.out.1] at hy
            rcases List.mem_append.1 hy with hy | hy
            · exact hI.out.2.1 y hy
            · rw [List.mem_singleton.1 hy]; omega
          · intro j
            rw [e1, List.count_append]
            by_cases e : j = l
            · subst e; rw [if_pos rfl]; simp
            · rw [if_neg e]
              have : List.count j [l] = 0 := by rw [List.count_cons, List.count_nil]; simp; exact fun h => e h.symm
              omega
        obtain ⟨q, hq⟩ : ∃ q, (lens (zs.take i)).count l = q := ⟨_, rfl⟩
        have hqb : q ≤ 320 := by
          rw [← hq]
          have h2 := List.count_le_length (a := l) (l := lens (zs.take i))
          have h3 : (lens (zs.take i)).length ≤ 320 := by unfold lens; rw [List.length_map, List.length_take]; omega
          omega
        have cq : wr.cell? ⟨B + 1, l, none⟩ = some (.int .u32 (q : Int)) := by rw [hI.out.2.2.2.1.cell, rw16_at _ _ hl16, hq]
        have fq := hI.out.2.2.2.1.frozen l
        have AQ : Aside ((lens (zs.take i)).count l = q) := hq
        clear hbad hq
        have hlI : (l : Int) < 16 := by omega
        go_wp2_with fail
        go_roundg (L - (i + 1))
        case measure => have := hI.out.1; have := AZ.out.2; omega
        case rel =>
          refine ⟨i + 1, by go_num, ⟨by have := AZ.out.2; omega, hnx.out.1, ?_, ?_, ?_⟩⟩
          · exact hI.out.2.2.1.only ((Only.refl (B + 1) wr).setCell l _) (by omega)
          · have := hI.out.2.2.2.1.set l (.int .u32 ((q + 1 : Nat) : Int))
            rw [rw16_set] at this
            have e : (rw16 fun j => if j = l then q + 1 else (lens (zs.take i)).count j) = rw16 fun j => (lens (zs.take (i + 1))).count j := rw16_congr fun j _ => by
              rw [hnx.out.2 j, AQ.out]
            rw [e] at this
            exact this
          · exact hI.out.2.2.2.2.setCell (p := ⟨B + 1, l, none⟩) (by show B ≤ B + 1; omega) _
    · have hieq : i = L := by have := hI.out.1; omega
      have hni : ¬ (i : Int) < (L : Int) := by omega
      have hall : zs.take i = zs := List.take_of_length_le (by have := AH.out.2.1; omega)
      have hI2 := hI.out
      rw [hall] at hI2
      have hyes : Aside ((f = fun j => (lens zs).count j) ∧ ok = true) := by
        rcases AR.out with h | ⟨h, _⟩
        · exact h.2
        · exact absurd ⟨by have := AH.out.2.1; omega, hI2.2.1⟩ h
      have hc := set_row hI2.2.2.1 (rw16 fun j => (lens zs).count j)
      have hbel := hI2.2.2.2.2.trans ((only_row hI2.2.2.1 (rw16 fun j => (lens zs).count j)).below (Nat.le_refl _))
      have hc1 := hI2.2.2.2.1
      have hc0 := hI2.2.2.1
      obtain ⟨R, hR⟩ : ∃ R, (rw16 fun j => (lens zs).count j) = R := ⟨_, rfl⟩
      have hRs : R.size = 16 := by rw [← hR]; exact rw16_size _
      have hR1 : R.all (·.oneCell') = true := by rw [← hR]; exact rw16_one _
      rw [hR] at hc hbel hc1
      have AC : Aside (Cells (wr.setRow B R) B R 155 ∧ Below B w (wr.setRow B R) ∧ (rw16 fun j => (lens zs).count j) = R) := ⟨hc, hbel, hR⟩
      clear hI2 hI hc hbel hR hall hieq hiL
      go_wp2_with (first
        | (refine wpList_load_row rfl 155 (.tmp 4) rfl (B + 1) rfl 155 _ (0, 0) _ hc1 Tryz.underlying155 rfl (by rw [hRs]; exact size59) ?_)
        | (refine wpList_store_row rfl 155 (.tmp 2) (.tmp 30) rfl B R rfl rfl 155 (rw16 fun _ => 0) hc0 (by rw [hRs]; exact size59) (by rw [hRs]; rfl) hR1 ?_))
      (try simp only [Exit.inBlock, Exit.then])
      refine bodyPost_ret (v := .tuple #[.agg R, .bool true]) ?_ rfl ?_
      · rw [results_cell_tmp rfl]
        have := AC.out.1
        rw [← AC.out.2.2] at this ⊢
        simp [asAddr, Result.andThen, ret59 this]
      · obtain ⟨rfl, rfl⟩ := hyes.out
        exact ⟨by rw [AC.out.2.2], by rw [AW.out.2.2.2]; exact AC.out.2.1⟩
end Go.Proofs.YtogednaamndpgaaGreatDoor

/-
  Numbers and their bits: what a shift, a mask and an 'or' come to, as sums, quotients and remainders.
-/
namespace Go.Proofs.YtogednaamndpgaaGreatDoor
open Go.RowKit
theorem pow_le64 {n m : Nat} (h : n ≤ m) : 2 ^ n ≤ 2 ^ m := Nat.pow_le_pow_right (by decide) h
theorem lt_word {v n : Nat} (h : v < 2 ^ n) (h64 : n ≤ 64) : v < 18446744073709551616 := Nat.lt_of_lt_of_le h (pow_le64 h64)
theorem wrap64_nat {a : Nat} (h : a < 18446744073709551616) : IntKind.u64.wrap (a : Int) = (a : Int) := by rw [IntKind.wrap_u64]; omega
/-- A byte laid upon the bits below it. -/
theorem or_put (v n x : Nat) (hv : v < 2 ^ n) (hn : n ≤ 56) (hx : x < 256) : bits .or .u64 (v : Int) (IntKind.u64.wrap ((x : Int) * 2 ^ n)) = ((v + x * 2 ^ n : Nat) : Int) := by
  have h1 : x * 2 ^ n < 18446744073709551616 := by
    have := pow_le64 hn
    calc x * 2 ^ n ≤ 255 * 2 ^ 56 := Nat.mul_le_mul (by omega) this
      _ < _ := by decide
  have e : (x : Int) * 2 ^ n = ((x * 2 ^ n : Nat) : Int) := by push_cast; rfl
  rw [e, wrap64_nat h1]
  have h2 := lt_word hv (by omega)
  rw [u64_or_nat v _ h2 h1]
  congr 1
  rw [Nat.or_comm, Nat.mul_comm x, ← Nat.two_pow_add_eq_or_of_lt hv]
  omega
theorem put_lt (v n x : Nat) (hv : v < 2 ^ n) (hx : x < 256) : v + x * 2 ^ n < 2 ^ (n + 8) := by
  have : (x + 1) * 2 ^ n ≤ 256 * 2 ^ n := Nat.mul_le_mul (by omega) (Nat.le_refl _)
  rw [Nat.add_mul] at this
  rw [Nat.pow_add]
  omega
/-- The lowest k bits. -/
theorem and_mask (v k : Nat) (hv : v < 18446744073709551616) (hk : k ≤ 32) : bits .and .u64 (v : Int) (IntKind.u64.wrap (IntKind.u64.wrap (2 ^ k) - 1)) % 4294967296 = ((v % 2 ^ k : Nat) : Int) := by
  have h1 : 2 ^ k ≤ 4294967296 := pow_le64 hk
  have h0 : 0 < 2 ^ k := Nat.two_pow_pos k
  have e : (2 : Int) ^ k = ((2 ^ k : Nat) : Int) := by push_cast; rfl
  rw [e, wrap64_nat (by omega)]
  have e2 : ((2 ^ k : Nat) : Int) - 1 = ((2 ^ k - 1 : Nat) : Int) := by omega
  rw [e2, wrap64_nat (by omega), u64_and_nat v _ hv (by omega), Nat.and_two_pow_sub_one_eq_mod]
  have : v % 2 ^ k < 2 ^ k := Nat.mod_lt _ h0
  omega
theorem div_nat (v k : Nat) : (v : Int) / 2 ^ k = ((v / 2 ^ k : Nat) : Int) := by push_cast; rfl
theorem div_lt (v n k : Nat) (hv : v < 2 ^ n) (hk : k ≤ n) : v / 2 ^ k < 2 ^ (n - k) := by
  rw [Nat.div_lt_iff_lt_mul (Nat.two_pow_pos k), ← Nat.pow_add]
  rw [show n - k + k = n by omega]; exact hv
end Go.Proofs.YtogednaamndpgaaGreatDoor

/-
  Lists of bits and their numbers: what a list behind another one, its first bits and what is left behind them come to.
-/
namespace Go.Proofs.YtogednaamndpgaaGreatDoor
/-- The number of some bits, the first one lowest. -/
def nm : List Bool → Nat
  | [] => 0
  | b :: r => b.toNat + 2 * nm r
theorem nm_lt : ∀ l : List Bool, nm l < 2 ^ l.length
  | [] => by simp [nm]
  | b :: r => by
    have := nm_lt r
    rw [nm, List.length_cons, Nat.pow_succ]
    have : b.toNat ≤ 1 := Bool.toNat_le b
    omega
theorem nm_append : ∀ l r : List Bool, nm (l ++ r) = nm l + nm r * 2 ^ l.length
  | [], r => by simp [nm]
  | b :: l, r => by
    rw [List.cons_append, nm, nm, nm_append l r, List.length_cons, Nat.pow_succ', Nat.mul_left_comm]
    omega
theorem nm_take : ∀ (k : Nat) (l : List Bool), nm (l.take k) = nm l % 2 ^ k
  | 0, l => by simp [nm, Nat.mod_one]
  | k + 1, [] => by simp [nm]
  | k + 1, b :: l => by
    rw [List.take_succ_cons, nm, nm, nm_take k l, Nat.pow_succ', Nat.mod_mul]
    have : b.toNat ≤ 1 := Bool.toNat_le b
    rw [show (b.toNat + 2 * nm l) % 2 = b.toNat by omega, show (b.toNat + 2 * nm l) / 2 = nm l by omega]
theorem nm_drop : ∀ (k : Nat) (l : List Bool), nm (l.drop k) = nm l / 2 ^ k
  | 0, l => by simp
  | k + 1, [] => by simp [nm]
  | k + 1, b :: l => by
    rw [List.drop_succ_cons, nm, nm_drop k l, Nat.pow_succ', ← Nat.div_div_eq_div_mul]
    have : b.toNat ≤ 1 := Bool.toNat_le b
    rw [show (b.toNat + 2 * nm l) / 2 = nm l by omega]
/-- The lowest k bits of a number, the lowest one first. -/
def bitsOf (k x : Nat) : List Bool := (List.range k).map fun i => x / 2 ^ i % 2 == 1
theorem bitsOf_length (k x : Nat) : (bitsOf k x).length = k := by simp [bitsOf]
theorem bitsOf_succ (k x : Nat) : bitsOf (k + 1) x = bitsOf k x ++ [x / 2 ^ k % 2 == 1] := by
  simp [bitsOf, List.range_succ]
theorem nm_bitsOf : ∀ (k x : Nat), nm (bitsOf k x) = x % 2 ^ k
  | 0, x => by simp [bitsOf, nm, Nat.mod_one]
  | k + 1, x => by
    rw [bitsOf_succ, nm_append, nm_bitsOf k x, bitsOf_length, nm, nm, Nat.pow_succ, Nat.mod_mul]
    have h2 : x / 2 ^ k % 2 = 0 ∨ x / 2 ^ k % 2 = 1 := by omega
    rcases h2 with h2 | h2 <;> rw [h2] <;> simp
theorem nm_byte (x : Nat) (h : x < 256) : nm (bitsOf 8 x) = x := by rw [nm_bitsOf]; exact Nat.mod_eq_of_lt h
/-- From the end: one bit more ahead of what stands behind it. -/
theorem nm_ahead (l : List Bool) (k : Nat) (h : k < l.length) : nm (l.drop k) = (l[k]).toNat + 2 * nm (l.drop (k + 1)) := by
  rw [List.drop_eq_getElem_cons h, nm]
end Go.Proofs.YtogednaamndpgaaGreatDoor

/-
  What the document's own Bits and Number come to: a byte's bits as a list that is the call's own, and the number of a list of bits.
  Conditions: the byte is one; the list has at most 64 bits.
-/
namespace Go.Proofs.YtogednaamndpgaaGreatDoor
open Go.RowKit
theorem info4 : (Tryz.prog.info? 4).map (fun i => (i.zero, i.size, i.bytes)) = some (some (.bool false), 1, 1) := by kernel_rfl
/-- The values of some bits. -/
def vb (l : List Bool) : List Value := l.map Value.bool
theorem vb_length (l : List Bool) : (vb l).length = l.length := by simp [vb]
theorem vb_one {l : List Bool} : ∀ u ∈ vb l, u.oneCell' = true := by
  intro u hu
  obtain ⟨b, _, rfl⟩ := List.mem_map.1 hu
  rfl

/-- Where the bits of a list lie: nowhere, if it has none; else cell by cell. -/
def Lie (w : World) (a : Option Addr) (l : List Bool) : Prop := l = [] ∨ ∃ g off, a = some ⟨g, off, none⟩ ∧ ∀ i (h : i < l.length), w.cell? ⟨g, off + i, none⟩ = some (.bool l[i])

end Go.Proofs.YtogednaamndpgaaGreatDoor

/-
  The document's table in memory, and how a code is laid into it. No walk in this text.
-/
namespace Go.Proofs.YtogednaamndpgaaGreatDoor
open Go.RowKit
set_option linter.unusedVariables false
theorem info42 : (Tryz.prog.info? 131).map (fun i => (i.zero, i.size, i.bytes)) = some (some (.slice none 0 0), 1, 24) := by kernel_rfl
theorem made_bools (n : Nat) (hn : n ≤ 1048576) (w : World) : (Instr.makeSlice 131 (.int .i64 (n : Int)) (.int .i64 (n : Int))).run Tryz.prog w = .ok (.slice (some ⟨w.heap.size, 0, none⟩) n n) (w.alloc (.cells (vb (List.replicate n false)).toArray 4)) := by
  obtain ⟨i, hi, hz, hs, hb⟩ := info_parts info4
  have := run_make (P := Tryz.prog) w 131 4 i _ Tryz.underlying131 hi hz .i64 .i64 n n (by omega) (by omega) (by rw [hb]; omega) (by omega)
  rw [this, hs]
  have e : madeCells (Value.bool false).cells ((n : Int).toNat * 1) = (vb (List.replicate n false)).toArray := by
    apply Array.toList_inj.1
    show (madeCells #[Value.bool false] _).toList = _
    rw [toList_madeCells_one]
    simp [vb]
  rw [e]
  simp
theorem made_rows (n : Nat) (hn : n ≤ 1048576) (w : World) : (Instr.makeSlice 128 (.int .i64 (n : Int)) (.int .i64 (n : Int))).run Tryz.prog w = .ok (.slice (some ⟨w.heap.size, 0, none⟩) n n) (w.alloc (.cells (List.replicate n (Value.slice none 0 0)).toArray 131)) := by
  obtain ⟨i, hi, hz, hs, hb⟩ := info_parts info42
  have := run_make (P := Tryz.prog) w 128 131 i _ Tryz.underlying128 hi hz .i64 .i64 n n (by omega) (by omega) (by rw [hb]; omega) (by omega)
  rw [this, hs]
  have e : madeCells (Value.slice none 0 0).cells ((n : Int).toNat * 1) = (List.replicate n (Value.slice none 0 0)).toArray := by
    apply Array.toList_inj.1
    show (madeCells #[Value.slice none 0 0] _).toList = _
    rw [toList_madeCells_one]
    simp
  rw [e]
  simp
/-- A list of bits in a block of its own. -/
def Bb (w : World) (b : Nat) (l : List Bool) : Prop := Cells w b (vb l).toArray 4
/-- The table while it is laid: those of fewer than n bits, and of n bits ahead of symbol i. -/
structure Tl (w0 w : World) (T g : Nat) (ls : List Nat) (n i : Nat) : Prop where
  t : Cells w T #[.slice (some ⟨g, 0, none⟩) ls.length ls.length] 130
  row : ∃ rows, Cells w g rows 131 ∧ rows.size = ls.length ∧ ∀ (j m : Nat), ls[j]? = some m → (0 < m ∧ (m < n ∨ (m = n ∧ j < i)) → ∃ b, rows[j]? = some (.slice (some ⟨b, 0, none⟩) m m) ∧ Bb w b (bitsB m (code ls j m)) ∧ w0.heap.size ≤ b) ∧ (¬ (0 < m ∧ (m < n ∨ (m = n ∧ j < i))) → rows[j]? = some (.slice none 0 0))
  bel : Below w0.heap.size w0 w
  tb : w0.heap.size ≤ T
  gb : w0.heap.size ≤ g
theorem Tl.below {w0 w u : World} {T g : Nat} {ls : List Nat} {n i : Nat} (h : Tl w0 w T g ls n i) (k : Below w.heap.size w u) : Tl w0 u T g ls n i := by
  obtain ⟨rows, h1, h2, h3⟩ := h.row
  refine ⟨h.t.below k h.t.lt, ⟨rows, h1.below k h1.lt, h2, fun j m hj => ⟨fun hc => ?_, (h3 j m hj).2⟩⟩, h.bel.trans (k.mono h.bel.size), h.tb, h.gb⟩
  obtain ⟨b, e1, e2, e3⟩ := (h3 j m hj).1 hc
  exact ⟨b, e1, Cells.below e2 k (Cells.lt e2), e3⟩
/-- A symbol of another length: nothing is laid. -/
theorem Tl.skip {w0 w : World} {T g : Nat} {ls : List Nat} {n i m : Nat} (h : Tl w0 w T g ls n i) (hi : ls[i]? = some m) (hm : m ≠ n) : Tl w0 w T g ls n (i + 1) := by
  obtain ⟨rows, h1, h2, h3⟩ := h.row
  refine ⟨h.t, ⟨rows, h1, h2, fun j k hj => ⟨fun hc => (h3 j k hj).1 ⟨hc.1, ?_⟩, fun hc => (h3 j k hj).2 fun hc2 => hc ⟨hc2.1, ?_⟩⟩⟩, h.bel, h.tb, h.gb⟩
  · rcases hc.2 with hlt | ⟨e, hlt⟩
    · exact Or.inl hlt
    · right
      refine ⟨e, ?_⟩
      rcases Nat.lt_or_ge j i with h4 | h4
      · exact h4
      · have e2 : j = i := by omega
        subst e2
        rw [hi] at hj; cases hj
        exact absurd e hm
  · rcases hc2.2 with hlt | ⟨e, hlt⟩
    · exact Or.inl hlt
    · exact Or.inr ⟨e, by omega⟩
/-- A symbol's code is laid. -/
theorem Tl.put {w0 w : World} {T g b : Nat} {ls : List Nat} {n i : Nat} (h : Tl w0 w T g ls n i) (hi : ls[i]? = some n) (hn : 0 < n) (hbw : w0.heap.size ≤ b) (hb : Bb w b (bitsB n (code ls i n))) : Tl w0 (w.setCell ⟨g, i, none⟩ (.slice (some ⟨b, 0, none⟩) n n)) T g ls n (i + 1) := by
  obtain ⟨rows, h1, h2, h3⟩ := h.row
  have hTg : T ≠ g := fun e => by
    have := h.t; unfold Cells at this h1; rw [e, h1] at this; cases this
  have hil := (List.getElem?_eq_some_iff.1 hi).1
  have far : ∀ {c : Nat} {l : List Bool}, Bb w c l → Bb (w.setCell ⟨g, i, none⟩ (.slice (some ⟨b, 0, none⟩) n n)) c l := by
    intro c l hc
    have hne : c ≠ g := fun e => by unfold Bb Cells at hc; unfold Cells at h1; rw [e, h1] at hc; cases hc
    unfold Bb Cells at *
    rw [Below.heap_setCell _ _ _ _ hne]; exact hc
  refine ⟨?_, ⟨_, h1.set i _, by rw [Array.size_setIfInBounds]; exact h2, fun j m hj => ⟨fun hc => ?_, fun hc => ?_⟩⟩, h.bel.setCell (p := ⟨g, i, none⟩) h.gb _, h.tb, h.gb⟩
  · have ht := h.t
    unfold Cells at *
    rw [Below.heap_setCell _ _ _ _ hTg]; exact ht
  · rw [Array.getElem?_setIfInBounds]
    by_cases e : i = j
    · subst e
      rw [hi] at hj; cases hj
      rw [if_pos rfl, if_pos (by omega)]
      exact ⟨b, rfl, far hb, hbw⟩
    · rw [if_neg e]
      obtain ⟨c, e1, e2, e5⟩ := (h3 j m hj).1 ⟨hc.1, by
        rcases hc.2 with hlt | ⟨e4, hlt⟩
        · exact Or.inl hlt
        · exact Or.inr ⟨e4, by omega⟩⟩
      exact ⟨c, e1, far e2, e5⟩
  · rw [Array.getElem?_setIfInBounds]
    by_cases e : i = j
    · subst e
      rw [hi] at hj; cases hj
      exact absurd ⟨hn, Or.inr ⟨rfl, by omega⟩⟩ hc
    · rw [if_neg e]
      refine (h3 j m hj).2 fun hc2 => hc ⟨hc2.1, ?_⟩
      rcases hc2.2 with hlt | ⟨e4, hlt⟩
      · exact Or.inl hlt
      · exact Or.inr ⟨e4, by omega⟩
/-- The next length. -/
theorem Tl.next {w0 w : World} {T g : Nat} {ls : List Nat} {n i : Nat} (h : Tl w0 w T g ls n i) (hi : i = ls.length) : Tl w0 w T g ls (n + 1) 0 := by
  obtain ⟨rows, h1, h2, h3⟩ := h.row
  refine ⟨h.t, ⟨rows, h1, h2, fun j m hj => ?_⟩, h.bel, h.tb, h.gb⟩
  have hjl := (List.getElem?_eq_some_iff.1 hj).1
  refine ⟨fun hc => (h3 j m hj).1 ⟨hc.1, by omega⟩, fun hc => (h3 j m hj).2 fun hc2 => hc ⟨hc2.1, by omega⟩⟩
/-- The document's table of some lengths. -/
structure Tb (w : World) (T : Nat) (ls : List Nat) : Prop where
  cells : ∃ g rows, w.cell? ⟨T, 0, none⟩ = some (.slice (some ⟨g, 0, none⟩) ls.length ls.length) ∧ Cells w g rows 131 ∧ ∀ (j m : Nat), ls[j]? = some m → (0 < m → ∃ b, rows[j]? = some (.slice (some ⟨b, 0, none⟩) m m) ∧ Bb w b (bitsB m (code ls j m))) ∧ (m = 0 → rows[j]? = some (.slice none 0 0))
  kind : ∃ cs, Cells w T cs 130
theorem Tl.tb_ {w0 w : World} {T g : Nat} {ls : List Nat} {i : Nat} (h : Tl w0 w T g ls 16 i) (h15 : ∀ l ∈ ls, l ≤ 15) : Tb w T ls ∧ ∀ u, (∀ k, w0.heap.size ≤ k → k < w.heap.size → u.heap[k]? = w.heap[k]?) → Tb u T ls := by
  obtain ⟨rows, h1, h2, h3⟩ := h.row
  have key : ∀ u, (∀ k, w0.heap.size ≤ k → k < w.heap.size → u.heap[k]? = w.heap[k]?) → Tb u T ls := by
    intro u hk
    have ht : Cells u T #[.slice (some ⟨g, 0, none⟩) ls.length ls.length] 130 := (hk T h.tb h.t.lt).trans h.t
    have hr : Cells u g rows 131 := (hk g h.gb h1.lt).trans h1
    refine ⟨⟨g, rows, Cells.cell ht 0, hr, fun j m hj => ⟨fun hm => ?_, fun hm => (h3 j m hj).2 fun hc => by omega⟩⟩, _, ht⟩
    have := h15 m (List.mem_of_getElem? hj)
    obtain ⟨b, e1, e2, e3⟩ := (h3 j m hj).1 ⟨hm, Or.inl (by omega)⟩
    exact ⟨b, e1, (hk b e3 (Cells.lt e2)).trans e2⟩
  exact ⟨key w fun _ _ _ => rfl, key⟩
theorem Tb.below {w u : World} {T : Nat} {ls : List Nat} (h : Tb w T ls) (k : Below w.heap.size w u) : Tb u T ls := by
  obtain ⟨g, rows, c0, h1, h3⟩ := h.cells
  obtain ⟨cs, hcs⟩ := h.kind
  refine ⟨⟨g, rows, (k.cell (p := ⟨T, 0, none⟩) (World.block_lt_of_cell? w ⟨T, 0, none⟩ c0)).trans c0, h1.below k h1.lt, fun j m hj => ⟨fun hm => ?_, (h3 j m hj).2⟩⟩, cs, hcs.below k hcs.lt⟩
  obtain ⟨b, e1, e2⟩ := (h3 j m hj).1 hm
  exact ⟨b, e1, Cells.below e2 k (Cells.lt e2)⟩
theorem bits_last : ∀ (n j x : Nat), j < n → (bitsB n x)[j]? = some (x / 2 ^ (n - 1 - j) % 2 == 1)
  | 0, j, x, h => by omega
  | n + 1, 0, x, _ => by simp [bitsB]
  | n + 1, j + 1, x, h => by
    rw [bitsB, List.getElem?_cons_succ, bits_last n j x (by omega), show n + 1 - 1 - (j + 1) = n - 1 - j by omega]
theorem bits_row {n j c : Nat} (hj : 0 < j) (hjn : j ≤ n) : (List.replicate j false ++ (bitsB n c).drop j).set (j - 1) (c / 2 ^ (n - j) % 2 == 1) = List.replicate (j - 1) false ++ (bitsB n c).drop (j - 1) := by
  have hb := bits_last n (j - 1) c (by omega)
  rw [show n - 1 - (j - 1) = n - j by omega] at hb
  have hl : j - 1 < (bitsB n c).length := by rw [bitsB_len]; omega
  have hd : (bitsB n c).drop (j - 1) = (c / 2 ^ (n - j) % 2 == 1) :: (bitsB n c).drop j := by
    rw [List.drop_eq_getElem_cons hl, show j - 1 + 1 = j by omega]
    congr 1
    rw [List.getElem?_eq_getElem hl] at hb
    exact Option.some.inj hb
  rw [hd]
  obtain ⟨q, rfl⟩ : ∃ q, j = q + 1 := ⟨j - 1, by omega⟩
  rw [List.replicate_succ', List.append_assoc, show q + 1 - 1 = q by omega, List.set_append_right _ _ (by simp), List.length_replicate, Nat.sub_self]
  rfl
theorem Bb.set {w : World} {b : Nat} {l : List Bool} (h : Bb w b l) (i : Nat) (x : Bool) : Bb (w.setCell ⟨b, i, none⟩ (.bool x)) b (l.set i x) := by
  have := Cells.set h i (.bool x)
  unfold Bb
  have e : (vb (l.set i x)).toArray = (vb l).toArray.setIfInBounds i (.bool x) := by
    apply Array.toList_inj.1
    simp [vb, List.map_set]
  rw [e]; exact this
end Go.Proofs.YtogednaamndpgaaGreatDoor

/-
  Numbers out of strings: what the library's ParseUint comes to at digits of base ten and 63 bits; its errors.
-/
import Derived.Test.YtcmmjbkgoafbnaaGreatDoorWme
import Derived.Test.YtcmmjbkgoafbnaaGreatDoorAps
import Derived.Test.YtcmmjbkgoafbnaaGreatDoorCnv
import Derived.Lib.BufferWrite
import Derived.Lib.UnsafeStr
import Derived.Deep.OwnRows
import Derived.Laws.CopyOwn
import Derived.Deep.RegionHeld3
namespace Go.Proofs.YtcmmjbkgoafbnaaGreatDoor
open Go.RowKit
set_option linter.unusedVariables false
theorem byteCells_st {l : List Nat} (ho : Oct l) : Lib.byteCells (st l).data.toList = ob l := strCells_st ho
set_option maxHeartbeats 1000000 in
theorem clone_c (l : List Nat) (ho : Oct l) (hl : l.length ≤ 140737488355328) (w : World) : Calls Tryz.prog 85 #[.string (st l)] w fun e w' => e = .returned (.string (st l)) ∧ Below w.heap.size w w' := by
  have z1 : (st l).size = l.length := st_size l
  by_cases h0 : l = []
  · subst h0
    obtain ⟨s, hs⟩ : ∃ s, s = st [] := ⟨_, rfl⟩
    have z2 : s.size = 0 := by rw [hs]; rfl
    have A : Aside (s = ⟨#[]⟩) := hs
    rw [← hs]
    clear hs hl ho z1
    go_enter Tryz.func85, Tryz.ntmps85
    go_wp2
    go_ret
    exact ⟨by rw [A.out]; rfl, Below.refl _ _⟩
  · have hpos : 0 < l.length := by
      cases l with
      | nil => exact absurd rfl h0
      | cons _ _ => simp
    obtain ⟨w1, hw1⟩ : ∃ w1, w1 = w.alloc (.cells (madeCells #[.int .u8 0] l.length) 5) := ⟨_, rfl⟩
    obtain ⟨H, hH⟩ : ∃ H, w.heap.size = H := ⟨_, rfl⟩
    have hmk := run_make_row' (P := Tryz.prog) 22 5 (.int .u8 0) 1 Tryz.underlying22 ginfo5 rfl .i64 .i64 l.length (by omega) (by omega) w
    rw [← hw1, hH] at hmk
    have k1 : w1.heap[H]? = some (.cells (madeCells #[.int .u8 0] l.length) 5 (0, 0)) := by
      rw [hw1, ← hH]
      exact Cells.new w _ 5
    have hsz : (madeCells #[.int .u8 0] l.length).size = l.length := by simp [madeCells]
    have hcp := fun ty => Lib.run_copy_row_string (P := Tryz.prog) w1 22 9 ty 5 H 0 l.length l.length (st l) _ 5 Tryz.underlying22 (by kernel_rfl) k1 (by rw [z1]; exact Nat.le_refl _) (by rw [z1, hsz]; omega)
    have e2 : ((madeCells #[.int .u8 0] l.length).toList.take 0 ++ Lib.byteCells (st l).data.toList ++ (madeCells #[.int .u8 0] l.length).toList.drop (0 + (st l).size)) = ob l := by
      rw [byteCells_st ho, z1, List.drop_of_length_le (by rw [Array.length_toList, hsz]; omega)]
      simp
    rw [e2] at hcp
    obtain ⟨w2, hw2⟩ : ∃ w2, w2 = w1.setRow H (ob l).toArray := ⟨_, rfl⟩
    have k2 : w2.heap[H]? = some (.cells (ob l).toArray 5 (0, 0)) := by rw [hw2]; exact setRow_heap w1 H _ _ 5 (0, 0) k1
    rw [← hw2] at hcp
    rw [z1] at hcp
    have hus := fun ty => Lib.run_unsafeString_row (P := Tryz.prog) w2 119 3 ty 5 Tryz.underlying119 (by kernel_rfl) H l.length (by
      unfold World.shape?
      rw [k2]
      simp [ob]) (l.map UInt8.ofNat) (by simpa using h0) (by simp) (by simp; omega) (fun j x hx => by
        rw [addr_add, Nat.zero_add, Cells.cell (cs := (ob l).toArray) (t := 5) k2]
        rw [List.getElem?_map] at hx
        cases hy : l[j]? with
        | none => rw [hy] at hx; simp at hx
        | some y =>
          rw [hy] at hx
          simp at hx
          have := ho y (List.mem_of_getElem? hy)
          rw [List.getElem?_toArray, ob_get, hy, ← hx]
          simp
          omega)
    obtain ⟨w3, hw3⟩ : ∃ w3, w3 = w2.freeze ⟨H, 0, none⟩ (l.map UInt8.ofNat).length := ⟨_, rfl⟩
    have hb3 : Below H w w3 := by
      have b1 : Below H w w1 := by rw [hw1, ← hH]; exact (Below.refl _ w).alloc (Nat.le_refl _) _
      have b2 : Below H w w2 := by rw [hw2]; exact below_setRow b1 (Nat.le_refl _) _
      rw [hw3]
      exact Lib.below_freeze b2 (Nat.le_refl _) _
    rw [← hw3, List.length_map] at hus
    have est : (⟨(l.map UInt8.ofNat).toArray⟩ : ByteArray) = st l := rfl
    rw [est] at hus
    have c0 : (w2.cell? ⟨H, 0, none⟩).isSome = true := by
      rw [Cells.cell (cs := (ob l).toArray) (t := 5) k2]
      simp [ob]; exact hpos
    obtain ⟨s, hs⟩ : ∃ s, s = st l := ⟨_, rfl⟩
    obtain ⟨L, hL⟩ : ∃ L, l.length = L := ⟨_, rfl⟩
    rw [← hs, hL] at z1 hcp hus
    rw [hL] at hmk
    rw [hH, ← hs]
    have t1 : ((L : Int) == 0) = false := by rw [beq_eq_false_iff_ne]; omega
    have t2 : (0 : Int) < (L : Int) := by omega
    have t3 : 0 < L := by omega
    have A3 : Aside (Below H w w3) := hb3
    clear hl ho hpos h0 hw1 k1 hsz e2 hw2 k2 hw3 hb3 est hs hL hH
    go_enter Tryz.func85, Tryz.ntmps85
    go_wp2
    go_ret
    exact ⟨rfl, A3.out⟩

/-- The library's two errors lie in their places. -/
def Er (w : World) : Prop := 3 ≤ w.heap.size ∧ ∃ t1 x1 t2 x2, w.cell? ⟨1, 0, none⟩ = some (.iface t1 x1) ∧ w.cell? ⟨2, 0, none⟩ = some (.iface t2 x2)
theorem Er.below {w u : World} {C : Nat} (h : Er w) (k : Below C w u) (hC : 3 ≤ C) : Er u := by
  obtain ⟨h0, t1, x1, t2, x2, h1, h2⟩ := h
  exact ⟨Nat.le_trans h0 k.size, t1, x1, t2, x2, by rw [World.cell?_of_block (w := w) (k.block 1 (by omega))]; exact h1, by rw [World.cell?_of_block (w := w) (k.block 2 (by omega))]; exact h2⟩
theorem Er.but {w u : World} {M : Nat} (h : Er w) (k : But M w u) (hM : 3 ≤ M) : Er u := by
  obtain ⟨h0, t1, x1, t2, x2, h1, h2⟩ := h
  exact ⟨Nat.le_trans h0 k.size, t1, x1, t2, x2, by rw [World.cell?_of_block (w := w) (k.block 1 (by omega) (by omega))]; exact h1, by rw [World.cell?_of_block (w := w) (k.block 2 (by omega) (by omega))]; exact h2⟩
theorem Er.drew {w : World} (h : Er w) : Er w.drew := h
theorem Er.drewN {w : World} (h : Er w) (n : Nat) : Er (w.drewN n) := h
theorem syntax_c (s : ByteArray) (l : List Nat) (ho : Oct l) (hl : l.length ≤ 140737488355328) (w : World) (he : Er w) : Calls Tryz.prog 81 #[.string s, .string (st l)] w fun e w' => ∃ p, e = .returned (.pointer (some p)) ∧ Below w.heap.size w w' := by
  have hc := fun W => clone_c l ho hl W
  obtain ⟨h0, t1, x1, t2, x2, h1, h2⟩ := he
  have hk : ∀ u, Below w.heap.size w u → u.cell? ⟨1, 0, none⟩ = some (.iface t1 x1) := fun u k => by rw [World.cell?_of_block (w := w) (k.block 1 (by show 1 < _; omega))]; exact h1
  have A : Aside (3 ≤ w.heap.size) := h0
  have bd : Below w.heap.size w w.drew := Below.drewN2 (Below.refl _ w) 1
  clear h2 h0
  go_enter Tryz.func81, Tryz.ntmps81
  go_upto_region 1 with fail
  go_region_held3 (fun u => u.cell? ⟨1, 0, none⟩ = some (.iface t1 x1)) (first | exact h1 | exact hk _ (bd.trans b1) | exact hk _ ((bd.trans b1).alloc b1.size _)) ((go_at_call 85; refine (hc _).mono ?_; rintro e1 w1 ⟨rfl, b1⟩))
  go_wp2_with fail
  first | go_ret | go_ret2
  exact ⟨_, rfl, (bd.trans b1).alloc b1.size _⟩
theorem range_c (s : ByteArray) (l : List Nat) (ho : Oct l) (hl : l.length ≤ 140737488355328) (w : World) (he : Er w) : Calls Tryz.prog 82 #[.string s, .string (st l)] w fun e w' => ∃ p, e = .returned (.pointer (some p)) ∧ Below w.heap.size w w' := by
  have hc := fun W => clone_c l ho hl W
  obtain ⟨h0, t1, x1, t2, x2, h1, h2⟩ := he
  have hk : ∀ u, Below w.heap.size w u → u.cell? ⟨2, 0, none⟩ = some (.iface t2 x2) := fun u k => by rw [World.cell?_of_block (w := w) (k.block 2 (by show 2 < _; omega))]; exact h2
  have A : Aside (3 ≤ w.heap.size) := h0
  have bd : Below w.heap.size w w.drew := Below.drewN2 (Below.refl _ w) 1
  clear h1 h0
  go_enter Tryz.func82, Tryz.ntmps82
  go_upto_region 1 with fail
  go_region_held3 (fun u => u.cell? ⟨2, 0, none⟩ = some (.iface t2 x2)) (first | exact h2 | exact hk _ (bd.trans b1) | exact hk _ ((bd.trans b1).alloc b1.size _)) ((go_at_call 85; refine (hc _).mono ?_; rintro e1 w1 ⟨rfl, b1⟩))
  go_wp2_with fail
  first | go_ret | go_ret2
  exact ⟨_, rfl, (bd.trans b1).alloc b1.size _⟩
theorem err12 (w : World) : (binOp .eql 104 (.iface 111 (.int .i64 1)) (.iface 111 (.int .i64 2))).run Tryz.prog w = .ok (.bool false) w := by kernel_rfl
theorem err11 (w : World) : (binOp .eql 104 (.iface 111 (.int .i64 1)) (.iface 111 (.int .i64 1))).run Tryz.prog w = .ok (.bool true) w := by kernel_rfl
theorem err22 (w : World) : (binOp .eql 104 (.iface 111 (.int .i64 2)) (.iface 111 (.int .i64 2))).run Tryz.prog w = .ok (.bool true) w := by kernel_rfl
set_option maxRecDepth 20000 in
set_option maxHeartbeats 1000000 in
theorem toError_c (k : Int) (hk : k = 1 ∨ k = 2) (s : ByteArray) (l : List Nat) (ho : Oct l) (hl : l.length ≤ 140737488355328) (w : World) (he : Er w) : Calls Tryz.prog 78 #[.string s, .string (st l), .int .i64 10, .int .i64 63, .iface 111 (.int .i64 k)] w fun e w' => ∃ t x, e = .returned (.iface t x) ∧ Below w.heap.size w w' := by
  have h1 := syntax_c s l ho hl w he
  have h2 := range_c s l ho hl w he
  have q1 := err12 w
  have q2 := err11 w
  have q3 := err22 w
  clear ho hl he
  rcases hk with rfl | rfl
  · clear h1
    go_enter Tryz.func78, Tryz.ntmps78
    go_wp2_with (go_at_call 82; refine h2.mono ?_; rintro e1 w1 ⟨p, rfl, b1⟩)
    first | go_ret | go_ret2
    exact ⟨_, _, rfl, b1⟩
  · clear h2
    go_enter Tryz.func78, Tryz.ntmps78
    go_wp2_with (go_at_call 81; refine h1.mono ?_; rintro e1 w1 ⟨p, rfl, b1⟩)
    first | go_ret | go_ret2
    exact ⟨_, _, rfl, b1⟩
theorem or32 : ∀ x : Fin 256, (x.val ||| 32) = if x.val / 32 % 2 = 1 then x.val else x.val + 32 := by decide +kernel
/-- A letter that is no digit: lower tells a digit of ten and more, or none. -/
theorem lower_c (x : Nat) (hx : x < 256) (w : World) : Calls Tryz.prog 79 #[.int .u8 (x : Int)] w fun e w' => e = .returned (.int .u8 ((x ||| 32 : Nat) : Int)) ∧ w' = w := by
  have e : bits .or .u8 (x : Int) 32 = ((x ||| 32 : Nat) : Int) := by
    have : ∀ y : Fin 256, bits .or .u8 (y.val : Int) 32 = ((y.val ||| 32 : Nat) : Int) := by decide +kernel
    exact this ⟨x, hx⟩
  clear hx
  go_enter Tryz.func79, Tryz.ntmps79
  go_wp2_with fail
  first | go_ret | go_ret2
  exact ⟨rfl, rfl⟩
/-- What ParseUint answers. -/
structure Pu (l : List Nat) (w : World) (e : Ending) (w' : World) : Prop where
  ex : (∃ z, tdec l = some z ∧ e = .returned (.tuple #[.int .u64 (z : Int), .nilIface])) ∨ (tdec l = none ∧ ∃ (x k : Int), (k = 1 ∨ k = 2) ∧ e = .returned (.tuple #[.int .u64 x, .iface 111 (.int .i64 k)]))
  bel : Below w.heap.size w w'
end Go.Proofs.YtcmmjbkgoafbnaaGreatDoor

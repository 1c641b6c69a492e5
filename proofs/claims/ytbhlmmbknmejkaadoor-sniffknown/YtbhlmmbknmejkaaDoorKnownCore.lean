/-
  SniffKnown's walk.
-/
import Derived.Test.YtbhlmmbknmejkaaDoorRsn
import Derived.Laws.MakeOwn
namespace Go.Proofs.YtbhlmmbknmejkaaDoor
open Go.RowKit
set_option linter.unusedVariables false
theorem mkz (n : Nat) (hn : n ≤ 1000) (W : World) : (Instr.makeSlice 22 (.int .i64 (n : Int)) (.int .i64 (n : Int))).run Tryd.prog W = .ok (.slice (some ⟨W.heap.size, 0, none⟩) n n) (W.alloc (.cells (ob (List.replicate n 0)).toArray 5)) := by
  obtain ⟨i0, hi, hz0, hz1, hz2⟩ := ginfo_parts ginfo5
  have := run_make (P := Tryd.prog) W 22 5 i0 _ Tryd.underlying22 hi hz0 .i64 .i64 (n : Int) (n : Int) (by omega) (by omega) (by rw [hz2]; omega) (by omega)
  rw [hz1] at this
  have e : madeCells (Value.int .u8 0).cells ((n : Int).toNat * 1) = (ob (List.replicate n 0)).toArray := by
    apply Array.ext'
    show (madeCells #[Value.int .u8 0] _).toList = _
    rw [toList_madeCells_one]
    simp [ob]
  rw [e] at this
  simpa using this
theorem snb {w : World} {B : Nat} (h : Mk w) (hB : w.heap.size = B) (l : List Nat) (ho : Oct l) (hl : l.length ≤ 1000) (n : Nat) (hn : l.length = n) (e : Bool) (u : World) (hu : Below B w u) : Calls Tryd.prog 7 #[.slice (some ⟨u.heap.size, 0, none⟩) n n, .bool e] (u.alloc (.cells (ob l).toArray 5)) fun ex w' => ex = .returned (.tuple #[.int .i64 ((sn l e).1 : Int), .bool (sn l e).2]) ∧ Below B w w' := by
  have bu := hu.trans (((Below.refl u.heap.size u).alloc (Nat.le_refl _) (.cells (ob l).toArray 5)).mono (by have := hu.size; omega))
  have hli : Lies (u.alloc (.cells (ob l).toArray 5)) (some ⟨u.heap.size, 0, none⟩) l := Or.inr ⟨u.heap.size, 0, rfl, fun i x hx => by
    rw [(Cells.new u _ 5).cell, Nat.zero_add, List.getElem?_toArray, ob_get, hx]; rfl⟩
  have := sniff_c _ (h.below bu (by have := h.lt; omega)) _ l n n hli hn ho (by omega) e
  exact this.mono fun e w' ⟨h1, h2⟩ => ⟨h1, bu.trans (h2.mono (by have := bu.size; omega))⟩
theorem oct_rep (n : Nat) : Oct (List.replicate n 0) := by intro x hx; rw [List.mem_replicate] at hx; omega
set_option maxRecDepth 20000 in
set_option maxHeartbeats 2000000 in
theorem known_core (w : World) (h : Mk w) : Calls Tryd.prog 6 #[] w fun ex w' => ex = .returned (.bool true) ∧ Below w.heap.size w w' := by
  obtain ⟨B, hB⟩ : ∃ B, w.heap.size = B := ⟨_, rfl⟩
  obtain ⟨i0, hi, hz0, hz1, hz2⟩ := ginfo_parts ginfo5
  have k1 := snb h hB [31, 139] (by intro x hx; simp at hx; omega) (by decide) 2 rfl true
  have k3 := snb h hB [80, 75, 3, 4] (by intro x hx; simp at hx; omega) (by decide) 4 rfl false
  have k4 := snb h hB (List.replicate 258 0) (oct_rep _) (by simp) 258 (by simp) false
  rw [show sn [31, 139] true = (1, true) by decide] at k1
  rw [show sn [80, 75, 3, 4] false = (9, true) by decide] at k3
  rw [show sn (List.replicate 258 0) false = (1, true) by decide +kernel] at k4
  have k2 : ∀ u, Below B w u → Calls Tryd.prog 7 #[.slice none 0 0, .bool true] u fun ex w' => ex = .returned (.tuple #[.int .i64 1, .bool true]) ∧ Below B w w' := fun u hu => by
    have := sniff_c u (h.below hu (by have := h.lt; omega)) none [] 0 0 (Or.inl rfl) rfl Oct.nil (by decide) true
    rw [show sn [] true = (1, true) by decide] at this
    exact this.mono fun e w' ⟨h1, h2⟩ => ⟨h1, hu.trans (h2.mono (by have := hu.size; omega))⟩
  have s5 : sn (List.replicate 257 0 ++ us) false = (8, true) := by decide +kernel
  have m4 : ∀ W : World, (Instr.makeSlice 22 (.int .i64 258) (.int .i64 258)).run Tryd.prog W = .ok (.slice (some ⟨W.heap.size, 0, none⟩) 258 258) (W.alloc (.cells (ob (List.replicate 258 0)).toArray 5)) := fun W => mkz 258 (by decide) W
  have m5 : ∀ W : World, (Instr.makeSlice 22 (.int .i64 257) (.int .i64 257)).run Tryd.prog W = .ok (.slice (some ⟨W.heap.size, 0, none⟩) 257 257) (W.alloc (.cells (ob (List.replicate 257 0)).toArray 5)) := fun W => mkz 257 (by decide) W
  have A : Aside (w.heap.size = B ∧ Mk w ∧ sn (List.replicate 257 0 ++ us) false = (8, true)) := ⟨hB, h, s5⟩
  have AK : Aside ((∀ u, Below B w u → Calls Tryd.prog 7 #[.slice none 0 0, .bool true] u fun ex w' => ex = .returned (.tuple #[.int .i64 1, .bool true]) ∧ Below B w w') ∧ (∀ u, Below B w u → Calls Tryd.prog 7 #[.slice (some ⟨u.heap.size, 0, none⟩) 4 4, .bool false] (u.alloc (.cells #[.int .u8 80, .int .u8 75, .int .u8 3, .int .u8 4] 5)) fun ex w' => ex = .returned (.tuple #[.int .i64 9, .bool true]) ∧ Below B w w') ∧ (∀ u, Below B w u → Calls Tryd.prog 7 #[.slice (some ⟨u.heap.size, 0, none⟩) 258 258, .bool false] (u.alloc (.cells (ob (List.replicate 258 0)).toArray 5)) fun ex w' => ex = .returned (.tuple #[.int .i64 1, .bool true]) ∧ Below B w w')) := ⟨k2, k3, k4⟩
  have q1 : Calls Tryd.prog 7 #[.slice (some ⟨w.heap.size, 0, none⟩) 2 2, .bool true] (w.alloc (.cells #[.int .u8 31, .int .u8 139] 5)) fun ex w' => ex = .returned (.tuple #[.int .i64 1, .bool true]) ∧ Below B w w' := k1 w (Below.refl _ _)
  rw [hB] at q1 ⊢
  clear k1 k2 k3 k4 s5 h
  go_enter Tryd.func6, Tryd.ntmps6
  go_upto_region 2 with (go_at_call 7; refine q1.mono ?_; rintro e1 w1 ⟨rfl, hb1⟩)
  have q2 := AK.out.1 w1 hb1
  clear q1 hb1
  go_upto_region 3 with (go_at_call 7; refine q2.mono ?_; rintro e1 w2 ⟨rfl, hb2⟩)
  have q3 := AK.out.2.1 w2 hb2
  clear q2 hb2
  go_upto_region 4 with (go_at_call 7; refine q3.mono ?_; rintro e1 w3 ⟨rfl, hb3⟩)
  have q4 := AK.out.2.2 w3 hb3
  have m4' := m4 w3
  obtain ⟨Z0, hZ0⟩ : ∃ Z, ob (List.replicate 258 0) = Z := ⟨_, rfl⟩
  rw [hZ0] at q4 m4'
  clear q3 hb3 m4 AK hZ0
  go_upto_region 5 with (go_at_call 7; refine q4.mono ?_; rintro e1 w4 ⟨rfl, hb4⟩)
  have m5' := m5 w4
  obtain ⟨Z1, hZ1⟩ : ∃ Z, ob (List.replicate 257 0) = Z := ⟨_, rfl⟩
  have hB4 : B ≤ w4.heap.size := by have := hb4.size; have := A.out.1; omega
  have how : Ow (w4.alloc (.cells Z1.toArray 5)) B 5 1 (.slice (some ⟨w4.heap.size, 0, none⟩) 257 257) 257 (ob (List.replicate 257 0)) := by
    have := Ow.built (w := w4) (lo := B) (n := 257) (e := 5) Z1.toArray hB4 (by decide) (by rw [← hZ1]; simp [ob])
    rw [hZ1]
    simpa using this
  have bel5 : Below B w (w4.alloc (.cells Z1.toArray 5)) := hb4.alloc (by have := A.out.1; omega) _
  rw [hZ1] at m5'
  have A5 : Aside (Below B w (w4.alloc (.cells Z1.toArray 5)) ∧ Oct us ∧ us.length = 5 ∧ 257 + 5 ≤ 140737488355328 ∧ (⟨#[117, 115, 116, 97, 114]⟩ : ByteArray) = st us) := ⟨bel5, oct_us, rfl, by decide, rfl⟩
  clear q4 hb4 m4' m5 hZ1 hB4 bel5
  go_upto_region 6 with (first
    | (at_builtin; refine wpList_ows Tryd.prog _ rfl (.tmp 31) _ 22 9 rfl i0 Tryd.underlying22 Tryd.underlying9 hi hz0 hz1 hz2 B (.slice (some ⟨w4.heap.size, 0, none⟩) 257 257) 257 _ (by rfl) how us 5 ⟨#[117, 115, 116, 97, 114]⟩ A5.out.2.2.2.2 A5.out.2.2.1 A5.out.2.1 (by rfl) A5.out.2.2.2.1 ?_; intro va5 c5 w5 hgot; have aa := A.out; have bel : Below B w w5 := A5.out.1.trans hgot.bel; obtain ⟨a6, c6, hv6, hlen6, _, hli6, _⟩ := hgot.ow.lies; cases hv6; have q5 := sniff_c w5 (aa.2.1.below bel (by have := aa.2.1.lt; omega)) va5 (List.replicate 257 0 ++ us) 262 c5 hli6 hlen6 ((oct_rep 257).append oct_us) (by decide) false; rw [aa.2.2] at q5; have A6 : Aside (Below B w w5 ∧ B ≤ w5.heap.size) := ⟨bel, hgot.ow.le⟩; clear aa bel hlen6 hli6)
    | (go_at_call 7; refine q5.mono ?_; rintro e6 w6 ⟨rfl, hb6⟩))
  have bel6 : Below B w w6 := A6.out.1.trans (hb6.mono A6.out.2)
  have haw := awake_c w6 (A.out.2.1.below bel6 (by have := A.out.2.1.lt; have := A.out.1; omega))
  have A7 : Aside (Below B w w6 ∧ B ≤ w6.heap.size) := ⟨bel6, by have := hb6.size; have := A6.out.2; omega⟩
  clear bel6 q5 hb6 how m5' hgot
  go_wp2_with (go_at_call 9; refine haw.mono ?_; rintro e1 w7 ⟨rfl, hb7⟩)
  first | go_ret | go_ret2
  exact ⟨rfl, A7.out.1.trans (hb7.mono A7.out.2)⟩
end Go.Proofs.YtbhlmmbknmejkaaDoor

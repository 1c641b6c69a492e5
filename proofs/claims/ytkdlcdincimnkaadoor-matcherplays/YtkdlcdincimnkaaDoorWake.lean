/-
  What awake comes to.
  Conditions: the library's table holds what its text lays there.
-/
import Derived.Test.YtkdlcdincimnkaaDoorAll
namespace Go.Proofs.YtkdlcdincimnkaaDoor
open Go.RowKit
set_option linter.unusedVariables false
def ushers : List Nat := [117, 115, 104, 101, 114, 115]
theorem ushers_hits : hitsOf hers ushers = [(0, 4), (1, 4), (3, 6)] := by decide +kernel
set_option maxRecDepth 100000 in
set_option maxHeartbeats 4000000 in
theorem awake_c (w : World) (hT : Tab w) : Calls Tryd.prog 13 #[] w fun e w' => e = .returned (.bool true) ∧ Below w.heap.size w w' := by
  have kc := fun (w : World) (C : Array Value) (n c g : Nat) (hg : w.heap.size = g) => hg ▸ Lib.run_convert_bytes_const (P := Tryd.prog) w 47 5 C n c Tryd.underlying47 Tryd.underlying5
  have k1 := kc w #[.int .u8 104, .int .u8 101] 2 2 w.heap.size rfl
  have k2 := kc (w.alloc (.cells #[.int .u8 104, .int .u8 101] 5 (2, 3))) #[.int .u8 115, .int .u8 104, .int .u8 101] 3 3 (w.heap.size + 1) (by simp)
  have k3 := kc ((w.alloc (.cells #[.int .u8 104, .int .u8 101] 5 (2, 3))).alloc (.cells #[.int .u8 115, .int .u8 104, .int .u8 101] 5 (3, 4))) #[.int .u8 104, .int .u8 105, .int .u8 115] 3 3 (w.heap.size + 1 + 1) (by simp)
  have k4 := kc (((w.alloc (.cells #[.int .u8 104, .int .u8 101] 5 (2, 3))).alloc (.cells #[.int .u8 115, .int .u8 104, .int .u8 101] 5 (3, 4))).alloc (.cells #[.int .u8 104, .int .u8 105, .int .u8 115] 5 (3, 4))) #[.int .u8 104, .int .u8 101, .int .u8 114, .int .u8 115] 4 4 (w.heap.size + 1 + 1 + 1) (by simp)
  have kk : Aside _ := kc
  clear kc
  obtain ⟨hrows, hb0⟩ := laidHers_rows w
  have hbuild := build_ok (some ⟨w.heap.size + 4, 0, none⟩) hers 4 4 (laidHers w) hrows rfl (by decide) (by decide) hers_oct (fun h => by cases h) hers_good
  have AB : Aside (Below w.heap.size w (laidHers w) ∧ Tab w) := ⟨hb0, hT⟩
  obtain ⟨W, hW⟩ : ∃ W, W = laidHers w := ⟨_, rfl⟩
  rw [← hW] at hbuild AB
  unfold laidHers at hW
  clear hrows hb0 hT
  go_enter Tryd.func13, Tryd.ntmps13
  go_wp2_with fail
  subst hW
  refine hbuild.mono ?_
  rintro e2 w2 ⟨A, rfl, nd, G, hm2, hf2, hb2⟩
  clear hbuild k1 k2 k3 k4
  have bw : Below w.heap.size w w2 := AB.out.1.trans (hb2.mono AB.out.1.size)
  have hTw : Tab w2 := AB.out.2.below bw
  obtain ⟨w3, hw3⟩ : ∃ w3, w3 = w2.alloc (.cells #[.int .u8 117, .int .u8 115, .int .u8 104, .int .u8 101, .int .u8 114, .int .u8 115] 5 (6, 7)) := ⟨_, rfl⟩
  have k5 := kk.out w2 #[.int .u8 117, .int .u8 115, .int .u8 104, .int .u8 101, .int .u8 114, .int .u8 115] 6 6 w2.heap.size rfl
  have b3 : Below w2.heap.size w2 w3 := by rw [hw3]; exact (Below.refl _ w2).alloc (Nat.le_refl _) _
  have ht3 : Lies w3 (some ⟨w2.heap.size, 0, none⟩) ushers := Or.inr ⟨w2.heap.size, 0, rfl, fun i x hx => by
    rw [Nat.zero_add, hw3, cell_new]
    match i, hx with
    | 0, hx => cases hx; rfl
    | 1, hx => cases hx; rfl
    | 2, hx => cases hx; rfl
    | 3, hx => cases hx; rfl
    | 4, hx => cases hx; rfl
    | 5, hx => cases hx; rfl⟩
  have hall := all_c w3 (hm2.below b3) hf2 (chk_good hers_good) (hTw.below b3) (some ⟨w2.heap.size, 0, none⟩) ushers 6 6 ht3 rfl (by decide) (by show ∀ x ∈ ushers, x < 256; decide) 9 (fun n h1 h2 => by rw [ushers_hits] at h1; have : n ≤ 3 := h1; omega)
  rw [ushers_hits, show decide ([(0, 4), (1, 4), (3, 6)].length ≤ Int.toNat 9) = true from rfl, show List.take (Int.toNat 9) [(0, 4), (1, 4), (3, 6)] = [(0, 4), (1, 4), (3, 6)] from rfl] at hall
  have AB2 : Aside (Below w.heap.size w w3) := bw.trans (b3.mono bw.size)
  clear bw hTw hm2 hf2 hb2 AB b3 ht3 kk
  go_upto_region 3 with (first
    | (go_at_call 23; rw [← hw3]; refine hall.mono ?_; rintro e4 w4 ⟨v, rfl, hal⟩))
  obtain ⟨va, vc, hv, hh4, _⟩ := owns_hits hal.own
  subst hv
  have hnew := new_c A w4
  have AF : Aside (Below w.heap.size w w4 ∧ Hits w4 va [(0, 4), (1, 4), (3, 6)]) := ⟨AB2.out.trans (hal.bel.mono AB2.out.size), hh4⟩
  clear hal hh4 hall k5 hw3
  go_upto_region 4 with (go_at_call 12; refine hnew.mono ?_; rintro e5 w5 ⟨rfl, hm5, hb5⟩)
  obtain ⟨w6, hw6⟩ : ∃ w6, w6 = w5.alloc (.cells #[.int .i64 0, .slice none 0 0, .int .i64 4, .int .i64 1, .slice none 0 0, .int .i64 4, .int .i64 3, .slice none 0 0, .int .i64 6] 59) := ⟨_, rfl⟩
  have b6 : Below w5.heap.size w5 w6 := by rw [hw6]; exact (Below.refl _ w5).alloc (Nat.le_refl _) _
  have h6 : Hits w6 (some ⟨w5.heap.size, 0, none⟩) [(0, 4), (1, 4), (3, 6)] := Or.inr ⟨_, 0, rfl, fun i x hx => by
    rw [hw6]
    simp only [(Cells.new w5 _ 59).cell]
    match i, hx with
    | 0, hx => cases hx; exact ⟨rfl, rfl, rfl⟩
    | 1, hx => cases hx; exact ⟨rfl, rfl, rfl⟩
    | 2, hx => cases hx; exact ⟨rfl, rfl, rfl⟩⟩
  have hb45 : Below w.heap.size w w5 := AF.out.1.trans (hb5.mono AF.out.1.size)
  have hsame := hsame_yes va (some ⟨w5.heap.size, 0, none⟩) [(0, 4), (1, 4), (3, 6)] 3 vc 3 w6 rfl (by decide) ((AF.out.2.below hb5).below b6) h6
  have AE : Aside (Below w.heap.size w w6) := hb45.trans (b6.mono hb45.size)
  clear hm5 hb5 b6 h6 hb45 hnew AF
  go_wp2_with (first | (go_at_call 25; rw [← hw6]; refine hsame.mono ?_; rintro e7 w7 ⟨rfl, hd7⟩))
  go_ret
  exact ⟨rfl, AE.out.trans (hd7.below _)⟩
end Go.Proofs.YtkdlcdincimnkaaDoor

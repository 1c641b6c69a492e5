/-
  The one machine that each statement makes at its end answers as the document says.
  Conditions: the library's table holds what its text lays there.
-/
import Derived.Test.YtbepbjbbhenphabDoorEqs
import Derived.Lib.SlBytesConst
namespace Go.Proofs.YtbepbjbbhenphabDoor
open Go.RowKit
set_option linter.unusedVariables false
/-- he, she, his, hers. -/
def hers : List (List Nat) := [[104, 101], [115, 104, 101], [104, 105, 115], [104, 101, 114, 115]]
theorem hers_good : chk hers = 0 := by decide +kernel
theorem hers_words : words hers = [[], [104], [104, 101], [115], [115, 104], [115, 104, 101], [104, 105], [104, 105, 115], [104, 101, 114], [104, 101, 114, 115]] := by decide +kernel
theorem hers_next : lsf (words hers) ([115, 104, 101] ++ [114]) = [104, 101, 114] := by decide +kernel
theorem hers_fail : lsf (words hers) ([115, 104, 101] : List Nat).tail = [104, 101] := by decide +kernel
theorem hers_outs : endsOf hers [115, 104, 101] = [0, 1] := by decide +kernel
theorem hers_oct : Octs hers := by show ∀ l ∈ hers, ∀ x ∈ l, x < 256; decide
theorem cell_old (w : World) (o : Obj) (b i : Nat) (h : b < w.heap.size) : (w.alloc o).cell? ⟨b, i, none⟩ = w.cell? ⟨b, i, none⟩ := World.cell?_of_block (Below.heap_alloc w o b h)
theorem cell_new (w : World) (cs : Array Value) (t : TypeId) (fr : Nat × Nat) (i : Nat) : (w.alloc (.cells cs t fr)).cell? ⟨w.heap.size, i, none⟩ = cs[i]? := by
  have : (w.alloc (.cells cs t fr)).heap[w.heap.size]? = some (.cells cs t fr) := by
    show (w.heap.push _)[_]? = _
    simp
  unfold World.cell?
  rw [this]
  rfl
/-- The four patterns as they are laid in memory. -/
def laidHers (w : World) : World := ((((w.alloc (.cells #[.int .u8 104, .int .u8 101] 5 (2, 3))).alloc (.cells #[.int .u8 115, .int .u8 104, .int .u8 101] 5 (3, 4))).alloc (.cells #[.int .u8 104, .int .u8 105, .int .u8 115] 5 (3, 4))).alloc (.cells #[.int .u8 104, .int .u8 101, .int .u8 114, .int .u8 115] 5 (4, 5))).alloc
  (.cells #[.slice (some ⟨w.heap.size, 0, none⟩) 2 2, .slice (some ⟨w.heap.size + 1, 0, none⟩) 3 3, .slice (some ⟨w.heap.size + 2, 0, none⟩) 3 3, .slice (some ⟨w.heap.size + 3, 0, none⟩) 4 4] 23)
theorem laidHers_rows (w : World) : Rows2 (laidHers w) (some ⟨w.heap.size + 4, 0, none⟩) hers ∧ Below w.heap.size w (laidHers w) := by
  obtain ⟨w1, h1⟩ : ∃ w1, w1 = w.alloc (.cells #[.int .u8 104, .int .u8 101] 5 (2, 3)) := ⟨_, rfl⟩
  obtain ⟨w2, h2⟩ : ∃ w2, w2 = w1.alloc (.cells #[.int .u8 115, .int .u8 104, .int .u8 101] 5 (3, 4)) := ⟨_, rfl⟩
  obtain ⟨w3, h3⟩ : ∃ w3, w3 = w2.alloc (.cells #[.int .u8 104, .int .u8 105, .int .u8 115] 5 (3, 4)) := ⟨_, rfl⟩
  obtain ⟨w4, h4⟩ : ∃ w4, w4 = w3.alloc (.cells #[.int .u8 104, .int .u8 101, .int .u8 114, .int .u8 115] 5 (4, 5)) := ⟨_, rfl⟩
  unfold laidHers
  rw [← h1, ← h2, ← h3, ← h4]
  have s1 : w1.heap.size = w.heap.size + 1 := by rw [h1]; simp
  have s2 : w2.heap.size = w.heap.size + 2 := by rw [h2]; show (w1.heap.push _).size = _; simp; omega
  have s3 : w3.heap.size = w.heap.size + 3 := by rw [h3]; show (w2.heap.push _).size = _; simp; omega
  have s4 : w4.heap.size = w.heap.size + 4 := by rw [h4]; show (w3.heap.push _).size = _; simp; omega
  obtain ⟨o, ho⟩ : ∃ o, o = Obj.cells #[.slice (some ⟨w.heap.size, 0, none⟩) 2 2, .slice (some ⟨w.heap.size + 1, 0, none⟩) 3 3, .slice (some ⟨w.heap.size + 2, 0, none⟩) 3 3, .slice (some ⟨w.heap.size + 3, 0, none⟩) 4 4] 23 := ⟨_, rfl⟩
  rw [← ho]
  have c1 : ∀ i, (w4.alloc o).cell? ⟨w.heap.size, i, none⟩ = (#[.int .u8 104, .int .u8 101] : Array Value)[i]? := fun i => by
    rw [cell_old _ _ _ _ (by omega), h4, cell_old _ _ _ _ (by omega), h3, cell_old _ _ _ _ (by omega), h2, cell_old _ _ _ _ (by omega), h1, cell_new]
  have c2 : ∀ i, (w4.alloc o).cell? ⟨w.heap.size + 1, i, none⟩ = (#[.int .u8 115, .int .u8 104, .int .u8 101] : Array Value)[i]? := fun i => by
    rw [cell_old _ _ _ _ (by omega), h4, cell_old _ _ _ _ (by omega), h3, cell_old _ _ _ _ (by omega), h2, ← s1, cell_new]
  have c3 : ∀ i, (w4.alloc o).cell? ⟨w.heap.size + 2, i, none⟩ = (#[.int .u8 104, .int .u8 105, .int .u8 115] : Array Value)[i]? := fun i => by
    rw [cell_old _ _ _ _ (by omega), h4, cell_old _ _ _ _ (by omega), h3, ← s2, cell_new]
  have c4 : ∀ i, (w4.alloc o).cell? ⟨w.heap.size + 3, i, none⟩ = (#[.int .u8 104, .int .u8 101, .int .u8 114, .int .u8 115] : Array Value)[i]? := fun i => by
    rw [cell_old _ _ _ _ (by omega), h4, ← s3, cell_new]
  have c5 : ∀ i, (w4.alloc o).cell? ⟨w.heap.size + 4, i, none⟩ = (#[.slice (some ⟨w.heap.size, 0, none⟩) 2 2, .slice (some ⟨w.heap.size + 1, 0, none⟩) 3 3, .slice (some ⟨w.heap.size + 2, 0, none⟩) 3 3, .slice (some ⟨w.heap.size + 3, 0, none⟩) 4 4] : Array Value)[i]? := fun i => by
    rw [← s4, ho, cell_new]
  have lies : ∀ (b : Nat) (cs : Array Value) (l : List Nat), (∀ i, (w4.alloc o).cell? ⟨b, i, none⟩ = cs[i]?) → (cs.toList = l.map fun x : Nat => Value.int .u8 (x : Int)) → Lies (w4.alloc o) (some ⟨b, 0, none⟩) l := by
    intro b cs l hc hl
    refine Or.inr ⟨b, 0, rfl, fun i x hx => ?_⟩
    rw [Nat.zero_add, hc, ← Array.getElem?_toList, hl, List.getElem?_map, hx]; rfl
  refine ⟨Or.inr ⟨w.heap.size + 4, 0, rfl, fun i l hl => ?_⟩, ?_⟩
  · rw [Nat.zero_add, c5]
    match i, hl with
    | 0, hl => cases hl; exact ⟨_, 2, rfl, lies _ _ _ c1 rfl, by decide, by decide, fun h => by cases h⟩
    | 1, hl => cases hl; exact ⟨_, 3, rfl, lies _ _ _ c2 rfl, by decide, by decide, fun h => by cases h⟩
    | 2, hl => cases hl; exact ⟨_, 3, rfl, lies _ _ _ c3 rfl, by decide, by decide, fun h => by cases h⟩
    | 3, hl => cases hl; exact ⟨_, 4, rfl, lies _ _ _ c4 rfl, by decide, by decide, fun h => by cases h⟩
    | i + 4, hl => simp [hers] at hl
  · have b1 : Below w.heap.size w w1 := by rw [h1]; exact (Below.refl _ w).alloc (Nat.le_refl _) _
    have b2 : Below w.heap.size w w2 := by rw [h2]; exact b1.alloc (by omega) _
    have b3 : Below w.heap.size w w3 := by rw [h3]; exact b2.alloc (by omega) _
    have b4 : Below w.heap.size w w4 := by rw [h4]; exact b3.alloc (by omega) _
    exact b4.alloc (by omega) _
set_option maxRecDepth 100000 in
set_option maxHeartbeats 4000000 in
theorem awake_c (w : World) (hT : Tab w) : Calls Tryd.prog 4 #[] w fun e w' => e = .returned (.bool true) ∧ Below w.heap.size w w' := by
  have kc := fun (w : World) (C : Array Value) (n c g : Nat) (hg : w.heap.size = g) => hg ▸ Lib.run_convert_bytes_const (P := Tryd.prog) w 23 5 C n c Tryd.underlying23 Tryd.underlying5
  have k1 := kc w #[.int .u8 104, .int .u8 101] 2 2 w.heap.size rfl
  have k2 := kc (w.alloc (.cells #[.int .u8 104, .int .u8 101] 5 (2, 3))) #[.int .u8 115, .int .u8 104, .int .u8 101] 3 3 (w.heap.size + 1) (by simp)
  have k3 := kc ((w.alloc (.cells #[.int .u8 104, .int .u8 101] 5 (2, 3))).alloc (.cells #[.int .u8 115, .int .u8 104, .int .u8 101] 5 (3, 4))) #[.int .u8 104, .int .u8 105, .int .u8 115] 3 3 (w.heap.size + 1 + 1) (by simp)
  have k4 := kc (((w.alloc (.cells #[.int .u8 104, .int .u8 101] 5 (2, 3))).alloc (.cells #[.int .u8 115, .int .u8 104, .int .u8 101] 5 (3, 4))).alloc (.cells #[.int .u8 104, .int .u8 105, .int .u8 115] 5 (3, 4))) #[.int .u8 104, .int .u8 101, .int .u8 114, .int .u8 115] 4 4 (w.heap.size + 1 + 1 + 1) (by simp)
  clear kc
  obtain ⟨hrows, hb0⟩ := laidHers_rows w
  have hbuild := build_ok (some ⟨w.heap.size + 4, 0, none⟩) hers 4 4 (laidHers w) hrows rfl (by decide) (by decide) hers_oct (fun h => by cases h) hers_good
  have AB : Aside (Below w.heap.size w (laidHers w) ∧ Tab w) := ⟨hb0, hT⟩
  obtain ⟨W, hW⟩ : ∃ W, W = laidHers w := ⟨_, rfl⟩
  rw [← hW] at hbuild AB
  unfold laidHers at hW
  clear hrows hb0 hT
  go_enter Tryd.func4, Tryd.ntmps4
  go_wp2_with fail
  subst hW
  refine hbuild.mono ?_
  rintro e2 w2 ⟨A, rfl, nd, G, hm2, hf2, hb2⟩
  clear hbuild k1 k2 k3 k4
  have hwB := hb2.mono AB.out.1.size
  have bw : Below w.heap.size w w2 := AB.out.1.trans hwB
  have hTw : Tab w2 := AB.out.2.below bw
  have h5 : (words hers)[5]? = some [115, 104, 101] := by rw [hers_words]; rfl
  obtain ⟨n, hn⟩ := hf2.laid.node h5
  have hfin := hf2.fin h5 hn
  have hfa : n.fa = 2 := by
    refine hf2.laid.tri.one (u := [104, 101]) ?_ (by rw [hers_words]; rfl)
    have := hfin.1
    rw [hers_fail] at this
    exact this
  have q1 := states_c w2 hm2 10 (by rw [hf2.laid.len, hers_words]; rfl)
  have q2 := next_c 5 114 8 [115, 104, 101] w2 hm2 hf2.laid h5 (by decide) (fun s u n h1 h2 _ => (hf2.fin h1 h2).1) (by rw [hers_next, hers_words]; rfl)
  have q3 := fail_c 5 n w2 hm2 hn
  rw [hfa] at q3
  have q4 := out_c 5 n w2 hm2 hn hfin.2.1 hTw
  rw [outs_of_fin hfin (by decide), hers_outs] at q4
  have AB2 : Aside (Below w.heap.size w w2) := bw
  clear hwB bw hTw h5 hn hfin hfa hm2 hf2 hb2 AB
  go_wp2_with (first
    | (go_at_call 7; refine q1.mono ?_; rintro e3 w3 ⟨rfl, rfl⟩)
    | (go_at_call 9; refine q2.mono ?_; rintro e3 w3 ⟨rfl, rfl⟩)
    | (go_at_call 13; refine q3.mono ?_; rintro e3 w3 ⟨rfl, rfl⟩)
    | (go_at_call 10; refine q4.mono ?_; rintro e3 w3 ⟨v, rfl, ho3⟩))
  obtain ⟨ar, cr, hv, hnum, _⟩ := ho3.shape
  have b3 := (Below.refl w3.heap.size w3).alloc (Nat.le_refl _) (.cells #[.int .i64 0, .int .i64 1] 3)
  have hn2 : Nums (w3.alloc (.cells #[.int .i64 0, .int .i64 1] 3)) (some ⟨w3.heap.size, 0, none⟩) [0, 1] := Or.inr ⟨_, 0, rfl, fun i x hx => by
    rw [Nat.zero_add, (Cells.new w3 _ 3).cell]
    match i, hx with
    | 0, hx => cases hx; rfl
    | 1, hx => cases hx; rfl⟩
  have hi := ints_c ar (some ⟨w3.heap.size, 0, none⟩) [0, 1] [0, 1] 2 2 cr 2 (w3.alloc (.cells #[.int .i64 0, .int .i64 1] 3)) rfl rfl (by decide) (hnum.below b3) hn2
  rw [decide_eq_true rfl] at hi
  have e : v = .slice ar 2 cr := hv
  subst e
  have AF : Aside (Below w.heap.size w (w3.alloc (.cells #[.int .i64 0, .int .i64 1] 3))) := by
    have h1 : Below w.heap.size w w3 := AB2.out.trans (ho3.bel.mono AB2.out.size)
    exact h1.trans (b3.mono h1.size)
  generalize w3.alloc (.cells #[.int .i64 0, .int .i64 1] 3) = w4 at *
  clear b3 hn2 hnum hv q1 q2 q3 q4 ho3
  refine hi.mono ?_
  rintro e4 w5 ⟨rfl, nn, rfl⟩
  go_wp2_with fail
  go_ret
  refine ⟨rfl, ?_⟩
  have := AF.out
  exact ⟨this.os, this.tape, this.output, this.size, this.block⟩
end Go.Proofs.YtbepbjbbhenphabDoor

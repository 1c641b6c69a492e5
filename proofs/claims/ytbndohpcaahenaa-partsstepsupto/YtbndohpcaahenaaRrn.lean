/-
  The document's run in memory: tell, bytes, delimiter.
-/
import Derived.Test.YtbndohpcaahenaaNex
import Derived.Test.YtbndohpcaahenaaTvm
import Derived.Deep.RegionLaw
namespace Go.Proofs.Ytbndohpcaahenaa
open Go.RowKit
set_option linter.unusedVariables false
/-- Timed events as cells. -/
def tc (T : List (Nat × Nat)) : List Value := T.flatMap fun p => [Value.int .i64 (p.1 : Nat), .int .i64 (evk p.2 : Nat), .int .u8 (evb p.2 : Nat), .int .i64 (evn p.2 : Nat), .int .i64 0, .string ⟨#[]⟩]
theorem tc_length (T : List (Nat × Nat)) : (tc T).length = T.length * 6 := by
  induction T with
  | nil => rfl
  | cons p M ih => simp only [tc, List.flatMap_cons, List.length_append, List.length_cons] at *; rw [ih]; simp; omega
theorem tc_append (M N : List (Nat × Nat)) : tc (M ++ N) = tc M ++ tc N := by simp [tc]
theorem tc_one : ∀ (T : List (Nat × Nat)), ∀ u ∈ tc T, u.oneCell' = true := by
  intro T u hu
  obtain ⟨p, _, hp⟩ := List.mem_flatMap.1 hu
  simp at hp
  rcases hp with rfl | rfl | rfl | rfl | rfl | rfl <;> rfl
theorem tc_at {T : List (Nat × Nat)} {i : Nat} {p : Nat × Nat} (h : T[i]? = some p) (j : Nat) (hj : j < 6) : (tc T)[i * 6 + j]? = (tc [p])[j]? := by
  obtain ⟨h1, h2⟩ := List.getElem?_eq_some_iff.1 h
  have e : T = T.take i ++ p :: T.drop (i + 1) := by rw [← h2, ← List.drop_eq_getElem_cons h1, List.take_append_drop]
  have hl : (tc (T.take i)).length = i * 6 := by rw [tc_length]; simp; omega
  have e2 : tc (p :: T.drop (i + 1)) = tc [p] ++ tc (T.drop (i + 1)) := by rw [← tc_append]; rfl
  rw [e, tc_append, List.getElem?_append_right (by omega), hl, show i * 6 + j - i * 6 = j by omega, e2, List.getElem?_append_left (by rw [tc_length]; simpa using hj)]
theorem ginfo69 : (Try.prog.info? 69).map (fun i => (i.zero, i.size, i.bytes)) = some (some (.agg #[.int .i64 0, .int .i64 0, .int .u8 0, .int .i64 0, .int .i64 0, .string ⟨#[]⟩]), 6, 56) := by kernel_rfl
/-- The document's run in block R: its events, why, open, over. -/
structure Rr (w : World) (lo R : Nat) (v : Value) (T : List (Nat × Nat)) (y : Nat) (o ov : Bool) : Prop where
  cells : Cells w R #[v, .int .i64 (y : Int), .bool o, .bool ov] 35
  own : Ow w lo 69 6 v T.length (tc T)
/-- What may turn while it is worked on: R, rows of events from lo on; blocks may come. -/
structure Fr (lo R : Nat) (w w' : World) : Prop where
  bel : Below lo w w'
  size : w.heap.size ≤ w'.heap.size
  kp : ∀ k, k < w.heap.size → k ≠ R → (∀ cs, w.heap[k]? ≠ some (.cells cs 69 (0, 0))) → w'.heap[k]? = w.heap[k]?
theorem Fr.refl (lo R : Nat) (w : World) : Fr lo R w w := ⟨Below.refl _ _, Nat.le_refl _, fun _ _ _ _ => rfl⟩
theorem Fr.trans {lo R : Nat} {w u v : World} (h : Fr lo R w u) (k : Fr lo R u v) : Fr lo R w v := ⟨h.bel.trans k.bel, Nat.le_trans h.size k.size, fun i h1 h2 h3 => by
  have e := h.kp i h1 h2 h3
  exact (k.kp i (Nat.lt_of_lt_of_le h1 h.size) h2 (by rw [e]; exact h3)).trans e⟩
theorem Fr.of_only {lo R : Nat} {w u : World} (h : Only R w u) (hR : lo ≤ R) : Fr lo R w u := ⟨h.below hR, Nat.le_of_eq h.size.symm, fun k _ hk _ => h.block k hk⟩
theorem Fr.of_got {lo R n : Nat} {w u : World} {v v' : Value} {xs : List Value} (h : Got lo 69 6 w u v v' n xs) : Fr lo R w u := ⟨h.bel, h.size, fun k hk _ hn => by
  rcases h.kp k hk with e | ⟨_, cs, e⟩
  · exact e
  · exact absurd e (hn cs)⟩
theorem Fr.of_below {lo R : Nat} {w u : World} (h : Below w.heap.size w u) (hlo : lo ≤ w.heap.size) : Fr lo R w u := ⟨h.mono hlo, h.size, fun k hk _ _ => h.block k hk⟩
theorem Fr.drewN {lo R : Nat} (w : World) (n : Nat) : Fr lo R w (w.drewN n) := ⟨Below.drewN2 (Below.refl _ w) n, Nat.le_refl _, fun k _ _ _ => rfl⟩
section
variable {w : World} {lo R y : Nat} {v : Value} {T : List (Nat × Nat)} {o ov : Bool}
theorem Rr.drewN (h : Rr w lo R v T y o ov) (n : Nat) : Rr (w.drewN n) lo R v T y o ov := ⟨h.cells, h.own.drewN n⟩
theorem Rr.c0 (h : Rr w lo R v T y o ov) : w.cell? ⟨R, 0, none⟩ = some v := h.cells.cell 0
theorem Rr.c1 (h : Rr w lo R v T y o ov) : w.cell? ⟨R, 1, none⟩ = some (.int .i64 (y : Int)) := h.cells.cell 1
theorem Rr.c2 (h : Rr w lo R v T y o ov) : w.cell? ⟨R, 2, none⟩ = some (.bool o) := h.cells.cell 2
theorem Rr.c3 (h : Rr w lo R v T y o ov) : w.cell? ⟨R, 3, none⟩ = some (.bool ov) := h.cells.cell 3
theorem Rr.below {u : World} (h : Rr w lo R v T y o ov) (k : Below w.heap.size w u) : Rr u lo R v T y o ov := ⟨h.cells.below k h.cells.lt, h.own.below k (Nat.le_refl _)⟩
set_option maxHeartbeats 2000000 in
theorem tell_c (t g : Nat) (hlo : lo ≤ R) (h : Rr w lo R v T y o ov) (hT : T.length < 1000000000000) : Calls Try.prog 33 #[.pointer (some ⟨R, 0, none⟩), .int .i64 (t : Int), .agg (evv g)] w fun e w' => e = .returned (.tuple #[]) ∧ (∃ v', Rr w' lo R v' (T ++ [(t, g)]) y o ov) ∧ Fr lo R w w' := by
  obtain ⟨a, c, hv, hc, _, _⟩ := h.own.shape
  obtain ⟨N, hN⟩ : ∃ N, T.length = N := ⟨_, rfl⟩
  obtain ⟨H, hH⟩ : ∃ H, w.heap.size = H := ⟨_, rfl⟩
  obtain ⟨ek, hek⟩ : ∃ z : Int, ((evk g : Nat) : Int) = z := ⟨_, rfl⟩
  obtain ⟨eb, heb⟩ : ∃ z : Int, ((evb g : Nat) : Int) = z := ⟨_, rfl⟩
  obtain ⟨en', hen⟩ : ∃ z : Int, ((evn g : Nat) : Int) = z := ⟨_, rfl⟩
  have hevv : evv g = #[.int .i64 ek, .int .u8 eb, .int .i64 en', .int .i64 0, .string ⟨#[]⟩] := by rw [← hek, ← heb, ← hen]; rfl
  have htc : tc [(t, g)] = [.int .i64 (t : Int), .int .i64 ek, .int .u8 eb, .int .i64 en', .int .i64 0, .string ⟨#[]⟩] := by rw [← hek, ← heb, ← hen]; rfl
  rw [hevv]
  rw [hN] at hv hT
  obtain ⟨w1, hw1⟩ : ∃ w1, w.alloc (.cells #[.int .i64 ek, .int .u8 eb, .int .i64 en', .int .i64 0, .string ⟨#[]⟩] 50) = w1 := ⟨_, rfl⟩
  have b1 : Below w.heap.size w w1 := by rw [← hw1]; exact (Below.refl _ w).alloc (Nat.le_refl _) _
  have r1 := h.below b1
  have hz1 : w1.heap.size = H + 1 := by rw [← hw1, ← hH]; simp
  have k50 : Cells w1 H #[.int .i64 ek, .int .u8 eb, .int .i64 en', .int .i64 0, .string ⟨#[]⟩] 50 := by rw [← hw1, ← hH]; exact Cells.new w _ 50
  obtain ⟨w2, hw2⟩ : ∃ w2, (w1.alloc (.cells #[.int .i64 (t : Int), .int .i64 ek, .int .u8 eb, .int .i64 en', .int .i64 0, .string ⟨#[]⟩] 69)).drew = w2 := ⟨_, rfl⟩
  have b2 : Below w1.heap.size w1 w2 := by rw [← hw2]; exact ((Below.refl _ w1).alloc (Nat.le_refl _) _).drew
  have r2 := r1.below b2
  have k69 : Cells w2 (H + 1) #[.int .i64 (t : Int), .int .i64 ek, .int .u8 eb, .int .i64 en', .int .i64 0, .string ⟨#[]⟩] 69 := by rw [← hw2, ← hz1]; exact (Cells.new w1 _ 69).drew
  have hnews : ∀ (j : Nat) x, (tc [(t, g)])[j]? = some x → w2.cell? ⟨H + 1, 0 + j, none⟩ = some x := fun j x hj => by
    rw [Nat.zero_add, k69.cell, ← hj, htc]; simp
  have d0 := k50.cell 0
  have d1 := k50.cell 1
  have d2 := k50.cell 2
  have d3 := k50.cell 3
  have d4 := k50.cell 4
  have c0 := r1.c0
  rw [hv] at c0
  have k50' := k50.alloc (.cells #[.int .i64 (t : Int), .int .i64 ek, .int .u8 eb, .int .i64 en', .int .i64 0, .string ⟨#[]⟩] 69)
  have a0 : (w1.alloc (.cells #[.int .i64 (t : Int), .int .i64 ek, .int .u8 eb, .int .i64 en', .int .i64 0, .string ⟨#[]⟩] 69)).cell? ⟨R, 0, none⟩ = some (.slice a N c) := by rw [(r1.cells.alloc _).cell, ← hv]; rfl
  obtain ⟨i0, hi, hz0, hz1', hz2⟩ := ginfo_parts ginfo69
  have how := r2.own
  rw [hN, hv] at how
  have hk2 : ∀ (v2 : Value) (w3 : World) (n2 : Nat) (xs : List Value), Got lo 69 6 w2 w3 (.slice a N c) v2 n2 xs → w3.cell? ⟨R, 0, none⟩ = some (.slice a N c) ∧ w3.frozen? ⟨R, 0, none⟩ = false := fun v2 w3 n2 xs hg => by
    have k2 := r2.cells.got hg (by decide)
    refine ⟨?_, k2.frozen 0⟩
    rw [k2.cell, ← hv]; rfl
  have A : Aside (Rr w2 lo R v T y o ov ∧ Fr lo R w w2 ∧ lo ≤ R ∧ (w1.alloc (.cells #[.int .i64 (t : Int), .int .i64 ek, .int .u8 eb, .int .i64 en', .int .i64 0, .string ⟨#[]⟩] 69)).drew = w2 ∧ T.length = N) := ⟨r2, (Fr.of_below b1 h.own.le).trans (Fr.of_below b2 r1.own.le), hlo, hw2, hN⟩
  have AN : Aside (N + 1 ≤ maxLen ∧ (N + 1) * 56 ≤ 140737488355328) := ⟨by unfold maxLen; omega, by omega⟩
  rw [← hw2] at how hnews hk2
  have h1c := tc_one [(t, g)]
  clear h b1 r1 k50 b2 r2 k69 hw2 hN hc hT hlo hek heb hen hevv htc k50'
  go_enter Try.func33, Try.ntmps33
  go_upto_region 1 with fail
  go_region_law (refine step_ow Try.prog _ rfl (.tmp 10) (.tmp 14) 33 rfl 69 i0 _ 6 56 Try.underlying33 hi hz0 hz1' hz2 rfl (by decide) lo (.slice a N c) N _ (by go_simp) how (H + 1) 0 1 _ rfl (by go_simp) hnews h1c AN.out.1 AN.out.2 ?_; intro gg cap w3 hgot; have e4 := (hk2 _ _ _ _ hgot).1; have f4 := (hk2 _ _ _ _ hgot).2)
  all_goals
    go_wp2_with fail
    first | go_end0 | (refine bodyPost_ret (results_none rfl _ _ _) rfl ?_)
    have ae := A.out
    rw [ae.2.2.2.1] at hgot
    have k2 := ae.1.cells.got hgot (by decide)
    refine ⟨rfl, ⟨.slice (some ⟨gg, 0, none⟩) (N + 1) cap, ?_, ?_⟩, (ae.2.1.trans (Fr.of_got hgot)).trans (Fr.of_only ((Only.refl R w3).setCell 0 _) ae.2.2.1)⟩
    · have := k2.set 0 (.slice (some ⟨gg, 0, none⟩) (N + 1) cap)
      simpa using this
    · have := hgot.ow.set (i := 0) (x := .slice (some ⟨gg, 0, none⟩) (N + 1) cap) k2 (by decide)
      rw [List.length_append, ae.2.2.2.2, tc_append]
      exact this
end
end Go.Proofs.Ytbndohpcaahenaa

/-
  Own texts of this seat, one behind the other: what each says stands ahead of it.
-/
import Derived.Test.YtogednaamndpgaaGreatDoorMe
import Derived.Deep.RegionLaw
import Derived.Deep.AppendLies
/-
  What the document's give comes to: a byte is known.
-/
namespace Go.Proofs.YtogednaamndpgaaGreatDoor
open Go.RowKit
set_option linter.unusedVariables false
/-- What a call of the run's own may turn: its block, its two lists' blocks; lists may move to new ones. -/
structure Chg (R : Nat) (vO vT vO' vT' : Value) (w w' : World) : Prop where
  os : w'.os = w.os
  tape : w'.tape = w.tape
  output : w'.output = w.output
  size : w.heap.size ≤ w'.heap.size
  block : ∀ k, k < w.heap.size → k ≠ R → some k ≠ vO.ownBlock → some k ≠ vT.ownBlock → w'.heap[k]? = w.heap[k]?
  ownO : ∀ k, vO'.ownBlock = some k → vO.ownBlock = some k ∨ w.heap.size ≤ k
  ownT : ∀ k, vT'.ownBlock = some k → vT.ownBlock = some k ∨ w.heap.size ≤ k
theorem Chg.refl (R : Nat) (vO vT : Value) (w : World) : Chg R vO vT vO vT w w := ⟨rfl, rfl, rfl, Nat.le_refl _, fun _ _ _ _ _ => rfl, fun _ h => Or.inl h, fun _ h => Or.inl h⟩
theorem Chg.of_only {R : Nat} {vO vT : Value} {w u : World} (h : Only R w u) : Chg R vO vT vO vT w u :=
  ⟨h.os, h.tape, h.output, Nat.le_of_eq h.size.symm, fun k _ h1 _ _ => h.block k h1, fun _ h => Or.inl h, fun _ h => Or.inl h⟩
theorem Chg.of_below {R : Nat} {vO vT : Value} {w u : World} (h : Below w.heap.size w u) : Chg R vO vT vO vT w u :=
  ⟨h.os, h.tape, h.output, h.size, fun k hk _ _ _ => h.block k hk, fun _ h => Or.inl h, fun _ h => Or.inl h⟩
theorem Chg.drawn {R : Nat} {vO vT : Value} {w u : World} (h : Drawn w u) : Chg R vO vT vO vT w u := by
  obtain ⟨n, rfl⟩ := h
  exact ⟨rfl, rfl, rfl, Nat.le_refl _, fun _ _ _ _ _ => rfl, fun _ h => Or.inl h, fun _ h => Or.inl h⟩
theorem Chg.trans {R : Nat} {a b c d e f : Value} {w u v : World} (h : Chg R a b c d w u) (k : Chg R c d e f u v) : Chg R a b e f w v := by
  refine ⟨k.os.trans h.os, k.tape.trans h.tape, k.output.trans h.output, Nat.le_trans h.size k.size, fun i hi h1 h2 h3 => ?_, fun i hi => ?_, fun i hi => ?_⟩
  · refine (k.block i (Nat.lt_of_lt_of_le hi h.size) h1 (fun e => ?_) (fun e => ?_)).trans (h.block i hi h1 h2 h3)
    · rcases h.ownO i e.symm with e2 | e2
      · exact h2 e2.symm
      · omega
    · rcases h.ownT i e.symm with e2 | e2
      · exact h3 e2.symm
      · omega
  · rcases k.ownO i hi with e2 | e2
    · exact h.ownO i e2
    · exact Or.inr (Nat.le_trans h.size e2)
  · rcases k.ownT i hi with e2 | e2
    · exact h.ownT i e2
    · exact Or.inr (Nat.le_trans h.size e2)
theorem Chg.drew {R : Nat} {a b c d : Value} {w u : World} (h : Chg R a b c d w u) : Chg R a b c d w u.drew := ⟨h.os, h.tape, h.output, h.size, h.block, h.ownO, h.ownT⟩
theorem Chg.below {base R L C most : Nat} {a : Option Addr} {s : Rs} {vO vT vO' vT' : Value} {w u : World} (h : Chg R vO vT vO' vT' w u) (hr : Rn w base R a L C most s vO vT) (hb : base ≤ w.heap.size) : Below base w u :=
  ⟨h.os, h.tape, h.output, h.size, fun k hk => h.block k (by omega) (by have := hr.rb; omega) (fun e => by have := (hr.oo.lt k e.symm).1; omega) (fun e => by have := (hr.ot.lt k e.symm).1; omega)⟩
theorem info5 : (Tryz.prog.info? 5).map (fun i => (i.zero, i.size, i.bytes)) = some (some (.int .u8 0), 1, 1) := by kernel_rfl
theorem info3' : (Tryz.prog.info? 3).map (fun i => (i.zero, i.size, i.bytes)) = some (some (.int .i64 0), 1, 8) := by kernel_rfl
theorem own_shape {w : World} {base e n : Nat} {v : Value} {xs : List Value} (h : w.ownsRow base e 1 v n xs) : ∃ a c, v = .slice a n c := by
  rcases h.2 with ⟨rfl, rfl⟩ | ⟨g, c, cur, rfl, _⟩
  · exact ⟨none, 0, rfl⟩
  · exact ⟨_, _, rfl⟩
variable {w u : World} {base R L C most : Nat} {a : Option Addr} {s : Rs} {vO vT : Value}
set_option maxRecDepth 100000 in
set_option maxHeartbeats 2000000 in
theorem give_no (h : Rn w base R a L C most s vO vT) (b : Nat) (hp : s.pos < 1000000000000000000) (hge : most ≤ s.out.length) (hm : most ≤ 1048576) : Calls Tryz.prog 88 #[.pointer (some ⟨R, 0, none⟩), .int .u8 (b : Int)] w fun e w' => e = .returned (.tuple #[]) ∧ Rn w' base R a L C most { s with why := 62, at_ := (s.pos - 1) / 8 } vO vT ∧ Only R w w' := by
  obtain ⟨oa, oc, hvO⟩ := own_shape h.oo
  subst hvO
  have c1 := h.c1
  have c2 := h.c2
  obtain ⟨N, hN⟩ : ∃ N, s.out.length = N := ⟨_, rfl⟩
  rw [hN] at c2 hge h ⊢
  have hgI : (most : Int) ≤ (N : Int) := by omega
  go_enter Tryz.func88, Tryz.ntmps88
  go_upto_region 0 with fail
  go_quiet (fail)
  have hr := h.drewN nq
  obtain ⟨w1, hw1⟩ : ∃ w1, w.drewN nq = w1 := ⟨_, rfl⟩
  have A1 : Aside (w.drewN nq = w1 ∧ Rn w1 base R a L C most s (.slice oa N oc) vT) := ⟨hw1, by rw [← hw1]; exact hr⟩
  rw [hw1]
  clear hw1 hr h c1 c2 hge hN
  have f8 := A1.out.2.fz 8
  obtain ⟨f, hc⟩ := A1.out.2.cells
  have c8 : w1.cell? ⟨R, 8, none⟩ = some (.bool f) := by rw [hc.cell]; rfl
  have o8 : Only R w1 (w1.setCell ⟨R, 8, none⟩ (.bool true)) := (Only.refl R w1).setCell _ _
  have hr8 : Rn (w1.setCell ⟨R, 8, none⟩ (.bool true)) base R a L C most s (.slice oa N oc) vT := A1.out.2.only o8 ⟨true, hc.set 8 _⟩ rfl rfl
  have hst := stop_c hr8 62 hp
  have A8 : Aside (Only R w1 (w1.setCell ⟨R, 8, none⟩ (.bool true))) := o8
  clear hc o8 hr8
  go_wp2_with (go_at_call 63; refine hst.mono ?_; rintro e2 w2 ⟨rfl, hr2, ho2⟩)
  first | (refine bodyPost_ret (results_none rfl _ _ _) rfl ?_) | go_end0
  refine ⟨rfl, hr2, ?_⟩
  have := A8.out.trans ho2
  rw [← A1.out.1] at this
  exact ⟨this.os, this.tape, this.output, this.size, this.block⟩
theorem size_al' (w : World) (o : Obj) : (w.alloc o).heap.size = w.heap.size + 1 := Array.size_push _
theorem add_off (g o j : Nat) : (⟨g, o, none⟩ : Addr).add j = ⟨g, o + j, none⟩ := by unfold Addr.add; split <;> simp_all
theorem grown_cells {w u : World} {R t : Nat} {cs : Array Value} {v : Option Nat} (h : Cells w R cs t) (k : w.grownBy u v) (hne : some R ≠ v) : Cells u R cs t := (k.block R h.lt hne).trans h
/-- The run's block while a byte is given: the first list has grown, the second has not. -/
theorem own_alloc {w : World} {base e size n : Nat} {v : Value} {xs : List Value} (h : w.ownsRow base e size v n xs) (o : Obj) : (w.alloc o).ownsRow base e size v n xs := h.alloc o
theorem give_end {w1 w3 w4 : World} {f : Bool} {N g cap g4 cap4 b : Nat} (k3 : Cells w3 R #[.slice a L C, .int .i64 (most : Int), .slice (some ⟨g, 0, none⟩) (N + 1) cap, vT, .int .i64 (s.why : Int), .int .i64 (s.at_ : Int), .bool s.ended, .int .i64 (s.pos : Int), .bool f] 76)
    (oo3 : w3.ownsRow base 5 1 (.slice (some ⟨g, 0, none⟩) (N + 1) cap) (N + 1) (vn (s.out ++ [b]))) (ot3 : w3.ownsRow base 3 1 vT N (vt s.times)) (chg : Chg R vO vT (.slice (some ⟨g, 0, none⟩) (N + 1) cap) vT w1 w3) (aT : vT.ownBlock ≠ some R) (hgR : g ≠ R) (rb : base ≤ R) (hN : s.out.length = N) (hN2 : s.times.length = N)
    (tm : Nat) (htm : (s.pos - 1) / 8 = tm)
    (k4 : Cells w4 R #[.slice a L C, .int .i64 (most : Int), .slice (some ⟨g, 0, none⟩) (N + 1) cap, vT, .int .i64 (s.why : Int), .int .i64 (s.at_ : Int), .bool s.ended, .int .i64 (s.pos : Int), .bool f] 76)
    (hown4 : w4.ownsRow base 3 1 (.slice (some ⟨g4, 0, none⟩) (N + 1) cap4) (N + 1) (vt s.times ++ [.int .i64 (tm : Int)])) (hgrow4 : (w3.alloc (.cells #[.int .i64 (tm : Int)] 3)).drew.grownBy w4 vT.ownBlock) (hat4 : vT.ownBlock = some g4 ∨ g4 = (w3.alloc (.cells #[.int .i64 (tm : Int)] 3)).drew.heap.size) :
    Rn (w4.setCell ⟨R, 3, none⟩ (.slice (some ⟨g4, 0, none⟩) (N + 1) cap4)) base R a L C most { s with out := s.out ++ [b], times := s.times ++ [(s.pos - 1) / 8] } (.slice (some ⟨g, 0, none⟩) (N + 1) cap) (.slice (some ⟨g4, 0, none⟩) (N + 1) cap4) ∧
      Chg R vO vT (.slice (some ⟨g, 0, none⟩) (N + 1) cap) (.slice (some ⟨g4, 0, none⟩) (N + 1) cap4) w1 (w4.setCell ⟨R, 3, none⟩ (.slice (some ⟨g4, 0, none⟩) (N + 1) cap4)) := by
  have hs : (w3.alloc (.cells #[.int .i64 (tm : Int)] 3)).drew.heap.size = w3.heap.size + 1 := size_al' w3 _
  have o5 : Only R w4 (w4.setCell ⟨R, 3, none⟩ (.slice (some ⟨g4, 0, none⟩) (N + 1) cap4)) := (Only.refl R w4).setCell _ _
  have hg4 : g4 ≠ R := by
    rcases hat4 with e | e
    · intro e2; rw [e2] at e; exact aT e
    · have := k3.lt; omega
  have hgT : vT.ownBlock ≠ some g := by
    intro e
    rcases oo3.2 with ⟨e2, _⟩ | ⟨g', c', cur', e2, _, h1, _⟩
    · cases e2
    · cases e2
      rcases ot3.2 with ⟨rfl, _⟩ | ⟨g', c', cur', rfl, _, h2, _⟩
      · cases e
      · have : g' = g := by simpa [Value.ownBlock] using e
        subst this
        rw [h1] at h2; cases h2
  refine ⟨⟨⟨f, k4.set 3 _⟩, ?_, ?_, rb, by simp [hN, hN2]⟩, chg.trans ?_⟩
  · have e : (s.out ++ [b]).length = N + 1 := by simp [hN]
    show World.ownsRow _ base 5 1 _ (s.out ++ [b]).length (vn (s.out ++ [b]))
    rw [e]
    have h1 := (oo3.alloc (.cells #[.int .i64 (tm : Int)] 3)).drew.kept hgrow4 (Or.inr (fun e => hgT e.symm))
    exact own_only h1 o5 (by intro e; injection e with e; exact hgR e)
  · have e : (s.times ++ [(s.pos - 1) / 8]).length = N + 1 := by simp [hN2]
    show World.ownsRow _ base 3 1 _ (s.times ++ [(s.pos - 1) / 8]).length (vt (s.times ++ [(s.pos - 1) / 8]))
    rw [e, htm]
    have e2 : vt (s.times ++ [tm]) = vt s.times ++ [.int .i64 (tm : Int)] := by simp [vt]
    rw [e2]
    exact own_only hown4 o5 (by intro e; injection e with e; exact hg4 e)
  · refine ⟨o5.os.trans hgrow4.os, o5.tape.trans hgrow4.tape, o5.output.trans hgrow4.output, by rw [o5.size]; have := hgrow4.size; omega, fun k hk h1 h2 h3 => ?_, fun k hk => Or.inl hk, fun k hk => ?_⟩
    · refine (o5.block k h1).trans ((hgrow4.block k (by omega) h3).trans ?_)
      exact Below.heap_alloc w3 _ k hk
    · have : g4 = k := by injection hk
      subst this
      rcases hat4 with e | e
      · exact Or.inl e
      · right; omega
set_option maxRecDepth 100000 in
set_option maxHeartbeats 4000000 in
theorem give_yes (h : Rn w base R a L C most s vO vT) (b : Nat) (hb : b < 256) (hp : s.pos < 1000000000000000000) (hlt : s.out.length < most) (hm : most ≤ 1048576) (hbase : base ≤ w.heap.size) :
    Calls Tryz.prog 88 #[.pointer (some ⟨R, 0, none⟩), .int .u8 (b : Int)] w fun e w' => e = .returned (.tuple #[]) ∧ ∃ vO' vT', Rn w' base R a L C most { s with out := s.out ++ [b], times := s.times ++ [(s.pos - 1) / 8] } vO' vT' ∧ Chg R vO vT vO' vT' w w' := by
  obtain ⟨i5, hi5, hz50, hz51, hz52⟩ := info_parts info5
  obtain ⟨i3, hi3, hz30, hz31, hz32⟩ := info_parts info3'
  obtain ⟨oa, oc, hvO⟩ := own_shape h.oo
  have c1 := h.c1
  have c2 := h.c2
  have AV : Aside (vO = .slice oa s.out.length oc) := hvO
  rw [hvO] at c2
  obtain ⟨N, hN⟩ : ∃ N, s.out.length = N := ⟨_, rfl⟩
  rw [hN] at c2
  have hgI : ¬ (most : Int) ≤ (N : Int) := by omega
  have AH : Aside (s.out.length = N ∧ s.times.length = N ∧ N < most ∧ most ≤ 1048576) := ⟨hN, by rw [h.tl]; exact hN, by omega, hm⟩
  clear hvO
  go_enter Tryz.func88, Tryz.ntmps88
  go_upto_region 0 with fail
  go_quiet (fail)
  have hr := h.drewN nq
  obtain ⟨w1, hw1⟩ : ∃ w1, w.drewN nq = w1 := ⟨_, rfl⟩
  have A1 : Aside (w.drewN nq = w1 ∧ Rn w1 base R a L C most s vO vT ∧ base ≤ w1.heap.size ∧ Drawn w w1) := ⟨hw1, by rw [← hw1]; exact hr, by rw [← hw1]; exact hbase, ⟨nq, hw1.symm⟩⟩
  rw [hw1]
  clear hw1 hr h c1 c2 hlt hN hbase hm
  have c2 := A1.out.2.1.c2
  obtain ⟨H, hH⟩ : ∃ H, w1.heap.size = H := ⟨_, rfl⟩
  have hRH : R < H := by rw [← hH]; exact A1.out.2.1.lt
  obtain ⟨f, hc⟩ := A1.out.2.1.cells
  have AC : Aside (Cells w1 R #[.slice a L C, .int .i64 (most : Int), vO, vT, .int .i64 (s.why : Int), .int .i64 (s.at_ : Int), .bool s.ended, .int .i64 (s.pos : Int), .bool f] 76) := hc
  clear hc
  go_upto_region 4 with (first
    | (at_builtin; refine wpList_append_lies _ rfl (.tmp 23) (.tmp 25) 22 rfl base 5 i5 (.int .u8 0) 1 1 Tryz.underlying22 hi5 hz50 hz51 hz52 rfl (by decide) vO N (vn s.out) (by rfl) (by have := A1.out.2.1.oo; rw [AH.out.1] at this; exact own_alloc this _) ⟨H, 0, none⟩ 1 1 [.int .u8 (b : Int)] (by rfl) rfl (fun j u hj => by rw [add_off, Nat.zero_add, ← hH, (Cells.new w1 #[.int .u8 (b : Int)] 5).cell]; simpa using hj) (by simp [Value.oneCell']) (by decide) (by unfold maxLen; have := AH.out; omega) (by have := AH.out; omega) (by have := A1.out.2.2.1; have := size_al' w1 (.cells #[.int .u8 (b : Int)] 5); omega) _ rfl ?_; intro g cap w2 hown2 hgrow2 hat2 hlt2
       have k2 : Cells w2 R #[.slice a L C, .int .i64 (most : Int), vO, vT, .int .i64 (s.why : Int), .int .i64 (s.at_ : Int), .bool s.ended, .int .i64 (s.pos : Int), .bool f] 76 := grown_cells (AC.out.alloc _) hgrow2 (fun e => A1.out.2.1.aO e.symm)
       have c22 : w2.cell? ⟨R, 2, none⟩ = some vO := by rw [k2.cell]; rfl
       have f22 := k2.frozen 2))
  obtain ⟨w3, hw3⟩ : ∃ w3, w3 = w2.setCell ⟨R, 2, none⟩ (.slice (some ⟨g, 0, none⟩) (N + 1) cap) := ⟨_, rfl⟩
  have k3 : Cells w3 R #[.slice a L C, .int .i64 (most : Int), .slice (some ⟨g, 0, none⟩) (N + 1) cap, vT, .int .i64 (s.why : Int), .int .i64 (s.at_ : Int), .bool s.ended, .int .i64 (s.pos : Int), .bool f] 76 := by rw [hw3]; exact k2.set 2 _
  have o3 : Only R w2 w3 := by rw [hw3]; exact (Only.refl R w2).setCell _ _
  have aO := A1.out.2.1.aO
  have aT := A1.out.2.1.aT
  have hgR : g ≠ R := by
    rcases hat2 with e | e
    · intro e2; rw [e2] at e; exact aO e
    · have hs := size_al' w1 (.cells #[.int .u8 (b : Int)] 5)
      omega
  have oo3 : w3.ownsRow base 5 1 (.slice (some ⟨g, 0, none⟩) (N + 1) cap) (N + 1) (vn (s.out ++ [b])) := by
    have e : vn (s.out ++ [b]) = vn s.out ++ [.int .u8 (b : Int)] := by simp [vn]
    rw [e]
    exact own_only hown2 o3 (by intro e; injection e with e; exact hgR e)
  have ot1 := A1.out.2.1.ot
  rw [AH.out.2.1] at ot1
  have ot3 : w3.ownsRow base 3 1 vT N (vt s.times) := by
    have h1 := (ot1.alloc (.cells #[.int .u8 (b : Int)] 5)).kept hgrow2 (by
      rcases A1.out.2.1.aOT with e | e
      · cases e2 : vT.ownBlock with
        | none => exact Or.inl rfl
        | some g => right; rw [e]; intro e3; cases e3
      · exact Or.inr fun e2 => e e2.symm)
    exact own_only h1 o3 aT
  have s12 : w1.heap.size + 1 ≤ w2.heap.size := by have := hgrow2.size; have hs := size_al' w1 (.cells #[.int .u8 (b : Int)] 5); omega
  have chg : Chg R vO vT (.slice (some ⟨g, 0, none⟩) (N + 1) cap) vT w1 w3 := by
    refine ⟨o3.os.trans hgrow2.os, o3.tape.trans hgrow2.tape, o3.output.trans hgrow2.output, by rw [o3.size]; omega, fun k hk h1 h2 h3 => ?_, fun k hk => ?_, fun k hk => Or.inl hk⟩
    · refine (o3.block k h1).trans ((hgrow2.block k (by have hs := size_al' w1 (.cells #[.int .u8 (b : Int)] 5); omega) h2).trans ?_)
      exact Below.heap_alloc w1 _ k hk
    · have : g = k := by injection hk
      subst this
      rcases hat2 with e | e
      · exact Or.inl e
      · right; rw [e]; have hs := size_al' w1 (.cells #[.int .u8 (b : Int)] 5); omega
  have A3 : Aside (Cells w3 R #[.slice a L C, .int .i64 (most : Int), .slice (some ⟨g, 0, none⟩) (N + 1) cap, vT, .int .i64 (s.why : Int), .int .i64 (s.at_ : Int), .bool s.ended, .int .i64 (s.pos : Int), .bool f] 76 ∧ w3.ownsRow base 5 1 (.slice (some ⟨g, 0, none⟩) (N + 1) cap) (N + 1) (vn (s.out ++ [b])) ∧ w3.ownsRow base 3 1 vT N (vt s.times) ∧ Chg R vO vT (.slice (some ⟨g, 0, none⟩) (N + 1) cap) vT w1 w3 ∧ base ≤ w3.heap.size ∧ vT.ownBlock ≠ some R ∧ g ≠ R) := ⟨k3, oo3, ot3, chg, by have := A1.out.2.2.1; rw [o3.size]; omega, aT, hgR⟩
  rw [← hw3]
  have c33 : w3.cell? ⟨R, 3, none⟩ = some vT := by rw [k3.cell]; rfl
  have c37 : w3.cell? ⟨R, 7, none⟩ = some (.int .i64 (s.pos : Int)) := by rw [k3.cell]; rfl
  obtain ⟨p, hpp⟩ : ∃ p, s.pos = p := ⟨_, rfl⟩
  have AP : Aside (s.pos = p) := hpp
  rw [hpp] at c37 hp
  obtain ⟨H3, hH3⟩ : ∃ H3, w3.heap.size = H3 := ⟨_, rfl⟩
  have hRH3 : R < H3 := by rw [← hH3]; exact k3.lt
  have hpw : wrap64 (((p : Int) - 1).tdiv 8) = (((p - 1) / 8 : Nat) : Int) := by rw [tdiv8]; exact w64_cast (by omega)
  clear hw3 k3 o3 aO aT hgR oo3 ot1 ot3 s12 chg k2 c22 f22 hown2 hgrow2 hat2 hlt2 c2 hH hRH hpp
  obtain ⟨tm, htm⟩ : ∃ tm, (p - 1) / 8 = tm := ⟨_, rfl⟩
  rw [htm] at hpw
  have htd : ((p : Int) - 1).tdiv 8 = (tm : Int) := by rw [tdiv8, htm]
  have AT : Aside ((p - 1) / 8 = tm ∧ tm < 1000000000000000000) := ⟨htm, by omega⟩
  have htmb : (tm : Int) < 1000000000000000000 := by omega
  clear htm hpw
  have hZ : IntKind.i64.wrap ((IntKind.i64.wrap ((p : Int) - 1)).tdiv 8) = (tm : Int) := by
    have e1 : IntKind.i64.wrap ((p : Int) - 1) = (p : Int) - 1 := by rw [IntKind.wrap_i64]; omega
    rw [e1, htd, IntKind.wrap_i64]; omega
  have AZ : Aside (IntKind.i64.wrap ((IntKind.i64.wrap ((p : Int) - 1)).tdiv 8) = (tm : Int)) := hZ
  clear hZ htd
  go_region_law ((first
    | (refine step_append_lies _ (by rfl) _ _ _ (by rfl) base 3 i3 (.int .i64 0) 1 8 Tryz.underlying74 hi3 hz30 hz31 hz32 rfl (by decide) _ N (vt s.times) (by rfl) (own_alloc A3.out.2.2.1 _) ⟨H3, 0, none⟩ 1 1 [.int .i64 (IntKind.i64.wrap ((IntKind.i64.wrap ((p : Int) - 1)).tdiv 8))] (by rfl) rfl (fun j u hj => by rw [add_off, Nat.zero_add, ← hH3]; exact (Cells.new w3 #[.int .i64 (IntKind.i64.wrap ((IntKind.i64.wrap ((p : Int) - 1)).tdiv 8))] 3).cell j |>.trans (by simpa using hj)) (by simp [Value.oneCell']) (by decide) (by unfold maxLen; have := AH.out; omega) (by have := AH.out; omega) (by have := A3.out.2.2.2.2.1; show base ≤ (w3.heap.push _).size; rw [Array.size_push]; omega) _ rfl ?_; intro g4 cap4 w4 hown4 hgrow4 hat4 hlt4
       have k4 : Cells w4 R #[.slice a L C, .int .i64 (most : Int), .slice (some ⟨g, 0, none⟩) (N + 1) cap, vT, .int .i64 (s.why : Int), .int .i64 (s.at_ : Int), .bool s.ended, .int .i64 (s.pos : Int), .bool f] 76 := grown_cells ((A3.out.1.drew).alloc _) hgrow4 (fun e => A3.out.2.2.2.2.2.1 e.symm)
       have c43 : w4.cell? ⟨R, 3, none⟩ = some vT := by rw [k4.cell]; rfl
       have f43 := k4.frozen 3)))
  all_goals
    rw [AZ.out] at hown4 hgrow4 hat4
    have R1 := give_end A3.out.1 A3.out.2.1 A3.out.2.2.1 A3.out.2.2.2.1 A3.out.2.2.2.2.2.1 A3.out.2.2.2.2.2.2 A1.out.2.1.rb AH.out.1 AH.out.2.1 tm (by rw [AP.out]; exact AT.out.1) k4 hown4 hgrow4 hat4
    have AR : Aside (_ ∧ _) := R1
    clear R1 hown4 hgrow4 hat4 hlt4 k4 c43 f43
    go_end0
    exact ⟨rfl, _, _, AR.out.1, (Chg.drawn A1.out.2.2.2).trans AR.out.2⟩
end Go.Proofs.YtogednaamndpgaaGreatDoor

/-
  What the document's symbol comes to: one of a code is read, bit by bit.
-/
namespace Go.Proofs.YtogednaamndpgaaGreatDoor
open Go.RowKit
set_option linter.unusedVariables false
/-- What reading a symbol leaves. -/
def symS (r : SR) (L : Nat) (s : Rs) : Rs := match r with
  | some (.inl (_, n)) => { s with pos := s.pos + n }
  | some (.inr j) => { s with pos := s.pos + j, why := 13, at_ := (s.pos + j - 1) / 8 }
  | none => { s with why := 1, at_ := L }
def symV (r : SR) : Nat := match r with
  | some (.inl (x, _)) => x
  | _ => 0
theorem told_any (ls : List Nat) (h : List Bool) (hk : part ls 15 ≤ 32768) (h15 : ∀ x ∈ ls, x ≤ 15) : (∃ x n, Hit ls h x n ∧ Told ls h x 0 n) ∨ ((∀ i n, ¬ Hit ls h i n) ∧ May ls h ∧ Told ls h 0 1 0) ∨ ((∀ i n, ¬ Hit ls h i n) ∧ ¬ May ls h ∧ Told ls h 0 2 0) := by
  have may : (∃ j n, ls[j]? = some n ∧ 0 < n ∧ h <+: cbits ls j) ↔ May ls h := by
    constructor
    · rintro ⟨j, n, h1, h2, h3⟩
      have := (may_prefix hk h15 h1 h2).1 h3
      exact ⟨j, n, h1, h2, this.1, this.2⟩
    · rintro ⟨j, n, h1, h2, h3, h4⟩
      exact ⟨j, n, h1, h2, (may_prefix hk h15 h1 h2).2 ⟨h3, h4⟩⟩
  by_cases h1 : ∃ x n, Hit ls h x n
  · obtain ⟨x, n, hh⟩ := h1
    exact Or.inl ⟨x, n, hh, Or.inl ⟨hh, rfl⟩⟩
  · have h2 : ∀ i n, ¬ Hit ls h i n := fun i n hi => h1 ⟨i, n, hi⟩
    by_cases h3 : May ls h
    · exact Or.inr (Or.inl ⟨h2, h3, Or.inr (Or.inl ⟨h2, may.2 h3, rfl, rfl, rfl⟩)⟩)
    · exact Or.inr (Or.inr ⟨h2, h3, Or.inr (Or.inr ⟨h2, fun h4 => h3 (may.1 h4), rfl, rfl, rfl⟩)⟩)
variable {w u : World} {base R L C most : Nat} {a : Option Addr} {s : Rs} {vO vT : Value}
theorem Rn.below (h : Rn w base R a L C most s vO vT) (k : Below w.heap.size w u) : Rn u base R a L C most s vO vT := by
  obtain ⟨f, hc⟩ := h.cells
  have kg : w.grownBy u none := ⟨k.os, k.tape, k.output, k.size, fun i hi _ => k.block i hi⟩
  exact ⟨⟨f, hc.below k hc.lt⟩, h.oo.kept kg (by cases vO.ownBlock <;> simp), h.ot.kept kg (by cases vT.ownBlock <;> simp), h.rb, h.tl⟩
theorem bools_lb {w : World} {base n : Nat} {v : Value} {l : List Bool} (h : w.ownsRow base 4 1 v n (vb l)) (hn : l.length = n) : ∃ a c, v = .slice a n c ∧ Lb w a l := by
  rcases h.2 with ⟨hv, h0⟩ | ⟨g, c, cur, hv, hg, hh, hc, hm, hs, ht⟩
  · exact ⟨none, 0, by rw [hv, h0], Or.inl (List.eq_nil_of_length_eq_zero (by omega))⟩
  · refine ⟨_, c, hv, Or.inr ⟨g, 0, rfl, fun i x hx => ?_⟩⟩
    rw [Nat.zero_add, Cells.cell (cs := cur) (t := 4) hh]
    have hi : i < l.length := (List.getElem?_eq_some_iff.1 hx).1
    have e : (cur.toList.take (n * 1))[i]? = some (.bool x) := by rw [ht]; simp [vb, hx]
    rw [List.getElem?_take, if_pos (by omega)] at e
    simpa using e
theorem Rn.drawn (h : Rn w base R a L C most s vO vT) (k : Drawn w u) : Rn u base R a L C most s vO vT := by obtain ⟨n, rfl⟩ := k; exact h.drewN n
theorem below_drawn {B : Nat} {v : World} (h : Below B w u) (k : Drawn u v) : Below B w v := by obtain ⟨n, rfl⟩ := k; exact ⟨h.os, h.tape, h.output, h.size, h.block⟩
/-- The place is moved on. -/
theorem Rn.move (h : Rn w base R a L C most s vO vT) (p : Nat) : Rn (w.setCell ⟨R, 7, none⟩ (.int .i64 (p : Int))) base R a L C most { s with pos := p } vO vT ∧ Only R w (w.setCell ⟨R, 7, none⟩ (.int .i64 (p : Int))) := by
  have o : Only R w (w.setCell ⟨R, 7, none⟩ (.int .i64 (p : Int))) := (Only.refl R w).setCell _ _
  obtain ⟨f, hc⟩ := h.cells
  exact ⟨h.only o ⟨f, hc.set 7 _⟩ rfl rfl, o⟩
set_option maxRecDepth 100000 in
set_option maxHeartbeats 4000000 in
theorem symbol_c (B : List Nat) (h : Rn w base R a L C most s vO vT) (hB : Lies w a B) (hL : B.length = L) (hLb : L < 140737488355328) (ho : Oct B) (hp : s.pos ≤ 8 * L) (T : Nat) (ls : List Nat) (hT : Tb w T ls) (hl : ls.length ≤ 320) (hk : part ls 15 ≤ 32768) (h15 : ∀ x ∈ ls, x ≤ 15) (r : SR) (hr : sread ls ((allb B).drop s.pos) = r) :
    Calls Tryz.prog 89 #[.pointer (some ⟨R, 0, none⟩), .pointer (some ⟨T, 0, none⟩)] w fun e w' => e = .returned (.int .i64 (symV r : Int)) ∧ Rn w' base R a L C most (symS r L s) vO vT ∧ Chg R vO vT vO vT w w' := by
  obtain ⟨i4, hi4, hz40, hz41, hz42⟩ := info_parts info4
  obtain ⟨hb, hhb⟩ : ∃ hb, (allb B).drop s.pos = hb := ⟨_, rfl⟩
  rw [hhb] at hr
  have hbl : hb.length = 8 * L - s.pos := by rw [← hhb, List.length_drop, allb_len, hL]
  obtain ⟨W, hW⟩ : ∃ W, w.heap.size = W := ⟨_, rfl⟩
  have AH : Aside (Rn w base R a L C most s vO vT ∧ Lies w a B ∧ B.length = L ∧ Oct B ∧ s.pos ≤ 8 * L ∧ Tb w T ls ∧ ls.length ≤ 320 ∧ part ls 15 ≤ 32768 ∧ (∀ x ∈ ls, x ≤ 15) ∧ sread ls hb = r ∧ hb.length = 8 * L - s.pos ∧ (allb B).drop s.pos = hb ∧ w.heap.size = W ∧ L < 140737488355328) := ⟨h, hB, hL, ho, hp, hT, hl, hk, h15, hr, hbl, hhb, hW, hLb⟩
  clear h hB hL ho hp hT hl hk h15 hr hbl hhb hW
  go_enter Tryz.func89, Tryz.ntmps89
  go_wp2_with fail
  go_loopg [5] 17 (fun g vh wr => ∃ j : Nat, Aside (j + g = 17 ∧ j ≤ hb.length ∧ (∀ k, k < j → May ls (hb.take k)) ∧ (∀ k, k < j → ∀ i n, ¬ Hit ls (hb.take k) i n) ∧ wr.ownsRow W 4 1 vh j (vb (hb.take j)) ∧ Below W w wr))
  case atStart => exact ⟨0, by omega, by omega, fun k hk => by omega, fun k hk => by omega, World.ownsRow_nil _ _ _ _, Below.refl _ _⟩
  case round =>
    obtain ⟨j, hJ⟩ := hrel
    have a1 := AH.out
    have j1 := hJ.out
    have hjl : (hb.take j).length = j := by rw [List.length_take]; omega
    obtain ⟨ha, hc, hvh, hlb⟩ := bools_lb j1.2.2.2.2.1 hjl
    have bw : Below w.heap.size w wr := by rw [a1.2.2.2.2.2.2.2.2.2.2.2.2.1]; exact j1.2.2.2.2.2
    have hT1 : Tb wr T ls := a1.2.2.2.2.2.1.below bw
    have hr1 : Rn wr base R a L C most s vO vT := a1.1.below bw
    have hB1 : Lies wr a B := a1.2.1.below bw
    have hj15 : j ≤ 16 := by
      by_cases h0 : j = 0
      · omega
      · obtain ⟨x, n, h1, h2, h3, h4⟩ := j1.2.2.1 (j - 1) (by omega)
        have := a1.2.2.2.2.2.2.2.2.1 n (List.mem_of_getElem? h1)
        rw [List.length_take] at h3
        omega
    rcases told_any ls (hb.take j) a1.2.2.2.2.2.2.2.1 a1.2.2.2.2.2.2.2.2.1 with ⟨x, n, hh, htold⟩ | ⟨hno, hmay, htold⟩ | ⟨hno, hmay, htold⟩
    · have hlook := rlook_c T ls ha (hb.take j) j hc ls.length x 0 n wr hT1 hlb hjl (by omega) rfl a1.2.2.2.2.2.2.1 a1.2.2.2.2.2.2.2.1 a1.2.2.2.2.2.2.2.2.1 htold
      have hrr : r = .got x n := by rw [← a1.2.2.2.2.2.2.2.2.2.1]; exact sread_got (hit_of_take hh)
      have AJ : Aside (Rn wr base R a L C most s vO vT ∧ Below w.heap.size w wr ∧ r = .got x n ∧ n ≤ 16 ∧ s.pos ≤ 8 * L) := ⟨hr1, bw, hrr, by have := hh.2.2.1; omega, a1.2.2.2.2.1⟩
      subst hvh
      clear hJ a1 j1 hjl hlb bw hT1 hr1 hB1 hh htold hrr
      go_upto_region 3 with (go_at_call 106; refine hlook.mono ?_; rintro e2 w2 ⟨rfl, hd2⟩)
      have hr2 := AJ.out.1.drawn hd2
      have b2 := below_drawn AJ.out.2.1 hd2
      have c7 := hr2.c7
      have f7 := hr2.fz 7
      obtain ⟨p, hp⟩ : ∃ p, s.pos = p := ⟨_, rfl⟩
      have hmv := hr2.move (p + n)
      have A2 : Aside (Rn (w2.setCell ⟨R, 7, none⟩ (.int .i64 ((p + n : Nat) : Int))) base R a L C most { s with pos := p + n } vO vT ∧ Only R w2 (w2.setCell ⟨R, 7, none⟩ (.int .i64 ((p + n : Nat) : Int))) ∧ Below w.heap.size w w2 ∧ s.pos = p) := ⟨hmv.1, hmv.2, b2, hp⟩
      have hpn : (p : Int) + (n : Int) < 9000000000000000000 := by have := AJ.out; have := AH.out; omega
      rw [hp] at c7
      clear hlook hd2 hr2 b2 hmv hp
      go_wp2_with fail
      first | go_ret | go_ret2
      have a2 := A2.out
      rw [AJ.out.2.2.1]
      refine ⟨rfl, ?_, (Chg.of_below a2.2.2.1).trans (Chg.of_only ?_)⟩
      · show Rn _ base R a L C most { s with pos := s.pos + n } vO vT
        rw [a2.2.2.2]
        have := a2.1
        rw [Int.natCast_add] at this
        exact this
      · have := a2.2.1
        rw [Int.natCast_add] at this
        exact this
    · have hlook := rlook_c T ls ha (hb.take j) j hc ls.length 0 1 0 wr hT1 hlb hjl (by omega) rfl a1.2.2.2.2.2.2.1 a1.2.2.2.2.2.2.2.1 a1.2.2.2.2.2.2.2.2.1 htold
      have hj14 : j ≤ 15 := by
        obtain ⟨x, n, h1, h2, h3, h4⟩ := hmay
        have := a1.2.2.2.2.2.2.2.2.1 n (List.mem_of_getElem? h1)
        omega
      obtain ⟨p, hp⟩ : ∃ p, s.pos = p := ⟨_, rfl⟩
      by_cases hend : j = hb.length
      · have hrr : r = .cut := by
          rw [← a1.2.2.2.2.2.2.2.2.2.1]
          rw [hend, List.take_length] at hno hmay
          exact sread_cut hno hmay
        have hge : (8 : Int) * (L : Int) ≤ (p : Int) + (j : Int) := by omega
        have AJ : Aside (Rn wr base R a L C most s vO vT ∧ Below w.heap.size w wr ∧ r = .cut ∧ s.pos = p ∧ p ≤ 8 * L) := ⟨hr1, bw, hrr, hp, by omega⟩
        have hL8 : (8 : Int) * (L : Int) < 9000000000000000000 := by omega
        have hpj : (p : Int) + (j : Int) < 9000000000000000000 := by omega
        subst hvh
        clear hJ a1 j1 hjl hlb bw hT1 hr1 hB1 htold hrr hno hmay hend hp hj14
        go_upto_region 6 with (go_at_call 106; refine hlook.mono ?_; rintro e2 w2 ⟨rfl, hd2⟩)
        have hr2 := AJ.out.1.drawn hd2
        have c7 := hr2.c7
        have c0 := hr2.c0
        rw [AJ.out.2.2.2.1] at c7
        have hcut := cut_c hr2
        have A2 : Aside (Below w.heap.size w w2) := below_drawn AJ.out.2.1 hd2
        clear hlook hd2 hr2
        go_wp2_with (go_at_call 87; refine hcut.mono ?_; rintro e3 w3 ⟨rfl, hr3, ho3⟩)
        first | go_ret | go_ret2
        rw [AJ.out.2.2.1]
        exact ⟨rfl, hr3, (Chg.of_below A2.out).trans (Chg.of_only ho3)⟩
      · obtain ⟨q, hq⟩ : ∃ q, p + j = q := ⟨_, rfl⟩
        have hqI : (p : Int) + (j : Int) = (q : Int) := by omega
        have hlt : ((8 : Int) * (L : Int) ≤ (q : Int)) = False := eq_false (by omega)
        have hltN : (8 * L ≤ q) = False := eq_false (by omega)
        have hqb : (q : Int) < 9000000000000000000 := by omega
        have hqL : q / 8 < L := by omega
        obtain ⟨y, hy⟩ : ∃ y, B[q / 8]? = some y := ⟨_, List.getElem?_eq_getElem (by omega)⟩
        have hy256 := a1.2.2.2.1 y (List.mem_of_getElem? hy)
        obtain ⟨m, hm⟩ : ∃ m, q / 8 = m := ⟨_, rfl⟩
        obtain ⟨k, hk⟩ : ∃ k, q % 8 = k := ⟨_, rfl⟩
        have hmI : (q : Int).tdiv 8 = (m : Int) := by rw [Int.tdiv_eq_ediv_of_nonneg (by omega)]; omega
        have hkI : (q : Int).tmod 8 = (k : Int) := by rw [Int.tmod_eq_emod_of_nonneg (by omega)]; omega
        have hmL : (m : Int) < (L : Int) := by omega
        have hk8 : (k : Int) < 8 := by omega
        have hbit : hb[j]? = some (y / 2 ^ k % 2 == 1) := by
          rw [← a1.2.2.2.2.2.2.2.2.2.2.2.1, List.getElem?_drop, hp, hq, allb_at B q y hy, hk]
        have hnx : hb.take (j + 1) = hb.take j ++ [y / 2 ^ k % 2 == 1] := by rw [List.take_add_one, hbit]; rfl
        rcases a1.2.1 with e | ⟨b0, o0, rfl, hcB⟩
        · rw [e] at hy; simp at hy
        have cy0 := hcB _ y hy
        rw [hm] at cy0
        have AJ : Aside (Rn wr base R (some ⟨b0, o0, none⟩) L C most s vO vT ∧ Below w.heap.size w wr ∧ s.pos = p ∧ j + gk = 17 ∧ j < hb.length ∧ (∀ k, k < j + 1 → May ls (hb.take k)) ∧ (∀ k, k < j + 1 → ∀ i n, ¬ Hit ls (hb.take k) i n) ∧ wr.ownsRow W 4 1 (.slice ha j hc) j (vb (hb.take j)) ∧ hb.take (j + 1) = hb.take j ++ [y / 2 ^ k % 2 == 1] ∧ y < 256 ∧ w.cell? ⟨b0, o0 + m, none⟩ = some (.int .u8 (y : Int)) ∧ w.heap.size = W ∧ j ≤ 15) := by
          refine ⟨hr1, bw, hp, j1.1, by omega, fun k hk => ?_, fun k hk => ?_, by rw [← hvh]; exact j1.2.2.2.2.1, hnx, hy256, cy0, a1.2.2.2.2.2.2.2.2.2.2.2.2.1, hj14⟩
          · rcases (show k < j ∨ k = j by omega) with h | rfl
            · exact j1.2.2.1 k h
            · exact hmay
          · rcases (show k < j ∨ k = j by omega) with h | rfl
            · exact j1.2.2.2.1 k h
            · exact hno
        have hL8 : (8 : Int) * (L : Int) < 9000000000000000000 := by omega
        subst hvh
        clear hJ a1 j1 hjl hlb bw hT1 hr1 hB1 htold hno hmay hend hp hj14 hbit hnx hcB cy0 hy hm hk hqL hq
        go_upto_region 6 with (go_at_call 106; refine hlook.mono ?_; rintro e2 w2 ⟨rfl, hd2⟩)
        have aj := AJ.out
        have hr2 := aj.1.drawn hd2
        have c7 := hr2.c7
        have c0 := hr2.c0
        rw [aj.2.2.1] at c7
        have b2 := below_drawn aj.2.1 hd2
        have cy : w2.cell? ⟨b0, o0 + m, none⟩ = some (.int .u8 (y : Int)) := (b2.cell (p := ⟨b0, o0 + m, none⟩) (World.block_lt_of_cell? w ⟨b0, o0 + m, none⟩ aj.2.2.2.2.2.2.2.2.2.2.1)).trans aj.2.2.2.2.2.2.2.2.2.2.1
        have ow2 : w2.ownsRow W 4 1 (.slice ha j hc) j (vb (hb.take j)) := by obtain ⟨n, rfl⟩ := hd2; exact aj.2.2.2.2.2.2.2.1
        have A2 : Aside (Below w.heap.size w w2 ∧ w2.ownsRow W 4 1 (.slice ha j hc) j (vb (hb.take j)) ∧ W ≤ w2.heap.size) := ⟨b2, ow2, by rw [← aj.2.2.2.2.2.2.2.2.2.2.2.1]; exact b2.size⟩
        clear hlook hd2 hr2 b2 ow2 aj
        obtain ⟨H2, hH2⟩ : ∃ H2, w2.heap.size = H2 := ⟨_, rfl⟩
        have AM : Aside (((q : Int).tdiv 8 = (m : Int)) ∧ ((q : Int).tmod 8 = (k : Int)) ∧ ((m : Int) < (L : Int)) ∧ ((k : Int) < 8)) := ⟨hmI, hkI, hmL, hk8⟩
        clear hmI hkI hmL hk8 hj15
        have hLb2 : Aside (L < 140737488355328) := hLb
        clear hLb
        go_upto_region 11 with fail
        clear hqI
        go_upto_region 14 with fail
        obtain ⟨hmI, hkI, hmL, hk8⟩ := AM.out
        clear hL8 hlt hltN hqb
        have hLb := hLb2.out
        go_wp2_with (at_builtin; refine wpList_append_own _ rfl (.tmp 58) (.tmp 73) 131 rfl W 4 i4 (.bool false) 1 1 Tryz.underlying131 hi4 hz40 hz41 hz42 rfl (by decide) (.slice ha j hc) j (vb (hb.take j)) (by rfl) (own_alloc A2.out.2.1 _) ⟨H2, 0, none⟩ 1 1 [.bool (bits .and .u8 ((y : Int) / 2 ^ k) 1 == 1)] (by rfl) rfl (fun i u hu => by rw [add_off, Nat.zero_add, ← hH2, (Cells.new w2 #[.bool (bits .and .u8 ((y : Int) / 2 ^ k) 1 == 1)] 4).cell]; simpa using hu) (by simp [Value.oneCell']) (by unfold maxLen; have := AJ.out; omega) (by have := AJ.out; omega) (by have := A2.out.2.2; have := size_al' w2 (.cells #[.bool (bits .and .u8 ((y : Int) / 2 ^ k) 1 == 1)] 4); omega) ?_; intro v3 w3 hown3 hgrow3 hnil3)
        have aj := AJ.out
        have b3 : Below W w w3 := by
          have h1 : Below W w w2 := by rw [← aj.2.2.2.2.2.2.2.2.2.2.2.1]; exact A2.out.1
          have h2 : Below W w (w2.alloc (.cells #[.bool (bits .and .u8 ((y : Int) / 2 ^ k) 1 == 1)] 4)) := h1.alloc (by have := A2.out.2.2; omega) _
          exact h2.trans ((Below.refl _ _).grown hgrow3 (by have := A2.out.2.2; have := size_al' w2 (.cells #[.bool (bits .and .u8 ((y : Int) / 2 ^ k) 1 == 1)] 4); omega) (fun g hg => (A2.out.2.1.lt g hg).1))
        rw [bit_u8 y k hy256] at hown3
        have A3 : Aside (w3.ownsRow W 4 1 v3 (j + 1) (vb (hb.take j) ++ [.bool (y / 2 ^ k % 2 == 1)]) ∧ Below W w w3) := ⟨hown3, b3⟩
        clear hown3 hgrow3 hnil3 b3 aj
        go_roundg (17 - (j + 1))
        case measure => have := AJ.out; omega
        case rel =>
          have aj := AJ.out
          refine ⟨j + 1, by omega, by omega, aj.2.2.2.2.2.1, aj.2.2.2.2.2.2.1, ?_, A3.out.2⟩
          have e : vb (hb.take (j + 1)) = vb (hb.take j) ++ [.bool (y / 2 ^ k % 2 == 1)] := by rw [aj.2.2.2.2.2.2.2.2.1]; simp [vb]
          rw [e]
          exact A3.out.1
    · have hlook := rlook_c T ls ha (hb.take j) j hc ls.length 0 2 0 wr hT1 hlb hjl (by omega) rfl a1.2.2.2.2.2.2.1 a1.2.2.2.2.2.2.2.1 a1.2.2.2.2.2.2.2.2.1 htold
      have hrr : r = .bad j := by rw [← a1.2.2.2.2.2.2.2.2.2.1]; exact sread_bad j1.2.1 hno hmay j1.2.2.1
      have AJ : Aside (Rn wr base R a L C most s vO vT ∧ Below w.heap.size w wr ∧ r = .bad j ∧ j ≤ 16 ∧ s.pos ≤ 8 * L) := ⟨hr1, bw, hrr, hj15, a1.2.2.2.2.1⟩
      subst hvh
      clear hJ a1 j1 hjl hlb bw hT1 hr1 hB1 htold hrr hno hmay
      go_upto_region 6 with (go_at_call 106; refine hlook.mono ?_; rintro e2 w2 ⟨rfl, hd2⟩)
      have hr2 := AJ.out.1.drawn hd2
      have b2 := below_drawn AJ.out.2.1 hd2
      have c7 := hr2.c7
      have f7 := hr2.fz 7
      obtain ⟨p, hp⟩ : ∃ p, s.pos = p := ⟨_, rfl⟩
      have hmv := hr2.move (p + j)
      have hst := stop_c hmv.1 13 (by show p + j < _; have := AJ.out; have := AH.out; omega)
      rw [Int.natCast_add] at hst
      have A2 : Aside (Only R w2 (w2.setCell ⟨R, 7, none⟩ (.int .i64 ((p : Int) + (j : Int)))) ∧ Below w.heap.size w w2 ∧ s.pos = p) := ⟨by have := hmv.2; rw [Int.natCast_add] at this; exact this, b2, hp⟩
      have hpn : (p : Int) + (j : Int) < 9000000000000000000 := by have := AJ.out; have := AH.out; omega
      rw [hp] at c7
      clear hlook hd2 hr2 b2 hmv hp
      go_wp2_with (go_at_call 63; refine hst.mono ?_; rintro e3 w3 ⟨rfl, hr3, ho3⟩)
      first | go_ret | go_ret2
      have a2 := A2.out
      rw [AJ.out.2.2.1]
      refine ⟨rfl, ?_, (Chg.of_below a2.2.1).trans (Chg.of_only (a2.1.trans ho3))⟩
      show Rn _ base R a L C most { s with pos := s.pos + j, why := 13, at_ := (s.pos + j - 1) / 8 } vO vT
      rw [a2.2.2]
      exact hr3
end Go.Proofs.YtogednaamndpgaaGreatDoor

/-
  What lies around the document's run, and its small calls told by the machine's steps.
-/
namespace Go.Proofs.YtogednaamndpgaaGreatDoor
open Go.RowKit
set_option linter.unusedVariables false
/-- Neither stopped nor ended. -/
def Opn (s : Rs) : Prop := s.why = 0 ∧ s.ended = false
theorem Opn.opn {s : Rs} (h : Opn s) : s.opn = true := by unfold Rs.opn; rw [h.1, h.2]; rfl
/-- The machine has come to c, and there is no step more: so the run knows it. -/
structure Fin (bs : List Bool) (most L : Nat) (c : Cfg) (s : Rs) : Prop where
  none_ : step bs most c = none
  out : s.out = c.out
  times : s.times = c.times
  ended : s.ended = false
  how : (∃ y, c.st = .bad y ∧ s.why = y ∧ s.at_ = (c.pos - 1) / 8 ∧ y ≠ 0) ∨ ((∀ y, c.st ≠ .bad y) ∧ c.st ≠ .done ∧ s.why = 1 ∧ s.at_ = L)
theorem Fin.opn {bs : List Bool} {most L : Nat} {c : Cfg} {s : Rs} (h : Fin bs most L c s) : s.opn = false := by
  unfold Rs.opn
  rcases h.how with ⟨y, _, h1, _, h2⟩ | ⟨_, _, h1, _⟩
  · rw [h1]; have : (y == 0) = false := beq_eq_false_iff_ne.2 h2; rw [this]; rfl
  · rw [h1]; rfl
/-- More bits are wanted. -/
theorem Fin.cut {bs : List Bool} {most L : Nat} {c : Cfg} {s : Rs} (h : step bs most c = none) (h1 : s.out = c.out) (h2 : s.times = c.times) (h3 : s.ended = false) (h4 : ∀ y, c.st ≠ .bad y) (h5 : c.st ≠ .done) : Fin bs most L c { s with why := 1, at_ := L } := ⟨h, h1, h2, h3, Or.inr ⟨h4, h5, rfl, rfl⟩⟩
theorem Fin.bad {bs : List Bool} {most L : Nat} {c : Cfg} {s : Rs} (y : Nat) (hc : c.st = .bad y) (h1 : s.out = c.out) (h2 : s.times = c.times) (h3 : s.ended = false) (hy : y ≠ 0) (hp : c.pos = s.pos) : Fin bs most L c { s with why := y, at_ := (s.pos - 1) / 8 } :=
  ⟨by unfold step; rw [hc], h1, h2, h3, Or.inl ⟨y, hc, rfl, by rw [hp], hy⟩⟩
/-- Whatever the run does, P holds on. -/
def Kept (P : World → Prop) (R : Nat) (vO vT : Value) (w : World) : Prop := ∀ (u : World) (vO' vT' : Value), Chg R vO vT vO' vT' w u → P u
theorem Kept.now {P : World → Prop} {R : Nat} {vO vT : Value} {w : World} (h : Kept P R vO vT w) : P w := h w vO vT (Chg.refl _ _ _ _)
theorem Kept.on {P : World → Prop} {R : Nat} {vO vT vO' vT' : Value} {w u : World} (h : Kept P R vO vT w) (k : Chg R vO vT vO' vT' w u) : Kept P R vO' vT' u := fun v x y hv => h v x y (k.trans hv)
/-- What lies around a run. -/
structure Ctx (B : List Nat) (base R : Nat) (a : Option Addr) (L C most : Nat) (w : World) (s : Rs) (vO vT : Value) : Prop where
  run : Rn w base R a L C most s vO vT
  lies : Kept (fun u => Lies u a B) R vO vT w
  len : B.length = L
  lb : L < 140737488355328
  oct : Oct B
  pos : s.pos ≤ 8 * L
  most_ : most ≤ 1048576
  base_ : base ≤ w.heap.size
  og : Oct s.out
theorem Ctx.on {B : List Nat} {base R L C most : Nat} {a : Option Addr} {w u : World} {s s' : Rs} {vO vT vO' vT' : Value} (h : Ctx B base R a L C most w s vO vT) (hr : Rn u base R a L C most s' vO' vT') (k : Chg R vO vT vO' vT' w u) (hp : s'.pos ≤ 8 * L) (hg : Oct s'.out) : Ctx B base R a L C most u s' vO' vT' :=
  ⟨hr, h.lies.on k, h.len, h.lb, h.oct, hp, h.most_, Nat.le_trans h.base_ k.size, hg⟩
/-- A table that stays. -/
structure Tab (R : Nat) (vO vT : Value) (w : World) (T : Nat) (ls : List Nat) : Prop where
  tb : Kept (fun u => Tb u T ls) R vO vT w
  len : ls.length ≤ 320
  part : part ls 15 ≤ 32768
  le15 : ∀ x ∈ ls, x ≤ 15
theorem Tab.on {R T : Nat} {ls : List Nat} {vO vT vO' vT' : Value} {w u : World} (h : Tab R vO vT w T ls) (k : Chg R vO vT vO' vT' w u) : Tab R vO' vT' u T ls := ⟨h.tb.on k, h.len, h.part, h.le15⟩
theorem num_le {bs : List Bool} {p n x : Nat} (h : num? bs p n = some x) : p + n ≤ bs.length := by
  unfold num? at h; split at h
  · assumption
  · cases h
variable {w u : World} {base R L C most : Nat} {a : Option Addr} {s : Rs} {vO vT : Value} {B : List Nat}
/-- A number is read, or the bytes end. -/
theorem Ctx.number_some (h : Ctx B base R a L C most w s vO vT) (n x : Nat) (hn : n ≤ 16) (hx : num? (allb B) s.pos n = some x) :
    Calls Tryz.prog 59 #[.pointer (some ⟨R, 0, none⟩), .int .i64 (n : Int)] w fun e w' => e = .returned (.int .i64 (x : Int)) ∧ Ctx B base R a L C most w' { s with pos := s.pos + n } vO vT ∧ Chg R vO vT vO vT w w' :=
  (number_yes B h.run h.lies.now h.len h.lb h.oct n x hn hx).mono fun e w' ⟨h1, h2, h3⟩ => ⟨h1, h.on h2 (Chg.of_only h3) (by have := num_le hx; rw [allb_len, h.len] at this; exact this) h.og, Chg.of_only h3⟩
theorem Ctx.number_none (h : Ctx B base R a L C most w s vO vT) (n : Nat) (hn : n ≤ 16) (hx : num? (allb B) s.pos n = none) :
    Calls Tryz.prog 59 #[.pointer (some ⟨R, 0, none⟩), .int .i64 (n : Int)] w fun e w' => e = .returned (.int .i64 0) ∧ Ctx B base R a L C most w' { s with why := 1, at_ := L } vO vT ∧ Chg R vO vT vO vT w w' :=
  (number_no B h.run h.len h.lb n hn (by have := h.pos; have := h.lb; omega) hx).mono fun e w' ⟨h1, h2, h3⟩ => ⟨h1, h.on h2 (Chg.of_only h3) h.pos h.og, Chg.of_only h3⟩
theorem sread_le {ls : List Nat} {h : List Bool} : match sread ls h with | some (.inl (x, n)) => Hit ls h x n | some (.inr j) => j ≤ h.length | none => True := by
  unfold sread
  cases e : (List.range ls.length).find? (hitb ls h) with
  | some x =>
    obtain ⟨n, hn⟩ := hitb_iff.1 (List.find?_some e)
    simp only []
    rw [List.getD_eq_getElem?_getD, hn.1]
    exact hn
  | none =>
    cases e2 : (List.range (h.length + 1)).find? (fun j => !mayb ls (h.take j)) with
    | some j =>
      simp only []
      have := List.mem_range.1 (List.mem_of_find?_eq_some e2)
      omega
    | none => trivial
theorem Ctx.symbol (h : Ctx B base R a L C most w s vO vT) (T : Nat) (ls : List Nat) (hT : Tab R vO vT w T ls) (r : SR) (hr : sread ls ((allb B).drop s.pos) = r) :
    Calls Tryz.prog 89 #[.pointer (some ⟨R, 0, none⟩), .pointer (some ⟨T, 0, none⟩)] w fun e w' => e = .returned (.int .i64 (symV r : Int)) ∧ Ctx B base R a L C most w' (symS r L s) vO vT ∧ Chg R vO vT vO vT w w' :=
  (symbol_c B h.run h.lies.now h.len h.lb h.oct h.pos T ls hT.tb.now hT.len hT.part hT.le15 r hr).mono fun e w' ⟨h1, h2, h3⟩ => ⟨h1, h.on h2 h3 (by
    have hl : ((allb B).drop s.pos).length = 8 * L - s.pos := by rw [List.length_drop, allb_len, h.len]
    have hs := sread_le (ls := ls) (h := (allb B).drop s.pos)
    rw [hr] at hs
    have hp := h.pos
    cases r using SR.el with
    | got x n => have := hs.2.2.1; show s.pos + n ≤ 8 * L; omega
    | bad j => show s.pos + j ≤ 8 * L; have : j ≤ ((allb B).drop s.pos).length := hs; omega
    | cut => exact hp) (by cases r using SR.el <;> exact h.og), h3⟩
theorem Ctx.stop (h : Ctx B base R a L C most w s vO vT) (y : Nat) : Calls Tryz.prog 63 #[.pointer (some ⟨R, 0, none⟩), .int .i64 (y : Int)] w fun e w' => e = .returned (.tuple #[]) ∧ Ctx B base R a L C most w' { s with why := y, at_ := (s.pos - 1) / 8 } vO vT ∧ Chg R vO vT vO vT w w' :=
  (stop_c h.run y (by have := h.pos; have := h.lb; omega)).mono fun e w' ⟨h1, h2, h3⟩ => ⟨h1, h.on h2 (Chg.of_only h3) h.pos h.og, Chg.of_only h3⟩
theorem Ctx.open_ (h : Ctx B base R a L C most w s vO vT) (y : Bool) (hy : s.opn = y) : Calls Tryz.prog 58 #[.pointer (some ⟨R, 0, none⟩)] w fun e w' => e = .returned (.bool y) ∧ w = w' := by rw [← hy]; exact open_c h.run
/-- A byte is given, or there are too many; k: what comes next. -/
theorem Ctx.give (h : Ctx B base R a L C most w s vO vT) (ho : Opn s) (b : Nat) (hb : b < 256) (k : St) :
    Calls Tryz.prog 88 #[.pointer (some ⟨R, 0, none⟩), .int .u8 (b : Int)] w fun e w' => e = .returned (.tuple #[]) ∧ ∃ s' vO' vT' c', Ctx B base R a L C most w' s' vO' vT' ∧ Chg R vO vT vO' vT' w w' ∧ c' = YtogednaamndpgaaGreatDoor.give most k b s.pos ⟨k, s.pos, s.out, s.times⟩ ∧ ((Opn s' ∧ c' = ⟨k, s'.pos, s'.out, s'.times⟩ ∧ s'.out = s.out ++ [b] ∧ s'.pos = s.pos) ∨ Fin (allb B) most L c' s') := by
  have hp : s.pos < 1000000000000000000 := by have := h.pos; have := h.lb; omega
  by_cases hlt : s.out.length < most
  · refine (give_yes h.run b hb hp hlt h.most_ h.base_).mono fun e w' ⟨h1, vO', vT', h2, h3⟩ => ⟨h1, _, vO', vT', _, h.on h2 h3 h.pos (fun y hy => by
      rcases List.mem_append.1 hy with h5 | h5
      · exact h.og y h5
      · rw [List.mem_singleton.1 h5]; exact hb), h3, rfl, Or.inl ⟨ho, ?_, rfl, rfl⟩⟩
    unfold YtogednaamndpgaaGreatDoor.give
    rw [if_pos hlt]
  · refine (give_no h.run b hp (by omega) h.most_).mono fun e w' ⟨h1, h2, h3⟩ => ⟨h1, _, vO, vT, _, h.on h2 (Chg.of_only h3) h.pos h.og, Chg.of_only h3, rfl, Or.inr ?_⟩
    unfold YtogednaamndpgaaGreatDoor.give
    rw [if_neg hlt]
    exact Fin.bad 62 rfl rfl rfl ho.2 (by decide) rfl
end Go.Proofs.YtogednaamndpgaaGreatDoor

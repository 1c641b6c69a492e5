/-
  Hits that are gathered: what All's closure comes to.
  Conditions: the list is the call's own; there is room for one more.
-/
import Derived.Test.YtkdlcdincimnkaaDoorStep
namespace Go.Proofs.YtkdlcdincimnkaaDoor
open Go.RowKit
set_option linter.unusedVariables false
/-- A hit's cells. -/
def hv (h : Nat × Nat) : List Value := [.int .i64 (h.1 : Int), .slice none 0 0, .int .i64 (h.2 : Int)]
def hvs (l : List (Nat × Nat)) : List Value := l.flatMap hv
theorem hvs_len : ∀ l : List (Nat × Nat), (hvs l).length = l.length * 3
  | [] => rfl
  | h :: t => by
    have := hvs_len t
    simp only [hvs, List.flatMap_cons, List.length_append, List.length_cons] at *
    show 3 + _ = _
    omega
theorem hvs_app (l : List (Nat × Nat)) (h : Nat × Nat) : hvs l ++ hv h = hvs (l ++ [h]) := by simp [hvs]
theorem hv_one (h : Nat × Nat) : ∀ u ∈ hv h, u.oneCell' = true := by
  intro u hu
  simp [hv] at hu
  rcases hu with rfl | rfl | rfl <;> rfl
theorem hvs_at : ∀ (l : List (Nat × Nat)) (i j : Nat) (h : Nat × Nat), l[i]? = some h → j < 3 → (hvs l)[i * 3 + j]? = (hv h)[j]?
  | [], i, j, h, e, _ => by simp at e
  | x :: t, 0, j, h, e, hj => by
    have e : x = h := by simpa using e
    subst e
    simp only [hvs, List.flatMap_cons]
    rw [List.getElem?_append_left (by show _ < 3; omega)]
    congr 1; omega
  | x :: t, i + 1, j, h, e, hj => by
    have := hvs_at t i j h (by simpa using e) hj
    simp only [hvs, List.flatMap_cons] at *
    rw [List.getElem?_append_right (by show 3 ≤ _; omega), show (i + 1) * 3 + j - (hv x).length = i * 3 + j by show _ - 3 = _; omega]
    exact this
theorem info59 : (Tryd.prog.info? 59).map (fun i => (i.zero, i.size, i.bytes)) = some (some (.agg #[.int .i64 0, .slice none 0 0, .int .i64 0]), 3, 40) := by kernel_rfl
/-- The list of hits in its box, and how many are wanted. -/
structure Bag (w : World) (base hb mb : Nat) (v : Value) (l : List (Nat × Nat)) (most : Int) : Prop where
  box : Cells w hb #[v] 48
  cap : Cells w mb #[.int .i64 most] 3
  own : w.ownsRow base 59 3 v l.length (hvs l)
  hbl : hb < base
  mbl : mb < base
  le : base ≤ w.heap.size
  ne : hb ≠ mb
/-- What taking a hit may turn: the box, the list's own block, and blocks that come. -/
structure Took (hb : Nat) (v : Value) (w w' : World) : Prop where
  os : w'.os = w.os
  tape : w'.tape = w.tape
  output : w'.output = w.output
  size : w.heap.size ≤ w'.heap.size
  block : ∀ k, k < w.heap.size → k ≠ hb → some k ≠ v.ownBlock → w'.heap[k]? = w.heap[k]?
theorem owns_shape {w : World} {base : Nat} {v : Value} {l : List (Nat × Nat)} (h : w.ownsRow base 59 3 v l.length (hvs l)) : ∃ a c, v = .slice a l.length c ∧ l.length ≤ c ∧ (∀ g, v.ownBlock = some g → base ≤ g) ∧ (a = none → l.length = 0 ∧ c = 0) ∧ (∀ p : Addr, a = some p → p = ⟨p.block, 0, none⟩ ∧ v.ownBlock = some p.block) := by
  rcases h.2 with ⟨hv, h0⟩ | ⟨g, c, cur, hv, hg, hh, hc, hm, hs, ht⟩
  · exact ⟨none, 0, by rw [hv, h0], by omega, fun g e => (by rw [hv] at e; cases e), fun _ => ⟨h0, rfl⟩, fun p e => (by cases e)⟩
  · refine ⟨_, c, hv, hc, fun g' e => ?_, fun e => (by cases e), fun p e => (by cases e; exact ⟨rfl, by rw [hv]; rfl⟩)⟩
    rw [hv] at e; cases e; exact hg
set_option maxRecDepth 100000 in
set_option maxHeartbeats 4000000 in
theorem take_no (base hb mb : Nat) (v : Value) (l : List (Nat × Nat)) (most : Int) (p e : Nat) (w : World) (h : Bag w base hb mb v l most) (hm : most ≤ (l.length : Int)) :
    Calls Tryd.prog 37 #[.agg #[.int .i64 (p : Int), .slice none 0 0, .int .i64 (e : Int)], .pointer (some ⟨hb, 0, none⟩), .pointer (some ⟨mb, 0, none⟩)] w fun r w' => r = .returned (.bool false) ∧ Below w.heap.size w w' := by
  obtain ⟨a, c, hv, hlc, _⟩ := owns_shape h.own
  have hlb : hb < w.heap.size := Nat.lt_of_lt_of_le h.hbl h.le
  have hlm : mb < w.heap.size := Nat.lt_of_lt_of_le h.mbl h.le
  obtain ⟨w1, hw1⟩ : ∃ w1, w1 = w.alloc (.cells #[.int .i64 (p : Int), .slice none 0 0, .int .i64 (e : Int)] 59) := ⟨_, rfl⟩
  have b1 : Below w.heap.size w w1 := by rw [hw1]; exact (Below.refl _ w).alloc (Nat.le_refl _) _
  have cb : w1.cell? ⟨hb, 0, none⟩ = some v := (Cells.below h.box b1 hlb).cell 0
  have cm : w1.cell? ⟨mb, 0, none⟩ = some (.int .i64 most) := (Cells.below h.cap b1 hlm).cell 0
  rw [hv] at cb
  obtain ⟨n, hn⟩ : ∃ n, l.length = n := ⟨_, rfl⟩
  rw [hn] at cb hm
  have AB : Aside (Below w.heap.size w w1) := b1
  clear h hn b1 hlc hv hlb hlm
  go_enter Tryd.func37, Tryd.ntmps37
  go_upto_region 1 with fail
  rw [← hw1]
  clear hw1
  go_wp2_with fail
  go_ret
  exact ⟨rfl, AB.out⟩
theorem Took.keep {w w' : World} {base hb mb k : Nat} {v : Value} {l : List (Nat × Nat)} {most : Int} {cs : Array Value} {t : TypeId} {fr : Nat × Nat} (h : Took hb v w w') (hB : Bag w base hb mb v l most) (hk : w.heap[k]? = some (.cells cs t fr)) (ht : t ≠ 59) (hkb : k ≠ hb) : w'.heap[k]? = some (.cells cs t fr) := by
  rw [h.block k (Array.getElem?_eq_some_iff.1 hk).1 hkb ?_]; exact hk
  intro e
  rcases hB.own.2 with ⟨hv, _⟩ | ⟨g, c, cur, hv, hg, hh, _⟩
  · rw [hv] at e; cases e
  · rw [hv] at e; cases e
    rw [hh] at hk; cases hk; exact ht rfl
theorem Took.low {w w' : World} {base hb mb k : Nat} {v : Value} {l : List (Nat × Nat)} {most : Int} (h : Took hb v w w') (hB : Bag w base hb mb v l most) (hk : k < base) (hkb : k ≠ hb) : w'.heap[k]? = w.heap[k]? := by
  refine h.block k (Nat.lt_of_lt_of_le hk hB.le) hkb fun e => ?_
  obtain ⟨a, c, _, _, hob, _⟩ := owns_shape hB.own
  have := hob k e.symm
  omega
theorem Took.below {w w' : World} {base hb mb B : Nat} {v : Value} {l : List (Nat × Nat)} {most : Int} (h : Took hb v w w') (hB : Bag w base hb mb v l most) (hb' : B ≤ hb) : Below B w w' :=
  ⟨h.os, h.tape, h.output, h.size, fun k hk => h.low hB (by have := hB.hbl; omega) (by omega)⟩
theorem take_end {w w2 w' : World} {base hb mb H g' c' : Nat} {v : Value} {l : List (Nat × Nat)} {most : Int} {p e : Nat} (hB : Bag w base hb mb v l most) (b2 : Below H w w2) (s2 : w2.heap.size = H + 2) (B2 : Cells w2 hb #[v] 48) (hlb : hb < H) (hlm : mb < H) (hH : w.heap.size = H) (hob : ∀ g, v.ownBlock = some g → base ≤ g)
    (o3 : w'.ownsRow base 59 3 (.slice (some ⟨g', 0, none⟩) (l.length + 1) c') (l.length + 1) (hvs l ++ hv (p, e))) (g3 : w2.grownBy w' v.ownBlock) :
    Bag (w'.setCell ⟨hb, 0, none⟩ (.slice (some ⟨g', 0, none⟩) (l.length + 1) c')) base hb mb (.slice (some ⟨g', 0, none⟩) (l.length + 1) c') (l ++ [(p, e)]) most ∧ Took hb v w (w'.setCell ⟨hb, 0, none⟩ (.slice (some ⟨g', 0, none⟩) (l.length + 1) c')) := by
  have hbb := hB.hbl
  have hmb := hB.mbl
  have far : ∀ k, k < H → k ≠ hb → some k ≠ v.ownBlock → (w'.setCell ⟨hb, 0, none⟩ (.slice (some ⟨g', 0, none⟩) (l.length + 1) c')).heap[k]? = w.heap[k]? := by
    intro k hk hkb hko
    rw [Below.heap_setCell _ _ _ _ hkb, g3.block k (by omega) hko, b2.block k hk]
  have nb : some hb ≠ v.ownBlock := fun e => by have := hob hb e.symm; omega
  have nm : some mb ≠ v.ownBlock := fun e => by have := hob mb e.symm; omega
  have C3 : Cells w' hb #[v] 48 := by
    unfold Cells at *
    rw [g3.block hb (by omega) nb]; exact B2
  have sz : (w'.setCell ⟨hb, 0, none⟩ (.slice (some ⟨g', 0, none⟩) (l.length + 1) c')).heap.size = w'.heap.size := by simp [World.setCell]
  have hg' : base ≤ g' ∧ g' ≠ hb := by
    rcases o3.2 with ⟨hv, _⟩ | ⟨g, c, cur, hv, hg, hh, _⟩
    · cases hv
    · cases hv; exact ⟨hg, by omega⟩
  refine ⟨⟨C3.set 0 _, ?_, ?_, hbb, hmb, ?_, hB.ne⟩, ⟨?_, ?_, ?_, ?_, fun k hk hkb hko => far k (by omega) hkb hko⟩⟩
  · have := far mb hlm (fun e => hB.ne e.symm) nm
    have hc := hB.cap
    unfold Cells at *
    rw [this]; exact hc
  · rw [List.length_append]
    have o4 := o3
    rw [hvs_app] at o4
    rcases o4.2 with ⟨hv, _⟩ | ⟨g, c, cur, hv, hg, hh, r1, r2, r3, r4⟩
    · cases hv
    · cases hv
      exact ⟨o4.1, Or.inr ⟨g', c', cur, rfl, hg, (Below.heap_setCell _ _ _ _ hg'.2).trans hh, r1, r2, r3, r4⟩⟩
  · rw [sz]; have := g3.size; have := hB.le; omega
  · exact g3.os.trans b2.os
  · exact g3.tape.trans b2.tape
  · exact g3.output.trans b2.output
  · rw [sz]; have := g3.size; omega
set_option maxRecDepth 100000 in
set_option maxHeartbeats 4000000 in
theorem take_yes (base hb mb : Nat) (v : Value) (l : List (Nat × Nat)) (most : Int) (p e : Nat) (w : World) (h : Bag w base hb mb v l most) (hm : (l.length : Int) < most) (hsz : (l.length + 1) * 40 ≤ 140737488355328) :
    Calls Tryd.prog 37 #[.agg #[.int .i64 (p : Int), .slice none 0 0, .int .i64 (e : Int)], .pointer (some ⟨hb, 0, none⟩), .pointer (some ⟨mb, 0, none⟩)] w fun r w' => r = .returned (.bool true) ∧ ∃ v', Bag w' base hb mb v' (l ++ [(p, e)]) most ∧ Took hb v w w' := by
  obtain ⟨a, c, hv, hlc, hob, _⟩ := owns_shape h.own
  obtain ⟨H, hH⟩ : ∃ H, w.heap.size = H := ⟨_, rfl⟩
  have hlb : hb < H := by rw [← hH]; exact Nat.lt_of_lt_of_le h.hbl h.le
  have hlm : mb < H := by rw [← hH]; exact Nat.lt_of_lt_of_le h.mbl h.le
  obtain ⟨w1, hw1⟩ : ∃ w1, w1 = w.alloc (.cells #[.int .i64 (p : Int), .slice none 0 0, .int .i64 (e : Int)] 59) := ⟨_, rfl⟩
  have b1 : Below H w w1 := by rw [hw1, ← hH]; exact (Below.refl _ w).alloc (Nat.le_refl _) _
  have s1 : w1.heap.size = H + 1 := by rw [hw1, ← hH]; simp
  have C1 : Cells w1 H #[.int .i64 (p : Int), .slice none 0 0, .int .i64 (e : Int)] 59 := by rw [hw1, ← hH]; exact Cells.new w _ 59
  obtain ⟨w2, hw2⟩ : ∃ w2, w2 = w1.alloc (.cells #[.int .i64 (p : Int), .slice none 0 0, .int .i64 (e : Int)] 59) := ⟨_, rfl⟩
  have b2 : Below H w w2 := by rw [hw2]; exact b1.alloc (by omega) _
  have s2 : w2.heap.size = H + 2 := by rw [hw2]; simp [s1]
  have C2 : Cells w2 (H + 1) #[.int .i64 (p : Int), .slice none 0 0, .int .i64 (e : Int)] 59 := by rw [hw2, ← s1]; exact Cells.new w1 _ 59
  have x0 : w1.cell? ⟨H, 0, none⟩ = some (.int .i64 (p : Int)) := C1.cell 0
  have x1 : w1.cell? ⟨H, 1, none⟩ = some (.slice none 0 0) := C1.cell 1
  have x2 : w1.cell? ⟨H, 2, none⟩ = some (.int .i64 (e : Int)) := C1.cell 2
  have B2 : Cells w2 hb #[v] 48 := h.box.below b2 hlb
  have cb : w1.cell? ⟨hb, 0, none⟩ = some v := (Cells.below h.box b1 hlb).cell 0
  have cm : w1.cell? ⟨mb, 0, none⟩ = some (.int .i64 most) := (Cells.below h.cap b1 hlm).cell 0
  have own2 : w2.ownsRow base 59 3 v l.length (hvs l) := by rw [hw2, hw1]; exact (h.own.alloc _).alloc _
  have news2 : ∀ j u, (YtkdlcdincimnkaaDoor.hv (p, e))[j]? = some u → w2.cell? ((⟨H + 1, 0, none⟩ : Addr).add j) = some u := World.news_of_block (cs := #[.int .i64 (p : Int), .slice none 0 0, .int .i64 (e : Int)]) C2
  obtain ⟨i0, hi0, hz0, hz1, hz2⟩ := info_parts info59
  obtain ⟨n, hn⟩ : ∃ n, l.length = n := ⟨_, rfl⟩
  have AB : Aside (Bag w base hb mb v l most ∧ Below H w w2 ∧ w2.heap.size = H + 2 ∧ Cells w2 hb #[v] 48 ∧ w2.ownsRow base 59 3 v l.length (hvs l) ∧ (l.length + 1) * 40 ≤ 140737488355328 ∧ hb < H ∧ mb < H ∧ w.heap.size = H ∧ (∀ g, v.ownBlock = some g → base ≤ g) ∧ v = .slice a l.length c) := ⟨h, b2, s2, B2, own2, hsz, hlb, hlm, hH, hob, hv⟩
  have AW : Aside (w2 = w1.alloc (.cells #[.int .i64 (p : Int), .slice none 0 0, .int .i64 (e : Int)] 59)) := hw2
  rw [hv, hn] at cb
  rw [hn] at hm
  have hb48 : ∀ w', w2.grownBy w' v.ownBlock → w'.cell? ⟨hb, 0, none⟩ = some (.slice a n c) ∧ w'.frozen? ⟨hb, 0, none⟩ = false := by
    intro w' hg
    have hne : some hb ≠ v.ownBlock := fun e => by have := hob hb e.symm; have := h.hbl; omega
    exact ⟨by rw [← hn, ← hv]; exact (hg.cell_far ⟨hb, 0, none⟩ (by show hb < _; omega) hne).trans (B2.cell 0), (hg.frozen_far ⟨hb, 0, none⟩ (by show hb < _; omega) hne).trans (B2.frozen 0)⟩
  have A48 : Aside (∀ w', w2.grownBy w' v.ownBlock → w'.cell? ⟨hb, 0, none⟩ = some (.slice a n c) ∧ w'.frozen? ⟨hb, 0, none⟩ = false) := hb48
  have AN : Aside (l.length = n ∧ ∀ j u, (YtkdlcdincimnkaaDoor.hv (p, e))[j]? = some u → w2.cell? ((⟨H + 1, 0, none⟩ : Addr).add j) = some u) := ⟨hn, news2⟩
  clear h hn hlc hv hlb hlm b1 b2 s2 C1 C2 B2 own2 news2 hob hsz hb48 hw2 hH
  go_enter Tryd.func37, Tryd.ntmps37
  go_upto_region 1 with fail
  rw [← hw1, AB.out.2.2.2.2.2.2.2.2.1]
  clear hw1
  go_upto_region 3 with fail
  go_wp2_with (first
    | (rw [← AW.out]; refine wpList_append_own w2 rfl (.tmp 9) (.tmp 11) 48 rfl base 59 i0 (.agg #[.int .i64 0, .slice none 0 0, .int .i64 0]) 3 40 Tryd.underlying48 hi0 hz0 hz1 hz2 rfl (by decide) v _ _ (by have := AB.out.2.2.2.2.2.2.2.2.2.2; rw [this, AN.out.1]; rfl) AB.out.2.2.2.2.1 ⟨H + 1, 0, none⟩ 1 1 (YtkdlcdincimnkaaDoor.hv (p, e)) (by rfl) (by rfl) AN.out.2 (hv_one _) (by unfold maxLen; have := AB.out; omega) (by have := AB.out; omega) (by have := AB.out; have := AB.out.1.le; omega) ?_
       intro v' w' h2 h3 h4
       obtain ⟨q1, q2⟩ := A48.out w' h3
       obtain ⟨g', c', hv'⟩ : ∃ g' c', v' = .slice (some ⟨g', 0, none⟩) (l.length + 1) c' := (by
         rcases h2.2 with ⟨_, h0⟩ | ⟨g', c', _, e, _⟩
         · omega
         · exact ⟨g', c', e⟩)
       subst hv'
       have A3 : Aside (w'.ownsRow base 59 3 (.slice (some ⟨g', 0, none⟩) (l.length + 1) c') (l.length + 1) (hvs l ++ YtkdlcdincimnkaaDoor.hv (p, e)) ∧ w2.grownBy w' v.ownBlock) := ⟨h2, h3⟩
       clear h2 h3 h4))
  go_ret
  obtain ⟨hB, b2, s2, B2, own2, _, hlb, hlm, hH, hob, _⟩ := AB.out
  obtain ⟨o3, g3⟩ := A3.out
  exact ⟨rfl, _, take_end hB b2 s2 B2 hlb hlm hH hob o3 g3⟩
end Go.Proofs.YtkdlcdincimnkaaDoor

/-
  Own texts of this seat, one behind the other: what each says stands ahead of it.
-/
import Derived.Test.YtogednaamndpgaaDoorMc
import Derived.Test.YtogednaamndpgaaDoorMe
import Derived.Test.YtogednaamndpgaaDoorMb
import Derived.Laws.EntriesVeiled
import Derived.Deep.RegionLaw
import Derived.Deep.AppendLies
import Derived.Laws.AppendOwnNone
import Derived.Deep.RegionHeld3
/-
  What Put, Back, Clear, Len, Size and Tail of the ring come to, at a window in memory that holds a list of bytes; and Same of two lists that are one.
  Conditions: the window has a size from 1 to 32768, and the list is not longer; each method keeps that.
-/
namespace Go.Proofs.YtogednaamndpgaaDoor
open Go.RowKit
set_option linter.unusedVariables false

/-- Block H holds a window of N cells, which lie in block K; l is what is in it. -/
structure GRg (w : World) (H K N : Nat) (l : List Int) : Prop where
  ex : ∃ x cs, GLo w H K N x l.length cs ∧ GHolds N x cs l
section
variable {w u : World} {H K N : Nat} {l : List Int}
theorem GRg.drewN (r : GRg w H K N l) (n : Nat) : GRg (w.drewN n) H K N l := by obtain ⟨x, cs, lo, hh⟩ := r.ex; exact ⟨x, cs, lo.drewN n, hh⟩
theorem GRg.drew (r : GRg w H K N l) : GRg w.drew H K N l := by obtain ⟨x, cs, lo, hh⟩ := r.ex; exact ⟨x, cs, lo.drew, hh⟩
theorem GRg.only {c : Nat} (r : GRg w H K N l) (k : Only c w u) (h1 : H ≠ c) (h2 : K ≠ c) : GRg u H K N l := by obtain ⟨x, cs, lo, hh⟩ := r.ex; exact ⟨x, cs, lo.only k h1 h2, hh⟩
theorem GRg.below {B : Nat} (r : GRg w H K N l) (k : Below B w u) (h1 : H < B) (h2 : K < B) : GRg u H K N l := by obtain ⟨x, cs, lo, hh⟩ := r.ex; exact ⟨x, cs, lo.below k h1 h2, hh⟩
theorem GRg.alloc (r : GRg w H K N l) (o : Obj) : GRg (w.alloc o) H K N l := by obtain ⟨x, cs, lo, hh⟩ := r.ex; exact ⟨x, cs, lo.alloc o, hh⟩
theorem GRg.two {a b : Nat} (r : GRg w H K N l) (k : GTwo a b w u) (h1 : H ≠ a) (h2 : K ≠ a) (h3 : H ≠ b) (h4 : K ≠ b) : GRg u H K N l := by
  obtain ⟨x, cs, lo, hh⟩ := r.ex
  refine ⟨x, cs, ⟨?_, ?_, lo.len, lo.n1, lo.n2, lo.xlt, lo.hle, lo.ne⟩, hh⟩
  · have := lo.hd; unfold Cells at *; rw [k.block H h1 h3]; exact this
  · have := lo.row; unfold Cells at *; rw [k.block K h2 h4]; exact this
theorem GRg.lt (r : GRg w H K N l) : H < w.heap.size ∧ K < w.heap.size := by obtain ⟨x, cs, lo, hh⟩ := r.ex; exact ⟨lo.hd.lt, lo.row.lt⟩
theorem GRg.le (r : GRg w H K N l) : l.length ≤ N ∧ N ≤ 32768 ∧ 1 ≤ N := by obtain ⟨x, cs, lo, hh⟩ := r.ex; exact ⟨lo.hle, lo.n2, lo.n1⟩
end
theorem gnew_r (n : Nat) (w : World) (h1 : 1 ≤ n) (h2 : n ≤ 32768) : Calls Tryd.prog 31 #[.int .i64 n] w fun e w' => e = .returned (.tuple #[.pointer (some ⟨w.heap.size + 1, 0, none⟩), .int .i64 0]) ∧
    GRg w' (w.heap.size + 1) w.heap.size n [] ∧ Below w.heap.size w w' ∧ w'.heap.size = w.heap.size + 2 :=
  (gnew_yes n w h1 h2).mono fun _ _ h => ⟨h.1, ⟨0, _, h.2.1, gholds_nil _ _ _⟩, h.2.2⟩
section
variable {H K N : Nat} {l : List Int}
theorem glen_r (w : World) (r : GRg w H K N l) : Calls Tryd.prog 82 #[.pointer (some ⟨H, 0, none⟩)] w fun e w' => e = .returned (.int .i64 (l.length : Int)) ∧ w = w' := by
  obtain ⟨x, cs, lo, hh⟩ := r.ex; exact glen_c w lo
theorem gsize_r (w : World) (r : GRg w H K N l) : Calls Tryd.prog 74 #[.pointer (some ⟨H, 0, none⟩)] w fun e w' => e = .returned (.int .i64 (N : Int)) ∧ w = w' := by
  obtain ⟨x, cs, lo, hh⟩ := r.ex; exact gsize_c w lo
theorem gclear_r (w : World) (r : GRg w H K N l) : Calls Tryd.prog 85 #[.pointer (some ⟨H, 0, none⟩)] w fun e w' => e = .returned (.tuple #[]) ∧ GRg w' H K N [] ∧ Only H w w' := by
  obtain ⟨x, cs, lo, hh⟩ := r.ex
  exact (gclear_c w lo).mono fun _ _ h => ⟨h.1, ⟨0, cs, h.2.1, gholds_nil _ _ _⟩, h.2.2⟩
theorem gput_r (z : Int) (w : World) (r : GRg w H K N l) : Calls Tryd.prog 61 #[.pointer (some ⟨H, 0, none⟩), .int .u8 z] w fun e w' => e = .returned (.tuple #[]) ∧ GRg w' H K N (glastN N (l ++ [z])) ∧ GTwo H K w w' := by
  obtain ⟨x, cs, lo, hh⟩ := r.ex
  refine (gput_c z w lo).mono fun _ _ h => ⟨h.1, ⟨_, _, ?_, gput_holds hh lo.len lo.xlt lo.hle z⟩, h.2.2⟩
  rw [glastN_length, List.length_append, List.length_singleton]
  exact h.2.1
theorem gback_r_no (d : Int) (w : World) (r : GRg w H K N l) (hd : d < 1 ∨ (l.length : Int) < d) : Calls Tryd.prog 87 #[.pointer (some ⟨H, 0, none⟩), .int .i64 d] w fun e w' => e = .returned (.tuple #[.int .u8 0, .bool false]) ∧ w = w' := by
  obtain ⟨x, cs, lo, hh⟩ := r.ex; exact gback_no d w lo hd
theorem gback_r (d : Nat) (z : Int) (w : World) (r : GRg w H K N l) (h1 : 1 ≤ d) (h2 : d ≤ l.length) (hz : l[l.length - d]? = some z) :
    Calls Tryd.prog 87 #[.pointer (some ⟨H, 0, none⟩), .int .i64 (d : Int)] w fun e w' => e = .returned (.tuple #[.int .u8 z, .bool true]) ∧ ∃ n, w' = w.drewN n := by
  obtain ⟨x, cs, lo, hh⟩ := r.ex
  exact gback_yes d z w lo h1 h2 ((hh d h1 h2).trans hz)
end

end Go.Proofs.YtogednaamndpgaaDoor

/-
  The inflater in memory: 355 cells by a function of their place, its reader, its window; what may turn while it works.
-/
namespace Go.Proofs.YtogednaamndpgaaDoor
open Go.RowKit
set_option linter.unusedVariables false
/-- 355 cells by a function. -/
def cz (f : Nat → Value) : Array Value := ((List.range 355).map f).toArray
def upd (f : Nat → Value) (i : Nat) (v : Value) : Nat → Value := fun j => if j = i then v else f j
theorem upd_same (f : Nat → Value) (i : Nat) (v : Value) : upd f i v i = v := by simp [upd]
theorem upd_ne (f : Nat → Value) {i j : Nat} (v : Value) (h : j ≠ i) : upd f i v j = f j := by simp [upd, h]
theorem cz_size (f : Nat → Value) : (cz f).size = 355 := by simp [cz]
theorem cz_at (f : Nat → Value) {i : Nat} (h : i < 355) : (cz f)[i]? = some (f i) := by simp [cz, h]
theorem cz_congr {f g : Nat → Value} (h : ∀ i, i < 355 → f i = g i) : cz f = cz g := by
  unfold cz
  rw [List.map_congr_left (fun i hi => h i (List.mem_range.1 hi))]
theorem cz_set (f : Nat → Value) (i : Nat) (v : Value) : (cz f).setIfInBounds i v = cz (upd f i v) := by
  apply Array.ext
  · simp [cz]
  · intro j h1 h2
    have hj : j < 355 := by simpa [cz] using h2
    simp only [cz, List.setIfInBounds_toArray, List.getElem_toArray, List.getElem_set, List.getElem_map, List.getElem_range, upd]
    by_cases e : i = j
    · simp [e]
    · simp [e, Ne.symm e]
/-- What may have turned while the inflater worked: its own four blocks, from B on; memory may have come. -/
structure Fm (B : Nat) (w w' : World) : Prop where
  os : w'.os = w.os
  tape : w'.tape = w.tape
  output : w'.output = w.output
  size : w.heap.size ≤ w'.heap.size
  block : ∀ k, k < w.heap.size → (k < B ∨ B + 4 ≤ k) → w'.heap[k]? = w.heap[k]?
section
variable {B : Nat} {w u v : World}
theorem Fm.refl (B : Nat) (w : World) : Fm B w w := ⟨rfl, rfl, rfl, Nat.le_refl _, fun _ _ _ => rfl⟩
theorem Fm.trans (h : Fm B w u) (k : Fm B u v) : Fm B w v := ⟨k.os.trans h.os, k.tape.trans h.tape, k.output.trans h.output, Nat.le_trans h.size k.size, fun i hi hk => (k.block i (Nat.lt_of_lt_of_le hi h.size) hk).trans (h.block i hi hk)⟩
theorem Fm.drewN (h : Fm B w u) (n : Nat) : Fm B w (u.drewN n) := ⟨h.os, h.tape, h.output, h.size, h.block⟩
theorem Fm.drew (h : Fm B w u) : Fm B w u.drew := ⟨h.os, h.tape, h.output, h.size, h.block⟩
theorem Fm.of_only {c : Nat} (h : Only c w u) (h1 : B ≤ c) (h2 : c < B + 4) : Fm B w u := ⟨h.os, h.tape, h.output, Nat.le_of_eq h.size.symm, fun k _ hk => h.block k (by omega)⟩
theorem Fm.of_but {c : Nat} (h : But c w u) (h1 : B ≤ c) (h2 : c < B + 4) : Fm B w u := ⟨h.os, h.tape, h.output, h.size, fun k hk hh => h.block k hk (by omega)⟩
theorem Fm.of_two {c d : Nat} (h : GTwo c d w u) (h1 : B ≤ c) (h2 : c < B + 4) (h3 : B ≤ d) (h4 : d < B + 4) : Fm B w u := ⟨h.os, h.tape, h.output, Nat.le_of_eq h.size.symm, fun k _ hk => h.block k (by omega) (by omega)⟩
theorem Fm.of_below {C : Nat} (h : Below C w u) (hC : w.heap.size ≤ C) : Fm B w u := ⟨h.os, h.tape, h.output, h.size, fun k hk _ => h.block k (by omega)⟩
theorem Fm.below (h : Fm B w u) (hB : B ≤ w.heap.size) : Below B w u := ⟨h.os, h.tape, h.output, h.size, fun k hk => h.block k (by omega) (Or.inl hk)⟩
end
/-- The inflater in memory: D itself, b its reader, R its window, whose cells lie in block B; h what bits are held, l what the window has. -/
structure Bs (w : World) (B D b R : Nat) (f : Nat → Value) (h : List Bool) (l : List Int) : Prop where
  fr : Cells w D (cz f) 55
  c0 : f 0 = .pointer (some ⟨b, 0, none⟩)
  c1 : f 1 = .pointer (some ⟨R, 0, none⟩)
  br : Br w b (nm h) h.length
  rg : GRg w R B 32768 l
  eD : D = B + 3
  eb : b = B + 2
  eR : R = B + 1
section
variable {w u : World} {B D b R : Nat} {f : Nat → Value} {h : List Bool} {l : List Int}
theorem Bs.cell (s : Bs w B D b R f h l) {i : Nat} (hi : i < 355) : w.cell? ⟨D, i, none⟩ = some (f i) := (s.fr.cell i).trans (cz_at f hi)
theorem Bs.fz (s : Bs w B D b R f h l) (i : Nat) : w.frozen? ⟨D, i, none⟩ = false := s.fr.frozen i
theorem Bs.drewN (s : Bs w B D b R f h l) (n : Nat) : Bs (w.drewN n) B D b R f h l := ⟨s.fr, s.c0, s.c1, s.br.drewN n, s.rg.drewN n, s.eD, s.eb, s.eR⟩
theorem Bs.drew (s : Bs w B D b R f h l) : Bs w.drew B D b R f h l := ⟨s.fr, s.c0, s.c1, s.br.drew, s.rg.drew, s.eD, s.eb, s.eR⟩
theorem Bs.lt (s : Bs w B D b R f h l) : B + 4 ≤ w.heap.size := by have := s.fr.lt; have := s.eD; omega
theorem Bs.onD (s : Bs w B D b R f h l) (k : Only D w u) {f' : Nat → Value} (hf : Cells u D (cz f') 55) (h0 : f' 0 = f 0) (h1 : f' 1 = f 1) : Bs u B D b R f' h l :=
  ⟨hf, h0.trans s.c0, h1.trans s.c1, s.br.only k (by have := s.eD; have := s.eb; omega), s.rg.only k (by have := s.eD; have := s.eR; omega) (by have := s.eD; omega), s.eD, s.eb, s.eR⟩
theorem Bs.set (s : Bs w B D b R f h l) (i : Nat) (v : Value) (hi : 2 ≤ i) : Bs (w.setCell ⟨D, i, none⟩ v) B D b R (upd f i v) h l :=
  s.onD ((Only.refl D w).setCell i v) (by have := s.fr.set i v; rwa [cz_set] at this) (upd_ne f v (by omega)) (upd_ne f v (by omega))
theorem Bs.onb (s : Bs w B D b R f h l) (k : Only b w u) {h' : List Bool} (hb : Br u b (nm h') h'.length) : Bs u B D b R f h' l :=
  ⟨s.fr.only k (by have := s.eD; have := s.eb; omega), s.c0, s.c1, hb, s.rg.only k (by have := s.eb; have := s.eR; omega) (by have := s.eb; omega), s.eD, s.eb, s.eR⟩
theorem Cells.but {w u : World} {c k : Nat} {cs : Array Value} {t : TypeId} (h : Cells w c cs t) (q : But k w u) (hc : c ≠ k) : Cells u c cs t := by
  have := h.lt
  unfold Cells at *
  rw [q.block c this hc]; exact h
theorem Bs.onbut (s : Bs w B D b R f h l) (k : But b w u) {h' : List Bool} (hb : Br u b (nm h') h'.length) : Bs u B D b R f h' l := by
  refine ⟨s.fr.but k (by have := s.eD; have := s.eb; omega), s.c0, s.c1, hb, ?_, s.eD, s.eb, s.eR⟩
  obtain ⟨x, cs, lo, hh⟩ := s.rg.ex
  exact ⟨x, cs, ⟨lo.hd.but k (by have := s.eb; have := s.eR; omega), lo.row.but k (by have := s.eb; omega), lo.len, lo.n1, lo.n2, lo.xlt, lo.hle, lo.ne⟩, hh⟩
theorem Bs.below (s : Bs w B D b R f h l) {C : Nat} (k : Below C w u) (hC : w.heap.size ≤ C) : Bs u B D b R f h l := by
  have := s.lt
  exact ⟨s.fr.below k (by have := s.eD; omega), s.c0, s.c1, s.br.below k (by have := s.eb; omega), s.rg.below k (by have := s.eR; omega) (by omega), s.eD, s.eb, s.eR⟩
theorem Bs.onR (s : Bs w B D b R f h l) (k : GTwo R B w u) {l' : List Int} (hr : GRg u R B 32768 l') : Bs u B D b R f h l' := by
  have e1 := s.eD; have e2 := s.eb; have e3 := s.eR
  refine ⟨?_, s.c0, s.c1, ⟨?_, s.br.lt, s.br.le⟩, hr, s.eD, s.eb, s.eR⟩
  · have := s.fr; unfold Cells at *; rw [k.block D (by omega) (by omega)]; exact this
  · obtain ⟨t, ht⟩ := s.br.rd
    exact ⟨t, by unfold Cells at *; rw [k.block b (by omega) (by omega)]; exact ht⟩
end
/-- A table that the inflater made. -/
def Tbl (w : World) (B : Nat) (v : Value) (ls : List Nat) : Prop := ∃ lo hi T, v = .pointer (some ⟨T, 0, none⟩) ∧ B + 4 ≤ lo ∧ hi ≤ w.heap.size ∧ PT w lo hi T ls ∧ ls.length ≤ 320
theorem Tbl.fm {w u : World} {B : Nat} {v : Value} {ls : List Nat} (h : Tbl w B v ls) (k : Fm B w u) : Tbl u B v ls := by
  obtain ⟨lo, hi, T, h1, h2, h3, h4, h5⟩ := h
  exact ⟨lo, hi, T, h1, h2, Nat.le_trans h3 k.size, h4.keep fun j hj1 hj2 => k.block j (by omega) (Or.inr (by omega)), h5⟩
/-- What the window has behind one byte more. -/
def wput (l : List Int) (z : Int) : List Int := glastN 32768 (l ++ [z])
/-- A step, as a value. -/
def fnv (D k : Nat) : Value := .func (.func k) #[.pointer (some ⟨D, 0, none⟩)] #[]
section
variable {w : World} {B D b R : Nat} {f : Nat → Value} {h : List Bool} {l : List Int}
theorem pthen_c (k : Nat) (w : World) (s : Bs w B D b R f h l) : Calls Tryd.prog 38 #[.pointer (some ⟨D, 0, none⟩), .func (.func k) #[.pointer (some ⟨D, 0, none⟩)] #[]] w fun e w' => e = .returned (.bool true) ∧ Bs w' B D b R (upd f 2 (fnv D k)) h l ∧ Fm B w w' := by
  have c2 := s.cell (show 2 < 355 by decide)
  have z2 := s.fz 2
  go_enter Tryd.func38, Tryd.ntmps38
  go_wp2_with fail
  go_ret
  exact ⟨rfl, s.set 2 _ (by decide), Fm.of_only ((Only.refl D w).setCell 2 _) (by have := s.eD; omega) (by have := s.eD; omega)⟩
theorem pstop_c (y : Int) (w : World) (s : Bs w B D b R f h l) : Calls Tryd.prog 43 #[.pointer (some ⟨D, 0, none⟩), .int .i64 y] w fun e w' => e = .returned (.bool false) ∧ Bs w' B D b R (upd f 354 (.int .i64 y)) h l ∧ Fm B w w' := by
  have c2 := s.cell (show 354 < 355 by decide)
  have z2 := s.fz 354
  go_enter Tryd.func43, Tryd.ntmps43
  go_wp2_with fail
  go_ret
  exact ⟨rfl, s.set 354 _ (by decide), Fm.of_only ((Only.refl D w).setCell 354 _) (by have := s.eD; omega) (by have := s.eD; omega)⟩
theorem pgive_c (z : Int) (w : World) (s : Bs w B D b R f h l) : Calls Tryd.prog 51 #[.pointer (some ⟨D, 0, none⟩), .int .u8 z] w fun e w' => e = .returned (.bool false) ∧ Bs w' B D b R (upd (upd f 351 (.int .u8 z)) 352 (.bool true)) h (wput l z) ∧ Fm B w w' := by
  have c1 := (s.cell (show 1 < 355 by decide)).trans (congrArg some s.c1)
  have hput := gput_r z w s.rg
  have AS : Aside (Bs w B D b R f h l) := s
  clear s
  go_enter Tryd.func51, Tryd.ntmps51
  go_upto_region 2 with (go_at_call 61; refine hput.mono ?_; rintro e2 w2 ⟨rfl, hr2, ht2⟩)
  have s2 := AS.out.onR ht2 hr2
  have c3 := s2.cell (show 351 < 355 by decide)
  have c4 := s2.cell (show 352 < 355 by decide)
  have z3 := s2.fz 351
  have z4 := s2.fz 352
  clear hput c1
  go_wp2_with fail
  go_ret
  refine ⟨rfl, (s2.set 351 _ (by decide)).set 352 _ (by decide), (Fm.of_two ht2 ?_ ?_ ?_ ?_).trans (Fm.of_only (((Only.refl D w2).setCell 351 _).setCell 352 _) ?_ ?_)⟩ <;> have := s2.eD <;> have := s2.eR <;> omega
end
end Go.Proofs.YtogednaamndpgaaDoor

/-
  What the document's lengthBase and distanceBase come to.
-/
namespace Go.Proofs.YtogednaamndpgaaDoor
open Go.RowKit
set_option linter.unusedVariables false
def lmo (i : Nat) : Nat := if 265 ≤ i + 257 then (i + 257 - 261) / 4 else 0
def lbs (i : Nat) : Nat := (List.range i).foldl (fun a i => a + 2 ^ (if 265 ≤ i + 257 then (i + 257 - 261) / 4 else 0)) 3
theorem lbs_next (i : Nat) : lbs (i + 1) = lbs i + 2 ^ lmo i := by unfold lbs lmo; rw [List.range_succ, List.foldl_append]; rfl
theorem lbase_lbs {s : Nat} (h : s ≠ 285) : lbase s = lbs (s - 257) := by unfold lbase; rw [if_neg h]; rfl
theorem lbs_le : ∀ i, i ≤ 28 → lbs i ≤ 1000 := by decide
def dmo (i : Nat) : Nat := if 4 ≤ i then (i - 2) / 2 else 0
def dbs (i : Nat) : Nat := (List.range i).foldl (fun a i => a + 2 ^ (if 4 ≤ i then (i - 2) / 2 else 0)) 1
theorem dbs_next (i : Nat) : dbs (i + 1) = dbs i + 2 ^ dmo i := by unfold dbs dmo; rw [List.range_succ, List.foldl_append]; rfl
theorem dbs_le : ∀ i, i ≤ 30 → dbs i ≤ 40000 := by decide
theorem w64_add (v i : Nat) (hv : v ≤ 100000) (hi : i < 40) : wrap64 ((v : Int) + wrap64 (2 ^ i)) = ((v + 2 ^ i : Nat) : Int) := by
  have h1 : 2 ^ i ≤ 2 ^ 40 := Nat.pow_le_pow_right (by decide) (by omega)
  have e : (2 : Int) ^ i = ((2 ^ i : Nat) : Int) := by push_cast; rfl
  rw [e, w64_cast (by omega), ← Int.natCast_add, w64_cast (by omega)]
end Go.Proofs.YtogednaamndpgaaDoor

/-
  What the document's give comes to: a byte is known.
-/
namespace Go.Proofs.YtogednaamndpgaaDoor
open Go.RowKit
set_option linter.unusedVariables false
/-- What a call of the run's own may turn: its block, its two lists' blocks; lists may move to new ones. -/
structure Chg (R : Nat) (vO vT vO' vT' : Value) (w w' : World) : Prop where
  os : w'.os = w.os
  tape : w'.tape = w.tape
  output : w'.output = w.output
  size : w.heap.size ≤ w'.heap.size
  block : ∀ k, k < w.heap.size → k ≠ R → some k ≠ vO.ownBlock → some k ≠ vT.ownBlock → w'.heap[k]? = w.heap[k]?
  ownO : ∀ k, vO'.ownBlock = some k → vO.ownBlock = some k ∨ w.heap.size ≤ k
  ownT : ∀ k, vT'.ownBlock = some k → vT.ownBlock = some k ∨ w.heap.size ≤ k
theorem Chg.refl (R : Nat) (vO vT : Value) (w : World) : Chg R vO vT vO vT w w := ⟨rfl, rfl, rfl, Nat.le_refl _, fun _ _ _ _ _ => rfl, fun _ h => Or.inl h, fun _ h => Or.inl h⟩
theorem Chg.of_only {R : Nat} {vO vT : Value} {w u : World} (h : Only R w u) : Chg R vO vT vO vT w u :=
  ⟨h.os, h.tape, h.output, Nat.le_of_eq h.size.symm, fun k _ h1 _ _ => h.block k h1, fun _ h => Or.inl h, fun _ h => Or.inl h⟩
theorem Chg.of_below {R : Nat} {vO vT : Value} {w u : World} (h : Below w.heap.size w u) : Chg R vO vT vO vT w u :=
  ⟨h.os, h.tape, h.output, h.size, fun k hk _ _ _ => h.block k hk, fun _ h => Or.inl h, fun _ h => Or.inl h⟩
theorem Chg.drawn {R : Nat} {vO vT : Value} {w u : World} (h : Drawn w u) : Chg R vO vT vO vT w u := by
  obtain ⟨n, rfl⟩ := h
  exact ⟨rfl, rfl, rfl, Nat.le_refl _, fun _ _ _ _ _ => rfl, fun _ h => Or.inl h, fun _ h => Or.inl h⟩
theorem Chg.trans {R : Nat} {a b c d e f : Value} {w u v : World} (h : Chg R a b c d w u) (k : Chg R c d e f u v) : Chg R a b e f w v := by
  refine ⟨k.os.trans h.os, k.tape.trans h.tape, k.output.trans h.output, Nat.le_trans h.size k.size, fun i hi h1 h2 h3 => ?_, fun i hi => ?_, fun i hi => ?_⟩
  · refine (k.block i (Nat.lt_of_lt_of_le hi h.size) h1 (fun e => ?_) (fun e => ?_)).trans (h.block i hi h1 h2 h3)
    · rcases h.ownO i e.symm with e2 | e2
      · exact h2 e2.symm
      · omega
    · rcases h.ownT i e.symm with e2 | e2
      · exact h3 e2.symm
      · omega
  · rcases k.ownO i hi with e2 | e2
    · exact h.ownO i e2
    · exact Or.inr (Nat.le_trans h.size e2)
  · rcases k.ownT i hi with e2 | e2
    · exact h.ownT i e2
    · exact Or.inr (Nat.le_trans h.size e2)
theorem Chg.drew {R : Nat} {a b c d : Value} {w u : World} (h : Chg R a b c d w u) : Chg R a b c d w u.drew := ⟨h.os, h.tape, h.output, h.size, h.block, h.ownO, h.ownT⟩
theorem Chg.below {base R L C most : Nat} {a : Option Addr} {s : Rs} {vO vT vO' vT' : Value} {w u : World} (h : Chg R vO vT vO' vT' w u) (hr : Rn w base R a L C most s vO vT) (hb : base ≤ w.heap.size) : Below base w u :=
  ⟨h.os, h.tape, h.output, h.size, fun k hk => h.block k (by omega) (by have := hr.rb; omega) (fun e => by have := (hr.oo.lt k e.symm).1; omega) (fun e => by have := (hr.ot.lt k e.symm).1; omega)⟩
theorem info5 : (Tryd.prog.info? 5).map (fun i => (i.zero, i.size, i.bytes)) = some (some (.int .u8 0), 1, 1) := by kernel_rfl
theorem info3' : (Tryd.prog.info? 3).map (fun i => (i.zero, i.size, i.bytes)) = some (some (.int .i64 0), 1, 8) := by kernel_rfl
theorem own_shape {w : World} {base e n : Nat} {v : Value} {xs : List Value} (h : w.ownsRow base e 1 v n xs) : ∃ a c, v = .slice a n c := by
  rcases h.2 with ⟨rfl, rfl⟩ | ⟨g, c, cur, rfl, _⟩
  · exact ⟨none, 0, rfl⟩
  · exact ⟨_, _, rfl⟩
variable {w u : World} {base R L C most : Nat} {a : Option Addr} {s : Rs} {vO vT : Value}
theorem size_al' (w : World) (o : Obj) : (w.alloc o).heap.size = w.heap.size + 1 := Array.size_push _
theorem add_off (g o j : Nat) : (⟨g, o, none⟩ : Addr).add j = ⟨g, o + j, none⟩ := by unfold Addr.add; split <;> simp_all
theorem grown_cells {w u : World} {R t : Nat} {cs : Array Value} {v : Option Nat} (h : Cells w R cs t) (k : w.grownBy u v) (hne : some R ≠ v) : Cells u R cs t := (k.block R h.lt hne).trans h
/-- The run's block while a byte is given: the first list has grown, the second has not. -/
theorem own_alloc {w : World} {base e size n : Nat} {v : Value} {xs : List Value} (h : w.ownsRow base e size v n xs) (o : Obj) : (w.alloc o).ownsRow base e size v n xs := h.alloc o
theorem give_end {w1 w3 w4 : World} {f : Bool} {N g cap g4 cap4 b : Nat} (k3 : Cells w3 R #[.slice a L C, .int .i64 (most : Int), .slice (some ⟨g, 0, none⟩) (N + 1) cap, vT, .int .i64 (s.why : Int), .int .i64 (s.at_ : Int), .bool s.ended, .int .i64 (s.pos : Int), .bool f] 31)
    (oo3 : w3.ownsRow base 5 1 (.slice (some ⟨g, 0, none⟩) (N + 1) cap) (N + 1) (vn (s.out ++ [b]))) (ot3 : w3.ownsRow base 3 1 vT N (vt s.times)) (chg : Chg R vO vT (.slice (some ⟨g, 0, none⟩) (N + 1) cap) vT w1 w3) (aT : vT.ownBlock ≠ some R) (hgR : g ≠ R) (rb : base ≤ R) (hN : s.out.length = N) (hN2 : s.times.length = N)
    (tm : Nat) (htm : (s.pos - 1) / 8 = tm)
    (k4 : Cells w4 R #[.slice a L C, .int .i64 (most : Int), .slice (some ⟨g, 0, none⟩) (N + 1) cap, vT, .int .i64 (s.why : Int), .int .i64 (s.at_ : Int), .bool s.ended, .int .i64 (s.pos : Int), .bool f] 31)
    (hown4 : w4.ownsRow base 3 1 (.slice (some ⟨g4, 0, none⟩) (N + 1) cap4) (N + 1) (vt s.times ++ [.int .i64 (tm : Int)])) (hgrow4 : (w3.alloc (.cells #[.int .i64 (tm : Int)] 3)).drew.grownBy w4 vT.ownBlock) (hat4 : vT.ownBlock = some g4 ∨ g4 = (w3.alloc (.cells #[.int .i64 (tm : Int)] 3)).drew.heap.size) :
    Rn (w4.setCell ⟨R, 3, none⟩ (.slice (some ⟨g4, 0, none⟩) (N + 1) cap4)) base R a L C most { s with out := s.out ++ [b], times := s.times ++ [(s.pos - 1) / 8] } (.slice (some ⟨g, 0, none⟩) (N + 1) cap) (.slice (some ⟨g4, 0, none⟩) (N + 1) cap4) ∧
      Chg R vO vT (.slice (some ⟨g, 0, none⟩) (N + 1) cap) (.slice (some ⟨g4, 0, none⟩) (N + 1) cap4) w1 (w4.setCell ⟨R, 3, none⟩ (.slice (some ⟨g4, 0, none⟩) (N + 1) cap4)) := by
  have hs : (w3.alloc (.cells #[.int .i64 (tm : Int)] 3)).drew.heap.size = w3.heap.size + 1 := size_al' w3 _
  have o5 : Only R w4 (w4.setCell ⟨R, 3, none⟩ (.slice (some ⟨g4, 0, none⟩) (N + 1) cap4)) := (Only.refl R w4).setCell _ _
  have hg4 : g4 ≠ R := by
    rcases hat4 with e | e
    · intro e2; rw [e2] at e; exact aT e
    · have := k3.lt; omega
  have hgT : vT.ownBlock ≠ some g := by
    intro e
    rcases oo3.2 with ⟨e2, _⟩ | ⟨g', c', cur', e2, _, h1, _⟩
    · cases e2
    · cases e2
      rcases ot3.2 with ⟨rfl, _⟩ | ⟨g', c', cur', rfl, _, h2, _⟩
      · cases e
      · have : g' = g := by simpa [Value.ownBlock] using e
        subst this
        rw [h1] at h2; cases h2
  refine ⟨⟨⟨f, k4.set 3 _⟩, ?_, ?_, rb, by simp [hN, hN2]⟩, chg.trans ?_⟩
  · have e : (s.out ++ [b]).length = N + 1 := by simp [hN]
    show World.ownsRow _ base 5 1 _ (s.out ++ [b]).length (vn (s.out ++ [b]))
    rw [e]
    have h1 := (oo3.alloc (.cells #[.int .i64 (tm : Int)] 3)).drew.kept hgrow4 (Or.inr (fun e => hgT e.symm))
    exact own_only h1 o5 (by intro e; injection e with e; exact hgR e)
  · have e : (s.times ++ [(s.pos - 1) / 8]).length = N + 1 := by simp [hN2]
    show World.ownsRow _ base 3 1 _ (s.times ++ [(s.pos - 1) / 8]).length (vt (s.times ++ [(s.pos - 1) / 8]))
    rw [e, htm]
    have e2 : vt (s.times ++ [tm]) = vt s.times ++ [.int .i64 (tm : Int)] := by simp [vt]
    rw [e2]
    exact own_only hown4 o5 (by intro e; injection e with e; exact hg4 e)
  · refine ⟨o5.os.trans hgrow4.os, o5.tape.trans hgrow4.tape, o5.output.trans hgrow4.output, by rw [o5.size]; have := hgrow4.size; omega, fun k hk h1 h2 h3 => ?_, fun k hk => Or.inl hk, fun k hk => ?_⟩
    · refine (o5.block k h1).trans ((hgrow4.block k (by omega) h3).trans ?_)
      exact Below.heap_alloc w3 _ k hk
    · have : g4 = k := by injection hk
      subst this
      rcases hat4 with e | e
      · exact Or.inl e
      · right; omega
end Go.Proofs.YtogednaamndpgaaDoor

/-
  What the document's symbol comes to: one of a code is read, bit by bit.
-/
namespace Go.Proofs.YtogednaamndpgaaDoor
open Go.RowKit
set_option linter.unusedVariables false
/-- What reading a symbol leaves. -/
def symS (r : SR) (L : Nat) (s : Rs) : Rs := match r with
  | some (.inl (_, n)) => { s with pos := s.pos + n }
  | some (.inr j) => { s with pos := s.pos + j, why := 13, at_ := (s.pos + j - 1) / 8 }
  | none => { s with why := 1, at_ := L }
def symV (r : SR) : Nat := match r with
  | some (.inl (x, _)) => x
  | _ => 0
theorem told_any (ls : List Nat) (h : List Bool) (hk : part ls 15 ≤ 32768) (h15 : ∀ x ∈ ls, x ≤ 15) : (∃ x n, Hit ls h x n ∧ Told ls h x 0 n) ∨ ((∀ i n, ¬ Hit ls h i n) ∧ May ls h ∧ Told ls h 0 1 0) ∨ ((∀ i n, ¬ Hit ls h i n) ∧ ¬ May ls h ∧ Told ls h 0 2 0) := by
  have may : (∃ j n, ls[j]? = some n ∧ 0 < n ∧ h <+: cbits ls j) ↔ May ls h := by
    constructor
    · rintro ⟨j, n, h1, h2, h3⟩
      have := (may_prefix hk h15 h1 h2).1 h3
      exact ⟨j, n, h1, h2, this.1, this.2⟩
    · rintro ⟨j, n, h1, h2, h3, h4⟩
      exact ⟨j, n, h1, h2, (may_prefix hk h15 h1 h2).2 ⟨h3, h4⟩⟩
  by_cases h1 : ∃ x n, Hit ls h x n
  · obtain ⟨x, n, hh⟩ := h1
    exact Or.inl ⟨x, n, hh, Or.inl ⟨hh, rfl⟩⟩
  · have h2 : ∀ i n, ¬ Hit ls h i n := fun i n hi => h1 ⟨i, n, hi⟩
    by_cases h3 : May ls h
    · exact Or.inr (Or.inl ⟨h2, h3, Or.inr (Or.inl ⟨h2, may.2 h3, rfl, rfl, rfl⟩)⟩)
    · exact Or.inr (Or.inr ⟨h2, h3, Or.inr (Or.inr ⟨h2, fun h4 => h3 (may.1 h4), rfl, rfl, rfl⟩)⟩)
variable {w u : World} {base R L C most : Nat} {a : Option Addr} {s : Rs} {vO vT : Value}
theorem Rn.below (h : Rn w base R a L C most s vO vT) (k : Below w.heap.size w u) : Rn u base R a L C most s vO vT := by
  obtain ⟨f, hc⟩ := h.cells
  have kg : w.grownBy u none := ⟨k.os, k.tape, k.output, k.size, fun i hi _ => k.block i hi⟩
  exact ⟨⟨f, hc.below k hc.lt⟩, h.oo.kept kg (by cases vO.ownBlock <;> simp), h.ot.kept kg (by cases vT.ownBlock <;> simp), h.rb, h.tl⟩
theorem bools_lb {w : World} {base n : Nat} {v : Value} {l : List Bool} (h : w.ownsRow base 4 1 v n (vb l)) (hn : l.length = n) : ∃ a c, v = .slice a n c ∧ Lb w a l := by
  rcases h.2 with ⟨hv, h0⟩ | ⟨g, c, cur, hv, hg, hh, hc, hm, hs, ht⟩
  · exact ⟨none, 0, by rw [hv, h0], Or.inl (List.eq_nil_of_length_eq_zero (by omega))⟩
  · refine ⟨_, c, hv, Or.inr ⟨g, 0, rfl, fun i x hx => ?_⟩⟩
    rw [Nat.zero_add, Cells.cell (cs := cur) (t := 4) hh]
    have hi : i < l.length := (List.getElem?_eq_some_iff.1 hx).1
    have e : (cur.toList.take (n * 1))[i]? = some (.bool x) := by rw [ht]; simp [vb, hx]
    rw [List.getElem?_take, if_pos (by omega)] at e
    simpa using e
theorem Rn.drawn (h : Rn w base R a L C most s vO vT) (k : Drawn w u) : Rn u base R a L C most s vO vT := by obtain ⟨n, rfl⟩ := k; exact h.drewN n
theorem below_drawn {B : Nat} {v : World} (h : Below B w u) (k : Drawn u v) : Below B w v := by obtain ⟨n, rfl⟩ := k; exact ⟨h.os, h.tape, h.output, h.size, h.block⟩
/-- The place is moved on. -/
theorem Rn.move (h : Rn w base R a L C most s vO vT) (p : Nat) : Rn (w.setCell ⟨R, 7, none⟩ (.int .i64 (p : Int))) base R a L C most { s with pos := p } vO vT ∧ Only R w (w.setCell ⟨R, 7, none⟩ (.int .i64 (p : Int))) := by
  have o : Only R w (w.setCell ⟨R, 7, none⟩ (.int .i64 (p : Int))) := (Only.refl R w).setCell _ _
  obtain ⟨f, hc⟩ := h.cells
  exact ⟨h.only o ⟨f, hc.set 7 _⟩ rfl rfl, o⟩
end Go.Proofs.YtogednaamndpgaaDoor

/-
  What lies around the document's run, and its small calls told by the machine's steps.
-/
namespace Go.Proofs.YtogednaamndpgaaDoor
open Go.RowKit
set_option linter.unusedVariables false
/-- Neither stopped nor ended. -/
def Opn (s : Rs) : Prop := s.why = 0 ∧ s.ended = false
theorem Opn.opn {s : Rs} (h : Opn s) : s.opn = true := by unfold Rs.opn; rw [h.1, h.2]; rfl
/-- The machine has come to c, and there is no step more: so the run knows it. -/
structure Fin (bs : List Bool) (most L : Nat) (c : Cfg) (s : Rs) : Prop where
  none_ : step bs most c = none
  out : s.out = c.out
  times : s.times = c.times
  ended : s.ended = false
  how : (∃ y, c.st = .bad y ∧ s.why = y ∧ s.at_ = (c.pos - 1) / 8 ∧ y ≠ 0) ∨ ((∀ y, c.st ≠ .bad y) ∧ c.st ≠ .done ∧ s.why = 1 ∧ s.at_ = L)
theorem Fin.opn {bs : List Bool} {most L : Nat} {c : Cfg} {s : Rs} (h : Fin bs most L c s) : s.opn = false := by
  unfold Rs.opn
  rcases h.how with ⟨y, _, h1, _, h2⟩ | ⟨_, _, h1, _⟩
  · rw [h1]; have : (y == 0) = false := beq_eq_false_iff_ne.2 h2; rw [this]; rfl
  · rw [h1]; rfl
/-- More bits are wanted. -/
theorem Fin.cut {bs : List Bool} {most L : Nat} {c : Cfg} {s : Rs} (h : step bs most c = none) (h1 : s.out = c.out) (h2 : s.times = c.times) (h3 : s.ended = false) (h4 : ∀ y, c.st ≠ .bad y) (h5 : c.st ≠ .done) : Fin bs most L c { s with why := 1, at_ := L } := ⟨h, h1, h2, h3, Or.inr ⟨h4, h5, rfl, rfl⟩⟩
theorem Fin.bad {bs : List Bool} {most L : Nat} {c : Cfg} {s : Rs} (y : Nat) (hc : c.st = .bad y) (h1 : s.out = c.out) (h2 : s.times = c.times) (h3 : s.ended = false) (hy : y ≠ 0) (hp : c.pos = s.pos) : Fin bs most L c { s with why := y, at_ := (s.pos - 1) / 8 } :=
  ⟨by unfold step; rw [hc], h1, h2, h3, Or.inl ⟨y, hc, rfl, by rw [hp], hy⟩⟩
/-- Whatever the run does, P holds on. -/
def Kept (P : World → Prop) (R : Nat) (vO vT : Value) (w : World) : Prop := ∀ (u : World) (vO' vT' : Value), Chg R vO vT vO' vT' w u → P u
theorem Kept.now {P : World → Prop} {R : Nat} {vO vT : Value} {w : World} (h : Kept P R vO vT w) : P w := h w vO vT (Chg.refl _ _ _ _)
theorem Kept.on {P : World → Prop} {R : Nat} {vO vT vO' vT' : Value} {w u : World} (h : Kept P R vO vT w) (k : Chg R vO vT vO' vT' w u) : Kept P R vO' vT' u := fun v x y hv => h v x y (k.trans hv)
/-- What lies around a run. -/
structure Ctx (B : List Nat) (base R : Nat) (a : Option Addr) (L C most : Nat) (w : World) (s : Rs) (vO vT : Value) : Prop where
  run : Rn w base R a L C most s vO vT
  lies : Kept (fun u => Lies u a B) R vO vT w
  len : B.length = L
  lb : L < 140737488355328
  oct : Oct B
  pos : s.pos ≤ 8 * L
  most_ : most ≤ 1048576
  base_ : base ≤ w.heap.size
  og : Oct s.out
theorem Ctx.on {B : List Nat} {base R L C most : Nat} {a : Option Addr} {w u : World} {s s' : Rs} {vO vT vO' vT' : Value} (h : Ctx B base R a L C most w s vO vT) (hr : Rn u base R a L C most s' vO' vT') (k : Chg R vO vT vO' vT' w u) (hp : s'.pos ≤ 8 * L) (hg : Oct s'.out) : Ctx B base R a L C most u s' vO' vT' :=
  ⟨hr, h.lies.on k, h.len, h.lb, h.oct, hp, h.most_, Nat.le_trans h.base_ k.size, hg⟩
/-- A table that stays. -/
structure Tab (R : Nat) (vO vT : Value) (w : World) (T : Nat) (ls : List Nat) : Prop where
  tb : Kept (fun u => Tb u T ls) R vO vT w
  len : ls.length ≤ 320
  part : part ls 15 ≤ 32768
  le15 : ∀ x ∈ ls, x ≤ 15
theorem Tab.on {R T : Nat} {ls : List Nat} {vO vT vO' vT' : Value} {w u : World} (h : Tab R vO vT w T ls) (k : Chg R vO vT vO' vT' w u) : Tab R vO' vT' u T ls := ⟨h.tb.on k, h.len, h.part, h.le15⟩
theorem num_le {bs : List Bool} {p n x : Nat} (h : num? bs p n = some x) : p + n ≤ bs.length := by
  unfold num? at h; split at h
  · assumption
  · cases h
variable {w u : World} {base R L C most : Nat} {a : Option Addr} {s : Rs} {vO vT : Value} {B : List Nat}
theorem sread_le {ls : List Nat} {h : List Bool} : match sread ls h with | some (.inl (x, n)) => Hit ls h x n | some (.inr j) => j ≤ h.length | none => True := by
  unfold sread
  cases e : (List.range ls.length).find? (hitb ls h) with
  | some x =>
    obtain ⟨n, hn⟩ := hitb_iff.1 (List.find?_some e)
    simp only []
    rw [List.getD_eq_getElem?_getD, hn.1]
    exact hn
  | none =>
    cases e2 : (List.range (h.length + 1)).find? (fun j => !mayb ls (h.take j)) with
    | some j =>
      simp only []
      have := List.mem_range.1 (List.mem_of_find?_eq_some e2)
      omega
    | none => trivial
end Go.Proofs.YtogednaamndpgaaDoor

/-
  What the document's copied comes to, told by the machine's steps.
-/
namespace Go.Proofs.YtogednaamndpgaaDoor
open Go.RowKit
set_option linter.unusedVariables false
theorem lmore_le (s : Nat) (h : s ≤ 285) : lmore s ≤ 5 := by unfold lmore; split <;> (try split) <;> omega
theorem dmore_le (x : Nat) (h : x ≤ 29) : dmore x ≤ 13 := by unfold dmore; split <;> omega
theorem lbase_le (s : Nat) (h1 : 257 ≤ s) (h2 : s ≤ 285) : lbase s ≤ 1000 := by
  by_cases h : s = 285
  · subst h; decide
  · rw [lbase_lbs h]; exact lbs_le _ (by omega)
theorem numb_lt {bs : List Bool} {p n x : Nat} (h : num? bs p n = some x) : x < 2 ^ n := by
  unfold num? at h; split at h
  · cases h
    have h1 := nm_lt ((bs.drop p).take n)
    refine Nat.lt_of_lt_of_le h1 (Nat.pow_le_pow_right (by decide) ?_)
    rw [List.length_take]; omega
  · cases h
variable {w u : World} {base R L C most : Nat} {a : Option Addr} {s : Rs} {vO vT : Value} {B : List Nat}
theorem Ctx.drew (h : Ctx B base R a L C most w s vO vT) : Ctx B base R a L C most w.drew s vO vT := h.on h.run.drew (Chg.drawn ⟨1, rfl⟩) h.pos h.og
theorem wrap_sub {M d q : Nat} (h : M ≤ maxLen) (hd : d ≤ M) (hq : M - d = q) : ∀ z : Int, z = (M : Int) - (d : Int) → IntKind.i64.wrap z = (q : Int) := by
  intro z hz
  unfold maxLen at h
  rw [IntKind.wrap_i64, hz]
  omega
/-- What a call of the run's leaves: c0 the machine's place ahead, k what comes next where it goes on. -/
def Left (B : List Nat) (base R : Nat) (a : Option Addr) (L C most : Nat) (vO vT : Value) (w w' : World) (c0 : Cfg) (k : St) : Prop :=
  ∃ s' vO' vT' c', Ctx B base R a L C most w' s' vO' vT' ∧ Chg R vO vT vO' vT' w w' ∧ Runs (allb B) most c0 c' ∧ ((Opn s' ∧ c' = ⟨k, s'.pos, s'.out, s'.times⟩) ∨ Fin (allb B) most L c' s')
end Go.Proofs.YtogednaamndpgaaDoor

/-
  What the document's symbols comes to: a block's symbols, told by the machine's steps.
-/
namespace Go.Proofs.YtogednaamndpgaaDoor
open Go.RowKit
set_option linter.unusedVariables false
theorem give_pos {most : Nat} {k : St} {b p : Nat} {c : Cfg} : (give most k b p c).pos = p := by unfold give; split <;> rfl
theorem step_pos {bs : List Bool} {most : Nat} {c d : Cfg} (h : step bs most c = some d) : c.pos ≤ d.pos := by
  obtain ⟨st, pos, out, times⟩ := c
  unfold step at h
  cases st using St.el with
  | head last =>
    cases last with
    | true => simp only [Option.some.injEq] at h; rw [← h]; exact Nat.le_refl _
    | false => simp only [Option.map_eq_some_iff] at h; obtain ⟨v, _, rfl⟩ := h; show pos ≤ pos + 3; omega
  | slen last => simp only [Option.map_eq_some_iff] at h; obtain ⟨v, _, rfl⟩ := h; show pos ≤ (pos + 7) / 8 * 8 + 16; omega
  | snot last l => simp only [Option.map_eq_some_iff] at h; obtain ⟨v, _, rfl⟩ := h; show pos ≤ pos + 16; omega
  | sraw last n =>
    cases n with
    | zero => simp only [Option.some.injEq] at h; rw [← h]; exact Nat.le_refl _
    | succ n => simp only [Option.map_eq_some_iff] at h; obtain ⟨v, _, rfl⟩ := h; rw [give_pos]; show pos ≤ pos + 8; omega
  | dnum last => simp only [Option.map_eq_some_iff] at h; obtain ⟨v, _, rfl⟩ := h; show pos ≤ pos + 14; omega
  | dfst last a b k i first =>
    simp only [] at h
    split at h
    · simp only [Option.map_eq_some_iff] at h; obtain ⟨v, _, rfl⟩ := h; show pos ≤ pos + 3; omega
    · simp only [Option.some.injEq] at h; rw [← h]; exact Nat.le_refl _
  | dsym last a b code l =>
    simp only [] at h
    split at h
    · split at h
      · cases h
      · simp only [Option.some.injEq] at h; rw [← h]; show pos ≤ pos + _; omega
      · simp only [Option.some.injEq] at h; rw [← h]; show pos ≤ pos + _; omega
    · simp only [Option.some.injEq] at h; rw [← h]; exact Nat.le_refl _
  | drep last a b code l s => simp only [Option.map_eq_some_iff] at h; obtain ⟨v, _, rfl⟩ := h; show pos ≤ pos + _; omega
  | sym last lit di =>
    simp only [] at h
    split at h
    · cases h
    · simp only [Option.some.injEq] at h; rw [← h]; show pos ≤ pos + _; omega
    · split at h
      · simp only [Option.some.injEq] at h; rw [← h, give_pos]; show pos ≤ pos + _; omega
      · simp only [Option.some.injEq] at h; rw [← h]; show pos ≤ pos + _; omega
  | lext last lit di s => simp only [Option.map_eq_some_iff] at h; obtain ⟨v, _, rfl⟩ := h; show pos ≤ pos + _; omega
  | dist last lit di n =>
    simp only [] at h
    split at h
    · cases h
    · simp only [Option.some.injEq] at h; rw [← h]; show pos ≤ pos + _; omega
    · simp only [Option.some.injEq] at h; rw [← h]; show pos ≤ pos + _; omega
  | dext last lit di n x => simp only [Option.map_eq_some_iff] at h; obtain ⟨v, _, rfl⟩ := h; show pos ≤ pos + _; omega
  | copy last lit di n d =>
    cases n with
    | zero => simp only [Option.some.injEq] at h; rw [← h]; exact Nat.le_refl _
    | succ n => simp only [Option.some.injEq] at h; rw [← h, give_pos]; exact Nat.le_refl _
  | done => cases h
  | bad y => cases h
theorem Runs.pos {bs : List Bool} {most : Nat} {c d : Cfg} (h : Runs bs most c d) : c.pos ≤ d.pos := by
  induction h using Runs.el with
  | refl => exact Nat.le_refl _
  | cons h1 _ ih => exact Nat.le_trans (step_pos h1) ih
variable {w u : World} {base R L C most : Nat} {a : Option Addr} {s : Rs} {vO vT : Value} {B : List Nat}
theorem Left.of {s' : Rs} {vO' vT' : Value} {c' : Cfg} {c0 : Cfg} {k : St} {w' : World} (h1 : Ctx B base R a L C most w' s' vO' vT') (h2 : Chg R vO vT vO' vT' w w') (h3 : Runs (allb B) most c0 c') (h4 : (Opn s' ∧ c' = ⟨k, s'.pos, s'.out, s'.times⟩) ∨ Fin (allb B) most L c' s') : Left B base R a L C most vO vT w w' c0 k := ⟨s', vO', vT', c', h1, h2, h3, h4⟩
end Go.Proofs.YtogednaamndpgaaDoor

/-
  What the document's stored comes to: a stored block, told by the machine's steps.
-/
namespace Go.Proofs.YtogednaamndpgaaDoor
open Go.RowKit
set_option linter.unusedVariables false
variable {w u : World} {base R L C most : Nat} {a : Option Addr} {s : Rs} {vO vT : Value} {B : List Nat}
theorem Ctx.move (h : Ctx B base R a L C most w s vO vT) (p : Nat) (hp : p ≤ 8 * L) : Ctx B base R a L C most (w.setCell ⟨R, 7, none⟩ (.int .i64 (p : Int))) { s with pos := p } vO vT ∧ Chg R vO vT vO vT w (w.setCell ⟨R, 7, none⟩ (.int .i64 (p : Int))) :=
  ⟨h.on (h.run.move p).1 (Chg.of_only (h.run.move p).2) hp h.og, Chg.of_only (h.run.move p).2⟩
end Go.Proofs.YtogednaamndpgaaDoor

/-
  What the document's Fixed and Order come to: lists of numbers.
-/
namespace Go.Proofs.YtogednaamndpgaaDoor
open Go.RowKit
set_option linter.unusedVariables false
def iz (l : List Nat) : List Int := l.map fun x : Nat => (x : Int)
theorem lens_iz (l : List Nat) : lens (iz l) = l := by
  unfold lens iz
  rw [List.map_map]
  conv => rhs; rw [← List.map_id l]
  exact List.map_congr_left fun x _ => by simp
theorem fixL_len : fixL.length = 288 := by simp [fixL]
theorem fixL_at {i n : Nat} (h : i < 288) (hn : (if 256 ≤ i ∧ i < 280 then 7 else if 144 ≤ i ∧ i < 256 then 9 else 8) = n) : fixL[i]? = some n := by
  rw [← hn]; simp [fixL, h]
theorem own_lens {w : World} {base n : Nat} {v : Value} {l : List Nat} (h : w.ownsRow base 3 1 v n (vt l)) (hn : l.length = n) : ∃ a c, v = .slice a n c ∧ Lens w a (iz l) ∧ n ≤ c ∧ (a = none → n = 0 ∧ c = 0) ∧ (∀ b o s, a = some ⟨b, o, s⟩ → base ≤ b) := by
  rcases h.2 with ⟨hv, h0⟩ | ⟨g, c, cur, hv, hg, hh, hc, hm, hs, ht⟩
  · exact ⟨none, 0, by rw [hv, h0], Or.inl (by rw [List.eq_nil_of_length_eq_zero (by omega : l.length = 0)]; rfl), by omega, (fun _ => ⟨h0, rfl⟩), (fun b o s e => by cases e)⟩
  · refine ⟨_, c, hv, Or.inr ⟨g, 0, rfl, fun i z hz => ?_⟩, hc, (fun e => by cases e), (fun b o s e => by cases e; exact hg)⟩
    rw [Nat.zero_add, Cells.cell (cs := cur) (t := 3) hh]
    unfold iz at hz
    rw [List.getElem?_map] at hz
    cases e1 : l[i]? with
    | none => rw [e1] at hz; cases hz
    | some x =>
      rw [e1] at hz
      have hz' : (x : Int) = z := by simpa using hz
      have hi : i < l.length := (List.getElem?_eq_some_iff.1 e1).1
      have e : (cur.toList.take (n * 1))[i]? = some (.int .i64 (x : Int)) := by rw [ht]; simp [vt, e1]
      rw [List.getElem?_take, if_pos (by omega)] at e
      rw [← hz']
      simpa using e
def FixedTo (w : World) (e : Ending) (w' : World) : Prop := ∃ la lc da dc, e = .returned (.tuple #[.slice la 288 lc, .slice da 32 dc]) ∧ Lens w' la (iz fixL) ∧ Lens w' da (iz fixD) ∧ Below w.heap.size w w'
end Go.Proofs.YtogednaamndpgaaDoor

/-
  What the document's repeated comes to: how often a length is said.
-/
namespace Go.Proofs.YtogednaamndpgaaDoor
open Go.RowKit
set_option linter.unusedVariables false
variable {w u : World} {base R L C most : Nat} {a : Option Addr} {s : Rs} {vO vT : Value} {B : List Nat}
end Go.Proofs.YtogednaamndpgaaDoor

/-
  The document's New within a run, and what its Of comes to, told by the machine's steps; of dynamic blocks by a contract that is handed in.
-/
namespace Go.Proofs.YtogednaamndpgaaDoor
open Go.RowKit
set_option linter.unusedVariables false
theorem iz_len (l : List Nat) : (iz l).length = l.length := by simp [iz]
theorem okl_iz {l : List Nat} : Okl (iz l) ↔ l.length ≤ 320 ∧ ∀ x ∈ l, x ≤ 15 := by
  unfold Okl
  rw [iz_len]
  constructor
  · rintro ⟨h1, h2⟩
    exact ⟨h1, fun x hx => by have := h2 (x : Int) (List.mem_map.2 ⟨x, hx, rfl⟩); omega⟩
  · rintro ⟨h1, h2⟩
    refine ⟨h1, fun z hz => ?_⟩
    obtain ⟨x, hx, rfl⟩ := List.mem_map.1 hz
    have := h2 x hx
    constructor
    · show (0 : Int) ≤ (x : Int); omega
    · show (x : Int) ≤ 15; omega
theorem mays_iff {l : List Nat} : mays l = true ↔ nerr (iz l) = 0 := by
  unfold mays nerr
  rw [lens_iz, decide_eq_true_iff]
  constructor
  · rintro ⟨h1, h2, h3, h4⟩
    rw [if_neg (by rw [Decidable.not_not]; exact okl_iz.2 ⟨h1, h2⟩), if_neg (by omega), if_neg h4]
  · intro h
    split at h
    · omega
    · rename_i h1
      split at h
      · omega
      · rename_i h2
        split at h
        · omega
        · rename_i h3
          have := okl_iz.1 (Decidable.not_not.1 h1)
          exact ⟨this.1, this.2, by omega, h3⟩
variable {w u : World} {base R L C most : Nat} {a : Option Addr} {s : Rs} {vO vT : Value} {B : List Nat}
/-- What is new stays, whatever the run does. -/
theorem Ctx.away (h : Ctx B base R a L C most w s vO vT) {w' : World} (hb : Below w.heap.size w w') {u : World} {vO' vT' : Value} (k : Chg R vO vT vO' vT' w' u) {i : Nat} (h1 : w.heap.size ≤ i) (h2 : i < w'.heap.size) : u.heap[i]? = w'.heap[i]? :=
  k.block i h2 (by have := h.run.lt; omega) (fun e => by have := (h.run.oo.lt i e.symm).2; omega) (fun e => by have := (h.run.ot.lt i e.symm).2; omega)
theorem Ctx.grow (h : Ctx B base R a L C most w s vO vT) {w' : World} (hb : Below w.heap.size w w') : Ctx B base R a L C most w' s vO vT := h.on (h.run.below hb) (Chg.of_below hb) h.pos h.og
theorem fixD_len : fixD.length = 32 := by simp [fixD]
theorem mays_fixL : mays fixL = true := by decide +kernel
theorem mays_fixD : mays fixD = true := by decide +kernel
/-- What comes behind a block's head. -/
def kindSt (kd : Nat) (lb : Bool) : St := match kd with
  | 0 => .slen lb
  | 1 => .sym lb fixL fixD
  | 2 => .dnum lb
  | _ => .bad 10
/-- The machine has come to c, and it is over, or more bytes are wanted: so the run knows it. -/
def Endc (bs : List Bool) (most L : Nat) (c : Cfg) (s : Rs) : Prop := Fin bs most L c s ∨ (c.st = .done ∧ s.ended = true ∧ s.why = 0 ∧ s.at_ = (c.pos - 1) / 8 ∧ s.out = c.out ∧ s.times = c.times)
def OfTo (B : List Nat) (a : Option Addr) (L C : Nat) (most : Nat) (w : World) (e : Ending) (w' : World) : Prop :=
  ∃ R s vO vT c, e = .returned (.pointer (some ⟨R, 0, none⟩)) ∧ Rn w' w.heap.size R a L C most s vO vT ∧ Below w.heap.size w w' ∧ Runs (allb B) most ⟨.head false, 0, [], []⟩ c ∧ Endc (allb B) most L c s
end Go.Proofs.YtogednaamndpgaaDoor

/-
  What is done beside a run that once stood whole: the run's own memory stays, and so does what is done.
-/
namespace Go.Proofs.YtogednaamndpgaaDoor
open Go.RowKit
set_option linter.unusedVariables false
theorem own_at {w u : World} {base e size n : Nat} {v : Value} {xs : List Value} (h : w.ownsRow base e size v n xs) (hk : ∀ g, v.ownBlock = some g → u.heap[g]? = w.heap[g]?) : u.ownsRow base e size v n xs := by
  refine ⟨h.1, ?_⟩
  rcases h.2 with hn | ⟨g, cap, cur, rfl, hb, hgg, rest⟩
  · exact .inl hn
  · exact .inr ⟨g, cap, cur, rfl, hb, by rw [hk g rfl]; exact hgg, rest⟩
/-- The run stood whole at w1; since then it read on, and new memory was worked on. -/
structure Beside (B : List Nat) (base R : Nat) (a : Option Addr) (L C most : Nat) (w1 w : World) (s : Rs) (vO vT : Value) : Prop where
  at1 : ∃ s1, Ctx B base R a L C most w1 s1 vO vT
  now : Ctx B base R a L C most w s vO vT
  chg : Chg R vO vT vO vT w1 w
variable {w1 w u : World} {base R L C most : Nat} {a : Option Addr} {s : Rs} {vO vT : Value} {B : List Nat}
theorem Ctx.beside (h : Ctx B base R a L C most w s vO vT) : Beside B base R a L C most w w s vO vT := ⟨⟨s, h⟩, h, Chg.refl _ _ _ _⟩
theorem Beside.run (h : Beside B base R a L C most w1 w s vO vT) {s' : Rs} (k : Ctx B base R a L C most u s' vO vT) (g : Chg R vO vT vO vT w u) : Beside B base R a L C most w1 u s' vO vT := ⟨h.at1, k, h.chg.trans g⟩
theorem Beside.rlt (h : Beside B base R a L C most w1 w s vO vT) : R < w1.heap.size := by obtain ⟨s1, k⟩ := h.at1; exact k.run.lt
theorem Beside.olt (h : Beside B base R a L C most w1 w s vO vT) (g : Nat) (hg : vO.ownBlock = some g) : g < w1.heap.size := by obtain ⟨s1, k⟩ := h.at1; exact (k.run.oo.lt g hg).2
theorem Beside.tlt (h : Beside B base R a L C most w1 w s vO vT) (g : Nat) (hg : vT.ownBlock = some g) : g < w1.heap.size := by obtain ⟨s1, k⟩ := h.at1; exact (k.run.ot.lt g hg).2
theorem Beside.new (h : Beside B base R a L C most w1 w s vO vT) (k : Below w1.heap.size w u) : Beside B base R a L C most w1 u s vO vT := by
  have hc : Chg R vO vT vO vT w1 u := ⟨k.os.trans h.chg.os, k.tape.trans h.chg.tape, k.output.trans h.chg.output, Nat.le_trans h.chg.size k.size, fun i hi h1 h2 h3 => (k.block i hi).trans (h.chg.block i hi h1 h2 h3), fun _ h => Or.inl h, fun _ h => Or.inl h⟩
  have hr : Rn u base R a L C most s vO vT := by
    have r := h.now.run
    obtain ⟨f, hcl⟩ := r.cells
    exact ⟨⟨f, hcl.below k h.rlt⟩, own_at r.oo (fun g hg => k.block g (h.olt g hg)), own_at r.ot (fun g hg => k.block g (h.tlt g hg)), r.rb, r.tl⟩
  refine ⟨h.at1, ?_, hc⟩
  obtain ⟨s1, k1⟩ := h.at1
  exact k1.on hr hc h.now.pos h.now.og
/-- What is new stays while the run reads on. -/
theorem Beside.stay (h : Beside B base R a L C most w1 w s vO vT) {vO' vT' : Value} (g : Chg R vO vT vO' vT' w u) {k : Nat} (h1 : w1.heap.size ≤ k) (h2 : k < w.heap.size) : u.heap[k]? = w.heap[k]? :=
  g.block k h2 (by have := h.rlt; omega) (fun e => by have := h.olt k e.symm; omega) (fun e => by have := h.tlt k e.symm; omega)
theorem Beside.cells (h : Beside B base R a L C most w1 w s vO vT) {vO' vT' : Value} (g : Chg R vO vT vO' vT' w u) {k : Nat} {cs : Array Value} {t : TypeId} (h1 : w1.heap.size ≤ k) (hc : Cells w k cs t) : Cells u k cs t := (h.stay g h1 hc.lt).trans hc
theorem Beside.own (h : Beside B base R a L C most w1 w s vO vT) {vO' vT' : Value} (g : Chg R vO vT vO' vT' w u) {b e size n : Nat} {v : Value} {xs : List Value} (h1 : w1.heap.size ≤ b) (ho : w.ownsRow b e size v n xs) : u.ownsRow b e size v n xs :=
  own_at ho fun k hk => by have := ho.lt k hk; exact h.stay g (by omega) this.2
end Go.Proofs.YtogednaamndpgaaDoor

/-
  What repeated comes to behind a symbol of the lengths' code, told by the machine's steps; New within a run, whichever way it goes.
-/
namespace Go.Proofs.YtogednaamndpgaaDoor
open Go.RowKit
set_option linter.unusedVariables false
variable {w1 w u : World} {base R L C most : Nat} {a : Option Addr} {s : Rs} {vO vT : Value} {B : List Nat}
/-- What comes behind a symbol of the lengths' code. -/
def afterSym (last : Bool) (A D : Nat) (code l : List Nat) (x : Nat) : St := if x < 16 then .dsym last A D code (l ++ [x]) else if x = 16 ∧ l = [] then .bad 12 else .drep last A D code l x
theorem Lens.take {w : World} {la : Option Addr} {l : List Nat} (h : Lens w la (iz l)) (A : Nat) : Lens w la (iz (l.take A)) := by
  rcases h with h | ⟨b, o, ha, hc⟩
  · left
    have : l = [] := by unfold iz at h; simpa using h
    rw [this]; simp [iz]
  · refine Or.inr ⟨b, o, ha, fun i z hz => hc i z ?_⟩
    unfold iz at hz ⊢
    rw [List.map_take, List.getElem?_take] at hz
    split at hz
    · exact hz
    · cases hz
theorem Lens.drop {w : World} {b o : Nat} {l : List Nat} (h : Lens w (some ⟨b, o, none⟩) (iz l)) (A : Nat) : Lens w (some ⟨b, o + A, none⟩) (iz (l.drop A)) := by
  rcases h with h | ⟨b', o', ha, hc⟩
  · left
    have : l = [] := by unfold iz at h; simpa using h
    rw [this]; simp [iz]
  · cases ha
    refine Or.inr ⟨b, o + A, rfl, fun i z hz => ?_⟩
    unfold iz at hz
    rw [List.map_drop, List.getElem?_drop] at hz
    rw [Nat.add_assoc]
    exact hc (A + i) z hz
/-- A whole code of lengths of lengths. -/
theorem mays_full {l : List Nat} (h1 : l.length = 19) (h2 : ∀ x ∈ l, x < 8) (h3 : kr l = 32768) : mays l = true := by
  unfold mays
  refine decide_eq_true ⟨by omega, fun x hx => by have := h2 x hx; omega, by omega, ?_⟩
  unfold Under
  omega
/-- The lengths lie, whatever the run does. -/
theorem Beside.lens {la : Option Addr} {ll lc b : Nat} {l : List Nat} (h : Beside B base R a L C most w1 w s vO vT) (hb : w1.heap.size ≤ b) (ho : w.ownsRow b 3 1 (.slice la ll lc) ll (vt l)) (hll : l.length = ll) : Kept (fun u => Lens u la (iz l)) R vO vT w := by
  intro u x y g
  have ho2 := h.own g hb ho
  obtain ⟨a', c', e, q, _⟩ := own_lens ho2 hll
  cases e
  exact q
theorem cells_lens {F : Nat} {l : List Nat} (h : Cells w F (vt l).toArray 3) : Lens w (some ⟨F, 0, none⟩) (iz l) := by
  refine Or.inr ⟨F, 0, rfl, fun i z hz => ?_⟩
  rw [Nat.zero_add, h.cell]
  unfold iz at hz
  rw [List.getElem?_map] at hz
  cases e : l[i]? with
  | none => rw [e] at hz; cases hz
  | some x =>
    rw [e] at hz
    have hz' : (x : Int) = z := by simpa using hz
    rw [← hz']
    simp [vt, e]
end Go.Proofs.YtogednaamndpgaaDoor

/-
  What the document's dynamic comes to, told by the machine's steps.
-/
namespace Go.Proofs.YtogednaamndpgaaDoor
open Go.RowKit
set_option linter.unusedVariables false
variable {w1 w u : World} {base R L C most : Nat} {a : Option Addr} {s : Rs} {vO vT : Value} {B : List Nat}
def n19 : List Nat := List.replicate 19 0
theorem made_first (w : World) : (Instr.makeSlice 76 (.int .i64 19) (.int .i64 19)).run Tryd.prog w = .ok (.slice (some ⟨w.heap.size, 0, none⟩) 19 19) (w.alloc (.cells (vt n19).toArray 3)) := by kernel_rfl
theorem vt_set {l : List Nat} {i x : Nat} : (vt l).toArray.setIfInBounds i (.int .i64 (x : Int)) = (vt (l.set i x)).toArray := by
  unfold vt
  rw [List.map_set]
  simp
theorem ordr_at {i : Nat} (h : i < 19) : ordr[i]? = some (ordr.getD i 0) ∧ ordr.getD i 0 < 19 := by
  have : ∀ j : _root_.Fin 19, ordr[j.1]? = some (ordr.getD j.1 0) ∧ ordr.getD j.1 0 < 19 := by decide
  exact this ⟨i, h⟩
theorem set_lt {l : List Nat} {i x n : Nat} (h : ∀ y ∈ l, y < n) (hx : x < n) : ∀ y ∈ l.set i x, y < n := by
  intro y hy
  rcases List.mem_or_eq_of_mem_set hy with h1 | h1
  · exact h y h1
  · rw [h1]; exact hx
/-- One of the lengths of lengths is put down. -/
theorem Aft.of {w3 wr w7 : World} {s1 s7 : Rs} {O F : Nat} {first : List Nat} (h : Beside B base R a L C most w3 wr s1 vO vT) (g : Chg R vO vT vO vT wr w7) (hc : Ctx B base R a L C most w7 s7 vO vT) (ho : Cells w7 O (vt ordr).toArray 3) (hf : Cells w7 F (vt first).toArray 3) (hO : w3.heap.size = O) (hOF : O < F) (o x : Nat) :
    Aside (Beside B base R a L C most w3 (w7.setCell ⟨F, o, none⟩ (.int .i64 (x : Int))) s7 vO vT ∧ Cells (w7.setCell ⟨F, o, none⟩ (.int .i64 (x : Int))) O (vt ordr).toArray 3 ∧ Cells (w7.setCell ⟨F, o, none⟩ (.int .i64 (x : Int))) F (vt (first.set o x)).toArray 3) := by
  have on : Only F w7 (w7.setCell ⟨F, o, none⟩ (.int .i64 (x : Int))) := (Only.refl F w7).setCell _ _
  exact ⟨(h.run hc g).new (on.below (by omega)), ho.only on (by omega), by rw [← vt_set]; exact hf.set _ _⟩
end Go.Proofs.YtogednaamndpgaaDoor

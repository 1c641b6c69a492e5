/-
  Own texts of this seat, one behind the other: what each says stands ahead of it.
-/
import Derived.Test.YtpihipbeagpgpaaGreatDoorMd
import Derived.Laws.EntriesVeiled
import Derived.OwnWalk
import Derived.WalkMore
import Derived.Deep.LoopGhost
import Derived.BigQuiet
import Derived.Deep.CutBlock
import Derived.Deep.DeepCutAuto
import Derived.Deep.RegionLaw
import Derived.Deep.AppendLies
import Derived.Laws.AppendOwnNone
import Derived.Deep.RegionHeld3
/-
 The inflater in memory: 355 cells by a function of their place, its reader, its window; what may turn while it works.
-/
namespace Go.Proofs.YtpihipbeagpgpaaGreatDoor
open Go.RowKit
set_option linter.unusedVariables false
def cz (f : Nat → Value) : Array Value := ((List.range 355).map f).toArray
def upd (f : Nat → Value) (i : Nat) (v : Value) : Nat → Value := fun j => if j = i then v else f j
theorem upd_same (f : Nat → Value) (i : Nat) (v : Value) : upd f i v i = v := by simp [upd]
theorem upd_ne (f : Nat → Value) {i j : Nat} (v : Value) (h : j ≠ i) : upd f i v j = f j := by simp [upd, h]
theorem cz_size (f : Nat → Value) : (cz f).size = 355 := by simp [cz]
theorem cz_at (f : Nat → Value) {i : Nat} (h : i < 355) : (cz f)[i]? = some (f i) := by simp [cz, h]
theorem cz_set (f : Nat → Value) (i : Nat) (v : Value) : (cz f).setIfInBounds i v = cz (upd f i v) := by
 apply Array.ext
 ·simp [cz]
 ·intro j h1 h2
  have hj : j < 355 := by simpa [cz] using h2
  simp only [cz, List.setIfInBounds_toArray, List.getElem_toArray, List.getElem_set, List.getElem_map, List.getElem_range, upd]
  by_cases e : i = j
  ·simp [e]
  ·simp [e, Ne.symm e]
structure Fm (B : Nat) (w w' : World) : Prop where
 os : w'.os = w.os
 tape : w'.tape = w.tape
 output : w'.output = w.output
 size : w.heap.size ≤ w'.heap.size
 block : ∀ k, k < w.heap.size → (k < B ∨ B + 4 ≤ k) → w'.heap[k]? = w.heap[k]?
section
variable {B : Nat} {w u v : World}
theorem Fm.refl (B : Nat) (w : World) : Fm B w w := ⟨rfl, rfl, rfl, Nat.le_refl _, fun _ _ _ => rfl⟩
theorem Fm.trans (h : Fm B w u) (k : Fm B u v) : Fm B w v := ⟨k.os.trans h.os, k.tape.trans h.tape, k.output.trans h.output, Nat.le_trans h.size k.size, fun i hi hk => (k.block i (Nat.lt_of_lt_of_le hi h.size) hk).trans (h.block i hi hk)⟩
theorem Fm.drewN (h : Fm B w u) (n : Nat) : Fm B w (u.drewN n) := ⟨h.os, h.tape, h.output, h.size, h.block⟩
theorem Fm.drew (h : Fm B w u) : Fm B w u.drew := ⟨h.os, h.tape, h.output, h.size, h.block⟩
theorem Fm.of_only {c : Nat} (h : Only c w u) (h1 : B ≤ c) (h2 : c < B + 4) : Fm B w u := ⟨h.os, h.tape, h.output, Nat.le_of_eq h.size.symm, fun k _ hk => h.block k (by omega)⟩
theorem Fm.of_but {c : Nat} (h : But c w u) (h1 : B ≤ c) (h2 : c < B + 4) : Fm B w u := ⟨h.os, h.tape, h.output, h.size, fun k hk hh => h.block k hk (by omega)⟩
theorem Fm.of_two {c d : Nat} (h : GTwo c d w u) (h1 : B ≤ c) (h2 : c < B + 4) (h3 : B ≤ d) (h4 : d < B + 4) : Fm B w u := ⟨h.os, h.tape, h.output, Nat.le_of_eq h.size.symm, fun k _ hk => h.block k (by omega) (by omega)⟩
theorem Fm.of_below {C : Nat} (h : Below C w u) (hC : w.heap.size ≤ C) : Fm B w u := ⟨h.os, h.tape, h.output, h.size, fun k hk _ => h.block k (by omega)⟩
theorem Fm.below (h : Fm B w u) (hB : B ≤ w.heap.size) : Below B w u := ⟨h.os, h.tape, h.output, h.size, fun k hk => h.block k (by omega) (Or.inl hk)⟩
end
structure Bs (w : World) (B D b R : Nat) (f : Nat → Value) (h : List Bool) (l : List Int) : Prop where
 fr : Cells w D (cz f) 97
 c0 : f 0 = .pointer (some ⟨b, 0, none⟩)
 c1 : f 1 = .pointer (some ⟨R, 0, none⟩)
 br : Br w b (nm h) h.length
 rg : GRg w R B 32768 l
 eD : D = B + 3
 eb : b = B + 2
 eR : R = B + 1
section
variable {w u : World} {B D b R : Nat} {f : Nat → Value} {h : List Bool} {l : List Int}
theorem Bs.cell (s : Bs w B D b R f h l) {i : Nat} (hi : i < 355) : w.cell? ⟨D, i, none⟩ = some (f i) := (s.fr.cell i).trans (cz_at f hi)
theorem Bs.fz (s : Bs w B D b R f h l) (i : Nat) : w.frozen? ⟨D, i, none⟩ = false := s.fr.frozen i
theorem Bs.drewN (s : Bs w B D b R f h l) (n : Nat) : Bs (w.drewN n) B D b R f h l := ⟨s.fr, s.c0, s.c1, s.br.drewN n, s.rg.drewN n, s.eD, s.eb, s.eR⟩
theorem Bs.drew (s : Bs w B D b R f h l) : Bs w.drew B D b R f h l := ⟨s.fr, s.c0, s.c1, s.br.drew, s.rg.drew, s.eD, s.eb, s.eR⟩
theorem Bs.lt (s : Bs w B D b R f h l) : B + 4 ≤ w.heap.size := by have := s.fr.lt; have := s.eD; omega
theorem Bs.onD (s : Bs w B D b R f h l) (k : Only D w u) {f' : Nat → Value} (hf : Cells u D (cz f') 97) (h0 : f' 0 = f 0) (h1 : f' 1 = f 1) : Bs u B D b R f' h l :=
 ⟨hf, h0.trans s.c0, h1.trans s.c1, s.br.only k (by have := s.eD; have := s.eb; omega), s.rg.only k (by have := s.eD; have := s.eR; omega) (by have := s.eD; omega), s.eD, s.eb, s.eR⟩
theorem Bs.set (s : Bs w B D b R f h l) (i : Nat) (v : Value) (hi : 2 ≤ i) : Bs (w.setCell ⟨D, i, none⟩ v) B D b R (upd f i v) h l :=
 s.onD ((Only.refl D w).setCell i v) (by have := s.fr.set i v; rwa [cz_set] at this) (upd_ne f v (by omega)) (upd_ne f v (by omega))
theorem Bs.onb (s : Bs w B D b R f h l) (k : Only b w u) {h' : List Bool} (hb : Br u b (nm h') h'.length) : Bs u B D b R f h' l :=
 ⟨s.fr.only k (by have := s.eD; have := s.eb; omega), s.c0, s.c1, hb, s.rg.only k (by have := s.eb; have := s.eR; omega) (by have := s.eb; omega), s.eD, s.eb, s.eR⟩
theorem Cells.but {w u : World} {c k : Nat} {cs : Array Value} {t : TypeId} (h : Cells w c cs t) (q : But k w u) (hc : c ≠ k) : Cells u c cs t := by
 have := h.lt
 unfold Cells at *
 rw [q.block c this hc]; exact h
theorem Bs.onbut (s : Bs w B D b R f h l) (k : But b w u) {h' : List Bool} (hb : Br u b (nm h') h'.length) : Bs u B D b R f h' l := by
 refine ⟨s.fr.but k (by have := s.eD; have := s.eb; omega), s.c0, s.c1, hb, ?_, s.eD, s.eb, s.eR⟩
 obtain ⟨x, cs, lo, hh⟩ := s.rg.ex
 exact ⟨x, cs, ⟨lo.hd.but k (by have := s.eb; have := s.eR; omega), lo.row.but k (by have := s.eb; omega), lo.len, lo.n1, lo.n2, lo.xlt, lo.hle, lo.ne⟩, hh⟩
theorem Bs.below (s : Bs w B D b R f h l) {C : Nat} (k : Below C w u) (hC : w.heap.size ≤ C) : Bs u B D b R f h l := by
 have := s.lt
 exact ⟨s.fr.below k (by have := s.eD; omega), s.c0, s.c1, s.br.below k (by have := s.eb; omega), s.rg.below k (by have := s.eR; omega) (by omega), s.eD, s.eb, s.eR⟩
theorem Bs.onR (s : Bs w B D b R f h l) (k : GTwo R B w u) {l' : List Int} (hr : GRg u R B 32768 l') : Bs u B D b R f h l' := by
 have e1 := s.eD; have e2 := s.eb; have e3 := s.eR
 refine ⟨?_, s.c0, s.c1, ⟨?_, s.br.lt, s.br.le⟩, hr, s.eD, s.eb, s.eR⟩
 ·have := s.fr; unfold Cells at *; rw [k.block D (by omega) (by omega)]; exact this
 ·obtain ⟨t, ht⟩ := s.br.rd
  exact ⟨t, by unfold Cells at *; rw [k.block b (by omega) (by omega)]; exact ht⟩
end
def Tbl (w : World) (B : Nat) (v : Value) (ls : List Nat) : Prop := ∃ lo hi T, v = .pointer (some ⟨T, 0, none⟩) ∧ B + 4 ≤ lo ∧ hi ≤ w.heap.size ∧ PT w lo hi T ls ∧ ls.length ≤ 320
theorem Tbl.fm {w u : World} {B : Nat} {v : Value} {ls : List Nat} (h : Tbl w B v ls) (k : Fm B w u) : Tbl u B v ls := by
 obtain ⟨lo, hi, T, h1, h2, h3, h4, h5⟩ := h
 exact ⟨lo, hi, T, h1, h2, Nat.le_trans h3 k.size, h4.keep fun j hj1 hj2 => k.block j (by omega) (Or.inr (by omega)), h5⟩
def wput (l : List Int) (z : Int) : List Int := glastN 32768 (l ++ [z])
def fnv (D k : Nat) : Value := .func (.func k) #[.pointer (some ⟨D, 0, none⟩)] #[]
section
variable {w : World} {B D b R : Nat} {f : Nat → Value} {h : List Bool} {l : List Int}
theorem pthen_c (k : Nat) (w : World) (s : Bs w B D b R f h l) : Calls Tryz.prog 60 #[.pointer (some ⟨D, 0, none⟩), .func (.func k) #[.pointer (some ⟨D, 0, none⟩)] #[]] w fun e w' => e = .returned (.bool true) ∧ Bs w' B D b R (upd f 2 (fnv D k)) h l ∧ Fm B w w' := by
 have c2 := s.cell (show 2 < 355 by decide)
 have z2 := s.fz 2
 go_enter Tryz.func60, Tryz.ntmps60
 go_wp2_with fail
 go_ret
 exact ⟨rfl, s.set 2 _ (by decide), Fm.of_only ((Only.refl D w).setCell 2 _) (by have := s.eD; omega) (by have := s.eD; omega)⟩
theorem pstop_c (y : Int) (w : World) (s : Bs w B D b R f h l) : Calls Tryz.prog 65 #[.pointer (some ⟨D, 0, none⟩), .int .i64 y] w fun e w' => e = .returned (.bool false) ∧ Bs w' B D b R (upd f 354 (.int .i64 y)) h l ∧ Fm B w w' := by
 have c2 := s.cell (show 354 < 355 by decide)
 have z2 := s.fz 354
 go_enter Tryz.func65, Tryz.ntmps65
 go_wp2_with fail
 go_ret
 exact ⟨rfl, s.set 354 _ (by decide), Fm.of_only ((Only.refl D w).setCell 354 _) (by have := s.eD; omega) (by have := s.eD; omega)⟩
theorem pgive_c (z : Int) (w : World) (s : Bs w B D b R f h l) : Calls Tryz.prog 90 #[.pointer (some ⟨D, 0, none⟩), .int .u8 z] w fun e w' => e = .returned (.bool false) ∧ Bs w' B D b R (upd (upd f 351 (.int .u8 z)) 352 (.bool true)) h (wput l z) ∧ Fm B w w' := by
 have c1 := (s.cell (show 1 < 355 by decide)).trans (congrArg some s.c1)
 have hput := gput_r z w s.rg
 have AS : Aside (Bs w B D b R f h l) := s
 clear s
 go_enter Tryz.func90, Tryz.ntmps90
 go_upto_region 2 with (go_at_call 119; refine hput.mono ?_; rintro e2 w2 ⟨rfl, hr2, ht2⟩)
 have s2 := AS.out.onR ht2 hr2
 have c3 := s2.cell (show 351 < 355 by decide)
 have c4 := s2.cell (show 352 < 355 by decide)
 have z3 := s2.fz 351
 have z4 := s2.fz 352
 clear hput c1
 go_wp2_with fail
 go_ret
 refine ⟨rfl, (s2.set 351 _ (by decide)).set 352 _ (by decide), (Fm.of_two ht2 ?_ ?_ ?_ ?_).trans (Fm.of_only (((Only.refl D w2).setCell 351 _).setCell 352 _) ?_ ?_)⟩ <;> have := s2.eD <;> have := s2.eR <;> omega
end
end Go.Proofs.YtpihipbeagpgpaaGreatDoor

/-
 The document's run in memory, and what its small calls (open, stop, cut) come to.
-/
namespace Go.Proofs.YtpihipbeagpgpaaGreatDoor
open Go.RowKit
set_option linter.unusedVariables false
def Lies (w : World) (a : Option Addr) (l : List Nat) : Prop := l = [] ∨ ∃ (b o : Nat), a = some ⟨b, o, none⟩ ∧ ∀ (i x : Nat), l[i]? = some x → w.cell? ⟨b, o + i, none⟩ = some (.int .u8 (x : Int))
def Oct (l : List Nat) : Prop := ∀ x ∈ l, x < 256
theorem Lies.below {w u : World} {a : Option Addr} {l : List Nat} (h : Lies w a l) (k : Below w.heap.size w u) : Lies u a l := by
 rcases h with h | ⟨b, o, ha, hc⟩
 ·exact Or.inl h
 ·exact Or.inr ⟨b, o, ha, fun i x hx => (k.cell (p := ⟨b, o + i, none⟩) (World.block_lt_of_cell? w ⟨b, o + i, none⟩ (hc i x hx))).trans (hc i x hx)⟩
def vn (l : List Nat) : List Value := l.map fun x : Nat => Value.int .u8 (x : Int)
def vt (l : List Nat) : List Value := l.map fun x : Nat => Value.int .i64 (x : Int)
structure Rs where
 pos : Nat
 out : List Nat
 times : List Nat
 why : Nat
 at_ : Nat
 ended : Bool
variable {w u : World} {base R L C most : Nat} {a : Option Addr} {s : Rs} {vO vT : Value}
theorem allb_len : ∀ B : List Nat, (allb B).length = 8 * B.length
 | [] => rfl
 | x :: B => by
  have ih := allb_len B
  show (bitsOf 8 x ++ allb B).length = _
  rw [List.length_append, bitsOf_length, ih, List.length_cons]; omega
theorem allb_at : ∀ (B : List Nat) (k x : Nat), B[k / 8]? = some x → (allb B)[k]? = some (x / 2 ^ (k % 8) % 2 == 1)
 | [], k, x, h => by simp at h
 | y :: B, k, x, h => by
  show (bitsOf 8 y ++ allb B)[k]? = _
  by_cases hk : k < 8
  ·have e : k / 8 = 0 := by omega
   rw [e] at h
   have : y = x := by simpa using h
   subst this
   rw [List.getElem?_append_left (by rw [bitsOf_length]; exact hk), show k % 8 = k by omega]
   simp [bitsOf, hk]
  ·have e : k / 8 = (k - 8) / 8 + 1 := by omega
   rw [e, List.getElem?_cons_succ] at h
   rw [List.getElem?_append_right (by rw [bitsOf_length]; omega), bitsOf_length, allb_at B (k - 8) x h, show (k - 8) % 8 = k % 8 by omega]
theorem w64_cast {n : Nat} (h : n < 9223372036854775808) : wrap64 (n : Int) = (n : Int) := by unfold wrap64; omega
end Go.Proofs.YtpihipbeagpgpaaGreatDoor

/-
 What the document's lengthBase and distanceBase come to.
-/
namespace Go.Proofs.YtpihipbeagpgpaaGreatDoor
open Go.RowKit
set_option linter.unusedVariables false
def lmo (i : Nat) : Nat := if 265 ≤ i + 257 then (i + 257 - 261) / 4 else 0
def lbs (i : Nat) : Nat := (List.range i).foldl (fun a i => a + 2 ^ (if 265 ≤ i + 257 then (i + 257 - 261) / 4 else 0)) 3
theorem lbs_next (i : Nat) : lbs (i + 1) = lbs i + 2 ^ lmo i := by unfold lbs lmo; rw [List.range_succ, List.foldl_append]; rfl
theorem lbase_lbs {s : Nat} (h : s ≠ 285) : lbase s = lbs (s - 257) := by unfold lbase; rw [if_neg h]; rfl
theorem lbs_le : ∀ i, i ≤ 28 → lbs i ≤ 1000 := by decide
def dmo (i : Nat) : Nat := if 4 ≤ i then (i - 2) / 2 else 0
def dbs (i : Nat) : Nat := (List.range i).foldl (fun a i => a + 2 ^ (if 4 ≤ i then (i - 2) / 2 else 0)) 1
theorem dbs_next (i : Nat) : dbs (i + 1) = dbs i + 2 ^ dmo i := by unfold dbs dmo; rw [List.range_succ, List.foldl_append]; rfl
theorem dbs_le : ∀ i, i ≤ 30 → dbs i ≤ 40000 := by decide
theorem w64_add (v i : Nat) (hv : v ≤ 100000) (hi : i < 40) : wrap64 ((v : Int) + wrap64 (2 ^ i)) = ((v + 2 ^ i : Nat) : Int) := by
 have h1 : 2 ^ i ≤ 2 ^ 40 := Nat.pow_le_pow_right (by decide) (by omega)
 have e : (2 : Int) ^ i = ((2 ^ i : Nat) : Int) := by push_cast; rfl
 rw [e, w64_cast (by omega), ← Int.natCast_add, w64_cast (by omega)]
set_option maxRecDepth 100000 in
set_option maxHeartbeats 2000000 in
theorem lbase_c (s : Nat) (h1 : 257 ≤ s) (h2 : s ≤ 285) (w : World) : Calls Tryz.prog 128 #[.int .i64 (s : Int)] w fun e w' => e = .returned (.tuple #[.int .i64 (lbase s : Nat), .int .i64 (lmore s : Nat)]) ∧ w = w' := by
 by_cases h : s = 285
 ·subst h
  go_enter Tryz.func128, Tryz.ntmps128
  go_wp2_with fail
  first | go_ret | go_ret2
  exact ⟨rfl, rfl⟩
 have hne : ((s : Int) == 285) = false := beq_eq_false_iff_ne.2 (by omega)
 obtain ⟨A, hA⟩ : ∃ A, lbase s = A := ⟨_, rfl⟩
 obtain ⟨D, hD⟩ : ∃ D, lmore s = D := ⟨_, rfl⟩
 have AR : Aside (lbs (s - 257) = A ∧ lmo (s - 257) = D ∧ 257 ≤ s ∧ s < 285) := ⟨by rw [← hA, lbase_lbs h], by rw [← hD]; unfold lmo lmore; rw [if_neg h, show s - 257 + 257 = s by omega], h1, by omega⟩
 rw [hA, hD]
 clear hA hD h h1 h2
 go_enter Tryz.func128, Tryz.ntmps128
 go_wp2_with fail
 go_loopg [4, 5] 29 (fun g sa si wr => ∃ i v : Nat, sa = .int .i64 (v : Int) ∧ si = .int .i64 ((257 + i : Nat) : Int) ∧ Aside (i + g = 29 ∧ 257 + i ≤ s ∧ v = lbs i) ∧ w = wr)
 case atStart => exact ⟨0, 3, rfl, rfl, ⟨by omega, by have := AR.out; omega, rfl⟩, rfl⟩
 case round =>
  obtain ⟨i, v, rfl, rfl, hI, hw⟩ := hrel
  subst hw
  have hI1 := hI.out
  have hs := AR.out
  have hvb := lbs_le i (by omega)
  obtain ⟨m, hm⟩ : ∃ m, lmo i = m := ⟨_, rfl⟩
  obtain ⟨q, hq⟩ : ∃ q, 257 + i = q := ⟨_, rfl⟩
  have hmm : m ≤ 5 := by rw [← hm]; unfold lmo; split <;> omega
  rw [hq]
  have AI : Aside (i + gk = 29 ∧ q ≤ s ∧ v = lbs i ∧ v ≤ 1000 ∧ lmo i = m ∧ 257 + i = q ∧ m ≤ 5) := ⟨hI1.1, by omega, hI1.2.2, by rw [hI1.2.2]; exact hvb, hm, hq, hmm⟩
  have hqb : (q : Int) ≤ 285 := by omega
  go_upto_if 12 with fail
  go_cut [6] (fun s6 wc => s6 = .int .i64 (m : Int) ∧ w = wc)
  case first =>
   by_cases h265 : 265 ≤ q
   ·have t1 : (265 : Int) ≤ (q : Int) := by omega
    have hmI : ((q : Int) - 261) / 4 = (m : Int) := by rw [← hm]; unfold lmo; rw [if_pos (by omega)]; omega
    have AM : Aside (((q : Int) - 261) / 4 = (m : Int)) := hmI
    clear hI hI1 hs hvb hm hq hmm h265 hmI
    go_wp2_with fail
    go_meet
    exact ⟨by rw [AM.out], rfl⟩
   ·have t1 : ¬ (265 : Int) ≤ (q : Int) := by omega
    have hm0 : m = 0 := by rw [← hm]; unfold lmo; rw [if_neg (by omega)]
    clear hI hI1 hs hvb hm hq hmm h265
    go_wp2_with fail
    go_meet
    exact ⟨by rw [hm0]; rfl, rfl⟩
  case rest =>
   obtain ⟨rfl, rfl⟩ := hcut
   have hmI : (m : Int) ≤ 13 := by omega
   by_cases hqs : q = s
   ·have t2 : ((q : Int) == (s : Int)) = true := beq_iff_eq.2 (by omega)
    have AF : Aside (v = A ∧ m = D) := by
     have a := AI.out; have r := AR.out
     exact ⟨by rw [← r.1, a.2.2.1]; congr 1; omega, by rw [← r.2.1, ← a.2.2.2.2.1]; congr 1; omega⟩
    clear hI hI1 hs hvb hm hq hmm hqs
    go_wp2_with fail
    first | go_ret | go_ret2
    obtain ⟨rfl, rfl⟩ := AF.out
    exact ⟨rfl, rfl⟩
   ·have t2 : ((q : Int) == (s : Int)) = false := beq_eq_false_iff_ne.2 (by omega)
    have AL : Aside (q < s) := (by omega : q < s)
    clear hI hI1 hs hvb hm hq hmm hqs
    go_wp2_with fail
    rw [w64_add v m (by have := AI.out; omega) (by have := AI.out; omega)]
    go_roundg (28 - i)
    case measure => have := AI.out; have := AL.out; have := AR.out; omega
    case rel =>
     have a := AI.out
     have l := AL.out
     have r := AR.out
     refine ⟨i + 1, v + 2 ^ m, rfl, ?_, ⟨by omega, by omega, by rw [lbs_next, a.2.2.2.2.1, a.2.2.1]⟩, rfl⟩
     rw [show 257 + (i + 1) = q + 1 by omega]
     go_num
set_option maxRecDepth 100000 in
set_option maxHeartbeats 2000000 in
theorem dbase_c (s : Nat) (h2 : s ≤ 29) (w : World) : Calls Tryz.prog 129 #[.int .i64 (s : Int)] w fun e w' => e = .returned (.tuple #[.int .i64 (dbase s : Nat), .int .i64 (dmore s : Nat)]) ∧ w = w' := by
 obtain ⟨A, hA⟩ : ∃ A, dbase s = A := ⟨_, rfl⟩
 obtain ⟨D, hD⟩ : ∃ D, dmore s = D := ⟨_, rfl⟩
 have AR : Aside (dbs s = A ∧ dmo s = D ∧ s ≤ 29) := ⟨hA, hD, h2⟩
 rw [hA, hD]
 clear hA hD h2
 go_enter Tryz.func129, Tryz.ntmps129
 go_wp2_with fail
 go_loopg [4, 5] 30 (fun g sa si wr => ∃ i v : Nat, sa = .int .i64 (v : Int) ∧ si = .int .i64 ((0 + i : Nat) : Int) ∧ Aside (i + g = 30 ∧ 0 + i ≤ s ∧ v = dbs i) ∧ w = wr)
 case atStart => exact ⟨0, 1, rfl, rfl, ⟨by omega, by omega, rfl⟩, rfl⟩
 case round =>
  obtain ⟨i, v, rfl, rfl, hI, hw⟩ := hrel
  subst hw
  have hI1 := hI.out
  have hs := AR.out
  have hvb := dbs_le i (by omega)
  obtain ⟨m, hm⟩ : ∃ m, dmo i = m := ⟨_, rfl⟩
  obtain ⟨q, hq⟩ : ∃ q, 0 + i = q := ⟨_, rfl⟩
  have hmm : m ≤ 13 := by rw [← hm]; unfold dmo; split <;> omega
  rw [hq]
  have AI : Aside (i + gk = 30 ∧ q ≤ s ∧ v = dbs i ∧ v ≤ 40000 ∧ dmo i = m ∧ 0 + i = q ∧ m ≤ 13) := ⟨hI1.1, by omega, hI1.2.2, by rw [hI1.2.2]; exact hvb, hm, hq, hmm⟩
  have hqb : (q : Int) ≤ 29 := by omega
  go_upto_if 10 with fail
  go_cut [6] (fun s6 wc => s6 = .int .i64 (m : Int) ∧ w = wc)
  case first =>
   by_cases h265 : 4 ≤ q
   ·have t1 : (4 : Int) ≤ (q : Int) := by omega
    have hmI : ((q : Int) - 2) / 2 = (m : Int) := by rw [← hm]; unfold dmo; rw [if_pos (by omega)]; omega
    have AM : Aside (((q : Int) - 2) / 2 = (m : Int)) := hmI
    clear hI hI1 hs hvb hm hq hmm h265 hmI
    go_wp2_with fail
    go_meet
    exact ⟨by rw [AM.out], rfl⟩
   ·have t1 : ¬ (4 : Int) ≤ (q : Int) := by omega
    have hm0 : m = 0 := by rw [← hm]; unfold dmo; rw [if_neg (by omega)]
    clear hI hI1 hs hvb hm hq hmm h265
    go_wp2_with fail
    go_meet
    exact ⟨by rw [hm0]; rfl, rfl⟩
  case rest =>
   obtain ⟨rfl, rfl⟩ := hcut
   have hmI : (m : Int) ≤ 13 := by omega
   by_cases hqs : q = s
   ·have t2 : ((q : Int) == (s : Int)) = true := beq_iff_eq.2 (by omega)
    have AF : Aside (v = A ∧ m = D) := by
     have a := AI.out; have r := AR.out
     exact ⟨by rw [← r.1, a.2.2.1]; congr 1; omega, by rw [← r.2.1, ← a.2.2.2.2.1]; congr 1; omega⟩
    clear hI hI1 hs hvb hm hq hmm hqs
    go_wp2_with fail
    first | go_ret | go_ret2
    obtain ⟨rfl, rfl⟩ := AF.out
    exact ⟨rfl, rfl⟩
   ·have t2 : ((q : Int) == (s : Int)) = false := beq_eq_false_iff_ne.2 (by omega)
    have AL : Aside (q < s) := (by omega : q < s)
    clear hI hI1 hs hvb hm hq hmm hqs
    go_wp2_with fail
    rw [w64_add v m (by have := AI.out; omega) (by have := AI.out; omega)]
    go_roundg (29 - i)
    case measure => have := AI.out; have := AL.out; have := AR.out; omega
    case rel =>
     have a := AI.out
     have l := AL.out
     have r := AR.out
     refine ⟨i + 1, v + 2 ^ m, rfl, ?_, ⟨by omega, by omega, by rw [dbs_next, a.2.2.2.2.1, a.2.2.1]⟩, rfl⟩
     rw [show 0 + (i + 1) = q + 1 by omega]
     go_num
end Go.Proofs.YtpihipbeagpgpaaGreatDoor

/-
 What the document's give comes to: a byte is known.
-/
namespace Go.Proofs.YtpihipbeagpgpaaGreatDoor
open Go.RowKit
set_option linter.unusedVariables false
theorem info3' : (Tryz.prog.info? 3).map (fun i => (i.zero, i.size, i.bytes)) = some (some (.int .i64 0), 1, 8) := by kernel_rfl
variable {w u : World} {base R L C most : Nat} {a : Option Addr} {s : Rs} {vO vT : Value}
theorem size_al' (w : World) (o : Obj) : (w.alloc o).heap.size = w.heap.size + 1 := Array.size_push _
theorem add_off (g o j : Nat) : (⟨g, o, none⟩ : Addr).add j = ⟨g, o + j, none⟩ := by unfold Addr.add; split <;> simp_all
theorem own_alloc {w : World} {base e size n : Nat} {v : Value} {xs : List Value} (h : w.ownsRow base e size v n xs) (o : Obj) : (w.alloc o).ownsRow base e size v n xs := h.alloc o
end Go.Proofs.YtpihipbeagpgpaaGreatDoor

/-
 What the document's symbol comes to: one of a code is read, bit by bit.
-/
namespace Go.Proofs.YtpihipbeagpgpaaGreatDoor
open Go.RowKit
set_option linter.unusedVariables false
variable {w u : World} {base R L C most : Nat} {a : Option Addr} {s : Rs} {vO vT : Value}
end Go.Proofs.YtpihipbeagpgpaaGreatDoor

/-
 What lies around the document's run, and its small calls told by the machine's steps.
-/
namespace Go.Proofs.YtpihipbeagpgpaaGreatDoor
open Go.RowKit
set_option linter.unusedVariables false
structure Fin (bs : List Bool) (most L : Nat) (c : Cfg) (s : Rs) : Prop where
 none_ : step bs most c = none
 out : s.out = c.out
 times : s.times = c.times
 ended : s.ended = false
 how : (∃ y, c.st = .bad y ∧ s.why = y ∧ s.at_ = (c.pos - 1) / 8 ∧ y ≠ 0) ∨ ((∀ y, c.st ≠ .bad y) ∧ c.st ≠ .done ∧ s.why = 1 ∧ s.at_ = L)
theorem num_le {bs : List Bool} {p n x : Nat} (h : num? bs p n = some x) : p + n ≤ bs.length := by
 unfold num? at h; split at h
 ·assumption
 ·cases h
variable {w u : World} {base R L C most : Nat} {a : Option Addr} {s : Rs} {vO vT : Value} {B : List Nat}
theorem sread_le {ls : List Nat} {h : List Bool} : match sread ls h with | some (.inl (x, n)) => Hit ls h x n | some (.inr j) => j ≤ h.length | none => True := by
 unfold sread
 cases e : (List.range ls.length).find? (hitb ls h) with
 | some x =>
  obtain ⟨n, hn⟩ := hitb_iff.1 (List.find?_some e)
  simp only []
  rw [List.getD_eq_getElem?_getD, hn.1]
  exact hn
 | none =>
  cases e2 : (List.range (h.length + 1)).find? (fun j => !mayb ls (h.take j)) with
  | some j =>
   simp only []
   have := List.mem_range.1 (List.mem_of_find?_eq_some e2)
   omega
  | none => trivial
end Go.Proofs.YtpihipbeagpgpaaGreatDoor

/-
 What the document's copied comes to, told by the machine's steps.
-/
namespace Go.Proofs.YtpihipbeagpgpaaGreatDoor
open Go.RowKit
set_option linter.unusedVariables false
theorem lmore_le (s : Nat) (h : s ≤ 285) : lmore s ≤ 5 := by unfold lmore; split <;> (try split) <;> omega
theorem dmore_le (x : Nat) (h : x ≤ 29) : dmore x ≤ 13 := by unfold dmore; split <;> omega
theorem lbase_le (s : Nat) (h1 : 257 ≤ s) (h2 : s ≤ 285) : lbase s ≤ 1000 := by
 by_cases h : s = 285
 ·subst h; decide
 ·rw [lbase_lbs h]; exact lbs_le _ (by omega)
theorem numb_lt {bs : List Bool} {p n x : Nat} (h : num? bs p n = some x) : x < 2 ^ n := by
 unfold num? at h; split at h
 ·cases h
  have h1 := nm_lt ((bs.drop p).take n)
  refine Nat.lt_of_lt_of_le h1 (Nat.pow_le_pow_right (by decide) ?_)
  rw [List.length_take]; omega
 ·cases h
variable {w u : World} {base R L C most : Nat} {a : Option Addr} {s : Rs} {vO vT : Value} {B : List Nat}
end Go.Proofs.YtpihipbeagpgpaaGreatDoor

/-
 What the document's symbols comes to: a block's symbols, told by the machine's steps.
-/
namespace Go.Proofs.YtpihipbeagpgpaaGreatDoor
open Go.RowKit
set_option linter.unusedVariables false
theorem give_pos {most : Nat} {k : St} {b p : Nat} {c : Cfg} : (give most k b p c).pos = p := by unfold give; split <;> rfl
theorem step_pos {bs : List Bool} {most : Nat} {c d : Cfg} (h : step bs most c = some d) : c.pos ≤ d.pos := by
 obtain ⟨st, pos, out, times⟩ := c
 unfold step at h
 cases st using St.el with
 | head last =>
  cases last with
  | true => simp only [Option.some.injEq] at h; rw [← h]; exact Nat.le_refl _
  | false => simp only [Option.map_eq_some_iff] at h; obtain ⟨v, _, rfl⟩ := h; show pos ≤ pos + 3; omega
 | slen last => simp only [Option.map_eq_some_iff] at h; obtain ⟨v, _, rfl⟩ := h; show pos ≤ (pos + 7) / 8 * 8 + 16; omega
 | snot last l => simp only [Option.map_eq_some_iff] at h; obtain ⟨v, _, rfl⟩ := h; show pos ≤ pos + 16; omega
 | sraw last n =>
  cases n with
  | zero => simp only [Option.some.injEq] at h; rw [← h]; exact Nat.le_refl _
  | succ n => simp only [Option.map_eq_some_iff] at h; obtain ⟨v, _, rfl⟩ := h; rw [give_pos]; show pos ≤ pos + 8; omega
 | dnum last => simp only [Option.map_eq_some_iff] at h; obtain ⟨v, _, rfl⟩ := h; show pos ≤ pos + 14; omega
 | dfst last a b k i first =>
  simp only [] at h
  split at h
  ·simp only [Option.map_eq_some_iff] at h; obtain ⟨v, _, rfl⟩ := h; show pos ≤ pos + 3; omega
  ·simp only [Option.some.injEq] at h; rw [← h]; exact Nat.le_refl _
 | dsym last a b code l =>
  simp only [] at h
  split at h
  ·split at h
   ·cases h
   ·simp only [Option.some.injEq] at h; rw [← h]; show pos ≤ pos + _; omega
   ·simp only [Option.some.injEq] at h; rw [← h]; show pos ≤ pos + _; omega
  ·simp only [Option.some.injEq] at h; rw [← h]; exact Nat.le_refl _
 | drep last a b code l s => simp only [Option.map_eq_some_iff] at h; obtain ⟨v, _, rfl⟩ := h; show pos ≤ pos + _; omega
 | sym last lit di =>
  simp only [] at h
  split at h
  ·cases h
  ·simp only [Option.some.injEq] at h; rw [← h]; show pos ≤ pos + _; omega
  ·split at h
   ·simp only [Option.some.injEq] at h; rw [← h, give_pos]; show pos ≤ pos + _; omega
   ·simp only [Option.some.injEq] at h; rw [← h]; show pos ≤ pos + _; omega
 | lext last lit di s => simp only [Option.map_eq_some_iff] at h; obtain ⟨v, _, rfl⟩ := h; show pos ≤ pos + _; omega
 | dist last lit di n =>
  simp only [] at h
  split at h
  ·cases h
  ·simp only [Option.some.injEq] at h; rw [← h]; show pos ≤ pos + _; omega
  ·simp only [Option.some.injEq] at h; rw [← h]; show pos ≤ pos + _; omega
 | dext last lit di n x => simp only [Option.map_eq_some_iff] at h; obtain ⟨v, _, rfl⟩ := h; show pos ≤ pos + _; omega
 | copy last lit di n d =>
  cases n with
  | zero => simp only [Option.some.injEq] at h; rw [← h]; exact Nat.le_refl _
  | succ n => simp only [Option.some.injEq] at h; rw [← h, give_pos]; exact Nat.le_refl _
 | done => cases h
 | bad y => cases h
theorem Runs.pos {bs : List Bool} {most : Nat} {c d : Cfg} (h : Runs bs most c d) : c.pos ≤ d.pos := by
 induction h using Runs.el with
 | refl => exact Nat.le_refl _
 | cons h1 _ ih => exact Nat.le_trans (step_pos h1) ih
variable {w u : World} {base R L C most : Nat} {a : Option Addr} {s : Rs} {vO vT : Value} {B : List Nat}
end Go.Proofs.YtpihipbeagpgpaaGreatDoor

/-
 What the document's stored comes to: a stored block, told by the machine's steps.
-/
namespace Go.Proofs.YtpihipbeagpgpaaGreatDoor
open Go.RowKit
set_option linter.unusedVariables false
variable {w u : World} {base R L C most : Nat} {a : Option Addr} {s : Rs} {vO vT : Value} {B : List Nat}
end Go.Proofs.YtpihipbeagpgpaaGreatDoor

/-
 What the document's Fixed and Order come to: lists of numbers.
-/
namespace Go.Proofs.YtpihipbeagpgpaaGreatDoor
open Go.RowKit
set_option linter.unusedVariables false
def iz (l : List Nat) : List Int := l.map fun x : Nat => (x : Int)
theorem lens_iz (l : List Nat) : lens (iz l) = l := by
 unfold lens iz
 rw [List.map_map]
 conv => rhs; rw [← List.map_id l]
 exact List.map_congr_left fun x _ => by simp
theorem fixL_len : fixL.length = 288 := by simp [fixL]
theorem fixL_at {i n : Nat} (h : i < 288) (hn : (if 256 ≤ i ∧ i < 280 then 7 else if 144 ≤ i ∧ i < 256 then 9 else 8) = n) : fixL[i]? = some n := by
 rw [← hn]; simp [fixL, h]
theorem own_lens {w : World} {base n : Nat} {v : Value} {l : List Nat} (h : w.ownsRow base 3 1 v n (vt l)) (hn : l.length = n) : ∃ a c, v = .slice a n c ∧ Lens w a (iz l) ∧ n ≤ c ∧ (a = none → n = 0 ∧ c = 0) ∧ (∀ b o s, a = some ⟨b, o, s⟩ → base ≤ b) := by
 rcases h.2 with ⟨hv, h0⟩ | ⟨g, c, cur, hv, hg, hh, hc, hm, hs, ht⟩
 ·exact ⟨none, 0, by rw [hv, h0], Or.inl (by rw [List.eq_nil_of_length_eq_zero (by omega : l.length = 0)]; rfl), by omega, (fun _ => ⟨h0, rfl⟩), (fun b o s e => by cases e)⟩
 ·refine ⟨_, c, hv, Or.inr ⟨g, 0, rfl, fun i z hz => ?_⟩, hc, (fun e => by cases e), (fun b o s e => by cases e; exact hg)⟩
  rw [Nat.zero_add, Cells.cell (cs := cur) (t := 3) hh]
  unfold iz at hz
  rw [List.getElem?_map] at hz
  cases e1 : l[i]? with
  | none => rw [e1] at hz; cases hz
  | some x =>
   rw [e1] at hz
   have hz' : (x : Int) = z := by simpa using hz
   have hi : i < l.length := (List.getElem?_eq_some_iff.1 e1).1
   have e : (cur.toList.take (n * 1))[i]? = some (.int .i64 (x : Int)) := by rw [ht]; simp [vt, e1]
   rw [List.getElem?_take, if_pos (by omega)] at e
   rw [← hz']
   simpa using e
def FixedTo (w : World) (e : Ending) (w' : World) : Prop := ∃ la lc da dc, e = .returned (.tuple #[.slice la 288 lc, .slice da 32 dc]) ∧ Lens w' la (iz fixL) ∧ Lens w' da (iz fixD) ∧ Below w.heap.size w w'
set_option maxRecDepth 100000 in
set_option maxHeartbeats 4000000 in
theorem fixed_c (w : World) : Calls Tryz.prog 72 #[] w fun e w' => FixedTo w e w' := by
 obtain ⟨i3, hi3, hz30, hz31, hz32⟩ := info_parts info3'
 obtain ⟨W, hW⟩ : ∃ W, w.heap.size = W := ⟨_, rfl⟩
 have AW : Aside (w.heap.size = W) := hW
 clear hW
 go_enter Tryz.func72, Tryz.ntmps72
 go_wp2_with fail
 go_loopg [2, 4] 288 (fun g vl si wr => ∃ i : Nat, si = .int .i64 (i : Int) ∧ Aside (i + g = 288 ∧ wr.ownsRow W 3 1 vl i (vt (fixL.take i)) ∧ Below W w wr))
 case atStart => exact ⟨0, rfl, by omega, World.ownsRow_nil _ _ _ _, Below.refl _ _⟩
 case round =>
  obtain ⟨i, rfl, hI⟩ := hrel
  by_cases hi8 : i < 288
  ·have ti : (i : Int) < 288 := by omega
   by_cases h0 : i < 144
   ·have _z0 : True := trivial
    have t0 : ¬ ((144 : Int) ≤ (i : Int)) := by omega
    have t1 : ¬ ((256 : Int) ≤ (i : Int)) := by omega
    have hv : fixL[i]? = some 8 := fixL_at (by omega) (by rw [if_neg (by omega), if_neg (by omega)])
    have AV : Aside (i < 288 ∧ i + gk = 288 ∧ fixL.take (i + 1) = fixL.take i ++ [8] ∧ wr.ownsRow W 3 1 u2 i (vt (fixL.take i)) ∧ Below W w wr ∧ W ≤ wr.heap.size) := ⟨hi8, hI.out.1, by rw [List.take_add_one, hv]; rfl, hI.out.2.1, hI.out.2.2, by rw [← AW.out]; exact hI.out.2.2.size⟩
    clear hI hi8 h0 hv
    obtain ⟨H, hH⟩ : ∃ H, wr.heap.size = H := ⟨_, rfl⟩
    go_wp2_with (at_builtin; refine wpList_append_own _ rfl (.tmp 23) (.tmp 25) 105 rfl W 3 i3 (.int .i64 0) 1 8 Tryz.underlying105 hi3 hz30 hz31 hz32 rfl (by decide) u2 i (vt (fixL.take i)) (by rfl) (own_alloc AV.out.2.2.2.1 _) ⟨H, 0, none⟩ 1 1 [.int .i64 8] (by rfl) rfl (fun j u hu => by rw [add_off, Nat.zero_add, ← hH, (Cells.new wr #[.int .i64 8] 3).cell]; simpa using hu) (by simp [Value.oneCell']) (by unfold maxLen; have := AV.out; omega) (by have := AV.out; omega) (by have := AV.out; have := size_al' wr (.cells #[.int .i64 8] 3); omega) ?_; intro v3 w3 hown3 hgrow3 hnil3)
    have A3 : Aside (w3.ownsRow W 3 1 v3 (i + 1) (vt (fixL.take (i + 1))) ∧ Below W w w3) := by
     have q := AV.out
     refine ⟨by rw [q.2.2.1]; simpa [vt] using hown3, ?_⟩
     have h2 : Below W w (wr.alloc (.cells #[.int .i64 8] 3)) := q.2.2.2.2.1.alloc q.2.2.2.2.2 _
     exact h2.trans ((Below.refl _ _).grown hgrow3 (by have := size_al' wr (.cells #[.int .i64 8] 3); omega) (fun g hg => (q.2.2.2.1.lt g hg).1))
    clear hown3 hgrow3 hnil3 hH
    go_roundg (288 - (i + 1))
    case measure => have := AV.out; omega
    case rel => exact ⟨i + 1, by go_num, by have := AV.out; omega, A3.out.1, A3.out.2⟩
   by_cases h1 : i < 256
   ·have _z1 : True := trivial
    have t0 : (144 : Int) ≤ (i : Int) := by omega
    have t1 : (i : Int) < 256 := by omega
    have t2 : ¬ ((256 : Int) ≤ (i : Int)) := by omega
    have hv : fixL[i]? = some 9 := fixL_at (by omega) (by rw [if_neg (by omega), if_pos (by omega)])
    have AV : Aside (i < 288 ∧ i + gk = 288 ∧ fixL.take (i + 1) = fixL.take i ++ [9] ∧ wr.ownsRow W 3 1 u2 i (vt (fixL.take i)) ∧ Below W w wr ∧ W ≤ wr.heap.size) := ⟨hi8, hI.out.1, by rw [List.take_add_one, hv]; rfl, hI.out.2.1, hI.out.2.2, by rw [← AW.out]; exact hI.out.2.2.size⟩
    clear hI hi8 h0 h1 hv
    obtain ⟨H, hH⟩ : ∃ H, wr.heap.size = H := ⟨_, rfl⟩
    go_wp2_with (at_builtin; refine wpList_append_own _ rfl (.tmp 23) (.tmp 25) 105 rfl W 3 i3 (.int .i64 0) 1 8 Tryz.underlying105 hi3 hz30 hz31 hz32 rfl (by decide) u2 i (vt (fixL.take i)) (by rfl) (own_alloc AV.out.2.2.2.1 _) ⟨H, 0, none⟩ 1 1 [.int .i64 9] (by rfl) rfl (fun j u hu => by rw [add_off, Nat.zero_add, ← hH, (Cells.new wr #[.int .i64 9] 3).cell]; simpa using hu) (by simp [Value.oneCell']) (by unfold maxLen; have := AV.out; omega) (by have := AV.out; omega) (by have := AV.out; have := size_al' wr (.cells #[.int .i64 9] 3); omega) ?_; intro v3 w3 hown3 hgrow3 hnil3)
    have A3 : Aside (w3.ownsRow W 3 1 v3 (i + 1) (vt (fixL.take (i + 1))) ∧ Below W w w3) := by
     have q := AV.out
     refine ⟨by rw [q.2.2.1]; simpa [vt] using hown3, ?_⟩
     have h2 : Below W w (wr.alloc (.cells #[.int .i64 9] 3)) := q.2.2.2.2.1.alloc q.2.2.2.2.2 _
     exact h2.trans ((Below.refl _ _).grown hgrow3 (by have := size_al' wr (.cells #[.int .i64 9] 3); omega) (fun g hg => (q.2.2.2.1.lt g hg).1))
    clear hown3 hgrow3 hnil3 hH
    go_roundg (288 - (i + 1))
    case measure => have := AV.out; omega
    case rel => exact ⟨i + 1, by go_num, by have := AV.out; omega, A3.out.1, A3.out.2⟩
   by_cases h2 : i < 280
   ·have _z2 : True := trivial
    have t0 : (144 : Int) ≤ (i : Int) := by omega
    have t1 : ¬ ((i : Int) < 256) := by omega
    have t2 : (256 : Int) ≤ (i : Int) := by omega
    have t3 : (i : Int) < 280 := by omega
    have hv : fixL[i]? = some 7 := fixL_at (by omega) (by rw [if_pos (by omega)])
    have AV : Aside (i < 288 ∧ i + gk = 288 ∧ fixL.take (i + 1) = fixL.take i ++ [7] ∧ wr.ownsRow W 3 1 u2 i (vt (fixL.take i)) ∧ Below W w wr ∧ W ≤ wr.heap.size) := ⟨hi8, hI.out.1, by rw [List.take_add_one, hv]; rfl, hI.out.2.1, hI.out.2.2, by rw [← AW.out]; exact hI.out.2.2.size⟩
    clear hI hi8 h0 h1 h2 hv
    obtain ⟨H, hH⟩ : ∃ H, wr.heap.size = H := ⟨_, rfl⟩
    go_wp2_with (at_builtin; refine wpList_append_own _ rfl (.tmp 23) (.tmp 25) 105 rfl W 3 i3 (.int .i64 0) 1 8 Tryz.underlying105 hi3 hz30 hz31 hz32 rfl (by decide) u2 i (vt (fixL.take i)) (by rfl) (own_alloc AV.out.2.2.2.1 _) ⟨H, 0, none⟩ 1 1 [.int .i64 7] (by rfl) rfl (fun j u hu => by rw [add_off, Nat.zero_add, ← hH, (Cells.new wr #[.int .i64 7] 3).cell]; simpa using hu) (by simp [Value.oneCell']) (by unfold maxLen; have := AV.out; omega) (by have := AV.out; omega) (by have := AV.out; have := size_al' wr (.cells #[.int .i64 7] 3); omega) ?_; intro v3 w3 hown3 hgrow3 hnil3)
    have A3 : Aside (w3.ownsRow W 3 1 v3 (i + 1) (vt (fixL.take (i + 1))) ∧ Below W w w3) := by
     have q := AV.out
     refine ⟨by rw [q.2.2.1]; simpa [vt] using hown3, ?_⟩
     have h2 : Below W w (wr.alloc (.cells #[.int .i64 7] 3)) := q.2.2.2.2.1.alloc q.2.2.2.2.2 _
     exact h2.trans ((Below.refl _ _).grown hgrow3 (by have := size_al' wr (.cells #[.int .i64 7] 3); omega) (fun g hg => (q.2.2.2.1.lt g hg).1))
    clear hown3 hgrow3 hnil3 hH
    go_roundg (288 - (i + 1))
    case measure => have := AV.out; omega
    case rel => exact ⟨i + 1, by go_num, by have := AV.out; omega, A3.out.1, A3.out.2⟩
   have t0 : (144 : Int) ≤ (i : Int) := by omega
   have t1 : ¬ ((i : Int) < 256) := by omega
   have t2 : (256 : Int) ≤ (i : Int) := by omega
   have t3 : ¬ ((i : Int) < 280) := by omega
   have hv : fixL[i]? = some 8 := fixL_at (by omega) (by rw [if_neg (by omega), if_neg (by omega)])
   have AV : Aside (i < 288 ∧ i + gk = 288 ∧ fixL.take (i + 1) = fixL.take i ++ [8] ∧ wr.ownsRow W 3 1 u2 i (vt (fixL.take i)) ∧ Below W w wr ∧ W ≤ wr.heap.size) := ⟨hi8, hI.out.1, by rw [List.take_add_one, hv]; rfl, hI.out.2.1, hI.out.2.2, by rw [← AW.out]; exact hI.out.2.2.size⟩
   clear hI hi8 h0 h1 h2 hv
   obtain ⟨H, hH⟩ : ∃ H, wr.heap.size = H := ⟨_, rfl⟩
   go_wp2_with (at_builtin; refine wpList_append_own _ rfl (.tmp 23) (.tmp 25) 105 rfl W 3 i3 (.int .i64 0) 1 8 Tryz.underlying105 hi3 hz30 hz31 hz32 rfl (by decide) u2 i (vt (fixL.take i)) (by rfl) (own_alloc AV.out.2.2.2.1 _) ⟨H, 0, none⟩ 1 1 [.int .i64 8] (by rfl) rfl (fun j u hu => by rw [add_off, Nat.zero_add, ← hH, (Cells.new wr #[.int .i64 8] 3).cell]; simpa using hu) (by simp [Value.oneCell']) (by unfold maxLen; have := AV.out; omega) (by have := AV.out; omega) (by have := AV.out; have := size_al' wr (.cells #[.int .i64 8] 3); omega) ?_; intro v3 w3 hown3 hgrow3 hnil3)
   have A3 : Aside (w3.ownsRow W 3 1 v3 (i + 1) (vt (fixL.take (i + 1))) ∧ Below W w w3) := by
    have q := AV.out
    refine ⟨by rw [q.2.2.1]; simpa [vt] using hown3, ?_⟩
    have h2 : Below W w (wr.alloc (.cells #[.int .i64 8] 3)) := q.2.2.2.2.1.alloc q.2.2.2.2.2 _
    exact h2.trans ((Below.refl _ _).grown hgrow3 (by have := size_al' wr (.cells #[.int .i64 8] 3); omega) (fun g hg => (q.2.2.2.1.lt g hg).1))
   clear hown3 hgrow3 hnil3 hH
   go_roundg (288 - (i + 1))
   case measure => have := AV.out; omega
   case rel => exact ⟨i + 1, by go_num, by have := AV.out; omega, A3.out.1, A3.out.2⟩
  ·have hi2 : i = 288 := by have := hI.out.1; omega
   subst hi2
   have ti : ¬ ((288 : Nat) : Int) < 288 := by omega
   have hw1 : wr.ownsRow W 3 1 u2 288 (vt fixL) := by have := hI.out.2.1; rw [List.take_of_length_le (by rw [fixL_len]; omega)] at this; exact this
   obtain ⟨la, lc, hvl, hll, _, _, hlb⟩ := own_lens hw1 fixL_len
   obtain ⟨w1, hww⟩ : ∃ w1, w1 = wr := ⟨_, rfl⟩
   obtain ⟨W2, hW2⟩ : ∃ W2, wr.heap.size = W2 := ⟨_, rfl⟩
   have A1 : Aside (Lens w1 la (iz fixL) ∧ Below W w w1 ∧ w1.heap.size = W2) := by rw [hww]; exact ⟨hll, hI.out.2.2, hW2⟩
   subst hww
   subst hvl
   clear hI hi8 hw1 hll hlb hW2
   go_wp2_with fail
   go_loopg [3, 6] 32 (fun g vd si wr => ∃ k : Nat, si = .int .i64 (k : Int) ∧ Aside (k + g = 32 ∧ wr.ownsRow W2 3 1 vd k (vt (List.replicate k 5)) ∧ Below W2 w1 wr))
   case atStart => exact ⟨0, rfl, by omega, World.ownsRow_nil _ _ _ _, Below.refl _ _⟩
   case round =>
    obtain ⟨k, rfl, hK⟩ := hrel
    by_cases hk : k < 32
    ·have tk : (k : Int) < 32 := by omega
     have AV : Aside (k < 32 ∧ k + gk = 32 ∧ wr.ownsRow W2 3 1 u3 k (vt (List.replicate k 5)) ∧ Below W2 w1 wr ∧ W2 ≤ wr.heap.size) := ⟨hk, hK.out.1, hK.out.2.1, hK.out.2.2, by rw [← A1.out.2.2]; exact hK.out.2.2.size⟩
     clear hK hk
     obtain ⟨H, hH⟩ : ∃ H, wr.heap.size = H := ⟨_, rfl⟩
     go_wp2_with (at_builtin; refine wpList_append_own _ rfl (.tmp 31) (.tmp 32) 105 rfl W2 3 i3 (.int .i64 0) 1 8 Tryz.underlying105 hi3 hz30 hz31 hz32 rfl (by decide) u3 k (vt (List.replicate k 5)) (by rfl) (own_alloc AV.out.2.2.1 _) ⟨H, 0, none⟩ 1 1 [.int .i64 5] (by rfl) rfl (fun j u hu => by rw [add_off, Nat.zero_add, ← hH, (Cells.new wr #[.int .i64 5] 3).cell]; simpa using hu) (by simp [Value.oneCell']) (by unfold maxLen; have := AV.out; omega) (by have := AV.out; omega) (by have := AV.out; have := size_al' wr (.cells #[.int .i64 5] 3); omega) ?_; intro v3 w3 hown3 hgrow3 hnil3)
     have A3 : Aside (w3.ownsRow W2 3 1 v3 (k + 1) (vt (List.replicate (k + 1) 5)) ∧ Below W2 w1 w3) := by
      have q := AV.out
      refine ⟨by rw [List.replicate_succ']; simpa [vt] using hown3, ?_⟩
      have h2 : Below W2 w1 (wr.alloc (.cells #[.int .i64 5] 3)) := q.2.2.2.1.alloc q.2.2.2.2 _
      exact h2.trans ((Below.refl _ _).grown hgrow3 (by have := size_al' wr (.cells #[.int .i64 5] 3); omega) (fun g hg => (q.2.2.1.lt g hg).1))
     clear hown3 hgrow3 hnil3 hH
     go_roundg (32 - (k + 1))
     case measure => have := AV.out; omega
     case rel => exact ⟨k + 1, by go_num, by have := AV.out; omega, A3.out.1, A3.out.2⟩
    ·have hk2 : k = 32 := by have := hK.out.1; omega
     subst hk2
     have tk : ¬ ((32 : Nat) : Int) < 32 := by omega
     obtain ⟨da, dc, hvd, hdl, _, _, hdb⟩ := own_lens hK.out.2.1 (by simp)
     have A4 : Aside (Lens wr da (iz fixD) ∧ Lens wr la (iz fixL) ∧ Below w.heap.size w wr) := by
      have q := A1.out
      have hb : Below w1.heap.size w1 wr := by rw [q.2.2]; exact hK.out.2.2
      refine ⟨hdl, q.1.below hb, ?_⟩
      have h2 : Below W w wr := q.2.1.trans (hb.mono (by rw [← AW.out]; exact q.2.1.size))
      rw [AW.out]; exact h2
     subst hvd
     clear hK hk hdl hdb
     go_wp2_with fail
     first | go_ret | go_ret2
     exact ⟨la, lc, da, dc, rfl, A4.out.2.1, A4.out.1, A4.out.2.2⟩
end Go.Proofs.YtpihipbeagpgpaaGreatDoor

/-
 What the document's repeated comes to: how often a length is said.
-/
namespace Go.Proofs.YtpihipbeagpgpaaGreatDoor
open Go.RowKit
set_option linter.unusedVariables false
variable {w u : World} {base R L C most : Nat} {a : Option Addr} {s : Rs} {vO vT : Value} {B : List Nat}
end Go.Proofs.YtpihipbeagpgpaaGreatDoor

/-
 The document's New within a run, and what its Of comes to, told by the machine's steps; of dynamic blocks by a contract that is handed in.
-/
namespace Go.Proofs.YtpihipbeagpgpaaGreatDoor
open Go.RowKit
set_option linter.unusedVariables false
theorem iz_len (l : List Nat) : (iz l).length = l.length := by simp [iz]
theorem okl_iz {l : List Nat} : Okl (iz l) ↔ l.length ≤ 320 ∧ ∀ x ∈ l, x ≤ 15 := by
 unfold Okl
 rw [iz_len]
 constructor
 ·rintro ⟨h1, h2⟩
  exact ⟨h1, fun x hx => by have := h2 (x : Int) (List.mem_map.2 ⟨x, hx, rfl⟩); omega⟩
 ·rintro ⟨h1, h2⟩
  refine ⟨h1, fun z hz => ?_⟩
  obtain ⟨x, hx, rfl⟩ := List.mem_map.1 hz
  have := h2 x hx
  constructor
  ·show (0 : Int) ≤ (x : Int); omega
  ·show (x : Int) ≤ 15; omega
theorem mays_iff {l : List Nat} : mays l = true ↔ nerr (iz l) = 0 := by
 unfold mays nerr
 rw [lens_iz, decide_eq_true_iff]
 constructor
 ·rintro ⟨h1, h2, h3, h4⟩
  rw [if_neg (by rw [Decidable.not_not]; exact okl_iz.2 ⟨h1, h2⟩), if_neg (by omega), if_neg h4]
 ·intro h
  split at h
  ·omega
  ·rename_i h1
   split at h
   ·omega
   ·rename_i h2
    split at h
    ·omega
    ·rename_i h3
     have := okl_iz.1 (Decidable.not_not.1 h1)
     exact ⟨this.1, this.2, by omega, h3⟩
variable {w u : World} {base R L C most : Nat} {a : Option Addr} {s : Rs} {vO vT : Value} {B : List Nat}
theorem fixD_len : fixD.length = 32 := by simp [fixD]
theorem mays_fixL : mays fixL = true := by decide +kernel
theorem mays_fixD : mays fixD = true := by decide +kernel
end Go.Proofs.YtpihipbeagpgpaaGreatDoor

/-
 What is done beside a run that once stood whole: the run's own memory stays, and so does what is done.
-/
namespace Go.Proofs.YtpihipbeagpgpaaGreatDoor
open Go.RowKit
set_option linter.unusedVariables false
variable {w1 w u : World} {base R L C most : Nat} {a : Option Addr} {s : Rs} {vO vT : Value} {B : List Nat}
end Go.Proofs.YtpihipbeagpgpaaGreatDoor

/-
 What repeated comes to behind a symbol of the lengths' code, told by the machine's steps; New within a run, whichever way it goes.
-/
namespace Go.Proofs.YtpihipbeagpgpaaGreatDoor
open Go.RowKit
set_option linter.unusedVariables false
variable {w1 w u : World} {base R L C most : Nat} {a : Option Addr} {s : Rs} {vO vT : Value} {B : List Nat}
end Go.Proofs.YtpihipbeagpgpaaGreatDoor

/-
 What the document's dynamic comes to, told by the machine's steps.
-/
namespace Go.Proofs.YtpihipbeagpgpaaGreatDoor
open Go.RowKit
set_option linter.unusedVariables false
variable {w1 w u : World} {base R L C most : Nat} {a : Option Addr} {s : Rs} {vO vT : Value} {B : List Nat}
end Go.Proofs.YtpihipbeagpgpaaGreatDoor

/-
 The machine looks at no bit before its time: a step asks for the bits up to its end, no more. No walk in this text.
-/
namespace Go.Proofs.YtpihipbeagpgpaaGreatDoor
set_option linter.unusedVariables false
def Agree (bs cs : List Bool) (p : Nat) : Prop := p ≤ bs.length ∧ p ≤ cs.length ∧ bs.take p = cs.take p
variable {bs cs : List Bool} {most : Nat}
theorem Agree.less {p q : Nat} (h : Agree bs cs q) (hp : p ≤ q) : Agree bs cs p := by
 refine ⟨Nat.le_trans hp h.1, Nat.le_trans hp h.2.1, ?_⟩
 have : (bs.take q).take p = (cs.take q).take p := by rw [h.2.2]
 rwa [List.take_take, List.take_take, Nat.min_eq_left hp] at this
theorem Agree.seg {p n : Nat} (h : Agree bs cs (p + n)) : (bs.drop p).take n = (cs.drop p).take n := by
 have : (bs.take (p + n)).drop p = (cs.take (p + n)).drop p := by rw [h.2.2]
 rwa [List.drop_take, List.drop_take, Nat.add_sub_cancel_left] at this
theorem Agree.symm {p : Nat} (h : Agree bs cs p) : Agree cs bs p := ⟨h.2.1, h.1, h.2.2.symm⟩
theorem Agree.append (bs t : List Bool) {p : Nat} (h : p ≤ bs.length) : Agree bs (bs ++ t) p := ⟨h, by rw [List.length_append]; omega, by rw [List.take_append_of_le_length h]⟩
theorem num_agree {p n v : Nat} (h : num? bs p n = some v) (k : Agree bs cs (p + n)) : num? cs p n = some v := by
 unfold num? at *
 rw [if_pos k.1] at h
 rw [if_pos k.2.1, ← k.seg]
 exact h
theorem map_agree {p n : Nat} {f : Nat → Cfg} {d : Cfg} (h : (num? bs p n).map f = some d) (hf : ∀ v, (f v).pos = p + n) (k : Agree bs cs d.pos) : (num? cs p n).map f = some d := by
 rw [Option.map_eq_some_iff] at *
 obtain ⟨v, hv, rfl⟩ := h
 rw [hf] at k
 exact ⟨v, num_agree hv k, rfl⟩
theorem hit_agree {ls : List Nat} {h g : List Bool} {s n : Nat} (hh : Hit ls h s n) (hg : n ≤ g.length) (e : h.take n = g.take n) : Hit ls g s n := ⟨hh.1, hh.2.1, hg, by rw [← e]; exact hh.2.2.2⟩
theorem sread_got_agree {ls : List Nat} {p s n : Nat} (h : sread ls (bs.drop p) = .got s n) (k : Agree bs cs (p + n)) : sread ls (cs.drop p) = .got s n := by
 have hh := sread_le (ls := ls) (h := bs.drop p)
 rw [h] at hh
 exact sread_got (hit_agree hh (by rw [List.length_drop]; have := k.2.1; omega) k.seg)
theorem sread_bad_facts {ls : List Nat} {h : List Bool} {j : Nat} (e : sread ls h = .bad j) : j ≤ h.length ∧ (∀ s n, ¬ Hit ls (h.take j) s n) ∧ ¬ May ls (h.take j) ∧ ∀ k, k < j → May ls (h.take k) := by
 unfold sread at e
 cases e1 : (List.range ls.length).find? (hitb ls h) with
 | some x => rw [e1] at e; cases e
 | none =>
  rw [e1] at e
  cases e2 : (List.range (h.length + 1)).find? (fun j => !mayb ls (h.take j)) with
  | none => rw [e2] at e; cases e
  | some i =>
   rw [e2] at e
   have hij : i = j := by simpa using e
   subst hij
   have hi := List.mem_range.1 (List.mem_of_find?_eq_some e2)
   have hno : ∀ s n, ¬ Hit ls h s n := fun s n hh => by
    have := List.find?_eq_none.1 e1 s (List.mem_range.2 (List.getElem?_eq_some_iff.1 hh.1).1)
    exact this (hitb_iff.2 ⟨n, hh⟩)
   refine ⟨by omega, fun s n hh => ?_, ?_, fun k hk => ?_⟩
   ·have hn : n ≤ i := by have := hh.2.2.1; rw [List.length_take] at this; omega
    exact hno s n ⟨hh.1, hh.2.1, by omega, by have := hh.2.2.2; rwa [List.take_take, Nat.min_eq_left hn] at this⟩
   ·intro hm
    have := List.find?_some e2
    rw [mayb_iff.2 hm] at this
    cases this
   ·apply mayb_iff.1
    obtain ⟨_, xs, ys, happ, has⟩ := List.find?_eq_some_iff_append.1 e2
    have hk2 : k ∈ xs := by
     have hlen : xs.length = i := by
      have h5 : (List.range (h.length + 1))[xs.length]? = some i := by rw [happ]; simp
      rw [List.getElem?_eq_some_iff] at h5
      obtain ⟨q1, q2⟩ := h5
      simpa using q2
     have h6 : (List.range (h.length + 1))[k]? = some k := by rw [List.getElem?_range (by omega)]
     rw [happ, List.getElem?_append_left (by omega)] at h6
     exact List.mem_of_getElem? h6
    have := has k hk2
    simpa using this
theorem sread_bad_agree {ls : List Nat} {p j : Nat} (h : sread ls (bs.drop p) = .bad j) (k : Agree bs cs (p + j)) : sread ls (cs.drop p) = .bad j := by
 obtain ⟨h1, h2, h3, h4⟩ := sread_bad_facts h
 have e := k.seg
 refine sread_bad (by rw [List.length_drop]; have := k.2.1; omega) (by rw [← e]; exact h2) (by rw [← e]; exact h3) (fun i hi => ?_)
 have e2 : (cs.drop p).take i = (bs.drop p).take i := ((k.less (by omega : p + i ≤ p + j)).seg).symm
 rw [e2]
 exact h4 i hi
theorem step_agree {c d : Cfg} (h : step bs most c = some d) (k : Agree bs cs d.pos) : step cs most c = some d := by
 obtain ⟨st, pos, out, times⟩ := c
 unfold step at *
 cases st using St.el with
 | head last =>
  cases last with
  | true => exact h
  | false => exact map_agree h (fun _ => rfl) k
 | slen last => exact map_agree h (fun _ => rfl) k
 | snot last l => exact map_agree h (fun _ => rfl) k
 | sraw last n =>
  cases n with
  | zero => exact h
  | succ n => exact map_agree h (fun _ => give_pos) k
 | dnum last => exact map_agree h (fun _ => rfl) k
 | dfst last a b i j first =>
  simp only [] at *
  split at h
  ·rename_i hlt; rw [if_pos hlt]; exact map_agree h (fun _ => rfl) k
  ·rename_i hlt; rw [if_neg hlt]; exact h
 | dsym last a b code l =>
  simp only [] at *
  split at h
  ·rename_i hlt
   rw [if_pos hlt]
   cases e : sread code (bs.drop pos) using SR.el with
   | cut => rw [e] at h; cases h
   | bad j => rw [e] at h; simp only [Option.some.injEq] at h; subst h; rw [sread_bad_agree e k]
   | got s n => rw [e] at h; simp only [Option.some.injEq] at h; subst h; rw [sread_got_agree e k]
  ·rename_i hlt; rw [if_neg hlt]; exact h
 | drep last a b code l s => exact map_agree h (fun _ => rfl) k
 | sym last lit di =>
  simp only [] at *
  cases e : sread lit (bs.drop pos) using SR.el with
  | cut => rw [e] at h; cases h
  | bad j => rw [e] at h; simp only [Option.some.injEq] at h; subst h; rw [sread_bad_agree e k]
  | got s n =>
   rw [e] at h
   simp only [] at h
   split at h
   ·rename_i hlt
    simp only [Option.some.injEq] at h
    subst h
    rw [give_pos] at k
    rw [sread_got_agree e k]
    simp only [if_pos hlt]
   ·rename_i hlt
    simp only [Option.some.injEq] at h
    subst h
    rw [sread_got_agree e k]
    simp only [if_neg hlt]
 | lext last lit di s => exact map_agree h (fun _ => rfl) k
 | dist last lit di n =>
  simp only [] at *
  cases e : sread di (bs.drop pos) using SR.el with
  | cut => rw [e] at h; cases h
  | bad j => rw [e] at h; simp only [Option.some.injEq] at h; subst h; rw [sread_bad_agree e k]
  | got s n => rw [e] at h; simp only [Option.some.injEq] at h; subst h; rw [sread_got_agree e k]
 | dext last lit di n x => exact map_agree h (fun _ => rfl) k
 | copy last lit di n d => cases n <;> exact h
 | done => cases h
 | bad y => cases h
theorem runs_agree {c d : Cfg} (h : Runs bs most c d) (k : Agree bs cs d.pos) : Runs cs most c d := by
 induction h using Runs.el with
 | refl => exact Runs.refl _
 | cons h1 r ih => exact Runs.cons (step_agree h1 (k.less r.pos)) (ih k)
end Go.Proofs.YtpihipbeagpgpaaGreatDoor

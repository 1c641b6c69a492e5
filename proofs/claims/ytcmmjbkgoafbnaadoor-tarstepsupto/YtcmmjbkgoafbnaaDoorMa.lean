/-
  Own texts of this seat, one behind the other: what each says stands ahead of it.
-/
import Derived.WalkKit
import Derived.WalkSmall
import Derived.Below
import Derived.Deep.Draws
import Derived.Test.YtcmmjbkgoafbnaaDoorChecked
import Derived.Laws.IdiomStrings
import Derived.Deep.LoopGhost
import Derived.BigQuiet
import Derived.OwnWalk
import Derived.Laws.AppendOwn
import Derived.Laws.AppendOwnNone
import Derived.Deep.AppendLies
import Derived.Lib.SliceRun
import Derived.Lib.AppendStr
/-
  A block of cells that is known whole, and a world in which one block alone has turned: small laws, over any program.
-/
namespace Go.Proofs.YtcmmjbkgoafbnaaDoor
open Go.RowKit

/-- Block b holds just these cells, none frozen. -/
def Cells (w : World) (b : Nat) (cs : Array Value) (t : TypeId) : Prop := w.heap[b]? = some (.cells cs t)

/-- Of all blocks b alone may have turned; none has come. -/
structure Only (b : Nat) (w w' : World) : Prop where
  os : w'.os = w.os
  tape : w'.tape = w.tape
  output : w'.output = w.output
  size : w'.heap.size = w.heap.size
  block : ∀ k, k ≠ b → w'.heap[k]? = w.heap[k]?

theorem Only.refl (b : Nat) (w : World) : Only b w w := ⟨rfl, rfl, rfl, rfl, fun _ _ => rfl⟩
theorem Only.trans {b : Nat} {w u v : World} (h : Only b w u) (k : Only b u v) : Only b w v :=
  ⟨k.os.trans h.os, k.tape.trans h.tape, k.output.trans h.output, k.size.trans h.size, fun i hi => (k.block i hi).trans (h.block i hi)⟩
theorem Only.drewN {b : Nat} {w u : World} (h : Only b w u) (n : Nat) : Only b w (u.drewN n) := ⟨h.os, h.tape, h.output, h.size, h.block⟩
theorem Only.drew {b : Nat} {w u : World} (h : Only b w u) : Only b w u.drew := ⟨h.os, h.tape, h.output, h.size, h.block⟩
theorem Only.setCell {b : Nat} {w u : World} (h : Only b w u) (i : Nat) (v : Value) : Only b w (u.setCell ⟨b, i, none⟩ v) :=
  h.trans ⟨rfl, rfl, rfl, by simp [World.setCell], fun k hk => Below.heap_setCell _ _ _ _ hk⟩
theorem Only.cell {b : Nat} {w u : World} (h : Only b w u) {p : Addr} (hp : p.block ≠ b) : u.cell? p = w.cell? p := World.cell?_of_block (w := w) (h.block p.block hp)
theorem Only.below {b B : Nat} {w u : World} (h : Only b w u) (hB : B ≤ b) : Below B w u :=
  ⟨h.os, h.tape, h.output, Nat.le_of_eq h.size.symm, fun k hk => h.block k (by omega)⟩

theorem Cells.cell {w : World} {b : Nat} {cs : Array Value} {t : TypeId} (h : Cells w b cs t) (i : Nat) : w.cell? ⟨b, i, none⟩ = cs[i]? := by
  unfold Cells at h
  simp [World.cell?, h]
theorem Cells.frozen {w : World} {b : Nat} {cs : Array Value} {t : TypeId} (h : Cells w b cs t) (i : Nat) : w.frozen? ⟨b, i, none⟩ = false := by
  unfold Cells at h
  simp [World.frozen?, h]
theorem Cells.set {w : World} {b : Nat} {cs : Array Value} {t : TypeId} (h : Cells w b cs t) (i : Nat) (v : Value) : Cells (w.setCell ⟨b, i, none⟩ v) b (cs.setIfInBounds i v) t := by
  unfold Cells at *
  simp [World.setCell, Array.getElem?_modify, h]
theorem Cells.drewN {w : World} {b : Nat} {cs : Array Value} {t : TypeId} (h : Cells w b cs t) (n : Nat) : Cells (w.drewN n) b cs t := h
theorem Cells.drew {w : World} {b : Nat} {cs : Array Value} {t : TypeId} (h : Cells w b cs t) : Cells w.drew b cs t := h
theorem Cells.only {w u : World} {b c : Nat} {cs : Array Value} {t : TypeId} (h : Cells w b cs t) (k : Only c w u) (hb : b ≠ c) : Cells u b cs t := by
  unfold Cells at *
  rw [k.block b hb]; exact h
theorem Cells.below {w u : World} {b B : Nat} {cs : Array Value} {t : TypeId} (h : Cells w b cs t) (k : Below B w u) (hb : b < B) : Cells u b cs t := by
  unfold Cells at *
  rw [k.block b hb]; exact h
theorem Cells.lt {w : World} {b : Nat} {cs : Array Value} {t : TypeId} (h : Cells w b cs t) : b < w.heap.size := by
  unfold Cells at h
  exact (Array.getElem?_eq_some_iff.1 h).1
theorem Cells.new (w : World) (cs : Array Value) (t : TypeId) : Cells (w.alloc (.cells cs t)) w.heap.size cs t := by
  show (w.heap.push _)[_]? = _
  simp
theorem Cells.alloc {w : World} {b : Nat} {cs : Array Value} {t : TypeId} (h : Cells w b cs t) (o : Obj) : Cells (w.alloc o) b cs t := by
  have := h.lt
  unfold Cells at *
  rw [Below.heap_alloc w o b this]; exact h
/-- Of the blocks that were there M alone may have turned; others may have come. -/
structure But (M : Nat) (w w' : World) : Prop where
  os : w'.os = w.os
  tape : w'.tape = w.tape
  output : w'.output = w.output
  size : w.heap.size ≤ w'.heap.size
  block : ∀ k, k < w.heap.size → k ≠ M → w'.heap[k]? = w.heap[k]?
theorem But.refl (M : Nat) (w : World) : But M w w := ⟨rfl, rfl, rfl, Nat.le_refl _, fun _ _ _ => rfl⟩
theorem But.trans {M : Nat} {w u v : World} (h : But M w u) (k : But M u v) : But M w v :=
  ⟨k.os.trans h.os, k.tape.trans h.tape, k.output.trans h.output, Nat.le_trans h.size k.size, fun i hi hm => (k.block i (Nat.lt_of_lt_of_le hi h.size) hm).trans (h.block i hi hm)⟩
theorem But.of_below {M : Nat} {w u : World} (h : Below w.heap.size w u) : But M w u := ⟨h.1, h.2, h.3, h.size, fun k hk _ => h.block k hk⟩
theorem But.of_only {M : Nat} {w u : World} (h : Only M w u) : But M w u := ⟨h.os, h.tape, h.output, Nat.le_of_eq h.size.symm, fun k _ hm => h.block k hm⟩
theorem But.below {M B : Nat} {w u : World} (h : But M w u) (hM : B ≤ M) (hB : B ≤ w.heap.size) : Below B w u :=
  ⟨h.os, h.tape, h.output, h.size, fun k hk => h.block k (by omega) (by omega)⟩
theorem But.cells {M b : Nat} {w u : World} {cs : Array Value} {t : TypeId} (h : But M w u) (k : Cells w b cs t) (hb : b ≠ M) : Cells u b cs t := by
  have := k.lt
  unfold Cells at *
  rw [h.block b this hb]; exact k
end Go.Proofs.YtcmmjbkgoafbnaaDoor

/-
  Numbers in fields as the chapter says them: octal digits, bytes, what both read, and that a number that is written is read: no walk in it.
-/
namespace Go.Proofs.YtcmmjbkgoafbnaaDoor
/-- A byte that may stand behind digits. -/
def pad (x : Nat) : Bool := x == 0 || x == 32
def pads (l : List Nat) : Bool := l.all pad
/-- The field behind its blanks. -/
def skip : List Nat → List Nat
  | [] => []
  | x :: r => if x = 32 then skip r else x :: r
/-- Digits behind a number, then the padding. -/
def digs : Nat → List Nat → Option Nat
  | v, [] => some v
  | v, x :: r => if pad x = true then (if pads r = true then some v else none) else if x < 48 ∨ 55 < x then none else if 1152921504606846976 ≤ v then none else digs (8 * v + (x - 48)) r
def oct (l : List Nat) : Option Nat := digs 0 (skip l)
/-- Bytes behind a number. -/
def bins : Nat → List Nat → Option Nat
  | v, [] => some v
  | v, x :: r => if 36028797018963968 ≤ v then none else bins (256 * v + x) r
def bin : List Nat → Option Nat
  | [] => none
  | x :: r => if 128 ≤ x ∧ x < 192 then bins (x - 128) r else none
def marked : List Nat → Bool
  | [] => false
  | x :: _ => decide (128 ≤ x)
def fld (l : List Nat) : Option Nat := if marked l = true then bin l else oct l
theorem digs_lt : ∀ (l : List Nat) (v u : Nat), v < 9223372036854775808 → digs v l = some u → u < 9223372036854775808
  | [], v, u, hv, h => by
    have : v = u := by simpa [digs] using h
    omega
  | x :: r, v, u, hv, h => by
    rw [digs] at h
    split at h
    · split at h
      · have : v = u := by simpa using h
        omega
      · cases h
    · split at h
      · cases h
      · split at h
        · cases h
        · exact digs_lt r _ u (by omega) h
theorem oct_lt {l : List Nat} {u : Nat} (h : oct l = some u) : u < 9223372036854775808 := digs_lt _ 0 u (by decide) h
theorem skip_len : ∀ l : List Nat, (skip l).length ≤ l.length
  | [] => by simp [skip]
  | x :: r => by
    rw [skip]; split
    · have := skip_len r; simp; omega
    · simp
theorem skip_mem : ∀ (l : List Nat) (x : Nat), x ∈ skip l → x ∈ l
  | [], x, h => by simp [skip] at h
  | y :: r, x, h => by
    rw [skip] at h; split at h
    · exact List.mem_cons_of_mem _ (skip_mem r x h)
    · exact h
/-- k digits of v to a base, the highest first. -/
def hi (b o v : Nat) : Nat → List Nat
  | 0 => []
  | k + 1 => (o + v / b ^ k % b) :: hi b o v k
theorem hi_length (b o v k : Nat) : (hi b o v k).length = k := by
  induction k with
  | zero => rfl
  | succ k ih => rw [hi, List.length_cons, ih]
theorem hi_mem {b o v k x : Nat} (hb : 0 < b) (h : x ∈ hi b o v k) : x < o + b := by
  induction k with
  | zero => cases h
  | succ k ih =>
    rw [hi] at h
    rcases List.mem_cons.1 h with rfl | h
    · have := Nat.mod_lt (v / b ^ k) hb; omega
    · exact ih h
theorem down (b v k : Nat) : v / b ^ (k + 1) = v / b ^ k / b := by rw [Nat.pow_succ, Nat.div_div_eq_div_mul]
/-- Digits that were written are read. -/
theorem digs_hi (v : Nat) (hv : v < 9223372036854775808) : ∀ k, digs (v / 8 ^ k) (hi 8 48 v k ++ [0]) = some v
  | 0 => by simp [hi, digs, pad, pads]
  | k + 1 => by
    have ih := digs_hi v hv k
    rw [hi, List.cons_append, digs]
    have hm := Nat.mod_lt (v / 8 ^ k) (show 0 < 8 by decide)
    have h8 : v / 8 ^ (k + 1) ≤ v / 8 := by
      rw [Nat.pow_succ, Nat.mul_comm, ← Nat.div_div_eq_div_mul]; exact Nat.div_le_self ..
    have hp : pad (48 + v / 8 ^ k % 8) = false := by simp [pad]; omega
    rw [if_neg (by rw [hp]; decide), if_neg (by omega), if_neg (by omega)]
    have e : 8 * (v / 8 ^ (k + 1)) + (48 + v / 8 ^ k % 8 - 48) = v / 8 ^ k := by rw [down]; omega
    rw [e]; exact ih
theorem bins_hi (v : Nat) (hv : v < 9223372036854775808) : ∀ k, bins (v / 256 ^ k) (hi 256 0 v k) = some v
  | 0 => by simp [hi, bins]
  | k + 1 => by
    have ih := bins_hi v hv k
    rw [hi, bins]
    have h8 : v / 256 ^ (k + 1) ≤ v / 256 := by
      rw [Nat.pow_succ, Nat.mul_comm, ← Nat.div_div_eq_div_mul]; exact Nat.div_le_self ..
    rw [if_neg (by omega)]
    have e : 256 * (v / 256 ^ (k + 1)) + (0 + v / 256 ^ k % 256) = v / 256 ^ k := by rw [down]; omega
    rw [e]; exact ih
/-- What Put writes. -/
def put (v : Nat) (n : Int) : Option (List Nat) :=
  if n < 2 ∨ 64 < n ∨ 9223372036854775808 ≤ v then none
  else if v / 8 ^ (n.toNat - 1) = 0 then some (hi 8 48 v (n.toNat - 1) ++ [0])
  else if v / 256 ^ (n.toNat - 1) = 0 then some (128 :: hi 256 0 v (n.toNat - 1))
  else none
theorem put_back {v : Nat} {n : Int} {l : List Nat} (h : put v n = some l) : fld l = some v ∧ l.length = n.toNat := by
  unfold put at h
  split at h
  · cases h
  · rename_i h1
    obtain ⟨k, hk⟩ : ∃ k, n.toNat - 1 = k + 1 := ⟨n.toNat - 2, by omega⟩
    split at h
    · rename_i h2
      have h : hi 8 48 v (n.toNat - 1) ++ [0] = l := by simpa using h
      have hd := digs_hi v (by omega) (n.toNat - 1)
      rw [h2] at hd
      rw [hk] at hd h
      have hm := Nat.mod_lt (v / 8 ^ k) (show 0 < 8 by decide)
      refine ⟨?_, by rw [← h, List.length_append, hi_length]; simp; omega⟩
      rw [← h]
      rw [hi, List.cons_append] at hd ⊢
      unfold fld
      have hmk : marked ((48 + v / 8 ^ k % 8) :: (hi 8 48 v k ++ [0])) = false := by simp [marked]; omega
      rw [if_neg (by rw [hmk]; decide)]
      unfold oct
      rw [skip, if_neg (by omega)]; exact hd
    · split at h
      · rename_i h2
        have h : 128 :: hi 256 0 v (n.toNat - 1) = l := by simpa using h
        have hd := bins_hi v (by omega) (n.toNat - 1)
        rw [h2] at hd
        refine ⟨?_, by rw [← h, List.length_cons, hi_length]; omega⟩
        rw [← h]
        simpa [fld, marked, bin] using hd
      · cases h
theorem pow_256 (k : Nat) : 256 ^ k = 2 ^ (8 * k) := by rw [Nat.pow_mul]
theorem pow_8 (k : Nat) : 8 ^ k = 2 ^ (3 * k) := by rw [Nat.pow_mul]
/-- A number has k digits at most just if it is less than the power. -/
theorem div_zero {v p : Nat} (hp : 0 < p) : v / p = 0 ↔ v < p := by
  constructor
  · intro h
    rcases Nat.div_eq_zero_iff.1 h with h | h
    · omega
    · exact h
  · exact Nat.div_eq_of_lt
/-- What fits a field fits a wider one. -/
theorem put_wider {v : Nat} {n : Int} (h : (put v n).isSome = true) (hn : n < 64) : (put v (n + 1)).isSome = true := by
  unfold put at h ⊢
  split at h
  · cases h
  · rename_i h1
    have e : (n + 1).toNat - 1 = n.toNat - 1 + 1 := by omega
    rw [if_neg (by omega), e]
    split at h
    · rename_i h2
      rw [if_pos (by rw [down, h2])]; rfl
    · split at h
      · rename_i h2
        split
        · rfl
        · rw [if_pos (by rw [down, h2])]; rfl
      · cases h
/-- What does not fit is too great, or the width is none. -/
theorem put_none {v : Nat} {n : Int} (h : put v n = none) (h1 : v < 9223372036854775808) (h2 : 2 ≤ n) (h3 : n ≤ 64) : n ≤ 8 ∧ 256 ^ (n.toNat - 1) ≤ v := by
  unfold put at h
  rw [if_neg (by omega)] at h
  split at h
  · cases h
  · split at h
    · cases h
    · rename_i h4
      rw [div_zero (Nat.pow_pos (by decide))] at h4
      refine ⟨?_, by omega⟩
      apply Decidable.byContradiction
      intro h5
      have : 256 ^ 8 ≤ 256 ^ (n.toNat - 1) := Nat.pow_le_pow_right (by decide) (by omega)
      omega
end Go.Proofs.YtcmmjbkgoafbnaaDoor

/-
  The two sums of a block, its sum field, noughts: what they are. No walk.
-/
namespace Go.Proofs.YtcmmjbkgoafbnaaDoor
/-- Bytes alone. -/
def Oct (l : List Nat) : Prop := ∀ x ∈ l, x < 256
theorem Oct.drop {l : List Nat} (h : Oct l) (k : Nat) : Oct (l.drop k) := fun x hx => h x (List.mem_of_mem_drop hx)
theorem Oct.take {l : List Nat} (h : Oct l) (k : Nat) : Oct (l.take k) := fun x hx => h x (List.mem_of_mem_take hx)
/-- The byte at place i as it counts. -/
def val (l : List Nat) (i : Nat) : Nat := if 148 ≤ i ∧ i < 156 then 32 else l.getD i 0
/-- A byte as a number that may be below 0. -/
def sg (x : Nat) : Int := if 128 ≤ x then (x : Int) - 256 else x
def pl (l : List Nat) : Nat → Int
  | 0 => 0
  | k + 1 => pl l k + (val l k : Int)
def sn (l : List Nat) : Nat → Int
  | 0 => 0
  | k + 1 => sn l k + sg (val l k)
/-- The sum field. -/
def sumfield (l : List Nat) : List Nat := (l.drop 148).take 8
def rgt (l : List Nat) : Bool := match oct (sumfield l) with
  | none => false
  | some v => decide ((v : Int) = pl l 512) || decide ((v : Int) = sn l 512)
/-- A block of noughts alone. -/
def noughts (l : List Nat) : Bool := l.all fun x => x == 0
end Go.Proofs.YtcmmjbkgoafbnaaDoor

/-
  Strings as lists of bytes. No walk.
-/
namespace Go.Proofs.YtcmmjbkgoafbnaaDoor
set_option linter.unusedVariables false
theorem Oct.nil : Oct [] := by simp [Oct]
theorem Oct.append {l m : List Nat} (h : Oct l) (k : Oct m) : Oct (l ++ m) := by
  intro x hx
  rcases List.mem_append.1 hx with e | e
  · exact h x e
  · exact k x e
theorem Oct.left {l m : List Nat} (h : Oct (l ++ m)) : Oct l := fun x hx => h x (List.mem_append.2 (Or.inl hx))
theorem Oct.right {l m : List Nat} (h : Oct (l ++ m)) : Oct m := fun x hx => h x (List.mem_append.2 (Or.inr hx))
/-- A string's bytes; bytes as a string. -/
def bl (s : ByteArray) : List Nat := s.data.toList.map UInt8.toNat
def st (l : List Nat) : ByteArray := ⟨(l.map UInt8.ofNat).toArray⟩
theorem bl_length (s : ByteArray) : (bl s).length = s.size := by simp [bl]
theorem st_size (l : List Nat) : (st l).size = l.length := by show (List.toArray _).size = _; simp
theorem st_bl (s : ByteArray) : st (bl s) = s := by
  cases s with
  | mk d => simp [st, bl, Function.comp_def]
theorem bl_st {l : List Nat} (h : Oct l) : bl (st l) = l := by
  simp only [bl, st]
  rw [List.map_map]
  conv => rhs; rw [← List.map_id l]
  refine List.map_congr_left fun x hx => ?_
  have := h x hx
  simp; omega
theorem bl_oct (s : ByteArray) : Oct (bl s) := by
  intro x hx
  obtain ⟨y, _, rfl⟩ := List.mem_map.1 hx
  exact y.toNat_lt
theorem bl_get {s : ByteArray} {k : Nat} (h : k < s.size) : (bl s)[k]? = some (s[k]'h).toNat := by
  have h' : k < s.data.size := h
  unfold bl
  rw [List.getElem?_map, Array.getElem?_toList, Array.getElem?_eq_getElem h']
  rfl
theorem st_get {l : List Nat} {k x : Nat} (ho : Oct l) (hx : l[k]? = some x) (h : k < (st l).size) : ((st l)[k]'h).toNat = x := by
  have e := bl_get h
  rw [bl_st ho, hx] at e
  injection e with e
  exact e.symm
theorem bl_extract (s : ByteArray) (a b : Nat) : bl (s.extract a b) = ((bl s).take b).drop a := by
  simp [bl, ByteArray.data_extract, List.map_drop, List.map_take, List.drop_take]
theorem st_extract (l : List Nat) (a b : Nat) : (st l).extract a b = st ((l.take b).drop a) := by
  rw [ByteArray.ext_iff]
  simp [st, ByteArray.data_extract, List.drop_take]
theorem st_append (l m : List Nat) : st l ++ st m = st (l ++ m) := by
  rw [ByteArray.ext_iff]
  simp [st, ByteArray.data_append]
theorem st_inj {l m : List Nat} (hl : Oct l) (hm : Oct m) (h : st l = st m) : l = m := by rw [← bl_st hl, h, bl_st hm]
theorem st_beq {l m : List Nat} (hl : Oct l) (hm : Oct m) : ((st l).toList == (st m).toList) = decide (l = m) := by
  rw [ByteArray.toList_eq, ByteArray.toList_eq, Bool.eq_iff_iff, beq_iff_eq, decide_eq_true_iff]
  refine ⟨fun e => st_inj hl hm ?_, fun e => by rw [e]⟩
  rw [ByteArray.ext_iff]
  exact Array.toList_inj.1 e
theorem Oct.cons {x : Nat} {l : List Nat} (hx : x < 256) (h : Oct l) : Oct (x :: l) := by
  intro y hy
  rcases List.mem_cons.1 hy with e | e
  · omega
  · exact h y e
theorem Oct.suf {l m : List Nat} (h : Oct l) (k : m <:+ l) : Oct m := fun x hx => h x (k.subset hx)
end Go.Proofs.YtcmmjbkgoafbnaaDoor

/-
  Lists of a call's own, of cells of any type and width; append, clear, and what is kept by them.
-/
namespace Go.Proofs.YtcmmjbkgoafbnaaDoor
open Go.RowKit
set_option linter.unusedVariables false
theorem addr_add (b o j : Nat) : (⟨b, o, none⟩ : Addr).add j = ⟨b, o + j, none⟩ := by unfold Addr.add; split <;> simp_all
def Lies (w : World) (a : Option Addr) (l : List Nat) : Prop := l = [] ∨ ∃ (b o : Nat), a = some ⟨b, o, none⟩ ∧ ∀ (i x : Nat), l[i]? = some x → w.cell? ⟨b, o + i, none⟩ = some (.int .u8 (x : Int))
theorem Lies.below {w u : World} {a : Option Addr} {l : List Nat} (h : Lies w a l) (k : Below w.heap.size w u) : Lies u a l := by
  rcases h with h | ⟨b, o, ha, hc⟩
  · exact Or.inl h
  · exact Or.inr ⟨b, o, ha, fun i x hx => (k.cell (p := ⟨b, o + i, none⟩) (World.block_lt_of_cell? w ⟨b, o + i, none⟩ (hc i x hx))).trans (hc i x hx)⟩
theorem Lies.drewN {w : World} {a : Option Addr} {l : List Nat} (h : Lies w a l) (n : Nat) : Lies (w.drewN n) a l := h
/-- A list of the call's own, n elements of sz cells, in a block from lo on, of cells of type e. -/
structure Ow (w : World) (lo : Nat) (e : TypeId) (sz : Nat) (v : Value) (n : Nat) (xs : List Value) : Prop where
  own : w.ownsRow lo e sz v n xs
  le : lo ≤ w.heap.size
theorem Ow.nil {w : World} {lo sz : Nat} {e : TypeId} (h : lo ≤ w.heap.size) : Ow w lo e sz (.slice none 0 0) 0 [] := ⟨⟨by simp, Or.inl ⟨rfl, rfl⟩⟩, h⟩
section
variable {w u : World} {lo sz n : Nat} {e : TypeId} {v : Value} {l : List Value}
theorem Ow.keep (h : Ow w lo e sz v n l) (hs : w.heap.size ≤ u.heap.size) (k : ∀ g, lo ≤ g → g < w.heap.size → (∃ cs fr, w.heap[g]? = some (.cells cs e fr)) → u.heap[g]? = w.heap[g]?) : Ow u lo e sz v n l := by
  refine ⟨⟨h.own.1, ?_⟩, Nat.le_trans h.le hs⟩
  rcases h.own.2 with q | ⟨g, c, cur, hv, hg, hh, q⟩
  · exact Or.inl q
  · have hlt : g < w.heap.size := (Array.getElem?_eq_some_iff.1 hh).1
    exact Or.inr ⟨g, c, cur, hv, hg, (k g hg hlt ⟨_, _, hh⟩).trans hh, q⟩
theorem Ow.below {C : Nat} (h : Ow w lo e sz v n l) (k : Below C w u) (hC : w.heap.size ≤ C) : Ow u lo e sz v n l := h.keep k.size fun g h1 h2 _ => k.block g (by omega)
theorem Ow.drewN (h : Ow w lo e sz v n l) (m : Nat) : Ow (w.drewN m) lo e sz v n l := ⟨h.own, h.le⟩
theorem Ow.drew (h : Ow w lo e sz v n l) : Ow w.drew lo e sz v n l := ⟨h.own, h.le⟩
theorem Ow.set {b i : Nat} {x : Value} {cs : Array Value} {t : TypeId} (h : Ow w lo e sz v n l) (hb : Cells w b cs t) (ht : t ≠ e) : Ow (w.setCell ⟨b, i, none⟩ x) lo e sz v n l :=
  h.keep (by simp [World.setCell]) fun g h1 h2 ⟨cs', fr, hx⟩ => Below.heap_setCell _ _ _ _ (fun hg => by
    subst hg
    unfold Cells at hb
    rw [hb] at hx
    cases hx
    exact ht rfl)
theorem Ow.lt_block (h : Ow w lo e sz v n l) {g : Nat} (hg : v.ownBlock = some g) : lo ≤ g ∧ g < w.heap.size := h.own.lt g hg
theorem Ow.shape (h : Ow w lo e sz v n l) : ∃ a c, v = .slice a n c ∧ n ≤ c ∧ (n = 0 ∨ ∃ g, a = some ⟨g, 0, none⟩ ∧ lo ≤ g ∧ (∃ cs, w.heap[g]? = some (.cells cs e (0, 0))) ∧ (∀ i x, l[i]? = some x → w.cell? ⟨g, i, none⟩ = some x) ∧ ∀ i, w.frozen? ⟨g, i, none⟩ = false) ∧ (a = none → n = 0 ∧ c = 0) := by
  rcases h.own.2 with ⟨hv, h0⟩ | ⟨g, c, cur, hv, hg, hh, hc, hm, hs, ht⟩
  · refine ⟨none, 0, by rw [hv, h0], by omega, Or.inl h0, fun _ => ⟨h0, rfl⟩⟩
  · refine ⟨_, c, hv, hc, Or.inr ⟨g, rfl, hg, ⟨_, hh⟩, fun i x hx => ?_, fun i => Cells.frozen (cs := cur) (t := e) hh i⟩, fun h => by cases h⟩
    rw [Cells.cell (cs := cur) (t := e) hh]
    have hi : i < l.length := (List.getElem?_eq_some_iff.1 hx).1
    have e : (cur.toList.take (n * sz))[i]? = some x := by rw [ht, hx]
    rw [List.getElem?_take, if_pos (by have := h.own.1; omega)] at e
    simpa using e
end
/-- What an append comes to: the longer list, and that of all blocks that were there the list's own alone may have turned. -/
structure Got (lo : Nat) (e : TypeId) (sz : Nat) (w w' : World) (v v' : Value) (n : Nat) (xs : List Value) : Prop where
  ow : Ow w' lo e sz v' n xs
  bel : Below lo w w'
  kb : ∀ k, k < w.heap.size → some k ≠ v.ownBlock → w'.heap[k]? = w.heap[k]?
  kp : ∀ k, k < w.heap.size → w'.heap[k]? = w.heap[k]? ∨ (lo ≤ k ∧ ∃ cs, w.heap[k]? = some (.cells cs e (0, 0)))
theorem Got.size {lo sz n : Nat} {e : TypeId} {w w' : World} {v v' : Value} {xs : List Value} (h : Got lo e sz w w' v v' n xs) : w.heap.size ≤ w'.heap.size := h.bel.size
theorem Cells.got {lo sz n b : Nat} {e t : TypeId} {w w' : World} {v v' : Value} {xs : List Value} {cs : Array Value} (h : Cells w b cs t) (k : Got lo e sz w w' v v' n xs) (ht : t ≠ e) : Cells w' b cs t := by
  unfold Cells at *
  have hlt : b < w.heap.size := (Array.getElem?_eq_some_iff.1 h).1
  rcases k.kp b hlt with e1 | ⟨_, cs', e1⟩
  · rw [e1]; exact h
  · rw [h] at e1; cases e1; exact absurd rfl ht
theorem Ow.got {lo lo2 sz sz2 n n2 : Nat} {e t : TypeId} {w w' : World} {v v' v2 : Value} {xs ys : List Value} (h : Ow w lo2 t sz2 v2 n2 ys) (k : Got lo e sz w w' v v' n xs) (ht : t ≠ e) : Ow w' lo2 t sz2 v2 n2 ys :=
  h.keep k.size fun g h1 h2 ⟨cs, fr, hx⟩ => by
    rcases k.kp g h2 with e1 | ⟨_, cs', e1⟩
    · exact e1
    · rw [hx] at e1; cases e1; exact absurd rfl ht
theorem Got.mk' {lo sz n m : Nat} {e : TypeId} {w w' : World} {v v' : Value} {xs news : List Value} (hown : Ow w lo e sz v n xs) (h2 : w'.ownsRow lo e sz v' (n + m) (xs ++ news)) (h3 : w.grownBy w' v.ownBlock) : Got lo e sz w w' v v' (n + m) (xs ++ news) := by
  have hos : v.ownBlock = none ∨ ∃ g cur, v.ownBlock = some g ∧ lo ≤ g ∧ w.heap[g]? = some (.cells cur e (0, 0)) := by
    rcases hown.own.2 with ⟨rfl, h0⟩ | ⟨g, c, cur, rfl, hg, hh, _⟩
    · left; rfl
    · right; exact ⟨g, cur, rfl, hg, hh⟩
  have hb : Below lo w w' := (Below.refl lo w).grown h3 hown.le (fun k hk => by
    rcases hos with h5 | ⟨g, cur, h5, hg, _⟩
    · rw [h5] at hk; cases hk
    · rw [h5] at hk; cases hk; exact hg)
  refine ⟨⟨h2, Nat.le_trans hown.le h3.size⟩, hb, fun k hk e => h3.block k hk e, fun k hk => ?_⟩
  by_cases e : some k = v.ownBlock
  · rcases hos with h5 | ⟨g, cur, h5, hg, hh⟩
    · rw [h5] at e; cases e
    · rw [h5] at e
      cases e
      exact Or.inr ⟨hg, cur, hh⟩
  · exact Or.inl (h3.block k hk e)
section
variable (P : Program) (w : World) {o : Oper} {a : Act}
theorem wpList_ow {ops : Array Oper} {rest : List Oper} {Q : Exit → Act → World → Prop} (hgd : o.guard = none) (s x : Operand) (t : TypeId)
    (ho : o.op = .call { callee := .builtin .append, args := #[s, x], argTypes := #[t, t] }) (e : TypeId) (i : TypeInfo) (z : Value) (sz bytes : Nat) (ht : P.underlying t = some (.slice e)) (hi : P.info? e = some i) (hz0 : i.zero = some z) (hz1 : i.size = sz) (hz2 : i.bytes = bytes) (hz3 : z.cells.size = sz) (hsz : 0 < sz)
    (lo : Nat) (v : Value) (k : Nat) (l : List Value) (hs : a.eval s = v) (hown : Ow w lo e sz v k l)
    (ax : Option Addr) (m : List Value) (n c : Nat) (hnm : m.length = n * sz) (hx : a.eval x = .slice ax n c) (hz : ax = none → n = 0 ∧ c = 0) (hl : m = [] ∨ ∃ b o, ax = some ⟨b, o, none⟩ ∧ ∀ i u, m[i]? = some u → w.cell? ⟨b, o + i, none⟩ = some u) (h1 : ∀ u ∈ m, u.oneCell' = true) (h63 : k + n ≤ maxLen) (hlen : (k + n) * bytes ≤ 140737488355328)
    (h : ∀ v' w', Got lo e sz w w' v v' (k + n) (l ++ m) → wpList P ops Q rest (a.put o.dst v') w') : wpList P ops Q (o :: rest) a w := by
  cases ax with
  | none =>
    obtain ⟨h1, h2⟩ := hz rfl
    subst h1
    have hm : m = [] := List.eq_nil_of_length_eq_zero (by omega)
    subst hm
    subst h2
    refine wpList_append_own_none hgd s x t ho lo e i sz ht hi v _ _ hs hown.own hx (h v w ?_)
    rw [List.append_nil]
    exact ⟨hown, Below.refl _ _, fun _ _ _ => rfl, fun k _ => Or.inl rfl⟩
  | some ad =>
    refine wpList_append_own w hgd s x t ho lo e i z sz bytes ht hi hz0 hz1 hz2 hz3 hsz v _ _ hs hown.own ad n c m hx hnm ?_ h1 h63 hlen hown.le ?_
    · intro j u hj
      rcases hl with rfl | ⟨b, off, ha, hc⟩
      · simp at hj
      · cases ha
        rw [addr_add]
        exact hc j u hj
    · intro v' w' h2 h3 h4
      exact h v' w' (Got.mk' hown h2 h3)
/-- One element, at a step of a region that draws its order. -/
theorem step_ow {ops : Array Oper} {K : Act → World → Prop} {Q : Exit → Act → World → Prop} {E : Prop} (hgd : o.guard = none) (s x : Operand) (t : TypeId)
    (ho : o.op = .call { callee := .builtin .append, args := #[s, x], argTypes := #[t, t] }) (e : TypeId) (i : TypeInfo) (z : Value) (sz bytes : Nat) (ht : P.underlying t = some (.slice e)) (hi : P.info? e = some i) (hz0 : i.zero = some z) (hz1 : i.size = sz) (hz2 : i.bytes = bytes) (hz3 : z.cells.size = sz) (hsz : 0 < sz)
    (lo : Nat) (v : Value) (k : Nat) (l : List Value) (hs : a.eval s = v) (hown : Ow w lo e sz v k l)
    (b off c : Nat) (m : List Value) (hnm : m.length = sz) (hx : a.eval x = .slice (some ⟨b, off, none⟩) 1 c) (hl : ∀ i u, m[i]? = some u → w.cell? ⟨b, off + i, none⟩ = some u) (h1 : ∀ u ∈ m, u.oneCell' = true) (h63 : k + 1 ≤ maxLen) (hlen : (k + 1) * bytes ≤ 140737488355328)
    (h : ∀ g cap w', Got lo e sz w w' v (.slice (some ⟨g, 0, none⟩) (k + 1) cap) (k + 1) (l ++ m) → K (a.put o.dst (.slice (some ⟨g, 0, none⟩) (k + 1) cap)) w') :
    if Region.wanted o (yielded ops a.tmps) = true then Oper.wp P o a w K Q else E :=
  step_append_lies w hgd s x t ho lo e i z sz bytes ht hi hz0 hz1 hz2 hz3 hsz v _ _ hs hown.own ⟨b, off, none⟩ 1 c m hx (by omega) (fun j u hj => by rw [addr_add]; exact hl j u hj) h1 (by decide) h63 hlen hown.le _ rfl fun g cap w' h2 h3 _ _ => h g cap w' (Got.mk' hown h2 h3)
end
/-- Bytes as cells. -/
def ob (l : List Nat) : List Value := l.map fun x : Nat => Value.int .u8 (x : Int)
theorem ob_length (l : List Nat) : (ob l).length = l.length := by simp [ob]
theorem ob_get (l : List Nat) (j : Nat) : (ob l)[j]? = (l[j]?).map fun x : Nat => Value.int .u8 (x : Int) := by simp [ob]
theorem ob_append (l m : List Nat) : ob l ++ ob m = ob (l ++ m) := by simp [ob]
theorem ob_one {l : List Nat} : ∀ u ∈ ob l, u.oneCell' = true := by
  intro u hu
  obtain ⟨x, _, rfl⟩ := List.mem_map.1 hu
  rfl
theorem ginfo5 : (Tryd.prog.info? 5).map (fun i => (i.zero, i.size, i.bytes)) = some (some (.int .u8 0), 1, 1) := by kernel_rfl
theorem ginfo_parts {o : Option TypeInfo} {z : Value} {n b : Nat} (h : o.map (fun i => (i.zero, i.size, i.bytes)) = some (some z, n, b)) : ∃ i, o = some i ∧ i.zero = some z ∧ i.size = n ∧ i.bytes = b := by
  cases o with
  | none => simp at h
  | some i => simp at h; exact ⟨i, rfl, h⟩
theorem conv_st {w : World} {a : Option Addr} {l : List Nat} (L : Nat) (cap : Nat) (hL : l.length = L) (ho : Oct l) (h : Lies w a l) : (convert 22 9 (.slice a L cap)).run Tryd.prog w = .ok (.string (st l)) w := by
  subst hL
  rcases h with rfl | ⟨b, o, rfl, hc⟩
  · cases a with
    | none =>
      simp [convert, run_underlying Tryd.underlying22, run_underlying Tryd.underlying9, run_underlying Tryd.underlying5, st, Conv.bytesToString]
      rfl
    | some ad =>
      have := run_convert_bytes_back (P := Tryd.prog) w 22 9 5 ad cap [] Tryd.underlying22 Tryd.underlying5 Tryd.underlying9 (by simp)
      exact this
  · have := run_convert_bytes_back (P := Tryd.prog) w 22 9 5 ⟨b, o, none⟩ cap (l.map UInt8.ofNat) Tryd.underlying22 Tryd.underlying5 Tryd.underlying9 (fun j hj => by
      rw [addr_add]
      have hj' : j < l.length := by simpa using hj
      rw [hc j l[j] (List.getElem?_eq_getElem hj')]
      have := ho l[j] (List.getElem_mem hj')
      simp
      omega)
    rw [List.length_map] at this
    exact this
theorem Ow.lies {w : World} {lo n : Nat} {v : Value} {l : List Nat} (h : Ow w lo 5 1 v n (ob l)) : ∃ a c, v = .slice a n c ∧ l.length = n ∧ n ≤ c ∧ Lies w a l ∧ (a = none → n = 0 ∧ c = 0) := by
  obtain ⟨a, c, hv, hc, hq, hz⟩ := h.shape
  have hn : l.length = n := by have := h.own.1; rw [ob_length] at this; omega
  refine ⟨a, c, hv, hn, hc, ?_, hz⟩
  rcases hq with h0 | ⟨g, ha, hg, _, hx, _⟩
  · exact Or.inl (List.eq_nil_of_length_eq_zero (by omega))
  · refine Or.inr ⟨g, 0, ha, fun i x hi => ?_⟩
    rw [Nat.zero_add]
    exact hx i _ (by rw [ob_get, hi]; rfl)
theorem drop_more {l : List Nat} {k x : Nat} (hx : l[k]? = some x) : l.drop k = x :: l.drop (k + 1) := by
  obtain ⟨h1, h2⟩ := List.getElem?_eq_some_iff.1 hx
  rw [← h2]
  exact List.drop_eq_getElem_cons h1
theorem take_more {l : List Nat} {k x : Nat} (hx : l[k]? = some x) : l.take (k + 1) = l.take k ++ [x] := by rw [List.take_add_one, hx]; rfl
theorem Below.drewN2 {B : Nat} {w u : World} (h : Below B w u) (n : Nat) : Below B w (u.drewN n) := ⟨h.1, h.2, h.3, h.size, h.block⟩
end Go.Proofs.YtcmmjbkgoafbnaaDoor

/-
  A string's bytes behind an own list of bytes.
-/
namespace Go.Proofs.YtcmmjbkgoafbnaaDoor
open Go.RowKit
set_option linter.unusedVariables false
theorem strCells_st {m : List Nat} (hm : Oct m) : Lib.strCells (st m) = ob m := by
  unfold Lib.strCells ob
  have e : (st m).data.toList = m.map UInt8.ofNat := rfl
  rw [e, List.map_map]
  refine List.map_congr_left fun x hx => ?_
  have := hm x hx
  simp
  omega
theorem own_string (P : Program) (w : World) (t u ty : TypeId) (i : TypeInfo) (ht : P.underlying t = some (.slice 5)) (hu : P.underlying u = some .string) (hi : P.info? 5 = some i) (hz0 : i.zero = some (.int .u8 0)) (hz1 : i.size = 1) (hz2 : i.bytes = 1)
    (lo : Nat) (v : Value) (n : Nat) (l : List Nat) (hown : Ow w lo 5 1 v n (ob l)) (m : List Nat) (M : Nat) (s : ByteArray) (hs : s = st m) (hM : m.length = M) (hm : Oct m) (hlen : n + M ≤ 140737488355328) :
    ∃ va c w', (Builtin.append_ #[t, u] ty #[v, .string s]).run P w = .ok (.slice va (n + M) c) w' ∧ Got lo 5 1 w w' v (.slice va (n + M) c) (n + M) (ob (l ++ m)) := by
  subst hs
  subst hM
  obtain ⟨v', w', hr, h2, h3, h4⟩ := Lib.run_append_own_string (P := P) w lo t u ty 5 i ht hu hi hz0 hz1 hz2 v n _ hown.own (st m) (by rw [st_size]; unfold maxLen; omega) (by rw [st_size]; omega) hown.le
  rw [st_size, strCells_st hm] at h2
  have hg := Got.mk' hown h2 h3
  rw [ob_append] at hg
  obtain ⟨a', c', hv, _⟩ := hg.ow.shape
  subst hv
  exact ⟨a', c', w', hr, hg⟩
section
variable (P : Program) (w : World) {o : Oper} {a : Act}
theorem wpList_ows {ops : Array Oper} {rest : List Oper} {Q : Exit → Act → World → Prop} (hgd : o.guard = none) (s x : Operand) (t u : TypeId)
    (ho : o.op = .call { callee := .builtin .append, args := #[s, x], argTypes := #[t, u] }) (i : TypeInfo) (ht : P.underlying t = some (.slice 5)) (hu : P.underlying u = some .string) (hi : P.info? 5 = some i) (hz0 : i.zero = some (.int .u8 0)) (hz1 : i.size = 1) (hz2 : i.bytes = 1)
    (lo : Nat) (v : Value) (n : Nat) (l : List Nat) (hs : a.eval s = v) (hown : Ow w lo 5 1 v n (ob l)) (m : List Nat) (M : Nat) (S : ByteArray) (hS : S = st m) (hM : m.length = M) (hm : Oct m) (hx : a.eval x = .string S) (hlen : n + M ≤ 140737488355328)
    (h : ∀ va c w', Got lo 5 1 w w' v (.slice va (n + M) c) (n + M) (ob (l ++ m)) → wpList P ops Q rest (a.put o.dst (.slice va (n + M) c)) w') : wpList P ops Q (o :: rest) a w := by
  obtain ⟨va, c, w', hr, hg⟩ := own_string P w t u o.type i ht hu hi hz0 hz1 hz2 lo v n l hown m M S hS hM hm hlen
  refine wpList_plain hgd fun K hK => ?_
  unfold Oper.wp execOp
  simp only [ho, resolve, invoke, builtin, Sem.run_bind, Sem.run_pure, Result.andThen_ok, List.map_toArray, List.map_cons, List.map_nil, hs, hx, hr]
  exact hK _ _ (h va c w' hg)
theorem step_owst {ops : Array Oper} {K : Act → World → Prop} {Q : Exit → Act → World → Prop} {E : Prop} (hgd : o.guard = none) (s x : Operand) (t u : TypeId)
    (ho : o.op = .call { callee := .builtin .append, args := #[s, x], argTypes := #[t, u] }) (i : TypeInfo) (ht : P.underlying t = some (.slice 5)) (hu : P.underlying u = some .string) (hi : P.info? 5 = some i) (hz0 : i.zero = some (.int .u8 0)) (hz1 : i.size = 1) (hz2 : i.bytes = 1)
    (lo : Nat) (v : Value) (n : Nat) (l : List Nat) (hs : a.eval s = v) (hown : Ow w lo 5 1 v n (ob l)) (m : List Nat) (M : Nat) (S : ByteArray) (hS : S = st m) (hM : m.length = M) (hm : Oct m) (hx : a.eval x = .string S) (hlen : n + M ≤ 140737488355328)
    (h : ∀ va c w', Got lo 5 1 w w' v (.slice va (n + M) c) (n + M) (ob (l ++ m)) → K (a.put o.dst (.slice va (n + M) c)) w') :
    if Region.wanted o (yielded ops a.tmps) = true then Oper.wp P o a w K Q else E := by
  have hw : Region.wanted o (yielded ops a.tmps) = true := by simp [Region.wanted, hgd]
  rw [if_pos hw]
  obtain ⟨va, c, w', hr, hg⟩ := own_string P w t u o.type i ht hu hi hz0 hz1 hz2 lo v n l hown m M S hS hM hm hlen
  unfold Oper.wp execOp
  simp only [ho, resolve, invoke, builtin, Sem.run_bind, Sem.run_pure, Result.andThen_ok, List.map_toArray, List.map_cons, List.map_nil, hs, hx, hr]
  exact h va c w' hg
/-- Any elements, at a step of a region that draws its order. -/
theorem step_ows {ops : Array Oper} {K : Act → World → Prop} {Q : Exit → Act → World → Prop} {E : Prop} (hgd : o.guard = none) (s x : Operand) (t : TypeId)
    (ho : o.op = .call { callee := .builtin .append, args := #[s, x], argTypes := #[t, t] }) (e : TypeId) (i : TypeInfo) (z : Value) (sz bytes : Nat) (ht : P.underlying t = some (.slice e)) (hi : P.info? e = some i) (hz0 : i.zero = some z) (hz1 : i.size = sz) (hz2 : i.bytes = bytes) (hz3 : z.cells.size = sz) (hsz : 0 < sz)
    (lo : Nat) (v : Value) (k : Nat) (l : List Value) (hs : a.eval s = v) (hown : Ow w lo e sz v k l)
    (ax : Option Addr) (m : List Value) (n c : Nat) (hnm : m.length = n * sz) (hx : a.eval x = .slice ax n c) (hz : ax = none → n = 0 ∧ c = 0) (hl : m = [] ∨ ∃ b o, ax = some ⟨b, o, none⟩ ∧ ∀ i u, m[i]? = some u → w.cell? ⟨b, o + i, none⟩ = some u) (h1 : ∀ u ∈ m, u.oneCell' = true) (h63 : k + n ≤ maxLen) (hlen : (k + n) * bytes ≤ 140737488355328)
    (h : ∀ va c' w', Got lo e sz w w' v (.slice va (k + n) c') (k + n) (l ++ m) → K (a.put o.dst (.slice va (k + n) c')) w') : if Region.wanted o (yielded ops a.tmps) = true then Oper.wp P o a w K Q else E := by
  have hw : Region.wanted o (yielded ops a.tmps) = true := by simp [Region.wanted, hgd]
  rw [if_pos hw]
  have h' : ∀ v' w', Got lo e sz w w' v v' (k + n) (l ++ m) → K (a.put o.dst v') w' := fun v' w' hg => by
    obtain ⟨a', c', hv, _⟩ := hg.ow.shape
    subst hv
    exact h a' c' w' hg
  cases ax with
  | none =>
    obtain ⟨h1, h2⟩ := hz rfl
    subst h1
    have hm : m = [] := List.eq_nil_of_length_eq_zero (by omega)
    subst hm
    subst h2
    have hrun := run_append_owned_none (P := P) (w := w) lo t o.type e i sz ht hi v _ _ hown.own
    unfold Oper.wp
    simp [execOp, ho, resolve, invoke, builtin, hs, hx, hrun, Result.andThen]
    refine h' v w ?_
    rw [List.append_nil]
    exact ⟨hown, Below.refl _ _, fun _ _ _ => rfl, fun k _ => Or.inl rfl⟩
  | some ad =>
    obtain ⟨v', w', hrun, r1, r2, _⟩ := run_append_own (P := P) w lo t o.type e i z sz bytes ht hi hz0 hz1 hz2 hz3 hsz v _ _ hown.own ad n c m hnm (fun j u hj => by
      rcases hl with rfl | ⟨b, off, ha, hc⟩
      · simp at hj
      · cases ha
        rw [addr_add]
        exact hc j u hj) h1 h63 hlen hown.le
    unfold Oper.wp
    simp [execOp, ho, resolve, invoke, builtin, hs, hx, hrun, Result.andThen]
    exact h' v' w' (Got.mk' hown r1 r2)
end
end Go.Proofs.YtcmmjbkgoafbnaaDoor

/-
  Noughts behind a list of bytes of the call's own: append(x, make([]byte, k)...).
-/
namespace Go.Proofs.YtcmmjbkgoafbnaaDoor
open Go.RowKit
set_option linter.unusedVariables false
set_option linter.unusedSimpArgs false
theorem zero_cells (k : Nat) : Builtin.zeroCells (Value.int .u8 0).cells k = (ob (List.replicate k 0)).toArray := by
  apply Array.ext'
  unfold Builtin.zeroCells ob
  have e : (Value.int IntKind.u8 0).cells = #[.int .u8 0] := rfl
  rw [e]
  simp only [Array.toList_map, Array.toList_range, List.toList_toArray, List.map_replicate]
  have h1 : (#[Value.int IntKind.u8 0] : Array Value).size = 1 := rfl
  rw [h1, Nat.mul_one]
  apply List.ext_getElem
  · simp
  · intro i h1 h2
    simp [Nat.mod_one]
section
variable {P : Program} {w : World} {t u ty e : TypeId} {i : TypeInfo}
theorem app0_room (ht : P.underlying t = some (.slice e)) (hu : P.underlying u = some (.int .i64)) (hi : P.info? e = some i) (hz : i.zero = some (.int .u8 0)) (hs1 : i.size = 1) (hb1 : i.bytes = 1)
    (g n cap k : Nat) (cur : Array Value) (hg : w.heap[g]? = some (.cells cur e (0, 0))) (hk : k < 100000) (hk0 : k ≠ 0) (hroom : n + k ≤ cap) (hfit : n + k ≤ cur.size) :
    (Builtin.append_ #[t, u] ty #[.slice (some ⟨g, 0, none⟩) n cap, .int .i64 (k : Int)]).run P w = .ok (.slice (some ⟨g, 0, none⟩) (n + k) cap) (w.setRow g (cur.toList.take n ++ ob (List.replicate k 0) ++ cur.toList.drop (n + k)).toArray) := by
  have hst := run_storeCells_at P g n e (ob (List.replicate k 0)) 0 cur w hg (by rw [ob_length, List.length_replicate]; omega) ob_one
  simp only [Nat.add_zero, ob_length, List.length_replicate] at hst
  have hw : IntKind.i64.wrap (k : Int) = (k : Int) := by rw [IntKind.wrap_i64]; omega
  have h1 : ¬ (k : Int) < 0 := by omega
  have h2 : ¬ (281474976710656 : Int) < (k : Int) := by omega
  simp [Builtin.append_, run_underlying ht, run_underlying hu, asInt, asIntOf, sizeOf, typeInfo, zeroValue, hi, hs1, hz, hb1, hw, h1, h2, hk0, hroom, zero_cells, Addr.add_lit, hst]
theorem app0_grow (ht : P.underlying t = some (.slice e)) (hu : P.underlying u = some (.int .i64)) (hi : P.info? e = some i) (hz : i.zero = some (.int .u8 0)) (hs1 : i.size = 1) (hb1 : i.bytes = 1)
    (b : Addr) (n cap k : Nat) (olds : List Value) (hlo : olds.length = n) (holds : ∀ j v, olds[j]? = some v → w.cell? (b.add j) = some v) (hk : k < 100000) (hk0 : k ≠ 0) (hg : cap < n + k) (hn : n ≤ 100000000000000) :
    (Builtin.append_ #[t, u] ty #[.slice (some b) n cap, .int .i64 (k : Int)]).run P w = .ok (.slice (some ⟨w.heap.size, 0, none⟩) (n + k) (grownCap w (n + k) cap e)) (w.drew.alloc (.cells (olds.toArray ++ (ob (List.replicate k 0)).toArray ++ Builtin.zeroCells (Value.int .u8 0).cells (grownCap w (n + k) cap e - (n + k))) e)) := by
  have hn2 : ¬ (n + k ≤ cap) := by omega
  have hw : IntKind.i64.wrap (k : Int) = (k : Int) := by rw [IntKind.wrap_i64]; omega
  have h1 : ¬ (k : Int) < 0 := by omega
  have h2 : ¬ (281474976710656 : Int) < (k : Int) := by omega
  have h63' : ¬ (9223372036854775807 < ((n : Int) + (k : Int))) := by omega
  have hfit : Builtin.nextslicecap (n + k) cap * 1 ≤ 281474976710656 := growslice_fits (by omega) (by omega)
  have h48' : ¬ (281474976710656 < Builtin.nextslicecap (n + k) cap) := by omega
  have hfo := run_firstCells_some (P := P) w.drew i.size n b n cap olds (by rw [hs1]; omega) (by simpa using holds)
  rw [hs1] at hfo
  simp [Builtin.append_, run_underlying ht, run_underlying hu, asInt, asIntOf, sizeOf, typeInfo, zeroValue, hi, hs1, hz, hb1, hw, h1, h2, hk0, hn2, h63', h48', Question.forced, zero_cells, hfo, newRow, grownCap]
theorem app0_nil (ht : P.underlying t = some (.slice e)) (hu : P.underlying u = some (.int .i64)) (hi : P.info? e = some i) (hz : i.zero = some (.int .u8 0)) (hs1 : i.size = 1) (hb1 : i.bytes = 1) (k : Nat) (hk : k < 100000) (hk0 : k ≠ 0) :
    (Builtin.append_ #[t, u] ty #[.slice none 0 0, .int .i64 (k : Int)]).run P w = .ok (.slice (some ⟨w.heap.size, 0, none⟩) k (grownCap w k 0 e)) (w.drew.alloc (.cells ((ob (List.replicate k 0)).toArray ++ Builtin.zeroCells (Value.int .u8 0).cells (grownCap w k 0 e - k)) e)) := by
  have hn2 : ¬ (k ≤ 0) := by omega
  have hw : IntKind.i64.wrap (k : Int) = (k : Int) := by rw [IntKind.wrap_i64]; omega
  have h1 : ¬ (k : Int) < 0 := by omega
  have h2 : ¬ (281474976710656 : Int) < (k : Int) := by omega
  have h63' : ¬ (9223372036854775807 < (k : Int)) := by omega
  have hfit : Builtin.nextslicecap k 0 * 1 ≤ 281474976710656 := growslice_fits (by omega) (by omega)
  have h48' : ¬ (281474976710656 < Builtin.nextslicecap k 0) := by omega
  simp [Builtin.append_, run_underlying ht, run_underlying hu, asInt, asIntOf, sizeOf, typeInfo, zeroValue, hi, hs1, hz, hb1, hw, h1, h2, hk0, hn2, h63', h48', Question.forced, zero_cells, newRow, grownCap, Builtin.firstCells]
/-- The law. -/
theorem own_zeros (ht : P.underlying t = some (.slice 5)) (hu : P.underlying u = some (.int .i64)) (hi : P.info? 5 = some i) (hz : i.zero = some (.int .u8 0)) (hs1 : i.size = 1) (hb1 : i.bytes = 1)
    (lo : Nat) (v : Value) (n : Nat) (l : List Nat) (hown : Ow w lo 5 1 v n (ob l)) (hl : l.length = n) (hn : n ≤ 100000000000000) (k : Nat) (hk : k < 100000) :
    ∃ va c w', (Builtin.append_ #[t, u] ty #[v, .int .i64 (k : Int)]).run P w = .ok (.slice va (n + k) c) w' ∧ Got lo 5 1 w w' v (.slice va (n + k) c) (n + k) (ob (l ++ List.replicate k 0)) := by
  have hxl : (ob l).length = n := by rw [ob_length]; exact hl
  rcases hown.own.2 with ⟨hv, h0⟩ | ⟨g, cap, cur, hv, hbg, hg, hnc, hcm, hcs, htake⟩
  · subst hv
    obtain rfl : n = 0 := h0
    obtain rfl : l = [] := List.length_eq_zero_iff.1 hl
    by_cases hk0 : k = 0
    · subst hk0
      refine ⟨none, 0, w, ?_, ?_⟩
      · have hw : IntKind.i64.wrap (0 : Int) = 0 := by decide
        simp [Builtin.append_, run_underlying ht, run_underlying hu, asInt, asIntOf, sizeOf, typeInfo, hi, hs1, hb1, hw]
      · rw [List.replicate_zero, List.append_nil]
        exact ⟨hown, Below.refl _ _, fun _ _ _ => rfl, fun _ _ => Or.inl rfl⟩
    · have hr := app0_nil (P := P) (w := w) (t := t) (u := u) (ty := ty) (e := 5) ht hu hi hz hs1 hb1 k hk hk0
      rw [Nat.zero_add]
      refine ⟨_, _, _, hr, ?_⟩
      have hge := grownCap_ge w k 0 5
      have hcm2 : grownCap w k 0 5 ≤ maxLen := grownCap_le_maxLen w k 0 5 (by unfold maxLen; omega)
      have := Got.mk' (n := 0) (m := k) (xs := ob []) (news := ob (List.replicate k 0)) hown (w' := w.drew.alloc (.cells ((ob (List.replicate k 0)).toArray ++ Builtin.zeroCells (Value.int .u8 0).cells (grownCap w k 0 5 - k)) 5)) (v' := .slice (some ⟨w.heap.size, 0, none⟩) (0 + k) (grownCap w k 0 5)) ⟨by simp [ob_length], .inr ⟨w.heap.size, _, _, rfl, hown.le, heap_alloc_new w.drew _, by omega, hcm2, ?_, ?_⟩⟩ ⟨rfl, rfl, rfl, by simp, fun k' hk' _ => heap_alloc_old w.drew _ hk'⟩
      · rw [ob_append, Nat.zero_add] at this; exact this
      · rw [zero_cells]
        simp only [Array.size_append, List.size_toArray, ob_length, List.length_replicate]
        omega
      · simp only [Array.toList_append]
        have e : (0 + k) * 1 = (ob (List.replicate k 0)).length := by rw [ob_length, List.length_replicate]; omega
        rw [e]
        show List.take _ (ob (List.replicate k 0) ++ _) = ob [] ++ ob (List.replicate k 0)
        rw [List.take_left]; rfl
  · subst hv
    have hcs' : cur.size = cap := by simpa using hcs
    by_cases hk0 : k = 0
    · subst hk0
      refine ⟨some ⟨g, 0, none⟩, cap, w, ?_, ?_⟩
      · have hst := run_storeCells_at P g n 5 [] 0 cur w hg (by simp; omega) (by simp)
        have hw : IntKind.i64.wrap (0 : Int) = 0 := by decide
        simp [Builtin.append_, run_underlying ht, run_underlying hu, asInt, asIntOf, sizeOf, typeInfo, hi, hs1, hb1, hw, hnc, storeCells]
      · rw [List.replicate_zero, List.append_nil]
        exact ⟨hown, Below.refl _ _, fun _ _ _ => rfl, fun _ _ => Or.inl rfl⟩
    · by_cases hroom : n + k ≤ cap
      · have hr := app0_room (P := P) (w := w) (t := t) (u := u) (ty := ty) (e := 5) ht hu hi hz hs1 hb1 g n cap k cur hg hk hk0 hroom (by omega)
        refine ⟨_, _, _, hr, ?_⟩
        have := Got.mk' (m := k) (news := ob (List.replicate k 0)) hown (w' := w.setRow g (cur.toList.take n ++ ob (List.replicate k 0) ++ cur.toList.drop (n + k)).toArray) (v' := .slice (some ⟨g, 0, none⟩) (n + k) cap) ⟨by simp [ob_length, hl], .inr ⟨g, cap, _, rfl, hbg, setRow_heap w g cur _ 5 _ hg, hroom, hcm, ?_, ?_⟩⟩ ⟨rfl, rfl, rfl, by simp, fun k' _ hk' => setRow_other w g k' _ (fun e => hk' (by simp [Value.ownBlock, e]))⟩
        · rw [ob_append] at this; exact this
        · simp only [List.size_toArray, List.length_append, List.length_take, List.length_drop, Array.length_toList, ob_length, List.length_replicate]
          omega
        · have ht' : cur.toList.take n = ob l := by simpa using htake
          rw [ht']
          have e : (n + k) * 1 = (ob l ++ ob (List.replicate k 0)).length := by rw [List.length_append, hxl, ob_length, List.length_replicate, Nat.mul_one]
          rw [e]
          exact List.take_left
      · have holds : ∀ j u, (ob l)[j]? = some u → w.cell? ((⟨g, 0, none⟩ : Addr).add j) = some u := hown.own.cells (g := g) rfl
        have hr := app0_grow (P := P) (w := w) (t := t) (u := u) (ty := ty) (e := 5) ht hu hi hz hs1 hb1 ⟨g, 0, none⟩ n cap k (ob l) hxl holds hk hk0 (by omega) hn
        refine ⟨_, _, _, hr, ?_⟩
        have hge := grownCap_ge w (n + k) cap 5
        have hcm2 : grownCap w (n + k) cap 5 ≤ maxLen := grownCap_le_maxLen w (n + k) cap 5 (by unfold maxLen; omega)
        have := Got.mk' (m := k) (news := ob (List.replicate k 0)) hown (w' := w.drew.alloc (.cells ((ob l).toArray ++ (ob (List.replicate k 0)).toArray ++ Builtin.zeroCells (Value.int .u8 0).cells (grownCap w (n + k) cap 5 - (n + k))) 5)) (v' := .slice (some ⟨w.heap.size, 0, none⟩) (n + k) (grownCap w (n + k) cap 5)) ⟨by simp [ob_length, hl], .inr ⟨w.heap.size, _, _, rfl, hown.le, heap_alloc_new w.drew _, hge, hcm2, ?_, ?_⟩⟩ ⟨rfl, rfl, rfl, by simp, fun k' hk' _ => heap_alloc_old w.drew _ hk'⟩
        · rw [ob_append] at this; exact this
        · rw [zero_cells]
          simp only [Array.size_append, List.size_toArray, ob_length, List.length_replicate, hl]
          omega
        · simp only [Array.toList_append, List.append_assoc]
          rw [← List.append_assoc]
          have e : (n + k) * 1 = (ob l ++ ob (List.replicate k 0)).length := by rw [List.length_append, hxl, ob_length, List.length_replicate, Nat.mul_one]
          rw [e]
          exact List.take_left
theorem wpList_owz {ops : Array Oper} {rest : List Oper} {o : Oper} {a : Act} {Q : Exit → Act → World → Prop} (hgd : o.guard = none) (s x : Operand) (t u : TypeId)
    (ho : o.op = .call { callee := .builtin .append, args := #[s, x], argTypes := #[t, u] }) (i : TypeInfo) (ht : P.underlying t = some (.slice 5)) (hu : P.underlying u = some (.int .i64)) (hi : P.info? 5 = some i) (hz0 : i.zero = some (.int .u8 0)) (hz1 : i.size = 1) (hz2 : i.bytes = 1)
    (lo : Nat) (v : Value) (n : Nat) (l : List Nat) (hs : a.eval s = v) (hown : Ow w lo 5 1 v n (ob l)) (hl : l.length = n) (hn : n ≤ 100000000000000) (k : Nat) (hk : k < 100000) (hx : a.eval x = .int .i64 (k : Int))
    (h : ∀ va c w', Got lo 5 1 w w' v (.slice va (n + k) c) (n + k) (ob (l ++ List.replicate k 0)) → wpList P ops Q rest (a.put o.dst (.slice va (n + k) c)) w') : wpList P ops Q (o :: rest) a w := by
  obtain ⟨va, c, w', hr, hg⟩ := own_zeros (P := P) (w := w) (t := t) (u := u) (ty := o.type) ht hu hi hz0 hz1 hz2 lo v n l hown hl hn k hk
  refine wpList_plain hgd fun K hK => ?_
  unfold Oper.wp execOp
  simp only [ho, resolve, invoke, builtin, Sem.run_bind, Sem.run_pure, Result.andThen_ok, List.map_toArray, List.map_cons, List.map_nil, hs, hx, hr]
  exact hK _ _ (h va c w' hg)
end
end Go.Proofs.YtcmmjbkgoafbnaaDoor

/-
  A string as bytes of the call's own: the row that a conversion lays. No walk.
-/
namespace Go.Proofs.YtcmmjbkgoafbnaaDoor
open Go.RowKit
set_option linter.unusedVariables false
/-- A row that a conversion laid begins with these bytes. -/
def Cv (w : World) (H : Nat) (l : List Nat) : Prop := ∃ (cs : Array Value) (n : Nat), w.heap[H]? = some (.cells cs 5 (n, n + 1)) ∧ l.length ≤ n ∧ cs.size = n ∧ cs.toList.take l.length = ob l
theorem Cv.cell {w : World} {H i x : Nat} {l : List Nat} (h : Cv w H l) (hx : l[i]? = some x) : w.cell? ⟨H, i, none⟩ = some (.int .u8 (x : Int)) := by
  obtain ⟨cs, n, hh, h1, h2, h3⟩ := h
  have hi := (List.getElem?_eq_some_iff.1 hx).1
  have e : (cs.toList.take l.length)[i]? = some (.int .u8 (x : Int)) := by rw [h3, ob_get, hx]; rfl
  rw [List.getElem?_take, if_pos hi] at e
  simp [World.cell?, hh]
  simpa using e
theorem Cv.frozen {w : World} {H i : Nat} {l : List Nat} (h : Cv w H l) (hi : i < l.length) : w.frozen? ⟨H, i, none⟩ = false := by
  obtain ⟨cs, n, hh, h1, h2, h3⟩ := h
  simp [World.frozen?, hh]
  omega
theorem Cv.set {w : World} {H : Nat} {l : List Nat} (h : Cv w H l) (i x : Nat) : Cv (w.setCell ⟨H, i, none⟩ (.int .u8 (x : Int))) H (l.set i x) := by
  obtain ⟨cs, n, hh, h1, h2, h3⟩ := h
  refine ⟨cs.setIfInBounds i (.int .u8 (x : Int)), n, ?_, by simpa using h1, by simpa using h2, ?_⟩
  · simp [World.setCell, Array.getElem?_modify, hh]
  · rw [List.length_set, Array.toList_setIfInBounds, List.take_set, h3]
    simp [ob, List.map_set]
theorem Cv.below {w u : World} {H C : Nat} {l : List Nat} (h : Cv w H l) (k : Below C w u) (hC : H < C) : Cv u H l := by
  obtain ⟨cs, n, hh, h1⟩ := h
  exact ⟨cs, n, by rw [k.block H hC]; exact hh, h1⟩
theorem Cv.lt {w : World} {H : Nat} {l : List Nat} (h : Cv w H l) : H < w.heap.size := by
  obtain ⟨cs, n, hh, h1⟩ := h
  exact (Array.getElem?_eq_some_iff.1 hh).1
theorem Cv.drewN {w : World} {H : Nat} {l : List Nat} (h : Cv w H l) (n : Nat) : Cv (w.drewN n) H l := h
theorem Cv.lies {w : World} {H : Nat} {l : List Nat} (h : Cv w H l) : Lies w (some ⟨H, 0, none⟩) l := Or.inr ⟨H, 0, rfl, fun i x hx => by rw [Nat.zero_add]; exact h.cell hx⟩
theorem bytes_of {l : List Nat} (ho : Oct l) (w : World) : ∃ w1 c, (convert 9 22 (.string (st l))).run Tryd.prog w = .ok (.slice (some ⟨w.heap.size, 0, none⟩) l.length c) w1 ∧ Cv w1 w.heap.size l ∧ Below w.heap.size w w1 ∧ w1.heap.size = w.heap.size + 1 ∧ l.length ≤ c := by
  have h := run_bytes_of_string (P := Tryd.prog) w 9 22 5 (st l) Tryd.underlying9 Tryd.underlying22 Tryd.underlying5
  have hge := grownCap_ge w (st l).size 0 5
  rw [st_size] at h hge
  generalize grownCap w l.length 0 5 = c at h hge
  have hsz : (bytesRow (st l) c).size = c := by
    have h1 : (st l).data.size = l.length := st_size l
    simp only [bytesRow, Array.size_append, Array.size_map, Array.size_replicate, st_size, h1]
    omega
  refine ⟨_, c, h, ⟨bytesRow (st l) c, c, ?_, hge, hsz, ?_⟩, ?_, ?_, hge⟩
  · rw [hsz]
    show (w.heap.push _)[_]? = _
    simp
  · have e : (st l).data.toList = l.map UInt8.ofNat := rfl
    simp only [bytesRow, Array.toList_append, Array.toList_map, Array.toList_replicate, e, List.map_map]
    have hl : l.length = (l.map ((fun b : UInt8 => Value.int .u8 (b.toNat : Int)) ∘ UInt8.ofNat)).length := by simp
    rw [hl, List.take_left]
    refine List.map_congr_left fun x hx => ?_
    have := ho x hx
    simp
    omega
  · exact (Below.drewN2 (Below.refl _ w) 1).alloc (Nat.le_refl _) _
  · simp
end Go.Proofs.YtcmmjbkgoafbnaaDoor

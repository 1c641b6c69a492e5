/-
  Own texts of this seat, one behind the other: what each says stands ahead of it.
-/
import Derived.Laws.CopyOwn
import Derived.Test.YtikdpnpkmmmacabDoorProg
import Derived.Test.YtikdpnpkmmmacabDoorMa
import Derived.BigQuiet
import Derived.Deep.LoopGhost
import Derived.Laws.MakeOwn
import Derived.Laws.OwnMore
import Derived.Test.YtikdpnpkmmmacabDoorMb
import Derived.Test.YtikdpnpkmmmacabDoorMc
import Derived.Laws.EntriesVeiled
/-
  Lists of bytes: the last ones of a list, what a copy does to a row, a row that goes round, and the bytes at the end again and again.
-/
namespace Go.Proofs.YtikdpnpkmmmacabDoor
set_option linter.unusedVariables false
/-- The cell n behind the next one. -/
def gfwd (N x n : Nat) : Nat := if x + n < N then x + n else x + n - N
/-- The cell d ahead of the next one. -/
def gbck (N x d : Nat) : Nat := if d ≤ x then x - d else x + N - d
theorem gfwd_spec (N x n : Nat) : (x + n < N ∧ gfwd N x n = x + n) ∨ (N ≤ x + n ∧ gfwd N x n = x + n - N) := by unfold gfwd; split <;> omega
theorem gbck_spec (N x d : Nat) : (d ≤ x ∧ gbck N x d = x - d) ∨ (x < d ∧ gbck N x d = x + N - d) := by unfold gbck; split <;> omega
theorem gfwd_lt {N x n : Nat} (h : x < N) (h2 : n ≤ N) : gfwd N x n < N := by unfold gfwd; split <;> omega
theorem gbck_lt {N x d : Nat} (h1 : x < N) (h2 : 1 ≤ d) (h3 : d ≤ N) : gbck N x d < N := by unfold gbck; split <;> omega
/-- The last ones, at most N. -/
def glastN (N : Nat) (l : List Int) : List Int := l.drop (l.length - N)
theorem glastN_length (N : Nat) (l : List Int) : (glastN N l).length = min l.length N := by simp [glastN]; omega
theorem glastN_all {N : Nat} {l : List Int} (h : l.length ≤ N) : glastN N l = l := by
  unfold glastN; rw [show l.length - N = 0 by omega, List.drop_zero]
theorem glastN_app (N : Nat) (l xs : List Int) : glastN N (l ++ glastN N xs) = glastN N (l ++ xs) := by
  apply List.ext_getElem?
  intro i
  simp only [glastN, List.getElem?_drop, List.getElem?_append, List.length_append, List.length_drop]
  by_cases h : xs.length ≤ N
  · simp only [show xs.length - N = 0 by omega, Nat.sub_zero, Nat.zero_add]
  · have e1 : l.length + (xs.length - (xs.length - N)) - N + i = l.length + i := by omega
    have e2 : ¬ l.length + (xs.length - (xs.length - N)) - N + i < l.length := by omega
    have e3 : ¬ l.length + xs.length - N + i < l.length := by omega
    rw [if_neg e2, if_neg e3]
    congr 1; omega
theorem glastN_two (N : Nat) (l xs ys : List Int) : glastN N (glastN N (l ++ xs) ++ ys) = glastN N (l ++ xs ++ ys) := by
  apply List.ext_getElem?
  intro i
  simp only [glastN, List.getElem?_drop, List.getElem?_append, List.length_append, List.length_drop]
  by_cases h : l.length + xs.length ≤ N
  · simp only [show l.length + xs.length - N = 0 by omega, Nat.sub_zero, Nat.zero_add]
  · have e0 : l.length + xs.length - (l.length + xs.length - N) = N := by omega
    simp only [e0]
    have e1 : N + ys.length - N + i = ys.length + i := by omega
    have e2 : l.length + xs.length + ys.length - N + i = l.length + xs.length - N + (ys.length + i) := by omega
    simp only [e1, e2]
    by_cases c : ys.length + i < N
    · have c2 : l.length + xs.length - N + (ys.length + i) < l.length + xs.length := by omega
      rw [if_pos c, if_pos c2]
    · have c2 : ¬ l.length + xs.length - N + (ys.length + i) < l.length + xs.length := by omega
      rw [if_neg c, if_neg c2]
      congr 1; omega
theorem gsplice_get {α : Type} (l cs : List α) (off i : Nat) (h : off + cs.length ≤ l.length) : (splice l off cs)[i]? = if off ≤ i ∧ i < off + cs.length then cs[i - off]? else l[i]? := by
  unfold splice
  rw [List.getElem?_append, List.length_take, Nat.min_eq_left (by omega), List.getElem?_append, List.getElem?_take, List.getElem?_drop]
  by_cases c1 : i < off
  · rw [if_pos c1, if_pos c1, if_neg (by omega)]
  · rw [if_neg c1]
    by_cases c2 : i < off + cs.length
    · rw [if_pos (by omega), if_pos (by omega)]
    · rw [if_neg (by omega), if_neg (by omega)]
      congr 1; omega
theorem gsplice_app (ys A B : List Int) (h : A.length + B.length ≤ ys.length) : splice (splice ys 0 A) A.length B = splice ys 0 (A ++ B) := by
  apply List.ext_getElem?
  intro i
  rw [gsplice_get _ _ _ _ (by rw [length_splice _ _ _ (by omega)]; omega), gsplice_get _ _ _ _ (by omega), gsplice_get _ _ _ _ (by rw [List.length_append]; omega), List.length_append, List.getElem?_append]
  by_cases c1 : i < A.length
  · rw [if_neg (by omega), if_pos (by omega), if_pos (by omega), if_pos (by omega)]
  · by_cases c2 : i < A.length + B.length
    · rw [if_pos (by omega), if_pos (by omega), if_neg (by omega)]; simp
    · rw [if_neg (by omega), if_neg (by omega), if_neg (by omega)]
theorem gsplice_all (ys A : List Int) (h : A.length = ys.length) : splice ys 0 A = A := by
  unfold splice
  simp [h]
/-- The row cs of N cells, whose next one is x, holds the list l. -/
def GHolds (N x : Nat) (cs l : List Int) : Prop := ∀ d, 1 ≤ d → d ≤ l.length → cs[gbck N x d]? = l[l.length - d]?
theorem gholds_nil (N x : Nat) (cs : List Int) : GHolds N x cs [] := fun d h1 h2 => by simp at h2; omega
/-- What is moved out, in one piece. -/
theorem gout_a {N x : Nat} {cs l : List Int} (hh : GHolds N x cs l) (d n : Nat) (hx : x < N) (hl : l.length ≤ N) (h1 : 1 ≤ d) (hd : d ≤ l.length) (hn : n ≤ d) (hA : gbck N x d + n ≤ N) :
    (cs.drop (gbck N x d)).take n = (l.drop (l.length - d)).take n := by
  apply List.ext_getElem?
  intro i
  rw [List.getElem?_take, List.getElem?_take, List.getElem?_drop, List.getElem?_drop]
  by_cases c : i < n
  · rw [if_pos c, if_pos c]
    have := hh (d - i) (by omega) (by omega)
    rw [show l.length - d + i = l.length - (d - i) by omega, ← this]
    congr 1
    have s1 := gbck_spec N x d
    have s2 := gbck_spec N x (d - i)
    omega
  · rw [if_neg c, if_neg c]
/-- What is moved out, in two pieces. -/
theorem gout_b {N x : Nat} {cs l : List Int} (hh : GHolds N x cs l) (d n m r : Nat) (hx : x < N) (hl : l.length ≤ N) (hc : cs.length = N) (h1 : 1 ≤ d) (hd : d ≤ l.length) (hn : n ≤ d) (hm : gbck N x d + m = N) (hr : m + r = n) :
    cs.drop (gbck N x d) ++ cs.take r = (l.drop (l.length - d)).take n := by
  apply List.ext_getElem?
  intro i
  rw [List.getElem?_append, List.length_drop, hc, List.getElem?_take, List.getElem?_take, List.getElem?_drop, List.getElem?_drop]
  have e : N - gbck N x d = m := by omega
  rw [e]
  by_cases c : i < n
  · rw [if_pos c]
    have := hh (d - i) (by omega) (by omega)
    rw [show l.length - d + i = l.length - (d - i) by omega, ← this]
    by_cases c2 : i < m
    · rw [if_pos c2]
      congr 1
      have s1 := gbck_spec N x d
      have s2 := gbck_spec N x (d - i)
      omega
    · rw [if_neg c2, if_pos (by omega)]
      congr 1
      have s1 := gbck_spec N x d
      have s2 := gbck_spec N x (d - i)
      omega
  · rw [if_neg c, if_neg (by omega), if_neg (by omega)]
/-- What is laid in goes round the end. -/
theorem gin_get {N x : Nat} {cs ys : List Int} (hc : cs.length = N) (hx : x < N) (hm : ys.length ≤ N) (q : Nat) (hq : q = min ys.length (N - x)) (p : Nat) (hp : p < N) :
    (splice (splice cs x (ys.take q)) 0 (ys.drop q))[p]? = if x ≤ p ∧ p < x + ys.length then ys[p - x]? else if p + N < x + ys.length then ys[p + N - x]? else cs[p]? := by
  have l1 : (ys.take q).length = q := by rw [List.length_take]; omega
  have l2 : (ys.drop q).length = ys.length - q := List.length_drop
  rw [gsplice_get _ _ _ _ (by rw [length_splice _ _ _ (by omega)]; omega), gsplice_get _ _ _ _ (by omega), l1, l2, List.getElem?_take, List.getElem?_drop]
  by_cases c1 : x ≤ p ∧ p < x + ys.length
  · rw [if_pos c1, if_neg (by omega), if_pos (by omega), if_pos (by omega)]
  · rw [if_neg c1]
    by_cases c2 : p + N < x + ys.length
    · rw [if_pos c2, if_pos (by omega)]
      congr 1; omega
    · rw [if_neg c2, if_neg (by omega), if_neg (by omega)]
theorem gin_holds {N x : Nat} {cs l ys : List Int} (hh : GHolds N x cs l) (hc : cs.length = N) (hx : x < N) (hl : l.length ≤ N) (hm : ys.length ≤ N) (q : Nat) (hq : q = min ys.length (N - x)) :
    GHolds N (gfwd N x ys.length) (splice (splice cs x (ys.take q)) 0 (ys.drop q)) (glastN N (l ++ ys)) := by
  intro d h1 h2
  have hlen := glastN_length N (l ++ ys)
  rw [List.length_append] at hlen
  have hp := gbck_lt (gfwd_lt hx hm) h1 (by omega : d ≤ N)
  rw [gin_get hc hx hm q hq _ hp, hlen]
  have e : (glastN N (l ++ ys))[min (l.length + ys.length) N - d]? = (l ++ ys)[l.length + ys.length - d]? := by
    unfold glastN
    rw [List.getElem?_drop, List.length_append]
    congr 1; omega
  rw [e, List.getElem?_append]
  have s1 := gfwd_spec N x ys.length
  have s2 := gbck_spec N (gfwd N x ys.length) d
  by_cases c : d ≤ ys.length
  · have c0 : ¬ l.length + ys.length - d < l.length := by omega
    rw [if_neg c0]
    by_cases c1 : x + (ys.length - d) < N
    · have c2 : x ≤ gbck N (gfwd N x ys.length) d ∧ gbck N (gfwd N x ys.length) d < x + ys.length := by omega
      rw [if_pos c2]
      congr 1; omega
    · have c2 : ¬ (x ≤ gbck N (gfwd N x ys.length) d ∧ gbck N (gfwd N x ys.length) d < x + ys.length) := by omega
      have c3 : gbck N (gfwd N x ys.length) d + N < x + ys.length := by omega
      rw [if_neg c2, if_pos c3]
      congr 1; omega
  · have s3 := gbck_spec N x (d - ys.length)
    have := hh (d - ys.length) (by omega) (by omega)
    have c0 : l.length + ys.length - d < l.length := by omega
    have hb : gbck N (gfwd N x ys.length) d = gbck N x (d - ys.length) := by omega
    have c2 : ¬ (x ≤ gbck N x (d - ys.length) ∧ gbck N x (d - ys.length) < x + ys.length) := by omega
    have c3 : ¬ gbck N x (d - ys.length) + N < x + ys.length := by omega
    rw [if_pos c0, hb, if_neg c2, if_neg c3, this]
    congr 1; omega
theorem gset_splice (cs : List Int) (x : Nat) (z : Int) (h : x < cs.length) : cs.set x z = splice cs x [z] := by
  apply List.ext_getElem?
  intro i
  rw [gsplice_get cs [z] x i (by simp; omega)]
  by_cases c : x = i
  · subst c
    rw [if_pos (by simp)]
    simp [h]
  · rw [if_neg (by simp; omega), List.getElem?_set_ne c]
theorem gput_holds {N x : Nat} {cs l : List Int} (hh : GHolds N x cs l) (hc : cs.length = N) (hx : x < N) (hl : l.length ≤ N) (z : Int) : GHolds N (gfwd N x 1) (cs.set x z) (glastN N (l ++ [z])) := by
  have := gin_holds (ys := [z]) hh hc hx hl (by simp; omega) 1 (by simp; omega)
  rw [gset_splice _ _ _ (by omega)]
  simpa [splice] using this
/-- The bytes at the end, d of them, again and again, n in all. -/
def gcyc (l : List Int) (d n : Nat) : List Int := (List.range n).map fun i => l.getD (l.length - d + i % d) 0
theorem gcyc_length (l : List Int) (d n : Nat) : (gcyc l d n).length = n := by simp [gcyc]
theorem gcyc_get (l : List Int) (d n i : Nat) (h : i < n) : (gcyc l d n)[i]? = some (l.getD (l.length - d + i % d) 0) := by simp [gcyc, h]
theorem gcyc_take (l : List Int) (d n k : Nat) (h : k ≤ n) : (gcyc l d n).take k = gcyc l d k := by
  apply List.ext_getElem?
  intro i
  rw [List.getElem?_take]
  by_cases c : i < k
  · rw [if_pos c, gcyc_get _ _ _ _ (by omega), gcyc_get _ _ _ _ c]
  · rw [if_neg c, List.getElem?_eq_none (by rw [gcyc_length]; omega)]
theorem gcyc_first (l : List Int) (d n : Nat) (h1 : 1 ≤ d) (hd : d ≤ l.length) (hn : n ≤ d) : (l.drop (l.length - d)).take n = gcyc l d n := by
  apply List.ext_getElem?
  intro i
  rw [List.getElem?_take, List.getElem?_drop]
  by_cases c : i < n
  · rw [if_pos c, gcyc_get _ _ _ _ c, Nat.mod_eq_of_lt (by omega), List.getElem?_eq_getElem (by omega)]
    simp [List.getElem?_eq_getElem (show l.length - d + i < l.length by omega)]
  · rw [if_neg c, List.getElem?_eq_none (by rw [gcyc_length]; omega)]
theorem gcyc_app (l : List Int) (d k m : Nat) (hk : d ∣ k) (hm : m ≤ k) : gcyc l d k ++ (gcyc l d k).take m = gcyc l d (k + m) := by
  obtain ⟨j, rfl⟩ := hk
  apply List.ext_getElem?
  intro i
  rw [List.getElem?_append, gcyc_length, List.getElem?_take]
  by_cases c : i < d * j
  · rw [if_pos c, gcyc_get _ _ _ _ c, gcyc_get _ _ _ _ (by omega)]
  · rw [if_neg c]
    by_cases c2 : i - d * j < m
    · rw [if_pos c2, gcyc_get _ _ _ _ (by omega), gcyc_get _ _ _ _ (by omega)]
      congr 3
      conv => rhs; rw [show i = (i - d * j) + d * j by omega, Nat.add_mul_mod_self_left]
    · rw [if_neg c2, List.getElem?_eq_none (by rw [gcyc_length]; omega)]
end Go.Proofs.YtikdpnpkmmmacabDoor

/-
  What New, Len, Size, Clear, move, cell, Put and Back of the ring come to: at a window that is nil, and at one in memory.
  Conditions: none at a nil window; a window in memory has a size from 1 to 32768, its next cell and its count fit the size, and each method keeps that.
-/
namespace Go.Proofs.YtikdpnpkmmmacabDoor
open Go.RowKit

theorem glen_nil (w : World) : Calls Tryd.prog 53 #[.pointer none] w fun e w' => e = .returned (.int .i64 0) ∧ w = w' := by
  go_enter Tryd.func53, Tryd.ntmps53
  go_wp2
  go_ret
  exact ⟨rfl, rfl⟩
theorem gsize_nil (w : World) : Calls Tryd.prog 48 #[.pointer none] w fun e w' => e = .returned (.int .i64 0) ∧ w = w' := by
  go_enter Tryd.func48, Tryd.ntmps48
  go_wp2
  go_ret
  exact ⟨rfl, rfl⟩
theorem gput_nil (x : Int) (w : World) : Calls Tryd.prog 41 #[.pointer none, .int .u8 x] w fun e w' => e = .returned (.tuple #[]) ∧ w = w' := by
  go_enter Tryd.func41, Tryd.ntmps41
  go_wp2_with fail
  refine (gsize_nil _).mono ?_
  rintro e w' ⟨rfl, rfl⟩
  go_wp2_with fail
  first | go_end0 | (refine bodyPost_ret (results_none rfl _ _ _) rfl ?_)
  exact ⟨rfl, rfl⟩
theorem gback_nil (d : Int) (w : World) : Calls Tryd.prog 55 #[.pointer none, .int .i64 d] w fun e w' => e = .returned (.tuple #[.int .u8 0, .bool false]) ∧ w = w' := by
  go_enter Tryd.func55, Tryd.ntmps55
  by_cases h : d < 1
  · go_wp2_with fail
    go_ret2
    exact ⟨rfl, rfl⟩
  · have h0 : (0 : Int) < d := by omega
    go_wp2_with fail
    refine (glen_nil _).mono ?_
    rintro e w' ⟨rfl, rfl⟩
    go_wp2_with fail
    go_ret2
    exact ⟨rfl, rfl⟩
theorem gnew_no (s : Int) (w : World) (h : s < 1 ∨ 32768 < s) : Calls Tryd.prog 12 #[.int .i64 s] w fun e w' => e = .returned (.tuple #[.pointer none, .int .i64 2]) ∧ w = w' := by
  go_enter Tryd.func12, Tryd.ntmps12
  by_cases h1 : s < 1
  · go_wp2
    go_ret2
    exact ⟨rfl, rfl⟩
  · have h2 : 32768 < s := by omega
    go_wp2
    go_ret2
    exact ⟨rfl, rfl⟩

/-- Numbers as bytes in memory. -/
def gvb (l : List Int) : List Value := l.map (Value.int .u8)
theorem gvb_length (l : List Int) : (gvb l).length = l.length := by simp [gvb]
theorem gvb_get (l : List Int) (i : Nat) : (gvb l)[i]? = l[i]?.map (Value.int .u8) := by simp [gvb]
theorem gvb_one {l : List Int} : ∀ v ∈ gvb l, v.oneCell' = true := by
  intro v hv
  simp only [gvb, List.mem_map] at hv
  obtain ⟨x, _, rfl⟩ := hv
  rfl
theorem ginfo5 : (Tryd.prog.info? 5).map (fun i => (i.zero, i.size, i.bytes)) = some (some (.int .u8 0), 1, 1) := by kernel_rfl
theorem ginfo_parts {P : Program} {t : TypeId} {z : Value} {n m : Nat} (h : (P.info? t).map (fun i => (i.zero, i.size, i.bytes)) = some (some z, n, m)) :
    ∃ i, P.info? t = some i ∧ i.zero = some z ∧ i.size = n ∧ i.bytes = m := by
  cases hq : P.info? t with
  | none => simp [hq] at h
  | some i => simp [hq] at h; exact ⟨i, rfl, h.1, h.2.1, h.2.2⟩
theorem gsize5 : (Tryd.prog.info? 5).map (·.size) = some 1 := by kernel_rfl
/-- make of a list of n bytes. -/
theorem gmade (n : Nat) (hn : n ≤ 1048576) (w : World) : (Instr.makeSlice 22 (.int .i64 (n : Int)) (.int .i64 (n : Int))).run Tryd.prog w = .ok (.slice (some ⟨w.heap.size, 0, none⟩) n n) (w.alloc (.cells (gvb (List.replicate n 0)).toArray 5)) := by
  obtain ⟨i, hi, hz, hs, hb⟩ := ginfo_parts ginfo5
  have := run_make (P := Tryd.prog) w 22 5 i _ Tryd.underlying22 hi hz .i64 .i64 n n (by omega) (by omega) (by rw [hb]; omega) (by omega)
  rw [this, hs]
  have e : madeCells (Value.int .u8 0).cells ((n : Int).toNat * 1) = (gvb (List.replicate n 0)).toArray := by
    apply Array.toList_inj.1
    show (madeCells #[Value.int .u8 0] _).toList = _
    rw [toList_madeCells_one]
    simp [gvb]
  rw [e]
  simp

/-- GTwo blocks alone may have turned; none has come. -/
structure GTwo (a b : Nat) (w w' : World) : Prop where
  os : w'.os = w.os
  tape : w'.tape = w.tape
  output : w'.output = w.output
  size : w'.heap.size = w.heap.size
  block : ∀ k, k ≠ a → k ≠ b → w'.heap[k]? = w.heap[k]?
section
variable {a b : Nat} {w u v : World}
theorem GTwo.refl (a b : Nat) (w : World) : GTwo a b w w := ⟨rfl, rfl, rfl, rfl, fun _ _ _ => rfl⟩
theorem GTwo.trans (h : GTwo a b w u) (k : GTwo a b u v) : GTwo a b w v :=
  ⟨k.os.trans h.os, k.tape.trans h.tape, k.output.trans h.output, k.size.trans h.size, fun i h1 h2 => (k.block i h1 h2).trans (h.block i h1 h2)⟩
theorem GTwo.fst (h : Only a w u) : GTwo a b w u := ⟨h.os, h.tape, h.output, h.size, fun i h1 _ => h.block i h1⟩
theorem GTwo.snd (h : Only b w u) : GTwo a b w u := ⟨h.os, h.tape, h.output, h.size, fun i _ h2 => h.block i h2⟩
theorem GTwo.below {B : Nat} (h : GTwo a b w u) (ha : B ≤ a) (hb : B ≤ b) : Below B w u :=
  ⟨h.os, h.tape, h.output, Nat.le_of_eq h.size.symm, fun k hk => h.block k (by omega) (by omega)⟩
theorem GTwo.drewN (h : GTwo a b w u) (n : Nat) : GTwo a b w (u.drewN n) := ⟨h.os, h.tape, h.output, h.size, h.block⟩
theorem GTwo.drew (h : GTwo a b w u) : GTwo a b w u.drew := ⟨h.os, h.tape, h.output, h.size, h.block⟩
end

/-- A window in memory: block H holds it, block K its N cells; x is the next cell, h the count. -/
structure GLo (w : World) (H K N x h : Nat) (cs : List Int) : Prop where
  hd : Cells w H #[.slice (some ⟨K, 0, none⟩) N N, .int .i64 (x : Int), .int .i64 (h : Int)] 53
  row : Cells w K (gvb cs).toArray 5
  len : cs.length = N
  n1 : 1 ≤ N
  n2 : N ≤ 32768
  xlt : x < N
  hle : h ≤ N
  ne : H ≠ K
section
variable {w u : World} {H K N x h : Nat} {cs : List Int}
theorem GLo.drewN (l : GLo w H K N x h cs) (n : Nat) : GLo (w.drewN n) H K N x h cs := ⟨l.hd, l.row, l.len, l.n1, l.n2, l.xlt, l.hle, l.ne⟩
theorem GLo.drew (l : GLo w H K N x h cs) : GLo w.drew H K N x h cs := ⟨l.hd, l.row, l.len, l.n1, l.n2, l.xlt, l.hle, l.ne⟩
theorem GLo.only {c : Nat} (l : GLo w H K N x h cs) (k : Only c w u) (h1 : H ≠ c) (h2 : K ≠ c) : GLo u H K N x h cs := ⟨l.hd.only k h1, l.row.only k h2, l.len, l.n1, l.n2, l.xlt, l.hle, l.ne⟩
theorem GLo.below {B : Nat} (l : GLo w H K N x h cs) (k : Below B w u) (h1 : H < B) (h2 : K < B) : GLo u H K N x h cs := ⟨l.hd.below k h1, l.row.below k h2, l.len, l.n1, l.n2, l.xlt, l.hle, l.ne⟩
theorem GLo.alloc (l : GLo w H K N x h cs) (o : Obj) : GLo (w.alloc o) H K N x h cs := ⟨l.hd.alloc o, l.row.alloc o, l.len, l.n1, l.n2, l.xlt, l.hle, l.ne⟩
theorem GLo.c0 (l : GLo w H K N x h cs) : w.cell? ⟨H, 0, none⟩ = some (.slice (some ⟨K, 0, none⟩) N N) := (l.hd.cell 0).trans rfl
theorem GLo.c1 (l : GLo w H K N x h cs) : w.cell? ⟨H, 1, none⟩ = some (.int .i64 (x : Int)) := (l.hd.cell 1).trans rfl
theorem GLo.c2 (l : GLo w H K N x h cs) : w.cell? ⟨H, 2, none⟩ = some (.int .i64 (h : Int)) := (l.hd.cell 2).trans rfl
theorem GLo.set (l : GLo w H K N x h cs) (x' h' : Nat) (hx : x' < N) (hh : h' ≤ N) : GLo ((w.setCell ⟨H, 1, none⟩ (.int .i64 (x' : Int))).setCell ⟨H, 2, none⟩ (.int .i64 (h' : Int))) H K N x' h' cs := by
  refine ⟨?_, ?_, l.len, l.n1, l.n2, hx, hh, l.ne⟩
  · exact ((l.hd.set 1 _).set 2 _)
  · exact l.row.only (((Only.refl H w).setCell 1 _).setCell 2 _) l.ne.symm
end

theorem gnew_yes (n : Nat) (w : World) (h1 : 1 ≤ n) (h2 : n ≤ 32768) : Calls Tryd.prog 12 #[.int .i64 n] w fun e w' => e = .returned (.tuple #[.pointer (some ⟨w.heap.size + 1, 0, none⟩), .int .i64 0]) ∧
    GLo w' (w.heap.size + 1) w.heap.size n 0 0 (List.replicate n 0) ∧ Below w.heap.size w w' ∧ w'.heap.size = w.heap.size + 2 := by
  have e1 : ¬ (n : Int) < 1 := by omega
  have e2 : ¬ (32768 : Int) < n := by omega
  have hm := gmade n (by omega) w
  generalize hcs : (gvb (List.replicate n 0)).toArray = cs at hm
  go_enter Tryd.func12, Tryd.ntmps12
  go_wp2
  go_ret2
  refine ⟨rfl, ⟨?_, ?_, by simp, h1, h2, h1, Nat.zero_le _, by omega⟩, ?_, ?_⟩
  · have := Cells.new (w.alloc (.cells cs 5)) #[.slice (some ⟨w.heap.size, 0, none⟩) n n, .int .i64 0, .int .i64 0] 53
    simpa using this
  · rw [hcs]
    exact (Cells.new w cs 5).alloc _
  · exact ((Below.refl _ _).alloc (Nat.le_refl _) _).alloc (by simp) _
  · simp
theorem glen_c {H K N x h : Nat} {cs : List Int} (w : World) (l : GLo w H K N x h cs) : Calls Tryd.prog 53 #[.pointer (some ⟨H, 0, none⟩)] w fun e w' => e = .returned (.int .i64 (h : Int)) ∧ w = w' := by
  have h2 := l.c2
  go_enter Tryd.func53, Tryd.ntmps53
  go_wp2
  go_ret
  exact ⟨rfl, rfl⟩
theorem gsize_c {H K N x h : Nat} {cs : List Int} (w : World) (l : GLo w H K N x h cs) : Calls Tryd.prog 48 #[.pointer (some ⟨H, 0, none⟩)] w fun e w' => e = .returned (.int .i64 (N : Int)) ∧ w = w' := by
  have h2 := l.c0
  go_enter Tryd.func48, Tryd.ntmps48
  go_wp2
  go_ret
  exact ⟨rfl, rfl⟩
theorem gmin_i (h n N : Nat) : (if (N : Int) < (h : Int) + n then (N : Int) else (h : Int) + n) = ((min (h + n) N : Nat) : Int) := by
  split <;> omega
theorem gmove_c {H K N x h : Nat} {cs : List Int} (n : Nat) (w : World) (l : GLo w H K N x h cs) (hn : n ≤ N) : Calls Tryd.prog 49 #[.pointer (some ⟨H, 0, none⟩), .int .i64 (n : Int)] w fun e w' => e = .returned (.tuple #[]) ∧ GLo w' H K N (gfwd N x n) (min (h + n) N) cs ∧ Only H w w' := by
  have h0 := l.c0
  have h1 := l.c1
  have h2 := l.c2
  have h3 := l.hd.frozen 1
  have h4 := l.hd.frozen 2
  have n2 := l.n2
  have xlt := l.xlt
  have hle := l.hle
  have hfl := gfwd_lt xlt hn
  go_enter Tryd.func49, Tryd.ntmps49
  by_cases hf : x + n < N
  · have hf1 : ¬ (N : Int) ≤ (x : Int) + n := by omega
    have hfw : gfwd N x n = x + n := by unfold gfwd; rw [if_pos hf]
    go_wp2_with fail
    go_quiet (fail)
    go_wp2_with fail
    go_region
    go_end0
    rw [gmin_i]
    refine ⟨rfl, ⟨?_, l.row.only ((((Only.refl H w).setCell 1 _).drewN _).setCell 2 _) l.ne.symm, l.len, l.n1, l.n2, hfl, Nat.min_le_right _ _, l.ne⟩, (((Only.refl H w).setCell 1 _).drewN _).setCell 2 _⟩
    rw [hfw]
    exact (((l.hd.set 1 (.int .i64 ((x : Int) + n))).drewN _).set 2 _)
  · have hf1 : (N : Int) ≤ (x : Int) + n := by omega
    have hfw : ((gfwd N x n : Nat) : Int) = (x : Int) + n - N := by unfold gfwd; rw [if_neg hf]; omega
    go_wp2_with fail
    go_quiet (fail)
    go_wp2_with fail
    go_region
    go_wp2_with fail
    go_region
    go_end0
    rw [gmin_i]
    refine ⟨rfl, ⟨?_, l.row.only ((((((Only.refl H w).setCell 1 _).drewN _).setCell 1 _).drewN _).setCell 2 _) l.ne.symm, l.len, l.n1, l.n2, hfl, Nat.min_le_right _ _, l.ne⟩, (((((Only.refl H w).setCell 1 _).drewN _).setCell 1 _).drewN _).setCell 2 _⟩
    rw [hfw]
    exact (((((l.hd.set 1 (.int .i64 ((x : Int) + n))).drewN _).set 1 (.int .i64 ((x : Int) + n - N))).drewN _).set 2 _)
theorem gcell_c {H K N x h : Nat} {cs : List Int} (d : Nat) (w : World) (l : GLo w H K N x h cs) (hd : d ≤ N) : Calls Tryd.prog 56 #[.pointer (some ⟨H, 0, none⟩), .int .i64 (d : Int)] w fun e w' => e = .returned (.int .i64 ((gbck N x d : Nat) : Int)) ∧ w' = w := by
  have h0 := l.c0
  have h1 := l.c1
  have n2 := l.n2
  have xlt := l.xlt
  go_enter Tryd.func56, Tryd.ntmps56
  by_cases hf : d ≤ x
  · have hf1 : ¬ (x : Int) - d < 0 := by omega
    have hb : ((gbck N x d : Nat) : Int) = (x : Int) - d := by unfold gbck; rw [if_pos hf]; omega
    go_wp2_with fail
    go_ret
    exact ⟨by first | rfl | (rw [hb]; rfl), rfl⟩
  · have hf1 : (x : Int) - d < 0 := by omega
    have hb : ((gbck N x d : Nat) : Int) = (x : Int) - d + N := by unfold gbck; rw [if_neg hf]; omega
    go_wp2_with fail
    go_ret
    exact ⟨by first | rfl | (rw [hb]; rfl), rfl⟩
theorem Cells.gbyte {w : World} {b : Nat} {cs : List Int} (h : Cells w b (gvb cs).toArray 5) {i : Nat} {z : Int} (hi : cs[i]? = some z) : w.cell? ⟨b, i, none⟩ = some (.int .u8 z) := by
  rw [h.cell i, List.getElem?_toArray, gvb_get, hi]; rfl
theorem gvb_set (cs : List Int) (i : Nat) (z : Int) : (gvb cs).toArray.setIfInBounds i (.int .u8 z) = (gvb (cs.set i z)).toArray := by
  simp [gvb, List.map_set]
theorem gput_c {H K N x h : Nat} {cs : List Int} (z : Int) (w : World) (l : GLo w H K N x h cs) : Calls Tryd.prog 41 #[.pointer (some ⟨H, 0, none⟩), .int .u8 z] w fun e w' => e = .returned (.tuple #[]) ∧ GLo w' H K N (gfwd N x 1) (min (h + 1) N) (cs.set x z) ∧ GTwo H K w w' := by
  have h0 := l.c0
  have h1 := l.c1
  have n1 := l.n1
  have xlt := l.xlt
  have hx : x < cs.length := by rw [l.len]; exact xlt
  have hxi : (x : Int) < (N : Int) := by omega
  have hr := l.row.gbyte (List.getElem?_eq_getElem hx)
  have hrf := l.row.frozen x
  have hN0 : ((N : Int) == 0) = false := by simp; omega
  go_enter Tryd.func41, Tryd.ntmps41
  go_wp2_with fail
  refine (gsize_c _ l).mono ?_
  rintro e w' ⟨rfl, rfl⟩
  go_wp2_with fail
  go_region
  have ho : Only K w ((w.setCell ⟨K, x, none⟩ (.int .u8 z)).drewN 1) := ((Only.refl K w).setCell x _).drewN 1
  have l2 : GLo ((w.setCell ⟨K, x, none⟩ (.int .u8 z)).drewN 1) H K N x h (cs.set x z) := by
    refine ⟨l.hd.only ho l.ne, ?_, by rw [List.length_set]; exact l.len, l.n1, l.n2, l.xlt, l.hle, l.ne⟩
    have := (l.row.set x (.int .u8 z)).drewN 1
    rwa [gvb_set] at this
  clear h0 h1 hr hrf hN0
  go_wp2_with fail
  refine (gmove_c 1 _ l2 n1).mono ?_
  rintro e w' ⟨rfl, l3, ho3⟩
  go_wp2_with fail
  first | go_end0 | (refine bodyPost_ret (results_none rfl _ _ _) rfl ?_)
  exact ⟨rfl, l3, (GTwo.snd ho).trans (GTwo.fst ho3)⟩
theorem gback_no {H K N x h : Nat} {cs : List Int} (d : Int) (w : World) (l : GLo w H K N x h cs) (hd : d < 1 ∨ (h : Int) < d) : Calls Tryd.prog 55 #[.pointer (some ⟨H, 0, none⟩), .int .i64 d] w fun e w' => e = .returned (.tuple #[.int .u8 0, .bool false]) ∧ w = w' := by
  go_enter Tryd.func55, Tryd.ntmps55
  by_cases h1 : d < 1
  · go_wp2_with fail
    go_ret2
    exact ⟨rfl, rfl⟩
  · have h0 : (h : Int) < d := by omega
    go_wp2_with fail
    refine (glen_c _ l).mono ?_
    rintro e w' ⟨rfl, rfl⟩
    go_wp2_with fail
    go_ret2
    exact ⟨rfl, rfl⟩
theorem gback_yes {H K N x h : Nat} {cs : List Int} (d : Nat) (z : Int) (w : World) (l : GLo w H K N x h cs) (h1 : 1 ≤ d) (h2 : d ≤ h) (hz : cs[gbck N x d]? = some z) :
    Calls Tryd.prog 55 #[.pointer (some ⟨H, 0, none⟩), .int .i64 (d : Int)] w fun e w' => e = .returned (.tuple #[.int .u8 z, .bool true]) ∧ ∃ n, w' = w.drewN n := by
  have hle := l.hle
  have hd : d ≤ N := Nat.le_trans h2 hle
  have e1 : ¬ (d : Int) < 1 := by omega
  have e2 : ¬ (h : Int) < (d : Int) := by omega
  have hb := gbck_lt l.xlt h1 hd
  have hr := l.row.gbyte hz
  have hc := fun w' (l' : GLo w' H K N x h cs) => gcell_c d w' l' hd
  clear hz
  generalize gbck N x d = p at *
  have hpi : (p : Int) < (N : Int) := by omega
  have h0 := l.c0
  go_enter Tryd.func55, Tryd.ntmps55
  go_wp2_with fail
  refine (glen_c _ l).mono ?_
  rintro e w' ⟨rfl, rfl⟩
  go_wp2_with fail
  go_quiet ((first | (go_at_call 56; refine Calls.quiet_of_same (hc _ ?_); first | exact l.drewN _ | exact l | exact l.drew)))
  go_wp2_with fail
  go_ret2
  exact ⟨rfl, _, rfl⟩
end Go.Proofs.YtikdpnpkmmmacabDoor

/-
  What Put, Back, Clear, Len, Size and Tail of the ring come to, at a window in memory that holds a list of bytes; and Same of two lists that are one.
  Conditions: the window has a size from 1 to 32768, and the list is not longer; each method keeps that.
-/
namespace Go.Proofs.YtikdpnpkmmmacabDoor
open Go.RowKit
set_option linter.unusedVariables false

/-- Block H holds a window of N cells, which lie in block K; l is what is in it. -/
structure GRg (w : World) (H K N : Nat) (l : List Int) : Prop where
  ex : ∃ x cs, GLo w H K N x l.length cs ∧ GHolds N x cs l
section
variable {w u : World} {H K N : Nat} {l : List Int}
theorem GRg.drewN (r : GRg w H K N l) (n : Nat) : GRg (w.drewN n) H K N l := by obtain ⟨x, cs, lo, hh⟩ := r.ex; exact ⟨x, cs, lo.drewN n, hh⟩
theorem GRg.drew (r : GRg w H K N l) : GRg w.drew H K N l := by obtain ⟨x, cs, lo, hh⟩ := r.ex; exact ⟨x, cs, lo.drew, hh⟩
theorem GRg.only {c : Nat} (r : GRg w H K N l) (k : Only c w u) (h1 : H ≠ c) (h2 : K ≠ c) : GRg u H K N l := by obtain ⟨x, cs, lo, hh⟩ := r.ex; exact ⟨x, cs, lo.only k h1 h2, hh⟩
theorem GRg.below {B : Nat} (r : GRg w H K N l) (k : Below B w u) (h1 : H < B) (h2 : K < B) : GRg u H K N l := by obtain ⟨x, cs, lo, hh⟩ := r.ex; exact ⟨x, cs, lo.below k h1 h2, hh⟩
theorem GRg.alloc (r : GRg w H K N l) (o : Obj) : GRg (w.alloc o) H K N l := by obtain ⟨x, cs, lo, hh⟩ := r.ex; exact ⟨x, cs, lo.alloc o, hh⟩
theorem GRg.two {a b : Nat} (r : GRg w H K N l) (k : GTwo a b w u) (h1 : H ≠ a) (h2 : K ≠ a) (h3 : H ≠ b) (h4 : K ≠ b) : GRg u H K N l := by
  obtain ⟨x, cs, lo, hh⟩ := r.ex
  refine ⟨x, cs, ⟨?_, ?_, lo.len, lo.n1, lo.n2, lo.xlt, lo.hle, lo.ne⟩, hh⟩
  · have := lo.hd; unfold Cells at *; rw [k.block H h1 h3]; exact this
  · have := lo.row; unfold Cells at *; rw [k.block K h2 h4]; exact this
theorem GRg.lt (r : GRg w H K N l) : H < w.heap.size ∧ K < w.heap.size := by obtain ⟨x, cs, lo, hh⟩ := r.ex; exact ⟨lo.hd.lt, lo.row.lt⟩
theorem GRg.le (r : GRg w H K N l) : l.length ≤ N ∧ N ≤ 32768 ∧ 1 ≤ N := by obtain ⟨x, cs, lo, hh⟩ := r.ex; exact ⟨lo.hle, lo.n2, lo.n1⟩
end
theorem gnew_r (n : Nat) (w : World) (h1 : 1 ≤ n) (h2 : n ≤ 32768) : Calls Tryd.prog 12 #[.int .i64 n] w fun e w' => e = .returned (.tuple #[.pointer (some ⟨w.heap.size + 1, 0, none⟩), .int .i64 0]) ∧
    GRg w' (w.heap.size + 1) w.heap.size n [] ∧ Below w.heap.size w w' ∧ w'.heap.size = w.heap.size + 2 :=
  (gnew_yes n w h1 h2).mono fun _ _ h => ⟨h.1, ⟨0, _, h.2.1, gholds_nil _ _ _⟩, h.2.2⟩
section
variable {H K N : Nat} {l : List Int}
theorem glen_r (w : World) (r : GRg w H K N l) : Calls Tryd.prog 53 #[.pointer (some ⟨H, 0, none⟩)] w fun e w' => e = .returned (.int .i64 (l.length : Int)) ∧ w = w' := by
  obtain ⟨x, cs, lo, hh⟩ := r.ex; exact glen_c w lo
theorem gsize_r (w : World) (r : GRg w H K N l) : Calls Tryd.prog 48 #[.pointer (some ⟨H, 0, none⟩)] w fun e w' => e = .returned (.int .i64 (N : Int)) ∧ w = w' := by
  obtain ⟨x, cs, lo, hh⟩ := r.ex; exact gsize_c w lo
theorem gput_r (z : Int) (w : World) (r : GRg w H K N l) : Calls Tryd.prog 41 #[.pointer (some ⟨H, 0, none⟩), .int .u8 z] w fun e w' => e = .returned (.tuple #[]) ∧ GRg w' H K N (glastN N (l ++ [z])) ∧ GTwo H K w w' := by
  obtain ⟨x, cs, lo, hh⟩ := r.ex
  refine (gput_c z w lo).mono fun _ _ h => ⟨h.1, ⟨_, _, ?_, gput_holds hh lo.len lo.xlt lo.hle z⟩, h.2.2⟩
  rw [glastN_length, List.length_append, List.length_singleton]
  exact h.2.1
theorem gback_r_no (d : Int) (w : World) (r : GRg w H K N l) (hd : d < 1 ∨ (l.length : Int) < d) : Calls Tryd.prog 55 #[.pointer (some ⟨H, 0, none⟩), .int .i64 d] w fun e w' => e = .returned (.tuple #[.int .u8 0, .bool false]) ∧ w = w' := by
  obtain ⟨x, cs, lo, hh⟩ := r.ex; exact gback_no d w lo hd
theorem gback_r (d : Nat) (z : Int) (w : World) (r : GRg w H K N l) (h1 : 1 ≤ d) (h2 : d ≤ l.length) (hz : l[l.length - d]? = some z) :
    Calls Tryd.prog 55 #[.pointer (some ⟨H, 0, none⟩), .int .i64 (d : Int)] w fun e w' => e = .returned (.tuple #[.int .u8 z, .bool true]) ∧ ∃ n, w' = w.drewN n := by
  obtain ⟨x, cs, lo, hh⟩ := r.ex
  exact gback_yes d z w lo h1 h2 ((hh d h1 h2).trans hz)
end

end Go.Proofs.YtikdpnpkmmmacabDoor

/-
  What deflated bytes give, as a machine of small steps over their bits: each step is done as soon as its last bit is there. No walk in this text.
-/
namespace Go.Proofs.YtikdpnpkmmmacabDoor
set_option linter.unusedVariables false
/-- All bits of some bytes. -/
def allb (B : List Nat) : List Bool := B.flatMap (bitsOf 8)
/-- A number of n bits from place p on, if they are there. -/
def num? (bs : List Bool) (p n : Nat) : Option Nat := if p + n ≤ bs.length then some (nm ((bs.drop p).take n)) else none
/-- What reading a symbol comes to. -/
abbrev SR := Option ((Nat × Nat) ⊕ Nat)
abbrev SR.got (s n : Nat) : SR := some (.inl (s, n))
abbrev SR.bad (j : Nat) : SR := some (.inr j)
abbrev SR.cut : SR := none
theorem SR.el {motive : SR → Prop} (r : SR) (got : ∀ s n, motive (.got s n)) (bad : ∀ j, motive (.bad j)) (cut : motive .cut) : motive r :=
  match r with
  | some (.inl (s, n)) => got s n
  | some (.inr j) => bad j
  | none => cut
def hitb (ls : List Nat) (h : List Bool) (s : Nat) : Bool := match ls[s]? with
  | some n => decide (0 < n ∧ n ≤ h.length ∧ num (h.take n) = code ls s n)
  | none => false
def mayb (ls : List Nat) (h : List Bool) : Bool := (List.range ls.length).any fun s => match ls[s]? with
  | some n => decide (0 < n ∧ h.length ≤ n ∧ code ls s n / 2 ^ (n - h.length) = num h)
  | none => false
def sread (ls : List Nat) (h : List Bool) : SR := match (List.range ls.length).find? (hitb ls h) with
  | some s => .got s (ls.getD s 0)
  | none => match (List.range (h.length + 1)).find? (fun j => !mayb ls (h.take j)) with
    | some j => .bad j
    | none => .cut
theorem hitb_iff {ls : List Nat} {h : List Bool} {s : Nat} : hitb ls h s = true ↔ ∃ n, Hit ls h s n := by
  unfold hitb Hit
  cases e : ls[s]? with
  | none => simp
  | some n => simp
theorem mayb_iff {ls : List Nat} {h : List Bool} : mayb ls h = true ↔ May ls h := by
  unfold mayb May
  rw [List.any_eq_true]
  constructor
  · rintro ⟨s, _, hs⟩
    cases e : ls[s]? with
    | none => rw [e] at hs; cases hs
    | some n => rw [e] at hs; have := of_decide_eq_true hs; exact ⟨s, n, e, this.1, this.2.1, this.2.2⟩
  · rintro ⟨s, n, h1, h2, h3, h4⟩
    exact ⟨s, List.mem_range.2 (List.getElem?_eq_some_iff.1 h1).1, by rw [h1]; exact decide_eq_true ⟨h2, h3, h4⟩⟩
theorem sread_got {ls : List Nat} {h : List Bool} {s n : Nat} (hh : Hit ls h s n) : sread ls h = .got s n := by
  have hs := (List.getElem?_eq_some_iff.1 hh.1).1
  unfold sread
  cases e : (List.range ls.length).find? (hitb ls h) with
  | none =>
    have := List.find?_eq_none.1 e s (List.mem_range.2 hs)
    exact absurd (hitb_iff.2 ⟨n, hh⟩) this
  | some s' =>
    obtain ⟨n', h'⟩ := hitb_iff.1 (List.find?_some e)
    obtain ⟨rfl, rfl⟩ := hit_one h' hh
    simp only []
    rw [List.getD_eq_getElem?_getD, hh.1]; rfl
theorem find_range {p : Nat → Bool} {n j : Nat} (hj : j < n) (h1 : p j = true) (h2 : ∀ k, k < j → p k = false) : (List.range n).find? p = some j := by
  rw [List.find?_eq_some_iff_append]
  refine ⟨h1, List.range j, (List.range (n - (j + 1))).map (fun x => j + 1 + x), ?_, fun a ha => by rw [h2 a (List.mem_range.1 ha)]; rfl⟩
  have e : n = j + 1 + (n - (j + 1)) := by omega
  rw [e, List.range_add, List.range_succ]
  simp
theorem may_less {ls : List Nat} {h : List Bool} {k : Nat} (hm : May ls h) (hk : k ≤ h.length) : May ls (h.take k) := by
  obtain ⟨s, n, h1, h2, h3, h4⟩ := hm
  have hl : (h.take k).length = k := by rw [List.length_take]; omega
  refine ⟨s, n, h1, h2, by omega, ?_⟩
  have e := take_num (h := h) hk (Nat.le_refl _)
  rw [List.take_length] at e
  rw [hl, e, ← h4, Nat.div_div_eq_div_mul, ← Nat.pow_add, show n - h.length + (h.length - k) = n - k by omega]
theorem hit_may {ls : List Nat} {h : List Bool} {s n k : Nat} (hh : Hit ls h s n) (hk : k ≤ n) : May ls (h.take k) := by
  obtain ⟨h1, h2, h3, h4⟩ := hh
  have hl : (h.take k).length = k := by rw [List.length_take]; omega
  refine ⟨s, n, h1, h2, by omega, ?_⟩
  rw [hl, ← h4]
  exact (take_num hk h3).symm
theorem hit_take {ls : List Nat} {h : List Bool} {s n j : Nat} (hh : Hit ls h s n) (hj : n ≤ j) : Hit ls (h.take j) s n := by
  obtain ⟨h1, h2, h3, h4⟩ := hh
  exact ⟨h1, h2, by rw [List.length_take]; omega, by rw [List.take_take, Nat.min_eq_left hj]; exact h4⟩
theorem hit_of_take {ls : List Nat} {h : List Bool} {s n j : Nat} (hh : Hit ls (h.take j) s n) : Hit ls h s n := by
  obtain ⟨h1, h2, h3, h4⟩ := hh
  rw [List.length_take] at h3
  exact ⟨h1, h2, by omega, by rw [List.take_take, Nat.min_eq_left (by omega)] at h4; exact h4⟩
theorem sread_no {ls : List Nat} {h : List Bool} (hn : ∀ s n, ¬ Hit ls h s n) : (List.range ls.length).find? (hitb ls h) = none := by
  rw [List.find?_eq_none]
  intro s _ hs
  obtain ⟨n, hh⟩ := hitb_iff.1 hs
  exact hn s n hh
theorem sread_bad {ls : List Nat} {h : List Bool} {j : Nat} (hj : j ≤ h.length) (h1 : ∀ s n, ¬ Hit ls (h.take j) s n) (h2 : ¬ May ls (h.take j)) (h3 : ∀ k, k < j → May ls (h.take k)) : sread ls h = .bad j := by
  have hn : ∀ s n, ¬ Hit ls h s n := by
    intro s n hh
    rcases Nat.lt_or_ge j n with hlt | hge
    · exact h2 (hit_may hh (by omega))
    · exact h1 s n (hit_take hh hge)
  unfold sread
  rw [sread_no hn]
  have : (List.range (h.length + 1)).find? (fun j => !mayb ls (h.take j)) = some j := find_range (by omega) (by
    cases e : mayb ls (h.take j)
    · rfl
    · exact absurd (mayb_iff.1 e) h2) (fun k hk => by rw [mayb_iff.2 (h3 k hk)]; rfl)
  simp only [this]
theorem sread_cut {ls : List Nat} {h : List Bool} (h1 : ∀ s n, ¬ Hit ls h s n) (h2 : May ls h) : sread ls h = .cut := by
  unfold sread
  rw [sread_no h1]
  have : (List.range (h.length + 1)).find? (fun j => !mayb ls (h.take j)) = none := by
    rw [List.find?_eq_none]
    intro j hj
    rw [mayb_iff.2 (may_less h2 (by have := List.mem_range.1 hj; omega))]
    simp
  simp only [this]
/-- A length symbol's least length, and how many bits stand behind it. -/
def lbase (s : Nat) : Nat := if s = 285 then 258 else (List.range (s - 257)).foldl (fun a i => a + 2 ^ (if 265 ≤ i + 257 then (i + 257 - 261) / 4 else 0)) 3
def lmore (s : Nat) : Nat := if s = 285 then 0 else if 265 ≤ s then (s - 261) / 4 else 0
def dbase (x : Nat) : Nat := (List.range x).foldl (fun a i => a + 2 ^ (if 4 ≤ i then (i - 2) / 2 else 0)) 1
def dmore (x : Nat) : Nat := if 4 ≤ x then (x - 2) / 2 else 0
def fixL : List Nat := (List.range 288).map fun i => if 256 ≤ i ∧ i < 280 then 7 else if 144 ≤ i ∧ i < 256 then 9 else 8
def fixD : List Nat := List.replicate 32 5
def ordr : List Nat := [16, 17, 18, 0, 8, 7, 9, 6, 10, 5, 11, 4, 12, 3, 13, 2, 14, 1, 15]
/-- What comes next. -/
abbrev St := ((((Bool ⊕ Bool) ⊕ ((Bool × Nat) ⊕ (Bool × Nat))) ⊕ ((Bool ⊕ (Bool × Nat × Nat × Nat × Nat × List Nat)) ⊕ ((Bool × Nat × Nat × List Nat × List Nat) ⊕ (Bool × Nat × Nat × List Nat × List Nat × Nat)))) ⊕ ((((Bool × List Nat × List Nat) ⊕ (Bool × List Nat × List Nat × Nat)) ⊕ ((Bool × List Nat × List Nat × Nat) ⊕ (Bool × List Nat × List Nat × Nat × Nat))) ⊕ (((Bool × List Nat × List Nat × Nat × Nat) ⊕ Unit) ⊕ Nat)))
abbrev St.head (last : Bool) : St := .inl (.inl (.inl (.inl last)))
abbrev St.slen (last : Bool) : St := .inl (.inl (.inl (.inr last)))
abbrev St.snot (last : Bool) (l : Nat) : St := .inl (.inl (.inr (.inl (last, l))))
abbrev St.sraw (last : Bool) (n : Nat) : St := .inl (.inl (.inr (.inr (last, n))))
abbrev St.dnum (last : Bool) : St := .inl (.inr (.inl (.inl last)))
abbrev St.dfst (last : Bool) (a : Nat) (b : Nat) (c : Nat) (i : Nat) (first : List Nat) : St := .inl (.inr (.inl (.inr (last, a, b, c, i, first))))
abbrev St.dsym (last : Bool) (a : Nat) (b : Nat) (code : List Nat) (l : List Nat) : St := .inl (.inr (.inr (.inl (last, a, b, code, l))))
abbrev St.drep (last : Bool) (a : Nat) (b : Nat) (code : List Nat) (l : List Nat) (s : Nat) : St := .inl (.inr (.inr (.inr (last, a, b, code, l, s))))
abbrev St.sym (last : Bool) (lit : List Nat) (dist : List Nat) : St := .inr (.inl (.inl (.inl (last, lit, dist))))
abbrev St.lext (last : Bool) (lit : List Nat) (dist : List Nat) (s : Nat) : St := .inr (.inl (.inl (.inr (last, lit, dist, s))))
abbrev St.dist (last : Bool) (lit : List Nat) (dist : List Nat) (n : Nat) : St := .inr (.inl (.inr (.inl (last, lit, dist, n))))
abbrev St.dext (last : Bool) (lit : List Nat) (dist : List Nat) (n : Nat) (x : Nat) : St := .inr (.inl (.inr (.inr (last, lit, dist, n, x))))
abbrev St.copy (last : Bool) (lit : List Nat) (dist : List Nat) (n : Nat) (d : Nat) : St := .inr (.inr (.inl (.inl (last, lit, dist, n, d))))
abbrev St.done : St := .inr (.inr (.inl (.inr ())))
abbrev St.bad (why : Nat) : St := .inr (.inr (.inr why))
theorem St.el {motive : St → Prop} (s : St) (head : ∀ (last_ : Bool), motive (.head last_)) (slen : ∀ (last_ : Bool), motive (.slen last_)) (snot : ∀ (last_ : Bool) (l_ : Nat), motive (.snot last_ l_)) (sraw : ∀ (last_ : Bool) (n_ : Nat), motive (.sraw last_ n_)) (dnum : ∀ (last_ : Bool), motive (.dnum last_)) (dfst : ∀ (last_ : Bool) (a_ : Nat) (b_ : Nat) (c_ : Nat) (i_ : Nat) (first_ : List Nat), motive (.dfst last_ a_ b_ c_ i_ first_)) (dsym : ∀ (last_ : Bool) (a_ : Nat) (b_ : Nat) (code_ : List Nat) (l_ : List Nat), motive (.dsym last_ a_ b_ code_ l_)) (drep : ∀ (last_ : Bool) (a_ : Nat) (b_ : Nat) (code_ : List Nat) (l_ : List Nat) (s_ : Nat), motive (.drep last_ a_ b_ code_ l_ s_)) (sym : ∀ (last_ : Bool) (lit_ : List Nat) (dist_ : List Nat), motive (.sym last_ lit_ dist_)) (lext : ∀ (last_ : Bool) (lit_ : List Nat) (dist_ : List Nat) (s_ : Nat), motive (.lext last_ lit_ dist_ s_)) (dist : ∀ (last_ : Bool) (lit_ : List Nat) (dist_ : List Nat) (n_ : Nat), motive (.dist last_ lit_ dist_ n_)) (dext : ∀ (last_ : Bool) (lit_ : List Nat) (dist_ : List Nat) (n_ : Nat) (x_ : Nat), motive (.dext last_ lit_ dist_ n_ x_)) (copy : ∀ (last_ : Bool) (lit_ : List Nat) (dist_ : List Nat) (n_ : Nat) (d_ : Nat), motive (.copy last_ lit_ dist_ n_ d_)) (done : motive (.done)) (bad : ∀ (why_ : Nat), motive (.bad why_)) : motive s :=
  match s with
  | .inl (.inl (.inl (.inl last_))) => head last_
  | .inl (.inl (.inl (.inr last_))) => slen last_
  | .inl (.inl (.inr (.inl (last_, l_)))) => snot last_ l_
  | .inl (.inl (.inr (.inr (last_, n_)))) => sraw last_ n_
  | .inl (.inr (.inl (.inl last_))) => dnum last_
  | .inl (.inr (.inl (.inr (last_, a_, b_, c_, i_, first_)))) => dfst last_ a_ b_ c_ i_ first_
  | .inl (.inr (.inr (.inl (last_, a_, b_, code_, l_)))) => dsym last_ a_ b_ code_ l_
  | .inl (.inr (.inr (.inr (last_, a_, b_, code_, l_, s_)))) => drep last_ a_ b_ code_ l_ s_
  | .inr (.inl (.inl (.inl (last_, lit_, dist_)))) => sym last_ lit_ dist_
  | .inr (.inl (.inl (.inr (last_, lit_, dist_, s_)))) => lext last_ lit_ dist_ s_
  | .inr (.inl (.inr (.inl (last_, lit_, dist_, n_)))) => dist last_ lit_ dist_ n_
  | .inr (.inl (.inr (.inr (last_, lit_, dist_, n_, x_)))) => dext last_ lit_ dist_ n_ x_
  | .inr (.inr (.inl (.inl (last_, lit_, dist_, n_, d_)))) => copy last_ lit_ dist_ n_ d_
  | .inr (.inr (.inl (.inr ()))) => done 
  | .inr (.inr (.inr why_)) => bad why_
structure Cfg where
  st : St
  pos : Nat
  out : List Nat
  times : List Nat
/-- A byte is known, with the bits up to p; most: how many may be. -/
def give (most : Nat) (k : St) (b p : Nat) (c : Cfg) : Cfg := if c.out.length < most then ⟨k, p, c.out ++ [b], c.times ++ [(p - 1) / 8]⟩ else ⟨.bad 62, p, c.out, c.times⟩
/-- May lengths be those of codes? -/
def mays (ls : List Nat) : Bool := decide (ls.length ≤ 320 ∧ (∀ l ∈ ls, l ≤ 15) ∧ kr ls ≤ 32768 ∧ ¬ Under ls)
/-- One step; none: more bits are wanted, or it is over. -/
def step (bs : List Bool) (most : Nat) (c : Cfg) : Option Cfg := match c.st with
  | .inl (.inl (.inl (.inl true))) => some ⟨.done, c.pos, c.out, c.times⟩
  | .inl (.inl (.inl (.inl false))) => (num? bs c.pos 3).map fun v => ⟨match v / 2 with
      | 0 => .slen (v % 2 == 1)
      | 1 => .sym (v % 2 == 1) fixL fixD
      | 2 => .dnum (v % 2 == 1)
      | _ => .bad 10, c.pos + 3, c.out, c.times⟩
  | .inl (.inl (.inl (.inr last))) => (num? bs ((c.pos + 7) / 8 * 8) 16).map fun v => ⟨.snot last v, (c.pos + 7) / 8 * 8 + 16, c.out, c.times⟩
  | .inl (.inl (.inr (.inl (last, l)))) => (num? bs c.pos 16).map fun m => ⟨if l + m = 65535 then .sraw last l else .bad 11, c.pos + 16, c.out, c.times⟩
  | .inl (.inl (.inr (.inr (last, 0)))) => some ⟨.head last, c.pos, c.out, c.times⟩
  | .inl (.inl (.inr (.inr (last, (n + 1))))) => (num? bs c.pos 8).map fun v => give most (.sraw last n) v (c.pos + 8) c
  | .inl (.inr (.inl (.inl last))) => (num? bs c.pos 14).map fun v => ⟨if 286 < 257 + v % 32 ∨ 30 < 1 + v / 32 % 32 then .bad 12 else .dfst last (257 + v % 32) (1 + v / 32 % 32) (4 + v / 1024) 0 (List.replicate 19 0), c.pos + 14, c.out, c.times⟩
  | .inl (.inr (.inl (.inr (last, a, b, k, i, first)))) => if i < k then (num? bs c.pos 3).map fun v => ⟨.dfst last a b k (i + 1) (first.set (ordr.getD i 0) v), c.pos + 3, c.out, c.times⟩
      else some ⟨if kr first = 32768 then .dsym last a b first [] else .bad 12, c.pos, c.out, c.times⟩
  | .inl (.inr (.inr (.inl (last, a, b, code, l)))) => if l.length < a + b then match sread code (bs.drop c.pos) with
        | none => none
        | some (.inr j) => some ⟨.bad 13, c.pos + j, c.out, c.times⟩
        | some (.inl (s, n)) => some ⟨if s < 16 then .dsym last a b code (l ++ [s]) else if s = 16 ∧ l = [] then .bad 12 else .drep last a b code l s, c.pos + n, c.out, c.times⟩
      else some ⟨if l.getD 256 0 = 0 ∨ mays (l.take a) = false ∨ mays (l.drop a) = false then .bad 12 else .sym last (l.take a) (l.drop a), c.pos, c.out, c.times⟩
  | .inl (.inr (.inr (.inr (last, a, b, code, l, s)))) => (num? bs c.pos (if s = 16 then 2 else if s = 17 then 3 else 7)).map fun v =>
      ⟨if a + b < l.length + ((if s = 18 then 11 else 3) + v) then .bad 12 else .dsym last a b code (l ++ List.replicate ((if s = 18 then 11 else 3) + v) (if s = 16 then l.getD (l.length - 1) 0 else 0)), c.pos + (if s = 16 then 2 else if s = 17 then 3 else 7), c.out, c.times⟩
  | .inr (.inl (.inl (.inl (last, lit, di)))) => match sread lit (bs.drop c.pos) with
      | none => none
      | some (.inr j) => some ⟨.bad 13, c.pos + j, c.out, c.times⟩
      | some (.inl (s, n)) => if s < 256 then some (give most (.sym last lit di) s (c.pos + n) c)
          else some ⟨if s = 256 then .head last else if 285 < s then .bad 13 else .lext last lit di s, c.pos + n, c.out, c.times⟩
  | .inr (.inl (.inl (.inr (last, lit, di, s)))) => (num? bs c.pos (lmore s)).map fun v => ⟨.dist last lit di (lbase s + v), c.pos + lmore s, c.out, c.times⟩
  | .inr (.inl (.inr (.inl (last, lit, di, n)))) => match sread di (bs.drop c.pos) with
      | none => none
      | some (.inr j) => some ⟨.bad 13, c.pos + j, c.out, c.times⟩
      | some (.inl (x, k)) => some ⟨if 29 < x then .bad 13 else .dext last lit di n x, c.pos + k, c.out, c.times⟩
  | .inr (.inl (.inr (.inr (last, lit, di, n, x)))) => (num? bs c.pos (dmore x)).map fun v => ⟨if c.out.length < dbase x + v then .bad 14 else .copy last lit di n (dbase x + v), c.pos + dmore x, c.out, c.times⟩
  | .inr (.inr (.inl (.inl (last, lit, di, 0, d)))) => some ⟨.sym last lit di, c.pos, c.out, c.times⟩
  | .inr (.inr (.inl (.inl (last, lit, di, (n + 1), d)))) => some (give most (.copy last lit di n d) (c.out.getD (c.out.length - d) 0) c.pos c)
  | .inr (.inr (.inl (.inr ()))) => none
  | .inr (.inr (.inr _)) => none
/-- Some steps. -/
def Runk (bs : List Bool) (most : Nat) : Nat → Cfg → Cfg → Prop
  | 0, c, e => c = e
  | k + 1, c, e => ∃ d, step bs most c = some d ∧ Runk bs most k d e
def Runs (bs : List Bool) (most : Nat) (c e : Cfg) : Prop := ∃ k, Runk bs most k c e
theorem Runs.refl {bs : List Bool} {most : Nat} (c : Cfg) : Runs bs most c c := ⟨0, rfl⟩
theorem Runs.cons {bs : List Bool} {most : Nat} {c d e : Cfg} (h : step bs most c = some d) (r : Runs bs most d e) : Runs bs most c e := by
  obtain ⟨k, r⟩ := r
  exact ⟨k + 1, d, h, r⟩
theorem Runs.el {bs : List Bool} {most : Nat} {motive : ∀ c e : Cfg, Runs bs most c e → Prop} {c e : Cfg} (target : Runs bs most c e) (refl : ∀ c : Cfg, motive c c (Runs.refl c)) (cons : ∀ {c d e : Cfg} (h : step bs most c = some d) (r : Runs bs most d e), motive d e r → motive c e (Runs.cons h r)) : motive c e target := by
  obtain ⟨k, t⟩ := target
  induction k generalizing c with
  | zero =>
    have x : c = e := t
    subst x
    exact refl c
  | succ k ih =>
    obtain ⟨d, h, r⟩ := id t
    exact cons h ⟨k, r⟩ (ih r)
theorem Runs.cs {bs : List Bool} {most : Nat} {motive : ∀ c e : Cfg, Runs bs most c e → Prop} {c e : Cfg} (target : Runs bs most c e) (refl : ∀ c : Cfg, motive c c (Runs.refl c)) (cons : ∀ {c d e : Cfg} (h : step bs most c = some d) (r : Runs bs most d e), motive c e (Runs.cons h r)) : motive c e target := Runs.el (motive := motive) target refl (fun h r _ => cons h r)
theorem Runs.trans {bs : List Bool} {most : Nat} {c d e : Cfg} (h : Runs bs most c d) (k : Runs bs most d e) : Runs bs most c e := by
  induction h using Runs.el with
  | refl => exact k
  | cons h1 _ ih => exact .cons h1 (ih k)
theorem Runs.one {bs : List Bool} {most : Nat} {c d : Cfg} (h : step bs most c = some d) : Runs bs most c d := .cons h (.refl d)
/-- There is one end. -/
theorem Runs.det {bs : List Bool} {most : Nat} {c d e : Cfg} (h : Runs bs most c d) (k : Runs bs most c e) (hd : step bs most d = none) (he : step bs most e = none) : d = e := by
  induction h using Runs.el with
  | refl =>
    cases k using Runs.cs with
    | refl => rfl
    | cons h1 _ => rw [hd] at h1; cases h1
  | cons h1 _ ih =>
    cases k using Runs.cs with
    | refl => rw [he] at h1; cases h1
    | cons h2 k2 =>
      rw [h1] at h2; cases h2
      exact ih k2 hd
end Go.Proofs.YtikdpnpkmmmacabDoor

/-
  The inflater in memory: 355 cells by a function of their place, its reader, its window; what may turn while it works.
-/
namespace Go.Proofs.YtikdpnpkmmmacabDoor
open Go.RowKit
set_option linter.unusedVariables false
/-- 355 cells by a function. -/
def cz (f : Nat → Value) : Array Value := ((List.range 355).map f).toArray
def upd (f : Nat → Value) (i : Nat) (v : Value) : Nat → Value := fun j => if j = i then v else f j
theorem upd_same (f : Nat → Value) (i : Nat) (v : Value) : upd f i v i = v := by simp [upd]
theorem upd_ne (f : Nat → Value) {i j : Nat} (v : Value) (h : j ≠ i) : upd f i v j = f j := by simp [upd, h]
theorem cz_size (f : Nat → Value) : (cz f).size = 355 := by simp [cz]
theorem cz_at (f : Nat → Value) {i : Nat} (h : i < 355) : (cz f)[i]? = some (f i) := by simp [cz, h]
theorem cz_congr {f g : Nat → Value} (h : ∀ i, i < 355 → f i = g i) : cz f = cz g := by
  unfold cz
  rw [List.map_congr_left (fun i hi => h i (List.mem_range.1 hi))]
theorem cz_set (f : Nat → Value) (i : Nat) (v : Value) : (cz f).setIfInBounds i v = cz (upd f i v) := by
  apply Array.ext
  · simp [cz]
  · intro j h1 h2
    have hj : j < 355 := by simpa [cz] using h2
    simp only [cz, List.setIfInBounds_toArray, List.getElem_toArray, List.getElem_set, List.getElem_map, List.getElem_range, upd]
    by_cases e : i = j
    · simp [e]
    · simp [e, Ne.symm e]
/-- What may have turned while the inflater worked: its own four blocks, from B on; memory may have come. -/
structure Fm (B : Nat) (w w' : World) : Prop where
  os : w'.os = w.os
  tape : w'.tape = w.tape
  output : w'.output = w.output
  size : w.heap.size ≤ w'.heap.size
  block : ∀ k, k < w.heap.size → (k < B ∨ B + 4 ≤ k) → w'.heap[k]? = w.heap[k]?
section
variable {B : Nat} {w u v : World}
theorem Fm.refl (B : Nat) (w : World) : Fm B w w := ⟨rfl, rfl, rfl, Nat.le_refl _, fun _ _ _ => rfl⟩
theorem Fm.trans (h : Fm B w u) (k : Fm B u v) : Fm B w v := ⟨k.os.trans h.os, k.tape.trans h.tape, k.output.trans h.output, Nat.le_trans h.size k.size, fun i hi hk => (k.block i (Nat.lt_of_lt_of_le hi h.size) hk).trans (h.block i hi hk)⟩
theorem Fm.drewN (h : Fm B w u) (n : Nat) : Fm B w (u.drewN n) := ⟨h.os, h.tape, h.output, h.size, h.block⟩
theorem Fm.drew (h : Fm B w u) : Fm B w u.drew := ⟨h.os, h.tape, h.output, h.size, h.block⟩
theorem Fm.of_only {c : Nat} (h : Only c w u) (h1 : B ≤ c) (h2 : c < B + 4) : Fm B w u := ⟨h.os, h.tape, h.output, Nat.le_of_eq h.size.symm, fun k _ hk => h.block k (by omega)⟩
theorem Fm.of_but {c : Nat} (h : But c w u) (h1 : B ≤ c) (h2 : c < B + 4) : Fm B w u := ⟨h.os, h.tape, h.output, h.size, fun k hk hh => h.block k hk (by omega)⟩
theorem Fm.of_two {c d : Nat} (h : GTwo c d w u) (h1 : B ≤ c) (h2 : c < B + 4) (h3 : B ≤ d) (h4 : d < B + 4) : Fm B w u := ⟨h.os, h.tape, h.output, Nat.le_of_eq h.size.symm, fun k _ hk => h.block k (by omega) (by omega)⟩
theorem Fm.of_below {C : Nat} (h : Below C w u) (hC : w.heap.size ≤ C) : Fm B w u := ⟨h.os, h.tape, h.output, h.size, fun k hk _ => h.block k (by omega)⟩
theorem Fm.below (h : Fm B w u) (hB : B ≤ w.heap.size) : Below B w u := ⟨h.os, h.tape, h.output, h.size, fun k hk => h.block k (by omega) (Or.inl hk)⟩
end
/-- The inflater in memory: D itself, b its reader, R its window, whose cells lie in block B; h what bits are held, l what the window has. -/
structure Bs (w : World) (B D b R : Nat) (f : Nat → Value) (h : List Bool) (l : List Int) : Prop where
  fr : Cells w D (cz f) 50
  c0 : f 0 = .pointer (some ⟨b, 0, none⟩)
  c1 : f 1 = .pointer (some ⟨R, 0, none⟩)
  br : Br w b (nm h) h.length
  rg : GRg w R B 32768 l
  eD : D = B + 3
  eb : b = B + 2
  eR : R = B + 1
section
variable {w u : World} {B D b R : Nat} {f : Nat → Value} {h : List Bool} {l : List Int}
theorem Bs.cell (s : Bs w B D b R f h l) {i : Nat} (hi : i < 355) : w.cell? ⟨D, i, none⟩ = some (f i) := (s.fr.cell i).trans (cz_at f hi)
theorem Bs.fz (s : Bs w B D b R f h l) (i : Nat) : w.frozen? ⟨D, i, none⟩ = false := s.fr.frozen i
theorem Bs.drewN (s : Bs w B D b R f h l) (n : Nat) : Bs (w.drewN n) B D b R f h l := ⟨s.fr, s.c0, s.c1, s.br.drewN n, s.rg.drewN n, s.eD, s.eb, s.eR⟩
theorem Bs.drew (s : Bs w B D b R f h l) : Bs w.drew B D b R f h l := ⟨s.fr, s.c0, s.c1, s.br.drew, s.rg.drew, s.eD, s.eb, s.eR⟩
theorem Bs.lt (s : Bs w B D b R f h l) : B + 4 ≤ w.heap.size := by have := s.fr.lt; have := s.eD; omega
theorem Bs.onD (s : Bs w B D b R f h l) (k : Only D w u) {f' : Nat → Value} (hf : Cells u D (cz f') 50) (h0 : f' 0 = f 0) (h1 : f' 1 = f 1) : Bs u B D b R f' h l :=
  ⟨hf, h0.trans s.c0, h1.trans s.c1, s.br.only k (by have := s.eD; have := s.eb; omega), s.rg.only k (by have := s.eD; have := s.eR; omega) (by have := s.eD; omega), s.eD, s.eb, s.eR⟩
theorem Bs.set (s : Bs w B D b R f h l) (i : Nat) (v : Value) (hi : 2 ≤ i) : Bs (w.setCell ⟨D, i, none⟩ v) B D b R (upd f i v) h l :=
  s.onD ((Only.refl D w).setCell i v) (by have := s.fr.set i v; rwa [cz_set] at this) (upd_ne f v (by omega)) (upd_ne f v (by omega))
theorem Bs.onb (s : Bs w B D b R f h l) (k : Only b w u) {h' : List Bool} (hb : Br u b (nm h') h'.length) : Bs u B D b R f h' l :=
  ⟨s.fr.only k (by have := s.eD; have := s.eb; omega), s.c0, s.c1, hb, s.rg.only k (by have := s.eb; have := s.eR; omega) (by have := s.eb; omega), s.eD, s.eb, s.eR⟩
theorem Cells.but {w u : World} {c k : Nat} {cs : Array Value} {t : TypeId} (h : Cells w c cs t) (q : But k w u) (hc : c ≠ k) : Cells u c cs t := by
  have := h.lt
  unfold Cells at *
  rw [q.block c this hc]; exact h
theorem Bs.onbut (s : Bs w B D b R f h l) (k : But b w u) {h' : List Bool} (hb : Br u b (nm h') h'.length) : Bs u B D b R f h' l := by
  refine ⟨s.fr.but k (by have := s.eD; have := s.eb; omega), s.c0, s.c1, hb, ?_, s.eD, s.eb, s.eR⟩
  obtain ⟨x, cs, lo, hh⟩ := s.rg.ex
  exact ⟨x, cs, ⟨lo.hd.but k (by have := s.eb; have := s.eR; omega), lo.row.but k (by have := s.eb; omega), lo.len, lo.n1, lo.n2, lo.xlt, lo.hle, lo.ne⟩, hh⟩
theorem Bs.below (s : Bs w B D b R f h l) {C : Nat} (k : Below C w u) (hC : w.heap.size ≤ C) : Bs u B D b R f h l := by
  have := s.lt
  exact ⟨s.fr.below k (by have := s.eD; omega), s.c0, s.c1, s.br.below k (by have := s.eb; omega), s.rg.below k (by have := s.eR; omega) (by omega), s.eD, s.eb, s.eR⟩
theorem Bs.onR (s : Bs w B D b R f h l) (k : GTwo R B w u) {l' : List Int} (hr : GRg u R B 32768 l') : Bs u B D b R f h l' := by
  have e1 := s.eD; have e2 := s.eb; have e3 := s.eR
  refine ⟨?_, s.c0, s.c1, ⟨?_, s.br.lt, s.br.le⟩, hr, s.eD, s.eb, s.eR⟩
  · have := s.fr; unfold Cells at *; rw [k.block D (by omega) (by omega)]; exact this
  · obtain ⟨t, ht⟩ := s.br.rd
    exact ⟨t, by unfold Cells at *; rw [k.block b (by omega) (by omega)]; exact ht⟩
end
/-- A table that the inflater made. -/
def Tbl (w : World) (B : Nat) (v : Value) (ls : List Nat) : Prop := ∃ lo hi T, v = .pointer (some ⟨T, 0, none⟩) ∧ B + 4 ≤ lo ∧ hi ≤ w.heap.size ∧ PT w lo hi T ls ∧ ls.length ≤ 320
theorem Tbl.fm {w u : World} {B : Nat} {v : Value} {ls : List Nat} (h : Tbl w B v ls) (k : Fm B w u) : Tbl u B v ls := by
  obtain ⟨lo, hi, T, h1, h2, h3, h4, h5⟩ := h
  exact ⟨lo, hi, T, h1, h2, Nat.le_trans h3 k.size, h4.keep fun j hj1 hj2 => k.block j (by omega) (Or.inr (by omega)), h5⟩
/-- What the window has behind one byte more. -/
def wput (l : List Int) (z : Int) : List Int := glastN 32768 (l ++ [z])
/-- A step, as a value. -/
def fnv (D k : Nat) : Value := .func (.func k) #[.pointer (some ⟨D, 0, none⟩)] #[]
section
variable {w : World} {B D b R : Nat} {f : Nat → Value} {h : List Bool} {l : List Int}
theorem pthen_c (k : Nat) (w : World) (s : Bs w B D b R f h l) : Calls Tryd.prog 21 #[.pointer (some ⟨D, 0, none⟩), .func (.func k) #[.pointer (some ⟨D, 0, none⟩)] #[]] w fun e w' => e = .returned (.bool true) ∧ Bs w' B D b R (upd f 2 (fnv D k)) h l ∧ Fm B w w' := by
  have c2 := s.cell (show 2 < 355 by decide)
  have z2 := s.fz 2
  go_enter Tryd.func21, Tryd.ntmps21
  go_wp2_with fail
  go_ret
  exact ⟨rfl, s.set 2 _ (by decide), Fm.of_only ((Only.refl D w).setCell 2 _) (by have := s.eD; omega) (by have := s.eD; omega)⟩
theorem pstop_c (y : Int) (w : World) (s : Bs w B D b R f h l) : Calls Tryd.prog 18 #[.pointer (some ⟨D, 0, none⟩), .int .i64 y] w fun e w' => e = .returned (.bool false) ∧ Bs w' B D b R (upd f 354 (.int .i64 y)) h l ∧ Fm B w w' := by
  have c2 := s.cell (show 354 < 355 by decide)
  have z2 := s.fz 354
  go_enter Tryd.func18, Tryd.ntmps18
  go_wp2_with fail
  go_ret
  exact ⟨rfl, s.set 354 _ (by decide), Fm.of_only ((Only.refl D w).setCell 354 _) (by have := s.eD; omega) (by have := s.eD; omega)⟩
theorem pgive_c (z : Int) (w : World) (s : Bs w B D b R f h l) : Calls Tryd.prog 32 #[.pointer (some ⟨D, 0, none⟩), .int .u8 z] w fun e w' => e = .returned (.bool false) ∧ Bs w' B D b R (upd (upd f 351 (.int .u8 z)) 352 (.bool true)) h (wput l z) ∧ Fm B w w' := by
  have c1 := (s.cell (show 1 < 355 by decide)).trans (congrArg some s.c1)
  have hput := gput_r z w s.rg
  have AS : Aside (Bs w B D b R f h l) := s
  clear s
  go_enter Tryd.func32, Tryd.ntmps32
  go_upto_region 2 with (go_at_call 41; refine hput.mono ?_; rintro e2 w2 ⟨rfl, hr2, ht2⟩)
  have s2 := AS.out.onR ht2 hr2
  have c3 := s2.cell (show 351 < 355 by decide)
  have c4 := s2.cell (show 352 < 355 by decide)
  have z3 := s2.fz 351
  have z4 := s2.fz 352
  clear hput c1
  go_wp2_with fail
  go_ret
  refine ⟨rfl, (s2.set 351 _ (by decide)).set 352 _ (by decide), (Fm.of_two ht2 ?_ ?_ ?_ ?_).trans (Fm.of_only (((Only.refl D w2).setCell 351 _).setCell 352 _) ?_ ?_)⟩ <;> have := s2.eD <;> have := s2.eR <;> omega
end
end Go.Proofs.YtikdpnpkmmmacabDoor

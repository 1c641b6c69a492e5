/-
  Own texts of this seat, one behind the other: what each says stands ahead of it.
-/
import Derived.Laws.CopyOwn
import Derived.Test.YtikdpnpkmmmacaaDoorProg
import Derived.Test.YtikdpnpkmmmacaaDoorMa
import Derived.BigQuiet
import Derived.Deep.LoopGhost
import Derived.Laws.MakeOwn
import Derived.Laws.OwnMore
/-
  Lists of bytes: the last ones of a list, what a copy does to a row, a row that goes round, and the bytes at the end again and again.
-/
namespace Go.Proofs.YtikdpnpkmmmacaaDoor
set_option linter.unusedVariables false
/-- The cell n behind the next one. -/
def gfwd (N x n : Nat) : Nat := if x + n < N then x + n else x + n - N
/-- The cell d ahead of the next one. -/
def gbck (N x d : Nat) : Nat := if d ≤ x then x - d else x + N - d
theorem gfwd_spec (N x n : Nat) : (x + n < N ∧ gfwd N x n = x + n) ∨ (N ≤ x + n ∧ gfwd N x n = x + n - N) := by unfold gfwd; split <;> omega
theorem gbck_spec (N x d : Nat) : (d ≤ x ∧ gbck N x d = x - d) ∨ (x < d ∧ gbck N x d = x + N - d) := by unfold gbck; split <;> omega
theorem gfwd_lt {N x n : Nat} (h : x < N) (h2 : n ≤ N) : gfwd N x n < N := by unfold gfwd; split <;> omega
theorem gbck_lt {N x d : Nat} (h1 : x < N) (h2 : 1 ≤ d) (h3 : d ≤ N) : gbck N x d < N := by unfold gbck; split <;> omega
/-- The last ones, at most N. -/
def glastN (N : Nat) (l : List Int) : List Int := l.drop (l.length - N)
theorem glastN_length (N : Nat) (l : List Int) : (glastN N l).length = min l.length N := by simp [glastN]; omega
theorem glastN_all {N : Nat} {l : List Int} (h : l.length ≤ N) : glastN N l = l := by
  unfold glastN; rw [show l.length - N = 0 by omega, List.drop_zero]
theorem glastN_app (N : Nat) (l xs : List Int) : glastN N (l ++ glastN N xs) = glastN N (l ++ xs) := by
  apply List.ext_getElem?
  intro i
  simp only [glastN, List.getElem?_drop, List.getElem?_append, List.length_append, List.length_drop]
  by_cases h : xs.length ≤ N
  · simp only [show xs.length - N = 0 by omega, Nat.sub_zero, Nat.zero_add]
  · have e1 : l.length + (xs.length - (xs.length - N)) - N + i = l.length + i := by omega
    have e2 : ¬ l.length + (xs.length - (xs.length - N)) - N + i < l.length := by omega
    have e3 : ¬ l.length + xs.length - N + i < l.length := by omega
    rw [if_neg e2, if_neg e3]
    congr 1; omega
theorem glastN_two (N : Nat) (l xs ys : List Int) : glastN N (glastN N (l ++ xs) ++ ys) = glastN N (l ++ xs ++ ys) := by
  apply List.ext_getElem?
  intro i
  simp only [glastN, List.getElem?_drop, List.getElem?_append, List.length_append, List.length_drop]
  by_cases h : l.length + xs.length ≤ N
  · simp only [show l.length + xs.length - N = 0 by omega, Nat.sub_zero, Nat.zero_add]
  · have e0 : l.length + xs.length - (l.length + xs.length - N) = N := by omega
    simp only [e0]
    have e1 : N + ys.length - N + i = ys.length + i := by omega
    have e2 : l.length + xs.length + ys.length - N + i = l.length + xs.length - N + (ys.length + i) := by omega
    simp only [e1, e2]
    by_cases c : ys.length + i < N
    · have c2 : l.length + xs.length - N + (ys.length + i) < l.length + xs.length := by omega
      rw [if_pos c, if_pos c2]
    · have c2 : ¬ l.length + xs.length - N + (ys.length + i) < l.length + xs.length := by omega
      rw [if_neg c, if_neg c2]
      congr 1; omega
theorem gsplice_get {α : Type} (l cs : List α) (off i : Nat) (h : off + cs.length ≤ l.length) : (splice l off cs)[i]? = if off ≤ i ∧ i < off + cs.length then cs[i - off]? else l[i]? := by
  unfold splice
  rw [List.getElem?_append, List.length_take, Nat.min_eq_left (by omega), List.getElem?_append, List.getElem?_take, List.getElem?_drop]
  by_cases c1 : i < off
  · rw [if_pos c1, if_pos c1, if_neg (by omega)]
  · rw [if_neg c1]
    by_cases c2 : i < off + cs.length
    · rw [if_pos (by omega), if_pos (by omega)]
    · rw [if_neg (by omega), if_neg (by omega)]
      congr 1; omega
theorem gsplice_app (ys A B : List Int) (h : A.length + B.length ≤ ys.length) : splice (splice ys 0 A) A.length B = splice ys 0 (A ++ B) := by
  apply List.ext_getElem?
  intro i
  rw [gsplice_get _ _ _ _ (by rw [length_splice _ _ _ (by omega)]; omega), gsplice_get _ _ _ _ (by omega), gsplice_get _ _ _ _ (by rw [List.length_append]; omega), List.length_append, List.getElem?_append]
  by_cases c1 : i < A.length
  · rw [if_neg (by omega), if_pos (by omega), if_pos (by omega), if_pos (by omega)]
  · by_cases c2 : i < A.length + B.length
    · rw [if_pos (by omega), if_pos (by omega), if_neg (by omega)]; simp
    · rw [if_neg (by omega), if_neg (by omega), if_neg (by omega)]
theorem gsplice_all (ys A : List Int) (h : A.length = ys.length) : splice ys 0 A = A := by
  unfold splice
  simp [h]
/-- The row cs of N cells, whose next one is x, holds the list l. -/
def GHolds (N x : Nat) (cs l : List Int) : Prop := ∀ d, 1 ≤ d → d ≤ l.length → cs[gbck N x d]? = l[l.length - d]?
theorem gholds_nil (N x : Nat) (cs : List Int) : GHolds N x cs [] := fun d h1 h2 => by simp at h2; omega
/-- What is moved out, in one piece. -/
theorem gout_a {N x : Nat} {cs l : List Int} (hh : GHolds N x cs l) (d n : Nat) (hx : x < N) (hl : l.length ≤ N) (h1 : 1 ≤ d) (hd : d ≤ l.length) (hn : n ≤ d) (hA : gbck N x d + n ≤ N) :
    (cs.drop (gbck N x d)).take n = (l.drop (l.length - d)).take n := by
  apply List.ext_getElem?
  intro i
  rw [List.getElem?_take, List.getElem?_take, List.getElem?_drop, List.getElem?_drop]
  by_cases c : i < n
  · rw [if_pos c, if_pos c]
    have := hh (d - i) (by omega) (by omega)
    rw [show l.length - d + i = l.length - (d - i) by omega, ← this]
    congr 1
    have s1 := gbck_spec N x d
    have s2 := gbck_spec N x (d - i)
    omega
  · rw [if_neg c, if_neg c]
/-- What is moved out, in two pieces. -/
theorem gout_b {N x : Nat} {cs l : List Int} (hh : GHolds N x cs l) (d n m r : Nat) (hx : x < N) (hl : l.length ≤ N) (hc : cs.length = N) (h1 : 1 ≤ d) (hd : d ≤ l.length) (hn : n ≤ d) (hm : gbck N x d + m = N) (hr : m + r = n) :
    cs.drop (gbck N x d) ++ cs.take r = (l.drop (l.length - d)).take n := by
  apply List.ext_getElem?
  intro i
  rw [List.getElem?_append, List.length_drop, hc, List.getElem?_take, List.getElem?_take, List.getElem?_drop, List.getElem?_drop]
  have e : N - gbck N x d = m := by omega
  rw [e]
  by_cases c : i < n
  · rw [if_pos c]
    have := hh (d - i) (by omega) (by omega)
    rw [show l.length - d + i = l.length - (d - i) by omega, ← this]
    by_cases c2 : i < m
    · rw [if_pos c2]
      congr 1
      have s1 := gbck_spec N x d
      have s2 := gbck_spec N x (d - i)
      omega
    · rw [if_neg c2, if_pos (by omega)]
      congr 1
      have s1 := gbck_spec N x d
      have s2 := gbck_spec N x (d - i)
      omega
  · rw [if_neg c, if_neg (by omega), if_neg (by omega)]
/-- What is laid in goes round the end. -/
theorem gin_get {N x : Nat} {cs ys : List Int} (hc : cs.length = N) (hx : x < N) (hm : ys.length ≤ N) (q : Nat) (hq : q = min ys.length (N - x)) (p : Nat) (hp : p < N) :
    (splice (splice cs x (ys.take q)) 0 (ys.drop q))[p]? = if x ≤ p ∧ p < x + ys.length then ys[p - x]? else if p + N < x + ys.length then ys[p + N - x]? else cs[p]? := by
  have l1 : (ys.take q).length = q := by rw [List.length_take]; omega
  have l2 : (ys.drop q).length = ys.length - q := List.length_drop
  rw [gsplice_get _ _ _ _ (by rw [length_splice _ _ _ (by omega)]; omega), gsplice_get _ _ _ _ (by omega), l1, l2, List.getElem?_take, List.getElem?_drop]
  by_cases c1 : x ≤ p ∧ p < x + ys.length
  · rw [if_pos c1, if_neg (by omega), if_pos (by omega), if_pos (by omega)]
  · rw [if_neg c1]
    by_cases c2 : p + N < x + ys.length
    · rw [if_pos c2, if_pos (by omega)]
      congr 1; omega
    · rw [if_neg c2, if_neg (by omega), if_neg (by omega)]
theorem gin_holds {N x : Nat} {cs l ys : List Int} (hh : GHolds N x cs l) (hc : cs.length = N) (hx : x < N) (hl : l.length ≤ N) (hm : ys.length ≤ N) (q : Nat) (hq : q = min ys.length (N - x)) :
    GHolds N (gfwd N x ys.length) (splice (splice cs x (ys.take q)) 0 (ys.drop q)) (glastN N (l ++ ys)) := by
  intro d h1 h2
  have hlen := glastN_length N (l ++ ys)
  rw [List.length_append] at hlen
  have hp := gbck_lt (gfwd_lt hx hm) h1 (by omega : d ≤ N)
  rw [gin_get hc hx hm q hq _ hp, hlen]
  have e : (glastN N (l ++ ys))[min (l.length + ys.length) N - d]? = (l ++ ys)[l.length + ys.length - d]? := by
    unfold glastN
    rw [List.getElem?_drop, List.length_append]
    congr 1; omega
  rw [e, List.getElem?_append]
  have s1 := gfwd_spec N x ys.length
  have s2 := gbck_spec N (gfwd N x ys.length) d
  by_cases c : d ≤ ys.length
  · have c0 : ¬ l.length + ys.length - d < l.length := by omega
    rw [if_neg c0]
    by_cases c1 : x + (ys.length - d) < N
    · have c2 : x ≤ gbck N (gfwd N x ys.length) d ∧ gbck N (gfwd N x ys.length) d < x + ys.length := by omega
      rw [if_pos c2]
      congr 1; omega
    · have c2 : ¬ (x ≤ gbck N (gfwd N x ys.length) d ∧ gbck N (gfwd N x ys.length) d < x + ys.length) := by omega
      have c3 : gbck N (gfwd N x ys.length) d + N < x + ys.length := by omega
      rw [if_neg c2, if_pos c3]
      congr 1; omega
  · have s3 := gbck_spec N x (d - ys.length)
    have := hh (d - ys.length) (by omega) (by omega)
    have c0 : l.length + ys.length - d < l.length := by omega
    have hb : gbck N (gfwd N x ys.length) d = gbck N x (d - ys.length) := by omega
    have c2 : ¬ (x ≤ gbck N x (d - ys.length) ∧ gbck N x (d - ys.length) < x + ys.length) := by omega
    have c3 : ¬ gbck N x (d - ys.length) + N < x + ys.length := by omega
    rw [if_pos c0, hb, if_neg c2, if_neg c3, this]
    congr 1; omega
theorem gset_splice (cs : List Int) (x : Nat) (z : Int) (h : x < cs.length) : cs.set x z = splice cs x [z] := by
  apply List.ext_getElem?
  intro i
  rw [gsplice_get cs [z] x i (by simp; omega)]
  by_cases c : x = i
  · subst c
    rw [if_pos (by simp)]
    simp [h]
  · rw [if_neg (by simp; omega), List.getElem?_set_ne c]
theorem gput_holds {N x : Nat} {cs l : List Int} (hh : GHolds N x cs l) (hc : cs.length = N) (hx : x < N) (hl : l.length ≤ N) (z : Int) : GHolds N (gfwd N x 1) (cs.set x z) (glastN N (l ++ [z])) := by
  have := gin_holds (ys := [z]) hh hc hx hl (by simp; omega) 1 (by simp; omega)
  rw [gset_splice _ _ _ (by omega)]
  simpa [splice] using this
/-- The bytes at the end, d of them, again and again, n in all. -/
def gcyc (l : List Int) (d n : Nat) : List Int := (List.range n).map fun i => l.getD (l.length - d + i % d) 0
theorem gcyc_length (l : List Int) (d n : Nat) : (gcyc l d n).length = n := by simp [gcyc]
theorem gcyc_get (l : List Int) (d n i : Nat) (h : i < n) : (gcyc l d n)[i]? = some (l.getD (l.length - d + i % d) 0) := by simp [gcyc, h]
theorem gcyc_take (l : List Int) (d n k : Nat) (h : k ≤ n) : (gcyc l d n).take k = gcyc l d k := by
  apply List.ext_getElem?
  intro i
  rw [List.getElem?_take]
  by_cases c : i < k
  · rw [if_pos c, gcyc_get _ _ _ _ (by omega), gcyc_get _ _ _ _ c]
  · rw [if_neg c, List.getElem?_eq_none (by rw [gcyc_length]; omega)]
theorem gcyc_first (l : List Int) (d n : Nat) (h1 : 1 ≤ d) (hd : d ≤ l.length) (hn : n ≤ d) : (l.drop (l.length - d)).take n = gcyc l d n := by
  apply List.ext_getElem?
  intro i
  rw [List.getElem?_take, List.getElem?_drop]
  by_cases c : i < n
  · rw [if_pos c, gcyc_get _ _ _ _ c, Nat.mod_eq_of_lt (by omega), List.getElem?_eq_getElem (by omega)]
    simp [List.getElem?_eq_getElem (show l.length - d + i < l.length by omega)]
  · rw [if_neg c, List.getElem?_eq_none (by rw [gcyc_length]; omega)]
theorem gcyc_app (l : List Int) (d k m : Nat) (hk : d ∣ k) (hm : m ≤ k) : gcyc l d k ++ (gcyc l d k).take m = gcyc l d (k + m) := by
  obtain ⟨j, rfl⟩ := hk
  apply List.ext_getElem?
  intro i
  rw [List.getElem?_append, gcyc_length, List.getElem?_take]
  by_cases c : i < d * j
  · rw [if_pos c, gcyc_get _ _ _ _ c, gcyc_get _ _ _ _ (by omega)]
  · rw [if_neg c]
    by_cases c2 : i - d * j < m
    · rw [if_pos c2, gcyc_get _ _ _ _ (by omega), gcyc_get _ _ _ _ (by omega)]
      congr 3
      conv => rhs; rw [show i = (i - d * j) + d * j by omega, Nat.add_mul_mod_self_left]
    · rw [if_neg c2, List.getElem?_eq_none (by rw [gcyc_length]; omega)]
end Go.Proofs.YtikdpnpkmmmacaaDoor

/-
  What New, Len, Size, Clear, move, cell, Put and Back of the ring come to: at a window that is nil, and at one in memory.
  Conditions: none at a nil window; a window in memory has a size from 1 to 32768, its next cell and its count fit the size, and each method keeps that.
-/
namespace Go.Proofs.YtikdpnpkmmmacaaDoor
open Go.RowKit

theorem glen_nil (w : World) : Calls Tryd.prog 94 #[.pointer none] w fun e w' => e = .returned (.int .i64 0) ∧ w = w' := by
  go_enter Tryd.func94, Tryd.ntmps94
  go_wp2
  go_ret
  exact ⟨rfl, rfl⟩
theorem gsize_nil (w : World) : Calls Tryd.prog 89 #[.pointer none] w fun e w' => e = .returned (.int .i64 0) ∧ w = w' := by
  go_enter Tryd.func89, Tryd.ntmps89
  go_wp2
  go_ret
  exact ⟨rfl, rfl⟩
theorem gclear_nil (w : World) : Calls Tryd.prog 38 #[.pointer none] w fun e w' => e = .returned (.tuple #[]) ∧ w = w' := by
  go_enter Tryd.func38, Tryd.ntmps38
  go_wp2
  first | go_end0 | (refine bodyPost_ret (results_none rfl _ _ _) rfl ?_)
  exact ⟨rfl, rfl⟩
theorem gput_nil (x : Int) (w : World) : Calls Tryd.prog 82 #[.pointer none, .int .u8 x] w fun e w' => e = .returned (.tuple #[]) ∧ w = w' := by
  go_enter Tryd.func82, Tryd.ntmps82
  go_wp2_with fail
  refine (gsize_nil _).mono ?_
  rintro e w' ⟨rfl, rfl⟩
  go_wp2_with fail
  first | go_end0 | (refine bodyPost_ret (results_none rfl _ _ _) rfl ?_)
  exact ⟨rfl, rfl⟩
theorem gback_nil (d : Int) (w : World) : Calls Tryd.prog 96 #[.pointer none, .int .i64 d] w fun e w' => e = .returned (.tuple #[.int .u8 0, .bool false]) ∧ w = w' := by
  go_enter Tryd.func96, Tryd.ntmps96
  by_cases h : d < 1
  · go_wp2_with fail
    go_ret2
    exact ⟨rfl, rfl⟩
  · have h0 : (0 : Int) < d := by omega
    go_wp2_with fail
    refine (glen_nil _).mono ?_
    rintro e w' ⟨rfl, rfl⟩
    go_wp2_with fail
    go_ret2
    exact ⟨rfl, rfl⟩
theorem gnew_no (s : Int) (w : World) (h : s < 1 ∨ 32768 < s) : Calls Tryd.prog 30 #[.int .i64 s] w fun e w' => e = .returned (.tuple #[.pointer none, .int .i64 2]) ∧ w = w' := by
  go_enter Tryd.func30, Tryd.ntmps30
  by_cases h1 : s < 1
  · go_wp2
    go_ret2
    exact ⟨rfl, rfl⟩
  · have h2 : 32768 < s := by omega
    go_wp2
    go_ret2
    exact ⟨rfl, rfl⟩

/-- Numbers as bytes in memory. -/
def gvb (l : List Int) : List Value := l.map (Value.int .u8)
theorem gvb_length (l : List Int) : (gvb l).length = l.length := by simp [gvb]
theorem gvb_get (l : List Int) (i : Nat) : (gvb l)[i]? = l[i]?.map (Value.int .u8) := by simp [gvb]
theorem gvb_one {l : List Int} : ∀ v ∈ gvb l, v.oneCell' = true := by
  intro v hv
  simp only [gvb, List.mem_map] at hv
  obtain ⟨x, _, rfl⟩ := hv
  rfl
theorem ginfo5 : (Tryd.prog.info? 5).map (fun i => (i.zero, i.size, i.bytes)) = some (some (.int .u8 0), 1, 1) := by kernel_rfl
theorem ginfo_parts {P : Program} {t : TypeId} {z : Value} {n m : Nat} (h : (P.info? t).map (fun i => (i.zero, i.size, i.bytes)) = some (some z, n, m)) :
    ∃ i, P.info? t = some i ∧ i.zero = some z ∧ i.size = n ∧ i.bytes = m := by
  cases hq : P.info? t with
  | none => simp [hq] at h
  | some i => simp [hq] at h; exact ⟨i, rfl, h.1, h.2.1, h.2.2⟩
theorem gsize5 : (Tryd.prog.info? 5).map (·.size) = some 1 := by kernel_rfl
/-- make of a list of n bytes. -/
theorem gmade (n : Nat) (hn : n ≤ 1048576) (w : World) : (Instr.makeSlice 22 (.int .i64 (n : Int)) (.int .i64 (n : Int))).run Tryd.prog w = .ok (.slice (some ⟨w.heap.size, 0, none⟩) n n) (w.alloc (.cells (gvb (List.replicate n 0)).toArray 5)) := by
  obtain ⟨i, hi, hz, hs, hb⟩ := ginfo_parts ginfo5
  have := run_make (P := Tryd.prog) w 22 5 i _ Tryd.underlying22 hi hz .i64 .i64 n n (by omega) (by omega) (by rw [hb]; omega) (by omega)
  rw [this, hs]
  have e : madeCells (Value.int .u8 0).cells ((n : Int).toNat * 1) = (gvb (List.replicate n 0)).toArray := by
    apply Array.toList_inj.1
    show (madeCells #[Value.int .u8 0] _).toList = _
    rw [toList_madeCells_one]
    simp [gvb]
  rw [e]
  simp

/-- GTwo blocks alone may have turned; none has come. -/
structure GTwo (a b : Nat) (w w' : World) : Prop where
  os : w'.os = w.os
  tape : w'.tape = w.tape
  output : w'.output = w.output
  size : w'.heap.size = w.heap.size
  block : ∀ k, k ≠ a → k ≠ b → w'.heap[k]? = w.heap[k]?
section
variable {a b : Nat} {w u v : World}
theorem GTwo.refl (a b : Nat) (w : World) : GTwo a b w w := ⟨rfl, rfl, rfl, rfl, fun _ _ _ => rfl⟩
theorem GTwo.trans (h : GTwo a b w u) (k : GTwo a b u v) : GTwo a b w v :=
  ⟨k.os.trans h.os, k.tape.trans h.tape, k.output.trans h.output, k.size.trans h.size, fun i h1 h2 => (k.block i h1 h2).trans (h.block i h1 h2)⟩
theorem GTwo.fst (h : Only a w u) : GTwo a b w u := ⟨h.os, h.tape, h.output, h.size, fun i h1 _ => h.block i h1⟩
theorem GTwo.snd (h : Only b w u) : GTwo a b w u := ⟨h.os, h.tape, h.output, h.size, fun i _ h2 => h.block i h2⟩
theorem GTwo.below {B : Nat} (h : GTwo a b w u) (ha : B ≤ a) (hb : B ≤ b) : Below B w u :=
  ⟨h.os, h.tape, h.output, Nat.le_of_eq h.size.symm, fun k hk => h.block k (by omega) (by omega)⟩
theorem GTwo.drewN (h : GTwo a b w u) (n : Nat) : GTwo a b w (u.drewN n) := ⟨h.os, h.tape, h.output, h.size, h.block⟩
theorem GTwo.drew (h : GTwo a b w u) : GTwo a b w u.drew := ⟨h.os, h.tape, h.output, h.size, h.block⟩
end

/-- A window in memory: block H holds it, block K its N cells; x is the next cell, h the count. -/
structure GLo (w : World) (H K N x h : Nat) (cs : List Int) : Prop where
  hd : Cells w H #[.slice (some ⟨K, 0, none⟩) N N, .int .i64 (x : Int), .int .i64 (h : Int)] 99
  row : Cells w K (gvb cs).toArray 5
  len : cs.length = N
  n1 : 1 ≤ N
  n2 : N ≤ 32768
  xlt : x < N
  hle : h ≤ N
  ne : H ≠ K
section
variable {w u : World} {H K N x h : Nat} {cs : List Int}
theorem GLo.drewN (l : GLo w H K N x h cs) (n : Nat) : GLo (w.drewN n) H K N x h cs := ⟨l.hd, l.row, l.len, l.n1, l.n2, l.xlt, l.hle, l.ne⟩
theorem GLo.drew (l : GLo w H K N x h cs) : GLo w.drew H K N x h cs := ⟨l.hd, l.row, l.len, l.n1, l.n2, l.xlt, l.hle, l.ne⟩
theorem GLo.only {c : Nat} (l : GLo w H K N x h cs) (k : Only c w u) (h1 : H ≠ c) (h2 : K ≠ c) : GLo u H K N x h cs := ⟨l.hd.only k h1, l.row.only k h2, l.len, l.n1, l.n2, l.xlt, l.hle, l.ne⟩
theorem GLo.below {B : Nat} (l : GLo w H K N x h cs) (k : Below B w u) (h1 : H < B) (h2 : K < B) : GLo u H K N x h cs := ⟨l.hd.below k h1, l.row.below k h2, l.len, l.n1, l.n2, l.xlt, l.hle, l.ne⟩
theorem GLo.alloc (l : GLo w H K N x h cs) (o : Obj) : GLo (w.alloc o) H K N x h cs := ⟨l.hd.alloc o, l.row.alloc o, l.len, l.n1, l.n2, l.xlt, l.hle, l.ne⟩
theorem GLo.c0 (l : GLo w H K N x h cs) : w.cell? ⟨H, 0, none⟩ = some (.slice (some ⟨K, 0, none⟩) N N) := (l.hd.cell 0).trans rfl
theorem GLo.c1 (l : GLo w H K N x h cs) : w.cell? ⟨H, 1, none⟩ = some (.int .i64 (x : Int)) := (l.hd.cell 1).trans rfl
theorem GLo.c2 (l : GLo w H K N x h cs) : w.cell? ⟨H, 2, none⟩ = some (.int .i64 (h : Int)) := (l.hd.cell 2).trans rfl
theorem GLo.set (l : GLo w H K N x h cs) (x' h' : Nat) (hx : x' < N) (hh : h' ≤ N) : GLo ((w.setCell ⟨H, 1, none⟩ (.int .i64 (x' : Int))).setCell ⟨H, 2, none⟩ (.int .i64 (h' : Int))) H K N x' h' cs := by
  refine ⟨?_, ?_, l.len, l.n1, l.n2, hx, hh, l.ne⟩
  · exact ((l.hd.set 1 _).set 2 _)
  · exact l.row.only (((Only.refl H w).setCell 1 _).setCell 2 _) l.ne.symm
end

theorem gnew_yes (n : Nat) (w : World) (h1 : 1 ≤ n) (h2 : n ≤ 32768) : Calls Tryd.prog 30 #[.int .i64 n] w fun e w' => e = .returned (.tuple #[.pointer (some ⟨w.heap.size + 1, 0, none⟩), .int .i64 0]) ∧
    GLo w' (w.heap.size + 1) w.heap.size n 0 0 (List.replicate n 0) ∧ Below w.heap.size w w' ∧ w'.heap.size = w.heap.size + 2 := by
  have e1 : ¬ (n : Int) < 1 := by omega
  have e2 : ¬ (32768 : Int) < n := by omega
  have hm := gmade n (by omega) w
  generalize hcs : (gvb (List.replicate n 0)).toArray = cs at hm
  go_enter Tryd.func30, Tryd.ntmps30
  go_wp2
  go_ret2
  refine ⟨rfl, ⟨?_, ?_, by simp, h1, h2, h1, Nat.zero_le _, by omega⟩, ?_, ?_⟩
  · have := Cells.new (w.alloc (.cells cs 5)) #[.slice (some ⟨w.heap.size, 0, none⟩) n n, .int .i64 0, .int .i64 0] 99
    simpa using this
  · rw [hcs]
    exact (Cells.new w cs 5).alloc _
  · exact ((Below.refl _ _).alloc (Nat.le_refl _) _).alloc (by simp) _
  · simp
theorem glen_c {H K N x h : Nat} {cs : List Int} (w : World) (l : GLo w H K N x h cs) : Calls Tryd.prog 94 #[.pointer (some ⟨H, 0, none⟩)] w fun e w' => e = .returned (.int .i64 (h : Int)) ∧ w = w' := by
  have h2 := l.c2
  go_enter Tryd.func94, Tryd.ntmps94
  go_wp2
  go_ret
  exact ⟨rfl, rfl⟩
theorem gsize_c {H K N x h : Nat} {cs : List Int} (w : World) (l : GLo w H K N x h cs) : Calls Tryd.prog 89 #[.pointer (some ⟨H, 0, none⟩)] w fun e w' => e = .returned (.int .i64 (N : Int)) ∧ w = w' := by
  have h2 := l.c0
  go_enter Tryd.func89, Tryd.ntmps89
  go_wp2
  go_ret
  exact ⟨rfl, rfl⟩
theorem gclear_c {H K N x h : Nat} {cs : List Int} (w : World) (l : GLo w H K N x h cs) : Calls Tryd.prog 38 #[.pointer (some ⟨H, 0, none⟩)] w fun e w' => e = .returned (.tuple #[]) ∧ GLo w' H K N 0 0 cs ∧ Only H w w' := by
  have h1 := l.c1
  have h2 := l.c2
  have h3 := l.hd.frozen 1
  have h4 := l.hd.frozen 2
  go_enter Tryd.func38, Tryd.ntmps38
  go_wp2
  first | go_end0 | (refine bodyPost_ret (results_none rfl _ _ _) rfl ?_)
  exact ⟨rfl, l.set 0 0 l.n1 (Nat.zero_le _), ((Only.refl _ _).setCell _ _).setCell _ _⟩
theorem gmin_i (h n N : Nat) : (if (N : Int) < (h : Int) + n then (N : Int) else (h : Int) + n) = ((min (h + n) N : Nat) : Int) := by
  split <;> omega
theorem gmove_c {H K N x h : Nat} {cs : List Int} (n : Nat) (w : World) (l : GLo w H K N x h cs) (hn : n ≤ N) : Calls Tryd.prog 90 #[.pointer (some ⟨H, 0, none⟩), .int .i64 (n : Int)] w fun e w' => e = .returned (.tuple #[]) ∧ GLo w' H K N (gfwd N x n) (min (h + n) N) cs ∧ Only H w w' := by
  have h0 := l.c0
  have h1 := l.c1
  have h2 := l.c2
  have h3 := l.hd.frozen 1
  have h4 := l.hd.frozen 2
  have n2 := l.n2
  have xlt := l.xlt
  have hle := l.hle
  have hfl := gfwd_lt xlt hn
  go_enter Tryd.func90, Tryd.ntmps90
  by_cases hf : x + n < N
  · have hf1 : ¬ (N : Int) ≤ (x : Int) + n := by omega
    have hfw : gfwd N x n = x + n := by unfold gfwd; rw [if_pos hf]
    go_wp2_with fail
    go_quiet (fail)
    go_wp2_with fail
    go_region
    go_end0
    rw [gmin_i]
    refine ⟨rfl, ⟨?_, l.row.only ((((Only.refl H w).setCell 1 _).drewN _).setCell 2 _) l.ne.symm, l.len, l.n1, l.n2, hfl, Nat.min_le_right _ _, l.ne⟩, (((Only.refl H w).setCell 1 _).drewN _).setCell 2 _⟩
    rw [hfw]
    exact (((l.hd.set 1 (.int .i64 ((x : Int) + n))).drewN _).set 2 _)
  · have hf1 : (N : Int) ≤ (x : Int) + n := by omega
    have hfw : ((gfwd N x n : Nat) : Int) = (x : Int) + n - N := by unfold gfwd; rw [if_neg hf]; omega
    go_wp2_with fail
    go_quiet (fail)
    go_wp2_with fail
    go_region
    go_wp2_with fail
    go_region
    go_end0
    rw [gmin_i]
    refine ⟨rfl, ⟨?_, l.row.only ((((((Only.refl H w).setCell 1 _).drewN _).setCell 1 _).drewN _).setCell 2 _) l.ne.symm, l.len, l.n1, l.n2, hfl, Nat.min_le_right _ _, l.ne⟩, (((((Only.refl H w).setCell 1 _).drewN _).setCell 1 _).drewN _).setCell 2 _⟩
    rw [hfw]
    exact (((((l.hd.set 1 (.int .i64 ((x : Int) + n))).drewN _).set 1 (.int .i64 ((x : Int) + n - N))).drewN _).set 2 _)
theorem gcell_c {H K N x h : Nat} {cs : List Int} (d : Nat) (w : World) (l : GLo w H K N x h cs) (hd : d ≤ N) : Calls Tryd.prog 97 #[.pointer (some ⟨H, 0, none⟩), .int .i64 (d : Int)] w fun e w' => e = .returned (.int .i64 ((gbck N x d : Nat) : Int)) ∧ w' = w := by
  have h0 := l.c0
  have h1 := l.c1
  have n2 := l.n2
  have xlt := l.xlt
  go_enter Tryd.func97, Tryd.ntmps97
  by_cases hf : d ≤ x
  · have hf1 : ¬ (x : Int) - d < 0 := by omega
    have hb : ((gbck N x d : Nat) : Int) = (x : Int) - d := by unfold gbck; rw [if_pos hf]; omega
    go_wp2_with fail
    go_ret
    exact ⟨by first | rfl | (rw [hb]; rfl), rfl⟩
  · have hf1 : (x : Int) - d < 0 := by omega
    have hb : ((gbck N x d : Nat) : Int) = (x : Int) - d + N := by unfold gbck; rw [if_neg hf]; omega
    go_wp2_with fail
    go_ret
    exact ⟨by first | rfl | (rw [hb]; rfl), rfl⟩
theorem Cells.gbyte {w : World} {b : Nat} {cs : List Int} (h : Cells w b (gvb cs).toArray 5) {i : Nat} {z : Int} (hi : cs[i]? = some z) : w.cell? ⟨b, i, none⟩ = some (.int .u8 z) := by
  rw [h.cell i, List.getElem?_toArray, gvb_get, hi]; rfl
theorem gvb_set (cs : List Int) (i : Nat) (z : Int) : (gvb cs).toArray.setIfInBounds i (.int .u8 z) = (gvb (cs.set i z)).toArray := by
  simp [gvb, List.map_set]
theorem gput_c {H K N x h : Nat} {cs : List Int} (z : Int) (w : World) (l : GLo w H K N x h cs) : Calls Tryd.prog 82 #[.pointer (some ⟨H, 0, none⟩), .int .u8 z] w fun e w' => e = .returned (.tuple #[]) ∧ GLo w' H K N (gfwd N x 1) (min (h + 1) N) (cs.set x z) ∧ GTwo H K w w' := by
  have h0 := l.c0
  have h1 := l.c1
  have n1 := l.n1
  have xlt := l.xlt
  have hx : x < cs.length := by rw [l.len]; exact xlt
  have hxi : (x : Int) < (N : Int) := by omega
  have hr := l.row.gbyte (List.getElem?_eq_getElem hx)
  have hrf := l.row.frozen x
  have hN0 : ((N : Int) == 0) = false := by simp; omega
  go_enter Tryd.func82, Tryd.ntmps82
  go_wp2_with fail
  refine (gsize_c _ l).mono ?_
  rintro e w' ⟨rfl, rfl⟩
  go_wp2_with fail
  go_region
  have ho : Only K w ((w.setCell ⟨K, x, none⟩ (.int .u8 z)).drewN 1) := ((Only.refl K w).setCell x _).drewN 1
  have l2 : GLo ((w.setCell ⟨K, x, none⟩ (.int .u8 z)).drewN 1) H K N x h (cs.set x z) := by
    refine ⟨l.hd.only ho l.ne, ?_, by rw [List.length_set]; exact l.len, l.n1, l.n2, l.xlt, l.hle, l.ne⟩
    have := (l.row.set x (.int .u8 z)).drewN 1
    rwa [gvb_set] at this
  clear h0 h1 hr hrf hN0
  go_wp2_with fail
  refine (gmove_c 1 _ l2 n1).mono ?_
  rintro e w' ⟨rfl, l3, ho3⟩
  go_wp2_with fail
  first | go_end0 | (refine bodyPost_ret (results_none rfl _ _ _) rfl ?_)
  exact ⟨rfl, l3, (GTwo.snd ho).trans (GTwo.fst ho3)⟩
theorem gback_no {H K N x h : Nat} {cs : List Int} (d : Int) (w : World) (l : GLo w H K N x h cs) (hd : d < 1 ∨ (h : Int) < d) : Calls Tryd.prog 96 #[.pointer (some ⟨H, 0, none⟩), .int .i64 d] w fun e w' => e = .returned (.tuple #[.int .u8 0, .bool false]) ∧ w = w' := by
  go_enter Tryd.func96, Tryd.ntmps96
  by_cases h1 : d < 1
  · go_wp2_with fail
    go_ret2
    exact ⟨rfl, rfl⟩
  · have h0 : (h : Int) < d := by omega
    go_wp2_with fail
    refine (glen_c _ l).mono ?_
    rintro e w' ⟨rfl, rfl⟩
    go_wp2_with fail
    go_ret2
    exact ⟨rfl, rfl⟩
theorem gback_yes {H K N x h : Nat} {cs : List Int} (d : Nat) (z : Int) (w : World) (l : GLo w H K N x h cs) (h1 : 1 ≤ d) (h2 : d ≤ h) (hz : cs[gbck N x d]? = some z) :
    Calls Tryd.prog 96 #[.pointer (some ⟨H, 0, none⟩), .int .i64 (d : Int)] w fun e w' => e = .returned (.tuple #[.int .u8 z, .bool true]) ∧ ∃ n, w' = w.drewN n := by
  have hle := l.hle
  have hd : d ≤ N := Nat.le_trans h2 hle
  have e1 : ¬ (d : Int) < 1 := by omega
  have e2 : ¬ (h : Int) < (d : Int) := by omega
  have hb := gbck_lt l.xlt h1 hd
  have hr := l.row.gbyte hz
  have hc := fun w' (l' : GLo w' H K N x h cs) => gcell_c d w' l' hd
  clear hz
  generalize gbck N x d = p at *
  have hpi : (p : Int) < (N : Int) := by omega
  have h0 := l.c0
  go_enter Tryd.func96, Tryd.ntmps96
  go_wp2_with fail
  refine (glen_c _ l).mono ?_
  rintro e w' ⟨rfl, rfl⟩
  go_wp2_with fail
  go_quiet ((first | (go_at_call 97; refine Calls.quiet_of_same (hc _ ?_); first | exact l.drewN _ | exact l | exact l.drew)))
  go_wp2_with fail
  go_ret2
  exact ⟨rfl, _, rfl⟩
end Go.Proofs.YtikdpnpkmmmacaaDoor

/-
  What Put, Back, Clear, Len, Size and Tail of the ring come to, at a window in memory that holds a list of bytes; and Same of two lists that are one.
  Conditions: the window has a size from 1 to 32768, and the list is not longer; each method keeps that.
-/
namespace Go.Proofs.YtikdpnpkmmmacaaDoor
open Go.RowKit
set_option linter.unusedVariables false

/-- Block H holds a window of N cells, which lie in block K; l is what is in it. -/
structure GRg (w : World) (H K N : Nat) (l : List Int) : Prop where
  ex : ∃ x cs, GLo w H K N x l.length cs ∧ GHolds N x cs l
section
variable {w u : World} {H K N : Nat} {l : List Int}
theorem GRg.drewN (r : GRg w H K N l) (n : Nat) : GRg (w.drewN n) H K N l := by obtain ⟨x, cs, lo, hh⟩ := r.ex; exact ⟨x, cs, lo.drewN n, hh⟩
theorem GRg.drew (r : GRg w H K N l) : GRg w.drew H K N l := by obtain ⟨x, cs, lo, hh⟩ := r.ex; exact ⟨x, cs, lo.drew, hh⟩
theorem GRg.only {c : Nat} (r : GRg w H K N l) (k : Only c w u) (h1 : H ≠ c) (h2 : K ≠ c) : GRg u H K N l := by obtain ⟨x, cs, lo, hh⟩ := r.ex; exact ⟨x, cs, lo.only k h1 h2, hh⟩
theorem GRg.below {B : Nat} (r : GRg w H K N l) (k : Below B w u) (h1 : H < B) (h2 : K < B) : GRg u H K N l := by obtain ⟨x, cs, lo, hh⟩ := r.ex; exact ⟨x, cs, lo.below k h1 h2, hh⟩
theorem GRg.alloc (r : GRg w H K N l) (o : Obj) : GRg (w.alloc o) H K N l := by obtain ⟨x, cs, lo, hh⟩ := r.ex; exact ⟨x, cs, lo.alloc o, hh⟩
theorem GRg.two {a b : Nat} (r : GRg w H K N l) (k : GTwo a b w u) (h1 : H ≠ a) (h2 : K ≠ a) (h3 : H ≠ b) (h4 : K ≠ b) : GRg u H K N l := by
  obtain ⟨x, cs, lo, hh⟩ := r.ex
  refine ⟨x, cs, ⟨?_, ?_, lo.len, lo.n1, lo.n2, lo.xlt, lo.hle, lo.ne⟩, hh⟩
  · have := lo.hd; unfold Cells at *; rw [k.block H h1 h3]; exact this
  · have := lo.row; unfold Cells at *; rw [k.block K h2 h4]; exact this
theorem GRg.lt (r : GRg w H K N l) : H < w.heap.size ∧ K < w.heap.size := by obtain ⟨x, cs, lo, hh⟩ := r.ex; exact ⟨lo.hd.lt, lo.row.lt⟩
theorem GRg.le (r : GRg w H K N l) : l.length ≤ N ∧ N ≤ 32768 ∧ 1 ≤ N := by obtain ⟨x, cs, lo, hh⟩ := r.ex; exact ⟨lo.hle, lo.n2, lo.n1⟩
end
theorem gnew_r (n : Nat) (w : World) (h1 : 1 ≤ n) (h2 : n ≤ 32768) : Calls Tryd.prog 30 #[.int .i64 n] w fun e w' => e = .returned (.tuple #[.pointer (some ⟨w.heap.size + 1, 0, none⟩), .int .i64 0]) ∧
    GRg w' (w.heap.size + 1) w.heap.size n [] ∧ Below w.heap.size w w' ∧ w'.heap.size = w.heap.size + 2 :=
  (gnew_yes n w h1 h2).mono fun _ _ h => ⟨h.1, ⟨0, _, h.2.1, gholds_nil _ _ _⟩, h.2.2⟩
section
variable {H K N : Nat} {l : List Int}
theorem glen_r (w : World) (r : GRg w H K N l) : Calls Tryd.prog 94 #[.pointer (some ⟨H, 0, none⟩)] w fun e w' => e = .returned (.int .i64 (l.length : Int)) ∧ w = w' := by
  obtain ⟨x, cs, lo, hh⟩ := r.ex; exact glen_c w lo
theorem gsize_r (w : World) (r : GRg w H K N l) : Calls Tryd.prog 89 #[.pointer (some ⟨H, 0, none⟩)] w fun e w' => e = .returned (.int .i64 (N : Int)) ∧ w = w' := by
  obtain ⟨x, cs, lo, hh⟩ := r.ex; exact gsize_c w lo
theorem gclear_r (w : World) (r : GRg w H K N l) : Calls Tryd.prog 38 #[.pointer (some ⟨H, 0, none⟩)] w fun e w' => e = .returned (.tuple #[]) ∧ GRg w' H K N [] ∧ Only H w w' := by
  obtain ⟨x, cs, lo, hh⟩ := r.ex
  exact (gclear_c w lo).mono fun _ _ h => ⟨h.1, ⟨0, cs, h.2.1, gholds_nil _ _ _⟩, h.2.2⟩
theorem gput_r (z : Int) (w : World) (r : GRg w H K N l) : Calls Tryd.prog 82 #[.pointer (some ⟨H, 0, none⟩), .int .u8 z] w fun e w' => e = .returned (.tuple #[]) ∧ GRg w' H K N (glastN N (l ++ [z])) ∧ GTwo H K w w' := by
  obtain ⟨x, cs, lo, hh⟩ := r.ex
  refine (gput_c z w lo).mono fun _ _ h => ⟨h.1, ⟨_, _, ?_, gput_holds hh lo.len lo.xlt lo.hle z⟩, h.2.2⟩
  rw [glastN_length, List.length_append, List.length_singleton]
  exact h.2.1
theorem gback_r_no (d : Int) (w : World) (r : GRg w H K N l) (hd : d < 1 ∨ (l.length : Int) < d) : Calls Tryd.prog 96 #[.pointer (some ⟨H, 0, none⟩), .int .i64 d] w fun e w' => e = .returned (.tuple #[.int .u8 0, .bool false]) ∧ w = w' := by
  obtain ⟨x, cs, lo, hh⟩ := r.ex; exact gback_no d w lo hd
theorem gback_r (d : Nat) (z : Int) (w : World) (r : GRg w H K N l) (h1 : 1 ≤ d) (h2 : d ≤ l.length) (hz : l[l.length - d]? = some z) :
    Calls Tryd.prog 96 #[.pointer (some ⟨H, 0, none⟩), .int .i64 (d : Int)] w fun e w' => e = .returned (.tuple #[.int .u8 z, .bool true]) ∧ ∃ n, w' = w.drewN n := by
  obtain ⟨x, cs, lo, hh⟩ := r.ex
  exact gback_yes d z w lo h1 h2 ((hh d h1 h2).trans hz)
end

end Go.Proofs.YtikdpnpkmmmacaaDoor

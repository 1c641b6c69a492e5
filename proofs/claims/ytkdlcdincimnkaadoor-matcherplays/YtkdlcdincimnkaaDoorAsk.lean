/-
  What the machine's methods come to: States, Patterns, Longest, Fail, Depth, Word, Out; of a state, of a number that is no state's, of the nil machine.
  Conditions: the machine lies as said.
-/
import Derived.Test.YtkdlcdincimnkaaDoorBuild
import Derived.Test.YtkdlcdincimnkaaDoorTz
import Derived.OwnWalk
namespace Go.Proofs.YtkdlcdincimnkaaDoor
open Go.RowKit
set_option linter.unusedVariables false
section
variable {base A pn lg : Nat} {nd : List Nd} {G : Nat → Nat → Option Nat}
theorem states_c (w : World) (h : Mach w base A pn lg nd G) (N : Nat) (hN : nd.length = N) : Calls Tryd.prog 33 #[.pointer (some ⟨A, 0, none⟩)] w fun e w' => e = .returned (.int .i64 (N : Int)) ∧ w = w' := by
  obtain ⟨g, cap, M, k, c0, c1, c2, c3, h1, h2, h3, h4⟩ := h.parts
  rw [hN] at c2
  clear h1 h2 h3 h4 hN c0 c1 c3 h
  go_enter Tryd.func33, Tryd.ntmps33
  go_wp2_with fail
  go_ret
  exact ⟨rfl, rfl⟩
theorem out_no (s : Int) (w : World) (h : Mach w base A pn lg nd G) (hs : ¬ (0 ≤ s ∧ s < (nd.length : Int))) : Calls Tryd.prog 36 #[.pointer (some ⟨A, 0, none⟩), .int .i64 s] w fun e w' => e = .returned (.slice none 0 0) ∧ w = w' := by
  have hh := has_c s w h nd.length rfl
  rw [decide_eq_false hs] at hh
  clear h hs
  go_enter Tryd.func36, Tryd.ntmps36
  go_wp2_with (go_at_call 46; refine hh.mono ?_; rintro e2 w2 ⟨rfl, rfl⟩)
  go_ret
  exact ⟨rfl, rfl⟩
end
/- The nil machine. -/
theorem states_nil (w : World) : Calls Tryd.prog 33 #[.pointer none] w fun e w' => e = .returned (.int .i64 0) ∧ w = w' := by
  go_enter Tryd.func33, Tryd.ntmps33
  go_wp2_with fail
  go_ret
  exact ⟨rfl, rfl⟩
theorem next_nil (s : Int) (b : Int) (w : World) : Calls Tryd.prog 35 #[.pointer none, .int .i64 s, .int .u8 b] w fun e w' => e = .returned (.int .i64 0) ∧ w = w' := by
  go_enter Tryd.func35, Tryd.ntmps35
  go_wp2_with (go_at_call 46; refine (has_nil s w).mono ?_; rintro e2 w2 ⟨rfl, rfl⟩)
  go_ret
  exact ⟨rfl, rfl⟩
theorem out_nil (s : Int) (w : World) : Calls Tryd.prog 36 #[.pointer none, .int .i64 s] w fun e w' => e = .returned (.slice none 0 0) ∧ w = w' := by
  go_enter Tryd.func36, Tryd.ntmps36
  go_wp2_with (go_at_call 46; refine (has_nil s w).mono ?_; rintro e2 w2 ⟨rfl, rfl⟩)
  go_ret
  exact ⟨rfl, rfl⟩
/-- Bytes as cells. -/
def vn (l : List Nat) : List Value := l.map fun x : Nat => Value.int .u8 (x : Int)
theorem vn_length (l : List Nat) : (vn l).length = l.length := by simp [vn]
theorem vn_get (l : List Nat) (j : Nat) : (vn l)[j]? = (l[j]?).map fun x : Nat => Value.int .u8 (x : Int) := by simp [vn]
theorem info5 : (Tryd.prog.info? 5).map (fun i => (i.zero, i.size, i.bytes)) = some (some (.int .u8 0), 1, 1) := by kernel_rfl
theorem made_bytes (n : Nat) (hn : n ≤ 1048576) (w : World) : (Instr.makeSlice 47 (.int .i64 (n : Int)) (.int .i64 (n : Int))).run Tryd.prog w = .ok (.slice (some ⟨w.heap.size, 0, none⟩) n n) (w.alloc (.cells (vn (List.replicate n 0)).toArray 5)) := by
  obtain ⟨i, hi, hz, hs, hb⟩ := info_parts info5
  have := run_make (P := Tryd.prog) w 47 5 i _ Tryd.underlying47 hi hz .i64 .i64 n n (by omega) (by omega) (by rw [hb]; omega) (by omega)
  rw [this, hs]
  have e : madeCells (Value.int .u8 0).cells ((n : Int).toNat * 1) = (vn (List.replicate n 0)).toArray := by
    apply Array.toList_inj.1
    show (madeCells #[Value.int .u8 0] _).toList = _
    rw [toList_madeCells_one]
    simp [vn]
  rw [e]
  simp
/-- A row of bytes that the call made. -/
def Bk (w : World) (b : Nat) (l : List Nat) : Prop := Cells w b (vn l).toArray 5
theorem Bk.cell {w : World} {b : Nat} {l : List Nat} (h : Bk w b l) {i x : Nat} (hx : l[i]? = some x) : w.cell? ⟨b, i, none⟩ = some (.int .u8 (x : Int)) := by
  rw [Cells.cell h]; simp [vn_get, hx]
theorem Bk.set {w : World} {b : Nat} {l : List Nat} (h : Bk w b l) (i x : Nat) : Bk (w.setCell ⟨b, i, none⟩ (.int .u8 (x : Int))) b (l.set i x) := by
  have := Cells.set h i (.int .u8 (x : Int))
  unfold Bk
  have e : (vn (l.set i x)).toArray = (vn l).toArray.setIfInBounds i (.int .u8 (x : Int)) := by simp [vn, List.map_set]
  rw [e]; exact this
theorem Bk.lies {w : World} {b : Nat} {l : List Nat} (h : Bk w b l) : Lies w (some ⟨b, 0, none⟩) l := Or.inr ⟨b, 0, rfl, fun i x hx => by rw [Nat.zero_add]; exact h.cell hx⟩
theorem word_row (u : List Nat) (k : Nat) (b : Nat) (h : u[k]? = some b) : (List.replicate (k + 1) 0 ++ u.drop (k + 1)).set k b = List.replicate k 0 ++ u.drop k := by
  rw [drop_more h, List.replicate_succ', List.append_assoc, List.set_append_right _ _ (by simp), List.length_replicate, Nat.sub_self]
  rfl
end Go.Proofs.YtkdlcdincimnkaaDoor

/-
  The splitter in memory: 105 cells by a function of their place.
-/
import Derived.Test.YtbndohpcaahenabOwn
import Derived.Test.YtbndohpcaahenabMth
import Derived.BigQuiet
import Derived.Laws.EntriesVeiled
import Derived.BigRegion
import Derived.Deep.CutBlock
import Derived.Deep.DeepCutAuto
namespace Go.Proofs.Ytbndohpcaahenab
open Go.RowKit
set_option linter.unusedVariables false
/-- 105 cells by a function. -/
def cz (f : Nat → Value) : Array Value := ((List.range 105).map f).toArray
def upd (f : Nat → Value) (i : Nat) (v : Value) : Nat → Value := fun j => if j = i then v else f j
theorem upd_same (f : Nat → Value) (i : Nat) (v : Value) : upd f i v i = v := by simp [upd]
theorem upd_ne (f : Nat → Value) {i j : Nat} (v : Value) (h : j ≠ i) : upd f i v j = f j := by simp [upd, h]
theorem cz_size (f : Nat → Value) : (cz f).size = 105 := by simp [cz]
theorem cz_at (f : Nat → Value) {i : Nat} (h : i < 105) : (cz f)[i]? = some (f i) := by simp [cz, h]
theorem cz_set (f : Nat → Value) (i : Nat) (v : Value) : (cz f).setIfInBounds i v = cz (upd f i v) := by
  apply Array.ext
  · simp [cz]
  · intro j h1 h2
    have hj : j < 105 := by simpa [cz] using h2
    simp only [cz, List.setIfInBounds_toArray, List.getElem_toArray, List.getElem_set, List.getElem_map, List.getElem_range, upd]
    by_cases e : i = j
    · simp [e]
    · simp [e, Ne.symm e]
/-- The number of the step's function. -/
def fno (m : Nat) : Nat := if m = 0 then 24 else if m = 1 then 29 else if m = 2 then 32 else if m = 3 then 33 else if m = 4 then 36 else if m = 5 then 31 else if m = 6 then 34 else 37
def fnv (m : Nat) : Value := .func (.func (fno m)) #[] #[]
/-- The cells of a splitter. -/
structure Sf (f : Nat → Value) (D : List Nat) (s : Sp) (td : Nat) (ed : Bool) : Prop where
  c0 : f 0 = .string (st D)
  c1 : f 1 = fnv s.md
  c2 : f 2 = .int .i64 (s.seen : Int)
  c3 : f 3 = .int .i64 (s.pads : Int)
  c4 : f 4 = .bool s.last
  held : ∀ (j x : Nat), s.hl[j]? = some x → f (5 + j) = .int .u16 (x : Int)
  any : ∀ (j : Nat), j < 94 → ∃ x : Int, f (5 + j) = .int .u16 x
  c99 : f 99 = .int .i64 (s.hl.length : Int)
  c100 : f 100 = .int .i64 (s.kn : Int)
  c101 : f 101 = .int .i64 (td : Int)
  c102 : f 102 = .bool s.ins
  c103 : f 103 = .bool s.cl
  c104 : f 104 = .bool ed
  len : s.hl.length ≤ 94
structure Sm (w : World) (B : Nat) (D : List Nat) (s : Sp) (td : Nat) (ed : Bool) : Prop where
  ex : ∃ f, Cells w B (cz f) 48 ∧ Sf f D s td ed
section
variable {w u : World} {B td : Nat} {D : List Nat} {s : Sp} {ed : Bool}
theorem Sm.lt (h : Sm w B D s td ed) : B < w.heap.size := by obtain ⟨f, hf, _⟩ := h.ex; exact hf.lt
theorem Sm.cells (h : Sm w B D s td ed) : ∃ cs, Cells w B cs 48 := by obtain ⟨f, hf, _⟩ := h.ex; exact ⟨_, hf⟩
theorem Sm.fz (h : Sm w B D s td ed) (i : Nat) : w.frozen? ⟨B, i, none⟩ = false := by obtain ⟨f, hf, _⟩ := h.ex; exact hf.frozen i
theorem Sm.k0 (h : Sm w B D s td ed) : w.cell? ⟨B, 0, none⟩ = some (.string (st D)) := by obtain ⟨f, hf, k⟩ := h.ex; rw [hf.cell, cz_at f (by decide), k.c0]
theorem Sm.k1 (h : Sm w B D s td ed) : w.cell? ⟨B, 1, none⟩ = some (.func (.func (fno s.md)) #[] #[]) := by obtain ⟨f, hf, k⟩ := h.ex; rw [hf.cell, cz_at f (by decide), k.c1]; rfl
theorem Sm.k2 (h : Sm w B D s td ed) : w.cell? ⟨B, 2, none⟩ = some (.int .i64 (s.seen : Int)) := by obtain ⟨f, hf, k⟩ := h.ex; rw [hf.cell, cz_at f (by decide), k.c2]
theorem Sm.k3 (h : Sm w B D s td ed) : w.cell? ⟨B, 3, none⟩ = some (.int .i64 (s.pads : Int)) := by obtain ⟨f, hf, k⟩ := h.ex; rw [hf.cell, cz_at f (by decide), k.c3]
theorem Sm.k4 (h : Sm w B D s td ed) : w.cell? ⟨B, 4, none⟩ = some (.bool s.last) := by obtain ⟨f, hf, k⟩ := h.ex; rw [hf.cell, cz_at f (by decide), k.c4]
theorem Sm.kh (h : Sm w B D s td ed) {j x : Nat} (hx : s.hl[j]? = some x) : w.cell? ⟨B, 5 + j, none⟩ = some (.int .u16 (x : Int)) := by
  obtain ⟨f, hf, k⟩ := h.ex
  have := (List.getElem?_eq_some_iff.1 hx).1
  have := k.len
  rw [hf.cell, cz_at f (by omega), k.held j x hx]
theorem Sm.ka (h : Sm w B D s td ed) {j : Nat} (hj : j < 94) : ∃ x, w.cell? ⟨B, 5 + j, none⟩ = some (.int .u16 x) := by
  obtain ⟨f, hf, k⟩ := h.ex
  obtain ⟨x, hx⟩ := k.any j hj
  exact ⟨x, by rw [hf.cell, cz_at f (by omega), hx]⟩
theorem Sm.k99 (h : Sm w B D s td ed) : w.cell? ⟨B, 99, none⟩ = some (.int .i64 (s.hl.length : Int)) := by obtain ⟨f, hf, k⟩ := h.ex; rw [hf.cell, cz_at f (by decide), k.c99]
theorem Sm.k100 (h : Sm w B D s td ed) : w.cell? ⟨B, 100, none⟩ = some (.int .i64 (s.kn : Int)) := by obtain ⟨f, hf, k⟩ := h.ex; rw [hf.cell, cz_at f (by decide), k.c100]
theorem Sm.k101 (h : Sm w B D s td ed) : w.cell? ⟨B, 101, none⟩ = some (.int .i64 (td : Int)) := by obtain ⟨f, hf, k⟩ := h.ex; rw [hf.cell, cz_at f (by decide), k.c101]
theorem Sm.k102 (h : Sm w B D s td ed) : w.cell? ⟨B, 102, none⟩ = some (.bool s.ins) := by obtain ⟨f, hf, k⟩ := h.ex; rw [hf.cell, cz_at f (by decide), k.c102]
theorem Sm.k103 (h : Sm w B D s td ed) : w.cell? ⟨B, 103, none⟩ = some (.bool s.cl) := by obtain ⟨f, hf, k⟩ := h.ex; rw [hf.cell, cz_at f (by decide), k.c103]
theorem Sm.k104 (h : Sm w B D s td ed) : w.cell? ⟨B, 104, none⟩ = some (.bool ed) := by obtain ⟨f, hf, k⟩ := h.ex; rw [hf.cell, cz_at f (by decide), k.c104]
theorem Sm.len (h : Sm w B D s td ed) : s.hl.length ≤ 94 := by obtain ⟨f, hf, k⟩ := h.ex; exact k.len
theorem Sm.keep (h : Sm w B D s td ed) (k : u.heap[B]? = w.heap[B]?) : Sm u B D s td ed := by
  obtain ⟨f, hf, hh⟩ := h.ex
  exact ⟨f, by unfold Cells at *; rw [k]; exact hf, hh⟩
theorem Sm.drewN (h : Sm w B D s td ed) (n : Nat) : Sm (w.drewN n) B D s td ed := h.keep rfl
theorem Sm.drew (h : Sm w B D s td ed) : Sm w.drew B D s td ed := h.keep rfl
theorem Sm.below (h : Sm w B D s td ed) {C : Nat} (k : Below C w u) (hC : B < C) : Sm u B D s td ed := h.keep (k.block B hC)
theorem Sm.alloc (h : Sm w B D s td ed) (o : Obj) : Sm (w.alloc o) B D s td ed := h.keep (Below.heap_alloc w o B h.lt)
theorem Sm.got {lo sz n : Nat} {e : TypeId} {v v' : Value} {xs : List Value} (h : Sm w B D s td ed) (k : Got lo e sz w u v v' n xs) (he : 48 ≠ e) : Sm u B D s td ed := by
  obtain ⟨f, hf, hh⟩ := h.ex
  exact ⟨f, hf.got k he, hh⟩
theorem Sm.to (h : Sm w B D s td ed) {s' : Sp} {td' : Nat} {ed' : Bool} {i : Nat} {v : Value} (k : ∀ f, Sf f D s td ed → Sf (upd f i v) D s' td' ed') : Sm (w.setCell ⟨B, i, none⟩ v) B D s' td' ed' := by
  obtain ⟨f, hf, hh⟩ := h.ex
  refine ⟨upd f i v, ?_, k f hh⟩
  have := hf.set i v
  rwa [cz_set] at this
theorem Sm.set1 (h : Sm w B D s td ed) (m : Nat) : Sm (w.setCell ⟨B, 1, none⟩ (fnv m)) B D { s with md := m } td ed := by
  refine h.to fun f k => ⟨?_, ?_, ?_, ?_, ?_, fun j x hx => ?_, fun j hj => ?_, ?_, ?_, ?_, ?_, ?_, ?_, k.len⟩
  all_goals first | exact upd_same _ _ _ | (rw [upd_ne _ _ (by omega)]; first | exact k.c0 | exact k.c2 | exact k.c3 | exact k.c4 | exact k.held j x hx | exact k.any j hj | exact k.c99 | exact k.c100 | exact k.c101 | exact k.c102 | exact k.c103 | exact k.c104)
theorem Sm.set2 (h : Sm w B D s td ed) (m : Nat) : Sm (w.setCell ⟨B, 2, none⟩ (.int .i64 (m : Int))) B D { s with seen := m } td ed := by
  refine h.to fun f k => ⟨?_, ?_, ?_, ?_, ?_, fun j x hx => ?_, fun j hj => ?_, ?_, ?_, ?_, ?_, ?_, ?_, k.len⟩
  all_goals first | exact upd_same _ _ _ | (rw [upd_ne _ _ (by omega)]; first | exact k.c0 | exact k.c1 | exact k.c3 | exact k.c4 | exact k.held j x hx | exact k.any j hj | exact k.c99 | exact k.c100 | exact k.c101 | exact k.c102 | exact k.c103 | exact k.c104)
theorem Sm.set3 (h : Sm w B D s td ed) (m : Nat) : Sm (w.setCell ⟨B, 3, none⟩ (.int .i64 (m : Int))) B D { s with pads := m } td ed := by
  refine h.to fun f k => ⟨?_, ?_, ?_, ?_, ?_, fun j x hx => ?_, fun j hj => ?_, ?_, ?_, ?_, ?_, ?_, ?_, k.len⟩
  all_goals first | exact upd_same _ _ _ | (rw [upd_ne _ _ (by omega)]; first | exact k.c0 | exact k.c1 | exact k.c2 | exact k.c4 | exact k.held j x hx | exact k.any j hj | exact k.c99 | exact k.c100 | exact k.c101 | exact k.c102 | exact k.c103 | exact k.c104)
theorem Sm.set4 (h : Sm w B D s td ed) (m : Bool) : Sm (w.setCell ⟨B, 4, none⟩ (.bool m)) B D { s with last := m } td ed := by
  refine h.to fun f k => ⟨?_, ?_, ?_, ?_, ?_, fun j x hx => ?_, fun j hj => ?_, ?_, ?_, ?_, ?_, ?_, ?_, k.len⟩
  all_goals first | exact upd_same _ _ _ | (rw [upd_ne _ _ (by omega)]; first | exact k.c0 | exact k.c1 | exact k.c2 | exact k.c3 | exact k.held j x hx | exact k.any j hj | exact k.c99 | exact k.c100 | exact k.c101 | exact k.c102 | exact k.c103 | exact k.c104)
theorem Sm.setN (h : Sm w B D s td ed) : Sm (w.setCell ⟨B, 99, none⟩ (.int .i64 0)) B D { s with hl := [] } td ed := by
  refine h.to fun f k => ⟨?_, ?_, ?_, ?_, ?_, fun j x hx => ?_, fun j hj => ?_, ?_, ?_, ?_, ?_, ?_, ?_, by simp⟩
  all_goals first | exact upd_same _ _ _ | (have h1 : j < s.hl.length := (List.getElem?_eq_some_iff.1 hx).1; have h2 := k.len; rw [upd_ne _ _ (by omega)]; exact k.held j x hx) | (simp at hx; done) | (rw [upd_ne _ _ (by omega)]; first | exact k.c0 | exact k.c1 | exact k.c2 | exact k.c3 | exact k.c4 | exact k.any j hj | exact k.c100 | exact k.c101 | exact k.c102 | exact k.c103 | exact k.c104)
theorem Sm.set100 (h : Sm w B D s td ed) (m : Nat) : Sm (w.setCell ⟨B, 100, none⟩ (.int .i64 (m : Int))) B D { s with kn := m } td ed := by
  refine h.to fun f k => ⟨?_, ?_, ?_, ?_, ?_, fun j x hx => ?_, fun j hj => ?_, ?_, ?_, ?_, ?_, ?_, ?_, k.len⟩
  all_goals first | exact upd_same _ _ _ | (have h1 : j < s.hl.length := (List.getElem?_eq_some_iff.1 hx).1; have h2 := k.len; rw [upd_ne _ _ (by omega)]; exact k.held j x hx) | (rw [upd_ne _ _ (by omega)]; first | exact k.c0 | exact k.c1 | exact k.c2 | exact k.c3 | exact k.c4 | exact k.held j x hx | exact k.any j hj | exact k.c99 | exact k.c101 | exact k.c102 | exact k.c103 | exact k.c104)
theorem Sm.set101 (h : Sm w B D s td ed) (m : Nat) : Sm (w.setCell ⟨B, 101, none⟩ (.int .i64 (m : Int))) B D s m ed := by
  refine h.to fun f k => ⟨?_, ?_, ?_, ?_, ?_, fun j x hx => ?_, fun j hj => ?_, ?_, ?_, ?_, ?_, ?_, ?_, k.len⟩
  all_goals first | exact upd_same _ _ _ | (have h1 : j < s.hl.length := (List.getElem?_eq_some_iff.1 hx).1; have h2 := k.len; rw [upd_ne _ _ (by omega)]; exact k.held j x hx) | (rw [upd_ne _ _ (by omega)]; first | exact k.c0 | exact k.c1 | exact k.c2 | exact k.c3 | exact k.c4 | exact k.held j x hx | exact k.any j hj | exact k.c99 | exact k.c100 | exact k.c102 | exact k.c103 | exact k.c104)
theorem Sm.set102 (h : Sm w B D s td ed) (m : Bool) : Sm (w.setCell ⟨B, 102, none⟩ (.bool m)) B D { s with ins := m } td ed := by
  refine h.to fun f k => ⟨?_, ?_, ?_, ?_, ?_, fun j x hx => ?_, fun j hj => ?_, ?_, ?_, ?_, ?_, ?_, ?_, k.len⟩
  all_goals first | exact upd_same _ _ _ | (have h1 : j < s.hl.length := (List.getElem?_eq_some_iff.1 hx).1; have h2 := k.len; rw [upd_ne _ _ (by omega)]; exact k.held j x hx) | (rw [upd_ne _ _ (by omega)]; first | exact k.c0 | exact k.c1 | exact k.c2 | exact k.c3 | exact k.c4 | exact k.held j x hx | exact k.any j hj | exact k.c99 | exact k.c100 | exact k.c101 | exact k.c103 | exact k.c104)
theorem Sm.set103 (h : Sm w B D s td ed) (m : Bool) : Sm (w.setCell ⟨B, 103, none⟩ (.bool m)) B D { s with cl := m } td ed := by
  refine h.to fun f k => ⟨?_, ?_, ?_, ?_, ?_, fun j x hx => ?_, fun j hj => ?_, ?_, ?_, ?_, ?_, ?_, ?_, k.len⟩
  all_goals first | exact upd_same _ _ _ | (have h1 : j < s.hl.length := (List.getElem?_eq_some_iff.1 hx).1; have h2 := k.len; rw [upd_ne _ _ (by omega)]; exact k.held j x hx) | (rw [upd_ne _ _ (by omega)]; first | exact k.c0 | exact k.c1 | exact k.c2 | exact k.c3 | exact k.c4 | exact k.held j x hx | exact k.any j hj | exact k.c99 | exact k.c100 | exact k.c101 | exact k.c102 | exact k.c104)
theorem Sm.set104 (h : Sm w B D s td ed) (m : Bool) : Sm (w.setCell ⟨B, 104, none⟩ (.bool m)) B D s td m := by
  refine h.to fun f k => ⟨?_, ?_, ?_, ?_, ?_, fun j x hx => ?_, fun j hj => ?_, ?_, ?_, ?_, ?_, ?_, ?_, k.len⟩
  all_goals first | exact upd_same _ _ _ | (have h1 : j < s.hl.length := (List.getElem?_eq_some_iff.1 hx).1; have h2 := k.len; rw [upd_ne _ _ (by omega)]; exact k.held j x hx) | (rw [upd_ne _ _ (by omega)]; first | exact k.c0 | exact k.c1 | exact k.c2 | exact k.c3 | exact k.c4 | exact k.held j x hx | exact k.any j hj | exact k.c99 | exact k.c100 | exact k.c101 | exact k.c102 | exact k.c103)
/-- A sign is laid behind those that are held, and counted. -/
theorem Sm.push (h : Sm w B D s td ed) (g : Nat) (n m : Nat) (hn : s.hl.length = n) (hm : n + 1 = m) (hl : n < 94) : Sm (((w.setCell ⟨B, 5 + n, none⟩ (.int .u16 (g : Int))).drew).setCell ⟨B, 99, none⟩ (.int .i64 (m : Int))) B D { s with hl := s.hl ++ [g] } td ed := by
  subst hm
  obtain ⟨f, hf, k⟩ := h.ex
  refine ⟨upd (upd f (5 + n) (.int .u16 (g : Int))) 99 (.int .i64 ((n + 1 : Nat) : Int)), ?_, ?_⟩
  · have := ((hf.set (5 + n) (.int .u16 (g : Int))).drew).set 99 (.int .i64 ((n + 1 : Nat) : Int))
    rwa [cz_set, cz_set] at this
  · refine ⟨?_, ?_, ?_, ?_, ?_, fun j x hx => ?_, fun j hj => ?_, ?_, ?_, ?_, ?_, ?_, ?_, by simp; omega⟩
    · rw [upd_ne _ _ (by omega), upd_ne _ _ (by omega)]; exact k.c0
    · rw [upd_ne _ _ (by omega), upd_ne _ _ (by omega)]; exact k.c1
    · rw [upd_ne _ _ (by omega), upd_ne _ _ (by omega)]; exact k.c2
    · rw [upd_ne _ _ (by omega), upd_ne _ _ (by omega)]; exact k.c3
    · rw [upd_ne _ _ (by omega), upd_ne _ _ (by omega)]; exact k.c4
    · have hj := (List.getElem?_eq_some_iff.1 hx).1
      simp only [List.length_append, List.length_singleton] at hj
      rw [upd_ne _ _ (by omega)]
      by_cases e : j = n
      · subst e
        rw [upd_same]
        rw [List.getElem?_append_right (by omega), hn] at hx
        simp at hx
        rw [hx]
      · rw [upd_ne _ _ (by omega)]
        rw [List.getElem?_append_left (by omega)] at hx
        exact k.held j x hx
    · rw [upd_ne _ _ (by omega)]
      by_cases e : j = n
      · subst e; exact ⟨_, upd_same _ _ _⟩
      · rw [upd_ne _ _ (by omega)]; exact k.any j hj
    · rw [upd_same]; simp [hn]
    · rw [upd_ne _ _ (by omega), upd_ne _ _ (by omega)]; exact k.c100
    · rw [upd_ne _ _ (by omega), upd_ne _ _ (by omega)]; exact k.c101
    · rw [upd_ne _ _ (by omega), upd_ne _ _ (by omega)]; exact k.c102
    · rw [upd_ne _ _ (by omega), upd_ne _ _ (by omega)]; exact k.c103
    · rw [upd_ne _ _ (by omega), upd_ne _ _ (by omega)]; exact k.c104
end
theorem wr_id (z : Int) (h0 : 0 ≤ z) (h1 : z < 9223372036854775808) : IntKind.i64.wrap z = z := by rw [IntKind.wrap_i64]; omega
section
variable {B td : Nat} {D : List Nat} {s : Sp} {ed : Bool}
theorem add_c (g : Nat) (hl : s.hl.length < 94) (w : World) (h : Sm w B D s td ed) : Calls Try.prog 20 #[.pointer (some ⟨B, 0, none⟩), .int .u16 (g : Int)] w fun e w' => e = .returned (.tuple #[]) ∧ Sm w' B D (add g s) td ed ∧ Only B w w' := by
  have c2 := h.k102
  cases hi : s.ins with
  | false =>
    rw [hi] at c2
    have hA : Aside (Sm w B D s td ed) := h
    have e : add g s = s := by simp [add, hi]
    rw [e]
    clear h hl hi e
    go_enter Try.func20, Try.ntmps20
    go_wp2_with fail
    first | go_end0 | (refine bodyPost_ret (results_none rfl _ _ _) rfl ?_)
    exact ⟨rfl, hA.out, Only.refl B w⟩
  | true =>
    rw [hi] at c2
    have e : add g s = { s with hl := s.hl ++ [g] } := by simp [add, hi]
    rw [e]
    have c1 := h.k99
    obtain ⟨n, hn⟩ : ∃ n, s.hl.length = n := ⟨_, rfl⟩
    rw [hn] at c1 hl
    obtain ⟨y, ca⟩ := h.ka hl
    have z1 := h.fz (5 + n)
    have z2 := h.fz 99
    have hnI : (n : Int) < 94 := by omega
    have hA : Aside (Sm w B D s td ed ∧ s.hl.length = n ∧ n < 94) := ⟨h, hn, hl⟩
    clear h hl hi e hn
    go_enter Try.func20, Try.ntmps20
    go_upto_region 1 with fail
    go_region
    have c3 : ((w.setCell ⟨B, 5 + n, none⟩ (.int .u16 (g : Int))).drew).cell? ⟨B, 99, none⟩ = some (.int .i64 (n : Int)) := by
      have := hA.out.2.2
      obtain ⟨f, hf, k⟩ := hA.out.1.ex
      have h2 := (hf.set (5 + n) (.int .u16 (g : Int))).drew
      rw [cz_set] at h2
      rw [h2.cell, cz_at _ (by decide), upd_ne _ _ (by omega), k.c99, hA.out.2.1]
    have z3 : ((w.setCell ⟨B, 5 + n, none⟩ (.int .u16 (g : Int))).drew).frozen? ⟨B, 99, none⟩ = false := by
      obtain ⟨f, hf, k⟩ := hA.out.1.ex
      exact ((hf.set (5 + n) (.int .u16 (g : Int))).drew).frozen 99
    have hP := hA.out.1.push g n (n + 1) hA.out.2.1 rfl hA.out.2.2
    have oP : Only B w (((w.setCell ⟨B, 5 + n, none⟩ (.int .u16 (g : Int))).drew).setCell ⟨B, 99, none⟩ (.int .i64 ((n + 1 : Nat) : Int))) := (((Only.refl B w).setCell _ _).drew).setCell _ _
    obtain ⟨w2, hw2⟩ : ∃ w2, (w.setCell ⟨B, 5 + n, none⟩ (.int .u16 (g : Int))).drew = w2 := ⟨_, rfl⟩
    rw [hw2] at c3 z3 hP oP ⊢
    have hB : Aside (Sm (w2.setCell ⟨B, 99, none⟩ (.int .i64 ((n + 1 : Nat) : Int))) B D { s with hl := s.hl ++ [g] } td ed ∧ Only B w (w2.setCell ⟨B, 99, none⟩ (.int .i64 ((n + 1 : Nat) : Int)))) := ⟨hP, oP⟩
    clear c1 ca z1 z2 hA hw2 hP oP c2
    go_wp2_with fail
    first | go_end0 | (refine bodyPost_ret (results_none rfl _ _ _) rfl ?_)
    exact ⟨rfl, hB.out.1, hB.out.2⟩
theorem know_c (w : World) (h : Sm w B D s td ed) : Calls Try.prog 21 #[.pointer (some ⟨B, 0, none⟩)] w fun e w' => e = .returned (.tuple #[]) ∧ Sm w' B D (know s) td ed ∧ Only B w w' := by
  have c1 := h.k99
  have c2 := h.k100
  have z1 := h.fz 100
  have hA : Aside (Sm w B D s td ed) := h
  obtain ⟨n, hn⟩ : ∃ n, s.hl.length = n := ⟨_, rfl⟩
  rw [hn] at c1
  have hn2 : Aside (s.hl.length = n) := hn
  clear h hn
  go_enter Try.func21, Try.ntmps21
  go_wp2_with fail
  first | go_end0 | (refine bodyPost_ret (results_none rfl _ _ _) rfl ?_)
  refine ⟨rfl, ?_, (Only.refl B w).setCell _ _⟩
  have := hA.out.set100 n
  rwa [show know s = { s with kn := n } by simp [know, hn2.out]]
theorem line_c (w : World) (h : Sm w B D s td ed) : Calls Try.prog 17 #[.pointer (some ⟨B, 0, none⟩)] w fun e w' => e = .returned (.tuple #[]) ∧ Sm w' B D (line s) td ed ∧ Only B w w' := by
  have c1 := h.k1
  have c2 := h.k2
  have c3 := h.k3
  have c4 := h.k4
  have z1 := h.fz 1
  have z2 := h.fz 2
  have z3 := h.fz 3
  have z4 := h.fz 4
  have hA : Aside (Sm w B D s td ed) := h
  clear h
  go_enter Try.func17, Try.ntmps17
  go_wp2_with fail
  first | go_end0 | (refine bodyPost_ret (results_none rfl _ _ _) rfl ?_)
  exact ⟨rfl, ((((hA.out.set2 0).set3 0).set4 false).set1 0), ((((Only.refl B w).setCell _ _).setCell _ _).setCell _ _).setCell _ _⟩
theorem hold_c (g m : Nat) (hl : s.hl.length < 94) (w : World) (h : Sm w B D s td ed) : Calls Try.prog 28 #[.pointer (some ⟨B, 0, none⟩), .int .u16 (g : Int), fnv m] w fun e w' => e = .returned (.tuple #[]) ∧ Sm w' B D (hold g m s) td ed ∧ Only B w w' := by
  have hadd := add_c g hl w h
  unfold fnv
  obtain ⟨fv, hfv⟩ : ∃ fv, fno m = fv := ⟨_, rfl⟩
  rw [hfv]
  have hf2 : Aside (fno m = fv) := hfv
  clear h hl hfv
  go_enter Try.func28, Try.ntmps28
  go_upto_region 1 with (go_at_call 20; refine hadd.mono ?_; rintro e1 w1 ⟨rfl, h1, o1⟩)
  have c1 := h1.k1
  have z1 := h1.fz 1
  have hA : Aside (Sm w1 B D (add g s) td ed ∧ Only B w w1) := ⟨h1, o1⟩
  clear h1 o1 hadd
  go_wp2_with fail
  first | go_end0 | (refine bodyPost_ret (results_none rfl _ _ _) rfl ?_)
  have e := hf2.out
  subst e
  exact ⟨rfl, hA.out.1.set1 m, hA.out.2.setCell _ _⟩
end
end Go.Proofs.Ytbndohpcaahenab

/-
  Own texts of this seat, one behind the other: what each says stands ahead of it.
-/
import Derived.Test.YtcmmjbkgoafbnaaDoorMa
import Derived.Test.YtcmmjbkgoafbnaaDoorMb
import Derived.Test.YtcmmjbkgoafbnaaDoorMc
import Derived.BigQuiet
import Derived.BigRegion
import Derived.Deep.CutBlock
import Derived.Deep.DeepCutAuto
import Derived.Lib.BufferWrite
import Derived.Lib.UnsafeStr
import Derived.Deep.OwnRows
import Derived.Laws.CopyOwn
import Derived.Deep.RegionHeld3
/-
  The walker in memory: 1553 cells by a function of their place.
-/
namespace Go.Proofs.YtcmmjbkgoafbnaaDoor
open Go.RowKit
set_option linter.unusedVariables false
/-- 1553 cells by a function. -/
def czn (n : Nat) (f : Nat → Value) : Array Value := ((List.range n).map f).toArray
def cz (f : Nat → Value) : Array Value := czn 1553 f
def upd (f : Nat → Value) (i : Nat) (v : Value) : Nat → Value := fun j => if j = i then v else f j
theorem upd_same (f : Nat → Value) (i : Nat) (v : Value) : upd f i v i = v := by simp [upd]
theorem upd_ne (f : Nat → Value) {i j : Nat} (v : Value) (h : j ≠ i) : upd f i v j = f j := by simp [upd, h]
theorem czn_size (n : Nat) (f : Nat → Value) : (czn n f).size = n := by simp [czn]
theorem czn_at (n : Nat) (f : Nat → Value) {i : Nat} (h : i < n) : (czn n f)[i]? = some (f i) := by simp [czn, h]
theorem czn_congr {n : Nat} {f g : Nat → Value} (h : ∀ i, i < n → f i = g i) : czn n f = czn n g := by
  unfold czn
  rw [List.map_congr_left (fun i hi => h i (List.mem_range.1 hi))]
theorem czn_set (n : Nat) (f : Nat → Value) (i : Nat) (v : Value) : (czn n f).setIfInBounds i v = czn n (upd f i v) := by
  apply Array.ext
  · simp [czn]
  · intro j h1 h2
    have hj : j < n := by simpa [czn] using h2
    simp only [czn, List.setIfInBounds_toArray, List.getElem_toArray, List.getElem_set, List.getElem_map, List.getElem_range, upd]
    by_cases e : i = j
    · simp [e]
    · simp [e, Ne.symm e]
theorem cz_size (f : Nat → Value) : (cz f).size = 1553 := czn_size 1553 f
theorem cz_at (f : Nat → Value) {i : Nat} (h : i < 1553) : (cz f)[i]? = some (f i) := czn_at 1553 f h
theorem cz_congr {f g : Nat → Value} (h : ∀ i, i < 1553 → f i = g i) : cz f = cz g := czn_congr h
theorem cz_set (f : Nat → Value) (i : Nat) (v : Value) : (cz f).setIfInBounds i v = cz (upd f i v) := czn_set 1553 f i v
/-- The event that is told next, as it lies; does one behind it close; has it ended. -/
structure Rv where
  ek : Int
  eb : Int
  en : Int
  et : List Nat
  cl : Bool
  ed : Bool

/-- The cells of a walker. -/
structure Wf (f : Nat → Value) (s : Ts) (v : Rv) : Prop where
  c0 : f 0 = .int .i64 (s.wh : Int)
  c1 : f 1 = .int .i64 (s.ps : Int)
  c514 : f 514 = .int .i64 (s.us : Int)
  c515 : f 515 = .int .u64 (s.lf : Int)
  c1540 : f 1540 = .int .i64 (s.ln : Int)
  c1541 : f 1541 = .string (st (s.nm.getD []))
  c1542 : f 1542 = .bool s.nm.isSome
  c1543 : f 1543 = .int .u64 ((s.sz.getD 0 : Nat) : Int)
  c1544 : f 1544 = .bool s.sz.isSome
  c1545 : f 1545 = .int .i64 v.ek
  c1546 : f 1546 = .int .u8 v.eb
  c1547 : f 1547 = .int .i64 v.en
  c1548 : f 1548 = .int .i64 0
  c1549 : f 1549 = .string (st v.et)
  c1550 : f 1550 = .bool v.cl
  c1551 : f 1551 = .bool v.ed
  c1552 : f 1552 = .int .i64 (s.why : Int)
  bk : ∀ (j x : Nat), s.B[j]? = some x → f (2 + j) = .int .u8 (x : Int)
  kp : ∀ (j x : Nat), s.K[j]? = some x → f (516 + j) = .int .u8 (x : Int)
  ok : Tok s
structure Wm (w : World) (W : Nat) (s : Ts) (v : Rv) : Prop where
  ex : ∃ f, Cells w W (cz f) 64 ∧ Wf f s v
section
variable {w u : World} {W : Nat} {s : Ts} {v : Rv}
theorem Wm.lt (h : Wm w W s v) : W < w.heap.size := by obtain ⟨f, hf, _⟩ := h.ex; exact hf.lt
theorem Wm.ok (h : Wm w W s v) : Tok s := by obtain ⟨f, hf, k⟩ := h.ex; exact k.ok
theorem Wm.cells (h : Wm w W s v) : ∃ cs, Cells w W cs 64 := by obtain ⟨f, hf, _⟩ := h.ex; exact ⟨_, hf⟩
theorem Wm.fz (h : Wm w W s v) (i : Nat) : w.frozen? ⟨W, i, none⟩ = false := by obtain ⟨f, hf, _⟩ := h.ex; exact hf.frozen i
theorem Wm.k0 (h : Wm w W s v) : w.cell? ⟨W, 0, none⟩ = some (.int .i64 (s.wh : Int)) := by obtain ⟨f, hf, k⟩ := h.ex; rw [hf.cell, cz_at f (by decide), k.c0]
theorem Wm.k1 (h : Wm w W s v) : w.cell? ⟨W, 1, none⟩ = some (.int .i64 (s.ps : Int)) := by obtain ⟨f, hf, k⟩ := h.ex; rw [hf.cell, cz_at f (by decide), k.c1]
theorem Wm.k514 (h : Wm w W s v) : w.cell? ⟨W, 514, none⟩ = some (.int .i64 (s.us : Int)) := by obtain ⟨f, hf, k⟩ := h.ex; rw [hf.cell, cz_at f (by decide), k.c514]
theorem Wm.k515 (h : Wm w W s v) : w.cell? ⟨W, 515, none⟩ = some (.int .u64 (s.lf : Int)) := by obtain ⟨f, hf, k⟩ := h.ex; rw [hf.cell, cz_at f (by decide), k.c515]
theorem Wm.k1540 (h : Wm w W s v) : w.cell? ⟨W, 1540, none⟩ = some (.int .i64 (s.ln : Int)) := by obtain ⟨f, hf, k⟩ := h.ex; rw [hf.cell, cz_at f (by decide), k.c1540]
theorem Wm.k1541 (h : Wm w W s v) : w.cell? ⟨W, 1541, none⟩ = some (.string (st (s.nm.getD []))) := by obtain ⟨f, hf, k⟩ := h.ex; rw [hf.cell, cz_at f (by decide), k.c1541]
theorem Wm.k1542 (h : Wm w W s v) : w.cell? ⟨W, 1542, none⟩ = some (.bool s.nm.isSome) := by obtain ⟨f, hf, k⟩ := h.ex; rw [hf.cell, cz_at f (by decide), k.c1542]
theorem Wm.k1543 (h : Wm w W s v) : w.cell? ⟨W, 1543, none⟩ = some (.int .u64 ((s.sz.getD 0 : Nat) : Int)) := by obtain ⟨f, hf, k⟩ := h.ex; rw [hf.cell, cz_at f (by decide), k.c1543]
theorem Wm.k1544 (h : Wm w W s v) : w.cell? ⟨W, 1544, none⟩ = some (.bool s.sz.isSome) := by obtain ⟨f, hf, k⟩ := h.ex; rw [hf.cell, cz_at f (by decide), k.c1544]
theorem Wm.k1545 (h : Wm w W s v) : w.cell? ⟨W, 1545, none⟩ = some (.int .i64 v.ek) := by obtain ⟨f, hf, k⟩ := h.ex; rw [hf.cell, cz_at f (by decide), k.c1545]
theorem Wm.k1546 (h : Wm w W s v) : w.cell? ⟨W, 1546, none⟩ = some (.int .u8 v.eb) := by obtain ⟨f, hf, k⟩ := h.ex; rw [hf.cell, cz_at f (by decide), k.c1546]
theorem Wm.k1547 (h : Wm w W s v) : w.cell? ⟨W, 1547, none⟩ = some (.int .i64 v.en) := by obtain ⟨f, hf, k⟩ := h.ex; rw [hf.cell, cz_at f (by decide), k.c1547]
theorem Wm.k1548 (h : Wm w W s v) : w.cell? ⟨W, 1548, none⟩ = some (.int .i64 0) := by obtain ⟨f, hf, k⟩ := h.ex; rw [hf.cell, cz_at f (by decide), k.c1548]
theorem Wm.k1549 (h : Wm w W s v) : w.cell? ⟨W, 1549, none⟩ = some (.string (st v.et)) := by obtain ⟨f, hf, k⟩ := h.ex; rw [hf.cell, cz_at f (by decide), k.c1549]
theorem Wm.k1550 (h : Wm w W s v) : w.cell? ⟨W, 1550, none⟩ = some (.bool v.cl) := by obtain ⟨f, hf, k⟩ := h.ex; rw [hf.cell, cz_at f (by decide), k.c1550]
theorem Wm.k1551 (h : Wm w W s v) : w.cell? ⟨W, 1551, none⟩ = some (.bool v.ed) := by obtain ⟨f, hf, k⟩ := h.ex; rw [hf.cell, cz_at f (by decide), k.c1551]
theorem Wm.k1552 (h : Wm w W s v) : w.cell? ⟨W, 1552, none⟩ = some (.int .i64 (s.why : Int)) := by obtain ⟨f, hf, k⟩ := h.ex; rw [hf.cell, cz_at f (by decide), k.c1552]
theorem Wm.kb (h : Wm w W s v) {j x : Nat} (hx : s.B[j]? = some x) : w.cell? ⟨W, 2 + j, none⟩ = some (.int .u8 (x : Int)) := by
  obtain ⟨f, hf, k⟩ := h.ex
  have := (List.getElem?_eq_some_iff.1 hx).1
  have := k.ok.bl
  rw [hf.cell, cz_at f (by omega), k.bk j x hx]
theorem Wm.kk (h : Wm w W s v) {j x : Nat} (hx : s.K[j]? = some x) : w.cell? ⟨W, 516 + j, none⟩ = some (.int .u8 (x : Int)) := by
  obtain ⟨f, hf, k⟩ := h.ex
  have := (List.getElem?_eq_some_iff.1 hx).1
  have := k.ok.kl
  rw [hf.cell, cz_at f (by omega), k.kp j x hx]
theorem Wm.lb (h : Wm w W s v) : Lies w (some ⟨W, 2, none⟩) s.B := Or.inr ⟨W, 2, rfl, fun i x hx => h.kb hx⟩
theorem Wm.lk (h : Wm w W s v) : Lies w (some ⟨W, 516, none⟩) s.K := Or.inr ⟨W, 516, rfl, fun i x hx => h.kk hx⟩
theorem Wm.keep (h : Wm w W s v) (k : u.heap[W]? = w.heap[W]?) : Wm u W s v := by
  obtain ⟨f, hf, hh⟩ := h.ex
  exact ⟨f, by unfold Cells at *; rw [k]; exact hf, hh⟩
theorem Wm.drewN (h : Wm w W s v) (n : Nat) : Wm (w.drewN n) W s v := h.keep rfl
theorem Wm.drew (h : Wm w W s v) : Wm w.drew W s v := h.keep rfl
theorem Wm.below (h : Wm w W s v) {C : Nat} (k : Below C w u) (hC : W < C) : Wm u W s v := h.keep (k.block W hC)
theorem Wm.alloc (h : Wm w W s v) (o : Obj) : Wm (w.alloc o) W s v := h.keep (Below.heap_alloc w o W h.lt)
theorem Wm.got {lo sz n : Nat} {e : TypeId} {a a' : Value} {xs : List Value} (h : Wm w W s v) (k : Got lo e sz w u a a' n xs) (he : 64 ≠ e) : Wm u W s v := by
  obtain ⟨f, hf, hh⟩ := h.ex
  exact ⟨f, hf.got k he, hh⟩
theorem Wm.to (h : Wm w W s v) {s' : Ts} {v' : Rv} {i : Nat} {x : Value} (k : ∀ f, Wf f s v → Wf (upd f i x) s' v') : Wm (w.setCell ⟨W, i, none⟩ x) W s' v' := by
  obtain ⟨f, hf, hh⟩ := h.ex
  refine ⟨upd f i x, ?_, k f hh⟩
  have := hf.set i x
  rwa [cz_set] at this
theorem Wm.s0 (h : Wm w W s v) (m : Nat) (ho : Tok { s with wh := m }) : Wm (w.setCell ⟨W, 0, none⟩ (.int .i64 (m : Int))) W { s with wh := m } v := by
  refine h.to fun f k => ⟨?_, ?_, ?_, ?_, ?_, ?_, ?_, ?_, ?_, ?_, ?_, ?_, ?_, ?_, ?_, ?_, ?_, fun j x hx => ?_, fun j x hx => ?_, ho⟩
  all_goals first | exact upd_same _ _ _ | (have hb := k.ok.bl; have hj : j < s.B.length := (List.getElem?_eq_some_iff.1 hx).1; rw [upd_ne _ _ (by omega)]; exact k.bk j x hx) | (have hb := k.ok.kl; have hj : j < s.K.length := (List.getElem?_eq_some_iff.1 hx).1; rw [upd_ne _ _ (by omega)]; exact k.kp j x hx) | (rw [upd_ne _ _ (by omega)]; first | exact k.c1 | exact k.c514 | exact k.c515 | exact k.c1540 | exact k.c1541 | exact k.c1542 | exact k.c1543 | exact k.c1544 | exact k.c1545 | exact k.c1546 | exact k.c1547 | exact k.c1548 | exact k.c1549 | exact k.c1550 | exact k.c1551 | exact k.c1552)
theorem Wm.s1 (h : Wm w W s v) (m : Nat) (ho : m < 512) : Wm (w.setCell ⟨W, 1, none⟩ (.int .i64 (m : Int))) W { s with ps := m } v := by
  refine h.to fun f k => ⟨?_, ?_, ?_, ?_, ?_, ?_, ?_, ?_, ?_, ?_, ?_, ?_, ?_, ?_, ?_, ?_, ?_, fun j x hx => ?_, fun j x hx => ?_, ⟨k.ok.bl, k.ok.bo, k.ok.kl, k.ok.ko, ho, k.ok.wh, k.ok.us, k.ok.lf, k.ok.ln, k.ok.cm⟩⟩
  all_goals first | exact upd_same _ _ _ | (have hb := k.ok.bl; have hj : j < s.B.length := (List.getElem?_eq_some_iff.1 hx).1; rw [upd_ne _ _ (by omega)]; exact k.bk j x hx) | (have hb := k.ok.kl; have hj : j < s.K.length := (List.getElem?_eq_some_iff.1 hx).1; rw [upd_ne _ _ (by omega)]; exact k.kp j x hx) | (rw [upd_ne _ _ (by omega)]; first | exact k.c0 | exact k.c514 | exact k.c515 | exact k.c1540 | exact k.c1541 | exact k.c1542 | exact k.c1543 | exact k.c1544 | exact k.c1545 | exact k.c1546 | exact k.c1547 | exact k.c1548 | exact k.c1549 | exact k.c1550 | exact k.c1551 | exact k.c1552)
theorem Wm.s515 (h : Wm w W s v) (m : Nat) (ho : Tok { s with lf := m }) : Wm (w.setCell ⟨W, 515, none⟩ (.int .u64 (m : Int))) W { s with lf := m } v := by
  refine h.to fun f k => ⟨?_, ?_, ?_, ?_, ?_, ?_, ?_, ?_, ?_, ?_, ?_, ?_, ?_, ?_, ?_, ?_, ?_, fun j x hx => ?_, fun j x hx => ?_, ho⟩
  all_goals first | exact upd_same _ _ _ | (have hb := k.ok.bl; have hj : j < s.B.length := (List.getElem?_eq_some_iff.1 hx).1; rw [upd_ne _ _ (by omega)]; exact k.bk j x hx) | (have hb := k.ok.kl; have hj : j < s.K.length := (List.getElem?_eq_some_iff.1 hx).1; rw [upd_ne _ _ (by omega)]; exact k.kp j x hx) | (rw [upd_ne _ _ (by omega)]; first | exact k.c0 | exact k.c1 | exact k.c514 | exact k.c1540 | exact k.c1541 | exact k.c1542 | exact k.c1543 | exact k.c1544 | exact k.c1545 | exact k.c1546 | exact k.c1547 | exact k.c1548 | exact k.c1549 | exact k.c1550 | exact k.c1551 | exact k.c1552)
theorem Wm.s514 (h : Wm w W s v) (m : Nat) (ho : Tok { s with us := m }) : Wm (w.setCell ⟨W, 514, none⟩ (.int .i64 (m : Int))) W { s with us := m } v := by
  refine h.to fun f k => ⟨?_, ?_, ?_, ?_, ?_, ?_, ?_, ?_, ?_, ?_, ?_, ?_, ?_, ?_, ?_, ?_, ?_, fun j x hx => ?_, fun j x hx => ?_, ho⟩
  all_goals first | exact upd_same _ _ _ | (have hb := k.ok.bl; have hj : j < s.B.length := (List.getElem?_eq_some_iff.1 hx).1; rw [upd_ne _ _ (by omega)]; exact k.bk j x hx) | (have hb := k.ok.kl; have hj : j < s.K.length := (List.getElem?_eq_some_iff.1 hx).1; rw [upd_ne _ _ (by omega)]; exact k.kp j x hx) | (rw [upd_ne _ _ (by omega)]; first | exact k.c0 | exact k.c1 | exact k.c515 | exact k.c1540 | exact k.c1541 | exact k.c1542 | exact k.c1543 | exact k.c1544 | exact k.c1545 | exact k.c1546 | exact k.c1547 | exact k.c1548 | exact k.c1549 | exact k.c1550 | exact k.c1551 | exact k.c1552)
theorem Wm.s1540 (h : Wm w W s v) (m : Nat) (ho : Tok { s with ln := m }) : Wm (w.setCell ⟨W, 1540, none⟩ (.int .i64 (m : Int))) W { s with ln := m } v := by
  refine h.to fun f k => ⟨?_, ?_, ?_, ?_, ?_, ?_, ?_, ?_, ?_, ?_, ?_, ?_, ?_, ?_, ?_, ?_, ?_, fun j x hx => ?_, fun j x hx => ?_, ho⟩
  all_goals first | exact upd_same _ _ _ | (have hb := k.ok.bl; have hj : j < s.B.length := (List.getElem?_eq_some_iff.1 hx).1; rw [upd_ne _ _ (by omega)]; exact k.bk j x hx) | (have hb := k.ok.kl; have hj : j < s.K.length := (List.getElem?_eq_some_iff.1 hx).1; rw [upd_ne _ _ (by omega)]; exact k.kp j x hx) | (rw [upd_ne _ _ (by omega)]; first | exact k.c0 | exact k.c1 | exact k.c514 | exact k.c515 | exact k.c1541 | exact k.c1542 | exact k.c1543 | exact k.c1544 | exact k.c1545 | exact k.c1546 | exact k.c1547 | exact k.c1548 | exact k.c1549 | exact k.c1550 | exact k.c1551 | exact k.c1552)
theorem Wm.s1552 (h : Wm w W s v) (m : Nat) : Wm (w.setCell ⟨W, 1552, none⟩ (.int .i64 (m : Int))) W { s with why := m } v := by
  refine h.to fun f k => ⟨?_, ?_, ?_, ?_, ?_, ?_, ?_, ?_, ?_, ?_, ?_, ?_, ?_, ?_, ?_, ?_, ?_, fun j x hx => ?_, fun j x hx => ?_, ⟨k.ok.bl, k.ok.bo, k.ok.kl, k.ok.ko, k.ok.ps, k.ok.wh, k.ok.us, k.ok.lf, k.ok.ln, k.ok.cm⟩⟩
  all_goals first | exact upd_same _ _ _ | (have hb := k.ok.bl; have hj : j < s.B.length := (List.getElem?_eq_some_iff.1 hx).1; rw [upd_ne _ _ (by omega)]; exact k.bk j x hx) | (have hb := k.ok.kl; have hj : j < s.K.length := (List.getElem?_eq_some_iff.1 hx).1; rw [upd_ne _ _ (by omega)]; exact k.kp j x hx) | (rw [upd_ne _ _ (by omega)]; first | exact k.c0 | exact k.c1 | exact k.c514 | exact k.c515 | exact k.c1540 | exact k.c1541 | exact k.c1542 | exact k.c1543 | exact k.c1544 | exact k.c1545 | exact k.c1546 | exact k.c1547 | exact k.c1548 | exact k.c1549 | exact k.c1550 | exact k.c1551)
theorem Wm.s1545 (h : Wm w W s v) (m : Int) : Wm (w.setCell ⟨W, 1545, none⟩ (.int .i64 m)) W s { v with ek := m } := by
  refine h.to fun f k => ⟨?_, ?_, ?_, ?_, ?_, ?_, ?_, ?_, ?_, ?_, ?_, ?_, ?_, ?_, ?_, ?_, ?_, fun j x hx => ?_, fun j x hx => ?_, k.ok⟩
  all_goals first | exact upd_same _ _ _ | (have hb := k.ok.bl; have hj : j < s.B.length := (List.getElem?_eq_some_iff.1 hx).1; rw [upd_ne _ _ (by omega)]; exact k.bk j x hx) | (have hb := k.ok.kl; have hj : j < s.K.length := (List.getElem?_eq_some_iff.1 hx).1; rw [upd_ne _ _ (by omega)]; exact k.kp j x hx) | (rw [upd_ne _ _ (by omega)]; first | exact k.c0 | exact k.c1 | exact k.c514 | exact k.c515 | exact k.c1540 | exact k.c1541 | exact k.c1542 | exact k.c1543 | exact k.c1544 | exact k.c1546 | exact k.c1547 | exact k.c1548 | exact k.c1549 | exact k.c1550 | exact k.c1551 | exact k.c1552)
theorem Wm.s1546 (h : Wm w W s v) (m : Int) : Wm (w.setCell ⟨W, 1546, none⟩ (.int .u8 m)) W s { v with eb := m } := by
  refine h.to fun f k => ⟨?_, ?_, ?_, ?_, ?_, ?_, ?_, ?_, ?_, ?_, ?_, ?_, ?_, ?_, ?_, ?_, ?_, fun j x hx => ?_, fun j x hx => ?_, k.ok⟩
  all_goals first | exact upd_same _ _ _ | (have hb := k.ok.bl; have hj : j < s.B.length := (List.getElem?_eq_some_iff.1 hx).1; rw [upd_ne _ _ (by omega)]; exact k.bk j x hx) | (have hb := k.ok.kl; have hj : j < s.K.length := (List.getElem?_eq_some_iff.1 hx).1; rw [upd_ne _ _ (by omega)]; exact k.kp j x hx) | (rw [upd_ne _ _ (by omega)]; first | exact k.c0 | exact k.c1 | exact k.c514 | exact k.c515 | exact k.c1540 | exact k.c1541 | exact k.c1542 | exact k.c1543 | exact k.c1544 | exact k.c1545 | exact k.c1547 | exact k.c1548 | exact k.c1549 | exact k.c1550 | exact k.c1551 | exact k.c1552)
theorem Wm.s1547 (h : Wm w W s v) (m : Int) : Wm (w.setCell ⟨W, 1547, none⟩ (.int .i64 m)) W s { v with en := m } := by
  refine h.to fun f k => ⟨?_, ?_, ?_, ?_, ?_, ?_, ?_, ?_, ?_, ?_, ?_, ?_, ?_, ?_, ?_, ?_, ?_, fun j x hx => ?_, fun j x hx => ?_, k.ok⟩
  all_goals first | exact upd_same _ _ _ | (have hb := k.ok.bl; have hj : j < s.B.length := (List.getElem?_eq_some_iff.1 hx).1; rw [upd_ne _ _ (by omega)]; exact k.bk j x hx) | (have hb := k.ok.kl; have hj : j < s.K.length := (List.getElem?_eq_some_iff.1 hx).1; rw [upd_ne _ _ (by omega)]; exact k.kp j x hx) | (rw [upd_ne _ _ (by omega)]; first | exact k.c0 | exact k.c1 | exact k.c514 | exact k.c515 | exact k.c1540 | exact k.c1541 | exact k.c1542 | exact k.c1543 | exact k.c1544 | exact k.c1545 | exact k.c1546 | exact k.c1548 | exact k.c1549 | exact k.c1550 | exact k.c1551 | exact k.c1552)
theorem Wm.s1549 (h : Wm w W s v) (m : List Nat) : Wm (w.setCell ⟨W, 1549, none⟩ (.string (st m))) W s { v with et := m } := by
  refine h.to fun f k => ⟨?_, ?_, ?_, ?_, ?_, ?_, ?_, ?_, ?_, ?_, ?_, ?_, ?_, ?_, ?_, ?_, ?_, fun j x hx => ?_, fun j x hx => ?_, k.ok⟩
  all_goals first | exact upd_same _ _ _ | (have hb := k.ok.bl; have hj : j < s.B.length := (List.getElem?_eq_some_iff.1 hx).1; rw [upd_ne _ _ (by omega)]; exact k.bk j x hx) | (have hb := k.ok.kl; have hj : j < s.K.length := (List.getElem?_eq_some_iff.1 hx).1; rw [upd_ne _ _ (by omega)]; exact k.kp j x hx) | (rw [upd_ne _ _ (by omega)]; first | exact k.c0 | exact k.c1 | exact k.c514 | exact k.c515 | exact k.c1540 | exact k.c1541 | exact k.c1542 | exact k.c1543 | exact k.c1544 | exact k.c1545 | exact k.c1546 | exact k.c1547 | exact k.c1548 | exact k.c1550 | exact k.c1551 | exact k.c1552)
theorem Wm.s1550 (h : Wm w W s v) (m : Bool) : Wm (w.setCell ⟨W, 1550, none⟩ (.bool m)) W s { v with cl := m } := by
  refine h.to fun f k => ⟨?_, ?_, ?_, ?_, ?_, ?_, ?_, ?_, ?_, ?_, ?_, ?_, ?_, ?_, ?_, ?_, ?_, fun j x hx => ?_, fun j x hx => ?_, k.ok⟩
  all_goals first | exact upd_same _ _ _ | (have hb := k.ok.bl; have hj : j < s.B.length := (List.getElem?_eq_some_iff.1 hx).1; rw [upd_ne _ _ (by omega)]; exact k.bk j x hx) | (have hb := k.ok.kl; have hj : j < s.K.length := (List.getElem?_eq_some_iff.1 hx).1; rw [upd_ne _ _ (by omega)]; exact k.kp j x hx) | (rw [upd_ne _ _ (by omega)]; first | exact k.c0 | exact k.c1 | exact k.c514 | exact k.c515 | exact k.c1540 | exact k.c1541 | exact k.c1542 | exact k.c1543 | exact k.c1544 | exact k.c1545 | exact k.c1546 | exact k.c1547 | exact k.c1548 | exact k.c1549 | exact k.c1551 | exact k.c1552)
theorem Wm.s1551 (h : Wm w W s v) (m : Bool) : Wm (w.setCell ⟨W, 1551, none⟩ (.bool m)) W s { v with ed := m } := by
  refine h.to fun f k => ⟨?_, ?_, ?_, ?_, ?_, ?_, ?_, ?_, ?_, ?_, ?_, ?_, ?_, ?_, ?_, ?_, ?_, fun j x hx => ?_, fun j x hx => ?_, k.ok⟩
  all_goals first | exact upd_same _ _ _ | (have hb := k.ok.bl; have hj : j < s.B.length := (List.getElem?_eq_some_iff.1 hx).1; rw [upd_ne _ _ (by omega)]; exact k.bk j x hx) | (have hb := k.ok.kl; have hj : j < s.K.length := (List.getElem?_eq_some_iff.1 hx).1; rw [upd_ne _ _ (by omega)]; exact k.kp j x hx) | (rw [upd_ne _ _ (by omega)]; first | exact k.c0 | exact k.c1 | exact k.c514 | exact k.c515 | exact k.c1540 | exact k.c1541 | exact k.c1542 | exact k.c1543 | exact k.c1544 | exact k.c1545 | exact k.c1546 | exact k.c1547 | exact k.c1548 | exact k.c1549 | exact k.c1550 | exact k.c1552)
theorem Wm.s1548 (h : Wm w W s v)  : Wm (w.setCell ⟨W, 1548, none⟩ (.int .i64 0)) W s v := by
  refine h.to fun f k => ⟨?_, ?_, ?_, ?_, ?_, ?_, ?_, ?_, ?_, ?_, ?_, ?_, ?_, ?_, ?_, ?_, ?_, fun j x hx => ?_, fun j x hx => ?_, k.ok⟩
  all_goals first | exact upd_same _ _ _ | (have hb := k.ok.bl; have hj : j < s.B.length := (List.getElem?_eq_some_iff.1 hx).1; rw [upd_ne _ _ (by omega)]; exact k.bk j x hx) | (have hb := k.ok.kl; have hj : j < s.K.length := (List.getElem?_eq_some_iff.1 hx).1; rw [upd_ne _ _ (by omega)]; exact k.kp j x hx) | (rw [upd_ne _ _ (by omega)]; first | exact k.c0 | exact k.c1 | exact k.c514 | exact k.c515 | exact k.c1540 | exact k.c1541 | exact k.c1542 | exact k.c1543 | exact k.c1544 | exact k.c1545 | exact k.c1546 | exact k.c1547 | exact k.c1549 | exact k.c1550 | exact k.c1551 | exact k.c1552)
theorem Wm.sB (h : Wm w W s v) (p x : Nat) (hp : p < 512) (hx : x < 256) : Wm (w.setCell ⟨W, 2 + p, none⟩ (.int .u8 (x : Int))) W { s with B := s.B.set p x } v := by
  refine h.to fun f k => ⟨?_, ?_, ?_, ?_, ?_, ?_, ?_, ?_, ?_, ?_, ?_, ?_, ?_, ?_, ?_, ?_, ?_, fun j y hy => ?_, fun j y hy => ?_, ⟨by simp [k.ok.bl], k.ok.bo.set _ hx, k.ok.kl, k.ok.ko, k.ok.ps, k.ok.wh, k.ok.us, k.ok.lf, k.ok.ln, k.ok.cm⟩⟩
  all_goals first | (rw [upd_ne _ _ (by omega)]; first | exact k.c0 | exact k.c1 | exact k.c514 | exact k.c515 | exact k.c1540 | exact k.c1541 | exact k.c1542 | exact k.c1543 | exact k.c1544 | exact k.c1545 | exact k.c1546 | exact k.c1547 | exact k.c1548 | exact k.c1549 | exact k.c1550 | exact k.c1551 | exact k.c1552) | skip
  · by_cases e : j = p
    · subst e
      rw [upd_same]
      have hb := k.ok.bl
      rw [List.getElem?_set_self (by omega)] at hy
      simp only [Option.some.injEq] at hy
      rw [hy]
    · rw [upd_ne _ _ (by omega)]
      rw [List.getElem?_set_ne (Ne.symm e)] at hy
      exact k.bk j y hy
  · rw [upd_ne _ _ (by omega)]
    exact k.kp j y hy
theorem Wm.sK (h : Wm w W s v) (p x : Nat) (hp : p < 1024) (hx : x < 256) : Wm (w.setCell ⟨W, 516 + p, none⟩ (.int .u8 (x : Int))) W { s with K := s.K.set p x } v := by
  refine h.to fun f k => ⟨?_, ?_, ?_, ?_, ?_, ?_, ?_, ?_, ?_, ?_, ?_, ?_, ?_, ?_, ?_, ?_, ?_, fun j y hy => ?_, fun j y hy => ?_, ⟨k.ok.bl, k.ok.bo, by simp [k.ok.kl], k.ok.ko.set _ hx, k.ok.ps, k.ok.wh, k.ok.us, k.ok.lf, k.ok.ln, k.ok.cm⟩⟩
  all_goals first | (rw [upd_ne _ _ (by omega)]; first | exact k.c0 | exact k.c1 | exact k.c514 | exact k.c515 | exact k.c1540 | exact k.c1541 | exact k.c1542 | exact k.c1543 | exact k.c1544 | exact k.c1545 | exact k.c1546 | exact k.c1547 | exact k.c1548 | exact k.c1549 | exact k.c1550 | exact k.c1551 | exact k.c1552) | skip
  · have hb := k.ok.bl
    have hj := (List.getElem?_eq_some_iff.1 hy).1
    have hj2 : j < s.B.length := hj
    rw [upd_ne _ _ (by omega)]
    exact k.bk j y hy
  · by_cases e : j = p
    · subst e
      rw [upd_same]
      have hb := k.ok.kl
      rw [List.getElem?_set_self (by omega)] at hy
      simp only [Option.some.injEq] at hy
      rw [hy]
    · rw [upd_ne _ _ (by omega)]
      rw [List.getElem?_set_ne (Ne.symm e)] at hy
      exact k.kp j y hy
/-- Two cells of one block, one behind the other. -/
theorem Wm.to2 (h : Wm w W s v) {s' : Ts} {v' : Rv} {i j : Nat} {x y : Value} (k : ∀ f, Wf f s v → Wf (upd (upd f i x) j y) s' v') : Wm ((w.setCell ⟨W, i, none⟩ x).setCell ⟨W, j, none⟩ y) W s' v' := by
  obtain ⟨f, hf, hh⟩ := h.ex
  refine ⟨upd (upd f i x) j y, ?_, k f hh⟩
  have := (hf.set i x).set j y
  rwa [cz_set, cz_set] at this
theorem Wm.snm (h : Wm w W s v) (m : List Nat) (ho : Tok { s with nm := some m }) : Wm ((w.setCell ⟨W, 1541, none⟩ (.string (st m))).setCell ⟨W, 1542, none⟩ (.bool true)) W { s with nm := some m } v := by
  refine h.to2 fun f k => ⟨?_, ?_, ?_, ?_, ?_, ?_, ?_, ?_, ?_, ?_, ?_, ?_, ?_, ?_, ?_, ?_, ?_, fun j x hx => ?_, fun j x hx => ?_, ho⟩
  all_goals first | exact upd_same _ _ _ | (rw [upd_ne _ _ (by omega)]; exact upd_same _ _ _) | (have hb := k.ok.bl; have hj : j < s.B.length := (List.getElem?_eq_some_iff.1 hx).1; rw [upd_ne _ _ (by omega), upd_ne _ _ (by omega)]; exact k.bk j x hx) | (have hb := k.ok.kl; have hj : j < s.K.length := (List.getElem?_eq_some_iff.1 hx).1; rw [upd_ne _ _ (by omega), upd_ne _ _ (by omega)]; exact k.kp j x hx) | (rw [upd_ne _ _ (by omega), upd_ne _ _ (by omega)]; first | exact k.c0 | exact k.c1 | exact k.c514 | exact k.c515 | exact k.c1540 | exact k.c1543 | exact k.c1544 | exact k.c1545 | exact k.c1546 | exact k.c1547 | exact k.c1548 | exact k.c1549 | exact k.c1550 | exact k.c1551 | exact k.c1552)
theorem Wm.ssz (h : Wm w W s v) (m : Nat) (ho : Tok { s with sz := some m }) : Wm ((w.setCell ⟨W, 1543, none⟩ (.int .u64 (m : Int))).setCell ⟨W, 1544, none⟩ (.bool true)) W { s with sz := some m } v := by
  refine h.to2 fun f k => ⟨?_, ?_, ?_, ?_, ?_, ?_, ?_, ?_, ?_, ?_, ?_, ?_, ?_, ?_, ?_, ?_, ?_, fun j x hx => ?_, fun j x hx => ?_, ho⟩
  all_goals first | exact upd_same _ _ _ | (rw [upd_ne _ _ (by omega)]; exact upd_same _ _ _) | (have hb := k.ok.bl; have hj : j < s.B.length := (List.getElem?_eq_some_iff.1 hx).1; rw [upd_ne _ _ (by omega), upd_ne _ _ (by omega)]; exact k.bk j x hx) | (have hb := k.ok.kl; have hj : j < s.K.length := (List.getElem?_eq_some_iff.1 hx).1; rw [upd_ne _ _ (by omega), upd_ne _ _ (by omega)]; exact k.kp j x hx) | (rw [upd_ne _ _ (by omega), upd_ne _ _ (by omega)]; first | exact k.c0 | exact k.c1 | exact k.c514 | exact k.c515 | exact k.c1540 | exact k.c1541 | exact k.c1542 | exact k.c1545 | exact k.c1546 | exact k.c1547 | exact k.c1548 | exact k.c1549 | exact k.c1550 | exact k.c1551 | exact k.c1552)
theorem Wm.snn (h : Wm w W s v) (ho : Tok { s with nm := none }) : Wm ((w.setCell ⟨W, 1541, none⟩ (.string ⟨#[]⟩)).setCell ⟨W, 1542, none⟩ (.bool false)) W { s with nm := none } v := by
  refine h.to2 fun f k => ⟨?_, ?_, ?_, ?_, ?_, ?_, ?_, ?_, ?_, ?_, ?_, ?_, ?_, ?_, ?_, ?_, ?_, fun j x hx => ?_, fun j x hx => ?_, ho⟩
  all_goals first | exact upd_same _ _ _ | (rw [upd_ne _ _ (by omega)]; exact upd_same _ _ _) | (have hb := k.ok.bl; have hj : j < s.B.length := (List.getElem?_eq_some_iff.1 hx).1; rw [upd_ne _ _ (by omega), upd_ne _ _ (by omega)]; exact k.bk j x hx) | (have hb := k.ok.kl; have hj : j < s.K.length := (List.getElem?_eq_some_iff.1 hx).1; rw [upd_ne _ _ (by omega), upd_ne _ _ (by omega)]; exact k.kp j x hx) | (rw [upd_ne _ _ (by omega), upd_ne _ _ (by omega)]; first | exact k.c0 | exact k.c1 | exact k.c514 | exact k.c515 | exact k.c1540 | exact k.c1543 | exact k.c1544 | exact k.c1545 | exact k.c1546 | exact k.c1547 | exact k.c1548 | exact k.c1549 | exact k.c1550 | exact k.c1551 | exact k.c1552)
theorem Wm.ssn (h : Wm w W s v) (ho : Tok { s with sz := none }) : Wm ((w.setCell ⟨W, 1543, none⟩ (.int .u64 0)).setCell ⟨W, 1544, none⟩ (.bool false)) W { s with sz := none } v := by
  refine h.to2 fun f k => ⟨?_, ?_, ?_, ?_, ?_, ?_, ?_, ?_, ?_, ?_, ?_, ?_, ?_, ?_, ?_, ?_, ?_, fun j x hx => ?_, fun j x hx => ?_, ho⟩
  all_goals first | exact upd_same _ _ _ | (rw [upd_ne _ _ (by omega)]; exact upd_same _ _ _) | (have hb := k.ok.bl; have hj : j < s.B.length := (List.getElem?_eq_some_iff.1 hx).1; rw [upd_ne _ _ (by omega), upd_ne _ _ (by omega)]; exact k.bk j x hx) | (have hb := k.ok.kl; have hj : j < s.K.length := (List.getElem?_eq_some_iff.1 hx).1; rw [upd_ne _ _ (by omega), upd_ne _ _ (by omega)]; exact k.kp j x hx) | (rw [upd_ne _ _ (by omega), upd_ne _ _ (by omega)]; first | exact k.c0 | exact k.c1 | exact k.c514 | exact k.c515 | exact k.c1540 | exact k.c1541 | exact k.c1542 | exact k.c1545 | exact k.c1546 | exact k.c1547 | exact k.c1548 | exact k.c1549 | exact k.c1550 | exact k.c1551 | exact k.c1552)
theorem Wm.sul (h : Wm w W s v) (m q : Nat) (ho : Tok { s with us := m, lf := q }) : Wm ((w.setCell ⟨W, 514, none⟩ (.int .i64 (m : Int))).setCell ⟨W, 515, none⟩ (.int .u64 (q : Int))) W { s with us := m, lf := q } v := by
  refine h.to2 fun f k => ⟨?_, ?_, ?_, ?_, ?_, ?_, ?_, ?_, ?_, ?_, ?_, ?_, ?_, ?_, ?_, ?_, ?_, fun j x hx => ?_, fun j x hx => ?_, ho⟩
  all_goals first | exact upd_same _ _ _ | (rw [upd_ne _ _ (by omega)]; exact upd_same _ _ _) | (have hb := k.ok.bl; have hj : j < s.B.length := (List.getElem?_eq_some_iff.1 hx).1; rw [upd_ne _ _ (by omega), upd_ne _ _ (by omega)]; exact k.bk j x hx) | (have hb := k.ok.kl; have hj : j < s.K.length := (List.getElem?_eq_some_iff.1 hx).1; rw [upd_ne _ _ (by omega), upd_ne _ _ (by omega)]; exact k.kp j x hx) | (rw [upd_ne _ _ (by omega), upd_ne _ _ (by omega)]; first | exact k.c0 | exact k.c1 | exact k.c1540 | exact k.c1541 | exact k.c1542 | exact k.c1543 | exact k.c1544 | exact k.c1545 | exact k.c1546 | exact k.c1547 | exact k.c1548 | exact k.c1549 | exact k.c1550 | exact k.c1551 | exact k.c1552)
end
end Go.Proofs.YtcmmjbkgoafbnaaDoor

/-
  Numbers out of strings: what the library's ParseUint comes to at digits of base ten and 63 bits; its errors.
-/
namespace Go.Proofs.YtcmmjbkgoafbnaaDoor
open Go.RowKit
set_option linter.unusedVariables false
theorem byteCells_st {l : List Nat} (ho : Oct l) : Lib.byteCells (st l).data.toList = ob l := strCells_st ho
set_option maxHeartbeats 1000000 in
theorem clone_c (l : List Nat) (ho : Oct l) (hl : l.length ≤ 140737488355328) (w : World) : Calls Tryd.prog 90 #[.string (st l)] w fun e w' => e = .returned (.string (st l)) ∧ Below w.heap.size w w' := by
  have z1 : (st l).size = l.length := st_size l
  by_cases h0 : l = []
  · subst h0
    obtain ⟨s, hs⟩ : ∃ s, s = st [] := ⟨_, rfl⟩
    have z2 : s.size = 0 := by rw [hs]; rfl
    have A : Aside (s = ⟨#[]⟩) := hs
    rw [← hs]
    clear hs hl ho z1
    go_enter Tryd.func90, Tryd.ntmps90
    go_wp2
    go_ret
    exact ⟨by rw [A.out]; rfl, Below.refl _ _⟩
  · have hpos : 0 < l.length := by
      cases l with
      | nil => exact absurd rfl h0
      | cons _ _ => simp
    obtain ⟨w1, hw1⟩ : ∃ w1, w1 = w.alloc (.cells (madeCells #[.int .u8 0] l.length) 5) := ⟨_, rfl⟩
    obtain ⟨H, hH⟩ : ∃ H, w.heap.size = H := ⟨_, rfl⟩
    have hmk := run_make_row' (P := Tryd.prog) 22 5 (.int .u8 0) 1 Tryd.underlying22 ginfo5 rfl .i64 .i64 l.length (by omega) (by omega) w
    rw [← hw1, hH] at hmk
    have k1 : w1.heap[H]? = some (.cells (madeCells #[.int .u8 0] l.length) 5 (0, 0)) := by
      rw [hw1, ← hH]
      exact Cells.new w _ 5
    have hsz : (madeCells #[.int .u8 0] l.length).size = l.length := by simp [madeCells]
    have hcp := fun ty => Lib.run_copy_row_string (P := Tryd.prog) w1 22 9 ty 5 H 0 l.length l.length (st l) _ 5 Tryd.underlying22 (by kernel_rfl) k1 (by rw [z1]; exact Nat.le_refl _) (by rw [z1, hsz]; omega)
    have e2 : ((madeCells #[.int .u8 0] l.length).toList.take 0 ++ Lib.byteCells (st l).data.toList ++ (madeCells #[.int .u8 0] l.length).toList.drop (0 + (st l).size)) = ob l := by
      rw [byteCells_st ho, z1, List.drop_of_length_le (by rw [Array.length_toList, hsz]; omega)]
      simp
    rw [e2] at hcp
    obtain ⟨w2, hw2⟩ : ∃ w2, w2 = w1.setRow H (ob l).toArray := ⟨_, rfl⟩
    have k2 : w2.heap[H]? = some (.cells (ob l).toArray 5 (0, 0)) := by rw [hw2]; exact setRow_heap w1 H _ _ 5 (0, 0) k1
    rw [← hw2] at hcp
    rw [z1] at hcp
    have hus := fun ty => Lib.run_unsafeString_row (P := Tryd.prog) w2 125 3 ty 5 Tryd.underlying125 (by kernel_rfl) H l.length (by
      unfold World.shape?
      rw [k2]
      simp [ob]) (l.map UInt8.ofNat) (by simpa using h0) (by simp) (by simp; omega) (fun j x hx => by
        rw [addr_add, Nat.zero_add, Cells.cell (cs := (ob l).toArray) (t := 5) k2]
        rw [List.getElem?_map] at hx
        cases hy : l[j]? with
        | none => rw [hy] at hx; simp at hx
        | some y =>
          rw [hy] at hx
          simp at hx
          have := ho y (List.mem_of_getElem? hy)
          rw [List.getElem?_toArray, ob_get, hy, ← hx]
          simp
          omega)
    obtain ⟨w3, hw3⟩ : ∃ w3, w3 = w2.freeze ⟨H, 0, none⟩ (l.map UInt8.ofNat).length := ⟨_, rfl⟩
    have hb3 : Below H w w3 := by
      have b1 : Below H w w1 := by rw [hw1, ← hH]; exact (Below.refl _ w).alloc (Nat.le_refl _) _
      have b2 : Below H w w2 := by rw [hw2]; exact below_setRow b1 (Nat.le_refl _) _
      rw [hw3]
      exact Lib.below_freeze b2 (Nat.le_refl _) _
    rw [← hw3, List.length_map] at hus
    have est : (⟨(l.map UInt8.ofNat).toArray⟩ : ByteArray) = st l := rfl
    rw [est] at hus
    have c0 : (w2.cell? ⟨H, 0, none⟩).isSome = true := by
      rw [Cells.cell (cs := (ob l).toArray) (t := 5) k2]
      simp [ob]; exact hpos
    obtain ⟨s, hs⟩ : ∃ s, s = st l := ⟨_, rfl⟩
    obtain ⟨L, hL⟩ : ∃ L, l.length = L := ⟨_, rfl⟩
    rw [← hs, hL] at z1 hcp hus
    rw [hL] at hmk
    rw [hH, ← hs]
    have t1 : ((L : Int) == 0) = false := by rw [beq_eq_false_iff_ne]; omega
    have t2 : (0 : Int) < (L : Int) := by omega
    have t3 : 0 < L := by omega
    have A3 : Aside (Below H w w3) := hb3
    clear hl ho hpos h0 hw1 k1 hsz e2 hw2 k2 hw3 hb3 est hs hL hH
    go_enter Tryd.func90, Tryd.ntmps90
    go_wp2
    go_ret
    exact ⟨rfl, A3.out⟩

/-- The library's two errors lie in their places. -/
def Er (w : World) : Prop := 3 ≤ w.heap.size ∧ ∃ t1 x1 t2 x2, w.cell? ⟨1, 0, none⟩ = some (.iface t1 x1) ∧ w.cell? ⟨2, 0, none⟩ = some (.iface t2 x2)
theorem Er.below {w u : World} {C : Nat} (h : Er w) (k : Below C w u) (hC : 3 ≤ C) : Er u := by
  obtain ⟨h0, t1, x1, t2, x2, h1, h2⟩ := h
  exact ⟨Nat.le_trans h0 k.size, t1, x1, t2, x2, by rw [World.cell?_of_block (w := w) (k.block 1 (by omega))]; exact h1, by rw [World.cell?_of_block (w := w) (k.block 2 (by omega))]; exact h2⟩
theorem Er.but {w u : World} {M : Nat} (h : Er w) (k : But M w u) (hM : 3 ≤ M) : Er u := by
  obtain ⟨h0, t1, x1, t2, x2, h1, h2⟩ := h
  exact ⟨Nat.le_trans h0 k.size, t1, x1, t2, x2, by rw [World.cell?_of_block (w := w) (k.block 1 (by omega) (by omega))]; exact h1, by rw [World.cell?_of_block (w := w) (k.block 2 (by omega) (by omega))]; exact h2⟩
theorem Er.drew {w : World} (h : Er w) : Er w.drew := h
theorem Er.drewN {w : World} (h : Er w) (n : Nat) : Er (w.drewN n) := h
theorem syntax_c (s : ByteArray) (l : List Nat) (ho : Oct l) (hl : l.length ≤ 140737488355328) (w : World) (he : Er w) : Calls Tryd.prog 86 #[.string s, .string (st l)] w fun e w' => ∃ p, e = .returned (.pointer (some p)) ∧ Below w.heap.size w w' := by
  have hc := fun W => clone_c l ho hl W
  obtain ⟨h0, t1, x1, t2, x2, h1, h2⟩ := he
  have hk : ∀ u, Below w.heap.size w u → u.cell? ⟨1, 0, none⟩ = some (.iface t1 x1) := fun u k => by rw [World.cell?_of_block (w := w) (k.block 1 (by show 1 < _; omega))]; exact h1
  have A : Aside (3 ≤ w.heap.size) := h0
  have bd : Below w.heap.size w w.drew := Below.drewN2 (Below.refl _ w) 1
  clear h2 h0
  go_enter Tryd.func86, Tryd.ntmps86
  go_upto_region 1 with fail
  go_region_held3 (fun u => u.cell? ⟨1, 0, none⟩ = some (.iface t1 x1)) (first | exact h1 | exact hk _ (bd.trans b1) | exact hk _ ((bd.trans b1).alloc b1.size _)) ((go_at_call 90; refine (hc _).mono ?_; rintro e1 w1 ⟨rfl, b1⟩))
  go_wp2_with fail
  first | go_ret | go_ret2
  exact ⟨_, rfl, (bd.trans b1).alloc b1.size _⟩
theorem range_c (s : ByteArray) (l : List Nat) (ho : Oct l) (hl : l.length ≤ 140737488355328) (w : World) (he : Er w) : Calls Tryd.prog 87 #[.string s, .string (st l)] w fun e w' => ∃ p, e = .returned (.pointer (some p)) ∧ Below w.heap.size w w' := by
  have hc := fun W => clone_c l ho hl W
  obtain ⟨h0, t1, x1, t2, x2, h1, h2⟩ := he
  have hk : ∀ u, Below w.heap.size w u → u.cell? ⟨2, 0, none⟩ = some (.iface t2 x2) := fun u k => by rw [World.cell?_of_block (w := w) (k.block 2 (by show 2 < _; omega))]; exact h2
  have A : Aside (3 ≤ w.heap.size) := h0
  have bd : Below w.heap.size w w.drew := Below.drewN2 (Below.refl _ w) 1
  clear h1 h0
  go_enter Tryd.func87, Tryd.ntmps87
  go_upto_region 1 with fail
  go_region_held3 (fun u => u.cell? ⟨2, 0, none⟩ = some (.iface t2 x2)) (first | exact h2 | exact hk _ (bd.trans b1) | exact hk _ ((bd.trans b1).alloc b1.size _)) ((go_at_call 90; refine (hc _).mono ?_; rintro e1 w1 ⟨rfl, b1⟩))
  go_wp2_with fail
  first | go_ret | go_ret2
  exact ⟨_, rfl, (bd.trans b1).alloc b1.size _⟩
theorem err12 (w : World) : (binOp .eql 110 (.iface 117 (.int .i64 1)) (.iface 117 (.int .i64 2))).run Tryd.prog w = .ok (.bool false) w := by kernel_rfl
theorem err11 (w : World) : (binOp .eql 110 (.iface 117 (.int .i64 1)) (.iface 117 (.int .i64 1))).run Tryd.prog w = .ok (.bool true) w := by kernel_rfl
theorem err22 (w : World) : (binOp .eql 110 (.iface 117 (.int .i64 2)) (.iface 117 (.int .i64 2))).run Tryd.prog w = .ok (.bool true) w := by kernel_rfl
set_option maxRecDepth 20000 in
set_option maxHeartbeats 1000000 in
theorem toError_c (k : Int) (hk : k = 1 ∨ k = 2) (s : ByteArray) (l : List Nat) (ho : Oct l) (hl : l.length ≤ 140737488355328) (w : World) (he : Er w) : Calls Tryd.prog 83 #[.string s, .string (st l), .int .i64 10, .int .i64 63, .iface 117 (.int .i64 k)] w fun e w' => ∃ t x, e = .returned (.iface t x) ∧ Below w.heap.size w w' := by
  have h1 := syntax_c s l ho hl w he
  have h2 := range_c s l ho hl w he
  have q1 := err12 w
  have q2 := err11 w
  have q3 := err22 w
  clear ho hl he
  rcases hk with rfl | rfl
  · clear h1
    go_enter Tryd.func83, Tryd.ntmps83
    go_wp2_with (go_at_call 87; refine h2.mono ?_; rintro e1 w1 ⟨p, rfl, b1⟩)
    first | go_ret | go_ret2
    exact ⟨_, _, rfl, b1⟩
  · clear h2
    go_enter Tryd.func83, Tryd.ntmps83
    go_wp2_with (go_at_call 86; refine h1.mono ?_; rintro e1 w1 ⟨p, rfl, b1⟩)
    first | go_ret | go_ret2
    exact ⟨_, _, rfl, b1⟩
theorem or32 : ∀ x : Fin 256, (x.val ||| 32) = if x.val / 32 % 2 = 1 then x.val else x.val + 32 := by decide +kernel
/-- A letter that is no digit: lower tells a digit of ten and more, or none. -/
theorem lower_c (x : Nat) (hx : x < 256) (w : World) : Calls Tryd.prog 84 #[.int .u8 (x : Int)] w fun e w' => e = .returned (.int .u8 ((x ||| 32 : Nat) : Int)) ∧ w' = w := by
  have e : bits .or .u8 (x : Int) 32 = ((x ||| 32 : Nat) : Int) := by
    have : ∀ y : Fin 256, bits .or .u8 (y.val : Int) 32 = ((y.val ||| 32 : Nat) : Int) := by decide +kernel
    exact this ⟨x, hx⟩
  clear hx
  go_enter Tryd.func84, Tryd.ntmps84
  go_wp2_with fail
  first | go_ret | go_ret2
  exact ⟨rfl, rfl⟩
/-- What ParseUint answers. -/
structure Pu (l : List Nat) (w : World) (e : Ending) (w' : World) : Prop where
  ex : (∃ z, tdec l = some z ∧ e = .returned (.tuple #[.int .u64 (z : Int), .nilIface])) ∨ (tdec l = none ∧ ∃ (x k : Int), (k = 1 ∨ k = 2) ∧ e = .returned (.tuple #[.int .u64 x, .iface 117 (.int .i64 k)]))
  bel : Below w.heap.size w w'
end Go.Proofs.YtcmmjbkgoafbnaaDoor

/-
  The library's ParseUint at base ten and 63 bits.
-/
namespace Go.Proofs.YtcmmjbkgoafbnaaDoor
open Go.RowKit
set_option linter.unusedVariables false
set_option linter.unusedSimpArgs false
theorem tdc_no {v x : Nat} {r : List Nat} (h : isd x = false) : tdc v (x :: r) = none := by simp [tdc, h]
theorem tdc_big {v x : Nat} {r : List Nat} (h : 9223372036854775807 < 10 * v + (x - 48)) : tdc v (x :: r) = none := by
  simp only [tdc, if_pos h]
  split <;> rfl
theorem tdc_go {v x : Nat} {r : List Nat} (h : isd x = true) (h2 : 10 * v + (x - 48) ≤ 9223372036854775807) : tdc v (x :: r) = tdc (10 * v + (x - 48)) r := by
  simp only [tdc]
  rw [if_neg (by rw [h]; decide), if_neg (by omega)]
set_option maxRecDepth 100000 in
set_option maxHeartbeats 4000000 in
theorem parse82 (l : List Nat) (ho : Oct l) (hl : l.length ≤ 1000000000) (w : World) : Calls Tryd.prog 82 #[.string (st l), .int .i64 10, .int .i64 63] w fun e w' => Pu l w e w' := by
  by_cases h0 : l = []
  · subst h0
    obtain ⟨s, hs⟩ : ∃ s, s = st [] := ⟨_, rfl⟩
    have z2 : (s.toList == []) = true := by rw [hs, ByteArray.toList_eq]; rfl
    have z3 : s = ⟨#[]⟩ := hs
    rw [← hs]
    subst z3
    clear hl ho hs
    go_enter Tryd.func82, Tryd.ntmps82
    go_wp2_with fail
    go_ret2
    exact ⟨Or.inr ⟨rfl, 0, 2, Or.inr rfl, rfl⟩, Below.refl _ _⟩
  · obtain ⟨s, hs⟩ : ∃ s, s = st l := ⟨_, rfl⟩
    have z2 : (s.toList == []) = false := by
      have := st_beq ho Oct.nil
      rw [← hs] at this
      have e2 : (st []).toList = [] := by rw [ByteArray.toList_eq]; rfl
      rw [e2] at this
      rw [this]; simpa using h0
    obtain ⟨w1, c, hcv, kcv, bcv, szcv, hc⟩ := bytes_of ho w
    rw [← hs] at hcv ⊢
    obtain ⟨L, hL⟩ : ∃ L, l.length = L := ⟨_, rfl⟩
    obtain ⟨H, hH⟩ : ∃ H, w.heap.size = H := ⟨_, rfl⟩
    rw [hL, hH] at hcv
    rw [hH] at kcv bcv
    have A : Aside (l ≠ [] ∧ Oct l ∧ l.length = L ∧ L ≤ 1000000000 ∧ Cv w1 H l ∧ Below H w w1 ∧ w.heap.size = H ∧ L ≤ c) := ⟨h0, ho, hL, by omega, kcv, bcv, hH, by omega⟩
    clear h0 ho hL hl kcv bcv hH hc szcv hs
    go_enter Tryd.func82, Tryd.ntmps82
    go_upto_region 36 with fail
    go_loopg [101, 13, 12] L (fun gg s1 s2 s3 wr => ∃ (k n : Nat), s1 = .int .i64 (k : Int) ∧ s2 = .int .u64 (n : Int) ∧ s3 = .bool false ∧ wr = w1 ∧ Aside (k + gg = L ∧ n ≤ 9223372036854775807 ∧ tdc n (l.drop k) = tdc 0 l))
    case atStart => exact ⟨0, 0, rfl, rfl, rfl, rfl, ⟨by omega, by decide, by simp⟩⟩
    case round =>
      obtain ⟨k, n, rfl, rfl, rfl, rfl, AR⟩ := hrel
      have a0 := A.out
      have r0 := AR.out
      have bel : Below w.heap.size w wr := by rw [a0.2.2.2.2.2.2.1]; exact a0.2.2.2.2.2.1
      have AB : Aside (Below w.heap.size w wr) := bel
      by_cases hk : k < L
      · obtain ⟨x, hx⟩ : ∃ x, l[k]? = some x := ⟨_, List.getElem?_eq_getElem (by omega)⟩
        have hx2 : x < 256 := a0.2.1 x (List.mem_of_getElem? hx)
        have hdr : l.drop k = x :: l.drop (k + 1) := by
          obtain ⟨h1, h2⟩ := List.getElem?_eq_some_iff.1 hx
          rw [← h2]; exact List.drop_eq_getElem_cons h1
        have hcell := a0.2.2.2.2.1.cell hx
        have t1 : ((k : Int) < (L : Int)) = True := eq_true (by omega)
        have t2 : (k < L) = True := eq_true hk
        have hlow := lower_c x hx2 wr
        have htd := r0.2.2
        rw [hdr] at htd
        have hne := a0.1
        have hkb : (k : Int) < 2000000000 := by omega
        by_cases hd : 48 ≤ x ∧ x ≤ 57
        · have hid : isd x = true := by simp [isd, hd]
          obtain ⟨d1, d2⟩ := hd
          have e1 : (48 : Int) ≤ (x : Int) := by omega
          have e2 : (x : Int) ≤ 57 := by omega
          have e3 : ((x : Int) == 95) = false := by rw [beq_eq_false_iff_ne]; omega
          obtain ⟨d, hdx⟩ : ∃ d : Nat, x = d + 48 := ⟨x - 48, by omega⟩
          have hd10 : d < 10 := by omega
          have e4 : IntKind.u8.wrap ((x : Int) - 48) = (d : Int) := by rw [IntKind.wrap_u8]; omega
          have e40 : ((10 : Int) ≤ (d : Int)) = False := eq_false (by omega)
          have e41 : (d : Int) < 256 := by omega
          have e42 : (0 : Int) ≤ (d : Int) := by omega
          by_cases hn1 : 1844674407370955162 ≤ n
          · have hno : tdec l = none := by
              unfold tdec; rw [if_neg hne, ← htd]; exact tdc_big (by omega)
            have AN : Aside (tdec l = none) := hno
            have e5 : (1844674407370955162 : Int) ≤ (n : Int) := by omega
            clear hdx hd10 hno htd hdr hid hne hx2 d1 d2 hn1 r0 a0 bel hx hk AR A hlow
            go_wp2_with fail
            go_ret2
            exact ⟨Or.inr ⟨AN.out, _, 1, Or.inl rfl, rfl⟩, AB.out⟩
          · have e5 : ((1844674407370955162 : Int) ≤ (n : Int)) = False := eq_false (by omega)
            obtain ⟨t, ht⟩ : ∃ t : Nat, 10 * n = t := ⟨_, rfl⟩
            have e50 : IntKind.u64.wrap ((n : Int) * 10) = (t : Int) := by rw [IntKind.wrap_u64]; omega
            obtain ⟨m, hm⟩ : ∃ m : Nat, (t + d) % 18446744073709551616 = m := ⟨_, rfl⟩
            have e51 : IntKind.u64.wrap ((t : Int) + (d : Int)) = (m : Int) := by rw [IntKind.wrap_u64]; omega
            by_cases hn2 : 9223372036854775807 < 10 * n + (x - 48)
            · have hno : tdec l = none := by
                unfold tdec; rw [if_neg hne, ← htd]; exact tdc_big hn2
              have AN : Aside (tdec l = none) := hno
              by_cases hn3 : m < t
              · have e7 : ((m : Int) < (t : Int)) = True := eq_true (by omega)
                clear ht hm hdx hd10 hno htd hdr hid hne hx2 d1 d2 hn1 hn2 hn3 r0 a0 bel hx hk AR A hlow
                go_wp2_with fail
                go_ret2
                exact ⟨Or.inr ⟨AN.out, _, 1, Or.inl rfl, rfl⟩, AB.out⟩
              · have e7 : ((m : Int) < (t : Int)) = False := eq_false (by omega)
                have e8 : ((9223372036854775807 : Int) < (m : Int)) = True := eq_true (by omega)
                clear ht hm hdx hd10 hno htd hdr hid hne hx2 d1 d2 hn1 hn2 hn3 r0 a0 bel hx hk AR A hlow
                go_wp2_with fail
                go_ret2
                exact ⟨Or.inr ⟨AN.out, _, 1, Or.inl rfl, rfl⟩, AB.out⟩
            · have hgo : tdc (10 * n + (x - 48)) (l.drop (k + 1)) = tdc 0 l := by rw [← htd]; exact (tdc_go hid (by omega)).symm
              have hm2 : 10 * n + (x - 48) = m := by omega
              rw [hm2] at hgo hn2
              have AG : Aside (tdc m (l.drop (k + 1)) = tdc 0 l ∧ m ≤ 9223372036854775807 ∧ k < L ∧ k + gk = L) := ⟨hgo, by omega, hk, r0.1⟩
              have e7 : ((m : Int) < (t : Int)) = False := eq_false (by omega)
              have e8 : ((9223372036854775807 : Int) < (m : Int)) = False := eq_false (by omega)
              clear ht hm hm2 hdx hd10 htd hdr hid hne hx2 d1 d2 hn1 hn2 r0 a0 bel hx hk AR hgo hlow
              go_wp2_with fail
              have ag := AG.out
              go_roundg (gk - 1)
              case measure => omega
              case rel => exact ⟨k + 1, m, by go_num, rfl, rfl, rfl, ⟨by omega, ag.2.1, ag.1⟩⟩
        · have hid : isd x = false := by simp only [isd, decide_eq_false_iff_not]; exact hd
          have hno : tdec l = none := by
            unfold tdec; rw [if_neg hne, ← htd]; exact tdc_no hid
          have AN : Aside (tdec l = none) := hno
          obtain ⟨y, hy⟩ : ∃ y : Nat, x ||| 32 = y := ⟨_, rfl⟩
          rw [hy] at hlow
          have hy2 : y < 256 := by
            rw [← hy]
            have : ∀ z : Fin 256, z.val ||| 32 < 256 := by decide +kernel
            exact this ⟨x, hx2⟩
          have e3 : ((x : Int) == 95) = false ∨ ((x : Int) == 95) = true := by cases ((x : Int) == 95) <;> simp
          have e30 : ∀ b : Bool, (b && false) = false := by simp
          by_cases h48 : 48 ≤ x
          · have e1 : ((48 : Int) ≤ (x : Int)) = True := eq_true (by omega)
            have e2 : ((x : Int) ≤ 57) = False := eq_false (by omega)
            by_cases ha : 97 ≤ y
            · have e5 : ((97 : Int) ≤ (y : Int)) = True := eq_true (by omega)
              by_cases hz : y ≤ 122
              · have e6 : ((y : Int) ≤ 122) = True := eq_true (by omega)
                obtain ⟨d, hdy⟩ : ∃ d : Nat, y = d + 97 := ⟨y - 97, by omega⟩
                have e7 : IntKind.u8.wrap ((y : Int) - 97) = (d : Int) := by rw [IntKind.wrap_u8]; omega
                have e8 : IntKind.u8.wrap ((d : Int) + 10) = ((d + 10 : Nat) : Int) := by rw [IntKind.wrap_u8]; omega
                have e9 : ((10 : Int) ≤ ((d + 10 : Nat) : Int)) = True := eq_true (by omega)
                generalize ((d + 10 : Nat) : Int) = dd at *
                clear hdy hno htd hdr hid hne hx2 hy2 hd hy h48 ha hz r0 a0 bel hx hk AR A
                rcases e3 with e3 | e3
                all_goals
                  go_wp2_with (go_at_call 84; refine hlow.mono ?_; rintro e1 w2 ⟨rfl, rfl⟩)
                  go_ret2
                  exact ⟨Or.inr ⟨AN.out, _, 2, Or.inr rfl, rfl⟩, AB.out⟩
              · have e6 : ((y : Int) ≤ 122) = False := eq_false (by omega)
                clear hno htd hdr hid hne hx2 hy2 hd hy h48 ha hz r0 a0 bel hx hk AR A
                rcases e3 with e3 | e3
                all_goals
                  go_wp2_with (go_at_call 84; refine hlow.mono ?_; rintro e1 w2 ⟨rfl, rfl⟩)
                  go_ret2
                  exact ⟨Or.inr ⟨AN.out, _, 2, Or.inr rfl, rfl⟩, AB.out⟩
            · have e5 : ((97 : Int) ≤ (y : Int)) = False := eq_false (by omega)
              clear hno htd hdr hid hne hx2 hy2 hd hy h48 ha r0 a0 bel hx hk AR A
              rcases e3 with e3 | e3
              all_goals
                go_wp2_with (go_at_call 84; refine hlow.mono ?_; rintro e1 w2 ⟨rfl, rfl⟩)
                go_ret2
                exact ⟨Or.inr ⟨AN.out, _, 2, Or.inr rfl, rfl⟩, AB.out⟩
          · have e1 : ((48 : Int) ≤ (x : Int)) = False := eq_false (by omega)
            have hlt : y < 97 := by
              rw [← hy]
              have : ∀ z : Fin 48, z.val ||| 32 < 97 := by decide +kernel
              exact this ⟨x, by omega⟩
            have e5 : ((97 : Int) ≤ (y : Int)) = False := eq_false (by omega)
            clear hno htd hdr hid hne hx2 hy2 hd hy h48 hlt r0 a0 bel hx hk AR A
            rcases e3 with e3 | e3
            all_goals
              go_wp2_with (go_at_call 84; refine hlow.mono ?_; rintro e1 w2 ⟨rfl, rfl⟩)
              go_ret2
              exact ⟨Or.inr ⟨AN.out, _, 2, Or.inr rfl, rfl⟩, AB.out⟩
      · have t1 : ((k : Int) < (L : Int)) = False := eq_false (by omega)
        have t2 : (k < L) = False := eq_false hk
        have hz : tdec l = some n := by
          unfold tdec
          rw [if_neg a0.1, ← r0.2.2, List.drop_of_length_le (by omega)]
          rfl
        have AN : Aside (tdec l = some n) := hz
        clear hz hk a0 r0 bel A AR
        go_wp2_with fail
        go_ret2
        exact ⟨Or.inl ⟨n, AN.out, rfl⟩, AB.out⟩
theorem parse79 (l : List Nat) (ho : Oct l) (hl : l.length ≤ 1000000000) (w : World) (he : Er w) : Calls Tryd.prog 79 #[.string (st l), .int .i64 10, .int .i64 63] w fun e w' => ((∃ z : Nat, tdec l = some z ∧ e = .returned (.tuple #[.int .u64 (z : Int), .nilIface])) ∨ (tdec l = none ∧ ∃ (x : Int) (t : TypeId) (y : Value), e = .returned (.tuple #[.int .u64 x, .iface t y]))) ∧ Below w.heap.size w w' := by
  have h1 := parse82 l ho hl w
  have A : Aside (Oct l ∧ l.length ≤ 1000000000 ∧ Er w) := ⟨ho, hl, he⟩
  clear ho hl he
  go_enter Tryd.func79, Tryd.ntmps79
  go_upto_region 2 with (go_at_call 82; refine h1.mono ?_; rintro e1 w1 ⟨hx, b1⟩; rcases hx with ⟨z, hz, rfl⟩ | ⟨hz, x, k, hk, rfl⟩)
  · have AZ : Aside (tdec l = some z ∧ Below w.heap.size w w1) := ⟨hz, b1⟩
    clear hz b1 h1
    go_wp2_with fail
    go_ret2
    exact ⟨Or.inl ⟨z, AZ.out.1, rfl⟩, AZ.out.2⟩
  · have he1 : Er w1 := A.out.2.2.below b1 A.out.2.2.1
    have h2 := toError_c k hk ⟨#[80, 97, 114, 115, 101, 85, 105, 110, 116]⟩ l A.out.1 (by have := A.out.2.1; omega) w1 he1
    have AZ : Aside (tdec l = none ∧ Below w.heap.size w w1) := ⟨hz, b1⟩
    clear hz b1 h1 hk he1
    go_wp2_with (go_at_call 83; refine h2.mono ?_; rintro e2 w2 ⟨t, y, rfl, b2⟩)
    go_ret2
    exact ⟨Or.inr ⟨AZ.out.1, x, t, y, rfl⟩, AZ.out.2.trans (b2.mono AZ.out.2.size)⟩
end Go.Proofs.YtcmmjbkgoafbnaaDoor

/-
  What is to come: what setName, setSize and set make of it.
-/
namespace Go.Proofs.YtcmmjbkgoafbnaaDoor
open Go.RowKit
set_option linter.unusedVariables false
/-- A state with other things to come. -/
def tcs (s : Ts) (c : Cm) : Ts := { s with nm := c.1, sz := c.2 }
theorem tcs_self (s : Ts) : tcs s (s.nm, s.sz) = s := rfl
theorem tcs_tcs (s : Ts) (c d : Cm) : tcs (tcs s c) d = tcs s d := rfl
theorem Tok.tcs {s : Ts} (h : Tok s) {c : Cm} (k : Okc c) : Tok (tcs s c) := ⟨h.bl, h.bo, h.kl, h.ko, h.ps, h.wh, h.us, h.lf, h.ln, k⟩
/-- What the methods of what is to come answer. -/
structure Cr (W : Nat) (s : Ts) (v : Rv) (r : Cm × Nat) (w : World) (e : Ending) (w' : World) : Prop where
  re : e = .returned (.int .i64 (r.2 : Int))
  wm : Wm w' W (tcs s r.1) v
  bu : But W w w'
  er : Er w'
section
variable {W : Nat} {s : Ts} {v : Rv}
theorem setName_c (m : List Nat) (ho : Oct m) (hl : m.length ≤ 1000000000) (w : World) (h : Wm w W s v) (he : Er w) (hW : 3 ≤ W) : Calls Tryd.prog 60 #[.pointer (some ⟨W, 1541, none⟩), .string (st m)] w fun e w' => Cr W s v (tnam m (s.nm, s.sz)) w e w' := by
  have c1 := h.k1541
  have c2 := h.k1542
  have f1 := h.fz 1541
  have f2 := h.fz 1542
  have z1 : (st m).size = m.length := st_size m
  have A : Aside (Wm w W s v ∧ Er w ∧ 3 ≤ W ∧ Oct m) := ⟨h, he, hW, ho⟩
  obtain ⟨x, hx⟩ : ∃ x, st m = x := ⟨_, rfl⟩
  rw [hx] at z1 ⊢
  by_cases h1 : 256 < m.length
  · have AN : Aside (tnam m (s.nm, s.sz) = ((s.nm, s.sz), 46)) := by show tnam _ _ = _; unfold tnam; rw [if_pos h1]
    obtain ⟨L, hL⟩ : ∃ L, m.length = L := ⟨_, rfl⟩
    rw [hL] at z1 h1
    have t1 : ((256 : Int) < (L : Int)) = True := eq_true (by omega)
    clear h1 h he hW ho hl hx hL
    go_enter Tryd.func60, Tryd.ntmps60
    go_wp2_with fail
    first | go_ret | go_ret2
    rw [AN.out]
    exact ⟨rfl, A.out.1, But.refl _ _, A.out.2.1⟩
  · have AN : Aside (tnam m (s.nm, s.sz) = ((some m, s.sz), 0) ∧ st m = x ∧ m.length ≤ 256) := by
      refine ⟨?_, hx, by omega⟩
      unfold tnam; rw [if_neg h1]
    obtain ⟨L, hL⟩ : ∃ L, m.length = L := ⟨_, rfl⟩
    rw [hL] at z1 h1
    have t1 : ((256 : Int) < (L : Int)) = False := eq_false (by omega)
    clear h1 h he hW ho hl hx hL
    go_enter Tryd.func60, Tryd.ntmps60
    go_wp2_with fail
    first | go_ret | go_ret2
    have an := AN.out
    have a0 := A.out
    rw [an.1]
    have k := a0.1.snm m (by
      have := a0.1.ok
      exact ⟨this.bl, this.bo, this.kl, this.ko, this.ps, this.wh, this.us, this.lf, this.ln, ⟨fun n hn => by simp only [Option.some.injEq] at hn; subst hn; exact ⟨a0.2.2.2, an.2.2⟩, this.cm.2⟩⟩)
    rw [an.2.1] at k
    have o : Only W w ((w.setCell ⟨W, 1541, none⟩ (.string x)).setCell ⟨W, 1542, none⟩ (.bool true)) := ((Only.refl W w).setCell 1541 _).setCell 1542 _
    exact ⟨rfl, k, But.of_only o, a0.2.1.but (But.of_only o) a0.2.2.1⟩
theorem setSize_c (m : List Nat) (ho : Oct m) (hl : m.length ≤ 1000000000) (w : World) (h : Wm w W s v) (he : Er w) (hW : 3 ≤ W) : Calls Tryd.prog 73 #[.pointer (some ⟨W, 1541, none⟩), .string (st m)] w fun e w' => Cr W s v (tsiz m (s.nm, s.sz)) w e w' := by
  have h1 := parse79 m ho hl w he
  have A : Aside (Wm w W s v ∧ Er w ∧ 3 ≤ W ∧ Oct m) := ⟨h, he, hW, ho⟩
  clear h he hW ho hl
  go_enter Tryd.func73, Tryd.ntmps73
  go_upto_region 2 with (go_at_call 79; refine h1.mono ?_; rintro e1 w1 ⟨hx, b1⟩; rcases hx with ⟨z, hz, rfl⟩ | ⟨hz, x, t, y, rfl⟩)
  · have a0 := A.out
    have k1 := a0.1.below b1 a0.1.lt
    have c1 := k1.k1543
    have c2 := k1.k1544
    have f1 := k1.fz 1543
    have f2 := k1.fz 1544
    have AZ : Aside (tsiz m (s.nm, s.sz) = ((s.nm, some z), 0) ∧ tdec m = some z ∧ Below w.heap.size w w1 ∧ Wm w1 W s v) := ⟨by unfold tsiz; rw [hz], hz, b1, k1⟩
    clear hz b1 h1 k1 a0
    go_wp2_with fail
    first | go_ret | go_ret2
    have az := AZ.out
    have a0 := A.out
    rw [az.1]
    have k := az.2.2.2.ssz z (by
      have := a0.1.ok
      exact ⟨this.bl, this.bo, this.kl, this.ko, this.ps, this.wh, this.us, this.lf, this.ln, ⟨this.cm.1, fun n hn => by simp only [Option.some.injEq] at hn; subst hn; exact tdec_lt az.2.1⟩⟩)
    have o : Only W w1 ((w1.setCell ⟨W, 1543, none⟩ (.int .u64 (z : Int))).setCell ⟨W, 1544, none⟩ (.bool true)) := ((Only.refl W w1).setCell 1543 _).setCell 1544 _
    have hbu : But W w _ := (But.of_below az.2.2.1).trans (But.of_only o)
    exact ⟨rfl, k, hbu, a0.2.1.but hbu a0.2.2.1⟩
  · have AZ : Aside (tsiz m (s.nm, s.sz) = ((s.nm, s.sz), 48) ∧ Below w.heap.size w w1) := ⟨by unfold tsiz; rw [hz], b1⟩
    clear hz b1 h1
    go_wp2_with fail
    first | go_ret | go_ret2
    have az := AZ.out
    have a0 := A.out
    rw [az.1]
    exact ⟨rfl, a0.1.below az.2 a0.1.lt, But.of_below az.2, a0.2.1.below az.2 (by have := a0.1.lt; omega)⟩
theorem key_path {k : List Nat} (h : Oct k) : ((st k).toList == [112, 97, 116, 104]) = decide (k = kpath) := by
  have := st_beq h (show Oct kpath from by unfold Oct kpath; decide)
  have e : (st kpath).toList = [112, 97, 116, 104] := by rw [ByteArray.toList_eq]; rfl
  rw [e] at this; exact this
theorem key_size {k : List Nat} (h : Oct k) : ((st k).toList == [115, 105, 122, 101]) = decide (k = ksize) := by
  have := st_beq h (show Oct ksize from by unfold Oct ksize; decide)
  have e : (st ksize).toList = [115, 105, 122, 101] := by rw [ByteArray.toList_eq]; rfl
  rw [e] at this; exact this
theorem set_c (k m : List Nat) (hk : Oct k) (ho : Oct m) (hl : m.length ≤ 1000000000) (w : World) (h : Wm w W s v) (he : Er w) (hW : 3 ≤ W) : Calls Tryd.prog 71 #[.pointer (some ⟨W, 1541, none⟩), .string (st k), .string (st m)] w fun e w' => Cr W s v (tset k m (s.nm, s.sz)) w e w' := by
  have h1 := setName_c m ho hl w h he hW
  have h2 := setSize_c m ho hl w h he hW
  have e1 := key_path hk
  have e2 := key_size hk
  have A : Aside (Wm w W s v ∧ Er w) := ⟨h, he⟩
  obtain ⟨x, hx⟩ : ∃ x, st k = x := ⟨_, rfl⟩
  rw [hx] at e1 e2 ⊢
  by_cases q1 : k = kpath
  · rw [decide_eq_true q1] at e1
    have AN : Aside (tset k m (s.nm, s.sz) = tnam m (s.nm, s.sz)) := by show tset _ _ _ = _; unfold tset; rw [if_pos q1]
    clear q1 h he hW ho hl hk hx e2 h2
    go_enter Tryd.func71, Tryd.ntmps71
    go_wp2_with (go_at_call 60; refine h1.mono ?_; rintro e1 w1 ⟨rfl, k1, b1, r1⟩)
    first | go_ret | go_ret2
    rw [AN.out]
    exact ⟨rfl, k1, b1, r1⟩
  · rw [decide_eq_false q1] at e1
    by_cases q2 : k = ksize
    · rw [decide_eq_true q2] at e2
      have AN : Aside (tset k m (s.nm, s.sz) = tsiz m (s.nm, s.sz)) := by show tset _ _ _ = _; unfold tset; rw [if_neg q1, if_pos q2]
      clear q1 q2 h he hW ho hl hk hx h1
      go_enter Tryd.func71, Tryd.ntmps71
      go_wp2_with (go_at_call 73; refine h2.mono ?_; rintro e1 w1 ⟨rfl, k1, b1, r1⟩)
      first | go_ret | go_ret2
      rw [AN.out]
      exact ⟨rfl, k1, b1, r1⟩
    · rw [decide_eq_false q2] at e2
      have AN : Aside (tset k m (s.nm, s.sz) = ((s.nm, s.sz), 0)) := by show tset _ _ _ = _; unfold tset; rw [if_neg q1, if_neg q2]
      clear q1 q2 h he hW ho hl hk hx h1 h2
      go_enter Tryd.func71, Tryd.ntmps71
      go_wp2_with fail
      first | go_ret | go_ret2
      rw [AN.out]
      exact ⟨rfl, A.out.1, But.refl _ _, A.out.2⟩
end
end Go.Proofs.YtcmmjbkgoafbnaaDoor

/-
  The walker in memory: 1553 cells by a function of their place.
-/
import Derived.Test.YtcmmjbkgoafbnaaGreatDoorOwn
import Derived.Test.YtcmmjbkgoafbnaaGreatDoorTmb
import Derived.Test.YtcmmjbkgoafbnaaGreatDoorRead
import Derived.BigQuiet
import Derived.BigRegion
import Derived.Deep.CutBlock
import Derived.Deep.DeepCutAuto
namespace Go.Proofs.YtcmmjbkgoafbnaaGreatDoor
open Go.RowKit
set_option linter.unusedVariables false
/-- 1553 cells by a function. -/
def czn (n : Nat) (f : Nat → Value) : Array Value := ((List.range n).map f).toArray
def cz (f : Nat → Value) : Array Value := czn 1553 f
def upd (f : Nat → Value) (i : Nat) (v : Value) : Nat → Value := fun j => if j = i then v else f j
theorem upd_same (f : Nat → Value) (i : Nat) (v : Value) : upd f i v i = v := by simp [upd]
theorem upd_ne (f : Nat → Value) {i j : Nat} (v : Value) (h : j ≠ i) : upd f i v j = f j := by simp [upd, h]
theorem czn_size (n : Nat) (f : Nat → Value) : (czn n f).size = n := by simp [czn]
theorem czn_at (n : Nat) (f : Nat → Value) {i : Nat} (h : i < n) : (czn n f)[i]? = some (f i) := by simp [czn, h]
theorem czn_congr {n : Nat} {f g : Nat → Value} (h : ∀ i, i < n → f i = g i) : czn n f = czn n g := by
  unfold czn
  rw [List.map_congr_left (fun i hi => h i (List.mem_range.1 hi))]
theorem czn_set (n : Nat) (f : Nat → Value) (i : Nat) (v : Value) : (czn n f).setIfInBounds i v = czn n (upd f i v) := by
  apply Array.ext
  · simp [czn]
  · intro j h1 h2
    have hj : j < n := by simpa [czn] using h2
    simp only [czn, List.setIfInBounds_toArray, List.getElem_toArray, List.getElem_set, List.getElem_map, List.getElem_range, upd]
    by_cases e : i = j
    · simp [e]
    · simp [e, Ne.symm e]
theorem cz_size (f : Nat → Value) : (cz f).size = 1553 := czn_size 1553 f
theorem cz_at (f : Nat → Value) {i : Nat} (h : i < 1553) : (cz f)[i]? = some (f i) := czn_at 1553 f h
theorem cz_congr {f g : Nat → Value} (h : ∀ i, i < 1553 → f i = g i) : cz f = cz g := czn_congr h
theorem cz_set (f : Nat → Value) (i : Nat) (v : Value) : (cz f).setIfInBounds i v = cz (upd f i v) := czn_set 1553 f i v
/-- The event that is told next, as it lies; does one behind it close; has it ended. -/
structure Rv where
  ek : Int
  eb : Int
  en : Int
  et : List Nat
  cl : Bool
  ed : Bool

/-- The cells of a walker. -/
structure Wf (f : Nat → Value) (s : Ts) (v : Rv) : Prop where
  c0 : f 0 = .int .i64 (s.wh : Int)
  c1 : f 1 = .int .i64 (s.ps : Int)
  c514 : f 514 = .int .i64 (s.us : Int)
  c515 : f 515 = .int .u64 (s.lf : Int)
  c1540 : f 1540 = .int .i64 (s.ln : Int)
  c1541 : f 1541 = .string (st (s.nm.getD []))
  c1542 : f 1542 = .bool s.nm.isSome
  c1543 : f 1543 = .int .u64 ((s.sz.getD 0 : Nat) : Int)
  c1544 : f 1544 = .bool s.sz.isSome
  c1545 : f 1545 = .int .i64 v.ek
  c1546 : f 1546 = .int .u8 v.eb
  c1547 : f 1547 = .int .i64 v.en
  c1548 : f 1548 = .int .i64 0
  c1549 : f 1549 = .string (st v.et)
  c1550 : f 1550 = .bool v.cl
  c1551 : f 1551 = .bool v.ed
  c1552 : f 1552 = .int .i64 (s.why : Int)
  bk : ∀ (j x : Nat), s.B[j]? = some x → f (2 + j) = .int .u8 (x : Int)
  kp : ∀ (j x : Nat), s.K[j]? = some x → f (516 + j) = .int .u8 (x : Int)
  ok : Tok s
structure Wm (w : World) (W : Nat) (s : Ts) (v : Rv) : Prop where
  ex : ∃ f, Cells w W (cz f) 67 ∧ Wf f s v
section
variable {w u : World} {W : Nat} {s : Ts} {v : Rv}
theorem Wm.lt (h : Wm w W s v) : W < w.heap.size := by obtain ⟨f, hf, _⟩ := h.ex; exact hf.lt
theorem Wm.ok (h : Wm w W s v) : Tok s := by obtain ⟨f, hf, k⟩ := h.ex; exact k.ok
theorem Wm.cells (h : Wm w W s v) : ∃ cs, Cells w W cs 67 := by obtain ⟨f, hf, _⟩ := h.ex; exact ⟨_, hf⟩
theorem Wm.fz (h : Wm w W s v) (i : Nat) : w.frozen? ⟨W, i, none⟩ = false := by obtain ⟨f, hf, _⟩ := h.ex; exact hf.frozen i
theorem Wm.k0 (h : Wm w W s v) : w.cell? ⟨W, 0, none⟩ = some (.int .i64 (s.wh : Int)) := by obtain ⟨f, hf, k⟩ := h.ex; rw [hf.cell, cz_at f (by decide), k.c0]
theorem Wm.k1 (h : Wm w W s v) : w.cell? ⟨W, 1, none⟩ = some (.int .i64 (s.ps : Int)) := by obtain ⟨f, hf, k⟩ := h.ex; rw [hf.cell, cz_at f (by decide), k.c1]
theorem Wm.k514 (h : Wm w W s v) : w.cell? ⟨W, 514, none⟩ = some (.int .i64 (s.us : Int)) := by obtain ⟨f, hf, k⟩ := h.ex; rw [hf.cell, cz_at f (by decide), k.c514]
theorem Wm.k515 (h : Wm w W s v) : w.cell? ⟨W, 515, none⟩ = some (.int .u64 (s.lf : Int)) := by obtain ⟨f, hf, k⟩ := h.ex; rw [hf.cell, cz_at f (by decide), k.c515]
theorem Wm.k1540 (h : Wm w W s v) : w.cell? ⟨W, 1540, none⟩ = some (.int .i64 (s.ln : Int)) := by obtain ⟨f, hf, k⟩ := h.ex; rw [hf.cell, cz_at f (by decide), k.c1540]
theorem Wm.k1541 (h : Wm w W s v) : w.cell? ⟨W, 1541, none⟩ = some (.string (st (s.nm.getD []))) := by obtain ⟨f, hf, k⟩ := h.ex; rw [hf.cell, cz_at f (by decide), k.c1541]
theorem Wm.k1542 (h : Wm w W s v) : w.cell? ⟨W, 1542, none⟩ = some (.bool s.nm.isSome) := by obtain ⟨f, hf, k⟩ := h.ex; rw [hf.cell, cz_at f (by decide), k.c1542]
theorem Wm.k1543 (h : Wm w W s v) : w.cell? ⟨W, 1543, none⟩ = some (.int .u64 ((s.sz.getD 0 : Nat) : Int)) := by obtain ⟨f, hf, k⟩ := h.ex; rw [hf.cell, cz_at f (by decide), k.c1543]
theorem Wm.k1544 (h : Wm w W s v) : w.cell? ⟨W, 1544, none⟩ = some (.bool s.sz.isSome) := by obtain ⟨f, hf, k⟩ := h.ex; rw [hf.cell, cz_at f (by decide), k.c1544]
theorem Wm.k1545 (h : Wm w W s v) : w.cell? ⟨W, 1545, none⟩ = some (.int .i64 v.ek) := by obtain ⟨f, hf, k⟩ := h.ex; rw [hf.cell, cz_at f (by decide), k.c1545]
theorem Wm.k1546 (h : Wm w W s v) : w.cell? ⟨W, 1546, none⟩ = some (.int .u8 v.eb) := by obtain ⟨f, hf, k⟩ := h.ex; rw [hf.cell, cz_at f (by decide), k.c1546]
theorem Wm.k1547 (h : Wm w W s v) : w.cell? ⟨W, 1547, none⟩ = some (.int .i64 v.en) := by obtain ⟨f, hf, k⟩ := h.ex; rw [hf.cell, cz_at f (by decide), k.c1547]
theorem Wm.k1548 (h : Wm w W s v) : w.cell? ⟨W, 1548, none⟩ = some (.int .i64 0) := by obtain ⟨f, hf, k⟩ := h.ex; rw [hf.cell, cz_at f (by decide), k.c1548]
theorem Wm.k1549 (h : Wm w W s v) : w.cell? ⟨W, 1549, none⟩ = some (.string (st v.et)) := by obtain ⟨f, hf, k⟩ := h.ex; rw [hf.cell, cz_at f (by decide), k.c1549]
theorem Wm.k1550 (h : Wm w W s v) : w.cell? ⟨W, 1550, none⟩ = some (.bool v.cl) := by obtain ⟨f, hf, k⟩ := h.ex; rw [hf.cell, cz_at f (by decide), k.c1550]
theorem Wm.k1551 (h : Wm w W s v) : w.cell? ⟨W, 1551, none⟩ = some (.bool v.ed) := by obtain ⟨f, hf, k⟩ := h.ex; rw [hf.cell, cz_at f (by decide), k.c1551]
theorem Wm.k1552 (h : Wm w W s v) : w.cell? ⟨W, 1552, none⟩ = some (.int .i64 (s.why : Int)) := by obtain ⟨f, hf, k⟩ := h.ex; rw [hf.cell, cz_at f (by decide), k.c1552]
theorem Wm.kb (h : Wm w W s v) {j x : Nat} (hx : s.B[j]? = some x) : w.cell? ⟨W, 2 + j, none⟩ = some (.int .u8 (x : Int)) := by
  obtain ⟨f, hf, k⟩ := h.ex
  have := (List.getElem?_eq_some_iff.1 hx).1
  have := k.ok.bl
  rw [hf.cell, cz_at f (by omega), k.bk j x hx]
theorem Wm.kk (h : Wm w W s v) {j x : Nat} (hx : s.K[j]? = some x) : w.cell? ⟨W, 516 + j, none⟩ = some (.int .u8 (x : Int)) := by
  obtain ⟨f, hf, k⟩ := h.ex
  have := (List.getElem?_eq_some_iff.1 hx).1
  have := k.ok.kl
  rw [hf.cell, cz_at f (by omega), k.kp j x hx]
theorem Wm.lb (h : Wm w W s v) : Lies w (some ⟨W, 2, none⟩) s.B := Or.inr ⟨W, 2, rfl, fun i x hx => h.kb hx⟩
theorem Wm.lk (h : Wm w W s v) : Lies w (some ⟨W, 516, none⟩) s.K := Or.inr ⟨W, 516, rfl, fun i x hx => h.kk hx⟩
theorem Wm.keep (h : Wm w W s v) (k : u.heap[W]? = w.heap[W]?) : Wm u W s v := by
  obtain ⟨f, hf, hh⟩ := h.ex
  exact ⟨f, by unfold Cells at *; rw [k]; exact hf, hh⟩
theorem Wm.drewN (h : Wm w W s v) (n : Nat) : Wm (w.drewN n) W s v := h.keep rfl
theorem Wm.drew (h : Wm w W s v) : Wm w.drew W s v := h.keep rfl
theorem Wm.below (h : Wm w W s v) {C : Nat} (k : Below C w u) (hC : W < C) : Wm u W s v := h.keep (k.block W hC)
theorem Wm.alloc (h : Wm w W s v) (o : Obj) : Wm (w.alloc o) W s v := h.keep (Below.heap_alloc w o W h.lt)
theorem Wm.got {lo sz n : Nat} {e : TypeId} {a a' : Value} {xs : List Value} (h : Wm w W s v) (k : Got lo e sz w u a a' n xs) (he : 67 ≠ e) : Wm u W s v := by
  obtain ⟨f, hf, hh⟩ := h.ex
  exact ⟨f, hf.got k he, hh⟩
theorem Wm.to (h : Wm w W s v) {s' : Ts} {v' : Rv} {i : Nat} {x : Value} (k : ∀ f, Wf f s v → Wf (upd f i x) s' v') : Wm (w.setCell ⟨W, i, none⟩ x) W s' v' := by
  obtain ⟨f, hf, hh⟩ := h.ex
  refine ⟨upd f i x, ?_, k f hh⟩
  have := hf.set i x
  rwa [cz_set] at this
theorem Wm.s0 (h : Wm w W s v) (m : Nat) (ho : Tok { s with wh := m }) : Wm (w.setCell ⟨W, 0, none⟩ (.int .i64 (m : Int))) W { s with wh := m } v := by
  refine h.to fun f k => ⟨?_, ?_, ?_, ?_, ?_, ?_, ?_, ?_, ?_, ?_, ?_, ?_, ?_, ?_, ?_, ?_, ?_, fun j x hx => ?_, fun j x hx => ?_, ho⟩
  all_goals first | exact upd_same _ _ _ | (have hb := k.ok.bl; have hj : j < s.B.length := (List.getElem?_eq_some_iff.1 hx).1; rw [upd_ne _ _ (by omega)]; exact k.bk j x hx) | (have hb := k.ok.kl; have hj : j < s.K.length := (List.getElem?_eq_some_iff.1 hx).1; rw [upd_ne _ _ (by omega)]; exact k.kp j x hx) | (rw [upd_ne _ _ (by omega)]; first | exact k.c1 | exact k.c514 | exact k.c515 | exact k.c1540 | exact k.c1541 | exact k.c1542 | exact k.c1543 | exact k.c1544 | exact k.c1545 | exact k.c1546 | exact k.c1547 | exact k.c1548 | exact k.c1549 | exact k.c1550 | exact k.c1551 | exact k.c1552)
theorem Wm.s1 (h : Wm w W s v) (m : Nat) (ho : m < 512) : Wm (w.setCell ⟨W, 1, none⟩ (.int .i64 (m : Int))) W { s with ps := m } v := by
  refine h.to fun f k => ⟨?_, ?_, ?_, ?_, ?_, ?_, ?_, ?_, ?_, ?_, ?_, ?_, ?_, ?_, ?_, ?_, ?_, fun j x hx => ?_, fun j x hx => ?_, ⟨k.ok.bl, k.ok.bo, k.ok.kl, k.ok.ko, ho, k.ok.wh, k.ok.us, k.ok.lf, k.ok.ln, k.ok.cm⟩⟩
  all_goals first | exact upd_same _ _ _ | (have hb := k.ok.bl; have hj : j < s.B.length := (List.getElem?_eq_some_iff.1 hx).1; rw [upd_ne _ _ (by omega)]; exact k.bk j x hx) | (have hb := k.ok.kl; have hj : j < s.K.length := (List.getElem?_eq_some_iff.1 hx).1; rw [upd_ne _ _ (by omega)]; exact k.kp j x hx) | (rw [upd_ne _ _ (by omega)]; first | exact k.c0 | exact k.c514 | exact k.c515 | exact k.c1540 | exact k.c1541 | exact k.c1542 | exact k.c1543 | exact k.c1544 | exact k.c1545 | exact k.c1546 | exact k.c1547 | exact k.c1548 | exact k.c1549 | exact k.c1550 | exact k.c1551 | exact k.c1552)
theorem Wm.s515 (h : Wm w W s v) (m : Nat) (ho : Tok { s with lf := m }) : Wm (w.setCell ⟨W, 515, none⟩ (.int .u64 (m : Int))) W { s with lf := m } v := by
  refine h.to fun f k => ⟨?_, ?_, ?_, ?_, ?_, ?_, ?_, ?_, ?_, ?_, ?_, ?_, ?_, ?_, ?_, ?_, ?_, fun j x hx => ?_, fun j x hx => ?_, ho⟩
  all_goals first | exact upd_same _ _ _ | (have hb := k.ok.bl; have hj : j < s.B.length := (List.getElem?_eq_some_iff.1 hx).1; rw [upd_ne _ _ (by omega)]; exact k.bk j x hx) | (have hb := k.ok.kl; have hj : j < s.K.length := (List.getElem?_eq_some_iff.1 hx).1; rw [upd_ne _ _ (by omega)]; exact k.kp j x hx) | (rw [upd_ne _ _ (by omega)]; first | exact k.c0 | exact k.c1 | exact k.c514 | exact k.c1540 | exact k.c1541 | exact k.c1542 | exact k.c1543 | exact k.c1544 | exact k.c1545 | exact k.c1546 | exact k.c1547 | exact k.c1548 | exact k.c1549 | exact k.c1550 | exact k.c1551 | exact k.c1552)
theorem Wm.s514 (h : Wm w W s v) (m : Nat) (ho : Tok { s with us := m }) : Wm (w.setCell ⟨W, 514, none⟩ (.int .i64 (m : Int))) W { s with us := m } v := by
  refine h.to fun f k => ⟨?_, ?_, ?_, ?_, ?_, ?_, ?_, ?_, ?_, ?_, ?_, ?_, ?_, ?_, ?_, ?_, ?_, fun j x hx => ?_, fun j x hx => ?_, ho⟩
  all_goals first | exact upd_same _ _ _ | (have hb := k.ok.bl; have hj : j < s.B.length := (List.getElem?_eq_some_iff.1 hx).1; rw [upd_ne _ _ (by omega)]; exact k.bk j x hx) | (have hb := k.ok.kl; have hj : j < s.K.length := (List.getElem?_eq_some_iff.1 hx).1; rw [upd_ne _ _ (by omega)]; exact k.kp j x hx) | (rw [upd_ne _ _ (by omega)]; first | exact k.c0 | exact k.c1 | exact k.c515 | exact k.c1540 | exact k.c1541 | exact k.c1542 | exact k.c1543 | exact k.c1544 | exact k.c1545 | exact k.c1546 | exact k.c1547 | exact k.c1548 | exact k.c1549 | exact k.c1550 | exact k.c1551 | exact k.c1552)
theorem Wm.s1540 (h : Wm w W s v) (m : Nat) (ho : Tok { s with ln := m }) : Wm (w.setCell ⟨W, 1540, none⟩ (.int .i64 (m : Int))) W { s with ln := m } v := by
  refine h.to fun f k => ⟨?_, ?_, ?_, ?_, ?_, ?_, ?_, ?_, ?_, ?_, ?_, ?_, ?_, ?_, ?_, ?_, ?_, fun j x hx => ?_, fun j x hx => ?_, ho⟩
  all_goals first | exact upd_same _ _ _ | (have hb := k.ok.bl; have hj : j < s.B.length := (List.getElem?_eq_some_iff.1 hx).1; rw [upd_ne _ _ (by omega)]; exact k.bk j x hx) | (have hb := k.ok.kl; have hj : j < s.K.length := (List.getElem?_eq_some_iff.1 hx).1; rw [upd_ne _ _ (by omega)]; exact k.kp j x hx) | (rw [upd_ne _ _ (by omega)]; first | exact k.c0 | exact k.c1 | exact k.c514 | exact k.c515 | exact k.c1541 | exact k.c1542 | exact k.c1543 | exact k.c1544 | exact k.c1545 | exact k.c1546 | exact k.c1547 | exact k.c1548 | exact k.c1549 | exact k.c1550 | exact k.c1551 | exact k.c1552)
theorem Wm.s1552 (h : Wm w W s v) (m : Nat) : Wm (w.setCell ⟨W, 1552, none⟩ (.int .i64 (m : Int))) W { s with why := m } v := by
  refine h.to fun f k => ⟨?_, ?_, ?_, ?_, ?_, ?_, ?_, ?_, ?_, ?_, ?_, ?_, ?_, ?_, ?_, ?_, ?_, fun j x hx => ?_, fun j x hx => ?_, ⟨k.ok.bl, k.ok.bo, k.ok.kl, k.ok.ko, k.ok.ps, k.ok.wh, k.ok.us, k.ok.lf, k.ok.ln, k.ok.cm⟩⟩
  all_goals first | exact upd_same _ _ _ | (have hb := k.ok.bl; have hj : j < s.B.length := (List.getElem?_eq_some_iff.1 hx).1; rw [upd_ne _ _ (by omega)]; exact k.bk j x hx) | (have hb := k.ok.kl; have hj : j < s.K.length := (List.getElem?_eq_some_iff.1 hx).1; rw [upd_ne _ _ (by omega)]; exact k.kp j x hx) | (rw [upd_ne _ _ (by omega)]; first | exact k.c0 | exact k.c1 | exact k.c514 | exact k.c515 | exact k.c1540 | exact k.c1541 | exact k.c1542 | exact k.c1543 | exact k.c1544 | exact k.c1545 | exact k.c1546 | exact k.c1547 | exact k.c1548 | exact k.c1549 | exact k.c1550 | exact k.c1551)
theorem Wm.s1545 (h : Wm w W s v) (m : Int) : Wm (w.setCell ⟨W, 1545, none⟩ (.int .i64 m)) W s { v with ek := m } := by
  refine h.to fun f k => ⟨?_, ?_, ?_, ?_, ?_, ?_, ?_, ?_, ?_, ?_, ?_, ?_, ?_, ?_, ?_, ?_, ?_, fun j x hx => ?_, fun j x hx => ?_, k.ok⟩
  all_goals first | exact upd_same _ _ _ | (have hb := k.ok.bl; have hj : j < s.B.length := (List.getElem?_eq_some_iff.1 hx).1; rw [upd_ne _ _ (by omega)]; exact k.bk j x hx) | (have hb := k.ok.kl; have hj : j < s.K.length := (List.getElem?_eq_some_iff.1 hx).1; rw [upd_ne _ _ (by omega)]; exact k.kp j x hx) | (rw [upd_ne _ _ (by omega)]; first | exact k.c0 | exact k.c1 | exact k.c514 | exact k.c515 | exact k.c1540 | exact k.c1541 | exact k.c1542 | exact k.c1543 | exact k.c1544 | exact k.c1546 | exact k.c1547 | exact k.c1548 | exact k.c1549 | exact k.c1550 | exact k.c1551 | exact k.c1552)
theorem Wm.s1546 (h : Wm w W s v) (m : Int) : Wm (w.setCell ⟨W, 1546, none⟩ (.int .u8 m)) W s { v with eb := m } := by
  refine h.to fun f k => ⟨?_, ?_, ?_, ?_, ?_, ?_, ?_, ?_, ?_, ?_, ?_, ?_, ?_, ?_, ?_, ?_, ?_, fun j x hx => ?_, fun j x hx => ?_, k.ok⟩
  all_goals first | exact upd_same _ _ _ | (have hb := k.ok.bl; have hj : j < s.B.length := (List.getElem?_eq_some_iff.1 hx).1; rw [upd_ne _ _ (by omega)]; exact k.bk j x hx) | (have hb := k.ok.kl; have hj : j < s.K.length := (List.getElem?_eq_some_iff.1 hx).1; rw [upd_ne _ _ (by omega)]; exact k.kp j x hx) | (rw [upd_ne _ _ (by omega)]; first | exact k.c0 | exact k.c1 | exact k.c514 | exact k.c515 | exact k.c1540 | exact k.c1541 | exact k.c1542 | exact k.c1543 | exact k.c1544 | exact k.c1545 | exact k.c1547 | exact k.c1548 | exact k.c1549 | exact k.c1550 | exact k.c1551 | exact k.c1552)
theorem Wm.s1547 (h : Wm w W s v) (m : Int) : Wm (w.setCell ⟨W, 1547, none⟩ (.int .i64 m)) W s { v with en := m } := by
  refine h.to fun f k => ⟨?_, ?_, ?_, ?_, ?_, ?_, ?_, ?_, ?_, ?_, ?_, ?_, ?_, ?_, ?_, ?_, ?_, fun j x hx => ?_, fun j x hx => ?_, k.ok⟩
  all_goals first | exact upd_same _ _ _ | (have hb := k.ok.bl; have hj : j < s.B.length := (List.getElem?_eq_some_iff.1 hx).1; rw [upd_ne _ _ (by omega)]; exact k.bk j x hx) | (have hb := k.ok.kl; have hj : j < s.K.length := (List.getElem?_eq_some_iff.1 hx).1; rw [upd_ne _ _ (by omega)]; exact k.kp j x hx) | (rw [upd_ne _ _ (by omega)]; first | exact k.c0 | exact k.c1 | exact k.c514 | exact k.c515 | exact k.c1540 | exact k.c1541 | exact k.c1542 | exact k.c1543 | exact k.c1544 | exact k.c1545 | exact k.c1546 | exact k.c1548 | exact k.c1549 | exact k.c1550 | exact k.c1551 | exact k.c1552)
theorem Wm.s1549 (h : Wm w W s v) (m : List Nat) : Wm (w.setCell ⟨W, 1549, none⟩ (.string (st m))) W s { v with et := m } := by
  refine h.to fun f k => ⟨?_, ?_, ?_, ?_, ?_, ?_, ?_, ?_, ?_, ?_, ?_, ?_, ?_, ?_, ?_, ?_, ?_, fun j x hx => ?_, fun j x hx => ?_, k.ok⟩
  all_goals first | exact upd_same _ _ _ | (have hb := k.ok.bl; have hj : j < s.B.length := (List.getElem?_eq_some_iff.1 hx).1; rw [upd_ne _ _ (by omega)]; exact k.bk j x hx) | (have hb := k.ok.kl; have hj : j < s.K.length := (List.getElem?_eq_some_iff.1 hx).1; rw [upd_ne _ _ (by omega)]; exact k.kp j x hx) | (rw [upd_ne _ _ (by omega)]; first | exact k.c0 | exact k.c1 | exact k.c514 | exact k.c515 | exact k.c1540 | exact k.c1541 | exact k.c1542 | exact k.c1543 | exact k.c1544 | exact k.c1545 | exact k.c1546 | exact k.c1547 | exact k.c1548 | exact k.c1550 | exact k.c1551 | exact k.c1552)
theorem Wm.s1550 (h : Wm w W s v) (m : Bool) : Wm (w.setCell ⟨W, 1550, none⟩ (.bool m)) W s { v with cl := m } := by
  refine h.to fun f k => ⟨?_, ?_, ?_, ?_, ?_, ?_, ?_, ?_, ?_, ?_, ?_, ?_, ?_, ?_, ?_, ?_, ?_, fun j x hx => ?_, fun j x hx => ?_, k.ok⟩
  all_goals first | exact upd_same _ _ _ | (have hb := k.ok.bl; have hj : j < s.B.length := (List.getElem?_eq_some_iff.1 hx).1; rw [upd_ne _ _ (by omega)]; exact k.bk j x hx) | (have hb := k.ok.kl; have hj : j < s.K.length := (List.getElem?_eq_some_iff.1 hx).1; rw [upd_ne _ _ (by omega)]; exact k.kp j x hx) | (rw [upd_ne _ _ (by omega)]; first | exact k.c0 | exact k.c1 | exact k.c514 | exact k.c515 | exact k.c1540 | exact k.c1541 | exact k.c1542 | exact k.c1543 | exact k.c1544 | exact k.c1545 | exact k.c1546 | exact k.c1547 | exact k.c1548 | exact k.c1549 | exact k.c1551 | exact k.c1552)
theorem Wm.s1551 (h : Wm w W s v) (m : Bool) : Wm (w.setCell ⟨W, 1551, none⟩ (.bool m)) W s { v with ed := m } := by
  refine h.to fun f k => ⟨?_, ?_, ?_, ?_, ?_, ?_, ?_, ?_, ?_, ?_, ?_, ?_, ?_, ?_, ?_, ?_, ?_, fun j x hx => ?_, fun j x hx => ?_, k.ok⟩
  all_goals first | exact upd_same _ _ _ | (have hb := k.ok.bl; have hj : j < s.B.length := (List.getElem?_eq_some_iff.1 hx).1; rw [upd_ne _ _ (by omega)]; exact k.bk j x hx) | (have hb := k.ok.kl; have hj : j < s.K.length := (List.getElem?_eq_some_iff.1 hx).1; rw [upd_ne _ _ (by omega)]; exact k.kp j x hx) | (rw [upd_ne _ _ (by omega)]; first | exact k.c0 | exact k.c1 | exact k.c514 | exact k.c515 | exact k.c1540 | exact k.c1541 | exact k.c1542 | exact k.c1543 | exact k.c1544 | exact k.c1545 | exact k.c1546 | exact k.c1547 | exact k.c1548 | exact k.c1549 | exact k.c1550 | exact k.c1552)
theorem Wm.s1548 (h : Wm w W s v)  : Wm (w.setCell ⟨W, 1548, none⟩ (.int .i64 0)) W s v := by
  refine h.to fun f k => ⟨?_, ?_, ?_, ?_, ?_, ?_, ?_, ?_, ?_, ?_, ?_, ?_, ?_, ?_, ?_, ?_, ?_, fun j x hx => ?_, fun j x hx => ?_, k.ok⟩
  all_goals first | exact upd_same _ _ _ | (have hb := k.ok.bl; have hj : j < s.B.length := (List.getElem?_eq_some_iff.1 hx).1; rw [upd_ne _ _ (by omega)]; exact k.bk j x hx) | (have hb := k.ok.kl; have hj : j < s.K.length := (List.getElem?_eq_some_iff.1 hx).1; rw [upd_ne _ _ (by omega)]; exact k.kp j x hx) | (rw [upd_ne _ _ (by omega)]; first | exact k.c0 | exact k.c1 | exact k.c514 | exact k.c515 | exact k.c1540 | exact k.c1541 | exact k.c1542 | exact k.c1543 | exact k.c1544 | exact k.c1545 | exact k.c1546 | exact k.c1547 | exact k.c1549 | exact k.c1550 | exact k.c1551 | exact k.c1552)
theorem Wm.sB (h : Wm w W s v) (p x : Nat) (hp : p < 512) (hx : x < 256) : Wm (w.setCell ⟨W, 2 + p, none⟩ (.int .u8 (x : Int))) W { s with B := s.B.set p x } v := by
  refine h.to fun f k => ⟨?_, ?_, ?_, ?_, ?_, ?_, ?_, ?_, ?_, ?_, ?_, ?_, ?_, ?_, ?_, ?_, ?_, fun j y hy => ?_, fun j y hy => ?_, ⟨by simp [k.ok.bl], k.ok.bo.set _ hx, k.ok.kl, k.ok.ko, k.ok.ps, k.ok.wh, k.ok.us, k.ok.lf, k.ok.ln, k.ok.cm⟩⟩
  all_goals first | (rw [upd_ne _ _ (by omega)]; first | exact k.c0 | exact k.c1 | exact k.c514 | exact k.c515 | exact k.c1540 | exact k.c1541 | exact k.c1542 | exact k.c1543 | exact k.c1544 | exact k.c1545 | exact k.c1546 | exact k.c1547 | exact k.c1548 | exact k.c1549 | exact k.c1550 | exact k.c1551 | exact k.c1552) | skip
  · by_cases e : j = p
    · subst e
      rw [upd_same]
      have hb := k.ok.bl
      rw [List.getElem?_set_self (by omega)] at hy
      simp only [Option.some.injEq] at hy
      rw [hy]
    · rw [upd_ne _ _ (by omega)]
      rw [List.getElem?_set_ne (Ne.symm e)] at hy
      exact k.bk j y hy
  · rw [upd_ne _ _ (by omega)]
    exact k.kp j y hy
theorem Wm.sK (h : Wm w W s v) (p x : Nat) (hp : p < 1024) (hx : x < 256) : Wm (w.setCell ⟨W, 516 + p, none⟩ (.int .u8 (x : Int))) W { s with K := s.K.set p x } v := by
  refine h.to fun f k => ⟨?_, ?_, ?_, ?_, ?_, ?_, ?_, ?_, ?_, ?_, ?_, ?_, ?_, ?_, ?_, ?_, ?_, fun j y hy => ?_, fun j y hy => ?_, ⟨k.ok.bl, k.ok.bo, by simp [k.ok.kl], k.ok.ko.set _ hx, k.ok.ps, k.ok.wh, k.ok.us, k.ok.lf, k.ok.ln, k.ok.cm⟩⟩
  all_goals first | (rw [upd_ne _ _ (by omega)]; first | exact k.c0 | exact k.c1 | exact k.c514 | exact k.c515 | exact k.c1540 | exact k.c1541 | exact k.c1542 | exact k.c1543 | exact k.c1544 | exact k.c1545 | exact k.c1546 | exact k.c1547 | exact k.c1548 | exact k.c1549 | exact k.c1550 | exact k.c1551 | exact k.c1552) | skip
  · have hb := k.ok.bl
    have hj := (List.getElem?_eq_some_iff.1 hy).1
    have hj2 : j < s.B.length := hj
    rw [upd_ne _ _ (by omega)]
    exact k.bk j y hy
  · by_cases e : j = p
    · subst e
      rw [upd_same]
      have hb := k.ok.kl
      rw [List.getElem?_set_self (by omega)] at hy
      simp only [Option.some.injEq] at hy
      rw [hy]
    · rw [upd_ne _ _ (by omega)]
      rw [List.getElem?_set_ne (Ne.symm e)] at hy
      exact k.kp j y hy
/-- Two cells of one block, one behind the other. -/
theorem Wm.to2 (h : Wm w W s v) {s' : Ts} {v' : Rv} {i j : Nat} {x y : Value} (k : ∀ f, Wf f s v → Wf (upd (upd f i x) j y) s' v') : Wm ((w.setCell ⟨W, i, none⟩ x).setCell ⟨W, j, none⟩ y) W s' v' := by
  obtain ⟨f, hf, hh⟩ := h.ex
  refine ⟨upd (upd f i x) j y, ?_, k f hh⟩
  have := (hf.set i x).set j y
  rwa [cz_set, cz_set] at this
theorem Wm.snm (h : Wm w W s v) (m : List Nat) (ho : Tok { s with nm := some m }) : Wm ((w.setCell ⟨W, 1541, none⟩ (.string (st m))).setCell ⟨W, 1542, none⟩ (.bool true)) W { s with nm := some m } v := by
  refine h.to2 fun f k => ⟨?_, ?_, ?_, ?_, ?_, ?_, ?_, ?_, ?_, ?_, ?_, ?_, ?_, ?_, ?_, ?_, ?_, fun j x hx => ?_, fun j x hx => ?_, ho⟩
  all_goals first | exact upd_same _ _ _ | (rw [upd_ne _ _ (by omega)]; exact upd_same _ _ _) | (have hb := k.ok.bl; have hj : j < s.B.length := (List.getElem?_eq_some_iff.1 hx).1; rw [upd_ne _ _ (by omega), upd_ne _ _ (by omega)]; exact k.bk j x hx) | (have hb := k.ok.kl; have hj : j < s.K.length := (List.getElem?_eq_some_iff.1 hx).1; rw [upd_ne _ _ (by omega), upd_ne _ _ (by omega)]; exact k.kp j x hx) | (rw [upd_ne _ _ (by omega), upd_ne _ _ (by omega)]; first | exact k.c0 | exact k.c1 | exact k.c514 | exact k.c515 | exact k.c1540 | exact k.c1543 | exact k.c1544 | exact k.c1545 | exact k.c1546 | exact k.c1547 | exact k.c1548 | exact k.c1549 | exact k.c1550 | exact k.c1551 | exact k.c1552)
theorem Wm.ssz (h : Wm w W s v) (m : Nat) (ho : Tok { s with sz := some m }) : Wm ((w.setCell ⟨W, 1543, none⟩ (.int .u64 (m : Int))).setCell ⟨W, 1544, none⟩ (.bool true)) W { s with sz := some m } v := by
  refine h.to2 fun f k => ⟨?_, ?_, ?_, ?_, ?_, ?_, ?_, ?_, ?_, ?_, ?_, ?_, ?_, ?_, ?_, ?_, ?_, fun j x hx => ?_, fun j x hx => ?_, ho⟩
  all_goals first | exact upd_same _ _ _ | (rw [upd_ne _ _ (by omega)]; exact upd_same _ _ _) | (have hb := k.ok.bl; have hj : j < s.B.length := (List.getElem?_eq_some_iff.1 hx).1; rw [upd_ne _ _ (by omega), upd_ne _ _ (by omega)]; exact k.bk j x hx) | (have hb := k.ok.kl; have hj : j < s.K.length := (List.getElem?_eq_some_iff.1 hx).1; rw [upd_ne _ _ (by omega), upd_ne _ _ (by omega)]; exact k.kp j x hx) | (rw [upd_ne _ _ (by omega), upd_ne _ _ (by omega)]; first | exact k.c0 | exact k.c1 | exact k.c514 | exact k.c515 | exact k.c1540 | exact k.c1541 | exact k.c1542 | exact k.c1545 | exact k.c1546 | exact k.c1547 | exact k.c1548 | exact k.c1549 | exact k.c1550 | exact k.c1551 | exact k.c1552)
theorem Wm.snn (h : Wm w W s v) (ho : Tok { s with nm := none }) : Wm ((w.setCell ⟨W, 1541, none⟩ (.string ⟨#[]⟩)).setCell ⟨W, 1542, none⟩ (.bool false)) W { s with nm := none } v := by
  refine h.to2 fun f k => ⟨?_, ?_, ?_, ?_, ?_, ?_, ?_, ?_, ?_, ?_, ?_, ?_, ?_, ?_, ?_, ?_, ?_, fun j x hx => ?_, fun j x hx => ?_, ho⟩
  all_goals first | exact upd_same _ _ _ | (rw [upd_ne _ _ (by omega)]; exact upd_same _ _ _) | (have hb := k.ok.bl; have hj : j < s.B.length := (List.getElem?_eq_some_iff.1 hx).1; rw [upd_ne _ _ (by omega), upd_ne _ _ (by omega)]; exact k.bk j x hx) | (have hb := k.ok.kl; have hj : j < s.K.length := (List.getElem?_eq_some_iff.1 hx).1; rw [upd_ne _ _ (by omega), upd_ne _ _ (by omega)]; exact k.kp j x hx) | (rw [upd_ne _ _ (by omega), upd_ne _ _ (by omega)]; first | exact k.c0 | exact k.c1 | exact k.c514 | exact k.c515 | exact k.c1540 | exact k.c1543 | exact k.c1544 | exact k.c1545 | exact k.c1546 | exact k.c1547 | exact k.c1548 | exact k.c1549 | exact k.c1550 | exact k.c1551 | exact k.c1552)
theorem Wm.ssn (h : Wm w W s v) (ho : Tok { s with sz := none }) : Wm ((w.setCell ⟨W, 1543, none⟩ (.int .u64 0)).setCell ⟨W, 1544, none⟩ (.bool false)) W { s with sz := none } v := by
  refine h.to2 fun f k => ⟨?_, ?_, ?_, ?_, ?_, ?_, ?_, ?_, ?_, ?_, ?_, ?_, ?_, ?_, ?_, ?_, ?_, fun j x hx => ?_, fun j x hx => ?_, ho⟩
  all_goals first | exact upd_same _ _ _ | (rw [upd_ne _ _ (by omega)]; exact upd_same _ _ _) | (have hb := k.ok.bl; have hj : j < s.B.length := (List.getElem?_eq_some_iff.1 hx).1; rw [upd_ne _ _ (by omega), upd_ne _ _ (by omega)]; exact k.bk j x hx) | (have hb := k.ok.kl; have hj : j < s.K.length := (List.getElem?_eq_some_iff.1 hx).1; rw [upd_ne _ _ (by omega), upd_ne _ _ (by omega)]; exact k.kp j x hx) | (rw [upd_ne _ _ (by omega), upd_ne _ _ (by omega)]; first | exact k.c0 | exact k.c1 | exact k.c514 | exact k.c515 | exact k.c1540 | exact k.c1541 | exact k.c1542 | exact k.c1545 | exact k.c1546 | exact k.c1547 | exact k.c1548 | exact k.c1549 | exact k.c1550 | exact k.c1551 | exact k.c1552)
theorem Wm.sul (h : Wm w W s v) (m q : Nat) (ho : Tok { s with us := m, lf := q }) : Wm ((w.setCell ⟨W, 514, none⟩ (.int .i64 (m : Int))).setCell ⟨W, 515, none⟩ (.int .u64 (q : Int))) W { s with us := m, lf := q } v := by
  refine h.to2 fun f k => ⟨?_, ?_, ?_, ?_, ?_, ?_, ?_, ?_, ?_, ?_, ?_, ?_, ?_, ?_, ?_, ?_, ?_, fun j x hx => ?_, fun j x hx => ?_, ho⟩
  all_goals first | exact upd_same _ _ _ | (rw [upd_ne _ _ (by omega)]; exact upd_same _ _ _) | (have hb := k.ok.bl; have hj : j < s.B.length := (List.getElem?_eq_some_iff.1 hx).1; rw [upd_ne _ _ (by omega), upd_ne _ _ (by omega)]; exact k.bk j x hx) | (have hb := k.ok.kl; have hj : j < s.K.length := (List.getElem?_eq_some_iff.1 hx).1; rw [upd_ne _ _ (by omega), upd_ne _ _ (by omega)]; exact k.kp j x hx) | (rw [upd_ne _ _ (by omega), upd_ne _ _ (by omega)]; first | exact k.c0 | exact k.c1 | exact k.c1540 | exact k.c1541 | exact k.c1542 | exact k.c1543 | exact k.c1544 | exact k.c1545 | exact k.c1546 | exact k.c1547 | exact k.c1548 | exact k.c1549 | exact k.c1550 | exact k.c1551 | exact k.c1552)
end
end Go.Proofs.YtcmmjbkgoafbnaaGreatDoor

/-
  Own texts of this seat, one behind the other: what each says stands ahead of it.
-/
import Derived.Test.YtogednaamndpgaaGreatDoorMk
import Derived.Test.YtogednaamndpgaaGreatDoorMe
import Derived.Test.YtogednaamndpgaaGreatDoorMj
import Derived.Test.YtogednaamndpgaaGreatDoorMh
import Derived.Test.YtogednaamndpgaaGreatDoorMs
import Derived.OwnWalk
import Derived.BigQuiet
import Derived.BigRegion
/-
 The walker in memory: its sixteen cells; what its small calls come to.
-/
namespace Go.Proofs.YtogednaamndpgaaGreatDoor
open Go.RowKit
set_option linter.unusedVariables false
structure Gc where
 nx : Nat
 fl : Nat
 nl : Nat
 lf : Nat
 nb : Nat
 sm : Nat
 gv : Nat
 ev : Option Evn
 wh : Bool
 en : Bool
 why : Nat
def ev0 : Option Evn → Int
 | none => 0
 | some e => gk1 e.1
def ev1 : Option Evn → Int
 | none => 0
 | some e => gk2 e.1
def ev2 : Option Evn → Int
 | none => 0
 | some e => gk3 e.1
def ev4 : Option Evn → List Nat
 | none => []
 | some e => e.2
def wcs (W D A : Nat) (c : Gc) : Array Value := #[.pointer (some ⟨D, 0, none⟩), fnv W c.nx, .int .u8 (c.fl : Int), .slice (some ⟨A, 0, none⟩) c.nl 256, .int .i64 (c.lf : Int), .int .u32 (c.nb : Int), .int .u32 (c.sm : Int), .int .u32 (c.gv : Int), .int .i64 (ev0 c.ev), .int .u8 (ev1 c.ev), .int .i64 (ev2 c.ev), .int .i64 0, .string (st (ev4 c.ev)), .bool c.wh, .bool c.en, .int .i64 (c.why : Int)]
abbrev Wc (w : World) (W D A : Nat) (c : Gc) : Prop := Cells w W (wcs W D A c) 65
section
variable {w u : World} {W D A : Nat} {c : Gc}
theorem Wc.a0 (h : Wc w W D A c) : w.cell? ⟨W, 0, none⟩ = some (.pointer (some ⟨D, 0, none⟩)) := (Cells.cell h 0).trans rfl
theorem Wc.a1 (h : Wc w W D A c) : w.cell? ⟨W, 1, none⟩ = some (fnv W c.nx) := (Cells.cell h 1).trans rfl
theorem Wc.a2 (h : Wc w W D A c) : w.cell? ⟨W, 2, none⟩ = some (.int .u8 (c.fl : Int)) := (Cells.cell h 2).trans rfl
theorem Wc.a3 (h : Wc w W D A c) : w.cell? ⟨W, 3, none⟩ = some (.slice (some ⟨A, 0, none⟩) c.nl 256) := (Cells.cell h 3).trans rfl
theorem Wc.a4 (h : Wc w W D A c) : w.cell? ⟨W, 4, none⟩ = some (.int .i64 (c.lf : Int)) := (Cells.cell h 4).trans rfl
theorem Wc.a5 (h : Wc w W D A c) : w.cell? ⟨W, 5, none⟩ = some (.int .u32 (c.nb : Int)) := (Cells.cell h 5).trans rfl
theorem Wc.a6 (h : Wc w W D A c) : w.cell? ⟨W, 6, none⟩ = some (.int .u32 (c.sm : Int)) := (Cells.cell h 6).trans rfl
theorem Wc.a7 (h : Wc w W D A c) : w.cell? ⟨W, 7, none⟩ = some (.int .u32 (c.gv : Int)) := (Cells.cell h 7).trans rfl
theorem Wc.a8 (h : Wc w W D A c) : w.cell? ⟨W, 8, none⟩ = some (.int .i64 (ev0 c.ev)) := (Cells.cell h 8).trans rfl
theorem Wc.a9 (h : Wc w W D A c) : w.cell? ⟨W, 9, none⟩ = some (.int .u8 (ev1 c.ev)) := (Cells.cell h 9).trans rfl
theorem Wc.a10 (h : Wc w W D A c) : w.cell? ⟨W, 10, none⟩ = some (.int .i64 (ev2 c.ev)) := (Cells.cell h 10).trans rfl
theorem Wc.a11 (h : Wc w W D A c) : w.cell? ⟨W, 11, none⟩ = some (.int .i64 0) := (Cells.cell h 11).trans rfl
theorem Wc.a12 (h : Wc w W D A c) : w.cell? ⟨W, 12, none⟩ = some (.string (st (ev4 c.ev))) := (Cells.cell h 12).trans rfl
theorem Wc.a13 (h : Wc w W D A c) : w.cell? ⟨W, 13, none⟩ = some (.bool c.wh) := (Cells.cell h 13).trans rfl
theorem Wc.a14 (h : Wc w W D A c) : w.cell? ⟨W, 14, none⟩ = some (.bool c.en) := (Cells.cell h 14).trans rfl
theorem Wc.a15 (h : Wc w W D A c) : w.cell? ⟨W, 15, none⟩ = some (.int .i64 (c.why : Int)) := (Cells.cell h 15).trans rfl
theorem Wc.fz (h : Wc w W D A c) (i : Nat) : w.frozen? ⟨W, i, none⟩ = false := Cells.frozen h i
theorem Wc.s1 (h : Wc w W D A c) (k : Nat) : Wc (w.setCell ⟨W, 1, none⟩ (fnv W k)) W D A { c with nx := k } := Cells.set h 1 _
theorem Wc.s2 (h : Wc w W D A c) (k : Nat) : Wc (w.setCell ⟨W, 2, none⟩ (.int .u8 (k : Int))) W D A { c with fl := k } := Cells.set h 2 _
theorem Wc.s3 (h : Wc w W D A c) (k : Nat) : Wc (w.setCell ⟨W, 3, none⟩ (.slice (some ⟨A, 0, none⟩) k 256)) W D A { c with nl := k } := Cells.set h 3 _
theorem Wc.s4 (h : Wc w W D A c) (k : Nat) : Wc (w.setCell ⟨W, 4, none⟩ (.int .i64 (k : Int))) W D A { c with lf := k } := Cells.set h 4 _
theorem Wc.s5 (h : Wc w W D A c) (k : Nat) : Wc (w.setCell ⟨W, 5, none⟩ (.int .u32 (k : Int))) W D A { c with nb := k } := Cells.set h 5 _
theorem Wc.s6 (h : Wc w W D A c) (k : Nat) : Wc (w.setCell ⟨W, 6, none⟩ (.int .u32 (k : Int))) W D A { c with sm := k } := Cells.set h 6 _
theorem Wc.s7 (h : Wc w W D A c) (k : Nat) : Wc (w.setCell ⟨W, 7, none⟩ (.int .u32 (k : Int))) W D A { c with gv := k } := Cells.set h 7 _
theorem Wc.s13 (h : Wc w W D A c) (k : Bool) : Wc (w.setCell ⟨W, 13, none⟩ (.bool k)) W D A { c with wh := k } := Cells.set h 13 _
theorem Wc.s14 (h : Wc w W D A c) (k : Bool) : Wc (w.setCell ⟨W, 14, none⟩ (.bool k)) W D A { c with en := k } := Cells.set h 14 _
theorem Wc.s15 (h : Wc w W D A c) (k : Nat) : Wc (w.setCell ⟨W, 15, none⟩ (.int .i64 (k : Int))) W D A { c with why := k } := Cells.set h 15 _
end
section
variable {W D A : Nat} {c : Gc}
theorem then_c (k n : Nat) (w : World) (h : Wc w W D A c) : Calls Tryz.prog 46 #[.pointer (some ⟨W, 0, none⟩), fnv W k, .int .i64 (n : Int)] w fun e w' => e = .returned (.tuple #[]) ∧ Wc w' W D A { c with nx := k, lf := n } ∧ Only W w w' := by
 have c1 := h.a1
 have z1 := h.fz 1
 have c2 := (h.s1 k).a4
 have z2 := (h.s1 k).fz 4
 have AF : Aside (Wc ((w.setCell ⟨W, 1, none⟩ (fnv W k)).setCell ⟨W, 4, none⟩ (.int .i64 (n : Int))) W D A { c with nx := k, lf := n }) := (h.s1 k).s4 n
 clear h
 unfold fnv at *
 go_enter Tryz.func46, Tryz.ntmps46
 go_wp2_with fail
 first | go_end0 | (refine bodyPost_ret (results_none rfl _ _ _) rfl ?_)
 exact ⟨rfl, AF.out, ((Only.refl W w).setCell 1 _).setCell 4 _⟩
theorem cnt_c (x : Nat) (hx : x < 256) (w : World) (hT : Ctab w) (h : Wc w W D A c) (hs : c.sm < 4294967296) : Calls Tryz.prog 72 #[.pointer (some ⟨W, 0, none⟩), .int .u8 (x : Int)] w fun e w' => e = .returned (.tuple #[]) ∧ Wc w' W D A { c with sm := stp c.sm x } ∧ Only W w w' := by
 have c1 := h.a6
 have z1 := h.fz 6
 have hst := step_c c.sm x hs hx w hT
 have AF : Aside (Wc (w.setCell ⟨W, 6, none⟩ (.int .u32 (stp c.sm x : Nat))) W D A { c with sm := stp c.sm x }) := h.s6 _
 clear h hs
 go_enter Tryz.func72, Tryz.ntmps72
 go_wp2_with (go_at_call 44; refine hst.mono ?_; rintro e2 w2 ⟨rfl, rfl⟩)
 first | go_end0 | (refine bodyPost_ret (results_none rfl _ _ _) rfl ?_)
 exact ⟨rfl, AF.out, (Only.refl W w).setCell 6 _⟩
theorem stopw_c (n : Nat) (w : World) (h : Wc w W D A c) : Calls Tryz.prog 117 #[.pointer (some ⟨W, 0, none⟩), .int .u8 (n : Int)] w fun e w' => e = .returned (.tuple #[]) ∧ Wc w' W D A (if n = 0 then c else { c with why := 47 }) ∧ Only W w w' := by
 have c1 := h.a15
 have z1 := h.fz 15
 by_cases h0 : n = 0
 ·subst h0
  rw [if_pos rfl]
  have AF : Aside (Wc w W D A c) := h
  clear h
  go_enter Tryz.func117, Tryz.ntmps117
  go_wp2_with fail
  first | go_end0 | (refine bodyPost_ret (results_none rfl _ _ _) rfl ?_)
  exact ⟨rfl, AF.out, Only.refl W w⟩
 ·rw [if_neg h0]
  have t : ((n : Int) == 0) = false := by rw [beq_eq_false_iff_ne]; omega
  have AF : Aside (Wc (w.setCell ⟨W, 15, none⟩ (.int .i64 47)) W D A { c with why := 47 }) := h.s15 47
  clear h h0
  go_enter Tryz.func117, Tryz.ntmps117
  go_wp2_with fail
  first | go_end0 | (refine bodyPost_ret (results_none rfl _ _ _) rfl ?_)
  exact ⟨rfl, AF.out, (Only.refl W w).setCell 15 _⟩
end
end Go.Proofs.YtogednaamndpgaaGreatDoor

/-
 The walker's small calls.
-/
namespace Go.Proofs.YtogednaamndpgaaGreatDoor
open Go.RowKit
set_option linter.unusedVariables false
theorem or_top (a x : Nat) (ha : a < 16777216) (hx : x < 256) : bits .or .u32 (a : Int) ((x : Int) * 16777216) = ((a + x * 16777216 : Nat) : Int) := by
 have e : (x : Int) * 16777216 = ((x * 16777216 : Nat) : Int) := by omega
 rw [e, u32_or_nat _ _ (by omega) (by omega)]
 congr 1
 have := Nat.two_pow_add_eq_or_of_lt (i := 24) (b := a) (by omega) x
 rw [Nat.or_comm, Nat.mul_comm x, show (16777216 : Nat) = 2 ^ 24 from rfl, ← this]
 omega
section
variable {W D A : Nat} {c : Gc}
theorem gather_c (x : Nat) (hx : x < 256) (w : World) (h : Wc w W D A c) (hb : c.nb < 4294967296) (hl : 1 ≤ c.lf) (hl2 : c.lf < 1000000) : Calls Tryz.prog 76 #[.pointer (some ⟨W, 0, none⟩), .int .u8 (x : Int)] w fun e w' => e = .returned (.bool (decide (c.lf - 1 = 0))) ∧ Wc w' W D A { c with nb := c.nb / 256 + x * 16777216, lf := c.lf - 1 } ∧ Only W w w' := by
 have c1 := h.a5
 have z1 := h.fz 5
 have c2 := h.a4
 have z2 := h.fz 4
 have AH : Aside (Wc ((w.setCell ⟨W, 5, none⟩ (.int .u32 ((c.nb / 256 + x * 16777216 : Nat) : Int))).setCell ⟨W, 4, none⟩ (.int .i64 ((c.lf - 1 : Nat) : Int))) W D A { c with nb := c.nb / 256 + x * 16777216, lf := c.lf - 1 }) := (h.s5 _).s4 _
 have hor := or_top (c.nb / 256) x (by omega) hx
 obtain ⟨nb, hnb⟩ : ∃ nb, c.nb = nb := ⟨_, rfl⟩
 obtain ⟨lf, hlf⟩ : ∃ lf, c.lf = lf := ⟨_, rfl⟩
 obtain ⟨m, hm⟩ : ∃ m, c.nb / 256 + x * 16777216 = m := ⟨_, rfl⟩
 obtain ⟨l2, hl3⟩ : ∃ l2, c.lf - 1 = l2 := ⟨_, rfl⟩
 rw [hm, hl3] at AH ⊢
 rw [hm] at hor
 rw [hlf] at c2 hl3 hl hl2
 rw [hnb] at c1 hor
 have hor2 : bits BinOp.or IntKind.u32 ((nb : Int) / 256) ((x : Int) * 16777216) = (m : Int) := by
  have e : ((nb / 256 : Nat) : Int) = (nb : Int) / 256 := by omega
  rw [← hor, e]
 have hdec : (lf : Int) - 1 = (l2 : Int) := by omega
 have hb0 : ((l2 : Int) == 0) = decide (l2 = 0) := by
  by_cases h0 : l2 = 0
  ·subst h0; rfl
  ·rw [decide_eq_false h0, beq_eq_false_iff_ne]; omega
 clear h hm hl3 hnb hlf hor hb
 go_enter Tryz.func76, Tryz.ntmps76
 go_wp2_with fail
 first | go_ret | go_ret2
 exact ⟨rfl, AH.out, ((Only.refl W w).setCell 5 _).setCell 4 _⟩
theorem half_c (w : World) (h : Wc w W D A c) : Calls Tryz.prog 139 #[.pointer (some ⟨W, 0, none⟩)] w fun e w' => e = .returned (.int .u32 ((c.nb / 65536 : Nat) : Int)) ∧ w = w' := by
 have c1 := h.a5
 have e : ((c.nb / 65536 : Nat) : Int) = (c.nb : Int) / 65536 := by omega
 rw [e]
 clear h e
 go_enter Tryz.func139, Tryz.ntmps139
 go_wp2_with fail
 first | go_ret | go_ret2
 exact ⟨rfl, rfl⟩
theorem asked_c (f v : Nat) (hv : f < 256) (t : Bool) (e1 : bits .and .u8 (f : Int) (v : Int) = 0 ∧ t = false ∨ bits .and .u8 (f : Int) (v : Int) ≠ 0 ∧ t = true) (f2 : Nat) (e2 : bits .andNot .u8 (f : Int) (v : Int) = (f2 : Int)) (w : World) (h : Wc w W D A c) (hf : c.fl = f) : Calls Tryz.prog 132 #[.pointer (some ⟨W, 0, none⟩), .int .u8 (v : Int)] w fun e w' => e = .returned (.bool t) ∧ Wc w' W D A { c with fl := f2 } ∧ Only W w w' := by
 have c1 := h.a2
 have z1 := h.fz 2
 rw [hf] at c1
 have AF : Aside (Wc (w.setCell ⟨W, 2, none⟩ (.int .u8 (f2 : Int))) W D A { c with fl := f2 }) := h.s2 f2
 clear h hf
 obtain ⟨m, hm⟩ : ∃ m, bits .and .u8 (f : Int) (v : Int) = m := ⟨_, rfl⟩
 rw [hm] at e1
 have e3 : (m != 0) = t := by
  rcases e1 with ⟨a, b⟩ | ⟨a, b⟩
  ·subst a; subst b; rfl
  ·subst b; simp [bne, a]
 clear e1
 go_enter Tryz.func132, Tryz.ntmps132
 go_wp2_with fail
 first | go_ret | go_ret2
 exact ⟨rfl, AF.out, (Only.refl W w).setCell 2 _⟩
end
end Go.Proofs.YtogednaamndpgaaGreatDoor

/-
 The walker with its name and its inflater in memory; what may turn while it works. No walk.
-/
namespace Go.Proofs.YtogednaamndpgaaGreatDoor
open Go.RowKit
set_option linter.unusedVariables false
structure Wg (lo hi B W A : Nat) : Prop where
 l8 : 8 ≤ lo
 lB : lo ≤ B
 hB : B + 4 ≤ hi
 lW : lo ≤ W
 hW : W < hi
 lA : lo ≤ A
 hA : A < hi
 WA : W ≠ A
 WB : W < B ∨ B + 4 ≤ W
 AB : A < B ∨ B + 4 ≤ A
structure Fw (lo hi : Nat) (w u : World) : Prop where
 os : u.os = w.os
 tape : u.tape = w.tape
 output : u.output = w.output
 size : w.heap.size ≤ u.heap.size
 block : ∀ k, k < w.heap.size → (k < lo ∨ hi ≤ k) → u.heap[k]? = w.heap[k]?
section
variable {lo hi B W A : Nat} {w u v : World}
theorem Fw.refl (lo hi : Nat) (w : World) : Fw lo hi w w := ⟨rfl, rfl, rfl, Nat.le_refl _, fun _ _ _ => rfl⟩
theorem Fw.trans (h : Fw lo hi w u) (k : Fw lo hi u v) : Fw lo hi w v := ⟨k.os.trans h.os, k.tape.trans h.tape, k.output.trans h.output, Nat.le_trans h.size k.size, fun i hi hk => (k.block i (Nat.lt_of_lt_of_le hi h.size) hk).trans (h.block i hi hk)⟩
theorem Fw.of_only {c : Nat} (h : Only c w u) (h1 : lo ≤ c) (h2 : c < hi) : Fw lo hi w u := ⟨h.os, h.tape, h.output, Nat.le_of_eq h.size.symm, fun k _ hk => h.block k (by omega)⟩
theorem Fw.of_fm (h : Fm B w u) (h1 : lo ≤ B) (h2 : B + 4 ≤ hi) : Fw lo hi w u := ⟨h.os, h.tape, h.output, h.size, fun k hk hh => h.block k hk (by omega)⟩
theorem Fw.of_below {C : Nat} (h : Below C w u) (hC : w.heap.size ≤ C) : Fw lo hi w u := ⟨h.os, h.tape, h.output, h.size, fun k hk _ => h.block k (by omega)⟩
theorem Fw.below (h : Fw lo hi w u) (hl : lo ≤ w.heap.size) : Below lo w u := ⟨h.os, h.tape, h.output, h.size, fun k hk => h.block k (by omega) (Or.inl hk)⟩
end
def Nm (w : World) (A : Nat) (n : List Nat) : Prop := n.length ≤ 256 ∧ ∃ cur : Array Value, Cells w A cur 5 ∧ cur.size = 256 ∧ cur.toList.take n.length = ob n
section
variable {w u : World} {A : Nat} {n : List Nat}
theorem Nm.keep (h : Nm w A n) (e : u.heap[A]? = w.heap[A]?) : Nm u A n := by
 obtain ⟨h0, cur, h1, h2, h3⟩ := h
 exact ⟨h0, cur, by unfold Cells at *; rw [e]; exact h1, h2, h3⟩
theorem Nm.none_ (h : Nm w A n) : Nm w A [] := by
 obtain ⟨h0, cur, h1, h2, h3⟩ := h
 exact ⟨Nat.zero_le _, cur, h1, h2, rfl⟩
theorem Nm.own (h : Nm w A n) : w.ownsRow A 5 1 (.slice (some ⟨A, 0, none⟩) n.length 256) n.length (ob n) := by
 obtain ⟨h0, cur, h1, h2, h3⟩ := h
 exact ⟨by rw [ob_length]; omega, Or.inr ⟨A, 256, cur, rfl, Nat.le_refl _, h1, h0, by decide, by omega, by rw [Nat.mul_one]; exact h3⟩⟩
theorem Nm.of_own (h : w.ownsRow A 5 1 (.slice (some ⟨A, 0, none⟩) n.length 256) n.length (ob n)) : Nm w A n := by
 rcases h.2 with ⟨q, _⟩ | ⟨g, c, cur, q, _, hh, hc, hm, hs, ht⟩
 ·cases q
 ·cases q
  exact ⟨hc, cur, hh, by omega, by rw [Nat.mul_one] at ht; exact ht⟩
theorem Nm.lies (h : Nm w A n) : Lies w (some ⟨A, 0, none⟩) n := by
 obtain ⟨h0, cur, h1, h2, h3⟩ := h
 refine Or.inr ⟨A, 0, rfl, fun i x hx => ?_⟩
 have hi : i < n.length := (List.getElem?_eq_some_iff.1 hx).1
 rw [Nat.zero_add, h1.cell]
 have e : (cur.toList.take n.length)[i]? = some (.int .u8 (x : Int)) := by rw [h3, ob_get, hx]; rfl
 rw [List.getElem?_take, if_pos hi] at e
 simpa using e
theorem Nm.lt (h : Nm w A n) : A < w.heap.size := by obtain ⟨_, cur, h1, _⟩ := h; exact h1.lt
end
structure Wk (w : World) (lo hi B D b R W A : Nat) (c : Gc) (n I : List Nat) (cf : Cfg) (q : Md) : Prop where
 g : Wg lo hi B W A
 wc : Wc w W D A c
 nl : c.nl = n.length
 nm : Nm w A n
 inf : Inf w B D b R I MM cf q
 tab : Ctab w
 hs : hi ≤ w.heap.size
section
variable {w u : World} {lo hi B D b R W A : Nat} {c c' : Gc} {n n' I : List Nat} {cf : Cfg} {q : Md}
theorem Wk.drewN (h : Wk w lo hi B D b R W A c n I cf q) (m : Nat) : Wk (w.drewN m) lo hi B D b R W A c n I cf q := ⟨h.g, h.wc, h.nl, h.nm, h.inf.kq ⟨Nat.le_refl _, fun k _ => Or.inl rfl⟩, h.tab, h.hs⟩
theorem Wk.set (h : Wk w lo hi B D b R W A c n I cf q) (o : Only W w u) (hc : Wc u W D A c') (hn : c'.nl = c.nl) : Wk u lo hi B D b R W A c' n I cf q := by
 have g := h.g
 have hk : Kq B w u := ⟨Nat.le_of_eq o.size.symm, fun k hk => by
  by_cases e : k = W
  ·subst e
   exact Or.inr ⟨by have := g.l8; have := g.lW; omega, g.WB, _, 65, _, h.wc, Or.inr (Or.inl rfl)⟩
  ·exact Or.inl (o.block k e)⟩
 exact ⟨g, hc, hn.trans h.nl, h.nm.keep (o.block A (fun e => g.WA e.symm)), h.inf.kq hk, h.tab.kq hk, by rw [o.size]; exact h.hs⟩
theorem Wk.fw (h : Wk w lo hi B D b R W A c n I cf q) (o : Only W w u) : Fw lo hi w u := Fw.of_only o h.g.lW h.g.hW
theorem Wk.out (h : Wk w lo hi B D b R W A c n I cf q) (k : Below hi w u) (ht : ∀ i, i < w.heap.size → u.heap[i]? = w.heap[i]? ∨ ∃ cs ty fr, w.heap[i]? = some (.cells cs ty fr) ∧ (ty = 5 ∨ ty = 22 ∨ ty = 43)) : Wk u lo hi B D b R W A c n I cf q := by
 have g := h.g
 have hk : Kq B w u := ⟨k.size, fun i hi' => by
  by_cases e : i < hi
  ·exact Or.inl (k.block i e)
  ·rcases ht i hi' with e1 | ⟨cs, ty, fr, e1, e2⟩
   ·exact Or.inl e1
   ·exact Or.inr ⟨by have := g.l8; have := g.lW; have := g.hW; omega, Or.inr (by have := g.hB; omega), cs, ty, fr, e1, by rcases e2 with e2 | e2 | e2 <;> simp [e2]⟩⟩
 exact ⟨g, Cells.below h.wc k g.hW, h.nl, h.nm.keep (k.block A g.hA), h.inf.kq hk, h.tab.kq hk, Nat.le_trans h.hs k.size⟩
theorem Wk.below {C : Nat} (h : Wk w lo hi B D b R W A c n I cf q) (k : Below C w u) (hC : w.heap.size ≤ C) : Wk u lo hi B D b R W A c n I cf q := by
 have := h.hs
 exact h.out ⟨k.os, k.tape, k.output, k.size, fun i hi' => k.block i (by omega)⟩ fun i hi' => Or.inl (k.block i (by omega))
theorem Wk.fm {I' : List Nat} {cf' : Cfg} {q' : Md} (h : Wk w lo hi B D b R W A c n I cf q) (k : Fm B w u) (hi' : Inf u B D b R I' MM cf' q') : Wk u lo hi B D b R W A c n I' cf' q' := by
 have g := h.g
 have hs := h.hs
 have e1 : u.heap[W]? = w.heap[W]? := k.block W (by have := g.hW; omega) (by have := g.WB; omega)
 have e2 : u.heap[A]? = w.heap[A]? := k.block A (by have := g.hA; omega) (by have := g.AB; omega)
 have e0 : u.heap[0]? = w.heap[0]? := k.block 0 h.tab.lt (by have := g.l8; have := g.lB; omega)
 refine ⟨g, ?_, h.nl, h.nm.keep e2, hi', fun i hi => (World.cell?_of_block (w := w) e0).trans (h.tab i hi), Nat.le_trans hs k.size⟩
 have := h.wc
 unfold Wc Cells at *
 rw [e1]
 exact this
theorem Wk.ffm (h : Wk w lo hi B D b R W A c n I cf q) (k : Fm B w u) : Fw lo hi w u := Fw.of_fm k h.g.lB h.g.hB
theorem Wk.name (h : Wk w lo hi B D b R W A c n I cf q) (k : w.grownBy u (some A)) (hn : Nm u A n') (c' : Gc) (hc : c' = { c with nl := n'.length }) : ∃ v, Wc u W D A c ∧ v = Value.slice (some ⟨A, 0, none⟩) n'.length 256 ∧ ∀ x, Only W u x → Wc x W D A c' → Wk x lo hi B D b R W A c' n' I cf q := by
 have g := h.g
 have hlt := h.nm.lt
 have hk : Kq B w u := ⟨k.size, fun i hi' => by
  by_cases e : i = A
  ·subst e
   obtain ⟨_, cur, h1, _⟩ := h.nm
   exact Or.inr ⟨by have := g.l8; have := g.lA; omega, g.AB, cur, 5, _, h1, Or.inl rfl⟩
  ·exact Or.inl (k.block i hi' (fun q => e (Option.some.inj q)))⟩
 have e1 : u.heap[W]? = w.heap[W]? := k.block W (by have := g.hW; have := h.hs; omega) (fun q => g.WA (Option.some.inj q))
 have hwc : Wc u W D A c := by
  have := h.wc
  unfold Wc Cells at *
  rw [e1]
  exact this
 refine ⟨_, hwc, rfl, fun x o hx => ?_⟩
 have hk2 : Kq B u x := ⟨Nat.le_of_eq o.size.symm, fun k hk => by
  by_cases e : k = W
  ·subst e
   exact Or.inr ⟨by have := g.l8; have := g.lW; omega, g.WB, _, 65, _, hwc, Or.inr (Or.inl rfl)⟩
  ·exact Or.inl (o.block k e)⟩
 exact ⟨g, hx, by rw [hc], hn.keep (o.block A (fun e => g.WA e.symm)), (h.inf.kq hk).kq hk2, (h.tab.kq hk).kq hk2, by rw [o.size]; exact Nat.le_trans h.hs k.size⟩
theorem Wk.lift {P : Program} {f : Nat} {args : Array Value} {r : Ending} (h : Wk w lo hi B D b R W A c n I cf q) (k : Calls P f args w fun e w' => e = r ∧ Wc w' W D A c' ∧ Only W w w') (hn : c'.nl = c.nl) : Calls P f args w fun e w' => e = r ∧ Wk w' lo hi B D b R W A c' n I cf q ∧ Fw lo hi w w' :=
 k.mono fun e w' ⟨h1, h2, h3⟩ => ⟨h1, h.set h3 h2 hn, h.fw h3⟩
end
end Go.Proofs.YtogednaamndpgaaGreatDoor

/-
 The walker's steps that may end a member's header: openMember, field, text, nameByte, anything, extraLength, headSum.
-/
namespace Go.Proofs.YtogednaamndpgaaGreatDoor
open Go.RowKit
set_option linter.unusedVariables false
def pfn : Nat → Nat
 | 0 => 29
 | 1 => 73
 | 2 => 102
 | 3 => 116
 | 4 => 127
 | 5 => 133
 | 6 => 134
 | 7 => 135
 | 8 => 136
 | 9 => 141
 | 10 => 47
 | 11 => 77
 | 12 => 103
 | _ => 117
def gcof (s : Gs) (ev : Option Evn) : Gc := ⟨pfn s.nx, s.fl, s.nm.length, s.lf, s.nb, s.sm, s.gv % 4294967296, ev, s.wh, false, s.why⟩
theorem flag4 : ∀ f : _root_.Fin 32, (f.val / 4 % 2 = 1 → bits .and .u8 (f.val : Int) (4 : Nat) ≠ 0 ∧ bits .andNot .u8 (f.val : Int) (4 : Nat) = ((f.val - 4 : Nat) : Int)) ∧ (¬ f.val / 4 % 2 = 1 → bits .and .u8 (f.val : Int) (4 : Nat) = 0 ∧ bits .andNot .u8 (f.val : Int) (4 : Nat) = ((f.val : Nat) : Int)) := by decide +kernel
theorem flag8 : ∀ f : _root_.Fin 32, (f.val / 8 % 2 = 1 → bits .and .u8 (f.val : Int) (8 : Nat) ≠ 0 ∧ bits .andNot .u8 (f.val : Int) (8 : Nat) = ((f.val - 8 : Nat) : Int)) ∧ (¬ f.val / 8 % 2 = 1 → bits .and .u8 (f.val : Int) (8 : Nat) = 0 ∧ bits .andNot .u8 (f.val : Int) (8 : Nat) = ((f.val : Nat) : Int)) := by decide +kernel
theorem flag16 : ∀ f : _root_.Fin 32, (f.val / 16 % 2 = 1 → bits .and .u8 (f.val : Int) (16 : Nat) ≠ 0 ∧ bits .andNot .u8 (f.val : Int) (16 : Nat) = ((f.val - 16 : Nat) : Int)) ∧ (¬ f.val / 16 % 2 = 1 → bits .and .u8 (f.val : Int) (16 : Nat) = 0 ∧ bits .andNot .u8 (f.val : Int) (16 : Nat) = ((f.val : Nat) : Int)) := by decide +kernel
theorem flag2 : ∀ f : _root_.Fin 32, (f.val / 2 % 2 = 1 → bits .and .u8 (f.val : Int) (2 : Nat) ≠ 0 ∧ bits .andNot .u8 (f.val : Int) (2 : Nat) = ((f.val - 2 : Nat) : Int)) ∧ (¬ f.val / 2 % 2 = 1 → bits .and .u8 (f.val : Int) (2 : Nat) = 0 ∧ bits .andNot .u8 (f.val : Int) (2 : Nat) = ((f.val : Nat) : Int)) := by decide +kernel
section
variable {lo hi B D b R W A : Nat} {c : Gc} {n I : List Nat} {cf : Cfg} {q : Md}
theorem Wc.sev {w : World} (h : Wc w W D A c) (e : Option Evn) : Wc (((((w.setCell ⟨W, 8, none⟩ (.int .i64 (ev0 e))).setCell ⟨W, 9, none⟩ (.int .u8 (ev1 e))).setCell ⟨W, 10, none⟩ (.int .i64 (ev2 e))).setCell ⟨W, 11, none⟩ (.int .i64 0)).setCell ⟨W, 12, none⟩ (.string (st (ev4 e)))) W D A { c with ev := e } :=
 ((((Cells.set h 8 _).set 9 _).set 10 _).set 11 _).set 12 _
theorem only5 (W : Nat) (w : World) (a b c d e : Value) : Only W w (((((w.setCell ⟨W, 8, none⟩ a).setCell ⟨W, 9, none⟩ b).setCell ⟨W, 10, none⟩ c).setCell ⟨W, 11, none⟩ d).setCell ⟨W, 12, none⟩ e) := (((((Only.refl W w).setCell 8 _).setCell 9 _).setCell 10 _).setCell 11 _).setCell 12 _
theorem Wk.clear {w : World} (h : Wk w lo hi B D b R W A c n I cf q) : Wk (w.setCell ⟨W, 3, none⟩ (.slice (some ⟨A, 0, none⟩) 0 256)) lo hi B D b R W A { c with nl := 0 } [] I cf q := by
 have o : Only W w (w.setCell ⟨W, 3, none⟩ (.slice (some ⟨A, 0, none⟩) 0 256)) := (Only.refl W w).setCell 3 _
 have h2 : Wk (w.setCell ⟨W, 3, none⟩ (.slice (some ⟨A, 0, none⟩) 0 256)) lo hi B D b R W A { c with nl := 0 } [] I cf q := by
  have g := h.g
  have hk : Kq B w (w.setCell ⟨W, 3, none⟩ (.slice (some ⟨A, 0, none⟩) 0 256)) := ⟨Nat.le_of_eq o.size.symm, fun k hk => by
   by_cases e : k = W
   ·subst e
    exact Or.inr ⟨by have := g.l8; have := g.lW; omega, g.WB, _, 65, _, h.wc, Or.inr (Or.inl rfl)⟩
   ·exact Or.inl (o.block k e)⟩
  exact ⟨g, h.wc.s3 0, rfl, h.nm.none_.keep (o.block A (fun e => g.WA e.symm)), h.inf.kq hk, h.tab.kq hk, by rw [o.size]; exact h.hs⟩
 exact h2
set_option maxHeartbeats 1000000 in
theorem opm_c (w : World) (h : Wk w lo hi B D b R W A c n I cf q) (hon : Oct n) : Calls Tryz.prog 137 #[.pointer (some ⟨W, 0, none⟩)] w fun e w' => e = .returned (.tuple #[]) ∧ Wk w' lo hi B D b R W A { c with ev := some (256, n), nl := 0, sm := 0, gv := 0, nx := 141 } [] [] c0 .want ∧ Fw lo hi w w' := by
 have hcv := conv_st (w := w) n.length 256 rfl hon h.nm.lies
 have c3 := h.wc.a3
 rw [h.nl] at c3
 have c0 := h.wc.a0
 have c8 := h.wc.a8
 have c9 := h.wc.a9
 have c10 := h.wc.a10
 have c11 := h.wc.a11
 have c12 := h.wc.a12
 have z8 := h.wc.fz 8
 have z9 := h.wc.fz 9
 have z10 := h.wc.fz 10
 have z11 := h.wc.fz 11
 have z12 := h.wc.fz 12
 have z3 := h.wc.fz 3
 have h1 := (h.set (only5 W w _ _ _ _ _) (h.wc.sev (some (256, n))) rfl)
 have h2 := h1.clear
 have hr := reset_c _ h2.inf
 have AH : Aside (Wk ((((((w.setCell ⟨W, 8, none⟩ (.int .i64 1)).setCell ⟨W, 9, none⟩ (.int .u8 0)).setCell ⟨W, 10, none⟩ (.int .i64 2)).setCell ⟨W, 11, none⟩ (.int .i64 0)).setCell ⟨W, 12, none⟩ (.string (st n))).setCell ⟨W, 3, none⟩ (.slice (some ⟨A, 0, none⟩) 0 256)) lo hi B D b R W A { c with ev := some (256, n), nl := 0 } [] I cf q ∧ Fw lo hi w ((((((w.setCell ⟨W, 8, none⟩ (.int .i64 1)).setCell ⟨W, 9, none⟩ (.int .u8 0)).setCell ⟨W, 10, none⟩ (.int .i64 2)).setCell ⟨W, 11, none⟩ (.int .i64 0)).setCell ⟨W, 12, none⟩ (.string (st n))).setCell ⟨W, 3, none⟩ (.slice (some ⟨A, 0, none⟩) 0 256))) := ⟨h2, h.fw ((only5 W w _ _ _ _ _).setCell 3 _)⟩
 replace hr : Calls Tryz.prog 140 #[.pointer (some ⟨D, 0, none⟩)] ((((((w.setCell ⟨W, 8, none⟩ (.int .i64 1)).setCell ⟨W, 9, none⟩ (.int .u8 0)).setCell ⟨W, 10, none⟩ (.int .i64 2)).setCell ⟨W, 11, none⟩ (.int .i64 0)).setCell ⟨W, 12, none⟩ (.string (st n))).setCell ⟨W, 3, none⟩ (.slice (some ⟨A, 0, none⟩) 0 256)) _ := hr
 obtain ⟨m, hm⟩ : ∃ m, n.length = m := ⟨_, rfl⟩
 rw [hm] at hcv c3
 clear h h1 h2 hm
 go_enter Tryz.func137, Tryz.ntmps137
 go_upto_region 3 with (go_at_call 140; refine hr.mono ?_; rintro e2 w2 ⟨rfl, hi2, hf2⟩)
 have k2 := AH.out.1.fm hf2 hi2
 have A2 : Aside (Wk w2 lo hi B D b R W A { c with ev := some (256, n), nl := 0 } [] [] Go.Proofs.YtogednaamndpgaaGreatDoor.c0 .want ∧ Fw lo hi w w2) := ⟨k2, AH.out.2.trans (AH.out.1.ffm hf2)⟩
 have d6 := k2.wc.a6
 have d7 := k2.wc.a7
 have d1 := k2.wc.a1
 have y6 := k2.wc.fz 6
 have y7 := k2.wc.fz 7
 have y1 := k2.wc.fz 1
 clear hr hcv c3 c0 c8 c9 c10 c11 c12 z8 z9 z10 z11 z12 z3 k2 AH hi2 hf2
 go_wp2_with fail
 first | go_end0 | (refine bodyPost_ret (results_none rfl _ _ _) rfl ?_)
 have a2 := A2.out
 refine ⟨rfl, a2.1.set (((Only.refl W w2).setCell 6 _).setCell 7 _ |>.setCell 1 _) (((a2.1.wc.s6 0).s7 0).s1 141) rfl, a2.2.trans (a2.1.fw (((Only.refl W w2).setCell 6 _).setCell 7 _ |>.setCell 1 _))⟩
def Wo (w : World) (lo hi B D b R W A : Nat) (r : Gs × List Evn) : Prop := (r.2 = [] ∧ ∃ I cf q, Wk w lo hi B D b R W A (gcof r.1 none) r.1.nm I cf q) ∨ (∃ m, r.2 = [(256, m)] ∧ Wk w lo hi B D b R W A (gcof r.1 (some (256, m))) r.1.nm [] c0 .want)
end
end Go.Proofs.YtogednaamndpgaaGreatDoor

/-
 The walker's steps: field, text, nameByte, anything, extraLength, headSum.
-/
namespace Go.Proofs.YtogednaamndpgaaGreatDoor
open Go.RowKit
set_option linter.unusedVariables false
section
variable {lo hi B D b R W A : Nat} {c : Gc} {n I : List Nat} {cf : Cfg} {q : Md} {s : Gs}
theorem Wk.then_ (k m : Nat) (w : World) (h : Wk w lo hi B D b R W A c n I cf q) : Calls Tryz.prog 46 #[.pointer (some ⟨W, 0, none⟩), .func (.func k) #[.pointer (some ⟨W, 0, none⟩)] #[], .int .i64 (m : Int)] w fun e w' => e = .returned (.tuple #[]) ∧ Wk w' lo hi B D b R W A { c with nx := k, lf := m } n I cf q ∧ Fw lo hi w w' := h.lift (then_c k m w h.wc) rfl
theorem Wk.cnt (x : Nat) (hx : x < 256) (hs : c.sm < 4294967296) (w : World) (h : Wk w lo hi B D b R W A c n I cf q) : Calls Tryz.prog 72 #[.pointer (some ⟨W, 0, none⟩), .int .u8 (x : Int)] w fun e w' => e = .returned (.tuple #[]) ∧ Wk w' lo hi B D b R W A { c with sm := stp c.sm x } n I cf q ∧ Fw lo hi w w' := h.lift (cnt_c x hx w h.tab h.wc hs) rfl
theorem Wk.asked (f v f2 : Nat) (t : Bool) (e1 : bits .and .u8 (f : Int) (v : Int) = 0 ∧ t = false ∨ bits .and .u8 (f : Int) (v : Int) ≠ 0 ∧ t = true) (e2 : bits .andNot .u8 (f : Int) (v : Int) = (f2 : Int)) (hv : f < 256) (hfl : c.fl = f) (w : World) (h : Wk w lo hi B D b R W A c n I cf q) : Calls Tryz.prog 132 #[.pointer (some ⟨W, 0, none⟩), .int .u8 (v : Int)] w fun e w' => e = .returned (.bool t) ∧ Wk w' lo hi B D b R W A { c with fl := f2 } n I cf q ∧ Fw lo hi w w' := h.lift (asked_c f v hv t e1 f2 e2 w h.wc hfl) rfl
theorem Wk.gather (x : Nat) (hx : x < 256) (hb : c.nb < 4294967296) (hl : 1 ≤ c.lf) (hl2 : c.lf < 1000000) (w : World) (h : Wk w lo hi B D b R W A c n I cf q) : Calls Tryz.prog 76 #[.pointer (some ⟨W, 0, none⟩), .int .u8 (x : Int)] w fun e w' => e = .returned (.bool (decide (c.lf - 1 = 0))) ∧ Wk w' lo hi B D b R W A { c with nb := c.nb / 256 + x * 16777216, lf := c.lf - 1 } n I cf q ∧ Fw lo hi w w' := h.lift (gather_c x hx w h.wc hb hl hl2) rfl
set_option maxHeartbeats 1000000 in
theorem field_c (w : World) (hw : Wk w lo hi B D b R W A (gcof s none) s.nm I cf q) (hf : s.fl < 32) (hon : Oct s.nm) : Calls Tryz.prog 130 #[.pointer (some ⟨W, 0, none⟩)] w fun e w' => e = .returned (.tuple #[]) ∧ Wo w' lo hi B D b R W A (gfield s) ∧ Fw lo hi w w' := by
 have F4 := flag4 ⟨s.fl, hf⟩
 dsimp only at F4
 have F8 := flag8 ⟨s.fl, hf⟩
 dsimp only at F8
 have F16 := flag16 ⟨s.fl, hf⟩
 dsimp only at F16
 have F2 := flag2 ⟨s.fl, hf⟩
 dsimp only at F2
 have hf2 : s.fl < 256 := by omega
 unfold gfield
 by_cases b4 : s.fl / 4 % 2 = 1
 ·rw [if_pos b4]
  have k4 : ∀ w, Wk w lo hi B D b R W A (gcof s none) s.nm I cf q → Calls Tryz.prog 132 #[.pointer (some ⟨W, 0, none⟩), .int .u8 4] w _ := fun w h => h.asked s.fl 4 (s.fl - 4) true (Or.inr ⟨(F4.1 b4).1, rfl⟩) (F4.1 b4).2 hf2 rfl w
  have kt : ∀ w, Wk w lo hi B D b R W A { gcof s none with fl := s.fl - 4 } s.nm I cf q → Calls Tryz.prog 46 #[.pointer (some ⟨W, 0, none⟩), .func (.func 133) #[.pointer (some ⟨W, 0, none⟩)] #[], .int .i64 2] w _ := fun w h => h.then_ 133 2 w
  clear F4 F8 F16 F2 b4 hf hf2 hon
  go_enter Tryz.func130, Tryz.ntmps130
  go_wp2_with (first
   | (go_at_call 132; refine (k4 _ hw).mono ?_; rintro e1 w1 ⟨rfl, h1, f1⟩)
   | (go_at_call 46; refine (kt _ h1).mono ?_; rintro e2 w2 ⟨rfl, h2, f2⟩))
  first | go_end0 | (refine bodyPost_ret (results_none rfl _ _ _) rfl ?_)
  exact ⟨rfl, Or.inl ⟨rfl, I, cf, q, h2⟩, f1.trans f2⟩
 ·rw [if_neg b4]
  have k4 : ∀ w, Wk w lo hi B D b R W A (gcof s none) s.nm I cf q → Calls Tryz.prog 132 #[.pointer (some ⟨W, 0, none⟩), .int .u8 4] w _ := fun w h => h.asked s.fl 4 s.fl false (Or.inl ⟨(F4.2 b4).1, rfl⟩) (F4.2 b4).2 hf2 rfl w
  by_cases b8 : s.fl / 8 % 2 = 1
  ·rw [if_pos b8]
   have k8 : ∀ w, Wk w lo hi B D b R W A (gcof s none) s.nm I cf q → Calls Tryz.prog 132 #[.pointer (some ⟨W, 0, none⟩), .int .u8 8] w _ := fun w h => h.asked s.fl 8 (s.fl - 8) true (Or.inr ⟨(F8.1 b8).1, rfl⟩) (F8.1 b8).2 hf2 rfl w
   have kt : ∀ w, Wk w lo hi B D b R W A { gcof s none with fl := s.fl - 8 } s.nm I cf q → Calls Tryz.prog 46 #[.pointer (some ⟨W, 0, none⟩), .func (.func 134) #[.pointer (some ⟨W, 0, none⟩)] #[], .int .i64 256] w _ := fun w h => h.then_ 134 256 w
   clear F4 F8 F16 F2 b4 b8 hf hf2 hon
   go_enter Tryz.func130, Tryz.ntmps130
   go_wp2_with (first
    | (go_at_call 132; with_reducible refine (k4 _ hw).mono ?_; rintro e1 w1 ⟨rfl, h1, f1⟩)
    | (go_at_call 132; with_reducible refine (k8 _ h1).mono ?_; rintro e2 w2 ⟨rfl, h2, f2⟩)
    | (go_at_call 46; refine (kt _ h2).mono ?_; rintro e3 w3 ⟨rfl, h3, f3⟩))
   first | go_end0 | (refine bodyPost_ret (results_none rfl _ _ _) rfl ?_)
   exact ⟨rfl, Or.inl ⟨rfl, I, cf, q, h3⟩, (f1.trans f2).trans f3⟩
  ·rw [if_neg b8]
   have k8 : ∀ w, Wk w lo hi B D b R W A (gcof s none) s.nm I cf q → Calls Tryz.prog 132 #[.pointer (some ⟨W, 0, none⟩), .int .u8 8] w _ := fun w h => h.asked s.fl 8 s.fl false (Or.inl ⟨(F8.2 b8).1, rfl⟩) (F8.2 b8).2 hf2 rfl w
   by_cases b16 : s.fl / 16 % 2 = 1
   ·rw [if_pos b16]
    have k16 : ∀ w, Wk w lo hi B D b R W A (gcof s none) s.nm I cf q → Calls Tryz.prog 132 #[.pointer (some ⟨W, 0, none⟩), .int .u8 16] w _ := fun w h => h.asked s.fl 16 (s.fl - 16) true (Or.inr ⟨(F16.1 b16).1, rfl⟩) (F16.1 b16).2 hf2 rfl w
    have kt : ∀ w, Wk w lo hi B D b R W A { gcof s none with fl := s.fl - 16 } s.nm I cf q → Calls Tryz.prog 46 #[.pointer (some ⟨W, 0, none⟩), .func (.func 135) #[.pointer (some ⟨W, 0, none⟩)] #[], .int .i64 256] w _ := fun w h => h.then_ 135 256 w
    clear F4 F8 F16 F2 b4 b8 b16 hf hf2 hon
    go_enter Tryz.func130, Tryz.ntmps130
    go_wp2_with (first
     | (go_at_call 132; with_reducible refine (k4 _ hw).mono ?_; rintro e1 w1 ⟨rfl, h1, f1⟩)
     | (go_at_call 132; with_reducible refine (k8 _ h1).mono ?_; rintro e2 w2 ⟨rfl, h2, f2⟩)
     | (go_at_call 132; with_reducible refine (k16 _ h2).mono ?_; rintro e3 w3 ⟨rfl, h3, f3⟩)
     | (go_at_call 46; refine (kt _ h3).mono ?_; rintro e4 w4 ⟨rfl, h4, f4⟩))
    first | go_end0 | (refine bodyPost_ret (results_none rfl _ _ _) rfl ?_)
    exact ⟨rfl, Or.inl ⟨rfl, I, cf, q, h4⟩, ((f1.trans f2).trans f3).trans f4⟩
   ·rw [if_neg b16]
    have k16 : ∀ w, Wk w lo hi B D b R W A (gcof s none) s.nm I cf q → Calls Tryz.prog 132 #[.pointer (some ⟨W, 0, none⟩), .int .u8 16] w _ := fun w h => h.asked s.fl 16 s.fl false (Or.inl ⟨(F16.2 b16).1, rfl⟩) (F16.2 b16).2 hf2 rfl w
    by_cases b2 : s.fl / 2 % 2 = 1
    ·rw [if_pos b2]
     have k2 : ∀ w, Wk w lo hi B D b R W A (gcof s none) s.nm I cf q → Calls Tryz.prog 132 #[.pointer (some ⟨W, 0, none⟩), .int .u8 2] w _ := fun w h => h.asked s.fl 2 (s.fl - 2) true (Or.inr ⟨(F2.1 b2).1, rfl⟩) (F2.1 b2).2 hf2 rfl w
     have kt : ∀ w, Wk w lo hi B D b R W A { gcof s none with fl := s.fl - 2 } s.nm I cf q → Calls Tryz.prog 46 #[.pointer (some ⟨W, 0, none⟩), .func (.func 136) #[.pointer (some ⟨W, 0, none⟩)] #[], .int .i64 2] w _ := fun w h => h.then_ 136 2 w
     clear F4 F8 F16 F2 b4 b8 b16 b2 hf hf2 hon
     go_enter Tryz.func130, Tryz.ntmps130
     go_wp2_with (first
      | (go_at_call 132; with_reducible refine (k4 _ hw).mono ?_; rintro e1 w1 ⟨rfl, h1, f1⟩)
      | (go_at_call 132; with_reducible refine (k8 _ h1).mono ?_; rintro e2 w2 ⟨rfl, h2, f2⟩)
      | (go_at_call 132; with_reducible refine (k16 _ h2).mono ?_; rintro e3 w3 ⟨rfl, h3, f3⟩)
      | (go_at_call 132; with_reducible refine (k2 _ h3).mono ?_; rintro e4 w4 ⟨rfl, h4, f4⟩)
      | (go_at_call 46; refine (kt _ h4).mono ?_; rintro e5 w5 ⟨rfl, h5, f5⟩))
     first | go_end0 | (refine bodyPost_ret (results_none rfl _ _ _) rfl ?_)
     exact ⟨rfl, Or.inl ⟨rfl, I, cf, q, h5⟩, (((f1.trans f2).trans f3).trans f4).trans f5⟩
    ·rw [if_neg b2]
     have k2 : ∀ w, Wk w lo hi B D b R W A (gcof s none) s.nm I cf q → Calls Tryz.prog 132 #[.pointer (some ⟨W, 0, none⟩), .int .u8 2] w _ := fun w h => h.asked s.fl 2 s.fl false (Or.inl ⟨(F2.2 b2).1, rfl⟩) (F2.2 b2).2 hf2 rfl w
     have ko : ∀ w, Wk w lo hi B D b R W A (gcof s none) s.nm I cf q → Calls Tryz.prog 137 #[.pointer (some ⟨W, 0, none⟩)] w _ := fun w h => opm_c w h hon
     clear F4 F8 F16 F2 b4 b8 b16 b2 hf hf2 hon
     go_enter Tryz.func130, Tryz.ntmps130
     go_wp2_with (first
      | (go_at_call 132; with_reducible refine (k4 _ hw).mono ?_; rintro e1 w1 ⟨rfl, h1, f1⟩)
      | (go_at_call 132; with_reducible refine (k8 _ h1).mono ?_; rintro e2 w2 ⟨rfl, h2, f2⟩)
      | (go_at_call 132; with_reducible refine (k16 _ h2).mono ?_; rintro e3 w3 ⟨rfl, h3, f3⟩)
      | (go_at_call 132; with_reducible refine (k2 _ h3).mono ?_; rintro e4 w4 ⟨rfl, h4, f4⟩)
      | (go_at_call 137; refine (ko _ h4).mono ?_; rintro e5 w5 ⟨rfl, h5, f5⟩))
     first | go_end0 | (refine bodyPost_ret (results_none rfl _ _ _) rfl ?_)
     exact ⟨rfl, Or.inr ⟨_, rfl, h5⟩, (((f1.trans f2).trans f3).trans f4).trans f5⟩
end
end Go.Proofs.YtogednaamndpgaaGreatDoor

/-
 The walker's steps: text, nameByte, anything.
-/
namespace Go.Proofs.YtogednaamndpgaaGreatDoor
open Go.RowKit
set_option linter.unusedVariables false
section
variable {lo hi B D b R W A : Nat} {n I : List Nat} {cf : Cfg} {q : Md} {s : Gs}
theorem Wk.cnt_ {w : World} (x : Nat) (hx : x < 256) (hs : s.sm < 4294967296) (h : Wk w lo hi B D b R W A (gcof s none) n I cf q) : Calls Tryz.prog 72 #[.pointer (some ⟨W, 0, none⟩), .int .u8 (x : Int)] w fun e w' => e = .returned (.tuple #[]) ∧ Wk w' lo hi B D b R W A (gcof (gcnt x s) none) n I cf q ∧ Fw lo hi w w' := h.cnt x hx hs w
theorem Wk.cell4 {w : World} {lf : Nat} (h : Wk w lo hi B D b R W A (gcof s none) n I cf q) (e : s.lf = lf) : w.cell? ⟨W, 4, none⟩ = some (.int .i64 (lf : Int)) := by rw [← e]; exact h.wc.a4
theorem Wk.bad {w : World} (y : Nat) (h : Wk w lo hi B D b R W A (gcof s none) n I cf q) : Wk (w.setCell ⟨W, 15, none⟩ (.int .i64 (y : Int))) lo hi B D b R W A (gcof (gbad y s) none) n I cf q ∧ Fw lo hi w (w.setCell ⟨W, 15, none⟩ (.int .i64 (y : Int))) := ⟨h.set ((Only.refl W w).setCell 15 _) (h.wc.s15 y) rfl, h.fw ((Only.refl W w).setCell 15 _)⟩
theorem Wk.less {w : World} (m : Nat) (h : Wk w lo hi B D b R W A (gcof s none) n I cf q) : Wk (w.setCell ⟨W, 4, none⟩ (.int .i64 (m : Int))) lo hi B D b R W A (gcof { s with lf := m } none) n I cf q ∧ Fw lo hi w (w.setCell ⟨W, 4, none⟩ (.int .i64 (m : Int))) := ⟨h.set ((Only.refl W w).setCell 4 _) (h.wc.s4 m) rfl, h.fw ((Only.refl W w).setCell 4 _)⟩
set_option maxHeartbeats 1000000 in
theorem text_c (x : Nat) (hx : x < 256) (w : World) (hw : Wk w lo hi B D b R W A (gcof s none) s.nm I cf q) (hs : s.sm < 4294967296) (hf : s.fl < 32) (hon : Oct s.nm) (hl : s.lf < 1000000) : Calls Tryz.prog 135 #[.pointer (some ⟨W, 0, none⟩), .int .u8 (x : Int)] w fun e w' => e = .returned (.tuple #[]) ∧ Wo w' lo hi B D b R W A (gtxt x s) ∧ Fw lo hi w w' := by
 have kc := hw.cnt_ x hx hs
 unfold gtxt
 by_cases h0 : x = 0
 ·rw [if_pos h0]
  have kf : ∀ w, Wk w lo hi B D b R W A (gcof (gcnt x s) none) s.nm I cf q → Calls Tryz.prog 130 #[.pointer (some ⟨W, 0, none⟩)] w _ := fun w h => field_c (s := gcnt x s) w h hf hon
  have t : ((x : Int) == 0) = true := by rw [h0]; rfl
  clear hw hs hf hon hl h0 hx
  go_enter Tryz.func135, Tryz.ntmps135
  go_wp2_with (first
   | (go_at_call 72; refine kc.mono ?_; rintro e1 w1 ⟨rfl, h1, f1⟩)
   | (go_at_call 130; refine (kf _ h1).mono ?_; rintro e2 w2 ⟨rfl, h2, f2⟩))
  first | go_end0 | (refine bodyPost_ret (results_none rfl _ _ _) rfl ?_)
  exact ⟨rfl, h2, f1.trans f2⟩
 ·rw [if_neg h0]
  have t : ((x : Int) == 0) = false := by rw [beq_eq_false_iff_ne]; omega
  obtain ⟨lf, hlf⟩ : ∃ lf, s.lf = lf := ⟨_, rfl⟩
  rw [hlf] at hl ⊢
  by_cases hz : lf = 0
  ·rw [if_pos hz]
   subst hz
   clear hw hs hf hon hl h0 hx
   go_enter Tryz.func135, Tryz.ntmps135
   go_wp2_with (go_at_call 72; refine kc.mono ?_; rintro e1 w1 ⟨rfl, h1, f1⟩; have d4 := h1.cell4 hlf; have d15 := h1.wc.a15; have z15 := h1.wc.fz 15)
   first | go_end0 | (refine bodyPost_ret (results_none rfl _ _ _) rfl ?_)
   exact ⟨rfl, Or.inl ⟨rfl, I, cf, q, (h1.bad 46).1⟩, f1.trans (h1.bad 46).2⟩
  ·rw [if_neg hz]
   have tl : ((lf : Int) == 0) = false := by rw [beq_eq_false_iff_ne]; omega
   obtain ⟨l2, hl2⟩ : ∃ l2, lf - 1 = l2 := ⟨_, rfl⟩
   have hd : (lf : Int) - 1 = (l2 : Int) := by omega
   rw [hl2]
   clear hw hs hf hon h0 hx hz hl2
   go_enter Tryz.func135, Tryz.ntmps135
   go_wp2_with (go_at_call 72; refine kc.mono ?_; rintro e1 w1 ⟨rfl, h1, f1⟩; have d4 := h1.cell4 hlf; have z4 := h1.wc.fz 4)
   first | go_end0 | (refine bodyPost_ret (results_none rfl _ _ _) rfl ?_)
   exact ⟨rfl, Or.inl ⟨rfl, I, cf, q, (h1.less l2).1⟩, f1.trans (h1.less l2).2⟩
set_option maxHeartbeats 1000000 in
theorem any_c (x : Nat) (hx : x < 256) (w : World) (hw : Wk w lo hi B D b R W A (gcof s none) s.nm I cf q) (hs : s.sm < 4294967296) (hf : s.fl < 32) (hon : Oct s.nm) (hl : s.lf < 1000000) (hl1 : 1 ≤ s.lf) : Calls Tryz.prog 127 #[.pointer (some ⟨W, 0, none⟩), .int .u8 (x : Int)] w fun e w' => e = .returned (.tuple #[]) ∧ Wo w' lo hi B D b R W A (gany x s) ∧ Fw lo hi w w' := by
 have kc := hw.cnt_ x hx hs
 unfold gany
 obtain ⟨lf, hlf⟩ : ∃ lf, s.lf = lf := ⟨_, rfl⟩
 rw [hlf] at hl hl1 ⊢
 obtain ⟨l2, hl2⟩ : ∃ l2, lf - 1 = l2 := ⟨_, rfl⟩
 have hd : (lf : Int) - 1 = (l2 : Int) := by omega
 rw [hl2]
 by_cases hz : l2 = 0
 ·rw [if_pos hz]
  have kf : ∀ w, Wk w lo hi B D b R W A (gcof { gcnt x s with lf := l2 } none) s.nm I cf q → Calls Tryz.prog 130 #[.pointer (some ⟨W, 0, none⟩)] w _ := fun w h => field_c (s := { gcnt x s with lf := l2 }) w h hf hon
  have tl : ((l2 : Int) == 0) = true := by rw [hz]; rfl
  clear hw hs hf hon hl2 hx hz
  go_enter Tryz.func127, Tryz.ntmps127
  go_wp2_with (first
   | (go_at_call 72; refine kc.mono ?_; rintro e1 w1 ⟨rfl, h1, f1⟩; have d4 := h1.cell4 hlf; have z4 := h1.wc.fz 4)
   | (go_at_call 130; refine (kf _ (h1.less l2).1).mono ?_; rintro e2 w2 ⟨rfl, h2, f2⟩))
  first | go_end0 | (refine bodyPost_ret (results_none rfl _ _ _) rfl ?_)
  exact ⟨rfl, h2, (f1.trans (h1.less l2).2).trans f2⟩
 ·rw [if_neg hz]
  have tl : ((l2 : Int) == 0) = false := by rw [beq_eq_false_iff_ne]; omega
  clear hw hs hf hon hl2 hx hz
  go_enter Tryz.func127, Tryz.ntmps127
  go_wp2_with (go_at_call 72; refine kc.mono ?_; rintro e1 w1 ⟨rfl, h1, f1⟩; have d4 := h1.cell4 hlf; have z4 := h1.wc.fz 4)
  first | go_end0 | (refine bodyPost_ret (results_none rfl _ _ _) rfl ?_)
  exact ⟨rfl, Or.inl ⟨rfl, I, cf, q, (h1.less l2).1⟩, f1.trans (h1.less l2).2⟩
end
end Go.Proofs.YtogednaamndpgaaGreatDoor

/-
 The walker's step nameByte.
-/
namespace Go.Proofs.YtogednaamndpgaaGreatDoor
open Go.RowKit
set_option linter.unusedVariables false
section
variable {lo hi B D b R W A : Nat} {n I : List Nat} {cf : Cfg} {q : Md} {s : Gs}
theorem name_grown {w w2 : World} {x : Nat} (h : Wk w lo hi B D b R W A (gcof s none) s.nm I cf q) (ho : w2.ownsRow A 5 1 (.slice (some ⟨A, 0, none⟩) (s.nm.length + 1) 256) (s.nm.length + 1) (ob s.nm ++ [.int .u8 (x : Int)])) (hg : w.grownBy w2 (some A)) : Wc w2 W D A (gcof s none) ∧ Wk (w2.setCell ⟨W, 3, none⟩ (.slice (some ⟨A, 0, none⟩) (s.nm.length + 1) 256)) lo hi B D b R W A (gcof { s with nm := s.nm ++ [x] } none) (s.nm ++ [x]) I cf q ∧ Fw lo hi w (w2.setCell ⟨W, 3, none⟩ (.slice (some ⟨A, 0, none⟩) (s.nm.length + 1) 256)) := by
 have hN : Nm w2 A (s.nm ++ [x]) := Nm.of_own (by
  rw [show (s.nm ++ [x]).length = s.nm.length + 1 by simp, show ob (s.nm ++ [x]) = ob s.nm ++ [.int .u8 (x : Int)] by simp [ob]]
  exact ho)
 obtain ⟨_, hwc, _, hfin⟩ := h.name hg hN _ rfl
 have o : Only W w2 (w2.setCell ⟨W, 3, none⟩ (.slice (some ⟨A, 0, none⟩) (s.nm.length + 1) 256)) := (Only.refl W w2).setCell 3 _
 have g := h.g
 refine ⟨hwc, ?_, ?_⟩
 ·have := hfin _ ((Only.refl W w2).setCell 3 (.slice (some ⟨A, 0, none⟩) (s.nm ++ [x]).length 256)) (hwc.s3 _)
  have e : (s.nm ++ [x]).length = s.nm.length + 1 := by simp
  have this2 : Wk (w2.setCell ⟨W, 3, none⟩ (.slice (some ⟨A, 0, none⟩) (s.nm ++ [x]).length 256)) lo hi B D b R W A (gcof { s with nm := s.nm ++ [x] } none) (s.nm ++ [x]) I cf q := this
  rwa [e] at this2
 ·refine ⟨o.os.trans hg.os, o.tape.trans hg.tape, o.output.trans hg.output, by rw [o.size]; exact hg.size, fun k hk hh => ?_⟩
  have := g.lA; have := g.hA; have := g.lW; have := g.hW
  rw [o.block k (by omega)]
  exact hg.block k hk (fun e => by cases e; omega)
set_option maxHeartbeats 1000000 in
theorem name_c (x : Nat) (hx : x < 256) (w : World) (hw : Wk w lo hi B D b R W A (gcof s none) s.nm I cf q) (hs : s.sm < 4294967296) (hf : s.fl < 32) (hon : Oct s.nm) (hl : s.lf < 1000000) (hn : s.nm.length + s.lf = 256) : Calls Tryz.prog 134 #[.pointer (some ⟨W, 0, none⟩), .int .u8 (x : Int)] w fun e w' => e = .returned (.tuple #[]) ∧ Wo w' lo hi B D b R W A (gtxt x (gnam x s)) ∧ Fw lo hi w w' := by
 unfold gnam
 by_cases h0 : x ≠ 0 ∧ 0 < s.lf
 ·rw [if_pos h0]
  have t : ((x : Int) != 0) = true := by rw [bne_iff_ne]; omega
  have tl : 0 < s.lf := h0.2
  obtain ⟨i0, hi0, hz0, hz1, hz2⟩ := ginfo_parts ginfo5
  have AI : Aside (Tryz.prog.info? 5 = some i0 ∧ i0.size = 1) := ⟨hi0, hz1⟩
  clear hi0 hz0 hz1 hz2
  have kt : ∀ w, Wk w lo hi B D b R W A (gcof { s with nm := s.nm ++ [x] } none) (s.nm ++ [x]) I cf q → Calls Tryz.prog 135 #[.pointer (some ⟨W, 0, none⟩), .int .u8 (x : Int)] w _ := fun w h => text_c (s := { s with nm := s.nm ++ [x] }) x hx w h hs hf (fun y hy => by
   rcases List.mem_append.1 hy with h | h
   ·exact hon y h
   ·rw [List.mem_singleton.1 h]; exact hx) hl
  have d4 := hw.wc.a4
  have d3 := hw.wc.a3
  have z3 := hw.wc.fz 3
  have hA := hw.below (u := w.alloc (.cells #[.int .u8 (x : Int)] 5)) ((Below.refl _ w).alloc (Nat.le_refl _) _) (Nat.le_refl _)
  have hfA : Fw lo hi w (w.alloc (.cells #[.int .u8 (x : Int)] 5)) := Fw.of_below ((Below.refl _ w).alloc (Nat.le_refl _) _) (Nat.le_refl _)
  have hnl : Aside (s.nm.length + 1 ≤ 256) := Nat.le_of_lt_succ (by omega)
  have A1 : Aside (Wk (w.alloc (.cells #[.int .u8 (x : Int)] 5)) lo hi B D b R W A (gcof s none) s.nm I cf q ∧ Fw lo hi w (w.alloc (.cells #[.int .u8 (x : Int)] 5))) := ⟨hA, hfA⟩
  clear hs hf hon hl hx hn h0 hA hfA hw
  obtain ⟨lf, hlf⟩ : ∃ lf, s.lf = lf := ⟨_, rfl⟩
  rw [hlf] at tl
  replace d4 : w.cell? ⟨W, 4, none⟩ = some (.int .i64 (lf : Int)) := by rw [← hlf]; exact d4
  clear hlf
  replace d3 : w.cell? ⟨W, 3, none⟩ = some (.slice (some ⟨A, 0, none⟩) s.nm.length 256) := d3
  go_enter Tryz.func134, Tryz.ntmps134
  go_upto_region 1 with fail
  go_upto_region 2 with (first
   | (at_builtin; refine wpList_append_fits _ rfl (.tmp 17) (.tmp 19) 22 rfl A 5 i0 1 Tryz.underlying22 AI.out.1 AI.out.2 A s.nm.length 256 (ob s.nm) rfl A1.out.1.nm.own ⟨w.heap.size, 0, none⟩ 1 1 [.int .u8 (x : Int)] rfl rfl (cell_one_new _ _ _) (by intro u hu; rw [List.mem_singleton.1 hu]; rfl) hnl.out ?_; intro w2 ho2 hg2; obtain ⟨hwc2, hw3, f3⟩ := name_grown A1.out.1 ho2 hg2; have d32 := hwc2.a3; have z32 := hwc2.fz 3; have A3 : Aside (Wk (w2.setCell ⟨W, 3, none⟩ (.slice (some ⟨A, 0, none⟩) (s.nm.length + 1) 256)) lo hi B D b R W A (gcof { s with nm := s.nm ++ [x] } none) (s.nm ++ [x]) I cf q ∧ Fw lo hi (w.alloc (.cells #[.int .u8 (x : Int)] 5)) (w2.setCell ⟨W, 3, none⟩ (.slice (some ⟨A, 0, none⟩) (s.nm.length + 1) 256))) := ⟨hw3, f3⟩; clear ho2 hg2 hwc2 hw3 f3))
  clear d3 d4 z3
  go_wp2_with (go_at_call 135; refine (kt _ A3.out.1).mono ?_; rintro e4 w4 ⟨rfl, h4, f4⟩)
  first | go_end0 | (refine bodyPost_ret (results_none rfl _ _ _) rfl ?_)
  exact ⟨rfl, h4, (A1.out.2.trans A3.out.2).trans f4⟩
 ·rw [if_neg h0]
  have kt := text_c x hx w hw hs hf hon hl
  by_cases hx0 : x = 0
  ·have t : ((x : Int) != 0) = false := by rw [hx0]; rfl
   clear hw hs hf hon hl hn hx h0 hx0
   go_enter Tryz.func134, Tryz.ntmps134
   go_wp2_with (go_at_call 135; refine kt.mono ?_; rintro e4 w4 ⟨rfl, h4, f4⟩)
   first | go_end0 | (refine bodyPost_ret (results_none rfl _ _ _) rfl ?_)
   exact ⟨rfl, h4, f4⟩
  ·have t : ((x : Int) != 0) = true := by rw [bne_iff_ne]; omega
   have d4 := hw.cell4 (show s.lf = 0 by omega)
   clear hw hs hf hon hl hn hx h0 hx0
   go_enter Tryz.func134, Tryz.ntmps134
   go_wp2_with (go_at_call 135; refine kt.mono ?_; rintro e4 w4 ⟨rfl, h4, f4⟩)
   first | go_end0 | (refine bodyPost_ret (results_none rfl _ _ _) rfl ?_)
   exact ⟨rfl, h4, f4⟩
end
end Go.Proofs.YtogednaamndpgaaGreatDoor

/-
 The walker's steps: begin, first, second, method, setFlags, behind, extraLength, headSum, dataSum, dataSize.
-/
namespace Go.Proofs.YtogednaamndpgaaGreatDoor
open Go.RowKit
set_option linter.unusedVariables false
section
variable {lo hi B D b R W A : Nat} {n I : List Nat} {cf : Cfg} {q : Md} {s : Gs}
theorem Wk.drew {w : World} {c : Gc} (h : Wk w lo hi B D b R W A c n I cf q) : Wk w.drew lo hi B D b R W A c n I cf q := ⟨h.g, h.wc, h.nl, h.nm, h.inf.kq ⟨Nat.le_refl _, fun k _ => Or.inl rfl⟩, h.tab, h.hs⟩
theorem Fw.drew (w : World) : Fw lo hi w w.drew := ⟨rfl, rfl, rfl, Nat.le_refl _, fun _ _ _ => rfl⟩
theorem Fw.drewN (w : World) (m : Nat) : Fw lo hi w (w.drewN m) := ⟨rfl, rfl, rfl, Nat.le_refl _, fun _ _ _ => rfl⟩
set_option maxHeartbeats 1000000 in
theorem begin_c (x : Nat) (hx : x < 256) (w : World) (hw : Wk w lo hi B D b R W A (gcof s none) s.nm I cf q) : Calls Tryz.prog 42 #[.pointer (some ⟨W, 0, none⟩), .int .u8 (x : Int)] w fun e w' => e = .returned (.tuple #[]) ∧ Wk w' lo hi B D b R W A (gcof (gbgn x s) none) s.nm I cf q ∧ Fw lo hi w w' := by
 have d13 := hw.wc.a13
 have z13 := hw.wc.fz 13
 have d6 := hw.wc.a6
 have z6 := hw.wc.fz 6
 have o : Only W w ((w.setCell ⟨W, 13, none⟩ (.bool false)).setCell ⟨W, 6, none⟩ (.int .u32 0)) := ((Only.refl W w).setCell 13 _).setCell 6 _
 have h0 : Wk ((w.setCell ⟨W, 13, none⟩ (.bool false)).setCell ⟨W, 6, none⟩ (.int .u32 0)) lo hi B D b R W A (gcof { s with wh := false, sm := 0 } none) s.nm I cf q := hw.set o ((hw.wc.s13 false).s6 0) rfl
 have f0 := hw.fw o
 have kc := h0.cnt_ x hx (by show (0 : Nat) < 4294967296; decide)
 have AF : Aside (Fw lo hi w ((w.setCell ⟨W, 13, none⟩ (.bool false)).setCell ⟨W, 6, none⟩ (.int .u32 0))) := f0
 clear hw h0 f0 o hx
 go_enter Tryz.func42, Tryz.ntmps42
 go_wp2_with (go_at_call 72; refine kc.mono ?_; rintro e1 w1 ⟨rfl, h1, f1⟩; have d1 := h1.wc.a1; have z1 := h1.wc.fz 1)
 first | go_end0 | (refine bodyPost_ret (results_none rfl _ _ _) rfl ?_)
 exact ⟨rfl, h1.set ((Only.refl W w1).setCell 1 _) (h1.wc.s1 73) rfl, (AF.out.trans f1).trans (h1.fw ((Only.refl W w1).setCell 1 _))⟩
set_option maxHeartbeats 1000000 in
theorem first_c (x : Nat) (hx : x < 256) (w : World) (hw : Wk w lo hi B D b R W A (gcof s none) s.nm I cf q) : Calls Tryz.prog 29 #[.pointer (some ⟨W, 0, none⟩), .int .u8 (x : Int)] w fun e w' => e = .returned (.tuple #[]) ∧ Wk w' lo hi B D b R W A (gcof (if x = 31 then gbgn x s else gbad 40 s) none) (if x = 31 then gbgn x s else gbad 40 s).nm I cf q ∧ Fw lo hi w w' := by
 have kb := begin_c x hx w hw
 by_cases h0 : x = 31
 ·rw [if_pos h0]
  have t : ((x : Int) != 31) = false := by rw [h0]; rfl
  clear hw h0 hx
  go_enter Tryz.func29, Tryz.ntmps29
  go_wp2_with (go_at_call 42; refine kb.mono ?_; rintro e1 w1 ⟨rfl, h1, f1⟩)
  first | go_end0 | (refine bodyPost_ret (results_none rfl _ _ _) rfl ?_)
  exact ⟨rfl, h1, f1⟩
 ·rw [if_neg h0]
  have t : ((x : Int) != 31) = true := by rw [bne_iff_ne]; omega
  have d15 := hw.wc.a15
  have z15 := hw.wc.fz 15
  have AW : Aside (Wk w lo hi B D b R W A (gcof s none) s.nm I cf q) := hw
  clear hw h0 hx kb
  go_enter Tryz.func29, Tryz.ntmps29
  go_wp2_with fail
  first | go_end0 | (refine bodyPost_ret (results_none rfl _ _ _) rfl ?_)
  exact ⟨rfl, (AW.out.bad 40).1, (AW.out.bad 40).2⟩
set_option maxHeartbeats 1000000 in
theorem second_c (x : Nat) (hx : x < 256) (w : World) (hw : Wk w lo hi B D b R W A (gcof s none) s.nm I cf q) (hs : s.sm < 4294967296) : Calls Tryz.prog 73 #[.pointer (some ⟨W, 0, none⟩), .int .u8 (x : Int)] w fun e w' => e = .returned (.tuple #[]) ∧ Wk w' lo hi B D b R W A (gcof (if x = 139 then { gcnt x s with nx := 2 } else gbad 40 s) none) (if x = 139 then { gcnt x s with nx := 2 } else gbad 40 s).nm I cf q ∧ Fw lo hi w w' := by
 have kc := hw.cnt_ x hx hs
 by_cases h0 : x = 139
 ·rw [if_pos h0]
  have t : ((x : Int) != 139) = false := by rw [h0]; rfl
  clear hw hs h0 hx
  go_enter Tryz.func73, Tryz.ntmps73
  go_wp2_with (go_at_call 72; refine kc.mono ?_; rintro e1 w1 ⟨rfl, h1, f1⟩; have d1 := h1.wc.a1; have z1 := h1.wc.fz 1)
  first | go_end0 | (refine bodyPost_ret (results_none rfl _ _ _) rfl ?_)
  exact ⟨rfl, h1.set ((Only.refl W w1).setCell 1 _) (h1.wc.s1 102) rfl, f1.trans (h1.fw ((Only.refl W w1).setCell 1 _))⟩
 ·rw [if_neg h0]
  have t : ((x : Int) != 139) = true := by rw [bne_iff_ne]; omega
  have d15 := hw.wc.a15
  have z15 := hw.wc.fz 15
  have AW : Aside (Wk w lo hi B D b R W A (gcof s none) s.nm I cf q) := hw
  clear hw hs h0 hx kc
  go_enter Tryz.func73, Tryz.ntmps73
  go_wp2_with fail
  first | go_end0 | (refine bodyPost_ret (results_none rfl _ _ _) rfl ?_)
  exact ⟨rfl, (AW.out.bad 40).1, (AW.out.bad 40).2⟩
set_option maxHeartbeats 1000000 in
theorem method_c (x : Nat) (hx : x < 256) (w : World) (hw : Wk w lo hi B D b R W A (gcof s none) s.nm I cf q) (hs : s.sm < 4294967296) : Calls Tryz.prog 102 #[.pointer (some ⟨W, 0, none⟩), .int .u8 (x : Int)] w fun e w' => e = .returned (.tuple #[]) ∧ Wk w' lo hi B D b R W A (gcof (if x = 8 then { gcnt x s with nx := 3 } else gbad 41 s) none) (if x = 8 then { gcnt x s with nx := 3 } else gbad 41 s).nm I cf q ∧ Fw lo hi w w' := by
 have kc := hw.cnt_ x hx hs
 by_cases h0 : x = 8
 ·rw [if_pos h0]
  have t : ((x : Int) != 8) = false := by rw [h0]; rfl
  clear hw hs h0 hx
  go_enter Tryz.func102, Tryz.ntmps102
  go_wp2_with (go_at_call 72; refine kc.mono ?_; rintro e1 w1 ⟨rfl, h1, f1⟩; have d1 := h1.wc.a1; have z1 := h1.wc.fz 1)
  first | go_end0 | (refine bodyPost_ret (results_none rfl _ _ _) rfl ?_)
  exact ⟨rfl, h1.set ((Only.refl W w1).setCell 1 _) (h1.wc.s1 116) rfl, f1.trans (h1.fw ((Only.refl W w1).setCell 1 _))⟩
 ·rw [if_neg h0]
  have t : ((x : Int) != 8) = true := by rw [bne_iff_ne]; omega
  have d15 := hw.wc.a15
  have z15 := hw.wc.fz 15
  have AW : Aside (Wk w lo hi B D b R W A (gcof s none) s.nm I cf q) := hw
  clear hw hs h0 hx kc
  go_enter Tryz.func102, Tryz.ntmps102
  go_wp2_with fail
  first | go_end0 | (refine bodyPost_ret (results_none rfl _ _ _) rfl ?_)
  exact ⟨rfl, (AW.out.bad 41).1, (AW.out.bad 41).2⟩
theorem and224 : ∀ f : _root_.Fin 256, (f.val < 32 → bits .and .u8 (f.val : Int) 224 = 0) ∧ (¬ f.val < 32 → bits .and .u8 (f.val : Int) 224 ≠ 0) := by decide +kernel
set_option maxHeartbeats 1000000 in
theorem flags_c (x : Nat) (hx : x < 256) (w : World) (hw : Wk w lo hi B D b R W A (gcof s none) s.nm I cf q) (hs : s.sm < 4294967296) : Calls Tryz.prog 116 #[.pointer (some ⟨W, 0, none⟩), .int .u8 (x : Int)] w fun e w' => e = .returned (.tuple #[]) ∧ Wk w' lo hi B D b R W A (gcof (if x < 32 then { gcnt x s with fl := x, nx := 4, lf := 6 } else gbad 42 s) none) (if x < 32 then { gcnt x s with fl := x, nx := 4, lf := 6 } else gbad 42 s).nm I cf q ∧ Fw lo hi w w' := by
 have kc := hw.cnt_ x hx hs
 have F := and224 ⟨x, hx⟩
 dsimp only at F
 obtain ⟨m, hm⟩ : ∃ m, bits .and .u8 (x : Int) 224 = m := ⟨_, rfl⟩
 rw [hm] at F
 by_cases h0 : x < 32
 ·rw [if_pos h0]
  have t : (m != 0) = false := by rw [F.1 h0]; rfl
  have kt : ∀ w, Wk w lo hi B D b R W A { gcof (gcnt x s) none with fl := x } s.nm I cf q → Calls Tryz.prog 46 #[.pointer (some ⟨W, 0, none⟩), .func (.func 127) #[.pointer (some ⟨W, 0, none⟩)] #[], .int .i64 6] w _ := fun w h => h.then_ 127 6 w
  clear hw hs h0 hx F
  go_enter Tryz.func116, Tryz.ntmps116
  go_wp2_with (first
   | (go_at_call 72; refine kc.mono ?_; rintro e1 w1 ⟨rfl, h1, f1⟩; have d2 := h1.wc.a2; have z2 := h1.wc.fz 2)
   | (go_at_call 46; refine (kt _ (h1.set ((Only.refl W w1).setCell 2 _) (h1.wc.s2 x) rfl)).mono ?_; rintro e2 w2 ⟨rfl, h2, f2⟩))
  first | go_end0 | (refine bodyPost_ret (results_none rfl _ _ _) rfl ?_)
  exact ⟨rfl, h2, (f1.trans (h1.fw ((Only.refl W w1).setCell 2 _))).trans f2⟩
 ·rw [if_neg h0]
  have t : (m != 0) = true := by rw [bne_iff_ne]; exact F.2 h0
  have d15 := hw.wc.a15
  have z15 := hw.wc.fz 15
  have AW : Aside (Wk w lo hi B D b R W A (gcof s none) s.nm I cf q) := hw
  clear hw hs h0 hx kc F
  go_enter Tryz.func116, Tryz.ntmps116
  go_wp2_with fail
  first | go_end0 | (refine bodyPost_ret (results_none rfl _ _ _) rfl ?_)
  exact ⟨rfl, (AW.out.bad 42).1, (AW.out.bad 42).2⟩
theorem Wk.nought (x : Nat) (w : World) (h : Wk w lo hi B D b R W A (gcof s none) n I cf q) : Calls Tryz.prog 117 #[.pointer (some ⟨W, 0, none⟩), .int .u8 (x : Int)] w fun e w' => e = .returned (.tuple #[]) ∧ Wk w' lo hi B D b R W A (gcof (gnou x s) none) n I cf q ∧ Fw lo hi w w' := by
 refine h.lift ((stopw_c x w h.wc).mono fun e w' ⟨h1, h2, h3⟩ => ⟨h1, ?_, h3⟩) ?_
 ·unfold gnou
  split at h2
  ·rw [if_pos (by assumption)]; exact h2
  ·rw [if_neg (by assumption)]; exact h2
 ·unfold gnou; split <;> rfl
set_option maxHeartbeats 1000000 in
theorem behind_c (x : Nat) (hx : x < 256) (w : World) (hw : Wk w lo hi B D b R W A (gcof s none) s.nm I cf q) : Calls Tryz.prog 103 #[.pointer (some ⟨W, 0, none⟩), .int .u8 (x : Int)] w fun e w' => e = .returned (.tuple #[]) ∧ Wk w' lo hi B D b R W A (gcof (if x = 31 then gbgn x s else { gnou x s with nx := 13 }) none) (if x = 31 then gbgn x s else { gnou x s with nx := 13 }).nm I cf q ∧ Fw lo hi w w' := by
 have kb := begin_c x hx w hw
 have kn := hw.nought x w
 by_cases h0 : x = 31
 ·rw [if_pos h0]
  have t : ((x : Int) == 31) = true := by rw [h0]; rfl
  clear hw h0 hx kn
  go_enter Tryz.func103, Tryz.ntmps103
  go_wp2_with (go_at_call 42; refine kb.mono ?_; rintro e1 w1 ⟨rfl, h1, f1⟩)
  first | go_end0 | (refine bodyPost_ret (results_none rfl _ _ _) rfl ?_)
  exact ⟨rfl, h1, f1⟩
 ·rw [if_neg h0]
  have t : ((x : Int) == 31) = false := by rw [beq_eq_false_iff_ne]; omega
  clear hw h0 hx kb
  go_enter Tryz.func103, Tryz.ntmps103
  go_wp2_with (go_at_call 117; refine kn.mono ?_; rintro e1 w1 ⟨rfl, h1, f1⟩; have d1 := h1.wc.a1; have z1 := h1.wc.fz 1)
  first | go_end0 | (refine bodyPost_ret (results_none rfl _ _ _) rfl ?_)
  refine ⟨rfl, ?_, f1.trans (h1.fw ((Only.refl W w1).setCell 1 _))⟩
  have en : s.nm = (gnou x s).nm := by unfold gnou; split <;> rfl
  have fin := h1.set ((Only.refl W w1).setCell 1 _) (h1.wc.s1 117) rfl
  have gen : ∀ m, s.nm = m → Wk (w1.setCell ⟨W, 1, none⟩ (fnv W 117)) lo hi B D b R W A { gcof (gnou x s) none with nx := 117 } m I cf q := fun m e => e ▸ fin
  exact gen _ en
end
end Go.Proofs.YtogednaamndpgaaGreatDoor

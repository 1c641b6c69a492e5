/-
  Own texts of this seat, one behind the other: what each says stands ahead of it.
-/
import Derived.Test.YtogednaamndpgaaGreatDoorMu
import Derived.Laws.Rows
/-
 The walker's call Next.
-/
namespace Go.Proofs.YtogednaamndpgaaGreatDoor
open Go.RowKit
set_option linter.unusedVariables false
def z5 : Array Value := #[.int .i64 0, .int .u8 0, .int .i64 0, .int .i64 0, .string ⟨#[]⟩]
theorem size43 : (Tryz.prog.info? 43).map (·.size) = some 5 := by kernel_rfl
theorem ret43 {w : World} {g : Nat} {cs : Array Value} (h : Cells w g cs 43) (hc : cs.size = 5) : (loadVar 43 ⟨g, 0, none⟩).run Tryz.prog w = .ok (.agg cs) w := by
 exact run_loadVar_row (P := Tryz.prog) w g 43 43 cs (0, 0) _ h Tryz.underlying43 rfl (by rw [hc]; exact size43)
theorem set5 {w : World} {H : Nat} {a0 b0 c0 d0 e0 : Value} (h : Cells w H #[a0, b0, c0, d0, e0] 43) (a b c d e : Value) : Cells (((((w.setCell ⟨H, 0, none⟩ a).setCell ⟨H, 1, none⟩ b).setCell ⟨H, 2, none⟩ c).setCell ⟨H, 3, none⟩ d).setCell ⟨H, 4, none⟩ e) H #[a, b, c, d, e] 43 :=
 have := ((((h.set 0 a).set 1 b).set 2 c).set 3 d).set 4 e
 by simpa using this
theorem only_five (H : Nat) (w : World) (a b c d e : Value) : Only H w (((((w.setCell ⟨H, 0, none⟩ a).setCell ⟨H, 1, none⟩ b).setCell ⟨H, 2, none⟩ c).setCell ⟨H, 3, none⟩ d).setCell ⟨H, 4, none⟩ e) := (((((Only.refl H w).setCell 0 _).setCell 1 _).setCell 2 _).setCell 3 _).setCell 4 _
section
variable {lo hi B D b R W A : Nat} {n I o : List Nat} {cf yF : Cfg} {q : Md} {s : Gs} {c : Gc}
theorem Wk.alloc {w : World} (h : Wk w lo hi B D b R W A c n I cf q) (ob : Obj) : Wk (w.alloc ob) lo hi B D b R W A c n I cf q := h.below ((Below.refl _ w).alloc (Nat.le_refl _) _) (Nat.le_refl _)
theorem Wk.var {w u : World} {H : Nat} {cs : Array Value} (h : Wk w lo hi B D b R W A c n I cf q) (hH : hi ≤ H) (hc : Cells w H cs 43) (o : Only H w u) : Wk u lo hi B D b R W A c n I cf q :=
 h.out ⟨o.os, o.tape, o.output, Nat.le_of_eq o.size.symm, fun k hk => o.block k (by omega)⟩ fun i hi' => by
  by_cases e : i = H
  ·subst e; exact Or.inr ⟨_, 43, _, hc, Or.inr (Or.inr rfl)⟩
  ·exact Or.inl (o.block i e)
theorem Fw.var {w u v : World} {H : Nat} (h : Fw lo hi w u) (hH : w.heap.size = H) (o : Only H u v) : Fw lo hi w v := ⟨o.os.trans h.os, o.tape.trans h.tape, o.output.trans h.output, by rw [o.size]; exact h.size, fun k hk hh => (o.block k (by omega)).trans (h.block k hk hh)⟩
theorem Wa.var {w u : World} {H : Nat} {cs : Array Value} (h : Wa w lo hi B D b R W A c n I o yF) (hH : hi ≤ H) (hc : Cells w H cs 43) (k : Only H w u) : Wa u lo hi B D b R W A c n I o yF := by
 rcases h with ⟨x, rest, cf, q, h1, h2, h3⟩ | ⟨h1, cf, q, h2, h3⟩
 ·exact Or.inl ⟨x, rest, cf, q, h1, h2.var hH hc k, h3⟩
 ·exact Or.inr ⟨h1, cf, q, h2.var hH hc k, h3⟩
theorem Cells.fw {w u : World} {H : Nat} {cs : Array Value} {t : TypeId} (h : Cells w H cs t) (k : Fw lo hi w u) (hH : hi ≤ H) : Cells u H cs t := by
 have := h.lt
 unfold Cells at *
 rw [k.block H this (Or.inr hH)]; exact h
set_option maxHeartbeats 1000000 in
theorem wnext_no (w : World) (h : Wk w lo hi B D b R W A c n I cf q) (he : c.ev = none) : Calls Tryz.prog 20 #[.pointer (some ⟨W, 0, none⟩)] w fun e w' => e = .returned (.tuple #[.agg z5, .bool false]) ∧ Wk w' lo hi B D b R W A c n I cf q ∧ Below w.heap.size w w' := by
 obtain ⟨H, hH⟩ : ∃ H, w.heap.size = H := ⟨_, rfl⟩
 have h1 := h.alloc (.cells z5 43)
 have hC := Cells.new w z5 43
 have d8 : (w.alloc (.cells z5 43)).cell? ⟨W, 8, none⟩ = some (.int .i64 0) := by have := h1.wc.a8; rw [he] at this; exact this
 have hbel : Below w.heap.size w (w.alloc (.cells z5 43)) := (Below.refl _ w).alloc (Nat.le_refl _) _
 have hhs := h.hs
 rw [hH] at hC hhs
 obtain ⟨w1, hw1⟩ : ∃ w1, w.alloc (.cells z5 43) = w1 := ⟨_, rfl⟩
 rw [hw1] at hC d8 h1 hbel
 have e0 : w1.cell? ⟨H, 0, none⟩ = some (.int .i64 0) := (hC.cell 0).trans rfl
 have e1 : w1.cell? ⟨H, 1, none⟩ = some (.int .u8 0) := (hC.cell 1).trans rfl
 have e2 : w1.cell? ⟨H, 2, none⟩ = some (.int .i64 0) := (hC.cell 2).trans rfl
 have e3 : w1.cell? ⟨H, 3, none⟩ = some (.int .i64 0) := (hC.cell 3).trans rfl
 have e4 : w1.cell? ⟨H, 4, none⟩ = some (.string ⟨#[]⟩) := (hC.cell 4).trans rfl
 have z0 := hC.frozen 0
 have z1 := hC.frozen 1
 have z2 := hC.frozen 2
 have z3 := hC.frozen 3
 have z4 := hC.frozen 4
 have A1 : Aside (Wk w1 lo hi B D b R W A c n I cf q ∧ Cells w1 H z5 43 ∧ Below w.heap.size w w1 ∧ hi ≤ H) := ⟨h1, hC, hbel, hhs⟩
 have AH : Aside (w.heap.size = H) := hH
 clear h h1 hC hbel hhs he
 unfold z5 at hw1
 go_enter Tryz.func20, Tryz.ntmps20
 go_upto_region 1 with fail
 clear hw1
 go_wp2_with fail
 (try simp only [Exit.inBlock, Exit.then])
 obtain ⟨a1, a2, a3, a4⟩ := A1.out
 have hC2 := set5 a2 (.int .i64 0) (.int .u8 0) (.int .i64 0) (.int .i64 0) (.string ⟨#[]⟩)
 have o5 := only_five H w1 (.int .i64 0) (.int .u8 0) (.int .i64 0) (.int .i64 0) (.string ⟨#[]⟩)
 refine bodyPost_ret (v := .tuple #[.agg z5, .bool false]) ?_ rfl ?_
 ·rw [results_cell_tmp rfl]
  simp [asAddr, Result.andThen, ret43 hC2 rfl, z5]
 ·exact ⟨rfl, a1.var a4 a2 o5, a3.trans (o5.below (by rw [AH.out]; exact Nat.le_refl _))⟩
set_option maxHeartbeats 1000000 in
theorem wnext_one (e : Evn) (k0 k1 k2 : Int) (hk0 : gk1 e.1 = k0) (hk1 : gk2 e.1 = k1) (hk2 : gk3 e.1 = k2) (hn2 : (k0 == 2) = false) (hn0 : (k0 == 0) = false) (w : World) (h : Wk w lo hi B D b R W A c n I cf q) (he : c.ev = some e) : Calls Tryz.prog 20 #[.pointer (some ⟨W, 0, none⟩)] w fun r w' => r = .returned (.tuple #[.agg (gevv e.1 e.2), .bool true]) ∧ Wk w' lo hi B D b R W A { c with ev := none } n I cf q ∧ Fw lo hi w w' := by
 obtain ⟨H, hH⟩ : ∃ H, w.heap.size = H := ⟨_, rfl⟩
 obtain ⟨str, hstr⟩ : ∃ str, st e.2 = str := ⟨_, rfl⟩
 have h1 := h.alloc (.cells z5 43)
 have hC := Cells.new w z5 43
 have d8 : (w.alloc (.cells z5 43)).cell? ⟨W, 8, none⟩ = some (.int .i64 k0) := by have := h1.wc.a8; rw [he, show ev0 (some e) = k0 from hk0] at this; exact this
 have d9 : (w.alloc (.cells z5 43)).cell? ⟨W, 9, none⟩ = some (.int .u8 k1) := by have := h1.wc.a9; rw [he, show ev1 (some e) = k1 from hk1] at this; exact this
 have d10 : (w.alloc (.cells z5 43)).cell? ⟨W, 10, none⟩ = some (.int .i64 k2) := by have := h1.wc.a10; rw [he, show ev2 (some e) = k2 from hk2] at this; exact this
 have d11 := h1.wc.a11
 have d12 : (w.alloc (.cells z5 43)).cell? ⟨W, 12, none⟩ = some (.string str) := by have := h1.wc.a12; rw [he, show st (ev4 (some e)) = str from hstr] at this; exact this
 have y8 := h1.wc.fz 8
 have y9 := h1.wc.fz 9
 have y10 := h1.wc.fz 10
 have y11 := h1.wc.fz 11
 have y12 := h1.wc.fz 12
 have hfw : Fw lo hi w (w.alloc (.cells z5 43)) := Fw.of_below ((Below.refl _ w).alloc (Nat.le_refl _) _) (Nat.le_refl _)
 have hhs := h.hs
 have hsz : (w.alloc (.cells z5 43)).heap.size = H + 1 := by rw [← hH]; simp
 rw [hH] at hC hhs
 obtain ⟨w1, hw1⟩ : ∃ w1, w.alloc (.cells z5 43) = w1 := ⟨_, rfl⟩
 rw [hw1] at hC d8 d9 d10 d11 d12 y8 y9 y10 y11 y12 h1 hfw hsz
 have hr : gevv e.1 e.2 = #[.int .i64 k0, .int .u8 k1, .int .i64 k2, .int .i64 0, .string str] := by unfold gevv; rw [hk0, hk1, hk2, hstr]
 rw [hr]
 have A1 : Aside (Wk w1 lo hi B D b R W A c n I cf q ∧ Cells w1 H z5 43 ∧ Fw lo hi w w1 ∧ hi ≤ H ∧ w1.heap.size = H + 1) := ⟨h1, hC, hfw, hhs, hsz⟩
 have AH : Aside (w.heap.size = H) := hH
 clear h h1 hC hfw hhs he hk0 hk1 hk2 hstr hr
 unfold z5 at hw1
 go_enter Tryz.func20, Tryz.ntmps20
 go_upto_region 1 with fail
 clear hw1
 clear hH
 go_upto_region 4 with fail
 have k2w := A1.out.1.alloc (.cells #[.int .i64 k0, .int .u8 k1, .int .i64 k2, .int .i64 0, .string str] 43)
 have c2H := (A1.out.2.1).alloc (.cells #[.int .i64 k0, .int .u8 k1, .int .i64 k2, .int .i64 0, .string str] 43)
 have c2J := Cells.new w1 #[.int .i64 k0, .int .u8 k1, .int .i64 k2, .int .i64 0, .string str] 43
 rw [A1.out.2.2.2.2] at c2J
 have f2 : Fw lo hi w1 (w1.alloc (.cells #[.int .i64 k0, .int .u8 k1, .int .i64 k2, .int .i64 0, .string str] 43)) := Fw.of_below ((Below.refl _ w1).alloc (Nat.le_refl _) _) (Nat.le_refl _)
 obtain ⟨w2, hw2⟩ : ∃ w2, w1.alloc (.cells #[.int .i64 k0, .int .u8 k1, .int .i64 k2, .int .i64 0, .string str] 43) = w2 := ⟨_, rfl⟩
 rw [hw2] at k2w c2H c2J f2 ⊢
 have o3 := only5 W w2 (.int .i64 0) (.int .u8 0) (.int .i64 0) (.int .i64 0) (.string ⟨#[]⟩)
 have k3 : Wk (((((w2.setCell ⟨W, 8, none⟩ (.int .i64 0)).setCell ⟨W, 9, none⟩ (.int .u8 0)).setCell ⟨W, 10, none⟩ (.int .i64 0)).setCell ⟨W, 11, none⟩ (.int .i64 0)).setCell ⟨W, 12, none⟩ (.string ⟨#[]⟩)) lo hi B D b R W A { c with ev := none } n I cf q := k2w.set o3 (k2w.wc.sev none) rfl
 have hWH : W ≠ H ∧ W ≠ H + 1 := by have := A1.out.1.g.hW; have := A1.out.2.2.2.1; omega
 have c3H := Cells.only c2H o3 (Ne.symm hWH.1)
 have c3J := Cells.only c2J o3 (Ne.symm hWH.2)
 have f3 := f2.trans (k2w.fw o3)
 have d8 := k2w.wc.a8
 have d9 := k2w.wc.a9
 have d10 := k2w.wc.a10
 have d11 := k2w.wc.a11
 have d12 := k2w.wc.a12
 have y8 := k2w.wc.fz 8
 have y9 := k2w.wc.fz 9
 have y10 := k2w.wc.fz 10
 have y11 := k2w.wc.fz 11
 have y12 := k2w.wc.fz 12
 have A3 : Aside (Wk (((((w2.setCell ⟨W, 8, none⟩ (.int .i64 0)).setCell ⟨W, 9, none⟩ (.int .u8 0)).setCell ⟨W, 10, none⟩ (.int .i64 0)).setCell ⟨W, 11, none⟩ (.int .i64 0)).setCell ⟨W, 12, none⟩ (.string ⟨#[]⟩)) lo hi B D b R W A { c with ev := none } n I cf q ∧ Cells (((((w2.setCell ⟨W, 8, none⟩ (.int .i64 0)).setCell ⟨W, 9, none⟩ (.int .u8 0)).setCell ⟨W, 10, none⟩ (.int .i64 0)).setCell ⟨W, 11, none⟩ (.int .i64 0)).setCell ⟨W, 12, none⟩ (.string ⟨#[]⟩)) H z5 43 ∧ Cells (((((w2.setCell ⟨W, 8, none⟩ (.int .i64 0)).setCell ⟨W, 9, none⟩ (.int .u8 0)).setCell ⟨W, 10, none⟩ (.int .i64 0)).setCell ⟨W, 11, none⟩ (.int .i64 0)).setCell ⟨W, 12, none⟩ (.string ⟨#[]⟩)) (H + 1) #[.int .i64 k0, .int .u8 k1, .int .i64 k2, .int .i64 0, .string str] 43 ∧ Fw lo hi w (((((w2.setCell ⟨W, 8, none⟩ (.int .i64 0)).setCell ⟨W, 9, none⟩ (.int .u8 0)).setCell ⟨W, 10, none⟩ (.int .i64 0)).setCell ⟨W, 11, none⟩ (.int .i64 0)).setCell ⟨W, 12, none⟩ (.string ⟨#[]⟩))) := ⟨k3, c3H, c3J, A1.out.2.2.1.trans f3⟩
 clear k2w c2H c2J f2 hw2 o3 k3 c3H c3J f3
 go_upto_region 5 with fail
 obtain ⟨w3, hw3⟩ : ∃ w3, (((((w2.setCell ⟨W, 8, none⟩ (.int .i64 0)).setCell ⟨W, 9, none⟩ (.int .u8 0)).setCell ⟨W, 10, none⟩ (.int .i64 0)).setCell ⟨W, 11, none⟩ (.int .i64 0)).setCell ⟨W, 12, none⟩ (.string ⟨#[]⟩)) = w3 := ⟨_, rfl⟩
 rw [hw3] at A3 ⊢
 clear hw3 d8 d9 d10 d11 d12 y8 y9 y10 y11 y12
 have A4 : Aside (Wk w3 lo hi B D b R W A { c with ev := none } n I cf q ∧ Cells w3 H z5 43 ∧ Cells w3 (H + 1) #[.int .i64 k0, .int .u8 k1, .int .i64 k2, .int .i64 0, .string str] 43 ∧ Fw lo hi w w3 ∧ hi ≤ H) := ⟨A3.out.1, A3.out.2.1, A3.out.2.2.1, A3.out.2.2.2, A1.out.2.2.2.1⟩
 have g0 : w3.cell? ⟨H + 1, 0, none⟩ = some (.int .i64 k0) := (A4.out.2.2.1.cell 0).trans rfl
 have g1 : w3.cell? ⟨H + 1, 1, none⟩ = some (.int .u8 k1) := (A4.out.2.2.1.cell 1).trans rfl
 have g2 : w3.cell? ⟨H + 1, 2, none⟩ = some (.int .i64 k2) := (A4.out.2.2.1.cell 2).trans rfl
 have g3 : w3.cell? ⟨H + 1, 3, none⟩ = some (.int .i64 0) := (A4.out.2.2.1.cell 3).trans rfl
 have g4 : w3.cell? ⟨H + 1, 4, none⟩ = some (.string str) := (A4.out.2.2.1.cell 4).trans rfl
 have e0 : w3.cell? ⟨H, 0, none⟩ = some (.int .i64 0) := (A4.out.2.1.cell 0).trans rfl
 have e1 : w3.cell? ⟨H, 1, none⟩ = some (.int .u8 0) := (A4.out.2.1.cell 1).trans rfl
 have e2 : w3.cell? ⟨H, 2, none⟩ = some (.int .i64 0) := (A4.out.2.1.cell 2).trans rfl
 have e3 : w3.cell? ⟨H, 3, none⟩ = some (.int .i64 0) := (A4.out.2.1.cell 3).trans rfl
 have e4 : w3.cell? ⟨H, 4, none⟩ = some (.string ⟨#[]⟩) := (A4.out.2.1.cell 4).trans rfl
 have z0 := A4.out.2.1.frozen 0
 have z1 := A4.out.2.1.frozen 1
 have z2 := A4.out.2.1.frozen 2
 have z3 := A4.out.2.1.frozen 3
 have z4 := A4.out.2.1.frozen 4
 clear A3 A1
 go_wp2_with fail
 (try simp only [Exit.inBlock, Exit.then])
 obtain ⟨a1, a2, a3, a4, a5⟩ := A4.out
 have hC2 := set5 a2 (.int .i64 k0) (.int .u8 k1) (.int .i64 k2) (.int .i64 0) (.string str)
 have o5 := only_five H w3 (.int .i64 k0) (.int .u8 k1) (.int .i64 k2) (.int .i64 0) (.string str)
 refine bodyPost_ret (v := .tuple #[.agg #[.int .i64 k0, .int .u8 k1, .int .i64 k2, .int .i64 0, .string str], .bool true]) ?_ rfl ?_
 ·rw [results_cell_tmp rfl]
  simp [asAddr, Result.andThen, ret43 hC2 rfl]
 ·exact ⟨rfl, a1.var a5 a2 o5, a4.var AH.out o5⟩
set_option maxHeartbeats 1000000 in
theorem wnext_byte (e : Evn) (k1 k2 : Int) (hk0 : gk1 e.1 = 2) (hk1 : gk2 e.1 = k1) (hk2 : gk3 e.1 = k2) (w : World) (h : Wk w lo hi B D b R W A c n I cf q) (he : c.ev = some e) (hp : Pd o cf q) (hsm : c.sm = sm 0 o) (hgv : c.gv = o.length % 4294967296) (h0 : c.why = 0) (hs : Stands I MM yF) (ho : o.length + 1 < MM) : Calls Tryz.prog 20 #[.pointer (some ⟨W, 0, none⟩)] w fun r w' => r = .returned (.tuple #[.agg (gevv e.1 e.2), .bool true]) ∧ Wa w' lo hi B D b R W A { c with ev := none } n I o yF ∧ Fw lo hi w w' := by
 have ka := fun (X : World) (h : Wk X lo hi B D b R W A { c with ev := none } n I cf q) => ask_c X h hp hsm hgv rfl h0 hs ho
 clear hp hsm hgv h0 hs ho
 obtain ⟨H, hH⟩ : ∃ H, w.heap.size = H := ⟨_, rfl⟩
 obtain ⟨str, hstr⟩ : ∃ str, st e.2 = str := ⟨_, rfl⟩
 have h1 := h.alloc (.cells z5 43)
 have hC := Cells.new w z5 43
 have d8 : (w.alloc (.cells z5 43)).cell? ⟨W, 8, none⟩ = some (.int .i64 2) := by have := h1.wc.a8; rw [he, show ev0 (some e) = 2 from hk0] at this; exact this
 have d9 : (w.alloc (.cells z5 43)).cell? ⟨W, 9, none⟩ = some (.int .u8 k1) := by have := h1.wc.a9; rw [he, show ev1 (some e) = k1 from hk1] at this; exact this
 have d10 : (w.alloc (.cells z5 43)).cell? ⟨W, 10, none⟩ = some (.int .i64 k2) := by have := h1.wc.a10; rw [he, show ev2 (some e) = k2 from hk2] at this; exact this
 have d11 := h1.wc.a11
 have d12 : (w.alloc (.cells z5 43)).cell? ⟨W, 12, none⟩ = some (.string str) := by have := h1.wc.a12; rw [he, show st (ev4 (some e)) = str from hstr] at this; exact this
 have y8 := h1.wc.fz 8
 have y9 := h1.wc.fz 9
 have y10 := h1.wc.fz 10
 have y11 := h1.wc.fz 11
 have y12 := h1.wc.fz 12
 have hfw : Fw lo hi w (w.alloc (.cells z5 43)) := Fw.of_below ((Below.refl _ w).alloc (Nat.le_refl _) _) (Nat.le_refl _)
 have hhs := h.hs
 have hsz : (w.alloc (.cells z5 43)).heap.size = H + 1 := by rw [← hH]; simp
 rw [hH] at hC hhs
 obtain ⟨w1, hw1⟩ : ∃ w1, w.alloc (.cells z5 43) = w1 := ⟨_, rfl⟩
 rw [hw1] at hC d8 d9 d10 d11 d12 y8 y9 y10 y11 y12 h1 hfw hsz
 have hr : gevv e.1 e.2 = #[.int .i64 2, .int .u8 k1, .int .i64 k2, .int .i64 0, .string str] := by unfold gevv; rw [hk0, hk1, hk2, hstr]
 rw [hr]
 have A1 : Aside (Wk w1 lo hi B D b R W A c n I cf q ∧ Cells w1 H z5 43 ∧ Fw lo hi w w1 ∧ hi ≤ H ∧ w1.heap.size = H + 1) := ⟨h1, hC, hfw, hhs, hsz⟩
 have AH : Aside (w.heap.size = H) := hH
 clear h h1 hC hfw hhs he hk0 hk1 hk2 hstr hr
 unfold z5 at hw1
 go_enter Tryz.func20, Tryz.ntmps20
 go_upto_region 1 with fail
 clear hw1
 clear hH
 go_upto_region 4 with fail
 have k2w := A1.out.1.alloc (.cells #[.int .i64 2, .int .u8 k1, .int .i64 k2, .int .i64 0, .string str] 43)
 have c2H := (A1.out.2.1).alloc (.cells #[.int .i64 2, .int .u8 k1, .int .i64 k2, .int .i64 0, .string str] 43)
 have c2J := Cells.new w1 #[.int .i64 2, .int .u8 k1, .int .i64 k2, .int .i64 0, .string str] 43
 rw [A1.out.2.2.2.2] at c2J
 have f2 : Fw lo hi w1 (w1.alloc (.cells #[.int .i64 2, .int .u8 k1, .int .i64 k2, .int .i64 0, .string str] 43)) := Fw.of_below ((Below.refl _ w1).alloc (Nat.le_refl _) _) (Nat.le_refl _)
 obtain ⟨w2, hw2⟩ : ∃ w2, w1.alloc (.cells #[.int .i64 2, .int .u8 k1, .int .i64 k2, .int .i64 0, .string str] 43) = w2 := ⟨_, rfl⟩
 rw [hw2] at k2w c2H c2J f2 ⊢
 have o3 := only5 W w2 (.int .i64 0) (.int .u8 0) (.int .i64 0) (.int .i64 0) (.string ⟨#[]⟩)
 have k3 : Wk (((((w2.setCell ⟨W, 8, none⟩ (.int .i64 0)).setCell ⟨W, 9, none⟩ (.int .u8 0)).setCell ⟨W, 10, none⟩ (.int .i64 0)).setCell ⟨W, 11, none⟩ (.int .i64 0)).setCell ⟨W, 12, none⟩ (.string ⟨#[]⟩)) lo hi B D b R W A { c with ev := none } n I cf q := k2w.set o3 (k2w.wc.sev none) rfl
 have hWH : W ≠ H ∧ W ≠ H + 1 := by have := A1.out.1.g.hW; have := A1.out.2.2.2.1; omega
 have c3H := Cells.only c2H o3 (Ne.symm hWH.1)
 have c3J := Cells.only c2J o3 (Ne.symm hWH.2)
 have f3 := f2.trans (k2w.fw o3)
 have d8 := k2w.wc.a8
 have d9 := k2w.wc.a9
 have d10 := k2w.wc.a10
 have d11 := k2w.wc.a11
 have d12 := k2w.wc.a12
 have y8 := k2w.wc.fz 8
 have y9 := k2w.wc.fz 9
 have y10 := k2w.wc.fz 10
 have y11 := k2w.wc.fz 11
 have y12 := k2w.wc.fz 12
 have A3 : Aside (Wk (((((w2.setCell ⟨W, 8, none⟩ (.int .i64 0)).setCell ⟨W, 9, none⟩ (.int .u8 0)).setCell ⟨W, 10, none⟩ (.int .i64 0)).setCell ⟨W, 11, none⟩ (.int .i64 0)).setCell ⟨W, 12, none⟩ (.string ⟨#[]⟩)) lo hi B D b R W A { c with ev := none } n I cf q ∧ Cells (((((w2.setCell ⟨W, 8, none⟩ (.int .i64 0)).setCell ⟨W, 9, none⟩ (.int .u8 0)).setCell ⟨W, 10, none⟩ (.int .i64 0)).setCell ⟨W, 11, none⟩ (.int .i64 0)).setCell ⟨W, 12, none⟩ (.string ⟨#[]⟩)) H z5 43 ∧ Cells (((((w2.setCell ⟨W, 8, none⟩ (.int .i64 0)).setCell ⟨W, 9, none⟩ (.int .u8 0)).setCell ⟨W, 10, none⟩ (.int .i64 0)).setCell ⟨W, 11, none⟩ (.int .i64 0)).setCell ⟨W, 12, none⟩ (.string ⟨#[]⟩)) (H + 1) #[.int .i64 2, .int .u8 k1, .int .i64 k2, .int .i64 0, .string str] 43 ∧ Fw lo hi w (((((w2.setCell ⟨W, 8, none⟩ (.int .i64 0)).setCell ⟨W, 9, none⟩ (.int .u8 0)).setCell ⟨W, 10, none⟩ (.int .i64 0)).setCell ⟨W, 11, none⟩ (.int .i64 0)).setCell ⟨W, 12, none⟩ (.string ⟨#[]⟩))) := ⟨k3, c3H, c3J, A1.out.2.2.1.trans f3⟩
 clear k2w c2H c2J f2 hw2 o3 k3 c3H c3J f3
 go_upto_region 5 with fail
 obtain ⟨w3, hw3⟩ : ∃ w3, (((((w2.setCell ⟨W, 8, none⟩ (.int .i64 0)).setCell ⟨W, 9, none⟩ (.int .u8 0)).setCell ⟨W, 10, none⟩ (.int .i64 0)).setCell ⟨W, 11, none⟩ (.int .i64 0)).setCell ⟨W, 12, none⟩ (.string ⟨#[]⟩)) = w3 := ⟨_, rfl⟩
 rw [hw3] at A3 ⊢
 clear hw3 d8 d9 d10 d11 d12 y8 y9 y10 y11 y12
 have A4 : Aside (Wk w3 lo hi B D b R W A { c with ev := none } n I cf q ∧ Cells w3 H z5 43 ∧ Cells w3 (H + 1) #[.int .i64 2, .int .u8 k1, .int .i64 k2, .int .i64 0, .string str] 43 ∧ Fw lo hi w w3 ∧ hi ≤ H) := ⟨A3.out.1, A3.out.2.1, A3.out.2.2.1, A3.out.2.2.2, A1.out.2.2.2.1⟩
 have g0 : w3.cell? ⟨H + 1, 0, none⟩ = some (.int .i64 2) := (A4.out.2.2.1.cell 0).trans rfl
 clear A3 A1
 go_upto_region 7 with (go_at_call 31; refine (ka _ A4.out.1).mono ?_; rintro r4 w4 ⟨rfl, h4, f4⟩)
 have A5 : Aside (Wa w4 lo hi B D b R W A { c with ev := none } n I o yF ∧ Cells w4 H z5 43 ∧ Cells w4 (H + 1) #[.int .i64 2, .int .u8 k1, .int .i64 k2, .int .i64 0, .string str] 43 ∧ Fw lo hi w w4 ∧ hi ≤ H) := ⟨h4, A4.out.2.1.fw f4 A4.out.2.2.2.2, A4.out.2.2.1.fw f4 (by have := A4.out.2.2.2.2; omega), A4.out.2.2.2.1.trans f4, A4.out.2.2.2.2⟩
 clear h4 f4 g0 A4 ka
 have g0 : w4.cell? ⟨H + 1, 0, none⟩ = some (.int .i64 2) := (A5.out.2.2.1.cell 0).trans rfl
 have g1 : w4.cell? ⟨H + 1, 1, none⟩ = some (.int .u8 k1) := (A5.out.2.2.1.cell 1).trans rfl
 have g2 : w4.cell? ⟨H + 1, 2, none⟩ = some (.int .i64 k2) := (A5.out.2.2.1.cell 2).trans rfl
 have g3 : w4.cell? ⟨H + 1, 3, none⟩ = some (.int .i64 0) := (A5.out.2.2.1.cell 3).trans rfl
 have g4 : w4.cell? ⟨H + 1, 4, none⟩ = some (.string str) := (A5.out.2.2.1.cell 4).trans rfl
 have e0 : w4.cell? ⟨H, 0, none⟩ = some (.int .i64 0) := (A5.out.2.1.cell 0).trans rfl
 have e1 : w4.cell? ⟨H, 1, none⟩ = some (.int .u8 0) := (A5.out.2.1.cell 1).trans rfl
 have e2 : w4.cell? ⟨H, 2, none⟩ = some (.int .i64 0) := (A5.out.2.1.cell 2).trans rfl
 have e3 : w4.cell? ⟨H, 3, none⟩ = some (.int .i64 0) := (A5.out.2.1.cell 3).trans rfl
 have e4 : w4.cell? ⟨H, 4, none⟩ = some (.string ⟨#[]⟩) := (A5.out.2.1.cell 4).trans rfl
 have z0 := A5.out.2.1.frozen 0
 have z1 := A5.out.2.1.frozen 1
 have z2 := A5.out.2.1.frozen 2
 have z3 := A5.out.2.1.frozen 3
 have z4 := A5.out.2.1.frozen 4
 go_wp2_with fail
 (try simp only [Exit.inBlock, Exit.then])
 obtain ⟨a1, a2, a3, a4, a5⟩ := A5.out
 have hC2 := set5 a2 (.int .i64 2) (.int .u8 k1) (.int .i64 k2) (.int .i64 0) (.string str)
 have o5 := only_five H w4 (.int .i64 2) (.int .u8 k1) (.int .i64 k2) (.int .i64 0) (.string str)
 refine bodyPost_ret (v := .tuple #[.agg #[.int .i64 2, .int .u8 k1, .int .i64 k2, .int .i64 0, .string str], .bool true]) ?_ rfl ?_
 ·rw [results_cell_tmp rfl]
  simp [asAddr, Result.andThen, ret43 hC2 rfl]
 ·exact ⟨rfl, a1.var a5 a2 o5, a4.var AH.out o5⟩
end
end Go.Proofs.YtogednaamndpgaaGreatDoor

/-
 The walker's calls Reset and New.
-/
namespace Go.Proofs.YtogednaamndpgaaGreatDoor
open Go.RowKit
set_option linter.unusedVariables false
theorem made_name : ∃ cur : Array Value, cur.size = 256 ∧ ∀ X : World, (Instr.makeSlice 22 (.int .i64 0) (.int .i64 256)).run Tryz.prog X = .ok (.slice (some ⟨X.heap.size, 0, none⟩) 0 256) (X.alloc (.cells cur 5)) := by
 obtain ⟨i, hi, hz, hs, hb⟩ := ginfo_parts ginfo5
 refine ⟨madeCells (Value.int .u8 0).cells ((256 : Int).toNat * 1), ?_, fun X => ?_⟩
 ·show (madeCells #[Value.int .u8 0] _).size = _
  rw [← Array.length_toList, toList_madeCells_one]
  exact (List.length_replicate ..).trans rfl
 ·have := run_make (P := Tryz.prog) X 22 5 i _ Tryz.underlying22 hi hz .i64 .i64 0 256 (by omega) (by omega) (by rw [hb]; omega) (by omega)
  rw [hs] at this
  exact this
def wzero (D A : Nat) (v : Value) : Array Value := #[.pointer (some ⟨D, 0, none⟩), v, .int .u8 0, .slice (some ⟨A, 0, none⟩) 0 256, .int .i64 0, .int .u32 0, .int .u32 0, .int .u32 0, .int .i64 0, .int .u8 0, .int .i64 0, .int .i64 0, .string ⟨#[]⟩, .bool false, .bool false, .int .i64 0]
section
variable {lo hi B D b R W A : Nat} {n I o : List Nat} {cf yF : Cfg} {q : Md} {s : Gs} {c : Gc}
theorem Wk.clear2 {w u : World} {c' : Gc} (h : Wk w lo hi B D b R W A c n I cf q) (o : Only W w u) (hc : Wc u W D A c') (hn : c'.nl = 0) : Wk u lo hi B D b R W A c' [] I cf q := by
 have g := h.g
 have hk : Kq B w u := ⟨Nat.le_of_eq o.size.symm, fun k hk => by
  by_cases e : k = W
  ·subst e
   exact Or.inr ⟨by have := g.l8; have := g.lW; omega, g.WB, _, 65, _, h.wc, Or.inr (Or.inl rfl)⟩
  ·exact Or.inl (o.block k e)⟩
 exact ⟨g, hc, hn, h.nm.none_.keep (o.block A (fun e => g.WA e.symm)), h.inf.kq hk, h.tab.kq hk, by rw [o.size]; exact h.hs⟩
theorem set16 {w : World} {W : Nat} {a0 a1 a2 a3 a4 a5 a6 a7 a8 a9 a10 a11 a12 a13 a14 a15 : Value} (h : Cells w W #[a0, a1, a2, a3, a4, a5, a6, a7, a8, a9, a10, a11, a12, a13, a14, a15] 65) (b0 b1 b2 b3 b4 b5 b6 b7 b8 b9 b10 b11 b12 b13 b14 b15 : Value) : Cells ((((((((((((((((w.setCell ⟨W, 0, none⟩ b0).setCell ⟨W, 1, none⟩ b1).setCell ⟨W, 2, none⟩ b2).setCell ⟨W, 3, none⟩ b3).setCell ⟨W, 4, none⟩ b4).setCell ⟨W, 5, none⟩ b5).setCell ⟨W, 6, none⟩ b6).setCell ⟨W, 7, none⟩ b7).setCell ⟨W, 8, none⟩ b8).setCell ⟨W, 9, none⟩ b9).setCell ⟨W, 10, none⟩ b10).setCell ⟨W, 11, none⟩ b11).setCell ⟨W, 12, none⟩ b12).setCell ⟨W, 13, none⟩ b13).setCell ⟨W, 14, none⟩ b14).setCell ⟨W, 15, none⟩ b15) W #[b0, b1, b2, b3, b4, b5, b6, b7, b8, b9, b10, b11, b12, b13, b14, b15] 65 := by
 have := ((((((((((((((((h.set 0 b0).set 1 b1).set 2 b2).set 3 b3).set 4 b4).set 5 b5).set 6 b6).set 7 b7).set 8 b8).set 9 b9).set 10 b10).set 11 b11).set 12 b12).set 13 b13).set 14 b14).set 15 b15)
 simpa using this
theorem only16 (w : World) (W : Nat) (b0 b1 b2 b3 b4 b5 b6 b7 b8 b9 b10 b11 b12 b13 b14 b15 : Value) : Only W w ((((((((((((((((w.setCell ⟨W, 0, none⟩ b0).setCell ⟨W, 1, none⟩ b1).setCell ⟨W, 2, none⟩ b2).setCell ⟨W, 3, none⟩ b3).setCell ⟨W, 4, none⟩ b4).setCell ⟨W, 5, none⟩ b5).setCell ⟨W, 6, none⟩ b6).setCell ⟨W, 7, none⟩ b7).setCell ⟨W, 8, none⟩ b8).setCell ⟨W, 9, none⟩ b9).setCell ⟨W, 10, none⟩ b10).setCell ⟨W, 11, none⟩ b11).setCell ⟨W, 12, none⟩ b12).setCell ⟨W, 13, none⟩ b13).setCell ⟨W, 14, none⟩ b14).setCell ⟨W, 15, none⟩ b15) := (((((((((((((((((Only.refl W w).setCell 0 _).setCell 1 _).setCell 2 _).setCell 3 _).setCell 4 _).setCell 5 _).setCell 6 _).setCell 7 _).setCell 8 _).setCell 9 _).setCell 10 _).setCell 11 _).setCell 12 _).setCell 13 _).setCell 14 _).setCell 15 _)
theorem reset_mid {w : World} (h : Wk w lo hi B D b R W A c n I cf q) (u : World) (hu : ((((((((((((((((w.setCell ⟨W, 0, none⟩ (.pointer (some ⟨D, 0, none⟩))).setCell ⟨W, 1, none⟩ (.nilFunc)).setCell ⟨W, 2, none⟩ (.int .u8 0)).setCell ⟨W, 3, none⟩ (.slice (some ⟨A, 0, none⟩) 0 256)).setCell ⟨W, 4, none⟩ (.int .i64 0)).setCell ⟨W, 5, none⟩ (.int .u32 0)).setCell ⟨W, 6, none⟩ (.int .u32 0)).setCell ⟨W, 7, none⟩ (.int .u32 0)).setCell ⟨W, 8, none⟩ (.int .i64 0)).setCell ⟨W, 9, none⟩ (.int .u8 0)).setCell ⟨W, 10, none⟩ (.int .i64 0)).setCell ⟨W, 11, none⟩ (.int .i64 0)).setCell ⟨W, 12, none⟩ (.string ⟨#[]⟩)).setCell ⟨W, 13, none⟩ (.bool false)).setCell ⟨W, 14, none⟩ (.bool false)).setCell ⟨W, 15, none⟩ (.int .i64 0)) = u) : Cells u W (wzero D A .nilFunc) 65 ∧ Only W w u := by
 have hc := set16 (show Cells w W #[_, _, _, _, _, _, _, _, _, _, _, _, _, _, _, _] 65 from h.wc) (.pointer (some ⟨D, 0, none⟩)) (.nilFunc) (.int .u8 0) (.slice (some ⟨A, 0, none⟩) 0 256) (.int .i64 0) (.int .u32 0) (.int .u32 0) (.int .u32 0) (.int .i64 0) (.int .u8 0) (.int .i64 0) (.int .i64 0) (.string ⟨#[]⟩) (.bool false) (.bool false) (.int .i64 0)
 have o0 := only16 w W (.pointer (some ⟨D, 0, none⟩)) (.nilFunc) (.int .u8 0) (.slice (some ⟨A, 0, none⟩) 0 256) (.int .i64 0) (.int .u32 0) (.int .u32 0) (.int .u32 0) (.int .i64 0) (.int .u8 0) (.int .i64 0) (.int .i64 0) (.string ⟨#[]⟩) (.bool false) (.bool false) (.int .i64 0)
 rw [hu] at hc o0
 exact ⟨hc, o0⟩
theorem reset_fin {w u : World} (h : Wk w lo hi B D b R W A c n I cf q) (hc : Cells u W (wzero D A .nilFunc) 65) (o0 : Only W w u) : Wk (u.drew.setCell ⟨W, 1, none⟩ (fnv W 29)) lo hi B D b R W A (gcof s0 none) [] I cf q ∧ Fw lo hi w (u.drew.setCell ⟨W, 1, none⟩ (fnv W 29)) := by
 have o1 : Only W w u.drew := ⟨o0.os, o0.tape, o0.output, o0.size, o0.block⟩
 have hc2 : Cells (u.drew.setCell ⟨W, 1, none⟩ (fnv W 29)) W (wcs W D A (gcof s0 none)) 65 := Cells.set (Cells.drew hc) 1 _
 exact ⟨h.clear2 (o1.setCell 1 _) hc2 rfl, h.fw (o1.setCell 1 _)⟩
set_option maxHeartbeats 2000000 in
theorem wreset_c (w : World) (hw : Wk w lo hi B D b R W A c n I cf q) : Calls Tryz.prog 16 #[.pointer (some ⟨W, 0, none⟩)] w fun e w' => e = .returned (.tuple #[]) ∧ Wk w' lo hi B D b R W A (gcof s0 none) [] I cf q ∧ Fw lo hi w w' := by
 have d0 := hw.wc.a0
 have d1 := hw.wc.a1
 have d2 := hw.wc.a2
 have d3 := hw.wc.a3
 have d4 := hw.wc.a4
 have d5 := hw.wc.a5
 have d6 := hw.wc.a6
 have d7 := hw.wc.a7
 have d8 := hw.wc.a8
 have d9 := hw.wc.a9
 have d10 := hw.wc.a10
 have d11 := hw.wc.a11
 have d12 := hw.wc.a12
 have d13 := hw.wc.a13
 have d14 := hw.wc.a14
 have d15 := hw.wc.a15
 have z0 := hw.wc.fz 0
 have z1 := hw.wc.fz 1
 have z2 := hw.wc.fz 2
 have z3 := hw.wc.fz 3
 have z4 := hw.wc.fz 4
 have z5 := hw.wc.fz 5
 have z6 := hw.wc.fz 6
 have z7 := hw.wc.fz 7
 have z8 := hw.wc.fz 8
 have z9 := hw.wc.fz 9
 have z10 := hw.wc.fz 10
 have z11 := hw.wc.fz 11
 have z12 := hw.wc.fz 12
 have z13 := hw.wc.fz 13
 have z14 := hw.wc.fz 14
 have z15 := hw.wc.fz 15
 have AW : Aside (Wk w lo hi B D b R W A c n I cf q) := hw
 clear hw
 go_enter Tryz.func16, Tryz.ntmps16
 go_upto_region 1 with fail
 go_region
 obtain ⟨u, hu⟩ : ∃ u, ((((((((((((((((w.setCell ⟨W, 0, none⟩ (.pointer (some ⟨D, 0, none⟩))).setCell ⟨W, 1, none⟩ (.nilFunc)).setCell ⟨W, 2, none⟩ (.int .u8 0)).setCell ⟨W, 3, none⟩ (.slice (some ⟨A, 0, none⟩) 0 256)).setCell ⟨W, 4, none⟩ (.int .i64 0)).setCell ⟨W, 5, none⟩ (.int .u32 0)).setCell ⟨W, 6, none⟩ (.int .u32 0)).setCell ⟨W, 7, none⟩ (.int .u32 0)).setCell ⟨W, 8, none⟩ (.int .i64 0)).setCell ⟨W, 9, none⟩ (.int .u8 0)).setCell ⟨W, 10, none⟩ (.int .i64 0)).setCell ⟨W, 11, none⟩ (.int .i64 0)).setCell ⟨W, 12, none⟩ (.string ⟨#[]⟩)).setCell ⟨W, 13, none⟩ (.bool false)).setCell ⟨W, 14, none⟩ (.bool false)).setCell ⟨W, 15, none⟩ (.int .i64 0)) = u := ⟨_, rfl⟩
 have hm := reset_mid AW.out u hu
 have d1' : u.cell? ⟨W, 1, none⟩ = some .nilFunc := (hm.1.cell 1).trans rfl
 have z1' : u.frozen? ⟨W, 1, none⟩ = false := hm.1.frozen 1
 have AM : Aside (Cells u W (wzero D A .nilFunc) 65 ∧ Only W w u) := hm
 rw [hu]
 clear hu hm d0 d1 d2 d3 d4 d5 d6 d7 d8 d9 d10 d11 d12 d13 d14 d15 z0 z1 z2 z3 z4 z5 z6 z7 z8 z9 z10 z11 z12 z13 z14 z15
 go_wp2_with fail
 first | go_end0 | (refine bodyPost_ret (results_none rfl _ _ _) rfl ?_)
 exact ⟨rfl, reset_fin AW.out AM.out.1 AM.out.2⟩
end
end Go.Proofs.YtogednaamndpgaaGreatDoor

/-
 A new walker.
-/
namespace Go.Proofs.YtogednaamndpgaaGreatDoor
open Go.RowKit
set_option linter.unusedVariables false
section
variable {lo hi B D b R W A : Nat} {n I o : List Nat} {cf yF : Cfg} {q : Md} {s : Gs} {c : Gc}
structure Wj (w u : World) (v : Value) : Prop where
 ex : ∃ B W A, v = .pointer (some ⟨W, 0, none⟩) ∧ Wg w.heap.size (W + 1) B W A ∧ Cells u W (wzero (B + 3) A .nilFunc) 65 ∧ Nm u A [] ∧ Inf u B (B + 3) (B + 2) (B + 1) [] MM c0 .want ∧ Below w.heap.size w u ∧ u.heap.size = W + 1
theorem inf_alloc {w : World} {M : Nat} (h : Inf w B D b R I M cf q) (ob : Obj) : Inf (w.alloc ob) B D b R I M cf q := h.kq (Kq.of_below ((Below.refl _ w).alloc (Nat.le_refl _) _) (Nat.le_refl _))
theorem new_1 {w w1 : World} {cur : Array Value} (h8 : 8 ≤ w.heap.size) (hcur : cur.size = 256) (h : Inf w1 w.heap.size (w.heap.size + 3) (w.heap.size + 2) (w.heap.size + 1) [] MM c0 .want) (k : Below w.heap.size w w1) : Wj w ((w1.alloc (.cells cur 5)).alloc (.cells (wzero (w.heap.size + 3) w1.heap.size .nilFunc) 65)) (.pointer (some ⟨w1.heap.size + 1, 0, none⟩)) := by
 have hl := h.lt
 have e1 : (w1.alloc (.cells cur 5)).heap.size = w1.heap.size + 1 := by simp
 have c1 : Cells (w1.alloc (.cells cur 5)) w1.heap.size cur 5 := Cells.new w1 cur 5
 have c2 := Cells.new (w1.alloc (.cells cur 5)) (wzero (w.heap.size + 3) w1.heap.size .nilFunc) 65
 rw [e1] at c2
 refine ⟨w.heap.size, w1.heap.size + 1, w1.heap.size, rfl, ⟨h8, Nat.le_refl _, by omega, by omega, by omega, by omega, by omega, by omega, Or.inr (by omega), Or.inr hl⟩, c2, ⟨Nat.zero_le _, cur, c1.alloc _, hcur, rfl⟩, inf_alloc (inf_alloc h _) _, ?_, ?_⟩
 ·exact (k.alloc (by omega) _).alloc (by omega) _
 ·simp
theorem new_2 {w w1 : World} {cur : Array Value} (h8 : 8 ≤ w.heap.size) (hcur : cur.size = 256) (h : Inf w1 (w.heap.size + 1) (w.heap.size + 1 + 3) (w.heap.size + 1 + 2) (w.heap.size + 1 + 1) [] MM c0 .want) (k : Below (w.heap.size + 1) (w.alloc (.cells cur 5)) w1) : Wj w (w1.alloc (.cells (wzero (w.heap.size + 1 + 3) w.heap.size .nilFunc) 65)) (.pointer (some ⟨w1.heap.size, 0, none⟩)) := by
 have hl := h.lt
 have c1 : Cells (w.alloc (.cells cur 5)) w.heap.size cur 5 := Cells.new w cur 5
 have c2 := Cells.new w1 (wzero (w.heap.size + 1 + 3) w.heap.size .nilFunc) 65
 have c3 := Cells.below c1 k (by omega)
 refine ⟨w.heap.size + 1, w1.heap.size, w.heap.size, rfl, ⟨h8, by omega, by omega, by omega, by omega, by omega, by omega, by omega, Or.inr (by omega), Or.inl (by omega)⟩, c2, ⟨Nat.zero_le _, cur, c3.alloc _, hcur, rfl⟩, inf_alloc h _, ?_, ?_⟩
 ·have k2 : Below w.heap.size w w1 := ((Below.refl _ w).alloc (Nat.le_refl _) _).trans ⟨k.os, k.tape, k.output, k.size, fun i hi => k.block i (by omega)⟩
  exact k2.alloc (by omega) _
 ·simp
theorem Wj.drew {w u : World} {v : Value} (h : Wj w u v) : Wj w u.drew v := by
 obtain ⟨B, W, A, h1, h2, h3, h4, h5, h6, h7⟩ := h.ex
 exact ⟨B, W, A, h1, h2, h3, h4, h5.kq ⟨Nat.le_refl _, fun k _ => Or.inl rfl⟩, ⟨h6.os, h6.tape, h6.output, h6.size, h6.block⟩, h7⟩
theorem new_3 {u : World} (g : Wg lo (W + 1) B W A) (h : Cells u W (wzero (B + 3) A .nilFunc) 65) (hn : Nm u A []) (hi : Inf u B (B + 3) (B + 2) (B + 1) [] MM c0 .want) (ht : Ctab u) (hs : u.heap.size = W + 1) : Wk (u.setCell ⟨W, 1, none⟩ (fnv W 29)) lo (W + 1) B (B + 3) (B + 2) (B + 1) W A (gcof s0 none) [] [] c0 .want := by
 have o : Only W u (u.setCell ⟨W, 1, none⟩ (fnv W 29)) := (Only.refl W u).setCell 1 _
 have hk : Kq B u (u.setCell ⟨W, 1, none⟩ (fnv W 29)) := ⟨Nat.le_of_eq o.size.symm, fun k hk => by
  by_cases e : k = W
  ·subst e
   exact Or.inr ⟨by have := g.l8; have := g.lW; omega, g.WB, _, 65, _, h, Or.inr (Or.inl rfl)⟩
  ·exact Or.inl (o.block k e)⟩
 exact ⟨g, Cells.set h 1 _, rfl, hn.keep (o.block A (fun e => g.WA e.symm)), hi.kq hk, ht.kq hk, by rw [o.size, hs]; exact Nat.le_refl _⟩
set_option maxHeartbeats 2000000 in
theorem wnew_c (w : World) (ht : Tabs w) (hc : Ctab w) (h8 : 8 ≤ w.heap.size) : Calls Tryz.prog 14 #[] w fun e w' => ∃ B W A, e = .returned (.pointer (some ⟨W, 0, none⟩)) ∧ Wk w' w.heap.size (W + 1) B (B + 3) (B + 2) (B + 1) W A (gcof s0 none) [] [] c0 .want ∧ Below w.heap.size w w' := by
 obtain ⟨cur, hcur, hmk⟩ := made_name
 have kn := fun (X : World) (h : Tabs X) => new_i MM X h
 have AT : Aside (Tabs w ∧ Ctab w ∧ 8 ≤ w.heap.size ∧ cur.size = 256) := ⟨ht, hc, h8, hcur⟩
 have AB : Aside (∀ X, Below w.heap.size w X → Tabs X) := fun X k => ht.below k h8
 clear ht hc h8 hcur
 go_enter Tryz.func14, Tryz.ntmps14
 go_upto_region 1 with fail
 go_cut [1] (fun v wc => Wj w wc v)
 case first =>
  go_region_with (first | (go_at_call 28; refine (kn _ (AB.out _ (by first | exact Below.refl _ w | exact Below.drewN2 (Below.refl _ w) 1 | exact (Below.refl _ w).drew | exact (Below.refl _ w).alloc (Nat.le_refl _) _ | exact ((Below.refl _ w).alloc (Nat.le_refl _) _).drew))).mono ?_; rintro e1 w1 ⟨rfl, i1, b1⟩))
  ·go_wp2_with fail
   go_meet
   first | exact new_1 AT.out.2.2.1 AT.out.2.2.2 i1 ⟨b1.os, b1.tape, b1.output, b1.size, b1.block⟩ | exact (new_1 AT.out.2.2.1 AT.out.2.2.2 i1 ⟨b1.os, b1.tape, b1.output, b1.size, b1.block⟩).drew
  ·go_wp2_with fail
   go_meet
   have e : (w.alloc (.cells cur 5)).heap.size = w.heap.size + 1 := by simp
   have i2 : Inf w1 (w.heap.size + 1) (w.heap.size + 1 + 3) (w.heap.size + 1 + 2) (w.heap.size + 1 + 1) [] MM c0 .want := e ▸ i1
   have b2 : Below (w.heap.size + 1) (w.alloc (.cells cur 5)) w1 := by
    have b3 : Below (w.alloc (.cells cur 5)).heap.size (w.alloc (.cells cur 5)) w1 := ⟨b1.os, b1.tape, b1.output, b1.size, b1.block⟩
    rwa [e] at b3
   first | exact new_2 AT.out.2.2.1 AT.out.2.2.2 i2 b2 | exact (new_2 AT.out.2.2.1 AT.out.2.2.2 i2 b2).drew
 case rest =>
  obtain ⟨B, W, A, rfl, hg, hc1, hn1, hi1, hb1, hs1⟩ := hcut.ex
  have d1 : wc.cell? ⟨W, 1, none⟩ = some .nilFunc := (hc1.cell 1).trans rfl
  have z1 : wc.frozen? ⟨W, 1, none⟩ = false := hc1.frozen 1
  have AR : Aside (Wg w.heap.size (W + 1) B W A ∧ Cells wc W (wzero (B + 3) A .nilFunc) 65 ∧ Nm wc A [] ∧ Inf wc B (B + 3) (B + 2) (B + 1) [] MM c0 .want ∧ Below w.heap.size w wc ∧ wc.heap.size = W + 1) := ⟨hg, hc1, hn1, hi1, hb1, hs1⟩
  clear hcut hg hc1 hn1 hi1 hb1 hs1 kn hmk AB
  go_wp2_with fail
  first | go_ret | go_ret2
  obtain ⟨g, a2, a3, a4, a5, a6⟩ := AR.out
  refine ⟨B, W, A, rfl, new_3 g a2 a3 a4 (AT.out.2.1.below a5 (by have := AT.out.2.2.1; omega)) a6, ?_⟩
  have o : Only W wc (wc.setCell ⟨W, 1, none⟩ (fnv W 29)) := (Only.refl W wc).setCell 1 _
  exact a5.trans (o.below g.lW)
end
end Go.Proofs.YtogednaamndpgaaGreatDoor

/-
 The walker's calls, told of the machine: it has events to tell, behind which it stands at a state.
-/
namespace Go.Proofs.YtogednaamndpgaaGreatDoor
open Go.RowKit
set_option linter.unusedVariables false
section
variable {s : Gs} {x : Nat}
/-- What a step may tell. -/
def Gform (w : Nat) (r : Gs × List Evn) : Prop := (r.2 = [] ∧ r.1.nx ≠ 9) ∨ (∃ m, r.2 = [(256, m)] ∧ r.1.nx = 9 ∧ r.1.ip = [] ∧ r.1.y = c0 ∧ r.1.why = w) ∨ (r.2 = [(257, [])] ∧ r.1.nx = 12 ∧ r.1.why = w)
theorem form_opn (s : Gs) : Gform s.why (gopn s) := Or.inr (Or.inl ⟨_, rfl, rfl, rfl, rfl, rfl⟩)
theorem form_field (s : Gs) : Gform s.why (gfield s) := by
 unfold gfield
 split
 ·exact Or.inl ⟨rfl, by simp⟩
 ·split
  ·exact Or.inl ⟨rfl, by simp⟩
  ·split
   ·exact Or.inl ⟨rfl, by simp⟩
   ·split
    ·exact Or.inl ⟨rfl, by simp⟩
    ·exact form_opn s
theorem form_txt (h9 : s.nx ≠ 9) : Gform s.why (gtxt x s) := by
 unfold gtxt
 split
 ·exact form_field (gcnt x s)
 ·split
  ·exact Or.inl ⟨rfl, h9⟩
  ·exact Or.inl ⟨rfl, h9⟩
theorem gst_form (hn : s.nx ≤ 13) (h9 : s.nx ≠ 9) : Gform s.why (gst s x) := by
 have cases13 : s.nx = 0 ∨ s.nx = 1 ∨ s.nx = 2 ∨ s.nx = 3 ∨ s.nx = 4 ∨ s.nx = 5 ∨ s.nx = 6 ∨ s.nx = 7 ∨ s.nx = 8 ∨ s.nx = 10 ∨ s.nx = 11 ∨ s.nx = 12 ∨ s.nx = 13 := by omega
 rcases cases13 with e | e | e | e | e | e | e | e | e | e | e | e | e
 ·have eg : gst s x = (if x = 31 then gbgn x s else gbad 40 s, []) := by unfold gst; rw [e]; rfl
  rw [eg]
  refine Or.inl ⟨rfl, ?_⟩
  show (if x = 31 then gbgn x s else gbad 40 s).nx ≠ 9
  split
  ·simp [gbgn]
  ·exact h9
 ·have eg : gst s x = (if x = 139 then { gcnt x s with nx := 2 } else gbad 40 s, []) := by unfold gst; rw [e]; rfl
  rw [eg]
  refine Or.inl ⟨rfl, ?_⟩
  show (if x = 139 then { gcnt x s with nx := 2 } else gbad 40 s).nx ≠ 9
  split
  ·simp
  ·exact h9
 ·have eg : gst s x = (if x = 8 then { gcnt x s with nx := 3 } else gbad 41 s, []) := by unfold gst; rw [e]; rfl
  rw [eg]
  refine Or.inl ⟨rfl, ?_⟩
  show (if x = 8 then { gcnt x s with nx := 3 } else gbad 41 s).nx ≠ 9
  split
  ·simp
  ·exact h9
 ·have eg : gst s x = (if x < 32 then { gcnt x s with fl := x, nx := 4, lf := 6 } else gbad 42 s, []) := by unfold gst; rw [e]; rfl
  rw [eg]
  refine Or.inl ⟨rfl, ?_⟩
  show (if x < 32 then { gcnt x s with fl := x, nx := 4, lf := 6 } else gbad 42 s).nx ≠ 9
  split
  ·simp
  ·exact h9
 ·have eg : gst s x = gany x s := by unfold gst; rw [e]; rfl
  rw [eg]
  unfold gany
  split
  ·exact form_field { gcnt x s with lf := s.lf - 1 }
  ·exact Or.inl ⟨rfl, h9⟩
 ·have eg : gst s x = gext (gath x (gcnt x s)) := by unfold gst; rw [e]; rfl
  rw [eg]
  unfold gext
  split
  ·split
   ·exact Or.inl ⟨rfl, h9⟩
   ·split
    ·exact form_field (gath x (gcnt x s))
    ·exact Or.inl ⟨rfl, by simp⟩
  ·exact Or.inl ⟨rfl, h9⟩
 ·have eg : gst s x = gtxt x (gnam x s) := by unfold gst; rw [e]; rfl
  rw [eg]
  have q : (gnam x s).why = s.why ∧ (gnam x s).nx = s.nx := by unfold gnam; split <;> exact ⟨rfl, rfl⟩
  have := form_txt (s := gnam x s) (x := x) (by rw [q.2]; exact h9)
  rwa [q.1] at this
 ·have eg : gst s x = gtxt x s := by unfold gst; rw [e]; rfl
  rw [eg]
  exact form_txt h9
 ·have eg : gst s x = ghsm (gath x s) := by unfold gst; rw [e]; rfl
  rw [eg]
  unfold ghsm
  split
  ·split
   ·exact form_opn (gath x s)
   ·exact Or.inl ⟨rfl, h9⟩
  ·exact Or.inl ⟨rfl, h9⟩
 ·have eg : gst s x = gdsm (gath x s) := by unfold gst; rw [e]; rfl
  rw [eg]
  unfold gdsm
  split
  ·split
   ·exact Or.inl ⟨rfl, by simp⟩
   ·exact Or.inl ⟨rfl, h9⟩
  ·exact Or.inl ⟨rfl, h9⟩
 ·have eg : gst s x = gdsz (gath x s) := by unfold gst; rw [e]; rfl
  rw [eg]
  unfold gdsz
  split
  ·split
   ·exact Or.inr (Or.inr ⟨rfl, rfl, rfl⟩)
   ·exact Or.inl ⟨rfl, h9⟩
  ·exact Or.inl ⟨rfl, h9⟩
 ·have eg : gst s x = (if x = 31 then gbgn x s else { gnou x s with nx := 13 }, []) := by unfold gst; rw [e]; rfl
  rw [eg]
  refine Or.inl ⟨rfl, ?_⟩
  show (if x = 31 then gbgn x s else { gnou x s with nx := 13 }).nx ≠ 9
  split <;> simp [gbgn]
 ·have eg : gst s x = (gnou x s, []) := by unfold gst; rw [e]; rfl
  rw [eg]
  refine Or.inl ⟨rfl, ?_⟩
  show (gnou x s).nx ≠ 9
  unfold gnou
  split <;> exact h9
end
section
variable {lo hi B D b R W A : Nat} {n I o : List Nat} {cf yF : Cfg} {q : Md} {s s1 : Gs} {c : Gc} {E : List Evn}
/-- The walker has E to tell, behind which it stands at s. -/
def Wz (w : World) (lo hi B D b R W A : Nat) (s : Gs) (E : List Evn) : Prop :=
 (E = [] ∧ ∃ I cf q, Wk w lo hi B D b R W A (gcof s none) s.nm I cf q ∧ (s.nx = 9 → s.why = 0 → I = s.ip ∧ q = .want ∧ cf.out = s.y.out)) ∨
 (∃ e, E = [e] ∧ (e.1 = 256 ∨ e.1 = 257) ∧ s.why = 0 ∧ ∃ I cf q, Wk w lo hi B D b R W A (gcof s (some e)) s.nm I cf q ∧ (s.nx = 9 → I = s.ip ∧ q = .want ∧ cf.out = s.y.out)) ∨
 (∃ x rest o l0 cf q, E = (x, []) :: rest.map (fun b => (b, [])) ∧ s.y.out = o ++ x :: rest ∧ s.nm = [] ∧ Stands s.ip MM s.y ∧ s.sm = sm 0 s.y.out ∧ s.gv = s.y.out.length ∧ s.nx = (if endC s.y then 10 else 9) ∧ s.lf = (if endC s.y then 4 else l0) ∧ s.why = badC s.y ∧ Wk w lo hi B D b R W A { gcof s (some (x, [])) with sm := sm 0 (o ++ [x]), gv := (o ++ [x]).length % 4294967296, nx := 141, lf := l0, why := 0 } [] s.ip cf q ∧ Pd (o ++ [x]) cf q)
theorem Wz.out {w u : World} (h : Wz w lo hi B D b R W A s E) (k : Below hi w u) (ht : ∀ i, i < w.heap.size → u.heap[i]? = w.heap[i]? ∨ ∃ cs ty fr, w.heap[i]? = some (.cells cs ty fr) ∧ (ty = 5 ∨ ty = 22 ∨ ty = 43)) : Wz u lo hi B D b R W A s E := by
 rcases h with ⟨h1, I, cf, q, h2, h3⟩ | ⟨e, h1, h2, h0, I, cf, q, h3, h4⟩ | ⟨x, rest, o, l0, cf, q, h1, h2, h3, h4, h5, h6, h7, h8, h9, h10, h11⟩
 ·exact Or.inl ⟨h1, I, cf, q, h2.out k ht, h3⟩
 ·exact Or.inr (Or.inl ⟨e, h1, h2, h0, I, cf, q, h3.out k ht, h4⟩)
 ·exact Or.inr (Or.inr ⟨x, rest, o, l0, cf, q, h1, h2, h3, h4, h5, h6, h7, h8, h9, h10.out k ht, h11⟩)
theorem Wz.wk {w : World} (h : Wz w lo hi B D b R W A s E) : ∃ c n I cf q, Wk w lo hi B D b R W A c n I cf q := by
 rcases h with ⟨h1, I, cf, q, h2, h3⟩ | ⟨e, h1, h2, h0, I, cf, q, h3, h4⟩ | ⟨x, rest, o, l0, cf, q, h1, h2, h3, h4, h5, h6, h7, h8, h9, h10, h11⟩
 ·exact ⟨_, _, _, _, _, h2⟩
 ·exact ⟨_, _, _, _, _, h3⟩
 ·exact ⟨_, _, _, _, _, h10⟩
theorem Wz.below {w u : World} {C : Nat} (h : Wz w lo hi B D b R W A s E) (k : Below C w u) (hC : w.heap.size ≤ C) : Wz u lo hi B D b R W A s E := by
 obtain ⟨_, _, _, _, _, hk⟩ := h.wk
 have := hk.hs
 exact h.out ⟨k.os, k.tape, k.output, k.size, fun i hi' => k.block i (by omega)⟩ fun i hi' => Or.inl (k.block i (by omega))
set_option maxHeartbeats 1000000 in
theorem deflated_c (x : Nat) (hx : x < 256) (w : World) (hw : Wk w lo hi B D b R W A (gcof s none) n s.ip cf .want) (ho : cf.out = s.y.out) (hsm : s.sm = sm 0 s.y.out) (hgv : s.gv = s.y.out.length) (h0 : s.why = 0) (hs : Stands (s.ip ++ [x]) MM yF) (hb : s.y.out.length + 1 < MM) : Calls Tryz.prog 141 #[.pointer (some ⟨W, 0, none⟩), .int .u8 (x : Int)] w fun e w' => e = .returned (.tuple #[]) ∧ Wa w' lo hi B D b R W A (gcof s none) n (s.ip ++ [x]) s.y.out yF ∧ Fw lo hi w w' := by
 have kp := put_any x hx w hw.inf (by rw [ho]; omega)
 rw [ho] at kp
 have ka := fun (X : World) (cf1 : Cfg) (q1 : Md) (h : Wk X lo hi B D b R W A (gcof s none) n (s.ip ++ [x]) cf1 q1) (hp : Pd s.y.out cf1 q1) => ask_c X h hp hsm (by show s.gv % 4294967296 = _; rw [hgv]) rfl h0 hs hb
 have d0 := hw.wc.a0
 have AW : Aside (Wk w lo hi B D b R W A (gcof s none) n s.ip cf .want) := hw
 clear hw ho hsm hgv h0 hs hb hx
 go_enter Tryz.func141, Tryz.ntmps141
 go_wp2_with (first
  | (go_at_call 144; refine kp.mono ?_; rintro e1 w1 ⟨rfl, f1, cf1, q1, i1, p1⟩)
  | (go_at_call 31; refine (ka _ cf1 q1 (AW.out.fm f1 i1) p1).mono ?_; rintro e2 w2 ⟨rfl, h2, f2⟩))
 first | go_end0 | (refine bodyPost_ret (results_none rfl _ _ _) rfl ?_)
 exact ⟨rfl, h2, (AW.out.ffm f1).trans f2⟩
theorem wp_wz {w : World} {r : Gs × List Evn} (h : Wp w lo hi B D b R W A r) (hf : Gform 0 r) : Wz w lo hi B D b R W A r.1 r.2 := by
 rcases h with ⟨h1, I, cf, q, h2⟩ | ⟨m, h1, h2⟩ | ⟨h1, I, cf, q, h2⟩
 ·refine Or.inl ⟨h1, I, cf, q, h2, fun e => ?_⟩
  rcases hf with ⟨_, q2⟩ | ⟨m, q2, _⟩ | ⟨q2, _⟩
  ·exact absurd e q2
  ·rw [h1] at q2; cases q2
  ·rw [h1] at q2; cases q2
 ·rcases hf with ⟨q2, _⟩ | ⟨m', q2, q3, q4, q5, q6⟩ | ⟨q2, _⟩
  ·rw [h1] at q2; cases q2
  ·exact Or.inr (Or.inl ⟨(256, m), h1, Or.inl rfl, q6, [], c0, .want, h2, fun _ => ⟨q4.symm, rfl, by rw [q5]⟩⟩)
  ·rw [h1] at q2; cases q2
 ·rcases hf with ⟨q2, _⟩ | ⟨m', q2, _⟩ | ⟨q2, q3, q4⟩
  ·rw [h1] at q2; cases q2
  ·rw [h1] at q2; cases q2
  ·exact Or.inr (Or.inl ⟨(257, []), h1, Or.inr rfl, q4, I, cf, q, h2, fun e => by rw [q3] at e; cases e⟩)
theorem wz_put (x : Nat) (hx : x < 256) (w : World) (hz : Wz w lo hi B D b R W A s []) (hok : Gok s) (h0 : s.why = 0) (hs : Sp s x s1 E) (hb : s.nx = 9 → s.y.out.length + 1 < MM) : Calls Tryz.prog 15 #[.pointer (some ⟨W, 0, none⟩), .int .u8 (x : Int)] w fun e w' => e = .returned (.bool true) ∧ Wz w' lo hi B D b R W A s1 E ∧ Fw lo hi w w' := by
 rcases hz with ⟨_, I, cf, q, hw, hd⟩ | ⟨e, h1, _⟩ | ⟨x, rest, o, l0, cf, q, h1, _⟩
 ·rcases hs with ⟨h9, y, hy, rfl, rfl⟩ | ⟨h9, rfl, rfl⟩
  ·obtain ⟨rfl, rfl, ho⟩ := hd h9 h0
   obtain ⟨d1, d2, d3, d4⟩ := hok.d9 h0 h9
   have hst := deflated_c x hx w hw ho d3 d4 h0 hy (hb h9)
   have e141 : (gcof s none).nx = 141 := by show pfn s.nx = 141; rw [h9]; rfl
   have key := wput_gen 141 (by simp) (fun w' => Wa w' lo hi B D b R W A (gcof s none) s.nm (s.ip ++ [x]) s.y.out y ∧ Fw lo hi w w') x w hw.wc e141 rfl h0 rfl hst
   have hnm := hok.ne (by omega)
   refine key.mono ?_
   rintro e w' ⟨rfl, hwa, hf⟩
   refine ⟨rfl, ?_, hf⟩
   rcases hwa with ⟨x0, rest, cf', q', a1, a2, a3⟩ | ⟨a1, cf', q', a2, a3, a4⟩
   ·refine Or.inr (Or.inr ⟨x0, rest, s.y.out, s.lf, cf', q', ?_, a1, hnm, hy, rfl, rfl, rfl, rfl, rfl, ?_, a3⟩)
    ·show (y.out.drop s.y.out.length).map _ = _
     rw [a1, List.drop_left]
     rfl
    ·rw [hnm] at a2
     have ec : ({ gcof s none with sm := sm 0 (s.y.out ++ [x0]), gv := (s.y.out ++ [x0]).length % 4294967296, ev := some (x0, []) } : Gc) = { gcof (gdat s x y) (some (x0, [])) with sm := sm 0 (s.y.out ++ [x0]), gv := (s.y.out ++ [x0]).length % 4294967296, nx := 141, lf := s.lf, why := 0 } := by
      unfold gcof gdat
      simp only [h9, h0]
      rfl
     rw [ec] at a2
     exact a2
   ·refine Or.inl ⟨?_, s.ip ++ [x], cf', q', ?_, fun e9 ew => ?_⟩
    ·rw [a1, List.drop_length]; rfl
    ·have ec : ({ gcof s none with nx := if endC y then 47 else (gcof s none).nx, lf := if endC y then 4 else (gcof s none).lf, why := badC y } : Gc) = gcof (gdat s x y) none := by
      unfold gcof gdat
      simp only [h9, d3, d4, a1]
      by_cases ee : endC y = true
      ·simp only [if_pos ee]; rfl
      ·simp only [if_neg ee]
     rw [ec] at a2
     exact a2
    ·have e1 : ¬ endC y = true := fun q => by
      have : (if endC y then 10 else 9) = 9 := e9
      rw [if_pos q] at this; cases this
     have nov : ¬ Over y := by
      rintro (q | ⟨k, q⟩)
      ·exact e1 (done_c3 q).1
      ·have h1 : badC y = 0 := ew
       rw [(bad_c3 q).2.1] at h1
       exact bad_nz hy q h1
     exact ⟨rfl, a4 nov, a3.trans a1.symm⟩
  ·have hst := step_no9 hok h0 h9 x hx w hw
   have key := wput_gen (pfn s.nx) (pfn_in s.nx) (fun w' => Wp w' lo hi B D b R W A (gst s x) ∧ Fw lo hi w w') x w hw.wc rfl rfl h0 rfl hst
   refine key.mono ?_
   rintro e w' ⟨rfl, hwp, hf⟩
   have hform := gst_form (x := x) hok.nx h9
   rw [h0] at hform
   exact ⟨rfl, wp_wz hwp hform, hf⟩
 ·cases h1
 ·cases h1
theorem wz_next (e : Evn) (w : World) (hz : Wz w lo hi B D b R W A s (e :: E)) (hb : s.y.out.length + 1 < MM + E.length) : Calls Tryz.prog 20 #[.pointer (some ⟨W, 0, none⟩)] w fun r w' => r = .returned (.tuple #[.agg (gevv e.1 e.2), .bool true]) ∧ Wz w' lo hi B D b R W A s E ∧ Fw lo hi w w' := by
 rcases hz with ⟨h1, _⟩ | ⟨e', h1, h2, h0, I, cf, q, h3, h4⟩ | ⟨x, rest, o, l0, cf, q, h1, h2, h3, h4, h5, h6, h7, h8, h9, h10, h11⟩
 ·cases h1
 ·obtain ⟨rfl, rfl⟩ := List.cons.inj h1
  have key : Calls Tryz.prog 20 #[.pointer (some ⟨W, 0, none⟩)] w fun r w' => r = .returned (.tuple #[.agg (gevv e.1 e.2), .bool true]) ∧ Wk w' lo hi B D b R W A { gcof s (some e) with ev := none } s.nm I cf q ∧ Fw lo hi w w' := by
   rcases h2 with q2 | q2
   ·exact wnext_one e 1 0 2 (by rw [q2]; rfl) (by rw [q2]; rfl) (by rw [q2]; rfl) rfl rfl w h3 rfl
   ·exact wnext_one e 3 0 0 (by rw [q2]; rfl) (by rw [q2]; rfl) (by rw [q2]; rfl) rfl rfl w h3 rfl
  exact key.mono fun r w' ⟨k1, k2, k3⟩ => ⟨k1, Or.inl ⟨rfl, I, cf, q, k2, fun e _ => h4 e⟩, k3⟩
 ·obtain ⟨rfl, rfl⟩ := List.cons.inj h1
  have hx : x < 256 := h4.oct x (by rw [h2]; simp)
  have hle : (o ++ [x]).length + 1 < MM := by
   rw [h2] at hb
   simp only [List.length_append, List.length_cons, List.length_map, List.length_nil] at hb ⊢
   omega
  have key := wnext_byte (x, []) (x : Int) 0 (by show gk1 x = 2; unfold gk1; rw [if_neg (by omega), if_neg (by omega)]) (by show gk2 x = _; unfold gk2; rw [if_pos hx]) (by show gk3 x = 0; unfold gk3; rw [if_neg (by omega)]) w h10 rfl h11 rfl rfl rfl h4 hle
  refine key.mono ?_
  rintro r w' ⟨k1, k2, k3⟩
  refine ⟨k1, ?_, k3⟩
  rcases k2 with ⟨x', rest', cf', q', a1, a2, a3⟩ | ⟨a1, cf', q', a2, a3, a4⟩
  ·have er : rest = x' :: rest' := by
    rw [h2, List.append_assoc] at a1
    have := List.append_cancel_left a1
    simpa using this
   refine Or.inr (Or.inr ⟨x', rest', o ++ [x], l0, cf', q', by rw [er]; rfl, a1, h3, h4, h5, h6, h7, h8, h9, a2, a3⟩)
  ·have er : rest = [] := by
    have a5 := a1
    rw [h2] at a5
    have := List.append_cancel_left a5
    simpa using this
   refine Or.inl ⟨by rw [er]; rfl, s.ip, cf', q', ?_, fun e9 ew => ⟨rfl, a4 ?_, a3.trans a1.symm⟩⟩
   ·rw [h3]
    have es : sm 0 (o ++ [x]) = s.sm := by rw [h5, a1]
    have eg : (o ++ [x]).length % 4294967296 = s.gv % 4294967296 := by rw [h6, a1]
    have en : (if endC s.y then 47 else 141) = pfn s.nx := by rw [h7]; split <;> rfl
    have ec : ({ gcof s none with sm := sm 0 (o ++ [x]), gv := (o ++ [x]).length % 4294967296, nx := if endC s.y then 47 else 141, lf := if endC s.y then 4 else l0, why := badC s.y } : Gc) = gcof s none := by
     rw [es, eg, en, ← h8, ← h9]
     rfl
    have a2' : Wk w' lo hi B D b R W A { gcof s none with sm := sm 0 (o ++ [x]), gv := (o ++ [x]).length % 4294967296, nx := if endC s.y then 47 else 141, lf := if endC s.y then 4 else l0, why := badC s.y } [] s.ip cf' q' := a2
    rw [ec] at a2'
    exact a2'
   ·rintro (q | ⟨k, q⟩)
    ·rw [h7, (done_c3 q).1] at e9; cases e9
    ·rw [h9, (bad_c3 q).2.1] at ew
     exact bad_nz h4 q ew
theorem wz_next_no (w : World) (hz : Wz w lo hi B D b R W A s []) : Calls Tryz.prog 20 #[.pointer (some ⟨W, 0, none⟩)] w fun r w' => r = .returned (.tuple #[.agg z5, .bool false]) ∧ Wz w' lo hi B D b R W A s [] ∧ Below w.heap.size w w' := by
 rcases hz with ⟨h1, I, cf, q, h2, h3⟩ | ⟨e, h1, _⟩ | ⟨x, rest, o, l0, cf, q, h1, _⟩
 ·exact (wnext_no w h2 rfl).mono fun r w' ⟨k1, k2, k3⟩ => ⟨k1, Or.inl ⟨h1, I, cf, q, k2, h3⟩, k3⟩
 ·cases h1
 ·cases h1
theorem wz_put_no (x : Nat) (w : World) (hz : Wz w lo hi B D b R W A s E) (hn : E ≠ [] ∨ s.why ≠ 0) : Calls Tryz.prog 15 #[.pointer (some ⟨W, 0, none⟩), .int .u8 (x : Int)] w fun e w' => e = .returned (.bool false) ∧ w = w' := by
 rcases hz with ⟨h1, I, cf, q, h2, h3⟩ | ⟨e, h1, h2, h0, I, cf, q, h3, h4⟩ | ⟨x, rest, o, l0, cf, q, h1, h2, h3, h4, h5, h6, h7, h8, h9, h10, h11⟩
 ·exact wput_no x w h2.wc (Or.inr (Or.inl (by rcases hn with q | q; exact absurd h1 q; exact q)))
 ·exact wput_no x w h3.wc (Or.inl (by show some e ≠ none; simp))
 ·exact wput_no _ w h10.wc (Or.inl (by show some _ ≠ none; simp))
/-- What is told as the reason. -/
def zwhy (s : Gs) : List Evn → Nat
 | [] => s.why
 | _ :: _ => 0
theorem wz_reason (w : World) (hz : Wz w lo hi B D b R W A s E) : Calls Tryz.prog 18 #[.pointer (some ⟨W, 0, none⟩)] w fun e w' => e = .returned (.int .i64 (zwhy s E : Int)) ∧ w = w' := by
 rcases hz with ⟨rfl, I, cf, q, h2, h3⟩ | ⟨e, rfl, h2, h0, I, cf, q, h3, h4⟩ | ⟨x, rest, o, l0, cf, q, rfl, h2, h3, h4, h5, h6, h7, h8, h9, h10, h11⟩
 ·exact wreason_c w h2.wc
 ·have := wreason_c w h3.wc
  rw [show (gcof s (some e)).why = 0 from h0] at this
  exact this
 ·exact wreason_c w h10.wc
/-- The end: what it comes to. -/
def zfin (s : Gs) : Nat := if s.why ≠ 0 then s.why else if s.wh = true then 0 else 1
/-- The walker was told the end. -/
def We (w : World) (lo hi B D b R W A : Nat) (y : Nat) : Prop := ∃ c n I cf q, Wk w lo hi B D b R W A c n I cf q ∧ c.ev = none ∧ c.why = y ∧ (c.why ≠ 0 ∨ c.en = true)
theorem wz_end (w : World) (hz : Wz w lo hi B D b R W A s []) : Calls Tryz.prog 19 #[.pointer (some ⟨W, 0, none⟩)] w fun e w' => e = .returned (.tuple #[]) ∧ We w' lo hi B D b R W A (zfin s) ∧ Fw lo hi w w' := by
 rcases hz with ⟨h1, I, cf, q, h2, h3⟩ | ⟨e, h1, _⟩ | ⟨x, rest, o, l0, cf, q, h1, _⟩
 ·unfold zfin
  by_cases h0 : s.why = 0
  ·rw [if_neg (fun q => q h0)]
   exact (wend_yes w h2 rfl h0 rfl _ rfl).mono fun e w' ⟨k1, k2, k3⟩ => ⟨k1, ⟨_, _, _, _, _, k2, rfl, rfl, Or.inr rfl⟩, k3⟩
  ·rw [if_pos h0]
   exact (wend_no w h2.wc (Or.inr (Or.inl h0))).mono fun e w' ⟨k1, k2⟩ => by
    subst k2
    exact ⟨k1, ⟨_, _, _, _, _, h2, rfl, rfl, Or.inl h0⟩, Fw.refl _ _ _⟩
 ·cases h1
 ·cases h1
theorem we_reason {y : Nat} (w : World) (h : We w lo hi B D b R W A y) : Calls Tryz.prog 18 #[.pointer (some ⟨W, 0, none⟩)] w fun e w' => e = .returned (.int .i64 (y : Int)) ∧ w = w' := by
 obtain ⟨c, n, I, cf, q, h1, h2, rfl, h4⟩ := h
 exact wreason_c w h1.wc
theorem we_put {y : Nat} (x : Nat) (w : World) (h : We w lo hi B D b R W A y) : Calls Tryz.prog 15 #[.pointer (some ⟨W, 0, none⟩), .int .u8 (x : Int)] w fun e w' => e = .returned (.bool false) ∧ w = w' := by
 obtain ⟨c, n, I, cf, q, h1, h2, h3, h4⟩ := h
 exact wput_no x w h1.wc (Or.inr h4)
theorem we_next {y : Nat} (w : World) (h : We w lo hi B D b R W A y) : Calls Tryz.prog 20 #[.pointer (some ⟨W, 0, none⟩)] w fun r w' => r = .returned (.tuple #[.agg z5, .bool false]) ∧ We w' lo hi B D b R W A y ∧ Below w.heap.size w w' := by
 obtain ⟨c, n, I, cf, q, h1, h2, h3, h4⟩ := h
 exact (wnext_no w h1 h2).mono fun r w' ⟨k1, k2, k3⟩ => ⟨k1, ⟨c, n, I, cf, q, k2, h2, h3, h4⟩, k3⟩
theorem wz_reset (w : World) (hz : Wz w lo hi B D b R W A s E) : Calls Tryz.prog 16 #[.pointer (some ⟨W, 0, none⟩)] w fun e w' => e = .returned (.tuple #[]) ∧ Wz w' lo hi B D b R W A s0 [] ∧ Fw lo hi w w' := by
 obtain ⟨c, n, I, cf, q, h⟩ := hz.wk
 exact (wreset_c w h).mono fun e w' ⟨k1, k2, k3⟩ => ⟨k1, Or.inl ⟨rfl, I, cf, q, k2, fun e => by cases e⟩, k3⟩
theorem wz_new (w : World) (ht : Tabs w) (hc : Ctab w) (h8 : 8 ≤ w.heap.size) : Calls Tryz.prog 14 #[] w fun e w' => ∃ B W A, e = .returned (.pointer (some ⟨W, 0, none⟩)) ∧ Wz w' w.heap.size (W + 1) B (B + 3) (B + 2) (B + 1) W A s0 [] ∧ Below w.heap.size w w' :=
 (wnew_c w ht hc h8).mono fun e w' ⟨B, W, A, k1, k2, k3⟩ => ⟨B, W, A, k1, Or.inl ⟨rfl, [], c0, .want, k2, fun e => by cases e⟩, k3⟩
end
end Go.Proofs.YtogednaamndpgaaGreatDoor

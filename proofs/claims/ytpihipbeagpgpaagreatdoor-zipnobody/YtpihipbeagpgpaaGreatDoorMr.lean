/-
  Own texts of this seat, one behind the other: what each says stands ahead of it.
-/
import Derived.Test.YtpihipbeagpgpaaGreatDoorMq
import Derived.Laws.Rows
import Derived.Test.YtpihipbeagpgpaaGreatDoorMk
/-
 The walker stays as it is where an event of a call's own turns. No walk.
-/
namespace Go.Proofs.YtpihipbeagpgpaaGreatDoor
open Go.RowKit
set_option linter.unusedVariables false
def z5 : Array Value := #[.int .i64 0, .int .u8 0, .int .i64 0, .int .i64 0, .string ⟨#[]⟩]
theorem size46 : (Tryz.prog.info? 46).map (·.size) = some 5 := by kernel_rfl
theorem ret46 {w : World} {g : Nat} {cs : Array Value} (h : Cells w g cs 46) (hc : cs.size = 5) : (loadVar 46 ⟨g, 0, none⟩).run Tryz.prog w = .ok (.agg cs) w := by
 exact run_loadVar_row (P := Tryz.prog) w g 46 46 cs (0, 0) _ h Tryz.underlying46 rfl (by rw [hc]; exact size46)
theorem zset5 {w : World} {H : Nat} {a0 b0 c0 d0 e0 : Value} (h : Cells w H #[a0, b0, c0, d0, e0] 46) (a b c d e : Value) : Cells (((((w.setCell ⟨H, 0, none⟩ a).setCell ⟨H, 1, none⟩ b).setCell ⟨H, 2, none⟩ c).setCell ⟨H, 3, none⟩ d).setCell ⟨H, 4, none⟩ e) H #[a, b, c, d, e] 46 :=
 have := ((((h.set 0 a).set 1 b).set 2 c).set 3 d).set 4 e
 by simpa using this
theorem zonly_five (H : Nat) (w : World) (a b c d e : Value) : Only H w (((((w.setCell ⟨H, 0, none⟩ a).setCell ⟨H, 1, none⟩ b).setCell ⟨H, 2, none⟩ c).setCell ⟨H, 3, none⟩ d).setCell ⟨H, 4, none⟩ e) := (((((Only.refl H w).setCell 0 _).setCell 1 _).setCell 2 _).setCell 3 _).setCell 4 _
section
variable {lo hi B D b R W H : Nat} {I : List Nat} {cf : Cfg} {q : Md} {c : Zc} {s : Zs} {v td : Value} {E : List Evn} {w u : World} {cs : Array Value}
theorem Wk.var (h : Wk w lo hi B D b R W c I cf q) (hH : hi ≤ H) (hc : Cells w H cs 46) (o : Only H w u) : Wk u lo hi B D b R W c I cf q := by
 have g := h.g
 have h9 := g.l9; have hlW := g.lW; have hWh := g.hW; have hBh := g.hB
 have hk : Kq6 B w u := ⟨Nat.le_of_eq o.size.symm, fun k hk => by
  by_cases e : k = H
  ·subst e
   exact Or.inr ⟨by omega, Or.inr (by omega), _, 46, _, hc, by unfold Kt6; simp⟩
  ·exact Or.inl (o.block k e)⟩
 exact ⟨g, h.wc.keep (o.block W (by omega)), h.inf.kq6 hk, h.tab.kq6 hk, h.mg.keep (o.block 0 (by omega)), by rw [o.size]; exact h.hs⟩
theorem Kz.var (hc : Cells w H cs 46) (o : Only H w u) : Kz hi w u := fun p _ _ ⟨cs', t, fr, e, hq⟩ => o.block p fun hp => by
 subst hp
 unfold Cells at hc
 rw [hc] at e
 cases e
 unfold Bq at hq
 simp at hq
theorem Wz.var (h : Wz w lo hi B D b R W s E) (hH : hi ≤ H) (hc : Cells w H cs 46) (o : Only H w u) : Wz u lo hi B D b R W s E := by
 rcases h with ⟨h1, v, td, I, cf, q, k, h2, h3⟩ | ⟨s1, v, I, cf, q, e, h1, h2, h3, k⟩ | ⟨s1, v, I, cf, q, h1, e, h2, h3, k⟩ | ⟨s1, x, I, cf, q, h1, e, h2, h3, h4, h5, k⟩ | ⟨s1, x, rest, o', cf, q, h1, e, h2, h3, h4, h5, h6, h7, k, h8⟩
 ·exact Or.inl ⟨h1, v, td, I, cf, q, k.var hH hc o, fun e => (h2 e).kz (Kz.var hc o), h3⟩
 ·exact Or.inr (Or.inl ⟨s1, v, I, cf, q, e, h1, h2, h3, k.var hH hc o⟩)
 ·exact Or.inr (Or.inr (Or.inl ⟨s1, v, I, cf, q, h1, e, h2, h3, k.var hH hc o⟩))
 ·exact Or.inr (Or.inr (Or.inr (Or.inl ⟨s1, x, I, cf, q, h1, e, h2, h3, h4, h5, k.var hH hc o⟩)))
 ·exact Or.inr (Or.inr (Or.inr (Or.inr ⟨s1, x, rest, o', cf, q, h1, e, h2, h3, h4, h5, h6, h7, k.var hH hc o, h8⟩)))
theorem Wz.out (h : Wz w lo hi B D b R W s E) (k0 : Below hi w u) (ht : ∀ i, i < w.heap.size → u.heap[i]? = w.heap[i]? ∨ ∃ cs ty fr, w.heap[i]? = some (.cells cs ty fr) ∧ (ty = 5 ∨ ty = 22 ∨ ty = 9)) : Wz u lo hi B D b R W s E := by
 rcases h with ⟨h1, v, td, I, cf, q, k, h2, h3⟩ | ⟨s1, v, I, cf, q, e, h1, h2, h3, k⟩ | ⟨s1, v, I, cf, q, h1, e, h2, h3, k⟩ | ⟨s1, x, I, cf, q, h1, e, h2, h3, h4, h5, k⟩ | ⟨s1, x, rest, o', cf, q, h1, e, h2, h3, h4, h5, h6, h7, k, h8⟩
 ·exact Or.inl ⟨h1, v, td, I, cf, q, k.out k0 ht, fun e => (h2 e).kz (Kz.of_out ht), h3⟩
 ·exact Or.inr (Or.inl ⟨s1, v, I, cf, q, e, h1, h2, h3, k.out k0 ht⟩)
 ·exact Or.inr (Or.inr (Or.inl ⟨s1, v, I, cf, q, h1, e, h2, h3, k.out k0 ht⟩))
 ·exact Or.inr (Or.inr (Or.inr (Or.inl ⟨s1, x, I, cf, q, h1, e, h2, h3, h4, h5, k.out k0 ht⟩)))
 ·exact Or.inr (Or.inr (Or.inr (Or.inr ⟨s1, x, rest, o', cf, q, h1, e, h2, h3, h4, h5, h6, h7, k.out k0 ht, h8⟩)))
theorem Wz.wk (h : Wz w lo hi B D b R W s E) : ∃ c I cf q, Wk w lo hi B D b R W c I cf q := by
 rcases h with ⟨h1, v, td, I, cf, q, k, h2, h3⟩ | ⟨s1, v, I, cf, q, e, h1, h2, h3, k⟩ | ⟨s1, v, I, cf, q, h1, e, h2, h3, k⟩ | ⟨s1, x, I, cf, q, h1, e, h2, h3, h4, h5, k⟩ | ⟨s1, x, rest, o', cf, q, h1, e, h2, h3, h4, h5, h6, h7, k, h8⟩
 ·exact ⟨_, _, _, _, k⟩
 ·exact ⟨_, _, _, _, k⟩
 ·exact ⟨_, _, _, _, k⟩
 ·exact ⟨_, _, _, _, k⟩
 ·exact ⟨_, _, _, _, k⟩
theorem Wz.below {C : Nat} (h : Wz w lo hi B D b R W s E) (k : Below C w u) (hC : w.heap.size ≤ C) : Wz u lo hi B D b R W s E := by
 obtain ⟨_, _, _, _, hk⟩ := h.wk
 have := hk.hs
 exact h.out ⟨k.os, k.tape, k.output, k.size, fun i hi' => k.block i (by omega)⟩ fun i hi' => Or.inl (k.block i (by omega))
theorem Fz.var {v : World} (h : Fz lo hi w u) (hH : w.heap.size ≤ H) (o : Only H u v) : Fz lo hi w v := ⟨o.os.trans h.os, o.tape.trans h.tape, o.output.trans h.output, by rw [o.size]; exact h.size, fun k hk => by
 rw [o.block k (by omega)]; exact h.block k hk⟩
theorem Cells.fz {t : TypeId} (h : Cells w H cs t) (k : Fz lo hi w u) (hH : hi ≤ H) (ht : t ≠ 66 ∧ t ≠ 3 ∧ t ≠ 98) : Cells u H cs t := by
 have e := k.stay h.lt (Or.inr hH) (Bt.not h ht)
 unfold Cells at *
 rw [e]; exact h
end
end Go.Proofs.YtpihipbeagpgpaaGreatDoor

/-
 The walker's call Next.
-/
namespace Go.Proofs.YtpihipbeagpgpaaGreatDoor
open Go.RowKit
set_option linter.unusedVariables false
section
variable {lo hi B D b R W : Nat} {I : List Nat} {cf : Cfg} {q : Md} {c : Zc} {s : Zs} {v td : Value} {E : List Evn}
set_option maxHeartbeats 1000000 in
theorem znext_no (w : World) (h : Wk w lo hi B D b R W c I cf q) (he : c.ev = none) : Calls Tryz.prog 23 #[.pointer (some ⟨W, 0, none⟩)] w fun e w' => e = .returned (.tuple #[.agg z5, .bool false]) ∧ ∃ w1, Below w.heap.size w w1 ∧ w.heap.size < w1.heap.size ∧ Cells w1 w.heap.size z5 46 ∧ Only w.heap.size w1 w' := by
 obtain ⟨H, hH⟩ : ∃ H, w.heap.size = H := ⟨_, rfl⟩
 have h1 := h.alloc (.cells z5 46)
 have hC := Cells.new w z5 46
 have d8 : (w.alloc (.cells z5 46)).cell? ⟨W, 269, none⟩ = some (.int .i64 0) := by have := h1.wc.a269; rw [he] at this; exact this
 have hbel : Below w.heap.size w (w.alloc (.cells z5 46)) := (Below.refl _ w).alloc (Nat.le_refl _) _
 have hsz : (w.alloc (.cells z5 46)).heap.size = H + 1 := by rw [← hH]; simp
 have hhs := h.hs
 rw [hH] at hC hhs hbel ⊢
 obtain ⟨w1, hw1⟩ : ∃ w1, w.alloc (.cells z5 46) = w1 := ⟨_, rfl⟩
 rw [hw1] at hC d8 h1 hbel hsz
 have e0 : w1.cell? ⟨H, 0, none⟩ = some (.int .i64 0) := (hC.cell 0).trans rfl
 have e1 : w1.cell? ⟨H, 1, none⟩ = some (.int .u8 0) := (hC.cell 1).trans rfl
 have e2 : w1.cell? ⟨H, 2, none⟩ = some (.int .i64 0) := (hC.cell 2).trans rfl
 have e3 : w1.cell? ⟨H, 3, none⟩ = some (.int .i64 0) := (hC.cell 3).trans rfl
 have e4 : w1.cell? ⟨H, 4, none⟩ = some (.string ⟨#[]⟩) := (hC.cell 4).trans rfl
 have z0 := hC.frozen 0
 have z1 := hC.frozen 1
 have z2 := hC.frozen 2
 have z3 := hC.frozen 3
 have z4 := hC.frozen 4
 have A1 : Aside (Cells w1 H z5 46 ∧ Below H w w1 ∧ hi ≤ H ∧ w1.heap.size = H + 1) := ⟨hC, hbel, hhs, hsz⟩
 clear h h1 hC hbel hhs he hsz
 unfold z5 at hw1
 go_enter Tryz.func23, Tryz.ntmps23
 go_upto_region 1 with fail
 clear hw1
 go_wp2_with fail
 (try simp only [Exit.inBlock, Exit.then])
 obtain ⟨a2, a3, a4, a5⟩ := A1.out
 have hC2 := zset5 a2 (.int .i64 0) (.int .u8 0) (.int .i64 0) (.int .i64 0) (.string ⟨#[]⟩)
 have o5 := zonly_five H w1 (.int .i64 0) (.int .u8 0) (.int .i64 0) (.int .i64 0) (.string ⟨#[]⟩)
 refine bodyPost_ret (v := .tuple #[.agg z5, .bool false]) ?_ rfl ?_
 ·rw [results_cell_tmp rfl]
  simp [asAddr, Result.andThen, ret46 hC2 rfl, z5]
 ·exact ⟨rfl, w1, a3, by omega, a2, o5⟩
set_option maxHeartbeats 2000000 in
theorem znext_gen (k : Nat) (hks : k = 142 ∨ k = 31 ∨ k = 148 ∨ k = 151) (e : Evn) (w : World) (h : Wk w lo hi B D b R W c I cf q) (he : c.ev = some e) (htd : c.td = bm k W) (hst : ∀ X, Wk X lo hi B D b R W { c with ev := none } I cf q → Fz lo hi w X → Calls Tryz.prog k #[.pointer (some ⟨W, 0, none⟩)] X fun r w' => r = .returned (.tuple #[]) ∧ (Wz w' lo hi B D b R W s E ∧ Fz lo hi X w')) : Calls Tryz.prog 23 #[.pointer (some ⟨W, 0, none⟩)] w fun r w' => r = .returned (.tuple #[.agg (gevv e.1 e.2), .bool true]) ∧ (Wz w' lo hi B D b R W s E ∧ Fz lo hi w w') := by
 have AS : Aside (∀ X, Wk X lo hi B D b R W { c with ev := none } I cf q → Fz lo hi w X → Calls Tryz.prog k #[.pointer (some ⟨W, 0, none⟩)] X fun r w' => r = .returned (.tuple #[]) ∧ (Wz w' lo hi B D b R W s E ∧ Fz lo hi X w')) := hst
 clear hst
 obtain ⟨H, hH⟩ : ∃ H, w.heap.size = H := ⟨_, rfl⟩
 obtain ⟨str, hstr⟩ : ∃ str, st e.2 = str := ⟨_, rfl⟩
 obtain ⟨k0, hk0⟩ : ∃ k0, gk1 e.1 = k0 := ⟨_, rfl⟩
 obtain ⟨k1, hk1⟩ : ∃ k1, gk2 e.1 = k1 := ⟨_, rfl⟩
 obtain ⟨k2, hk2⟩ : ∃ k2, gk3 e.1 = k2 := ⟨_, rfl⟩
 have hn0 : (k0 == 0) = false := by
  rw [beq_eq_false_iff_ne, ← hk0]
  exact zev0_some e
 have h1 := h.alloc (.cells z5 46)
 have hC := Cells.new w z5 46
 have d8 : (w.alloc (.cells z5 46)).cell? ⟨W, 269, none⟩ = some (.int .i64 k0) := by have := h1.wc.a269; rw [he, show ev0 (some e) = k0 from hk0] at this; exact this
 have d9 : (w.alloc (.cells z5 46)).cell? ⟨W, 270, none⟩ = some (.int .u8 k1) := by have := h1.wc.a270; rw [he, show ev1 (some e) = k1 from hk1] at this; exact this
 have d10 : (w.alloc (.cells z5 46)).cell? ⟨W, 271, none⟩ = some (.int .i64 k2) := by have := h1.wc.a271; rw [he, show ev2 (some e) = k2 from hk2] at this; exact this
 have d11 := h1.wc.a272
 have d12 : (w.alloc (.cells z5 46)).cell? ⟨W, 273, none⟩ = some (.string str) := by have := h1.wc.a273; rw [he, show st (ev4 (some e)) = str from hstr] at this; exact this
 have y8 := h1.wc.fz 269
 have y9 := h1.wc.fz 270
 have y10 := h1.wc.fz 271
 have y11 := h1.wc.fz 272
 have y12 := h1.wc.fz 273
 have hfw : Fz lo hi w (w.alloc (.cells z5 46)) := Fz.of_below ((Below.refl _ w).alloc (Nat.le_refl _) _) (Nat.le_refl _)
 have hhs := h.hs
 have hsz : (w.alloc (.cells z5 46)).heap.size = H + 1 := by rw [← hH]; simp
 rw [hH] at hC hhs
 obtain ⟨w1, hw1⟩ : ∃ w1, w.alloc (.cells z5 46) = w1 := ⟨_, rfl⟩
 rw [hw1] at hC d8 d9 d10 d11 d12 y8 y9 y10 y11 y12 h1 hfw hsz
 have hr : gevv e.1 e.2 = #[.int .i64 k0, .int .u8 k1, .int .i64 k2, .int .i64 0, .string str] := by unfold gevv; rw [hk0, hk1, hk2, hstr]
 rw [hr]
 have A1 : Aside (Wk w1 lo hi B D b R W c I cf q ∧ Cells w1 H z5 46 ∧ Fz lo hi w w1 ∧ hi ≤ H ∧ w1.heap.size = H + 1) := ⟨h1, hC, hfw, hhs, hsz⟩
 have AH : Aside (w.heap.size = H ∧ c.td = bm k W) := ⟨hH, htd⟩
 clear h h1 hC hfw hhs he hk0 hk1 hk2 hstr hr htd
 unfold z5 at hw1
 go_enter Tryz.func23, Tryz.ntmps23
 go_upto_region 1 with fail
 clear hw1
 clear hH
 go_upto_region 4 with fail
 have k2w := A1.out.1.alloc (.cells #[.int .i64 k0, .int .u8 k1, .int .i64 k2, .int .i64 0, .string str] 46)
 have c2H := (A1.out.2.1).alloc (.cells #[.int .i64 k0, .int .u8 k1, .int .i64 k2, .int .i64 0, .string str] 46)
 have c2J := Cells.new w1 #[.int .i64 k0, .int .u8 k1, .int .i64 k2, .int .i64 0, .string str] 46
 rw [A1.out.2.2.2.2] at c2J
 have f2 : Fz lo hi w1 (w1.alloc (.cells #[.int .i64 k0, .int .u8 k1, .int .i64 k2, .int .i64 0, .string str] 46)) := Fz.of_below ((Below.refl _ w1).alloc (Nat.le_refl _) _) (Nat.le_refl _)
 obtain ⟨w2, hw2⟩ : ∃ w2, w1.alloc (.cells #[.int .i64 k0, .int .u8 k1, .int .i64 k2, .int .i64 0, .string str] 46) = w2 := ⟨_, rfl⟩
 rw [hw2] at k2w c2H c2J f2 ⊢
 have o3 := only5 W w2 (.int .i64 0) (.int .u8 0) (.int .i64 0) (.int .i64 0) (.string ⟨#[]⟩)
 have k3 : Wk (((((w2.setCell ⟨W, 269, none⟩ (.int .i64 0)).setCell ⟨W, 270, none⟩ (.int .u8 0)).setCell ⟨W, 271, none⟩ (.int .i64 0)).setCell ⟨W, 272, none⟩ (.int .i64 0)).setCell ⟨W, 273, none⟩ (.string ⟨#[]⟩)) lo hi B D b R W { c with ev := none } I cf q := k2w.set o3 (k2w.wc.sev none)
 have hWH : W ≠ H ∧ W ≠ H + 1 := by have := A1.out.1.g.hW; have := A1.out.2.2.2.1; omega
 have c3H := Cells.only c2H o3 (Ne.symm hWH.1)
 have c3J := Cells.only c2J o3 (Ne.symm hWH.2)
 have f3 := f2.trans (k2w.fw o3)
 have d8 := k2w.wc.a269
 have d9 := k2w.wc.a270
 have d10 := k2w.wc.a271
 have d11 := k2w.wc.a272
 have d12 := k2w.wc.a273
 have y8 := k2w.wc.fz 269
 have y9 := k2w.wc.fz 270
 have y10 := k2w.wc.fz 271
 have y11 := k2w.wc.fz 272
 have y12 := k2w.wc.fz 273
 have A3 : Aside (Wk (((((w2.setCell ⟨W, 269, none⟩ (.int .i64 0)).setCell ⟨W, 270, none⟩ (.int .u8 0)).setCell ⟨W, 271, none⟩ (.int .i64 0)).setCell ⟨W, 272, none⟩ (.int .i64 0)).setCell ⟨W, 273, none⟩ (.string ⟨#[]⟩)) lo hi B D b R W { c with ev := none } I cf q ∧ Cells (((((w2.setCell ⟨W, 269, none⟩ (.int .i64 0)).setCell ⟨W, 270, none⟩ (.int .u8 0)).setCell ⟨W, 271, none⟩ (.int .i64 0)).setCell ⟨W, 272, none⟩ (.int .i64 0)).setCell ⟨W, 273, none⟩ (.string ⟨#[]⟩)) H z5 46 ∧ Cells (((((w2.setCell ⟨W, 269, none⟩ (.int .i64 0)).setCell ⟨W, 270, none⟩ (.int .u8 0)).setCell ⟨W, 271, none⟩ (.int .i64 0)).setCell ⟨W, 272, none⟩ (.int .i64 0)).setCell ⟨W, 273, none⟩ (.string ⟨#[]⟩)) (H + 1) #[.int .i64 k0, .int .u8 k1, .int .i64 k2, .int .i64 0, .string str] 46 ∧ Fz lo hi w (((((w2.setCell ⟨W, 269, none⟩ (.int .i64 0)).setCell ⟨W, 270, none⟩ (.int .u8 0)).setCell ⟨W, 271, none⟩ (.int .i64 0)).setCell ⟨W, 272, none⟩ (.int .i64 0)).setCell ⟨W, 273, none⟩ (.string ⟨#[]⟩))) := ⟨k3, c3H, c3J, A1.out.2.2.1.trans f3⟩
 clear k2w c2H c2J f2 hw2 o3 k3 c3H c3J f3
 go_upto_region 5 with fail
 obtain ⟨w3, hw3⟩ : ∃ w3, (((((w2.setCell ⟨W, 269, none⟩ (.int .i64 0)).setCell ⟨W, 270, none⟩ (.int .u8 0)).setCell ⟨W, 271, none⟩ (.int .i64 0)).setCell ⟨W, 272, none⟩ (.int .i64 0)).setCell ⟨W, 273, none⟩ (.string ⟨#[]⟩)) = w3 := ⟨_, rfl⟩
 rw [hw3] at A3 ⊢
 clear hw3 d8 d9 d10 d11 d12 y8 y9 y10 y11 y12
 have A4 : Aside (Cells w3 H z5 46 ∧ Cells w3 (H + 1) #[.int .i64 k0, .int .u8 k1, .int .i64 k2, .int .i64 0, .string str] 46 ∧ Fz lo hi w w3 ∧ hi ≤ H) := ⟨A3.out.2.1, A3.out.2.2.1, A3.out.2.2.2, A1.out.2.2.2.1⟩
 have d274 : w3.cell? ⟨W, 274, none⟩ = some (.func (.func k) #[.pointer (some ⟨W, 0, none⟩)] #[]) := by
  have := A3.out.1.wc.a274
  rw [show ({ c with ev := none } : Zc).td = c.td from rfl, AH.out.2] at this
  exact this
 have ka := AS.out w3 A3.out.1 A3.out.2.2.2
 clear A3 A1 AS
 rcases hks with rfl | rfl | rfl | rfl
 all_goals
  go_upto_region 6 with (first
   | (go_at_call 142; refine ka.mono ?_; rintro r4 w4 ⟨rfl, h4, f4⟩)
   | (go_at_call 31; refine ka.mono ?_; rintro r4 w4 ⟨rfl, h4, f4⟩)
   | (go_at_call 148; refine ka.mono ?_; rintro r4 w4 ⟨rfl, h4, f4⟩)
   | (go_at_call 151; refine ka.mono ?_; rintro r4 w4 ⟨rfl, h4, f4⟩))
  have A5 : Aside (Wz w4 lo hi B D b R W s E ∧ Cells w4 H z5 46 ∧ Cells w4 (H + 1) #[.int .i64 k0, .int .u8 k1, .int .i64 k2, .int .i64 0, .string str] 46 ∧ Fz lo hi w w4 ∧ hi ≤ H) := ⟨h4, A4.out.1.fz f4 A4.out.2.2.2 (by decide), A4.out.2.1.fz f4 (by have := A4.out.2.2.2; omega) (by decide), A4.out.2.2.1.trans f4, A4.out.2.2.2⟩
  clear h4 f4 A4 ka d274
  have g0 : w4.cell? ⟨H + 1, 0, none⟩ = some (.int .i64 k0) := (A5.out.2.2.1.cell 0).trans rfl
  have g1 : w4.cell? ⟨H + 1, 1, none⟩ = some (.int .u8 k1) := (A5.out.2.2.1.cell 1).trans rfl
  have g2 : w4.cell? ⟨H + 1, 2, none⟩ = some (.int .i64 k2) := (A5.out.2.2.1.cell 2).trans rfl
  have g3 : w4.cell? ⟨H + 1, 3, none⟩ = some (.int .i64 0) := (A5.out.2.2.1.cell 3).trans rfl
  have g4 : w4.cell? ⟨H + 1, 4, none⟩ = some (.string str) := (A5.out.2.2.1.cell 4).trans rfl
  have e0 : w4.cell? ⟨H, 0, none⟩ = some (.int .i64 0) := (A5.out.2.1.cell 0).trans rfl
  have e1 : w4.cell? ⟨H, 1, none⟩ = some (.int .u8 0) := (A5.out.2.1.cell 1).trans rfl
  have e2 : w4.cell? ⟨H, 2, none⟩ = some (.int .i64 0) := (A5.out.2.1.cell 2).trans rfl
  have e3 : w4.cell? ⟨H, 3, none⟩ = some (.int .i64 0) := (A5.out.2.1.cell 3).trans rfl
  have e4 : w4.cell? ⟨H, 4, none⟩ = some (.string ⟨#[]⟩) := (A5.out.2.1.cell 4).trans rfl
  have z0 := A5.out.2.1.frozen 0
  have z1 := A5.out.2.1.frozen 1
  have z2 := A5.out.2.1.frozen 2
  have z3 := A5.out.2.1.frozen 3
  have z4 := A5.out.2.1.frozen 4
  go_wp2_with fail
  (try simp only [Exit.inBlock, Exit.then])
  obtain ⟨a1, a2, a3, a4, a5⟩ := A5.out
  have hC2 := zset5 a2 (.int .i64 k0) (.int .u8 k1) (.int .i64 k2) (.int .i64 0) (.string str)
  have o5 := zonly_five H w4 (.int .i64 k0) (.int .u8 k1) (.int .i64 k2) (.int .i64 0) (.string str)
  refine bodyPost_ret (v := .tuple #[.agg #[.int .i64 k0, .int .u8 k1, .int .i64 k2, .int .i64 0, .string str], .bool true]) ?_ rfl ?_
  ·rw [results_cell_tmp rfl]
   simp [asAddr, Result.andThen, ret46 hC2 rfl]
  ·exact ⟨rfl, a1.var a5 a2 o5, a4.var (Nat.le_of_eq AH.out.1) o5⟩
end
end Go.Proofs.YtpihipbeagpgpaaGreatDoor

/-
 A walker that is not there.
-/
namespace Go.Proofs.YtpihipbeagpgpaaGreatDoor
open Go.RowKit
set_option linter.unusedVariables false
theorem znil_open (w : World) : Calls Tryz.prog 32 #[.pointer none] w fun e w' => e = .returned (.bool false) ∧ w' = w := by
 go_enter Tryz.func32, Tryz.ntmps32
 go_wp2_with fail
 first | go_ret | go_ret2
 exact ⟨rfl, rfl⟩
theorem znil_put (x : Nat) (w : World) : Calls Tryz.prog 18 #[.pointer none, .int .u8 (x : Int)] w fun e w' => e = .returned (.bool false) ∧ w' = w := by
 have ho := znil_open w
 go_enter Tryz.func18, Tryz.ntmps18
 go_wp2_with (go_at_call 32; refine ho.mono ?_; rintro e1 w1 ⟨rfl, rfl⟩)
 first | go_ret | go_ret2
 exact ⟨rfl, rfl⟩
theorem znil_end (w : World) : Calls Tryz.prog 22 #[.pointer none] w fun e w' => e = .returned (.tuple #[]) ∧ w' = w := by
 have ho := znil_open w
 go_enter Tryz.func22, Tryz.ntmps22
 go_wp2_with (go_at_call 32; refine ho.mono ?_; rintro e1 w1 ⟨rfl, rfl⟩)
 first | go_end0 | (refine bodyPost_ret (results_none rfl _ _ _) rfl ?_)
 exact ⟨rfl, rfl⟩
theorem znil_reset (w : World) : Calls Tryz.prog 19 #[.pointer none] w fun e w' => e = .returned (.tuple #[]) ∧ w' = w := by
 go_enter Tryz.func19, Tryz.ntmps19
 go_wp2_with fail
 first | go_end0 | (refine bodyPost_ret (results_none rfl _ _ _) rfl ?_)
 exact ⟨rfl, rfl⟩
theorem znil_reason (w : World) : Calls Tryz.prog 21 #[.pointer none] w fun e w' => e = .returned (.int .i64 0) ∧ w' = w := by
 go_enter Tryz.func21, Tryz.ntmps21
 go_wp2_with fail
 first | go_ret | go_ret2
 exact ⟨rfl, rfl⟩
theorem znil_next (w : World) : Calls Tryz.prog 23 #[.pointer none] w fun e w' => e = .returned (.tuple #[.agg z5, .bool false]) ∧ Below w.heap.size w w' := by
 obtain ⟨H, hH⟩ : ∃ H, w.heap.size = H := ⟨_, rfl⟩
 have hC := Cells.new w z5 46
 rw [hH] at hC ⊢
 have hbel : Below H w (w.alloc (.cells z5 46)) := by rw [← hH]; exact (Below.refl _ w).alloc (Nat.le_refl _) _
 obtain ⟨w1, hw1⟩ : ∃ w1, w.alloc (.cells z5 46) = w1 := ⟨_, rfl⟩
 rw [hw1] at hC hbel
 have d0 : w1.cell? ⟨H, 0, none⟩ = some (.int .i64 0) := by rw [hC.cell]; rfl
 have d1 : w1.cell? ⟨H, 1, none⟩ = some (.int .u8 0) := by rw [hC.cell]; rfl
 have d2 : w1.cell? ⟨H, 2, none⟩ = some (.int .i64 0) := by rw [hC.cell]; rfl
 have d3 : w1.cell? ⟨H, 3, none⟩ = some (.int .i64 0) := by rw [hC.cell]; rfl
 have d4 : w1.cell? ⟨H, 4, none⟩ = some (.string ⟨#[]⟩) := by rw [hC.cell]; rfl
 have z0 := hC.frozen 0
 have z1 := hC.frozen 1
 have z2 := hC.frozen 2
 have z3 := hC.frozen 3
 have z4 := hC.frozen 4
 have A : Aside (Cells w1 H z5 46 ∧ Below H w w1) := ⟨hC, hbel⟩
 clear hC hbel
 unfold z5 at hw1
 go_enter Tryz.func23, Tryz.ntmps23
 go_upto_region 1 with fail
 clear hw1
 go_wp2_with fail
 (try simp only [Exit.inBlock, Exit.then])
 have hC2 := zset5 A.out.1 (.int .i64 0) (.int .u8 0) (.int .i64 0) (.int .i64 0) (.string ⟨#[]⟩)
 have o2 := zonly_five H w1 (.int .i64 0) (.int .u8 0) (.int .i64 0) (.int .i64 0) (.string ⟨#[]⟩)
 refine bodyPost_ret (v := .tuple #[.agg z5, .bool false]) ?_ rfl ?_
 ·rw [results_cell_tmp rfl]
  simp [asAddr, Result.andThen, ret46 hC2 rfl, z5]
 ·exact ⟨rfl, A.out.2.trans (o2.below (Nat.le_refl _))⟩
end Go.Proofs.YtpihipbeagpgpaaGreatDoor

/-
 A walker that is not there: what the law asks of it, given what awake comes to.
-/
namespace Go.Proofs.YtpihipbeagpgpaaGreatDoor
open Go.RowKit
set_option linter.unusedVariables false
set_option maxHeartbeats 2000000 in
theorem nobody_core (w : World) (ha : ∀ u, Below w.heap.size w u → Calls Tryz.prog 16 #[] u fun e w' => e = .returned (.bool true) ∧ Below u.heap.size u w') (x : Nat) : Calls Tryz.prog 5 #[.int .u8 (x : Int)] w fun e w' => e = .returned (.bool true) ∧ Below w.heap.size w w' := by
 have ke := (znil_end w).mono fun e w' (h : _ ∧ _) => (⟨h.1, h.2.symm⟩ : _ ∧ w = w')
 have kr := (znil_reset w).mono fun e w' (h : _ ∧ _) => (⟨h.1, h.2.symm⟩ : _ ∧ w = w')
 have kn := znil_next w
 unfold z5 at kn
 have A : Aside (∀ u, Below w.heap.size w u → Calls Tryz.prog 16 #[] u fun e w' => e = .returned (.bool true) ∧ Below u.heap.size u w') := ha
 clear ha
 go_enter Tryz.func5, Tryz.ntmps5
 go_upto_region 5 with (first
  | (go_at_call 22; refine ke.mono ?_; rintro e1 w1 ⟨rfl, rfl⟩)
  | (go_at_call 19; refine kr.mono ?_; rintro e2 w2 ⟨rfl, rfl⟩)
  | (go_at_call 23; refine kn.mono ?_; rintro e3 w3 ⟨rfl, b3⟩))
 obtain ⟨H, hH⟩ : ∃ H, w3.heap.size = H := ⟨_, rfl⟩
 have b4 : Below w3.heap.size w3 (w3.alloc (.cells z5 46)) := (Below.refl _ w3).alloc (Nat.le_refl _) _
 have hC := Cells.new w3 z5 46
 rw [hH] at hC
 obtain ⟨w4, hw4⟩ : ∃ w4, w3.alloc (.cells z5 46) = w4 := ⟨_, rfl⟩
 rw [hw4] at b4 hC
 have bel : Below w.heap.size w w4 := b3.trans (b4.mono b3.size)
 have d0 : w4.cell? ⟨H, 0, none⟩ = some (.int .i64 0) := (hC.cell 0).trans rfl
 have d1 : w4.cell? ⟨H, 1, none⟩ = some (.int .u8 0) := (hC.cell 1).trans rfl
 have d2 : w4.cell? ⟨H, 2, none⟩ = some (.int .i64 0) := (hC.cell 2).trans rfl
 have d3 : w4.cell? ⟨H, 3, none⟩ = some (.int .i64 0) := (hC.cell 3).trans rfl
 have d4 : w4.cell? ⟨H, 4, none⟩ = some (.string ⟨#[]⟩) := (hC.cell 4).trans rfl
 have ka := A.out w4 bel
 have kp := (znil_put x w4).mono fun e w' (h : _ ∧ _) => (⟨h.1, h.2.symm⟩ : _ ∧ w4 = w')
 have kq := (znil_reason w4).mono fun e w' (h : _ ∧ _) => (⟨h.1, h.2.symm⟩ : _ ∧ w4 = w')
 have A2 : Aside (Below w.heap.size w w4) := bel
 unfold z5 at hw4
 rw [hw4, hH]
 clear hw4 hH b3 b4 hC bel ke kr kn A
 go_wp2_with (first
  | (go_at_call 18; refine kp.mono ?_; rintro e5 w5 ⟨rfl, rfl⟩)
  | (go_at_call 21; refine kq.mono ?_; rintro e6 w6 ⟨rfl, rfl⟩)
  | (go_at_call 16; refine ka.mono ?_; rintro e7 w7 ⟨rfl, b7⟩))
 first | go_ret | go_ret2
 exact ⟨rfl, A2.out.trans (b7.mono A2.out.size)⟩
end Go.Proofs.YtpihipbeagpgpaaGreatDoor

/-
 The walker's calls New and Reset.
-/
namespace Go.Proofs.YtpihipbeagpgpaaGreatDoor
open Go.RowKit
set_option linter.unusedVariables false
def wnf (i : Nat) : Value := if i = 0 then .pointer none else if i = 1 then .nilFunc else if i < 9 then .int .u64 0 else if i = 9 then .bool false else if i < 266 then .int .u8 0 else if i < 268 then .int .u64 0 else if i = 268 then .int .u32 0 else if i = 269 then .int .i64 0 else if i = 270 then .int .u8 0 else if i < 273 then .int .i64 0 else if i = 273 then .string ⟨#[]⟩ else if i = 274 then .nilFunc else if i < 277 then .bool false else .int .i64 0
theorem wnf_cells : Tryz.zeroCells72 = kz wnf := by kernel_rfl
def wdf (D i : Nat) : Value := upd wnf 0 (.pointer (some ⟨D, 0, none⟩)) i
theorem wdf_cells (D : Nat) : (kz wnf).setIfInBounds 0 (.pointer (some ⟨D, 0, none⟩)) = kz (wdf D) := kz_set _ _ _
theorem wdf_wf (D : Nat) : Wf (wdf D) D (zc s0 .nilFunc .nilFunc none) := by
 refine ⟨rfl, rfl, rfl, rfl, rfl, rfl, rfl, rfl, rfl, rfl, rfl, rfl, rfl, rfl, rfl, rfl, rfl, rfl, rfl, rfl, rfl, rfl, by show (0 : Nat) ≤ 256; decide, fun j x hx => by simp [zc, s0] at hx⟩
section
variable {lo hi B D b R W : Nat} {I : List Nat} {cf : Cfg} {q : Md} {c : Zc} {s : Zs} {v td : Value} {E : List Evn}
theorem znew_1 {w w1 : World} (h9 : 9 ≤ w.heap.size) (ht : Ctab w) (hm : Mtab w) (h : Inf w1 w.heap.size (w.heap.size + 3) (w.heap.size + 2) (w.heap.size + 1) [] MM c0 .want) (k : Below w.heap.size w w1) : Wk (w1.alloc (.cells (kz (wdf (w.heap.size + 3))) 72)) w.heap.size (w1.heap.size + 1) w.heap.size (w.heap.size + 3) (w.heap.size + 2) (w.heap.size + 1) w1.heap.size (zc s0 .nilFunc .nilFunc none) [] c0 .want := by
 have hl := h.lt
 have c2 := Cells.new w1 (kz (wdf (w.heap.size + 3))) 72
 have b1 : Below w1.heap.size w1 (w1.alloc (.cells (kz (wdf (w.heap.size + 3))) 72)) := below_alloc w1 _
 have b2 : Below w.heap.size w (w1.alloc (.cells (kz (wdf (w.heap.size + 3))) 72)) := k.alloc (by omega) _
 exact ⟨⟨h9, Nat.le_refl _, by omega, by omega, by omega, Or.inr (by omega)⟩, ⟨wdf (w.heap.size + 3), c2, wdf_wf _⟩, h.kq (Kq.of_below b1 (Nat.le_refl _)), ht.below b2 (by omega), hm.keep (b2.block 0 (by omega)), by simp⟩
set_option maxRecDepth 20000 in
set_option maxHeartbeats 2000000 in
theorem znew_c (w : World) (ht : Tabs w) (hc : Ctab w) (hm : Mtab w) (h9 : 9 ≤ w.heap.size) : Calls Tryz.prog 17 #[] w fun e w' => ∃ hi B W, e = .returned (.pointer (some ⟨W, 0, none⟩)) ∧ Wz w' w.heap.size hi B (B + 3) (B + 2) (B + 1) W s0 [] ∧ Below w.heap.size w w' := by
 have hz := wnf_cells
 have hq := fun D => wdf_cells D
 have hne : ¬ kz wnf = #[] := fun e => by have := kz_size wnf; rw [e] at this; cases this
 obtain ⟨Z, hZ⟩ : ∃ Z, kz wnf = Z := ⟨_, rfl⟩
 rw [hZ] at hz hne
 simp only [hZ] at hq
 have kn := new_i MM w ht
 have A : Aside (Tabs w ∧ Ctab w ∧ Mtab w ∧ 9 ≤ w.heap.size ∧ (∀ D : Nat, Z.setIfInBounds 0 (.pointer (some ⟨D, 0, none⟩)) = kz (wdf D))) := ⟨ht, hc, hm, h9, hq⟩
 clear ht hc hm h9 hq hZ
 go_enter Tryz.func17, Tryz.ntmps17
 go_upto_region 1 with fail
 go_upto_region 2 with (first | (go_at_call 30; refine kn.mono ?_; rintro e1 w1 ⟨rfl, i1, b1⟩))
 have hh := A.out
 have k2 := znew_1 hh.2.2.2.1 hh.2.1 hh.2.2.1 i1 b1
 have b2 : Below w.heap.size w (w1.alloc (.cells (kz (wdf (w.heap.size + 3))) 72)) := b1.alloc (by have := i1.lt; omega) _
 have hl : w.heap.size ≤ (w1.alloc (.cells (kz (wdf (w.heap.size + 3))) 72)).heap.size := b2.size
 rw [hh.2.2.2.2]
 obtain ⟨w2, hw2⟩ : ∃ w2, w1.alloc (.cells (kz (wdf (w.heap.size + 3))) 72) = w2 := ⟨_, rfl⟩
 obtain ⟨n1, hn1⟩ : ∃ n1, w1.heap.size = n1 := ⟨_, rfl⟩
 rw [hw2] at k2 b2 hl ⊢
 rw [hn1] at k2 ⊢
 have kp := place_c w2 k2
 have AB : Aside (Below w.heap.size w w2 ∧ w.heap.size ≤ w2.heap.size) := ⟨b2, hl⟩
 clear hh k2 b2 hl hw2 i1 b1 hn1 kn A hz hne
 go_wp2_with (go_at_call 31; refine kp.mono ?_; rintro e4 w4 ⟨rfl, h4, f4⟩)
 first | go_ret | go_ret2
 obtain ⟨v, k4, n4⟩ := h4
 exact ⟨_, _, _, rfl, Or.inl ⟨rfl, v, .nilFunc, _, _, _, k4, fun _ => n4 s0 rfl rfl, fun e => absurd e (by decide)⟩, AB.out.1.trans (f4.below AB.out.2)⟩
end
end Go.Proofs.YtpihipbeagpgpaaGreatDoor

/-
 The walker's calls, told of the machine: it has events to tell, behind which it stands at a state.
-/
namespace Go.Proofs.YtpihipbeagpgpaaGreatDoor
open Go.RowKit
set_option linter.unusedVariables false
def nbz (E : List Evn) : Nat := (E.filter fun e => decide (e.1 < 256)).length
theorem nbz_append (E F : List Evn) : nbz (E ++ F) = nbz E + nbz F := by simp [nbz]
theorem nbz_bytes (o : List Nat) (h : Oct o) : nbz (o.map fun b => (b, [])) = o.length := by
 induction o with
 | nil => rfl
 | cons x l ih =>
  have hx : x < 256 := h x (List.mem_cons_self ..)
  have := ih fun y hy => h y (List.mem_cons_of_mem _ hy)
  simp only [nbz, List.map_cons, List.length_cons] at this ⊢
  rw [List.filter_cons_of_pos (by simpa using hx), List.length_cons, this]
theorem zask_y (s : Zs) : (zask s).1.y = s.y := by
 unfold zask zend zbad zplace
 repeat' split
 all_goals rfl
theorem zask_nb (s : Zs) : nbz (zask s).2 = 0 := by
 unfold zask zend zbad zplace
 repeat' split
 all_goals rfl
section
variable {lo hi B D b R W : Nat} {I : List Nat} {cf : Cfg} {q : Md} {c : Zc} {s s1 : Zs} {v td : Value} {E : List Evn} {x : Nat}
theorem wz_put (x : Nat) (hx : x < 256) (w : World) (hz : Wz w lo hi B D b R W s []) (hok : Zi s) (h0 : s.why = 0) (hs : Sp s x s1 E) (hb : s.ph = 5 → s.y.out.length + 1 < MM ∧ s.ip.length < MM) : Calls Tryz.prog 18 #[.pointer (some ⟨W, 0, none⟩), .int .u8 (x : Int)] w fun e w' => e = .returned (.bool true) ∧ (Wz w' lo hi B D b R W s1 E ∧ Fz lo hi w w') := by
 rcases hz with ⟨h1, v, td, I, cf, q, k, h2, h3⟩ | ⟨s2, v, I, cf, q, e, h1, h2, h3, k⟩ | ⟨s2, v, I, cf, q, h1, e, h2, h3, k⟩ | ⟨s2, x, I, cf, q, h1, e, h2, h3, h4, h5, k⟩ | ⟨s2, x, rest, o', cf, q, h1, e, h2, h3, h4, h5, h6, h7, k, h8⟩
 ·obtain ⟨k1, fb, fc, e1, e2, e3⟩ := zstep_c x hx w k (h2 h0) (fun e => h3 e h0) hok h0 hs hb
  exact zput_gen k1 fb fc e2 (fun w' => Wz w' lo hi B D b R W s1 E ∧ Fz lo hi w w') x w k.wc e1 rfl h0 rfl e3
 ·have := congrArg Prod.snd e
  cases this
 ·cases h1
 ·cases h1
 ·cases h1
theorem wz_next (e : Evn) (w : World) (hz : Wz w lo hi B D b R W s (e :: E)) (hb : s.y.out.length + 1 < MM + nbz E) : Calls Tryz.prog 23 #[.pointer (some ⟨W, 0, none⟩)] w fun r w' => r = .returned (.tuple #[.agg (gevv e.1 e.2), .bool true]) ∧ (Wz w' lo hi B D b R W s E ∧ Fz lo hi w w') := by
 rcases hz with ⟨h1, v, td, I, cf, q, k, h2, h3⟩ | ⟨s2, v, I, cf, q, ee, h1, h2, h3, k⟩ | ⟨s2, v, I, cf, q, h1, ee, h2, h3, k⟩ | ⟨s2, x, I, cf, q, h1, ee, h2, h3, h4, h5, k⟩ | ⟨s2, x, rest, o', cf, q, h1, ee, h2, h3, h4, h5, h6, h7, k, h8⟩
 ·cases h1
 ·have e1 : s = (zbegin s2).1 := congrArg Prod.fst ee
  have e2 : e :: E = (256, s2.nm) :: (zbegin s2).2 := congrArg Prod.snd ee
  obtain ⟨rfl, rfl⟩ := List.cons.inj e2
  subst e1
  exact znext_gen 142 (by simp) _ w k rfl rfl fun X hX _ => begin_c X hX h1 h2 h3.1 h3.2.1 h3.2.2
 ·obtain ⟨rfl, rfl⟩ := List.cons.inj h1
  subst ee
  refine znext_gen 31 (by simp) _ w k rfl rfl fun X hX _ => (place_c X hX).mono ?_
  rintro r w' ⟨a1, ⟨v', a2, a3⟩, a4⟩
  have ec : ({ ({ zc s2 v (bm 31 W) (some (257, [])) with ev := none } : Zc) with nx := v' } : Zc) = zc (zplace s2) v' (bm 31 W) none := by
   unfold zc zplace
   simp [h3]
  rw [ec] at a2
  exact ⟨a1, Or.inl ⟨rfl, v', bm 31 W, I, cf, q, a2, fun _ => a3 _ rfl rfl, fun e => by have e' : (0 : Nat) = 4 ∨ (0 : Nat) = 5 := e; omega⟩, a4⟩
 ·obtain ⟨rfl, rfl⟩ := List.cons.inj h1
  subst ee
  exact znext_gen 148 (by simp) _ w k rfl rfl fun X hX _ => storedEnd_c X hX h3 h4 h5
 ·obtain ⟨rfl, rfl⟩ := List.cons.inj h1
  subst ee
  have ho : Oct rest := fun y hy => h5.oct y (by rw [h4]; simp [hy])
  have hle : (o' ++ [x]).length + 1 < MM := by
   rw [zask_y, show nbz ((List.map (fun b => (b, ([] : List Nat))) rest).append (zask s2).2) = rest.length from by rw [List.append_eq, nbz_append, nbz_bytes rest ho, zask_nb]; rfl, h4] at hb
   simp only [List.length_append, List.length_cons, List.length_nil] at hb ⊢
   omega
  have er : rest = s2.y.out.drop (o' ++ [x]).length := by
   rw [h4, show o' ++ x :: rest = (o' ++ [x]) ++ rest by simp, List.drop_left]
  refine znext_gen 151 (by simp) _ w k rfl rfl fun X hX _ => ?_
  have key := ask_c (s := { s2 with sg := sm 0 (o' ++ [x]), gv := (o' ++ [x]).length }) X hX h8 rfl rfl h2 h3.1 rfl h3.2 h5 hle s2 (by rw [← h6, ← h7])
  rw [er]
  exact key
theorem wz_next_no (w : World) (hz : Wz w lo hi B D b R W s []) : Calls Tryz.prog 23 #[.pointer (some ⟨W, 0, none⟩)] w fun r w' => r = .returned (.tuple #[.agg z5, .bool false]) ∧ (Wz w' lo hi B D b R W s [] ∧ Below w.heap.size w w') := by
 have hz0 := hz
 rcases hz with ⟨h1, v, td, I, cf, q, k, h2, h3⟩ | ⟨s2, v, I, cf, q, e, h1, h2, h3, k⟩ | ⟨s2, v, I, cf, q, h1, e, h2, h3, k⟩ | ⟨s2, x, I, cf, q, h1, e, h2, h3, h4, h5, k⟩ | ⟨s2, x, rest, o', cf, q, h1, e, h2, h3, h4, h5, h6, h7, k, h8⟩
 ·refine (znext_no w k rfl).mono ?_
  rintro r w' ⟨k1, w1, k2, k3, k4, k5⟩
  exact ⟨k1, (hz0.below k2 (Nat.le_refl _)).var k.hs k4 k5, k2.trans (k5.below (Nat.le_refl _))⟩
 ·have := congrArg Prod.snd e
  cases this
 ·cases h1
 ·cases h1
 ·cases h1
theorem wz_put_no (x : Nat) (w : World) (hz : Wz w lo hi B D b R W s E) (hn : E ≠ [] ∨ s.why ≠ 0) : Calls Tryz.prog 18 #[.pointer (some ⟨W, 0, none⟩), .int .u8 (x : Int)] w fun e w' => e = .returned (.bool false) ∧ w = w' := by
 rcases hz with ⟨h1, v, td, I, cf, q, k, h2, h3⟩ | ⟨s2, v, I, cf, q, e, h1, h2, h3, k⟩ | ⟨s2, v, I, cf, q, h1, e, h2, h3, k⟩ | ⟨s2, x, I, cf, q, h1, e, h2, h3, h4, h5, k⟩ | ⟨s2, x, rest, o', cf, q, h1, e, h2, h3, h4, h5, h6, h7, k, h8⟩
 ·exact zput_no x w k.wc (Or.inr (Or.inl (by rcases hn with q | q; exact absurd h1 q; exact q)))
 ·exact zput_no x w k.wc (Or.inl (by show some _ ≠ none; simp))
 ·exact zput_no x w k.wc (Or.inl (by show some _ ≠ none; simp))
 ·exact zput_no _ w k.wc (Or.inl (by show some _ ≠ none; simp))
 ·exact zput_no _ w k.wc (Or.inl (by show some _ ≠ none; simp))
def zfin (s : Zs) : Nat := if s.why ≠ 0 then s.why else if s.ph = 1 then 0 else 1
def We (w : World) (lo hi B D b R W : Nat) (y : Nat) : Prop := ∃ c I cf q, Wk w lo hi B D b R W c I cf q ∧ c.ev = none ∧ c.why = y ∧ (c.why ≠ 0 ∨ c.en = true)
theorem wz_end (w : World) (hz : Wz w lo hi B D b R W s []) : Calls Tryz.prog 22 #[.pointer (some ⟨W, 0, none⟩)] w fun e w' => e = .returned (.tuple #[]) ∧ (We w' lo hi B D b R W (zfin s) ∧ Fz lo hi w w') := by
 rcases hz with ⟨h1, v, td, I, cf, q, k, h2, h3⟩ | ⟨s2, v, I, cf, q, e, h1, h2, h3, k⟩ | ⟨s2, v, I, cf, q, h1, e, h2, h3, k⟩ | ⟨s2, x, I, cf, q, h1, e, h2, h3, h4, h5, k⟩ | ⟨s2, x, rest, o', cf, q, h1, e, h2, h3, h4, h5, h6, h7, k, h8⟩
 ·unfold zfin
  by_cases h0 : s.why = 0
  ·rw [if_neg (fun q => q h0)]
   refine (zend_yes w k rfl h0 rfl (if s.ph = 1 then 0 else 1) ?_).mono fun e w' ⟨k1, k2, k3⟩ => ⟨k1, ⟨_, _, _, _, k2, rfl, rfl, Or.inr rfl⟩, k3⟩
   show (if decide (s.ph = 1) = true then 0 else 1) = _
   by_cases hp : s.ph = 1 <;> simp [hp]
  ·rw [if_pos h0]
   exact (zend_no w k.wc (Or.inr (Or.inl h0))).mono fun e w' ⟨k1, k2⟩ => by
    subst k2
    exact ⟨k1, ⟨_, _, _, _, k, rfl, rfl, Or.inl h0⟩, Fz.refl _ _ _⟩
 ·have := congrArg Prod.snd e
  cases this
 ·cases h1
 ·cases h1
 ·cases h1
theorem we_reason {y : Nat} (w : World) (h : We w lo hi B D b R W y) : Calls Tryz.prog 21 #[.pointer (some ⟨W, 0, none⟩)] w fun e w' => e = .returned (.int .i64 (y : Int)) ∧ w = w' := by
 obtain ⟨c, I, cf, q, h1, h2, rfl, h4⟩ := h
 exact zreason_c w h1.wc
end
end Go.Proofs.YtpihipbeagpgpaaGreatDoor

/-
 What is told with a byte: its form; names and parts out of what is told. No walk.
-/
namespace Go.Proofs.YtpihipbeagpgpaaGreatDoor
open Go.RowKit
set_option linter.unusedVariables false
set_option linter.unusedSimpArgs false
structure Fo (s : Zs) (r : Zs × List Evn) : Prop where
 ev : r.2 = [] ∨ r.2 = [(257, [])] ∨ (∃ nm, r.2 = [(256, nm)]) ∨ ∃ nm, r.2 = [(256, nm), (257, [])]
 op : r.1.why = 0 → r.1.ph = 4 ∨ r.1.ph = 5 → ∃ nm, r.2 = [(256, nm)]
 yl : (r.1.y = s.y ∧ r.1.ip = s.ip) ∨ (r.1.y = c0 ∧ r.1.ip = [])
theorem Fo.of {s t : Zs} {r : Zs × List Evn} (h : Fo t r) (e : t.y = s.y ∧ t.ip = s.ip) : Fo s r := ⟨h.ev, h.op, by rw [← e.1, ← e.2]; exact h.yl⟩
theorem fo_bad {s t : Zs} {k : Nat} (hk : k ≠ 0) (e : (t.y = s.y ∧ t.ip = s.ip) ∨ (t.y = c0 ∧ t.ip = [])) : Fo s (zbad k t, []) := ⟨Or.inl rfl, fun h => absurd h hk, e⟩
theorem fo_nil {s t : Zs} (h : t.ph ≠ 4 ∧ t.ph ≠ 5) (e : (t.y = s.y ∧ t.ip = s.ip) ∨ (t.y = c0 ∧ t.ip = [])) : Fo s (t, []) := ⟨Or.inl rfl, fun _ q => by rcases q with q | q; exact absurd q h.1; exact absurd q h.2, e⟩
section
variable {s : Zs}
theorem fo_end (s : Zs) : Fo s (zend s) := by
 unfold zend
 split
 ·split
  ·exact ⟨Or.inr (Or.inl rfl), fun _ q => by rcases q with q | q <;> simp [zplace] at q, Or.inl ⟨rfl, rfl⟩⟩
  ·exact fo_bad (by decide) (Or.inl ⟨rfl, rfl⟩)
 ·exact fo_bad (by decide) (Or.inl ⟨rfl, rfl⟩)
theorem zend_ev (s : Zs) : (zend s).2 = [] ∨ (zend s).2 = [(257, [])] := by
 unfold zend
 split
 ·split
  ·exact Or.inr rfl
  ·exact Or.inl rfl
 ·exact Or.inl rfl
theorem zend_op (s : Zs) : (zend s).1.why = 0 → ¬ ((zend s).1.ph = 4 ∨ (zend s).1.ph = 5) := by
 unfold zend
 split
 ·split
  ·intro _ q; rcases q with q | q <;> simp [zplace] at q
  ·intro e; exact absurd e (show ¬ (44 : Nat) = 0 by decide)
 ·intro e; exact absurd e (show ¬ (45 : Nat) = 0 by decide)
theorem fo_open (s : Zs) : Fo s (zopen s) := by
 unfold zopen zbegin
 split
 ·split
  ·have y := (fo_end { s with ph := 4 }).yl
   have o := zend_op { s with ph := 4 }
   rcases zend_ev { s with ph := 4 } with h | h
   ·exact ⟨Or.inr (Or.inr (Or.inl ⟨s.nm, by rw [h]⟩)), fun e q => absurd q (o e), y⟩
   ·exact ⟨Or.inr (Or.inr (Or.inr ⟨s.nm, by rw [h]⟩)), fun e q => absurd q (o e), y⟩
  ·exact ⟨Or.inr (Or.inr (Or.inl ⟨s.nm, rfl⟩)), fun _ _ => ⟨s.nm, rfl⟩, Or.inl ⟨rfl, rfl⟩⟩
 ·split
  ·exact ⟨Or.inr (Or.inr (Or.inl ⟨s.nm, rfl⟩)), fun e => absurd e (show ¬ (45 : Nat) = 0 by decide), Or.inr ⟨rfl, rfl⟩⟩
  ·exact ⟨Or.inr (Or.inr (Or.inl ⟨s.nm, rfl⟩)), fun _ _ => ⟨s.nm, rfl⟩, Or.inr ⟨rfl, rfl⟩⟩
theorem fo_body (s : Zs) : Fo s (zbody s) := by
 unfold zbody zskip
 split
 ·exact fo_bad (by decide) (Or.inl ⟨rfl, rfl⟩)
 ·split
  ·split
   ·exact fo_nil ⟨by simp [zplace], by simp [zplace]⟩ (Or.inl ⟨rfl, rfl⟩)
   ·exact fo_nil ⟨by simp, by simp⟩ (Or.inl ⟨rfl, rfl⟩)
  ·split
   ·exact fo_bad (by decide) (Or.inl ⟨rfl, rfl⟩)
   ·exact fo_open s
theorem fo_xb (s : Zs) : Fo s (zxb s) := by
 unfold zxb
 split
 ·exact fo_body s
 ·exact fo_nil ⟨by simp, by simp⟩ (Or.inl ⟨rfl, rfl⟩)
theorem fo_rec (s : Zs) : Fo s (zrec s) := by
 unfold zrec
 split
 ·exact fo_xb s
 ·exact fo_nil ⟨by simp, by simp⟩ (Or.inl ⟨rfl, rfl⟩)
theorem fo_pr (n : Nat) (s : Zs) : Fo s (zpr n s) := by
 unfold zpr
 split
 ·exact fo_rec s
 ·exact fo_nil ⟨by simp, by simp⟩ (Or.inl ⟨rfl, rfl⟩)
theorem fo_wid (n : Nat) (s : Zs) : Fo s (zwid n s) := by
 unfold zwid
 split
 ·exact (fo_pr _ _).of ⟨rfl, rfl⟩
 ·exact fo_nil ⟨by simp, by simp⟩ (Or.inl ⟨rfl, rfl⟩)
theorem fo_rc1 (s : Zs) : Fo s (zrc1 s) := by
 unfold zrc1
 split
 ·exact fo_xb s
 ·split
  ·exact (fo_pr _ _).of ⟨rfl, rfl⟩
  ·exact (fo_wid _ _).of ⟨rfl, rfl⟩
theorem fo_name (s : Zs) : Fo s (zname s) := by
 unfold zname
 split
 ·exact fo_bad (by decide) (Or.inl ⟨rfl, rfl⟩)
 ·split
  ·exact fo_rec s
  ·exact fo_nil ⟨by simp, by simp⟩ (Or.inl ⟨rfl, rfl⟩)
theorem fo_both (s : Zs) : Fo s (zboth s) := by
 unfold zboth
 split
 ·exact fo_nil ⟨by simp, by simp⟩ (Or.inl ⟨rfl, rfl⟩)
 ·exact fo_bad (by decide) (Or.inl ⟨rfl, rfl⟩)
theorem fo_sum1 (s : Zs) : Fo s (zsum1 s) := by
 unfold zsum1
 split
 ·exact fo_nil ⟨by simp, by simp⟩ (Or.inl ⟨rfl, rfl⟩)
 ·exact fo_both s
theorem fo_then (s : Zs) : Fo s (zthen s) := by
 unfold zthen
 split
 ·exact fo_name s
 ·exact fo_rc1 s
 ·exact fo_pr _ s
 ·exact fo_sum1 s
 ·exact fo_both s
 ·exact fo_end s
theorem fo_thn (s : Zs) : Fo s (zthn s) := by
 unfold zthn
 split
 ·exact fo_rec s
 ·exact fo_body s
 ·exact fo_rec s
 ·exact fo_nil ⟨by simp [zplace], by simp [zplace]⟩ (Or.inl ⟨rfl, rfl⟩)
theorem zset_y (t V : Nat) (s : Zs) : (zset t V s).y = s.y ∧ (zset t V s).ip = s.ip := by unfold zset; split <;> exact ⟨rfl, rfl⟩
theorem fo_st (x : Nat) (h5 : s.ph ≠ 5) (h4 : s.ph ≠ 4) (hp : s.ph ≤ 5) : Fo s (zst s x) := by
 have hc : s.ph = 0 ∨ s.ph = 1 ∨ s.ph = 2 ∨ s.ph = 3 := by omega
 rcases hc with e | e | e | e
 ·rw [zst0 x e]
  unfold zpla
  split
  ·exact fo_nil ⟨by simp [zhead], by simp [zhead]⟩ (Or.inl ⟨rfl, rfl⟩)
  ·split
   ·exact fo_bad (by decide) (Or.inl ⟨rfl, rfl⟩)
   ·split
    ·exact fo_nil ⟨by simp, by simp⟩ (Or.inl ⟨rfl, rfl⟩)
    ·exact fo_nil ⟨by show s.ph ≠ 4; omega, by show s.ph ≠ 5; omega⟩ (Or.inl ⟨rfl, rfl⟩)
 ·rw [zst1 x e]
  exact fo_nil ⟨h4, h5⟩ (Or.inl ⟨rfl, rfl⟩)
 ·rw [zst2 x e]
  unfold zgat
  split
  ·exact fo_nil ⟨h4, h5⟩ (Or.inl ⟨rfl, rfl⟩)
  ·split
   ·split
    ·exact (fo_then _).of (zset_y _ _ _)
    ·have ek := zset_keep
     rename_i n t r _ a b _ _
     exact fo_nil ⟨by rw [(zset_keep _ _ _).2.1]; exact h4, by rw [(zset_keep _ _ _).2.1]; exact h5⟩ (Or.inl (zset_y _ _ _))
   ·exact fo_nil ⟨h4, h5⟩ (Or.inl ⟨rfl, rfl⟩)
 ·rw [zst3 x e]
  unfold ztak
  split
  ·exact (fo_thn _).of ⟨rfl, rfl⟩
  ·exact fo_nil ⟨h4, h5⟩ (Or.inl ⟨rfl, rfl⟩)
theorem zsen_ev (s : Zs) : (zsen s).2 = [] ∨ (zsen s).2 = [(257, [])] := by
 unfold zsen
 split
 ·exact zend_ev s
 ·exact Or.inl rfl
theorem zsen_y (s : Zs) : (zsen s).1.y = s.y := by
 unfold zsen zend zbad zplace
 repeat' split
 all_goals rfl
theorem zsen_ip (s : Zs) : (zsen s).1.ip = s.ip := by
 unfold zsen zend zbad zplace
 repeat' split
 all_goals rfl
theorem zask_ip (s : Zs) : (zask s).1.ip = s.ip := by
 unfold zask zend zbad zplace
 repeat' split
 all_goals rfl
theorem zask_ev (s : Zs) : (zask s).2 = [] ∨ (zask s).2 = [(257, [])] := by
 unfold zask
 repeat' split
 all_goals first | exact Or.inl rfl | exact zend_ev s
end
def po2 : List (List Nat) → List (List Nat) → List Evn → List (List Nat) × List (List Nat)
 | ns, ls, [] => (ns, ls)
 | ns, ls, e :: r => if e.1 = 256 then po2 (ns ++ [e.2]) (ls ++ [[]]) r else if e.1 = 257 then po2 ns ls r else po2 ns (ls.dropLast ++ [ls.getLastD [] ++ [e.1]]) r
def Gd2 : Bool → List Evn → Prop
 | _, [] => True
 | i, e :: r => if e.1 = 256 then Gd2 true r else if e.1 = 257 then Gd2 i r else i = true ∧ Gd2 i r
def nop : List Evn → Nat
 | [] => 0
 | e :: r => (if e.1 = 256 then 1 else 0) + nop r
def evx (T : List Gev) : List Evn := T.map fun p => p.2
theorem evx_append (T U : List Gev) : evx (T ++ U) = evx T ++ evx U := by simp [evx]
theorem evx_evs (t : Nat) (E : List Evn) : evx (evs t E) = E := by simp only [evx, evs, List.map_map]; exact List.map_id E
theorem nop_append (a b : List Evn) : nop (a ++ b) = nop a + nop b := by
 induction a with
 | nil => simp [nop]
 | cons g r ih => simp only [List.cons_append, nop, ih]; omega
theorem nbz_cons (e : Evn) (r : List Evn) : nbz (e :: r) = (if e.1 < 256 then 1 else 0) + nbz r := by
 unfold nbz
 by_cases h : e.1 < 256
 ·rw [List.filter_cons_of_pos (by simpa using h), if_pos h, List.length_cons]; omega
 ·rw [List.filter_cons_of_neg (by simpa using h), if_neg h]; omega
theorem gd2_true : ∀ r : List Evn, Gd2 true r
 | [] => trivial
 | e :: r => by
  unfold Gd2
  split
  ·exact gd2_true r
  ·split
   ·exact gd2_true r
   ·exact ⟨rfl, gd2_true r⟩
theorem gd2_append : ∀ (i : Bool) (a b : List Evn), Gd2 i a → (Gd2 (i || decide (0 < nop a)) b) → Gd2 i (a ++ b)
 | i, [], b, _, h => by simpa [nop] using h
 | i, g :: a, b, h1, h2 => by
  unfold Gd2 at h1
  rw [List.cons_append]
  unfold Gd2
  split at h1
  ·rename_i e; rw [if_pos e]; exact gd2_append true a b h1 (by simpa using gd2_true b)
  ·rename_i e
   rw [if_neg e]
   have h2' : Gd2 (i || decide (0 < nop a)) b := by simpa [nop, e] using h2
   split at h1
   ·rename_i e7; rw [if_pos e7]; exact gd2_append i a b h1 h2'
   ·rename_i e7; rw [if_neg e7]; exact ⟨h1.1, gd2_append i a b h1.2 h2'⟩
theorem nop_bytes : ∀ o : List Nat, Oct o → nop (o.map fun b => (b, ([] : List Nat))) = 0
 | [], _ => rfl
 | a :: o, h => by
  have h1 := nop_bytes o (fun z hz => h z (List.mem_cons_of_mem _ hz))
  have h2 := h a (List.mem_cons_self ..)
  simp only [List.map_cons, nop, if_neg (show ¬ a = 256 by omega), h1]
theorem sp_tells {s s1 : Zs} {x : Nat} {E : List Evn} (hok : Zi s) (h0 : s.why = 0) (hx : x < 256) (hs : Sp s x s1 E) : (∀ e ∈ E, e.1 < 258 ∧ (e.1 ≠ 256 → e.2 = [])) ∧ nop E ≤ 1 ∧ s1.y.out.length ≤ s.y.out.length + nbz E ∧ Gd2 (decide (s.ph = 4 ∨ s.ph = 5)) E ∧ (s1.why = 0 → s1.ph = 4 ∨ s1.ph = 5 → (s.ph = 4 ∨ s.ph = 5) ∨ 0 < nop E) ∧ s1.ip.length ≤ s.ip.length + 1 := by
 obtain ⟨zb, zp⟩ := hok h0
 rcases hs with ⟨h5, y, hy, rfl, rfl⟩ | ⟨h5, rfl, rfl⟩
 ·have hd : Stands s.ip MM s.y := by
   rcases zp with ⟨e, _⟩ | e | ⟨e, _⟩ | ⟨e, _⟩ | ⟨e, _⟩ | ⟨_, z1, _⟩
   ·omega
   ·omega
   ·omega
   ·omega
   ·omega
   ·exact z1
  obtain ⟨o, q1, _, _⟩ := hd.next hy
  have hoc : Oct o := fun z hz => hy.oct z (by rw [q1]; exact List.mem_append_right _ hz)
  have e1 : y.out.drop s.y.out.length = o := by rw [q1, List.drop_left]
  rw [e1, decide_eq_true (show s.ph = 4 ∨ s.ph = 5 from Or.inr h5)]
  have hE : ∀ e ∈ (o.map fun b => (b, ([] : List Nat))) ++ (zask (zdat s x y)).2, e.1 < 258 ∧ (e.1 ≠ 256 → e.2 = []) := fun e he => by
   rcases List.mem_append.1 he with h | h
   ·obtain ⟨b, hb, rfl⟩ := List.mem_map.1 h
    have := hoc b hb
    exact ⟨by show b < 258; omega, fun _ => rfl⟩
   ·rcases zask_ev (zdat s x y) with k | k
    ·rw [k] at h; cases h
    ·rw [k, List.mem_singleton] at h; subst h; exact ⟨by show 257 < 258; decide, fun _ => rfl⟩
  have hn : nop (zask (zdat s x y)).2 = 0 := by rcases zask_ev (zdat s x y) with k | k <;> rw [k] <;> rfl
  refine ⟨hE, by rw [nop_append, nop_bytes o hoc, hn]; decide, ?_, gd2_true _, fun _ _ => Or.inl (Or.inr h5), by rw [zask_ip]; show (s.ip ++ [x]).length ≤ _; rw [List.length_append]; exact Nat.le_refl _⟩
  rw [zask_y, nbz_append, nbz_bytes o hoc]
  show y.out.length ≤ _
  rw [q1, List.length_append]
  omega
 ·by_cases h4 : s.ph = 4
  ·rw [zst4 x h4, decide_eq_true (show s.ph = 4 ∨ s.ph = 5 from Or.inl h4)]
   show (∀ e ∈ (x, []) :: (zsen (zgiv x s)).2, _) ∧ nop ((x, []) :: (zsen (zgiv x s)).2) ≤ 1 ∧ (zsen (zgiv x s)).1.y.out.length ≤ _ + nbz ((x, []) :: (zsen (zgiv x s)).2) ∧ _ ∧ _
   have hn : nop (zsen (zgiv x s)).2 = 0 := by rcases zsen_ev (zgiv x s) with k | k <;> rw [k] <;> rfl
   refine ⟨fun e he => ?_, ?_, ?_, gd2_true _, fun _ _ => Or.inl (Or.inl h4), by show (zsen (zgiv x s)).1.ip.length ≤ _; rw [zsen_ip]; exact Nat.le_succ _⟩
   ·rcases List.mem_cons.1 he with h | h
    ·subst h; exact ⟨by show x < 258; omega, fun _ => rfl⟩
    ·rcases zsen_ev (zgiv x s) with k | k
     ·rw [k] at h; cases h
     ·rw [k, List.mem_singleton] at h; subst h; exact ⟨by show 257 < 258; decide, fun _ => rfl⟩
   ·simp only [nop, hn, if_neg (show ¬ x = 256 by omega)]; decide
   ·rw [zsen_y]; exact Nat.le_add_right _ _
  ·have hp : s.ph ≤ 5 := by
    rcases zp with ⟨e, _⟩ | e | ⟨e, _⟩ | ⟨e, _⟩ | ⟨e, _⟩ | ⟨e, _⟩ <;> omega
   have f := fo_st (s := s) x h5 h4 hp
   have hy : (zst s x).1.y.out.length ≤ s.y.out.length := by
    rcases f.yl with e | e
    ·rw [e.1]; exact Nat.le_refl _
    ·rw [e.1]; exact Nat.zero_le _
   have hip : (zst s x).1.ip.length ≤ s.ip.length + 1 := by
    rcases f.yl with e | e
    ·rw [e.2]; exact Nat.le_succ _
    ·rw [e.2]; exact Nat.zero_le _
   have hop : (zst s x).1.why = 0 → (zst s x).1.ph = 4 ∨ (zst s x).1.ph = 5 → (s.ph = 4 ∨ s.ph = 5) ∨ 0 < nop (zst s x).2 := fun e q => by
    obtain ⟨nm, k⟩ := f.op e q
    rw [k]
    exact Or.inr (by simp [nop])
   rw [decide_eq_false (show ¬ (s.ph = 4 ∨ s.ph = 5) by omega)]
   refine ⟨?_, ?_, Nat.le_trans hy (Nat.le_add_right _ _), ?_, hop, hip⟩
   ·intro e he
    rcases f.ev with k | k | ⟨nm, k⟩ | ⟨nm, k⟩
    ·rw [k] at he; cases he
    ·rw [k, List.mem_singleton] at he; subst he; exact ⟨by show 257 < 258; decide, fun _ => rfl⟩
    ·rw [k, List.mem_singleton] at he; subst he; exact ⟨by show 256 < 258; decide, fun q => absurd rfl q⟩
    ·rw [k] at he
     rcases List.mem_cons.1 he with h | h
     ·subst h; exact ⟨by show 256 < 258; decide, fun q => absurd rfl q⟩
     ·rw [List.mem_singleton] at h; subst h; exact ⟨by show 257 < 258; decide, fun _ => rfl⟩
   ·rcases f.ev with k | k | ⟨nm, k⟩ | ⟨nm, k⟩ <;> rw [k] <;> simp [nop]
   ·rcases f.ev with k | k | ⟨nm, k⟩ | ⟨nm, k⟩ <;> rw [k] <;> simp [Gd2]
end Go.Proofs.YtpihipbeagpgpaaGreatDoor

/-
 What is told of an archive, counted; what Whole makes of it. No walk.
-/
namespace Go.Proofs.YtpihipbeagpgpaaGreatDoor
open Go.RowKit
set_option linter.unusedVariables false
def ct2 : Nat → List Evn → List Evn × Bool
 | _, [] => ([], false)
 | 0, g :: r => if g.1 < 256 then ([], true) else (g :: (ct2 0 r).1, (ct2 0 r).2)
 | m + 1, g :: r => if g.1 < 256 then (g :: (ct2 m r).1, (ct2 m r).2) else (g :: (ct2 (m + 1) r).1, (ct2 (m + 1) r).2)
abbrev Ans := (List (List Nat) × List (List Nat)) × Nat
def rs2 (m y : Nat) (ns ls : List (List Nat)) (E : List Evn) : Ans := (po2 ns ls (ct2 m E).1, if (ct2 m E).2 then 62 else y)
section
variable {m y : Nat} {ns ls : List (List Nat)} {g : Evn} {r : List Evn}
theorem rs2_nil : rs2 m y ns ls [] = ((ns, ls), y) := by cases m <;> rfl
theorem ct2_big (h : ¬ g.1 < 256) : ct2 m (g :: r) = (g :: (ct2 m r).1, (ct2 m r).2) := by
 cases m <;> simp [ct2, h]
theorem rs2_open (h : g.1 = 256) : rs2 m y ns ls (g :: r) = rs2 m y (ns ++ [g.2]) (ls ++ [[]]) r := by
 unfold rs2
 rw [ct2_big (by omega)]
 simp [po2, h]
theorem rs2_close (h : g.1 = 257) : rs2 m y ns ls (g :: r) = rs2 m y ns ls r := by
 unfold rs2
 rw [ct2_big (by omega)]
 simp [po2, h]
theorem rs2_byte (h : g.1 < 256) : rs2 (m + 1) y ns ls (g :: r) = rs2 m y ns (ls.dropLast ++ [ls.getLastD [] ++ [g.1]]) r := by
 unfold rs2
 have e : ct2 (m + 1) (g :: r) = (g :: (ct2 m r).1, (ct2 m r).2) := by simp [ct2, h]
 rw [e]
 simp [po2, show g.1 ≠ 256 by omega, show g.1 ≠ 257 by omega]
theorem rs2_over (h : g.1 < 256) : rs2 0 y ns ls (g :: r) = ((ns, ls), 62) := by
 unfold rs2
 have e : ct2 0 (g :: r) = ([], true) := by simp [ct2, h]
 rw [e]
 simp [po2]
end
theorem Rch.last {b : List Nat} {k : Nat} {s : Zs} {T : List Gev} (h : Rch b (k + 1) s T) : ∃ s' T' x E, Rch b k s' T' ∧ s'.why = 0 ∧ b[k]? = some x ∧ Sp s' x s E ∧ T = T' ++ evs k E := by
 obtain ⟨s1, T1, T2, q1, _, _⟩ := h.back (Nat.le_succ k)
 obtain ⟨h0, x, s2, E, T3, a1, a2, a3, a4, a5⟩ := h.at q1 (Nat.lt_succ_self k)
 have hl := h.1
 have e : (b.take (k + 1)).drop (k + 1) = [] := by rw [List.drop_eq_nil_iff, List.length_take]; omega
 rw [e] at a5
 obtain ⟨rfl, rfl⟩ := a5
 exact ⟨s1, T1, x, E, q1, h0, a1, a2, by rw [a4, List.append_nil]⟩
structure Rfc (b : List Nat) (k : Nat) (s : Zs) (T : List Gev) : Prop where
 ok : Zi s
 len : s.y.out.length ≤ nbz (evx T)
 ip : s.ip.length ≤ k
 gd : Gd2 false (evx T)
 op : s.why = 0 → s.ph = 4 ∨ s.ph = 5 → 0 < nop (evx T)
 lt : ∀ e ∈ evx T, e.1 < 258 ∧ (e.1 ≠ 256 → e.2 = [])
 no : nop (evx T) ≤ k
theorem rch_facts {b : List Nat} (ho : Oct b) : ∀ (k : Nat) (s : Zs) (T : List Gev), Rch b k s T → Rfc b k s T
 | 0, s, T, h => by
  have h2 := h.2
  rw [List.take_zero] at h2
  obtain ⟨rfl, rfl⟩ := h2
  exact ⟨zi0, Nat.zero_le _, Nat.le_refl _, trivial, fun _ e => (by rcases e with e | e <;> cases e), fun c hc => (by cases hc), Nat.le_refl _⟩
 | k + 1, s, T, h => by
  obtain ⟨s', T', x, E, h1, h2, h3, h4, rfl⟩ := h.last
  have f := rch_facts ho k s' T' h1
  have hx := ho x (List.mem_of_getElem? h3)
  obtain ⟨q1, q2, q3, q4, q5, q6⟩ := sp_tells f.ok h2 hx h4
  have fl := f.len
  have fn := f.no
  have fi := f.ip
  refine ⟨f.ok.sp h2 hx h4, ?_, by omega, ?_, ?_, ?_, ?_⟩
  ·rw [evx_append, evx_evs, nbz_append]; omega
  ·rw [evx_append, evx_evs]
   refine gd2_append false _ _ f.gd ?_
   by_cases h9 : s'.ph = 4 ∨ s'.ph = 5
   ·rw [decide_eq_true (f.op h2 h9)]; exact gd2_true _
   ·rw [decide_eq_false h9] at q4
    by_cases h6 : 0 < nop (evx T')
    ·rw [decide_eq_true h6]; exact gd2_true _
    ·rw [decide_eq_false h6]; exact q4
  ·intro e0 e
   rw [evx_append, evx_evs, nop_append]
   rcases q5 e0 e with h9 | h6
   ·have := f.op h2 h9; omega
   ·omega
  ·intro c hc
   rw [evx_append, evx_evs] at hc
   rcases List.mem_append.1 hc with h6 | h6
   ·exact f.lt c h6
   ·exact q1 c h6
  ·rw [evx_append, evx_evs, nop_append]; omega
end Go.Proofs.YtpihipbeagpgpaaGreatDoor

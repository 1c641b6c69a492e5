/-
  Own texts of this seat, one behind the other: what each says stands ahead of it.
-/
import Derived.Test.YtogednaamndpgaaGreatDoorMn
import Derived.Deep.RegionHeld3
import Derived.Test.YtogednaamndpgaaGreatDoorMp
import Derived.Test.YtogednaamndpgaaGreatDoorMe
import Derived.Test.YtogednaamndpgaaGreatDoorMo
import Derived.Test.YtogednaamndpgaaGreatDoorMl
import Derived.OwnWalk
/-
  Reset: the inflater as a new one.
-/
namespace Go.Proofs.YtogednaamndpgaaGreatDoor
open Go.RowKit
set_option linter.unusedVariables false
/-- A row stored into the inflater's block, told of the operation alone. -/
theorem wp_store_cz {P : Program} {o : Oper} {a : Act} {w : World} {K : Act → World → Prop} {Q : Exit → Act → World → Prop} (ty : TypeId) (x y : Operand) (ho : o.op = .store ty x y)
    (D off : Nat) (cells : Array Value) (hx : a.eval x = .pointer (some ⟨D, off, none⟩)) (hy : a.eval y = .agg cells) (f : Nat → Value) (hg : Cells w D (cz f) 92) (hi : (P.info? ty).map (·.size) = some cells.size)
    (hle : off + cells.size ≤ 355) (h1 : cells.all (·.oneCell') = true)
    (h : ∀ w' f', Mid D off f f' cells.toList w w' → K (a.put o.dst undef) w') : o.wp P a w K Q := by
  obtain ⟨w', f', h2, h3⟩ := store_mid (P := P) D off cells.toList 0 f w hg (by simp; omega) (fun v hv => (Array.all_eq_true_iff_forall_mem.1 h1) v (by simpa using hv))
  have hv : (storeVar ty ⟨D, off, none⟩ (.agg cells)).run P w = .ok () w' := by
    cases hq : P.info? ty with
    | none => simp [hq] at hi
    | some i =>
      have hs : cells.size = i.size := by simp [hq] at hi; omega
      simp [storeVar, sizeOf, typeInfo, hq, Value.cells, hs, h2]
  unfold Oper.wp execOp
  simp only [ho, hx, hy, Instr.storeAt, Instr.sureAddr, Sem.run_bind, Sem.run_pure, Result.andThen_ok, hv]
  exact h w' f' h3
theorem nf_one (b R : Nat) (p q : Option Addr) : (cz (nf b R (.pointer p) (.pointer q))).all (·.oneCell') = true := by kernel_rfl
theorem zc73r (b R : Nat) (p q : Option Addr) : (((Tryz.zeroCells92.setIfInBounds 0 (.pointer (some ⟨b, 0, none⟩))).setIfInBounds 1 (.pointer (some ⟨R, 0, none⟩))).setIfInBounds 3 (.pointer p)).setIfInBounds 4 (.pointer q) = cz (nf b R (.pointer p) (.pointer q)) := by kernel_rfl
section
variable {B D b R : Nat} {I : List Nat} {M : Nat} {c : Cfg} {q : Md}
set_option maxRecDepth 100000 in
set_option maxHeartbeats 2000000 in
theorem reset_c (w : World) (h : Inf w B D b R I M c q) : Calls Tryz.prog 140 #[.pointer (some ⟨D, 0, none⟩)] w fun e w' => e = .returned (.tuple #[]) ∧ Inf w' B D b R [] M c0 .want ∧ Fm B w w' := by
  obtain ⟨f, hh, l, s, hx, ht, h7⟩ := h.mem
  obtain ⟨p3, p4, e3, e4⟩ : ∃ p3 p4, f 3 = .pointer p3 ∧ f 4 = .pointer p4 := by
    rcases hx with ⟨h3, h4⟩ | ⟨⟨_, _, T, h3, _⟩, ⟨_, _, T', h4, _⟩⟩
    · exact ⟨_, _, h3, h4⟩
    · exact ⟨_, _, h3, h4⟩
  have d0 := (s.cell (show 0 < 355 by decide)).trans (congrArg some s.c0)
  have hclr := clear_b b _ _ w s.br
  have A : Aside (Bs w B D b R f hh l ∧ Fx w B f ∧ Tabs w ∧ 8 ≤ B ∧ f 3 = .pointer p3 ∧ f 4 = .pointer p4) := ⟨s, hx, ht, h7, e3, e4⟩
  clear s hx ht h7 e3 e4 h
  go_enter Tryz.func140, Tryz.ntmps140
  go_upto_region 2 with (go_at_call 142; refine hclr.mono ?_; rintro e1 w1 ⟨rfl, hb1, ho1⟩)
  have s1 : Bs w1 B D b R f [] l := A.out.1.onb ho1 (h' := []) hb1
  have d1 := (s1.cell (show 1 < 355 by decide)).trans (congrArg some s1.c1)
  have hrc := gclear_r w1 s1.rg
  have A1 : Aside (Bs w1 B D b R f [] l ∧ Fm B w w1) := ⟨s1, Fm.of_only ho1 (by have := A.out.1.eb; omega) (by have := A.out.1.eb; omega)⟩
  clear s1 hb1 ho1 hclr d0
  go_upto_region 3 with (go_at_call 143; refine hrc.mono ?_; rintro e2 w2 ⟨rfl, hr2, ho2⟩)
  have s2 : Bs w2 B D b R f [] [] := A1.out.1.onR ⟨ho2.os, ho2.tape, ho2.output, ho2.size, fun k hk _ => ho2.block k hk⟩ hr2
  have g0 := (s2.cell (show 0 < 355 by decide)).trans (congrArg some s2.c0)
  have g1 := (s2.cell (show 1 < 355 by decide)).trans (congrArg some s2.c1)
  have g3 := (s2.cell (show 3 < 355 by decide)).trans (congrArg some A.out.2.2.2.2.1)
  have g4 := (s2.cell (show 4 < 355 by decide)).trans (congrArg some A.out.2.2.2.2.2)
  have A2 : Aside (Bs w2.drew B D b R f [] [] ∧ Fm B w w2.drew) := ⟨s2.drew, (A1.out.2.trans (Fm.of_only ho2 (by have := A.out.1.eR; omega) (by have := A.out.1.eR; omega))).trans ((Fm.refl B w2).drew)⟩
  clear s2 hr2 ho2 hrc d1
  refine wp_region_held_drew (S := fun u => u.cell? ⟨D, 0, none⟩ = some (.pointer (some ⟨b, 0, none⟩)) ∧ u.cell? ⟨D, 1, none⟩ = some (.pointer (some ⟨R, 0, none⟩)) ∧ u.cell? ⟨D, 3, none⟩ = some (.pointer p3) ∧ u.cell? ⟨D, 4, none⟩ = some (.pointer p4)) (by kernel_rfl) ⟨g0, g1, g3, g4⟩ (fun hHeld => ?_)
  refine wpAnyH_take (i := 0) (oi := ⟨_, _, _, _, _, _⟩) (v := ?_) rfl (by kernel_rfl) (by kernel_rfl) (by kernel_rfl) (fun _ _ _ h => h) (Or.inl ⟨by rfl, ?_⟩) hHeld ?_
  rotate_left
  · (intro w9 hSw; (try dsimp only at hSw); go_simp; try (with_reducible rfl))
  try simp only [Act.put, List.setIfInBounds_toArray, List.set_cons_zero, List.set_cons_succ]
  refine wpAnyH_take (i := 1) (oi := ⟨_, _, _, _, _, _⟩) (v := ?_) rfl (by kernel_rfl) (by kernel_rfl) (by kernel_rfl) (fun _ _ _ h => h) (Or.inl ⟨by rfl, ?_⟩) hHeld ?_
  rotate_left
  · (intro w9 hSw; (try dsimp only at hSw); go_simp; try (with_reducible rfl))
  try simp only [Act.put, List.setIfInBounds_toArray, List.set_cons_zero, List.set_cons_succ]
  refine wpAnyH_take (i := 2) (oi := ⟨_, _, _, _, _, _⟩) (v := ?_) rfl (by kernel_rfl) (by kernel_rfl) (by kernel_rfl) (fun _ _ _ h => h) (Or.inl ⟨by rfl, ?_⟩) hHeld ?_
  rotate_left
  · (intro w9 hSw; (try dsimp only at hSw); go_simp; try (with_reducible rfl))
  try simp only [Act.put, List.setIfInBounds_toArray, List.set_cons_zero, List.set_cons_succ]
  refine wpAnyH_take (i := 3) (oi := ⟨_, _, _, _, _, _⟩) (v := ?_) rfl (by kernel_rfl) (by kernel_rfl) (by kernel_rfl) (fun _ _ _ h => h) (Or.inl ⟨by rfl, ?_⟩) hHeld ?_
  rotate_left
  · (intro w9 hSw; (try dsimp only at hSw); go_simp; try (with_reducible rfl))
  try simp only [Act.put, List.setIfInBounds_toArray, List.set_cons_zero, List.set_cons_succ]
  refine wpAnyH_take (i := 4) (oi := ⟨_, _, _, _, _, _⟩) (v := ?_) rfl (by kernel_rfl) (by kernel_rfl) (by kernel_rfl) (fun _ _ _ h => h) (Or.inl ⟨by rfl, ?_⟩) hHeld ?_
  rotate_left
  · (intro w9 hSw; (try dsimp only at hSw); go_simp; try (with_reducible rfl))
  try simp only [Act.put, List.setIfInBounds_toArray, List.set_cons_zero, List.set_cons_succ]
  refine wpAnyH_take (i := 5) (oi := ⟨_, _, _, _, _, _⟩) (v := ?_) rfl (by kernel_rfl) (by kernel_rfl) (by kernel_rfl) (fun _ _ _ h => h) (Or.inl ⟨by rfl, ?_⟩) hHeld ?_
  rotate_left
  · (intro w9 hSw; (try dsimp only at hSw); go_simp; try (with_reducible rfl))
  try simp only [Act.put, List.setIfInBounds_toArray, List.set_cons_zero, List.set_cons_succ]
  refine wpAnyH_take (i := 6) (oi := ⟨_, _, _, _, _, _⟩) (v := ?_) rfl (by kernel_rfl) (by kernel_rfl) (by kernel_rfl) (fun _ _ _ h => h) (Or.inl ⟨by rfl, ?_⟩) hHeld ?_
  rotate_left
  · (intro w9 hSw; (try dsimp only at hSw); go_simp; try (with_reducible rfl))
  try simp only [Act.put, List.setIfInBounds_toArray, List.set_cons_zero, List.set_cons_succ]
  refine wpAnyH_take (i := 7) (oi := ⟨_, _, _, _, _, _⟩) (v := ?_) rfl (by kernel_rfl) (by kernel_rfl) (by kernel_rfl) (fun _ _ _ h => h) (Or.inl ⟨by rfl, ?_⟩) hHeld ?_
  rotate_left
  · (intro w9 hSw; (try dsimp only at hSw); go_simp; try (with_reducible rfl))
  try simp only [Act.put, List.setIfInBounds_toArray, List.set_cons_zero, List.set_cons_succ]
  refine wpAnyH_take (i := 8) (oi := ⟨_, _, _, _, _, _⟩) (v := ?_) rfl (by kernel_rfl) (by kernel_rfl) (by kernel_rfl) (fun _ _ _ h => h) (Or.inl ⟨by rfl, ?_⟩) hHeld ?_
  rotate_left
  · (intro w9 hSw; (try dsimp only at hSw); go_simp; try (with_reducible rfl))
  try simp only [Act.put, List.setIfInBounds_toArray, List.set_cons_zero, List.set_cons_succ]
  refine wpAnyH_take (i := 9) (oi := ⟨_, _, _, _, _, _⟩) (v := ?_) rfl (by kernel_rfl) (by kernel_rfl) (by kernel_rfl) (fun _ _ _ h => h) (Or.inl ⟨by rfl, ?_⟩) hHeld ?_
  rotate_left
  · (intro w9 hSw; (try dsimp only at hSw); go_simp; try (with_reducible rfl))
  try simp only [Act.put, List.setIfInBounds_toArray, List.set_cons_zero, List.set_cons_succ]
  refine wpAnyH_take (i := 10) (oi := ⟨_, _, _, _, _, _⟩) (v := ?_) rfl (by kernel_rfl) (by kernel_rfl) (by kernel_rfl) (fun _ _ _ h => h) (Or.inl ⟨by rfl, ?_⟩) hHeld ?_
  rotate_left
  · (intro w9 hSw; (try dsimp only at hSw); go_simp; try (with_reducible rfl))
  try simp only [Act.put, List.setIfInBounds_toArray, List.set_cons_zero, List.set_cons_succ]
  refine wpAnyH_take (i := 11) (oi := ⟨_, _, _, _, _, _⟩) (v := ?_) rfl (by kernel_rfl) (by kernel_rfl) (by kernel_rfl) (fun _ _ _ h => h) (Or.inl ⟨by rfl, ?_⟩) hHeld ?_
  rotate_left
  · (intro w9 hSw; (try dsimp only at hSw); go_simp; try (with_reducible rfl))
  try simp only [Act.put, List.setIfInBounds_toArray, List.set_cons_zero, List.set_cons_succ]
  refine wpAnyH_take (i := 12) (oi := ⟨_, _, _, _, _, _⟩) (v := ?_) rfl (by kernel_rfl) (by kernel_rfl) (by kernel_rfl) (fun _ _ _ h => h) (Or.inl ⟨by rfl, ?_⟩) hHeld ?_
  rotate_left
  · (intro w9 hSw; (try dsimp only at hSw); go_simp; try (with_reducible rfl))
  try simp only [Act.put, List.setIfInBounds_toArray, List.set_cons_zero, List.set_cons_succ]
  refine wpAnyH_take (i := 13) (oi := ⟨_, _, _, _, _, _⟩) (v := ?_) rfl (by kernel_rfl) (by kernel_rfl) (by kernel_rfl) (fun _ _ _ h => h) (Or.inl ⟨by rfl, ?_⟩) hHeld ?_
  rotate_left
  · (intro w9 hSw; (try dsimp only at hSw); go_simp; try (with_reducible rfl))
  try simp only [Act.put, List.setIfInBounds_toArray, List.set_cons_zero, List.set_cons_succ]
  refine wpAnyH_take (i := 14) (oi := ⟨_, _, _, _, _, _⟩) (v := ?_) rfl (by kernel_rfl) (by kernel_rfl) (by kernel_rfl) (fun _ _ _ h => h) (Or.inl ⟨by rfl, ?_⟩) hHeld ?_
  rotate_left
  · (intro w9 hSw; (try dsimp only at hSw); go_simp; try (with_reducible rfl))
  try simp only [Act.put, List.setIfInBounds_toArray, List.set_cons_zero, List.set_cons_succ]
  refine wpAnyH_ready (rs := [15]) (by kernel_rfl) (by simp) ?_
  refine AllReadyH.cons (o := ⟨_, _, _, _, _, _⟩) rfl (fun K hK => ?_) AllReadyH.nil
  rw [if_pos (by rfl)]
  refine wp_store_cz 92 _ _ rfl D 0 (cz (nf b R (.pointer p3) (.pointer p4))) (by rfl) (congrArg Value.agg (zc73r b R p3 p4)) f A2.out.1.fr (by rw [cz_size]; exact size73) (by rw [cz_size]; omega) (nf_one b R p3 p4) ?_
  intro w3 f3 hm
  have hf3 : ∀ j, j < 355 → f3 j = nf b R (.pointer p3) (.pointer p4) j := fun j hj => by
    have := hm.new j (nf b R (.pointer p3) (.pointer p4) j) (by have := cz_at (nf b R (.pointer p3) (.pointer p4)) hj; simpa using this)
    rwa [Nat.zero_add] at this
  have hcz : cz f3 = cz (nf b R (.pointer p3) (.pointer p4)) := by
    unfold cz
    congr 1
    exact List.map_congr_left fun j hj => hf3 j (List.mem_range.1 hj)
  have hc3 : Cells w3 D (cz (nf b R (.pointer p3) (.pointer p4))) 92 := by rw [← hcz]; exact hm.cells
  have s3 : Bs w3 B D b R (nf b R (.pointer p3) (.pointer p4)) [] [] := A2.out.1.onD hm.only hc3 A2.out.1.c0.symm A2.out.1.c1.symm
  refine hK.out _ _ ⟨s3.cell (show 0 < 355 by decide), s3.cell (show 1 < 355 by decide), s3.cell (show 3 < 355 by decide), s3.cell (show 4 < 355 by decide)⟩ (fun hHeld3 => ?_)
  clear hK K
  have A3 : Aside (Bs w3 B D b R (nf b R (.pointer p3) (.pointer p4)) [] [] ∧ Fm B w w3) := ⟨s3, A2.out.2.trans (Fm.of_only hm.only (by have := A.out.1.eD; omega) (by have := A.out.1.eD; omega))⟩
  have z2 := s3.fz 2
  have c2 := s3.cell (show 2 < 355 by decide)
  have e2 : nf b R (.pointer p3) (.pointer p4) 2 = .nilFunc := rfl
  rw [e2] at c2
  clear hm hf3 hcz hc3 s3 hHeld hHeld3 g0 g1 g3 g4 e2
  try simp only [Act.put]
  refine wpAnyH_done (by kernel_rfl) ?_ _
  go_wp2_with fail
  go_end0
  have a := A3.out
  have s5 := a.1.set 2 (fnv D 41) (by decide)
  have o5 : Only D w3 (w3.setCell ⟨D, 2, none⟩ (fnv D 41)) := (Only.refl D w3).setCell 2 _
  have f5 := a.2.trans (Fm.of_only o5 (by have := A.out.1.eD; omega) (by have := A.out.1.eD; omega))
  refine ⟨rfl, want_new s5 (upd_same _ _ _) rfl rfl rfl ?_ (A.out.2.2.1.below (f5.below (by have := A.out.1.lt; omega)) A.out.2.2.2.1) A.out.2.2.2.1, f5⟩
  exact A.out.2.1.fm f5 A.out.2.2.2.2.1.symm A.out.2.2.2.2.2.symm
end
end Go.Proofs.YtogednaamndpgaaGreatDoor

/-
  The inflater stays as it is where rows of bytes, of lists of bytes, or a walker turn. No walk.
-/
namespace Go.Proofs.YtogednaamndpgaaGreatDoor
open Go.RowKit
set_option linter.unusedVariables false
/-- What is old stays, but for rows of bytes, of lists of bytes, and walkers; memory may have come. -/
structure Kq (B : Nat) (w u : World) : Prop where
  size : w.heap.size ≤ u.heap.size
  block : ∀ k, k < w.heap.size → u.heap[k]? = w.heap[k]? ∨ (8 ≤ k ∧ (k < B ∨ B + 4 ≤ k) ∧ ∃ cs ty fr, w.heap[k]? = some (.cells cs ty fr) ∧ (ty = 5 ∨ ty = 65 ∨ ty = 22 ∨ ty = 43))
theorem Kq.of_below {B C : Nat} {w u : World} (h : Below C w u) (hC : w.heap.size ≤ C) : Kq B w u := ⟨h.size, fun k hk => Or.inl (h.block k (by omega))⟩
theorem Kq.trans {B : Nat} {w u v : World} (h : Kq B w u) (k : Kq B u v) : Kq B w v := ⟨Nat.le_trans h.size k.size, fun i hi => by
  rcases h.block i hi with e | e
  · rcases k.block i (by have := h.size; omega) with f | ⟨f1, f2, cs, ty, fr, f3, f4⟩
    · exact Or.inl (f.trans e)
    · exact Or.inr ⟨f1, f2, cs, ty, fr, e ▸ f3, f4⟩
  · exact Or.inr e⟩
theorem Tbl.kq {w u : World} {B : Nat} {v : Value} {ls : List Nat} (h : Tbl w B v ls) (k : Kq B w u) : Tbl u B v ls := by
  obtain ⟨lo, hi, T, h1, h2, h3, ⟨g, M, n, q, a1, a2, a3, a4, a5, a6, a7⟩, h5⟩ := h
  have e1 : u.heap[T]? = w.heap[T]? := by
    rcases k.block T (by omega) with e | ⟨_, _, cs, ty, fr, e, ht⟩
    · exact e
    · have := q.t; unfold Cells at this; rw [this] at e; cases e; rcases ht with h | h | h | h <;> exact absurd h (by decide)
  have e2 : u.heap[g]? = w.heap[g]? := by
    rcases k.block g (by omega) with e | ⟨_, _, cs, ty, fr, e, ht⟩
    · exact e
    · obtain ⟨cs', hc, _⟩ := q.c; unfold Cells at hc; rw [hc] at e; cases e; rcases ht with h | h | h | h <;> exact absurd h (by decide)
  have e3 : u.heap[M]? = w.heap[M]? := by
    rcases k.block M (by omega) with e | ⟨_, _, cs, ty, fr, e, ht⟩
    · exact e
    · obtain ⟨G, ⟨D, ⟨es, cl, hb, _⟩, _⟩, _⟩ := q.m; rw [hb] at e; cases e
  exact ⟨lo, hi, T, h1, h2, Nat.le_trans h3 k.size, ⟨g, M, n, q.heap e1 e2 e3, a1, a2, a3, a4, a5, a6, a7⟩, h5⟩
section
variable {w u : World} {B D b R : Nat} {f : Nat → Value} {bs : List Bool} {most : Nat}
theorem Bs.kq {h : List Bool} {l : List Int} (s : Bs w B D b R f h l) (k : Kq B w u) : Bs u B D b R f h l := by
  have := s.lt
  refine s.keep fun i h1 h2 => ?_
  rcases k.block i (by omega) with e | ⟨_, h3, _⟩
  · exact e
  · omega
theorem Fx.kq (h : Fx w B f) (k : Kq B w u) : Fx u B f := by
  rcases h with h | ⟨h, h'⟩
  · exact Or.inl h
  · exact Or.inr ⟨h.kq k, h'.kq k⟩
theorem Tabs.kq (h : Tabs w) (k : Kq B w u) (hs : 8 ≤ w.heap.size) : Tabs u := by
  have hc : ∀ p : Addr, p.block < 8 → u.cell? p = w.cell? p := fun p hp => World.cell?_of_block (w := w) (by
    rcases k.block p.block (by omega) with e | ⟨h3, _⟩
    · exact e
    · omega)
  exact ⟨fun i hi => (hc ⟨1, i, none⟩ (show 1 < 8 by decide)).trans (h.t0 i hi), fun i hi => (hc ⟨2, i, none⟩ (show 2 < 8 by decide)).trans (h.t1 i hi), fun i hi => (hc ⟨3, i, none⟩ (show 3 < 8 by decide)).trans (h.t2 i hi), fun i hi => (hc ⟨4, i, none⟩ (show 4 < 8 by decide)).trans (h.t3 i hi), fun i hi => (hc ⟨5, i, none⟩ (show 5 < 8 by decide)).trans (h.t4 i hi), fun i hi => (hc ⟨6, i, none⟩ (show 6 < 8 by decide)).trans (h.t5 i hi), fun i hi => (hc ⟨7, i, none⟩ (show 7 < 8 by decide)).trans (h.t6 i hi)⟩
theorem Ctab.kq (h : Ctab w) (k : Kq B w u) : Ctab u := fun i hi => by
  have e : u.cell? ⟨0, i, none⟩ = w.cell? ⟨0, i, none⟩ := World.cell?_of_block (w := w) (by
    rcases k.block 0 h.lt with e | ⟨h3, _⟩
    · exact e
    · omega)
  exact e.trans (h i hi)
theorem Pl.kq {a c : Nat} {code l : List Nat} (h : Pl w B f a c code l) (k : Kq B w u) : Pl u B f a c code l := ⟨h.a1, h.a2, h.b1, h.b2, h.c8, h.c9, h.have_, h.len, h.row, h.tbl.kq k, h.code⟩
theorem At.kq {n : Nat} {st : St} (h : At w B D f n st) (k : Kq B w u) : At u B D f n st := by
  cases st using St.el with
  | head last => cases last <;> exact h
  | dsym last a b code l => exact ⟨h.1, h.2.1, h.2.2.kq k⟩
  | drep last a b code l s => exact ⟨h.1, h.2.1, h.2.2.1.kq k, h.2.2.2⟩
  | sym last lit di => exact ⟨h.1, h.2.1, h.2.2.1.kq k, h.2.2.2.kq k⟩
  | lext last lit di s => exact ⟨h.1, h.2.1, h.2.2.1.kq k, h.2.2.2.1.kq k, h.2.2.2.2⟩
  | dist last lit di m => exact ⟨h.1, h.2.1, h.2.2.1.kq k, h.2.2.2.1.kq k, h.2.2.2.2⟩
  | dext last lit di m x => exact ⟨h.1, h.2.1, h.2.2.1.kq k, h.2.2.2.1.kq k, h.2.2.2.2⟩
  | copy last lit di m d => exact ⟨h.1, h.2.1, h.2.2.1.kq k, h.2.2.2.1.kq k, h.2.2.2.2⟩
  | _ => exact h
theorem Is.kq {c : Cfg} (h : Is w B D b R f bs c) (k : Kq B w u) : Is u B D b R f bs c :=
  ⟨h.mem.kq k, h.at_.kq k, h.fx.kq k, h.tabs.kq k (by have := h.mem.lt; have := h.b7; omega), h.le, h.b7⟩
theorem Ov.kq {c : Cfg} (h : Ov w B D b R f c) (k : Kq B w u) : Ov u B D b R f c := by
  obtain ⟨hh, l, s⟩ := h.mem
  exact ⟨⟨hh, l, s.kq k⟩, h.waits, h.how, h.fx.kq k, h.tabs.kq k (by have := s.lt; have := h.b7; omega), h.b7⟩
end
theorem Inf.kq {w u : World} {B D b R : Nat} {I : List Nat} {M : Nat} {c : Cfg} {q : Md} (h : Inf w B D b R I M c q) (k : Kq B w u) : Inf u B D b R I M c q := by
  refine ⟨h.1, ?_⟩
  have h2 := h.2
  cases q using Md.el with
  | wait x =>
    obtain ⟨f, h3, h4⟩ := h2
    exact ⟨f, h3.kq k, h4⟩
  | want =>
    obtain ⟨f, h3⟩ := h2
    exact ⟨f, h3.is_.kq k, h3.op, h3.few, h3.z⟩
  | over =>
    obtain ⟨f, h3⟩ := h2
    exact ⟨f, h3.kq k⟩
  | shut =>
    obtain ⟨f, h, l, h3, h4, h5, h6, h7, h8, h9⟩ := h2
    exact ⟨f, h, l, h3.kq k, h4, h5, h6, h7.kq k, h8.kq k (by have := h3.lt; omega), h9⟩
end Go.Proofs.YtogednaamndpgaaGreatDoor

/-
  The walker in memory: its sixteen cells; what its small calls come to.
-/
namespace Go.Proofs.YtogednaamndpgaaGreatDoor
open Go.RowKit
set_option linter.unusedVariables false
structure Gc where
  nx : Nat
  fl : Nat
  nl : Nat
  lf : Nat
  nb : Nat
  sm : Nat
  gv : Nat
  ev : Option Evn
  wh : Bool
  en : Bool
  why : Nat
def ev0 : Option Evn → Int
  | none => 0
  | some e => gk1 e.1
def ev1 : Option Evn → Int
  | none => 0
  | some e => gk2 e.1
def ev2 : Option Evn → Int
  | none => 0
  | some e => gk3 e.1
def ev4 : Option Evn → List Nat
  | none => []
  | some e => e.2
/-- The walker's cells: W itself, D its inflater, A where its name lies. -/
def wcs (W D A : Nat) (c : Gc) : Array Value := #[.pointer (some ⟨D, 0, none⟩), fnv W c.nx, .int .u8 (c.fl : Int), .slice (some ⟨A, 0, none⟩) c.nl 256, .int .i64 (c.lf : Int), .int .u32 (c.nb : Int), .int .u32 (c.sm : Int), .int .u32 (c.gv : Int), .int .i64 (ev0 c.ev), .int .u8 (ev1 c.ev), .int .i64 (ev2 c.ev), .int .i64 0, .string (st (ev4 c.ev)), .bool c.wh, .bool c.en, .int .i64 (c.why : Int)]
abbrev Wc (w : World) (W D A : Nat) (c : Gc) : Prop := Cells w W (wcs W D A c) 65
section
variable {w u : World} {W D A : Nat} {c : Gc}
theorem Wc.a0 (h : Wc w W D A c) : w.cell? ⟨W, 0, none⟩ = some (.pointer (some ⟨D, 0, none⟩)) := (Cells.cell h 0).trans rfl
theorem Wc.a1 (h : Wc w W D A c) : w.cell? ⟨W, 1, none⟩ = some (fnv W c.nx) := (Cells.cell h 1).trans rfl
theorem Wc.a2 (h : Wc w W D A c) : w.cell? ⟨W, 2, none⟩ = some (.int .u8 (c.fl : Int)) := (Cells.cell h 2).trans rfl
theorem Wc.a3 (h : Wc w W D A c) : w.cell? ⟨W, 3, none⟩ = some (.slice (some ⟨A, 0, none⟩) c.nl 256) := (Cells.cell h 3).trans rfl
theorem Wc.a4 (h : Wc w W D A c) : w.cell? ⟨W, 4, none⟩ = some (.int .i64 (c.lf : Int)) := (Cells.cell h 4).trans rfl
theorem Wc.a5 (h : Wc w W D A c) : w.cell? ⟨W, 5, none⟩ = some (.int .u32 (c.nb : Int)) := (Cells.cell h 5).trans rfl
theorem Wc.a6 (h : Wc w W D A c) : w.cell? ⟨W, 6, none⟩ = some (.int .u32 (c.sm : Int)) := (Cells.cell h 6).trans rfl
theorem Wc.a7 (h : Wc w W D A c) : w.cell? ⟨W, 7, none⟩ = some (.int .u32 (c.gv : Int)) := (Cells.cell h 7).trans rfl
theorem Wc.a8 (h : Wc w W D A c) : w.cell? ⟨W, 8, none⟩ = some (.int .i64 (ev0 c.ev)) := (Cells.cell h 8).trans rfl
theorem Wc.a9 (h : Wc w W D A c) : w.cell? ⟨W, 9, none⟩ = some (.int .u8 (ev1 c.ev)) := (Cells.cell h 9).trans rfl
theorem Wc.a10 (h : Wc w W D A c) : w.cell? ⟨W, 10, none⟩ = some (.int .i64 (ev2 c.ev)) := (Cells.cell h 10).trans rfl
theorem Wc.a11 (h : Wc w W D A c) : w.cell? ⟨W, 11, none⟩ = some (.int .i64 0) := (Cells.cell h 11).trans rfl
theorem Wc.a12 (h : Wc w W D A c) : w.cell? ⟨W, 12, none⟩ = some (.string (st (ev4 c.ev))) := (Cells.cell h 12).trans rfl
theorem Wc.a13 (h : Wc w W D A c) : w.cell? ⟨W, 13, none⟩ = some (.bool c.wh) := (Cells.cell h 13).trans rfl
theorem Wc.a14 (h : Wc w W D A c) : w.cell? ⟨W, 14, none⟩ = some (.bool c.en) := (Cells.cell h 14).trans rfl
theorem Wc.a15 (h : Wc w W D A c) : w.cell? ⟨W, 15, none⟩ = some (.int .i64 (c.why : Int)) := (Cells.cell h 15).trans rfl
theorem Wc.fz (h : Wc w W D A c) (i : Nat) : w.frozen? ⟨W, i, none⟩ = false := Cells.frozen h i
theorem Wc.s1 (h : Wc w W D A c) (k : Nat) : Wc (w.setCell ⟨W, 1, none⟩ (fnv W k)) W D A { c with nx := k } := Cells.set h 1 _
theorem Wc.s2 (h : Wc w W D A c) (k : Nat) : Wc (w.setCell ⟨W, 2, none⟩ (.int .u8 (k : Int))) W D A { c with fl := k } := Cells.set h 2 _
theorem Wc.s3 (h : Wc w W D A c) (k : Nat) : Wc (w.setCell ⟨W, 3, none⟩ (.slice (some ⟨A, 0, none⟩) k 256)) W D A { c with nl := k } := Cells.set h 3 _
theorem Wc.s4 (h : Wc w W D A c) (k : Nat) : Wc (w.setCell ⟨W, 4, none⟩ (.int .i64 (k : Int))) W D A { c with lf := k } := Cells.set h 4 _
theorem Wc.s5 (h : Wc w W D A c) (k : Nat) : Wc (w.setCell ⟨W, 5, none⟩ (.int .u32 (k : Int))) W D A { c with nb := k } := Cells.set h 5 _
theorem Wc.s6 (h : Wc w W D A c) (k : Nat) : Wc (w.setCell ⟨W, 6, none⟩ (.int .u32 (k : Int))) W D A { c with sm := k } := Cells.set h 6 _
theorem Wc.s7 (h : Wc w W D A c) (k : Nat) : Wc (w.setCell ⟨W, 7, none⟩ (.int .u32 (k : Int))) W D A { c with gv := k } := Cells.set h 7 _
theorem Wc.s13 (h : Wc w W D A c) (k : Bool) : Wc (w.setCell ⟨W, 13, none⟩ (.bool k)) W D A { c with wh := k } := Cells.set h 13 _
theorem Wc.s14 (h : Wc w W D A c) (k : Bool) : Wc (w.setCell ⟨W, 14, none⟩ (.bool k)) W D A { c with en := k } := Cells.set h 14 _
theorem Wc.s15 (h : Wc w W D A c) (k : Nat) : Wc (w.setCell ⟨W, 15, none⟩ (.int .i64 (k : Int))) W D A { c with why := k } := Cells.set h 15 _
end
section
variable {W D A : Nat} {c : Gc}
theorem then_c (k n : Nat) (w : World) (h : Wc w W D A c) : Calls Tryz.prog 46 #[.pointer (some ⟨W, 0, none⟩), fnv W k, .int .i64 (n : Int)] w fun e w' => e = .returned (.tuple #[]) ∧ Wc w' W D A { c with nx := k, lf := n } ∧ Only W w w' := by
  have c1 := h.a1
  have z1 := h.fz 1
  have c2 := (h.s1 k).a4
  have z2 := (h.s1 k).fz 4
  have AF : Aside (Wc ((w.setCell ⟨W, 1, none⟩ (fnv W k)).setCell ⟨W, 4, none⟩ (.int .i64 (n : Int))) W D A { c with nx := k, lf := n }) := (h.s1 k).s4 n
  clear h
  unfold fnv at *
  go_enter Tryz.func46, Tryz.ntmps46
  go_wp2_with fail
  first | go_end0 | (refine bodyPost_ret (results_none rfl _ _ _) rfl ?_)
  exact ⟨rfl, AF.out, ((Only.refl W w).setCell 1 _).setCell 4 _⟩
theorem cnt_c (x : Nat) (hx : x < 256) (w : World) (hT : Ctab w) (h : Wc w W D A c) (hs : c.sm < 4294967296) : Calls Tryz.prog 72 #[.pointer (some ⟨W, 0, none⟩), .int .u8 (x : Int)] w fun e w' => e = .returned (.tuple #[]) ∧ Wc w' W D A { c with sm := stp c.sm x } ∧ Only W w w' := by
  have c1 := h.a6
  have z1 := h.fz 6
  have hst := step_c c.sm x hs hx w hT
  have AF : Aside (Wc (w.setCell ⟨W, 6, none⟩ (.int .u32 (stp c.sm x : Nat))) W D A { c with sm := stp c.sm x }) := h.s6 _
  clear h hs
  go_enter Tryz.func72, Tryz.ntmps72
  go_wp2_with (go_at_call 44; refine hst.mono ?_; rintro e2 w2 ⟨rfl, rfl⟩)
  first | go_end0 | (refine bodyPost_ret (results_none rfl _ _ _) rfl ?_)
  exact ⟨rfl, AF.out, (Only.refl W w).setCell 6 _⟩
theorem stopw_c (n : Nat) (w : World) (h : Wc w W D A c) : Calls Tryz.prog 117 #[.pointer (some ⟨W, 0, none⟩), .int .u8 (n : Int)] w fun e w' => e = .returned (.tuple #[]) ∧ Wc w' W D A (if n = 0 then c else { c with why := 47 }) ∧ Only W w w' := by
  have c1 := h.a15
  have z1 := h.fz 15
  by_cases h0 : n = 0
  · subst h0
    rw [if_pos rfl]
    have AF : Aside (Wc w W D A c) := h
    clear h
    go_enter Tryz.func117, Tryz.ntmps117
    go_wp2_with fail
    first | go_end0 | (refine bodyPost_ret (results_none rfl _ _ _) rfl ?_)
    exact ⟨rfl, AF.out, Only.refl W w⟩
  · rw [if_neg h0]
    have t : ((n : Int) == 0) = false := by rw [beq_eq_false_iff_ne]; omega
    have AF : Aside (Wc (w.setCell ⟨W, 15, none⟩ (.int .i64 47)) W D A { c with why := 47 }) := h.s15 47
    clear h h0
    go_enter Tryz.func117, Tryz.ntmps117
    go_wp2_with fail
    first | go_end0 | (refine bodyPost_ret (results_none rfl _ _ _) rfl ?_)
    exact ⟨rfl, AF.out, (Only.refl W w).setCell 15 _⟩
end
end Go.Proofs.YtogednaamndpgaaGreatDoor

/-
  The walker's small calls.
-/
namespace Go.Proofs.YtogednaamndpgaaGreatDoor
open Go.RowKit
set_option linter.unusedVariables false
theorem or_top (a x : Nat) (ha : a < 16777216) (hx : x < 256) : bits .or .u32 (a : Int) ((x : Int) * 16777216) = ((a + x * 16777216 : Nat) : Int) := by
  have e : (x : Int) * 16777216 = ((x * 16777216 : Nat) : Int) := by omega
  rw [e, u32_or_nat _ _ (by omega) (by omega)]
  congr 1
  have := Nat.two_pow_add_eq_or_of_lt (i := 24) (b := a) (by omega) x
  rw [Nat.or_comm, Nat.mul_comm x, show (16777216 : Nat) = 2 ^ 24 from rfl, ← this]
  omega
section
variable {W D A : Nat} {c : Gc}
theorem gather_c (x : Nat) (hx : x < 256) (w : World) (h : Wc w W D A c) (hb : c.nb < 4294967296) (hl : 1 ≤ c.lf) (hl2 : c.lf < 1000000) : Calls Tryz.prog 76 #[.pointer (some ⟨W, 0, none⟩), .int .u8 (x : Int)] w fun e w' => e = .returned (.bool (decide (c.lf - 1 = 0))) ∧ Wc w' W D A { c with nb := c.nb / 256 + x * 16777216, lf := c.lf - 1 } ∧ Only W w w' := by
  have c1 := h.a5
  have z1 := h.fz 5
  have c2 := h.a4
  have z2 := h.fz 4
  have AH : Aside (Wc ((w.setCell ⟨W, 5, none⟩ (.int .u32 ((c.nb / 256 + x * 16777216 : Nat) : Int))).setCell ⟨W, 4, none⟩ (.int .i64 ((c.lf - 1 : Nat) : Int))) W D A { c with nb := c.nb / 256 + x * 16777216, lf := c.lf - 1 }) := (h.s5 _).s4 _
  have hor := or_top (c.nb / 256) x (by omega) hx
  obtain ⟨nb, hnb⟩ : ∃ nb, c.nb = nb := ⟨_, rfl⟩
  obtain ⟨lf, hlf⟩ : ∃ lf, c.lf = lf := ⟨_, rfl⟩
  obtain ⟨m, hm⟩ : ∃ m, c.nb / 256 + x * 16777216 = m := ⟨_, rfl⟩
  obtain ⟨l2, hl3⟩ : ∃ l2, c.lf - 1 = l2 := ⟨_, rfl⟩
  rw [hm, hl3] at AH ⊢
  rw [hm] at hor
  rw [hlf] at c2 hl3 hl hl2
  rw [hnb] at c1 hor
  have hor2 : bits BinOp.or IntKind.u32 ((nb : Int) / 256) ((x : Int) * 16777216) = (m : Int) := by
    have e : ((nb / 256 : Nat) : Int) = (nb : Int) / 256 := by omega
    rw [← hor, e]
  have hdec : (lf : Int) - 1 = (l2 : Int) := by omega
  have hb0 : ((l2 : Int) == 0) = decide (l2 = 0) := by
    by_cases h0 : l2 = 0
    · subst h0; rfl
    · rw [decide_eq_false h0, beq_eq_false_iff_ne]; omega
  clear h hm hl3 hnb hlf hor hb
  go_enter Tryz.func76, Tryz.ntmps76
  go_wp2_with fail
  first | go_ret | go_ret2
  exact ⟨rfl, AH.out, ((Only.refl W w).setCell 5 _).setCell 4 _⟩
theorem half_c (w : World) (h : Wc w W D A c) : Calls Tryz.prog 139 #[.pointer (some ⟨W, 0, none⟩)] w fun e w' => e = .returned (.int .u32 ((c.nb / 65536 : Nat) : Int)) ∧ w = w' := by
  have c1 := h.a5
  have e : ((c.nb / 65536 : Nat) : Int) = (c.nb : Int) / 65536 := by omega
  rw [e]
  clear h e
  go_enter Tryz.func139, Tryz.ntmps139
  go_wp2_with fail
  first | go_ret | go_ret2
  exact ⟨rfl, rfl⟩
/-- A flag that is asked for, and taken away. -/
theorem asked_c (f v : Nat) (hv : f < 256) (t : Bool) (e1 : bits .and .u8 (f : Int) (v : Int) = 0 ∧ t = false ∨ bits .and .u8 (f : Int) (v : Int) ≠ 0 ∧ t = true) (f2 : Nat) (e2 : bits .andNot .u8 (f : Int) (v : Int) = (f2 : Int)) (w : World) (h : Wc w W D A c) (hf : c.fl = f) : Calls Tryz.prog 132 #[.pointer (some ⟨W, 0, none⟩), .int .u8 (v : Int)] w fun e w' => e = .returned (.bool t) ∧ Wc w' W D A { c with fl := f2 } ∧ Only W w w' := by
  have c1 := h.a2
  have z1 := h.fz 2
  rw [hf] at c1
  have AF : Aside (Wc (w.setCell ⟨W, 2, none⟩ (.int .u8 (f2 : Int))) W D A { c with fl := f2 }) := h.s2 f2
  clear h hf
  obtain ⟨m, hm⟩ : ∃ m, bits .and .u8 (f : Int) (v : Int) = m := ⟨_, rfl⟩
  rw [hm] at e1
  have e3 : (m != 0) = t := by
    rcases e1 with ⟨a, b⟩ | ⟨a, b⟩
    · subst a; subst b; rfl
    · subst b; simp [bne, a]
  clear e1
  go_enter Tryz.func132, Tryz.ntmps132
  go_wp2_with fail
  first | go_ret | go_ret2
  exact ⟨rfl, AF.out, (Only.refl W w).setCell 2 _⟩
end
end Go.Proofs.YtogednaamndpgaaGreatDoor

/-
  The walker with its name and its inflater in memory; what may turn while it works. No walk.
-/
namespace Go.Proofs.YtogednaamndpgaaGreatDoor
open Go.RowKit
set_option linter.unusedVariables false
/-- Where things lie: the walker's blocks from lo up to hi. -/
structure Wg (lo hi B W A : Nat) : Prop where
  l8 : 8 ≤ lo
  lB : lo ≤ B
  hB : B + 4 ≤ hi
  lW : lo ≤ W
  hW : W < hi
  lA : lo ≤ A
  hA : A < hi
  WA : W ≠ A
  WB : W < B ∨ B + 4 ≤ W
  AB : A < B ∨ B + 4 ≤ A
/-- What may have turned: the blocks from lo up to hi; memory may have come. -/
structure Fw (lo hi : Nat) (w u : World) : Prop where
  os : u.os = w.os
  tape : u.tape = w.tape
  output : u.output = w.output
  size : w.heap.size ≤ u.heap.size
  block : ∀ k, k < w.heap.size → (k < lo ∨ hi ≤ k) → u.heap[k]? = w.heap[k]?
section
variable {lo hi B W A : Nat} {w u v : World}
theorem Fw.refl (lo hi : Nat) (w : World) : Fw lo hi w w := ⟨rfl, rfl, rfl, Nat.le_refl _, fun _ _ _ => rfl⟩
theorem Fw.trans (h : Fw lo hi w u) (k : Fw lo hi u v) : Fw lo hi w v := ⟨k.os.trans h.os, k.tape.trans h.tape, k.output.trans h.output, Nat.le_trans h.size k.size, fun i hi hk => (k.block i (Nat.lt_of_lt_of_le hi h.size) hk).trans (h.block i hi hk)⟩
theorem Fw.of_only {c : Nat} (h : Only c w u) (h1 : lo ≤ c) (h2 : c < hi) : Fw lo hi w u := ⟨h.os, h.tape, h.output, Nat.le_of_eq h.size.symm, fun k _ hk => h.block k (by omega)⟩
theorem Fw.of_fm (h : Fm B w u) (h1 : lo ≤ B) (h2 : B + 4 ≤ hi) : Fw lo hi w u := ⟨h.os, h.tape, h.output, h.size, fun k hk hh => h.block k hk (by omega)⟩
theorem Fw.of_below {C : Nat} (h : Below C w u) (hC : w.heap.size ≤ C) : Fw lo hi w u := ⟨h.os, h.tape, h.output, h.size, fun k hk _ => h.block k (by omega)⟩
theorem Fw.below (h : Fw lo hi w u) (hl : lo ≤ w.heap.size) : Below lo w u := ⟨h.os, h.tape, h.output, h.size, fun k hk => h.block k (by omega) (Or.inl hk)⟩
end
/-- The name that was gathered. -/
def Nm (w : World) (A : Nat) (n : List Nat) : Prop := n.length ≤ 256 ∧ ∃ cur : Array Value, Cells w A cur 5 ∧ cur.size = 256 ∧ cur.toList.take n.length = ob n
section
variable {w u : World} {A : Nat} {n : List Nat}
theorem Nm.keep (h : Nm w A n) (e : u.heap[A]? = w.heap[A]?) : Nm u A n := by
  obtain ⟨h0, cur, h1, h2, h3⟩ := h
  exact ⟨h0, cur, by unfold Cells at *; rw [e]; exact h1, h2, h3⟩
theorem Nm.none_ (h : Nm w A n) : Nm w A [] := by
  obtain ⟨h0, cur, h1, h2, h3⟩ := h
  exact ⟨Nat.zero_le _, cur, h1, h2, rfl⟩
theorem Nm.own (h : Nm w A n) : w.ownsRow A 5 1 (.slice (some ⟨A, 0, none⟩) n.length 256) n.length (ob n) := by
  obtain ⟨h0, cur, h1, h2, h3⟩ := h
  exact ⟨by rw [ob_length]; omega, Or.inr ⟨A, 256, cur, rfl, Nat.le_refl _, h1, h0, by decide, by omega, by rw [Nat.mul_one]; exact h3⟩⟩
theorem Nm.of_own (h : w.ownsRow A 5 1 (.slice (some ⟨A, 0, none⟩) n.length 256) n.length (ob n)) : Nm w A n := by
  rcases h.2 with ⟨q, _⟩ | ⟨g, c, cur, q, _, hh, hc, hm, hs, ht⟩
  · cases q
  · cases q
    exact ⟨hc, cur, hh, by omega, by rw [Nat.mul_one] at ht; exact ht⟩
theorem Nm.lies (h : Nm w A n) : Lies w (some ⟨A, 0, none⟩) n := by
  obtain ⟨h0, cur, h1, h2, h3⟩ := h
  refine Or.inr ⟨A, 0, rfl, fun i x hx => ?_⟩
  have hi : i < n.length := (List.getElem?_eq_some_iff.1 hx).1
  rw [Nat.zero_add, h1.cell]
  have e : (cur.toList.take n.length)[i]? = some (.int .u8 (x : Int)) := by rw [h3, ob_get, hx]; rfl
  rw [List.getElem?_take, if_pos hi] at e
  simpa using e
theorem Nm.lt (h : Nm w A n) : A < w.heap.size := by obtain ⟨_, cur, h1, _⟩ := h; exact h1.lt
end
/-- The walker in memory: its cells, its name, its inflater. -/
structure Wk (w : World) (lo hi B D b R W A : Nat) (c : Gc) (n I : List Nat) (cf : Cfg) (q : Md) : Prop where
  g : Wg lo hi B W A
  wc : Wc w W D A c
  nl : c.nl = n.length
  nm : Nm w A n
  inf : Inf w B D b R I MM cf q
  tab : Ctab w
  hs : hi ≤ w.heap.size
section
variable {w u : World} {lo hi B D b R W A : Nat} {c c' : Gc} {n n' I : List Nat} {cf : Cfg} {q : Md}
theorem Wk.drewN (h : Wk w lo hi B D b R W A c n I cf q) (m : Nat) : Wk (w.drewN m) lo hi B D b R W A c n I cf q := ⟨h.g, h.wc, h.nl, h.nm, h.inf.kq ⟨Nat.le_refl _, fun k _ => Or.inl rfl⟩, h.tab, h.hs⟩
/-- The walker's own block turned. -/
theorem Wk.set (h : Wk w lo hi B D b R W A c n I cf q) (o : Only W w u) (hc : Wc u W D A c') (hn : c'.nl = c.nl) : Wk u lo hi B D b R W A c' n I cf q := by
  have g := h.g
  have hk : Kq B w u := ⟨Nat.le_of_eq o.size.symm, fun k hk => by
    by_cases e : k = W
    · subst e
      exact Or.inr ⟨by have := g.l8; have := g.lW; omega, g.WB, _, 65, _, h.wc, Or.inr (Or.inl rfl)⟩
    · exact Or.inl (o.block k e)⟩
  exact ⟨g, hc, hn.trans h.nl, h.nm.keep (o.block A (fun e => g.WA e.symm)), h.inf.kq hk, h.tab.kq hk, by rw [o.size]; exact h.hs⟩
theorem Wk.fw (h : Wk w lo hi B D b R W A c n I cf q) (o : Only W w u) : Fw lo hi w u := Fw.of_only o h.g.lW h.g.hW
/-- What is beyond the walker turned: rows of bytes and of lists of bytes; memory may have come. -/
theorem Wk.out (h : Wk w lo hi B D b R W A c n I cf q) (k : Below hi w u) (ht : ∀ i, i < w.heap.size → u.heap[i]? = w.heap[i]? ∨ ∃ cs ty fr, w.heap[i]? = some (.cells cs ty fr) ∧ (ty = 5 ∨ ty = 22 ∨ ty = 43)) : Wk u lo hi B D b R W A c n I cf q := by
  have g := h.g
  have hk : Kq B w u := ⟨k.size, fun i hi' => by
    by_cases e : i < hi
    · exact Or.inl (k.block i e)
    · rcases ht i hi' with e1 | ⟨cs, ty, fr, e1, e2⟩
      · exact Or.inl e1
      · exact Or.inr ⟨by have := g.l8; have := g.lW; have := g.hW; omega, Or.inr (by have := g.hB; omega), cs, ty, fr, e1, by rcases e2 with e2 | e2 | e2 <;> simp [e2]⟩⟩
  exact ⟨g, Cells.below h.wc k g.hW, h.nl, h.nm.keep (k.block A g.hA), h.inf.kq hk, h.tab.kq hk, Nat.le_trans h.hs k.size⟩
theorem Wk.below {C : Nat} (h : Wk w lo hi B D b R W A c n I cf q) (k : Below C w u) (hC : w.heap.size ≤ C) : Wk u lo hi B D b R W A c n I cf q := by
  have := h.hs
  exact h.out ⟨k.os, k.tape, k.output, k.size, fun i hi' => k.block i (by omega)⟩ fun i hi' => Or.inl (k.block i (by omega))
/-- The inflater worked. -/
theorem Wk.fm {I' : List Nat} {cf' : Cfg} {q' : Md} (h : Wk w lo hi B D b R W A c n I cf q) (k : Fm B w u) (hi' : Inf u B D b R I' MM cf' q') : Wk u lo hi B D b R W A c n I' cf' q' := by
  have g := h.g
  have hs := h.hs
  have e1 : u.heap[W]? = w.heap[W]? := k.block W (by have := g.hW; omega) (by have := g.WB; omega)
  have e2 : u.heap[A]? = w.heap[A]? := k.block A (by have := g.hA; omega) (by have := g.AB; omega)
  have e0 : u.heap[0]? = w.heap[0]? := k.block 0 h.tab.lt (by have := g.l8; have := g.lB; omega)
  refine ⟨g, ?_, h.nl, h.nm.keep e2, hi', fun i hi => (World.cell?_of_block (w := w) e0).trans (h.tab i hi), Nat.le_trans hs k.size⟩
  have := h.wc
  unfold Wc Cells at *
  rw [e1]
  exact this
theorem Wk.ffm (h : Wk w lo hi B D b R W A c n I cf q) (k : Fm B w u) : Fw lo hi w u := Fw.of_fm k h.g.lB h.g.hB
/-- The name grew. -/
theorem Wk.name (h : Wk w lo hi B D b R W A c n I cf q) (k : w.grownBy u (some A)) (hn : Nm u A n') (c' : Gc) (hc : c' = { c with nl := n'.length }) : ∃ v, Wc u W D A c ∧ v = Value.slice (some ⟨A, 0, none⟩) n'.length 256 ∧ ∀ x, Only W u x → Wc x W D A c' → Wk x lo hi B D b R W A c' n' I cf q := by
  have g := h.g
  have hlt := h.nm.lt
  have hk : Kq B w u := ⟨k.size, fun i hi' => by
    by_cases e : i = A
    · subst e
      obtain ⟨_, cur, h1, _⟩ := h.nm
      exact Or.inr ⟨by have := g.l8; have := g.lA; omega, g.AB, cur, 5, _, h1, Or.inl rfl⟩
    · exact Or.inl (k.block i hi' (fun q => e (Option.some.inj q)))⟩
  have e1 : u.heap[W]? = w.heap[W]? := k.block W (by have := g.hW; have := h.hs; omega) (fun q => g.WA (Option.some.inj q))
  have hwc : Wc u W D A c := by
    have := h.wc
    unfold Wc Cells at *
    rw [e1]
    exact this
  refine ⟨_, hwc, rfl, fun x o hx => ?_⟩
  have hk2 : Kq B u x := ⟨Nat.le_of_eq o.size.symm, fun k hk => by
    by_cases e : k = W
    · subst e
      exact Or.inr ⟨by have := g.l8; have := g.lW; omega, g.WB, _, 65, _, hwc, Or.inr (Or.inl rfl)⟩
    · exact Or.inl (o.block k e)⟩
  exact ⟨g, hx, by rw [hc], hn.keep (o.block A (fun e => g.WA e.symm)), (h.inf.kq hk).kq hk2, (h.tab.kq hk).kq hk2, by rw [o.size]; exact Nat.le_trans h.hs k.size⟩
/-- A call that turns the walker's block alone. -/
theorem Wk.lift {P : Program} {f : Nat} {args : Array Value} {r : Ending} (h : Wk w lo hi B D b R W A c n I cf q) (k : Calls P f args w fun e w' => e = r ∧ Wc w' W D A c' ∧ Only W w w') (hn : c'.nl = c.nl) : Calls P f args w fun e w' => e = r ∧ Wk w' lo hi B D b R W A c' n I cf q ∧ Fw lo hi w w' :=
  k.mono fun e w' ⟨h1, h2, h3⟩ => ⟨h1, h.set h3 h2 hn, h.fw h3⟩
end
end Go.Proofs.YtogednaamndpgaaGreatDoor

/-
  The walker's steps that may end a member's header: openMember, field, text, nameByte, anything, extraLength, headSum.
-/
namespace Go.Proofs.YtogednaamndpgaaGreatDoor
open Go.RowKit
set_option linter.unusedVariables false
/-- The steps' functions. -/
def pfn : Nat → Nat
  | 0 => 29
  | 1 => 73
  | 2 => 102
  | 3 => 116
  | 4 => 127
  | 5 => 133
  | 6 => 134
  | 7 => 135
  | 8 => 136
  | 9 => 141
  | 10 => 47
  | 11 => 77
  | 12 => 103
  | _ => 117
def gcof (s : Gs) (ev : Option Evn) : Gc := ⟨pfn s.nx, s.fl, s.nm.length, s.lf, s.nb, s.sm, s.gv % 4294967296, ev, s.wh, false, s.why⟩
theorem flag4 : ∀ f : _root_.Fin 32, (f.val / 4 % 2 = 1 → bits .and .u8 (f.val : Int) (4 : Nat) ≠ 0 ∧ bits .andNot .u8 (f.val : Int) (4 : Nat) = ((f.val - 4 : Nat) : Int)) ∧ (¬ f.val / 4 % 2 = 1 → bits .and .u8 (f.val : Int) (4 : Nat) = 0 ∧ bits .andNot .u8 (f.val : Int) (4 : Nat) = ((f.val : Nat) : Int)) := by decide +kernel
theorem flag8 : ∀ f : _root_.Fin 32, (f.val / 8 % 2 = 1 → bits .and .u8 (f.val : Int) (8 : Nat) ≠ 0 ∧ bits .andNot .u8 (f.val : Int) (8 : Nat) = ((f.val - 8 : Nat) : Int)) ∧ (¬ f.val / 8 % 2 = 1 → bits .and .u8 (f.val : Int) (8 : Nat) = 0 ∧ bits .andNot .u8 (f.val : Int) (8 : Nat) = ((f.val : Nat) : Int)) := by decide +kernel
theorem flag16 : ∀ f : _root_.Fin 32, (f.val / 16 % 2 = 1 → bits .and .u8 (f.val : Int) (16 : Nat) ≠ 0 ∧ bits .andNot .u8 (f.val : Int) (16 : Nat) = ((f.val - 16 : Nat) : Int)) ∧ (¬ f.val / 16 % 2 = 1 → bits .and .u8 (f.val : Int) (16 : Nat) = 0 ∧ bits .andNot .u8 (f.val : Int) (16 : Nat) = ((f.val : Nat) : Int)) := by decide +kernel
theorem flag2 : ∀ f : _root_.Fin 32, (f.val / 2 % 2 = 1 → bits .and .u8 (f.val : Int) (2 : Nat) ≠ 0 ∧ bits .andNot .u8 (f.val : Int) (2 : Nat) = ((f.val - 2 : Nat) : Int)) ∧ (¬ f.val / 2 % 2 = 1 → bits .and .u8 (f.val : Int) (2 : Nat) = 0 ∧ bits .andNot .u8 (f.val : Int) (2 : Nat) = ((f.val : Nat) : Int)) := by decide +kernel
section
variable {lo hi B D b R W A : Nat} {c : Gc} {n I : List Nat} {cf : Cfg} {q : Md}
theorem Wc.sev {w : World} (h : Wc w W D A c) (e : Option Evn) : Wc (((((w.setCell ⟨W, 8, none⟩ (.int .i64 (ev0 e))).setCell ⟨W, 9, none⟩ (.int .u8 (ev1 e))).setCell ⟨W, 10, none⟩ (.int .i64 (ev2 e))).setCell ⟨W, 11, none⟩ (.int .i64 0)).setCell ⟨W, 12, none⟩ (.string (st (ev4 e)))) W D A { c with ev := e } :=
  ((((Cells.set h 8 _).set 9 _).set 10 _).set 11 _).set 12 _
theorem only5 (W : Nat) (w : World) (a b c d e : Value) : Only W w (((((w.setCell ⟨W, 8, none⟩ a).setCell ⟨W, 9, none⟩ b).setCell ⟨W, 10, none⟩ c).setCell ⟨W, 11, none⟩ d).setCell ⟨W, 12, none⟩ e) := (((((Only.refl W w).setCell 8 _).setCell 9 _).setCell 10 _).setCell 11 _).setCell 12 _
theorem Wk.clear {w : World} (h : Wk w lo hi B D b R W A c n I cf q) : Wk (w.setCell ⟨W, 3, none⟩ (.slice (some ⟨A, 0, none⟩) 0 256)) lo hi B D b R W A { c with nl := 0 } [] I cf q := by
  have o : Only W w (w.setCell ⟨W, 3, none⟩ (.slice (some ⟨A, 0, none⟩) 0 256)) := (Only.refl W w).setCell 3 _
  have h2 : Wk (w.setCell ⟨W, 3, none⟩ (.slice (some ⟨A, 0, none⟩) 0 256)) lo hi B D b R W A { c with nl := 0 } [] I cf q := by
    have g := h.g
    have hk : Kq B w (w.setCell ⟨W, 3, none⟩ (.slice (some ⟨A, 0, none⟩) 0 256)) := ⟨Nat.le_of_eq o.size.symm, fun k hk => by
      by_cases e : k = W
      · subst e
        exact Or.inr ⟨by have := g.l8; have := g.lW; omega, g.WB, _, 65, _, h.wc, Or.inr (Or.inl rfl)⟩
      · exact Or.inl (o.block k e)⟩
    exact ⟨g, h.wc.s3 0, rfl, h.nm.none_.keep (o.block A (fun e => g.WA e.symm)), h.inf.kq hk, h.tab.kq hk, by rw [o.size]; exact h.hs⟩
  exact h2
set_option maxHeartbeats 1000000 in
theorem opm_c (w : World) (h : Wk w lo hi B D b R W A c n I cf q) (hon : Oct n) : Calls Tryz.prog 137 #[.pointer (some ⟨W, 0, none⟩)] w fun e w' => e = .returned (.tuple #[]) ∧ Wk w' lo hi B D b R W A { c with ev := some (256, n), nl := 0, sm := 0, gv := 0, nx := 141 } [] [] c0 .want ∧ Fw lo hi w w' := by
  have hcv := conv_st (w := w) n.length 256 rfl hon h.nm.lies
  have c3 := h.wc.a3
  rw [h.nl] at c3
  have c0 := h.wc.a0
  have c8 := h.wc.a8
  have c9 := h.wc.a9
  have c10 := h.wc.a10
  have c11 := h.wc.a11
  have c12 := h.wc.a12
  have z8 := h.wc.fz 8
  have z9 := h.wc.fz 9
  have z10 := h.wc.fz 10
  have z11 := h.wc.fz 11
  have z12 := h.wc.fz 12
  have z3 := h.wc.fz 3
  have h1 := (h.set (only5 W w _ _ _ _ _) (h.wc.sev (some (256, n))) rfl)
  have h2 := h1.clear
  have hr := reset_c _ h2.inf
  have AH : Aside (Wk ((((((w.setCell ⟨W, 8, none⟩ (.int .i64 1)).setCell ⟨W, 9, none⟩ (.int .u8 0)).setCell ⟨W, 10, none⟩ (.int .i64 2)).setCell ⟨W, 11, none⟩ (.int .i64 0)).setCell ⟨W, 12, none⟩ (.string (st n))).setCell ⟨W, 3, none⟩ (.slice (some ⟨A, 0, none⟩) 0 256)) lo hi B D b R W A { c with ev := some (256, n), nl := 0 } [] I cf q ∧ Fw lo hi w ((((((w.setCell ⟨W, 8, none⟩ (.int .i64 1)).setCell ⟨W, 9, none⟩ (.int .u8 0)).setCell ⟨W, 10, none⟩ (.int .i64 2)).setCell ⟨W, 11, none⟩ (.int .i64 0)).setCell ⟨W, 12, none⟩ (.string (st n))).setCell ⟨W, 3, none⟩ (.slice (some ⟨A, 0, none⟩) 0 256))) := ⟨h2, h.fw ((only5 W w _ _ _ _ _).setCell 3 _)⟩
  replace hr : Calls Tryz.prog 140 #[.pointer (some ⟨D, 0, none⟩)] ((((((w.setCell ⟨W, 8, none⟩ (.int .i64 1)).setCell ⟨W, 9, none⟩ (.int .u8 0)).setCell ⟨W, 10, none⟩ (.int .i64 2)).setCell ⟨W, 11, none⟩ (.int .i64 0)).setCell ⟨W, 12, none⟩ (.string (st n))).setCell ⟨W, 3, none⟩ (.slice (some ⟨A, 0, none⟩) 0 256)) _ := hr
  obtain ⟨m, hm⟩ : ∃ m, n.length = m := ⟨_, rfl⟩
  rw [hm] at hcv c3
  clear h h1 h2 hm
  go_enter Tryz.func137, Tryz.ntmps137
  go_upto_region 3 with (go_at_call 140; refine hr.mono ?_; rintro e2 w2 ⟨rfl, hi2, hf2⟩)
  have k2 := AH.out.1.fm hf2 hi2
  have A2 : Aside (Wk w2 lo hi B D b R W A { c with ev := some (256, n), nl := 0 } [] [] Go.Proofs.YtogednaamndpgaaGreatDoor.c0 .want ∧ Fw lo hi w w2) := ⟨k2, AH.out.2.trans (AH.out.1.ffm hf2)⟩
  have d6 := k2.wc.a6
  have d7 := k2.wc.a7
  have d1 := k2.wc.a1
  have y6 := k2.wc.fz 6
  have y7 := k2.wc.fz 7
  have y1 := k2.wc.fz 1
  clear hr hcv c3 c0 c8 c9 c10 c11 c12 z8 z9 z10 z11 z12 z3 k2 AH hi2 hf2
  go_wp2_with fail
  first | go_end0 | (refine bodyPost_ret (results_none rfl _ _ _) rfl ?_)
  have a2 := A2.out
  refine ⟨rfl, a2.1.set (((Only.refl W w2).setCell 6 _).setCell 7 _ |>.setCell 1 _) (((a2.1.wc.s6 0).s7 0).s1 141) rfl, a2.2.trans (a2.1.fw (((Only.refl W w2).setCell 6 _).setCell 7 _ |>.setCell 1 _))⟩
/-- A header went on, or was over. -/
def Wo (w : World) (lo hi B D b R W A : Nat) (r : Gs × List Evn) : Prop := (r.2 = [] ∧ ∃ I cf q, Wk w lo hi B D b R W A (gcof r.1 none) r.1.nm I cf q) ∨ (∃ m, r.2 = [(256, m)] ∧ Wk w lo hi B D b R W A (gcof r.1 (some (256, m))) r.1.nm [] c0 .want)
end
end Go.Proofs.YtogednaamndpgaaGreatDoor

/-
  The walker's steps: field, text, nameByte, anything, extraLength, headSum.
-/
namespace Go.Proofs.YtogednaamndpgaaGreatDoor
open Go.RowKit
set_option linter.unusedVariables false
section
variable {lo hi B D b R W A : Nat} {c : Gc} {n I : List Nat} {cf : Cfg} {q : Md} {s : Gs}
theorem Wk.then_ (k m : Nat) (w : World) (h : Wk w lo hi B D b R W A c n I cf q) : Calls Tryz.prog 46 #[.pointer (some ⟨W, 0, none⟩), .func (.func k) #[.pointer (some ⟨W, 0, none⟩)] #[], .int .i64 (m : Int)] w fun e w' => e = .returned (.tuple #[]) ∧ Wk w' lo hi B D b R W A { c with nx := k, lf := m } n I cf q ∧ Fw lo hi w w' := h.lift (then_c k m w h.wc) rfl
theorem Wk.cnt (x : Nat) (hx : x < 256) (hs : c.sm < 4294967296) (w : World) (h : Wk w lo hi B D b R W A c n I cf q) : Calls Tryz.prog 72 #[.pointer (some ⟨W, 0, none⟩), .int .u8 (x : Int)] w fun e w' => e = .returned (.tuple #[]) ∧ Wk w' lo hi B D b R W A { c with sm := stp c.sm x } n I cf q ∧ Fw lo hi w w' := h.lift (cnt_c x hx w h.tab h.wc hs) rfl
theorem Wk.asked (f v f2 : Nat) (t : Bool) (e1 : bits .and .u8 (f : Int) (v : Int) = 0 ∧ t = false ∨ bits .and .u8 (f : Int) (v : Int) ≠ 0 ∧ t = true) (e2 : bits .andNot .u8 (f : Int) (v : Int) = (f2 : Int)) (hv : f < 256) (hfl : c.fl = f) (w : World) (h : Wk w lo hi B D b R W A c n I cf q) : Calls Tryz.prog 132 #[.pointer (some ⟨W, 0, none⟩), .int .u8 (v : Int)] w fun e w' => e = .returned (.bool t) ∧ Wk w' lo hi B D b R W A { c with fl := f2 } n I cf q ∧ Fw lo hi w w' := h.lift (asked_c f v hv t e1 f2 e2 w h.wc hfl) rfl
theorem Wk.gather (x : Nat) (hx : x < 256) (hb : c.nb < 4294967296) (hl : 1 ≤ c.lf) (hl2 : c.lf < 1000000) (w : World) (h : Wk w lo hi B D b R W A c n I cf q) : Calls Tryz.prog 76 #[.pointer (some ⟨W, 0, none⟩), .int .u8 (x : Int)] w fun e w' => e = .returned (.bool (decide (c.lf - 1 = 0))) ∧ Wk w' lo hi B D b R W A { c with nb := c.nb / 256 + x * 16777216, lf := c.lf - 1 } n I cf q ∧ Fw lo hi w w' := h.lift (gather_c x hx w h.wc hb hl hl2) rfl
set_option maxHeartbeats 1000000 in
theorem field_c (w : World) (hw : Wk w lo hi B D b R W A (gcof s none) s.nm I cf q) (hf : s.fl < 32) (hon : Oct s.nm) : Calls Tryz.prog 130 #[.pointer (some ⟨W, 0, none⟩)] w fun e w' => e = .returned (.tuple #[]) ∧ Wo w' lo hi B D b R W A (gfield s) ∧ Fw lo hi w w' := by
  have F4 := flag4 ⟨s.fl, hf⟩
  dsimp only at F4
  have F8 := flag8 ⟨s.fl, hf⟩
  dsimp only at F8
  have F16 := flag16 ⟨s.fl, hf⟩
  dsimp only at F16
  have F2 := flag2 ⟨s.fl, hf⟩
  dsimp only at F2
  have hf2 : s.fl < 256 := by omega
  unfold gfield
  by_cases b4 : s.fl / 4 % 2 = 1
  · rw [if_pos b4]
    have k4 : ∀ w, Wk w lo hi B D b R W A (gcof s none) s.nm I cf q → Calls Tryz.prog 132 #[.pointer (some ⟨W, 0, none⟩), .int .u8 4] w _ := fun w h => h.asked s.fl 4 (s.fl - 4) true (Or.inr ⟨(F4.1 b4).1, rfl⟩) (F4.1 b4).2 hf2 rfl w
    have kt : ∀ w, Wk w lo hi B D b R W A { gcof s none with fl := s.fl - 4 } s.nm I cf q → Calls Tryz.prog 46 #[.pointer (some ⟨W, 0, none⟩), .func (.func 133) #[.pointer (some ⟨W, 0, none⟩)] #[], .int .i64 2] w _ := fun w h => h.then_ 133 2 w
    clear F4 F8 F16 F2 b4 hf hf2 hon
    go_enter Tryz.func130, Tryz.ntmps130
    go_wp2_with (first
      | (go_at_call 132; refine (k4 _ hw).mono ?_; rintro e1 w1 ⟨rfl, h1, f1⟩)
      | (go_at_call 46; refine (kt _ h1).mono ?_; rintro e2 w2 ⟨rfl, h2, f2⟩))
    first | go_end0 | (refine bodyPost_ret (results_none rfl _ _ _) rfl ?_)
    exact ⟨rfl, Or.inl ⟨rfl, I, cf, q, h2⟩, f1.trans f2⟩
  · rw [if_neg b4]
    have k4 : ∀ w, Wk w lo hi B D b R W A (gcof s none) s.nm I cf q → Calls Tryz.prog 132 #[.pointer (some ⟨W, 0, none⟩), .int .u8 4] w _ := fun w h => h.asked s.fl 4 s.fl false (Or.inl ⟨(F4.2 b4).1, rfl⟩) (F4.2 b4).2 hf2 rfl w
    by_cases b8 : s.fl / 8 % 2 = 1
    · rw [if_pos b8]
      have k8 : ∀ w, Wk w lo hi B D b R W A (gcof s none) s.nm I cf q → Calls Tryz.prog 132 #[.pointer (some ⟨W, 0, none⟩), .int .u8 8] w _ := fun w h => h.asked s.fl 8 (s.fl - 8) true (Or.inr ⟨(F8.1 b8).1, rfl⟩) (F8.1 b8).2 hf2 rfl w
      have kt : ∀ w, Wk w lo hi B D b R W A { gcof s none with fl := s.fl - 8 } s.nm I cf q → Calls Tryz.prog 46 #[.pointer (some ⟨W, 0, none⟩), .func (.func 134) #[.pointer (some ⟨W, 0, none⟩)] #[], .int .i64 256] w _ := fun w h => h.then_ 134 256 w
      clear F4 F8 F16 F2 b4 b8 hf hf2 hon
      go_enter Tryz.func130, Tryz.ntmps130
      go_wp2_with (first
        | (go_at_call 132; with_reducible refine (k4 _ hw).mono ?_; rintro e1 w1 ⟨rfl, h1, f1⟩)
        | (go_at_call 132; with_reducible refine (k8 _ h1).mono ?_; rintro e2 w2 ⟨rfl, h2, f2⟩)
        | (go_at_call 46; refine (kt _ h2).mono ?_; rintro e3 w3 ⟨rfl, h3, f3⟩))
      first | go_end0 | (refine bodyPost_ret (results_none rfl _ _ _) rfl ?_)
      exact ⟨rfl, Or.inl ⟨rfl, I, cf, q, h3⟩, (f1.trans f2).trans f3⟩
    · rw [if_neg b8]
      have k8 : ∀ w, Wk w lo hi B D b R W A (gcof s none) s.nm I cf q → Calls Tryz.prog 132 #[.pointer (some ⟨W, 0, none⟩), .int .u8 8] w _ := fun w h => h.asked s.fl 8 s.fl false (Or.inl ⟨(F8.2 b8).1, rfl⟩) (F8.2 b8).2 hf2 rfl w
      by_cases b16 : s.fl / 16 % 2 = 1
      · rw [if_pos b16]
        have k16 : ∀ w, Wk w lo hi B D b R W A (gcof s none) s.nm I cf q → Calls Tryz.prog 132 #[.pointer (some ⟨W, 0, none⟩), .int .u8 16] w _ := fun w h => h.asked s.fl 16 (s.fl - 16) true (Or.inr ⟨(F16.1 b16).1, rfl⟩) (F16.1 b16).2 hf2 rfl w
        have kt : ∀ w, Wk w lo hi B D b R W A { gcof s none with fl := s.fl - 16 } s.nm I cf q → Calls Tryz.prog 46 #[.pointer (some ⟨W, 0, none⟩), .func (.func 135) #[.pointer (some ⟨W, 0, none⟩)] #[], .int .i64 256] w _ := fun w h => h.then_ 135 256 w
        clear F4 F8 F16 F2 b4 b8 b16 hf hf2 hon
        go_enter Tryz.func130, Tryz.ntmps130
        go_wp2_with (first
          | (go_at_call 132; with_reducible refine (k4 _ hw).mono ?_; rintro e1 w1 ⟨rfl, h1, f1⟩)
          | (go_at_call 132; with_reducible refine (k8 _ h1).mono ?_; rintro e2 w2 ⟨rfl, h2, f2⟩)
          | (go_at_call 132; with_reducible refine (k16 _ h2).mono ?_; rintro e3 w3 ⟨rfl, h3, f3⟩)
          | (go_at_call 46; refine (kt _ h3).mono ?_; rintro e4 w4 ⟨rfl, h4, f4⟩))
        first | go_end0 | (refine bodyPost_ret (results_none rfl _ _ _) rfl ?_)
        exact ⟨rfl, Or.inl ⟨rfl, I, cf, q, h4⟩, ((f1.trans f2).trans f3).trans f4⟩
      · rw [if_neg b16]
        have k16 : ∀ w, Wk w lo hi B D b R W A (gcof s none) s.nm I cf q → Calls Tryz.prog 132 #[.pointer (some ⟨W, 0, none⟩), .int .u8 16] w _ := fun w h => h.asked s.fl 16 s.fl false (Or.inl ⟨(F16.2 b16).1, rfl⟩) (F16.2 b16).2 hf2 rfl w
        by_cases b2 : s.fl / 2 % 2 = 1
        · rw [if_pos b2]
          have k2 : ∀ w, Wk w lo hi B D b R W A (gcof s none) s.nm I cf q → Calls Tryz.prog 132 #[.pointer (some ⟨W, 0, none⟩), .int .u8 2] w _ := fun w h => h.asked s.fl 2 (s.fl - 2) true (Or.inr ⟨(F2.1 b2).1, rfl⟩) (F2.1 b2).2 hf2 rfl w
          have kt : ∀ w, Wk w lo hi B D b R W A { gcof s none with fl := s.fl - 2 } s.nm I cf q → Calls Tryz.prog 46 #[.pointer (some ⟨W, 0, none⟩), .func (.func 136) #[.pointer (some ⟨W, 0, none⟩)] #[], .int .i64 2] w _ := fun w h => h.then_ 136 2 w
          clear F4 F8 F16 F2 b4 b8 b16 b2 hf hf2 hon
          go_enter Tryz.func130, Tryz.ntmps130
          go_wp2_with (first
            | (go_at_call 132; with_reducible refine (k4 _ hw).mono ?_; rintro e1 w1 ⟨rfl, h1, f1⟩)
            | (go_at_call 132; with_reducible refine (k8 _ h1).mono ?_; rintro e2 w2 ⟨rfl, h2, f2⟩)
            | (go_at_call 132; with_reducible refine (k16 _ h2).mono ?_; rintro e3 w3 ⟨rfl, h3, f3⟩)
            | (go_at_call 132; with_reducible refine (k2 _ h3).mono ?_; rintro e4 w4 ⟨rfl, h4, f4⟩)
            | (go_at_call 46; refine (kt _ h4).mono ?_; rintro e5 w5 ⟨rfl, h5, f5⟩))
          first | go_end0 | (refine bodyPost_ret (results_none rfl _ _ _) rfl ?_)
          exact ⟨rfl, Or.inl ⟨rfl, I, cf, q, h5⟩, (((f1.trans f2).trans f3).trans f4).trans f5⟩
        · rw [if_neg b2]
          have k2 : ∀ w, Wk w lo hi B D b R W A (gcof s none) s.nm I cf q → Calls Tryz.prog 132 #[.pointer (some ⟨W, 0, none⟩), .int .u8 2] w _ := fun w h => h.asked s.fl 2 s.fl false (Or.inl ⟨(F2.2 b2).1, rfl⟩) (F2.2 b2).2 hf2 rfl w
          have ko : ∀ w, Wk w lo hi B D b R W A (gcof s none) s.nm I cf q → Calls Tryz.prog 137 #[.pointer (some ⟨W, 0, none⟩)] w _ := fun w h => opm_c w h hon
          clear F4 F8 F16 F2 b4 b8 b16 b2 hf hf2 hon
          go_enter Tryz.func130, Tryz.ntmps130
          go_wp2_with (first
            | (go_at_call 132; with_reducible refine (k4 _ hw).mono ?_; rintro e1 w1 ⟨rfl, h1, f1⟩)
            | (go_at_call 132; with_reducible refine (k8 _ h1).mono ?_; rintro e2 w2 ⟨rfl, h2, f2⟩)
            | (go_at_call 132; with_reducible refine (k16 _ h2).mono ?_; rintro e3 w3 ⟨rfl, h3, f3⟩)
            | (go_at_call 132; with_reducible refine (k2 _ h3).mono ?_; rintro e4 w4 ⟨rfl, h4, f4⟩)
            | (go_at_call 137; refine (ko _ h4).mono ?_; rintro e5 w5 ⟨rfl, h5, f5⟩))
          first | go_end0 | (refine bodyPost_ret (results_none rfl _ _ _) rfl ?_)
          exact ⟨rfl, Or.inr ⟨_, rfl, h5⟩, (((f1.trans f2).trans f3).trans f4).trans f5⟩
end
end Go.Proofs.YtogednaamndpgaaGreatDoor

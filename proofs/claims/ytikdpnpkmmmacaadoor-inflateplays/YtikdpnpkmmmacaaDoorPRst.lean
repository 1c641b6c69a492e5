/-
  Reset: the inflater as a new one.
-/
import Derived.Test.YtikdpnpkmmmacaaDoorMr
import Derived.Deep.RegionHeld3
namespace Go.Proofs.YtikdpnpkmmmacaaDoor
open Go.RowKit
set_option linter.unusedVariables false
/-- A row stored into the inflater's block, told of the operation alone. -/
theorem wp_store_cz {P : Program} {o : Oper} {a : Act} {w : World} {K : Act → World → Prop} {Q : Exit → Act → World → Prop} (ty : TypeId) (x y : Operand) (ho : o.op = .store ty x y)
    (D off : Nat) (cells : Array Value) (hx : a.eval x = .pointer (some ⟨D, off, none⟩)) (hy : a.eval y = .agg cells) (f : Nat → Value) (hg : Cells w D (cz f) 73) (hi : (P.info? ty).map (·.size) = some cells.size)
    (hle : off + cells.size ≤ 355) (h1 : cells.all (·.oneCell') = true)
    (h : ∀ w' f', Mid D off f f' cells.toList w w' → K (a.put o.dst undef) w') : o.wp P a w K Q := by
  obtain ⟨w', f', h2, h3⟩ := store_mid (P := P) D off cells.toList 0 f w hg (by simp; omega) (fun v hv => (Array.all_eq_true_iff_forall_mem.1 h1) v (by simpa using hv))
  have hv : (storeVar ty ⟨D, off, none⟩ (.agg cells)).run P w = .ok () w' := by
    cases hq : P.info? ty with
    | none => simp [hq] at hi
    | some i =>
      have hs : cells.size = i.size := by simp [hq] at hi; omega
      simp [storeVar, sizeOf, typeInfo, hq, Value.cells, hs, h2]
  unfold Oper.wp execOp
  simp only [ho, hx, hy, Instr.storeAt, Instr.sureAddr, Sem.run_bind, Sem.run_pure, Result.andThen_ok, hv]
  exact h w' f' h3
theorem nf_one (b R : Nat) (p q : Option Addr) : (cz (nf b R (.pointer p) (.pointer q))).all (·.oneCell') = true := by kernel_rfl
theorem zc73r (b R : Nat) (p q : Option Addr) : (((Tryd.zeroCells73.setIfInBounds 0 (.pointer (some ⟨b, 0, none⟩))).setIfInBounds 1 (.pointer (some ⟨R, 0, none⟩))).setIfInBounds 3 (.pointer p)).setIfInBounds 4 (.pointer q) = cz (nf b R (.pointer p) (.pointer q)) := by kernel_rfl
section
variable {B D b R : Nat} {I : List Nat} {M : Nat} {c : Cfg} {q : Md}
set_option maxRecDepth 100000 in
set_option maxHeartbeats 2000000 in
theorem reset_c (w : World) (h : Inf w B D b R I M c q) : Calls Tryd.prog 20 #[.pointer (some ⟨D, 0, none⟩)] w fun e w' => e = .returned (.tuple #[]) ∧ Inf w' B D b R [] M c0 .want ∧ Fm B w w' := by
  obtain ⟨f, hh, l, s, hx, ht, h7⟩ := h.mem
  obtain ⟨p3, p4, e3, e4⟩ : ∃ p3 p4, f 3 = .pointer p3 ∧ f 4 = .pointer p4 := by
    rcases hx with ⟨h3, h4⟩ | ⟨⟨_, _, T, h3, _⟩, ⟨_, _, T', h4, _⟩⟩
    · exact ⟨_, _, h3, h4⟩
    · exact ⟨_, _, h3, h4⟩
  have d0 := (s.cell (show 0 < 355 by decide)).trans (congrArg some s.c0)
  have hclr := clear_b b _ _ w s.br
  have A : Aside (Bs w B D b R f hh l ∧ Fx w B f ∧ Tabs w ∧ 7 ≤ B ∧ f 3 = .pointer p3 ∧ f 4 = .pointer p4) := ⟨s, hx, ht, h7, e3, e4⟩
  clear s hx ht h7 e3 e4 h
  go_enter Tryd.func20, Tryd.ntmps20
  go_upto_region 2 with (go_at_call 37; refine hclr.mono ?_; rintro e1 w1 ⟨rfl, hb1, ho1⟩)
  have s1 : Bs w1 B D b R f [] l := A.out.1.onb ho1 (h' := []) hb1
  have d1 := (s1.cell (show 1 < 355 by decide)).trans (congrArg some s1.c1)
  have hrc := gclear_r w1 s1.rg
  have A1 : Aside (Bs w1 B D b R f [] l ∧ Fm B w w1) := ⟨s1, Fm.of_only ho1 (by have := A.out.1.eb; omega) (by have := A.out.1.eb; omega)⟩
  clear s1 hb1 ho1 hclr d0
  go_upto_region 3 with (go_at_call 38; refine hrc.mono ?_; rintro e2 w2 ⟨rfl, hr2, ho2⟩)
  have s2 : Bs w2 B D b R f [] [] := A1.out.1.onR ⟨ho2.os, ho2.tape, ho2.output, ho2.size, fun k hk _ => ho2.block k hk⟩ hr2
  have g0 := (s2.cell (show 0 < 355 by decide)).trans (congrArg some s2.c0)
  have g1 := (s2.cell (show 1 < 355 by decide)).trans (congrArg some s2.c1)
  have g3 := (s2.cell (show 3 < 355 by decide)).trans (congrArg some A.out.2.2.2.2.1)
  have g4 := (s2.cell (show 4 < 355 by decide)).trans (congrArg some A.out.2.2.2.2.2)
  have A2 : Aside (Bs w2.drew B D b R f [] [] ∧ Fm B w w2.drew) := ⟨s2.drew, (A1.out.2.trans (Fm.of_only ho2 (by have := A.out.1.eR; omega) (by have := A.out.1.eR; omega))).trans ((Fm.refl B w2).drew)⟩
  clear s2 hr2 ho2 hrc d1
  refine wp_region_held_drew (S := fun u => u.cell? ⟨D, 0, none⟩ = some (.pointer (some ⟨b, 0, none⟩)) ∧ u.cell? ⟨D, 1, none⟩ = some (.pointer (some ⟨R, 0, none⟩)) ∧ u.cell? ⟨D, 3, none⟩ = some (.pointer p3) ∧ u.cell? ⟨D, 4, none⟩ = some (.pointer p4)) (by kernel_rfl) ⟨g0, g1, g3, g4⟩ (fun hHeld => ?_)
  refine wpAnyH_take (i := 0) (oi := ⟨_, _, _, _, _, _⟩) (v := ?_) rfl (by kernel_rfl) (by kernel_rfl) (by kernel_rfl) (fun _ _ _ h => h) (Or.inl ⟨by rfl, ?_⟩) hHeld ?_
  rotate_left
  · (intro w9 hSw; (try dsimp only at hSw); go_simp; try (with_reducible rfl))
  try simp only [Act.put, List.setIfInBounds_toArray, List.set_cons_zero, List.set_cons_succ]
  refine wpAnyH_take (i := 1) (oi := ⟨_, _, _, _, _, _⟩) (v := ?_) rfl (by kernel_rfl) (by kernel_rfl) (by kernel_rfl) (fun _ _ _ h => h) (Or.inl ⟨by rfl, ?_⟩) hHeld ?_
  rotate_left
  · (intro w9 hSw; (try dsimp only at hSw); go_simp; try (with_reducible rfl))
  try simp only [Act.put, List.setIfInBounds_toArray, List.set_cons_zero, List.set_cons_succ]
  refine wpAnyH_take (i := 2) (oi := ⟨_, _, _, _, _, _⟩) (v := ?_) rfl (by kernel_rfl) (by kernel_rfl) (by kernel_rfl) (fun _ _ _ h => h) (Or.inl ⟨by rfl, ?_⟩) hHeld ?_
  rotate_left
  · (intro w9 hSw; (try dsimp only at hSw); go_simp; try (with_reducible rfl))
  try simp only [Act.put, List.setIfInBounds_toArray, List.set_cons_zero, List.set_cons_succ]
  refine wpAnyH_take (i := 3) (oi := ⟨_, _, _, _, _, _⟩) (v := ?_) rfl (by kernel_rfl) (by kernel_rfl) (by kernel_rfl) (fun _ _ _ h => h) (Or.inl ⟨by rfl, ?_⟩) hHeld ?_
  rotate_left
  · (intro w9 hSw; (try dsimp only at hSw); go_simp; try (with_reducible rfl))
  try simp only [Act.put, List.setIfInBounds_toArray, List.set_cons_zero, List.set_cons_succ]
  refine wpAnyH_take (i := 4) (oi := ⟨_, _, _, _, _, _⟩) (v := ?_) rfl (by kernel_rfl) (by kernel_rfl) (by kernel_rfl) (fun _ _ _ h => h) (Or.inl ⟨by rfl, ?_⟩) hHeld ?_
  rotate_left
  · (intro w9 hSw; (try dsimp only at hSw); go_simp; try (with_reducible rfl))
  try simp only [Act.put, List.setIfInBounds_toArray, List.set_cons_zero, List.set_cons_succ]
  refine wpAnyH_take (i := 5) (oi := ⟨_, _, _, _, _, _⟩) (v := ?_) rfl (by kernel_rfl) (by kernel_rfl) (by kernel_rfl) (fun _ _ _ h => h) (Or.inl ⟨by rfl, ?_⟩) hHeld ?_
  rotate_left
  · (intro w9 hSw; (try dsimp only at hSw); go_simp; try (with_reducible rfl))
  try simp only [Act.put, List.setIfInBounds_toArray, List.set_cons_zero, List.set_cons_succ]
  refine wpAnyH_take (i := 6) (oi := ⟨_, _, _, _, _, _⟩) (v := ?_) rfl (by kernel_rfl) (by kernel_rfl) (by kernel_rfl) (fun _ _ _ h => h) (Or.inl ⟨by rfl, ?_⟩) hHeld ?_
  rotate_left
  · (intro w9 hSw; (try dsimp only at hSw); go_simp; try (with_reducible rfl))
  try simp only [Act.put, List.setIfInBounds_toArray, List.set_cons_zero, List.set_cons_succ]
  refine wpAnyH_take (i := 7) (oi := ⟨_, _, _, _, _, _⟩) (v := ?_) rfl (by kernel_rfl) (by kernel_rfl) (by kernel_rfl) (fun _ _ _ h => h) (Or.inl ⟨by rfl, ?_⟩) hHeld ?_
  rotate_left
  · (intro w9 hSw; (try dsimp only at hSw); go_simp; try (with_reducible rfl))
  try simp only [Act.put, List.setIfInBounds_toArray, List.set_cons_zero, List.set_cons_succ]
  refine wpAnyH_take (i := 8) (oi := ⟨_, _, _, _, _, _⟩) (v := ?_) rfl (by kernel_rfl) (by kernel_rfl) (by kernel_rfl) (fun _ _ _ h => h) (Or.inl ⟨by rfl, ?_⟩) hHeld ?_
  rotate_left
  · (intro w9 hSw; (try dsimp only at hSw); go_simp; try (with_reducible rfl))
  try simp only [Act.put, List.setIfInBounds_toArray, List.set_cons_zero, List.set_cons_succ]
  refine wpAnyH_take (i := 9) (oi := ⟨_, _, _, _, _, _⟩) (v := ?_) rfl (by kernel_rfl) (by kernel_rfl) (by kernel_rfl) (fun _ _ _ h => h) (Or.inl ⟨by rfl, ?_⟩) hHeld ?_
  rotate_left
  · (intro w9 hSw; (try dsimp only at hSw); go_simp; try (with_reducible rfl))
  try simp only [Act.put, List.setIfInBounds_toArray, List.set_cons_zero, List.set_cons_succ]
  refine wpAnyH_take (i := 10) (oi := ⟨_, _, _, _, _, _⟩) (v := ?_) rfl (by kernel_rfl) (by kernel_rfl) (by kernel_rfl) (fun _ _ _ h => h) (Or.inl ⟨by rfl, ?_⟩) hHeld ?_
  rotate_left
  · (intro w9 hSw; (try dsimp only at hSw); go_simp; try (with_reducible rfl))
  try simp only [Act.put, List.setIfInBounds_toArray, List.set_cons_zero, List.set_cons_succ]
  refine wpAnyH_take (i := 11) (oi := ⟨_, _, _, _, _, _⟩) (v := ?_) rfl (by kernel_rfl) (by kernel_rfl) (by kernel_rfl) (fun _ _ _ h => h) (Or.inl ⟨by rfl, ?_⟩) hHeld ?_
  rotate_left
  · (intro w9 hSw; (try dsimp only at hSw); go_simp; try (with_reducible rfl))
  try simp only [Act.put, List.setIfInBounds_toArray, List.set_cons_zero, List.set_cons_succ]
  refine wpAnyH_take (i := 12) (oi := ⟨_, _, _, _, _, _⟩) (v := ?_) rfl (by kernel_rfl) (by kernel_rfl) (by kernel_rfl) (fun _ _ _ h => h) (Or.inl ⟨by rfl, ?_⟩) hHeld ?_
  rotate_left
  · (intro w9 hSw; (try dsimp only at hSw); go_simp; try (with_reducible rfl))
  try simp only [Act.put, List.setIfInBounds_toArray, List.set_cons_zero, List.set_cons_succ]
  refine wpAnyH_take (i := 13) (oi := ⟨_, _, _, _, _, _⟩) (v := ?_) rfl (by kernel_rfl) (by kernel_rfl) (by kernel_rfl) (fun _ _ _ h => h) (Or.inl ⟨by rfl, ?_⟩) hHeld ?_
  rotate_left
  · (intro w9 hSw; (try dsimp only at hSw); go_simp; try (with_reducible rfl))
  try simp only [Act.put, List.setIfInBounds_toArray, List.set_cons_zero, List.set_cons_succ]
  refine wpAnyH_take (i := 14) (oi := ⟨_, _, _, _, _, _⟩) (v := ?_) rfl (by kernel_rfl) (by kernel_rfl) (by kernel_rfl) (fun _ _ _ h => h) (Or.inl ⟨by rfl, ?_⟩) hHeld ?_
  rotate_left
  · (intro w9 hSw; (try dsimp only at hSw); go_simp; try (with_reducible rfl))
  try simp only [Act.put, List.setIfInBounds_toArray, List.set_cons_zero, List.set_cons_succ]
  refine wpAnyH_ready (rs := [15]) (by kernel_rfl) (by simp) ?_
  refine AllReadyH.cons (o := ⟨_, _, _, _, _, _⟩) rfl (fun K hK => ?_) AllReadyH.nil
  rw [if_pos (by rfl)]
  refine wp_store_cz 73 _ _ rfl D 0 (cz (nf b R (.pointer p3) (.pointer p4))) (by rfl) (congrArg Value.agg (zc73r b R p3 p4)) f A2.out.1.fr (by rw [cz_size]; exact size73) (by rw [cz_size]; omega) (nf_one b R p3 p4) ?_
  intro w3 f3 hm
  have hf3 : ∀ j, j < 355 → f3 j = nf b R (.pointer p3) (.pointer p4) j := fun j hj => by
    have := hm.new j (nf b R (.pointer p3) (.pointer p4) j) (by have := cz_at (nf b R (.pointer p3) (.pointer p4)) hj; simpa using this)
    rwa [Nat.zero_add] at this
  have hcz : cz f3 = cz (nf b R (.pointer p3) (.pointer p4)) := by
    unfold cz
    congr 1
    exact List.map_congr_left fun j hj => hf3 j (List.mem_range.1 hj)
  have hc3 : Cells w3 D (cz (nf b R (.pointer p3) (.pointer p4))) 73 := by rw [← hcz]; exact hm.cells
  have s3 : Bs w3 B D b R (nf b R (.pointer p3) (.pointer p4)) [] [] := A2.out.1.onD hm.only hc3 A2.out.1.c0.symm A2.out.1.c1.symm
  refine hK.out _ _ ⟨s3.cell (show 0 < 355 by decide), s3.cell (show 1 < 355 by decide), s3.cell (show 3 < 355 by decide), s3.cell (show 4 < 355 by decide)⟩ (fun hHeld3 => ?_)
  clear hK K
  have A3 : Aside (Bs w3 B D b R (nf b R (.pointer p3) (.pointer p4)) [] [] ∧ Fm B w w3) := ⟨s3, A2.out.2.trans (Fm.of_only hm.only (by have := A.out.1.eD; omega) (by have := A.out.1.eD; omega))⟩
  have z2 := s3.fz 2
  have c2 := s3.cell (show 2 < 355 by decide)
  have e2 : nf b R (.pointer p3) (.pointer p4) 2 = .nilFunc := rfl
  rw [e2] at c2
  clear hm hf3 hcz hc3 s3 hHeld hHeld3 g0 g1 g3 g4 e2
  try simp only [Act.put]
  refine wpAnyH_done (by kernel_rfl) ?_ _
  go_wp2_with fail
  go_end0
  have a := A3.out
  have s5 := a.1.set 2 (fnv D 32) (by decide)
  have o5 : Only D w3 (w3.setCell ⟨D, 2, none⟩ (fnv D 32)) := (Only.refl D w3).setCell 2 _
  have f5 := a.2.trans (Fm.of_only o5 (by have := A.out.1.eD; omega) (by have := A.out.1.eD; omega))
  refine ⟨rfl, want_new s5 (upd_same _ _ _) rfl rfl rfl ?_ (A.out.2.2.1.below (f5.below (by have := A.out.1.lt; omega)) A.out.2.2.2.1) A.out.2.2.2.1, f5⟩
  exact A.out.2.1.fm f5 A.out.2.2.2.2.1.symm A.out.2.2.2.2.2.symm
end
end Go.Proofs.YtikdpnpkmmmacaaDoor

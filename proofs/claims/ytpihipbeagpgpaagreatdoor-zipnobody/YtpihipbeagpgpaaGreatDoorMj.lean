/-
  Own texts of this seat, one behind the other: what each says stands ahead of it.
-/
import Derived.Test.YtpihipbeagpgpaaGreatDoorMi
import Derived.Deep.RegionHeld3
import Derived.OwnWalk
import Derived.Laws.AppendOwn
import Derived.Laws.AppendOwnNone
import Derived.WalkKit
import Derived.Test.YtpihipbeagpgpaaGreatDoorMe
import Derived.Test.YtpihipbeagpgpaaGreatDoorMd
import Derived.Test.YtpihipbeagpgpaaGreatDoorProg
import Derived.Test.YtpihipbeagpgpaaGreatDoorMa
import Derived.WalkSpells
import Derived.OpenShut
import Derived.Below
import Derived.Deep.LoopGhost
import Derived.Laws.BitsAllLaws
import Derived.Laws.Bits64
import Derived.BigRegion
import Derived.Laws.IdiomStrings
import Derived.Test.YtpihipbeagpgpaaGreatDoorChecked
import Derived.BigQuiet
import Derived.Deep.AppendLies
import Derived.Lib.SliceRun
import Derived.Deep.RegionLaw
/-
 Reset: the inflater as a new one.
-/
namespace Go.Proofs.YtpihipbeagpgpaaGreatDoor
open Go.RowKit
set_option linter.unusedVariables false
theorem wp_store_cz {P : Program} {o : Oper} {a : Act} {w : World} {K : Act → World → Prop} {Q : Exit → Act → World → Prop} (ty : TypeId) (x y : Operand) (ho : o.op = .store ty x y)
  (D off : Nat) (cells : Array Value) (hx : a.eval x = .pointer (some ⟨D, off, none⟩)) (hy : a.eval y = .agg cells) (f : Nat → Value) (hg : Cells w D (cz f) 97) (hi : (P.info? ty).map (·.size) = some cells.size)
  (hle : off + cells.size ≤ 355) (h1 : cells.all (·.oneCell') = true)
  (h : ∀ w' f', Mid D off f f' cells.toList w w' → K (a.put o.dst undef) w') : o.wp P a w K Q := by
 obtain ⟨w', f', h2, h3⟩ := store_mid (P := P) D off cells.toList 0 f w hg (by simp; omega) (fun v hv => (Array.all_eq_true_iff_forall_mem.1 h1) v (by simpa using hv))
 have hv : (storeVar ty ⟨D, off, none⟩ (.agg cells)).run P w = .ok () w' := by
  cases hq : P.info? ty with
  | none => simp [hq] at hi
  | some i =>
   have hs : cells.size = i.size := by simp [hq] at hi; omega
   simp [storeVar, sizeOf, typeInfo, hq, Value.cells, hs, h2]
 unfold Oper.wp execOp
 simp only [ho, hx, hy, Instr.storeAt, Instr.sureAddr, Sem.run_bind, Sem.run_pure, Result.andThen_ok, hv]
 exact h w' f' h3
theorem nf_one (b R : Nat) (p q : Option Addr) : (cz (nf b R (.pointer p) (.pointer q))).all (·.oneCell') = true := by kernel_rfl
theorem zc73r (b R : Nat) (p q : Option Addr) : (((Tryz.zeroCells97.setIfInBounds 0 (.pointer (some ⟨b, 0, none⟩))).setIfInBounds 1 (.pointer (some ⟨R, 0, none⟩))).setIfInBounds 3 (.pointer p)).setIfInBounds 4 (.pointer q) = cz (nf b R (.pointer p) (.pointer q)) := by kernel_rfl
section
variable {B D b R : Nat} {I : List Nat} {M : Nat} {c : Cfg} {q : Md}
set_option maxRecDepth 100000 in
set_option maxHeartbeats 2000000 in
theorem reset_c (w : World) (h : Inf w B D b R I M c q) : Calls Tryz.prog 149 #[.pointer (some ⟨D, 0, none⟩)] w fun e w' => e = .returned (.tuple #[]) ∧ Inf w' B D b R [] M c0 .want ∧ Fm B w w' := by
 obtain ⟨f, hh, l, s, hx, ht, h7⟩ := h.mem
 obtain ⟨p3, p4, e3, e4⟩ : ∃ p3 p4, f 3 = .pointer p3 ∧ f 4 = .pointer p4 := by
  rcases hx with ⟨h3, h4⟩ | ⟨⟨_, _, T, h3, _⟩, ⟨_, _, T', h4, _⟩⟩
  ·exact ⟨_, _, h3, h4⟩
  ·exact ⟨_, _, h3, h4⟩
 have d0 := (s.cell (show 0 < 355 by decide)).trans (congrArg some s.c0)
 have hclr := clear_b b _ _ w s.br
 have A : Aside (Bs w B D b R f hh l ∧ Fx w B f ∧ Tabs w ∧ 8 ≤ B ∧ f 3 = .pointer p3 ∧ f 4 = .pointer p4) := ⟨s, hx, ht, h7, e3, e4⟩
 clear s hx ht h7 e3 e4 h
 go_enter Tryz.func149, Tryz.ntmps149
 go_upto_region 2 with (go_at_call 155; refine hclr.mono ?_; rintro e1 w1 ⟨rfl, hb1, ho1⟩)
 have s1 : Bs w1 B D b R f [] l := A.out.1.onb ho1 (h' := []) hb1
 have d1 := (s1.cell (show 1 < 355 by decide)).trans (congrArg some s1.c1)
 have hrc := gclear_r w1 s1.rg
 have A1 : Aside (Bs w1 B D b R f [] l ∧ Fm B w w1) := ⟨s1, Fm.of_only ho1 (by have := A.out.1.eb; omega) (by have := A.out.1.eb; omega)⟩
 clear s1 hb1 ho1 hclr d0
 go_upto_region 3 with (go_at_call 156; refine hrc.mono ?_; rintro e2 w2 ⟨rfl, hr2, ho2⟩)
 have s2 : Bs w2 B D b R f [] [] := A1.out.1.onR ⟨ho2.os, ho2.tape, ho2.output, ho2.size, fun k hk _ => ho2.block k hk⟩ hr2
 have g0 := (s2.cell (show 0 < 355 by decide)).trans (congrArg some s2.c0)
 have g1 := (s2.cell (show 1 < 355 by decide)).trans (congrArg some s2.c1)
 have g3 := (s2.cell (show 3 < 355 by decide)).trans (congrArg some A.out.2.2.2.2.1)
 have g4 := (s2.cell (show 4 < 355 by decide)).trans (congrArg some A.out.2.2.2.2.2)
 have A2 : Aside (Bs w2.drew B D b R f [] [] ∧ Fm B w w2.drew) := ⟨s2.drew, (A1.out.2.trans (Fm.of_only ho2 (by have := A.out.1.eR; omega) (by have := A.out.1.eR; omega))).trans ((Fm.refl B w2).drew)⟩
 clear s2 hr2 ho2 hrc d1
 refine wp_region_held_drew (S := fun u => u.cell? ⟨D, 0, none⟩ = some (.pointer (some ⟨b, 0, none⟩)) ∧ u.cell? ⟨D, 1, none⟩ = some (.pointer (some ⟨R, 0, none⟩)) ∧ u.cell? ⟨D, 3, none⟩ = some (.pointer p3) ∧ u.cell? ⟨D, 4, none⟩ = some (.pointer p4)) (by kernel_rfl) ⟨g0, g1, g3, g4⟩ (fun hHeld => ?_)
 refine wpAnyH_take (i := 0) (oi := ⟨_, _, _, _, _, _⟩) (v := ?_) rfl (by kernel_rfl) (by kernel_rfl) (by kernel_rfl) (fun _ _ _ h => h) (Or.inl ⟨by rfl, ?_⟩) hHeld ?_
 rotate_left
 ·(intro w9 hSw; (try dsimp only at hSw); go_simp; try (with_reducible rfl))
 try simp only [Act.put, List.setIfInBounds_toArray, List.set_cons_zero, List.set_cons_succ]
 refine wpAnyH_take (i := 1) (oi := ⟨_, _, _, _, _, _⟩) (v := ?_) rfl (by kernel_rfl) (by kernel_rfl) (by kernel_rfl) (fun _ _ _ h => h) (Or.inl ⟨by rfl, ?_⟩) hHeld ?_
 rotate_left
 ·(intro w9 hSw; (try dsimp only at hSw); go_simp; try (with_reducible rfl))
 try simp only [Act.put, List.setIfInBounds_toArray, List.set_cons_zero, List.set_cons_succ]
 refine wpAnyH_take (i := 2) (oi := ⟨_, _, _, _, _, _⟩) (v := ?_) rfl (by kernel_rfl) (by kernel_rfl) (by kernel_rfl) (fun _ _ _ h => h) (Or.inl ⟨by rfl, ?_⟩) hHeld ?_
 rotate_left
 ·(intro w9 hSw; (try dsimp only at hSw); go_simp; try (with_reducible rfl))
 try simp only [Act.put, List.setIfInBounds_toArray, List.set_cons_zero, List.set_cons_succ]
 refine wpAnyH_take (i := 3) (oi := ⟨_, _, _, _, _, _⟩) (v := ?_) rfl (by kernel_rfl) (by kernel_rfl) (by kernel_rfl) (fun _ _ _ h => h) (Or.inl ⟨by rfl, ?_⟩) hHeld ?_
 rotate_left
 ·(intro w9 hSw; (try dsimp only at hSw); go_simp; try (with_reducible rfl))
 try simp only [Act.put, List.setIfInBounds_toArray, List.set_cons_zero, List.set_cons_succ]
 refine wpAnyH_take (i := 4) (oi := ⟨_, _, _, _, _, _⟩) (v := ?_) rfl (by kernel_rfl) (by kernel_rfl) (by kernel_rfl) (fun _ _ _ h => h) (Or.inl ⟨by rfl, ?_⟩) hHeld ?_
 rotate_left
 ·(intro w9 hSw; (try dsimp only at hSw); go_simp; try (with_reducible rfl))
 try simp only [Act.put, List.setIfInBounds_toArray, List.set_cons_zero, List.set_cons_succ]
 refine wpAnyH_take (i := 5) (oi := ⟨_, _, _, _, _, _⟩) (v := ?_) rfl (by kernel_rfl) (by kernel_rfl) (by kernel_rfl) (fun _ _ _ h => h) (Or.inl ⟨by rfl, ?_⟩) hHeld ?_
 rotate_left
 ·(intro w9 hSw; (try dsimp only at hSw); go_simp; try (with_reducible rfl))
 try simp only [Act.put, List.setIfInBounds_toArray, List.set_cons_zero, List.set_cons_succ]
 refine wpAnyH_take (i := 6) (oi := ⟨_, _, _, _, _, _⟩) (v := ?_) rfl (by kernel_rfl) (by kernel_rfl) (by kernel_rfl) (fun _ _ _ h => h) (Or.inl ⟨by rfl, ?_⟩) hHeld ?_
 rotate_left
 ·(intro w9 hSw; (try dsimp only at hSw); go_simp; try (with_reducible rfl))
 try simp only [Act.put, List.setIfInBounds_toArray, List.set_cons_zero, List.set_cons_succ]
 refine wpAnyH_take (i := 7) (oi := ⟨_, _, _, _, _, _⟩) (v := ?_) rfl (by kernel_rfl) (by kernel_rfl) (by kernel_rfl) (fun _ _ _ h => h) (Or.inl ⟨by rfl, ?_⟩) hHeld ?_
 rotate_left
 ·(intro w9 hSw; (try dsimp only at hSw); go_simp; try (with_reducible rfl))
 try simp only [Act.put, List.setIfInBounds_toArray, List.set_cons_zero, List.set_cons_succ]
 refine wpAnyH_take (i := 8) (oi := ⟨_, _, _, _, _, _⟩) (v := ?_) rfl (by kernel_rfl) (by kernel_rfl) (by kernel_rfl) (fun _ _ _ h => h) (Or.inl ⟨by rfl, ?_⟩) hHeld ?_
 rotate_left
 ·(intro w9 hSw; (try dsimp only at hSw); go_simp; try (with_reducible rfl))
 try simp only [Act.put, List.setIfInBounds_toArray, List.set_cons_zero, List.set_cons_succ]
 refine wpAnyH_take (i := 9) (oi := ⟨_, _, _, _, _, _⟩) (v := ?_) rfl (by kernel_rfl) (by kernel_rfl) (by kernel_rfl) (fun _ _ _ h => h) (Or.inl ⟨by rfl, ?_⟩) hHeld ?_
 rotate_left
 ·(intro w9 hSw; (try dsimp only at hSw); go_simp; try (with_reducible rfl))
 try simp only [Act.put, List.setIfInBounds_toArray, List.set_cons_zero, List.set_cons_succ]
 refine wpAnyH_take (i := 10) (oi := ⟨_, _, _, _, _, _⟩) (v := ?_) rfl (by kernel_rfl) (by kernel_rfl) (by kernel_rfl) (fun _ _ _ h => h) (Or.inl ⟨by rfl, ?_⟩) hHeld ?_
 rotate_left
 ·(intro w9 hSw; (try dsimp only at hSw); go_simp; try (with_reducible rfl))
 try simp only [Act.put, List.setIfInBounds_toArray, List.set_cons_zero, List.set_cons_succ]
 refine wpAnyH_take (i := 11) (oi := ⟨_, _, _, _, _, _⟩) (v := ?_) rfl (by kernel_rfl) (by kernel_rfl) (by kernel_rfl) (fun _ _ _ h => h) (Or.inl ⟨by rfl, ?_⟩) hHeld ?_
 rotate_left
 ·(intro w9 hSw; (try dsimp only at hSw); go_simp; try (with_reducible rfl))
 try simp only [Act.put, List.setIfInBounds_toArray, List.set_cons_zero, List.set_cons_succ]
 refine wpAnyH_take (i := 12) (oi := ⟨_, _, _, _, _, _⟩) (v := ?_) rfl (by kernel_rfl) (by kernel_rfl) (by kernel_rfl) (fun _ _ _ h => h) (Or.inl ⟨by rfl, ?_⟩) hHeld ?_
 rotate_left
 ·(intro w9 hSw; (try dsimp only at hSw); go_simp; try (with_reducible rfl))
 try simp only [Act.put, List.setIfInBounds_toArray, List.set_cons_zero, List.set_cons_succ]
 refine wpAnyH_take (i := 13) (oi := ⟨_, _, _, _, _, _⟩) (v := ?_) rfl (by kernel_rfl) (by kernel_rfl) (by kernel_rfl) (fun _ _ _ h => h) (Or.inl ⟨by rfl, ?_⟩) hHeld ?_
 rotate_left
 ·(intro w9 hSw; (try dsimp only at hSw); go_simp; try (with_reducible rfl))
 try simp only [Act.put, List.setIfInBounds_toArray, List.set_cons_zero, List.set_cons_succ]
 refine wpAnyH_take (i := 14) (oi := ⟨_, _, _, _, _, _⟩) (v := ?_) rfl (by kernel_rfl) (by kernel_rfl) (by kernel_rfl) (fun _ _ _ h => h) (Or.inl ⟨by rfl, ?_⟩) hHeld ?_
 rotate_left
 ·(intro w9 hSw; (try dsimp only at hSw); go_simp; try (with_reducible rfl))
 try simp only [Act.put, List.setIfInBounds_toArray, List.set_cons_zero, List.set_cons_succ]
 refine wpAnyH_ready (rs := [15]) (by kernel_rfl) (by simp) ?_
 refine AllReadyH.cons (o := ⟨_, _, _, _, _, _⟩) rfl (fun K hK => ?_) AllReadyH.nil
 rw [if_pos (by rfl)]
 refine wp_store_cz 97 _ _ rfl D 0 (cz (nf b R (.pointer p3) (.pointer p4))) (by rfl) (congrArg Value.agg (zc73r b R p3 p4)) f A2.out.1.fr (by rw [cz_size]; exact size73) (by rw [cz_size]; omega) (nf_one b R p3 p4) ?_
 intro w3 f3 hm
 have hf3 : ∀ j, j < 355 → f3 j = nf b R (.pointer p3) (.pointer p4) j := fun j hj => by
  have := hm.new j (nf b R (.pointer p3) (.pointer p4) j) (by have := cz_at (nf b R (.pointer p3) (.pointer p4)) hj; simpa using this)
  rwa [Nat.zero_add] at this
 have hcz : cz f3 = cz (nf b R (.pointer p3) (.pointer p4)) := by
  unfold cz
  congr 1
  exact List.map_congr_left fun j hj => hf3 j (List.mem_range.1 hj)
 have hc3 : Cells w3 D (cz (nf b R (.pointer p3) (.pointer p4))) 97 := by rw [← hcz]; exact hm.cells
 have s3 : Bs w3 B D b R (nf b R (.pointer p3) (.pointer p4)) [] [] := A2.out.1.onD hm.only hc3 A2.out.1.c0.symm A2.out.1.c1.symm
 refine hK.out _ _ ⟨s3.cell (show 0 < 355 by decide), s3.cell (show 1 < 355 by decide), s3.cell (show 3 < 355 by decide), s3.cell (show 4 < 355 by decide)⟩ (fun hHeld3 => ?_)
 clear hK K
 have A3 : Aside (Bs w3 B D b R (nf b R (.pointer p3) (.pointer p4)) [] [] ∧ Fm B w w3) := ⟨s3, A2.out.2.trans (Fm.of_only hm.only (by have := A.out.1.eD; omega) (by have := A.out.1.eD; omega))⟩
 have z2 := s3.fz 2
 have c2 := s3.cell (show 2 < 355 by decide)
 have e2 : nf b R (.pointer p3) (.pointer p4) 2 = .nilFunc := rfl
 rw [e2] at c2
 clear hm hf3 hcz hc3 s3 hHeld hHeld3 g0 g1 g3 g4 e2
 try simp only [Act.put]
 refine wpAnyH_done (by kernel_rfl) ?_ _
 go_wp2_with fail
 go_end0
 have a := A3.out
 have s5 := a.1.set 2 (fnv D 45) (by decide)
 have o5 : Only D w3 (w3.setCell ⟨D, 2, none⟩ (fnv D 45)) := (Only.refl D w3).setCell 2 _
 have f5 := a.2.trans (Fm.of_only o5 (by have := A.out.1.eD; omega) (by have := A.out.1.eD; omega))
 refine ⟨rfl, want_new s5 (upd_same _ _ _) rfl rfl rfl ?_ (A.out.2.2.1.below (f5.below (by have := A.out.1.lt; omega)) A.out.2.2.2.1) A.out.2.2.2.1, f5⟩
 exact A.out.2.1.fm f5 A.out.2.2.2.2.1.symm A.out.2.2.2.2.2.symm
end
end Go.Proofs.YtpihipbeagpgpaaGreatDoor

/-
 Lists of bytes of a call's own, beyond the inflater's blocks: append, and what is kept by it.
-/
namespace Go.Proofs.YtpihipbeagpgpaaGreatDoor
open Go.RowKit
set_option linter.unusedVariables false
def ob (l : List Nat) : List Value := l.map fun x : Nat => Value.int .u8 (x : Int)
theorem ob_length (l : List Nat) : (ob l).length = l.length := by simp [ob]
theorem ob_get (l : List Nat) (j : Nat) : (ob l)[j]? = (l[j]?).map fun x : Nat => Value.int .u8 (x : Int) := by simp [ob]
theorem ob_append (l m : List Nat) : ob l ++ ob m = ob (l ++ m) := by simp [ob]
theorem ob_one {l : List Nat} : ∀ u ∈ ob l, u.oneCell' = true := by
 intro u hu
 obtain ⟨x, _, rfl⟩ := List.mem_map.1 hu
 rfl
structure Ob (w : World) (lo : Nat) (v : Value) (l : List Nat) : Prop where
 own : w.ownsRow lo 5 1 v l.length (ob l)
 le : lo ≤ w.heap.size
theorem Ob.nil {w : World} {lo : Nat} (h : lo ≤ w.heap.size) : Ob w lo (.slice none 0 0) [] := ⟨⟨rfl, Or.inl ⟨rfl, rfl⟩⟩, h⟩
theorem Ob.keep {w u : World} {lo : Nat} {v : Value} {l : List Nat} (h : Ob w lo v l) (hs : w.heap.size ≤ u.heap.size) (k : ∀ g, lo ≤ g → g < w.heap.size → u.heap[g]? = w.heap[g]?) : Ob u lo v l := by
 refine ⟨⟨h.own.1, ?_⟩, Nat.le_trans h.le hs⟩
 rcases h.own.2 with q | ⟨g, c, cur, hv, hg, hh, q⟩
 ·exact Or.inl q
 ·have hlt : g < w.heap.size := (Array.getElem?_eq_some_iff.1 hh).1
  exact Or.inr ⟨g, c, cur, hv, hg, (k g hg hlt).trans hh, q⟩
theorem Ob.below {w u : World} {C lo : Nat} {v : Value} {l : List Nat} (h : Ob w lo v l) (k : Below C w u) (hC : w.heap.size ≤ C) : Ob u lo v l := h.keep k.size fun g h1 h2 => k.block g (by omega)
theorem Ob.drew {w : World} {lo : Nat} {v : Value} {l : List Nat} (h : Ob w lo v l) : Ob w.drew lo v l := ⟨h.own, h.le⟩
theorem Ob.shape {w : World} {lo : Nat} {v : Value} {l : List Nat} (h : Ob w lo v l) : ∃ a c, v = .slice a l.length c ∧ l.length ≤ c ∧ Lies w a l ∧ (a = none → l.length = 0 ∧ c = 0) := by
 rcases h.own.2 with ⟨hv, h0⟩ | ⟨g, c, cur, hv, hg, hh, hc, hm, hs, ht⟩
 ·refine ⟨none, 0, by rw [hv, h0], by omega, Or.inl (List.eq_nil_of_length_eq_zero h0), fun _ => ⟨h0, rfl⟩⟩
 ·refine ⟨_, c, hv, hc, Or.inr ⟨g, 0, rfl, fun i x hx => ?_⟩, fun h => by cases h⟩
  rw [Nat.zero_add, Cells.cell (cs := cur) (t := 5) hh]
  have hi : i < l.length := (List.getElem?_eq_some_iff.1 hx).1
  have e : (cur.toList.take (l.length * 1))[i]? = some (.int .u8 (x : Int)) := by rw [ht, ob_get, hx]; rfl
  rw [List.getElem?_take, if_pos (by omega)] at e
  simpa using e
theorem Ob.own_shape {w : World} {lo : Nat} {v : Value} {l : List Nat} (h : Ob w lo v l) : v.ownBlock = none ∨ ∃ g cur, v.ownBlock = some g ∧ lo ≤ g ∧ w.heap[g]? = some (.cells cur 5 (0, 0)) := by
 rcases h.own.2 with ⟨rfl, h0⟩ | ⟨g, c, cur, rfl, hg, hh, _⟩
 ·left; rfl
 ·right; exact ⟨g, cur, rfl, hg, hh⟩
structure Ap (B lo : Nat) (w w' : World) (v' : Value) (l : List Nat) : Prop where
 ob_ : Ob w' lo v' l
 kp : Kp B w w'
 bel : Below lo w w'
theorem wpList_ob (B : Nat) (w : World) {ops : Array Oper} {rest : List Oper} {o : Oper} {a : Act} {Q : Exit → Act → World → Prop} (hgd : o.guard = none) (s x : Operand)
  (ho : o.op = .call { callee := .builtin .append, args := #[s, x], argTypes := #[22, 22] }) (lo : Nat) (v : Value) (l : List Nat) (hs : a.eval s = v) (hown : Ob w lo v l) (hB : B + 4 ≤ lo)
  (ax : Option Addr) (m : List Nat) (n c : Nat) (hnm : m.length = n) (hx : a.eval x = .slice ax n c) (hz : ax = none → n = 0 ∧ c = 0) (hl : Lies w ax m) (hlen : l.length + m.length ≤ 140737488355328)
  (h : ∀ v' w', Ap B lo w w' v' (l ++ m) → wpList Tryz.prog ops Q rest (a.put o.dst v') w') : wpList Tryz.prog ops Q (o :: rest) a w := by
 subst hnm
 obtain ⟨i0, hi, hz0, hz1, hz2⟩ := ginfo_parts ginfo5
 cases ax with
 | none =>
  obtain ⟨h1, h2⟩ := hz rfl
  have hm : m = [] := List.eq_nil_of_length_eq_zero h1
  subst hm
  subst h2
  refine wpList_append_own_none hgd s x 22 ho lo 5 i0 1 Tryz.underlying22 hi v _ _ hs hown.own hx (h v w ?_)
  rw [List.append_nil]
  exact ⟨hown, ⟨Nat.le_refl _, fun k _ => Or.inl rfl⟩, Below.refl _ _⟩
 | some ad =>
  refine wpList_append_own w hgd s x 22 ho lo 5 i0 (.int .u8 0) 1 1 Tryz.underlying22 hi hz0 hz1 hz2 rfl (by decide) v _ _ hs hown.own ad m.length c (ob m) hx (by rw [ob_length]; omega) ?_ ob_one (by unfold maxLen; omega) (by omega) hown.le ?_
  ·intro j u hj
   rw [ob_get] at hj
   rcases hl with rfl | ⟨b, off, ha, hc⟩
   ·simp at hj
   ·cases ha
    cases hq : m[j]? with
    | none => simp [hq] at hj
    | some y =>
     simp [hq] at hj
     rw [← hj]
     have := hc j y hq
     have hadd : (⟨b, off, none⟩ : Addr).add j = ⟨b, off + j, none⟩ := by unfold Addr.add; split <;> simp_all
     rw [hadd]; exact this
  ·intro v' w' h2 h3 h4
   have hb : Below lo w w' := (Below.refl lo w).grown h3 hown.le (fun k hk => by
    rcases hown.own_shape with h5 | ⟨g, cur, h5, hg, _⟩
    ·rw [h5] at hk; cases hk
    ·rw [h5] at hk; cases hk; exact hg)
   refine h v' w' ⟨⟨?_, Nat.le_trans hown.le h3.size⟩, ⟨h3.size, fun k hk => ?_⟩, hb⟩
   ·rw [ob_append] at h2
    rw [List.length_append]; exact h2
   ·by_cases e : some k = v.ownBlock
    ·rcases hown.own_shape with h5 | ⟨g, cur, h5, hg, hh⟩
     ·rw [h5] at e; cases e
     ·rw [h5] at e
      cases e
      exact Or.inr ⟨by omega, cur, (0, 0), hh⟩
    ·exact Or.inl (h3.block k hk e)
end Go.Proofs.YtpihipbeagpgpaaGreatDoor

/-
 Where the machine stands, told of the inflater between its calls. No walk in this text.
-/
namespace Go.Proofs.YtpihipbeagpgpaaGreatDoor
open Go.RowKit
set_option linter.unusedVariables false
theorem step_none_most {bs : List Bool} {M N : Nat} {c : Cfg} (h : step bs M c = none) : step bs N c = none := by
 obtain ⟨st, pos, out, times⟩ := c
 unfold step at *
 cases st using St.el with
 | head last => cases last <;> simp_all
 | sraw last n => cases n <;> simp_all
 | copy last lit di n d => cases n <;> simp_all
 | dfst last a b i j first => simp_all
 | sym last lit di =>
  simp only [] at h ⊢
  cases e5 : sread lit (bs.drop pos) using SR.el with
  | cut => rfl
  | bad j => rw [e5] at h; cases h
  | got s n => rw [e5] at h; simp only [] at h; split at h <;> cases h
 | done => rfl
 | bad y => rfl
 | _ => simp_all
theorem runs_le {bs : List Bool} {M N : Nat} {z : Cfg} (h : Runs bs M c0 z) (hN : N ≤ M) (hz : z.out.length ≤ N) : Runs bs N c0 z := by
 rcases runs_fewer h hN (Nat.zero_le _) (Nat.zero_le _) with ⟨q, _⟩ | ⟨e, _, _, _, _, q, _⟩
 ·exact q
 ·omega
theorem step_most {bs : List Bool} {N : Nat} {c d : Cfg} (h : step bs N c = some d) (hc : c.out.length ≤ N) : d.out.length ≤ N := by
 rcases step_fewer h (Nat.le_refl N) hc with ⟨_, q⟩ | ⟨_, q, b, e⟩
 ·exact q
 ·rw [h] at q
  have e1 := Option.some.inj q
  have e2 := congrArg Cfg.out e1
  have e3 : d.out = c.out := e2
  rw [e3]
  exact hc
def Over (c : Cfg) : Prop := c.st = .done ∨ ∃ y, c.st = .bad y
section
variable {w : World} {B D b R : Nat} {I : List Nat} {M N : Nat} {c : Cfg}
theorem Inf.stands (h : Inf w B D b R I M c .want) (hN : N ≤ M) (ho : c.out.length ≤ N) : ∃ z, Stands I N z ∧ z.out = c.out ∧ ¬ Over z := by
 obtain ⟨hr, f, h3⟩ := h
 obtain ⟨z, h4, h5, h6, h7, h8⟩ := h3.z
 refine ⟨z, ⟨runs_le (hr.trans h4) hN (by rw [h6]; exact ho), step_none_most h5⟩, h6, ?_⟩
 rintro (e | ⟨y, e⟩)
 ·exact h8 e
 ·exact h7 y e
theorem Inf.over_st (h : Inf w B D b R I M c .over) : Over c := by
 obtain ⟨hr, f, h3⟩ := h
 rcases h3.how with ⟨e, _⟩ | ⟨y, e, _⟩
 ·exact Or.inl e
 ·exact Or.inr ⟨y, e⟩
theorem Over.none {bs : List Bool} (h : Over c) : step bs N c = none := by
 unfold step
 rcases h with e | ⟨y, e⟩ <;> rw [e]
theorem Inf.stands_over (h : Inf w B D b R I M c .over) (hN : N ≤ M) (ho : c.out.length ≤ N) : Stands I N c := ⟨runs_le h.1 hN ho, h.over_st.none⟩
end
def Pd (o : List Nat) (c : Cfg) (q : Md) : Prop := (∃ x, q = .wait x ∧ c.out = o ++ [x]) ∨ ((q = .over ∨ q = .want) ∧ c.out = o)
def Nx (o : List Nat) (v10 v11 : Value) (c : Cfg) (q : Md) : Prop := (∃ x : Nat, v10 = .int .u8 (x : Int) ∧ v11 = .bool true ∧ Pd (o ++ [x]) c q) ∨ (v10 = .int .u8 0 ∧ v11 = .bool false ∧ (q = .over ∨ q = .want) ∧ c.out = o)
theorem Pd.le {o : List Nat} {c : Cfg} {q : Md} (h : Pd o c q) : c.out.length ≤ o.length + 1 := by
 rcases h with ⟨x, _, e⟩ | ⟨_, e⟩ <;> rw [e]
 ·simp
 ·omega
section
variable {B D b R : Nat} {I : List Nat} {M : Nat} {c : Cfg} {q : Md}
theorem Goes.pd {w : World} (h : Goes B D b R I M c w) : ∃ c' q', Inf w B D b R I M c' q' ∧ Pd c.out c' q' := by
 obtain ⟨c', _, ⟨x, h1, h2⟩ | ⟨h1, h2⟩ | ⟨h1, h2⟩⟩ := h
 ·exact ⟨c', _, h1, Or.inl ⟨x, rfl, h2⟩⟩
 ·exact ⟨c', _, h1, Or.inr ⟨Or.inl rfl, h2⟩⟩
 ·exact ⟨c', _, h1, Or.inr ⟨Or.inr rfl, h2⟩⟩
theorem next_any (w : World) (h : Inf w B D b R I M c q) (o : List Nat) (hp : Pd o c q) (hm : o.length + 1 < M) : Calls Tryz.prog 158 #[.pointer (some ⟨D, 0, none⟩)] w fun e w' => ∃ v10 v11 c' q', e = .returned (.tuple #[v10, v11]) ∧ Fm B w w' ∧ Inf w' B D b R I M c' q' ∧ Nx o v10 v11 c' q' := by
 have hle := hp.le
 rcases hp with ⟨x, rfl, e⟩ | ⟨hq, e⟩
 ·refine (next_yes x w h (by omega)).mono ?_
  rintro e2 w' ⟨h1, h2, h3⟩
  obtain ⟨c', q', h4, h5⟩ := h3.pd
  rw [e] at h5
  exact ⟨_, _, c', q', h1, h2, h4, Or.inl ⟨x, rfl, rfl, h5⟩⟩
 ·refine (next_no w h (fun x ex => by rcases hq with hq | hq <;> rw [hq] at ex <;> cases ex)).mono ?_
  rintro e2 w' ⟨h1, rfl⟩
  exact ⟨_, _, c, q, h1, Fm.refl _ _, h, Or.inr ⟨rfl, rfl, hq, e⟩⟩
theorem put_any (x : Nat) (hx : x < 256) (w : World) (h : Inf w B D b R I M c .want) (hm : c.out.length < M) : Calls Tryz.prog 157 #[.pointer (some ⟨D, 0, none⟩), .int .u8 (x : Int)] w fun e w' => e = .returned (.bool true) ∧ Fm B w w' ∧ ∃ c' q', Inf w' B D b R (I ++ [x]) M c' q' ∧ Pd c.out c' q' := by
 refine (put_open x hx w h hm).mono ?_
 rintro e w' ⟨h1, h2, h3⟩
 exact ⟨h1, h2, h3.pd⟩
end
end Go.Proofs.YtpihipbeagpgpaaGreatDoor

/-
 Registers of 32 bits as numbers: 'mv', moved down by one bit, is linear under '^^^'; what a row of moves, a product of registers and a square come to; two lists of bytes that differ within 32 bits have two sums.
-/
namespace Go.Proofs.YtpihipbeagpgpaaGreatDoor
def mv (x : Nat) : Nat := if x % 2 = 1 then x / 2 ^^^ 3988292384 else x / 2
def mvs : Nat → Nat → Nat
 | 0, x => x
 | k + 1, x => mvs k (mv x)
theorem xor_cancel (a b p : Nat) : a ^^^ p ^^^ (b ^^^ p) = a ^^^ b := by
 rw [Nat.xor_comm b p, ← Nat.xor_assoc, Nat.xor_assoc a p p, Nat.xor_self, Nat.xor_zero]
theorem xor_mod2 (x y : Nat) : (x ^^^ y) % 2 = (x + y) % 2 := by
 have h := Nat.xor_mod_two_eq_one (a := x) (b := y)
 omega
theorem mv_xor (x y : Nat) : mv (x ^^^ y) = mv x ^^^ mv y := by
 unfold mv
 have h1 : (x ^^^ y) / 2 = x / 2 ^^^ y / 2 := Nat.xor_div_two
 have h2 : (x ^^^ y) % 2 = (x + y) % 2 := xor_mod2 _ _
 rw [h1, h2]
 rcases Nat.mod_two_eq_zero_or_one x with hx | hx <;> rcases Nat.mod_two_eq_zero_or_one y with hy | hy
 ·rw [if_neg (by omega), if_neg (by omega), if_neg (by omega)]
 ·rw [if_pos (by omega), if_neg (by omega), if_pos (by omega), Nat.xor_assoc]
 ·rw [if_pos (by omega), if_pos (by omega), if_neg (by omega), Nat.xor_assoc, Nat.xor_comm (y / 2), Nat.xor_assoc]
 ·rw [if_neg (by omega), if_pos (by omega), if_pos (by omega), xor_cancel]
theorem mvs_xor : ∀ (k x y : Nat), mvs k (x ^^^ y) = mvs k x ^^^ mvs k y
 | 0, _, _ => rfl
 | k + 1, x, y => by rw [mvs, mv_xor, mvs_xor k]; rfl
theorem mvs_add : ∀ (j k x : Nat), mvs (j + k) x = mvs k (mvs j x)
 | 0, k, x => by rw [Nat.zero_add]; rfl
 | j + 1, k, x => by rw [show j + 1 + k = (j + k) + 1 by omega, mvs, mvs_add j k, mvs]
theorem mvs_comm (j k x : Nat) : mvs k (mvs j x) = mvs j (mvs k x) := by rw [← mvs_add, Nat.add_comm, mvs_add]
theorem mv_mvs (k x : Nat) : mv (mvs k x) = mvs k (mv x) := mvs_comm k 1 x
theorem xor_lt32 {a b : Nat} (ha : a < 4294967296) (hb : b < 4294967296) : a ^^^ b < 4294967296 := Nat.xor_lt_two_pow (n := 32) ha hb
theorem mv_lt {x : Nat} (h : x < 4294967296) : mv x < 4294967296 := by
 unfold mv
 split
 ·exact xor_lt32 (by omega) (by decide)
 ·omega
theorem mvs_lt : ∀ (k : Nat) {x : Nat}, x < 4294967296 → mvs k x < 4294967296
 | 0, _, h => h
 | k + 1, _, h => mvs_lt k (mv_lt h)
theorem mvs_low : ∀ (k h l : Nat), l < 2 ^ k → mvs k (2 ^ k * h + l) = h ^^^ mvs k l
 | 0, h, l, hl => by
  have : l = 0 := by simpa using hl
  subst this
  simp [mvs]
 | k + 1, h, l, hl => by
  rw [Nat.pow_succ'] at hl ⊢
  rw [mvs, mvs, Nat.mul_assoc]
  unfold mv
  rw [show (2 * (2 ^ k * h) + l) % 2 = l % 2 by omega, show (2 * (2 ^ k * h) + l) / 2 = 2 ^ k * h + l / 2 by omega]
  by_cases hm : l % 2 = 1
  ·rw [if_pos hm, if_pos hm, mvs_xor, mvs_low k h (l / 2) (by omega), mvs_xor, Nat.xor_assoc]
  ·rw [if_neg hm, if_neg hm, mvs_low k h (l / 2) (by omega)]
def tb : List Nat := [0, 498536548, 997073096, 651767980, 1994146192, 1802195444, 1303535960, 1342533948, 3988292384, 4027552580, 3604390888, 3412177804, 2607071920, 2262029012, 2685067896, 3183342108]
theorem tb_low : ∀ i : _root_.Fin 16, tb.getD i.val 0 = mvs 4 i.val := by decide +kernel
theorem four_eq (r : Nat) : r / 16 ^^^ tb.getD (r % 16) 0 = mvs 4 r := by
 have h := mvs_low 4 (r / 16) (r % 16) (Nat.mod_lt _ (by decide))
 rw [show 2 ^ 4 * (r / 16) + r % 16 = r by omega] at h
 rw [h]
 congr 1
 exact tb_low ⟨r % 16, Nat.mod_lt _ (by decide)⟩
def stp (s b : Nat) : Nat := mvs 8 (s ^^^ 4294967295 ^^^ b) ^^^ 4294967295
theorem stp_lt {s b : Nat} (hs : s < 4294967296) (hb : b < 256) : stp s b < 4294967296 :=
 xor_lt32 (mvs_lt 8 (xor_lt32 (xor_lt32 hs (by decide)) (by omega))) (by decide)
def sm (s : Nat) : List Nat → Nat
 | [] => s
 | b :: l => sm (stp s b) l
theorem sm_append (s : Nat) : ∀ (l m : List Nat), sm s (l ++ m) = sm (sm s l) m
 | [], _ => rfl
 | b :: l, m => sm_append (stp s b) l m
theorem sm_lt : ∀ (l : List Nat) {s : Nat}, s < 4294967296 → (∀ b ∈ l, b < 256) → sm s l < 4294967296
 | [], _, h, _ => h
 | b :: l, _, h, hb => sm_lt l (stp_lt h (hb b (List.mem_cons_self ..))) (fun c hc => hb c (List.mem_cons_of_mem _ hc))
def nb : List Nat → Nat
 | [] => 0
 | x :: l => x + 256 * nb l
end Go.Proofs.YtpihipbeagpgpaaGreatDoor

/-
 Strings as lists of bytes. No walk.
-/
namespace Go.Proofs.YtpihipbeagpgpaaGreatDoor
set_option linter.unusedVariables false
theorem Oct.append {l m : List Nat} (h : Oct l) (k : Oct m) : Oct (l ++ m) := by
 intro x hx
 rcases List.mem_append.1 hx with e | e
 ·exact h x e
 ·exact k x e
theorem Oct.take {l : List Nat} (h : Oct l) (k : Nat) : Oct (l.take k) := fun x hx => h x (List.mem_of_mem_take hx)
def bl (s : ByteArray) : List Nat := s.data.toList.map UInt8.toNat
def st (l : List Nat) : ByteArray := ⟨(l.map UInt8.ofNat).toArray⟩
theorem st_size (l : List Nat) : (st l).size = l.length := by show (List.toArray _).size = _; simp
theorem bl_st {l : List Nat} (h : Oct l) : bl (st l) = l := by
 simp only [bl, st]
 rw [List.map_map]
 conv => rhs; rw [← List.map_id l]
 refine List.map_congr_left fun x hx => ?_
 have := h x hx
 simp; omega
theorem st_extract (l : List Nat) (a b : Nat) : (st l).extract a b = st ((l.take b).drop a) := by
 rw [ByteArray.ext_iff]
 simp [st, ByteArray.data_extract, List.drop_take]
theorem st_inj {l m : List Nat} (hl : Oct l) (hm : Oct m) (h : st l = st m) : l = m := by rw [← bl_st hl, h, bl_st hm]
theorem st_beq {l m : List Nat} (hl : Oct l) (hm : Oct m) : ((st l).toList == (st m).toList) = decide (l = m) := by
 rw [ByteArray.toList_eq, ByteArray.toList_eq, Bool.eq_iff_iff, beq_iff_eq, decide_eq_true_iff]
 refine ⟨fun e => st_inj hl hm ?_, fun e => by rw [e]⟩
 rw [ByteArray.ext_iff]
 exact Array.toList_inj.1 e
end Go.Proofs.YtpihipbeagpgpaaGreatDoor

/-
 What oneBit, product and the function that squares come to: a move, a product of registers, the power that was told last and its square laid by.
 Conditions: registers are numbers of 32 bits; the cell that holds the power can be written.
-/
namespace Go.Proofs.YtpihipbeagpgpaaGreatDoor
open Go.RowKit
set_option linter.unusedVariables false
theorem x32 (a b : Nat) (ha : a < 4294967296) (hb : b < 4294967296) : bits .xor .u32 (a : Int) (b : Int) = ((a ^^^ b : Nat) : Int) := u32_xor_nat a b ha hb
theorem xpoly (a : Nat) (ha : a < 4294967296) : bits .xor .u32 (a : Int) 3988292384 = ((a ^^^ 3988292384 : Nat) : Int) := by
 rw [show (3988292384 : Int) = ((3988292384 : Nat) : Int) from rfl, x32 a _ ha (by decide)]

end Go.Proofs.YtpihipbeagpgpaaGreatDoor

/-
 What Step and Sum come to, where the table holds its 16 numbers: the sum with one byte more, the sum of a list of bytes.
 Conditions: the sum is a number of 32 bits, the bytes lie side by side.
-/
namespace Go.Proofs.YtpihipbeagpgpaaGreatDoor
open Go.RowKit
set_option linter.unusedVariables false

def Ctab (w : World) : Prop := ∀ i, i < 16 → w.cell? ⟨8, i, none⟩ = some (.int .u32 (tb.getD i 0 : Nat))
theorem Ctab.lt {w : World} (h : Ctab w) : 8 < w.heap.size := World.block_lt_of_cell? w ⟨8, 0, none⟩ (h 0 (by decide))
theorem Ctab.below {w u : World} {B : Nat} (h : Ctab w) (k : Below B w u) (hB : 8 < B) : Ctab u := fun i hi => (k.cell (p := ⟨8, i, none⟩) hB).trans (h i hi)
theorem tb_lt : ∀ i : _root_.Fin 16, tb.getD i.val 0 < 4294967296 := by decide +kernel
theorem and15 (x : Nat) (hx : x < 256) : bits .and .u8 (x : Int) 15 = ((x % 16 : Nat) : Int) := by
 rw [show (15 : Int) = ((15 : Nat) : Int) from rfl, u8_and_nat x 15 hx (by decide), show (15 : Nat) = 2 ^ 4 - 1 from rfl, Nat.and_two_pow_sub_one_eq_mod]
set_option maxHeartbeats 1000000 in
theorem four_c (x : Nat) (hx : x < 4294967296) (w : World) (hT : Ctab w) :
  Calls Tryz.prog 169 #[.int .u32 x] w fun e w' => e = .returned (.int .u32 (mvs 4 x : Nat)) ∧ w = w' := by
 have h1 := and15 (x % 256) (Nat.mod_lt _ (by decide))
 have hc := hT (x % 16) (Nat.mod_lt _ (by decide))
 have hl := tb_lt ⟨x % 16, Nat.mod_lt _ (by decide)⟩
 have h4 := four_eq x
 dsimp only at hl
 obtain ⟨t, ht⟩ : ∃ t, tb.getD (x % 16) 0 = t := ⟨_, rfl⟩
 rw [ht] at hc hl h4
 have hx2 := x32 (x / 16) t (by omega) hl
 rw [show x % 256 % 16 = x % 16 by omega] at h1
 have h16 : x % 16 < 16 := Nat.mod_lt _ (by decide)
 obtain ⟨y, hy⟩ : ∃ y, x % 16 = y := ⟨_, rfl⟩
 rw [hy] at hc h1 h16
 go_enter Tryz.func169, Tryz.ntmps169
 go_wp2_with fail
 go_ret
 exact ⟨by rw [← h4, ← hx2]; push_cast; rfl, rfl⟩
theorem not32 (x : Nat) (hx : x < 4294967296) : bits .xor .u32 IntKind.u32.max (x : Int) = ((x ^^^ 4294967295 : Nat) : Int) := by
 rw [show IntKind.u32.max = ((4294967295 : Nat) : Int) from rfl, x32 _ x (by decide) hx, Nat.xor_comm]
set_option maxHeartbeats 1000000 in
theorem step_c (s b : Nat) (hs : s < 4294967296) (hb : b < 256) (w : World) (hT : Ctab w) :
  Calls Tryz.prog 163 #[.int .u32 s, .int .u8 b] w fun e w' => e = .returned (.int .u32 (stp s b : Nat)) ∧ w = w' := by
 have hsg : IntKind.u32.signed = false := rfl
 have h1 := not32 s hs
 have e : stp s b = mvs 4 (mvs 4 (s ^^^ 4294967295 ^^^ b)) ^^^ 4294967295 := by rw [← mvs_add]; rfl
 rw [e]
 clear e
 obtain ⟨n, hn⟩ : ∃ n, s ^^^ 4294967295 = n := ⟨_, rfl⟩
 have hnl : n < 4294967296 := by rw [← hn]; exact xor_lt32 hs (by decide)
 rw [hn] at h1 ⊢
 have h2 := x32 n b hnl (by omega)
 obtain ⟨x, hx⟩ : ∃ x, n ^^^ b = x := ⟨_, rfl⟩
 have hxl : x < 4294967296 := by rw [← hx]; exact xor_lt32 hnl (by omega)
 rw [hx] at h2 ⊢
 clear hn hx
 have hyl := mvs_lt 4 hxl
 have hzl := mvs_lt 4 hyl
 have h3 := not32 _ hzl
 go_enter Tryz.func163, Tryz.ntmps163
 go_wp2_with fail
 refine (four_c x hxl w hT).mono ?_
 rintro e w' ⟨rfl, rfl⟩
 go_wp2_with fail
 refine (four_c (mvs 4 x) hyl w hT).mono ?_
 rintro e w' ⟨rfl, rfl⟩
 go_wp2_with fail
 go_ret
 exact ⟨by rw [← h3]; rfl, rfl⟩
theorem moved_c (x : Nat) (hx : x < 4294967296) (w : World) :
  Calls Tryz.prog 100 #[.int .u32 x] w fun e w' => e = .returned (.int .u32 (mv x : Nat)) ∧ w = w' := by
 have h2 := xpoly (x / 2) (by omega)
 go_enter Tryz.func100, Tryz.ntmps100
 rcases Nat.mod_two_eq_zero_or_one x with hm | hm
 ·have e : mv x = x / 2 := by unfold mv; rw [if_neg (by omega)]
  have h1 : (x : Int) % 2 = 0 := by omega
  go_wp2
  all_goals go_ret
  all_goals exact ⟨by rw [e]; go_num, rfl⟩
 ·have e : mv x = x / 2 ^^^ 3988292384 := by unfold mv; rw [if_pos hm]
  have h1 : (x : Int) % 2 = 1 := by omega
  go_wp2
  all_goals go_ret
  all_goals exact ⟨by rw [e, ← h2]; go_num, rfl⟩
set_option maxHeartbeats 1000000 in
theorem rstep_c (s b : Nat) (hs : s < 4294967296) (hb : b < 256) (w : World) :
  Calls Tryz.prog 71 #[.int .u32 s, .int .u8 b] w fun e w' => e = .returned (.int .u32 (stp s b : Nat)) ∧ w = w' := by
 have hsg : IntKind.u32.signed = false := rfl
 have h1 := not32 s hs
 have e : stp s b = mvs 8 (s ^^^ 4294967295 ^^^ b) ^^^ 4294967295 := rfl
 rw [e]
 clear e
 obtain ⟨n, hn⟩ : ∃ n, s ^^^ 4294967295 = n := ⟨_, rfl⟩
 have hnl : n < 4294967296 := by rw [← hn]; exact xor_lt32 hs (by decide)
 rw [hn] at h1 ⊢
 have h2 := x32 n b hnl (by omega)
 obtain ⟨x, hx⟩ : ∃ x, n ^^^ b = x := ⟨_, rfl⟩
 have hxl : x < 4294967296 := by rw [← hx]; exact xor_lt32 hnl (by omega)
 rw [hx] at h2 ⊢
 clear hn hx
 go_enter Tryz.func71, Tryz.ntmps71
 go_wp2_with fail
 go_loopg [5, 6] 8 (fun g sx si wr => ∃ i : Nat, i + g = 8 ∧ si = .int .i64 i ∧ sx = .int .u32 (mvs i x : Nat) ∧ w = wr)
 case atStart => exact ⟨0, rfl, rfl, rfl, rfl⟩
 case round =>
  obtain ⟨i, hi, rfl, rfl, rfl⟩ := hrel
  have hml := mvs_lt i hxl
  by_cases hl : i < 8
  ·go_wp2_with (go_at_call 100; refine (moved_c (mvs i x) hml _).mono ?_; rintro e3 w3 ⟨rfl, rfl⟩)
   go_roundg (7 - i)
   case measure => omega
   case rel => exact ⟨i + 1, by omega, by go_num, by rw [mv_mvs]; rfl, rfl⟩
  ·have hi2 : i = 8 := by omega
   rw [hi2] at hml ⊢
   have h3 := not32 _ hml
   go_wp2_with fail
   go_ret
   exact ⟨by rw [← h3]; rfl, rfl⟩
theorem Lies.drewN {w : World} {a : Option Addr} {l : List Nat} (h : Lies w a l) (n : Nat) : Lies (w.drewN n) a l := h
theorem sm_take (l : List Nat) (k x : Nat) (h : l[k]? = some x) : sm 0 (l.take (k + 1)) = stp (sm 0 (l.take k)) x := by
 obtain ⟨hk, he⟩ := List.getElem?_eq_some_iff.1 h
 rw [List.take_succ_eq_append_getElem hk, sm_append, he]; rfl
theorem Oct.sm_lt {l : List Nat} (h : Oct l) : sm 0 l < 4294967296 := YtpihipbeagpgpaaGreatDoor.sm_lt l (by decide) h
set_option maxHeartbeats 1000000 in
theorem rsum_c (a : Option Addr) (l : List Nat) (cap : Nat) (w : World) (hb : Oct l) (hl : l.length < 9223372036854775808) (h : Lies w a l) :
  Calls Tryz.prog 50 #[.slice a l.length cap] w fun e w' => e = .returned (.int .u32 (sm 0 l : Nat)) ∧ w = w' := by
 obtain ⟨L, hL⟩ : ∃ L, l.length = L := ⟨_, rfl⟩
 have AL : Aside (l.length = L ∧ L < 9223372036854775808) := ⟨hL, by omega⟩
 rw [hL]
 clear hL hl
 go_enter Tryz.func50, Tryz.ntmps50
 go_wp2_with fail
 go_loopg [3, 4] L (fun g sx si wr => ∃ k : Nat, k + g = L ∧ si = .int .i64 k ∧ sx = .int .u32 (sm 0 (l.take k) : Nat) ∧ w = wr)
 case atStart => exact ⟨0, by omega, rfl, by rw [List.take_zero]; rfl, rfl⟩
 case round =>
  obtain ⟨k, hk, rfl, rfl, rfl⟩ := hrel
  have hsl := (hb.take k).sm_lt
  by_cases hlt : k < L
  ·have hki : (k : Int) < (L : Int) := by omega
   have hkl : k < l.length := by rw [AL.out.1]; exact hlt
   have hx := List.getElem?_eq_getElem hkl
   have hx2 := hb _ (List.getElem_mem hkl)
   obtain ⟨x, hxx⟩ : ∃ x, l[k] = x := ⟨_, rfl⟩
   rw [hxx] at hx hx2
   have AX : Aside (sm 0 (l.take (k + 1)) = stp (sm 0 (l.take k)) x) := sm_take l k x hx
   have AK : Aside (k + gk = L) := hk
   have hkb : (k : Int) + 1 < 9223372036854775808 := by have := AL.out; omega
   rcases h with rfl | ⟨b, o, rfl, hc⟩
   ·simp at hkl
   have hcell := hc k x hx
   clear hc hx hxx hkl hk
   obtain ⟨s, hs⟩ : ∃ s, sm 0 (l.take k) = s := ⟨_, rfl⟩
   rw [hs] at hsl AX ⊢
   clear hs
   go_wp2_with (go_at_call 71; refine (rstep_c s x hsl hx2 _).mono ?_; rintro e3 w3 ⟨rfl, rfl⟩)
   have hk := AK.out
   go_roundg (gk - 1)
   case measure => omega
   case rel => exact ⟨k + 1, by omega, by go_num, by rw [AX.out], rfl⟩
  ·have hki : ¬ (k : Int) < (L : Int) := by omega
   have hk2 : l.take k = l := List.take_of_length_le (by have := AL.out; omega)
   rw [hk2]
   clear hk2
   go_wp2_with fail
   go_ret
   exact ⟨rfl, rfl⟩
end Go.Proofs.YtpihipbeagpgpaaGreatDoor

/-
 The inflater stays as it is where rows of bytes, of lists of bytes, or a walker turn. No walk.
-/
namespace Go.Proofs.YtpihipbeagpgpaaGreatDoor
open Go.RowKit
set_option linter.unusedVariables false
def Kt (ty : TypeId) : Prop := ty = 5 ∨ ty = 72 ∨ ty = 22 ∨ ty = 9 ∨ ty = 66 ∨ ty = 3 ∨ ty = 98
structure Kq (B : Nat) (w u : World) : Prop where
 size : w.heap.size ≤ u.heap.size
 block : ∀ k, k < w.heap.size → u.heap[k]? = w.heap[k]? ∨ (9 ≤ k ∧ (k < B ∨ B + 4 ≤ k) ∧ ∃ cs ty fr, w.heap[k]? = some (.cells cs ty fr) ∧ Kt ty)
theorem Kq.of_below {B C : Nat} {w u : World} (h : Below C w u) (hC : w.heap.size ≤ C) : Kq B w u := ⟨h.size, fun k hk => Or.inl (h.block k (by omega))⟩
theorem Tbl.kq {w u : World} {B : Nat} {v : Value} {ls : List Nat} (h : Tbl w B v ls) (k : Kq B w u) : Tbl u B v ls := by
 obtain ⟨lo, hi, T, h1, h2, h3, ⟨g, M, n, q, a1, a2, a3, a4, a5, a6, a7⟩, h5⟩ := h
 have e1 : u.heap[T]? = w.heap[T]? := by
  rcases k.block T (by omega) with e | ⟨_, _, cs, ty, fr, e, ht⟩
  ·exact e
  ·have := q.t; unfold Cells at this; rw [this] at e; cases e; rcases ht with h | h | h | h | h | h | h <;> exact absurd h (by decide)
 have e2 : u.heap[g]? = w.heap[g]? := by
  rcases k.block g (by omega) with e | ⟨_, _, cs, ty, fr, e, ht⟩
  ·exact e
  ·obtain ⟨cs', hc, _⟩ := q.c; unfold Cells at hc; rw [hc] at e; cases e; rcases ht with h | h | h | h | h | h | h <;> exact absurd h (by decide)
 have e3 : u.heap[M]? = w.heap[M]? := by
  rcases k.block M (by omega) with e | ⟨_, _, cs, ty, fr, e, ht⟩
  ·exact e
  ·obtain ⟨G, ⟨D, ⟨es, cl, hb, _⟩, _⟩, _⟩ := q.m; rw [hb] at e; cases e
 exact ⟨lo, hi, T, h1, h2, Nat.le_trans h3 k.size, ⟨g, M, n, q.heap e1 e2 e3, a1, a2, a3, a4, a5, a6, a7⟩, h5⟩
section
variable {w u : World} {B D b R : Nat} {f : Nat → Value} {bs : List Bool} {most : Nat}
theorem Bs.kq {h : List Bool} {l : List Int} (s : Bs w B D b R f h l) (k : Kq B w u) : Bs u B D b R f h l := by
 have := s.lt
 refine s.keep fun i h1 h2 => ?_
 rcases k.block i (by omega) with e | ⟨_, h3, _⟩
 ·exact e
 ·omega
theorem Fx.kq (h : Fx w B f) (k : Kq B w u) : Fx u B f := by
 rcases h with h | ⟨h, h'⟩
 ·exact Or.inl h
 ·exact Or.inr ⟨h.kq k, h'.kq k⟩
theorem Tabs.kq (h : Tabs w) (k : Kq B w u) (hs : 8 ≤ w.heap.size) : Tabs u := by
 have hc : ∀ p : Addr, p.block < 8 → u.cell? p = w.cell? p := fun p hp => World.cell?_of_block (w := w) (by
  rcases k.block p.block (by omega) with e | ⟨h3, _⟩
  ·exact e
  ·omega)
 exact ⟨fun i hi => (hc ⟨1, i, none⟩ (show 1 < 8 by decide)).trans (h.t0 i hi), fun i hi => (hc ⟨2, i, none⟩ (show 2 < 8 by decide)).trans (h.t1 i hi), fun i hi => (hc ⟨3, i, none⟩ (show 3 < 8 by decide)).trans (h.t2 i hi), fun i hi => (hc ⟨4, i, none⟩ (show 4 < 8 by decide)).trans (h.t3 i hi), fun i hi => (hc ⟨5, i, none⟩ (show 5 < 8 by decide)).trans (h.t4 i hi), fun i hi => (hc ⟨6, i, none⟩ (show 6 < 8 by decide)).trans (h.t5 i hi), fun i hi => (hc ⟨7, i, none⟩ (show 7 < 8 by decide)).trans (h.t6 i hi)⟩
theorem Ctab.kq (h : Ctab w) (k : Kq B w u) : Ctab u := fun i hi => by
 have e : u.cell? ⟨8, i, none⟩ = w.cell? ⟨8, i, none⟩ := World.cell?_of_block (w := w) (by
  rcases k.block 8 h.lt with e | ⟨h3, _⟩
  ·exact e
  ·omega)
 exact e.trans (h i hi)
theorem Pl.kq {a c : Nat} {code l : List Nat} (h : Pl w B f a c code l) (k : Kq B w u) : Pl u B f a c code l := ⟨h.a1, h.a2, h.b1, h.b2, h.c8, h.c9, h.have_, h.len, h.row, h.tbl.kq k, h.code⟩
theorem At.kq {n : Nat} {st : St} (h : At w B D f n st) (k : Kq B w u) : At u B D f n st := by
 cases st using St.el with
 | head last => cases last <;> exact h
 | dsym last a b code l => exact ⟨h.1, h.2.1, h.2.2.kq k⟩
 | drep last a b code l s => exact ⟨h.1, h.2.1, h.2.2.1.kq k, h.2.2.2⟩
 | sym last lit di => exact ⟨h.1, h.2.1, h.2.2.1.kq k, h.2.2.2.kq k⟩
 | lext last lit di s => exact ⟨h.1, h.2.1, h.2.2.1.kq k, h.2.2.2.1.kq k, h.2.2.2.2⟩
 | dist last lit di m => exact ⟨h.1, h.2.1, h.2.2.1.kq k, h.2.2.2.1.kq k, h.2.2.2.2⟩
 | dext last lit di m x => exact ⟨h.1, h.2.1, h.2.2.1.kq k, h.2.2.2.1.kq k, h.2.2.2.2⟩
 | copy last lit di m d => exact ⟨h.1, h.2.1, h.2.2.1.kq k, h.2.2.2.1.kq k, h.2.2.2.2⟩
 | _ => exact h
theorem Is.kq {c : Cfg} (h : Is w B D b R f bs c) (k : Kq B w u) : Is u B D b R f bs c :=
 ⟨h.mem.kq k, h.at_.kq k, h.fx.kq k, h.tabs.kq k (by have := h.mem.lt; have := h.b7; omega), h.le, h.b7⟩
theorem Ov.kq {c : Cfg} (h : Ov w B D b R f c) (k : Kq B w u) : Ov u B D b R f c := by
 obtain ⟨hh, l, s⟩ := h.mem
 exact ⟨⟨hh, l, s.kq k⟩, h.waits, h.how, h.fx.kq k, h.tabs.kq k (by have := s.lt; have := h.b7; omega), h.b7⟩
end
theorem Inf.kq {w u : World} {B D b R : Nat} {I : List Nat} {M : Nat} {c : Cfg} {q : Md} (h : Inf w B D b R I M c q) (k : Kq B w u) : Inf u B D b R I M c q := by
 refine ⟨h.1, ?_⟩
 have h2 := h.2
 cases q using Md.el with
 | wait x =>
  obtain ⟨f, h3, h4⟩ := h2
  exact ⟨f, h3.kq k, h4⟩
 | want =>
  obtain ⟨f, h3⟩ := h2
  exact ⟨f, h3.is_.kq k, h3.op, h3.few, h3.z⟩
 | over =>
  obtain ⟨f, h3⟩ := h2
  exact ⟨f, h3.kq k⟩
 | shut =>
  obtain ⟨f, h, l, h3, h4, h5, h6, h7, h8, h9⟩ := h2
  exact ⟨f, h, l, h3.kq k, h4, h5, h6, h7.kq k, h8.kq k (by have := h3.lt; omega), h9⟩
end Go.Proofs.YtpihipbeagpgpaaGreatDoor

/-
 The document's gzip file as a run over its bytes: its state, and what each of its small calls makes of it. No walk.
-/
namespace Go.Proofs.YtpihipbeagpgpaaGreatDoor
set_option linter.unusedVariables false
abbrev Gev := Nat × Nat × List Nat
structure Gr where
 ev : List Gev
 why : Nat
 sat : Nat
 pos : Nat
 left : Nat
def le : List Nat → Nat
 | [] => 0
 | x :: r => x + 256 * le r
end Go.Proofs.YtpihipbeagpgpaaGreatDoor

/-
 The document's gzip run in memory, and what its small calls (open, stop, number, is) come to.
-/
namespace Go.Proofs.YtpihipbeagpgpaaGreatDoor
open Go.RowKit
set_option linter.unusedVariables false
section
variable {w u : World} {base R L C : Nat} {a : Option Addr} {r : Gr} {vE : Value}
end
section
variable {base R L C : Nat} {a : Option Addr} {r : Gr} {vE : Value}
end
end Go.Proofs.YtpihipbeagpgpaaGreatDoor

/-
 What the document's number and is come to.
-/
namespace Go.Proofs.YtpihipbeagpgpaaGreatDoor
open Go.RowKit
set_option linter.unusedVariables false
section
variable {base R L C : Nat} {a : Option Addr} {r : Gr} {vE : Value}
end
end Go.Proofs.YtpihipbeagpgpaaGreatDoor

/-
 A part of a slice of bytes. No walk.
-/
namespace Go.Proofs.YtpihipbeagpgpaaGreatDoor
open Go.RowKit
set_option linter.unusedVariables false
end Go.Proofs.YtpihipbeagpgpaaGreatDoor

/-
 What the document's is and text come to.
-/
namespace Go.Proofs.YtpihipbeagpgpaaGreatDoor
open Go.RowKit
set_option linter.unusedVariables false
theorem addr_add (b o j : Nat) : (⟨b, o, none⟩ : Addr).add j = ⟨b, o + j, none⟩ := by unfold Addr.add; split <;> simp_all
theorem conv_st {w : World} {a : Option Addr} {l : List Nat} (L : Nat) (cap : Nat) (hL : l.length = L) (ho : Oct l) (h : Lies w a l) : (convert 22 9 (.slice a L cap)).run Tryz.prog w = .ok (.string (st l)) w := by
 subst hL
 rcases h with rfl | ⟨b, o, rfl, hc⟩
 ·cases a with
  | none =>
   simp [convert, run_underlying Tryz.underlying22, run_underlying Tryz.underlying9, run_underlying Tryz.underlying5, st, Conv.bytesToString]
   rfl
  | some ad =>
   have := run_convert_bytes_back (P := Tryz.prog) w 22 9 5 ad cap [] Tryz.underlying22 Tryz.underlying5 Tryz.underlying9 (by simp)
   exact this
 ·have := run_convert_bytes_back (P := Tryz.prog) w 22 9 5 ⟨b, o, none⟩ cap (l.map UInt8.ofNat) Tryz.underlying22 Tryz.underlying5 Tryz.underlying9 (fun j hj => by
   rw [addr_add]
   have hj' : j < l.length := by simpa using hj
   rw [hc j l[j] (List.getElem?_eq_getElem hj')]
   have := ho l[j] (List.getElem_mem hj')
   simp
   omega)
  rw [List.length_map] at this
  exact this
section
variable {base R L C : Nat} {a : Option Addr} {r : Gr} {vE : Value}
end
end Go.Proofs.YtpihipbeagpgpaaGreatDoor

/-
 Lists of a call's own, of cells of any type and width; append, clear, and what is kept by them.
-/
namespace Go.Proofs.YtpihipbeagpgpaaGreatDoor
open Go.RowKit
set_option linter.unusedVariables false
structure Ow (w : World) (lo : Nat) (e : TypeId) (sz : Nat) (v : Value) (n : Nat) (xs : List Value) : Prop where
 own : w.ownsRow lo e sz v n xs
 le : lo ≤ w.heap.size
theorem Ow.nil {w : World} {lo sz : Nat} {e : TypeId} (h : lo ≤ w.heap.size) : Ow w lo e sz (.slice none 0 0) 0 [] := ⟨⟨by simp, Or.inl ⟨rfl, rfl⟩⟩, h⟩
section
variable {w u : World} {lo sz n : Nat} {e : TypeId} {v : Value} {l : List Value}
theorem Ow.keep (h : Ow w lo e sz v n l) (hs : w.heap.size ≤ u.heap.size) (k : ∀ g, lo ≤ g → g < w.heap.size → (∃ cs fr, w.heap[g]? = some (.cells cs e fr)) → u.heap[g]? = w.heap[g]?) : Ow u lo e sz v n l := by
 refine ⟨⟨h.own.1, ?_⟩, Nat.le_trans h.le hs⟩
 rcases h.own.2 with q | ⟨g, c, cur, hv, hg, hh, q⟩
 ·exact Or.inl q
 ·have hlt : g < w.heap.size := (Array.getElem?_eq_some_iff.1 hh).1
  exact Or.inr ⟨g, c, cur, hv, hg, (k g hg hlt ⟨_, _, hh⟩).trans hh, q⟩
theorem Ow.below {C : Nat} (h : Ow w lo e sz v n l) (k : Below C w u) (hC : w.heap.size ≤ C) : Ow u lo e sz v n l := h.keep k.size fun g h1 h2 _ => k.block g (by omega)
theorem Ow.set {b i : Nat} {x : Value} {cs : Array Value} {t : TypeId} (h : Ow w lo e sz v n l) (hb : Cells w b cs t) (ht : t ≠ e) : Ow (w.setCell ⟨b, i, none⟩ x) lo e sz v n l :=
 h.keep (by simp [World.setCell]) fun g h1 h2 ⟨cs', fr, hx⟩ => Below.heap_setCell _ _ _ _ (fun hg => by
  subst hg
  unfold Cells at hb
  rw [hb] at hx
  cases hx
  exact ht rfl)
theorem Ow.lt_block (h : Ow w lo e sz v n l) {g : Nat} (hg : v.ownBlock = some g) : lo ≤ g ∧ g < w.heap.size := h.own.lt g hg
theorem Ow.shape (h : Ow w lo e sz v n l) : ∃ a c, v = .slice a n c ∧ n ≤ c ∧ (n = 0 ∨ ∃ g, a = some ⟨g, 0, none⟩ ∧ lo ≤ g ∧ (∃ cs, w.heap[g]? = some (.cells cs e (0, 0))) ∧ (∀ i x, l[i]? = some x → w.cell? ⟨g, i, none⟩ = some x) ∧ ∀ i, w.frozen? ⟨g, i, none⟩ = false) ∧ (a = none → n = 0 ∧ c = 0) := by
 rcases h.own.2 with ⟨hv, h0⟩ | ⟨g, c, cur, hv, hg, hh, hc, hm, hs, ht⟩
 ·refine ⟨none, 0, by rw [hv, h0], by omega, Or.inl h0, fun _ => ⟨h0, rfl⟩⟩
 ·refine ⟨_, c, hv, hc, Or.inr ⟨g, rfl, hg, ⟨_, hh⟩, fun i x hx => ?_, fun i => Cells.frozen (cs := cur) (t := e) hh i⟩, fun h => by cases h⟩
  rw [Cells.cell (cs := cur) (t := e) hh]
  have hi : i < l.length := (List.getElem?_eq_some_iff.1 hx).1
  have e : (cur.toList.take (n * sz))[i]? = some x := by rw [ht, hx]
  rw [List.getElem?_take, if_pos (by have := h.own.1; omega)] at e
  simpa using e
end
structure Got (lo : Nat) (e : TypeId) (sz : Nat) (w w' : World) (v v' : Value) (n : Nat) (xs : List Value) : Prop where
 ow : Ow w' lo e sz v' n xs
 bel : Below lo w w'
 kb : ∀ k, k < w.heap.size → some k ≠ v.ownBlock → w'.heap[k]? = w.heap[k]?
 kp : ∀ k, k < w.heap.size → w'.heap[k]? = w.heap[k]? ∨ (lo ≤ k ∧ ∃ cs, w.heap[k]? = some (.cells cs e (0, 0)))
theorem Got.size {lo sz n : Nat} {e : TypeId} {w w' : World} {v v' : Value} {xs : List Value} (h : Got lo e sz w w' v v' n xs) : w.heap.size ≤ w'.heap.size := h.bel.size
theorem Cells.got {lo sz n b : Nat} {e t : TypeId} {w w' : World} {v v' : Value} {xs : List Value} {cs : Array Value} (h : Cells w b cs t) (k : Got lo e sz w w' v v' n xs) (ht : t ≠ e) : Cells w' b cs t := by
 unfold Cells at *
 have hlt : b < w.heap.size := (Array.getElem?_eq_some_iff.1 h).1
 rcases k.kp b hlt with e1 | ⟨_, cs', e1⟩
 ·rw [e1]; exact h
 ·rw [h] at e1; cases e1; exact absurd rfl ht
theorem Ow.got {lo lo2 sz sz2 n n2 : Nat} {e t : TypeId} {w w' : World} {v v' v2 : Value} {xs ys : List Value} (h : Ow w lo2 t sz2 v2 n2 ys) (k : Got lo e sz w w' v v' n xs) (ht : t ≠ e) : Ow w' lo2 t sz2 v2 n2 ys :=
 h.keep k.size fun g h1 h2 ⟨cs, fr, hx⟩ => by
  rcases k.kp g h2 with e1 | ⟨_, cs', e1⟩
  ·exact e1
  ·rw [hx] at e1; cases e1; exact absurd rfl ht
theorem Got.mk' {lo sz n m : Nat} {e : TypeId} {w w' : World} {v v' : Value} {xs news : List Value} (hown : Ow w lo e sz v n xs) (h2 : w'.ownsRow lo e sz v' (n + m) (xs ++ news)) (h3 : w.grownBy w' v.ownBlock) : Got lo e sz w w' v v' (n + m) (xs ++ news) := by
 have hos : v.ownBlock = none ∨ ∃ g cur, v.ownBlock = some g ∧ lo ≤ g ∧ w.heap[g]? = some (.cells cur e (0, 0)) := by
  rcases hown.own.2 with ⟨rfl, h0⟩ | ⟨g, c, cur, rfl, hg, hh, _⟩
  ·left; rfl
  ·right; exact ⟨g, cur, rfl, hg, hh⟩
 have hb : Below lo w w' := (Below.refl lo w).grown h3 hown.le (fun k hk => by
  rcases hos with h5 | ⟨g, cur, h5, hg, _⟩
  ·rw [h5] at hk; cases hk
  ·rw [h5] at hk; cases hk; exact hg)
 refine ⟨⟨h2, Nat.le_trans hown.le h3.size⟩, hb, fun k hk e => h3.block k hk e, fun k hk => ?_⟩
 by_cases e : some k = v.ownBlock
 ·rcases hos with h5 | ⟨g, cur, h5, hg, hh⟩
  ·rw [h5] at e; cases e
  ·rw [h5] at e
   cases e
   exact Or.inr ⟨hg, cur, hh⟩
 ·exact Or.inl (h3.block k hk e)
section
variable (P : Program) (w : World) {o : Oper} {a : Act}
theorem wpList_ow {ops : Array Oper} {rest : List Oper} {Q : Exit → Act → World → Prop} (hgd : o.guard = none) (s x : Operand) (t : TypeId)
  (ho : o.op = .call { callee := .builtin .append, args := #[s, x], argTypes := #[t, t] }) (e : TypeId) (i : TypeInfo) (z : Value) (sz bytes : Nat) (ht : P.underlying t = some (.slice e)) (hi : P.info? e = some i) (hz0 : i.zero = some z) (hz1 : i.size = sz) (hz2 : i.bytes = bytes) (hz3 : z.cells.size = sz) (hsz : 0 < sz)
  (lo : Nat) (v : Value) (k : Nat) (l : List Value) (hs : a.eval s = v) (hown : Ow w lo e sz v k l)
  (ax : Option Addr) (m : List Value) (n c : Nat) (hnm : m.length = n * sz) (hx : a.eval x = .slice ax n c) (hz : ax = none → n = 0 ∧ c = 0) (hl : m = [] ∨ ∃ b o, ax = some ⟨b, o, none⟩ ∧ ∀ i u, m[i]? = some u → w.cell? ⟨b, o + i, none⟩ = some u) (h1 : ∀ u ∈ m, u.oneCell' = true) (h63 : k + n ≤ maxLen) (hlen : (k + n) * bytes ≤ 140737488355328)
  (h : ∀ v' w', Got lo e sz w w' v v' (k + n) (l ++ m) → wpList P ops Q rest (a.put o.dst v') w') : wpList P ops Q (o :: rest) a w := by
 cases ax with
 | none =>
  obtain ⟨h1, h2⟩ := hz rfl
  subst h1
  have hm : m = [] := List.eq_nil_of_length_eq_zero (by omega)
  subst hm
  subst h2
  refine wpList_append_own_none hgd s x t ho lo e i sz ht hi v _ _ hs hown.own hx (h v w ?_)
  rw [List.append_nil]
  exact ⟨hown, Below.refl _ _, fun _ _ _ => rfl, fun k _ => Or.inl rfl⟩
 | some ad =>
  refine wpList_append_own w hgd s x t ho lo e i z sz bytes ht hi hz0 hz1 hz2 hz3 hsz v _ _ hs hown.own ad n c m hx hnm ?_ h1 h63 hlen hown.le ?_
  ·intro j u hj
   rcases hl with rfl | ⟨b, off, ha, hc⟩
   ·simp at hj
   ·cases ha
    rw [addr_add]
    exact hc j u hj
  ·intro v' w' h2 h3 h4
   exact h v' w' (Got.mk' hown h2 h3)
end
theorem Ow.lies {w : World} {lo n : Nat} {v : Value} {l : List Nat} (h : Ow w lo 5 1 v n (ob l)) : ∃ a c, v = .slice a n c ∧ l.length = n ∧ n ≤ c ∧ Lies w a l ∧ (a = none → n = 0 ∧ c = 0) := by
 obtain ⟨a, c, hv, hc, hq, hz⟩ := h.shape
 have hn : l.length = n := by have := h.own.1; rw [ob_length] at this; omega
 refine ⟨a, c, hv, hn, hc, ?_, hz⟩
 rcases hq with h0 | ⟨g, ha, hg, _, hx, _⟩
 ·exact Or.inl (List.eq_nil_of_length_eq_zero (by omega))
 ·refine Or.inr ⟨g, 0, ha, fun i x hi => ?_⟩
  rw [Nat.zero_add]
  exact hx i _ (by rw [ob_get, hi]; rfl)
end Go.Proofs.YtpihipbeagpgpaaGreatDoor

/-
 What the document's text comes to.
-/
namespace Go.Proofs.YtpihipbeagpgpaaGreatDoor
open Go.RowKit
set_option linter.unusedVariables false
section
variable {base R L C : Nat} {a : Option Addr} {r : Gr} {vE : Value}
end
end Go.Proofs.YtpihipbeagpgpaaGreatDoor

/-
 What the document's tell comes to.
-/
namespace Go.Proofs.YtpihipbeagpgpaaGreatDoor
open Go.RowKit
set_option linter.unusedVariables false
def gk1 (g : Nat) : Int := if g = 256 then 1 else if g = 257 then 3 else 2
def gk2 (g : Nat) : Int := if g < 256 then (g : Int) else 0
def gk3 (g : Nat) : Int := if g = 256 then 2 else 0
def gevv (g : Nat) (nm : List Nat) : Array Value := #[.int .i64 (gk1 g), .int .u8 (gk2 g), .int .i64 (gk3 g), .int .i64 0, .string (st nm)]
section
variable {w : World} {lo R L C : Nat} {aB : Option Addr} {r : Gr} {v : Value}
end
end Go.Proofs.YtpihipbeagpgpaaGreatDoor

/-
 With which byte what is known, told of prefixes of some bytes. No walk in this text.
-/
namespace Go.Proofs.YtpihipbeagpgpaaGreatDoor
open Go.RowKit
set_option linter.unusedVariables false
section
variable {bs : List Bool} {N M : Nat}
end
end Go.Proofs.YtpihipbeagpgpaaGreatDoor

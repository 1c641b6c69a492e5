/-
  Own texts of this seat, one behind the other: what each says stands ahead of it.
-/
import Derived.Test.YtcmmjbkgoafbnaaDoorMj
import Derived.Deep.RegionHeld3
import Derived.Test.YtcmmjbkgoafbnaaDoorMe
import Derived.Test.YtcmmjbkgoafbnaaDoorMa
import Derived.Deep.AppendLies
import Derived.Deep.RegionLaw
import Derived.Test.YtcmmjbkgoafbnaaDoorMd
/-
  What whole, End, New and Reset come to; a walker that is not there.
-/
namespace Go.Proofs.YtcmmjbkgoafbnaaDoor
open Go.RowKit
set_option linter.unusedVariables false
set_option linter.unusedSimpArgs false
/-- May the archive end here? -/
def twhl (s : Ts) : Bool := decide (s.wh = 3) || (decide (s.wh = 0) && decide (s.ps = 0))
/-- What End makes of a state that may take a byte. -/
def tfn (s : Ts) : Ts := if twhl s then s else { s with why := 1 }
section
variable {W : Nat} {s : Ts} {v : Rv}
theorem whole35 (w : World) (h : Wm w W s v) : Calls Tryd.prog 35 #[.pointer (some ⟨W, 0, none⟩)] w fun e w' => e = .returned (.bool (twhl s)) ∧ w' = w := by
  have c1 := h.k0
  have c2 := h.k1
  have e1 : decide (s.wh = 3) = ((s.wh : Int) == 3) := by by_cases q : s.wh = 3 <;> simp [q]; omega
  have e2 : decide (s.wh = 0) = ((s.wh : Int) == 0) := by by_cases q : s.wh = 0 <;> simp [q]
  have e3 : decide (s.ps = 0) = ((s.ps : Int) == 0) := by by_cases q : s.ps = 0 <;> simp [q]
  unfold twhl
  rw [e1, e2, e3]
  generalize (s.wh : Int) = a at *
  generalize (s.ps : Int) = b at *
  generalize hb1 : (a == 3) = b1
  generalize hb2 : (a == 0) = b2
  generalize hb3 : (b == 0) = b3
  clear h e1 e2 e3
  cases b1 <;> cases b2 <;> cases b3
  all_goals
    go_enter Tryd.func35, Tryd.ntmps35
    go_wp2_with fail
    go_ret
    exact ⟨rfl, rfl⟩
theorem end_no (w : World) (h : Wm w W s v) (ho : vop s v = false) : Calls Tryd.prog 14 #[.pointer (some ⟨W, 0, none⟩)] w fun e w' => e = .returned (.tuple #[]) ∧ w' = w := by
  have hop := open_c w h
  rw [ho] at hop
  clear h ho
  go_enter Tryd.func14, Tryd.ntmps14
  go_wp2_with (go_at_call 24; refine hop.mono ?_; rintro e1 w1 ⟨rfl, rfl⟩)
  first | go_end0 | (refine bodyPost_ret (results_none rfl _ _ _) rfl ?_)
  exact ⟨rfl, rfl⟩
theorem end_yes (w : World) (h : Wm w W s v) (ho : vop s v = true) (he : Er w) (hW : 3 ≤ W) : Calls Tryd.prog 14 #[.pointer (some ⟨W, 0, none⟩)] w fun e w' => Wp W (tfn s) { v with ed := true } w e w' := by
  have hop := open_c w h
  rw [ho] at hop
  have c1 := h.k1551
  have f1 := h.fz 1551
  have m1 := h.s1551 true
  obtain ⟨w1, hw1⟩ : ∃ w1, w.setCell ⟨W, 1551, none⟩ (.bool true) = w1 := ⟨_, rfl⟩
  rw [hw1] at m1
  have q1 : But W w w1 := by rw [← hw1]; exact But.of_only ((Only.refl W w).setCell 1551 _)
  have hwh := whole35 w1 m1
  have c2 := m1.k1552
  have f2 := m1.fz 1552
  have AW : Aside (w.setCell ⟨W, 1551, none⟩ (.bool true) = w1) := hw1
  have A : Aside (Wm w1 W s { v with ed := true } ∧ But W w w1 ∧ Er w1 ∧ 3 ≤ W) := ⟨m1, q1, he.but q1 hW, hW⟩
  clear h ho he hW m1 q1 hw1
  cases hb : twhl s with
  | true =>
    rw [hb] at hwh
    have AT : Aside (tfn s = s) := by show tfn s = s; unfold tfn; rw [if_pos hb]
    clear hb
    go_enter Tryd.func14, Tryd.ntmps14
    go_upto_region 2 with (go_at_call 24; refine hop.mono ?_; rintro e1 w ⟨rfl, rfl⟩)
    rw [AW.out]
    clear hop c1 f1
    go_wp2_with (go_at_call 35; refine hwh.mono ?_; rintro e1 w1 ⟨rfl, rfl⟩)
    first | go_end0 | (refine bodyPost_ret (results_none rfl _ _ _) rfl ?_)
    rw [AT.out]
    exact ⟨rfl, A.out.1, A.out.2.1, A.out.2.2.1⟩
  | false =>
    rw [hb] at hwh
    have AT : Aside (tfn s = { s with why := 1 }) := by show tfn s = _; unfold tfn; rw [if_neg (by rw [hb]; decide)]
    clear hb
    go_enter Tryd.func14, Tryd.ntmps14
    go_upto_region 2 with (go_at_call 24; refine hop.mono ?_; rintro e1 w ⟨rfl, rfl⟩)
    rw [AW.out]
    clear hop c1 f1
    go_wp2_with (go_at_call 35; refine hwh.mono ?_; rintro e1 w1 ⟨rfl, rfl⟩)
    first | go_end0 | (refine bodyPost_ret (results_none rfl _ _ _) rfl ?_)
    rw [AT.out]
    have a0 := A.out
    have o : Only W w1 (w1.setCell ⟨W, 1552, none⟩ (.int .i64 1)) := (Only.refl W w1).setCell 1552 _
    exact ⟨rfl, a0.1.s1552 1, a0.2.1.trans (But.of_only o), a0.2.2.1.but (But.of_only o) a0.2.2.2⟩
end
def v0 : Rv := ⟨0, 0, 0, [], false, false⟩
/-- The cells of a new walker. -/
def nf (i : Nat) : Value := if i = 0 then .int .i64 0 else if i = 1 then .int .i64 0 else if i < 514 then .int .u8 0 else if i = 514 then .int .i64 0 else if i = 515 then .int .u64 0 else if i < 1540 then .int .u8 0 else if i = 1540 then .int .i64 0 else if i = 1541 then .string ⟨#[]⟩ else if i = 1542 then .bool false else if i = 1543 then .int .u64 0 else if i = 1544 then .bool false else if i = 1545 then .int .i64 0 else if i = 1546 then .int .u8 0 else if i = 1547 then .int .i64 0 else if i = 1548 then .int .i64 0 else if i = 1549 then .string ⟨#[]⟩ else if i = 1550 then .bool false else if i = 1551 then .bool false else .int .i64 0
set_option maxRecDepth 100000 in
theorem nf_cells : Tryd.zeroCells64 = cz nf := by kernel_rfl
theorem nf_wf : Wf nf t0 v0 := by
  refine ⟨rfl, rfl, rfl, rfl, rfl, rfl, rfl, rfl, rfl, rfl, rfl, rfl, rfl, rfl, rfl, rfl, rfl, fun j x hx => ?_, fun j x hx => ?_, tok0⟩
  · have h1 : j < 512 := by have := (List.getElem?_eq_some_iff.1 hx).1; rw [show t0.B.length = 512 from List.length_replicate] at this; exact this
    have h2 : x = 0 := by have := List.mem_of_getElem? hx; exact (List.mem_replicate.1 this).2
    rw [h2]
    unfold nf
    rw [if_neg (by omega), if_neg (by omega), if_pos (by omega)]
    rfl
  · have h1 : j < 1024 := by have := (List.getElem?_eq_some_iff.1 hx).1; rw [show t0.K.length = 1024 from List.length_replicate] at this; exact this
    have h2 : x = 0 := by have := List.mem_of_getElem? hx; exact (List.mem_replicate.1 this).2
    rw [h2]
    unfold nf
    rw [if_neg (by omega), if_neg (by omega), if_neg (by omega), if_neg (by omega), if_neg (by omega), if_pos (by omega)]
    rfl
theorem new_c (w : World) : Calls Tryd.prog 8 #[] w fun e w' => e = .returned (.pointer (some ⟨w.heap.size, 0, none⟩)) ∧ Wm w' w.heap.size t0 v0 ∧ Below w.heap.size w w' := by
  have hz := nf_cells
  go_enter Tryd.func8, Tryd.ntmps8
  go_wp2_with fail
  go_ret
  exact ⟨rfl, ⟨nf, Cells.new w _ 64, nf_wf⟩, (Below.refl _ w).alloc (Nat.le_refl _) _⟩
theorem nil_put (x : Nat) (w : World) : Calls Tryd.prog 9 #[.pointer none, .int .u8 (x : Int)] w fun e w' => e = .returned (.bool false) ∧ w' = w := by
  have ho : Calls Tryd.prog 24 #[.pointer none] w fun e w' => e = .returned (.bool false) ∧ w' = w := by
    go_enter Tryd.func24, Tryd.ntmps24
    go_wp2_with fail
    go_ret
    exact ⟨rfl, rfl⟩
  go_enter Tryd.func9, Tryd.ntmps9
  go_wp2_with (go_at_call 24; refine ho.mono ?_; rintro e1 w1 ⟨rfl, rfl⟩)
  go_ret
  exact ⟨rfl, rfl⟩
end Go.Proofs.YtcmmjbkgoafbnaaDoor

/-
  Reset: the walker as a new one; a walker that is not there.
-/
namespace Go.Proofs.YtcmmjbkgoafbnaaDoor
open Go.RowKit
set_option linter.unusedVariables false
set_option linter.unusedSimpArgs false
section
variable {P : Program}
/-- A row was stored into the inflater's block, from place off on. -/
structure Mid (D off : Nat) (f f' : Nat → Value) (vs : List Value) (w w' : World) : Prop where
  cells : Cells w' D (cz f') 64
  only : Only D w w'
  new : ∀ (j : Nat) (v : Value), vs[j]? = some v → f' (off + j) = v
  old : ∀ j, j < off ∨ off + vs.length ≤ j → f' j = f j
theorem store_mid (D off : Nat) : ∀ (vs : List Value) (i : Nat) (f : Nat → Value) (w : World), Cells w D (cz f) 64 → off + i + vs.length ≤ 1553 → (∀ v ∈ vs, v.oneCell' = true) →
    ∃ w' f', (storeCells ⟨D, off, none⟩ vs i).run P w = .ok () w' ∧ Mid D (off + i) f f' vs w w'
  | [], i, f, w, hc, hl, h1 => ⟨w, f, rfl, hc, Only.refl _ _, fun j v h => by simp at h, fun _ _ => rfl⟩
  | v :: rest, i, f, w, hc, hl, h1 => by
    rw [List.length_cons] at hl
    have hadd : (⟨D, off, none⟩ : Addr).add i = ⟨D, off + i, none⟩ := by unfold Addr.add; split <;> simp_all
    have hcell : w.cell? ⟨D, off + i, none⟩ = some (f (off + i)) := (hc.cell _).trans (cz_at f (by omega))
    have hfro := hc.frozen (off + i)
    have hst : (store ((⟨D, off, none⟩ : Addr).add i) v).run P w = .ok () (w.setCell ⟨D, off + i, none⟩ v) := by
      rw [hadd, run_store P w _ v _ (h1 v (by simp)), hcell]
      simp [hfro]
    have hc2 : Cells (w.setCell ⟨D, off + i, none⟩ v) D (cz (upd f (off + i) v)) 64 := by
      have := hc.set (off + i) v
      rwa [cz_set] at this
    obtain ⟨w', f', h2, h3⟩ := store_mid D off rest (i + 1) (upd f (off + i) v) _ hc2 (by omega) (fun x hx => h1 x (by simp [hx]))
    refine ⟨w', f', ?_, h3.cells, ((Only.refl D w).setCell _ _).trans h3.only, ?_, ?_⟩
    · simp only [storeCells, Sem.run_bind, hst, Result.andThen_ok, h2]
    · intro j x hj
      cases j with
      | zero =>
        rw [List.getElem?_cons_zero] at hj
        cases hj
        rw [Nat.add_zero, h3.old _ (Or.inl (by omega)), upd_same]
      | succ j =>
        rw [List.getElem?_cons_succ] at hj
        have := h3.new j x hj
        rw [show off + i + (j + 1) = off + (i + 1) + j by omega]
        exact this
    · intro j hj
      rw [List.length_cons] at hj
      rw [h3.old j (by omega), upd_ne _ _ (by omega)]
theorem wpList_store_mid {ops : Array Oper} {rest : List Oper} {o : Oper} {a : Act} {w : World} {Q : Exit → Act → World → Prop} (hgd : o.guard = none) (ty : TypeId) (x y : Operand) (ho : o.op = .store ty x y)
    (D off : Nat) (cells : Array Value) (hx : a.eval x = .pointer (some ⟨D, off, none⟩)) (hy : a.eval y = .agg cells) (f : Nat → Value) (hg : Cells w D (cz f) 64) (hi : (P.info? ty).map (·.size) = some cells.size)
    (hle : off + cells.size ≤ 1553) (h1 : cells.all (·.oneCell') = true)
    (h : ∀ w' f', Mid D off f f' cells.toList w w' → wpList P ops Q rest (a.put o.dst undef) w') : wpList P ops Q (o :: rest) a w := by
  refine wpList_plain hgd fun K hK => ?_
  obtain ⟨w', f', h2, h3⟩ := store_mid (P := P) D off cells.toList 0 f w hg (by simp; omega) (fun v hv => (Array.all_eq_true_iff_forall_mem.1 h1) v (by simpa using hv))
  have hv : (storeVar ty ⟨D, off, none⟩ (.agg cells)).run P w = .ok () w' := by
    cases hq : P.info? ty with
    | none => simp [hq] at hi
    | some i =>
      have hs : cells.size = i.size := by simp [hq] at hi; omega
      simp [storeVar, sizeOf, typeInfo, hq, Value.cells, hs, h2]
  unfold Oper.wp execOp
  simp only [ho, hx, hy, Instr.storeAt, Instr.sureAddr, Sem.run_bind, Sem.run_pure, Result.andThen_ok, hv]
  exact hK _ _ (h w' f' h3)
end
theorem ite_one {p : Prop} [Decidable p] {a b : Value} (ha : a.oneCell' = true) (hb : b.oneCell' = true) : (if p then a else b).oneCell' = true := by
  split
  · exact ha
  · exact hb
theorem nf_cell (i : Nat) : (nf i).oneCell' = true := by
  unfold nf
  repeat (refine ite_one rfl ?_)
  rfl
theorem czn_one (n : Nat) (f : Nat → Value) (h : ∀ i, (f i).oneCell' = true) : (czn n f).all (·.oneCell') = true := by
  rw [Array.all_eq_true_iff_forall_mem]
  intro x hx
  simp only [czn, List.mem_toArray, List.mem_map] at hx
  obtain ⟨i, _, rfl⟩ := hx
  exact h i
theorem nf_one : (cz nf).all (·.oneCell') = true := czn_one 1553 nf nf_cell
theorem size64 : (Tryd.prog.info? 64).map (·.size) = some 1553 := by kernel_rfl
section
variable {W : Nat} {s : Ts} {v : Rv}
set_option maxRecDepth 20000 in
theorem reset_c (w : World) (h : Wm w W s v) (he : Er w) (hW : 3 ≤ W) : Calls Tryd.prog 10 #[.pointer (some ⟨W, 0, none⟩)] w fun e w' => Wp W t0 v0 w e w' := by
  obtain ⟨f, hf, _⟩ := h.ex
  have hz := nf_cells
  have hs := cz_size nf
  have h1 := nf_one
  have hg : ∀ (i : Nat), i < 1553 → (cz nf)[i]? = some (nf i) := fun i hi => cz_at nf hi
  have hcz : ∀ g, (∀ i, i < 1553 → g i = nf i) → cz g = cz nf := fun g hg => cz_congr hg
  obtain ⟨Z, hZ⟩ : ∃ Z, cz nf = Z := ⟨_, rfl⟩
  rw [hZ] at hz hs h1
  simp only [hZ] at hg hcz
  have A : Aside (Er w ∧ 3 ≤ W ∧ cz nf = Z ∧ (∀ (i : Nat), i < 1553 → Z[i]? = some (nf i)) ∧ (∀ g, (∀ i, i < 1553 → g i = nf i) → cz g = Z)) := ⟨he, hW, hZ, hg, hcz⟩
  clear h he hW hZ hg hcz
  go_enter Tryd.func10, Tryd.ntmps10
  go_wp2_with (refine wpList_store_mid rfl 64 (.tmp 6) (.tmp 5) rfl W 0 Z (by rfl) (by rfl) f hf (by rw [hs]; exact size64) (by rw [hs]; omega) h1 ?_; intro w3 f3 hm)
  first | go_end0 | (refine bodyPost_ret (results_none rfl _ _ _) rfl ?_)
  have a0 := A.out
  have e : cz f3 = Z := a0.2.2.2.2 f3 fun i hi => by
    have := hm.new i (nf i) (by rw [Array.getElem?_toList]; exact a0.2.2.2.1 i hi)
    rw [Nat.zero_add] at this
    exact this
  have bb : But W w w3 := But.of_only hm.only
  refine ⟨rfl, ⟨nf, ?_, nf_wf⟩, bb, a0.1.but bb a0.2.1⟩
  rw [a0.2.2.1, ← e]
  exact hm.cells
end
theorem nil_end (w : World) : Calls Tryd.prog 14 #[.pointer none] w fun e w' => e = .returned (.tuple #[]) ∧ w' = w := by
  have ho : Calls Tryd.prog 24 #[.pointer none] w fun e w' => e = .returned (.bool false) ∧ w' = w := by
    go_enter Tryd.func24, Tryd.ntmps24
    go_wp2_with fail
    go_ret
    exact ⟨rfl, rfl⟩
  go_enter Tryd.func14, Tryd.ntmps14
  go_wp2_with (go_at_call 24; refine ho.mono ?_; rintro e1 w1 ⟨rfl, rfl⟩)
  first | go_end0 | (refine bodyPost_ret (results_none rfl _ _ _) rfl ?_)
  exact ⟨rfl, rfl⟩
theorem nil_reset (w : World) : Calls Tryd.prog 10 #[.pointer none] w fun e w' => e = .returned (.tuple #[]) ∧ w' = w := by
  go_enter Tryd.func10, Tryd.ntmps10
  go_wp2_with fail
  first | go_end0 | (refine bodyPost_ret (results_none rfl _ _ _) rfl ?_)
  exact ⟨rfl, rfl⟩
theorem nil_reason (w : World) : Calls Tryd.prog 13 #[.pointer none] w fun e w' => e = .returned (.int .i64 0) ∧ w' = w := by
  go_enter Tryd.func13, Tryd.ntmps13
  go_wp2_with fail
  go_ret
  exact ⟨rfl, rfl⟩
set_option maxRecDepth 20000 in
theorem nil_next (w : World) : Calls Tryd.prog 15 #[.pointer none] w fun e w' => e = .returned (.tuple #[.agg ev0, .bool false]) ∧ Below w.heap.size w w' := by
  obtain ⟨H, hH⟩ : ∃ H, w.heap.size = H := ⟨_, rfl⟩
  have hC := Cells.new w ev0 36
  rw [hH] at hC ⊢
  have hbel : Below H w (w.alloc (.cells ev0 36)) := by rw [← hH]; exact (Below.refl _ w).alloc (Nat.le_refl _) _
  obtain ⟨w1, hw1⟩ : ∃ w1, w.alloc (.cells ev0 36) = w1 := ⟨_, rfl⟩
  rw [hw1] at hC hbel
  have d0 : w1.cell? ⟨H, 0, none⟩ = some (.int .i64 0) := by rw [hC.cell]; rfl
  have d1 : w1.cell? ⟨H, 1, none⟩ = some (.int .u8 0) := by rw [hC.cell]; rfl
  have d2 : w1.cell? ⟨H, 2, none⟩ = some (.int .i64 0) := by rw [hC.cell]; rfl
  have d3 : w1.cell? ⟨H, 3, none⟩ = some (.int .i64 0) := by rw [hC.cell]; rfl
  have d4 : w1.cell? ⟨H, 4, none⟩ = some (.string ⟨#[]⟩) := by rw [hC.cell]; rfl
  have z0 := hC.frozen 0
  have z1 := hC.frozen 1
  have z2 := hC.frozen 2
  have z3 := hC.frozen 3
  have z4 := hC.frozen 4
  have A : Aside (Cells w1 H ev0 36 ∧ Below H w w1) := ⟨hC, hbel⟩
  clear hC hbel
  unfold ev0 at hw1
  go_enter Tryd.func15, Tryd.ntmps15
  go_upto_region 1 with fail
  clear hw1
  go_wp2_with fail
  (try simp only [Exit.inBlock, Exit.then])
  have hC2 := set5 A.out.1 (.int .i64 0) (.int .u8 0) (.int .i64 0) (.int .i64 0) (.string ⟨#[]⟩)
  have o2 := only_five H w1 (.int .i64 0) (.int .u8 0) (.int .i64 0) (.int .i64 0) (.string ⟨#[]⟩)
  refine bodyPost_ret (v := .tuple #[.agg ev0, .bool false]) ?_ rfl ?_
  · rw [results_cell_tmp rfl]
    simp [asAddr, Result.andThen, ret36 hC2 rfl, ev0, ev5]
  · exact ⟨rfl, A.out.2.trans (o2.below (Nat.le_refl _))⟩
end Go.Proofs.YtcmmjbkgoafbnaaDoor

/-
  The walker with what is pending: what Put, Next, End and Reason come to.
-/
namespace Go.Proofs.YtcmmjbkgoafbnaaDoor
open Go.RowKit
set_option linter.unusedVariables false
set_option linter.unusedSimpArgs false
def gk1 (g : Nat) : Int := if g = 256 then 1 else if g = 257 then 3 else 2
def gk2 (g : Nat) : Int := if g < 256 then (g : Int) else 0
def gk3 (g : Nat) : Int := if g = 256 then 2 else 0
def gevv (g : Nat) (nm : List Nat) : Array Value := #[.int .i64 (gk1 g), .int .u8 (gk2 g), .int .i64 (gk3 g), .int .i64 0, .string (st nm)]
/-- What is pending, as it lies. -/
def rv : List Evn → Rv
  | [] => v0
  | e :: r => ⟨gk1 e.1, gk2 e.1, gk3 e.1, e.2, !r.isEmpty, false⟩
theorem gk1_ne (g : Nat) : gk1 g ≠ 0 := by unfold gk1; split <;> (try split) <;> decide
theorem rv_next {e : Evn} {E : List Evn} (h : Tfo (e :: E)) : vnx (rv (e :: E)) = rv E := by
  rcases (tfo_next h).2.2.2 with rfl | rfl
  · rfl
  · rfl
theorem vbeg_no {us z : Nat} {v : Rv} (h : us ≠ 1) : vbeg us z v = v := by
  unfold vbeg vcl
  rw [if_neg h]
  split <;> rfl
theorem vopn_rv (n : List Nat) (z : Nat) (s : Ts) : vbeg 1 z (vopn n v0) = rv ((256, n) :: (tbeg 1 z s).2) := by
  unfold vbeg tbeg
  split
  · rfl
  · rfl
theorem vhd_rv (s : Ts) : vhd s v0 = rv (thead s).2 := by
  unfold vhd thead
  split
  · rfl
  · split
    · rfl
    · split
      · rename_i h; rw [h]; rfl
      · rename_i z h
        rw [h]
        simp only
        split
        · rfl
        · by_cases ho : town (tkd s.B) = true
          · rw [if_pos ho]
            unfold vent topn tsz
            rw [if_pos ho]
            have hu : tus (tkd s.B) = if tisf (tkd s.B) then 1 else 0 := by
              unfold town at ho
              simp only [Bool.and_eq_true, bne_iff_ne, ne_eq] at ho
              unfold tus
              rw [if_neg ho.1.1.1, if_neg ho.1.1.2]
            rw [hu]
            by_cases hf : tisf (tkd s.B) = true
            · rw [if_pos hf, if_pos hf, if_pos hf]
              exact vopn_rv _ _ _
            · rw [if_neg hf, if_neg hf, if_neg hf, vbeg_no (by decide)]
              show v0 = rv ([] ++ _)
              rw [tbeg_ev (by decide)]; rfl
          · rw [if_neg ho]
            have hc : tkd s.B = 76 ∨ tkd s.B = 120 ∨ tkd s.B = 75 ∨ tkd s.B = 103 := by
              unfold town at ho
              by_cases q1 : tkd s.B = 76
              · exact Or.inl q1
              · by_cases q2 : tkd s.B = 120
                · exact Or.inr (Or.inl q2)
                · by_cases q3 : tkd s.B = 75
                  · exact Or.inr (Or.inr (Or.inl q3))
                  · by_cases q4 : tkd s.B = 103
                    · exact Or.inr (Or.inr (Or.inr q4))
                    · simp [q1, q2, q3, q4] at ho
            have hu : tus (tkd s.B) ≠ 1 := by rcases hc with e | e | e | e <;> rw [e] <;> decide
            have hf : tisf (tkd s.B) = false := by rcases hc with e | e | e | e <;> rw [e] <;> rfl
            rw [vbeg_no hu]
            unfold topn
            show v0 = rv ((if tisf (tkd s.B) = true then [(256, s.nm.getD (tnm s.B))] else []) ++ (tbeg (tus (tkd s.B)) _ _).2)
            rw [if_neg (by rw [hf]; decide), tbeg_ev hu]; rfl
theorem vdt_rv (x : Nat) (s : Ts) (hx : x < 256) : vdt x s v0 = rv (tdat x s).2 := by
  have h1 : vbyt x v0 = rv [(x, [])] := by
    unfold rv vbyt gk1 gk2 gk3
    simp only
    rw [if_neg (by omega), if_neg (by omega), if_pos hx, if_neg (by omega)]; rfl
  have h2 : ({ vbyt x v0 with cl := true } : Rv) = rv [(x, []), (257, [])] := by rw [h1]; rfl
  unfold vdt tdat tbt tcl vcl
  by_cases hl : s.lf = 1
  · rw [if_pos hl, if_pos hl]
    by_cases hu : s.us = 1
    · rw [if_pos hu, if_pos hu]; simp only [if_pos hu]; exact h2
    · rw [if_neg hu, if_neg hu]; simp only [if_neg hu]; rfl
  · rw [if_neg hl, if_neg hl]
    by_cases hu : s.us = 1
    · rw [if_pos hu]; simp only [if_pos hu]; exact h1
    · rw [if_neg hu]; simp only [if_neg hu]; rfl
theorem vpu_rv (s : Ts) (x : Nat) (hx : x < 256) : vpu s x v0 = rv (tput s x).2 := by
  unfold vpu tput
  split
  · split
    · exact vhd_rv _
    · rfl
  · split
    · exact vdt_rv x _ hx
    · rfl
/-- The walker between calls: E is pending. -/
structure Wz (w : World) (W : Nat) (s : Ts) (E : List Evn) : Prop where
  wm : Wm w W s (rv E)
  ok : Tod s
  er : Er w
  hW : 3 ≤ W
  fo : Tfo E
/-- The walker when it has ended. -/
structure We (w : World) (W : Nat) (s : Ts) : Prop where
  wm : Wm w W s { v0 with ed := true }
/-- What is told in the end. -/
def zfin (s : Ts) : Nat := if s.why ≠ 0 then s.why else if twhl s then 0 else 1
section
variable {w u : World} {W : Nat} {s s1 : Ts} {E : List Evn}
theorem Wz.lt (h : Wz w W s E) : W < w.heap.size := h.wm.lt
theorem Wz.below (h : Wz w W s E) {C : Nat} (k : Below C w u) (hC : w.heap.size ≤ C) : Wz u W s E := ⟨h.wm.below k (by have := h.lt; omega), h.ok, h.er.below k (by have := h.er.1; omega), h.hW, h.fo⟩
theorem Wz.drewN (h : Wz w W s E) (n : Nat) : Wz (w.drewN n) W s E := ⟨h.wm.drewN n, h.ok, h.er.drewN n, h.hW, h.fo⟩
/-- Where what may have turned is another block. -/
theorem Wz.keep (h : Wz w W s E) (hs : w.heap.size ≤ u.heap.size) (k : ∀ i, i < 3 ∨ i = W → u.heap[i]? = w.heap[i]?) : Wz u W s E := by
  refine ⟨h.wm.keep (k W (Or.inr rfl)), h.ok, ?_, h.hW, h.fo⟩
  obtain ⟨h0, t1, x1, t2, x2, h1, h2⟩ := h.er
  exact ⟨Nat.le_trans h0 hs, t1, x1, t2, x2, by rw [World.cell?_of_block (w := w) (k 1 (by show 1 < 3 ∨ _; omega))]; exact h1, by rw [World.cell?_of_block (w := w) (k 2 (by show 2 < 3 ∨ _; omega))]; exact h2⟩
theorem Wz.low (h : Wz w W s E) {C : Nat} (k : Below C w u) (hC : W < C) : Wz u W s E := h.keep k.size fun i hi => k.block i (by have := h.hW; omega)
theorem wz_put (x : Nat) (hx : x < 256) (w : World) (h : Wz w W s []) (h0 : s.why = 0) (hs : Sp s x s1 E) : Calls Tryd.prog 9 #[.pointer (some ⟨W, 0, none⟩), .int .u8 (x : Int)] w fun e w' => e = .returned (.bool true) ∧ Wz w' W s1 E ∧ But W w w' := by
  have := put_yes x w h.wm h.ok (by unfold vop; rw [h0]; rfl) h0 h.er h.hW hx
  refine this.mono fun e w' k => ⟨k.re, ⟨?_, ?_, k.er, h.hW, ?_⟩, k.bu⟩
  · rw [hs.1, hs.2, ← vpu_rv s x hx]; exact k.wm
  · rw [hs.1]; exact h.ok.put hx
  · rw [hs.2]; exact tput_form s x hx
theorem wz_put_no (x : Nat) (w : World) (h : Wz w W s E) (h0 : E ≠ [] ∨ s.why ≠ 0) : Calls Tryd.prog 9 #[.pointer (some ⟨W, 0, none⟩), .int .u8 (x : Int)] w fun e w' => e = .returned (.bool false) ∧ w = w' := by
  refine (put_no x w h.wm ?_).mono fun e w' k => ⟨k.1, k.2.symm⟩
  unfold vop
  rcases h0 with h0 | h0
  · cases E with
    | nil => exact absurd rfl h0
    | cons e r => rw [decide_eq_false (show ¬ (rv (e :: r)).ek = 0 from gk1_ne e.1)]; rfl
  · rw [decide_eq_false h0]; simp
theorem wz_next (e : Evn) (w : World) (h : Wz w W s (e :: E)) : Calls Tryd.prog 15 #[.pointer (some ⟨W, 0, none⟩)] w fun x w' => x = .returned (.tuple #[.agg (gevv e.1 e.2), .bool true]) ∧ Wz w' W s E ∧ But W w w' := by
  refine (next_yes w h.wm (gk1_ne e.1)).mono fun x w' k => ⟨k.1, ⟨?_, h.ok, h.er.but k.2.2 h.hW, h.hW, (tfo_next h.fo).1⟩, k.2.2⟩
  rw [← rv_next h.fo]; exact k.2.1
theorem wz_next_no (w : World) (h : Wz w W s []) : Calls Tryd.prog 15 #[.pointer (some ⟨W, 0, none⟩)] w fun x w' => x = .returned (.tuple #[.agg ev0, .bool false]) ∧ Wz w' W s [] ∧ Below w.heap.size w w' :=
  (next_no w h.wm rfl).mono fun x w' k => ⟨k.1, h.below k.2 (Nat.le_refl _), k.2⟩
theorem wz_reason (w : World) (h : Wz w W s E) : Calls Tryd.prog 13 #[.pointer (some ⟨W, 0, none⟩)] w fun e w' => e = .returned (.int .i64 (s.why : Int)) ∧ w = w' := reason_c w h.wm
theorem wz_end (w : World) (h : Wz w W s []) : Calls Tryd.prog 14 #[.pointer (some ⟨W, 0, none⟩)] w fun e w' => e = .returned (.tuple #[]) ∧ (∃ s2 v2, Wm w' W s2 v2 ∧ s2.why = zfin s ∧ v2.ek = 0 ∧ vop s2 v2 = false) ∧ But W w w' := by
  by_cases h0 : s.why = 0
  · refine (end_yes w h.wm (by unfold vop; rw [h0]; rfl) h.er h.hW).mono fun e w' k => ⟨k.re, ⟨_, _, k.wm, ?_, rfl, ?_⟩, k.bu⟩
    · have hz : zfin s = if twhl s then 0 else 1 := by unfold zfin; rw [if_neg (fun q => q h0)]
      rw [hz]
      unfold tfn
      split
      · exact h0
      · rfl
    · unfold vop; simp
  · refine (end_no w h.wm (by unfold vop; rw [decide_eq_false h0]; simp)).mono fun e w' k => ⟨k.1, ⟨s, rv [], ?_, ?_, rfl, ?_⟩, ?_⟩
    · rw [k.2]; exact h.wm
    · unfold zfin; rw [if_pos h0]
    · unfold vop; rw [decide_eq_false h0]; simp
    · rw [k.2]; exact But.refl _ _
theorem wz_new (w : World) (he : Er w) : Calls Tryd.prog 8 #[] w fun e w' => e = .returned (.pointer (some ⟨w.heap.size, 0, none⟩)) ∧ Wz w' w.heap.size t0 [] ∧ Below w.heap.size w w' :=
  (new_c w).mono fun e w' k => ⟨k.1, ⟨k.2.1, tod0, he.below k.2.2 he.1, he.1, tfo_nil⟩, k.2.2⟩
theorem wz_reset (w : World) (h : Wz w W s E) : Calls Tryd.prog 10 #[.pointer (some ⟨W, 0, none⟩)] w fun e w' => e = .returned (.tuple #[]) ∧ Wz w' W t0 [] ∧ But W w w' :=
  (reset_c w h.wm h.er h.hW).mono fun e w' k => ⟨k.re, ⟨k.wm, tod0, k.er, h.hW, tfo_nil⟩, k.bu⟩
end
end Go.Proofs.YtcmmjbkgoafbnaaDoor

/-
  Lists of lists of bytes, of the call's own: the members as they are gathered.
-/
namespace Go.Proofs.YtcmmjbkgoafbnaaDoor
open Go.RowKit
set_option linter.unusedVariables false
theorem ginfo22 : (Tryd.prog.info? 22).map (fun i => (i.zero, i.size, i.bytes)) = some (some (.slice none 0 0), 1, 24) := by kernel_rfl
/-- Parts out of signs. -/
def po : List (List Nat) → List Nat → List (List Nat)
  | ls, [] => ls
  | ls, g :: r => if g = 256 then po (ls ++ [[]]) r else if g = 257 then po ls r else po (ls.dropLast ++ [ls.getLastD [] ++ [g]]) r
/-- Bytes come behind an open part alone. -/
def Gd : Bool → List Nat → Prop
  | _, [] => True
  | i, g :: r => if g = 256 then Gd true r else if g = 257 then Gd i r else i = true ∧ Gd i r
theorem po_append (ls : List (List Nat)) (a b : List Nat) : po ls (a ++ b) = po (po ls a) b := by
  induction a generalizing ls with
  | nil => rfl
  | cons g r ih =>
    simp only [List.cons_append, po]
    split
    · exact ih _
    · split
      · exact ih _
      · exact ih _
/-- A list of lists of bytes, of the call's own, in blocks from lo on; the last one's block is no other one's. -/
structure Ll (w : World) (lo : Nat) (v : Value) (ls : List (List Nat)) : Prop where
  ex : ∃ vs : List Value, vs.length = ls.length ∧ Ow w lo 22 1 v ls.length vs ∧ (∀ (i : Nat) (a : Value) (l : List Nat), vs[i]? = some a → ls[i]? = some l → Ow w lo 5 1 a l.length (ob l)) ∧ ∀ (i : Nat) (a z : Value), vs[i]? = some a → i + 1 < vs.length → vs.getLast? = some z → ∀ g, a.ownBlock = some g → z.ownBlock ≠ some g
theorem Ll.nil {w : World} {lo : Nat} (h : lo ≤ w.heap.size) : Ll w lo (.slice none 0 0) [] := ⟨[], rfl, Ow.nil h, fun i a l h => by simp at h, fun i a z h => by simp at h⟩
theorem Ll.keep {w u : World} {lo : Nat} {v : Value} {ls : List (List Nat)} (h : Ll w lo v ls) (hs : w.heap.size ≤ u.heap.size) (k : ∀ g, lo ≤ g → g < w.heap.size → (∃ cs e fr, w.heap[g]? = some (.cells cs e fr) ∧ (e = 5 ∨ e = 22)) → u.heap[g]? = w.heap[g]?) : Ll u lo v ls := by
  obtain ⟨vs, h1, h2, h3, h4⟩ := h.ex
  exact ⟨vs, h1, h2.keep hs (fun g a b ⟨cs, fr, c⟩ => k g a b ⟨cs, 22, fr, c, Or.inr rfl⟩), fun i a l ha hl => (h3 i a l ha hl).keep hs (fun g a b ⟨cs, fr, c⟩ => k g a b ⟨cs, 5, fr, c, Or.inl rfl⟩), h4⟩
theorem Ll.below {w u : World} {lo C : Nat} {v : Value} {ls : List (List Nat)} (h : Ll w lo v ls) (k : Below C w u) (hC : w.heap.size ≤ C) : Ll u lo v ls := h.keep k.size fun g _ h2 _ => k.block g (by omega)
theorem Ll.drewN {w : World} {lo : Nat} {v : Value} {ls : List (List Nat)} (h : Ll w lo v ls) (n : Nat) : Ll (w.drewN n) lo v ls := h.keep (Nat.le_refl _) fun _ _ _ _ => rfl
theorem Ll.but {w u : World} {lo M : Nat} {v : Value} {ls : List (List Nat)} {cs : Array Value} {t : TypeId} (h : Ll w lo v ls) (k : But M w u) (hM : Cells w M cs t) (ht : t ≠ 5 ∧ t ≠ 22) : Ll u lo v ls := h.keep k.size fun g _ h2 ⟨cs', e, fr, hc, he⟩ => k.block g h2 (fun e2 => by
  subst e2
  unfold Cells at hM
  rw [hM] at hc
  cases hc
  rcases he with rfl | rfl
  · exact ht.1 rfl
  · exact ht.2 rfl)
theorem Ll.le {w : World} {lo : Nat} {v : Value} {ls : List (List Nat)} (h : Ll w lo v ls) : lo ≤ w.heap.size := by obtain ⟨vs, _, h2, _⟩ := h.ex; exact h2.le
theorem Ll.shape {w : World} {lo : Nat} {v : Value} {ls : List (List Nat)} (h : Ll w lo v ls) : ∃ a c, v = .slice a ls.length c ∧ ls.length ≤ c := by
  obtain ⟨vs, _, h2, _⟩ := h.ex
  obtain ⟨a, c, hv, hc, _⟩ := h2.shape
  exact ⟨a, c, hv, hc⟩
/-- One more part. -/
theorem Ll.open_ {w u : World} {lo : Nat} {v v' : Value} {ls : List (List Nat)} (h : Ll w lo v ls) (vs : List Value) (k : Got lo 22 1 w u v v' (ls.length + 1) (vs ++ [.slice none 0 0])) (hvs : vs.length = ls.length) (h3 : ∀ (i : Nat) (a : Value) (l : List Nat), vs[i]? = some a → ls[i]? = some l → Ow w lo 5 1 a l.length (ob l)) : Ll u lo v' (ls ++ [[]]) := by
  refine ⟨vs ++ [.slice none 0 0], by simp [hvs], by simpa using k.ow, fun i a l ha hl => ?_, fun i a z ha hi hz g hg => ?_⟩
  · by_cases hlt : i < vs.length
    · rw [List.getElem?_append_left hlt] at ha
      rw [List.getElem?_append_left (by omega)] at hl
      exact (h3 i a l ha hl).got k (by decide)
    · have hi : i = vs.length := by
        have := (List.getElem?_eq_some_iff.1 ha).1
        simp at this
        omega
      subst hi
      rw [List.getElem?_append_right (by omega)] at ha
      rw [List.getElem?_append_right (by omega)] at hl
      simp [hvs] at ha hl
      subst hl
      rw [← ha]
      exact Ow.nil k.ow.le
  · rw [List.getLast?_append] at hz
    simp at hz
    rw [← hz]
    simp [Value.ownBlock]
theorem Ow.keep1 {w u : World} {lo sz n : Nat} {e : TypeId} {v : Value} {l : List Value} (h : Ow w lo e sz v n l) (hs : w.heap.size ≤ u.heap.size) (k : ∀ g, v.ownBlock = some g → u.heap[g]? = w.heap[g]?) : Ow u lo e sz v n l := by
  refine ⟨⟨h.own.1, ?_⟩, Nat.le_trans h.le hs⟩
  rcases h.own.2 with q | ⟨g, c, cur, hv, hg, hh, q⟩
  · exact Or.inl q
  · exact Or.inr ⟨g, c, cur, hv, hg, (k g (by rw [hv]; rfl)).trans hh, q⟩
/-- What an append to the last part's bytes comes to, ahead of its being laid back. -/
structure Gob (lo : Nat) (w w' : World) (a a' : Value) (n : Nat) (l : List Nat) : Prop where
  got : Got lo 5 1 w w' a a' n (ob l)
  blk : ∀ g, a'.ownBlock = some g → a.ownBlock = some g ∨ g = w.heap.size
theorem Ow.set_at {w : World} {lo n i g : Nat} {e : TypeId} {a : Option Addr} {c : Nat} {xs : List Value} (h : Ow w lo e 1 (.slice (some ⟨g, 0, none⟩) n c) n xs) (x : Value) (hi : i < n) (h1 : x.oneCell' = true) : Ow (w.setCell ⟨g, i, none⟩ x) lo e 1 (.slice (some ⟨g, 0, none⟩) n c) n (xs.set i x) := by
  have hl := h.own.1
  refine ⟨⟨by simpa using hl, ?_⟩, by simpa [World.setCell] using h.le⟩
  rcases h.own.2 with ⟨hv, h0⟩ | ⟨g', c', cur, hv, hg, hh, hc, hm, hs, ht⟩
  · cases hv
  · cases hv
    refine Or.inr ⟨g, c, cur.setIfInBounds i x, rfl, hg, ?_, hc, hm, by simpa using hs, ?_⟩
    · simp [World.setCell, Array.getElem?_modify, hh]
    · rw [Array.toList_setIfInBounds, List.take_set, ht]
theorem Ll.byte {w u : World} {lo n g c x : Nat} {ls : List (List Nat)} {l : List Nat} {vs : List Value} {a a' : Value} (h : Ll w lo (.slice (some ⟨g, 0, none⟩) (n + 1) c) ls) (hls : ls.length = n + 1) (hvs : vs.length = n + 1) (hl : ls[n]? = some l)
    (h2 : Ow w lo 22 1 (.slice (some ⟨g, 0, none⟩) (n + 1) c) (n + 1) vs) (h3 : ∀ (i : Nat) (a : Value) (l : List Nat), vs[i]? = some a → ls[i]? = some l → Ow w lo 5 1 a l.length (ob l)) (h4 : ∀ (i : Nat) (a z : Value), vs[i]? = some a → i + 1 < vs.length → vs.getLast? = some z → ∀ g, a.ownBlock = some g → z.ownBlock ≠ some g)
    (ha : vs[n]? = some a) (k : Gob lo w u a a' (l.length + 1) (l ++ [x])) (h1 : a'.oneCell' = true) : Ll (u.setCell ⟨g, n, none⟩ a') lo (.slice (some ⟨g, 0, none⟩) (n + 1) c) (ls.dropLast ++ [l ++ [x]]) := by
  have hlast : vs.getLast? = some a := by rw [List.getLast?_eq_getElem?, hvs, Nat.add_sub_cancel, ha]
  have hu := h2.got k.got (by decide)
  have hset := Ow.set_at (a := none) hu a' (i := n) (by omega) h1
  have kg : ∃ cs, u.heap[g]? = some (.cells cs 22 (0, 0)) := by
    rcases hu.own.2 with ⟨hv, h0⟩ | ⟨g', c', cur, hv, hg, hh, _⟩
    · cases hv
    · cases hv; exact ⟨_, hh⟩
  obtain ⟨cg, hcg⟩ := kg
  have hdl : ls.dropLast.length = n := by simp [hls]
  refine ⟨vs.set n a', by simp [hvs, hls], by simpa [hls] using hset, fun i b m hb hm => ?_, fun i b z hb hi hz gb hgb => ?_⟩
  · by_cases hin : i = n
    · rw [hin, List.getElem?_set_self (by omega)] at hb
      rw [hin, List.getElem?_append_right (by omega), hdl] at hm
      simp at hb hm
      subst hb hm
      have := k.got.ow.set (i := n) (x := a') (b := g) (cs := cg) (t := 22) hcg (by decide)
      simpa using this
    · rw [List.getElem?_set_ne (Ne.symm hin)] at hb
      have hilt : i < n := by have := (List.getElem?_eq_some_iff.1 hb).1; omega
      rw [List.getElem?_append_left (by omega), List.getElem?_dropLast, if_pos (by omega)] at hm
      have ho := h3 i b m hb hm
      refine (ho.keep1 k.got.size (fun gg hgg => ?_)).set (b := g) (cs := cg) (t := 22) hcg (by decide)
      exact k.got.kb gg (ho.lt_block hgg).2 (fun e => h4 i b a hb (by omega) hlast gg hgg e.symm)
  · rw [List.length_set] at hi
    have hin : i ≠ n := by omega
    rw [List.getElem?_set_ne (Ne.symm hin)] at hb
    have hz2 : z = a' := by
      rw [List.getLast?_eq_getElem?, List.length_set, hvs, Nat.add_sub_cancel, List.getElem?_set_self (by omega)] at hz
      simpa using hz.symm
    rw [hz2]
    intro e
    have hilt : i < n := by omega
    obtain ⟨m, hm⟩ : ∃ m, ls[i]? = some m := ⟨_, List.getElem?_eq_getElem (by omega)⟩
    rcases k.blk gb e with h5 | h5
    · exact h4 i b a hb (by omega) hlast gb hgb h5
    · have := ((h3 i b m hb hm).lt_block hgb).2
      omega
theorem step_gob {w : World} {ops : Array Oper} {o : Oper} {a : Act} {K : Act → World → Prop} {Q : Exit → Act → World → Prop} {E : Prop} (hgd : o.guard = none) (s x : Operand)
    (ho : o.op = .call { callee := .builtin .append, args := #[s, x], argTypes := #[22, 22] }) (lo : Nat) (v : Value) (k : Nat) (l : List Nat) (hs : a.eval s = v) (hown : Ow w lo 5 1 v k (ob l)) (hk : l.length = k)
    (b c y : Nat) (hx : a.eval x = .slice (some ⟨b, 0, none⟩) 1 c) (hl : w.cell? ⟨b, 0, none⟩ = some (.int .u8 (y : Int))) (hlen : k + 1 ≤ 140737488355328)
    (h : ∀ g cap w', Gob lo w w' v (.slice (some ⟨g, 0, none⟩) (k + 1) cap) (k + 1) (l ++ [y]) → K (a.put o.dst (.slice (some ⟨g, 0, none⟩) (k + 1) cap)) w') :
    if Region.wanted o (yielded ops a.tmps) = true then Oper.wp Tryd.prog o a w K Q else E := by
  obtain ⟨i, hi, hz0, hz1, hz2⟩ := ginfo_parts ginfo5
  refine step_append_lies w hgd s x 22 ho lo 5 i _ 1 1 Tryd.underlying22 hi hz0 hz1 hz2 rfl (by decide) v _ _ hs hown.own ⟨b, 0, none⟩ 1 c (ob [y]) hx (by rfl) (fun j u hj => ?_) ob_one (by decide) (by unfold maxLen; omega) (by omega) hown.le _ rfl fun g cap w' h2 h3 h4 _ => h g cap w' ⟨?_, ?_⟩
  · cases j with
    | zero => simp [ob] at hj; rw [← hj, addr_add]; exact hl
    | succ j => simp [ob] at hj
  · have := Got.mk' hown h2 h3
    rw [ob_append] at this
    exact this
  · intro g' hg'
    simp [Value.ownBlock] at hg'
    subst hg'
    exact h4
end Go.Proofs.YtcmmjbkgoafbnaaDoor

/-
  What Whole's loops stand at. No walk.
-/
namespace Go.Proofs.YtcmmjbkgoafbnaaDoor
open Go.RowKit
set_option linter.unusedVariables false
/-- What is gathered, what is still to come, and what is answered in the end. -/
structure Ms (ns ls : List (List Nat)) (L : Nat) (fut : List Evn) (R0 : List (List Nat) × List (List Nat)) : Prop where
  res : po2 ns ls fut = R0
  gd : Gd2 (decide (ls ≠ [])) fut
  lt : ∀ e ∈ fut, e.1 < 258
  no : ls.length + nop fut ≤ L
  each : ∀ l ∈ ls, l.length + nbe fut ≤ L
  tot : nbe fut ≤ L
  eqn : ns.length = ls.length
section
variable {ns ls : List (List Nat)} {L : Nat} {e : Evn} {fut : List Evn} {R0 : List (List Nat) × List (List Nat)}
theorem Ms.open_ (h : Ms ns ls L (e :: fut) R0) (he : e.1 = 256) : Ms (ns ++ [e.2]) (ls ++ [[]]) L fut R0 := by
  have h1 := h.res
  rw [po2, if_pos he] at h1
  have hb : nbe (e :: fut) = nbe fut := by simp only [nbe]; rw [if_neg (by omega)]; omega
  refine ⟨h1, ?_, fun c hc => h.lt c (List.mem_cons_of_mem _ hc), ?_, fun l hl => ?_, by have := h.tot; rw [hb] at this; exact this, by simp [h.eqn]⟩
  · have : decide (ls ++ [[]] ≠ []) = true := by simp
    rw [this]; exact gd2_true _
  · have := h.no
    simp only [nop, he, if_true, List.length_append, List.length_singleton] at this ⊢
    omega
  · rcases List.mem_append.1 hl with q | q
    · have := h.each l q; rw [hb] at this; exact this
    · rw [List.mem_singleton.1 q]; have := h.tot; rw [hb] at this; simpa using this
theorem Ms.close (h : Ms ns ls L (e :: fut) R0) (he : e.1 = 257) : Ms ns ls L fut R0 := by
  have h1 := h.res
  rw [po2, if_neg (by omega), if_pos he] at h1
  have hb : nbe (e :: fut) = nbe fut := by simp only [nbe]; rw [if_neg (by omega)]; omega
  have hn : nop (e :: fut) = nop fut := by simp only [nop]; rw [if_neg (by omega)]; omega
  refine ⟨h1, ?_, fun c hc => h.lt c (List.mem_cons_of_mem _ hc), by have := h.no; rw [hn] at this; exact this, fun l hl => by have := h.each l hl; rw [hb] at this; exact this, by have := h.tot; rw [hb] at this; exact this, h.eqn⟩
  have := h.gd
  unfold Gd2 at this
  rw [if_neg (by omega), if_pos he] at this
  exact this
theorem Ms.ne (h : Ms ns ls L (e :: fut) R0) (hg : e.1 < 256) : ls ≠ [] := by
  have := h.gd
  unfold Gd2 at this
  rw [if_neg (by omega), if_neg (by omega)] at this
  simpa using this.1
theorem Ms.byte (h : Ms ns ls L (e :: fut) R0) (hg : e.1 < 256) {l : List Nat} (hl : ls.getLastD [] = l) (hm : l ∈ ls) : Ms ns (ls.dropLast ++ [l ++ [e.1]]) L fut R0 := by
  have hne := h.ne hg
  have h1 := h.res
  rw [po2, if_neg (by omega), if_neg (by omega), hl] at h1
  have hb : nbe (e :: fut) = 1 + nbe fut := by simp only [nbe]; rw [if_pos hg]
  have hn : nop (e :: fut) = nop fut := by simp only [nop]; rw [if_neg (by omega)]; omega
  have hp := List.length_pos_iff.2 hne
  refine ⟨h1, ?_, fun c hc => h.lt c (List.mem_cons_of_mem _ hc), ?_, fun m hm' => ?_, by have := h.tot; omega, ?_⟩
  · have : decide (ls.dropLast ++ [l ++ [e.1]] ≠ []) = true := by simp
    rw [this]; exact gd2_true _
  · have := h.no
    simp only [List.length_append, List.length_singleton, List.length_dropLast] at this ⊢
    omega
  · rcases List.mem_append.1 hm' with q | q
    · have := h.each m (List.dropLast_subset _ q); omega
    · rw [List.mem_singleton.1 q, List.length_append, List.length_singleton]
      have := h.each l hm
      omega
  · have := h.eqn
    simp only [List.length_append, List.length_singleton, List.length_dropLast]
    omega
theorem Ms.nil (h : Ms ns ls L [] R0) : R0 = (ns, ls) := h.res.symm
end
/-- Names as values. -/
def sv (ns : List (List Nat)) : List Value := ns.map fun n => .string (st n)
theorem sv_length (ns : List (List Nat)) : (sv ns).length = ns.length := by simp [sv]
theorem sv_append (a b : List (List Nat)) : sv (a ++ b) = sv a ++ sv b := by simp [sv]
/-- A list of names, of the call's own. -/
def Ns (w : World) (lo : Nat) (v : Value) (ns : List (List Nat)) : Prop := Ow w lo 9 1 v ns.length (sv ns)
theorem Ns.nil {w : World} {lo : Nat} (h : lo ≤ w.heap.size) : Ns w lo (.slice none 0 0) [] := Ow.nil h
theorem Ns.keep {w u : World} {lo : Nat} {v : Value} {ns : List (List Nat)} (h : Ns w lo v ns) (hs : w.heap.size ≤ u.heap.size) (k : ∀ g, lo ≤ g → g < w.heap.size → (∃ cs fr, w.heap[g]? = some (.cells cs 9 fr)) → u.heap[g]? = w.heap[g]?) : Ns u lo v ns := Ow.keep h hs k
theorem Ns.below {w u : World} {lo C : Nat} {v : Value} {ns : List (List Nat)} (h : Ns w lo v ns) (k : Below C w u) (hC : w.heap.size ≤ C) : Ns u lo v ns := h.keep k.size fun g _ h2 _ => k.block g (by omega)
theorem Ns.only {w u : World} {lo M : Nat} {v : Value} {ns : List (List Nat)} {cs : Array Value} {t : TypeId} (h : Ns w lo v ns) (k : Only M w u) (hM : Cells w M cs t) (ht : t ≠ 9) : Ns u lo v ns := h.keep (Nat.le_of_eq k.size.symm) fun g _ h2 ⟨cs', fr, hc⟩ => k.block g fun e2 => by
  subst e2
  unfold Cells at hM
  rw [hM] at hc
  cases hc
  exact ht rfl
theorem Ns.butW {w u : World} {lo W : Nat} {v : Value} {ns : List (List Nat)} (h : Ns w lo v ns) (k : But W w u) (hW : W < lo) : Ns u lo v ns := h.keep k.size fun g h1 h2 _ => k.block g h2 (by omega)
theorem Ll.butW {w u : World} {lo W : Nat} {v : Value} {ls : List (List Nat)} (h : Ll w lo v ls) (k : But W w u) (hW : W < lo) : Ll u lo v ls := h.keep k.size fun g h1 h2 _ => k.block g h2 (by omega)
theorem Ll.only {w u : World} {lo M : Nat} {v : Value} {ls : List (List Nat)} {cs : Array Value} {t : TypeId} (h : Ll w lo v ls) (k : Only M w u) (hM : Cells w M cs t) (ht : t ≠ 5 ∧ t ≠ 22) : Ll u lo v ls := h.but (But.of_only k) hM ht
theorem Ns.got {w u : World} {lo lo2 n : Nat} {e : TypeId} {v a a' : Value} {ns : List (List Nat)} {xs : List Value} (h : Ns w lo v ns) (k : Got lo2 e 1 w u a a' n xs) (he : e ≠ 9) : Ns u lo v ns := Ow.got h k (Ne.symm he)
theorem Ll.got9 {w u : World} {lo lo2 n : Nat} {v a a' : Value} {ls : List (List Nat)} {xs : List Value} (h : Ll w lo v ls) (k : Got lo2 9 1 w u a a' n xs) : Ll u lo v ls := by
  obtain ⟨vs, h1, h2, h3, h4⟩ := h.ex
  exact ⟨vs, h1, h2.got k (by decide), fun i a l ha hl => (h3 i a l ha hl).got k (by decide), h4⟩
/-- What Whole answers. -/
structure Wr0 (R0 : List (List Nat) × List (List Nat)) (y : Nat) (w : World) (e : Ending) (w' : World) : Prop where
  ex : ∃ vn vl lo2, e = .returned (.tuple #[vn, vl, .int .i64 (y : Int)]) ∧ w.heap.size ≤ lo2 ∧ Ns w' lo2 vn R0.1 ∧ Ll w' lo2 vl R0.2 ∧ Below w.heap.size w w'
section
variable {W lo2 E E2 : Nat} {w wr wx w7 : World} {ek eb en ek2 eb2 en2 : Int} {nm nm2 : List Nat} {ok ok2 : Bool} {vn vl : Value} {ns ls : List (List Nat)} {s1 : Ts} {rem rem2 : List Evn} {L : Nat} {fut : List Evn} {R0 : List (List Nat) × List (List Nat)}
/-- The inner loop. -/
structure Gq (W lo2 E : Nat) (w wr : World) (ek eb en : Int) (nm : List Nat) (ok : Bool) (vn vl : Value) (ns ls : List (List Nat)) (s1 : Ts) (rem : List Evn) (L : Nat) (fut : List Evn) (R0 : List (List Nat) × List (List Nat)) : Prop where
  wz : Wz wr W s1 rem
  nn : Ns wr lo2 vn ns
  ll : Ll wr lo2 vl ls
  ev : Cells wr E #[.int .i64 ek, .int .u8 eb, .int .i64 en, .int .i64 0, .string (st nm)] 36
  bel : Below w.heap.size w wr
  le : lo2 ≤ E
  geo : w.heap.size ≤ W ∧ W < lo2
  st : (ok = false ∧ rem = [] ∧ Ms ns ls L fut R0) ∨ (ok = true ∧ ∃ g : Evn, ek = gk1 g.1 ∧ eb = gk2 g.1 ∧ nm = g.2 ∧ Ms ns ls L (g :: (rem ++ fut)) R0)
/-- Behind an event, ahead of the next. -/
structure Gu (W lo2 : Nat) (w wr : World) (vn vl : Value) (ns ls : List (List Nat)) (s1 : Ts) (rem : List Evn) (L : Nat) (fut : List Evn) (R0 : List (List Nat) × List (List Nat)) : Prop where
  wz : Wz wr W s1 rem
  nn : Ns wr lo2 vn ns
  ll : Ll wr lo2 vl ls
  bel : Below w.heap.size w wr
  geo : w.heap.size ≤ W ∧ W < lo2
  ms : Ms ns ls L (rem ++ fut) R0
theorem But.bel {M : Nat} {w u x : World} (h : But M u x) (k : Below w.heap.size w u) (hM : w.heap.size ≤ M) : Below w.heap.size w x := k.trans ⟨h.os, h.tape, h.output, h.size, fun i hi => h.block i (by have := k.size; omega) (by omega)⟩
/-- What Next answers, whatever is pending. -/
def NxC (W : Nat) (s1 : Ts) (rem : List Evn) (u : World) (ek eb en : Int) (nm : List Nat) (ok : Bool) (rem2 : List Evn) : Prop := (Calls Tryd.prog 15 #[.pointer (some ⟨W, 0, none⟩)] u fun e w' => e = .returned (.tuple #[.agg #[.int .i64 ek, .int .u8 eb, .int .i64 en, .int .i64 0, .string (st nm)], .bool ok]) ∧ Wz w' W s1 rem2 ∧ But W u w') ∧ ((ok = false ∧ rem = [] ∧ rem2 = []) ∨ (ok = true ∧ ∃ g : Evn, ek = gk1 g.1 ∧ eb = gk2 g.1 ∧ nm = g.2 ∧ rem = g :: rem2))
theorem next_all {u : World} (hz : Wz u W s1 rem) : ∃ ek eb en nm ok rem2, NxC W s1 rem u ek eb en nm ok rem2 := by
  cases rem with
  | nil => exact ⟨0, 0, 0, [], false, [], (wz_next_no u hz).mono fun e w' k => ⟨k.1, k.2.1, But.of_below k.2.2⟩, Or.inl ⟨rfl, rfl, rfl⟩⟩
  | cons e r => exact ⟨gk1 e.1, gk2 e.1, gk3 e.1, e.2, true, r, wz_next e u hz, Or.inr ⟨rfl, e, rfl, rfl, rfl, rfl⟩⟩
/-- The next event is laid into its place. -/
theorem Gu.next (h : Gu W lo2 w wx vn vl ns ls s1 rem L fut R0) (hE : wx.heap.size = E2) (hz : Wz w7 W s1 rem2) (hf : But W (wx.alloc (.cells #[.int .i64 ek, .int .u8 eb, .int .i64 en, .int .i64 0, .string (st nm)] 36)) w7) (hc : (ok2 = false ∧ rem = [] ∧ rem2 = []) ∨ (ok2 = true ∧ ∃ g : Evn, ek2 = gk1 g.1 ∧ eb2 = gk2 g.1 ∧ nm2 = g.2 ∧ rem = g :: rem2)) :
    Cells w7 E2 #[.int .i64 ek, .int .u8 eb, .int .i64 en, .int .i64 0, .string (st nm)] 36 ∧ Gq W lo2 E2 w (((((w7.setCell ⟨E2, 0, none⟩ (.int .i64 ek2)).setCell ⟨E2, 1, none⟩ (.int .u8 eb2)).setCell ⟨E2, 2, none⟩ (.int .i64 en2)).setCell ⟨E2, 3, none⟩ (.int .i64 0)).setCell ⟨E2, 4, none⟩ (.string (st nm2))) ek2 eb2 en2 nm2 ok2 vn vl ns ls s1 rem2 L fut R0 := by
  have bA : Below wx.heap.size wx (wx.alloc (.cells #[.int .i64 ek, .int .u8 eb, .int .i64 en, .int .i64 0, .string (st nm)] 36)) := (Below.refl _ wx).alloc (Nat.le_refl _) _
  have kA : Cells (wx.alloc (.cells #[.int .i64 ek, .int .u8 eb, .int .i64 en, .int .i64 0, .string (st nm)] 36)) E2 #[.int .i64 ek, .int .u8 eb, .int .i64 en, .int .i64 0, .string (st nm)] 36 := by rw [← hE]; exact Cells.new wx _ 36
  have hle := h.ll.le
  have geo := h.geo
  have k7 := hf.cells kA (by omega)
  have l7 := (h.ll.below bA (Nat.le_refl _)).butW hf geo.2
  have n7 := (h.nn.below bA (Nat.le_refl _)).butW hf geo.2
  have o8 := only_five E2 w7 (.int .i64 ek2) (.int .u8 eb2) (.int .i64 en2) (.int .i64 0) (.string (st nm2))
  refine ⟨k7, ⟨hz.low (o8.below (Nat.le_refl _)) (by omega), n7.only o8 k7 (by decide), l7.only o8 k7 ⟨by decide, by decide⟩, set5 k7 _ _ _ _ _, ?_, by omega, geo, ?_⟩⟩
  · exact (hf.bel (h.bel.trans (bA.mono h.bel.size)) geo.1).trans (o8.below (by omega))
  · rcases hc with ⟨h1, h2, h3⟩ | ⟨h1, g, h2, h3, h4, h5⟩
    · left
      have ms := h.ms
      rw [h2] at ms
      exact ⟨h1, h3, ms⟩
    · right
      have ms := h.ms
      rw [h5] at ms
      exact ⟨h1, g, h2, h3, h4, ms⟩
end
end Go.Proofs.YtcmmjbkgoafbnaaDoor

/-
  What the document's Rows and Strings come to.
-/
namespace Go.Proofs.YtcmmjbkgoafbnaaDoor
open Go.RowKit
set_option linter.unusedVariables false
def Dn (w u : World) : Prop := ∃ n, u = w.drewN n
theorem Dn.refl (w : World) : Dn w w := ⟨0, rfl⟩
theorem Dn.drewN {w u : World} (h : Dn w u) (n : Nat) : Dn w (u.drewN n) := by
  obtain ⟨m, rfl⟩ := h
  exact ⟨_, World.drewN_drewN _ _ _⟩
/-- A list of lists of bytes in memory. -/
def Rl (w : World) (a : Option Addr) (ls : List (List Nat)) : Prop := ls = [] ∨ ∃ g o, a = some ⟨g, o, none⟩ ∧ ∀ (i : Nat) (l : List Nat), ls[i]? = some l → ∃ a1 c1, w.cell? ⟨g, o + i, none⟩ = some (.slice a1 l.length c1) ∧ Lies w a1 l ∧ l.length ≤ c1 ∧ (a1 = none → l.length = 0 ∧ c1 = 0)
theorem Rl.below {w u : World} {a : Option Addr} {ls : List (List Nat)} (h : Rl w a ls) (k : Below w.heap.size w u) : Rl u a ls := by
  rcases h with h | ⟨g, o, ha, hx⟩
  · exact Or.inl h
  · refine Or.inr ⟨g, o, ha, fun i l hl => ?_⟩
    obtain ⟨a1, c1, h1, h2, h3⟩ := hx i l hl
    exact ⟨a1, c1, (k.cell (p := ⟨g, o + i, none⟩) (World.block_lt_of_cell? w _ h1)).trans h1, h2.below k, h3⟩
theorem Rl.drewN {w : World} {a : Option Addr} {ls : List (List Nat)} (h : Rl w a ls) (n : Nat) : Rl (w.drewN n) a ls := h
theorem Ll.at {w : World} {lo : Nat} {a : Option Addr} {n c : Nat} {ls : List (List Nat)} (h : Ll w lo (.slice a n c) ls) (hn : n = ls.length) {i : Nat} {l : List Nat} (hl : ls[i]? = some l) : ∃ g a1 c1, a = some ⟨g, 0, none⟩ ∧ w.cell? ⟨g, i, none⟩ = some (.slice a1 l.length c1) ∧ Lies w a1 l ∧ l.length ≤ c1 ∧ (a1 = none → l.length = 0 ∧ c1 = 0) := by
  obtain ⟨vs, h1, h2, h3, h4⟩ := h.ex
  have hi := (List.getElem?_eq_some_iff.1 hl).1
  obtain ⟨v, hv⟩ : ∃ v, vs[i]? = some v := ⟨_, List.getElem?_eq_getElem (by omega)⟩
  obtain ⟨a9, c9, h9, _, h10 | ⟨g, h10, _, _, h11, _⟩, _⟩ := h2.shape
  · omega
  cases h9
  obtain ⟨a1, c1, e1, e2, e3, e4, e5⟩ := (h3 i v l hv hl).lies
  subst e1
  exact ⟨g, a1, c1, h10, h11 i _ hv, e4, e3, e5⟩
theorem Ll.rl {w : World} {lo : Nat} {a : Option Addr} {n c : Nat} {ls : List (List Nat)} (h : Ll w lo (.slice a n c) ls) (hn : n = ls.length) : Rl w a ls := by
  rcases Nat.eq_zero_or_pos ls.length with h0 | h0
  · exact Or.inl (List.eq_nil_of_length_eq_zero h0)
  · obtain ⟨l0, hl0⟩ : ∃ l0, ls[0]? = some l0 := ⟨_, List.getElem?_eq_getElem h0⟩
    obtain ⟨g, _, _, hg, _⟩ := h.at hn hl0
    refine Or.inr ⟨g, 0, hg, fun i l hl => ?_⟩
    obtain ⟨g', a1, c1, hg', h1, h2, h3, h4⟩ := h.at hn hl
    rw [hg] at hg'
    cases hg'
    exact ⟨a1, c1, by rw [Nat.zero_add]; exact h1, h2, h3, h4⟩
set_option maxHeartbeats 1000000 in
theorem rows_c (w : World) (a b : Option Addr) (ls : List (List Nat)) (n c d : Nat) (hn : ls.length = n) (hb : n < 200000000001) (ha : Rl w a ls) (hbb : Rl w b ls) (ho : ∀ l ∈ ls, Oct l) : Calls Tryd.prog 22 #[.slice a n c, .slice b n d] w fun e w' => e = .returned (.bool true) ∧ ∃ m, w' = w.drewN m := by
  have A : Aside (ls.length = n ∧ n < 200000000001 ∧ Rl w a ls ∧ Rl w b ls ∧ ∀ l ∈ ls, Oct l) := ⟨hn, hb, ha, hbb, ho⟩
  have hz : ((n : Int) != (n : Int)) = false := by simp
  clear hn hb ha hbb ho
  go_enter Tryd.func22, Tryd.ntmps22
  go_wp2_with fail
  go_loopg [5] n (fun g s5 wr => ∃ k : Nat, s5 = .int .i64 (k : Int) ∧ Aside (k + g = n ∧ Dn w wr))
  case atStart => exact ⟨0, rfl, ⟨by omega, Dn.refl _⟩⟩
  case round =>
    obtain ⟨k, rfl, hT⟩ := hrel
    obtain ⟨hkg, m0, hm0⟩ := hT.out
    have a0 := A.out
    by_cases hk : k < n
    · have t1 : ((k : Int) < (n : Int)) = True := eq_true (by omega)
      have t2 : (k < n) = True := eq_true hk
      obtain ⟨l, hl⟩ : ∃ l, ls[k]? = some l := ⟨_, List.getElem?_eq_getElem (by omega)⟩
      rcases a0.2.2.1 with e | ⟨g1, o1, rfl, h1⟩
      · rw [e] at hl; simp at hl
      rcases a0.2.2.2.1 with e | ⟨g2, o2, rfl, h2⟩
      · rw [e] at hl; simp at hl
      obtain ⟨a1, c1, k1, l1, _⟩ := h1 k l hl
      obtain ⟨a2, c2, k2, l2, _⟩ := h2 k l hl
      have hol := a0.2.2.2.2 l (List.mem_of_getElem? hl)
      obtain ⟨q, hq⟩ : ∃ q, l.length = q := ⟨_, rfl⟩
      obtain ⟨S, hS⟩ : ∃ S, st l = S := ⟨_, rfl⟩
      have kk1 : wr.cell? ⟨g1, o1 + k, none⟩ = some (.slice a1 q c1) := by rw [hm0, ← hq]; exact k1
      have kk2 : wr.cell? ⟨g2, o2 + k, none⟩ = some (.slice a2 q c2) := by rw [hm0, ← hq]; exact k2
      have e1 : ∀ n, (convert 22 9 (.slice a1 q c1)).run Tryd.prog (wr.drewN n) = .ok (.string S) (wr.drewN n) := fun n => by rw [← hS]; exact conv_st q c1 hq hol (by rw [hm0]; exact (l1.drewN _).drewN _)
      have e2 : ∀ n, (convert 22 9 (.slice a2 q c2)).run Tryd.prog (wr.drewN n) = .ok (.string S) (wr.drewN n) := fun n => by rw [← hS]; exact conv_st q c2 hq hol (by rw [hm0]; exact (l2.drewN _).drewN _)
      have bk : (k : Int) < 400000000000 := by omega
      have A2 : Aside (k + gk = n ∧ k < n ∧ Dn w wr) := ⟨hkg, hk, ⟨m0, hm0⟩⟩
      have hsz : (S.toList == S.toList) = true := by simp
      clear hT hkg hm0 a0 hk hl h1 h2 k1 k2 l1 l2 hol hq hS
      go_upto_region 6 with fail
      go_quiet (fail)
      go_wp2_with fail
      have a2 := A2.out
      go_roundg (gk - 1)
      case measure => omega
      case rel => exact ⟨k + 1, by go_num, ⟨by omega, a2.2.2.drewN _⟩⟩
    · have t1 : ((k : Int) < (n : Int)) = False := eq_false (by omega)
      have t2 : (k < n) = False := eq_false hk
      have A2 : Aside (∃ m, wr = w.drewN m) := ⟨m0, hm0⟩
      clear hT hkg hm0 a0 hk
      go_wp2_with fail
      first | go_ret | go_ret2
      exact ⟨rfl, A2.out⟩
/-- Strings in memory. -/
def Nl (w : World) (a : Option Addr) (ns : List (List Nat)) : Prop := ns = [] ∨ ∃ g o, a = some ⟨g, o, none⟩ ∧ ∀ (i : Nat) (l : List Nat), ns[i]? = some l → w.cell? ⟨g, o + i, none⟩ = some (.string (st l))
theorem Nl.below {w u : World} {a : Option Addr} {ns : List (List Nat)} (h : Nl w a ns) (k : Below w.heap.size w u) : Nl u a ns := by
  rcases h with h | ⟨g, o, ha, hx⟩
  · exact Or.inl h
  · refine Or.inr ⟨g, o, ha, fun i l hl => ?_⟩
    have h1 := hx i l hl
    exact (k.cell (p := ⟨g, o + i, none⟩) (World.block_lt_of_cell? w _ h1)).trans h1
theorem Ns.nl {w : World} {lo : Nat} {v : Value} {ns : List (List Nat)} (h : Ns w lo v ns) : ∃ a c, v = .slice a ns.length c ∧ ns.length ≤ c ∧ Nl w a ns ∧ (a = none → ns.length = 0 ∧ c = 0) := by
  obtain ⟨a, c, hv, hc, h10, h12⟩ := Ow.shape h
  refine ⟨a, c, hv, hc, ?_, h12⟩
  rcases h10 with h0 | ⟨g, hg, _, _, h11, _⟩
  · exact Or.inl (List.eq_nil_of_length_eq_zero h0)
  · refine Or.inr ⟨g, 0, hg, fun i l hl => ?_⟩
    rw [Nat.zero_add]
    exact h11 i _ (by unfold sv; rw [List.getElem?_map, hl]; rfl)
set_option maxHeartbeats 1000000 in
theorem strings_c (w : World) (a b : Option Addr) (ls : List (List Nat)) (n c d : Nat) (hn : ls.length = n) (hb : n < 200000000001) (ha : Nl w a ls) (hbb : Nl w b ls) : Calls Tryd.prog 21 #[.slice a n c, .slice b n d] w fun e w' => e = .returned (.bool true) ∧ ∃ m, w' = w.drewN m := by
  have A : Aside (ls.length = n ∧ n < 200000000001 ∧ Nl w a ls ∧ Nl w b ls) := ⟨hn, hb, ha, hbb⟩
  have hz : ((n : Int) != (n : Int)) = false := by simp
  clear hn hb ha hbb
  go_enter Tryd.func21, Tryd.ntmps21
  go_wp2_with fail
  go_loopg [5] n (fun g s5 wr => ∃ k : Nat, s5 = .int .i64 (k : Int) ∧ Aside (k + g = n ∧ Dn w wr))
  case atStart => exact ⟨0, rfl, ⟨by omega, Dn.refl _⟩⟩
  case round =>
    obtain ⟨k, rfl, hT⟩ := hrel
    obtain ⟨hkg, m0, hm0⟩ := hT.out
    have a0 := A.out
    by_cases hk : k < n
    · have t1 : ((k : Int) < (n : Int)) = True := eq_true (by omega)
      have t2 : (k < n) = True := eq_true hk
      obtain ⟨l, hl⟩ : ∃ l, ls[k]? = some l := ⟨_, List.getElem?_eq_getElem (by omega)⟩
      rcases a0.2.2.1 with e | ⟨g1, o1, rfl, h1⟩
      · rw [e] at hl; simp at hl
      rcases a0.2.2.2 with e | ⟨g2, o2, rfl, h2⟩
      · rw [e] at hl; simp at hl
      have k1 := h1 k l hl
      have k2 := h2 k l hl
      obtain ⟨S, hS⟩ : ∃ S, st l = S := ⟨_, rfl⟩
      have kk1 : wr.cell? ⟨g1, o1 + k, none⟩ = some (.string S) := by rw [hm0, ← hS]; exact k1
      have kk2 : wr.cell? ⟨g2, o2 + k, none⟩ = some (.string S) := by rw [hm0, ← hS]; exact k2
      have bk : (k : Int) < 400000000000 := by omega
      have A2 : Aside (k + gk = n ∧ k < n ∧ Dn w wr) := ⟨hkg, hk, ⟨m0, hm0⟩⟩
      have hsz : (S.toList == S.toList) = true := by simp
      clear hT hkg hm0 a0 hk hl h1 h2 k1 k2 hS
      go_upto_region 6 with fail
      go_quiet (fail)
      go_wp2_with fail
      have a2 := A2.out
      go_roundg (gk - 1)
      case measure => omega
      case rel => exact ⟨k + 1, by go_num, ⟨by omega, a2.2.2.drewN _⟩⟩
    · have t1 : ((k : Int) < (n : Int)) = False := eq_false (by omega)
      have t2 : (k < n) = False := eq_false hk
      have A2 : Aside (∃ m, wr = w.drewN m) := ⟨m0, hm0⟩
      clear hT hkg hm0 a0 hk
      go_wp2_with fail
      first | go_ret | go_ret2
      exact ⟨rfl, A2.out⟩
end Go.Proofs.YtcmmjbkgoafbnaaDoor

/-
  What told comes to.
-/
namespace Go.Proofs.YtcmmjbkgoafbnaaDoor
open Go.RowKit
set_option linter.unusedVariables false
set_option linter.unusedSimpArgs false
/-- The names and the data of files. -/
def tdn : List Ent → List (List Nat)
  | [] => []
  | e :: r => if e.2.2.2 = 0 then nmd e.1 :: tdn r else tdn r
def tdd : List Ent → List (List Nat)
  | [] => []
  | e :: r => if e.2.2.2 = 0 then e.2.1 :: tdd r else tdd r
theorem tdn_append (a b : List Ent) : tdn (a ++ b) = tdn a ++ tdn b := by
  induction a with
  | nil => rfl
  | cons e r ih => simp only [List.cons_append, tdn, ih]; split <;> rfl
theorem tdd_append (a b : List Ent) : tdd (a ++ b) = tdd a ++ tdd b := by
  induction a with
  | nil => rfl
  | cons e r ih => simp only [List.cons_append, tdd, ih]; split <;> rfl
theorem td_len (l : List Ent) : (tdn l).length = (tdd l).length := by
  induction l with
  | nil => rfl
  | cons e r ih => simp only [tdn, tdd]; split <;> simp [ih]
theorem tdn_len (l : List Ent) : (tdn l).length ≤ l.length := by
  induction l with
  | nil => exact Nat.le_refl _
  | cons e r ih => simp only [tdn]; split <;> simp <;> omega
theorem td_more {l : List Ent} {i : Nat} {e : Ent} (h : l[i]? = some e) : tdn (l.take (i + 1)) = (if e.2.2.2 = 0 then tdn (l.take i) ++ [nmd e.1] else tdn (l.take i)) ∧ tdd (l.take (i + 1)) = (if e.2.2.2 = 0 then tdd (l.take i) ++ [e.2.1] else tdd (l.take i)) := by
  obtain ⟨h1, h2⟩ := List.getElem?_eq_some_iff.1 h
  rw [List.take_succ_eq_append_getElem h1, h2, tdn_append, tdd_append]
  simp only [tdn, tdd]
  constructor <;> split <;> simp
/-- Slices that lie where bytes are. -/
structure Sv (w : World) (vs : List Value) (ls : List (List Nat)) : Prop where
  len : vs.length = ls.length
  at_ : ∀ (i : Nat) (l : List Nat), ls[i]? = some l → ∃ a c, vs[i]? = some (.slice a l.length c) ∧ Lies w a l ∧ l.length ≤ c ∧ (a = none → l.length = 0 ∧ c = 0)
theorem Sv.nil (w : World) : Sv w [] [] := ⟨rfl, fun i l h => by simp at h⟩
theorem Sv.more {w : World} {vs : List Value} {ls : List (List Nat)} (h : Sv w vs ls) {l : List Nat} {a : Option Addr} {c : Nat} (hl : Lies w a l) (hc : l.length ≤ c) (hn : a = none → l.length = 0 ∧ c = 0) : Sv w (vs ++ [.slice a l.length c]) (ls ++ [l]) := by
  refine ⟨by simp [h.len], fun i m hm => ?_⟩
  rcases Nat.lt_or_ge i ls.length with hi | hi
  · rw [List.getElem?_append_left hi] at hm
    obtain ⟨a', c', h1, h2⟩ := h.at_ i m hm
    exact ⟨a', c', by rw [List.getElem?_append_left (by rw [h.len]; exact hi)]; exact h1, h2⟩
  · rw [List.getElem?_append_right hi] at hm
    have h0 : i - ls.length = 0 := by
      rcases Nat.eq_zero_or_pos (i - ls.length) with h | h
      · exact h
      · rw [List.getElem?_eq_none (by simp; omega)] at hm; cases hm
    rw [h0] at hm
    simp at hm
    subst hm
    exact ⟨a, c, by rw [List.getElem?_append_right (by rw [h.len]; exact hi), h.len, h0]; rfl, hl, hc, hn⟩
theorem Sv.below {w u : World} {vs : List Value} {ls : List (List Nat)} (h : Sv w vs ls) (k : Below w.heap.size w u) : Sv u vs ls := ⟨h.len, fun i l hl => by
  obtain ⟨a, c, h1, h2, h3⟩ := h.at_ i l hl
  exact ⟨a, c, h1, h2.below k, h3⟩⟩
theorem Sv.rl {w : World} {lo n : Nat} {v : Value} {vs : List Value} {ls : List (List Nat)} (h : Sv w vs ls) (ho : Ow w lo 22 1 v n vs) (hn : n = ls.length) : ∃ a c, v = .slice a n c ∧ n ≤ c ∧ Rl w a ls ∧ (a = none → n = 0 ∧ c = 0) := by
  obtain ⟨a, c, hv, hc, h10, h12⟩ := ho.shape
  refine ⟨a, c, hv, hc, ?_, h12⟩
  rcases h10 with h0 | ⟨g, hg, _, _, h11, _⟩
  · exact Or.inl (List.eq_nil_of_length_eq_zero (by omega))
  · refine Or.inr ⟨g, 0, hg, fun i l hl => ?_⟩
    obtain ⟨a1, c1, h1, h2, h3⟩ := h.at_ i l hl
    exact ⟨a1, c1, by rw [Nat.zero_add]; exact h11 i _ h1, h2, h3⟩
end Go.Proofs.YtcmmjbkgoafbnaaDoor

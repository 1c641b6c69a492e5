/-
  What take, Next, End of the splitter come to.
-/
import Derived.Test.YtbndohpcaahenabCal
import Derived.Laws.CopyOwn
import Derived.OwnWalk
namespace Go.Proofs.Ytbndohpcaahenab
open Go.RowKit
set_option linter.unusedVariables false
theorem size59 : (Try.prog.info? 45).map (·.size) = some 1 := by kernel_rfl
theorem und74 : Try.prog.underlying 57 = some (.slice 45) := by kernel_rfl
/-- What copy leaves: the signs that are not known stand first, and are not counted yet. -/
structure Cpd (w w' : World) (B : Nat) (D : List Nat) (s : Sp) (td : Nat) (ed : Bool) (n : Nat) : Prop where
  sm : Sm (w'.setCell ⟨B, 99, none⟩ (.int .i64 (n : Int))) B D { s with hl := s.hl.drop s.kn } td ed
  cell : ∃ z : Int, w'.cell? ⟨B, 99, none⟩ = some (.int .i64 z)
  fz : w'.frozen? ⟨B, 99, none⟩ = false
  only : Only B w w'
def sl (f : Nat → Value) (k n : Nat) : Nat → Value := fun j => if 5 ≤ j ∧ j < 5 + n then f (k + j) else f j
theorem copy_run {w : World} {B td n c : Nat} {D : List Nat} {s : Sp} {ed : Bool} (h : Sm w B D s td ed) (ty : TypeId) (sp : Option Addr) (hk : s.kn ≤ s.hl.length) (hn : s.hl.length - s.kn = n) (hs : n = 0 ∨ sp = some ⟨B, 5 + s.kn, none⟩) :
    ∃ w', (Builtin.copy_ #[57, 57] ty #[.slice (some ⟨B, 5, none⟩) 94 94, .slice sp n c]).run Try.prog w = .ok (goInt n) w' ∧ Cpd w w' B D s td ed n := by
  obtain ⟨f, hf, k⟩ := h.ex
  have hlen := k.len
  have fin : ∀ w', Cells w' B (cz (sl f s.kn n)) 48 → Only B w w' → Cpd w w' B D s td ed n := by
    intro w' hc ho
    refine ⟨⟨upd (sl f s.kn n) 99 (.int .i64 (n : Int)), ?_, ?_⟩, ?_, hc.frozen 99, ho⟩
    · have := hc.set 99 (.int .i64 (n : Int)); rwa [cz_set] at this
    · have e : ∀ j, (j < 5 ∨ 99 ≤ j) → j ≠ 99 → upd (sl f s.kn n) 99 (.int .i64 (n : Int)) j = f j := by
        intro j h1 h2
        rw [upd_ne _ _ h2]
        unfold sl
        rw [if_neg (by omega)]
      refine ⟨by rw [e 0 (by omega) (by omega)]; exact k.c0, by rw [e 1 (by omega) (by omega)]; exact k.c1, by rw [e 2 (by omega) (by omega)]; exact k.c2, by rw [e 3 (by omega) (by omega)]; exact k.c3, by rw [e 4 (by omega) (by omega)]; exact k.c4, fun j x hx => ?_, fun j hj => ?_, by rw [upd_same]; simp [hn], by rw [e 100 (by omega) (by omega)]; exact k.c100, by rw [e 101 (by omega) (by omega)]; exact k.c101, by rw [e 102 (by omega) (by omega)]; exact k.c102, by rw [e 103 (by omega) (by omega)]; exact k.c103, by rw [e 104 (by omega) (by omega)]; exact k.c104, by simp; omega⟩
      · have hx2 : (s.hl.drop s.kn)[j]? = some x := hx
        rw [List.getElem?_drop] at hx2
        have hj := (List.getElem?_eq_some_iff.1 hx2).1
        rw [upd_ne _ _ (by omega)]
        unfold sl
        rw [if_pos (by omega)]
        have := k.held _ _ hx2
        rw [show s.kn + (5 + j) = 5 + (s.kn + j) by omega]
        exact this
      · rw [upd_ne _ _ (by omega)]
        unfold sl
        split
        · have := k.any (s.kn + j) (by omega)
          rw [show s.kn + (5 + j) = 5 + (s.kn + j) by omega]
          exact this
        · exact k.any j hj
    · refine ⟨_, by rw [hc.cell, cz_at _ (by decide)]; unfold sl; rw [if_neg (by omega), k.c99]⟩
  by_cases h0 : n = 0
  · subst h0
    refine ⟨w, run_copy_none (P := Try.prog) w 57 57 ty 45 _ _ _ _ _ _ und74 size59 (by simp), fin w ?_ (Only.refl _ _)⟩
    have : sl f s.kn 0 = f := by funext j; unfold sl; rw [if_neg (by omega)]
    rw [this]; exact hf
  · rcases hs with hs | rfl
    · exact absurd hs h0
    · have hcl : (((List.range n).map fun j => f (5 + s.kn + j)) : List Value).length = n := by simp
      have hr := run_copy_row (P := Try.prog) w 57 57 ty 45 B 5 94 94 ⟨B, 5 + s.kn, none⟩ n c (cz f) 48 ((List.range n).map fun j => f (5 + s.kn + j)) und74 size59 hf (by rw [hcl]; show n = min n 94; omega)
        (fun j v hv => by
          rw [addr_add, hf.cell]
          simp only [List.getElem?_map] at hv
          have hj : j < n := by
            by_cases e : j < n
            · exact e
            · rw [List.getElem?_eq_none (by simp; omega)] at hv; simp at hv
          rw [List.getElem?_range hj] at hv
          simp at hv
          rw [cz_at _ (by omega), hv]) (by rw [hcl, cz_size]; omega) (fun v hv => by
          obtain ⟨j, hj, rfl⟩ := List.mem_map.1 hv
          have hj := List.mem_range.1 hj
          obtain ⟨x, hx⟩ := k.any (s.kn + j) (by omega)
          rw [show 5 + s.kn + j = 5 + (s.kn + j) by omega, hx]
          rfl)
      rw [hcl] at hr
      refine ⟨_, hr, fin _ ?_ ((Only.refl B w).trans ⟨rfl, rfl, rfl, by simp, fun k hk => setRow_other w B k _ hk⟩)⟩
      have hrow := setRow_heap w B (cz f) ((cz f).toList.take 5 ++ ((List.range n).map fun j => f (5 + s.kn + j)) ++ (cz f).toList.drop (5 + n)).toArray 48 (0, 0) hf
      have e : ((cz f).toList.take 5 ++ ((List.range n).map fun j => f (5 + s.kn + j)) ++ (cz f).toList.drop (5 + n)).toArray = cz (sl f s.kn n) := by
        apply Array.ext'
        simp only [cz]
        refine List.ext_getElem? fun i => ?_
        rw [List.append_assoc]
        by_cases h1 : i < 5
        · rw [List.getElem?_append_left (by simp; omega), List.getElem?_take, if_pos h1]
          have : i < 105 := by omega
          simp [this, sl]
          omega
        · rw [List.getElem?_append_right (by simp; omega)]
          have e5 : (List.take 5 (List.map f (List.range 105)).toArray.toList).length = 5 := by simp
          rw [e5]
          by_cases h2 : i < 5 + n
          · rw [List.getElem?_append_left (by simp; omega)]
            have h3 : i - 5 < n := by omega
            have h4 : i < 105 := by omega
            simp [h3, h4, sl]
            rw [if_pos (by omega), show 5 + s.kn + (i - 5) = s.kn + i by omega]
          · rw [List.getElem?_append_right (by simp; omega)]
            simp only [List.length_map, List.length_range, List.getElem?_drop, List.getElem?_map]
            rw [show 5 + n + (i - 5 - n) = i by omega]
            by_cases h4 : i < 105
            · simp [h4, sl]
              omega
            · simp [h4]
      rw [e] at hrow
      rw [e]
      exact hrow
theorem step_cpd {ops : Array Oper} {o : Oper} {a : Act} {w : World} {K : Act → World → Prop} {Q : Exit → Act → World → Prop} {E : Prop} {B td n c : Nat} {D : List Nat} {s : Sp} {ed : Bool} (hgd : o.guard = none) (d x : Operand)
    (ho : o.op = .call { callee := .builtin .copy, args := #[d, x], argTypes := #[57, 57] }) (sp : Option Addr) (hd : a.eval d = .slice (some ⟨B, 5, none⟩) 94 94) (hx : a.eval x = .slice sp n c)
    (h : Sm w B D s td ed) (hk : s.kn ≤ s.hl.length) (hn : s.hl.length - s.kn = n) (hs : n = 0 ∨ sp = some ⟨B, 5 + s.kn, none⟩)
    (g : ∀ w', Cpd w w' B D s td ed n → K (a.put o.dst (goInt n)) w') : if Region.wanted o (yielded ops a.tmps) = true then Oper.wp Try.prog o a w K Q else E := by
  have hw : Region.wanted o (yielded ops a.tmps) = true := by simp [Region.wanted, hgd]
  rw [if_pos hw]
  obtain ⟨w', hrun, h1⟩ := copy_run (c := c) h o.type sp hk hn hs
  unfold Oper.wp
  simp [execOp, ho, resolve, invoke, builtin, hd, hx, hrun, Result.andThen]
  exact g w' h1
section
variable {B td : Nat} {D : List Nat} {s : Sp} {ed : Bool}
set_option maxHeartbeats 1000000 in
theorem take_c (g : Nat) (hg : s.hl[td]? = some g) (hk : s.kn ≤ s.hl.length) (ht : td < s.kn) (w : World) (h : Sm w B D s td ed) : Calls Try.prog 25 #[.pointer (some ⟨B, 0, none⟩)] w fun e w' => e = .returned (.int .u16 (g : Int)) ∧ Sm w' B D (if td + 1 = s.kn then tk s else s) (if td + 1 = s.kn then 0 else td + 1) ed ∧ Only B w w' := by
  have c1 := h.k101
  have c2 := h.k100
  have c3 := h.k99
  have ch := h.kh hg
  have z1 := h.fz 101
  have hlen := h.len
  obtain ⟨k, hkn⟩ : ∃ k, s.kn = k := ⟨_, rfl⟩
  obtain ⟨L, hL⟩ : ∃ L, s.hl.length = L := ⟨_, rfl⟩
  obtain ⟨t2, ht2⟩ : ∃ t2, td + 1 = t2 := ⟨_, rfl⟩
  rw [hkn] at c2 ht hk
  rw [hL] at c3 hk hlen
  rw [hkn, ht2]
  have b1 : (td : Int) < 94 := by omega
  have b2 : (td : Int) + 1 = (t2 : Int) := by omega
  have A : Aside (Sm w B D s td ed ∧ s.kn = k ∧ s.hl.length = L ∧ k ≤ L ∧ L ≤ 94 ∧ td + 1 = t2) := ⟨h, hkn, hL, hk, hlen, ht2⟩
  by_cases hlast : t2 = k
  · obtain ⟨q, hq⟩ : ∃ q, tk s = q := ⟨_, rfl⟩
    have AQ : Aside (tk s = q) := hq
    have AE : Aside (t2 = k) := hlast
    rw [if_pos hlast, if_pos hlast, hq]
    have t1 : ((t2 : Int) == (k : Int)) = true := by rw [beq_iff_eq]; omega
    clear h hg hkn hL ht2 ht hq hlast hlen hk
    go_enter Try.func25, Try.ntmps25
    go_upto_region 1 with fail
    go_quiet (fail)
    have hS := (A.out.1.drewN nq).set101 t2
    have oS : Only B w ((w.drewN nq).setCell ⟨B, 101, none⟩ (.int .i64 (t2 : Int))) := ((Only.refl B w).drewN nq).setCell _ _
    go_upto_region 3 with fail
    obtain ⟨w3, hw3⟩ : ∃ w3, ((w.drewN nq).setCell ⟨B, 101, none⟩ (.int .i64 (t2 : Int))) = w3 := ⟨_, rfl⟩
    rw [hw3] at hS oS ⊢
    have d1 := hS.k101
    have d2 := hS.k100
    have d3 := hS.k99
    rw [A.out.2.1] at d2
    rw [A.out.2.2.1] at d3
    clear hw3 c1 c2 c3 ch z1
    have AU : Aside (Only B w w3 ∧ Sm w3 B D s t2 ed) := ⟨oS, hS⟩
    clear oS hS
    go_quiet (fail)
    have b4 : (k : Int) ≤ (L : Int) := by have := A.out; omega
    have b5 : (L : Int) ≤ 94 := by have := A.out; omega
    have b6 : (0 : Int) ≤ (k : Int) := by omega
    obtain ⟨w4, hw4⟩ : ∃ w4, w3.drewN nq = w4 := ⟨_, rfl⟩
    have e1 : w4.cell? ⟨B, 100, none⟩ = some (.int .i64 (k : Int)) := by rw [← hw4]; exact d2
    have e2 : w4.cell? ⟨B, 99, none⟩ = some (.int .i64 (L : Int)) := by rw [← hw4]; exact d3
    have AV : Aside (Only B w w4 ∧ Sm w4 B D s t2 ed) := ⟨by rw [← hw4]; exact AU.out.1.drewN _, by rw [← hw4]; exact AU.out.2.drewN _⟩
    go_upto_region 4 with fail
    rw [hw4]
    clear hw4 d1 d2 d3 AU t1 b2 b1
    have AN : Aside (s.hl.length - s.kn = L - k) := by have a := A.out; show _ = _; rw [a.2.1, a.2.2.1]
    have hfin : ∀ w5, Cpd w4.drew w5 B D s t2 ed (L - k) → Sm (((w5.setCell ⟨B, 99, none⟩ (.int .i64 ((L - k : Nat) : Int))).setCell ⟨B, 100, none⟩ (.int .i64 0)).setCell ⟨B, 101, none⟩ (.int .i64 0)) B D q 0 ed ∧ Only B w (((w5.setCell ⟨B, 99, none⟩ (.int .i64 ((L - k : Nat) : Int))).setCell ⟨B, 100, none⟩ (.int .i64 0)).setCell ⟨B, 101, none⟩ (.int .i64 0)) := by
      intro w5 C5
      refine ⟨?_, (((AV.out.1.drew.trans C5.only).setCell _ _).setCell _ _).setCell _ _⟩
      have := (C5.sm.set100 0).set101 0
      rw [← AQ.out]
      exact this
    have AF : Aside _ := hfin
    clear hfin
    by_cases h94 : k = 94
    · have hL2 : L = 94 := by have := A.out; omega
      subst h94
      subst hL2
      obtain ⟨w5, hrun, C5⟩ := copy_run (c := 0) (n := 0) AV.out.2.drew 3 (some ⟨B, 5, none⟩) (by have a := A.out; rw [a.2.1, a.2.2.1]; omega) AN.out (Or.inl rfl)
      obtain ⟨z99, c99⟩ := C5.cell
      have f99 := C5.fz
      have AW : Aside (Sm (((w5.setCell ⟨B, 99, none⟩ (.int .i64 0)).setCell ⟨B, 100, none⟩ (.int .i64 0)).setCell ⟨B, 101, none⟩ (.int .i64 0)) B D q 0 ed ∧ Only B w (((w5.setCell ⟨B, 99, none⟩ (.int .i64 0)).setCell ⟨B, 100, none⟩ (.int .i64 0)).setCell ⟨B, 101, none⟩ (.int .i64 0))) := AF.out w5 C5
      have kk : (w5.setCell ⟨B, 99, none⟩ (.int .i64 0)).cell? ⟨B, 100, none⟩ = _ := C5.sm.k100
      have kf : (w5.setCell ⟨B, 99, none⟩ (.int .i64 0)).frozen? ⟨B, 100, none⟩ = false := C5.sm.fz 100
      have kk2 : (w5.setCell ⟨B, 99, none⟩ (.int .i64 0)).cell? ⟨B, 101, none⟩ = _ := C5.sm.k101
      have kf2 : (w5.setCell ⟨B, 99, none⟩ (.int .i64 0)).frozen? ⟨B, 101, none⟩ = false := C5.sm.fz 101
      have hrun2 : (Builtin.copy_ #[57, 57] 3 #[.slice (some ⟨B, 5, none⟩) 94 94, .slice (some ⟨B, 5, none⟩) 0 0]).run Try.prog w4.drew = .ok (.int .i64 0) w5 := hrun
      clear C5 hrun
      go_region
      go_wp2_with fail
      first | go_ret | go_ret2
      exact ⟨rfl, AW.out.1, AW.out.2⟩
    · have f1 : (94 = k) = False := eq_false (by omega)
      have f2 : (k = 94) = False := eq_false h94
      obtain ⟨w5, hrun, C5⟩ := copy_run (c := 94 - k) AV.out.2.drew 3 (some ⟨B, 5 + k, none⟩) (by have a := A.out; rw [a.2.1, a.2.2.1]; exact a.2.2.2.1) AN.out (Or.inr (by have a := A.out; rw [a.2.1]))
      obtain ⟨z99, c99⟩ := C5.cell
      have f99 := C5.fz
      have AW : Aside _ := AF.out w5 C5
      have kk := C5.sm.k100
      have kf := C5.sm.fz 100
      have kk2 := C5.sm.k101
      have kf2 := C5.sm.fz 101
      clear C5
      go_region
      go_wp2_with fail
      first | go_ret | go_ret2
      exact ⟨rfl, AW.out.1, AW.out.2⟩
  · obtain ⟨q, hq⟩ : ∃ q, td + 1 = q := ⟨_, rfl⟩
    rw [if_neg hlast, if_neg hlast]
    have t1 : ((t2 : Int) == (k : Int)) = false := by rw [beq_eq_false_iff_ne]; omega
    clear h hg hkn hL ht2 ht hq hlast hlen hk
    go_enter Try.func25, Try.ntmps25
    go_upto_region 1 with fail
    go_quiet (fail)
    have hS := (A.out.1.drewN nq).set101 t2
    have oS : Only B w ((w.drewN nq).setCell ⟨B, 101, none⟩ (.int .i64 (t2 : Int))) := ((Only.refl B w).drewN nq).setCell _ _
    go_upto_region 3 with fail
    obtain ⟨w3, hw3⟩ : ∃ w3, ((w.drewN nq).setCell ⟨B, 101, none⟩ (.int .i64 (t2 : Int))) = w3 := ⟨_, rfl⟩
    rw [hw3] at hS oS ⊢
    have d1 := hS.k101
    have d2 := hS.k100
    rw [A.out.2.1] at d2
    clear hw3 c1 c2 c3 ch z1
    have AU : Aside (Only B w w3 ∧ Sm w3 B D s t2 ed) := ⟨oS, hS⟩
    clear oS hS
    go_quiet (fail)
    go_wp2_with fail
    first | go_ret | go_ret2
    exact ⟨rfl, AU.out.2.drewN _, AU.out.1.drewN _⟩
end
end Go.Proofs.Ytbndohpcaahenab

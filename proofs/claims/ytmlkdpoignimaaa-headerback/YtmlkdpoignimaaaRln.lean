/-
  The document's run in memory: line.
-/
import Derived.Test.YtmlkdpoignimaaaFeq
import Derived.Laws.Rows
import Derived.Laws.OwnMore
namespace Go.Proofs.Ytmlkdpoignimaaa
open Go.RowKit
set_option linter.unusedVariables false
/-- The run's cells. -/
def rcs (vf : Value) (y t : Nat) : Array Value := #[vf, .int .i64 (y : Int), .int .i64 (t : Int)]
/-- The document's run in block Rb, nothing against it: its fields as they stand. -/
structure Rr (w : World) (lo Rb t : Nat) (vf : Value) (F : List Fd) : Prop where
  cells : Cells w Rb (rcs vf 0 t) 30
  own : Ow w lo 43 2 vf F.length (fc F)
  le : lo ≤ Rb
/-- What may be turned: Rb, and rows of fields from lo on. -/
structure Rf (lo Rb : Nat) (w w' : World) : Prop where
  bel : Below lo w w'
  kp : ∀ b cs t, b ≠ Rb → t ≠ 43 → Cells w b cs t → Cells w' b cs t
theorem Rf.refl (lo Rb : Nat) (w : World) : Rf lo Rb w w := ⟨Below.refl _ _, fun _ _ _ _ _ h => h⟩
theorem Rf.trans {lo Rb : Nat} {w u v : World} (h : Rf lo Rb w u) (k : Rf lo Rb u v) : Rf lo Rb w v := ⟨h.bel.trans k.bel, fun b cs t hb ht hc => k.kp b cs t hb ht (h.kp b cs t hb ht hc)⟩
theorem Rf.drewN {lo Rb : Nat} {w u : World} (h : Rf lo Rb w u) (n : Nat) : Rf lo Rb w (u.drewN n) := ⟨Below.drewN2 h.bel n, fun b cs t hb ht hc => h.kp b cs t hb ht hc⟩
theorem Rf.of_below {lo Rb : Nat} {w u : World} (h : Below w.heap.size w u) (hl : lo ≤ w.heap.size) : Rf lo Rb w u := ⟨h.mono hl, fun b cs t _ _ hc => hc.below h hc.lt⟩
theorem Rf.set {lo Rb i : Nat} {w u : World} {x : Value} (h : Rf lo Rb w u) (hl : lo ≤ Rb) : Rf lo Rb w (u.setCell ⟨Rb, i, none⟩ x) :=
  h.trans ⟨(Below.refl _ _).setCell hl _, fun b cs t hb _ hc => hc.only ((Only.refl _ _).setCell _ _) hb⟩
theorem Rf.setRow {lo Rb g i : Nat} {w u : World} {x : Value} {cur : Array Value} (h : Rf lo Rb w u) (hl : lo ≤ g) (hg : Cells u g cur 43) : Rf lo Rb w (u.setCell ⟨g, i, none⟩ x) :=
  h.trans ⟨(Below.refl _ _).setCell hl _, fun b cs t _ ht hc => hc.only ((Only.refl _ _).setCell _ _) (fun e => by
    subst e
    unfold Cells at hc hg
    rw [hc] at hg
    cases hg
    exact ht rfl)⟩
theorem Rf.got {lo Rb sz n : Nat} {w u u' : World} {v v' : Value} {xs : List Value} (h : Rf lo Rb w u) (hg : Got lo 43 sz u u' v v' n xs) : Rf lo Rb w u' :=
  h.trans ⟨hg.bel, fun b cs t _ ht hc => hc.got hg ht⟩
section
variable {w : World} {lo Rb t : Nat} {vf : Value} {F : List Fd}
theorem Rr.c0 (h : Rr w lo Rb t vf F) : w.cell? ⟨Rb, 0, none⟩ = some vf := by rw [h.cells.cell]; rfl
theorem Rr.c1 (h : Rr w lo Rb t vf F) : w.cell? ⟨Rb, 1, none⟩ = some (.int .i64 0) := by rw [h.cells.cell]; rfl
theorem Rr.c2 (h : Rr w lo Rb t vf F) : w.cell? ⟨Rb, 2, none⟩ = some (.int .i64 (t : Int)) := by rw [h.cells.cell]; rfl
theorem Rr.fz (h : Rr w lo Rb t vf F) (i : Nat) : w.frozen? ⟨Rb, i, none⟩ = false := h.cells.frozen i
theorem Rr.drewN (h : Rr w lo Rb t vf F) (n : Nat) : Rr (w.drewN n) lo Rb t vf F := ⟨h.cells.drewN n, h.own.drewN n, h.le⟩
theorem Rr.drew (h : Rr w lo Rb t vf F) : Rr w.drew lo Rb t vf F := h.drewN 1
theorem Rr.below {u : World} (h : Rr w lo Rb t vf F) (b : Below w.heap.size w u) : Rr u lo Rb t vf F := ⟨h.cells.below b h.cells.lt, h.own.below b (Nat.le_refl _), h.le⟩
/-- What line leaves. -/
def RlTo (w : World) (lo Rb t : Nat) (F : List Fd) (s : List Nat) (w' : World) : Prop :=
  Rf lo Rb w w' ∧ (((lin F s).1 = 0 ∧ ∃ vf, Rr w' lo Rb t vf (lin F s).2) ∨ ((lin F s).1 ≠ 0 ∧ ∃ vf, Cells w' Rb (rcs vf (lin F s).1 t) 30))
theorem fc_set {F : List Fd} {f : Fd} (s : List Nat) : (fc (F ++ [f])).set (F.length * 2 + 1) (.string (st (f.2 ++ s))) = fc (F ++ [(f.1, f.2 ++ s)]) := by
  rw [fc_append, fc_append, List.set_append_right _ _ (by rw [fc_length]; omega), fc_length]
  simp [fc]
theorem lin_more {F : List Fd} {f : Fd} {s : List Nat} (hb : isB (s.headD 0) = true) : lin (F ++ [f]) s = (0, F ++ [(f.1, f.2 ++ s)]) := by
  unfold lin
  rw [if_pos hb]
  have e : (F ++ [f]).getLast? = some f := by simp
  rw [e, List.dropLast_concat]
set_option maxHeartbeats 2000000 in
theorem rline_blank {s : List Nat} (x : Nat) (s' : List Nat) (hs : s = x :: s') (ho : Oct s) (hB : isB x = true) (hb : s.length < 1000000) (hFb : ∀ f ∈ F, f.2.length < 1000000) (h64 : F.length ≤ 64) (h : Rr w lo Rb t vf F) : Calls Try.prog 28 #[.pointer (some ⟨Rb, 0, none⟩), .string (st s)] w fun e w' => e = .returned (.tuple #[]) ∧ RlTo w lo Rb t F s w' := by
  have c0 := h.c0
  have c1 := h.c1
  have f1 := h.fz 1
  have hx0 : ∀ hh : 0 < (st s).size, ((st s)[0]'hh).toNat = x := fun hh => st_get ho (by rw [hs]; rfl) hh
  have hz : 0 < (st s).size := by rw [st_size, hs]; simp
  obtain ⟨S, hS⟩ : ∃ S, (st s).size = S := ⟨_, rfl⟩
  rcases List.eq_nil_or_concat F with rfl | ⟨ys, f, hF⟩
  · have e : lin [] s = (30, []) := lin_none (by rw [hs]; exact hB)
    have A : Aside (RlTo w lo Rb t [] s (w.setCell ⟨Rb, 1, none⟩ (.int .i64 30))) := ⟨(Rf.refl _ _ _).set h.le, Or.inr ⟨by rw [e]; decide, vf, by rw [e]; exact h.cells.set 1 _⟩⟩
    obtain ⟨va, vc, hv, _⟩ := h.own.shape
    have hv : vf = .slice va 0 vc := hv
    subst hv
    clear h hFb h64 e
    obtain ⟨u, hu⟩ : ∃ u, st s = u := ⟨_, rfl⟩
    rw [hu] at hx0 hz hS
    rw [hu]
    rw [hS] at hz
    clear hu ho hs
    rcases isB_iff.1 hB with rfl | rfl
    all_goals
      clear hB
      go_enter Try.func28, Try.ntmps28
      go_wp2_with fail
      first | go_end0 | (refine bodyPost_ret (results_none rfl _ _ _) rfl ?_)
      exact ⟨rfl, A.out⟩
  · rw [List.concat_eq_append] at hF
    subst hF
    obtain ⟨va, vc, hv, hvc, hq, _⟩ := h.own.shape
    obtain ⟨m, hm⟩ : ∃ m, ys.length = m := ⟨_, rfl⟩
    have hlen : (ys ++ [f]).length = m + 1 := by simp [hm]
    rw [hlen] at hv hvc hq h64
    obtain ⟨g, hva, hlg, ⟨cur, hcur⟩, hcell, hfz⟩ : ∃ g, va = some ⟨g, 0, none⟩ ∧ lo ≤ g ∧ (∃ cs, w.heap[g]? = some (.cells cs 43 (0, 0))) ∧ (∀ i x, (fc (ys ++ [f]))[i]? = some x → w.cell? ⟨g, i, none⟩ = some x) ∧ ∀ i, w.frozen? ⟨g, i, none⟩ = false := by
      rcases hq with h0 | h0
      · omega
      · exact h0
    have hcg : Cells w g cur 43 := hcur
    have hget := fc_get (M := ys ++ [f]) (i := m) (p := f) (by rw [← hm]; simp)
    have cv := hcell _ _ hget.2
    have fv := hfz (m * 2 + 1)
    subst hva
    subst hv
    have e := lin_more (F := ys) (f := f) (s := s) (by rw [hs]; exact hB)
    have hne : g ≠ Rb := fun e => by
      have h1 := h.cells
      unfold Cells at h1 hcg
      rw [← e, hcg] at h1
      cases h1
    have how := h.own
    rw [hlen] at how
    have AF : Aside (RlTo w lo Rb t (ys ++ [f]) s ((w.setCell ⟨g, m * 2 + 1, none⟩ (.string (st (f.2 ++ s)))).drew)) := by
      refine ⟨((Rf.refl lo Rb w).setRow hlg hcg).drewN 1, Or.inl ⟨by rw [e], .slice (some ⟨g, 0, none⟩) (m + 1) vc, ?_⟩⟩
      rw [e]
      refine Rr.drew ⟨h.cells.only ((Only.refl g w).setCell _ _) (fun e => hne e.symm), ⟨?_, by simp [World.setCell]; exact h.own.le⟩, h.le⟩
      have := (how.own.stored (m * 2 + 1) (.string (st (f.2 ++ s)))).1
      rw [show m * 2 + 1 = ys.length * 2 + 1 by rw [hm], fc_set] at this
      simp only [List.length_append, List.length_singleton, hm] at this ⊢
      exact this
    have hfb : f.2.length < 1000000 := hFb f (by simp)
    have hap : st f.2 ++ st s = st (f.2 ++ s) := st_append _ _
    have z1 : (st f.2).size = f.2.length := st_size _
    have z2 : S = s.length := by rw [← hS, st_size]
    obtain ⟨u1, hu1⟩ : ∃ u1, st f.2 = u1 := ⟨_, rfl⟩
    obtain ⟨u, hu⟩ : ∃ u, st s = u := ⟨_, rfl⟩
    obtain ⟨u2, hu2⟩ : ∃ u2, st (f.2 ++ s) = u2 := ⟨_, rfl⟩
    rw [hu] at hx0 hz hS hap
    rw [hu1] at hap cv z1
    rw [hu2] at hap AF
    rw [hu]
    rw [hS] at hz
    have zb1 : u1.size < 1000000 := by omega
    have zb2 : u.size < 1000000 := by omega
    have hmb : (m : Int) < 100 := by omega
    have hvcI : (m : Int) + 1 ≤ (vc : Int) := by omega
    have t1 : ((m : Int) + 1 == 0) = false := by rw [beq_eq_false_iff_ne]; omega
    clear h hFb h64 e how hq hcur hcell hget hfz hlen hm z2 hu hu1 hu2 ho hs hcg hne hfb hb
    rcases isB_iff.1 hB with rfl | rfl
    all_goals
      clear hB
      go_enter Try.func28, Try.ntmps28
      go_upto_region 3 with fail
      have hwr : ∀ z : Int, (z = (m : Int) ∨ z = (m : Int) + 1) → IntKind.i64.wrap z = z := fun z hz => by rw [IntKind.wrap_i64]; omega
      go_region
      go_wp2_with fail
      first | go_end0 | (refine bodyPost_ret (results_none rfl _ _ _) rfl ?_)
      exact ⟨rfl, AF.out⟩
set_option maxHeartbeats 2000000 in
theorem rline_other {s : List Nat} (x : Nat) (s' : List Nat) (hs : s = x :: s') (ho : Oct s) (hB : isB x = false) (hb : s.length < 1000000) (h64 : F.length ≤ 64) (h : Rr w lo Rb t vf F) : Calls Try.prog 28 #[.pointer (some ⟨Rb, 0, none⟩), .string (st s)] w fun e w' => e = .returned (.tuple #[]) ∧ RlTo w lo Rb t F s w' := by
  have c0 := h.c0
  have c1 := h.c1
  have f0 := h.fz 0
  have f1 := h.fz 1
  have hB2 : isB (s.headD 0) = false := by rw [hs]; exact hB
  have hx0 : ∀ hh : 0 < (st s).size, ((st s)[0]'hh).toNat = x := fun hh => st_get ho (by rw [hs]; rfl) hh
  have hz : 0 < (st s).size := by rw [st_size, hs]; simp
  obtain ⟨S, hS⟩ : ∃ S, (st s).size = S := ⟨_, rfl⟩
  have z2 : S = s.length := by rw [← hS, st_size]
  have hnm := rname_c w s (by omega) ho
  obtain ⟨va, vc, hv, hvc, _, _⟩ := h.own.shape
  obtain ⟨N, hN⟩ : ∃ N, F.length = N := ⟨_, rfl⟩
  obtain ⟨n, hn⟩ : ∃ n, nm s = n := ⟨_, rfl⟩
  rw [hn] at hnm
  have hxn := isB_not.1 hB
  have t9 : ((x : Int) == 9) = false := by rw [beq_eq_false_iff_ne]; omega
  have t32 : ((x : Int) == 32) = false := by rw [beq_eq_false_iff_ne]; omega
  by_cases hn0 : n = 0
  · have e : lin F s = (30, []) := lin_bad hB2 (by omega)
    have A : Aside (RlTo w lo Rb t F s (w.setCell ⟨Rb, 1, none⟩ (.int .i64 30))) := ⟨(Rf.refl _ _ _).set h.le, Or.inr ⟨by rw [e]; decide, vf, by rw [e]; exact h.cells.set 1 _⟩⟩
    subst hn0
    obtain ⟨u, hu⟩ : ∃ u, st s = u := ⟨_, rfl⟩
    rw [hu] at hx0 hz hS hnm
    rw [hu]
    rw [hS] at hz
    clear h h64 e hu ho hs z2 hv hvc hN hn hxn hB hB2
    go_enter Try.func28, Try.ntmps28
    go_wp2_with (go_at_call 37; refine hnm.mono ?_; rintro e1 w1 ⟨rfl, rfl⟩)
    first | go_end0 | (refine bodyPost_ret (results_none rfl _ _ _) rfl ?_)
    exact ⟨rfl, A.out⟩
  · have tn : ((n : Int) == 0) = false := by rw [beq_eq_false_iff_ne]; omega
    by_cases h4 : N = 64
    · have e : lin F s = (31, []) := lin_many hB2 (by omega) (by omega)
      have A : Aside (RlTo w lo Rb t F s (w.setCell ⟨Rb, 1, none⟩ (.int .i64 31))) := ⟨(Rf.refl _ _ _).set h.le, Or.inr ⟨by rw [e]; decide, vf, by rw [e]; exact h.cells.set 1 _⟩⟩
      obtain ⟨u, hu⟩ : ∃ u, st s = u := ⟨_, rfl⟩
      rw [hu] at hx0 hz hS hnm
      rw [hu]
      rw [hS] at hz
      rw [hN, h4] at hv
      subst hv
      clear h h64 e hu ho hs z2 hvc hN hn hxn hB hB2 h4 hn0
      go_enter Try.func28, Try.ntmps28
      go_wp2_with (go_at_call 37; refine hnm.mono ?_; rintro e1 w1 ⟨rfl, rfl⟩)
      first | go_end0 | (refine bodyPost_ret (results_none rfl _ _ _) rfl ?_)
      exact ⟨rfl, A.out⟩
    · have e := lin_new (F := F) hB2 (by omega : nm s ≠ 0) (by omega)
      rw [hn] at e
      have t4 : ((N : Int) == 64) = false := by rw [beq_eq_false_iff_ne]; omega
      have hlt := nm_lt s (by omega)
      have he1 : (st s).extract 0 n = st (s.take n) := by rw [st_extract, List.drop_zero]
      have he2 : (st s).extract (n + 1) S = st (s.drop (n + 1)) := by rw [st_extract, List.take_of_length_le (by omega)]
      obtain ⟨H, hH⟩ : ∃ H, w.heap.size = H := ⟨_, rfl⟩
      obtain ⟨w1, hw1⟩ : ∃ w1, w1 = (w.alloc (.cells #[.string (st (s.take n)), .string (st (s.drop (n + 1)))] 43)).drew := ⟨_, rfl⟩
      have b1 : Below w.heap.size w w1 := by rw [hw1]; exact ((Below.refl _ w).alloc (Nat.le_refl _) _).drew
      have r1 := h.below b1
      have kH : Cells w1 H #[.string (st (s.take n)), .string (st (s.drop (n + 1)))] 43 := by rw [hw1, ← hH]; exact (Cells.new w _ 43).drew
      obtain ⟨i0, hi, hz0, hz1, hz2⟩ := ginfo_parts ginfo43
      have hnews : ∀ (j : Nat) x, (fc [(s.take n, s.drop (n + 1))])[j]? = some x → w1.cell? ⟨H, 0 + j, none⟩ = some x := fun j x hj => by
        rw [Nat.zero_add, kH.cell, ← hj]
        simp [fc]
      have h1c : ∀ x ∈ fc [(s.take n, s.drop (n + 1))], x.oneCell' = true := fun x hx => by simp [fc] at hx; rcases hx with rfl | rfl <;> rfl
      have k1 := (h.cells.alloc (.cells #[.string (st (s.take n)), .string (st (s.drop (n + 1)))] 43))
      have hm1 := r1.own
      rw [hN, hv, hN] at hm1
      have a0 : (w.alloc (.cells #[.string (st (s.take n)), .string (st (s.drop (n + 1)))] 43)).cell? ⟨Rb, 0, none⟩ = some (.slice va N vc) := by rw [k1.cell, ← hN, ← hv]; rfl
      have hk2 : ∀ (v2 : Value) (w2 : World) (n2 : Nat) (xs : List Value), Got lo 43 2 w1 w2 (.slice va N vc) v2 n2 xs → w2.cell? ⟨Rb, 0, none⟩ = some (.slice va N vc) ∧ w2.frozen? ⟨Rb, 0, none⟩ = false := fun v2 w2 n2 xs hg => by
        have k2 := r1.cells.got hg (by decide)
        refine ⟨?_, k2.frozen 0⟩
        rw [k2.cell, ← hN, ← hv]; rfl
      have A : Aside (Rr w1 lo Rb t vf F ∧ Rf lo Rb w w1 ∧ w1 = (w.alloc (.cells #[.string (st (s.take n)), .string (st (s.drop (n + 1)))] 43)).drew ∧ F.length = N ∧ lin F s = (0, F ++ [(s.take n, s.drop (n + 1))])) := ⟨r1, Rf.of_below b1 h.own.le, hw1, hN, e⟩
      have AN : Aside (N + 1 ≤ maxLen ∧ (N + 1) * 32 ≤ 140737488355328) := ⟨by unfold maxLen; omega, by omega⟩
      rw [hw1] at hm1 hnews hk2
      obtain ⟨u, hu⟩ : ∃ u, st s = u := ⟨_, rfl⟩
      obtain ⟨u1, hu1⟩ : ∃ u1, st (s.take n) = u1 := ⟨_, rfl⟩
      obtain ⟨u2, hu2⟩ : ∃ u2, st (s.drop (n + 1)) = u2 := ⟨_, rfl⟩
      rw [hu] at hx0 hz hS hnm he1 he2
      rw [hu1] at he1
      rw [hu2] at he2
      rw [hu]
      rw [hu1, hu2] at hm1 hnews hk2 a0
      have AU : Aside (st (s.take n) = u1 ∧ st (s.drop (n + 1)) = u2) := ⟨hu1, hu2⟩
      rw [hS] at hz
      have hnS : (n : Int) < (S : Int) := by omega
      have hnS2 : (n : Int) + 1 ≤ (S : Int) := by omega
      have hSb : (S : Int) < 1000000 := by omega
      have t6 : ((0 : Int) ≤ (n : Int) + 1) = True := eq_true (by omega)
      have t7 : (n ≤ S) = True := eq_true (by omega)
      have t8 : (n + 1 ≤ S) = True := eq_true (by omega)
      have t9' : ((n : Int) + 1 ≤ (S : Int)) = True := eq_true (by omega)
      have hwr : ∀ z : Int, z = (n : Int) + 1 → IntKind.i64.wrap z = z := fun z hz => by rw [IntKind.wrap_i64]; omega
      rw [hN] at hv
      subst hv
      clear h h64 e hu hu1 hu2 ho hs z2 hvc hN hn hxn hB hB2 h4 hn0 hlt b1 r1 kH hw1 k1 hb
      go_enter Try.func28, Try.ntmps28
      go_upto_region 9 with (go_at_call 37; refine hnm.mono ?_; rintro e1 w1 ⟨rfl, rfl⟩)
      go_region_law (refine step_ow Try.prog _ rfl (.tmp 59) (.tmp 68) 23 rfl 43 i0 _ 2 32 Try.underlying23 hi hz0 hz1 hz2 rfl (by decide) lo (.slice va N vc) N _ (by go_simp) hm1 H 0 1 _ rfl (by go_simp) hnews h1c AN.out.1 AN.out.2 ?_; intro g cap w2 hgot; have e4 := (hk2 _ _ _ _ hgot).1; have f4 := (hk2 _ _ _ _ hgot).2)
      all_goals
        go_wp2_with fail
        first | go_end0 | (refine bodyPost_ret (results_none rfl _ _ _) rfl ?_)
        have ae := A.out
        rw [← AU.out.1, ← AU.out.2, ← ae.2.2.1] at hgot
        have k2 := ae.1.cells.got hgot (by decide)
        refine ⟨rfl, (ae.2.1.got hgot).set ae.1.le, Or.inl ⟨by rw [ae.2.2.2.2], .slice (some ⟨g, 0, none⟩) (N + 1) cap, ?_⟩⟩
        rw [ae.2.2.2.2]
        refine ⟨k2.set 0 _, ?_, ae.1.le⟩
        have how := hgot.ow
        rw [← fc_append] at how
        simp only [List.length_append, List.length_singleton, ae.2.2.2.1]
        exact how.set k2 (by decide)
theorem rline_c {s : List Nat} (hs : s ≠ []) (ho : Oct s) (hb : s.length < 1000000) (hFb : ∀ f ∈ F, f.2.length < 1000000) (h64 : F.length ≤ 64) (h : Rr w lo Rb t vf F) : Calls Try.prog 28 #[.pointer (some ⟨Rb, 0, none⟩), .string (st s)] w fun e w' => e = .returned (.tuple #[]) ∧ RlTo w lo Rb t F s w' := by
  cases s with
  | nil => exact absurd rfl hs
  | cons x s' =>
    cases hB : isB x with
    | true => exact rline_blank x s' rfl ho hB hb hFb h64 h
    | false => exact rline_other x s' rfl ho hB hb h64 h
end
end Go.Proofs.Ytmlkdpoignimaaa

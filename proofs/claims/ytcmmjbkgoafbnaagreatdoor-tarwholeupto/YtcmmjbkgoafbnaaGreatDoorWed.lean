/-
  The walker's steps: endData, begin, keep.
-/
import Derived.Test.YtcmmjbkgoafbnaaGreatDoorWrd
import Derived.Test.YtcmmjbkgoafbnaaGreatDoorWtx
namespace Go.Proofs.YtcmmjbkgoafbnaaGreatDoor
open Go.RowKit
set_option linter.unusedVariables false
set_option linter.unusedSimpArgs false
/-- What a step of the walker comes to. -/
structure Wp (W : Nat) (s' : Ts) (v' : Rv) (w : World) (e : Ending) (w' : World) : Prop where
  re : e = .returned (.tuple #[])
  wm : Wm w' W s' v'
  bu : But W w w'
  er : Er w'
/-- Something closes, where it was a file. -/
def vcl (us : Nat) (v : Rv) : Rv := if us = 1 then { v with cl := true } else v
theorem tend_no {s : Ts} (h0 : s.why = 0) (h2 : s.us ≠ 2) (h3 : s.us ≠ 3) : tend s = s := by
  unfold tend tfin
  rw [if_neg h2, if_neg h3, ← h0]
theorem tend_two {s : Ts} (h2 : s.us = 2) : tend s = { tcs s (tnam (ttx (s.K.take s.ln)) (s.nm, s.sz)).1 with why := (tnam (ttx (s.K.take s.ln)) (s.nm, s.sz)).2 } := by
  unfold tend tfin
  rw [if_pos h2]; rfl
theorem tend_three {s : Ts} (h2 : s.us = 3) : tend s = { tcs s (trr (s.K.take s.ln) (s.nm, s.sz)).1 with why := (trr (s.K.take s.ln) (s.nm, s.sz)).2 } := by
  unfold tend tfin
  rw [if_neg (by omega), if_pos h2]; rfl
section
variable {W : Nat} {s : Ts} {v : Rv}
set_option maxRecDepth 20000 in
set_option maxHeartbeats 1000000 in
theorem endData_c (w : World) (h : Wm w W s v) (h0 : s.why = 0) (he : Er w) (hW : 3 ≤ W) : Calls Tryz.prog 47 #[.pointer (some ⟨W, 0, none⟩)] w fun e w' => Wp W (tend s) (vcl s.us v) w e w' := by
  have c1 := h.k514
  have hus := h.ok.us
  have A : Aside (Wm w W s v ∧ s.why = 0 ∧ Er w ∧ 3 ≤ W) := ⟨h, h0, he, hW⟩
  by_cases h1 : s.us = 1
  · have AT : Aside (tend s = s ∧ vcl s.us v = { v with cl := true }) := ⟨tend_no h0 (by omega) (by omega), by unfold vcl; rw [if_pos h1]⟩
    rw [h1] at c1
    have c2 := h.k1550
    have f2 := h.fz 1550
    clear h h0 he hW hus h1
    go_enter Tryz.func47, Tryz.ntmps47
    go_wp2_with fail
    first | go_end0 | (refine bodyPost_ret (results_none rfl _ _ _) rfl ?_)
    have a0 := A.out
    have o : Only W w (w.setCell ⟨W, 1550, none⟩ (.bool true)) := (Only.refl W w).setCell 1550 _
    rw [AT.out.1, AT.out.2]
    exact ⟨rfl, a0.1.s1550 true, But.of_only o, a0.2.2.1.but (But.of_only o) a0.2.2.2⟩
  · have hv : vcl s.us v = v := by unfold vcl; rw [if_neg h1]
    by_cases h2 : s.us = 2
    · have hk := h.ok
      have htl : (s.K.take s.ln).length = s.ln := by rw [List.length_take]; have := hk.kl; have := hk.ln; omega
      have htx := text_c (b := W) (o := 516) (C := 1024) w.drew htl (hk.ko.take _) hk.ln (by decide) h.lt (fun i x hx => by
        rw [List.getElem?_take] at hx
        split at hx
        · exact h.drew.kk hx
        · cases hx)
      obtain ⟨r, hr⟩ : ∃ r, tnam (ttx (s.K.take s.ln)) (s.nm, s.sz) = r := ⟨_, rfl⟩
      have hsn : ∀ u, Below w.drew.heap.size w.drew u → Calls Tryz.prog 57 #[.pointer (some ⟨W, 1541, none⟩), .string (st (ttx (s.K.take s.ln)))] u fun e w' => Cr W s v r u e w' := fun u bu => by
        have := setName_c (s := s) (v := v) (ttx (s.K.take s.ln)) (oct_ttx (hk.ko.take _)) (by have := ttx_len (s.K.take s.ln); have := hk.ln; omega) u (h.drew.below bu h.lt) (he.drew.below bu he.1) hW
        rw [hr] at this
        exact this
      have hd0 := h.drew.k1540
      have hd1 : ∀ u, Below w.drew.heap.size w.drew u → u.cell? ⟨W, 1540, none⟩ = some (.int .i64 (s.ln : Int)) := fun u bu => (h.drew.below bu h.lt).k1540
      have t1 : (s.ln : Int) ≤ 1024 := by have := hk.ln; omega
      have AT : Aside (tend s = { tcs s r.1 with why := r.2 } ∧ vcl s.us v = v) := ⟨by rw [tend_two h2, hr], hv⟩
      rw [h2] at c1
      clear h h0 he hW hus h1 h2 hk htl hr hv
      go_enter Tryz.func47, Tryz.ntmps47
      go_upto_region 4 with fail
      go_region_held3 (fun u => u.cell? ⟨W, 1540, none⟩ = some (.int .i64 (s.ln : Int))) (first | exact hd0 | exact hd1 _ b1 | exact k2.k1540 | exact (k2.s1552 _).k1540) (first | (go_at_call 58; refine htx.mono ?_; rintro e1 w1 ⟨rfl, b1⟩; have hsn1 := hsn w1 b1) | (go_at_call 57; refine hsn1.mono ?_; rintro e2 w2 ⟨rfl, k2, b2, r2⟩; have c2 := k2.k1552; have f2 := k2.fz 1552))
      go_wp2_with fail
      first | go_end0 | (refine bodyPost_ret (results_none rfl _ _ _) rfl ?_)
      have a0 := A.out
      rw [AT.out.1, AT.out.2]
      have o : Only W w2 (w2.setCell ⟨W, 1552, none⟩ (.int .i64 (r.2 : Int))) := (Only.refl W w2).setCell 1552 _
      have bb : But W w (w2.setCell ⟨W, 1552, none⟩ (.int .i64 (r.2 : Int))) := (((But.of_below (Below.drewN2 (Below.refl _ w) 1)).trans (But.of_below b1)).trans b2).trans (But.of_only o)
      exact ⟨rfl, k2.s1552 r.2, bb, a0.2.2.1.but bb a0.2.2.2⟩
    · by_cases h3 : s.us = 3
      · have hk := h.ok
        obtain ⟨r, hr⟩ : ∃ r, trr (s.K.take s.ln) (s.nm, s.sz) = r := ⟨_, rfl⟩
        have hrd := read_c w.drew h.drew he.drew hW
        rw [hr] at hrd
        have hd0 := h.drew.k1540
        have t1 : (s.ln : Int) ≤ 1024 := by have := hk.ln; omega
        have AT : Aside (tend s = { tcs s r.1 with why := r.2 } ∧ vcl s.us v = v) := ⟨by rw [tend_three h3, hr], hv⟩
        rw [h3] at c1
        clear h h0 he hW hus h1 h2 hk hr hv h3
        go_enter Tryz.func47, Tryz.ntmps47
        go_upto_region 6 with fail
        go_region_held3 (fun u => u.cell? ⟨W, 1540, none⟩ = some (.int .i64 (s.ln : Int))) (first | exact hd0 | exact k2.k1540 | exact (k2.s1552 _).k1540) ((go_at_call 59; refine hrd.mono ?_; rintro e2 w2 ⟨rfl, k2, b2, r2⟩; have c2 := k2.k1552; have f2 := k2.fz 1552))
        go_wp2_with fail
        first | go_end0 | (refine bodyPost_ret (results_none rfl _ _ _) rfl ?_)
        have a0 := A.out
        rw [AT.out.1, AT.out.2]
        have o : Only W w2 (w2.setCell ⟨W, 1552, none⟩ (.int .i64 (r.2 : Int))) := (Only.refl W w2).setCell 1552 _
        have bb : But W w (w2.setCell ⟨W, 1552, none⟩ (.int .i64 (r.2 : Int))) := ((But.of_below (Below.drewN2 (Below.refl _ w) 1)).trans b2).trans (But.of_only o)
        exact ⟨rfl, k2.s1552 r.2, bb, a0.2.2.1.but bb a0.2.2.2⟩
      · have h4 : s.us = 0 := by omega
        have AT : Aside (tend s = s ∧ vcl s.us v = v) := ⟨tend_no h0 h2 h3, hv⟩
        rw [h4] at c1
        clear h h0 he hW hus h1 h2 h3 h4 hv
        go_enter Tryz.func47, Tryz.ntmps47
        go_wp2_with fail
        first | go_end0 | (refine bodyPost_ret (results_none rfl _ _ _) rfl ?_)
        have a0 := A.out
        rw [AT.out.1, AT.out.2]
        exact ⟨rfl, a0.1, But.refl _ _, a0.2.2.1⟩
end
end Go.Proofs.YtcmmjbkgoafbnaaGreatDoor

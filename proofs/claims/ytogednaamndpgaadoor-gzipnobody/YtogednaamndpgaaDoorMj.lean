/-
  Own texts of this seat, one behind the other: what each says stands ahead of it.
-/
import Derived.Test.YtogednaamndpgaaDoorMi
import Derived.Test.YtogednaamndpgaaDoorMg
import Derived.Deep.RegionHeld3
import Derived.Test.YtogednaamndpgaaDoorMh
/-
  What the step that takes a length of the row comes to.
-/
namespace Go.Proofs.YtogednaamndpgaaDoor
open Go.RowKit
set_option linter.unusedVariables false
section
variable {B D b R : Nat} {f : Nat → Value} {bs : List Bool} {most : Nat}
set_option maxHeartbeats 1000000 in
theorem codeLength_s (w : World) {last : Bool} {a c : Nat} {code l : List Nat} {pos : Nat} {out times : List Nat} (hI : Is w B D b R f bs ⟨.dsym last a c code l, pos, out, times⟩) (hO : Op f) : StepOk 64 B D b R bs most ⟨.dsym last a c code l, pos, out, times⟩ w := by
  obtain ⟨k2, k5, pl⟩ := id hI.at_
  have hle' : pos ≤ bs.length := hI.le
  have hm' : Bs w B D b R f (bs.drop pos) (win out) := hI.mem
  obtain ⟨L, hL⟩ : ∃ L, l.length = L := ⟨_, rfl⟩
  have c11 := (hm'.cell (show 11 < 355 by decide)).trans (congrArg some pl.have_)
  rw [hL] at c11
  have c8 := (hm'.cell (show 8 < 355 by decide)).trans (congrArg some pl.c8)
  have c9 := (hm'.cell (show 9 < 355 by decide)).trans (congrArg some pl.c9)
  have A : Aside (Is w B D b R f bs ⟨.dsym last a c code l, pos, out, times⟩ ∧ Op f ∧ pos ≤ bs.length ∧ Bs w B D b R f (bs.drop pos) (win out)) := ⟨hI, hO, hle', hm'⟩
  have AK : Aside (f 2 = fnv D 64 ∧ f 5 = .bool last ∧ Pl w B f a c code l ∧ l.length = L) := ⟨k2, k5, pl, hL⟩
  have haI : (a : Int) < 300 := by have := pl.a2; omega
  have hcI : (c : Int) < 40 := by have := pl.b2; omega
  have hLac : L ≤ a + c := by rw [← hL]; exact pl.len
  unfold StepOk
  by_cases hfull : L = a + c
  · have t1 : ((L : Int) == (a : Int) + (c : Int)) = true := by rw [beq_iff_eq]; omega
    have AF : Aside (L = a + c) := hfull
    clear hI hO hle' hm' k2 k5 pl hL hLac hfull
    go_enter Tryd.func64, Tryd.ntmps64
    go_upto_region 2 with fail
    go_quiet (fail)
    have hd := dynCodes_c _ (A.out.2.2.2.drewN nq) (AK.out.2.2.1.mono ((Fm.refl B w).drewN nq) rfl rfl rfl rfl (fun _ _ => rfl)) (AK.out.2.2.2.trans AF.out)
    go_wp2_with (go_at_call 77; refine hd.mono ?_; rintro e2 w2 ⟨hf2, ⟨hbad, rfl, hb2⟩ | ⟨hgood, rfl, f', hb2, g2, g6, g7, g3, g4, g5, gr⟩⟩)
    · first | go_ret | go_ret2
      have a' := A.out
      have hf : Fm B w w2 := ((Fm.refl B w).drewN nq).trans hf2
      refine ⟨false, rfl, hf, Res.over (c' := ⟨.bad 12, pos, out, times⟩) (Runs.one ?_) (a'.1.bad a'.2.1 hf hb2 12 (by decide) rfl rfl rfl rfl rfl rfl) rfl⟩
      unfold step
      simp only []
      rw [if_neg (by rw [AK.out.2.2.2, AF.out]; omega), if_pos hbad]
    · first | go_ret | go_ret2
      have a' := A.out
      have hf : Fm B w w2 := ((Fm.refl B w).drewN nq).trans hf2
      refine ⟨true, rfl, hf, Res.next (c' := ⟨.sym last (l.take a) (l.drop a), pos, out, times⟩) (Runs.one ?_) (a'.1.to hf hb2 ⟨g2, g5.trans AK.out.2.1, g6, g7⟩ g3 g4 a'.2.2.1) (a'.2.1.to (gr 352 (by decide)) (gr 353 (by decide)) (gr 354 (by decide))) rfl ?_⟩
      · unfold step
        simp only []
        rw [if_neg (by rw [AK.out.2.2.2, AF.out]; omega), if_neg hgood]
      · unfold mu rk
        simp only []
        omega
  · have t1 : ((L : Int) == (a : Int) + (c : Int)) = false := by rw [beq_eq_false_iff_ne]; omega
    have AF : Aside (L < a + c) := (show L < a + c by omega)
    have c31 := hm'.cell (show 31 < 355 by decide)
    obtain ⟨v31, hv31⟩ : ∃ v, f 31 = v := ⟨_, rfl⟩
    have tb := pl.tbl
    rw [hv31] at c31 tb
    have A31 : Aside (f 31 = v31 ∧ Tbl w B v31 code) := ⟨hv31, tb⟩
    clear hI hO hle' hm' k2 k5 pl hL hLac hfull hv31 tb
    go_enter Tryd.func64, Tryd.ntmps64
    go_upto_region 2 with fail
    go_quiet (fail)
    have hread := pread_c v31 code _ (A.out.2.2.2.drewN nq) (A31.out.2.fm ((Fm.refl B w).drewN nq))
    have h31 : (w.drewN nq).cell? ⟨D, 31, none⟩ = some v31 := c31
    obtain ⟨w1, hw1⟩ : ∃ w1, w.drewN nq = w1 := ⟨_, rfl⟩
    have A1 : Aside (Fm B w w1) := (by show Fm B w w1; rw [← hw1]; exact (Fm.refl B w).drewN nq)
    rw [hw1] at hread h31 ⊢
    clear c31 c8 c9 c11 hw1
    cases hs : sread code (bs.drop pos) using SR.el with
    | cut =>
      rw [hs] at hread
      have AS : Aside (sread code (bs.drop pos) = .cut) := hs
      clear hs
      go_wp2_with (go_at_call 50; refine hread.mono ?_; rintro e2 w2 ⟨hf2, rfl, hb2⟩)
      first | go_ret | go_ret2
      have a' := A.out
      have hf : Fm B w w2 := A1.out.trans hf2
      refine ⟨false, rfl, hf, Res.want (a'.1.same hf hb2) a'.2.1 ?_ ?_ (fun y => by simp) (by simp)⟩
      · have := cut_short AS.out A31.out.2.le15
        rw [List.length_drop] at this
        show bs.length < pos + 32
        omega
      · unfold step
        simp only [AS.out]
        rw [if_pos (by rw [AK.out.2.2.2]; exact AF.out)]
    | bad j =>
      rw [hs] at hread
      have AS : Aside (sread code (bs.drop pos) = .bad j) := hs
      clear hs
      go_wp2_with (go_at_call 50; refine hread.mono ?_; rintro e2 w2 ⟨hf2, rfl, hb2⟩)
      first | go_ret | go_ret2
      have a' := A.out
      have hf : Fm B w w2 := A1.out.trans hf2
      refine ⟨false, rfl, hf, Res.over (c' := ⟨.bad 13, pos + j, out, times⟩) (Runs.one ?_) (a'.1.bad a'.2.1 hf hb2 13 (by decide) rfl rfl rfl rfl rfl rfl) rfl⟩
      unfold step
      simp only [AS.out]
      rw [if_pos (by rw [AK.out.2.2.2]; exact AF.out)]
    | got s n =>
      rw [hs] at hread
      have AS : Aside (sread code (bs.drop pos) = .got s n) := hs
      have hn : Aside (pos + n ≤ bs.length ∧ 0 < n ∧ s < 19) := ⟨sread_end hs A.out.2.2.1, by have := sread_le (ls := code) (h := bs.drop pos); rw [hs] at this; exact this.2.1, by have := got_lt hs; rw [AK.out.2.2.1.code] at this; exact this⟩
      have hst : ∀ st, (if s < 16 then .dsym last a c code (l ++ [s]) else if s = 16 ∧ l = [] then .bad 12 else .drep last a c code l s) = st → step bs most ⟨.dsym last a c code l, pos, out, times⟩ = some ⟨st, pos + n, out, times⟩ := fun st h => by
        unfold step
        simp only [AS.out]
        rw [if_pos (by rw [AK.out.2.2.2]; exact AF.out), h]
      have AST : Aside (∀ st, (if s < 16 then .dsym last a c code (l ++ [s]) else if s = 16 ∧ l = [] then .bad 12 else .drep last a c code l s) = st → step bs most ⟨.dsym last a c code l, pos, out, times⟩ = some ⟨st, pos + n, out, times⟩) := hst
      clear hs hst
      by_cases h16 : s < 16
      · have t2 : ((s : Int) < 16) = True := eq_true (by omega)
        have A16 : Aside (s < 16) := h16
        clear h16
        go_upto_region 8 with (go_at_call 50; refine hread.mono ?_; rintro e2 w2 ⟨hf2, rfl, hb2⟩)
        have p := AK.out.2.2.1
        have hLt : L < 316 := by have := AF.out; have := p.a2; have := p.b2; omega
        have d11 := (hb2.cell (show 11 < 355 by decide)).trans (congrArg some (by rw [p.have_, AK.out.2.2.2]))
        have dL := hb2.cell (show 32 + L < 355 by omega)
        have zL := hb2.fz (32 + L)
        have t3 : ((L : Int) < 316) = True := eq_true (by omega)
        have t3' : (L < 316) = True := eq_true hLt
        have A2 : Aside (Bs w2 B D b R f ((bs.drop pos).drop n) (win out) ∧ Fm B w w2 ∧ L < 316) := ⟨hb2, A1.out.trans hf2, hLt⟩
        clear hb2 hf2 p hread h31 hLt
        go_region
        have hb3 := (A2.out.1.set (32 + L) (.int .i64 (s : Int)) (by omega)).drew
        have hf3 : Fm B w (w2.setCell ⟨D, 32 + L, none⟩ (.int .i64 (s : Int))).drew := (A2.out.2.1.trans (A2.out.1.fmD ((Only.refl D w2).setCell (32 + L) _))).drew
        obtain ⟨w3, hw3⟩ : ∃ w3, (w2.setCell ⟨D, 32 + L, none⟩ (.int .i64 (s : Int))).drew = w3 := ⟨_, rfl⟩
        rw [hw3] at hb3 hf3 ⊢
        have e11 : upd f (32 + L) (.int .i64 (s : Int)) 11 = .int .i64 (L : Int) := (upd_ne _ _ (by omega)).trans (by rw [AK.out.2.2.1.have_, AK.out.2.2.2])
        have g11 := (hb3.cell (show 11 < 355 by decide)).trans (congrArg some e11)
        have y11 := hb3.fz 11
        have hLI : (L : Int) < 400 := by have := A2.out.2.2; omega
        have A3 : Aside (Bs w3 B D b R (upd f (32 + L) (.int .i64 (s : Int))) ((bs.drop pos).drop n) (win out) ∧ Fm B w w3) := ⟨hb3, hf3⟩
        clear hw3 hb3 hf3 e11 d11 dL zL t3 t3'
        go_wp2_with fail
        first | go_ret | go_ret2
        have a' := A.out
        have p := AK.out.2.2.1
        have hb4 := A3.out.1.set 11 (.int .i64 ((L : Int) + 1)) (by decide)
        have hf4 : Fm B w (w3.setCell ⟨D, 11, none⟩ (.int .i64 ((L : Int) + 1))) := A3.out.2.trans (A3.out.1.fmD ((Only.refl D w3).setCell 11 _))
        rw [List.drop_drop] at hb4
        have u : ∀ m, m ≠ 11 → m < 32 ∨ 348 ≤ m → upd (upd f (32 + L) (.int .i64 (s : Int))) 11 (.int .i64 ((L : Int) + 1)) m = f m := fun m h1 h2 => by
          have := A2.out.2.2
          rw [upd_ne _ _ h1, upd_ne _ _ (by omega)]
        refine ⟨true, rfl, hf4, Res.next (c' := ⟨.dsym last a c code (l ++ [s]), pos + n, out, times⟩) (Runs.one (AST.out _ (if_pos A16.out))) (a'.1.to hf4 hb4 ⟨(u 2 (by decide) (by decide)).trans AK.out.1, (u 5 (by decide) (by decide)).trans AK.out.2.1, p.a1, p.a2, p.b1, p.b2, (u 8 (by decide) (by decide)).trans p.c8, (u 9 (by decide) (by decide)).trans p.c9, ?_, ?_, ?_, ?_, p.code⟩ (u 3 (by decide) (by decide)) (u 4 (by decide) (by decide)) hn.out.1) (a'.2.1.to (u 352 (by decide) (by decide)) (u 353 (by decide) (by decide)) (u 354 (by decide) (by decide))) rfl ?_⟩
        · rw [upd_same, List.length_append, AK.out.2.2.2]
          rfl
        · rw [List.length_append, AK.out.2.2.2]
          exact AF.out
        · intro j x hx
          rw [upd_ne _ _ (by omega)]
          rw [List.getElem?_append] at hx
          split at hx
          · rename_i hjl
            rw [upd_ne _ _ (by rw [AK.out.2.2.2] at hjl; omega)]
            exact p.row j x hx
          · rename_i hjl
            rw [AK.out.2.2.2] at hjl hx
            have hj1 : j - L = 0 := by
              have := (List.getElem?_eq_some_iff.1 hx).1
              rw [List.length_singleton] at this
              omega
            rw [hj1] at hx
            cases hx
            rw [show 32 + j = 32 + L by omega, upd_same]
        · rw [u 31 (by decide) (by decide)]
          exact p.tbl.fm hf4
        · unfold mu rk
          simp only []
          have := hn.out
          omega
      · have t2 : ((s : Int) < 16) = False := eq_false (by omega)
        by_cases hz : s = 16 ∧ L = 0
        · obtain ⟨rfl, rfl⟩ := hz
          have hl0 : Aside (l = []) := List.eq_nil_of_length_eq_zero AK.out.2.2.2
          have hL0 : f 11 = .int .i64 0 := by rw [AK.out.2.2.1.have_, AK.out.2.2.2]; rfl
          clear h16 t2
          go_wp2_with (first
            | (go_at_call 50; refine hread.mono ?_; rintro e2 w2 ⟨hf2, rfl, hb2⟩
               have d11 := (hb2.cell (show 11 < 355 by decide)).trans (congrArg some hL0)
               have hst := pstop_c 12 w2 hb2)
            | (go_at_call 43; refine hst.mono ?_; rintro e3 w3 ⟨rfl, hb3, hf3⟩))
          first | go_ret | go_ret2
          have a' := A.out
          have hf : Fm B w w3 := (A1.out.trans hf2).trans hf3
          exact ⟨false, rfl, hf, Res.over (c' := ⟨.bad 12, pos + n, out, times⟩) (Runs.one (AST.out _ (by rw [if_neg (by decide), if_pos (by simp [hl0.out])]))) (a'.1.bad a'.2.1 hf hb3 12 (by decide) rfl rfl rfl rfl rfl rfl) rfl⟩
        · have AZ : Aside (¬ s < 16 ∧ ¬ (s = 16 ∧ L = 0)) := ⟨h16, hz⟩
          have hsI : (s : Int) < 400 := by have := hn.out; omega
          have hL11 : f 11 = .int .i64 (L : Int) := by rw [AK.out.2.2.1.have_, AK.out.2.2.2]
          have hfin : ∀ (w2 w3 : World), Fm B w1 w2 → Bs w2 B D b R f ((bs.drop pos).drop n) (win out) → Bs w3 B D b R (upd (upd f 348 (.int .i64 (s : Int))) 2 (fnv D 78)) ((bs.drop pos).drop n) (win out) → Fm B (w2.setCell ⟨D, 348, none⟩ (.int .i64 (s : Int))) w3 → Fm B w w3 ∧ Res B D b R bs most ⟨.dsym last a c code l, pos, out, times⟩ true w3 := fun w2 w3 hf2 hb2 hb3 hf3 => by
            have a' := A.out
            have p := AK.out.2.2.1
            have hf : Fm B w w3 := ((A1.out.trans hf2).trans (hb2.fmD ((Only.refl D w2).setCell 348 _))).trans hf3
            rw [List.drop_drop] at hb3
            have z := AZ.out
            refine ⟨hf, Res.next (c' := ⟨.drep last a c code l s, pos + n, out, times⟩) (Runs.one (AST.out _ ?_)) (a'.1.to hf hb3 ⟨rfl, AK.out.2.1, p.mono hf rfl rfl rfl rfl (fun j hj => by rw [upd_ne _ _ (by omega), upd_ne _ _ (by omega)]), rfl, by omega, by have := hn.out; omega, ?_⟩ rfl rfl hn.out.1) (a'.2.1.to rfl rfl rfl) rfl ?_⟩
            · rw [if_neg z.1, if_neg (fun h => z.2 ⟨h.1, by rw [← AK.out.2.2.2, h.2]; rfl⟩)]
            · intro h h'
              exact z.2 ⟨h, by rw [← AK.out.2.2.2, h']; rfl⟩
            · unfold mu rk
              simp only []
              have := hn.out
              omega
          have AFIN : Aside (∀ (w2 w3 : World), Fm B w1 w2 → Bs w2 B D b R f ((bs.drop pos).drop n) (win out) → Bs w3 B D b R (upd (upd f 348 (.int .i64 (s : Int))) 2 (fnv D 78)) ((bs.drop pos).drop n) (win out) → Fm B (w2.setCell ⟨D, 348, none⟩ (.int .i64 (s : Int))) w3 → Fm B w w3 ∧ Res B D b R bs most ⟨.dsym last a c code l, pos, out, times⟩ true w3) := hfin
          clear hfin
          by_cases h16' : s = 16
          · have t4 : ((s : Int) == 16) = true := by rw [beq_iff_eq]; omega
            have t5 : ((L : Int) == 0) = false := by rw [beq_eq_false_iff_ne]; have := AZ.out; omega
            clear h16 hz h16'
            go_wp2_with (first
              | (go_at_call 50; refine hread.mono ?_; rintro e2 w2 ⟨hf2, rfl, hb2⟩
                 have d11 := (hb2.cell (show 11 < 355 by decide)).trans (congrArg some hL11)
                 have d8 := hb2.cell (show 348 < 355 by decide)
                 have z8 := hb2.fz 348
                 have hth := pthen_c 78 _ (hb2.set 348 (.int .i64 (s : Int)) (by decide)))
              | (go_at_call 38; refine hth.mono ?_; rintro e3 w3 ⟨rfl, hb3, hf3⟩))
            first | go_ret | go_ret2
            have q := AFIN.out w2 w3 hf2 hb2 hb3 hf3
            exact ⟨true, rfl, q.1, q.2⟩
          · have t4 : ((s : Int) == 16) = false := by rw [beq_eq_false_iff_ne]; omega
            clear h16 hz h16'
            go_wp2_with (first
              | (go_at_call 50; refine hread.mono ?_; rintro e2 w2 ⟨hf2, rfl, hb2⟩
                 have d11 := (hb2.cell (show 11 < 355 by decide)).trans (congrArg some hL11)
                 have d8 := hb2.cell (show 348 < 355 by decide)
                 have z8 := hb2.fz 348
                 have hth := pthen_c 78 _ (hb2.set 348 (.int .i64 (s : Int)) (by decide)))
              | (go_at_call 38; refine hth.mono ?_; rintro e3 w3 ⟨rfl, hb3, hf3⟩))
            first | go_ret | go_ret2
            have q := AFIN.out w2 w3 hf2 hb2 hb3 hf3
            exact ⟨true, rfl, q.1, q.2⟩
end
end Go.Proofs.YtogednaamndpgaaDoor

/-
  What the step that lays a run of lengths comes to.
-/
namespace Go.Proofs.YtogednaamndpgaaDoor
open Go.RowKit
set_option linter.unusedVariables false
theorem run_tabs : ∀ s, 16 ≤ s → s ≤ 18 → ([2, 3, 7].getD (s - 16) 0 = if s = 16 then 2 else if s = 17 then 3 else 7) ∧ ([3, 3, 11].getD (s - 16) 0 = if s = 18 then 11 else 3) := by
  intro s h1 h2
  rcases (show s = 16 ∨ s = 17 ∨ s = 18 by omega) with rfl | rfl | rfl <;> decide
section
variable {B D b R : Nat} {f : Nat → Value} {bs : List Bool} {most : Nat}
set_option maxHeartbeats 1000000 in
theorem runOfLengths_s (w : World) {last : Bool} {a c s : Nat} {code l : List Nat} {pos : Nat} {out times : List Nat} (hI : Is w B D b R f bs ⟨.drep last a c code l s, pos, out, times⟩) (hO : Op f) : StepOk 78 B D b R bs most ⟨.drep last a c code l s, pos, out, times⟩ w := by
  obtain ⟨k2, k5, pl, k8, k9, k10, k11⟩ := id hI.at_
  have hle' : pos ≤ bs.length := hI.le
  have hm' : Bs w B D b R f (bs.drop pos) (win out) := hI.mem
  obtain ⟨L, hL⟩ : ∃ L, l.length = L := ⟨_, rfl⟩
  obtain ⟨r, hr⟩ : ∃ r, s - 16 = r := ⟨_, rfl⟩
  obtain ⟨m, hm⟩ : ∃ m, (if s = 16 then 2 else if s = 17 then 3 else 7) = m := ⟨_, rfl⟩
  obtain ⟨mb, hmb⟩ : ∃ mb, (if s = 18 then 11 else 3) = mb := ⟨_, rfl⟩
  have hr3 : r < 3 := by omega
  have hm7 : m ≤ 7 ∧ 2 ≤ m := by rw [← hm]; split <;> (try split) <;> omega
  have hmb11 : mb ≤ 11 ∧ 3 ≤ mb := by rw [← hmb]; split <;> omega
  have hrt := run_tabs s k9 k10
  rw [hr, hm, hmb] at hrt
  have c8 := (hm'.cell (show 348 < 355 by decide)).trans (congrArg some k8)
  have c0 := (hm'.cell (show 0 < 355 by decide)).trans (congrArg some hm'.c0)
  have A : Aside (Is w B D b R f bs ⟨.drep last a c code l s, pos, out, times⟩ ∧ Op f ∧ pos ≤ bs.length ∧ Bs w B D b R f (bs.drop pos) (win out)) := ⟨hI, hO, hle', hm'⟩
  have AK : Aside (f 2 = fnv D 78 ∧ f 5 = .bool last ∧ Pl w B f a c code l ∧ l.length = L ∧ f 348 = .int .i64 (s : Int) ∧ 16 ≤ s ∧ s ≤ 18 ∧ (s = 16 → l ≠ [])) := ⟨k2, k5, pl, hL, k8, k9, k10, k11⟩
  have AM : Aside (s - 16 = r ∧ (if s = 16 then 2 else if s = 17 then 3 else 7) = m ∧ (if s = 18 then 11 else 3) = mb ∧ r < 3 ∧ m ≤ 7 ∧ mb ≤ 11 ∧ 3 ≤ mb ∧ 2 ≤ m) := ⟨hr, hm, hmb, hr3, hm7.1, hmb11.1, hmb11.2, hm7.2⟩
  have hsr : (s : Int) - 16 = (r : Int) := by omega
  have hsI : (s : Int) < 19 := by omega
  have ht : ∀ u, Fm B w.drew u → u.cell? ⟨6, r, none⟩ = some (.int .u8 (m : Int)) ∧ u.cell? ⟨7, r, none⟩ = some (.int .u8 (mb : Int)) := fun u hf => by
    have t := hI.tabs.below (hf.of_drew.below (by have := hm'.lt; omega)) hI.b7
    have t5 := t.t5 r hr3
    have t6 := t.t6 r hr3
    rw [hrt.1] at t5
    rw [hrt.2] at t6
    exact ⟨t5, t6⟩
  have AT : Aside (∀ u, Fm B w.drew u → u.cell? ⟨6, r, none⟩ = some (.int .u8 (m : Int)) ∧ u.cell? ⟨7, r, none⟩ = some (.int .u8 (mb : Int))) := ht
  have t0 := (ht w.drew (Fm.refl B _)).1
  have hrI : ((r : Int) < 3) = True := eq_true (by omega)
  have hrn : (r < 3) = True := eq_true hr3
  have hmw : IntKind.i64.wrap (m : Int) = (m : Int) := by rw [IntKind.wrap_i64]; omega
  have hkeep : Aside (∀ u h', Bs u B D b R f h' (win out) → Fm B w.drew u → u.cell? ⟨D, 0, none⟩ = some (.pointer (some ⟨b, 0, none⟩)) ∧ u.cell? ⟨6, r, none⟩ = some (.int .u8 (m : Int))) := fun u h' hb hf => ⟨(hb.cell (show 0 < 355 by decide)).trans (congrArg some hb.c0), (ht u hf).1⟩
  have t00 : w.cell? ⟨6, r, none⟩ = some (.int .u8 (m : Int)) := t0
  unfold StepOk
  by_cases hshort : (bs.drop pos).length < m
  · have htake := take_short m w.drew hm'.drew hshort
    have AS : Aside ((bs.drop pos).length < m) := hshort
    clear hI hO hle' hm' k2 k5 pl k8 k9 k10 k11 hr hm hmb hr3 hm7 hmb11 hrt ht hshort hL t0
    go_enter Tryd.func78, Tryd.ntmps78
    go_upto_region 2 with fail
    go_region_held3 (fun u => u.cell? ⟨D, 0, none⟩ = some (.pointer (some ⟨b, 0, none⟩)) ∧ u.cell? ⟨6, r, none⟩ = some (.int .u8 (m : Int))) (first | assumption | exact ⟨c0, t00⟩)
      (first | (go_at_call 36; refine htake.mono ?_; rintro e2 w2 ⟨rfl, rfl⟩))
    all_goals
      go_wp2_with fail
      first | go_ret | go_ret2
      have a' := A.out
      have am := AM.out
      have sh := AS.out
      rw [List.length_drop] at sh
      refine ⟨false, rfl, (Fm.refl B w).drew, Res.want (a'.1.same (Fm.refl B w).drew a'.1.mem.drew) a'.2.1 ?_ ?_ (fun y => by simp) (by simp)⟩
      · show bs.length < pos + 32
        omega
      · unfold step
        simp only [am.2.1]
        rw [num_no (by omega)]; rfl
  · obtain ⟨v, hv⟩ : ∃ v, nm ((bs.drop pos).take m) = v := ⟨_, rfl⟩
    have hvlt : v < 128 := by
      have := nm_take_lt (bs.drop pos) m
      have h2 : 2 ^ m ≤ 2 ^ 7 := Nat.pow_le_pow_right (by decide) hm7.1
      omega
    have htake := take_at m w.drew hm'.drew (by omega) (by omega) v hv
    obtain ⟨mm, hmm⟩ : ∃ mm, mb + v = mm := ⟨_, rfl⟩
    have AS : Aside (pos + m ≤ bs.length ∧ nm ((bs.drop pos).take m) = v ∧ v < 128 ∧ mb + v = mm) := ⟨by rw [List.length_drop] at hshort; omega, hv, hvlt, hmm⟩
    have hmbI : (mb : Int) + (v : Int) = (mm : Int) := by omega
    have hvI : (v : Int) < 128 := by omega
    have hmbI2 : (mb : Int) < 12 := by omega
    have hmI : (mm : Int) < 200 := by omega
    have hLI : (L : Int) < 400 := by have := pl.len; have := pl.a2; have := pl.b2; omega
    have haI : (a : Int) < 300 := by have := pl.a2; omega
    have hcI : (c : Int) < 40 := by have := pl.b2; omega
    have hstep : ∀ st, (if a + c < L + mm then St.bad 12 else .dsym last a c code (l ++ List.replicate mm (if s = 16 then l.getD (L - 1) 0 else 0))) = st → step bs most ⟨.drep last a c code l s, pos, out, times⟩ = some ⟨st, pos + m, out, times⟩ := fun st h => by
      have q := AS.out
      have am := AM.out
      unfold step
      simp only [am.2.1, am.2.2.1]
      rw [pnum_at q.1, q.2.1, Option.map_some, q.2.2.2, hL, h]
    have AST : Aside (∀ st, (if a + c < L + mm then St.bad 12 else .dsym last a c code (l ++ List.replicate mm (if s = 16 then l.getD (L - 1) 0 else 0))) = st → step bs most ⟨.drep last a c code l s, pos, out, times⟩ = some ⟨st, pos + m, out, times⟩) := hstep
    clear hI hO hle' hm' k2 k5 pl k8 k9 k10 k11 hr hm hmb hr3 hm7 hmb11 hrt ht hshort hL t0 hv hvlt hmm hstep
    go_enter Tryd.func78, Tryd.ntmps78
    go_upto_region 2 with fail
    go_region_held3 (fun u => u.cell? ⟨D, 0, none⟩ = some (.pointer (some ⟨b, 0, none⟩)) ∧ u.cell? ⟨6, r, none⟩ = some (.int .u8 (m : Int))) (first | assumption | exact ⟨c0, t00⟩ | exact hkeep.out _ _ hb2 hf2)
      (first | (go_at_call 36; refine htake.mono ?_; rintro e2 w2 ⟨rfl, hb2, hf2⟩))
    all_goals
      have d6 := (AT.out _ hf2).2
      have p := AK.out.2.2.1
      have d11 := (hb2.cell (show 11 < 355 by decide)).trans (congrArg some (by rw [p.have_, AK.out.2.2.2.1]))
      have d8 := (hb2.cell (show 8 < 355 by decide)).trans (congrArg some p.c8)
      have d9 := (hb2.cell (show 9 < 355 by decide)).trans (congrArg some p.c9)
      have ds := (hb2.cell (show 348 < 355 by decide)).trans (congrArg some AK.out.2.2.2.2.1)
      have A2 : Aside (Bs w2 B D b R f ((bs.drop pos).drop m) (win out) ∧ Fm B w w2) := ⟨hb2, hf2.of_drew⟩
      clear hb2 hf2 p htake c0 c8 t00 hkeep AT hmw
      go_upto_region 7 with fail
      by_cases hbig : a + c < L + mm
      · have t1 : ((a : Int) + (c : Int) < (L : Int) + (mm : Int)) = True := eq_true (by omega)
        have AB : Aside (a + c < L + mm) := hbig
        clear hbig
        go_quiet (fail)
        have hst := pstop_c 12 _ (A2.out.1.drewN nq)
        go_wp2_with (go_at_call 43; refine hst.mono ?_; rintro e3 w3 ⟨rfl, hb3, hf3⟩)
        first | go_ret | go_ret2
        have a' := A.out
        have hf : Fm B w w3 := (A2.out.2.drewN nq).trans hf3
        exact ⟨false, rfl, hf, Res.over (c' := ⟨.bad 12, pos + m, out, times⟩) (Runs.one (AST.out _ (if_pos AB.out))) (a'.1.bad a'.2.1 hf hb3 12 (by decide) rfl rfl rfl rfl rfl rfl) rfl⟩
      · have t1 : ((a : Int) + (c : Int) < (L : Int) + (mm : Int)) = False := eq_false (by omega)
        have AB : Aside (¬ a + c < L + mm) := hbig
        obtain ⟨x, hx⟩ : ∃ x, (if s = 16 then l.getD (L - 1) 0 else 0) = x := ⟨_, rfl⟩
        have AX : Aside ((if s = 16 then l.getD (L - 1) 0 else 0) = x) := hx
        have hmain : ∀ w3, Bs w3 B D b R f ((bs.drop pos).drop m) (win out) → Fm B w w3 → ∃ f', Bs w3 B D b R f' ((bs.drop pos).drop m) (win out) ∧ Fm B w w3 ∧ f' 11 = .int .i64 ((L + 0 : Nat) : Int) ∧ (∀ (j y : Nat), (l ++ List.replicate 0 x)[j]? = some y → f' (32 + j) = .int .i64 (y : Int)) ∧ (∀ n, n ≠ 11 → n < 32 ∨ 348 ≤ n → f' n = f n) := fun w3 h1 h2 => ⟨f, h1, h2, by rw [AK.out.2.2.1.have_, AK.out.2.2.2.1]; rfl, fun j y hy => by rw [List.replicate_zero, List.append_nil] at hy; exact AK.out.2.2.1.row j y hy, fun _ _ _ => rfl⟩
        have AMN : Aside (∀ w3, Bs w3 B D b R f ((bs.drop pos).drop m) (win out) → Fm B w w3 → ∃ f', Bs w3 B D b R f' ((bs.drop pos).drop m) (win out) ∧ Fm B w w3 ∧ f' 11 = .int .i64 ((L + 0 : Nat) : Int) ∧ (∀ (j y : Nat), (l ++ List.replicate 0 x)[j]? = some y → f' (32 + j) = .int .i64 (y : Int)) ∧ (∀ n, n ≠ 11 → n < 32 ∨ 348 ≤ n → f' n = f n)) := hmain
        clear hbig hmain
        go_quiet (fail)
        have hb3 := A2.out.1.drewN nq
        have hf3 : Fm B w (w2.drewN nq) := A2.out.2.drewN nq
        obtain ⟨w3, hw3⟩ : ∃ w3, w2.drewN nq = w3 := ⟨_, rfl⟩
        rw [hw3] at hb3 hf3 ⊢
        have gs := (hb3.cell (show 348 < 355 by decide)).trans (congrArg some AK.out.2.2.2.2.1)
        have g11 := (hb3.cell (show 11 < 355 by decide)).trans (congrArg some (show f 11 = .int .i64 (L : Int) by rw [AK.out.2.2.1.have_, AK.out.2.2.2.1]))
        have A3 : Aside (Bs w3 B D b R f ((bs.drop pos).drop m) (win out) ∧ Fm B w w3) := ⟨hb3, hf3⟩
        clear hw3 d6 d11 d8 d9 ds t1
        by_cases h16 : s = 16
        · have t2 : ((s : Int) == 16) = true := by rw [beq_iff_eq]; omega
          rw [if_pos h16] at hx
          have hL0 : 0 < L := by
            have := AK.out.2.2.2.2.2.2.2 h16
            rw [← AK.out.2.2.2.1]
            exact List.length_pos_iff.2 this
          obtain ⟨q, hq⟩ : ∃ q, L - 1 = q := ⟨_, rfl⟩
          have hqI : (L : Int) - 1 = (q : Int) := by omega
          have hq316 : q < 316 := by have := AK.out.2.2.1.len; have := AK.out.2.2.1.a2; have := AK.out.2.2.1.b2; have := AK.out.2.2.2.1; omega
          have hqL : q < l.length := by rw [AK.out.2.2.2.1]; omega
          have eq : f (32 + q) = .int .i64 (x : Int) := by
            rw [← hx, hq, List.getD_eq_getElem?_getD, List.getElem?_eq_getElem hqL]
            exact AK.out.2.2.1.row q _ (List.getElem?_eq_getElem hqL)
          have gq := (hb3.cell (show 32 + q < 355 by omega)).trans (congrArg some eq)
          have t3 : ((q : Int) < 316) = True := eq_true (by omega)
          have t3' : (q < 316) = True := eq_true hq316
          have hwq : ∀ z : Int, z = (L : Int) - 1 → IntKind.i64.wrap z = (q : Int) := by intro z hz; rw [IntKind.wrap_i64, hz]; omega
          clear h16 hx hL0 hq hqL eq hb3 hf3 hq316
          go_upto_region 11 with fail
          go_quiet (fail)
          have A4 : Aside (∃ f', Bs (w3.drewN nq) B D b R f' ((bs.drop pos).drop m) (win out) ∧ Fm B w (w3.drewN nq) ∧ f' 11 = .int .i64 ((L + 0 : Nat) : Int) ∧ (∀ (j y : Nat), (l ++ List.replicate 0 x)[j]? = some y → f' (32 + j) = .int .i64 (y : Int)) ∧ (∀ n, n ≠ 11 → n < 32 ∨ 348 ≤ n → f' n = f n)) := AMN.out _ (A3.out.1.drewN nq) (A3.out.2.drewN nq)
          obtain ⟨w4, hw4⟩ : ∃ w4, w3.drewN nq = w4 := ⟨_, rfl⟩
          rw [hw4] at A4 ⊢
          clear hw4 gs g11 gq t3 t3' hwq t2
          go_wp2_with fail
          go_loopg [72] mm (fun gg si wr => ∃ t : Nat, si = .int .i64 t ∧ Aside (t + gg = mm ∧ ∃ f', Bs wr B D b R f' ((bs.drop pos).drop m) (win out) ∧ Fm B w wr ∧ f' 11 = .int .i64 ((L + t : Nat) : Int) ∧ (∀ (j y : Nat), (l ++ List.replicate t x)[j]? = some y → f' (32 + j) = .int .i64 (y : Int)) ∧ (∀ n, n ≠ 11 → n < 32 ∨ 348 ≤ n → f' n = f n)))
          case atStart => exact ⟨0, rfl, by omega, A4.out⟩
          case round =>
            obtain ⟨t, rfl, hI⟩ := hrel
            obtain ⟨htg, f', hb5, hf5, h11, hrow, hrest⟩ := hI.out
            by_cases htm : t < mm
            · have u1 : ((t : Int) < (mm : Int)) = True := eq_true (by omega)
              have u2 : (t < mm) = True := eq_true htm
              have htI : (t : Int) < 1000 := by omega
              obtain ⟨g, hg⟩ : ∃ g, L + t = g := ⟨_, rfl⟩
              rw [hg] at h11
              have hg316 : g < 316 := by have := AB.out; have := AK.out.2.2.1.a2; have := AK.out.2.2.1.b2; omega
              have c11 := (hb5.cell (show 11 < 355 by decide)).trans (congrArg some h11)
              have cg := hb5.cell (show 32 + g < 355 by omega)
              have zg := hb5.fz (32 + g)
              have u3 : ((g : Int) < 316) = True := eq_true (by omega)
              have u3' : (g < 316) = True := eq_true hg316
              have AN : Aside (t + gk = mm ∧ Bs wr B D b R f' ((bs.drop pos).drop m) (win out) ∧ Fm B w wr ∧ f' 11 = .int .i64 (g : Int) ∧ (∀ (j y : Nat), (l ++ List.replicate t x)[j]? = some y → f' (32 + j) = .int .i64 (y : Int)) ∧ (∀ n, n ≠ 11 → n < 32 ∨ 348 ≤ n → f' n = f n) ∧ L + t = g ∧ g < 316 ∧ t < mm) := ⟨htg, hb5, hf5, h11, hrow, hrest, hg, hg316, htm⟩
              clear hI htg hb5 hf5 h11 hrow hrest hg hg316 htm
              go_upto_region 14 with fail
              go_region
              have an := AN.out
              have hb6 := (an.2.1.set (32 + g) (.int .i64 (x : Int)) (by omega)).drew
              have hf6 : Fm B w (wr.setCell ⟨D, 32 + g, none⟩ (.int .i64 (x : Int))).drew := (an.2.2.1.trans (an.2.1.fmD ((Only.refl D wr).setCell (32 + g) _))).drew
              obtain ⟨w6, hw6⟩ : ∃ w6, (wr.setCell ⟨D, 32 + g, none⟩ (.int .i64 (x : Int))).drew = w6 := ⟨_, rfl⟩
              rw [hw6] at hb6 hf6 ⊢
              have e11 : upd f' (32 + g) (.int .i64 (x : Int)) 11 = .int .i64 (g : Int) := (upd_ne _ _ (by omega)).trans an.2.2.2.1
              have y11 := (hb6.cell (show 11 < 355 by decide)).trans (congrArg some e11)
              have z11 := hb6.fz 11
              have hgI : (g : Int) < 400 := by omega
              have A6 : Aside (Bs w6 B D b R (upd f' (32 + g) (.int .i64 (x : Int))) ((bs.drop pos).drop m) (win out) ∧ Fm B w w6) := ⟨hb6, hf6⟩
              clear an hb6 hf6 hw6 e11 c11 cg zg u3 u3'
              go_wp2_with fail
              have an := AN.out
              go_roundg (gk - 1)
              case measure => omega
              case rel =>
                refine ⟨t + 1, by go_num, by omega, _, A6.out.1.set 11 (.int .i64 ((g : Int) + 1)) (by decide), A6.out.2.trans (A6.out.1.fmD ((Only.refl D w6).setCell 11 _)), ?_, ?_, ?_⟩
                · rw [upd_same, show L + (t + 1) = g + 1 by omega]; rfl
                · intro j y hy
                  rw [upd_ne _ _ (by omega)]
                  rw [List.replicate_succ', ← List.append_assoc, List.getElem?_append] at hy
                  have hlen : (l ++ List.replicate t x).length = g := by rw [List.length_append, List.length_replicate, AK.out.2.2.2.1]; exact an.2.2.2.2.2.2.1
                  rw [hlen] at hy
                  split at hy
                  · rw [upd_ne _ _ (by omega)]; exact an.2.2.2.2.1 j y hy
                  · rename_i hjg
                    have hj1 : j - g = 0 := by
                      have := (List.getElem?_eq_some_iff.1 hy).1
                      rw [List.length_singleton] at this
                      omega
                    rw [hj1] at hy
                    cases hy
                    rw [show 32 + j = 32 + g by omega, upd_same]
                · intro n h1 h2
                  have := an.2.2.2.2.2.2.2.1
                  rw [upd_ne _ _ h1, upd_ne _ _ (by omega)]
                  exact an.2.2.2.2.2.1 n h1 h2
            · have ht : t = mm := by omega
              subst ht
              have u1 : ((t : Int) < (t : Int)) = False := eq_false (by omega)
              have u2 : (t < t) = False := eq_false (by omega)
              have hth := pthen_c 64 wr hb5
              have AN : Aside (Fm B w wr ∧ f' 11 = .int .i64 ((L + t : Nat) : Int) ∧ (∀ (j y : Nat), (l ++ List.replicate t x)[j]? = some y → f' (32 + j) = .int .i64 (y : Int)) ∧ (∀ n, n ≠ 11 → n < 32 ∨ 348 ≤ n → f' n = f n)) := ⟨hf5, h11, hrow, hrest⟩
              clear hI htg hb5 hf5 h11 hrow hrest htm
              go_wp2_with (go_at_call 38; refine hth.mono ?_; rintro e7 w7 ⟨rfl, hb7, hf7⟩)
              first | go_ret | go_ret2
              have a' := A.out
              have an := AN.out
              have hf : Fm B w w7 := an.1.trans hf7
              have p := AK.out.2.2.1
              have ab := AB.out
              rw [List.drop_drop] at hb7
              have u : ∀ n, n ≠ 2 → n ≠ 11 → n < 32 ∨ 348 ≤ n → upd f' 2 (fnv D 64) n = f n := fun n h0 h1 h2 => by rw [upd_ne _ _ h0]; exact an.2.2.2 n h1 h2
              have hlen : (l ++ List.replicate t x).length = L + t := by rw [List.length_append, List.length_replicate, AK.out.2.2.2.1]
              refine ⟨true, rfl, hf, Res.next (c' := ⟨.dsym last a c code (l ++ List.replicate t x), pos + m, out, times⟩) (Runs.one (AST.out _ (by rw [if_neg ab, AX.out]))) (a'.1.to hf hb7 ⟨rfl, (u 5 (by decide) (by decide) (by decide)).trans AK.out.2.1, p.a1, p.a2, p.b1, p.b2, (u 8 (by decide) (by decide) (by decide)).trans p.c8, (u 9 (by decide) (by decide) (by decide)).trans p.c9, ?_, by rw [hlen]; omega, ?_, ?_, p.code⟩ (u 3 (by decide) (by decide) (by decide)) (u 4 (by decide) (by decide) (by decide)) AS.out.1) (a'.2.1.to (u 352 (by decide) (by decide) (by decide)) (u 353 (by decide) (by decide) (by decide)) (u 354 (by decide) (by decide) (by decide))) rfl ?_⟩
              · rw [upd_ne _ _ (by decide), an.2.1, hlen]
              · intro j y hy
                rw [upd_ne _ _ (by omega)]
                exact an.2.2.1 j y hy
              · rw [u 31 (by decide) (by decide) (by decide)]
                exact p.tbl.fm hf
              · unfold mu rk
                simp only []
                have := AM.out
                have := AS.out.1
                omega
        · have t2 : ((s : Int) == 16) = false := by rw [beq_eq_false_iff_ne]; omega
          rw [if_neg h16] at hx
          subst hx
          have A4 : Aside (∃ f', Bs w3 B D b R f' ((bs.drop pos).drop m) (win out) ∧ Fm B w w3 ∧ f' 11 = .int .i64 ((L + 0 : Nat) : Int) ∧ (∀ (j y : Nat), (l ++ List.replicate 0 0)[j]? = some y → f' (32 + j) = .int .i64 (y : Int)) ∧ (∀ n, n ≠ 11 → n < 32 ∨ 348 ≤ n → f' n = f n)) := AMN.out _ A3.out.1 A3.out.2
          clear h16 hb3 hf3
          go_upto_region 12 with fail
          clear gs g11 t2
          go_wp2_with fail
          go_loopg [72] mm (fun gg si wr => ∃ t : Nat, si = .int .i64 t ∧ Aside (t + gg = mm ∧ ∃ f', Bs wr B D b R f' ((bs.drop pos).drop m) (win out) ∧ Fm B w wr ∧ f' 11 = .int .i64 ((L + t : Nat) : Int) ∧ (∀ (j y : Nat), (l ++ List.replicate t 0)[j]? = some y → f' (32 + j) = .int .i64 (y : Int)) ∧ (∀ n, n ≠ 11 → n < 32 ∨ 348 ≤ n → f' n = f n)))
          case atStart => exact ⟨0, rfl, by omega, A4.out⟩
          case round =>
            obtain ⟨t, rfl, hI⟩ := hrel
            obtain ⟨htg, f', hb5, hf5, h11, hrow, hrest⟩ := hI.out
            by_cases htm : t < mm
            · have u1 : ((t : Int) < (mm : Int)) = True := eq_true (by omega)
              have u2 : (t < mm) = True := eq_true htm
              have htI : (t : Int) < 1000 := by omega
              obtain ⟨g, hg⟩ : ∃ g, L + t = g := ⟨_, rfl⟩
              rw [hg] at h11
              have hg316 : g < 316 := by have := AB.out; have := AK.out.2.2.1.a2; have := AK.out.2.2.1.b2; omega
              have c11 := (hb5.cell (show 11 < 355 by decide)).trans (congrArg some h11)
              have cg := hb5.cell (show 32 + g < 355 by omega)
              have zg := hb5.fz (32 + g)
              have u3 : ((g : Int) < 316) = True := eq_true (by omega)
              have u3' : (g < 316) = True := eq_true hg316
              have AN : Aside (t + gk = mm ∧ Bs wr B D b R f' ((bs.drop pos).drop m) (win out) ∧ Fm B w wr ∧ f' 11 = .int .i64 (g : Int) ∧ (∀ (j y : Nat), (l ++ List.replicate t 0)[j]? = some y → f' (32 + j) = .int .i64 (y : Int)) ∧ (∀ n, n ≠ 11 → n < 32 ∨ 348 ≤ n → f' n = f n) ∧ L + t = g ∧ g < 316 ∧ t < mm) := ⟨htg, hb5, hf5, h11, hrow, hrest, hg, hg316, htm⟩
              clear hI htg hb5 hf5 h11 hrow hrest hg hg316 htm
              go_upto_region 14 with fail
              go_region
              have an := AN.out
              have hb6 := (an.2.1.set (32 + g) (.int .i64 0) (by omega)).drew
              have hf6 : Fm B w (wr.setCell ⟨D, 32 + g, none⟩ (.int .i64 0)).drew := (an.2.2.1.trans (an.2.1.fmD ((Only.refl D wr).setCell (32 + g) _))).drew
              obtain ⟨w6, hw6⟩ : ∃ w6, (wr.setCell ⟨D, 32 + g, none⟩ (.int .i64 0)).drew = w6 := ⟨_, rfl⟩
              rw [hw6] at hb6 hf6 ⊢
              have e11 : upd f' (32 + g) (.int .i64 0) 11 = .int .i64 (g : Int) := (upd_ne _ _ (by omega)).trans an.2.2.2.1
              have y11 := (hb6.cell (show 11 < 355 by decide)).trans (congrArg some e11)
              have z11 := hb6.fz 11
              have hgI : (g : Int) < 400 := by omega
              have A6 : Aside (Bs w6 B D b R (upd f' (32 + g) (.int .i64 0)) ((bs.drop pos).drop m) (win out) ∧ Fm B w w6) := ⟨hb6, hf6⟩
              clear an hb6 hf6 hw6 e11 c11 cg zg u3 u3'
              go_wp2_with fail
              have an := AN.out
              go_roundg (gk - 1)
              case measure => omega
              case rel =>
                refine ⟨t + 1, by go_num, by omega, _, A6.out.1.set 11 (.int .i64 ((g : Int) + 1)) (by decide), A6.out.2.trans (A6.out.1.fmD ((Only.refl D w6).setCell 11 _)), ?_, ?_, ?_⟩
                · rw [upd_same, show L + (t + 1) = g + 1 by omega]; rfl
                · intro j y hy
                  rw [upd_ne _ _ (by omega)]
                  rw [List.replicate_succ', ← List.append_assoc, List.getElem?_append] at hy
                  have hlen : (l ++ List.replicate t 0).length = g := by rw [List.length_append, List.length_replicate, AK.out.2.2.2.1]; exact an.2.2.2.2.2.2.1
                  rw [hlen] at hy
                  split at hy
                  · rw [upd_ne _ _ (by omega)]; exact an.2.2.2.2.1 j y hy
                  · rename_i hjg
                    have hj1 : j - g = 0 := by
                      have := (List.getElem?_eq_some_iff.1 hy).1
                      rw [List.length_singleton] at this
                      omega
                    rw [hj1] at hy
                    cases hy
                    rw [show 32 + j = 32 + g by omega, upd_same]
                    rfl
                · intro n h1 h2
                  have := an.2.2.2.2.2.2.2.1
                  rw [upd_ne _ _ h1, upd_ne _ _ (by omega)]
                  exact an.2.2.2.2.2.1 n h1 h2
            · have ht : t = mm := by omega
              subst ht
              have u1 : ((t : Int) < (t : Int)) = False := eq_false (by omega)
              have u2 : (t < t) = False := eq_false (by omega)
              have hth := pthen_c 64 wr hb5
              have AN : Aside (Fm B w wr ∧ f' 11 = .int .i64 ((L + t : Nat) : Int) ∧ (∀ (j y : Nat), (l ++ List.replicate t 0)[j]? = some y → f' (32 + j) = .int .i64 (y : Int)) ∧ (∀ n, n ≠ 11 → n < 32 ∨ 348 ≤ n → f' n = f n)) := ⟨hf5, h11, hrow, hrest⟩
              clear hI htg hb5 hf5 h11 hrow hrest htm
              go_wp2_with (go_at_call 38; refine hth.mono ?_; rintro e7 w7 ⟨rfl, hb7, hf7⟩)
              first | go_ret | go_ret2
              have a' := A.out
              have an := AN.out
              have hf : Fm B w w7 := an.1.trans hf7
              have p := AK.out.2.2.1
              have ab := AB.out
              rw [List.drop_drop] at hb7
              have u : ∀ n, n ≠ 2 → n ≠ 11 → n < 32 ∨ 348 ≤ n → upd f' 2 (fnv D 64) n = f n := fun n h0 h1 h2 => by rw [upd_ne _ _ h0]; exact an.2.2.2 n h1 h2
              have hlen : (l ++ List.replicate t 0).length = L + t := by rw [List.length_append, List.length_replicate, AK.out.2.2.2.1]
              refine ⟨true, rfl, hf, Res.next (c' := ⟨.dsym last a c code (l ++ List.replicate t 0), pos + m, out, times⟩) (Runs.one (AST.out _ (by rw [if_neg ab, AX.out]))) (a'.1.to hf hb7 ⟨rfl, (u 5 (by decide) (by decide) (by decide)).trans AK.out.2.1, p.a1, p.a2, p.b1, p.b2, (u 8 (by decide) (by decide) (by decide)).trans p.c8, (u 9 (by decide) (by decide) (by decide)).trans p.c9, ?_, by rw [hlen]; omega, ?_, ?_, p.code⟩ (u 3 (by decide) (by decide) (by decide)) (u 4 (by decide) (by decide) (by decide)) AS.out.1) (a'.2.1.to (u 352 (by decide) (by decide) (by decide)) (u 353 (by decide) (by decide) (by decide)) (u 354 (by decide) (by decide) (by decide))) rfl ?_⟩
              · rw [upd_ne _ _ (by decide), an.2.1, hlen]
              · intro j y hy
                rw [upd_ne _ _ (by omega)]
                exact an.2.2.1 j y hy
              · rw [u 31 (by decide) (by decide) (by decide)]
                exact p.tbl.fm hf
              · unfold mu rk
                simp only []
                have := AM.out
                have := AS.out.1
                omega
end
end Go.Proofs.YtogednaamndpgaaDoor

/-
  What a run of steps comes to: up to a byte, an end, or more bits that are wanted.
-/
namespace Go.Proofs.YtogednaamndpgaaDoor
open Go.RowKit
set_option linter.unusedVariables false
/-- Numbers that stay small. -/
def Bd : St → Prop
  | .inl (.inl (.inr (.inl (_, l)))) => l < 65536
  | .inl (.inl (.inr (.inr (_, m)))) => m < 65536
  | .inr (.inl (.inl (.inr (_, _, _, s)))) => 257 ≤ s ∧ s ≤ 285
  | .inr (.inl (.inr (.inl (_, _, _, m)))) => m < 65536
  | .inr (.inl (.inr (.inr (_, _, _, m, _)))) => m < 65536
  | .inr (.inr (.inl (.inl (_, _, _, m, _)))) => m < 65536
  | _ => True
theorem num_lt2 {bs : List Bool} {p n v : Nat} (h : num? bs p n = some v) : v < 2 ^ n := by
  unfold num? at h
  split at h
  · cases h; exact nm_take_lt _ _
  · cases h
theorem give_bd {most : Nat} {k : St} {b p : Nat} {c : Cfg} (h : Bd k) : Bd (give most k b p c).st := by
  unfold give
  split
  · exact h
  · trivial
theorem step_bd {bs : List Bool} {most : Nat} {c d : Cfg} (h : step bs most c = some d) (hc : Bd c.st) : Bd d.st := by
  obtain ⟨st, pos, out, times⟩ := c
  unfold step at h
  cases st using St.el with
  | head last =>
    cases last with
    | true => simp only [Option.some.injEq] at h; rw [← h]; trivial
    | false =>
      simp only [Option.map_eq_some_iff] at h
      obtain ⟨v, hv, rfl⟩ := h
      show Bd (match v / 2 with
        | 0 => St.slen (v % 2 == 1)
        | 1 => .sym (v % 2 == 1) fixL fixD
        | 2 => .dnum (v % 2 == 1)
        | _ => .bad 10)
      split <;> trivial
  | slen last =>
    simp only [Option.map_eq_some_iff] at h
    obtain ⟨v, hv, rfl⟩ := h
    exact num_lt2 hv
  | snot last l =>
    simp only [Option.map_eq_some_iff] at h
    obtain ⟨v, hv, rfl⟩ := h
    show Bd (if l + v = 65535 then St.sraw last l else .bad 11)
    split
    · exact hc
    · trivial
  | sraw last n =>
    cases n with
    | zero => simp only [Option.some.injEq] at h; rw [← h]; trivial
    | succ n =>
      simp only [Option.map_eq_some_iff] at h
      obtain ⟨v, hv, rfl⟩ := h
      exact give_bd (show n < 65536 by have h1 : n + 1 < 65536 := hc; omega)
  | dnum last =>
    simp only [Option.map_eq_some_iff] at h
    obtain ⟨v, hv, rfl⟩ := h
    simp only []
    split <;> trivial
  | dfst last a b i j first =>
    simp only [] at h
    split at h
    · simp only [Option.map_eq_some_iff] at h
      obtain ⟨v, hv, rfl⟩ := h
      trivial
    · simp only [Option.some.injEq] at h
      rw [← h]
      simp only []
      split <;> trivial
  | dsym last a b code l =>
    simp only [] at h
    split at h
    · split at h
      · cases h
      · simp only [Option.some.injEq] at h; rw [← h]; trivial
      · simp only [Option.some.injEq] at h
        rw [← h]
        simp only []
        split
        · trivial
        · split <;> trivial
    · simp only [Option.some.injEq] at h
      rw [← h]
      simp only []
      split <;> trivial
  | drep last a b code l s =>
    simp only [Option.map_eq_some_iff] at h
    obtain ⟨v, hv, rfl⟩ := h
    simp only []
    split <;> split <;> trivial
  | sym last lit di =>
    simp only [] at h
    split at h
    · cases h
    · simp only [Option.some.injEq] at h; rw [← h]; trivial
    · rename_i s n e
      split at h
      · simp only [Option.some.injEq] at h
        rw [← h]
        exact give_bd trivial
      · simp only [Option.some.injEq] at h
        rw [← h]
        simp only []
        split
        · trivial
        · split
          · trivial
          · show 257 ≤ s ∧ s ≤ 285
            omega
  | lext last lit di s =>
    simp only [Option.map_eq_some_iff] at h
    obtain ⟨v, hv, rfl⟩ := h
    have h1 := num_lt2 hv
    have h2 : 257 ≤ s ∧ s ≤ 285 := hc
    have h3 := plmore_le (s - 257) (by omega)
    rw [show 257 + (s - 257) = s by omega] at h3
    have h4 : 2 ^ lmore s ≤ 2 ^ 5 := Nat.pow_le_pow_right (by decide) h3.1
    show lbase s + v < 65536
    omega
  | dist last lit di n =>
    simp only [] at h
    split at h
    · cases h
    · simp only [Option.some.injEq] at h; rw [← h]; trivial
    · simp only [Option.some.injEq] at h
      rw [← h]
      simp only []
      split
      · trivial
      · exact hc
  | dext last lit di n x =>
    simp only [Option.map_eq_some_iff] at h
    obtain ⟨v, hv, rfl⟩ := h
    simp only []
    split
    · trivial
    · exact hc
  | copy last lit di n d =>
    cases n with
    | zero => simp only [Option.some.injEq] at h; rw [← h]; trivial
    | succ n =>
      simp only [Option.some.injEq] at h
      rw [← h]
      exact give_bd (show n < 65536 by have h1 : n + 1 < 65536 := hc; omega)
  | done => cases h
  | bad y => cases h
theorem Runs.bd {bs : List Bool} {most : Nat} {c d : Cfg} (h : Runs bs most c d) (hc : Bd c.st) : Bd d.st := by
  induction h using Runs.el with
  | refl => exact hc
  | cons h1 _ ih => exact ih (step_bd h1 hc)
section
variable {B D b R : Nat} {f : Nat → Value} {bs : List Bool} {most : Nat}
theorem step_any (w : World) {c : Cfg} (hI : Is w B D b R f bs c) (hO : Op f) (hm : c.out.length < most) (h8 : bs.length % 8 = 0) (hb : Bd c.st) : ∃ k, f 2 = fnv D k ∧ StepOk k B D b R bs most c w ∧ (k = 33 ∨ k = 39 ∨ k = 47 ∨ k = 42 ∨ k = 54 ∨ k = 64 ∨ k = 78 ∨ k = 41 ∨ k = 53 ∨ k = 62 ∨ k = 76 ∨ k = 83) := by
  obtain ⟨st, pos, out, times⟩ := c
  have hat := hI.at_
  cases st using St.el with
  | head last =>
    cases last with
    | true => exact hat.elim
    | false => exact ⟨33, hat, block_s w hI hO h8, by decide⟩
  | slen last => exact ⟨39, hat.1, storedLength_s w hI hO, by decide⟩
  | snot last l => exact hat.elim
  | sraw last n => exact ⟨47, hat.1, storedByte_s w hI hO hm hb, by decide⟩
  | dnum last => exact ⟨42, hat.1, counts_s w hI hO, by decide⟩
  | dfst last a c k i first => exact ⟨54, hat.1, smallLength_s w hI hO, by decide⟩
  | dsym last a c code l => exact ⟨64, hat.1, codeLength_s w hI hO, by decide⟩
  | drep last a c code l s => exact ⟨78, hat.1, runOfLengths_s w hI hO, by decide⟩
  | sym last lit di => exact ⟨41, hat.1, literal_s w hI hO hm, by decide⟩
  | lext last lit di s => exact ⟨53, hat.1, lengthMore_s w hI hO, by decide⟩
  | dist last lit di n => exact ⟨62, hat.1, back_s w hI hO, by decide⟩
  | dext last lit di n x => exact ⟨76, hat.1, backMore_s w hI hO, by decide⟩
  | copy last lit di n d => exact ⟨83, hat.1, copied_s w hI hO hm hb, by decide⟩
  | done => exact hat.elim
  | bad y => exact hat.elim
/-- What a run of steps comes to. -/
def RunTo (B D b R : Nat) (bs : List Bool) (most : Nat) (c : Cfg) (w' : World) : Prop := ∃ f' c', Runs bs most c c' ∧ (Gv w' B D b R f' bs c c' ∨ (Ov w' B D b R f' c' ∧ c'.out = c.out) ∨ (Wt w' B D b R f' bs most c' ∧ c'.out = c.out))
set_option maxHeartbeats 1000000 in
theorem prun_c (w : World) {c : Cfg} (hI : Is w B D b R f bs c) (hO : Op f) (hm : c.out.length < most) (h8 : bs.length % 8 = 0) (hb : Bd c.st) : Calls Tryd.prog 24 #[.pointer (some ⟨D, 0, none⟩)] w fun e w' => e = .returned (.tuple #[]) ∧ Fm B w w' ∧ RunTo B D b R bs most c w' := by
  have A : Aside (c.out.length < most ∧ bs.length % 8 = 0 ∧ Bd c.st) := ⟨hm, h8, hb⟩
  have A0 : Aside (Is w B D b R f bs c ∧ Op f) := ⟨hI, hO⟩
  clear hm h8 hb hI hO
  go_enter Tryd.func24, Tryd.ntmps24
  go_wp2_with fail
  go_loopg [] (mu bs c) (fun gg wr => Aside (∃ f' c', Is wr B D b R f' bs c' ∧ Op f' ∧ Runs bs most c c' ∧ c'.out = c.out ∧ Fm B w wr ∧ mu bs c' = gg))
  case atStart => exact ⟨f, c, A0.out.1, A0.out.2, Runs.refl _, rfl, Fm.refl _ _, rfl⟩
  case round =>
    obtain ⟨f', c', hI, hO, hr, ho, hf, hmu⟩ := hrel.out
    obtain ⟨k, hk2, hst, hks⟩ := step_any (most := most) wr hI hO (by rw [ho]; exact A.out.1) A.out.2.1 (hr.bd A.out.2.2)
    have c2 := (hI.mem.cell (show 2 < 355 by decide)).trans (congrArg some hk2)
    unfold fnv at c2
    unfold StepOk at hst
    have A1 : Aside (Runs bs most c c' ∧ c'.out = c.out ∧ Fm B w wr ∧ mu bs c' = gk) := ⟨hr, ho, hf, hmu⟩
    clear hI hO hr ho hf hmu hk2 hrel
    rcases hks with rfl | rfl | rfl | rfl | rfl | rfl | rfl | rfl | rfl | rfl | rfl | rfl
    all_goals
      go_wp2_with (first
        | (go_at_call 33; refine hst.mono ?_; rintro e2 w2 ⟨_ | _, rfl, hf2, hres⟩)
        | (go_at_call 39; refine hst.mono ?_; rintro e2 w2 ⟨_ | _, rfl, hf2, hres⟩)
        | (go_at_call 47; refine hst.mono ?_; rintro e2 w2 ⟨_ | _, rfl, hf2, hres⟩)
        | (go_at_call 42; refine hst.mono ?_; rintro e2 w2 ⟨_ | _, rfl, hf2, hres⟩)
        | (go_at_call 54; refine hst.mono ?_; rintro e2 w2 ⟨_ | _, rfl, hf2, hres⟩)
        | (go_at_call 64; refine hst.mono ?_; rintro e2 w2 ⟨_ | _, rfl, hf2, hres⟩)
        | (go_at_call 78; refine hst.mono ?_; rintro e2 w2 ⟨_ | _, rfl, hf2, hres⟩)
        | (go_at_call 41; refine hst.mono ?_; rintro e2 w2 ⟨_ | _, rfl, hf2, hres⟩)
        | (go_at_call 53; refine hst.mono ?_; rintro e2 w2 ⟨_ | _, rfl, hf2, hres⟩)
        | (go_at_call 62; refine hst.mono ?_; rintro e2 w2 ⟨_ | _, rfl, hf2, hres⟩)
        | (go_at_call 76; refine hst.mono ?_; rintro e2 w2 ⟨_ | _, rfl, hf2, hres⟩)
        | (go_at_call 83; refine hst.mono ?_; rintro e2 w2 ⟨_ | _, rfl, hf2, hres⟩))
      · go_end0
        obtain ⟨f2, c2', hr2, h⟩ := hres
        have a1 := A1.out
        rcases h with ⟨h, _⟩ | ⟨_, h⟩ | ⟨_, h, ho2⟩ | ⟨_, h, rfl⟩
        · cases h
        · exact ⟨rfl, a1.2.2.1.trans hf2, f2, c2', a1.1.trans hr2, Or.inl ⟨h.is_, h.waits, h.done, h.why, by obtain ⟨x, h1, h2⟩ := h.out; exact ⟨x, h1, by rw [h2, a1.2.1]⟩⟩⟩
        · exact ⟨rfl, a1.2.2.1.trans hf2, f2, c2', a1.1.trans hr2, Or.inr (Or.inl ⟨h, ho2.trans a1.2.1⟩)⟩
        · exact ⟨rfl, a1.2.2.1.trans hf2, f2, _, a1.1, Or.inr (Or.inr ⟨h, a1.2.1⟩)⟩
      · obtain ⟨f2, c2', hr2, h⟩ := hres
        have a1 := A1.out
        rcases h with ⟨_, h1, h2, h3, h4⟩ | ⟨h, _⟩ | ⟨h, _⟩ | ⟨h, _⟩
        · go_roundg (mu bs c2')
          case measure => omega
          case rel => exact ⟨f2, c2', h1, h2, a1.1.trans hr2, h3.trans a1.2.1, a1.2.2.1.trans hf2, rfl⟩
        · cases h
        · cases h
        · cases h
end
end Go.Proofs.YtogednaamndpgaaDoor

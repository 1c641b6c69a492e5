/-
  Own texts of this seat, one behind the other: what each says stands ahead of it.
-/
import Derived.Test.YtogednaamndpgaaGreatDoorMh
import Derived.Deep.RegionHeld3
import Derived.Test.YtogednaamndpgaaGreatDoorMf
/-
  What dynamicCodes comes to.
-/
namespace Go.Proofs.YtogednaamndpgaaGreatDoor
open Go.RowKit
set_option linter.unusedVariables false
section
variable {B D b R : Nat} {f : Nat → Value}
theorem new_any2 (w : World) (a : Option Addr) (ls : List Nat) (L C : Nat) (hl : Lens w a (iz ls)) (hL : ls.length = L) (hb : L ≤ 316) (hB : B + 4 ≤ w.heap.size) : Calls Tryz.prog 96 #[.slice a L C] w fun e w' => ∃ (p : Option Addr) (er : Nat), e = .returned (.tuple #[.pointer p, .int .i64 (er : Int)]) ∧ Below w.heap.size w w' ∧ ((mays ls = true ∧ er = 0 ∧ Tbl w' B (.pointer p) ls) ∨ (mays ls = false ∧ er ≠ 0)) := by
  have hL' : (iz ls).length = L := by rw [iz_len]; exact hL
  cases hm : mays ls with
  | true =>
    refine (new_yes a (iz ls) L C w hl hL' (by omega) (mays_iff.1 hm)).mono ?_
    rintro e w' ⟨T, h1, h2, h3⟩
    rw [lens_iz] at h2
    exact ⟨some ⟨T, 0, none⟩, 0, h1, h3, Or.inl ⟨rfl, rfl, _, _, T, rfl, hB, Nat.le_refl _, h2, by omega⟩⟩
  | false =>
    have hne : nerr (iz ls) ≠ 0 := fun e => by rw [mays_iff.2 e] at hm; cases hm
    refine (new_err a (iz ls) L C _ w hl hL' (by omega) rfl hne).mono ?_
    rintro e w' ⟨h1, h2⟩
    exact ⟨none, _, h1, h2, Or.inr ⟨rfl, hne⟩⟩
def DynTo (B D b R : Nat) (f : Nat → Value) (h : List Bool) (o : List Int) (a : Nat) (l : List Nat) (w : World) (e : Ending) (w' : World) : Prop :=
  Fm B w w' ∧ (((l.getD 256 0 = 0 ∨ mays (l.take a) = false ∨ mays (l.drop a) = false) ∧ e = .returned (.bool false) ∧ Bs w' B D b R (upd f 354 (.int .i64 12)) h o) ∨
    (¬ (l.getD 256 0 = 0 ∨ mays (l.take a) = false ∨ mays (l.drop a) = false) ∧ e = .returned (.bool true) ∧ ∃ f', Bs w' B D b R f' h o ∧ f' 2 = fnv D 69 ∧ Tbl w' B (f' 6) (l.take a) ∧ Tbl w' B (f' 7) (l.drop a) ∧ f' 3 = f 3 ∧ f' 4 = f 4 ∧ f' 5 = f 5 ∧ ∀ n, 348 ≤ n → f' n = f n))
set_option maxRecDepth 100000 in
set_option maxHeartbeats 1000000 in
theorem dynCodes_c (w : World) {h : List Bool} {o : List Int} {a c : Nat} {code l : List Nat} (s : Bs w B D b R f h o) (p : Pl w B f a c code l) (hll : l.length = a + c) : Calls Tryz.prog 125 #[.pointer (some ⟨D, 0, none⟩)] w fun e w' => DynTo B D b R f h o a l w e w' := by
  have ha1 := p.a1
  have ha2 := p.a2
  have hb1 := p.b1
  have hb2 := p.b2
  have hcell : ∀ u, Bs u B D b R f h o → u.cell? ⟨D, 8, none⟩ = some (.int .i64 (a : Int)) ∧ u.cell? ⟨D, 11, none⟩ = some (.int .i64 ((a + c : Nat) : Int)) := fun u hu => ⟨(hu.cell (show 8 < 355 by decide)).trans (congrArg some p.c8), (hu.cell (show 11 < 355 by decide)).trans (congrArg some (by rw [p.have_, hll]))⟩
  have hlens1 : ∀ u, Bs u B D b R f h o → Lens u (some ⟨D, 32, none⟩) (iz (l.take a)) := fun u hu => Or.inr ⟨D, 32, rfl, fun n z hz => by
    unfold iz at hz
    rw [List.getElem?_map, Option.map_eq_some_iff] at hz
    obtain ⟨x, hx, rfl⟩ := hz
    have hn := (List.getElem?_eq_some_iff.1 hx).1
    rw [List.length_take] at hn
    rw [List.getElem?_take_of_lt (by omega)] at hx
    rw [hu.cell (show 32 + n < 355 by omega), p.row n x hx]⟩
  have hlens2 : ∀ u, Bs u B D b R f h o → Lens u (some ⟨D, 32 + a, none⟩) (iz (l.drop a)) := fun u hu => Or.inr ⟨D, 32 + a, rfl, fun n z hz => by
    unfold iz at hz
    rw [List.getElem?_map, Option.map_eq_some_iff] at hz
    obtain ⟨x, hx, rfl⟩ := hz
    have hn := (List.getElem?_eq_some_iff.1 hx).1
    rw [List.length_drop] at hn
    rw [List.getElem?_drop] at hx
    rw [hu.cell (show 32 + a + n < 355 by omega), show 32 + a + n = 32 + (a + n) by omega, p.row (a + n) x hx]⟩
  obtain ⟨x256, hx256⟩ : ∃ x, l.getD 256 0 = x := ⟨_, rfl⟩
  have h256 : f 288 = .int .i64 (x256 : Int) := by
    rw [← hx256, List.getD_eq_getElem?_getD, List.getElem?_eq_getElem (show 256 < l.length by omega)]
    exact p.row 256 _ (List.getElem?_eq_getElem (show 256 < l.length by omega))
  have l1 : (l.take a).length = a := by rw [List.length_take]; omega
  have l2 : (l.drop a).length = c := by rw [List.length_drop]; omega
  have hn1 := new_any2 (B := B) w.drew (some ⟨D, 32, none⟩) (l.take a) a 316 (hlens1 _ s.drew) l1 (by omega) s.drew.lt
  have AC : Aside ((∀ u, Bs u B D b R f h o → u.cell? ⟨D, 8, none⟩ = some (.int .i64 (a : Int)) ∧ u.cell? ⟨D, 11, none⟩ = some (.int .i64 ((a + c : Nat) : Int))) ∧ (∀ u, Bs u B D b R f h o → Lens u (some ⟨D, 32 + a, none⟩) (iz (l.drop a))) ∧ (l.drop a).length = c ∧ Bs w B D b R f h o ∧ l.getD 256 0 = x256 ∧ f 288 = .int .i64 (x256 : Int) ∧ 257 ≤ a ∧ a ≤ 286 ∧ 1 ≤ c ∧ c ≤ 30) := ⟨hcell, hlens2, l2, s, hx256, h256, ha1, ha2, hb1, hb2⟩
  have c8 := (hcell w s).1
  have t1 : ((a : Int) ≤ 316) = True := eq_true (by omega)
  have t1' : (a ≤ 316) = True := eq_true (by omega)
  have t2 : ((316 : Int) < (a : Int)) = False := eq_false (by omega)
  have t2' : (316 < a) = False := eq_false (by omega)
  obtain ⟨hv, hhv⟩ : ∃ hv, a + c = hv := ⟨_, rfl⟩
  clear s p hll ha1 ha2 hb1 hb2 hcell hlens1 hlens2 hx256 h256 l1 l2
  go_enter Tryz.func125, Tryz.ntmps125
  go_upto_region 2 with fail
  go_region_held3 (fun u => u.cell? ⟨D, 8, none⟩ = some (.int .i64 (a : Int))) (first | assumption | exact c8 | exact (AC.out.1 _ (AC.out.2.2.2.1.drew.below hb2 (Nat.le_refl _))).1)
    (first | (go_at_call 96; refine hn1.mono ?_; rintro e2 w2 ⟨p1, er1, rfl, hb2, hh2⟩))
  all_goals
    have s2 := AC.out.2.2.2.1.drew.below hb2 (Nat.le_refl _)
    have d8 := (AC.out.1 _ s2).1
    have d11 := (AC.out.1 _ s2).2
    rw [hhv] at d11
    have t3 : ((a : Int) ≤ (hv : Int)) = True := eq_true (by omega)
    have t3' : (a ≤ hv) = True := eq_true (by omega)
    have t4 : ((hv : Int) ≤ 316) = True := eq_true (by have := AC.out; omega)
    have t4' : (hv ≤ 316) = True := eq_true (by have := AC.out; omega)
    have t5 : (316 = a) = False := eq_false (by have := AC.out; omega)
    have t5' : ((316 : Int) = (a : Int)) = False := eq_false (by have := AC.out; omega)
    have hk2 : Aside (∀ u, Below w2.drew.heap.size w2.drew u → u.cell? ⟨D, 8, none⟩ = some (.int .i64 (a : Int)) ∧ u.cell? ⟨D, 11, none⟩ = some (.int .i64 (hv : Int))) := fun u hu => by
      have := AC.out.1 _ (s2.drew.below hu (Nat.le_refl _))
      rw [hhv] at this
      exact this
    have hn2 := new_any2 (B := B) w2.drew (some ⟨D, 32 + a, none⟩) (l.drop a) (hv - a) (316 - a) (AC.out.2.1 _ s2.drew) (by rw [AC.out.2.2.1]; omega) (by have := AC.out; omega) s2.drew.lt
    have A2 : Aside (Bs w2 B D b R f h o ∧ Fm B w w2 ∧ ((mays (l.take a) = true ∧ er1 = 0 ∧ Tbl w2 B (.pointer p1) (l.take a)) ∨ (mays (l.take a) = false ∧ er1 ≠ 0)) ∧ a + c = hv) := ⟨s2, (Fm.refl B w).drew.trans (Fm.of_below hb2 (Nat.le_refl _)), hh2, hhv⟩
    clear s2 hb2 hh2 hn1 hhv c8
    go_upto_region 3 with fail
    go_region_held3 (fun u => u.cell? ⟨D, 8, none⟩ = some (.int .i64 (a : Int)) ∧ u.cell? ⟨D, 11, none⟩ = some (.int .i64 (hv : Int))) (first | assumption | exact ⟨d8, d11⟩ | exact hk2.out _ hb3)
      (first | (go_at_call 96; refine hn2.mono ?_; rintro e3 w3 ⟨p2, er2, rfl, hb3, hh3⟩))
    all_goals
      have s3 := A2.out.1.drew.below hb3 (Nat.le_refl _)
      have g3 := (s3.cell (show 288 < 355 by decide)).trans (congrArg some AC.out.2.2.2.2.2.1)
      have A3 : Aside (Bs w3 B D b R f h o ∧ Fm B w w3 ∧ ((mays (l.take a) = true ∧ er1 = 0 ∧ Tbl w3 B (.pointer p1) (l.take a)) ∨ (mays (l.take a) = false ∧ er1 ≠ 0)) ∧ ((mays (l.drop a) = true ∧ er2 = 0 ∧ Tbl w3 B (.pointer p2) (l.drop a)) ∨ (mays (l.drop a) = false ∧ er2 ≠ 0)) ∧ l.getD 256 0 = x256) := by
        refine ⟨s3, A2.out.2.1.trans ((Fm.refl B w2).drew.trans (Fm.of_below hb3 (Nat.le_refl _))), ?_, hh3, AC.out.2.2.2.2.1⟩
        rcases A2.out.2.2.1 with ⟨q1, q2, q3⟩ | q
        · exact Or.inl ⟨q1, q2, q3.fm ((Fm.refl B w2).drew.trans (Fm.of_below hb3 (Nat.le_refl _)))⟩
        · exact Or.inr q
      clear s3 hb3 hh3 hn2 d8 d11 A2 AC hk2 t1 t1' t2 t2' t3 t3' t4 t4' t5 t5'
      by_cases hx : x256 = 0
      · subst hx
        have g3' : w3.cell? ⟨D, 288, none⟩ = some (.int .i64 0) := g3
        have hst := pstop_c 12 w3 A3.out.1
        clear g3
        go_wp2_with (go_at_call 71; refine hst.mono ?_; rintro e5 w5 ⟨rfl, hb5, hf5⟩)
        first | go_ret | go_ret2
        exact ⟨A3.out.2.1.trans hf5, Or.inl ⟨Or.inl A3.out.2.2.2.2, rfl, hb5⟩⟩
      · have x0 : ((x256 : Int) == 0) = false := by rw [beq_eq_false_iff_ne]; omega
        have AX : Aside (x256 ≠ 0) := hx
        clear hx
        rcases A3.out.2.2.1 with ⟨q1, q2, q3⟩ | ⟨q1, q2⟩
        · rcases A3.out.2.2.2.1 with ⟨r1, r2, r3⟩ | ⟨r1, r2⟩
          · subst q2 r2
            obtain ⟨_, _, T1, hT1, _⟩ := id q3
            obtain ⟨_, _, T2, hT2, _⟩ := id r3
            cases hT1
            cases hT2
            have d6 := A3.out.1.cell (show 6 < 355 by decide)
            have d7 := A3.out.1.cell (show 7 < 355 by decide)
            have z6 := A3.out.1.fz 6
            have z7 := A3.out.1.fz 7
            have s4 := (A3.out.1.set 6 (.pointer (some ⟨T1, 0, none⟩)) (by decide)).set 7 (.pointer (some ⟨T2, 0, none⟩)) (by decide)
            have hfr := s4.fr
            have f4 : Fm B w3 ((w3.setCell ⟨D, 6, none⟩ (.pointer (some ⟨T1, 0, none⟩))).setCell ⟨D, 7, none⟩ (.pointer (some ⟨T2, 0, none⟩))) := A3.out.1.fmD (((Only.refl D w3).setCell 6 _).setCell 7 _)
            have A4 : Aside (Bs ((w3.setCell ⟨D, 6, none⟩ (.pointer (some ⟨T1, 0, none⟩))).setCell ⟨D, 7, none⟩ (.pointer (some ⟨T2, 0, none⟩))) B D b R (upd (upd f 6 (.pointer (some ⟨T1, 0, none⟩))) 7 (.pointer (some ⟨T2, 0, none⟩))) h o ∧ Fm B w3 ((w3.setCell ⟨D, 6, none⟩ (.pointer (some ⟨T1, 0, none⟩))).setCell ⟨D, 7, none⟩ (.pointer (some ⟨T2, 0, none⟩))) ∧ Tbl w3 B (.pointer (some ⟨T1, 0, none⟩)) (l.take a) ∧ Tbl w3 B (.pointer (some ⟨T2, 0, none⟩)) (l.drop a) ∧ mays (l.take a) = true ∧ mays (l.drop a) = true) := ⟨s4, f4, q3, r3, q1, r1⟩
            clear s4 f4 q3 r3 q1 r1
            go_wp2_with (first
              | (refine wpList_store_mid rfl 90 (.tmp 64) (.tmp 62) rfl D 8 Tryz.zeroCells90 rfl rfl _ hfr (by rw [zc71_none, pz_size]; exact size71) (by rw [zc71_none, pz_size]; decide) (by rw [zc71_none]; exact pz_one _ _ _) ?_; intro w5 f5 hm5; rw [zc71_none] at hm5
                 have s5 := A4.out.1.mid hm5 (by decide)
                 have hth := pthen_c 69 w5 s5
                 have A5 : Aside (Fm B w3 w5 ∧ (∀ j, j < 8 ∨ 348 ≤ j → f5 j = upd (upd f 6 (.pointer (some ⟨T1, 0, none⟩))) 7 (.pointer (some ⟨T2, 0, none⟩)) j)) := ⟨A4.out.2.1.trans (A4.out.1.fmD hm5.only), fun j hj => hm5.old j (by rw [Array.length_toList, pz_size]; exact hj)⟩
                 clear s5 hm5 hfr)
              | (go_at_call 66; refine hth.mono ?_; rintro e6 w6 ⟨rfl, hb6, hf6⟩))
            first | go_ret | go_ret2
            have a4 := A4.out
            have a5 := A5.out
            have hf36 := a5.1.trans hf6
            have hx := AX.out
            refine ⟨A3.out.2.1.trans hf36, Or.inr ⟨?_, rfl, _, hb6, upd_same _ _ _, ?_, ?_, ?_, ?_, ?_, ?_⟩⟩
            · rw [A3.out.2.2.2.2, a4.2.2.2.2.1, a4.2.2.2.2.2]
              rintro (h1 | h1 | h1)
              · exact hx h1
              · cases h1
              · cases h1
            · rw [upd_ne _ _ (by decide), a5.2 6 (by decide), upd_ne _ _ (by decide), upd_same]; exact a4.2.2.1.fm hf36
            · rw [upd_ne _ _ (by decide), a5.2 7 (by decide), upd_same]; exact a4.2.2.2.1.fm hf36
            · rw [upd_ne _ _ (by decide), a5.2 3 (by decide), upd_ne _ _ (by decide), upd_ne _ _ (by decide)]
            · rw [upd_ne _ _ (by decide), a5.2 4 (by decide), upd_ne _ _ (by decide), upd_ne _ _ (by decide)]
            · rw [upd_ne _ _ (by decide), a5.2 5 (by decide), upd_ne _ _ (by decide), upd_ne _ _ (by decide)]
            · intro n hn
              rw [upd_ne _ _ (by omega), a5.2 n (Or.inr hn), upd_ne _ _ (by omega), upd_ne _ _ (by omega)]
          · subst q2
            have y0 : ((er2 : Int) != 0) = true := by rw [bne_iff_ne]; omega
            have AQ : Aside (mays (l.drop a) = false) := r1
            have hst := pstop_c 12 w3 A3.out.1
            clear q1 q3 r1 r2
            go_wp2_with (go_at_call 71; refine hst.mono ?_; rintro e5 w5 ⟨rfl, hb5, hf5⟩)
            first | go_ret | go_ret2
            exact ⟨A3.out.2.1.trans hf5, Or.inl ⟨Or.inr (Or.inr AQ.out), rfl, hb5⟩⟩
        · have y0 : ((er1 : Int) != 0) = true := by rw [bne_iff_ne]; omega
          have AQ : Aside (mays (l.take a) = false) := q1
          have hst := pstop_c 12 w3 A3.out.1
          clear q1 q2
          go_wp2_with (go_at_call 71; refine hst.mono ?_; rintro e5 w5 ⟨rfl, hb5, hf5⟩)
          first | go_ret | go_ret2
          exact ⟨A3.out.2.1.trans hf5, Or.inl ⟨Or.inr (Or.inl AQ.out), rfl, hb5⟩⟩
end
end Go.Proofs.YtogednaamndpgaaGreatDoor

/-
  What the step that takes a length of the row comes to.
-/
namespace Go.Proofs.YtogednaamndpgaaGreatDoor
open Go.RowKit
set_option linter.unusedVariables false
section
variable {B D b R : Nat} {f : Nat → Value} {bs : List Bool} {most : Nat}
set_option maxHeartbeats 1000000 in
theorem codeLength_s (w : World) {last : Bool} {a c : Nat} {code l : List Nat} {pos : Nat} {out times : List Nat} (hI : Is w B D b R f bs ⟨.dsym last a c code l, pos, out, times⟩) (hO : Op f) : StepOk 115 B D b R bs most ⟨.dsym last a c code l, pos, out, times⟩ w := by
  obtain ⟨k2, k5, pl⟩ := id hI.at_
  have hle' : pos ≤ bs.length := hI.le
  have hm' : Bs w B D b R f (bs.drop pos) (win out) := hI.mem
  obtain ⟨L, hL⟩ : ∃ L, l.length = L := ⟨_, rfl⟩
  have c11 := (hm'.cell (show 11 < 355 by decide)).trans (congrArg some pl.have_)
  rw [hL] at c11
  have c8 := (hm'.cell (show 8 < 355 by decide)).trans (congrArg some pl.c8)
  have c9 := (hm'.cell (show 9 < 355 by decide)).trans (congrArg some pl.c9)
  have A : Aside (Is w B D b R f bs ⟨.dsym last a c code l, pos, out, times⟩ ∧ Op f ∧ pos ≤ bs.length ∧ Bs w B D b R f (bs.drop pos) (win out)) := ⟨hI, hO, hle', hm'⟩
  have AK : Aside (f 2 = fnv D 115 ∧ f 5 = .bool last ∧ Pl w B f a c code l ∧ l.length = L) := ⟨k2, k5, pl, hL⟩
  have haI : (a : Int) < 300 := by have := pl.a2; omega
  have hcI : (c : Int) < 40 := by have := pl.b2; omega
  have hLac : L ≤ a + c := by rw [← hL]; exact pl.len
  unfold StepOk
  by_cases hfull : L = a + c
  · have t1 : ((L : Int) == (a : Int) + (c : Int)) = true := by rw [beq_iff_eq]; omega
    have AF : Aside (L = a + c) := hfull
    clear hI hO hle' hm' k2 k5 pl hL hLac hfull
    go_enter Tryz.func115, Tryz.ntmps115
    go_upto_region 2 with fail
    go_quiet (fail)
    have hd := dynCodes_c _ (A.out.2.2.2.drewN nq) (AK.out.2.2.1.mono ((Fm.refl B w).drewN nq) rfl rfl rfl rfl (fun _ _ => rfl)) (AK.out.2.2.2.trans AF.out)
    go_wp2_with (go_at_call 125; refine hd.mono ?_; rintro e2 w2 ⟨hf2, ⟨hbad, rfl, hb2⟩ | ⟨hgood, rfl, f', hb2, g2, g6, g7, g3, g4, g5, gr⟩⟩)
    · first | go_ret | go_ret2
      have a' := A.out
      have hf : Fm B w w2 := ((Fm.refl B w).drewN nq).trans hf2
      refine ⟨false, rfl, hf, Res.over (c' := ⟨.bad 12, pos, out, times⟩) (Runs.one ?_) (a'.1.bad a'.2.1 hf hb2 12 (by decide) rfl rfl rfl rfl rfl rfl) rfl⟩
      unfold step
      simp only []
      rw [if_neg (by rw [AK.out.2.2.2, AF.out]; omega), if_pos hbad]
    · first | go_ret | go_ret2
      have a' := A.out
      have hf : Fm B w w2 := ((Fm.refl B w).drewN nq).trans hf2
      refine ⟨true, rfl, hf, Res.next (c' := ⟨.sym last (l.take a) (l.drop a), pos, out, times⟩) (Runs.one ?_) (a'.1.to hf hb2 ⟨g2, g5.trans AK.out.2.1, g6, g7⟩ g3 g4 a'.2.2.1) (a'.2.1.to (gr 352 (by decide)) (gr 353 (by decide)) (gr 354 (by decide))) rfl ?_⟩
      · unfold step
        simp only []
        rw [if_neg (by rw [AK.out.2.2.2, AF.out]; omega), if_neg hgood]
      · unfold mu rk
        simp only []
        omega
  · have t1 : ((L : Int) == (a : Int) + (c : Int)) = false := by rw [beq_eq_false_iff_ne]; omega
    have AF : Aside (L < a + c) := (show L < a + c by omega)
    have c31 := hm'.cell (show 31 < 355 by decide)
    obtain ⟨v31, hv31⟩ : ∃ v, f 31 = v := ⟨_, rfl⟩
    have tb := pl.tbl
    rw [hv31] at c31 tb
    have A31 : Aside (f 31 = v31 ∧ Tbl w B v31 code) := ⟨hv31, tb⟩
    clear hI hO hle' hm' k2 k5 pl hL hLac hfull hv31 tb
    go_enter Tryz.func115, Tryz.ntmps115
    go_upto_region 2 with fail
    go_quiet (fail)
    have hread := pread_c v31 code _ (A.out.2.2.2.drewN nq) (A31.out.2.fm ((Fm.refl B w).drewN nq))
    have h31 : (w.drewN nq).cell? ⟨D, 31, none⟩ = some v31 := c31
    obtain ⟨w1, hw1⟩ : ∃ w1, w.drewN nq = w1 := ⟨_, rfl⟩
    have A1 : Aside (Fm B w w1) := (by show Fm B w w1; rw [← hw1]; exact (Fm.refl B w).drewN nq)
    rw [hw1] at hread h31 ⊢
    clear c31 c8 c9 c11 hw1
    cases hs : sread code (bs.drop pos) using SR.el with
    | cut =>
      rw [hs] at hread
      have AS : Aside (sread code (bs.drop pos) = .cut) := hs
      clear hs
      go_wp2_with (go_at_call 97; refine hread.mono ?_; rintro e2 w2 ⟨hf2, rfl, hb2⟩)
      first | go_ret | go_ret2
      have a' := A.out
      have hf : Fm B w w2 := A1.out.trans hf2
      refine ⟨false, rfl, hf, Res.want (a'.1.same hf hb2) a'.2.1 ?_ ?_ (fun y => by simp) (by simp)⟩
      · have := cut_short AS.out A31.out.2.le15
        rw [List.length_drop] at this
        show bs.length < pos + 32
        omega
      · unfold step
        simp only [AS.out]
        rw [if_pos (by rw [AK.out.2.2.2]; exact AF.out)]
    | bad j =>
      rw [hs] at hread
      have AS : Aside (sread code (bs.drop pos) = .bad j) := hs
      clear hs
      go_wp2_with (go_at_call 97; refine hread.mono ?_; rintro e2 w2 ⟨hf2, rfl, hb2⟩)
      first | go_ret | go_ret2
      have a' := A.out
      have hf : Fm B w w2 := A1.out.trans hf2
      refine ⟨false, rfl, hf, Res.over (c' := ⟨.bad 13, pos + j, out, times⟩) (Runs.one ?_) (a'.1.bad a'.2.1 hf hb2 13 (by decide) rfl rfl rfl rfl rfl rfl) rfl⟩
      unfold step
      simp only [AS.out]
      rw [if_pos (by rw [AK.out.2.2.2]; exact AF.out)]
    | got s n =>
      rw [hs] at hread
      have AS : Aside (sread code (bs.drop pos) = .got s n) := hs
      have hn : Aside (pos + n ≤ bs.length ∧ 0 < n ∧ s < 19) := ⟨sread_end hs A.out.2.2.1, by have := sread_le (ls := code) (h := bs.drop pos); rw [hs] at this; exact this.2.1, by have := got_lt hs; rw [AK.out.2.2.1.code] at this; exact this⟩
      have hst : ∀ st, (if s < 16 then .dsym last a c code (l ++ [s]) else if s = 16 ∧ l = [] then .bad 12 else .drep last a c code l s) = st → step bs most ⟨.dsym last a c code l, pos, out, times⟩ = some ⟨st, pos + n, out, times⟩ := fun st h => by
        unfold step
        simp only [AS.out]
        rw [if_pos (by rw [AK.out.2.2.2]; exact AF.out), h]
      have AST : Aside (∀ st, (if s < 16 then .dsym last a c code (l ++ [s]) else if s = 16 ∧ l = [] then .bad 12 else .drep last a c code l s) = st → step bs most ⟨.dsym last a c code l, pos, out, times⟩ = some ⟨st, pos + n, out, times⟩) := hst
      clear hs hst
      by_cases h16 : s < 16
      · have t2 : ((s : Int) < 16) = True := eq_true (by omega)
        have A16 : Aside (s < 16) := h16
        clear h16
        go_upto_region 8 with (go_at_call 97; refine hread.mono ?_; rintro e2 w2 ⟨hf2, rfl, hb2⟩)
        have p := AK.out.2.2.1
        have hLt : L < 316 := by have := AF.out; have := p.a2; have := p.b2; omega
        have d11 := (hb2.cell (show 11 < 355 by decide)).trans (congrArg some (by rw [p.have_, AK.out.2.2.2]))
        have dL := hb2.cell (show 32 + L < 355 by omega)
        have zL := hb2.fz (32 + L)
        have t3 : ((L : Int) < 316) = True := eq_true (by omega)
        have t3' : (L < 316) = True := eq_true hLt
        have A2 : Aside (Bs w2 B D b R f ((bs.drop pos).drop n) (win out) ∧ Fm B w w2 ∧ L < 316) := ⟨hb2, A1.out.trans hf2, hLt⟩
        clear hb2 hf2 p hread h31 hLt
        go_region
        have hb3 := (A2.out.1.set (32 + L) (.int .i64 (s : Int)) (by omega)).drew
        have hf3 : Fm B w (w2.setCell ⟨D, 32 + L, none⟩ (.int .i64 (s : Int))).drew := (A2.out.2.1.trans (A2.out.1.fmD ((Only.refl D w2).setCell (32 + L) _))).drew
        obtain ⟨w3, hw3⟩ : ∃ w3, (w2.setCell ⟨D, 32 + L, none⟩ (.int .i64 (s : Int))).drew = w3 := ⟨_, rfl⟩
        rw [hw3] at hb3 hf3 ⊢
        have e11 : upd f (32 + L) (.int .i64 (s : Int)) 11 = .int .i64 (L : Int) := (upd_ne _ _ (by omega)).trans (by rw [AK.out.2.2.1.have_, AK.out.2.2.2])
        have g11 := (hb3.cell (show 11 < 355 by decide)).trans (congrArg some e11)
        have y11 := hb3.fz 11
        have hLI : (L : Int) < 400 := by have := A2.out.2.2; omega
        have A3 : Aside (Bs w3 B D b R (upd f (32 + L) (.int .i64 (s : Int))) ((bs.drop pos).drop n) (win out) ∧ Fm B w w3) := ⟨hb3, hf3⟩
        clear hw3 hb3 hf3 e11 d11 dL zL t3 t3'
        go_wp2_with fail
        first | go_ret | go_ret2
        have a' := A.out
        have p := AK.out.2.2.1
        have hb4 := A3.out.1.set 11 (.int .i64 ((L : Int) + 1)) (by decide)
        have hf4 : Fm B w (w3.setCell ⟨D, 11, none⟩ (.int .i64 ((L : Int) + 1))) := A3.out.2.trans (A3.out.1.fmD ((Only.refl D w3).setCell 11 _))
        rw [List.drop_drop] at hb4
        have u : ∀ m, m ≠ 11 → m < 32 ∨ 348 ≤ m → upd (upd f (32 + L) (.int .i64 (s : Int))) 11 (.int .i64 ((L : Int) + 1)) m = f m := fun m h1 h2 => by
          have := A2.out.2.2
          rw [upd_ne _ _ h1, upd_ne _ _ (by omega)]
        refine ⟨true, rfl, hf4, Res.next (c' := ⟨.dsym last a c code (l ++ [s]), pos + n, out, times⟩) (Runs.one (AST.out _ (if_pos A16.out))) (a'.1.to hf4 hb4 ⟨(u 2 (by decide) (by decide)).trans AK.out.1, (u 5 (by decide) (by decide)).trans AK.out.2.1, p.a1, p.a2, p.b1, p.b2, (u 8 (by decide) (by decide)).trans p.c8, (u 9 (by decide) (by decide)).trans p.c9, ?_, ?_, ?_, ?_, p.code⟩ (u 3 (by decide) (by decide)) (u 4 (by decide) (by decide)) hn.out.1) (a'.2.1.to (u 352 (by decide) (by decide)) (u 353 (by decide) (by decide)) (u 354 (by decide) (by decide))) rfl ?_⟩
        · rw [upd_same, List.length_append, AK.out.2.2.2]
          rfl
        · rw [List.length_append, AK.out.2.2.2]
          exact AF.out
        · intro j x hx
          rw [upd_ne _ _ (by omega)]
          rw [List.getElem?_append] at hx
          split at hx
          · rename_i hjl
            rw [upd_ne _ _ (by rw [AK.out.2.2.2] at hjl; omega)]
            exact p.row j x hx
          · rename_i hjl
            rw [AK.out.2.2.2] at hjl hx
            have hj1 : j - L = 0 := by
              have := (List.getElem?_eq_some_iff.1 hx).1
              rw [List.length_singleton] at this
              omega
            rw [hj1] at hx
            cases hx
            rw [show 32 + j = 32 + L by omega, upd_same]
        · rw [u 31 (by decide) (by decide)]
          exact p.tbl.fm hf4
        · unfold mu rk
          simp only []
          have := hn.out
          omega
      · have t2 : ((s : Int) < 16) = False := eq_false (by omega)
        by_cases hz : s = 16 ∧ L = 0
        · obtain ⟨rfl, rfl⟩ := hz
          have hl0 : Aside (l = []) := List.eq_nil_of_length_eq_zero AK.out.2.2.2
          have hL0 : f 11 = .int .i64 0 := by rw [AK.out.2.2.1.have_, AK.out.2.2.2]; rfl
          clear h16 t2
          go_wp2_with (first
            | (go_at_call 97; refine hread.mono ?_; rintro e2 w2 ⟨hf2, rfl, hb2⟩
               have d11 := (hb2.cell (show 11 < 355 by decide)).trans (congrArg some hL0)
               have hst := pstop_c 12 w2 hb2)
            | (go_at_call 71; refine hst.mono ?_; rintro e3 w3 ⟨rfl, hb3, hf3⟩))
          first | go_ret | go_ret2
          have a' := A.out
          have hf : Fm B w w3 := (A1.out.trans hf2).trans hf3
          exact ⟨false, rfl, hf, Res.over (c' := ⟨.bad 12, pos + n, out, times⟩) (Runs.one (AST.out _ (by rw [if_neg (by decide), if_pos (by simp [hl0.out])]))) (a'.1.bad a'.2.1 hf hb3 12 (by decide) rfl rfl rfl rfl rfl rfl) rfl⟩
        · have AZ : Aside (¬ s < 16 ∧ ¬ (s = 16 ∧ L = 0)) := ⟨h16, hz⟩
          have hsI : (s : Int) < 400 := by have := hn.out; omega
          have hL11 : f 11 = .int .i64 (L : Int) := by rw [AK.out.2.2.1.have_, AK.out.2.2.2]
          have hfin : ∀ (w2 w3 : World), Fm B w1 w2 → Bs w2 B D b R f ((bs.drop pos).drop n) (win out) → Bs w3 B D b R (upd (upd f 348 (.int .i64 (s : Int))) 2 (fnv D 126)) ((bs.drop pos).drop n) (win out) → Fm B (w2.setCell ⟨D, 348, none⟩ (.int .i64 (s : Int))) w3 → Fm B w w3 ∧ Res B D b R bs most ⟨.dsym last a c code l, pos, out, times⟩ true w3 := fun w2 w3 hf2 hb2 hb3 hf3 => by
            have a' := A.out
            have p := AK.out.2.2.1
            have hf : Fm B w w3 := ((A1.out.trans hf2).trans (hb2.fmD ((Only.refl D w2).setCell 348 _))).trans hf3
            rw [List.drop_drop] at hb3
            have z := AZ.out
            refine ⟨hf, Res.next (c' := ⟨.drep last a c code l s, pos + n, out, times⟩) (Runs.one (AST.out _ ?_)) (a'.1.to hf hb3 ⟨rfl, AK.out.2.1, p.mono hf rfl rfl rfl rfl (fun j hj => by rw [upd_ne _ _ (by omega), upd_ne _ _ (by omega)]), rfl, by omega, by have := hn.out; omega, ?_⟩ rfl rfl hn.out.1) (a'.2.1.to rfl rfl rfl) rfl ?_⟩
            · rw [if_neg z.1, if_neg (fun h => z.2 ⟨h.1, by rw [← AK.out.2.2.2, h.2]; rfl⟩)]
            · intro h h'
              exact z.2 ⟨h, by rw [← AK.out.2.2.2, h']; rfl⟩
            · unfold mu rk
              simp only []
              have := hn.out
              omega
          have AFIN : Aside (∀ (w2 w3 : World), Fm B w1 w2 → Bs w2 B D b R f ((bs.drop pos).drop n) (win out) → Bs w3 B D b R (upd (upd f 348 (.int .i64 (s : Int))) 2 (fnv D 126)) ((bs.drop pos).drop n) (win out) → Fm B (w2.setCell ⟨D, 348, none⟩ (.int .i64 (s : Int))) w3 → Fm B w w3 ∧ Res B D b R bs most ⟨.dsym last a c code l, pos, out, times⟩ true w3) := hfin
          clear hfin
          by_cases h16' : s = 16
          · have t4 : ((s : Int) == 16) = true := by rw [beq_iff_eq]; omega
            have t5 : ((L : Int) == 0) = false := by rw [beq_eq_false_iff_ne]; have := AZ.out; omega
            clear h16 hz h16'
            go_wp2_with (first
              | (go_at_call 97; refine hread.mono ?_; rintro e2 w2 ⟨hf2, rfl, hb2⟩
                 have d11 := (hb2.cell (show 11 < 355 by decide)).trans (congrArg some hL11)
                 have d8 := hb2.cell (show 348 < 355 by decide)
                 have z8 := hb2.fz 348
                 have hth := pthen_c 126 _ (hb2.set 348 (.int .i64 (s : Int)) (by decide)))
              | (go_at_call 66; refine hth.mono ?_; rintro e3 w3 ⟨rfl, hb3, hf3⟩))
            first | go_ret | go_ret2
            have q := AFIN.out w2 w3 hf2 hb2 hb3 hf3
            exact ⟨true, rfl, q.1, q.2⟩
          · have t4 : ((s : Int) == 16) = false := by rw [beq_eq_false_iff_ne]; omega
            clear h16 hz h16'
            go_wp2_with (first
              | (go_at_call 97; refine hread.mono ?_; rintro e2 w2 ⟨hf2, rfl, hb2⟩
                 have d11 := (hb2.cell (show 11 < 355 by decide)).trans (congrArg some hL11)
                 have d8 := hb2.cell (show 348 < 355 by decide)
                 have z8 := hb2.fz 348
                 have hth := pthen_c 126 _ (hb2.set 348 (.int .i64 (s : Int)) (by decide)))
              | (go_at_call 66; refine hth.mono ?_; rintro e3 w3 ⟨rfl, hb3, hf3⟩))
            first | go_ret | go_ret2
            have q := AFIN.out w2 w3 hf2 hb2 hb3 hf3
            exact ⟨true, rfl, q.1, q.2⟩
end
end Go.Proofs.YtogednaamndpgaaGreatDoor

/-
 What the step that lays a run of lengths comes to.
-/
namespace Go.Proofs.YtogednaamndpgaaGreatDoor
open Go.RowKit
set_option linter.unusedVariables false
theorem run_tabs : ∀ s, 16 ≤ s → s ≤ 18 → ([2, 3, 7].getD (s - 16) 0 = if s = 16 then 2 else if s = 17 then 3 else 7) ∧ ([3, 3, 11].getD (s - 16) 0 = if s = 18 then 11 else 3) := by
 intro s h1 h2
 rcases (show s = 16 ∨ s = 17 ∨ s = 18 by omega) with rfl | rfl | rfl <;> decide
section
variable {B D b R : Nat} {f : Nat → Value} {bs : List Bool} {most : Nat}
set_option maxHeartbeats 1000000 in
theorem runOfLengths_s (w : World) {last : Bool} {a c s : Nat} {code l : List Nat} {pos : Nat} {out times : List Nat} (hI : Is w B D b R f bs ⟨.drep last a c code l s, pos, out, times⟩) (hO : Op f) : StepOk 126 B D b R bs most ⟨.drep last a c code l s, pos, out, times⟩ w := by
 obtain ⟨k2, k5, pl, k8, k9, k10, k11⟩ := id hI.at_
 have hle' : pos ≤ bs.length := hI.le
 have hm' : Bs w B D b R f (bs.drop pos) (win out) := hI.mem
 obtain ⟨L, hL⟩ : ∃ L, l.length = L := ⟨_, rfl⟩
 obtain ⟨r, hr⟩ : ∃ r, s - 16 = r := ⟨_, rfl⟩
 obtain ⟨m, hm⟩ : ∃ m, (if s = 16 then 2 else if s = 17 then 3 else 7) = m := ⟨_, rfl⟩
 obtain ⟨mb, hmb⟩ : ∃ mb, (if s = 18 then 11 else 3) = mb := ⟨_, rfl⟩
 have hr3 : r < 3 := by omega
 have hm7 : m ≤ 7 ∧ 2 ≤ m := by rw [← hm]; split <;> (try split) <;> omega
 have hmb11 : mb ≤ 11 ∧ 3 ≤ mb := by rw [← hmb]; split <;> omega
 have hrt := run_tabs s k9 k10
 rw [hr, hm, hmb] at hrt
 have c8 := (hm'.cell (show 348 < 355 by decide)).trans (congrArg some k8)
 have c0 := (hm'.cell (show 0 < 355 by decide)).trans (congrArg some hm'.c0)
 have A : Aside (Is w B D b R f bs ⟨.drep last a c code l s, pos, out, times⟩ ∧ Op f ∧ pos ≤ bs.length ∧ Bs w B D b R f (bs.drop pos) (win out)) := ⟨hI, hO, hle', hm'⟩
 have AK : Aside (f 2 = fnv D 126 ∧ f 5 = .bool last ∧ Pl w B f a c code l ∧ l.length = L ∧ f 348 = .int .i64 (s : Int) ∧ 16 ≤ s ∧ s ≤ 18 ∧ (s = 16 → l ≠ [])) := ⟨k2, k5, pl, hL, k8, k9, k10, k11⟩
 have AM : Aside (s - 16 = r ∧ (if s = 16 then 2 else if s = 17 then 3 else 7) = m ∧ (if s = 18 then 11 else 3) = mb ∧ r < 3 ∧ m ≤ 7 ∧ mb ≤ 11 ∧ 3 ≤ mb ∧ 2 ≤ m) := ⟨hr, hm, hmb, hr3, hm7.1, hmb11.1, hmb11.2, hm7.2⟩
 have hsr : (s : Int) - 16 = (r : Int) := by omega
 have hsI : (s : Int) < 19 := by omega
 have ht : ∀ u, Fm B w.drew u → u.cell? ⟨6, r, none⟩ = some (.int .u8 (m : Int)) ∧ u.cell? ⟨7, r, none⟩ = some (.int .u8 (mb : Int)) := fun u hf => by
  have t := hI.tabs.below (hf.of_drew.below (by have := hm'.lt; omega)) hI.b7
  have t5 := t.t5 r hr3
  have t6 := t.t6 r hr3
  rw [hrt.1] at t5
  rw [hrt.2] at t6
  exact ⟨t5, t6⟩
 have AT : Aside (∀ u, Fm B w.drew u → u.cell? ⟨6, r, none⟩ = some (.int .u8 (m : Int)) ∧ u.cell? ⟨7, r, none⟩ = some (.int .u8 (mb : Int))) := ht
 have t0 := (ht w.drew (Fm.refl B _)).1
 have hrI : ((r : Int) < 3) = True := eq_true (by omega)
 have hrn : (r < 3) = True := eq_true hr3
 have hmw : IntKind.i64.wrap (m : Int) = (m : Int) := by rw [IntKind.wrap_i64]; omega
 have hkeep : Aside (∀ u h', Bs u B D b R f h' (win out) → Fm B w.drew u → u.cell? ⟨D, 0, none⟩ = some (.pointer (some ⟨b, 0, none⟩)) ∧ u.cell? ⟨6, r, none⟩ = some (.int .u8 (m : Int))) := fun u h' hb hf => ⟨(hb.cell (show 0 < 355 by decide)).trans (congrArg some hb.c0), (ht u hf).1⟩
 have t00 : w.cell? ⟨6, r, none⟩ = some (.int .u8 (m : Int)) := t0
 unfold StepOk
 by_cases hshort : (bs.drop pos).length < m
 ·have htake := take_short m w.drew hm'.drew hshort
  have AS : Aside ((bs.drop pos).length < m) := hshort
  clear hI hO hle' hm' k2 k5 pl k8 k9 k10 k11 hr hm hmb hr3 hm7 hmb11 hrt ht hshort hL t0
  go_enter Tryz.func126, Tryz.ntmps126
  go_upto_region 2 with fail
  go_region_held3 (fun u => u.cell? ⟨D, 0, none⟩ = some (.pointer (some ⟨b, 0, none⟩)) ∧ u.cell? ⟨6, r, none⟩ = some (.int .u8 (m : Int))) (first | assumption | exact ⟨c0, t00⟩)
   (first | (go_at_call 64; refine htake.mono ?_; rintro e2 w2 ⟨rfl, rfl⟩))
  all_goals
   go_wp2_with fail
   first | go_ret | go_ret2
   have a' := A.out
   have am := AM.out
   have sh := AS.out
   rw [List.length_drop] at sh
   refine ⟨false, rfl, (Fm.refl B w).drew, Res.want (a'.1.same (Fm.refl B w).drew a'.1.mem.drew) a'.2.1 ?_ ?_ (fun y => by simp) (by simp)⟩
   ·show bs.length < pos + 32
    omega
   ·unfold step
    simp only [am.2.1]
    rw [num_no (by omega)]; rfl
 ·obtain ⟨v, hv⟩ : ∃ v, nm ((bs.drop pos).take m) = v := ⟨_, rfl⟩
  have hvlt : v < 128 := by
   have := nm_take_lt (bs.drop pos) m
   have h2 : 2 ^ m ≤ 2 ^ 7 := Nat.pow_le_pow_right (by decide) hm7.1
   omega
  have htake := take_at m w.drew hm'.drew (by omega) (by omega) v hv
  obtain ⟨mm, hmm⟩ : ∃ mm, mb + v = mm := ⟨_, rfl⟩
  have AS : Aside (pos + m ≤ bs.length ∧ nm ((bs.drop pos).take m) = v ∧ v < 128 ∧ mb + v = mm) := ⟨by rw [List.length_drop] at hshort; omega, hv, hvlt, hmm⟩
  have hmbI : (mb : Int) + (v : Int) = (mm : Int) := by omega
  have hvI : (v : Int) < 128 := by omega
  have hmbI2 : (mb : Int) < 12 := by omega
  have hmI : (mm : Int) < 200 := by omega
  have hLI : (L : Int) < 400 := by have := pl.len; have := pl.a2; have := pl.b2; omega
  have haI : (a : Int) < 300 := by have := pl.a2; omega
  have hcI : (c : Int) < 40 := by have := pl.b2; omega
  have hstep : ∀ st, (if a + c < L + mm then St.bad 12 else .dsym last a c code (l ++ List.replicate mm (if s = 16 then l.getD (L - 1) 0 else 0))) = st → step bs most ⟨.drep last a c code l s, pos, out, times⟩ = some ⟨st, pos + m, out, times⟩ := fun st h => by
   have q := AS.out
   have am := AM.out
   unfold step
   simp only [am.2.1, am.2.2.1]
   rw [pnum_at q.1, q.2.1, Option.map_some, q.2.2.2, hL, h]
  have AST : Aside (∀ st, (if a + c < L + mm then St.bad 12 else .dsym last a c code (l ++ List.replicate mm (if s = 16 then l.getD (L - 1) 0 else 0))) = st → step bs most ⟨.drep last a c code l s, pos, out, times⟩ = some ⟨st, pos + m, out, times⟩) := hstep
  clear hI hO hle' hm' k2 k5 pl k8 k9 k10 k11 hr hm hmb hr3 hm7 hmb11 hrt ht hshort hL t0 hv hvlt hmm hstep
  go_enter Tryz.func126, Tryz.ntmps126
  go_upto_region 2 with fail
  go_region_held3 (fun u => u.cell? ⟨D, 0, none⟩ = some (.pointer (some ⟨b, 0, none⟩)) ∧ u.cell? ⟨6, r, none⟩ = some (.int .u8 (m : Int))) (first | assumption | exact ⟨c0, t00⟩ | exact hkeep.out _ _ hb2 hf2)
   (first | (go_at_call 64; refine htake.mono ?_; rintro e2 w2 ⟨rfl, hb2, hf2⟩))
  all_goals
   have d6 := (AT.out _ hf2).2
   have p := AK.out.2.2.1
   have d11 := (hb2.cell (show 11 < 355 by decide)).trans (congrArg some (by rw [p.have_, AK.out.2.2.2.1]))
   have d8 := (hb2.cell (show 8 < 355 by decide)).trans (congrArg some p.c8)
   have d9 := (hb2.cell (show 9 < 355 by decide)).trans (congrArg some p.c9)
   have ds := (hb2.cell (show 348 < 355 by decide)).trans (congrArg some AK.out.2.2.2.2.1)
   have A2 : Aside (Bs w2 B D b R f ((bs.drop pos).drop m) (win out) ∧ Fm B w w2) := ⟨hb2, hf2.of_drew⟩
   clear hb2 hf2 p htake c0 c8 t00 hkeep AT hmw
   go_upto_region 7 with fail
   by_cases hbig : a + c < L + mm
   ·have t1 : ((a : Int) + (c : Int) < (L : Int) + (mm : Int)) = True := eq_true (by omega)
    have AB : Aside (a + c < L + mm) := hbig
    clear hbig
    go_quiet (fail)
    have hst := pstop_c 12 _ (A2.out.1.drewN nq)
    go_wp2_with (go_at_call 71; refine hst.mono ?_; rintro e3 w3 ⟨rfl, hb3, hf3⟩)
    first | go_ret | go_ret2
    have a' := A.out
    have hf : Fm B w w3 := (A2.out.2.drewN nq).trans hf3
    exact ⟨false, rfl, hf, Res.over (c' := ⟨.bad 12, pos + m, out, times⟩) (Runs.one (AST.out _ (if_pos AB.out))) (a'.1.bad a'.2.1 hf hb3 12 (by decide) rfl rfl rfl rfl rfl rfl) rfl⟩
   ·have t1 : ((a : Int) + (c : Int) < (L : Int) + (mm : Int)) = False := eq_false (by omega)
    have AB : Aside (¬ a + c < L + mm) := hbig
    obtain ⟨x, hx⟩ : ∃ x, (if s = 16 then l.getD (L - 1) 0 else 0) = x := ⟨_, rfl⟩
    have AX : Aside ((if s = 16 then l.getD (L - 1) 0 else 0) = x) := hx
    have hmain : ∀ w3, Bs w3 B D b R f ((bs.drop pos).drop m) (win out) → Fm B w w3 → ∃ f', Bs w3 B D b R f' ((bs.drop pos).drop m) (win out) ∧ Fm B w w3 ∧ f' 11 = .int .i64 ((L + 0 : Nat) : Int) ∧ (∀ (j y : Nat), (l ++ List.replicate 0 x)[j]? = some y → f' (32 + j) = .int .i64 (y : Int)) ∧ (∀ n, n ≠ 11 → n < 32 ∨ 348 ≤ n → f' n = f n) := fun w3 h1 h2 => ⟨f, h1, h2, by rw [AK.out.2.2.1.have_, AK.out.2.2.2.1]; rfl, fun j y hy => by rw [List.replicate_zero, List.append_nil] at hy; exact AK.out.2.2.1.row j y hy, fun _ _ _ => rfl⟩
    have AMN : Aside (∀ w3, Bs w3 B D b R f ((bs.drop pos).drop m) (win out) → Fm B w w3 → ∃ f', Bs w3 B D b R f' ((bs.drop pos).drop m) (win out) ∧ Fm B w w3 ∧ f' 11 = .int .i64 ((L + 0 : Nat) : Int) ∧ (∀ (j y : Nat), (l ++ List.replicate 0 x)[j]? = some y → f' (32 + j) = .int .i64 (y : Int)) ∧ (∀ n, n ≠ 11 → n < 32 ∨ 348 ≤ n → f' n = f n)) := hmain
    clear hbig hmain
    go_quiet (fail)
    have hb3 := A2.out.1.drewN nq
    have hf3 : Fm B w (w2.drewN nq) := A2.out.2.drewN nq
    obtain ⟨w3, hw3⟩ : ∃ w3, w2.drewN nq = w3 := ⟨_, rfl⟩
    rw [hw3] at hb3 hf3 ⊢
    have gs := (hb3.cell (show 348 < 355 by decide)).trans (congrArg some AK.out.2.2.2.2.1)
    have g11 := (hb3.cell (show 11 < 355 by decide)).trans (congrArg some (show f 11 = .int .i64 (L : Int) by rw [AK.out.2.2.1.have_, AK.out.2.2.2.1]))
    have A3 : Aside (Bs w3 B D b R f ((bs.drop pos).drop m) (win out) ∧ Fm B w w3) := ⟨hb3, hf3⟩
    clear hw3 d6 d11 d8 d9 ds t1
    by_cases h16 : s = 16
    ·have t2 : ((s : Int) == 16) = true := by rw [beq_iff_eq]; omega
     rw [if_pos h16] at hx
     have hL0 : 0 < L := by
      have := AK.out.2.2.2.2.2.2.2 h16
      rw [← AK.out.2.2.2.1]
      exact List.length_pos_iff.2 this
     obtain ⟨q, hq⟩ : ∃ q, L - 1 = q := ⟨_, rfl⟩
     have hqI : (L : Int) - 1 = (q : Int) := by omega
     have hq316 : q < 316 := by have := AK.out.2.2.1.len; have := AK.out.2.2.1.a2; have := AK.out.2.2.1.b2; have := AK.out.2.2.2.1; omega
     have hqL : q < l.length := by rw [AK.out.2.2.2.1]; omega
     have eq : f (32 + q) = .int .i64 (x : Int) := by
      rw [← hx, hq, List.getD_eq_getElem?_getD, List.getElem?_eq_getElem hqL]
      exact AK.out.2.2.1.row q _ (List.getElem?_eq_getElem hqL)
     have gq := (hb3.cell (show 32 + q < 355 by omega)).trans (congrArg some eq)
     have t3 : ((q : Int) < 316) = True := eq_true (by omega)
     have t3' : (q < 316) = True := eq_true hq316
     have hwq : ∀ z : Int, z = (L : Int) - 1 → IntKind.i64.wrap z = (q : Int) := by intro z hz; rw [IntKind.wrap_i64, hz]; omega
     clear h16 hx hL0 hq hqL eq hb3 hf3 hq316
     go_upto_region 11 with fail
     go_quiet (fail)
     have A4 : Aside (∃ f', Bs (w3.drewN nq) B D b R f' ((bs.drop pos).drop m) (win out) ∧ Fm B w (w3.drewN nq) ∧ f' 11 = .int .i64 ((L + 0 : Nat) : Int) ∧ (∀ (j y : Nat), (l ++ List.replicate 0 x)[j]? = some y → f' (32 + j) = .int .i64 (y : Int)) ∧ (∀ n, n ≠ 11 → n < 32 ∨ 348 ≤ n → f' n = f n)) := AMN.out _ (A3.out.1.drewN nq) (A3.out.2.drewN nq)
     obtain ⟨w4, hw4⟩ : ∃ w4, w3.drewN nq = w4 := ⟨_, rfl⟩
     rw [hw4] at A4 ⊢
     clear hw4 gs g11 gq t3 t3' hwq t2
     go_wp2_with fail
     go_loopg [72] mm (fun gg si wr => ∃ t : Nat, si = .int .i64 t ∧ Aside (t + gg = mm ∧ ∃ f', Bs wr B D b R f' ((bs.drop pos).drop m) (win out) ∧ Fm B w wr ∧ f' 11 = .int .i64 ((L + t : Nat) : Int) ∧ (∀ (j y : Nat), (l ++ List.replicate t x)[j]? = some y → f' (32 + j) = .int .i64 (y : Int)) ∧ (∀ n, n ≠ 11 → n < 32 ∨ 348 ≤ n → f' n = f n)))
     case atStart => exact ⟨0, rfl, by omega, A4.out⟩
     case round =>
      obtain ⟨t, rfl, hI⟩ := hrel
      obtain ⟨htg, f', hb5, hf5, h11, hrow, hrest⟩ := hI.out
      by_cases htm : t < mm
      ·have u1 : ((t : Int) < (mm : Int)) = True := eq_true (by omega)
       have u2 : (t < mm) = True := eq_true htm
       have htI : (t : Int) < 1000 := by omega
       obtain ⟨g, hg⟩ : ∃ g, L + t = g := ⟨_, rfl⟩
       rw [hg] at h11
       have hg316 : g < 316 := by have := AB.out; have := AK.out.2.2.1.a2; have := AK.out.2.2.1.b2; omega
       have c11 := (hb5.cell (show 11 < 355 by decide)).trans (congrArg some h11)
       have cg := hb5.cell (show 32 + g < 355 by omega)
       have zg := hb5.fz (32 + g)
       have u3 : ((g : Int) < 316) = True := eq_true (by omega)
       have u3' : (g < 316) = True := eq_true hg316
       have AN : Aside (t + gk = mm ∧ Bs wr B D b R f' ((bs.drop pos).drop m) (win out) ∧ Fm B w wr ∧ f' 11 = .int .i64 (g : Int) ∧ (∀ (j y : Nat), (l ++ List.replicate t x)[j]? = some y → f' (32 + j) = .int .i64 (y : Int)) ∧ (∀ n, n ≠ 11 → n < 32 ∨ 348 ≤ n → f' n = f n) ∧ L + t = g ∧ g < 316 ∧ t < mm) := ⟨htg, hb5, hf5, h11, hrow, hrest, hg, hg316, htm⟩
       clear hI htg hb5 hf5 h11 hrow hrest hg hg316 htm
       go_upto_region 14 with fail
       go_region
       have an := AN.out
       have hb6 := (an.2.1.set (32 + g) (.int .i64 (x : Int)) (by omega)).drew
       have hf6 : Fm B w (wr.setCell ⟨D, 32 + g, none⟩ (.int .i64 (x : Int))).drew := (an.2.2.1.trans (an.2.1.fmD ((Only.refl D wr).setCell (32 + g) _))).drew
       obtain ⟨w6, hw6⟩ : ∃ w6, (wr.setCell ⟨D, 32 + g, none⟩ (.int .i64 (x : Int))).drew = w6 := ⟨_, rfl⟩
       rw [hw6] at hb6 hf6 ⊢
       have e11 : upd f' (32 + g) (.int .i64 (x : Int)) 11 = .int .i64 (g : Int) := (upd_ne _ _ (by omega)).trans an.2.2.2.1
       have y11 := (hb6.cell (show 11 < 355 by decide)).trans (congrArg some e11)
       have z11 := hb6.fz 11
       have hgI : (g : Int) < 400 := by omega
       have A6 : Aside (Bs w6 B D b R (upd f' (32 + g) (.int .i64 (x : Int))) ((bs.drop pos).drop m) (win out) ∧ Fm B w w6) := ⟨hb6, hf6⟩
       clear an hb6 hf6 hw6 e11 c11 cg zg u3 u3'
       go_wp2_with fail
       have an := AN.out
       go_roundg (gk - 1)
       case measure => omega
       case rel =>
        refine ⟨t + 1, by go_num, by omega, _, A6.out.1.set 11 (.int .i64 ((g : Int) + 1)) (by decide), A6.out.2.trans (A6.out.1.fmD ((Only.refl D w6).setCell 11 _)), ?_, ?_, ?_⟩
        ·rw [upd_same, show L + (t + 1) = g + 1 by omega]; rfl
        ·intro j y hy
         rw [upd_ne _ _ (by omega)]
         rw [List.replicate_succ', ← List.append_assoc, List.getElem?_append] at hy
         have hlen : (l ++ List.replicate t x).length = g := by rw [List.length_append, List.length_replicate, AK.out.2.2.2.1]; exact an.2.2.2.2.2.2.1
         rw [hlen] at hy
         split at hy
         ·rw [upd_ne _ _ (by omega)]; exact an.2.2.2.2.1 j y hy
         ·rename_i hjg
          have hj1 : j - g = 0 := by
           have := (List.getElem?_eq_some_iff.1 hy).1
           rw [List.length_singleton] at this
           omega
          rw [hj1] at hy
          cases hy
          rw [show 32 + j = 32 + g by omega, upd_same]
        ·intro n h1 h2
         have := an.2.2.2.2.2.2.2.1
         rw [upd_ne _ _ h1, upd_ne _ _ (by omega)]
         exact an.2.2.2.2.2.1 n h1 h2
      ·have ht : t = mm := by omega
       subst ht
       have u1 : ((t : Int) < (t : Int)) = False := eq_false (by omega)
       have u2 : (t < t) = False := eq_false (by omega)
       have hth := pthen_c 115 wr hb5
       have AN : Aside (Fm B w wr ∧ f' 11 = .int .i64 ((L + t : Nat) : Int) ∧ (∀ (j y : Nat), (l ++ List.replicate t x)[j]? = some y → f' (32 + j) = .int .i64 (y : Int)) ∧ (∀ n, n ≠ 11 → n < 32 ∨ 348 ≤ n → f' n = f n)) := ⟨hf5, h11, hrow, hrest⟩
       clear hI htg hb5 hf5 h11 hrow hrest htm
       go_wp2_with (go_at_call 66; refine hth.mono ?_; rintro e7 w7 ⟨rfl, hb7, hf7⟩)
       first | go_ret | go_ret2
       have a' := A.out
       have an := AN.out
       have hf : Fm B w w7 := an.1.trans hf7
       have p := AK.out.2.2.1
       have ab := AB.out
       rw [List.drop_drop] at hb7
       have u : ∀ n, n ≠ 2 → n ≠ 11 → n < 32 ∨ 348 ≤ n → upd f' 2 (fnv D 115) n = f n := fun n h0 h1 h2 => by rw [upd_ne _ _ h0]; exact an.2.2.2 n h1 h2
       have hlen : (l ++ List.replicate t x).length = L + t := by rw [List.length_append, List.length_replicate, AK.out.2.2.2.1]
       refine ⟨true, rfl, hf, Res.next (c' := ⟨.dsym last a c code (l ++ List.replicate t x), pos + m, out, times⟩) (Runs.one (AST.out _ (by rw [if_neg ab, AX.out]))) (a'.1.to hf hb7 ⟨rfl, (u 5 (by decide) (by decide) (by decide)).trans AK.out.2.1, p.a1, p.a2, p.b1, p.b2, (u 8 (by decide) (by decide) (by decide)).trans p.c8, (u 9 (by decide) (by decide) (by decide)).trans p.c9, ?_, by rw [hlen]; omega, ?_, ?_, p.code⟩ (u 3 (by decide) (by decide) (by decide)) (u 4 (by decide) (by decide) (by decide)) AS.out.1) (a'.2.1.to (u 352 (by decide) (by decide) (by decide)) (u 353 (by decide) (by decide) (by decide)) (u 354 (by decide) (by decide) (by decide))) rfl ?_⟩
       ·rw [upd_ne _ _ (by decide), an.2.1, hlen]
       ·intro j y hy
        rw [upd_ne _ _ (by omega)]
        exact an.2.2.1 j y hy
       ·rw [u 31 (by decide) (by decide) (by decide)]
        exact p.tbl.fm hf
       ·unfold mu rk
        simp only []
        have := AM.out
        have := AS.out.1
        omega
    ·have t2 : ((s : Int) == 16) = false := by rw [beq_eq_false_iff_ne]; omega
     rw [if_neg h16] at hx
     subst hx
     have A4 : Aside (∃ f', Bs w3 B D b R f' ((bs.drop pos).drop m) (win out) ∧ Fm B w w3 ∧ f' 11 = .int .i64 ((L + 0 : Nat) : Int) ∧ (∀ (j y : Nat), (l ++ List.replicate 0 0)[j]? = some y → f' (32 + j) = .int .i64 (y : Int)) ∧ (∀ n, n ≠ 11 → n < 32 ∨ 348 ≤ n → f' n = f n)) := AMN.out _ A3.out.1 A3.out.2
     clear h16 hb3 hf3
     go_upto_region 12 with fail
     clear gs g11 t2
     go_wp2_with fail
     go_loopg [72] mm (fun gg si wr => ∃ t : Nat, si = .int .i64 t ∧ Aside (t + gg = mm ∧ ∃ f', Bs wr B D b R f' ((bs.drop pos).drop m) (win out) ∧ Fm B w wr ∧ f' 11 = .int .i64 ((L + t : Nat) : Int) ∧ (∀ (j y : Nat), (l ++ List.replicate t 0)[j]? = some y → f' (32 + j) = .int .i64 (y : Int)) ∧ (∀ n, n ≠ 11 → n < 32 ∨ 348 ≤ n → f' n = f n)))
     case atStart => exact ⟨0, rfl, by omega, A4.out⟩
     case round =>
      obtain ⟨t, rfl, hI⟩ := hrel
      obtain ⟨htg, f', hb5, hf5, h11, hrow, hrest⟩ := hI.out
      by_cases htm : t < mm
      ·have u1 : ((t : Int) < (mm : Int)) = True := eq_true (by omega)
       have u2 : (t < mm) = True := eq_true htm
       have htI : (t : Int) < 1000 := by omega
       obtain ⟨g, hg⟩ : ∃ g, L + t = g := ⟨_, rfl⟩
       rw [hg] at h11
       have hg316 : g < 316 := by have := AB.out; have := AK.out.2.2.1.a2; have := AK.out.2.2.1.b2; omega
       have c11 := (hb5.cell (show 11 < 355 by decide)).trans (congrArg some h11)
       have cg := hb5.cell (show 32 + g < 355 by omega)
       have zg := hb5.fz (32 + g)
       have u3 : ((g : Int) < 316) = True := eq_true (by omega)
       have u3' : (g < 316) = True := eq_true hg316
       have AN : Aside (t + gk = mm ∧ Bs wr B D b R f' ((bs.drop pos).drop m) (win out) ∧ Fm B w wr ∧ f' 11 = .int .i64 (g : Int) ∧ (∀ (j y : Nat), (l ++ List.replicate t 0)[j]? = some y → f' (32 + j) = .int .i64 (y : Int)) ∧ (∀ n, n ≠ 11 → n < 32 ∨ 348 ≤ n → f' n = f n) ∧ L + t = g ∧ g < 316 ∧ t < mm) := ⟨htg, hb5, hf5, h11, hrow, hrest, hg, hg316, htm⟩
       clear hI htg hb5 hf5 h11 hrow hrest hg hg316 htm
       go_upto_region 14 with fail
       go_region
       have an := AN.out
       have hb6 := (an.2.1.set (32 + g) (.int .i64 0) (by omega)).drew
       have hf6 : Fm B w (wr.setCell ⟨D, 32 + g, none⟩ (.int .i64 0)).drew := (an.2.2.1.trans (an.2.1.fmD ((Only.refl D wr).setCell (32 + g) _))).drew
       obtain ⟨w6, hw6⟩ : ∃ w6, (wr.setCell ⟨D, 32 + g, none⟩ (.int .i64 0)).drew = w6 := ⟨_, rfl⟩
       rw [hw6] at hb6 hf6 ⊢
       have e11 : upd f' (32 + g) (.int .i64 0) 11 = .int .i64 (g : Int) := (upd_ne _ _ (by omega)).trans an.2.2.2.1
       have y11 := (hb6.cell (show 11 < 355 by decide)).trans (congrArg some e11)
       have z11 := hb6.fz 11
       have hgI : (g : Int) < 400 := by omega
       have A6 : Aside (Bs w6 B D b R (upd f' (32 + g) (.int .i64 0)) ((bs.drop pos).drop m) (win out) ∧ Fm B w w6) := ⟨hb6, hf6⟩
       clear an hb6 hf6 hw6 e11 c11 cg zg u3 u3'
       go_wp2_with fail
       have an := AN.out
       go_roundg (gk - 1)
       case measure => omega
       case rel =>
        refine ⟨t + 1, by go_num, by omega, _, A6.out.1.set 11 (.int .i64 ((g : Int) + 1)) (by decide), A6.out.2.trans (A6.out.1.fmD ((Only.refl D w6).setCell 11 _)), ?_, ?_, ?_⟩
        ·rw [upd_same, show L + (t + 1) = g + 1 by omega]; rfl
        ·intro j y hy
         rw [upd_ne _ _ (by omega)]
         rw [List.replicate_succ', ← List.append_assoc, List.getElem?_append] at hy
         have hlen : (l ++ List.replicate t 0).length = g := by rw [List.length_append, List.length_replicate, AK.out.2.2.2.1]; exact an.2.2.2.2.2.2.1
         rw [hlen] at hy
         split at hy
         ·rw [upd_ne _ _ (by omega)]; exact an.2.2.2.2.1 j y hy
         ·rename_i hjg
          have hj1 : j - g = 0 := by
           have := (List.getElem?_eq_some_iff.1 hy).1
           rw [List.length_singleton] at this
           omega
          rw [hj1] at hy
          cases hy
          rw [show 32 + j = 32 + g by omega, upd_same]
          rfl
        ·intro n h1 h2
         have := an.2.2.2.2.2.2.2.1
         rw [upd_ne _ _ h1, upd_ne _ _ (by omega)]
         exact an.2.2.2.2.2.1 n h1 h2
      ·have ht : t = mm := by omega
       subst ht
       have u1 : ((t : Int) < (t : Int)) = False := eq_false (by omega)
       have u2 : (t < t) = False := eq_false (by omega)
       have hth := pthen_c 115 wr hb5
       have AN : Aside (Fm B w wr ∧ f' 11 = .int .i64 ((L + t : Nat) : Int) ∧ (∀ (j y : Nat), (l ++ List.replicate t 0)[j]? = some y → f' (32 + j) = .int .i64 (y : Int)) ∧ (∀ n, n ≠ 11 → n < 32 ∨ 348 ≤ n → f' n = f n)) := ⟨hf5, h11, hrow, hrest⟩
       clear hI htg hb5 hf5 h11 hrow hrest htm
       go_wp2_with (go_at_call 66; refine hth.mono ?_; rintro e7 w7 ⟨rfl, hb7, hf7⟩)
       first | go_ret | go_ret2
       have a' := A.out
       have an := AN.out
       have hf : Fm B w w7 := an.1.trans hf7
       have p := AK.out.2.2.1
       have ab := AB.out
       rw [List.drop_drop] at hb7
       have u : ∀ n, n ≠ 2 → n ≠ 11 → n < 32 ∨ 348 ≤ n → upd f' 2 (fnv D 115) n = f n := fun n h0 h1 h2 => by rw [upd_ne _ _ h0]; exact an.2.2.2 n h1 h2
       have hlen : (l ++ List.replicate t 0).length = L + t := by rw [List.length_append, List.length_replicate, AK.out.2.2.2.1]
       refine ⟨true, rfl, hf, Res.next (c' := ⟨.dsym last a c code (l ++ List.replicate t 0), pos + m, out, times⟩) (Runs.one (AST.out _ (by rw [if_neg ab, AX.out]))) (a'.1.to hf hb7 ⟨rfl, (u 5 (by decide) (by decide) (by decide)).trans AK.out.2.1, p.a1, p.a2, p.b1, p.b2, (u 8 (by decide) (by decide) (by decide)).trans p.c8, (u 9 (by decide) (by decide) (by decide)).trans p.c9, ?_, by rw [hlen]; omega, ?_, ?_, p.code⟩ (u 3 (by decide) (by decide) (by decide)) (u 4 (by decide) (by decide) (by decide)) AS.out.1) (a'.2.1.to (u 352 (by decide) (by decide) (by decide)) (u 353 (by decide) (by decide) (by decide)) (u 354 (by decide) (by decide) (by decide))) rfl ?_⟩
       ·rw [upd_ne _ _ (by decide), an.2.1, hlen]
       ·intro j y hy
        rw [upd_ne _ _ (by omega)]
        exact an.2.2.1 j y hy
       ·rw [u 31 (by decide) (by decide) (by decide)]
        exact p.tbl.fm hf
       ·unfold mu rk
        simp only []
        have := AM.out
        have := AS.out.1
        omega
end
end Go.Proofs.YtogednaamndpgaaGreatDoor

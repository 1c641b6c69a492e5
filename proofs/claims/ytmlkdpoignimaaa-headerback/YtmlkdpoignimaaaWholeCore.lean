/-
  HeaderWhole's walk.
-/
import Derived.Test.YtmlkdpoignimaaaAwk
import Derived.Test.YtmlkdpoignimaaaRof
namespace Go.Proofs.Ytmlkdpoignimaaa
open Go.RowKit
set_option linter.unusedVariables false
theorem Ow.empty {w : World} {lo : Nat} (h : lo ≤ w.heap.size) : Ow (w.alloc (.cells #[] 5)) lo 5 1 (.slice (some ⟨w.heap.size, 0, none⟩) 0 0) 0 (ob []) := Ow.made (cs := #[]) h (by decide) rfl
theorem ow_lies {w : World} {lo n : Nat} {v : Value} {l : List Nat} (h : Ow w lo 5 1 v n (ob l)) (hn : l.length = n) : ∃ a c, v = .slice a n c ∧ n ≤ c ∧ Lies w a l ∧ (a = none → n = 0 ∧ c = 0) := by
  obtain ⟨a, c, hv, hc, hq, hn'⟩ := h.shape
  refine ⟨a, c, hv, hc, ?_, hn'⟩
  rcases hq with h0 | ⟨g, ha, _, _, hx, _⟩
  · exact Or.inl (List.eq_nil_of_length_eq_zero (by omega))
  · exact Or.inr ⟨g, 0, ha, fun i x hi => by rw [Nat.zero_add]; exact hx i _ (by rw [ob_get, hi]; rfl)⟩
theorem lies_ob {w : World} {a : Option Addr} {l : List Nat} (h : Lies w a l) : ob l = [] ∨ ∃ b o, a = some ⟨b, o, none⟩ ∧ ∀ (i : Nat) u, (ob l)[i]? = some u → w.cell? ⟨b, o + i, none⟩ = some u := by
  rcases h with rfl | ⟨b, o, ha, hc⟩
  · exact Or.inl rfl
  · refine Or.inr ⟨b, o, ha, fun i u hu => ?_⟩
    rw [ob_get] at hu
    cases hx : l[i]? with
    | none => rw [hx] at hu; simp at hu
    | some x =>
      rw [hx] at hu
      simp at hu
      rw [← hu]; exact hc i x hx
/-- The told fields of a run. -/
theorem rn_flat (most : Nat) : ∀ (l : List Nat) (k : Nat) (F : List Fd) (c : List Nat), Oct (flat F ++ c) → Oct l → F.length ≤ 64 → (flat F ++ c).length ≤ k → OctF (rn most k F c l).fs ∧ (rn most k F c l).fs.length ≤ 64 ∧ (flat (rn most k F c l).fs).length ≤ k + l.length ∧ Oct (flat (rn most k F c l).fs)
  | [], k, F, c => fun ho _ h64 hk => by
    rw [rn_nil]
    show OctF (fin F c).2 ∧ (fin F c).2.length ≤ 64 ∧ (flat (fin F c).2).length ≤ k + 0 ∧ Oct (flat (fin F c).2)
    unfold fin
    split
    · rw [List.length_append] at hk
      exact ⟨flat_octF ho.left, h64, by show (flat F).length ≤ k + 0; omega, ho.left⟩
    · by_cases h0 : (lin F c).1 = 0
      · have := flat_lin h0
        exact ⟨flat_octF (by rw [this]; exact ho), lin_len h64, by rw [this]; exact hk, by rw [this]; exact ho⟩
      · rw [lin_stop h0]
        exact ⟨by simp [OctF], by simp, by simp [flat], by simp [flat, Oct]⟩
  | b :: l, k, F, c => fun ho hl h64 hk => by
    have hnil : OctF ([] : List Fd) ∧ ([] : List Fd).length ≤ 64 ∧ (flat []).length ≤ k + (b :: l).length ∧ Oct (flat []) := ⟨by simp [OctF], by simp, by simp [flat], by simp [flat, Oct]⟩
    have hl2 : Oct l := fun x hx => hl x (by simp [hx])
    rw [rn]
    split
    · exact hnil
    · split
      · split
        · rw [List.length_append] at hk
          exact ⟨flat_octF ho.left, h64, by simp only [List.length_cons]; omega, ho.left⟩
        · split
          · rename_i h0
            have hf := flat_lin h0
            have hd := d13_len c
            have := rn_flat most l (k + 1) (lin F (d13 c)).2 [] (by rw [List.append_nil, hf]; exact ho.left.append (d13_oct ho.right)) hl2 (lin_len h64) (by rw [List.append_nil, hf, List.length_append]; rw [List.length_append] at hk; omega)
            simp only [List.length_cons]
            refine ⟨this.1, this.2.1, by omega, this.2.2.2⟩
          · exact hnil
      · have := rn_flat most l (k + 1) F (c ++ [b]) (by rw [← List.append_assoc]; exact ho.append (fun x hx => by simp at hx; rw [hx]; exact hl b (by simp))) hl2 h64 (by rw [← List.append_assoc, List.length_append, List.length_singleton]; omega)
        simp only [List.length_cons]
        exact ⟨this.1, this.2.1, by omega, this.2.2.2⟩
theorem told_oct {F : List Fd} (h : OctF F) : OctF (told F) := by
  intro f hf
  obtain ⟨g, hg, rfl⟩ := List.mem_map.1 hf
  exact ⟨(h g hg).1, (h g hg).2.trm⟩
theorem rn_oct (most : Nat) {l : List Nat} (h : Oct l) : OctF (told (rn most 0 [] [] l).fs) ∧ (told (rn most 0 [] [] l).fs).length ≤ 64 := by
  have := rn_flat most l 0 [] [] (by simp [flat, Oct]) h (by simp) (by simp [flat])
  exact ⟨told_oct this.1, by rw [told_length]; exact this.2.1⟩
set_option maxRecDepth 20000 in
set_option maxHeartbeats 2000000 in
theorem whole_core (w : World) (a : Option Addr) (l : List Nat) (L C : Nat) (m : Int) (hl : Lies w a l) (hL : l.length = L) (hLC : L ≤ C) (hLb : L ≤ 140737488351232) (ho : Oct l) (haz : a = none → L = 0 ∧ C = 0) :
    Calls Try.prog 3 #[.slice a L C, .int .i64 m] w fun e w' => e = .returned (.bool true) ∧ Below w.heap.size w w' := by
  obtain ⟨B, hB⟩ : ∃ B, w.heap.size = B := ⟨_, rfl⟩
  rw [hB]
  have hob0 : Ow (w.alloc (.cells #[] 5)) B 5 1 (.slice (some ⟨B, 0, none⟩) 0 0) 0 (ob []) := by rw [← hB]; exact Ow.empty (Nat.le_refl _)
  have b0 : Below w.heap.size w (w.alloc (.cells #[] 5)) := (Below.refl _ w).alloc (Nat.le_refl _) _
  have hl0 := lies_ob (hl.below b0)
  rw [hB] at b0
  obtain ⟨i0, hi, hz0, hz1, hz2⟩ := ginfo_parts ginfo5
  have A : Aside (Lies w a l ∧ l.length = L ∧ L ≤ C ∧ L ≤ 140737488351232 ∧ Oct l ∧ w.heap.size = B ∧ Below B w (w.alloc (.cells #[] 5)) ∧ 0 + L ≤ maxLen ∧ (0 + L) * 1 ≤ 140737488355328 ∧ (ob l).length = L * 1) := ⟨hl, hL, hLC, hLb, ho, hB, b0, by unfold maxLen; omega, by omega, by rw [ob_length]; omega⟩
  have AZ : Aside (a = none → L = 0 ∧ C = 0) := haz
  clear hl hLb ho haz b0 hLC hL
  go_enter Try.func3, Try.ntmps3
  go_upto_region 2 with (at_builtin; refine wpList_ow Try.prog _ rfl (.tmp 12) (.tmp 13) 22 rfl 5 i0 _ 1 1 Try.underlying22 hi hz0 hz1 hz2 rfl (by decide) B (.slice (some ⟨B, 0, none⟩) 0 0) 0 _ (by rfl) hob0 a (ob l) L C A.out.2.2.2.2.2.2.2.2.2 (by rfl) AZ.out hl0 ob_one A.out.2.2.2.2.2.2.2.1 A.out.2.2.2.2.2.2.2.2.1 ?_; intro v1 w1 hgot)
  have a0 := A.out
  have how : Ow w1 B 5 1 v1 L (ob l) := by have := hgot.ow; rw [Nat.zero_add, ob_append, List.nil_append] at this; exact this
  obtain ⟨va, vc, hv, hvc, hlies1, hvn⟩ := ow_lies how a0.2.1
  subst hv
  have bel1 : Below B w w1 := a0.2.2.2.2.2.2.1.trans hgot.bel
  by_cases hm : m < 1 ∨ 65536 < m
  · have hwh := whole_bad m hm w1 (.slice va L vc)
    have haw := awake_c w1
    have A1 : Aside (Below B w w1 ∧ B ≤ w1.heap.size) := ⟨bel1, how.le⟩
    by_cases hm1 : m < 1
    · have t1 : (m < 1) = True := eq_true hm1
      clear a0 how hlies1 hvn hvc hgot bel1 hm hob0 hl0 hm1 hB
      go_wp2_with (first
        | (go_at_call 9; refine hwh.mono ?_; rintro e1 w2 ⟨rfl, hw2⟩; subst hw2)
        | (go_at_call 10; refine haw.mono ?_; rintro e1 w3 ⟨rfl, hb3⟩))
      first | go_ret | go_ret2
      exact ⟨rfl, A1.out.1.trans (hb3.mono A1.out.2)⟩
    · have t1 : (m < 1) = False := eq_false hm1
      have t2 : (65536 < m) = True := eq_true (by omega)
      clear a0 how hlies1 hvn hvc hgot bel1 hm hob0 hl0 hm1 hB
      go_wp2_with (first
        | (go_at_call 9; refine hwh.mono ?_; rintro e1 w2 ⟨rfl, hw2⟩; subst hw2)
        | (go_at_call 10; refine haw.mono ?_; rintro e1 w3 ⟨rfl, hb3⟩))
      first | go_ret | go_ret2
      exact ⟨rfl, A1.out.1.trans (hb3.mono A1.out.2)⟩
  · obtain ⟨most, rfl⟩ : ∃ n : Nat, m = (n : Int) := ⟨m.toNat, by omega⟩
    have t1 : ((most : Int) < 1) = False := eq_false (by omega)
    have t2 : ((65536 : Int) < (most : Int)) = False := eq_false (by omega)
    have t1' : (most < 1) = False := eq_false (by omega)
    have t2' : (65536 < most) = False := eq_false (by omega)
    have hwh := whole_c w1 va l L vc most hlies1 a0.2.1 (by omega) a0.2.2.2.2.1 (by omega) (by omega)
    have hof := fun W (h : Lies W a l) => rof_c W a l L C most h a0.2.1 a0.2.2.1 (by omega) a0.2.2.2.2.1 (by omega) (by omega)
    unfold WhTo at hwh
    unfold OfTo at hof
    have hro := rn_oct most a0.2.2.2.2.1
    have hat := rn_at most l 0 [] []
    obtain ⟨R, hR⟩ : ∃ R, rn most 0 [] [] l = R := ⟨_, rfl⟩
    rw [hR] at hwh hof hro hat
    obtain ⟨y, hy⟩ : ∃ y, R.why = y := ⟨_, rfl⟩
    obtain ⟨t, ht⟩ : ∃ t, R.at_ = t := ⟨_, rfl⟩
    obtain ⟨U, hU⟩ : ∃ U, min (t + 1) L = U := ⟨_, rfl⟩
    rw [hy, ht, a0.2.1, hU] at hwh
    rw [hy, ht] at hof
    rw [ht, a0.2.1] at hat
    have A1 : Aside (Below B w w1 ∧ B ≤ w1.heap.size ∧ OctF (told R.fs) ∧ (told R.fs).length ≤ 64 ∧ Lies w1 va l ∧ min (t + 1) L = U ∧ t ≤ L) := ⟨bel1, how.le, hro.1, hro.2, hlies1, hU, by omega⟩
    clear a0 how hlies1 hvn hvc hgot bel1 hm hob0 hl0 hB hR hy ht hro hat hU
    go_upto_region 5 with (go_at_call 9; refine hwh.mono ?_; rintro e1 w2 ⟨vo, rfl, hfl2, hb2⟩; obtain ⟨ao, co, hvo, _⟩ := id hfl2; obtain ⟨no, hno⟩ : ∃ no, (told R.fs).length = no := ⟨_, rfl⟩; rw [hno] at hvo; clear hno; subst hvo)
    have a0 := A.out
    have a1 := A1.out
    have bel2 : Below B w w2 := a1.1.trans (hb2.mono a1.2.1)
    have hla : Lies w2 a l := a0.1.below (by rw [a0.2.2.2.2.2.1]; exact bel2)
    have hof2 := hof w2 hla
    have A2 : Aside (Below B w w2 ∧ B ≤ w2.heap.size ∧ FL w2 (.slice ao no co) (told R.fs) ∧ Lies w2 va l) := ⟨bel2, by have := hb2.size; omega, hfl2, a1.2.2.2.2.1.below hb2⟩
    clear a0 a1 bel2 hla hof hwh hfl2 hb2
    go_upto_region 6 with (go_at_call 11; refine hof2.mono ?_; rintro e1 w3 ⟨vf, rfl, hfl3, _, hb3⟩; obtain ⟨af, cf, hvf, _⟩ := id hfl3; obtain ⟨nf, hnf⟩ : ∃ nf, (told R.fs).length = nf := ⟨_, rfl⟩; rw [hnf] at hvf; clear hnf; subst hvf)
    obtain ⟨w4, hw4⟩ : ∃ w4, w4 = w3.alloc (.cells #[.slice af nf cf, .int .i64 (y : Int), .int .i64 (t : Int)] 30) := ⟨_, rfl⟩
    obtain ⟨F, hF⟩ : ∃ F, w3.heap.size = F := ⟨_, rfl⟩
    have b4 : Below w3.heap.size w3 w4 := by rw [hw4]; exact (Below.refl _ w3).alloc (Nat.le_refl _) _
    have kF : Cells w4 F #[.slice af nf cf, .int .i64 (y : Int), .int .i64 (t : Int)] 30 := by rw [hw4, ← hF]; exact Cells.new w3 _ 30
    have a2 := A2.out
    have a1 := A1.out
    have bel4 : Below B w w4 := (a2.1.trans (hb3.mono a2.2.1)).trans (b4.mono (by have := hb3.size; have := a2.2.1; omega))
    have g1 : FL w4 (.slice ao no co) (told R.fs) := (a2.2.2.1.below hb3).below b4
    have g2 : FL w4 (.slice af nf cf) (told R.fs) := hfl3.below b4
    have hfe := feq_c w4 _ _ _ _ g1 g2 a1.2.2.1 a1.2.2.1 (by omega)
    rw [decide_eq_true rfl] at hfe
    have q1 : Lies w4 va l := (a2.2.2.2.below hb3).below b4
    have q2 : Lies w4 a l := A.out.1.below (by rw [A.out.2.2.2.2.2.1]; exact bel4)
    have hc1 : ∀ n, (convert 22 9 (.slice va L vc)).run Try.prog (w4.drewN n) = .ok (.string (st l)) (w4.drewN n) := fun n => conv_st L vc A.out.2.1 A.out.2.2.2.2.1 (q1.drewN n)
    have hc2 : ∀ n, (convert 22 9 (.slice a L C)).run Try.prog (w4.drewN n) = .ok (.string (st l)) (w4.drewN n) := fun n => conv_st L C A.out.2.1 A.out.2.2.2.2.1 (q2.drewN n)
    have d0 : w4.cell? ⟨F, 0, none⟩ = some (.slice af nf cf) := by rw [kF.cell]; rfl
    have d1 : w4.cell? ⟨F, 1, none⟩ = some (.int .i64 (y : Int)) := by rw [kF.cell]; rfl
    have d2 : w4.cell? ⟨F, 2, none⟩ = some (.int .i64 (t : Int)) := by rw [kF.cell]; rfl
    have A4 : Aside (Below B w w4 ∧ B ≤ w4.heap.size) := ⟨bel4, by have := bel4.size; have := A.out.2.2.2.2.2.1; omega⟩
    rw [← hw4]
    have hcase : (t + 1 < L ∧ U = t + 1) ∨ (t + 1 = L ∧ U = t + 1) ∨ (L < t + 1 ∧ U = L) := by have := a1.2.2.2.2.2; omega
    have hLbI : (L : Int) ≤ 140737488351232 := by have := A.out.2.2.2.1; omega
    have htI : (t : Int) ≤ 140737488351232 := by have := A.out.2.2.2.1; have := a1.2.2.2.2.2.2; omega
    have hyy : ((y : Int) == (y : Int)) = true := by simp
    clear a1 a2 b4 kF bel4 g1 g2 q1 q2 hw4 hfl3 hb3 hof2
    rcases hcase with ⟨h1, hU⟩ | ⟨h1, hU⟩ | ⟨h1, hU⟩
    · have m1 : ((t : Int) + 1 < (L : Int)) = True := eq_true (by omega)
      have m2 : ((L : Int) < (t : Int) + 1) = False := eq_false (by omega)
      have m3 : (t + 1 < L) = True := eq_true (by omega)
      have m4 : (L < t + 1) = False := eq_false (by omega)
      subst hU
      clear h1
      go_wp2_with (first
        | (go_at_call 12; refine hfe.mono ?_; rintro e5 w5 ⟨rfl, n5, hw5⟩; have haw := awake_c w5; have A5 : Aside (Below B w w5 ∧ B ≤ w5.heap.size) := (by rw [hw5]; exact ⟨Below.drewN2 A4.out.1 n5, A4.out.2⟩); have d1' : w5.cell? ⟨F, 1, none⟩ = some (.int .i64 (y : Int)) := (by rw [hw5]; exact d1); have hc1' := hc1 n5; have hc2' := hc2 n5; rw [← hw5] at hc1' hc2'; clear hw5)
        | (go_at_call 10; refine haw.mono ?_; rintro e6 w6 ⟨rfl, hb6⟩))
      first | go_ret | go_ret2
      exact ⟨rfl, A5.out.1.trans (hb6.mono A5.out.2)⟩
    · have m1 : ((t : Int) + 1 < (L : Int)) = False := eq_false (by omega)
      have m2 : ((L : Int) < (t : Int) + 1) = False := eq_false (by omega)
      have m3 : (t + 1 < L) = False := eq_false (by omega)
      have m4 : (L < t + 1) = False := eq_false (by omega)
      have hUL : U = L := by omega
      subst hUL
      have m5 : ((U : Int) == (t : Int) + 1) = true := by rw [beq_iff_eq]; omega
      have m6 : ((U : Int) == (U : Int)) = true := by simp
      clear h1 hU
      go_wp2_with (first
        | (go_at_call 12; refine hfe.mono ?_; rintro e5 w5 ⟨rfl, n5, hw5⟩; have haw := awake_c w5; have A5 : Aside (Below B w w5 ∧ B ≤ w5.heap.size) := (by rw [hw5]; exact ⟨Below.drewN2 A4.out.1 n5, A4.out.2⟩); have d1' : w5.cell? ⟨F, 1, none⟩ = some (.int .i64 (y : Int)) := (by rw [hw5]; exact d1); have hc1' := hc1 n5; have hc2' := hc2 n5; rw [← hw5] at hc1' hc2'; clear hw5)
        | (go_at_call 10; refine haw.mono ?_; rintro e6 w6 ⟨rfl, hb6⟩))
      first | go_ret | go_ret2
      exact ⟨rfl, A5.out.1.trans (hb6.mono A5.out.2)⟩
    · have m1 : ((t : Int) + 1 < (L : Int)) = False := eq_false (by omega)
      have m2 : ((L : Int) < (t : Int) + 1) = True := eq_true (by omega)
      have m3 : (t + 1 < L) = False := eq_false (by omega)
      have m4 : (L < t + 1) = True := eq_true (by omega)
      subst hU
      have m6 : ((U : Int) == (U : Int)) = true := by simp
      clear h1
      go_wp2_with (first
        | (go_at_call 12; refine hfe.mono ?_; rintro e5 w5 ⟨rfl, n5, hw5⟩; have haw := awake_c w5; have A5 : Aside (Below B w w5 ∧ B ≤ w5.heap.size) := (by rw [hw5]; exact ⟨Below.drewN2 A4.out.1 n5, A4.out.2⟩); have d1' : w5.cell? ⟨F, 1, none⟩ = some (.int .i64 (y : Int)) := (by rw [hw5]; exact d1); have hc1' := hc1 n5; have hc2' := hc2 n5; rw [← hw5] at hc1' hc2'; clear hw5)
        | (go_at_call 10; refine haw.mono ?_; rintro e6 w6 ⟨rfl, hb6⟩))
      first | go_ret | go_ret2
      exact ⟨rfl, A5.out.1.trans (hb6.mono A5.out.2)⟩
end Go.Proofs.Ytmlkdpoignimaaa

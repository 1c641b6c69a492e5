/-
  HeaderEnds' walk.
-/
import Derived.Test.YtmlkdpoignimaaaEnd
import Derived.Lib.AppendStr
namespace Go.Proofs.Ytmlkdpoignimaaa
open Go.RowKit
set_option linter.unusedVariables false
/-- What Whole answers, in letters. -/
def WhA (w : World) (T : List Fd) (u y : Nat) (e : Ending) (w' : World) : Prop := ∃ a n c, e = .returned (.tuple #[.slice a n c, .int .i64 (u : Int), .int .i64 (y : Int), .int .i64 0]) ∧ FL w' (.slice a n c) T ∧ Below w.heap.size w w'
theorem whole_a (w : World) (a : Option Addr) (l : List Nat) (L C most : Nat) (R : Out) (hR : rn most 0 [] [] l = R) (u : Nat) (hu : min (R.at_ + 1) L = u) (y : Nat) (hy : R.why = y) (T : List Fd) (hT : told R.fs = T) (hlz : Lies w a l) (hL : l.length = L) (hLb : L < 1000000000000000) (ho : Oct l) (h1 : 1 ≤ most) (h2 : most ≤ 65536) : Calls Try.prog 9 #[.slice a L C, .int .i64 (most : Int)] w fun e w' => WhA w T u y e w' := by
  refine (whole_c w a l L C most hlz hL hLb ho h1 h2).mono ?_
  rintro e w' ⟨v, he, hfl, hb⟩
  rw [hR] at he hfl
  rw [hL, hu, hy] at he
  rw [hT] at hfl
  obtain ⟨av, cv, hv, hq⟩ := id hfl
  rw [hv] at he hfl
  exact ⟨av, _, cv, he, hfl, hb⟩
/-- Bytes that came in, behind an empty list: what the first append comes to. -/
theorem ow_first {w : World} {B : Nat} {v v' : Value} {w' : World} {l : List Nat} {L : Nat} (h : Got B 5 1 w w' v v' (0 + L) (ob [] ++ ob l)) : Ow w' B 5 1 v' L (ob l) := by
  have := h.ow
  rw [Nat.zero_add, ob_append, List.nil_append] at this
  exact this
theorem ow_next {w : World} {B : Nat} {v v' : Value} {w' : World} {l m : List Nat} {L M : Nat} (h : Got B 5 1 w w' v v' (L + M) (ob l ++ ob m)) : Ow w' B 5 1 v' (L + M) (ob (l ++ m)) := by
  have := h.ow
  rw [ob_append] at this
  exact this
theorem ob_bytes (s : ByteArray) : (List.map (fun b => Value.int .u8 ((b : UInt8).toNat : Int)) s.data.toList) = ob (bl s) := by
  simp [ob, bl]
set_option maxRecDepth 20000 in
set_option maxHeartbeats 4000000 in
theorem ends_core (w : World) (a : Option Addr) (l : List Nat) (L C : Nat) (a2 : Option Addr) (m : List Nat) (M D : Nat) (hl : Lies w a l) (hL : l.length = L) (hLC : L ≤ C) (hLb : L ≤ 2000000) (ho : Oct l) (haz : a = none → L = 0 ∧ C = 0) (hm : Lies w a2 m) (hM : m.length = M) (hMb : M ≤ 2000000) (hom : Oct m) (haz2 : a2 = none → M = 0 ∧ D = 0) :
    Calls Try.prog 8 #[.slice a L C, .slice a2 M D] w fun e w' => e = .returned (.bool true) ∧ Below w.heap.size w w' := by
  obtain ⟨B, hB⟩ : ∃ B, w.heap.size = B := ⟨_, rfl⟩
  obtain ⟨R, hR⟩ : ∃ R, rn 65536 0 [] [] l = R := ⟨_, rfl⟩
  obtain ⟨R2, hR2⟩ : ∃ R2, rn 65536 0 [] [] (l ++ m) = R2 := ⟨_, rfl⟩
  obtain ⟨u, hu⟩ : ∃ u, min (R.at_ + 1) L = u := ⟨_, rfl⟩
  obtain ⟨u2, hu2⟩ : ∃ u2, min (R2.at_ + 1) (L + M) = u2 := ⟨_, rfl⟩
  obtain ⟨y, hy⟩ : ∃ y, R.why = y := ⟨_, rfl⟩
  obtain ⟨y2, hy2⟩ : ∃ y2, R2.why = y2 := ⟨_, rfl⟩
  obtain ⟨T, hT⟩ : ∃ T, told R.fs = T := ⟨_, rfl⟩
  obtain ⟨T2, hT2⟩ : ∃ T2, told R2.fs = T2 := ⟨_, rfl⟩
  have hwh := whole_a w a l L C 65536 R hR u hu y hy T hT hl hL (by omega) ho (by decide) (by decide)
  have hro : OctF T ∧ T.length ≤ 64 := by have := rn_oct 65536 ho; rw [hR, hT] at this; exact this
  have hwh2 := fun W va vc (h : Lies W va (l ++ m)) => whole_a W va (l ++ m) (L + M) vc 65536 R2 hR2 u2 hu2 y2 hy2 T2 hT2 h (by rw [List.length_append]; omega) (by omega) (ho.append hom) (by decide) (by decide)
  obtain ⟨i0, hi, hz0, hz1, hz2⟩ := ginfo_parts ginfo5
  have A : Aside (Lies w a l ∧ l.length = L ∧ L ≤ C ∧ L ≤ 2000000 ∧ Oct l ∧ Lies w a2 m ∧ m.length = M ∧ M ≤ 2000000 ∧ Oct m ∧ w.heap.size = B ∧ OctF T ∧ T.length ≤ 64) := ⟨hl, hL, hLC, hLb, ho, hm, hM, hMb, hom, hB, hro.1, hro.2⟩
  have AZ : Aside ((a = none → L = 0 ∧ C = 0) ∧ (a2 = none → M = 0 ∧ D = 0) ∧ 0 + L ≤ maxLen ∧ (0 + L) * 1 ≤ 140737488355328 ∧ (ob l).length = L * 1 ∧ L + M ≤ maxLen ∧ (L + M) * 1 ≤ 140737488355328 ∧ (ob m).length = M * 1) := ⟨haz, haz2, by unfold maxLen; omega, by omega, by rw [ob_length]; omega, by unfold maxLen; omega, by omega, by rw [ob_length]; omega⟩
  have AR : Aside (rn 65536 0 [] [] l = R ∧ rn 65536 0 [] [] (l ++ m) = R2 ∧ min (R.at_ + 1) L = u ∧ min (R2.at_ + 1) (L + M) = u2 ∧ R.why = y ∧ R2.why = y2 ∧ told R.fs = T ∧ told R2.fs = T2) := ⟨hR, hR2, hu, hu2, hy, hy2, hT, hT2⟩
  rw [hB]
  clear hl hL hLC hLb ho haz hm hM hMb hom haz2 hR hR2 hu hu2 hy hy2 hT hT2 hro hB
  go_enter Try.func8, Try.ntmps8
  go_upto_region 2 with (go_at_call 9; refine hwh.mono ?_; rintro e1 w1 ⟨a1, n1, c1, rfl, hfl1, hb1⟩)
  have a0 := A.out
  obtain ⟨H, hH⟩ : ∃ H, w1.heap.size = H := ⟨_, rfl⟩
  have bel1 : Below B w w1 := by rw [← a0.2.2.2.2.2.2.2.2.2.1]; exact hb1
  have bA : Below w1.heap.size w1 (w1.alloc (.cells #[] 5)) := (Below.refl _ w1).alloc (Nat.le_refl _) _
  have belA : Below B w (w1.alloc (.cells #[] 5)) := bel1.trans (bA.mono (by have := hb1.size; omega))
  have hob0 : Ow (w1.alloc (.cells #[] 5)) H 5 1 (.slice (some ⟨H, 0, none⟩) 0 0) 0 (ob []) := by rw [← hH]; exact Ow.empty (Nat.le_refl _)
  have hl0 := lies_ob (a0.1.below (by rw [a0.2.2.2.2.2.2.2.2.2.1]; exact belA))
  have A1 : Aside (Below B w w1 ∧ B ≤ H ∧ FL w1 (.slice a1 n1 c1) T ∧ w1.heap.size = H ∧ Below H w1 (w1.alloc (.cells #[] 5))) := ⟨bel1, by have := hb1.size; omega, hfl1, hH, by rw [← hH]; exact bA⟩
  have hlm : ∀ W, Below H (w1.alloc (.cells #[] 5)) W → ob m = [] ∨ ∃ b o, a2 = some ⟨b, o, none⟩ ∧ ∀ (i : Nat) u, (ob m)[i]? = some u → W.cell? ⟨b, o + i, none⟩ = some u := fun W hW => lies_ob (a0.2.2.2.2.2.1.below (by rw [a0.2.2.2.2.2.2.2.2.2.1]; exact belA.trans (hW.mono (by have := hb1.size; omega))))
  clear a0 bel1 bA belA hfl1 hb1 hwh
  go_upto_region 3 with (first
    | (at_builtin; refine wpList_ow Try.prog _ rfl (.tmp 25) (.tmp 26) 22 rfl 5 i0 _ 1 1 Try.underlying22 hi hz0 hz1 hz2 rfl (by decide) H (.slice (some ⟨H, 0, none⟩) 0 0) 0 _ (by rfl) hob0 a (ob l) L C AZ.out.2.2.2.2.1 (by rfl) AZ.out.1 hl0 ob_one AZ.out.2.2.1 AZ.out.2.2.2.1 ?_; intro v2 w2 hgot2; have how2 := ow_first hgot2; have hl2 := hlm w2 hgot2.bel; obtain ⟨va2, vc2, hv2, _⟩ := how2.shape; subst hv2)
    | (at_builtin; refine wpList_ow Try.prog _ rfl (.tmp 27) (.tmp 28) 22 rfl 5 i0 _ 1 1 Try.underlying22 hi hz0 hz1 hz2 rfl (by decide) H (.slice va2 L vc2) L _ (by rfl) how2 a2 (ob m) M D AZ.out.2.2.2.2.2.2.2 (by rfl) AZ.out.2.1 hl2 ob_one AZ.out.2.2.2.2.2.1 AZ.out.2.2.2.2.2.2.1 ?_; intro v3 w3 hgot3; have how3 := ow_next hgot3; obtain ⟨va3, vc3, hv3, _, hl3, _⟩ := ow_lies how3 (by rw [List.length_append, A.out.2.1, A.out.2.2.2.2.2.2.1]); subst hv3; have hw3 := hwh2 w3 va3 vc3 hl3)
    | (go_at_call 9; refine hw3.mono ?_; rintro e4 w4 ⟨a4, n4, c4, rfl, hfl4, hb4⟩))
  have a1' := A1.out
  have belH : Below H w1 w3 := (a1'.2.2.2.2.trans hgot2.bel).trans hgot3.bel
  have b14 : Below H w1 w4 := belH.trans (hb4.mono (by have := how3.le; omega))
  have bel4 : Below B w w4 := a1'.1.trans (b14.mono a1'.2.1)
  have g1 : FL w4 (.slice a1 n1 c1) T := a1'.2.2.1.below (by rw [a1'.2.2.2.1]; exact b14)
  have A4 : Aside (Below B w w4 ∧ B ≤ w4.heap.size ∧ FL w4 (.slice a1 n1 c1) T ∧ FL w4 (.slice a4 n4 c4) T2) := ⟨bel4, by have := bel4.size; have := A.out.2.2.2.2.2.2.2.2.2.1; omega, g1, hfl4⟩
  have haw := fun W => awake_c W
  clear hw3 hwh2 hgot2 hgot3 how2 how3 hl2 hl3 hb4 hfl4 belH b14 bel4 g1 hob0 hl0 hlm a1' hH
  have a0 := A.out
  have ar := AR.out
  by_cases huL : u < L
  · -- over within b
    have hRR : R2 = R := by rw [← ar.2.1, ← ar.1]; exact rn_more (by rw [ar.1, a0.2.1, ar.2.2.1]; exact huL)
    have huu : u2 = u := by rw [← ar.2.2.2.1, hRR]; omega
    have hyy : y2 = y := by rw [← ar.2.2.2.2.2.1, hRR, ar.2.2.2.2.1]
    have hTT : T2 = T := by rw [← ar.2.2.2.2.2.2.2, hRR, ar.2.2.2.2.2.2.1]
    rw [hTT] at A4
    have hfe := feq_c w4 _ _ _ _ A4.out.2.2.1 A4.out.2.2.2 a0.2.2.2.2.2.2.2.2.2.2.1 a0.2.2.2.2.2.2.2.2.2.2.1 (by omega)
    rw [decide_eq_true rfl] at hfe
    subst huu
    subst hyy
    have t1 : ((u2 : Int) < (L : Int)) = True := eq_true (by omega)
    have t1' : (u2 < L) = True := eq_true huL
    have e1 : ((u2 : Int) == (u2 : Int)) = true := by simp
    have e2 : ((y2 : Int) == (y2 : Int)) = true := by simp
    clear a0 ar hRR hTT huL AR
    go_wp2_with (first
      | (go_at_call 12; refine hfe.mono ?_; rintro e5 w5 ⟨rfl, n5, hw5⟩; have A5 : Aside (Below B w w5 ∧ B ≤ w5.heap.size) := (by rw [hw5]; exact ⟨Below.drewN2 A4.out.1 n5, A4.out.2.1⟩); clear hw5)
      | (go_at_call 10; refine (haw _).mono ?_; rintro e6 w6 ⟨rfl, hb6⟩))
    first | go_ret | go_ret2
    exact ⟨rfl, A5.out.1.trans (hb6.mono A5.out.2)⟩
  · have huL2 : u = L := by have := ar.2.2.1; omega
    have t1 : ((u : Int) < (L : Int)) = False := eq_false (by omega)
    have t1' : (u < L) = False := eq_false huL
    subst huL2
    by_cases hy0 : y = 0
    · subst hy0
      rcases Nat.eq_zero_or_pos u with hL0 | hL0
      · have t2 : ((0 : Int) < (u : Int)) = False := eq_false (by omega)
        have t2' : (0 < u) = False := eq_false (by omega)
        have t3 : ((60000 : Int) < (u : Int)) = False := eq_false (by omega)
        have t3' : (60000 < u) = False := eq_false (by omega)
        have hlast : l = [] ∨ l.getLast? = some 10 := Or.inl (List.eq_nil_of_length_eq_zero (by omega))
        have hLc : u ≤ 60000 := by omega
        clear hL0
        by_cases hM0 : M = 0
        · -- more is empty
          have hm0 : m = [] := List.eq_nil_of_length_eq_zero (by omega)
          have hRR : R2 = R := by rw [← ar.2.1, ← ar.1, hm0, List.append_nil]
          have huu : u2 = u := by rw [← ar.2.2.2.1, hRR]; omega
          have hTT : T2 = T := by rw [← ar.2.2.2.2.2.2.2, hRR, ar.2.2.2.2.2.2.1]
          rw [hTT] at A4
          have hfe := feq_c w4 _ _ _ _ A4.out.2.2.1 A4.out.2.2.2 a0.2.2.2.2.2.2.2.2.2.2.1 a0.2.2.2.2.2.2.2.2.2.2.1 (by omega)
          rw [decide_eq_true rfl] at hfe
          have s1 : ((M : Int) == 0) = true := by rw [beq_iff_eq]; omega
          have s2 : ((u : Int) == (u : Int)) = true := by simp
          subst huu
          clear a0 ar hRR hTT AR hm0 hM0 hLc
          go_wp2_with (first
            | (go_at_call 12; refine hfe.mono ?_; rintro e5 w5 ⟨rfl, n5, hw5⟩; have A5 : Aside (Below B w w5 ∧ B ≤ w5.heap.size) := (by rw [hw5]; exact ⟨Below.drewN2 A4.out.1 n5, A4.out.2.1⟩); clear hw5)
            | (go_at_call 10; refine (haw _).mono ?_; rintro e6 w6 ⟨rfl, hb6⟩))
          first | go_ret | go_ret2
          exact ⟨rfl, A5.out.1.trans (hb6.mono A5.out.2)⟩
        · have hcl := rn_close (most := 65536) (l := l) (by rw [ar.1, a0.2.1, ar.2.2.1]) (by rw [ar.1, ar.2.2.2.2.1]) hlast (by omega)
          obtain ⟨R3, hR3⟩ : ∃ R3, rn 65536 0 [] [] (l ++ [10, 122]) = R3 := ⟨_, rfl⟩
          rw [hR3, ar.1, a0.2.1] at hcl
          obtain ⟨u3, hu3⟩ : ∃ u3, min (R3.at_ + 1) (u + 2) = u3 := ⟨_, rfl⟩
          rw [hu3] at hcl
          have hT3 : told R3.fs = T := by rw [hcl.1, ar.2.2.2.2.2.2.1]
          have hwh3 := fun W va vc (h : Lies W va (l ++ [10, 122])) => whole_a W va (l ++ [10, 122]) (u + 2) vc 65536 R3 hR3 u3 hu3 0 hcl.2.1 T hT3 h (by rw [List.length_append, a0.2.1]; rfl) (by omega) (a0.2.2.2.2.1.append (by unfold Oct; decide)) (by decide) (by decide)
          have s1 : ((M : Int) == 0) = false := by rw [beq_eq_false_iff_ne]; omega
          have s2 : ((u : Int) == (u : Int)) = true := by simp
          have hLI : (u : Int) ≤ 60000 := by omega
          obtain ⟨K, hK⟩ : ∃ K, w4.heap.size = K := ⟨_, rfl⟩
          have bA : Below w4.heap.size w4 (w4.alloc (.cells #[] 5)) := (Below.refl _ w4).alloc (Nat.le_refl _) _
          have hob5 : Ow (w4.alloc (.cells #[] 5)) K 5 1 (.slice (some ⟨K, 0, none⟩) 0 0) 0 (ob []) := by rw [← hK]; exact Ow.empty (Nat.le_refl _)
          have hl5 := lies_ob (a0.1.below (by rw [a0.2.2.2.2.2.2.2.2.2.1]; exact A4.out.1.trans (bA.mono A4.out.2.1)))
          have A5 : Aside (w4.heap.size = K ∧ Below K w4 (w4.alloc (.cells #[] 5)) ∧ (u3 = u + 1 ∨ u3 = u) ∧ u + 2 ≤ maxLen ∧ u + 2 ≤ 140737488355328) := ⟨hK, by rw [← hK]; exact bA, hcl.2.2, by unfold maxLen; omega, by omega⟩
          clear a0 ar AR hM0 hLc hR3 hu3 hT3 hcl bA hlast
          go_upto_region 10 with (first
            | (at_builtin; refine wpList_ow Try.prog _ rfl (.tmp 98) (.tmp 99) 22 rfl 5 i0 _ 1 1 Try.underlying22 hi hz0 hz1 hz2 rfl (by decide) K (.slice (some ⟨K, 0, none⟩) 0 0) 0 _ (by rfl) hob5 a (ob l) u C AZ.out.2.2.2.2.1 (by rfl) AZ.out.1 hl5 ob_one AZ.out.2.2.1 AZ.out.2.2.2.1 ?_; intro v6 w6 hgot6; have how6 := ow_first hgot6; obtain ⟨va6, vc6, hv6, _⟩ := how6.shape; subst hv6)
            | (at_builtin; refine Lib.wpList_append_own_string w6 rfl (.tmp 100) _ 22 9 rfl K 5 i0 Try.underlying22 Try.underlying9 hi hz0 hz1 hz2 (.slice va6 u vc6) u _ (by rfl) how6.own ⟨#[10, 122]⟩ (by rfl) A5.out.2.2.2.1 A5.out.2.2.2.2 how6.le ?_; intro v7 w7 hown7 hgrow7 _; have hgot7 : Got K 5 1 w6 w7 (.slice va6 u vc6) v7 (u + 2) (ob l ++ ob [10, 122]) := Got.mk' how6 hown7 hgrow7; have how7 := ow_next hgot7; obtain ⟨va7, vc7, hv7, _, hl7, _⟩ := ow_lies how7 (by rw [List.length_append, A.out.2.1]; rfl); subst hv7; have hw7 := hwh3 w7 va7 vc7 hl7)
            | (go_at_call 9; refine hw7.mono ?_; rintro e8 w8 ⟨a8, n8, c8, rfl, hfl8, hb8⟩))
          have a5 := A5.out
          have belK : Below K w4 w8 := (((a5.2.1).trans hgot6.bel).trans hgot7.bel).trans (hb8.mono (by have := how7.le; omega))
          have bel8 : Below B w w8 := A4.out.1.trans (belK.mono (by have := A4.out.2.1; omega))
          have g1 : FL w8 (.slice a1 n1 c1) T := A4.out.2.2.1.below (by rw [a5.1]; exact belK)
          have hfe := feq_c w8 _ _ _ _ hfl8 g1 A.out.2.2.2.2.2.2.2.2.2.2.1 A.out.2.2.2.2.2.2.2.2.2.2.1 (by have := A.out.2.2.2.2.2.2.2.2.2.2.2; omega)
          rw [decide_eq_true rfl] at hfe
          have A8 : Aside (Below B w w8 ∧ B ≤ w8.heap.size) := ⟨bel8, by have := bel8.size; have := A.out.2.2.2.2.2.2.2.2.2.1; omega⟩
          have h3 := a5.2.2.1
          clear hw7 hwh3 hgot6 hgot7 how6 how7 hl7 hb8 hfl8 belK bel8 g1 hob5 hl5 a5 A5 hown7 hgrow7
          rcases h3 with h3 | h3
          · have v1 : ((u3 : Int) == (u : Int) + 1) = true := by rw [beq_iff_eq]; omega
            have v2 : ((u3 : Int) == (u : Int)) = false := by rw [beq_eq_false_iff_ne]; omega
            clear h3
            go_wp2_with (first
              | (go_at_call 12; refine hfe.mono ?_; rintro e9 w9 ⟨rfl, n9, hw9⟩; have A9 : Aside (Below B w w9 ∧ B ≤ w9.heap.size) := (by rw [hw9]; exact ⟨Below.drewN2 A8.out.1 n9, A8.out.2⟩); clear hw9)
              | (go_at_call 10; refine (haw _).mono ?_; rintro e10 w10 ⟨rfl, hb10⟩))
            first | go_ret | go_ret2
            exact ⟨rfl, A9.out.1.trans (hb10.mono A9.out.2)⟩
          · have v1 : ((u3 : Int) == (u : Int) + 1) = false := by rw [beq_eq_false_iff_ne]; omega
            have v2 : ((u3 : Int) == (u : Int)) = true := by rw [beq_iff_eq]; omega
            clear h3
            go_wp2_with (first
              | (go_at_call 12; refine hfe.mono ?_; rintro e9 w9 ⟨rfl, n9, hw9⟩; have A9 : Aside (Below B w w9 ∧ B ≤ w9.heap.size) := (by rw [hw9]; exact ⟨Below.drewN2 A8.out.1 n9, A8.out.2⟩); clear hw9)
              | (go_at_call 10; refine (haw _).mono ?_; rintro e10 w10 ⟨rfl, hb10⟩))
            first | go_ret | go_ret2
            exact ⟨rfl, A9.out.1.trans (hb10.mono A9.out.2)⟩
      · have t2 : ((0 : Int) < (u : Int)) = True := eq_true (by omega)
        have t2' : (0 < u) = True := eq_true hL0
        obtain ⟨L1, hL1⟩ : ∃ L1, u = L1 + 1 := ⟨u - 1, by omega⟩
        have hL1e : (u : Int) - 1 = (L1 : Int) := by omega
        have hL1L : ((L1 : Int) < (u : Int)) = True := eq_true (by omega)
        have hL1L' : (L1 < u) = True := eq_true (by omega)
        have hub : (u : Int) ≤ 2000000 := by omega
        obtain ⟨z, hz⟩ : ∃ z, l[L1]? = some z := ⟨_, List.getElem?_eq_getElem (by omega)⟩
        have hgl : l.getLast? = some z := by rw [List.getLast?_eq_getElem?, a0.2.1, show u - 1 = L1 by omega]; exact hz
        obtain ⟨ab, ao, ha, cz⟩ : ∃ ab ao, a = some ⟨ab, ao, none⟩ ∧ w4.cell? ⟨ab, ao + L1, none⟩ = some (.int .u8 (z : Int)) := by
          rcases a0.1 with e | ⟨ab, ao, e, hc⟩
          · rw [e] at hz; simp at hz
          · have c0 := hc L1 z hz
            exact ⟨ab, ao, e, (A4.out.1.cell (p := ⟨ab, ao + L1, none⟩) (by rw [← a0.2.2.2.2.2.2.2.2.2.1]; exact World.block_lt_of_cell? w _ c0)).trans c0⟩
        subst ha
        by_cases h10 : z = 10
        · subst h10
          by_cases hLc : u ≤ 60000
          · have t3 : ((60000 : Int) < (u : Int)) = False := eq_false (by omega)
            have t3' : (60000 < u) = False := eq_false (by omega)
            have hlast : l = [] ∨ l.getLast? = some 10 := Or.inr hgl
            clear hL1 hz hgl hL0
            by_cases hM0 : M = 0
            · -- more is empty
              have hm0 : m = [] := List.eq_nil_of_length_eq_zero (by omega)
              have hRR : R2 = R := by rw [← ar.2.1, ← ar.1, hm0, List.append_nil]
              have huu : u2 = u := by rw [← ar.2.2.2.1, hRR]; omega
              have hTT : T2 = T := by rw [← ar.2.2.2.2.2.2.2, hRR, ar.2.2.2.2.2.2.1]
              rw [hTT] at A4
              have hfe := feq_c w4 _ _ _ _ A4.out.2.2.1 A4.out.2.2.2 a0.2.2.2.2.2.2.2.2.2.2.1 a0.2.2.2.2.2.2.2.2.2.2.1 (by omega)
              rw [decide_eq_true rfl] at hfe
              have s1 : ((M : Int) == 0) = true := by rw [beq_iff_eq]; omega
              have s2 : ((u : Int) == (u : Int)) = true := by simp
              subst huu
              clear a0 ar hRR hTT AR hm0 hM0 hLc
              go_wp2_with (first
                | (go_at_call 12; refine hfe.mono ?_; rintro e5 w5 ⟨rfl, n5, hw5⟩; have A5 : Aside (Below B w w5 ∧ B ≤ w5.heap.size) := (by rw [hw5]; exact ⟨Below.drewN2 A4.out.1 n5, A4.out.2.1⟩); clear hw5)
                | (go_at_call 10; refine (haw _).mono ?_; rintro e6 w6 ⟨rfl, hb6⟩))
              first | go_ret | go_ret2
              exact ⟨rfl, A5.out.1.trans (hb6.mono A5.out.2)⟩
            · have hcl := rn_close (most := 65536) (l := l) (by rw [ar.1, a0.2.1, ar.2.2.1]) (by rw [ar.1, ar.2.2.2.2.1]) hlast (by omega)
              obtain ⟨R3, hR3⟩ : ∃ R3, rn 65536 0 [] [] (l ++ [10, 122]) = R3 := ⟨_, rfl⟩
              rw [hR3, ar.1, a0.2.1] at hcl
              obtain ⟨u3, hu3⟩ : ∃ u3, min (R3.at_ + 1) (u + 2) = u3 := ⟨_, rfl⟩
              rw [hu3] at hcl
              have hT3 : told R3.fs = T := by rw [hcl.1, ar.2.2.2.2.2.2.1]
              have hwh3 := fun W va vc (h : Lies W va (l ++ [10, 122])) => whole_a W va (l ++ [10, 122]) (u + 2) vc 65536 R3 hR3 u3 hu3 0 hcl.2.1 T hT3 h (by rw [List.length_append, a0.2.1]; rfl) (by omega) (a0.2.2.2.2.1.append (by unfold Oct; decide)) (by decide) (by decide)
              have s1 : ((M : Int) == 0) = false := by rw [beq_eq_false_iff_ne]; omega
              have s2 : ((u : Int) == (u : Int)) = true := by simp
              have hLI : (u : Int) ≤ 60000 := by omega
              obtain ⟨K, hK⟩ : ∃ K, w4.heap.size = K := ⟨_, rfl⟩
              have bA : Below w4.heap.size w4 (w4.alloc (.cells #[] 5)) := (Below.refl _ w4).alloc (Nat.le_refl _) _
              have hob5 : Ow (w4.alloc (.cells #[] 5)) K 5 1 (.slice (some ⟨K, 0, none⟩) 0 0) 0 (ob []) := by rw [← hK]; exact Ow.empty (Nat.le_refl _)
              have hl5 := lies_ob (a0.1.below (by rw [a0.2.2.2.2.2.2.2.2.2.1]; exact A4.out.1.trans (bA.mono A4.out.2.1)))
              have A5 : Aside (w4.heap.size = K ∧ Below K w4 (w4.alloc (.cells #[] 5)) ∧ (u3 = u + 1 ∨ u3 = u) ∧ u + 2 ≤ maxLen ∧ u + 2 ≤ 140737488355328) := ⟨hK, by rw [← hK]; exact bA, hcl.2.2, by unfold maxLen; omega, by omega⟩
              clear a0 ar AR hM0 hLc hR3 hu3 hT3 hcl bA hlast
              go_upto_region 10 with (first
                | (at_builtin; refine wpList_ow Try.prog _ rfl (.tmp 98) (.tmp 99) 22 rfl 5 i0 _ 1 1 Try.underlying22 hi hz0 hz1 hz2 rfl (by decide) K (.slice (some ⟨K, 0, none⟩) 0 0) 0 _ (by rfl) hob5 (some ⟨ab, ao, none⟩) (ob l) u C AZ.out.2.2.2.2.1 (by rfl) AZ.out.1 hl5 ob_one AZ.out.2.2.1 AZ.out.2.2.2.1 ?_; intro v6 w6 hgot6; have how6 := ow_first hgot6; obtain ⟨va6, vc6, hv6, _⟩ := how6.shape; subst hv6)
                | (at_builtin; refine Lib.wpList_append_own_string w6 rfl (.tmp 100) _ 22 9 rfl K 5 i0 Try.underlying22 Try.underlying9 hi hz0 hz1 hz2 (.slice va6 u vc6) u _ (by rfl) how6.own ⟨#[10, 122]⟩ (by rfl) A5.out.2.2.2.1 A5.out.2.2.2.2 how6.le ?_; intro v7 w7 hown7 hgrow7 _; have hgot7 : Got K 5 1 w6 w7 (.slice va6 u vc6) v7 (u + 2) (ob l ++ ob [10, 122]) := Got.mk' how6 hown7 hgrow7; have how7 := ow_next hgot7; obtain ⟨va7, vc7, hv7, _, hl7, _⟩ := ow_lies how7 (by rw [List.length_append, A.out.2.1]; rfl); subst hv7; have hw7 := hwh3 w7 va7 vc7 hl7)
                | (go_at_call 9; refine hw7.mono ?_; rintro e8 w8 ⟨a8, n8, c8, rfl, hfl8, hb8⟩))
              have a5 := A5.out
              have belK : Below K w4 w8 := (((a5.2.1).trans hgot6.bel).trans hgot7.bel).trans (hb8.mono (by have := how7.le; omega))
              have bel8 : Below B w w8 := A4.out.1.trans (belK.mono (by have := A4.out.2.1; omega))
              have g1 : FL w8 (.slice a1 n1 c1) T := A4.out.2.2.1.below (by rw [a5.1]; exact belK)
              have hfe := feq_c w8 _ _ _ _ hfl8 g1 A.out.2.2.2.2.2.2.2.2.2.2.1 A.out.2.2.2.2.2.2.2.2.2.2.1 (by have := A.out.2.2.2.2.2.2.2.2.2.2.2; omega)
              rw [decide_eq_true rfl] at hfe
              have A8 : Aside (Below B w w8 ∧ B ≤ w8.heap.size) := ⟨bel8, by have := bel8.size; have := A.out.2.2.2.2.2.2.2.2.2.1; omega⟩
              have h3 := a5.2.2.1
              clear hw7 hwh3 hgot6 hgot7 how6 how7 hl7 hb8 hfl8 belK bel8 g1 hob5 hl5 a5 A5 hown7 hgrow7
              rcases h3 with h3 | h3
              · have v1 : ((u3 : Int) == (u : Int) + 1) = true := by rw [beq_iff_eq]; omega
                have v2 : ((u3 : Int) == (u : Int)) = false := by rw [beq_eq_false_iff_ne]; omega
                clear h3
                go_wp2_with (first
                  | (go_at_call 12; refine hfe.mono ?_; rintro e9 w9 ⟨rfl, n9, hw9⟩; have A9 : Aside (Below B w w9 ∧ B ≤ w9.heap.size) := (by rw [hw9]; exact ⟨Below.drewN2 A8.out.1 n9, A8.out.2⟩); clear hw9)
                  | (go_at_call 10; refine (haw _).mono ?_; rintro e10 w10 ⟨rfl, hb10⟩))
                first | go_ret | go_ret2
                exact ⟨rfl, A9.out.1.trans (hb10.mono A9.out.2)⟩
              · have v1 : ((u3 : Int) == (u : Int) + 1) = false := by rw [beq_eq_false_iff_ne]; omega
                have v2 : ((u3 : Int) == (u : Int)) = true := by rw [beq_iff_eq]; omega
                clear h3
                go_wp2_with (first
                  | (go_at_call 12; refine hfe.mono ?_; rintro e9 w9 ⟨rfl, n9, hw9⟩; have A9 : Aside (Below B w w9 ∧ B ≤ w9.heap.size) := (by rw [hw9]; exact ⟨Below.drewN2 A8.out.1 n9, A8.out.2⟩); clear hw9)
                  | (go_at_call 10; refine (haw _).mono ?_; rintro e10 w10 ⟨rfl, hb10⟩))
                first | go_ret | go_ret2
                exact ⟨rfl, A9.out.1.trans (hb10.mono A9.out.2)⟩
          · have t3 : ((60000 : Int) < (u : Int)) = True := eq_true (by omega)
            have t3' : (60000 < u) = True := eq_true (by omega)
            clear a0 ar AR hL1 hz hgl hL0 hLc
            go_wp2_with (first
              | (go_at_call 10; refine (haw _).mono ?_; rintro e6 w6 ⟨rfl, hb6⟩))
            first | go_ret | go_ret2
            exact ⟨rfl, A4.out.1.trans (hb6.mono A4.out.2.1)⟩
        · have t4 : ((z : Int) != 10) = true := by rw [bne_iff_ne]; omega
          have t4' : ((z : Int) == 10) = false := by rw [beq_eq_false_iff_ne]; omega
          clear a0 ar AR hL1 hz hgl hL0 h10
          go_wp2_with (first
            | (go_at_call 10; refine (haw _).mono ?_; rintro e6 w6 ⟨rfl, hb6⟩))
          first | go_ret | go_ret2
          exact ⟨rfl, A4.out.1.trans (hb6.mono A4.out.2.1)⟩
    · have t4 : ((y : Int) != 0) = true := by rw [bne_iff_ne]; omega
      have t4' : ((y : Int) == 0) = false := by rw [beq_eq_false_iff_ne]; omega
      clear a0 ar AR hy0
      go_wp2_with (first
        | (go_at_call 10; refine (haw _).mono ?_; rintro e6 w6 ⟨rfl, hb6⟩))
      first | go_ret | go_ret2
      exact ⟨rfl, A4.out.1.trans (hb6.mono A4.out.2.1)⟩
end Go.Proofs.Ytmlkdpoignimaaa

/-
  HeaderAsks' walk.
-/
import Derived.Test.YtmlkdpoignimaaaWholeCore
namespace Go.Proofs.Ytmlkdpoignimaaa
open Go.RowKit
set_option linter.unusedVariables false
theorem fc_cell {T : List Fd} {i : Nat} {u : Value} (h : (fc T)[i]? = some u) : ∃ j f, T[j]? = some f ∧ ((i = j * 2 ∧ u = .string (st f.1)) ∨ (i = j * 2 + 1 ∧ u = .string (st f.2))) := by
  have hi := (List.getElem?_eq_some_iff.1 h).1
  rw [fc_length] at hi
  obtain ⟨f, hf⟩ : ∃ f, T[i / 2]? = some f := ⟨_, List.getElem?_eq_getElem (by omega)⟩
  have hg := fc_get hf
  refine ⟨i / 2, f, hf, ?_⟩
  rcases (show i = i / 2 * 2 ∨ i = i / 2 * 2 + 1 by omega) with e | e
  · left
    refine ⟨e, ?_⟩
    rw [← e, h] at hg
    exact Option.some.inj hg.1
  · right
    refine ⟨e, ?_⟩
    rw [← e, h] at hg
    exact Option.some.inj hg.2
theorem fl_fc {w : World} {a : Option Addr} {L C : Nat} {T : List Fd} (h : FL w (.slice a L C) T) : fc T = [] ∨ ∃ b o, a = some ⟨b, o, none⟩ ∧ ∀ (i : Nat) u, (fc T)[i]? = some u → w.cell? ⟨b, o + i, none⟩ = some u := by
  obtain ⟨a', c', hv, hq⟩ := h
  injection hv with e1 e2 e3
  rcases hq with e | ⟨g, o, ha, hx⟩
  · left; rw [e]; rfl
  · refine Or.inr ⟨g, o, e1.trans ha, fun i u hu => ?_⟩
    obtain ⟨j, f, hf, hor⟩ := fc_cell hu
    rcases hor with ⟨rfl, rfl⟩ | ⟨rfl, rfl⟩
    · exact (hx j f hf).1
    · exact (hx j f hf).2
theorem fc_one {T : List Fd} : ∀ u ∈ fc T, u.oneCell' = true := by
  intro u hu
  obtain ⟨i, hi⟩ := List.getElem?_of_mem hu
  obtain ⟨j, f, _, hor⟩ := fc_cell hi
  rcases hor with ⟨_, rfl⟩ | ⟨_, rfl⟩ <;> rfl
set_option maxRecDepth 20000 in
set_option maxHeartbeats 2000000 in
theorem asks_core (w : World) (a : Option Addr) (T : List Fd) (L C : Nat) (x y : List Nat) (hfl : FL w (.slice a L C) T) (hL : T.length = L) (hLb : L * 32 ≤ 140737488351232) (hT : OctF T) (hTb : ∀ f ∈ T, f.1.length < 9223372036854775808) (hx : Oct x) (hy : Oct y) (hxb : x.length < 9223372036854775807) (hyb : y.length < 9223372036854775807) (haz : a = none → L = 0 ∧ C = 0) :
    Calls Try.prog 5 #[.slice a L C, .string (st x), .string (st y)] w fun e w' => e = .returned (.bool true) ∧ Below w.heap.size w w' := by
  obtain ⟨B, hB⟩ : ∃ B, w.heap.size = B := ⟨_, rfl⟩
  rw [hB]
  have hob0 : Ow (w.alloc (.cells #[] 43)) B 43 2 (.slice (some ⟨B, 0, none⟩) 0 0) 0 (fc []) := by rw [← hB]; exact Ow.made (cs := #[]) (Nat.le_refl _) (by decide) rfl
  have b0 : Below w.heap.size w (w.alloc (.cells #[] 43)) := (Below.refl _ w).alloc (Nat.le_refl _) _
  have hl0 := fl_fc (hfl.below b0)
  rw [hB] at b0
  obtain ⟨i0, hi, hz0, hz1, hz2⟩ := ginfo_parts ginfo43
  have A : Aside (FL w (.slice a L C) T ∧ T.length = L ∧ L * 32 ≤ 140737488351232 ∧ OctF T ∧ (∀ f ∈ T, f.1.length < 9223372036854775808) ∧ w.heap.size = B ∧ Below B w (w.alloc (.cells #[] 43)) ∧ 0 + L ≤ maxLen ∧ (0 + L) * 32 ≤ 140737488355328 ∧ (fc T).length = L * 2) := ⟨hfl, hL, hLb, hT, hTb, hB, b0, by unfold maxLen; omega, by omega, by rw [fc_length]; omega⟩
  have AX : Aside (Oct x ∧ Oct y ∧ x.length < 9223372036854775807 ∧ y.length < 9223372036854775807) := ⟨hx, hy, hxb, hyb⟩
  have AZ : Aside (a = none → L = 0 ∧ C = 0) := haz
  clear hfl hLb hT haz b0 hL hTb hx hy hxb hyb
  go_enter Try.func5, Try.ntmps5
  go_upto_region 2 with (at_builtin; refine wpList_ow Try.prog _ rfl (.tmp 12) (.tmp 13) 23 rfl 43 i0 _ 2 32 Try.underlying23 hi hz0 hz1 hz2 rfl (by decide) B (.slice (some ⟨B, 0, none⟩) 0 0) 0 _ (by rfl) hob0 a (fc T) L C A.out.2.2.2.2.2.2.2.2.2 (by rfl) AZ.out hl0 fc_one A.out.2.2.2.2.2.2.2.1 A.out.2.2.2.2.2.2.2.2.1 ?_; intro v1 w1 hgot)
  have a0 := A.out
  have ax := AX.out
  have how : Ow w1 B 43 2 v1 L (fc T) := by have := hgot.ow; rw [Nat.zero_add, ← fc_append, List.nil_append] at this; exact this
  have hfl1 := how.fl a0.2.1
  obtain ⟨va, vc, hv, _⟩ := how.shape
  subst hv
  have bel1 : Below B w w1 := a0.2.2.2.2.2.2.1.trans hgot.bel
  have hget := get_c w1 _ T x hfl1 a0.2.2.2.1 ax.1 (by omega) a0.2.2.2.2.1
  have hrget := fun W (h : FL W (.slice a L C) T) => rget_c W _ T x h a0.2.2.2.1 ax.1 (by omega) a0.2.2.2.2.1
  obtain ⟨R, hR⟩ : ∃ R, gt T x = R := ⟨_, rfl⟩
  rw [hR] at hget hrget
  obtain ⟨s1, hs1⟩ : ∃ s1, st R.1 = s1 := ⟨_, rfl⟩
  obtain ⟨q1, hq1⟩ : ∃ q1, R.2 = q1 := ⟨_, rfl⟩
  rw [hs1, hq1] at hget hrget
  have A1 : Aside (Below B w w1 ∧ B ≤ w1.heap.size ∧ FL w1 (.slice va L vc) T) := ⟨bel1, how.le, hfl1⟩
  clear a0 ax how hfl1 bel1 hgot hob0 hl0 hR hs1 hq1
  go_upto_region 3 with (go_at_call 18; refine hget.mono ?_; rintro e1 w2 ⟨rfl, hb2⟩)
  have a0 := A.out
  have a1 := A1.out
  have bel2 : Below B w w2 := a1.1.trans (hb2.mono a1.2.1)
  have hrg2 := hrget w2 (a0.1.below (by rw [a0.2.2.2.2.2.1]; exact bel2))
  have A2 : Aside (Below B w w2 ∧ B ≤ w2.heap.size ∧ FL w2 (.slice va L vc) T ∧ FL w2 (.slice a L C) T) := ⟨bel2, by have := hb2.size; omega, a1.2.2.below hb2, a0.1.below (by rw [a0.2.2.2.2.2.1]; exact bel2)⟩
  clear a0 a1 bel2 hget hrget hb2
  go_upto_region 4 with (go_at_call 19; refine hrg2.mono ?_; rintro e1 w3 ⟨rfl, n3, hw3⟩; have A3 : Aside (Below B w w3 ∧ B ≤ w3.heap.size ∧ FL w3 (.slice va L vc) T ∧ FL w3 (.slice a L C) T) := (by rw [hw3]; exact ⟨Below.drewN2 A2.out.1 n3, A2.out.2.1, A2.out.2.2.1.drewN n3, A2.out.2.2.2.drewN n3⟩); clear hw3)
  have a0 := A.out
  have ax := AX.out
  have a3 := A3.out
  have hfe := feq_c w3 _ _ _ _ a3.2.2.1 a3.2.2.2 a0.2.2.2.1 a0.2.2.2.1 (by omega)
  rw [decide_eq_true rfl] at hfe
  have hsm := fun W => same_c x y ax.1 ax.2.1 (by omega) W
  have hrsm := fun W => rsame_c x y ax.1 ax.2.1 (by omega) W
  have htr := fun W => trim_c y ax.2.1 (by omega) W
  have hrtr := fun W => rtrim_c y ax.2.1 (by omega) W
  obtain ⟨s2, hs2⟩ : ∃ s2, st (trm y) = s2 := ⟨_, rfl⟩
  rw [hs2] at htr hrtr
  obtain ⟨q2, hq2⟩ : ∃ q2, smb x y = q2 := ⟨_, rfl⟩
  rw [hq2] at hsm hrsm
  have haw := fun W => awake_c W
  clear a0 ax a3 hs2 hq2 hrg2
  have e1 : (q1 == q1) = true := by simp
  have e2 : (q2 == q2) = true := by simp
  go_wp2_with (first
    | (go_at_call 12; refine hfe.mono ?_; rintro e5 w5 ⟨rfl, n5, hw5⟩; have A5 : Aside (Below B w w5 ∧ B ≤ w5.heap.size) := (by rw [hw5]; exact ⟨Below.drewN2 A3.out.1 n5, A3.out.2.1⟩); clear hw5)
    | (go_at_call 20; refine (hsm _).mono ?_; rintro e6 w6 ⟨rfl, n6, hw6⟩; have A6 : Aside (Below B w w6 ∧ B ≤ w6.heap.size) := (by rw [hw6]; exact ⟨Below.drewN2 A5.out.1 n6, A5.out.2⟩); clear hw6)
    | (go_at_call 21; refine (hrsm _).mono ?_; rintro e7 w7 ⟨rfl, n7, hw7⟩; have A7 : Aside (Below B w w7 ∧ B ≤ w7.heap.size) := (by rw [hw7]; exact ⟨Below.drewN2 A6.out.1 n7, A6.out.2⟩); clear hw7)
    | (go_at_call 22; refine (htr _).mono ?_; rintro e8 w8 ⟨rfl, hb8⟩; have A8 : Aside (Below B w w8 ∧ B ≤ w8.heap.size) := ⟨A7.out.1.trans (hb8.mono A7.out.2), Nat.le_trans A7.out.2 hb8.size⟩; clear hb8)
    | (go_at_call 23; refine (hrtr _).mono ?_; rintro e9 w9 ⟨rfl, hw9⟩; subst hw9)
    | (go_at_call 10; refine (haw _).mono ?_; rintro e10 w10 ⟨rfl, hb10⟩))
  first | go_ret | go_ret2
  exact ⟨rfl, A8.out.1.trans (hb10.mono A8.out.2)⟩
end Go.Proofs.Ytmlkdpoignimaaa

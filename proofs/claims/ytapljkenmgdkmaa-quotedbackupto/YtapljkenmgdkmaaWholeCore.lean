/-
  QuotedWhole's walk.
-/
import Derived.Test.YtapljkenmgdkmaaAwake
import Derived.Test.YtapljkenmgdkmaaSame
import Derived.Test.YtapljkenmgdkmaaOf
namespace Go.Proofs.Ytapljkenmgdkmaa
open Go.RowKit
set_option linter.unusedVariables false
theorem rn_len0 (l : List Nat) : (rn 0 .no [] l).out.length ≤ l.length := by have := rn_len l 0 .no []; simpa [pend] using this
theorem cell?_drewN (w : World) (n : Nat) (p : Addr) : (w.drewN n).cell? p = w.cell? p := rfl
theorem Ob.made {w : World} {lo : Nat} (h : lo ≤ w.heap.size) : Ob (w.alloc (.cells #[] 5)) lo (.slice (some ⟨w.heap.size, 0, none⟩) 0 0) [] :=
  ⟨World.ownsRow_made (base := lo) (e := 5) (size := 1) w #[] 0 h (by decide) rfl, by show _ ≤ (w.heap.push _).size; simp; omega⟩
set_option maxRecDepth 20000 in
set_option maxHeartbeats 1000000 in
theorem whole_core (w : World) (a : Option Addr) (l : List Nat) (L C : Nat) (hl : Lies w a l) (hL : l.length = L) (hLb : L ≤ 2000000) (ho : Oct l) (haz : a = none → L = 0 ∧ C = 0) :
    Calls Try.prog 3 #[.slice a L C] w fun e w' => e = .returned (.bool true) ∧ Below w.heap.size w w' := by
  obtain ⟨B, hB⟩ : ∃ B, w.heap.size = B := ⟨_, rfl⟩
  rw [hB]
  have hob0 : Ob (w.alloc (.cells #[] 5)) B (.slice (some ⟨w.heap.size, 0, none⟩) 0 0) [] := Ob.made (by omega)
  have b0 : Below w.heap.size w (w.alloc (.cells #[] 5)) := (Below.refl _ w).alloc (Nat.le_refl _) _
  have hl0 : Lies (w.alloc (.cells #[] 5)) a l := hl.below b0
  rw [hB] at hob0 b0
  obtain ⟨lnx, hlnx⟩ : ∃ lnx, l.length = lnx := ⟨_, rfl⟩
  have A : Aside (Lies w a l ∧ l.length = L ∧ L ≤ 2000000 ∧ Oct l ∧ w.heap.size = B ∧ Below B w (w.alloc (.cells #[] 5)) ∧ ([] : List Nat).length + l.length ≤ 140737488355328) := ⟨hl, hL, hLb, ho, hB, b0, by simp; omega⟩
  have AZ : Aside (a = none → L = 0 ∧ C = 0) := haz
  clear hl hLb ho haz b0 hlnx
  go_enter Try.func3, Try.ntmps3
  go_upto_region 2 with (at_builtin; refine wpList_ob _ rfl (.tmp 8) (.tmp 9) rfl B (.slice (some ⟨B, 0, none⟩) 0 0) [] (by rfl) hob0 a l L C hL (by rfl) AZ.out hl0 A.out.2.2.2.2.2.2 ?_; intro v1 w1 hap)
  have a0 := A.out
  have bel1 : Below B w w1 := a0.2.2.2.2.2.1.trans hap.ap.bel
  have hob1 : Ob w1 B v1 l := hap.ow
  obtain ⟨va, vc, hv, hvc, hlies1, hvn⟩ := hob1.shape
  rw [hL] at hv
  subst hv
  have hwh := whole_c w1 va l L vc hlies1 hL (by omega) a0.2.2.2.1
  unfold WhTo at hwh
  obtain ⟨R, hR⟩ : ∃ R, rn 0 .no [] l = R := ⟨_, rfl⟩
  rw [hR] at hwh
  obtain ⟨y, hy⟩ : ∃ y, R.why = y := ⟨_, rfl⟩
  obtain ⟨t, ht⟩ : ∃ t, R.at_ = t := ⟨_, rfl⟩
  rw [hy, ht] at hwh
  have A1 : Aside (Below B w w1 ∧ B ≤ w1.heap.size ∧ rn 0 .no [] l = R ∧ R.why = y ∧ R.at_ = t ∧ Lies w1 va l) := ⟨bel1, hob1.le, hR, hy, ht, hlies1⟩
  clear a0 bel1 hob1 hap hvc hlies1 hvn hR hy ht hob0 hl0 hB
  go_upto_region 3 with (go_at_call 9; refine hwh.mono ?_; rintro e1 w2 ⟨vo, rfl, hob2, hb2⟩)
  obtain ⟨va2, vc2, hv2, hvc2, hlies2, hvn2⟩ := hob2.shape
  obtain ⟨ln2, hln2⟩ : ∃ ln2, R.out.length = ln2 := ⟨_, rfl⟩
  rw [hln2] at hv2
  subst hv2
  have a0 := A.out
  have a1 := A1.out
  have bel2 : Below B w w2 := a1.1.trans (hb2.mono a1.2.1)
  have hla : Lies w2 a l := a0.1.below (by rw [a0.2.2.2.2.1]; exact bel2)
  have hof := of_c w2 a l L C hla hL (by omega) a0.2.2.2.1
  unfold OfTo at hof
  rw [a1.2.2.1, a1.2.2.2.1, a1.2.2.2.2.1] at hof
  have A2 : Aside (Below B w w2 ∧ B ≤ w2.heap.size ∧ Lies w2 va2 R.out ∧ R.out.length = ln2 ∧ Lies w2 va l ∧ ln2 ≤ 2000000) := ⟨bel2, by have := bel2.size; omega, hlies2, hln2, a1.2.2.2.2.2.below hb2, by have := rn_len0 l; rw [a1.2.2.1] at this; omega⟩
  clear a0 a1 hob2 hb2 hvc2 hlies2 hvn2 hla bel2 hwh hln2
  go_upto_region 4 with (go_at_call 10; refine hof.mono ?_; rintro e1 w3 ⟨vO, vT, rfl, hobO, hobT, hb3⟩; obtain ⟨aO, nO, cO, hvO⟩ : ∃ aO nO cO, vO = .slice aO nO cO := (by obtain ⟨a7, c7, h6, _⟩ := Ow.shape hobO; exact ⟨_, _, _, h6⟩); obtain ⟨aT, nT, cT, hvT⟩ : ∃ aT nT cT, vT = .slice aT nT cT := (by obtain ⟨a7, c7, h6, _⟩ := Ow.shape hobT; exact ⟨_, _, _, h6⟩); subst hvO; subst hvT)
  obtain ⟨a7, c7, h6, _, hliesO, _⟩ := Ob.shape hobO
  have a2 := A2.out
  injection h6 with i1 i2 i3
  subst i1
  subst i3
  rw [a2.2.2.2.1] at i2
  subst i2
  obtain ⟨w4, hw4⟩ : ∃ w4, w4 = w3.alloc (.cells #[.slice aO nO cO, .slice aT nT cT, .int .i64 (y : Int), .int .i64 (t : Int)] 28) := ⟨_, rfl⟩
  have b4 : Below w3.heap.size w3 w4 := by rw [hw4]; exact (Below.refl _ w3).alloc (Nat.le_refl _) _
  obtain ⟨F, hF⟩ : ∃ F, w3.heap.size = F := ⟨_, rfl⟩
  have kF : Cells w4 F #[.slice aO nO cO, .slice aT nT cT, .int .i64 (y : Int), .int .i64 (t : Int)] 28 := by rw [hw4, ← hF]; exact Cells.new w3 _ 28
  have bel4 : Below B w w4 := (a2.1.trans (hb3.mono a2.2.1)).trans (b4.mono (by have := hb3.size; omega))
  have g0 := a2.2.2.1.below (hb3.trans (b4.mono hb3.size))
  have g1 := a2.2.2.2.2.1.below (hb3.trans (b4.mono hb3.size))
  have g2 := hliesO.below b4
  have g3' : Lies w4 a l := A.out.1.below (by rw [A.out.2.2.2.2.1]; exact bel4)
  have hs1 := same_c va2 aO R.out R.out nO nO vc2 cO w4 a2.2.2.2.1 a2.2.2.2.1 (by omega) g0 g2
  rw [decide_eq_true rfl] at hs1
  have A4 : Aside (Below B w w4 ∧ B ≤ w4.heap.size ∧ Lies w4 va l ∧ Lies w4 a l ∧ L ≤ 2000000) := ⟨bel4, by have := bel4.size; have := A.out.2.2.2.2.1; omega, g1, g3', A.out.2.2.1⟩
  rw [← hw4, hF]
  have d0 := kF.cell 0
  have d1 := kF.cell 1
  have d2 := kF.cell 2
  have d3 := kF.cell 3
  simp only [List.getElem?_toArray, List.getElem?_cons_zero, List.getElem?_cons_succ] at d0 d1 d2 d3
  clear hof hobO hobT hb3 hliesO a2 hw4 b4 kF bel4 g0 g1 g2 g3' hF
  have hq1 : ((y : Int) == (y : Int)) = true := by simp
  have hq2 : ((t : Int) == (t : Int)) = true := by simp
  go_wp2_with (first
    | (go_at_call 11; (with_reducible refine hs1.mono ?_); rintro e1 w5 ⟨rfl, n5, hw5⟩; have hs2 := same_c va a l l L L vc C w5 hL hL (by have := A4.out; omega) (by rw [hw5]; exact A4.out.2.2.1.drewN n5) (by rw [hw5]; exact A4.out.2.2.2.1.drewN n5); rw [decide_eq_true rfl] at hs2; have A5 : Aside (Below B w w5 ∧ B ≤ w5.heap.size) := And.intro (by rw [hw5]; exact Below.drewN' A4.out.1 n5) (by rw [hw5]; exact A4.out.2.1); have d2 : w5.cell? ⟨F, 2, none⟩ = some (.int .i64 (y : Int)) := (by rw [hw5]; exact (cell?_drewN w4 n5 _).trans d2); have d3 : w5.cell? ⟨F, 3, none⟩ = some (.int .i64 (t : Int)) := (by rw [hw5]; exact (cell?_drewN w4 n5 _).trans d3); clear hw5 hs1)
    | (go_at_call 11; (with_reducible refine hs2.mono ?_); rintro e1 w6 ⟨rfl, n6, hw6⟩; have haw := awake_c w6; have A6 : Aside (Below B w w6 ∧ B ≤ w6.heap.size) := And.intro (by rw [hw6]; exact Below.drewN' A5.out.1 n6) (by rw [hw6]; exact A5.out.2); clear hw6 hs2)
    | (go_at_call 12; refine haw.mono ?_; rintro e1 w7 ⟨rfl, hb7⟩))
  first | go_ret | go_ret2
  exact ⟨rfl, A6.out.1.trans (hb7.mono A6.out.2)⟩
end Go.Proofs.Ytapljkenmgdkmaa

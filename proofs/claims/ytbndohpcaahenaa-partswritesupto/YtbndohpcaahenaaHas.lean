/-
  What the document's has comes to.
-/
import Derived.Test.YtbndohpcaahenaaHld
import Derived.Test.YtbndohpcaahenaaLok
import Derived.Test.YtbndohpcaahenaaCut
namespace Go.Proofs.Ytbndohpcaahenaa
open Go.RowKit
set_option linter.unusedVariables false
/-- A part's lines from a place on: the line so far, and what follows. -/
theorem hs_more {D l : List Nat} {f i y : Nat} (hf : f ≤ i) (hy : l[i]? = some y) (h10 : y ≠ 10) : hs D ((l.take i).drop f) (l.drop i) = hs D ((l.take (i + 1)).drop f) (l.drop (i + 1)) := by
  have hi := (List.getElem?_eq_some_iff.1 hy).1
  rw [drop_more hy, take_more hy, List.drop_append_of_le_length (by simp; omega)]
  simp [hs, h10]
theorem hs_line {D l : List Nat} {f i : Nat} (hy : l[i]? = some 10) : hs D ((l.take i).drop f) (l.drop i) = (decide ((lkB D (d13 ((l.take i).drop f))).1 = 2) || hs D [] (l.drop (i + 1))) := by
  rw [drop_more hy]
  simp [hs]
theorem hs_end {D l : List Nat} {f : Nat} : hs D ((l.take l.length).drop f) (l.drop l.length) = decide ((lkB D (l.drop f)).1 = 2) := by
  simp [hs]
theorem seg_last {l : List Nat} {f i z : Nat} (hf : f < i) (hz : l[i - 1]? = some z) : (l.take i).drop f = ((l.take (i - 1)).drop f) ++ [z] := by
  have e := take_more hz
  rw [show i - 1 + 1 = i by omega] at e
  have hi := (List.getElem?_eq_some_iff.1 hz).1
  rw [e, List.drop_append_of_le_length (by simp; omega)]
theorem seg_lies {w : World} {l : List Nat} {a : Option Addr} (h : Lies w a l) {g o : Nat} (ha : a = some ⟨g, o, none⟩) (f i : Nat) : Lies w (some ⟨g, o + f, none⟩) ((l.take i).drop f) := by
  rcases h with rfl | ⟨b, o', ha', hc⟩
  · left; simp
  · rw [ha] at ha'
    cases ha'
    refine Or.inr ⟨g, o + f, rfl, fun j x hx => ?_⟩
    rw [List.getElem?_drop, List.getElem?_take] at hx
    split at hx
    · rw [Nat.add_assoc]; exact hc _ _ hx
    · simp at hx
set_option maxRecDepth 20000 in
set_option maxHeartbeats 4000000 in
theorem has_c (w : World) (a : Option Addr) (l : List Nat) (L c : Nat) (b : List Nat) (ho : Oct b) (hb : b.length ≤ 1000) (hL : l.length = L) (hLb : L ≤ 100000000) (hc : L ≤ c) (hz : a = none → L = 0 ∧ c = 0) (hx : Lies w a l) :
    Calls Try.prog 38 #[.slice a L c, .string (st b)] w fun e w' => e = .returned (.bool (hs (dd b) [] l)) ∧ Dn w w' := by
  obtain ⟨R, hR⟩ : ∃ R, hs (dd b) [] l = R := ⟨_, rfl⟩
  rw [hR]
  obtain ⟨D, hD⟩ : ∃ D, dd b = D := ⟨_, rfl⟩
  have hlk : ∀ (u : World) (a1 : Option Addr) (x : List Nat) (X c1 : Nat), x.length = X → X ≤ 100000000 → Lies u a1 x → Calls Try.prog 31 #[.slice a1 X c1, .string (st b), .bool true] u fun e w' => e = .returned (.tuple #[.int .i64 ((lkB D x).1 : Nat), .bool (lkB D x).2]) ∧ Dn u w' := fun u a1 x X c1 h1 h2 h3 => by
    have := look_c u a1 x X c1 b ho hb true h1 h2 h3
    rw [hD] at this
    exact this
  obtain ⟨sb, hsb⟩ : ∃ sb, st b = sb := ⟨_, rfl⟩
  rw [hsb] at hlk ⊢
  rw [hD] at hR
  have AL : Aside (∀ (u : World) (a1 : Option Addr) (x : List Nat) (X c1 : Nat), x.length = X → X ≤ 100000000 → Lies u a1 x → Calls Try.prog 31 #[.slice a1 X c1, .string sb, .bool true] u fun e w' => e = .returned (.tuple #[.int .i64 ((lkB D x).1 : Nat), .bool (lkB D x).2]) ∧ Dn u w') := hlk
  have AX : Aside (l.length = L ∧ L ≤ 100000000 ∧ L ≤ c ∧ (a = none → L = 0 ∧ c = 0) ∧ Lies w a l ∧ hs D [] l = R) := ⟨hL, hLb, hc, hz, hx, hR⟩
  clear hlk hL hLb hc hz hx hR hD hsb ho hb
  go_enter Try.func38, Try.ntmps38
  go_wp2_with fail
  go_loopg [5, 6] (L + 1) (fun gg s5 s6 wr => ∃ f i : Nat, s5 = .int .i64 (f : Int) ∧ s6 = .int .i64 (i : Int) ∧ Aside (i + gg = L + 1 ∧ f ≤ i ∧ (i ≤ L → hs D ((l.take i).drop f) (l.drop i) = R) ∧ (L < i → R = false) ∧ Dn w wr))
  case atStart => exact ⟨0, 0, rfl, rfl, ⟨by omega, by omega, fun _ => by simpa using AX.out.2.2.2.2.2, fun h => by omega, Dn.refl _⟩⟩
  case round =>
    obtain ⟨f, i, rfl, rfl, hT⟩ := hrel
    obtain ⟨hig, hfi, hin, hout, hdn⟩ := hT.out
    have ax := AX.out
    by_cases hiL : i ≤ L
    · have t1 : ((i : Int) ≤ (L : Int)) = True := eq_true (by omega)
      have t2 : (i ≤ L) = True := eq_true hiL
      have bi : (i : Int) < 200000000 := by omega
      by_cases hil : i < L
      · have t3 : ((i : Int) < (L : Int)) = True := eq_true (by omega)
        have t4 : (i < L) = True := eq_true hil
        obtain ⟨y, hy⟩ : ∃ y, l[i]? = some y := ⟨_, List.getElem?_eq_getElem (by omega)⟩
        obtain ⟨g, o, rfl, hcell⟩ : ∃ g o, a = some ⟨g, o, none⟩ ∧ ∀ (i x : Nat), l[i]? = some x → wr.cell? ⟨g, o + i, none⟩ = some (.int .u8 (x : Int)) := by
          rcases ax.2.2.2.2.1 with e | ⟨g, o, ha, hcc⟩
          · rw [e] at hy; simp at hy
          · exact ⟨g, o, ha, fun i x hx => by rw [hdn.cell]; exact hcc i x hx⟩
        have cy := hcell i y hy
        by_cases h10 : y = 10
        · subst h10
          obtain ⟨Rn, hRn⟩ : ∃ Rn, hs D [] (l.drop (i + 1)) = Rn := ⟨_, rfl⟩
          have hli2 := hs_line (D := D) (f := f) hy
          rw [hin hiL, hRn] at hli2
          by_cases hf : f < i
          · have t5 : ((f : Int) < (i : Int)) = True := eq_true (by omega)
            have t6 : (f < i) = True := eq_true hf
            obtain ⟨j, hj⟩ : ∃ j, j = i - 1 := ⟨_, rfl⟩
            have hji : (i : Int) - 1 = (j : Int) := by omega
            have bj : (j : Int) < 200000000 := by omega
            have t7 : ((j : Int) < (L : Int)) = True := eq_true (by omega)
            have t8 : (j < L) = True := eq_true (by omega)
            obtain ⟨z, hz⟩ : ∃ z, l[j]? = some z := ⟨_, List.getElem?_eq_getElem (by omega)⟩
            have cz := hcell j z hz
            have hseg := seg_last hf (by rw [← hj]; exact hz)
            rw [← hj] at hseg
            by_cases h13 : z = 13
            · subst h13
              rw [hseg, d13_snoc] at hli2
              have hfin : R = (decide ((lkB D ((l.take j).drop f)).1 = 2) || Rn) ∧ (i + 1 ≤ L → Rn = hs D [] (l.drop (i + 1))) ∧ (L < i + 1 → Rn = false) := ⟨hli2, fun _ => hRn.symm, fun h => by omega⟩
              clear hseg hli2 hRn hz hy hcell
              have hjj : f ≤ j ∧ j ≤ L := by omega
              clear hf hil hj
              have hsg : ((l.take j).drop f).length = j - f := by rw [List.length_drop, List.length_take]; omega
              obtain ⟨a2, hsl, hli, _⟩ := cut_of _ l L c f j ax.1 ax.2.2.1 (by omega) (by omega) ax.2.2.2.1 w ax.2.2.2.2.1
              obtain ⟨X, hX⟩ : ∃ X, j - f = X := ⟨_, rfl⟩
              obtain ⟨cx, hcx⟩ : ∃ cx, c - f = cx := ⟨_, rfl⟩
              rw [hX] at hsl hsg
              rw [hcx] at hsl
              have hlw : Lies wr a2 ((l.take j).drop f) := by obtain ⟨m, hm⟩ := hdn; rw [hm]; exact (hli w ax.2.2.2.2.1).drewN m
              have hlk := AL.out wr a2 ((l.take j).drop f) X cx hsg (by omega) hlw
              obtain ⟨⟨r1, r2⟩, hr12⟩ : ∃ r, lkB D ((l.take j).drop f) = r := ⟨_, rfl⟩
              rw [hr12] at hlk hfin
              have hlk2 : Calls Try.prog 31 #[.slice a2 X cx, .string sb, .bool true] wr fun e w' => e = .returned (.tuple #[.int .i64 (r1 : Int), .bool r2]) ∧ Dn wr w' := hlk
              have AF : Aside (i + gk = L + 1 ∧ i ≤ L ∧ R = (decide (r1 = 2) || Rn) ∧ (i + 1 ≤ L → Rn = hs D [] (l.drop (i + 1))) ∧ (L < i + 1 → Rn = false) ∧ Dn w wr ∧ f ≤ i) := ⟨hig, hiL, hfin.1, hfin.2.1, hfin.2.2, hdn, hfi⟩
              clear hT hig hfi hin hout hdn hiL hsg hli hX hcx hlw hlk hr12 hfin ax
              go_upto_region 10 with (go_at_call 31; refine hlk2.mono ?_; rintro e2 w2 ⟨rfl, d2⟩)
              have af := AF.out
              have hdd : Dn w w2 := by obtain ⟨m, hm⟩ := af.2.2.2.2.2.1; obtain ⟨m2, hm2⟩ := d2; rw [hm2, hm, World.drewN_drewN]; exact ⟨_, rfl⟩
              have AD : Aside (Dn w w2) := hdd
              by_cases h2 : r1 = 2
              · subst h2
                have hR : R = true := by rw [af.2.2.1]; simp
                subst hR
                clear af hdd d2 hlk2 hsl
                go_wp2_with fail
                first | go_ret | go_ret2
                exact ⟨rfl, AD.out⟩
              · have t9 : ((r1 : Int) == 2) = false := by rw [beq_eq_false_iff_ne]; omega
                have t10 : ((r1 : Int) = 2) = False := eq_false (by omega)
                have hRn : R = Rn := by rw [af.2.2.1]; simp [h2]
                have AR : Aside (R = Rn) := hRn
                clear af hdd d2 hlk2 hsl h2 hRn
                go_wp2_with fail
                have af := AF.out
                go_roundg (gk - 1)
                case measure => omega
                case rel =>
                  refine ⟨i + 1, i + 1, by go_num, by go_num, ⟨by omega, by omega, fun hi1 => ?_, fun hi1 => ?_, AD.out⟩⟩
                  · rw [AR.out, af.2.2.2.1 hi1, List.drop_eq_nil_of_le (by rw [List.length_take]; omega)]
                  · rw [AR.out, af.2.2.2.2.1 hi1]
            · have t9' : ((z : Int) == 13) = false := by rw [beq_eq_false_iff_ne]; omega
              have hd : d13 ((l.take i).drop f) = (l.take i).drop f := d13_same (by rw [hseg]; simp; omega)
              rw [hd] at hli2
              have hfin : R = (decide ((lkB D ((l.take i).drop f)).1 = 2) || Rn) ∧ (i + 1 ≤ L → Rn = hs D [] (l.drop (i + 1))) ∧ (L < i + 1 → Rn = false) := ⟨hli2, fun _ => hRn.symm, fun h => by omega⟩
              clear hseg hli2 hRn hz hy hcell hd h13
              clear hf hil hj
              have hsg : ((l.take i).drop f).length = i - f := by rw [List.length_drop, List.length_take]; omega
              obtain ⟨a2, hsl, hli, _⟩ := cut_of _ l L c f i ax.1 ax.2.2.1 (by omega) (by omega) ax.2.2.2.1 w ax.2.2.2.2.1
              obtain ⟨X, hX⟩ : ∃ X, i - f = X := ⟨_, rfl⟩
              obtain ⟨cx, hcx⟩ : ∃ cx, c - f = cx := ⟨_, rfl⟩
              rw [hX] at hsl hsg
              rw [hcx] at hsl
              have hlw : Lies wr a2 ((l.take i).drop f) := by obtain ⟨m, hm⟩ := hdn; rw [hm]; exact (hli w ax.2.2.2.2.1).drewN m
              have hlk := AL.out wr a2 ((l.take i).drop f) X cx hsg (by omega) hlw
              obtain ⟨⟨r1, r2⟩, hr12⟩ : ∃ r, lkB D ((l.take i).drop f) = r := ⟨_, rfl⟩
              rw [hr12] at hlk hfin
              have hlk2 : Calls Try.prog 31 #[.slice a2 X cx, .string sb, .bool true] wr fun e w' => e = .returned (.tuple #[.int .i64 (r1 : Int), .bool r2]) ∧ Dn wr w' := hlk
              have AF : Aside (i + gk = L + 1 ∧ i ≤ L ∧ R = (decide (r1 = 2) || Rn) ∧ (i + 1 ≤ L → Rn = hs D [] (l.drop (i + 1))) ∧ (L < i + 1 → Rn = false) ∧ Dn w wr ∧ f ≤ i) := ⟨hig, hiL, hfin.1, hfin.2.1, hfin.2.2, hdn, hfi⟩
              clear hT hig hfi hin hout hdn hiL hsg hli hX hcx hlw hlk hr12 hfin ax
              go_upto_region 10 with (go_at_call 31; refine hlk2.mono ?_; rintro e2 w2 ⟨rfl, d2⟩)
              have af := AF.out
              have hdd : Dn w w2 := by obtain ⟨m, hm⟩ := af.2.2.2.2.2.1; obtain ⟨m2, hm2⟩ := d2; rw [hm2, hm, World.drewN_drewN]; exact ⟨_, rfl⟩
              have AD : Aside (Dn w w2) := hdd
              by_cases h2 : r1 = 2
              · subst h2
                have hR : R = true := by rw [af.2.2.1]; simp
                subst hR
                clear af hdd d2 hlk2 hsl
                go_wp2_with fail
                first | go_ret | go_ret2
                exact ⟨rfl, AD.out⟩
              · have t9 : ((r1 : Int) == 2) = false := by rw [beq_eq_false_iff_ne]; omega
                have t10 : ((r1 : Int) = 2) = False := eq_false (by omega)
                have hRn : R = Rn := by rw [af.2.2.1]; simp [h2]
                have AR : Aside (R = Rn) := hRn
                clear af hdd d2 hlk2 hsl h2 hRn
                go_wp2_with fail
                have af := AF.out
                go_roundg (gk - 1)
                case measure => omega
                case rel =>
                  refine ⟨i + 1, i + 1, by go_num, by go_num, ⟨by omega, by omega, fun hi1 => ?_, fun hi1 => ?_, AD.out⟩⟩
                  · rw [AR.out, af.2.2.2.1 hi1, List.drop_eq_nil_of_le (by rw [List.length_take]; omega)]
                  · rw [AR.out, af.2.2.2.2.1 hi1]
          · have t5 : ((f : Int) < (i : Int)) = False := eq_false (by omega)
            have t6 : (f < i) = False := eq_false hf
            have hd : d13 ((l.take i).drop f) = (l.take i).drop f := by
              rw [List.drop_eq_nil_of_le (by rw [List.length_take]; omega)]; rfl
            rw [hd] at hli2
            have hfin : R = (decide ((lkB D ((l.take i).drop f)).1 = 2) || Rn) ∧ (i + 1 ≤ L → Rn = hs D [] (l.drop (i + 1))) ∧ (L < i + 1 → Rn = false) := ⟨hli2, fun _ => hRn.symm, fun h => by omega⟩
            clear hli2 hRn hy hcell hd
            clear hf hil
            have hsg : ((l.take i).drop f).length = i - f := by rw [List.length_drop, List.length_take]; omega
            obtain ⟨a2, hsl, hli, _⟩ := cut_of _ l L c f i ax.1 ax.2.2.1 (by omega) (by omega) ax.2.2.2.1 w ax.2.2.2.2.1
            obtain ⟨X, hX⟩ : ∃ X, i - f = X := ⟨_, rfl⟩
            obtain ⟨cx, hcx⟩ : ∃ cx, c - f = cx := ⟨_, rfl⟩
            rw [hX] at hsl hsg
            rw [hcx] at hsl
            have hlw : Lies wr a2 ((l.take i).drop f) := by obtain ⟨m, hm⟩ := hdn; rw [hm]; exact (hli w ax.2.2.2.2.1).drewN m
            have hlk := AL.out wr a2 ((l.take i).drop f) X cx hsg (by omega) hlw
            obtain ⟨⟨r1, r2⟩, hr12⟩ : ∃ r, lkB D ((l.take i).drop f) = r := ⟨_, rfl⟩
            rw [hr12] at hlk hfin
            have hlk2 : Calls Try.prog 31 #[.slice a2 X cx, .string sb, .bool true] wr fun e w' => e = .returned (.tuple #[.int .i64 (r1 : Int), .bool r2]) ∧ Dn wr w' := hlk
            have AF : Aside (i + gk = L + 1 ∧ i ≤ L ∧ R = (decide (r1 = 2) || Rn) ∧ (i + 1 ≤ L → Rn = hs D [] (l.drop (i + 1))) ∧ (L < i + 1 → Rn = false) ∧ Dn w wr ∧ f ≤ i) := ⟨hig, hiL, hfin.1, hfin.2.1, hfin.2.2, hdn, hfi⟩
            clear hT hig hfi hin hout hdn hiL hsg hli hX hcx hlw hlk hr12 hfin ax
            go_upto_region 10 with (go_at_call 31; refine hlk2.mono ?_; rintro e2 w2 ⟨rfl, d2⟩)
            have af := AF.out
            have hdd : Dn w w2 := by obtain ⟨m, hm⟩ := af.2.2.2.2.2.1; obtain ⟨m2, hm2⟩ := d2; rw [hm2, hm, World.drewN_drewN]; exact ⟨_, rfl⟩
            have AD : Aside (Dn w w2) := hdd
            by_cases h2 : r1 = 2
            · subst h2
              have hR : R = true := by rw [af.2.2.1]; simp
              subst hR
              clear af hdd d2 hlk2 hsl
              go_wp2_with fail
              first | go_ret | go_ret2
              exact ⟨rfl, AD.out⟩
            · have t9 : ((r1 : Int) == 2) = false := by rw [beq_eq_false_iff_ne]; omega
              have t10 : ((r1 : Int) = 2) = False := eq_false (by omega)
              have hRn : R = Rn := by rw [af.2.2.1]; simp [h2]
              have AR : Aside (R = Rn) := hRn
              clear af hdd d2 hlk2 hsl h2 hRn
              go_wp2_with fail
              have af := AF.out
              go_roundg (gk - 1)
              case measure => omega
              case rel =>
                refine ⟨i + 1, i + 1, by go_num, by go_num, ⟨by omega, by omega, fun hi1 => ?_, fun hi1 => ?_, AD.out⟩⟩
                · rw [AR.out, af.2.2.2.1 hi1, List.drop_eq_nil_of_le (by rw [List.length_take]; omega)]
                · rw [AR.out, af.2.2.2.2.1 hi1]
        · have t5 : ((y : Int) != 10) = true := by rw [bne_iff_ne]; omega
          have t6 : ((y : Int) == 10) = false := by rw [beq_eq_false_iff_ne]; omega
          have hm := hs_more (D := D) hfi hy h10
          have A2 : Aside (i + gk = L + 1 ∧ i < L ∧ f ≤ i ∧ hs D ((l.take (i + 1)).drop f) (l.drop (i + 1)) = R ∧ Dn w wr) := ⟨hig, hil, hfi, by rw [← hm]; exact hin hiL, hdn⟩
          clear hT hig hfi hin hout hdn hiL hil hy hcell h10 hm ax
          go_wp2_with fail
          have a2 := A2.out
          go_roundg (gk - 1)
          case measure => omega
          case rel => exact ⟨f, i + 1, rfl, by go_num, ⟨by omega, by omega, fun _ => a2.2.2.2.1, fun h => by omega, a2.2.2.2.2⟩⟩
      · have t3 : ((i : Int) < (L : Int)) = False := eq_false (by omega)
        have t4 : (i < L) = False := eq_false hil
        have hiL2 : i = L := by omega
        have he := hs_end (D := D) (l := l) (f := f)
        rw [ax.1, ← hiL2, hin hiL] at he
        have hdt : l.drop f = (l.take i).drop f := by rw [List.take_of_length_le (by omega)]
        rw [hdt] at he
        obtain ⟨Rn, hRn⟩ : ∃ Rn, false = Rn := ⟨_, rfl⟩
        have hfin : R = (decide ((lkB D ((l.take i).drop f)).1 = 2) || Rn) ∧ (i + 1 ≤ L → Rn = hs D [] (l.drop (i + 1))) ∧ (L < i + 1 → Rn = false) := ⟨by rw [← hRn, Bool.or_false]; exact he, fun h => by omega, fun _ => hRn.symm⟩
        clear he hRn hil hiL2 hdt
        have hsg : ((l.take i).drop f).length = i - f := by rw [List.length_drop, List.length_take]; omega
        obtain ⟨a2, hsl, hli, _⟩ := cut_of _ l L c f i ax.1 ax.2.2.1 (by omega) (by omega) ax.2.2.2.1 w ax.2.2.2.2.1
        obtain ⟨X, hX⟩ : ∃ X, i - f = X := ⟨_, rfl⟩
        obtain ⟨cx, hcx⟩ : ∃ cx, c - f = cx := ⟨_, rfl⟩
        rw [hX] at hsl hsg
        rw [hcx] at hsl
        have hlw : Lies wr a2 ((l.take i).drop f) := by obtain ⟨m, hm⟩ := hdn; rw [hm]; exact (hli w ax.2.2.2.2.1).drewN m
        have hlk := AL.out wr a2 ((l.take i).drop f) X cx hsg (by omega) hlw
        obtain ⟨⟨r1, r2⟩, hr12⟩ : ∃ r, lkB D ((l.take i).drop f) = r := ⟨_, rfl⟩
        rw [hr12] at hlk hfin
        have hlk2 : Calls Try.prog 31 #[.slice a2 X cx, .string sb, .bool true] wr fun e w' => e = .returned (.tuple #[.int .i64 (r1 : Int), .bool r2]) ∧ Dn wr w' := hlk
        have AF : Aside (i + gk = L + 1 ∧ i ≤ L ∧ R = (decide (r1 = 2) || Rn) ∧ (i + 1 ≤ L → Rn = hs D [] (l.drop (i + 1))) ∧ (L < i + 1 → Rn = false) ∧ Dn w wr ∧ f ≤ i) := ⟨hig, hiL, hfin.1, hfin.2.1, hfin.2.2, hdn, hfi⟩
        clear hT hig hfi hin hout hdn hiL hsg hli hX hcx hlw hlk hr12 hfin ax
        go_upto_region 10 with (go_at_call 31; refine hlk2.mono ?_; rintro e2 w2 ⟨rfl, d2⟩)
        have af := AF.out
        have hdd : Dn w w2 := by obtain ⟨m, hm⟩ := af.2.2.2.2.2.1; obtain ⟨m2, hm2⟩ := d2; rw [hm2, hm, World.drewN_drewN]; exact ⟨_, rfl⟩
        have AD : Aside (Dn w w2) := hdd
        by_cases h2 : r1 = 2
        · subst h2
          have hR : R = true := by rw [af.2.2.1]; simp
          subst hR
          clear af hdd d2 hlk2 hsl
          go_wp2_with fail
          first | go_ret | go_ret2
          exact ⟨rfl, AD.out⟩
        · have t9 : ((r1 : Int) == 2) = false := by rw [beq_eq_false_iff_ne]; omega
          have t10 : ((r1 : Int) = 2) = False := eq_false (by omega)
          have hRn : R = Rn := by rw [af.2.2.1]; simp [h2]
          have AR : Aside (R = Rn) := hRn
          clear af hdd d2 hlk2 hsl h2 hRn
          go_wp2_with fail
          have af := AF.out
          go_roundg (gk - 1)
          case measure => omega
          case rel =>
            refine ⟨i + 1, i + 1, by go_num, by go_num, ⟨by omega, by omega, fun hi1 => ?_, fun hi1 => ?_, AD.out⟩⟩
            · rw [AR.out, af.2.2.2.1 hi1, List.drop_eq_nil_of_le (by rw [List.length_take]; omega)]
            · rw [AR.out, af.2.2.2.2.1 hi1]
    · have t1 : ((i : Int) ≤ (L : Int)) = False := eq_false (by omega)
      have t2 : (i ≤ L) = False := eq_false hiL
      have hR := hout (by omega)
      subst hR
      have AD : Aside (Dn w wr) := hdn
      clear hT hig hfi hin hout hdn hiL ax
      go_wp2_with fail
      first | go_ret | go_ret2
      exact ⟨rfl, AD.out⟩
end Go.Proofs.Ytbndohpcaahenaa

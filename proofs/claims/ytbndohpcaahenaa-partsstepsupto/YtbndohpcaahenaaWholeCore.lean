/-
  PartsWhole's walk.
-/
import Derived.Test.YtbndohpcaahenaaRpt
import Derived.Test.YtbndohpcaahenaaRvl
import Derived.Test.YtbndohpcaahenaaSame
import Derived.Test.YtbndohpcaahenaaTlm
import Derived.Test.YtbndohpcaahenaaOfw
namespace Go.Proofs.Ytbndohpcaahenaa
open Go.RowKit
set_option linter.unusedVariables false
theorem Ow.made {w : World} {lo : Nat} (h : lo ≤ w.heap.size) : Ow (w.alloc (.cells #[] 5)) lo 5 1 (.slice (some ⟨w.heap.size, 0, none⟩) 0 0) 0 (ob []) :=
  ⟨World.ownsRow_made (base := lo) (e := 5) (size := 1) w #[] 0 h (by decide) rfl, by show _ ≤ (w.heap.push _).size; simp; omega⟩
theorem lies_ob {w : World} {a : Option Addr} {l : List Nat} (h : Lies w a l) : ob l = [] ∨ ∃ b o, a = some ⟨b, o, none⟩ ∧ ∀ i u, (ob l)[i]? = some u → w.cell? ⟨b, o + i, none⟩ = some u := by
  rcases h with rfl | ⟨b, o, ha, hc⟩
  · exact Or.inl rfl
  · refine Or.inr ⟨b, o, ha, fun i u hu => ?_⟩
    rw [ob_get] at hu
    cases hx : l[i]? with
    | none => rw [hx] at hu; simp at hu
    | some x => rw [hx] at hu; simp at hu; rw [← hu]; exact hc i x hx
set_option maxRecDepth 20000 in
set_option maxHeartbeats 2000000 in
theorem whole_core (w : World) (a : Option Addr) (x : List Nat) (L C : Nat) (b : List Nat) (hx : Lies w a x) (hL : x.length = L) (hLb : L ≤ 2000000) (hC : L ≤ C) (hC2 : C ≤ 4000000000000000000) (hox : Oct x) (haz : a = none → L = 0 ∧ C = 0) (hob : Oct b) (hb : b.length ≤ 2000000) :
    Calls Try.prog 3 #[.slice a L C, .string (st b)] w fun e w' => e = .returned (.bool true) ∧ Below w.heap.size w w' := by
  obtain ⟨B, hB⟩ : ∃ B, w.heap.size = B := ⟨_, rfl⟩
  rw [hB]
  have hob0 : Ow (w.alloc (.cells #[] 5)) B 5 1 (.slice (some ⟨w.heap.size, 0, none⟩) 0 0) 0 (ob []) := Ow.made (by omega)
  have b0 : Below w.heap.size w (w.alloc (.cells #[] 5)) := (Below.refl _ w).alloc (Nat.le_refl _) _
  have hl0 := lies_ob (hx.below b0)
  rw [hB] at hob0 b0
  obtain ⟨sb, hsb⟩ : ∃ sb, st b = sb := ⟨_, rfl⟩
  rw [hsb]
  obtain ⟨i0, hi, hz0, hz1, hz2⟩ := ginfo_parts ginfo5
  have A : Aside (Lies w a x ∧ x.length = L ∧ L ≤ 2000000 ∧ L ≤ C ∧ C ≤ 4000000000000000000 ∧ Oct x ∧ w.heap.size = B ∧ Below B w (w.alloc (.cells #[] 5)) ∧ Oct b ∧ b.length ≤ 2000000 ∧ st b = sb) := ⟨hx, hL, hLb, hC, hC2, hox, hB, b0, hob, hb, hsb⟩
  have AZ : Aside ((a = none → L = 0 ∧ C = 0) ∧ (ob x).length = L * 1 ∧ 0 + L ≤ maxLen ∧ (0 + L) * 1 ≤ 140737488355328) := ⟨haz, by rw [ob_length]; omega, by unfold maxLen; omega, by omega⟩
  have h1c : ∀ u ∈ ob x, u.oneCell' = true := ob_one
  clear hx hLb haz b0 hL hC hC2 hox hob hb hsb
  go_enter Try.func3, Try.ntmps3
  go_upto_region 2 with (at_builtin; refine wpList_ow Try.prog _ rfl (.tmp 12) (.tmp 13) 22 rfl 5 i0 _ 1 1 Try.underlying22 hi hz0 hz1 hz2 rfl (by decide) B (.slice (some ⟨B, 0, none⟩) 0 0) 0 _ (by rfl) hob0 a (ob x) L C AZ.out.2.1 (by rfl) AZ.out.1 hl0 h1c AZ.out.2.2.1 AZ.out.2.2.2 ?_; intro v1 w1 hgot)
  have a0 := A.out
  have bel1 : Below B w w1 := a0.2.2.2.2.2.2.2.1.trans hgot.bel
  have how1 := hgot.ow
  rw [ob_append, List.nil_append, Nat.zero_add] at how1
  obtain ⟨va, vc, hv, _, _, hlies1, _⟩ := how1.lies
  subst hv
  have A1 : Aside (Below B w w1 ∧ B ≤ w1.heap.size ∧ Lies w1 va x) := ⟨bel1, how1.le, hlies1⟩
  cases hvd : vd b with
  | false =>
    have hwh := whole_no b a0.2.2.2.2.2.2.2.2.1 (by omega) hvd va L vc w1
    rw [a0.2.2.2.2.2.2.2.2.2.2] at hwh
    clear a0 bel1 how1 hgot hlies1 hob0 hl0 h1c hi hz0 hz1 hz2 hB
    go_upto_region 3 with (go_at_call 9; refine hwh.mono ?_; rintro e2 w2 ⟨rfl, b2⟩)
    have a0 := A.out
    have hrv : Calls Try.prog 10 #[.string sb] w2 fun e w' => e = .returned (.bool false) ∧ w2 = w' := by
      have := rvalid_c b a0.2.2.2.2.2.2.2.2.1 (by omega) w2
      rw [hvd, a0.2.2.2.2.2.2.2.2.2.2] at this
      exact this.mono fun e w' k => ⟨k.1, k.2.symm⟩
    have hnw := new_no b a0.2.2.2.2.2.2.2.2.1 (by omega) hvd w2
    rw [a0.2.2.2.2.2.2.2.2.2.2] at hnw
    have A2 : Aside (Below B w w2 ∧ B ≤ w2.heap.size) := ⟨A1.out.1.trans (b2.mono A1.out.2.1), by have := b2.size; have := A1.out.2.1; omega⟩
    clear hwh b2 a0
    go_upto_region 5 with (first | (go_at_call 10; refine hrv.mono ?_; rintro e3 w3 ⟨rfl, rfl⟩) | (go_at_call 11; refine hnw.mono ?_; rintro e4 w4 ⟨rfl, b4⟩))
    have a0 := A.out
    have hvl := valid_c b a0.2.2.2.2.2.2.2.2.1 (by omega) w4
    rw [hvd, a0.2.2.2.2.2.2.2.2.2.2] at hvl
    have A4 : Aside (Below B w w4 ∧ B ≤ w4.heap.size) := ⟨A2.out.1.trans (b4.mono A2.out.2), by have := b4.size; have := A2.out.2; omega⟩
    have hawk : ∀ w5 : World, Calls Try.prog 13 #[] w5 fun e w' => e = .returned (.bool true) ∧ Below w5.heap.size w5 w' := fun w5 => awake_c w5
    clear hrv hnw b4 a0 hvd
    go_wp2_with (first | (go_at_call 12; refine hvl.mono ?_; rintro e5 w5 ⟨rfl, b5⟩) | (go_at_call 13; refine (hawk _).mono ?_; rintro e6 w6 ⟨rfl, b6⟩))
    first | go_ret | go_ret2
    have a4 := A4.out
    have b45 := a4.1.trans (b5.mono a4.2)
    exact ⟨rfl, b45.trans (b6.mono (by have := b5.size; omega))⟩
  | true =>
    have hbd := vd_bd hvd a0.2.2.2.2.2.2.2.2.1
    have hblen := vd_len hvd
    obtain ⟨LS, hLS⟩ : ∃ LS, po [] (tot (dd b) s0 x) = LS := ⟨_, rfl⟩
    obtain ⟨T, hT⟩ : ∃ T, tv (dd b) 0 s0 x = T := ⟨_, rfl⟩
    obtain ⟨Cl, hCl⟩ : ∃ Cl, cv (dd b) s0 x = Cl := ⟨_, rfl⟩
    obtain ⟨Yn, hYn⟩ : ∃ Yn : Nat, (if Cl = true then 0 else 33) = Yn := ⟨_, rfl⟩
    have hsnd : T.map Prod.snd = tot (dd b) s0 x := by rw [← hT]; exact tv_snd _ _ _ _
    have hfacts := tot_facts hbd a0.2.2.2.2.2.1 (by have := a0.2.2.1; have := a0.2.1; omega)
    have hY : why true 0 Cl = (Yn : Int) := by rw [← hYn]; cases Cl <;> rfl
    have hLo : ∀ l ∈ LS, Oct l := by rw [← hLS]; exact po_oct [] _ hfacts.1 (by simp)
    have hLl : LS.length ≤ 1000000000 := by
      have h1 := (wt_po [] (tot (dd b) s0 x) hfacts.2.1).1
      have h2 := hfacts.2.2.all
      rw [hLS] at h1
      simp [wt] at h1 h2
      omega
    rw [← hsnd] at hfacts
    obtain ⟨nL, hnL⟩ : ∃ nL, LS.length = nL := ⟨_, rfl⟩
    have hwh := whole_c b a0.2.2.2.2.2.2.2.2.1 hvd va x L vc a0.2.1 (by omega) a0.2.2.2.2.2.1 w1 hlies1
    rw [hLS, hCl, hY, a0.2.2.2.2.2.2.2.2.2.2] at hwh
    have AT : Aside ((∀ g ∈ T.map Prod.snd, g < 258) ∧ Gd false (T.map Prod.snd) ∧ Bn 1000000000 [] (T.map Prod.snd) ∧ po [] (T.map Prod.snd) = LS ∧ (∀ l ∈ LS, Oct l) ∧ LS.length = nL ∧ nL ≤ 1000000000 ∧ Bd (dd b) ∧ b.length ≤ 70 ∧ tv (dd b) 0 s0 x = T ∧ cv (dd b) s0 x = Cl ∧ (if Cl = true then 0 else 33) = Yn) := ⟨hfacts.1, hfacts.2.1, hfacts.2.2, by rw [hsnd]; exact hLS, hLo, hnL, by omega, hbd, hblen.2, hT, hCl, hYn⟩
    clear a0 bel1 how1 hgot hlies1 hob0 hl0 h1c hi hz0 hz1 hz2 hB hbd hblen hLS hT hCl hYn hsnd hfacts hY hLo hLl hnL
    go_upto_region 3 with (go_at_call 9; refine hwh.mono ?_; rintro e2 w2 ⟨a2, n2, c2, rfl, l2, hn2, b2⟩; have hn2A : Aside (n2 = LS.length) := hn2; clear hn2)
    have hn2' : n2 = nL := hn2A.out.trans AT.out.2.2.2.2.2.1
    subst hn2'
    have hn2 := hn2A.out
    have a0 := A.out
    have hrv : Calls Try.prog 10 #[.string sb] w2 fun e w' => e = .returned (.bool true) ∧ w2 = w' := by
      have := rvalid_c b a0.2.2.2.2.2.2.2.2.1 (by omega) w2
      rw [hvd, a0.2.2.2.2.2.2.2.2.2.2] at this
      exact this.mono fun e w' k => ⟨k.1, k.2.symm⟩
    have bel2 : Below B w w2 := A1.out.1.trans (b2.mono A1.out.2.1)
    have hof := of_c w2 a x L C b a0.2.2.2.2.2.2.2.2.1 AT.out.2.2.2.2.2.2.2.2.1 AT.out.2.2.2.2.2.2.2.1 a0.2.2.2.2.2.1 a0.2.1 (by omega) a0.2.2.2.1 a0.2.2.2.2.1 (a0.1.below (by rw [a0.2.2.2.2.2.2.1]; exact bel2))
    rw [AT.out.2.2.2.2.2.2.2.2.2.1, AT.out.2.2.2.2.2.2.2.2.2.2.1, AT.out.2.2.2.2.2.2.2.2.2.2.2, a0.2.2.2.2.2.2.2.2.2.2] at hof
    have A2 : Aside (Below B w w2 ∧ B ≤ w2.heap.size ∧ Rl w2 a2 LS ∧ Lies w2 va x) := ⟨bel2, by have := b2.size; have := A1.out.2.1; omega, l2.rl hn2, A1.out.2.2.below b2⟩
    clear hwh b2 a0 l2 bel2 hn2
    go_upto_region 7 with (first | (go_at_call 10; refine hrv.mono ?_; rintro e3 w3 ⟨rfl, rfl⟩) | (go_at_call 14; refine hof.mono ?_; rintro e4 w4 ⟨v4, o4, rfl, how4, b4⟩; obtain ⟨a4, c4, hv4, hte4, _⟩ := how4.te; obtain ⟨nT, hnT⟩ : ∃ nT, T.length = nT := ⟨_, rfl⟩; rw [hnT] at hv4; subst hv4))
    obtain ⟨F, hF⟩ : ∃ F, w4.heap.size = F := ⟨_, rfl⟩
    obtain ⟨w5, hw5⟩ : ∃ w5, w4.alloc (.cells #[.slice a4 nT c4, .int .i64 (Yn : Int), .bool o4, .bool Cl] 35) = w5 := ⟨_, rfl⟩
    rw [hw5, hF]
    have b5 : Below w4.heap.size w4 w5 := by rw [← hw5]; exact (Below.refl _ w4).alloc (Nat.le_refl _) _
    have kF : Cells w5 F #[.slice a4 nT c4, .int .i64 (Yn : Int), .bool o4, .bool Cl] 35 := by rw [← hw5, ← hF]; exact Cells.new w4 _ 35
    have a2' := A2.out
    have bel4 : Below B w w4 := a2'.1.trans (b4.mono a2'.2.1)
    have hs4 : B ≤ w4.heap.size := by have := b4.size; omega
    have bel5 : Below B w w5 := bel4.trans (b5.mono hs4)
    have hs5 : B ≤ w5.heap.size := by have := b5.size; omega
    have b25 : Below w2.heap.size w2 w5 := b4.trans (b5.mono b4.size)
    have a0 := A.out
    have hvl := valid_c b a0.2.2.2.2.2.2.2.2.1 (by omega) w5
    rw [hvd, a0.2.2.2.2.2.2.2.2.2.2] at hvl
    have hpt : ∀ w6, Below w5.heap.size w5 w6 → Calls Try.prog 16 #[.slice a4 nT c4] w6 fun e w' => ∃ a7 c7, e = .returned (.slice a7 n2 c7) ∧ Rl w' a7 LS ∧ Below w6.heap.size w6 w' := fun w6 b6 => by
      have at' := AT.out
      have := parts_c w6 a4 T nT c4 hnT ((hte4.below b5).below b6) at'.1 at'.2.1 at'.2.2.1
      rw [at'.2.2.2.1] at this
      refine this.mono fun e w' k => ?_
      obtain ⟨a7, n7, c7, he, l7, hn7, b7⟩ := k.ex
      have e7 : n7 = n2 := hn7.trans at'.2.2.2.2.2.1
      rw [e7] at he
      exact ⟨a7, c7, he, l7.rl hn7, b7⟩
    have A5 : Aside ((∀ w6, Below w5.heap.size w5 w6 → Calls Try.prog 16 #[.slice a4 nT c4] w6 fun e w' => ∃ a7 c7, e = .returned (.slice a7 n2 c7) ∧ Rl w' a7 LS ∧ Below w6.heap.size w6 w') ∧ Below B w w5 ∧ B ≤ w5.heap.size ∧ Rl w5 a2 LS ∧ Lies w5 va x ∧ Lies w5 a x ∧ Cells w5 F #[.slice a4 nT c4, .int .i64 (Yn : Int), .bool o4, .bool Cl] 35) := ⟨hpt, bel5, hs5, a2'.2.2.1.below b25, a2'.2.2.2.below b25, a0.1.below (by rw [a0.2.2.2.2.2.2.1]; exact bel5), kF⟩
    have hYY : ((Yn : Int) == (Yn : Int)) = true := by simp
    have ASm : Aside (∀ u : World, Lies u va x → Lies u a x → Calls Try.prog 17 #[.slice va L vc, .slice a L C] u fun e w' => e = .returned (.bool true) ∧ ∃ n, w' = u.drewN n) := fun u h1 h2 => by
      have hd : decide (x = x) = true := decide_eq_true rfl
      have := same_c va a x x L L vc C u A.out.2.1 A.out.2.1 (by have := A.out.2.2.1; omega) h1 h2
      rw [hd] at this
      exact this
    clear hrv hof a0 b4 how4 hte4 b5 hpt bel5 hs5 b25 kF a2' bel4 hs4 hF hw5 hnT hvd
    go_wp2_with (first | (go_at_call 12; refine hvl.mono ?_; rintro e6 w6 ⟨rfl, b6⟩; have k6 := A5.out.2.2.2.2.2.2.below b6 A5.out.2.2.2.2.2.2.lt; have d0 := k6.cell 0; have hp6 := A5.out.1 w6 b6) | (go_at_call 16; refine hp6.mono ?_; rintro e7 w7 ⟨a7, c7, rfl, l7, b7⟩; have b57 := b6.trans (b7.mono b6.size); have hrw7 := rows_c w7 a2 a7 LS n2 c2 c7 AT.out.2.2.2.2.2.1 (by have := AT.out.2.2.2.2.2.2.1; omega) (A5.out.2.2.2.1.below b57) l7 AT.out.2.2.2.2.1) | (go_at_call 15; refine hrw7.mono ?_; rintro e8 w8 ⟨rfl, m8, hm8⟩; have hm9 : Aside (w8 = w7.drewN m8) := hm8; have k8 : Cells w8 F #[.slice a4 nT c4, .int .i64 (Yn : Int), .bool o4, .bool Cl] 35 := (by rw [hm8]; exact (Cells.below (u := w7) A5.out.2.2.2.2.2.2 b57 A5.out.2.2.2.2.2.2.lt).drewN _); have d1 := k8.cell 1; have hsm8 := ASm.out w8 (by rw [hm8]; exact (A5.out.2.2.2.2.1.below b57).drewN _) (by rw [hm8]; exact (A5.out.2.2.2.2.2.1.below b57).drewN _); clear hm8) | (go_at_call 17; refine hsm8.mono ?_; rintro e9 w9 ⟨rfl, m9, hm10⟩; have hm11 : Aside (w9 = w8.drewN m9) := hm10; have hawk := awake_c w9; clear hm10) | (go_at_call 13; refine hawk.mono ?_; rintro e10 w10 ⟨rfl, b10⟩))
    first | go_ret | go_ret2
    have a5 := A5.out
    have e9 : Below w7.heap.size w7 w9 := by rw [hm11.out, hm9.out]; exact Below.drewN2 (Below.drewN2 (Below.refl _ w7) _) _
    have b59 : Below w5.heap.size w5 w9 := b57.trans (e9.mono b57.size)
    exact ⟨rfl, a5.2.1.trans ((b59.trans (b10.mono b59.size)).mono a5.2.2.1)⟩
end Go.Proofs.Ytbndohpcaahenaa

/-
  CrcJoins, behind the opening of its arguments: the call answers true, and what lay in memory is as it was.
  Conditions: the table holds its numbers; each list is at most 1048576 bytes.
-/
import Derived.Test.YtopaekcbopoeaaaDoorApp
import Derived.Test.YtopaekcbopoeaaaDoorJoin
import Derived.Deep.Cut
namespace Go.Proofs.YtopaekcbopoeaaaDoor
open Go.RowKit
set_option linter.unusedVariables false
/-- The table stands, and a list of bytes lies behind each of five slices. -/
structure St (w0 u : World) (a b c d e : Option Addr) (la lb lc ld le : List Nat) : Prop where
  tab : Tab u
  bel : Below w0.heap.size w0 u
  ha : Lies u a la
  hb : Lies u b lb
  hc : Lies u c lc
  hd : Lies u d ld
  he : Lies u e le
theorem St.below {w0 u v : World} {a b c d e : Option Addr} {la lb lc ld le : List Nat} (h : St w0 u a b c d e la lb lc ld le) (k : Below u.heap.size u v) : St w0 v a b c d e la lb lc ld le :=
  ⟨h.tab.below k h.tab.lt, h.bel.trans (k.mono h.bel.size), h.ha.below k, h.hb.below k, h.hc.below k, h.hd.below k, h.he.below k⟩
theorem join_n (a b n : Nat) (ha : a < 4294967296) (hb : b < 4294967296) (w : World) (r : Nat) (hr : mvs (8 * n) a ^^^ b = r) :
    Calls Tryd.prog 12 #[.int .u32 a, .int .u32 b, .int .i64 n] w fun e w' => e = .returned (.int .u32 r) ∧ Below w.heap.size w w' := by
  have := join_c a b ha hb n w
  rw [Int.toNat_natCast, hr] at this
  exact this
set_option maxRecDepth 100000 in
set_option maxHeartbeats 2000000 in
theorem joins_core (w : World) (hT : Tab w) (a b c : Option Addr) (la lb lc : List Nat) (pa pb pc : Nat) (za : a = none → la.length = 0 ∧ pa = 0) (zb : b = none → lb.length = 0 ∧ pb = 0) (zc : c = none → lc.length = 0 ∧ pc = 0)
    (na : la.length ≤ 1048576) (nb : lb.length ≤ 1048576) (nc : lc.length ≤ 1048576) (oa : Oct la) (ob : Oct lb) (oc : Oct lc) (ha : Lies w a la) (hb : Lies w b lb) (hc : Lies w c lc) :
    Calls Tryd.prog 6 #[.slice a la.length pa, .slice b lb.length pb, .slice c lc.length pc] w fun e w' => e = .returned (.bool true) ∧ Below w.heap.size w w' := by
  obtain ⟨A, hA⟩ : ∃ A, la.length = A := ⟨_, rfl⟩
  obtain ⟨B, hB⟩ : ∃ B, lb.length = B := ⟨_, rfl⟩
  obtain ⟨C, hC⟩ : ∃ C, lc.length = C := ⟨_, rfl⟩
  have AL : Aside (la.length = A ∧ lb.length = B ∧ lc.length = C ∧ A ≤ 1048576 ∧ B ≤ 1048576 ∧ C ≤ 1048576) := ⟨hA, hB, hC, by omega, by omega, by omega⟩
  have AZ : Aside ((a = none → A = 0 ∧ pa = 0) ∧ (b = none → B = 0 ∧ pb = 0) ∧ (c = none → C = 0 ∧ pc = 0)) := ⟨by rw [← hA]; exact za, by rw [← hB]; exact zb, by rw [← hC]; exact zc⟩
  have AO : Aside (Oct la ∧ Oct lb ∧ Oct lc) := ⟨oa, ob, oc⟩
  have AI : Aside (Lies w a la ∧ Lies w b lb ∧ Lies w c lc) := ⟨ha, hb, hc⟩
  rw [hA, hB, hC]
  clear hA hB hC za zb zc na nb nc oa ob oc ha hb hc
  have hm1 := Apd.made w w.heap.size (Nat.le_refl _)
  go_enter Tryd.func6, Tryd.ntmps6
  go_upto_region 2 with (first
    | (at_builtin; refine wpList_app w _ rfl (.tmp 11) (.tmp 12) rfl w.heap.size _ [] rfl hm1 a la A pa AL.out.1 rfl AZ.out.1 (AI.out.1.below ((Below.refl w.heap.size w).alloc (Nat.le_refl _) _)) (by have := AL.out; simp; omega) ?_; intro v1 w1 hp1 hb1)
    | (at_builtin; refine wpList_app w _ rfl (.tmp 13) (.tmp 14) rfl w.heap.size _ la rfl hp1 b lb B pb AL.out.2.1 rfl AZ.out.2.1 (AI.out.2.1.below hp1.bel) (by have := AL.out; omega) ?_; intro v2 w2 hp2 hb2))
  obtain ⟨d, pd, rfl, hd, zd⟩ := hp2.shape
  obtain ⟨D, hD⟩ : ∃ D, (la ++ lb).length = D := ⟨_, rfl⟩
  rw [hD] at zd ⊢
  have AD : Aside ((la ++ lb).length = D ∧ (d = none → D = 0 ∧ pd = 0) ∧ D = A + B) := ⟨hD, zd, by rw [← hD, List.length_append, AL.out.1, AL.out.2.1]⟩
  have hw2 : Below w.heap.size w w2 := hp2.bel
  clear hD zd hp2 hp1 hb1 hb2 hm1
  have hm2 := Apd.made w2 w2.heap.size (Nat.le_refl _)
  go_upto_region 3 with (first
    | (at_builtin; refine wpList_app w2 _ rfl (.tmp 16) (.tmp 17) rfl w2.heap.size _ [] rfl hm2 d (la ++ lb) D pd AD.out.1 rfl AD.out.2.1 (hd.below ((Below.refl w2.heap.size w2).alloc (Nat.le_refl _) _)) (by have := AD.out; have := AL.out; simp only [List.length_nil]; omega) ?_; intro v3 w3 hp3 hb3)
    | (at_builtin; refine wpList_app w2 _ rfl (.tmp 18) (.tmp 19) rfl w2.heap.size _ (la ++ lb) rfl hp3 c lc C pc AL.out.2.2.1 rfl AZ.out.2.2 ((AI.out.2.2.below hw2).below hp3.bel) (by have := AD.out; have := AL.out; omega) ?_; intro v4 w4 hp4 hb4))
  obtain ⟨e, pe, rfl, he, _⟩ := hp4.shape
  have hw4 := hp4.bel
  have st : St w w4 a b c d e la lb lc (la ++ lb) (la ++ lb ++ lc) :=
    ⟨(hT.below hw2 hT.lt).below hw4 (hT.below hw2 hT.lt).lt, hw2.trans (hw4.mono hw2.size), (AI.out.1.below hw2).below hw4, (AI.out.2.1.below hw2).below hw4, (AI.out.2.2.below hw2).below hw4, hd.below hw4, he⟩
  obtain ⟨E, hE⟩ : ∃ E, (la ++ lb ++ lc).length = E := ⟨_, rfl⟩
  rw [hE]
  have AE : Aside ((la ++ lb ++ lc).length = E ∧ E = A + B + C) := ⟨hE, by rw [← hE, List.length_append, AD.out.1, AL.out.2.2.1, AD.out.2.2]⟩
  clear hE hp4 hp3 hb3 hb4 hm2 hw4 hw2 hd he hT
  have od : Oct (la ++ lb) := fun x hx => (List.mem_append.1 hx).elim (AO.out.1 x) (AO.out.2.1 x)
  have oe : Oct (la ++ lb ++ lc) := fun x hx => (List.mem_append.1 hx).elim (od x) (AO.out.2.2 x)
  have obc : Oct (lb ++ lc) := fun x hx => (List.mem_append.1 hx).elim (AO.out.2.1 x) (AO.out.2.2 x)
  -- the sums, each by a letter
  obtain ⟨sa, hsa⟩ : ∃ x, sm 0 la = x := ⟨_, rfl⟩
  obtain ⟨sb, hsb⟩ : ∃ x, sm 0 lb = x := ⟨_, rfl⟩
  obtain ⟨sc, hsc⟩ : ∃ x, sm 0 lc = x := ⟨_, rfl⟩
  obtain ⟨sd, hsd⟩ : ∃ x, sm 0 (la ++ lb) = x := ⟨_, rfl⟩
  obtain ⟨se, hse⟩ : ∃ x, sm 0 (la ++ lb ++ lc) = x := ⟨_, rfl⟩
  obtain ⟨sf, hsf⟩ : ∃ x, sm 0 (lb ++ lc) = x := ⟨_, rfl⟩
  have la' := AO.out.1.sm_lt; rw [hsa] at la'
  have lb' := AO.out.2.1.sm_lt; rw [hsb] at lb'
  have lc' := AO.out.2.2.sm_lt; rw [hsc] at lc'
  have ld' := od.sm_lt; rw [hsd] at ld'
  have le' := oe.sm_lt; rw [hse] at le'
  have lf' := obc.sm_lt; rw [hsf] at lf'
  have j1 := sm_join la lb; rw [hsd, hsa, hsb, AL.out.2.1] at j1
  have j2 := sm_join lb lc; rw [hsf, hsb, hsc, AL.out.2.2.1] at j2
  have j3 := sm_join (la ++ lb) lc; rw [hse, hsd, hsc, AL.out.2.2.1] at j3
  have j4 := sm_join la (lb ++ lc); rw [← List.append_assoc, hse, hsa, hsf, List.length_append, AL.out.2.1, AL.out.2.2.1] at j4
  have cA : ∀ u, St w u a b c d e la lb lc (la ++ lb) (la ++ lb ++ lc) → Calls Tryd.prog 8 #[.slice a A pa] u fun x w' => x = .returned (.int .u32 sa) ∧ u = w' := fun u h => by
    have := sum_c a la pa u h.tab AO.out.1 (by have := AL.out; omega) h.ha
    rw [hsa, AL.out.1] at this; exact this
  have cB : ∀ u, St w u a b c d e la lb lc (la ++ lb) (la ++ lb ++ lc) → Calls Tryd.prog 8 #[.slice b B pb] u fun x w' => x = .returned (.int .u32 sb) ∧ u = w' := fun u h => by
    have := sum_c b lb pb u h.tab AO.out.2.1 (by have := AL.out; omega) h.hb
    rw [hsb, AL.out.2.1] at this; exact this
  have cC : ∀ u, St w u a b c d e la lb lc (la ++ lb) (la ++ lb ++ lc) → Calls Tryd.prog 8 #[.slice c C pc] u fun x w' => x = .returned (.int .u32 sc) ∧ u = w' := fun u h => by
    have := sum_c c lc pc u h.tab AO.out.2.2 (by have := AL.out; omega) h.hc
    rw [hsc, AL.out.2.2.1] at this; exact this
  have cD : ∀ u, St w u a b c d e la lb lc (la ++ lb) (la ++ lb ++ lc) → Calls Tryd.prog 8 #[.slice d D pd] u fun x w' => x = .returned (.int .u32 sd) ∧ u = w' := fun u h => by
    have := sum_c d (la ++ lb) pd u h.tab od (by have := AL.out; have := AD.out; omega) h.hd
    rw [hsd, AD.out.1] at this; exact this
  have cE : ∀ u, St w u a b c d e la lb lc (la ++ lb) (la ++ lb ++ lc) → Calls Tryd.prog 8 #[.slice e E pe] u fun x w' => x = .returned (.int .u32 se) ∧ u = w' := fun u h => by
    have := sum_c e (la ++ lb ++ lc) pe u h.tab oe (by have := AL.out; have := AE.out; omega) h.he
    rw [hse, AE.out.1] at this; exact this
  have cJ1 := fun u => join_n sa sb B la' lb' u sd j1.symm
  have cJ2 := fun u => join_n sb sc C lb' lc' u sf j2.symm
  have cJ3 := fun u => join_n sd sc C ld' lc' u se j3.symm
  have cJ4 : ∀ u, Calls Tryd.prog 12 #[.int .u32 sa, .int .u32 sf, .int .i64 ((B : Int) + (C : Int))] u fun x w' => x = .returned (.int .u32 se) ∧ Below u.heap.size u w' := fun u => by
    have := join_n sa sf (B + C) la' lf' u se j4.symm
    push_cast at this; exact this
  have hBC : (B : Int) + (C : Int) < 9223372036854775808 := by have := AL.out; omega
  have ed : ((sd : Int) == sd) = true := by simp
  have ee : ((se : Int) == se) = true := by simp
  clear j1 j2 j3 j4 hsa hsb hsc hsd hse hsf od oe obc la' lb' lc' ld' le' lf'
  go_wp2_with fail
  refine (cA _ st).mono ?_
  rintro x u ⟨rfl, rfl⟩
  go_wp2_with fail
  refine (cB _ st).mono ?_
  rintro x u ⟨rfl, rfl⟩
  go_wp2_with fail
  refine (cJ1 _).mono ?_
  rintro x w5 ⟨rfl, b5⟩
  have st5 := st.below b5
  go_wp2_with fail
  refine (cB _ st5).mono ?_
  rintro x u ⟨rfl, rfl⟩
  go_wp2_with fail
  refine (cC _ st5).mono ?_
  rintro x u ⟨rfl, rfl⟩
  go_wp2_with fail
  refine (cJ2 _).mono ?_
  rintro x w6 ⟨rfl, b6⟩
  have st6 := st5.below b6
  go_wp2_with fail
  refine (cD _ st6).mono ?_
  rintro x u ⟨rfl, rfl⟩
  go_wp2_with fail
  refine (cC _ st6).mono ?_
  rintro x u ⟨rfl, rfl⟩
  go_wp2_with fail
  refine (cJ3 _).mono ?_
  rintro x w7 ⟨rfl, b7⟩
  have st7 := st6.below b7
  go_wp2_with fail
  refine (cE _ st7).mono ?_
  rintro x u ⟨rfl, rfl⟩
  go_wp2_with fail
  refine (cA _ st7).mono ?_
  rintro x u ⟨rfl, rfl⟩
  go_wp2_with fail
  refine (cJ4 _).mono ?_
  rintro x w8 ⟨rfl, b8⟩
  have st8 := st7.below b8
  go_wp2_with fail
  refine (cE _ st8).mono ?_
  rintro x u ⟨rfl, rfl⟩
  have b9 := (Below.refl w8.heap.size w8).alloc (Nat.le_refl _) (.cells #[.int .u8 0] 5)
  have c0 : Calls Tryd.prog 8 #[.slice (some ⟨w8.heap.size, 0, none⟩) 1 1] (w8.alloc (.cells #[.int .u8 0] 5)) fun e w' => e = .returned (.int .u32 3523407757) ∧ w8.alloc (.cells #[.int .u8 0] 5) = w' := by
    have := sum_c (some ⟨w8.heap.size, 0, none⟩) [0] 1 _ (st8.below b9).tab (by intro x hx; simp at hx; omega) (by decide) (lies_new w8 0)
    rw [sum_nought] at this
    exact this
  go_wp2_with fail
  refine c0.mono ?_
  rintro x u ⟨rfl, rfl⟩
  go_wp2_with fail
  go_ret
  exact ⟨rfl, (st8.below b9).bel⟩
end Go.Proofs.YtopaekcbopoeaaaDoor

/-
  TarBack's walk.
-/
import Derived.Test.YtcmmjbkgoafbnaaDoorMn
namespace Go.Proofs.YtcmmjbkgoafbnaaDoor
open Go.RowKit
set_option linter.unusedVariables false
set_option maxHeartbeats 4000000 in
theorem back_core (w : World) (he : Er w) (a : Option Addr) (l : List Ent) (N C : Nat) (h : Ea w a l N) : Calls Tryd.prog 5 #[.slice a N C] w fun e w' => e = .returned (.bool true) ∧ Below w.heap.size w w' := by
  have hs := h.small (Below.refl _ w) C
  obtain ⟨lo, hlo⟩ : ∃ lo, w.heap.size = lo := ⟨_, rfl⟩
  have h3 := he.1
  have AW : Aside (∀ u, Below lo w u → Calls Tryd.prog 16 #[] u fun e w' => e = .returned (.bool true) ∧ Below u.heap.size u w') := fun u hu => by
    rw [← hlo] at hu
    exact awake_c u (he.below hu (by omega))
  have A : Aside (Ea w a l N ∧ Er w ∧ w.heap.size = lo ∧ 3 ≤ lo) := ⟨h, he, hlo, by omega⟩
  rw [hlo]
  clear h he hlo h3
  go_enter Tryd.func5, Tryd.ntmps5
  go_upto_if 10 with (go_at_call 17; refine hs.mono ?_; rintro e1 w1 ⟨⟨b, rfl, hb⟩, rfl⟩)
  clear hs
  cases b with
  | false =>
    have ha := AW.out w (Below.refl _ _)
    clear hb
    go_wp2_with (go_at_call 16; refine ha.mono ?_; rintro e2 w2 ⟨rfl, b2⟩)
    first | go_ret | go_ret2
    rw [A.out.2.2.1] at b2
    exact ⟨rfl, b2⟩
  | true =>
    have AS : Aside (N * 500 + sdt l < 20000) := hb rfl
    have hwr := A.out.1.write (Below.refl _ w) AS.out C
    clear hb
    go_upto_region 4 with (first
      | (go_at_call 19; refine hwr.mono ?_; intro e3 w3 h3; obtain ⟨a3, n3, c3, he3, hl3, hb3, hc3, li3, ow3, b3⟩ := h3.ex; subst he3; obtain ⟨sx, Tx, hrx, hzx, hpx⟩ := back_run (A.out.1.eok AS.out); have hwh := whole_l (b := []) (C := c3) (A.out.2.1.below b3 (by have := A.out.2.2.1; have := A.out.2.2.2; omega)) li3 hl3 (by omega) (wri_oct (A.out.1.eok AS.out)) hrx (Or.inr hl3) hpx hzx)
      | (go_at_call 18; refine hwh.mono ?_; intro e4 w4 h4; obtain ⟨an, nn, cn, al, nl, cl, he4, hn4, hm4, nl4, rl4, b4⟩ := h4.ex; subst he4))
    have b04 : Below w.heap.size w w4 := b3.trans (b4.mono b3.size)
    have htd := A.out.1.told b04 AS.out C
    have A4 : Aside (Below w.heap.size w w4 ∧ (tdn l).length = nn ∧ (tdd l).length = nl ∧ Nl w4 an (tdn l) ∧ Rl w4 al (tdd l)) := ⟨b04, hn4, hm4, nl4, rl4⟩
    clear hwr hwh h3 hl3 hb3 hc3 li3 ow3 b3 hrx hzx hpx h4 hn4 hm4 nl4 rl4 b4 b04
    go_upto_region 5 with (first
      | (go_at_call 20; refine htd.mono ?_; intro e5 w5 h5; obtain ⟨bn, mm, dn, bl_, dl, he5, hn5, hm5, nl5, rl5, b5⟩ := h5.ex; subst he5))
    have a4 := A4.out
    obtain rfl : nn = mm := by omega
    obtain rfl : nl = nn := by omega
    have hst := strings_c w5 an bn (tdn l) nl cn dn hn5 (by have := tdn_few A.out.1 AS.out; omega) (a4.2.2.2.1.below b5) nl5
    have hrw := fun m => rows_c (w5.drewN m) al bl_ (tdd l) nl cl dl hm5 (by have := tdn_few A.out.1 AS.out; omega) ((a4.2.2.2.2.below b5).drewN m) (rl5.drewN m) (tdd_oct A.out.1)
    have A5 : Aside (Below lo w w5 ∧ lo ≤ w5.heap.size) := ⟨by rw [← A.out.2.2.1]; exact a4.1.trans (b5.mono a4.1.size), by have := b5.size; have := a4.1.size; have := A.out.2.2.1; omega⟩
    have AR : Aside _ := hrw
    clear hrw htd h5 hn5 hm5 nl5 rl5 b5 a4
    go_wp2_with (first
      | (go_at_call 21; refine hst.mono ?_; rintro e6 w6 ⟨rfl, m6, hm6⟩; have hr6 := AR.out m6; rw [← hm6] at hr6; have bl6 : Below lo w w6 := (by rw [hm6]; exact Below.drewN2 A5.out.1 _); clear hm6)
      | (go_at_call 22; refine hr6.mono ?_; rintro e7 w7 ⟨rfl, m7, hm7⟩; have bl7 : Below lo w w7 := (by rw [hm7]; exact Below.drewN2 bl6 _); clear hm7; have ha := AW.out w7 bl7; have hs7 : lo ≤ w7.heap.size := (by have := bl7.size; have := A.out.2.2.1; omega))
      | (go_at_call 16; refine ha.mono ?_; rintro e8 w8 ⟨rfl, b8⟩))
    first | go_ret | go_ret2
    exact ⟨rfl, bl7.trans (b8.mono hs7)⟩
end Go.Proofs.YtcmmjbkgoafbnaaDoor

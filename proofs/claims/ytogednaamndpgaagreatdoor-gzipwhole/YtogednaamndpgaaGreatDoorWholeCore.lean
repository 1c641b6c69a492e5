/-
  GzipWhole's walk.
-/
import Derived.Test.YtogednaamndpgaaGreatDoorMzb
import Derived.Test.YtogednaamndpgaaGreatDoorMj
namespace Go.Proofs.YtogednaamndpgaaGreatDoor
open Go.RowKit
set_option linter.unusedVariables false
theorem Ow.made {w : World} {lo : Nat} (h : lo ≤ w.heap.size) : Ow (w.alloc (.cells #[] 5)) lo 5 1 (.slice (some ⟨w.heap.size, 0, none⟩) 0 0) 0 (ob []) :=
  ⟨World.ownsRow_made (base := lo) (e := 5) (size := 1) w #[] 0 h (by decide) rfl, by show _ ≤ (w.heap.push _).size; simp; omega⟩
theorem lies_ob {w : World} {a : Option Addr} {l : List Nat} (h : Lies w a l) : ob l = [] ∨ ∃ b o, a = some ⟨b, o, none⟩ ∧ ∀ i u, (ob l)[i]? = some u → w.cell? ⟨b, o + i, none⟩ = some u := by
  rcases h with rfl | ⟨b, o, ha, hc⟩
  · exact Or.inl rfl
  · refine Or.inr ⟨b, o, ha, fun i u hu => ?_⟩
    rw [ob_get] at hu
    cases hx : l[i]? with
    | none => rw [hx] at hu; simp at hu
    | some x => rw [hx] at hu; simp at hu; rw [← hu]; exact hc i x hx
set_option maxRecDepth 20000 in
set_option maxHeartbeats 4000000 in
theorem whole_core (w : World) (ht : Tabs w) (hct : Ctab w) (h8 : 8 ≤ w.heap.size) (a : Option Addr) (x : List Nat) (L C : Nat) (n : Int) (hx : Lies w a x) (hL : x.length = L) (hLb : L ≤ 40000000000) (hC : L ≤ C) (hox : Oct x) (haz : a = none → L = 0 ∧ C = 0) :
    Calls Tryz.prog 3 #[.slice a L C, .int .i64 n] w fun e w' => e = .returned (.bool true) ∧ Below w.heap.size w w' := by
  obtain ⟨B, hB⟩ : ∃ B, w.heap.size = B := ⟨_, rfl⟩
  rw [hB]
  obtain ⟨m, hm⟩ : ∃ m : Int, (if (262144 : Int) < n then 262144 else n) = m := ⟨_, rfl⟩
  have hmb : m ≤ 262144 := by rw [← hm]; split <;> omega
  obtain ⟨M, hM⟩ : ∃ M, m.toNat = M := ⟨_, rfl⟩
  have hob0 : Ow (w.alloc (.cells #[] 5)) B 5 1 (.slice (some ⟨w.heap.size, 0, none⟩) 0 0) 0 (ob []) := Ow.made (by omega)
  have b0 : Below w.heap.size w (w.alloc (.cells #[] 5)) := (Below.refl _ w).alloc (Nat.le_refl _) _
  have hl0 := lies_ob (hx.below b0)
  rw [hB] at hob0 b0
  obtain ⟨i0, hi, hz0, hz1, hz2⟩ := ginfo_parts ginfo5
  obtain ⟨k, s, T, hr, hk⟩ : ∃ k s T, Rch x k s T ∧ (s.why ≠ 0 ∨ k = x.length) := by
    obtain ⟨k, s, T, h1, h2⟩ := rch_on (b := x) _ 0 s0 [] rfl (rch_zero x)
    exact ⟨k, s, _, h1, h2⟩
  obtain ⟨R0, hR0⟩ : ∃ R0, rs M (zfin s) [] (cds T) = R0 := ⟨_, rfl⟩
  obtain ⟨LS, Y⟩ := R0
  have A : Aside (Lies w a x ∧ x.length = L ∧ L ≤ 40000000000 ∧ L ≤ C ∧ Oct x ∧ w.heap.size = B ∧ Below B w (w.alloc (.cells #[] 5)) ∧ Tabs w ∧ Ctab w ∧ 8 ≤ B ∧ (a = none → L = 0 ∧ C = 0)) := ⟨hx, hL, hLb, hC, hox, hB, b0, ht, hct, by omega, haz⟩
  have AM : Aside (m.toNat = M ∧ M ≤ 262144 ∧ Rch x k s T ∧ (s.why ≠ 0 ∨ k = x.length) ∧ rs M (zfin s) [] (cds T) = (LS, Y)) := ⟨hM, by omega, hr, hk, hR0⟩
  have AZ : Aside ((a = none → L = 0 ∧ C = 0) ∧ (ob x).length = L * 1 ∧ 0 + L ≤ maxLen ∧ (0 + L) * 1 ≤ 140737488355328) := ⟨haz, by rw [ob_length]; omega, by unfold maxLen; omega, by omega⟩
  have h1c : ∀ u ∈ ob x, u.oneCell' = true := ob_one
  clear hx hLb haz b0 hL hC hox ht hct h8 hmb hM hr hk hR0
  go_enter Tryz.func3, Tryz.ntmps3
  go_upto_region 3 with (at_builtin; refine wpList_ow Tryz.prog _ rfl (.tmp 11) (.tmp 12) 22 rfl 5 i0 _ 1 1 Tryz.underlying22 hi hz0 hz1 hz2 rfl (by decide) B (.slice (some ⟨B, 0, none⟩) 0 0) 0 _ (by rfl) hob0 a (ob x) L C AZ.out.2.1 (by rfl) AZ.out.1 hl0 h1c AZ.out.2.2.1 AZ.out.2.2.2 ?_; intro v1 w1 hgot)
  have a0 := A.out
  have am := AM.out
  have bel1 : Below B w w1 := a0.2.2.2.2.2.2.1.trans hgot.bel
  have how1 := hgot.ow
  rw [ob_append, List.nil_append, Nat.zero_add] at how1
  have hs1 := how1.le
  rw [← a0.2.1] at how1
  obtain ⟨va, vc, hv, hvc, hlies1, _⟩ := ow_lies how1
  rw [a0.2.1] at hv
  subst hv
  have hwh := wwhole_c w1 (a0.2.2.2.2.2.2.2.1.below bel1 a0.2.2.2.2.2.2.2.2.2.1) (a0.2.2.2.2.2.2.2.2.1.below bel1 (by omega)) (by omega) va x L vc m M am.1 (by omega) hlies1 a0.2.1 (by omega) a0.2.2.2.2.1 k s T am.2.2.1 (by rw [← a0.2.1]; exact am.2.2.2.1) (LS, Y) am.2.2.2.2
  have A1 : Aside (Below B w w1 ∧ B ≤ w1.heap.size ∧ Lies w1 va x) := ⟨bel1, hs1, hlies1⟩
  clear a0 am bel1 how1 hgot hlies1 hob0 hl0 h1c hi hz0 hz1 hz2 hB hs1 hvc
  (try rw [hm])
  go_upto_region 4 with (go_at_call 8; refine hwh.mono ?_; rintro e2 w2 ⟨v2, lo2, rfl, hlo2, l2, b2⟩; obtain ⟨a2, c2, hv2, _⟩ := l2.shape; obtain ⟨nL, hnL⟩ : ∃ nL, LS.length = nL := ⟨_, rfl⟩; have hv2' : v2 = .slice a2 nL c2 := (by rw [← hnL]; exact hv2); subst hv2'; clear hv2)
  have a0 := A.out
  have a1 := A1.out
  have am := AM.out
  have bel2 : Below B w w2 := a1.1.trans (b2.mono a1.2.1)
  have hof := gof_c w2 m am.1 (by omega) a0.2.2.2.2.1 a0.2.1 a0.2.2.1 a0.2.2.2.1 a0.2.2.2.2.2.2.2.2.2.2 (a0.1.below (by rw [a0.2.2.2.2.2.1]; exact bel2))
  have A2 : Aside (Below B w w2 ∧ B ≤ w2.heap.size ∧ Rl w2 a2 LS ∧ Lies w2 va x ∧ LS.length = nL) := ⟨bel2, by have := b2.size; omega, l2.rl hnL.symm, a1.2.2.below b2, hnL⟩
  clear hwh b2 l2 bel2 hnL a0 a1 am hlo2
  go_upto_region 5 with (go_at_call 9; refine hof.mono ?_; intro e4 w4 hr4; obtain ⟨r, v4, he4, hfo, how4, b4⟩ := hr4.ex; subst he4; obtain ⟨a4, c4, hv4, hte4, _⟩ := te_of ⟨how4, b4.size⟩; obtain ⟨nT, hnT⟩ : ∃ nT, r.ev.length = nT := ⟨_, rfl⟩; rw [hnT] at hv4; subst hv4)
  obtain ⟨F, hF⟩ : ∃ F, w4.heap.size = F := ⟨_, rfl⟩
  obtain ⟨y, hy⟩ : ∃ y, r.why = y := ⟨_, rfl⟩
  rw [hy, hF]
  obtain ⟨w5, hw5⟩ : ∃ w5, w4.alloc (.cells #[.slice a4 nT c4, .int .i64 (y : Int), .int .i64 (r.sat : Int), .slice a L C, .int .i64 (r.pos : Int), .int .i64 (r.left : Int)] 29) = w5 := ⟨_, rfl⟩
  rw [hw5]
  have b5 : Below w4.heap.size w4 w5 := by rw [← hw5]; exact (Below.refl _ w4).alloc (Nat.le_refl _) _
  have kF : Cells w5 F #[.slice a4 nT c4, .int .i64 (y : Int), .int .i64 (r.sat : Int), .slice a L C, .int .i64 (r.pos : Int), .int .i64 (r.left : Int)] 29 := by rw [← hw5, ← hF]; exact Cells.new w4 _ 29
  have a0 := A.out
  have a2' := A2.out
  have am := AM.out
  have bel4 : Below B w w4 := a2'.1.trans (b4.mono a2'.2.1)
  have hs4 : B ≤ w4.heap.size := by have := b4.size; omega
  have bel5 : Below B w w5 := bel4.trans (b5.mono hs4)
  have hs5 : B ≤ w5.heap.size := by have := b5.size; omega
  have b25 : Below w2.heap.size w2 w5 := b4.trans (b5.mono b4.size)
  have hff := hfo.facts a0.2.2.2.2.1
  obtain ⟨k', s', T', q1, q2, q3⟩ := hfo.whole
  obtain ⟨rfl, rfl, rfl⟩ := fin_one am.2.2.1 am.2.2.2.1 q1 q2
  rw [am.2.2.2.2] at q3
  injection q3 with q3 q4
  have hYy : y = Y := by rw [← hy]; exact q4.symm
  have hnTb : nT ≤ 100000000000 := by have := hff.len; omega
  have hLo : ∀ l ∈ LS, Oct l := by rw [q3]; exact po_oct [] _ hff.lt (by simp)
  have hLl : nL ≤ 100000000000 := by
    have := po_len [] (cds r.ev)
    rw [← q3] at this
    simp [cds] at this
    omega
  have hpt : Calls Tryz.prog 11 #[.slice a4 nT c4] w5 fun e w' => ∃ a7 c7, e = .returned (.slice a7 nL c7) ∧ Rl w' a7 LS ∧ Below w5.heap.size w5 w' := by
    have := parts_c w5 a4 r.ev nT c4 hnT (hte4.below b5) hff.lt hff.gd ⟨by simp [cds]; omega, by simp⟩
    rw [← q3] at this
    refine this.mono fun e w' k => ?_
    obtain ⟨a7, n7, c7, he, l7, hn7, b7⟩ := k.ex
    have e7 : n7 = nL := hn7.trans a2'.2.2.2.2
    rw [e7] at he
    exact ⟨a7, c7, he, l7.rl hn7, b7⟩
  subst hYy
  have A5 : Aside (Below B w w5 ∧ B ≤ w5.heap.size ∧ Rl w5 a2 LS ∧ Lies w5 va x ∧ Lies w5 a x ∧ Cells w5 F #[.slice a4 nT c4, .int .i64 (y : Int), .int .i64 (r.sat : Int), .slice a L C, .int .i64 (r.pos : Int), .int .i64 (r.left : Int)] 29 ∧ (∀ l ∈ LS, Oct l) ∧ nL ≤ 100000000000 ∧ LS.length = nL) := ⟨bel5, hs5, a2'.2.2.1.below b25, a2'.2.2.2.1.below b25, a0.1.below (by rw [a0.2.2.2.2.2.1]; exact bel5), kF, hLo, hLl, a2'.2.2.2.2⟩
  have hYY : ((y : Int) == (y : Int)) = true := by simp
  have ASm : Aside (∀ u : World, Lies u va x → Lies u a x → Calls Tryz.prog 12 #[.slice va L vc, .slice a L C] u fun e w' => e = .returned (.bool true) ∧ ∃ n, w' = u.drewN n) := fun u h1 h2 => by
    have hd : decide (x = x) = true := decide_eq_true rfl
    have := same_c va a x x L L vc C u A.out.2.1 A.out.2.1 (by have := A.out.2.2.1; omega) h1 h2
    rw [hd] at this
    exact this
  have d0 : w5.cell? ⟨F, 0, none⟩ = some (.slice a4 nT c4) := (kF.cell 0).trans rfl
  clear hof a0 b4 how4 hte4 b5 bel5 hs5 b25 kF a2' bel4 hs4 hF hw5 hnT am hff q1 q2 q3 q4 hnTb hLo hLl hfo hr4 hy
  go_wp2_with (first | (go_at_call 11; refine hpt.mono ?_; rintro e7 w7 ⟨a7, c7, rfl, l7, b7⟩; have hrw7 := rows_c w7 a2 a7 LS nL c2 c7 A5.out.2.2.2.2.2.2.2.2 (by have := A5.out.2.2.2.2.2.2.2.1; omega) (A5.out.2.2.1.below b7) l7 A5.out.2.2.2.2.2.2.1) | (go_at_call 10; refine hrw7.mono ?_; rintro e8 w8 ⟨rfl, m8, hm8⟩; have hm9 : Aside (w8 = w7.drewN m8) := hm8; have k8 := (by rw [hm8]; exact (Cells.below (u := w7) A5.out.2.2.2.2.2.1 b7 A5.out.2.2.2.2.2.1.lt).drewN _ : Cells w8 F #[.slice a4 nT c4, .int .i64 (y : Int), .int .i64 (r.sat : Int), .slice a L C, .int .i64 (r.pos : Int), .int .i64 (r.left : Int)] 29); have d1 : w8.cell? ⟨F, 1, none⟩ = some (.int .i64 (y : Int)) := (k8.cell 1).trans rfl; have hsm8 := ASm.out w8 (by rw [hm8]; exact (A5.out.2.2.2.1.below b7).drewN _) (by rw [hm8]; exact (A5.out.2.2.2.2.1.below b7).drewN _); clear hm8) | (go_at_call 12; refine hsm8.mono ?_; rintro e9 w9 ⟨rfl, m9, hm10⟩; have hm11 : Aside (w9 = w8.drewN m9) := hm10; have e9b : Below B w w9 := (by rw [hm10, hm9.out]; exact Below.drewN2 (Below.drewN2 (A5.out.1.trans (b7.mono A5.out.2.1)) _) _); have hawk := wawake_c w9 (A.out.2.2.2.2.2.2.2.1.below e9b A.out.2.2.2.2.2.2.2.2.2.1) (A.out.2.2.2.2.2.2.2.2.1.below e9b (by have := A.out.2.2.2.2.2.2.2.2.2.1; omega)) (by have := e9b.size; have := A.out.2.2.2.2.2.2.2.2.2.1; have := A.out.2.2.2.2.2.1; omega); have AE : Aside (Below B w w9) := e9b; clear hm10 e9b) | (go_at_call 13; refine hawk.mono ?_; rintro e10 w10 ⟨rfl, b10⟩))
  first | go_ret | go_ret2
  exact ⟨rfl, AE.out.trans (b10.mono (by have := AE.out.size; have := A.out.2.2.2.2.2.1; omega))⟩
end Go.Proofs.YtogednaamndpgaaGreatDoor

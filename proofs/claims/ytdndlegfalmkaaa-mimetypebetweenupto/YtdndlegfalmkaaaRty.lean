/-
  The document's Type.
-/
import Derived.Test.YtdndlegfalmkaaaRpm
namespace Go.Proofs.Ytdndlegfalmkaaa
open Go.RowKit
set_option linter.unusedVariables false
/-- What Type answers: the type, its list in new memory; or none. -/
def RtTo (H : Nat) (R : Option Ty) (e : Ending) (w' : World) : Prop := (∃ t va n c, R = some t ∧ e = .returned (.tuple #[.agg #[.string (st t.1), .string (st t.2.1), .slice va n c], .bool true]) ∧ Ow w' H 29 2 (.slice va n c) n (fc t.2.2)) ∨ (R = none ∧ e = .returned (.tuple #[.agg #[.string ⟨#[]⟩, .string ⟨#[]⟩, .slice none 0 0], .bool false]))
theorem set3 {w : World} {H : Nat} {a b c x y z : Value} (h : Cells w H #[a, b, c] 24) : Cells (((w.setCell ⟨H, 0, none⟩ x).setCell ⟨H, 1, none⟩ y).setCell ⟨H, 2, none⟩ z) H #[x, y, z] 24 := ((h.set 0 x).set 1 y).set 2 z
theorem bel3 {w u : World} {H : Nat} {x y z : Value} (h : Below H w u) : Below H w (((u.setCell ⟨H, 0, none⟩ x).setCell ⟨H, 1, none⟩ y).setCell ⟨H, 2, none⟩ z) := ((h.setCell (p := ⟨H, 0, none⟩) (Nat.le_refl _) _).setCell (p := ⟨H, 1, none⟩) (Nat.le_refl _) _).setCell (p := ⟨H, 2, none⟩) (Nat.le_refl _) _
set_option maxHeartbeats 4000000 in
theorem rty_c (l : List Nat) (ho : Oct l) (hl : l.length ≤ 1099511627776) (w : World) : Calls Try.prog 10 #[.string (st l)] w fun e w' => RtTo w.heap.size (ty l) e w' ∧ Below w.heap.size w w' := by
  obtain ⟨H, hH⟩ : ∃ H, w.heap.size = H := ⟨_, rfl⟩
  obtain ⟨w1, hw1⟩ : ∃ w1, w1 = w.alloc (.cells #[.string ⟨#[]⟩, .string ⟨#[]⟩, .slice none 0 0] 24) := ⟨_, rfl⟩
  have b1 : Below H w w1 := by rw [hw1, ← hH]; exact (Below.refl _ w).alloc (Nat.le_refl _) _
  have k1 : Cells w1 H #[.string ⟨#[]⟩, .string ⟨#[]⟩, .slice none 0 0] 24 := by rw [hw1, ← hH]; exact Cells.new w _ 24
  have hbt := rbt_c l ho (by omega) w1
  obtain ⟨R, hR⟩ : ∃ R, ty l = R := ⟨_, rfl⟩
  obtain ⟨s, hs⟩ : ∃ s, s = st l := ⟨_, rfl⟩
  rw [hR, ← hs, hH]
  rw [← hs] at hbt
  unfold ty at hR
  have z0 : w1.cell? ⟨H, 0, none⟩ = some (.string ⟨#[]⟩) := by rw [k1.cell]; rfl
  have z1 : w1.cell? ⟨H, 1, none⟩ = some (.string ⟨#[]⟩) := by rw [k1.cell]; rfl
  have z2 : w1.cell? ⟨H, 2, none⟩ = some (.slice none 0 0) := by rw [k1.cell]; rfl
  have f0 := k1.frozen 0
  have f1 := k1.frozen 1
  have f2 := k1.frozen 2
  have A : Aside (Below H w w1 ∧ Cells w1 H #[.string ⟨#[]⟩, .string ⟨#[]⟩, .slice none 0 0] 24 ∧ w.heap.size = H ∧ H ≤ w1.heap.size) := ⟨b1, k1, hH, Nat.le_of_lt k1.lt⟩
  clear hs b1 k1 hH
  cases h0 : bt 0 l with
  | none =>
    rw [h0] at hR hbt
    have A2 : Aside (R = none) := hR.symm
    replace hbt : Calls Try.prog 29 #[.string s] w1 fun e w' => (∃ u, e = .returned (.tuple #[.string u, .bool false])) ∧ w' = w1 := hbt.mono fun e w' h => ⟨h.1.no, h.2⟩
    clear h0 hR ho hl
    go_enter Try.func10, Try.ntmps10
    go_upto_region 1 with fail
    (try simp only [A.out.2.2.1])
    rw [← hw1]
    clear hw1
    go_wp2_with (first
      | (go_at_call 29; (with_reducible refine hbt.mono ?_); rintro e1 w2 ⟨⟨u, rfl⟩, hw2⟩; have hw2' := hw2.symm; subst hw2'))
    have k2 := set3 (x := .string ⟨#[]⟩) (y := .string ⟨#[]⟩) (z := .slice none 0 0) A.out.2.1
    have bl2 := bel3 (x := .string ⟨#[]⟩) (y := .string ⟨#[]⟩) (z := .slice none 0 0) A.out.1
    (try simp only [Exit.inBlock, Exit.then])
    generalize ((w1.setCell ⟨H, 0, none⟩ (.string ⟨#[]⟩)).setCell ⟨H, 1, none⟩ (.string ⟨#[]⟩)).setCell ⟨H, 2, none⟩ (.slice none 0 0) = wz at k2 bl2 ⊢
    have y0 : wz.cell? ⟨H, 0, none⟩ = some (.string ⟨#[]⟩) := by rw [k2.cell]; rfl
    have y1 : wz.cell? ⟨H, 1, none⟩ = some (.string ⟨#[]⟩) := by rw [k2.cell]; rfl
    have y2 : wz.cell? ⟨H, 2, none⟩ = some (.slice none 0 0) := by rw [k2.cell]; rfl
    refine bodyPost_ret (v := .tuple #[.agg #[.string ⟨#[]⟩, .string ⟨#[]⟩, .slice none 0 0], .bool false]) ?_ rfl ?_
    · simp [results, Try.results10, go_sem, y0, y1, y2]
    · exact ⟨Or.inr ⟨A2.out, rfl⟩, bl2⟩
  | some r0 =>
    rw [h0] at hR hbt
    simp only [Option.bind_some] at hR
    have o0 := ho.suf (bt_suf h0)
    have l0 := bt_le h0
    obtain ⟨S0, hS0⟩ : ∃ S0, st r0 = S0 := ⟨_, rfl⟩
    replace hbt : Calls Try.prog 29 #[.string s] w1 fun e w' => e = .returned (.tuple #[.string S0, .bool true]) ∧ w' = w1 := hbt.mono fun e w' h => ⟨by rw [← hS0]; exact h.1.ok, h.2⟩
    have htk := rtk_c r0 o0 (by omega) w1
    rw [hS0] at htk
    clear h0
    cases h1 : tkn r0 with
    | none =>
      rw [h1] at hR htk
      have A2 : Aside (R = none) := hR.symm
      replace htk : Calls Try.prog 30 #[.string S0] w1 fun e w' => (∃ a b, e = .returned (.tuple #[.string a, .string b, .bool false])) ∧ w' = w1 := htk.mono fun e w' h => ⟨h.1.no, h.2⟩
      clear h1 hR ho hl o0 l0 hS0
      go_enter Try.func10, Try.ntmps10
      go_upto_region 1 with fail
      (try simp only [A.out.2.2.1])
      rw [← hw1]
      clear hw1
      go_wp2_with (first
        | (go_at_call 29; (with_reducible refine hbt.mono ?_); rintro e1 w2 ⟨rfl, hw2⟩; have hw2' := hw2.symm; subst hw2')
        | (go_at_call 30; (with_reducible refine htk.mono ?_); rintro e2 w3 ⟨⟨a, b, rfl⟩, hw3⟩; have hw3' := hw3.symm; subst hw3'))
      have k2 := set3 (x := .string ⟨#[]⟩) (y := .string ⟨#[]⟩) (z := .slice none 0 0) A.out.2.1
      have bl2 := bel3 (x := .string ⟨#[]⟩) (y := .string ⟨#[]⟩) (z := .slice none 0 0) A.out.1
      (try simp only [Exit.inBlock, Exit.then])
      generalize ((w1.setCell ⟨H, 0, none⟩ (.string ⟨#[]⟩)).setCell ⟨H, 1, none⟩ (.string ⟨#[]⟩)).setCell ⟨H, 2, none⟩ (.slice none 0 0) = wz at k2 bl2 ⊢
      have y0 : wz.cell? ⟨H, 0, none⟩ = some (.string ⟨#[]⟩) := by rw [k2.cell]; rfl
      have y1 : wz.cell? ⟨H, 1, none⟩ = some (.string ⟨#[]⟩) := by rw [k2.cell]; rfl
      have y2 : wz.cell? ⟨H, 2, none⟩ = some (.slice none 0 0) := by rw [k2.cell]; rfl
      refine bodyPost_ret (v := .tuple #[.agg #[.string ⟨#[]⟩, .string ⟨#[]⟩, .slice none 0 0], .bool false]) ?_ rfl ?_
      · simp [results, Try.results10, go_sem, y0, y1, y2]
      · exact ⟨Or.inr ⟨A2.out, rfl⟩, bl2⟩
    | some a =>
      obtain ⟨a1, a2⟩ := a
      rw [h1] at hR htk
      simp only [Option.bind_some] at hR
      have o1 := tkn_oct o0 h1
      have l1 := tkn_out h1
      obtain ⟨X, hX⟩ : ∃ X, st a1 = X := ⟨_, rfl⟩
      obtain ⟨S1, hS1⟩ : ∃ S1, st a2 = S1 := ⟨_, rfl⟩
      replace htk : Calls Try.prog 30 #[.string S0] w1 fun e w' => e = .returned (.tuple #[.string X, .string S1, .bool true]) ∧ w' = w1 := htk.mono fun e w' h => ⟨by rw [← hX, ← hS1]; exact h.1.ok, h.2⟩
      have hsg := rsg_c 47 47 rfl a2 o1.2 (by omega) w1
      rw [hS1] at hsg
      have hlo := fun W => rlower_c a1 o1.1 (by omega) W
      obtain ⟨M, hM⟩ : ∃ M, st (low a1) = M := ⟨_, rfl⟩
      rw [hX, hM] at hlo
      clear h1
      cases h2 : sg 47 a2 with
      | none =>
        rw [h2] at hR hsg
        have A2 : Aside (R = none) := hR.symm
        replace hsg : Calls Try.prog 31 #[.string S1, .int .u8 47] w1 fun e w' => (∃ u, e = .returned (.tuple #[.string u, .bool false])) ∧ w' = w1 := hsg.mono fun e w' h => ⟨h.1.no, h.2⟩
        clear h2 hR ho hl o0 l0 hS0 o1 l1 hX hS1 hM hlo
        go_enter Try.func10, Try.ntmps10
        go_upto_region 1 with fail
        (try simp only [A.out.2.2.1])
        rw [← hw1]
        clear hw1
        go_wp2_with (first
          | (go_at_call 29; (with_reducible refine hbt.mono ?_); rintro e1 w2 ⟨rfl, hw2⟩; have hw2' := hw2.symm; subst hw2')
          | (go_at_call 30; (with_reducible refine htk.mono ?_); rintro e2 w3 ⟨rfl, hw3⟩; have hw3' := hw3.symm; subst hw3')
          | (go_at_call 31; (with_reducible refine hsg.mono ?_); rintro e3 w4 ⟨⟨u, rfl⟩, hw4⟩; have hw4' := hw4.symm; subst hw4'))
        have k2 := set3 (x := .string ⟨#[]⟩) (y := .string ⟨#[]⟩) (z := .slice none 0 0) A.out.2.1
        have bl2 := bel3 (x := .string ⟨#[]⟩) (y := .string ⟨#[]⟩) (z := .slice none 0 0) A.out.1
        (try simp only [Exit.inBlock, Exit.then])
        generalize ((w1.setCell ⟨H, 0, none⟩ (.string ⟨#[]⟩)).setCell ⟨H, 1, none⟩ (.string ⟨#[]⟩)).setCell ⟨H, 2, none⟩ (.slice none 0 0) = wz at k2 bl2 ⊢
        have y0 : wz.cell? ⟨H, 0, none⟩ = some (.string ⟨#[]⟩) := by rw [k2.cell]; rfl
        have y1 : wz.cell? ⟨H, 1, none⟩ = some (.string ⟨#[]⟩) := by rw [k2.cell]; rfl
        have y2 : wz.cell? ⟨H, 2, none⟩ = some (.slice none 0 0) := by rw [k2.cell]; rfl
        refine bodyPost_ret (v := .tuple #[.agg #[.string ⟨#[]⟩, .string ⟨#[]⟩, .slice none 0 0], .bool false]) ?_ rfl ?_
        · simp [results, Try.results10, go_sem, y0, y1, y2]
        · exact ⟨Or.inr ⟨A2.out, rfl⟩, bl2⟩
      | some r1 =>
        rw [h2] at hR hsg
        simp only [Option.bind_some] at hR
        have o2 := o1.2.suf (sg_out h2).2.1
        have l2 := (sg_out h2).1
        obtain ⟨S2, hS2⟩ : ∃ S2, st r1 = S2 := ⟨_, rfl⟩
        replace hsg : Calls Try.prog 31 #[.string S1, .int .u8 47] w1 fun e w' => e = .returned (.tuple #[.string S2, .bool true]) ∧ w' = w1 := hsg.mono fun e w' h => ⟨by rw [← hS2]; exact h.1.ok, h.2⟩
        have htk2 := rtk_c r1 o2 (by omega) w1
        rw [hS2] at htk2
        clear h2
        cases h3 : tkn r1 with
        | none =>
          rw [h3] at hR htk2
          have A2 : Aside (R = none) := hR.symm
          replace htk2 : Calls Try.prog 30 #[.string S2] w1 fun e w' => (∃ a b, e = .returned (.tuple #[.string a, .string b, .bool false])) ∧ w' = w1 := htk2.mono fun e w' h => ⟨h.1.no, h.2⟩
          clear h3 hR ho hl o0 l0 hS0 o1 l1 hX hS1 hM hlo o2 l2 hS2
          go_enter Try.func10, Try.ntmps10
          go_upto_region 1 with fail
          (try simp only [A.out.2.2.1])
          rw [← hw1]
          clear hw1
          go_upto_region 10 with (first
            | (go_at_call 29; (with_reducible refine hbt.mono ?_); rintro e1 w2 ⟨rfl, hw2⟩; have hw2' := hw2.symm; subst hw2')
            | (go_at_call 30; (with_reducible refine htk.mono ?_); rintro e2 w3 ⟨rfl, hw3⟩; have hw3' := hw3.symm; subst hw3')
            | (go_at_call 31; (with_reducible refine hsg.mono ?_); rintro e3 w4 ⟨rfl, hw4⟩; have hw4' := hw4.symm; subst hw4'))
          clear hbt htk hsg
          go_wp2_with (first
            | (go_at_call 30; (with_reducible refine htk2.mono ?_); rintro e4 w5 ⟨⟨a, b, rfl⟩, hw5⟩; have hw5' := hw5.symm; subst hw5'))
          have k2 := set3 (x := .string ⟨#[]⟩) (y := .string ⟨#[]⟩) (z := .slice none 0 0) A.out.2.1
          have bl2 := bel3 (x := .string ⟨#[]⟩) (y := .string ⟨#[]⟩) (z := .slice none 0 0) A.out.1
          (try simp only [Exit.inBlock, Exit.then])
          generalize ((w1.setCell ⟨H, 0, none⟩ (.string ⟨#[]⟩)).setCell ⟨H, 1, none⟩ (.string ⟨#[]⟩)).setCell ⟨H, 2, none⟩ (.slice none 0 0) = wz at k2 bl2 ⊢
          have y0 : wz.cell? ⟨H, 0, none⟩ = some (.string ⟨#[]⟩) := by rw [k2.cell]; rfl
          have y1 : wz.cell? ⟨H, 1, none⟩ = some (.string ⟨#[]⟩) := by rw [k2.cell]; rfl
          have y2 : wz.cell? ⟨H, 2, none⟩ = some (.slice none 0 0) := by rw [k2.cell]; rfl
          refine bodyPost_ret (v := .tuple #[.agg #[.string ⟨#[]⟩, .string ⟨#[]⟩, .slice none 0 0], .bool false]) ?_ rfl ?_
          · simp [results, Try.results10, go_sem, y0, y1, y2]
          · exact ⟨Or.inr ⟨A2.out, rfl⟩, bl2⟩
        | some b =>
          obtain ⟨b1, b2⟩ := b
          rw [h3] at hR htk2
          simp only [Option.bind_some] at hR
          have o3 := tkn_oct o2 h3
          have l3 := tkn_out h3
          obtain ⟨Y, hY⟩ : ∃ Y, st b1 = Y := ⟨_, rfl⟩
          obtain ⟨S3, hS3⟩ : ∃ S3, st b2 = S3 := ⟨_, rfl⟩
          replace htk2 : Calls Try.prog 30 #[.string S2] w1 fun e w' => e = .returned (.tuple #[.string Y, .string S3, .bool true]) ∧ w' = w1 := htk2.mono fun e w' h => ⟨by rw [← hY, ← hS3]; exact h.1.ok, h.2⟩
          have hlo2 := fun W => rlower_c b1 o3.1 (by omega) W
          obtain ⟨S, hS⟩ : ∃ S, st (low b1) = S := ⟨_, rfl⟩
          rw [hY, hS] at hlo2
          have A1 : Aside (st (low a1) = M ∧ st (low b1) = S ∧ st b2 = S3 ∧ Oct b2 ∧ b2.length ≤ l.length ∧ l.length ≤ 1099511627776 ∧ (ps b2.length b2).map (fun F => ((low a1, low b1, F) : Ty)) = R) := ⟨hM, hS, hS3, o3.2, by omega, hl, hR⟩
          clear h3 hR ho hl o0 l0 hS0 o1 l1 hX hS1 hM o2 l2 hS2 o3 l3 hY hS3 hS
          go_enter Try.func10, Try.ntmps10
          go_upto_region 1 with fail
          (try simp only [A.out.2.2.1])
          rw [← hw1]
          clear hw1
          go_upto_region 10 with (first
            | (go_at_call 29; (with_reducible refine hbt.mono ?_); rintro e1 w2 ⟨rfl, hw2⟩; have hw2' := hw2.symm; subst hw2')
            | (go_at_call 30; (with_reducible refine htk.mono ?_); rintro e2 w3 ⟨rfl, hw3⟩; have hw3' := hw3.symm; subst hw3')
            | (go_at_call 31; (with_reducible refine hsg.mono ?_); rintro e3 w4 ⟨rfl, hw4⟩; have hw4' := hw4.symm; subst hw4'))
          clear hbt htk hsg
          go_upto_region 13 with (first
            | (go_at_call 30; (with_reducible refine htk2.mono ?_); rintro e4 w5 ⟨rfl, hw5⟩; have hw5' := hw5.symm; subst hw5'))
          clear htk2
          go_upto_region 14 with (first
            | (go_at_call 15; (with_reducible refine (hlo w1).mono ?_); rintro e5 w6 ⟨rfl, hb6⟩)
            | (go_at_call 15; (with_reducible refine (hlo2 w6).mono ?_); rintro e6 w7 ⟨rfl, hb7⟩))
          clear hlo hlo2 z0 z1 z2 f0 f1 f2
          obtain ⟨K, hK⟩ : ∃ K, w7.heap.size = K := ⟨_, rfl⟩
          obtain ⟨w8, hw8⟩ : ∃ w8, w8 = w7.alloc (.cells #[.string M, .string S, .slice none 0 0] 24) := ⟨_, rfl⟩
          have hb7' : Below w1.heap.size w1 w7 := hb6.trans (hb7.mono hb6.size)
          have k7 := A.out.2.1.below hb7' A.out.2.1.lt
          have k8 : Cells w8 H #[.string ⟨#[]⟩, .string ⟨#[]⟩, .slice none 0 0] 24 := by rw [hw8]; exact k7.alloc _
          have j8 : Cells w8 K #[.string M, .string S, .slice none 0 0] 24 := by rw [hw8, ← hK]; exact Cells.new w7 _ 24
          have b8 : Below H w w8 := by rw [hw8]; exact (A.out.1.trans (hb7'.mono A.out.2.2.2)).alloc (Nat.le_of_lt k7.lt) _
          have hKH : K ≠ H := by have := k7.lt; omega
          (try simp only [hK])
          rw [← hw8]
          have A8 : Aside (Cells w8 H #[.string ⟨#[]⟩, .string ⟨#[]⟩, .slice none 0 0] 24 ∧ Cells w8 K #[.string M, .string S, .slice none 0 0] 24 ∧ Below H w w8 ∧ K ≠ H ∧ H ≤ w8.heap.size ∧ H ≤ K) := ⟨k8, j8, b8, hKH, Nat.le_of_lt k8.lt, by have := k7.lt; omega⟩
          clear hw8 hK hb7' k7 k8 j8 b8 hKH hb6 hb7
          go_wp2_with fail
          go_loopg [0] b2.length (fun g s0 wr => ∃ (U : ByteArray) (r : List Nat) (va : Option Addr) (n c : Nat) (F : List Fd), s0 = .string U ∧ Aside (U = st r ∧ g = r.length ∧ Cells wr H #[.string ⟨#[]⟩, .string ⟨#[]⟩, .slice none 0 0] 24 ∧ Cells wr K #[.string M, .string S, .slice va n c] 24 ∧ Below H w wr ∧ Ow wr H 29 2 (.slice va n c) n (fc F) ∧ n + r.length ≤ l.length ∧ Oct r ∧ (ps r.length r).map (fun G => ((low a1, low b1, F ++ G) : Ty)) = R))
          case atStart => exact ⟨S3, b2, none, 0, 0, [], rfl, A1.out.2.2.1.symm, rfl, A8.out.1, A8.out.2.1, A8.out.2.2.1, Ow.nil A8.out.2.2.2.2.1, by have := A1.out.2.2.2.2.1; omega, A1.out.2.2.2.1, A1.out.2.2.2.2.2.2⟩
          case round =>
            obtain ⟨U, r, va, n, c, F, rfl, hI⟩ := hrel
            obtain ⟨hU, hg, kH, kK, hbel, how, hnr, hro, hps⟩ := hI.out
            have hlb := A1.out.2.2.2.2.2.1
            have hKH := A8.out.2.2.2.1
            have zu : U.size = r.length := by rw [hU, st_size]
            cases r with
            | nil =>
              have zu0 : U.size = 0 := zu
              have x0 : wr.cell? ⟨K, 0, none⟩ = some (.string M) := by rw [kK.cell]; rfl
              have x1 : wr.cell? ⟨K, 1, none⟩ = some (.string S) := by rw [kK.cell]; rfl
              have x2 : wr.cell? ⟨K, 2, none⟩ = some (.slice va n c) := by rw [kK.cell]; rfl
              have f0 := kH.frozen 0
              have f1 := kH.frozen 1
              have f2 := kH.frozen 2
              have z0 : wr.cell? ⟨H, 0, none⟩ = some (.string ⟨#[]⟩) := by rw [kH.cell]; rfl
              have z1 : wr.cell? ⟨H, 1, none⟩ = some (.string ⟨#[]⟩) := by rw [kH.cell]; rfl
              have z2 : wr.cell? ⟨H, 2, none⟩ = some (.slice none 0 0) := by rw [kH.cell]; rfl
              have A3 : Aside (R = some (low a1, low b1, F) ∧ Cells wr H #[.string ⟨#[]⟩, .string ⟨#[]⟩, .slice none 0 0] 24 ∧ Below H w wr ∧ Ow wr H 29 2 (.slice va n c) n (fc F)) := ⟨by rw [← hps]; show some ((low a1, low b1, F ++ []) : Ty) = _; rw [List.append_nil], kH, hbel, how⟩
              clear hI hU hg kH kK hbel how hnr hro hps hlb zu
              go_wp2_with fail
              obtain ⟨aR, aH, aB, aO⟩ := A3.out
              have k2 := set3 (x := .string M) (y := .string S) (z := .slice va n c) aH
              have bl2 := bel3 (x := .string M) (y := .string S) (z := .slice va n c) aB
              have ow2 := ((aO.set (i := 0) (x := .string M) aH (by decide)).set (i := 1) (x := .string S) (aH.set 0 (.string M)) (by decide)).set (i := 2) (x := .slice va n c) ((aH.set 0 (.string M)).set 1 (.string S)) (by decide)
              (try simp only [Exit.inBlock, Exit.then])
              generalize ((wr.setCell ⟨H, 0, none⟩ (.string M)).setCell ⟨H, 1, none⟩ (.string S)).setCell ⟨H, 2, none⟩ (.slice va n c) = wz at k2 bl2 ow2 ⊢
              have y0 : wz.cell? ⟨H, 0, none⟩ = some (.string M) := by rw [k2.cell]; rfl
              have y1 : wz.cell? ⟨H, 1, none⟩ = some (.string S) := by rw [k2.cell]; rfl
              have y2 : wz.cell? ⟨H, 2, none⟩ = some (.slice va n c) := by rw [k2.cell]; rfl
              refine bodyPost_ret (v := .tuple #[.agg #[.string M, .string S, .slice va n c], .bool true]) ?_ rfl ?_
              · simp [results, Try.results10, go_sem, y0, y1, y2]
              · exact ⟨Or.inl ⟨_, va, n, c, aR, by rw [A1.out.1, A1.out.2.1], ow2⟩, bl2⟩
            | cons x r =>
              obtain ⟨m, hm⟩ : ∃ m, (x :: r).length = m := ⟨_, rfl⟩
              have hm1 : r.length + 1 = m := by simpa using hm
              have hsg := rsg_c 59 59 rfl (x :: r) hro (by omega) wr
              rw [← hU] at hsg
              rw [hm] at zu
              have t0 : ((0 : Int) < (m : Int)) = True := eq_true (by omega)
              have t0' : (0 < m) = True := eq_true (by omega)
              rw [ps_step (by simp)] at hps
              cases hq1 : sg 59 (x :: r) with
              | none =>
                rw [hq1] at hps hsg
                replace hsg : Calls Try.prog 31 #[.string U, .int .u8 59] wr fun e w' => (∃ u, e = .returned (.tuple #[.string u, .bool false])) ∧ w' = wr := hsg.mono fun e w' h => ⟨h.1.no, h.2⟩
                have f0 := kH.frozen 0
                have f1 := kH.frozen 1
                have f2 := kH.frozen 2
                have z0 : wr.cell? ⟨H, 0, none⟩ = some (.string ⟨#[]⟩) := by rw [kH.cell]; rfl
                have z1 : wr.cell? ⟨H, 1, none⟩ = some (.string ⟨#[]⟩) := by rw [kH.cell]; rfl
                have z2 : wr.cell? ⟨H, 2, none⟩ = some (.slice none 0 0) := by rw [kH.cell]; rfl
                have A2 : Aside (R = none) := hps.symm
                have A3 : Aside (Cells wr H #[.string ⟨#[]⟩, .string ⟨#[]⟩, .slice none 0 0] 24 ∧ Below H w wr) := ⟨kH, hbel⟩
                clear hI hU hg kH kK hbel how hnr hro hps hlb hm hm1 hq1
                go_wp2_with (go_at_call 31; (with_reducible refine hsg.mono ?_); rintro e8 w88 ⟨⟨u, rfl⟩, hw88⟩; have hw88' := hw88.symm; subst hw88')
                have k2 := set3 (x := .string ⟨#[]⟩) (y := .string ⟨#[]⟩) (z := .slice none 0 0) A3.out.1
                have bl2 := bel3 (x := .string ⟨#[]⟩) (y := .string ⟨#[]⟩) (z := .slice none 0 0) A3.out.2
                (try simp only [Exit.inBlock, Exit.then])
                generalize ((wr.setCell ⟨H, 0, none⟩ (.string ⟨#[]⟩)).setCell ⟨H, 1, none⟩ (.string ⟨#[]⟩)).setCell ⟨H, 2, none⟩ (.slice none 0 0) = wz at k2 bl2 ⊢
                have y0 : wz.cell? ⟨H, 0, none⟩ = some (.string ⟨#[]⟩) := by rw [k2.cell]; rfl
                have y1 : wz.cell? ⟨H, 1, none⟩ = some (.string ⟨#[]⟩) := by rw [k2.cell]; rfl
                have y2 : wz.cell? ⟨H, 2, none⟩ = some (.slice none 0 0) := by rw [k2.cell]; rfl
                refine bodyPost_ret (v := .tuple #[.agg #[.string ⟨#[]⟩, .string ⟨#[]⟩, .slice none 0 0], .bool false]) ?_ rfl ?_
                · simp [results, Try.results10, go_sem, y0, y1, y2]
                · exact ⟨Or.inr ⟨A2.out, rfl⟩, bl2⟩
              | some r1 =>
                rw [hq1] at hps hsg
                simp only [Option.bind_some] at hps
                have o4 := hro.suf (sg_out hq1).2.1
                have l4 := (sg_out hq1).1
                obtain ⟨U1, hU1⟩ : ∃ U1, st r1 = U1 := ⟨_, rfl⟩
                replace hsg : Calls Try.prog 31 #[.string U, .int .u8 59] wr fun e w' => e = .returned (.tuple #[.string U1, .bool true]) ∧ w' = wr := hsg.mono fun e w' h => ⟨by rw [← hU1]; exact h.1.ok, h.2⟩
                have hpm := rpm_c r1 o4 (by omega) wr
                rw [hU1] at hpm
                cases hq2 : pm r1 with
                | none =>
                  rw [hq2] at hps hpm
                  replace hpm : Calls Try.prog 32 #[.string U1] wr fun e w' => (∃ x y z, e = .returned (.tuple #[.agg #[.string x, .string y], .string z, .bool false])) ∧ Below wr.heap.size wr w' := hpm.mono fun e w' h => by
                    refine ⟨?_, h.2⟩
                    rcases h.1 with ⟨f, q, h1, _⟩ | ⟨_, h2⟩
                    · cases h1
                    · exact h2
                  have hcs : ∀ W o, Below wr.heap.size wr W → (W.alloc o).frozen? ⟨H, 0, none⟩ = false ∧ (W.alloc o).frozen? ⟨H, 1, none⟩ = false ∧ (W.alloc o).frozen? ⟨H, 2, none⟩ = false ∧ (W.alloc o).cell? ⟨H, 0, none⟩ = some (.string ⟨#[]⟩) ∧ (W.alloc o).cell? ⟨H, 1, none⟩ = some (.string ⟨#[]⟩) ∧ (W.alloc o).cell? ⟨H, 2, none⟩ = some (.slice none 0 0) := fun W o hW => by
                    have k := (kH.below hW kH.lt).alloc o
                    exact ⟨k.frozen 0, k.frozen 1, k.frozen 2, by rw [k.cell]; rfl, by rw [k.cell]; rfl, by rw [k.cell]; rfl⟩
                  have A2 : Aside (R = none) := hps.symm
                  have A3 : Aside (Cells wr H #[.string ⟨#[]⟩, .string ⟨#[]⟩, .slice none 0 0] 24 ∧ Below H w wr ∧ H ≤ wr.heap.size) := ⟨kH, hbel, how.le⟩
                  clear hI hU hg kH kK hbel how hnr hro hps hlb hm hm1 hq1 hq2 o4 l4 hU1
                  go_upto_region 18 with (go_at_call 31; (with_reducible refine hsg.mono ?_); rintro e8 w88 ⟨rfl, hw88⟩; have hw88' := hw88.symm; subst hw88')
                  clear hsg
                  go_upto_region 19 with (go_at_call 32; (with_reducible refine hpm.mono ?_); rintro e9 w9 ⟨⟨x9, y9, z9, rfl⟩, hb9⟩)
                  obtain ⟨g0, g1, g2, g3, g4, g5⟩ := hcs w9 (.cells #[.string x9, .string y9] 29) hb9
                  have k10 := (A3.out.1.below hb9 A3.out.1.lt).alloc (.cells #[.string x9, .string y9] 29)
                  have b10 : Below H w (w9.alloc (.cells #[.string x9, .string y9] 29)) := (A3.out.2.1.trans (hb9.mono A3.out.2.2)).alloc (by have := hb9.size; have := A3.out.2.2; omega) _
                  have A10 : Aside (Cells (w9.alloc (.cells #[.string x9, .string y9] 29)) H #[.string ⟨#[]⟩, .string ⟨#[]⟩, .slice none 0 0] 24 ∧ Below H w (w9.alloc (.cells #[.string x9, .string y9] 29))) := ⟨k10, b10⟩
                  clear k10 b10 hcs hb9 hpm
                  go_wp2_with fail
                  have k2 := set3 (x := .string ⟨#[]⟩) (y := .string ⟨#[]⟩) (z := .slice none 0 0) A10.out.1
                  have bl2 := bel3 (x := .string ⟨#[]⟩) (y := .string ⟨#[]⟩) (z := .slice none 0 0) A10.out.2
                  (try simp only [Exit.inBlock, Exit.then])
                  generalize (((w9.alloc (.cells #[.string x9, .string y9] 29)).setCell ⟨H, 0, none⟩ (.string ⟨#[]⟩)).setCell ⟨H, 1, none⟩ (.string ⟨#[]⟩)).setCell ⟨H, 2, none⟩ (.slice none 0 0) = wz at k2 bl2 ⊢
                  have y0 : wz.cell? ⟨H, 0, none⟩ = some (.string ⟨#[]⟩) := by rw [k2.cell]; rfl
                  have y1 : wz.cell? ⟨H, 1, none⟩ = some (.string ⟨#[]⟩) := by rw [k2.cell]; rfl
                  have y2 : wz.cell? ⟨H, 2, none⟩ = some (.slice none 0 0) := by rw [k2.cell]; rfl
                  refine bodyPost_ret (v := .tuple #[.agg #[.string ⟨#[]⟩, .string ⟨#[]⟩, .slice none 0 0], .bool false]) ?_ rfl ?_
                  · simp [results, Try.results10, go_sem, y0, y1, y2]
                  · exact ⟨Or.inr ⟨A2.out, rfl⟩, bl2⟩
                | some p =>
                  obtain ⟨f, q⟩ := p
                  rw [hq2] at hps hpm
                  simp only [Option.bind_some] at hps
                  have o5 := pm_oct o4 hq2
                  have l5 := pm_out hq2
                  obtain ⟨X, hX⟩ : ∃ X, st f.1 = X := ⟨_, rfl⟩
                  obtain ⟨Y, hY⟩ : ∃ Y, st f.2 = Y := ⟨_, rfl⟩
                  obtain ⟨U2, hU2⟩ : ∃ U2, st q = U2 := ⟨_, rfl⟩
                  replace hpm : Calls Try.prog 32 #[.string U1] wr fun e w' => e = .returned (.tuple #[.agg #[.string X, .string Y], .string U2, .bool true]) ∧ Below wr.heap.size wr w' := hpm.mono fun e w' h => by
                    refine ⟨?_, h.2⟩
                    rcases h.1 with ⟨f', q', h1, h2⟩ | ⟨h1, _⟩
                    · cases h1
                      rw [← hX, ← hY, ← hU2]; exact h2
                    · cases h1
                  obtain ⟨i0, hi, hz0, hz1, hz2⟩ := ginfo_parts ginfo29
                  have A3 : Aside (gk = r.length + 1 ∧ q.length < gk ∧ Cells wr H #[.string ⟨#[]⟩, .string ⟨#[]⟩, .slice none 0 0] 24 ∧ Cells wr K #[.string M, .string S, .slice va n c] 24 ∧ Below H w wr ∧ Ow wr H 29 2 (.slice va n c) n (fc F) ∧ n + 1 + q.length ≤ l.length ∧ Oct q ∧ (ps q.length q).map (fun G => ((low a1, low b1, (F ++ [f]) ++ G) : Ty)) = R ∧ n + 1 ≤ maxLen ∧ (n + 1) * 32 ≤ 140737488355328 ∧ fc [f] = [.string X, .string Y] ∧ U2 = st q) := by
                    simp at hnr hg l4
                    refine ⟨hg, by omega, kH, kK, hbel, how, by omega, o5.2, ?_, by unfold maxLen; omega, by omega, by rw [← hX, ← hY]; rfl, hU2.symm⟩
                    rw [← hps]
                    cases ps q.length q with
                    | none => rfl
                    | some G => simp
                  clear hI hU hg kH kK hbel how hnr hro hps hlb hm hm1 hq1 hq2 o4 l4 hU1 o5 l5 hX hY hU2
                  go_upto_region 18 with (go_at_call 31; (with_reducible refine hsg.mono ?_); rintro e8 w88 ⟨rfl, hw88⟩; have hw88' := hw88.symm; subst hw88')
                  clear hsg
                  go_upto_region 19 with (go_at_call 32; (with_reducible refine hpm.mono ?_); rintro e9 w9 ⟨rfl, hb9⟩)
                  obtain ⟨J, hJ⟩ : ∃ J, w9.heap.size = J := ⟨_, rfl⟩
                  obtain ⟨w10, hw10⟩ : ∃ w10, w10 = w9.alloc (.cells #[.string X, .string Y] 29) := ⟨_, rfl⟩
                  have bal : Below wr.heap.size wr w10 := by rw [hw10]; exact hb9.alloc hb9.size _
                  have j10 : Cells w10 J #[.string X, .string Y] 29 := by rw [hw10, ← hJ]; exact Cells.new w9 _ 29
                  obtain ⟨a1', a2', a3', a4', a5', a6', a7', a8', a9', a10', a11', a12', a13'⟩ := A3.out
                  have kH10 := a3'.below bal a3'.lt
                  have kK10 := a4'.below bal a4'.lt
                  have ow10 := a6'.below bal (Nat.le_refl _)
                  have b10 : Below H w w10 := a5'.trans (bal.mono a6'.le)
                  have x2 : w10.cell? ⟨K, 2, none⟩ = some (.slice va n c) := by rw [kK10.cell]; rfl
                  have j0 : w10.cell? ⟨J, 0, none⟩ = some (.string X) := by rw [j10.cell]; rfl
                  have j1 : w10.cell? ⟨J, 1, none⟩ = some (.string Y) := by rw [j10.cell]; rfl
                  obtain ⟨G, hG⟩ : ∃ G, w10.heap.size = G := ⟨_, rfl⟩
                  have bal2 : Below w10.heap.size w10 (w10.alloc (.cells #[.string X, .string Y] 29)) := (Below.refl _ w10).alloc (Nat.le_refl _) _
                  have how11 := ow10.below bal2 (Nat.le_refl _)
                  have hl11 : ([.string X, .string Y] : List Value) = [] ∨ ∃ b o, (some ⟨G, 0, none⟩ : Option Addr) = some ⟨b, o, none⟩ ∧ ∀ (i : Nat) u, ([.string X, .string Y] : List Value)[i]? = some u → (w10.alloc (.cells #[.string X, .string Y] 29)).cell? ⟨b, o + i, none⟩ = some u := Or.inr ⟨G, 0, rfl, fun i u hu => by
                    rw [Nat.zero_add, ← hG, (Cells.new w10 #[.string X, .string Y] 29).cell i]
                    simpa using hu⟩
                  have hk12 : ∀ w12 v2 n2 xs, Got H 29 2 (w10.alloc (.cells #[.string X, .string Y] 29)) w12 (.slice va n c) v2 n2 xs → w12.cell? ⟨K, 2, none⟩ = some (.slice va n c) ∧ w12.frozen? ⟨K, 2, none⟩ = false := fun w12 v2 n2 xs hg => by
                    have k := (kK10.alloc (.cells #[.string X, .string Y] 29)).got hg (by decide)
                    exact ⟨by rw [k.cell]; rfl, k.frozen 2⟩
                  have A4 : Aside (Cells (w10.alloc (.cells #[.string X, .string Y] 29)) H #[.string ⟨#[]⟩, .string ⟨#[]⟩, .slice none 0 0] 24 ∧ Cells (w10.alloc (.cells #[.string X, .string Y] 29)) K #[.string M, .string S, .slice va n c] 24 ∧ Below H w (w10.alloc (.cells #[.string X, .string Y] 29))) := ⟨kH10.alloc _, kK10.alloc _, b10.alloc (Nat.le_of_lt kH10.lt) _⟩
                  (try simp only [hJ])
                  rw [← hw10]
                  clear a1' a2' a3' a4' a5' a6' a7' a8' a9' a10' a11' a12' a13' hw10 hJ hb9 bal j10 kH10 kK10 ow10 b10 bal2 hpm
                  go_wp2_with (at_builtin; refine wpList_ow Try.prog _ rfl (.tmp 71) (.tmp 73) 22 rfl 29 i0 _ 2 32 Try.underlying22 hi hz0 hz1 hz2 rfl (by decide) H (.slice va n c) n _ (by rfl) how11 (some ⟨G, 0, none⟩) [.string X, .string Y] 1 1 rfl (by rfl) (by intro h; cases h) hl11 (by intro u hu; simp at hu; rcases hu with rfl | rfl <;> rfl) A3.out.2.2.2.2.2.2.2.2.2.1 A3.out.2.2.2.2.2.2.2.2.2.2.1 ?_; intro v12 w12 hgot; obtain ⟨y2, g2⟩ := hk12 _ _ _ _ hgot; obtain ⟨va12, c12, hv12, _⟩ := hgot.ow.shape; subst hv12)
                  obtain ⟨a1', a2', a3', a4', a5', a6', a7', a8', a9', a10', a11', a12', a13'⟩ := A3.out
                  have kH12 := A4.out.1.got hgot (by decide)
                  have kK12 := A4.out.2.1.got hgot (by decide)
                  have kK13 := kK12.set 2 (.slice va12 (n + 1) c12)
                  have kH13 := kH12.only ((Only.refl K w12).setCell 2 (.slice va12 (n + 1) c12)) (fun e => hKH e.symm)
                  have ow13 := hgot.ow.set (i := 2) (x := .slice va12 (n + 1) c12) kK12 (by decide)
                  have b13 : Below H w (w12.setCell ⟨K, 2, none⟩ (.slice va12 (n + 1) c12)) := (A4.out.2.2.trans hgot.bel).setCell (p := ⟨K, 2, none⟩) (A8.out.2.2.2.2.2) _
                  go_roundg q.length
                  case measure => omega
                  case rel => exact ⟨U2, q, va12, n + 1, c12, F ++ [f], rfl, a13', rfl, kH13, kK13, b13, by rw [fc_append, a12']; exact ow13, a7', a8', a9'⟩
end Go.Proofs.Ytdndlegfalmkaaa

/-
  MimetypeForms' walk.
-/
import Derived.Test.YtdndlegfalmkaaaBackCore
namespace Go.Proofs.Ytdndlegfalmkaaa
open Go.RowKit
set_option linter.unusedVariables false
set_option maxHeartbeats 2000000 in
theorem forms_core (w : World) (l : List Nat) (ho : Oct l) (hb : l.length ≤ 1000000000) : Calls Try.prog 7 #[.string (st l)] w fun e w' => e = .returned (.bool true) ∧ Below w.heap.size w w' := by
  have hawk := fun W => awake_c W
  obtain ⟨L0, hL0⟩ : ∃ L0, st l = L0 := ⟨_, rfl⟩
  cases hR : ty l with
  | none =>
    have hty := type_no l ho (by omega) w hR
    rw [hL0] at hty ⊢
    clear hL0 hR ho hb
    go_enter Try.func7, Try.ntmps7
    go_upto_region 2 with (go_at_call 9; (with_reducible refine hty.mono ?_); rintro e1 w1 ⟨rfl, hb1⟩)
    obtain ⟨K, hK⟩ : ∃ K, w1.heap.size = K := ⟨_, rfl⟩
    obtain ⟨w2, hw2⟩ : ∃ w2, w2 = w1.alloc (.cells #[.string ⟨#[]⟩, .string ⟨#[]⟩, .slice none 0 0] 24) := ⟨_, rfl⟩
    have k2 : Cells w2 K #[.string ⟨#[]⟩, .string ⟨#[]⟩, .slice none 0 0] 24 := by rw [hw2, ← hK]; exact Cells.new w1 _ 24
    have z0 : w2.cell? ⟨K, 0, none⟩ = some (.string ⟨#[]⟩) := by rw [k2.cell]; rfl
    have z1 : w2.cell? ⟨K, 1, none⟩ = some (.string ⟨#[]⟩) := by rw [k2.cell]; rfl
    have z2 : w2.cell? ⟨K, 2, none⟩ = some (.slice none 0 0) := by rw [k2.cell]; rfl
    have A : Aside (Below w.heap.size w w2) := by show Below _ _ _; rw [hw2]; exact hb1.alloc hb1.size _
    (try simp only [hK])
    rw [← hw2]
    clear hw2 hK k2 hb1 hty
    go_wp2_with (go_at_call 16; (with_reducible refine (hawk _).mono ?_); rintro e6 w6 ⟨rfl, hb6⟩)
    go_ret
    have a := A.out
    exact ⟨rfl, a.trans (hb6.mono a.size)⟩
  | some t =>
    obtain ⟨t1, t2, t3, t4⟩ := ty_out hR
    obtain ⟨o1, o2, o3⟩ := ty_oct ho hR
    have hx := tx_some t1 t2 t3
    obtain ⟨x, hxx⟩ : ∃ x, t.1 ++ 47 :: (t.2.1 ++ t.2.2.flatMap pt) = x := ⟨_, rfl⟩
    rw [hxx] at hx
    have hxo := tx_octs hx o1 o2 o3
    have hxl := tx_len hx
    obtain ⟨X, hX⟩ : ∃ X, st x = X := ⟨_, rfl⟩
    obtain ⟨M, hM⟩ : ∃ M, st t.1 = M := ⟨_, rfl⟩
    obtain ⟨S, hS⟩ : ∃ S, st t.2.1 = S := ⟨_, rfl⟩
    have hty := type_ok2 l ho (by omega) w t hR L0 M S hL0 hM hS
    have hty2 := fun W => type_ok2 x hxo (by omega) W t (ty_tx hx) X M S hX hM hS
    have htx : ∀ W va n c, FL W (.slice va n c) t.2.2 → Calls Try.prog 17 #[.agg #[.string M, .string S, .slice va n c]] W fun e w' => e = .returned (.tuple #[.string X, .bool true]) ∧ Below W.heap.size W w' := fun W va n c hF => by
      have h := text_c W t.1 t.2.1 va n c t.2.2 hF o3 o1 o2 (by omega)
      have e : ((t.1, t.2.1, t.2.2) : Ty) = t := rfl
      rw [e, hx, hM, hS] at h
      exact h.mono fun e w' h => ⟨by rw [← hX]; exact h.1, h.2⟩
    have hfq : ∀ W va n c va2 n2 c2, FL W (.slice va n c) t.2.2 → FL W (.slice va2 n2 c2) t.2.2 → Calls Try.prog 21 #[.slice va n c, .slice va2 n2 c2] W fun e w' => e = .returned (.bool true) ∧ Below W.heap.size W w' := fun W va n c va2 n2 c2 hF hF2 => by
      have hwl := wt_len t.2.2
      have h := feq_c W (.slice va n c) (.slice va2 n2 c2) t.2.2 t.2.2 hF hF2 o3 o3 (by omega)
      rw [decide_eq_true rfl] at h
      exact h.mono fun e w' h => by
        obtain ⟨h1, n', h2⟩ := h
        exact ⟨h1, by rw [h2]; exact Below.drewN2 (Below.refl _ _) _⟩
    rw [hL0]
    clear hL0 hR ho hb t1 t2 t3 t4 o1 o2 o3 hx hxx hxo hxl hX hM hS
    go_enter Try.func7, Try.ntmps7
    go_upto_region 2 with (go_at_call 9; (with_reducible refine hty.mono ?_); rintro e1 w1 ⟨va, n, c, rfl, how1, hb1⟩)
    obtain ⟨H, hH⟩ : ∃ H, w1.heap.size = H := ⟨_, rfl⟩
    obtain ⟨w2, hw2⟩ : ∃ w2, w2 = w1.alloc (.cells #[.string M, .string S, .slice va n c] 24) := ⟨_, rfl⟩
    have k2 : Cells w2 H #[.string M, .string S, .slice va n c] 24 := by rw [hw2, ← hH]; exact Cells.new w1 _ 24
    have b12 : Below w1.heap.size w1 w2 := by rw [hw2]; exact (Below.refl _ w1).alloc (Nat.le_refl _) _
    have f2 := how1.fl.below b12
    have hcs : ∀ W, Below w2.heap.size w2 W → W.cell? ⟨H, 0, none⟩ = some (.string M) ∧ W.cell? ⟨H, 1, none⟩ = some (.string S) ∧ W.cell? ⟨H, 2, none⟩ = some (.slice va n c) := fun W hW => by
      have k := k2.below hW k2.lt
      exact ⟨by rw [k.cell]; rfl, by rw [k.cell]; rfl, by rw [k.cell]; rfl⟩
    obtain ⟨x0, x1, x2⟩ := hcs w2 (Below.refl _ _)
    have htx1 := htx w2 va n c f2
    have A2 : Aside (Below w.heap.size w w2 ∧ w.heap.size ≤ w2.heap.size ∧ FL w2 (.slice va n c) t.2.2) := ⟨hb1.trans (b12.mono hb1.size), Nat.le_trans hb1.size b12.size, f2⟩
    (try simp only [hH])
    rw [← hw2]
    clear hw2 hH k2 b12 f2 how1 hb1 hty
    go_upto_region 6 with (first
      | (go_at_call 17; (with_reducible refine htx1.mono ?_); rintro e3 w3 ⟨rfl, hb3⟩)
      | (go_at_call 9; (with_reducible refine (hty2 _).mono ?_); rintro e4 w4 ⟨vb, m, d, rfl, how4, hb4⟩))
    obtain ⟨K, hK⟩ : ∃ K, w4.heap.size = K := ⟨_, rfl⟩
    obtain ⟨w5, hw5⟩ : ∃ w5, w5 = w4.alloc (.cells #[.string M, .string S, .slice vb m d] 24) := ⟨_, rfl⟩
    have k5 : Cells w5 K #[.string M, .string S, .slice vb m d] 24 := by rw [hw5, ← hK]; exact Cells.new w4 _ 24
    have b45 : Below w4.heap.size w4 w5 := by rw [hw5]; exact (Below.refl _ w4).alloc (Nat.le_refl _) _
    have f5 := how4.fl.below b45
    have b24 : Below w2.heap.size w2 w4 := hb3.trans (hb4.mono hb3.size)
    have b25 : Below w2.heap.size w2 w5 := b24.trans (b45.mono b24.size)
    have htx2 := htx w5 vb m d f5
    have hcs5 : ∀ W, Below w5.heap.size w5 W → W.cell? ⟨K, 0, none⟩ = some (.string M) ∧ W.cell? ⟨K, 1, none⟩ = some (.string S) ∧ W.cell? ⟨K, 2, none⟩ = some (.slice vb m d) := fun W hW => by
      have k := k5.below hW k5.lt
      exact ⟨by rw [k.cell]; rfl, by rw [k.cell]; rfl, by rw [k.cell]; rfl⟩
    obtain ⟨y0, y1, y2⟩ := hcs5 w5 (Below.refl _ _)
    replace hcs := fun W (hW : Below w5.heap.size w5 W) => hcs W (b25.trans (hW.mono b25.size))
    replace hfq := fun W (hW : Below w5.heap.size w5 W) => hfq W vb m d va n c (f5.below hW) (A2.out.2.2.below (b25.trans (hW.mono b25.size)))
    have A5 : Aside (Below w2.heap.size w2 w5 ∧ w2.heap.size ≤ w5.heap.size) := ⟨b25, b25.size⟩
    (try simp only [hK])
    rw [← hw5]
    clear hw5 hK k5 b45 f5 b24 b25 how4 hb3 hb4 htx htx1 hty2 x0 x1 x2
    go_wp2_with (first
      | (go_at_call 17; (with_reducible refine htx2.mono ?_); rintro e6 w6 ⟨rfl, hb6⟩; obtain ⟨p0, p1, p2⟩ := hcs5 w6 hb6; obtain ⟨r0, r1, r2⟩ := hcs w6 hb6)
      | (go_at_call 21; (with_reducible refine (hfq _ hb6).mono ?_); rintro e7 w7 ⟨rfl, hb7⟩)
      | (go_at_call 16; (with_reducible refine (hawk _).mono ?_); rintro e8 w8 ⟨rfl, hb8⟩))
    go_ret
    obtain ⟨a1, a2, _⟩ := A2.out
    obtain ⟨b1, b2⟩ := A5.out
    have s6 := hb6.size
    have s7 := hb7.size
    exact ⟨rfl, (((a1.trans (b1.mono a2)).trans (hb6.mono (by omega))).trans (hb7.mono (by omega))).trans (hb8.mono (by omega))⟩
end Go.Proofs.Ytdndlegfalmkaaa

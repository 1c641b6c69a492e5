/-
  MimetypeBack's walk.
-/
import Derived.Test.YtdndlegfalmkaaaRen
namespace Go.Proofs.Ytdndlegfalmkaaa
open Go.RowKit
set_option linter.unusedVariables false
/-- Type of a text, its answer as a slice. -/
theorem type_ok2 (l : List Nat) (ho : Oct l) (hl : l.length ≤ 1099511627776) (w : World) (t : Ty) (h : ty l = some t) (X M S : ByteArray) (hX : st l = X) (hM : st t.1 = M) (hS : st t.2.1 = S) : Calls Try.prog 9 #[.string X] w fun e w' => ∃ va n c, e = .returned (.tuple #[.agg #[.string M, .string S, .slice va n c], .bool true]) ∧ Ow w' w.heap.size 29 2 (.slice va n c) n (fc t.2.2) ∧ Below w.heap.size w w' := by
  subst hX
  subst hM
  subst hS
  refine (type_ok l ho hl w t h).mono ?_
  rintro e w' ⟨v, n, rfl, how, hb⟩
  obtain ⟨va, c, hv, _⟩ := how.shape
  subst hv
  exact ⟨va, n, c, rfl, how, hb⟩
theorem tx_len {t : Ty} {x : List Nat} (h : tx t = some x) : x.length ≤ t.1.length + t.2.1.length + 1 + 5 * wt t.2.2 := by
  obtain ⟨_, _, _, rfl⟩ := tx_parts h
  have := pts_len t.2.2
  rw [List.length_append, List.length_cons, List.length_append]
  omega
theorem tx_octs {t : Ty} {x : List Nat} (h : tx t = some x) (h1 : Oct t.1) (h2 : Oct t.2.1) (h3 : OctF t.2.2) : Oct x := by
  obtain ⟨_, _, _, rfl⟩ := tx_parts h
  exact h1.append (Oct.cons (by omega) (h2.append (pts_oct h3)))
set_option maxHeartbeats 2000000 in
theorem back_core (w : World) (m s : List Nat) (a : Option Addr) (L c : Nat) (T : List Fd) (hv : FL w (.slice a L c) T) (hT : OctF T) (hm : Oct m) (hs : Oct s) (hb : m.length + s.length + wt T ≤ 1000000000) : Calls Try.prog 6 #[.agg #[.string (st m), .string (st s), .slice a L c]] w fun e w' => e = .returned (.bool true) ∧ Below w.heap.size w w' := by
  obtain ⟨H, hH⟩ : ∃ H, w.heap.size = H := ⟨_, rfl⟩
  obtain ⟨w1, hw1⟩ : ∃ w1, w1 = w.alloc (.cells #[.string (st m), .string (st s), .slice a L c] 24) := ⟨_, rfl⟩
  have b1 : Below w.heap.size w w1 := by rw [hw1]; exact (Below.refl _ w).alloc (Nat.le_refl _) _
  have k1 : Cells w1 H #[.string (st m), .string (st s), .slice a L c] 24 := by rw [hw1, ← hH]; exact Cells.new w _ 24
  have f1 := hv.below b1
  have htx := text_c w1 m s a L c T f1 hT hm hs (by omega)
  have hawk := fun W => awake_c W
  obtain ⟨M, hM⟩ : ∃ M, st m = M := ⟨_, rfl⟩
  obtain ⟨S, hS⟩ : ∃ S, st s = S := ⟨_, rfl⟩
  rw [hM, hS] at htx k1 hw1 ⊢
  have x0 : w1.cell? ⟨H, 0, none⟩ = some (.string M) := by rw [k1.cell]; rfl
  have x1 : w1.cell? ⟨H, 1, none⟩ = some (.string S) := by rw [k1.cell]; rfl
  have x2 : w1.cell? ⟨H, 2, none⟩ = some (.slice a L c) := by rw [k1.cell]; rfl
  rw [hH] at b1 ⊢
  have A : Aside (Below H w w1 ∧ w.heap.size = H ∧ H ≤ w1.heap.size) := ⟨b1, hH, Nat.le_of_lt k1.lt⟩
  cases hR : tx (m, s, T) with
  | none =>
    rw [hR] at htx
    replace htx : Calls Try.prog 17 #[.agg #[.string M, .string S, .slice a L c]] w1 fun e w' => e = .returned (.tuple #[.string ⟨#[]⟩, .bool false]) ∧ Below w1.heap.size w1 w' := htx
    clear hv hT hm hs hb b1 k1 f1 hM hS hR hH
    go_enter Try.func6, Try.ntmps6
    go_upto_region 1 with fail
    (try simp only [A.out.2.1])
    rw [← hw1]
    clear hw1
    go_wp2_with (first
      | (go_at_call 17; (with_reducible refine htx.mono ?_); rintro e1 w2 ⟨rfl, hb2⟩)
      | (go_at_call 16; (with_reducible refine (hawk _).mono ?_); rintro e3 w3 ⟨rfl, hb3⟩))
    go_ret
    have s2 := hb2.size
    obtain ⟨aB, aH, aS⟩ := A.out
    exact ⟨rfl, (aB.trans (hb2.mono aS)).trans (hb3.mono (by omega))⟩
  | some x =>
    rw [hR] at htx
    have hxo := tx_octs hR hm hs hT
    have hxl := tx_len hR
    simp only at hxl
    obtain ⟨X, hX⟩ : ∃ X, st x = X := ⟨_, rfl⟩
    have hty := fun W => type_ok2 x hxo (by omega) W (m, s, T) (ty_tx hR) X M S hX hM hS
    replace htx : Calls Try.prog 17 #[.agg #[.string M, .string S, .slice a L c]] w1 fun e w' => e = .returned (.tuple #[.string X, .bool true]) ∧ Below w1.heap.size w1 w' := htx.mono fun e w' h => ⟨by rw [← hX]; exact h.1, h.2⟩
    have hfq : ∀ W va n c2, FL W (.slice va n c2) T → Below w1.heap.size w1 W → Calls Try.prog 21 #[.slice va n c2, .slice a L c] W fun e w' => e = .returned (.bool true) ∧ Below W.heap.size W w' := fun W va n c2 hF hW => by
      have hl := hF.len
      have hwl := wt_len T
      have h := feq_c W (.slice va n c2) (.slice a L c) T T hF (f1.below hW) hT hT (by omega)
      rw [decide_eq_true rfl] at h
      exact h.mono fun e w' h => by
        obtain ⟨h1, n', h2⟩ := h
        exact ⟨h1, by rw [h2]; exact Below.drewN2 (Below.refl _ _) _⟩
    have hcs : ∀ W, Below w1.heap.size w1 W → W.cell? ⟨H, 0, none⟩ = some (.string M) ∧ W.cell? ⟨H, 1, none⟩ = some (.string S) ∧ W.cell? ⟨H, 2, none⟩ = some (.slice a L c) := fun W hW => by
      have k := k1.below hW k1.lt
      exact ⟨by rw [k.cell]; rfl, by rw [k.cell]; rfl, by rw [k.cell]; rfl⟩
    clear hv hT hm hs hb b1 k1 f1 hM hS hR hH hxo hxl hX
    go_enter Try.func6, Try.ntmps6
    go_upto_region 1 with fail
    (try simp only [A.out.2.1])
    rw [← hw1]
    clear hw1
    go_upto_region 5 with (first
      | (go_at_call 17; (with_reducible refine htx.mono ?_); rintro e1 w2 ⟨rfl, hb2⟩)
      | (go_at_call 9; (with_reducible refine (hty _).mono ?_); rintro e2 w3 ⟨va, n, c3, rfl, how3, hb3⟩))
    obtain ⟨K, hK⟩ : ∃ K, w3.heap.size = K := ⟨_, rfl⟩
    obtain ⟨w4, hw4⟩ : ∃ w4, w4 = w3.alloc (.cells #[.string M, .string S, .slice va n c3] 24) := ⟨_, rfl⟩
    have b34 : Below w3.heap.size w3 w4 := by rw [hw4]; exact (Below.refl _ w3).alloc (Nat.le_refl _) _
    have k4 : Cells w4 K #[.string M, .string S, .slice va n c3] 24 := by rw [hw4, ← hK]; exact Cells.new w3 _ 24
    have b13 : Below w1.heap.size w1 w3 := hb2.trans (hb3.mono hb2.size)
    have b14 : Below w1.heap.size w1 w4 := b13.trans (b34.mono b13.size)
    obtain ⟨y0, y1, y2⟩ := hcs w4 b14
    have z0 : w4.cell? ⟨K, 0, none⟩ = some (.string M) := by rw [k4.cell]; rfl
    have z1 : w4.cell? ⟨K, 1, none⟩ = some (.string S) := by rw [k4.cell]; rfl
    have z2 : w4.cell? ⟨K, 2, none⟩ = some (.slice va n c3) := by rw [k4.cell]; rfl
    replace hfq := hfq w4 va n c3 (how3.fl.below b34) b14
    (try simp only [hK])
    rw [← hw4]
    have A4 : Aside (Below w1.heap.size w1 w4) := b14
    clear hw4 hK b34 k4 b13 b14 hb2 hb3 how3 htx hty hcs x0 x1 x2
    go_wp2_with (first
      | (go_at_call 21; (with_reducible refine hfq.mono ?_); rintro e5 w5 ⟨rfl, hb5⟩)
      | (go_at_call 16; (with_reducible refine (hawk _).mono ?_); rintro e6 w6 ⟨rfl, hb6⟩))
    go_ret
    obtain ⟨aB, aH, aS⟩ := A.out
    have a4 := A4.out
    have s4 := a4.size
    have s5 := hb5.size
    exact ⟨rfl, ((aB.trans (a4.mono aS)).trans (hb5.mono (by omega))).trans (hb6.mono (by omega))⟩
end Go.Proofs.Ytdndlegfalmkaaa

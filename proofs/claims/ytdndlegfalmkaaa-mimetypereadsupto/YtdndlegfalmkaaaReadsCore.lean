/-
  MimetypeReads' walk.
-/
import Derived.Test.YtdndlegfalmkaaaFormsCore
namespace Go.Proofs.Ytdndlegfalmkaaa
open Go.RowKit
set_option linter.unusedVariables false
/-- A list of fields beside a block that is turned. -/
theorem FL.only {w u : World} {g : Nat} {v : Value} {T : List Fd} (h : FL w v T) (k : Only g w u) (hg : ∀ b o n c, v = .slice (some ⟨b, o, none⟩) n c → T ≠ [] → b ≠ g) : FL u v T := by
  obtain ⟨a, c, hv, hq⟩ := h
  refine ⟨a, c, hv, ?_⟩
  rcases hq with e | ⟨b, o, ha, hx⟩
  · exact Or.inl e
  · by_cases hT : T = []
    · exact Or.inl hT
    · have hb : b ≠ g := hg b o _ c (by rw [hv, ha]) hT
      exact Or.inr ⟨b, o, ha, fun i f hf => by
        obtain ⟨h1, h2⟩ := hx i f hf
        exact ⟨(k.cell (p := ⟨b, o + i * 2, none⟩) hb).trans h1, (k.cell (p := ⟨b, o + i * 2 + 1, none⟩) hb).trans h2⟩⟩
set_option maxHeartbeats 4000000 in
theorem reads_core (w : World) (l : List Nat) (ho : Oct l) (hb : l.length ≤ 1000000000) : Calls Try.prog 3 #[.string (st l)] w fun e w' => e = .returned (.bool true) ∧ Below w.heap.size w w' := by
  have hawk := fun W => awake_c W
  obtain ⟨U, hU⟩ : ∃ U, st l = U := ⟨_, rfl⟩
  obtain ⟨M, S, q, T, hT, hTl, hty, hrt⟩ : ∃ (M S : ByteArray) (q : Bool) (T : List Fd), OctF T ∧ T.length ≤ l.length ∧ (∀ W, Calls Try.prog 9 #[.string U] W fun e w' => ∃ va n c, e = .returned (.tuple #[.agg #[.string M, .string S, .slice va n c], .bool q]) ∧ Ow w' W.heap.size 29 2 (.slice va n c) n (fc T) ∧ Below W.heap.size W w') ∧ (∀ W, Calls Try.prog 10 #[.string U] W fun e w' => ∃ va n c, e = .returned (.tuple #[.agg #[.string M, .string S, .slice va n c], .bool q]) ∧ Ow w' W.heap.size 29 2 (.slice va n c) n (fc T) ∧ Below W.heap.size W w') := by
    rw [← hU]
    cases hR : ty l with
    | none =>
      refine ⟨⟨#[]⟩, ⟨#[]⟩, false, [], by simp [OctF], by simp, fun W => ?_, fun W => ?_⟩
      · exact (type_no l ho (by omega) W hR).mono fun e w' h => ⟨none, 0, 0, h.1, Ow.nil h.2.size, h.2⟩
      · refine (rty_c l ho (by omega) W).mono fun e w' h => ?_
        obtain ⟨h1, h2⟩ := h
        rw [hR] at h1
        rcases h1 with ⟨t, va, n, c, k1, _⟩ | ⟨_, k2⟩
        · cases k1
        · exact ⟨none, 0, 0, k2, Ow.nil h2.size, h2⟩
    | some t =>
      obtain ⟨_, _, _, t4⟩ := ty_out hR
      have hwl := wt_len t.2.2
      refine ⟨st t.1, st t.2.1, true, t.2.2, (ty_oct ho hR).2.2, by omega, fun W => ?_, fun W => ?_⟩
      · exact type_ok2 l ho (by omega) W t hR _ _ _ rfl rfl rfl
      · refine (rty_c l ho (by omega) W).mono fun e w' h => ?_
        obtain ⟨h1, h2⟩ := h
        rw [hR] at h1
        rcases h1 with ⟨t', va, n, c, k1, k2, k3⟩ | ⟨k1, _⟩
        · cases k1
          exact ⟨va, n, c, k2, k3, h2⟩
        · cases k1
  have htk := fun W => token_c l ho (by omega) W
  have hrtk := fun W => rtoken_c l ho (by omega) W
  have hlo := fun W => lower_c l ho (by omega) W
  have hrlo := fun W => rlower_c l ho (by omega) W
  obtain ⟨kt, hkt⟩ : ∃ kt, tok l = kt := ⟨_, rfl⟩
  obtain ⟨V, hV⟩ : ∃ V, st (low l) = V := ⟨_, rfl⟩
  rw [hU, hkt] at htk hrtk
  rw [hU, hV] at hlo hrlo
  rw [hU]
  have hsame : ∀ W va n c vb m d, FL W (.slice va n c) T → FL W (.slice vb m d) T → Calls Try.prog 11 #[.agg #[.string M, .string S, .slice va n c], .agg #[.string M, .string S, .slice vb m d]] W fun e w' => e = .returned (.bool true) ∧ Below W.heap.size W w' := fun W va n c vb m d h1 h2 => same_c W M S va vb n c m d T h1 h2 hT (by have := h1.len; omega)
  have A0 : Aside (T.length ≤ 1000000000) := by show _ ≤ _; omega
  clear hU hT hTl ho hb hkt hV
  have hty1 := hty w
  go_enter Try.func3, Try.ntmps3
  go_upto_region 2 with (go_at_call 9; (with_reducible refine hty1.mono ?_); rintro e1 w1 ⟨va, n, c, rfl, how1, hb1⟩)
  obtain ⟨H, hH⟩ : ∃ H, w1.heap.size = H := ⟨_, rfl⟩
  obtain ⟨w2, hw2⟩ : ∃ w2, w2 = w1.alloc (.cells #[.string M, .string S, .slice va n c] 24) := ⟨_, rfl⟩
  have k2 : Cells w2 H #[.string M, .string S, .slice va n c] 24 := by rw [hw2, ← hH]; exact Cells.new w1 _ 24
  have b12 : Below w1.heap.size w1 w2 := by rw [hw2]; exact (Below.refl _ w1).alloc (Nat.le_refl _) _
  have ow2 := how1.below b12 (Nat.le_refl _)
  have hrt2 := hrt w2
  have A2 : Aside (Cells w2 H #[.string M, .string S, .slice va n c] 24 ∧ Ow w2 w.heap.size 29 2 (.slice va n c) n (fc T) ∧ Below w.heap.size w w2 ∧ w.heap.size ≤ w2.heap.size) := ⟨k2, ow2, hb1.trans (b12.mono hb1.size), Nat.le_trans hb1.size b12.size⟩
  (try simp only [hH])
  rw [← hw2]
  clear hw2 hH k2 b12 ow2 how1 hb1 hty1
  go_upto_region 3 with (go_at_call 10; (with_reducible refine hrt2.mono ?_); rintro e3 w3 ⟨vb, m, d, rfl, how3, hb3⟩)
  obtain ⟨K, hK⟩ : ∃ K, w3.heap.size = K := ⟨_, rfl⟩
  obtain ⟨w4, hw4⟩ : ∃ w4, w4 = w3.alloc (.cells #[.string M, .string S, .slice vb m d] 24) := ⟨_, rfl⟩
  have k4 : Cells w4 K #[.string M, .string S, .slice vb m d] 24 := by rw [hw4, ← hK]; exact Cells.new w3 _ 24
  have b34 : Below w3.heap.size w3 w4 := by rw [hw4]; exact (Below.refl _ w3).alloc (Nat.le_refl _) _
  have b24 : Below w2.heap.size w2 w4 := hb3.trans (b34.mono hb3.size)
  have j4 := A2.out.1.below b24 A2.out.1.lt
  have ow4 := A2.out.2.1.below b24 (Nat.le_refl _)
  have ref4 := how3.below b34 (Nat.le_refl _)
  have hsm := hsame w4 va n c vb m d ow4.fl ref4.fl
  have x0 : w4.cell? ⟨H, 0, none⟩ = some (.string M) := by rw [j4.cell]; rfl
  have x1 : w4.cell? ⟨H, 1, none⟩ = some (.string S) := by rw [j4.cell]; rfl
  have x2 : w4.cell? ⟨H, 2, none⟩ = some (.slice va n c) := by rw [j4.cell]; rfl
  have y0 : w4.cell? ⟨K, 0, none⟩ = some (.string M) := by rw [k4.cell]; rfl
  have y1 : w4.cell? ⟨K, 1, none⟩ = some (.string S) := by rw [k4.cell]; rfl
  have y2 : w4.cell? ⟨K, 2, none⟩ = some (.slice vb m d) := by rw [k4.cell]; rfl
  have A4 : Aside (Cells w4 H #[.string M, .string S, .slice va n c] 24 ∧ Cells w4 K #[.string M, .string S, .slice vb m d] 24 ∧ Ow w4 w.heap.size 29 2 (.slice va n c) n (fc T) ∧ Ow w4 w2.heap.size 29 2 (.slice vb m d) m (fc T) ∧ Below w.heap.size w w4 ∧ w.heap.size ≤ w4.heap.size ∧ (∀ g, va = some ⟨g, 0, none⟩ → n ≠ 0 → g < w2.heap.size)) := by
    refine ⟨j4, k4, ow4, ref4, A2.out.2.2.1.trans (b24.mono A2.out.2.2.2), Nat.le_trans A2.out.2.2.2 b24.size, fun g hg hn => ?_⟩
    have := A2.out.2.1.lt_block (g := g) (by rw [hg]; rfl)
    exact this.2
  have hqq : (q != q) = false := by cases q <;> rfl
  (try simp only [hK])
  rw [← hw4]
  clear hw4 hK k4 b34 b24 j4 ow4 ref4 how3 hb3 hrt2 hrt
  go_wp2_with (go_at_call 11; (with_reducible refine hsm.mono ?_); rintro e5 w5 ⟨rfl, hb5⟩)
  clear hsm x0 x1 x2 y0 y1 y2 hqq
  obtain ⟨a4H, a4K, a4O, a4R, a4B, a4S, a4G⟩ := A4.out
  have j5 := a4H.below hb5 a4H.lt
  have k5 := a4K.below hb5 a4K.lt
  have ow5 := a4O.below hb5 (Nat.le_refl _)
  have ref5 := a4R.below hb5 (Nat.le_refl _)
  have b5 : Below w.heap.size w w5 := a4B.trans (hb5.mono a4S)
  have s5 : w.heap.size ≤ w5.heap.size := Nat.le_trans a4S hb5.size
  obtain ⟨gg, hgg⟩ : ∃ gg, n = 0 ∨ (va = some ⟨gg, 0, none⟩ ∧ w.heap.size ≤ gg ∧ gg < w2.heap.size ∧ ∃ cs, Cells w5 gg cs 29 ∧ n * 2 ≤ cs.size) := by
    rcases ow5.own.2 with ⟨_, h0⟩ | ⟨g, c', cur, hv, hg, hh, hc, _, hs, _⟩
    · exact ⟨0, Or.inl h0⟩
    · by_cases hn : n = 0
      · exact ⟨0, Or.inl hn⟩
      · injection hv with hv1 hv2 hv3
        exact ⟨g, Or.inr ⟨hv1, hg, a4G g hv1 hn, cur, hh, by rw [hs]; subst hv3; omega⟩⟩
  have hnb : n ≤ 1000000000 := by
    have := ow5.fl.len
    have := A0.out
    omega
  have A5 : Aside (Cells w5 H #[.string M, .string S, .slice va n c] 24 ∧ Cells w5 K #[.string M, .string S, .slice vb m d] 24 ∧ Ow w5 w2.heap.size 29 2 (.slice vb m d) m (fc T) ∧ Below w.heap.size w w5 ∧ w.heap.size ≤ w5.heap.size ∧ n ≤ 1000000000 ∧ (n = 0 ∨ (va = some ⟨gg, 0, none⟩ ∧ w.heap.size ≤ gg ∧ gg < w2.heap.size ∧ ∃ cs, Cells w5 gg cs 29 ∧ n * 2 ≤ cs.size))) := ⟨j5, k5, ref5, b5, s5, hnb, hgg⟩
  clear a4H a4K a4O a4R a4B a4S a4G j5 k5 ow5 ref5 b5 s5 hgg hnb hb5 A4 A2
  go_loopg [7] n (fun g s7 wr => ∃ k : Nat, s7 = .int .i64 k ∧ Aside (k + g = n ∧ Cells wr H #[.string M, .string S, .slice va n c] 24 ∧ ((n = 0 ∧ wr = w5) ∨ (n ≠ 0 ∧ Only gg w5 wr ∧ ∃ cs, Cells wr gg cs 29 ∧ n * 2 ≤ cs.size))))
  case atStart =>
    obtain ⟨a1, a2, a3, a4, a5, a6, a7⟩ := A5.out
    refine ⟨0, rfl, by omega, a1, ?_⟩
    by_cases h0 : n = 0
    · exact Or.inl ⟨h0, rfl⟩
    · rcases a7 with h | ⟨_, _, _, cs, h⟩
      · exact absurd h h0
      · exact Or.inr ⟨h0, Only.refl _ _, cs, h⟩
  case round =>
    obtain ⟨k, rfl, hI⟩ := hrel
    obtain ⟨hkg, hj, hst⟩ := hI.out
    have c2 : wr.cell? ⟨H, 2, none⟩ = some (.slice va n c) := by rw [hj.cell]; rfl
    by_cases hk : k < n
    · have hki : ((k : Int) < (n : Int)) = True := eq_true (by omega)
      have hkn : (k < n) = True := eq_true hk
      obtain ⟨a1, a2, a3, a4, a5, a6, a7⟩ := A5.out
      have hkb : (k : Int) < 1000000000000000 := by omega
      rcases a7 with h | ⟨hva, hg1, hg2, _⟩
      · omega
      rcases hst with ⟨h, _⟩ | ⟨_, ho, cs, hc, hcs⟩
      · omega
      subst hva
      have y0 : (wr.cell? ⟨gg, k * 2, none⟩).isSome = true := by rw [hc.cell]; simp; omega
      have y1 : (wr.cell? ⟨gg, k * 2 + 1, none⟩).isSome = true := by rw [hc.cell]; simp; omega
      obtain ⟨v0, hv0⟩ := Option.isSome_iff_exists.1 y0
      obtain ⟨v1, hv1⟩ := Option.isSome_iff_exists.1 y1
      have f0 := hc.frozen (k * 2)
      have f1 := hc.frozen (k * 2 + 1)
      have hgH : H ≠ gg := fun e => by
        subst e
        unfold Cells at hc hj
        rw [hc] at hj
        cases hj
      have k2 := (hc.set (k * 2) (.string ⟨#[]⟩)).set (k * 2 + 1) (.string ⟨#[]⟩)
      have o2 := (ho.setCell (k * 2) (.string ⟨#[]⟩)).setCell (k * 2 + 1) (.string ⟨#[]⟩)
      have j2 := hj.only (((Only.refl gg wr).setCell (k * 2) (.string ⟨#[]⟩)).setCell (k * 2 + 1) (.string ⟨#[]⟩)) hgH
      have A6 : Aside (k + gk = n ∧ k < n ∧ Cells ((wr.setCell ⟨gg, k * 2, none⟩ (.string ⟨#[]⟩)).setCell ⟨gg, k * 2 + 1, none⟩ (.string ⟨#[]⟩)) H #[.string M, .string S, .slice (some ⟨gg, 0, none⟩) n c] 24 ∧ Only gg w5 ((wr.setCell ⟨gg, k * 2, none⟩ (.string ⟨#[]⟩)).setCell ⟨gg, k * 2 + 1, none⟩ (.string ⟨#[]⟩)) ∧ ∃ cs, Cells ((wr.setCell ⟨gg, k * 2, none⟩ (.string ⟨#[]⟩)).setCell ⟨gg, k * 2 + 1, none⟩ (.string ⟨#[]⟩)) gg cs 29 ∧ n * 2 ≤ cs.size) := ⟨hkg, hk, j2, o2, _, k2, by simpa using hcs⟩
      clear hI hkg hj hk a1 a2 a3 a4 a5 a6 hg1 hg2 ho hc hcs y0 y1 hgH k2 o2 j2
      go_wp2_with fail
      obtain ⟨b1, b2, b3, b4, b5⟩ := A6.out
      go_roundg (gk - 1)
      case measure => omega
      case rel => exact ⟨k + 1, by go_num, by omega, b3, Or.inr ⟨by omega, b4, b5⟩⟩
    · have hki : ((k : Int) < (n : Int)) = False := eq_false (by omega)
      have hkn : (k < n) = False := eq_false hk
      obtain ⟨a1, a2, a3, a4, a5, a6, a7⟩ := A5.out
      have hK2 : Cells wr K #[.string M, .string S, .slice vb m d] 24 ∧ FL wr (.slice vb m d) T ∧ Below w.heap.size w wr := by
        rcases hst with ⟨_, e⟩ | ⟨h0, ho, cs, hc, _⟩
        · rw [e]
          exact ⟨a2, a3.fl, a4⟩
        · rcases a7 with h | ⟨hva, hg1, hg2, cs5, hc5, _⟩
          · exact absurd h h0
          · have hKg : K ≠ gg := fun e => by
              subst e
              unfold Cells at hc5 a2
              rw [hc5] at a2
              cases a2
            refine ⟨a2.only ho hKg, a3.fl.only ho (fun b o n' c' hv hT => ?_), a4.trans (ho.below hg1)⟩
            rcases a3.own.2 with ⟨h1, _⟩ | ⟨g, c1, cur, h1, h2, _⟩
            · rw [h1] at hv; cases hv
            · rw [h1] at hv
              cases hv
              omega
      obtain ⟨k6, f6, b6⟩ := hK2
      have hty6 := hty wr
      have A6 : Aside (Cells wr K #[.string M, .string S, .slice vb m d] 24 ∧ FL wr (.slice vb m d) T ∧ Below w.heap.size w wr ∧ w.heap.size ≤ wr.heap.size) := ⟨k6, f6, b6, b6.size⟩
      clear hI hkg hj hst hk a1 a2 a3 a4 a5 a6 a7 k6 f6 b6 hty A5
      go_upto_region 10 with (go_at_call 9; (with_reducible refine hty6.mono ?_); rintro e7 w7 ⟨vc, p, e, rfl, how7, hb7⟩)
      obtain ⟨P, hP⟩ : ∃ P, w7.heap.size = P := ⟨_, rfl⟩
      obtain ⟨w8, hw8⟩ : ∃ w8, w8 = w7.alloc (.cells #[.string M, .string S, .slice vc p e] 24) := ⟨_, rfl⟩
      have p8 : Cells w8 P #[.string M, .string S, .slice vc p e] 24 := by rw [hw8, ← hP]; exact Cells.new w7 _ 24
      have b78 : Below w7.heap.size w7 w8 := by rw [hw8]; exact (Below.refl _ w7).alloc (Nat.le_refl _) _
      have br8 : Below wr.heap.size wr w8 := hb7.trans (b78.mono hb7.size)
      have k8 := A6.out.1.below br8 A6.out.1.lt
      have hsm := hsame w8 vc p e vb m d (how7.fl.below b78) (A6.out.2.1.below br8)
      have x0 : w8.cell? ⟨P, 0, none⟩ = some (.string M) := by rw [p8.cell]; rfl
      have x1 : w8.cell? ⟨P, 1, none⟩ = some (.string S) := by rw [p8.cell]; rfl
      have x2 : w8.cell? ⟨P, 2, none⟩ = some (.slice vc p e) := by rw [p8.cell]; rfl
      have y0 : w8.cell? ⟨K, 0, none⟩ = some (.string M) := by rw [k8.cell]; rfl
      have y1 : w8.cell? ⟨K, 1, none⟩ = some (.string S) := by rw [k8.cell]; rfl
      have y2 : w8.cell? ⟨K, 2, none⟩ = some (.slice vb m d) := by rw [k8.cell]; rfl
      have A8 : Aside (Below w.heap.size w w8 ∧ w.heap.size ≤ w8.heap.size) := ⟨A6.out.2.2.1.trans (br8.mono A6.out.2.2.2), by have := A6.out.2.2.2; have := br8.size; omega⟩
      have hkk : (kt == kt) = true := by cases kt <;> rfl
      (try simp only [hP])
      rw [← hw8]
      clear hw8 hP p8 b78 br8 k8 how7 hb7 hty6 c2 hsame
      go_wp2_with (first
        | (go_at_call 11; (with_reducible refine hsm.mono ?_); rintro e9 w9 ⟨rfl, hb9⟩)
        | (go_at_call 12; (with_reducible refine (htk _).mono ?_); rintro e10 w10 ⟨rfl, hw10⟩; have hw10' := hw10.symm; subst hw10')
        | (go_at_call 13; (with_reducible refine (hrtk _).mono ?_); rintro e11 w11 ⟨rfl, hw11⟩; have hw11' := hw11.symm; subst hw11')
        | (go_at_call 14; (with_reducible refine (hlo _).mono ?_); rintro e12 w12 ⟨rfl, hb12⟩)
        | (go_at_call 15; (with_reducible refine (hrlo _).mono ?_); rintro e13 w13 ⟨rfl, hb13⟩)
        | (go_at_call 16; (with_reducible refine (hawk _).mono ?_); rintro e14 w14 ⟨rfl, hb14⟩))
      go_ret
      obtain ⟨q1, q2⟩ := A8.out
      have s9 := hb9.size
      have s12 := hb12.size
      have s13 := hb13.size
      exact ⟨rfl, (((q1.trans (hb9.mono (by omega))).trans (hb12.mono (by omega))).trans (hb13.mono (by omega))).trans (hb14.mono (by omega))⟩
end Go.Proofs.Ytdndlegfalmkaaa

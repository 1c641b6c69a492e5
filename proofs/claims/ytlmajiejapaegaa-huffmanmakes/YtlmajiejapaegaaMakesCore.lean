/-
  HuffmanMakes, behind the opening of its arguments: the call answers true, and what lay in memory is as it was.
  Conditions: the program keeps its contracts; the lengths lie in memory.
-/
import Derived.Test.YtlmajiejapaegaaApp
namespace Go.Proofs.Ytlmajiejapaegaa
open Go.RowKit
set_option linter.unusedVariables false
theorem rnew_err (a : Option Addr) (zs : List Int) (L C e0 : Nat) (w : World) (h : Lens w a zs) (hL : zs.length = L) (hLb : L < 140737488355328) (he : nerr zs = e0) (h0 : e0 ≠ 0) :
    Calls Try.prog 11 #[.slice a L C] w fun e w' => e = .returned (.tuple #[.pointer none, .int .i64 (e0 : Int)]) ∧ w = w' := by
  unfold nerr at he
  by_cases h1 : Okl zs
  · rw [if_neg (fun hn => hn h1)] at he
    by_cases h2 : 32768 < kr (lens zs)
    · rw [if_pos h2] at he; subst he
      exact rnew_over a zs L C w h hL hLb h1 h2
    · rw [if_neg h2] at he
      by_cases h3 : Under (lens zs)
      · rw [if_pos h3] at he; subst he
        refine (rnew_rest a zs L C w h hL h1 (by omega)).mono fun e w' hh => ?_
        rcases hh with ⟨_, h4, h5⟩ | ⟨h4, _⟩
        · exact ⟨h4, h5⟩
        · exact absurd h3 h4
      · rw [if_neg h3] at he; exact absurd he.symm h0
  · rw [if_pos h1] at he; subst he
    exact rnew_arg a zs L C w h hL hLb h1
theorem rnew_ok (a : Option Addr) (zs : List Int) (L C : Nat) (w : World) (h : Lens w a zs) (hL : zs.length = L) (he : nerr zs = 0) :
    Calls Try.prog 11 #[.slice a L C] w fun e w' => ∃ T, e = .returned (.tuple #[.pointer (some ⟨T, 0, none⟩), .int .i64 0]) ∧ Tb w' T (lens zs) ∧ Below w.heap.size w w' ∧ ∀ u, (∀ k, w.heap.size ≤ k → k < w'.heap.size → u.heap[k]? = w'.heap[k]?) → Tb u T (lens zs) := by
  obtain ⟨h1, h2, h3⟩ := nerr_ok he
  refine (rnew_rest a zs L C w h hL h1 h2).mono fun e w' hh => ?_
  rcases hh with ⟨h4, _⟩ | ⟨_, h4⟩
  · exact absurd h4 h3
  · exact h4
variable {PT : World → Nat → Nat → Nat → List Nat → Prop}
/-- Both tables tell the same code of any number. -/
theorem cod_c (hu : Hu PT) {w5 : World} {lo hi T Tq L : Nat} {zs : List Int} (hp : PT w5 lo hi T (lens zs)) (hh : hi ≤ w5.heap.size) (hq : Tb w5 Tq (lens zs)) (hL : zs.length = L) (he : nerr zs = 0) (s : Int) :
    ∃ (c n : Nat) (ok : Bool), ∀ W, Below w5.heap.size w5 W → Calls Try.prog 14 #[.pointer (some ⟨T, 0, none⟩), .int .i64 s] W (fun e W' => e = .returned (.tuple #[.int .u32 (c : Int), .int .i64 (n : Int), .bool ok]) ∧ Below W.heap.size W W') ∧ Calls Try.prog 15 #[.pointer (some ⟨Tq, 0, none⟩), .int .i64 s] W (fun e W' => e = .returned (.tuple #[.int .u32 (c : Int), .int .i64 (n : Int), .bool ok]) ∧ W = W') := by
  obtain ⟨h1, h2, h3⟩ := nerr_ok he
  by_cases hs : ∃ (i n : Nat), s = (i : Int) ∧ (lens zs)[i]? = some n ∧ 0 < n
  · obtain ⟨i, n, rfl, hi, hn⟩ := hs
    refine ⟨code (lens zs) i n, n, true, fun W hW => ⟨hu.code_yes _ _ T _ i n _ W (hu.below hp hW hh) hi hn rfl, ?_⟩⟩
    exact rcode_c Tq _ L i n _ W (hq.below hW) (by rw [lens_len]; exact hL) (by rw [← kr_part (lens_15 h1)]; exact h2) hi hn (lens_15 h1 n (List.mem_of_getElem? hi)) rfl
  · exact ⟨0, 0, false, fun W hW => ⟨hu.code_no _ _ T _ s W (hu.below hp hW hh) hs, rcode_no Tq _ L s W (hq.below hW) (by rw [lens_len]; exact hL) hs⟩⟩
set_option maxRecDepth 100000 in
set_option maxHeartbeats 8000000 in
theorem makes_core (hu : Hu PT) (w : World) (a : Option Addr) (zs : List Int) (L C : Nat) (hl : Lens w a zs) (hL : zs.length = L) (hLC : L ≤ C) (hC : L * 8 < 140737488355328) (hz : a = none → L = 0 ∧ C = 0) (mr : Int) :
    Calls Try.prog 3 #[.slice a L C, .int .i64 mr] w fun e w' => e = .returned (.bool true) ∧ Below w.heap.size w w' := by
  have AB : Aside (Lens w a zs ∧ zs.length = L ∧ L ≤ C ∧ L * 8 < 140737488355328 ∧ (a = none → L = 0 ∧ C = 0)) := ⟨hl, hL, hLC, hC, hz⟩
  obtain ⟨H, hH⟩ : ∃ H, w.heap.size = H := ⟨_, rfl⟩
  have AW : Aside (w.heap.size = H) := hH
  rw [hH]
  clear hl hL hLC hC hz
  obtain ⟨r, ok, hrk⟩ : ∃ (r : Nat) (ok : Bool), (Okl zs ∧ r = kr (lens zs) ∧ ok = true) ∨ (¬ Okl zs ∧ r = 0 ∧ ok = false) := by
    by_cases h : Okl zs
    · exact ⟨_, true, Or.inl ⟨h, rfl, rfl⟩⟩
    · exact ⟨0, false, Or.inr ⟨h, rfl, rfl⟩⟩
  have AK : Aside ((Okl zs ∧ r = kr (lens zs) ∧ ok = true) ∨ (¬ Okl zs ∧ r = 0 ∧ ok = false)) := hrk
  clear hrk
  go_enter Try.func3, Try.ntmps3
  go_upto_region 2 with (at_builtin; refine wpList_appn _ rfl (.tmp 28) (.tmp 29) rfl w (by rfl) H AW.out.symm (by rfl) a zs L C AB.out.2.1 (by rfl) AB.out.2.2.2.2 AB.out.1 (by rw [AB.out.2.1]; exact Nat.le_of_lt AB.out.2.2.2.1) ?_; intro v1 w1 h1)
  obtain ⟨a1, C1, hv1, hl1, hc1, hs1⟩ := h1.shape
  rw [AB.out.2.1] at hv1 hc1
  subst hv1
  have b1 := h1.bel
  have A1 : Aside (Below w.heap.size w w1 ∧ Lens w1 a1 zs ∧ L ≤ C1 ∧ Wz w1 a1 w.heap.size w1.heap.size L) := by
    refine ⟨b1, hl1, hc1, ?_⟩
    rcases hl1 with e | ⟨b, o, e, _⟩
    · left; have := AB.out.2.1; rw [e] at this; simpa using this.symm
    · obtain ⟨e1, _, e3, cur, e4, e5⟩ := hs1 b o none e
      subst e1
      exact Or.inr ⟨b, cur, e, e3, e4.lt, e4, by rw [← AB.out.2.1]; exact e5⟩
  have hk1 := hu.kraft a1 zs L C1 r ok w1 hl1 AB.out.2.1 hc1 (by have := AB.out; omega) AK.out
  clear h1 hl1 hc1 hs1 b1 hH
  go_upto_region 3 with (go_at_call 8; refine hk1.mono ?_; rintro e2 w2 ⟨rfl, hb2⟩)
  have bw2 : Below w.heap.size w w2 := A1.out.1.trans (hb2.mono A1.out.1.size)
  have hk2 := rkraft_c a zs L C r ok w2 (AB.out.1.below bw2) AB.out.2.1 (by have := AB.out; omega) AK.out
  have A2 : Aside (Below w.heap.size w w2 ∧ Below w1.heap.size w1 w2 ∧ Lens w2 a1 zs ∧ Wz w2 a1 w.heap.size w1.heap.size L ∧ w1.heap.size ≤ w2.heap.size) := ⟨bw2, hb2, A1.out.2.1.below hb2, A1.out.2.2.2.below hb2 (Nat.le_refl _), hb2.size⟩
  clear hk1 hb2 bw2
  go_upto_region 4 with (go_at_call 9; refine hk2.mono ?_; rintro e3 w3 ⟨rfl, rfl⟩)
  clear hk2
  have nr : ((r : Int) != (r : Int)) = false := by simp
  have no : (ok != ok) = false := by simp
  obtain ⟨e0, he0⟩ : ∃ e0, nerr zs = e0 := ⟨_, rfl⟩
  have ne : ((e0 : Int) != (e0 : Int)) = false := by simp
  by_cases hz0 : e0 = 0
  · subst hz0
    have hn1 := hu.new_ok a1 zs L C1 w2 A2.out.2.2.1 AB.out.2.1 A1.out.2.2.1 (by have := AB.out; omega) he0
    have AE : Aside (nerr zs = 0) := he0
    clear he0 ne
    go_upto_region 5 with (go_at_call 10; refine hn1.mono ?_; rintro e3 w3 ⟨T, rfl, hp3, hb3⟩)
    have bw3 : Below w.heap.size w w3 := A2.out.1.trans (hb3.mono A2.out.1.size)
    have hn2 := rnew_ok a zs L C w3 (AB.out.1.below bw3) AB.out.2.1 AE.out
    have A3 : Aside (PT w3 w2.heap.size w3.heap.size T (lens zs) ∧ Below w.heap.size w w3 ∧ Below w2.heap.size w2 w3) := ⟨hp3, bw3, hb3⟩
    clear hn1 hp3 hb3 bw3
    go_upto_region 10 with (go_at_call 11; refine hn2.mono ?_; rintro e4 w4 ⟨Tq, rfl, hq4, hb4, hk4⟩)
    obtain ⟨lo, hlo⟩ : ∃ lo, w2.heap.size = lo := ⟨_, rfl⟩
    obtain ⟨hi, hhi⟩ : ∃ hi, w3.heap.size = hi := ⟨_, rfl⟩
    obtain ⟨lo1, hlo1⟩ : ∃ lo1, w1.heap.size = lo1 := ⟨_, rfl⟩
    have A4 : Aside (PT w4 lo hi T (lens zs) ∧ (∀ u, (∀ k, hi ≤ k → k < w4.heap.size → u.heap[k]? = w4.heap[k]?) → Tb u Tq (lens zs)) ∧ Below w.heap.size w w4 ∧ Wz w4 a1 w.heap.size lo1 L ∧ lo1 ≤ lo ∧ lo ≤ hi ∧ hi ≤ w4.heap.size ∧ w.heap.size ≤ lo1) := by
      have k1 : PT w4 lo hi T (lens zs) := by rw [← hlo, ← hhi]; exact hu.below A3.out.1 hb4 (Nat.le_refl _)
      have b24 : Below w2.heap.size w2 w4 := A3.out.2.2.trans (hb4.mono A3.out.2.2.size)
      refine ⟨k1, by rw [← hhi]; exact hk4, A3.out.2.1.trans (hb4.mono A3.out.2.1.size), ?_, by rw [← hlo, ← hlo1]; exact A2.out.2.2.2.2, by rw [← hlo, ← hhi]; exact A3.out.2.2.size, by rw [← hhi]; exact hb4.size, by rw [← hlo1]; exact A1.out.1.size⟩
      rw [← hlo1]; exact A2.out.2.2.2.1.below b24 A2.out.2.2.2.2
    clear hn2 hq4 hb4 hk4 hlo hhi hlo1 A3 A2 A1
    have hLb : (L : Int) ≤ 320 := by have := (nerr_ok AE.out).1.1; have := AB.out; omega
    go_wp2_with fail
    go_loopg [14] L (fun g si wr => ∃ i : Nat, si = .int .i64 i ∧ Aside (i + g = L ∧ Mid w.heap.size lo1 w4 wr ∧ Wz wr a1 w.heap.size lo1 L))
    case atStart => exact ⟨0, rfl, ⟨by omega, Mid.refl _ _ _, A4.out.2.2.2.1⟩⟩
    case round =>
      obtain ⟨i, rfl, hI⟩ := hrel
      by_cases hiL : i < L
      · have hi' : (i : Int) < (L : Int) := by omega
        rcases hI.out.2.2 with e | ⟨b, cur, rfl, e2, e3, e4, e5⟩
        · omega
        obtain ⟨x, hx⟩ : ∃ x, cur[i]? = some x := ⟨_, Array.getElem?_eq_getElem (by omega)⟩
        have cx : wr.cell? ⟨b, i, none⟩ = some x := (e4.cell i).trans hx
        have fx : wr.frozen? ⟨b, i, none⟩ = false := e4.frozen i
        have A5 : Aside (i < L ∧ Mid w.heap.size lo1 w4 (wr.setCell ⟨b, i, none⟩ (.int .i64 1)) ∧ Wz (wr.setCell ⟨b, i, none⟩ (.int .i64 1)) (some ⟨b, 0, none⟩) w.heap.size lo1 L) := ⟨hiL, hI.out.2.1.set e2 e3 i _, Or.inr ⟨b, _, rfl, e2, e3, e4.set i _, by rw [Array.size_setIfInBounds]; exact e5⟩⟩
        clear hiL e2 e3 e4 e5 hx
        go_upto_region 12 with fail
        obtain ⟨wd, hwd⟩ : ∃ wd, wd = wr.setCell ⟨b, i, none⟩ (.int .i64 1) := ⟨_, rfl⟩
        rw [← hwd] at A5 ⊢
        clear hwd cx fx
        go_wp2_with fail
        have h1 := hI.out; have h2 := A5.out
        go_roundg (L - (i + 1))
        case measure => omega
        case rel => exact ⟨i + 1, by go_num, ⟨by omega, h2.2⟩⟩
      · have hi' : ¬ (i : Int) < (L : Int) := by omega
        obtain ⟨w5, hw5⟩ : ∃ w5, w5 = wr := ⟨_, rfl⟩
        subst hw5
        have hmid := hI.out.2.1
        have A5 : Aside (PT w5 lo hi T (lens zs) ∧ Tb w5 Tq (lens zs) ∧ Below w.heap.size w w5 ∧ hi ≤ w5.heap.size) := by
          obtain ⟨k1, k2, k3, _, k5, k6, k7, k8⟩ := A4.out
          exact ⟨hu.keep k1 fun j h1 h2 => hmid.block j (Or.inr (by omega)), k2 _ fun j h1 h2 => hmid.block j (Or.inr (by omega)), k3.trans hmid.below, by rw [hmid.size]; exact k7⟩
        clear hiL hI hmid A4
        have hsy := hu.symbols _ _ T L _ w5 A5.out.1 (by rw [lens_len]; exact AB.out.2.1)
        have nL : ((L : Int) != (L : Int)) = false := by simp
        go_upto_region 16 with (go_at_call 12; refine hsy.mono ?_; rintro e6 w6 ⟨rfl, hb6⟩)
        have A6 : Aside (Below w5.heap.size w5 w6) := hb6
        clear hsy hb6
        go_wp2_with fail
        go_loopg [15] (L + 2) (fun g ss wr => ∃ j : Nat, ss = .int .i64 ((j : Int) - 1) ∧ Aside (j + g = L + 2 ∧ Below w5.heap.size w5 wr))
        case atStart => exact ⟨0, rfl, ⟨by omega, A6.out⟩⟩
        case round =>
          obtain ⟨j, hss, hJ⟩ := hrel
          obtain ⟨s, hs⟩ : ∃ s : Int, (j : Int) - 1 = s := ⟨_, rfl⟩
          rw [hs] at hss
          subst hss
          have hb0 : Below w5.heap.size w5 wr := hJ.out.2
          by_cases hjL : j ≤ L + 1
          · have hsL : s ≤ (L : Int) := by omega
            have hs0 : (-1 : Int) ≤ s := by omega
            have hs1 : s ≤ 320 := by omega
            obtain ⟨c, n, k, hcod⟩ := cod_c hu A5.out.1 A5.out.2.2.2 A5.out.2.1 AB.out.2.1 AE.out s
            have h15 := (hcod wr hb0).1
            have CO : Aside (∀ W, Below w5.heap.size w5 W → _) := hcod
            have nc : ((c : Int) != (c : Int)) = false := by simp
            have nn : ((n : Int) != (n : Int)) = false := by simp
            have nk : (k != k) = false := by simp
            have AJ : Aside ((j : Int) - 1 = s ∧ j ≤ L + 1) := ⟨hs, hjL⟩
            clear hcod hs hjL
            go_upto_region 18 with (first
              | (go_at_call 14; refine h15.mono ?_; rintro e7 w7 ⟨rfl, hb7⟩
                 have b7 : Below w5.heap.size w5 w7 := hb0.trans (hb7.mono hb0.size)
                 have h16 := (CO.out w7 b7).2
                 have A7 : Aside (Below w5.heap.size w5 w7) := b7
                 clear hb7 b7)
              | (go_at_call 15; refine h16.mono ?_; rintro e8 w8 ⟨rfl, rfl⟩))
            clear h15 h16 nc nn nk
            go_wp2_with fail
            have h1 := hJ.out.1; have h2 := AJ.out
            go_roundg (L + 2 - (j + 1))
            case measure => omega
            case rel => exact ⟨j + 1, by congr 1; omega, ⟨by omega, A7.out⟩⟩
          · have hsL : ¬ s ≤ (L : Int) := by omega
            obtain ⟨c, n, k, hcod⟩ := cod_c hu A5.out.1 A5.out.2.2.2 A5.out.2.1 AB.out.2.1 AE.out mr
            have h15 := (hcod wr hb0).1
            have CO : Aside (∀ W, Below w5.heap.size w5 W → _) := hcod
            have nc : ((c : Int) == (c : Int)) = true := by simp
            have nn : ((n : Int) == (n : Int)) = true := by simp
            have nk : (k == k) = true := by simp
            clear hcod hs hjL
            go_wp2_with (first
              | (go_at_call 14; refine h15.mono ?_; rintro e7 w7 ⟨rfl, hb7⟩
                 have b7 : Below w5.heap.size w5 w7 := hb0.trans (hb7.mono hb0.size)
                 have h16 := (CO.out w7 b7).2
                 have A7 : Aside (Below w5.heap.size w5 w7) := b7
                 have haw := awake_c hu w7
                 clear hb7 b7)
              | (go_at_call 15; refine h16.mono ?_; rintro e8 w8 ⟨rfl, rfl⟩)
              | (go_at_call 13; refine haw.mono ?_; rintro e9 w9 ⟨rfl, hb9⟩))
            go_ret
            have h3 := A5.out.2.2.1.trans ((A7.out.trans (hb9.mono A7.out.size)).mono A5.out.2.2.1.size)
            rw [AW.out] at h3
            exact ⟨rfl, h3⟩
  · have hn1 := hu.new_err a1 zs L C1 e0 w2 A2.out.2.2.1 AB.out.2.1 A1.out.2.2.1 (by have := AB.out; omega) he0 hz0
    have AE : Aside (nerr zs = e0 ∧ e0 ≠ 0) := ⟨he0, hz0⟩
    clear he0 hz0
    go_upto_region 5 with (go_at_call 10; refine hn1.mono ?_; rintro e3 w3 ⟨rfl, hb3⟩)
    have bw3 : Below w.heap.size w w3 := A2.out.1.trans (hb3.mono A2.out.1.size)
    have hn2 := rnew_err a zs L C e0 w3 (AB.out.1.below bw3) AB.out.2.1 (by have := AB.out; omega) AE.out.1 AE.out.2
    have A3 : Aside (Below w.heap.size w w3) := bw3
    have hsy := hu.symbols_nil w3
    clear hn1 hb3 bw3
    go_wp2_with (first
      | (go_at_call 11; refine hn2.mono ?_; rintro e4 w4 ⟨rfl, rfl⟩)
      | (go_at_call 12; refine hsy.mono ?_; rintro e5 w5 ⟨rfl, hb5⟩
         have A5 : Aside (Below w.heap.size w w5) := A3.out.trans (hb5.mono A3.out.size)
         have haw := awake_c hu w5
         clear hb5)
      | (go_at_call 13; refine haw.mono ?_; rintro e6 w6 ⟨rfl, hb6⟩))
    go_ret
    have := A5.out.trans (hb6.mono A5.out.size)
    rw [AW.out] at this
    exact ⟨rfl, this⟩
end Go.Proofs.Ytlmajiejapaegaa

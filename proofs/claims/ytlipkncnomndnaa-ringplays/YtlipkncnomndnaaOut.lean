/-
  What moveOut of the ring comes to: it lays the bytes from d back on, as many as the list has, into the list.
  Conditions: the list is not longer than d, d is from 1 to the size; the list lies in a block of its own.
-/
import Derived.Test.YtlipkncnomndnaaCopy
namespace Go.Proofs.Ytlipkncnomndnaa
set_option linter.unusedVariables false
open Go.RowKit
theorem splice_nil (l : List Int) (k : Nat) : splice l k [] = l := by simp [splice]
theorem add_lit (b o j : Nat) : (⟨b, o, none⟩ : Addr).add j = ⟨b, o + j, none⟩ := by unfold Addr.add; split <;> simp_all
theorem src_drop {w : World} {K : Nat} {cs : List Int} (h : Cells w K (vb cs).toArray 5) (p n : Nat) : ∀ j z, ((cs.drop p).take n)[j]? = some z → w.cell? ((⟨K, p, none⟩ : Addr).add j) = some (.int .u8 z) := by
  intro j z hz
  rw [add_lit]
  refine h.byte ?_
  rw [List.getElem?_take] at hz
  split at hz
  · rwa [List.getElem?_drop] at hz
  · cases hz
theorem moveOut_a {H K N x h : Nat} {cs ys : List Int} (g n c d : Nat) (w : World) (l : Lo w H K N x h cs) (hg : Cells w g (vb ys).toArray 5) (hn : n ≤ ys.length) (hc : n ≤ c) (hcm : c ≤ 65536) (h1 : 1 ≤ d) (hd : d ≤ N) (hnd : n ≤ d) (hH : H ≠ g) (hK : K ≠ g) (hA : bck N x d + n ≤ N) (hn1 : 1 ≤ n) :
    Calls Try.prog 24 #[.pointer (some ⟨H, 0, none⟩), .slice (some ⟨g, 0, none⟩) n c, .int .i64 (d : Int)] w fun e w' => e = .returned (.tuple #[]) ∧ Cells w' g (vb (splice ys 0 ((cs.drop (bck N x d)).take n))).toArray 5 ∧ Only g w w' := by
  have h0 := l.c0
  have n2 := l.n2
  have hp := bck_lt l.xlt h1 hd
  have hcc := cell_c d w l hd
  have hlen := l.len
  generalize bck N x d = p at *
  have hpi : (p : Int) < (N : Int) := by omega
  have hmin : ¬ (N : Int) < (p : Int) + n := by omega
  have hmin2 : (p : Int) + n ≤ (N : Int) := by omega
  have hnc : (n : Int) ≤ (c : Int) := by omega
  have hn0 : ¬ n = 0 := by omega
  have hpn : ¬ p + n = p := by omega
  obtain ⟨X, hX⟩ : ∃ X, X = (cs.drop p).take n := ⟨_, rfl⟩
  have hXl : X.length = n := by rw [hX, List.length_take, List.length_drop]; omega
  have AX : Aside (X.length = n ∧ ∀ j z, X[j]? = some z → w.cell? ((⟨K, p, none⟩ : Addr).add j) = some (.int .u8 z)) := ⟨hXl, by rw [hX]; exact src_drop l.row p n⟩
  have AY : Aside (0 + X.length ≤ ys.length) := by show _ ≤ _; omega
  rw [← hX]
  clear hX hXl
  go_enter Try.func24, Try.ntmps24
  go_wp2_with fail
  refine hcc.mono ?_
  rintro e w' ⟨rfl, rfl⟩

  go_wp2_with (refine wpList_copy_only rfl (.tmp 24) (.tmp 32) rfl _ _ _ _ _ _ rfl rfl g 0 ys hg X (by rw [AX.out.1]; show n = min _ _; omega) (fun _ => ⟨rfl, _, rfl, AX.out.2⟩) AY.out ?_)
  intro w2 hg2 ho2
  rw [AX.out.1]
  have h02 := (ho2.cell (p := ⟨H, 0, none⟩) hH).trans h0
  clear h0 AY
  have hw1 : IntKind.i64.wrap ((p : Int) + n - p) = (n : Int) := by rw [IntKind.wrap_i64]; omega
  have hle0 : (0 : Int) ≤ (n : Int) := by omega
  go_wp2_with fail
  go_region_law (refine step_copy_only rfl (.tmp 39) (.tmp 46) rfl _ _ _ _ _ _ rfl rfl g 0 (splice ys 0 X) (by exact hg2) [] (by simp) (fun h => absurd h (by simp)) (by simp) ?_; intro w3 hg3 ho3)
  all_goals
    go_wp2_with fail
    all_goals
      first | go_end0 | (refine bodyPost_ret (results_none rfl _ _ _) rfl ?_)
      rw [splice_nil] at hg3
      exact ⟨rfl, hg3, ho2.trans ⟨ho3.os, ho3.tape, ho3.output, ho3.size, ho3.block⟩⟩
theorem moveOut_0 {H K N x h : Nat} {cs ys : List Int} (g c d : Nat) (w : World) (l : Lo w H K N x h cs) (hg : Cells w g (vb ys).toArray 5) (h1 : 1 ≤ d) (hd : d ≤ N) (hH : H ≠ g) (hK : K ≠ g) :
    Calls Try.prog 24 #[.pointer (some ⟨H, 0, none⟩), .slice (some ⟨g, 0, none⟩) 0 c, .int .i64 (d : Int)] w fun e w' => e = .returned (.tuple #[]) ∧ Cells w' g (vb ys).toArray 5 ∧ Only g w w' := by
  have h0 := l.c0
  have n2 := l.n2
  have hp := bck_lt l.xlt h1 hd
  have hcc := cell_c d w l hd
  generalize bck N x d = p at *
  have hpi : (p : Int) < (N : Int) := by omega
  have hmin2 : (p : Int) ≤ (N : Int) := by omega
  have hp0 : (0 : Int) ≤ (p : Int) := by omega
  go_enter Try.func24, Try.ntmps24
  go_wp2_with fail
  refine hcc.mono ?_
  rintro e w' ⟨rfl, rfl⟩
  go_wp2_with (refine wpList_copy_only rfl (.tmp 24) (.tmp 32) rfl _ _ _ _ _ _ rfl rfl g 0 ys hg [] (by show 0 = min _ _; omega) (fun h => absurd h (by simp)) (by simp) ?_)
  intro w2 hg2 ho2
  rw [splice_nil] at hg2
  have h02 := (ho2.cell (p := ⟨H, 0, none⟩) hH).trans h0
  clear h0
  have hw1 : IntKind.i64.wrap 0 = 0 := by rfl
  go_wp2_with fail
  go_region_law (refine step_copy_only rfl (.tmp 39) (.tmp 46) rfl _ _ _ _ _ _ rfl rfl g 0 ys (by exact hg2) [] (by first | rfl | simp) (fun h => absurd h (by simp)) (by simp) ?_; intro w3 hg3 ho3)
  all_goals
    go_wp2_with fail
    all_goals
      first | go_end0 | (refine bodyPost_ret (results_none rfl _ _ _) rfl ?_)
      rw [splice_nil] at hg3
      exact ⟨rfl, hg3, ho2.trans ⟨ho3.os, ho3.tape, ho3.output, ho3.size, ho3.block⟩⟩
theorem moveOut_b {H K N x h : Nat} {cs ys : List Int} (g n c d m r : Nat) (w : World) (l : Lo w H K N x h cs) (hg : Cells w g (vb ys).toArray 5) (hn : n ≤ ys.length) (hc : n ≤ c) (hcm : c ≤ 65536) (h1 : 1 ≤ d) (hd : d ≤ N) (hnd : n ≤ d) (hH : H ≠ g) (hK : K ≠ g) (hm : bck N x d + m = N) (hr : m + r = n) (hr1 : 1 ≤ r) (hm1 : 1 ≤ m) :
    Calls Try.prog 24 #[.pointer (some ⟨H, 0, none⟩), .slice (some ⟨g, 0, none⟩) n c, .int .i64 (d : Int)] w fun e w' => e = .returned (.tuple #[]) ∧ Cells w' g (vb (splice (splice ys 0 (cs.drop (bck N x d))) m (cs.take r))).toArray 5 ∧ Only g w w' := by
  have h0 := l.c0
  have n2 := l.n2
  have hp := bck_lt l.xlt h1 hd
  have hcc := cell_c d w l hd
  have hlen := l.len
  have hrN : r ≤ N := by omega
  generalize bck N x d = p at *
  have hpi : (p : Int) < (N : Int) := by omega
  have hmin : (N : Int) < (p : Int) + n := by omega
  have e1 : (N : Int) - (p : Int) = (m : Int) := by omega
  have e2 : N - p = m := by omega
  have e3 : (n : Int) - (m : Int) = (r : Int) := by omega
  have e4 : n - m = r := by omega
  have e5 : ¬ N = p := by omega
  have e6 : ¬ c = m := by omega
  have e7 : (m : Int) ≤ (n : Int) := by omega
  have e8 : (n : Int) ≤ (c : Int) := by omega
  have e9 : (r : Int) ≤ (N : Int) := by omega
  obtain ⟨X, hX⟩ : ∃ X, X = cs.drop p := ⟨_, rfl⟩
  obtain ⟨Y, hY⟩ : ∃ Y, Y = cs.take r := ⟨_, rfl⟩
  have hXl : X.length = m := by rw [hX, List.length_drop]; omega
  have hYl : Y.length = r := by rw [hY, List.length_take]; omega
  have AX : Aside (X.length = m ∧ ∀ j z, X[j]? = some z → w.cell? ((⟨K, p, none⟩ : Addr).add j) = some (.int .u8 z)) := ⟨hXl, fun j z hz => src_drop l.row p m j z (by rw [List.take_of_length_le (by rw [← hX]; omega), ← hX]; exact hz)⟩
  have AY : Aside (Y.length = r ∧ ∀ j z, Y[j]? = some z → w.cell? ((⟨K, 0, none⟩ : Addr).add j) = some (.int .u8 z)) := ⟨hYl, fun j z hz => src_drop l.row 0 r j z (by rw [List.drop_zero, ← hY]; exact hz)⟩
  have AF : Aside (0 + X.length ≤ ys.length ∧ m + Y.length ≤ (splice ys 0 X).length) := by
    have : 0 + X.length ≤ ys.length := by omega
    exact ⟨this, by rw [length_splice _ _ _ this]; omega⟩
  rw [← hX, ← hY]
  clear hX hY hXl hYl hm hr hlen
  go_enter Try.func24, Try.ntmps24
  go_wp2_with fail
  refine hcc.mono ?_
  rintro e w' ⟨rfl, rfl⟩
  go_wp2_with (refine wpList_copy_only rfl (.tmp 24) (.tmp 32) rfl _ _ _ _ _ _ rfl rfl g 0 ys hg X (by rw [AX.out.1]; exact (Nat.min_eq_left (by omega)).symm) (fun _ => ⟨rfl, _, rfl, AX.out.2⟩) AF.out.1 ?_)
  intro w2 hg2 ho2
  rw [AX.out.1]
  have h02 := (ho2.cell (p := ⟨H, 0, none⟩) hH).trans h0
  have AY2 : Aside (∀ j z, Y[j]? = some z → w2.cell? ((⟨K, 0, none⟩ : Addr).add j) = some (.int .u8 z)) := fun j z hz => by
    have := AY.out.2 j z hz
    rw [add_lit] at this ⊢
    exact (ho2.cell (p := ⟨K, 0 + j, none⟩) hK).trans this
  clear h0
  have hw1 : IntKind.i64.wrap ((m : Nat) : Int) = (m : Int) := by rw [IntKind.wrap_i64]; omega
  have hle0 : (0 : Int) ≤ (m : Int) := by omega
  have hle1 : (0 : Int) ≤ (r : Int) := by omega
  have hr0 : ¬ r = 0 := by omega
  go_wp2_with fail
  go_region_law (refine step_copy_only rfl (.tmp 39) (.tmp 46) rfl _ _ _ _ _ _ rfl rfl g m (splice ys 0 X) (by exact hg2) Y (by rw [AY.out.1]; exact (Nat.min_self _).symm) (fun _ => ⟨rfl, _, rfl, by exact AY2.out⟩) AF.out.2 ?_; intro w3 hg3 ho3)
  all_goals
    go_wp2_with fail
    first | go_end0 | (refine bodyPost_ret (results_none rfl _ _ _) rfl ?_)
    exact ⟨rfl, hg3, ho2.trans ⟨ho3.os, ho3.tape, ho3.output, ho3.size, ho3.block⟩⟩
end Go.Proofs.Ytlipkncnomndnaa

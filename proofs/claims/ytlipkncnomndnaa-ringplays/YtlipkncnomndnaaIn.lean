/-
  What moveIn of the ring comes to: the list's bytes are put in, the last ones of them at least.
  Conditions: the list lies in a block of its own, and is not longer than 65536.
-/
import Derived.Test.YtlipkncnomndnaaWin
namespace Go.Proofs.Ytlipkncnomndnaa
open Go.RowKit
set_option linter.unusedVariables false

set_option maxHeartbeats 2000000 in
theorem moveIn_1 {H K N x h : Nat} {cs xs ys : List Int} (g n : Nat) (w : World) (l : Lo w H K N x h cs) (hg : Cells w g (vb xs).toArray 5) (hn : xs.length = n) (hn2 : n ≤ 65536) (hH : H ≠ g) (hK : K ≠ g) (hnN : n ≤ N) (hy : ys = xs) (hf : x + n ≤ N) :
    Calls Try.prog 25 #[.pointer (some ⟨H, 0, none⟩), .slice (some ⟨g, 0, none⟩) n n] w fun e w' => e = .returned (.tuple #[]) ∧ Lo w' H K N (fwd N x n) (min (h + n) N) (splice cs x ys) ∧ Two H K w w' := by
  have h0 := l.c0
  have h1 := l.c1
  have n1 := l.n1
  have n2 := l.n2
  have xlt := l.xlt
  have hyl : ys.length = n := by rw [hy]; omega
  have hsrc : ∀ j z, ys[j]? = some z → w.cell? ⟨g, 0 + j, none⟩ = some (.int .u8 z) := by
    intro j z hz
    refine hg.byte ?_
    rw [hy] at hz
    rw [Nat.zero_add]; exact hz
  have e2 : (x : Int) < N := by omega
  have e3 : (x : Int) ≤ N := by omega
  have e4 : (0 : Int) ≤ (x : Int) := by omega
  have e5 : ¬ N = x := by omega
  have b1 : ¬ (0 : Int) < (n : Int) - N := by omega
  have b2 : (n : Int) ≤ (N : Int) := by omega
  have b3 : (n : Int) - N ≤ 0 := by omega
  obtain ⟨q, hqq⟩ : ∃ q, N - x = q := ⟨_, rfl⟩
  have hqm : n ≤ q := by omega
  have AX : Aside (∀ j z, ys[j]? = some z → w.cell? ((⟨g, 0, none⟩ : Addr).add j) = some (.int .u8 z)) := fun j z hz => by
    rw [add_lit]
    exact hsrc j z hz
  have AL : Aside (ys.length = n ∧ x + ys.length ≤ cs.length) := by
    have hc := l.len
    exact ⟨hyl, by omega⟩
  have c2 : (n : Int) ≤ (n : Int) := by omega
  have c3 : (0 : Int) ≤ (n : Int) := by omega
  have hw1 : IntKind.i64.wrap ((x : Nat) : Int) = (x : Int) := by rw [IntKind.wrap_i64]; omega
  have hw2 : IntKind.i64.wrap ((n : Nat) : Int) = (n : Int) := by rw [IntKind.wrap_i64]; omega
  clear hyl hsrc hy hf
  go_enter Try.func25, Try.ntmps25
  go_wp2_with fail
  go_region_law (refine step_copy_only rfl (.tmp 24) (.tmp 25) rfl _ _ _ _ _ _ rfl rfl K x cs (by exact l.row) ys (by rw [AL.out.1]; show n = min _ _; omega) (fun _ => ⟨rfl, _, rfl, by exact AX.out⟩) AL.out.2 ?_; intro w2 hg2 ho2)
  all_goals
    rw [AL.out.1]
    have h02 := (ho2.cell (p := ⟨H, 0, none⟩) l.ne).trans (show (w.drew).cell? ⟨H, 0, none⟩ = _ from h0)
    have l2 : Lo w2 H K N x h (splice cs x ys) := ⟨l.hd.drew.only ho2 l.ne, hg2, by rw [length_splice _ _ _ AL.out.2]; exact l.len, l.n1, l.n2, l.xlt, l.hle, l.ne⟩
    have t2 : Two H K w w2 := Two.snd ⟨ho2.os, ho2.tape, ho2.output, ho2.size, ho2.block⟩
    clear h0 h1 ho2 hg2
    go_wp2_with fail
    go_region_law (refine step_copy_only rfl (.tmp 30) (.tmp 33) rfl _ _ _ _ _ _ rfl rfl K 0 (splice cs x ys) (by exact l2.row) [] (by first | rfl | simp | (show 0 = min _ _; omega)) (fun h => absurd h (by simp)) (by simp) ?_; intro w3 hg3 ho3)
    all_goals
      rw [splice_nil] at hg3
      have l3 : Lo w3 H K N x h (splice cs x ys) := ⟨l2.hd.drew.only ho3 l.ne, hg3, l2.len, l.n1, l.n2, l.xlt, l.hle, l.ne⟩
      have t3 : Two H K w w3 := t2.trans (Two.snd ⟨ho3.os, ho3.tape, ho3.output, ho3.size, ho3.block⟩)
      clear h02 ho3 hg3
      go_wp2_with fail
      all_goals
        refine (move_c n _ l3 (by omega)).mono ?_
        rintro e w4 ⟨rfl, l4, ho4⟩
        go_wp2_with fail
        first | go_end0 | (refine bodyPost_ret (results_none rfl _ _ _) rfl ?_)
        exact ⟨rfl, l4, t3.trans (Two.fst ho4)⟩
set_option maxHeartbeats 2000000 in
theorem moveIn_2 {H K N x h : Nat} {cs xs ys : List Int} (g n q r : Nat) (w : World) (l : Lo w H K N x h cs) (hg : Cells w g (vb xs).toArray 5) (hn : xs.length = n) (hn2 : n ≤ 65536) (hH : H ≠ g) (hK : K ≠ g) (hnN : n ≤ N) (hy : ys = xs) (hq : x + q = N) (hr : q + r = n) (hr1 : 1 ≤ r) :
    Calls Try.prog 25 #[.pointer (some ⟨H, 0, none⟩), .slice (some ⟨g, 0, none⟩) n n] w fun e w' => e = .returned (.tuple #[]) ∧ Lo w' H K N (fwd N x n) (min (h + n) N) (splice (splice cs x (ys.take q)) 0 (ys.drop q)) ∧ Two H K w w' := by
  have h0 := l.c0
  have h1 := l.c1
  have n1 := l.n1
  have n2 := l.n2
  have xlt := l.xlt
  have hyl : ys.length = n := by rw [hy]; omega
  have hsrc : ∀ j z, ys[j]? = some z → w.cell? ⟨g, 0 + j, none⟩ = some (.int .u8 z) := by
    intro j z hz
    refine hg.byte ?_
    rw [hy] at hz
    rw [Nat.zero_add]; exact hz
  have e2 : (x : Int) < N := by omega
  have e3 : (x : Int) ≤ N := by omega
  have e4 : (0 : Int) ≤ (x : Int) := by omega
  have e5 : ¬ N = x := by omega
  have b1 : ¬ (0 : Int) < (n : Int) - N := by omega
  have b2 : (n : Int) ≤ (N : Int) := by omega
  have b3 : (n : Int) - N ≤ 0 := by omega
  have c1 : N - x = q := by omega
  have c2 : (q : Int) ≤ (n : Int) := by omega
  have c3 : (0 : Int) ≤ (q : Int) := by omega
  have c4 : ¬ n = q := by omega
  have c5 : n - q = r := by omega
  obtain ⟨X, hX⟩ : ∃ X, X = ys.take q := ⟨_, rfl⟩
  obtain ⟨Y, hY⟩ : ∃ Y, Y = ys.drop q := ⟨_, rfl⟩
  have hXl : X.length = q := by rw [hX, List.length_take]; omega
  have hYl : Y.length = r := by rw [hY, List.length_drop]; omega
  have AX : Aside (∀ j z, X[j]? = some z → w.cell? ((⟨g, 0, none⟩ : Addr).add j) = some (.int .u8 z)) := fun j z hz => by
    rw [add_lit]
    refine hsrc j z ?_
    rw [hX, List.getElem?_take] at hz
    split at hz
    · exact hz
    · cases hz
  have AY : Aside (∀ j z, Y[j]? = some z → w.cell? ((⟨g, 0 + q, none⟩ : Addr).add j) = some (.int .u8 z)) := fun j z hz => by
    rw [add_lit, Nat.add_assoc]
    refine hsrc (q + j) z ?_
    rw [hY, List.getElem?_drop] at hz
    exact hz
  have AL : Aside (X.length = q ∧ Y.length = r ∧ x + X.length ≤ cs.length ∧ 0 + Y.length ≤ (splice cs x X).length) := by
    have hc := l.len
    have : x + X.length ≤ cs.length := by omega
    exact ⟨hXl, hYl, this, by rw [length_splice _ _ _ this]; omega⟩
  rw [← hX, ← hY]
  clear hX hY hXl hYl
  have hw1 : IntKind.i64.wrap ((x : Nat) : Int) = (x : Int) := by rw [IntKind.wrap_i64]; omega
  have hw2 : IntKind.i64.wrap ((q : Nat) : Int) = (q : Int) := by rw [IntKind.wrap_i64]; omega
  clear hyl hsrc hy hq hr
  go_enter Try.func25, Try.ntmps25
  go_wp2_with fail
  go_region_law (refine step_copy_only rfl (.tmp 24) (.tmp 25) rfl _ _ _ _ _ _ rfl rfl K x cs (by exact l.row) X (by rw [AL.out.1]; show q = min _ _; omega) (fun _ => ⟨rfl, _, rfl, by exact AX.out⟩) AL.out.2.2.1 ?_; intro w2 hg2 ho2)
  all_goals
    rw [AL.out.1]
    have h02 := (ho2.cell (p := ⟨H, 0, none⟩) l.ne).trans (show (w.drew).cell? ⟨H, 0, none⟩ = _ from h0)
    have AY2 : Aside (∀ j z, Y[j]? = some z → w2.cell? ((⟨g, 0 + q, none⟩ : Addr).add j) = some (.int .u8 z)) := fun j z hz => by
      have := AY.out j z hz
      rw [add_lit] at this ⊢
      exact (ho2.cell (p := ⟨g, 0 + q + j, none⟩) (Ne.symm hK)).trans this
    have l2 : Lo w2 H K N x h (splice cs x X) := ⟨l.hd.drew.only ho2 l.ne, hg2, by rw [length_splice _ _ _ AL.out.2.2.1]; exact l.len, l.n1, l.n2, l.xlt, l.hle, l.ne⟩
    have t2 : Two H K w w2 := Two.snd ⟨ho2.os, ho2.tape, ho2.output, ho2.size, ho2.block⟩
    clear h0 h1 ho2 hg2
    go_wp2_with fail
    go_region_law (refine step_copy_only rfl (.tmp 30) (.tmp 33) rfl _ _ _ _ _ _ rfl rfl K 0 (splice cs x X) (by exact l2.row) Y (by rw [AL.out.2.1]; show r = min _ _; omega) (fun _ => ⟨rfl, ⟨g, 0 + q, none⟩, by simp, by exact AY2.out⟩) AL.out.2.2.2 ?_; intro w3 hg3 ho3)
    all_goals
      have l3 : Lo w3 H K N x h (splice (splice cs x X) 0 Y) := ⟨l2.hd.drew.only ho3 l.ne, hg3, by rw [length_splice _ _ _ AL.out.2.2.2]; exact l2.len, l.n1, l.n2, l.xlt, l.hle, l.ne⟩
      have t3 : Two H K w w3 := t2.trans (Two.snd ⟨ho3.os, ho3.tape, ho3.output, ho3.size, ho3.block⟩)
      clear h02 ho3 hg3
      go_wp2_with fail
      all_goals
        refine (move_c n _ l3 (by omega)).mono ?_
        rintro e w4 ⟨rfl, l4, ho4⟩
        go_wp2_with fail
        first | go_end0 | (refine bodyPost_ret (results_none rfl _ _ _) rfl ?_)
        exact ⟨rfl, l4, t3.trans (Two.fst ho4)⟩
set_option maxHeartbeats 2000000 in
theorem moveIn_3 {H K N x h : Nat} {cs xs ys : List Int} (g n k : Nat) (w : World) (l : Lo w H K N x h cs) (hg : Cells w g (vb xs).toArray 5) (hn : xs.length = n) (hn2 : n ≤ 65536) (hH : H ≠ g) (hK : K ≠ g) (hkn : k + N = n) (hk1 : 1 ≤ k) (hy : ys = xs.drop k) (hf : x + N ≤ N) :
    Calls Try.prog 25 #[.pointer (some ⟨H, 0, none⟩), .slice (some ⟨g, 0, none⟩) n n] w fun e w' => e = .returned (.tuple #[]) ∧ Lo w' H K N (fwd N x N) (min (h + N) N) (splice cs x ys) ∧ Two H K w w' := by
  have h0 := l.c0
  have h1 := l.c1
  have n1 := l.n1
  have n2 := l.n2
  have xlt := l.xlt
  have hyl : ys.length = N := by rw [hy, List.length_drop]; omega
  have hsrc : ∀ j z, ys[j]? = some z → w.cell? ⟨g, k + j, none⟩ = some (.int .u8 z) := by
    intro j z hz
    refine hg.byte ?_
    rw [hy, List.getElem?_drop] at hz
    exact hz
  have e2 : (x : Int) < N := by omega
  have e3 : (x : Int) ≤ N := by omega
  have e4 : (0 : Int) ≤ (x : Int) := by omega
  have e5 : ¬ N = x := by omega
  have b1 : (n : Int) - N = (k : Int) := by omega
  have b2 : ¬ (k : Int) < 0 := by omega
  have b3 : (0 : Int) < (k : Int) := by omega
  have b4 : (k : Int) ≤ (n : Int) := by omega
  have b5 : ¬ n = k := by omega
  have b6 : n - k = N := by omega
  have b7 : ¬ (n : Int) < (N : Int) := by omega
  have b8 : (N : Int) < (n : Int) := by omega
  obtain ⟨q, hqq⟩ : ∃ q, N - x = q := ⟨_, rfl⟩
  have hqm : N ≤ q := by omega
  have AX : Aside (∀ j z, ys[j]? = some z → w.cell? ((⟨g, k, none⟩ : Addr).add j) = some (.int .u8 z)) := fun j z hz => by
    rw [add_lit]
    exact hsrc j z hz
  have AL : Aside (ys.length = N ∧ x + ys.length ≤ cs.length) := by
    have hc := l.len
    exact ⟨hyl, by omega⟩
  have c2 : (N : Int) ≤ (N : Int) := by omega
  have c3 : (0 : Int) ≤ (N : Int) := by omega
  have hw1 : IntKind.i64.wrap ((x : Nat) : Int) = (x : Int) := by rw [IntKind.wrap_i64]; omega
  have hw2 : IntKind.i64.wrap ((N : Nat) : Int) = (N : Int) := by rw [IntKind.wrap_i64]; omega
  clear hyl hsrc hy hkn hk1 hf
  go_enter Try.func25, Try.ntmps25
  go_wp2_with fail
  go_region_law (refine step_copy_only rfl (.tmp 24) (.tmp 25) rfl _ _ _ _ _ _ rfl rfl K x cs (by exact l.row) ys (by rw [AL.out.1]; show N = min _ _; omega) (fun _ => ⟨rfl, _, rfl, by exact AX.out⟩) AL.out.2 ?_; intro w2 hg2 ho2)
  all_goals
    rw [AL.out.1]
    have h02 := (ho2.cell (p := ⟨H, 0, none⟩) l.ne).trans (show (w.drew).cell? ⟨H, 0, none⟩ = _ from h0)
    have l2 : Lo w2 H K N x h (splice cs x ys) := ⟨l.hd.drew.only ho2 l.ne, hg2, by rw [length_splice _ _ _ AL.out.2]; exact l.len, l.n1, l.n2, l.xlt, l.hle, l.ne⟩
    have t2 : Two H K w w2 := Two.snd ⟨ho2.os, ho2.tape, ho2.output, ho2.size, ho2.block⟩
    clear h0 h1 ho2 hg2
    go_wp2_with fail
    go_region_law (refine step_copy_only rfl (.tmp 30) (.tmp 33) rfl _ _ _ _ _ _ rfl rfl K 0 (splice cs x ys) (by exact l2.row) [] (by first | rfl | simp | (show 0 = min _ _; omega)) (fun h => absurd h (by simp)) (by simp) ?_; intro w3 hg3 ho3)
    all_goals
      rw [splice_nil] at hg3
      have l3 : Lo w3 H K N x h (splice cs x ys) := ⟨l2.hd.drew.only ho3 l.ne, hg3, l2.len, l.n1, l.n2, l.xlt, l.hle, l.ne⟩
      have t3 : Two H K w w3 := t2.trans (Two.snd ⟨ho3.os, ho3.tape, ho3.output, ho3.size, ho3.block⟩)
      clear h02 ho3 hg3
      go_wp2_with fail
      all_goals
        refine (move_c N _ l3 (by omega)).mono ?_
        rintro e w4 ⟨rfl, l4, ho4⟩
        go_wp2_with fail
        first | go_end0 | (refine bodyPost_ret (results_none rfl _ _ _) rfl ?_)
        exact ⟨rfl, l4, t3.trans (Two.fst ho4)⟩
set_option maxHeartbeats 2000000 in
theorem moveIn_4 {H K N x h : Nat} {cs xs ys : List Int} (g n k q r : Nat) (w : World) (l : Lo w H K N x h cs) (hg : Cells w g (vb xs).toArray 5) (hn : xs.length = n) (hn2 : n ≤ 65536) (hH : H ≠ g) (hK : K ≠ g) (hkn : k + N = n) (hk1 : 1 ≤ k) (hy : ys = xs.drop k) (hq : x + q = N) (hr : q + r = N) (hr1 : 1 ≤ r) :
    Calls Try.prog 25 #[.pointer (some ⟨H, 0, none⟩), .slice (some ⟨g, 0, none⟩) n n] w fun e w' => e = .returned (.tuple #[]) ∧ Lo w' H K N (fwd N x N) (min (h + N) N) (splice (splice cs x (ys.take q)) 0 (ys.drop q)) ∧ Two H K w w' := by
  have h0 := l.c0
  have h1 := l.c1
  have n1 := l.n1
  have n2 := l.n2
  have xlt := l.xlt
  have hyl : ys.length = N := by rw [hy, List.length_drop]; omega
  have hsrc : ∀ j z, ys[j]? = some z → w.cell? ⟨g, k + j, none⟩ = some (.int .u8 z) := by
    intro j z hz
    refine hg.byte ?_
    rw [hy, List.getElem?_drop] at hz
    exact hz
  have e2 : (x : Int) < N := by omega
  have e3 : (x : Int) ≤ N := by omega
  have e4 : (0 : Int) ≤ (x : Int) := by omega
  have e5 : ¬ N = x := by omega
  have b1 : (n : Int) - N = (k : Int) := by omega
  have b2 : ¬ (k : Int) < 0 := by omega
  have b3 : (0 : Int) < (k : Int) := by omega
  have b4 : (k : Int) ≤ (n : Int) := by omega
  have b5 : ¬ n = k := by omega
  have b6 : n - k = N := by omega
  have b7 : ¬ (n : Int) < (N : Int) := by omega
  have b8 : (N : Int) < (n : Int) := by omega
  have c1 : N - x = q := by omega
  have c2 : (q : Int) ≤ (N : Int) := by omega
  have c3 : (0 : Int) ≤ (q : Int) := by omega
  have c4 : ¬ N = q := by omega
  have c5 : N - q = r := by omega
  obtain ⟨X, hX⟩ : ∃ X, X = ys.take q := ⟨_, rfl⟩
  obtain ⟨Y, hY⟩ : ∃ Y, Y = ys.drop q := ⟨_, rfl⟩
  have hXl : X.length = q := by rw [hX, List.length_take]; omega
  have hYl : Y.length = r := by rw [hY, List.length_drop]; omega
  have AX : Aside (∀ j z, X[j]? = some z → w.cell? ((⟨g, k, none⟩ : Addr).add j) = some (.int .u8 z)) := fun j z hz => by
    rw [add_lit]
    refine hsrc j z ?_
    rw [hX, List.getElem?_take] at hz
    split at hz
    · exact hz
    · cases hz
  have AY : Aside (∀ j z, Y[j]? = some z → w.cell? ((⟨g, k + q, none⟩ : Addr).add j) = some (.int .u8 z)) := fun j z hz => by
    rw [add_lit, Nat.add_assoc]
    refine hsrc (q + j) z ?_
    rw [hY, List.getElem?_drop] at hz
    exact hz
  have AL : Aside (X.length = q ∧ Y.length = r ∧ x + X.length ≤ cs.length ∧ 0 + Y.length ≤ (splice cs x X).length) := by
    have hc := l.len
    have : x + X.length ≤ cs.length := by omega
    exact ⟨hXl, hYl, this, by rw [length_splice _ _ _ this]; omega⟩
  rw [← hX, ← hY]
  clear hX hY hXl hYl
  have hw1 : IntKind.i64.wrap ((x : Nat) : Int) = (x : Int) := by rw [IntKind.wrap_i64]; omega
  have hw2 : IntKind.i64.wrap ((q : Nat) : Int) = (q : Int) := by rw [IntKind.wrap_i64]; omega
  clear hyl hsrc hy hkn hk1 hq hr
  go_enter Try.func25, Try.ntmps25
  go_wp2_with fail
  go_region_law (refine step_copy_only rfl (.tmp 24) (.tmp 25) rfl _ _ _ _ _ _ rfl rfl K x cs (by exact l.row) X (by rw [AL.out.1]; show q = min _ _; omega) (fun _ => ⟨rfl, _, rfl, by exact AX.out⟩) AL.out.2.2.1 ?_; intro w2 hg2 ho2)
  all_goals
    rw [AL.out.1]
    have h02 := (ho2.cell (p := ⟨H, 0, none⟩) l.ne).trans (show (w.drew).cell? ⟨H, 0, none⟩ = _ from h0)
    have AY2 : Aside (∀ j z, Y[j]? = some z → w2.cell? ((⟨g, k + q, none⟩ : Addr).add j) = some (.int .u8 z)) := fun j z hz => by
      have := AY.out j z hz
      rw [add_lit] at this ⊢
      exact (ho2.cell (p := ⟨g, k + q + j, none⟩) (Ne.symm hK)).trans this
    have l2 : Lo w2 H K N x h (splice cs x X) := ⟨l.hd.drew.only ho2 l.ne, hg2, by rw [length_splice _ _ _ AL.out.2.2.1]; exact l.len, l.n1, l.n2, l.xlt, l.hle, l.ne⟩
    have t2 : Two H K w w2 := Two.snd ⟨ho2.os, ho2.tape, ho2.output, ho2.size, ho2.block⟩
    clear h0 h1 ho2 hg2
    go_wp2_with fail
    go_region_law (refine step_copy_only rfl (.tmp 30) (.tmp 33) rfl _ _ _ _ _ _ rfl rfl K 0 (splice cs x X) (by exact l2.row) Y (by rw [AL.out.2.1]; show r = min _ _; omega) (fun _ => ⟨rfl, ⟨g, k + q, none⟩, by simp, by exact AY2.out⟩) AL.out.2.2.2 ?_; intro w3 hg3 ho3)
    all_goals
      have l3 : Lo w3 H K N x h (splice (splice cs x X) 0 Y) := ⟨l2.hd.drew.only ho3 l.ne, hg3, by rw [length_splice _ _ _ AL.out.2.2.2]; exact l2.len, l.n1, l.n2, l.xlt, l.hle, l.ne⟩
      have t3 : Two H K w w3 := t2.trans (Two.snd ⟨ho3.os, ho3.tape, ho3.output, ho3.size, ho3.block⟩)
      clear h02 ho3 hg3
      go_wp2_with fail
      all_goals
        refine (move_c N _ l3 (by omega)).mono ?_
        rintro e w4 ⟨rfl, l4, ho4⟩
        go_wp2_with fail
        first | go_end0 | (refine bodyPost_ret (results_none rfl _ _ _) rfl ?_)
        exact ⟨rfl, l4, t3.trans (Two.fst ho4)⟩
theorem moveIn_r {H K N : Nat} {l xs : List Int} (g n : Nat) (w : World) (r : Rg w H K N l) (hg : Cells w g (vb xs).toArray 5) (hn : xs.length = n) (hn2 : n ≤ 65536) (hH : H ≠ g) (hK : K ≠ g) :
    Calls Try.prog 25 #[.pointer (some ⟨H, 0, none⟩), .slice (some ⟨g, 0, none⟩) n n] w fun e w' => e = .returned (.tuple #[]) ∧ Rg w' H K N (lastN N (l ++ xs)) ∧ Two H K w w' := by
  obtain ⟨x, cs, lo, hh⟩ := r.ex
  have hx := lo.xlt
  obtain ⟨ys, hy⟩ : ∃ ys, ys = lastN N xs := ⟨_, rfl⟩
  have hyl : ys.length = min n N := by rw [hy, lastN_length, hn]
  rw [← lastN_app, ← hy]
  have hq := in_holds (ys := ys) hh lo.len lo.xlt lo.hle (by omega) (min ys.length (N - x)) rfl
  have fin : ∀ w', Lo w' H K N (fwd N x ys.length) (min (l.length + ys.length) N) (splice (splice cs x (ys.take (min ys.length (N - x)))) 0 (ys.drop (min ys.length (N - x)))) → Rg w' H K N (lastN N (l ++ ys)) := fun w' h => ⟨_, _, by rw [lastN_length, List.length_append]; exact h, hq⟩
  by_cases c1 : n ≤ N
  · have e : ys = xs := by rw [hy, lastN_all (by omega)]
    have el : ys.length = n := by rw [e, hn]
    rw [el] at fin
    by_cases c2 : x + n ≤ N
    · rw [Nat.min_eq_left (by omega : n ≤ N - x), List.take_of_length_le (by omega), List.drop_of_length_le (by omega), splice_nil] at fin
      exact (moveIn_1 g n w lo hg hn hn2 hH hK c1 e c2).mono fun _ _ h => ⟨h.1, fin _ h.2.1, h.2.2⟩
    · rw [Nat.min_eq_right (by omega : N - x ≤ n)] at fin
      exact (moveIn_2 g n (N - x) (n - (N - x)) w lo hg hn hn2 hH hK c1 e (by omega) (by omega) (by omega)).mono fun _ _ h => ⟨h.1, fin _ h.2.1, h.2.2⟩
  · have e : ys = xs.drop (n - N) := by rw [hy, lastN, hn]
    have el : ys.length = N := by omega
    rw [el] at fin
    by_cases c2 : x + N ≤ N
    · rw [Nat.min_eq_left (by omega : N ≤ N - x), List.take_of_length_le (by omega), List.drop_of_length_le (by omega), splice_nil] at fin
      exact (moveIn_3 g n (n - N) w lo hg hn hn2 hH hK (by omega) (by omega) e c2).mono fun _ _ h => ⟨h.1, fin _ h.2.1, h.2.2⟩
    · rw [Nat.min_eq_right (by omega : N - x ≤ N)] at fin
      exact (moveIn_4 g n (n - N) (N - x) (N - (N - x)) w lo hg hn hn2 hH hK (by omega) (by omega) e (by omega) (by omega) (by omega)).mono fun _ _ h => ⟨h.1, fin _ h.2.1, h.2.2⟩
end Go.Proofs.Ytlipkncnomndnaa

/-
  What lower, blank, lead, tail, Trim, Same, colon come to, and the document's Low, Trim, Same, name.
-/
import Derived.Test.YtmlkdpoignimaaaStr
import Derived.Test.YtmlkdpoignimaaaChecked
import Derived.Below
import Derived.Deep.Draws
import Derived.Deep.LoopGhost
import Derived.BigQuiet
namespace Go.Proofs.Ytmlkdpoignimaaa
open Go.RowKit
set_option linter.unusedVariables false
def lo (x : Nat) : Nat := if 65 ≤ x ∧ x ≤ 90 then x + 32 else x
theorem blank_c (r : Nat) (w : World) : Calls Try.prog 40 #[.int .i32 (r : Int)] w fun e w' => e = .returned (.bool (isB r)) ∧ w' = w := by
  by_cases h9 : r = 9
  · subst h9
    go_enter Try.func40, Try.ntmps40
    go_wp2
    go_ret
    exact ⟨rfl, rfl⟩
  · by_cases h32 : r = 32
    · subst h32
      go_enter Try.func40, Try.ntmps40
      go_wp2
      go_ret
      exact ⟨rfl, rfl⟩
    · have t1 : ((r : Int) == 9) = false := by rw [beq_eq_false_iff_ne]; omega
      have t2 : ((r : Int) == 32) = false := by rw [beq_eq_false_iff_ne]; omega
      have e : isB r = false := isB_not.2 ⟨h9, h32⟩
      rw [e]
      clear h9 h32 e
      go_enter Try.func40, Try.ntmps40
      go_wp2
      go_ret
      exact ⟨rfl, rfl⟩
theorem lower_c (x : Nat) (hx : x < 256) (w : World) : Calls Try.prog 33 #[.int .u8 (x : Int)] w fun e w' => e = .returned (.int .u8 ((lo x : Nat) : Int)) ∧ w' = w := by
  by_cases h : 65 ≤ x ∧ x ≤ 90
  · have e : lo x = x + 32 := if_pos h
    rw [e]
    obtain ⟨h1, h2⟩ := h
    clear e
    go_enter Try.func33, Try.ntmps33
    go_wp2
    all_goals
      go_ret
      exact ⟨by congr 2; go_num, rfl⟩
  · have e : lo x = x := if_neg h
    rw [e]
    by_cases h1 : 65 ≤ x
    · have h2 : ¬ x ≤ 90 := by omega
      clear e h
      go_enter Try.func33, Try.ntmps33
      go_wp2
      go_ret
      exact ⟨rfl, rfl⟩
    · clear e h
      go_enter Try.func33, Try.ntmps33
      go_wp2
      go_ret
      exact ⟨rfl, rfl⟩
theorem rlow_c (x : Nat) (hx : x < 256) (w : World) : Calls Try.prog 34 #[.int .u8 (x : Int)] w fun e w' => e = .returned (.int .u8 ((lo x : Nat) : Int)) ∧ w' = w := by
  by_cases h : 65 ≤ x ∧ x ≤ 90
  · have e : lo x = x + 32 := if_pos h
    rw [e]
    obtain ⟨h1, h2⟩ := h
    clear e
    go_enter Try.func34, Try.ntmps34
    go_wp2
    all_goals
      go_ret
      exact ⟨by congr 2, rfl⟩
  · have e : lo x = x := if_neg h
    rw [e]
    by_cases h1 : 65 ≤ x
    · have h2 : ¬ x ≤ 90 := by omega
      clear e h
      go_enter Try.func34, Try.ntmps34
      go_wp2
      go_ret
      exact ⟨rfl, rfl⟩
    · clear e h
      go_enter Try.func34, Try.ntmps34
      go_wp2
      go_ret
      exact ⟨rfl, rfl⟩
theorem iter_below (w : World) (s : ByteArray) (k : Nat) : Below w.heap.size w (w.iter s k) := (Below.refl _ w).alloc (Nat.le_refl _) _
set_option maxHeartbeats 1000000 in
theorem lead_c (l : List Nat) (ho : Oct l) (hl : l.length < 9223372036854775807) (w : World) : Calls Try.prog 35 #[.string (st l)] w fun e w' => e = .returned (.int .i64 (lead l : Nat)) ∧ Below w.heap.size w w' := by
  obtain ⟨s, hs⟩ : ∃ s, s = st l := ⟨_, rfl⟩
  have hb : bl s = l := by rw [hs, bl_st ho]
  have hz0 : s.size = l.length := by rw [← bl_length, hb]
  rw [← hs]
  obtain ⟨L, hL⟩ : ∃ L, l.length = L := ⟨_, rfl⟩
  have hz : s.size = L := by omega
  have A : Aside (bl s = l ∧ l.length = L ∧ L < 9223372036854775807) := ⟨hb, hL, by omega⟩
  clear hs hb hL hl hz0
  go_enter Try.func35, Try.ntmps35
  go_wp2_with fail
  go_loopg [] L (fun g wr => ∃ k : Nat, k + g = L ∧ wr = w.iter s k ∧ Aside (∀ y ∈ l.take k, isB y = true))
  case atStart => exact ⟨0, by omega, rfl, (by show ∀ y ∈ _, _; simp)⟩
  case round =>
    obtain ⟨k, hkg, rfl, hT⟩ := hrel
    have a0 := A.out
    by_cases hk : k < L
    · obtain ⟨x, hx⟩ : ∃ x, l[k]? = some x := ⟨_, List.getElem?_eq_getElem (by omega)⟩
      obtain ⟨r, n, hd, hn1, hn2, hr, hc⟩ := rune_at (s := s) (k := k) (x := x) (by rw [a0.1]; exact hx)
      have hnx := fun ty => run_next_any (P := Try.prog) w s k ty (by omega)
      rw [hd] at hnx
      simp only at hnx
      have hbl := blank_c r (w.iter s (k + n))
      cases e : isB r with
      | false =>
        have hxb : isB x = false := by
          rcases hc with ⟨_, rfl, _⟩ | ⟨h1, _⟩
          · exact e
          · exact isB_high h1
        have A2 : Aside (lead l = k) := lead_first hT.out hx hxb
        rw [e] at hbl
        clear hT a0 hx hd hc hxb e hn1 hn2 hr hkg
        go_wp2_with (go_at_call 40; refine hbl.mono ?_; rintro e1 w1 ⟨rfl, rfl⟩)
        go_ret
        exact ⟨by rw [A2.out]; rfl, iter_below _ _ _⟩
      | true =>
        have hrB := isB_iff.1 e
        obtain ⟨hx128, rfl, rfl⟩ : x < 128 ∧ r = x ∧ n = 1 := by
          rcases hc with h | ⟨_, h1, _⟩
          · exact h
          · omega
        have A2 : Aside (∀ y ∈ l.take (k + 1), isB y = true) := by
          show ∀ y ∈ _, _
          intro y hy
          rw [List.take_add_one, hx] at hy
          rcases List.mem_append.1 hy with h | h
          · exact hT.out y h
          · simp at h; rw [h]; exact e
        rw [e] at hbl
        have AK : Aside (k + gk = L ∧ k < L) := ⟨hkg, hk⟩
        clear hT a0 hx hd hc e hn1 hn2 hr hkg hrB hx128
        go_wp2_with (go_at_call 40; refine hbl.mono ?_; rintro e1 w1 ⟨rfl, rfl⟩)
        have ak := AK.out
        go_roundg (gk - 1)
        case measure => omega
        case rel => exact ⟨k + 1, by omega, rfl, A2⟩
    · have hnx := fun ty => run_next_end (P := Try.prog) w s k ty (by omega)
      have A2 : Aside (lead l = L) := by
        show _ = _
        rw [lead_all (fun y hy => hT.out y (by rw [List.take_of_length_le (by omega)]; exact hy))]
        omega
      clear hT a0 hkg
      go_wp2_with fail
      go_ret
      exact ⟨by rw [A2.out]; rfl, iter_below _ _ _⟩
/-- Where the blanks begin, so far: as many as there are, if none is there. -/
def tb (l : List Nat) (k : Nat) : Nat := if tail (l.take k) = k then l.length else tail (l.take k)
theorem tb_b {l : List Nat} {k x : Nat} (hx : l[k]? = some x) (h : isB x = true) : tb l (k + 1) = min (tb l k) k := by
  have h1 := tail_take_b hx h
  have h2 := tail_le (l.take k)
  have h3 := (List.getElem?_eq_some_iff.1 hx).1
  rw [List.length_take] at h2
  unfold tb
  rw [h1]
  rw [if_neg (by omega)]
  split <;> omega
theorem tb_end (l : List Nat) : tb l l.length = tail l := by
  unfold tb
  rw [List.take_length]
  split <;> omega
theorem tb_le (l : List Nat) (k : Nat) : tb l k ≤ l.length := by
  have h2 := tail_le (l.take k)
  rw [List.length_take] at h2
  unfold tb
  split <;> omega
set_option maxHeartbeats 1000000 in
theorem tail_c (l : List Nat) (ho : Oct l) (hl : l.length < 9223372036854775807) (w : World) : Calls Try.prog 36 #[.string (st l)] w fun e w' => e = .returned (.int .i64 (tail l : Nat)) ∧ Below w.heap.size w w' := by
  obtain ⟨s, hs⟩ : ∃ s, s = st l := ⟨_, rfl⟩
  have hb : bl s = l := by rw [hs, bl_st ho]
  have hz0 : s.size = l.length := by rw [← bl_length, hb]
  rw [← hs]
  obtain ⟨L, hL⟩ : ∃ L, l.length = L := ⟨_, rfl⟩
  have hz : s.size = L := by omega
  have A : Aside (bl s = l ∧ l.length = L ∧ L < 9223372036854775807) := ⟨hb, hL, by omega⟩
  have A0 : Aside (L = tb l 0) := by show _ = _; rw [← hL]; rfl
  clear hs hb hL hl hz0
  go_enter Try.func36, Try.ntmps36
  go_wp2_with fail
  go_loopg [3] L (fun g s3 wr => ∃ k t : Nat, k + g = L ∧ s3 = .int .i64 (t : Int) ∧ wr = w.iter s k ∧ Aside (t = tb l k))
  case atStart => exact ⟨0, L, by omega, rfl, rfl, A0⟩
  case round =>
    obtain ⟨k, t, hkg, rfl, rfl, hT⟩ := hrel
    have a0 := A.out
    by_cases hk : k < L
    · obtain ⟨x, hx⟩ : ∃ x, l[k]? = some x := ⟨_, List.getElem?_eq_getElem (by omega)⟩
      obtain ⟨r, n, hd, hn1, hn2, hr, hc⟩ := rune_at (s := s) (k := k) (x := x) (by rw [a0.1]; exact hx)
      have hnx := fun ty => run_next_any (P := Try.prog) w s k ty (by omega)
      rw [hd] at hnx
      simp only at hnx
      have hbl := blank_c r (w.iter s (k + n))
      cases e : isB r with
      | false =>
        have A2 : Aside (L = tb l (k + n) ∧ k + n + (gk - n) = L ∧ 1 ≤ n ∧ 0 < gk) := by
          refine ⟨?_, by omega, hn1, by omega⟩
          unfold tb
          rw [tail_take_high hn1 (by omega), if_pos rfl, a0.2.1]
          intro j y hj1 hj2 hy
          rcases hc with ⟨_, rfl, rfl⟩ | ⟨_, _, h3⟩
          · obtain rfl : j = k := by omega
            rw [hx] at hy; cases hy; exact e
          · exact isB_high (h3 j y hj1 hj2 (by rw [a0.1]; exact hy))
        rw [e] at hbl
        clear hT a0 hx hd hc e hn1 hn2 hr hkg
        go_wp2_with (go_at_call 40; refine hbl.mono ?_; rintro e1 w1 ⟨rfl, rfl⟩)
        have a2 := A2.out
        go_roundg (gk - n)
        case measure => omega
        case rel => exact ⟨k + n, L, by omega, rfl, rfl, a2.1⟩
      | true =>
        have hrB := isB_iff.1 e
        obtain ⟨hx128, rfl, rfl⟩ : x < 128 ∧ r = x ∧ n = 1 := by
          rcases hc with h | ⟨_, h1, _⟩
          · exact h
          · omega
        have h2 := tb_b hx e
        rw [← hT.out] at h2
        have A2 : Aside (min t k = tb l (k + 1) ∧ k + gk = L ∧ k < L) := ⟨h2.symm, hkg, hk⟩
        rw [e] at hbl
        clear hT a0 hx hd hc e hn1 hn2 hr hkg hrB hx128 h2
        by_cases htk : t < k
        · have t1 : ((t : Int) < (k : Int)) = True := eq_true (by omega)
          have t2 : ((k : Int) < (t : Int)) = False := eq_false (by omega)
          have t3 : (t < k) = True := eq_true (by omega)
          have t4 : (k < t) = False := eq_false (by omega)
          have t5 : min t k = t := by omega
          rw [t5] at A2
          clear htk t5
          go_wp2_with (go_at_call 40; refine hbl.mono ?_; rintro e1 w1 ⟨rfl, rfl⟩)
          have a2 := A2.out
          go_roundg (gk - 1)
          case measure => omega
          case rel => exact ⟨k + 1, t, by omega, rfl, rfl, a2.1⟩
        · have t1 : ((t : Int) < (k : Int)) = False := eq_false (by omega)
          have t3 : (t < k) = False := eq_false (by omega)
          have t5 : min t k = k := by omega
          rw [t5] at A2
          rcases Nat.lt_or_eq_of_le (Nat.le_of_not_lt htk) with htk2 | htk2
          · have t2 : ((k : Int) < (t : Int)) = True := eq_true (by omega)
            have t4 : (k < t) = True := eq_true (by omega)
            clear htk t5 htk2
            go_wp2_with (go_at_call 40; refine hbl.mono ?_; rintro e1 w1 ⟨rfl, rfl⟩)
            have a2 := A2.out
            go_roundg (gk - 1)
            case measure => omega
            case rel => exact ⟨k + 1, k, by omega, rfl, rfl, a2.1⟩
          · subst htk2
            clear htk t5 t1 t3
            go_wp2_with (go_at_call 40; refine hbl.mono ?_; rintro e1 w1 ⟨rfl, rfl⟩)
            have a2 := A2.out
            go_roundg (gk - 1)
            case measure => omega
            case rel => exact ⟨k + 1, k, by omega, rfl, rfl, a2.1⟩
    · have hnx := fun ty => run_next_end (P := Try.prog) w s k ty (by omega)
      have A2 : Aside (t = tail l) := by
        show _ = _
        have e : k = l.length := by omega
        rw [hT.out, e, tb_end]
      clear hT a0 hkg
      go_wp2_with fail
      go_ret
      exact ⟨by rw [← A2.out]; rfl, iter_below _ _ _⟩
set_option maxHeartbeats 1000000 in
theorem trim_c (l : List Nat) (ho : Oct l) (hl : l.length < 9223372036854775807) (w : World) : Calls Try.prog 22 #[.string (st l)] w fun e w' => e = .returned (.string (st (trm l))) ∧ Below w.heap.size w w' := by
  have hld := lead_c l ho hl w
  obtain ⟨m, hm⟩ : ∃ m, l.drop (lead l) = m := ⟨_, rfl⟩
  have hle := lead_le l
  have hmo : Oct m := by rw [← hm]; exact ho.drop _
  have hml : m.length = l.length - lead l := by rw [← hm]; simp
  have htl := fun W => tail_c m hmo (by omega) W
  have hte := tail_le m
  have e1 : (st l).extract (lead l) l.length = st m := by rw [st_extract, List.take_length, hm]
  have e2 : (st m).extract 0 (tail m) = st (trm l) := by
    rw [st_extract, List.drop_zero]
    unfold trm
    rw [hm]
  have z1 : (st l).size = l.length := st_size l
  have z2 : (st m).size = m.length := st_size m
  obtain ⟨s, hs⟩ : ∃ s, s = st l := ⟨_, rfl⟩
  obtain ⟨u, hu⟩ : ∃ u, u = st m := ⟨_, rfl⟩
  obtain ⟨v, hv⟩ : ∃ v, v = st (trm l) := ⟨_, rfl⟩
  rw [← hs] at hld e1 z1
  rw [← hu] at htl e1 e2 z2
  rw [← hv] at e2
  rw [← hs, ← hv]
  obtain ⟨L, hL⟩ : ∃ L, l.length = L := ⟨_, rfl⟩
  obtain ⟨M, hM⟩ : ∃ M, m.length = M := ⟨_, rfl⟩
  obtain ⟨p, hp⟩ : ∃ p, lead l = p := ⟨_, rfl⟩
  obtain ⟨q, hq⟩ : ∃ q, tail m = q := ⟨_, rfl⟩
  rw [hp] at hld e1 hle
  rw [hq] at htl e2 hte
  rw [hL] at z1 e1 hle
  rw [hM] at z2 hte
  have b1 : (p : Int) ≤ (L : Int) := by omega
  have b2 : (q : Int) ≤ (M : Int) := by omega
  clear hs hu hv hm hmo hml hL hM hp hq hl ho
  go_enter Try.func22, Try.ntmps22
  go_wp2_with (first
    | (go_at_call 35; refine hld.mono ?_; rintro e1 w1 ⟨rfl, hb1⟩)
    | (go_at_call 36; refine (htl _).mono ?_; rintro e2 w2 ⟨rfl, hb2⟩))
  go_ret
  exact ⟨rfl, hb1.trans (hb2.mono hb1.size)⟩
end Go.Proofs.Ytmlkdpoignimaaa

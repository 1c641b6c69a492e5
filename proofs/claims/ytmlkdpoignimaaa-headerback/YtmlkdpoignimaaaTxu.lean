/-
  What the document's Trim, both Same, name and colon come to.
-/
import Derived.Test.YtmlkdpoignimaaaTxt
namespace Go.Proofs.Ytmlkdpoignimaaa
open Go.RowKit
set_option linter.unusedVariables false
theorem lead_cons_b {x : Nat} {m : List Nat} (h : isB x = true) : (x :: m).drop (lead (x :: m)) = m.drop (lead m) := by
  simp [lead, h]
theorem lead_cons_n {x : Nat} {m : List Nat} (h : isB x = false) : lead (x :: m) = 0 := by
  simp [lead, h]
theorem tail_tk_b {x : Nat} {m : List Nat} (h : isB x = true) : (m ++ [x]).take (tail (m ++ [x])) = m.take (tail m) := by
  rw [tail_snoc_b _ _ h, List.take_append_of_le_length (tail_le m)]
theorem tail_tk_n {x : Nat} {m : List Nat} (h : isB x = false) : (m ++ [x]).take (tail (m ++ [x])) = m ++ [x] := by
  rw [tail_snoc_n _ _ h, List.take_of_length_le (by simp)]
set_option maxHeartbeats 1000000 in
theorem rtrim_c (l : List Nat) (ho : Oct l) (hl : l.length < 9223372036854775807) (w : World) : Calls Try.prog 23 #[.string (st l)] w fun e w' => e = .returned (.string (st (trm l))) ∧ w' = w := by
  have A : Aside (Oct l ∧ l.length < 9223372036854775807) := ⟨ho, hl⟩
  clear ho hl
  go_enter Try.func23, Try.ntmps23
  go_wp2_with fail
  go_loopg [0] l.length (fun g s0 wr => wr = w ∧ ∃ m : List Nat, s0 = .string (st m) ∧ Aside (m.length = g ∧ Oct m ∧ g < 9223372036854775807 ∧ m.drop (lead m) = l.drop (lead l)))
  case atStart => exact ⟨rfl, l, rfl, rfl, A.out.1, A.out.2, rfl⟩
  case round =>
    obtain ⟨rfl, m, rfl, hI⟩ := hrel
    have hi := hI.out
    by_cases hb : ∃ x m', m = x :: m' ∧ isB x = true
    · obtain ⟨x, m', rfl, hx⟩ := hb
      obtain ⟨q, hq⟩ : ∃ q, m'.length = q := ⟨_, rfl⟩
      have hgq : gk = q + 1 := by have := hi.1; simp at this; omega
      have hz : (st (x :: m')).size = q + 1 := by rw [st_size]; simp [hq]
      have hx0 := fun h => st_get (l := x :: m') (k := 0) (x := x) hi.2.1 rfl h
      have he : (st (x :: m')).extract 1 (q + 1) = st m' := by
        rw [st_extract, List.take_of_length_le (by simp; omega)]; rfl
      have A2 : Aside (m'.length = q ∧ Oct m' ∧ q < 9223372036854775807 ∧ m'.drop (lead m') = l.drop (lead l)) := ⟨hq, fun y hy => hi.2.1 y (by simp [hy]), by omega, by rw [← hi.2.2.2, lead_cons_b hx]⟩
      have hqb : (q : Int) < 9223372036854775807 := by omega
      obtain ⟨t, ht⟩ : ∃ t, t = st (x :: m') := ⟨_, rfl⟩
      obtain ⟨u, hu⟩ : ∃ u, u = st m' := ⟨_, rfl⟩
      rw [← ht] at hz hx0 he
      rw [← hu] at he
      rw [← ht]
      have AU : Aside (u = st m' ∧ gk = q + 1) := ⟨hu, hgq⟩
      clear hu ht hq hi hI hgq
      rcases isB_iff.1 hx with rfl | rfl
      all_goals
        clear hx
        go_wp2_with fail
        have au := AU.out
        go_roundg q
        case measure => omega
        case rel => exact ⟨rfl, m', by rw [← au.1], A2⟩
    · have hm : m = l.drop (lead l) := by
        rw [← hi.2.2.2]
        cases m with
        | nil => rfl
        | cons x m' =>
          have : isB x = false := by
            cases e : isB x with
            | false => rfl
            | true => exact absurd ⟨x, m', rfl, e⟩ hb
          rw [lead_cons_n this]; rfl
      have A3 : Aside (Oct m ∧ gk < 9223372036854775807 ∧ m.length = gk ∧ m.take (tail m) = trm l) := ⟨hi.2.1, hi.2.2.1, hi.1, by unfold trm; rw [← hm]⟩
      have hcase : m = [] ∨ ∃ x m', m = x :: m' ∧ isB x = false := by
        cases m with
        | nil => left; rfl
        | cons x m' =>
          right
          refine ⟨x, m', rfl, ?_⟩
          cases e : isB x with
          | false => rfl
          | true => exact absurd ⟨x, m', rfl, e⟩ hb
      clear hb hm hi hI
      obtain ⟨G, hG⟩ : ∃ G, G = gk := ⟨_, rfl⟩
      rw [← hG] at A3
      rcases hcase with rfl | ⟨x, m', rfl, hx⟩
      · have hz : (st []).size = 0 := rfl
        have hG0 : G = 0 := by have := A3.out.2.2.1; simpa using this.symm
        have ht0 : Aside (trm l = []) := by show _ = _; rw [← A3.out.2.2.2]; rfl
        clear A3 hG hG0
        go_wp2_with fail
        go_loopg [0] 0 (fun g s0 wv => wv = wr ∧ s0 = .string (st []))
        case atStart => exact ⟨rfl, rfl⟩
        case round =>
          obtain ⟨rfl, rfl⟩ := hrel
          go_wp2_with fail
          go_ret
          exact ⟨by rw [ht0.out]; rfl, rfl⟩
      · obtain ⟨q, hq⟩ : ∃ q, m'.length = q := ⟨_, rfl⟩
        have hz : (st (x :: m')).size = q + 1 := by rw [st_size]; simp [hq]
        have hx0 := fun h => st_get (l := x :: m') (k := 0) (x := x) A3.out.1 rfl h
        have hxn := isB_not.1 hx
        have t9 : ((x : Int) == 9) = false := by rw [beq_eq_false_iff_ne]; omega
        have t32 : ((x : Int) == 32) = false := by rw [beq_eq_false_iff_ne]; omega
        obtain ⟨t, ht⟩ : ∃ t, t = st (x :: m') := ⟨_, rfl⟩
        rw [← ht] at hz hx0
        rw [← ht]
        have AT : Aside (t = st (x :: m')) := ht
        clear ht hq hx hxn hG
        go_wp2_with fail
        clear hz hx0 t9 t32
        go_loopg [0] G (fun g s0 wv => wv = wr ∧ ∃ m : List Nat, s0 = .string (st m) ∧ Aside (m.length = g ∧ Oct m ∧ g < 9223372036854775807 ∧ m.take (tail m) = trm l))
        case atStart => exact ⟨rfl, x :: m', by rw [AT.out], A3.out.2.2.1, A3.out.1, A3.out.2.1, A3.out.2.2.2⟩
        case round =>
          obtain ⟨rfl, n, rfl, hJ⟩ := hrel
          have hj := hJ.out
          clear AT A3
          rcases List.eq_nil_or_concat n with rfl | ⟨n', y, rfl⟩
          · have hz : (st []).size = 0 := rfl
            have ht0 : Aside (trm l = []) := by show _ = _; rw [← hj.2.2.2]; rfl
            clear hj hJ
            go_wp2_with fail
            go_ret
            exact ⟨by rw [ht0.out]; rfl, rfl⟩
          · rw [List.concat_eq_append] at *
            obtain ⟨q, hq⟩ : ∃ q, n'.length = q := ⟨_, rfl⟩
            have hgq : gk = q + 1 := by have := hj.1; simp at this; omega
            have hz : (st (n' ++ [y])).size = q + 1 := by rw [st_size]; simp [hq]
            have hx0 := fun h => st_get (l := n' ++ [y]) (k := q) (x := y) hj.2.1 (by rw [← hq]; simp) h
            have he : (st (n' ++ [y])).extract 0 q = st n' := by
              rw [st_extract, ← hq]; simp
            have hqb : (q : Int) < 9223372036854775807 := by omega
            cases hy : isB y with
            | true =>
              have A2 : Aside (n'.length = q ∧ Oct n' ∧ q < 9223372036854775807 ∧ n'.take (tail n') = trm l) := ⟨hq, hj.2.1.left, by omega, by rw [← hj.2.2.2, tail_tk_b hy]⟩
              obtain ⟨t, ht⟩ : ∃ t, t = st (n' ++ [y]) := ⟨_, rfl⟩
              obtain ⟨u, hu⟩ : ∃ u, u = st n' := ⟨_, rfl⟩
              rw [← ht] at hz hx0 he
              rw [← hu] at he
              rw [← ht]
              have AU : Aside (u = st n' ∧ gk = q + 1) := ⟨hu, hgq⟩
              clear hu ht hq hj hJ hgq
              rcases isB_iff.1 hy with rfl | rfl
              all_goals
                clear hy
                go_wp2_with fail
                have au := AU.out
                go_roundg q
                case measure => omega
                case rel => exact ⟨rfl, n', by rw [← au.1], A2⟩
            | false =>
              have A2 : Aside (trm l = n' ++ [y]) := by show _ = _; rw [← hj.2.2.2, tail_tk_n hy]
              have hxn := isB_not.1 hy
              have t9 : ((y : Int) == 9) = false := by rw [beq_eq_false_iff_ne]; omega
              have t32 : ((y : Int) == 32) = false := by rw [beq_eq_false_iff_ne]; omega
              obtain ⟨t, ht⟩ : ∃ t, t = st (n' ++ [y]) := ⟨_, rfl⟩
              rw [← ht] at hz hx0 he
              rw [← ht]
              have AT : Aside (t = st (n' ++ [y])) := ht
              clear ht hq hj hJ hgq hy hxn he
              go_wp2_with fail
              go_ret
              exact ⟨by rw [A2.out, ← AT.out]; rfl, rfl⟩
end Go.Proofs.Ytmlkdpoignimaaa

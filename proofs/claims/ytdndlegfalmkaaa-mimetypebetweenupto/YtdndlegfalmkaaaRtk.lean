/-
  The document's token, sign, quoted.
-/
import Derived.Test.YtdndlegfalmkaaaRbt
namespace Go.Proofs.Ytdndlegfalmkaaa
open Go.RowKit
set_option linter.unusedVariables false
theorem BtTo.ok {r : List Nat} {e : Ending} (h : BtTo (some r) e) : e = .returned (.tuple #[.string (st r), .bool true]) := by
  rcases h with ⟨r', h1, h2⟩ | ⟨h1, _⟩
  · cases h1; exact h2
  · cases h1
theorem BtTo.no {e : Ending} (h : BtTo none e) : ∃ u, e = .returned (.tuple #[.string u, .bool false]) := by
  rcases h with ⟨r', h1, h2⟩ | ⟨_, h2⟩
  · cases h1
  · exact h2
/-- Something at a text's beginning: what it says, what is left; or not. -/
def TkTo (R : Option (List Nat × List Nat)) (e : Ending) : Prop := (∃ m q, R = some (m, q) ∧ e = .returned (.tuple #[.string (st m), .string (st q), .bool true])) ∨ (R = none ∧ ∃ a b, e = .returned (.tuple #[.string a, .string b, .bool false]))
theorem TkTo.ok {m q : List Nat} {e : Ending} (h : TkTo (some (m, q)) e) : e = .returned (.tuple #[.string (st m), .string (st q), .bool true]) := by
  rcases h with ⟨m', q', h1, h2⟩ | ⟨h1, _⟩
  · cases h1; exact h2
  · cases h1
theorem TkTo.no {e : Ending} (h : TkTo none e) : ∃ a b, e = .returned (.tuple #[.string a, .string b, .bool false]) := by
  rcases h with ⟨m', q', h1, h2⟩ | ⟨_, h2⟩
  · cases h1
  · exact h2
set_option maxHeartbeats 1000000 in
theorem rtk_c (l : List Nat) (ho : Oct l) (hl : l.length ≤ 140737488355328) (w : World) : Calls Try.prog 30 #[.string (st l)] w fun e w' => TkTo (tkn l) e ∧ w' = w := by
  have z1 : (st l).size = l.length := st_size l
  obtain ⟨L, hL⟩ : ∃ L, l.length = L := ⟨_, rfl⟩
  obtain ⟨s, hs⟩ : ∃ s, s = st l := ⟨_, rfl⟩
  obtain ⟨R, hR⟩ : ∃ R, tkn l = R := ⟨_, rfl⟩
  rw [← hs, hL] at z1
  rw [← hs, hR]
  have A : Aside (s = st l ∧ l.length = L ∧ L ≤ 140737488355328 ∧ Oct l ∧ tkn l = R) := ⟨hs, hL, by omega, ho, hR⟩
  clear hs hL hl ho hR
  have hend : ∀ k, rn l = k → Aside (k ≤ L ∧ ∃ v u, s.extract k L = v ∧ s.extract 0 k = u ∧ ∀ W, Calls Try.prog 29 #[.string v] W fun e w' => (∃ (x : ByteArray) (q : Bool), e = .returned (.tuple #[.string x, .bool q]) ∧ Aside (TkTo R (.returned (.tuple #[.string u, .string x, .bool (q && decide (0 < k))])))) ∧ w' = W) := by
    intro k hk
    obtain ⟨hs, hL, hLb, ho, hR⟩ := A.out
    have hle := rn_le l
    have e1 : s.extract k L = st (l.drop k) := by rw [hs, st_extract, ← hL, List.take_length]
    have e2 : s.extract 0 k = st (l.take k) := by rw [hs, st_extract, List.drop_zero]
    refine ⟨by omega, _, _, e1, e2, fun W => ?_⟩
    refine (rbt_c (l.drop k) (ho.drop _) (by simp; omega) W).mono ?_
    rintro e w' ⟨hb, rfl⟩
    unfold tkn at hR
    rw [hk] at hR
    rcases hb with ⟨r, h1, rfl⟩ | ⟨h1, u, rfl⟩
    · refine ⟨⟨_, _, rfl, ?_⟩, rfl⟩
      show TkTo _ _
      rw [h1] at hR
      by_cases h0 : k = 0
      · subst h0
        rw [if_pos rfl] at hR
        exact Or.inr ⟨hR.symm, _, _, rfl⟩
      · rw [if_neg h0] at hR
        have : decide (0 < k) = true := decide_eq_true (by omega)
        rw [this]
        exact Or.inl ⟨_, _, hR.symm, rfl⟩
    · refine ⟨⟨_, _, rfl, ?_⟩, rfl⟩
      show TkTo _ _
      rw [h1] at hR
      refine Or.inr ⟨?_, _, _, rfl⟩
      rw [← hR]
      split <;> rfl
  go_enter Try.func30, Try.ntmps30
  go_wp2_with fail
  go_loopg [5] L (fun g s5 wr => ∃ k : Nat, s5 = .int .i64 k ∧ Aside (k + g = L ∧ ∀ y ∈ l.take k, tk y = true) ∧ wr = w)
  case atStart => exact ⟨0, rfl, ⟨by omega, by simp⟩, rfl⟩
  case round =>
    obtain ⟨k, rfl, hT, rfl⟩ := hrel
    obtain ⟨hs, hL, hLb, ho, _⟩ := A.out
    by_cases hk : k < L
    · have hki : ((k : Int) < (L : Int)) = True := eq_true (by omega)
      have hkn : (k < L) = True := eq_true hk
      have hkb : (k : Int) < 1000000000000000 := by omega
      obtain ⟨x, hx⟩ : ∃ x, l[k]? = some x := ⟨_, List.getElem?_eq_getElem (by omega)⟩
      have hx0 : ∀ h : k < s.size, (s[k]'h).toNat = x := by rw [hs]; exact fun h => st_get ho hx h
      have hmk := mark_c x (ho x (List.mem_of_getElem? hx)) wr
      cases hn : tk x with
      | true =>
        have A2 : Aside (k + gk = L ∧ k < L ∧ ∀ y ∈ l.take (k + 1), tk y = true) := by
          refine ⟨hT.out.1, hk, fun y hy => ?_⟩
          rw [take_more hx] at hy
          rcases List.mem_append.1 hy with h | h
          · exact hT.out.2 y h
          · simp at h; rw [h]; exact hn
        rw [hn] at hmk
        clear hT hs hL hLb ho hx hn hk hend
        go_wp2_with (go_at_call 34; (with_reducible refine hmk.mono ?_); rintro e1 w1 ⟨rfl, rfl⟩)
        have a2 := A2.out
        go_roundg (gk - 1)
        case measure => omega
        case rel => exact ⟨k + 1, by go_num, ⟨by omega, a2.2.2⟩, rfl⟩
      | false =>
        obtain ⟨hkL, v, u, e1, e2, hbt⟩ := (hend k (rn_first hT.out.2 hx hn)).out
        rw [hn] at hmk
        have b1 : (k : Int) ≤ (L : Int) := by omega
        obtain ⟨qd, hqd⟩ : ∃ qd, decide ((0 : Int) < (k : Int)) = qd := ⟨_, rfl⟩
        have hqd2 : decide (0 < k) = qd := by
          rw [← hqd]
          by_cases h2 : 0 < k
          · simp [h2]
          · have : ¬ (0 : Int) < (k : Int) := by omega
            simp [h2]
        rw [hqd2] at hbt
        clear hT hs hL hLb ho hx hn hk hend
        go_upto_region 5 with (first
          | (go_at_call 34; (with_reducible refine hmk.mono ?_); rintro e3 w1 ⟨rfl, hw1⟩; have hw1' := hw1.symm; subst hw1')
          | (go_at_call 29; (with_reducible refine (hbt _).mono ?_); rintro e4 w2 ⟨⟨x2, q2, rfl, hA2⟩, hw2⟩; have hw2' := hw2.symm; subst hw2'))
        clear hbt hmk
        cases q2 with
        | true =>
          go_wp2_with fail
          refine bodyPost_ret (results_tmp3 rfl _ _ _) rfl ?_
          exact ⟨hA2.out, rfl⟩
        | false =>
          go_wp2_with fail
          refine bodyPost_ret (results_tmp3 rfl _ _ _) rfl ?_
          exact ⟨hA2.out, rfl⟩
    · have hki : ((k : Int) < (L : Int)) = False := eq_false (by omega)
      have hkn : (k < L) = False := eq_false hk
      have hkL2 : k = L := by have := hT.out.1; omega
      obtain ⟨hkL, v, u, e1, e2, hbt⟩ := (hend k (by rw [rn_full (fun y hy => hT.out.2 y (by rw [List.take_of_length_le (by omega)]; exact hy))]; omega)).out
      have b1 : (k : Int) ≤ (L : Int) := by omega
      obtain ⟨qd, hqd⟩ : ∃ qd, decide ((0 : Int) < (k : Int)) = qd := ⟨_, rfl⟩
      have hqd2 : decide (0 < k) = qd := by
        rw [← hqd]
        by_cases h2 : 0 < k
        · simp [h2]
        · have : ¬ (0 : Int) < (k : Int) := by omega
          simp [h2]
      rw [hqd2] at hbt
      clear hT hs hL hLb ho hk hend hkL2
      go_upto_region 5 with (go_at_call 29; (with_reducible refine (hbt _).mono ?_); rintro e4 w2 ⟨⟨x2, q2, rfl, hA2⟩, hw2⟩; have hw2' := hw2.symm; subst hw2')
      clear hbt
      cases q2 with
      | true =>
        go_wp2_with fail
        refine bodyPost_ret (results_tmp3 rfl _ _ _) rfl ?_
        exact ⟨hA2.out, rfl⟩
      | false =>
        go_wp2_with fail
        refine bodyPost_ret (results_tmp3 rfl _ _ _) rfl ?_
        exact ⟨hA2.out, rfl⟩
set_option maxHeartbeats 1000000 in
theorem rsg_c (c : Nat) (C : Int) (hC : (c : Int) = C) (l : List Nat) (ho : Oct l) (hl : l.length ≤ 140737488355328) (w : World) : Calls Try.prog 31 #[.string (st l), .int .u8 C] w fun e w' => BtTo (sg c l) e ∧ w' = w := by
  have zu : (st l).size = l.length := st_size l
  obtain ⟨u, hu⟩ : ∃ u, u = st l := ⟨_, rfl⟩
  rw [← hu] at zu ⊢
  cases l with
  | nil =>
    have zu0 : u.size = 0 := zu
    have A : Aside (sg c [] = none) := rfl
    clear hu ho hl zu hC
    go_enter Try.func31, Try.ntmps31
    go_wp2_with fail
    go_ret2
    exact ⟨Or.inr ⟨A.out, u, rfl⟩, rfl⟩
  | cons x r =>
    obtain ⟨n, hn⟩ : ∃ n, (x :: r).length = n := ⟨_, rfl⟩
    rw [hn] at zu
    have hn1 : r.length + 1 = n := by simpa using hn
    have t0 : ((n : Int) == 0) = false := by rw [beq_eq_false_iff_ne]; omega
    have t0' : (0 < n) = True := eq_true (by omega)
    have t0'' : (0 : Int) < (n : Int) := by omega
    have hx0 : ∀ h : 0 < u.size, (u[0]'h).toNat = x := by rw [hu]; exact fun h => st_get ho (by rfl) h
    have e1 : u.extract 1 n = st r := by rw [hu, st_extract, ← hn, List.take_length]; rfl
    have b1 : (1 : Int) ≤ (n : Int) := by omega
    have b1' : 1 ≤ n := by omega
    by_cases hx : x = c
    · have t1 : ((x : Int) != C) = false := by rw [← hC, bne_eq_false_iff_eq]; omega
      have t2 : ((x : Int) == C) = true := by rw [← hC, beq_iff_eq]; omega
      have hb := rbt_c r (fun y hy => ho y (List.mem_cons_of_mem _ hy)) (by omega) w
      have A : Aside (sg c (x :: r) = bt 0 r) := by show _ = _; simp [sg, hx]
      obtain ⟨v, hv⟩ : ∃ v, v = st r := ⟨_, rfl⟩
      rw [← hv] at e1 hb
      have hb2 : Calls Try.prog 29 #[.string v] w fun e w' => (∃ (y : ByteArray) (q : Bool), e = .returned (.tuple #[.string y, .bool q]) ∧ Aside (BtTo (sg c (x :: r)) (.returned (.tuple #[.string y, .bool q])))) ∧ w' = w := hb.mono fun e w' h => by
        obtain ⟨h, h2⟩ := h
        refine ⟨?_, h2⟩
        rw [← A.out] at h
        rcases h with ⟨r', h1, rfl⟩ | ⟨h1, u', rfl⟩
        · exact ⟨_, _, rfl, Or.inl ⟨r', h1, rfl⟩⟩
        · exact ⟨_, _, rfl, Or.inr ⟨h1, u', rfl⟩⟩
      clear hu ho hl hn hn1 hx hC hb A hv
      go_enter Try.func31, Try.ntmps31
      go_wp2_with (go_at_call 29; (with_reducible refine hb2.mono ?_); rintro e4 w2 ⟨⟨x2, q2, rfl, hA2⟩, rfl⟩)
      go_ret2
      exact ⟨hA2.out, rfl⟩
    · have t1 : ((x : Int) != C) = true := by rw [← hC, bne_iff_ne]; omega
      have t2 : ((x : Int) == C) = false := by rw [← hC, beq_eq_false_iff_ne]; omega
      have A : Aside (sg c (x :: r) = none) := by show _ = _; simp [sg, hx]
      clear hu ho hl hn hn1 hx hC e1
      go_enter Try.func31, Try.ntmps31
      go_wp2_with fail
      go_ret2
      exact ⟨Or.inr ⟨A.out, u, rfl⟩, rfl⟩
end Go.Proofs.Ytdndlegfalmkaaa

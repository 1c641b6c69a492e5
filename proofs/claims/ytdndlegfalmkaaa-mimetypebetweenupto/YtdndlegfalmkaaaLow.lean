/-
  What Lower, the document's Low, Lower, mark, Token, and both small come to.
-/
import Derived.Test.YtdndlegfalmkaaaCnv
namespace Go.Proofs.Ytdndlegfalmkaaa
open Go.RowKit
set_option linter.unusedVariables false
theorem rlow_c (x : Nat) (hx : x < 256) (w : World) : Calls Try.prog 35 #[.int .u8 (x : Int)] w fun e w' => e = .returned (.int .u8 ((lo x : Nat) : Int)) ∧ w' = w := by
  by_cases h : 65 ≤ x ∧ x ≤ 90
  · have e : lo x = x + 32 := if_pos h
    rw [e]
    obtain ⟨h1, h2⟩ := h
    clear e
    go_enter Try.func35, Try.ntmps35
    go_wp2
    all_goals
      go_ret
      exact ⟨by congr 2, rfl⟩
  · have e : lo x = x := if_neg h
    rw [e]
    by_cases h1 : 65 ≤ x
    · have h2 : ¬ x ≤ 90 := by omega
      clear e h
      go_enter Try.func35, Try.ntmps35
      go_wp2
      go_ret
      exact ⟨rfl, rfl⟩
    · clear e h
      go_enter Try.func35, Try.ntmps35
      go_wp2
      go_ret
      exact ⟨rfl, rfl⟩
/-- Small letters up to a place. -/
def lk (l : List Nat) (k : Nat) : List Nat := low (l.take k) ++ l.drop k
theorem lk_get {l : List Nat} {k x : Nat} (hx : l[k]? = some x) : (lk l k)[k]? = some x := by
  have hk := (List.getElem?_eq_some_iff.1 hx).1
  unfold lk
  rw [drop_more hx, List.getElem?_append_right (by rw [low_length]; simp; omega)]
  have : k - (low (l.take k)).length = 0 := by rw [low_length]; simp; omega
  rw [this]
  rfl
theorem lk_set {l : List Nat} {k x : Nat} (hx : l[k]? = some x) : (lk l k).set k (lo x) = lk l (k + 1) := by
  have hk := (List.getElem?_eq_some_iff.1 hx).1
  unfold lk
  rw [drop_more hx, take_more hx, low_append]
  have hl : (low (l.take k)).length = k := by rw [low_length]; simp; omega
  rw [List.set_append_right _ _ (by omega), hl, Nat.sub_self, List.set_cons_zero]
  simp [low]
theorem lk_same {l : List Nat} {k x : Nat} (hx : l[k]? = some x) (h : lo x = x) : lk l k = lk l (k + 1) := by
  rw [← lk_set hx, h]
  refine (List.ext_getElem? fun i => ?_)
  rw [List.getElem?_set]
  split
  · rename_i e
    subst e
    rw [lk_get hx]
    have := (List.getElem?_eq_some_iff.1 (lk_get hx)).1
    simp [this]
  · rfl
theorem lk_len (l : List Nat) (k : Nat) : (lk l k).length = l.length := by
  unfold lk
  rw [List.length_append, low_length, ← List.length_append, List.take_append_drop]
set_option maxHeartbeats 1000000 in
theorem lower_c (l : List Nat) (ho : Oct l) (hl : l.length ≤ 281474976710656) (w : World) : Calls Try.prog 14 #[.string (st l)] w fun e w' => e = .returned (.string (st (low l))) ∧ Below w.heap.size w w' := by
  obtain ⟨w1, c, hcv, hC, hb1, hz1, hlc⟩ := bytes_of ho w
  obtain ⟨H, hH⟩ : ∃ H, w.heap.size = H := ⟨_, rfl⟩
  obtain ⟨L, hL⟩ : ∃ L, l.length = L := ⟨_, rfl⟩
  obtain ⟨s, hs⟩ : ∃ s, s = st l := ⟨_, rfl⟩
  rw [hH, hL, ← hs] at hcv
  rw [hH] at hC hb1 hz1
  rw [hH, ← hs]
  have A : Aside (l.length = L ∧ L ≤ 281474976710656 ∧ Oct l ∧ Cv w1 H (lk l 0) ∧ Below H w w1) := ⟨hL, by omega, ho, by simpa [lk, low] using hC, hb1⟩
  clear hs hL hl ho hC hb1 hz1 hlc hH
  go_enter Try.func14, Try.ntmps14
  go_wp2_with fail
  go_loopg [10] L (fun g s10 wr => ∃ k : Nat, s10 = .int .i64 k ∧ Aside (k + g = L ∧ Cv wr H (lk l k) ∧ Below H w wr))
  case atStart => exact ⟨0, rfl, ⟨by omega, A.out.2.2.2.1, A.out.2.2.2.2⟩⟩
  case round =>
    obtain ⟨k, rfl, hT⟩ := hrel
    obtain ⟨hkg, hC, hB⟩ := hT.out
    have a0 := A.out
    by_cases hk : k < L
    · have hki : ((k : Int) < (L : Int)) = True := eq_true (by omega)
      have hkn : (k < L) = True := eq_true hk
      have hkb : (k : Int) < 1000000000000000 := by omega
      obtain ⟨x, hx⟩ : ∃ x, l[k]? = some x := ⟨_, List.getElem?_eq_getElem (by omega)⟩
      have hcell := hC.cell (lk_get hx)
      have hfz := hC.frozen (i := k) (by rw [lk_len]; omega)
      have hx256 : x < 256 := a0.2.2.1 x (List.mem_of_getElem? hx)
      by_cases h1 : 65 ≤ x ∧ x ≤ 90
      · have t1 : ((65 : Int) ≤ (x : Int)) = True := eq_true (by omega)
        have t1' : (65 ≤ x) = True := eq_true (by omega)
        have t2 : ((x : Int) ≤ (90 : Int)) = True := eq_true (by omega)
        have t2' : (x ≤ 90) = True := eq_true (by omega)
        have A5 : Aside (((x : Int) + 97 - 65) % 256 = ((x + 32 : Nat) : Int)) := by show _ = _; omega
        have e2 : lo x = x + 32 := if_pos h1
        have hC2 := hC.set k (x + 32)
        rw [← e2, lk_set hx] at hC2
        rw [e2] at hC2
        have A2 : Aside (k + gk = L ∧ k < L ∧ Cv (wr.setCell ⟨H, k, none⟩ (.int .u8 ((x + 32 : Nat) : Int))) H (lk l (k + 1)) ∧ Below H w (wr.setCell ⟨H, k, none⟩ (.int .u8 ((x + 32 : Nat) : Int)))) := ⟨hkg, hk, hC2, hB.setCell (p := ⟨H, k, none⟩) (Nat.le_refl _) _⟩
        clear hT a0 hx hk h1 e2 hC2 hC hB hkg
        go_wp2_with fail
        have a2 := A2.out
        go_roundg (gk - 1)
        case measure => omega
        case rel => exact ⟨k + 1, by go_num, ⟨by omega, (by rw [A5.out]; exact a2.2.2.1), (by rw [A5.out]; exact a2.2.2.2)⟩⟩
      · have e2 : lo x = x := if_neg h1
        have A2 : Aside (k + gk = L ∧ k < L ∧ Cv wr H (lk l (k + 1)) ∧ Below H w wr) := ⟨hkg, hk, lk_same hx e2 ▸ hC, hB⟩
        by_cases h3 : 65 ≤ x
        · have t1 : ((65 : Int) ≤ (x : Int)) = True := eq_true (by omega)
          have t1' : (65 ≤ x) = True := eq_true (by omega)
          have t2 : ((x : Int) ≤ (90 : Int)) = False := eq_false (by omega)
          have t2' : (x ≤ 90) = False := eq_false (by omega)
          clear hT a0 hx hk h1 e2 hC hB hkg h3
          go_wp2_with fail
          have a2 := A2.out
          go_roundg (gk - 1)
          case measure => omega
          case rel => exact ⟨k + 1, by go_num, ⟨by omega, a2.2.2.1, a2.2.2.2⟩⟩
        · have t1 : ((65 : Int) ≤ (x : Int)) = False := eq_false (by omega)
          have t1' : (65 ≤ x) = False := eq_false (by omega)
          clear hT a0 hx hk h1 e2 hC hB hkg h3
          go_wp2_with fail
          have a2 := A2.out
          go_roundg (gk - 1)
          case measure => omega
          case rel => exact ⟨k + 1, by go_num, ⟨by omega, a2.2.2.1, a2.2.2.2⟩⟩
    · have hki : ((k : Int) < (L : Int)) = False := eq_false (by omega)
      have hkn : (k < L) = False := eq_false hk
      have hkL : k = L := by omega
      have e : lk l k = low l := by
        unfold lk
        rw [List.take_of_length_le (by omega), List.drop_of_length_le (by omega), List.append_nil]
      rw [e] at hC
      have hst := conv_st (w := wr) L c (by rw [low_length]; omega) a0.2.2.1.low hC.lies
      clear hT a0 hk hC e hkL hkg hcv
      have A3 : Aside (Below H w wr) := hB
      clear hB
      go_wp2_with fail
      go_ret
      exact ⟨rfl, A3.out⟩
set_option maxHeartbeats 1000000 in
theorem mark_c (x : Nat) (hx : x < 256) (w : World) : Calls Try.prog 34 #[.int .u8 (x : Int)] w fun e w' => e = .returned (.bool (tk x)) ∧ w' = w := by
  obtain ⟨s, hs⟩ : ∃ s, s = (⟨#[40, 41, 60, 62, 64, 44, 59, 58, 92, 34, 47, 91, 93, 63, 61]⟩ : ByteArray) := ⟨_, rfl⟩
  have z1 : (⟨#[40, 41, 60, 62, 64, 44, 59, 58, 92, 34, 47, 91, 93, 63, 61]⟩ : ByteArray).size = 15 := rfl
  obtain ⟨q, hq⟩ : ∃ q, tk x = q := ⟨_, rfl⟩
  rw [hq]
  have A : Aside (tk x = q) := hq
  clear hq
  go_enter Try.func34, Try.ntmps34
  go_wp2_with fail
  go_loopg [3] 15 (fun g s3 wr => ∃ k : Nat, s3 = .int .i64 k ∧ Aside (k + g = 15 ∧ ∀ y ∈ sp.take k, y ≠ x) ∧ wr = w)
  case atStart => exact ⟨0, rfl, ⟨by omega, by simp⟩, rfl⟩
  case round =>
    obtain ⟨k, rfl, hT, rfl⟩ := hrel
    obtain ⟨hkg, hall⟩ := hT.out
    by_cases hk : k < 15
    · have hki : ((k : Int) < (15 : Int)) = True := eq_true (by omega)
      have hkn : (k < 15) = True := eq_true hk
      have hkb : (k : Int) < 1000000000000000 := by omega
      obtain ⟨y, hy⟩ : ∃ y, sp[k]? = some y := ⟨_, List.getElem?_eq_getElem hk⟩
      have hx0 : ∀ h : k < (⟨#[40, 41, 60, 62, 64, 44, 59, 58, 92, 34, 47, 91, 93, 63, 61]⟩ : ByteArray).size, ((⟨#[40, 41, 60, 62, 64, 44, 59, 58, 92, 34, 47, 91, 93, 63, 61]⟩ : ByteArray)[k]'h).toNat = y := fun h => by
        have e := bl_get h
        have e2 : bl ⟨#[40, 41, 60, 62, 64, 44, 59, 58, 92, 34, 47, 91, 93, 63, 61]⟩ = sp := by decide
        rw [e2, hy] at e
        injection e with e
        exact e.symm
      by_cases hxy : y = x
      · have A2 : Aside (false = q) := by
          show _ = _
          rw [← A.out]
          unfold tk
          have : sp.contains x = true := by rw [List.contains_iff_mem, ← hxy]; exact List.mem_of_getElem? hy
          rw [this]
          simp
        have t1 : ((y : Int) == (x : Int)) = true := by rw [beq_iff_eq]; omega
        clear hT hall hkg hk hy
        go_wp2_with fail
        go_ret
        exact ⟨by rw [← A2.out]; rfl, rfl⟩
      · have A2 : Aside (k + gk = 15 ∧ k < 15 ∧ ∀ z ∈ sp.take (k + 1), z ≠ x) := by
          refine ⟨hkg, hk, fun z hz => ?_⟩
          rw [take_more hy] at hz
          rcases List.mem_append.1 hz with h | h
          · exact hall z h
          · simp at h; rw [h]; exact hxy
        have t1 : ((y : Int) == (x : Int)) = false := by rw [beq_eq_false_iff_ne]; omega
        clear hT hall hkg hk hy hxy
        go_wp2_with fail
        have a2 := A2.out
        go_roundg (gk - 1)
        case measure => omega
        case rel => exact ⟨k + 1, by go_num, ⟨by omega, a2.2.2⟩, rfl⟩
    · have hki : ((k : Int) < (15 : Int)) = False := eq_false (by omega)
      have hkn : (k < 15) = False := eq_false hk
      have hc : sp.contains x = false := by
        rw [← Bool.not_eq_true, List.contains_iff_mem]
        intro hm
        exact hall x (by rw [List.take_of_length_le (by show 15 ≤ k; omega)]; exact hm) rfl
      by_cases h1 : 33 ≤ x
      · have t1 : ((33 : Int) ≤ (x : Int)) = True := eq_true (by omega)
        have t1' : (33 ≤ x) = True := eq_true (by omega)
        obtain ⟨r, hr⟩ : ∃ r, decide ((x : Int) ≤ 126) = r := ⟨_, rfl⟩
        have A2 : Aside (r = q) := by
          show _ = _
          rw [← A.out, ← hr]
          unfold tk
          rw [hc]
          by_cases h2 : x ≤ 126
          · have : (x : Int) ≤ 126 := by omega
            simp [h1, h2, this]
          · have : ¬ (x : Int) ≤ 126 := by omega
            simp [h2, this]
        have hr2 : decide (x ≤ 126) = r := by
          rw [← hr]
          by_cases h2 : x ≤ 126
          · have : (x : Int) ≤ 126 := by omega
            simp [h2, this]
          · have : ¬ (x : Int) ≤ 126 := by omega
            simp [h2, this]
        clear hT hall hkg hk hc h1
        go_wp2_with fail
        go_ret
        exact ⟨by rw [← A2.out]; rfl, rfl⟩
      · have t1 : ((33 : Int) ≤ (x : Int)) = False := eq_false (by omega)
        have t1' : (33 ≤ x) = False := eq_false (by omega)
        have A2 : Aside (false = q) := by
          show _ = _
          rw [← A.out]
          unfold tk
          simp [h1]
        clear hT hall hkg hk hc h1
        go_wp2_with fail
        go_ret
        exact ⟨by rw [← A2.out]; rfl, rfl⟩
set_option maxHeartbeats 1000000 in
theorem rtoken_c (l : List Nat) (ho : Oct l) (hl : l.length ≤ 281474976710656) (w : World) : Calls Try.prog 13 #[.string (st l)] w fun e w' => e = .returned (.bool (tok l)) ∧ w' = w := by
  have z1 : (st l).size = l.length := st_size l
  obtain ⟨L, hL⟩ : ∃ L, l.length = L := ⟨_, rfl⟩
  obtain ⟨s, hs⟩ : ∃ s, s = st l := ⟨_, rfl⟩
  obtain ⟨q, hq⟩ : ∃ q, tok l = q := ⟨_, rfl⟩
  rw [← hs, hL] at z1
  rw [← hs, hq]
  have A : Aside (s = st l ∧ l.length = L ∧ L ≤ 281474976710656 ∧ Oct l ∧ tok l = q) := ⟨hs, hL, by omega, ho, hq⟩
  clear hs hL hl ho hq
  go_enter Try.func13, Try.ntmps13
  go_wp2_with fail
  go_loopg [3] L (fun g s3 wr => ∃ k : Nat, s3 = .int .i64 k ∧ Aside (k + g = L ∧ ∀ y ∈ l.take k, tk y = true) ∧ wr = w)
  case atStart => exact ⟨0, rfl, ⟨by omega, by simp⟩, rfl⟩
  case round =>
    obtain ⟨k, rfl, hT, rfl⟩ := hrel
    have a0 := A.out
    by_cases hk : k < L
    · have hki : ((k : Int) < (L : Int)) = True := eq_true (by omega)
      have hkn : (k < L) = True := eq_true hk
      have hkb : (k : Int) < 1000000000000000 := by omega
      obtain ⟨x, hx⟩ : ∃ x, l[k]? = some x := ⟨_, List.getElem?_eq_getElem (by omega)⟩
      have hx0 : ∀ h : k < s.size, (s[k]'h).toNat = x := by rw [a0.1]; exact fun h => st_get a0.2.2.2.1 hx h
      have hmk := mark_c x (a0.2.2.2.1 x (List.mem_of_getElem? hx)) wr
      cases hn : tk x with
      | true =>
        have A2 : Aside (k + gk = L ∧ k < L ∧ ∀ y ∈ l.take (k + 1), tk y = true) := by
          refine ⟨hT.out.1, hk, fun y hy => ?_⟩
          rw [take_more hx] at hy
          rcases List.mem_append.1 hy with h | h
          · exact hT.out.2 y h
          · simp at h; rw [h]; exact hn
        rw [hn] at hmk
        clear hT a0 hx hn hk
        go_wp2_with (go_at_call 34; refine hmk.mono ?_; rintro e1 w1 ⟨rfl, rfl⟩)
        have a2 := A2.out
        go_roundg (gk - 1)
        case measure => omega
        case rel => exact ⟨k + 1, by go_num, ⟨by omega, a2.2.2⟩, rfl⟩
      | false =>
        have A2 : Aside (false = q) := by
          show _ = _
          rw [← a0.2.2.2.2]
          unfold tok
          have : l.all tk = false := by
            rw [← Bool.not_eq_true, List.all_eq_true]
            intro h
            rw [h x (List.mem_of_getElem? hx)] at hn
            cases hn
          rw [this]
          simp
        rw [hn] at hmk
        clear hT a0 hx hn hk
        go_wp2_with (go_at_call 34; refine hmk.mono ?_; rintro e1 w1 ⟨rfl, rfl⟩)
        go_ret
        exact ⟨by rw [← A2.out]; rfl, rfl⟩
    · have hki : ((k : Int) < (L : Int)) = False := eq_false (by omega)
      have hkn : (k < L) = False := eq_false hk
      obtain ⟨r, hr⟩ : ∃ r, decide ((0 : Int) < (L : Int)) = r := ⟨_, rfl⟩
      have hr2 : decide (0 < L) = r := by
        rw [← hr]
        by_cases h2 : 0 < L
        · have : (0 : Int) < (L : Int) := by omega
          simp [h2]
        · have : ¬ (0 : Int) < (L : Int) := by omega
          simp [h2]
      have A2 : Aside (r = q) := by
        show _ = _
        rw [← a0.2.2.2.2, ← hr2]
        unfold tok
        have : l.all tk = true := List.all_eq_true.2 fun y hy => hT.out.2 y (by rw [List.take_of_length_le (by omega)]; exact hy)
        rw [this]
        have h3 := a0.2.1
        cases l with
        | nil => simp at h3; simp [← h3]
        | cons _ _ => simp at h3; simp [← h3]
      clear hT a0 hk
      go_wp2_with fail
      go_ret
      exact ⟨by rw [← A2.out]; rfl, rfl⟩
end Go.Proofs.Ytdndlegfalmkaaa

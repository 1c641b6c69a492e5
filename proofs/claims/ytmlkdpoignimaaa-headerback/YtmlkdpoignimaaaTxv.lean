/-
  What both Same, name and colon come to.
-/
import Derived.Test.YtmlkdpoignimaaaTxu
namespace Go.Proofs.Ytmlkdpoignimaaa
open Go.RowKit
set_option linter.unusedVariables false
/-- Alike, but for capital letters. -/
def smb (a b : List Nat) : Bool := decide (a.map lo = b.map lo)
theorem smb_len {a b : List Nat} (h : a.length ≠ b.length) : smb a b = false := decide_eq_false fun e => h (by have := congrArg List.length e; simpa using this)
theorem lo_lt {x : Nat} (h : x < 256) : lo x < 256 := by unfold lo; split <;> omega
set_option maxHeartbeats 1000000 in
theorem same_c (a b : List Nat) (ha : Oct a) (hb : Oct b) (hla : a.length < 9223372036854775808) (w : World) : Calls Try.prog 20 #[.string (st a), .string (st b)] w fun e w' => e = .returned (.bool (smb a b)) ∧ ∃ n, w' = w.drewN n := by
  have z1 : (st a).size = a.length := st_size a
  have z2 : (st b).size = b.length := st_size b
  obtain ⟨L, hL⟩ : ∃ L, a.length = L := ⟨_, rfl⟩
  obtain ⟨M, hM⟩ : ∃ M, b.length = M := ⟨_, rfl⟩
  obtain ⟨s, hs⟩ : ∃ s, s = st a := ⟨_, rfl⟩
  obtain ⟨t, ht⟩ : ∃ t, t = st b := ⟨_, rfl⟩
  rw [← hs, hL] at z1
  rw [← ht, hM] at z2
  rw [← hs, ← ht]
  by_cases hLM : L = M
  · obtain ⟨q, hq⟩ : ∃ q, smb a b = q := ⟨_, rfl⟩
    rw [hq]
    subst hLM
    have A : Aside (s = st a ∧ t = st b ∧ a.length = L ∧ b.length = L ∧ Oct a ∧ Oct b ∧ smb a b = q ∧ L < 9223372036854775808) := ⟨hs, ht, hL, hM, ha, hb, hq, by omega⟩
    clear hs ht hL hM ha hb hq hla
    have hlz : ((L : Int) != (L : Int)) = false := by simp
    go_enter Try.func20, Try.ntmps20
    go_wp2_with fail
    go_loopg [13] L (fun g si wr => ∃ k : Nat, si = .int .i64 k ∧ Aside (k + g = L ∧ (a.take k).map lo = (b.take k).map lo) ∧ Aside (∃ n, wr = w.drewN n))
    case atStart => exact ⟨0, rfl, ⟨by omega, by simp⟩, ⟨0, rfl⟩⟩
    case round =>
      obtain ⟨k, rfl, hT, hD⟩ := hrel
      have a0 := A.out
      by_cases hk : k < L
      · have hki : ((k : Int) < (L : Int)) = True := eq_true (by omega)
        have hkn : (k < L) = True := eq_true hk
        have hkb : (k : Int) + 1 < 9223372036854775808 := by omega
        obtain ⟨x, hx⟩ : ∃ x, a[k]? = some x := ⟨_, List.getElem?_eq_getElem (by omega)⟩
        obtain ⟨y, hy⟩ : ∃ y, b[k]? = some y := ⟨_, List.getElem?_eq_getElem (by omega)⟩
        have hx0 : ∀ h : k < s.size, (s[k]'h).toNat = x := by rw [a0.1]; exact fun h => st_get a0.2.2.2.2.1 hx h
        have hy0 : ∀ h : k < t.size, (t[k]'h).toNat = y := by rw [a0.2.1]; exact fun h => st_get a0.2.2.2.2.2.1 hy h
        have hx8 := a0.2.2.2.2.1 x (List.mem_of_getElem? hx)
        have hy8 := a0.2.2.2.2.2.1 y (List.mem_of_getElem? hy)
        by_cases hXY : lo x = lo y
        · have A2 : Aside ((a.take (k + 1)).map lo = (b.take (k + 1)).map lo ∧ k + gk = L ∧ k < L) := ⟨by rw [List.take_add_one, List.take_add_one, hx, hy]; simp only [List.map_append, Option.toList, List.map_cons, List.map_nil]; rw [hT.out.2, hXY], hT.out.1, hk⟩
          have hz : (((lo x : Nat) : Int) != ((lo y : Nat) : Int)) = false := by rw [hXY]; simp
          clear hT a0 hx hy hk hXY
          go_wp2_with fail
          go_quiet ((go_at_call 33; refine Calls.quiet_of_same (lower_c _ ?_ _) <;> assumption))
          go_wp2_with fail
          have a2 := A2.out
          go_roundg (gk - 1)
          case measure => omega
          case rel => exact ⟨k + 1, by go_num, ⟨by omega, a2.1⟩, (by obtain ⟨n, hn⟩ := hD.out; exact ⟨_, (congrArg (World.drewN · _) hn).trans (World.drewN_drewN _ _ _)⟩)⟩
        · have hz : (((lo x : Nat) : Int) != ((lo y : Nat) : Int)) = true := by rw [bne_iff_ne]; omega
          have hz2 : (((lo x : Nat) : Int) == ((lo y : Nat) : Int)) = false := by rw [beq_eq_false_iff_ne]; omega
          have A2 : Aside (false = q) := by
            show _ = _
            rw [← a0.2.2.2.2.2.2.1]
            refine (decide_eq_false fun e => hXY ?_).symm
            have e1 := congrArg (fun l => l[k]?) e
            simp only [List.getElem?_map, hx, hy, Option.map_some] at e1
            exact Option.some.inj e1
          clear hT a0 hx hy hk hXY
          go_wp2_with fail
          go_quiet ((go_at_call 33; refine Calls.quiet_of_same (lower_c _ ?_ _) <;> assumption))
          go_wp2_with fail
          go_ret
          obtain ⟨n, hn⟩ := hD.out
          exact ⟨by rw [← A2.out]; rfl, _, (congrArg (World.drewN · _) hn).trans (World.drewN_drewN _ _ _)⟩
      · have hki : ((k : Int) < (L : Int)) = False := eq_false (by omega)
        have hkn : (k < L) = False := eq_false hk
        have A2 : Aside (true = q) := by
          show _ = _
          rw [← a0.2.2.2.2.2.2.1]
          have h3 := hT.out.2
          rw [List.take_of_length_le (by omega), List.take_of_length_le (by omega)] at h3
          exact (decide_eq_true h3).symm
        clear hT a0 hk
        go_wp2_with fail
        go_ret
        exact ⟨by rw [← A2.out]; rfl, hD.out⟩
  · rw [smb_len (by omega)]
    have hz : ((L : Int) != (M : Int)) = true := by rw [bne_iff_ne]; omega
    have hz2 : ((L : Int) == (M : Int)) = false := by rw [beq_eq_false_iff_ne]; omega
    clear hs ht hL hM hLM
    go_enter Try.func20, Try.ntmps20
    go_wp2_with fail
    go_ret
    exact ⟨rfl, 0, rfl⟩
set_option maxHeartbeats 1000000 in
theorem rsame_c (a b : List Nat) (ha : Oct a) (hb : Oct b) (hla : a.length < 9223372036854775808) (w : World) : Calls Try.prog 21 #[.string (st a), .string (st b)] w fun e w' => e = .returned (.bool (smb a b)) ∧ ∃ n, w' = w.drewN n := by
  have z1 : (st a).size = a.length := st_size a
  have z2 : (st b).size = b.length := st_size b
  obtain ⟨L, hL⟩ : ∃ L, a.length = L := ⟨_, rfl⟩
  obtain ⟨M, hM⟩ : ∃ M, b.length = M := ⟨_, rfl⟩
  obtain ⟨s, hs⟩ : ∃ s, s = st a := ⟨_, rfl⟩
  obtain ⟨t, ht⟩ : ∃ t, t = st b := ⟨_, rfl⟩
  rw [← hs, hL] at z1
  rw [← ht, hM] at z2
  rw [← hs, ← ht]
  by_cases hLM : L = M
  · obtain ⟨q, hq⟩ : ∃ q, smb a b = q := ⟨_, rfl⟩
    rw [hq]
    subst hLM
    have A : Aside (s = st a ∧ t = st b ∧ a.length = L ∧ b.length = L ∧ Oct a ∧ Oct b ∧ smb a b = q ∧ L < 9223372036854775808) := ⟨hs, ht, hL, hM, ha, hb, hq, by omega⟩
    clear hs ht hL hM ha hb hq hla
    have hlz : ((L : Int) != (L : Int)) = false := by simp
    go_enter Try.func21, Try.ntmps21
    go_wp2_with fail
    go_loopg [5] L (fun g si wr => ∃ k : Nat, si = .int .i64 k ∧ Aside (k + g = L ∧ (a.take k).map lo = (b.take k).map lo) ∧ Aside (∃ n, wr = w.drewN n))
    case atStart => exact ⟨0, rfl, ⟨by omega, by simp⟩, ⟨0, rfl⟩⟩
    case round =>
      obtain ⟨k, rfl, hT, hD⟩ := hrel
      have a0 := A.out
      by_cases hk : k < L
      · have hki : ((k : Int) < (L : Int)) = True := eq_true (by omega)
        have hkn : (k < L) = True := eq_true hk
        have hkb : (k : Int) + 1 < 9223372036854775808 := by omega
        obtain ⟨x, hx⟩ : ∃ x, a[k]? = some x := ⟨_, List.getElem?_eq_getElem (by omega)⟩
        obtain ⟨y, hy⟩ : ∃ y, b[k]? = some y := ⟨_, List.getElem?_eq_getElem (by omega)⟩
        have hx0 : ∀ h : k < s.size, (s[k]'h).toNat = x := by rw [a0.1]; exact fun h => st_get a0.2.2.2.2.1 hx h
        have hy0 : ∀ h : k < t.size, (t[k]'h).toNat = y := by rw [a0.2.1]; exact fun h => st_get a0.2.2.2.2.2.1 hy h
        have hx8 := a0.2.2.2.2.1 x (List.mem_of_getElem? hx)
        have hy8 := a0.2.2.2.2.2.1 y (List.mem_of_getElem? hy)
        by_cases hXY : lo x = lo y
        · have A2 : Aside ((a.take (k + 1)).map lo = (b.take (k + 1)).map lo ∧ k + gk = L ∧ k < L) := ⟨by rw [List.take_add_one, List.take_add_one, hx, hy]; simp only [List.map_append, Option.toList, List.map_cons, List.map_nil]; rw [hT.out.2, hXY], hT.out.1, hk⟩
          have hz : (((lo x : Nat) : Int) != ((lo y : Nat) : Int)) = false := by rw [hXY]; simp
          clear hT a0 hx hy hk hXY
          go_wp2_with fail
          go_quiet ((go_at_call 34; refine Calls.quiet_of_same (rlow_c _ ?_ _) <;> assumption))
          go_wp2_with fail
          have a2 := A2.out
          go_roundg (gk - 1)
          case measure => omega
          case rel => exact ⟨k + 1, by go_num, ⟨by omega, a2.1⟩, (by obtain ⟨n, hn⟩ := hD.out; exact ⟨_, (congrArg (World.drewN · _) hn).trans (World.drewN_drewN _ _ _)⟩)⟩
        · have hz : (((lo x : Nat) : Int) != ((lo y : Nat) : Int)) = true := by rw [bne_iff_ne]; omega
          have hz2 : (((lo x : Nat) : Int) == ((lo y : Nat) : Int)) = false := by rw [beq_eq_false_iff_ne]; omega
          have A2 : Aside (false = q) := by
            show _ = _
            rw [← a0.2.2.2.2.2.2.1]
            refine (decide_eq_false fun e => hXY ?_).symm
            have e1 := congrArg (fun l => l[k]?) e
            simp only [List.getElem?_map, hx, hy, Option.map_some] at e1
            exact Option.some.inj e1
          clear hT a0 hx hy hk hXY
          go_wp2_with fail
          go_quiet ((go_at_call 34; refine Calls.quiet_of_same (rlow_c _ ?_ _) <;> assumption))
          go_wp2_with fail
          go_ret
          obtain ⟨n, hn⟩ := hD.out
          exact ⟨by rw [← A2.out]; rfl, _, (congrArg (World.drewN · _) hn).trans (World.drewN_drewN _ _ _)⟩
      · have hki : ((k : Int) < (L : Int)) = False := eq_false (by omega)
        have hkn : (k < L) = False := eq_false hk
        have A2 : Aside (true = q) := by
          show _ = _
          rw [← a0.2.2.2.2.2.2.1]
          have h3 := hT.out.2
          rw [List.take_of_length_le (by omega), List.take_of_length_le (by omega)] at h3
          exact (decide_eq_true h3).symm
        clear hT a0 hk
        go_wp2_with fail
        go_ret
        exact ⟨by rw [← A2.out]; rfl, hD.out⟩
  · rw [smb_len (by omega)]
    have hz : ((L : Int) != (M : Int)) = true := by rw [bne_iff_ne]; omega
    have hz2 : ((L : Int) == (M : Int)) = false := by rw [beq_eq_false_iff_ne]; omega
    clear hs ht hL hM hLM
    go_enter Try.func21, Try.ntmps21
    go_wp2_with fail
    go_ret
    exact ⟨rfl, 0, rfl⟩
/-- Bytes that lie side by side. -/
def Lies (w : World) (a : Option Addr) (l : List Nat) : Prop := l = [] ∨ ∃ (b o : Nat), a = some ⟨b, o, none⟩ ∧ ∀ (i x : Nat), l[i]? = some x → w.cell? ⟨b, o + i, none⟩ = some (.int .u8 (x : Int))
theorem isN_iff {x : Nat} : isN x = true ↔ 33 ≤ x ∧ x ≤ 126 ∧ x ≠ 58 := by simp [isN, and_assoc]
theorem isN_not {x : Nat} : isN x = false ↔ x < 33 ∨ 126 < x ∨ x = 58 := by
  rw [← Bool.not_eq_true, isN_iff]; omega
set_option maxHeartbeats 1000000 in
theorem colon_c (w : World) (a : Option Addr) (l : List Nat) (L C : Nat) (hlz : Lies w a l) (hL : l.length = L) (hLb : L < 1000000000000000) (ho : Oct l) : Calls Try.prog 42 #[.slice a L C] w fun e w' => e = .returned (.int .i64 (nm l : Nat)) ∧ w' = w := by
  have A : Aside (Lies w a l ∧ l.length = L ∧ L < 1000000000000000 ∧ Oct l) := ⟨hlz, hL, hLb, ho⟩
  clear hlz hL hLb ho
  go_enter Try.func42, Try.ntmps42
  go_wp2_with fail
  go_loopg [7] L (fun g s7 wr => ∃ k : Nat, s7 = .int .i64 k ∧ Aside (k + g = L ∧ ∀ y ∈ l.take k, isN y = true) ∧ wr = w)
  case atStart => exact ⟨0, rfl, ⟨by omega, by simp⟩, rfl⟩
  case round =>
    obtain ⟨k, rfl, hT, rfl⟩ := hrel
    have a0 := A.out
    by_cases hk : k < L
    · have hki : ((k : Int) < (L : Int)) = True := eq_true (by omega)
      have hkn : (k < L) = True := eq_true hk
      have hkb : (k : Int) < 1000000000000000 := by omega
      obtain ⟨x, hx⟩ : ∃ x, l[k]? = some x := ⟨_, List.getElem?_eq_getElem (by omega)⟩
      obtain ⟨ab, ao, ha, hcB⟩ : ∃ ab ao, a = some ⟨ab, ao, none⟩ ∧ ∀ (j y : Nat), l[j]? = some y → wr.cell? ⟨ab, ao + j, none⟩ = some (.int .u8 (y : Int)) := by
        rcases a0.1 with e | ⟨ab, ao, e, h⟩
        · rw [e] at hx; simp at hx
        · exact ⟨ab, ao, e, h⟩
      subst ha
      have cx := hcB k x hx
      by_cases h58 : x = 58
      · subst h58
        have A2 : Aside (nm l = k) := nm_at hT.out.2 hx
        clear hT a0 hx hcB
        go_wp2_with fail
        go_ret
        exact ⟨by rw [A2.out]; rfl, rfl⟩
      · have t58 : ((x : Int) == 58) = false := by rw [beq_eq_false_iff_ne]; omega
        cases hn : isN x with
        | false =>
          have A2 : Aside (nm l = 0) := nm_bad hT.out.2 hx hn h58
          have h2 := isN_not.1 hn
          rcases (show x < 33 ∨ (¬ x < 33 ∧ 126 < x) by omega) with h3 | ⟨h3, h4⟩
          · have t1 : ((x : Int) < 33) = True := eq_true (by omega)
            have t1' : (x < 33) = True := eq_true (by omega)
            clear hT a0 hx hcB h2 h3 hn h58
            go_wp2_with fail
            go_ret
            exact ⟨by rw [A2.out]; rfl, rfl⟩
          · have t1 : ((x : Int) < 33) = False := eq_false (by omega)
            have t1' : (x < 33) = False := eq_false (by omega)
            have t2 : ((126 : Int) < (x : Int)) = True := eq_true (by omega)
            have t2' : (126 < x) = True := eq_true (by omega)
            clear hT a0 hx hcB h2 h3 h4 hn h58
            go_wp2_with fail
            go_ret
            exact ⟨by rw [A2.out]; rfl, rfl⟩
        | true =>
          have h2 := isN_iff.1 hn
          have t1 : ((x : Int) < 33) = False := eq_false (by omega)
          have t1' : (x < 33) = False := eq_false (by omega)
          have t2 : ((126 : Int) < (x : Int)) = False := eq_false (by omega)
          have t2' : (126 < x) = False := eq_false (by omega)
          have A2 : Aside (k + gk = L ∧ k < L ∧ ∀ y ∈ l.take (k + 1), isN y = true) := by
            refine ⟨hT.out.1, hk, fun y hy => ?_⟩
            rw [List.take_add_one, hx] at hy
            rcases List.mem_append.1 hy with h | h
            · exact hT.out.2 y h
            · simp at h; rw [h]; exact hn
          clear hT a0 hx hcB h2 hn h58 hk
          go_wp2_with fail
          have a2 := A2.out
          go_roundg (gk - 1)
          case measure => omega
          case rel => exact ⟨k + 1, by go_num, ⟨by omega, a2.2.2⟩, rfl⟩
    · have hki : ((k : Int) < (L : Int)) = False := eq_false (by omega)
      have hkn : (k < L) = False := eq_false hk
      have A2 : Aside (nm l = 0) := nm_none fun y hy => hT.out.2 y (by rw [List.take_of_length_le (by omega)]; exact hy)
      clear hT a0 hk
      go_wp2_with fail
      go_ret
      exact ⟨by rw [A2.out]; rfl, rfl⟩
set_option maxHeartbeats 1000000 in
theorem rname_c (w : World) (l : List Nat) (hLb : l.length < 1000000000000000) (ho : Oct l) : Calls Try.prog 37 #[.string (st l)] w fun e w' => e = .returned (.int .i64 (nm l : Nat)) ∧ w' = w := by
  have z1 : (st l).size = l.length := st_size l
  obtain ⟨L, hL⟩ : ∃ L, l.length = L := ⟨_, rfl⟩
  obtain ⟨s, hs⟩ : ∃ s, s = st l := ⟨_, rfl⟩
  rw [← hs, hL] at z1
  rw [← hs]
  have A : Aside (s = st l ∧ l.length = L ∧ L < 1000000000000000 ∧ Oct l) := ⟨hs, hL, by omega, ho⟩
  clear hs hL hLb ho
  go_enter Try.func37, Try.ntmps37
  go_wp2_with fail
  go_loopg [3] L (fun g s3 wr => ∃ k : Nat, s3 = .int .i64 k ∧ Aside (k + g = L ∧ ∀ y ∈ l.take k, isN y = true) ∧ wr = w)
  case atStart => exact ⟨0, rfl, ⟨by omega, by simp⟩, rfl⟩
  case round =>
    obtain ⟨k, rfl, hT, rfl⟩ := hrel
    have a0 := A.out
    by_cases hk : k < L
    · have hki : ((k : Int) < (L : Int)) = True := eq_true (by omega)
      have hkn : (k < L) = True := eq_true hk
      have hkb : (k : Int) < 1000000000000000 := by omega
      have hke : ((k : Int) == (L : Int)) = false := by rw [beq_eq_false_iff_ne]; omega
      obtain ⟨x, hx⟩ : ∃ x, l[k]? = some x := ⟨_, List.getElem?_eq_getElem (by omega)⟩
      have hx0 : ∀ h : k < s.size, (s[k]'h).toNat = x := by rw [a0.1]; exact fun h => st_get a0.2.2.2 hx h
      cases hn : isN x with
      | true =>
        have h2 := isN_iff.1 hn
        have t1 : ((33 : Int) ≤ (x : Int)) = True := eq_true (by omega)
        have t1' : (33 ≤ x) = True := eq_true (by omega)
        have t2 : ((x : Int) ≤ (126 : Int)) = True := eq_true (by omega)
        have t2' : (x ≤ 126) = True := eq_true (by omega)
        have t3 : ((x : Int) != 58) = true := by rw [bne_iff_ne]; omega
        have t4 : ((x : Int) == 58) = false := by rw [beq_eq_false_iff_ne]; omega
        have A2 : Aside (k + gk = L ∧ k < L ∧ ∀ y ∈ l.take (k + 1), isN y = true) := by
          refine ⟨hT.out.1, hk, fun y hy => ?_⟩
          rw [List.take_add_one, hx] at hy
          rcases List.mem_append.1 hy with h | h
          · exact hT.out.2 y h
          · simp at h; rw [h]; exact hn
        clear hT a0 hx h2 hn hk
        go_wp2_with fail
        have a2 := A2.out
        go_roundg (gk - 1)
        case measure => omega
        case rel => exact ⟨k + 1, by go_num, ⟨by omega, a2.2.2⟩, rfl⟩
      | false =>
        have h2 := isN_not.1 hn
        by_cases h58 : x = 58
        · subst h58
          have A2 : Aside (nm l = k) := nm_at hT.out.2 hx
          clear hT a0 hx h2 hn hk
          go_wp2_with fail
          go_ret
          exact ⟨by rw [A2.out]; rfl, rfl⟩
        · have A2 : Aside (nm l = 0) := nm_bad hT.out.2 hx hn h58
          have t3 : ((x : Int) != 58) = true := by rw [bne_iff_ne]; omega
          have t4 : ((x : Int) == 58) = false := by rw [beq_eq_false_iff_ne]; omega
          rcases (show x < 33 ∨ (¬ x < 33 ∧ 126 < x) by omega) with h3 | ⟨h3, h4⟩
          · have t1 : ((33 : Int) ≤ (x : Int)) = False := eq_false (by omega)
            have t1' : (33 ≤ x) = False := eq_false (by omega)
            clear hT a0 hx h2 h3 hn h58 hk
            go_wp2_with fail
            go_ret
            exact ⟨by rw [A2.out]; rfl, rfl⟩
          · have t1 : ((33 : Int) ≤ (x : Int)) = True := eq_true (by omega)
            have t1' : (33 ≤ x) = True := eq_true (by omega)
            have t2 : ((x : Int) ≤ (126 : Int)) = False := eq_false (by omega)
            have t2' : (x ≤ 126) = False := eq_false (by omega)
            clear hT a0 hx h2 h3 h4 hn h58 hk
            go_wp2_with fail
            go_ret
            exact ⟨by rw [A2.out]; rfl, rfl⟩
    · have hki : ((k : Int) < (L : Int)) = False := eq_false (by omega)
      have hkn : (k < L) = False := eq_false hk
      have hkL : k = L := by have := hT.out.1; omega
      have A2 : Aside (nm l = 0) := nm_none fun y hy => hT.out.2 y (by rw [List.take_of_length_le (by omega)]; exact hy)
      have hke : ((k : Int) == (L : Int)) = true := by rw [beq_iff_eq]; omega
      clear hT a0 hk hkL
      go_wp2_with fail
      go_ret
      exact ⟨by rw [A2.out]; rfl, rfl⟩
end Go.Proofs.Ytmlkdpoignimaaa

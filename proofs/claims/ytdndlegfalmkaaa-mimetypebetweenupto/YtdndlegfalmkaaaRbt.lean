/-
  The document's comment, Between, token, sign.
-/
import Derived.Test.YtdndlegfalmkaaaAwk
namespace Go.Proofs.Ytdndlegfalmkaaa
open Go.RowKit
set_option linter.unusedVariables false
/-- How many bytes a comment has; 0: none. -/
def CmTo (l : List Nat) (R : Option (List Nat)) (e : Ending) : Prop := ∃ n : Nat, e = .returned (.int .i64 (n : Int)) ∧ ((R = none ∧ n = 0) ∨ ∃ r, R = some r ∧ n ≠ 0 ∧ n ≤ l.length ∧ l.drop n = r)
set_option maxHeartbeats 1000000 in
theorem rcom_c (l q : List Nat) (hlq : l = 40 :: q) (ho : Oct l) (hl : l.length ≤ 140737488355328) (w : World) : Calls Try.prog 49 #[.string (st l)] w fun e w' => CmTo l (cm 0 l) e ∧ w' = w := by
  have z1 : (st l).size = l.length := st_size l
  obtain ⟨L, hL⟩ : ∃ L, l.length = L := ⟨_, rfl⟩
  obtain ⟨s, hs⟩ : ∃ s, s = st l := ⟨_, rfl⟩
  obtain ⟨R, hR⟩ : ∃ R, cm 0 l = R := ⟨_, rfl⟩
  rw [← hs, hL] at z1
  rw [← hs, hR]
  have A : Aside (s = st l ∧ l.length = L ∧ L ≤ 140737488355328 ∧ Oct l ∧ cm 0 l = R ∧ l = 40 :: q) := ⟨hs, hL, by omega, ho, hR, hlq⟩
  clear hs hL hl ho hR hlq
  go_enter Try.func49, Try.ntmps49
  go_wp2_with fail
  go_loopg [3, 4] (L + 1) (fun g s3 s4 wr => ∃ d k : Nat, s3 = .int .i64 (d : Int) ∧ s4 = .int .i64 (k : Int) ∧ Aside (k + g = L + 1 ∧ cm d (l.drop k) = R ∧ d ≤ 32 ∧ (d = 0 → ∃ q, l.drop k = 40 :: q)) ∧ wr = w)
  case atStart => exact ⟨0, 0, rfl, rfl, ⟨by omega, A.out.2.2.2.2.1, by omega, fun _ => ⟨q, A.out.2.2.2.2.2⟩⟩, rfl⟩
  case round =>
    obtain ⟨d, k, rfl, rfl, hI, rfl⟩ := hrel
    obtain ⟨hkg, hcm, hd, h0⟩ := hI.out
    obtain ⟨hs, hL, hLb, ho, _, _⟩ := A.out
    have hkb : (k : Int) < 1000000000000000 := by omega
    have hdI : (d : Int) < 1000 := by omega
    by_cases hk : k < L
    · have hki : ((k : Int) < (L : Int)) = True := eq_true (by omega)
      have hkn : (k < L) = True := eq_true hk
      obtain ⟨x, hx⟩ : ∃ x, l[k]? = some x := ⟨_, List.getElem?_eq_getElem (by omega)⟩
      have hx0 : ∀ h : k < s.size, (s[k]'h).toNat = x := by rw [hs]; exact fun h => st_get ho hx h
      have hdr := drop_more hx
      rw [hdr] at hcm h0
      by_cases h40 : x = 40
      · have t1 : ((x : Int) == 40) = true := by rw [beq_iff_eq]; omega
        have t2 : ((d : Int) + 1 == 0) = false := by rw [beq_eq_false_iff_ne]; omega
        by_cases h32 : d < 32
        · have t3 : ((32 : Int) < (d : Int) + 1) = False := eq_false (by omega)
          have t4 : (32 < d + 1) = False := eq_false (by omega)
          have A2 : Aside (k + gk = L + 1 ∧ k < L ∧ cm (d + 1) (l.drop (k + 1)) = R ∧ d + 1 ≤ 32) := ⟨hkg, hk, by rw [← hcm, cm_40 h40 h32], by omega⟩
          clear hI hkg hcm hd h0 hs hL hLb ho hk hx hdr h40 h32
          go_wp2_with fail
          have a2 := A2.out
          go_roundg (gk - 1)
          case measure => omega
          case rel => exact ⟨d + 1, k + 1, by go_num, by go_num, ⟨by omega, a2.2.2.1, a2.2.2.2, by intro h; omega⟩, rfl⟩
        · have t3 : ((32 : Int) < (d : Int) + 1) = True := eq_true (by omega)
          have t4 : (32 < d + 1) = True := eq_true (by omega)
          have A2 : Aside (R = none) := by show _ = _; rw [← hcm, cm_deep h40 h32]
          clear hI hkg hcm hd h0 hs hL hLb ho hk hx hdr h40 h32
          go_wp2_with fail
          go_ret
          exact ⟨⟨0, rfl, Or.inl ⟨A2.out, rfl⟩⟩, rfl⟩
      · have t1 : ((x : Int) == 40) = false := by rw [beq_eq_false_iff_ne]; omega
        have hd1 : 1 ≤ d := by
          rcases Nat.eq_zero_or_pos d with e | e
          · obtain ⟨q', hq'⟩ := h0 e
            injection hq' with e1
            exact absurd e1 h40
          · exact e
        have t2 : ((d : Int) == 0) = false := by rw [beq_eq_false_iff_ne]; omega
        by_cases h41 : x = 41
        · have t5 : ((x : Int) == 41) = true := by rw [beq_iff_eq]; omega
          obtain ⟨d', hd'⟩ : ∃ d' : Nat, d = d' + 1 := ⟨d - 1, by omega⟩
          have t6 : (d : Int) - 1 = (d' : Int) := by omega
          have t9 : (d' : Int) < 1000 := by omega
          by_cases h1 : d ≤ 1
          · have t7 : ((d' : Int) == 0) = true := by rw [beq_iff_eq]; omega
            have A2 : Aside (R = some (l.drop (k + 1)) ∧ k + 1 ≤ l.length) := ⟨by rw [← hcm, cm_end h41 h1], by omega⟩
            clear hI hkg hcm hd h0 hs hL hLb ho hk hx hdr h40 h41 hd1 hd' h1 t2
            go_wp2_with fail
            go_ret
            exact ⟨⟨k + 1, by rfl, Or.inr ⟨_, A2.out.1, by omega, A2.out.2, rfl⟩⟩, rfl⟩
          · have t7 : ((d' : Int) == 0) = false := by rw [beq_eq_false_iff_ne]; omega
            have A2 : Aside (k + gk = L + 1 ∧ k < L ∧ cm d' (l.drop (k + 1)) = R ∧ d' ≤ 32 ∧ d' ≠ 0) := ⟨hkg, hk, by rw [← hcm, cm_41 h41 h1, hd']; rfl, by omega, by omega⟩
            clear hI hkg hcm hd h0 hs hL hLb ho hk hx hdr h40 h41 hd1 hd' h1 t2
            go_wp2_with fail
            have a2 := A2.out
            go_roundg (gk - 1)
            case measure => omega
            case rel => exact ⟨d', k + 1, by first | rfl | go_num, by go_num, ⟨by omega, a2.2.2.1, a2.2.2.2.1, by intro h; omega⟩, rfl⟩
        · have t5 : ((x : Int) == 41) = false := by rw [beq_eq_false_iff_ne]; omega
          by_cases h92 : x = 92
          · have t6 : ((x : Int) == 92) = true := by rw [beq_iff_eq]; omega
            have hk2 : cm d (l.drop (k + 2)) = R := by
              rw [← hcm]
              cases hq : l.drop (k + 1) with
              | nil =>
                rw [List.drop_eq_nil_iff] at hq
                rw [cm_cut h92, List.drop_of_length_le (by omega)]
                rfl
              | cons y r =>
                rw [cm_92 h92]
                have := congrArg (List.drop 1) hq
                rw [List.drop_drop] at this
                rw [show k + 2 = k + 1 + 1 by omega, this]
                rfl
            have A2 : Aside (k + gk = L + 1 ∧ k < L ∧ cm d (l.drop (k + 2)) = R ∧ d ≤ 32 ∧ 1 ≤ d) := ⟨hkg, hk, hk2, hd, hd1⟩
            clear hI hkg hcm hd h0 hs hL hLb ho hk hx hdr h40 h41 hd1 h92 hk2
            go_wp2_with fail
            have a2 := A2.out
            go_roundg (gk - 2)
            case measure => omega
            case rel => exact ⟨d, k + 2, rfl, by go_num, ⟨by omega, a2.2.2.1, a2.2.2.2.1, by intro h; omega⟩, rfl⟩
          · have t6 : ((x : Int) == 92) = false := by rw [beq_eq_false_iff_ne]; omega
            have A2 : Aside (k + gk = L + 1 ∧ k < L ∧ cm d (l.drop (k + 1)) = R ∧ d ≤ 32 ∧ 1 ≤ d) := ⟨hkg, hk, by rw [← hcm, cm_more h40 h41 h92], hd, hd1⟩
            clear hI hkg hcm hd h0 hs hL hLb ho hk hx hdr h40 h41 hd1 h92
            go_wp2_with fail
            have a2 := A2.out
            go_roundg (gk - 1)
            case measure => omega
            case rel => exact ⟨d, k + 1, rfl, by go_num, ⟨by omega, a2.2.2.1, a2.2.2.2.1, by intro h; omega⟩, rfl⟩
    · have hki : ((k : Int) < (L : Int)) = False := eq_false (by omega)
      have hkn : (k < L) = False := eq_false hk
      have A2 : Aside (R = none) := by
        show _ = _
        rw [← hcm, List.drop_of_length_le (by omega)]
        rfl
      clear hI hkg hcm hd h0 hs hL hLb ho hk
      go_wp2_with fail
      go_ret
      exact ⟨⟨0, rfl, Or.inl ⟨A2.out, rfl⟩⟩, rfl⟩
/-- What stands between at a text's beginning: what is left, or that it ends within. -/
def BtTo (R : Option (List Nat)) (e : Ending) : Prop := (∃ r, R = some r ∧ e = .returned (.tuple #[.string (st r), .bool true])) ∨ (R = none ∧ ∃ u, e = .returned (.tuple #[.string u, .bool false]))
set_option maxHeartbeats 1000000 in
theorem rbt_c (l : List Nat) (ho : Oct l) (hl : l.length ≤ 140737488355328) (w : World) : Calls Try.prog 29 #[.string (st l)] w fun e w' => BtTo (bt 0 l) e ∧ w' = w := by
  obtain ⟨R, hR⟩ : ∃ R, bt 0 l = R := ⟨_, rfl⟩
  obtain ⟨s, hs⟩ : ∃ s, s = st l := ⟨_, rfl⟩
  rw [hR, ← hs]
  have A : Aside (s = st l ∧ l.length ≤ 140737488355328 ∧ Oct l ∧ bt 0 l = R) := ⟨hs, hl, ho, hR⟩
  clear hs hl ho hR
  go_enter Try.func29, Try.ntmps29
  go_wp2_with fail
  go_loopg [0] l.length (fun g s0 wr => ∃ (u : ByteArray) (r : List Nat), s0 = .string u ∧ Aside (u = st r ∧ g = r.length ∧ r <:+ l ∧ bt 0 r = R) ∧ wr = w)
  case atStart => exact ⟨s, l, rfl, ⟨A.out.1, rfl, List.suffix_refl _, A.out.2.2.2⟩, rfl⟩
  case round =>
    obtain ⟨u, r, rfl, hI, rfl⟩ := hrel
    obtain ⟨hu, hg, hsuf, hbt⟩ := hI.out
    obtain ⟨_, hl, ho, _⟩ := A.out
    have hro : Oct r := ho.suf hsuf
    have hrl : r.length ≤ l.length := hsuf.length_le
    have zu : u.size = r.length := by rw [hu, st_size]
    cases r with
    | nil =>
      have zu0 : u.size = 0 := zu
      have A2 : Aside (R = some [] ∧ u = st []) := ⟨by rw [← hbt]; rfl, hu⟩
      clear hI hu hg hsuf hbt hl ho hro hrl zu
      go_wp2_with fail
      go_ret2
      exact ⟨Or.inl ⟨[], A2.out.1, by rw [← A2.out.2]; rfl⟩, rfl⟩
    | cons x r =>
      obtain ⟨n, hn⟩ : ∃ n, (x :: r).length = n := ⟨_, rfl⟩
      rw [hn] at zu
      have hn1 : r.length + 1 = n := by simpa using hn
      have t0 : ((0 : Int) < (n : Int)) = True := eq_true (by omega)
      have t0' : (0 < n) = True := eq_true (by omega)
      have hx0 : ∀ h : 0 < u.size, (u[0]'h).toNat = x := by rw [hu]; exact fun h => st_get hro (by rfl) h
      have e1 : u.extract 1 n = st r := by rw [hu, st_extract, ← hn, List.take_length]; rfl
      have b1 : (1 : Int) ≤ (n : Int) := by omega
      have b1' : 1 ≤ n := by omega
      obtain ⟨v, hv⟩ : ∃ v, v = st r := ⟨_, rfl⟩
      rw [← hv] at e1
      by_cases h9 : x = 9
      · have t1 : ((x : Int) == 9) = true := by rw [beq_iff_eq]; omega
        have A2 : Aside (gk = r.length + 1 ∧ bt 0 r = R ∧ v = st r ∧ r <:+ l) := ⟨by simpa using hg, by rw [← hbt, bt_blank (by rw [h9]; rfl)], hv, (List.suffix_cons x r).trans hsuf⟩
        clear hI hu hg hsuf hbt hl ho hro hrl hn hn1 hv h9
        go_wp2_with fail
        have a2 := A2.out
        go_roundg r.length
        case measure => omega
        case rel => exact ⟨v, r, rfl, ⟨a2.2.2.1, rfl, a2.2.2.2, a2.2.1⟩, rfl⟩
      · have t1 : ((x : Int) == 9) = false := by rw [beq_eq_false_iff_ne]; omega
        by_cases h32 : x = 32
        · have t2 : ((x : Int) == 32) = true := by rw [beq_iff_eq]; omega
          have A2 : Aside (gk = r.length + 1 ∧ bt 0 r = R ∧ v = st r ∧ r <:+ l) := ⟨by simpa using hg, by rw [← hbt, bt_blank (by rw [h32]; rfl)], hv, (List.suffix_cons x r).trans hsuf⟩
          clear hI hu hg hsuf hbt hl ho hro hrl hn hn1 hv h9 h32
          go_wp2_with fail
          have a2 := A2.out
          go_roundg r.length
          case measure => omega
          case rel => exact ⟨v, r, rfl, ⟨a2.2.2.1, rfl, a2.2.2.2, a2.2.1⟩, rfl⟩
        · have t2 : ((x : Int) == 32) = false := by rw [beq_eq_false_iff_ne]; omega
          by_cases h40 : x = 40
          · have t3 : ((x : Int) != 40) = false := by rw [bne_eq_false_iff_eq]; omega
            have t3' : ((x : Int) == 40) = true := by rw [beq_iff_eq]; omega
            subst h40
            have hcm := rcom_c (40 :: r) r rfl hro (by omega) wr
            rw [← hu] at hcm
            rw [bt_open] at hbt
            cases hc : cm 0 (40 :: r) with
            | none =>
              rw [hc] at hcm hbt
              have hcm2 : Calls Try.prog 49 #[.string u] wr fun e w' => e = .returned (.int .i64 0) ∧ w' = wr := hcm.mono fun e w' h => by
                obtain ⟨⟨n, rfl, ⟨_, rfl⟩ | ⟨r', h1, _⟩⟩, h2⟩ := h
                · exact ⟨rfl, h2⟩
                · cases h1
              have A2 : Aside (R = none) := hbt.symm
              clear hI hu hg hsuf hbt hl ho hro hrl hn hn1 hv h9 h32 hcm hc e1
              go_wp2_with (go_at_call 49; (with_reducible refine hcm2.mono ?_); rintro e5 w5 ⟨rfl, rfl⟩)
              go_ret2
              exact ⟨Or.inr ⟨A2.out, u, rfl⟩, rfl⟩
            | some r2 =>
              rw [hc] at hcm hbt
              have hk := cm_suf (r.length + 1) 0 (40 :: r) r2 (by simp) hc
              have hcm2 : Calls Try.prog 49 #[.string u] wr fun e w' => (∃ j : Nat, e = .returned (.int .i64 (j : Int)) ∧ j ≠ 0 ∧ j ≤ n ∧ (40 :: r).drop j = r2) ∧ w' = wr := hcm.mono fun e w' h => by
                obtain ⟨⟨j, rfl, ⟨h1, _⟩ | ⟨r', h1, h3, h4, h5⟩⟩, h2⟩ := h
                · cases h1
                · cases h1
                  exact ⟨⟨j, rfl, h3, by rw [← hn]; exact h4, h5⟩, h2⟩
              have A2 : Aside (gk = r.length + 1 ∧ r2.length < r.length + 1 ∧ bt 0 r2 = R ∧ r2 <:+ l ∧ u = st (40 :: r) ∧ (40 :: r).length = n) := ⟨by simpa using hg, by simpa using hk.1, hbt, hk.2.trans hsuf, hu, hn⟩
              clear hI hu hg hsuf hbt hl ho hro hrl hn hn1 hv h9 h32 hcm hc hk e1
              go_upto_region 7 with (go_at_call 49; (with_reducible refine hcm2.mono ?_); rintro e5 w5 ⟨⟨j, rfl, hj0, hjn, hjd⟩, rfl⟩)
              have t4 : ((j : Int) == 0) = false := by rw [beq_eq_false_iff_ne]; omega
              have b2 : (j : Int) ≤ (n : Int) := by omega
              have e2 : u.extract j n = st r2 := by rw [A2.out.2.2.2.2.1, st_extract, ← A2.out.2.2.2.2.2, List.take_length, hjd]
              obtain ⟨v2, hv2⟩ : ∃ v2, v2 = st r2 := ⟨_, rfl⟩
              rw [← hv2] at e2
              have A3 : Aside (v2 = st r2) := hv2
              clear hv2 hj0 hjd hcm2
              go_wp2_with fail
              have a2 := A2.out
              go_roundg r2.length
              case measure => omega
              case rel => exact ⟨v2, r2, rfl, ⟨A3.out, rfl, a2.2.2.2.1, a2.2.2.1⟩, rfl⟩
          · have t3 : ((x : Int) != 40) = true := by rw [bne_iff_ne]; omega
            have t3' : ((x : Int) == 40) = false := by rw [beq_eq_false_iff_ne]; omega
            have A2 : Aside (R = some (x :: r) ∧ u = st (x :: r)) := ⟨by rw [← hbt, bt_stop (by simp [isB, h9, h32]) h40], hu⟩
            clear hI hu hg hsuf hbt hl ho hro hrl hn hn1 hv h9 h32 h40 e1
            go_wp2_with fail
            go_ret2
            exact ⟨Or.inl ⟨_, A2.out.1, by rw [← A2.out.2]; rfl⟩, rfl⟩
end Go.Proofs.Ytdndlegfalmkaaa

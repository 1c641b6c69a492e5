/-
  What IndexByte, run, Token, the document's mark, Token, Low come to.
-/
import Derived.Test.YtdndlegfalmkaaaOwn
import Derived.Lib.Bytealg
namespace Go.Proofs.Ytdndlegfalmkaaa
open Go.RowKit
set_option linter.unusedVariables false
theorem ix_neg : ∀ x : Fin 256, decide (Lib.indexByte [40, 41, 60, 62, 64, 44, 59, 58, 92, 34, 47, 91, 93, 63, 61] x.val.toUInt8 < 0) = !sp.contains x.val := by decide +kernel
theorem index_c (x : Nat) (hx : x < 256) (w : World) : Calls Try.prog 51 #[.string ⟨#[40, 41, 60, 62, 64, 44, 59, 58, 92, 34, 47, 91, 93, 63, 61]⟩, .int .u8 (x : Int)] w fun e w' => ∃ i : Int, e = .returned (.int .i64 i) ∧ decide (i < 0) = !sp.contains x ∧ w' = w := by
  obtain ⟨i, hi⟩ : ∃ i, Lib.indexByte [40, 41, 60, 62, 64, 44, 59, 58, 92, 34, 47, 91, 93, 63, 61] x.toUInt8 = i := ⟨_, rfl⟩
  have hn := ix_neg ⟨x, hx⟩
  simp only at hn
  rw [hi] at hn
  have h61 : ∀ W : World, (callFunc 61 #[.string ⟨#[40, 41, 60, 62, 64, 44, 59, 58, 92, 34, 47, 91, 93, 63, 61]⟩, .int .u8 (x : Int)]).run Try.prog W = .ok (.value (.int .i64 i)) W := fun W => by
    rw [run_callFunc_extern Try.func61 (by kernel_rfl) (by kernel_rfl) (by kernel_rfl) (e := Extern.BytealgIndexByte.indexByte) (by kernel_rfl), Lib.run_indexByteString]
    rw [← hi]
    rfl
  have A : Aside (decide (i < 0) = !sp.contains x) := hn
  clear hn hi hx
  go_enter Try.func51, Try.ntmps51
  go_wp2
  go_ret
  exact ⟨i, rfl, A.out, rfl⟩
theorem rn_first {l : List Nat} {k x : Nat} (h : ∀ y ∈ l.take k, tk y = true) (hx : l[k]? = some x) (hn : tk x = false) : rn l = k := by
  have hk := (List.getElem?_eq_some_iff.1 hx).1
  have e : l = l.take k ++ x :: l.drop (k + 1) := by
    have := drop_more hx
    rw [← this, List.take_append_drop]
  rw [e]
  have : rn (l.take k ++ x :: l.drop (k + 1)) = (l.take k).length := by
    unfold rn
    rw [List.takeWhile_append_of_pos (fun y hy => h y hy), List.takeWhile_cons, hn]
    simp
  rw [this]
  simp; omega
theorem rn_full {l : List Nat} (h : ∀ y ∈ l, tk y = true) : rn l = l.length := by
  unfold rn
  have e : l.takeWhile tk = l := by
    have := List.takeWhile_append_of_pos (p := tk) (l₁ := l) (l₂ := []) (fun y hy => h y hy)
    simpa using this
  rw [e]
theorem tok_rn {l : List Nat} (h : l ≠ []) : tok l = decide (rn l = l.length) := by
  have hne : l.isEmpty = false := by
    cases l with
    | nil => exact absurd rfl h
    | cons _ _ => rfl
  unfold tok
  rw [hne]
  cases ha : l.all tk with
  | true =>
    rw [rn_full (fun y hy => List.all_eq_true.1 ha y hy)]
    simp
  | false =>
    have : rn l ≠ l.length := by
      intro e
      have k1 := rn_take l
      rw [e, List.take_length] at k1
      rw [k1, all_takeWhile] at ha
      cases ha
    simp [this]
set_option maxHeartbeats 1000000 in
theorem run_c (l : List Nat) (ho : Oct l) (hl : l.length ≤ 281474976710656) (w : World) : Calls Try.prog 33 #[.string (st l)] w fun e w' => e = .returned (.int .i64 (rn l : Nat)) ∧ w' = w := by
  have z1 : (st l).size = l.length := st_size l
  obtain ⟨L, hL⟩ : ∃ L, l.length = L := ⟨_, rfl⟩
  obtain ⟨s, hs⟩ : ∃ s, s = st l := ⟨_, rfl⟩
  rw [← hs, hL] at z1
  rw [← hs]
  have A : Aside (s = st l ∧ l.length = L ∧ L ≤ 281474976710656 ∧ Oct l) := ⟨hs, hL, by omega, ho⟩
  clear hs hL hl ho
  go_enter Try.func33, Try.ntmps33
  go_wp2_with fail
  go_loopg [3] L (fun g s3 wr => ∃ k : Nat, s3 = .int .i64 k ∧ Aside (k + g = L ∧ ∀ y ∈ l.take k, tk y = true) ∧ wr = w)
  case atStart => exact ⟨0, rfl, ⟨by omega, by simp⟩, rfl⟩
  case round =>
    obtain ⟨k, rfl, hT, rfl⟩ := hrel
    have a0 := A.out
    by_cases hk : k < L
    · have hki : ((k : Int) < (L : Int)) = True := eq_true (by omega)
      have hkn : (k < L) = True := eq_true hk
      have hkb : (k : Int) < 1000000000000000 := by omega
      obtain ⟨x, hx⟩ : ∃ x, l[k]? = some x := ⟨_, List.getElem?_eq_getElem (by omega)⟩
      have hx0 : ∀ h : k < s.size, (s[k]'h).toNat = x := by rw [a0.1]; exact fun h => st_get a0.2.2.2 hx h
      have hx256 : x < 256 := a0.2.2.2 x (List.mem_of_getElem? hx)
      have hic := index_c x hx256 wr
      by_cases h1 : 33 ≤ x
      · have t1 : ((33 : Int) ≤ (x : Int)) = True := eq_true (by omega)
        have t1' : (33 ≤ x) = True := eq_true (by omega)
        by_cases h2 : x ≤ 126
        · have t2 : ((x : Int) ≤ (126 : Int)) = True := eq_true (by omega)
          have t2' : (x ≤ 126) = True := eq_true (by omega)
          cases h3 : sp.contains x with
          | false =>
            have hn : tk x = true := by unfold tk; rw [h3]; simp [h1, h2]
            have A2 : Aside (k + gk = L ∧ k < L ∧ ∀ y ∈ l.take (k + 1), tk y = true) := by
              refine ⟨hT.out.1, hk, fun y hy => ?_⟩
              rw [List.take_add_one, hx] at hy
              rcases List.mem_append.1 hy with h | h
              · exact hT.out.2 y h
              · simp at h; rw [h]; exact hn
            rw [h3] at hic
            clear hT a0 hx hn hk h1 h2 h3 hx256
            go_wp2_with (go_at_call 51; refine hic.mono ?_; rintro e1 w1 ⟨i, rfl, hi, rfl⟩)
            have a2 := A2.out
            go_roundg (gk - 1)
            case measure => omega
            case rel => exact ⟨k + 1, by go_num, ⟨by omega, a2.2.2⟩, rfl⟩
          | true =>
            have hn : tk x = false := by unfold tk; rw [h3]; simp
            have A2 : Aside (rn l = k) := rn_first hT.out.2 hx hn
            rw [h3] at hic
            clear hT a0 hx hn hk h1 h2 h3 hx256
            go_wp2_with (go_at_call 51; refine hic.mono ?_; rintro e1 w1 ⟨i, rfl, hi, rfl⟩)
            go_ret
            exact ⟨by rw [A2.out]; rfl, rfl⟩
        · have t2 : ((x : Int) ≤ (126 : Int)) = False := eq_false (by omega)
          have t2' : (x ≤ 126) = False := eq_false (by omega)
          have hn : tk x = false := by unfold tk; simp [h2]
          have A2 : Aside (rn l = k) := rn_first hT.out.2 hx hn
          clear hT a0 hx hn hk h1 h2 hx256 hic
          go_wp2_with fail
          go_ret
          exact ⟨by rw [A2.out]; rfl, rfl⟩
      · have t1 : ((33 : Int) ≤ (x : Int)) = False := eq_false (by omega)
        have t1' : (33 ≤ x) = False := eq_false (by omega)
        have hn : tk x = false := by unfold tk; simp [h1]
        have A2 : Aside (rn l = k) := rn_first hT.out.2 hx hn
        clear hT a0 hx hn hk h1 hx256 hic
        go_wp2_with fail
        go_ret
        exact ⟨by rw [A2.out]; rfl, rfl⟩
    · have hki : ((k : Int) < (L : Int)) = False := eq_false (by omega)
      have hkn : (k < L) = False := eq_false hk
      have A2 : Aside (rn l = k) := by
        show _ = _
        rw [rn_full (fun y hy => hT.out.2 y (by rw [List.take_of_length_le (by omega)]; exact hy))]
        have := hT.out.1
        omega
      clear hT a0 hk
      go_wp2_with fail
      go_ret
      exact ⟨by rw [A2.out]; rfl, rfl⟩
theorem token_c (l : List Nat) (ho : Oct l) (hl : l.length ≤ 281474976710656) (w : World) : Calls Try.prog 12 #[.string (st l)] w fun e w' => e = .returned (.bool (tok l)) ∧ w' = w := by
  have hr := run_c l ho hl w
  have z1 : (st l).size = l.length := st_size l
  by_cases hne : l = []
  · subst hne
    have hs : (st []).toList.isEmpty = true := by rw [ByteArray.toList_eq]; rfl
    have hs2 : ((st []).toList = []) = True := eq_true (by rw [ByteArray.toList_eq]; rfl)
    obtain ⟨s, hss⟩ : ∃ s, s = st [] := ⟨_, rfl⟩
    rw [← hss] at hs hs2 ⊢
    clear hss hr z1
    go_enter Try.func12, Try.ntmps12
    go_wp2_with fail
    go_ret
    exact ⟨rfl, rfl⟩
  · rw [tok_rn hne]
    have hs2 : ((st l).toList = []) = False := eq_false fun e => hne (by
      have h2 : (st l).toList.length = 0 := by rw [e]; rfl
      rw [ByteArray.toList_eq, Array.length_toList] at h2
      exact List.eq_nil_of_length_eq_zero (by rw [← st_size l]; exact h2))
    have hs : (st l).toList.isEmpty = false := by
      cases h : (st l).toList with
      | nil => rw [h] at hs2; simp at hs2
      | cons _ _ => rfl
    obtain ⟨q, hq⟩ : ∃ q, decide (rn l = l.length) = q := ⟨_, rfl⟩
    rw [hq]
    obtain ⟨n, hn⟩ : ∃ n, rn l = n := ⟨_, rfl⟩
    obtain ⟨L, hL⟩ : ∃ L, l.length = L := ⟨_, rfl⟩
    have he : ((n : Int) == (L : Int)) = q := by
      rw [← hq, hn, hL, Bool.eq_iff_iff, beq_iff_eq, decide_eq_true_iff]
      omega
    rw [hn] at hr
    rw [hL] at z1
    obtain ⟨s, hss⟩ : ∃ s, s = st l := ⟨_, rfl⟩
    rw [← hss] at hr hs hs2 z1 ⊢
    clear hss hq hn hL hne hl ho
    go_enter Try.func12, Try.ntmps12
    go_wp2_with (go_at_call 33; refine hr.mono ?_; rintro e1 w1 ⟨rfl, rfl⟩)
    go_ret
    exact ⟨by rw [← he]; rfl, rfl⟩
end Go.Proofs.Ytdndlegfalmkaaa

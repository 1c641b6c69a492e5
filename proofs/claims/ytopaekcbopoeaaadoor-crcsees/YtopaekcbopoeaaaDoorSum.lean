/-
  What Step and Sum come to, where the table holds its 16 numbers: the sum with one byte more, the sum of a list of bytes.
  Conditions: the sum is a number of 32 bits, the bytes lie side by side.
-/
import Derived.Test.YtopaekcbopoeaaaDoorProd
import Derived.Test.YtopaekcbopoeaaaDoorMem
namespace Go.Proofs.YtopaekcbopoeaaaDoor
open Go.RowKit
set_option linter.unusedVariables false

/-- The table holds its 16 numbers. -/
def Tab (w : World) : Prop := ∀ i, i < 16 → w.cell? ⟨0, i, none⟩ = some (.int .u32 (tb.getD i 0 : Nat))
theorem Tab.lt {w : World} (h : Tab w) : 0 < w.heap.size := World.block_lt_of_cell? w ⟨0, 0, none⟩ (h 0 (by decide))
theorem Tab.below {w u : World} {B : Nat} (h : Tab w) (k : Below B w u) (hB : 0 < B) : Tab u := fun i hi => (k.cell (p := ⟨0, i, none⟩) hB).trans (h i hi)
theorem Tab.drew {w : World} (h : Tab w) : Tab w.drew := h
theorem tb_lt : ∀ i : Fin 16, tb.getD i.val 0 < 4294967296 := by decide +kernel
theorem and15 (x : Nat) (hx : x < 256) : bits .and .u8 (x : Int) 15 = ((x % 16 : Nat) : Int) := by
  rw [show (15 : Int) = ((15 : Nat) : Int) from rfl, u8_and_nat x 15 hx (by decide), show (15 : Nat) = 2 ^ 4 - 1 from rfl, Nat.and_two_pow_sub_one_eq_mod]
set_option maxHeartbeats 1000000 in
theorem four_c (x : Nat) (hx : x < 4294967296) (w : World) (hT : Tab w) :
    Calls Tryd.prog 13 #[.int .u32 x] w fun e w' => e = .returned (.int .u32 (mvs 4 x : Nat)) ∧ w = w' := by
  have h1 := and15 (x % 256) (Nat.mod_lt _ (by decide))
  have hc := hT (x % 16) (Nat.mod_lt _ (by decide))
  have hl := tb_lt ⟨x % 16, Nat.mod_lt _ (by decide)⟩
  have h4 := four_eq x
  dsimp only at hl
  obtain ⟨t, ht⟩ : ∃ t, tb.getD (x % 16) 0 = t := ⟨_, rfl⟩
  rw [ht] at hc hl h4
  have hx2 := x32 (x / 16) t (by omega) hl
  rw [show x % 256 % 16 = x % 16 by omega] at h1
  have h16 : x % 16 < 16 := Nat.mod_lt _ (by decide)
  obtain ⟨y, hy⟩ : ∃ y, x % 16 = y := ⟨_, rfl⟩
  rw [hy] at hc h1 h16
  go_enter Tryd.func13, Tryd.ntmps13
  go_wp2_with fail
  go_ret
  exact ⟨by rw [← h4, ← hx2]; push_cast; rfl, rfl⟩
/-- All bits turned. -/
theorem not32 (x : Nat) (hx : x < 4294967296) : bits .xor .u32 IntKind.u32.max (x : Int) = ((x ^^^ 4294967295 : Nat) : Int) := by
  rw [show IntKind.u32.max = ((4294967295 : Nat) : Int) from rfl, x32 _ x (by decide) hx, Nat.xor_comm]
set_option maxHeartbeats 1000000 in
theorem step_c (s b : Nat) (hs : s < 4294967296) (hb : b < 256) (w : World) (hT : Tab w) :
    Calls Tryd.prog 10 #[.int .u32 s, .int .u8 b] w fun e w' => e = .returned (.int .u32 (stp s b : Nat)) ∧ w = w' := by
  have hsg : IntKind.u32.signed = false := rfl
  have h1 := not32 s hs
  have e : stp s b = mvs 4 (mvs 4 (s ^^^ 4294967295 ^^^ b)) ^^^ 4294967295 := by rw [← mvs_add]; rfl
  rw [e]
  clear e
  obtain ⟨n, hn⟩ : ∃ n, s ^^^ 4294967295 = n := ⟨_, rfl⟩
  have hnl : n < 4294967296 := by rw [← hn]; exact xor_lt32 hs (by decide)
  rw [hn] at h1 ⊢
  have h2 := x32 n b hnl (by omega)
  obtain ⟨x, hx⟩ : ∃ x, n ^^^ b = x := ⟨_, rfl⟩
  have hxl : x < 4294967296 := by rw [← hx]; exact xor_lt32 hnl (by omega)
  rw [hx] at h2 ⊢
  clear hn hx
  have hyl := mvs_lt 4 hxl
  have hzl := mvs_lt 4 hyl
  have h3 := not32 _ hzl
  go_enter Tryd.func10, Tryd.ntmps10
  go_wp2_with fail
  refine (four_c x hxl w hT).mono ?_
  rintro e w' ⟨rfl, rfl⟩
  go_wp2_with fail
  refine (four_c (mvs 4 x) hyl w hT).mono ?_
  rintro e w' ⟨rfl, rfl⟩
  go_wp2_with fail
  go_ret
  exact ⟨by rw [← h3]; rfl, rfl⟩
theorem moved_c (x : Nat) (hx : x < 4294967296) (w : World) :
    Calls Tryd.prog 14 #[.int .u32 x] w fun e w' => e = .returned (.int .u32 (mv x : Nat)) ∧ w = w' := by
  have h2 := xpoly (x / 2) (by omega)
  go_enter Tryd.func14, Tryd.ntmps14
  rcases Nat.mod_two_eq_zero_or_one x with hm | hm
  · have e : mv x = x / 2 := by unfold mv; rw [if_neg (by omega)]
    have h1 : (x : Int) % 2 = 0 := by omega
    go_wp2
    all_goals go_ret
    all_goals exact ⟨by rw [e]; go_num, rfl⟩
  · have e : mv x = x / 2 ^^^ 3988292384 := by unfold mv; rw [if_pos hm]
    have h1 : (x : Int) % 2 = 1 := by omega
    go_wp2
    all_goals go_ret
    all_goals exact ⟨by rw [e, ← h2]; go_num, rfl⟩
set_option maxHeartbeats 1000000 in
theorem rstep_c (s b : Nat) (hs : s < 4294967296) (hb : b < 256) (w : World) :
    Calls Tryd.prog 11 #[.int .u32 s, .int .u8 b] w fun e w' => e = .returned (.int .u32 (stp s b : Nat)) ∧ w = w' := by
  have hsg : IntKind.u32.signed = false := rfl
  have h1 := not32 s hs
  have e : stp s b = mvs 8 (s ^^^ 4294967295 ^^^ b) ^^^ 4294967295 := rfl
  rw [e]
  clear e
  obtain ⟨n, hn⟩ : ∃ n, s ^^^ 4294967295 = n := ⟨_, rfl⟩
  have hnl : n < 4294967296 := by rw [← hn]; exact xor_lt32 hs (by decide)
  rw [hn] at h1 ⊢
  have h2 := x32 n b hnl (by omega)
  obtain ⟨x, hx⟩ : ∃ x, n ^^^ b = x := ⟨_, rfl⟩
  have hxl : x < 4294967296 := by rw [← hx]; exact xor_lt32 hnl (by omega)
  rw [hx] at h2 ⊢
  clear hn hx
  go_enter Tryd.func11, Tryd.ntmps11
  go_wp2_with fail
  go_loopg [5, 6] 8 (fun g sx si wr => ∃ i : Nat, i + g = 8 ∧ si = .int .i64 i ∧ sx = .int .u32 (mvs i x : Nat) ∧ w = wr)
  case atStart => exact ⟨0, rfl, rfl, rfl, rfl⟩
  case round =>
    obtain ⟨i, hi, rfl, rfl, rfl⟩ := hrel
    have hml := mvs_lt i hxl
    by_cases hl : i < 8
    · go_wp2_with (go_at_call 14; refine (moved_c (mvs i x) hml _).mono ?_; rintro e3 w3 ⟨rfl, rfl⟩)
      go_roundg (7 - i)
      case measure => omega
      case rel => exact ⟨i + 1, by omega, by go_num, by rw [mv_mvs]; rfl, rfl⟩
    · have hi2 : i = 8 := by omega
      rw [hi2] at hml ⊢
      have h3 := not32 _ hml
      go_wp2_with fail
      go_ret
      exact ⟨by rw [← h3]; rfl, rfl⟩
/-- Bytes that lie side by side. -/
def Lies (w : World) (a : Option Addr) (l : List Nat) : Prop := l = [] ∨ ∃ (b o : Nat), a = some ⟨b, o, none⟩ ∧ ∀ (i x : Nat), l[i]? = some x → w.cell? ⟨b, o + i, none⟩ = some (.int .u8 (x : Int))
theorem Lies.drew {w : World} {a : Option Addr} {l : List Nat} (h : Lies w a l) : Lies w.drew a l := h
theorem Lies.drewN {w : World} {a : Option Addr} {l : List Nat} (h : Lies w a l) (n : Nat) : Lies (w.drewN n) a l := h
/-- Bytes. -/
def Oct (l : List Nat) : Prop := ∀ x ∈ l, x < 256
theorem sm_take (l : List Nat) (k x : Nat) (h : l[k]? = some x) : sm 0 (l.take (k + 1)) = stp (sm 0 (l.take k)) x := by
  obtain ⟨hk, he⟩ := List.getElem?_eq_some_iff.1 h
  rw [List.take_succ_eq_append_getElem hk, sm_append, he]; rfl
theorem Oct.take {l : List Nat} (h : Oct l) (k : Nat) : Oct (l.take k) := fun x hx => h x (List.mem_of_mem_take hx)
theorem Oct.sm_lt {l : List Nat} (h : Oct l) : sm 0 l < 4294967296 := YtopaekcbopoeaaaDoor.sm_lt l (by decide) h
set_option maxHeartbeats 1000000 in
theorem sum_c (a : Option Addr) (l : List Nat) (cap : Nat) (w : World) (hT : Tab w) (hb : Oct l) (hl : l.length < 9223372036854775808) (h : Lies w a l) :
    Calls Tryd.prog 8 #[.slice a l.length cap] w fun e w' => e = .returned (.int .u32 (sm 0 l : Nat)) ∧ w = w' := by
  obtain ⟨L, hL⟩ : ∃ L, l.length = L := ⟨_, rfl⟩
  have AL : Aside (l.length = L ∧ L < 9223372036854775808) := ⟨hL, by omega⟩
  rw [hL]
  clear hL hl
  go_enter Tryd.func8, Tryd.ntmps8
  go_wp2_with fail
  go_loopg [3, 8] L (fun g sx si wr => ∃ k : Nat, k + g = L ∧ si = .int .i64 k ∧ sx = .int .u32 (sm 0 (l.take k) : Nat) ∧ w = wr)
  case atStart => exact ⟨0, by omega, rfl, by rw [List.take_zero]; rfl, rfl⟩
  case round =>
    obtain ⟨k, hk, rfl, rfl, rfl⟩ := hrel
    have hsl := (hb.take k).sm_lt
    by_cases hlt : k < L
    · have hki : (k : Int) < (L : Int) := by omega
      have hkl : k < l.length := by rw [AL.out.1]; exact hlt
      have hx := List.getElem?_eq_getElem hkl
      have hx2 := hb _ (List.getElem_mem hkl)
      obtain ⟨x, hxx⟩ : ∃ x, l[k] = x := ⟨_, rfl⟩
      rw [hxx] at hx hx2
      have AX : Aside (sm 0 (l.take (k + 1)) = stp (sm 0 (l.take k)) x) := sm_take l k x hx
      have AK : Aside (k + gk = L) := hk
      have hkb : (k : Int) + 1 < 9223372036854775808 := by have := AL.out; omega
      rcases h with rfl | ⟨b, o, rfl, hc⟩
      · simp at hkl
      have hcell := hc k x hx
      clear hc hx hxx hkl hk
      obtain ⟨s, hs⟩ : ∃ s, sm 0 (l.take k) = s := ⟨_, rfl⟩
      rw [hs] at hsl AX ⊢
      clear hs
      go_wp2_with (go_at_call 10; refine (step_c s x hsl hx2 _ hT).mono ?_; rintro e3 w3 ⟨rfl, rfl⟩)
      have hk := AK.out
      go_roundg (gk - 1)
      case measure => omega
      case rel => exact ⟨k + 1, by omega, by go_num, by rw [AX.out], rfl⟩
    · have hki : ¬ (k : Int) < (L : Int) := by omega
      have hk2 : l.take k = l := List.take_of_length_le (by have := AL.out; omega)
      rw [hk2]
      clear hk2
      go_wp2_with fail
      go_ret
      exact ⟨rfl, rfl⟩
set_option maxHeartbeats 1000000 in
theorem rsum_c (a : Option Addr) (l : List Nat) (cap : Nat) (w : World) (hb : Oct l) (hl : l.length < 9223372036854775808) (h : Lies w a l) :
    Calls Tryd.prog 9 #[.slice a l.length cap] w fun e w' => e = .returned (.int .u32 (sm 0 l : Nat)) ∧ w = w' := by
  obtain ⟨L, hL⟩ : ∃ L, l.length = L := ⟨_, rfl⟩
  have AL : Aside (l.length = L ∧ L < 9223372036854775808) := ⟨hL, by omega⟩
  rw [hL]
  clear hL hl
  go_enter Tryd.func9, Tryd.ntmps9
  go_wp2_with fail
  go_loopg [3, 4] L (fun g sx si wr => ∃ k : Nat, k + g = L ∧ si = .int .i64 k ∧ sx = .int .u32 (sm 0 (l.take k) : Nat) ∧ w = wr)
  case atStart => exact ⟨0, by omega, rfl, by rw [List.take_zero]; rfl, rfl⟩
  case round =>
    obtain ⟨k, hk, rfl, rfl, rfl⟩ := hrel
    have hsl := (hb.take k).sm_lt
    by_cases hlt : k < L
    · have hki : (k : Int) < (L : Int) := by omega
      have hkl : k < l.length := by rw [AL.out.1]; exact hlt
      have hx := List.getElem?_eq_getElem hkl
      have hx2 := hb _ (List.getElem_mem hkl)
      obtain ⟨x, hxx⟩ : ∃ x, l[k] = x := ⟨_, rfl⟩
      rw [hxx] at hx hx2
      have AX : Aside (sm 0 (l.take (k + 1)) = stp (sm 0 (l.take k)) x) := sm_take l k x hx
      have AK : Aside (k + gk = L) := hk
      have hkb : (k : Int) + 1 < 9223372036854775808 := by have := AL.out; omega
      rcases h with rfl | ⟨b, o, rfl, hc⟩
      · simp at hkl
      have hcell := hc k x hx
      clear hc hx hxx hkl hk
      obtain ⟨s, hs⟩ : ∃ s, sm 0 (l.take k) = s := ⟨_, rfl⟩
      rw [hs] at hsl AX ⊢
      clear hs
      go_wp2_with (go_at_call 11; refine (rstep_c s x hsl hx2 _).mono ?_; rintro e3 w3 ⟨rfl, rfl⟩)
      have hk := AK.out
      go_roundg (gk - 1)
      case measure => omega
      case rel => exact ⟨k + 1, by omega, by go_num, by rw [AX.out], rfl⟩
    · have hki : ¬ (k : Int) < (L : Int) := by omega
      have hk2 : l.take k = l := List.take_of_length_le (by have := AL.out; omega)
      rw [hk2]
      clear hk2
      go_wp2_with fail
      go_ret
      exact ⟨rfl, rfl⟩
end Go.Proofs.YtopaekcbopoeaaaDoor

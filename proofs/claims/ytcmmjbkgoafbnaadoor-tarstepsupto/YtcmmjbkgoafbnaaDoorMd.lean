/-
  Own texts of this seat, one behind the other: what each says stands ahead of it.
-/
import Derived.Test.YtcmmjbkgoafbnaaDoorMa
import Derived.Test.YtcmmjbkgoafbnaaDoorMc
import Derived.OwnWalk
import Derived.Lib.SlBytesConst
import Derived.Deep.RegionHeld3
import Derived.BigRegion
import Derived.Test.YtcmmjbkgoafbnaaDoorMb
/-
  What Sums and Zero come to, the program's and the document's: the two sums of a block, whether it holds noughts alone.
  Conditions: the bytes lie side by side.
-/
namespace Go.Proofs.YtcmmjbkgoafbnaaDoor
open Go.RowKit
set_option linter.unusedVariables false
theorem val_lt {l : List Nat} (h : Oct l) (i : Nat) : val l i < 256 := by
  unfold val
  split
  · decide
  · rw [List.getD_eq_getElem?_getD]
    cases hx : l[i]? with
    | none => simp
    | some x => exact h x (List.mem_of_getElem? hx)
theorem sg_bd (x : Nat) (h : x < 256) : -128 ≤ sg x ∧ sg x ≤ 127 := by unfold sg; split <;> omega
theorem pl_bd {l : List Nat} (h : Oct l) : ∀ k : Nat, 0 ≤ pl l k ∧ pl l k ≤ 255 * k
  | 0 => by simp [pl]
  | k + 1 => by have := pl_bd h k; have := val_lt h k; rw [pl]; omega
theorem sn_bd {l : List Nat} (h : Oct l) : ∀ k : Nat, -128 * (k : Int) ≤ sn l k ∧ sn l k ≤ 127 * k
  | 0 => by simp [sn]
  | k + 1 => by have := sn_bd h k; have := sg_bd _ (val_lt h k); rw [sn]; omega
theorem val_in {l : List Nat} {i : Nat} (h : 148 ≤ i) (h2 : i < 156) : val l i = 32 := by unfold val; rw [if_pos ⟨h, h2⟩]
theorem val_out {l : List Nat} {i x : Nat} (h : i < 148 ∨ 156 ≤ i) (hx : l[i]? = some x) : val l i = x := by
  unfold val; rw [if_neg (by omega), List.getD_eq_getElem?_getD, hx]; rfl
theorem sg_all : ∀ x : Fin 256, IntKind.i8.wrap (x.val : Int) = sg x.val := by decide +kernel
theorem sg_wrap (x : Nat) (h : x < 256) : IntKind.i8.wrap (x : Int) = sg x := sg_all ⟨x, h⟩
set_option maxRecDepth 100000 in
set_option maxHeartbeats 1000000 in
theorem sums_c (a : Option Addr) (l : List Nat) (cap : Nat) (w : World) (hL : l.length = 512) (hb : Oct l) (h : Lies w a l) :
    Calls Tryd.prog 54 #[.slice a 512 cap] w fun e w' => e = .returned (.tuple #[.int .i64 (pl l 512), .int .i64 (sn l 512), .bool true]) ∧ w = w' := by
  rcases h with rfl | ⟨b, o, rfl, hc⟩
  · simp at hL
  go_enter Tryd.func54, Tryd.ntmps54
  go_wp2_with fail
  go_loopg [2, 3, 12] 512 (fun g sp ss si wr => ∃ k : Nat, k + g = 512 ∧ si = .int .i64 k ∧ sp = .int .i64 (pl l k) ∧ ss = .int .i64 (sn l k) ∧ w = wr)
  case atStart => exact ⟨0, rfl, rfl, rfl, rfl, rfl⟩
  case round =>
    obtain ⟨k, hk, rfl, rfl, rfl, rfl⟩ := hrel
    have AK : Aside (k + gk = 512) := hk
    have hp := pl_bd hb k
    have hs := sn_bd hb k
    by_cases hlt : k < 512
    · have hki : (k : Int) < 512 := by omega
      have hkl : k < l.length := by omega
      have hx := List.getElem?_eq_getElem hkl
      obtain ⟨x, hxx⟩ : ∃ x, l[k] = x := ⟨_, rfl⟩
      have hx2 : x < 256 := by rw [← hxx]; exact hb _ (List.getElem_mem hkl)
      rw [hxx] at hx
      have hcell := hc k x hx
      by_cases h1 : 148 ≤ k
      · have h1i : (148 : Int) ≤ (k : Int) := by omega
        by_cases h2 : k < 156
        · have h2i : (k : Int) < 156 := by omega
          have AV : Aside (val l k = 32) := val_in h1 h2
          clear hx hxx hkl hk h1 h2 hlt
          go_wp2_with fail
          have hk := AK.out
          go_roundg (gk - 1)
          case measure => omega
          case rel => exact ⟨k + 1, by omega, by go_num, by rw [pl, AV.out]; go_num, by rw [sn, AV.out]; rfl, rfl⟩
        · have h2i : ¬ (k : Int) < 156 := by omega
          have AV : Aside (val l k = x) := val_out (by omega) hx
          have hsg := sg_wrap x hx2
          have hsb := sg_bd x hx2
          obtain ⟨z, hz⟩ : ∃ z, sg x = z := ⟨_, rfl⟩
          have AZ : Aside (sg x = z) := hz
          rw [hz] at hsg hsb
          clear hx hxx hkl hk h1 h2 hlt hz
          go_wp2_with fail
          have hk := AK.out
          go_roundg (gk - 1)
          case measure => omega
          case rel => exact ⟨k + 1, by omega, by go_num, by rw [pl, AV.out], by rw [sn, AV.out, AZ.out], rfl⟩
      · have h1i : ¬ (148 : Int) ≤ (k : Int) := by omega
        have AV : Aside (val l k = x) := val_out (by omega) hx
        have hsg := sg_wrap x hx2
        have hsb := sg_bd x hx2
        obtain ⟨z, hz⟩ : ∃ z, sg x = z := ⟨_, rfl⟩
        have AZ : Aside (sg x = z) := hz
        rw [hz] at hsg hsb
        clear hx hxx hkl hk h1 hlt hz
        go_wp2_with fail
        have hk := AK.out
        go_roundg (gk - 1)
        case measure => omega
        case rel => exact ⟨k + 1, by omega, by go_num, by rw [pl, AV.out], by rw [sn, AV.out, AZ.out], rfl⟩
    · have hki : ¬ (k : Int) < 512 := by omega
      have hk2 : k = 512 := by omega
      subst hk2
      go_wp2_with fail
      exact bodyPost_ret (v := .tuple #[.int .i64 (pl l 512), .int .i64 (sn l 512), .bool true]) (by simp [results, Tryd.results54, go_sem]) rfl ⟨rfl, rfl⟩
end Go.Proofs.YtcmmjbkgoafbnaaDoor

/-
  What Sums and Zero come to: at lists that are no block, and the document's.
  Conditions: the bytes lie side by side.
-/
namespace Go.Proofs.YtcmmjbkgoafbnaaDoor
open Go.RowKit
set_option linter.unusedVariables false
theorem ne512 {L : Nat} (h : L ≠ 512) : ((L : Int) != 512) = true := by rw [bne_iff_ne]; omega
theorem sums_no (a : Option Addr) (L cap : Nat) (w : World) (hL : L ≠ 512) :
    Calls Tryd.prog 54 #[.slice a L cap] w fun e w' => e = .returned (.tuple #[.int .i64 0, .int .i64 0, .bool false]) ∧ w = w' := by
  have h1 := ne512 hL
  clear hL
  go_enter Tryd.func54, Tryd.ntmps54
  go_wp2_with fail
  go_ret3
  exact ⟨rfl, rfl⟩
theorem rsums_no (a : Option Addr) (L cap : Nat) (w : World) (hL : L ≠ 512) :
    Calls Tryd.prog 50 #[.slice a L cap] w fun e w' => e = .returned (.tuple #[.int .i64 0, .int .i64 0, .bool false]) ∧ w = w' := by
  have h1 := ne512 hL
  clear hL
  go_enter Tryd.func50, Tryd.ntmps50
  go_wp2_with fail
  go_ret3
  exact ⟨rfl, rfl⟩
set_option maxRecDepth 100000 in
set_option maxHeartbeats 1000000 in
theorem rsums_c (a : Option Addr) (l : List Nat) (cap : Nat) (w : World) (hL : l.length = 512) (hb : Oct l) (h : Lies w a l) :
    Calls Tryd.prog 50 #[.slice a 512 cap] w fun e w' => e = .returned (.tuple #[.int .i64 (pl l 512), .int .i64 (sn l 512), .bool true]) ∧ w = w' := by
  rcases h with rfl | ⟨b, o, rfl, hc⟩
  · simp at hL
  go_enter Tryd.func50, Tryd.ntmps50
  go_wp2_with fail
  go_loopg [5, 6, 7] 512 (fun g sp ss si wr => ∃ k : Nat, k + g = 512 ∧ si = .int .i64 k ∧ sp = .int .i64 (pl l k) ∧ ss = .int .i64 (sn l k) ∧ w = wr)
  case atStart => exact ⟨0, rfl, rfl, rfl, rfl, rfl⟩
  case round =>
    obtain ⟨k, hk, rfl, rfl, rfl, rfl⟩ := hrel
    have AK : Aside (k + gk = 512) := hk
    have hp := pl_bd hb k
    have hs := sn_bd hb k
    by_cases hlt : k < 512
    · have hki : (k : Int) < 512 := by omega
      have hkl : k < l.length := by omega
      have hx := List.getElem?_eq_getElem hkl
      obtain ⟨x, hxx⟩ : ∃ x, l[k] = x := ⟨_, rfl⟩
      have hx2 : x < 256 := by rw [← hxx]; exact hb _ (List.getElem_mem hkl)
      rw [hxx] at hx
      have hcell := hc k x hx
      by_cases hin : 148 ≤ k ∧ k < 156
      · obtain ⟨h1, h2⟩ := hin
        have h1i : (148 : Int) ≤ (k : Int) := by omega
        have h2i : (k : Int) ≤ 155 := by omega
        have AV : Aside (val l k = 32) := val_in h1 h2
        clear hx hxx hkl hk h1 h2 hlt
        go_wp2_with fail
        have hk := AK.out
        go_roundg (gk - 1)
        case measure => omega
        case rel => exact ⟨k + 1, by omega, by go_num, by rw [pl, AV.out]; go_num, by rw [sn, AV.out]; rfl, rfl⟩
      · have AV : Aside (val l k = x) := val_out (by omega) hx
        have hin2 : ¬ (148 : Int) ≤ (k : Int) ∨ (148 : Int) ≤ (k : Int) ∧ ¬ (k : Int) ≤ 155 := by omega
        by_cases h128 : 128 ≤ x
        · have h128i : (128 : Int) ≤ (x : Int) := by omega
          have AZ : Aside (sg x = (x : Int) - 256) := by show _ = _; unfold sg; rw [if_pos h128]
          clear hx hxx hkl hk hlt hin h128
          rcases hin2 with h1i | ⟨h1i, h2i⟩
          all_goals
            go_wp2_with fail
            have hk := AK.out
            go_roundg (gk - 1)
            case measure => omega
            case rel => exact ⟨k + 1, by omega, by go_num, by rw [pl, AV.out], by rw [sn, AV.out, AZ.out]; try go_num, rfl⟩
        · have h128i : ¬ (128 : Int) ≤ (x : Int) := by omega
          have AZ : Aside (sg x = (x : Int)) := by show _ = _; unfold sg; rw [if_neg h128]
          clear hx hxx hkl hk hlt hin h128
          rcases hin2 with h1i | ⟨h1i, h2i⟩
          all_goals
            go_wp2_with fail
            have hk := AK.out
            go_roundg (gk - 1)
            case measure => omega
            case rel => exact ⟨k + 1, by omega, by go_num, by rw [pl, AV.out], by rw [sn, AV.out, AZ.out], rfl⟩
    · have hki : ¬ (k : Int) < 512 := by omega
      have hk2 : k = 512 := by omega
      subst hk2
      go_wp2_with fail
      go_ret3
      exact ⟨rfl, rfl⟩
theorem noughts_cons (x : Nat) (r : List Nat) : noughts (x :: r) = (x == 0 && noughts r) := rfl
theorem zero_no (a : Option Addr) (L cap : Nat) (w : World) (hL : L ≠ 512) :
    Calls Tryd.prog 41 #[.slice a L cap] w fun e w' => e = .returned (.bool false) ∧ w = w' := by
  have h1 := ne512 hL
  clear hL
  go_enter Tryd.func41, Tryd.ntmps41
  go_wp2_with fail
  go_ret
  exact ⟨rfl, rfl⟩
set_option maxRecDepth 100000 in
set_option maxHeartbeats 1000000 in
theorem zero_c (a : Option Addr) (l : List Nat) (cap : Nat) (w : World) (hL : l.length = 512) (h : Lies w a l) :
    Calls Tryd.prog 41 #[.slice a 512 cap] w fun e w' => e = .returned (.bool (noughts l)) ∧ w = w' := by
  rcases h with rfl | ⟨b, o, rfl, hc⟩
  · simp at hL
  go_enter Tryd.func41, Tryd.ntmps41
  go_wp2_with fail
  go_loopg [10] 512 (fun g si wr => ∃ k : Nat, k + g = 512 ∧ si = .int .i64 k ∧ noughts (l.drop k) = noughts l ∧ w = wr)
  case atStart => exact ⟨0, rfl, rfl, by rw [List.drop_zero], rfl⟩
  case round =>
    obtain ⟨k, hk, rfl, hn, rfl⟩ := hrel
    have AK : Aside (k + gk = 512) := hk
    by_cases hlt : k < 512
    · have hki : (k : Int) < 512 := by omega
      have hkl : k < l.length := by omega
      have hx := List.getElem?_eq_getElem hkl
      have hd := List.drop_eq_getElem_cons hkl
      obtain ⟨x, hxx⟩ : ∃ x, l[k] = x := ⟨_, rfl⟩
      rw [hxx] at hx hd
      have hcell := hc k x hx
      rw [hd, noughts_cons] at hn
      by_cases h0 : x = 0
      · have h0i : ((x : Int) != 0) = false := by rw [h0]; rfl
        have h0n : (x == 0) = true := by rw [h0]; rfl
        rw [h0n, Bool.true_and] at hn
        have AN : Aside (noughts (l.drop (k + 1)) = noughts l) := hn
        clear hn h0 h0n hx hd hxx hkl hk hlt
        go_wp2_with fail
        have hk := AK.out
        go_roundg (gk - 1)
        case measure => omega
        case rel => exact ⟨k + 1, by omega, by go_num, AN.out, rfl⟩
      · have h0i : ((x : Int) != 0) = true := by rw [bne_iff_ne]; omega
        have h0n : (x == 0) = false := by rw [beq_eq_false_iff_ne]; exact h0
        rw [h0n, Bool.false_and] at hn
        have AN : Aside (false = noughts l) := hn
        clear hn h0 h0n hx hd hxx hkl hk hlt
        go_wp2_with fail
        go_ret
        exact ⟨by rw [← AN.out]; rfl, rfl⟩
    · have hki : ¬ (k : Int) < 512 := by omega
      have hk2 : l.drop k = [] := List.drop_eq_nil_of_le (by omega)
      rw [hk2] at hn
      have AN : Aside (true = noughts l) := hn
      clear hn hk2
      go_wp2_with fail
      go_ret
      exact ⟨by rw [← AN.out]; rfl, rfl⟩
set_option maxRecDepth 100000 in
set_option maxHeartbeats 1000000 in
theorem rzero_c (a : Option Addr) (l : List Nat) (L cap : Nat) (w : World) (hL : l.length = L) (hcap : L < 9223372036854775808) (h : Lies w a l) :
    Calls Tryd.prog 28 #[.slice a L cap] w fun e w' => e = .returned (.bool (noughts l && decide (L = 512))) ∧ w = w' := by
  have AL : Aside (l.length = L ∧ L < 9223372036854775808) := ⟨hL, hcap⟩
  have h512 : ((L : Int) == 512) = decide (L = 512) := beq_int L 512
  generalize decide (L = 512) = q at *
  clear hL hcap
  go_enter Tryd.func28, Tryd.ntmps28
  go_wp2_with fail
  go_loopg [3] L (fun g si wr => ∃ k : Nat, k + g = L ∧ si = .int .i64 k ∧ noughts (l.drop k) = noughts l ∧ w = wr)
  case atStart => exact ⟨0, by omega, rfl, by rw [List.drop_zero], rfl⟩
  case round =>
    obtain ⟨k, hk, rfl, hn, rfl⟩ := hrel
    have AK : Aside (k + gk = L) := hk
    clear hk
    by_cases hlt : k < L
    · have hki : (k : Int) < (L : Int) := by omega
      have hkl : k < l.length := by rw [AL.out.1]; exact hlt
      have hx := List.getElem?_eq_getElem hkl
      have hd := List.drop_eq_getElem_cons hkl
      obtain ⟨x, hxx⟩ : ∃ x, l[k] = x := ⟨_, rfl⟩
      rw [hxx] at hx hd
      rcases h with rfl | ⟨b, o, rfl, hc⟩
      · simp at hkl
      have hcell := hc k x hx
      rw [hd, noughts_cons] at hn
      have hkb : (k : Int) + 1 < 9223372036854775808 := by have := AL.out; omega
      by_cases h0 : x = 0
      · have h0i : ((x : Int) != 0) = false := by rw [h0]; rfl
        have h0n : (x == 0) = true := by rw [h0]; rfl
        rw [h0n, Bool.true_and] at hn
        have AN : Aside (noughts (l.drop (k + 1)) = noughts l) := hn
        clear hn h0 h0n hx hd hxx hkl
        go_wp2_with fail
        have hk := AK.out
        go_roundg (gk - 1)
        case measure => omega
        case rel => exact ⟨k + 1, by omega, by go_num, AN.out, rfl⟩
      · have h0i : ((x : Int) != 0) = true := by rw [bne_iff_ne]; omega
        have h0n : (x == 0) = false := by rw [beq_eq_false_iff_ne]; exact h0
        rw [h0n, Bool.false_and] at hn
        have AN : Aside (false = noughts l) := hn
        clear hn h0 h0n hx hd hxx hkl hkb
        go_wp2_with fail
        go_ret
        exact ⟨by rw [← AN.out]; rfl, rfl⟩
    · have hki : ¬ (k : Int) < (L : Int) := by omega
      have hk2 : l.drop k = [] := List.drop_eq_nil_of_le (by have := AL.out; omega)
      rw [hk2] at hn
      have AN : Aside (true = noughts l) := hn
      clear hn hk2
      go_wp2_with fail
      go_ret
      exact ⟨by rw [← AN.out]; rfl, rfl⟩
end Go.Proofs.YtcmmjbkgoafbnaaDoor

/-
  A header as it is written.
-/
namespace Go.Proofs.YtcmmjbkgoafbnaaDoor
open Go.RowKit
set_option linter.unusedVariables false
set_option linter.unusedSimpArgs false
/-- Bytes laid over others from a place on. -/
def ovl (b : List Nat) (k : Nat) (f : List Nat) : List Nat := b.take k ++ f ++ b.drop (k + f.length)
theorem ovl_nil (b : List Nat) (k : Nat) : ovl b k [] = b := by simp [ovl]
theorem ovl_len {b f : List Nat} {k : Nat} (h : k + f.length ≤ b.length) : (ovl b k f).length = b.length := by
  unfold ovl; simp; omega
theorem ovl_step {b f : List Nat} {k i x : Nat} (h : k + f.length ≤ b.length) (hx : f[i]? = some x) : (ovl b k (f.take i)).set (k + i) x = ovl b k (f.take (i + 1)) := by
  have hi := (List.getElem?_eq_some_iff.1 hx).1
  have h1 : (f.take i).length = i := by rw [List.length_take]; omega
  have h2 : (f.take (i + 1)).length = i + 1 := by rw [List.length_take]; omega
  unfold ovl
  rw [h1, h2, List.drop_eq_getElem_cons (show k + i < b.length by omega), take_more2 hx]
  have := set_block (q := []) (P := b.take k ++ f.take i) (x := x) (y := b[k + i]) (l := b.drop (k + i + 1))
  rw [List.length_append, List.length_take, h1, Nat.min_eq_left (by omega)] at this
  rw [this]
  simp
  rw [show k + (i + 1) = k + i + 1 by omega]
theorem ovl_oct {b f : List Nat} {k : Nat} (hb : Oct b) (hf : Oct f) : Oct (ovl b k f) := ((hb.take k).app hf).app (hb.drop _)
def oct12 (n : Nat) : List Nat := hi 8 48 n 11 ++ [0]
def oct8 (n : Nat) : List Nat := hi 8 48 n 7 ++ [0]
def ustar : List Nat := [117, 115, 116, 97, 114]
/-- A header without its sum. -/
def hd0 (name : List Nat) (size kind : Nat) : List Nat := (ovl (ovl (ovl (List.replicate 512 0) 0 (name.take 100)) 124 (oct12 size)) 257 ustar).set 156 kind
/-- A header. -/
def hdr (name : List Nat) (size kind : Nat) : List Nat := ovl (hd0 name size kind) 148 (oct8 (pl (hd0 name size kind) 512).toNat)
theorem oct12_len (n : Nat) : (oct12 n).length = 12 := by simp [oct12, hi_length]
theorem oct8_len (n : Nat) : (oct8 n).length = 8 := by simp [oct8, hi_length]
theorem oct12_oct (n : Nat) : Oct (oct12 n) := Oct.app (fun x hx => by have := hi_mem (by decide) hx; omega) (fun x hx => by simp at hx; omega)
theorem oct8_oct (n : Nat) : Oct (oct8 n) := Oct.app (fun x hx => by have := hi_mem (by decide) hx; omega) (fun x hx => by simp at hx; omega)
theorem hd0_len (name : List Nat) (size kind : Nat) : (hd0 name size kind).length = 512 := by
  have h1 : (ovl (List.replicate 512 0) 0 (name.take 100)).length = 512 := by rw [ovl_len (by rw [List.length_replicate, List.length_take]; omega), List.length_replicate]
  have h2 : (ovl (ovl (List.replicate 512 0) 0 (name.take 100)) 124 (oct12 size)).length = 512 := by rw [ovl_len (by rw [h1, oct12_len]; omega), h1]
  unfold hd0
  rw [List.length_set, ovl_len (by rw [h2]; decide), h2]
theorem hd0_oct {name : List Nat} {size kind : Nat} (hn : Oct name) (hk : kind < 256) : Oct (hd0 name size kind) := (ovl_oct (ovl_oct (ovl_oct (fun x hx => by rw [(List.mem_replicate.1 hx).2]; decide) (hn.take 100)) (oct12_oct size)) (show Oct ustar by unfold Oct ustar; decide)).set _ hk
theorem hdr_len (name : List Nat) (size kind : Nat) : (hdr name size kind).length = 512 := by unfold hdr; rw [ovl_len (by rw [hd0_len, oct8_len]; omega), hd0_len]
theorem hdr_oct {name : List Nat} {size kind : Nat} (hn : Oct name) (hk : kind < 256) : Oct (hdr name size kind) := ovl_oct (hd0_oct hn hk) (oct8_oct _)
theorem put12 {n : Nat} (h : n < 8589934592) : put n 12 = some (oct12 n) := by
  unfold put
  rw [if_neg (by omega)]
  show (if n / 8 ^ 11 = 0 then some (hi 8 48 n 11 ++ [0]) else _) = _
  rw [if_pos (Nat.div_eq_of_lt (by show n < 8589934592; exact h))]
  rfl
theorem put8 {n : Nat} (h : n < 2097152) : put n 8 = some (oct8 n) := by
  unfold put
  rw [if_neg (by omega)]
  show (if n / 8 ^ 7 = 0 then some (hi 8 48 n 7 ++ [0]) else _) = _
  rw [if_pos (Nat.div_eq_of_lt (by show n < 2097152; exact h))]
  rfl
theorem Bk.keep {w u x : World} {G n : Nat} {cs : List Nat} (h : Bk w u G n cs) (k : Below u.heap.size u x) : Bk w x G n cs := ⟨h.bel.trans (k.mono h.bel.size), h.ge, h.cells.below k h.cells.lt, h.len⟩
theorem Bk.fz {w u : World} {G n : Nat} {cs : List Nat} (h : Bk w u G n cs) (i : Nat) : u.frozen? ⟨G, i, none⟩ = false := h.cells.frozen i
/-- Bytes that lie somewhere else stay where the row is written. -/
theorem lies_bk {w u : World} {G n b o : Nat} {cs l : List Nat} (h : Bk w u G n cs) (hc : ∀ (i x : Nat), l[i]? = some x → u.cell? ⟨b, o + i, none⟩ = some (.int .u8 (x : Int))) (hb : b ≠ G) (j : Nat) (v : Value) : ∀ (i x : Nat), l[i]? = some x → (u.setCell ⟨G, j, none⟩ v).cell? ⟨b, o + i, none⟩ = some (.int .u8 (x : Int)) := fun i x hx => by
  rw [((Only.refl G u).setCell j v).cell (show (⟨b, o + i, none⟩ : Addr).block ≠ G from hb)]; exact hc i x hx
set_option maxRecDepth 20000 in
set_option maxHeartbeats 4000000 in
theorem head_c (name : List Nat) (size kind : Nat) (hn : Oct name) (hnl : name.length ≤ 1000) (hs : size < 8589934592) (hk : kind < 256) (w : World) : Calls Tryd.prog 36 #[.string (st name), .int .i64 (size : Int), .int .u8 (kind : Int)] w fun e w' => ∃ G, e = .returned (.slice (some ⟨G, 0, none⟩) 512 512) ∧ Bk w w' G 512 (hdr name size kind) := by
  have hmk := made 512 (by decide) w
  obtain ⟨G, hG⟩ : ∃ G, w.heap.size = G := ⟨_, rfl⟩
  obtain ⟨w1, hw1⟩ : ∃ w1, w.alloc (.cells (vn (List.replicate 512 0)).toArray 5) = w1 := ⟨_, rfl⟩
  have bk1 : Bk w w1 G 512 (List.replicate 512 0) := by rw [← hw1, ← hG]; exact Bk.new w 512
  rw [hw1, hG] at hmk
  obtain ⟨ss, hss⟩ : ∃ ss, st name = ss := ⟨_, rfl⟩
  obtain ⟨L, hL⟩ : ∃ L, name.length = L := ⟨_, rfl⟩
  have zs : ss.size = L := by rw [← hss, st_size, hL]
  rw [hss]
  have A : Aside (Oct name ∧ name.length = L ∧ L ≤ 1000 ∧ st name = ss ∧ size < 8589934592 ∧ kind < 256 ∧ w.heap.size = G) := ⟨hn, hL, by omega, hss, hs, hk, hG⟩
  have A1 : Aside (Bk w w1 G 512 (List.replicate 512 0)) := bk1
  have hmk2 : (Instr.makeSlice 22 (.int .i64 512) (.int .i64 512)).run Tryd.prog w = .ok (.slice (some ⟨G, 0, none⟩) 512 512) w1 := hmk
  clear hn hnl hs hk bk1 hw1 hss hL hG
  go_enter Tryd.func36, Tryd.ntmps36
  go_upto_region 2 with fail
  clear hmk hmk2
  go_upto_block 0 with fail
  go_cut [] (fun wx => Aside (Bk w wx G 512 (ovl (List.replicate 512 0) 0 (name.take 100))))
  case first =>
    go_wp2_with fail
    go_loopg [8] 101 (fun gg s8 wr => ∃ i : Nat, s8 = .int .i64 (i : Int) ∧ Aside (i ≤ 100 ∧ i ≤ L ∧ i + gg = 101 ∧ Bk w wr G 512 (ovl (List.replicate 512 0) 0 ((name.take 100).take i))))
    case atStart => exact ⟨0, rfl, ⟨by omega, by omega, rfl, by rw [List.take_zero, ovl_nil]; exact A1.out⟩⟩
    case round =>
      clear A1
      obtain ⟨i, rfl, hI⟩ := hrel
      obtain ⟨h1, h2, h3, bk⟩ := hI.out
      have a0 := A.out
      by_cases hiL : i < L
      · have t1 : ((i : Int) < (L : Int)) = True := eq_true (by omega)
        have t1n : (i < L) = True := eq_true hiL
        by_cases hi1 : i < 100
        · have t2 : ((i : Int) < 100) = True := eq_true (by omega)
          have t2n : (i < 100) = True := eq_true hi1
          have t3 : (i < 512) = True := eq_true (by omega)
          have t4 : ((i : Int) < 512) = True := eq_true (by omega)
          have bi : (i : Int) < 1000 := by omega
          obtain ⟨x, hx⟩ : ∃ x, name[i]? = some x := ⟨_, List.getElem?_eq_getElem (by omega)⟩
          have hx0 : ∀ h : i < ss.size, (ss[i]'h).toNat = x := by rw [← a0.2.2.2.1]; exact fun h => st_get a0.1 hx h
          have hxt : (name.take 100)[i]? = some x := by rw [List.getElem?_take, if_pos hi1]; exact hx
          have hlen := bk.len
          obtain ⟨y, hy⟩ : ∃ y, (ovl (List.replicate 512 0) 0 ((name.take 100).take i))[i]? = some y := ⟨_, List.getElem?_eq_getElem (by omega)⟩
          have c1 := bk.cell hy
          have f1 := bk.fz i
          have AG : Aside (i < 100 ∧ i < L ∧ i + gk = 101 ∧ Bk w (wr.setCell ⟨G, i, none⟩ (.int .u8 (x : Int))) G 512 (ovl (List.replicate 512 0) 0 ((name.take 100).take (i + 1)))) := by
            refine ⟨hi1, hiL, h3, ?_⟩
            have := bk.set i x
            have e := ovl_step (b := List.replicate 512 0) (k := 0) (by rw [List.length_replicate, List.length_take]; omega) hxt
            rw [Nat.zero_add] at e
            rw [e] at this
            exact this
          clear hI h1 h2 h3 bk a0 hiL hi1 hx hxt hlen hy
          go_wp2_with fail
          have ag := AG.out
          go_roundg (gk - 1)
          case measure => omega
          case rel => exact ⟨i + 1, by go_num, ⟨by omega, by omega, by omega, ag.2.2.2⟩⟩
        · have t2 : ((i : Int) < 100) = False := eq_false (by omega)
          have t2n : (i < 100) = False := eq_false hi1
          have AG : Aside (Bk w wr G 512 (ovl (List.replicate 512 0) 0 (name.take 100))) := by
            have := bk
            rw [List.take_of_length_le (by rw [List.length_take]; omega)] at this
            exact this
          clear hI h1 h2 h3 bk a0 hiL hi1
          go_wp2_with fail
          go_meet
          exact AG
      · have t1 : ((i : Int) < (L : Int)) = False := eq_false (by omega)
        have t1n : (i < L) = False := eq_false hiL
        have AG : Aside (Bk w wr G 512 (ovl (List.replicate 512 0) 0 (name.take 100))) := by
          have := bk
          rw [List.take_of_length_le (by rw [List.length_take]; omega)] at this
          exact this
        clear hI h1 h2 h3 bk a0 hiL
        go_wp2_with fail
        go_meet
        exact AG
  case rest =>
    have AB1 := hcut
    obtain ⟨W1, hW1⟩ : ∃ W1, W1 = wc := ⟨_, rfl⟩
    subst hW1
    clear hcut A1
    obtain ⟨b1, hb1⟩ : ∃ b1, ovl (List.replicate 512 0) 0 (name.take 100) = b1 := ⟨_, rfl⟩
    have bkb : Bk w W1 G 512 b1 := by rw [← hb1]; exact AB1.out
    have hp := rput_c size 12 W1 (by have := A.out.2.2.2.2.1; omega)
    rw [put12 A.out.2.2.2.2.1] at hp
    have AB : Aside (Bk w W1 G 512 b1 ∧ ovl (List.replicate 512 0) 0 (name.take 100) = b1) := ⟨bkb, hb1⟩
    have bs : (size : Int) < 8589934592 := by have := A.out.2.2.2.2.1; omega
    clear bkb hb1 AB1
    go_upto_region 7 with (go_at_call 53; refine hp.mono ?_; rintro e2 w2 ⟨fa, f, FL, fc, rfl, hf1, hf2, hf3, hf4, hf5, hf6, hf7⟩)
    obtain rfl : f = oct12 size := hf1.symm
    obtain rfl : FL = 12 := by rw [← hf2, oct12_len]
    obtain ⟨fb, fo, hfa, hfc⟩ : ∃ b o, fa = some ⟨b, o, none⟩ ∧ ∀ (i x : Nat), (oct12 size)[i]? = some x → w2.cell? ⟨b, o + i, none⟩ = some (.int .u8 (x : Int)) := by
      rcases hf5 with q | q
      · have := oct12_len size; rw [q] at this; cases this
      · exact q
    subst hfa
    have hfne : fb ≠ G := by have h1 := hf7 _ rfl; have h2 := AB.out.1.cells.lt; intro e; subst e; exact absurd h1 (by show ¬ _ ≤ fb; omega)
    obtain ⟨U, hU⟩ : ∃ U, w2.heap.size = U := ⟨_, rfl⟩
    have bk2 := AB.out.1.keep hf6
    have hUG : U ≠ G := by have := bk2.cells.lt; omega
    have hcon := Lib.run_convert_bytes_const (P := Tryd.prog) w2 22 5 #[.int .u8 117, .int .u8 115, .int .u8 116, .int .u8 97, .int .u8 114] 5 5 Tryd.underlying22 Tryd.underlying5
    rw [hU] at hcon
    obtain ⟨w3, hw3⟩ : ∃ w3, w2.alloc (.cells #[.int .u8 117, .int .u8 115, .int .u8 116, .int .u8 97, .int .u8 114] 5 ((#[.int .u8 117, .int .u8 115, .int .u8 116, .int .u8 97, .int .u8 114] : Array Value).size, (#[.int .u8 117, .int .u8 115, .int .u8 116, .int .u8 97, .int .u8 114] : Array Value).size + 1)) = w3 := ⟨_, rfl⟩
    rw [hw3] at hcon
    have b3 : Below w2.heap.size w2 w3 := by rw [← hw3]; exact (Below.refl _ w2).alloc (Nat.le_refl _) _
    have hblk : w3.heap[U]? = some (.cells #[.int .u8 117, .int .u8 115, .int .u8 116, .int .u8 97, .int .u8 114] 5 (5, 6)) := by
      rw [← hw3, ← hU]
      show (w2.heap.push _)[w2.heap.size]? = _
      simp
    obtain ⟨f12, hf12⟩ : ∃ f12, oct12 size = f12 := ⟨_, rfl⟩
    rw [hf12] at hfc
    have A2 : Aside (Bk w w3 G 512 b1 ∧ (∀ (i x : Nat), f12[i]? = some x → w3.cell? ⟨fb, fo + i, none⟩ = some (.int .u8 (x : Int))) ∧ f12.length = 12 ∧ fb ≠ G ∧ b1.length = 512 ∧ ovl b1 124 f12 = ovl (ovl (List.replicate 512 0) 0 (name.take 100)) 124 (oct12 size)) := by
      refine ⟨bk2.keep b3, fun i x hx => ?_, by rw [← hf12]; exact oct12_len size, hfne, bk2.len, by rw [AB.out.2, hf12]⟩
      have hlt : fb < w2.heap.size := by
        have := hfc i x hx
        exact Classical.byContradiction fun hc => by
          have : w2.heap[fb]? = none := Array.getElem?_eq_none (by omega)
          simp [World.cell?, this] at *
      rw [World.cell?_of_block (w := w2) (b3.block fb hlt)]
      exact hfc i x hx
    have AU : Aside (w3.heap[U]? = some (.cells #[.int .u8 117, .int .u8 115, .int .u8 116, .int .u8 97, .int .u8 114] 5 (5, 6)) ∧ U ≠ G) := ⟨hblk, hUG⟩
    clear hp hf1 hf2 hf3 hf4 hf5 hf6 hf7 hfc hfne hw3 b3 hblk bk2 hf12 bs AB hUG
    go_upto_region 8 with fail
    clear hcon hU
    go_upto_block 2 with fail
    go_cut [] (fun wx => Aside (Bk w wx G 512 (ovl b1 124 f12) ∧ wx.heap[U]? = some (.cells #[.int .u8 117, .int .u8 115, .int .u8 116, .int .u8 97, .int .u8 114] 5 (5, 6))))
    case first =>
      go_wp2_with fail
      go_loopg [12] 12 (fun gg sx wr => ∃ i : Nat, sx = .int .i64 (i : Int) ∧ Aside (i + gg = 12 ∧ Bk w wr G 512 (ovl b1 124 (f12.take i)) ∧ (∀ (i x : Nat), f12[i]? = some x → wr.cell? ⟨fb, fo + i, none⟩ = some (.int .u8 (x : Int))) ∧ wr.heap[U]? = some (.cells #[.int .u8 117, .int .u8 115, .int .u8 116, .int .u8 97, .int .u8 114] 5 (5, 6))))
      case atStart => exact ⟨0, rfl, ⟨rfl, by rw [List.take_zero, ovl_nil]; exact A2.out.1, A2.out.2.1, AU.out.1⟩⟩
      case round =>
        obtain ⟨i, rfl, hI⟩ := hrel
        obtain ⟨h3, bk, hcf, hub⟩ := hI.out
        have a0 := A2.out
        by_cases hi1 : i < 12
        · have t1 : ((i : Int) < 12) = True := eq_true (by omega)
          have t1n : (i < 12) = True := eq_true hi1
          have t3 : (124 + i < 512) = True := eq_true (by omega)
          have t4 : ((124 : Int) + (i : Int) < 512) = True := eq_true (by omega)
          have bi : (i : Int) < 1000 := by omega
          obtain ⟨x, hx⟩ : ∃ x, f12[i]? = some x := ⟨_, List.getElem?_eq_getElem (by rw [a0.2.2.1]; exact hi1)⟩
          have c2 := hcf i x hx
          have hlen := bk.len
          obtain ⟨y, hy⟩ : ∃ y, (ovl b1 124 (f12.take i))[124 + i]? = some y := ⟨_, List.getElem?_eq_getElem (by omega)⟩
          have c1 := bk.cell hy
          have f1 := bk.fz (124 + i)
          have AG : Aside (i < 12 ∧ i + gk = 12 ∧ Bk w (wr.setCell ⟨G, 124 + i, none⟩ (.int .u8 (x : Int))) G 512 (ovl b1 124 (f12.take (i + 1))) ∧ (∀ (j z : Nat), f12[j]? = some z → (wr.setCell ⟨G, 124 + i, none⟩ (.int .u8 (x : Int))).cell? ⟨fb, fo + j, none⟩ = some (.int .u8 (z : Int))) ∧ (wr.setCell ⟨G, 124 + i, none⟩ (.int .u8 (x : Int))).heap[U]? = some (.cells #[.int .u8 117, .int .u8 115, .int .u8 116, .int .u8 97, .int .u8 114] 5 (5, 6))) := by
            refine ⟨hi1, h3, ?_, lies_bk bk hcf a0.2.2.2.1 _ _, (((Only.refl G wr).setCell _ _).block U AU.out.2).trans hub⟩
            have := bk.set (124 + i) x
            rw [ovl_step (by have := a0.2.2.1; have := a0.2.2.2.2; omega) hx] at this
            exact this
          clear hI h3 bk hcf hub a0 hi1 hx hlen hy
          go_wp2_with fail
          have ag := AG.out
          go_roundg (gk - 1)
          case measure => omega
          case rel => exact ⟨i + 1, by go_num, ⟨by omega, ag.2.2.1, ag.2.2.2.1, ag.2.2.2.2⟩⟩
        · have t1 : ((i : Int) < 12) = False := eq_false (by omega)
          have t1n : (i < 12) = False := eq_false hi1
          have AG : Aside (Bk w wr G 512 (ovl b1 124 f12) ∧ wr.heap[U]? = some (.cells #[.int .u8 117, .int .u8 115, .int .u8 116, .int .u8 97, .int .u8 114] 5 (5, 6))) := by
            have := bk
            rw [List.take_of_length_le (by rw [a0.2.2.1]; omega)] at this
            exact ⟨this, hub⟩
          clear hI h3 bk hcf hub a0 hi1
          go_wp2_with fail
          go_meet
          exact AG
    case rest =>
      have AB2 := hcut
      obtain ⟨W2, hW2⟩ : ∃ W, W = wc := ⟨_, rfl⟩
      subst hW2
      clear hcut
      have hb := AB2.out.1
      obtain ⟨b2, hb2⟩ : ∃ b2, ovl b1 124 f12 = b2 := ⟨_, rfl⟩
      have A3 : Aside (Bk w W2 G 512 b2 ∧ (∀ (i x : Nat), ustar[i]? = some x → W2.cell? ⟨U, 0 + i, none⟩ = some (.int .u8 (x : Int))) ∧ ustar.length = 5 ∧ U ≠ G ∧ b2.length = 512 ∧ b2 = ovl b1 124 f12) := by
        rw [hb2] at hb
        refine ⟨hb, fun i x hx => ?_, rfl, AU.out.2, hb.len, hb2.symm⟩
        have hi : i < 5 := (List.getElem?_eq_some_iff.1 hx).1
        rw [Nat.zero_add]
        unfold ustar at hx
        simp only [World.cell?, AB2.out.2]
        have : i = 0 ∨ i = 1 ∨ i = 2 ∨ i = 3 ∨ i = 4 := by omega
        rcases this with rfl | rfl | rfl | rfl | rfl <;> simp at hx <;> subst hx <;> rfl
      clear hb
      go_upto_block 4 with fail
      go_cut [] (fun wx => Aside (Bk w wx G 512 (ovl b2 257 ustar)))
      case first =>
        go_wp2_with fail
        go_loopg [13] 5 (fun gg sx wr => ∃ i : Nat, sx = .int .i64 (i : Int) ∧ Aside (i + gg = 5 ∧ Bk w wr G 512 (ovl b2 257 (ustar.take i)) ∧ ∀ (i x : Nat), ustar[i]? = some x → wr.cell? ⟨U, 0 + i, none⟩ = some (.int .u8 (x : Int))))
        case atStart => exact ⟨0, rfl, ⟨rfl, by rw [List.take_zero, ovl_nil]; exact A3.out.1, A3.out.2.1⟩⟩
        case round =>
          obtain ⟨i, rfl, hI⟩ := hrel
          obtain ⟨h3, bk, hcf⟩ := hI.out
          have a0 := A3.out
          by_cases hi1 : i < 5
          · have t1 : ((i : Int) < 5) = True := eq_true (by omega)
            have t1n : (i < 5) = True := eq_true hi1
            have t3 : (257 + i < 512) = True := eq_true (by omega)
            have t4 : ((257 : Int) + (i : Int) < 512) = True := eq_true (by omega)
            have bi : (i : Int) < 1000 := by omega
            obtain ⟨x, hx⟩ : ∃ x, ustar[i]? = some x := ⟨_, List.getElem?_eq_getElem (by rw [a0.2.2.1]; exact hi1)⟩
            have c2 := hcf i x hx
            rw [Nat.zero_add] at c2
            have hlen := bk.len
            obtain ⟨y, hy⟩ : ∃ y, (ovl b2 257 (ustar.take i))[257 + i]? = some y := ⟨_, List.getElem?_eq_getElem (by omega)⟩
            have c1 := bk.cell hy
            have f1 := bk.fz (257 + i)
            have AG : Aside (i < 5 ∧ i + gk = 5 ∧ Bk w (wr.setCell ⟨G, 257 + i, none⟩ (.int .u8 (x : Int))) G 512 (ovl b2 257 (ustar.take (i + 1))) ∧ ∀ (j z : Nat), ustar[j]? = some z → (wr.setCell ⟨G, 257 + i, none⟩ (.int .u8 (x : Int))).cell? ⟨U, 0 + j, none⟩ = some (.int .u8 (z : Int))) := by
              refine ⟨hi1, h3, ?_, lies_bk bk hcf a0.2.2.2.1 _ _⟩
              have := bk.set (257 + i) x
              rw [ovl_step (by have := a0.2.2.1; have := a0.2.2.2.2; omega) hx] at this
              exact this
            clear hI h3 bk hcf a0 hi1 hx hlen hy
            go_wp2_with fail
            have ag := AG.out
            go_roundg (gk - 1)
            case measure => omega
            case rel => exact ⟨i + 1, by go_num, ⟨by omega, ag.2.2.1, ag.2.2.2⟩⟩
          · have t1 : ((i : Int) < 5) = False := eq_false (by omega)
            have t1n : (i < 5) = False := eq_false hi1
            have AG : Aside (Bk w wr G 512 (ovl b2 257 ustar)) := by
              have := bk
              rw [List.take_of_length_le (by rw [a0.2.2.1]; omega)] at this
              exact this
            clear hI h3 bk hcf a0 hi1
            go_wp2_with fail
            go_meet
            exact AG
      case rest =>
        have AB4 := hcut
        obtain ⟨W4, hW4⟩ : ∃ W, W = wc := ⟨_, rfl⟩
        subst hW4
        clear hcut
        have hb := AB4.out
        have hlen := hb.len
        obtain ⟨y, hy⟩ : ∃ y, (ovl b2 257 ustar)[156]? = some y := ⟨_, List.getElem?_eq_getElem (by omega)⟩
        have c1 := hb.cell hy
        have f1 := hb.fz 156
        have hb2 := hb.set 156 kind
        obtain ⟨W6, hW6⟩ : ∃ W6, W4.setCell ⟨G, 156, none⟩ (.int .u8 (kind : Int)) = W6 := ⟨_, rfl⟩
        rw [hW6] at hb2
        have e0 : (ovl b2 257 ustar).set 156 kind = hd0 name size kind := by unfold hd0; rw [A3.out.2.2.2.2.2, A2.out.2.2.2.2.2]
        rw [e0] at hb2
        obtain ⟨h0, hh0⟩ : ∃ h0, hd0 name size kind = h0 := ⟨_, rfl⟩
        rw [hh0] at hb2
        have ho0 : Oct h0 := by rw [← hh0]; exact hd0_oct A.out.1 A.out.2.2.2.2.2.1
        have hl0 : h0.length = 512 := by rw [← hh0]; exact hd0_len _ _ _
        have hsm := rsums_c (some ⟨G, 0, none⟩) h0 512 W6 hl0 ho0 hb2.lies
        obtain ⟨sn1, hsn1⟩ : ∃ z, sn h0 512 = z := ⟨_, rfl⟩
        have hpb := pl_bd ho0 512
        obtain ⟨S, hS⟩ : ∃ S : Nat, (pl h0 512) = (S : Int) := ⟨(pl h0 512).toNat, by omega⟩
        rw [hS, hsn1] at hsm
        have hSb : S < 2097152 := by omega
        have hp8 := rput_c S 8 W6 (by omega)
        rw [put8 hSb] at hp8
        have AH : Aside (hd0 name size kind = h0 ∧ oct8 (pl h0 512).toNat = oct8 S) := ⟨hh0, by rw [hS]; rfl⟩
        have AB6 : Aside (Bk w W6 G 512 h0) := hb2
        have bS : (S : Int) < 2097152 := by omega
        have AW6 : Aside (W4.setCell ⟨G, 156, none⟩ (.int .u8 (kind : Int)) = W6) := hW6
        clear hb hlen hy hb2 hW6 e0 hh0 ho0 hl0 hsn1 hpb hS hSb
        go_upto_region 17 with fail
        rw [AW6.out]
        clear c1 f1
        go_upto_region 19 with (first | (go_at_call 50; refine hsm.mono ?_; rintro e7 w7 ⟨rfl, rfl⟩) | (go_at_call 53; refine hp8.mono ?_; rintro e8 w8 ⟨ga, g, GL, gc, rfl, hg1, hg2, hg3, hg4, hg5, hg6, hg7⟩))
        obtain rfl : g = oct8 S := hg1.symm
        obtain rfl : GL = 8 := by rw [← hg2, oct8_len]
        obtain ⟨gb, go_, hga, hgc⟩ : ∃ b o, ga = some ⟨b, o, none⟩ ∧ ∀ (i x : Nat), (oct8 S)[i]? = some x → w8.cell? ⟨b, o + i, none⟩ = some (.int .u8 (x : Int)) := by
          rcases hg5 with q | q
          · have := oct8_len S; rw [q] at this; cases this
          · exact q
        subst hga
        have hgne : gb ≠ G := by have := hg7 _ rfl; have := AB6.out.cells.lt; intro e; subst e; simp at *; omega
        obtain ⟨f8, hf8⟩ : ∃ f8, oct8 S = f8 := ⟨_, rfl⟩
        rw [hf8] at hgc
        have A5 : Aside (Bk w w8 G 512 h0 ∧ (∀ (i x : Nat), f8[i]? = some x → w8.cell? ⟨gb, go_ + i, none⟩ = some (.int .u8 (x : Int))) ∧ f8.length = 8 ∧ gb ≠ G ∧ h0.length = 512) := ⟨AB6.out.keep hg6, hgc, by rw [← hf8]; exact oct8_len S, hgne, AB6.out.len⟩
        have AH2 : Aside (hd0 name size kind = h0 ∧ oct8 (pl h0 512).toNat = f8) := ⟨AH.out.1, by rw [AH.out.2, hf8]⟩
        clear hsm hp8 hg1 hg2 hg3 hg4 hg5 hg6 hg7 hgc hgne hf8 AB6 AH
        go_upto_block 6 with fail
        go_cut [] (fun wx => Aside (Bk w wx G 512 (ovl h0 148 f8)))
        case first =>
          go_wp2_with fail
          go_loopg [17] 8 (fun gg sx wr => ∃ i : Nat, sx = .int .i64 (i : Int) ∧ Aside (i + gg = 8 ∧ Bk w wr G 512 (ovl h0 148 (f8.take i)) ∧ ∀ (i x : Nat), f8[i]? = some x → wr.cell? ⟨gb, go_ + i, none⟩ = some (.int .u8 (x : Int))))
          case atStart => exact ⟨0, rfl, ⟨rfl, by rw [List.take_zero, ovl_nil]; exact A5.out.1, A5.out.2.1⟩⟩
          case round =>
            obtain ⟨i, rfl, hI⟩ := hrel
            obtain ⟨h3, bk, hcf⟩ := hI.out
            have a0 := A5.out
            by_cases hi1 : i < 8
            · have t1 : ((i : Int) < 8) = True := eq_true (by omega)
              have t1n : (i < 8) = True := eq_true hi1
              have t3 : (148 + i < 512) = True := eq_true (by omega)
              have t4 : ((148 : Int) + (i : Int) < 512) = True := eq_true (by omega)
              have bi : (i : Int) < 1000 := by omega
              obtain ⟨x, hx⟩ : ∃ x, f8[i]? = some x := ⟨_, List.getElem?_eq_getElem (by rw [a0.2.2.1]; exact hi1)⟩
              have c2 := hcf i x hx
              have hlen := bk.len
              obtain ⟨y, hy⟩ : ∃ y, (ovl h0 148 (f8.take i))[148 + i]? = some y := ⟨_, List.getElem?_eq_getElem (by omega)⟩
              have c1 := bk.cell hy
              have f1 := bk.fz (148 + i)
              have AG : Aside (i < 8 ∧ i + gk = 8 ∧ Bk w (wr.setCell ⟨G, 148 + i, none⟩ (.int .u8 (x : Int))) G 512 (ovl h0 148 (f8.take (i + 1))) ∧ ∀ (j z : Nat), f8[j]? = some z → (wr.setCell ⟨G, 148 + i, none⟩ (.int .u8 (x : Int))).cell? ⟨gb, go_ + j, none⟩ = some (.int .u8 (z : Int))) := by
                refine ⟨hi1, h3, ?_, lies_bk bk hcf a0.2.2.2.1 _ _⟩
                have := bk.set (148 + i) x
                rw [ovl_step (by have := a0.2.2.1; have := a0.2.2.2.2; omega) hx] at this
                exact this
              clear hI h3 bk hcf a0 hi1 hx hlen hy
              go_wp2_with fail
              have ag := AG.out
              go_roundg (gk - 1)
              case measure => omega
              case rel => exact ⟨i + 1, by go_num, ⟨by omega, ag.2.2.1, ag.2.2.2⟩⟩
            · have t1 : ((i : Int) < 8) = False := eq_false (by omega)
              have t1n : (i < 8) = False := eq_false hi1
              have AG : Aside (Bk w wr G 512 (ovl h0 148 f8)) := by
                have := bk
                rw [List.take_of_length_le (by rw [a0.2.2.1]; omega)] at this
                exact this
              clear hI h3 bk hcf a0 hi1
              go_wp2_with fail
              go_meet
              exact AG
        case rest =>
          have AB5 := hcut
          obtain ⟨W5, hW5⟩ : ∃ W, W = wc := ⟨_, rfl⟩
          subst hW5
          clear hcut
          have t0 := AB5.out
          have hfin : Bk w W5 G 512 (hdr name size kind) := by
            unfold hdr
            rw [AH2.out.1, AH2.out.2]
            exact t0
          have AF : Aside (Bk w W5 G 512 (hdr name size kind)) := hfin
          clear hfin t0
          go_wp2_with fail
          go_ret
          exact ⟨G, rfl, AF.out⟩
end Go.Proofs.YtcmmjbkgoafbnaaDoor

/-
  Entries in memory; what the document's Write comes to.
-/
namespace Go.Proofs.YtcmmjbkgoafbnaaDoor
open Go.RowKit
set_option linter.unusedVariables false
set_option linter.unusedSimpArgs false
/-- An entry: its name, its data, how it is written, its kind. -/
abbrev Ent := List Nat × List Nat × Nat × Nat
/-- A header ahead that says the name, or the size, too. -/
def wpr (h : Nat) (n d : List Nat) : List Nat :=
  if h = 1 then hdr [120] (n.length + 1) 76 ++ wh512 (n ++ [0])
  else if h = 2 then hdr [120] (sad kpath n).length 120 ++ wh512 (sad kpath n)
  else if h = 3 then hdr [120] (sad kpath n ++ sad ksize (dgs d.length)).length 120 ++ wh512 (sad kpath n ++ sad ksize (dgs d.length))
  else []
def whw (how : Nat) (n : List Nat) : Nat := if how % 4 = 0 ∧ 100 < n.length then 1 else how % 4
def wotk (k : Nat) : Nat := if k % 2 = 0 then 75 else 103
/-- An entry as it is written. -/
def wen (e : Ent) : List Nat :=
  if e.2.2.2 ≠ 0 then hdr (nmd e.1) e.2.1.length (wotk e.2.2.2) ++ wh512 e.2.1
  else wpr (whw e.2.2.1 (nmd e.1)) (nmd e.1) e.2.1 ++ (hdr (nmd e.1) (if whw e.2.2.1 (nmd e.1) = 3 then 7 else e.2.1.length) 48 ++ wh512 e.2.1)
def wal : List Ent → List Nat
  | [] => []
  | e :: r => wen e ++ wal r
def wri (l : List Ent) : List Nat := wal l ++ List.replicate 1024 0
theorem wal_append (a b : List Ent) : wal (a ++ b) = wal a ++ wal b := by
  induction a with
  | nil => rfl
  | cons e r ih => simp only [List.cons_append, wal, ih, List.append_assoc]
/-- One entry's cells. -/
structure E1 (w : World) (b o : Nat) (e : Ent) : Prop where
  ex : ∃ (da : Option Addr) (L C : Nat), w.cell? ⟨b, o, none⟩ = some (.string (st e.1)) ∧ w.cell? ⟨b, o + 1, none⟩ = some (.slice da L C) ∧ w.cell? ⟨b, o + 2, none⟩ = some (.int .u8 (e.2.2.1 : Int)) ∧ w.cell? ⟨b, o + 3, none⟩ = some (.int .u8 (e.2.2.2 : Int)) ∧ Lies w da e.2.1 ∧ e.2.1.length = L ∧ L ≤ C ∧ (da = none → L = 0 ∧ C = 0)
/-- What may be asked of an entry. -/
structure Eok (e : Ent) : Prop where
  n : Oct e.1
  nl : e.1.length ≤ 9223372036854775807
  d : Oct e.2.1
  dl : e.2.1.length ≤ 100000
  h : e.2.2.1 < 256
  k : e.2.2.2 < 256
/-- Entries in memory. -/
def Em (w : World) (a : Option Addr) (l : List Ent) : Prop := l = [] ∨ ∃ b o, a = some ⟨b, o, none⟩ ∧ ∀ (i : Nat) (e : Ent), l[i]? = some e → E1 w b (o + i * 4) e
theorem E1.below {w u : World} {C b o : Nat} {e : Ent} (h : E1 w b o e) (k : Below C w u) (hC : w.heap.size ≤ C) : E1 u b o e := by
  obtain ⟨da, L, Cp, h1, h2, h3, h4, h5, h6, h7, h8⟩ := h.ex
  have hb : b < w.heap.size := Classical.byContradiction fun hc => by
    have : w.heap[b]? = none := Array.getElem?_eq_none (by omega)
    simp [World.cell?, this] at h1
  have kk : ∀ j, u.cell? ⟨b, j, none⟩ = w.cell? ⟨b, j, none⟩ := fun j => World.cell?_of_block (w := w) (k.block b (by omega))
  exact ⟨da, L, Cp, by rw [kk]; exact h1, by rw [kk]; exact h2, by rw [kk]; exact h3, by rw [kk]; exact h4, h5.below (k.mono hC), h6, h7, h8⟩
theorem Em.below {w u : World} {C : Nat} {a : Option Addr} {l : List Ent} (h : Em w a l) (k : Below C w u) (hC : w.heap.size ≤ C) : Em u a l := by
  rcases h with h | ⟨b, o, ha, h⟩
  · exact Or.inl h
  · exact Or.inr ⟨b, o, ha, fun i e he => (h i e he).below k hC⟩
/-- What Write stands at within an entry: what is written so far, the entry's own place. -/
structure Rw (lo E : Nat) (w wr : World) (v : Value) (n : Nat) (z : List Nat) (cs : Array Value) : Prop where
  ow : Ow wr lo 5 1 v n (ob z)
  bel : Below lo w wr
  ev : Cells wr E cs 54
  len : z.length = n
section
variable {lo E n : Nat} {w wr u : World} {v : Value} {z : List Nat} {cs : Array Value}
theorem Rw.step (h : Rw lo E w wr v n z cs) (k : Below wr.heap.size wr u) : Rw lo E w u v n z cs := ⟨h.ow.below k (Nat.le_refl _), h.bel.trans (k.mono h.ow.le), h.ev.below k h.ev.lt, h.len⟩
theorem Rw.app (h : Rw lo E w wr v n z cs) {v' : Value} {m : Nat} {y : List Nat} (k : Got lo 5 1 wr u v v' (n + m) (ob z ++ ob y)) (hm : y.length = m) : Rw lo E w u v' (n + m) (z ++ y) cs := by
  refine ⟨?_, h.bel.trans k.bel, h.ev.got k (by decide), by rw [List.length_append, h.len, hm]⟩
  have := k.ow
  rw [ob_append] at this
  exact this
end
/-- Bytes of a row that was made. -/
theorem Bk.oc {w u : World} {G n : Nat} {cs : List Nat} (h : Bk w u G n cs) : ob cs = [] ∨ ∃ b o, (some ⟨G, 0, none⟩ : Option Addr) = some ⟨b, o, none⟩ ∧ ∀ i x, (ob cs)[i]? = some x → u.cell? ⟨b, o + i, none⟩ = some x := lies_ob h.lies
end Go.Proofs.YtcmmjbkgoafbnaaDoor

/-
  What stands in a header that is written. No walk.
-/
namespace Go.Proofs.YtcmmjbkgoafbnaaDoor
set_option linter.unusedVariables false
set_option linter.unusedSimpArgs false
theorem ovl_get {b f : List Nat} {k : Nat} (h : k + f.length ≤ b.length) (i : Nat) : (ovl b k f)[i]? = if k ≤ i ∧ i < k + f.length then f[i - k]? else b[i]? := by
  unfold ovl
  have hk : (b.take k).length = k := by rw [List.length_take]; omega
  rcases Nat.lt_or_ge i k with h1 | h1
  · rw [if_neg (by omega), List.append_assoc, List.getElem?_append_left (by omega), List.getElem?_take_of_lt h1]
  · rw [List.append_assoc, List.getElem?_append_right (by omega), hk]
    rcases Nat.lt_or_ge i (k + f.length) with h2 | h2
    · rw [if_pos ⟨h1, h2⟩, List.getElem?_append_left (by omega)]
    · rw [if_neg (by omega), List.getElem?_append_right (by omega), List.getElem?_drop]
      congr 1; omega
theorem hd0_get (n : List Nat) (z k i : Nat) : (hd0 n z k)[i]? = if i = 156 then some k else if 257 ≤ i ∧ i < 262 then ustar[i - 257]? else if 124 ≤ i ∧ i < 136 then (oct12 z)[i - 124]? else if i < (n.take 100).length then n[i]? else if i < 512 then some 0 else none := by
  unfold hd0
  have l0 : (List.replicate 512 0).length = 512 := List.length_replicate
  have lt : (n.take 100).length ≤ 100 := by rw [List.length_take]; omega
  have l1 : (ovl (List.replicate 512 0) 0 (n.take 100)).length = 512 := by rw [ovl_len (by omega)]; exact l0
  have l2 : (ovl (ovl (List.replicate 512 0) 0 (n.take 100)) 124 (oct12 z)).length = 512 := by rw [ovl_len (by rw [oct12_len]; omega)]; exact l1
  have lu : ustar.length = 5 := rfl
  have l3 : (ovl (ovl (ovl (List.replicate 512 0) 0 (n.take 100)) 124 (oct12 z)) 257 ustar).length = 512 := by rw [ovl_len (by omega)]; exact l2
  rw [List.getElem?_set]
  by_cases h1 : i = 156
  · subst h1; rw [if_pos rfl, if_pos (by omega), if_pos rfl]
  · rw [if_neg (by omega), if_neg h1, ovl_get (by omega), lu]
    by_cases h2 : 257 ≤ i ∧ i < 262
    · rw [if_pos h2, if_pos h2]
    · rw [if_neg h2, if_neg h2, ovl_get (by rw [oct12_len]; omega), oct12_len]
      by_cases h3 : 124 ≤ i ∧ i < 136
      · rw [if_pos h3, if_pos h3]
      · rw [if_neg h3, if_neg h3, ovl_get (by omega), Nat.zero_add, Nat.sub_zero]
        by_cases h4 : i < (n.take 100).length
        · rw [if_pos ⟨Nat.zero_le _, h4⟩, if_pos h4, List.getElem?_take_of_lt (by omega)]
        · rw [if_neg (by omega), if_neg h4, List.getElem?_replicate]
/-- The sum that is written. -/
def hsm (n : List Nat) (z k : Nat) : Nat := (pl (hd0 n z k) 512).toNat
theorem hdr_get (n : List Nat) (z k i : Nat) : (hdr n z k)[i]? = if 148 ≤ i ∧ i < 156 then (oct8 (hsm n z k))[i - 148]? else (hd0 n z k)[i]? := by
  unfold hdr
  rw [ovl_get (by rw [hd0_len, oct8_len]; omega), oct8_len]
  rfl
theorem hdr_size (n : List Nat) (z k : Nat) : ((hdr n z k).drop 124).take 12 = oct12 z := by
  apply List.ext_getElem?
  intro i
  rcases Nat.lt_or_ge i 12 with h | h
  · rw [List.getElem?_take_of_lt h, List.getElem?_drop, hdr_get, if_neg (by omega), hd0_get, if_neg (by omega), if_neg (by omega), if_pos (by omega)]
    rw [show 124 + i - 124 = i by omega]
  · rw [List.getElem?_eq_none (by rw [List.length_take]; omega), List.getElem?_eq_none (by rw [oct12_len]; omega)]
theorem hdr_kind (n : List Nat) (z k : Nat) : tkd (hdr n z k) = k := by
  unfold tkd
  rw [List.getD_eq_getElem?_getD, hdr_get, if_neg (by omega), hd0_get, if_pos rfl]
  rfl
theorem hdr_ustar (n : List Nat) (z k : Nat) : ((hdr n z k).drop 257).take 5 = ustar := by
  apply List.ext_getElem?
  intro i
  rcases Nat.lt_or_ge i 5 with h | h
  · rw [List.getElem?_take_of_lt h, List.getElem?_drop, hdr_get, if_neg (by omega), hd0_get, if_neg (by omega), if_pos (by omega)]
    rw [show 257 + i - 257 = i by omega]
  · rw [List.getElem?_eq_none (by rw [List.length_take]; omega), List.getElem?_eq_none (by show 5 ≤ i; exact h)]
theorem hdr_prefix (n : List Nat) (z k : Nat) : ((hdr n z k).drop 345).take 155 = List.replicate 155 0 := by
  apply List.ext_getElem?
  intro i
  rcases Nat.lt_or_ge i 155 with h | h
  · have lt : (n.take 100).length ≤ 100 := by rw [List.length_take]; omega
    rw [List.getElem?_take_of_lt h, List.getElem?_drop, hdr_get, if_neg (by omega), hd0_get, if_neg (by omega), if_neg (by omega), if_neg (by omega), if_neg (by omega), if_pos (by omega), List.getElem?_replicate, if_pos h]
  · rw [List.getElem?_eq_none (by rw [List.length_take]; omega), List.getElem?_eq_none (by rw [List.length_replicate]; omega)]
theorem hdr_name (n : List Nat) (z k : Nat) : (hdr n z k).take 100 = n.take 100 ++ List.replicate (100 - n.length) 0 := by
  have lt : (n.take 100).length = min 100 n.length := List.length_take
  apply List.ext_getElem?
  intro i
  rcases Nat.lt_or_ge i 100 with h | h
  · rw [List.getElem?_take_of_lt h, hdr_get, if_neg (by omega), hd0_get, if_neg (by omega), if_neg (by omega), if_neg (by omega)]
    by_cases h4 : i < (n.take 100).length
    · rw [if_pos h4, List.getElem?_append_left h4, List.getElem?_take_of_lt h]
    · rw [if_neg h4, if_pos (by omega), List.getElem?_append_right (by omega), List.getElem?_replicate, if_pos (by omega)]
  · rw [List.getElem?_eq_none (by rw [List.length_take]; omega), List.getElem?_eq_none (by rw [List.length_append, List.length_replicate]; omega)]
theorem ttx_nz : ∀ {l m : List Nat}, (∀ c ∈ l, c ≠ 0) → ttx (l ++ 0 :: m) = l
  | [], m, _ => rfl
  | x :: r, m, h => by
    have := ttx_nz (l := r) (m := m) fun c hc => h c (List.mem_cons_of_mem _ hc)
    have hx : (x != 0) = true := by simpa using h x (by simp)
    unfold ttx at this ⊢
    rw [List.cons_append, List.takeWhile_cons, hx, if_pos rfl, this]
theorem ttx_all : ∀ {l : List Nat}, (∀ c ∈ l, c ≠ 0) → ttx l = l
  | [], _ => rfl
  | x :: r, h => by
    have := ttx_all (l := r) fun c hc => h c (List.mem_cons_of_mem _ hc)
    have hx : (x != 0) = true := by simpa using h x (by simp)
    unfold ttx at this ⊢
    rw [List.takeWhile_cons, hx, if_pos rfl, this]
theorem ttx_pad {l : List Nat} (m : Nat) (h : ∀ c ∈ l, c ≠ 0) : ttx (l ++ List.replicate m 0) = l := by
  cases m with
  | zero => rw [List.replicate_zero, List.append_nil, ttx_all h]
  | succ m => rw [List.replicate_succ, ttx_nz h]
theorem hdr_tnm {n : List Nat} (z k : Nat) (h : ∀ c ∈ n, c ≠ 0) : tnm (hdr n z k) = n.take 100 := by
  unfold tnm
  rw [hdr_prefix, show ttx (List.replicate 155 0) = [] by rw [List.replicate_succ]; rfl, if_neg (fun q => q.2 rfl), hdr_name]
  exact ttx_pad _ fun c hc => h c (List.mem_of_mem_take hc)
theorem pl_congr {l m : List Nat} : ∀ k : Nat, (∀ i, i < k → val l i = val m i) → pl l k = pl m k
  | 0, _ => rfl
  | k + 1, h => by rw [pl, pl, pl_congr k fun i hi => h i (by omega), h k (by omega)]
theorem hdr_pl (n : List Nat) (z k : Nat) : pl (hdr n z k) 512 = pl (hd0 n z k) 512 := pl_congr 512 fun i hi => by
  unfold val
  split
  · rfl
  · rename_i h
    rw [List.getD_eq_getElem?_getD, List.getD_eq_getElem?_getD, hdr_get, if_neg h]
theorem hdr_sum (n : List Nat) (z k : Nat) : sumfield (hdr n z k) = oct8 (hsm n z k) := by
  unfold sumfield
  apply List.ext_getElem?
  intro i
  rcases Nat.lt_or_ge i 8 with h | h
  · rw [List.getElem?_take_of_lt h, List.getElem?_drop, hdr_get, if_pos (by omega)]
    rw [show 148 + i - 148 = i by omega]
  · rw [List.getElem?_eq_none (by rw [List.length_take]; omega), List.getElem?_eq_none (by rw [oct8_len]; omega)]
theorem oct8_oct_eq {u : Nat} (h : u < 2097152) : oct (oct8 u) = some u := by
  have h1 := (put_back (put8 h)).1
  have h2 : marked (oct8 u) = false := by
    unfold oct8
    rw [hi, List.cons_append, marked]
    simp; omega
  unfold fld at h1
  rw [h2, if_neg (by decide)] at h1
  exact h1
theorem hsm_lt {n : List Nat} {z k : Nat} (hn : Oct n) (hk : k < 256) : hsm n z k < 2097152 ∧ (hsm n z k : Int) = pl (hd0 n z k) 512 := by
  have h := pl_bd (hd0_oct (size := z) hn hk) 512
  unfold hsm
  omega
theorem hdr_rgt {n : List Nat} {z k : Nat} (hn : Oct n) (hk : k < 256) : rgt (hdr n z k) = true := by
  have h := hsm_lt (z := z) hn hk
  unfold rgt
  rw [hdr_sum, oct8_oct_eq h.1]
  simp only [Bool.or_eq_true, decide_eq_true_eq]
  left
  rw [hdr_pl]
  exact h.2
theorem hdr_fld {n : List Nat} {z k : Nat} (hz : z < 8589934592) : fld (((hdr n z k).drop 124).take 12) = some z := by
  rw [hdr_size]
  exact (put_back (put12 hz)).1
theorem hdr_some (n : List Nat) (z k : Nat) : noughts (hdr n z k) = false := by
  unfold noughts
  rw [List.all_eq_false]
  have h : (hdr n z k)[257]? = some 117 := by rw [hdr_get, if_neg (by omega), hd0_get, if_neg (by omega), if_pos (by omega)]; rfl
  exact ⟨117, List.mem_of_getElem? h, by decide⟩
end Go.Proofs.YtcmmjbkgoafbnaaDoor

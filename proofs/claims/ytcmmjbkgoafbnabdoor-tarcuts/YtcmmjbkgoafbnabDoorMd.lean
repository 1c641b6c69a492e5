/-
  Own texts of this seat, one behind the other: what each says stands ahead of it.
-/
import Derived.Test.YtcmmjbkgoafbnabDoorMa
import Derived.Test.YtcmmjbkgoafbnabDoorMc
import Derived.OwnWalk
import Derived.Lib.SlBytesConst
import Derived.Deep.RegionHeld3
import Derived.BigRegion
import Derived.Test.YtcmmjbkgoafbnabDoorRows
import Derived.ProofKit
import Derived.OpenShut
import Derived.Deep.Slices
import Derived.ChangeSame
import Derived.SizedLaws
import Derived.Deep.SlicePairs
/-
  What Sums and Zero come to, the program's and the document's: the two sums of a block, whether it holds noughts alone.
  Conditions: the bytes lie side by side.
-/
namespace Go.Proofs.YtcmmjbkgoafbnabDoor
open Go.RowKit
set_option linter.unusedVariables false
theorem val_lt {l : List Nat} (h : Oct l) (i : Nat) : val l i < 256 := by
  unfold val
  split
  · decide
  · rw [List.getD_eq_getElem?_getD]
    cases hx : l[i]? with
    | none => simp
    | some x => exact h x (List.mem_of_getElem? hx)
theorem sg_bd (x : Nat) (h : x < 256) : -128 ≤ sg x ∧ sg x ≤ 127 := by unfold sg; split <;> omega
theorem pl_bd {l : List Nat} (h : Oct l) : ∀ k : Nat, 0 ≤ pl l k ∧ pl l k ≤ 255 * k
  | 0 => by simp [pl]
  | k + 1 => by have := pl_bd h k; have := val_lt h k; rw [pl]; omega
theorem sn_bd {l : List Nat} (h : Oct l) : ∀ k : Nat, -128 * (k : Int) ≤ sn l k ∧ sn l k ≤ 127 * k
  | 0 => by simp [sn]
  | k + 1 => by have := sn_bd h k; have := sg_bd _ (val_lt h k); rw [sn]; omega
theorem val_in {l : List Nat} {i : Nat} (h : 148 ≤ i) (h2 : i < 156) : val l i = 32 := by unfold val; rw [if_pos ⟨h, h2⟩]
theorem val_out {l : List Nat} {i x : Nat} (h : i < 148 ∨ 156 ≤ i) (hx : l[i]? = some x) : val l i = x := by
  unfold val; rw [if_neg (by omega), List.getD_eq_getElem?_getD, hx]; rfl
theorem sg_all : ∀ x : Fin 256, IntKind.i8.wrap (x.val : Int) = sg x.val := by decide +kernel
theorem sg_wrap (x : Nat) (h : x < 256) : IntKind.i8.wrap (x : Int) = sg x := sg_all ⟨x, h⟩
set_option maxRecDepth 100000 in
set_option maxHeartbeats 1000000 in
theorem sums_c (a : Option Addr) (l : List Nat) (cap : Nat) (w : World) (hL : l.length = 512) (hb : Oct l) (h : Lies w a l) :
    Calls Tryd.prog 34 #[.slice a 512 cap] w fun e w' => e = .returned (.tuple #[.int .i64 (pl l 512), .int .i64 (sn l 512), .bool true]) ∧ w = w' := by
  rcases h with rfl | ⟨b, o, rfl, hc⟩
  · simp at hL
  go_enter Tryd.func34, Tryd.ntmps34
  go_wp2_with fail
  go_loopg [2, 3, 12] 512 (fun g sp ss si wr => ∃ k : Nat, k + g = 512 ∧ si = .int .i64 k ∧ sp = .int .i64 (pl l k) ∧ ss = .int .i64 (sn l k) ∧ w = wr)
  case atStart => exact ⟨0, rfl, rfl, rfl, rfl, rfl⟩
  case round =>
    obtain ⟨k, hk, rfl, rfl, rfl, rfl⟩ := hrel
    have AK : Aside (k + gk = 512) := hk
    have hp := pl_bd hb k
    have hs := sn_bd hb k
    by_cases hlt : k < 512
    · have hki : (k : Int) < 512 := by omega
      have hkl : k < l.length := by omega
      have hx := List.getElem?_eq_getElem hkl
      obtain ⟨x, hxx⟩ : ∃ x, l[k] = x := ⟨_, rfl⟩
      have hx2 : x < 256 := by rw [← hxx]; exact hb _ (List.getElem_mem hkl)
      rw [hxx] at hx
      have hcell := hc k x hx
      by_cases h1 : 148 ≤ k
      · have h1i : (148 : Int) ≤ (k : Int) := by omega
        by_cases h2 : k < 156
        · have h2i : (k : Int) < 156 := by omega
          have AV : Aside (val l k = 32) := val_in h1 h2
          clear hx hxx hkl hk h1 h2 hlt
          go_wp2_with fail
          have hk := AK.out
          go_roundg (gk - 1)
          case measure => omega
          case rel => exact ⟨k + 1, by omega, by go_num, by rw [pl, AV.out]; go_num, by rw [sn, AV.out]; rfl, rfl⟩
        · have h2i : ¬ (k : Int) < 156 := by omega
          have AV : Aside (val l k = x) := val_out (by omega) hx
          have hsg := sg_wrap x hx2
          have hsb := sg_bd x hx2
          obtain ⟨z, hz⟩ : ∃ z, sg x = z := ⟨_, rfl⟩
          have AZ : Aside (sg x = z) := hz
          rw [hz] at hsg hsb
          clear hx hxx hkl hk h1 h2 hlt hz
          go_wp2_with fail
          have hk := AK.out
          go_roundg (gk - 1)
          case measure => omega
          case rel => exact ⟨k + 1, by omega, by go_num, by rw [pl, AV.out], by rw [sn, AV.out, AZ.out], rfl⟩
      · have h1i : ¬ (148 : Int) ≤ (k : Int) := by omega
        have AV : Aside (val l k = x) := val_out (by omega) hx
        have hsg := sg_wrap x hx2
        have hsb := sg_bd x hx2
        obtain ⟨z, hz⟩ : ∃ z, sg x = z := ⟨_, rfl⟩
        have AZ : Aside (sg x = z) := hz
        rw [hz] at hsg hsb
        clear hx hxx hkl hk h1 hlt hz
        go_wp2_with fail
        have hk := AK.out
        go_roundg (gk - 1)
        case measure => omega
        case rel => exact ⟨k + 1, by omega, by go_num, by rw [pl, AV.out], by rw [sn, AV.out, AZ.out], rfl⟩
    · have hki : ¬ (k : Int) < 512 := by omega
      have hk2 : k = 512 := by omega
      subst hk2
      go_wp2_with fail
      exact bodyPost_ret (v := .tuple #[.int .i64 (pl l 512), .int .i64 (sn l 512), .bool true]) (by simp [results, Tryd.results34, go_sem]) rfl ⟨rfl, rfl⟩
end Go.Proofs.YtcmmjbkgoafbnabDoor

/-
  What Sums and Zero come to: at lists that are no block, and the document's.
  Conditions: the bytes lie side by side.
-/
namespace Go.Proofs.YtcmmjbkgoafbnabDoor
open Go.RowKit
set_option linter.unusedVariables false
theorem ne512 {L : Nat} (h : L ≠ 512) : ((L : Int) != 512) = true := by rw [bne_iff_ne]; omega
theorem sums_no (a : Option Addr) (L cap : Nat) (w : World) (hL : L ≠ 512) :
    Calls Tryd.prog 34 #[.slice a L cap] w fun e w' => e = .returned (.tuple #[.int .i64 0, .int .i64 0, .bool false]) ∧ w = w' := by
  have h1 := ne512 hL
  clear hL
  go_enter Tryd.func34, Tryd.ntmps34
  go_wp2_with fail
  go_ret3
  exact ⟨rfl, rfl⟩
theorem rsums_no (a : Option Addr) (L cap : Nat) (w : World) (hL : L ≠ 512) :
    Calls Tryd.prog 22 #[.slice a L cap] w fun e w' => e = .returned (.tuple #[.int .i64 0, .int .i64 0, .bool false]) ∧ w = w' := by
  have h1 := ne512 hL
  clear hL
  go_enter Tryd.func22, Tryd.ntmps22
  go_wp2_with fail
  go_ret3
  exact ⟨rfl, rfl⟩
set_option maxRecDepth 100000 in
set_option maxHeartbeats 1000000 in
theorem rsums_c (a : Option Addr) (l : List Nat) (cap : Nat) (w : World) (hL : l.length = 512) (hb : Oct l) (h : Lies w a l) :
    Calls Tryd.prog 22 #[.slice a 512 cap] w fun e w' => e = .returned (.tuple #[.int .i64 (pl l 512), .int .i64 (sn l 512), .bool true]) ∧ w = w' := by
  rcases h with rfl | ⟨b, o, rfl, hc⟩
  · simp at hL
  go_enter Tryd.func22, Tryd.ntmps22
  go_wp2_with fail
  go_loopg [5, 6, 7] 512 (fun g sp ss si wr => ∃ k : Nat, k + g = 512 ∧ si = .int .i64 k ∧ sp = .int .i64 (pl l k) ∧ ss = .int .i64 (sn l k) ∧ w = wr)
  case atStart => exact ⟨0, rfl, rfl, rfl, rfl, rfl⟩
  case round =>
    obtain ⟨k, hk, rfl, rfl, rfl, rfl⟩ := hrel
    have AK : Aside (k + gk = 512) := hk
    have hp := pl_bd hb k
    have hs := sn_bd hb k
    by_cases hlt : k < 512
    · have hki : (k : Int) < 512 := by omega
      have hkl : k < l.length := by omega
      have hx := List.getElem?_eq_getElem hkl
      obtain ⟨x, hxx⟩ : ∃ x, l[k] = x := ⟨_, rfl⟩
      have hx2 : x < 256 := by rw [← hxx]; exact hb _ (List.getElem_mem hkl)
      rw [hxx] at hx
      have hcell := hc k x hx
      by_cases hin : 148 ≤ k ∧ k < 156
      · obtain ⟨h1, h2⟩ := hin
        have h1i : (148 : Int) ≤ (k : Int) := by omega
        have h2i : (k : Int) ≤ 155 := by omega
        have AV : Aside (val l k = 32) := val_in h1 h2
        clear hx hxx hkl hk h1 h2 hlt
        go_wp2_with fail
        have hk := AK.out
        go_roundg (gk - 1)
        case measure => omega
        case rel => exact ⟨k + 1, by omega, by go_num, by rw [pl, AV.out]; go_num, by rw [sn, AV.out]; rfl, rfl⟩
      · have AV : Aside (val l k = x) := val_out (by omega) hx
        have hin2 : ¬ (148 : Int) ≤ (k : Int) ∨ (148 : Int) ≤ (k : Int) ∧ ¬ (k : Int) ≤ 155 := by omega
        by_cases h128 : 128 ≤ x
        · have h128i : (128 : Int) ≤ (x : Int) := by omega
          have AZ : Aside (sg x = (x : Int) - 256) := by show _ = _; unfold sg; rw [if_pos h128]
          clear hx hxx hkl hk hlt hin h128
          rcases hin2 with h1i | ⟨h1i, h2i⟩
          all_goals
            go_wp2_with fail
            have hk := AK.out
            go_roundg (gk - 1)
            case measure => omega
            case rel => exact ⟨k + 1, by omega, by go_num, by rw [pl, AV.out], by rw [sn, AV.out, AZ.out]; try go_num, rfl⟩
        · have h128i : ¬ (128 : Int) ≤ (x : Int) := by omega
          have AZ : Aside (sg x = (x : Int)) := by show _ = _; unfold sg; rw [if_neg h128]
          clear hx hxx hkl hk hlt hin h128
          rcases hin2 with h1i | ⟨h1i, h2i⟩
          all_goals
            go_wp2_with fail
            have hk := AK.out
            go_roundg (gk - 1)
            case measure => omega
            case rel => exact ⟨k + 1, by omega, by go_num, by rw [pl, AV.out], by rw [sn, AV.out, AZ.out], rfl⟩
    · have hki : ¬ (k : Int) < 512 := by omega
      have hk2 : k = 512 := by omega
      subst hk2
      go_wp2_with fail
      go_ret3
      exact ⟨rfl, rfl⟩
theorem noughts_cons (x : Nat) (r : List Nat) : noughts (x :: r) = (x == 0 && noughts r) := rfl
theorem zero_no (a : Option Addr) (L cap : Nat) (w : World) (hL : L ≠ 512) :
    Calls Tryd.prog 27 #[.slice a L cap] w fun e w' => e = .returned (.bool false) ∧ w = w' := by
  have h1 := ne512 hL
  clear hL
  go_enter Tryd.func27, Tryd.ntmps27
  go_wp2_with fail
  go_ret
  exact ⟨rfl, rfl⟩
set_option maxRecDepth 100000 in
set_option maxHeartbeats 1000000 in
theorem zero_c (a : Option Addr) (l : List Nat) (cap : Nat) (w : World) (hL : l.length = 512) (h : Lies w a l) :
    Calls Tryd.prog 27 #[.slice a 512 cap] w fun e w' => e = .returned (.bool (noughts l)) ∧ w = w' := by
  rcases h with rfl | ⟨b, o, rfl, hc⟩
  · simp at hL
  go_enter Tryd.func27, Tryd.ntmps27
  go_wp2_with fail
  go_loopg [10] 512 (fun g si wr => ∃ k : Nat, k + g = 512 ∧ si = .int .i64 k ∧ noughts (l.drop k) = noughts l ∧ w = wr)
  case atStart => exact ⟨0, rfl, rfl, by rw [List.drop_zero], rfl⟩
  case round =>
    obtain ⟨k, hk, rfl, hn, rfl⟩ := hrel
    have AK : Aside (k + gk = 512) := hk
    by_cases hlt : k < 512
    · have hki : (k : Int) < 512 := by omega
      have hkl : k < l.length := by omega
      have hx := List.getElem?_eq_getElem hkl
      have hd := List.drop_eq_getElem_cons hkl
      obtain ⟨x, hxx⟩ : ∃ x, l[k] = x := ⟨_, rfl⟩
      rw [hxx] at hx hd
      have hcell := hc k x hx
      rw [hd, noughts_cons] at hn
      by_cases h0 : x = 0
      · have h0i : ((x : Int) != 0) = false := by rw [h0]; rfl
        have h0n : (x == 0) = true := by rw [h0]; rfl
        rw [h0n, Bool.true_and] at hn
        have AN : Aside (noughts (l.drop (k + 1)) = noughts l) := hn
        clear hn h0 h0n hx hd hxx hkl hk hlt
        go_wp2_with fail
        have hk := AK.out
        go_roundg (gk - 1)
        case measure => omega
        case rel => exact ⟨k + 1, by omega, by go_num, AN.out, rfl⟩
      · have h0i : ((x : Int) != 0) = true := by rw [bne_iff_ne]; omega
        have h0n : (x == 0) = false := by rw [beq_eq_false_iff_ne]; exact h0
        rw [h0n, Bool.false_and] at hn
        have AN : Aside (false = noughts l) := hn
        clear hn h0 h0n hx hd hxx hkl hk hlt
        go_wp2_with fail
        go_ret
        exact ⟨by rw [← AN.out]; rfl, rfl⟩
    · have hki : ¬ (k : Int) < 512 := by omega
      have hk2 : l.drop k = [] := List.drop_eq_nil_of_le (by omega)
      rw [hk2] at hn
      have AN : Aside (true = noughts l) := hn
      clear hn hk2
      go_wp2_with fail
      go_ret
      exact ⟨by rw [← AN.out]; rfl, rfl⟩
end Go.Proofs.YtcmmjbkgoafbnabDoor

/-
  A header as it is written.
-/
namespace Go.Proofs.YtcmmjbkgoafbnabDoor
open Go.RowKit
set_option linter.unusedVariables false
set_option linter.unusedSimpArgs false
/-- Bytes laid over others from a place on. -/
def ovl (b : List Nat) (k : Nat) (f : List Nat) : List Nat := b.take k ++ f ++ b.drop (k + f.length)
theorem ovl_nil (b : List Nat) (k : Nat) : ovl b k [] = b := by simp [ovl]
theorem ovl_len {b f : List Nat} {k : Nat} (h : k + f.length ≤ b.length) : (ovl b k f).length = b.length := by
  unfold ovl; simp; omega
theorem ovl_step {b f : List Nat} {k i x : Nat} (h : k + f.length ≤ b.length) (hx : f[i]? = some x) : (ovl b k (f.take i)).set (k + i) x = ovl b k (f.take (i + 1)) := by
  have hi := (List.getElem?_eq_some_iff.1 hx).1
  have h1 : (f.take i).length = i := by rw [List.length_take]; omega
  have h2 : (f.take (i + 1)).length = i + 1 := by rw [List.length_take]; omega
  unfold ovl
  rw [h1, h2, List.drop_eq_getElem_cons (show k + i < b.length by omega), take_more2 hx]
  have := set_block (q := []) (P := b.take k ++ f.take i) (x := x) (y := b[k + i]) (l := b.drop (k + i + 1))
  rw [List.length_append, List.length_take, h1, Nat.min_eq_left (by omega)] at this
  rw [this]
  simp
  rw [show k + (i + 1) = k + i + 1 by omega]
theorem ovl_oct {b f : List Nat} {k : Nat} (hb : Oct b) (hf : Oct f) : Oct (ovl b k f) := ((hb.take k).app hf).app (hb.drop _)
def oct12 (n : Nat) : List Nat := hi 8 48 n 11 ++ [0]
def oct8 (n : Nat) : List Nat := hi 8 48 n 7 ++ [0]
def ustar : List Nat := [117, 115, 116, 97, 114]
/-- A header without its sum. -/
def hd0 (name : List Nat) (size kind : Nat) : List Nat := (ovl (ovl (ovl (List.replicate 512 0) 0 (name.take 100)) 124 (oct12 size)) 257 ustar).set 156 kind
/-- A header. -/
def hdr (name : List Nat) (size kind : Nat) : List Nat := ovl (hd0 name size kind) 148 (oct8 (pl (hd0 name size kind) 512).toNat)
theorem oct12_len (n : Nat) : (oct12 n).length = 12 := by simp [oct12, hi_length]
theorem oct8_len (n : Nat) : (oct8 n).length = 8 := by simp [oct8, hi_length]
theorem oct12_oct (n : Nat) : Oct (oct12 n) := Oct.app (fun x hx => by have := hi_mem (by decide) hx; omega) (fun x hx => by simp at hx; omega)
theorem oct8_oct (n : Nat) : Oct (oct8 n) := Oct.app (fun x hx => by have := hi_mem (by decide) hx; omega) (fun x hx => by simp at hx; omega)
theorem hd0_len (name : List Nat) (size kind : Nat) : (hd0 name size kind).length = 512 := by
  have h1 : (ovl (List.replicate 512 0) 0 (name.take 100)).length = 512 := by rw [ovl_len (by rw [List.length_replicate, List.length_take]; omega), List.length_replicate]
  have h2 : (ovl (ovl (List.replicate 512 0) 0 (name.take 100)) 124 (oct12 size)).length = 512 := by rw [ovl_len (by rw [h1, oct12_len]; omega), h1]
  unfold hd0
  rw [List.length_set, ovl_len (by rw [h2]; decide), h2]
theorem hd0_oct {name : List Nat} {size kind : Nat} (hn : Oct name) (hk : kind < 256) : Oct (hd0 name size kind) := (ovl_oct (ovl_oct (ovl_oct (fun x hx => by rw [(List.mem_replicate.1 hx).2]; decide) (hn.take 100)) (oct12_oct size)) (show Oct ustar by unfold Oct ustar; decide)).set _ hk
theorem hdr_len (name : List Nat) (size kind : Nat) : (hdr name size kind).length = 512 := by unfold hdr; rw [ovl_len (by rw [hd0_len, oct8_len]; omega), hd0_len]
theorem hdr_oct {name : List Nat} {size kind : Nat} (hn : Oct name) (hk : kind < 256) : Oct (hdr name size kind) := ovl_oct (hd0_oct hn hk) (oct8_oct _)
theorem put12 {n : Nat} (h : n < 8589934592) : put n 12 = some (oct12 n) := by
  unfold put
  rw [if_neg (by omega)]
  show (if n / 8 ^ 11 = 0 then some (hi 8 48 n 11 ++ [0]) else _) = _
  rw [if_pos (Nat.div_eq_of_lt (by show n < 8589934592; exact h))]
  rfl
theorem put8 {n : Nat} (h : n < 2097152) : put n 8 = some (oct8 n) := by
  unfold put
  rw [if_neg (by omega)]
  show (if n / 8 ^ 7 = 0 then some (hi 8 48 n 7 ++ [0]) else _) = _
  rw [if_pos (Nat.div_eq_of_lt (by show n < 2097152; exact h))]
  rfl
theorem Bk.keep {w u x : World} {G n : Nat} {cs : List Nat} (h : Bk w u G n cs) (k : Below u.heap.size u x) : Bk w x G n cs := ⟨h.bel.trans (k.mono h.bel.size), h.ge, h.cells.below k h.cells.lt, h.len⟩
theorem Bk.fz {w u : World} {G n : Nat} {cs : List Nat} (h : Bk w u G n cs) (i : Nat) : u.frozen? ⟨G, i, none⟩ = false := h.cells.frozen i
/-- Bytes that lie somewhere else stay where the row is written. -/
theorem lies_bk {w u : World} {G n b o : Nat} {cs l : List Nat} (h : Bk w u G n cs) (hc : ∀ (i x : Nat), l[i]? = some x → u.cell? ⟨b, o + i, none⟩ = some (.int .u8 (x : Int))) (hb : b ≠ G) (j : Nat) (v : Value) : ∀ (i x : Nat), l[i]? = some x → (u.setCell ⟨G, j, none⟩ v).cell? ⟨b, o + i, none⟩ = some (.int .u8 (x : Int)) := fun i x hx => by
  rw [((Only.refl G u).setCell j v).cell (show (⟨b, o + i, none⟩ : Addr).block ≠ G from hb)]; exact hc i x hx
set_option maxRecDepth 20000 in
set_option maxHeartbeats 4000000 in
theorem head_c (name : List Nat) (size kind : Nat) (hn : Oct name) (hnl : name.length ≤ 1000) (hs : size < 8589934592) (hk : kind < 256) (w : World) : Calls Tryd.prog 11 #[.string (st name), .int .i64 (size : Int), .int .u8 (kind : Int)] w fun e w' => ∃ G, e = .returned (.slice (some ⟨G, 0, none⟩) 512 512) ∧ Bk w w' G 512 (hdr name size kind) := by
  have hmk := made 512 (by decide) w
  obtain ⟨G, hG⟩ : ∃ G, w.heap.size = G := ⟨_, rfl⟩
  obtain ⟨w1, hw1⟩ : ∃ w1, w.alloc (.cells (vn (List.replicate 512 0)).toArray 5) = w1 := ⟨_, rfl⟩
  have bk1 : Bk w w1 G 512 (List.replicate 512 0) := by rw [← hw1, ← hG]; exact Bk.new w 512
  rw [hw1, hG] at hmk
  obtain ⟨ss, hss⟩ : ∃ ss, st name = ss := ⟨_, rfl⟩
  obtain ⟨L, hL⟩ : ∃ L, name.length = L := ⟨_, rfl⟩
  have zs : ss.size = L := by rw [← hss, st_size, hL]
  rw [hss]
  have A : Aside (Oct name ∧ name.length = L ∧ L ≤ 1000 ∧ st name = ss ∧ size < 8589934592 ∧ kind < 256 ∧ w.heap.size = G) := ⟨hn, hL, by omega, hss, hs, hk, hG⟩
  have A1 : Aside (Bk w w1 G 512 (List.replicate 512 0)) := bk1
  have hmk2 : (Instr.makeSlice 26 (.int .i64 512) (.int .i64 512)).run Tryd.prog w = .ok (.slice (some ⟨G, 0, none⟩) 512 512) w1 := hmk
  clear hn hnl hs hk bk1 hw1 hss hL hG
  go_enter Tryd.func11, Tryd.ntmps11
  go_upto_region 2 with fail
  clear hmk hmk2
  go_upto_block 0 with fail
  go_cut [] (fun wx => Aside (Bk w wx G 512 (ovl (List.replicate 512 0) 0 (name.take 100))))
  case first =>
    go_wp2_with fail
    go_loopg [8] 101 (fun gg s8 wr => ∃ i : Nat, s8 = .int .i64 (i : Int) ∧ Aside (i ≤ 100 ∧ i ≤ L ∧ i + gg = 101 ∧ Bk w wr G 512 (ovl (List.replicate 512 0) 0 ((name.take 100).take i))))
    case atStart => exact ⟨0, rfl, ⟨by omega, by omega, rfl, by rw [List.take_zero, ovl_nil]; exact A1.out⟩⟩
    case round =>
      clear A1
      obtain ⟨i, rfl, hI⟩ := hrel
      obtain ⟨h1, h2, h3, bk⟩ := hI.out
      have a0 := A.out
      by_cases hiL : i < L
      · have t1 : ((i : Int) < (L : Int)) = True := eq_true (by omega)
        have t1n : (i < L) = True := eq_true hiL
        by_cases hi1 : i < 100
        · have t2 : ((i : Int) < 100) = True := eq_true (by omega)
          have t2n : (i < 100) = True := eq_true hi1
          have t3 : (i < 512) = True := eq_true (by omega)
          have t4 : ((i : Int) < 512) = True := eq_true (by omega)
          have bi : (i : Int) < 1000 := by omega
          obtain ⟨x, hx⟩ : ∃ x, name[i]? = some x := ⟨_, List.getElem?_eq_getElem (by omega)⟩
          have hx0 : ∀ h : i < ss.size, (ss[i]'h).toNat = x := by rw [← a0.2.2.2.1]; exact fun h => st_get a0.1 hx h
          have hxt : (name.take 100)[i]? = some x := by rw [List.getElem?_take, if_pos hi1]; exact hx
          have hlen := bk.len
          obtain ⟨y, hy⟩ : ∃ y, (ovl (List.replicate 512 0) 0 ((name.take 100).take i))[i]? = some y := ⟨_, List.getElem?_eq_getElem (by omega)⟩
          have c1 := bk.cell hy
          have f1 := bk.fz i
          have AG : Aside (i < 100 ∧ i < L ∧ i + gk = 101 ∧ Bk w (wr.setCell ⟨G, i, none⟩ (.int .u8 (x : Int))) G 512 (ovl (List.replicate 512 0) 0 ((name.take 100).take (i + 1)))) := by
            refine ⟨hi1, hiL, h3, ?_⟩
            have := bk.set i x
            have e := ovl_step (b := List.replicate 512 0) (k := 0) (by rw [List.length_replicate, List.length_take]; omega) hxt
            rw [Nat.zero_add] at e
            rw [e] at this
            exact this
          clear hI h1 h2 h3 bk a0 hiL hi1 hx hxt hlen hy
          go_wp2_with fail
          have ag := AG.out
          go_roundg (gk - 1)
          case measure => omega
          case rel => exact ⟨i + 1, by go_num, ⟨by omega, by omega, by omega, ag.2.2.2⟩⟩
        · have t2 : ((i : Int) < 100) = False := eq_false (by omega)
          have t2n : (i < 100) = False := eq_false hi1
          have AG : Aside (Bk w wr G 512 (ovl (List.replicate 512 0) 0 (name.take 100))) := by
            have := bk
            rw [List.take_of_length_le (by rw [List.length_take]; omega)] at this
            exact this
          clear hI h1 h2 h3 bk a0 hiL hi1
          go_wp2_with fail
          go_meet
          exact AG
      · have t1 : ((i : Int) < (L : Int)) = False := eq_false (by omega)
        have t1n : (i < L) = False := eq_false hiL
        have AG : Aside (Bk w wr G 512 (ovl (List.replicate 512 0) 0 (name.take 100))) := by
          have := bk
          rw [List.take_of_length_le (by rw [List.length_take]; omega)] at this
          exact this
        clear hI h1 h2 h3 bk a0 hiL
        go_wp2_with fail
        go_meet
        exact AG
  case rest =>
    have AB1 := hcut
    obtain ⟨W1, hW1⟩ : ∃ W1, W1 = wc := ⟨_, rfl⟩
    subst hW1
    clear hcut A1
    obtain ⟨b1, hb1⟩ : ∃ b1, ovl (List.replicate 512 0) 0 (name.take 100) = b1 := ⟨_, rfl⟩
    have bkb : Bk w W1 G 512 b1 := by rw [← hb1]; exact AB1.out
    have hp := rput_c size 12 W1 (by have := A.out.2.2.2.2.1; omega)
    rw [put12 A.out.2.2.2.2.1] at hp
    have AB : Aside (Bk w W1 G 512 b1 ∧ ovl (List.replicate 512 0) 0 (name.take 100) = b1) := ⟨bkb, hb1⟩
    have bs : (size : Int) < 8589934592 := by have := A.out.2.2.2.2.1; omega
    clear bkb hb1 AB1
    go_upto_region 7 with (go_at_call 21; refine hp.mono ?_; rintro e2 w2 ⟨fa, f, FL, fc, rfl, hf1, hf2, hf3, hf4, hf5, hf6, hf7⟩)
    obtain rfl : f = oct12 size := hf1.symm
    obtain rfl : FL = 12 := by rw [← hf2, oct12_len]
    obtain ⟨fb, fo, hfa, hfc⟩ : ∃ b o, fa = some ⟨b, o, none⟩ ∧ ∀ (i x : Nat), (oct12 size)[i]? = some x → w2.cell? ⟨b, o + i, none⟩ = some (.int .u8 (x : Int)) := by
      rcases hf5 with q | q
      · have := oct12_len size; rw [q] at this; cases this
      · exact q
    subst hfa
    have hfne : fb ≠ G := by have h1 := hf7 _ rfl; have h2 := AB.out.1.cells.lt; intro e; subst e; exact absurd h1 (by show ¬ _ ≤ fb; omega)
    obtain ⟨U, hU⟩ : ∃ U, w2.heap.size = U := ⟨_, rfl⟩
    have bk2 := AB.out.1.keep hf6
    have hUG : U ≠ G := by have := bk2.cells.lt; omega
    have hcon := Lib.run_convert_bytes_const (P := Tryd.prog) w2 26 5 #[.int .u8 117, .int .u8 115, .int .u8 116, .int .u8 97, .int .u8 114] 5 5 Tryd.underlying26 Tryd.underlying5
    rw [hU] at hcon
    obtain ⟨w3, hw3⟩ : ∃ w3, w2.alloc (.cells #[.int .u8 117, .int .u8 115, .int .u8 116, .int .u8 97, .int .u8 114] 5 ((#[.int .u8 117, .int .u8 115, .int .u8 116, .int .u8 97, .int .u8 114] : Array Value).size, (#[.int .u8 117, .int .u8 115, .int .u8 116, .int .u8 97, .int .u8 114] : Array Value).size + 1)) = w3 := ⟨_, rfl⟩
    rw [hw3] at hcon
    have b3 : Below w2.heap.size w2 w3 := by rw [← hw3]; exact (Below.refl _ w2).alloc (Nat.le_refl _) _
    have hblk : w3.heap[U]? = some (.cells #[.int .u8 117, .int .u8 115, .int .u8 116, .int .u8 97, .int .u8 114] 5 (5, 6)) := by
      rw [← hw3, ← hU]
      show (w2.heap.push _)[w2.heap.size]? = _
      simp
    obtain ⟨f12, hf12⟩ : ∃ f12, oct12 size = f12 := ⟨_, rfl⟩
    rw [hf12] at hfc
    have A2 : Aside (Bk w w3 G 512 b1 ∧ (∀ (i x : Nat), f12[i]? = some x → w3.cell? ⟨fb, fo + i, none⟩ = some (.int .u8 (x : Int))) ∧ f12.length = 12 ∧ fb ≠ G ∧ b1.length = 512 ∧ ovl b1 124 f12 = ovl (ovl (List.replicate 512 0) 0 (name.take 100)) 124 (oct12 size)) := by
      refine ⟨bk2.keep b3, fun i x hx => ?_, by rw [← hf12]; exact oct12_len size, hfne, bk2.len, by rw [AB.out.2, hf12]⟩
      have hlt : fb < w2.heap.size := by
        have := hfc i x hx
        exact Classical.byContradiction fun hc => by
          have : w2.heap[fb]? = none := Array.getElem?_eq_none (by omega)
          simp [World.cell?, this] at *
      rw [World.cell?_of_block (w := w2) (b3.block fb hlt)]
      exact hfc i x hx
    have AU : Aside (w3.heap[U]? = some (.cells #[.int .u8 117, .int .u8 115, .int .u8 116, .int .u8 97, .int .u8 114] 5 (5, 6)) ∧ U ≠ G) := ⟨hblk, hUG⟩
    clear hp hf1 hf2 hf3 hf4 hf5 hf6 hf7 hfc hfne hw3 b3 hblk bk2 hf12 bs AB hUG
    go_upto_region 8 with fail
    clear hcon hU
    go_upto_block 2 with fail
    go_cut [] (fun wx => Aside (Bk w wx G 512 (ovl b1 124 f12) ∧ wx.heap[U]? = some (.cells #[.int .u8 117, .int .u8 115, .int .u8 116, .int .u8 97, .int .u8 114] 5 (5, 6))))
    case first =>
      go_wp2_with fail
      go_loopg [12] 12 (fun gg sx wr => ∃ i : Nat, sx = .int .i64 (i : Int) ∧ Aside (i + gg = 12 ∧ Bk w wr G 512 (ovl b1 124 (f12.take i)) ∧ (∀ (i x : Nat), f12[i]? = some x → wr.cell? ⟨fb, fo + i, none⟩ = some (.int .u8 (x : Int))) ∧ wr.heap[U]? = some (.cells #[.int .u8 117, .int .u8 115, .int .u8 116, .int .u8 97, .int .u8 114] 5 (5, 6))))
      case atStart => exact ⟨0, rfl, ⟨rfl, by rw [List.take_zero, ovl_nil]; exact A2.out.1, A2.out.2.1, AU.out.1⟩⟩
      case round =>
        obtain ⟨i, rfl, hI⟩ := hrel
        obtain ⟨h3, bk, hcf, hub⟩ := hI.out
        have a0 := A2.out
        by_cases hi1 : i < 12
        · have t1 : ((i : Int) < 12) = True := eq_true (by omega)
          have t1n : (i < 12) = True := eq_true hi1
          have t3 : (124 + i < 512) = True := eq_true (by omega)
          have t4 : ((124 : Int) + (i : Int) < 512) = True := eq_true (by omega)
          have bi : (i : Int) < 1000 := by omega
          obtain ⟨x, hx⟩ : ∃ x, f12[i]? = some x := ⟨_, List.getElem?_eq_getElem (by rw [a0.2.2.1]; exact hi1)⟩
          have c2 := hcf i x hx
          have hlen := bk.len
          obtain ⟨y, hy⟩ : ∃ y, (ovl b1 124 (f12.take i))[124 + i]? = some y := ⟨_, List.getElem?_eq_getElem (by omega)⟩
          have c1 := bk.cell hy
          have f1 := bk.fz (124 + i)
          have AG : Aside (i < 12 ∧ i + gk = 12 ∧ Bk w (wr.setCell ⟨G, 124 + i, none⟩ (.int .u8 (x : Int))) G 512 (ovl b1 124 (f12.take (i + 1))) ∧ (∀ (j z : Nat), f12[j]? = some z → (wr.setCell ⟨G, 124 + i, none⟩ (.int .u8 (x : Int))).cell? ⟨fb, fo + j, none⟩ = some (.int .u8 (z : Int))) ∧ (wr.setCell ⟨G, 124 + i, none⟩ (.int .u8 (x : Int))).heap[U]? = some (.cells #[.int .u8 117, .int .u8 115, .int .u8 116, .int .u8 97, .int .u8 114] 5 (5, 6))) := by
            refine ⟨hi1, h3, ?_, lies_bk bk hcf a0.2.2.2.1 _ _, (((Only.refl G wr).setCell _ _).block U AU.out.2).trans hub⟩
            have := bk.set (124 + i) x
            rw [ovl_step (by have := a0.2.2.1; have := a0.2.2.2.2; omega) hx] at this
            exact this
          clear hI h3 bk hcf hub a0 hi1 hx hlen hy
          go_wp2_with fail
          have ag := AG.out
          go_roundg (gk - 1)
          case measure => omega
          case rel => exact ⟨i + 1, by go_num, ⟨by omega, ag.2.2.1, ag.2.2.2.1, ag.2.2.2.2⟩⟩
        · have t1 : ((i : Int) < 12) = False := eq_false (by omega)
          have t1n : (i < 12) = False := eq_false hi1
          have AG : Aside (Bk w wr G 512 (ovl b1 124 f12) ∧ wr.heap[U]? = some (.cells #[.int .u8 117, .int .u8 115, .int .u8 116, .int .u8 97, .int .u8 114] 5 (5, 6))) := by
            have := bk
            rw [List.take_of_length_le (by rw [a0.2.2.1]; omega)] at this
            exact ⟨this, hub⟩
          clear hI h3 bk hcf hub a0 hi1
          go_wp2_with fail
          go_meet
          exact AG
    case rest =>
      have AB2 := hcut
      obtain ⟨W2, hW2⟩ : ∃ W, W = wc := ⟨_, rfl⟩
      subst hW2
      clear hcut
      have hb := AB2.out.1
      obtain ⟨b2, hb2⟩ : ∃ b2, ovl b1 124 f12 = b2 := ⟨_, rfl⟩
      have A3 : Aside (Bk w W2 G 512 b2 ∧ (∀ (i x : Nat), ustar[i]? = some x → W2.cell? ⟨U, 0 + i, none⟩ = some (.int .u8 (x : Int))) ∧ ustar.length = 5 ∧ U ≠ G ∧ b2.length = 512 ∧ b2 = ovl b1 124 f12) := by
        rw [hb2] at hb
        refine ⟨hb, fun i x hx => ?_, rfl, AU.out.2, hb.len, hb2.symm⟩
        have hi : i < 5 := (List.getElem?_eq_some_iff.1 hx).1
        rw [Nat.zero_add]
        unfold ustar at hx
        simp only [World.cell?, AB2.out.2]
        have : i = 0 ∨ i = 1 ∨ i = 2 ∨ i = 3 ∨ i = 4 := by omega
        rcases this with rfl | rfl | rfl | rfl | rfl <;> simp at hx <;> subst hx <;> rfl
      clear hb
      go_upto_block 4 with fail
      go_cut [] (fun wx => Aside (Bk w wx G 512 (ovl b2 257 ustar)))
      case first =>
        go_wp2_with fail
        go_loopg [13] 5 (fun gg sx wr => ∃ i : Nat, sx = .int .i64 (i : Int) ∧ Aside (i + gg = 5 ∧ Bk w wr G 512 (ovl b2 257 (ustar.take i)) ∧ ∀ (i x : Nat), ustar[i]? = some x → wr.cell? ⟨U, 0 + i, none⟩ = some (.int .u8 (x : Int))))
        case atStart => exact ⟨0, rfl, ⟨rfl, by rw [List.take_zero, ovl_nil]; exact A3.out.1, A3.out.2.1⟩⟩
        case round =>
          obtain ⟨i, rfl, hI⟩ := hrel
          obtain ⟨h3, bk, hcf⟩ := hI.out
          have a0 := A3.out
          by_cases hi1 : i < 5
          · have t1 : ((i : Int) < 5) = True := eq_true (by omega)
            have t1n : (i < 5) = True := eq_true hi1
            have t3 : (257 + i < 512) = True := eq_true (by omega)
            have t4 : ((257 : Int) + (i : Int) < 512) = True := eq_true (by omega)
            have bi : (i : Int) < 1000 := by omega
            obtain ⟨x, hx⟩ : ∃ x, ustar[i]? = some x := ⟨_, List.getElem?_eq_getElem (by rw [a0.2.2.1]; exact hi1)⟩
            have c2 := hcf i x hx
            rw [Nat.zero_add] at c2
            have hlen := bk.len
            obtain ⟨y, hy⟩ : ∃ y, (ovl b2 257 (ustar.take i))[257 + i]? = some y := ⟨_, List.getElem?_eq_getElem (by omega)⟩
            have c1 := bk.cell hy
            have f1 := bk.fz (257 + i)
            have AG : Aside (i < 5 ∧ i + gk = 5 ∧ Bk w (wr.setCell ⟨G, 257 + i, none⟩ (.int .u8 (x : Int))) G 512 (ovl b2 257 (ustar.take (i + 1))) ∧ ∀ (j z : Nat), ustar[j]? = some z → (wr.setCell ⟨G, 257 + i, none⟩ (.int .u8 (x : Int))).cell? ⟨U, 0 + j, none⟩ = some (.int .u8 (z : Int))) := by
              refine ⟨hi1, h3, ?_, lies_bk bk hcf a0.2.2.2.1 _ _⟩
              have := bk.set (257 + i) x
              rw [ovl_step (by have := a0.2.2.1; have := a0.2.2.2.2; omega) hx] at this
              exact this
            clear hI h3 bk hcf a0 hi1 hx hlen hy
            go_wp2_with fail
            have ag := AG.out
            go_roundg (gk - 1)
            case measure => omega
            case rel => exact ⟨i + 1, by go_num, ⟨by omega, ag.2.2.1, ag.2.2.2⟩⟩
          · have t1 : ((i : Int) < 5) = False := eq_false (by omega)
            have t1n : (i < 5) = False := eq_false hi1
            have AG : Aside (Bk w wr G 512 (ovl b2 257 ustar)) := by
              have := bk
              rw [List.take_of_length_le (by rw [a0.2.2.1]; omega)] at this
              exact this
            clear hI h3 bk hcf a0 hi1
            go_wp2_with fail
            go_meet
            exact AG
      case rest =>
        have AB4 := hcut
        obtain ⟨W4, hW4⟩ : ∃ W, W = wc := ⟨_, rfl⟩
        subst hW4
        clear hcut
        have hb := AB4.out
        have hlen := hb.len
        obtain ⟨y, hy⟩ : ∃ y, (ovl b2 257 ustar)[156]? = some y := ⟨_, List.getElem?_eq_getElem (by omega)⟩
        have c1 := hb.cell hy
        have f1 := hb.fz 156
        have hb2 := hb.set 156 kind
        obtain ⟨W6, hW6⟩ : ∃ W6, W4.setCell ⟨G, 156, none⟩ (.int .u8 (kind : Int)) = W6 := ⟨_, rfl⟩
        rw [hW6] at hb2
        have e0 : (ovl b2 257 ustar).set 156 kind = hd0 name size kind := by unfold hd0; rw [A3.out.2.2.2.2.2, A2.out.2.2.2.2.2]
        rw [e0] at hb2
        obtain ⟨h0, hh0⟩ : ∃ h0, hd0 name size kind = h0 := ⟨_, rfl⟩
        rw [hh0] at hb2
        have ho0 : Oct h0 := by rw [← hh0]; exact hd0_oct A.out.1 A.out.2.2.2.2.2.1
        have hl0 : h0.length = 512 := by rw [← hh0]; exact hd0_len _ _ _
        have hsm := rsums_c (some ⟨G, 0, none⟩) h0 512 W6 hl0 ho0 hb2.lies
        obtain ⟨sn1, hsn1⟩ : ∃ z, sn h0 512 = z := ⟨_, rfl⟩
        have hpb := pl_bd ho0 512
        obtain ⟨S, hS⟩ : ∃ S : Nat, (pl h0 512) = (S : Int) := ⟨(pl h0 512).toNat, by omega⟩
        rw [hS, hsn1] at hsm
        have hSb : S < 2097152 := by omega
        have hp8 := rput_c S 8 W6 (by omega)
        rw [put8 hSb] at hp8
        have AH : Aside (hd0 name size kind = h0 ∧ oct8 (pl h0 512).toNat = oct8 S) := ⟨hh0, by rw [hS]; rfl⟩
        have AB6 : Aside (Bk w W6 G 512 h0) := hb2
        have bS : (S : Int) < 2097152 := by omega
        have AW6 : Aside (W4.setCell ⟨G, 156, none⟩ (.int .u8 (kind : Int)) = W6) := hW6
        clear hb hlen hy hb2 hW6 e0 hh0 ho0 hl0 hsn1 hpb hS hSb
        go_upto_region 17 with fail
        rw [AW6.out]
        clear c1 f1
        go_upto_region 19 with (first | (go_at_call 22; refine hsm.mono ?_; rintro e7 w7 ⟨rfl, rfl⟩) | (go_at_call 21; refine hp8.mono ?_; rintro e8 w8 ⟨ga, g, GL, gc, rfl, hg1, hg2, hg3, hg4, hg5, hg6, hg7⟩))
        obtain rfl : g = oct8 S := hg1.symm
        obtain rfl : GL = 8 := by rw [← hg2, oct8_len]
        obtain ⟨gb, go_, hga, hgc⟩ : ∃ b o, ga = some ⟨b, o, none⟩ ∧ ∀ (i x : Nat), (oct8 S)[i]? = some x → w8.cell? ⟨b, o + i, none⟩ = some (.int .u8 (x : Int)) := by
          rcases hg5 with q | q
          · have := oct8_len S; rw [q] at this; cases this
          · exact q
        subst hga
        have hgne : gb ≠ G := by have := hg7 _ rfl; have := AB6.out.cells.lt; intro e; subst e; simp at *; omega
        obtain ⟨f8, hf8⟩ : ∃ f8, oct8 S = f8 := ⟨_, rfl⟩
        rw [hf8] at hgc
        have A5 : Aside (Bk w w8 G 512 h0 ∧ (∀ (i x : Nat), f8[i]? = some x → w8.cell? ⟨gb, go_ + i, none⟩ = some (.int .u8 (x : Int))) ∧ f8.length = 8 ∧ gb ≠ G ∧ h0.length = 512) := ⟨AB6.out.keep hg6, hgc, by rw [← hf8]; exact oct8_len S, hgne, AB6.out.len⟩
        have AH2 : Aside (hd0 name size kind = h0 ∧ oct8 (pl h0 512).toNat = f8) := ⟨AH.out.1, by rw [AH.out.2, hf8]⟩
        clear hsm hp8 hg1 hg2 hg3 hg4 hg5 hg6 hg7 hgc hgne hf8 AB6 AH
        go_upto_block 6 with fail
        go_cut [] (fun wx => Aside (Bk w wx G 512 (ovl h0 148 f8)))
        case first =>
          go_wp2_with fail
          go_loopg [17] 8 (fun gg sx wr => ∃ i : Nat, sx = .int .i64 (i : Int) ∧ Aside (i + gg = 8 ∧ Bk w wr G 512 (ovl h0 148 (f8.take i)) ∧ ∀ (i x : Nat), f8[i]? = some x → wr.cell? ⟨gb, go_ + i, none⟩ = some (.int .u8 (x : Int))))
          case atStart => exact ⟨0, rfl, ⟨rfl, by rw [List.take_zero, ovl_nil]; exact A5.out.1, A5.out.2.1⟩⟩
          case round =>
            obtain ⟨i, rfl, hI⟩ := hrel
            obtain ⟨h3, bk, hcf⟩ := hI.out
            have a0 := A5.out
            by_cases hi1 : i < 8
            · have t1 : ((i : Int) < 8) = True := eq_true (by omega)
              have t1n : (i < 8) = True := eq_true hi1
              have t3 : (148 + i < 512) = True := eq_true (by omega)
              have t4 : ((148 : Int) + (i : Int) < 512) = True := eq_true (by omega)
              have bi : (i : Int) < 1000 := by omega
              obtain ⟨x, hx⟩ : ∃ x, f8[i]? = some x := ⟨_, List.getElem?_eq_getElem (by rw [a0.2.2.1]; exact hi1)⟩
              have c2 := hcf i x hx
              have hlen := bk.len
              obtain ⟨y, hy⟩ : ∃ y, (ovl h0 148 (f8.take i))[148 + i]? = some y := ⟨_, List.getElem?_eq_getElem (by omega)⟩
              have c1 := bk.cell hy
              have f1 := bk.fz (148 + i)
              have AG : Aside (i < 8 ∧ i + gk = 8 ∧ Bk w (wr.setCell ⟨G, 148 + i, none⟩ (.int .u8 (x : Int))) G 512 (ovl h0 148 (f8.take (i + 1))) ∧ ∀ (j z : Nat), f8[j]? = some z → (wr.setCell ⟨G, 148 + i, none⟩ (.int .u8 (x : Int))).cell? ⟨gb, go_ + j, none⟩ = some (.int .u8 (z : Int))) := by
                refine ⟨hi1, h3, ?_, lies_bk bk hcf a0.2.2.2.1 _ _⟩
                have := bk.set (148 + i) x
                rw [ovl_step (by have := a0.2.2.1; have := a0.2.2.2.2; omega) hx] at this
                exact this
              clear hI h3 bk hcf a0 hi1 hx hlen hy
              go_wp2_with fail
              have ag := AG.out
              go_roundg (gk - 1)
              case measure => omega
              case rel => exact ⟨i + 1, by go_num, ⟨by omega, ag.2.2.1, ag.2.2.2⟩⟩
            · have t1 : ((i : Int) < 8) = False := eq_false (by omega)
              have t1n : (i < 8) = False := eq_false hi1
              have AG : Aside (Bk w wr G 512 (ovl h0 148 f8)) := by
                have := bk
                rw [List.take_of_length_le (by rw [a0.2.2.1]; omega)] at this
                exact this
              clear hI h3 bk hcf a0 hi1
              go_wp2_with fail
              go_meet
              exact AG
        case rest =>
          have AB5 := hcut
          obtain ⟨W5, hW5⟩ : ∃ W, W = wc := ⟨_, rfl⟩
          subst hW5
          clear hcut
          have t0 := AB5.out
          have hfin : Bk w W5 G 512 (hdr name size kind) := by
            unfold hdr
            rw [AH2.out.1, AH2.out.2]
            exact t0
          have AF : Aside (Bk w W5 G 512 (hdr name size kind)) := hfin
          clear hfin t0
          go_wp2_with fail
          go_ret
          exact ⟨G, rfl, AF.out⟩
end Go.Proofs.YtcmmjbkgoafbnabDoor

/-
  Entries in memory; what the document's Write comes to.
-/
namespace Go.Proofs.YtcmmjbkgoafbnabDoor
open Go.RowKit
set_option linter.unusedVariables false
set_option linter.unusedSimpArgs false
/-- An entry: its name, its data, how it is written, its kind. -/
abbrev Ent := List Nat × List Nat × Nat × Nat
/-- A header ahead that says the name, or the size, too. -/
def wpr (h : Nat) (n d : List Nat) : List Nat :=
  if h = 1 then hdr [120] (n.length + 1) 76 ++ wh512 (n ++ [0])
  else if h = 2 then hdr [120] (sad kpath n).length 120 ++ wh512 (sad kpath n)
  else if h = 3 then hdr [120] (sad kpath n ++ sad ksize (dgs d.length)).length 120 ++ wh512 (sad kpath n ++ sad ksize (dgs d.length))
  else []
def whw (how : Nat) (n : List Nat) : Nat := if how % 4 = 0 ∧ 100 < n.length then 1 else how % 4
def wotk (k : Nat) : Nat := if k % 2 = 0 then 75 else 103
/-- An entry as it is written. -/
def wen (e : Ent) : List Nat :=
  if e.2.2.2 ≠ 0 then hdr (nmd e.1) e.2.1.length (wotk e.2.2.2) ++ wh512 e.2.1
  else wpr (whw e.2.2.1 (nmd e.1)) (nmd e.1) e.2.1 ++ (hdr (nmd e.1) (if whw e.2.2.1 (nmd e.1) = 3 then 7 else e.2.1.length) 48 ++ wh512 e.2.1)
def wal : List Ent → List Nat
  | [] => []
  | e :: r => wen e ++ wal r
def wri (l : List Ent) : List Nat := wal l ++ List.replicate 1024 0
theorem wal_append (a b : List Ent) : wal (a ++ b) = wal a ++ wal b := by
  induction a with
  | nil => rfl
  | cons e r ih => simp only [List.cons_append, wal, ih, List.append_assoc]
/-- One entry's cells. -/
structure E1 (w : World) (b o : Nat) (e : Ent) : Prop where
  ex : ∃ (da : Option Addr) (L C : Nat), w.cell? ⟨b, o, none⟩ = some (.string (st e.1)) ∧ w.cell? ⟨b, o + 1, none⟩ = some (.slice da L C) ∧ w.cell? ⟨b, o + 2, none⟩ = some (.int .u8 (e.2.2.1 : Int)) ∧ w.cell? ⟨b, o + 3, none⟩ = some (.int .u8 (e.2.2.2 : Int)) ∧ Lies w da e.2.1 ∧ e.2.1.length = L ∧ L ≤ C ∧ (da = none → L = 0 ∧ C = 0)
/-- What may be asked of an entry. -/
structure Eok (e : Ent) : Prop where
  n : Oct e.1
  nl : e.1.length ≤ 9223372036854775807
  d : Oct e.2.1
  dl : e.2.1.length ≤ 100000
  h : e.2.2.1 < 256
  k : e.2.2.2 < 256
/-- Entries in memory. -/
def Em (w : World) (a : Option Addr) (l : List Ent) : Prop := l = [] ∨ ∃ b o, a = some ⟨b, o, none⟩ ∧ ∀ (i : Nat) (e : Ent), l[i]? = some e → E1 w b (o + i * 4) e
theorem E1.below {w u : World} {C b o : Nat} {e : Ent} (h : E1 w b o e) (k : Below C w u) (hC : w.heap.size ≤ C) : E1 u b o e := by
  obtain ⟨da, L, Cp, h1, h2, h3, h4, h5, h6, h7, h8⟩ := h.ex
  have hb : b < w.heap.size := Classical.byContradiction fun hc => by
    have : w.heap[b]? = none := Array.getElem?_eq_none (by omega)
    simp [World.cell?, this] at h1
  have kk : ∀ j, u.cell? ⟨b, j, none⟩ = w.cell? ⟨b, j, none⟩ := fun j => World.cell?_of_block (w := w) (k.block b (by omega))
  exact ⟨da, L, Cp, by rw [kk]; exact h1, by rw [kk]; exact h2, by rw [kk]; exact h3, by rw [kk]; exact h4, h5.below (k.mono hC), h6, h7, h8⟩
theorem Em.below {w u : World} {C : Nat} {a : Option Addr} {l : List Ent} (h : Em w a l) (k : Below C w u) (hC : w.heap.size ≤ C) : Em u a l := by
  rcases h with h | ⟨b, o, ha, h⟩
  · exact Or.inl h
  · exact Or.inr ⟨b, o, ha, fun i e he => (h i e he).below k hC⟩
/-- What Write stands at within an entry: what is written so far, the entry's own place. -/
structure Rw (lo E : Nat) (w wr : World) (v : Value) (n : Nat) (z : List Nat) (cs : Array Value) : Prop where
  ow : Ow wr lo 5 1 v n (ob z)
  bel : Below lo w wr
  ev : Cells wr E cs 38
  len : z.length = n
section
variable {lo E n : Nat} {w wr u : World} {v : Value} {z : List Nat} {cs : Array Value}
theorem Rw.step (h : Rw lo E w wr v n z cs) (k : Below wr.heap.size wr u) : Rw lo E w u v n z cs := ⟨h.ow.below k (Nat.le_refl _), h.bel.trans (k.mono h.ow.le), h.ev.below k h.ev.lt, h.len⟩
theorem Rw.app (h : Rw lo E w wr v n z cs) {v' : Value} {m : Nat} {y : List Nat} (k : Got lo 5 1 wr u v v' (n + m) (ob z ++ ob y)) (hm : y.length = m) : Rw lo E w u v' (n + m) (z ++ y) cs := by
  refine ⟨?_, h.bel.trans k.bel, h.ev.got k (by decide), by rw [List.length_append, h.len, hm]⟩
  have := k.ow
  rw [ob_append] at this
  exact this
end
/-- Bytes of a row that was made. -/
theorem Bk.oc {w u : World} {G n : Nat} {cs : List Nat} (h : Bk w u G n cs) : ob cs = [] ∨ ∃ b o, (some ⟨G, 0, none⟩ : Option Addr) = some ⟨b, o, none⟩ ∧ ∀ i x, (ob cs)[i]? = some x → u.cell? ⟨b, o + i, none⟩ = some x := lies_ob h.lies
end Go.Proofs.YtcmmjbkgoafbnabDoor

/-
  What small comes to.
-/
namespace Go.Proofs.YtcmmjbkgoafbnabDoor
open Go.RowKit
set_option linter.unusedVariables false
/-- The bytes of data of entries. -/
def sdt : List Ent → Nat
  | [] => 0
  | e :: r => e.2.1.length + sdt r
theorem sdt_append (a b : List Ent) : sdt (a ++ b) = sdt a + sdt b := by
  induction a with
  | nil => simp [sdt]
  | cons e r ih => simp only [List.cons_append, sdt, ih]; omega
theorem sdt_more {l : List Ent} {i : Nat} {e : Ent} (h : l[i]? = some e) : sdt (l.take (i + 1)) = sdt (l.take i) + e.2.1.length := by
  obtain ⟨h1, h2⟩ := List.getElem?_eq_some_iff.1 h
  rw [List.take_succ_eq_append_getElem h1, h2, sdt_append]
  simp [sdt]
theorem sdt_mem {l : List Ent} {e : Ent} (h : e ∈ l) : e.2.1.length ≤ sdt l := by
  induction l with
  | nil => simp at h
  | cons x r ih =>
    rcases List.mem_cons.1 h with rfl | h
    · simp only [sdt]; omega
    · have := ih h; simp only [sdt]; omega
set_option maxHeartbeats 1000000 in
theorem small_c (a : Option Addr) (l : List Ent) (NL C0 : Nat) (w : World) (hl : l.length = NL) (hNb : NL ≤ 140737488355328) (hE : Em w a l) (hdb : ∀ e ∈ l, e.2.1.length ≤ 140737488355328) : Calls Tryd.prog 4 #[.slice a NL C0] w fun e w' => ∃ b, e = .returned (.bool b) ∧ (b = true → NL * 500 + sdt l < 20000) ∧ w' = w := by
  have A : Aside (l.length = NL ∧ NL ≤ 140737488355328 ∧ Em w a l ∧ (∀ e ∈ l, e.2.1.length ≤ 140737488355328)) := ⟨hl, hNb, hE, hdb⟩
  have bN : (NL : Int) < 140737488355329 := by omega
  clear hl hNb hE hdb
  go_enter Tryd.func4, Tryd.ntmps4
  go_wp2_with fail
  go_loopg [3, 4] NL (fun gg s3 s4 wr => ∃ i n : Nat, s3 = .int .i64 (n : Int) ∧ s4 = .int .i64 (i : Int) ∧ Aside (i + gg = NL ∧ n = NL * 500 + sdt (l.take i) ∧ n < 80000000000000000 ∧ wr = w))
  case atStart => exact ⟨0, NL * 500, by go_num, rfl, ⟨by omega, by simp [sdt], by have := A.out.2.1; omega, rfl⟩⟩
  case round =>
    obtain ⟨i, n, rfl, rfl, hI⟩ := hrel
    obtain ⟨hig, hn, hnb, hw⟩ := hI.out
    have a0 := A.out
    have bn : (n : Int) < 80000000000000000 := by omega
    by_cases hiN : i < NL ∧ n < 20000
    · have t1 : ((i : Int) < (NL : Int)) = True := eq_true (by omega)
      have t1n : (i < NL) = True := eq_true hiN.1
      have t2 : ((n : Int) < 20000) = True := eq_true (by omega)
      obtain ⟨e, he⟩ : ∃ e, l[i]? = some e := ⟨_, List.getElem?_eq_getElem (by omega)⟩
      obtain ⟨eb, eo, rfl, hEm⟩ : ∃ b o, a = some ⟨b, o, none⟩ ∧ ∀ (i : Nat) (e : Ent), l[i]? = some e → E1 w b (o + i * 4) e := by
        rcases a0.2.2.1 with q | q
        · rw [q] at he; simp at he
        · exact q
      obtain ⟨da, L, C, g1, g2, g3, g4, g5, g6, g7, g8⟩ := (hEm i e he).ex
      have hLb : L ≤ 140737488355328 := by rw [← g6]; exact a0.2.2.2 e (List.mem_of_getElem? he)
      have hm := sdt_more he
      rw [← hw] at g2
      have bi : (i : Int) < 140737488355329 := by omega
      have bL : (L : Int) < 140737488355329 := by omega
      have AG : Aside (i + gk = NL ∧ i < NL ∧ n + L = NL * 500 + sdt (l.take (i + 1)) ∧ n + L < 80000000000000000 ∧ wr = w) := ⟨hig, hiN.1, by rw [hm, g6]; omega, by omega, hw⟩
      clear hI hig hn hnb hw a0 hiN he hEm g1 g3 g4 g5 g6 g7 g8 hLb hm
      go_wp2_with fail
      have ag := AG.out
      go_roundg (gk - 1)
      case measure => omega
      case rel => exact ⟨i + 1, n + L, by go_num, by go_num, ⟨by omega, ag.2.2.1, ag.2.2.2.1, ag.2.2.2.2⟩⟩
    · have AZ : Aside (((n : Int) < 20000 → NL * 500 + sdt l < 20000) ∧ wr = w) := by
        refine ⟨fun h => ?_, hw⟩
        have : NL ≤ i := by omega
        rw [List.take_of_length_le (by omega)] at hn
        omega
      by_cases hi : i < NL
      · have t1 : ((i : Int) < (NL : Int)) = True := eq_true (by omega)
        have t1n : (i < NL) = True := eq_true hi
        have t2 : ((n : Int) < 20000) = False := eq_false (by omega)
        clear hI hig hn hnb hw a0 hiN hi
        go_wp2_with fail
        first | go_ret | go_ret2
        exact ⟨_, rfl, (fun h => by cases h), AZ.out.2⟩
      · have t1 : ((i : Int) < (NL : Int)) = False := eq_false (by omega)
        have t1n : (i < NL) = False := eq_false hi
        by_cases h2 : (n : Int) < 20000
        · have t2 : ((n : Int) < 20000) = True := eq_true h2
          have az := AZ.out.1 h2
          clear hI hig hn hnb hw a0 hiN hi h2
          go_wp2_with fail
          first | go_ret | go_ret2
          exact ⟨_, rfl, fun _ => az, AZ.out.2⟩
        · have t2 : ((n : Int) < 20000) = False := eq_false h2
          clear hI hig hn hnb hw a0 hiN hi h2
          go_wp2_with fail
          first | go_ret | go_ret2
          exact ⟨_, rfl, (fun h => by cases h), AZ.out.2⟩
end Go.Proofs.YtcmmjbkgoafbnabDoor

/-
  How an argument that is a list of entries, or one entry, is opened, where what came in is small.
-/
namespace Go.Proofs.YtcmmjbkgoafbnabDoor
open Go.ChangeShapes Go.WideShapes Go.ChangeAt Go.RowKit
set_option linter.unusedVariables false
theorem weights_all {H : Type} {P : Program} {e : TypeId} : ∀ {l : List (DataW H)} {d : DataW H}, d ∈ l → ∀ n ∈ d.weights P e, n ∈ DataW.weightsAll P e l
  | x :: l, d, hd, n, hn => by
    rw [DataW.weightsAll]
    rcases List.mem_cons.1 hd with rfl | hd
    · exact List.mem_append_left _ hn
    · exact List.mem_append_right _ (weights_all hd n hn)
theorem byte_of_wf {z : Int} (h : (Lit.int .u8 z).wf = true) : ∃ x : Nat, z = (x : Int) ∧ x < 256 := by
  have h8 : 0 ≤ z ∧ z ≤ 255 := by simpa [Lit.wf, IntKind.min, IntKind.max, IntKind.signed, IntKind.bits] using h
  exact ⟨z.toNat, by omega, by omega⟩
theorem word_of_wf {z : Int} (h : (Lit.int .u16 z).wf = true) : ∃ x : Nat, z = (x : Int) ∧ x < 65536 := by
  have h8 : 0 ≤ z ∧ z ≤ 65535 := by simpa [Lit.wf, IntKind.min, IntKind.max, IntKind.signed, IntKind.bits] using h
  exact ⟨z.toNat, by omega, by omega⟩
theorem add_at (b o k : Nat) : (⟨b, o, none⟩ : Addr).add k = ⟨b, o + k, none⟩ := by
  unfold Addr.add
  split
  · simp_all
  · rfl
section
variable {H : Type} {enc : TypeId × Value → H} {P : Program} {w : World} {held : Bool}
/-- A slice of bytes in a cell. -/
theorem open_cell {t e : TypeId} {fuel : Nat} {s : Value} {x : DataW H × List MemPlace} (ht : P.underlying t = some (.slice e)) (he : P.underlying e = some (.int .u8)) (hc : P.cellsOf e = 1) (hbe : P.bytesOf e = 1)
    (hf : DataW.trod enc P w 0 (fun _ => true) held fuel t [s] = some x) (hz : ∀ n ∈ x.1.weights P t, n ≤ reachBytes) :
    ∃ (a : Option Addr) (l : List Nat) (cap : Nat), s = .slice a l.length cap ∧ l.length ≤ cap ∧ cap < 140737488355328 ∧ Oct l ∧ Lies w a l ∧ (a = none → l.length = 0 ∧ cap = 0) := by
  rcases Deep.open_slice1 ht hc hf with ⟨hcs, _⟩ | ⟨a', len, cap, m, n, V, D, Pl, hcs, _, hl, hm, hmm, hxe, hx⟩
  · simp at hcs
    exact ⟨none, [], 0, hcs, Nat.le_refl _, by decide, (fun x hx => by cases hx), Or.inl rfl, fun _ => ⟨rfl, rfl⟩⟩
  · simp at hcs
    simp only [if_true] at hmm
    subst hmm
    have hcap : m < 140737488355328 := by
      have := hz ((((List.range len).map D).length + ((List.range (m - len)).map fun j => D (len + j)).length) * P.bytesOf e) (by rw [hxe]; simp [DataW.weights, ht])
      rw [hbe] at this
      simp only [List.length_map, List.length_range] at this
      have h2 := reachBytes_lt
      omega
    by_cases h0 : len = 0
    · subst h0
      exact ⟨some a', [], m, hcs, hl, hcap, (fun x hx => by cases hx), Or.inl rfl, fun h => by cases h⟩
    obtain ⟨b, off, spot⟩ := a'
    have g := (hx 0 (by omega)).1
    have hs : spot = none := by simpa [Addr.add] using World.cell?_spot g
    subst hs
    have each : ∀ i, i < len → ∃ x : Nat, w.cell? ⟨b, off + i, none⟩ = some (.int .u8 (x : Int)) ∧ x < 256 := by
      intro i hi
      obtain ⟨g0, g1⟩ := hx i (by omega)
      obtain ⟨z, hz0, _, hw⟩ := DataW.trod_int he g1
      obtain ⟨x, rfl, hx⟩ := byte_of_wf hw
      simp only [List.cons.injEq, and_true] at hz0
      rw [hz0] at g0
      refine ⟨x, ?_, hx⟩
      rw [← g0]; congr 1; unfold Addr.add; split
      · simp_all
      · rfl
    obtain ⟨X, hX⟩ := Deep.choose_lt each
    refine ⟨_, (List.range len).map X, m, by simpa using hcs, by simpa using hl, hcap, ?_, Or.inr ⟨b, off, rfl, fun i x hx' => ?_⟩, fun h => by cases h⟩
    · intro x hx'
      obtain ⟨i, hi, rfl⟩ := List.mem_map.1 hx'
      exact (hX i (List.mem_range.1 hi)).2
    · have hi : i < len := by
        have := (List.getElem?_eq_some_iff.1 hx').1
        simpa using this
      simp [hi] at hx'
      rw [← hx']
      exact (hX i hi).1
end
/-- What an entry that came in keeps to. -/
structure Eo (e : Ent) : Prop where
  n : Oct e.1
  nl : e.1.length ≤ 9223372036854775807
  d : Oct e.2.1
  dl : e.2.1.length ≤ 140737488355328
  h : e.2.2.1 < 256
  k : e.2.2.2 < 256
/-- Entries that came in. -/
structure Ea (w : World) (a : Option Addr) (l : List Ent) (N : Nat) : Prop where
  len : l.length = N
  big : N ≤ 140737488355328
  em : Em w a l
  ok : ∀ e ∈ l, Eo e
theorem Ea.below {w u : World} {a : Option Addr} {l : List Ent} {N : Nat} (h : Ea w a l N) (k : Below w.heap.size w u) : Ea u a l N := ⟨h.len, h.big, h.em.below k (Nat.le_refl _), h.ok⟩
/-- What is small enough is as it is written. -/
theorem Ea.eok {w : World} {a : Option Addr} {l : List Ent} {N : Nat} (h : Ea w a l N) (hs : N * 500 + sdt l < 20000) : ∀ e ∈ l, Eok e := fun e he => by
  have := h.ok e he
  have h2 := sdt_mem he
  exact ⟨this.n, this.nl, this.d, by omega, this.h, this.k⟩
/-- An entry's four cells. -/
structure Four (w : World) (e : Ent) (v0 v1 v2 v3 : Value) : Prop where
  ex : ∃ da dc, v0 = .string (st e.1) ∧ v1 = .slice da e.2.1.length dc ∧ v2 = .int .u8 (e.2.2.1 : Int) ∧ v3 = .int .u8 (e.2.2.2 : Int) ∧ Lies w da e.2.1 ∧ e.2.1.length ≤ dc ∧ (da = none → e.2.1.length = 0 ∧ dc = 0)
  ok : Eo e
theorem cells5m : Tryd.prog.cellsOf 5 = 1 := by kernel_rfl
theorem cells22m : Tryd.prog.cellsOf 26 = 1 := by kernel_rfl
theorem cells9m : Tryd.prog.cellsOf 9 = 1 := by kernel_rfl
theorem cells54m : Tryd.prog.cellsOf 38 = 4 := by kernel_rfl
theorem bytes5m : Tryd.prog.bytesOf 5 = 1 := by kernel_rfl
theorem bytes54m : Tryd.prog.bytesOf 38 = 48 := by kernel_rfl
section
variable {H : Type} {enc : TypeId × Value → H} {w : World} {held : Bool}
set_option maxRecDepth 100000 in
theorem open_entry {fuel : Nat} {cs : List Value} {d : DataW H} {pl : List MemPlace} (h : DataW.trod enc Tryd.prog w 0 (fun _ => true) held fuel 38 cs = some (d, pl)) (hl : cs.length = 4) (hz : ∀ n ∈ d.weights Tryd.prog 38, n ≤ reachBytes) : ∃ e v0 v1 v2 v3, cs = [v0, v1, v2, v3] ∧ Four w e v0 v1 v2 v3 := by
  obtain ⟨xs, k, hk, hxy, _, hxl, hf⟩ := DataW.trod_struct Tryd.underlying38 h
  match xs, hxl, cs, hl with
  | [y0, y1, y2, y3], _, [v0, v1, v2, v3], _ =>
    have g0 := hf 0 _ rfl
    have g1 := hf 1 _ rfl
    have g2 := hf 2 _ rfl
    have g3 := hf 3 _ rfl
    simp [cells9m, cells22m, cells5m] at g0 g1 g2 g3
    have hd : d = .agg [y0.1, y1.1, y2.1, y3.1] := (Prod.mk.inj hxy).1
    have hw : d.weights Tryd.prog 38 = y0.1.weights Tryd.prog 9 ++ (y1.1.weights Tryd.prog 26 ++ (y2.1.weights Tryd.prog 5 ++ (y3.1.weights Tryd.prog 5 ++ []))) := by
      rw [hd]
      simp only [DataW.weights, Tryd.underlying38]
      rfl
    rw [hw] at hz
    have z1 : ∀ n ∈ y1.1.weights Tryd.prog 26, n ≤ reachBytes := fun n hn => hz n (by simp [hn])
    obtain ⟨S, hS, hy0, hSl⟩ := DataW.trod_string Tryd.underlying9 g0
    obtain ⟨da, dt, dc, hd1, hd4, hd6, hd2, hd3, hd5⟩ := open_cell Tryd.underlying26 Tryd.underlying5 cells5m bytes5m g1 z1
    obtain ⟨x, hx0, _, hw0⟩ := DataW.trod_int Tryd.underlying5 g2
    obtain ⟨z, hz0, _, hw1⟩ := DataW.trod_int Tryd.underlying5 g3
    obtain ⟨xn, rfl, hb0⟩ := byte_of_wf hw0
    obtain ⟨zn, rfl, hb1⟩ := byte_of_wf hw1
    simp only [List.cons.injEq, and_true] at hS hx0 hz0
    have hSb : (bl S).length ≤ 9223372036854775807 := by
      rw [bl_length]
      unfold maxLen at hSl
      omega
    exact ⟨(bl S, dt, xn, zn), v0, v1, v2, v3, rfl, ⟨da, dc, by rw [hS, st_bl], hd1, hx0, hz0, hd3, hd4, hd5⟩, ⟨bl_oct S, hSb, hd2, by show dt.length ≤ _; omega, hb0, hb1⟩⟩
set_option maxRecDepth 100000 in
/-- Entries that came in. -/
theorem open_ea {b0 : Nat} {r : Reach} {v : Value} {d : DataW H} {p : List MemPlace} (hv : Value.okWide Tryd.prog w r b0 22 v) (h : DataW.Trod enc Tryd.prog w 0 (fun _ => true) held 22 v d p) (hz : ∀ n ∈ d.weights Tryd.prog 22, n ≤ reachBytes) : ∃ a l N C, v = .slice a N C ∧ Ea w a l N ∧ N ≤ C ∧ (a = none → N = 0 ∧ C = 0) := by
  obtain ⟨a, len, cap, rfl⟩ := okWide_slice Tryd.underlying22 hv
  obtain ⟨fuel, hf⟩ := h
  rcases Deep.open_slice Tryd.underlying22 hf with ⟨hcs, _⟩ | ⟨a', len', cap', m, n, D, Pl, hcs, _, hl, hm, hmm, hxe, hx⟩
  · simp [Value.cells] at hcs
    obtain ⟨rfl, rfl, rfl⟩ := hcs
    exact ⟨none, [], 0, 0, rfl, ⟨rfl, by omega, Or.inl rfl, fun m hm => by cases hm⟩, Nat.le_refl _, fun _ => ⟨rfl, rfl⟩⟩
  · simp [Value.cells] at hcs
    obtain ⟨rfl, rfl, rfl⟩ := hcs
    have hlm : len ≤ m := by rw [hmm]; split <;> omega
    have hlb : len ≤ 140737488355328 := by
      have := hz ((((List.range len).map D).length + ((List.range (m - len)).map fun j => D (len + j)).length) * Tryd.prog.bytesOf 38) (by rw [(Prod.mk.inj hxe).1]; simp [DataW.weights, Tryd.underlying22])
      rw [bytes54m] at this
      simp only [List.length_map, List.length_range] at this
      have h2 := reachBytes_lt
      omega
    have hall : ∀ i, i < len → ∀ n ∈ (D i).weights Tryd.prog 38, n ≤ reachBytes := fun i hi n hn => hz n (by
      rw [(Prod.mk.inj hxe).1]
      simp only [DataW.weights, Tryd.underlying22]
      exact List.mem_cons_of_mem _ (List.mem_append_left _ (weights_all (List.mem_map.2 ⟨i, List.mem_range.2 hi, rfl⟩) n hn)))
    by_cases h0 : len = 0
    · subst h0
      exact ⟨some a', [], 0, cap, rfl, ⟨rfl, by omega, Or.inl rfl, fun m hm => by cases hm⟩, Nat.zero_le _, fun h => by cases h⟩
    obtain ⟨b, off, spot⟩ := a'
    have each0 : ∀ i, i < len → ∃ m v0 v1 v2 v3, Four w m v0 v1 v2 v3 ∧ w.cell? ((⟨b, off, spot⟩ : Addr).add (i * 4) |>.add 0) = some v0 ∧ w.cell? ((⟨b, off, spot⟩ : Addr).add (i * 4) |>.add 1) = some v1 ∧ w.cell? ((⟨b, off, spot⟩ : Addr).add (i * 4) |>.add 2) = some v2 ∧ w.cell? ((⟨b, off, spot⟩ : Addr).add (i * 4) |>.add 3) = some v3 := by
      intro i hi
      obtain ⟨cs', h1, h2⟩ := hx i (by omega)
      rw [cells54m] at h1
      obtain ⟨_, hlen, hcell⟩ := World.cells?_some h1
      obtain ⟨m, v0, v1, v2, v3, rfl, h5⟩ := open_entry h2 hlen (hall i hi)
      have e0 := hcell 0 (by omega)
      have e1 := hcell 1 (by omega)
      have e2 := hcell 2 (by omega)
      have e3 := hcell 3 (by omega)
      exact ⟨m, v0, v1, v2, v3, h5, by simpa using e0, by simpa using e1, by simpa using e2, by simpa using e3⟩
    have hs : spot = none := by
      obtain ⟨m, v0, v1, v2, v3, _, g, _⟩ := each0 0 (by omega)
      simpa [Addr.add] using World.cell?_spot g
    subst hs
    have each : ∀ i, i < len → ∃ m : Ent, E1 w b (off + i * 4) m ∧ Eo m := by
      intro i hi
      obtain ⟨m, v0, v1, v2, v3, h5, e0, e1, e2, e3⟩ := each0 i hi
      obtain ⟨da, dc, rfl, rfl, rfl, rfl, q1, q2, q3⟩ := h5.ex
      rw [add_at, add_at] at e0 e1 e2 e3
      exact ⟨m, ⟨da, _, dc, e0, e1, e2, e3, q1, rfl, q2, q3⟩, h5.ok⟩
    haveI : Inhabited Ent := ⟨([], [], 0, 0)⟩
    obtain ⟨Q, hQ⟩ := Deep.choose_lt each
    refine ⟨some ⟨b, off, none⟩, (List.range len).map Q, len, cap, rfl, ⟨by simp, hlb, Or.inr ⟨b, off, rfl, fun i x hx => ?_⟩, fun x hx => ?_⟩, hl, fun h => by cases h⟩
    · have hi : i < len := by have := (List.getElem?_eq_some_iff.1 hx).1; rwa [List.length_map, List.length_range] at this
      rw [List.getElem?_map, List.getElem?_range hi] at hx
      simp only [Option.map_some, Option.some.injEq] at hx
      subst hx
      exact (hQ i hi).1
    · obtain ⟨i, hi, rfl⟩ := List.mem_map.1 hx
      exact (hQ i (List.mem_range.1 hi)).2
set_option maxRecDepth 100000 in
/-- One entry that came in. -/
theorem open_en {b0 : Nat} {r : Reach} {v : Value} {d : DataW H} {p : List MemPlace} (hv : Value.okWide Tryd.prog w r b0 38 v) (h : DataW.Trod enc Tryd.prog w 0 (fun _ => true) held 38 v d p) (hz : ∀ n ∈ d.weights Tryd.prog 38, n ≤ reachBytes) : ∃ e v0 v1 v2 v3, v = .agg #[v0, v1, v2, v3] ∧ Four w e v0 v1 v2 v3 := by
  obtain ⟨cs, rfl, hsz⟩ := okWide_struct Tryd.underlying38 hv
  rw [cells54m] at hsz
  obtain ⟨fuel, hf⟩ := h
  obtain ⟨m, v0, v1, v2, v3, hcs, h5⟩ := open_entry (cs := cs.toList) hf (by simpa using hsz) hz
  refine ⟨m, v0, v1, v2, v3, ?_, h5⟩
  cases cs
  simp at hcs
  rw [hcs]
end
end Go.Proofs.YtcmmjbkgoafbnabDoor

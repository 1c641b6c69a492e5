/-
  Own texts of this seat, one behind the other: what each says stands ahead of it.
-/
import Derived.Test.YtpihipbeagpgpaaGreatDoorMs
import Derived.Deep.RegionHeld3
import Derived.Test.YtpihipbeagpgpaaGreatDoorMf
import Derived.Test.YtpihipbeagpgpaaGreatDoorMj
import Derived.BigRegion
import Derived.Laws.BitsAllLaws
import Derived.Deep.CutBlock
import Derived.Deep.CutRange
import Derived.Test.YtpihipbeagpgpaaGreatDoorMc
import Derived.Test.YtpihipbeagpgpaaGreatDoorMb
/-
 What the document's Rows and Strings come to.
-/
namespace Go.Proofs.YtpihipbeagpgpaaGreatDoor
open Go.RowKit
set_option linter.unusedVariables false
def Dn (w u : World) : Prop := ∃ n, u = w.drewN n
theorem Dn.refl (w : World) : Dn w w := ⟨0, rfl⟩
theorem Dn.drewN {w u : World} (h : Dn w u) (n : Nat) : Dn w (u.drewN n) := by
 obtain ⟨m, rfl⟩ := h
 exact ⟨_, World.drewN_drewN _ _ _⟩
theorem Ll.at {w : World} {lo : Nat} {a : Option Addr} {n c : Nat} {ls : List (List Nat)} (h : Ll w lo (.slice a n c) ls) (hn : n = ls.length) {i : Nat} {l : List Nat} (hl : ls[i]? = some l) : ∃ g a1 c1, a = some ⟨g, 0, none⟩ ∧ w.cell? ⟨g, i, none⟩ = some (.slice a1 l.length c1) ∧ Lies w a1 l ∧ l.length ≤ c1 ∧ (a1 = none → l.length = 0 ∧ c1 = 0) := by
 obtain ⟨vs, h1, h2, h3, h4⟩ := h.ex
 have hi := (List.getElem?_eq_some_iff.1 hl).1
 obtain ⟨v, hv⟩ : ∃ v, vs[i]? = some v := ⟨_, List.getElem?_eq_getElem (by omega)⟩
 obtain ⟨a9, c9, h9, _, h10 | ⟨g, h10, _, _, h11, _⟩, _⟩ := h2.shape
 ·omega
 cases h9
 obtain ⟨a1, c1, e1, e2, e3, e4, e5⟩ := (h3 i v l hv hl).lies
 subst e1
 exact ⟨g, a1, c1, h10, h11 i _ hv, e4, e3, e5⟩
def Nl (w : World) (a : Option Addr) (ns : List (List Nat)) : Prop := ns = [] ∨ ∃ g o, a = some ⟨g, o, none⟩ ∧ ∀ (i : Nat) (l : List Nat), ns[i]? = some l → w.cell? ⟨g, o + i, none⟩ = some (.string (st l))
theorem Nl.below {w u : World} {a : Option Addr} {ns : List (List Nat)} (h : Nl w a ns) (k : Below w.heap.size w u) : Nl u a ns := by
 rcases h with h | ⟨g, o, ha, hx⟩
 ·exact Or.inl h
 ·refine Or.inr ⟨g, o, ha, fun i l hl => ?_⟩
  have h1 := hx i l hl
  exact (k.cell (p := ⟨g, o + i, none⟩) (World.block_lt_of_cell? w _ h1)).trans h1
theorem Ns.nl {w : World} {lo : Nat} {v : Value} {ns : List (List Nat)} (h : Ns w lo v ns) : ∃ a c, v = .slice a ns.length c ∧ ns.length ≤ c ∧ Nl w a ns ∧ (a = none → ns.length = 0 ∧ c = 0) := by
 obtain ⟨a, c, hv, hc, h10, h12⟩ := Ow.shape h
 refine ⟨a, c, hv, hc, ?_, h12⟩
 rcases h10 with h0 | ⟨g, hg, _, _, h11, _⟩
 ·exact Or.inl (List.eq_nil_of_length_eq_zero h0)
 ·refine Or.inr ⟨g, 0, hg, fun i l hl => ?_⟩
  rw [Nat.zero_add]
  exact h11 i _ (by unfold sv; rw [List.getElem?_map, hl]; rfl)
set_option maxHeartbeats 1000000 in
theorem strings_c (w : World) (a b : Option Addr) (ls : List (List Nat)) (n c d : Nat) (hn : ls.length = n) (hb : n < 200000000001) (ha : Nl w a ls) (hbb : Nl w b ls) : Calls Tryz.prog 11 #[.slice a n c, .slice b n d] w fun e w' => e = .returned (.bool true) ∧ ∃ m, w' = w.drewN m := by
 have A : Aside (ls.length = n ∧ n < 200000000001 ∧ Nl w a ls ∧ Nl w b ls) := ⟨hn, hb, ha, hbb⟩
 have hz : ((n : Int) != (n : Int)) = false := by simp
 clear hn hb ha hbb
 go_enter Tryz.func11, Tryz.ntmps11
 go_wp2_with fail
 go_loopg [5] n (fun g s5 wr => ∃ k : Nat, s5 = .int .i64 (k : Int) ∧ Aside (k + g = n ∧ Dn w wr))
 case atStart => exact ⟨0, rfl, ⟨by omega, Dn.refl _⟩⟩
 case round =>
  obtain ⟨k, rfl, hT⟩ := hrel
  obtain ⟨hkg, m0, hm0⟩ := hT.out
  have a0 := A.out
  by_cases hk : k < n
  ·have t1 : ((k : Int) < (n : Int)) = True := eq_true (by omega)
   have t2 : (k < n) = True := eq_true hk
   obtain ⟨l, hl⟩ : ∃ l, ls[k]? = some l := ⟨_, List.getElem?_eq_getElem (by omega)⟩
   rcases a0.2.2.1 with e | ⟨g1, o1, rfl, h1⟩
   ·rw [e] at hl; simp at hl
   rcases a0.2.2.2 with e | ⟨g2, o2, rfl, h2⟩
   ·rw [e] at hl; simp at hl
   have k1 := h1 k l hl
   have k2 := h2 k l hl
   obtain ⟨S, hS⟩ : ∃ S, st l = S := ⟨_, rfl⟩
   have kk1 : wr.cell? ⟨g1, o1 + k, none⟩ = some (.string S) := by rw [hm0, ← hS]; exact k1
   have kk2 : wr.cell? ⟨g2, o2 + k, none⟩ = some (.string S) := by rw [hm0, ← hS]; exact k2
   have bk : (k : Int) < 400000000000 := by omega
   have A2 : Aside (k + gk = n ∧ k < n ∧ Dn w wr) := ⟨hkg, hk, ⟨m0, hm0⟩⟩
   have hsz : (S.toList == S.toList) = true := by simp
   clear hT hkg hm0 a0 hk hl h1 h2 k1 k2 hS
   go_upto_region 6 with fail
   go_quiet (fail)
   go_wp2_with fail
   have a2 := A2.out
   go_roundg (gk - 1)
   case measure => omega
   case rel => exact ⟨k + 1, by go_num, ⟨by omega, a2.2.2.drewN _⟩⟩
  ·have t1 : ((k : Int) < (n : Int)) = False := eq_false (by omega)
   have t2 : (k < n) = False := eq_false hk
   have A2 : Aside (∃ m, wr = w.drewN m) := ⟨m0, hm0⟩
   clear hT hkg hm0 a0 hk
   go_wp2_with fail
   first | go_ret | go_ret2
   exact ⟨rfl, A2.out⟩
end Go.Proofs.YtpihipbeagpgpaaGreatDoor

/-
 What the document's Names and Parts come to.
-/
namespace Go.Proofs.YtpihipbeagpgpaaGreatDoor
open Go.RowKit
set_option linter.unusedVariables false
end Go.Proofs.YtpihipbeagpgpaaGreatDoor

/-
 What the document's number comes to.
-/
namespace Go.Proofs.YtpihipbeagpgpaaGreatDoor
open Go.RowKit
set_option linter.unusedVariables false
def nbs : Nat → Nat → List Nat
 | 0, _ => []
 | n + 1, v => v % 256 :: nbs n (v / 256)
theorem nbs_length : ∀ (n v : Nat), (nbs n v).length = n
 | 0, _ => rfl
 | n + 1, v => by rw [nbs, List.length_cons, nbs_length n]
theorem nbs_oct : ∀ (n v : Nat), Oct (nbs n v)
 | 0, _ => oct_nil
 | n + 1, v => fun x hx => by
  rcases List.mem_cons.1 hx with h | h
  ·rw [h]; exact Nat.mod_lt _ (by decide)
  ·exact nbs_oct n _ x h
theorem lev_nbs : ∀ (n v : Nat), lev (nbs n v) = v % 256 ^ n
 | 0, v => by simp [nbs, lev, Nat.mod_one]
 | n + 1, v => by
  rw [nbs, lev, lev_nbs n, Nat.pow_succ, Nat.mul_comm (256 ^ n) 256, Nat.mod_mul]
structure Oa (l : List Nat) (n : Nat) (w : World) (e : Ending) (w' : World) : Prop where
 ex : ∃ a c, e = .returned (.slice a n c) ∧ Ow w' w.heap.size 5 1 (.slice a n c) n (ob l) ∧ Below w.heap.size w w'
theorem one_cell {w : World} {H x : Nat} (hH : w.heap.size = H) : ob [x] = [] ∨ ∃ b o, (some ⟨H, 0, none⟩ : Option Addr) = some ⟨b, o, none⟩ ∧ ∀ i u, (ob [x])[i]? = some u → (w.alloc (.cells #[.int .u8 (x : Int)] 5)).cell? ⟨b, o + i, none⟩ = some u := Or.inr ⟨H, 0, rfl, fun i u hu => by
 cases i with
 | zero => simp [ob] at hu; rw [← hu, ← hH, (Cells.new w #[.int .u8 (x : Int)] 5).cell]; rfl
 | succ i => simp [ob] at hu⟩
set_option maxRecDepth 20000 in
set_option maxHeartbeats 1000000 in
theorem put52_c (v n : Nat) (hv : v < 18446744073709551616) (hn : n ≤ 8) (w : World) : Calls Tryz.prog 52 #[.int .u64 (v : Int), .int .i64 (n : Int)] w fun e w' => Oa (nbs n v) n w e w' := by
 obtain ⟨lo, hlo⟩ : ∃ lo, w.heap.size = lo := ⟨_, rfl⟩
 obtain ⟨ans, hans⟩ : ∃ ans, nbs n v = ans := ⟨_, rfl⟩
 rw [hans]
 have A : Aside (n ≤ 8 ∧ w.heap.size = lo ∧ nbs n v = ans) := ⟨hn, hlo, hans⟩
 have A0 : Aside (Ow w lo 5 1 (.slice none 0 0) 0 (ob []) ∧ v < 18446744073709551616) := ⟨Ow.nil (by omega), hv⟩
 clear hv hn hlo hans
 go_enter Tryz.func52, Tryz.ntmps52
 go_wp2_with fail
 go_loopg [0, 5, 6] n (fun gg s0 s5 s6 wr => ∃ (u i : Nat) (a : Option Addr) (c : Nat), s0 = .int .u64 (u : Int) ∧ s5 = .slice a i c ∧ s6 = .int .i64 (i : Int) ∧ Aside (i + gg = n ∧ ∃ p, Ow wr lo 5 1 (.slice a i c) i (ob p) ∧ p ++ nbs gg u = ans ∧ p.length = i ∧ u < 18446744073709551616 ∧ Below lo w wr))
 case atStart => exact ⟨v, 0, none, 0, rfl, rfl, rfl, ⟨by omega, [], A0.out.1, by rw [List.nil_append]; exact A.out.2.2, rfl, A0.out.2, Below.refl _ _⟩⟩
 case round =>
  obtain ⟨u, i, a, c, rfl, rfl, rfl, hT⟩ := hrel
  obtain ⟨hig, p, hown, hpa, hpl, hu, hbel⟩ := hT.out
  have a0 := A.out
  by_cases hi : i < n
  ·have t1 : ((i : Int) < (n : Int)) = True := eq_true (by omega)
   have t2 : (i < n) = True := eq_true hi
   obtain ⟨m, rfl⟩ : ∃ m, gk = m + 1 := ⟨gk - 1, by omega⟩
   obtain ⟨x, hx⟩ : ∃ x, u % 256 = x := ⟨_, rfl⟩
   obtain ⟨u2, hu2⟩ : ∃ u2, u / 256 = u2 := ⟨_, rfl⟩
   have hr1 : (u : Int) % 256 = (x : Int) := by omega
   have hr2 : Int.tmod (u : Int) 256 = (x : Int) := by rw [Int.tmod_eq_emod_of_nonneg (by omega)]; omega
   have hw8 : IntKind.u8.wrap (x : Int) = (x : Int) := by rw [IntKind.wrap_u8]; omega
   have hw6 : (x : Int) % 18446744073709551616 = (x : Int) := by omega
   have hw7 : (x : Int) % 256 = (x : Int) := by omega
   have hq1 : (u : Int) / 256 = (u2 : Int) := by omega
   have hq2 : Int.tdiv (u : Int) 256 = (u2 : Int) := by rw [Int.tdiv_eq_ediv_of_nonneg (by omega)]; omega
   have bu : (u2 : Int) < 18446744073709551616 := by omega
   have bi : (i : Int) < 10 := by omega
   obtain ⟨H, hH⟩ : ∃ H, wr.heap.size = H := ⟨_, rfl⟩
   have bA : Below wr.heap.size wr (wr.alloc (.cells #[.int .u8 (x : Int)] 5)) := (Below.refl _ wr).alloc (Nat.le_refl _) _
   have howA := hown.below bA (Nat.le_refl _)
   have hlz := one_cell (x := x) hH
   have h1c : ∀ u ∈ ob [x], u.oneCell' = true := ob_one
   obtain ⟨i0, hii, hz0, hz1, hz2⟩ := ginfo_parts ginfo5
   have hAm : Aside (i + 1 ≤ maxLen ∧ (i + 1) * 1 ≤ 140737488355328) := ⟨by unfold maxLen; omega, by omega⟩
   have hle := hown.le
   have hT0 : ∀ (v5 : Value) (w5 : World), Got lo 5 1 (wr.alloc (.cells #[.int .u8 (x : Int)] 5)) w5 (.slice a i c) v5 (i + 1) (ob p ++ ob [x]) → ∃ a5 c5, v5 = .slice a5 (i + 1) c5 ∧ Aside (Ow w5 lo 5 1 (.slice a5 (i + 1) c5) (i + 1) (ob (p ++ [x])) ∧ p ++ [x] ++ nbs m u2 = ans ∧ (p ++ [x]).length = i + 1 ∧ u2 < 18446744073709551616 ∧ Below lo w w5) := fun v5 w5 hgot => by
    obtain ⟨a5, c5, hv5, _⟩ := hgot.ow.shape
    subst hv5
    have h5 := hgot.ow
    rw [ob_append] at h5
    refine ⟨a5, c5, rfl, h5, ?_, by simp [hpl], by omega, (hbel.trans (bA.mono hle)).trans hgot.bel⟩
    rw [← hpa, List.append_assoc]
    simp only [nbs, hx, hu2]
    rfl
   have AT : Aside _ := hT0
   have AG : Aside (i + (m + 1) = n ∧ n ≤ 8) := ⟨hig, a0.1⟩
   clear hT hig hown hpa hpl hu hbel a0 hi hx hu2 bA hT0 hle
   go_upto_region 6 with (at_builtin; refine wpList_ow Tryz.prog _ rfl (.tmp 12) (.tmp 16) 22 rfl 5 i0 _ 1 1 Tryz.underlying22 hii hz0 hz1 hz2 rfl (by decide) lo (.slice a i c) i _ (by rfl) howA (some ⟨H, 0, none⟩) (ob [x]) 1 1 rfl (by rfl) (by intro h; cases h) hlz h1c hAm.out.1 hAm.out.2 ?_; intro v5 w5 hgot; obtain ⟨a5, c5, hv5, T5⟩ := AT.out v5 w5 hgot; subst hv5)
   clear hgot howA hlz h1c hii hz0 hz1 hz2 hH
   go_wp2_with fail
   have ag := AG.out
   go_roundg m
   case measure => omega
   case rel => exact ⟨u2, i + 1, a5, c5, by first | rfl | simp, rfl, by go_num, ⟨by omega, p ++ [x], T5.out⟩⟩
  ·have t1 : ((i : Int) < (n : Int)) = False := eq_false (by omega)
   have t2 : (i < n) = False := eq_false hi
   have hg0 : gk = 0 := by omega
   subst hg0
   have e : p = ans := by rw [← hpa]; simp [nbs]
   subst e
   have A3 : Aside (Ow wr lo 5 1 (.slice a i c) i (ob p) ∧ p.length = i ∧ Below lo w wr) := ⟨hown, hpl, hbel⟩
   have AI : Aside (i + 0 = n) := hig
   clear hT hig hown hpa hpl hu hbel a0 hi
   go_wp2_with fail
   first | go_ret | go_ret2
   obtain ⟨q1, q2, q3⟩ := A3.out
   have := A.out.2.1
   obtain rfl : i = n := by have := AI.out; omega
   exact ⟨a, c, rfl, by rw [this]; exact q1, by rw [this]; exact q3⟩
end Go.Proofs.YtpihipbeagpgpaaGreatDoor

/-
 What the document's number and Told come to.
-/
namespace Go.Proofs.YtpihipbeagpgpaaGreatDoor
open Go.RowKit
set_option linter.unusedVariables false
theorem told34_c (a b c : Value) (h : Nat) (hh : h < 256) (w : World) : Calls Tryz.prog 34 #[.agg #[a, b, c, .int .u8 (h : Int)]] w fun e w' => e = .returned (.bool (decide (h / 16 % 2 = 0))) ∧ Below w.heap.size w w' := by
 obtain ⟨H, hH⟩ : ∃ H, w.heap.size = H := ⟨_, rfl⟩
 have hC := Cells.new w #[a, b, c, .int .u8 (h : Int)] 57
 have hbel : Below H w (w.alloc (.cells #[a, b, c, .int .u8 (h : Int)] 57)) := by rw [← hH]; exact (Below.refl _ w).alloc (Nat.le_refl _) _
 rw [hH] at hC ⊢
 have d3 : (w.alloc (.cells #[a, b, c, .int .u8 (h : Int)] 57)).cell? ⟨H, 3, none⟩ = some (.int .u8 (h : Int)) := by rw [hC.cell]; rfl
 obtain ⟨q, hq⟩ : ∃ q, h / 16 = q := ⟨_, rfl⟩
 obtain ⟨r, hr⟩ : ∃ r, q % 2 = r := ⟨_, rfl⟩
 have e1 : (h : Int) / 16 = (q : Int) := by omega
 have e2 : Int.tdiv (h : Int) 16 = (q : Int) := by rw [Int.tdiv_eq_ediv_of_nonneg (by omega)]; omega
 have e3 : (q : Int) % 2 = (r : Int) := by omega
 have e4 : Int.tmod (q : Int) 2 = (r : Int) := by rw [Int.tmod_eq_emod_of_nonneg (by omega)]; omega
 have e5 : (q : Int) % 256 = (q : Int) := by omega
 have e6 : (r : Int) % 256 = (r : Int) := by omega
 have e7 : ((r : Int) == 0) = decide (h / 16 % 2 = 0) := by
  rw [hq, hr]
  by_cases e : r = 0 <;> simp [e]
 have A : Aside (Below H w (w.alloc (.cells #[a, b, c, .int .u8 (h : Int)] 57))) := hbel
 rw [← e7]
 clear hC hbel hq hr e7
 go_enter Tryz.func34, Tryz.ntmps34
 go_wp2_with fail
 first | go_ret | go_ret2
 exact ⟨by first | rfl | simp_all, A.out⟩
end Go.Proofs.YtpihipbeagpgpaaGreatDoor

/-
 Bits written behind one another into bytes. No walk in this text.
-/
namespace Go.Proofs.YtpihipbeagpgpaaGreatDoor
open Go.RowKit
set_option linter.unusedVariables false
theorem wr_pad0 {z : List Nat} {bs : List Bool} {p : Nat} (h : allb z = bs ++ List.replicate p false) (hp : p < 8) (h8 : bs.length % 8 = 0) : p = 0 := by
 have := congrArg List.length h
 rw [allb_len, List.length_append, List.length_replicate] at this
 omega
theorem wr_nought {z : List Nat} {bs : List Bool} (h : allb z = bs) : allb (z ++ [0]) = bs ++ List.replicate 8 false := by
 rw [allb_append, h]
 rfl
theorem pads_ne {bs : List Bool} {p k : Nat} (hk : k ≠ bs.length) : (bs ++ List.replicate (p + 1) false)[k]? = ((bs ++ [true]) ++ List.replicate p false)[k]? := by
 by_cases h : k < bs.length
 ·rw [List.getElem?_append_left h, List.append_assoc, List.getElem?_append_left h]
 ·rw [List.getElem?_append_right (by omega), List.append_assoc, List.getElem?_append_right (by omega), List.singleton_append, List.replicate_succ]
  obtain ⟨m, hm⟩ : ∃ m, k - bs.length = m + 1 := ⟨k - bs.length - 1, by omega⟩
  rw [hm, List.getElem?_cons_succ, List.getElem?_cons_succ]
theorem low_step {x i : Nat} (h : x < 2 ^ (i + 1)) (h0 : x / 2 ^ i % 2 = 0) : x < 2 ^ i := by
 have h1 : x / 2 ^ i < 2 := by
  rw [Nat.div_lt_iff_lt_mul (Nat.two_pow_pos i)]
  rw [Nat.pow_succ] at h
  omega
 have h2 : x / 2 ^ i = 0 := by
  generalize x / 2 ^ i = q at h0 h1
  omega
 exact (Nat.div_eq_zero_iff_lt (Nat.two_pow_pos i)).1 h2
theorem low_of {x r : Nat} (hr : r < 8) (hx : x < 256) (h : ∀ i, r ≤ i → i < 8 → x / 2 ^ i % 2 = 0) : x < 2 ^ r := by
 have key : ∀ d, d ≤ 8 - r → x < 2 ^ (8 - d) := by
  intro d
  induction d with
  | zero => intro _; exact hx
  | succ d ih =>
   intro hd
   have h1 := ih (by omega)
   rw [show 8 - d = (8 - (d + 1)) + 1 by omega] at h1
   exact low_step h1 (h _ (by omega) (by omega))
 have := key (8 - r) (Nat.le_refl _)
 rwa [show 8 - (8 - r) = r by omega] at this
theorem bit_low {x r i : Nat} (hi : i < r) : (x + 2 ^ r) / 2 ^ i % 2 = x / 2 ^ i % 2 := by
 obtain ⟨d, rfl⟩ : ∃ d, r = i + 1 + d := ⟨r - i - 1, by omega⟩
 rw [show 2 ^ (i + 1 + d) = 2 ^ i * (2 * 2 ^ d) by rw [Nat.pow_add, Nat.pow_succ, Nat.mul_assoc], Nat.add_mul_div_left _ _ (Nat.two_pow_pos i)]
 omega
theorem bit_here {x r : Nat} (hx : x < 2 ^ r) : (x + 2 ^ r) / 2 ^ r % 2 = 1 := by
 rw [Nat.add_div_right _ (Nat.two_pow_pos r), Nat.div_eq_of_lt hx]
theorem bit_high {x r i : Nat} (hx : x < 2 ^ r) (hi : r < i) : (x + 2 ^ r) / 2 ^ i % 2 = 0 := by
 have : 2 ^ (r + 1) ≤ 2 ^ i := Nat.pow_le_pow_right (by decide) hi
 rw [Nat.pow_succ] at this
 rw [Nat.div_eq_of_lt (by omega)]
theorem wr_set {z : List Nat} {bs : List Bool} {p : Nat} (h : allb z = bs ++ List.replicate (p + 1) false) (hp : p < 8) (ho : ∀ x ∈ z, x < 256) :
  ∃ x, z[bs.length / 8]? = some x ∧ x < 2 ^ (bs.length % 8) ∧ x + 2 ^ (bs.length % 8) < 256 ∧ allb (z.set (bs.length / 8) (x + 2 ^ (bs.length % 8))) = (bs ++ [true]) ++ List.replicate p false := by
 have hlen := congrArg List.length h
 rw [allb_len, List.length_append, List.length_replicate] at hlen
 obtain ⟨n, hn⟩ : ∃ n, bs.length = n := ⟨_, rfl⟩
 rw [hn] at hlen ⊢
 obtain ⟨r, hr⟩ : ∃ r, n % 8 = r := ⟨_, rfl⟩
 obtain ⟨j, hj⟩ : ∃ j, n / 8 = j := ⟨_, rfl⟩
 rw [hr, hj]
 have hr8 : r < 8 := by omega
 have hjz : j < z.length := by omega
 obtain ⟨x, hx⟩ : ∃ x, z[j]? = some x := ⟨_, List.getElem?_eq_getElem hjz⟩
 have hx256 := ho x (List.mem_of_getElem? hx)
 have hxr : x < 2 ^ r := low_of hr8 hx256 fun i h1 h2 => by
  have hk : (8 * j + i) / 8 = j := by omega
  have g := allb_at z (8 * j + i) x (by rw [hk]; exact hx)
  rw [h, List.getElem?_append_right (by omega), List.getElem?_replicate, if_pos (by omega), show (8 * j + i) % 8 = i by omega] at g
  have g2 := Option.some.inj g
  have g3 := beq_eq_false_iff_ne.1 g2.symm
  omega
 have hpr : 2 ^ r ≤ 2 ^ 7 := Nat.pow_le_pow_right (by decide) (by omega)
 rw [show 2 ^ 7 = 128 from rfl] at hpr
 refine ⟨x, hx, hxr, by omega, ?_⟩
 apply List.ext_getElem?
 intro k
 by_cases hkj : k / 8 = j
 ·have g := allb_at (z.set j (x + 2 ^ r)) k (x + 2 ^ r) (by rw [hkj, List.getElem?_set_self hjz])
  have g0 := allb_at z k x (by rw [hkj]; exact hx)
  rw [g]
  by_cases h1 : k = n
  ·subst h1
   rw [hr, bit_here hxr, ← hn, List.append_assoc, List.getElem?_append_right (Nat.le_refl _), Nat.sub_self]
   rfl
  ·rw [h] at g0
   have hpn := pads_ne (bs := bs) (p := p) (k := k) (by rw [hn]; exact h1)
   rw [← hpn, g0]
   by_cases h2 : k % 8 < r
   ·rw [bit_low h2]
   ·have h3 : r < k % 8 := by omega
    rw [List.getElem?_append_right (by omega), List.getElem?_replicate, if_pos (by omega)] at g0
    rw [bit_high hxr h3, ← Option.some.inj g0]
    rfl
 ·rw [← pads_ne (bs := bs) (p := p) (k := k) (by intro e; rw [hn] at e; subst e; exact hkj hj), ← h]
  by_cases hk : k / 8 < z.length
  ·obtain ⟨y, hy⟩ : ∃ y, z[k / 8]? = some y := ⟨_, List.getElem?_eq_getElem hk⟩
   rw [allb_at z k y hy, allb_at (z.set j (x + 2 ^ r)) k y (by rw [List.getElem?_set_ne (Ne.symm hkj)]; exact hy)]
  ·rw [List.getElem?_eq_none (by rw [allb_len, List.length_set]; omega), List.getElem?_eq_none (by rw [allb_len]; omega)]
end Go.Proofs.YtpihipbeagpgpaaGreatDoor

/-
 The document's writer in memory: its block, its bytes; what it may turn. No walk in this text.
-/
namespace Go.Proofs.YtpihipbeagpgpaaGreatDoor
open Go.RowKit
set_option linter.unusedVariables false
structure Vk (lo W : Nat) (w u : World) : Prop where
 os : u.os = w.os
 tape : u.tape = w.tape
 output : u.output = w.output
 size : w.heap.size ≤ u.heap.size
 block : ∀ k, k < w.heap.size → k ≠ W → u.heap[k]? = w.heap[k]? ∨ (lo ≤ k ∧ ∃ cs fr, w.heap[k]? = some (.cells cs 5 fr))
section
variable {lo W : Nat} {w u v : World}
theorem Vk.refl (lo W : Nat) (w : World) : Vk lo W w w := ⟨rfl, rfl, rfl, Nat.le_refl _, fun _ _ _ => Or.inl rfl⟩
theorem Vk.trans (h : Vk lo W w u) (k : Vk lo W u v) : Vk lo W w v := ⟨k.os.trans h.os, k.tape.trans h.tape, k.output.trans h.output, Nat.le_trans h.size k.size, fun i hi hW => by
 rcases h.block i hi hW with e | e
 ·rcases k.block i (by have := h.size; omega) hW with e2 | ⟨e2, cs, fr, e3⟩
  ·exact Or.inl (e2.trans e)
  ·exact Or.inr ⟨e2, cs, fr, by rw [← e]; exact e3⟩
 ·exact Or.inr e⟩
theorem Vk.drew (h : Vk lo W w u) : Vk lo W w u.drew := ⟨h.os, h.tape, h.output, h.size, h.block⟩
theorem Vk.onW (h : Only W w u) : Vk lo W w u := ⟨h.os, h.tape, h.output, Nat.le_of_eq h.size.symm, fun k _ hk => Or.inl (h.block k hk)⟩
theorem Vk.onRow {g : Nat} {cs : Array Value} (h : Only g w u) (hlo : lo ≤ g) (hg : Cells w g cs 5) : Vk lo W w u := ⟨h.os, h.tape, h.output, Nat.le_of_eq h.size.symm, fun k _ _ => by
 by_cases e : k = g
 ·subst e; exact Or.inr ⟨hlo, cs, _, hg⟩
 ·exact Or.inl (h.block k e)⟩
theorem Vk.of_below (h : Below w.heap.size w u) : Vk lo W w u := ⟨h.os, h.tape, h.output, h.size, fun k hk _ => Or.inl (h.block k hk)⟩
theorem Vk.of_ap {B : Nat} {v' : Value} {l : List Nat} (h : Ap B lo w u v' l) : Vk lo W w u := ⟨h.bel.os, h.bel.tape, h.bel.output, h.bel.size, fun k hk _ => by
 by_cases e : k < lo
 ·exact Or.inl (h.bel.block k e)
 ·rcases h.kp.block k hk with e2 | ⟨_, e2⟩
  ·exact Or.inl e2
  ·exact Or.inr ⟨by omega, e2⟩⟩
theorem Vk.below (h : Vk lo W w u) (hlo : lo ≤ W) (hs : lo ≤ w.heap.size) : Below lo w u := ⟨h.os, h.tape, h.output, h.size, fun k hk => by
 rcases h.block k (by omega) (by omega) with e | ⟨e, _⟩
 ·exact e
 ·omega⟩
theorem Cells.wk {b : Nat} {cs : Array Value} {t : TypeId} (h : Cells w b cs t) (k : Vk lo W w u) (hb : b ≠ W) (ht : t ≠ 5) : Cells u b cs t := by
 rcases k.block b h.lt hb with e | ⟨_, cs', fr, e⟩
 ·unfold Cells at h ⊢; rw [e]; exact h
 ·unfold Cells at h
  rw [h] at e
  cases e
  exact absurd rfl ht
theorem Cells.ap {B b : Nat} {cs : Array Value} {t : TypeId} {v' : Value} {l : List Nat} (h : Cells w b cs t) (k : Ap B lo w u v' l) (ht : t ≠ 5) : Cells u b cs t := by
 rcases k.kp.block b h.lt with e | ⟨_, cs', fr, e⟩
 ·unfold Cells at h ⊢; rw [e]; exact h
 ·unfold Cells at h
  rw [h] at e
  cases e
  exact absurd rfl ht
theorem Ob.set {v : Value} {l : List Nat} (h : Ob w lo v l) {j : Nat} (hj : j < l.length) (y : Nat) : ∃ g c cur, v = .slice (some ⟨g, 0, none⟩) l.length c ∧ lo ≤ g ∧ l.length ≤ c ∧ Cells w g cur 5 ∧ cur[j]? = some (.int .u8 ((l.getD j 0 : Nat) : Int)) ∧ Ob (w.setCell ⟨g, j, none⟩ (.int .u8 (y : Int))) lo v (l.set j y) := by
 rcases h.own.2 with ⟨hv, h0⟩ | ⟨g, c, cur, hv, hg, hh, hc, hm, hs, ht⟩
 ·omega
 ·rw [Nat.mul_one] at hs ht
  have hx : l[j]? = some (l.getD j 0) := by rw [List.getD_eq_getElem?_getD, List.getElem?_eq_getElem hj]; rfl
  have hcell : Cells w g cur 5 := hh
  refine ⟨g, c, cur, hv, hg, hc, hcell, ?_, ⟨?_, ?_⟩, ?_⟩
  ·have e := ob_get l j
   rw [← ht, List.getElem?_take, if_pos hj, hx] at e
   simpa using e
  ·rw [ob_length, List.length_set, Nat.mul_one]
  ·refine Or.inr ⟨g, c, cur.setIfInBounds j (.int .u8 (y : Int)), by rw [List.length_set]; exact hv, hg, hcell.set j _, by rw [List.length_set]; exact hc, hm, by rw [Array.size_setIfInBounds, hs, Nat.mul_one], ?_⟩
   rw [List.length_set, Nat.mul_one, Array.toList_setIfInBounds, List.take_set, ht]
   simp [ob]
  ·rw [((Only.refl g w).setCell j _).size]; exact h.le
end
structure Vz (w : World) (lo W : Nat) (v : Value) (z : List Nat) (bs : List Bool) (p : Nat) : Prop where
 fr : Cells w W #[v, .int .i64 (bs.length : Int)] 134
 ob : Ob w lo v z
 all : allb z = bs ++ List.replicate p false
 oct : ∀ x ∈ z, x < 256
 pad : p ≤ 8
section
variable {w : World} {lo W : Nat} {v : Value} {z : List Nat} {bs : List Bool} {p : Nat}
theorem Vz.other (h : Vz w lo W v z bs p) {g : Nat} {cs : Array Value} (hg : Cells w g cs 5) : g ≠ W := by
 intro e
 subst e
 have h1 := h.fr
 unfold Cells at hg h1
 rw [hg] at h1
 cases h1
theorem Ob.onW {v : Value} {l : List Nat} (h : Ob w lo v l) {u : World} (k : Only W w u) (hW : ∀ g cs, Cells w g cs 5 → g ≠ W) : Ob u lo v l := by
 refine ⟨⟨h.own.1, ?_⟩, by rw [k.size]; exact h.le⟩
 rcases h.own.2 with q | ⟨g, c, cur, hv, hg, hh, q⟩
 ·exact Or.inl q
 ·exact Or.inr ⟨g, c, cur, hv, hg, (k.block g (hW g cur hh)).trans hh, q⟩
theorem Vz.nought (h : Vz w lo W v z bs (p + 1)) : Vz (w.setCell ⟨W, 1, none⟩ (.int .i64 ((bs.length + 1 : Nat) : Int))) lo W v z (bs ++ [false]) p := by
 refine ⟨?_, h.ob.onW ((Only.refl W w).setCell 1 _) (fun g cs hg => h.other hg), ?_, h.oct, by have := h.pad; omega⟩
 ·have := h.fr.set 1 (.int .i64 ((bs.length + 1 : Nat) : Int))
  rw [List.length_append, List.length_singleton]
  exact this
 ·rw [h.all, List.append_assoc, List.replicate_succ]
  rfl
theorem Vz.one (h : Vz w lo W v z bs (p + 1)) {g j y : Nat} {cur : Array Value} (hg : Cells w g cur 5) (hob : Ob (w.setCell ⟨g, j, none⟩ (.int .u8 (y : Int))) lo v (z.set j y)) (hy : y < 256) (ha : allb (z.set j y) = (bs ++ [true]) ++ List.replicate p false) :
  Vz ((w.setCell ⟨g, j, none⟩ (.int .u8 (y : Int))).setCell ⟨W, 1, none⟩ (.int .i64 ((bs.length + 1 : Nat) : Int))) lo W v (z.set j y) (bs ++ [true]) p := by
 have hgW := h.other hg
 have hf : Cells (w.setCell ⟨g, j, none⟩ (.int .u8 (y : Int))) W #[v, .int .i64 (bs.length : Int)] 134 := h.fr.only ((Only.refl g w).setCell j _) (Ne.symm hgW)
 refine ⟨?_, hob.onW ((Only.refl W _).setCell 1 _) (fun g' cs hg' => ?_), ha, fun x hx => ?_, by have := h.pad; omega⟩
 ·have := hf.set 1 (.int .i64 ((bs.length + 1 : Nat) : Int))
  rw [List.length_append, List.length_singleton]
  exact this
 ·intro e
  subst e
  unfold Cells at hg' hf
  rw [hg'] at hf
  cases hf
 ·rcases List.mem_or_eq_of_mem_set hx with h1 | h1
  ·exact h.oct x h1
  ·rw [h1]; exact hy
end
end Go.Proofs.YtpihipbeagpgpaaGreatDoor

/-
 The document's Number: bits written.
-/
namespace Go.Proofs.YtpihipbeagpgpaaGreatDoor
open Go.RowKit
set_option linter.unusedVariables false
theorem i64_and1 (a : Nat) (ha : a < 4611686018427387904) : bits BinOp.and IntKind.i64 (a : Int) 1 = ((a % 2 : Nat) : Int) := by
 show IntKind.i64.wrap ((BitVec.ofInt 64 (a : Int) &&& BitVec.ofInt 64 1).toNat : Int) = _
 rw [BitVec.toNat_and, ofInt_u64 a (by omega), show (BitVec.ofInt 64 1).toNat = 1 by decide, Nat.and_one_is_mod, IntKind.wrap_i64]
 omega
theorem bit_i64 (x k : Nat) (h : x < 4611686018427387904) : (bits BinOp.and IntKind.i64 ((x : Int) / 2 ^ k) 1 == 1) = (x / 2 ^ k % 2 == 1) := by
 have e : (x : Int) / 2 ^ k = ((x / 2 ^ k : Nat) : Int) := by push_cast; rfl
 have hb : x / 2 ^ k < 4611686018427387904 := Nat.lt_of_le_of_lt (Nat.div_le_self _ _) h
 rw [e, i64_and1 _ hb]
 have h2 : x / 2 ^ k % 2 = 0 ∨ x / 2 ^ k % 2 = 1 := by omega
 rcases h2 with h | h <;> rw [h] <;> rfl
theorem or_u8 (y r : Nat) (hy : y < 2 ^ r) (hr : r < 8) : bits BinOp.or IntKind.u8 (y : Int) (IntKind.u8.wrap (2 ^ r)) = ((y + 2 ^ r : Nat) : Int) := by
 have hpr : 2 ^ r ≤ 2 ^ 7 := Nat.pow_le_pow_right (by decide) (by omega)
 rw [show 2 ^ 7 = 128 from rfl] at hpr
 have e : ((2 : Int) ^ r) = ((2 ^ r : Nat) : Int) := by push_cast; rfl
 have hw : IntKind.u8.wrap ((2 ^ r : Nat) : Int) = ((2 ^ r : Nat) : Int) := by
  rw [IntKind.wrap_u8]; omega
 rw [e, hw, u8_or_nat y _ (by omega) (by omega)]
 congr 1
 have := Nat.two_pow_add_eq_or_of_lt hy 1
 rw [Nat.mul_one] at this
 rw [Nat.or_comm, ← this]
 omega
theorem wrapj (j : Nat) (h : (j : Int) < 1099511627776) : wrap64 (j : Int) = (j : Int) ∧ IntKind.i64.wrap (j : Int) = (j : Int) := by
 have e : wrap64 (j : Int) = (j : Int) := by unfold wrap64; omega
 refine ⟨e, ?_⟩
 clear e
 rw [IntKind.wrap_i64]
 omega
section
variable {lo W : Nat}
theorem Vz.shape {w : World} {v : Value} {z : List Nat} {bs : List Bool} {p : Nat} (h : Vz w lo W v z bs p) : ∃ a c, v = .slice a z.length c := by
 obtain ⟨a, c, e, _⟩ := h.ob.shape
 exact ⟨a, c, e⟩
set_option maxHeartbeats 2000000 in
theorem wnumber_c (x n : Nat) (hx : x < 4611686018427387904) (hn : n ≤ 62) (w : World) {v : Value} {z : List Nat} {bs : List Bool} {p : Nat} (h : Vz w lo W v z bs p) (hp : p < 8) (hlo : 4 ≤ lo) (hbs : bs.length + n < 1099511627776) :
  Calls Tryz.prog 74 #[.pointer (some ⟨W, 0, none⟩), .int .i64 (x : Int), .int .i64 (n : Int)] w fun e w' => e = .returned (.tuple #[]) ∧ (∃ v' z' p', Vz w' lo W v' z' (bs ++ bitsOf n x) p' ∧ p' < 8) ∧ Vk lo W w w' := by
 have A : Aside (x < 4611686018427387904 ∧ n ≤ 62 ∧ Vz w lo W v z bs p ∧ 4 ≤ lo ∧ bs.length + n < 1099511627776 ∧ p < 8) := ⟨hx, hn, h, hlo, hbs, hp⟩
 have hnI : (n : Int) ≤ 62 := by omega
 have hxI : (x : Int) < 4611686018427387904 := by omega
 clear hx hn h hlo hbs hp
 go_enter Tryz.func74, Tryz.ntmps74
 go_wp2_with fail
 go_loopg [6] (n + 1) (fun gg s6 wr => ∃ i : Nat, s6 = .int .i64 (i : Int) ∧ Aside (i + gg = n + 1 ∧ i ≤ n) ∧ Aside (Vk lo W w wr ∧ ∃ v z p, Vz wr lo W v z (bs ++ bitsOf i x) p ∧ p < 8))
 case atStart => exact ⟨0, rfl, ⟨by omega, by omega⟩, Vk.refl _ _ _, v, z, p, by rw [show bitsOf 0 x = [] from rfl, List.append_nil]; exact A.out.2.2.1, A.out.2.2.2.2.2⟩
 case round =>
  obtain ⟨i, rfl, AG, hI⟩ := hrel
  by_cases hi : i < n
  ·obtain ⟨hwk, v1, z1, p1, hz, hp1⟩ := hI.out
   have t1 : ((i : Int) < (n : Int)) = True := eq_true (by omega)
   have t1' : (i < n) = True := eq_true hi
   obtain ⟨m, hm⟩ : ∃ m, (bs ++ bitsOf i x).length = m := ⟨_, rfl⟩
   have hmb : m < 1099511627776 := by rw [← hm, List.length_append, bitsOf_length]; have := A.out; omega
   have hmI : (m : Int) < 1099511627776 := by omega
   obtain ⟨r, hr⟩ : ∃ r, m % 8 = r := ⟨_, rfl⟩
   have hrI : Int.tmod (m : Int) 8 = (r : Int) := by rw [← hr, Int.tmod_eq_emod_of_nonneg (by omega)]; omega
   have hiI : (i : Int) < 62 := by omega
   have hbit : (bits BinOp.and IntKind.i64 ((x : Int) / 2 ^ i) 1 == 1) = (x / 2 ^ i % 2 == 1) := bit_i64 x i (by omega)
   obtain ⟨bt, hbt⟩ : ∃ bt, (x / 2 ^ i % 2 == 1) = bt := ⟨_, rfl⟩
   rw [hbt] at hbit
   have AX : Aside (Vk lo W w wr ∧ Vz wr lo W v1 z1 (bs ++ bitsOf i x) p1 ∧ (bs ++ bitsOf i x).length = m ∧ m % 8 = r ∧ m < 1099511627776 ∧ i < n ∧ p1 < 8 ∧ bs ++ bitsOf (i + 1) x = (bs ++ bitsOf i x) ++ [bt]) := ⟨hwk, hz, hm, hr, hmb, hi, hp1, by rw [bitsOf_succ, hbt, List.append_assoc]⟩
   obtain ⟨va, vc, hv⟩ := hz.shape
   subst hv
   obtain ⟨zl, hzl⟩ : ∃ zl, z1.length = zl := ⟨_, rfl⟩
   have c0 := hz.fr.cell 0
   have c1 := hz.fr.cell 1
   have f0 := hz.fr.frozen 0
   have f1 := hz.fr.frozen 1
   rw [hm, hzl] at c0 c1
   have c0' : wr.cell? ⟨W, 0, none⟩ = some (.slice va zl vc) := c0
   have c1' : wr.cell? ⟨W, 1, none⟩ = some (.int .i64 (m : Int)) := c1
   have AZL : Aside (z1.length = zl) := hzl
   clear hI hwk hz hm hr hmb hi hp1 hbt hzl c0 c1
   obtain ⟨rb, hrb⟩ : ∃ rb, ((r : Int) == 0) = rb := ⟨_, rfl⟩
   have ARB : Aside (((r : Int) == 0) = rb) := hrb
   go_upto_region 3 with fail
   go_upto_if 17 with fail
   clear hrb
   go_cut [] from 7 to 59 (fun wx => Aside (∃ v2 z2 p2, Vz wx lo W v2 z2 (bs ++ bitsOf i x) (p2 + 1) ∧ Vk lo W wr wx))
   case first =>
    cases rb with
    | true =>
     have hr0 : r = 0 := by have h := ARB.out; rw [beq_iff_eq] at h; omega
     have AP0 : Aside (p1 = 0) := wr_pad0 AX.out.2.1.all AX.out.2.2.2.2.2.2.1 (by rw [AX.out.2.2.1, AX.out.2.2.2.1, hr0])
     obtain ⟨H, hH⟩ : ∃ H, wr.heap.size = H := ⟨_, rfl⟩
     have bal : Below wr.heap.size wr (wr.alloc (.cells #[.int .u8 0] 5)) := (Below.refl _ wr).alloc (Nat.le_refl _) _
     have hobA := AX.out.2.1.ob.below bal (Nat.le_refl _)
     rw [AZL.out] at hobA
     have hlA : Lies (wr.alloc (.cells #[.int .u8 0] 5)) (some ⟨H, 0, none⟩) [0] := Or.inr ⟨H, 0, rfl, fun k z hz => by
      have hk : k = 0 := by have := (List.getElem?_eq_some_iff.1 hz).1; simp at this; exact this
      subst hk
      cases hz
      rw [← hH, Nat.zero_add, (Cells.new wr #[.int .u8 0] 5).cell 0]
      rfl⟩
     have hfA : Cells (wr.alloc (.cells #[.int .u8 0] 5)) W #[.slice va z1.length vc, .int .i64 ((bs ++ bitsOf i x).length : Int)] 134 := AX.out.2.1.fr.alloc _
     have AL : Aside (z1.length + 1 ≤ 140737488355328) := (show z1.length + 1 ≤ 140737488355328 by
      have h1 := congrArg List.length AX.out.2.1.all
      rw [allb_len, List.length_append, List.length_replicate, AX.out.2.2.1] at h1
      have := AX.out
      omega)
     have ABA : Aside (Below wr.heap.size wr (wr.alloc (.cells #[.int .u8 0] 5)) ∧ Cells (wr.alloc (.cells #[.int .u8 0] 5)) W #[.slice va z1.length vc, .int .i64 ((bs ++ bitsOf i x).length : Int)] 134) := ⟨bal, hfA⟩
     clear hr0 bal hfA
     go_wp2_with (at_builtin; refine wpList_ob 0 _ rfl (.tmp 22) (.tmp 23) rfl lo (.slice va zl vc) z1 (by rfl) hobA A.out.2.2.2.1 (some ⟨H, 0, none⟩) [0] 1 1 rfl (by rfl) (by intro h; cases h) hlA AL.out ?_; intro v6 w6 hap; obtain ⟨va6, vc6, hv6, _⟩ := hap.ob_.shape; have hl6 : (z1 ++ [0]).length = zl + 1 := (by rw [List.length_append, List.length_singleton, AZL.out]); rw [hl6] at hv6; subst hv6; have g0 := (ABA.out.2.ap hap (by decide)).cell 0; have g1 := (ABA.out.2.ap hap (by decide)).frozen 0)
     have AZ : Aside (∃ v2 z2 p2, Vz (w6.setCell ⟨W, 0, none⟩ (.slice va6 (zl + 1) vc6)) lo W v2 z2 (bs ++ bitsOf i x) (p2 + 1) ∧ Vk lo W wr (w6.setCell ⟨W, 0, none⟩ (.slice va6 (zl + 1) vc6))) := by
      have hf6 := ABA.out.2.ap hap (by decide)
      refine ⟨.slice va6 (zl + 1) vc6, z1 ++ [0], 7, ⟨hf6.set 0 _, hap.ob_.onW ((Only.refl W w6).setCell 0 _) (fun g cs hg e => ?_), ?_, fun y hy => ?_, Nat.le_refl _⟩, ((Vk.of_below ABA.out.1).trans (Vk.of_ap hap)).trans (Vk.onW ((Only.refl W w6).setCell 0 _))⟩
      ·subst e
       unfold Cells at hg hf6
       rw [hg] at hf6
       cases hf6
      ·have h0 := AX.out.2.1.all
       rw [AP0.out, List.replicate_zero, List.append_nil] at h0
       exact wr_nought h0
      ·rcases List.mem_append.1 hy with h | h
       ·exact AX.out.2.1.oct y h
       ·rw [List.mem_singleton] at h; rw [h]; decide
     clear hap g0 g1 hobA hlA
     go_meet
     case rel => exact AZ
    | false =>
     have hr0 : r ≠ 0 := by have h := ARB.out; rw [beq_eq_false_iff_ne] at h; omega
     have AZ : Aside (∃ v2 z2 p2, Vz wr lo W v2 z2 (bs ++ bitsOf i x) (p2 + 1) ∧ Vk lo W wr wr) := by
      have ax := AX.out
      have hl := congrArg List.length ax.2.1.all
      rw [allb_len, List.length_append, List.length_replicate, ax.2.2.1] at hl
      refine ⟨.slice va z1.length vc, z1, p1 - 1, ?_, Vk.refl _ _ _⟩
      rw [show p1 - 1 + 1 = p1 by omega]
      exact ax.2.1
     clear hr0
     go_wp2_with fail
     go_meet
     case rel => exact AZ
   case rest =>
    obtain ⟨v2, z2, p2, hz2, hk2⟩ := hcut.out
    clear hcut c0' c1' f0 f1
    obtain ⟨va2, vc2, hv2⟩ := hz2.shape
    subst hv2
    obtain ⟨zl2, hzl2⟩ : ∃ zl, z2.length = zl := ⟨_, rfl⟩
    have c0 := hz2.fr.cell 0
    have c1 := hz2.fr.cell 1
    have f1 := hz2.fr.frozen 1
    rw [AX.out.2.2.1, hzl2] at c0 c1
    have c0' : wc.cell? ⟨W, 0, none⟩ = some (.slice va2 zl2 vc2) := c0
    have c1' : wc.cell? ⟨W, 1, none⟩ = some (.int .i64 (m : Int)) := c1
    have A2 : Aside (Vz wc lo W (.slice va2 z2.length vc2) z2 (bs ++ bitsOf i x) (p2 + 1) ∧ Vk lo W wr wc ∧ z2.length = zl2) := ⟨hz2, hk2, hzl2⟩
    clear hz2 hk2 hzl2 c0 c1
    have hrem : ∀ u, Vk lo W w wr → Vk lo W wr u → Vk lo W w u := fun u h k => h.trans k
    cases bt with
    | false =>
     go_wp2_with fail
     have AZ : Aside (Vk lo W w (wc.setCell ⟨W, 1, none⟩ (.int .i64 ((m : Int) + 1))) ∧ ∃ v z p, Vz (wc.setCell ⟨W, 1, none⟩ (.int .i64 ((m : Int) + 1))) lo W v z (bs ++ bitsOf (i + 1) x) p ∧ p < 8) := by
      have ax := AX.out
      have h := A2.out.1.nought
      rw [ax.2.2.1, ← ax.2.2.2.2.2.2.2] at h
      exact ⟨(ax.1.trans A2.out.2.1).trans (Vk.onW ((Only.refl W wc).setCell 1 _)), _, z2, p2, h, by have := A2.out.1.pad; omega⟩
     go_roundg (n + 1 - (i + 1))
     case measure => have := AG.out; have := AX.out.2.2.2.2.2.1; omega
     case rel => exact ⟨i + 1, by go_num, ⟨by have := AX.out.2.2.2.2.2.1; omega, by have := AX.out.2.2.2.2.2.1; omega⟩, AZ⟩
    | true =>
     have hz3 := A2.out.1
     obtain ⟨y, hy1, hy2, hy3, hy4⟩ := wr_set (z := z2) (bs := bs ++ bitsOf i x) (p := p2) hz3.all (by have := hz3.pad; omega) hz3.oct
     rw [AX.out.2.2.1] at hy1 hy2 hy3 hy4
     rw [AX.out.2.2.2.1] at hy2 hy3 hy4
     obtain ⟨j, hj⟩ : ∃ j, m / 8 = j := ⟨_, rfl⟩
     rw [hj] at hy1 hy4
     have hjz : j < z2.length := (List.getElem?_eq_some_iff.1 hy1).1
     obtain ⟨g, gc, cur, hv, hlg, hlc, hcg, hcj, hob⟩ := hz3.ob.set hjz (y + 2 ^ r)
     rw [List.getD_eq_getElem?_getD, hy1] at hcj
     simp only [Value.slice.injEq] at hv
     obtain ⟨rfl, _, rfl⟩ := hv
     have hqI : Int.tdiv (m : Int) 8 = (j : Int) := by rw [← hj, Int.tdiv_eq_ediv_of_nonneg (by omega)]; omega
     rw [A2.out.2.2] at hjz
     have k1 : ((j : Int) < (zl2 : Int)) = True := eq_true (by omega)
     have k1' : (j < zl2) = True := eq_true hjz
     have hrb : (r : Int) < 8 := by have := AX.out.2.2.2.1; omega
     have AHOR : Aside (bits BinOp.or IntKind.u8 (y : Int) (2 ^ r % 256) = ((y + 2 ^ r : Nat) : Int)) := (by have h := or_u8 y r hy2 (by omega); rw [IntKind.wrap_u8] at h; exact h)
     have hcg0 : Cells wc g cur 5 := hcg
     have hcj3 : wc.cell? ⟨g, j, none⟩ = some (.int .u8 (y : Int)) := by rw [hcg0.cell]; exact hcj
     have hcf3 : wc.frozen? ⟨g, j, none⟩ = false := hcg0.frozen _
     have AZ : Aside (Vk lo W w ((wc.setCell ⟨g, j, none⟩ (.int .u8 ((y + 2 ^ r : Nat) : Int))).setCell ⟨W, 1, none⟩ (.int .i64 ((m : Int) + 1))).drew ∧ ∃ v z p, Vz ((wc.setCell ⟨g, j, none⟩ (.int .u8 ((y + 2 ^ r : Nat) : Int))).setCell ⟨W, 1, none⟩ (.int .i64 ((m : Int) + 1))).drew lo W v z (bs ++ bitsOf (i + 1) x) p ∧ p < 8) := by
      have ax := AX.out
      have h := hz3.one hcg hob hy3 hy4
      rw [ax.2.2.1, ← ax.2.2.2.2.2.2.2] at h
      exact ⟨(((ax.1.trans A2.out.2.1).trans (Vk.onRow ((Only.refl g wc).setCell j _) hlg hcg)).trans (Vk.onW ((Only.refl W _).setCell 1 _))).drew, _, _, p2, ⟨h.fr, h.ob.drew, h.all, h.oct, h.pad⟩, by have := A2.out.1.pad; omega⟩
     have hgW : g ≠ W := A2.out.1.other hcg0
     have hgW' : W ≠ g := Ne.symm hgW
     have hjb : (j : Int) < 1099511627776 := by have := AX.out.2.2.2.2.1; omega
     have hjj : wrap64 (j : Int) = (j : Int) ∧ IntKind.i64.wrap (j : Int) = (j : Int) := wrapj j hjb
     obtain ⟨hwj, hwj'⟩ := hjj
     clear hy1 hy2 hy3 hy4 hj hjz hlg hlc hcg hcg0 hcj hob hz3
     go_upto_region 6 with fail
     go_region
     all_goals
      go_wp2_with fail
      go_roundg (n + 1 - (i + 1))
      case measure => clear hwj hwj'; have := AG.out; have := AX.out.2.2.2.2.2.1; omega
      case rel => exact ⟨i + 1, by go_num, ⟨by clear hwj hwj'; have := AX.out.2.2.2.2.2.1; omega, by clear hwj hwj'; have := AX.out.2.2.2.2.2.1; omega⟩, by rw [AHOR.out]; exact AZ⟩
  ·have hin : i = n := by have := AG.out; omega
   have t1 : ((i : Int) < (n : Int)) = False := eq_false (by omega)
   have t1' : (i < n) = False := eq_false hi
   have AZ : Aside ((∃ v' z' p', Vz wr lo W v' z' (bs ++ bitsOf n x) p' ∧ p' < 8) ∧ Vk lo W w wr) := by
    have h := hI.out
    rw [hin] at h
    exact ⟨h.2, h.1⟩
   clear hI hi hin
   go_wp2_with fail
   go_end0
   exact ⟨rfl, AZ.out.1, AZ.out.2⟩
end
end Go.Proofs.YtpihipbeagpgpaaGreatDoor

/-
 The document's symbol: a code written.
-/
namespace Go.Proofs.YtpihipbeagpgpaaGreatDoor
open Go.RowKit
set_option linter.unusedVariables false
section
variable {lo W : Nat}
set_option maxHeartbeats 1000000 in
theorem wsymbol_c (T s m : Nat) (ls : List Nat) (w : World) {v : Value} {z : List Nat} {bs : List Bool} {p : Nat} (h : Vz w lo W v z bs p) (hp : p < 8) (hlo : 4 ≤ lo) (hbs : bs.length + 15 < 1099511627776) (ht : Tb w T ls) (hs : ls[s]? = some m) (h0 : 0 < m) (h15 : m ≤ 15) (hl : ls.length ≤ 320) :
  Calls Tryz.prog 102 #[.pointer (some ⟨W, 0, none⟩), .pointer (some ⟨T, 0, none⟩), .int .i64 (s : Int)] w fun e w' => e = .returned (.tuple #[]) ∧ (∃ v' z' p', Vz w' lo W v' z' (bs ++ cbits ls s) p' ∧ p' < 8) ∧ Vk lo W w w' := by
 obtain ⟨g, rows, c0, hrows, hr⟩ := ht.cells
 obtain ⟨b, hb1, hb2⟩ := (hr s m hs).1 h0
 have cr : w.cell? ⟨g, s, none⟩ = some (.slice (some ⟨b, 0, none⟩) m m) := by rw [hrows.cell]; exact hb1
 have hsl : s < ls.length := (List.getElem?_eq_some_iff.1 hs).1
 obtain ⟨l, hl'⟩ : ∃ l, cbits ls s = l := ⟨_, rfl⟩
 have hll : l.length = m := by rw [← hl', cbits_at hs, bitsB_len]
 have hbb : Bb w b l := by rw [← hl', cbits_at hs]; exact hb2
 obtain ⟨LL, hLL⟩ : ∃ LL, ls.length = LL := ⟨_, rfl⟩
 rw [hLL] at c0 hsl hl
 have A : Aside (Vz w lo W v z bs p ∧ p < 8 ∧ 4 ≤ lo ∧ bs.length + 15 < 1099511627776 ∧ l.length = m ∧ Bb w b l ∧ m ≤ 15) := ⟨h, hp, hlo, hbs, hll, hbb, h15⟩
 have hmI : (m : Int) ≤ 15 := by omega
 have k1 : ((s : Int) < (LL : Int)) = True := eq_true (by omega)
 have k1' : (s < LL) = True := eq_true hsl
 rw [hl']
 clear h hp hlo hbs ht hs h0 h15 hl hrows hr hb1 hb2 hsl hl' hll hbb hLL
 go_enter Tryz.func102, Tryz.ntmps102
 go_wp2_with fail
 go_loopg [7, 8] (m + 1) (fun gg s7 s8 wr => ∃ i : Nat, s7 = .int .i64 (i : Int) ∧ Aside (i + gg = m + 1 ∧ i ≤ m) ∧ Aside (Vk lo W w wr ∧ ∃ v z p, Vz wr lo W v z (bs ++ l.take i) p ∧ p < 8))
 case atStart => exact ⟨0, rfl, ⟨by omega, by omega⟩, Vk.refl _ _ _, v, z, p, by rw [List.take_zero, List.append_nil]; exact A.out.1, A.out.2.1⟩
 case round =>
  obtain ⟨i, rfl, AG, hI⟩ := hrel
  obtain ⟨hwk, v1, z1, p1, hz, hp1⟩ := hI.out
  by_cases hi : i < m
  ·have t1 : ((i : Int) < (m : Int)) = True := eq_true (by omega)
   have t1' : (i < m) = True := eq_true hi
   have hiI : (i : Int) < 15 := by omega
   have a0 := A.out
   obtain ⟨x, hx⟩ : ∃ x, l[i]? = some x := ⟨_, List.getElem?_eq_getElem (by omega)⟩
   have hbW : b ≠ W := by
    intro e
    subst e
    have h1 := a0.1.fr
    have h2 := a0.2.2.2.2.2.1
    unfold Bb at h2
    unfold Cells at h1 h2
    rw [h1] at h2
    have h3 := congrArg (fun o : Option Obj => match o with | some (.cells _ t _) => t | _ => 0) h2
    exact absurd (show (134 : Nat) = 4 from h3) (by decide)
   have hbb : Cells wr b (vb l).toArray 4 := Cells.wk a0.2.2.2.2.2.1 hwk hbW (by decide)
   have cx : wr.cell? ⟨b, i, none⟩ = some (.bool x) := by rw [hbb.cell]; simp [vb, hx]
   have htk : l.take (i + 1) = l.take i ++ [x] := by rw [List.take_add_one, hx]; rfl
   have hlen : (bs ++ l.take i).length + 1 < 1099511627776 := by rw [List.length_append, List.length_take]; omega
   have hnum : ∀ y : Nat, y < 2 → Calls Tryz.prog 74 #[.pointer (some ⟨W, 0, none⟩), .int .i64 (y : Int), .int .i64 1] wr fun e w' => e = .returned (.tuple #[]) ∧ (∃ v' z' p', Vz w' lo W v' z' ((bs ++ l.take i) ++ bitsOf 1 y) p' ∧ p' < 8) ∧ Vk lo W wr w' := fun y hy => wnumber_c y 1 (by omega) (by omega) wr hz hp1 a0.2.2.1 (by omega)
   have hn0 : Calls Tryz.prog 74 #[.pointer (some ⟨W, 0, none⟩), .int .i64 0, .int .i64 1] wr fun e w' => e = .returned (.tuple #[]) ∧ (∃ v' z' p', Vz w' lo W v' z' ((bs ++ l.take i) ++ [false]) p' ∧ p' < 8) ∧ Vk lo W wr w' := hnum 0 (by decide)
   have hn1 : Calls Tryz.prog 74 #[.pointer (some ⟨W, 0, none⟩), .int .i64 1, .int .i64 1] wr fun e w' => e = .returned (.tuple #[]) ∧ (∃ v' z' p', Vz w' lo W v' z' ((bs ++ l.take i) ++ [true]) p' ∧ p' < 8) ∧ Vk lo W wr w' := hnum 1 (by decide)
   have AX : Aside (Vk lo W w wr ∧ i < m ∧ bs ++ l.take (i + 1) = (bs ++ l.take i) ++ [x]) := ⟨hwk, hi, by rw [htk, List.append_assoc]⟩
   clear hI hwk hz hp1 hi a0 hx hbW hbb htk hlen hnum
   cases x
   all_goals
    go_wp2_with (first | (go_at_call 74; with_reducible refine hn0.mono ?_; rintro e2 w2 ⟨rfl, hw2, hk2⟩) | (go_at_call 74; with_reducible refine hn1.mono ?_; rintro e2 w2 ⟨rfl, hw2, hk2⟩))
    have AZ : Aside (Vk lo W w w2 ∧ ∃ v z p, Vz w2 lo W v z (bs ++ l.take (i + 1)) p ∧ p < 8) := ⟨AX.out.1.trans hk2, by rw [AX.out.2.2]; exact hw2⟩
    go_roundg (m + 1 - (i + 1))
    case measure => have := AG.out; have := AX.out.2.1; omega
    case rel => exact ⟨i + 1, by go_num, ⟨by have := AX.out.2.1; omega, by have := AX.out.2.1; omega⟩, AZ⟩
  ·have hin : i = m := by have := AG.out; omega
   have t1 : ((i : Int) < (m : Int)) = False := eq_false (by omega)
   have t1' : (i < m) = False := eq_false hi
   have AZ : Aside ((∃ v' z' p', Vz wr lo W v' z' (bs ++ l) p' ∧ p' < 8) ∧ Vk lo W w wr) := by
    refine ⟨⟨v1, z1, p1, ?_, hp1⟩, hwk⟩
    rw [hin, ← A.out.2.2.2.2.1, List.take_length] at hz
    exact hz
   clear hI hi hin hwk hz hp1
   go_wp2_with fail
   go_end0
   exact ⟨rfl, AZ.out.1, AZ.out.2⟩
end
end Go.Proofs.YtpihipbeagpgpaaGreatDoor

/-
 Bits that are written lead the machine: what each piece of a deflated text does. No walk in this text.
-/
namespace Go.Proofs.YtpihipbeagpgpaaGreatDoor
set_option linter.unusedVariables false
def Leads (most : Nat) (st st2 : St) (x : List Bool) (p : Nat) (o o2 : List Nat) : Prop := ∀ times, ∃ times2, ∀ pre t, pre.length = p → Runs (pre ++ x ++ t) most ⟨st, p, o, times⟩ ⟨st2, p + x.length, o2, times2⟩
variable {most p : Nat} {st st2 st3 : St} {x y : List Bool} {o o2 o3 : List Nat}
theorem Leads.refl (most : Nat) (st : St) (p : Nat) (o : List Nat) : Leads most st st [] p o o := fun times => ⟨times, fun pre t _ => Runs.refl _⟩
theorem Leads.trans (h : Leads most st st2 x p o o2) (k : Leads most st2 st3 y (p + x.length) o2 o3) : Leads most st st3 (x ++ y) p o o3 := by
 intro times
 obtain ⟨t2, h2⟩ := h times
 obtain ⟨t3, h3⟩ := k t2
 refine ⟨t3, fun pre t hp => ?_⟩
 have q2 := h2 pre (y ++ t) hp
 have q3 := h3 (pre ++ x) t (by rw [List.length_append, hp])
 rw [show pre ++ x ++ (y ++ t) = pre ++ (x ++ y) ++ t by simp [List.append_assoc]] at q2
 rw [show pre ++ x ++ y ++ t = pre ++ (x ++ y) ++ t by simp [List.append_assoc]] at q3
 rw [List.length_append, ← Nat.add_assoc]
 exact q2.trans q3
theorem Leads.one (h : ∀ times, ∃ times2, ∀ pre t, pre.length = p → step (pre ++ x ++ t) most ⟨st, p, o, times⟩ = some ⟨st2, p + x.length, o2, times2⟩) : Leads most st st2 x p o o2 := by
 intro times
 obtain ⟨t2, h2⟩ := h times
 exact ⟨t2, fun pre t hp => Runs.one (h2 pre t hp)⟩
theorem num_at (pre t : List Bool) (n v : Nat) (hp : pre.length = p) : num? (pre ++ bitsOf n v ++ t) p n = some (v % 2 ^ n) := by
 unfold num?
 rw [if_pos (by simp [bitsOf_length, hp]), List.append_assoc, ← hp, List.drop_left, List.take_left' (bitsOf_length n v), nm_bitsOf]
def Fits (ls : List Nat) : Prop := part ls 15 ≤ 32768 ∧ ∀ l ∈ ls, l ≤ 15
theorem sym_at {ls : List Nat} (hf : Fits ls) {s n : Nat} (hs : ls[s]? = some n) (h0 : 0 < n) (pre t : List Bool) (hp : pre.length = p) : sread ls ((pre ++ cbits ls s ++ t).drop p) = .got s n := by
 rw [List.append_assoc, ← hp, List.drop_left]
 exact sread_got ((hit_prefix hf.1 hf.2 hs h0).1 (List.prefix_append _ _))
theorem cbits_n {ls : List Nat} {s n : Nat} (h : ls[s]? = some n) : (cbits ls s).length = n := by rw [cbits_at h, bitsB_len]
section
variable {last : Bool} {lit di : List Nat}
theorem lead_lit (hf : Fits lit) {b n : Nat} (hb : b < 256) (hs : lit[b]? = some n) (h0 : 0 < n) (ho : o.length < most) : Leads most (.sym last lit di) (.sym last lit di) (cbits lit b) p o (o ++ [b]) := by
 refine Leads.one fun times => ⟨times ++ [(p + n - 1) / 8], fun pre t hp => ?_⟩
 unfold step
 simp only [sym_at hf hs h0 pre t hp, if_pos hb]
 unfold give
 rw [if_pos ho, cbits_n hs]
theorem lead_end (hf : Fits lit) {n : Nat} (hs : lit[256]? = some n) (h0 : 0 < n) : Leads most (.sym last lit di) (.head last) (cbits lit 256) p o o := by
 refine Leads.one fun times => ⟨times, fun pre t hp => ?_⟩
 unfold step
 simp only [sym_at hf hs h0 pre t hp, if_neg (Nat.lt_irrefl 256)]
 rw [cbits_n hs]
 rfl
def again (o : List Nat) (d : Nat) : Nat → List Nat
 | 0 => o
 | n + 1 => again (o ++ [o.getD (o.length - d) 0]) d n
theorem lead_done (n d : Nat) : ∀ (o : List Nat), o.length + n ≤ most → Leads most (.copy last lit di n d) (.sym last lit di) [] p o (again o d n) := by
 induction n with
 | zero => exact fun o _ => Leads.one fun times => ⟨times, fun pre t hp => rfl⟩
 | succ n ih =>
  intro o ho
  have h1 : Leads most (.copy last lit di (n + 1) d) (.copy last lit di n d) [] p o (o ++ [o.getD (o.length - d) 0]) := by
   refine Leads.one fun times => ⟨times ++ [(p - 1) / 8], fun pre t hp => ?_⟩
   unfold step give
   simp only []
   rw [if_pos (show o.length < most by omega)]
   rfl
  have := h1.trans (p := p) (ih (o ++ [o.getD (o.length - d) 0]) (by rw [List.length_append, List.length_singleton]; omega))
  exact this
theorem lead_copy (hf : Fits lit) (hd : Fits di) {s n v e m u : Nat} (h1 : 257 ≤ s) (h2 : s ≤ 285) (hs : lit[s]? = some n) (h0 : 0 < n) (hv : v < 2 ^ lmore s) (hx : e ≤ 29) (hs2 : di[e]? = some m) (hm : 0 < m) (hu : u < 2 ^ dmore e)
  (hback : dbase e + u ≤ o.length) (hmost : o.length + (lbase s + v) ≤ most) :
  Leads most (.sym last lit di) (.sym last lit di) (cbits lit s ++ (bitsOf (lmore s) v ++ (cbits di e ++ bitsOf (dmore e) u))) p o (again o (dbase e + u) (lbase s + v)) := by
 have q1 : Leads most (.sym last lit di) (.lext last lit di s) (cbits lit s) p o o := by
  refine Leads.one fun times => ⟨times, fun pre t hp => ?_⟩
  unfold step
  simp only [sym_at hf hs h0 pre t hp, if_neg (show ¬ s < 256 by omega), if_neg (show ¬ s = 256 by omega), if_neg (show ¬ 285 < s by omega)]
  rw [cbits_n hs]
 have q2 : ∀ p, Leads most (.lext last lit di s) (.dist last lit di (lbase s + v)) (bitsOf (lmore s) v) p o o := by
  intro p
  refine Leads.one fun times => ⟨times, fun pre t hp => ?_⟩
  unfold step
  simp only [num_at pre t _ v hp, Nat.mod_eq_of_lt hv, bitsOf_length]
  rfl
 have q3 : ∀ p, Leads most (.dist last lit di (lbase s + v)) (.dext last lit di (lbase s + v) e) (cbits di e) p o o := by
  intro p
  refine Leads.one fun times => ⟨times, fun pre t hp => ?_⟩
  unfold step
  simp only [sym_at hd hs2 hm pre t hp, if_neg (show ¬ 29 < e by omega)]
  rw [cbits_n hs2]
 have q4 : ∀ p, Leads most (.dext last lit di (lbase s + v) e) (.copy last lit di (lbase s + v) (dbase e + u)) (bitsOf (dmore e) u) p o o := by
  intro p
  refine Leads.one fun times => ⟨times, fun pre t hp => ?_⟩
  unfold step
  simp only [num_at pre t _ u hp, Nat.mod_eq_of_lt hu, bitsOf_length]
  simp only [Option.map_some, if_neg (show ¬ o.length < dbase e + u by omega)]
 have := q1.trans ((q2 _).trans ((q3 _).trans ((q4 _).trans (lead_done (lbase s + v) (dbase e + u) o hmost))))
 rwa [List.append_nil] at this
end
theorem lead_head (last : Bool) (kd : Nat) (hk : kd < 3) : Leads most (.head false) (match kd with | 0 => .slen last | 1 => .sym last fixL fixD | _ => .dnum last) (bitsOf 1 (if last then 1 else 0) ++ bitsOf 2 kd) p o o := by
 refine Leads.one fun times => ⟨times, fun pre t hp => ?_⟩
 have e : bitsOf 1 (if last then 1 else 0) ++ bitsOf 2 kd = bitsOf 3 ((if last then 1 else 0) + 2 * kd) := by
  match kd, hk, last with
  | 0, _, true => decide
  | 0, _, false => decide
  | 1, _, true => decide
  | 1, _, false => decide
  | 2, _, true => decide
  | 2, _, false => decide
 rw [e]
 unfold step
 simp only [num_at pre t 3 _ hp, bitsOf_length]
 match kd, hk, last with
 | 0, _, true => rfl
 | 0, _, false => rfl
 | 1, _, true => rfl
 | 1, _, false => rfl
 | 2, _, true => rfl
 | 2, _, false => rfl
theorem lead_over : Leads most (.head true) .done [] p o o := Leads.one fun times => ⟨times, fun pre t hp => rfl⟩
end Go.Proofs.YtpihipbeagpgpaaGreatDoor

/-
 The tokens of a text, their bits, and what these do. No walk in this text.
-/
namespace Go.Proofs.YtpihipbeagpgpaaGreatDoor
set_option linter.unusedVariables false
abbrev Tok := Nat ⊕ (Nat × Nat)
abbrev Tok.lit (b : Nat) : Tok := .inl b
abbrev Tok.cp (n d : Nat) : Tok := .inr (n, d)
theorem Tok.el {motive : Tok → Prop} (t : Tok) (lit : ∀ b, motive (.lit b)) (cp : ∀ n d, motive (.cp n d)) : motive t :=
 match t with
 | .inl b => lit b
 | .inr (n, d) => cp n d
def lsym (n : Nat) : Nat := match (List.range 28).find? (fun i => decide (n < lbase (257 + i) + 2 ^ lmore (257 + i) ∧ n ≠ 258)) with
 | some i => 257 + i
 | none => 285
def dsym (d : Nat) : Nat := match (List.range 30).find? (fun i => decide (d < dbase i + 2 ^ dmore i)) with
 | some i => i
 | none => 30
theorem lsym_ok {n : Nat} (h1 : 3 ≤ n) (h2 : n ≤ 258) : 257 ≤ lsym n ∧ lsym n ≤ 285 ∧ lbase (lsym n) ≤ n ∧ n - lbase (lsym n) < 2 ^ lmore (lsym n) := by
 have : ∀ j : _root_.Fin 256, 257 ≤ lsym (j.1 + 3) ∧ lsym (j.1 + 3) ≤ 285 ∧ lbase (lsym (j.1 + 3)) ≤ j.1 + 3 ∧ j.1 + 3 - lbase (lsym (j.1 + 3)) < 2 ^ lmore (lsym (j.1 + 3)) := by decide +kernel
 have := this ⟨n - 3, by omega⟩
 rwa [show n - 3 + 3 = n by omega] at this
theorem dsym_ok {d : Nat} (h1 : 1 ≤ d) (h2 : d ≤ 200) : dsym d ≤ 29 ∧ dbase (dsym d) ≤ d ∧ d - dbase (dsym d) < 2 ^ dmore (dsym d) := by
 have : ∀ j : _root_.Fin 200, dsym (j.1 + 1) ≤ 29 ∧ dbase (dsym (j.1 + 1)) ≤ j.1 + 1 ∧ j.1 + 1 - dbase (dsym (j.1 + 1)) < 2 ^ dmore (dsym (j.1 + 1)) := by decide +kernel
 have := this ⟨d - 1, by omega⟩
 rwa [show d - 1 + 1 = d by omega] at this
def tokBits (lit di : List Nat) : Tok → List Bool
 | .inl b => cbits lit b
 | .inr (n, d) => cbits lit (lsym n) ++ (bitsOf (lmore (lsym n)) (n - lbase (lsym n)) ++ (cbits di (dsym d) ++ bitsOf (dmore (dsym d)) (d - dbase (dsym d))))
def Has (ls : List Nat) (s : Nat) : Prop := ∃ n, ls[s]? = some n ∧ 0 < n
def Uses (lit di : List Nat) : Tok → Prop
 | .inl b => Has lit b
 | .inr (n, d) => Has lit (lsym n) ∧ Has di (dsym d)
def Tells (T : List Nat) : Nat → List Tok → Nat → Prop
 | i, [], e => i = e
 | i, .lit b :: r, e => T[i]? = some b ∧ Tells T (i + 1) r e
 | i, .cp n d :: r, e => 3 ≤ n ∧ n ≤ 258 ∧ 1 ≤ d ∧ d ≤ 200 ∧ d ≤ i ∧ i + n ≤ T.length ∧ (∀ k, k < n → T[i + k]? = T[i + k - d]?) ∧ Tells T (i + n) r e
theorem again_text {T : List Nat} {d : Nat} (hd : 1 ≤ d) : ∀ (n i : Nat), d ≤ i → i + n ≤ T.length → (∀ k, k < n → T[i + k]? = T[i + k - d]?) → again (T.take i) d n = T.take (i + n)
 | 0, i, _, _, _ => rfl
 | n + 1, i, h1, h2, h3 => by
  have hl : (T.take i).length = i := by rw [List.length_take]; omega
  have h0 := h3 0 (by omega)
  rw [Nat.add_zero] at h0
  have hi : i < T.length := by omega
  have e1 : (T.take i).getD ((T.take i).length - d) 0 = T[i] := by
   rw [hl, List.getD_eq_getElem?_getD, List.getElem?_take, if_pos (by omega), ← h0, List.getElem?_eq_getElem hi]
   rfl
  unfold again
  rw [e1, show T.take i ++ [T[i]] = T.take (i + 1) by rw [List.take_add_one, List.getElem?_eq_getElem hi]; rfl]
  have := again_text (T := T) hd n (i + 1) (by omega) (by omega) (fun k hk => by
   have := h3 (k + 1) (by omega)
   rwa [show i + (k + 1) = i + 1 + k by omega] at this)
  rw [this, show i + 1 + n = i + (n + 1) by omega]
theorem lead_toks {most : Nat} {last : Bool} {lit di T : List Nat} (hf : Fits lit) (hd : Fits di) (hT : T.length ≤ most) (ho : Oct T) :
  ∀ (l : List Tok) (i e p : Nat), (∀ x ∈ l, Uses lit di x) → Tells T i l e → i ≤ T.length → Leads most (.sym last lit di) (.sym last lit di) (l.flatMap (tokBits lit di)) p (T.take i) (T.take e)
 | [], i, e, p, _, ht, hi => by
  have : i = e := ht
  subst this
  exact Leads.refl _ _ _ _
 | .inl b :: r, i, e, p, hu, ht, hi => by
  obtain ⟨h1, h2⟩ := ht
  obtain ⟨n, hn, hn0⟩ : Has lit b := hu (.lit b) (List.mem_cons_self ..)
  have hb : b < 256 := ho b (List.mem_of_getElem? h1)
  have hi2 : i < T.length := (List.getElem?_eq_some_iff.1 h1).1
  have q1 : Leads most (.sym last lit di) (.sym last lit di) (cbits lit b) p (T.take i) (T.take i ++ [b]) := lead_lit hf hb hn hn0 (by rw [List.length_take]; omega)
  rw [show T.take i ++ [b] = T.take (i + 1) by rw [List.take_add_one, h1]; rfl] at q1
  have q2 := q1.trans (lead_toks hf hd hT ho r (i + 1) e _ (fun x hx => hu x (List.mem_cons_of_mem _ hx)) h2 (by omega))
  rw [List.flatMap_cons]
  exact q2
 | .inr (n, d) :: r, i, e, p, hu, ht, hi => by
  obtain ⟨h1, h2, h3, h4, h5, h6, h7, h8⟩ := ht
  obtain ⟨⟨m, hm, hm0⟩, ⟨k, hk, hk0⟩⟩ : Has lit (lsym n) ∧ Has di (dsym d) := hu (.cp n d) (List.mem_cons_self ..)
  obtain ⟨l1, l2, l3, l4⟩ := lsym_ok h1 h2
  obtain ⟨d1, d2, d3⟩ := dsym_ok h3 h4
  have hl : (T.take i).length = i := by rw [List.length_take]; omega
  have q1 := lead_copy (most := most) (last := last) (p := p) (o := T.take i) hf hd l1 l2 hm hm0 l4 d1 hk hk0 d3 (by rw [hl]; omega) (by rw [hl]; omega)
  rw [show lbase (lsym n) + (n - lbase (lsym n)) = n by omega, show dbase (dsym d) + (d - dbase (dsym d)) = d by omega, again_text h3 n i h5 h6 h7] at q1
  have q2 := q1.trans (lead_toks hf hd hT ho r (i + n) e _ (fun x hx => hu x (List.mem_cons_of_mem _ hx)) h8 h6)
  rw [List.flatMap_cons]
  exact q2
theorem lead_body {most : Nat} {last : Bool} {lit di T : List Nat} {p : Nat} (hf : Fits lit) (hd : Fits di) (hT : T.length ≤ most) (ho : Oct T) (h256 : Has lit 256) {l : List Tok} {i e : Nat} (hu : ∀ x ∈ l, Uses lit di x) (ht : Tells T i l e) (hi : i ≤ T.length) :
  Leads most (.sym last lit di) (.head last) (l.flatMap (tokBits lit di) ++ cbits lit 256) p (T.take i) (T.take e) := by
 obtain ⟨n, hn, hn0⟩ := h256
 exact (lead_toks hf hd hT ho l i e p hu ht hi).trans (lead_end hf hn hn0)
theorem fits_fixL : Fits fixL := by
 refine ⟨by decide +kernel, ?_⟩
 have : fixL.all (fun x => decide (x ≤ 15)) = true := by decide +kernel
 intro x hx
 exact of_decide_eq_true (List.all_eq_true.1 this x hx)
theorem fits_fixD : Fits fixD := by
 refine ⟨by decide +kernel, fun x hx => ?_⟩
 rw [List.eq_of_mem_replicate hx]; omega
theorem has_fixL {s : Nat} (h : s < 288) : Has fixL s := by
 have : ∀ j : _root_.Fin 288, 0 < fixL.getD j.1 0 := by decide +kernel
 refine ⟨fixL.getD s 0, ?_, this ⟨s, h⟩⟩
 have hl : s < fixL.length := by simp [fixL, h]
 rw [List.getD_eq_getElem?_getD, List.getElem?_eq_getElem hl]
 rfl
theorem has_fixD {s : Nat} (h : s < 32) : Has fixD s := ⟨5, by unfold fixD; rw [List.getElem?_replicate, if_pos h], by omega⟩
theorem Tells.uses_fix {T : List Nat} (ho : Oct T) : ∀ {l : List Tok} {i e : Nat}, Tells T i l e → ∀ x ∈ l, Uses fixL fixD x
 | [], _, _, _, x, hx => by cases hx
 | .inl b :: r, i, e, ht, x, hx => by
  rcases List.mem_cons.1 hx with rfl | hx
  ·exact has_fixL (by have := ho b (List.mem_of_getElem? ht.1); omega)
  ·exact Tells.uses_fix ho ht.2 x hx
 | .inr (n, d) :: r, i, e, ht, x, hx => by
  rcases List.mem_cons.1 hx with rfl | hx
  ·exact ⟨has_fixL (by have := (lsym_ok ht.1 ht.2.1).2.1; omega), has_fixD (by have := (dsym_ok ht.2.2.1 ht.2.2.2.1).1; omega)⟩
  ·exact Tells.uses_fix ho ht.2.2.2.2.2.2.2 x hx
end Go.Proofs.YtpihipbeagpgpaaGreatDoor

/-
 Lengths of codes for the symbols that are used, all of one length or one more: they are a whole code. No walk in this text.
-/
namespace Go.Proofs.YtpihipbeagpgpaaGreatDoor
set_option linter.unusedVariables false
def fl (k n : Nat) : List Bool → Nat → List Nat
 | [], _ => []
 | false :: r, sh => 0 :: fl k n r sh
 | true :: r, sh => if 0 < sh ∧ 1 < n then k :: fl k n r (sh - 1) else (k + 1) :: fl k n r sh
end Go.Proofs.YtpihipbeagpgpaaGreatDoor

/-
 A dynamic block's lengths as they are said, and what their bits do. No walk in this text.
-/
namespace Go.Proofs.YtpihipbeagpgpaaGreatDoor
set_option linter.unusedVariables false
end Go.Proofs.YtpihipbeagpgpaaGreatDoor

/-
 A whole dynamic block, and what its bits do. No walk in this text.
-/
namespace Go.Proofs.YtpihipbeagpgpaaGreatDoor
set_option linter.unusedVariables false
def fill (f : List Nat) (idx : List Nat) (F : List Nat) : List Nat := idx.foldl (fun F j => F.set j (f.getD j 0)) F
end Go.Proofs.YtpihipbeagpgpaaGreatDoor

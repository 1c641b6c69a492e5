/-
  Own texts of this seat, one behind the other: what each says stands ahead of it.
-/
import Derived.Test.YtpihipbeagpgpaaGreatDoorMc
import Derived.Test.YtpihipbeagpgpaaGreatDoorMb
import Derived.Laws.CopyOwn
import Derived.Test.YtpihipbeagpgpaaGreatDoorProg
import Derived.Test.YtpihipbeagpgpaaGreatDoorMa
import Derived.BigQuiet
import Derived.Deep.LoopGhost
import Derived.Laws.MakeOwn
import Derived.Laws.OwnMore
/-
 What each method of bits' Reader comes to, at a reader in memory that holds n bits, their number v.
 Conditions: n is at most 64, and v is below 2 to the n; each method keeps that.
-/
namespace Go.Proofs.YtpihipbeagpgpaaGreatDoor
open Go.RowKit

structure Br (w : World) (b v n : Nat) : Prop where
 rd : Rd w b v n
 lt : v < 2 ^ n
 le : n ≤ 64
section
variable {w u : World} {b c v n : Nat}
theorem Br.drewN (h : Br w b v n) (k : Nat) : Br (w.drewN k) b v n := ⟨h.rd, h.lt, h.le⟩
theorem Br.drew (h : Br w b v n) : Br w.drew b v n := ⟨h.rd, h.lt, h.le⟩
theorem Br.only (h : Br w b v n) (k : Only c w u) (hb : b ≠ c) : Br u b v n := ⟨h.rd.only k hb, h.lt, h.le⟩
theorem Br.below {B : Nat} (h : Br w b v n) (k : Below B w u) (hb : b < B) : Br u b v n := ⟨h.rd.below k hb, h.lt, h.le⟩
end
theorem new_b (w : World) : Calls Tryz.prog 44 #[] w fun e w' => e = .returned (.pointer (some ⟨w.heap.size, 0, none⟩)) ∧ Br w' w.heap.size 0 0 ∧ Below w.heap.size w w' ∧ w'.heap.size = w.heap.size + 1 :=
 (new_c w).mono fun _ _ h => ⟨h.1, ⟨h.2.1, by decide, by decide⟩, h.2.2⟩
theorem held_b (b v n : Nat) (w : World) (h : Br w b v n) : Calls Tryz.prog 132 #[.pointer (some ⟨b, 0, none⟩)] w fun e w' => e = .returned (.int .i64 n) ∧ w = w' :=
 held_c b v n w h.rd (by omega) (by have := h.le; omega)
theorem drop_b (b v n k : Nat) (w : World) (h : Br w b v n) (hk : k ≤ n) :
  Calls Tryz.prog 85 #[.pointer (some ⟨b, 0, none⟩), .int .u64 k] w fun e w' => e = .returned (.tuple #[]) ∧ Br w' b (v / 2 ^ k) (n - k) ∧ Only b w w' := by
 have h1 := h.rd.c0
 have h2 := h.rd.c1
 have h3 := h.rd.fz 0
 have h4 := h.rd.fz 1
 have h64 := h.le
 have hv := lt_word h.lt h.le
 go_enter Tryz.func85, Tryz.ntmps85
 go_wp2
 go_end0
 refine ⟨rfl, ⟨?_, div_lt v n k h.lt hk, by omega⟩, ?_⟩
 ·have := (h.rd.set0 ((v : Int) / 2 ^ k)).set1 ((n : Int) - k)
  rw [div_nat] at this
  rw [show ((n - k : Nat) : Int) = (n : Int) - k by omega]
  simpa only [Int.toNat_natCast, div_nat] using this
 ·exact ((Only.refl _ _).setCell _ _).setCell _ _
theorem put_yes (b v n x : Nat) (w : World) (h : Br w b v n) (hn : n ≤ 56) (hx : x < 256) :
  Calls Tryz.prog 165 #[.pointer (some ⟨b, 0, none⟩), .int .u8 x] w fun e w' => e = .returned (.bool true) ∧ Br w' b (v + x * 2 ^ n) (n + 8) ∧ Only b w w' := by
 have h1 := h.rd.c0
 have h2 := h.rd.c1
 have h3 := h.rd.fz 0
 have h4 := h.rd.fz 1
 have hn' : ¬ (56 : Int) < n := by omega
 have hv := lt_word h.lt h.le
 go_enter Tryz.func165, Tryz.ntmps165
 go_wp2
 refine wp_scope_forward 0 rfl ?_
 go_wp2
 go_region
 go_wp2
 rw [jump_ret]
 go_ret
 refine ⟨rfl, ⟨?_, put_lt v n x h.lt hx, by omega⟩, ?_⟩
 ·rw [or_put v n x h.lt hn hx]
  have := ((h.rd.set0 ((v + x * 2 ^ n : Nat) : Int)).set1 ((n : Int) + 8)).drew
  rw [show ((n + 8 : Nat) : Int) = (n : Int) + 8 by omega]
  exact this
 ·exact (((Only.refl _ _).setCell _ _).setCell _ _).drew
def Can (k : Int) (n : Nat) : Prop := 0 ≤ k ∧ k ≤ 32 ∧ k ≤ n
theorem peek_no (b v n : Nat) (k : Int) (w : World) (h : Br w b v n) (hk : ¬ Can k n) :
  Calls Tryz.prog 84 #[.pointer (some ⟨b, 0, none⟩), .int .i64 k] w fun e w' => e = .returned (.tuple #[.int .u32 0, .bool false]) ∧ w = w' := by
 have h2 := h.rd.c1
 have h64 := h.le
 go_enter Tryz.func84, Tryz.ntmps84
 go_wp2
 refine wp_scope_forward 0 rfl ?_
 unfold Can at hk
 by_cases c1 : k < 0
 ·go_wp2
  go_step3
  refine ⟨rfl, ?_⟩
  go_wp2
  rw [Exit.noGoto_ret]
  go_ret2
  exact ⟨rfl, rfl⟩
 ·by_cases c2 : 32 < k
  ·go_wp2
   go_step3
   refine ⟨rfl, ?_⟩
   go_wp2
   rw [Exit.noGoto_ret]
   go_ret2
   exact ⟨rfl, rfl⟩
  ·have c3 : (n : Int) < k := by omega
   go_wp2
   go_step3
   refine ⟨rfl, ?_⟩
   go_wp2
   rw [Exit.noGoto_ret]
   go_ret2
   exact ⟨rfl, rfl⟩
theorem peek_yes (b v n k : Nat) (w : World) (h : Br w b v n) (hk : k ≤ 32) (hkn : k ≤ n) :
  Calls Tryz.prog 84 #[.pointer (some ⟨b, 0, none⟩), .int .i64 k] w fun e w' => e = .returned (.tuple #[.int .u32 ((v % 2 ^ k : Nat) : Int), .bool true]) ∧ w = w' := by
 have h1 := h.rd.c0
 have h2 := h.rd.c1
 have h64 := h.le
 have e1 : ¬ (k : Int) < 0 := by omega
 have e2 : ¬ (32 : Int) < k := by omega
 have e3 : ¬ (n : Int) < k := by omega
 have hv := lt_word h.lt h.le
 have hm := and_mask v k hv hk
 go_enter Tryz.func84, Tryz.ntmps84
 go_wp2
 refine wp_scope_forward 0 rfl ?_
 go_wp2
 rw [jump_ret]
 go_ret2
 refine ⟨?_, rfl⟩
 simp only [hm, Array.getD]
 rfl
theorem take_no (b v n : Nat) (k : Int) (w : World) (h : Br w b v n) (hk : ¬ Can k n) :
  Calls Tryz.prog 58 #[.pointer (some ⟨b, 0, none⟩), .int .i64 k] w fun e w' => e = .returned (.tuple #[.int .u32 0, .bool false]) ∧ w = w' := by
 go_enter Tryz.func58, Tryz.ntmps58
 go_wp2_with fail
 refine wp_scope_forward 0 rfl ?_
 go_wp2_with fail
 refine (peek_no b v n k _ h hk).mono ?_
 rintro e w' ⟨rfl, rfl⟩
 go_wp2_with fail
 go_step3
 refine ⟨rfl, ?_⟩
 go_wp2
 rw [Exit.noGoto_ret]
 go_ret2
 exact ⟨rfl, rfl⟩
theorem take_yes (b v n k : Nat) (w : World) (h : Br w b v n) (hk : k ≤ 32) (hkn : k ≤ n) :
  Calls Tryz.prog 58 #[.pointer (some ⟨b, 0, none⟩), .int .i64 k] w fun e w' => e = .returned (.tuple #[.int .u32 ((v % 2 ^ k : Nat) : Int), .bool true]) ∧ Br w' b (v / 2 ^ k) (n - k) ∧ Only b w w' := by
 have h64 := h.le
 go_enter Tryz.func58, Tryz.ntmps58
 go_wp2_with fail
 refine wp_scope_forward 0 rfl ?_
 go_wp2_with fail
 refine (peek_yes b v n k _ h hk hkn).mono ?_
 rintro e w' ⟨rfl, rfl⟩
 go_wp2_with fail
 refine (drop_b b v n k _ h hkn).mono ?_
 rintro e w' ⟨rfl, hb, ho⟩
 go_wp2_with fail
 rw [jump_ret]
 go_ret2
 exact ⟨rfl, hb, ho⟩
theorem align_b (b v n : Nat) (w : World) (h : Br w b v n) :
  Calls Tryz.prog 59 #[.pointer (some ⟨b, 0, none⟩)] w fun e w' => e = .returned (.int .i64 ((n % 8 : Nat) : Int)) ∧ Br w' b (v / 2 ^ (n % 8)) (n - n % 8) ∧ Only b w w' := by
 have h2 := h.rd.c1
 have h64 := h.le
 have e : ((n % 8 : Nat) : Int) = (n : Int) % 8 := by omega
 go_enter Tryz.func59, Tryz.ntmps59
 go_wp2_with fail
 rw [← e]
 refine (drop_b b v n (n % 8) _ h (Nat.mod_le _ _)).mono ?_
 rintro e w' ⟨rfl, hb, ho⟩
 go_wp2_with fail
 go_ret
 exact ⟨rfl, hb, ho⟩
theorem clear_b (b v n : Nat) (w : World) (h : Br w b v n) :
  Calls Tryz.prog 155 #[.pointer (some ⟨b, 0, none⟩)] w fun e w' => e = .returned (.tuple #[]) ∧ Br w' b 0 0 ∧ Only b w w' := by
 have h2 := h.rd.c1
 have h64 := h.le
 go_enter Tryz.func155, Tryz.ntmps155
 go_wp2_with fail
 refine (drop_b b v n n _ h (Nat.le_refl _)).mono ?_
 rintro e w' ⟨rfl, hb, ho⟩
 rw [Nat.div_eq_of_lt h.lt, Nat.sub_self] at hb
 go_wp2_with fail
 go_end0
 exact ⟨rfl, hb, ho⟩
end Go.Proofs.YtpihipbeagpgpaaGreatDoor

/-
 What the program's Read comes to.
-/
namespace Go.Proofs.YtpihipbeagpgpaaGreatDoor
open Go.RowKit
set_option linter.unusedVariables false
theorem may_of {ls : List Nat} {l : List Bool} (hk : part ls 15 ≤ 32768) (h15 : ∀ x ∈ ls, x ≤ 15) : (∃ j n, ls[j]? = some n ∧ 0 < n ∧ l <+: cbits ls j) ↔ May ls l := by
 constructor
 ·rintro ⟨j, n, h1, h2, h3⟩
  have := (may_prefix hk h15 h1 h2).1 h3
  exact ⟨j, n, h1, h2, this.1, this.2⟩
 ·rintro ⟨j, n, h1, h2, h3, h4⟩
  exact ⟨j, n, h1, h2, (may_prefix hk h15 h1 h2).2 ⟨h3, h4⟩⟩
theorem told_bad {ls : List Nat} {l : List Bool} {s how k : Nat} (hk : part ls 15 ≤ 32768) (h15 : ∀ x ∈ ls, x ≤ 15) (ht : Told ls l s how k) (h1 : ∀ i n, ¬ Hit ls l i n) (h2 : ¬ May ls l) : s = 0 ∧ how = 2 ∧ k = 0 := by
 rcases ht with ⟨h, _⟩ | ⟨_, h, _⟩ | ⟨_, _, h⟩
 ·exact absurd h (h1 _ _)
 ·exact absurd ((may_of hk h15).1 h) h2
 ·exact h
theorem told_more {ls : List Nat} {l : List Bool} {s how k : Nat} (hk : part ls 15 ≤ 32768) (h15 : ∀ x ∈ ls, x ≤ 15) (ht : Told ls l s how k) (h1 : ∀ i n, ¬ Hit ls l i n) (h2 : May ls l) : s = 0 ∧ how = 1 ∧ k = 0 := by
 rcases ht with ⟨h, _⟩ | ⟨_, _, h⟩ | ⟨_, h, _⟩
 ·exact absurd h (h1 _ _)
 ·exact h
 ·exact absurd ((may_of hk h15).2 h2) h
theorem told_hit {ls : List Nat} {l : List Bool} {s how k s0 n : Nat} (ht : Told ls l s how k) (hh : Hit ls l s0 n) : s = s0 ∧ how = 0 ∧ k = n := by
 rcases ht with ⟨h, h0⟩ | ⟨h, _⟩ | ⟨h, _⟩
 ·have := hit_one h hh
  exact ⟨this.1, h0, this.2⟩
 ·exact absurd hh (h _ _)
 ·exact absurd hh (h _ _)
theorem But.drawn {b : Nat} {w u : World} (h : Drawn w u) : But b w u := by
 obtain ⟨n, rfl⟩ := h
 exact ⟨rfl, rfl, rfl, Nat.le_refl _, fun _ _ _ => rfl⟩
theorem But.only {b : Nat} {w u v : World} (h : But b w u) (k : Only b u v) : But b w v :=
 ⟨k.os.trans h.os, k.tape.trans h.tape, k.output.trans h.output, by rw [k.size]; exact h.size, fun i hi hne => (k.block i hne).trans (h.block i hi hne)⟩
set_option maxRecDepth 100000 in
set_option maxHeartbeats 4000000 in
theorem read_c (lo hi T : Nat) (ls : List Nat) (b s how k : Nat) (l : List Bool) (w : World) (hp : PT w lo hi T ls) (hk : part ls 15 ≤ 32768) (h15 : ∀ x ∈ ls, x ≤ 15) (hb : Br w b (nm l) l.length) (ht : Told ls l s how k) :
  Calls Tryz.prog 118 #[.pointer (some ⟨T, 0, none⟩), .pointer (some ⟨b, 0, none⟩)] w fun e w' => e = .returned (.tuple #[.int .i64 (s : Int), .int .i64 (how : Int)]) ∧ Br w' b (nm (l.drop k)) (l.drop k).length ∧ But b w w' := by
 obtain ⟨g, M, kk, ht2, _⟩ := hp
 obtain ⟨G, hG, hLd⟩ := ht2.m
 have cT1 := ht2.t.cell 1
 simp only [List.getElem?_toArray, List.getElem?_cons_zero, List.getElem?_cons_succ] at cT1
 have hheld := held_b b (nm l) l.length w hb
 obtain ⟨H, hH⟩ : ∃ H, min l.length 15 = H := ⟨_, rfl⟩
 have hpeek := peek_yes b (nm l) l.length H w hb (by omega) (by omega)
 have hvb : nm l % 2 ^ H < 4294967296 := by
  have h1 := Nat.mod_lt (nm l) (show 0 < 2 ^ H from Nat.pow_pos (by decide))
  have h2 : 2 ^ H ≤ 2 ^ 15 := Nat.pow_le_pow_right (by decide) (by omega)
  omega
 have hrev := rev_c (nm l % 2 ^ H) hvb (H : Int) w
 have hcl : clamp (H : Int) = H := by unfold clamp; omega
 rw [hcl, rev_mod H H _ (Nat.le_refl _), rev_num H (by omega)] at hrev
 obtain ⟨v, hv⟩ : ∃ v, num (l.take H) = v := ⟨_, rfl⟩
 rw [hv] at hrev
 obtain ⟨x, hx⟩ : ∃ x, nm l % 2 ^ H = x := ⟨_, rfl⟩
 rw [hx] at hrev hpeek
 obtain ⟨Ln, hLn⟩ : ∃ Ln, l.length = Ln := ⟨_, rfl⟩
 have htk : ∀ n, n ≤ H → num (l.take n) = v / 2 ^ (H - n) := fun n hn => by rw [← hv]; exact take_num hn (by omega)
 have AH : Aside (Mp w M kk G ∧ Laidm ls ls.length G ∧ Br w b (nm l) l.length ∧ Told ls l s how k ∧ (∀ x ∈ ls, x ≤ 15) ∧ min l.length 15 = H ∧ (∀ n, n ≤ H → num (l.take n) = v / 2 ^ (H - n)) ∧ v < 2 ^ H ∧ l.length = Ln) := ⟨hG, hLd, hb, ht, h15, hH, htk, by rw [← hv]; have := num_lt (l.take H); rw [List.length_take, show min H l.length = H by omega] at this; exact this, hLn⟩
 rw [hLn] at hheld
 have hH15 : H ≤ 15 := by omega
 have hmin : (if (15 : Int) < (Ln : Int) then (15 : Int) else (Ln : Int)) = (H : Int) := by split <;> omega
 have hmin2 : (if (Ln : Int) < (15 : Int) then (Ln : Int) else (15 : Int)) = (H : Int) := by split <;> omega
 have AK : Aside (part ls 15 ≤ 32768) := hk
 clear ht2 hG hLd hb ht h15 hH htk hv hx hLn hcl hvb hk
 go_enter Tryz.func118, Tryz.ntmps118
 go_upto_region 6 with (go_at_call 132; refine hheld.mono ?_; rintro e2 w2 ⟨rfl, rfl⟩)
 clear hheld hmin hmin2
 go_upto_region 9 with (first
  | (go_at_call 84; refine hpeek.mono ?_; rintro e3 w3 ⟨rfl, rfl⟩)
  | (go_at_call 133; refine hrev.mono ?_; rintro e4 w4 ⟨rfl, rfl⟩))
 clear hpeek hrev
 go_loopg [30] (H + 1) (fun gg si wr => ∃ n : Nat, si = .int .i64 (n : Int) ∧ Aside (n + gg = H + 1 ∧ Drawn w wr ∧ ∀ j, j < n → G j (num (l.take j)) = some (-1)))
 case atStart => exact ⟨0, rfl, by omega, Drawn.refl _, fun j hj => by omega⟩
 case round =>
  obtain ⟨n, rfl, hI⟩ := hrel
  by_cases hn : n ≤ H
  ·have hnI : (n : Int) < (H : Int) + 1 := by omega
   have hnH : (n : Int) ≤ (H : Int) := by omega
   obtain ⟨y, hy⟩ : ∃ y, v / 2 ^ (H - n) = y := ⟨_, rfl⟩
   have hvb : v < 4294967296 := by have := AH.out.2.2.2.2.2.2.2.1; have h2 : 2 ^ H ≤ 2 ^ 15 := Nat.pow_le_pow_right (by decide) hH15; omega
   have hyb : y < 4294967296 := by rw [← hy]; exact Nat.lt_of_le_of_lt (Nat.div_le_self _ _) hvb
   have hyI : (v : Int) / 2 ^ (H - n) = (y : Int) := by rw [← hy]; push_cast; rfl
   obtain ⟨r, hr⟩ : ∃ r, G n y = r := ⟨_, rfl⟩
   obtain ⟨q, hq⟩ := hI.out.2.1
   have hlook : ∀ j, (Instr.lookup 185 (.map (some M)) (.agg #[.int .u32 (n : Int), .int .u32 (y : Int)]) true).run Tryz.prog (wr.drewN j) = .ok (.tuple #[.int .i64 (r.getD 0), .bool r.isSome]) (wr.drewN j) := fun j =>
    run_look (wr.drewN j) M kk n y G (by rw [hq]; exact AH.out.1) (by omega) hyb r hr
   have cT1r : wr.cell? ⟨T, 1, none⟩ = some (.map (some M)) := by rw [hq]; exact cT1
   have htn : num (l.take n) = y := by rw [← hy]; exact AH.out.2.2.2.2.2.2.1 n hn
   have AY : Aside (G n y = r ∧ num (l.take n) = y ∧ n ≤ H) := ⟨hr, htn, hn⟩
   clear hq hr hy htn hn
   go_upto_region 11 with fail
   go_quiet (fail)
   have hdr : Aside (Drawn w (wr.drewN nq)) := hI.out.2.1.drewN nq
   obtain ⟨w5, hw5⟩ : ∃ w5, wr.drewN nq = w5 := ⟨_, rfl⟩
   rw [hw5] at hdr ⊢
   clear hw5 cT1r hlook
   cases r with
   | none =>
    go_wp2_with fail
    first | go_ret | go_ret2
    have a := AH.out
    have y := AY.out
    have hbd := a.2.1.bad (l := l) (n := n) (by omega) hI.out.2.2 (by rw [y.2.1]; exact y.1)
    obtain ⟨rfl, rfl, rfl⟩ := told_bad AK.out a.2.2.2.2.1 a.2.2.2.1 hbd.1 hbd.2
    refine ⟨rfl, ?_, But.drawn hdr.out⟩
    obtain ⟨q, hq⟩ := hdr.out
    rw [hq]
    exact a.2.2.1.drewN q
   | some z =>
    by_cases hz : z = -1
    ·subst hz
     go_wp2_with fail
     go_roundg (H - n)
     case measure => have := hI.out.1; have := AY.out.2.2; omega
     case rel =>
      refine ⟨n + 1, by go_num, by have := AY.out.2.2; omega, hdr.out, fun j hj => ?_⟩
      rcases (show j < n ∨ j = n by omega) with h | rfl
      ·exact hI.out.2.2 j h
      ·rw [AY.out.2.1]; exact AY.out.1
    ·have hzb : (z == -1) = false := beq_eq_false_iff_ne.2 hz
     have a := AH.out
     have y1 := AY.out
     obtain ⟨s0, rfl, hh⟩ := a.2.1.hit (l := l) (n := n) (v := z) (by omega) (by rw [y1.2.1]; exact y1.1) hz
     obtain ⟨rfl, rfl, rfl⟩ := told_hit a.2.2.2.1 hh
     have hbr : Br w5 b (nm l) l.length := by obtain ⟨q, hq⟩ := hdr.out; rw [hq]; exact a.2.2.1.drewN q
     have htake := take_yes b (nm l) l.length k w5 hbr (by omega) (by omega)
     clear a y1 hh hbr hz
     go_wp2_with (go_at_call 58; refine htake.mono ?_; rintro e6 w6 ⟨rfl, hb6, ho6⟩)
     first | go_ret | go_ret2
     refine ⟨rfl, ?_, (But.drawn hdr.out).only ho6⟩
     rw [nm_drop, List.length_drop]
     exact hb6
  ·have hn1 : n = H + 1 := by have := hI.out.1; omega
   subst hn1
   have hni : ¬ ((H + 1 : Nat) : Int) < (H : Int) + 1 := by omega
   clear hn
   go_wp2_with fail
   first | go_ret | go_ret2
   have a := AH.out
   have hm := a.2.1.more a.2.2.2.2.1 (l := l) (n := H) a.2.2.2.2.2.1.symm (fun j hj => hI.out.2.2 j (by omega))
   obtain ⟨rfl, rfl, rfl⟩ := told_more AK.out a.2.2.2.2.1 a.2.2.2.1 hm.2.1 hm.2.2
   refine ⟨rfl, ?_, But.drawn hI.out.2.1⟩
   obtain ⟨q, hq⟩ := hI.out.2.1
   rw [hq]
   exact a.2.2.1.drewN q
theorem new_err (a : Option Addr) (zs : List Int) (L C e0 : Nat) (w : World) (h : Lens w a zs) (hL : zs.length = L) (hLb : L < 140737488355328) (he : nerr zs = e0) (h0 : e0 ≠ 0) :
  Calls Tryz.prog 88 #[.slice a L C] w fun e w' => e = .returned (.tuple #[.pointer none, .int .i64 (e0 : Int)]) ∧ Below w.heap.size w w' := by
 by_cases hok : Okl zs
 ·exact new_room a zs L C e0 w h hL hLb hok he h0
 ·have : e0 = 2 := by rw [← he]; unfold nerr; rw [if_pos hok]
  subst this
  exact new_arg a zs L C w h hL hLb hok
end Go.Proofs.YtpihipbeagpgpaaGreatDoor

/-
 Lists of bytes: the last ones of a list, what a copy does to a row, a row that goes round, and the bytes at the end again and again.
-/
namespace Go.Proofs.YtpihipbeagpgpaaGreatDoor
set_option linter.unusedVariables false
def gfwd (N x n : Nat) : Nat := if x + n < N then x + n else x + n - N
def gbck (N x d : Nat) : Nat := if d ≤ x then x - d else x + N - d
theorem gfwd_spec (N x n : Nat) : (x + n < N ∧ gfwd N x n = x + n) ∨ (N ≤ x + n ∧ gfwd N x n = x + n - N) := by unfold gfwd; split <;> omega
theorem gbck_spec (N x d : Nat) : (d ≤ x ∧ gbck N x d = x - d) ∨ (x < d ∧ gbck N x d = x + N - d) := by unfold gbck; split <;> omega
theorem gfwd_lt {N x n : Nat} (h : x < N) (h2 : n ≤ N) : gfwd N x n < N := by unfold gfwd; split <;> omega
theorem gbck_lt {N x d : Nat} (h1 : x < N) (h2 : 1 ≤ d) (h3 : d ≤ N) : gbck N x d < N := by unfold gbck; split <;> omega
def glastN (N : Nat) (l : List Int) : List Int := l.drop (l.length - N)
theorem glastN_length (N : Nat) (l : List Int) : (glastN N l).length = min l.length N := by simp [glastN]; omega
theorem glastN_two (N : Nat) (l xs ys : List Int) : glastN N (glastN N (l ++ xs) ++ ys) = glastN N (l ++ xs ++ ys) := by
 apply List.ext_getElem?
 intro i
 simp only [glastN, List.getElem?_drop, List.getElem?_append, List.length_append, List.length_drop]
 by_cases h : l.length + xs.length ≤ N
 ·simp only [show l.length + xs.length - N = 0 by omega, Nat.sub_zero, Nat.zero_add]
 ·have e0 : l.length + xs.length - (l.length + xs.length - N) = N := by omega
  simp only [e0]
  have e1 : N + ys.length - N + i = ys.length + i := by omega
  have e2 : l.length + xs.length + ys.length - N + i = l.length + xs.length - N + (ys.length + i) := by omega
  simp only [e1, e2]
  by_cases c : ys.length + i < N
  ·have c2 : l.length + xs.length - N + (ys.length + i) < l.length + xs.length := by omega
   rw [if_pos c, if_pos c2]
  ·have c2 : ¬ l.length + xs.length - N + (ys.length + i) < l.length + xs.length := by omega
   rw [if_neg c, if_neg c2]
   congr 1; omega
theorem gsplice_get {α : Type} (l cs : List α) (off i : Nat) (h : off + cs.length ≤ l.length) : (splice l off cs)[i]? = if off ≤ i ∧ i < off + cs.length then cs[i - off]? else l[i]? := by
 unfold splice
 rw [List.getElem?_append, List.length_take, Nat.min_eq_left (by omega), List.getElem?_append, List.getElem?_take, List.getElem?_drop]
 by_cases c1 : i < off
 ·rw [if_pos c1, if_pos c1, if_neg (by omega)]
 ·rw [if_neg c1]
  by_cases c2 : i < off + cs.length
  ·rw [if_pos (by omega), if_pos (by omega)]
  ·rw [if_neg (by omega), if_neg (by omega)]
   congr 1; omega
def GHolds (N x : Nat) (cs l : List Int) : Prop := ∀ d, 1 ≤ d → d ≤ l.length → cs[gbck N x d]? = l[l.length - d]?
theorem gholds_nil (N x : Nat) (cs : List Int) : GHolds N x cs [] := fun d h1 h2 => by simp at h2; omega
theorem gin_get {N x : Nat} {cs ys : List Int} (hc : cs.length = N) (hx : x < N) (hm : ys.length ≤ N) (q : Nat) (hq : q = min ys.length (N - x)) (p : Nat) (hp : p < N) :
  (splice (splice cs x (ys.take q)) 0 (ys.drop q))[p]? = if x ≤ p ∧ p < x + ys.length then ys[p - x]? else if p + N < x + ys.length then ys[p + N - x]? else cs[p]? := by
 have l1 : (ys.take q).length = q := by rw [List.length_take]; omega
 have l2 : (ys.drop q).length = ys.length - q := List.length_drop
 rw [gsplice_get _ _ _ _ (by rw [length_splice _ _ _ (by omega)]; omega), gsplice_get _ _ _ _ (by omega), l1, l2, List.getElem?_take, List.getElem?_drop]
 by_cases c1 : x ≤ p ∧ p < x + ys.length
 ·rw [if_pos c1, if_neg (by omega), if_pos (by omega), if_pos (by omega)]
 ·rw [if_neg c1]
  by_cases c2 : p + N < x + ys.length
  ·rw [if_pos c2, if_pos (by omega)]
   congr 1; omega
  ·rw [if_neg c2, if_neg (by omega), if_neg (by omega)]
theorem gin_holds {N x : Nat} {cs l ys : List Int} (hh : GHolds N x cs l) (hc : cs.length = N) (hx : x < N) (hl : l.length ≤ N) (hm : ys.length ≤ N) (q : Nat) (hq : q = min ys.length (N - x)) :
  GHolds N (gfwd N x ys.length) (splice (splice cs x (ys.take q)) 0 (ys.drop q)) (glastN N (l ++ ys)) := by
 intro d h1 h2
 have hlen := glastN_length N (l ++ ys)
 rw [List.length_append] at hlen
 have hp := gbck_lt (gfwd_lt hx hm) h1 (by omega : d ≤ N)
 rw [gin_get hc hx hm q hq _ hp, hlen]
 have e : (glastN N (l ++ ys))[min (l.length + ys.length) N - d]? = (l ++ ys)[l.length + ys.length - d]? := by
  unfold glastN
  rw [List.getElem?_drop, List.length_append]
  congr 1; omega
 rw [e, List.getElem?_append]
 have s1 := gfwd_spec N x ys.length
 have s2 := gbck_spec N (gfwd N x ys.length) d
 by_cases c : d ≤ ys.length
 ·have c0 : ¬ l.length + ys.length - d < l.length := by omega
  rw [if_neg c0]
  by_cases c1 : x + (ys.length - d) < N
  ·have c2 : x ≤ gbck N (gfwd N x ys.length) d ∧ gbck N (gfwd N x ys.length) d < x + ys.length := by omega
   rw [if_pos c2]
   congr 1; omega
  ·have c2 : ¬ (x ≤ gbck N (gfwd N x ys.length) d ∧ gbck N (gfwd N x ys.length) d < x + ys.length) := by omega
   have c3 : gbck N (gfwd N x ys.length) d + N < x + ys.length := by omega
   rw [if_neg c2, if_pos c3]
   congr 1; omega
 ·have s3 := gbck_spec N x (d - ys.length)
  have := hh (d - ys.length) (by omega) (by omega)
  have c0 : l.length + ys.length - d < l.length := by omega
  have hb : gbck N (gfwd N x ys.length) d = gbck N x (d - ys.length) := by omega
  have c2 : ¬ (x ≤ gbck N x (d - ys.length) ∧ gbck N x (d - ys.length) < x + ys.length) := by omega
  have c3 : ¬ gbck N x (d - ys.length) + N < x + ys.length := by omega
  rw [if_pos c0, hb, if_neg c2, if_neg c3, this]
  congr 1; omega
theorem gset_splice (cs : List Int) (x : Nat) (z : Int) (h : x < cs.length) : cs.set x z = splice cs x [z] := by
 apply List.ext_getElem?
 intro i
 rw [gsplice_get cs [z] x i (by simp; omega)]
 by_cases c : x = i
 ·subst c
  rw [if_pos (by simp)]
  simp [h]
 ·rw [if_neg (by simp; omega), List.getElem?_set_ne c]
theorem gput_holds {N x : Nat} {cs l : List Int} (hh : GHolds N x cs l) (hc : cs.length = N) (hx : x < N) (hl : l.length ≤ N) (z : Int) : GHolds N (gfwd N x 1) (cs.set x z) (glastN N (l ++ [z])) := by
 have := gin_holds (ys := [z]) hh hc hx hl (by simp; omega) 1 (by simp; omega)
 rw [gset_splice _ _ _ (by omega)]
 simpa [splice] using this
end Go.Proofs.YtpihipbeagpgpaaGreatDoor

/-
 What New, Len, Size, Clear, move, cell, Put and Back of the ring come to: at a window that is nil, and at one in memory.
 Conditions: none at a nil window; a window in memory has a size from 1 to 32768, its next cell and its count fit the size, and each method keeps that.
-/
namespace Go.Proofs.YtpihipbeagpgpaaGreatDoor
open Go.RowKit

def gvb (l : List Int) : List Value := l.map (Value.int .u8)
theorem gvb_get (l : List Int) (i : Nat) : (gvb l)[i]? = l[i]?.map (Value.int .u8) := by simp [gvb]
theorem ginfo5 : (Tryz.prog.info? 5).map (fun i => (i.zero, i.size, i.bytes)) = some (some (.int .u8 0), 1, 1) := by kernel_rfl
theorem ginfo_parts {P : Program} {t : TypeId} {z : Value} {n m : Nat} (h : (P.info? t).map (fun i => (i.zero, i.size, i.bytes)) = some (some z, n, m)) :
  ∃ i, P.info? t = some i ∧ i.zero = some z ∧ i.size = n ∧ i.bytes = m := by
 cases hq : P.info? t with
 | none => simp [hq] at h
 | some i => simp [hq] at h; exact ⟨i, rfl, h.1, h.2.1, h.2.2⟩
theorem gmade (n : Nat) (hn : n ≤ 1048576) (w : World) : (Instr.makeSlice 22 (.int .i64 (n : Int)) (.int .i64 (n : Int))).run Tryz.prog w = .ok (.slice (some ⟨w.heap.size, 0, none⟩) n n) (w.alloc (.cells (gvb (List.replicate n 0)).toArray 5)) := by
 obtain ⟨i, hi, hz, hs, hb⟩ := ginfo_parts ginfo5
 have := run_make (P := Tryz.prog) w 22 5 i _ Tryz.underlying22 hi hz .i64 .i64 n n (by omega) (by omega) (by rw [hb]; omega) (by omega)
 rw [this, hs]
 have e : madeCells (Value.int .u8 0).cells ((n : Int).toNat * 1) = (gvb (List.replicate n 0)).toArray := by
  apply Array.toList_inj.1
  show (madeCells #[Value.int .u8 0] _).toList = _
  rw [toList_madeCells_one]
  simp [gvb]
 rw [e]
 simp

structure GTwo (a b : Nat) (w w' : World) : Prop where
 os : w'.os = w.os
 tape : w'.tape = w.tape
 output : w'.output = w.output
 size : w'.heap.size = w.heap.size
 block : ∀ k, k ≠ a → k ≠ b → w'.heap[k]? = w.heap[k]?
section
variable {a b : Nat} {w u v : World}
theorem GTwo.trans (h : GTwo a b w u) (k : GTwo a b u v) : GTwo a b w v :=
 ⟨k.os.trans h.os, k.tape.trans h.tape, k.output.trans h.output, k.size.trans h.size, fun i h1 h2 => (k.block i h1 h2).trans (h.block i h1 h2)⟩
theorem GTwo.fst (h : Only a w u) : GTwo a b w u := ⟨h.os, h.tape, h.output, h.size, fun i h1 _ => h.block i h1⟩
theorem GTwo.snd (h : Only b w u) : GTwo a b w u := ⟨h.os, h.tape, h.output, h.size, fun i _ h2 => h.block i h2⟩
end

structure GLo (w : World) (H K N x h : Nat) (cs : List Int) : Prop where
 hd : Cells w H #[.slice (some ⟨K, 0, none⟩) N N, .int .i64 (x : Int), .int .i64 (h : Int)] 113
 row : Cells w K (gvb cs).toArray 5
 len : cs.length = N
 n1 : 1 ≤ N
 n2 : N ≤ 32768
 xlt : x < N
 hle : h ≤ N
 ne : H ≠ K
section
variable {w u : World} {H K N x h : Nat} {cs : List Int}
theorem GLo.drewN (l : GLo w H K N x h cs) (n : Nat) : GLo (w.drewN n) H K N x h cs := ⟨l.hd, l.row, l.len, l.n1, l.n2, l.xlt, l.hle, l.ne⟩
theorem GLo.drew (l : GLo w H K N x h cs) : GLo w.drew H K N x h cs := ⟨l.hd, l.row, l.len, l.n1, l.n2, l.xlt, l.hle, l.ne⟩
theorem GLo.only {c : Nat} (l : GLo w H K N x h cs) (k : Only c w u) (h1 : H ≠ c) (h2 : K ≠ c) : GLo u H K N x h cs := ⟨l.hd.only k h1, l.row.only k h2, l.len, l.n1, l.n2, l.xlt, l.hle, l.ne⟩
theorem GLo.below {B : Nat} (l : GLo w H K N x h cs) (k : Below B w u) (h1 : H < B) (h2 : K < B) : GLo u H K N x h cs := ⟨l.hd.below k h1, l.row.below k h2, l.len, l.n1, l.n2, l.xlt, l.hle, l.ne⟩
theorem GLo.c0 (l : GLo w H K N x h cs) : w.cell? ⟨H, 0, none⟩ = some (.slice (some ⟨K, 0, none⟩) N N) := (l.hd.cell 0).trans rfl
theorem GLo.c1 (l : GLo w H K N x h cs) : w.cell? ⟨H, 1, none⟩ = some (.int .i64 (x : Int)) := (l.hd.cell 1).trans rfl
theorem GLo.c2 (l : GLo w H K N x h cs) : w.cell? ⟨H, 2, none⟩ = some (.int .i64 (h : Int)) := (l.hd.cell 2).trans rfl
theorem GLo.set (l : GLo w H K N x h cs) (x' h' : Nat) (hx : x' < N) (hh : h' ≤ N) : GLo ((w.setCell ⟨H, 1, none⟩ (.int .i64 (x' : Int))).setCell ⟨H, 2, none⟩ (.int .i64 (h' : Int))) H K N x' h' cs := by
 refine ⟨?_, ?_, l.len, l.n1, l.n2, hx, hh, l.ne⟩
 ·exact ((l.hd.set 1 _).set 2 _)
 ·exact l.row.only (((Only.refl H w).setCell 1 _).setCell 2 _) l.ne.symm
end

theorem gnew_yes (n : Nat) (w : World) (h1 : 1 ≤ n) (h2 : n ≤ 32768) : Calls Tryz.prog 43 #[.int .i64 n] w fun e w' => e = .returned (.tuple #[.pointer (some ⟨w.heap.size + 1, 0, none⟩), .int .i64 0]) ∧
  GLo w' (w.heap.size + 1) w.heap.size n 0 0 (List.replicate n 0) ∧ Below w.heap.size w w' ∧ w'.heap.size = w.heap.size + 2 := by
 have e1 : ¬ (n : Int) < 1 := by omega
 have e2 : ¬ (32768 : Int) < n := by omega
 have hm := gmade n (by omega) w
 generalize hcs : (gvb (List.replicate n 0)).toArray = cs at hm
 go_enter Tryz.func43, Tryz.ntmps43
 go_wp2
 go_ret2
 refine ⟨rfl, ⟨?_, ?_, by simp, h1, h2, h1, Nat.zero_le _, by omega⟩, ?_, ?_⟩
 ·have := Cells.new (w.alloc (.cells cs 5)) #[.slice (some ⟨w.heap.size, 0, none⟩) n n, .int .i64 0, .int .i64 0] 113
  simpa using this
 ·rw [hcs]
  exact (Cells.new w cs 5).alloc _
 ·exact ((Below.refl _ _).alloc (Nat.le_refl _) _).alloc (by simp) _
 ·simp
theorem glen_c {H K N x h : Nat} {cs : List Int} (w : World) (l : GLo w H K N x h cs) : Calls Tryz.prog 145 #[.pointer (some ⟨H, 0, none⟩)] w fun e w' => e = .returned (.int .i64 (h : Int)) ∧ w = w' := by
 have h2 := l.c2
 go_enter Tryz.func145, Tryz.ntmps145
 go_wp2
 go_ret
 exact ⟨rfl, rfl⟩
theorem gsize_c {H K N x h : Nat} {cs : List Int} (w : World) (l : GLo w H K N x h cs) : Calls Tryz.prog 134 #[.pointer (some ⟨H, 0, none⟩)] w fun e w' => e = .returned (.int .i64 (N : Int)) ∧ w = w' := by
 have h2 := l.c0
 go_enter Tryz.func134, Tryz.ntmps134
 go_wp2
 go_ret
 exact ⟨rfl, rfl⟩
theorem gclear_c {H K N x h : Nat} {cs : List Int} (w : World) (l : GLo w H K N x h cs) : Calls Tryz.prog 156 #[.pointer (some ⟨H, 0, none⟩)] w fun e w' => e = .returned (.tuple #[]) ∧ GLo w' H K N 0 0 cs ∧ Only H w w' := by
 have h1 := l.c1
 have h2 := l.c2
 have h3 := l.hd.frozen 1
 have h4 := l.hd.frozen 2
 go_enter Tryz.func156, Tryz.ntmps156
 go_wp2
 first | go_end0 | (refine bodyPost_ret (results_none rfl _ _ _) rfl ?_)
 exact ⟨rfl, l.set 0 0 l.n1 (Nat.zero_le _), ((Only.refl _ _).setCell _ _).setCell _ _⟩
theorem gmin_i (h n N : Nat) : (if (N : Int) < (h : Int) + n then (N : Int) else (h : Int) + n) = ((min (h + n) N : Nat) : Int) := by
 split <;> omega
theorem gmove_c {H K N x h : Nat} {cs : List Int} (n : Nat) (w : World) (l : GLo w H K N x h cs) (hn : n ≤ N) : Calls Tryz.prog 135 #[.pointer (some ⟨H, 0, none⟩), .int .i64 (n : Int)] w fun e w' => e = .returned (.tuple #[]) ∧ GLo w' H K N (gfwd N x n) (min (h + n) N) cs ∧ Only H w w' := by
 have h0 := l.c0
 have h1 := l.c1
 have h2 := l.c2
 have h3 := l.hd.frozen 1
 have h4 := l.hd.frozen 2
 have n2 := l.n2
 have xlt := l.xlt
 have hle := l.hle
 have hfl := gfwd_lt xlt hn
 go_enter Tryz.func135, Tryz.ntmps135
 by_cases hf : x + n < N
 ·have hf1 : ¬ (N : Int) ≤ (x : Int) + n := by omega
  have hfw : gfwd N x n = x + n := by unfold gfwd; rw [if_pos hf]
  go_wp2_with fail
  go_quiet (fail)
  go_wp2_with fail
  go_region
  go_end0
  rw [gmin_i]
  refine ⟨rfl, ⟨?_, l.row.only ((((Only.refl H w).setCell 1 _).drewN _).setCell 2 _) l.ne.symm, l.len, l.n1, l.n2, hfl, Nat.min_le_right _ _, l.ne⟩, (((Only.refl H w).setCell 1 _).drewN _).setCell 2 _⟩
  rw [hfw]
  exact (((l.hd.set 1 (.int .i64 ((x : Int) + n))).drewN _).set 2 _)
 ·have hf1 : (N : Int) ≤ (x : Int) + n := by omega
  have hfw : ((gfwd N x n : Nat) : Int) = (x : Int) + n - N := by unfold gfwd; rw [if_neg hf]; omega
  go_wp2_with fail
  go_quiet (fail)
  go_wp2_with fail
  go_region
  go_wp2_with fail
  go_region
  go_end0
  rw [gmin_i]
  refine ⟨rfl, ⟨?_, l.row.only ((((((Only.refl H w).setCell 1 _).drewN _).setCell 1 _).drewN _).setCell 2 _) l.ne.symm, l.len, l.n1, l.n2, hfl, Nat.min_le_right _ _, l.ne⟩, (((((Only.refl H w).setCell 1 _).drewN _).setCell 1 _).drewN _).setCell 2 _⟩
  rw [hfw]
  exact (((((l.hd.set 1 (.int .i64 ((x : Int) + n))).drewN _).set 1 (.int .i64 ((x : Int) + n - N))).drewN _).set 2 _)
theorem gcell_c {H K N x h : Nat} {cs : List Int} (d : Nat) (w : World) (l : GLo w H K N x h cs) (hd : d ≤ N) : Calls Tryz.prog 162 #[.pointer (some ⟨H, 0, none⟩), .int .i64 (d : Int)] w fun e w' => e = .returned (.int .i64 ((gbck N x d : Nat) : Int)) ∧ w' = w := by
 have h0 := l.c0
 have h1 := l.c1
 have n2 := l.n2
 have xlt := l.xlt
 go_enter Tryz.func162, Tryz.ntmps162
 by_cases hf : d ≤ x
 ·have hf1 : ¬ (x : Int) - d < 0 := by omega
  have hb : ((gbck N x d : Nat) : Int) = (x : Int) - d := by unfold gbck; rw [if_pos hf]; omega
  go_wp2_with fail
  go_ret
  exact ⟨by first | rfl | (rw [hb]; rfl), rfl⟩
 ·have hf1 : (x : Int) - d < 0 := by omega
  have hb : ((gbck N x d : Nat) : Int) = (x : Int) - d + N := by unfold gbck; rw [if_neg hf]; omega
  go_wp2_with fail
  go_ret
  exact ⟨by first | rfl | (rw [hb]; rfl), rfl⟩
theorem Cells.gbyte {w : World} {b : Nat} {cs : List Int} (h : Cells w b (gvb cs).toArray 5) {i : Nat} {z : Int} (hi : cs[i]? = some z) : w.cell? ⟨b, i, none⟩ = some (.int .u8 z) := by
 rw [h.cell i, List.getElem?_toArray, gvb_get, hi]; rfl
theorem gvb_set (cs : List Int) (i : Nat) (z : Int) : (gvb cs).toArray.setIfInBounds i (.int .u8 z) = (gvb (cs.set i z)).toArray := by
 simp [gvb, List.map_set]
theorem gput_c {H K N x h : Nat} {cs : List Int} (z : Int) (w : World) (l : GLo w H K N x h cs) : Calls Tryz.prog 119 #[.pointer (some ⟨H, 0, none⟩), .int .u8 z] w fun e w' => e = .returned (.tuple #[]) ∧ GLo w' H K N (gfwd N x 1) (min (h + 1) N) (cs.set x z) ∧ GTwo H K w w' := by
 have h0 := l.c0
 have h1 := l.c1
 have n1 := l.n1
 have xlt := l.xlt
 have hx : x < cs.length := by rw [l.len]; exact xlt
 have hxi : (x : Int) < (N : Int) := by omega
 have hr := l.row.gbyte (List.getElem?_eq_getElem hx)
 have hrf := l.row.frozen x
 have hN0 : ((N : Int) == 0) = false := by simp; omega
 go_enter Tryz.func119, Tryz.ntmps119
 go_wp2_with fail
 refine (gsize_c _ l).mono ?_
 rintro e w' ⟨rfl, rfl⟩
 go_wp2_with fail
 go_region
 have ho : Only K w ((w.setCell ⟨K, x, none⟩ (.int .u8 z)).drewN 1) := ((Only.refl K w).setCell x _).drewN 1
 have l2 : GLo ((w.setCell ⟨K, x, none⟩ (.int .u8 z)).drewN 1) H K N x h (cs.set x z) := by
  refine ⟨l.hd.only ho l.ne, ?_, by rw [List.length_set]; exact l.len, l.n1, l.n2, l.xlt, l.hle, l.ne⟩
  have := (l.row.set x (.int .u8 z)).drewN 1
  rwa [gvb_set] at this
 clear h0 h1 hr hrf hN0
 go_wp2_with fail
 refine (gmove_c 1 _ l2 n1).mono ?_
 rintro e w' ⟨rfl, l3, ho3⟩
 go_wp2_with fail
 first | go_end0 | (refine bodyPost_ret (results_none rfl _ _ _) rfl ?_)
 exact ⟨rfl, l3, (GTwo.snd ho).trans (GTwo.fst ho3)⟩
theorem gback_yes {H K N x h : Nat} {cs : List Int} (d : Nat) (z : Int) (w : World) (l : GLo w H K N x h cs) (h1 : 1 ≤ d) (h2 : d ≤ h) (hz : cs[gbck N x d]? = some z) :
  Calls Tryz.prog 152 #[.pointer (some ⟨H, 0, none⟩), .int .i64 (d : Int)] w fun e w' => e = .returned (.tuple #[.int .u8 z, .bool true]) ∧ ∃ n, w' = w.drewN n := by
 have hle := l.hle
 have hd : d ≤ N := Nat.le_trans h2 hle
 have e1 : ¬ (d : Int) < 1 := by omega
 have e2 : ¬ (h : Int) < (d : Int) := by omega
 have hb := gbck_lt l.xlt h1 hd
 have hr := l.row.gbyte hz
 have hc := fun w' (l' : GLo w' H K N x h cs) => gcell_c d w' l' hd
 clear hz
 generalize gbck N x d = p at *
 have hpi : (p : Int) < (N : Int) := by omega
 have h0 := l.c0
 go_enter Tryz.func152, Tryz.ntmps152
 go_wp2_with fail
 refine (glen_c _ l).mono ?_
 rintro e w' ⟨rfl, rfl⟩
 go_wp2_with fail
 go_quiet ((first | (go_at_call 162; refine Calls.quiet_of_same (hc _ ?_); first | exact l.drewN _ | exact l | exact l.drew)))
 go_wp2_with fail
 go_ret2
 exact ⟨rfl, _, rfl⟩
end Go.Proofs.YtpihipbeagpgpaaGreatDoor

/-
 What Put, Back, Clear, Len, Size and Tail of the ring come to, at a window in memory that holds a list of bytes; and Same of two lists that are one.
 Conditions: the window has a size from 1 to 32768, and the list is not longer; each method keeps that.
-/
namespace Go.Proofs.YtpihipbeagpgpaaGreatDoor
open Go.RowKit
set_option linter.unusedVariables false

structure GRg (w : World) (H K N : Nat) (l : List Int) : Prop where
 ex : ∃ x cs, GLo w H K N x l.length cs ∧ GHolds N x cs l
section
variable {w u : World} {H K N : Nat} {l : List Int}
theorem GRg.drewN (r : GRg w H K N l) (n : Nat) : GRg (w.drewN n) H K N l := by obtain ⟨x, cs, lo, hh⟩ := r.ex; exact ⟨x, cs, lo.drewN n, hh⟩
theorem GRg.drew (r : GRg w H K N l) : GRg w.drew H K N l := by obtain ⟨x, cs, lo, hh⟩ := r.ex; exact ⟨x, cs, lo.drew, hh⟩
theorem GRg.only {c : Nat} (r : GRg w H K N l) (k : Only c w u) (h1 : H ≠ c) (h2 : K ≠ c) : GRg u H K N l := by obtain ⟨x, cs, lo, hh⟩ := r.ex; exact ⟨x, cs, lo.only k h1 h2, hh⟩
theorem GRg.below {B : Nat} (r : GRg w H K N l) (k : Below B w u) (h1 : H < B) (h2 : K < B) : GRg u H K N l := by obtain ⟨x, cs, lo, hh⟩ := r.ex; exact ⟨x, cs, lo.below k h1 h2, hh⟩
end
theorem gnew_r (n : Nat) (w : World) (h1 : 1 ≤ n) (h2 : n ≤ 32768) : Calls Tryz.prog 43 #[.int .i64 n] w fun e w' => e = .returned (.tuple #[.pointer (some ⟨w.heap.size + 1, 0, none⟩), .int .i64 0]) ∧
  GRg w' (w.heap.size + 1) w.heap.size n [] ∧ Below w.heap.size w w' ∧ w'.heap.size = w.heap.size + 2 :=
 (gnew_yes n w h1 h2).mono fun _ _ h => ⟨h.1, ⟨0, _, h.2.1, gholds_nil _ _ _⟩, h.2.2⟩
section
variable {H K N : Nat} {l : List Int}
theorem glen_r (w : World) (r : GRg w H K N l) : Calls Tryz.prog 145 #[.pointer (some ⟨H, 0, none⟩)] w fun e w' => e = .returned (.int .i64 (l.length : Int)) ∧ w = w' := by
 obtain ⟨x, cs, lo, hh⟩ := r.ex; exact glen_c w lo
theorem gclear_r (w : World) (r : GRg w H K N l) : Calls Tryz.prog 156 #[.pointer (some ⟨H, 0, none⟩)] w fun e w' => e = .returned (.tuple #[]) ∧ GRg w' H K N [] ∧ Only H w w' := by
 obtain ⟨x, cs, lo, hh⟩ := r.ex
 exact (gclear_c w lo).mono fun _ _ h => ⟨h.1, ⟨0, cs, h.2.1, gholds_nil _ _ _⟩, h.2.2⟩
theorem gput_r (z : Int) (w : World) (r : GRg w H K N l) : Calls Tryz.prog 119 #[.pointer (some ⟨H, 0, none⟩), .int .u8 z] w fun e w' => e = .returned (.tuple #[]) ∧ GRg w' H K N (glastN N (l ++ [z])) ∧ GTwo H K w w' := by
 obtain ⟨x, cs, lo, hh⟩ := r.ex
 refine (gput_c z w lo).mono fun _ _ h => ⟨h.1, ⟨_, _, ?_, gput_holds hh lo.len lo.xlt lo.hle z⟩, h.2.2⟩
 rw [glastN_length, List.length_append, List.length_singleton]
 exact h.2.1
theorem gback_r (d : Nat) (z : Int) (w : World) (r : GRg w H K N l) (h1 : 1 ≤ d) (h2 : d ≤ l.length) (hz : l[l.length - d]? = some z) :
  Calls Tryz.prog 152 #[.pointer (some ⟨H, 0, none⟩), .int .i64 (d : Int)] w fun e w' => e = .returned (.tuple #[.int .u8 z, .bool true]) ∧ ∃ n, w' = w.drewN n := by
 obtain ⟨x, cs, lo, hh⟩ := r.ex
 exact gback_yes d z w lo h1 h2 ((hh d h1 h2).trans hz)
end

end Go.Proofs.YtpihipbeagpgpaaGreatDoor

/-
 What deflated bytes give, as a machine of small steps over their bits: each step is done as soon as its last bit is there. No walk in this text.
-/
namespace Go.Proofs.YtpihipbeagpgpaaGreatDoor
set_option linter.unusedVariables false
def allb (B : List Nat) : List Bool := B.flatMap (bitsOf 8)
def num? (bs : List Bool) (p n : Nat) : Option Nat := if p + n ≤ bs.length then some (nm ((bs.drop p).take n)) else none
abbrev SR := Option ((Nat × Nat) ⊕ Nat)
abbrev SR.got (s n : Nat) : SR := some (.inl (s, n))
abbrev SR.bad (j : Nat) : SR := some (.inr j)
abbrev SR.cut : SR := none
theorem SR.el {motive : SR → Prop} (r : SR) (got : ∀ s n, motive (.got s n)) (bad : ∀ j, motive (.bad j)) (cut : motive .cut) : motive r :=
 match r with
 | some (.inl (s, n)) => got s n
 | some (.inr j) => bad j
 | none => cut
def hitb (ls : List Nat) (h : List Bool) (s : Nat) : Bool := match ls[s]? with
 | some n => decide (0 < n ∧ n ≤ h.length ∧ num (h.take n) = code ls s n)
 | none => false
def mayb (ls : List Nat) (h : List Bool) : Bool := (List.range ls.length).any fun s => match ls[s]? with
 | some n => decide (0 < n ∧ h.length ≤ n ∧ code ls s n / 2 ^ (n - h.length) = num h)
 | none => false
def sread (ls : List Nat) (h : List Bool) : SR := match (List.range ls.length).find? (hitb ls h) with
 | some s => .got s (ls.getD s 0)
 | none => match (List.range (h.length + 1)).find? (fun j => !mayb ls (h.take j)) with
  | some j => .bad j
  | none => .cut
theorem hitb_iff {ls : List Nat} {h : List Bool} {s : Nat} : hitb ls h s = true ↔ ∃ n, Hit ls h s n := by
 unfold hitb Hit
 cases e : ls[s]? with
 | none => simp
 | some n => simp
theorem mayb_iff {ls : List Nat} {h : List Bool} : mayb ls h = true ↔ May ls h := by
 unfold mayb May
 rw [List.any_eq_true]
 constructor
 ·rintro ⟨s, _, hs⟩
  cases e : ls[s]? with
  | none => rw [e] at hs; cases hs
  | some n => rw [e] at hs; have := of_decide_eq_true hs; exact ⟨s, n, e, this.1, this.2.1, this.2.2⟩
 ·rintro ⟨s, n, h1, h2, h3, h4⟩
  exact ⟨s, List.mem_range.2 (List.getElem?_eq_some_iff.1 h1).1, by rw [h1]; exact decide_eq_true ⟨h2, h3, h4⟩⟩
theorem sread_got {ls : List Nat} {h : List Bool} {s n : Nat} (hh : Hit ls h s n) : sread ls h = .got s n := by
 have hs := (List.getElem?_eq_some_iff.1 hh.1).1
 unfold sread
 cases e : (List.range ls.length).find? (hitb ls h) with
 | none =>
  have := List.find?_eq_none.1 e s (List.mem_range.2 hs)
  exact absurd (hitb_iff.2 ⟨n, hh⟩) this
 | some s' =>
  obtain ⟨n', h'⟩ := hitb_iff.1 (List.find?_some e)
  obtain ⟨rfl, rfl⟩ := hit_one h' hh
  simp only []
  rw [List.getD_eq_getElem?_getD, hh.1]; rfl
theorem find_range {p : Nat → Bool} {n j : Nat} (hj : j < n) (h1 : p j = true) (h2 : ∀ k, k < j → p k = false) : (List.range n).find? p = some j := by
 rw [List.find?_eq_some_iff_append]
 refine ⟨h1, List.range j, (List.range (n - (j + 1))).map (fun x => j + 1 + x), ?_, fun a ha => by rw [h2 a (List.mem_range.1 ha)]; rfl⟩
 have e : n = j + 1 + (n - (j + 1)) := by omega
 rw [e, List.range_add, List.range_succ]
 simp
theorem may_less {ls : List Nat} {h : List Bool} {k : Nat} (hm : May ls h) (hk : k ≤ h.length) : May ls (h.take k) := by
 obtain ⟨s, n, h1, h2, h3, h4⟩ := hm
 have hl : (h.take k).length = k := by rw [List.length_take]; omega
 refine ⟨s, n, h1, h2, by omega, ?_⟩
 have e := take_num (h := h) hk (Nat.le_refl _)
 rw [List.take_length] at e
 rw [hl, e, ← h4, Nat.div_div_eq_div_mul, ← Nat.pow_add, show n - h.length + (h.length - k) = n - k by omega]
theorem hit_may {ls : List Nat} {h : List Bool} {s n k : Nat} (hh : Hit ls h s n) (hk : k ≤ n) : May ls (h.take k) := by
 obtain ⟨h1, h2, h3, h4⟩ := hh
 have hl : (h.take k).length = k := by rw [List.length_take]; omega
 refine ⟨s, n, h1, h2, by omega, ?_⟩
 rw [hl, ← h4]
 exact (take_num hk h3).symm
theorem hit_take {ls : List Nat} {h : List Bool} {s n j : Nat} (hh : Hit ls h s n) (hj : n ≤ j) : Hit ls (h.take j) s n := by
 obtain ⟨h1, h2, h3, h4⟩ := hh
 exact ⟨h1, h2, by rw [List.length_take]; omega, by rw [List.take_take, Nat.min_eq_left hj]; exact h4⟩
theorem sread_no {ls : List Nat} {h : List Bool} (hn : ∀ s n, ¬ Hit ls h s n) : (List.range ls.length).find? (hitb ls h) = none := by
 rw [List.find?_eq_none]
 intro s _ hs
 obtain ⟨n, hh⟩ := hitb_iff.1 hs
 exact hn s n hh
theorem sread_bad {ls : List Nat} {h : List Bool} {j : Nat} (hj : j ≤ h.length) (h1 : ∀ s n, ¬ Hit ls (h.take j) s n) (h2 : ¬ May ls (h.take j)) (h3 : ∀ k, k < j → May ls (h.take k)) : sread ls h = .bad j := by
 have hn : ∀ s n, ¬ Hit ls h s n := by
  intro s n hh
  rcases Nat.lt_or_ge j n with hlt | hge
  ·exact h2 (hit_may hh (by omega))
  ·exact h1 s n (hit_take hh hge)
 unfold sread
 rw [sread_no hn]
 have : (List.range (h.length + 1)).find? (fun j => !mayb ls (h.take j)) = some j := find_range (by omega) (by
  cases e : mayb ls (h.take j)
  ·rfl
  ·exact absurd (mayb_iff.1 e) h2) (fun k hk => by rw [mayb_iff.2 (h3 k hk)]; rfl)
 simp only [this]
theorem sread_cut {ls : List Nat} {h : List Bool} (h1 : ∀ s n, ¬ Hit ls h s n) (h2 : May ls h) : sread ls h = .cut := by
 unfold sread
 rw [sread_no h1]
 have : (List.range (h.length + 1)).find? (fun j => !mayb ls (h.take j)) = none := by
  rw [List.find?_eq_none]
  intro j hj
  rw [mayb_iff.2 (may_less h2 (by have := List.mem_range.1 hj; omega))]
  simp
 simp only [this]
def lbase (s : Nat) : Nat := if s = 285 then 258 else (List.range (s - 257)).foldl (fun a i => a + 2 ^ (if 265 ≤ i + 257 then (i + 257 - 261) / 4 else 0)) 3
def lmore (s : Nat) : Nat := if s = 285 then 0 else if 265 ≤ s then (s - 261) / 4 else 0
def dbase (x : Nat) : Nat := (List.range x).foldl (fun a i => a + 2 ^ (if 4 ≤ i then (i - 2) / 2 else 0)) 1
def dmore (x : Nat) : Nat := if 4 ≤ x then (x - 2) / 2 else 0
def fixL : List Nat := (List.range 288).map fun i => if 256 ≤ i ∧ i < 280 then 7 else if 144 ≤ i ∧ i < 256 then 9 else 8
def fixD : List Nat := List.replicate 32 5
def ordr : List Nat := [16, 17, 18, 0, 8, 7, 9, 6, 10, 5, 11, 4, 12, 3, 13, 2, 14, 1, 15]
abbrev St := ((((Bool ⊕ Bool) ⊕ ((Bool × Nat) ⊕ (Bool × Nat))) ⊕ ((Bool ⊕ (Bool × Nat × Nat × Nat × Nat × List Nat)) ⊕ ((Bool × Nat × Nat × List Nat × List Nat) ⊕ (Bool × Nat × Nat × List Nat × List Nat × Nat)))) ⊕ ((((Bool × List Nat × List Nat) ⊕ (Bool × List Nat × List Nat × Nat)) ⊕ ((Bool × List Nat × List Nat × Nat) ⊕ (Bool × List Nat × List Nat × Nat × Nat))) ⊕ (((Bool × List Nat × List Nat × Nat × Nat) ⊕ Unit) ⊕ Nat)))
abbrev St.head (last : Bool) : St := .inl (.inl (.inl (.inl last)))
abbrev St.slen (last : Bool) : St := .inl (.inl (.inl (.inr last)))
abbrev St.snot (last : Bool) (l : Nat) : St := .inl (.inl (.inr (.inl (last, l))))
abbrev St.sraw (last : Bool) (n : Nat) : St := .inl (.inl (.inr (.inr (last, n))))
abbrev St.dnum (last : Bool) : St := .inl (.inr (.inl (.inl last)))
abbrev St.dfst (last : Bool) (a : Nat) (b : Nat) (c : Nat) (i : Nat) (first : List Nat) : St := .inl (.inr (.inl (.inr (last, a, b, c, i, first))))
abbrev St.dsym (last : Bool) (a : Nat) (b : Nat) (code : List Nat) (l : List Nat) : St := .inl (.inr (.inr (.inl (last, a, b, code, l))))
abbrev St.drep (last : Bool) (a : Nat) (b : Nat) (code : List Nat) (l : List Nat) (s : Nat) : St := .inl (.inr (.inr (.inr (last, a, b, code, l, s))))
abbrev St.sym (last : Bool) (lit : List Nat) (dist : List Nat) : St := .inr (.inl (.inl (.inl (last, lit, dist))))
abbrev St.lext (last : Bool) (lit : List Nat) (dist : List Nat) (s : Nat) : St := .inr (.inl (.inl (.inr (last, lit, dist, s))))
abbrev St.dist (last : Bool) (lit : List Nat) (dist : List Nat) (n : Nat) : St := .inr (.inl (.inr (.inl (last, lit, dist, n))))
abbrev St.dext (last : Bool) (lit : List Nat) (dist : List Nat) (n : Nat) (x : Nat) : St := .inr (.inl (.inr (.inr (last, lit, dist, n, x))))
abbrev St.copy (last : Bool) (lit : List Nat) (dist : List Nat) (n : Nat) (d : Nat) : St := .inr (.inr (.inl (.inl (last, lit, dist, n, d))))
abbrev St.done : St := .inr (.inr (.inl (.inr ())))
abbrev St.bad (why : Nat) : St := .inr (.inr (.inr why))
theorem St.el {motive : St → Prop} (s : St) (head : ∀ (last_ : Bool), motive (.head last_)) (slen : ∀ (last_ : Bool), motive (.slen last_)) (snot : ∀ (last_ : Bool) (l_ : Nat), motive (.snot last_ l_)) (sraw : ∀ (last_ : Bool) (n_ : Nat), motive (.sraw last_ n_)) (dnum : ∀ (last_ : Bool), motive (.dnum last_)) (dfst : ∀ (last_ : Bool) (a_ : Nat) (b_ : Nat) (c_ : Nat) (i_ : Nat) (first_ : List Nat), motive (.dfst last_ a_ b_ c_ i_ first_)) (dsym : ∀ (last_ : Bool) (a_ : Nat) (b_ : Nat) (code_ : List Nat) (l_ : List Nat), motive (.dsym last_ a_ b_ code_ l_)) (drep : ∀ (last_ : Bool) (a_ : Nat) (b_ : Nat) (code_ : List Nat) (l_ : List Nat) (s_ : Nat), motive (.drep last_ a_ b_ code_ l_ s_)) (sym : ∀ (last_ : Bool) (lit_ : List Nat) (dist_ : List Nat), motive (.sym last_ lit_ dist_)) (lext : ∀ (last_ : Bool) (lit_ : List Nat) (dist_ : List Nat) (s_ : Nat), motive (.lext last_ lit_ dist_ s_)) (dist : ∀ (last_ : Bool) (lit_ : List Nat) (dist_ : List Nat) (n_ : Nat), motive (.dist last_ lit_ dist_ n_)) (dext : ∀ (last_ : Bool) (lit_ : List Nat) (dist_ : List Nat) (n_ : Nat) (x_ : Nat), motive (.dext last_ lit_ dist_ n_ x_)) (copy : ∀ (last_ : Bool) (lit_ : List Nat) (dist_ : List Nat) (n_ : Nat) (d_ : Nat), motive (.copy last_ lit_ dist_ n_ d_)) (done : motive (.done)) (bad : ∀ (why_ : Nat), motive (.bad why_)) : motive s :=
 match s with
 | .inl (.inl (.inl (.inl last_))) => head last_
 | .inl (.inl (.inl (.inr last_))) => slen last_
 | .inl (.inl (.inr (.inl (last_, l_)))) => snot last_ l_
 | .inl (.inl (.inr (.inr (last_, n_)))) => sraw last_ n_
 | .inl (.inr (.inl (.inl last_))) => dnum last_
 | .inl (.inr (.inl (.inr (last_, a_, b_, c_, i_, first_)))) => dfst last_ a_ b_ c_ i_ first_
 | .inl (.inr (.inr (.inl (last_, a_, b_, code_, l_)))) => dsym last_ a_ b_ code_ l_
 | .inl (.inr (.inr (.inr (last_, a_, b_, code_, l_, s_)))) => drep last_ a_ b_ code_ l_ s_
 | .inr (.inl (.inl (.inl (last_, lit_, dist_)))) => sym last_ lit_ dist_
 | .inr (.inl (.inl (.inr (last_, lit_, dist_, s_)))) => lext last_ lit_ dist_ s_
 | .inr (.inl (.inr (.inl (last_, lit_, dist_, n_)))) => dist last_ lit_ dist_ n_
 | .inr (.inl (.inr (.inr (last_, lit_, dist_, n_, x_)))) => dext last_ lit_ dist_ n_ x_
 | .inr (.inr (.inl (.inl (last_, lit_, dist_, n_, d_)))) => copy last_ lit_ dist_ n_ d_
 | .inr (.inr (.inl (.inr ()))) => done 
 | .inr (.inr (.inr why_)) => bad why_
structure Cfg where
 st : St
 pos : Nat
 out : List Nat
 times : List Nat
def give (most : Nat) (k : St) (b p : Nat) (c : Cfg) : Cfg := if c.out.length < most then ⟨k, p, c.out ++ [b], c.times ++ [(p - 1) / 8]⟩ else ⟨.bad 62, p, c.out, c.times⟩
def mays (ls : List Nat) : Bool := decide (ls.length ≤ 320 ∧ (∀ l ∈ ls, l ≤ 15) ∧ kr ls ≤ 32768 ∧ ¬ Under ls)
def step (bs : List Bool) (most : Nat) (c : Cfg) : Option Cfg := match c.st with
 | .inl (.inl (.inl (.inl true))) => some ⟨.done, c.pos, c.out, c.times⟩
 | .inl (.inl (.inl (.inl false))) => (num? bs c.pos 3).map fun v => ⟨match v / 2 with
   | 0 => .slen (v % 2 == 1)
   | 1 => .sym (v % 2 == 1) fixL fixD
   | 2 => .dnum (v % 2 == 1)
   | _ => .bad 10, c.pos + 3, c.out, c.times⟩
 | .inl (.inl (.inl (.inr last))) => (num? bs ((c.pos + 7) / 8 * 8) 16).map fun v => ⟨.snot last v, (c.pos + 7) / 8 * 8 + 16, c.out, c.times⟩
 | .inl (.inl (.inr (.inl (last, l)))) => (num? bs c.pos 16).map fun m => ⟨if l + m = 65535 then .sraw last l else .bad 11, c.pos + 16, c.out, c.times⟩
 | .inl (.inl (.inr (.inr (last, 0)))) => some ⟨.head last, c.pos, c.out, c.times⟩
 | .inl (.inl (.inr (.inr (last, (n + 1))))) => (num? bs c.pos 8).map fun v => give most (.sraw last n) v (c.pos + 8) c
 | .inl (.inr (.inl (.inl last))) => (num? bs c.pos 14).map fun v => ⟨if 286 < 257 + v % 32 ∨ 30 < 1 + v / 32 % 32 then .bad 12 else .dfst last (257 + v % 32) (1 + v / 32 % 32) (4 + v / 1024) 0 (List.replicate 19 0), c.pos + 14, c.out, c.times⟩
 | .inl (.inr (.inl (.inr (last, a, b, k, i, first)))) => if i < k then (num? bs c.pos 3).map fun v => ⟨.dfst last a b k (i + 1) (first.set (ordr.getD i 0) v), c.pos + 3, c.out, c.times⟩
   else some ⟨if kr first = 32768 then .dsym last a b first [] else .bad 12, c.pos, c.out, c.times⟩
 | .inl (.inr (.inr (.inl (last, a, b, code, l)))) => if l.length < a + b then match sread code (bs.drop c.pos) with
    | none => none
    | some (.inr j) => some ⟨.bad 13, c.pos + j, c.out, c.times⟩
    | some (.inl (s, n)) => some ⟨if s < 16 then .dsym last a b code (l ++ [s]) else if s = 16 ∧ l = [] then .bad 12 else .drep last a b code l s, c.pos + n, c.out, c.times⟩
   else some ⟨if l.getD 256 0 = 0 ∨ mays (l.take a) = false ∨ mays (l.drop a) = false then .bad 12 else .sym last (l.take a) (l.drop a), c.pos, c.out, c.times⟩
 | .inl (.inr (.inr (.inr (last, a, b, code, l, s)))) => (num? bs c.pos (if s = 16 then 2 else if s = 17 then 3 else 7)).map fun v =>
   ⟨if a + b < l.length + ((if s = 18 then 11 else 3) + v) then .bad 12 else .dsym last a b code (l ++ List.replicate ((if s = 18 then 11 else 3) + v) (if s = 16 then l.getD (l.length - 1) 0 else 0)), c.pos + (if s = 16 then 2 else if s = 17 then 3 else 7), c.out, c.times⟩
 | .inr (.inl (.inl (.inl (last, lit, di)))) => match sread lit (bs.drop c.pos) with
   | none => none
   | some (.inr j) => some ⟨.bad 13, c.pos + j, c.out, c.times⟩
   | some (.inl (s, n)) => if s < 256 then some (give most (.sym last lit di) s (c.pos + n) c)
     else some ⟨if s = 256 then .head last else if 285 < s then .bad 13 else .lext last lit di s, c.pos + n, c.out, c.times⟩
 | .inr (.inl (.inl (.inr (last, lit, di, s)))) => (num? bs c.pos (lmore s)).map fun v => ⟨.dist last lit di (lbase s + v), c.pos + lmore s, c.out, c.times⟩
 | .inr (.inl (.inr (.inl (last, lit, di, n)))) => match sread di (bs.drop c.pos) with
   | none => none
   | some (.inr j) => some ⟨.bad 13, c.pos + j, c.out, c.times⟩
   | some (.inl (x, k)) => some ⟨if 29 < x then .bad 13 else .dext last lit di n x, c.pos + k, c.out, c.times⟩
 | .inr (.inl (.inr (.inr (last, lit, di, n, x)))) => (num? bs c.pos (dmore x)).map fun v => ⟨if c.out.length < dbase x + v then .bad 14 else .copy last lit di n (dbase x + v), c.pos + dmore x, c.out, c.times⟩
 | .inr (.inr (.inl (.inl (last, lit, di, 0, d)))) => some ⟨.sym last lit di, c.pos, c.out, c.times⟩
 | .inr (.inr (.inl (.inl (last, lit, di, (n + 1), d)))) => some (give most (.copy last lit di n d) (c.out.getD (c.out.length - d) 0) c.pos c)
 | .inr (.inr (.inl (.inr ()))) => none
 | .inr (.inr (.inr _)) => none
def Runk (bs : List Bool) (most : Nat) : Nat → Cfg → Cfg → Prop
 | 0, c, e => c = e
 | k + 1, c, e => ∃ d, step bs most c = some d ∧ Runk bs most k d e
def Runs (bs : List Bool) (most : Nat) (c e : Cfg) : Prop := ∃ k, Runk bs most k c e
theorem Runs.refl {bs : List Bool} {most : Nat} (c : Cfg) : Runs bs most c c := ⟨0, rfl⟩
theorem Runs.cons {bs : List Bool} {most : Nat} {c d e : Cfg} (h : step bs most c = some d) (r : Runs bs most d e) : Runs bs most c e := by
 obtain ⟨k, r⟩ := r
 exact ⟨k + 1, d, h, r⟩
theorem Runs.el {bs : List Bool} {most : Nat} {motive : ∀ c e : Cfg, Runs bs most c e → Prop} {c e : Cfg} (target : Runs bs most c e) (refl : ∀ c : Cfg, motive c c (Runs.refl c)) (cons : ∀ {c d e : Cfg} (h : step bs most c = some d) (r : Runs bs most d e), motive d e r → motive c e (Runs.cons h r)) : motive c e target := by
 obtain ⟨k, t⟩ := target
 induction k generalizing c with
 | zero =>
  have x : c = e := t
  subst x
  exact refl c
 | succ k ih =>
  obtain ⟨d, h, r⟩ := id t
  exact cons h ⟨k, r⟩ (ih r)
theorem Runs.cs {bs : List Bool} {most : Nat} {motive : ∀ c e : Cfg, Runs bs most c e → Prop} {c e : Cfg} (target : Runs bs most c e) (refl : ∀ c : Cfg, motive c c (Runs.refl c)) (cons : ∀ {c d e : Cfg} (h : step bs most c = some d) (r : Runs bs most d e), motive c e (Runs.cons h r)) : motive c e target := Runs.el (motive := motive) target refl (fun h r _ => cons h r)
theorem Runs.trans {bs : List Bool} {most : Nat} {c d e : Cfg} (h : Runs bs most c d) (k : Runs bs most d e) : Runs bs most c e := by
 induction h using Runs.el with
 | refl => exact k
 | cons h1 _ ih => exact .cons h1 (ih k)
theorem Runs.one {bs : List Bool} {most : Nat} {c d : Cfg} (h : step bs most c = some d) : Runs bs most c d := .cons h (.refl d)
theorem Runs.det {bs : List Bool} {most : Nat} {c d e : Cfg} (h : Runs bs most c d) (k : Runs bs most c e) (hd : step bs most d = none) (he : step bs most e = none) : d = e := by
 induction h using Runs.el with
 | refl =>
  cases k using Runs.cs with
  | refl => rfl
  | cons h1 _ => rw [hd] at h1; cases h1
 | cons h1 _ ih =>
  cases k using Runs.cs with
  | refl => rw [he] at h1; cases h1
  | cons h2 k2 =>
   rw [h1] at h2; cases h2
   exact ih k2 hd
end Go.Proofs.YtpihipbeagpgpaaGreatDoor

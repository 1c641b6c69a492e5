/-
  What each method of bits' Reader comes to, at a reader in memory that holds n bits, their number v.
  Conditions: n is at most 64, and v is below 2 to the n; each method keeps that.
-/
import Derived.Test.YtlmajiejapaegaaRead
import Derived.Test.YtlmajiejapaegaaArith
namespace Go.Proofs.Ytlmajiejapaegaa
open Go.RowKit

/-- Block b holds a reader of n bits, whose number is v. -/
structure Br (w : World) (b v n : Nat) : Prop where
  rd : Rd w b v n
  lt : v < 2 ^ n
  le : n ≤ 64
section
variable {w u : World} {b c v n : Nat}
theorem Br.drewN (h : Br w b v n) (k : Nat) : Br (w.drewN k) b v n := ⟨h.rd, h.lt, h.le⟩
theorem Br.drew (h : Br w b v n) : Br w.drew b v n := ⟨h.rd, h.lt, h.le⟩
theorem Br.only (h : Br w b v n) (k : Only c w u) (hb : b ≠ c) : Br u b v n := ⟨h.rd.only k hb, h.lt, h.le⟩
theorem Br.below {B : Nat} (h : Br w b v n) (k : Below B w u) (hb : b < B) : Br u b v n := ⟨h.rd.below k hb, h.lt, h.le⟩
theorem Br.alloc (h : Br w b v n) (o : Obj) : Br (w.alloc o) b v n := ⟨h.rd.alloc o, h.lt, h.le⟩
theorem Br.blt (h : Br w b v n) : b < w.heap.size := h.rd.lt
end
theorem new_b (w : World) : Calls Try.prog 16 #[] w fun e w' => e = .returned (.pointer (some ⟨w.heap.size, 0, none⟩)) ∧ Br w' w.heap.size 0 0 ∧ Below w.heap.size w w' ∧ w'.heap.size = w.heap.size + 1 :=
  (new_c w).mono fun _ _ h => ⟨h.1, ⟨h.2.1, by decide, by decide⟩, h.2.2⟩
theorem held_b (b v n : Nat) (w : World) (h : Br w b v n) : Calls Try.prog 19 #[.pointer (some ⟨b, 0, none⟩)] w fun e w' => e = .returned (.int .i64 n) ∧ w = w' :=
  held_c b v n w h.rd (by omega) (by have := h.le; omega)
theorem drop_b (b v n k : Nat) (w : World) (h : Br w b v n) (hk : k ≤ n) :
    Calls Try.prog 32 #[.pointer (some ⟨b, 0, none⟩), .int .u64 k] w fun e w' => e = .returned (.tuple #[]) ∧ Br w' b (v / 2 ^ k) (n - k) ∧ Only b w w' := by
  have h1 := h.rd.c0
  have h2 := h.rd.c1
  have h3 := h.rd.fz 0
  have h4 := h.rd.fz 1
  have h64 := h.le
  have hv := lt_word h.lt h.le
  go_enter Try.func32, Try.ntmps32
  go_wp2
  go_end0
  refine ⟨rfl, ⟨?_, div_lt v n k h.lt hk, by omega⟩, ?_⟩
  · have := (h.rd.set0 ((v : Int) / 2 ^ k)).set1 ((n : Int) - k)
    rw [div_nat] at this
    rw [show ((n - k : Nat) : Int) = (n : Int) - k by omega]
    simpa only [Int.toNat_natCast, div_nat] using this
  · exact ((Only.refl _ _).setCell _ _).setCell _ _
theorem put_no (b v n x : Nat) (w : World) (h : Br w b v n) (hn : 56 < n) :
    Calls Try.prog 20 #[.pointer (some ⟨b, 0, none⟩), .int .u8 x] w fun e w' => e = .returned (.bool false) ∧ w = w' := by
  have h2 := h.rd.c1
  have hn' : (56 : Int) < n := by omega
  go_enter Try.func20, Try.ntmps20
  go_wp2
  refine wp_scope_forward 0 rfl ?_
  go_wp2
  go_step3
  refine ⟨rfl, ?_⟩
  go_wp2
  rw [Exit.noGoto_ret]
  go_ret
  exact ⟨rfl, rfl⟩
theorem put_yes (b v n x : Nat) (w : World) (h : Br w b v n) (hn : n ≤ 56) (hx : x < 256) :
    Calls Try.prog 20 #[.pointer (some ⟨b, 0, none⟩), .int .u8 x] w fun e w' => e = .returned (.bool true) ∧ Br w' b (v + x * 2 ^ n) (n + 8) ∧ Only b w w' := by
  have h1 := h.rd.c0
  have h2 := h.rd.c1
  have h3 := h.rd.fz 0
  have h4 := h.rd.fz 1
  have hn' : ¬ (56 : Int) < n := by omega
  have hv := lt_word h.lt h.le
  go_enter Try.func20, Try.ntmps20
  go_wp2
  refine wp_scope_forward 0 rfl ?_
  go_wp2
  go_region
  go_wp2
  rw [jump_ret]
  go_ret
  refine ⟨rfl, ⟨?_, put_lt v n x h.lt hx, by omega⟩, ?_⟩
  · rw [or_put v n x h.lt hn hx]
    have := ((h.rd.set0 ((v + x * 2 ^ n : Nat) : Int)).set1 ((n : Int) + 8)).drew
    rw [show ((n + 8 : Nat) : Int) = (n : Int) + 8 by omega]
    exact this
  · exact (((Only.refl _ _).setCell _ _).setCell _ _).drew
/-- So many bits can be told: not below 0, not above 32, not above what is held. -/
def Can (k : Int) (n : Nat) : Prop := 0 ≤ k ∧ k ≤ 32 ∧ k ≤ n
theorem peek_no (b v n : Nat) (k : Int) (w : World) (h : Br w b v n) (hk : ¬ Can k n) :
    Calls Try.prog 28 #[.pointer (some ⟨b, 0, none⟩), .int .i64 k] w fun e w' => e = .returned (.tuple #[.int .u32 0, .bool false]) ∧ w = w' := by
  have h2 := h.rd.c1
  have h64 := h.le
  go_enter Try.func28, Try.ntmps28
  go_wp2
  refine wp_scope_forward 0 rfl ?_
  unfold Can at hk
  by_cases c1 : k < 0
  · go_wp2
    go_step3
    refine ⟨rfl, ?_⟩
    go_wp2
    rw [Exit.noGoto_ret]
    go_ret2
    exact ⟨rfl, rfl⟩
  · by_cases c2 : 32 < k
    · go_wp2
      go_step3
      refine ⟨rfl, ?_⟩
      go_wp2
      rw [Exit.noGoto_ret]
      go_ret2
      exact ⟨rfl, rfl⟩
    · have c3 : (n : Int) < k := by omega
      go_wp2
      go_step3
      refine ⟨rfl, ?_⟩
      go_wp2
      rw [Exit.noGoto_ret]
      go_ret2
      exact ⟨rfl, rfl⟩
theorem peek_yes (b v n k : Nat) (w : World) (h : Br w b v n) (hk : k ≤ 32) (hkn : k ≤ n) :
    Calls Try.prog 28 #[.pointer (some ⟨b, 0, none⟩), .int .i64 k] w fun e w' => e = .returned (.tuple #[.int .u32 ((v % 2 ^ k : Nat) : Int), .bool true]) ∧ w = w' := by
  have h1 := h.rd.c0
  have h2 := h.rd.c1
  have h64 := h.le
  have e1 : ¬ (k : Int) < 0 := by omega
  have e2 : ¬ (32 : Int) < k := by omega
  have e3 : ¬ (n : Int) < k := by omega
  have hv := lt_word h.lt h.le
  have hm := and_mask v k hv hk
  go_enter Try.func28, Try.ntmps28
  go_wp2
  refine wp_scope_forward 0 rfl ?_
  go_wp2
  rw [jump_ret]
  go_ret2
  refine ⟨?_, rfl⟩
  simp only [hm, Array.getD]
  rfl
theorem take_no (b v n : Nat) (k : Int) (w : World) (h : Br w b v n) (hk : ¬ Can k n) :
    Calls Try.prog 29 #[.pointer (some ⟨b, 0, none⟩), .int .i64 k] w fun e w' => e = .returned (.tuple #[.int .u32 0, .bool false]) ∧ w = w' := by
  go_enter Try.func29, Try.ntmps29
  go_wp2_with fail
  refine wp_scope_forward 0 rfl ?_
  go_wp2_with fail
  refine (peek_no b v n k _ h hk).mono ?_
  rintro e w' ⟨rfl, rfl⟩
  go_wp2_with fail
  go_step3
  refine ⟨rfl, ?_⟩
  go_wp2
  rw [Exit.noGoto_ret]
  go_ret2
  exact ⟨rfl, rfl⟩
theorem take_yes (b v n k : Nat) (w : World) (h : Br w b v n) (hk : k ≤ 32) (hkn : k ≤ n) :
    Calls Try.prog 29 #[.pointer (some ⟨b, 0, none⟩), .int .i64 k] w fun e w' => e = .returned (.tuple #[.int .u32 ((v % 2 ^ k : Nat) : Int), .bool true]) ∧ Br w' b (v / 2 ^ k) (n - k) ∧ Only b w w' := by
  have h64 := h.le
  go_enter Try.func29, Try.ntmps29
  go_wp2_with fail
  refine wp_scope_forward 0 rfl ?_
  go_wp2_with fail
  refine (peek_yes b v n k _ h hk hkn).mono ?_
  rintro e w' ⟨rfl, rfl⟩
  go_wp2_with fail
  refine (drop_b b v n k _ h hkn).mono ?_
  rintro e w' ⟨rfl, hb, ho⟩
  go_wp2_with fail
  rw [jump_ret]
  go_ret2
  exact ⟨rfl, hb, ho⟩
end Go.Proofs.Ytlmajiejapaegaa

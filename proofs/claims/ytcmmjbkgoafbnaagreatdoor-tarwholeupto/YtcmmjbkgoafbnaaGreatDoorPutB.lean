/-
  What Put comes to, the program's and the document's: a new row of bytes, or none; and Same of two lists that are one.
  Conditions: none.
-/
import Derived.Test.YtcmmjbkgoafbnaaGreatDoorOwn
import Derived.Test.YtcmmjbkgoafbnaaGreatDoorPut
import Derived.BigQuiet
namespace Go.Proofs.YtcmmjbkgoafbnaaGreatDoor
open Go.RowKit
set_option linter.unusedVariables false
/-- What Put answers. -/
def Made (w : World) (o : Option (List Nat)) (e : Ending) (w' : World) : Prop :=
  ∃ (a : Option Addr) (l : List Nat) (L c : Nat), e = .returned (.tuple #[.slice a L c, .bool o.isSome]) ∧ o.getD [] = l ∧ l.length = L ∧ L ≤ c ∧ c ≤ 64 ∧ Lies w' a l ∧ Below w.heap.size w w' ∧ ∀ p, a = some p → w.heap.size ≤ p.block
theorem Made.none (w : World) : Made w Option.none (.returned (.tuple #[.slice Option.none 0 0, .bool false])) w :=
  ⟨Option.none, [], 0, 0, rfl, rfl, rfl, Nat.le_refl _, by decide, Or.inl rfl, Below.refl _ _, fun p hp => by cases hp⟩
theorem Made.row {w u : World} {G n : Nat} {l : List Nat} (h : Bk w u G n l) (hn : n ≤ 64) : Made w (some l) (.returned (.tuple #[.slice (some ⟨G, 0, Option.none⟩) n n, .bool true])) u :=
  ⟨_, l, n, n, rfl, rfl, h.len, Nat.le_refl _, hn, h.lies, h.bel, fun p hp => by cases hp; exact h.ge⟩
theorem oput_no {v : Nat} {n : Int} (h : n < 2 ∨ 64 < n ∨ 9223372036854775808 ≤ v) : put v n = none := by unfold put; rw [if_pos h]
theorem oput_yes {v : Nat} {n : Nat} (h1 : 2 ≤ n) (h2 : n ≤ 64) (h3 : v < 9223372036854775808) : put v (n : Int) =
    if v / 8 ^ (n - 1) = 0 then some (hi 8 48 v (n - 1) ++ [0]) else if v / 256 ^ (n - 1) = 0 then some (128 :: hi 256 0 v (n - 1)) else none := by
  unfold put; rw [if_neg (by omega), Int.toNat_natCast]
set_option maxRecDepth 100000 in
set_option maxHeartbeats 2000000 in
theorem rput_c (v : Nat) (n : Int) (w : World) (hv : v < 18446744073709551616) : Calls Tryz.prog 50 #[.int .u64 v, .int .i64 n] w fun e w' => Made w (put v n) e w' := by
  by_cases h1 : n < 2
  · rw [oput_no (Or.inl h1)]
    go_enter Tryz.func50, Tryz.ntmps50
    go_wp2_with fail
    go_ret2
    exact Made.none w
  by_cases h2 : 64 < n
  · rw [oput_no (Or.inr (Or.inl h2))]
    go_enter Tryz.func50, Tryz.ntmps50
    go_wp2_with fail
    go_ret2
    exact Made.none w
  by_cases h3 : 9223372036854775808 ≤ v
  · rw [oput_no (Or.inr (Or.inr h3))]
    have h3i : (9223372036854775808 : Int) ≤ (v : Int) := by omega
    go_enter Tryz.func50, Tryz.ntmps50
    go_wp2_with fail
    go_ret2
    exact Made.none w
  have h3i : ¬ (9223372036854775808 : Int) ≤ (v : Int) := by omega
  obtain ⟨N, rfl⟩ : ∃ N : Nat, n = (N : Int) := ⟨n.toNat, by omega⟩
  obtain ⟨m, hm1⟩ : ∃ m, N = m + 1 := ⟨N - 1, by omega⟩
  have hm := made N (by omega) w
  have hbk := Bk.new w N
  generalize (vn (List.replicate N 0)).toArray = cs at *
  have hrep : List.replicate N 0 = List.replicate m 0 ++ [0] := by rw [hm1, List.replicate_succ']
  rw [hrep] at hbk
  have hi1 : (N : Int) - 2 = (m : Int) - 1 := by omega
  have hi2 : (N : Int) - 1 = (m : Int) := by omega
  have AP : Aside (put v (N : Int) = if v / 8 ^ m = 0 then some (hi 8 48 v m ++ [0]) else if v / 256 ^ m = 0 then some (128 :: hi 256 0 v m) else none) := by
    have := oput_yes (v := v) (n := N) (by omega) (by omega) (by omega)
    rw [show N - 1 = m by omega] at this; exact this
  have AN : Aside (N = m + 1 ∧ N ≤ 64 ∧ v < 9223372036854775808) := ⟨hm1, by omega, by omega⟩
  generalize put v (N : Int) = res at *
  clear hrep hm1 hv h3
  go_enter Tryz.func50, Tryz.ntmps50
  go_wp2_with fail
  clear h3i
  go_loopg [7, 8] m (fun g sv si wr => ∃ (k : Nat) (p : List Nat), k + g = m ∧ p.length = g ∧ si = .int .i64 ((g : Int) - 1) ∧ sv = .int .u64 (v / 8 ^ k : Nat) ∧ Bk w wr w.heap.size N (p ++ (hi 8 48 v k ++ [0])))
  case atStart => exact ⟨0, List.replicate m 0, by omega, List.length_replicate, rfl, by rw [Nat.pow_zero, Nat.div_one], hbk⟩
  case round =>
    clear hbk hm
    obtain ⟨k, p, hk, hp, rfl, rfl, bk⟩ := hrel
    obtain ⟨V, hV⟩ : ∃ V, v / 8 ^ k = V := ⟨_, rfl⟩
    rw [hV]
    rcases List.eq_nil_or_concat p with rfl | ⟨q, z, rfl⟩
    · have hg0 : gk = 0 := by simpa using hp.symm
      subst hg0
      have hkm : k = m := by omega
      subst hkm
      have hlen := bk.len
      rw [List.nil_append] at bk hlen
      by_cases hz : V = 0
      · have hz2 : ((V : Int) == 0) = true := by rw [hz]; rfl
        have AR : Aside (res = some (hi 8 48 v k ++ [0])) := by show _ = _; rw [AP.out, hV, if_pos hz]
        clear hz hV
        go_wp2_with fail
        go_ret2
        rw [AR.out]
        exact Made.row bk AN.out.2.1
      · have hz2 : ((V : Int) == 0) = false := by rw [beq_eq_false_iff_ne]; omega
        have AR : Aside (res = if v / 256 ^ k = 0 then some (128 :: hi 256 0 v k) else none) := by show _ = _; rw [AP.out, hV, if_neg hz]
        clear hz hV
        go_wp2_with fail
        clear hz2
        go_loopg [7, 9] k (fun g sv si wr => ∃ (j : Nat) (p : List Nat), j + g = k ∧ p.length = g + 1 ∧ si = .int .i64 (g : Int) ∧ sv = .int .u64 (v / 256 ^ j : Nat) ∧ Bk w wr w.heap.size N (p ++ hi 256 0 v j))
        case atStart => exact ⟨0, hi 8 48 v k ++ [0], by omega, by rw [List.length_append, hi_length]; rfl, rfl, by rw [Nat.pow_zero, Nat.div_one], by rw [hi, List.append_nil]; exact bk⟩
        case round =>
          clear bk hlen
          obtain ⟨j, p, hj, hp, rfl, rfl, bk⟩ := hrel
          obtain ⟨V, hV⟩ : ∃ V, v / 256 ^ j = V := ⟨_, rfl⟩
          rw [hV]
          by_cases hg0 : gk = 0
          · subst hg0
            have hjk : j = k := by omega
            subst hjk
            obtain ⟨z, rfl⟩ : ∃ z, p = [z] := by
              match p, hp with
              | [z], _ => exact ⟨z, rfl⟩
            have hn0 : 0 < N := by have := AN.out; omega
            obtain ⟨⟨c0, hc0⟩, hf0⟩ := bk.there hn0
            have hset := bk.set 0 128
            have AS : Aside (Bk w (wr.setCell ⟨w.heap.size, 0, none⟩ (.int .u8 128)) w.heap.size N (128 :: hi 256 0 v j)) := hset
            by_cases hz : V = 0
            · have hz2 : ((V : Int) != 0) = false := by rw [hz]; rfl
              have AT : Aside (res = some (128 :: hi 256 0 v j)) := by show _ = _; rw [AR.out, hV, if_pos hz]
              clear hset bk hV hz
              go_wp2_with fail
              go_ret2
              rw [AT.out]
              exact Made.row AS.out AN.out.2.1
            · have hz2 : ((V : Int) != 0) = true := by rw [bne_iff_ne]; omega
              have AT : Aside (res = none) := by show _ = _; rw [AR.out, hV, if_neg hz]
              clear hset bk hV hz
              go_wp2_with fail
              go_ret2
              rw [AT.out]
              exact ⟨none, [], 0, 0, rfl, rfl, rfl, Nat.le_refl _, by decide, Or.inl rfl, AS.out.bel, fun p hp => by cases hp⟩
          · rcases List.eq_nil_or_concat p with rfl | ⟨q, z, rfl⟩
            · simp at hp
            rw [List.concat_eq_append] at bk hp
            have hq : q.length = gk := by simpa using hp
            have hMn : gk < N := by have := AN.out; omega
            obtain ⟨⟨c0, hc0⟩, hf0⟩ := bk.there hMn
            have hwr : IntKind.u64.wrap ((V : Int) / 256) = (V : Int) / 256 := by
              have h1 : V ≤ v := by rw [← hV]; exact Nat.div_le_self ..
              have h2 := AN.out
              rw [IntKind.wrap_u64]; omega
            have hgi : (1 : Int) ≤ (gk : Int) := by omega
            have hMi : (gk : Int) < (N : Int) := by omega
            have hset := bk.set gk (0 + V % 256)
            have hset2 : Bk w (wr.setCell ⟨w.heap.size, gk, none⟩ (.int .u8 (V % 256 : Nat))) w.heap.size N (q ++ hi 256 0 v (j + 1)) := by
              rw [← hq, set_mid, ← hV] at hset
              rw [← hq, ← hV, hi]
              rw [Nat.zero_add] at hset ⊢; exact hset
            have AS : Aside (Bk w (wr.setCell ⟨w.heap.size, gk, none⟩ (.int .u8 (V % 256 : Nat))) w.heap.size N (q ++ hi 256 0 v (j + 1)) ∧ v / 256 ^ (j + 1) = V / 256 ∧ j + gk = k ∧ 1 ≤ gk ∧ q.length = gk) := ⟨hset2, by rw [down, hV], hj, by omega, hq⟩
            clear hset hset2 hV hj hp hq bk hg0
            go_wp2_with fail
            have hk := AS.out.2.2
            go_roundg (gk - 1)
            case measure => omega
            case rel => exact ⟨j + 1, q, by omega, by omega, by go_num, by rw [AS.out.2.1]; go_num, AS.out.1⟩
    · rw [List.concat_eq_append] at bk hp
      have hq : gk = q.length + 1 := by simpa using hp.symm
      obtain ⟨M, hM⟩ : ∃ M, q.length = M := ⟨_, rfl⟩
      have hMn : M < N := by have := AN.out; omega
      obtain ⟨⟨c0, hc0⟩, hf0⟩ := bk.there hMn
      have hwr : IntKind.u64.wrap ((V : Int) / 8) = (V : Int) / 8 := by
        have h1 : V ≤ v := by rw [← hV]; exact Nat.div_le_self ..
        have h2 := AN.out
        rw [IntKind.wrap_u64]; omega
      have hgi : (gk : Int) - 1 = (M : Int) := by omega
      have hMi : (M : Int) < (N : Int) := by omega
      have hset := bk.set M (48 + V % 8)
      have hset2 : Bk w (wr.setCell ⟨w.heap.size, M, none⟩ (.int .u8 (48 + V % 8 : Nat))) w.heap.size N (q ++ (hi 8 48 v (k + 1) ++ [0])) := by
        rw [← hM, set_mid, ← hV] at hset
        rw [← hM, ← hV]; exact hset
      have AS : Aside (Bk w (wr.setCell ⟨w.heap.size, M, none⟩ (.int .u8 (48 + V % 8 : Nat))) w.heap.size N (q ++ (hi 8 48 v (k + 1) ++ [0])) ∧ v / 8 ^ (k + 1) = V / 8 ∧ k + gk = m ∧ gk = M + 1 ∧ q.length = M) := ⟨hset2, by rw [down, hV], hk, by omega, hM⟩
      clear hset hset2 hV hk hp hq hM bk
      go_wp2_with fail
      have hk := AS.out.2.2
      go_roundg (gk - 1)
      case measure => omega
      case rel => exact ⟨k + 1, q, by omega, by omega, by go_num, by rw [AS.out.2.1]; go_num, AS.out.1⟩
end Go.Proofs.YtcmmjbkgoafbnaaGreatDoor

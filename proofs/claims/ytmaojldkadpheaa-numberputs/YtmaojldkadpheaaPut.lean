/-
  What putOctal and putBinary come to: a new row of bytes, the digits or the bytes of a number.
  Conditions: a width from 2 to 64.
-/
import Derived.Test.YtmaojldkadpheaaReadB
import Derived.Laws.MakeOwn
import Derived.Laws.OwnMore
namespace Go.Proofs.Ytmaojldkadpheaa
open Go.RowKit
set_option linter.unusedVariables false
/-- Bytes as cells. -/
def vn (l : List Nat) : List Value := l.map fun x : Nat => Value.int .u8 (x : Int)
theorem vn_length (l : List Nat) : (vn l).length = l.length := by simp [vn]
theorem vn_get (l : List Nat) (j : Nat) : (vn l)[j]? = (l[j]?).map fun x : Nat => Value.int .u8 (x : Int) := by simp [vn]
theorem info5 : (Try.prog.info? 5).map (fun i => (i.zero, i.size, i.bytes)) = some (some (.int .u8 0), 1, 1) := by kernel_rfl
/-- make of a list of n bytes. -/
theorem made (n : Nat) (hn : n ≤ 1048576) (w : World) : (Instr.makeSlice 22 (.int .i64 (n : Int)) (.int .i64 (n : Int))).run Try.prog w = .ok (.slice (some ⟨w.heap.size, 0, none⟩) n n) (w.alloc (.cells (vn (List.replicate n 0)).toArray 5)) := by
  obtain ⟨i, hi, hz, hs, hb⟩ := info_parts info5
  have := run_make (P := Try.prog) w 22 5 i _ Try.underlying22 hi hz .i64 .i64 n n (by omega) (by omega) (by rw [hb]; omega) (by omega)
  rw [this, hs]
  have e : madeCells (Value.int .u8 0).cells ((n : Int).toNat * 1) = (vn (List.replicate n 0)).toArray := by
    apply Array.toList_inj.1
    show (madeCells #[Value.int .u8 0] _).toList = _
    rw [toList_madeCells_one]
    simp [vn]
  rw [e]
  simp
/-- A row that the call made: block G holds just these bytes. -/
structure Bk (w u : World) (G n : Nat) (cs : List Nat) : Prop where
  bel : Below w.heap.size w u
  ge : w.heap.size ≤ G
  cells : Cells u G (vn cs).toArray 5
  len : cs.length = n
theorem Bk.new (w : World) (n : Nat) : Bk w (w.alloc (.cells (vn (List.replicate n 0)).toArray 5)) w.heap.size n (List.replicate n 0) :=
  ⟨(Below.refl _ _).alloc (Nat.le_refl _) _, Nat.le_refl _, Cells.new _ _ _, List.length_replicate⟩
theorem Bk.cell {w u : World} {G n : Nat} {cs : List Nat} (h : Bk w u G n cs) {i x : Nat} (hx : cs[i]? = some x) : u.cell? ⟨G, i, none⟩ = some (.int .u8 (x : Int)) := by
  rw [h.cells.cell]
  rw [List.getElem?_toArray, vn_get, hx]; rfl
theorem Bk.there {w u : World} {G n : Nat} {cs : List Nat} (h : Bk w u G n cs) {i : Nat} (hi : i < n) : (∃ x, u.cell? ⟨G, i, none⟩ = some x) ∧ u.frozen? ⟨G, i, none⟩ = false :=
  ⟨⟨_, h.cell (List.getElem?_eq_getElem (by rw [h.len]; exact hi))⟩, h.cells.frozen i⟩
theorem Bk.set {w u : World} {G n : Nat} {cs : List Nat} (h : Bk w u G n cs) (j y : Nat) : Bk w (u.setCell ⟨G, j, none⟩ (.int .u8 (y : Int))) G n (cs.set j y) := by
  refine ⟨h.bel.setCell (p := ⟨G, j, none⟩) h.ge _, h.ge, ?_, by rw [List.length_set]; exact h.len⟩
  have := h.cells.set j (.int .u8 (y : Int))
  have e : (vn cs).toArray.setIfInBounds j (.int .u8 (y : Int)) = (vn (cs.set j y)).toArray := by
    rw [List.setIfInBounds_toArray]; congr 1; unfold vn; rw [List.map_set]
  rw [e] at this; exact this
theorem Bk.lies {w u : World} {G n : Nat} {cs : List Nat} (h : Bk w u G n cs) : Lies u (some ⟨G, 0, none⟩) cs := Or.inr ⟨G, 0, rfl, fun i x hx => by rw [Nat.zero_add]; exact h.cell hx⟩
theorem set_mid (q X : List Nat) (z y : Nat) : (q ++ [z] ++ X).set q.length y = q ++ (y :: X) := by
  rw [List.append_assoc, List.set_append_right _ _ (Nat.le_refl _), Nat.sub_self]; rfl
theorem or48 : ∀ x : Fin 8, 48 ||| x.val = 48 + x.val := by decide +kernel
theorem dig_of (v : Nat) : bits .or .u8 48 ((v : Int) % 8) = ((48 + v % 8 : Nat) : Int) := by
  have h : v % 8 < 8 := Nat.mod_lt _ (by decide)
  have e : (v : Int) % 8 = ((v % 8 : Nat) : Int) := by omega
  have h3 := or48 ⟨v % 8, h⟩
  dsimp only at h3
  rw [e, show (48 : Int) = ((48 : Nat) : Int) from rfl, u8_or_nat 48 _ (by decide) (by omega), h3]
set_option maxRecDepth 100000 in
set_option maxHeartbeats 1000000 in
theorem putoct_c (v n : Nat) (w : World) (hv : v < 18446744073709551616) (h2 : 2 ≤ n) (h64 : n ≤ 64) :
    Calls Try.prog 29 #[.int .u64 v, .int .i64 n] w fun e w' => e = .returned (.slice (some ⟨w.heap.size, 0, none⟩) n n) ∧ Bk w w' w.heap.size n (hi 8 48 v (n - 1) ++ [0]) := by
  have hm := made n (by omega) w
  have hbk := Bk.new w n
  generalize (vn (List.replicate n 0)).toArray = cs at *
  obtain ⟨m, hm1⟩ : ∃ m, n = m + 1 := ⟨n - 1, by omega⟩
  have hrep : List.replicate n 0 = List.replicate m 0 ++ [0] := by rw [hm1, List.replicate_succ']
  rw [hrep] at hbk
  have hi1 : (n : Int) - 2 = (m : Int) - 1 := by omega
  rw [show n - 1 = m by omega]
  have AN : Aside (n = m + 1 ∧ v < 18446744073709551616) := ⟨hm1, hv⟩
  clear hrep hm1 hv
  go_enter Try.func29, Try.ntmps29
  go_wp2_with fail
  go_loopg [0, 6] m (fun g sv si wr => ∃ (k : Nat) (p : List Nat), k + g = m ∧ p.length = g ∧ si = .int .i64 ((g : Int) - 1) ∧ sv = .int .u64 (v / 8 ^ k : Nat) ∧ Bk w wr w.heap.size n (p ++ (hi 8 48 v k ++ [0])))
  case atStart => exact ⟨0, List.replicate m 0, by omega, List.length_replicate, rfl, by rw [Nat.pow_zero, Nat.div_one], hbk⟩
  case round =>
    clear hbk hm
    obtain ⟨k, p, hk, hp, rfl, rfl, bk⟩ := hrel
    obtain ⟨V, hV⟩ : ∃ V, v / 8 ^ k = V := ⟨_, rfl⟩
    rw [hV]
    have hdig := dig_of V
    rcases List.eq_nil_or_concat p with rfl | ⟨q, z, rfl⟩
    · have hg0 : gk = 0 := by simpa using hp.symm
      subst hg0
      have hkm : k = m := by omega
      subst hkm
      go_wp2_with fail
      go_ret
      exact ⟨rfl, bk⟩
    · rw [List.concat_eq_append] at bk hp
      have hq : gk = q.length + 1 := by simpa using hp.symm
      obtain ⟨M, hM⟩ : ∃ M, q.length = M := ⟨_, rfl⟩
      have hMn : M < n := by have := AN.out; omega
      obtain ⟨⟨c0, hc0⟩, hf0⟩ := bk.there hMn
      have hgi : (gk : Int) - 1 = (M : Int) := by omega
      have hMi : (M : Int) < (n : Int) := by omega
      have hset := bk.set M (48 + V % 8)
      have hset2 : Bk w (wr.setCell ⟨w.heap.size, M, none⟩ (.int .u8 (48 + V % 8 : Nat))) w.heap.size n (q ++ (hi 8 48 v (k + 1) ++ [0])) := by
        rw [← hM, set_mid, ← hV] at hset
        rw [← hM, ← hV]; exact hset
      have AS : Aside (Bk w (wr.setCell ⟨w.heap.size, M, none⟩ (.int .u8 (48 + V % 8 : Nat))) w.heap.size n (q ++ (hi 8 48 v (k + 1) ++ [0])) ∧ v / 8 ^ (k + 1) = V / 8 ∧ k + gk = m ∧ gk = M + 1 ∧ q.length = M) := ⟨hset2, by rw [down, hV], hk, by omega, hM⟩
      obtain ⟨y, hy⟩ : ∃ y, 48 + V % 8 = y := ⟨_, rfl⟩
      rw [hy] at AS hdig
      clear hset hset2 hV hk hp hq hM hy bk
      go_wp2_with fail
      have hk := AS.out.2.2
      go_roundg (gk - 1)
      case measure => omega
      case rel => exact ⟨k + 1, q, by omega, by omega, by go_num, by rw [AS.out.2.1]; go_num, AS.out.1⟩
set_option maxRecDepth 100000 in
set_option maxHeartbeats 1000000 in
theorem putbin_c (v n : Nat) (w : World) (hv : v < 18446744073709551616) (h2 : 2 ≤ n) (h64 : n ≤ 64) :
    Calls Try.prog 30 #[.int .u64 v, .int .i64 n] w fun e w' => e = .returned (.slice (some ⟨w.heap.size, 0, none⟩) n n) ∧ Bk w w' w.heap.size n (128 :: hi 256 0 v (n - 1)) := by
  have hm := made n (by omega) w
  have hbk := Bk.new w n
  generalize (vn (List.replicate n 0)).toArray = cs at *
  obtain ⟨m, hm1⟩ : ∃ m, n = m + 1 := ⟨n - 1, by omega⟩
  have hrep : List.replicate n 0 = 0 :: List.replicate m 0 := by rw [hm1, List.replicate_succ]
  rw [hrep] at hbk
  have hi1 : (n : Int) - 1 = (m : Int) := by omega
  rw [show n - 1 = m by omega]
  have AN : Aside (n = m + 1 ∧ v < 18446744073709551616) := ⟨hm1, hv⟩
  clear hrep hm1 hv
  go_enter Try.func30, Try.ntmps30
  go_wp2_with fail
  go_loopg [0, 6] m (fun g sv si wr => ∃ (k : Nat) (p : List Nat), k + g = m ∧ p.length = g ∧ si = .int .i64 (g : Int) ∧ sv = .int .u64 (v / 256 ^ k : Nat) ∧ Bk w wr w.heap.size n (0 :: p ++ hi 256 0 v k))
  case atStart => exact ⟨0, List.replicate m 0, by omega, List.length_replicate, rfl, by rw [Nat.pow_zero, Nat.div_one], by rw [hi, List.append_nil]; exact hbk⟩
  case round =>
    clear hbk hm
    obtain ⟨k, p, hk, hp, rfl, rfl, bk⟩ := hrel
    obtain ⟨V, hV⟩ : ∃ V, v / 256 ^ k = V := ⟨_, rfl⟩
    rw [hV]
    rcases List.eq_nil_or_concat p with rfl | ⟨q, z, rfl⟩
    · have hg0 : gk = 0 := by simpa using hp.symm
      subst hg0
      have hkm : k = m := by omega
      subst hkm
      have hn0 : 0 < n := by omega
      obtain ⟨⟨c0, hc0⟩, hf0⟩ := bk.there hn0
      have hset := bk.set 0 128
      have AS : Aside (Bk w (wr.setCell ⟨w.heap.size, 0, none⟩ (.int .u8 128)) w.heap.size n (128 :: hi 256 0 v k)) := hset
      clear hset bk hV
      go_wp2_with fail
      go_ret
      exact ⟨rfl, AS.out⟩
    · rw [List.concat_eq_append] at bk hp
      have hq : gk = q.length + 1 := by simpa using hp.symm
      obtain ⟨M, hM⟩ : ∃ M, q.length = M := ⟨_, rfl⟩
      have hMn : gk < n := by have := AN.out; omega
      obtain ⟨⟨c0, hc0⟩, hf0⟩ := bk.there hMn
      have hgi : (0 : Int) < (gk : Int) := by omega
      have hMi : (gk : Int) < (n : Int) := by omega
      have hset := bk.set gk (0 + V % 256)
      have hset2 : Bk w (wr.setCell ⟨w.heap.size, gk, none⟩ (.int .u8 (V % 256 : Nat))) w.heap.size n (0 :: q ++ hi 256 0 v (k + 1)) := by
        have e := set_mid (0 :: q) (hi 256 0 v k) z (0 + V % 256)
        rw [show (0 :: q).length = gk by simp; omega] at e
        rw [show 0 :: (q ++ [z]) ++ hi 256 0 v k = 0 :: q ++ [z] ++ hi 256 0 v k by simp, e, ← hV] at hset
        rw [← hV, hi]
        rw [Nat.zero_add] at hset ⊢; exact hset
      have AS : Aside (Bk w (wr.setCell ⟨w.heap.size, gk, none⟩ (.int .u8 (V % 256 : Nat))) w.heap.size n (0 :: q ++ hi 256 0 v (k + 1)) ∧ v / 256 ^ (k + 1) = V / 256 ∧ k + gk = m ∧ gk = M + 1 ∧ q.length = M) := ⟨hset2, by rw [down, hV], hk, by omega, hM⟩
      clear hset hset2 hV hk hp hq hM bk
      go_wp2_with fail
      have hk := AS.out.2.2
      go_roundg (gk - 1)
      case measure => omega
      case rel => exact ⟨k + 1, q, by omega, by omega, by go_num, by rw [AS.out.2.1]; go_num, AS.out.1⟩
end Go.Proofs.Ytmaojldkadpheaa

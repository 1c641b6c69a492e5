/-
  What the document's Join comes to: a's register moved by eight bits for each of n bytes, turned by b; n below 0 counts as 0.
  Conditions: a and b are numbers of 32 bits, n one of 64.
-/
import Derived.Test.YtopaekcbopoeaaaThrough
import Derived.Deep.WholeRow
import Derived.Laws.Rows
import Derived.Laws.Tables
import Derived.Deep.RegionLaw
import Derived.Deep.CutBlock
import Derived.Deep.DeepCutAuto
namespace Go.Proofs.Ytopaekcbopoeaaa
open Go.RowKit
set_option linter.unusedVariables false
/-- Of 32 rows the first i say what a bit becomes behind k moves, the others hold c. -/
def part (k i : Nat) (c : Value) : Array Value := ((List.range 32).map fun j => if j < i then Value.int .u32 (mvs k (2 ^ j) : Nat) else c).toArray
theorem part_all (k : Nat) (c : Value) : part k 32 c = rw32 k := by
  unfold part rw32
  exact congrArg List.toArray (List.map_congr_left fun j hj => if_pos (List.mem_range.1 hj))
theorem part_size (k i : Nat) (c : Value) : (part k i c).size = 32 := by simp [part]
theorem part_at (k i j : Nat) (c : Value) (h : j < 32) : (part k i c)[j]? = some (if j < i then Value.int .u32 (mvs k (2 ^ j) : Nat) else c) := by
  simp [part, h]
theorem part_set (k i : Nat) (c v : Value) (h : i < 32) (hv : v = .int .u32 (mvs k (2 ^ i) : Nat)) : (part k i c).setIfInBounds i v = part k (i + 1) c := by
  apply Array.ext_getElem?
  intro j
  by_cases hj : j < 32
  · rw [Array.getElem?_setIfInBounds, part_at _ _ _ _ hj, part_at _ _ _ _ hj, part_size]
    by_cases e : i = j
    · subst e
      rw [if_pos rfl, if_pos hj, if_pos (by omega), hv]
    · rw [if_neg e]
      congr 1
      by_cases h2 : j < i
      · rw [if_pos h2, if_pos (by omega)]
      · rw [if_neg h2, if_neg (by omega)]
  · rw [Array.getElem?_eq_none (by simp [part_size]; omega), Array.getElem?_eq_none (by rw [part_size]; omega)]
theorem set_row {w : World} {b : Nat} {cs : Array Value} {t : TypeId} (h : Cells w b cs t) (c : Array Value) : Cells (w.setRow b c) b c t := by
  unfold Cells at *
  simp [World.setRow, Array.getElem?_modify, h]
theorem below_row {w : World} {b : Nat} {cs : Array Value} {t : TypeId} (h : Cells w b cs t) (c : Array Value) : Below b w (w.setRow b c) :=
  ⟨rfl, rfl, rfl, by simp [World.setRow], fun k hk => by
    have : b ≠ k := by omega
    simp [World.setRow, Array.getElem?_modify, this]⟩
theorem size29 : (Try.prog.info? 29).map (·.size) = some 32 := by kernel_rfl
theorem rw32_size (k : Nat) : (rw32 k).size = 32 := by simp [rw32]
/-- The whole row is read. -/
theorem load_row {w : World} {b k : Nat} (h : Cells w b (rw32 k) 29) : (Instr.loadAt 29 (.pointer (some ⟨b, 0, none⟩))).run Try.prog w = .ok (.agg (rw32 k)) w := by
  simp only [Instr.loadAt, Instr.sureAddr, Sem.run_bind, Sem.run_pure, Result.andThen]
  exact run_loadVar_row _ _ 29 29 _ (0, 0) _ h Try.underlying29 rfl (by rw [rw32_size]; exact size29)
/-- The whole row is written. -/
theorem store_row {w : World} {b k j : Nat} (h : Cells w b (rw32 k) 29) : (Instr.storeAt 29 (.pointer (some ⟨b, 0, none⟩)) (.agg (rw32 j))).run Try.prog w = .ok () (w.setRow b (rw32 j)) := by
  simp only [Instr.storeAt, Instr.sureAddr, Sem.run_bind, Sem.run_pure, Result.andThen]
  exact run_storeVar_row _ _ 29 29 _ _ h (by rw [rw32_size]; exact size29) (by rw [rw32_size, rw32_size]) (by simp [rw32, Value.oneCell'])
theorem step_load_row {ops : Array Oper} {o : Oper} {a : Act} {w : World} {K : Act → World → Prop} {Q : Exit → Act → World → Prop} {E : Prop} (hgd : o.guard = none) (x : Operand) (ho : o.op = .load 29 x)
    (g : Nat) (hx : a.eval x = .pointer (some ⟨g, 0, none⟩)) (k : Nat) (hg : Cells w g (rw32 k) 29) (h : K (a.put o.dst (.agg (rw32 k))) w) :
    if Region.wanted o (yielded ops a.tmps) = true then Oper.wp Try.prog o a w K Q else E := by
  have hw : Region.wanted o (yielded ops a.tmps) = true := by simp [Region.wanted, hgd]
  rw [if_pos hw]
  exact wp_load_row 29 x ho g hx 29 _ (0, 0) _ hg Try.underlying29 rfl (by rw [rw32_size]; exact size29) h
set_option maxHeartbeats 1000000 in
theorem rjoin_c (a b : Nat) (ha : a < 4294967296) (hb : b < 4294967296) (n : Int) (hn : n < 9223372036854775808) (w : World) :
    Calls Try.prog 5 #[.int .u32 a, .int .u32 b, .int .i64 n] w fun e w' => e = .returned (.int .u32 (mvs (8 * n.toNat) a ^^^ b : Nat)) ∧ Below w.heap.size w w' := by
  obtain ⟨R, hR⟩ : ∃ R, mvs (8 * n.toNat) a = R := ⟨_, rfl⟩
  have hRl : R < 4294967296 := by rw [← hR]; exact mvs_lt _ ha
  rw [hR]
  obtain ⟨B, hB⟩ : ∃ B, w.heap.size = B := ⟨_, rfl⟩
  rw [hB]
  go_enter Try.func5, Try.ntmps5
  go_wp2_with fail
  have hc1 := Cells.new w (part 8 0 (.int .u32 0)) 29
  have hbe1 := (Below.refl w.heap.size w).alloc (Nat.le_refl _) (.cells (part 8 0 (.int .u32 0)) 29)
  rw [hB] at hc1 hbe1
  obtain ⟨w1, hw1⟩ : ∃ w1, w.alloc (.cells (part 8 0 (.int .u32 0)) 29) = w1 := ⟨_, rfl⟩
  rw [hw1] at hc1 hbe1
  refine (show w.alloc (.cells (part 8 0 (.int .u32 0)) 29) = _ from rfl) ▸ ?_
  rw [hw1]
  clear hB hw1
  obtain ⟨z, hz⟩ : ∃ z, Value.int .u32 0 = z := ⟨_, rfl⟩
  rw [hz] at hc1
  clear hz
  go_loopg [8] 32 (fun g si wr => ∃ i : Nat, i + g = 32 ∧ si = .int .i64 i ∧ Cells wr B (part 8 i z) 29 ∧ Below B w wr)
  case atStart => exact ⟨0, rfl, rfl, hc1, hbe1⟩
  case round =>
    obtain ⟨i, hi, rfl, hc, hbe⟩ := hrel
    by_cases hl : i < 32
    · have hsz := part_size 8 i z
      have f0 := hc.frozen i
      have hpl : 2 ^ i < 4294967296 := Nat.pow_lt_pow_right (a := 2) (n := 32) (m := i) (by decide) hl
      have hcell : wr.cell? ⟨B, i, none⟩ = some z := by rw [hc.cell, part_at _ _ _ _ hl, if_neg (by omega)]
      go_wp2_with fail
      have e2i : ((2 : Int) ^ i) % 4294967296 = ((2 ^ i : Nat) : Int) := by
        have e : (2 : Int) ^ i = ((2 ^ i : Nat) : Int) := by push_cast; rfl
        rw [e]
        obtain ⟨X, hX⟩ : ∃ X : Nat, 2 ^ i = X := ⟨_, rfl⟩
        rw [hX] at hpl ⊢
        omega
      have ed : decide ((i : Int) < 32) = true := decide_eq_true (by omega)
      rw [e2i, ed]
      have hc2 := hc.set i (.int .u32 (2 ^ i : Nat))
      have hbe2 := hbe.setCell (p := ⟨B, i, none⟩) (Nat.le_refl _) (.int .u32 (2 ^ i : Nat))
      obtain ⟨w2, hw2⟩ : ∃ w2, wr.setCell ⟨B, i, none⟩ (.int .u32 (2 ^ i : Nat)) = w2 := ⟨_, rfl⟩
      rw [hw2] at hc2 hbe2 ⊢
      clear hw2 hc hcell f0 e2i
      obtain ⟨P2, hP2⟩ : ∃ P2 : Nat, 2 ^ i = P2 := ⟨_, rfl⟩
      rw [hP2] at hc2 hpl ⊢
      obtain ⟨C0, hC0⟩ : ∃ C0, part 8 i z = C0 := ⟨_, rfl⟩
      rw [hC0] at hc2 hsz
      go_loopg [9] 8 (fun g sj wr => ∃ j : Nat, j + g = 8 ∧ sj = .int .i64 j ∧ Cells wr B (C0.setIfInBounds i (.int .u32 (mvs j P2 : Nat))) 29 ∧ Below B w wr)
      case atStart => exact ⟨0, rfl, rfl, hc2, hbe2⟩
      case round =>
        obtain ⟨j, hj, rfl, hc, hbe⟩ := hrel
        by_cases hjl : j < 8
        · have f0 := hc.frozen i
          have hq := mvs_lt j hpl
          have hqq : mv (mvs j P2) = mvs (j + 1) P2 := mv_mvs j P2
          obtain ⟨q, hq0⟩ : ∃ q, mvs j P2 = q := ⟨_, rfl⟩
          rw [hq0] at hc hq hqq
          have hcell : wr.cell? ⟨B, i, none⟩ = some (.int .u32 q) := by rw [hc.cell]; simp [hsz, hl]
          go_wp2_with (go_at_call 8; refine (moved_c q hq _).mono ?_; rintro e3 w3 ⟨rfl, rfl⟩)
          go_roundg (7 - j)
          case measure => omega
          case rel =>
            refine ⟨j + 1, by omega, by go_num, ?_, hbe.setCell (p := ⟨B, i, none⟩) (Nat.le_refl _) _⟩
            have := hc.set i (.int .u32 (mvs (j + 1) P2 : Nat))
            rw [Array.setIfInBounds_setIfInBounds] at this
            exact this
        · have hj8 : j = 8 := by omega
          rw [hj8] at hc ⊢
          rw [← hC0, part_set 8 i z _ hl (by rw [hP2])] at hc
          go_wp2_with fail
          go_roundg (31 - i)
          case measure => omega
          case rel => exact ⟨i + 1, by omega, by go_num, hc, hbe⟩
    · have hi2 : i = 32 := by omega
      rw [hi2, part_all] at hc
      rw [hi2]
      have hp29 : (Try.prog.info? 29).map (·.size) = some 32 := by kernel_rfl
      go_wp2_with fail
      go_loopg [0, 2] n.toNat (fun g sa sn wr => ∃ (a' k : Nat) (m : Int), sa = .int .u32 a' ∧ sn = .int .i64 m ∧ g = m.toNat ∧ m < 9223372036854775808 ∧ a' < 4294967296 ∧ mvs (8 * 2 ^ k * g) a' = R ∧ Cells wr B (rw32 (8 * 2 ^ k)) 29 ∧ Below B w wr)
      case atStart => exact ⟨a, 0, n, rfl, rfl, rfl, hn, ha, by rw [Nat.pow_zero, Nat.mul_one]; exact hR, hc, hbe⟩
      case round =>
        obtain ⟨a', k, m, rfl, rfl, hg, hmn, ha', hr, hc, hbe⟩ := hrel
        by_cases h0 : m ≤ 0
        · have hz : gk = 0 := by omega
          rw [hz, Nat.mul_zero, mvs] at hr
          have e1 := x32 R b hRl hb
          rw [hr]
          go_wp2_with fail
          all_goals go_ret
          all_goals exact ⟨by rw [← e1]; rfl, hbe⟩
        · have hG : Aside (gk = m.toNat ∧ mvs (8 * 2 ^ k * gk) a' = R) := ⟨hg, hr⟩
          clear hg hr
          obtain ⟨K, hK⟩ : ∃ K, 8 * 2 ^ k = K := ⟨_, rfl⟩
          rw [hK] at hc
          have hG2 : Aside (8 * 2 ^ k = K ∧ m % 2 = m.tmod 2) := ⟨hK, by rw [Int.tmod_eq_emod_of_nonneg (by omega)]⟩
          clear hK
          obtain ⟨q, hq⟩ : ∃ q : Nat, m.toNat / 2 = q := ⟨_, rfl⟩
          have hG3 : Aside (m.toNat / 2 = q) := hq
          clear hq
          have hsz := rw32_size K
          go_upto_if 35 with fail
          go_cut [0] (fun s0 wc => ∃ a2 : Nat, s0 = .int .u32 a2 ∧ a2 < 4294967296 ∧ mvs (2 * K * q) a2 = R ∧ Cells wc B (rw32 K) 29 ∧ Below B w wc)
          case first =>
            by_cases ho : m % 2 = 1
            · have hm : m.tmod 2 = 1 := by rw [← hG2.out.2]; exact ho
              go_wp2_with (first | (refine wpList_load_row rfl 29 (.tmp 7) rfl B rfl 29 _ (0, 0) _ hc Try.underlying29 rfl (by rw [hsz]; exact size29) ?_) | (go_at_call 9; refine (through_c K a' ha' _).mono ?_; rintro e3 w3 ⟨rfl, hb3⟩))
              go_meet
              case rel =>
                obtain ⟨hg, hr⟩ := hG.out
                refine ⟨mvs K a', rfl, mvs_lt _ ha', ?_, hc.below hb3 hc.lt, hbe.trans (hb3.mono (Nat.le_of_lt hc.lt))⟩
                rw [← mvs_add, ← hr, hG2.out.1, ← hG3.out, show gk = 2 * (m.toNat / 2) + 1 by omega, Nat.mul_comm 2 K, Nat.mul_add, Nat.mul_one, Nat.mul_assoc, Nat.add_comm]
            · have hm : m.tmod 2 = 0 := by rw [← hG2.out.2]; omega
              go_wp2_with fail
              go_meet
              case rel =>
                obtain ⟨hg, hr⟩ := hG.out
                refine ⟨a', rfl, ha', ?_, hc, hbe⟩
                rw [← hr, hG2.out.1, ← hG3.out, show gk = 2 * (m.toNat / 2) by omega, Nat.mul_comm 2 K, Nat.mul_assoc]
          case rest =>
            obtain ⟨a2, rfl, ha2, hr2, hc2, hbe2⟩ := hcut
            go_wp2_with fail
            have hcn := Cells.new wc (part (2 * K) 0 (.int .u32 0)) 29
            have hc3 := hc2.alloc (.cells (part (2 * K) 0 (.int .u32 0)) 29)
            have hbe3 := hbe2.alloc (Nat.le_of_lt hc2.lt) (.cells (part (2 * K) 0 (.int .u32 0)) 29)
            have hlt := hc2.lt
            obtain ⟨w4, hw4⟩ : ∃ w4, wc.alloc (.cells (part (2 * K) 0 (.int .u32 0)) 29) = w4 := ⟨_, rfl⟩
            refine (show wc.alloc (.cells (part (2 * K) 0 (.int .u32 0)) 29) = _ from rfl) ▸ ?_
            rw [hw4] at hcn hc3 hbe3 ⊢
            obtain ⟨B2, hB2⟩ : ∃ B2, wc.heap.size = B2 := ⟨_, rfl⟩
            rw [hB2] at hcn hlt ⊢
            clear hw4 hB2 hc2 hbe2
            obtain ⟨z2, hz2⟩ : ∃ z2, Value.int .u32 0 = z2 := ⟨_, rfl⟩
            rw [hz2] at hcn
            clear hz2
            go_loopg [11] 32 (fun g si wr => ∃ i : Nat, i + g = 32 ∧ si = .int .i64 i ∧ Cells wr B (rw32 K) 29 ∧ Cells wr B2 (part (2 * K) i z2) 29 ∧ Below B w wr)
            case atStart => exact ⟨0, rfl, rfl, hc3, hcn, hbe3⟩
            case round =>
              obtain ⟨i, hi, rfl, hc4, hc5, hbe4⟩ := hrel
              by_cases hl : i < 32
              · have hpl : 2 ^ i < 4294967296 := Nat.pow_lt_pow_right (a := 2) (n := 32) (m := i) (by decide) hl
                have hq4 := mvs_lt K hpl
                have hqq : Aside (mvs K (mvs K (2 ^ i)) = mvs (2 * K) (2 ^ i)) := by show _ = _; rw [← mvs_add, Nat.two_mul]
                have hcell : wr.cell? ⟨B, i, none⟩ = some (.int .u32 (mvs K (2 ^ i) : Nat)) := by rw [hc4.cell, rw32_at K i hl]
                obtain ⟨q4, hq40⟩ : ∃ q4, mvs K (2 ^ i) = q4 := ⟨_, rfl⟩
                rw [hq40] at hqq hcell hq4
                have hlt5 := hc5.lt
                go_upto_block 7 with fail
                go_cut [] (fun wc => Cells wc B (rw32 K) 29 ∧ Cells wc B2 (part (2 * K) (i + 1) z2) 29 ∧ Below B w wc)
                case first =>
                  go_wp2_with fail
                  refine wp_region_any (by kernel_rfl) ?_
                  change wpAny _ _ _ _ _ _ _ (World.drew _)
                  refine wpAny_take (i := 0) (v := .int .i64 i) rfl (by kernel_rfl) (by kernel_rfl) (by kernel_rfl) (fun _ _ _ h => h) (Or.inl ⟨by rfl, fun w => by go_simp⟩) ?_
                  refine wpAny_take (i := 2) (v := .int .i64 i) rfl (by kernel_rfl) (by kernel_rfl) (by kernel_rfl) (fun _ _ _ h => h) (Or.inl ⟨by rfl, fun w => by go_simp⟩) ?_
                  refine wpAny_take (i := 3) (v := .pointer (some ⟨B, i, none⟩)) rfl (by kernel_rfl) (by kernel_rfl) (by kernel_rfl) (fun _ _ _ h => h) (Or.inl ⟨by rfl, fun w => by go_simp⟩) ?_
                  refine wpAny_ready (rs := [1, 4]) (by kernel_rfl) (by simp) ?_
                  refine AllReady.cons (o := { dst := some 44, op := .load 29 (.tmp 7), type := 29, pos := "ref.go:58", after := #[], guard := none }) rfl (fun K1 hK1 => ?_) (AllReady.cons rfl (fun K2 hK2 => ?_) AllReady.nil)
                  · refine step_load_row rfl (.tmp 7) rfl B rfl K hc4.drew ?_
                    refine hK1 _ _ ?_
                    clear hK1 K1
                    refine wpAny_ready (rs := [4]) (by kernel_rfl) (by simp) ?_
                    refine AllReady.cons rfl (fun K3 hK3 => ?_) AllReady.nil
                    go_simp
                    refine hK3 _ _ ?_
                    clear hK3 K3
                    refine wpAny_ready (rs := [5]) (by kernel_rfl) (by simp) ?_
                    refine AllReady.cons rfl (fun K4 hK4 => ?_) AllReady.nil
                    go_simp
                    go_at_call 9
                    refine (through_c K q4 hq4 _).mono ?_
                    rintro e3 w3 ⟨rfl, hb3⟩
                    dsimp only
                    refine hK4 _ _ ?_
                    clear hK4 K4
                    have hcc := hc5.drew.below hb3 hlt5
                    have hccB := hc4.drew.below hb3 hc4.lt
                    have hbeB : Below B w w3 := hbe4.drew.trans (hb3.mono (Nat.le_of_lt hc4.lt))
                    have hcx : w3.cell? ⟨B2, i, none⟩ = some z2 := by rw [hcc.cell, part_at _ _ _ _ hl, if_neg (by omega)]
                    have f2 := hcc.frozen i
                    refine wpAny_ready (rs := [6]) (by kernel_rfl) (by simp) ?_
                    refine AllReady.cons rfl (fun K4 hK4 => ?_) AllReady.nil
                    go_simp
                    refine hK4 _ _ ?_
                    clear hK4 K4
                    refine wpAny_ready (rs := [7]) (by kernel_rfl) (by simp) ?_
                    refine AllReady.cons rfl (fun K4 hK4 => ?_) AllReady.nil
                    go_simp
                    refine hK4 _ _ ?_
                    clear hK4 K4
                    refine wpAny_done (by kernel_rfl) ?_ _
                    go_wp2_with fail
                    go_meet
                    case rel => exact ⟨hccB.only ((Only.refl B2 w3).setCell i _) (Nat.ne_of_lt hlt), by rw [← part_set (2 * K) i z2 (.int .u32 (mvs K q4 : Nat)) hl (by rw [hqq.out])]; exact hcc.set i _, hbeB.setCell (p := ⟨B2, i, none⟩) (Nat.le_of_lt hlt) _⟩
                  · go_simp
                    refine hK2 _ _ ?_
                    clear hK2 K2
                    refine wpAny_ready (rs := [1]) (by kernel_rfl) (by simp) ?_
                    refine AllReady.cons (o := { dst := some 44, op := .load 29 (.tmp 7), type := 29, pos := "ref.go:58", after := #[], guard := none }) rfl (fun K1 hK1 => ?_) AllReady.nil
                    refine step_load_row rfl (.tmp 7) rfl B rfl K hc4.drew ?_
                    refine hK1 _ _ ?_
                    clear hK1 K1
                    refine wpAny_ready (rs := [5]) (by kernel_rfl) (by simp) ?_
                    refine AllReady.cons rfl (fun K4 hK4 => ?_) AllReady.nil
                    go_simp
                    go_at_call 9
                    refine (through_c K q4 hq4 _).mono ?_
                    rintro e3 w3 ⟨rfl, hb3⟩
                    dsimp only
                    refine hK4 _ _ ?_
                    clear hK4 K4
                    have hcc := hc5.drew.below hb3 hlt5
                    have hccB := hc4.drew.below hb3 hc4.lt
                    have hbeB : Below B w w3 := hbe4.drew.trans (hb3.mono (Nat.le_of_lt hc4.lt))
                    have hcx : w3.cell? ⟨B2, i, none⟩ = some z2 := by rw [hcc.cell, part_at _ _ _ _ hl, if_neg (by omega)]
                    have f2 := hcc.frozen i
                    refine wpAny_ready (rs := [6]) (by kernel_rfl) (by simp) ?_
                    refine AllReady.cons rfl (fun K4 hK4 => ?_) AllReady.nil
                    go_simp
                    refine hK4 _ _ ?_
                    clear hK4 K4
                    refine wpAny_ready (rs := [7]) (by kernel_rfl) (by simp) ?_
                    refine AllReady.cons rfl (fun K4 hK4 => ?_) AllReady.nil
                    go_simp
                    refine hK4 _ _ ?_
                    clear hK4 K4
                    refine wpAny_done (by kernel_rfl) ?_ _
                    go_wp2_with fail
                    go_meet
                    case rel => exact ⟨hccB.only ((Only.refl B2 w3).setCell i _) (Nat.ne_of_lt hlt), by rw [← part_set (2 * K) i z2 (.int .u32 (mvs K q4 : Nat)) hl (by rw [hqq.out])]; exact hcc.set i _, hbeB.setCell (p := ⟨B2, i, none⟩) (Nat.le_of_lt hlt) _⟩
                case rest =>
                  obtain ⟨h1, h2, h3⟩ := hcut
                  go_wp2_with fail
                  go_roundg (31 - i)
                  case measure => omega
                  case rel => exact ⟨i + 1, by omega, by go_num, h1, h2, h3⟩
              · have hi2 : i = 32 := by omega
                rw [hi2, part_all] at hc5
                rw [hi2]
                go_wp2_with (first | (refine wpList_load_row rfl 29 (.tmp 10) rfl B2 rfl 29 _ (0, 0) _ hc5 Try.underlying29 rfl (by rw [rw32_size]; exact size29) ?_) | (refine wpList_store_row rfl 29 (.tmp 7) (.tmp 50) rfl B (rw32 (2 * K)) rfl rfl 29 (rw32 K) hc4 (by rw [rw32_size]; exact size29) (by rw [rw32_size, rw32_size]) (by simp [rw32, Value.oneCell']) ?_))
                go_roundg q
                case measure => have := hG.out.1; have := hG3.out; omega
                case rel =>
                  have e := hG2.out.1
                  have e3 := hG3.out
                  have e4 : 8 * 2 ^ (k + 1) = 2 * K := by rw [← e, Nat.pow_succ]; omega
                  refine ⟨a2, k + 1, m / 2, rfl, by go_num, by omega, by omega, ha2, ?_, ?_, ?_⟩
                  · rw [e4]; exact hr2
                  · rw [e4]; exact set_row hc4 _
                  · exact hbe4.trans (below_row hc4 _)
end Go.Proofs.Ytopaekcbopoeaaa

/-
  Own texts of this seat, one behind the other: what each says stands ahead of it.
-/
import Derived.Test.YtikdpnpkmmmacaaDoorMa
import Derived.Deep.LoopGhost
import Derived.BigQuiet
import Derived.Deep.CutBlock
import Derived.Deep.DeepCutAuto
import Derived.WalkMore
import Derived.Test.YtikdpnpkmmmacaaDoorProg
import Derived.WalkSpells
import Derived.Deep.WholeRow
import Derived.Laws.Rows
import Derived.Laws.Tables
import Derived.Laws.ResultCell
import Derived.WalkKit
import Derived.Laws.BitsAllLaws
import Derived.Laws.Bits64
import Derived.Laws.Bits64b
import Derived.OwnWalk
import Derived.Laws.AppendOwn
/-
  The program's table while it is laid, and what laying a symbol's code comes to.
-/
namespace Go.Proofs.YtikdpnpkmmmacaaDoor
open Go.RowKit
set_option linter.unusedVariables false
/-- Of all blocks that are there g and M alone may have turned. -/
structure Two (g M : Nat) (w w' : World) : Prop where
  os : w'.os = w.os
  tape : w'.tape = w.tape
  output : w'.output = w.output
  size : w.heap.size ≤ w'.heap.size
  block : ∀ k, k < w.heap.size → k ≠ g → k ≠ M → w'.heap[k]? = w.heap[k]?
theorem Two.refl (g M : Nat) (w : World) : Two g M w w := ⟨rfl, rfl, rfl, Nat.le_refl _, fun _ _ _ _ => rfl⟩
theorem Two.trans {g M : Nat} {w u v : World} (h : Two g M w u) (k : Two g M u v) : Two g M w v :=
  ⟨k.os.trans h.os, k.tape.trans h.tape, k.output.trans h.output, Nat.le_trans h.size k.size, fun i hi h1 h2 => (k.block i (Nat.lt_of_lt_of_le hi h.size) h1 h2).trans (h.block i hi h1 h2)⟩
theorem Two.drew {g M : Nat} {w u : World} (h : Two g M w u) : Two g M w u.drew := ⟨h.os, h.tape, h.output, h.size, h.block⟩
theorem Two.drewN {g M : Nat} {w u : World} (h : Two g M w u) (n : Nat) : Two g M w (u.drewN n) := ⟨h.os, h.tape, h.output, h.size, h.block⟩
theorem Two.alloc {g M : Nat} {w u : World} (h : Two g M w u) (o : Obj) : Two g M w (u.alloc o) :=
  ⟨h.os, h.tape, h.output, Nat.le_trans h.size (by show u.heap.size ≤ (u.heap.push o).size; rw [Array.size_push]; omega), fun k hk h1 h2 => (Below.heap_alloc u o k (Nat.lt_of_lt_of_le hk h.size)).trans (h.block k hk h1 h2)⟩
theorem Two.setG {g M : Nat} {w u : World} (h : Two g M w u) (i : Nat) (v : Value) : Two g M w (u.setCell ⟨g, i, none⟩ v) :=
  h.trans ⟨rfl, rfl, rfl, by simp [World.setCell], fun k _ hk _ => Below.heap_setCell _ _ _ _ hk⟩
/-- A block that has come since may turn. -/
theorem Two.setNew {g M X : Nat} {w u : World} (h : Two g M w u) (hX : w.heap.size ≤ X) (i : Nat) (v : Value) : Two g M w (u.setCell ⟨X, i, none⟩ v) :=
  ⟨h.os, h.tape, h.output, by have := h.size; simp [World.setCell]; exact this, fun k hk h1 h2 => (Below.heap_setCell _ _ _ _ (by show k ≠ X; omega)).trans (h.block k hk h1 h2)⟩
theorem Two.grown {g M : Nat} {w u v : World} (h : Two g M w u) (k : u.grownBy v (some M)) : Two g M w v :=
  h.trans ⟨k.os, k.tape, k.output, k.size, fun i hi _ h2 => k.block i hi (fun e => h2 (by injection e))⟩
theorem Two.below {g M B : Nat} {w u : World} (h : Two g M w u) (hg : B ≤ g) (hM : B ≤ M) (hB : B ≤ w.heap.size) : Below B w u :=
  ⟨h.os, h.tape, h.output, h.size, fun k hk => h.block k (by omega) (by omega) (by omega)⟩
theorem Cells.two {g M b : Nat} {w u : World} {cs : Array Value} {t : TypeId} (h : Cells w b cs t) (k : Two g M w u) (h1 : b ≠ g) (h2 : b ≠ M) : Cells u b cs t := (k.block b h.lt h1 h2).trans h
/-- Cells of the codes: the length and the number of each symbol's code, of the first i symbols. -/
def Cc (w : World) (g : Nat) (ls : List Nat) (i : Nat) : Prop := ∃ cs, Cells w g cs 138 ∧ cs.size = 2 * ls.length ∧ ∀ (j m : Nat), ls[j]? = some m →
  (j < i ∧ 0 < m → cs[j * 2]? = some (.int .u32 (m : Int)) ∧ cs[j * 2 + 1]? = some (.int .u32 (code ls j m : Int))) ∧ (¬ (j < i ∧ 0 < m) → cs[j * 2]? = some (.int .u32 0) ∧ cs[j * 2 + 1]? = some (.int .u32 0))
/-- The program's table while it is laid. -/
structure Tq (w : World) (T g M k : Nat) (ls : List Nat) (i : Nat) : Prop where
  t : Cells w T #[.slice (some ⟨g, 0, none⟩) ls.length ls.length, .map (some M)] 134
  c : Cc w g ls i
  m : ∃ G, Mp w M k G ∧ Laidm ls i G
theorem Cc.skip {w : World} {g : Nat} {ls : List Nat} {i : Nat} (h : Cc w g ls i) (hi : ls[i]? = some 0) : Cc w g ls (i + 1) := by
  obtain ⟨cs, h1, h2, h3⟩ := h
  refine ⟨cs, h1, h2, fun j m hj => ⟨fun hc => (h3 j m hj).1 ⟨?_, hc.2⟩, fun hc => (h3 j m hj).2 fun hc2 => hc ⟨by omega, hc2.2⟩⟩⟩
  rcases (show j < i ∨ j = i by omega) with h4 | rfl
  · exact h4
  · rw [hi] at hj; cases hj; omega
theorem Cc.put {w : World} {g : Nat} {ls : List Nat} {i m : Nat} (h : Cc w g ls i) (hi : ls[i]? = some m) (hm : 0 < m) :
    Cc ((w.setCell ⟨g, i * 2, none⟩ (.int .u32 (m : Int))).setCell ⟨g, i * 2 + 1, none⟩ (.int .u32 (code ls i m : Int))) g ls (i + 1) := by
  obtain ⟨cs, h1, h2, h3⟩ := h
  have hil := lt_of_at hi
  refine ⟨_, (h1.set (i * 2) _).set (i * 2 + 1) _, by rw [Array.size_setIfInBounds, Array.size_setIfInBounds]; exact h2, fun j n hj => ?_⟩
  have hjl := lt_of_at hj
  by_cases e : j = i
  · subst e
    rw [hi] at hj; cases hj
    refine ⟨fun _ => ?_, fun hc => absurd ⟨by omega, hm⟩ hc⟩
    constructor
    · rw [Array.getElem?_setIfInBounds, if_neg (by omega), Array.getElem?_setIfInBounds, if_pos rfl, if_pos (by omega)]
    · rw [Array.getElem?_setIfInBounds, if_pos rfl, if_pos (by rw [Array.size_setIfInBounds]; omega)]
  · have e1 : ∀ q, q < 2 → ((cs.setIfInBounds (i * 2) (.int .u32 (m : Int))).setIfInBounds (i * 2 + 1) (.int .u32 (code ls i m : Int)))[j * 2 + q]? = cs[j * 2 + q]? := by
      intro q hq
      rw [Array.getElem?_setIfInBounds, if_neg (by omega), Array.getElem?_setIfInBounds, if_neg (by omega)]
    have e10 := e1 0 (by omega)
    have e11 := e1 1 (by omega)
    have e10' : ((cs.setIfInBounds (i * 2) (.int .u32 (m : Int))).setIfInBounds (i * 2 + 1) (.int .u32 (code ls i m : Int)))[j * 2]? = cs[j * 2]? := e10
    rw [e10', e11]
    exact ⟨fun hc => (h3 j n hj).1 ⟨by omega, hc.2⟩, fun hc => (h3 j n hj).2 fun hc2 => hc ⟨by omega, hc2.2⟩⟩
theorem Mp.mono {w : World} {M k k' : Nat} {G : Nat → Nat → Option Int} (h : Mp w M k G) (hk : k ≤ k') : Mp w M k' G := by
  obtain ⟨D, h1, h2⟩ := h
  exact ⟨D, h1.mono hk, h2⟩
theorem Cc.heap {w u : World} {g : Nat} {ls : List Nat} {i : Nat} (h : Cc w g ls i) (e : u.heap[g]? = w.heap[g]?) : Cc u g ls i := by
  obtain ⟨cs, h1, h2, h3⟩ := h
  exact ⟨cs, e.trans h1, h2, h3⟩
theorem Cc.lt {w : World} {g : Nat} {ls : List Nat} {i : Nat} (h : Cc w g ls i) : g < w.heap.size := by obtain ⟨cs, h1, _⟩ := h; exact h1.lt
/-- What lies in memory while a symbol's code is laid. -/
structure Ly (w0 w : World) (T g M X k i m c p : Nat) (ls : List Nat) (G : Nat → Nat → Option Int) : Prop where
  cx : Cells w X #[.int .u32 (p : Int), .int .u32 ((c / 2 ^ (m - p) : Nat) : Int)] 138
  ct : Cells w T #[.slice (some ⟨g, 0, none⟩) ls.length ls.length, .map (some M)] 134
  cc : Cc w g ls (i + 1)
  cm : Mp w M k (lp i m c p G)
  two : Two g M w0 w
theorem Ly.drew {w0 w : World} {T g M X k i m c p : Nat} {ls : List Nat} {G : Nat → Nat → Option Int} (h : Ly w0 w T g M X k i m c p ls G) : Ly w0 w.drew T g M X k i m c p ls G := ⟨h.cx, h.ct, h.cc, h.cm, h.two.drew⟩
theorem Ly.drewN {w0 w : World} {T g M X k i m c p : Nat} {ls : List Nat} {G : Nat → Nat → Option Int} (h : Ly w0 w T g M X k i m c p ls G) (n : Nat) : Ly w0 (w.drewN n) T g M X k i m c p ls G := ⟨h.cx, h.ct, h.cc, h.cm, h.two.drewN n⟩
theorem Ly.tq {w0 w : World} {T g M X k i m c p K : Nat} {ls : List Nat} {G : Nat → Nat → Option Int} (h : Ly w0 w T g M X k i m c p ls G) (hl : Laidm ls i G) (hi : ls[i]? = some m) (hm : 0 < m) (hc : code ls i m = c) (hp : p ≤ m) (hk : k ≤ K)
    (hend : 0 < p → (G (p - 1) (c / 2 ^ (m - (p - 1)))).isSome = true) : Tq w T g M K ls (i + 1) := ⟨h.ct, h.cc, _, h.cm.mono hk, hl.put hi hm hc hp hend⟩
set_option maxRecDepth 100000 in
set_option maxHeartbeats 4000000 in
theorem lay_c (T g M k i m c : Nat) (ls : List Nat) (w : World) (ht : Tq w T g M k ls i) (hL : ls.length ≤ 320) (hi : ls[i]? = some m) (hm : 0 < m) (hm15 : m ≤ 15) (hc : code ls i m = c) (hcb : c < 2 ^ m) (hk : k ≤ 1000000) (hTg : T ≠ g) (hTM : T ≠ M) (hgM : g ≠ M) :
    Calls Tryd.prog 80 #[.pointer (some ⟨T, 0, none⟩), .int .i64 (i : Int), .agg #[.int .u32 (m : Int), .int .u32 (c : Int)]] w fun e w' => e = .returned (.tuple #[]) ∧ Tq w' T g M (k + 16) ls (i + 1) ∧ Two g M w w' := by
  obtain ⟨tc, ⟨cs, cc1, cc2, cc3⟩, G, hG, hLd⟩ := ht
  have hil := lt_of_at hi
  obtain ⟨X, hX⟩ : ∃ X, w.heap.size = X := ⟨_, rfl⟩
  obtain ⟨L, hLe⟩ : ∃ L, ls.length = L := ⟨_, rfl⟩
  obtain ⟨w1, hw1⟩ : ∃ w1, w1 = w.alloc (.cells #[.int .u32 (m : Int), .int .u32 (c : Int)] 138) := ⟨_, rfl⟩
  have x1 : Cells w1 X #[.int .u32 (m : Int), .int .u32 (c : Int)] 138 := by rw [hw1, ← hX]; exact Cells.new w _ 138
  have g1 : Cells w1 g cs 138 := by rw [hw1]; exact cc1.alloc _
  have t1 : Cells w1 T #[.slice (some ⟨g, 0, none⟩) ls.length ls.length, .map (some M)] 134 := by rw [hw1]; exact tc.alloc _
  have m1 : Mp w1 M k G := by rw [hw1]; exact hG.heap (Below.heap_alloc w _ M hG.lt)
  have tw1 : Two g M w w1 := by rw [hw1]; exact (Two.refl g M w).alloc _
  have hTX : T < X := by rw [← hX]; exact tc.lt
  have hgX : g < X := by rw [← hX]; exact cc1.lt
  have hMX : M < X := by rw [← hX]; exact hG.lt
  have cT0 := t1.cell 0
  have cT1 := t1.cell 1
  have cX0 := x1.cell 0
  have cX1 := x1.cell 1
  have cg0 : ∃ v, w1.cell? ⟨g, i * 2, none⟩ = some v := ⟨_, by rw [g1.cell]; exact Array.getElem?_eq_getElem (by omega)⟩
  have cg1 : ∃ v, w1.cell? ⟨g, i * 2 + 1, none⟩ = some v := ⟨_, by rw [g1.cell]; exact Array.getElem?_eq_getElem (by omega)⟩
  obtain ⟨y0, cg0⟩ := cg0
  obtain ⟨y1, cg1⟩ := cg1
  have fg0 := g1.frozen (i * 2)
  have fg1 := g1.frozen (i * 2 + 1)
  have cg1' : (w1.setCell ⟨g, i * 2, none⟩ (.int .u32 (m : Int))).cell? ⟨g, i * 2 + 1, none⟩ = some y1 := by
    rw [(g1.set (i * 2) _).cell, Array.getElem?_setIfInBounds, if_neg (by omega), ← g1.cell]; exact cg1
  have fg1' := (g1.set (i * 2) (.int .u32 (m : Int))).frozen (i * 2 + 1)
  rw [hLe] at cT0
  simp only [List.getElem?_toArray, List.getElem?_cons_zero, List.getElem?_cons_succ] at cT0 cT1 cX0 cX1
  have hiL : (i : Int) < (L : Int) := by omega
  have AH : Aside (Cells w1 X #[.int .u32 (m : Int), .int .u32 (c : Int)] 138 ∧ Cc w1 g ls i ∧ Cells w1 g cs 138 ∧ Cells w1 T #[.slice (some ⟨g, 0, none⟩) ls.length ls.length, .map (some M)] 134 ∧ Mp w1 M k G ∧ Two g M w w1) := ⟨x1, ⟨cs, g1, cc2, cc3⟩, g1, t1, m1, tw1⟩
  have AF : Aside (T < X ∧ g < X ∧ M < X ∧ T ≠ g ∧ T ≠ M ∧ g ≠ M ∧ i < ls.length ∧ ls.length ≤ 320 ∧ ls[i]? = some m ∧ 0 < m ∧ code ls i m = c ∧ Laidm ls i G ∧ c < 2 ^ m ∧ k ≤ 1000000 ∧ w.heap.size = X) := ⟨hTX, hgX, hMX, hTg, hTM, hgM, hil, hL, hi, hm, hc, hLd, hcb, hk, hX⟩
  clear x1 g1 t1 m1 tw1 hTX hgX hMX hTg hTM hgM hil hL hi hc hLd hcb hk hX tc cc1 cc2 cc3 hG hLe
  go_enter Tryd.func80, Tryd.ntmps80
  have hwX := AF.out.2.2.2.2.2.2.2.2.2.2.2.2.2.2
  go_upto_region 1 with fail
  rw [← hw1]
  clear hw1 hwX
  go_region
  obtain ⟨w2, hw2⟩ : ∃ w2, w2 = ((w1.setCell ⟨g, i * 2, none⟩ (.int .u32 (m : Int))).setCell ⟨g, i * 2 + 1, none⟩ (.int .u32 (c : Int))).drew := ⟨_, rfl⟩
  rw [← hw2]
  have o2 : Only g w1 w2 := by rw [hw2]; exact (((Only.refl g w1).setCell _ _).setCell _ _).drew
  have x2 : Cells w2 X #[.int .u32 (m : Int), .int .u32 (c : Int)] 138 := AH.out.1.only o2 (by have := AF.out.2.1; omega)
  have t2 : Cells w2 T #[.slice (some ⟨g, 0, none⟩) ls.length ls.length, .map (some M)] 134 := AH.out.2.2.2.1.only o2 AF.out.2.2.2.1
  have m2 : Mp w2 M k G := AH.out.2.2.2.2.1.only o2 (fun e => AF.out.2.2.2.2.2.1 e.symm)
  have g2 : Cc w2 g ls (i + 1) := by
    have hc1 := AH.out.2.1
    have := hc1.put AF.out.2.2.2.2.2.2.2.2.1 hm
    rw [AF.out.2.2.2.2.2.2.2.2.2.2.1] at this
    rw [hw2]; exact this
  have tw2 : Two g M w w2 := by rw [hw2]; exact ((AH.out.2.2.2.2.2.setG _ _).setG _ _).drew
  have hcb32 : c < 4294967296 := by have := AF.out.2.2.2.2.2.2.2.2.2.2.2.2.1; have h2 : 2 ^ m ≤ 2 ^ 15 := Nat.pow_le_pow_right (by decide) hm15; omega
  have hiw : (Lit.int .i64 (i : Int)).wf = true := WalkArith.wf_i64 (by have := AF.out.2.2.2.2.2.2.1; have := AF.out.2.2.2.2.2.2.2.1; omega)
  obtain ⟨w3, hrun, m3, gr3⟩ := run_put w2.drew M k m c (i : Int) G m2 (by have := AF.out; omega) (by omega) hcb32 hiw
  have cT1 := t2.cell 1
  have cX0 := x2.cell 0
  have cX1 := x2.cell 1
  simp only [List.getElem?_toArray, List.getElem?_cons_zero, List.getElem?_cons_succ] at cT1 cX0 cX1
  have A2 : Aside (Cells w2 X #[.int .u32 (m : Int), .int .u32 (c : Int)] 138 ∧ Cells w2 T #[.slice (some ⟨g, 0, none⟩) ls.length ls.length, .map (some M)] 134 ∧ Cc w2 g ls (i + 1) ∧ Two g M w w2) := ⟨x2, t2, g2, tw2⟩
  have A3 : Aside (Mp w3 M (k + 1) (lp i m c m G) ∧ w2.drew.grownBy w3 (some M)) := ⟨m3.congr fun n x => lp_first i m c G n x, gr3⟩
  clear hw2 o2 x2 t2 m2 g2 tw2 m3 gr3 hiw cg0 cg1 cg1' fg0 fg1 fg1' cT0 AH
  go_upto_region 2 with fail
  go_region
  have hly : Ly w w3 T g M X (k + 1) i m c m ls G := by
    have hsz := A2.out.2.2.2.size
    refine ⟨?_, ?_, ?_, A3.out.1, A2.out.2.2.2.drew.grown A3.out.2⟩
    · have := (A3.out.2.block X A2.out.1.lt (by intro e; injection e with e; have := AF.out.2.2.1; omega)).trans A2.out.1
      rw [Nat.sub_self, Nat.pow_zero, Nat.div_one]
      exact this
    · exact (A3.out.2.block T A2.out.2.1.lt (by intro e; injection e with e; exact AF.out.2.2.2.2.1 e)).trans A2.out.2.1
    · exact A2.out.2.2.1.heap (A3.out.2.block g A2.out.2.2.1.lt (by intro e; injection e with e; exact AF.out.2.2.2.2.2.1 e))
  have AY : Aside (Ly w w3 T g M X (k + 1) i m c m ls G) := hly
  clear hly A2 A3 hrun cT1 cX0 cX1
  go_wp2_with fail
  go_loopg [] m (fun gg wr => ∃ (p kp : Nat), Aside (p = gg ∧ p ≤ m ∧ kp + p ≤ k + 1 + m ∧ Ly w wr T g M X kp i m c p ls G))
  case atStart => exact ⟨m, k + 1, ⟨rfl, Nat.le_refl _, Nat.le_refl _, AY.out⟩⟩
  case round =>
    obtain ⟨p, kp, hI⟩ := hrel
    have cX0 := hI.out.2.2.2.cx.cell 0
    have cX1 := hI.out.2.2.2.cx.cell 1
    simp only [List.getElem?_toArray, List.getElem?_cons_zero, List.getElem?_cons_succ] at cX0 cX1
    by_cases hp : p = 0
    · subst hp
      go_wp2_with fail
      first | go_end0 | go_ret | go_ret2
      have F := AF.out
      exact ⟨rfl, hI.out.2.2.2.tq F.2.2.2.2.2.2.2.2.2.2.2.1 F.2.2.2.2.2.2.2.2.1 hm F.2.2.2.2.2.2.2.2.2.2.1 (Nat.zero_le _) (by have := hI.out.2.2.1; omega) (fun h => absurd h (by omega)), hI.out.2.2.2.two⟩
    · obtain ⟨q, rfl⟩ : ∃ q, p = q + 1 := ⟨p - 1, by omega⟩
      obtain ⟨y, hy⟩ : ∃ y, c / 2 ^ (m - (q + 1)) = y := ⟨_, rfl⟩
      rw [hy] at cX1
      have hyb : y < 4294967296 := by rw [← hy]; exact Nat.lt_of_le_of_lt (Nat.div_le_self _ _) hcb32
      have hq15 : q + 1 ≤ 15 := by have := hI.out.2.1; omega
      have fX0 := hI.out.2.2.2.cx.frozen 0
      have fX1 := hI.out.2.2.2.cx.frozen 1
      have hy2 : c / 2 ^ (m - q) = y / 2 := by
        rw [← hy, Nat.div_div_eq_div_mul, ← Nat.pow_succ, show (m - (q + 1)).succ = m - q by have := hI.out.2.1; omega]
      have hXs := hI.out.2.2.2.cx.set 0 (.int .u32 (q : Int))
      have fX1' := hXs.frozen 1
      have cX1' : (wr.setCell ⟨X, 0, none⟩ (.int .u32 (q : Int))).cell? ⟨X, 1, none⟩ = some (.int .u32 (y : Int)) := by
        rw [hXs.cell 1, ← hy]; rfl
      have AYY : Aside (c / 2 ^ (m - q) = y / 2 ∧ c / 2 ^ (m - (q + 1)) = y ∧ q + 1 ≤ m) := ⟨hy2, hy, hI.out.2.1⟩
      clear hp hy hy2 hXs
      go_upto_region 5 with fail
      obtain ⟨w5, hw5⟩ : ∃ w5, w5 = (wr.setCell ⟨X, 0, none⟩ (.int .u32 (q : Int))).setCell ⟨X, 1, none⟩ (.int .u32 ((y : Int) / 2)) := ⟨_, rfl⟩
      rw [← hw5]
      have o5 : Only X wr w5 := by rw [hw5]; exact ((Only.refl X wr).setCell _ _).setCell _ _
      have eY : ((y : Int) / 2) = ((y / 2 : Nat) : Int) := by omega
      have x5 : Cells w5 X #[.int .u32 (q : Int), .int .u32 ((y / 2 : Nat) : Int)] 138 := by
        rw [hw5, eY]; exact (hI.out.2.2.2.cx.set 0 _).set 1 _
      have t5 : Cells w5 T #[.slice (some ⟨g, 0, none⟩) ls.length ls.length, .map (some M)] 134 := hI.out.2.2.2.ct.only o5 (by have := AF.out.1; omega)
      have g5 : Cc w5 g ls (i + 1) := hI.out.2.2.2.cc.heap (o5.block g (by have := AF.out.2.1; omega))
      have m5 : Mp w5 M kp (lp i m c (q + 1) G) := hI.out.2.2.2.cm.only o5 (by have := AF.out.2.2.1; omega)
      have tw5 : Two g M w w5 := by
        rw [hw5]; exact (hI.out.2.2.2.two.setNew (by rw [AF.out.2.2.2.2.2.2.2.2.2.2.2.2.2.2]; exact Nat.le_refl _) _ _).setNew (by rw [AF.out.2.2.2.2.2.2.2.2.2.2.2.2.2.2]; exact Nat.le_refl _) _ _
      have hyb2 : y / 2 < 4294967296 := by omega
      obtain ⟨r, hr⟩ : ∃ r, G q (y / 2) = r := ⟨_, rfl⟩
      have hlook := run_look w5.drew M kp q (y / 2) _ m5 (by omega) hyb2 r (by rw [lp_below G (by omega) AYY.out.2.2]; exact hr)
      have cT1 := t5.cell 1
      have cX0 := x5.cell 0
      have cX1 := x5.cell 1
      simp only [List.getElem?_toArray, List.getElem?_cons_zero, List.getElem?_cons_succ] at cT1 cX0 cX1
      have A5 : Aside (Cells w5 X #[.int .u32 (q : Int), .int .u32 ((y / 2 : Nat) : Int)] 138 ∧ Cells w5 T #[.slice (some ⟨g, 0, none⟩) ls.length ls.length, .map (some M)] 134 ∧ Cc w5 g ls (i + 1) ∧ Mp w5 M kp (lp i m c (q + 1) G) ∧ Two g M w w5 ∧ G q (y / 2) = r) := ⟨x5, t5, g5, m5, tw5, hr⟩
      rw [eY]
      clear hw5 o5 x5 t5 g5 m5 tw5 hr fX0 fX1 fX1' cX1' eY
      obtain ⟨z, hz⟩ : ∃ z, y / 2 = z := ⟨_, rfl⟩
      rw [hz] at hlook cX1 A5 hyb2 ⊢
      have AYZ : Aside (c / 2 ^ (m - q) = z ∧ c / 2 ^ (m - (q + 1)) = y ∧ q + 1 ≤ m) := by have := AYY.out; rw [hz] at this; exact this
      clear AYY hz
      go_region
      have F := AF.out
      cases r with
      | some v =>
        clear hlook
        go_wp2_with fail
        first | (refine bodyPost_ret (results_none rfl _ _ _) rfl ?_) | go_end0 | go_ret | go_ret2
        refine ⟨rfl, ⟨A5.out.2.1, A5.out.2.2.1, _, A5.out.2.2.2.1.mono (by have := hI.out.2.2.1; omega), F.2.2.2.2.2.2.2.2.2.2.2.1.put F.2.2.2.2.2.2.2.2.1 hm F.2.2.2.2.2.2.2.2.2.2.1 hI.out.2.1 (fun _ => ?_)⟩, A5.out.2.2.2.2.1.drew⟩
        rw [show q + 1 - 1 = q by omega, AYZ.out.1, A5.out.2.2.2.2.2]
        rfl
      | none =>
        clear hlook
        obtain ⟨w7, hrun7, m7, gr7⟩ := run_put w5.drew.drew M kp q z (-1) _ A5.out.2.2.2.1 (by have := F.2.2.2.2.2.2.2.2.2.2.2.2.2.1; have := hI.out.2.2.1; omega) (by omega) hyb2 (by decide)
        have A7 : Aside (Mp w7 M (kp + 1) (lp i m c q G) ∧ w5.drew.drew.grownBy w7 (some M)) := ⟨m7.congr fun n x => by rw [← AYZ.out.1]; exact lp_next G (by have := AYZ.out.2.2; omega) n x, gr7⟩
        clear m7 gr7 F
        go_upto_region 7 with fail
        go_region
        go_wp2_with fail
        go_roundg q
        case measure => have := hI.out.1; omega
        case rel =>
          refine ⟨q, kp + 1, ⟨rfl, by have := hI.out.2.1; omega, by have := hI.out.2.2.1; omega, ?_, ?_, ?_, A7.out.1, A5.out.2.2.2.2.1.drew.drew.grown A7.out.2⟩⟩
          · have := (A7.out.2.block X A5.out.1.lt (by intro e; injection e with e; have := AF.out.2.2.1; omega)).trans A5.out.1
            rw [AYZ.out.1]
            exact this
          · exact (A7.out.2.block T A5.out.2.1.lt (by intro e; injection e with e; exact AF.out.2.2.2.2.1 e)).trans A5.out.2.1
          · exact A5.out.2.2.1.heap (A7.out.2.block g A5.out.2.2.1.lt (by intro e; injection e with e; exact AF.out.2.2.2.2.2.1 e))
end Go.Proofs.YtikdpnpkmmmacaaDoor

/-
  What the document's Kraft comes to: the sum of lengths, or none.
  Conditions: the lengths lie in memory.
-/
namespace Go.Proofs.YtikdpnpkmmmacaaDoor
open Go.RowKit
set_option linter.unusedVariables false
/-- Numbers that lie side by side. -/
def Lens (w : World) (a : Option Addr) (zs : List Int) : Prop := zs = [] ∨ ∃ (b o : Nat), a = some ⟨b, o, none⟩ ∧ ∀ (i : Nat) (z : Int), zs[i]? = some z → w.cell? ⟨b, o + i, none⟩ = some (.int .i64 z)
theorem Lens.below {w u : World} {a : Option Addr} {zs : List Int} (h : Lens w a zs) (k : Below w.heap.size w u) : Lens u a zs := by
  rcases h with h | ⟨b, o, ha, hc⟩
  · exact Or.inl h
  · exact Or.inr ⟨b, o, ha, fun i z hz => (k.cell (p := ⟨b, o + i, none⟩) (World.block_lt_of_cell? w ⟨b, o + i, none⟩ (hc i z hz))).trans (hc i z hz)⟩
/-- Lengths that may be. -/
abbrev Okl (zs : List Int) : Prop := zs.length ≤ 320 ∧ ∀ z ∈ zs, 0 ≤ z ∧ z ≤ 15
def lens (zs : List Int) : List Nat := zs.map Int.toNat
theorem kr_snoc : ∀ (ls : List Nat) (l : Nat), kr (ls ++ [l]) = kr ls + (if l = 0 then 0 else 2 ^ (15 - l))
  | [], l => by simp [kr]
  | x :: ls, l => by rw [List.cons_append, kr, kr, kr_snoc ls l]; omega
theorem take_one {α : Type} {l : List α} {k : Nat} {x : α} (h : l[k]? = some x) : l.take (k + 1) = l.take k ++ [x] := by rw [List.take_add_one, h]; rfl
theorem kr_le : ∀ (ls : List Nat), kr ls ≤ ls.length * 32768
  | [] => by simp [kr]
  | x :: ls => by
    have := kr_le ls
    rw [kr, List.length_cons, Nat.add_mul]
    by_cases h : x = 0
    · rw [if_pos h]; omega
    · rw [if_neg h]
      have : 2 ^ (15 - x) ≤ 2 ^ 15 := Nat.pow_le_pow_right (by decide) (by omega)
      omega
set_option maxRecDepth 100000 in
set_option maxHeartbeats 2000000 in
theorem rkraft_c (a : Option Addr) (zs : List Int) (L C r : Nat) (ok : Bool) (w : World) (h : Lens w a zs) (hL : zs.length = L) (hLb : L < 140737488355328) (hr : (Okl zs ∧ r = kr (lens zs) ∧ ok = true) ∨ (¬ Okl zs ∧ r = 0 ∧ ok = false)) :
    Calls Tryd.prog 45 #[.slice a L C] w fun e w' => e = .returned (.tuple #[.int .i64 (r : Int), .bool ok]) ∧ w = w' := by
  have AH : Aside (Lens w a zs ∧ zs.length = L ∧ L < 140737488355328) := ⟨h, hL, hLb⟩
  have AR : Aside ((Okl zs ∧ r = kr (lens zs) ∧ ok = true) ∨ (¬ Okl zs ∧ r = 0 ∧ ok = false)) := hr
  clear h hL hLb hr
  by_cases h320 : 320 < L
  · have h1 : (320 : Int) < (L : Int) := by omega
    have hno : Aside (r = 0 ∧ ok = false) := by
      rcases AR.out with ⟨h, _⟩ | h
      · have := h.1; have := AH.out; omega
      · exact h.2
    clear h320
    go_enter Tryd.func45, Tryd.ntmps45
    go_wp2_with fail
    first | go_ret | go_ret2
    obtain ⟨rfl, rfl⟩ := hno.out
    exact ⟨rfl, rfl⟩
  have h1 : ¬ (320 : Int) < (L : Int) := by omega
  have hLs : (L : Int) ≤ 320 := by omega
  go_enter Tryd.func45, Tryd.ntmps45
  go_wp2_with fail
  clear h1 h320
  go_loopg [4, 5] L (fun g ss si wr => ∃ (s i : Nat), ss = .int .i64 s ∧ si = .int .i64 i ∧ Aside (i + g = L ∧ s = kr (lens (zs.take i)) ∧ ∀ z ∈ zs.take i, 0 ≤ z ∧ z ≤ 15) ∧ w = wr)
  case atStart => exact ⟨0, 0, rfl, rfl, ⟨by omega, rfl, by simp⟩, rfl⟩
  case round =>
    obtain ⟨s, i, rfl, rfl, hI, hw⟩ := hrel
    subst hw
    by_cases hiL : i < L
    · have hi : (i : Int) < (L : Int) := by omega
      obtain ⟨z, hz⟩ : ∃ z, zs[i]? = some z := ⟨_, List.getElem?_eq_getElem (by have := AH.out; omega)⟩
      rcases AH.out.1 with e | ⟨b, o, rfl, hc⟩
      · rw [e] at hz; simp at hz
      have cz := hc i z hz
      have AZ : Aside (zs[i]? = some z ∧ i < L) := ⟨hz, hiL⟩
      clear hc hz hiL
      by_cases hbad : z < 0 ∨ 15 < z
      · have hno : Aside (r = 0 ∧ ok = false) := by
          rcases AR.out with ⟨h, _⟩ | h
          · have := h.2 z (List.mem_of_getElem? AZ.out.1); omega
          · exact h.2
        by_cases hneg : z < 0
        · clear hbad
          go_wp2_with fail
          first | go_ret | go_ret2
          obtain ⟨rfl, rfl⟩ := hno.out
          exact ⟨rfl, rfl⟩
        · have hgt : 15 < z := by omega
          clear hbad
          go_wp2_with fail
          first | go_ret | go_ret2
          obtain ⟨rfl, rfl⟩ := hno.out
          exact ⟨rfl, rfl⟩
      · have hz0 : ¬ z < 0 := by omega
        have hz15 : ¬ 15 < z := by omega
        obtain ⟨l, rfl⟩ : ∃ l : Nat, z = (l : Int) := ⟨z.toNat, by omega⟩
        have hnx : Aside (lens (zs.take (i + 1)) = lens (zs.take i) ++ [l] ∧ (∀ z ∈ zs.take (i + 1), 0 ≤ z ∧ z ≤ 15) ∧ s + (if l = 0 then 0 else 2 ^ (15 - l)) = kr (lens (zs.take (i + 1)))) := by
          have e1 : lens (zs.take (i + 1)) = lens (zs.take i) ++ [l] := by rw [take_one AZ.out.1]; simp [lens]
          refine ⟨e1, ?_, ?_⟩
          · intro y hy
            rw [take_one AZ.out.1] at hy
            rcases List.mem_append.1 hy with hy | hy
            · exact hI.out.2.2 y hy
            · rw [List.mem_singleton.1 hy]; omega
          · rw [e1, kr_snoc, hI.out.2.1]
        have hsb : s ≤ 10485760 := by
          rw [hI.out.2.1]
          have h2 := kr_le (lens (zs.take i))
          have h3 : (lens (zs.take i)).length ≤ 320 := by unfold lens; rw [List.length_map, List.length_take]; omega
          have := Nat.mul_le_mul_right 32768 h3
          omega
        have hib : (i : Int) < 320 := by have := AZ.out; omega
        by_cases hl0 : l = 0
        · subst hl0
          clear hbad hz0 hz15 hsb
          go_wp2_with fail
          have h1 := hnx.out; have h2 := hI.out; have h3 := AZ.out
          go_roundg (L - (i + 1))
          case measure => omega
          case rel => exact ⟨s, i + 1, rfl, by go_num, ⟨by omega, by have := h1.2.2; simpa using this, h1.2.1⟩, rfl⟩
        · have hlp : (0 : Int) < (l : Int) := by omega
          clear hbad
          go_upto_region 6 with fail
          obtain ⟨q, hq⟩ : ∃ q : Nat, 2 ^ (15 - l) = q := ⟨_, rfl⟩
          have hqi : (2 : Int) ^ (15 - l) = (q : Int) := by rw [← hq]; push_cast; rfl
          have hqb : q ≤ 32768 := by rw [← hq]; exact Nat.pow_le_pow_right (n := 2) (by decide) (show 15 - l ≤ 15 by omega)
          have hw : wrap64 ((s : Int) + wrap64 (q : Int)) = ((s + q : Nat) : Int) := by unfold wrap64; omega
          rw [hqi, hw]
          have hs2 : Aside (s + q = kr (lens (zs.take (i + 1)))) := by
            have := hnx.out.2.2
            rw [if_neg hl0, hq] at this
            exact this
          obtain ⟨s2, hs2e⟩ : ∃ s2, s + q = s2 := ⟨_, rfl⟩
          rw [hs2e] at hs2 ⊢
          clear hw hqi hqb hq hs2e hl0 hlp hz0 hz15 cz
          go_wp2_with fail
          have h1 := hnx.out; have h2 := hI.out; have h3 := AZ.out
          go_roundg (L - (i + 1))
          case measure => omega
          case rel => exact ⟨s2, i + 1, rfl, by go_num, ⟨by omega, hs2.out, h1.2.1⟩, rfl⟩
    · have hi : ¬ (i : Int) < (L : Int) := by omega
      have hyes : Aside (s = r ∧ ok = true) := by
        have e : zs.take i = zs := List.take_of_length_le (by have := AH.out; omega)
        have h1 := hI.out
        rw [e] at h1
        rcases AR.out with ⟨_, h2, h3⟩ | ⟨h2, _⟩
        · exact ⟨by rw [h1.2.1, h2], h3⟩
        · exact absurd ⟨by have := AH.out; omega, h1.2.2⟩ h2
      clear hiL
      go_wp2_with fail
      first | go_ret | go_ret2
      obtain ⟨rfl, rfl⟩ := hyes.out
      exact ⟨rfl, rfl⟩
end Go.Proofs.YtikdpnpkmmmacaaDoor

/-
  Rows of sixteen numbers, as the program counts lengths in them: how they are read and written whole, and what the program's count comes to.
  Conditions: the lengths lie in memory.
-/
namespace Go.Proofs.YtikdpnpkmmmacaaDoor
open Go.RowKit
set_option linter.unusedVariables false
def rw16 (f : Nat → Nat) : Array Value := ((List.range 16).map fun j => Value.int .u32 (f j : Nat)).toArray
theorem rw16_size (f : Nat → Nat) : (rw16 f).size = 16 := by simp [rw16]
theorem rw16_at (f : Nat → Nat) (j : Nat) (h : j < 16) : (rw16 f)[j]? = some (.int .u32 (f j : Nat)) := by simp [rw16, h]
theorem rw16_congr {f g : Nat → Nat} (h : ∀ j, j < 16 → f j = g j) : rw16 f = rw16 g := by
  unfold rw16
  exact congrArg List.toArray (List.map_congr_left fun j hj => by rw [h j (List.mem_range.1 hj)])
theorem rw16_set (f : Nat → Nat) (i x : Nat) : (rw16 f).setIfInBounds i (.int .u32 (x : Nat)) = rw16 (fun j => if j = i then x else f j) := by
  apply Array.ext_getElem?
  intro j
  by_cases hj : j < 16
  · rw [Array.getElem?_setIfInBounds, rw16_at _ _ hj, rw16_at _ _ hj, rw16_size]
    by_cases e : i = j
    · subst e; rw [if_pos rfl, if_pos hj, if_pos rfl]
    · rw [if_neg e, if_neg (fun h => e h.symm)]
  · rw [Array.getElem?_eq_none (by simp [rw16_size]; omega), Array.getElem?_eq_none (by rw [rw16_size]; omega)]
theorem rw16_one (f : Nat → Nat) : (rw16 f).all (·.oneCell') = true := by simp [rw16, Value.oneCell']
theorem set_row {w : World} {b : Nat} {cs : Array Value} {t : TypeId} (h : Cells w b cs t) (c : Array Value) : Cells (w.setRow b c) b c t := by
  unfold Cells at *
  simp [World.setRow, Array.getElem?_modify, h]
theorem only_row {w : World} {b : Nat} {cs : Array Value} {t : TypeId} (h : Cells w b cs t) (c : Array Value) : Only b w (w.setRow b c) :=
  ⟨rfl, rfl, rfl, by simp [World.setRow], fun k hk => by
    have : b ≠ k := fun e => hk e.symm
    simp [World.setRow, Array.getElem?_modify, this]⟩
theorem size59 : (Tryd.prog.info? 127).map (·.size) = some 16 := by kernel_rfl
theorem zero59 : Value.agg (rw16 fun _ => 0) = .agg #[.int .u32 0, .int .u32 0, .int .u32 0, .int .u32 0, .int .u32 0, .int .u32 0, .int .u32 0, .int .u32 0, .int .u32 0, .int .u32 0, .int .u32 0, .int .u32 0, .int .u32 0, .int .u32 0, .int .u32 0, .int .u32 0] := by rfl
theorem ret59 {w : World} {B : Nat} {f : Nat → Nat} (h : Cells w B (rw16 f) 127) : (loadVar 127 ⟨B, 0, none⟩).run Tryd.prog w = .ok (.agg (rw16 f)) w :=
  run_loadVar_row _ _ 127 127 _ (0, 0) _ h Tryd.underlying127 rfl (by rw [rw16_size]; exact size59)
set_option maxRecDepth 100000 in
set_option maxHeartbeats 2000000 in
theorem count_c (a : Option Addr) (zs : List Int) (L C : Nat) (f : Nat → Nat) (ok : Bool) (w : World) (h : Lens w a zs) (hL : zs.length = L) (hLb : L < 140737488355328) (hr : (Okl zs ∧ (f = fun j => (lens zs).count j) ∧ ok = true) ∨ (¬ Okl zs ∧ (f = fun _ => 0) ∧ ok = false)) :
    Calls Tryd.prog 77 #[.slice a L C] w fun e w' => e = .returned (.tuple #[.agg (rw16 f), .bool ok]) ∧ Below w.heap.size w w' := by
  have AH : Aside (Lens w a zs ∧ zs.length = L ∧ L < 140737488355328) := ⟨h, hL, hLb⟩
  have AR : Aside ((Okl zs ∧ (f = fun j => (lens zs).count j) ∧ ok = true) ∨ (¬ Okl zs ∧ (f = fun _ => 0) ∧ ok = false)) := hr
  clear h hL hLb hr
  obtain ⟨B, hB⟩ : ∃ B, w.heap.size = B := ⟨_, rfl⟩
  obtain ⟨w1, hw1⟩ : ∃ w1, w1 = w.alloc (.cells (rw16 fun _ => 0) 127) := ⟨_, rfl⟩
  obtain ⟨w2, hw2⟩ : ∃ w2, w2 = w1.alloc (.cells (rw16 fun _ => 0) 127) := ⟨_, rfl⟩
  have hB1 : w1.heap.size = B + 1 := by rw [hw1, ← hB]; exact Array.size_push _
  have c0 : Cells w2 B (rw16 fun _ => 0) 127 := by rw [hw2]; refine Cells.alloc ?_ _; rw [hw1, ← hB]; exact Cells.new w _ 127
  have c1 : Cells w2 (B + 1) (rw16 fun _ => 0) 127 := by rw [hw2, ← hB1]; exact Cells.new w1 _ 127
  have bel : Below B w w2 := by
    rw [hw2, hw1, ← hB]; exact ((Below.refl _ w).alloc (Nat.le_refl _) _).alloc (by show w.heap.size ≤ (w.heap.push _).size; rw [Array.size_push]; omega) _
  have AW : Aside (Cells w2 B (rw16 fun _ => 0) 127 ∧ Cells w2 (B + 1) (rw16 fun _ => 0) 127 ∧ Below B w w2 ∧ w.heap.size = B) := ⟨c0, c1, bel, hB⟩
  clear c0 c1 bel
  have hz : ∀ w', (zeroValue 127).run Tryd.prog w' = .ok (.agg (rw16 fun _ => 0)) w' := fun w' => by kernel_rfl
  have hb : (Tryd.prog.built 127 []).getD #[] = rw16 fun _ => 0 := by kernel_rfl
  have hf : (Tryd.prog.built 127 []).isSome = true := by kernel_rfl
  by_cases h320 : 320 < L
  · have h1 : (320 : Int) < (L : Int) := by omega
    have hno : Aside ((f = fun _ => 0) ∧ ok = false) := by
      rcases AR.out with ⟨h, _⟩ | h
      · have := h.1; have := AH.out; omega
      · exact h.2
    clear h320
    go_enter Tryd.func77, Tryd.ntmps77
    go_upto_region 3 with fail
    rw [← hw1, ← hw2]
    clear hw1 hw2 hB hB1
    go_wp2_with (refine wpList_store_row rfl 127 (.tmp 2) (.tmp 10) rfl B (rw16 fun _ => 0) rfl rfl 127 (rw16 fun _ => 0) AW.out.1 (by rw [rw16_size]; exact size59) rfl (rw16_one _) ?_)
    have hc := set_row AW.out.1 (rw16 fun _ => 0)
    have hbel := AW.out.2.2.1.trans ((only_row AW.out.1 (rw16 fun _ => 0)).below (Nat.le_refl _))
    (try simp only [Exit.inBlock, Exit.then])
    refine bodyPost_ret (v := .tuple #[.agg (rw16 fun _ => 0), .bool false]) ?_ rfl ?_
    · rw [results_cell_tmp rfl]
      simp [asAddr, Result.andThen, ret59 hc]
    · obtain ⟨rfl, rfl⟩ := hno.out
      exact ⟨rfl, by rw [AW.out.2.2.2]; exact hbel⟩
  have h1 : ¬ (320 : Int) < (L : Int) := by omega
  have hLs : (L : Int) ≤ 320 := by omega
  go_enter Tryd.func77, Tryd.ntmps77
  go_upto_region 4 with fail
  rw [← hw1, ← hw2]
  clear hw1 hw2 hB hB1 h320 h1
  go_wp2_with fail
  go_loopg [13] L (fun g si wr => ∃ (i : Nat), si = .int .i64 i ∧ Aside (i + g = L ∧ (∀ z ∈ zs.take i, 0 ≤ z ∧ z ≤ 15) ∧ Cells wr B (rw16 fun _ => 0) 127 ∧ Cells wr (B + 1) (rw16 fun j => (lens (zs.take i)).count j) 127 ∧ Below B w wr))
  case atStart => exact ⟨0, rfl, ⟨by omega, by simp, AW.out.1, AW.out.2.1, AW.out.2.2.1⟩⟩
  case round =>
    obtain ⟨i, rfl, hI⟩ := hrel
    by_cases hiL : i < L
    · have hi : (i : Int) < (L : Int) := by omega
      obtain ⟨z, hz1⟩ : ∃ z, zs[i]? = some z := ⟨_, List.getElem?_eq_getElem (by have := AH.out; omega)⟩
      rcases AH.out.1 with e | ⟨b, o, rfl, hc⟩
      · rw [e] at hz1; simp at hz1
      have hcw := hc i z hz1
      have cz : wr.cell? ⟨b, o + i, none⟩ = some (.int .i64 z) := (hI.out.2.2.2.2.cell (p := ⟨b, o + i, none⟩) (by have := World.block_lt_of_cell? w ⟨b, o + i, none⟩ hcw; rw [AW.out.2.2.2] at this; exact this)).trans hcw
      have AZ : Aside (zs[i]? = some z ∧ i < L) := ⟨hz1, hiL⟩
      clear hc hz1 hiL hcw
      by_cases hbad : z < 0 ∨ 15 < z
      · have hno : Aside ((f = fun _ => 0) ∧ ok = false) := by
          rcases AR.out with ⟨h, _⟩ | h
          · have := h.2 z (List.mem_of_getElem? AZ.out.1); omega
          · exact h.2
        have hc := set_row hI.out.2.2.1 (rw16 fun _ => 0)
        have hbel := hI.out.2.2.2.2.trans ((only_row hI.out.2.2.1 (rw16 fun _ => 0)).below (Nat.le_refl _))
        have AC : Aside (Cells (wr.setRow B (rw16 fun _ => 0)) B (rw16 fun _ => 0) 127 ∧ Below B w (wr.setRow B (rw16 fun _ => 0))) := ⟨hc, hbel⟩
        clear hc hbel
        by_cases hneg : z < 0
        · clear hbad
          go_wp2_with (refine wpList_store_row rfl 127 (.tmp 2) (.tmp 23) rfl B (rw16 fun _ => 0) rfl rfl 127 (rw16 fun _ => 0) hI.out.2.2.1 (by rw [rw16_size]; exact size59) rfl (rw16_one _) ?_)
          (try simp only [Exit.inBlock, Exit.then])
          refine bodyPost_ret (v := .tuple #[.agg (rw16 fun _ => 0), .bool false]) ?_ rfl ?_
          · rw [results_cell_tmp rfl]
            simp [asAddr, Result.andThen, ret59 AC.out.1]
          · obtain ⟨rfl, rfl⟩ := hno.out
            exact ⟨rfl, by rw [AW.out.2.2.2]; exact AC.out.2⟩
        · have hgt : 15 < z := by omega
          clear hbad
          go_wp2_with (refine wpList_store_row rfl 127 (.tmp 2) (.tmp 23) rfl B (rw16 fun _ => 0) rfl rfl 127 (rw16 fun _ => 0) hI.out.2.2.1 (by rw [rw16_size]; exact size59) rfl (rw16_one _) ?_)
          (try simp only [Exit.inBlock, Exit.then])
          refine bodyPost_ret (v := .tuple #[.agg (rw16 fun _ => 0), .bool false]) ?_ rfl ?_
          · rw [results_cell_tmp rfl]
            simp [asAddr, Result.andThen, ret59 AC.out.1]
          · obtain ⟨rfl, rfl⟩ := hno.out
            exact ⟨rfl, by rw [AW.out.2.2.2]; exact AC.out.2⟩
      · have hz0 : ¬ z < 0 := by omega
        have hz15 : ¬ 15 < z := by omega
        obtain ⟨l, rfl⟩ : ∃ l : Nat, z = (l : Int) := ⟨z.toNat, by omega⟩
        have hl16 : l < 16 := by omega
        have hnx : Aside ((∀ z ∈ zs.take (i + 1), 0 ≤ z ∧ z ≤ 15) ∧ ∀ j, (lens (zs.take (i + 1))).count j = if j = l then (lens (zs.take i)).count l + 1 else (lens (zs.take i)).count j) := by
          have e1 : lens (zs.take (i + 1)) = lens (zs.take i) ++ [l] := by rw [take_one AZ.out.1]; simp [lens]
          refine ⟨?_, ?_⟩
          · intro y hy
            rw [take_one AZ.out.1] at hy
            rcases List.mem_append.1 hy with hy | hy
            · exact hI.out.2.1 y hy
            · rw [List.mem_singleton.1 hy]; omega
          · intro j
            rw [e1, List.count_append]
            by_cases e : j = l
            · subst e; rw [if_pos rfl]; simp
            · rw [if_neg e]
              have : List.count j [l] = 0 := by rw [List.count_cons, List.count_nil]; simp; exact fun h => e h.symm
              omega
        obtain ⟨q, hq⟩ : ∃ q, (lens (zs.take i)).count l = q := ⟨_, rfl⟩
        have hqb : q ≤ 320 := by
          rw [← hq]
          have h2 := List.count_le_length (a := l) (l := lens (zs.take i))
          have h3 : (lens (zs.take i)).length ≤ 320 := by unfold lens; rw [List.length_map, List.length_take]; omega
          omega
        have cq : wr.cell? ⟨B + 1, l, none⟩ = some (.int .u32 (q : Int)) := by rw [hI.out.2.2.2.1.cell, rw16_at _ _ hl16, hq]
        have fq := hI.out.2.2.2.1.frozen l
        have AQ : Aside ((lens (zs.take i)).count l = q) := hq
        clear hbad hq
        have hlI : (l : Int) < 16 := by omega
        go_wp2_with fail
        go_roundg (L - (i + 1))
        case measure => have := hI.out.1; have := AZ.out.2; omega
        case rel =>
          refine ⟨i + 1, by go_num, ⟨by have := AZ.out.2; omega, hnx.out.1, ?_, ?_, ?_⟩⟩
          · exact hI.out.2.2.1.only ((Only.refl (B + 1) wr).setCell l _) (by omega)
          · have := hI.out.2.2.2.1.set l (.int .u32 ((q + 1 : Nat) : Int))
            rw [rw16_set] at this
            have e : (rw16 fun j => if j = l then q + 1 else (lens (zs.take i)).count j) = rw16 fun j => (lens (zs.take (i + 1))).count j := rw16_congr fun j _ => by
              rw [hnx.out.2 j, AQ.out]
            rw [e] at this
            exact this
          · exact hI.out.2.2.2.2.setCell (p := ⟨B + 1, l, none⟩) (by show B ≤ B + 1; omega) _
    · have hieq : i = L := by have := hI.out.1; omega
      have hni : ¬ (i : Int) < (L : Int) := by omega
      have hall : zs.take i = zs := List.take_of_length_le (by have := AH.out.2.1; omega)
      have hI2 := hI.out
      rw [hall] at hI2
      have hyes : Aside ((f = fun j => (lens zs).count j) ∧ ok = true) := by
        rcases AR.out with h | ⟨h, _⟩
        · exact h.2
        · exact absurd ⟨by have := AH.out.2.1; omega, hI2.2.1⟩ h
      have hc := set_row hI2.2.2.1 (rw16 fun j => (lens zs).count j)
      have hbel := hI2.2.2.2.2.trans ((only_row hI2.2.2.1 (rw16 fun j => (lens zs).count j)).below (Nat.le_refl _))
      have hc1 := hI2.2.2.2.1
      have hc0 := hI2.2.2.1
      obtain ⟨R, hR⟩ : ∃ R, (rw16 fun j => (lens zs).count j) = R := ⟨_, rfl⟩
      have hRs : R.size = 16 := by rw [← hR]; exact rw16_size _
      have hR1 : R.all (·.oneCell') = true := by rw [← hR]; exact rw16_one _
      rw [hR] at hc hbel hc1
      have AC : Aside (Cells (wr.setRow B R) B R 127 ∧ Below B w (wr.setRow B R) ∧ (rw16 fun j => (lens zs).count j) = R) := ⟨hc, hbel, hR⟩
      clear hI2 hI hc hbel hR hall hieq hiL
      go_wp2_with (first
        | (refine wpList_load_row rfl 127 (.tmp 4) rfl (B + 1) rfl 127 _ (0, 0) _ hc1 Tryd.underlying127 rfl (by rw [hRs]; exact size59) ?_)
        | (refine wpList_store_row rfl 127 (.tmp 2) (.tmp 30) rfl B R rfl rfl 127 (rw16 fun _ => 0) hc0 (by rw [hRs]; exact size59) (by rw [hRs]; rfl) hR1 ?_))
      (try simp only [Exit.inBlock, Exit.then])
      refine bodyPost_ret (v := .tuple #[.agg R, .bool true]) ?_ rfl ?_
      · rw [results_cell_tmp rfl]
        have := AC.out.1
        rw [← AC.out.2.2] at this ⊢
        simp [asAddr, Result.andThen, ret59 this]
      · obtain ⟨rfl, rfl⟩ := hyes.out
        exact ⟨by rw [AC.out.2.2], by rw [AW.out.2.2.2]; exact AC.out.2.1⟩
end Go.Proofs.YtikdpnpkmmmacaaDoor

/-
  Numbers and their bits: what a shift, a mask and an 'or' come to, as sums, quotients and remainders.
-/
namespace Go.Proofs.YtikdpnpkmmmacaaDoor
open Go.RowKit
theorem pow_le64 {n m : Nat} (h : n ≤ m) : 2 ^ n ≤ 2 ^ m := Nat.pow_le_pow_right (by decide) h
theorem lt_word {v n : Nat} (h : v < 2 ^ n) (h64 : n ≤ 64) : v < 18446744073709551616 := Nat.lt_of_lt_of_le h (pow_le64 h64)
theorem wrap64_nat {a : Nat} (h : a < 18446744073709551616) : IntKind.u64.wrap (a : Int) = (a : Int) := by rw [IntKind.wrap_u64]; omega
/-- A byte laid upon the bits below it. -/
theorem or_put (v n x : Nat) (hv : v < 2 ^ n) (hn : n ≤ 56) (hx : x < 256) : bits .or .u64 (v : Int) (IntKind.u64.wrap ((x : Int) * 2 ^ n)) = ((v + x * 2 ^ n : Nat) : Int) := by
  have h1 : x * 2 ^ n < 18446744073709551616 := by
    have := pow_le64 hn
    calc x * 2 ^ n ≤ 255 * 2 ^ 56 := Nat.mul_le_mul (by omega) this
      _ < _ := by decide
  have e : (x : Int) * 2 ^ n = ((x * 2 ^ n : Nat) : Int) := by push_cast; rfl
  rw [e, wrap64_nat h1]
  have h2 := lt_word hv (by omega)
  rw [u64_or_nat v _ h2 h1]
  congr 1
  rw [Nat.or_comm, Nat.mul_comm x, ← Nat.two_pow_add_eq_or_of_lt hv]
  omega
theorem put_lt (v n x : Nat) (hv : v < 2 ^ n) (hx : x < 256) : v + x * 2 ^ n < 2 ^ (n + 8) := by
  have : (x + 1) * 2 ^ n ≤ 256 * 2 ^ n := Nat.mul_le_mul (by omega) (Nat.le_refl _)
  rw [Nat.add_mul] at this
  rw [Nat.pow_add]
  omega
/-- The lowest k bits. -/
theorem and_mask (v k : Nat) (hv : v < 18446744073709551616) (hk : k ≤ 32) : bits .and .u64 (v : Int) (IntKind.u64.wrap (IntKind.u64.wrap (2 ^ k) - 1)) % 4294967296 = ((v % 2 ^ k : Nat) : Int) := by
  have h1 : 2 ^ k ≤ 4294967296 := pow_le64 hk
  have h0 : 0 < 2 ^ k := Nat.two_pow_pos k
  have e : (2 : Int) ^ k = ((2 ^ k : Nat) : Int) := by push_cast; rfl
  rw [e, wrap64_nat (by omega)]
  have e2 : ((2 ^ k : Nat) : Int) - 1 = ((2 ^ k - 1 : Nat) : Int) := by omega
  rw [e2, wrap64_nat (by omega), u64_and_nat v _ hv (by omega), Nat.and_two_pow_sub_one_eq_mod]
  have : v % 2 ^ k < 2 ^ k := Nat.mod_lt _ h0
  omega
theorem div_nat (v k : Nat) : (v : Int) / 2 ^ k = ((v / 2 ^ k : Nat) : Int) := by push_cast; rfl
theorem div_lt (v n k : Nat) (hv : v < 2 ^ n) (hk : k ≤ n) : v / 2 ^ k < 2 ^ (n - k) := by
  rw [Nat.div_lt_iff_lt_mul (Nat.two_pow_pos k), ← Nat.pow_add]
  rw [show n - k + k = n by omega]; exact hv
end Go.Proofs.YtikdpnpkmmmacaaDoor

/-
  Lists of bits and their numbers: what a list behind another one, its first bits and what is left behind them come to.
-/
namespace Go.Proofs.YtikdpnpkmmmacaaDoor
/-- The number of some bits, the first one lowest. -/
def nm : List Bool → Nat
  | [] => 0
  | b :: r => b.toNat + 2 * nm r
theorem nm_lt : ∀ l : List Bool, nm l < 2 ^ l.length
  | [] => by simp [nm]
  | b :: r => by
    have := nm_lt r
    rw [nm, List.length_cons, Nat.pow_succ]
    have : b.toNat ≤ 1 := Bool.toNat_le b
    omega
theorem nm_append : ∀ l r : List Bool, nm (l ++ r) = nm l + nm r * 2 ^ l.length
  | [], r => by simp [nm]
  | b :: l, r => by
    rw [List.cons_append, nm, nm, nm_append l r, List.length_cons, Nat.pow_succ', Nat.mul_left_comm]
    omega
theorem nm_take : ∀ (k : Nat) (l : List Bool), nm (l.take k) = nm l % 2 ^ k
  | 0, l => by simp [nm, Nat.mod_one]
  | k + 1, [] => by simp [nm]
  | k + 1, b :: l => by
    rw [List.take_succ_cons, nm, nm, nm_take k l, Nat.pow_succ', Nat.mod_mul]
    have : b.toNat ≤ 1 := Bool.toNat_le b
    rw [show (b.toNat + 2 * nm l) % 2 = b.toNat by omega, show (b.toNat + 2 * nm l) / 2 = nm l by omega]
theorem nm_drop : ∀ (k : Nat) (l : List Bool), nm (l.drop k) = nm l / 2 ^ k
  | 0, l => by simp
  | k + 1, [] => by simp [nm]
  | k + 1, b :: l => by
    rw [List.drop_succ_cons, nm, nm_drop k l, Nat.pow_succ', ← Nat.div_div_eq_div_mul]
    have : b.toNat ≤ 1 := Bool.toNat_le b
    rw [show (b.toNat + 2 * nm l) / 2 = nm l by omega]
/-- The lowest k bits of a number, the lowest one first. -/
def bitsOf (k x : Nat) : List Bool := (List.range k).map fun i => x / 2 ^ i % 2 == 1
theorem bitsOf_length (k x : Nat) : (bitsOf k x).length = k := by simp [bitsOf]
theorem bitsOf_succ (k x : Nat) : bitsOf (k + 1) x = bitsOf k x ++ [x / 2 ^ k % 2 == 1] := by
  simp [bitsOf, List.range_succ]
theorem nm_bitsOf : ∀ (k x : Nat), nm (bitsOf k x) = x % 2 ^ k
  | 0, x => by simp [bitsOf, nm, Nat.mod_one]
  | k + 1, x => by
    rw [bitsOf_succ, nm_append, nm_bitsOf k x, bitsOf_length, nm, nm, Nat.pow_succ, Nat.mod_mul]
    have h2 : x / 2 ^ k % 2 = 0 ∨ x / 2 ^ k % 2 = 1 := by omega
    rcases h2 with h2 | h2 <;> rw [h2] <;> simp
theorem nm_byte (x : Nat) (h : x < 256) : nm (bitsOf 8 x) = x := by rw [nm_bitsOf]; exact Nat.mod_eq_of_lt h
/-- From the end: one bit more ahead of what stands behind it. -/
theorem nm_ahead (l : List Bool) (k : Nat) (h : k < l.length) : nm (l.drop k) = (l[k]).toNat + 2 * nm (l.drop (k + 1)) := by
  rw [List.drop_eq_getElem_cons h, nm]
end Go.Proofs.YtikdpnpkmmmacaaDoor

/-
  What the document's own Bits and Number come to: a byte's bits as a list that is the call's own, and the number of a list of bits.
  Conditions: the byte is one; the list has at most 64 bits.
-/
namespace Go.Proofs.YtikdpnpkmmmacaaDoor
open Go.RowKit
theorem info4 : (Tryd.prog.info? 4).map (fun i => (i.zero, i.size, i.bytes)) = some (some (.bool false), 1, 1) := by kernel_rfl
/-- The values of some bits. -/
def vb (l : List Bool) : List Value := l.map Value.bool
theorem vb_length (l : List Bool) : (vb l).length = l.length := by simp [vb]
theorem vb_one {l : List Bool} : ∀ u ∈ vb l, u.oneCell' = true := by
  intro u hu
  obtain ⟨b, _, rfl⟩ := List.mem_map.1 hu
  rfl

/-- Where the bits of a list lie: nowhere, if it has none; else cell by cell. -/
def Lie (w : World) (a : Option Addr) (l : List Bool) : Prop := l = [] ∨ ∃ g off, a = some ⟨g, off, none⟩ ∧ ∀ i (h : i < l.length), w.cell? ⟨g, off + i, none⟩ = some (.bool l[i])

end Go.Proofs.YtikdpnpkmmmacaaDoor

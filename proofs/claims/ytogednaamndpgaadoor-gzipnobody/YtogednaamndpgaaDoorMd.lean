/-
  Own texts of this seat, one behind the other: what each says stands ahead of it.
-/
import Derived.Test.YtogednaamndpgaaDoorMc
import Derived.Deep.LoopGhost
import Derived.BigQuiet
import Derived.Deep.CutBlock
import Derived.Deep.DeepCutAuto
import Derived.WalkMore
import Derived.Test.YtogednaamndpgaaDoorMa
import Derived.Deep.WholeRow
import Derived.Laws.Rows
import Derived.Laws.Tables
import Derived.Laws.ResultCell
/-
  The program's table while it is laid, and what laying a symbol's code comes to.
-/
namespace Go.Proofs.YtogednaamndpgaaDoor
open Go.RowKit
set_option linter.unusedVariables false
/-- Of all blocks that are there g and M alone may have turned. -/
structure Two (g M : Nat) (w w' : World) : Prop where
  os : w'.os = w.os
  tape : w'.tape = w.tape
  output : w'.output = w.output
  size : w.heap.size ≤ w'.heap.size
  block : ∀ k, k < w.heap.size → k ≠ g → k ≠ M → w'.heap[k]? = w.heap[k]?
theorem Two.refl (g M : Nat) (w : World) : Two g M w w := ⟨rfl, rfl, rfl, Nat.le_refl _, fun _ _ _ _ => rfl⟩
theorem Two.trans {g M : Nat} {w u v : World} (h : Two g M w u) (k : Two g M u v) : Two g M w v :=
  ⟨k.os.trans h.os, k.tape.trans h.tape, k.output.trans h.output, Nat.le_trans h.size k.size, fun i hi h1 h2 => (k.block i (Nat.lt_of_lt_of_le hi h.size) h1 h2).trans (h.block i hi h1 h2)⟩
theorem Two.drew {g M : Nat} {w u : World} (h : Two g M w u) : Two g M w u.drew := ⟨h.os, h.tape, h.output, h.size, h.block⟩
theorem Two.drewN {g M : Nat} {w u : World} (h : Two g M w u) (n : Nat) : Two g M w (u.drewN n) := ⟨h.os, h.tape, h.output, h.size, h.block⟩
theorem Two.alloc {g M : Nat} {w u : World} (h : Two g M w u) (o : Obj) : Two g M w (u.alloc o) :=
  ⟨h.os, h.tape, h.output, Nat.le_trans h.size (by show u.heap.size ≤ (u.heap.push o).size; rw [Array.size_push]; omega), fun k hk h1 h2 => (Below.heap_alloc u o k (Nat.lt_of_lt_of_le hk h.size)).trans (h.block k hk h1 h2)⟩
theorem Two.setG {g M : Nat} {w u : World} (h : Two g M w u) (i : Nat) (v : Value) : Two g M w (u.setCell ⟨g, i, none⟩ v) :=
  h.trans ⟨rfl, rfl, rfl, by simp [World.setCell], fun k _ hk _ => Below.heap_setCell _ _ _ _ hk⟩
/-- A block that has come since may turn. -/
theorem Two.setNew {g M X : Nat} {w u : World} (h : Two g M w u) (hX : w.heap.size ≤ X) (i : Nat) (v : Value) : Two g M w (u.setCell ⟨X, i, none⟩ v) :=
  ⟨h.os, h.tape, h.output, by have := h.size; simp [World.setCell]; exact this, fun k hk h1 h2 => (Below.heap_setCell _ _ _ _ (by show k ≠ X; omega)).trans (h.block k hk h1 h2)⟩
theorem Two.grown {g M : Nat} {w u v : World} (h : Two g M w u) (k : u.grownBy v (some M)) : Two g M w v :=
  h.trans ⟨k.os, k.tape, k.output, k.size, fun i hi _ h2 => k.block i hi (fun e => h2 (by injection e))⟩
theorem Two.below {g M B : Nat} {w u : World} (h : Two g M w u) (hg : B ≤ g) (hM : B ≤ M) (hB : B ≤ w.heap.size) : Below B w u :=
  ⟨h.os, h.tape, h.output, h.size, fun k hk => h.block k (by omega) (by omega) (by omega)⟩
theorem Cells.two {g M b : Nat} {w u : World} {cs : Array Value} {t : TypeId} (h : Cells w b cs t) (k : Two g M w u) (h1 : b ≠ g) (h2 : b ≠ M) : Cells u b cs t := (k.block b h.lt h1 h2).trans h
/-- Cells of the codes: the length and the number of each symbol's code, of the first i symbols. -/
def Cc (w : World) (g : Nat) (ls : List Nat) (i : Nat) : Prop := ∃ cs, Cells w g cs 93 ∧ cs.size = 2 * ls.length ∧ ∀ (j m : Nat), ls[j]? = some m →
  (j < i ∧ 0 < m → cs[j * 2]? = some (.int .u32 (m : Int)) ∧ cs[j * 2 + 1]? = some (.int .u32 (code ls j m : Int))) ∧ (¬ (j < i ∧ 0 < m) → cs[j * 2]? = some (.int .u32 0) ∧ cs[j * 2 + 1]? = some (.int .u32 0))
/-- The program's table while it is laid. -/
structure Tq (w : World) (T g M k : Nat) (ls : List Nat) (i : Nat) : Prop where
  t : Cells w T #[.slice (some ⟨g, 0, none⟩) ls.length ls.length, .map (some M)] 89
  c : Cc w g ls i
  m : ∃ G, Mp w M k G ∧ Laidm ls i G
theorem Cc.skip {w : World} {g : Nat} {ls : List Nat} {i : Nat} (h : Cc w g ls i) (hi : ls[i]? = some 0) : Cc w g ls (i + 1) := by
  obtain ⟨cs, h1, h2, h3⟩ := h
  refine ⟨cs, h1, h2, fun j m hj => ⟨fun hc => (h3 j m hj).1 ⟨?_, hc.2⟩, fun hc => (h3 j m hj).2 fun hc2 => hc ⟨by omega, hc2.2⟩⟩⟩
  rcases (show j < i ∨ j = i by omega) with h4 | rfl
  · exact h4
  · rw [hi] at hj; cases hj; omega
theorem Cc.put {w : World} {g : Nat} {ls : List Nat} {i m : Nat} (h : Cc w g ls i) (hi : ls[i]? = some m) (hm : 0 < m) :
    Cc ((w.setCell ⟨g, i * 2, none⟩ (.int .u32 (m : Int))).setCell ⟨g, i * 2 + 1, none⟩ (.int .u32 (code ls i m : Int))) g ls (i + 1) := by
  obtain ⟨cs, h1, h2, h3⟩ := h
  have hil := lt_of_at hi
  refine ⟨_, (h1.set (i * 2) _).set (i * 2 + 1) _, by rw [Array.size_setIfInBounds, Array.size_setIfInBounds]; exact h2, fun j n hj => ?_⟩
  have hjl := lt_of_at hj
  by_cases e : j = i
  · subst e
    rw [hi] at hj; cases hj
    refine ⟨fun _ => ?_, fun hc => absurd ⟨by omega, hm⟩ hc⟩
    constructor
    · rw [Array.getElem?_setIfInBounds, if_neg (by omega), Array.getElem?_setIfInBounds, if_pos rfl, if_pos (by omega)]
    · rw [Array.getElem?_setIfInBounds, if_pos rfl, if_pos (by rw [Array.size_setIfInBounds]; omega)]
  · have e1 : ∀ q, q < 2 → ((cs.setIfInBounds (i * 2) (.int .u32 (m : Int))).setIfInBounds (i * 2 + 1) (.int .u32 (code ls i m : Int)))[j * 2 + q]? = cs[j * 2 + q]? := by
      intro q hq
      rw [Array.getElem?_setIfInBounds, if_neg (by omega), Array.getElem?_setIfInBounds, if_neg (by omega)]
    have e10 := e1 0 (by omega)
    have e11 := e1 1 (by omega)
    have e10' : ((cs.setIfInBounds (i * 2) (.int .u32 (m : Int))).setIfInBounds (i * 2 + 1) (.int .u32 (code ls i m : Int)))[j * 2]? = cs[j * 2]? := e10
    rw [e10', e11]
    exact ⟨fun hc => (h3 j n hj).1 ⟨by omega, hc.2⟩, fun hc => (h3 j n hj).2 fun hc2 => hc ⟨by omega, hc2.2⟩⟩
theorem Mp.mono {w : World} {M k k' : Nat} {G : Nat → Nat → Option Int} (h : Mp w M k G) (hk : k ≤ k') : Mp w M k' G := by
  obtain ⟨D, h1, h2⟩ := h
  exact ⟨D, h1.mono hk, h2⟩
theorem Cc.heap {w u : World} {g : Nat} {ls : List Nat} {i : Nat} (h : Cc w g ls i) (e : u.heap[g]? = w.heap[g]?) : Cc u g ls i := by
  obtain ⟨cs, h1, h2, h3⟩ := h
  exact ⟨cs, e.trans h1, h2, h3⟩
theorem Cc.lt {w : World} {g : Nat} {ls : List Nat} {i : Nat} (h : Cc w g ls i) : g < w.heap.size := by obtain ⟨cs, h1, _⟩ := h; exact h1.lt
/-- What lies in memory while a symbol's code is laid. -/
structure Ly (w0 w : World) (T g M X k i m c p : Nat) (ls : List Nat) (G : Nat → Nat → Option Int) : Prop where
  cx : Cells w X #[.int .u32 (p : Int), .int .u32 ((c / 2 ^ (m - p) : Nat) : Int)] 93
  ct : Cells w T #[.slice (some ⟨g, 0, none⟩) ls.length ls.length, .map (some M)] 89
  cc : Cc w g ls (i + 1)
  cm : Mp w M k (lp i m c p G)
  two : Two g M w0 w
theorem Ly.drew {w0 w : World} {T g M X k i m c p : Nat} {ls : List Nat} {G : Nat → Nat → Option Int} (h : Ly w0 w T g M X k i m c p ls G) : Ly w0 w.drew T g M X k i m c p ls G := ⟨h.cx, h.ct, h.cc, h.cm, h.two.drew⟩
theorem Ly.drewN {w0 w : World} {T g M X k i m c p : Nat} {ls : List Nat} {G : Nat → Nat → Option Int} (h : Ly w0 w T g M X k i m c p ls G) (n : Nat) : Ly w0 (w.drewN n) T g M X k i m c p ls G := ⟨h.cx, h.ct, h.cc, h.cm, h.two.drewN n⟩
theorem Ly.tq {w0 w : World} {T g M X k i m c p K : Nat} {ls : List Nat} {G : Nat → Nat → Option Int} (h : Ly w0 w T g M X k i m c p ls G) (hl : Laidm ls i G) (hi : ls[i]? = some m) (hm : 0 < m) (hc : code ls i m = c) (hp : p ≤ m) (hk : k ≤ K)
    (hend : 0 < p → (G (p - 1) (c / 2 ^ (m - (p - 1)))).isSome = true) : Tq w T g M K ls (i + 1) := ⟨h.ct, h.cc, _, h.cm.mono hk, hl.put hi hm hc hp hend⟩
set_option maxRecDepth 100000 in
set_option maxHeartbeats 4000000 in
theorem lay_c (T g M k i m c : Nat) (ls : List Nat) (w : World) (ht : Tq w T g M k ls i) (hL : ls.length ≤ 320) (hi : ls[i]? = some m) (hm : 0 < m) (hm15 : m ≤ 15) (hc : code ls i m = c) (hcb : c < 2 ^ m) (hk : k ≤ 1000000) (hTg : T ≠ g) (hTM : T ≠ M) (hgM : g ≠ M) :
    Calls Tryd.prog 59 #[.pointer (some ⟨T, 0, none⟩), .int .i64 (i : Int), .agg #[.int .u32 (m : Int), .int .u32 (c : Int)]] w fun e w' => e = .returned (.tuple #[]) ∧ Tq w' T g M (k + 16) ls (i + 1) ∧ Two g M w w' := by
  obtain ⟨tc, ⟨cs, cc1, cc2, cc3⟩, G, hG, hLd⟩ := ht
  have hil := lt_of_at hi
  obtain ⟨X, hX⟩ : ∃ X, w.heap.size = X := ⟨_, rfl⟩
  obtain ⟨L, hLe⟩ : ∃ L, ls.length = L := ⟨_, rfl⟩
  obtain ⟨w1, hw1⟩ : ∃ w1, w1 = w.alloc (.cells #[.int .u32 (m : Int), .int .u32 (c : Int)] 93) := ⟨_, rfl⟩
  have x1 : Cells w1 X #[.int .u32 (m : Int), .int .u32 (c : Int)] 93 := by rw [hw1, ← hX]; exact Cells.new w _ 93
  have g1 : Cells w1 g cs 93 := by rw [hw1]; exact cc1.alloc _
  have t1 : Cells w1 T #[.slice (some ⟨g, 0, none⟩) ls.length ls.length, .map (some M)] 89 := by rw [hw1]; exact tc.alloc _
  have m1 : Mp w1 M k G := by rw [hw1]; exact hG.heap (Below.heap_alloc w _ M hG.lt)
  have tw1 : Two g M w w1 := by rw [hw1]; exact (Two.refl g M w).alloc _
  have hTX : T < X := by rw [← hX]; exact tc.lt
  have hgX : g < X := by rw [← hX]; exact cc1.lt
  have hMX : M < X := by rw [← hX]; exact hG.lt
  have cT0 := t1.cell 0
  have cT1 := t1.cell 1
  have cX0 := x1.cell 0
  have cX1 := x1.cell 1
  have cg0 : ∃ v, w1.cell? ⟨g, i * 2, none⟩ = some v := ⟨_, by rw [g1.cell]; exact Array.getElem?_eq_getElem (by omega)⟩
  have cg1 : ∃ v, w1.cell? ⟨g, i * 2 + 1, none⟩ = some v := ⟨_, by rw [g1.cell]; exact Array.getElem?_eq_getElem (by omega)⟩
  obtain ⟨y0, cg0⟩ := cg0
  obtain ⟨y1, cg1⟩ := cg1
  have fg0 := g1.frozen (i * 2)
  have fg1 := g1.frozen (i * 2 + 1)
  have cg1' : (w1.setCell ⟨g, i * 2, none⟩ (.int .u32 (m : Int))).cell? ⟨g, i * 2 + 1, none⟩ = some y1 := by
    rw [(g1.set (i * 2) _).cell, Array.getElem?_setIfInBounds, if_neg (by omega), ← g1.cell]; exact cg1
  have fg1' := (g1.set (i * 2) (.int .u32 (m : Int))).frozen (i * 2 + 1)
  rw [hLe] at cT0
  simp only [List.getElem?_toArray, List.getElem?_cons_zero, List.getElem?_cons_succ] at cT0 cT1 cX0 cX1
  have hiL : (i : Int) < (L : Int) := by omega
  have AH : Aside (Cells w1 X #[.int .u32 (m : Int), .int .u32 (c : Int)] 93 ∧ Cc w1 g ls i ∧ Cells w1 g cs 93 ∧ Cells w1 T #[.slice (some ⟨g, 0, none⟩) ls.length ls.length, .map (some M)] 89 ∧ Mp w1 M k G ∧ Two g M w w1) := ⟨x1, ⟨cs, g1, cc2, cc3⟩, g1, t1, m1, tw1⟩
  have AF : Aside (T < X ∧ g < X ∧ M < X ∧ T ≠ g ∧ T ≠ M ∧ g ≠ M ∧ i < ls.length ∧ ls.length ≤ 320 ∧ ls[i]? = some m ∧ 0 < m ∧ code ls i m = c ∧ Laidm ls i G ∧ c < 2 ^ m ∧ k ≤ 1000000 ∧ w.heap.size = X) := ⟨hTX, hgX, hMX, hTg, hTM, hgM, hil, hL, hi, hm, hc, hLd, hcb, hk, hX⟩
  clear x1 g1 t1 m1 tw1 hTX hgX hMX hTg hTM hgM hil hL hi hc hLd hcb hk hX tc cc1 cc2 cc3 hG hLe
  go_enter Tryd.func59, Tryd.ntmps59
  have hwX := AF.out.2.2.2.2.2.2.2.2.2.2.2.2.2.2
  go_upto_region 1 with fail
  rw [← hw1]
  clear hw1 hwX
  go_region
  obtain ⟨w2, hw2⟩ : ∃ w2, w2 = ((w1.setCell ⟨g, i * 2, none⟩ (.int .u32 (m : Int))).setCell ⟨g, i * 2 + 1, none⟩ (.int .u32 (c : Int))).drew := ⟨_, rfl⟩
  rw [← hw2]
  have o2 : Only g w1 w2 := by rw [hw2]; exact (((Only.refl g w1).setCell _ _).setCell _ _).drew
  have x2 : Cells w2 X #[.int .u32 (m : Int), .int .u32 (c : Int)] 93 := AH.out.1.only o2 (by have := AF.out.2.1; omega)
  have t2 : Cells w2 T #[.slice (some ⟨g, 0, none⟩) ls.length ls.length, .map (some M)] 89 := AH.out.2.2.2.1.only o2 AF.out.2.2.2.1
  have m2 : Mp w2 M k G := AH.out.2.2.2.2.1.only o2 (fun e => AF.out.2.2.2.2.2.1 e.symm)
  have g2 : Cc w2 g ls (i + 1) := by
    have hc1 := AH.out.2.1
    have := hc1.put AF.out.2.2.2.2.2.2.2.2.1 hm
    rw [AF.out.2.2.2.2.2.2.2.2.2.2.1] at this
    rw [hw2]; exact this
  have tw2 : Two g M w w2 := by rw [hw2]; exact ((AH.out.2.2.2.2.2.setG _ _).setG _ _).drew
  have hcb32 : c < 4294967296 := by have := AF.out.2.2.2.2.2.2.2.2.2.2.2.2.1; have h2 : 2 ^ m ≤ 2 ^ 15 := Nat.pow_le_pow_right (by decide) hm15; omega
  have hiw : (Lit.int .i64 (i : Int)).wf = true := WalkArith.wf_i64 (by have := AF.out.2.2.2.2.2.2.1; have := AF.out.2.2.2.2.2.2.2.1; omega)
  obtain ⟨w3, hrun, m3, gr3⟩ := run_put w2.drew M k m c (i : Int) G m2 (by have := AF.out; omega) (by omega) hcb32 hiw
  have cT1 := t2.cell 1
  have cX0 := x2.cell 0
  have cX1 := x2.cell 1
  simp only [List.getElem?_toArray, List.getElem?_cons_zero, List.getElem?_cons_succ] at cT1 cX0 cX1
  have A2 : Aside (Cells w2 X #[.int .u32 (m : Int), .int .u32 (c : Int)] 93 ∧ Cells w2 T #[.slice (some ⟨g, 0, none⟩) ls.length ls.length, .map (some M)] 89 ∧ Cc w2 g ls (i + 1) ∧ Two g M w w2) := ⟨x2, t2, g2, tw2⟩
  have A3 : Aside (Mp w3 M (k + 1) (lp i m c m G) ∧ w2.drew.grownBy w3 (some M)) := ⟨m3.congr fun n x => lp_first i m c G n x, gr3⟩
  clear hw2 o2 x2 t2 m2 g2 tw2 m3 gr3 hiw cg0 cg1 cg1' fg0 fg1 fg1' cT0 AH
  go_upto_region 2 with fail
  go_region
  have hly : Ly w w3 T g M X (k + 1) i m c m ls G := by
    have hsz := A2.out.2.2.2.size
    refine ⟨?_, ?_, ?_, A3.out.1, A2.out.2.2.2.drew.grown A3.out.2⟩
    · have := (A3.out.2.block X A2.out.1.lt (by intro e; injection e with e; have := AF.out.2.2.1; omega)).trans A2.out.1
      rw [Nat.sub_self, Nat.pow_zero, Nat.div_one]
      exact this
    · exact (A3.out.2.block T A2.out.2.1.lt (by intro e; injection e with e; exact AF.out.2.2.2.2.1 e)).trans A2.out.2.1
    · exact A2.out.2.2.1.heap (A3.out.2.block g A2.out.2.2.1.lt (by intro e; injection e with e; exact AF.out.2.2.2.2.2.1 e))
  have AY : Aside (Ly w w3 T g M X (k + 1) i m c m ls G) := hly
  clear hly A2 A3 hrun cT1 cX0 cX1
  go_wp2_with fail
  go_loopg [] m (fun gg wr => ∃ (p kp : Nat), Aside (p = gg ∧ p ≤ m ∧ kp + p ≤ k + 1 + m ∧ Ly w wr T g M X kp i m c p ls G))
  case atStart => exact ⟨m, k + 1, ⟨rfl, Nat.le_refl _, Nat.le_refl _, AY.out⟩⟩
  case round =>
    obtain ⟨p, kp, hI⟩ := hrel
    have cX0 := hI.out.2.2.2.cx.cell 0
    have cX1 := hI.out.2.2.2.cx.cell 1
    simp only [List.getElem?_toArray, List.getElem?_cons_zero, List.getElem?_cons_succ] at cX0 cX1
    by_cases hp : p = 0
    · subst hp
      go_wp2_with fail
      first | go_end0 | go_ret | go_ret2
      have F := AF.out
      exact ⟨rfl, hI.out.2.2.2.tq F.2.2.2.2.2.2.2.2.2.2.2.1 F.2.2.2.2.2.2.2.2.1 hm F.2.2.2.2.2.2.2.2.2.2.1 (Nat.zero_le _) (by have := hI.out.2.2.1; omega) (fun h => absurd h (by omega)), hI.out.2.2.2.two⟩
    · obtain ⟨q, rfl⟩ : ∃ q, p = q + 1 := ⟨p - 1, by omega⟩
      obtain ⟨y, hy⟩ : ∃ y, c / 2 ^ (m - (q + 1)) = y := ⟨_, rfl⟩
      rw [hy] at cX1
      have hyb : y < 4294967296 := by rw [← hy]; exact Nat.lt_of_le_of_lt (Nat.div_le_self _ _) hcb32
      have hq15 : q + 1 ≤ 15 := by have := hI.out.2.1; omega
      have fX0 := hI.out.2.2.2.cx.frozen 0
      have fX1 := hI.out.2.2.2.cx.frozen 1
      have hy2 : c / 2 ^ (m - q) = y / 2 := by
        rw [← hy, Nat.div_div_eq_div_mul, ← Nat.pow_succ, show (m - (q + 1)).succ = m - q by have := hI.out.2.1; omega]
      have hXs := hI.out.2.2.2.cx.set 0 (.int .u32 (q : Int))
      have fX1' := hXs.frozen 1
      have cX1' : (wr.setCell ⟨X, 0, none⟩ (.int .u32 (q : Int))).cell? ⟨X, 1, none⟩ = some (.int .u32 (y : Int)) := by
        rw [hXs.cell 1, ← hy]; rfl
      have AYY : Aside (c / 2 ^ (m - q) = y / 2 ∧ c / 2 ^ (m - (q + 1)) = y ∧ q + 1 ≤ m) := ⟨hy2, hy, hI.out.2.1⟩
      clear hp hy hy2 hXs
      go_upto_region 5 with fail
      obtain ⟨w5, hw5⟩ : ∃ w5, w5 = (wr.setCell ⟨X, 0, none⟩ (.int .u32 (q : Int))).setCell ⟨X, 1, none⟩ (.int .u32 ((y : Int) / 2)) := ⟨_, rfl⟩
      rw [← hw5]
      have o5 : Only X wr w5 := by rw [hw5]; exact ((Only.refl X wr).setCell _ _).setCell _ _
      have eY : ((y : Int) / 2) = ((y / 2 : Nat) : Int) := by omega
      have x5 : Cells w5 X #[.int .u32 (q : Int), .int .u32 ((y / 2 : Nat) : Int)] 93 := by
        rw [hw5, eY]; exact (hI.out.2.2.2.cx.set 0 _).set 1 _
      have t5 : Cells w5 T #[.slice (some ⟨g, 0, none⟩) ls.length ls.length, .map (some M)] 89 := hI.out.2.2.2.ct.only o5 (by have := AF.out.1; omega)
      have g5 : Cc w5 g ls (i + 1) := hI.out.2.2.2.cc.heap (o5.block g (by have := AF.out.2.1; omega))
      have m5 : Mp w5 M kp (lp i m c (q + 1) G) := hI.out.2.2.2.cm.only o5 (by have := AF.out.2.2.1; omega)
      have tw5 : Two g M w w5 := by
        rw [hw5]; exact (hI.out.2.2.2.two.setNew (by rw [AF.out.2.2.2.2.2.2.2.2.2.2.2.2.2.2]; exact Nat.le_refl _) _ _).setNew (by rw [AF.out.2.2.2.2.2.2.2.2.2.2.2.2.2.2]; exact Nat.le_refl _) _ _
      have hyb2 : y / 2 < 4294967296 := by omega
      obtain ⟨r, hr⟩ : ∃ r, G q (y / 2) = r := ⟨_, rfl⟩
      have hlook := run_look w5.drew M kp q (y / 2) _ m5 (by omega) hyb2 r (by rw [lp_below G (by omega) AYY.out.2.2]; exact hr)
      have cT1 := t5.cell 1
      have cX0 := x5.cell 0
      have cX1 := x5.cell 1
      simp only [List.getElem?_toArray, List.getElem?_cons_zero, List.getElem?_cons_succ] at cT1 cX0 cX1
      have A5 : Aside (Cells w5 X #[.int .u32 (q : Int), .int .u32 ((y / 2 : Nat) : Int)] 93 ∧ Cells w5 T #[.slice (some ⟨g, 0, none⟩) ls.length ls.length, .map (some M)] 89 ∧ Cc w5 g ls (i + 1) ∧ Mp w5 M kp (lp i m c (q + 1) G) ∧ Two g M w w5 ∧ G q (y / 2) = r) := ⟨x5, t5, g5, m5, tw5, hr⟩
      rw [eY]
      clear hw5 o5 x5 t5 g5 m5 tw5 hr fX0 fX1 fX1' cX1' eY
      obtain ⟨z, hz⟩ : ∃ z, y / 2 = z := ⟨_, rfl⟩
      rw [hz] at hlook cX1 A5 hyb2 ⊢
      have AYZ : Aside (c / 2 ^ (m - q) = z ∧ c / 2 ^ (m - (q + 1)) = y ∧ q + 1 ≤ m) := by have := AYY.out; rw [hz] at this; exact this
      clear AYY hz
      go_region
      have F := AF.out
      cases r with
      | some v =>
        clear hlook
        go_wp2_with fail
        first | (refine bodyPost_ret (results_none rfl _ _ _) rfl ?_) | go_end0 | go_ret | go_ret2
        refine ⟨rfl, ⟨A5.out.2.1, A5.out.2.2.1, _, A5.out.2.2.2.1.mono (by have := hI.out.2.2.1; omega), F.2.2.2.2.2.2.2.2.2.2.2.1.put F.2.2.2.2.2.2.2.2.1 hm F.2.2.2.2.2.2.2.2.2.2.1 hI.out.2.1 (fun _ => ?_)⟩, A5.out.2.2.2.2.1.drew⟩
        rw [show q + 1 - 1 = q by omega, AYZ.out.1, A5.out.2.2.2.2.2]
        rfl
      | none =>
        clear hlook
        obtain ⟨w7, hrun7, m7, gr7⟩ := run_put w5.drew.drew M kp q z (-1) _ A5.out.2.2.2.1 (by have := F.2.2.2.2.2.2.2.2.2.2.2.2.2.1; have := hI.out.2.2.1; omega) (by omega) hyb2 (by decide)
        have A7 : Aside (Mp w7 M (kp + 1) (lp i m c q G) ∧ w5.drew.drew.grownBy w7 (some M)) := ⟨m7.congr fun n x => by rw [← AYZ.out.1]; exact lp_next G (by have := AYZ.out.2.2; omega) n x, gr7⟩
        clear m7 gr7 F
        go_upto_region 7 with fail
        go_region
        go_wp2_with fail
        go_roundg q
        case measure => have := hI.out.1; omega
        case rel =>
          refine ⟨q, kp + 1, ⟨rfl, by have := hI.out.2.1; omega, by have := hI.out.2.2.1; omega, ?_, ?_, ?_, A7.out.1, A5.out.2.2.2.2.1.drew.drew.grown A7.out.2⟩⟩
          · have := (A7.out.2.block X A5.out.1.lt (by intro e; injection e with e; have := AF.out.2.2.1; omega)).trans A5.out.1
            rw [AYZ.out.1]
            exact this
          · exact (A7.out.2.block T A5.out.2.1.lt (by intro e; injection e with e; exact AF.out.2.2.2.2.1 e)).trans A5.out.2.1
          · exact A5.out.2.2.1.heap (A7.out.2.block g A5.out.2.2.1.lt (by intro e; injection e with e; exact AF.out.2.2.2.2.2.1 e))
end Go.Proofs.YtogednaamndpgaaDoor

/-
  Rows of sixteen numbers, as the program counts lengths in them: how they are read and written whole, and what the program's count comes to.
  Conditions: the lengths lie in memory.
-/
namespace Go.Proofs.YtogednaamndpgaaDoor
open Go.RowKit
set_option linter.unusedVariables false
def rw16 (f : Nat → Nat) : Array Value := ((List.range 16).map fun j => Value.int .u32 (f j : Nat)).toArray
theorem rw16_size (f : Nat → Nat) : (rw16 f).size = 16 := by simp [rw16]
theorem rw16_at (f : Nat → Nat) (j : Nat) (h : j < 16) : (rw16 f)[j]? = some (.int .u32 (f j : Nat)) := by simp [rw16, h]
theorem rw16_congr {f g : Nat → Nat} (h : ∀ j, j < 16 → f j = g j) : rw16 f = rw16 g := by
  unfold rw16
  exact congrArg List.toArray (List.map_congr_left fun j hj => by rw [h j (List.mem_range.1 hj)])
theorem rw16_set (f : Nat → Nat) (i x : Nat) : (rw16 f).setIfInBounds i (.int .u32 (x : Nat)) = rw16 (fun j => if j = i then x else f j) := by
  apply Array.ext_getElem?
  intro j
  by_cases hj : j < 16
  · rw [Array.getElem?_setIfInBounds, rw16_at _ _ hj, rw16_at _ _ hj, rw16_size]
    by_cases e : i = j
    · subst e; rw [if_pos rfl, if_pos hj, if_pos rfl]
    · rw [if_neg e, if_neg (fun h => e h.symm)]
  · rw [Array.getElem?_eq_none (by simp [rw16_size]; omega), Array.getElem?_eq_none (by rw [rw16_size]; omega)]
theorem rw16_one (f : Nat → Nat) : (rw16 f).all (·.oneCell') = true := by simp [rw16, Value.oneCell']
theorem set_row {w : World} {b : Nat} {cs : Array Value} {t : TypeId} (h : Cells w b cs t) (c : Array Value) : Cells (w.setRow b c) b c t := by
  unfold Cells at *
  simp [World.setRow, Array.getElem?_modify, h]
theorem only_row {w : World} {b : Nat} {cs : Array Value} {t : TypeId} (h : Cells w b cs t) (c : Array Value) : Only b w (w.setRow b c) :=
  ⟨rfl, rfl, rfl, by simp [World.setRow], fun k hk => by
    have : b ≠ k := fun e => hk e.symm
    simp [World.setRow, Array.getElem?_modify, this]⟩
theorem size59 : (Tryd.prog.info? 82).map (·.size) = some 16 := by kernel_rfl
theorem zero59 : Value.agg (rw16 fun _ => 0) = .agg #[.int .u32 0, .int .u32 0, .int .u32 0, .int .u32 0, .int .u32 0, .int .u32 0, .int .u32 0, .int .u32 0, .int .u32 0, .int .u32 0, .int .u32 0, .int .u32 0, .int .u32 0, .int .u32 0, .int .u32 0, .int .u32 0] := by rfl
theorem ret59 {w : World} {B : Nat} {f : Nat → Nat} (h : Cells w B (rw16 f) 82) : (loadVar 82 ⟨B, 0, none⟩).run Tryd.prog w = .ok (.agg (rw16 f)) w :=
  run_loadVar_row _ _ 82 82 _ (0, 0) _ h Tryd.underlying82 rfl (by rw [rw16_size]; exact size59)
set_option maxRecDepth 100000 in
set_option maxHeartbeats 2000000 in
theorem count_c (a : Option Addr) (zs : List Int) (L C : Nat) (f : Nat → Nat) (ok : Bool) (w : World) (h : Lens w a zs) (hL : zs.length = L) (hLb : L < 140737488355328) (hr : (Okl zs ∧ (f = fun j => (lens zs).count j) ∧ ok = true) ∨ (¬ Okl zs ∧ (f = fun _ => 0) ∧ ok = false)) :
    Calls Tryd.prog 56 #[.slice a L C] w fun e w' => e = .returned (.tuple #[.agg (rw16 f), .bool ok]) ∧ Below w.heap.size w w' := by
  have AH : Aside (Lens w a zs ∧ zs.length = L ∧ L < 140737488355328) := ⟨h, hL, hLb⟩
  have AR : Aside ((Okl zs ∧ (f = fun j => (lens zs).count j) ∧ ok = true) ∨ (¬ Okl zs ∧ (f = fun _ => 0) ∧ ok = false)) := hr
  clear h hL hLb hr
  obtain ⟨B, hB⟩ : ∃ B, w.heap.size = B := ⟨_, rfl⟩
  obtain ⟨w1, hw1⟩ : ∃ w1, w1 = w.alloc (.cells (rw16 fun _ => 0) 82) := ⟨_, rfl⟩
  obtain ⟨w2, hw2⟩ : ∃ w2, w2 = w1.alloc (.cells (rw16 fun _ => 0) 82) := ⟨_, rfl⟩
  have hB1 : w1.heap.size = B + 1 := by rw [hw1, ← hB]; exact Array.size_push _
  have c0 : Cells w2 B (rw16 fun _ => 0) 82 := by rw [hw2]; refine Cells.alloc ?_ _; rw [hw1, ← hB]; exact Cells.new w _ 82
  have c1 : Cells w2 (B + 1) (rw16 fun _ => 0) 82 := by rw [hw2, ← hB1]; exact Cells.new w1 _ 82
  have bel : Below B w w2 := by
    rw [hw2, hw1, ← hB]; exact ((Below.refl _ w).alloc (Nat.le_refl _) _).alloc (by show w.heap.size ≤ (w.heap.push _).size; rw [Array.size_push]; omega) _
  have AW : Aside (Cells w2 B (rw16 fun _ => 0) 82 ∧ Cells w2 (B + 1) (rw16 fun _ => 0) 82 ∧ Below B w w2 ∧ w.heap.size = B) := ⟨c0, c1, bel, hB⟩
  clear c0 c1 bel
  have hz : ∀ w', (zeroValue 82).run Tryd.prog w' = .ok (.agg (rw16 fun _ => 0)) w' := fun w' => by kernel_rfl
  have hb : (Tryd.prog.built 82 []).getD #[] = rw16 fun _ => 0 := by kernel_rfl
  have hf : (Tryd.prog.built 82 []).isSome = true := by kernel_rfl
  by_cases h320 : 320 < L
  · have h1 : (320 : Int) < (L : Int) := by omega
    have hno : Aside ((f = fun _ => 0) ∧ ok = false) := by
      rcases AR.out with ⟨h, _⟩ | h
      · have := h.1; have := AH.out; omega
      · exact h.2
    clear h320
    go_enter Tryd.func56, Tryd.ntmps56
    go_upto_region 3 with fail
    rw [← hw1, ← hw2]
    clear hw1 hw2 hB hB1
    go_wp2_with (refine wpList_store_row rfl 82 (.tmp 2) (.tmp 10) rfl B (rw16 fun _ => 0) rfl rfl 82 (rw16 fun _ => 0) AW.out.1 (by rw [rw16_size]; exact size59) rfl (rw16_one _) ?_)
    have hc := set_row AW.out.1 (rw16 fun _ => 0)
    have hbel := AW.out.2.2.1.trans ((only_row AW.out.1 (rw16 fun _ => 0)).below (Nat.le_refl _))
    (try simp only [Exit.inBlock, Exit.then])
    refine bodyPost_ret (v := .tuple #[.agg (rw16 fun _ => 0), .bool false]) ?_ rfl ?_
    · rw [results_cell_tmp rfl]
      simp [asAddr, Result.andThen, ret59 hc]
    · obtain ⟨rfl, rfl⟩ := hno.out
      exact ⟨rfl, by rw [AW.out.2.2.2]; exact hbel⟩
  have h1 : ¬ (320 : Int) < (L : Int) := by omega
  have hLs : (L : Int) ≤ 320 := by omega
  go_enter Tryd.func56, Tryd.ntmps56
  go_upto_region 4 with fail
  rw [← hw1, ← hw2]
  clear hw1 hw2 hB hB1 h320 h1
  go_wp2_with fail
  go_loopg [13] L (fun g si wr => ∃ (i : Nat), si = .int .i64 i ∧ Aside (i + g = L ∧ (∀ z ∈ zs.take i, 0 ≤ z ∧ z ≤ 15) ∧ Cells wr B (rw16 fun _ => 0) 82 ∧ Cells wr (B + 1) (rw16 fun j => (lens (zs.take i)).count j) 82 ∧ Below B w wr))
  case atStart => exact ⟨0, rfl, ⟨by omega, by simp, AW.out.1, AW.out.2.1, AW.out.2.2.1⟩⟩
  case round =>
    obtain ⟨i, rfl, hI⟩ := hrel
    by_cases hiL : i < L
    · have hi : (i : Int) < (L : Int) := by omega
      obtain ⟨z, hz1⟩ : ∃ z, zs[i]? = some z := ⟨_, List.getElem?_eq_getElem (by have := AH.out; omega)⟩
      rcases AH.out.1 with e | ⟨b, o, rfl, hc⟩
      · rw [e] at hz1; simp at hz1
      have hcw := hc i z hz1
      have cz : wr.cell? ⟨b, o + i, none⟩ = some (.int .i64 z) := (hI.out.2.2.2.2.cell (p := ⟨b, o + i, none⟩) (by have := World.block_lt_of_cell? w ⟨b, o + i, none⟩ hcw; rw [AW.out.2.2.2] at this; exact this)).trans hcw
      have AZ : Aside (zs[i]? = some z ∧ i < L) := ⟨hz1, hiL⟩
      clear hc hz1 hiL hcw
      by_cases hbad : z < 0 ∨ 15 < z
      · have hno : Aside ((f = fun _ => 0) ∧ ok = false) := by
          rcases AR.out with ⟨h, _⟩ | h
          · have := h.2 z (List.mem_of_getElem? AZ.out.1); omega
          · exact h.2
        have hc := set_row hI.out.2.2.1 (rw16 fun _ => 0)
        have hbel := hI.out.2.2.2.2.trans ((only_row hI.out.2.2.1 (rw16 fun _ => 0)).below (Nat.le_refl _))
        have AC : Aside (Cells (wr.setRow B (rw16 fun _ => 0)) B (rw16 fun _ => 0) 82 ∧ Below B w (wr.setRow B (rw16 fun _ => 0))) := ⟨hc, hbel⟩
        clear hc hbel
        by_cases hneg : z < 0
        · clear hbad
          go_wp2_with (refine wpList_store_row rfl 82 (.tmp 2) (.tmp 23) rfl B (rw16 fun _ => 0) rfl rfl 82 (rw16 fun _ => 0) hI.out.2.2.1 (by rw [rw16_size]; exact size59) rfl (rw16_one _) ?_)
          (try simp only [Exit.inBlock, Exit.then])
          refine bodyPost_ret (v := .tuple #[.agg (rw16 fun _ => 0), .bool false]) ?_ rfl ?_
          · rw [results_cell_tmp rfl]
            simp [asAddr, Result.andThen, ret59 AC.out.1]
          · obtain ⟨rfl, rfl⟩ := hno.out
            exact ⟨rfl, by rw [AW.out.2.2.2]; exact AC.out.2⟩
        · have hgt : 15 < z := by omega
          clear hbad
          go_wp2_with (refine wpList_store_row rfl 82 (.tmp 2) (.tmp 23) rfl B (rw16 fun _ => 0) rfl rfl 82 (rw16 fun _ => 0) hI.out.2.2.1 (by rw [rw16_size]; exact size59) rfl (rw16_one _) ?_)
          (try simp only [Exit.inBlock, Exit.then])
          refine bodyPost_ret (v := .tuple #[.agg (rw16 fun _ => 0), .bool false]) ?_ rfl ?_
          · rw [results_cell_tmp rfl]
            simp [asAddr, Result.andThen, ret59 AC.out.1]
          · obtain ⟨rfl, rfl⟩ := hno.out
            exact ⟨rfl, by rw [AW.out.2.2.2]; exact AC.out.2⟩
      · have hz0 : ¬ z < 0 := by omega
        have hz15 : ¬ 15 < z := by omega
        obtain ⟨l, rfl⟩ : ∃ l : Nat, z = (l : Int) := ⟨z.toNat, by omega⟩
        have hl16 : l < 16 := by omega
        have hnx : Aside ((∀ z ∈ zs.take (i + 1), 0 ≤ z ∧ z ≤ 15) ∧ ∀ j, (lens (zs.take (i + 1))).count j = if j = l then (lens (zs.take i)).count l + 1 else (lens (zs.take i)).count j) := by
          have e1 : lens (zs.take (i + 1)) = lens (zs.take i) ++ [l] := by rw [take_one AZ.out.1]; simp [lens]
          refine ⟨?_, ?_⟩
          · intro y hy
            rw [take_one AZ.out.1] at hy
            rcases List.mem_append.1 hy with hy | hy
            · exact hI.out.2.1 y hy
            · rw [List.mem_singleton.1 hy]; omega
          · intro j
            rw [e1, List.count_append]
            by_cases e : j = l
            · subst e; rw [if_pos rfl]; simp
            · rw [if_neg e]
              have : List.count j [l] = 0 := by rw [List.count_cons, List.count_nil]; simp; exact fun h => e h.symm
              omega
        obtain ⟨q, hq⟩ : ∃ q, (lens (zs.take i)).count l = q := ⟨_, rfl⟩
        have hqb : q ≤ 320 := by
          rw [← hq]
          have h2 := List.count_le_length (a := l) (l := lens (zs.take i))
          have h3 : (lens (zs.take i)).length ≤ 320 := by unfold lens; rw [List.length_map, List.length_take]; omega
          omega
        have cq : wr.cell? ⟨B + 1, l, none⟩ = some (.int .u32 (q : Int)) := by rw [hI.out.2.2.2.1.cell, rw16_at _ _ hl16, hq]
        have fq := hI.out.2.2.2.1.frozen l
        have AQ : Aside ((lens (zs.take i)).count l = q) := hq
        clear hbad hq
        have hlI : (l : Int) < 16 := by omega
        go_wp2_with fail
        go_roundg (L - (i + 1))
        case measure => have := hI.out.1; have := AZ.out.2; omega
        case rel =>
          refine ⟨i + 1, by go_num, ⟨by have := AZ.out.2; omega, hnx.out.1, ?_, ?_, ?_⟩⟩
          · exact hI.out.2.2.1.only ((Only.refl (B + 1) wr).setCell l _) (by omega)
          · have := hI.out.2.2.2.1.set l (.int .u32 ((q + 1 : Nat) : Int))
            rw [rw16_set] at this
            have e : (rw16 fun j => if j = l then q + 1 else (lens (zs.take i)).count j) = rw16 fun j => (lens (zs.take (i + 1))).count j := rw16_congr fun j _ => by
              rw [hnx.out.2 j, AQ.out]
            rw [e] at this
            exact this
          · exact hI.out.2.2.2.2.setCell (p := ⟨B + 1, l, none⟩) (by show B ≤ B + 1; omega) _
    · have hieq : i = L := by have := hI.out.1; omega
      have hni : ¬ (i : Int) < (L : Int) := by omega
      have hall : zs.take i = zs := List.take_of_length_le (by have := AH.out.2.1; omega)
      have hI2 := hI.out
      rw [hall] at hI2
      have hyes : Aside ((f = fun j => (lens zs).count j) ∧ ok = true) := by
        rcases AR.out with h | ⟨h, _⟩
        · exact h.2
        · exact absurd ⟨by have := AH.out.2.1; omega, hI2.2.1⟩ h
      have hc := set_row hI2.2.2.1 (rw16 fun j => (lens zs).count j)
      have hbel := hI2.2.2.2.2.trans ((only_row hI2.2.2.1 (rw16 fun j => (lens zs).count j)).below (Nat.le_refl _))
      have hc1 := hI2.2.2.2.1
      have hc0 := hI2.2.2.1
      obtain ⟨R, hR⟩ : ∃ R, (rw16 fun j => (lens zs).count j) = R := ⟨_, rfl⟩
      have hRs : R.size = 16 := by rw [← hR]; exact rw16_size _
      have hR1 : R.all (·.oneCell') = true := by rw [← hR]; exact rw16_one _
      rw [hR] at hc hbel hc1
      have AC : Aside (Cells (wr.setRow B R) B R 82 ∧ Below B w (wr.setRow B R) ∧ (rw16 fun j => (lens zs).count j) = R) := ⟨hc, hbel, hR⟩
      clear hI2 hI hc hbel hR hall hieq hiL
      go_wp2_with (first
        | (refine wpList_load_row rfl 82 (.tmp 4) rfl (B + 1) rfl 82 _ (0, 0) _ hc1 Tryd.underlying82 rfl (by rw [hRs]; exact size59) ?_)
        | (refine wpList_store_row rfl 82 (.tmp 2) (.tmp 30) rfl B R rfl rfl 82 (rw16 fun _ => 0) hc0 (by rw [hRs]; exact size59) (by rw [hRs]; rfl) hR1 ?_))
      (try simp only [Exit.inBlock, Exit.then])
      refine bodyPost_ret (v := .tuple #[.agg R, .bool true]) ?_ rfl ?_
      · rw [results_cell_tmp rfl]
        have := AC.out.1
        rw [← AC.out.2.2] at this ⊢
        simp [asAddr, Result.andThen, ret59 this]
      · obtain ⟨rfl, rfl⟩ := hyes.out
        exact ⟨by rw [AC.out.2.2], by rw [AW.out.2.2.2]; exact AC.out.2.1⟩
end Go.Proofs.YtogednaamndpgaaDoor

/-
  What the program's sum, check, firsts and Kraft come to, over rows of sixteen counts.
-/
namespace Go.Proofs.YtogednaamndpgaaDoor
open Go.RowKit
set_option linter.unusedVariables false
/-- The sum of a row: what the codes of n bits or fewer take. -/
def psum (f : Nat → Nat) : Nat → Nat
  | 0 => 0
  | n + 1 => psum f n * 2 + f (n + 1)
theorem psum_part (ls : List Nat) : ∀ n, psum (fun j => ls.count j) n = part ls n
  | 0 => rfl
  | n + 1 => by rw [psum, part, psum_part ls n]; omega
theorem psum_zero : ∀ n, psum (fun _ => 0) n = 0
  | 0 => rfl
  | n + 1 => by rw [psum, psum_zero n]
theorem psum_le {f : Nat → Nat} (h : ∀ j, f j ≤ 320) : ∀ n, psum f n + 320 ≤ 320 * 2 ^ n
  | 0 => by simp [psum]
  | n + 1 => by
    have h1 := psum_le h n
    have h2 := h (n + 1)
    rw [psum, Nat.pow_succ]
    omega
theorem psum_step (f : Nat → Nat) (n : Nat) (h : n < 15) : psum f n * 2 ^ (15 - n) + f (n + 1) * 2 ^ (15 - (n + 1)) = psum f (n + 1) * 2 ^ (15 - (n + 1)) := by
  rw [psum, Nat.add_mul, show 15 - n = (15 - (n + 1)) + 1 by omega, Nat.pow_succ, Nat.mul_assoc, Nat.mul_comm 2]
theorem sw64_cast {n : Nat} (h : n < 9223372036854775808) : wrap64 (n : Int) = (n : Int) := by unfold wrap64; omega
theorem w64_nat {q d : Nat} (h : q * 2 ^ d < 9223372036854775808) : wrap64 ((q : Int) * 2 ^ d) = (q : Int) * 2 ^ d := by
  have e : (q : Int) * 2 ^ d = ((q * 2 ^ d : Nat) : Int) := by push_cast; rfl
  rw [e, sw64_cast h]
set_option maxRecDepth 100000 in
set_option maxHeartbeats 2000000 in
theorem sum_c (f : Nat → Nat) (hf : ∀ j, f j ≤ 320) (w : World) :
    Calls Tryd.prog 71 #[.agg (rw16 f)] w fun e w' => e = .returned (.int .i64 (psum f 15 : Nat)) ∧ Below w.heap.size w w' := by
  obtain ⟨B, hB⟩ : ∃ B, w.heap.size = B := ⟨_, rfl⟩
  obtain ⟨w1, hw1⟩ : ∃ w1, w1 = w.alloc (.cells (rw16 f) 82) := ⟨_, rfl⟩
  have c0 : Cells w1 B (rw16 f) 82 := by rw [hw1, ← hB]; exact Cells.new w _ 82
  have bel : Below B w w1 := by rw [hw1, ← hB]; exact (Below.refl _ w).alloc (Nat.le_refl _) _
  obtain ⟨R, hR⟩ : ∃ R, rw16 f = R := ⟨_, rfl⟩
  rw [hR] at hw1 ⊢
  have hRs : R.size = 16 := by rw [← hR]; exact rw16_size _
  have AW : Aside (Cells w1 B (rw16 f) 82 ∧ Below B w w1 ∧ w.heap.size = B ∧ rw16 f = R) := ⟨c0, bel, hB, hR⟩
  clear c0 bel hR
  go_enter Tryd.func71, Tryd.ntmps71
  go_upto_region 2 with fail
  rw [← hw1]
  clear hw1 hB
  go_wp2_with fail
  go_loopg [3, 4] 15 (fun g st sl wr => ∃ (n s : Nat), st = .int .i64 (s : Int) ∧ sl = .int .i64 ((n + 1 : Nat) : Int) ∧ Aside (n + g = 15 ∧ s = psum f n * 2 ^ (15 - n)) ∧ w1 = wr)
  case atStart => exact ⟨0, 0, rfl, rfl, ⟨by omega, by simp [psum]⟩, rfl⟩
  case round =>
    obtain ⟨n, s, rfl, rfl, hI, hw⟩ := hrel
    subst hw
    by_cases hn : n < 15
    · obtain ⟨q, hq⟩ : ∃ q, f (n + 1) = q := ⟨_, rfl⟩
      have hqb : q ≤ 320 := by rw [← hq]; exact hf _
      obtain ⟨l, hl⟩ : ∃ l, n + 1 = l := ⟨_, rfl⟩
      rw [hl]
      have hl15 : (l : Int) ≤ 15 := by omega
      have hl0 : (0 : Int) ≤ l := by omega
      have cq : w1.cell? ⟨B, l, none⟩ = some (.int .u32 (q : Int)) := by rw [AW.out.1.cell, rw16_at _ _ (by omega), ← hl, hq]
      have hbig : s + q * 2 ^ (15 - l) ≤ 320 * 2 ^ 15 := by
        have e1 := psum_step f n hn
        rw [hq, ← hI.out.2, hl] at e1
        rw [e1]
        have h2 := psum_le hf l
        have h3 : psum f l * 2 ^ (15 - l) ≤ (320 * 2 ^ l) * 2 ^ (15 - l) := Nat.mul_le_mul_right _ (by omega)
        rw [Nat.mul_assoc, ← Nat.pow_add, show l + (15 - l) = 15 by omega] at h3
        exact h3
      have hnx : Aside (s + q * 2 ^ (15 - l) = psum f l * 2 ^ (15 - l) ∧ n < 15 ∧ n + 1 = l) := by
        refine ⟨?_, hn, hl⟩
        have e1 := psum_step f n hn
        rw [hq, ← hI.out.2, hl] at e1
        exact e1
      obtain ⟨P, hP⟩ : ∃ P, 2 ^ (15 - l) = P := ⟨_, rfl⟩
      have hPI : (2 : Int) ^ (15 - (l : Int)).toNat = (P : Int) := by rw [← hP, show (15 - (l : Int)).toNat = 15 - l by omega]; push_cast; rfl
      clear hq
      go_wp2_with fail
      have e1 : wrap64 ((q : Int) * 2 ^ (15 - l)) = ((q * 2 ^ (15 - l) : Nat) : Int) := by
        rw [w64_nat (by omega)]
        · push_cast; rfl
      have e2 : wrap64 ((s : Int) + ((q * 2 ^ (15 - l) : Nat) : Int)) = ((s + q * 2 ^ (15 - l) : Nat) : Int) := by
        rw [← Int.natCast_add, sw64_cast (by omega)]
      rw [e1, e2]
      go_roundg (15 - (n + 1))
      case measure => have := hI.out.1; have := hnx.out.2.1; omega
      case rel =>
        refine ⟨n + 1, s + q * 2 ^ (15 - l), rfl, by have := hnx.out.2.2; subst this; go_num, ⟨by have := hnx.out.2.1; omega, ?_⟩, rfl⟩
        rw [hnx.out.1, hnx.out.2.2]
    · have hn15 : n = 15 := by have := hI.out.1; omega
      subst hn15
      have hs : s = psum f 15 := by have := hI.out.2; simpa using this
      clear hn hI
      go_wp2_with fail
      first | go_ret | go_ret2
      exact ⟨by rw [hs]; rfl, by rw [AW.out.2.2.1]; exact AW.out.2.1⟩
/-- What the check comes to. -/
def cerr (f : Nat → Nat) : Nat := if 32768 < psum f 15 then 80 else if psum f 15 = 32768 ∨ psum f 15 = 0 ∨ (psum f 15 = 16384 ∧ f 1 = 1) then 0 else 81
set_option maxRecDepth 100000 in
set_option maxHeartbeats 2000000 in
theorem check_c (f : Nat → Nat) (hf : ∀ j, f j ≤ 320) (e0 : Nat) (he : cerr f = e0) (w : World) :
    Calls Tryd.prog 57 #[.agg (rw16 f)] w fun e w' => e = .returned (.int .i64 (e0 : Int)) ∧ Below w.heap.size w w' := by
  obtain ⟨B, hB⟩ : ∃ B, w.heap.size = B := ⟨_, rfl⟩
  obtain ⟨w1, hw1⟩ : ∃ w1, w1 = w.alloc (.cells (rw16 f) 82) := ⟨_, rfl⟩
  have c0 : Cells w1 B (rw16 f) 82 := by rw [hw1, ← hB]; exact Cells.new w _ 82
  have bel : Below B w w1 := by rw [hw1, ← hB]; exact (Below.refl _ w).alloc (Nat.le_refl _) _
  have hB1 : w1.heap.size = B + 1 := by rw [hw1, ← hB]; exact Array.size_push _
  have hsum := sum_c f hf w1
  obtain ⟨s, hs⟩ : ∃ s, psum f 15 = s := ⟨_, rfl⟩
  obtain ⟨q, hq⟩ : ∃ q, f 1 = q := ⟨_, rfl⟩
  have hqb : q ≤ 320 := by rw [← hq]; exact hf 1
  have cq : (rw16 f)[1]? = some (.int .u32 (q : Int)) := by rw [rw16_at _ _ (by omega), hq]
  unfold cerr at he
  rw [hs, hq] at he
  rw [hs] at hsum
  obtain ⟨R, hR⟩ : ∃ R, rw16 f = R := ⟨_, rfl⟩
  rw [hR] at hw1 hsum c0 cq ⊢
  have hRs : R.size = 16 := by rw [← hR]; exact rw16_size _
  have AW : Aside (Cells w1 B R 82 ∧ Below B w w1 ∧ w.heap.size = B ∧ w1.heap.size = B + 1) := ⟨c0, bel, hB, hB1⟩
  have AE : Aside ((if 32768 < s then 80 else if s = 32768 ∨ s = 0 ∨ (s = 16384 ∧ q = 1) then 0 else 81) = e0) := he
  clear bel hR hB1 he hs hq
  go_enter Tryd.func57, Tryd.ntmps57
  go_upto_region 1 with fail
  rw [← hw1]
  clear hw1 hB
  go_upto_region 2 with (first
    | (refine wpList_load_row rfl 82 (.tmp 1) rfl B rfl 82 _ (0, 0) _ c0 Tryd.underlying82 rfl (by rw [hRs]; exact size59) ?_)
    | (go_at_call 71; refine hsum.mono ?_; rintro e2 w2 ⟨rfl, hb2⟩))
  have c1 : w2.cell? ⟨B, 1, none⟩ = some (.int .u32 (q : Int)) := ((AW.out.1.below hb2 (by rw [AW.out.2.2.2]; omega)).cell 1).trans cq
  have AB : Aside (Below B w w2) := AW.out.2.1.trans (hb2.mono (by rw [AW.out.2.2.2]; omega))
  clear c0 hb2 hsum cq
  by_cases h1 : 32768 < s
  · have t1 : ((32768 : Int) < (s : Int)) = True := eq_true (by omega)
    have he2 : e0 = 80 := by have := AE.out; rw [if_pos h1] at this; exact this.symm
    clear h1
    go_wp2_with fail
    first | go_ret | go_ret2
    exact ⟨by rw [he2]; rfl, by rw [AW.out.2.2.1]; exact AB.out⟩
  have t1 : ((32768 : Int) < (s : Int)) = False := eq_false (by omega)
  have AE2 : Aside ((if s = 32768 ∨ s = 0 ∨ (s = 16384 ∧ q = 1) then 0 else 81) = e0) := by have := AE.out; rw [if_neg h1] at this; exact this
  clear AE h1
  by_cases h2 : s = 32768
  · have he2 : e0 = 0 := by have := AE2.out; rw [if_pos (Or.inl h2)] at this; exact this.symm
    have t2 : ((s : Int) == 32768) = true := beq_iff_eq.2 (by omega)
    clear h2
    go_wp2_with fail
    first | go_ret | go_ret2
    exact ⟨by rw [he2]; rfl, by rw [AW.out.2.2.1]; exact AB.out⟩
  by_cases h3 : s = 0
  · have he2 : e0 = 0 := by have := AE2.out; rw [if_pos (Or.inr (Or.inl h3))] at this; exact this.symm
    have t2 : ((s : Int) == 32768) = false := beq_eq_false_iff_ne.2 (by omega)
    have t3 : ((s : Int) == 0) = true := beq_iff_eq.2 (by omega)
    clear h2 h3
    go_wp2_with fail
    first | go_ret | go_ret2
    exact ⟨by rw [he2]; rfl, by rw [AW.out.2.2.1]; exact AB.out⟩
  have t2 : ((s : Int) == 32768) = false := beq_eq_false_iff_ne.2 (by omega)
  have t3 : ((s : Int) == 0) = false := beq_eq_false_iff_ne.2 (by omega)
  by_cases h4 : s = 16384
  · have t4 : ((s : Int) == 16384) = true := beq_iff_eq.2 (by omega)
    by_cases h5 : q = 1
    · have he2 : e0 = 0 := by have := AE2.out; rw [if_pos (Or.inr (Or.inr ⟨h4, h5⟩))] at this; exact this.symm
      have t5 : ((q : Int) == 1) = true := beq_iff_eq.2 (by omega)
      clear h2 h3 h4 h5
      go_wp2_with fail
      first | go_ret | go_ret2
      exact ⟨by rw [he2]; rfl, by rw [AW.out.2.2.1]; exact AB.out⟩
    · have he2 : e0 = 81 := by have := AE2.out; rw [if_neg (by omega)] at this; exact this.symm
      have t5 : ((q : Int) == 1) = false := beq_eq_false_iff_ne.2 (by omega)
      clear h2 h3 h4 h5
      go_wp2_with fail
      first | go_ret | go_ret2
      exact ⟨by rw [he2]; rfl, by rw [AW.out.2.2.1]; exact AB.out⟩
  · have he2 : e0 = 81 := by have := AE2.out; rw [if_neg (by omega)] at this; exact this.symm
    have t4 : ((s : Int) == 16384) = false := beq_eq_false_iff_ne.2 (by omega)
    clear h2 h3 h4
    go_wp2_with fail
    first | go_ret | go_ret2
    exact ⟨by rw [he2]; rfl, by rw [AW.out.2.2.1]; exact AB.out⟩
theorem psum_cell {f : Nat → Nat} (hf : ∀ j, f j ≤ 320) (n : Nat) (h : n ≤ 15) : psum f n ≤ 10485760 := by
  have h1 := psum_le hf n
  have h2 : 2 ^ n ≤ 2 ^ 15 := Nat.pow_le_pow_right (by decide) h
  omega
/-- The first code of each length. -/
def frs (f : Nat → Nat) (j : Nat) : Nat := if j = 0 then 0 else 2 * psum f (j - 1)
theorem frs_first (ls : List Nat) : ∀ j, frs (fun j => ls.count j) j = first ls j
  | 0 => rfl
  | n + 1 => by unfold frs first; rw [if_neg (by omega), show n + 1 - 1 = n by omega, psum_part]
set_option maxRecDepth 100000 in
set_option maxHeartbeats 2000000 in
theorem firsts_c (f : Nat → Nat) (hf : ∀ j, f j ≤ 320) (w : World) :
    Calls Tryd.prog 58 #[.agg (rw16 f)] w fun e w' => e = .returned (.agg (rw16 (frs f))) ∧ Below w.heap.size w w' := by
  obtain ⟨B, hB⟩ : ∃ B, w.heap.size = B := ⟨_, rfl⟩
  obtain ⟨w1, hw1⟩ : ∃ w1, w1 = w.alloc (.cells (rw16 f) 82) := ⟨_, rfl⟩
  obtain ⟨w2, hw2⟩ : ∃ w2, w2 = w1.alloc (.cells (rw16 fun _ => 0) 82) := ⟨_, rfl⟩
  obtain ⟨w3, hw3⟩ : ∃ w3, w3 = w2.alloc (.cells (rw16 fun _ => 0) 82) := ⟨_, rfl⟩
  have hB1 : w1.heap.size = B + 1 := by rw [hw1, ← hB]; exact Array.size_push _
  have hB2 : w2.heap.size = B + 2 := by rw [hw2, show B + 2 = B + 1 + 1 from rfl, ← hB1]; exact Array.size_push _
  have c0 : Cells w3 B (rw16 f) 82 := by rw [hw3, hw2]; refine Cells.alloc (Cells.alloc ?_ _) _; rw [hw1, ← hB]; exact Cells.new w _ 82
  have c1 : Cells w3 (B + 1) (rw16 fun _ => 0) 82 := by rw [hw3]; refine Cells.alloc ?_ _; rw [hw2, ← hB1]; exact Cells.new w1 _ 82
  have c2 : Cells w3 (B + 2) (rw16 fun _ => 0) 82 := by rw [hw3, ← hB2]; exact Cells.new w2 _ 82
  have bel : Below B w w3 := by
    rw [hw3, hw2]
    refine Below.alloc (Below.alloc ?_ (by rw [hB1]; omega) _) (by rw [← hw2, hB2]; omega) _
    rw [hw1, ← hB]; exact (Below.refl _ w).alloc (Nat.le_refl _) _
  obtain ⟨R, hR⟩ : ∃ R, rw16 f = R := ⟨_, rfl⟩
  rw [hR] at hw1 ⊢
  have hRs : R.size = 16 := by rw [← hR]; exact rw16_size _
  have AW : Aside (Cells w3 B (rw16 f) 82 ∧ Cells w3 (B + 1) (rw16 fun _ => 0) 82 ∧ Cells w3 (B + 2) (rw16 fun _ => 0) 82 ∧ Below B w w3 ∧ w.heap.size = B) := ⟨c0, c1, c2, bel, hB⟩
  clear c0 c1 c2 bel hR
  have hz : ∀ w', (zeroValue 82).run Tryd.prog w' = .ok (.agg (rw16 fun _ => 0)) w' := fun w' => by kernel_rfl
  go_enter Tryd.func58, Tryd.ntmps58
  go_upto_region 2 with fail
  rw [← hw1, ← hw2, ← hw3]
  clear hw1 hw2 hw3 hB hB1 hB2
  go_wp2_with fail
  go_loopg [4] 14 (fun g sl wr => ∃ (n : Nat), sl = .int .i64 ((n + 2 : Nat) : Int) ∧ Aside (n + g = 14 ∧ Cells wr B (rw16 f) 82 ∧ Cells wr (B + 1) (rw16 fun _ => 0) 82 ∧ Cells wr (B + 2) (rw16 fun j => if j < n + 2 then frs f j else 0) 82 ∧ Below B w wr))
  case atStart =>
    refine ⟨0, rfl, ⟨by omega, AW.out.1, AW.out.2.1, ?_, AW.out.2.2.2.1⟩⟩
    have e : (rw16 fun j => if j < 0 + 2 then frs f j else 0) = rw16 fun _ => 0 := rw16_congr fun j _ => by
      split
      · unfold frs
        rcases (show j = 0 ∨ j = 1 by omega) with rfl | rfl <;> rfl
      · rfl
    rw [e]; exact AW.out.2.2.1
  case round =>
    obtain ⟨n, rfl, hI⟩ := hrel
    by_cases hn : n < 14
    · obtain ⟨l, hl⟩ : ∃ l, n + 2 = l := ⟨_, rfl⟩
      rw [hl]
      have hl15 : (l : Int) ≤ 15 := by omega
      have hl2 : (2 : Int) ≤ l := by omega
      obtain ⟨k, hk⟩ : ∃ k, n + 1 = k := ⟨_, rfl⟩
      have elk : (l : Int) - 1 = (k : Int) := by omega
      obtain ⟨q, hq⟩ : ∃ q, f k = q := ⟨_, rfl⟩
      obtain ⟨r, hr⟩ : ∃ r, frs f k = r := ⟨_, rfl⟩
      have hqb : q ≤ 320 := by rw [← hq]; exact hf _
      have hrb : r ≤ 20971520 := by rw [← hr]; unfold frs; rw [if_neg (by omega)]; have := psum_cell hf (k - 1) (by omega); omega
      have cq : wr.cell? ⟨B, k, none⟩ = some (.int .u32 (q : Int)) := by rw [hI.out.2.1.cell, rw16_at _ _ (by omega), hq]
      have cr : wr.cell? ⟨B + 2, k, none⟩ = some (.int .u32 (r : Int)) := by rw [hI.out.2.2.2.1.cell, rw16_at _ _ (by omega), if_pos (by omega), hr]
      have fq := hI.out.2.2.2.1.frozen l
      have hnx : Aside (frs f l = 2 * (r + q) ∧ n < 14 ∧ n + 2 = l) := by
        refine ⟨?_, hn, hl⟩
        rw [← hr, ← hq, ← hl, ← hk]
        unfold frs
        rw [if_neg (by omega), if_neg (by omega), show n + 2 - 1 = n + 1 by omega, psum, show n + 1 - 1 = n by omega]
        omega
      have hcell : ∃ v, wr.cell? ⟨B + 2, l, none⟩ = some v := ⟨_, by rw [hI.out.2.2.2.1.cell, rw16_at _ _ (by omega)]⟩
      obtain ⟨v, hv⟩ := hcell
      clear hq hr hl hk
      have hwr : ∀ z : Int, (z = (l : Int) - 1) → IntKind.i64.wrap z = (k : Int) := by
        intro z hz
        rw [hz, elk, IntKind.wrap_i64]; omega
      go_upto_region 5 with fail
      go_region
      go_wp2_with fail
      go_roundg (14 - (n + 1))
      case measure => have := hI.out.1; have := hnx.out.2.1; omega
      case rel =>
        refine ⟨n + 1, by have := hnx.out.2.2; subst this; go_num, ⟨by have := hnx.out.2.1; omega, ?_, ?_, ?_, ?_⟩⟩
        · exact (hI.out.2.1.only ((Only.refl (B + 2) wr).setCell l _) (by omega)).drew
        · exact (hI.out.2.2.1.only ((Only.refl (B + 2) wr).setCell l _) (by omega)).drew
        · have := hI.out.2.2.2.1.set l (.int .u32 ((2 * (r + q) : Nat) : Int))
          rw [rw16_set] at this
          have e : (rw16 fun j => if j = l then 2 * (r + q) else if j < n + 2 then frs f j else 0) = rw16 fun j => if j < n + 1 + 2 then frs f j else 0 := rw16_congr fun j _ => by
            have := hnx.out.2.2
            by_cases e : j = l
            · rw [if_pos e, if_pos (by omega), e, hnx.out.1]
            · rw [if_neg e]
              by_cases h2 : j < n + 2
              · rw [if_pos h2, if_pos (by omega)]
              · rw [if_neg h2, if_neg (by omega)]
          rw [e] at this
          have := this.drew
          push_cast at this
          exact this
        · exact (hI.out.2.2.2.2.setCell (p := ⟨B + 2, l, none⟩) (by show B ≤ B + 2; omega) _).drew
    · have hn14 : n = 14 := by have := hI.out.1; omega
      subst hn14
      have hc0 := hI.out.2.2.1
      have hc1 := hI.out.2.2.2.1
      have e : (rw16 fun j => if j < 14 + 2 then frs f j else 0) = rw16 (frs f) := rw16_congr fun j hj => if_pos (by omega)
      rw [e] at hc1
      have hc := set_row hc0 (rw16 (frs f))
      have hbel := hI.out.2.2.2.2.trans ((only_row hc0 (rw16 (frs f))).below (by omega))
      have AC : Aside (Cells (wr.setRow (B + 1) (rw16 (frs f))) (B + 1) (rw16 (frs f)) 82 ∧ Below B w (wr.setRow (B + 1) (rw16 (frs f)))) := ⟨hc, hbel⟩
      clear hI hc hbel e hn
      go_wp2_with (first
        | (refine wpList_load_row rfl 82 (.tmp 3) rfl (B + 2) rfl 82 _ (0, 0) _ hc1 Tryd.underlying82 rfl (by rw [rw16_size]; exact size59) ?_)
        | (refine wpList_store_row rfl 82 (.tmp 2) (.tmp 21) rfl (B + 1) (rw16 (frs f)) rfl rfl 82 (rw16 fun _ => 0) hc0 (by rw [rw16_size]; exact size59) rfl (rw16_one _) ?_))
      (try simp only [Exit.inBlock, Exit.then])
      refine bodyPost_ret (v := .agg (rw16 (frs f))) ?_ rfl ?_
      · exact results_cell_row rfl _ _ (B + 1) 82 _ (0, 0) _ rfl AC.out.1 Tryd.underlying82 rfl (by rw [rw16_size]; exact size59)
      · exact ⟨rfl, by rw [AW.out.2.2.2.2]; exact AC.out.2⟩
set_option maxRecDepth 100000 in
set_option maxHeartbeats 2000000 in
theorem kraft_c (a : Option Addr) (zs : List Int) (L C r : Nat) (ok : Bool) (w : World) (h : Lens w a zs) (hL : zs.length = L) (hLb : L < 140737488355328) (hr : (Okl zs ∧ r = kr (lens zs) ∧ ok = true) ∨ (¬ Okl zs ∧ r = 0 ∧ ok = false)) :
    Calls Tryd.prog 63 #[.slice a L C] w fun e w' => e = .returned (.tuple #[.int .i64 (r : Int), .bool ok]) ∧ Below w.heap.size w w' := by
  obtain ⟨f, hf, hfb, hfs⟩ : ∃ f : Nat → Nat, ((Okl zs ∧ (f = fun j => (lens zs).count j) ∧ ok = true) ∨ (¬ Okl zs ∧ (f = fun _ => 0) ∧ ok = false)) ∧ (∀ j, f j ≤ 320) ∧ psum f 15 = r := by
    rcases hr with ⟨h1, h2, h3⟩ | ⟨h1, h2, h3⟩
    · refine ⟨fun j => (lens zs).count j, Or.inl ⟨h1, rfl, h3⟩, fun j => ?_, ?_⟩
      · have e1 := List.count_le_length (a := j) (l := lens zs)
        have e2 : (lens zs).length ≤ 320 := by unfold lens; rw [List.length_map]; exact h1.1
        exact Nat.le_trans e1 e2
      · rw [psum_part, h2, kr_part]
        intro l hl
        unfold lens at hl
        obtain ⟨z, hz, rfl⟩ := List.mem_map.1 hl
        have := h1.2 z hz
        omega
    · exact ⟨fun _ => 0, Or.inr ⟨h1, rfl, h3⟩, fun _ => Nat.zero_le _, by rw [psum_zero, h2]⟩
  have hcount := count_c a zs L C f ok w h hL hLb hf
  have hsum : ∀ u, Calls Tryd.prog 71 #[.agg (rw16 f)] u fun e w' => e = .returned (.int .i64 (r : Int)) ∧ Below u.heap.size u w' := fun u => by have := sum_c f hfb u; rw [hfs] at this; exact this
  obtain ⟨R, hR⟩ : ∃ R, rw16 f = R := ⟨_, rfl⟩
  rw [hR] at hcount hsum
  have hRs : R.size = 16 := by rw [← hR]; exact rw16_size _
  have hR1 : R.all (·.oneCell') = true := by rw [← hR]; exact rw16_one _
  have hz : ∀ w', (zeroValue 82).run Tryd.prog w' = .ok (.agg (rw16 fun _ => 0)) w' := fun w' => by kernel_rfl
  clear h hL hLb hr hf hfb hfs hR
  go_enter Tryd.func63, Tryd.ntmps63
  go_upto_region 2 with (first
    | (go_at_call 56; refine hcount.mono ?_; rintro e2 w2 ⟨rfl, hb2⟩
       have c2 := Cells.new w2 (rw16 fun _ => 0) 82
       have b2 : Aside (Below w.heap.size w w2) := hb2
       clear hb2)
    | (refine wpList_store_row rfl 82 (.tmp 4) (.tmp 9) rfl w2.heap.size R rfl rfl 82 (rw16 fun _ => 0) c2 (by rw [hRs]; exact size59) (by rw [hRs]; rfl) hR1 ?_))
  have c3 := set_row c2 R
  have b3 : Aside (Below w.heap.size w ((w2.alloc (.cells (rw16 fun _ => 0) 82)).setRow w2.heap.size R)) := (b2.out.alloc b2.out.size _).trans ((only_row c2 R).below b2.out.size)
  obtain ⟨w3, hw3⟩ : ∃ w3, w3 = (w2.alloc (.cells (rw16 fun _ => 0) 82)).setRow w2.heap.size R := ⟨_, rfl⟩
  rw [← hw3] at c3 b3 ⊢
  obtain ⟨D, hD⟩ : ∃ D, w2.heap.size = D := ⟨_, rfl⟩
  rw [hD] at c3 ⊢
  clear c2 hw3 hD b2
  go_wp2_with (first
    | (refine wpList_load_row rfl 82 (.tmp 4) rfl D rfl 82 _ (0, 0) _ c3 Tryd.underlying82 rfl (by rw [hRs]; exact size59) ?_)
    | (go_at_call 71; refine (hsum _).mono ?_; rintro e4 w4 ⟨rfl, hb4⟩))
  first | go_ret | go_ret2
  exact ⟨rfl, b3.out.trans (hb4.mono b3.out.size)⟩
end Go.Proofs.YtogednaamndpgaaDoor

/-
  The program's table while it is laid, and what laying a symbol's code comes to.
-/
import Derived.Test.YtlmajiejapaegaaMapk
import Derived.Test.YtlmajiejapaegaaLaid
import Derived.Deep.LoopGhost
import Derived.BigQuiet
import Derived.Deep.CutBlock
import Derived.Deep.DeepCutAuto
import Derived.WalkMore
namespace Go.Proofs.Ytlmajiejapaegaa
open Go.RowKit
set_option linter.unusedVariables false
/-- Of all blocks that are there g and M alone may have turned. -/
structure Two (g M : Nat) (w w' : World) : Prop where
  os : w'.os = w.os
  tape : w'.tape = w.tape
  output : w'.output = w.output
  size : w.heap.size ≤ w'.heap.size
  block : ∀ k, k < w.heap.size → k ≠ g → k ≠ M → w'.heap[k]? = w.heap[k]?
theorem Two.refl (g M : Nat) (w : World) : Two g M w w := ⟨rfl, rfl, rfl, Nat.le_refl _, fun _ _ _ _ => rfl⟩
theorem Two.trans {g M : Nat} {w u v : World} (h : Two g M w u) (k : Two g M u v) : Two g M w v :=
  ⟨k.os.trans h.os, k.tape.trans h.tape, k.output.trans h.output, Nat.le_trans h.size k.size, fun i hi h1 h2 => (k.block i (Nat.lt_of_lt_of_le hi h.size) h1 h2).trans (h.block i hi h1 h2)⟩
theorem Two.drew {g M : Nat} {w u : World} (h : Two g M w u) : Two g M w u.drew := ⟨h.os, h.tape, h.output, h.size, h.block⟩
theorem Two.drewN {g M : Nat} {w u : World} (h : Two g M w u) (n : Nat) : Two g M w (u.drewN n) := ⟨h.os, h.tape, h.output, h.size, h.block⟩
theorem Two.alloc {g M : Nat} {w u : World} (h : Two g M w u) (o : Obj) : Two g M w (u.alloc o) :=
  ⟨h.os, h.tape, h.output, Nat.le_trans h.size (by show u.heap.size ≤ (u.heap.push o).size; rw [Array.size_push]; omega), fun k hk h1 h2 => (Below.heap_alloc u o k (Nat.lt_of_lt_of_le hk h.size)).trans (h.block k hk h1 h2)⟩
theorem Two.setG {g M : Nat} {w u : World} (h : Two g M w u) (i : Nat) (v : Value) : Two g M w (u.setCell ⟨g, i, none⟩ v) :=
  h.trans ⟨rfl, rfl, rfl, by simp [World.setCell], fun k _ hk _ => Below.heap_setCell _ _ _ _ hk⟩
/-- A block that has come since may turn. -/
theorem Two.setNew {g M X : Nat} {w u : World} (h : Two g M w u) (hX : w.heap.size ≤ X) (i : Nat) (v : Value) : Two g M w (u.setCell ⟨X, i, none⟩ v) :=
  ⟨h.os, h.tape, h.output, by have := h.size; simp [World.setCell]; exact this, fun k hk h1 h2 => (Below.heap_setCell _ _ _ _ (by show k ≠ X; omega)).trans (h.block k hk h1 h2)⟩
theorem Two.grown {g M : Nat} {w u v : World} (h : Two g M w u) (k : u.grownBy v (some M)) : Two g M w v :=
  h.trans ⟨k.os, k.tape, k.output, k.size, fun i hi _ h2 => k.block i hi (fun e => h2 (by injection e))⟩
theorem Two.below {g M B : Nat} {w u : World} (h : Two g M w u) (hg : B ≤ g) (hM : B ≤ M) (hB : B ≤ w.heap.size) : Below B w u :=
  ⟨h.os, h.tape, h.output, h.size, fun k hk => h.block k (by omega) (by omega) (by omega)⟩
theorem Cells.two {g M b : Nat} {w u : World} {cs : Array Value} {t : TypeId} (h : Cells w b cs t) (k : Two g M w u) (h1 : b ≠ g) (h2 : b ≠ M) : Cells u b cs t := (k.block b h.lt h1 h2).trans h
/-- Cells of the codes: the length and the number of each symbol's code, of the first i symbols. -/
def Cc (w : World) (g : Nat) (ls : List Nat) (i : Nat) : Prop := ∃ cs, Cells w g cs 70 ∧ cs.size = 2 * ls.length ∧ ∀ (j m : Nat), ls[j]? = some m →
  (j < i ∧ 0 < m → cs[j * 2]? = some (.int .u32 (m : Int)) ∧ cs[j * 2 + 1]? = some (.int .u32 (code ls j m : Int))) ∧ (¬ (j < i ∧ 0 < m) → cs[j * 2]? = some (.int .u32 0) ∧ cs[j * 2 + 1]? = some (.int .u32 0))
/-- The program's table while it is laid. -/
structure Tq (w : World) (T g M k : Nat) (ls : List Nat) (i : Nat) : Prop where
  t : Cells w T #[.slice (some ⟨g, 0, none⟩) ls.length ls.length, .map (some M)] 66
  c : Cc w g ls i
  m : ∃ G, Mp w M k G ∧ Laidm ls i G
theorem Cc.skip {w : World} {g : Nat} {ls : List Nat} {i : Nat} (h : Cc w g ls i) (hi : ls[i]? = some 0) : Cc w g ls (i + 1) := by
  obtain ⟨cs, h1, h2, h3⟩ := h
  refine ⟨cs, h1, h2, fun j m hj => ⟨fun hc => (h3 j m hj).1 ⟨?_, hc.2⟩, fun hc => (h3 j m hj).2 fun hc2 => hc ⟨by omega, hc2.2⟩⟩⟩
  rcases (show j < i ∨ j = i by omega) with h4 | rfl
  · exact h4
  · rw [hi] at hj; cases hj; omega
theorem Cc.put {w : World} {g : Nat} {ls : List Nat} {i m : Nat} (h : Cc w g ls i) (hi : ls[i]? = some m) (hm : 0 < m) :
    Cc ((w.setCell ⟨g, i * 2, none⟩ (.int .u32 (m : Int))).setCell ⟨g, i * 2 + 1, none⟩ (.int .u32 (code ls i m : Int))) g ls (i + 1) := by
  obtain ⟨cs, h1, h2, h3⟩ := h
  have hil := lt_of_at hi
  refine ⟨_, (h1.set (i * 2) _).set (i * 2 + 1) _, by rw [Array.size_setIfInBounds, Array.size_setIfInBounds]; exact h2, fun j n hj => ?_⟩
  have hjl := lt_of_at hj
  by_cases e : j = i
  · subst e
    rw [hi] at hj; cases hj
    refine ⟨fun _ => ?_, fun hc => absurd ⟨by omega, hm⟩ hc⟩
    constructor
    · rw [Array.getElem?_setIfInBounds, if_neg (by omega), Array.getElem?_setIfInBounds, if_pos rfl, if_pos (by omega)]
    · rw [Array.getElem?_setIfInBounds, if_pos rfl, if_pos (by rw [Array.size_setIfInBounds]; omega)]
  · have e1 : ∀ q, q < 2 → ((cs.setIfInBounds (i * 2) (.int .u32 (m : Int))).setIfInBounds (i * 2 + 1) (.int .u32 (code ls i m : Int)))[j * 2 + q]? = cs[j * 2 + q]? := by
      intro q hq
      rw [Array.getElem?_setIfInBounds, if_neg (by omega), Array.getElem?_setIfInBounds, if_neg (by omega)]
    have e10 := e1 0 (by omega)
    have e11 := e1 1 (by omega)
    have e10' : ((cs.setIfInBounds (i * 2) (.int .u32 (m : Int))).setIfInBounds (i * 2 + 1) (.int .u32 (code ls i m : Int)))[j * 2]? = cs[j * 2]? := e10
    rw [e10', e11]
    exact ⟨fun hc => (h3 j n hj).1 ⟨by omega, hc.2⟩, fun hc => (h3 j n hj).2 fun hc2 => hc ⟨by omega, hc2.2⟩⟩
theorem Mp.mono {w : World} {M k k' : Nat} {G : Nat → Nat → Option Int} (h : Mp w M k G) (hk : k ≤ k') : Mp w M k' G := by
  obtain ⟨D, h1, h2⟩ := h
  exact ⟨D, h1.mono hk, h2⟩
theorem Cc.heap {w u : World} {g : Nat} {ls : List Nat} {i : Nat} (h : Cc w g ls i) (e : u.heap[g]? = w.heap[g]?) : Cc u g ls i := by
  obtain ⟨cs, h1, h2, h3⟩ := h
  exact ⟨cs, e.trans h1, h2, h3⟩
theorem Cc.lt {w : World} {g : Nat} {ls : List Nat} {i : Nat} (h : Cc w g ls i) : g < w.heap.size := by obtain ⟨cs, h1, _⟩ := h; exact h1.lt
/-- What lies in memory while a symbol's code is laid. -/
structure Ly (w0 w : World) (T g M X k i m c p : Nat) (ls : List Nat) (G : Nat → Nat → Option Int) : Prop where
  cx : Cells w X #[.int .u32 (p : Int), .int .u32 ((c / 2 ^ (m - p) : Nat) : Int)] 70
  ct : Cells w T #[.slice (some ⟨g, 0, none⟩) ls.length ls.length, .map (some M)] 66
  cc : Cc w g ls (i + 1)
  cm : Mp w M k (lp i m c p G)
  two : Two g M w0 w
theorem Ly.drew {w0 w : World} {T g M X k i m c p : Nat} {ls : List Nat} {G : Nat → Nat → Option Int} (h : Ly w0 w T g M X k i m c p ls G) : Ly w0 w.drew T g M X k i m c p ls G := ⟨h.cx, h.ct, h.cc, h.cm, h.two.drew⟩
theorem Ly.drewN {w0 w : World} {T g M X k i m c p : Nat} {ls : List Nat} {G : Nat → Nat → Option Int} (h : Ly w0 w T g M X k i m c p ls G) (n : Nat) : Ly w0 (w.drewN n) T g M X k i m c p ls G := ⟨h.cx, h.ct, h.cc, h.cm, h.two.drewN n⟩
theorem Ly.tq {w0 w : World} {T g M X k i m c p K : Nat} {ls : List Nat} {G : Nat → Nat → Option Int} (h : Ly w0 w T g M X k i m c p ls G) (hl : Laidm ls i G) (hi : ls[i]? = some m) (hm : 0 < m) (hc : code ls i m = c) (hp : p ≤ m) (hk : k ≤ K)
    (hend : 0 < p → (G (p - 1) (c / 2 ^ (m - (p - 1)))).isSome = true) : Tq w T g M K ls (i + 1) := ⟨h.ct, h.cc, _, h.cm.mono hk, hl.put hi hm hc hp hend⟩
set_option maxRecDepth 100000 in
set_option maxHeartbeats 4000000 in
theorem lay_c (T g M k i m c : Nat) (ls : List Nat) (w : World) (ht : Tq w T g M k ls i) (hL : ls.length ≤ 320) (hi : ls[i]? = some m) (hm : 0 < m) (hm15 : m ≤ 15) (hc : code ls i m = c) (hcb : c < 2 ^ m) (hk : k ≤ 1000000) (hTg : T ≠ g) (hTM : T ≠ M) (hgM : g ≠ M) :
    Calls Try.prog 27 #[.pointer (some ⟨T, 0, none⟩), .int .i64 (i : Int), .agg #[.int .u32 (m : Int), .int .u32 (c : Int)]] w fun e w' => e = .returned (.tuple #[]) ∧ Tq w' T g M (k + 16) ls (i + 1) ∧ Two g M w w' := by
  obtain ⟨tc, ⟨cs, cc1, cc2, cc3⟩, G, hG, hLd⟩ := ht
  have hil := lt_of_at hi
  obtain ⟨X, hX⟩ : ∃ X, w.heap.size = X := ⟨_, rfl⟩
  obtain ⟨L, hLe⟩ : ∃ L, ls.length = L := ⟨_, rfl⟩
  obtain ⟨w1, hw1⟩ : ∃ w1, w1 = w.alloc (.cells #[.int .u32 (m : Int), .int .u32 (c : Int)] 70) := ⟨_, rfl⟩
  have x1 : Cells w1 X #[.int .u32 (m : Int), .int .u32 (c : Int)] 70 := by rw [hw1, ← hX]; exact Cells.new w _ 70
  have g1 : Cells w1 g cs 70 := by rw [hw1]; exact cc1.alloc _
  have t1 : Cells w1 T #[.slice (some ⟨g, 0, none⟩) ls.length ls.length, .map (some M)] 66 := by rw [hw1]; exact tc.alloc _
  have m1 : Mp w1 M k G := by rw [hw1]; exact hG.heap (Below.heap_alloc w _ M hG.lt)
  have tw1 : Two g M w w1 := by rw [hw1]; exact (Two.refl g M w).alloc _
  have hTX : T < X := by rw [← hX]; exact tc.lt
  have hgX : g < X := by rw [← hX]; exact cc1.lt
  have hMX : M < X := by rw [← hX]; exact hG.lt
  have cT0 := t1.cell 0
  have cT1 := t1.cell 1
  have cX0 := x1.cell 0
  have cX1 := x1.cell 1
  have cg0 : ∃ v, w1.cell? ⟨g, i * 2, none⟩ = some v := ⟨_, by rw [g1.cell]; exact Array.getElem?_eq_getElem (by omega)⟩
  have cg1 : ∃ v, w1.cell? ⟨g, i * 2 + 1, none⟩ = some v := ⟨_, by rw [g1.cell]; exact Array.getElem?_eq_getElem (by omega)⟩
  obtain ⟨y0, cg0⟩ := cg0
  obtain ⟨y1, cg1⟩ := cg1
  have fg0 := g1.frozen (i * 2)
  have fg1 := g1.frozen (i * 2 + 1)
  have cg1' : (w1.setCell ⟨g, i * 2, none⟩ (.int .u32 (m : Int))).cell? ⟨g, i * 2 + 1, none⟩ = some y1 := by
    rw [(g1.set (i * 2) _).cell, Array.getElem?_setIfInBounds, if_neg (by omega), ← g1.cell]; exact cg1
  have fg1' := (g1.set (i * 2) (.int .u32 (m : Int))).frozen (i * 2 + 1)
  rw [hLe] at cT0
  simp only [List.getElem?_toArray, List.getElem?_cons_zero, List.getElem?_cons_succ] at cT0 cT1 cX0 cX1
  have hiL : (i : Int) < (L : Int) := by omega
  have AH : Aside (Cells w1 X #[.int .u32 (m : Int), .int .u32 (c : Int)] 70 ∧ Cc w1 g ls i ∧ Cells w1 g cs 70 ∧ Cells w1 T #[.slice (some ⟨g, 0, none⟩) ls.length ls.length, .map (some M)] 66 ∧ Mp w1 M k G ∧ Two g M w w1) := ⟨x1, ⟨cs, g1, cc2, cc3⟩, g1, t1, m1, tw1⟩
  have AF : Aside (T < X ∧ g < X ∧ M < X ∧ T ≠ g ∧ T ≠ M ∧ g ≠ M ∧ i < ls.length ∧ ls.length ≤ 320 ∧ ls[i]? = some m ∧ 0 < m ∧ code ls i m = c ∧ Laidm ls i G ∧ c < 2 ^ m ∧ k ≤ 1000000 ∧ w.heap.size = X) := ⟨hTX, hgX, hMX, hTg, hTM, hgM, hil, hL, hi, hm, hc, hLd, hcb, hk, hX⟩
  clear x1 g1 t1 m1 tw1 hTX hgX hMX hTg hTM hgM hil hL hi hc hLd hcb hk hX tc cc1 cc2 cc3 hG hLe
  go_enter Try.func27, Try.ntmps27
  have hwX := AF.out.2.2.2.2.2.2.2.2.2.2.2.2.2.2
  go_upto_region 1 with fail
  rw [← hw1]
  clear hw1 hwX
  go_region
  obtain ⟨w2, hw2⟩ : ∃ w2, w2 = ((w1.setCell ⟨g, i * 2, none⟩ (.int .u32 (m : Int))).setCell ⟨g, i * 2 + 1, none⟩ (.int .u32 (c : Int))).drew := ⟨_, rfl⟩
  rw [← hw2]
  have o2 : Only g w1 w2 := by rw [hw2]; exact (((Only.refl g w1).setCell _ _).setCell _ _).drew
  have x2 : Cells w2 X #[.int .u32 (m : Int), .int .u32 (c : Int)] 70 := AH.out.1.only o2 (by have := AF.out.2.1; omega)
  have t2 : Cells w2 T #[.slice (some ⟨g, 0, none⟩) ls.length ls.length, .map (some M)] 66 := AH.out.2.2.2.1.only o2 AF.out.2.2.2.1
  have m2 : Mp w2 M k G := AH.out.2.2.2.2.1.only o2 (fun e => AF.out.2.2.2.2.2.1 e.symm)
  have g2 : Cc w2 g ls (i + 1) := by
    have hc1 := AH.out.2.1
    have := hc1.put AF.out.2.2.2.2.2.2.2.2.1 hm
    rw [AF.out.2.2.2.2.2.2.2.2.2.2.1] at this
    rw [hw2]; exact this
  have tw2 : Two g M w w2 := by rw [hw2]; exact ((AH.out.2.2.2.2.2.setG _ _).setG _ _).drew
  have hcb32 : c < 4294967296 := by have := AF.out.2.2.2.2.2.2.2.2.2.2.2.2.1; have h2 : 2 ^ m ≤ 2 ^ 15 := Nat.pow_le_pow_right (by decide) hm15; omega
  have hiw : (Lit.int .i64 (i : Int)).wf = true := WalkArith.wf_i64 (by have := AF.out.2.2.2.2.2.2.1; have := AF.out.2.2.2.2.2.2.2.1; omega)
  obtain ⟨w3, hrun, m3, gr3⟩ := run_put w2.drew M k m c (i : Int) G m2 (by have := AF.out; omega) (by omega) hcb32 hiw
  have cT1 := t2.cell 1
  have cX0 := x2.cell 0
  have cX1 := x2.cell 1
  simp only [List.getElem?_toArray, List.getElem?_cons_zero, List.getElem?_cons_succ] at cT1 cX0 cX1
  have A2 : Aside (Cells w2 X #[.int .u32 (m : Int), .int .u32 (c : Int)] 70 ∧ Cells w2 T #[.slice (some ⟨g, 0, none⟩) ls.length ls.length, .map (some M)] 66 ∧ Cc w2 g ls (i + 1) ∧ Two g M w w2) := ⟨x2, t2, g2, tw2⟩
  have A3 : Aside (Mp w3 M (k + 1) (lp i m c m G) ∧ w2.drew.grownBy w3 (some M)) := ⟨m3.congr fun n x => lp_first i m c G n x, gr3⟩
  clear hw2 o2 x2 t2 m2 g2 tw2 m3 gr3 hiw cg0 cg1 cg1' fg0 fg1 fg1' cT0 AH
  go_upto_region 2 with fail
  go_region
  have hly : Ly w w3 T g M X (k + 1) i m c m ls G := by
    have hsz := A2.out.2.2.2.size
    refine ⟨?_, ?_, ?_, A3.out.1, A2.out.2.2.2.drew.grown A3.out.2⟩
    · have := (A3.out.2.block X A2.out.1.lt (by intro e; injection e with e; have := AF.out.2.2.1; omega)).trans A2.out.1
      rw [Nat.sub_self, Nat.pow_zero, Nat.div_one]
      exact this
    · exact (A3.out.2.block T A2.out.2.1.lt (by intro e; injection e with e; exact AF.out.2.2.2.2.1 e)).trans A2.out.2.1
    · exact A2.out.2.2.1.heap (A3.out.2.block g A2.out.2.2.1.lt (by intro e; injection e with e; exact AF.out.2.2.2.2.2.1 e))
  have AY : Aside (Ly w w3 T g M X (k + 1) i m c m ls G) := hly
  clear hly A2 A3 hrun cT1 cX0 cX1
  go_wp2_with fail
  go_loopg [] m (fun gg wr => ∃ (p kp : Nat), Aside (p = gg ∧ p ≤ m ∧ kp + p ≤ k + 1 + m ∧ Ly w wr T g M X kp i m c p ls G))
  case atStart => exact ⟨m, k + 1, ⟨rfl, Nat.le_refl _, Nat.le_refl _, AY.out⟩⟩
  case round =>
    obtain ⟨p, kp, hI⟩ := hrel
    have cX0 := hI.out.2.2.2.cx.cell 0
    have cX1 := hI.out.2.2.2.cx.cell 1
    simp only [List.getElem?_toArray, List.getElem?_cons_zero, List.getElem?_cons_succ] at cX0 cX1
    by_cases hp : p = 0
    · subst hp
      go_wp2_with fail
      first | go_end0 | go_ret | go_ret2
      have F := AF.out
      exact ⟨rfl, hI.out.2.2.2.tq F.2.2.2.2.2.2.2.2.2.2.2.1 F.2.2.2.2.2.2.2.2.1 hm F.2.2.2.2.2.2.2.2.2.2.1 (Nat.zero_le _) (by have := hI.out.2.2.1; omega) (fun h => absurd h (by omega)), hI.out.2.2.2.two⟩
    · obtain ⟨q, rfl⟩ : ∃ q, p = q + 1 := ⟨p - 1, by omega⟩
      obtain ⟨y, hy⟩ : ∃ y, c / 2 ^ (m - (q + 1)) = y := ⟨_, rfl⟩
      rw [hy] at cX1
      have hyb : y < 4294967296 := by rw [← hy]; exact Nat.lt_of_le_of_lt (Nat.div_le_self _ _) hcb32
      have hq15 : q + 1 ≤ 15 := by have := hI.out.2.1; omega
      have fX0 := hI.out.2.2.2.cx.frozen 0
      have fX1 := hI.out.2.2.2.cx.frozen 1
      have hy2 : c / 2 ^ (m - q) = y / 2 := by
        rw [← hy, Nat.div_div_eq_div_mul, ← Nat.pow_succ, show (m - (q + 1)).succ = m - q by have := hI.out.2.1; omega]
      have hXs := hI.out.2.2.2.cx.set 0 (.int .u32 (q : Int))
      have fX1' := hXs.frozen 1
      have cX1' : (wr.setCell ⟨X, 0, none⟩ (.int .u32 (q : Int))).cell? ⟨X, 1, none⟩ = some (.int .u32 (y : Int)) := by
        rw [hXs.cell 1, ← hy]; rfl
      have AYY : Aside (c / 2 ^ (m - q) = y / 2 ∧ c / 2 ^ (m - (q + 1)) = y ∧ q + 1 ≤ m) := ⟨hy2, hy, hI.out.2.1⟩
      clear hp hy hy2 hXs
      go_upto_region 5 with fail
      obtain ⟨w5, hw5⟩ : ∃ w5, w5 = (wr.setCell ⟨X, 0, none⟩ (.int .u32 (q : Int))).setCell ⟨X, 1, none⟩ (.int .u32 ((y : Int) / 2)) := ⟨_, rfl⟩
      rw [← hw5]
      have o5 : Only X wr w5 := by rw [hw5]; exact ((Only.refl X wr).setCell _ _).setCell _ _
      have eY : ((y : Int) / 2) = ((y / 2 : Nat) : Int) := by omega
      have x5 : Cells w5 X #[.int .u32 (q : Int), .int .u32 ((y / 2 : Nat) : Int)] 70 := by
        rw [hw5, eY]; exact (hI.out.2.2.2.cx.set 0 _).set 1 _
      have t5 : Cells w5 T #[.slice (some ⟨g, 0, none⟩) ls.length ls.length, .map (some M)] 66 := hI.out.2.2.2.ct.only o5 (by have := AF.out.1; omega)
      have g5 : Cc w5 g ls (i + 1) := hI.out.2.2.2.cc.heap (o5.block g (by have := AF.out.2.1; omega))
      have m5 : Mp w5 M kp (lp i m c (q + 1) G) := hI.out.2.2.2.cm.only o5 (by have := AF.out.2.2.1; omega)
      have tw5 : Two g M w w5 := by
        rw [hw5]; exact (hI.out.2.2.2.two.setNew (by rw [AF.out.2.2.2.2.2.2.2.2.2.2.2.2.2.2]; exact Nat.le_refl _) _ _).setNew (by rw [AF.out.2.2.2.2.2.2.2.2.2.2.2.2.2.2]; exact Nat.le_refl _) _ _
      have hyb2 : y / 2 < 4294967296 := by omega
      obtain ⟨r, hr⟩ : ∃ r, G q (y / 2) = r := ⟨_, rfl⟩
      have hlook := run_look w5.drew M kp q (y / 2) _ m5 (by omega) hyb2 r (by rw [lp_below G (by omega) AYY.out.2.2]; exact hr)
      have cT1 := t5.cell 1
      have cX0 := x5.cell 0
      have cX1 := x5.cell 1
      simp only [List.getElem?_toArray, List.getElem?_cons_zero, List.getElem?_cons_succ] at cT1 cX0 cX1
      have A5 : Aside (Cells w5 X #[.int .u32 (q : Int), .int .u32 ((y / 2 : Nat) : Int)] 70 ∧ Cells w5 T #[.slice (some ⟨g, 0, none⟩) ls.length ls.length, .map (some M)] 66 ∧ Cc w5 g ls (i + 1) ∧ Mp w5 M kp (lp i m c (q + 1) G) ∧ Two g M w w5 ∧ G q (y / 2) = r) := ⟨x5, t5, g5, m5, tw5, hr⟩
      rw [eY]
      clear hw5 o5 x5 t5 g5 m5 tw5 hr fX0 fX1 fX1' cX1' eY
      obtain ⟨z, hz⟩ : ∃ z, y / 2 = z := ⟨_, rfl⟩
      rw [hz] at hlook cX1 A5 hyb2 ⊢
      have AYZ : Aside (c / 2 ^ (m - q) = z ∧ c / 2 ^ (m - (q + 1)) = y ∧ q + 1 ≤ m) := by have := AYY.out; rw [hz] at this; exact this
      clear AYY hz
      go_region
      have F := AF.out
      cases r with
      | some v =>
        clear hlook
        go_wp2_with fail
        first | (refine bodyPost_ret (results_none rfl _ _ _) rfl ?_) | go_end0 | go_ret | go_ret2
        refine ⟨rfl, ⟨A5.out.2.1, A5.out.2.2.1, _, A5.out.2.2.2.1.mono (by have := hI.out.2.2.1; omega), F.2.2.2.2.2.2.2.2.2.2.2.1.put F.2.2.2.2.2.2.2.2.1 hm F.2.2.2.2.2.2.2.2.2.2.1 hI.out.2.1 (fun _ => ?_)⟩, A5.out.2.2.2.2.1.drew⟩
        rw [show q + 1 - 1 = q by omega, AYZ.out.1, A5.out.2.2.2.2.2]
        rfl
      | none =>
        clear hlook
        obtain ⟨w7, hrun7, m7, gr7⟩ := run_put w5.drew.drew M kp q z (-1) _ A5.out.2.2.2.1 (by have := F.2.2.2.2.2.2.2.2.2.2.2.2.2.1; have := hI.out.2.2.1; omega) (by omega) hyb2 (by decide)
        have A7 : Aside (Mp w7 M (kp + 1) (lp i m c q G) ∧ w5.drew.drew.grownBy w7 (some M)) := ⟨m7.congr fun n x => by rw [← AYZ.out.1]; exact lp_next G (by have := AYZ.out.2.2; omega) n x, gr7⟩
        clear m7 gr7 F
        go_upto_region 7 with fail
        go_region
        go_wp2_with fail
        go_roundg q
        case measure => have := hI.out.1; omega
        case rel =>
          refine ⟨q, kp + 1, ⟨rfl, by have := hI.out.2.1; omega, by have := hI.out.2.2.1; omega, ?_, ?_, ?_, A7.out.1, A5.out.2.2.2.2.1.drew.drew.grown A7.out.2⟩⟩
          · have := (A7.out.2.block X A5.out.1.lt (by intro e; injection e with e; have := AF.out.2.2.1; omega)).trans A5.out.1
            rw [AYZ.out.1]
            exact this
          · exact (A7.out.2.block T A5.out.2.1.lt (by intro e; injection e with e; exact AF.out.2.2.2.2.1 e)).trans A5.out.2.1
          · exact A5.out.2.2.1.heap (A7.out.2.block g A5.out.2.2.1.lt (by intro e; injection e with e; exact AF.out.2.2.2.2.2.1 e))
end Go.Proofs.Ytlmajiejapaegaa

/-
  What add comes to: one state more, its node and its way.
  Conditions: the machine lies as said.
-/
import Derived.Test.YtbepbjbbhenphabDoorMach
import Derived.Deep.RegionLaw
import Derived.Deep.CutBlock
import Derived.Deep.DeepCutAuto
namespace Go.Proofs.YtbepbjbbhenphabDoor
open Go.RowKit
set_option linter.unusedVariables false
theorem info54 : (Tryd.prog.info? 42).map (fun i => (i.zero, i.size, i.bytes)) = some (some (.agg #[.int .i64 0, .int .u8 0, .int .i64 0, .int .i64 0, .int .u64 0]), 5, 40) := by kernel_rfl
theorem nvs_one (nd : Nd) : ∀ u ∈ nd.vs, u.oneCell' = true := by
  intro u hu
  simp [Nd.vs] at hu
  rcases hu with rfl | rfl | rfl | rfl | rfl <;> rfl
/-- The map's way from a state with a byte. -/
def upd (G : Nat → Nat → Option Nat) (s c n : Nat) : Nat → Nat → Option Nat := fun s' c' => if s' = s ∧ c' = c then some n else G s' c'
/-- The machine behind a node more and a way more. -/
theorem add_mach {w W w2 : World} {base A pn lg g cap M k N H gg cap' : Nat} {nd : List Nd} {G : Nat → Nat → Option Nat} {n : Nd}
    (hA : w.heap[A]? = some (.cells #[.int .i64 (pn : Int), .int .i64 (lg : Int), .slice (some ⟨g, 0, none⟩) N cap, .map (some M)] 46)) (hM : Mp w M k G) (hk : k ≤ N) (hN : nd.length = N) (hbM : base ≤ M) (hMg : M ≠ g) (hMA : M ≠ A) (hAH : A < H) (hAg : A ≠ g) (hbA : base ≤ A) (hbg : base ≤ g) (hbH : base ≤ H) (hH : w.heap.size = H)
    (hW : Below H w W) (hWs : W.heap.size = H + 1) (hown : w2.ownsRow base 42 5 (.slice (some ⟨gg, 0, none⟩) (N + 1) cap') (N + 1) (nvs nd ++ n.vs)) (hgr : W.grownBy w2 (Value.slice (some ⟨g, 0, none⟩) N cap).ownBlock) (hat : (Value.slice (some ⟨g, 0, none⟩) N cap).ownBlock = some gg ∨ gg = W.heap.size) :
    (w2.setCell ⟨A, 2, none⟩ (.slice (some ⟨gg, 0, none⟩) (N + 1) cap')).cell? ⟨A, 3, none⟩ = some (.map (some M)) ∧ Mp (w2.setCell ⟨A, 2, none⟩ (.slice (some ⟨gg, 0, none⟩) (N + 1) cap')) M k G ∧
    ∀ w4 G', (w2.setCell ⟨A, 2, none⟩ (.slice (some ⟨gg, 0, none⟩) (N + 1) cap')).grownBy w4 (some M) → Mp w4 M (k + 1) G' → Mach w4 base A pn lg (nd ++ [n]) G' ∧ Below base w w4 := by
  have hMH : M < H := by rw [← hH]; exact hM.lt
  have e1 : (Value.slice (some ⟨g, 0, none⟩) N cap).ownBlock = some g := rfl
  rw [e1] at hgr hat
  have hgA : gg ≠ A := by
    rcases hat with h | h
    · cases h; exact fun e => hAg e.symm
    · omega
  have hgM : gg ≠ M := by
    rcases hat with h | h
    · cases h; exact fun e => hMg e.symm
    · omega
  have hbgg : base ≤ gg := by
    rcases hat with h | h
    · cases h; exact hbg
    · omega
  have A2 : w2.heap[A]? = some (.cells #[.int .i64 (pn : Int), .int .i64 (lg : Int), .slice (some ⟨g, 0, none⟩) N cap, .map (some M)] 46) :=
    (hgr.block A (by omega) (fun e => hAg (by cases e; rfl))).trans ((hW.block A hAH).trans hA)
  have M2 : Mp w2 M k G := hM.heap ((hgr.block M (by omega) (fun e => hMg (by cases e; rfl))).trans (hW.block M hMH))
  have A3 := Cells.set (w := w2) (b := A) A2 2 (.slice (some ⟨gg, 0, none⟩) (N + 1) cap')
  obtain ⟨hxl, hx⟩ := hown
  rcases hx with ⟨hv, _⟩ | ⟨g', cp, cur, hv, hb', hh, hc1, hc2, hc3, hc4⟩
  · cases hv
  · cases hv
    have far : ∀ k, k ≠ A → (w2.setCell ⟨A, 2, none⟩ (.slice (some ⟨gg, 0, none⟩) (N + 1) cap')).heap[k]? = w2.heap[k]? := fun k hk => Below.heap_setCell _ _ _ _ hk
    have s3 : (w2.setCell ⟨A, 2, none⟩ (.slice (some ⟨gg, 0, none⟩) (N + 1) cap')).heap.size = w2.heap.size := by simp [World.setCell]
    refine ⟨(Cells.cell A3 3).trans rfl, M2.heap (far M hMA), ?_⟩
    intro w4 G' hg4 hm4
    have hA4 : A < w2.heap.size := (Array.getElem?_eq_some_iff.1 A2).1
    have hg4' : gg < w2.heap.size := (Array.getElem?_eq_some_iff.1 hh).1
    have hs2 := hgr.size
    refine ⟨⟨gg, cap', M, k + 1, cur, ?_, ?_, ?_, hc2, hc3, ?_, hm4, ?_, hbA, hbgg, hbM⟩, ?_⟩
    · rw [hg4.block A (by rw [s3]; exact hA4) (fun e => hMA (by cases e; rfl))]
      have e2 : (nd ++ [n]).length = N + 1 := by simp [hN]
      rw [e2]; exact A3
    · rw [hg4.block gg (by rw [s3]; exact hg4') (fun e => hgM (by cases e; rfl)), far gg hgA]; exact hh
    · simp [hN]; exact hc1
    · rw [show (nd ++ [n]).length * 5 = (N + 1) * 5 by simp [hN], hc4, nvs_app]
    · simp [hN]; exact hk
    · have b1 : Below base w W := hW.mono hbH
      have b2 : Below base W w2 := (Below.refl base W).grown hgr (by omega) (fun j hj => by cases hj; exact hbg)
      have b3 : Below base w2 (w2.setCell ⟨A, 2, none⟩ (.slice (some ⟨gg, 0, none⟩) (N + 1) cap')) := (Below.refl base w2).setCell (p := ⟨A, 2, none⟩) hbA _
      have b4 : Below base (w2.setCell ⟨A, 2, none⟩ (.slice (some ⟨gg, 0, none⟩) (N + 1) cap')) w4 := (Below.refl base _).grown hg4 (by rw [s3]; omega) (fun j hj => by cases hj; exact hbM)
      exact ((b1.trans b2).trans b3).trans b4
set_option maxHeartbeats 4000000 in
theorem add_c {base A pn lg : Nat} {nd : List Nd} {G : Nat → Nat → Option Nat} (s b N : Nat) (n : Nd) (w : World) (h : Mach w base A pn lg nd G) (hb : b < 256) (hN : nd.length = N) (hNb : N < 1048576) (hn : nd[s]? = some n) (hdp : n.dp < 1048576) (hbase : base ≤ w.heap.size) :
    Calls Tryd.prog 24 #[.pointer (some ⟨A, 0, none⟩), .int .i64 s, .int .u8 b] w fun e w' => e = .returned (.int .i64 N) ∧ Mach w' base A pn lg (nd ++ [⟨s, b, n.dp + 1, 0, 0⟩]) (upd G s b N) ∧ Below base w w' := by
  obtain ⟨g, cap, M, k, cur, hA, hg, h1, h2, h3, h4, h5, h6, h7, h8, h9⟩ := id h
  have hown : w.ownsRow base 42 5 (.slice (some ⟨g, 0, none⟩) N cap) N (nvs nd) := by
    refine ⟨by rw [nvs_len, hN], Or.inr ⟨g, cap, cur, rfl, h8, hg, by omega, h2, h3, by rw [← hN]; exact h4⟩⟩
  have cA := fun i => Cells.cell (w := w) (b := A) hA i
  have c2 : w.cell? ⟨A, 2, none⟩ = some (.slice (some ⟨g, 0, none⟩) nd.length cap) := cA 2
  have c3 : w.cell? ⟨A, 3, none⟩ = some (.map (some M)) := cA 3
  have fA := Cells.frozen (w := w) (b := A) hA 2
  have hAg : A ≠ g := fun e => by rw [e, hg] at hA; cases hA
  have hsl := (List.getElem?_eq_some_iff.1 hn).1
  have cd : w.cell? ⟨g, s * 5 + 2, none⟩ = some (.int .i64 (n.dp : Int)) := by
    rw [Cells.cell (cs := cur) (t := 42) hg]
    have := nvs_at nd s 2 n hn (by decide)
    rw [← h4, List.getElem?_take, if_pos (by omega), show n.vs[2]? = some (.int .i64 (n.dp : Int)) from rfl] at this
    simpa using this
  rw [hN] at c2 hsl
  obtain ⟨dp, hd⟩ : ∃ dp, n.dp = dp := ⟨_, rfl⟩
  rw [hd] at cd hdp ⊢
  have hsi : (s : Int) < (N : Int) := by omega
  obtain ⟨dq, hdq⟩ : ∃ dq, dp + 1 = dq := ⟨_, rfl⟩
  have hdw : IntKind.i64.wrap ((dp : Int) + 1) = (dq : Int) := by rw [IntKind.wrap_i64]; omega
  rw [hdq]
  obtain ⟨i0, hi0, hz0, hz1, hz2⟩ := info_parts info54
  obtain ⟨H, hH⟩ : ∃ H, w.heap.size = H := ⟨_, rfl⟩
  have hownD : (w.alloc (.cells #[.int .i64 (s : Int), .int .u8 (b : Int), .int .i64 (dq : Int), .int .i64 0, .int .u64 0] 42)).drew.ownsRow base 42 5 (.slice (some ⟨g, 0, none⟩) N cap) N (nvs nd) := hown.alloc _
  have hnewsD : ∀ j u, (Nd.vs ⟨s, b, dq, 0, 0⟩)[j]? = some u → (w.alloc (.cells #[.int .i64 (s : Int), .int .u8 (b : Int), .int .i64 (dq : Int), .int .i64 0, .int .u64 0] 42)).drew.cell? ((⟨H, 0, none⟩ : Addr).add j) = some u := by
    rw [← hH]
    exact World.news_of_block (cs := #[.int .i64 (s : Int), .int .u8 (b : Int), .int .i64 (dq : Int), .int .i64 0, .int .u64 0]) (Cells.new w _ 42)
  have bD : Below H w (w.alloc (.cells #[.int .i64 (s : Int), .int .u8 (b : Int), .int .i64 (dq : Int), .int .i64 0, .int .u64 0] 42)).drew := by
    rw [← hH]
    have h0 := (Below.refl w.heap.size w).alloc (Nat.le_refl _) (.cells #[.int .i64 (s : Int), .int .u8 (b : Int), .int .i64 (dq : Int), .int .i64 0, .int .u64 0] 42)
    exact ⟨h0.os, h0.tape, h0.output, h0.size, h0.block⟩
  have sD : (w.alloc (.cells #[.int .i64 (s : Int), .int .u8 (b : Int), .int .i64 (dq : Int), .int .i64 0, .int .u64 0] 42)).drew.heap.size = H + 1 := by rw [← hH]; show (w.heap.push _).size = _; simp
  have c2D := (bD.cell (p := ⟨A, 2, none⟩) (by rw [← hH]; exact h.lt)).trans c2
  have AB : Aside (Mach w base A pn lg nd G ∧ nd.length = N ∧ N < 1048576 ∧ base ≤ H ∧ A < H ∧ A ≠ g ∧ b < 256 ∧ s < N ∧ base ≤ A ∧ g < H ∧ base ≤ g) := ⟨h, hN, hNb, by omega, by rw [← hH]; exact h.lt, hAg, hb, hsl, h7, by rw [← hH]; exact (Array.getElem?_eq_some_iff.1 hg).1, h8⟩
  have AM : Aside (Mp w M k G ∧ k ≤ N ∧ base ≤ M ∧ M ≠ g ∧ M ≠ A) := by
    refine ⟨h5, by omega, h9, fun e => ?_, fun e => ?_⟩
    · obtain ⟨es, cl, hm⟩ := h5.isMap
      rw [e, hg] at hm; cases hm
    · obtain ⟨es, cl, hm⟩ := h5.isMap
      rw [e, hA] at hm; cases hm
  have AD : Aside (Below H w (w.alloc (.cells #[.int .i64 (s : Int), .int .u8 (b : Int), .int .i64 (dq : Int), .int .i64 0, .int .u64 0] 42)).drew ∧ (w.alloc (.cells #[.int .i64 (s : Int), .int .u8 (b : Int), .int .i64 (dq : Int), .int .i64 0, .int .u64 0] 42)).drew.heap.size = H + 1) := ⟨bD, sD⟩
  have AO : Aside (w.heap[A]? = some (.cells #[.int .i64 (pn : Int), .int .i64 (lg : Int), .slice (some ⟨g, 0, none⟩) N cap, .map (some M)] 46)) := by show _ = _; rw [hA, hN]
  have hgne : some A ≠ (Value.slice (some ⟨g, 0, none⟩) N cap).ownBlock := fun e => hAg (by simpa [Value.ownBlock] using e)
  clear h1 h2 h3 h4 h5 h6 h7 h8 h9 hA hg h hN hn hd cA hdp hsl hb hdq hown hbase bD sD hAg
  go_enter Tryd.func24, Tryd.ntmps24
  go_upto_region 2 with fail
  go_region_law (first
    | (refine step_append_lies _ (by rfl) _ _ _ (by rfl) base 42 i0 (.agg #[.int .i64 0, .int .u8 0, .int .i64 0, .int .i64 0, .int .u64 0]) 5 40 Tryd.underlying43 hi0 hz0 hz1 hz2 rfl (by decide) _ N (nvs nd) (by rfl) hownD ⟨H, 0, none⟩ 1 1 (Nd.vs ⟨s, b, dq, 0, 0⟩) (by rfl) (by rfl) hnewsD (nvs_one _) (by decide) (by unfold maxLen; have := AB.out; omega) (by have := AB.out; omega) (by have := AB.out; have := AD.out.2; omega) _ rfl ?_
       intro gg cap' w2 hown2 hgrow hat hlt2
       have hf2 := (hgrow.frozen_far ⟨A, 2, none⟩ (by show A < _; have := AB.out; have := AD.out.2; omega) hgne).trans ((AD.out.1.frozen (p := ⟨A, 2, none⟩) AB.out.2.2.2.2.1).trans fA)
       have hc2 := (hgrow.cell_far ⟨A, 2, none⟩ (by show A < _; have := AB.out; have := AD.out.2; omega) hgne).trans ((AD.out.1.cell (p := ⟨A, 2, none⟩) AB.out.2.2.2.2.1).trans c2)))
  all_goals (
    obtain ⟨q1, q2, q3⟩ := add_mach AO.out AM.out.1 AM.out.2.1 AB.out.2.1 AM.out.2.2.1 AM.out.2.2.2.1 AM.out.2.2.2.2 AB.out.2.2.2.2.1 AB.out.2.2.2.2.2.1 AB.out.2.2.2.2.2.2.2.2.1 AB.out.2.2.2.2.2.2.2.2.2.2 AB.out.2.2.2.1 hH AD.out.1 AD.out.2 hown2 hgrow hat
    have A3 : Aside (Mp (w2.setCell ⟨A, 2, none⟩ (.slice (some ⟨gg, 0, none⟩) (N + 1) cap')) M k G ∧ ∀ w4 G', (w2.setCell ⟨A, 2, none⟩ (.slice (some ⟨gg, 0, none⟩) (N + 1) cap')).grownBy w4 (some M) → Mp w4 M (k + 1) G' → Mach w4 base A pn lg (nd ++ [⟨s, b, dq, 0, 0⟩]) G' ∧ Below base w w4) := ⟨q2, q3⟩
    clear q2 q3 hown2 hgrow hat hlt2 hf2 hc2 hownD hnewsD c2D c2 c3 fA cd AO AD
    generalize w2.setCell ⟨A, 2, none⟩ (.slice (some ⟨gg, 0, none⟩) (N + 1) cap') = w3 at q1 A3 ⊢
    go_wp2_with (first | (at_mapUpdate; refine wpList_put w3 rfl _ _ _ rfl M k s b N G (by rfl) A3.out.1 (by have := AM.out; have := AB.out; omega) (by rfl) (by rfl) (by have := AB.out; omega) (by have := AB.out; omega) AB.out.2.2.2.2.2.2.1 ?_; intro w4 hm4 hg4))
    go_ret
    exact ⟨rfl, A3.out.2 w4 _ hg4 hm4⟩)
end Go.Proofs.YtbepbjbbhenphabDoor

/-
  What the document's machine is asked: Is, Next, Out.
  Conditions: its words and its ways lie in memory as the states say; the patterns lie in memory.
-/
import Derived.Test.YtbepbjbbhenphaaDoorRefMach
import Derived.Test.YtbepbjbbhenphaaDoorRefApp
namespace Go.Proofs.YtbepbjbbhenphaaDoor
open Go.RowKit
set_option linter.unusedVariables false
theorem Kds.below {w u : World} {a : Option Addr} {l : List (Nat × Nat)} (h : Kds w a l) (k : Below w.heap.size w u) : Kds u a l := by
  rcases h with h | ⟨b, o, ha, hc⟩
  · exact Or.inl h
  · refine Or.inr ⟨b, o, ha, fun i x hx => ?_⟩
    obtain ⟨c0, c1⟩ := hc i x hx
    have hb := World.block_lt_of_cell? w ⟨b, o + i * 2, none⟩ c0
    exact ⟨(k.cell (p := ⟨b, o + i * 2, none⟩) hb).trans c0, (k.cell (p := ⟨b, o + i * 2 + 1, none⟩) hb).trans c1⟩
theorem Rm.below {w u : World} {Q N : Nat} {pa : Option Addr} {PL PC : Nat} {ws : List (List Nat)} {kids : List (List (Nat × Nat))} (h : Rm w Q N pa PL PC ws kids) (k : Below w.heap.size w u) : Rm u Q N pa PL PC ws kids := by
  obtain ⟨wa, wc, ka, kc, c0, c1, c2, hw, hk⟩ := h.cells
  have hq := World.block_lt_of_cell? w ⟨Q, 0, none⟩ c0
  refine ⟨⟨wa, wc, ka, kc, (k.cell (p := ⟨Q, 0, none⟩) hq).trans c0, (k.cell (p := ⟨Q, 1, none⟩) hq).trans c1, (k.cell (p := ⟨Q, 2, none⟩) hq).trans c2, hw.below k, ?_⟩, h.len, h.klen, h.tri, h.kin⟩
  rcases hk with e | ⟨b, o, ha, hc⟩
  · exact Or.inl e
  · refine Or.inr ⟨b, o, ha, fun i l hl => ?_⟩
    obtain ⟨ki, kc', e1, e2, e3⟩ := hc i l hl
    exact ⟨ki, kc', (k.cell (p := ⟨b, o + i, none⟩) (World.block_lt_of_cell? w ⟨b, o + i, none⟩ e1)).trans e1, e2.below k, e3⟩
theorem is_c {Q N : Nat} {pa : Option Addr} {PL PC : Nat} {ws : List (List Nat)} {kids : List (List (Nat × Nat))} (s : Int) (w : World) (h : Rm w Q N pa PL PC ws kids) :
    Calls Tryd.prog 39 #[.pointer (some ⟨Q, 0, none⟩), .int .i64 s] w fun e w' => e = .returned (.bool (decide (0 ≤ s ∧ s < (N : Int)))) ∧ w = w' := by
  obtain ⟨wa, wc, ka, kc, c0, c1, c2, _, _⟩ := h.cells
  clear h c0 c2
  by_cases h0 : 0 ≤ s
  · by_cases h1 : s < (N : Int)
    · rw [decide_eq_true ⟨h0, h1⟩]
      go_enter Tryd.func39, Tryd.ntmps39
      go_wp2_with fail
      go_ret
      exact ⟨rfl, rfl⟩
    · rw [decide_eq_false (fun h => h1 h.2)]
      go_enter Tryd.func39, Tryd.ntmps39
      go_wp2_with fail
      go_ret
      exact ⟨rfl, rfl⟩
  · rw [decide_eq_false (fun h => h0 h.1)]
    go_enter Tryd.func39, Tryd.ntmps39
    go_wp2_with fail
    go_ret
    exact ⟨rfl, rfl⟩
theorem rnext_no {Q N : Nat} {pa : Option Addr} {PL PC : Nat} {ws : List (List Nat)} {kids : List (List (Nat × Nat))} (s : Int) (b : Nat) (w : World) (h : Rm w Q N pa PL PC ws kids) (hs : ¬ (0 ≤ s ∧ s < (N : Int))) :
    Calls Tryd.prog 28 #[.pointer (some ⟨Q, 0, none⟩), .int .i64 s, .int .u8 (b : Int)] w fun e w' => e = .returned (.int .i64 0) ∧ w = w' := by
  have hi := is_c s w h
  rw [decide_eq_false hs] at hi
  clear h hs
  go_enter Tryd.func28, Tryd.ntmps28
  go_wp2_with (go_at_call 39; refine hi.mono ?_; rintro e2 w2 ⟨rfl, rfl⟩)
  go_ret
  exact ⟨rfl, rfl⟩
set_option maxRecDepth 100000 in
set_option maxHeartbeats 2000000 in
theorem rnext_c {Q N : Nat} {pa : Option Addr} {PL PC : Nat} {ws : List (List Nat)} {kids : List (List (Nat × Nat))} (s b r : Nat) (u : List Nat) (w : World) (h : Rm w Q N pa PL PC ws kids) (hs : ws[s]? = some u) (hu : u.length < 1000) (hr : ws[r]? = some (lsf ws (u ++ [b]))) :
    Calls Tryd.prog 28 #[.pointer (some ⟨Q, 0, none⟩), .int .i64 (s : Int), .int .u8 (b : Int)] w fun e w' => e = .returned (.int .i64 (r : Int)) ∧ Below w.heap.size w w' := by
  have hsN : s < N := by have := at_lt hs; have := h.len; omega
  have hi := is_c (s : Int) w h
  rw [decide_eq_true ⟨by omega, by omega⟩] at hi
  obtain ⟨w1, hw1⟩ : ∃ w1, w1 = w.alloc (.cells #[] 5) := ⟨_, rfl⟩
  have b1 : Below w.heap.size w w1 := by rw [hw1]; exact (Below.refl _ w).alloc (Nat.le_refl _) _
  obtain ⟨wa, wc, ka, kc, c0, c1, c2, hw, _⟩ := (h.below b1).cells
  have hw0 : Rows2 w wa ws := by
    obtain ⟨wa', wc', _, _, _, c1', _, hw', _⟩ := h.cells
    have := (b1.cell (p := ⟨Q, 1, none⟩) (World.block_lt_of_cell? w ⟨Q, 1, none⟩ c1')).trans c1'
    rw [c1] at this
    cases this
    exact hw'
  rcases hw with e | ⟨wb, wo, rfl, hc⟩
  · rw [e] at hs; simp at hs
  rcases hw0 with e | ⟨wb', wo', e0, hc0⟩
  · rw [e] at hs; simp at hs
  cases e0
  obtain ⟨ai, ci, e1, e2, e3, e4, e5⟩ := hc s u hs
  obtain ⟨ai', ci', f1, f2, f3, f4, f5⟩ := hc0 s u hs
  have f1' := (b1.cell (p := ⟨wb, wo + s, none⟩) (World.block_lt_of_cell? w ⟨wb, wo + s, none⟩ f1)).trans f1
  rw [e1] at f1'
  cases f1'
  obtain ⟨n, hn⟩ : ∃ n, u.length = n := ⟨_, rfl⟩
  have hsi : (s : Int) < (N : Int) := by omega
  have AH : Aside (Rm w Q N pa PL PC ws kids ∧ Lies w ai u ∧ u.length = n ∧ n < 1000 ∧ (ai = none → n = 0 ∧ ci = 0) ∧ ws[r]? = some (lsf ws (u ++ [b]))) := ⟨h, f2, hn, by omega, by rw [← hn]; exact f5, hr⟩
  rw [hn] at e1
  clear h hs hu hr hc hc0 e2 e3 e4 e5 f1 f2 f3 f4 f5 b1 hn hsN c0 c2
  go_enter Tryd.func28, Tryd.ntmps28
  go_upto_region 3 with (go_at_call 39; refine hi.mono ?_; rintro e2 w2 ⟨rfl, rfl⟩)
  clear hi
  rw [hw1] at c1 e1
  clear hw1
  go_wp2_with (first
    | (refine wpList_app0 _ rfl (.tmp 12) (.tmp 19) rfl w (by rfl) w.heap.size rfl (by rfl) ai u n ci AH.out.2.2.1 (by rfl) AH.out.2.2.2.2.1 AH.out.2.1 (by have := AH.out; omega) ?_; intro v3 w3 h3
       obtain ⟨w4, hw4⟩ : ∃ w4, w4 = w3.alloc (.cells #[.int .u8 (b : Int)] 5) := ⟨_, rfl⟩
       have A4 : Aside (Apd w w4 w.heap.size v3 u ∧ Lies w4 (some ⟨w3.heap.size, 0, none⟩) [b]) := ⟨⟨by rw [hw4]; exact h3.own.alloc _, by rw [hw4]; exact h3.bel.alloc h3.le _, by rw [hw4]; simp; have := h3.le; omega⟩, Or.inr ⟨w3.heap.size, 0, rfl, fun i x hx => by
         rw [Nat.zero_add, hw4, (Cells.new w3 _ 5).cell]
         match i, hx with
         | 0, hx => cases hx; rfl⟩⟩
       clear h3)
    | (rw [← hw4]; refine wpList_appm w w4 rfl (.tmp 20) (.tmp 22) rfl w.heap.size v3 u (by rfl) A4.out.1 (some ⟨w3.heap.size, 0, none⟩) [b] 1 1 rfl (by rfl) (fun e => by cases e) A4.out.2 (by have := AH.out; simp; omega) ?_; intro v5 w5 h5
       obtain ⟨ua, uc, hv5, hl5, huc, huz⟩ := h5.shape
       have hul : (u ++ [b]).length = n + 1 := (by rw [List.length_append, AH.out.2.2.1]; rfl)
       rw [hul] at hv5 huc
       subst hv5
       have hlong := rlongest_c ua (u ++ [b]) (n + 1) uc 0 r w5 (AH.out.1.below h5.bel) hl5 hul huc (by have := AH.out; omega) (fun e => (huz e).2) (by omega) (by rw [List.drop_zero]; exact AH.out.2.2.2.2.2)
       have A5 : Aside (Below w.heap.size w w5) := h5.bel
       clear h5 hl5 huc huz hul)
    | (go_at_call 40; refine hlong.mono ?_; rintro e6 w6 ⟨rfl, rfl⟩))
  go_ret
  exact ⟨rfl, A5.out⟩
end Go.Proofs.YtbepbjbbhenphaaDoor

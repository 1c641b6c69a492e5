/-
  What All comes to, and the document's Same over two lists of hits.
  Conditions: the machine is whole; the hits that are taken have room.
-/
import Derived.Test.YtkdlcdincimnkaaDoorThrough
namespace Go.Proofs.YtkdlcdincimnkaaDoor
open Go.RowKit
set_option linter.unusedVariables false
/-- Hits as they lie. -/
def Hits (w : World) (a : Option Addr) (l : List (Nat × Nat)) : Prop := l = [] ∨ ∃ b o, a = some ⟨b, o, none⟩ ∧ ∀ (i : Nat) (h : Nat × Nat), l[i]? = some h → w.cell? ⟨b, o + i * 3, none⟩ = some (.int .i64 (h.1 : Int)) ∧ w.cell? ⟨b, o + i * 3 + 1, none⟩ = some (.slice none 0 0) ∧ w.cell? ⟨b, o + i * 3 + 2, none⟩ = some (.int .i64 (h.2 : Int))
theorem Hits.below {w u : World} {a : Option Addr} {l : List (Nat × Nat)} (h : Hits w a l) (k : Below w.heap.size w u) : Hits u a l := by
  rcases h with h | ⟨b, o, ha, hc⟩
  · exact Or.inl h
  · refine Or.inr ⟨b, o, ha, fun i x hx => ?_⟩
    obtain ⟨c0, c1, c2⟩ := hc i x hx
    have hb := World.block_lt_of_cell? w ⟨b, o + i * 3, none⟩ c0
    exact ⟨(k.cell (p := ⟨b, o + i * 3, none⟩) hb).trans c0, (k.cell (p := ⟨b, o + i * 3 + 1, none⟩) hb).trans c1, (k.cell (p := ⟨b, o + i * 3 + 2, none⟩) hb).trans c2⟩
theorem Hits.take {w : World} {a : Option Addr} {l : List (Nat × Nat)} (h : Hits w a l) (n : Nat) : Hits w a (l.take n) := by
  rcases h with h | ⟨b, o, ha, hc⟩
  · exact Or.inl (by rw [h]; simp)
  · refine Or.inr ⟨b, o, ha, fun i x hx => hc i x ?_⟩
    rw [List.getElem?_take] at hx
    split at hx
    · exact hx
    · cases hx
theorem owns_hits {w : World} {base : Nat} {v : Value} {l : List (Nat × Nat)} (h : w.ownsRow base 59 3 v l.length (hvs l)) : ∃ a c, v = .slice a l.length c ∧ Hits w a l ∧ l.length ≤ c ∧ (a = none → l.length = 0 ∧ c = 0) := by
  rcases h.2 with ⟨hv, h0⟩ | ⟨g, c, cur, hv, hg, hh, hc, hm, hs, ht⟩
  · exact ⟨none, 0, by rw [hv, h0], Or.inl (List.eq_nil_of_length_eq_zero h0), by omega, fun _ => ⟨h0, rfl⟩⟩
  · refine ⟨_, c, hv, Or.inr ⟨g, 0, rfl, fun i x hx => ?_⟩, hc, fun e => (by cases e)⟩
    have hi := at_lt hx
    have each : ∀ j, j < 3 → w.cell? ⟨g, 0 + i * 3 + j, none⟩ = (YtkdlcdincimnkaaDoor.hv x)[j]? := by
      intro j hj
      rw [Cells.cell (cs := cur) (t := 59) hh, ← hvs_at l i j x hx hj, ← ht, List.getElem?_take, if_pos (by omega)]
      simp
    exact ⟨each 0 (by decide), each 1 (by decide), each 2 (by decide)⟩
/-- All's answer: the hits that were taken, a list of the call's own. -/
structure Alls (w w' : World) (v : Value) (l : List (Nat × Nat)) : Prop where
  own : w'.ownsRow w.heap.size 59 3 v l.length (hvs l)
  bel : Below w.heap.size w w'
theorem all_nil (a : Option Addr) (n c : Nat) (most : Int) (w : World) : Calls Tryd.prog 23 #[.pointer none, .slice a n c, .int .i64 most] w fun e w' => e = .returned (.tuple #[.slice none 0 0, .bool true]) ∧ Below w.heap.size w w' := by
  obtain ⟨w1, hw1⟩ : ∃ w1, w1 = w.alloc (.cells #[.int .i64 most] 3) := ⟨_, rfl⟩
  have b1 : Aside (Below w.heap.size w w1) := by rw [hw1]; exact (Below.refl _ w).alloc (Nat.le_refl _) _
  have hn := new_nil w1
  go_enter Tryd.func23, Tryd.ntmps23
  go_upto_region 1 with fail
  rw [← hw1]
  clear hw1
  go_wp2_with (go_at_call 12; refine hn.mono ?_; rintro e2 w2 ⟨rfl, rfl⟩)
  first | go_ret | go_ret2
  exact ⟨rfl, b1.out⟩
set_option maxRecDepth 100000 in
set_option maxHeartbeats 4000000 in
theorem all_c {base A pn lg : Nat} {nd : List Nd} {G : Nat → Nat → Option Nat} {ps : List (List Nat)} (w : World) (hm : Mach w base A pn lg nd G) (hf : Full ps nd G) (hg : Good ps) (hT : Tab w)
    (ta : Option Addr) (t : List Nat) (TL TC : Nat) (ht : Lies w ta t) (hTL : t.length = TL) (hTb : TL < 140737488355328) (hto : Oct t) (most : Int)
    (hsz : ∀ n, n ≤ (hitsOf ps t).length → (n : Int) ≤ most → n * 40 ≤ 140737488355328) :
    Calls Tryd.prog 23 #[.pointer (some ⟨A, 0, none⟩), .slice ta TL TC, .int .i64 most] w fun e w' => ∃ v, e = .returned (.tuple #[v, .bool (decide ((hitsOf ps t).length ≤ most.toNat))]) ∧ Alls w w' v ((hitsOf ps t).take most.toNat) := by
  obtain ⟨H, hH⟩ : ∃ H, w.heap.size = H := ⟨_, rfl⟩
  obtain ⟨w1, hw1⟩ : ∃ w1, w1 = w.alloc (.cells #[.int .i64 most] 3) := ⟨_, rfl⟩
  have b1 : Below H w w1 := by rw [hw1, ← hH]; exact (Below.refl _ w).alloc (Nat.le_refl _) _
  have s1 : w1.heap.size = H + 1 := by rw [hw1, ← hH]; simp
  have C1 : Cells w1 H #[.int .i64 most] 3 := by rw [hw1, ← hH]; exact Cells.new w _ 3
  have hnew := new_c A w1
  rw [s1] at hnew
  obtain ⟨W, hW⟩ : ∃ W, decide ((hitsOf ps t).length ≤ most.toNat) = W := ⟨_, rfl⟩
  have hth : ∀ w2 S, Below (H + 1) w1 w2 → Mt w2 (H + 1) 0 0 A → w2.heap.size = S → ∀ w3, w3 = w2.alloc (.cells #[.slice none 0 0] 48) → Calls Tryd.prog 38 #[.pointer (some ⟨H + 1, 0, none⟩), .slice ta TL TC, .func (.func 37) #[] #[.pointer (some ⟨S, 0, none⟩), .pointer (some ⟨H, 0, none⟩)]] w3 fun e w' => e = .returned (.bool W) ∧ (∃ v, Bag w' (S + 1) S H v ((hitsOf ps t).take most.toNat) most) ∧ Below H w w' ∧ H ≤ S := by
    intro w2 S hb2 hm2 hs2 w3 hw3
    have hl := hm2.lt
    have b2 : Below H w w2 := b1.trans (hb2.mono (by omega))
    have b3 : Below H w w3 := by rw [hw3]; exact b2.alloc (by omega) _
    have hbox : Cells w3 S #[.slice none 0 0] 48 := by rw [hw3, ← hs2]; exact Cells.new w2 _ 48
    have s3 : w3.heap.size = S + 1 := by rw [hw3]; simp [hs2]
    have := through_c w w3 hm hf hg hT (by rw [hH]; exact b3) (H + 1) (by omega) (by rw [hw3]; exact Cells.alloc hm2 _) (S + 1) S H most ⟨hbox, by rw [hw3]; exact (C1.below hb2 (by omega)).alloc _, ⟨rfl, Or.inl ⟨rfl, rfl⟩⟩, by omega, by omega, by omega, by omega⟩ (by omega) (by omega) (by omega) (by omega) ta t TL TC ht hTL hTb hto hsz
    rw [hW, hH] at this
    exact this.mono fun e w' h => ⟨h.1, h.2.1, h.2.2, by omega⟩
  have AH : Aside (w.heap.size = H ∧ w1.heap.size = H + 1 ∧ decide ((hitsOf ps t).length ≤ most.toNat) = W) := ⟨hH, s1, hW⟩
  rw [hW]
  clear hm hf hg hT ht hTL hTb hto hsz b1 C1 hW hH
  go_enter Tryd.func23, Tryd.ntmps23
  go_upto_region 1 with fail
  rw [← hw1, AH.out.1]
  clear hw1
  go_upto_region 4 with (go_at_call 12; refine hnew.mono ?_; rintro e2 w2 ⟨rfl, hm2, hb2⟩)
  obtain ⟨S, hS⟩ : ∃ S, w2.heap.size = S := ⟨_, rfl⟩
  obtain ⟨w3, hw3⟩ : ∃ w3, w3 = w2.alloc (.cells #[.slice none 0 0] 48) := ⟨_, rfl⟩
  have hgo := hth w2 S hb2 hm2 hS w3 hw3
  clear hth hnew hm2 hb2
  go_upto_region 5 with fail
  rw [← hw3]
  clear hw3 hS
  go_wp2_with (go_at_call 38; refine hgo.mono ?_; rintro e4 w4 ⟨rfl, ⟨v, hbag⟩, hb4, hs4⟩; have cv : w4.cell? ⟨S, 0, none⟩ = some v := hbag.box.cell 0)
  first | go_ret | go_ret2
  refine ⟨v, rfl, ?_, ?_⟩
  · have hh := AH.out.1
    rcases hbag.own.2 with ⟨hv, h0⟩ | ⟨g, c, cur, hv, hg, r⟩
    · exact ⟨hbag.own.1, Or.inl ⟨hv, h0⟩⟩
    · exact ⟨hbag.own.1, Or.inr ⟨g, c, cur, hv, by omega, r⟩⟩
  · rw [AH.out.1]; exact hb4
set_option maxRecDepth 100000 in
set_option maxHeartbeats 4000000 in
/-- Two lists of the same hits, held against each other. -/
theorem hsame_yes (a b : Option Addr) (l : List (Nat × Nat)) (L c d : Nat) (w : World) (hL : l.length = L) (hlt : L < 140737488355328) (h1 : Hits w a l) (h2 : Hits w b l) : Calls Tryd.prog 25 #[.slice a L c, .slice b L d] w fun e w' => e = .returned (.bool true) ∧ Drawn w w' := by
  have AB : Aside (l.length = L ∧ L < 140737488355328 ∧ Hits w a l ∧ Hits w b l) := ⟨hL, hlt, h1, h2⟩
  clear hL hlt h1 h2
  go_enter Tryd.func25, Tryd.ntmps25
  go_wp2_with fail
  go_loopg [5] L (fun g si wr => ∃ i : Nat, si = .int .i64 i ∧ Aside (i + g = L ∧ Drawn w wr))
  case atStart => exact ⟨0, rfl, ⟨by omega, Drawn.refl _⟩⟩
  case round =>
    obtain ⟨i, rfl, hA⟩ := hrel
    by_cases hiL : i < L
    · have hi : (i : Int) < (L : Int) := by omega
      have hl := AB.out
      obtain ⟨x, hx⟩ : ∃ x, l[i]? = some x := ⟨_, List.getElem?_eq_getElem (by omega)⟩
      rcases hl.2.2.1 with e | ⟨ab, ao, rfl, hca⟩
      · rw [e] at hx; simp at hx
      rcases hl.2.2.2 with e | ⟨bb, bo, rfl, hcb⟩
      · rw [e] at hx; simp at hx
      obtain ⟨x0, x1, x2⟩ := hca i x hx
      obtain ⟨y0, y1, y2⟩ := hcb i x hx
      have x0 := hA.out.2.cell x0
      have x1 := hA.out.2.cell x1
      have x2 := hA.out.2.cell x2
      have y0 := hA.out.2.cell y0
      have y1 := hA.out.2.cell y1
      have y2 := hA.out.2.cell y2
      have AX : Aside (i < L) := hiL
      obtain ⟨p, e⟩ := x
      simp only at x0 x2 y0 y2
      clear hl hca hcb hx hiL
      have hin := fun (W : World) => ints_c none none [] [] 0 0 0 0 W rfl rfl (by decide) (Or.inl rfl) (Or.inl rfl)
      go_wp2_with fail
      go_quiet (first | (go_at_call 19; refine Calls.quiet_of (hin _)))
      go_wp2_with fail
      have hk := AX.out; have hkk := hA.out; have hbb := AB.out
      go_roundg (L - (i + 1))
      case measure => omega
      case rel => exact ⟨i + 1, by first | (rw [w64_id _ (by omega) (by omega)]; rfl) | go_num, ⟨by omega, hkk.2.trans ⟨_, rfl⟩⟩⟩
    · have hi : ¬ (i : Int) < (L : Int) := by omega
      clear hiL
      go_wp2_with fail
      go_ret
      exact ⟨rfl, hA.out.2⟩
end Go.Proofs.YtkdlcdincimnkaaDoor

/-
  What the machine's methods come to: States, Patterns, Longest, Fail, Depth, Word, Out; of a state, of a number that is no state's, of the nil machine.
  Conditions: the machine lies as said.
-/
import Derived.Test.YtbepbjbbhenphabDoorBuild
import Derived.Test.YtbepbjbbhenphabDoorTz
import Derived.OwnWalk
namespace Go.Proofs.YtbepbjbbhenphabDoor
open Go.RowKit
set_option linter.unusedVariables false
section
variable {base A pn lg : Nat} {nd : List Nd} {G : Nat → Nat → Option Nat}
theorem states_c (w : World) (h : Mach w base A pn lg nd G) (N : Nat) (hN : nd.length = N) : Calls Tryd.prog 7 #[.pointer (some ⟨A, 0, none⟩)] w fun e w' => e = .returned (.int .i64 (N : Int)) ∧ w = w' := by
  obtain ⟨g, cap, M, k, c0, c1, c2, c3, h1, h2, h3, h4⟩ := h.parts
  rw [hN] at c2
  clear h1 h2 h3 h4 hN c0 c1 c3 h
  go_enter Tryd.func7, Tryd.ntmps7
  go_wp2_with fail
  go_ret
  exact ⟨rfl, rfl⟩
theorem longest_c (w : World) (h : Mach w base A pn lg nd G) : Calls Tryd.prog 8 #[.pointer (some ⟨A, 0, none⟩)] w fun e w' => e = .returned (.int .i64 (lg : Int)) ∧ w = w' := by
  obtain ⟨g, cap, M, k, c0, c1, c2, c3, h1, h2, h3, h4⟩ := h.parts
  clear h1 h2 h3 h4 c0 c2 c3 h
  go_enter Tryd.func8, Tryd.ntmps8
  go_wp2_with fail
  go_ret
  exact ⟨rfl, rfl⟩
theorem fail_c (s : Nat) (n : Nd) (w : World) (h : Mach w base A pn lg nd G) (hn : nd[s]? = some n) : Calls Tryd.prog 13 #[.pointer (some ⟨A, 0, none⟩), .int .i64 (s : Int)] w fun e w' => e = .returned (.int .i64 (n.fa : Int)) ∧ w = w' := by
  have hlt := at_lt hn
  have hh := has_c (s : Int) w h nd.length rfl
  rw [decide_eq_true (show 0 ≤ (s : Int) ∧ (s : Int) < (nd.length : Int) by omega)] at hh
  obtain ⟨g, cap, M, k, c0, c1, c2, c3, h1, h2, h3, h4⟩ := h.parts
  have hc := (h4 s n hn).2.2.2.1
  obtain ⟨N, hN⟩ : ∃ N, nd.length = N := ⟨_, rfl⟩
  rw [hN] at c2
  have hsN : (s : Int) < (N : Int) := by omega
  generalize n.fa = f at *
  clear h1 h2 h3 h4 c0 c1 c3 h hN hlt
  go_enter Tryd.func13, Tryd.ntmps13
  go_wp2_with (go_at_call 19; refine hh.mono ?_; rintro e2 w2 ⟨rfl, rfl⟩)
  go_ret
  exact ⟨rfl, rfl⟩
theorem depth_c (s : Nat) (n : Nd) (w : World) (h : Mach w base A pn lg nd G) (hn : nd[s]? = some n) : Calls Tryd.prog 22 #[.pointer (some ⟨A, 0, none⟩), .int .i64 (s : Int)] w fun e w' => e = .returned (.int .i64 (n.dp : Int)) ∧ w = w' := by
  have hlt := at_lt hn
  have hh := has_c (s : Int) w h nd.length rfl
  rw [decide_eq_true (show 0 ≤ (s : Int) ∧ (s : Int) < (nd.length : Int) by omega)] at hh
  obtain ⟨g, cap, M, k, c0, c1, c2, c3, h1, h2, h3, h4⟩ := h.parts
  have hc := (h4 s n hn).2.2.1
  obtain ⟨N, hN⟩ : ∃ N, nd.length = N := ⟨_, rfl⟩
  rw [hN] at c2
  have hsN : (s : Int) < (N : Int) := by omega
  generalize n.dp = f at *
  clear h1 h2 h3 h4 c0 c1 c3 h hN hlt
  go_enter Tryd.func22, Tryd.ntmps22
  go_wp2_with (go_at_call 19; refine hh.mono ?_; rintro e2 w2 ⟨rfl, rfl⟩)
  go_ret
  exact ⟨rfl, rfl⟩
theorem fail_no (s : Int) (w : World) (h : Mach w base A pn lg nd G) (hs : ¬ (0 ≤ s ∧ s < (nd.length : Int))) : Calls Tryd.prog 13 #[.pointer (some ⟨A, 0, none⟩), .int .i64 s] w fun e w' => e = .returned (.int .i64 0) ∧ w = w' := by
  have hh := has_c s w h nd.length rfl
  rw [decide_eq_false hs] at hh
  clear h hs
  go_enter Tryd.func13, Tryd.ntmps13
  go_wp2_with (go_at_call 19; refine hh.mono ?_; rintro e2 w2 ⟨rfl, rfl⟩)
  go_ret
  exact ⟨rfl, rfl⟩
theorem depth_no (s : Int) (w : World) (h : Mach w base A pn lg nd G) (hs : ¬ (0 ≤ s ∧ s < (nd.length : Int))) : Calls Tryd.prog 22 #[.pointer (some ⟨A, 0, none⟩), .int .i64 s] w fun e w' => e = .returned (.int .i64 0) ∧ w = w' := by
  have hh := has_c s w h nd.length rfl
  rw [decide_eq_false hs] at hh
  clear h hs
  go_enter Tryd.func22, Tryd.ntmps22
  go_wp2_with (go_at_call 19; refine hh.mono ?_; rintro e2 w2 ⟨rfl, rfl⟩)
  go_ret
  exact ⟨rfl, rfl⟩
theorem out_no (s : Int) (w : World) (h : Mach w base A pn lg nd G) (hs : ¬ (0 ≤ s ∧ s < (nd.length : Int))) : Calls Tryd.prog 10 #[.pointer (some ⟨A, 0, none⟩), .int .i64 s] w fun e w' => e = .returned (.slice none 0 0) ∧ w = w' := by
  have hh := has_c s w h nd.length rfl
  rw [decide_eq_false hs] at hh
  clear h hs
  go_enter Tryd.func10, Tryd.ntmps10
  go_wp2_with (go_at_call 19; refine hh.mono ?_; rintro e2 w2 ⟨rfl, rfl⟩)
  go_ret
  exact ⟨rfl, rfl⟩
end
/- The nil machine. -/
theorem states_nil (w : World) : Calls Tryd.prog 7 #[.pointer none] w fun e w' => e = .returned (.int .i64 0) ∧ w = w' := by
  go_enter Tryd.func7, Tryd.ntmps7
  go_wp2_with fail
  go_ret
  exact ⟨rfl, rfl⟩
theorem longest_nil (w : World) : Calls Tryd.prog 8 #[.pointer none] w fun e w' => e = .returned (.int .i64 0) ∧ w = w' := by
  go_enter Tryd.func8, Tryd.ntmps8
  go_wp2_with fail
  go_ret
  exact ⟨rfl, rfl⟩
theorem next_nil (s : Int) (b : Int) (w : World) : Calls Tryd.prog 9 #[.pointer none, .int .i64 s, .int .u8 b] w fun e w' => e = .returned (.int .i64 0) ∧ w = w' := by
  go_enter Tryd.func9, Tryd.ntmps9
  go_wp2_with (go_at_call 19; refine (has_nil s w).mono ?_; rintro e2 w2 ⟨rfl, rfl⟩)
  go_ret
  exact ⟨rfl, rfl⟩
theorem fail_nil (s : Int) (w : World) : Calls Tryd.prog 13 #[.pointer none, .int .i64 s] w fun e w' => e = .returned (.int .i64 0) ∧ w = w' := by
  go_enter Tryd.func13, Tryd.ntmps13
  go_wp2_with (go_at_call 19; refine (has_nil s w).mono ?_; rintro e2 w2 ⟨rfl, rfl⟩)
  go_ret
  exact ⟨rfl, rfl⟩
theorem depth_nil (s : Int) (w : World) : Calls Tryd.prog 22 #[.pointer none, .int .i64 s] w fun e w' => e = .returned (.int .i64 0) ∧ w = w' := by
  go_enter Tryd.func22, Tryd.ntmps22
  go_wp2_with (go_at_call 19; refine (has_nil s w).mono ?_; rintro e2 w2 ⟨rfl, rfl⟩)
  go_ret
  exact ⟨rfl, rfl⟩
theorem out_nil (s : Int) (w : World) : Calls Tryd.prog 10 #[.pointer none, .int .i64 s] w fun e w' => e = .returned (.slice none 0 0) ∧ w = w' := by
  go_enter Tryd.func10, Tryd.ntmps10
  go_wp2_with (go_at_call 19; refine (has_nil s w).mono ?_; rintro e2 w2 ⟨rfl, rfl⟩)
  go_ret
  exact ⟨rfl, rfl⟩
/-- Bytes as cells. -/
def vn (l : List Nat) : List Value := l.map fun x : Nat => Value.int .u8 (x : Int)
theorem vn_length (l : List Nat) : (vn l).length = l.length := by simp [vn]
theorem vn_get (l : List Nat) (j : Nat) : (vn l)[j]? = (l[j]?).map fun x : Nat => Value.int .u8 (x : Int) := by simp [vn]
theorem info5 : (Tryd.prog.info? 5).map (fun i => (i.zero, i.size, i.bytes)) = some (some (.int .u8 0), 1, 1) := by kernel_rfl
theorem made_bytes (n : Nat) (hn : n ≤ 1048576) (w : World) : (Instr.makeSlice 23 (.int .i64 (n : Int)) (.int .i64 (n : Int))).run Tryd.prog w = .ok (.slice (some ⟨w.heap.size, 0, none⟩) n n) (w.alloc (.cells (vn (List.replicate n 0)).toArray 5)) := by
  obtain ⟨i, hi, hz, hs, hb⟩ := info_parts info5
  have := run_make (P := Tryd.prog) w 23 5 i _ Tryd.underlying23 hi hz .i64 .i64 n n (by omega) (by omega) (by rw [hb]; omega) (by omega)
  rw [this, hs]
  have e : madeCells (Value.int .u8 0).cells ((n : Int).toNat * 1) = (vn (List.replicate n 0)).toArray := by
    apply Array.toList_inj.1
    show (madeCells #[Value.int .u8 0] _).toList = _
    rw [toList_madeCells_one]
    simp [vn]
  rw [e]
  simp
/-- A row of bytes that the call made. -/
def Bk (w : World) (b : Nat) (l : List Nat) : Prop := Cells w b (vn l).toArray 5
theorem Bk.cell {w : World} {b : Nat} {l : List Nat} (h : Bk w b l) {i x : Nat} (hx : l[i]? = some x) : w.cell? ⟨b, i, none⟩ = some (.int .u8 (x : Int)) := by
  rw [Cells.cell h]; simp [vn_get, hx]
theorem Bk.set {w : World} {b : Nat} {l : List Nat} (h : Bk w b l) (i x : Nat) : Bk (w.setCell ⟨b, i, none⟩ (.int .u8 (x : Int))) b (l.set i x) := by
  have := Cells.set h i (.int .u8 (x : Int))
  unfold Bk
  have e : (vn (l.set i x)).toArray = (vn l).toArray.setIfInBounds i (.int .u8 (x : Int)) := by simp [vn, List.map_set]
  rw [e]; exact this
theorem Bk.lies {w : World} {b : Nat} {l : List Nat} (h : Bk w b l) : Lies w (some ⟨b, 0, none⟩) l := Or.inr ⟨b, 0, rfl, fun i x hx => by rw [Nat.zero_add]; exact h.cell hx⟩
/-- The word of what has none. -/
theorem word_zero (v : Value) (s : Int) (w : World) (h : Calls Tryd.prog 22 #[v, .int .i64 s] w fun e w' => e = .returned (.int .i64 0) ∧ w = w') : Calls Tryd.prog 12 #[v, .int .i64 s] w fun e w' => e = .returned (.slice (some ⟨w.heap.size, 0, none⟩) 0 0) ∧ Bk w' w.heap.size [] ∧ Below w.heap.size w w' := by
  have hm : (Instr.makeSlice 23 (.int .i64 0) (.int .i64 0)).run Tryd.prog w = _ := made_bytes 0 (by omega) w
  have hb : Aside (Below w.heap.size w (w.alloc (.cells (vn (List.replicate 0 0)).toArray 5)) ∧ Bk (w.alloc (.cells (vn (List.replicate 0 0)).toArray 5)) w.heap.size []) := ⟨(Below.refl _ w).alloc (Nat.le_refl _) _, Cells.new w _ 5⟩
  obtain ⟨H, hH⟩ : ∃ H, w.heap.size = H := ⟨_, rfl⟩
  rw [hH] at hb hm ⊢
  generalize w.alloc (.cells (vn (List.replicate 0 0)).toArray 5) = w1 at *
  clear hH
  go_enter Tryd.func12, Tryd.ntmps12
  go_wp2_with (go_at_call 22; refine h.mono ?_; rintro e2 w2 ⟨rfl, rfl⟩)
  go_loopg [6] 0 (fun g si wr => si = .int .i64 (-1) ∧ w1 = wr)
  case atStart => exact ⟨rfl, rfl⟩
  case round =>
    obtain ⟨rfl, rfl⟩ := hrel
    go_wp2_with fail
    go_ret
    exact ⟨rfl, hb.out.2, hb.out.1⟩
theorem word_row (u : List Nat) (k : Nat) (b : Nat) (h : u[k]? = some b) : (List.replicate (k + 1) 0 ++ u.drop (k + 1)).set k b = List.replicate k 0 ++ u.drop k := by
  rw [drop_more h, List.replicate_succ', List.append_assoc, List.set_append_right _ _ (by simp), List.length_replicate, Nat.sub_self]
  rfl
set_option maxHeartbeats 2000000 in
/-- The word of a state. -/
theorem word_c {base A pn lg : Nat} {nd : List Nd} {G : Nat → Nat → Option Nat} {ws : List (List Nat)} (s : Nat) (u : List Nat) (L : Nat) (w : World) (h : Mach w base A pn lg nd G) (hl : Laid ws nd G) (hs : ws[s]? = some u) (hL : u.length = L) (hLb : L < 1048576) :
    Calls Tryd.prog 12 #[.pointer (some ⟨A, 0, none⟩), .int .i64 (s : Int)] w fun e w' => e = .returned (.slice (some ⟨w.heap.size, 0, none⟩) L L) ∧ Bk w' w.heap.size u ∧ Below w.heap.size w w' := by
  obtain ⟨n, hn⟩ := hl.node hs
  have hdp := hl.dp hs hn
  have hd := depth_c s n w h hn
  rw [hdp, hL] at hd
  have hm := made_bytes L (by omega) w
  obtain ⟨H, hH⟩ : ∃ H, w.heap.size = H := ⟨_, rfl⟩
  have b1 : Below w.heap.size w (w.alloc (.cells (vn (List.replicate L 0)).toArray 5)) := (Below.refl _ w).alloc (Nat.le_refl _) _
  have m1 := h.below b1
  have k1 : Bk (w.alloc (.cells (vn (List.replicate L 0)).toArray 5)) w.heap.size (List.replicate L 0) := Cells.new w _ 5
  have hAB : Aside (Mach w base A pn lg nd G ∧ Laid ws nd G ∧ ws[s]? = some u ∧ u.length = L ∧ L < 1048576 ∧ w.heap.size = H) := ⟨h, hl, hs, hL, hLb, hH⟩
  have A1 : Aside (Below H w (w.alloc (.cells (vn (List.replicate L 0)).toArray 5)) ∧ Bk (w.alloc (.cells (vn (List.replicate L 0)).toArray 5)) H (List.replicate L 0)) := ⟨by rw [← hH]; exact b1, by rw [← hH]; exact k1⟩
  rw [hH] at hm ⊢
  generalize w.alloc (.cells (vn (List.replicate L 0)).toArray 5) = w1 at *
  clear b1 m1 k1 hdp hn h hl hs hL hH
  have hLi : (L : Int) < 1048576 := by omega
  go_enter Tryd.func12, Tryd.ntmps12
  go_wp2_with (go_at_call 22; refine hd.mono ?_; rintro e2 w2 ⟨rfl, rfl⟩)
  clear hm hd
  go_loopg [1, 6] L (fun g ss si wr => ∃ (s' k : Nat) (i : Int), ss = .int .i64 s' ∧ si = .int .i64 i ∧ Aside (g = k ∧ i = (k : Int) - 1 ∧ k ≤ L ∧ ws[s']? = some (u.take k) ∧ Bk wr H (List.replicate k 0 ++ u.drop k) ∧ Below H w wr))
  case atStart => exact ⟨s, L, (L : Int) - 1, rfl, by first | rfl | go_num, ⟨rfl, rfl, Nat.le_refl _, by rw [List.take_of_length_le (by have := hAB.out; omega)]; exact hAB.out.2.2.1, by rw [List.drop_eq_nil_of_le (by have := hAB.out; omega), List.append_nil]; exact A1.out.2, A1.out.1⟩⟩
  case round =>
    clear A1
    obtain ⟨s', k, i, rfl, rfl, hK⟩ := hrel
    cases k with
    | zero =>
      have hi : i = -1 := by have := hK.out; omega
      subst hi
      have hf : Aside (Bk wr H u ∧ Below H w wr) := ⟨by simpa using hK.out.2.2.2.2.1, hK.out.2.2.2.2.2⟩
      clear hK
      go_wp2_with fail
      go_ret
      exact ⟨rfl, hf.out.1, hf.out.2⟩
    | succ k =>
      have hi : i = (k : Int) := by have := hK.out; omega
      subst hi
      obtain ⟨b, hb⟩ : ∃ b, u[k]? = some b := ⟨_, List.getElem?_eq_getElem (by have := hK.out; have := hAB.out; omega)⟩
      have hws : ws[s']? = some (u.take k ++ [b]) := by rw [← take_snoc hb]; exact hK.out.2.2.2.1
      have hbel : Below w.heap.size w wr := by rw [hAB.out.2.2.2.2.2]; exact hK.out.2.2.2.2.2
      have hm := hAB.out.1.below hbel
      obtain ⟨n, hn⟩ := hAB.out.2.1.node hws
      obtain ⟨hbf, hla⟩ := hAB.out.2.1.bf hws hn
      obtain ⟨g, cap, M, k0, c0, c1, c2, c3, h1, h2, h3, h4⟩ := hm.parts
      obtain ⟨q0, q1, q2, q3, q4⟩ := h4 s' n hn
      rw [hla] at q1
      obtain ⟨N, hN⟩ : ∃ N, nd.length = N := ⟨_, rfl⟩
      rw [hN] at c2
      have hsN : (s' : Int) < (N : Int) := by have := at_lt hn; omega
      have hkL : (k : Int) < (L : Int) := by have := hK.out; omega
      have hset := hK.out.2.2.2.2.1.set k b
      rw [word_row u k b hb] at hset
      obtain ⟨x, hx⟩ : ∃ x, wr.cell? ⟨H, k, none⟩ = some x := ⟨_, hK.out.2.2.2.2.1.cell (i := k) (x := 0) (by rw [List.getElem?_append_left (by simp)]; simp)⟩
      have hfz := Cells.frozen hK.out.2.2.2.2.1 k
      have hgH : g ≠ H := fun e => by
        have := World.block_lt_of_cell? wr ⟨g, s' * 5, none⟩ q0
        obtain ⟨g', cap', M', k', cur, hA', hg', _⟩ := hAB.out.1
        obtain ⟨gg, cc, MM, kk, d0, d1, d2, d3, _⟩ := hAB.out.1.parts
        have e2 : w.cell? ⟨A, 2, none⟩ = some (.slice (some ⟨g', 0, none⟩) nd.length cap') := Cells.cell (w := w) (b := A) hA' 2
        have e3 := (hbel.cell (p := ⟨A, 2, none⟩) (World.block_lt_of_cell? w ⟨A, 2, none⟩ e2)).trans e2
        rw [c2] at e3
        cases e3
        have := (Array.getElem?_eq_some_iff.1 hg').1
        have := hAB.out.2.2.2.2.2
        omega
      have q0' : (wr.setCell ⟨H, k, none⟩ (.int .u8 (b : Int))).cell? ⟨g, s' * 5, none⟩ = some (.int .i64 (n.bf : Int)) := (World.cell?_of_block (w := wr) (Below.heap_setCell _ _ _ _ hgH)).trans q0
      have hAH : A ≠ H := by have := hAB.out.1.lt; have := hAB.out.2.2.2.2.2; omega
      have c2' : (wr.setCell ⟨H, k, none⟩ (.int .u8 (b : Int))).cell? ⟨A, 2, none⟩ = some (.slice (some ⟨g, 0, none⟩) N cap) := (World.cell?_of_block (w := wr) (Below.heap_setCell _ _ _ _ hAH)).trans c2
      have A3 : Aside (ws[n.bf]? = some (u.take k) ∧ Bk (wr.setCell ⟨H, k, none⟩ (.int .u8 (b : Int))) H (List.replicate k 0 ++ u.drop k) ∧ Below H w (wr.setCell ⟨H, k, none⟩ (.int .u8 (b : Int)))) := ⟨hbf, hset, hK.out.2.2.2.2.2.setCell (p := ⟨H, k, none⟩) (Nat.le_refl _) _⟩
      obtain ⟨bf, hbb⟩ : ∃ bf, n.bf = bf := ⟨_, rfl⟩
      rw [hbb] at q0' A3
      clear h4 h1 h2 h3 c0 c1 c3 q0 q2 q3 q4 hset hbf hla hn hws hb hm hbel hN hgH hAH hbb
      have hwk : IntKind.i64.wrap ((k : Int) - 1) = (k : Int) - 1 := by rw [IntKind.wrap_i64]; omega
      go_wp2_with fail
      have hk := hK.out
      clear hwk
      go_roundg k
      case measure => omega
      case rel => exact ⟨bf, k, (k : Int) - 1, rfl, by first | rfl | go_num, ⟨rfl, rfl, by omega, A3.out⟩⟩
end Go.Proofs.YtbepbjbbhenphabDoor

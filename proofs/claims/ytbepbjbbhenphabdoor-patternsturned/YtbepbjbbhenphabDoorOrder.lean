/-
  What shortestFirst comes to: all states, by how long their words are.
  Conditions: the machine lies as said.
-/
import Derived.Test.YtbepbjbbhenphabDoorStable
import Derived.Test.YtbepbjbbhenphabDoorMach
import Derived.Laws.MakeOwn
import Derived.Deep.CutBlock
import Derived.Deep.DeepCutAuto
import Derived.Laws.OwnMore
namespace Go.Proofs.YtbepbjbbhenphabDoor
open Go.RowKit
set_option linter.unusedVariables false
theorem nan_c (x : Int) (w : World) : Calls Tryd.prog 32 #[.int .i64 x] w fun e w' => e = .returned (.bool false) ∧ w = w' := by
  go_enter Tryd.func32, Tryd.ntmps32
  go_wp2_with fail
  go_ret
  exact ⟨rfl, rfl⟩
theorem compare_c (p q : Nat) (w : World) : Calls Tryd.prog 27 #[.int .i64 (p : Int), .int .i64 (q : Int)] w fun e w' => e = .returned (.int .i64 (sg p q)) ∧ w' = w := by
  unfold sg
  by_cases h1 : p < q
  · have h2 : (p : Int) < (q : Int) := by omega
    rw [if_pos h1]
    clear h1
    go_enter Tryd.func27, Tryd.ntmps27
    go_wp2_with (go_at_call 32; refine (nan_c _ _).mono ?_; rintro e2 w2 ⟨rfl, rfl⟩)
    go_ret
    exact ⟨rfl, rfl⟩
  · rw [if_neg h1]
    have h2 : ¬ (p : Int) < (q : Int) := by omega
    by_cases h3 : q < p
    · have h4 : (q : Int) < (p : Int) := by omega
      rw [if_pos h3]
      clear h1 h3
      go_enter Tryd.func27, Tryd.ntmps27
      go_wp2_with (go_at_call 32; refine (nan_c _ _).mono ?_; rintro e2 w2 ⟨rfl, rfl⟩)
      go_ret
      exact ⟨rfl, rfl⟩
    · have h4 : ¬ (q : Int) < (p : Int) := by omega
      rw [if_neg h3]
      clear h1 h3
      go_enter Tryd.func27, Tryd.ntmps27
      go_wp2_with (go_at_call 32; refine (nan_c _ _).mono ?_; rintro e2 w2 ⟨rfl, rfl⟩)
      go_ret
      exact ⟨rfl, rfl⟩
/-- How long a state's word is. -/
def deep (nd : List Nd) (s : Nat) : Nat := (nd[s]?.map Nd.dp).getD 0
theorem deep_at {nd : List Nd} {s : Nat} {n : Nd} (h : nd[s]? = some n) : deep nd s = n.dp := by simp [deep, h]
theorem closure_c {base A pn lg : Nat} {nd : List Nd} {G : Nat → Nat → Option Nat} (bx x y : Nat) (w : World) (h : Mach w base A pn lg nd G) (hb : w.cell? ⟨bx, 0, none⟩ = some (.pointer (some ⟨A, 0, none⟩))) (hx : x < nd.length) (hy : y < nd.length) :
    Calls Tryd.prog 26 #[.int .i64 (x : Int), .int .i64 (y : Int), .pointer (some ⟨bx, 0, none⟩)] w fun e w' => e = .returned (.int .i64 (sg (deep nd x) (deep nd y))) ∧ ∃ n, w' = w.drewN n := by
  obtain ⟨g, cap, M, k, c0, c1, c2, c3, h1, h2, h3, h4⟩ := h.parts
  obtain ⟨n, hn⟩ : ∃ n, nd[x]? = some n := ⟨_, List.getElem?_eq_getElem hx⟩
  obtain ⟨m, hm⟩ : ∃ m, nd[y]? = some m := ⟨_, List.getElem?_eq_getElem hy⟩
  have cx := (h4 x n hn).2.2.1
  have cy := (h4 y m hm).2.2.1
  rw [deep_at hn, deep_at hm]
  obtain ⟨p, hp⟩ : ∃ p, n.dp = p := ⟨_, rfl⟩
  obtain ⟨q, hq⟩ : ∃ q, m.dp = q := ⟨_, rfl⟩
  obtain ⟨N, hN⟩ : ∃ N, nd.length = N := ⟨_, rfl⟩
  rw [hp] at cx ⊢
  rw [hq] at cy ⊢
  rw [hN] at c2 hx hy
  have ix : (x : Int) < (N : Int) := by omega
  have iy : (y : Int) < (N : Int) := by omega
  clear h4 h1 h2 h3 hn hm hp hq hN h c0 c1 c3 hx hy
  go_enter Tryd.func26, Tryd.ntmps26
  go_wp2_with fail
  go_quiet (first | (go_at_call 27; refine Calls.quiet_of_same (compare_c p q _)))
  go_wp2_with fail
  go_ret
  exact ⟨rfl, nq, rfl⟩
theorem info3 : (Tryd.prog.info? 3).map (fun i => (i.zero, i.size, i.bytes)) = some (some (.int .i64 0), 1, 8) := by kernel_rfl
/-- make of a list of n numbers. -/
theorem made_ints (n : Nat) (hn : n ≤ 1048576) (w : World) : (Instr.makeSlice 32 (.int .i64 (n : Int)) (.int .i64 (n : Int))).run Tryd.prog w = .ok (.slice (some ⟨w.heap.size, 0, none⟩) n n) (w.alloc (.cells (vi (List.replicate n 0)).toArray 3)) := by
  obtain ⟨i, hi, hz, hs, hb⟩ := info_parts info3
  have := run_make (P := Tryd.prog) w 32 3 i _ Tryd.underlying32 hi hz .i64 .i64 n n (by omega) (by omega) (by rw [hb]; omega) (by omega)
  rw [this, hs]
  have e : madeCells (Value.int .i64 0).cells ((n : Int).toNat * 1) = (vi (List.replicate n 0)).toArray := by
    apply Array.toList_inj.1
    show (madeCells #[Value.int .i64 0] _).toList = _
    rw [toList_madeCells_one]
    simp [vi]
  rw [e]
  simp
theorem range_snoc (k N : Nat) (h : k < N) : (List.range k ++ List.replicate (N - k) 0).set k k = List.range (k + 1) ++ List.replicate (N - (k + 1)) 0 := by
  rw [List.set_append_right _ _ (by simp), List.length_range, Nat.sub_self, show N - k = (N - (k + 1)) + 1 by omega, List.replicate_succ, List.range_succ]
  simp
set_option maxHeartbeats 1000000 in
theorem order_c {base A pn lg : Nat} {nd : List Nd} {G : Nat → Nat → Option Nat} (w : World) (h : Mach w base A pn lg nd G) (N : Nat) (hN : nd.length = N) (hNb : N < 1048576) :
    Calls Tryd.prog 17 #[.pointer (some ⟨A, 0, none⟩)] w fun e w' => ∃ B Z, e = .returned (.slice (some ⟨B, 0, none⟩) N N) ∧ Z.Perm (List.range N) ∧ Ord (deep nd) Z ∧ Sd w' B Z ∧ w.heap.size ≤ B ∧ Below w.heap.size w w' := by
  obtain ⟨H, hH⟩ : ∃ H, w.heap.size = H := ⟨_, rfl⟩
  have AM : Aside (Mach w base A pn lg nd G ∧ nd.length = N ∧ N < 1048576 ∧ w.heap.size = H ∧ A < H) := ⟨h, hN, hNb, hH, by rw [← hH]; exact h.lt⟩
  obtain ⟨w1, hw1⟩ : ∃ w1, w1 = w.alloc (.cells #[.pointer (some ⟨A, 0, none⟩)] 26) := ⟨_, rfl⟩
  have b1 : Below w.heap.size w w1 := by rw [hw1]; exact (Below.refl _ w).alloc (Nat.le_refl _) _
  have s1 : w1.heap.size = H + 1 := by rw [hw1, ← hH]; simp
  have m1 : Mach w1 base A pn lg nd G := h.below b1
  obtain ⟨g, cap, M, k, c0, c1, c2, c3, h1, h2, h3, h4⟩ := m1.parts
  rw [hN] at c2
  have hbx : w1.cell? ⟨H, 0, none⟩ = some (.pointer (some ⟨A, 0, none⟩)) := by
    rw [hw1, ← hH, (Cells.new w _ 26).cell]; rfl
  have hmk := made_ints N (by omega) w1
  obtain ⟨w2, hw2⟩ : ∃ w2, w2 = w1.alloc (.cells (vi (List.replicate N 0)).toArray 3) := ⟨_, rfl⟩
  rw [← hw2, s1] at hmk
  have A1 : Aside (Below w.heap.size w w1 ∧ Below w1.heap.size w1 w2 ∧ w1.heap.size = H + 1 ∧ Sd w2 (H + 1) (List.replicate N 0) ∧ w1.cell? ⟨H, 0, none⟩ = some (.pointer (some ⟨A, 0, none⟩)) ∧ Mach w1 base A pn lg nd G) :=
    ⟨b1, by rw [hw2]; exact (Below.refl _ w1).alloc (Nat.le_refl _) _, s1, by rw [← s1, hw2]; exact Cells.new w1 _ 3, hbx, m1⟩
  clear h1 h2 h3 h4 c0 c1 c3 h hN hNb m1 b1 hw2
  rw [hH]
  go_enter Tryd.func17, Tryd.ntmps17
  go_upto_region 1 with fail
  rw [← hw1]
  clear hw1 s1
  go_wp2_with fail
  clear hmk
  go_loopg [13] N (fun gg si wr => ∃ i : Nat, si = .int .i64 i ∧ Aside (i + gg = N ∧ Sd wr (H + 1) (List.range i ++ List.replicate (N - i) 0) ∧ Only (H + 1) w2 wr))
  case atStart => exact ⟨0, rfl, ⟨by omega, by simpa using A1.out.2.2.2.1, Only.refl _ _⟩⟩
  case round =>
    obtain ⟨i, rfl, hA⟩ := hrel
    by_cases hiN : i < N
    · have hi : (i : Int) < (N : Int) := by omega
      have AI : Aside (i < N) := hiN
      have hib : (i : Int) + 1 < 9223372036854775808 := by have := AM.out; omega
      have hs := hA.out.2.1
      obtain ⟨u, cu⟩ : ∃ u, wr.cell? ⟨H + 1, i, none⟩ = some u := ⟨_, hs.cell (at_lt' (by simp; omega))⟩
      have fu := hs.frozen i
      have S3 : Aside (Sd (wr.setCell ⟨H + 1, i, none⟩ (.int .i64 (i : Int))) (H + 1) (List.range (i + 1) ++ List.replicate (N - (i + 1)) 0) ∧ Only (H + 1) w2 (wr.setCell ⟨H + 1, i, none⟩ (.int .i64 (i : Int)))) := by
        refine ⟨?_, hA.out.2.2.setCell i _⟩
        rw [← range_snoc i N hiN]; exact hs.set i i
      clear hs hiN
      go_wp2_with fail
      clear cu fu
      go_roundg (N - (i + 1))
      case measure => have := hA.out; have := AI.out; omega
      case rel => exact ⟨i + 1, by go_num, ⟨by have := AI.out; omega, S3.out⟩⟩
    · have hi : ¬ (i : Int) < (N : Int) := by omega
      have hiN2 : i = N := by have := hA.out; omega
      subst hiN2
      have hS : Sd wr (H + 1) (List.range i) := by simpa using hA.out.2.1
      have hcm : Cm (H + 1) (.pointer (some ⟨H, 0, none⟩)) i (deep nd) wr := by
        intro u hu x y hx hy
        obtain ⟨a1, a2, a3, a4, a5, a6⟩ := A1.out
        have hbu : Below w1.heap.size w1 u := (a2.trans (hA.out.2.2.below (by omega))).trans (hu.below (by omega))
        exact closure_c H x y u (a6.below hbu) ((hbu.cell (p := ⟨H, 0, none⟩) (by show H < _; omega)).trans a5) (by rw [AM.out.2.1]; exact hx) (by rw [AM.out.2.1]; exact hy)
      have hsrt := sort_c (H + 1) i i i (deep nd) (.pointer (some ⟨H, 0, none⟩)) wr hcm (List.range i) hS (fun x hx => List.mem_range.1 hx) (by simp) (Nat.le_refl _) (by have := AM.out; omega)
      clear hcm hS hiN
      go_wp2_with (go_at_call 25; refine hsrt.mono ?_; rintro e2 w3 ⟨rfl, Z, hp2, ho2, hs2, hn2⟩)
      go_ret
      obtain ⟨a1, a2, a3, a4, a5, a6⟩ := A1.out
      have hH2 := AM.out.2.2.2.1
      refine ⟨H + 1, Z, rfl, hp2, ho2, hs2, by omega, ?_⟩
      rw [← hH2]
      exact a1.trans (((a2.trans (hA.out.2.2.below (by omega))).trans (hn2.below (by omega))).mono (by omega))
end Go.Proofs.YtbepbjbbhenphabDoor

/-
  QuotedWrites' walk.
-/
import Derived.Test.YtapljkenmgdkmaaWholeCore
import Derived.Test.YtapljkenmgdkmaaRwr
namespace Go.Proofs.Ytapljkenmgdkmaa
open Go.RowKit
set_option linter.unusedVariables false
/-- A byte of a list of the call's own is written. -/
theorem Ob.set {w : World} {lo g n c k y : Nat} {l : List Nat} (h : Ob w lo (.slice (some ⟨g, 0, none⟩) n c) l) (hk : k < l.length) : Ob (w.setCell ⟨g, k, none⟩ (.int .u8 (y : Int))) lo (.slice (some ⟨g, 0, none⟩) n c) (l.set k y) := by
  have h1 := h.own.1
  rcases h.own.2 with ⟨hv, h0⟩ | ⟨g', c', cur, hv, hg, hh, hc, hm, hs, ht⟩
  · cases hv
  · cases hv
    rw [ob_length, Nat.mul_one] at ht
    rw [ob_length] at hc
    have hl : (ob (l.set k y)).length = (ob l).length := by rw [ob_length, ob_length, List.length_set]
    refine ⟨⟨by rw [hl, Nat.mul_one], Or.inr ⟨g, c, cur.setIfInBounds k (.int .u8 (y : Int)), by rw [hl], hg, Cells.set (cs := cur) (t := 5) hh k _, by rw [hl, ob_length]; exact hc, hm, by rw [Array.size_setIfInBounds]; exact hs, ?_⟩⟩, by rw [((Only.refl g w).setCell k _).size]; exact h.le⟩
    rw [hl, ob_length, Nat.mul_one, Array.toList_setIfInBounds, List.take_set, ht]
    simp [ob]
set_option maxRecDepth 20000 in
set_option maxHeartbeats 1000000 in
theorem writes_core (w : World) (a : Option Addr) (l : List Nat) (L C : Nat) (line : Int) (hl : Lies w a l) (hL : l.length = L) (hLb : L ≤ 2000000) (hLC : L ≤ C) (ho : Oct l) (hln : line < 9223372036854775808) (haz : a = none → L = 0 ∧ C = 0) :
    Calls Try.prog 5 #[.slice a L C, .int .i64 line] w fun e w' => e = .returned (.bool true) ∧ Below w.heap.size w w' := by
  obtain ⟨B, hB⟩ : ∃ B, w.heap.size = B := ⟨_, rfl⟩
  rw [hB]
  have hob0 : Ob (w.alloc (.cells #[] 5)) B (.slice (some ⟨w.heap.size, 0, none⟩) 0 0) [] := Ob.made (by omega)
  have b0 : Below w.heap.size w (w.alloc (.cells #[] 5)) := (Below.refl _ w).alloc (Nat.le_refl _) _
  have hl0 : Lies (w.alloc (.cells #[] 5)) a l := hl.below b0
  rw [hB] at hob0 b0
  have A : Aside (Lies w a l ∧ l.length = L ∧ L ≤ 2000000 ∧ Oct l ∧ w.heap.size = B ∧ Below B w (w.alloc (.cells #[] 5)) ∧ ([] : List Nat).length + l.length ≤ 140737488355328 ∧ L ≤ C ∧ line < 9223372036854775808) := ⟨hl, hL, hLb, ho, hB, b0, by simp; omega, hLC, hln⟩
  have AZ : Aside (a = none → L = 0 ∧ C = 0) := haz
  clear hl hLb ho haz b0 hLC hln
  go_enter Try.func5, Try.ntmps5
  go_upto_region 2 with (first
    | (at_builtin; refine wpList_ob _ rfl (.tmp 8) (.tmp 9) rfl B (.slice (some ⟨B, 0, none⟩) 0 0) [] (by rfl) hob0 a l L C hL (by rfl) AZ.out hl0 A.out.2.2.2.2.2.2.1 ?_; intro v1 w1 hap; obtain ⟨va, vn, vc, hv, hA1⟩ : ∃ va vn vc, v1 = .slice va vn vc ∧ vn = L ∧ L ≤ vc ∧ Lies w1 va l ∧ (va = none → L = 0 ∧ vc = 0) := (by obtain ⟨va, vc, h1, h2, h3, h4⟩ := Ob.shape hap.ow; simp only [List.nil_append] at h1 h2 h3 h4; rw [hL] at h1 h2 h4; exact ⟨va, L, vc, h1, rfl, h2, h3, h4⟩); obtain ⟨e1, e2, e3, e4⟩ := hA1; subst hv; subst e1; have hwr := write_c w1 va l vn vc line e3 hL (by have := A.out; omega) e2 A.out.2.2.2.1 e4; have A1 : Aside (Below B w w1 ∧ B ≤ w1.heap.size) := ⟨A.out.2.2.2.2.2.1.trans hap.ap.bel, hap.ow.le⟩; clear hap e2 e3 e4)
    | (go_at_call 19; refine hwr.mono ?_; rintro e1 w2 ⟨v2, rfl, hob2, hb2⟩))
  have a0 := A.out
  have a1 := A1.out
  have bel2 : Below B w w2 := a1.1.trans (hb2.mono a1.2)
  have hla : Lies w2 a l := a0.1.below (by rw [a0.2.2.2.2.1]; exact bel2)
  have hrw := rwrite_c w2 a l vn C line hla hL (by omega) a0.2.2.2.1
  obtain ⟨B2, hB2⟩ : ∃ B2, w2.heap.size = B2 := ⟨_, rfl⟩
  rw [hB2] at hrw
  have hwl := wri_len (wid line) l 0
  obtain ⟨W, hW⟩ : ∃ W, (wri (wid line) 0 l).length = W := ⟨_, rfl⟩
  obtain ⟨xa, xc, hx, hxc, hxl, hxn⟩ := hob2.shape
  rw [hW] at hx hxc hxn
  subst hx
  have A2 : Aside (Below B w w2 ∧ w2.heap.size = B2 ∧ B ≤ w1.heap.size ∧ Ob w2 w1.heap.size (.slice xa W xc) (wri (wid line) 0 l) ∧ W ≤ 100000000 ∧ (wri (wid line) 0 l).length = W ∧ Lies w2 xa (wri (wid line) 0 l)) := ⟨bel2, hB2, a1.2, hob2, by omega, hW, hxl⟩
  clear a0 a1 bel2 hla hob2 hb2 hwr hob0 hl0 hB hB2 hwl hW hxc hxl hxn
  go_upto_region 3 with (go_at_call 20; refine hrw.mono ?_; rintro e1 w3 ⟨v3, rfl, hob3, hb3⟩)
  have a0 := A.out
  have a2 := A2.out
  obtain ⟨ya, yc, hy, hyc, hyl, hyn⟩ := hob3.shape
  rw [a2.2.2.2.2.2.1] at hy
  subst hy
  have hx3 : Lies w3 xa (wri (wid line) 0 l) := a2.2.2.2.2.2.2.below (by rw [a2.2.1]; exact hb3)
  have hs1 := same_c xa ya (wri (wid line) 0 l) (wri (wid line) 0 l) W W xc yc w3 a2.2.2.2.2.2.1 a2.2.2.2.2.2.1 (by omega) hx3 hyl
  rw [decide_eq_true rfl] at hs1
  have hB12 := a2.2.2.2.1.le
  have A3 : Aside (Below B w w3 ∧ Ob w3 w1.heap.size (.slice xa W xc) (wri (wid line) 0 l) ∧ Ob w3 B2 (.slice ya W yc) (wri (wid line) 0 l) ∧ B ≤ w1.heap.size ∧ W ≤ 100000000 ∧ (wri (wid line) 0 l).length = W ∧ Oct l ∧ l.length = vn ∧ vn ≤ 2000000 ∧ vn ≤ C ∧ line < 9223372036854775808 ∧ w.heap.size = B ∧ Lies w a l ∧ B2 ≤ w3.heap.size ∧ ∀ g cs fr, w3.heap[g]? = some (.cells cs 5 fr) → xa = some ⟨g, 0, none⟩ → w1.heap.size ≤ g ∧ g < B2) := by
    refine ⟨a2.1.trans (hb3.mono (by omega)), Ow.below a2.2.2.2.1 hb3 (by omega), hob3, a2.2.2.1, a2.2.2.2.2.1, a2.2.2.2.2.2.1, a0.2.2.2.1, a0.2.1, a0.2.2.1, a0.2.2.2.2.2.2.2.1, a0.2.2.2.2.2.2.2.2, a0.2.2.2.2.1, a0.1, by have := hb3.size; omega, ?_⟩
    intro g cs fr hg hxa
    rcases a2.2.2.2.1.own.2 with ⟨hv, _⟩ | ⟨g', c', cur, hv, hg', hh', _⟩
    · cases hv; cases hxa
    · cases hv
      cases hxa
      exact ⟨hg', by rw [← a2.2.1]; exact (Array.getElem?_eq_some_iff.1 hh').1⟩
  clear a0 a2 hrw hob3 hb3 hyc hyl hyn hx3 hB12 A1
  go_upto_region 5 with (go_at_call 11; refine hs1.mono ?_; rintro e1 w4 ⟨rfl, n4, hw4⟩; have A4 : Aside (Below B w w4 ∧ Ob w4 w1.heap.size (.slice xa W xc) (wri (wid line) 0 l) ∧ Ob w4 B2 (.slice ya W yc) (wri (wid line) 0 l)) := (by rw [hw4]; exact ⟨Below.drewN' A3.out.1 n4, Ow.drewN A3.out.2.1 n4, Ow.drewN A3.out.2.2.1 n4⟩); clear hw4)
  clear hs1
  go_wp2_with fail
  go_loopg [7] W (fun gg s7 wr => ∃ k : Nat, s7 = .int .i64 (k : Int) ∧ Aside (k + gg = W ∧ Below B w wr ∧ Ob wr B2 (.slice ya W yc) (wri (wid line) 0 l) ∧ ∃ cur, Ob wr w1.heap.size (.slice xa W xc) cur ∧ Oct cur ∧ cur.length = W))
  case atStart =>
    have a3 := A3.out
    have a4 := A4.out
    exact ⟨0, rfl, by omega, a4.1, a4.2.2, wri (wid line) 0 l, a4.2.1, wri_oct (wid line) l a3.2.2.2.2.2.2.1 0, a3.2.2.2.2.2.1⟩
  case round =>
    obtain ⟨k, rfl, hI⟩ := hrel
    obtain ⟨hkg, hbel, hoy, cur, hox, hoc, hcl⟩ := hI.out
    have a3 := A3.out
    by_cases hk : k < W
    · have t1 : ((k : Int) < (W : Int)) = True := eq_true (by omega)
      have t1' : (k < W) = True := eq_true hk
      have hkI : (k : Int) < 100000000 := by omega
      obtain ⟨z, hz⟩ : ∃ z, cur[k]? = some z := ⟨_, List.getElem?_eq_getElem (by omega)⟩
      have hz8 : z < 256 := hoc z (List.mem_of_getElem? hz)
      obtain ⟨xa', xc', hxe, hxc, hxl, hxn⟩ := Ow.shape hox
      rw [ob_length, hcl] at hxe
      injection hxe with i1 _ i3
      subst i1
      subst i3
      obtain ⟨g, hxa, hlo, ⟨cs, fr, hhg⟩, hcc⟩ : ∃ g, xa = some ⟨g, 0, none⟩ ∧ w1.heap.size ≤ g ∧ (∃ cs fr, wr.heap[g]? = some (.cells cs 5 fr)) ∧ ∀ i x, (ob cur)[i]? = some x → wr.cell? ⟨g, i, none⟩ = some x := by
        rcases hxl with e | h
        · have h9 := congrArg List.length e
          rw [ob_length] at h9
          have h8 : cur.length = 0 := h9
          omega
        · exact h
      subst hxa
      have cz : wr.cell? ⟨g, k, none⟩ = some (.int .u8 (z : Int)) := hcc k _ (by rw [ob_get, hz]; rfl)
      obtain ⟨g', hg'⟩ : ∃ g', g' < B2 ∧ g' = g := by
        rcases a3.2.1.own.2 with ⟨hv, _⟩ | ⟨g', c', cu, hv, hg', hh', _⟩
        · cases hv
        · cases hv
          exact ⟨g, (a3.2.2.2.2.2.2.2.2.2.2.2.2.2.2 g cu (0, 0) hh' rfl).2, rfl⟩
      obtain ⟨hgB, rfl⟩ := hg'
      obtain ⟨z2, hz2⟩ : ∃ z2, (z + 1) % 256 = z2 := ⟨_, rfl⟩
      have hz3 : ((z : Int) + 1) % 256 = (z2 : Int) := by omega
      have hset := Ob.set (y := z2) hox (k := k) (by omega)
      have hfz : wr.frozen? ⟨g', k, none⟩ = false := by
        rcases hox.own.2 with ⟨hv, _⟩ | ⟨g1, c1, cu, hv, hg1, hh1, _⟩
        · cases hv
        · cases hv; exact Cells.frozen (cs := cu) (t := 5) hh1 k
      have o1 : Only g' wr (wr.setCell ⟨g', k, none⟩ (.int .u8 (z2 : Int))) := (Only.refl g' wr).setCell k _
      have AX : Aside (k + gk = W ∧ k < W ∧ Below B w (wr.setCell ⟨g', k, none⟩ (.int .u8 (z2 : Int))) ∧ Ob (wr.setCell ⟨g', k, none⟩ (.int .u8 (z2 : Int))) B2 (.slice ya W yc) (wri (wid line) 0 l) ∧ Ob (wr.setCell ⟨g', k, none⟩ (.int .u8 (z2 : Int))) w1.heap.size (.slice (some ⟨g', 0, none⟩) W xc) (cur.set k z2) ∧ Oct (cur.set k z2) ∧ (cur.set k z2).length = W) := by
        refine ⟨hkg, hk, hbel.trans (o1.below (by omega)), Ow.keep hoy (Nat.le_of_eq o1.size.symm) (fun b h1 h2 _ => o1.block b (by omega)), hset, ?_, by rw [List.length_set]; exact hcl⟩
        intro x hx
        rcases List.mem_or_eq_of_mem_set hx with h | h
        · exact hoc x h
        · omega
      clear hI hkg hbel hoy hox hoc hcl a3 hk hz hz8 hxc hxl hxn hlo hhg hcc hset o1 hgB hz2
      go_wp2_with fail
      have ax := AX.out
      go_roundg (gk - 1)
      case measure => omega
      case rel => exact ⟨k + 1, by go_num, by omega, ax.2.2.1, ax.2.2.2.1, cur.set k z2, ax.2.2.2.2.1, ax.2.2.2.2.2.1, ax.2.2.2.2.2.2⟩
    · have t1 : ((k : Int) < (W : Int)) = False := eq_false (by omega)
      have t1' : (k < W) = False := eq_false hk
      have hla : Lies wr a l := a3.2.2.2.2.2.2.2.2.2.2.2.2.1.below (by rw [a3.2.2.2.2.2.2.2.2.2.2.2.1]; exact hbel)
      have hwr := write_c wr a l vn C line hla hL (by omega) (by omega) a3.2.2.2.2.2.2.1 AZ.out
      obtain ⟨ya', yc', hye, _, hyl, _⟩ := hoy.shape
      injection hye with i1 i2 i3
      subst i1
      have AX : Aside (Below B w wr ∧ B ≤ wr.heap.size ∧ Lies wr ya (wri (wid line) 0 l) ∧ (wri (wid line) 0 l).length = W ∧ W ≤ 100000000) := ⟨hbel, by have := hbel.size; have := a3.2.2.2.2.2.2.2.2.2.2.2.1; omega, hyl, a3.2.2.2.2.2.1, a3.2.2.2.2.1⟩
      clear hI hkg hbel hoy hox hoc hcl a3 hk hla hyl i3 i2
      go_wp2_with (first
        | (go_at_call 19; refine hwr.mono ?_; rintro e1 w5 ⟨v5, rfl, hob5, hb5⟩; obtain ⟨za, zc, hz, _, hzl, _⟩ := Ob.shape hob5; rw [AX.out.2.2.2.1] at hz; subst hz; have hs5 := same_c za ya (wri (wid line) 0 l) (wri (wid line) 0 l) W W zc yc w5 AX.out.2.2.2.1 AX.out.2.2.2.1 (by have := AX.out; omega) hzl (AX.out.2.2.1.below hb5); rw [decide_eq_true rfl] at hs5; have A5 : Aside (Below B w w5 ∧ B ≤ w5.heap.size) := ⟨AX.out.1.trans (hb5.mono AX.out.2.1), Nat.le_trans AX.out.2.1 hb5.size⟩; clear hob5 hb5 hzl hwr)
        | (go_at_call 11; refine hs5.mono ?_; rintro e1 w6 ⟨rfl, n6, hw6⟩; have haw := awake_c w6; have A6 : Aside (Below B w w6 ∧ B ≤ w6.heap.size) := (by rw [hw6]; exact ⟨Below.drewN' A5.out.1 n6, A5.out.2⟩); clear hw6 hs5)
        | (go_at_call 12; refine haw.mono ?_; rintro e1 w7 ⟨rfl, hb7⟩))
      first | go_ret | go_ret2
      exact ⟨rfl, A6.out.1.trans (hb7.mono A6.out.2)⟩
end Go.Proofs.Ytapljkenmgdkmaa

/-
  The reader in memory; over, forget, stop, dropReturn.
-/
import Derived.Test.YtmlkdpoignimaaaOwn
import Derived.BigRegion
namespace Go.Proofs.Ytmlkdpoignimaaa
open Go.RowKit
set_option linter.unusedVariables false
/-- The reader's cells. -/
def rc (most k : Nat) (vl : Value) (bg : Nat) (vm : Value) (dn : Bool) (y : Nat) : Array Value := #[.int .i64 (most : Int), .int .i64 (k : Int), vl, .int .i64 (bg : Int), vm, .bool dn, .int .i64 (y : Int)]
/-- A reader in block B: its lines l, its marks M. -/
structure Rm (w : World) (lo B most k : Nat) (vl : Value) (l : List Nat) (bg : Nat) (vm : Value) (M : List (Nat × Nat)) (dn : Bool) (y : Nat) : Prop where
  cells : Cells w B (rc most k vl bg vm dn y) 59
  lines : Ow w lo 5 1 vl l.length (ob l)
  marks : Ow w lo 63 2 vm M.length (mc M)
  le : lo ≤ B
section
variable {w u : World} {lo B most k bg y : Nat} {vl vm : Value} {l : List Nat} {M : List (Nat × Nat)} {dn : Bool}
theorem Rm.c0 (h : Rm w lo B most k vl l bg vm M dn y) : w.cell? ⟨B, 0, none⟩ = some (.int .i64 (most : Int)) := by rw [h.cells.cell]; rfl
theorem Rm.c1 (h : Rm w lo B most k vl l bg vm M dn y) : w.cell? ⟨B, 1, none⟩ = some (.int .i64 (k : Int)) := by rw [h.cells.cell]; rfl
theorem Rm.c2 (h : Rm w lo B most k vl l bg vm M dn y) : w.cell? ⟨B, 2, none⟩ = some vl := by rw [h.cells.cell]; rfl
theorem Rm.c3 (h : Rm w lo B most k vl l bg vm M dn y) : w.cell? ⟨B, 3, none⟩ = some (.int .i64 (bg : Int)) := by rw [h.cells.cell]; rfl
theorem Rm.c4 (h : Rm w lo B most k vl l bg vm M dn y) : w.cell? ⟨B, 4, none⟩ = some vm := by rw [h.cells.cell]; rfl
theorem Rm.c5 (h : Rm w lo B most k vl l bg vm M dn y) : w.cell? ⟨B, 5, none⟩ = some (.bool dn) := by rw [h.cells.cell]; rfl
theorem Rm.c6 (h : Rm w lo B most k vl l bg vm M dn y) : w.cell? ⟨B, 6, none⟩ = some (.int .i64 (y : Int)) := by rw [h.cells.cell]; rfl
theorem Rm.fz (h : Rm w lo B most k vl l bg vm M dn y) (i : Nat) : w.frozen? ⟨B, i, none⟩ = false := h.cells.frozen i
theorem Rm.lt (h : Rm w lo B most k vl l bg vm M dn y) : B < w.heap.size := h.cells.lt
theorem Rm.drewN (h : Rm w lo B most k vl l bg vm M dn y) (n : Nat) : Rm (w.drewN n) lo B most k vl l bg vm M dn y := ⟨h.cells.drewN n, h.lines.drewN n, h.marks.drewN n, h.le⟩
theorem Rm.drew (h : Rm w lo B most k vl l bg vm M dn y) : Rm w.drew lo B most k vl l bg vm M dn y := h.drewN 1
theorem Rm.below (h : Rm w lo B most k vl l bg vm M dn y) (b : Below w.heap.size w u) : Rm u lo B most k vl l bg vm M dn y := ⟨h.cells.below b h.lt, h.lines.below b (Nat.le_refl _), h.marks.below b (Nat.le_refl _), h.le⟩
theorem Rm.vlShape (h : Rm w lo B most k vl l bg vm M dn y) : ∃ a c, vl = .slice a l.length c ∧ l.length ≤ c ∧ Lies w a l ∧ (a = none → l.length = 0 ∧ c = 0) := by
  obtain ⟨a, c, hv, hc, hq, hn⟩ := h.lines.shape
  refine ⟨a, c, hv, hc, ?_, hn⟩
  rcases hq with h0 | ⟨g, ha, _, _, hx, _⟩
  · exact Or.inl (List.eq_nil_of_length_eq_zero h0)
  · exact Or.inr ⟨g, 0, ha, fun i x hi => by rw [Nat.zero_add]; exact hx i _ (by rw [ob_get, hi]; rfl)⟩
theorem Rm.vmShape (h : Rm w lo B most k vl l bg vm M dn y) : ∃ a c, vm = .slice a M.length c ∧ M.length ≤ c ∧ (M = [] ∨ ∃ g, a = some ⟨g, 0, none⟩ ∧ ∀ (i : Nat) (p : Nat × Nat), M[i]? = some p → w.cell? ⟨g, i * 2, none⟩ = some (.int .i64 (p.1 : Int)) ∧ w.cell? ⟨g, i * 2 + 1, none⟩ = some (.int .i64 (p.2 : Int))) ∧ (a = none → M.length = 0 ∧ c = 0) := by
  obtain ⟨a, c, hv, hc, hq, hn⟩ := h.marks.shape
  refine ⟨a, c, hv, hc, ?_, hn⟩
  rcases hq with h0 | ⟨g, ha, _, _, hx, _⟩
  · exact Or.inl (List.eq_nil_of_length_eq_zero h0)
  · exact Or.inr ⟨g, ha, fun i p hi => ⟨hx _ _ (mc_get hi).1, hx _ _ (mc_get hi).2⟩⟩
/-- A cell of the reader is written. -/
theorem Rm.set1 (h : Rm w lo B most k vl l bg vm M dn y) (k' : Nat) : Rm (w.setCell ⟨B, 1, none⟩ (.int .i64 (k' : Int))) lo B most k' vl l bg vm M dn y :=
  ⟨h.cells.set 1 _, h.lines.set h.cells (by decide), h.marks.set h.cells (by decide), h.le⟩
theorem Rm.set3 (h : Rm w lo B most k vl l bg vm M dn y) (b' : Nat) : Rm (w.setCell ⟨B, 3, none⟩ (.int .i64 (b' : Int))) lo B most k vl l b' vm M dn y :=
  ⟨h.cells.set 3 _, h.lines.set h.cells (by decide), h.marks.set h.cells (by decide), h.le⟩
theorem Rm.set5 (h : Rm w lo B most k vl l bg vm M dn y) (d' : Bool) : Rm (w.setCell ⟨B, 5, none⟩ (.bool d')) lo B most k vl l bg vm M d' y :=
  ⟨h.cells.set 5 _, h.lines.set h.cells (by decide), h.marks.set h.cells (by decide), h.le⟩
theorem Rm.set6 (h : Rm w lo B most k vl l bg vm M dn y) (y' : Nat) : Rm (w.setCell ⟨B, 6, none⟩ (.int .i64 (y' : Int))) lo B most k vl l bg vm M dn y' :=
  ⟨h.cells.set 6 _, h.lines.set h.cells (by decide), h.marks.set h.cells (by decide), h.le⟩
theorem Rm.set2 (h : Rm w lo B most k vl l bg vm M dn y) {v' : Value} {l' : List Nat} (hv : Ow w lo 5 1 v' l'.length (ob l')) : Rm (w.setCell ⟨B, 2, none⟩ v') lo B most k v' l' bg vm M dn y :=
  ⟨h.cells.set 2 _, hv.set h.cells (by decide), h.marks.set h.cells (by decide), h.le⟩
theorem Rm.set4 (h : Rm w lo B most k vl l bg vm M dn y) {v' : Value} {M' : List (Nat × Nat)} (hv : Ow w lo 63 2 v' M'.length (mc M')) : Rm (w.setCell ⟨B, 4, none⟩ v') lo B most k vl l bg v' M' dn y :=
  ⟨h.cells.set 4 _, h.lines.set h.cells (by decide), hv.set h.cells (by decide), h.le⟩
theorem Rm.chg (h : Rm w lo B most k vl l bg vm M dn y) (i : Nat) (v : Value) : Chg lo w (w.setCell ⟨B, i, none⟩ v) := (Chg.refl lo w).set h.cells h.le (by decide)
end
theorem Ow.cut {w : World} {lo : Nat} {a : Option Addr} {c : Nat} {l : List Nat} {n : Nat} (h : Ow w lo 5 1 (.slice a l.length c) l.length (ob l)) (hn : n ≤ l.length) (h0 : a ≠ none) : Ow w lo 5 1 (.slice a n c) n (ob (l.take n)) := by
  rcases h.own.2 with ⟨hv, _⟩ | ⟨g, c', cur, hv, hg, hh, hc, hm, hs, ht⟩
  · injection hv with e1; exact absurd e1 h0
  · cases hv
    refine ⟨⟨by simp [ob]; omega, Or.inr ⟨g, c, cur, rfl, hg, hh, by omega, hm, hs, ?_⟩⟩, h.le⟩
    have e := congrArg (List.take n) ht
    rw [List.take_take] at e
    simp only [Nat.mul_one] at e ⊢
    rw [Nat.min_eq_left hn] at e
    rw [e, ob, ob, List.map_take]
theorem Ow.cut63 {w : World} {lo : Nat} {a : Option Addr} {n c : Nat} {xs : List Value} (h : Ow w lo 63 2 (.slice a n c) n xs) : Ow w lo 63 2 (.slice a 0 c) 0 [] := by
  rcases h.own.2 with ⟨hv, _⟩ | ⟨g, c', cur, hv, hg, hh, hc, hm, hs, ht⟩
  · injection hv with e1 e2 e3
    rw [e1, e3]; exact Ow.nil h.le
  · cases hv
    exact ⟨⟨by simp, Or.inr ⟨g, c, cur, rfl, hg, hh, by omega, hm, hs, by simp⟩⟩, h.le⟩
section
variable {w u : World} {lo B most k bg y : Nat} {vl vm : Value} {l : List Nat} {M : List (Nat × Nat)} {dn : Bool}
theorem over_c (h : Rm w lo B most k vl l bg vm M dn y) : Calls Try.prog 26 #[.pointer (some ⟨B, 0, none⟩)] w fun e w' => e = .returned (.bool (dn || y != 0)) ∧ w' = w := by
  have c5 := h.c5
  have c6 := h.c6
  clear h
  cases dn with
  | true =>
    go_enter Try.func26, Try.ntmps26
    go_wp2
    go_ret
    exact ⟨rfl, rfl⟩
  | false =>
    obtain ⟨q, hq⟩ : ∃ q, (y != 0) = q := ⟨_, rfl⟩
    have t1 : ((y : Int) != 0) = q := by rw [← hq, Bool.eq_iff_iff, bne_iff_ne, bne_iff_ne]; omega
    have t2 : (!((y : Int) == 0)) = q := t1
    rw [hq]
    clear hq
    cases q with
    | true =>
      have t3 : ((y : Int) == 0) = false := by simpa using t2
      clear t2
      go_enter Try.func26, Try.ntmps26
      go_wp2
      go_ret
      exact ⟨rfl, rfl⟩
    | false =>
      have t3 : ((y : Int) == 0) = true := by simpa using t2
      clear t2
      go_enter Try.func26, Try.ntmps26
      go_wp2
      go_ret
      exact ⟨rfl, rfl⟩
/-- What forget leaves. -/
def Fg (w : World) (lo B most k : Nat) (dn : Bool) (y : Nat) (w' : World) : Prop := ∃ vl vm, Rm w' lo B most k vl [] 0 vm [] dn y ∧ Chg lo w w'
set_option maxHeartbeats 2000000 in
theorem forget_c (h : Rm w lo B most k vl l bg vm M dn y) : Calls Try.prog 31 #[.pointer (some ⟨B, 0, none⟩)] w fun e w' => e = .returned (.tuple #[]) ∧ Fg w lo B most k dn y w' := by
  obtain ⟨a, c, w1, hv, hcl, how, hch, hck, hsz, hok⟩ := clear_ob h.lines
  obtain ⟨ma, mcp, hm, hmc, _, _⟩ := h.vmShape
  subst hv
  subst hm
  obtain ⟨L, hL⟩ : ∃ L, l.length = L := ⟨_, rfl⟩
  obtain ⟨N, hN⟩ : ∃ N, M.length = N := ⟨_, rfl⟩
  have c2 := h.c2
  have k1 : Cells w1 B (rc most k (.slice a l.length c) bg (.slice ma M.length mcp) dn y) 59 := hck _ _ _ h.cells (by decide)
  have d2 : w1.cell? ⟨B, 2, none⟩ = some (.slice a l.length c) := by rw [k1.cell]; rfl
  have d4 : w1.cell? ⟨B, 4, none⟩ = some (.slice ma M.length mcp) := by rw [k1.cell]; rfl
  have d3 : w1.cell? ⟨B, 3, none⟩ = some (.int .i64 (bg : Int)) := by rw [k1.cell]; rfl
  have f2 := k1.frozen 2
  have f3 := k1.frozen 3
  have f4 := k1.frozen 4
  have hmo : Ow w1 lo 63 2 (.slice ma 0 mcp) 0 [] := (hok _ _ _ _ _ h.marks (by decide)).cut63
  have AE : Aside (Cells w1 B (rc most k (.slice a l.length c) bg (.slice ma M.length mcp) dn y) 59 ∧ Ow w1 lo 5 1 (.slice a 0 c) 0 [] ∧ Ow w1 lo 63 2 (.slice ma 0 mcp) 0 [] ∧ Chg lo w w1 ∧ lo ≤ B) := ⟨k1, how, hmo, hch, h.le⟩
  rw [hL] at c2 hcl d2
  rw [hN] at d4
  have b1 : (0 : Int) ≤ (c : Int) := by omega
  have b2 : (0 : Int) ≤ (mcp : Int) := by omega
  clear h how hch hck hsz hok hmc k1 hmo hL hN
  go_enter Try.func31, Try.ntmps31
  go_wp2_with fail
  go_region
  go_end0
  have ae := AE.out
  have r0 : Rm w1 lo B most k (.slice a l.length c) l bg (.slice ma M.length mcp) M dn y → True := fun _ => trivial
  have e1 := ae.1.set 2 (.slice a 0 c)
  have e2 := e1.set 4 (.slice ma 0 mcp)
  have e3 := e2.set 3 (.int .i64 0)
  refine ⟨rfl, _, _, ⟨e3.drew, (((ae.2.1.set ae.1 (by decide)).set e1 (by decide)).set e2 (by decide)).drew, (((ae.2.2.1.set ae.1 (by decide)).set e1 (by decide)).set e2 (by decide)).drew, ae.2.2.2.2⟩, ?_⟩
  exact (((ae.2.2.2.1.set ae.1 ae.2.2.2.2 (by decide)).set e1 ae.2.2.2.2 (by decide)).set e2 ae.2.2.2.2 (by decide)).drew
/-- What stop leaves. -/
theorem stop_c (h : Rm w lo B most k vl l bg vm M dn y) (y' : Nat) : Calls Try.prog 29 #[.pointer (some ⟨B, 0, none⟩), .int .i64 (y' : Int)] w fun e w' => e = .returned (.tuple #[]) ∧ Fg w lo B most k dn y' w' := by
  have hf := forget_c h
  clear h
  go_enter Try.func29, Try.ntmps29
  go_wp2_with (go_at_call 31; refine hf.mono ?_; rintro e1 w1 ⟨rfl, vl1, vm1, h1, ch1⟩; have c6 := h1.c6; have f6 := h1.fz 6)
  go_end0
  exact ⟨rfl, _, _, h1.set6 y', ch1.trans (h1.chg _ _)⟩
end
theorem d13_snoc (c : List Nat) (x : Nat) : d13 (c ++ [x]) = if x = 13 then c else c ++ [x] := by
  unfold d13
  simp
theorem d13_nil : d13 [] = [] := rfl
/-- What dropReturn leaves. -/
def Dr (w : World) (lo B most k : Nat) (l : List Nat) (bg : Nat) (vm : Value) (M : List (Nat × Nat)) (w' : World) : Prop := ∃ vl, Rm w' lo B most k vl l bg vm M false 0 ∧ Chg lo w w'
set_option maxHeartbeats 1000000 in
theorem drop_c {w : World} {lo B most k : Nat} {vl vm : Value} {p c : List Nat} {M : List (Nat × Nat)} (h : Rm w lo B most k vl (p ++ c) p.length vm M false 0) (hb : (p ++ c).length < 1000000) : Calls Try.prog 38 #[.pointer (some ⟨B, 0, none⟩)] w fun e w' => e = .returned (.tuple #[]) ∧ Dr w lo B most k (p ++ d13 c) p.length vm M w' := by
  obtain ⟨a, cp, hv, hcp, hl, hn⟩ := h.vlShape
  obtain ⟨L, hL⟩ : ∃ L, (p ++ c).length = L := ⟨_, rfl⟩
  obtain ⟨q, hq⟩ : ∃ q, p.length = q := ⟨_, rfl⟩
  rcases List.eq_nil_or_concat c with rfl | ⟨c', x, rfl⟩
  · have A : Aside (Dr w lo B most k (p ++ d13 []) p.length vm M w) := ⟨vl, h, Chg.refl _ _⟩
    have hLq : L = q := by simp at hL; omega
    rw [hL] at hv hcp
    subst hv
    have c2 := h.c2
    have c3 := h.c3
    rw [hq] at c3
    subst hLq
    have hLb : (L : Int) < 1000000 := by omega
    have t1 : ((L : Int) ≤ (L : Int) - 1) = False := eq_false (by omega)
    clear h hl hn hL hq hcp
    go_enter Try.func38, Try.ntmps38
    go_wp2_with fail
    go_end0
    exact ⟨rfl, A.out⟩
  · rw [List.concat_eq_append] at *
    obtain ⟨r, hr⟩ : ∃ r, (p ++ c').length = r := ⟨_, rfl⟩
    have hLr : L = r + 1 := by simp at hL hr; omega
    have hqr : q ≤ r := by simp at hr; omega
    have hrb : (r : Int) < 1000000 := by omega
    have hx : (p ++ (c' ++ [x]))[r]? = some x := by
      rw [← List.append_assoc, List.getElem?_append_right (by omega), ← hr]; simp
    obtain ⟨g, o, ha, hc⟩ : ∃ g o, a = some ⟨g, o, none⟩ ∧ ∀ (j z : Nat), (p ++ (c' ++ [x]))[j]? = some z → w.cell? ⟨g, o + j, none⟩ = some (.int .u8 (z : Int)) := by
      rcases hl with e | h
      · rw [e] at hx; simp at hx
      · exact h
    subst ha
    have cx := hc r x hx
    have hown := h.lines
    rw [hv] at hown
    have hcut := hown.cut (n := r) (by omega) (by simp)
    have etk : (p ++ (c' ++ [x])).take r = p ++ c' := by rw [← List.append_assoc, ← hr, List.take_left']; rfl
    rw [etk] at hcut
    rw [hL, hLr] at hv
    rw [hL, hLr] at hcp
    have c2 := h.c2
    have c3 := h.c3
    have f2 := h.fz 2
    rw [hq] at c3
    have A : Aside (Rm w lo B most k vl (p ++ (c' ++ [x])) p.length vm M false 0 ∧ Ow w lo 5 1 (.slice (some ⟨g, o, none⟩) r cp) (p ++ c').length (ob (p ++ c'))) := ⟨h, by rw [hr]; exact hcut⟩
    rw [d13_snoc]
    subst hv
    have t1 : ((q : Int) ≤ (r : Int)) = True := eq_true (by omega)
    have t1' : (q ≤ r) = True := eq_true (by omega)
    have hcpI : (r : Int) + 1 ≤ (cp : Int) := by omega
    by_cases h13 : x = 13
    · subst h13
      rw [if_pos rfl]
      clear h hl hc hx hown hcut etk hL hq hLr hqr hr hn hcp
      go_enter Try.func38, Try.ntmps38
      go_wp2_with fail
      go_end0
      have ae := A.out
      exact ⟨rfl, _, ae.1.set2 ae.2, ae.1.chg _ _⟩
    · rw [if_neg h13]
      have t13 : ((x : Int) == 13) = false := by rw [beq_eq_false_iff_ne]; omega
      clear h hl hc hx hown hcut etk hL hq hLr hqr hr h13 hn hcp
      go_enter Try.func38, Try.ntmps38
      go_wp2_with fail
      go_end0
      have ae := A.out
      exact ⟨rfl, _, ae.1, Chg.refl _ _⟩
end Go.Proofs.Ytmlkdpoignimaaa

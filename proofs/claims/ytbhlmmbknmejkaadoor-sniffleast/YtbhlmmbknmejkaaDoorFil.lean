/-
  The document's files: some that begin with the prefix.
-/
import Derived.Test.YtbhlmmbknmejkaaDoorOwx
import Derived.Deep.RegionHeld3
namespace Go.Proofs.YtbhlmmbknmejkaaDoor
open Go.RowKit
set_option linter.unusedVariables false
/-- The files of each kind. -/
def fls (l : List Nat) : List (List Nat) := [l, ext l gz, ext l pk, tarf l 255]
/-- The marks in memory, and what is kept. -/
structure Fm (w : World) (M H1 H2 : Nat) : Prop where
  m : Cells w M #[.slice (some ⟨H1, 0, none⟩) 3 3, .slice (some ⟨H2, 0, none⟩) 4 4] 22
  g : Cells w H1 #[.int .u8 31, .int .u8 139, .int .u8 8] 5
  p : Cells w H2 #[.int .u8 80, .int .u8 75, .int .u8 3, .int .u8 4] 5
theorem Fm.below {w u : World} {M H1 H2 C : Nat} (h : Fm w M H1 H2) (k : Below C w u) (hC : w.heap.size ≤ C) : Fm u M H1 H2 := ⟨h.m.below k (by have := h.m.lt; omega), h.g.below k (by have := h.g.lt; omega), h.p.below k (by have := h.p.lt; omega)⟩
/-- The files so far. -/
structure Fl (w : World) (B : Nat) (v : Value) (n : Nat) (ls : List (List Nat)) : Prop where
  ex : ∃ vs, Ow w B 22 1 v n vs ∧ Sv w B vs ls
  len : ls.length = n
theorem Fl.below {w u : World} {B C n : Nat} {v : Value} {ls : List (List Nat)} (h : Fl w B v n ls) (k : Below C w u) (hC : w.heap.size ≤ C) : Fl u B v n ls := by
  obtain ⟨vs, h1, h2⟩ := h.ex
  exact ⟨⟨vs, h1.below k hC, h2.below k hC⟩, h.len⟩
theorem Fl.drewN {w : World} {B n : Nat} {v : Value} {ls : List (List Nat)} (h : Fl w B v n ls) (m : Nat) : Fl (w.drewN m) B v n ls := h.below (Below.drewN2 (Below.refl w.heap.size w) m) (Nat.le_refl _)
set_option maxRecDepth 20000 in
set_option maxHeartbeats 2000000 in
theorem files_c (w : World) (a : Option Addr) (l : List Nat) (L C : Nat) (hl : Lies w a l) (hL : l.length = L) (hLC : L ≤ C) (ho : Oct l) (hb : L ≤ 140737488355320) (haz : a = none → L = 0 ∧ C = 0) : Calls Tryd.prog 11 #[.slice a L C] w fun ex w' => ∃ g c, ex = .returned (.slice (some ⟨g, 0, none⟩) 4 c) ∧ Fl w' w.heap.size (.slice (some ⟨g, 0, none⟩) 4 c) 4 (fls l) ∧ Below w.heap.size w w' := by
  obtain ⟨B, hB⟩ : ∃ B, w.heap.size = B := ⟨_, rfl⟩
  rw [hB]
  have hob0 : Ow (w.alloc (.cells #[] 5)) B 5 1 (.slice (some ⟨B, 0, none⟩) 0 0) 0 (ob []) := by rw [← hB]; exact Ow.empty (Nat.le_refl _)
  have b0 : Below w.heap.size w (w.alloc (.cells #[] 5)) := (Below.refl _ w).alloc (Nat.le_refl _) _
  have hl0 := lies_ob (hl.below b0)
  rw [hB] at b0
  obtain ⟨i0, hi, hz0, hz1, hz2⟩ := ginfo_parts ginfo5
  obtain ⟨j0, hj, hy0, hy1, hy2⟩ := ginfo_parts ginfo22
  have A : Aside (Lies w a l ∧ l.length = L ∧ L ≤ C ∧ L ≤ 140737488355320 ∧ Oct l ∧ w.heap.size = B ∧ Below B w (w.alloc (.cells #[] 5)) ∧ 0 + L ≤ maxLen ∧ (0 + L) * 1 ≤ 140737488355328 ∧ (ob l).length = L * 1) := ⟨hl, hL, hLC, hb, ho, hB, b0, by unfold maxLen; omega, by omega, by rw [ob_length]; omega⟩
  have AZ : Aside (a = none → L = 0 ∧ C = 0) := haz
  clear hl hb ho haz b0 hLC hL
  go_enter Tryd.func11, Tryd.ntmps11
  go_upto_region 2 with (at_builtin; refine wpList_ow Tryd.prog _ rfl (.tmp 8) (.tmp 9) 22 rfl 5 i0 _ 1 1 Tryd.underlying22 hi hz0 hz1 hz2 rfl (by decide) B (.slice (some ⟨B, 0, none⟩) 0 0) 0 _ (by rfl) hob0 a (ob l) L C A.out.2.2.2.2.2.2.2.2.2 (by rfl) AZ.out hl0 ob_one A.out.2.2.2.2.2.2.2.1 A.out.2.2.2.2.2.2.2.2.1 ?_; intro v1 w1 hgot; have how := ow_first hgot; obtain ⟨va, vc, hv, _⟩ := how.shape; subst hv)
  obtain ⟨g0, hg0⟩ : ∃ g, w1.heap.size = g := ⟨_, rfl⟩
  have hf : Fl (w1.alloc (.cells #[.slice va L vc] 22)) B (.slice (some ⟨g0, 0, none⟩) 1 1) 1 [l] := by
    have q := Ow.built (w := w1) (lo := B) (n := 1) (e := 22) #[.slice va L vc] how.le (by decide) rfl
    rw [hg0] at q
    refine ⟨⟨_, q, ⟨rfl, fun i v m hv hm => ?_⟩⟩, rfl⟩
    have hi : i = 0 := by
      have := (List.getElem?_eq_some_iff.1 hv).1
      simp at this
      omega
    subst hi
    simp at hv hm
    subst hv hm
    rw [A.out.2.1]
    exact how.below ((Below.refl _ w1).alloc (Nat.le_refl _) _) (Nat.le_refl _)
  have b2 : Below B w (w1.alloc (.cells #[.slice va L vc] 22)) := (A.out.2.2.2.2.2.2.1.trans hgot.bel).trans ((Below.refl _ w1).alloc how.le _)
  have hgl : g0 < (w1.alloc (.cells #[.slice va L vc] 22)).heap.size := by show _ < (w1.heap.push _).size; simp; omega
  rw [hg0]
  obtain ⟨w2, hw2⟩ : ∃ w2, w1.alloc (.cells #[.slice va L vc] 22) = w2 := ⟨_, rfl⟩
  rw [hw2] at hf b2 hgl ⊢
  obtain ⟨H1, hH1⟩ : ∃ H, w2.heap.size = H := ⟨_, rfl⟩
  have hfm : Fm (((w2.alloc (.cells #[.int .u8 31, .int .u8 139, .int .u8 8] 5)).alloc (.cells #[.int .u8 80, .int .u8 75, .int .u8 3, .int .u8 4] 5)).alloc (.cells #[.slice (some ⟨H1, 0, none⟩) 3 3, .slice (some ⟨H1 + 1, 0, none⟩) 4 4] 22)) (H1 + 1 + 1) H1 (H1 + 1) := by
    rw [← hH1]
    have e1 : (w2.alloc (.cells #[.int .u8 31, .int .u8 139, .int .u8 8] 5)).heap.size = w2.heap.size + 1 := by show (w2.heap.push _).size = _; simp
    have e2 : ((w2.alloc (.cells #[.int .u8 31, .int .u8 139, .int .u8 8] 5)).alloc (.cells #[.int .u8 80, .int .u8 75, .int .u8 3, .int .u8 4] 5)).heap.size = w2.heap.size + 2 := by show (Array.push _ _).size = _; rw [Array.size_push, e1]
    refine ⟨?_, ?_, ?_⟩
    · have := Cells.new ((w2.alloc (.cells #[.int .u8 31, .int .u8 139, .int .u8 8] 5)).alloc (.cells #[.int .u8 80, .int .u8 75, .int .u8 3, .int .u8 4] 5)) #[.slice (some ⟨w2.heap.size, 0, none⟩) 3 3, .slice (some ⟨w2.heap.size + 1, 0, none⟩) 4 4] 22
      rw [e2] at this
      exact this
    · exact ((Cells.new w2 _ 5).alloc _).alloc _
    · have := (Cells.new (w2.alloc (.cells #[.int .u8 31, .int .u8 139, .int .u8 8] 5)) #[.int .u8 80, .int .u8 75, .int .u8 3, .int .u8 4] 5).alloc (.cells #[.slice (some ⟨w2.heap.size, 0, none⟩) 3 3, .slice (some ⟨w2.heap.size + 1, 0, none⟩) 4 4] 22)
      rw [e1] at this
      exact this
  have bal : Below H1 w2 (((w2.alloc (.cells #[.int .u8 31, .int .u8 139, .int .u8 8] 5)).alloc (.cells #[.int .u8 80, .int .u8 75, .int .u8 3, .int .u8 4] 5)).alloc (.cells #[.slice (some ⟨H1, 0, none⟩) 3 3, .slice (some ⟨H1 + 1, 0, none⟩) 4 4] 22)) := by
    rw [← hH1]
    have e1 : (w2.alloc (.cells #[.int .u8 31, .int .u8 139, .int .u8 8] 5)).heap.size = w2.heap.size + 1 := by show (w2.heap.push _).size = _; simp
    have e2 : ((w2.alloc (.cells #[.int .u8 31, .int .u8 139, .int .u8 8] 5)).alloc (.cells #[.int .u8 80, .int .u8 75, .int .u8 3, .int .u8 4] 5)).heap.size = w2.heap.size + 2 := by show (Array.push _ _).size = _; rw [Array.size_push, e1]
    exact (((Below.refl _ w2).alloc (Nat.le_refl _) _).alloc (by omega) _).alloc (by omega) _
  have hf5 := hf.below bal (by omega)
  have b5 := b2.trans (bal.mono (by have := b2.size; have := A.out.2.2.2.2.2.1; omega))
  obtain ⟨w5, hw5⟩ : ∃ w5, (((w2.alloc (.cells #[.int .u8 31, .int .u8 139, .int .u8 8] 5)).alloc (.cells #[.int .u8 80, .int .u8 75, .int .u8 3, .int .u8 4] 5)).alloc (.cells #[.slice (some ⟨H1, 0, none⟩) 3 3, .slice (some ⟨H1 + 1, 0, none⟩) 4 4] 22)) = w5 := ⟨_, rfl⟩
  rw [hw5] at hfm hf5 b5
  have AF : Aside (Fl w5 B (.slice (some ⟨g0, 0, none⟩) 1 1) 1 [l] ∧ Fm w5 (H1 + 1 + 1) H1 (H1 + 1) ∧ Below B w w5 ∧ g0 < H1) := ⟨hf5, hfm, b5, by omega⟩
  clear hf5 hfm b5 bal hf b2 hgl how hgot hob0 hl0 hg0 hw2
  go_wp2_with fail
  obtain ⟨H2, hH2⟩ : ∃ H, H1 + 1 = H := ⟨_, rfl⟩
  obtain ⟨M, hM⟩ : ∃ H, H2 + 1 = H := ⟨_, rfl⟩
  rw [hH2, hM] at AF ⊢
  have AM : Aside (H1 + 1 = H2 ∧ H2 + 1 = M) := ⟨hH2, hM⟩
  have AJ : Aside (w.heap.size = B) := hB
  clear hH2 hM hw5 hH1 hB
  go_loopg [3, 5] 2 (fun gg s3 s5 wr => ∃ (i g c : Nat), s3 = .slice (some ⟨g, 0, none⟩) (i + 1) c ∧ s5 = .int .i64 (i : Int) ∧ Aside (i + gg = 2 ∧ Fl wr B (.slice (some ⟨g, 0, none⟩) (i + 1) c) (i + 1) ((fls l).take (i + 1)) ∧ Fm wr M H1 H2 ∧ Below B w wr ∧ g ≠ M))
  case atStart =>
    have af := AF.out
    exact ⟨0, g0, 1, rfl, rfl, ⟨rfl, af.1, af.2.1, af.2.2.1, by have := AM.out; omega⟩⟩
  case round =>
    obtain ⟨i, g, c, rfl, rfl, AR⟩ := hrel
    have ar := AR.out
    by_cases hi2 : i < 2
    · have t1 : ((i : Int) < 2) = True := eq_true (by omega)
      have t1n : (i < 2) = True := eq_true hi2
      obtain ⟨Hm, m, ml, hml, hm4, hmo, hcM, hcH, hfl⟩ : ∃ (Hm m : Nat) (ml : List Nat), ml.length = m ∧ m ≤ 4 ∧ Oct ml ∧ (∀ u, Fm u M H1 H2 → u.cell? ⟨M, i, none⟩ = some (.slice (some ⟨Hm, 0, none⟩) m m)) ∧ (∀ u, Fm u M H1 H2 → ∀ j y : Nat, ml[j]? = some y → u.cell? ⟨Hm, j, none⟩ = some (.int .u8 (y : Int))) ∧ (fls l).take (i + 1 + 1) = (fls l).take (i + 1) ++ [ext l ml] := by
        have h2 : i = 0 ∨ i = 1 := by omega
        rcases h2 with rfl | rfl
        · refine ⟨H1, 3, gz, rfl, by decide, by intro x hx; simp [gz] at hx; omega, fun u hu => by rw [hu.m.cell]; rfl, fun u hu j y hy => ?_, rfl⟩
          rw [hu.g.cell]
          have hj : j < 3 := (List.getElem?_eq_some_iff.1 hy).1
          obtain rfl | rfl | rfl : j = 0 ∨ j = 1 ∨ j = 2 := by omega
          all_goals (simp [gz] at hy; subst hy; rfl)
        · refine ⟨H2, 4, pk, rfl, by decide, by intro x hx; simp [pk] at hx; omega, fun u hu => by rw [hu.m.cell]; rfl, fun u hu j y hy => ?_, rfl⟩
          rw [hu.p.cell]
          have hj : j < 4 := (List.getElem?_eq_some_iff.1 hy).1
          obtain rfl | rfl | rfl | rfl : j = 0 ∨ j = 1 ∨ j = 2 ∨ j = 3 := by omega
          all_goals (simp [pk] at hy; subst hy; rfl)
      obtain ⟨K, hK⟩ : ∃ K, wr.heap.size = K := ⟨_, rfl⟩
      have aa := A.out
      have hBK : B ≤ K := by have := ar.2.2.2.1.size; have := AJ.out; omega
      have hob : Ow (wr.alloc (.cells #[] 5)) K 5 1 (.slice (some ⟨K, 0, none⟩) 0 0) 0 (ob []) := by rw [← hK]; exact Ow.empty (Nat.le_refl _)
      have bK : Below K wr (wr.alloc (.cells #[] 5)) := by rw [← hK]; exact (Below.refl _ wr).alloc (Nat.le_refl _) _
      have hlr := lies_ob (aa.1.below (by rw [AJ.out]; exact ar.2.2.2.1.trans (bK.mono hBK)))
      have A1 : Aside (Fl wr B (.slice (some ⟨g, 0, none⟩) (i + 1) c) (i + 1) ((fls l).take (i + 1)) ∧ Fm wr M H1 H2 ∧ Below B w wr ∧ wr.heap.size = K ∧ Below K wr (wr.alloc (.cells #[] 5)) ∧ B ≤ K ∧ g ≠ M ∧ i + gk = 2 ∧ i < 2) := ⟨ar.2.1, ar.2.2.1, ar.2.2.2.1, hK, bK, hBK, ar.2.2.2.2, ar.1, hi2⟩
      have A2 : Aside (ml.length = m ∧ m ≤ 4 ∧ Oct ml ∧ (∀ u, Fm u M H1 H2 → u.cell? ⟨M, i, none⟩ = some (.slice (some ⟨Hm, 0, none⟩) m m)) ∧ (∀ u, Fm u M H1 H2 → ∀ j y : Nat, ml[j]? = some y → u.cell? ⟨Hm, j, none⟩ = some (.int .u8 (y : Int))) ∧ (fls l).take (i + 1 + 1) = (fls l).take (i + 1) ++ [ext l ml]) := ⟨hml, hm4, hmo, hcM, hcH, hfl⟩
      clear AR ar aa hi2 hml hm4 hmo hcM hcH hfl bK hBK
      go_upto_region 7 with (at_builtin; refine wpList_ow Tryd.prog _ rfl (.tmp 21) (.tmp 22) 22 rfl 5 i0 _ 1 1 Tryd.underlying22 hi hz0 hz1 hz2 rfl (by decide) K (.slice (some ⟨K, 0, none⟩) 0 0) 0 _ (by rfl) hob a (ob l) L C A.out.2.2.2.2.2.2.2.2.2 (by rfl) AZ.out hlr ob_one A.out.2.2.2.2.2.2.2.1 A.out.2.2.2.2.2.2.2.2.1 ?_; intro v6 w6 hgot; have how := ow_first hgot; obtain ⟨va6, vc6, hv, _⟩ := how.shape; subst hv)
      have a1 := A1.out
      have b6 : Below K wr w6 := a1.2.2.2.2.1.trans hgot.bel
      have f6 : Fm w6 M H1 H2 := a1.2.1.below b6 (by omega)
      have hcm := A2.out.2.2.2.1 w6 f6
      have A3 : Aside (Fl w6 B (.slice (some ⟨g, 0, none⟩) (i + 1) c) (i + 1) ((fls l).take (i + 1)) ∧ Fm w6 M H1 H2 ∧ Below B w w6 ∧ Ow w6 K 5 1 (.slice va6 L vc6) L (ob l) ∧ K ≤ w6.heap.size ∧ Below K wr w6) := ⟨a1.1.below b6 (by omega), f6, a1.2.2.1.trans (b6.mono a1.2.2.2.2.2.1), how, how.le, b6⟩
      clear a1 b6 f6 hgot hob hlr hK
      obtain ⟨tb, htb⟩ : ∃ tb, decide (L < m) = tb := ⟨_, rfl⟩
      have htb2 : decide ((L : Int) < (m : Int)) = tb := by rw [← htb]; congr 1; simp
      have AT : Aside (decide (L < m) = tb) := htb
      go_upto_if 31 with fail
      go_cut [6] (fun s6 wc => ∃ (ax : Option Addr) (nx cx : Nat), s6 = .slice ax nx cx ∧ Aside (Fl wc B (.slice (some ⟨g, 0, none⟩) (i + 1) c) (i + 1) ((fls l).take (i + 1)) ∧ Fm wc M H1 H2 ∧ Below B w wc ∧ Ow wc K 5 1 (.slice ax nx cx) nx (ob (ext l ml)) ∧ (ext l ml).length = nx))
      case first =>
        cases tb with
        | true =>
          have hLm : L < m := of_decide_eq_true AT.out
          have a3 := A3.out
          have a2 := A2.out
          have u1 : (L : Int) ≤ (m : Int) := by omega
          have u3 : ¬ m = L := by omega
          have u4 : ¬ (m : Int) = (L : Int) := by omega
          have hsl : ∀ W : World, (Instr.slice 22 (.slice (some ⟨Hm, 0, none⟩) m m) (some (.int .i64 (L : Int))) none none).run Tryd.prog W = .ok (.slice (some ⟨Hm, L, none⟩) (m - L) (m - L)) W := fun W => by
            have u2 : (0 : Int) ≤ (L : Int) := by omega
            clear a3 a2 hcm htb htb2
            go_simp
          have hdl : Lies w6 (some ⟨Hm, L, none⟩) (ml.drop L) := Or.inr ⟨Hm, L, rfl, fun j y hy => by
            rw [List.getElem?_drop] at hy
            exact a2.2.2.2.2.1 w6 a3.2.1 _ y hy⟩
          have hob2 := lies_ob hdl
          have hdn : (ob (ml.drop L)).length = (m - L) * 1 := by rw [ob_length, List.length_drop, a2.1]; omega
          obtain ⟨d, hd⟩ : ∃ d, m - L = d := ⟨_, rfl⟩
          rw [hd] at hsl hdn
          have how := a3.2.2.2.1
          have AE : Aside (ext l ml = l ++ ml.drop L ∧ (l ++ ml.drop L).length = L + d ∧ L + d ≤ maxLen ∧ (L + d) * 1 ≤ 140737488355328) := by
            have e1 : ext l ml = l ++ ml.drop L := by unfold ext; rw [if_pos (by rw [A.out.2.1, a2.1]; exact hLm), A.out.2.1]
            refine ⟨e1, ?_, ?_, ?_⟩
            · rw [List.length_append, A.out.2.1, List.length_drop, a2.1]; omega
            · have := A.out.2.2.2.1; unfold maxLen; omega
            · have := A.out.2.2.2.1; omega
          clear a3 a2 u3 u4 htb htb2 AT hLm hd hdl
          go_wp2_with (at_builtin; refine wpList_ow Tryd.prog _ rfl (.tmp 32) (.tmp 39) 22 rfl 5 i0 _ 1 1 Tryd.underlying22 hi hz0 hz1 hz2 rfl (by decide) K (.slice va6 L vc6) L _ (by rfl) how (some ⟨Hm, L, none⟩) (ob (ml.drop L)) d d hdn (by rfl) (fun h => by cases h) hob2 ob_one AE.out.2.2.1 AE.out.2.2.2 ?_; intro v7 w7 hgot7; have how7 := ow_next hgot7; obtain ⟨va7, vc7, hv7, _⟩ := how7.shape; subst hv7)
          have a3 := A3.out
          go_meet
          exact ⟨va7, L + d, vc7, rfl, ⟨A1.out.1.below (a3.2.2.2.2.2.trans hgot7.bel) (Nat.le_of_eq A1.out.2.2.2.1), A1.out.2.1.below (a3.2.2.2.2.2.trans hgot7.bel) (Nat.le_of_eq A1.out.2.2.2.1), a3.2.2.1.trans (hgot7.bel.mono (by have := A1.out; omega)), by rw [AE.out.1]; exact how7, by rw [AE.out.1]; exact AE.out.2.1⟩⟩
        | false =>
          have hLm : ¬ L < m := of_decide_eq_false AT.out
          have a3 := A3.out
          have e1 : ext l ml = l := by unfold ext; rw [if_neg (by rw [A.out.2.1, A2.out.1]; exact hLm)]
          clear htb htb2 AT hLm hcm
          go_wp2_with fail
          go_meet
          exact ⟨va6, L, vc6, rfl, ⟨a3.1, a3.2.1, a3.2.2.1, by rw [e1]; exact a3.2.2.2.1, by rw [e1]; exact A.out.2.1⟩⟩
      case rest =>
        obtain ⟨ax, nx, cx, rfl, AC⟩ := hcut
        have ac := AC.out
        obtain ⟨vs, hvs, hsv⟩ := ac.1.ex
        obtain ⟨Z, hZ⟩ : ∃ Z, wc.heap.size = Z := ⟨_, rfl⟩
        have bZ : Below Z wc (wc.alloc (.cells #[.slice ax nx cx] 22)) := by rw [← hZ]; exact (Below.refl _ wc).alloc (Nat.le_refl _) _
        have hown := hvs.below bZ (by omega)
        have hcell : (wc.alloc (.cells #[.slice ax nx cx] 22)).cell? ⟨Z, 0, none⟩ = some (.slice ax nx cx) := by rw [← hZ, (Cells.new wc _ 22).cell]; rfl
        have hBZ : B ≤ Z := by have := ac.2.2.1.size; have := AJ.out; omega
        have A5 : Aside (Sv (wc.alloc (.cells #[.slice ax nx cx] 22)) B vs ((fls l).take (i + 1)) ∧ Fm (wc.alloc (.cells #[.slice ax nx cx] 22)) M H1 H2 ∧ Below B w (wc.alloc (.cells #[.slice ax nx cx] 22)) ∧ Ow (wc.alloc (.cells #[.slice ax nx cx] 22)) B 5 1 (.slice ax nx cx) (ext l ml).length (ob (ext l ml)) ∧ M < Z ∧ (fls l).take (i + 1 + 1) = (fls l).take (i + 1) ++ [ext l ml] ∧ i + 1 + (gk - 1) = 2 ∧ g ≠ M ∧ gk ≠ 0 ∧ (wc.alloc (.cells #[.slice ax nx cx] 22)).heap.size = Z + 1) := by
          have a1 := A1.out
          refine ⟨hsv.below bZ (by omega), ac.2.1.below bZ (by omega), ac.2.2.1.trans (bZ.mono hBZ), ?_, by have := ac.2.1.m.lt; omega, A2.out.2.2.2.2.2, by omega, a1.2.2.2.2.2.2.1, by omega, by show (wc.heap.push _).size = _; simp; omega⟩
          rw [ac.2.2.2.2]
          exact (ac.2.2.2.1.below bZ (by omega)).lower a1.2.2.2.2.2.1
        have hsz := A5.out.2.2.2.2.2.2.2.2.2
        have hin : i + 1 ≤ 1000 := by have := A1.out.2.2.2.2.2.2.2.2; omega
        have hi3 : (i : Int) < 2 := by have := A1.out.2.2.2.2.2.2.2.2; omega
        clear ac hvs hsv bZ hBZ AT htb htb2 hcm t1 t1n
        go_wp2_with (at_builtin; refine wpList_row rfl (.tmp 41) (.tmp 43) 28 rfl j0 Tryd.underlying28 hj hy0 hy1 hy2 B (.slice (some ⟨g, 0, none⟩) (i + 1) c) (i + 1) vs (by rfl) hown Z 1 (.slice ax nx cx) (by rfl) hcell rfl hin (Z + 1) hsz ?_; intro g8 c8 w8 hgot8 hblk8)
        have a5 := A5.out
        go_roundg (gk - 1)
        case measure => omega
        case rel =>
          refine ⟨i + 1, g8, c8, rfl, by go_num, ⟨a5.2.2.2.2.2.2.1, ⟨⟨_, hgot8.ow, ?_⟩, ?_⟩, ⟨a5.2.1.m.got2 hgot8 a5.2.2.2.2.2.2.2.1, a5.2.1.g.got hgot8 (by decide), a5.2.1.p.got hgot8 (by decide)⟩, a5.2.2.1.trans hgot8.bel, ?_⟩⟩
          · rw [a5.2.2.2.2.2.1]
            exact (a5.1.got hgot8).snoc (a5.2.2.2.1.got hgot8 (by decide))
          · rw [a5.2.2.2.2.2.1, List.length_append, AC.out.1.len]
            rfl
          · rcases hblk8 with e | e
            · have e : g = g8 := Option.some.inj e
              have := a5.2.2.2.2.2.2.2.1
              omega
            · have := a5.2.2.2.2.1
              omega
    · have hi3 : i = 2 := by omega
      have t1 : ((i : Int) < 2) = False := eq_false (by omega)
      have t1n : (i < 2) = False := eq_false hi2
      have af : Aside (Fl wr B (.slice (some ⟨g, 0, none⟩) 3 c) 3 [l, ext l gz, ext l pk] ∧ Below B w wr) := by
        subst hi3
        exact ⟨ar.2.1, ar.2.2.2.1⟩
      subst hi3
      obtain ⟨K, hK⟩ : ∃ K, wr.heap.size = K := ⟨_, rfl⟩
      have aa := A.out
      have hBK : B ≤ K := by have := ar.2.2.2.1.size; have := AJ.out; omega
      have hob : Ow (wr.alloc (.cells #[] 5)) K 5 1 (.slice (some ⟨K, 0, none⟩) 0 0) 0 (ob []) := by rw [← hK]; exact Ow.empty (Nat.le_refl _)
      have bK : Below K wr (wr.alloc (.cells #[] 5)) := by rw [← hK]; exact (Below.refl _ wr).alloc (Nat.le_refl _) _
      have hlr := lies_ob (aa.1.below (by rw [AJ.out]; exact ar.2.2.2.1.trans (bK.mono hBK)))
      have A1 : Aside (Fl wr B (.slice (some ⟨g, 0, none⟩) 3 c) 3 [l, ext l gz, ext l pk] ∧ Below B w wr ∧ wr.heap.size = K ∧ Below K wr (wr.alloc (.cells #[] 5)) ∧ B ≤ K) := ⟨af.out.1, af.out.2, hK, bK, hBK⟩
      clear AR ar aa hi2 bK hBK af t1 t1n
      go_upto_region 11 with (at_builtin; refine wpList_ow Tryd.prog _ rfl (.tmp 45) (.tmp 46) 22 rfl 5 i0 _ 1 1 Tryd.underlying22 hi hz0 hz1 hz2 rfl (by decide) K (.slice (some ⟨K, 0, none⟩) 0 0) 0 _ (by rfl) hob a (ob l) L C A.out.2.2.2.2.2.2.2.2.2 (by rfl) AZ.out hlr ob_one A.out.2.2.2.2.2.2.2.1 A.out.2.2.2.2.2.2.2.2.1 ?_; intro v6 w6 hgot; have how := ow_first hgot; obtain ⟨va6, vc6, hv, _⟩ := how.shape; subst hv)
      have a1 := A1.out
      have b6 : Below K wr w6 := a1.2.2.2.1.trans hgot.bel
      have A2 : Aside (Fl w6 B (.slice (some ⟨g, 0, none⟩) 3 c) 3 [l, ext l gz, ext l pk] ∧ Below B w w6 ∧ Ow w6 K 5 1 (.slice va6 L vc6) L (ob (pad l 255 L)) ∧ Below K wr w6) := by
        refine ⟨a1.1.below b6 (by omega), a1.2.1.trans (b6.mono a1.2.2.2.2), ?_, b6⟩
        have e : pad l 255 L = l := by unfold pad; rw [A.out.2.1, Nat.sub_self]; simp
        rw [e]; exact how
      clear a1 b6 hgot hob hlr hK how
      go_loopg [7] (257 - L) (fun gg s7 wq => ∃ (ax : Option Addr) (n cx : Nat), s7 = .slice ax n cx ∧ Aside (L ≤ n ∧ (n = L ∨ n ≤ 257) ∧ gg = 257 - n ∧ Ow wq K 5 1 (.slice ax n cx) n (ob (pad l 255 n)) ∧ Below K wr wq))
      case atStart => exact ⟨va6, L, vc6, rfl, ⟨Nat.le_refl _, Or.inl rfl, rfl, A2.out.2.2.1, A2.out.2.2.2⟩⟩
      case round =>
        obtain ⟨ax, n, cx, rfl, AR⟩ := hrel
        have ar := AR.out
        by_cases hn : n < 257
        · have t1 : ((n : Int) < 257) = True := eq_true (by omega)
          have t1n : (n < 257) = True := eq_true hn
          obtain ⟨Z, hZ⟩ : ∃ Z, wr.heap.size = Z := ⟨_, rfl⟩
          have bZ : Below Z wr (wr.alloc (.cells #[.int .u8 255] 5)) := by rw [← hZ]; exact (Below.refl _ wr).alloc (Nat.le_refl _) _
          have hown := ar.2.2.2.1.below bZ (by omega)
          have hsrc : ob [255] = [] ∨ ∃ b o, (some ⟨Z, 0, none⟩ : Option Addr) = some ⟨b, o, none⟩ ∧ ∀ (i : Nat) u, (ob [255])[i]? = some u → (wr.alloc (.cells #[.int .u8 255] 5)).cell? ⟨b, o + i, none⟩ = some u := by
            refine Or.inr ⟨Z, 0, rfl, fun i u hu => ?_⟩
            cases i with
            | zero => simp [ob] at hu; rw [← hZ, (Cells.new wr _ 5).cell, ← hu]; rfl
            | succ i => simp [ob] at hu
          have A3 : Aside (Below K (wr.alloc (.cells #[.int .u8 255] 5)) (wr.alloc (.cells #[.int .u8 255] 5)) ∧ n + 1 ≤ maxLen ∧ (n + 1) * 1 ≤ 140737488355328 ∧ L ≤ n ∧ n < 257 ∧ gk = 257 - n ∧ pad l 255 (n + 1) = pad l 255 n ++ [255]) := by
            refine ⟨Below.refl _ _, by unfold maxLen; omega, by omega, ar.1, hn, ar.2.2.1, ?_⟩
            unfold pad
            rw [A.out.2.1, show n + 1 - L = (n - L) + 1 by have := ar.1; omega, List.replicate_succ', List.append_assoc]
          have hbw := ar.2.2.2.2.trans (bZ.mono (by have := ar.2.2.2.1.le; omega))
          have A4 : Aside _ := hbw
          have hn3 : (n : Int) < 257 := by omega
          clear AR ar hn bZ hbw
          go_wp2_with (at_builtin; refine wpList_ow Tryd.prog _ rfl (.tmp 51) (.tmp 52) 22 rfl 5 i0 _ 1 1 Tryd.underlying22 hi hz0 hz1 hz2 rfl (by decide) K (.slice ax n cx) n _ (by rfl) hown (some ⟨Z, 0, none⟩) (ob [255]) 1 1 rfl (by rfl) (fun h => by cases h) hsrc ob_one A3.out.2.1 A3.out.2.2.1 ?_; intro v9 w9 hgot9; have how9 := ow_next hgot9; obtain ⟨va9, vc9, hv9, _⟩ := how9.shape; subst hv9)
          have a3 := A3.out
          go_roundg (257 - (n + 1))
          case measure => omega
          case rel => exact ⟨va9, n + 1, vc9, rfl, ⟨by omega, Or.inr (by omega), rfl, by rw [a3.2.2.2.2.2.2]; exact how9, A4.out.trans hgot9.bel⟩⟩
        · have t1 : ((n : Int) < 257) = False := eq_false (by omega)
          have t1n : (n < 257) = False := eq_false hn
          obtain ⟨T, hT⟩ : ∃ T, pad l 255 257 = T := ⟨_, rfl⟩
          have hpn : pad l 255 n = T := by
            rw [← hT]
            rcases ar.2.1 with e | e
            · unfold pad; rw [A.out.2.1, show n - L = 0 by omega, show 257 - L = 0 by omega]
            · rw [show n = 257 by omega]
          have hTl : T.length = n := by
            have := ar.2.2.2.1.own.1
            rw [ob_length, hpn] at this
            omega
          have A3 : Aside (pad l 255 257 = T ∧ T.length = n ∧ 257 ≤ n ∧ Ow wr K 5 1 (.slice ax n cx) n (ob T)) := ⟨hT, hTl, by omega, by rw [← hpn]; exact ar.2.2.2.1⟩
          have A4 : Aside _ := ar.2.2.2.2
          clear AR ar hT hpn hTl hn t1n
          go_wp2_with fail
          go_loopg [7] (262 - n) (fun gg s7 wq => ∃ (ay : Option Addr) (m cy : Nat), s7 = .slice ay m cy ∧ Aside (n ≤ m ∧ (m = n ∨ m ≤ 262) ∧ gg = 262 - m ∧ Ow wq K 5 1 (.slice ay m cy) m (ob (T ++ (us.drop (n - 257)).take (m - n))) ∧ Below K wr wq))
          case atStart => exact ⟨ax, n, cx, rfl, ⟨Nat.le_refl _, Or.inl rfl, rfl, by rw [Nat.sub_self, List.take_zero, List.append_nil]; exact A3.out.2.2.2, Below.refl _ _⟩⟩
          case round =>
            obtain ⟨ay, m, cy, rfl, AR⟩ := hrel
            have ar := AR.out
            have a3 := A3.out
            by_cases hm : m < 262
            · have t1 : ((m : Int) < 262) = True := eq_true (by omega)
              have t1n : (m < 262) = True := eq_true hm
              obtain ⟨k, hk⟩ : ∃ k, m - 257 = k := ⟨_, rfl⟩
              have hk5 : k < us.length := by show k < 5; omega
              obtain ⟨y, hy⟩ : ∃ y, us[k]? = some y := ⟨_, List.getElem?_eq_getElem hk5⟩
              have hy0 : ∀ h : k < (⟨#[117, 115, 116, 97, 114]⟩ : ByteArray).size, ((⟨#[117, 115, 116, 97, 114]⟩ : ByteArray)[k]'h).toNat = y := fun h => st_get (l := us) oct_us hy h
              have hwk : IntKind.i64.wrap ((m : Int) - 257) = (k : Int) := by rw [IntKind.wrap_i64]; omega
              have hk5b : (k : Int) < 5 := by have : us.length = 5 := rfl; omega
              obtain ⟨Z, hZ⟩ : ∃ Z, wr.heap.size = Z := ⟨_, rfl⟩
              have bZ : Below Z wr (wr.alloc (.cells #[.int .u8 (y : Int)] 5)) := by rw [← hZ]; exact (Below.refl _ wr).alloc (Nat.le_refl _) _
              have hown := ar.2.2.2.1.below bZ (by omega)
              have hsrc : ob [y] = [] ∨ ∃ b o, (some ⟨Z, 0, none⟩ : Option Addr) = some ⟨b, o, none⟩ ∧ ∀ (i : Nat) u, (ob [y])[i]? = some u → (wr.alloc (.cells #[.int .u8 (y : Int)] 5)).cell? ⟨b, o + i, none⟩ = some u := by
                refine Or.inr ⟨Z, 0, rfl, fun i u hu => ?_⟩
                cases i with
                | zero => simp [ob] at hu; rw [← hZ, (Cells.new wr _ 5).cell, ← hu]; rfl
                | succ i => simp [ob] at hu
              have A5 : Aside (m + 1 ≤ maxLen ∧ (m + 1) * 1 ≤ 140737488355328 ∧ n ≤ m ∧ m < 262 ∧ gk = 262 - m ∧ T ++ (us.drop (n - 257)).take (m + 1 - n) = T ++ (us.drop (n - 257)).take (m - n) ++ [y]) := by
                refine ⟨by unfold maxLen; omega, by omega, ar.1, hm, ar.2.2.1, ?_⟩
                rw [show m + 1 - n = (m - n) + 1 by have := ar.1; omega, take_more (l := us.drop (n - 257)) (k := m - n) (x := y) (by rw [List.getElem?_drop, show n - 257 + (m - n) = k by have := ar.1; have := a3.2.2.1; omega]; exact hy), List.append_assoc]
              have hbw := ar.2.2.2.2.trans (bZ.mono (by have := ar.2.2.2.1.le; omega))
              have A6 : Aside _ := hbw
              have hm3 : (m : Int) < 262 := by omega
              clear AR ar a3 hm bZ hbw hk hk5 hy
              go_wp2_with (at_builtin; refine wpList_ow Tryd.prog _ rfl (.tmp 57) (.tmp 62) 22 rfl 5 i0 _ 1 1 Tryd.underlying22 hi hz0 hz1 hz2 rfl (by decide) K (.slice ay m cy) m _ (by rfl) hown (some ⟨Z, 0, none⟩) (ob [y]) 1 1 rfl (by rfl) (fun h => by cases h) hsrc ob_one A5.out.1 A5.out.2.1 ?_; intro v9 w9 hgot9; have how9 := ow_next hgot9; obtain ⟨va9, vc9, hv9, _⟩ := how9.shape; subst hv9)
              have a5 := A5.out
              go_roundg (262 - (m + 1))
              case measure => omega
              case rel => exact ⟨va9, m + 1, vc9, rfl, ⟨by omega, Or.inr (by omega), rfl, by rw [a5.2.2.2.2.2]; exact how9, A6.out.trans hgot9.bel⟩⟩
            · have t1 : ((m : Int) < 262) = False := eq_false (by omega)
              have t1n : (m < 262) = False := eq_false hm
              have hX : T ++ (us.drop (n - 257)).take (m - n) = tarf l 255 := by
                unfold tarf
                rw [a3.1, a3.2.1, List.take_of_length_le]
                rw [List.length_drop, show us.length = 5 from rfl]
                have := ar.2.1
                omega
              obtain ⟨Z, hZ⟩ : ∃ Z, wr.heap.size = Z := ⟨_, rfl⟩
              have how : Ow wr K 5 1 (.slice ay m cy) m (ob (tarf l 255)) := by rw [← hX]; exact ar.2.2.2.1
              have hml : (tarf l 255).length = m := by have := how.own.1; rw [ob_length] at this; omega
              have bK := A4.out.trans ar.2.2.2.2
              have hf := A1.out.1.below bK (Nat.le_of_eq A1.out.2.2.1)
              obtain ⟨vs, hvs, hsv⟩ := hf.ex
              have bZ : Below Z wr (wr.alloc (.cells #[.slice ay m cy] 22)) := by rw [← hZ]; exact (Below.refl _ wr).alloc (Nat.le_refl _) _
              have hown := hvs.below bZ (by omega)
              have hcell : (wr.alloc (.cells #[.slice ay m cy] 22)).cell? ⟨Z, 0, none⟩ = some (.slice ay m cy) := by rw [← hZ, (Cells.new wr _ 22).cell]; rfl
              have hsz : (wr.alloc (.cells #[.slice ay m cy] 22)).heap.size = Z + 1 := by show (wr.heap.push _).size = _; simp; omega
              have A5 : Aside (Sv (wr.alloc (.cells #[.slice ay m cy] 22)) B vs [l, ext l gz, ext l pk] ∧ Ow (wr.alloc (.cells #[.slice ay m cy] 22)) B 5 1 (.slice ay m cy) (tarf l 255).length (ob (tarf l 255)) ∧ Below B w (wr.alloc (.cells #[.slice ay m cy] 22))) := by
                refine ⟨hsv.below bZ (by omega), ?_, ?_⟩
                · rw [hml]; exact (how.below bZ (by omega)).lower A1.out.2.2.2.2
                · refine (A1.out.2.1.trans (bK.mono A1.out.2.2.2.2)).trans (bZ.mono ?_)
                  have := how.le
                  have := A1.out.2.2.2.2
                  omega
              clear AR ar a3 hm hX how hml bK hf hvs hsv bZ t1n
              go_wp2_with (at_builtin; refine wpList_row rfl (.tmp 64) (.tmp 66) 28 rfl j0 Tryd.underlying28 hj hy0 hy1 hy2 B (.slice (some ⟨g, 0, none⟩) 3 c) 3 vs (by rfl) hown Z 1 (.slice ay m cy) (by rfl) hcell rfl (by decide) (Z + 1) hsz ?_; intro g8 c8 w8 hgot8 hblk8)
              first | go_ret | go_ret2
              have a5 := A5.out
              exact ⟨g8, c8, rfl, ⟨⟨_, hgot8.ow, (a5.1.got hgot8).snoc (a5.2.1.got hgot8 (by decide))⟩, rfl⟩, a5.2.2.trans hgot8.bel⟩
end Go.Proofs.YtbhlmmbknmejkaaDoor

/-
  The decoder in memory: 72 cells by a function of their place; its queue.
-/
import Derived.Test.YtapljkenmgdkmabMem
import Derived.Test.YtapljkenmgdkmabApp
import Derived.Test.YtapljkenmgdkmabMth
import Derived.OwnWalk
import Derived.BigQuiet
import Derived.BigRegion
import Derived.Deep.CutBlock
import Derived.Deep.DeepCutAuto
namespace Go.Proofs.Ytapljkenmgdkmab
open Go.RowKit
set_option linter.unusedVariables false
/-- 72 cells by a function. -/
def cz (f : Nat → Value) : Array Value := ((List.range 72).map f).toArray
def upd (f : Nat → Value) (i : Nat) (v : Value) : Nat → Value := fun j => if j = i then v else f j
def updn (g : Nat → Nat) (i : Nat) (v : Nat) : Nat → Nat := fun j => if j = i then v else g j
theorem upd_same (f : Nat → Value) (i : Nat) (v : Value) : upd f i v i = v := by simp [upd]
theorem upd_ne (f : Nat → Value) {i j : Nat} (v : Value) (h : j ≠ i) : upd f i v j = f j := by simp [upd, h]
theorem updn_same (f : Nat → Nat) (i : Nat) (v : Nat) : updn f i v i = v := by simp [updn]
theorem updn_ne (f : Nat → Nat) {i j : Nat} (v : Nat) (h : j ≠ i) : updn f i v j = f j := by simp [updn, h]
theorem cz_size (f : Nat → Value) : (cz f).size = 72 := by simp [cz]
theorem cz_at (f : Nat → Value) {i : Nat} (h : i < 72) : (cz f)[i]? = some (f i) := by simp [cz, h]
theorem cz_set (f : Nat → Value) (i : Nat) (v : Value) : (cz f).setIfInBounds i v = cz (upd f i v) := by
  apply Array.ext
  · simp [cz]
  · intro j h1 h2
    have hj : j < 72 := by simpa [cz] using h2
    simp only [cz, List.setIfInBounds_toArray, List.getElem_toArray, List.getElem_set, List.getElem_map, List.getElem_range, upd]
    by_cases e : i = j
    · simp [e]
    · simp [e, Ne.symm e]
/-- The decoder's cells: what was begun, the first digit, the row of 66, where it begins, how many, how many known, why. -/
structure Dm (w : World) (B s hi fi ct kn y : Nat) (g : Nat → Nat) : Prop where
  ex : ∃ f, Cells w B (cz f) 41 ∧ f 0 = .int .u8 (s : Int) ∧ f 1 = .int .u8 (hi : Int) ∧ (∀ j, j < 66 → f (2 + j) = .int .u8 (g j : Int)) ∧ f 68 = .int .i64 (fi : Int) ∧ f 69 = .int .i64 (ct : Int) ∧ f 70 = .int .i64 (kn : Int) ∧ f 71 = .int .i64 (y : Int)
section
variable {w u : World} {B s hi fi ct kn y : Nat} {g : Nat → Nat}
theorem Dm.lt (h : Dm w B s hi fi ct kn y g) : B < w.heap.size := by obtain ⟨f, hf, _⟩ := h.ex; exact hf.lt
theorem Dm.cells (h : Dm w B s hi fi ct kn y g) : ∃ cs, Cells w B cs 41 := by obtain ⟨f, hf, _⟩ := h.ex; exact ⟨_, hf⟩
theorem Dm.fz (h : Dm w B s hi fi ct kn y g) (i : Nat) : w.frozen? ⟨B, i, none⟩ = false := by obtain ⟨f, hf, _⟩ := h.ex; exact hf.frozen i
theorem Dm.c0 (h : Dm w B s hi fi ct kn y g) : w.cell? ⟨B, 0, none⟩ = some (.int .u8 (s : Int)) := by obtain ⟨f, hf, h0, _⟩ := h.ex; rw [hf.cell, cz_at f (by decide), h0]
theorem Dm.c1 (h : Dm w B s hi fi ct kn y g) : w.cell? ⟨B, 1, none⟩ = some (.int .u8 (hi : Int)) := by obtain ⟨f, hf, _, h0, _⟩ := h.ex; rw [hf.cell, cz_at f (by decide), h0]
theorem Dm.cb (h : Dm w B s hi fi ct kn y g) {j : Nat} (hj : j < 66) : w.cell? ⟨B, 2 + j, none⟩ = some (.int .u8 (g j : Int)) := by obtain ⟨f, hf, _, _, h0, _⟩ := h.ex; rw [hf.cell, cz_at f (by omega), h0 j hj]
theorem Dm.c68 (h : Dm w B s hi fi ct kn y g) : w.cell? ⟨B, 68, none⟩ = some (.int .i64 (fi : Int)) := by obtain ⟨f, hf, _, _, _, h0, _⟩ := h.ex; rw [hf.cell, cz_at f (by decide), h0]
theorem Dm.c69 (h : Dm w B s hi fi ct kn y g) : w.cell? ⟨B, 69, none⟩ = some (.int .i64 (ct : Int)) := by obtain ⟨f, hf, _, _, _, _, h0, _⟩ := h.ex; rw [hf.cell, cz_at f (by decide), h0]
theorem Dm.c70 (h : Dm w B s hi fi ct kn y g) : w.cell? ⟨B, 70, none⟩ = some (.int .i64 (kn : Int)) := by obtain ⟨f, hf, _, _, _, _, _, h0, _⟩ := h.ex; rw [hf.cell, cz_at f (by decide), h0]
theorem Dm.c71 (h : Dm w B s hi fi ct kn y g) : w.cell? ⟨B, 71, none⟩ = some (.int .i64 (y : Int)) := by obtain ⟨f, hf, _, _, _, _, _, _, h0⟩ := h.ex; rw [hf.cell, cz_at f (by decide), h0]
theorem Dm.keep (h : Dm w B s hi fi ct kn y g) (k : u.heap[B]? = w.heap[B]?) : Dm u B s hi fi ct kn y g := by
  obtain ⟨f, hf, hh⟩ := h.ex
  exact ⟨f, by unfold Cells at *; rw [k]; exact hf, hh⟩
theorem Dm.drewN (h : Dm w B s hi fi ct kn y g) (n : Nat) : Dm (w.drewN n) B s hi fi ct kn y g := h.keep rfl
theorem Dm.drew (h : Dm w B s hi fi ct kn y g) : Dm w.drew B s hi fi ct kn y g := h.keep rfl
theorem Dm.below (h : Dm w B s hi fi ct kn y g) {C : Nat} (k : Below C w u) (hC : B < C) : Dm u B s hi fi ct kn y g := h.keep (k.block B hC)
theorem Dm.alloc (h : Dm w B s hi fi ct kn y g) (o : Obj) : Dm (w.alloc o) B s hi fi ct kn y g := h.keep (Below.heap_alloc w o B h.lt)
theorem Dm.ap (h : Dm w B s hi fi ct kn y g) {lo : Nat} {e : TypeId} (k : Ap lo e w u) (he : 41 ≠ e) : Dm u B s hi fi ct kn y g := by
  obtain ⟨f, hf, hh⟩ := h.ex
  exact ⟨f, hf.ap k he, hh⟩
theorem Dm.set0 (h : Dm w B s hi fi ct kn y g) (x : Nat) : Dm (w.setCell ⟨B, 0, none⟩ (.int .u8 (x : Int))) B x hi fi ct kn y g := by
  obtain ⟨f, hf, h0, h1, hb, h2, h3, h4, h5⟩ := h.ex
  refine ⟨upd f 0 (.int .u8 (x : Int)), ?_, upd_same _ _ _, ?_, fun j hj => ?_, ?_, ?_, ?_, ?_⟩
  · have := hf.set 0 (.int .u8 (x : Int)); rwa [cz_set] at this
  all_goals first | (rw [upd_ne _ _ (by omega)]; first | assumption | exact hb j hj) 
theorem Dm.set1 (h : Dm w B s hi fi ct kn y g) (x : Nat) : Dm (w.setCell ⟨B, 1, none⟩ (.int .u8 (x : Int))) B s x fi ct kn y g := by
  obtain ⟨f, hf, h0, h1, hb, h2, h3, h4, h5⟩ := h.ex
  refine ⟨upd f 1 (.int .u8 (x : Int)), ?_, ?_, upd_same _ _ _, fun j hj => ?_, ?_, ?_, ?_, ?_⟩
  · have := hf.set 1 (.int .u8 (x : Int)); rwa [cz_set] at this
  all_goals first | (rw [upd_ne _ _ (by omega)]; first | assumption | exact hb j hj) 
theorem Dm.setb (h : Dm w B s hi fi ct kn y g) {i : Nat} (hi66 : i < 66) (x : Nat) : Dm (w.setCell ⟨B, 2 + i, none⟩ (.int .u8 (x : Int))) B s hi fi ct kn y (updn g i x) := by
  obtain ⟨f, hf, h0, h1, hb, h2, h3, h4, h5⟩ := h.ex
  refine ⟨upd f (2 + i) (.int .u8 (x : Int)), ?_, ?_, ?_, fun j hj => ?_, ?_, ?_, ?_, ?_⟩
  · have := hf.set (2 + i) (.int .u8 (x : Int)); rwa [cz_set] at this
  · rw [upd_ne _ _ (by omega)]; assumption
  · rw [upd_ne _ _ (by omega)]; assumption
  · by_cases e : j = i
    · subst e; rw [upd_same, updn_same]
    · rw [upd_ne _ _ (by omega), updn_ne _ _ e]; exact hb j hj
  all_goals (rw [upd_ne _ _ (by omega)]; assumption)
theorem Dm.set68 (h : Dm w B s hi fi ct kn y g) (x : Nat) : Dm (w.setCell ⟨B, 68, none⟩ (.int .i64 (x : Int))) B s hi x ct kn y g := by
  obtain ⟨f, hf, h0, h1, hb, h2, h3, h4, h5⟩ := h.ex
  refine ⟨upd f 68 (.int .i64 (x : Int)), ?_, ?_, ?_, fun j hj => ?_, upd_same _ _ _, ?_, ?_, ?_⟩
  · have := hf.set 68 (.int .i64 (x : Int)); rwa [cz_set] at this
  all_goals first | (rw [upd_ne _ _ (by omega)]; first | assumption | exact hb j hj) 
theorem Dm.set69 (h : Dm w B s hi fi ct kn y g) (x : Nat) : Dm (w.setCell ⟨B, 69, none⟩ (.int .i64 (x : Int))) B s hi fi x kn y g := by
  obtain ⟨f, hf, h0, h1, hb, h2, h3, h4, h5⟩ := h.ex
  refine ⟨upd f 69 (.int .i64 (x : Int)), ?_, ?_, ?_, fun j hj => ?_, ?_, upd_same _ _ _, ?_, ?_⟩
  · have := hf.set 69 (.int .i64 (x : Int)); rwa [cz_set] at this
  all_goals first | (rw [upd_ne _ _ (by omega)]; first | assumption | exact hb j hj) 
theorem Dm.set70 (h : Dm w B s hi fi ct kn y g) (x : Nat) : Dm (w.setCell ⟨B, 70, none⟩ (.int .i64 (x : Int))) B s hi fi ct x y g := by
  obtain ⟨f, hf, h0, h1, hb, h2, h3, h4, h5⟩ := h.ex
  refine ⟨upd f 70 (.int .i64 (x : Int)), ?_, ?_, ?_, fun j hj => ?_, ?_, ?_, upd_same _ _ _, ?_⟩
  · have := hf.set 70 (.int .i64 (x : Int)); rwa [cz_set] at this
  all_goals first | (rw [upd_ne _ _ (by omega)]; first | assumption | exact hb j hj) 
theorem Dm.set71 (h : Dm w B s hi fi ct kn y g) (x : Nat) : Dm (w.setCell ⟨B, 71, none⟩ (.int .i64 (x : Int))) B s hi fi ct kn x g := by
  obtain ⟨f, hf, h0, h1, hb, h2, h3, h4, h5⟩ := h.ex
  refine ⟨upd f 71 (.int .i64 (x : Int)), ?_, ?_, ?_, fun j hj => ?_, ?_, ?_, ?_, upd_same _ _ _⟩
  · have := hf.set 71 (.int .i64 (x : Int)); rwa [cz_set] at this
  all_goals first | (rw [upd_ne _ _ (by omega)]; first | assumption | exact hb j hj) 
end
theorem wr_id (z : Int) (h0 : 0 ≤ z) (h1 : z < 9223372036854775808) : IntKind.i64.wrap z = z := by rw [IntKind.wrap_i64]; omega
section
variable {B s hi fi ct kn y : Nat} {g : Nat → Nat}
theorem add_c (x : Nat) (hf : fi < 66) (hc : ct < 66) (w : World) (h : Dm w B s hi fi ct kn y g) : Calls Try.prog 29 #[.pointer (some ⟨B, 2, none⟩), .int .u8 x] w fun e w' => e = .returned (.tuple #[]) ∧ Dm w' B s hi fi (ct + 1) kn y (updn g ((fi + ct) % 66) x) ∧ Only B w w' := by
  obtain ⟨q, hq⟩ : ∃ q, (fi + ct) % 66 = q := ⟨_, rfl⟩
  have hq66 : q < 66 := by omega
  have c1 := h.c68
  have c2 := h.c69
  have cb := h.cb hq66
  have z1 := h.fz 68
  have z2 := h.fz 69
  have z3 := h.fz (2 + q)
  rw [hq]
  have hA : Aside (Dm w B s hi fi ct kn y g ∧ q < 66 ∧ fi < 66 ∧ ct < 66) := ⟨h, hq66, hf, hc⟩
  have hm : (((fi : Int) + (ct : Int))).tmod 66 = (q : Int) := by rw [Int.tmod_eq_emod_of_nonneg (by omega)]; omega
  have hqI : (q : Int) < 66 := by omega
  have hw : ∀ z : Int, z = (fi : Int) + (ct : Int) → IntKind.i64.wrap z = z := fun z hz => wr_id z (by omega) (by omega)
  have hcI : (ct : Int) < 66 := by omega
  clear h hq hf hc
  go_enter Try.func29, Try.ntmps29
  go_upto_region 0 with fail
  go_region
  have h2 := (hA.out.1.setb hA.out.2.1 x).drew
  have o2 : Only B w ((w.setCell ⟨B, 2 + q, none⟩ (.int .u8 (x : Int))).drew) := ((Only.refl B w).setCell _ _).drew
  obtain ⟨w2, hw2⟩ : ∃ w2, (w.setCell ⟨B, 2 + q, none⟩ (.int .u8 (x : Int))).drew = w2 := ⟨_, rfl⟩
  rw [hw2] at h2 o2 ⊢
  have d2 := h2.c69
  have y2 := h2.fz 69
  have hB : Aside (Dm w2 B s hi fi ct kn y (updn g q x) ∧ Only B w w2) := ⟨h2, o2⟩
  clear c1 c2 cb z1 z2 z3 h2 o2 hw2 hm hw
  go_wp2_with fail
  first | go_end0 | (refine bodyPost_ret (results_none rfl _ _ _) rfl ?_)
  exact ⟨rfl, hB.out.1.set69 (ct + 1), hB.out.2.setCell _ _⟩
theorem drop_c (w : World) (h : Dm w B s hi fi ct kn y g) : Calls Try.prog 21 #[.pointer (some ⟨B, 2, none⟩)] w fun e w' => e = .returned (.tuple #[]) ∧ Dm w' B s hi fi kn kn y g ∧ Only B w w' := by
  have c1 := h.c69
  have c2 := h.c70
  have z1 := h.fz 69
  have hA : Aside (Dm w B s hi fi ct kn y g) := h
  clear h
  go_enter Try.func21, Try.ntmps21
  go_wp2_with fail
  first | go_end0 | (refine bodyPost_ret (results_none rfl _ _ _) rfl ?_)
  exact ⟨rfl, hA.out.set69 kn, (Only.refl B w).setCell _ _⟩
theorem wait_c (x : Nat) (hf : fi < 66) (hc : ct < 66) (hk : kn ≤ ct) (w : World) (h : Dm w B s hi fi ct kn y g) : Calls Try.prog 27 #[.pointer (some ⟨B, 2, none⟩), .int .u8 x] w fun e w' => e = .returned (.tuple #[]) ∧ Dm w' B s hi fi (ct + 1) (if 64 < ct + 1 - kn then kn + 1 else kn) y (updn g ((fi + ct) % 66) x) ∧ Only B w w' := by
  have hadd := add_c x hf hc w h
  obtain ⟨g2, hg2⟩ : ∃ g2, updn g ((fi + ct) % 66) x = g2 := ⟨_, rfl⟩
  rw [hg2] at hadd ⊢
  obtain ⟨d, hd⟩ : ∃ d, ct + 1 - kn = d := ⟨_, rfl⟩
  rw [hd]
  obtain ⟨k2, hk2⟩ : ∃ k2, (if 64 < d then kn + 1 else kn) = k2 := ⟨_, rfl⟩
  rw [hk2]
  have hk2 : Aside ((if 64 < d then kn + 1 else kn) = k2) := hk2
  obtain ⟨m, hm⟩ : ∃ m, ct + 1 = m := ⟨_, rfl⟩
  rw [hm] at hadd ⊢
  have hk66 : (kn : Int) < 66 := by omega
  have hsub : (m : Int) - (kn : Int) = (d : Int) := by omega
  have hdI : (d : Int) < 70 := by omega
  clear h hg2 hc hf hk hd hm
  go_enter Try.func27, Try.ntmps27
  go_upto_region 1 with (go_at_call 29; refine hadd.mono ?_; rintro e1 w1 ⟨rfl, h1, o1⟩)
  have c1 := h1.c69
  have c2 := h1.c70
  have z2 := h1.fz 70
  have hA : Aside (Dm w1 B s hi fi m kn y g2 ∧ Only B w w1) := ⟨h1, o1⟩
  clear h1 o1 hadd
  have hw : ∀ z : Int, z = (d : Int) → IntKind.i64.wrap z = z := fun z hz => wr_id z (by omega) (by omega)
  by_cases h64 : 64 < d
  · have t1 : ((64 : Int) < (d : Int)) = True := eq_true (by omega)
    have t2 : (64 < d) = True := eq_true h64
    go_quiet (fail)
    go_wp2_with fail
    first | go_end0 | (refine bodyPost_ret (results_none rfl _ _ _) rfl ?_)
    have hk3 := hk2.out
    rw [if_pos h64] at hk3
    exact ⟨rfl, by rw [← hk3]; exact (hA.out.1.drewN _).set70 (kn + 1), (hA.out.2.drewN _).setCell _ _⟩
  · have t1 : ((64 : Int) < (d : Int)) = False := eq_false (by omega)
    have t2 : (64 < d) = False := eq_false h64
    go_quiet (fail)
    go_wp2_with fail
    first | go_end0 | (refine bodyPost_ret (results_none rfl _ _ _) rfl ?_)
    have hk3 := hk2.out
    rw [if_neg h64] at hk3
    exact ⟨rfl, by rw [← hk3]; exact hA.out.1.drewN _, hA.out.2.drewN _⟩
theorem know0_c (w : World) (h : Dm w B s hi fi ct kn y g) : Calls Try.prog 20 #[.pointer (some ⟨B, 2, none⟩), .slice none 0 0] w fun e w' => e = .returned (.tuple #[]) ∧ Dm w' B s hi fi ct ct y g ∧ Only B w w' := by
  have c1 := h.c69
  have c2 := h.c70
  have z1 := h.fz 70
  have hA : Aside (Dm w B s hi fi ct kn y g) := h
  clear h
  go_enter Try.func20, Try.ntmps20
  go_wp2_with fail
  go_loopg [5, 8] 0 (fun gg s5 s8 wr => s8 = .int .i64 0 ∧ wr = w)
  case atStart => exact ⟨rfl, rfl⟩
  case round =>
    obtain ⟨rfl, hw⟩ := hrel
    have hw := hw.symm
    subst hw
    go_wp2_with fail
    first | go_end0 | (refine bodyPost_ret (results_none rfl _ _ _) rfl ?_)
    exact ⟨rfl, hA.out.set70 ct, (Only.refl B w).setCell _ _⟩
theorem know1_c (x F : Nat) (hf : fi < 66) (hc : ct < 66) (w : World) (hx : w.cell? ⟨F, 0, none⟩ = some (.int .u8 x)) (hF : F ≠ B) (h : Dm w B s hi fi ct kn y g) : Calls Try.prog 20 #[.pointer (some ⟨B, 2, none⟩), .slice (some ⟨F, 0, none⟩) 1 1] w fun e w' => e = .returned (.tuple #[]) ∧ Dm w' B s hi fi (ct + 1) (ct + 1) y (updn g ((fi + ct) % 66) x) ∧ Only B w w' := by
  have hadd := add_c x hf hc w h
  obtain ⟨g2, hg2⟩ : ∃ g2, updn g ((fi + ct) % 66) x = g2 := ⟨_, rfl⟩
  rw [hg2] at hadd ⊢
  obtain ⟨m, hm⟩ : ∃ m, ct + 1 = m := ⟨_, rfl⟩
  rw [hm] at hadd ⊢
  clear h hg2 hc hf hm
  go_enter Try.func20, Try.ntmps20
  go_wp2_with fail
  go_loopg [5, 8] 1 (fun gg s5 s8 wr => (gg = 1 ∧ s8 = .int .i64 0 ∧ wr = w) ∨ (gg = 0 ∧ s8 = .int .i64 1 ∧ Dm wr B s hi fi m kn y g2 ∧ Only B w wr))
  case atStart => exact Or.inl ⟨rfl, rfl, rfl⟩
  case round =>
    rcases hrel with ⟨hg, rfl, hw⟩ | ⟨hg, rfl, h2, o2⟩
    · have hw := hw.symm
      subst hw
      go_wp2_with (go_at_call 29; refine hadd.mono ?_; rintro e1 w1 ⟨rfl, h1, o1⟩)
      go_roundg 0
      case measure => omega
      case rel => exact Or.inr ⟨rfl, rfl, h1, o1⟩
    · have c1 := h2.c69
      have c2 := h2.c70
      have z1 := h2.fz 70
      have hA : Aside (Dm wr B s hi fi m kn y g2 ∧ Only B w wr) := ⟨h2, o2⟩
      clear h2 o2 hadd hx
      go_wp2_with fail
      first | go_end0 | (refine bodyPost_ret (results_none rfl _ _ _) rfl ?_)
      exact ⟨rfl, hA.out.1.set70 m, hA.out.2.setCell _ _⟩
theorem take_c (hf : fi < 66) (hc : ct < 66 + 1) (hk0 : 0 < kn) (hk : kn ≤ ct) (w : World) (h : Dm w B s hi fi ct kn y g) : Calls Try.prog 28 #[.pointer (some ⟨B, 2, none⟩)] w fun e w' => e = .returned (.int .u8 (g fi : Nat)) ∧ Dm w' B s hi ((fi + 1) % 66) (ct - 1) (kn - 1) y g ∧ Only B w w' := by
  obtain ⟨q, hq⟩ : ∃ q, (fi + 1) % 66 = q := ⟨_, rfl⟩
  obtain ⟨x, hx⟩ : ∃ x, g fi = x := ⟨_, rfl⟩
  have c1 := h.c68
  have c2 := h.c69
  have c3 := h.c70
  have cb := h.cb hf
  have z1 := h.fz 68
  have z2 := h.fz 69
  have z3 := h.fz 70
  rw [hq, hx]
  rw [hx] at cb
  have hm : ((fi : Int) + 1).tmod 66 = (q : Int) := by rw [Int.tmod_eq_emod_of_nonneg (by omega)]; omega
  have hfI : (fi : Int) < 66 := by omega
  have hk1 : (kn : Int) - 1 = ((kn - 1 : Nat) : Int) := by omega
  have hc1 : (ct : Int) - 1 = ((ct - 1 : Nat) : Int) := by omega
  obtain ⟨k1, hk1e⟩ : ∃ k1, kn - 1 = k1 := ⟨_, rfl⟩
  obtain ⟨n1, hn1e⟩ : ∃ n1, ct - 1 = n1 := ⟨_, rfl⟩
  rw [hk1e] at hk1 ⊢
  rw [hn1e] at hc1 ⊢
  have hkI : (k1 : Int) < 66 := by omega
  have hnI : (n1 : Int) < 66 := by omega
  have hA : Aside (Dm w B s hi fi ct kn y g) := h
  clear h hq hx hf hc hk0 hk hk1e hn1e
  go_enter Try.func28, Try.ntmps28
  go_upto_region 1 with fail
  go_quiet (fail)
  have hD := hA.out.drewN 1
  go_wp2_with fail
  go_ret
  exact ⟨rfl, ((hA.out.drewN _).set68 q |>.set69 n1 |>.set70 k1), ((((Only.refl B w).drewN _).setCell _ _).setCell _ _).setCell _ _⟩
end
end Go.Proofs.Ytapljkenmgdkmab

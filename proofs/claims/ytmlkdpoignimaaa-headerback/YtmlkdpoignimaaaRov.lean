/-
  The document's over: the values without blanks at their ends.
-/
import Derived.Test.YtmlkdpoignimaaaRln
import Derived.Deep.RegionWith
namespace Go.Proofs.Ytmlkdpoignimaaa
open Go.RowKit
set_option linter.unusedVariables false
theorem Cells.ne {w : World} {a b : Nat} {cs ds : Array Value} {t u : TypeId} (h : Cells w a cs t) (k : Cells w b ds u) (ht : t ≠ u) : a ≠ b := fun e => by
  subst e
  unfold Cells at h k
  rw [h] at k
  cases k
  exact ht rfl
theorem size30 : (Try.prog.info? 30).map (·.size) = some 3 := by kernel_rfl
/-- What over leaves: rows of fields from lo on alone may have turned. -/
structure Ro (lo : Nat) (w w' : World) : Prop where
  bel : Below lo w w'
  kp : ∀ b cs t, t ≠ 43 → Cells w b cs t → Cells w' b cs t
/-- So far. -/
def sofar (F : List Fd) (k : Nat) : List Fd := told (F.take k) ++ F.drop k
theorem sofar_len (F : List Fd) (k : Nat) : (sofar F k).length = F.length := by simp [sofar, told]; omega
theorem sofar_get {F : List Fd} {k : Nat} {f : Fd} (h : F[k]? = some f) : (sofar F k)[k]? = some f := by
  have hk := (List.getElem?_eq_some_iff.1 h).1
  unfold sofar
  rw [List.getElem?_append_right (by rw [told_length, List.length_take]; omega), told_length, List.length_take, Nat.min_eq_left (by omega), Nat.sub_self, List.getElem?_drop, Nat.add_zero, h]
theorem sofar_set {F : List Fd} {k : Nat} {f : Fd} (h : F[k]? = some f) : (fc (sofar F k)).set (k * 2 + 1) (.string (st (trm f.2))) = fc (sofar F (k + 1)) := by
  have hk := (List.getElem?_eq_some_iff.1 h).1
  have e1 : sofar F k = told (F.take k) ++ f :: F.drop (k + 1) := by
    unfold sofar
    obtain ⟨h1, h2⟩ := List.getElem?_eq_some_iff.1 h
    rw [List.drop_eq_getElem_cons h1, h2]
  have e2 : sofar F (k + 1) = told (F.take k) ++ (f.1, trm f.2) :: F.drop (k + 1) := by
    unfold sofar
    rw [take_one h]
    simp [told]
  have hl : (fc (told (F.take k))).length = k * 2 := by rw [fc_length, told_length, List.length_take, Nat.min_eq_left (by omega)]
  rw [e1, e2, fc_append, fc_append, List.set_append_right _ _ (by omega), hl]
  simp [fc]
theorem sofar_end (F : List Fd) : sofar F F.length = told F := by simp [sofar]
theorem sofar_zero (F : List Fd) : sofar F 0 = F := by simp [sofar, told]
set_option maxHeartbeats 2000000 in
theorem rover_c {w : World} {lo y t n : Nat} {vf : Value} {F : List Fd} (how : Ow w lo 43 2 vf n (fc F)) (hn : F.length = n) (hnb : n ≤ 64) (hFo : OctF F) (hFb : ∀ f ∈ F, f.2.length < 1000000) : Calls Try.prog 27 #[.agg #[vf, .int .i64 (y : Int), .int .i64 (t : Int)]] w fun e w' => e = .returned (.agg #[vf, .int .i64 (y : Int), .int .i64 (t : Int)]) ∧ Ow w' lo 43 2 vf n (fc (told F)) ∧ Ro lo w w' := by
  obtain ⟨va, vc, hv, hvc, hq, _⟩ := how.shape
  obtain ⟨H, hH⟩ : ∃ H, w.heap.size = H := ⟨_, rfl⟩
  obtain ⟨w1, hw1⟩ : ∃ w1, w1 = (w.alloc (.cells #[vf, .int .i64 (y : Int), .int .i64 (t : Int)] 30)).alloc (.cells #[.slice none 0 0, .int .i64 0, .int .i64 0] 30) := ⟨_, rfl⟩
  have z1 : ∀ (W : World) (o : Obj), (W.alloc o).heap.size = W.heap.size + 1 := fun W o => by show (W.heap.push o).size = _; simp
  have b1 : Below w.heap.size w w1 := by rw [hw1]; exact ((Below.refl _ w).alloc (Nat.le_refl _) _).alloc (by rw [z1]; omega) _
  have kX : Cells w1 H #[vf, .int .i64 (y : Int), .int .i64 (t : Int)] 30 := by rw [hw1, ← hH]; exact (Cells.new w _ 30).alloc _
  have kR : Cells w1 (H + 1) #[.slice none 0 0, .int .i64 0, .int .i64 0] 30 := by
    have := Cells.new (w.alloc (.cells #[vf, .int .i64 (y : Int), .int .i64 (t : Int)] 30)) #[.slice none 0 0, .int .i64 0, .int .i64 0] 30
    rw [z1, hH] at this
    rw [hw1]; exact this
  have A : Aside (F.length = n ∧ OctF F ∧ (∀ f ∈ F, f.2.length < 1000000) ∧ w.heap.size = H ∧ n ≤ 64 ∧ lo ≤ w.heap.size) := ⟨hn, hFo, hFb, hH, hnb, how.le⟩
  have AI : Aside (Cells w1 H #[vf, .int .i64 (y : Int), .int .i64 (t : Int)] 30 ∧ Cells w1 (H + 1) #[.slice none 0 0, .int .i64 0, .int .i64 0] 30 ∧ Ow w1 lo 43 2 vf n (fc (sofar F 0)) ∧ Below lo w w1 ∧ ∀ b cs t, b < H → t ≠ 43 → Cells w b cs t → Cells w1 b cs t) := ⟨kX, kR, by rw [sofar_zero]; exact how.below b1 (Nat.le_refl _), b1.mono how.le, fun b cs t hb ht hc => hc.below b1 (by omega)⟩
  have AV : Aside (vf = .slice va n vc ∧ n ≤ vc) := ⟨hv, hvc⟩
  have hvs := hv
  clear how hn hFo hFb hnb hvc hq b1 kX kR hv
  go_enter Try.func27, Try.ntmps27
  go_upto_region 1 with fail
  subst hvs
  rw [← hw1]
  clear hw1 z1
  go_wp2_with fail
  go_loopg [3] n (fun gg s3 wr => ∃ k : Nat, s3 = .int .i64 k ∧ Aside (k + gg = n ∧ Cells wr H #[.slice va n vc, .int .i64 (y : Int), .int .i64 (t : Int)] 30 ∧ Cells wr (H + 1) #[.slice none 0 0, .int .i64 0, .int .i64 0] 30 ∧ Ow wr lo 43 2 (.slice va n vc) n (fc (sofar F k)) ∧ Below lo w wr ∧ ∀ b cs t, b < H → t ≠ 43 → Cells w b cs t → Cells wr b cs t))
  case atStart => exact ⟨0, rfl, by omega, AI.out.1, AI.out.2.1, AI.out.2.2.1, AI.out.2.2.2.1, AI.out.2.2.2.2⟩
  case round =>
    obtain ⟨k, rfl, hI⟩ := hrel
    obtain ⟨hkg, kX, kR, how, hbel, hkp⟩ := hI.out
    have a0 := A.out
    have d0 : wr.cell? ⟨H, 0, none⟩ = some (.slice va n vc) := by rw [kX.cell]; rfl
    have d1 : wr.cell? ⟨H, 1, none⟩ = some (.int .i64 (y : Int)) := by rw [kX.cell]; rfl
    have d2 : wr.cell? ⟨H, 2, none⟩ = some (.int .i64 (t : Int)) := by rw [kX.cell]; rfl
    by_cases hk : k < n
    · have hki : ((k : Int) < (n : Int)) = True := eq_true (by omega)
      have hkn : (k < n) = True := eq_true hk
      have hkb : (k : Int) < 64 := by omega
      obtain ⟨f, hf⟩ : ∃ f, F[k]? = some f := ⟨_, List.getElem?_eq_getElem (by omega)⟩
      have hfm := List.mem_of_getElem? hf
      obtain ⟨va', vc', hv', hvc', hq, _⟩ := how.shape
      obtain ⟨g, hva, hlg, ⟨cur, hcur⟩, hcell, hfz⟩ : ∃ g, va = some ⟨g, 0, none⟩ ∧ lo ≤ g ∧ (∃ cs, wr.heap[g]? = some (.cells cs 43 (0, 0))) ∧ (∀ i x, (fc (sofar F k))[i]? = some x → wr.cell? ⟨g, i, none⟩ = some x) ∧ ∀ i, wr.frozen? ⟨g, i, none⟩ = false := by
        injection hv' with e1 _ _
        rcases hq with h0 | h0
        · omega
        · rw [e1]; exact h0
      have hcg : Cells wr g cur 43 := hcur
      have cv := hcell _ _ (fc_get (sofar_get hf)).2
      have fv := hfz (k * 2 + 1)
      subst hva
      have htr := fun W => rtrim_c f.2 (a0.2.1 f hfm).2 (by have := a0.2.2.1 f hfm; omega) W
      have hvcn := AV.out.2
      have A2 : Aside (k + gk = n ∧ k < n ∧ Cells (wr.setCell ⟨g, k * 2 + 1, none⟩ (.string (st (trm f.2)))).drew H #[.slice (some ⟨g, 0, none⟩) n vc, .int .i64 (y : Int), .int .i64 (t : Int)] 30 ∧ Cells (wr.setCell ⟨g, k * 2 + 1, none⟩ (.string (st (trm f.2)))).drew (H + 1) #[.slice none 0 0, .int .i64 0, .int .i64 0] 30 ∧ Ow (wr.setCell ⟨g, k * 2 + 1, none⟩ (.string (st (trm f.2)))).drew lo 43 2 (.slice (some ⟨g, 0, none⟩) n vc) n (fc (sofar F (k + 1))) ∧ Below lo w (wr.setCell ⟨g, k * 2 + 1, none⟩ (.string (st (trm f.2)))).drew ∧ ∀ b cs t, b < H → t ≠ 43 → Cells w b cs t → Cells (wr.setCell ⟨g, k * 2 + 1, none⟩ (.string (st (trm f.2)))).drew b cs t) := by
        have hot : ∀ b cs t, t ≠ 43 → Cells wr b cs t → Cells (wr.setCell ⟨g, k * 2 + 1, none⟩ (.string (st (trm f.2)))).drew b cs t := fun b cs t ht hc => (hc.only ((Only.refl _ _).setCell _ _) (hc.ne hcg ht)).drew
        refine ⟨hkg, hk, hot _ _ _ (by decide) kX, hot _ _ _ (by decide) kR, Ow.drew ⟨?_, by simp [World.setCell]; exact how.le⟩, (hbel.setCell hlg _).drew, fun b cs t hb ht hc => hot b cs t ht (hkp b cs t hb ht hc)⟩
        have := (how.own.stored (k * 2 + 1) (.string (st (trm f.2)))).1
        rw [sofar_set hf] at this
        exact this
      obtain ⟨u1, hu1⟩ : ∃ u1, st f.2 = u1 := ⟨_, rfl⟩
      obtain ⟨u2, hu2⟩ : ∃ u2, st (trm f.2) = u2 := ⟨_, rfl⟩
      rw [hu1, hu2] at htr
      rw [hu1] at cv
      rw [hu2] at A2
      clear hI hkg kX kR how hbel hkp a0 hf hfm hv' hvc' hq hcur hcell hfz hcg hu1 hu2 hk
      go_wp2_with fail
      go_region_with (go_at_call 23; refine (htr _).mono ?_; rintro e3 w3 ⟨rfl, rfl⟩)
      all_goals
        go_wp2_with fail
        have a2 := A2.out
        go_roundg (gk - 1)
        case measure => omega
        case rel => exact ⟨k + 1, by go_num, by omega, a2.2.2.1, a2.2.2.2.1, a2.2.2.2.2.1, a2.2.2.2.2.2.1, a2.2.2.2.2.2.2⟩
    · have hki : ((k : Int) < (n : Int)) = False := eq_false (by omega)
      have hkn : (k < n) = False := eq_false hk
      have e0 : wr.cell? ⟨H + 1, 0, none⟩ = some (.slice none 0 0) := by rw [kR.cell]; rfl
      have e1 : wr.cell? ⟨H + 1, 1, none⟩ = some (.int .i64 0) := by rw [kR.cell]; rfl
      have e2 : wr.cell? ⟨H + 1, 2, none⟩ = some (.int .i64 0) := by rw [kR.cell]; rfl
      have f0 := kR.frozen 0
      have f1 := kR.frozen 1
      have f2 := kR.frozen 2
      have AE : Aside (Cells wr (H + 1) #[.slice none 0 0, .int .i64 0, .int .i64 0] 30 ∧ Ow wr lo 43 2 (.slice va n vc) n (fc (told F)) ∧ Below lo w wr ∧ (∀ b cs t, b < H → t ≠ 43 → Cells w b cs t → Cells wr b cs t) ∧ w.heap.size = H ∧ lo ≤ w.heap.size) := ⟨kR, by rw [← sofar_end, show F.length = k by omega]; exact how, hbel, hkp, a0.2.2.2.1, a0.2.2.2.2.2⟩
      clear hI hkg kX kR how hbel hkp a0 hk
      go_wp2_with fail
      have ae := AE.out
      have s0 := ae.1.set 0 (.slice va n vc)
      have s1 := s0.set 1 (.int .i64 (y : Int))
      have s2 := s1.set 2 (.int .i64 (t : Int))
      refine bodyPost_ret (v := .agg #[.slice va n vc, .int .i64 (y : Int), .int .i64 (t : Int)]) ?_ rfl ?_
      · exact results_cell_row rfl _ _ (H + 1) 30 _ (0, 0) _ rfl s2 Try.underlying30 rfl size30
      · refine ⟨rfl, ((ae.2.1.set ae.1 (by decide)).set s0 (by decide)).set s1 (by decide), ⟨((ae.2.2.1.setCell (by show lo ≤ H + 1; omega) _).setCell (by show lo ≤ H + 1; omega) _).setCell (by show lo ≤ H + 1; omega) _, fun b cs t' ht hc => ?_⟩⟩
        have hb : b < H := by have := hc.lt; omega
        have h1 := ae.2.2.2.1 b cs t' hb ht hc
        exact ((h1.only ((Only.refl _ _).setCell _ _) (by omega)).only ((Only.refl _ _).setCell _ _) (by omega)).only ((Only.refl _ _).setCell _ _) (by omega)
end Go.Proofs.Ytmlkdpoignimaaa

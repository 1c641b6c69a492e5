/-
  What the document's Of comes to.
-/
import Derived.Test.YtmlkdpoignimaaaRov
namespace Go.Proofs.Ytmlkdpoignimaaa
open Go.RowKit
set_option linter.unusedVariables false
theorem Ow.fl {w : World} {lo n : Nat} {v : Value} {T : List Fd} (h : Ow w lo 43 2 v n (fc T)) (hn : T.length = n) : FL w v T := by
  obtain ⟨a, c, hv, hc, hq, _⟩ := h.shape
  refine ⟨a, c, by rw [hv, hn], ?_⟩
  rcases hq with h0 | ⟨g, ha, _, _, hx, _⟩
  · exact Or.inl (List.eq_nil_of_length_eq_zero (by omega))
  · refine Or.inr ⟨g, 0, ha, fun i f hf => ?_⟩
    rw [Nat.zero_add]
    exact ⟨hx _ _ (fc_get hf).1, hx _ _ (fc_get hf).2⟩
theorem flat_mem {F : List Fd} {f : Fd} (h : f ∈ F) : f.2.length ≤ (flat F).length ∧ f.1.length ≤ (flat F).length ∧ (Oct (flat F) → Oct f.1 ∧ Oct f.2) := by
  obtain ⟨i, hi⟩ := List.getElem?_of_mem h
  have e := flat_at hi
  refine ⟨by rw [e]; simp; omega, by rw [e]; simp; omega, fun ho => ?_⟩
  rw [e] at ho
  have h1 := ho.left.right
  exact ⟨h1.left, fun x hx => h1.right x (by simp [hx])⟩
theorem flat_octF {F : List Fd} (h : Oct (flat F)) : OctF F := fun f hf => (flat_mem hf).2.2 h
/-- What Of answers. -/
def OfTo (l : List Nat) (most : Nat) (w : World) (e : Ending) (w' : World) : Prop :=
  ∃ vf, e = .returned (.agg #[vf, .int .i64 ((rn most 0 [] [] l).why : Nat), .int .i64 ((rn most 0 [] [] l).at_ : Nat)]) ∧ FL w' vf (told (rn most 0 [] [] l).fs) ∧ Ow w' w.heap.size 43 2 vf (rn most 0 [] [] l).fs.length (fc (told (rn most 0 [] [] l).fs)) ∧ Below w.heap.size w w'
/-- Where the loop stands. -/
structure Oi (w w0 : World) (H most L : Nat) (l : List Nat) (R : Out) (k f0 : Nat) (vf : Value) (F : List Fd) : Prop where
  rr : Rr w H (H + 1) L vf F
  res : Cells w H #[.slice none 0 0, .int .i64 0, .int .i64 0] 30
  bel : Below H w0 w
  run : rn most k F ((l.take k).drop f0) (l.drop k) = R
  km : k ≤ most
  fk : f0 ≤ k
  f64 : F.length ≤ 64
  ff : (flat F).length ≤ f0
  oct : Oct (flat F)
theorem zero_res {w : World} {H : Nat} (h : Cells w H #[.slice none 0 0, .int .i64 0, .int .i64 0] 30) : w.cell? ⟨H, 0, none⟩ = some (.slice none 0 0) ∧ w.cell? ⟨H, 1, none⟩ = some (.int .i64 0) ∧ w.cell? ⟨H, 2, none⟩ = some (.int .i64 0) ∧ w.frozen? ⟨H, 0, none⟩ = false ∧ w.frozen? ⟨H, 1, none⟩ = false ∧ w.frozen? ⟨H, 2, none⟩ = false :=
  ⟨by rw [h.cell]; rfl, by rw [h.cell]; rfl, by rw [h.cell]; rfl, h.frozen _, h.frozen _, h.frozen _⟩
/-- The result's cells written. -/
theorem res_set {w : World} {H : Nat} (h : Cells w H #[.slice none 0 0, .int .i64 0, .int .i64 0] 30) (v : Value) (y t : Int) : Cells (((w.setCell ⟨H, 0, none⟩ v).setCell ⟨H, 1, none⟩ (.int .i64 y)).setCell ⟨H, 2, none⟩ (.int .i64 t)) H #[v, .int .i64 y, .int .i64 t] 30 :=
  ((h.set 0 v).set 1 (.int .i64 y)).set 2 (.int .i64 t)
theorem res_bel {w w0 : World} {H : Nat} (h : Below H w0 w) (v : Value) (y t : Int) : Below H w0 (((w.setCell ⟨H, 0, none⟩ v).setCell ⟨H, 1, none⟩ (.int .i64 y)).setCell ⟨H, 2, none⟩ (.int .i64 t)) :=
  ((h.setCell (Nat.le_refl _) _).setCell (Nat.le_refl _) _).setCell (Nat.le_refl _) _
/-- What over comes to, as Of calls it: the fields told, the result's block as it was. -/
def OvTo (w0 : World) (H y t : Nat) (F : List Fd) (vf : Value) (e : Ending) (w' : World) : Prop :=
  e = .returned (.agg #[vf, .int .i64 (y : Int), .int .i64 (t : Int)]) ∧ Cells w' H #[.slice none 0 0, .int .i64 0, .int .i64 0] 30 ∧ Ow w' H 43 2 vf F.length (fc (told F)) ∧ Below H w0 w'
theorem ov_c {w w0 : World} {H y t : Nat} {vf : Value} {F : List Fd} (how : Ow w H 43 2 vf F.length (fc F)) (hres : Cells w H #[.slice none 0 0, .int .i64 0, .int .i64 0] 30) (hbel : Below H w0 w) (h64 : F.length ≤ 64) (ho : Oct (flat F)) (hb : (flat F).length < 1000000) : Calls Try.prog 27 #[.agg #[vf, .int .i64 (y : Int), .int .i64 (t : Int)]] w fun e w' => OvTo w0 H y t F vf e w' := by
  refine (rover_c how rfl h64 (flat_octF ho) (fun f hf => by have := (flat_mem hf).1; omega)).mono ?_
  rintro e w' ⟨he, h1, h2⟩
  exact ⟨he, h2.kp _ _ _ (by decide) hres, h1, hbel.trans h2.bel⟩
theorem ov_fl {w w0 : World} {H y t : Nat} {F : List Fd} {vf : Value} (hres : Cells w H #[.slice none 0 0, .int .i64 0, .int .i64 0] 30) (how : Ow w H 43 2 vf F.length (fc (told F))) (y t : Int) : FL (((w.setCell ⟨H, 0, none⟩ vf).setCell ⟨H, 1, none⟩ (.int .i64 y)).setCell ⟨H, 2, none⟩ (.int .i64 t)) vf (told F) := by
  have s0 := hres.set 0 vf
  have s1 := s0.set 1 (.int .i64 y)
  exact Ow.fl (((how.set hres (by decide)).set s0 (by decide)).set s1 (by decide)) (told_length F)
theorem ov_ow {w : World} {H : Nat} {F : List Fd} {vf : Value} (hres : Cells w H #[.slice none 0 0, .int .i64 0, .int .i64 0] 30) (how : Ow w H 43 2 vf F.length (fc (told F))) (y t : Int) : Ow (((w.setCell ⟨H, 0, none⟩ vf).setCell ⟨H, 1, none⟩ (.int .i64 y)).setCell ⟨H, 2, none⟩ (.int .i64 t)) H 43 2 vf F.length (fc (told F)) := by
  have s0 := hres.set 0 vf
  have s1 := s0.set 1 (.int .i64 y)
  exact ((how.set hres (by decide)).set s0 (by decide)).set s1 (by decide)
section
variable {w w0 : World} {H most L k f0 : Nat} {l : List Nat} {R : Out} {vf : Value} {F : List Fd}
theorem Oi.step_x {x : Nat} (h : Oi w w0 H most L l R k f0 vf F) (hx : l[k]? = some x) (h10 : x ≠ 10) (hk : k < most) : Oi w w0 H most L l R (k + 1) f0 vf F := by
  refine ⟨h.rr, h.res, h.bel, ?_, by omega, by have := h.fk; omega, h.f64, h.ff, h.oct⟩
  have hr := h.run
  rw [drop_more hx, rn, if_neg (by omega), if_neg h10] at hr
  rw [← hr]
  congr 1
  rw [List.take_add_one, hx, List.drop_append_of_le_length (by have := (List.getElem?_eq_some_iff.1 hx).1; have := h.fk; rw [List.length_take]; omega)]
  rfl
theorem Oi.run10 (h : Oi w w0 H most L l R k f0 vf F) (hx : l[k]? = some 10) (hk : k < most) : R = (if d13 ((l.take k).drop f0) = [] then ⟨F, 0, k⟩ else if (lin F (d13 ((l.take k).drop f0))).1 = 0 then rn most (k + 1) (lin F (d13 ((l.take k).drop f0))).2 [] (l.drop (k + 1)) else ⟨[], (lin F (d13 ((l.take k).drop f0))).1, k⟩) := by
  have hr := h.run
  rw [drop_more hx, rn, if_neg (by omega), if_pos rfl] at hr
  exact hr.symm
theorem Oi.line_ok {w' : World} {s : List Nat} {vf' : Value} (hol : Oct l) (h : Oi w w0 H most L l R k f0 vf F) (hx : l[k]? = some 10) (hk : k < most) (hd : d13 ((l.take k).drop f0) = s) (hs : s ≠ []) (h0 : (lin F s).1 = 0) (hr : Rr w' H (H + 1) L vf' (lin F s).2) (hf : Rf H (H + 1) w w') : Oi w' w0 H most L l R (k + 1) (k + 1) vf' (lin F s).2 := by
  have hR := h.run10 hx hk
  rw [hd, if_neg hs, if_pos h0] at hR
  have hfl := flat_lin h0
  have hc : s.length ≤ k - f0 := by
    rw [← hd]
    refine Nat.le_trans (d13_len _) ?_
    simp; omega
  have hso : ∀ x ∈ s, x ∈ l := fun x hx => by
    rw [← hd] at hx
    unfold d13 at hx
    split at hx
    · exact List.mem_of_mem_take (List.mem_of_mem_drop (List.dropLast_subset _ hx))
    · exact List.mem_of_mem_take (List.mem_of_mem_drop hx)
  refine ⟨hr, hf.kp _ _ _ (by omega) (by decide) h.res, h.bel.trans hf.bel, ?_, by omega, Nat.le_refl _, lin_len h.f64, ?_, ?_⟩
  · rw [List.drop_eq_nil_of_le (by rw [List.length_take]; omega)]; exact hR.symm
  · rw [hfl, List.length_append]; have := h.ff; have := h.fk; omega
  · rw [hfl]; exact h.oct.append (fun x hx => hol x (hso x hx))
end
end Go.Proofs.Ytmlkdpoignimaaa

/-
  Own texts of this seat, one behind the other: what each says stands ahead of it.
-/
import Derived.Test.YtogednaamndpgaaGreatDoorMq
import Derived.Test.YtogednaamndpgaaGreatDoorMr
import Derived.Test.YtogednaamndpgaaGreatDoorMo
/-
  What the document's member leaves as it is; parts of its memory. No walk.
-/
namespace Go.Proofs.YtogednaamndpgaaGreatDoor
open Go.RowKit
set_option linter.unusedVariables false
/-- Events and what may still be given stay. -/
def Kee (r r' : Gr) : Prop := r'.left = r.left ∧ r'.ev = r.ev
theorem Kee.trans {a b c : Gr} (h : Kee a b) (k : Kee b c) : Kee a c := ⟨k.1.trans h.1, k.2.trans h.2⟩
section
variable {b : List Nat} {r : Gr}
theorem gnum_kee (n : Nat) : Kee r (gnum b n r) := by unfold gnum; split <;> exact ⟨rfl, rfl⟩
theorem gis_kee (v y : Nat) : Kee r (gis b v y r) := by
  unfold gis
  split
  · split
    · exact gnum_kee 1
    · exact gnum_kee 1
  · exact ⟨rfl, rfl⟩
theorem gz_kee (f : Nat) : ∀ (k m : Nat) (r : Gr), Kee r (gz b k f m r).1
  | 0, m, r => ⟨rfl, rfl⟩
  | k + 1, m, r => by
    rw [gz_succ]
    split
    · exact gnum_kee 1
    · split
      · exact gnum_kee 1
      · split
        · exact gnum_kee 1
        · exact (gnum_kee 1).trans (gz_kee f k (m + 1) _)
theorem gtext_kee : Kee r (gtext b r).1 := by
  unfold gtext
  split
  · exact gz_kee _ _ _ _
  · exact ⟨rfl, rfl⟩
theorem ghead_kee : Kee r (ghead b r).1 := by
  have k1 : Kee r (hmag b r) := ((gis_kee 31 40).trans (gis_kee 139 40)).trans (gis_kee 8 41)
  unfold ghead
  split
  · have k2 := k1.trans (gnum_kee (b := b) 1)
    obtain ⟨r1, hr1⟩ : ∃ r1, gnum b 1 (hmag b r) = r1 := ⟨_, rfl⟩
    obtain ⟨fl, hfl⟩ : ∃ fl, gval b 1 (hmag b r) = fl := ⟨_, rfl⟩
    rw [hr1] at k2 ⊢
    rw [hfl]
    unfold hres
    have k3 : Kee r1 (hflag fl r1) := by unfold hflag; split <;> exact ⟨rfl, rfl⟩
    have k4 : ∀ q : Gr, Kee q (hoth b q) := fun q => by unfold hoth; split; exact gnum_kee 6; exact ⟨rfl, rfl⟩
    have kx : ∀ (n : Nat) (q : Gr), Kee q (hxt b n (hxb n q)) := fun n q => by
      have h1 : Kee q (hxb n q) := by unfold hxb; split <;> exact ⟨rfl, rfl⟩
      refine h1.trans ?_
      unfold hxt; split; exact gnum_kee n; exact ⟨rfl, rfl⟩
    have k5 : ∀ q : Gr, Kee q (hext b fl q) := fun q => by
      unfold hext; split; exact (gnum_kee 2).trans (kx _ _); exact ⟨rfl, rfl⟩
    have k6 : ∀ q : Gr, Kee q (hnam b fl q).1 := fun q => by unfold hnam; split; exact gtext_kee; exact ⟨rfl, rfl⟩
    have k7 : ∀ q : Gr, Kee q (hcom b fl q) := fun q => by unfold hcom; split; exact gtext_kee; exact ⟨rfl, rfl⟩
    have k8 : ∀ (f : Nat) (q : Gr), Kee q (hsum b fl f q) := fun f q => by
      unfold hsum
      split
      · refine (gnum_kee (b := b) 2).trans ?_
        unfold hsb; split <;> exact ⟨rfl, rfl⟩
      · exact ⟨rfl, rfl⟩
    exact (((((k2.trans k3).trans (k4 _)).trans (k5 _)).trans (k6 _)).trans (k7 _)).trans (k8 _ _)
  · exact k1
theorem Op1.pos1 {s : Gs} {n : List Nat} (h : Op1 b r s n) : 1 ≤ r.pos := by
  cases hp : r.pos with
  | zero =>
    exfalso
    have := h.rch
    rw [hp] at this
    have h2 := this.2
    rw [List.take_zero] at h2
    have := h2.2
    simp at this
  | succ k => omega
theorem ghead_posL (h : r.pos ≤ b.length) : (ghead b r).1.pos ≤ b.length := by
  have k1 : (hmag b r).pos ≤ b.length := gis_pos 8 41 (gis_pos 139 40 (gis_pos 31 40 h))
  unfold ghead
  split
  · have k2 := gnum_pos b 1 _ k1
    unfold hres
    obtain ⟨fl, hfl⟩ : ∃ fl, gval b 1 (hmag b r) = fl := ⟨_, rfl⟩
    rw [hfl]
    have k3 := hcom_pos fl (hnam_pos fl (hext_pos fl (hoth_pos (hflag_pos fl k2))))
    show (hsum b fl r.pos _).pos ≤ b.length
    unfold hsum
    split
    · unfold hsb
      split
      · exact gnum_pos b 2 _ k3
      · exact gnum_pos b 2 _ k3
    · exact k3
  · exact k1
end
theorem slice_fn (b o L C f : Nat) (h1 : f ≤ L) (h2 : L ≤ C) (h3 : f ≠ C) (W : World) : (Instr.slice 22 (.slice (some ⟨b, o, none⟩) L C) (some (.int .i64 (f : Int))) none none).run Tryz.prog W = .ok (.slice (some ⟨b, o + f, none⟩) (L - f) (C - f)) W := by
  have hk1 : (f : Int) ≤ (L : Int) := by omega
  have hk2 : (L : Int) ≤ (C : Int) := by omega
  have hk0 : (0 : Int) ≤ (f : Int) := by omega
  have hk3 : (0 : Int) ≤ (L : Int) := by omega
  have hCk : ¬ C = f := by omega
  have hCk2 : ¬ (C : Int) = (f : Int) := by omega
  clear h1 h2 h3
  go_simp
theorem slice_fne (b o C : Nat) (W : World) : (Instr.slice 22 (.slice (some ⟨b, o, none⟩) C C) (some (.int .i64 (C : Int))) none none).run Tryz.prog W = .ok (.slice (some ⟨b, o, none⟩) 0 0) W := by
  have hk0 : (0 : Int) ≤ (C : Int) := by omega
  go_simp
/-- From a place on. -/
theorem cut_from (a : Option Addr) (l : List Nat) (L C f : Nat) (hL : l.length = L) (hLC : L ≤ C) (hf : f ≤ L) (haz : a = none → L = 0 ∧ C = 0) (w0 : World) (hl : Lies w0 a l) (h0 : l ≠ []) :
    ∃ a2, (∀ W : World, (Instr.slice 22 (.slice a L C) (some (.int .i64 (f : Int))) none none).run Tryz.prog W = .ok (.slice a2 (L - f) (C - f)) W) ∧ (∀ w, Lies w a l → Lies w a2 (l.drop f)) ∧ (a2 = none → L - f = 0 ∧ C - f = 0) := by
  rcases hl with e | ⟨b, o, rfl, _⟩
  · exact absurd e h0
  · by_cases hfC : f = C
    · have e : L = C := by omega
      subst e
      subst hfC
      refine ⟨some ⟨b, o, none⟩, fun W => by rw [Nat.sub_self]; exact slice_fne b o _ W, fun w _ => Or.inl (by rw [List.drop_eq_nil_iff]; omega), fun e => by cases e⟩
    · refine ⟨some ⟨b, o + f, none⟩, fun W => slice_fn b o L C f hf hLC hfC W, fun w hw => ?_, fun e => by cases e⟩
      rcases hw with rfl | ⟨b', o', e, hc⟩
      · exact Or.inl (by simp)
      · cases e
        refine Or.inr ⟨b, o + f, rfl, fun i x hx => ?_⟩
        rw [List.getElem?_drop] at hx
        have := hc (f + i) x hx
        rwa [← Nat.add_assoc] at this
section
variable {w u : World} {base Q L C R lo : Nat} {a oa ta : Option Addr} {oc tc : Nat} {z : Cfg}
/-- What is worked on keeps an inflated run. -/
theorem Rz.fr (h : Rz w base Q a L C z oa oc ta tc) (k : Fr lo R w u) (hR : R < base) : Rz u base Q a L C z oa oc ta tc := by
  obtain ⟨m, s, h1, h2⟩ := h.rn
  have keep : ∀ (g : Nat) (cs : Array Value) (ty : TypeId), base ≤ g → w.heap[g]? = some (.cells cs ty (0, 0)) → ty ≠ 59 → u.heap[g]? = w.heap[g]? := fun g cs ty hg hh ht => k.kp g (Array.getElem?_eq_some_iff.1 hh).1 (by omega) (fun cs' e => by rw [hh] at e; cases e; exact ht rfl)
  refine ⟨m, s, ⟨?_, ⟨h1.oo.1, ?_⟩, ⟨h1.ot.1, ?_⟩, h1.rb, h1.tl⟩, h2⟩
  · obtain ⟨f, hc⟩ := h1.cells
    refine ⟨f, ?_⟩
    unfold Cells at *
    rw [keep Q _ _ h1.rb hc (by decide)]; exact hc
  · rcases h1.oo.2 with q | ⟨g, c, cur, hv, hg, hh, q⟩
    · exact Or.inl q
    · exact Or.inr ⟨g, c, cur, hv, hg, (keep g _ _ hg hh (by decide)).trans hh, q⟩
  · rcases h1.ot.2 with q | ⟨g, c, cur, hv, hg, hh, q⟩
    · exact Or.inl q
    · exact Or.inr ⟨g, c, cur, hv, hg, (keep g _ _ hg hh (by decide)).trans hh, q⟩
end
end Go.Proofs.YtogednaamndpgaaGreatDoor

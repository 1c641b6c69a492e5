/-
  Put and End beside the document's run.
-/
import Derived.Test.YtmlkdpoignimaaaWholeCore
namespace Go.Proofs.Ytmlkdpoignimaaa
open Go.RowKit
set_option linter.unusedVariables false
/-- A reader, wherever it stands. -/
def Sr (w : World) (lo B most : Nat) : Prop := (∃ k F c, Rg w lo B most k F c) ∨ ∃ F y, Rx w lo B most F y
section
variable {w u : World} {lo B most k : Nat} {l : List Nat} {R : Out}
theorem Sr.of_nx {r : Nat × Bool × List Fd × List Nat} (h : Nx w lo B most k r) : Sr w lo B most := by
  unfold Nx at h
  split at h
  · rename_i e; exact Or.inr ⟨[], _, Or.inr ⟨e, rfl, h⟩⟩
  · split at h
    · exact Or.inr ⟨_, 0, Or.inl ⟨rfl, h⟩⟩
    · exact Or.inl ⟨_, _, _, h⟩
theorem Sr.drewN (h : Sr w lo B most) (n : Nat) : Sr (w.drewN n) lo B most := by
  rcases h with ⟨k, F, c, h⟩ | ⟨F, y, h⟩
  · obtain ⟨vl, vm, r⟩ := h.ex
    exact Or.inl ⟨k, F, c, ⟨vl, vm, r.drewN n⟩, h.km, h.mb, h.lk, h.f64, h.oct⟩
  · exact Or.inr ⟨F, y, h.drewN n⟩
theorem put_any (x : Nat) (hx : x < 256) (h : Sr w lo B most) : Calls Try.prog 14 #[.pointer (some ⟨B, 0, none⟩), .int .u8 (x : Int)] w fun e w' => ∃ (q : Bool) (y : Nat), e = .returned (.tuple #[.bool q, .int .i64 (y : Int)]) ∧ Sr w' lo B most ∧ Chg lo w w' := by
  rcases h with ⟨k, F, c, h⟩ | ⟨F, y, h⟩
  · refine (put_go x hx h).mono ?_
    rintro e w' ⟨he, hn, hc⟩
    exact ⟨_, _, he, Sr.of_nx hn, hc⟩
  · refine (put_x x h).mono ?_
    rintro e w' ⟨he, n, rfl⟩
    exact ⟨_, _, he, Sr.drewN (Or.inr ⟨F, y, h⟩) n, (Chg.refl lo w).drewN n⟩
theorem reset_any (h : Sr w lo B most) : Calls Try.prog 15 #[.pointer (some ⟨B, 0, none⟩)] w fun e w' => e = .returned (.tuple #[]) ∧ Rg w' lo B most 0 [] [] ∧ Chg lo w w' := by
  rcases h with ⟨k, F, c, h⟩ | ⟨F, y, h⟩
  · obtain ⟨vl, vm, r⟩ := h.ex
    exact reset_c r h.mb
  · obtain ⟨k, vl, l, bg, vm, M, dn, r, _⟩ := h.rm
    have hmb : most ≤ 65536 := by
      rcases h with ⟨_, h⟩ | ⟨_, _, h⟩
      · exact h.mb
      · exact h.mb
    exact reset_c r hmb
theorem Rg.below {F : List Fd} {c : List Nat} (h : Rg w lo B most k F c) (b : Below w.heap.size w u) : Rg u lo B most k F c := by
  obtain ⟨vl, vm, r⟩ := h.ex
  exact ⟨⟨vl, vm, r.below b⟩, h.km, h.mb, h.lk, h.f64, h.oct⟩
theorem Rg.lt {F : List Fd} {c : List Nat} (h : Rg w lo B most k F c) : B < w.heap.size := by
  obtain ⟨vl, vm, r⟩ := h.ex
  exact r.lt
/-- Where the loop over the bytes stands: behind u bytes of l. -/
def Wj (w : World) (lo B most : Nat) (l : List Nat) (R : Out) (u : Nat) : Prop :=
  (∃ F c, Rg w lo B most u F c ∧ rn most u F c (l.drop u) = R) ∨ (R.at_ < u ∧ Rx w lo B most R.fs R.why)
theorem Wj.drewN {v : Nat} (h : Wj w lo B most l R v) (n : Nat) : Wj (w.drewN n) lo B most l R v := by
  rcases h with ⟨F, c, h, hr⟩ | ⟨h1, h⟩
  · obtain ⟨vl, vm, r⟩ := h.ex
    exact Or.inl ⟨F, c, ⟨⟨vl, vm, r.drewN n⟩, h.km, h.mb, h.lk, h.f64, h.oct⟩, hr⟩
  · exact Or.inr ⟨h1, h.drewN n⟩
theorem wj_put {i x : Nat} (hx : l[i]? = some x) (hx8 : x < 256) (h : Wj w lo B most l R i) : Calls Try.prog 14 #[.pointer (some ⟨B, 0, none⟩), .int .u8 (x : Int)] w fun e w' => e = .returned (.tuple #[.bool (decide (R.at_ ≤ i) && R.why == 0), .int .i64 ((if R.at_ ≤ i then R.why else 0 : Nat) : Int)]) ∧ Wj w' lo B most l R (i + 1) ∧ Chg lo w w' := by
  rcases h with ⟨F, c, h, hr⟩ | ⟨h1, h⟩
  · refine (put_go x hx8 h).mono ?_
    rintro e w' ⟨he, hn, hc⟩
    rw [drop_more hx, rn_cons] at hr
    by_cases e1 : (nx most i F c x).1 ≠ 0
    · rw [if_pos e1] at hr
      unfold Nx at hn
      rw [if_pos e1] at hn
      refine ⟨?_, Or.inr ⟨by rw [← hr]; simp only; omega, by rw [← hr]; exact Or.inr ⟨e1, rfl, hn⟩⟩, hc⟩
      have e2 : ((nx most i F c x).1 == 0) = false := by simpa using e1
      rw [he, ← hr]
      simp [e2]
    · rw [if_neg e1] at hr
      have e0 : (nx most i F c x).1 = 0 := by simpa using e1
      unfold Nx at hn
      rw [if_neg e1] at hn
      by_cases e2 : (nx most i F c x).2.1 = true
      · rw [if_pos e2] at hr hn
        refine ⟨?_, Or.inr ⟨by rw [← hr]; simp only; omega, by rw [← hr]; exact Or.inl ⟨rfl, hn⟩⟩, hc⟩
        rw [he, ← hr]
        simp [e0, e2]
      · rw [if_neg e2] at hr hn
        have hat := (rn_at most (l.drop (i + 1)) (i + 1) (nx most i F c x).2.2.1 (nx most i F c x).2.2.2).1
        rw [hr] at hat
        refine ⟨?_, Or.inl ⟨_, _, hn, hr⟩, hc⟩
        rw [he, e0, decide_eq_false (by omega), if_neg (by omega)]
        simp [e2]
  · refine (put_x x h).mono ?_
    rintro e w' ⟨he, n, rfl⟩
    refine ⟨?_, Or.inr ⟨by omega, h.drewN n⟩, (Chg.refl lo w).drewN n⟩
    rw [he, decide_eq_true (by omega), if_pos (by omega), Bool.true_and]
theorem wj_end {L : Nat} (hL : l.length ≤ L) (h : Wj w lo B most l R L) : Calls Try.prog 17 #[.pointer (some ⟨B, 0, none⟩)] w fun e w' => e = .returned (.int .i64 (R.why : Nat)) ∧ Rx w' lo B most R.fs R.why ∧ Chg lo w w' := by
  rcases h with ⟨F, c, h, hr⟩ | ⟨h1, h⟩
  · rw [List.drop_eq_nil_of_le hL, rn_nil] at hr
    refine (end_g h).mono ?_
    rintro e w' ⟨he, hx, hc⟩
    rw [← hr]
    exact ⟨he, hx, hc⟩
  · refine (end_x h).mono ?_
    rintro e w' ⟨he, rfl⟩
    exact ⟨he, h, Chg.refl _ _⟩
/-- Fields of a reader that is not done. -/
theorem wj_fields {i : Nat} (h : Wj w lo B most l R (i + 1)) (hn : i < R.at_ ∨ R.why ≠ 0) : Calls Try.prog 16 #[.pointer (some ⟨B, 0, none⟩)] w fun e w' => e = .returned (.slice none 0 0) ∧ w' = w := by
  rcases h with ⟨F, c, h, hr⟩ | ⟨h1, h⟩
  · exact fields_g h
  · rcases h with ⟨e0, _⟩ | ⟨_, _, h⟩
    · exfalso
      rcases hn with hn | hn
      · omega
      · exact hn e0
    · obtain ⟨k, vl, vm, r⟩ := h.ex
      exact fields_no r
theorem Rx.setOther {F : List Fd} {y g i : Nat} {x : Value} {cs : Array Value} (h : Rx w lo B most F y) (hg : Cells w g cs 43) : Rx (w.setCell ⟨g, i, none⟩ x) lo B most F y := by
  rcases h with ⟨e, h⟩ | ⟨h0, e, h⟩
  · obtain ⟨k, vl, vm, bg, r⟩ := h.ex
    exact Or.inl ⟨e, ⟨k, vl, vm, bg, r.setOther hg (by decide)⟩, h.mb, h.lk, h.f64, h.oct⟩
  · obtain ⟨k, vl, vm, r⟩ := h.ex
    exact Or.inr ⟨h0, e, ⟨k, vl, vm, r.setOther hg (by decide)⟩, h.mb, h.ny⟩
end
end Go.Proofs.Ytmlkdpoignimaaa

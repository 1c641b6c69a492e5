/-
  A part of a slice of bytes. No walk.
-/
import Derived.Test.YtcmmjbkgoafbnaaGreatDoorOwn
namespace Go.Proofs.YtcmmjbkgoafbnaaGreatDoor
open Go.RowKit
set_option linter.unusedVariables false
theorem slice_fe (b o L C f e : Nat) (h1 : f ≤ e) (h2 : e ≤ C) (h3 : f ≠ C) (W : World) : (Instr.slice 22 (.slice (some ⟨b, o, none⟩) L C) (some (.int .i64 (f : Int))) (some (.int .i64 (e : Int))) none).run Tryz.prog W = .ok (.slice (some ⟨b, o + f, none⟩) (e - f) (C - f)) W := by
  have hk1 : (f : Int) ≤ (e : Int) := by omega
  have hk2 : (e : Int) ≤ (C : Int) := by omega
  have hk0 : (0 : Int) ≤ (f : Int) := by omega
  have hk3 : (0 : Int) ≤ (e : Int) := by omega
  have hCk : ¬ C = f := by omega
  have hCk2 : ¬ (C : Int) = (f : Int) := by omega
  clear h1 h2 h3
  go_simp
theorem slice_ee (b o L C : Nat) (W : World) : (Instr.slice 22 (.slice (some ⟨b, o, none⟩) L C) (some (.int .i64 (C : Int))) (some (.int .i64 (C : Int))) none).run Tryz.prog W = .ok (.slice (some ⟨b, o, none⟩) 0 0) W := by
  have hk0 : (0 : Int) ≤ (C : Int) := by omega
  go_simp
theorem slice_00 (p : Addr) (L C : Nat) : ∃ q, ∀ W : World, (Instr.slice 22 (.slice (some p) L C) (some (.int .i64 0)) (some (.int .i64 0)) none).run Tryz.prog W = .ok (.slice (some q) 0 C) W := by
  have hk0 : (0 : Int) ≤ (C : Int) := by omega
  by_cases h : C = 0
  · subst h
    refine ⟨p, fun W => ?_⟩
    go_simp
  · have h2 : ¬ (C : Int) = 0 := by omega
    refine ⟨p.add 0, fun W => ?_⟩
    go_simp
theorem slice_nn (W : World) : (Instr.slice 22 (.slice none 0 0) (some (.int .i64 0)) (some (.int .i64 0)) none).run Tryz.prog W = .ok (.slice none 0 0) W := by go_simp
/-- From f up to e. -/
theorem cut_of (a : Option Addr) (l : List Nat) (L C f e : Nat) (hL : l.length = L) (hLC : L ≤ C) (hf : f ≤ e) (he : e ≤ L) (haz : a = none → L = 0 ∧ C = 0) (w0 : World) (hl : Lies w0 a l) :
    ∃ a2, (∀ W : World, (Instr.slice 22 (.slice a L C) (some (.int .i64 (f : Int))) (some (.int .i64 (e : Int))) none).run Tryz.prog W = .ok (.slice a2 (e - f) (C - f)) W) ∧ (∀ w, Lies w a l → Lies w a2 ((l.take e).drop f)) ∧ (a2 = none → e - f = 0 ∧ C - f = 0) := by
  cases a with
  | none =>
    obtain ⟨h1, h2⟩ := haz rfl
    subst h1
    subst h2
    obtain rfl : e = 0 := by omega
    obtain rfl : f = 0 := by omega
    exact ⟨none, fun W => slice_nn W, fun w _ => Or.inl (by simp), fun _ => ⟨rfl, rfl⟩⟩
  | some p =>
    rcases hl with h | ⟨b, o, h, _⟩
    · rw [h] at hL
      have h0 : L = 0 := by simpa using hL.symm
      subst h0
      obtain rfl : e = 0 := by omega
      obtain rfl : f = 0 := by omega
      obtain ⟨q, hq⟩ := slice_00 p 0 C
      exact ⟨some q, fun W => hq W, fun w _ => Or.inl (by simp), fun h => by cases h⟩
    · cases h
      by_cases h3 : f = C
      · obtain rfl : e = C := by omega
        obtain rfl : L = e := by omega
        subst h3
        refine ⟨some ⟨b, o, none⟩, fun W => ?_, fun w _ => Or.inl (by simp), fun h => by cases h⟩
        rw [Nat.sub_self]
        exact slice_ee b o f f W
      · refine ⟨some ⟨b, o + f, none⟩, fun W => slice_fe b o L C f e hf (by omega) h3 W, fun w h => ?_, fun h => by cases h⟩
        rcases h with rfl | ⟨b', o', ha', hc⟩
        · exact Or.inl (by simp)
        · cases ha'
          refine Or.inr ⟨b, o + f, rfl, fun j x hx => ?_⟩
          rw [List.getElem?_drop, List.getElem?_take] at hx
          split at hx
          · rw [Nat.add_assoc]; exact hc _ _ hx
          · simp at hx
end Go.Proofs.YtcmmjbkgoafbnaaGreatDoor

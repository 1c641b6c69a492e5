/-
  The decoder: what a letter and a byte come to.
-/
import Derived.Test.YtmijpocfichfpabPut
namespace Go.Proofs.Ytmijpocfichfpab
open Go.RowKit
set_option linter.unusedVariables false
theorem let_bad (B a r x : Nat) (pd la : Bool) (hx : x < 256) (hp : (la || pd) = true) (w : World) (h : Cells w B #[.int .u8 a, .int .u8 r, .bool pd, .bool la, .int .i64 0] 43) : Calls Try.prog 15 #[.pointer (some ⟨B, 0, none⟩), .int .u8 x] w fun e w' => e = .returned (.tuple #[.int .u8 0, .bool false]) ∧ Cells w' B #[.int .u8 a, .int .u8 r, .bool pd, .bool la, .int .i64 21] 43 ∧ But B w w' := by
  obtain ⟨c0, c1, c2, c3, c4⟩ := five h
  have f4 := h.frozen 4
  obtain ⟨s, q, hr⟩ : ∃ (s : Nat) (q : Bool), Aside ((vl x = 64 ∧ s = 0 ∧ q = false) ∨ (vl x ≠ 64 ∧ s = vl x ∧ q = true)) := by
    by_cases e : vl x = 64
    · exact ⟨0, false, Or.inl ⟨e, rfl, rfl⟩⟩
    · exact ⟨vl x, true, Or.inr ⟨e, rfl, rfl⟩⟩
  have hv := value_c x hx s q hr w
  have A : Aside (Cells w B #[.int .u8 a, .int .u8 r, .bool pd, .bool la, .int .i64 0] 43) := h
  clear h hr
  cases la
  · cases pd
    · cases hp
    · clear hp
      go_enter Try.func15, Try.ntmps15
      go_wp2_with (go_at_call 17; refine hv.mono ?_; rintro e1 w1 ⟨rfl, rfl⟩)
      go_ret2
      exact ⟨rfl, set4 A.out _, (But.of_only (((Only.refl B w1).setCell 4 _)))⟩
  · clear hp
    go_enter Try.func15, Try.ntmps15
    go_wp2_with (go_at_call 17; refine hv.mono ?_; rintro e1 w1 ⟨rfl, rfl⟩)
    go_ret2
    exact ⟨rfl, set4 A.out _, (But.of_only (((Only.refl B w1).setCell 4 _)))⟩
theorem let_stray (B a r x : Nat) (hx : x < 256) (hv : vl x = 64) (w : World) (h : Cells w B #[.int .u8 a, .int .u8 r, .bool false, .bool false, .int .i64 0] 43) : Calls Try.prog 15 #[.pointer (some ⟨B, 0, none⟩), .int .u8 x] w fun e w' => e = .returned (.tuple #[.int .u8 0, .bool false]) ∧ Cells w' B #[.int .u8 a, .int .u8 r, .bool false, .bool false, .int .i64 20] 43 ∧ But B w w' := by
  obtain ⟨c0, c1, c2, c3, c4⟩ := five h
  have f4 := h.frozen 4
  have hv := value_c x hx 0 false (Or.inl ⟨hv, rfl, rfl⟩) w
  have A : Aside (Cells w B #[.int .u8 a, .int .u8 r, .bool false, .bool false, .int .i64 0] 43) := h
  clear h
  go_enter Try.func15, Try.ntmps15
  go_wp2_with (go_at_call 17; refine hv.mono ?_; rintro e1 w1 ⟨rfl, rfl⟩)
  go_ret2
  exact ⟨rfl, set4 A.out _, (But.of_only (((Only.refl B w1).setCell 4 _)))⟩
/-- What is told of a byte: the byte, or 0. -/
def ov (o : Option Nat) : Nat := o.getD 0
theorem let_go (B pl pv x : Nat) (hx : x < 256) (hv : vl x ≠ 64) (hw : Wf pl false pv) (w : World) (h : Dd w B pl false pv 0) (o : Option Nat) (ho : (if pl = 0 then none else some (tell pl pv (vl x))) = o) :
    Calls Try.prog 15 #[.pointer (some ⟨B, 0, none⟩), .int .u8 x] w fun e w' => e = .returned (.tuple #[.int .u8 (ov o : Nat), .bool o.isSome]) ∧ Dd w' B ((pl + 1) % 4) false (vl x) 0 ∧ But B w w' := by
  have hv2 := value_c x hx (vl x) true (Or.inr ⟨hv, rfl, rfl⟩) w
  have hs : vl x < 64 := by have := vl_le x; omega
  obtain ⟨s, hse⟩ : ∃ s, vl x = s := ⟨_, rfl⟩
  rw [hse] at hv2 hs ho ⊢
  clear hv
  have hadd : Calls Try.prog 18 #[.pointer (some ⟨B, 0, none⟩), .int .u8 s] w fun e w' => e = .returned (.tuple #[.int .u8 (ov o : Nat), .bool o.isSome]) ∧ Dd w' B ((pl + 1) % 4) false s 0 ∧ But B w w' := by
    obtain ⟨h1, h2, _⟩ := hw
    unfold Dd at h ⊢
    rcases (show pl = 0 ∨ pl = 1 ∨ pl = 2 ∨ pl = 3 by omega) with rfl | rfl | rfl | rfl
    · subst ho
      refine (add0 B s 0 false hs w (by simpa [rst] using h)).mono ?_
      rintro e1 w1 ⟨he, hc, hb⟩
      exact ⟨he, by simpa [rst] using hc, hb⟩
    · subst ho
      refine (add1 B s (pv * 4 % 256) 0 false hs (Nat.mod_lt _ (by omega)) (show _ = _ by omega) w (by simpa [rst] using h)).mono ?_
      rintro e1 w1 ⟨he, hc, hb⟩
      refine ⟨?_, by simpa [rst] using hc, hb⟩
      rw [he]
      simp [ov, tell]
      omega
    · subst ho
      refine (add2 B s (pv * 16 % 256) 0 false hs (Nat.mod_lt _ (by omega)) (show _ = _ by omega) w (by simpa [rst] using h)).mono ?_
      rintro e1 w1 ⟨he, hc, hb⟩
      refine ⟨?_, by simpa [rst] using hc, hb⟩
      rw [he]
      simp [ov, tell]
      omega
    · subst ho
      refine (add3 B s (pv * 64 % 256) 0 false hs (Nat.mod_lt _ (by omega)) (show _ = _ by omega) w (by simpa [rst] using h)).mono ?_
      rintro e1 w1 ⟨he, hc, hb⟩
      refine ⟨?_, by simpa [rst] using hc, hb⟩
      rw [he]
      simp [ov, tell]
      omega
  unfold Dd at h
  simp only [Bool.false_and] at h
  obtain ⟨c0, c1, c2, c3, c4⟩ := five h
  clear h ho hw
  obtain ⟨u, hu⟩ : ∃ u, ov o = u := ⟨_, rfl⟩
  obtain ⟨t, ht⟩ : ∃ t, o.isSome = t := ⟨_, rfl⟩
  rw [hu, ht] at hadd ⊢
  go_enter Try.func15, Try.ntmps15
  go_wp2_with (first | (go_at_call 17; refine hv2.mono ?_; rintro e1 w1 ⟨rfl, rfl⟩) | (go_at_call 18; refine hadd.mono ?_; rintro e1 w1 ⟨rfl, hd, hb⟩))
  go_ret2
  exact ⟨rfl, hd, hb⟩
end Go.Proofs.Ytmijpocfichfpab

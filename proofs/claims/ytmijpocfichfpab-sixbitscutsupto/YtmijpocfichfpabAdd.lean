/-
  A group that takes a letter.
-/
import Derived.Test.YtmijpocfichfpabDec
import Derived.BigRegion
import Derived.Laws.BitsLemmas
namespace Go.Proofs.Ytmijpocfichfpab
open Go.RowKit
set_option linter.unusedVariables false
theorem set3 {w : World} {B : Nat} {v0 v1 v2 v3 v4 : Value} {t : TypeId} (h : Cells w B #[v0, v1, v2, v3, v4] t) (u0 u1 u2 : Value) : Cells (((w.setCell ⟨B, 0, none⟩ u0).setCell ⟨B, 1, none⟩ u1).setCell ⟨B, 2, none⟩ u2) B #[u0, u1, u2, v3, v4] t := by
  have := ((h.set 0 u0).set 1 u1).set 2 u2
  simpa using this
theorem only3 {w0 w : World} {B : Nat} (h : Only B w0 w) (u0 u1 u2 : Value) : Only B w0 (((w.setCell ⟨B, 0, none⟩ u0).setCell ⟨B, 1, none⟩ u1).setCell ⟨B, 2, none⟩ u2) := ((h.setCell 0 _).setCell 1 _).setCell 2 _
theorem add0 (B s y : Nat) (la : Bool) (hs : s < 64) (w : World) (h : Cells w B #[.int .u8 0, .int .u8 0, .bool false, .bool la, .int .i64 y] 43) : Calls Try.prog 18 #[.pointer (some ⟨B, 0, none⟩), .int .u8 s] w fun e w' => e = .returned (.tuple #[.int .u8 0, .bool false]) ∧ Cells w' B #[.int .u8 1, .int .u8 (s * 4 % 256 : Nat), .bool false, .bool la, .int .i64 y] 43 ∧ But B w w' := by
  obtain ⟨z, hz⟩ : ∃ z : Nat, s * 4 % 256 = z := ⟨_, rfl⟩
  rw [hz]
  have c0 := h.cell 0
  have c1 := h.cell 1
  have c2 := h.cell 2
  simp at c0 c1 c2
  have hbn := begun_no w
  have hshl : Aside ((s : Int) * 4 = (z : Int)) := (show _ = _ by omega)
  clear hz
  go_enter Try.func18, Try.ntmps18
  go_upto_region 3 with (go_at_call 16; refine hbn.mono ?_; rintro e1 w1 ⟨rfl, hb⟩)
  have hk := h.lt
  have h1 := h.below hb hk
  clear c0 c1 c2 hbn
  have c0 := h1.cell 0
  have c1 := h1.cell 1
  have c2 := h1.cell 2
  have f0 := h1.frozen 0
  have f1 := h1.frozen 1
  have f2 := h1.frozen 2
  simp at c0 c1 c2
  go_region
  go_wp2_with fail
  go_ret2
  refine ⟨rfl, ?_, ?_⟩
  · rw [← hshl.out]
    first | exact set3 (h1.drewN _) _ _ _ | exact (set3 h1 _ _ _).drew
  · refine (But.of_below hb).trans ?_
    first | exact But.of_only ((only3 ((Only.refl B w1).drewN _) _ _ _)) | exact But.of_only ((only3 (Only.refl B w1) _ _ _).drew)
theorem add1 (B s r y : Nat) (la : Bool) (hs : s < 64) (hr : r < 256) (hm : Aside (r % 4 = 0)) (w : World) (h : Cells w B #[.int .u8 1, .int .u8 r, .bool false, .bool la, .int .i64 y] 43) : Calls Try.prog 18 #[.pointer (some ⟨B, 0, none⟩), .int .u8 s] w fun e w' => e = .returned (.tuple #[.int .u8 (r + s / 16 : Nat), .bool true]) ∧ Cells w' B #[.int .u8 2, .int .u8 (s * 16 % 256 : Nat), .bool false, .bool la, .int .i64 y] 43 ∧ But B w w' := by
  obtain ⟨z, hz⟩ : ∃ z : Nat, s * 16 % 256 = z := ⟨_, rfl⟩
  rw [hz]
  have c0 := h.cell 0
  have c1 := h.cell 1
  have c2 := h.cell 2
  simp at c0 c1 c2
  have hbn := begun_yes 1 r false (by decide) w
  obtain ⟨o, ho⟩ : ∃ o : Nat, r + s / 16 = o := ⟨_, rfl⟩
  rw [ho]
  have hm := hm.out
  have hor : bits .or .u8 (r : Int) ((s : Int) / 16) = (o : Int) := by
    rw [bits_join .u8 8 (by decide) wraps_u8 2 _ _ (by omega) (by omega) (by omega) (by omega) (by omega) (by omega)]
    omega
  clear ho hm
  have hshl : Aside ((s : Int) * 16 % 256 = (z : Int)) := (show _ = _ by omega)
  clear hz
  go_enter Try.func18, Try.ntmps18
  go_upto_region 2 with (go_at_call 16; refine hbn.mono ?_; rintro e1 w1 ⟨rfl, hb⟩)
  have hk := h.lt
  have h1 := h.below hb hk
  clear c0 c1 c2 hbn
  have c0 := h1.cell 0
  have c1 := h1.cell 1
  have c2 := h1.cell 2
  have f0 := h1.frozen 0
  have f1 := h1.frozen 1
  have f2 := h1.frozen 2
  simp at c0 c1 c2
  go_quiet (fail)
  go_wp2_with fail
  go_region
  go_wp2_with fail
  go_ret2
  refine ⟨rfl, ?_, ?_⟩
  · rw [← hshl.out]
    first | exact set3 (h1.drewN _) _ _ _ | exact (set3 h1 _ _ _).drew
  · refine (But.of_below hb).trans ?_
    first | exact But.of_only ((only3 ((Only.refl B w1).drewN _) _ _ _)) | exact But.of_only ((only3 (Only.refl B w1) _ _ _).drew)
theorem add2 (B s r y : Nat) (la : Bool) (hs : s < 64) (hr : r < 256) (hm : Aside (r % 16 = 0)) (w : World) (h : Cells w B #[.int .u8 2, .int .u8 r, .bool false, .bool la, .int .i64 y] 43) : Calls Try.prog 18 #[.pointer (some ⟨B, 0, none⟩), .int .u8 s] w fun e w' => e = .returned (.tuple #[.int .u8 (r + s / 4 : Nat), .bool true]) ∧ Cells w' B #[.int .u8 3, .int .u8 (s * 64 % 256 : Nat), .bool false, .bool la, .int .i64 y] 43 ∧ But B w w' := by
  obtain ⟨z, hz⟩ : ∃ z : Nat, s * 64 % 256 = z := ⟨_, rfl⟩
  rw [hz]
  have c0 := h.cell 0
  have c1 := h.cell 1
  have c2 := h.cell 2
  simp at c0 c1 c2
  have hbn := begun_yes 2 r false (by decide) w
  obtain ⟨o, ho⟩ : ∃ o : Nat, r + s / 4 = o := ⟨_, rfl⟩
  rw [ho]
  have hm := hm.out
  have hor : bits .or .u8 (r : Int) ((s : Int) / 4) = (o : Int) := by
    rw [bits_join .u8 8 (by decide) wraps_u8 4 _ _ (by omega) (by omega) (by omega) (by omega) (by omega) (by omega)]
    omega
  clear ho hm
  have hshl : Aside ((s : Int) * 64 % 256 = (z : Int)) := (show _ = _ by omega)
  clear hz
  go_enter Try.func18, Try.ntmps18
  go_upto_region 2 with (go_at_call 16; refine hbn.mono ?_; rintro e1 w1 ⟨rfl, hb⟩)
  have hk := h.lt
  have h1 := h.below hb hk
  clear c0 c1 c2 hbn
  have c0 := h1.cell 0
  have c1 := h1.cell 1
  have c2 := h1.cell 2
  have f0 := h1.frozen 0
  have f1 := h1.frozen 1
  have f2 := h1.frozen 2
  simp at c0 c1 c2
  go_quiet (fail)
  go_wp2_with fail
  go_region
  go_wp2_with fail
  go_ret2
  refine ⟨rfl, ?_, ?_⟩
  · rw [← hshl.out]
    first | exact set3 (h1.drewN _) _ _ _ | exact (set3 h1 _ _ _).drew
  · refine (But.of_below hb).trans ?_
    first | exact But.of_only ((only3 ((Only.refl B w1).drewN _) _ _ _)) | exact But.of_only ((only3 (Only.refl B w1) _ _ _).drew)
theorem add3 (B s r y : Nat) (la : Bool) (hs : s < 64) (hr : r < 256) (hm : Aside (r % 64 = 0)) (w : World) (h : Cells w B #[.int .u8 3, .int .u8 r, .bool false, .bool la, .int .i64 y] 43) : Calls Try.prog 18 #[.pointer (some ⟨B, 0, none⟩), .int .u8 s] w fun e w' => e = .returned (.tuple #[.int .u8 (r + s / 1 : Nat), .bool true]) ∧ Cells w' B #[.int .u8 0, .int .u8 (s * 256 % 256 : Nat), .bool false, .bool la, .int .i64 y] 43 ∧ But B w w' := by
  obtain ⟨z, hz⟩ : ∃ z : Nat, s * 256 % 256 = z := ⟨_, rfl⟩
  rw [hz]
  have c0 := h.cell 0
  have c1 := h.cell 1
  have c2 := h.cell 2
  simp at c0 c1 c2
  have hbn := begun_yes 3 r false (by decide) w
  obtain ⟨o, ho⟩ : ∃ o : Nat, r + s / 1 = o := ⟨_, rfl⟩
  rw [ho]
  have hm := hm.out
  have hor : bits .or .u8 (r : Int) (s : Int) = (o : Int) := by
    rw [bits_join .u8 8 (by decide) wraps_u8 6 _ _ (by omega) (by omega) (by omega) (by omega) (by omega) (by omega)]
    omega
  clear ho hm
  have hshl : Aside ((0 : Int) = (z : Int)) := (show _ = _ by omega)
  clear hz
  go_enter Try.func18, Try.ntmps18
  go_upto_region 2 with (go_at_call 16; refine hbn.mono ?_; rintro e1 w1 ⟨rfl, hb⟩)
  have hk := h.lt
  have h1 := h.below hb hk
  clear c0 c1 c2 hbn
  have c0 := h1.cell 0
  have c1 := h1.cell 1
  have c2 := h1.cell 2
  have f0 := h1.frozen 0
  have f1 := h1.frozen 1
  have f2 := h1.frozen 2
  simp at c0 c1 c2
  go_quiet (fail)
  go_wp2_with fail
  go_region
  go_wp2_with fail
  go_ret2
  refine ⟨rfl, ?_, ?_⟩
  · rw [← hshl.out]
    first | exact set3 (h1.drewN _) _ _ _ | exact (set3 h1 _ _ _).drew
  · refine (But.of_below hb).trans ?_
    first | exact But.of_only ((only3 ((Only.refl B w1).drewN _) _ _ _)) | exact But.of_only ((only3 (Only.refl B w1) _ _ _).drew)
end Go.Proofs.Ytmijpocfichfpab

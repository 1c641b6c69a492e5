/-
  Own texts of this seat, one behind the other: what each says stands ahead of it.
-/
import Derived.Test.YtogednaamndpgaaGreatDoorMu
import Derived.BigQuiet
import Derived.BigRegion
import Derived.Test.YtogednaamndpgaaGreatDoorMq
/-
  The walker's steps: text, nameByte, anything.
-/
namespace Go.Proofs.YtogednaamndpgaaGreatDoor
open Go.RowKit
set_option linter.unusedVariables false
section
variable {lo hi B D b R W A : Nat} {n I : List Nat} {cf : Cfg} {q : Md} {s : Gs}
theorem Wk.cnt_ {w : World} (x : Nat) (hx : x < 256) (hs : s.sm < 4294967296) (h : Wk w lo hi B D b R W A (gcof s none) n I cf q) : Calls Tryz.prog 72 #[.pointer (some ⟨W, 0, none⟩), .int .u8 (x : Int)] w fun e w' => e = .returned (.tuple #[]) ∧ Wk w' lo hi B D b R W A (gcof (gcnt x s) none) n I cf q ∧ Fw lo hi w w' := h.cnt x hx hs w
theorem Wk.cell4 {w : World} {lf : Nat} (h : Wk w lo hi B D b R W A (gcof s none) n I cf q) (e : s.lf = lf) : w.cell? ⟨W, 4, none⟩ = some (.int .i64 (lf : Int)) := by rw [← e]; exact h.wc.a4
theorem Wk.bad {w : World} (y : Nat) (h : Wk w lo hi B D b R W A (gcof s none) n I cf q) : Wk (w.setCell ⟨W, 15, none⟩ (.int .i64 (y : Int))) lo hi B D b R W A (gcof (gbad y s) none) n I cf q ∧ Fw lo hi w (w.setCell ⟨W, 15, none⟩ (.int .i64 (y : Int))) := ⟨h.set ((Only.refl W w).setCell 15 _) (h.wc.s15 y) rfl, h.fw ((Only.refl W w).setCell 15 _)⟩
theorem Wk.less {w : World} (m : Nat) (h : Wk w lo hi B D b R W A (gcof s none) n I cf q) : Wk (w.setCell ⟨W, 4, none⟩ (.int .i64 (m : Int))) lo hi B D b R W A (gcof { s with lf := m } none) n I cf q ∧ Fw lo hi w (w.setCell ⟨W, 4, none⟩ (.int .i64 (m : Int))) := ⟨h.set ((Only.refl W w).setCell 4 _) (h.wc.s4 m) rfl, h.fw ((Only.refl W w).setCell 4 _)⟩
set_option maxHeartbeats 1000000 in
theorem text_c (x : Nat) (hx : x < 256) (w : World) (hw : Wk w lo hi B D b R W A (gcof s none) s.nm I cf q) (hs : s.sm < 4294967296) (hf : s.fl < 32) (hon : Oct s.nm) (hl : s.lf < 1000000) : Calls Tryz.prog 135 #[.pointer (some ⟨W, 0, none⟩), .int .u8 (x : Int)] w fun e w' => e = .returned (.tuple #[]) ∧ Wo w' lo hi B D b R W A (gtxt x s) ∧ Fw lo hi w w' := by
  have kc := hw.cnt_ x hx hs
  unfold gtxt
  by_cases h0 : x = 0
  · rw [if_pos h0]
    have kf : ∀ w, Wk w lo hi B D b R W A (gcof (gcnt x s) none) s.nm I cf q → Calls Tryz.prog 130 #[.pointer (some ⟨W, 0, none⟩)] w _ := fun w h => field_c (s := gcnt x s) w h hf hon
    have t : ((x : Int) == 0) = true := by rw [h0]; rfl
    clear hw hs hf hon hl h0 hx
    go_enter Tryz.func135, Tryz.ntmps135
    go_wp2_with (first
      | (go_at_call 72; refine kc.mono ?_; rintro e1 w1 ⟨rfl, h1, f1⟩)
      | (go_at_call 130; refine (kf _ h1).mono ?_; rintro e2 w2 ⟨rfl, h2, f2⟩))
    first | go_end0 | (refine bodyPost_ret (results_none rfl _ _ _) rfl ?_)
    exact ⟨rfl, h2, f1.trans f2⟩
  · rw [if_neg h0]
    have t : ((x : Int) == 0) = false := by rw [beq_eq_false_iff_ne]; omega
    obtain ⟨lf, hlf⟩ : ∃ lf, s.lf = lf := ⟨_, rfl⟩
    rw [hlf] at hl ⊢
    by_cases hz : lf = 0
    · rw [if_pos hz]
      subst hz
      clear hw hs hf hon hl h0 hx
      go_enter Tryz.func135, Tryz.ntmps135
      go_wp2_with (go_at_call 72; refine kc.mono ?_; rintro e1 w1 ⟨rfl, h1, f1⟩; have d4 := h1.cell4 hlf; have d15 := h1.wc.a15; have z15 := h1.wc.fz 15)
      first | go_end0 | (refine bodyPost_ret (results_none rfl _ _ _) rfl ?_)
      exact ⟨rfl, Or.inl ⟨rfl, I, cf, q, (h1.bad 46).1⟩, f1.trans (h1.bad 46).2⟩
    · rw [if_neg hz]
      have tl : ((lf : Int) == 0) = false := by rw [beq_eq_false_iff_ne]; omega
      obtain ⟨l2, hl2⟩ : ∃ l2, lf - 1 = l2 := ⟨_, rfl⟩
      have hd : (lf : Int) - 1 = (l2 : Int) := by omega
      rw [hl2]
      clear hw hs hf hon h0 hx hz hl2
      go_enter Tryz.func135, Tryz.ntmps135
      go_wp2_with (go_at_call 72; refine kc.mono ?_; rintro e1 w1 ⟨rfl, h1, f1⟩; have d4 := h1.cell4 hlf; have z4 := h1.wc.fz 4)
      first | go_end0 | (refine bodyPost_ret (results_none rfl _ _ _) rfl ?_)
      exact ⟨rfl, Or.inl ⟨rfl, I, cf, q, (h1.less l2).1⟩, f1.trans (h1.less l2).2⟩
set_option maxHeartbeats 1000000 in
theorem any_c (x : Nat) (hx : x < 256) (w : World) (hw : Wk w lo hi B D b R W A (gcof s none) s.nm I cf q) (hs : s.sm < 4294967296) (hf : s.fl < 32) (hon : Oct s.nm) (hl : s.lf < 1000000) (hl1 : 1 ≤ s.lf) : Calls Tryz.prog 127 #[.pointer (some ⟨W, 0, none⟩), .int .u8 (x : Int)] w fun e w' => e = .returned (.tuple #[]) ∧ Wo w' lo hi B D b R W A (gany x s) ∧ Fw lo hi w w' := by
  have kc := hw.cnt_ x hx hs
  unfold gany
  obtain ⟨lf, hlf⟩ : ∃ lf, s.lf = lf := ⟨_, rfl⟩
  rw [hlf] at hl hl1 ⊢
  obtain ⟨l2, hl2⟩ : ∃ l2, lf - 1 = l2 := ⟨_, rfl⟩
  have hd : (lf : Int) - 1 = (l2 : Int) := by omega
  rw [hl2]
  by_cases hz : l2 = 0
  · rw [if_pos hz]
    have kf : ∀ w, Wk w lo hi B D b R W A (gcof { gcnt x s with lf := l2 } none) s.nm I cf q → Calls Tryz.prog 130 #[.pointer (some ⟨W, 0, none⟩)] w _ := fun w h => field_c (s := { gcnt x s with lf := l2 }) w h hf hon
    have tl : ((l2 : Int) == 0) = true := by rw [hz]; rfl
    clear hw hs hf hon hl2 hx hz
    go_enter Tryz.func127, Tryz.ntmps127
    go_wp2_with (first
      | (go_at_call 72; refine kc.mono ?_; rintro e1 w1 ⟨rfl, h1, f1⟩; have d4 := h1.cell4 hlf; have z4 := h1.wc.fz 4)
      | (go_at_call 130; refine (kf _ (h1.less l2).1).mono ?_; rintro e2 w2 ⟨rfl, h2, f2⟩))
    first | go_end0 | (refine bodyPost_ret (results_none rfl _ _ _) rfl ?_)
    exact ⟨rfl, h2, (f1.trans (h1.less l2).2).trans f2⟩
  · rw [if_neg hz]
    have tl : ((l2 : Int) == 0) = false := by rw [beq_eq_false_iff_ne]; omega
    clear hw hs hf hon hl2 hx hz
    go_enter Tryz.func127, Tryz.ntmps127
    go_wp2_with (go_at_call 72; refine kc.mono ?_; rintro e1 w1 ⟨rfl, h1, f1⟩; have d4 := h1.cell4 hlf; have z4 := h1.wc.fz 4)
    first | go_end0 | (refine bodyPost_ret (results_none rfl _ _ _) rfl ?_)
    exact ⟨rfl, Or.inl ⟨rfl, I, cf, q, (h1.less l2).1⟩, f1.trans (h1.less l2).2⟩
end
end Go.Proofs.YtogednaamndpgaaGreatDoor

/-
  The walker's step nameByte.
-/
namespace Go.Proofs.YtogednaamndpgaaGreatDoor
open Go.RowKit
set_option linter.unusedVariables false
section
variable {lo hi B D b R W A : Nat} {n I : List Nat} {cf : Cfg} {q : Md} {s : Gs}
theorem name_grown {w w2 : World} {x : Nat} (h : Wk w lo hi B D b R W A (gcof s none) s.nm I cf q) (ho : w2.ownsRow A 5 1 (.slice (some ⟨A, 0, none⟩) (s.nm.length + 1) 256) (s.nm.length + 1) (ob s.nm ++ [.int .u8 (x : Int)])) (hg : w.grownBy w2 (some A)) : Wc w2 W D A (gcof s none) ∧ Wk (w2.setCell ⟨W, 3, none⟩ (.slice (some ⟨A, 0, none⟩) (s.nm.length + 1) 256)) lo hi B D b R W A (gcof { s with nm := s.nm ++ [x] } none) (s.nm ++ [x]) I cf q ∧ Fw lo hi w (w2.setCell ⟨W, 3, none⟩ (.slice (some ⟨A, 0, none⟩) (s.nm.length + 1) 256)) := by
  have hN : Nm w2 A (s.nm ++ [x]) := Nm.of_own (by
    rw [show (s.nm ++ [x]).length = s.nm.length + 1 by simp, show ob (s.nm ++ [x]) = ob s.nm ++ [.int .u8 (x : Int)] by simp [ob]]
    exact ho)
  obtain ⟨_, hwc, _, hfin⟩ := h.name hg hN _ rfl
  have o : Only W w2 (w2.setCell ⟨W, 3, none⟩ (.slice (some ⟨A, 0, none⟩) (s.nm.length + 1) 256)) := (Only.refl W w2).setCell 3 _
  have g := h.g
  refine ⟨hwc, ?_, ?_⟩
  · have := hfin _ ((Only.refl W w2).setCell 3 (.slice (some ⟨A, 0, none⟩) (s.nm ++ [x]).length 256)) (hwc.s3 _)
    have e : (s.nm ++ [x]).length = s.nm.length + 1 := by simp
    have this2 : Wk (w2.setCell ⟨W, 3, none⟩ (.slice (some ⟨A, 0, none⟩) (s.nm ++ [x]).length 256)) lo hi B D b R W A (gcof { s with nm := s.nm ++ [x] } none) (s.nm ++ [x]) I cf q := this
    rwa [e] at this2
  · refine ⟨o.os.trans hg.os, o.tape.trans hg.tape, o.output.trans hg.output, by rw [o.size]; exact hg.size, fun k hk hh => ?_⟩
    have := g.lA; have := g.hA; have := g.lW; have := g.hW
    rw [o.block k (by omega)]
    exact hg.block k hk (fun e => by cases e; omega)
set_option maxHeartbeats 1000000 in
theorem name_c (x : Nat) (hx : x < 256) (w : World) (hw : Wk w lo hi B D b R W A (gcof s none) s.nm I cf q) (hs : s.sm < 4294967296) (hf : s.fl < 32) (hon : Oct s.nm) (hl : s.lf < 1000000) (hn : s.nm.length + s.lf = 256) : Calls Tryz.prog 134 #[.pointer (some ⟨W, 0, none⟩), .int .u8 (x : Int)] w fun e w' => e = .returned (.tuple #[]) ∧ Wo w' lo hi B D b R W A (gtxt x (gnam x s)) ∧ Fw lo hi w w' := by
  unfold gnam
  by_cases h0 : x ≠ 0 ∧ 0 < s.lf
  · rw [if_pos h0]
    have t : ((x : Int) != 0) = true := by rw [bne_iff_ne]; omega
    have tl : 0 < s.lf := h0.2
    obtain ⟨i0, hi0, hz0, hz1, hz2⟩ := ginfo_parts ginfo5
    have AI : Aside (Tryz.prog.info? 5 = some i0 ∧ i0.size = 1) := ⟨hi0, hz1⟩
    clear hi0 hz0 hz1 hz2
    have kt : ∀ w, Wk w lo hi B D b R W A (gcof { s with nm := s.nm ++ [x] } none) (s.nm ++ [x]) I cf q → Calls Tryz.prog 135 #[.pointer (some ⟨W, 0, none⟩), .int .u8 (x : Int)] w _ := fun w h => text_c (s := { s with nm := s.nm ++ [x] }) x hx w h hs hf (fun y hy => by
      rcases List.mem_append.1 hy with h | h
      · exact hon y h
      · rw [List.mem_singleton.1 h]; exact hx) hl
    have d4 := hw.wc.a4
    have d3 := hw.wc.a3
    have z3 := hw.wc.fz 3
    have hA := hw.below (u := w.alloc (.cells #[.int .u8 (x : Int)] 5)) ((Below.refl _ w).alloc (Nat.le_refl _) _) (Nat.le_refl _)
    have hfA : Fw lo hi w (w.alloc (.cells #[.int .u8 (x : Int)] 5)) := Fw.of_below ((Below.refl _ w).alloc (Nat.le_refl _) _) (Nat.le_refl _)
    have hnl : Aside (s.nm.length + 1 ≤ 256) := Nat.le_of_lt_succ (by omega)
    have A1 : Aside (Wk (w.alloc (.cells #[.int .u8 (x : Int)] 5)) lo hi B D b R W A (gcof s none) s.nm I cf q ∧ Fw lo hi w (w.alloc (.cells #[.int .u8 (x : Int)] 5))) := ⟨hA, hfA⟩
    clear hs hf hon hl hx hn h0 hA hfA hw
    obtain ⟨lf, hlf⟩ : ∃ lf, s.lf = lf := ⟨_, rfl⟩
    rw [hlf] at tl
    replace d4 : w.cell? ⟨W, 4, none⟩ = some (.int .i64 (lf : Int)) := by rw [← hlf]; exact d4
    clear hlf
    replace d3 : w.cell? ⟨W, 3, none⟩ = some (.slice (some ⟨A, 0, none⟩) s.nm.length 256) := d3
    go_enter Tryz.func134, Tryz.ntmps134
    go_upto_region 1 with fail
    go_upto_region 2 with (first
      | (at_builtin; refine wpList_append_fits _ rfl (.tmp 17) (.tmp 19) 22 rfl A 5 i0 1 Tryz.underlying22 AI.out.1 AI.out.2 A s.nm.length 256 (ob s.nm) rfl A1.out.1.nm.own ⟨w.heap.size, 0, none⟩ 1 1 [.int .u8 (x : Int)] rfl rfl (cell_one_new _ _ _) (by intro u hu; rw [List.mem_singleton.1 hu]; rfl) hnl.out ?_; intro w2 ho2 hg2; obtain ⟨hwc2, hw3, f3⟩ := name_grown A1.out.1 ho2 hg2; have d32 := hwc2.a3; have z32 := hwc2.fz 3; have A3 : Aside (Wk (w2.setCell ⟨W, 3, none⟩ (.slice (some ⟨A, 0, none⟩) (s.nm.length + 1) 256)) lo hi B D b R W A (gcof { s with nm := s.nm ++ [x] } none) (s.nm ++ [x]) I cf q ∧ Fw lo hi (w.alloc (.cells #[.int .u8 (x : Int)] 5)) (w2.setCell ⟨W, 3, none⟩ (.slice (some ⟨A, 0, none⟩) (s.nm.length + 1) 256))) := ⟨hw3, f3⟩; clear ho2 hg2 hwc2 hw3 f3))
    clear d3 d4 z3
    go_wp2_with (go_at_call 135; refine (kt _ A3.out.1).mono ?_; rintro e4 w4 ⟨rfl, h4, f4⟩)
    first | go_end0 | (refine bodyPost_ret (results_none rfl _ _ _) rfl ?_)
    exact ⟨rfl, h4, (A1.out.2.trans A3.out.2).trans f4⟩
  · rw [if_neg h0]
    have kt := text_c x hx w hw hs hf hon hl
    by_cases hx0 : x = 0
    · have t : ((x : Int) != 0) = false := by rw [hx0]; rfl
      clear hw hs hf hon hl hn hx h0 hx0
      go_enter Tryz.func134, Tryz.ntmps134
      go_wp2_with (go_at_call 135; refine kt.mono ?_; rintro e4 w4 ⟨rfl, h4, f4⟩)
      first | go_end0 | (refine bodyPost_ret (results_none rfl _ _ _) rfl ?_)
      exact ⟨rfl, h4, f4⟩
    · have t : ((x : Int) != 0) = true := by rw [bne_iff_ne]; omega
      have d4 := hw.cell4 (show s.lf = 0 by omega)
      clear hw hs hf hon hl hn hx h0 hx0
      go_enter Tryz.func134, Tryz.ntmps134
      go_wp2_with (go_at_call 135; refine kt.mono ?_; rintro e4 w4 ⟨rfl, h4, f4⟩)
      first | go_end0 | (refine bodyPost_ret (results_none rfl _ _ _) rfl ?_)
      exact ⟨rfl, h4, f4⟩
end
end Go.Proofs.YtogednaamndpgaaGreatDoor

/-
  The walker's steps: begin, first, second, method, setFlags, behind, extraLength, headSum, dataSum, dataSize.
-/
namespace Go.Proofs.YtogednaamndpgaaGreatDoor
open Go.RowKit
set_option linter.unusedVariables false
section
variable {lo hi B D b R W A : Nat} {n I : List Nat} {cf : Cfg} {q : Md} {s : Gs}
theorem Wk.drew {w : World} {c : Gc} (h : Wk w lo hi B D b R W A c n I cf q) : Wk w.drew lo hi B D b R W A c n I cf q := ⟨h.g, h.wc, h.nl, h.nm, h.inf.kq ⟨Nat.le_refl _, fun k _ => Or.inl rfl⟩, h.tab, h.hs⟩
theorem Fw.drew (w : World) : Fw lo hi w w.drew := ⟨rfl, rfl, rfl, Nat.le_refl _, fun _ _ _ => rfl⟩
theorem Fw.drewN (w : World) (m : Nat) : Fw lo hi w (w.drewN m) := ⟨rfl, rfl, rfl, Nat.le_refl _, fun _ _ _ => rfl⟩
set_option maxHeartbeats 1000000 in
theorem begin_c (x : Nat) (hx : x < 256) (w : World) (hw : Wk w lo hi B D b R W A (gcof s none) s.nm I cf q) : Calls Tryz.prog 42 #[.pointer (some ⟨W, 0, none⟩), .int .u8 (x : Int)] w fun e w' => e = .returned (.tuple #[]) ∧ Wk w' lo hi B D b R W A (gcof (gbgn x s) none) s.nm I cf q ∧ Fw lo hi w w' := by
  have d13 := hw.wc.a13
  have z13 := hw.wc.fz 13
  have d6 := hw.wc.a6
  have z6 := hw.wc.fz 6
  have o : Only W w ((w.setCell ⟨W, 13, none⟩ (.bool false)).setCell ⟨W, 6, none⟩ (.int .u32 0)) := ((Only.refl W w).setCell 13 _).setCell 6 _
  have h0 : Wk ((w.setCell ⟨W, 13, none⟩ (.bool false)).setCell ⟨W, 6, none⟩ (.int .u32 0)) lo hi B D b R W A (gcof { s with wh := false, sm := 0 } none) s.nm I cf q := hw.set o ((hw.wc.s13 false).s6 0) rfl
  have f0 := hw.fw o
  have kc := h0.cnt_ x hx (by show (0 : Nat) < 4294967296; decide)
  have AF : Aside (Fw lo hi w ((w.setCell ⟨W, 13, none⟩ (.bool false)).setCell ⟨W, 6, none⟩ (.int .u32 0))) := f0
  clear hw h0 f0 o hx
  go_enter Tryz.func42, Tryz.ntmps42
  go_wp2_with (go_at_call 72; refine kc.mono ?_; rintro e1 w1 ⟨rfl, h1, f1⟩; have d1 := h1.wc.a1; have z1 := h1.wc.fz 1)
  first | go_end0 | (refine bodyPost_ret (results_none rfl _ _ _) rfl ?_)
  exact ⟨rfl, h1.set ((Only.refl W w1).setCell 1 _) (h1.wc.s1 73) rfl, (AF.out.trans f1).trans (h1.fw ((Only.refl W w1).setCell 1 _))⟩
set_option maxHeartbeats 1000000 in
theorem first_c (x : Nat) (hx : x < 256) (w : World) (hw : Wk w lo hi B D b R W A (gcof s none) s.nm I cf q) : Calls Tryz.prog 29 #[.pointer (some ⟨W, 0, none⟩), .int .u8 (x : Int)] w fun e w' => e = .returned (.tuple #[]) ∧ Wk w' lo hi B D b R W A (gcof (if x = 31 then gbgn x s else gbad 40 s) none) (if x = 31 then gbgn x s else gbad 40 s).nm I cf q ∧ Fw lo hi w w' := by
  have kb := begin_c x hx w hw
  by_cases h0 : x = 31
  · rw [if_pos h0]
    have t : ((x : Int) != 31) = false := by rw [h0]; rfl
    clear hw h0 hx
    go_enter Tryz.func29, Tryz.ntmps29
    go_wp2_with (go_at_call 42; refine kb.mono ?_; rintro e1 w1 ⟨rfl, h1, f1⟩)
    first | go_end0 | (refine bodyPost_ret (results_none rfl _ _ _) rfl ?_)
    exact ⟨rfl, h1, f1⟩
  · rw [if_neg h0]
    have t : ((x : Int) != 31) = true := by rw [bne_iff_ne]; omega
    have d15 := hw.wc.a15
    have z15 := hw.wc.fz 15
    have AW : Aside (Wk w lo hi B D b R W A (gcof s none) s.nm I cf q) := hw
    clear hw h0 hx kb
    go_enter Tryz.func29, Tryz.ntmps29
    go_wp2_with fail
    first | go_end0 | (refine bodyPost_ret (results_none rfl _ _ _) rfl ?_)
    exact ⟨rfl, (AW.out.bad 40).1, (AW.out.bad 40).2⟩
set_option maxHeartbeats 1000000 in
theorem second_c (x : Nat) (hx : x < 256) (w : World) (hw : Wk w lo hi B D b R W A (gcof s none) s.nm I cf q) (hs : s.sm < 4294967296) : Calls Tryz.prog 73 #[.pointer (some ⟨W, 0, none⟩), .int .u8 (x : Int)] w fun e w' => e = .returned (.tuple #[]) ∧ Wk w' lo hi B D b R W A (gcof (if x = 139 then { gcnt x s with nx := 2 } else gbad 40 s) none) (if x = 139 then { gcnt x s with nx := 2 } else gbad 40 s).nm I cf q ∧ Fw lo hi w w' := by
  have kc := hw.cnt_ x hx hs
  by_cases h0 : x = 139
  · rw [if_pos h0]
    have t : ((x : Int) != 139) = false := by rw [h0]; rfl
    clear hw hs h0 hx
    go_enter Tryz.func73, Tryz.ntmps73
    go_wp2_with (go_at_call 72; refine kc.mono ?_; rintro e1 w1 ⟨rfl, h1, f1⟩; have d1 := h1.wc.a1; have z1 := h1.wc.fz 1)
    first | go_end0 | (refine bodyPost_ret (results_none rfl _ _ _) rfl ?_)
    exact ⟨rfl, h1.set ((Only.refl W w1).setCell 1 _) (h1.wc.s1 102) rfl, f1.trans (h1.fw ((Only.refl W w1).setCell 1 _))⟩
  · rw [if_neg h0]
    have t : ((x : Int) != 139) = true := by rw [bne_iff_ne]; omega
    have d15 := hw.wc.a15
    have z15 := hw.wc.fz 15
    have AW : Aside (Wk w lo hi B D b R W A (gcof s none) s.nm I cf q) := hw
    clear hw hs h0 hx kc
    go_enter Tryz.func73, Tryz.ntmps73
    go_wp2_with fail
    first | go_end0 | (refine bodyPost_ret (results_none rfl _ _ _) rfl ?_)
    exact ⟨rfl, (AW.out.bad 40).1, (AW.out.bad 40).2⟩
set_option maxHeartbeats 1000000 in
theorem method_c (x : Nat) (hx : x < 256) (w : World) (hw : Wk w lo hi B D b R W A (gcof s none) s.nm I cf q) (hs : s.sm < 4294967296) : Calls Tryz.prog 102 #[.pointer (some ⟨W, 0, none⟩), .int .u8 (x : Int)] w fun e w' => e = .returned (.tuple #[]) ∧ Wk w' lo hi B D b R W A (gcof (if x = 8 then { gcnt x s with nx := 3 } else gbad 41 s) none) (if x = 8 then { gcnt x s with nx := 3 } else gbad 41 s).nm I cf q ∧ Fw lo hi w w' := by
  have kc := hw.cnt_ x hx hs
  by_cases h0 : x = 8
  · rw [if_pos h0]
    have t : ((x : Int) != 8) = false := by rw [h0]; rfl
    clear hw hs h0 hx
    go_enter Tryz.func102, Tryz.ntmps102
    go_wp2_with (go_at_call 72; refine kc.mono ?_; rintro e1 w1 ⟨rfl, h1, f1⟩; have d1 := h1.wc.a1; have z1 := h1.wc.fz 1)
    first | go_end0 | (refine bodyPost_ret (results_none rfl _ _ _) rfl ?_)
    exact ⟨rfl, h1.set ((Only.refl W w1).setCell 1 _) (h1.wc.s1 116) rfl, f1.trans (h1.fw ((Only.refl W w1).setCell 1 _))⟩
  · rw [if_neg h0]
    have t : ((x : Int) != 8) = true := by rw [bne_iff_ne]; omega
    have d15 := hw.wc.a15
    have z15 := hw.wc.fz 15
    have AW : Aside (Wk w lo hi B D b R W A (gcof s none) s.nm I cf q) := hw
    clear hw hs h0 hx kc
    go_enter Tryz.func102, Tryz.ntmps102
    go_wp2_with fail
    first | go_end0 | (refine bodyPost_ret (results_none rfl _ _ _) rfl ?_)
    exact ⟨rfl, (AW.out.bad 41).1, (AW.out.bad 41).2⟩
theorem and224 : ∀ f : _root_.Fin 256, (f.val < 32 → bits .and .u8 (f.val : Int) 224 = 0) ∧ (¬ f.val < 32 → bits .and .u8 (f.val : Int) 224 ≠ 0) := by decide +kernel
set_option maxHeartbeats 1000000 in
theorem flags_c (x : Nat) (hx : x < 256) (w : World) (hw : Wk w lo hi B D b R W A (gcof s none) s.nm I cf q) (hs : s.sm < 4294967296) : Calls Tryz.prog 116 #[.pointer (some ⟨W, 0, none⟩), .int .u8 (x : Int)] w fun e w' => e = .returned (.tuple #[]) ∧ Wk w' lo hi B D b R W A (gcof (if x < 32 then { gcnt x s with fl := x, nx := 4, lf := 6 } else gbad 42 s) none) (if x < 32 then { gcnt x s with fl := x, nx := 4, lf := 6 } else gbad 42 s).nm I cf q ∧ Fw lo hi w w' := by
  have kc := hw.cnt_ x hx hs
  have F := and224 ⟨x, hx⟩
  dsimp only at F
  obtain ⟨m, hm⟩ : ∃ m, bits .and .u8 (x : Int) 224 = m := ⟨_, rfl⟩
  rw [hm] at F
  by_cases h0 : x < 32
  · rw [if_pos h0]
    have t : (m != 0) = false := by rw [F.1 h0]; rfl
    have kt : ∀ w, Wk w lo hi B D b R W A { gcof (gcnt x s) none with fl := x } s.nm I cf q → Calls Tryz.prog 46 #[.pointer (some ⟨W, 0, none⟩), .func (.func 127) #[.pointer (some ⟨W, 0, none⟩)] #[], .int .i64 6] w _ := fun w h => h.then_ 127 6 w
    clear hw hs h0 hx F
    go_enter Tryz.func116, Tryz.ntmps116
    go_wp2_with (first
      | (go_at_call 72; refine kc.mono ?_; rintro e1 w1 ⟨rfl, h1, f1⟩; have d2 := h1.wc.a2; have z2 := h1.wc.fz 2)
      | (go_at_call 46; refine (kt _ (h1.set ((Only.refl W w1).setCell 2 _) (h1.wc.s2 x) rfl)).mono ?_; rintro e2 w2 ⟨rfl, h2, f2⟩))
    first | go_end0 | (refine bodyPost_ret (results_none rfl _ _ _) rfl ?_)
    exact ⟨rfl, h2, (f1.trans (h1.fw ((Only.refl W w1).setCell 2 _))).trans f2⟩
  · rw [if_neg h0]
    have t : (m != 0) = true := by rw [bne_iff_ne]; exact F.2 h0
    have d15 := hw.wc.a15
    have z15 := hw.wc.fz 15
    have AW : Aside (Wk w lo hi B D b R W A (gcof s none) s.nm I cf q) := hw
    clear hw hs h0 hx kc F
    go_enter Tryz.func116, Tryz.ntmps116
    go_wp2_with fail
    first | go_end0 | (refine bodyPost_ret (results_none rfl _ _ _) rfl ?_)
    exact ⟨rfl, (AW.out.bad 42).1, (AW.out.bad 42).2⟩
theorem Wk.nought (x : Nat) (w : World) (h : Wk w lo hi B D b R W A (gcof s none) n I cf q) : Calls Tryz.prog 117 #[.pointer (some ⟨W, 0, none⟩), .int .u8 (x : Int)] w fun e w' => e = .returned (.tuple #[]) ∧ Wk w' lo hi B D b R W A (gcof (gnou x s) none) n I cf q ∧ Fw lo hi w w' := by
  refine h.lift ((stopw_c x w h.wc).mono fun e w' ⟨h1, h2, h3⟩ => ⟨h1, ?_, h3⟩) ?_
  · unfold gnou
    split at h2
    · rw [if_pos (by assumption)]; exact h2
    · rw [if_neg (by assumption)]; exact h2
  · unfold gnou; split <;> rfl
set_option maxHeartbeats 1000000 in
theorem behind_c (x : Nat) (hx : x < 256) (w : World) (hw : Wk w lo hi B D b R W A (gcof s none) s.nm I cf q) : Calls Tryz.prog 103 #[.pointer (some ⟨W, 0, none⟩), .int .u8 (x : Int)] w fun e w' => e = .returned (.tuple #[]) ∧ Wk w' lo hi B D b R W A (gcof (if x = 31 then gbgn x s else { gnou x s with nx := 13 }) none) (if x = 31 then gbgn x s else { gnou x s with nx := 13 }).nm I cf q ∧ Fw lo hi w w' := by
  have kb := begin_c x hx w hw
  have kn := hw.nought x w
  by_cases h0 : x = 31
  · rw [if_pos h0]
    have t : ((x : Int) == 31) = true := by rw [h0]; rfl
    clear hw h0 hx kn
    go_enter Tryz.func103, Tryz.ntmps103
    go_wp2_with (go_at_call 42; refine kb.mono ?_; rintro e1 w1 ⟨rfl, h1, f1⟩)
    first | go_end0 | (refine bodyPost_ret (results_none rfl _ _ _) rfl ?_)
    exact ⟨rfl, h1, f1⟩
  · rw [if_neg h0]
    have t : ((x : Int) == 31) = false := by rw [beq_eq_false_iff_ne]; omega
    clear hw h0 hx kb
    go_enter Tryz.func103, Tryz.ntmps103
    go_wp2_with (go_at_call 117; refine kn.mono ?_; rintro e1 w1 ⟨rfl, h1, f1⟩; have d1 := h1.wc.a1; have z1 := h1.wc.fz 1)
    first | go_end0 | (refine bodyPost_ret (results_none rfl _ _ _) rfl ?_)
    refine ⟨rfl, ?_, f1.trans (h1.fw ((Only.refl W w1).setCell 1 _))⟩
    have en : s.nm = (gnou x s).nm := by unfold gnou; split <;> rfl
    have fin := h1.set ((Only.refl W w1).setCell 1 _) (h1.wc.s1 117) rfl
    have gen : ∀ m, s.nm = m → Wk (w1.setCell ⟨W, 1, none⟩ (fnv W 117)) lo hi B D b R W A { gcof (gnou x s) none with nx := 117 } m I cf q := fun m e => e ▸ fin
    exact gen _ en
end
end Go.Proofs.YtogednaamndpgaaGreatDoor

/-
  The walker's steps: extraLength, headSum, dataSum, dataSize.
-/
namespace Go.Proofs.YtogednaamndpgaaGreatDoor
open Go.RowKit
set_option linter.unusedVariables false
section
variable {lo hi B D b R W A : Nat} {n I : List Nat} {cf : Cfg} {q : Md} {s : Gs}
theorem Wk.gath {w : World} (x : Nat) (hx : x < 256) (hb : s.nb < 4294967296) (hl : 1 ≤ s.lf) (hl2 : s.lf < 1000000) (t : Bool) (ht : decide (s.lf - 1 = 0) = t) (h : Wk w lo hi B D b R W A (gcof s none) n I cf q) : Calls Tryz.prog 76 #[.pointer (some ⟨W, 0, none⟩), .int .u8 (x : Int)] w fun e w' => e = .returned (.bool t) ∧ Wk w' lo hi B D b R W A (gcof (gath x s) none) n I cf q ∧ Fw lo hi w w' := by
  rw [← ht]
  exact h.gather x hx hb hl hl2 w
theorem Wk.half {w : World} {m : Nat} (h : Wk w lo hi B D b R W A (gcof s none) n I cf q) (e : s.nb / 65536 = m) : Calls Tryz.prog 139 #[.pointer (some ⟨W, 0, none⟩)] w fun e w' => e = .returned (.int .u32 (m : Int)) ∧ w = w' := by
  rw [← e]
  exact half_c w h.wc
set_option maxHeartbeats 1000000 in
theorem extra_c (x : Nat) (hx : x < 256) (w : World) (hw : Wk w lo hi B D b R W A (gcof s none) s.nm I cf q) (hs : s.sm < 4294967296) (hb : s.nb < 4294967296) (hf : s.fl < 32) (hon : Oct s.nm) (hl1 : 1 ≤ s.lf) (hl : s.lf < 1000000) : Calls Tryz.prog 133 #[.pointer (some ⟨W, 0, none⟩), .int .u8 (x : Int)] w fun e w' => e = .returned (.tuple #[]) ∧ Wo w' lo hi B D b R W A (gext (Go.Proofs.YtogednaamndpgaaGreatDoor.gath x (gcnt x s))) ∧ Fw lo hi w w' := by
  have kc := hw.cnt_ x hx hs
  have hb2 := gath_lt (s := gcnt x s) hx hb
  unfold gext
  by_cases hz : s.lf - 1 = 0
  · rw [if_pos (show (Go.Proofs.YtogednaamndpgaaGreatDoor.gath x (gcnt x s)).lf = 0 from hz)]
    have kg : ∀ w, Wk w lo hi B D b R W A (gcof (gcnt x s) none) s.nm I cf q → Calls Tryz.prog 76 #[.pointer (some ⟨W, 0, none⟩), .int .u8 (x : Int)] w _ := fun w h => Wk.gath (s := gcnt x s) x hx hb hl1 hl true (decide_eq_true hz) h
    obtain ⟨s2, hs2⟩ : ∃ s2, Go.Proofs.YtogednaamndpgaaGreatDoor.gath x (gcnt x s) = s2 := ⟨_, rfl⟩
    have e1 : s2.fl = s.fl := by rw [← hs2]; rfl
    have e2 : s2.nm = s.nm := by rw [← hs2]; rfl
    rw [hs2] at kg hb2 ⊢
    rw [← e1] at hf
    rw [← e2] at hon
    obtain ⟨m, hm⟩ : ∃ m, s2.nb / 65536 = m := ⟨_, rfl⟩
    have hmb : m < 65536 := by omega
    rw [hm]
    rw [← e2] at kg kc
    by_cases h1 : 1024 < m
    · rw [if_pos h1]
      have t1 : decide (1024 < (m : Int)) = true := decide_eq_true (by omega)
      clear hw hs hb hf hon hl1 hl hx hz hs2 e1 e2 hb2
      go_enter Tryz.func133, Tryz.ntmps133
      go_wp2_with (first
        | (go_at_call 72; refine kc.mono ?_; rintro e1 w1 ⟨rfl, h1, f1⟩)
        | (go_at_call 76; refine (kg _ h1).mono ?_; rintro e2 w2 ⟨rfl, h2, f2⟩; have d15 := h2.wc.a15; have z15 := h2.wc.fz 15)
        | (go_at_call 139; refine (h2.half hm).mono ?_; rintro e3 w3 ⟨rfl, rfl⟩))
      first | go_end0 | (refine bodyPost_ret (results_none rfl _ _ _) rfl ?_)
      exact ⟨rfl, Or.inl ⟨rfl, I, cf, q, (h2.bad 46).1⟩, (f1.trans f2).trans (h2.bad 46).2⟩
    · rw [if_neg h1]
      have t1 : decide (1024 < (m : Int)) = false := decide_eq_false (by omega)
      by_cases h0 : m = 0
      · rw [if_pos h0]
        have kf : ∀ w, Wk w lo hi B D b R W A (gcof s2 none) s2.nm I cf q → Calls Tryz.prog 130 #[.pointer (some ⟨W, 0, none⟩)] w _ := fun w h => field_c (s := s2) w h hf hon
        have t0 : ((m : Int) == 0) = true := by rw [h0]; rfl
        clear hw hs hb hf hon hl1 hl hx hz hs2 e1 e2 hb2 h0
        go_enter Tryz.func133, Tryz.ntmps133
        go_wp2_with (first
          | (go_at_call 72; refine kc.mono ?_; rintro e1 w1 ⟨rfl, h1, f1⟩)
          | (go_at_call 76; refine (kg _ h1).mono ?_; rintro e2 w2 ⟨rfl, h2, f2⟩)
          | (go_at_call 139; refine (h2.half hm).mono ?_; rintro e3 w3 ⟨rfl, rfl⟩)
          | (go_at_call 130; refine (kf _ h2).mono ?_; rintro e4 w4 ⟨rfl, h4, f4⟩))
        first | go_end0 | (refine bodyPost_ret (results_none rfl _ _ _) rfl ?_)
        exact ⟨rfl, h4, (f1.trans f2).trans f4⟩
      · rw [if_neg h0]
        have kt : ∀ w, Wk w lo hi B D b R W A (gcof s2 none) s2.nm I cf q → Calls Tryz.prog 46 #[.pointer (some ⟨W, 0, none⟩), .func (.func 127) #[.pointer (some ⟨W, 0, none⟩)] #[], .int .i64 (m : Int)] w _ := fun w h => h.then_ 127 m w
        have t0 : ((m : Int) == 0) = false := by rw [beq_eq_false_iff_ne]; omega
        clear hw hs hb hf hon hl1 hl hx hz hs2 e1 e2 hb2 h0
        go_enter Tryz.func133, Tryz.ntmps133
        go_wp2_with (first
          | (go_at_call 72; refine kc.mono ?_; rintro e1 w1 ⟨rfl, h1, f1⟩)
          | (go_at_call 76; refine (kg _ h1).mono ?_; rintro e2 w2 ⟨rfl, h2, f2⟩)
          | (go_at_call 139; refine (h2.half hm).mono ?_; rintro e3 w3 ⟨rfl, rfl⟩)
          | (go_at_call 46; refine (kt _ h2).mono ?_; rintro e4 w4 ⟨rfl, h4, f4⟩))
        first | go_end0 | (refine bodyPost_ret (results_none rfl _ _ _) rfl ?_)
        exact ⟨rfl, Or.inl ⟨rfl, I, cf, q, h4⟩, (f1.trans f2).trans f4⟩
  · rw [if_neg (show ¬ (Go.Proofs.YtogednaamndpgaaGreatDoor.gath x (gcnt x s)).lf = 0 from hz)]
    have kg : ∀ w, Wk w lo hi B D b R W A (gcof (gcnt x s) none) s.nm I cf q → Calls Tryz.prog 76 #[.pointer (some ⟨W, 0, none⟩), .int .u8 (x : Int)] w _ := fun w h => Wk.gath (s := gcnt x s) x hx hb hl1 hl false (decide_eq_false hz) h
    clear hw hs hb hf hon hl1 hl hx hz hb2
    go_enter Tryz.func133, Tryz.ntmps133
    go_wp2_with (first
      | (go_at_call 72; refine kc.mono ?_; rintro e1 w1 ⟨rfl, h1, f1⟩)
      | (go_at_call 76; refine (kg _ h1).mono ?_; rintro e2 w2 ⟨rfl, h2, f2⟩))
    first | go_end0 | (refine bodyPost_ret (results_none rfl _ _ _) rfl ?_)
    exact ⟨rfl, Or.inl ⟨rfl, I, cf, q, h2⟩, f1.trans f2⟩
set_option maxHeartbeats 1000000 in
theorem hsum_c (x : Nat) (hx : x < 256) (w : World) (hw : Wk w lo hi B D b R W A (gcof s none) s.nm I cf q) (hs : s.sm < 4294967296) (hb : s.nb < 4294967296) (hon : Oct s.nm) (hl1 : 1 ≤ s.lf) (hl : s.lf < 1000000) : Calls Tryz.prog 136 #[.pointer (some ⟨W, 0, none⟩), .int .u8 (x : Int)] w fun e w' => e = .returned (.tuple #[]) ∧ Wo w' lo hi B D b R W A (ghsm (Go.Proofs.YtogednaamndpgaaGreatDoor.gath x s)) ∧ Fw lo hi w w' := by
  have hb2 := gath_lt (s := s) hx hb
  unfold ghsm
  by_cases hz : s.lf - 1 = 0
  · rw [if_pos (show (Go.Proofs.YtogednaamndpgaaGreatDoor.gath x s).lf = 0 from hz)]
    have kg := Wk.gath x hx hb hl1 hl true (decide_eq_true hz) hw
    obtain ⟨s2, hs2⟩ : ∃ s2, Go.Proofs.YtogednaamndpgaaGreatDoor.gath x s = s2 := ⟨_, rfl⟩
    have e2 : s2.nm = s.nm := by rw [← hs2]; rfl
    have e3 : s2.sm = s.sm := by rw [← hs2]; rfl
    rw [hs2] at kg hb2 ⊢
    rw [← e2] at hon kg
    obtain ⟨m, hm⟩ : ∃ m, s2.nb / 65536 = m := ⟨_, rfl⟩
    obtain ⟨v, hv⟩ : ∃ v, s2.sm % 65536 = v := ⟨_, rfl⟩
    have hand : bits .and .u32 (s2.sm : Int) 65535 = (v : Int) := by
      have := u32_mask s2.sm 16 (by omega) (by decide) 65535 rfl
      rw [← hv]
      exact this
    rw [hm, hv]
    by_cases h1 : m = v
    · rw [if_pos h1]
      have t1 : ((m : Int) != (v : Int)) = false := by rw [h1]; simp
      have ko : ∀ w, Wk w lo hi B D b R W A (gcof s2 none) s2.nm I cf q → Calls Tryz.prog 137 #[.pointer (some ⟨W, 0, none⟩)] w _ := fun w h => opm_c w h hon
      clear hw hs hb hon hl1 hl hx hz hs2 e2 e3 hb2 h1 hv
      go_enter Tryz.func136, Tryz.ntmps136
      go_upto_region 1 with (go_at_call 76; refine kg.mono ?_; rintro e2 w2 ⟨rfl, h2, f2⟩)
      have d6 : w2.cell? ⟨W, 6, none⟩ = some (.int .u32 (s2.sm : Int)) := h2.wc.a6
      have kh : ∀ k, Calls Tryz.prog 139 #[.pointer (some ⟨W, 0, none⟩)] (w2.drewN k) fun e w' => e = .returned (.int .u32 (m : Int)) ∧ w' = w2.drewN k := fun k => ((h2.drewN k).half hm).mono fun e w' h => ⟨h.1, h.2.symm⟩
      have A2 : Aside (Wk w2 lo hi B D b R W A (gcof s2 none) s2.nm I cf q ∧ Fw lo hi w w2) := ⟨h2, f2⟩
      clear h2 f2 kg
      go_quiet ((go_at_call 139; refine Calls.quiet_of_same (kh _)))
      go_wp2_with (go_at_call 137; refine (ko _ (A2.out.1.drewN _)).mono ?_; rintro e4 w4 ⟨rfl, h4, f4⟩)
      first | go_end0 | (refine bodyPost_ret (results_none rfl _ _ _) rfl ?_)
      exact ⟨rfl, Or.inr ⟨_, rfl, h4⟩, (A2.out.2.trans (Fw.drewN w2 _)).trans f4⟩
    · rw [if_neg h1]
      have t1 : ((m : Int) != (v : Int)) = true := by rw [bne_iff_ne]; omega
      clear hw hs hb hon hl1 hl hx hz hs2 e2 e3 hb2 h1 hv
      go_enter Tryz.func136, Tryz.ntmps136
      go_upto_region 1 with (go_at_call 76; refine kg.mono ?_; rintro e2 w2 ⟨rfl, h2, f2⟩)
      have d6 : w2.cell? ⟨W, 6, none⟩ = some (.int .u32 (s2.sm : Int)) := h2.wc.a6
      have kh : ∀ k, Calls Tryz.prog 139 #[.pointer (some ⟨W, 0, none⟩)] (w2.drewN k) fun e w' => e = .returned (.int .u32 (m : Int)) ∧ w' = w2.drewN k := fun k => ((h2.drewN k).half hm).mono fun e w' h => ⟨h.1, h.2.symm⟩
      have A2 : Aside (Wk w2 lo hi B D b R W A (gcof s2 none) s2.nm I cf q ∧ Fw lo hi w w2) := ⟨h2, f2⟩
      have d15 := h2.wc.a15
      have z15 := h2.wc.fz 15
      clear h2 f2 kg
      go_quiet ((go_at_call 139; refine Calls.quiet_of_same (kh _)))
      go_wp2_with fail
      first | go_end0 | (refine bodyPost_ret (results_none rfl _ _ _) rfl ?_)
      exact ⟨rfl, Or.inl ⟨rfl, I, cf, q, ((A2.out.1.drewN _).bad 43).1⟩, (A2.out.2.trans (Fw.drewN w2 _)).trans ((A2.out.1.drewN _).bad 43).2⟩
  · rw [if_neg (show ¬ (Go.Proofs.YtogednaamndpgaaGreatDoor.gath x s).lf = 0 from hz)]
    have kg := Wk.gath x hx hb hl1 hl false (decide_eq_false hz) hw
    clear hw hs hb hon hl1 hl hx hz hb2
    go_enter Tryz.func136, Tryz.ntmps136
    go_wp2_with (go_at_call 76; refine kg.mono ?_; rintro e2 w2 ⟨rfl, h2, f2⟩)
    first | go_end0 | (refine bodyPost_ret (results_none rfl _ _ _) rfl ?_)
    exact ⟨rfl, Or.inl ⟨rfl, I, cf, q, h2⟩, f2⟩
end
end Go.Proofs.YtogednaamndpgaaGreatDoor

/-
  The walker's steps: dataSum, dataSize; what it asks of its inflater.
-/
namespace Go.Proofs.YtogednaamndpgaaGreatDoor
open Go.RowKit
set_option linter.unusedVariables false
section
variable {lo hi B D b R W A : Nat} {n I : List Nat} {cf : Cfg} {q : Md} {s : Gs}
/-- How the walker stands behind a step: nothing to tell, a member's beginning, or its end. -/
def Wp (w : World) (lo hi B D b R W A : Nat) (r : Gs × List Evn) : Prop := (r.2 = [] ∧ ∃ I cf q, Wk w lo hi B D b R W A (gcof r.1 none) r.1.nm I cf q) ∨ (∃ m, r.2 = [(256, m)] ∧ Wk w lo hi B D b R W A (gcof r.1 (some (256, m))) r.1.nm [] c0 .want) ∨ (r.2 = [(257, [])] ∧ ∃ I cf q, Wk w lo hi B D b R W A (gcof r.1 (some (257, []))) r.1.nm I cf q)
theorem Wo.wp {w : World} {r : Gs × List Evn} (h : Wo w lo hi B D b R W A r) : Wp w lo hi B D b R W A r := by
  rcases h with h | h
  · exact Or.inl h
  · exact Or.inr (Or.inl h)
set_option maxHeartbeats 1000000 in
theorem dsum_c (x : Nat) (hx : x < 256) (w : World) (hw : Wk w lo hi B D b R W A (gcof s none) s.nm I cf q) (hb : s.nb < 4294967296) (hl1 : 1 ≤ s.lf) (hl : s.lf < 1000000) : Calls Tryz.prog 47 #[.pointer (some ⟨W, 0, none⟩), .int .u8 (x : Int)] w fun e w' => e = .returned (.tuple #[]) ∧ Wp w' lo hi B D b R W A (gdsm (gath x s)) ∧ Fw lo hi w w' := by
  unfold gdsm
  by_cases hz : s.lf - 1 = 0
  · rw [if_pos (show (gath x s).lf = 0 from hz)]
    have kg := Wk.gath x hx hb hl1 hl true (decide_eq_true hz) hw
    obtain ⟨s2, hs2⟩ : ∃ s2, gath x s = s2 := ⟨_, rfl⟩
    have e2 : s2.nm = s.nm := by rw [← hs2]; rfl
    rw [hs2] at kg ⊢
    rw [← e2] at kg
    obtain ⟨m, hm⟩ : ∃ m, s2.nb = m := ⟨_, rfl⟩
    obtain ⟨v, hv⟩ : ∃ v, s2.sm = v := ⟨_, rfl⟩
    by_cases h1 : s2.nb = s2.sm
    · rw [if_pos h1]
      have t1 : ((m : Int) != (v : Int)) = false := by rw [← hm, ← hv, h1]; simp
      have kt : ∀ w, Wk w lo hi B D b R W A (gcof s2 none) s2.nm I cf q → Calls Tryz.prog 46 #[.pointer (some ⟨W, 0, none⟩), .func (.func 77) #[.pointer (some ⟨W, 0, none⟩)] #[], .int .i64 4] w _ := fun w h => h.then_ 77 4 w
      clear hw hb hl1 hl hx hz hs2 e2 h1
      go_enter Tryz.func47, Tryz.ntmps47
      go_upto_region 1 with (go_at_call 76; refine kg.mono ?_; rintro e2 w2 ⟨rfl, h2, f2⟩)
      have d6 : w2.cell? ⟨W, 6, none⟩ = some (.int .u32 (v : Int)) := by rw [← hv]; exact h2.wc.a6
      have d5 : w2.cell? ⟨W, 5, none⟩ = some (.int .u32 (m : Int)) := by rw [← hm]; exact h2.wc.a5
      have A2 : Aside (Wk w2 lo hi B D b R W A (gcof s2 none) s2.nm I cf q ∧ Fw lo hi w w2) := ⟨h2, f2⟩
      clear h2 f2 kg hm hv
      go_quiet (fail)
      go_wp2_with (go_at_call 46; refine (kt _ (A2.out.1.drewN _)).mono ?_; rintro e4 w4 ⟨rfl, h4, f4⟩)
      first | go_end0 | (refine bodyPost_ret (results_none rfl _ _ _) rfl ?_)
      exact ⟨rfl, Or.inl ⟨rfl, I, cf, q, h4⟩, (A2.out.2.trans (Fw.drewN w2 _)).trans f4⟩
    · rw [if_neg h1]
      have t1 : ((m : Int) != (v : Int)) = true := by rw [bne_iff_ne, ← hm, ← hv]; omega
      clear hw hb hl1 hl hx hz hs2 e2 h1
      go_enter Tryz.func47, Tryz.ntmps47
      go_upto_region 1 with (go_at_call 76; refine kg.mono ?_; rintro e2 w2 ⟨rfl, h2, f2⟩)
      have d6 : w2.cell? ⟨W, 6, none⟩ = some (.int .u32 (v : Int)) := by rw [← hv]; exact h2.wc.a6
      have d5 : w2.cell? ⟨W, 5, none⟩ = some (.int .u32 (m : Int)) := by rw [← hm]; exact h2.wc.a5
      have d15 := h2.wc.a15
      have z15 := h2.wc.fz 15
      have A2 : Aside (Wk w2 lo hi B D b R W A (gcof s2 none) s2.nm I cf q ∧ Fw lo hi w w2) := ⟨h2, f2⟩
      clear h2 f2 kg hm hv
      go_quiet (fail)
      go_wp2_with fail
      first | go_end0 | (refine bodyPost_ret (results_none rfl _ _ _) rfl ?_)
      exact ⟨rfl, Or.inl ⟨rfl, I, cf, q, ((A2.out.1.drewN _).bad 44).1⟩, (A2.out.2.trans (Fw.drewN w2 _)).trans ((A2.out.1.drewN _).bad 44).2⟩
  · rw [if_neg (show ¬ (gath x s).lf = 0 from hz)]
    have kg := Wk.gath x hx hb hl1 hl false (decide_eq_false hz) hw
    clear hw hb hl1 hl hx hz
    go_enter Tryz.func47, Tryz.ntmps47
    go_wp2_with (go_at_call 76; refine kg.mono ?_; rintro e2 w2 ⟨rfl, h2, f2⟩)
    first | go_end0 | (refine bodyPost_ret (results_none rfl _ _ _) rfl ?_)
    exact ⟨rfl, Or.inl ⟨rfl, I, cf, q, h2⟩, f2⟩
theorem Wk.close {w : World} (h : Wk w lo hi B D b R W A (gcof s none) s.nm I cf q) : Wk (((((((w.setCell ⟨W, 8, none⟩ (.int .i64 3)).setCell ⟨W, 9, none⟩ (.int .u8 0)).setCell ⟨W, 10, none⟩ (.int .i64 0)).setCell ⟨W, 11, none⟩ (.int .i64 0)).setCell ⟨W, 12, none⟩ (.string ⟨#[]⟩)).setCell ⟨W, 13, none⟩ (.bool true)).setCell ⟨W, 1, none⟩ (fnv W 103)) lo hi B D b R W A (gcof { s with wh := true, nx := 12 } (some (257, []))) s.nm I cf q ∧ Fw lo hi w (((((((w.setCell ⟨W, 8, none⟩ (.int .i64 3)).setCell ⟨W, 9, none⟩ (.int .u8 0)).setCell ⟨W, 10, none⟩ (.int .i64 0)).setCell ⟨W, 11, none⟩ (.int .i64 0)).setCell ⟨W, 12, none⟩ (.string ⟨#[]⟩)).setCell ⟨W, 13, none⟩ (.bool true)).setCell ⟨W, 1, none⟩ (fnv W 103)) := by
  have o : Only W w (((((((w.setCell ⟨W, 8, none⟩ (.int .i64 3)).setCell ⟨W, 9, none⟩ (.int .u8 0)).setCell ⟨W, 10, none⟩ (.int .i64 0)).setCell ⟨W, 11, none⟩ (.int .i64 0)).setCell ⟨W, 12, none⟩ (.string ⟨#[]⟩)).setCell ⟨W, 13, none⟩ (.bool true)).setCell ⟨W, 1, none⟩ (fnv W 103)) := ((only5 W w _ _ _ _ _).setCell 13 _).setCell 1 _
  exact ⟨h.set o (((h.wc.sev (some (257, []))).s13 true).s1 103) rfl, h.fw o⟩
set_option maxHeartbeats 1000000 in
theorem dsize_c (x : Nat) (hx : x < 256) (w : World) (hw : Wk w lo hi B D b R W A (gcof s none) s.nm I cf q) (hb : s.nb < 4294967296) (hl1 : 1 ≤ s.lf) (hl : s.lf < 1000000) : Calls Tryz.prog 77 #[.pointer (some ⟨W, 0, none⟩), .int .u8 (x : Int)] w fun e w' => e = .returned (.tuple #[]) ∧ Wp w' lo hi B D b R W A (gdsz (gath x s)) ∧ Fw lo hi w w' := by
  unfold gdsz
  by_cases hz : s.lf - 1 = 0
  · rw [if_pos (show (gath x s).lf = 0 from hz)]
    have kg := Wk.gath x hx hb hl1 hl true (decide_eq_true hz) hw
    obtain ⟨s2, hs2⟩ : ∃ s2, gath x s = s2 := ⟨_, rfl⟩
    have e2 : s2.nm = s.nm := by rw [← hs2]; rfl
    rw [hs2] at kg ⊢
    rw [← e2] at kg
    obtain ⟨m, hm⟩ : ∃ m, s2.nb = m := ⟨_, rfl⟩
    obtain ⟨v, hv⟩ : ∃ v, s2.gv % 4294967296 = v := ⟨_, rfl⟩
    by_cases h1 : s2.nb = s2.gv % 4294967296
    · rw [if_pos h1]
      have t1 : ((m : Int) != (v : Int)) = false := by rw [← hm, ← hv, h1]; simp
      clear hw hb hl1 hl hx hz hs2 e2 h1
      go_enter Tryz.func77, Tryz.ntmps77
      go_upto_region 1 with (go_at_call 76; refine kg.mono ?_; rintro e2 w2 ⟨rfl, h2, f2⟩)
      have d7 : w2.cell? ⟨W, 7, none⟩ = some (.int .u32 (v : Int)) := by rw [← hv]; exact h2.wc.a7
      have d5 : w2.cell? ⟨W, 5, none⟩ = some (.int .u32 (m : Int)) := by rw [← hm]; exact h2.wc.a5
      have c8 := h2.wc.a8
      have c9 := h2.wc.a9
      have c10 := h2.wc.a10
      have c11 := h2.wc.a11
      have c12 := h2.wc.a12
      have c13 := h2.wc.a13
      have c1 := h2.wc.a1
      have z8 := h2.wc.fz 8
      have z9 := h2.wc.fz 9
      have z10 := h2.wc.fz 10
      have z11 := h2.wc.fz 11
      have z12 := h2.wc.fz 12
      have z13 := h2.wc.fz 13
      have z1 := h2.wc.fz 1
      have A2 : Aside (Wk w2 lo hi B D b R W A (gcof s2 none) s2.nm I cf q ∧ Fw lo hi w w2) := ⟨h2, f2⟩
      clear h2 f2 kg hm hv
      go_quiet (fail)
      go_wp2_with fail
      first | go_end0 | (refine bodyPost_ret (results_none rfl _ _ _) rfl ?_)
      exact ⟨rfl, Or.inr (Or.inr ⟨rfl, I, cf, q, (A2.out.1.drewN _).close.1⟩), (A2.out.2.trans (Fw.drewN w2 _)).trans (A2.out.1.drewN _).close.2⟩
    · rw [if_neg h1]
      have t1 : ((m : Int) != (v : Int)) = true := by rw [bne_iff_ne, ← hm, ← hv]; omega
      clear hw hb hl1 hl hx hz hs2 e2 h1
      go_enter Tryz.func77, Tryz.ntmps77
      go_upto_region 1 with (go_at_call 76; refine kg.mono ?_; rintro e2 w2 ⟨rfl, h2, f2⟩)
      have d7 : w2.cell? ⟨W, 7, none⟩ = some (.int .u32 (v : Int)) := by rw [← hv]; exact h2.wc.a7
      have d5 : w2.cell? ⟨W, 5, none⟩ = some (.int .u32 (m : Int)) := by rw [← hm]; exact h2.wc.a5
      have d15 := h2.wc.a15
      have z15 := h2.wc.fz 15
      have A2 : Aside (Wk w2 lo hi B D b R W A (gcof s2 none) s2.nm I cf q ∧ Fw lo hi w w2) := ⟨h2, f2⟩
      clear h2 f2 kg hm hv
      go_quiet (fail)
      go_wp2_with fail
      first | go_end0 | (refine bodyPost_ret (results_none rfl _ _ _) rfl ?_)
      exact ⟨rfl, Or.inl ⟨rfl, I, cf, q, ((A2.out.1.drewN _).bad 45).1⟩, (A2.out.2.trans (Fw.drewN w2 _)).trans ((A2.out.1.drewN _).bad 45).2⟩
  · rw [if_neg (show ¬ (gath x s).lf = 0 from hz)]
    have kg := Wk.gath x hx hb hl1 hl false (decide_eq_false hz) hw
    clear hw hb hl1 hl hx hz
    go_enter Tryz.func77, Tryz.ntmps77
    go_wp2_with (go_at_call 76; refine kg.mono ?_; rintro e2 w2 ⟨rfl, h2, f2⟩)
    first | go_end0 | (refine bodyPost_ret (results_none rfl _ _ _) rfl ?_)
    exact ⟨rfl, Or.inl ⟨rfl, I, cf, q, h2⟩, f2⟩
end
end Go.Proofs.YtogednaamndpgaaGreatDoor

/-
  What holds of the walker's states; every step but that of the inflater.
-/
namespace Go.Proofs.YtogednaamndpgaaGreatDoor
open Go.RowKit
set_option linter.unusedVariables false
structure Gok (s : Gs) : Prop where
  fl : s.fl < 32
  sm : s.sm < 4294967296
  nb : s.nb < 4294967296
  lf : s.lf < 1000000
  nm : Oct s.nm
  f8 : s.fl / 8 % 2 = 1 → s.nm = []
  nx : s.nx ≤ 13
  l1 : s.why = 0 → (s.nx = 4 ∨ s.nx = 5 ∨ s.nx = 8 ∨ s.nx = 10 ∨ s.nx = 11) → 1 ≤ s.lf
  n6 : s.why = 0 → s.nx = 6 → s.nm.length + s.lf = 256
  ne : s.nx ≤ 3 ∨ 9 ≤ s.nx → s.nm = []
  d9 : s.why = 0 → s.nx = 9 → Stands s.ip MM s.y ∧ ¬ Over s.y ∧ s.sm = Go.Proofs.YtogednaamndpgaaGreatDoor.sm 0 s.y.out ∧ s.gv = s.y.out.length
  t8 : s.nx = 6 ∨ s.nx = 7 → s.fl / 8 % 2 = 0
theorem gok0 : Gok s0 := ⟨by decide, by decide, by decide, by decide, fun x hx => (by cases hx), fun _ => rfl, by decide, fun _ h => by simp [s0] at h, fun _ h => by simp [s0] at h, fun _ => rfl, fun _ h => by simp [s0] at h, fun h => by simp [s0] at h⟩
theorem stp_lt2 {s x : Nat} (h : s < 4294967296) (hx : x < 256) : stp s x < 4294967296 := stp_lt h hx
section
variable {s : Gs} {x : Nat}
theorem gok_opn (h1 : s.fl < 32) (h3 : s.nb < 4294967296) (h4 : s.lf < 1000000) : Gok (gopn s).1 :=
  ⟨h1, by show (0 : Nat) < 4294967296; decide, h3, h4, fun x hx => (by cases hx), fun _ => rfl, by show (9 : Nat) ≤ 13; decide, fun _ h => by simp [gopn] at h, fun _ h => by simp [gopn] at h, fun _ => rfl, fun _ _ => ⟨stands_nil MM, c0_open, rfl, rfl⟩, fun h => by simp [gopn] at h⟩
theorem gok_field (h1 : s.fl < 32) (h2 : s.sm < 4294967296) (h3 : s.nb < 4294967296) (h4 : s.lf < 1000000) (h5 : Oct s.nm) (h6 : s.fl / 8 % 2 = 1 → s.nm = []) : Gok (gfield s).1 := by
  unfold gfield
  by_cases b4 : s.fl / 4 % 2 = 1
  · rw [if_pos b4]
    exact ⟨by show s.fl - 4 < 32; omega, h2, h3, by show (2 : Nat) < 1000000; decide, h5, fun e => h6 (by have : (s.fl - 4) / 8 % 2 = 1 := e; omega), by show (5 : Nat) ≤ 13; decide, fun _ _ => by show 1 ≤ 2; decide, fun _ h => by simp at h, fun h => by simp at h, fun _ h => by simp at h, fun h => by simp at h⟩
  · rw [if_neg b4]
    by_cases b8 : s.fl / 8 % 2 = 1
    · rw [if_pos b8]
      exact ⟨by show s.fl - 8 < 32; omega, h2, h3, by show (256 : Nat) < 1000000; decide, h5, fun e => h6 b8, by show (6 : Nat) ≤ 13; decide, fun _ h => by simp at h, fun _ h => by show s.nm.length + 256 = 256; rw [h6 b8]; rfl, fun h => by simp at h, fun _ h => by simp at h, fun _ => by show (s.fl - 8) / 8 % 2 = 0; omega⟩
    · rw [if_neg b8]
      by_cases b16 : s.fl / 16 % 2 = 1
      · rw [if_pos b16]
        exact ⟨by show s.fl - 16 < 32; omega, h2, h3, by show (256 : Nat) < 1000000; decide, h5, fun e => h6 (by have : (s.fl - 16) / 8 % 2 = 1 := e; omega), by show (7 : Nat) ≤ 13; decide, fun _ h => by simp at h, fun _ h => by simp at h, fun h => by simp at h, fun _ h => by simp at h, fun _ => by show (s.fl - 16) / 8 % 2 = 0; omega⟩
      · rw [if_neg b16]
        by_cases b2 : s.fl / 2 % 2 = 1
        · rw [if_pos b2]
          exact ⟨by show s.fl - 2 < 32; omega, h2, h3, by show (2 : Nat) < 1000000; decide, h5, fun e => h6 (by have : (s.fl - 2) / 8 % 2 = 1 := e; omega), by show (8 : Nat) ≤ 13; decide, fun _ _ => by show 1 ≤ 2; decide, fun _ h => by simp at h, fun h => by simp at h, fun _ h => by simp at h, fun h => by simp at h⟩
        · rw [if_neg b2]
          exact gok_opn h1 h3 h4
theorem gok_bad (h : Gok s) (y : Nat) (hy : y ≠ 0) : Gok (gbad y s) := ⟨h.fl, h.sm, h.nb, h.lf, h.nm, h.f8, h.nx, fun e => absurd e hy, fun e => absurd e hy, h.ne, fun e => absurd e hy, h.t8⟩
/-- A bad end of whatever state. -/
theorem gok_stop (y : Nat) (hy : y ≠ 0) (h1 : s.fl < 32) (h2 : s.sm < 4294967296) (h3 : s.nb < 4294967296) (h4 : s.lf < 1000000) (h5 : Oct s.nm) (h6 : s.fl / 8 % 2 = 1 → s.nm = []) (h7 : s.nx ≤ 13) (h8 : s.nx ≤ 3 ∨ 9 ≤ s.nx → s.nm = []) (h9 : s.nx = 6 ∨ s.nx = 7 → s.fl / 8 % 2 = 0) : Gok (gbad y s) := ⟨h1, h2, h3, h4, h5, h6, h7, fun e => absurd e hy, fun e => absurd e hy, h8, fun e => absurd e hy, h9⟩
theorem gok_txt (h : Gok s) (h0 : s.why = 0) (hx : x < 256) (hk : s.nx = 6 ∨ s.nx = 7) (s2 : Gs) (e : s2 = s ∨ (x ≠ 0 ∧ 0 < s.lf ∧ s.nx = 6 ∧ s2 = { s with nm := s.nm ++ [x] })) (hd : s.nx = 6 → 0 < s.lf → x ≠ 0 → s2 = { s with nm := s.nm ++ [x] }) : Gok (gtxt x s2).1 := by
  have hf8 := h.t8 hk
  have q : s2.fl = s.fl ∧ s2.sm = s.sm ∧ s2.nb = s.nb ∧ s2.lf = s.lf ∧ Oct s2.nm ∧ s2.nx = s.nx ∧ s2.why = s.why := by
    rcases e with e | ⟨_, _, _, e⟩
    · subst e; exact ⟨rfl, rfl, rfl, rfl, h.nm, rfl, rfl⟩
    · subst e
      refine ⟨rfl, rfl, rfl, rfl, fun y hy => ?_, rfl, rfl⟩
      rcases List.mem_append.1 hy with q | q
      · exact h.nm y q
      · rw [List.mem_singleton.1 q]; exact hx
  obtain ⟨q1, q2, q3, q4, q5, q6, q7⟩ := q
  have hsm := stp_lt2 h.sm hx
  have f1 := h.fl
  have f3 := h.nb
  have f4 := h.lf
  unfold gtxt
  by_cases hx0 : x = 0
  · rw [if_pos hx0]
    exact gok_field (s := gcnt x s2) (by show s2.fl < 32; omega) (by show stp s2.sm x < _; rw [q2]; exact hsm) (by show s2.nb < _; omega) (by show s2.lf < _; omega) q5 (fun e => by have : s2.fl / 8 % 2 = 1 := e; rw [q1] at this; omega)
  · rw [if_neg hx0]
    by_cases hl : s2.lf = 0
    · rw [if_pos hl]
      exact gok_stop (s := gcnt x s2) 46 (by decide) (by show s2.fl < 32; omega) (by show stp s2.sm x < _; rw [q2]; exact hsm) (by show s2.nb < _; omega) (by show s2.lf < _; omega) q5 (fun e => by have : s2.fl / 8 % 2 = 1 := e; rw [q1] at this; omega) (by show s2.nx ≤ 13; omega) (fun e => by have : s2.nx ≤ 3 ∨ 9 ≤ s2.nx := e; omega) (fun _ => by show s2.fl / 8 % 2 = 0; rw [q1]; exact hf8)
    · rw [if_neg hl]
      refine ⟨by show s2.fl < 32; omega, by show stp s2.sm x < _; rw [q2]; exact hsm, by show s2.nb < _; omega, by show s2.lf - 1 < _; omega, q5, fun e => by have : s2.fl / 8 % 2 = 1 := e; rw [q1] at this; omega, by show s2.nx ≤ 13; omega, fun _ e => by have : s2.nx = 4 ∨ s2.nx = 5 ∨ s2.nx = 8 ∨ s2.nx = 10 ∨ s2.nx = 11 := e; omega, fun _ e => ?_, fun e => by have : s2.nx ≤ 3 ∨ 9 ≤ s2.nx := e; omega, fun _ e => by have : s2.nx = 9 := e; omega, fun _ => by show s2.fl / 8 % 2 = 0; rw [q1]; exact hf8⟩
      have e6 : s.nx = 6 := q6.symm.trans e
      have := hd e6 (by omega) hx0
      have h6 := h.n6 h0 e6
      show s2.nm.length + (s2.lf - 1) = 256
      rw [this]
      show (s.nm ++ [x]).length + (s.lf - 1) = 256
      rw [List.length_append, List.length_singleton]
      omega
theorem Gok.step (h : Gok s) (h0 : s.why = 0) (hx : x < 256) (h9 : s.nx ≠ 9) : Gok (gst s x).1 := by
  have hsm := stp_lt2 h.sm hx
  have hs0 := stp_lt2 (s := 0) (by decide) hx
  have hn := h.nx
  have hf := h.fl
  have hl := h.lf
  have hnb := h.nb
  have bgn : s.nm = [] → Gok (gbgn x s) := fun e => ⟨hf, hs0, hnb, hl, h.nm, fun _ => e, by show (1 : Nat) ≤ 13; decide, fun _ h => by simp [gbgn] at h, fun _ h => by simp [gbgn] at h, fun _ => e, fun _ h => by simp [gbgn] at h, fun h => by simp [gbgn] at h⟩
  have nou : ∀ k, (k = 12 ∨ k = 13) → s.nm = [] → Gok { gnou x s with nx := 13 } := fun k _ e => by
    unfold gnou
    split
    · exact ⟨hf, h.sm, hnb, hl, h.nm, fun _ => e, by show (13 : Nat) ≤ 13; decide, fun _ h => by simp at h, fun _ h => by simp at h, fun _ => e, fun _ h => by simp at h, fun h => by simp at h⟩
    · exact ⟨hf, h.sm, hnb, hl, h.nm, fun _ => e, by show (13 : Nat) ≤ 13; decide, fun _ h => by simp at h, fun _ h => by simp at h, fun _ => e, fun _ h => by simp at h, fun h => by simp at h⟩
  have cases13 : s.nx = 0 ∨ s.nx = 1 ∨ s.nx = 2 ∨ s.nx = 3 ∨ s.nx = 4 ∨ s.nx = 5 ∨ s.nx = 6 ∨ s.nx = 7 ∨ s.nx = 8 ∨ s.nx = 10 ∨ s.nx = 11 ∨ s.nx = 12 ∨ s.nx = 13 := by omega
  have gth : (gath x s).nb < 4294967296 := gath_lt hx hnb
  rcases cases13 with e | e | e | e | e | e | e | e | e | e | e | e | e
  · have eg : gst s x = (if x = 31 then gbgn x s else gbad 40 s, []) := by unfold gst; rw [e]; rfl
    rw [eg]
    show Gok (if x = 31 then gbgn x s else gbad 40 s)
    split
    · exact bgn (h.ne (by omega))
    · exact gok_bad h 40 (by decide)
  · have eg : gst s x = (if x = 139 then { gcnt x s with nx := 2 } else gbad 40 s, []) := by unfold gst; rw [e]; rfl
    rw [eg]
    show Gok (if x = 139 then { gcnt x s with nx := 2 } else gbad 40 s)
    have en := h.ne (by omega)
    split
    · exact ⟨hf, hsm, hnb, hl, h.nm, fun _ => en, by show (2 : Nat) ≤ 13; decide, fun _ h => by simp at h, fun _ h => by simp at h, fun _ => en, fun _ h => by simp at h, fun h => by simp at h⟩
    · exact gok_bad h 40 (by decide)
  · have eg : gst s x = (if x = 8 then { gcnt x s with nx := 3 } else gbad 41 s, []) := by unfold gst; rw [e]; rfl
    rw [eg]
    show Gok (if x = 8 then { gcnt x s with nx := 3 } else gbad 41 s)
    have en := h.ne (by omega)
    split
    · exact ⟨hf, hsm, hnb, hl, h.nm, fun _ => en, by show (3 : Nat) ≤ 13; decide, fun _ h => by simp at h, fun _ h => by simp at h, fun _ => en, fun _ h => by simp at h, fun h => by simp at h⟩
    · exact gok_bad h 41 (by decide)
  · have eg : gst s x = (if x < 32 then { gcnt x s with fl := x, nx := 4, lf := 6 } else gbad 42 s, []) := by unfold gst; rw [e]; rfl
    rw [eg]
    show Gok (if x < 32 then { gcnt x s with fl := x, nx := 4, lf := 6 } else gbad 42 s)
    have en := h.ne (by omega)
    split
    · rename_i hx32
      exact ⟨hx32, hsm, hnb, by show (6 : Nat) < 1000000; decide, h.nm, fun _ => en, by show (4 : Nat) ≤ 13; decide, fun _ _ => by show 1 ≤ 6; decide, fun _ h => by simp at h, fun h => by simp at h, fun _ h => by simp at h, fun h => by simp at h⟩
    · exact gok_bad h 42 (by decide)
  · have eg : gst s x = gany x s := by unfold gst; rw [e]; rfl
    rw [eg]
    unfold gany
    split
    · exact gok_field (s := { gcnt x s with lf := s.lf - 1 }) hf hsm hnb (by show s.lf - 1 < _; omega) h.nm h.f8
    · rename_i hz
      exact ⟨hf, hsm, hnb, by show s.lf - 1 < _; omega, h.nm, h.f8, hn, fun _ _ => by show 1 ≤ s.lf - 1; omega, fun _ q => by have : s.nx = 6 := q; omega, fun q => by have : s.nx ≤ 3 ∨ 9 ≤ s.nx := q; omega, fun _ q => absurd q h9, fun q => by have : s.nx = 6 ∨ s.nx = 7 := q; omega⟩
  · have eg : gst s x = gext (gath x (gcnt x s)) := by unfold gst; rw [e]; rfl
    rw [eg]
    unfold gext
    split
    · split
      · exact gok_stop (s := gath x (gcnt x s)) 46 (by decide) hf hsm gth (by show s.lf - 1 < _; omega) h.nm h.f8 hn (fun q => by have : s.nx ≤ 3 ∨ 9 ≤ s.nx := q; omega) (fun q => by have : s.nx = 6 ∨ s.nx = 7 := q; omega)
      · split
        · exact gok_field (s := gath x (gcnt x s)) hf hsm gth (by show s.lf - 1 < _; omega) h.nm h.f8
        · rename_i q1 q2
          exact ⟨hf, hsm, gth, by show (gath x (gcnt x s)).nb / 65536 < 1000000; omega, h.nm, h.f8, by show (4 : Nat) ≤ 13; decide, fun _ _ => by show 1 ≤ (gath x (gcnt x s)).nb / 65536; omega, fun _ h => by simp at h, fun h => by simp at h, fun _ h => by simp at h, fun h => by simp at h⟩
    · rename_i hz
      exact ⟨hf, hsm, gth, by show s.lf - 1 < _; omega, h.nm, h.f8, hn, fun _ _ => by have : ¬ s.lf - 1 = 0 := hz; show 1 ≤ s.lf - 1; omega, fun _ q => by have : s.nx = 6 := q; omega, fun q => by have : s.nx ≤ 3 ∨ 9 ≤ s.nx := q; omega, fun _ q => absurd q h9, fun q => by have : s.nx = 6 ∨ s.nx = 7 := q; omega⟩
  · have eg : gst s x = gtxt x (gnam x s) := by unfold gst; rw [e]; rfl
    rw [eg]
    refine gok_txt h h0 hx (Or.inl e) _ ?_ ?_
    · unfold gnam
      split
      · rename_i q; exact Or.inr ⟨q.1, q.2, e, rfl⟩
      · exact Or.inl rfl
    · intro _ q1 q2; unfold gnam; rw [if_pos ⟨q2, q1⟩]
  · have eg : gst s x = gtxt x s := by unfold gst; rw [e]; rfl
    rw [eg]
    exact gok_txt h h0 hx (Or.inr e) _ (Or.inl rfl) (fun q => by omega)
  · have eg : gst s x = ghsm (gath x s) := by unfold gst; rw [e]; rfl
    rw [eg]
    unfold ghsm
    split
    · split
      · exact gok_opn (s := gath x s) hf gth (by show s.lf - 1 < _; omega)
      · exact gok_stop (s := gath x s) 43 (by decide) hf h.sm gth (by show s.lf - 1 < _; omega) h.nm h.f8 hn (fun q => by have : s.nx ≤ 3 ∨ 9 ≤ s.nx := q; omega) (fun q => by have : s.nx = 6 ∨ s.nx = 7 := q; omega)
    · rename_i hz
      exact ⟨hf, h.sm, gth, by show s.lf - 1 < _; omega, h.nm, h.f8, hn, fun _ _ => by have : ¬ s.lf - 1 = 0 := hz; show 1 ≤ s.lf - 1; omega, fun _ q => by have : s.nx = 6 := q; omega, fun q => by have : s.nx ≤ 3 ∨ 9 ≤ s.nx := q; omega, fun _ q => absurd q h9, fun q => by have : s.nx = 6 ∨ s.nx = 7 := q; omega⟩
  · have eg : gst s x = gdsm (gath x s) := by unfold gst; rw [e]; rfl
    rw [eg]
    have en := h.ne (by omega)
    unfold gdsm
    split
    · split
      · exact ⟨hf, h.sm, gth, by show (4 : Nat) < 1000000; decide, h.nm, fun _ => en, by show (11 : Nat) ≤ 13; decide, fun _ _ => by show 1 ≤ 4; decide, fun _ h => by simp at h, fun _ => en, fun _ h => by simp at h, fun h => by simp at h⟩
      · exact gok_stop (s := gath x s) 44 (by decide) hf h.sm gth (by show s.lf - 1 < _; omega) h.nm h.f8 hn (fun _ => en) (fun q => by have : s.nx = 6 ∨ s.nx = 7 := q; omega)
    · rename_i hz
      exact ⟨hf, h.sm, gth, by show s.lf - 1 < _; omega, h.nm, h.f8, hn, fun _ _ => by have : ¬ s.lf - 1 = 0 := hz; show 1 ≤ s.lf - 1; omega, fun _ q => by have : s.nx = 6 := q; omega, fun _ => en, fun _ q => absurd q h9, fun q => by have : s.nx = 6 ∨ s.nx = 7 := q; omega⟩
  · have eg : gst s x = gdsz (gath x s) := by unfold gst; rw [e]; rfl
    rw [eg]
    have en := h.ne (by omega)
    unfold gdsz
    split
    · split
      · exact ⟨hf, h.sm, gth, by show s.lf - 1 < _; omega, h.nm, fun _ => en, by show (12 : Nat) ≤ 13; decide, fun _ h => by simp at h, fun _ h => by simp at h, fun _ => en, fun _ h => by simp at h, fun h => by simp at h⟩
      · exact gok_stop (s := gath x s) 45 (by decide) hf h.sm gth (by show s.lf - 1 < _; omega) h.nm h.f8 hn (fun _ => en) (fun q => by have : s.nx = 6 ∨ s.nx = 7 := q; omega)
    · rename_i hz
      exact ⟨hf, h.sm, gth, by show s.lf - 1 < _; omega, h.nm, h.f8, hn, fun _ _ => by have : ¬ s.lf - 1 = 0 := hz; show 1 ≤ s.lf - 1; omega, fun _ q => by have : s.nx = 6 := q; omega, fun _ => en, fun _ q => absurd q h9, fun q => by have : s.nx = 6 ∨ s.nx = 7 := q; omega⟩
  · have eg : gst s x = (if x = 31 then gbgn x s else { gnou x s with nx := 13 }, []) := by unfold gst; rw [e]; rfl
    rw [eg]
    show Gok (if x = 31 then gbgn x s else { gnou x s with nx := 13 })
    split
    · exact bgn (h.ne (by omega))
    · exact nou 12 (Or.inl rfl) (h.ne (by omega))
  · have eg : gst s x = (gnou x s, []) := by unfold gst; rw [e]; rfl
    rw [eg]
    show Gok (gnou x s)
    unfold gnou
    split
    · exact h
    · exact gok_bad h 47 (by decide)
theorem Gok.data (h : Gok s) (h0 : s.why = 0) (h9 : s.nx = 9) {y : Cfg} (hy : Stands (s.ip ++ [x]) MM y) : Gok (gdat s x y) := by
  have en := h.ne (by omega)
  have hsm : Go.Proofs.YtogednaamndpgaaGreatDoor.sm 0 y.out < 4294967296 := sm_lt y.out (by decide) hy.oct
  unfold gdat
  by_cases e : endC y = true
  · rw [if_pos e, if_pos e]
    exact ⟨h.fl, hsm, h.nb, by show (4 : Nat) < 1000000; decide, h.nm, fun _ => en, by show (10 : Nat) ≤ 13; decide, fun _ _ => by show 1 ≤ 4; decide, fun _ h => by simp at h, fun _ => en, fun _ h => by simp at h, fun h => by simp at h⟩
  · rw [if_neg e, if_neg e]
    refine ⟨h.fl, hsm, h.nb, h.lf, h.nm, fun _ => en, by show (9 : Nat) ≤ 13; decide, fun _ h => by simp at h, fun _ h => by simp at h, fun _ => en, fun hb _ => ⟨hy, ?_, rfl, rfl⟩, fun h => by simp at h⟩
    rintro (q | ⟨k, q⟩)
    · exact e (done_c3 q).1
    · have h1 : badC y = 0 := hb
      rw [(bad_c3 q).2.1] at h1
      exact bad_nz hy q h1
theorem Gok.sp (h : Gok s) (h0 : s.why = 0) (hx : x < 256) {s1 : Gs} {E : List Evn} (hs : Sp s x s1 E) : Gok s1 := by
  rcases hs with ⟨h9, y, hy, rfl, _⟩ | ⟨h9, rfl, _⟩
  · exact h.data h0 h9 hy
  · exact h.step h0 hx h9
end
end Go.Proofs.YtogednaamndpgaaGreatDoor

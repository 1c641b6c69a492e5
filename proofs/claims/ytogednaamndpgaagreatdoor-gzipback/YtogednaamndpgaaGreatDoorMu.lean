/-
  Own texts of this seat, one behind the other: what each says stands ahead of it.
-/
import Derived.Test.YtogednaamndpgaaGreatDoorMt
import Derived.Test.YtogednaamndpgaaGreatDoorMl
/-
 The walker's steps: extraLength, headSum, dataSum, dataSize.
-/
namespace Go.Proofs.YtogednaamndpgaaGreatDoor
open Go.RowKit
set_option linter.unusedVariables false
section
variable {lo hi B D b R W A : Nat} {n I : List Nat} {cf : Cfg} {q : Md} {s : Gs}
theorem Wk.gath {w : World} (x : Nat) (hx : x < 256) (hb : s.nb < 4294967296) (hl : 1 ≤ s.lf) (hl2 : s.lf < 1000000) (t : Bool) (ht : decide (s.lf - 1 = 0) = t) (h : Wk w lo hi B D b R W A (gcof s none) n I cf q) : Calls Tryz.prog 76 #[.pointer (some ⟨W, 0, none⟩), .int .u8 (x : Int)] w fun e w' => e = .returned (.bool t) ∧ Wk w' lo hi B D b R W A (gcof (gath x s) none) n I cf q ∧ Fw lo hi w w' := by
 rw [← ht]
 exact h.gather x hx hb hl hl2 w
theorem Wk.half {w : World} {m : Nat} (h : Wk w lo hi B D b R W A (gcof s none) n I cf q) (e : s.nb / 65536 = m) : Calls Tryz.prog 139 #[.pointer (some ⟨W, 0, none⟩)] w fun e w' => e = .returned (.int .u32 (m : Int)) ∧ w = w' := by
 rw [← e]
 exact half_c w h.wc
set_option maxHeartbeats 1000000 in
theorem extra_c (x : Nat) (hx : x < 256) (w : World) (hw : Wk w lo hi B D b R W A (gcof s none) s.nm I cf q) (hs : s.sm < 4294967296) (hb : s.nb < 4294967296) (hf : s.fl < 32) (hon : Oct s.nm) (hl1 : 1 ≤ s.lf) (hl : s.lf < 1000000) : Calls Tryz.prog 133 #[.pointer (some ⟨W, 0, none⟩), .int .u8 (x : Int)] w fun e w' => e = .returned (.tuple #[]) ∧ Wo w' lo hi B D b R W A (gext (Go.Proofs.YtogednaamndpgaaGreatDoor.gath x (gcnt x s))) ∧ Fw lo hi w w' := by
 have kc := hw.cnt_ x hx hs
 have hb2 := gath_lt (s := gcnt x s) hx hb
 unfold gext
 by_cases hz : s.lf - 1 = 0
 ·rw [if_pos (show (Go.Proofs.YtogednaamndpgaaGreatDoor.gath x (gcnt x s)).lf = 0 from hz)]
  have kg : ∀ w, Wk w lo hi B D b R W A (gcof (gcnt x s) none) s.nm I cf q → Calls Tryz.prog 76 #[.pointer (some ⟨W, 0, none⟩), .int .u8 (x : Int)] w _ := fun w h => Wk.gath (s := gcnt x s) x hx hb hl1 hl true (decide_eq_true hz) h
  obtain ⟨s2, hs2⟩ : ∃ s2, Go.Proofs.YtogednaamndpgaaGreatDoor.gath x (gcnt x s) = s2 := ⟨_, rfl⟩
  have e1 : s2.fl = s.fl := by rw [← hs2]; rfl
  have e2 : s2.nm = s.nm := by rw [← hs2]; rfl
  rw [hs2] at kg hb2 ⊢
  rw [← e1] at hf
  rw [← e2] at hon
  obtain ⟨m, hm⟩ : ∃ m, s2.nb / 65536 = m := ⟨_, rfl⟩
  have hmb : m < 65536 := by omega
  rw [hm]
  rw [← e2] at kg kc
  by_cases h1 : 1024 < m
  ·rw [if_pos h1]
   have t1 : decide (1024 < (m : Int)) = true := decide_eq_true (by omega)
   clear hw hs hb hf hon hl1 hl hx hz hs2 e1 e2 hb2
   go_enter Tryz.func133, Tryz.ntmps133
   go_wp2_with (first
    | (go_at_call 72; refine kc.mono ?_; rintro e1 w1 ⟨rfl, h1, f1⟩)
    | (go_at_call 76; refine (kg _ h1).mono ?_; rintro e2 w2 ⟨rfl, h2, f2⟩; have d15 := h2.wc.a15; have z15 := h2.wc.fz 15)
    | (go_at_call 139; refine (h2.half hm).mono ?_; rintro e3 w3 ⟨rfl, rfl⟩))
   first | go_end0 | (refine bodyPost_ret (results_none rfl _ _ _) rfl ?_)
   exact ⟨rfl, Or.inl ⟨rfl, I, cf, q, (h2.bad 46).1⟩, (f1.trans f2).trans (h2.bad 46).2⟩
  ·rw [if_neg h1]
   have t1 : decide (1024 < (m : Int)) = false := decide_eq_false (by omega)
   by_cases h0 : m = 0
   ·rw [if_pos h0]
    have kf : ∀ w, Wk w lo hi B D b R W A (gcof s2 none) s2.nm I cf q → Calls Tryz.prog 130 #[.pointer (some ⟨W, 0, none⟩)] w _ := fun w h => field_c (s := s2) w h hf hon
    have t0 : ((m : Int) == 0) = true := by rw [h0]; rfl
    clear hw hs hb hf hon hl1 hl hx hz hs2 e1 e2 hb2 h0
    go_enter Tryz.func133, Tryz.ntmps133
    go_wp2_with (first
     | (go_at_call 72; refine kc.mono ?_; rintro e1 w1 ⟨rfl, h1, f1⟩)
     | (go_at_call 76; refine (kg _ h1).mono ?_; rintro e2 w2 ⟨rfl, h2, f2⟩)
     | (go_at_call 139; refine (h2.half hm).mono ?_; rintro e3 w3 ⟨rfl, rfl⟩)
     | (go_at_call 130; refine (kf _ h2).mono ?_; rintro e4 w4 ⟨rfl, h4, f4⟩))
    first | go_end0 | (refine bodyPost_ret (results_none rfl _ _ _) rfl ?_)
    exact ⟨rfl, h4, (f1.trans f2).trans f4⟩
   ·rw [if_neg h0]
    have kt : ∀ w, Wk w lo hi B D b R W A (gcof s2 none) s2.nm I cf q → Calls Tryz.prog 46 #[.pointer (some ⟨W, 0, none⟩), .func (.func 127) #[.pointer (some ⟨W, 0, none⟩)] #[], .int .i64 (m : Int)] w _ := fun w h => h.then_ 127 m w
    have t0 : ((m : Int) == 0) = false := by rw [beq_eq_false_iff_ne]; omega
    clear hw hs hb hf hon hl1 hl hx hz hs2 e1 e2 hb2 h0
    go_enter Tryz.func133, Tryz.ntmps133
    go_wp2_with (first
     | (go_at_call 72; refine kc.mono ?_; rintro e1 w1 ⟨rfl, h1, f1⟩)
     | (go_at_call 76; refine (kg _ h1).mono ?_; rintro e2 w2 ⟨rfl, h2, f2⟩)
     | (go_at_call 139; refine (h2.half hm).mono ?_; rintro e3 w3 ⟨rfl, rfl⟩)
     | (go_at_call 46; refine (kt _ h2).mono ?_; rintro e4 w4 ⟨rfl, h4, f4⟩))
    first | go_end0 | (refine bodyPost_ret (results_none rfl _ _ _) rfl ?_)
    exact ⟨rfl, Or.inl ⟨rfl, I, cf, q, h4⟩, (f1.trans f2).trans f4⟩
 ·rw [if_neg (show ¬ (Go.Proofs.YtogednaamndpgaaGreatDoor.gath x (gcnt x s)).lf = 0 from hz)]
  have kg : ∀ w, Wk w lo hi B D b R W A (gcof (gcnt x s) none) s.nm I cf q → Calls Tryz.prog 76 #[.pointer (some ⟨W, 0, none⟩), .int .u8 (x : Int)] w _ := fun w h => Wk.gath (s := gcnt x s) x hx hb hl1 hl false (decide_eq_false hz) h
  clear hw hs hb hf hon hl1 hl hx hz hb2
  go_enter Tryz.func133, Tryz.ntmps133
  go_wp2_with (first
   | (go_at_call 72; refine kc.mono ?_; rintro e1 w1 ⟨rfl, h1, f1⟩)
   | (go_at_call 76; refine (kg _ h1).mono ?_; rintro e2 w2 ⟨rfl, h2, f2⟩))
  first | go_end0 | (refine bodyPost_ret (results_none rfl _ _ _) rfl ?_)
  exact ⟨rfl, Or.inl ⟨rfl, I, cf, q, h2⟩, f1.trans f2⟩
set_option maxHeartbeats 1000000 in
theorem hsum_c (x : Nat) (hx : x < 256) (w : World) (hw : Wk w lo hi B D b R W A (gcof s none) s.nm I cf q) (hs : s.sm < 4294967296) (hb : s.nb < 4294967296) (hon : Oct s.nm) (hl1 : 1 ≤ s.lf) (hl : s.lf < 1000000) : Calls Tryz.prog 136 #[.pointer (some ⟨W, 0, none⟩), .int .u8 (x : Int)] w fun e w' => e = .returned (.tuple #[]) ∧ Wo w' lo hi B D b R W A (ghsm (Go.Proofs.YtogednaamndpgaaGreatDoor.gath x s)) ∧ Fw lo hi w w' := by
 have hb2 := gath_lt (s := s) hx hb
 unfold ghsm
 by_cases hz : s.lf - 1 = 0
 ·rw [if_pos (show (Go.Proofs.YtogednaamndpgaaGreatDoor.gath x s).lf = 0 from hz)]
  have kg := Wk.gath x hx hb hl1 hl true (decide_eq_true hz) hw
  obtain ⟨s2, hs2⟩ : ∃ s2, Go.Proofs.YtogednaamndpgaaGreatDoor.gath x s = s2 := ⟨_, rfl⟩
  have e2 : s2.nm = s.nm := by rw [← hs2]; rfl
  have e3 : s2.sm = s.sm := by rw [← hs2]; rfl
  rw [hs2] at kg hb2 ⊢
  rw [← e2] at hon kg
  obtain ⟨m, hm⟩ : ∃ m, s2.nb / 65536 = m := ⟨_, rfl⟩
  obtain ⟨v, hv⟩ : ∃ v, s2.sm % 65536 = v := ⟨_, rfl⟩
  have hand : bits .and .u32 (s2.sm : Int) 65535 = (v : Int) := by
   have := u32_mask s2.sm 16 (by omega) (by decide) 65535 rfl
   rw [← hv]
   exact this
  rw [hm, hv]
  by_cases h1 : m = v
  ·rw [if_pos h1]
   have t1 : ((m : Int) != (v : Int)) = false := by rw [h1]; simp
   have ko : ∀ w, Wk w lo hi B D b R W A (gcof s2 none) s2.nm I cf q → Calls Tryz.prog 137 #[.pointer (some ⟨W, 0, none⟩)] w _ := fun w h => opm_c w h hon
   clear hw hs hb hon hl1 hl hx hz hs2 e2 e3 hb2 h1 hv
   go_enter Tryz.func136, Tryz.ntmps136
   go_upto_region 1 with (go_at_call 76; refine kg.mono ?_; rintro e2 w2 ⟨rfl, h2, f2⟩)
   have d6 : w2.cell? ⟨W, 6, none⟩ = some (.int .u32 (s2.sm : Int)) := h2.wc.a6
   have kh : ∀ k, Calls Tryz.prog 139 #[.pointer (some ⟨W, 0, none⟩)] (w2.drewN k) fun e w' => e = .returned (.int .u32 (m : Int)) ∧ w' = w2.drewN k := fun k => ((h2.drewN k).half hm).mono fun e w' h => ⟨h.1, h.2.symm⟩
   have A2 : Aside (Wk w2 lo hi B D b R W A (gcof s2 none) s2.nm I cf q ∧ Fw lo hi w w2) := ⟨h2, f2⟩
   clear h2 f2 kg
   go_quiet ((go_at_call 139; refine Calls.quiet_of_same (kh _)))
   go_wp2_with (go_at_call 137; refine (ko _ (A2.out.1.drewN _)).mono ?_; rintro e4 w4 ⟨rfl, h4, f4⟩)
   first | go_end0 | (refine bodyPost_ret (results_none rfl _ _ _) rfl ?_)
   exact ⟨rfl, Or.inr ⟨_, rfl, h4⟩, (A2.out.2.trans (Fw.drewN w2 _)).trans f4⟩
  ·rw [if_neg h1]
   have t1 : ((m : Int) != (v : Int)) = true := by rw [bne_iff_ne]; omega
   clear hw hs hb hon hl1 hl hx hz hs2 e2 e3 hb2 h1 hv
   go_enter Tryz.func136, Tryz.ntmps136
   go_upto_region 1 with (go_at_call 76; refine kg.mono ?_; rintro e2 w2 ⟨rfl, h2, f2⟩)
   have d6 : w2.cell? ⟨W, 6, none⟩ = some (.int .u32 (s2.sm : Int)) := h2.wc.a6
   have kh : ∀ k, Calls Tryz.prog 139 #[.pointer (some ⟨W, 0, none⟩)] (w2.drewN k) fun e w' => e = .returned (.int .u32 (m : Int)) ∧ w' = w2.drewN k := fun k => ((h2.drewN k).half hm).mono fun e w' h => ⟨h.1, h.2.symm⟩
   have A2 : Aside (Wk w2 lo hi B D b R W A (gcof s2 none) s2.nm I cf q ∧ Fw lo hi w w2) := ⟨h2, f2⟩
   have d15 := h2.wc.a15
   have z15 := h2.wc.fz 15
   clear h2 f2 kg
   go_quiet ((go_at_call 139; refine Calls.quiet_of_same (kh _)))
   go_wp2_with fail
   first | go_end0 | (refine bodyPost_ret (results_none rfl _ _ _) rfl ?_)
   exact ⟨rfl, Or.inl ⟨rfl, I, cf, q, ((A2.out.1.drewN _).bad 43).1⟩, (A2.out.2.trans (Fw.drewN w2 _)).trans ((A2.out.1.drewN _).bad 43).2⟩
 ·rw [if_neg (show ¬ (Go.Proofs.YtogednaamndpgaaGreatDoor.gath x s).lf = 0 from hz)]
  have kg := Wk.gath x hx hb hl1 hl false (decide_eq_false hz) hw
  clear hw hs hb hon hl1 hl hx hz hb2
  go_enter Tryz.func136, Tryz.ntmps136
  go_wp2_with (go_at_call 76; refine kg.mono ?_; rintro e2 w2 ⟨rfl, h2, f2⟩)
  first | go_end0 | (refine bodyPost_ret (results_none rfl _ _ _) rfl ?_)
  exact ⟨rfl, Or.inl ⟨rfl, I, cf, q, h2⟩, f2⟩
end
end Go.Proofs.YtogednaamndpgaaGreatDoor

/-
 The walker's steps: dataSum, dataSize; what it asks of its inflater.
-/
namespace Go.Proofs.YtogednaamndpgaaGreatDoor
open Go.RowKit
set_option linter.unusedVariables false
section
variable {lo hi B D b R W A : Nat} {n I : List Nat} {cf : Cfg} {q : Md} {s : Gs}
def Wp (w : World) (lo hi B D b R W A : Nat) (r : Gs × List Evn) : Prop := (r.2 = [] ∧ ∃ I cf q, Wk w lo hi B D b R W A (gcof r.1 none) r.1.nm I cf q) ∨ (∃ m, r.2 = [(256, m)] ∧ Wk w lo hi B D b R W A (gcof r.1 (some (256, m))) r.1.nm [] c0 .want) ∨ (r.2 = [(257, [])] ∧ ∃ I cf q, Wk w lo hi B D b R W A (gcof r.1 (some (257, []))) r.1.nm I cf q)
theorem Wo.wp {w : World} {r : Gs × List Evn} (h : Wo w lo hi B D b R W A r) : Wp w lo hi B D b R W A r := by
 rcases h with h | h
 ·exact Or.inl h
 ·exact Or.inr (Or.inl h)
set_option maxHeartbeats 1000000 in
theorem dsum_c (x : Nat) (hx : x < 256) (w : World) (hw : Wk w lo hi B D b R W A (gcof s none) s.nm I cf q) (hb : s.nb < 4294967296) (hl1 : 1 ≤ s.lf) (hl : s.lf < 1000000) : Calls Tryz.prog 47 #[.pointer (some ⟨W, 0, none⟩), .int .u8 (x : Int)] w fun e w' => e = .returned (.tuple #[]) ∧ Wp w' lo hi B D b R W A (gdsm (gath x s)) ∧ Fw lo hi w w' := by
 unfold gdsm
 by_cases hz : s.lf - 1 = 0
 ·rw [if_pos (show (gath x s).lf = 0 from hz)]
  have kg := Wk.gath x hx hb hl1 hl true (decide_eq_true hz) hw
  obtain ⟨s2, hs2⟩ : ∃ s2, gath x s = s2 := ⟨_, rfl⟩
  have e2 : s2.nm = s.nm := by rw [← hs2]; rfl
  rw [hs2] at kg ⊢
  rw [← e2] at kg
  obtain ⟨m, hm⟩ : ∃ m, s2.nb = m := ⟨_, rfl⟩
  obtain ⟨v, hv⟩ : ∃ v, s2.sm = v := ⟨_, rfl⟩
  by_cases h1 : s2.nb = s2.sm
  ·rw [if_pos h1]
   have t1 : ((m : Int) != (v : Int)) = false := by rw [← hm, ← hv, h1]; simp
   have kt : ∀ w, Wk w lo hi B D b R W A (gcof s2 none) s2.nm I cf q → Calls Tryz.prog 46 #[.pointer (some ⟨W, 0, none⟩), .func (.func 77) #[.pointer (some ⟨W, 0, none⟩)] #[], .int .i64 4] w _ := fun w h => h.then_ 77 4 w
   clear hw hb hl1 hl hx hz hs2 e2 h1
   go_enter Tryz.func47, Tryz.ntmps47
   go_upto_region 1 with (go_at_call 76; refine kg.mono ?_; rintro e2 w2 ⟨rfl, h2, f2⟩)
   have d6 : w2.cell? ⟨W, 6, none⟩ = some (.int .u32 (v : Int)) := by rw [← hv]; exact h2.wc.a6
   have d5 : w2.cell? ⟨W, 5, none⟩ = some (.int .u32 (m : Int)) := by rw [← hm]; exact h2.wc.a5
   have A2 : Aside (Wk w2 lo hi B D b R W A (gcof s2 none) s2.nm I cf q ∧ Fw lo hi w w2) := ⟨h2, f2⟩
   clear h2 f2 kg hm hv
   go_quiet (fail)
   go_wp2_with (go_at_call 46; refine (kt _ (A2.out.1.drewN _)).mono ?_; rintro e4 w4 ⟨rfl, h4, f4⟩)
   first | go_end0 | (refine bodyPost_ret (results_none rfl _ _ _) rfl ?_)
   exact ⟨rfl, Or.inl ⟨rfl, I, cf, q, h4⟩, (A2.out.2.trans (Fw.drewN w2 _)).trans f4⟩
  ·rw [if_neg h1]
   have t1 : ((m : Int) != (v : Int)) = true := by rw [bne_iff_ne, ← hm, ← hv]; omega
   clear hw hb hl1 hl hx hz hs2 e2 h1
   go_enter Tryz.func47, Tryz.ntmps47
   go_upto_region 1 with (go_at_call 76; refine kg.mono ?_; rintro e2 w2 ⟨rfl, h2, f2⟩)
   have d6 : w2.cell? ⟨W, 6, none⟩ = some (.int .u32 (v : Int)) := by rw [← hv]; exact h2.wc.a6
   have d5 : w2.cell? ⟨W, 5, none⟩ = some (.int .u32 (m : Int)) := by rw [← hm]; exact h2.wc.a5
   have d15 := h2.wc.a15
   have z15 := h2.wc.fz 15
   have A2 : Aside (Wk w2 lo hi B D b R W A (gcof s2 none) s2.nm I cf q ∧ Fw lo hi w w2) := ⟨h2, f2⟩
   clear h2 f2 kg hm hv
   go_quiet (fail)
   go_wp2_with fail
   first | go_end0 | (refine bodyPost_ret (results_none rfl _ _ _) rfl ?_)
   exact ⟨rfl, Or.inl ⟨rfl, I, cf, q, ((A2.out.1.drewN _).bad 44).1⟩, (A2.out.2.trans (Fw.drewN w2 _)).trans ((A2.out.1.drewN _).bad 44).2⟩
 ·rw [if_neg (show ¬ (gath x s).lf = 0 from hz)]
  have kg := Wk.gath x hx hb hl1 hl false (decide_eq_false hz) hw
  clear hw hb hl1 hl hx hz
  go_enter Tryz.func47, Tryz.ntmps47
  go_wp2_with (go_at_call 76; refine kg.mono ?_; rintro e2 w2 ⟨rfl, h2, f2⟩)
  first | go_end0 | (refine bodyPost_ret (results_none rfl _ _ _) rfl ?_)
  exact ⟨rfl, Or.inl ⟨rfl, I, cf, q, h2⟩, f2⟩
theorem Wk.close {w : World} (h : Wk w lo hi B D b R W A (gcof s none) s.nm I cf q) : Wk (((((((w.setCell ⟨W, 8, none⟩ (.int .i64 3)).setCell ⟨W, 9, none⟩ (.int .u8 0)).setCell ⟨W, 10, none⟩ (.int .i64 0)).setCell ⟨W, 11, none⟩ (.int .i64 0)).setCell ⟨W, 12, none⟩ (.string ⟨#[]⟩)).setCell ⟨W, 13, none⟩ (.bool true)).setCell ⟨W, 1, none⟩ (fnv W 103)) lo hi B D b R W A (gcof { s with wh := true, nx := 12 } (some (257, []))) s.nm I cf q ∧ Fw lo hi w (((((((w.setCell ⟨W, 8, none⟩ (.int .i64 3)).setCell ⟨W, 9, none⟩ (.int .u8 0)).setCell ⟨W, 10, none⟩ (.int .i64 0)).setCell ⟨W, 11, none⟩ (.int .i64 0)).setCell ⟨W, 12, none⟩ (.string ⟨#[]⟩)).setCell ⟨W, 13, none⟩ (.bool true)).setCell ⟨W, 1, none⟩ (fnv W 103)) := by
 have o : Only W w (((((((w.setCell ⟨W, 8, none⟩ (.int .i64 3)).setCell ⟨W, 9, none⟩ (.int .u8 0)).setCell ⟨W, 10, none⟩ (.int .i64 0)).setCell ⟨W, 11, none⟩ (.int .i64 0)).setCell ⟨W, 12, none⟩ (.string ⟨#[]⟩)).setCell ⟨W, 13, none⟩ (.bool true)).setCell ⟨W, 1, none⟩ (fnv W 103)) := ((only5 W w _ _ _ _ _).setCell 13 _).setCell 1 _
 exact ⟨h.set o (((h.wc.sev (some (257, []))).s13 true).s1 103) rfl, h.fw o⟩
set_option maxHeartbeats 1000000 in
theorem dsize_c (x : Nat) (hx : x < 256) (w : World) (hw : Wk w lo hi B D b R W A (gcof s none) s.nm I cf q) (hb : s.nb < 4294967296) (hl1 : 1 ≤ s.lf) (hl : s.lf < 1000000) : Calls Tryz.prog 77 #[.pointer (some ⟨W, 0, none⟩), .int .u8 (x : Int)] w fun e w' => e = .returned (.tuple #[]) ∧ Wp w' lo hi B D b R W A (gdsz (gath x s)) ∧ Fw lo hi w w' := by
 unfold gdsz
 by_cases hz : s.lf - 1 = 0
 ·rw [if_pos (show (gath x s).lf = 0 from hz)]
  have kg := Wk.gath x hx hb hl1 hl true (decide_eq_true hz) hw
  obtain ⟨s2, hs2⟩ : ∃ s2, gath x s = s2 := ⟨_, rfl⟩
  have e2 : s2.nm = s.nm := by rw [← hs2]; rfl
  rw [hs2] at kg ⊢
  rw [← e2] at kg
  obtain ⟨m, hm⟩ : ∃ m, s2.nb = m := ⟨_, rfl⟩
  obtain ⟨v, hv⟩ : ∃ v, s2.gv % 4294967296 = v := ⟨_, rfl⟩
  by_cases h1 : s2.nb = s2.gv % 4294967296
  ·rw [if_pos h1]
   have t1 : ((m : Int) != (v : Int)) = false := by rw [← hm, ← hv, h1]; simp
   clear hw hb hl1 hl hx hz hs2 e2 h1
   go_enter Tryz.func77, Tryz.ntmps77
   go_upto_region 1 with (go_at_call 76; refine kg.mono ?_; rintro e2 w2 ⟨rfl, h2, f2⟩)
   have d7 : w2.cell? ⟨W, 7, none⟩ = some (.int .u32 (v : Int)) := by rw [← hv]; exact h2.wc.a7
   have d5 : w2.cell? ⟨W, 5, none⟩ = some (.int .u32 (m : Int)) := by rw [← hm]; exact h2.wc.a5
   have c8 := h2.wc.a8
   have c9 := h2.wc.a9
   have c10 := h2.wc.a10
   have c11 := h2.wc.a11
   have c12 := h2.wc.a12
   have c13 := h2.wc.a13
   have c1 := h2.wc.a1
   have z8 := h2.wc.fz 8
   have z9 := h2.wc.fz 9
   have z10 := h2.wc.fz 10
   have z11 := h2.wc.fz 11
   have z12 := h2.wc.fz 12
   have z13 := h2.wc.fz 13
   have z1 := h2.wc.fz 1
   have A2 : Aside (Wk w2 lo hi B D b R W A (gcof s2 none) s2.nm I cf q ∧ Fw lo hi w w2) := ⟨h2, f2⟩
   clear h2 f2 kg hm hv
   go_quiet (fail)
   go_wp2_with fail
   first | go_end0 | (refine bodyPost_ret (results_none rfl _ _ _) rfl ?_)
   exact ⟨rfl, Or.inr (Or.inr ⟨rfl, I, cf, q, (A2.out.1.drewN _).close.1⟩), (A2.out.2.trans (Fw.drewN w2 _)).trans (A2.out.1.drewN _).close.2⟩
  ·rw [if_neg h1]
   have t1 : ((m : Int) != (v : Int)) = true := by rw [bne_iff_ne, ← hm, ← hv]; omega
   clear hw hb hl1 hl hx hz hs2 e2 h1
   go_enter Tryz.func77, Tryz.ntmps77
   go_upto_region 1 with (go_at_call 76; refine kg.mono ?_; rintro e2 w2 ⟨rfl, h2, f2⟩)
   have d7 : w2.cell? ⟨W, 7, none⟩ = some (.int .u32 (v : Int)) := by rw [← hv]; exact h2.wc.a7
   have d5 : w2.cell? ⟨W, 5, none⟩ = some (.int .u32 (m : Int)) := by rw [← hm]; exact h2.wc.a5
   have d15 := h2.wc.a15
   have z15 := h2.wc.fz 15
   have A2 : Aside (Wk w2 lo hi B D b R W A (gcof s2 none) s2.nm I cf q ∧ Fw lo hi w w2) := ⟨h2, f2⟩
   clear h2 f2 kg hm hv
   go_quiet (fail)
   go_wp2_with fail
   first | go_end0 | (refine bodyPost_ret (results_none rfl _ _ _) rfl ?_)
   exact ⟨rfl, Or.inl ⟨rfl, I, cf, q, ((A2.out.1.drewN _).bad 45).1⟩, (A2.out.2.trans (Fw.drewN w2 _)).trans ((A2.out.1.drewN _).bad 45).2⟩
 ·rw [if_neg (show ¬ (gath x s).lf = 0 from hz)]
  have kg := Wk.gath x hx hb hl1 hl false (decide_eq_false hz) hw
  clear hw hb hl1 hl hx hz
  go_enter Tryz.func77, Tryz.ntmps77
  go_wp2_with (go_at_call 76; refine kg.mono ?_; rintro e2 w2 ⟨rfl, h2, f2⟩)
  first | go_end0 | (refine bodyPost_ret (results_none rfl _ _ _) rfl ?_)
  exact ⟨rfl, Or.inl ⟨rfl, I, cf, q, h2⟩, f2⟩
end
end Go.Proofs.YtogednaamndpgaaGreatDoor

/-
 What holds of the walker's states; every step but that of the inflater.
-/
namespace Go.Proofs.YtogednaamndpgaaGreatDoor
open Go.RowKit
set_option linter.unusedVariables false
structure Gok (s : Gs) : Prop where
 fl : s.fl < 32
 sm : s.sm < 4294967296
 nb : s.nb < 4294967296
 lf : s.lf < 1000000
 nm : Oct s.nm
 f8 : s.fl / 8 % 2 = 1 → s.nm = []
 nx : s.nx ≤ 13
 l1 : s.why = 0 → (s.nx = 4 ∨ s.nx = 5 ∨ s.nx = 8 ∨ s.nx = 10 ∨ s.nx = 11) → 1 ≤ s.lf
 n6 : s.why = 0 → s.nx = 6 → s.nm.length + s.lf = 256
 ne : s.nx ≤ 3 ∨ 9 ≤ s.nx → s.nm = []
 d9 : s.why = 0 → s.nx = 9 → Stands s.ip MM s.y ∧ ¬ Over s.y ∧ s.sm = Go.Proofs.YtogednaamndpgaaGreatDoor.sm 0 s.y.out ∧ s.gv = s.y.out.length
 t8 : s.nx = 6 ∨ s.nx = 7 → s.fl / 8 % 2 = 0
theorem gok0 : Gok s0 := ⟨by decide, by decide, by decide, by decide, fun x hx => (by cases hx), fun _ => rfl, by decide, fun _ h => by simp [s0] at h, fun _ h => by simp [s0] at h, fun _ => rfl, fun _ h => by simp [s0] at h, fun h => by simp [s0] at h⟩
theorem stp_lt2 {s x : Nat} (h : s < 4294967296) (hx : x < 256) : stp s x < 4294967296 := stp_lt h hx
section
variable {s : Gs} {x : Nat}
theorem gok_opn (h1 : s.fl < 32) (h3 : s.nb < 4294967296) (h4 : s.lf < 1000000) : Gok (gopn s).1 :=
 ⟨h1, by show (0 : Nat) < 4294967296; decide, h3, h4, fun x hx => (by cases hx), fun _ => rfl, by show (9 : Nat) ≤ 13; decide, fun _ h => by simp [gopn] at h, fun _ h => by simp [gopn] at h, fun _ => rfl, fun _ _ => ⟨stands_nil MM, c0_open, rfl, rfl⟩, fun h => by simp [gopn] at h⟩
theorem gok_field (h1 : s.fl < 32) (h2 : s.sm < 4294967296) (h3 : s.nb < 4294967296) (h4 : s.lf < 1000000) (h5 : Oct s.nm) (h6 : s.fl / 8 % 2 = 1 → s.nm = []) : Gok (gfield s).1 := by
 unfold gfield
 by_cases b4 : s.fl / 4 % 2 = 1
 ·rw [if_pos b4]
  exact ⟨by show s.fl - 4 < 32; omega, h2, h3, by show (2 : Nat) < 1000000; decide, h5, fun e => h6 (by have : (s.fl - 4) / 8 % 2 = 1 := e; omega), by show (5 : Nat) ≤ 13; decide, fun _ _ => by show 1 ≤ 2; decide, fun _ h => by simp at h, fun h => by simp at h, fun _ h => by simp at h, fun h => by simp at h⟩
 ·rw [if_neg b4]
  by_cases b8 : s.fl / 8 % 2 = 1
  ·rw [if_pos b8]
   exact ⟨by show s.fl - 8 < 32; omega, h2, h3, by show (256 : Nat) < 1000000; decide, h5, fun e => h6 b8, by show (6 : Nat) ≤ 13; decide, fun _ h => by simp at h, fun _ h => by show s.nm.length + 256 = 256; rw [h6 b8]; rfl, fun h => by simp at h, fun _ h => by simp at h, fun _ => by show (s.fl - 8) / 8 % 2 = 0; omega⟩
  ·rw [if_neg b8]
   by_cases b16 : s.fl / 16 % 2 = 1
   ·rw [if_pos b16]
    exact ⟨by show s.fl - 16 < 32; omega, h2, h3, by show (256 : Nat) < 1000000; decide, h5, fun e => h6 (by have : (s.fl - 16) / 8 % 2 = 1 := e; omega), by show (7 : Nat) ≤ 13; decide, fun _ h => by simp at h, fun _ h => by simp at h, fun h => by simp at h, fun _ h => by simp at h, fun _ => by show (s.fl - 16) / 8 % 2 = 0; omega⟩
   ·rw [if_neg b16]
    by_cases b2 : s.fl / 2 % 2 = 1
    ·rw [if_pos b2]
     exact ⟨by show s.fl - 2 < 32; omega, h2, h3, by show (2 : Nat) < 1000000; decide, h5, fun e => h6 (by have : (s.fl - 2) / 8 % 2 = 1 := e; omega), by show (8 : Nat) ≤ 13; decide, fun _ _ => by show 1 ≤ 2; decide, fun _ h => by simp at h, fun h => by simp at h, fun _ h => by simp at h, fun h => by simp at h⟩
    ·rw [if_neg b2]
     exact gok_opn h1 h3 h4
theorem gok_bad (h : Gok s) (y : Nat) (hy : y ≠ 0) : Gok (gbad y s) := ⟨h.fl, h.sm, h.nb, h.lf, h.nm, h.f8, h.nx, fun e => absurd e hy, fun e => absurd e hy, h.ne, fun e => absurd e hy, h.t8⟩
theorem gok_stop (y : Nat) (hy : y ≠ 0) (h1 : s.fl < 32) (h2 : s.sm < 4294967296) (h3 : s.nb < 4294967296) (h4 : s.lf < 1000000) (h5 : Oct s.nm) (h6 : s.fl / 8 % 2 = 1 → s.nm = []) (h7 : s.nx ≤ 13) (h8 : s.nx ≤ 3 ∨ 9 ≤ s.nx → s.nm = []) (h9 : s.nx = 6 ∨ s.nx = 7 → s.fl / 8 % 2 = 0) : Gok (gbad y s) := ⟨h1, h2, h3, h4, h5, h6, h7, fun e => absurd e hy, fun e => absurd e hy, h8, fun e => absurd e hy, h9⟩
theorem gok_txt (h : Gok s) (h0 : s.why = 0) (hx : x < 256) (hk : s.nx = 6 ∨ s.nx = 7) (s2 : Gs) (e : s2 = s ∨ (x ≠ 0 ∧ 0 < s.lf ∧ s.nx = 6 ∧ s2 = { s with nm := s.nm ++ [x] })) (hd : s.nx = 6 → 0 < s.lf → x ≠ 0 → s2 = { s with nm := s.nm ++ [x] }) : Gok (gtxt x s2).1 := by
 have hf8 := h.t8 hk
 have q : s2.fl = s.fl ∧ s2.sm = s.sm ∧ s2.nb = s.nb ∧ s2.lf = s.lf ∧ Oct s2.nm ∧ s2.nx = s.nx ∧ s2.why = s.why := by
  rcases e with e | ⟨_, _, _, e⟩
  ·subst e; exact ⟨rfl, rfl, rfl, rfl, h.nm, rfl, rfl⟩
  ·subst e
   refine ⟨rfl, rfl, rfl, rfl, fun y hy => ?_, rfl, rfl⟩
   rcases List.mem_append.1 hy with q | q
   ·exact h.nm y q
   ·rw [List.mem_singleton.1 q]; exact hx
 obtain ⟨q1, q2, q3, q4, q5, q6, q7⟩ := q
 have hsm := stp_lt2 h.sm hx
 have f1 := h.fl
 have f3 := h.nb
 have f4 := h.lf
 unfold gtxt
 by_cases hx0 : x = 0
 ·rw [if_pos hx0]
  exact gok_field (s := gcnt x s2) (by show s2.fl < 32; omega) (by show stp s2.sm x < _; rw [q2]; exact hsm) (by show s2.nb < _; omega) (by show s2.lf < _; omega) q5 (fun e => by have : s2.fl / 8 % 2 = 1 := e; rw [q1] at this; omega)
 ·rw [if_neg hx0]
  by_cases hl : s2.lf = 0
  ·rw [if_pos hl]
   exact gok_stop (s := gcnt x s2) 46 (by decide) (by show s2.fl < 32; omega) (by show stp s2.sm x < _; rw [q2]; exact hsm) (by show s2.nb < _; omega) (by show s2.lf < _; omega) q5 (fun e => by have : s2.fl / 8 % 2 = 1 := e; rw [q1] at this; omega) (by show s2.nx ≤ 13; omega) (fun e => by have : s2.nx ≤ 3 ∨ 9 ≤ s2.nx := e; omega) (fun _ => by show s2.fl / 8 % 2 = 0; rw [q1]; exact hf8)
  ·rw [if_neg hl]
   refine ⟨by show s2.fl < 32; omega, by show stp s2.sm x < _; rw [q2]; exact hsm, by show s2.nb < _; omega, by show s2.lf - 1 < _; omega, q5, fun e => by have : s2.fl / 8 % 2 = 1 := e; rw [q1] at this; omega, by show s2.nx ≤ 13; omega, fun _ e => by have : s2.nx = 4 ∨ s2.nx = 5 ∨ s2.nx = 8 ∨ s2.nx = 10 ∨ s2.nx = 11 := e; omega, fun _ e => ?_, fun e => by have : s2.nx ≤ 3 ∨ 9 ≤ s2.nx := e; omega, fun _ e => by have : s2.nx = 9 := e; omega, fun _ => by show s2.fl / 8 % 2 = 0; rw [q1]; exact hf8⟩
   have e6 : s.nx = 6 := q6.symm.trans e
   have := hd e6 (by omega) hx0
   have h6 := h.n6 h0 e6
   show s2.nm.length + (s2.lf - 1) = 256
   rw [this]
   show (s.nm ++ [x]).length + (s.lf - 1) = 256
   rw [List.length_append, List.length_singleton]
   omega
theorem Gok.step (h : Gok s) (h0 : s.why = 0) (hx : x < 256) (h9 : s.nx ≠ 9) : Gok (gst s x).1 := by
 have hsm := stp_lt2 h.sm hx
 have hs0 := stp_lt2 (s := 0) (by decide) hx
 have hn := h.nx
 have hf := h.fl
 have hl := h.lf
 have hnb := h.nb
 have bgn : s.nm = [] → Gok (gbgn x s) := fun e => ⟨hf, hs0, hnb, hl, h.nm, fun _ => e, by show (1 : Nat) ≤ 13; decide, fun _ h => by simp [gbgn] at h, fun _ h => by simp [gbgn] at h, fun _ => e, fun _ h => by simp [gbgn] at h, fun h => by simp [gbgn] at h⟩
 have nou : ∀ k, (k = 12 ∨ k = 13) → s.nm = [] → Gok { gnou x s with nx := 13 } := fun k _ e => by
  unfold gnou
  split
  ·exact ⟨hf, h.sm, hnb, hl, h.nm, fun _ => e, by show (13 : Nat) ≤ 13; decide, fun _ h => by simp at h, fun _ h => by simp at h, fun _ => e, fun _ h => by simp at h, fun h => by simp at h⟩
  ·exact ⟨hf, h.sm, hnb, hl, h.nm, fun _ => e, by show (13 : Nat) ≤ 13; decide, fun _ h => by simp at h, fun _ h => by simp at h, fun _ => e, fun _ h => by simp at h, fun h => by simp at h⟩
 have cases13 : s.nx = 0 ∨ s.nx = 1 ∨ s.nx = 2 ∨ s.nx = 3 ∨ s.nx = 4 ∨ s.nx = 5 ∨ s.nx = 6 ∨ s.nx = 7 ∨ s.nx = 8 ∨ s.nx = 10 ∨ s.nx = 11 ∨ s.nx = 12 ∨ s.nx = 13 := by omega
 have gth : (gath x s).nb < 4294967296 := gath_lt hx hnb
 rcases cases13 with e | e | e | e | e | e | e | e | e | e | e | e | e
 ·have eg : gst s x = (if x = 31 then gbgn x s else gbad 40 s, []) := by unfold gst; rw [e]; rfl
  rw [eg]
  show Gok (if x = 31 then gbgn x s else gbad 40 s)
  split
  ·exact bgn (h.ne (by omega))
  ·exact gok_bad h 40 (by decide)
 ·have eg : gst s x = (if x = 139 then { gcnt x s with nx := 2 } else gbad 40 s, []) := by unfold gst; rw [e]; rfl
  rw [eg]
  show Gok (if x = 139 then { gcnt x s with nx := 2 } else gbad 40 s)
  have en := h.ne (by omega)
  split
  ·exact ⟨hf, hsm, hnb, hl, h.nm, fun _ => en, by show (2 : Nat) ≤ 13; decide, fun _ h => by simp at h, fun _ h => by simp at h, fun _ => en, fun _ h => by simp at h, fun h => by simp at h⟩
  ·exact gok_bad h 40 (by decide)
 ·have eg : gst s x = (if x = 8 then { gcnt x s with nx := 3 } else gbad 41 s, []) := by unfold gst; rw [e]; rfl
  rw [eg]
  show Gok (if x = 8 then { gcnt x s with nx := 3 } else gbad 41 s)
  have en := h.ne (by omega)
  split
  ·exact ⟨hf, hsm, hnb, hl, h.nm, fun _ => en, by show (3 : Nat) ≤ 13; decide, fun _ h => by simp at h, fun _ h => by simp at h, fun _ => en, fun _ h => by simp at h, fun h => by simp at h⟩
  ·exact gok_bad h 41 (by decide)
 ·have eg : gst s x = (if x < 32 then { gcnt x s with fl := x, nx := 4, lf := 6 } else gbad 42 s, []) := by unfold gst; rw [e]; rfl
  rw [eg]
  show Gok (if x < 32 then { gcnt x s with fl := x, nx := 4, lf := 6 } else gbad 42 s)
  have en := h.ne (by omega)
  split
  ·rename_i hx32
   exact ⟨hx32, hsm, hnb, by show (6 : Nat) < 1000000; decide, h.nm, fun _ => en, by show (4 : Nat) ≤ 13; decide, fun _ _ => by show 1 ≤ 6; decide, fun _ h => by simp at h, fun h => by simp at h, fun _ h => by simp at h, fun h => by simp at h⟩
  ·exact gok_bad h 42 (by decide)
 ·have eg : gst s x = gany x s := by unfold gst; rw [e]; rfl
  rw [eg]
  unfold gany
  split
  ·exact gok_field (s := { gcnt x s with lf := s.lf - 1 }) hf hsm hnb (by show s.lf - 1 < _; omega) h.nm h.f8
  ·rename_i hz
   exact ⟨hf, hsm, hnb, by show s.lf - 1 < _; omega, h.nm, h.f8, hn, fun _ _ => by show 1 ≤ s.lf - 1; omega, fun _ q => by have : s.nx = 6 := q; omega, fun q => by have : s.nx ≤ 3 ∨ 9 ≤ s.nx := q; omega, fun _ q => absurd q h9, fun q => by have : s.nx = 6 ∨ s.nx = 7 := q; omega⟩
 ·have eg : gst s x = gext (gath x (gcnt x s)) := by unfold gst; rw [e]; rfl
  rw [eg]
  unfold gext
  split
  ·split
   ·exact gok_stop (s := gath x (gcnt x s)) 46 (by decide) hf hsm gth (by show s.lf - 1 < _; omega) h.nm h.f8 hn (fun q => by have : s.nx ≤ 3 ∨ 9 ≤ s.nx := q; omega) (fun q => by have : s.nx = 6 ∨ s.nx = 7 := q; omega)
   ·split
    ·exact gok_field (s := gath x (gcnt x s)) hf hsm gth (by show s.lf - 1 < _; omega) h.nm h.f8
    ·rename_i q1 q2
     exact ⟨hf, hsm, gth, by show (gath x (gcnt x s)).nb / 65536 < 1000000; omega, h.nm, h.f8, by show (4 : Nat) ≤ 13; decide, fun _ _ => by show 1 ≤ (gath x (gcnt x s)).nb / 65536; omega, fun _ h => by simp at h, fun h => by simp at h, fun _ h => by simp at h, fun h => by simp at h⟩
  ·rename_i hz
   exact ⟨hf, hsm, gth, by show s.lf - 1 < _; omega, h.nm, h.f8, hn, fun _ _ => by have : ¬ s.lf - 1 = 0 := hz; show 1 ≤ s.lf - 1; omega, fun _ q => by have : s.nx = 6 := q; omega, fun q => by have : s.nx ≤ 3 ∨ 9 ≤ s.nx := q; omega, fun _ q => absurd q h9, fun q => by have : s.nx = 6 ∨ s.nx = 7 := q; omega⟩
 ·have eg : gst s x = gtxt x (gnam x s) := by unfold gst; rw [e]; rfl
  rw [eg]
  refine gok_txt h h0 hx (Or.inl e) _ ?_ ?_
  ·unfold gnam
   split
   ·rename_i q; exact Or.inr ⟨q.1, q.2, e, rfl⟩
   ·exact Or.inl rfl
  ·intro _ q1 q2; unfold gnam; rw [if_pos ⟨q2, q1⟩]
 ·have eg : gst s x = gtxt x s := by unfold gst; rw [e]; rfl
  rw [eg]
  exact gok_txt h h0 hx (Or.inr e) _ (Or.inl rfl) (fun q => by omega)
 ·have eg : gst s x = ghsm (gath x s) := by unfold gst; rw [e]; rfl
  rw [eg]
  unfold ghsm
  split
  ·split
   ·exact gok_opn (s := gath x s) hf gth (by show s.lf - 1 < _; omega)
   ·exact gok_stop (s := gath x s) 43 (by decide) hf h.sm gth (by show s.lf - 1 < _; omega) h.nm h.f8 hn (fun q => by have : s.nx ≤ 3 ∨ 9 ≤ s.nx := q; omega) (fun q => by have : s.nx = 6 ∨ s.nx = 7 := q; omega)
  ·rename_i hz
   exact ⟨hf, h.sm, gth, by show s.lf - 1 < _; omega, h.nm, h.f8, hn, fun _ _ => by have : ¬ s.lf - 1 = 0 := hz; show 1 ≤ s.lf - 1; omega, fun _ q => by have : s.nx = 6 := q; omega, fun q => by have : s.nx ≤ 3 ∨ 9 ≤ s.nx := q; omega, fun _ q => absurd q h9, fun q => by have : s.nx = 6 ∨ s.nx = 7 := q; omega⟩
 ·have eg : gst s x = gdsm (gath x s) := by unfold gst; rw [e]; rfl
  rw [eg]
  have en := h.ne (by omega)
  unfold gdsm
  split
  ·split
   ·exact ⟨hf, h.sm, gth, by show (4 : Nat) < 1000000; decide, h.nm, fun _ => en, by show (11 : Nat) ≤ 13; decide, fun _ _ => by show 1 ≤ 4; decide, fun _ h => by simp at h, fun _ => en, fun _ h => by simp at h, fun h => by simp at h⟩
   ·exact gok_stop (s := gath x s) 44 (by decide) hf h.sm gth (by show s.lf - 1 < _; omega) h.nm h.f8 hn (fun _ => en) (fun q => by have : s.nx = 6 ∨ s.nx = 7 := q; omega)
  ·rename_i hz
   exact ⟨hf, h.sm, gth, by show s.lf - 1 < _; omega, h.nm, h.f8, hn, fun _ _ => by have : ¬ s.lf - 1 = 0 := hz; show 1 ≤ s.lf - 1; omega, fun _ q => by have : s.nx = 6 := q; omega, fun _ => en, fun _ q => absurd q h9, fun q => by have : s.nx = 6 ∨ s.nx = 7 := q; omega⟩
 ·have eg : gst s x = gdsz (gath x s) := by unfold gst; rw [e]; rfl
  rw [eg]
  have en := h.ne (by omega)
  unfold gdsz
  split
  ·split
   ·exact ⟨hf, h.sm, gth, by show s.lf - 1 < _; omega, h.nm, fun _ => en, by show (12 : Nat) ≤ 13; decide, fun _ h => by simp at h, fun _ h => by simp at h, fun _ => en, fun _ h => by simp at h, fun h => by simp at h⟩
   ·exact gok_stop (s := gath x s) 45 (by decide) hf h.sm gth (by show s.lf - 1 < _; omega) h.nm h.f8 hn (fun _ => en) (fun q => by have : s.nx = 6 ∨ s.nx = 7 := q; omega)
  ·rename_i hz
   exact ⟨hf, h.sm, gth, by show s.lf - 1 < _; omega, h.nm, h.f8, hn, fun _ _ => by have : ¬ s.lf - 1 = 0 := hz; show 1 ≤ s.lf - 1; omega, fun _ q => by have : s.nx = 6 := q; omega, fun _ => en, fun _ q => absurd q h9, fun q => by have : s.nx = 6 ∨ s.nx = 7 := q; omega⟩
 ·have eg : gst s x = (if x = 31 then gbgn x s else { gnou x s with nx := 13 }, []) := by unfold gst; rw [e]; rfl
  rw [eg]
  show Gok (if x = 31 then gbgn x s else { gnou x s with nx := 13 })
  split
  ·exact bgn (h.ne (by omega))
  ·exact nou 12 (Or.inl rfl) (h.ne (by omega))
 ·have eg : gst s x = (gnou x s, []) := by unfold gst; rw [e]; rfl
  rw [eg]
  show Gok (gnou x s)
  unfold gnou
  split
  ·exact h
  ·exact gok_bad h 47 (by decide)
theorem Gok.data (h : Gok s) (h0 : s.why = 0) (h9 : s.nx = 9) {y : Cfg} (hy : Stands (s.ip ++ [x]) MM y) : Gok (gdat s x y) := by
 have en := h.ne (by omega)
 have hsm : Go.Proofs.YtogednaamndpgaaGreatDoor.sm 0 y.out < 4294967296 := sm_lt y.out (by decide) hy.oct
 unfold gdat
 by_cases e : endC y = true
 ·rw [if_pos e, if_pos e]
  exact ⟨h.fl, hsm, h.nb, by show (4 : Nat) < 1000000; decide, h.nm, fun _ => en, by show (10 : Nat) ≤ 13; decide, fun _ _ => by show 1 ≤ 4; decide, fun _ h => by simp at h, fun _ => en, fun _ h => by simp at h, fun h => by simp at h⟩
 ·rw [if_neg e, if_neg e]
  refine ⟨h.fl, hsm, h.nb, h.lf, h.nm, fun _ => en, by show (9 : Nat) ≤ 13; decide, fun _ h => by simp at h, fun _ h => by simp at h, fun _ => en, fun hb _ => ⟨hy, ?_, rfl, rfl⟩, fun h => by simp at h⟩
  rintro (q | ⟨k, q⟩)
  ·exact e (done_c3 q).1
  ·have h1 : badC y = 0 := hb
   rw [(bad_c3 q).2.1] at h1
   exact bad_nz hy q h1
theorem Gok.sp (h : Gok s) (h0 : s.why = 0) (hx : x < 256) {s1 : Gs} {E : List Evn} (hs : Sp s x s1 E) : Gok s1 := by
 rcases hs with ⟨h9, y, hy, rfl, _⟩ | ⟨h9, rfl, _⟩
 ·exact h.data h0 h9 hy
 ·exact h.step h0 hx h9
end
end Go.Proofs.YtogednaamndpgaaGreatDoor

/-
 Every step of the walker; what it asks of its inflater.
-/
namespace Go.Proofs.YtogednaamndpgaaGreatDoor
open Go.RowKit
set_option linter.unusedVariables false
section
variable {lo hi B D b R W A : Nat} {n I o : List Nat} {cf yF : Cfg} {q : Md} {s : Gs} {c : Gc}
theorem step_no9 (h : Gok s) (h0 : s.why = 0) (h9 : s.nx ≠ 9) (x : Nat) (hx : x < 256) (w : World) (hw : Wk w lo hi B D b R W A (gcof s none) s.nm I cf q) : Calls Tryz.prog (pfn s.nx) #[.pointer (some ⟨W, 0, none⟩), .int .u8 (x : Int)] w fun e w' => e = .returned (.tuple #[]) ∧ Wp w' lo hi B D b R W A (gst s x) ∧ Fw lo hi w w' := by
 have hn := h.nx
 have l1 := h.l1 h0
 have hl := h.lf
 have cases13 : s.nx = 0 ∨ s.nx = 1 ∨ s.nx = 2 ∨ s.nx = 3 ∨ s.nx = 4 ∨ s.nx = 5 ∨ s.nx = 6 ∨ s.nx = 7 ∨ s.nx = 8 ∨ s.nx = 10 ∨ s.nx = 11 ∨ s.nx = 12 ∨ s.nx = 13 := by omega
 rcases cases13 with e | e | e | e | e | e | e | e | e | e | e | e | e
 ·have eg : gst s x = (if x = 31 then gbgn x s else gbad 40 s, []) := by unfold gst; rw [e]; rfl
  rw [eg, e]
  exact (first_c x hx w hw).mono fun e w' ⟨k1, k2, k3⟩ => ⟨k1, Or.inl ⟨rfl, I, cf, q, k2⟩, k3⟩
 ·have eg : gst s x = (if x = 139 then { gcnt x s with nx := 2 } else gbad 40 s, []) := by unfold gst; rw [e]; rfl
  rw [eg, e]
  exact (second_c x hx w hw h.sm).mono fun e w' ⟨k1, k2, k3⟩ => ⟨k1, Or.inl ⟨rfl, I, cf, q, k2⟩, k3⟩
 ·have eg : gst s x = (if x = 8 then { gcnt x s with nx := 3 } else gbad 41 s, []) := by unfold gst; rw [e]; rfl
  rw [eg, e]
  exact (method_c x hx w hw h.sm).mono fun e w' ⟨k1, k2, k3⟩ => ⟨k1, Or.inl ⟨rfl, I, cf, q, k2⟩, k3⟩
 ·have eg : gst s x = (if x < 32 then { gcnt x s with fl := x, nx := 4, lf := 6 } else gbad 42 s, []) := by unfold gst; rw [e]; rfl
  rw [eg, e]
  exact (flags_c x hx w hw h.sm).mono fun e w' ⟨k1, k2, k3⟩ => ⟨k1, Or.inl ⟨rfl, I, cf, q, k2⟩, k3⟩
 ·have eg : gst s x = gany x s := by unfold gst; rw [e]; rfl
  rw [eg, e]
  exact (any_c x hx w hw h.sm h.fl h.nm hl (l1 (by omega))).mono fun e w' ⟨k1, k2, k3⟩ => ⟨k1, k2.wp, k3⟩
 ·have eg : gst s x = gext (gath x (gcnt x s)) := by unfold gst; rw [e]; rfl
  rw [eg, e]
  exact (extra_c x hx w hw h.sm h.nb h.fl h.nm (l1 (by omega)) hl).mono fun e w' ⟨k1, k2, k3⟩ => ⟨k1, k2.wp, k3⟩
 ·have eg : gst s x = gtxt x (gnam x s) := by unfold gst; rw [e]; rfl
  rw [eg, e]
  exact (name_c x hx w hw h.sm h.fl h.nm hl (h.n6 h0 e)).mono fun e w' ⟨k1, k2, k3⟩ => ⟨k1, k2.wp, k3⟩
 ·have eg : gst s x = gtxt x s := by unfold gst; rw [e]; rfl
  rw [eg, e]
  exact (text_c x hx w hw h.sm h.fl h.nm hl).mono fun e w' ⟨k1, k2, k3⟩ => ⟨k1, k2.wp, k3⟩
 ·have eg : gst s x = ghsm (gath x s) := by unfold gst; rw [e]; rfl
  rw [eg, e]
  exact (hsum_c x hx w hw h.sm h.nb h.nm (l1 (by omega)) hl).mono fun e w' ⟨k1, k2, k3⟩ => ⟨k1, k2.wp, k3⟩
 ·have eg : gst s x = gdsm (gath x s) := by unfold gst; rw [e]; rfl
  rw [eg, e]
  exact dsum_c x hx w hw h.nb (l1 (by omega)) hl
 ·have eg : gst s x = gdsz (gath x s) := by unfold gst; rw [e]; rfl
  rw [eg, e]
  exact dsize_c x hx w hw h.nb (l1 (by omega)) hl
 ·have eg : gst s x = (if x = 31 then gbgn x s else { gnou x s with nx := 13 }, []) := by unfold gst; rw [e]; rfl
  rw [eg, e]
  exact (behind_c x hx w hw).mono fun e w' ⟨k1, k2, k3⟩ => ⟨k1, Or.inl ⟨rfl, I, cf, q, k2⟩, k3⟩
 ·have eg : gst s x = (gnou x s, []) := by unfold gst; rw [e]; rfl
  rw [eg, e]
  have en : s.nm = (gnou x s).nm := by unfold gnou; split <;> rfl
  exact (hw.nought x w).mono fun e w' ⟨k1, k2, k3⟩ => ⟨k1, Or.inl ⟨rfl, I, cf, q, (show Wk w' lo hi B D b R W A (gcof (gnou x s) none) (gnou x s).nm I cf q from en ▸ k2)⟩, k3⟩
theorem ask_end {w : World} (h : Inf w B D b R I MM cf q) (hq : q = .over ∨ q = .want) (ho : cf.out.length ≤ MM) (hs : Stands I MM yF) : cf.out = yF.out ∧ doneM q cf = endC yF ∧ (endC yF = false → whyM q cf = badC yF) ∧ (¬ Over yF → q = .want) := by
 rcases hq with rfl | rfl
 ·have h1 := h.stands_over (Nat.le_refl MM) ho
  have e := h1.one hs
  subst e
  refine ⟨rfl, rfl, fun e => ?_, fun e => absurd h.over_st e⟩
  rcases h.over_st with q | ⟨y, q⟩
  ·rw [(done_c3 q).1] at e; cases e
  ·show whyC cf = badC cf
   rw [(bad_c3 q).2.1, (bad_c3 q).2.2]
 ·obtain ⟨z, h1, h2, h3⟩ := h.stands (Nat.le_refl MM) ho
  have e := h1.one hs
  subst e
  obtain ⟨a1, a2, a3⟩ := open_c3 h3
  exact ⟨h2.symm, a1.symm, fun _ => a2.symm, fun _ => rfl⟩
theorem ask_more {w : World} {x : Nat} (h : Inf w B D b R I MM cf q) (hp : Pd (o ++ [x]) cf q) (hs : Stands I MM yF) : ∃ rest, yF.out = o ++ x :: rest := by
 have hr : Runs (allb I) MM cf yF := h.1.linear hs.1 hs.2
 obtain ⟨t, ht⟩ := runs_out hr (runs_ends h.1 (Nat.zero_le _))
 rcases hp with ⟨y, _, e⟩ | ⟨_, e⟩
 ·rw [e] at ht
  exact ⟨y :: t, by rw [← ht]; simp⟩
 ·rw [e] at ht
  exact ⟨t, by rw [← ht]; simp⟩
def Wa (w : World) (lo hi B D b R W A : Nat) (c : Gc) (n I o : List Nat) (yF : Cfg) : Prop := (∃ x rest cf q, yF.out = o ++ x :: rest ∧ Wk w lo hi B D b R W A { c with sm := sm 0 (o ++ [x]), gv := (o ++ [x]).length % 4294967296, ev := some (x, []) } n I cf q ∧ Pd (o ++ [x]) cf q) ∨ (yF.out = o ∧ ∃ cf q, Wk w lo hi B D b R W A { c with nx := if endC yF then 47 else c.nx, lf := if endC yF then 4 else c.lf, why := badC yF } n I cf q ∧ cf.out = o ∧ (¬ Over yF → q = .want))
set_option maxHeartbeats 2000000 in
theorem ask_c (w : World) (hw : Wk w lo hi B D b R W A c n I cf q) (hp : Pd o cf q) (hsm : c.sm = sm 0 o) (hgv : c.gv = o.length % 4294967296) (he : c.ev = none) (h0 : c.why = 0) (hs : Stands I MM yF) (ho : o.length + 1 < MM) : Calls Tryz.prog 31 #[.pointer (some ⟨W, 0, none⟩)] w fun e w' => e = .returned (.tuple #[]) ∧ Wa w' lo hi B D b R W A c n I o yF ∧ Fw lo hi w w' := by
 have kn := next_any w hw.inf o hp ho
 have d0 := hw.wc.a0
 have AW : Aside (Wk w lo hi B D b R W A c n I cf q) := hw
 clear hw
 go_enter Tryz.func31, Tryz.ntmps31
 go_upto_region 2 with (go_at_call 43; refine kn.mono ?_; rintro e1 w1 ⟨v10, v11, cf1, q1, rfl, f1, i1, hx1⟩)
 clear kn
 have hle : cf1.out.length ≤ MM := by
  rcases hx1 with ⟨x, _, _, hp1⟩ | ⟨_, _, _, ho1⟩
  ·have := hp1.le
   rw [List.length_append, List.length_singleton] at this
   omega
  ·rw [ho1]; omega
 have k1 := AW.out.fm f1 i1
 have fw1 : Aside (Fw lo hi w w1) := AW.out.ffm f1
 rcases hx1 with ⟨x, rfl, rfl, hp1⟩ | ⟨rfl, rfl, hq1, ho1⟩
 ·obtain ⟨rest, hrest⟩ := ask_more i1 hp1 hs
  have hoc : Oct (o ++ x :: rest) := hrest ▸ hs.oct
  have hxb : x < 256 := hoc x (by simp)
  have hoo : Oct o := fun y hy => hoc y (List.mem_append_left _ hy)
  have hsl := sm_lt o (s := 0) (by decide) hoo
  have ks := step_c (sm 0 o) x hsl hxb w1 k1.tab
  have d6 : w1.cell? ⟨W, 6, none⟩ = some (.int .u32 (sm 0 o : Nat)) := by rw [← hsm]; exact k1.wc.a6
  have d7 : w1.cell? ⟨W, 7, none⟩ = some (.int .u32 ((o.length % 4294967296 : Nat) : Int)) := by rw [← hgv]; exact k1.wc.a7
  obtain ⟨g, hg⟩ : ∃ g, o.length % 4294967296 = g := ⟨_, rfl⟩
  rw [hg] at d7
  obtain ⟨g2, hg2⟩ : ∃ g2, (o ++ [x]).length % 4294967296 = g2 := ⟨_, rfl⟩
  have hwr : ((g : Int) + 1) % 4294967296 = (g2 : Int) := by
   rw [List.length_append, List.length_singleton] at hg2
   omega
  obtain ⟨sv, hsv⟩ : ∃ sv, sm 0 o = sv := ⟨_, rfl⟩
  obtain ⟨sv2, hsv2⟩ : ∃ sv2, stp sv x = sv2 := ⟨_, rfl⟩
  rw [hsv] at ks d6
  rw [hsv2] at ks
  have es : sm 0 (o ++ [x]) = sv2 := by rw [sm_append, hsv]; exact hsv2
  have e0 : gk1 x = 2 := by unfold gk1; rw [if_neg (by omega), if_neg (by omega)]
  have e1 : gk2 x = (x : Int) := by unfold gk2; rw [if_pos hxb]
  have e2 : gk3 x = 0 := by unfold gk3; rw [if_neg (by omega)]
  have c8 := k1.wc.a8
  have c9 := k1.wc.a9
  have c10 := k1.wc.a10
  have c11 := k1.wc.a11
  have c12 := k1.wc.a12
  have z6 := k1.wc.fz 6
  have z7 := k1.wc.fz 7
  have z8 := k1.wc.fz 8
  have z9 := k1.wc.fz 9
  have z10 := k1.wc.fz 10
  have z11 := k1.wc.fz 11
  have z12 := k1.wc.fz 12
  have fin : Wk (((((((w1.setCell ⟨W, 6, none⟩ (.int .u32 (sv2 : Int))).setCell ⟨W, 7, none⟩ (.int .u32 (g2 : Int))).setCell ⟨W, 8, none⟩ (.int .i64 2)).setCell ⟨W, 9, none⟩ (.int .u8 (x : Int))).setCell ⟨W, 10, none⟩ (.int .i64 0)).setCell ⟨W, 11, none⟩ (.int .i64 0)).setCell ⟨W, 12, none⟩ (.string ⟨#[]⟩)) lo hi B D b R W A { c with sm := sv2, gv := g2, ev := some (x, []) } n I cf1 q1 ∧ Fw lo hi w1 (((((((w1.setCell ⟨W, 6, none⟩ (.int .u32 (sv2 : Int))).setCell ⟨W, 7, none⟩ (.int .u32 (g2 : Int))).setCell ⟨W, 8, none⟩ (.int .i64 2)).setCell ⟨W, 9, none⟩ (.int .u8 (x : Int))).setCell ⟨W, 10, none⟩ (.int .i64 0)).setCell ⟨W, 11, none⟩ (.int .i64 0)).setCell ⟨W, 12, none⟩ (.string ⟨#[]⟩)) := by
   have o7 : Only W w1 (((((((w1.setCell ⟨W, 6, none⟩ (.int .u32 (sv2 : Int))).setCell ⟨W, 7, none⟩ (.int .u32 (g2 : Int))).setCell ⟨W, 8, none⟩ (.int .i64 2)).setCell ⟨W, 9, none⟩ (.int .u8 (x : Int))).setCell ⟨W, 10, none⟩ (.int .i64 0)).setCell ⟨W, 11, none⟩ (.int .i64 0)).setCell ⟨W, 12, none⟩ (.string ⟨#[]⟩)) := (((((((Only.refl W w1).setCell 6 _).setCell 7 _).setCell 8 _).setCell 9 _).setCell 10 _).setCell 11 _).setCell 12 _
   have hc := ((k1.wc.s6 sv2).s7 g2).sev (some (x, []))
   have q0 : ev0 (some (x, [])) = 2 := e0
   have q1 : ev1 (some (x, [])) = (x : Int) := e1
   have q2 : ev2 (some (x, [])) = 0 := e2
   rw [q0, q1, q2] at hc
   exact ⟨k1.set o7 hc rfl, k1.fw o7⟩
  have AF : Aside (Wk (((((((w1.setCell ⟨W, 6, none⟩ (.int .u32 (sv2 : Int))).setCell ⟨W, 7, none⟩ (.int .u32 (g2 : Int))).setCell ⟨W, 8, none⟩ (.int .i64 2)).setCell ⟨W, 9, none⟩ (.int .u8 (x : Int))).setCell ⟨W, 10, none⟩ (.int .i64 0)).setCell ⟨W, 11, none⟩ (.int .i64 0)).setCell ⟨W, 12, none⟩ (.string ⟨#[]⟩)) lo hi B D b R W A { c with sm := sv2, gv := g2, ev := some (x, []) } n I cf1 q1 ∧ Fw lo hi w1 (((((((w1.setCell ⟨W, 6, none⟩ (.int .u32 (sv2 : Int))).setCell ⟨W, 7, none⟩ (.int .u32 (g2 : Int))).setCell ⟨W, 8, none⟩ (.int .i64 2)).setCell ⟨W, 9, none⟩ (.int .u8 (x : Int))).setCell ⟨W, 10, none⟩ (.int .i64 0)).setCell ⟨W, 11, none⟩ (.int .i64 0)).setCell ⟨W, 12, none⟩ (.string ⟨#[]⟩))) := fin
  have AR : Aside (sm 0 (o ++ [x]) = sv2 ∧ (o ++ [x]).length % 4294967296 = g2 ∧ Pd (o ++ [x]) cf1 q1 ∧ yF.out = o ++ x :: rest) := ⟨es, hg2, hp1, hrest⟩
  clear fin hp hsm hgv he h0 hs ho d0 AW f1 i1 k1 hp1 hrest hoc hxb hoo hsl hg hg2 hsv hsv2 es e0 e1 e2 hle
  go_wp2_with (go_at_call 44; refine ks.mono ?_; rintro e4 w4 ⟨rfl, rfl⟩)
  first | go_end0 | (refine bodyPost_ret (results_none rfl _ _ _) rfl ?_)
  have ar := AR.out
  refine ⟨rfl, Or.inl ⟨x, rest, cf1, q1, ar.2.2.2, ?_, ar.2.2.1⟩, fw1.out.trans AF.out.2⟩
  rw [ar.1, ar.2.1]
  exact AF.out.1
 ·obtain ⟨a1, a2, a3, a4⟩ := ask_end i1 hq1 hle hs
  have kd := pdone_c w1 i1
  have kr := reason_c w1 i1
  rw [a2] at kd
  have a5 : yF.out = o := a1.symm.trans ho1
  have kk : Aside (Wk w1 lo hi B D b R W A c n I cf1 q1) := k1
  have d0' := k1.wc.a0
  by_cases he2 : endC yF = true
  ·rw [he2] at kd
   have kt := k1.then_ 47 4 w1
   have hb : badC yF = 0 := by
    unfold endC at he2
    unfold badC
    split at he2
    ·rename_i q; rw [q]
    ·cases he2
   have AR : Aside (cf1.out = o ∧ (¬ Over yF → q1 = .want) ∧ yF.out = o ∧ endC yF = true ∧ badC yF = 0 ∧ c.why = 0) := ⟨ho1, a4, a5, he2, hb, h0⟩
   clear hp hsm hgv he h0 hs ho d0 AW f1 i1 k1 hq1 ho1 a1 a2 a3 a4 a5 hle kr he2 hb
   go_wp2_with (first
    | (go_at_call 45; refine kd.mono ?_; rintro e4 w4 ⟨rfl, rfl⟩)
    | (go_at_call 46; refine kt.mono ?_; rintro e5 w5 ⟨rfl, h5, f5⟩))
   first | go_end0 | (refine bodyPost_ret (results_none rfl _ _ _) rfl ?_)
   have ar := AR.out
   refine ⟨rfl, Or.inr ⟨ar.2.2.1, cf1, q1, ?_, ar.1, ar.2.1⟩, fw1.out.trans f5⟩
   rw [if_pos ar.2.2.2.1, if_pos ar.2.2.2.1, ar.2.2.2.2.1, ← ar.2.2.2.2.2]
   exact h5
  ·have he3 : endC yF = false := by simpa using he2
   rw [he3] at kd
   rw [a3 he3] at kr
   obtain ⟨y, hy⟩ : ∃ y, badC yF = y := ⟨_, rfl⟩
   rw [hy] at kr
   have d15 := k1.wc.a15
   have z15 := k1.wc.fz 15
   have AR : Aside (cf1.out = o ∧ (¬ Over yF → q1 = .want) ∧ yF.out = o ∧ endC yF = false ∧ badC yF = y) := ⟨ho1, a4, a5, he3, hy⟩
   clear hp hsm hgv he h0 hs ho d0 AW f1 i1 k1 hq1 ho1 a1 a2 a3 a4 a5 hle he2 he3 hy
   go_wp2_with (first
    | (go_at_call 45; refine kd.mono ?_; rintro e4 w4 ⟨rfl, rfl⟩)
    | (go_at_call 48; refine kr.mono ?_; rintro e5 w5 ⟨rfl, rfl⟩))
   first | go_end0 | (refine bodyPost_ret (results_none rfl _ _ _) rfl ?_)
   have ar := AR.out
   have k := kk.out
   refine ⟨rfl, Or.inr ⟨ar.2.2.1, cf1, q1, ?_, ar.1, ar.2.1⟩, fw1.out.trans (k.fw ((Only.refl W w1).setCell 15 _))⟩
   rw [if_neg (by rw [ar.2.2.2.1]; decide), if_neg (by rw [ar.2.2.2.1]; decide), ar.2.2.2.2]
   exact k.set ((Only.refl W w1).setCell 15 _) (k.wc.s15 y) rfl
end
end Go.Proofs.YtogednaamndpgaaGreatDoor

/-
 The walker's calls Put, Reason, End, Reset, told of its cells.
-/
namespace Go.Proofs.YtogednaamndpgaaGreatDoor
open Go.RowKit
set_option linter.unusedVariables false
section
variable {lo hi B D b R W A : Nat} {n I o : List Nat} {cf yF : Cfg} {q : Md} {s : Gs} {c : Gc}
theorem ev0_some (e : Evn) : ev0 (some e) ≠ 0 := by
 show gk1 e.1 ≠ 0
 unfold gk1
 (repeat' split) <;> decide
theorem wopen_yes (w : World) (h : Wc w W D A c) (he : c.ev = none) (h0 : c.why = 0) (hen : c.en = false) : Calls Tryz.prog 30 #[.pointer (some ⟨W, 0, none⟩)] w fun e w' => e = .returned (.bool true) ∧ w = w' := by
 have d8 : w.cell? ⟨W, 8, none⟩ = some (.int .i64 0) := by have := h.a8; rw [he] at this; exact this
 have d15 : w.cell? ⟨W, 15, none⟩ = some (.int .i64 0) := by have := h.a15; rw [h0] at this; exact this
 have d14 : w.cell? ⟨W, 14, none⟩ = some (.bool false) := by have := h.a14; rw [hen] at this; exact this
 clear h he h0 hen
 go_enter Tryz.func30, Tryz.ntmps30
 go_wp2_with fail
 first | go_ret | go_ret2
 exact ⟨rfl, rfl⟩
theorem wopen_ev (w : World) (h : Wc w W D A c) (he : c.ev ≠ none) : Calls Tryz.prog 30 #[.pointer (some ⟨W, 0, none⟩)] w fun e w' => e = .returned (.bool false) ∧ w = w' := by
 have d8 := h.a8
 obtain ⟨k, hk⟩ : ∃ k, ev0 c.ev = k := ⟨_, rfl⟩
 have hk0 : (k == 0) = false := by
  rw [beq_eq_false_iff_ne, ← hk]
  cases hc : c.ev with
  | none => exact absurd hc he
  | some e => exact ev0_some e
 rw [hk] at d8
 clear h he hk
 go_enter Tryz.func30, Tryz.ntmps30
 go_wp2_with fail
 first | go_ret | go_ret2
 exact ⟨rfl, rfl⟩
theorem wopen_why (w : World) (h : Wc w W D A c) (he : c.ev = none) (h0 : c.why ≠ 0) : Calls Tryz.prog 30 #[.pointer (some ⟨W, 0, none⟩)] w fun e w' => e = .returned (.bool false) ∧ w = w' := by
 have d8 : w.cell? ⟨W, 8, none⟩ = some (.int .i64 0) := by have := h.a8; rw [he] at this; exact this
 have d15 := h.a15
 have hk0 : ((c.why : Int) == 0) = false := by rw [beq_eq_false_iff_ne]; omega
 clear h he h0
 go_enter Tryz.func30, Tryz.ntmps30
 go_wp2_with fail
 first | go_ret | go_ret2
 exact ⟨rfl, rfl⟩
theorem wopen_en (w : World) (h : Wc w W D A c) (he : c.ev = none) (h0 : c.why = 0) (hen : c.en = true) : Calls Tryz.prog 30 #[.pointer (some ⟨W, 0, none⟩)] w fun e w' => e = .returned (.bool false) ∧ w = w' := by
 have d8 : w.cell? ⟨W, 8, none⟩ = some (.int .i64 0) := by have := h.a8; rw [he] at this; exact this
 have d15 : w.cell? ⟨W, 15, none⟩ = some (.int .i64 0) := by have := h.a15; rw [h0] at this; exact this
 have d14 : w.cell? ⟨W, 14, none⟩ = some (.bool true) := by have := h.a14; rw [hen] at this; exact this
 clear h he h0 hen
 go_enter Tryz.func30, Tryz.ntmps30
 go_wp2_with fail
 first | go_ret | go_ret2
 exact ⟨rfl, rfl⟩
theorem wopen_no (w : World) (h : Wc w W D A c) (hn : c.ev ≠ none ∨ c.why ≠ 0 ∨ c.en = true) : Calls Tryz.prog 30 #[.pointer (some ⟨W, 0, none⟩)] w fun e w' => e = .returned (.bool false) ∧ w = w' := by
 by_cases he : c.ev = none
 ·by_cases h0 : c.why = 0
  ·rcases hn with q | q | q
   ·exact absurd he q
   ·exact absurd h0 q
   ·exact wopen_en w h he h0 q
  ·exact wopen_why w h he h0
 ·exact wopen_ev w h he
theorem wput_no (x : Nat) (w : World) (h : Wc w W D A c) (hn : c.ev ≠ none ∨ c.why ≠ 0 ∨ c.en = true) : Calls Tryz.prog 15 #[.pointer (some ⟨W, 0, none⟩), .int .u8 (x : Int)] w fun e w' => e = .returned (.bool false) ∧ w = w' := by
 have ko := wopen_no w h hn
 clear h hn
 go_enter Tryz.func15, Tryz.ntmps15
 go_wp2_with (go_at_call 30; refine ko.mono ?_; rintro e2 w2 ⟨rfl, rfl⟩)
 first | go_ret | go_ret2
 exact ⟨rfl, rfl⟩
set_option maxHeartbeats 2000000 in
theorem wput_gen (k : Nat) (hks : k = 29 ∨ k = 73 ∨ k = 102 ∨ k = 116 ∨ k = 127 ∨ k = 133 ∨ k = 134 ∨ k = 135 ∨ k = 136 ∨ k = 141 ∨ k = 47 ∨ k = 77 ∨ k = 103 ∨ k = 117) (P : World → Prop) (x : Nat) (w : World) (h : Wc w W D A c) (hk : c.nx = k) (he : c.ev = none) (h0 : c.why = 0) (hen : c.en = false) (hst : Calls Tryz.prog k #[.pointer (some ⟨W, 0, none⟩), .int .u8 (x : Int)] w fun e w' => e = .returned (.tuple #[]) ∧ P w') : Calls Tryz.prog 15 #[.pointer (some ⟨W, 0, none⟩), .int .u8 (x : Int)] w fun e w' => e = .returned (.bool true) ∧ P w' := by
 have ko := wopen_yes w h he h0 hen
 have d1 : w.cell? ⟨W, 1, none⟩ = some (fnv W k) := by rw [← hk]; exact h.a1
 unfold fnv at d1
 clear h hk he h0 hen
 rcases hks with rfl | rfl | rfl | rfl | rfl | rfl | rfl | rfl | rfl | rfl | rfl | rfl | rfl | rfl
 all_goals
  go_enter Tryz.func15, Tryz.ntmps15
  go_wp2_with (first
   | (go_at_call 30; refine ko.mono ?_; rintro e2 w2 ⟨rfl, rfl⟩)
   | (go_at_call 29; refine hst.mono ?_; rintro e3 w3 ⟨rfl, h3⟩)
   | (go_at_call 73; refine hst.mono ?_; rintro e3 w3 ⟨rfl, h3⟩)
   | (go_at_call 102; refine hst.mono ?_; rintro e3 w3 ⟨rfl, h3⟩)
   | (go_at_call 116; refine hst.mono ?_; rintro e3 w3 ⟨rfl, h3⟩)
   | (go_at_call 127; refine hst.mono ?_; rintro e3 w3 ⟨rfl, h3⟩)
   | (go_at_call 133; refine hst.mono ?_; rintro e3 w3 ⟨rfl, h3⟩)
   | (go_at_call 134; refine hst.mono ?_; rintro e3 w3 ⟨rfl, h3⟩)
   | (go_at_call 135; refine hst.mono ?_; rintro e3 w3 ⟨rfl, h3⟩)
   | (go_at_call 136; refine hst.mono ?_; rintro e3 w3 ⟨rfl, h3⟩)
   | (go_at_call 141; refine hst.mono ?_; rintro e3 w3 ⟨rfl, h3⟩)
   | (go_at_call 47; refine hst.mono ?_; rintro e3 w3 ⟨rfl, h3⟩)
   | (go_at_call 77; refine hst.mono ?_; rintro e3 w3 ⟨rfl, h3⟩)
   | (go_at_call 103; refine hst.mono ?_; rintro e3 w3 ⟨rfl, h3⟩)
   | (go_at_call 117; refine hst.mono ?_; rintro e3 w3 ⟨rfl, h3⟩))
  first | go_ret | go_ret2
  exact ⟨rfl, h3⟩
theorem pfn_in (k : Nat) : pfn k = 29 ∨ pfn k = 73 ∨ pfn k = 102 ∨ pfn k = 116 ∨ pfn k = 127 ∨ pfn k = 133 ∨ pfn k = 134 ∨ pfn k = 135 ∨ pfn k = 136 ∨ pfn k = 141 ∨ pfn k = 47 ∨ pfn k = 77 ∨ pfn k = 103 ∨ pfn k = 117 := by
 unfold pfn
 split <;> simp
theorem wreason_c (w : World) (h : Wc w W D A c) : Calls Tryz.prog 18 #[.pointer (some ⟨W, 0, none⟩)] w fun e w' => e = .returned (.int .i64 (c.why : Int)) ∧ w = w' := by
 have d15 := h.a15
 clear h
 go_enter Tryz.func18, Tryz.ntmps18
 go_wp2_with fail
 first | go_ret | go_ret2
 exact ⟨rfl, rfl⟩
theorem wend_no (w : World) (h : Wc w W D A c) (hn : c.ev ≠ none ∨ c.why ≠ 0 ∨ c.en = true) : Calls Tryz.prog 19 #[.pointer (some ⟨W, 0, none⟩)] w fun e w' => e = .returned (.tuple #[]) ∧ w = w' := by
 have ko := wopen_no w h hn
 clear h hn
 go_enter Tryz.func19, Tryz.ntmps19
 go_wp2_with (go_at_call 30; refine ko.mono ?_; rintro e2 w2 ⟨rfl, rfl⟩)
 first | go_end0 | (refine bodyPost_ret (results_none rfl _ _ _) rfl ?_)
 exact ⟨rfl, rfl⟩
theorem wend_yes (w : World) (hw : Wk w lo hi B D b R W A c n I cf q) (he : c.ev = none) (h0 : c.why = 0) (hen : c.en = false) (y : Nat) (hy : (if c.wh = true then 0 else 1) = y) : Calls Tryz.prog 19 #[.pointer (some ⟨W, 0, none⟩)] w fun e w' => e = .returned (.tuple #[]) ∧ Wk w' lo hi B D b R W A { c with en := true, why := y } n I cf q ∧ Fw lo hi w w' := by
 have ko := wopen_yes w hw.wc he h0 hen
 have d13 := hw.wc.a13
 have d14 := hw.wc.a14
 have z14 := hw.wc.fz 14
 have d15 := hw.wc.a15
 have z15 := hw.wc.fz 15
 have AW : Aside (Wk w lo hi B D b R W A c n I cf q ∧ c.why = 0) := ⟨hw, h0⟩
 obtain ⟨t, ht⟩ : ∃ t, c.wh = t := ⟨_, rfl⟩
 rw [ht] at d13 hy
 clear hw he h0 hen ht
 cases t with
 | true =>
  obtain rfl : (0 : Nat) = y := by simpa using hy
  clear hy
  go_enter Tryz.func19, Tryz.ntmps19
  go_wp2_with (go_at_call 30; refine ko.mono ?_; rintro e2 w2 ⟨rfl, rfl⟩)
  first | go_end0 | (refine bodyPost_ret (results_none rfl _ _ _) rfl ?_)
  have a := AW.out
  refine ⟨rfl, ?_, a.1.fw ((Only.refl W w).setCell 14 _)⟩
  have k := a.1.set ((Only.refl W w).setCell 14 _) (a.1.wc.s14 true) rfl
  have e : ({ c with en := true, why := 0 } : Gc) = { c with en := true } := by rw [← a.2]
  rw [e]
  exact k
 | false =>
  obtain rfl : (1 : Nat) = y := by simpa using hy
  clear hy
  go_enter Tryz.func19, Tryz.ntmps19
  go_wp2_with (go_at_call 30; refine ko.mono ?_; rintro e2 w2 ⟨rfl, rfl⟩)
  first | go_end0 | (refine bodyPost_ret (results_none rfl _ _ _) rfl ?_)
  have a := AW.out
  exact ⟨rfl, a.1.set (((Only.refl W w).setCell 14 _).setCell 15 _) ((a.1.wc.s14 true).s15 1) rfl, a.1.fw (((Only.refl W w).setCell 14 _).setCell 15 _)⟩
end
end Go.Proofs.YtogednaamndpgaaGreatDoor

/-
  Own texts of this seat, one behind the other: what each says stands ahead of it.
-/
import Derived.Test.YtpihipbeagpgpaaGreatDoorMl
import Derived.Test.YtpihipbeagpgpaaGreatDoorMj
import Derived.Deep.RegionHeld3
import Derived.Deep.RegionWith
import Derived.Deep.CutBlock
import Derived.Deep.DeepCutAuto
import Derived.Test.YtpihipbeagpgpaaGreatDoorMd
/-
 What stands behind an entry's header: body.
-/
namespace Go.Proofs.YtpihipbeagpgpaaGreatDoor
open Go.RowKit
set_option linter.unusedVariables false
section
variable {lo hi B D b R W : Nat} {I : List Nat} {cf : Cfg} {q : Md} {c : Zc} {s : Zs} {v td : Value}
structure Zh (s : Zs) : Prop where
 why : s.why = 0
 ph : s.ph ≠ 1
 fl : s.fl < 18446744073709551616
 sg : s.sg < 4294967296
 nl : s.nl = s.nm.length
 nm : Oct s.nm
 s0 : s.sg = 0
 g0 : s.gv = 0
theorem body_flags (w : World) (h : Wk w lo hi B D b R W (zc s v td none) I cf q) (z : Zh s) : (∀ x, zbeh s = x → Calls Tryz.prog 140 #[.pointer (some ⟨W, 2, none⟩)] w fun e w' => e = .returned (.bool x) ∧ w = w') ∧ (∀ x, zunr s = x → Calls Tryz.prog 141 #[.pointer (some ⟨W, 2, none⟩)] w fun e w' => e = .returned (.bool x) ∧ w = w') := by
 constructor
 ·rintro x rfl
  exact sizes_c s.fl w h.wc.a2 z.fl
 ·rintro x rfl
  exact unread_c s.fl s.me w h.wc.a2 h.wc.a3 z.fl
theorem body_lost (w : World) (h : Wk w lo hi B D b R W (zc s v td none) I cf q) (z : Zh s) (h1 : zbeh s = true) (h2 : zunr s = true ∨ s.me = 0) : Calls Tryz.prog 125 #[.pointer (some ⟨W, 0, none⟩)] w fun e w' => e = .returned (.tuple #[]) ∧ Wz w' lo hi B D b R W (zbad 50 s) [] ∧ Fz lo hi w w' := by
 obtain ⟨kb, ku⟩ := body_flags w h z
 have kb := kb true h1
 obtain ⟨u, hu⟩ : ∃ u, zunr s = u := ⟨_, rfl⟩
 have ku := ku u hu
 have d3 : w.cell? ⟨W, 3, none⟩ = some (.int .u64 (s.me : Int)) := h.wc.a3
 have c277 := h.wc.a277
 have z277 := h.wc.fz 277
 have AH : Aside (Wk w lo hi B D b R W (zc s v td none) I cf q) := h
 rw [hu] at h2
 obtain ⟨m, hm⟩ : ∃ m, s.me = m := ⟨_, rfl⟩
 rw [hm] at d3 h2
 clear h z h1 hu hm
 cases u with
 | true =>
  clear h2
  go_enter Tryz.func125, Tryz.ntmps125
  go_wp2_with (first
   | (go_at_call 140; refine kb.mono ?_; rintro e2 w2 ⟨rfl, rfl⟩)
   | (go_at_call 141; refine ku.mono ?_; rintro e2 w2 ⟨rfl, rfl⟩))
  first | go_end0 | (refine bodyPost_ret (results_none rfl _ _ _) rfl ?_)
  have h := AH.out
  exact ⟨rfl, Or.inl ⟨rfl, v, td, I, cf, q, h.set ((Only.refl W _).setCell 277 _) (h.wc.s277 50), fun e => absurd e (by show ¬ (50 : Nat) = 0; decide), fun _ e => absurd e (by show ¬ (50 : Nat) = 0; decide)⟩, h.fw ((Only.refl W _).setCell 277 _)⟩
 | false =>
  obtain rfl : m = 0 := by simpa using h2
  clear h2
  go_enter Tryz.func125, Tryz.ntmps125
  go_wp2_with (first
   | (go_at_call 140; refine kb.mono ?_; rintro e2 w2 ⟨rfl, rfl⟩)
   | (go_at_call 141; refine ku.mono ?_; rintro e2 w2 ⟨rfl, rfl⟩))
  first | go_end0 | (refine bodyPost_ret (results_none rfl _ _ _) rfl ?_)
  have h := AH.out
  exact ⟨rfl, Or.inl ⟨rfl, v, td, I, cf, q, h.set ((Only.refl W _).setCell 277 _) (h.wc.s277 50), fun e => absurd e (by show ¬ (50 : Nat) = 0; decide), fun _ e => absurd e (by show ¬ (50 : Nat) = 0; decide)⟩, h.fw ((Only.refl W _).setCell 277 _)⟩
theorem body_skip (w : World) (h : Wk w lo hi B D b R W (zc s v td none) I cf q) (z : Zh s) (h1 : zbeh s = false) (h2 : zunr s = true) : Calls Tryz.prog 125 #[.pointer (some ⟨W, 0, none⟩)] w fun e w' => e = .returned (.tuple #[]) ∧ Wz w' lo hi B D b R W (zskip s).1 (zskip s).2 ∧ Fz lo hi w w' := by
 obtain ⟨kb, ku⟩ := body_flags w h z
 have kb := kb false h1
 have ku := ku true h2
 have d5 : w.cell? ⟨W, 5, none⟩ = some (.int .u64 (s.pk : Int)) := h.wc.a5
 have kp : Calls Tryz.prog 124 #[.pointer (some ⟨W, 0, none⟩), .int .u64 (s.pk : Int), .func (.func 31) #[.pointer (some ⟨W, 0, none⟩)] #[]] w fun e w' => e = .returned (.tuple #[]) ∧ (Wz w' lo hi B D b R W (zskip s).1 (zskip s).2 ∧ Fz lo hi w w') := by
  unfold zskip
  by_cases h0 : s.pk = 0
  ·rw [if_pos h0, h0]
   refine passz_c 3 31 rfl (Or.inr (Or.inr rfl)) _ w fun w1 hs b1 => ?_
   have h1 := h.below b1 (Nat.le_refl _)
   refine (place_c w1 h1).mono ?_
   rintro e w' ⟨rfl, ⟨v', a1, a2⟩, f⟩
   refine ⟨rfl, Or.inl ⟨rfl, v', td, I, cf, q, ?_, fun _ => a2 _ rfl rfl, fun e => by rcases e with e | e <;> cases e⟩, (Fz.of_below b1 (Nat.le_refl _)).trans f⟩
   have e : (zc (zplace s) v' td none) = { zc s v td none with nx := v' } := by
    unfold zc zplace
    simp [z.ph]
   rw [e]
   exact a1
  ·rw [if_neg h0]
   refine (pass_c s.pk 3 h0 (by decide) w h).mono ?_
   rintro e w' ⟨rfl, ⟨v', a1, a2⟩, f⟩
   refine ⟨rfl, Or.inl ⟨rfl, v', td, I, cf, q, ?_, fun _ => a2 _ rfl rfl rfl, fun e => by rcases e with e | e <;> cases e⟩, f⟩
   have e : (zc { s with ph := 3, k := 3, mn := s.pk } v' td none) = { zc s v td none with nx := v' } := by
    unfold zc
    simp [z.ph]
   rw [e]
   exact a1
 obtain ⟨m, hm⟩ : ∃ m, s.pk = m := ⟨_, rfl⟩
 rw [hm] at d5 kp
 obtain ⟨P, hP⟩ : ∃ P : World → Prop, P = fun w' => Wz w' lo hi B D b R W (zskip s).1 (zskip s).2 ∧ Fz lo hi w w' := ⟨_, rfl⟩
 have kp2 : Calls Tryz.prog 124 #[.pointer (some ⟨W, 0, none⟩), .int .u64 (m : Int), .func (.func 31) #[.pointer (some ⟨W, 0, none⟩)] #[]] w fun e w' => e = .returned (.tuple #[]) ∧ P w' := by rw [hP]; exact kp
 have AP : Aside (∀ w', P w' → Wz w' lo hi B D b R W (zskip s).1 (zskip s).2 ∧ Fz lo hi w w') := fun w' k => by rw [hP] at k; exact k
 clear h z h1 h2 hm kp hP
 go_enter Tryz.func125, Tryz.ntmps125
 go_wp2_with (first
  | (go_at_call 140; refine kb.mono ?_; rintro e2 w2 ⟨rfl, rfl⟩)
  | (go_at_call 141; refine ku.mono ?_; rintro e2 w2 ⟨rfl, rfl⟩)
  | (go_at_call 124; refine kp2.mono ?_; rintro e3 w3 ⟨rfl, h3⟩))
 first | go_end0 | (refine bodyPost_ret (results_none rfl _ _ _) rfl ?_)
 exact ⟨rfl, AP.out _ h3⟩
theorem body_bad (w : World) (h : Wk w lo hi B D b R W (zc s v td none) I cf q) (z : Zh s) (h1 : zbeh s = false) (h2 : zunr s = false) (h3 : s.me = 0) (h4 : s.pk ≠ s.sz) : Calls Tryz.prog 125 #[.pointer (some ⟨W, 0, none⟩)] w fun e w' => e = .returned (.tuple #[]) ∧ Wz w' lo hi B D b R W (zbad 45 s) [] ∧ Fz lo hi w w' := by
 obtain ⟨kb, ku⟩ := body_flags w h z
 have kb := kb false h1
 have ku := ku false h2
 have d3 : w.cell? ⟨W, 3, none⟩ = some (.int .u64 (s.me : Int)) := h.wc.a3
 have d5 : w.cell? ⟨W, 5, none⟩ = some (.int .u64 (s.pk : Int)) := h.wc.a5
 have d6 : w.cell? ⟨W, 6, none⟩ = some (.int .u64 (s.sz : Int)) := h.wc.a6
 have c277 := h.wc.a277
 have z277 := h.wc.fz 277
 have AH : Aside (Wk w lo hi B D b R W (zc s v td none) I cf q) := h
 rw [h3] at d3
 obtain ⟨m, hm⟩ : ∃ m, s.pk = m := ⟨_, rfl⟩
 obtain ⟨n, hn⟩ : ∃ n, s.sz = n := ⟨_, rfl⟩
 rw [hm] at d5 h4
 rw [hn] at d6 h4
 have t0 : ((m : Int) != (n : Int)) = true := by rw [bne_iff_ne]; omega
 clear h z h1 h2 h3 h4 hm hn
 go_enter Tryz.func125, Tryz.ntmps125
 go_wp2_with (first
  | (go_at_call 140; refine kb.mono ?_; rintro e2 w2 ⟨rfl, rfl⟩)
  | (go_at_call 141; refine ku.mono ?_; rintro e2 w2 ⟨rfl, rfl⟩))
 go_quiet (fail)
 go_wp2_with fail
 first | go_end0 | (refine bodyPost_ret (results_none rfl _ _ _) rfl ?_)
 have h := AH.out
 exact ⟨rfl, Or.inl ⟨rfl, v, td, I, cf, q, (h.drewN _).set ((Only.refl W _).setCell 277 _) ((h.drewN _).wc.s277 45), fun e => absurd e (by show ¬ (45 : Nat) = 0; decide), fun _ e => absurd e (by show ¬ (45 : Nat) = 0; decide)⟩, (Fz.drewN w _).trans ((h.drewN _).fw ((Only.refl W _).setCell 277 _))⟩
set_option maxHeartbeats 1000000 in
theorem body_open (w : World) (h : Wk w lo hi B D b R W (zc s v td none) I cf q) (z : Zh s) (h2 : zunr s = false) (h3 : (s.me = 0 ∧ zbeh s = false ∧ s.pk = s.sz) ∨ s.me ≠ 0) : Calls Tryz.prog 125 #[.pointer (some ⟨W, 0, none⟩)] w fun e w' => e = .returned (.tuple #[]) ∧ Wz w' lo hi B D b R W (zopen s).1 (zopen s).2 ∧ Fz lo hi w w' := by
 obtain ⟨kb, ku⟩ := body_flags w h z
 have ku := ku false h2
 have d3 : w.cell? ⟨W, 3, none⟩ = some (.int .u64 (s.me : Int)) := h.wc.a3
 have d5 : w.cell? ⟨W, 5, none⟩ = some (.int .u64 (s.pk : Int)) := h.wc.a5
 have d6 : w.cell? ⟨W, 6, none⟩ = some (.int .u64 (s.sz : Int)) := h.wc.a6
 have d7 : w.cell? ⟨W, 7, none⟩ = some (.int .u64 (s.nl : Int)) := h.wc.a7
 have c269 := h.wc.a269
 have c270 := h.wc.a270
 have c271 := h.wc.a271
 have c272 := h.wc.a272
 have c273 := h.wc.a273
 have c274 := h.wc.a274
 have z269 := h.wc.fz 269
 have z270 := h.wc.fz 270
 have z271 := h.wc.fz 271
 have z272 := h.wc.fz 272
 have z273 := h.wc.fz 273
 have z274 := h.wc.fz 274
 have hnb : s.nm.length ≤ 256 := h.wc.nb
 have hcv : ∀ m, (convert 22 9 (.slice (some ⟨W, 10, none⟩) s.nl 256)).run Tryz.prog (w.drewN m) = .ok (.string (st s.nm)) (w.drewN m) := fun m => by
  rw [z.nl]
  exact conv_st s.nm.length 256 rfl z.nm (h.drewN m).wc.ln
 have hcv2 : ∀ m, (convert 22 9 (.slice (some ⟨W, 10, none⟩) s.nl 256)).run Tryz.prog (w.drewN m).drew = .ok (.string (st s.nm)) (w.drewN m).drew := fun m => by
  rw [z.nl]
  exact conv_st (w := (w.drewN m).drew) s.nm.length 256 rfl z.nm ((h.drewN m).drewN 1).wc.ln
 rw [← z.nl] at hnb
 have AH : Aside (Wk w lo hi B D b R W (zc s v td none) I cf q ∧ Zh s) := ⟨h, z⟩
 have fin : ∀ m, Wz ((((((((w.drewN m).drew.setCell ⟨W, 269, none⟩ (.int .i64 1)).setCell ⟨W, 270, none⟩ (.int .u8 0)).setCell ⟨W, 271, none⟩ (.int .i64 2)).setCell ⟨W, 272, none⟩ (.int .i64 0)).setCell ⟨W, 273, none⟩ (.string (st s.nm))).setCell ⟨W, 274, none⟩ (bm 142 W))) lo hi B D b R W (zopen s).1 (zopen s).2 ∧ Fz lo hi w ((((((((w.drewN m).drew.setCell ⟨W, 269, none⟩ (.int .i64 1)).setCell ⟨W, 270, none⟩ (.int .u8 0)).setCell ⟨W, 271, none⟩ (.int .i64 2)).setCell ⟨W, 272, none⟩ (.int .i64 0)).setCell ⟨W, 273, none⟩ (.string (st s.nm))).setCell ⟨W, 274, none⟩ (bm 142 W))) := fun m => by
  have k := (h.drewN m).drewN 1
  have o6 := (only5 W (w.drewN m).drew (.int .i64 1) (.int .u8 0) (.int .i64 2) (.int .i64 0) (.string (st s.nm))).setCell 274 (bm 142 W)
  exact ⟨Or.inr (Or.inl ⟨s, v, I, cf, q, rfl, z.why, z.ph, ⟨z.s0, z.g0, z.fl⟩, k.set o6 ((k.wc.sev (some (256, s.nm))).s274 (bm 142 W))⟩), ((Fz.drewN w m).trans (Fz.drewN _ 1)).trans (k.fw o6)⟩
 unfold bm at fin
 obtain ⟨me, hme⟩ : ∃ m, s.me = m := ⟨_, rfl⟩
 obtain ⟨pk, hpk⟩ : ∃ m, s.pk = m := ⟨_, rfl⟩
 obtain ⟨sz, hsz⟩ : ∃ n, s.sz = n := ⟨_, rfl⟩
 obtain ⟨nl, hnl⟩ : ∃ n, s.nl = n := ⟨_, rfl⟩
 obtain ⟨bh, hbh⟩ : ∃ n, zbeh s = n := ⟨_, rfl⟩
 obtain ⟨nm, hnm⟩ : ∃ n, st s.nm = n := ⟨_, rfl⟩
 have kb := kb bh hbh
 rw [hme] at d3 h3
 rw [hpk] at d5 h3
 rw [hsz] at d6 h3
 rw [hnl] at d7 hcv hcv2 hnb
 rw [hnm] at hcv hcv2 fin
 rw [hbh] at h3
 have AF : Aside (∀ m, _) := fin
 clear h z h2 hme hpk hsz hnl hbh hnm fin
 have hnb2 : (nl : Int) ≤ 256 := by omega
 rcases h3 with ⟨rfl, rfl, rfl⟩ | h3
 ·go_enter Tryz.func125, Tryz.ntmps125
  go_wp2_with (first
   | (go_at_call 140; refine kb.mono ?_; rintro e2 w2 ⟨rfl, rfl⟩)
   | (go_at_call 141; refine ku.mono ?_; rintro e2 w2 ⟨rfl, rfl⟩))
  go_quiet (fail)
  go_wp2_with fail
  go_region
  go_wp2_with fail
  first | go_end0 | (refine bodyPost_ret (results_none rfl _ _ _) rfl ?_)
  exact ⟨rfl, AF.out _⟩
 ·have t0 : ((me : Int) == 0) = false := by rw [beq_eq_false_iff_ne]; omega
  cases bh with
  | true =>
   go_enter Tryz.func125, Tryz.ntmps125
   go_wp2_with (first
    | (go_at_call 140; refine kb.mono ?_; rintro e2 w2 ⟨rfl, rfl⟩)
    | (go_at_call 141; refine ku.mono ?_; rintro e2 w2 ⟨rfl, rfl⟩))
   go_quiet (fail)
   go_wp2_with fail
   go_region
   go_wp2_with fail
   first | go_end0 | (refine bodyPost_ret (results_none rfl _ _ _) rfl ?_)
   exact ⟨rfl, AF.out _⟩
  | false =>
   go_enter Tryz.func125, Tryz.ntmps125
   go_wp2_with (first
    | (go_at_call 140; refine kb.mono ?_; rintro e2 w2 ⟨rfl, rfl⟩)
    | (go_at_call 141; refine ku.mono ?_; rintro e2 w2 ⟨rfl, rfl⟩))
   go_quiet (fail)
   go_wp2_with fail
   go_region
   go_wp2_with fail
   first | go_end0 | (refine bodyPost_ret (results_none rfl _ _ _) rfl ?_)
   exact ⟨rfl, AF.out _⟩
end
end Go.Proofs.YtpihipbeagpgpaaGreatDoor

/-
  The records of an extra: record.
-/
namespace Go.Proofs.YtpihipbeagpgpaaGreatDoor
open Go.RowKit
set_option linter.unusedVariables false
section
variable {lo hi B D b R W : Nat} {I : List Nat} {cf : Cfg} {q : Md} {c : Zc} {s : Zs} {v td : Value}
theorem Fz.bx {w u : World} {p : Nat} {t : TypeId} {cs : Array Value} (f : Fz lo hi w u) (h : Bx w hi p t cs) (ht : t ≠ 66 ∧ t ≠ 3 ∧ t ≠ 98) : Bx u hi p t cs := h.keep (f.stay h.lt (Or.inr h.lo) (Bt.not h.cell ht))
theorem zend_xl (s : Zs) : (zend s).1.xl = s.xl := by unfold zend; repeat' split
                                                      all_goals rfl
theorem zsen_xl (s : Zs) : (zsen s).1.xl = s.xl := by
  unfold zsen; split
  · exact zend_xl s
  · rfl
theorem zask_xl (s : Zs) : (zask s).1.xl = s.xl := by
  unfold zask; repeat' split
  all_goals first | rfl | exact zend_xl s
theorem zbegin_xl (s : Zs) : (zbegin s).1.xl = s.xl := by
  unfold zbegin; repeat' split
  all_goals first | rfl | exact zend_xl { s with ph := 4 }
theorem zbody_xl (s : Zs) : (zbody s).1.xl = s.xl := by
  unfold zbody zskip; repeat' split
  all_goals first | rfl | exact zbegin_xl s
theorem zxb_xl (s : Zs) : (zxb s).1.xl = s.xl := by
  unfold zxb; split
  · exact zbody_xl s
  · rfl
theorem Wz.xl {w : World} {E : List Evn} (h : Wz w lo hi B D b R W s E) : w.cell? ⟨W, 8, none⟩ = some (.int .u64 (s.xl : Int)) := by
  rcases h with ⟨_, v, td, I, cf, q, k, _⟩ | ⟨s1, v, I, cf, q, e, _, _, _, k⟩ | ⟨s1, v, I, cf, q, _, e, _, _, k⟩ | ⟨s1, x, I, cf, q, _, e, _, _, _, _, k⟩ | ⟨s1, x, rest, o, cf, q, _, e, _, _, _, _, _, _, k, _⟩
  · exact k.wc.a8
  · have e1 : s = (zbegin s1).1 := congrArg Prod.fst e
    rw [e1, zbegin_xl]
    exact k.wc.a8
  · rw [e]
    exact k.wc.a8
  · rw [e, zsen_xl]
    exact k.wc.a8
  · rw [e, zask_xl]
    exact k.wc.a8
theorem body_c (w : World) (h : Wk w lo hi B D b R W (zc s v td none) I cf q) (z : Zh s) : Calls Tryz.prog 125 #[.pointer (some ⟨W, 0, none⟩)] w fun e w' => e = .returned (.tuple #[]) ∧ Wz w' lo hi B D b R W (zbody s).1 (zbody s).2 ∧ Fz lo hi w w' := by
  unfold zbody
  by_cases h1 : zbeh s = true ∧ (zunr s = true ∨ s.me = 0)
  · rw [if_pos h1]
    exact body_lost w h z h1.1 h1.2
  · rw [if_neg h1]
    by_cases h2 : zunr s = true
    · rw [if_pos h2]
      refine body_skip w h z ?_ h2
      cases hb : zbeh s with
      | true => exact absurd ⟨hb, Or.inl h2⟩ h1
      | false => rfl
    · rw [if_neg h2]
      have h2f : zunr s = false := by simpa using h2
      by_cases h3 : s.me = 0 ∧ s.pk ≠ s.sz
      · rw [if_pos h3]
        refine body_bad w h z ?_ h2f h3.1 h3.2
        cases hb : zbeh s with
        | true => exact absurd ⟨hb, Or.inr h3.1⟩ h1
        | false => rfl
      · rw [if_neg h3]
        refine body_open w h z h2f ?_
        by_cases h4 : s.me = 0
        · refine Or.inl ⟨h4, ?_, ?_⟩
          · cases hb : zbeh s with
            | true => exact absurd ⟨hb, Or.inr h4⟩ h1
            | false => rfl
          · exact Classical.byContradiction fun e => h3 ⟨h4, e⟩
        · exact Or.inr h4
theorem xb_c (w : World) (h : Wk w lo hi B D b R W (zc s v td none) I cf q) (z : Zh s) : Calls Tryz.prog 124 #[.pointer (some ⟨W, 0, none⟩), .int .u64 (s.xl : Int), .func (.func 125) #[.pointer (some ⟨W, 0, none⟩)] #[]] w fun e w' => e = .returned (.tuple #[]) ∧ (Wz w' lo hi B D b R W (zxb s).1 (zxb s).2 ∧ Fz lo hi w w') := by
  unfold zxb
  by_cases h0 : s.xl = 0
  · rw [if_pos h0, h0]
    refine passz_c 1 125 rfl (Or.inl rfl) _ w fun w1 hs b1 => ?_
    refine (body_c w1 (h.below b1 (Nat.le_refl _)) z).mono ?_
    rintro e w' ⟨rfl, a, f⟩
    exact ⟨rfl, a, (Fz.of_below b1 (Nat.le_refl _)).trans f⟩
  · rw [if_neg h0]
    refine (pass_c s.xl 1 h0 (by decide) w h).mono ?_
    rintro e w' ⟨rfl, ⟨v', a1, a2⟩, f⟩
    refine ⟨rfl, Or.inl ⟨rfl, v', td, I, cf, q, ?_, fun _ => a2 _ rfl rfl rfl, fun e => by rcases e with e | e <;> cases e⟩, f⟩
    have e : (zc { s with ph := 3, k := 1, mn := s.xl } v' td none) = { zc s v td none with nx := v' } := by
      unfold zc
      simp [z.ph]
    rw [e]
    exact a1
theorem rec_few (w : World) (h : Wk w lo hi B D b R W (zc s v td none) I cf q) (z : Zh s) (hx : s.xl < 4) : Calls Tryz.prog 97 #[.pointer (some ⟨W, 0, none⟩)] w fun e w' => e = .returned (.tuple #[]) ∧ (Wz w' lo hi B D b R W (zxb s).1 (zxb s).2 ∧ Fz lo hi w w') := by
  have k2 := (h.alloc (.cells #[.pointer (some ⟨W, 0, none⟩)] 39)).alloc (.cells #[.pointer (some ⟨W, 2, none⟩)] 122)
  have b2 := (below_alloc w (.cells #[.pointer (some ⟨W, 0, none⟩)] 39)).alloc (by simp) (.cells #[.pointer (some ⟨W, 2, none⟩)] 122)
  have d8 : ((w.alloc (.cells #[.pointer (some ⟨W, 0, none⟩)] 39)).alloc (.cells #[.pointer (some ⟨W, 2, none⟩)] 122)).cell? ⟨W, 8, none⟩ = some (.int .u64 (s.xl : Int)) := k2.wc.a8
  obtain ⟨u, hu⟩ : ∃ u, u = (w.alloc (.cells #[.pointer (some ⟨W, 0, none⟩)] 39)).alloc (.cells #[.pointer (some ⟨W, 2, none⟩)] 122) := ⟨_, rfl⟩
  have x0 : Bx u hi w.heap.size 39 #[.pointer (some ⟨W, 0, none⟩)] := ⟨h.hs, by rw [hu]; exact (Cells.new w _ _).alloc _⟩
  have x1 : Bx u hi (w.heap.size + 1) 122 #[.pointer (some ⟨W, 2, none⟩)] := ⟨Nat.le_succ_of_le h.hs, by rw [hu]; exact cn1⟩
  have kx := fun m => xb_c (u.drewN m) (by rw [hu]; exact k2.drewN m) z
  obtain ⟨xl, hxl⟩ : ∃ m, s.xl = m := ⟨_, rfl⟩
  obtain ⟨P, hP⟩ : ∃ P : World → Prop, P = fun w' => (w'.cell? ⟨w.heap.size, 0, none⟩ = some (.pointer (some ⟨W, 0, none⟩)) ∧ w'.cell? ⟨w.heap.size + 1, 0, none⟩ = some (.pointer (some ⟨W, 2, none⟩)) ∧ w'.cell? ⟨W, 8, none⟩ = some (.int .u64 (xl : Int))) ∧ Wz w' lo hi B D b R W (zxb s).1 (zxb s).2 ∧ Fz lo hi w w' := ⟨_, rfl⟩
  have kp : ∀ m, Calls Tryz.prog 124 #[.pointer (some ⟨W, 0, none⟩), .int .u64 (xl : Int), .func (.func 125) #[.pointer (some ⟨W, 0, none⟩)] #[]] (u.drewN m) fun e w' => e = .returned (.tuple #[]) ∧ P w' := fun m => by
    rw [hP, ← hxl]
    refine (kx m).mono fun e w' ⟨a, b, f⟩ => ⟨a, ⟨?_, ?_, ?_⟩, b, (Fz.of_below (by rw [hu]; exact b2) (Nat.le_refl _)).trans ((Fz.drewN _ m).trans f)⟩
    · have k := ((Fz.drewN u m).trans f).bx x0 (by decide)
      rw [k.cell.cell]; rfl
    · have k := ((Fz.drewN u m).trans f).bx x1 (by decide)
      rw [k.cell.cell]; rfl
    · rw [b.xl, zxb_xl]
  rw [hu] at kp
  have kp1 := kp 1
  have AP : Aside (∀ w', P w' → Wz w' lo hi B D b R W (zxb s).1 (zxb s).2 ∧ Fz lo hi w w') := fun w' k => by rw [hP] at k; exact k.2
  have hS : ∀ w', P w' → (w'.cell? ⟨w.heap.size, 0, none⟩ = some (.pointer (some ⟨W, 0, none⟩)) ∧ w'.cell? ⟨w.heap.size + 1, 0, none⟩ = some (.pointer (some ⟨W, 2, none⟩)) ∧ w'.cell? ⟨W, 8, none⟩ = some (.int .u64 (xl : Int))) := fun w' k => by rw [hP] at k; exact k.1
  rw [hxl] at d8 hx
  have hlt : (xl : Int) < 4 := by omega
  have hlt2 : decide ((xl : Int) < 4) = true := decide_eq_true hlt
  clear h k2 z kx hxl hx b2 hP x0 x1 hu
  go_enter Tryz.func97, Tryz.ntmps97
  go_wp2_with fail
  go_region_held3 (fun u => u.cell? ⟨w.heap.size, 0, none⟩ = some (.pointer (some ⟨W, 0, none⟩)) ∧ u.cell? ⟨w.heap.size + 1, 0, none⟩ = some (.pointer (some ⟨W, 2, none⟩)) ∧ u.cell? ⟨W, 8, none⟩ = some (.int .u64 (xl : Int))) (first | exact ⟨by simp, by simp, d8⟩ | exact hS _ h3) (first | (go_at_call 124; refine (kp _).mono ?_; rintro e3 w3 ⟨rfl, h3⟩) | (go_at_call 124; refine kp1.mono ?_; rintro e3 w3 ⟨rfl, h3⟩))
  go_wp2_with fail
  first | go_end0 | (refine bodyPost_ret (results_none rfl _ _ _) rfl ?_)
  exact ⟨rfl, AP.out _ h3⟩
set_option maxHeartbeats 1000000 in
theorem rec_more (w : World) (h : Wk w lo hi B D b R W (zc s v td none) I cf q) (z : Zh s) (hx : 4 ≤ s.xl) (hx2 : s.xl < 18446744073709551616) : Calls Tryz.prog 97 #[.pointer (some ⟨W, 0, none⟩)] w fun e w' => e = .returned (.tuple #[]) ∧ (Wz w' lo hi B D b R W { s with xl := s.xl - 4, ph := 2, k := 1, fs := [(2, 8), (2, 9)], bs := [], ri := 0, rl := 0 } [] ∧ Fz lo hi w w') := by
  have k2 := (h.alloc (.cells #[.pointer (some ⟨W, 0, none⟩)] 39)).alloc (.cells #[.pointer (some ⟨W, 2, none⟩)] 122)
  have b2 := (below_alloc w (.cells #[.pointer (some ⟨W, 0, none⟩)] 39)).alloc (by simp) (.cells #[.pointer (some ⟨W, 2, none⟩)] 122)
  have d8 : ((w.alloc (.cells #[.pointer (some ⟨W, 0, none⟩)] 39)).alloc (.cells #[.pointer (some ⟨W, 2, none⟩)] 122)).cell? ⟨W, 8, none⟩ = some (.int .u64 (s.xl : Int)) := k2.wc.a8
  have z8 := k2.wc.fz 8
  obtain ⟨u, hu⟩ : ∃ u, u = (w.alloc (.cells #[.pointer (some ⟨W, 0, none⟩)] 39)).alloc (.cells #[.pointer (some ⟨W, 2, none⟩)] 122) := ⟨_, rfl⟩
  rw [← hu] at k2 b2 d8 z8
  have oW : Only W u (u.setCell ⟨W, 8, none⟩ (.int .u64 ((s.xl : Int) - 4))) := (Only.refl W u).setCell 8 _
  have e4 : ((s.xl - 4 : Nat) : Int) = (s.xl : Int) - 4 := by omega
  have k3 := k2.set oW (by have := k2.wc.s8 (s.xl - 4); rw [e4] at this; exact this)
  have hW := h.g.hW
  have hs := h.hs
  have f0 : Fz lo hi w ((((u.setCell ⟨W, 8, none⟩ (.int .u64 ((s.xl : Int) - 4))).alloc (.cells #[.int .u64 0] 66)).alloc (.cells #[.int .u64 0] 66))) := (Fz.of_below b2 (Nat.le_refl _)).trans ((k2.fw oW).trans (Fz.of_below ((below_alloc _ _).alloc (by simp) _) (Nat.le_refl _)))
  have k5 := (k3.alloc (.cells #[.int .u64 0] 66)).alloc (.cells #[.int .u64 0] 66)
  have hsz : u.heap.size = w.heap.size + 1 + 1 := by rw [hu]; simp
  obtain ⟨x, hxw⟩ : ∃ x, x = (((u.setCell ⟨W, 8, none⟩ (.int .u64 ((s.xl : Int) - 4))).alloc (.cells #[.int .u64 0] 66)).alloc (.cells #[.int .u64 0] 66)) := ⟨_, rfl⟩
  have hsx : x.heap.size = w.heap.size + 1 + 1 + 1 + 1 := by rw [hxw]; simp [hsz]
  have x0 : Bx x hi w.heap.size 39 #[.pointer (some ⟨W, 0, none⟩)] := ⟨hs, by rw [hxw]; refine ((Cells.only ?_ oW (by omega)).alloc _).alloc _; rw [hu]; exact (Cells.new w _ _).alloc _⟩
  have x1 : Bx x hi (w.heap.size + 1) 122 #[.pointer (some ⟨W, 2, none⟩)] := ⟨by omega, by rw [hxw]; refine ((Cells.only ?_ oW (by omega)).alloc _).alloc _; rw [hu]; exact cn1⟩
  have x2 : Bx x hi (w.heap.size + 1 + 1) 66 #[.int .u64 0] := ⟨by omega, by rw [hxw, ← hsz, show u.heap.size = (u.setCell ⟨W, 8, none⟩ (.int .u64 ((s.xl : Int) - 4))).heap.size by simp]; exact (Cells.new _ _ _).alloc _⟩
  have x3 : Bx x hi (w.heap.size + 1 + 1 + 1) 66 #[.int .u64 0] := ⟨by omega, by rw [hxw, ← hsz, show u.heap.size + 1 = (u.setCell ⟨W, 8, none⟩ (.int .u64 ((s.xl : Int) - 4))).heap.size + 1 by simp]; exact cn1⟩
  rw [← hxw] at f0 k5
  have AH : Aside (s.ph ≠ 1) := z.ph
  obtain ⟨n, hn⟩ : ∃ n, w.heap.size = n := ⟨_, rfl⟩
  rw [hn] at x0 x1 x2 x3 hsx
  have kg : ∀ (w4 w5 : World), Below x.heap.size x w4 → w4.heap.size = x.heap.size + 1 → Cells w4 x.heap.size #[.pointer (some ⟨n + 1 + 1, 0, none⟩)] 128 → Below w4.heap.size w4 w5 → w5.heap.size = w4.heap.size + 1 → Cells w5 w4.heap.size #[.pointer (some ⟨n + 1 + 1 + 1, 0, none⟩)] 128 →
      Calls Tryz.prog 66 #[.pointer (some ⟨W, 0, none⟩), .func (.func 126) #[] #[.pointer (some ⟨n + 1 + 1 + 1, 0, none⟩), .pointer (some ⟨n + 1, 0, none⟩), .pointer (some ⟨n, 0, none⟩), .pointer (some ⟨n + 1 + 1, 0, none⟩)], .slice (some ⟨w5.heap.size, 0, none⟩) 2 2] (w5.alloc (.cells #[.int .i64 2, .func (.func 98) #[] #[.pointer (some ⟨x.heap.size, 0, none⟩)], .int .i64 2, .func (.func 98) #[] #[.pointer (some ⟨w4.heap.size, 0, none⟩)]] 126)) fun e w' => e = .returned (.tuple #[]) ∧ (w'.cell? ⟨n, 0, none⟩ = some (.pointer (some ⟨W, 0, none⟩)) ∧ Wz w' lo hi B D b R W { s with xl := s.xl - 4, ph := 2, k := 1, fs := [(2, 8), (2, 9)], bs := [], ri := 0, rl := 0 } [] ∧ Fz lo hi w w') := fun w4 w5 b4 s4 c4 b5 s5 c5 => by
    have b45 : Below x.heap.size x w5 := b4.trans (b5.mono (by omega))
    have c4' : Bx w5 hi x.heap.size 128 #[.pointer (some ⟨n + 1 + 1, 0, none⟩)] := ⟨by omega, c4.below b5 (by omega)⟩
    have c5' : Bx w5 hi w4.heap.size 128 #[.pointer (some ⟨n + 1 + 1 + 1, 0, none⟩)] := ⟨by omega, c5⟩
    obtain ⟨o, ho⟩ : ∃ o, o = (Obj.cells #[.int .i64 2, .func (.func 98) #[] #[.pointer (some ⟨x.heap.size, 0, none⟩)], .int .i64 2, .func (.func 98) #[] #[.pointer (some ⟨w4.heap.size, 0, none⟩)]] 126) := ⟨_, rfl⟩
    have b6 : Below x.heap.size x (w5.alloc o) := b45.alloc b45.size o
    have kz6 : Kz hi x (w5.alloc o) := Kz.of_below b6 (Nat.le_refl _)
    have kz5 : Kz hi w5 (w5.alloc o) := Kz.of_below (below_alloc w5 o) (Nat.le_refl _)
    have k6 := k5.below b6 (Nat.le_refl _)
    have hl : Fls (w5.alloc o) hi W (n + 1 + 1) (n + 1 + 1 + 1) w5.heap.size 0 [(2, 8), (2, 9)] := by
      refine ⟨_, ⟨by omega, by rw [ho]; exact Cells.new _ _ _⟩, fun j m t hj => ?_⟩
      have hj2 : j < 2 := (List.getElem?_eq_some_iff.1 hj).1
      obtain rfl | rfl : j = 0 ∨ j = 1 := by omega
      · simp at hj
        obtain ⟨rfl, rfl⟩ := hj
        exact ⟨rfl, _, rfl, Or.inr ⟨by decide, _, rfl, c4'.kz kz5 (by simp [Bq])⟩⟩
      · simp at hj
        obtain ⟨rfl, rfl⟩ := hj
        exact ⟨rfl, _, rfl, Or.inr ⟨by decide, _, rfl, c5'.kz kz5 (by simp [Bq])⟩⟩
    rw [← ho]
    refine (gath_c (n + 1 + 1) (n + 1 + 1 + 1) w5.heap.size 0 2 (.func 126) #[] #[.pointer (some ⟨n + 1 + 1 + 1, 0, none⟩), .pointer (some ⟨n + 1, 0, none⟩), .pointer (some ⟨n, 0, none⟩), .pointer (some ⟨n + 1 + 1, 0, none⟩)] [(2, 8), (2, 9)] (by simp) (by decide) (by decide) (w5.alloc o) k6 hl).mono ?_
    rintro e w' ⟨rfl, ⟨v', a1, a2⟩, f⟩
    refine ⟨rfl, ?_, Or.inl ⟨rfl, v', td, I, cf, q, ?_, fun _ => a2 _ rfl rfl rfl ?_, fun e => by rcases e with e | e <;> cases e⟩, f0.trans ((Fz.of_below b6 (Nat.le_refl _)).trans f)⟩
    · have k := f.bx (x0.kz kz6 (by simp [Bq])) (by decide)
      rw [k.cell.cell]; rfl
    · have e : zc ({ s with xl := s.xl - 4, ph := 2, k := 1, fs := [(2, 8), (2, 9)], bs := [], ri := 0, rl := 0 } : Zs) v' td none = { zc s v td none with xl := s.xl - 4, nx := v' } := by
        unfold zc
        simp [AH.out]
      rw [e]
      exact a1
    · have hz6 : (w5.alloc o).heap.size = w5.heap.size + 1 := by simp
      exact Or.inr (Or.inl ⟨rfl, by omega, by omega, by omega, x2.kz kz6 (by simp [Bq]), x3.kz kz6 (by simp [Bq]), n + 1, n, rfl, x1.kz kz6 (by simp [Bq]), x0.kz kz6 (by simp [Bq])⟩)
  obtain ⟨Q, hQ⟩ : ∃ Q : World → Prop, Q = fun w' => Wz w' lo hi B D b R W { s with xl := s.xl - 4, ph := 2, k := 1, fs := [(2, 8), (2, 9)], bs := [], ri := 0, rl := 0 } [] ∧ Fz lo hi w w' := ⟨_, rfl⟩
  have AQ : Aside (∀ w', Q w' → Wz w' lo hi B D b R W { s with xl := s.xl - 4, ph := 2, k := 1, fs := [(2, 8), (2, 9)], bs := [], ri := 0, rl := 0 } [] ∧ Fz lo hi w w') := fun w' k => by rw [hQ] at k; exact k
  have kq : Aside (∀ (w4 w5 : World), Below x.heap.size x w4 → w4.heap.size = x.heap.size + 1 → Cells w4 x.heap.size #[.pointer (some ⟨n + 1 + 1, 0, none⟩)] 128 → Below w4.heap.size w4 w5 → w5.heap.size = w4.heap.size + 1 → Cells w5 w4.heap.size #[.pointer (some ⟨n + 1 + 1 + 1, 0, none⟩)] 128 →
      Calls Tryz.prog 66 #[.pointer (some ⟨W, 0, none⟩), .func (.func 126) #[] #[.pointer (some ⟨n + 1 + 1 + 1, 0, none⟩), .pointer (some ⟨n + 1, 0, none⟩), .pointer (some ⟨n, 0, none⟩), .pointer (some ⟨n + 1 + 1, 0, none⟩)], .slice (some ⟨x.heap.size + 1 + 1, 0, none⟩) 2 2] (w5.alloc (.cells #[.int .i64 2, .func (.func 98) #[] #[.pointer (some ⟨x.heap.size, 0, none⟩)], .int .i64 2, .func (.func 98) #[] #[.pointer (some ⟨x.heap.size + 1, 0, none⟩)]] 126)) fun e w' => e = .returned (.tuple #[]) ∧ (w'.cell? ⟨n, 0, none⟩ = some (.pointer (some ⟨W, 0, none⟩)) ∧ Q w')) := fun w4 w5 b4 s4 c4 b5 s5 c5 => by
    have k := kg w4 w5 b4 s4 c4 b5 s5 c5
    rw [s5, s4] at k
    rw [hQ]
    exact k
  have cw : x.cell? ⟨n, 0, none⟩ = some (.pointer (some ⟨W, 0, none⟩)) := by rw [x0.cell.cell]; rfl
  have hB : Aside (∀ y, Below x.heap.size x y → y.cell? ⟨n, 0, none⟩ = some (.pointer (some ⟨W, 0, none⟩))) := fun y k => (k.cell (p := ⟨n, 0, none⟩) x0.lt).trans cw
  obtain ⟨xl, hxl⟩ : ∃ m, s.xl = m := ⟨_, rfl⟩
  rw [hxl] at d8 hx hx2 hxw
  rw [hu] at d8 z8 hxw
  have hlt : ¬ ((xl : Int) < 4) := by omega
  have hlt2 : decide ((xl : Int) < 4) = false := decide_eq_false hlt
  have hmod : ((xl : Int) - 4) % 18446744073709551616 = (xl : Int) - 4 := by omega
  clear h k2 z b2 x0 x1 x2 x3 hsx hsz k5 f0 hW hs k3 e4 oW hu kg hQ hx hx2 hxl
  go_enter Tryz.func97, Tryz.ntmps97
  go_upto_region 6 with fail
  rw [← hxw]
  clear hxw hn d8 z8 hlt hlt2 hmod
  go_region_held3 (fun y => y.cell? ⟨n, 0, none⟩ = some (.pointer (some ⟨W, 0, none⟩))) (first | exact cw | exact hk4 | exact hk5 | exact hk6.out _ | exact h6.1) (first
    | (go_at_call 69; (fail_if_success (have hh := c4)); refine (into_c _ _ _).mono ?_; rintro e4 w4 ⟨rfl, c4, b4, s4⟩; have hk4 := hB.out _ ⟨b4.os, b4.tape, b4.output, b4.size, b4.block⟩)
    | (go_at_call 69; refine (into_c _ _ _).mono ?_; rintro e5 w5 ⟨rfl, c5, b5, s5⟩; have b45 : Below x.heap.size x w5 := (⟨b4.os, b4.tape, b4.output, b4.size, b4.block⟩ : Below x.heap.size x w4).trans (b5.mono b4.size); have hk5 := hB.out _ b45; have hk6 : Aside (∀ o, (w5.alloc o).cell? ⟨n, 0, none⟩ = some (.pointer (some ⟨W, 0, none⟩))) := fun o => hB.out _ (b45.alloc b45.size o))
    | (go_at_call 66; refine (kq.out _ _ ⟨b4.os, b4.tape, b4.output, b4.size, b4.block⟩ s4 c4 b5 s5 c5).mono ?_; rintro e6 w6 ⟨rfl, h6⟩))
  all_goals
    go_wp2_with fail
    first | go_end0 | (refine bodyPost_ret (results_none rfl _ _ _) rfl ?_)
    exact ⟨rfl, AQ.out _ h6.2⟩
theorem rec_c (w : World) (h : Wk w lo hi B D b R W (zc s v td none) I cf q) (z : Zh s) (hx : s.xl < 18446744073709551616) : Calls Tryz.prog 97 #[.pointer (some ⟨W, 0, none⟩)] w fun e w' => e = .returned (.tuple #[]) ∧ (Wz w' lo hi B D b R W (zrec s).1 (zrec s).2 ∧ Fz lo hi w w') := by
  unfold zrec
  by_cases h4 : s.xl < 4
  · rw [if_pos h4]
    exact rec_few w h z h4
  · rw [if_neg h4]
    exact rec_more w h z (by omega) hx
theorem pr_c (n : Nat) (w : World) (h : Wk w lo hi B D b R W (zc s v td none) I cf q) (z : Zh s) (hx : s.xl < 18446744073709551616) : Calls Tryz.prog 124 #[.pointer (some ⟨W, 0, none⟩), .int .u64 (n : Int), .func (.func 97) #[.pointer (some ⟨W, 0, none⟩)] #[]] w fun e w' => e = .returned (.tuple #[]) ∧ (Wz w' lo hi B D b R W (zpr n s).1 (zpr n s).2 ∧ Fz lo hi w w') := by
  unfold zpr
  by_cases h0 : n = 0
  · rw [if_pos h0, h0]
    refine passz_c 2 97 rfl (Or.inr (Or.inl rfl)) _ w fun w1 hs b1 => ?_
    refine (rec_c w1 (h.below b1 (Nat.le_refl _)) z hx).mono ?_
    rintro e w' ⟨rfl, a, f⟩
    exact ⟨rfl, a, (Fz.of_below b1 (Nat.le_refl _)).trans f⟩
  · rw [if_neg h0]
    refine (pass_c n 2 h0 (by decide) w h).mono ?_
    rintro e w' ⟨rfl, ⟨v', a1, a2⟩, f⟩
    refine ⟨rfl, Or.inl ⟨rfl, v', td, I, cf, q, ?_, fun _ => a2 _ rfl rfl rfl, fun e => by rcases e with e | e <;> cases e⟩, f⟩
    have e : (zc { s with ph := 3, k := 2, mn := n } v' td none) = { zc s v td none with nx := v' } := by
      unfold zc
      simp [z.ph]
    rw [e]
    exact a1
end
end Go.Proofs.YtpihipbeagpgpaaGreatDoor

/-
 The records of an extra: what a record's id and length make of it.
-/
namespace Go.Proofs.YtpihipbeagpgpaaGreatDoor
open Go.RowKit
set_option linter.unusedVariables false
section
variable {lo hi B D b R W P Q be bw : Nat} {I : List Nat} {cf : Cfg} {q : Md} {c : Zc} {s : Zs} {v td : Value}
theorem rc1_over (w : World) (h : Wk w lo hi B D b R W (zc s v td none) I cf q) (z : Zh s) (hx : s.xl < s.rl) (xQ : Bx w hi Q 66 #[.int .u64 (s.rl : Int)]) (xe : Bx w hi be 122 #[ptr W 2]) (xw : Bx w hi bw 39 #[ptr W 0]) : Calls Tryz.prog 126 #[.pointer (some ⟨Q, 0, none⟩), .pointer (some ⟨be, 0, none⟩), .pointer (some ⟨bw, 0, none⟩), .pointer (some ⟨P, 0, none⟩)] w fun e w' => e = .returned (.tuple #[]) ∧ (Wz w' lo hi B D b R W (zxb s).1 (zxb s).2 ∧ Fz lo hi w w') := by
 have d8 : w.cell? ⟨W, 8, none⟩ = some (.int .u64 (s.xl : Int)) := h.wc.a8
 have dQ : w.cell? ⟨Q, 0, none⟩ = some (.int .u64 (s.rl : Int)) := by rw [xQ.cell.cell]; rfl
 have de : w.cell? ⟨be, 0, none⟩ = some (.pointer (some ⟨W, 2, none⟩)) := by rw [xe.cell.cell]; rfl
 have dw : w.cell? ⟨bw, 0, none⟩ = some (.pointer (some ⟨W, 0, none⟩)) := by rw [xw.cell.cell]; rfl
 obtain ⟨xl, hxl⟩ : ∃ m, s.xl = m := ⟨_, rfl⟩
 obtain ⟨rl, hrl⟩ : ∃ m, s.rl = m := ⟨_, rfl⟩
 obtain ⟨G, hG⟩ : ∃ G : World → Prop, G = fun w' => (w'.cell? ⟨bw, 0, none⟩ = some (.pointer (some ⟨W, 0, none⟩)) ∧ w'.cell? ⟨be, 0, none⟩ = some (.pointer (some ⟨W, 2, none⟩)) ∧ w'.cell? ⟨W, 8, none⟩ = some (.int .u64 (xl : Int))) ∧ Wz w' lo hi B D b R W (zxb s).1 (zxb s).2 ∧ Fz lo hi w w' := ⟨_, rfl⟩
 have kp : ∀ m, Calls Tryz.prog 124 #[.pointer (some ⟨W, 0, none⟩), .int .u64 (xl : Int), .func (.func 125) #[.pointer (some ⟨W, 0, none⟩)] #[]] (w.drewN m) fun e w' => e = .returned (.tuple #[]) ∧ G w' := fun m => by
  rw [hG, ← hxl]
  refine (xb_c (w.drewN m) (h.drewN m) z).mono fun e w' ⟨a, b, f⟩ => ⟨a, ⟨?_, ?_, ?_⟩, b, (Fz.drewN _ m).trans f⟩
  ·have k := ((Fz.drewN w m).trans f).bx xw (by decide)
   rw [k.cell.cell]; rfl
  ·have k := ((Fz.drewN w m).trans f).bx xe (by decide)
   rw [k.cell.cell]; rfl
  ·rw [b.xl, zxb_xl]
 have kp2 : ∀ m, Calls Tryz.prog 124 #[.pointer (some ⟨W, 0, none⟩), .int .u64 (xl : Int), .func (.func 125) #[.pointer (some ⟨W, 0, none⟩)] #[]] (w.drewN m).drew fun e w' => e = .returned (.tuple #[]) ∧ G w' := fun m => kp (m + 1)
 have AP : Aside (∀ w', G w' → Wz w' lo hi B D b R W (zxb s).1 (zxb s).2 ∧ Fz lo hi w w') := fun w' k => by rw [hG] at k; exact k.2
 have hS : ∀ w', G w' → (w'.cell? ⟨bw, 0, none⟩ = some (.pointer (some ⟨W, 0, none⟩)) ∧ w'.cell? ⟨be, 0, none⟩ = some (.pointer (some ⟨W, 2, none⟩)) ∧ w'.cell? ⟨W, 8, none⟩ = some (.int .u64 (xl : Int))) := fun w' k => by rw [hG] at k; exact k.1
 rw [hxl] at d8 hx
 rw [hrl] at dQ hx
 have hlt : (xl : Int) < (rl : Int) := by omega
 have hlt2 : decide ((xl : Int) < (rl : Int)) = true := decide_eq_true hlt
 clear h z hxl hrl hx hG xQ xe xw
 go_enter Tryz.func126, Tryz.ntmps126
 go_wp2_with fail
 go_quiet (fail)
 go_wp2_with fail
 go_region_held3 (fun u => u.cell? ⟨bw, 0, none⟩ = some (.pointer (some ⟨W, 0, none⟩)) ∧ u.cell? ⟨be, 0, none⟩ = some (.pointer (some ⟨W, 2, none⟩)) ∧ u.cell? ⟨W, 8, none⟩ = some (.int .u64 (xl : Int))) (first | exact ⟨dw, de, d8⟩ | exact hS _ h3) (first | (go_at_call 124; refine (kp _).mono ?_; rintro e3 w3 ⟨rfl, h3⟩) | (go_at_call 124; refine (kp2 _).mono ?_; rintro e3 w3 ⟨rfl, h3⟩))
 all_goals
  go_wp2_with fail
  first | go_end0 | (refine bodyPost_ret (results_none rfl _ _ _) rfl ?_)
  exact ⟨rfl, AP.out _ h3⟩
set_option maxHeartbeats 1000000 in
theorem rc1_pass (w : World) (h : Wk w lo hi B D b R W (zc s v td none) I cf q) (z : Zh s) (hx : ¬ s.xl < s.rl) (hx2 : s.xl < 18446744073709551616) (hr : s.ri ≠ 1 ∨ s.wd = true) (xP : Bx w hi P 66 #[.int .u64 (s.ri : Int)]) (xQ : Bx w hi Q 66 #[.int .u64 (s.rl : Int)]) (xe : Bx w hi be 122 #[ptr W 2]) (xw : Bx w hi bw 39 #[ptr W 0]) : Calls Tryz.prog 126 #[.pointer (some ⟨Q, 0, none⟩), .pointer (some ⟨be, 0, none⟩), .pointer (some ⟨bw, 0, none⟩), .pointer (some ⟨P, 0, none⟩)] w fun e w' => e = .returned (.tuple #[]) ∧ (Wz w' lo hi B D b R W (zpr s.rl { s with xl := s.xl - s.rl }).1 (zpr s.rl { s with xl := s.xl - s.rl }).2 ∧ Fz lo hi w w') := by
 have d8 : w.cell? ⟨W, 8, none⟩ = some (.int .u64 (s.xl : Int)) := h.wc.a8
 have z8 := h.wc.fz 8
 have d9 : w.cell? ⟨W, 9, none⟩ = some (.bool s.wd) := h.wc.a9
 have dP : w.cell? ⟨P, 0, none⟩ = some (.int .u64 (s.ri : Int)) := by rw [xP.cell.cell]; rfl
 have dQ : w.cell? ⟨Q, 0, none⟩ = some (.int .u64 (s.rl : Int)) := by rw [xQ.cell.cell]; rfl
 have de : w.cell? ⟨be, 0, none⟩ = some (.pointer (some ⟨W, 2, none⟩)) := by rw [xe.cell.cell]; rfl
 have dw : w.cell? ⟨bw, 0, none⟩ = some (.pointer (some ⟨W, 0, none⟩)) := by rw [xw.cell.cell]; rfl
 have hW := h.g.hW
 have nP : ¬ P = W := by have := xP.lo; omega
 have nQ : ¬ Q = W := by have := xQ.lo; omega
 have ne : ¬ be = W := by have := xe.lo; omega
 have nw : ¬ bw = W := by have := xw.lo; omega
 obtain ⟨xl, hxl⟩ : ∃ m, s.xl = m := ⟨_, rfl⟩
 obtain ⟨rl, hrl⟩ : ∃ m, s.rl = m := ⟨_, rfl⟩
 obtain ⟨ri, hri⟩ : ∃ m, s.ri = m := ⟨_, rfl⟩
 obtain ⟨wd, hwd⟩ : ∃ m, s.wd = m := ⟨_, rfl⟩
 rw [hxl, hrl] at hx
 rw [hxl] at d8 hx2
 rw [hrl] at dQ
 rw [hri] at dP hr
 rw [hwd] at d9 hr
 generalize hr0 : ({ s with xl := s.xl - s.rl } : Zs) = r0
 rw [hrl]
 have esub : ((xl - rl : Nat) : Int) = (xl : Int) - (rl : Int) := by omega
 have kp : ∀ m, Calls Tryz.prog 124 #[.pointer (some ⟨W, 0, none⟩), .int .u64 (rl : Int), .func (.func 97) #[.pointer (some ⟨W, 0, none⟩)] #[]] ((w.drewN m).drew.setCell ⟨W, 8, none⟩ (.int .u64 ((xl : Int) - (rl : Int)))) fun e w' => e = .returned (.tuple #[]) ∧ (Wz w' lo hi B D b R W (zpr rl r0).1 (zpr rl r0).2 ∧ Fz lo hi w w') := fun m => by
  have k := (h.drewN m).drewN 1
  have oW : Only W (w.drewN m).drew ((w.drewN m).drew.setCell ⟨W, 8, none⟩ (.int .u64 ((xl : Int) - (rl : Int)))) := (Only.refl W _).setCell 8 _
  have hc := k.wc.s8 (xl - rl)
  rw [esub] at hc
  have k2 : Wk ((w.drewN m).drew.setCell ⟨W, 8, none⟩ (.int .u64 ((xl : Int) - (rl : Int)))) lo hi B D b R W (zc r0 v td none) I cf q := by
   rw [← hr0, hxl, hrl]
   exact k.set oW hc
  refine (pr_c rl _ k2 (by rw [← hr0]; exact ⟨z.why, z.ph, z.fl, z.sg, z.nl, z.nm, z.s0, z.g0⟩) (by rw [← hr0]; show s.xl - s.rl < _; omega)).mono fun e w' ⟨a, b, f⟩ => ⟨a, b, ((Fz.drewN w m).trans (Fz.drewN _ 1)).trans ((k.fw oW).trans f)⟩
 obtain ⟨G, hG⟩ : ∃ G : World → Prop, G = fun w' => (Wz w' lo hi B D b R W (zpr rl r0).1 (zpr rl r0).2 ∧ Fz lo hi w w') := ⟨_, rfl⟩
 have kg : ∀ m, Calls Tryz.prog 124 #[.pointer (some ⟨W, 0, none⟩), .int .u64 (rl : Int), .func (.func 97) #[.pointer (some ⟨W, 0, none⟩)] #[]] ((w.drewN m).drew.setCell ⟨W, 8, none⟩ (.int .u64 ((xl : Int) - (rl : Int)))) fun e w' => e = .returned (.tuple #[]) ∧ G w' := by rw [hG]; exact kp
 have AP : Aside (∀ w', G w' → (Wz w' lo hi B D b R W (zpr rl r0).1 (zpr rl r0).2 ∧ Fz lo hi w w')) := fun w' k => by rw [hG] at k; exact k
 have hlt : ¬ ((xl : Int) < (rl : Int)) := by omega
 have hlt2 : decide ((xl : Int) < (rl : Int)) = false := decide_eq_false hlt
 have hmod : ((xl : Int) - (rl : Int)) % 18446744073709551616 = (xl : Int) - (rl : Int) := by omega
 clear h z hxl hrl hri hwd hx hx2 hG xP xQ xe xw kp esub hW hr0
 by_cases h1 : ri = 1
 ·subst h1
  obtain rfl : wd = true := by rcases hr with e | e; exact absurd rfl e; exact e
  clear hr
  go_enter Tryz.func126, Tryz.ntmps126
  go_wp2_with fail
  go_quiet (fail)
  go_wp2_with fail
  go_region
  go_wp2_with (go_at_call 124; refine (kg _).mono ?_; rintro e3 w3 ⟨rfl, h3⟩)
  first | go_end0 | (refine bodyPost_ret (results_none rfl _ _ _) rfl ?_)
  exact ⟨rfl, AP.out _ h3⟩
 ·have t1 : ((ri : Int) != 1) = true := by rw [bne_iff_ne]; omega
  clear hr h1
  go_enter Tryz.func126, Tryz.ntmps126
  go_wp2_with fail
  go_quiet (fail)
  go_wp2_with fail
  go_region
  go_wp2_with (go_at_call 124; refine (kg _).mono ?_; rintro e3 w3 ⟨rfl, h3⟩)
  first | go_end0 | (refine bodyPost_ret (results_none rfl _ _ _) rfl ?_)
  exact ⟨rfl, AP.out _ h3⟩
end
end Go.Proofs.YtpihipbeagpgpaaGreatDoor

/-
 gather where no number is to come; the numbers of a wide record: wideSizes.
-/
namespace Go.Proofs.YtpihipbeagpgpaaGreatDoor
open Go.RowKit
set_option linter.unusedVariables false
section
variable {lo hi B D b R W : Nat} {I : List Nat} {cf : Cfg} {q : Md} {c : Zc} {s : Zs} {v td : Value}
def Tc (W k : Nat) (fb fc : Array Value) : Prop :=
 (k = 67 ∧ fb = #[.pointer (some ⟨W, 0, none⟩)] ∧ fc = #[]) ∨ (k = 168 ∧ fb = #[.pointer (some ⟨W, 0, none⟩)] ∧ fc = #[]) ∨ (k = 154 ∧ fb = #[.pointer (some ⟨W, 0, none⟩)] ∧ fc = #[]) ∨
 (k = 126 ∧ fb = #[] ∧ ∃ p1 p2 p3 p4 : Nat, fc = #[.pointer (some ⟨p1, 0, none⟩), .pointer (some ⟨p2, 0, none⟩), .pointer (some ⟨p3, 0, none⟩), .pointer (some ⟨p4, 0, none⟩)]) ∨
 (k = 143 ∧ fb = #[] ∧ ∃ p1 p2 : Nat, fc = #[.pointer (some ⟨p1, 0, none⟩), .pointer (some ⟨p2, 0, none⟩)]) ∨
 (k = 167 ∧ fb = #[] ∧ ∃ p1 p2 : Nat, fc = #[.pointer (some ⟨p1, 0, none⟩), .pointer (some ⟨p2, 0, none⟩)])
set_option maxHeartbeats 1000000 in
theorem gath0_c (k : Nat) (fb fc : Array Value) (hT : Tc W k fb fc) (a : Option Addr) (C : Nat) (G : World → Prop) (w : World) (hc : ∀ w1, Below w.heap.size w w1 → Calls Tryz.prog k (fb ++ fc) w1 fun e w' => e = .returned (.tuple #[]) ∧ G w') : Calls Tryz.prog 66 #[.pointer (some ⟨W, 0, none⟩), .func (.func k) fb fc, .slice a 0 C] w fun e w' => e = .returned (.tuple #[]) ∧ G w' := by
 have b3 := ((below_alloc w (.cells #[.pointer (some ⟨W, 0, none⟩)] 39)).alloc (by simp) (.cells #[.func (.func k) fb fc] 1)).alloc (by simp; omega) (.cells #[.slice a 0 C] 155)
 have kc := hc _ b3
 clear hc b3
 rcases hT with ⟨rfl, rfl, rfl⟩ | ⟨rfl, rfl, rfl⟩ | ⟨rfl, rfl, rfl⟩ | ⟨rfl, rfl, p1, p2, p3, p4, rfl⟩ | ⟨rfl, rfl, p1, p2, rfl⟩ | ⟨rfl, rfl, p1, p2, rfl⟩
 all_goals
  simp only [Array.append_empty, Array.empty_append] at kc
  go_enter Tryz.func66, Tryz.ntmps66
  go_wp2_with (first
   | (go_at_call 67; refine kc.mono ?_; rintro e2 w2 ⟨rfl, h2⟩)
   | (go_at_call 168; refine kc.mono ?_; rintro e2 w2 ⟨rfl, h2⟩)
   | (go_at_call 154; refine kc.mono ?_; rintro e2 w2 ⟨rfl, h2⟩)
   | (go_at_call 126; refine kc.mono ?_; rintro e2 w2 ⟨rfl, h2⟩)
   | (go_at_call 143; refine kc.mono ?_; rintro e2 w2 ⟨rfl, h2⟩)
   | (go_at_call 167; refine kc.mono ?_; rintro e2 w2 ⟨rfl, h2⟩))
  first | go_end0 | (refine bodyPost_ret (results_none rfl _ _ _) rfl ?_)
  exact ⟨rfl, h2⟩
theorem wide1_c (bw L n : Nat) (w : World) (h : Wk w lo hi B D b R W (zc s v td none) I cf q) (z : Zh s) (hx : s.xl < 18446744073709551616) (xw : Bx w hi bw 39 #[ptr W 0]) (xL : Bx w hi L 66 #[.int .u64 (n : Int)]) : Calls Tryz.prog 143 #[.pointer (some ⟨bw, 0, none⟩), .pointer (some ⟨L, 0, none⟩)] w fun e w' => e = .returned (.tuple #[]) ∧ (Wz w' lo hi B D b R W (zpr n s).1 (zpr n s).2 ∧ Fz lo hi w w') := by
 have dw : w.cell? ⟨bw, 0, none⟩ = some (.pointer (some ⟨W, 0, none⟩)) := by rw [xw.cell.cell]; rfl
 have dL : w.cell? ⟨L, 0, none⟩ = some (.int .u64 (n : Int)) := by rw [xL.cell.cell]; rfl
 have kp := pr_c n w h z hx
 obtain ⟨G, hG⟩ : ∃ G : World → Prop, G = fun w' => (Wz w' lo hi B D b R W (zpr n s).1 (zpr n s).2 ∧ Fz lo hi w w') := ⟨_, rfl⟩
 have kg : Calls Tryz.prog 124 #[.pointer (some ⟨W, 0, none⟩), .int .u64 (n : Int), .func (.func 97) #[.pointer (some ⟨W, 0, none⟩)] #[]] w fun e w' => e = .returned (.tuple #[]) ∧ G w' := by rw [hG]; exact kp
 have AP : Aside (∀ w', G w' → (Wz w' lo hi B D b R W (zpr n s).1 (zpr n s).2 ∧ Fz lo hi w w')) := fun w' k => by rw [hG] at k; exact k
 clear h z hx xw xL kp hG
 go_enter Tryz.func143, Tryz.ntmps143
 go_wp2_with (go_at_call 124; refine kg.mono ?_; rintro e3 w3 ⟨rfl, h3⟩)
 first | go_end0 | (refine bodyPost_ret (results_none rfl _ _ _) rfl ?_)
 exact ⟨rfl, AP.out _ h3⟩
end
end Go.Proofs.YtpihipbeagpgpaaGreatDoor

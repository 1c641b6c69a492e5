/-
  Own texts of this seat, one behind the other: what each says stands ahead of it.
-/
import Derived.Test.YtogednaamndpgaaGreatDoorMv
import Derived.Laws.Rows
/-
  Every step of the walker; what it asks of its inflater.
-/
namespace Go.Proofs.YtogednaamndpgaaGreatDoor
open Go.RowKit
set_option linter.unusedVariables false
section
variable {lo hi B D b R W A : Nat} {n I o : List Nat} {cf yF : Cfg} {q : Md} {s : Gs} {c : Gc}
theorem step_no9 (h : Gok s) (h0 : s.why = 0) (h9 : s.nx ≠ 9) (x : Nat) (hx : x < 256) (w : World) (hw : Wk w lo hi B D b R W A (gcof s none) s.nm I cf q) : Calls Tryz.prog (pfn s.nx) #[.pointer (some ⟨W, 0, none⟩), .int .u8 (x : Int)] w fun e w' => e = .returned (.tuple #[]) ∧ Wp w' lo hi B D b R W A (gst s x) ∧ Fw lo hi w w' := by
  have hn := h.nx
  have l1 := h.l1 h0
  have hl := h.lf
  have cases13 : s.nx = 0 ∨ s.nx = 1 ∨ s.nx = 2 ∨ s.nx = 3 ∨ s.nx = 4 ∨ s.nx = 5 ∨ s.nx = 6 ∨ s.nx = 7 ∨ s.nx = 8 ∨ s.nx = 10 ∨ s.nx = 11 ∨ s.nx = 12 ∨ s.nx = 13 := by omega
  rcases cases13 with e | e | e | e | e | e | e | e | e | e | e | e | e
  · have eg : gst s x = (if x = 31 then gbgn x s else gbad 40 s, []) := by unfold gst; rw [e]; rfl
    rw [eg, e]
    exact (first_c x hx w hw).mono fun e w' ⟨k1, k2, k3⟩ => ⟨k1, Or.inl ⟨rfl, I, cf, q, k2⟩, k3⟩
  · have eg : gst s x = (if x = 139 then { gcnt x s with nx := 2 } else gbad 40 s, []) := by unfold gst; rw [e]; rfl
    rw [eg, e]
    exact (second_c x hx w hw h.sm).mono fun e w' ⟨k1, k2, k3⟩ => ⟨k1, Or.inl ⟨rfl, I, cf, q, k2⟩, k3⟩
  · have eg : gst s x = (if x = 8 then { gcnt x s with nx := 3 } else gbad 41 s, []) := by unfold gst; rw [e]; rfl
    rw [eg, e]
    exact (method_c x hx w hw h.sm).mono fun e w' ⟨k1, k2, k3⟩ => ⟨k1, Or.inl ⟨rfl, I, cf, q, k2⟩, k3⟩
  · have eg : gst s x = (if x < 32 then { gcnt x s with fl := x, nx := 4, lf := 6 } else gbad 42 s, []) := by unfold gst; rw [e]; rfl
    rw [eg, e]
    exact (flags_c x hx w hw h.sm).mono fun e w' ⟨k1, k2, k3⟩ => ⟨k1, Or.inl ⟨rfl, I, cf, q, k2⟩, k3⟩
  · have eg : gst s x = gany x s := by unfold gst; rw [e]; rfl
    rw [eg, e]
    exact (any_c x hx w hw h.sm h.fl h.nm hl (l1 (by omega))).mono fun e w' ⟨k1, k2, k3⟩ => ⟨k1, k2.wp, k3⟩
  · have eg : gst s x = gext (gath x (gcnt x s)) := by unfold gst; rw [e]; rfl
    rw [eg, e]
    exact (extra_c x hx w hw h.sm h.nb h.fl h.nm (l1 (by omega)) hl).mono fun e w' ⟨k1, k2, k3⟩ => ⟨k1, k2.wp, k3⟩
  · have eg : gst s x = gtxt x (gnam x s) := by unfold gst; rw [e]; rfl
    rw [eg, e]
    exact (name_c x hx w hw h.sm h.fl h.nm hl (h.n6 h0 e)).mono fun e w' ⟨k1, k2, k3⟩ => ⟨k1, k2.wp, k3⟩
  · have eg : gst s x = gtxt x s := by unfold gst; rw [e]; rfl
    rw [eg, e]
    exact (text_c x hx w hw h.sm h.fl h.nm hl).mono fun e w' ⟨k1, k2, k3⟩ => ⟨k1, k2.wp, k3⟩
  · have eg : gst s x = ghsm (gath x s) := by unfold gst; rw [e]; rfl
    rw [eg, e]
    exact (hsum_c x hx w hw h.sm h.nb h.nm (l1 (by omega)) hl).mono fun e w' ⟨k1, k2, k3⟩ => ⟨k1, k2.wp, k3⟩
  · have eg : gst s x = gdsm (gath x s) := by unfold gst; rw [e]; rfl
    rw [eg, e]
    exact dsum_c x hx w hw h.nb (l1 (by omega)) hl
  · have eg : gst s x = gdsz (gath x s) := by unfold gst; rw [e]; rfl
    rw [eg, e]
    exact dsize_c x hx w hw h.nb (l1 (by omega)) hl
  · have eg : gst s x = (if x = 31 then gbgn x s else { gnou x s with nx := 13 }, []) := by unfold gst; rw [e]; rfl
    rw [eg, e]
    exact (behind_c x hx w hw).mono fun e w' ⟨k1, k2, k3⟩ => ⟨k1, Or.inl ⟨rfl, I, cf, q, k2⟩, k3⟩
  · have eg : gst s x = (gnou x s, []) := by unfold gst; rw [e]; rfl
    rw [eg, e]
    have en : s.nm = (gnou x s).nm := by unfold gnou; split <;> rfl
    exact (hw.nought x w).mono fun e w' ⟨k1, k2, k3⟩ => ⟨k1, Or.inl ⟨rfl, I, cf, q, (show Wk w' lo hi B D b R W A (gcof (gnou x s) none) (gnou x s).nm I cf q from en ▸ k2)⟩, k3⟩
/-- What the inflater's answer says of where it comes to stand. -/
theorem ask_end {w : World} (h : Inf w B D b R I MM cf q) (hq : q = .over ∨ q = .want) (ho : cf.out.length ≤ MM) (hs : Stands I MM yF) : cf.out = yF.out ∧ doneM q cf = endC yF ∧ (endC yF = false → whyM q cf = badC yF) ∧ (¬ Over yF → q = .want) := by
  rcases hq with rfl | rfl
  · have h1 := h.stands_over (Nat.le_refl MM) ho
    have e := h1.one hs
    subst e
    refine ⟨rfl, rfl, fun e => ?_, fun e => absurd h.over_st e⟩
    rcases h.over_st with q | ⟨y, q⟩
    · rw [(done_c3 q).1] at e; cases e
    · show whyC cf = badC cf
      rw [(bad_c3 q).2.1, (bad_c3 q).2.2]
  · obtain ⟨z, h1, h2, h3⟩ := h.stands (Nat.le_refl MM) ho
    have e := h1.one hs
    subst e
    obtain ⟨a1, a2, a3⟩ := open_c3 h3
    exact ⟨h2.symm, a1.symm, fun _ => a2.symm, fun _ => rfl⟩
theorem ask_more {w : World} {x : Nat} (h : Inf w B D b R I MM cf q) (hp : Pd (o ++ [x]) cf q) (hs : Stands I MM yF) : ∃ rest, yF.out = o ++ x :: rest := by
  have hr : Runs (allb I) MM cf yF := h.1.linear hs.1 hs.2
  obtain ⟨t, ht⟩ := runs_out hr (runs_ends h.1 (Nat.zero_le _))
  rcases hp with ⟨y, _, e⟩ | ⟨_, e⟩
  · rw [e] at ht
    exact ⟨y :: t, by rw [← ht]; simp⟩
  · rw [e] at ht
    exact ⟨t, by rw [← ht]; simp⟩
/-- What asking comes to: a byte that is told, or that no more is known. -/
def Wa (w : World) (lo hi B D b R W A : Nat) (c : Gc) (n I o : List Nat) (yF : Cfg) : Prop := (∃ x rest cf q, yF.out = o ++ x :: rest ∧ Wk w lo hi B D b R W A { c with sm := sm 0 (o ++ [x]), gv := (o ++ [x]).length % 4294967296, ev := some (x, []) } n I cf q ∧ Pd (o ++ [x]) cf q) ∨ (yF.out = o ∧ ∃ cf q, Wk w lo hi B D b R W A { c with nx := if endC yF then 47 else c.nx, lf := if endC yF then 4 else c.lf, why := badC yF } n I cf q ∧ cf.out = o ∧ (¬ Over yF → q = .want))
set_option maxHeartbeats 2000000 in
theorem ask_c (w : World) (hw : Wk w lo hi B D b R W A c n I cf q) (hp : Pd o cf q) (hsm : c.sm = sm 0 o) (hgv : c.gv = o.length % 4294967296) (he : c.ev = none) (h0 : c.why = 0) (hs : Stands I MM yF) (ho : o.length + 1 < MM) : Calls Tryz.prog 31 #[.pointer (some ⟨W, 0, none⟩)] w fun e w' => e = .returned (.tuple #[]) ∧ Wa w' lo hi B D b R W A c n I o yF ∧ Fw lo hi w w' := by
  have kn := next_any w hw.inf o hp ho
  have d0 := hw.wc.a0
  have AW : Aside (Wk w lo hi B D b R W A c n I cf q) := hw
  clear hw
  go_enter Tryz.func31, Tryz.ntmps31
  go_upto_region 2 with (go_at_call 43; refine kn.mono ?_; rintro e1 w1 ⟨v10, v11, cf1, q1, rfl, f1, i1, hx1⟩)
  clear kn
  have hle : cf1.out.length ≤ MM := by
    rcases hx1 with ⟨x, _, _, hp1⟩ | ⟨_, _, _, ho1⟩
    · have := hp1.le
      rw [List.length_append, List.length_singleton] at this
      omega
    · rw [ho1]; omega
  have k1 := AW.out.fm f1 i1
  have fw1 : Aside (Fw lo hi w w1) := AW.out.ffm f1
  rcases hx1 with ⟨x, rfl, rfl, hp1⟩ | ⟨rfl, rfl, hq1, ho1⟩
  · obtain ⟨rest, hrest⟩ := ask_more i1 hp1 hs
    have hoc : Oct (o ++ x :: rest) := hrest ▸ hs.oct
    have hxb : x < 256 := hoc x (by simp)
    have hoo : Oct o := fun y hy => hoc y (List.mem_append_left _ hy)
    have hsl := sm_lt o (s := 0) (by decide) hoo
    have ks := step_c (sm 0 o) x hsl hxb w1 k1.tab
    have d6 : w1.cell? ⟨W, 6, none⟩ = some (.int .u32 (sm 0 o : Nat)) := by rw [← hsm]; exact k1.wc.a6
    have d7 : w1.cell? ⟨W, 7, none⟩ = some (.int .u32 ((o.length % 4294967296 : Nat) : Int)) := by rw [← hgv]; exact k1.wc.a7
    obtain ⟨g, hg⟩ : ∃ g, o.length % 4294967296 = g := ⟨_, rfl⟩
    rw [hg] at d7
    obtain ⟨g2, hg2⟩ : ∃ g2, (o ++ [x]).length % 4294967296 = g2 := ⟨_, rfl⟩
    have hwr : ((g : Int) + 1) % 4294967296 = (g2 : Int) := by
      rw [List.length_append, List.length_singleton] at hg2
      omega
    obtain ⟨sv, hsv⟩ : ∃ sv, sm 0 o = sv := ⟨_, rfl⟩
    obtain ⟨sv2, hsv2⟩ : ∃ sv2, stp sv x = sv2 := ⟨_, rfl⟩
    rw [hsv] at ks d6
    rw [hsv2] at ks
    have es : sm 0 (o ++ [x]) = sv2 := by rw [sm_append, hsv]; exact hsv2
    have e0 : gk1 x = 2 := by unfold gk1; rw [if_neg (by omega), if_neg (by omega)]
    have e1 : gk2 x = (x : Int) := by unfold gk2; rw [if_pos hxb]
    have e2 : gk3 x = 0 := by unfold gk3; rw [if_neg (by omega)]
    have c8 := k1.wc.a8
    have c9 := k1.wc.a9
    have c10 := k1.wc.a10
    have c11 := k1.wc.a11
    have c12 := k1.wc.a12
    have z6 := k1.wc.fz 6
    have z7 := k1.wc.fz 7
    have z8 := k1.wc.fz 8
    have z9 := k1.wc.fz 9
    have z10 := k1.wc.fz 10
    have z11 := k1.wc.fz 11
    have z12 := k1.wc.fz 12
    have fin : Wk (((((((w1.setCell ⟨W, 6, none⟩ (.int .u32 (sv2 : Int))).setCell ⟨W, 7, none⟩ (.int .u32 (g2 : Int))).setCell ⟨W, 8, none⟩ (.int .i64 2)).setCell ⟨W, 9, none⟩ (.int .u8 (x : Int))).setCell ⟨W, 10, none⟩ (.int .i64 0)).setCell ⟨W, 11, none⟩ (.int .i64 0)).setCell ⟨W, 12, none⟩ (.string ⟨#[]⟩)) lo hi B D b R W A { c with sm := sv2, gv := g2, ev := some (x, []) } n I cf1 q1 ∧ Fw lo hi w1 (((((((w1.setCell ⟨W, 6, none⟩ (.int .u32 (sv2 : Int))).setCell ⟨W, 7, none⟩ (.int .u32 (g2 : Int))).setCell ⟨W, 8, none⟩ (.int .i64 2)).setCell ⟨W, 9, none⟩ (.int .u8 (x : Int))).setCell ⟨W, 10, none⟩ (.int .i64 0)).setCell ⟨W, 11, none⟩ (.int .i64 0)).setCell ⟨W, 12, none⟩ (.string ⟨#[]⟩)) := by
      have o7 : Only W w1 (((((((w1.setCell ⟨W, 6, none⟩ (.int .u32 (sv2 : Int))).setCell ⟨W, 7, none⟩ (.int .u32 (g2 : Int))).setCell ⟨W, 8, none⟩ (.int .i64 2)).setCell ⟨W, 9, none⟩ (.int .u8 (x : Int))).setCell ⟨W, 10, none⟩ (.int .i64 0)).setCell ⟨W, 11, none⟩ (.int .i64 0)).setCell ⟨W, 12, none⟩ (.string ⟨#[]⟩)) := (((((((Only.refl W w1).setCell 6 _).setCell 7 _).setCell 8 _).setCell 9 _).setCell 10 _).setCell 11 _).setCell 12 _
      have hc := ((k1.wc.s6 sv2).s7 g2).sev (some (x, []))
      have q0 : ev0 (some (x, [])) = 2 := e0
      have q1 : ev1 (some (x, [])) = (x : Int) := e1
      have q2 : ev2 (some (x, [])) = 0 := e2
      rw [q0, q1, q2] at hc
      exact ⟨k1.set o7 hc rfl, k1.fw o7⟩
    have AF : Aside (Wk (((((((w1.setCell ⟨W, 6, none⟩ (.int .u32 (sv2 : Int))).setCell ⟨W, 7, none⟩ (.int .u32 (g2 : Int))).setCell ⟨W, 8, none⟩ (.int .i64 2)).setCell ⟨W, 9, none⟩ (.int .u8 (x : Int))).setCell ⟨W, 10, none⟩ (.int .i64 0)).setCell ⟨W, 11, none⟩ (.int .i64 0)).setCell ⟨W, 12, none⟩ (.string ⟨#[]⟩)) lo hi B D b R W A { c with sm := sv2, gv := g2, ev := some (x, []) } n I cf1 q1 ∧ Fw lo hi w1 (((((((w1.setCell ⟨W, 6, none⟩ (.int .u32 (sv2 : Int))).setCell ⟨W, 7, none⟩ (.int .u32 (g2 : Int))).setCell ⟨W, 8, none⟩ (.int .i64 2)).setCell ⟨W, 9, none⟩ (.int .u8 (x : Int))).setCell ⟨W, 10, none⟩ (.int .i64 0)).setCell ⟨W, 11, none⟩ (.int .i64 0)).setCell ⟨W, 12, none⟩ (.string ⟨#[]⟩))) := fin
    have AR : Aside (sm 0 (o ++ [x]) = sv2 ∧ (o ++ [x]).length % 4294967296 = g2 ∧ Pd (o ++ [x]) cf1 q1 ∧ yF.out = o ++ x :: rest) := ⟨es, hg2, hp1, hrest⟩
    clear fin hp hsm hgv he h0 hs ho d0 AW f1 i1 k1 hp1 hrest hoc hxb hoo hsl hg hg2 hsv hsv2 es e0 e1 e2 hle
    go_wp2_with (go_at_call 44; refine ks.mono ?_; rintro e4 w4 ⟨rfl, rfl⟩)
    first | go_end0 | (refine bodyPost_ret (results_none rfl _ _ _) rfl ?_)
    have ar := AR.out
    refine ⟨rfl, Or.inl ⟨x, rest, cf1, q1, ar.2.2.2, ?_, ar.2.2.1⟩, fw1.out.trans AF.out.2⟩
    rw [ar.1, ar.2.1]
    exact AF.out.1
  · obtain ⟨a1, a2, a3, a4⟩ := ask_end i1 hq1 hle hs
    have kd := pdone_c w1 i1
    have kr := reason_c w1 i1
    rw [a2] at kd
    have a5 : yF.out = o := a1.symm.trans ho1
    have kk : Aside (Wk w1 lo hi B D b R W A c n I cf1 q1) := k1
    have d0' := k1.wc.a0
    by_cases he2 : endC yF = true
    · rw [he2] at kd
      have kt := k1.then_ 47 4 w1
      have hb : badC yF = 0 := by
        unfold endC at he2
        unfold badC
        split at he2
        · rename_i q; rw [q]
        · cases he2
      have AR : Aside (cf1.out = o ∧ (¬ Over yF → q1 = .want) ∧ yF.out = o ∧ endC yF = true ∧ badC yF = 0 ∧ c.why = 0) := ⟨ho1, a4, a5, he2, hb, h0⟩
      clear hp hsm hgv he h0 hs ho d0 AW f1 i1 k1 hq1 ho1 a1 a2 a3 a4 a5 hle kr he2 hb
      go_wp2_with (first
        | (go_at_call 45; refine kd.mono ?_; rintro e4 w4 ⟨rfl, rfl⟩)
        | (go_at_call 46; refine kt.mono ?_; rintro e5 w5 ⟨rfl, h5, f5⟩))
      first | go_end0 | (refine bodyPost_ret (results_none rfl _ _ _) rfl ?_)
      have ar := AR.out
      refine ⟨rfl, Or.inr ⟨ar.2.2.1, cf1, q1, ?_, ar.1, ar.2.1⟩, fw1.out.trans f5⟩
      rw [if_pos ar.2.2.2.1, if_pos ar.2.2.2.1, ar.2.2.2.2.1, ← ar.2.2.2.2.2]
      exact h5
    · have he3 : endC yF = false := by simpa using he2
      rw [he3] at kd
      rw [a3 he3] at kr
      obtain ⟨y, hy⟩ : ∃ y, badC yF = y := ⟨_, rfl⟩
      rw [hy] at kr
      have d15 := k1.wc.a15
      have z15 := k1.wc.fz 15
      have AR : Aside (cf1.out = o ∧ (¬ Over yF → q1 = .want) ∧ yF.out = o ∧ endC yF = false ∧ badC yF = y) := ⟨ho1, a4, a5, he3, hy⟩
      clear hp hsm hgv he h0 hs ho d0 AW f1 i1 k1 hq1 ho1 a1 a2 a3 a4 a5 hle he2 he3 hy
      go_wp2_with (first
        | (go_at_call 45; refine kd.mono ?_; rintro e4 w4 ⟨rfl, rfl⟩)
        | (go_at_call 48; refine kr.mono ?_; rintro e5 w5 ⟨rfl, rfl⟩))
      first | go_end0 | (refine bodyPost_ret (results_none rfl _ _ _) rfl ?_)
      have ar := AR.out
      have k := kk.out
      refine ⟨rfl, Or.inr ⟨ar.2.2.1, cf1, q1, ?_, ar.1, ar.2.1⟩, fw1.out.trans (k.fw ((Only.refl W w1).setCell 15 _))⟩
      rw [if_neg (by rw [ar.2.2.2.1]; decide), if_neg (by rw [ar.2.2.2.1]; decide), ar.2.2.2.2]
      exact k.set ((Only.refl W w1).setCell 15 _) (k.wc.s15 y) rfl
end
end Go.Proofs.YtogednaamndpgaaGreatDoor

/-
  The walker's calls Put, Reason, End, Reset, told of its cells.
-/
namespace Go.Proofs.YtogednaamndpgaaGreatDoor
open Go.RowKit
set_option linter.unusedVariables false
section
variable {lo hi B D b R W A : Nat} {n I o : List Nat} {cf yF : Cfg} {q : Md} {s : Gs} {c : Gc}
theorem ev0_some (e : Evn) : ev0 (some e) ≠ 0 := by
  show gk1 e.1 ≠ 0
  unfold gk1
  (repeat' split) <;> decide
theorem wopen_yes (w : World) (h : Wc w W D A c) (he : c.ev = none) (h0 : c.why = 0) (hen : c.en = false) : Calls Tryz.prog 30 #[.pointer (some ⟨W, 0, none⟩)] w fun e w' => e = .returned (.bool true) ∧ w = w' := by
  have d8 : w.cell? ⟨W, 8, none⟩ = some (.int .i64 0) := by have := h.a8; rw [he] at this; exact this
  have d15 : w.cell? ⟨W, 15, none⟩ = some (.int .i64 0) := by have := h.a15; rw [h0] at this; exact this
  have d14 : w.cell? ⟨W, 14, none⟩ = some (.bool false) := by have := h.a14; rw [hen] at this; exact this
  clear h he h0 hen
  go_enter Tryz.func30, Tryz.ntmps30
  go_wp2_with fail
  first | go_ret | go_ret2
  exact ⟨rfl, rfl⟩
theorem wopen_ev (w : World) (h : Wc w W D A c) (he : c.ev ≠ none) : Calls Tryz.prog 30 #[.pointer (some ⟨W, 0, none⟩)] w fun e w' => e = .returned (.bool false) ∧ w = w' := by
  have d8 := h.a8
  obtain ⟨k, hk⟩ : ∃ k, ev0 c.ev = k := ⟨_, rfl⟩
  have hk0 : (k == 0) = false := by
    rw [beq_eq_false_iff_ne, ← hk]
    cases hc : c.ev with
    | none => exact absurd hc he
    | some e => exact ev0_some e
  rw [hk] at d8
  clear h he hk
  go_enter Tryz.func30, Tryz.ntmps30
  go_wp2_with fail
  first | go_ret | go_ret2
  exact ⟨rfl, rfl⟩
theorem wopen_why (w : World) (h : Wc w W D A c) (he : c.ev = none) (h0 : c.why ≠ 0) : Calls Tryz.prog 30 #[.pointer (some ⟨W, 0, none⟩)] w fun e w' => e = .returned (.bool false) ∧ w = w' := by
  have d8 : w.cell? ⟨W, 8, none⟩ = some (.int .i64 0) := by have := h.a8; rw [he] at this; exact this
  have d15 := h.a15
  have hk0 : ((c.why : Int) == 0) = false := by rw [beq_eq_false_iff_ne]; omega
  clear h he h0
  go_enter Tryz.func30, Tryz.ntmps30
  go_wp2_with fail
  first | go_ret | go_ret2
  exact ⟨rfl, rfl⟩
theorem wopen_en (w : World) (h : Wc w W D A c) (he : c.ev = none) (h0 : c.why = 0) (hen : c.en = true) : Calls Tryz.prog 30 #[.pointer (some ⟨W, 0, none⟩)] w fun e w' => e = .returned (.bool false) ∧ w = w' := by
  have d8 : w.cell? ⟨W, 8, none⟩ = some (.int .i64 0) := by have := h.a8; rw [he] at this; exact this
  have d15 : w.cell? ⟨W, 15, none⟩ = some (.int .i64 0) := by have := h.a15; rw [h0] at this; exact this
  have d14 : w.cell? ⟨W, 14, none⟩ = some (.bool true) := by have := h.a14; rw [hen] at this; exact this
  clear h he h0 hen
  go_enter Tryz.func30, Tryz.ntmps30
  go_wp2_with fail
  first | go_ret | go_ret2
  exact ⟨rfl, rfl⟩
/-- It takes no byte. -/
theorem wopen_no (w : World) (h : Wc w W D A c) (hn : c.ev ≠ none ∨ c.why ≠ 0 ∨ c.en = true) : Calls Tryz.prog 30 #[.pointer (some ⟨W, 0, none⟩)] w fun e w' => e = .returned (.bool false) ∧ w = w' := by
  by_cases he : c.ev = none
  · by_cases h0 : c.why = 0
    · rcases hn with q | q | q
      · exact absurd he q
      · exact absurd h0 q
      · exact wopen_en w h he h0 q
    · exact wopen_why w h he h0
  · exact wopen_ev w h he
theorem wput_no (x : Nat) (w : World) (h : Wc w W D A c) (hn : c.ev ≠ none ∨ c.why ≠ 0 ∨ c.en = true) : Calls Tryz.prog 15 #[.pointer (some ⟨W, 0, none⟩), .int .u8 (x : Int)] w fun e w' => e = .returned (.bool false) ∧ w = w' := by
  have ko := wopen_no w h hn
  clear h hn
  go_enter Tryz.func15, Tryz.ntmps15
  go_wp2_with (go_at_call 30; refine ko.mono ?_; rintro e2 w2 ⟨rfl, rfl⟩)
  first | go_ret | go_ret2
  exact ⟨rfl, rfl⟩
set_option maxHeartbeats 2000000 in
theorem wput_gen (k : Nat) (hks : k = 29 ∨ k = 73 ∨ k = 102 ∨ k = 116 ∨ k = 127 ∨ k = 133 ∨ k = 134 ∨ k = 135 ∨ k = 136 ∨ k = 141 ∨ k = 47 ∨ k = 77 ∨ k = 103 ∨ k = 117) (P : World → Prop) (x : Nat) (w : World) (h : Wc w W D A c) (hk : c.nx = k) (he : c.ev = none) (h0 : c.why = 0) (hen : c.en = false) (hst : Calls Tryz.prog k #[.pointer (some ⟨W, 0, none⟩), .int .u8 (x : Int)] w fun e w' => e = .returned (.tuple #[]) ∧ P w') : Calls Tryz.prog 15 #[.pointer (some ⟨W, 0, none⟩), .int .u8 (x : Int)] w fun e w' => e = .returned (.bool true) ∧ P w' := by
  have ko := wopen_yes w h he h0 hen
  have d1 : w.cell? ⟨W, 1, none⟩ = some (fnv W k) := by rw [← hk]; exact h.a1
  unfold fnv at d1
  clear h hk he h0 hen
  rcases hks with rfl | rfl | rfl | rfl | rfl | rfl | rfl | rfl | rfl | rfl | rfl | rfl | rfl | rfl
  all_goals
    go_enter Tryz.func15, Tryz.ntmps15
    go_wp2_with (first
      | (go_at_call 30; refine ko.mono ?_; rintro e2 w2 ⟨rfl, rfl⟩)
      | (go_at_call 29; refine hst.mono ?_; rintro e3 w3 ⟨rfl, h3⟩)
      | (go_at_call 73; refine hst.mono ?_; rintro e3 w3 ⟨rfl, h3⟩)
      | (go_at_call 102; refine hst.mono ?_; rintro e3 w3 ⟨rfl, h3⟩)
      | (go_at_call 116; refine hst.mono ?_; rintro e3 w3 ⟨rfl, h3⟩)
      | (go_at_call 127; refine hst.mono ?_; rintro e3 w3 ⟨rfl, h3⟩)
      | (go_at_call 133; refine hst.mono ?_; rintro e3 w3 ⟨rfl, h3⟩)
      | (go_at_call 134; refine hst.mono ?_; rintro e3 w3 ⟨rfl, h3⟩)
      | (go_at_call 135; refine hst.mono ?_; rintro e3 w3 ⟨rfl, h3⟩)
      | (go_at_call 136; refine hst.mono ?_; rintro e3 w3 ⟨rfl, h3⟩)
      | (go_at_call 141; refine hst.mono ?_; rintro e3 w3 ⟨rfl, h3⟩)
      | (go_at_call 47; refine hst.mono ?_; rintro e3 w3 ⟨rfl, h3⟩)
      | (go_at_call 77; refine hst.mono ?_; rintro e3 w3 ⟨rfl, h3⟩)
      | (go_at_call 103; refine hst.mono ?_; rintro e3 w3 ⟨rfl, h3⟩)
      | (go_at_call 117; refine hst.mono ?_; rintro e3 w3 ⟨rfl, h3⟩))
    first | go_ret | go_ret2
    exact ⟨rfl, h3⟩
theorem pfn_in (k : Nat) : pfn k = 29 ∨ pfn k = 73 ∨ pfn k = 102 ∨ pfn k = 116 ∨ pfn k = 127 ∨ pfn k = 133 ∨ pfn k = 134 ∨ pfn k = 135 ∨ pfn k = 136 ∨ pfn k = 141 ∨ pfn k = 47 ∨ pfn k = 77 ∨ pfn k = 103 ∨ pfn k = 117 := by
  unfold pfn
  split <;> simp
theorem wreason_c (w : World) (h : Wc w W D A c) : Calls Tryz.prog 18 #[.pointer (some ⟨W, 0, none⟩)] w fun e w' => e = .returned (.int .i64 (c.why : Int)) ∧ w = w' := by
  have d15 := h.a15
  clear h
  go_enter Tryz.func18, Tryz.ntmps18
  go_wp2_with fail
  first | go_ret | go_ret2
  exact ⟨rfl, rfl⟩
theorem wend_no (w : World) (h : Wc w W D A c) (hn : c.ev ≠ none ∨ c.why ≠ 0 ∨ c.en = true) : Calls Tryz.prog 19 #[.pointer (some ⟨W, 0, none⟩)] w fun e w' => e = .returned (.tuple #[]) ∧ w = w' := by
  have ko := wopen_no w h hn
  clear h hn
  go_enter Tryz.func19, Tryz.ntmps19
  go_wp2_with (go_at_call 30; refine ko.mono ?_; rintro e2 w2 ⟨rfl, rfl⟩)
  first | go_end0 | (refine bodyPost_ret (results_none rfl _ _ _) rfl ?_)
  exact ⟨rfl, rfl⟩
theorem wend_yes (w : World) (hw : Wk w lo hi B D b R W A c n I cf q) (he : c.ev = none) (h0 : c.why = 0) (hen : c.en = false) (y : Nat) (hy : (if c.wh = true then 0 else 1) = y) : Calls Tryz.prog 19 #[.pointer (some ⟨W, 0, none⟩)] w fun e w' => e = .returned (.tuple #[]) ∧ Wk w' lo hi B D b R W A { c with en := true, why := y } n I cf q ∧ Fw lo hi w w' := by
  have ko := wopen_yes w hw.wc he h0 hen
  have d13 := hw.wc.a13
  have d14 := hw.wc.a14
  have z14 := hw.wc.fz 14
  have d15 := hw.wc.a15
  have z15 := hw.wc.fz 15
  have AW : Aside (Wk w lo hi B D b R W A c n I cf q ∧ c.why = 0) := ⟨hw, h0⟩
  obtain ⟨t, ht⟩ : ∃ t, c.wh = t := ⟨_, rfl⟩
  rw [ht] at d13 hy
  clear hw he h0 hen ht
  cases t with
  | true =>
    obtain rfl : (0 : Nat) = y := by simpa using hy
    clear hy
    go_enter Tryz.func19, Tryz.ntmps19
    go_wp2_with (go_at_call 30; refine ko.mono ?_; rintro e2 w2 ⟨rfl, rfl⟩)
    first | go_end0 | (refine bodyPost_ret (results_none rfl _ _ _) rfl ?_)
    have a := AW.out
    refine ⟨rfl, ?_, a.1.fw ((Only.refl W w).setCell 14 _)⟩
    have k := a.1.set ((Only.refl W w).setCell 14 _) (a.1.wc.s14 true) rfl
    have e : ({ c with en := true, why := 0 } : Gc) = { c with en := true } := by rw [← a.2]
    rw [e]
    exact k
  | false =>
    obtain rfl : (1 : Nat) = y := by simpa using hy
    clear hy
    go_enter Tryz.func19, Tryz.ntmps19
    go_wp2_with (go_at_call 30; refine ko.mono ?_; rintro e2 w2 ⟨rfl, rfl⟩)
    first | go_end0 | (refine bodyPost_ret (results_none rfl _ _ _) rfl ?_)
    have a := AW.out
    exact ⟨rfl, a.1.set (((Only.refl W w).setCell 14 _).setCell 15 _) ((a.1.wc.s14 true).s15 1) rfl, a.1.fw (((Only.refl W w).setCell 14 _).setCell 15 _)⟩
end
end Go.Proofs.YtogednaamndpgaaGreatDoor

/-
  The walker's call Next.
-/
namespace Go.Proofs.YtogednaamndpgaaGreatDoor
open Go.RowKit
set_option linter.unusedVariables false
def z5 : Array Value := #[.int .i64 0, .int .u8 0, .int .i64 0, .int .i64 0, .string ⟨#[]⟩]
theorem size43 : (Tryz.prog.info? 43).map (·.size) = some 5 := by kernel_rfl
theorem ret43 {w : World} {g : Nat} {cs : Array Value} (h : Cells w g cs 43) (hc : cs.size = 5) : (loadVar 43 ⟨g, 0, none⟩).run Tryz.prog w = .ok (.agg cs) w := by
  exact run_loadVar_row (P := Tryz.prog) w g 43 43 cs (0, 0) _ h Tryz.underlying43 rfl (by rw [hc]; exact size43)
theorem set5 {w : World} {H : Nat} {a0 b0 c0 d0 e0 : Value} (h : Cells w H #[a0, b0, c0, d0, e0] 43) (a b c d e : Value) : Cells (((((w.setCell ⟨H, 0, none⟩ a).setCell ⟨H, 1, none⟩ b).setCell ⟨H, 2, none⟩ c).setCell ⟨H, 3, none⟩ d).setCell ⟨H, 4, none⟩ e) H #[a, b, c, d, e] 43 :=
  have := ((((h.set 0 a).set 1 b).set 2 c).set 3 d).set 4 e
  by simpa using this
theorem only_five (H : Nat) (w : World) (a b c d e : Value) : Only H w (((((w.setCell ⟨H, 0, none⟩ a).setCell ⟨H, 1, none⟩ b).setCell ⟨H, 2, none⟩ c).setCell ⟨H, 3, none⟩ d).setCell ⟨H, 4, none⟩ e) := (((((Only.refl H w).setCell 0 _).setCell 1 _).setCell 2 _).setCell 3 _).setCell 4 _
section
variable {lo hi B D b R W A : Nat} {n I o : List Nat} {cf yF : Cfg} {q : Md} {s : Gs} {c : Gc}
theorem Wk.alloc {w : World} (h : Wk w lo hi B D b R W A c n I cf q) (ob : Obj) : Wk (w.alloc ob) lo hi B D b R W A c n I cf q := h.below ((Below.refl _ w).alloc (Nat.le_refl _) _) (Nat.le_refl _)
/-- A variable of the call's own turned. -/
theorem Wk.var {w u : World} {H : Nat} {cs : Array Value} (h : Wk w lo hi B D b R W A c n I cf q) (hH : hi ≤ H) (hc : Cells w H cs 43) (o : Only H w u) : Wk u lo hi B D b R W A c n I cf q :=
  h.out ⟨o.os, o.tape, o.output, Nat.le_of_eq o.size.symm, fun k hk => o.block k (by omega)⟩ fun i hi' => by
    by_cases e : i = H
    · subst e; exact Or.inr ⟨_, 43, _, hc, Or.inr (Or.inr rfl)⟩
    · exact Or.inl (o.block i e)
theorem Fw.var {w u v : World} {H : Nat} (h : Fw lo hi w u) (hH : w.heap.size = H) (o : Only H u v) : Fw lo hi w v := ⟨o.os.trans h.os, o.tape.trans h.tape, o.output.trans h.output, by rw [o.size]; exact h.size, fun k hk hh => (o.block k (by omega)).trans (h.block k hk hh)⟩
theorem Wa.var {w u : World} {H : Nat} {cs : Array Value} (h : Wa w lo hi B D b R W A c n I o yF) (hH : hi ≤ H) (hc : Cells w H cs 43) (k : Only H w u) : Wa u lo hi B D b R W A c n I o yF := by
  rcases h with ⟨x, rest, cf, q, h1, h2, h3⟩ | ⟨h1, cf, q, h2, h3⟩
  · exact Or.inl ⟨x, rest, cf, q, h1, h2.var hH hc k, h3⟩
  · exact Or.inr ⟨h1, cf, q, h2.var hH hc k, h3⟩
theorem Cells.fw {w u : World} {H : Nat} {cs : Array Value} {t : TypeId} (h : Cells w H cs t) (k : Fw lo hi w u) (hH : hi ≤ H) : Cells u H cs t := by
  have := h.lt
  unfold Cells at *
  rw [k.block H this (Or.inr hH)]; exact h
set_option maxHeartbeats 1000000 in
theorem wnext_no (w : World) (h : Wk w lo hi B D b R W A c n I cf q) (he : c.ev = none) : Calls Tryz.prog 20 #[.pointer (some ⟨W, 0, none⟩)] w fun e w' => e = .returned (.tuple #[.agg z5, .bool false]) ∧ Wk w' lo hi B D b R W A c n I cf q ∧ Below w.heap.size w w' := by
  obtain ⟨H, hH⟩ : ∃ H, w.heap.size = H := ⟨_, rfl⟩
  have h1 := h.alloc (.cells z5 43)
  have hC := Cells.new w z5 43
  have d8 : (w.alloc (.cells z5 43)).cell? ⟨W, 8, none⟩ = some (.int .i64 0) := by have := h1.wc.a8; rw [he] at this; exact this
  have hbel : Below w.heap.size w (w.alloc (.cells z5 43)) := (Below.refl _ w).alloc (Nat.le_refl _) _
  have hhs := h.hs
  rw [hH] at hC hhs
  obtain ⟨w1, hw1⟩ : ∃ w1, w.alloc (.cells z5 43) = w1 := ⟨_, rfl⟩
  rw [hw1] at hC d8 h1 hbel
  have e0 : w1.cell? ⟨H, 0, none⟩ = some (.int .i64 0) := (hC.cell 0).trans rfl
  have e1 : w1.cell? ⟨H, 1, none⟩ = some (.int .u8 0) := (hC.cell 1).trans rfl
  have e2 : w1.cell? ⟨H, 2, none⟩ = some (.int .i64 0) := (hC.cell 2).trans rfl
  have e3 : w1.cell? ⟨H, 3, none⟩ = some (.int .i64 0) := (hC.cell 3).trans rfl
  have e4 : w1.cell? ⟨H, 4, none⟩ = some (.string ⟨#[]⟩) := (hC.cell 4).trans rfl
  have z0 := hC.frozen 0
  have z1 := hC.frozen 1
  have z2 := hC.frozen 2
  have z3 := hC.frozen 3
  have z4 := hC.frozen 4
  have A1 : Aside (Wk w1 lo hi B D b R W A c n I cf q ∧ Cells w1 H z5 43 ∧ Below w.heap.size w w1 ∧ hi ≤ H) := ⟨h1, hC, hbel, hhs⟩
  have AH : Aside (w.heap.size = H) := hH
  clear h h1 hC hbel hhs he
  unfold z5 at hw1
  go_enter Tryz.func20, Tryz.ntmps20
  go_upto_region 1 with fail
  clear hw1
  go_wp2_with fail
  (try simp only [Exit.inBlock, Exit.then])
  obtain ⟨a1, a2, a3, a4⟩ := A1.out
  have hC2 := set5 a2 (.int .i64 0) (.int .u8 0) (.int .i64 0) (.int .i64 0) (.string ⟨#[]⟩)
  have o5 := only_five H w1 (.int .i64 0) (.int .u8 0) (.int .i64 0) (.int .i64 0) (.string ⟨#[]⟩)
  refine bodyPost_ret (v := .tuple #[.agg z5, .bool false]) ?_ rfl ?_
  · rw [results_cell_tmp rfl]
    simp [asAddr, Result.andThen, ret43 hC2 rfl, z5]
  · exact ⟨rfl, a1.var a4 a2 o5, a3.trans (o5.below (by rw [AH.out]; exact Nat.le_refl _))⟩
set_option maxHeartbeats 1000000 in
theorem wnext_one (e : Evn) (k0 k1 k2 : Int) (hk0 : gk1 e.1 = k0) (hk1 : gk2 e.1 = k1) (hk2 : gk3 e.1 = k2) (hn2 : (k0 == 2) = false) (hn0 : (k0 == 0) = false) (w : World) (h : Wk w lo hi B D b R W A c n I cf q) (he : c.ev = some e) : Calls Tryz.prog 20 #[.pointer (some ⟨W, 0, none⟩)] w fun r w' => r = .returned (.tuple #[.agg (gevv e.1 e.2), .bool true]) ∧ Wk w' lo hi B D b R W A { c with ev := none } n I cf q ∧ Fw lo hi w w' := by
  obtain ⟨H, hH⟩ : ∃ H, w.heap.size = H := ⟨_, rfl⟩
  obtain ⟨str, hstr⟩ : ∃ str, st e.2 = str := ⟨_, rfl⟩
  have h1 := h.alloc (.cells z5 43)
  have hC := Cells.new w z5 43
  have d8 : (w.alloc (.cells z5 43)).cell? ⟨W, 8, none⟩ = some (.int .i64 k0) := by have := h1.wc.a8; rw [he, show ev0 (some e) = k0 from hk0] at this; exact this
  have d9 : (w.alloc (.cells z5 43)).cell? ⟨W, 9, none⟩ = some (.int .u8 k1) := by have := h1.wc.a9; rw [he, show ev1 (some e) = k1 from hk1] at this; exact this
  have d10 : (w.alloc (.cells z5 43)).cell? ⟨W, 10, none⟩ = some (.int .i64 k2) := by have := h1.wc.a10; rw [he, show ev2 (some e) = k2 from hk2] at this; exact this
  have d11 := h1.wc.a11
  have d12 : (w.alloc (.cells z5 43)).cell? ⟨W, 12, none⟩ = some (.string str) := by have := h1.wc.a12; rw [he, show st (ev4 (some e)) = str from hstr] at this; exact this
  have y8 := h1.wc.fz 8
  have y9 := h1.wc.fz 9
  have y10 := h1.wc.fz 10
  have y11 := h1.wc.fz 11
  have y12 := h1.wc.fz 12
  have hfw : Fw lo hi w (w.alloc (.cells z5 43)) := Fw.of_below ((Below.refl _ w).alloc (Nat.le_refl _) _) (Nat.le_refl _)
  have hhs := h.hs
  have hsz : (w.alloc (.cells z5 43)).heap.size = H + 1 := by rw [← hH]; simp
  rw [hH] at hC hhs
  obtain ⟨w1, hw1⟩ : ∃ w1, w.alloc (.cells z5 43) = w1 := ⟨_, rfl⟩
  rw [hw1] at hC d8 d9 d10 d11 d12 y8 y9 y10 y11 y12 h1 hfw hsz
  have hr : gevv e.1 e.2 = #[.int .i64 k0, .int .u8 k1, .int .i64 k2, .int .i64 0, .string str] := by unfold gevv; rw [hk0, hk1, hk2, hstr]
  rw [hr]
  have A1 : Aside (Wk w1 lo hi B D b R W A c n I cf q ∧ Cells w1 H z5 43 ∧ Fw lo hi w w1 ∧ hi ≤ H ∧ w1.heap.size = H + 1) := ⟨h1, hC, hfw, hhs, hsz⟩
  have AH : Aside (w.heap.size = H) := hH
  clear h h1 hC hfw hhs he hk0 hk1 hk2 hstr hr
  unfold z5 at hw1
  go_enter Tryz.func20, Tryz.ntmps20
  go_upto_region 1 with fail
  clear hw1
  clear hH
  go_upto_region 4 with fail
  have k2w := A1.out.1.alloc (.cells #[.int .i64 k0, .int .u8 k1, .int .i64 k2, .int .i64 0, .string str] 43)
  have c2H := (A1.out.2.1).alloc (.cells #[.int .i64 k0, .int .u8 k1, .int .i64 k2, .int .i64 0, .string str] 43)
  have c2J := Cells.new w1 #[.int .i64 k0, .int .u8 k1, .int .i64 k2, .int .i64 0, .string str] 43
  rw [A1.out.2.2.2.2] at c2J
  have f2 : Fw lo hi w1 (w1.alloc (.cells #[.int .i64 k0, .int .u8 k1, .int .i64 k2, .int .i64 0, .string str] 43)) := Fw.of_below ((Below.refl _ w1).alloc (Nat.le_refl _) _) (Nat.le_refl _)
  obtain ⟨w2, hw2⟩ : ∃ w2, w1.alloc (.cells #[.int .i64 k0, .int .u8 k1, .int .i64 k2, .int .i64 0, .string str] 43) = w2 := ⟨_, rfl⟩
  rw [hw2] at k2w c2H c2J f2 ⊢
  have o3 := only5 W w2 (.int .i64 0) (.int .u8 0) (.int .i64 0) (.int .i64 0) (.string ⟨#[]⟩)
  have k3 : Wk (((((w2.setCell ⟨W, 8, none⟩ (.int .i64 0)).setCell ⟨W, 9, none⟩ (.int .u8 0)).setCell ⟨W, 10, none⟩ (.int .i64 0)).setCell ⟨W, 11, none⟩ (.int .i64 0)).setCell ⟨W, 12, none⟩ (.string ⟨#[]⟩)) lo hi B D b R W A { c with ev := none } n I cf q := k2w.set o3 (k2w.wc.sev none) rfl
  have hWH : W ≠ H ∧ W ≠ H + 1 := by have := A1.out.1.g.hW; have := A1.out.2.2.2.1; omega
  have c3H := Cells.only c2H o3 (Ne.symm hWH.1)
  have c3J := Cells.only c2J o3 (Ne.symm hWH.2)
  have f3 := f2.trans (k2w.fw o3)
  have d8 := k2w.wc.a8
  have d9 := k2w.wc.a9
  have d10 := k2w.wc.a10
  have d11 := k2w.wc.a11
  have d12 := k2w.wc.a12
  have y8 := k2w.wc.fz 8
  have y9 := k2w.wc.fz 9
  have y10 := k2w.wc.fz 10
  have y11 := k2w.wc.fz 11
  have y12 := k2w.wc.fz 12
  have A3 : Aside (Wk (((((w2.setCell ⟨W, 8, none⟩ (.int .i64 0)).setCell ⟨W, 9, none⟩ (.int .u8 0)).setCell ⟨W, 10, none⟩ (.int .i64 0)).setCell ⟨W, 11, none⟩ (.int .i64 0)).setCell ⟨W, 12, none⟩ (.string ⟨#[]⟩)) lo hi B D b R W A { c with ev := none } n I cf q ∧ Cells (((((w2.setCell ⟨W, 8, none⟩ (.int .i64 0)).setCell ⟨W, 9, none⟩ (.int .u8 0)).setCell ⟨W, 10, none⟩ (.int .i64 0)).setCell ⟨W, 11, none⟩ (.int .i64 0)).setCell ⟨W, 12, none⟩ (.string ⟨#[]⟩)) H z5 43 ∧ Cells (((((w2.setCell ⟨W, 8, none⟩ (.int .i64 0)).setCell ⟨W, 9, none⟩ (.int .u8 0)).setCell ⟨W, 10, none⟩ (.int .i64 0)).setCell ⟨W, 11, none⟩ (.int .i64 0)).setCell ⟨W, 12, none⟩ (.string ⟨#[]⟩)) (H + 1) #[.int .i64 k0, .int .u8 k1, .int .i64 k2, .int .i64 0, .string str] 43 ∧ Fw lo hi w (((((w2.setCell ⟨W, 8, none⟩ (.int .i64 0)).setCell ⟨W, 9, none⟩ (.int .u8 0)).setCell ⟨W, 10, none⟩ (.int .i64 0)).setCell ⟨W, 11, none⟩ (.int .i64 0)).setCell ⟨W, 12, none⟩ (.string ⟨#[]⟩))) := ⟨k3, c3H, c3J, A1.out.2.2.1.trans f3⟩
  clear k2w c2H c2J f2 hw2 o3 k3 c3H c3J f3
  go_upto_region 5 with fail
  obtain ⟨w3, hw3⟩ : ∃ w3, (((((w2.setCell ⟨W, 8, none⟩ (.int .i64 0)).setCell ⟨W, 9, none⟩ (.int .u8 0)).setCell ⟨W, 10, none⟩ (.int .i64 0)).setCell ⟨W, 11, none⟩ (.int .i64 0)).setCell ⟨W, 12, none⟩ (.string ⟨#[]⟩)) = w3 := ⟨_, rfl⟩
  rw [hw3] at A3 ⊢
  clear hw3 d8 d9 d10 d11 d12 y8 y9 y10 y11 y12
  have A4 : Aside (Wk w3 lo hi B D b R W A { c with ev := none } n I cf q ∧ Cells w3 H z5 43 ∧ Cells w3 (H + 1) #[.int .i64 k0, .int .u8 k1, .int .i64 k2, .int .i64 0, .string str] 43 ∧ Fw lo hi w w3 ∧ hi ≤ H) := ⟨A3.out.1, A3.out.2.1, A3.out.2.2.1, A3.out.2.2.2, A1.out.2.2.2.1⟩
  have g0 : w3.cell? ⟨H + 1, 0, none⟩ = some (.int .i64 k0) := (A4.out.2.2.1.cell 0).trans rfl
  have g1 : w3.cell? ⟨H + 1, 1, none⟩ = some (.int .u8 k1) := (A4.out.2.2.1.cell 1).trans rfl
  have g2 : w3.cell? ⟨H + 1, 2, none⟩ = some (.int .i64 k2) := (A4.out.2.2.1.cell 2).trans rfl
  have g3 : w3.cell? ⟨H + 1, 3, none⟩ = some (.int .i64 0) := (A4.out.2.2.1.cell 3).trans rfl
  have g4 : w3.cell? ⟨H + 1, 4, none⟩ = some (.string str) := (A4.out.2.2.1.cell 4).trans rfl
  have e0 : w3.cell? ⟨H, 0, none⟩ = some (.int .i64 0) := (A4.out.2.1.cell 0).trans rfl
  have e1 : w3.cell? ⟨H, 1, none⟩ = some (.int .u8 0) := (A4.out.2.1.cell 1).trans rfl
  have e2 : w3.cell? ⟨H, 2, none⟩ = some (.int .i64 0) := (A4.out.2.1.cell 2).trans rfl
  have e3 : w3.cell? ⟨H, 3, none⟩ = some (.int .i64 0) := (A4.out.2.1.cell 3).trans rfl
  have e4 : w3.cell? ⟨H, 4, none⟩ = some (.string ⟨#[]⟩) := (A4.out.2.1.cell 4).trans rfl
  have z0 := A4.out.2.1.frozen 0
  have z1 := A4.out.2.1.frozen 1
  have z2 := A4.out.2.1.frozen 2
  have z3 := A4.out.2.1.frozen 3
  have z4 := A4.out.2.1.frozen 4
  clear A3 A1
  go_wp2_with fail
  (try simp only [Exit.inBlock, Exit.then])
  obtain ⟨a1, a2, a3, a4, a5⟩ := A4.out
  have hC2 := set5 a2 (.int .i64 k0) (.int .u8 k1) (.int .i64 k2) (.int .i64 0) (.string str)
  have o5 := only_five H w3 (.int .i64 k0) (.int .u8 k1) (.int .i64 k2) (.int .i64 0) (.string str)
  refine bodyPost_ret (v := .tuple #[.agg #[.int .i64 k0, .int .u8 k1, .int .i64 k2, .int .i64 0, .string str], .bool true]) ?_ rfl ?_
  · rw [results_cell_tmp rfl]
    simp [asAddr, Result.andThen, ret43 hC2 rfl]
  · exact ⟨rfl, a1.var a5 a2 o5, a4.var AH.out o5⟩
set_option maxHeartbeats 1000000 in
theorem wnext_byte (e : Evn) (k1 k2 : Int) (hk0 : gk1 e.1 = 2) (hk1 : gk2 e.1 = k1) (hk2 : gk3 e.1 = k2) (w : World) (h : Wk w lo hi B D b R W A c n I cf q) (he : c.ev = some e) (hp : Pd o cf q) (hsm : c.sm = sm 0 o) (hgv : c.gv = o.length % 4294967296) (h0 : c.why = 0) (hs : Stands I MM yF) (ho : o.length + 1 < MM) : Calls Tryz.prog 20 #[.pointer (some ⟨W, 0, none⟩)] w fun r w' => r = .returned (.tuple #[.agg (gevv e.1 e.2), .bool true]) ∧ Wa w' lo hi B D b R W A { c with ev := none } n I o yF ∧ Fw lo hi w w' := by
  have ka := fun (X : World) (h : Wk X lo hi B D b R W A { c with ev := none } n I cf q) => ask_c X h hp hsm hgv rfl h0 hs ho
  clear hp hsm hgv h0 hs ho
  obtain ⟨H, hH⟩ : ∃ H, w.heap.size = H := ⟨_, rfl⟩
  obtain ⟨str, hstr⟩ : ∃ str, st e.2 = str := ⟨_, rfl⟩
  have h1 := h.alloc (.cells z5 43)
  have hC := Cells.new w z5 43
  have d8 : (w.alloc (.cells z5 43)).cell? ⟨W, 8, none⟩ = some (.int .i64 2) := by have := h1.wc.a8; rw [he, show ev0 (some e) = 2 from hk0] at this; exact this
  have d9 : (w.alloc (.cells z5 43)).cell? ⟨W, 9, none⟩ = some (.int .u8 k1) := by have := h1.wc.a9; rw [he, show ev1 (some e) = k1 from hk1] at this; exact this
  have d10 : (w.alloc (.cells z5 43)).cell? ⟨W, 10, none⟩ = some (.int .i64 k2) := by have := h1.wc.a10; rw [he, show ev2 (some e) = k2 from hk2] at this; exact this
  have d11 := h1.wc.a11
  have d12 : (w.alloc (.cells z5 43)).cell? ⟨W, 12, none⟩ = some (.string str) := by have := h1.wc.a12; rw [he, show st (ev4 (some e)) = str from hstr] at this; exact this
  have y8 := h1.wc.fz 8
  have y9 := h1.wc.fz 9
  have y10 := h1.wc.fz 10
  have y11 := h1.wc.fz 11
  have y12 := h1.wc.fz 12
  have hfw : Fw lo hi w (w.alloc (.cells z5 43)) := Fw.of_below ((Below.refl _ w).alloc (Nat.le_refl _) _) (Nat.le_refl _)
  have hhs := h.hs
  have hsz : (w.alloc (.cells z5 43)).heap.size = H + 1 := by rw [← hH]; simp
  rw [hH] at hC hhs
  obtain ⟨w1, hw1⟩ : ∃ w1, w.alloc (.cells z5 43) = w1 := ⟨_, rfl⟩
  rw [hw1] at hC d8 d9 d10 d11 d12 y8 y9 y10 y11 y12 h1 hfw hsz
  have hr : gevv e.1 e.2 = #[.int .i64 2, .int .u8 k1, .int .i64 k2, .int .i64 0, .string str] := by unfold gevv; rw [hk0, hk1, hk2, hstr]
  rw [hr]
  have A1 : Aside (Wk w1 lo hi B D b R W A c n I cf q ∧ Cells w1 H z5 43 ∧ Fw lo hi w w1 ∧ hi ≤ H ∧ w1.heap.size = H + 1) := ⟨h1, hC, hfw, hhs, hsz⟩
  have AH : Aside (w.heap.size = H) := hH
  clear h h1 hC hfw hhs he hk0 hk1 hk2 hstr hr
  unfold z5 at hw1
  go_enter Tryz.func20, Tryz.ntmps20
  go_upto_region 1 with fail
  clear hw1
  clear hH
  go_upto_region 4 with fail
  have k2w := A1.out.1.alloc (.cells #[.int .i64 2, .int .u8 k1, .int .i64 k2, .int .i64 0, .string str] 43)
  have c2H := (A1.out.2.1).alloc (.cells #[.int .i64 2, .int .u8 k1, .int .i64 k2, .int .i64 0, .string str] 43)
  have c2J := Cells.new w1 #[.int .i64 2, .int .u8 k1, .int .i64 k2, .int .i64 0, .string str] 43
  rw [A1.out.2.2.2.2] at c2J
  have f2 : Fw lo hi w1 (w1.alloc (.cells #[.int .i64 2, .int .u8 k1, .int .i64 k2, .int .i64 0, .string str] 43)) := Fw.of_below ((Below.refl _ w1).alloc (Nat.le_refl _) _) (Nat.le_refl _)
  obtain ⟨w2, hw2⟩ : ∃ w2, w1.alloc (.cells #[.int .i64 2, .int .u8 k1, .int .i64 k2, .int .i64 0, .string str] 43) = w2 := ⟨_, rfl⟩
  rw [hw2] at k2w c2H c2J f2 ⊢
  have o3 := only5 W w2 (.int .i64 0) (.int .u8 0) (.int .i64 0) (.int .i64 0) (.string ⟨#[]⟩)
  have k3 : Wk (((((w2.setCell ⟨W, 8, none⟩ (.int .i64 0)).setCell ⟨W, 9, none⟩ (.int .u8 0)).setCell ⟨W, 10, none⟩ (.int .i64 0)).setCell ⟨W, 11, none⟩ (.int .i64 0)).setCell ⟨W, 12, none⟩ (.string ⟨#[]⟩)) lo hi B D b R W A { c with ev := none } n I cf q := k2w.set o3 (k2w.wc.sev none) rfl
  have hWH : W ≠ H ∧ W ≠ H + 1 := by have := A1.out.1.g.hW; have := A1.out.2.2.2.1; omega
  have c3H := Cells.only c2H o3 (Ne.symm hWH.1)
  have c3J := Cells.only c2J o3 (Ne.symm hWH.2)
  have f3 := f2.trans (k2w.fw o3)
  have d8 := k2w.wc.a8
  have d9 := k2w.wc.a9
  have d10 := k2w.wc.a10
  have d11 := k2w.wc.a11
  have d12 := k2w.wc.a12
  have y8 := k2w.wc.fz 8
  have y9 := k2w.wc.fz 9
  have y10 := k2w.wc.fz 10
  have y11 := k2w.wc.fz 11
  have y12 := k2w.wc.fz 12
  have A3 : Aside (Wk (((((w2.setCell ⟨W, 8, none⟩ (.int .i64 0)).setCell ⟨W, 9, none⟩ (.int .u8 0)).setCell ⟨W, 10, none⟩ (.int .i64 0)).setCell ⟨W, 11, none⟩ (.int .i64 0)).setCell ⟨W, 12, none⟩ (.string ⟨#[]⟩)) lo hi B D b R W A { c with ev := none } n I cf q ∧ Cells (((((w2.setCell ⟨W, 8, none⟩ (.int .i64 0)).setCell ⟨W, 9, none⟩ (.int .u8 0)).setCell ⟨W, 10, none⟩ (.int .i64 0)).setCell ⟨W, 11, none⟩ (.int .i64 0)).setCell ⟨W, 12, none⟩ (.string ⟨#[]⟩)) H z5 43 ∧ Cells (((((w2.setCell ⟨W, 8, none⟩ (.int .i64 0)).setCell ⟨W, 9, none⟩ (.int .u8 0)).setCell ⟨W, 10, none⟩ (.int .i64 0)).setCell ⟨W, 11, none⟩ (.int .i64 0)).setCell ⟨W, 12, none⟩ (.string ⟨#[]⟩)) (H + 1) #[.int .i64 2, .int .u8 k1, .int .i64 k2, .int .i64 0, .string str] 43 ∧ Fw lo hi w (((((w2.setCell ⟨W, 8, none⟩ (.int .i64 0)).setCell ⟨W, 9, none⟩ (.int .u8 0)).setCell ⟨W, 10, none⟩ (.int .i64 0)).setCell ⟨W, 11, none⟩ (.int .i64 0)).setCell ⟨W, 12, none⟩ (.string ⟨#[]⟩))) := ⟨k3, c3H, c3J, A1.out.2.2.1.trans f3⟩
  clear k2w c2H c2J f2 hw2 o3 k3 c3H c3J f3
  go_upto_region 5 with fail
  obtain ⟨w3, hw3⟩ : ∃ w3, (((((w2.setCell ⟨W, 8, none⟩ (.int .i64 0)).setCell ⟨W, 9, none⟩ (.int .u8 0)).setCell ⟨W, 10, none⟩ (.int .i64 0)).setCell ⟨W, 11, none⟩ (.int .i64 0)).setCell ⟨W, 12, none⟩ (.string ⟨#[]⟩)) = w3 := ⟨_, rfl⟩
  rw [hw3] at A3 ⊢
  clear hw3 d8 d9 d10 d11 d12 y8 y9 y10 y11 y12
  have A4 : Aside (Wk w3 lo hi B D b R W A { c with ev := none } n I cf q ∧ Cells w3 H z5 43 ∧ Cells w3 (H + 1) #[.int .i64 2, .int .u8 k1, .int .i64 k2, .int .i64 0, .string str] 43 ∧ Fw lo hi w w3 ∧ hi ≤ H) := ⟨A3.out.1, A3.out.2.1, A3.out.2.2.1, A3.out.2.2.2, A1.out.2.2.2.1⟩
  have g0 : w3.cell? ⟨H + 1, 0, none⟩ = some (.int .i64 2) := (A4.out.2.2.1.cell 0).trans rfl
  clear A3 A1
  go_upto_region 7 with (go_at_call 31; refine (ka _ A4.out.1).mono ?_; rintro r4 w4 ⟨rfl, h4, f4⟩)
  have A5 : Aside (Wa w4 lo hi B D b R W A { c with ev := none } n I o yF ∧ Cells w4 H z5 43 ∧ Cells w4 (H + 1) #[.int .i64 2, .int .u8 k1, .int .i64 k2, .int .i64 0, .string str] 43 ∧ Fw lo hi w w4 ∧ hi ≤ H) := ⟨h4, A4.out.2.1.fw f4 A4.out.2.2.2.2, A4.out.2.2.1.fw f4 (by have := A4.out.2.2.2.2; omega), A4.out.2.2.2.1.trans f4, A4.out.2.2.2.2⟩
  clear h4 f4 g0 A4 ka
  have g0 : w4.cell? ⟨H + 1, 0, none⟩ = some (.int .i64 2) := (A5.out.2.2.1.cell 0).trans rfl
  have g1 : w4.cell? ⟨H + 1, 1, none⟩ = some (.int .u8 k1) := (A5.out.2.2.1.cell 1).trans rfl
  have g2 : w4.cell? ⟨H + 1, 2, none⟩ = some (.int .i64 k2) := (A5.out.2.2.1.cell 2).trans rfl
  have g3 : w4.cell? ⟨H + 1, 3, none⟩ = some (.int .i64 0) := (A5.out.2.2.1.cell 3).trans rfl
  have g4 : w4.cell? ⟨H + 1, 4, none⟩ = some (.string str) := (A5.out.2.2.1.cell 4).trans rfl
  have e0 : w4.cell? ⟨H, 0, none⟩ = some (.int .i64 0) := (A5.out.2.1.cell 0).trans rfl
  have e1 : w4.cell? ⟨H, 1, none⟩ = some (.int .u8 0) := (A5.out.2.1.cell 1).trans rfl
  have e2 : w4.cell? ⟨H, 2, none⟩ = some (.int .i64 0) := (A5.out.2.1.cell 2).trans rfl
  have e3 : w4.cell? ⟨H, 3, none⟩ = some (.int .i64 0) := (A5.out.2.1.cell 3).trans rfl
  have e4 : w4.cell? ⟨H, 4, none⟩ = some (.string ⟨#[]⟩) := (A5.out.2.1.cell 4).trans rfl
  have z0 := A5.out.2.1.frozen 0
  have z1 := A5.out.2.1.frozen 1
  have z2 := A5.out.2.1.frozen 2
  have z3 := A5.out.2.1.frozen 3
  have z4 := A5.out.2.1.frozen 4
  go_wp2_with fail
  (try simp only [Exit.inBlock, Exit.then])
  obtain ⟨a1, a2, a3, a4, a5⟩ := A5.out
  have hC2 := set5 a2 (.int .i64 2) (.int .u8 k1) (.int .i64 k2) (.int .i64 0) (.string str)
  have o5 := only_five H w4 (.int .i64 2) (.int .u8 k1) (.int .i64 k2) (.int .i64 0) (.string str)
  refine bodyPost_ret (v := .tuple #[.agg #[.int .i64 2, .int .u8 k1, .int .i64 k2, .int .i64 0, .string str], .bool true]) ?_ rfl ?_
  · rw [results_cell_tmp rfl]
    simp [asAddr, Result.andThen, ret43 hC2 rfl]
  · exact ⟨rfl, a1.var a5 a2 o5, a4.var AH.out o5⟩
end
end Go.Proofs.YtogednaamndpgaaGreatDoor

/-
  The walker's calls Reset and New.
-/
namespace Go.Proofs.YtogednaamndpgaaGreatDoor
open Go.RowKit
set_option linter.unusedVariables false
theorem made_name : ∃ cur : Array Value, cur.size = 256 ∧ ∀ X : World, (Instr.makeSlice 22 (.int .i64 0) (.int .i64 256)).run Tryz.prog X = .ok (.slice (some ⟨X.heap.size, 0, none⟩) 0 256) (X.alloc (.cells cur 5)) := by
  obtain ⟨i, hi, hz, hs, hb⟩ := ginfo_parts ginfo5
  refine ⟨madeCells (Value.int .u8 0).cells ((256 : Int).toNat * 1), ?_, fun X => ?_⟩
  · show (madeCells #[Value.int .u8 0] _).size = _
    rw [← Array.length_toList, toList_madeCells_one]
    exact (List.length_replicate ..).trans rfl
  · have := run_make (P := Tryz.prog) X 22 5 i _ Tryz.underlying22 hi hz .i64 .i64 0 256 (by omega) (by omega) (by rw [hb]; omega) (by omega)
    rw [hs] at this
    exact this
/-- The walker's cells, without a step. -/
def wzero (D A : Nat) (v : Value) : Array Value := #[.pointer (some ⟨D, 0, none⟩), v, .int .u8 0, .slice (some ⟨A, 0, none⟩) 0 256, .int .i64 0, .int .u32 0, .int .u32 0, .int .u32 0, .int .i64 0, .int .u8 0, .int .i64 0, .int .i64 0, .string ⟨#[]⟩, .bool false, .bool false, .int .i64 0]
section
variable {lo hi B D b R W A : Nat} {n I o : List Nat} {cf yF : Cfg} {q : Md} {s : Gs} {c : Gc}
theorem Wk.clear2 {w u : World} {c' : Gc} (h : Wk w lo hi B D b R W A c n I cf q) (o : Only W w u) (hc : Wc u W D A c') (hn : c'.nl = 0) : Wk u lo hi B D b R W A c' [] I cf q := by
  have g := h.g
  have hk : Kq B w u := ⟨Nat.le_of_eq o.size.symm, fun k hk => by
    by_cases e : k = W
    · subst e
      exact Or.inr ⟨by have := g.l8; have := g.lW; omega, g.WB, _, 65, _, h.wc, Or.inr (Or.inl rfl)⟩
    · exact Or.inl (o.block k e)⟩
  exact ⟨g, hc, hn, h.nm.none_.keep (o.block A (fun e => g.WA e.symm)), h.inf.kq hk, h.tab.kq hk, by rw [o.size]; exact h.hs⟩
theorem set16 {w : World} {W : Nat} {a0 a1 a2 a3 a4 a5 a6 a7 a8 a9 a10 a11 a12 a13 a14 a15 : Value} (h : Cells w W #[a0, a1, a2, a3, a4, a5, a6, a7, a8, a9, a10, a11, a12, a13, a14, a15] 65) (b0 b1 b2 b3 b4 b5 b6 b7 b8 b9 b10 b11 b12 b13 b14 b15 : Value) : Cells ((((((((((((((((w.setCell ⟨W, 0, none⟩ b0).setCell ⟨W, 1, none⟩ b1).setCell ⟨W, 2, none⟩ b2).setCell ⟨W, 3, none⟩ b3).setCell ⟨W, 4, none⟩ b4).setCell ⟨W, 5, none⟩ b5).setCell ⟨W, 6, none⟩ b6).setCell ⟨W, 7, none⟩ b7).setCell ⟨W, 8, none⟩ b8).setCell ⟨W, 9, none⟩ b9).setCell ⟨W, 10, none⟩ b10).setCell ⟨W, 11, none⟩ b11).setCell ⟨W, 12, none⟩ b12).setCell ⟨W, 13, none⟩ b13).setCell ⟨W, 14, none⟩ b14).setCell ⟨W, 15, none⟩ b15) W #[b0, b1, b2, b3, b4, b5, b6, b7, b8, b9, b10, b11, b12, b13, b14, b15] 65 := by
  have := ((((((((((((((((h.set 0 b0).set 1 b1).set 2 b2).set 3 b3).set 4 b4).set 5 b5).set 6 b6).set 7 b7).set 8 b8).set 9 b9).set 10 b10).set 11 b11).set 12 b12).set 13 b13).set 14 b14).set 15 b15)
  simpa using this
theorem only16 (w : World) (W : Nat) (b0 b1 b2 b3 b4 b5 b6 b7 b8 b9 b10 b11 b12 b13 b14 b15 : Value) : Only W w ((((((((((((((((w.setCell ⟨W, 0, none⟩ b0).setCell ⟨W, 1, none⟩ b1).setCell ⟨W, 2, none⟩ b2).setCell ⟨W, 3, none⟩ b3).setCell ⟨W, 4, none⟩ b4).setCell ⟨W, 5, none⟩ b5).setCell ⟨W, 6, none⟩ b6).setCell ⟨W, 7, none⟩ b7).setCell ⟨W, 8, none⟩ b8).setCell ⟨W, 9, none⟩ b9).setCell ⟨W, 10, none⟩ b10).setCell ⟨W, 11, none⟩ b11).setCell ⟨W, 12, none⟩ b12).setCell ⟨W, 13, none⟩ b13).setCell ⟨W, 14, none⟩ b14).setCell ⟨W, 15, none⟩ b15) := (((((((((((((((((Only.refl W w).setCell 0 _).setCell 1 _).setCell 2 _).setCell 3 _).setCell 4 _).setCell 5 _).setCell 6 _).setCell 7 _).setCell 8 _).setCell 9 _).setCell 10 _).setCell 11 _).setCell 12 _).setCell 13 _).setCell 14 _).setCell 15 _)
theorem reset_mid {w : World} (h : Wk w lo hi B D b R W A c n I cf q) (u : World) (hu : ((((((((((((((((w.setCell ⟨W, 0, none⟩ (.pointer (some ⟨D, 0, none⟩))).setCell ⟨W, 1, none⟩ (.nilFunc)).setCell ⟨W, 2, none⟩ (.int .u8 0)).setCell ⟨W, 3, none⟩ (.slice (some ⟨A, 0, none⟩) 0 256)).setCell ⟨W, 4, none⟩ (.int .i64 0)).setCell ⟨W, 5, none⟩ (.int .u32 0)).setCell ⟨W, 6, none⟩ (.int .u32 0)).setCell ⟨W, 7, none⟩ (.int .u32 0)).setCell ⟨W, 8, none⟩ (.int .i64 0)).setCell ⟨W, 9, none⟩ (.int .u8 0)).setCell ⟨W, 10, none⟩ (.int .i64 0)).setCell ⟨W, 11, none⟩ (.int .i64 0)).setCell ⟨W, 12, none⟩ (.string ⟨#[]⟩)).setCell ⟨W, 13, none⟩ (.bool false)).setCell ⟨W, 14, none⟩ (.bool false)).setCell ⟨W, 15, none⟩ (.int .i64 0)) = u) : Cells u W (wzero D A .nilFunc) 65 ∧ Only W w u := by
  have hc := set16 (show Cells w W #[_, _, _, _, _, _, _, _, _, _, _, _, _, _, _, _] 65 from h.wc) (.pointer (some ⟨D, 0, none⟩)) (.nilFunc) (.int .u8 0) (.slice (some ⟨A, 0, none⟩) 0 256) (.int .i64 0) (.int .u32 0) (.int .u32 0) (.int .u32 0) (.int .i64 0) (.int .u8 0) (.int .i64 0) (.int .i64 0) (.string ⟨#[]⟩) (.bool false) (.bool false) (.int .i64 0)
  have o0 := only16 w W (.pointer (some ⟨D, 0, none⟩)) (.nilFunc) (.int .u8 0) (.slice (some ⟨A, 0, none⟩) 0 256) (.int .i64 0) (.int .u32 0) (.int .u32 0) (.int .u32 0) (.int .i64 0) (.int .u8 0) (.int .i64 0) (.int .i64 0) (.string ⟨#[]⟩) (.bool false) (.bool false) (.int .i64 0)
  rw [hu] at hc o0
  exact ⟨hc, o0⟩
theorem reset_fin {w u : World} (h : Wk w lo hi B D b R W A c n I cf q) (hc : Cells u W (wzero D A .nilFunc) 65) (o0 : Only W w u) : Wk (u.drew.setCell ⟨W, 1, none⟩ (fnv W 29)) lo hi B D b R W A (gcof s0 none) [] I cf q ∧ Fw lo hi w (u.drew.setCell ⟨W, 1, none⟩ (fnv W 29)) := by
  have o1 : Only W w u.drew := ⟨o0.os, o0.tape, o0.output, o0.size, o0.block⟩
  have hc2 : Cells (u.drew.setCell ⟨W, 1, none⟩ (fnv W 29)) W (wcs W D A (gcof s0 none)) 65 := Cells.set (Cells.drew hc) 1 _
  exact ⟨h.clear2 (o1.setCell 1 _) hc2 rfl, h.fw (o1.setCell 1 _)⟩
set_option maxHeartbeats 2000000 in
theorem wreset_c (w : World) (hw : Wk w lo hi B D b R W A c n I cf q) : Calls Tryz.prog 16 #[.pointer (some ⟨W, 0, none⟩)] w fun e w' => e = .returned (.tuple #[]) ∧ Wk w' lo hi B D b R W A (gcof s0 none) [] I cf q ∧ Fw lo hi w w' := by
  have d0 := hw.wc.a0
  have d1 := hw.wc.a1
  have d2 := hw.wc.a2
  have d3 := hw.wc.a3
  have d4 := hw.wc.a4
  have d5 := hw.wc.a5
  have d6 := hw.wc.a6
  have d7 := hw.wc.a7
  have d8 := hw.wc.a8
  have d9 := hw.wc.a9
  have d10 := hw.wc.a10
  have d11 := hw.wc.a11
  have d12 := hw.wc.a12
  have d13 := hw.wc.a13
  have d14 := hw.wc.a14
  have d15 := hw.wc.a15
  have z0 := hw.wc.fz 0
  have z1 := hw.wc.fz 1
  have z2 := hw.wc.fz 2
  have z3 := hw.wc.fz 3
  have z4 := hw.wc.fz 4
  have z5 := hw.wc.fz 5
  have z6 := hw.wc.fz 6
  have z7 := hw.wc.fz 7
  have z8 := hw.wc.fz 8
  have z9 := hw.wc.fz 9
  have z10 := hw.wc.fz 10
  have z11 := hw.wc.fz 11
  have z12 := hw.wc.fz 12
  have z13 := hw.wc.fz 13
  have z14 := hw.wc.fz 14
  have z15 := hw.wc.fz 15
  have AW : Aside (Wk w lo hi B D b R W A c n I cf q) := hw
  clear hw
  go_enter Tryz.func16, Tryz.ntmps16
  go_upto_region 1 with fail
  go_region
  obtain ⟨u, hu⟩ : ∃ u, ((((((((((((((((w.setCell ⟨W, 0, none⟩ (.pointer (some ⟨D, 0, none⟩))).setCell ⟨W, 1, none⟩ (.nilFunc)).setCell ⟨W, 2, none⟩ (.int .u8 0)).setCell ⟨W, 3, none⟩ (.slice (some ⟨A, 0, none⟩) 0 256)).setCell ⟨W, 4, none⟩ (.int .i64 0)).setCell ⟨W, 5, none⟩ (.int .u32 0)).setCell ⟨W, 6, none⟩ (.int .u32 0)).setCell ⟨W, 7, none⟩ (.int .u32 0)).setCell ⟨W, 8, none⟩ (.int .i64 0)).setCell ⟨W, 9, none⟩ (.int .u8 0)).setCell ⟨W, 10, none⟩ (.int .i64 0)).setCell ⟨W, 11, none⟩ (.int .i64 0)).setCell ⟨W, 12, none⟩ (.string ⟨#[]⟩)).setCell ⟨W, 13, none⟩ (.bool false)).setCell ⟨W, 14, none⟩ (.bool false)).setCell ⟨W, 15, none⟩ (.int .i64 0)) = u := ⟨_, rfl⟩
  have hm := reset_mid AW.out u hu
  have d1' : u.cell? ⟨W, 1, none⟩ = some .nilFunc := (hm.1.cell 1).trans rfl
  have z1' : u.frozen? ⟨W, 1, none⟩ = false := hm.1.frozen 1
  have AM : Aside (Cells u W (wzero D A .nilFunc) 65 ∧ Only W w u) := hm
  rw [hu]
  clear hu hm d0 d1 d2 d3 d4 d5 d6 d7 d8 d9 d10 d11 d12 d13 d14 d15 z0 z1 z2 z3 z4 z5 z6 z7 z8 z9 z10 z11 z12 z13 z14 z15
  go_wp2_with fail
  first | go_end0 | (refine bodyPost_ret (results_none rfl _ _ _) rfl ?_)
  exact ⟨rfl, reset_fin AW.out AM.out.1 AM.out.2⟩
end
end Go.Proofs.YtogednaamndpgaaGreatDoor

/-
  A new walker.
-/
namespace Go.Proofs.YtogednaamndpgaaGreatDoor
open Go.RowKit
set_option linter.unusedVariables false
section
variable {lo hi B D b R W A : Nat} {n I o : List Nat} {cf yF : Cfg} {q : Md} {s : Gs} {c : Gc}
/-- A walker without a step yet. -/
structure Wj (w u : World) (v : Value) : Prop where
  ex : ∃ B W A, v = .pointer (some ⟨W, 0, none⟩) ∧ Wg w.heap.size (W + 1) B W A ∧ Cells u W (wzero (B + 3) A .nilFunc) 65 ∧ Nm u A [] ∧ Inf u B (B + 3) (B + 2) (B + 1) [] MM c0 .want ∧ Below w.heap.size w u ∧ u.heap.size = W + 1
theorem inf_alloc {w : World} {M : Nat} (h : Inf w B D b R I M cf q) (ob : Obj) : Inf (w.alloc ob) B D b R I M cf q := h.kq (Kq.of_below ((Below.refl _ w).alloc (Nat.le_refl _) _) (Nat.le_refl _))
theorem new_1 {w w1 : World} {cur : Array Value} (h8 : 8 ≤ w.heap.size) (hcur : cur.size = 256) (h : Inf w1 w.heap.size (w.heap.size + 3) (w.heap.size + 2) (w.heap.size + 1) [] MM c0 .want) (k : Below w.heap.size w w1) : Wj w ((w1.alloc (.cells cur 5)).alloc (.cells (wzero (w.heap.size + 3) w1.heap.size .nilFunc) 65)) (.pointer (some ⟨w1.heap.size + 1, 0, none⟩)) := by
  have hl := h.lt
  have e1 : (w1.alloc (.cells cur 5)).heap.size = w1.heap.size + 1 := by simp
  have c1 : Cells (w1.alloc (.cells cur 5)) w1.heap.size cur 5 := Cells.new w1 cur 5
  have c2 := Cells.new (w1.alloc (.cells cur 5)) (wzero (w.heap.size + 3) w1.heap.size .nilFunc) 65
  rw [e1] at c2
  refine ⟨w.heap.size, w1.heap.size + 1, w1.heap.size, rfl, ⟨h8, Nat.le_refl _, by omega, by omega, by omega, by omega, by omega, by omega, Or.inr (by omega), Or.inr hl⟩, c2, ⟨Nat.zero_le _, cur, c1.alloc _, hcur, rfl⟩, inf_alloc (inf_alloc h _) _, ?_, ?_⟩
  · exact (k.alloc (by omega) _).alloc (by omega) _
  · simp
theorem new_2 {w w1 : World} {cur : Array Value} (h8 : 8 ≤ w.heap.size) (hcur : cur.size = 256) (h : Inf w1 (w.heap.size + 1) (w.heap.size + 1 + 3) (w.heap.size + 1 + 2) (w.heap.size + 1 + 1) [] MM c0 .want) (k : Below (w.heap.size + 1) (w.alloc (.cells cur 5)) w1) : Wj w (w1.alloc (.cells (wzero (w.heap.size + 1 + 3) w.heap.size .nilFunc) 65)) (.pointer (some ⟨w1.heap.size, 0, none⟩)) := by
  have hl := h.lt
  have c1 : Cells (w.alloc (.cells cur 5)) w.heap.size cur 5 := Cells.new w cur 5
  have c2 := Cells.new w1 (wzero (w.heap.size + 1 + 3) w.heap.size .nilFunc) 65
  have c3 := Cells.below c1 k (by omega)
  refine ⟨w.heap.size + 1, w1.heap.size, w.heap.size, rfl, ⟨h8, by omega, by omega, by omega, by omega, by omega, by omega, by omega, Or.inr (by omega), Or.inl (by omega)⟩, c2, ⟨Nat.zero_le _, cur, c3.alloc _, hcur, rfl⟩, inf_alloc h _, ?_, ?_⟩
  · have k2 : Below w.heap.size w w1 := ((Below.refl _ w).alloc (Nat.le_refl _) _).trans ⟨k.os, k.tape, k.output, k.size, fun i hi => k.block i (by omega)⟩
    exact k2.alloc (by omega) _
  · simp
theorem Wj.drew {w u : World} {v : Value} (h : Wj w u v) : Wj w u.drew v := by
  obtain ⟨B, W, A, h1, h2, h3, h4, h5, h6, h7⟩ := h.ex
  exact ⟨B, W, A, h1, h2, h3, h4, h5.kq ⟨Nat.le_refl _, fun k _ => Or.inl rfl⟩, ⟨h6.os, h6.tape, h6.output, h6.size, h6.block⟩, h7⟩
theorem new_3 {u : World} (g : Wg lo (W + 1) B W A) (h : Cells u W (wzero (B + 3) A .nilFunc) 65) (hn : Nm u A []) (hi : Inf u B (B + 3) (B + 2) (B + 1) [] MM c0 .want) (ht : Ctab u) (hs : u.heap.size = W + 1) : Wk (u.setCell ⟨W, 1, none⟩ (fnv W 29)) lo (W + 1) B (B + 3) (B + 2) (B + 1) W A (gcof s0 none) [] [] c0 .want := by
  have o : Only W u (u.setCell ⟨W, 1, none⟩ (fnv W 29)) := (Only.refl W u).setCell 1 _
  have hk : Kq B u (u.setCell ⟨W, 1, none⟩ (fnv W 29)) := ⟨Nat.le_of_eq o.size.symm, fun k hk => by
    by_cases e : k = W
    · subst e
      exact Or.inr ⟨by have := g.l8; have := g.lW; omega, g.WB, _, 65, _, h, Or.inr (Or.inl rfl)⟩
    · exact Or.inl (o.block k e)⟩
  exact ⟨g, Cells.set h 1 _, rfl, hn.keep (o.block A (fun e => g.WA e.symm)), hi.kq hk, ht.kq hk, by rw [o.size, hs]; exact Nat.le_refl _⟩
set_option maxHeartbeats 2000000 in
theorem wnew_c (w : World) (ht : Tabs w) (hc : Ctab w) (h8 : 8 ≤ w.heap.size) : Calls Tryz.prog 14 #[] w fun e w' => ∃ B W A, e = .returned (.pointer (some ⟨W, 0, none⟩)) ∧ Wk w' w.heap.size (W + 1) B (B + 3) (B + 2) (B + 1) W A (gcof s0 none) [] [] c0 .want ∧ Below w.heap.size w w' := by
  obtain ⟨cur, hcur, hmk⟩ := made_name
  have kn := fun (X : World) (h : Tabs X) => new_i MM X h
  have AT : Aside (Tabs w ∧ Ctab w ∧ 8 ≤ w.heap.size ∧ cur.size = 256) := ⟨ht, hc, h8, hcur⟩
  have AB : Aside (∀ X, Below w.heap.size w X → Tabs X) := fun X k => ht.below k h8
  clear ht hc h8 hcur
  go_enter Tryz.func14, Tryz.ntmps14
  go_upto_region 1 with fail
  go_cut [1] (fun v wc => Wj w wc v)
  case first =>
    go_region_with (first | (go_at_call 28; refine (kn _ (AB.out _ (by first | exact Below.refl _ w | exact Below.drewN2 (Below.refl _ w) 1 | exact (Below.refl _ w).drew | exact (Below.refl _ w).alloc (Nat.le_refl _) _ | exact ((Below.refl _ w).alloc (Nat.le_refl _) _).drew))).mono ?_; rintro e1 w1 ⟨rfl, i1, b1⟩))
    · go_wp2_with fail
      go_meet
      first | exact new_1 AT.out.2.2.1 AT.out.2.2.2 i1 ⟨b1.os, b1.tape, b1.output, b1.size, b1.block⟩ | exact (new_1 AT.out.2.2.1 AT.out.2.2.2 i1 ⟨b1.os, b1.tape, b1.output, b1.size, b1.block⟩).drew
    · go_wp2_with fail
      go_meet
      have e : (w.alloc (.cells cur 5)).heap.size = w.heap.size + 1 := by simp
      have i2 : Inf w1 (w.heap.size + 1) (w.heap.size + 1 + 3) (w.heap.size + 1 + 2) (w.heap.size + 1 + 1) [] MM c0 .want := e ▸ i1
      have b2 : Below (w.heap.size + 1) (w.alloc (.cells cur 5)) w1 := by
        have b3 : Below (w.alloc (.cells cur 5)).heap.size (w.alloc (.cells cur 5)) w1 := ⟨b1.os, b1.tape, b1.output, b1.size, b1.block⟩
        rwa [e] at b3
      first | exact new_2 AT.out.2.2.1 AT.out.2.2.2 i2 b2 | exact (new_2 AT.out.2.2.1 AT.out.2.2.2 i2 b2).drew
  case rest =>
    obtain ⟨B, W, A, rfl, hg, hc1, hn1, hi1, hb1, hs1⟩ := hcut.ex
    have d1 : wc.cell? ⟨W, 1, none⟩ = some .nilFunc := (hc1.cell 1).trans rfl
    have z1 : wc.frozen? ⟨W, 1, none⟩ = false := hc1.frozen 1
    have AR : Aside (Wg w.heap.size (W + 1) B W A ∧ Cells wc W (wzero (B + 3) A .nilFunc) 65 ∧ Nm wc A [] ∧ Inf wc B (B + 3) (B + 2) (B + 1) [] MM c0 .want ∧ Below w.heap.size w wc ∧ wc.heap.size = W + 1) := ⟨hg, hc1, hn1, hi1, hb1, hs1⟩
    clear hcut hg hc1 hn1 hi1 hb1 hs1 kn hmk AB
    go_wp2_with fail
    first | go_ret | go_ret2
    obtain ⟨g, a2, a3, a4, a5, a6⟩ := AR.out
    refine ⟨B, W, A, rfl, new_3 g a2 a3 a4 (AT.out.2.1.below a5 (by have := AT.out.2.2.1; omega)) a6, ?_⟩
    have o : Only W wc (wc.setCell ⟨W, 1, none⟩ (fnv W 29)) := (Only.refl W wc).setCell 1 _
    exact a5.trans (o.below g.lW)
end
end Go.Proofs.YtogednaamndpgaaGreatDoor

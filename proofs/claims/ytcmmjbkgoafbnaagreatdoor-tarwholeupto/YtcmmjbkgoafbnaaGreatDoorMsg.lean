/-
  A header and its data through the machine. No walk.
-/
import Derived.Test.YtcmmjbkgoafbnaaGreatDoorMrc
import Derived.Test.YtcmmjbkgoafbnaaGreatDoorTev
namespace Go.Proofs.YtcmmjbkgoafbnaaGreatDoor
set_option linter.unusedVariables false
set_option linter.unusedSimpArgs false
/-- At a header's first byte, with what is to come. -/
structure Sd (c : Cm) (s : Ts) : Prop where
  wh : s.wh = 0
  ps : s.ps = 0
  why : s.why = 0
  bl : s.B.length = 512
  kl : s.K.length = 1024
  cm : (s.nm, s.sz) = c
theorem sd0 : Sd (none, none) t0 := ⟨rfl, rfl, rfl, List.length_replicate, List.length_replicate, rfl⟩
/-- What data tells. -/
def dte (us : Nat) (d : List Nat) : List Evn := if us = 1 then d.map (fun x => (x, [])) ++ [(257, [])] else []
theorem evx_bts (us : Nat) : ∀ (l : List Nat) (t : Nat), evx (bts us t l) = if us = 1 then l.map (fun x => (x, [])) else []
  | [], t => by unfold bts; split <;> rfl
  | x :: l, t => by
    rw [bts_cons, evx_append, evx_evs, evx_bts us l (t + 1)]
    unfold tbt
    split <;> rfl
theorem tfin_low {us : Nat} (h : ¬ 2 ≤ us) (a b : List Nat) (c : Cm) : tfin us a c = tfin us b c := by unfold tfin; rw [if_neg (by omega), if_neg (by omega), if_neg (by omega), if_neg (by omega)]
theorem fil_zero {L : Nat} (h : L % 512 = 0) : fil L = 0 := by unfold fil; rw [h]
theorem fil_more {L : Nat} (h : L % 512 ≠ 0) : L % 512 + fil L = 512 := by
  unfold fil
  have := Nat.mod_lt L (show 0 < 512 by decide)
  rw [Nat.mod_eq_of_lt (a := 512 - L % 512) (by omega)]
  omega
/-- Data, and the bytes behind it to its block's end. -/
theorem seg_data {d : List Nat} {t : Nat} {cc : Cm} {S : Ts} (h0 : S.why = 0) (h1 : S.wh = 1) (hd : d.length = S.lf) (hp : 0 < d.length) (hps : S.ps = 0) (hus : S.us ≤ 3) (hln : 2 ≤ S.us → S.ln = 0) (hK : 2 ≤ S.us → d.length ≤ 1024) (hb : S.B.length = 512) (hk : S.K.length = 1024) (hc : (S.nm, S.sz) = cc) (hf : (tfin S.us d cc).2 = 0) :
    ∃ s' T, Mr t S (wh512 d) s' T ∧ Sd (tfin S.us d cc).1 s' ∧ evx T = dte S.us d := by
  have hr := run_all (l := d) (t := t) h0 h1 hd hp (by omega) hus (fun h => by rw [hln h, ← hd, hk, Nat.zero_add]; exact hK h)
  have hkt : tfin S.us ((tdt d S).K.take (tdt d S).ln) cc = tfin S.us d cc := by
    by_cases h2 : 2 ≤ S.us
    · have hl := hln h2
      have e : tdt d S = { S with K := S.K.take S.ln ++ d ++ S.K.drop (S.ln + d.length), ln := S.ln + d.length, lf := S.lf - d.length, ps := (S.ps + d.length) % 512 } := by unfold tdt; rw [if_pos (by omega)]
      rw [e]
      show tfin S.us ((S.K.take S.ln ++ d ++ S.K.drop (S.ln + d.length)).take (S.ln + d.length)) cc = _
      rw [hl, List.take_zero, List.nil_append, Nat.zero_add, List.take_left]
    · exact tfin_low h2 _ _ _
  have hfld : (tdt d S).us = S.us ∧ (tdt d S).nm = S.nm ∧ (tdt d S).sz = S.sz ∧ (tdt d S).ps = d.length % 512 ∧ (tdt d S).B = S.B ∧ (tdt d S).K.length = 1024 := by
    unfold tdt
    split
    · refine ⟨rfl, rfl, rfl, ?_, rfl, ?_⟩
      · show (S.ps + d.length) % 512 = _; rw [hps, Nat.zero_add]
      · show (S.K.take S.ln ++ d ++ S.K.drop (S.ln + d.length)).length = 1024
        rename_i h2
        have hl := hln (by omega)
        have := hK (by omega)
        rw [hl, List.length_append, List.length_append, List.length_take, List.length_drop, hk]
        omega
    · exact ⟨rfl, rfl, rfl, by show (S.ps + d.length) % 512 = _; rw [hps, Nat.zero_add], rfl, hk⟩
  obtain ⟨f1, f2, f3, f4, f5, f6⟩ := hfld
  obtain ⟨S2, hS2⟩ : ∃ S2, tend { tdt d S with wh := 2 } = S2 := ⟨_, rfl⟩
  have g : S2.wh = 2 ∧ S2.ps = d.length % 512 ∧ S2.why = 0 ∧ S2.B.length = 512 ∧ S2.K.length = 1024 ∧ (S2.nm, S2.sz) = (tfin S.us d cc).1 := by
    rw [← hS2]
    refine ⟨rfl, f4, ?_, by show (tdt d S).B.length = 512; rw [f5]; exact hb, f6, ?_⟩
    · show (tfin (tdt d S).us ((tdt d S).K.take (tdt d S).ln) ((tdt d S).nm, (tdt d S).sz)).2 = 0
      rw [f1, f2, f3, hc, hkt]; exact hf
    · show ((tfin (tdt d S).us ((tdt d S).K.take (tdt d S).ln) ((tdt d S).nm, (tdt d S).sz)).1.1, (tfin (tdt d S).us ((tdt d S).K.take (tdt d S).ln) ((tdt d S).nm, (tdt d S).sz)).1.2) = _
      rw [f1, f2, f3, hc, hkt]
  rw [hS2] at hr
  have hev : evx (bts S.us t d ++ evs (t + d.length - 1) (tcl S.us)) = dte S.us d := by
    rw [evx_append, evx_evs, evx_bts]
    unfold dte tcl
    split <;> rfl
  obtain ⟨g1, g2, g3, g4, g5, g6⟩ := g
  by_cases hm : d.length % 512 = 0
  · have e : tnx S2 = { S2 with wh := 0 } := by unfold tnx; rw [if_pos ⟨g1, by rw [g2, hm]⟩]
    rw [e] at hr
    refine ⟨{ S2 with wh := 0 }, _, ?_, ⟨rfl, by show S2.ps = 0; rw [g2, hm], g3, g4, g5, g6⟩, hev⟩
    unfold wh512
    rw [fil_zero hm, List.replicate_zero, List.append_nil]
    exact hr
  · have e : tnx S2 = S2 := by unfold tnx; rw [if_neg (by rw [g2]; omega)]
    rw [e] at hr
    have hr2 := run_rest (l := List.replicate (fil d.length) 0) (t := t + d.length) (s := S2) g3 g1 (by omega) (by rw [List.length_replicate, g2]; exact fil_more hm) (by rw [g2]; exact Nat.mod_lt _ (by decide))
    refine ⟨{ S2 with ps := 0, wh := 0 }, _, (mr_append _ _ _ _ _ _).2 ⟨_, _, _, hr, hr2, rfl⟩, ⟨rfl, rfl, g3, g4, g5, g6⟩, by rw [List.append_nil]; exact hev⟩
theorem tus_own {k : Nat} (h : 2 ≤ tus k) : (town k || tus k == 0) = false := by
  unfold tus at h ⊢
  by_cases h1 : k = 76
  · subst h1; decide
  · by_cases h2 : k = 120
    · subst h2; decide
    · rw [if_neg h1, if_neg h2] at h
      split at h <;> omega
theorem thead_of {s : Ts} {z k : Nat} (h1 : noughts s.B = false) (h2 : rgt s.B = true) (h3 : fld ((s.B.drop 124).take 12) = some z) (h4 : tkd s.B = k) (h5 : tmuch k z = false) :
    thead s = ((tbeg (tus k) (tsz k z s.sz) { s with ln := if town k || tus k == 0 then s.ln else 0, nm := (tcm k (s.nm, s.sz)).1, sz := (tcm k (s.nm, s.sz)).2 }).1, topn s.B s.nm ++ (tbeg (tus k) (tsz k z s.sz) s).2) := by
  unfold thead
  rw [if_neg (by rw [h1]; decide), if_neg (by rw [h2]; decide), h3]
  simp only [h4, h5, Bool.false_eq_true, if_false]
/-- A header that is written, and its data. -/
theorem seg {n d : List Nat} {z k t : Nat} {c : Cm} {s : Ts} (h : Sd c s) (hn : Oct n) (hk : k < 256) (hz : z < 8589934592) (hm : tmuch k z = false) (hd : d.length = tsz k z c.2) (hK : 2 ≤ tus k → d.length ≤ 1024) (hf : (tfin (tus k) d (tcm k c)).2 = 0) :
    ∃ s' T, Mr t s (hdr n z k ++ wh512 d) s' T ∧ Sd (tfin (tus k) d (tcm k c)).1 s' ∧ evx T = topn (hdr n z k) c.1 ++ dte (tus k) d := by
  have hb := run_block (h := hdr n z k) (t := t) (s := s) h.why h.wh h.ps h.bl (hdr_len _ _ _)
  obtain ⟨cn, cz⟩ := c
  obtain ⟨hc1, hc2⟩ : s.nm = cn ∧ s.sz = cz := by have := h.cm; simpa using this
  have ht : thead { s with B := hdr n z k, ps := 0 } = ((tbeg (tus k) (tsz k z cz) { s with B := hdr n z k, ps := 0, ln := if town k || tus k == 0 then s.ln else 0, nm := (tcm k (cn, cz)).1, sz := (tcm k (cn, cz)).2 }).1, topn (hdr n z k) cn ++ (tbeg (tus k) (tsz k z cz) { s with B := hdr n z k, ps := 0 }).2) := by
    refine (thead_of (s := { s with B := hdr n z k, ps := 0 }) (hdr_some n z k) (hdr_rgt hn hk) (hdr_fld hz) (hdr_kind n z k) hm).trans ?_
    show ((tbeg (tus k) (tsz k z s.sz) { s with B := hdr n z k, ps := 0, ln := if town k || tus k == 0 then s.ln else 0, nm := (tcm k (s.nm, s.sz)).1, sz := (tcm k (s.nm, s.sz)).2 }).1, topn (hdr n z k) s.nm ++ (tbeg (tus k) (tsz k z s.sz) { s with B := hdr n z k, ps := 0 }).2) = _
    rw [hc1, hc2]
  rw [ht] at hb
  obtain ⟨S1, hS1⟩ : ∃ S1 : Ts, { s with B := hdr n z k, ps := 0, ln := if town k || tus k == 0 then s.ln else 0, nm := (tcm k (cn, cz)).1, sz := (tcm k (cn, cz)).2 } = S1 := ⟨_, rfl⟩
  have g : S1.wh = 0 ∧ S1.ps = 0 ∧ S1.why = 0 ∧ S1.B.length = 512 ∧ S1.K.length = 1024 ∧ (S1.nm, S1.sz) = tcm k (cn, cz) ∧ (2 ≤ tus k → S1.ln = 0) := by
    rw [← hS1]
    refine ⟨h.wh, rfl, h.why, hdr_len _ _ _, h.kl, rfl, fun h2 => ?_⟩
    show (if town k || tus k == 0 then s.ln else 0) = 0
    rw [tus_own h2]; rfl
  rw [hS1] at hb
  obtain ⟨g1, g2, g3, g4, g5, g6, g7⟩ := g
  simp only at hd
  by_cases hz0 : tsz k z cz = 0
  · have hdn : d = [] := List.eq_nil_of_length_eq_zero (by omega)
    subst hdn
    have e1 : ∀ S, tbeg (tus k) (tsz k z cz) S = (tend { S with us := tus k, lf := tsz k z cz }, tcl (tus k)) := fun S => by unfold tbeg; rw [if_pos hz0]
    rw [e1, e1] at hb
    have hkt : tfin (tus k) (S1.K.take S1.ln) (tcm k (cn, cz)) = tfin (tus k) [] (tcm k (cn, cz)) := by
      by_cases h2 : 2 ≤ tus k
      · rw [g7 h2, List.take_zero]
      · exact tfin_low h2 _ _ _
    have hw : tnx (tend { S1 with us := tus k, lf := tsz k z cz }) = tend { S1 with us := tus k, lf := tsz k z cz } := by
      unfold tnx
      rw [if_neg (fun q => by have q1 : S1.wh = 2 := q.1; omega)]
    refine ⟨_, _, by show Mr t s (hdr n z k ++ []) _ _; rw [List.append_nil]; exact hb, ?_, ?_⟩
    · show Sd _ (tnx (tend { S1 with us := tus k, lf := tsz k z cz }))
      rw [hw]
      refine ⟨g1, g2, ?_, g4, g5, ?_⟩
      · show (tfin (tus k) (S1.K.take S1.ln) (S1.nm, S1.sz)).2 = 0
        rw [g6, hkt]; exact hf
      · show ((tfin (tus k) (S1.K.take S1.ln) (S1.nm, S1.sz)).1.1, (tfin (tus k) (S1.K.take S1.ln) (S1.nm, S1.sz)).1.2) = _
        rw [g6, hkt]
    · rw [evx_evs]
      show topn (hdr n z k) cn ++ tcl (tus k) = _
      unfold tcl dte
      split <;> rfl
  · have e1 : ∀ S, tbeg (tus k) (tsz k z cz) S = ({ S with us := tus k, lf := tsz k z cz, wh := 1 }, []) := fun S => by unfold tbeg; rw [if_neg hz0]
    rw [e1, e1] at hb
    rw [tnx_wh (s := ({ S1 with us := tus k, lf := tsz k z cz, wh := 1 } : Ts)) rfl, List.append_nil] at hb
    obtain ⟨s', T, q1, q2, q3⟩ := seg_data (d := d) (t := t + 512) (cc := tcm k (cn, cz)) (S := { S1 with us := tus k, lf := tsz k z cz, wh := 1 }) g3 rfl hd (by omega) g2 (tus_le k) g7 hK g4 g5 g6 hf
    refine ⟨s', _, (mr_append _ _ _ _ _ _).2 ⟨_, _, _, hb, by rw [hdr_len]; exact q1, rfl⟩, q2, ?_⟩
    rw [evx_append, evx_evs, q3]
end Go.Proofs.YtcmmjbkgoafbnaaGreatDoor

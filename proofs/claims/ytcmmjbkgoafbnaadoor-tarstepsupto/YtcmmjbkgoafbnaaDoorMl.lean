/-
  Own texts of this seat, one behind the other: what each says stands ahead of it.
-/
import Derived.Test.YtcmmjbkgoafbnaaDoorMe
import Derived.Test.YtcmmjbkgoafbnaaDoorMf
import Derived.Test.YtcmmjbkgoafbnaaDoorMk
import Derived.BigRegion
import Derived.Deep.RegionLaw
/-
  Entries that are written, through the machine. No walk.
-/
namespace Go.Proofs.YtcmmjbkgoafbnaaDoor
set_option linter.unusedVariables false
set_option linter.unusedSimpArgs false
/-- What an entry tells. -/
def ete (e : Ent) : List Evn := if e.2.2.2 = 0 then (256, nmd e.1) :: (e.2.1.map (fun x => (x, [])) ++ [(257, [])]) else []
def eta : List Ent → List Evn
  | [] => []
  | e :: r => ete e ++ eta r
theorem oct_x : Oct [120] := fun x hx => by simp at hx; omega
theorem other_run {n d : List Nat} {z k t : Nat} {s : Ts} (h : Sd (none, none) s) (hn : Oct n) (hk : k = 75 ∨ k = 103) (hz : z < 8589934592) (hd : d.length = z) : ∃ s' T, Mr t s (hdr n z k ++ wh512 d) s' T ∧ Sd (none, none) s' ∧ evx T = [] := by
  have hu : tus k = 0 := by rcases hk with rfl | rfl <;> rfl
  have ho : town k = false := by rcases hk with rfl | rfl <;> rfl
  have hi : tisf k = false := by rcases hk with rfl | rfl <;> rfl
  have hm : tmuch k z = false := by unfold tmuch; rcases hk with rfl | rfl <;> simp
  have hc : tcm k (none, none) = (none, none) := by unfold tcm; split <;> rfl
  have hs : tsz k z none = z := by unfold tsz; rw [ho, if_neg (by decide)]
  have hf : tfin 0 d (none, none) = ((none, none), 0) := by unfold tfin; rw [if_neg (by decide), if_neg (by decide)]
  obtain ⟨s', T, q1, q2, q3⟩ := seg (n := n) (d := d) (z := z) (k := k) (t := t) h hn (by omega) hz hm (by rw [hd]; exact hs.symm) (fun q => by omega) (by rw [hu, hc, hf])
  rw [hu, hc, hf] at q2
  refine ⟨s', T, q1, q2, ?_⟩
  rw [q3, hu]
  unfold topn dte
  rw [hdr_kind, hi, if_neg (by decide), if_neg (by decide)]
  rfl
theorem file_run {n d : List Nat} {z t : Nat} {cn : Option (List Nat)} {cz : Option Nat} {s : Ts} (h : Sd (cn, cz) s) (hn : Oct n) (hnz : ∀ c ∈ n, c ≠ 0) (hz : z < 8589934592) (hd : d.length = cz.getD z) : ∃ s' T, Mr t s (hdr n z 48 ++ wh512 d) s' T ∧ Sd (none, none) s' ∧ evx T = (256, cn.getD (n.take 100)) :: (d.map (fun x => (x, [])) ++ [(257, [])]) := by
  have hu : tus 48 = 1 := rfl
  have hm : tmuch 48 z = false := by unfold tmuch; simp
  have hc : tcm 48 (cn, cz) = (none, none) := rfl
  have hs : tsz 48 z cz = cz.getD z := rfl
  have hf : tfin 1 d (none, none) = ((none, none), 0) := by unfold tfin; rw [if_neg (by decide), if_neg (by decide)]
  obtain ⟨s', T, q1, q2, q3⟩ := seg (n := n) (d := d) (z := z) (k := 48) (t := t) h hn (by omega) hz hm (by rw [hd]; exact hs.symm) (fun q => by omega) (by rw [hu, hc, hf])
  rw [hu, hc, hf] at q2
  refine ⟨s', T, q1, q2, ?_⟩
  rw [q3, hu]
  unfold topn dte
  rw [hdr_kind, show tisf 48 = true from rfl, if_pos rfl, if_pos rfl, hdr_tnm _ _ hnz]
  rfl
theorem long_run {d : List Nat} {z k t : Nat} {s : Ts} {c : Cm} (h : Sd (none, none) s) (hk : k = 76 ∨ k = 120) (hd : d.length = z) (hz : z ≤ if k = 76 then 257 else 1024) (hf : tfin (tus k) d (none, none) = (c, 0)) : ∃ s' T, Mr t s (hdr [120] z k ++ wh512 d) s' T ∧ Sd c s' ∧ evx T = [] := by
  have ho : town k = false := by rcases hk with rfl | rfl <;> rfl
  have hi : tisf k = false := by rcases hk with rfl | rfl <;> rfl
  have hu : tus k ≠ 1 := by rcases hk with rfl | rfl <;> decide
  have hz2 : z ≤ 1024 := by rcases hk with rfl | rfl <;> simp at hz <;> omega
  have hm : tmuch k z = false := by
    unfold tmuch
    rcases hk with rfl | rfl <;> simp at hz ⊢ <;> omega
  have hc : tcm k (none, none) = (none, none) := by unfold tcm; split <;> rfl
  have hs : tsz k z none = z := by unfold tsz; rw [ho, if_neg (by decide)]
  obtain ⟨s', T, q1, q2, q3⟩ := seg (n := [120]) (d := d) (z := z) (k := k) (t := t) h oct_x (by omega) (by omega) hm (by rw [hd]; exact hs.symm) (fun q => by omega) (by rw [hc, hf])
  rw [hc, hf] at q2
  refine ⟨s', T, q1, q2, ?_⟩
  rw [q3]
  unfold topn dte
  rw [hdr_kind, hi, if_neg (by decide), if_neg hu]
  rfl
/-- What stands ahead of a file's header. -/
theorem ahead_run {n d : List Nat} {hw t : Nat} {s : Ts} (h : Sd (none, none) s) (hn : n.length ≤ 256) (hnz : ∀ c ∈ n, c ≠ 0) (hd : d.length ≤ 100000) (hhw : hw < 4) (h0 : hw = 0 → n.length ≤ 100) : ∃ s' T cn cz, Mr t s (wpr hw n d) s' T ∧ Sd (cn, cz) s' ∧ evx T = [] ∧ cn.getD (n.take 100) = n ∧ cz.getD (if hw = 3 then 7 else d.length) = d.length := by
  have hpl := sad_len2 (k := kpath) (v := n) (by decide) (by omega)
  have hzl := sad_len2 (k := ksize) (v := dgs d.length) (by decide) (by have := dgs_len (n := d.length) (by omega); omega)
  have hc : hw = 0 ∨ hw = 1 ∨ hw = 2 ∨ hw = 3 := by omega
  rcases hc with rfl | rfl | rfl | rfl
  · refine ⟨s, [], none, none, ⟨rfl, rfl⟩, h, rfl, ?_, rfl⟩
    show n.take 100 = n
    exact List.take_of_length_le (h0 rfl)
  · obtain ⟨s', T, q1, q2, q3⟩ := long_run (d := n ++ [0]) (z := n.length + 1) (k := 76) (t := t) (c := (some n, none)) h (Or.inl rfl) (by simp) (by simp; omega) (by
      show tfin 2 (n ++ [0]) (none, none) = _
      unfold tfin tnam
      rw [if_pos rfl, ttx_nz (m := []) hnz, if_neg (by omega)])
    exact ⟨s', T, some n, none, q1, q2, q3, rfl, rfl⟩
  · obtain ⟨s', T, q1, q2, q3⟩ := long_run (d := sad kpath n) (z := (sad kpath n).length) (k := 120) (t := t) (c := (some n, none)) h (Or.inr rfl) rfl (by simp; omega) (by
      show tfin 3 (sad kpath n) (none, none) = _
      unfold tfin
      rw [if_neg (by decide), if_pos rfl, trr_one hn])
    exact ⟨s', T, some n, none, q1, q2, q3, rfl, rfl⟩
  · obtain ⟨s', T, q1, q2, q3⟩ := long_run (d := sad kpath n ++ sad ksize (dgs d.length)) (z := (sad kpath n ++ sad ksize (dgs d.length)).length) (k := 120) (t := t) (c := (some n, some d.length)) h (Or.inr rfl) rfl (by rw [List.length_append]; simp; omega) (by
      show tfin 3 (sad kpath n ++ sad ksize (dgs d.length)) (none, none) = _
      unfold tfin
      rw [if_neg (by decide), if_pos rfl, trr_two hn hd])
    exact ⟨s', T, some n, some d.length, q1, q2, q3, rfl, rfl⟩
theorem ent_run {e : Ent} {t : Nat} {s : Ts} (he : Eok e) (h : Sd (none, none) s) : ∃ s' T, Mr t s (wen e) s' T ∧ Sd (none, none) s' ∧ evx T = ete e := by
  have hno := nmd_oct he.n
  have hnz := nmd_nz e.1
  have hnl := nmd_len e.1
  have hdl := he.dl
  by_cases hk : e.2.2.2 = 0
  · have hw4 : whw e.2.2.1 (nmd e.1) < 4 := by unfold whw; split <;> omega
    have hw0 : whw e.2.2.1 (nmd e.1) = 0 → (nmd e.1).length ≤ 100 := by unfold whw; split <;> omega
    obtain ⟨s1, T1, cn, cz, q1, q2, q3, q4, q5⟩ := ahead_run (d := e.2.1) (t := t) h hnl hnz hdl hw4 hw0
    obtain ⟨s2, T2, r1, r2, r3⟩ := file_run (n := nmd e.1) (d := e.2.1) (z := if whw e.2.2.1 (nmd e.1) = 3 then 7 else e.2.1.length) (t := t + (wpr (whw e.2.2.1 (nmd e.1)) (nmd e.1) e.2.1).length) q2 hno hnz (by split <;> omega) q5.symm
    refine ⟨s2, T1 ++ T2, ?_, r2, ?_⟩
    · unfold wen
      rw [if_neg (by rw [hk]; simp)]
      exact (mr_append _ _ _ _ _ _).2 ⟨s1, T1, T2, q1, r1, rfl⟩
    · rw [evx_append, q3, r3, q4]
      unfold ete
      rw [if_pos hk]
      rfl
  · obtain ⟨s', T, q1, q2, q3⟩ := other_run (n := nmd e.1) (d := e.2.1) (z := e.2.1.length) (k := wotk e.2.2.2) (t := t) h hno (by unfold wotk; split <;> simp) (by omega) rfl
    refine ⟨s', T, ?_, q2, by rw [q3]; unfold ete; rw [if_neg hk]⟩
    unfold wen
    rw [if_pos hk]
    exact q1
theorem wal_run : ∀ (l : List Ent) (t : Nat) (s : Ts), (∀ e ∈ l, Eok e) → Sd (none, none) s → ∃ s' T, Mr t s (wal l) s' T ∧ Sd (none, none) s' ∧ evx T = eta l
  | [], t, s, _, h => ⟨s, [], ⟨rfl, rfl⟩, h, rfl⟩
  | e :: r, t, s, he, h => by
    obtain ⟨s1, T1, q1, q2, q3⟩ := ent_run (t := t) (he e (by simp)) h
    obtain ⟨s2, T2, r1, r2, r3⟩ := wal_run r (t + (wen e).length) s1 (fun x hx => he x (List.mem_cons_of_mem _ hx)) q2
    exact ⟨s2, T1 ++ T2, (mr_append _ _ _ _ _ _).2 ⟨s1, T1, T2, q1, r1, rfl⟩, r2, by rw [evx_append, q3, r3]; rfl⟩
end Go.Proofs.YtcmmjbkgoafbnaaDoor

/-
  What is told of an archive that is written. No walk.
-/
namespace Go.Proofs.YtcmmjbkgoafbnaaDoor
set_option linter.unusedVariables false
set_option linter.unusedSimpArgs false
theorem po2_bytes : ∀ (d : List Nat) (ns ls : List (List Nat)) (p : List Nat) (r : List Evn), Oct d → po2 ns (ls ++ [p]) (d.map (fun x => (x, [])) ++ r) = po2 ns (ls ++ [p ++ d]) r
  | [], ns, ls, p, r, _ => by simp
  | x :: d, ns, ls, p, r, h => by
    have hx := h x (by simp)
    show po2 ns (ls ++ [p]) ((x, []) :: (d.map (fun x => (x, [])) ++ r)) = _
    rw [po2, if_neg (by simp only; omega), if_neg (by simp only; omega)]
    have e1 : (ls ++ [p]).dropLast = ls := by simp
    have e2 : (ls ++ [p]).getLastD [] = p := by simp
    rw [e1, e2]
    rw [po2_bytes d ns ls (p ++ [x]) r fun y hy => h y (List.mem_cons_of_mem _ hy)]
    simp
theorem po2_ent {e : Ent} (he : Oct e.2.1) (ns ls : List (List Nat)) (r : List Evn) : po2 ns ls (ete e ++ r) = po2 (ns ++ tdn [e]) (ls ++ tdd [e]) r := by
  unfold ete
  by_cases hk : e.2.2.2 = 0
  · rw [if_pos hk]
    simp only [tdn, tdd, hk, if_true]
    rw [List.cons_append, po2, if_pos rfl, List.append_assoc, po2_bytes _ _ _ _ _ he, List.nil_append]
    show po2 _ _ ((257, []) :: r) = _
    rw [po2, if_neg (by decide), if_pos rfl]
  · rw [if_neg hk]
    simp only [tdn, tdd, hk, if_false, List.append_nil, List.nil_append]
theorem po2_eta : ∀ (l : List Ent) (ns ls : List (List Nat)) (r : List Evn), (∀ e ∈ l, Oct e.2.1) → po2 ns ls (eta l ++ r) = po2 (ns ++ tdn l) (ls ++ tdd l) r
  | [], ns, ls, r, _ => by simp [eta, tdn, tdd]
  | e :: l, ns, ls, r, h => by
    show po2 ns ls ((ete e ++ eta l) ++ r) = _
    rw [List.append_assoc, po2_ent (h e (by simp)), po2_eta l _ _ _ fun x hx => h x (List.mem_cons_of_mem _ hx), List.append_assoc, List.append_assoc, ← tdn_append, ← tdd_append]
    rfl
theorem po2_told {l : List Ent} (h : ∀ e ∈ l, Eok e) : po2 [] [] (eta l) = (tdn l, tdd l) := by
  have := po2_eta l [] [] [] fun e he => (h e he).d
  rw [List.append_nil] at this
  rw [this]; rfl
theorem zero_run {t : Nat} {s : Ts} {c : Cm} (h : Sd c s) : ∃ s', Mr t s (List.replicate 512 0) s' [] ∧ s'.wh = 3 ∧ s'.why = 0 ∧ s'.ps = 0 := by
  have hb := run_block (h := List.replicate 512 0) (t := t) h.why h.wh h.ps h.bl List.length_replicate
  have hn : noughts (List.replicate 512 0) = true := by unfold noughts; rw [List.all_eq_true]; intro x hx; rw [(List.mem_replicate.1 hx).2]; rfl
  have ht : ∀ S : Ts, noughts S.B = true → thead S = ({ S with wh := 3 }, []) := fun S hS => by unfold thead; rw [if_pos hS]
  rw [ht _ (by exact hn)] at hb
  obtain ⟨S, hS⟩ : ∃ S : Ts, { s with B := List.replicate 512 0, ps := 0, wh := 3 } = S := ⟨_, rfl⟩
  have e : tnx S = S := by unfold tnx; rw [if_neg (fun q => by have := q.1; rw [← hS] at this; exact absurd (show (3 : Nat) = 2 from this) (by decide))]
  refine ⟨S, ?_, by rw [← hS], by rw [← hS]; exact h.why, by rw [← hS]⟩
  have hb2 : Mr t s (List.replicate 512 0) (tnx S) [] := by rw [← hS]; exact hb
  rw [e] at hb2
  exact hb2
theorem rch_all {b : List Nat} {s : Ts} {T : List Gev} (h : Mr 0 t0 b s T) : Rch b b.length s T := ⟨Nat.le_refl _, by rw [List.take_length]; exact h⟩
/-- Noughts behind entries, and anything behind these. -/
theorem ends_run {l : List Ent} (h : ∀ e ∈ l, Eok e) (x : List Nat) : ∃ s T, Rch (wal l ++ (List.replicate 512 0 ++ x)) (wal l ++ (List.replicate 512 0 ++ x)).length s T ∧ zfin s = 0 ∧ po2 [] [] (evx T) = (tdn l, tdd l) := by
  obtain ⟨s1, T1, q1, q2, q3⟩ := wal_run l 0 t0 h sd0
  obtain ⟨s2, r1, r2, r3, r4⟩ := zero_run (t := 0 + (wal l).length) q2
  have ho := run_over x (0 + (wal l).length + (List.replicate 512 0).length) s2 r3 r2 (by omega)
  refine ⟨_, _, rch_all ((mr_append _ _ _ _ _ _).2 ⟨_, _, _, q1, (mr_append _ _ _ _ _ _).2 ⟨_, _, _, r1, ho, rfl⟩, rfl⟩), ?_, ?_⟩
  · unfold zfin
    rw [if_neg (fun q => q r3), if_pos (by unfold twhl; show (decide (s2.wh = 3) || _) = true; rw [r2]; rfl)]
  · rw [List.append_nil, List.append_nil, q3]; exact po2_told h
theorem wri_eq (l : List Ent) : wri l = wal l ++ (List.replicate 512 0 ++ List.replicate 512 0) := by
  unfold wri
  rw [List.replicate_append_replicate]
theorem back_run {l : List Ent} (h : ∀ e ∈ l, Eok e) : ∃ s T, Rch (wri l) (wri l).length s T ∧ zfin s = 0 ∧ po2 [] [] (evx T) = (tdn l, tdd l) := by
  rw [wri_eq]
  exact ends_run h _
/-- Entries alone. -/
theorem bare_run {l : List Ent} (h : ∀ e ∈ l, Eok e) : ∃ s T, Rch (wal l) (wal l).length s T ∧ zfin s = 0 ∧ po2 [] [] (evx T) = (tdn l, tdd l) := by
  obtain ⟨s1, T1, q1, q2, q3⟩ := wal_run l 0 t0 h sd0
  refine ⟨_, _, rch_all q1, ?_, by rw [q3]; exact po2_told h⟩
  unfold zfin
  rw [if_neg (fun q => q q2.why), if_pos (by unfold twhl; rw [q2.wh, q2.ps]; rfl)]
/-- A byte behind entries. -/
theorem cut_run {l : List Ent} (h : ∀ e ∈ l, Eok e) (x : Nat) : ∃ s T, Rch (wal l ++ [x]) (wal l ++ [x]).length s T ∧ zfin s = 1 ∧ po2 [] [] (evx T) = (tdn l, tdd l) := by
  obtain ⟨s1, T1, q1, q2, q3⟩ := wal_run l 0 t0 h sd0
  have hr := run_head [x] [] s1.B (0 + (wal l).length) s1 q2.why q2.wh q2.ps rfl q2.bl (by simp)
  refine ⟨_, _, rch_all ((mr_append _ _ _ _ _ _).2 ⟨_, _, _, q1, hr, rfl⟩), ?_, by rw [List.append_nil, q3]; exact po2_told h⟩
  unfold zfin
  rw [if_neg (fun q => q q2.why), if_neg (by unfold twhl; show ¬ (decide (s1.wh = 3) || (decide (s1.wh = 0) && decide (([] : List Nat).length + [x].length = 0))) = true; rw [q2.wh]; simp)]
theorem wal_oct : ∀ (l : List Ent), (∀ e ∈ l, Eok e) → Oct (wal l)
  | [], _ => fun x hx => by simp [wal] at hx
  | e :: r, h => by
    have he := h e (by simp)
    have hr : ∀ n, Oct (List.replicate n 0) := fun n x hx => by rw [(List.mem_replicate.1 hx).2]; decide
    have hw : ∀ d, Oct d → Oct (wh512 d) := fun d hd => hd.app (hr _)
    have hno := nmd_oct he.n
    have h0 : Oct [0] := fun x hx => by simp at hx; omega
    refine Oct.app ?_ (wal_oct r fun x hx => h x (List.mem_cons_of_mem _ hx))
    unfold wen
    split
    · refine (hdr_oct hno ?_).app (hw _ he.d)
      unfold wotk; split <;> decide
    · refine Oct.app ?_ ((hdr_oct hno (by decide)).app (hw _ he.d))
      have hp := sad_oct kpath_oct hno
      have hz := sad_oct ksize_oct (dgs_oct _ _ (Nat.le_refl e.2.1.length))
      unfold wpr
      split
      · exact (hdr_oct oct_x (by decide)).app (hw _ (hno.app h0))
      · split
        · exact (hdr_oct oct_x (by decide)).app (hw _ hp)
        · split
          · exact (hdr_oct oct_x (by decide)).app (hw _ (hp.app hz))
          · intro x hx; simp at hx
theorem wri_oct {l : List Ent} (h : ∀ e ∈ l, Eok e) : Oct (wri l) := (wal_oct l h).app fun x hx => by rw [(List.mem_replicate.1 hx).2]; decide
theorem wri_len {l : List Ent} (h : ∀ e ∈ l, Eok e) (hl : l.length ≤ 1000) : (wri l).length ≤ 300000000 := by
  have := wal_len l h
  unfold wri
  rw [List.length_append, List.length_replicate]
  omega
end Go.Proofs.YtcmmjbkgoafbnaaDoor

/-
  What the machine makes of a header and its data, whatever they are. No walk.
-/
namespace Go.Proofs.YtcmmjbkgoafbnaaDoor
set_option linter.unusedVariables false
set_option linter.unusedSimpArgs false
/-- Behind a header and all its data: p bytes of a block have come. -/
structure Sw (c : Cm) (y p : Nat) (s : Ts) : Prop where
  wh : s.wh = (if p = 0 then 0 else 2)
  ps : s.ps = p
  why : s.why = y
  bl : s.B.length = 512
  kl : s.K.length = 1024
  cm : (s.nm, s.sz) = c
/-- Data is to come. -/
structure Dt (U Z : Nat) (c : Cm) (s : Ts) : Prop where
  wh : s.wh = 1
  ps : s.ps = 0
  why : s.why = 0
  bl : s.B.length = 512
  kl : s.K.length = 1024
  cm : (s.nm, s.sz) = c
  us : s.us = U
  lf : s.lf = Z
  ln : 2 ≤ U → s.ln = 0
theorem nought_list {h : List Nat} (hl : h.length = 512) (hn : noughts h = true) : h = List.replicate 512 0 := by
  unfold noughts at hn
  rw [List.all_eq_true] at hn
  exact List.eq_replicate_iff.2 ⟨hl, fun x hx => by simpa using hn x hx⟩
section
variable {t : Nat} {s : Ts} {c : Cm} {h : List Nat}
theorem hd_stop {y : Nat} (hs : Sd c s) (hl : h.length = 512) (ht : ∀ S : Ts, S.B = h → thead S = ({ S with why := y }, [])) : ∃ s', Mr t s h s' [] ∧ s'.why = y := by
  have hb := run_block (h := h) (t := t) hs.why hs.wh hs.ps hs.bl hl
  rw [ht _ rfl] at hb
  refine ⟨_, hb, ?_⟩
  unfold tnx
  split <;> rfl
theorem hd_sum (hs : Sd c s) (hl : h.length = 512) (h1 : noughts h = false) (h2 : rgt h = false) : ∃ s', Mr t s h s' [] ∧ s'.why = 44 :=
  hd_stop hs hl fun S e => by unfold thead; rw [e, if_neg (by rw [h1]; decide), if_pos h2]
theorem hd_num (hs : Sd c s) (hl : h.length = 512) (h1 : noughts h = false) (h2 : rgt h = true) (h3 : fld ((h.drop 124).take 12) = none) : ∃ s', Mr t s h s' [] ∧ s'.why = 48 :=
  hd_stop hs hl fun S e => by unfold thead; rw [e, if_neg (by rw [h1]; decide), if_neg (by rw [h2]; decide), h3]
theorem hd_much {z : Nat} (hs : Sd c s) (hl : h.length = 512) (h1 : noughts h = false) (h2 : rgt h = true) (h3 : fld ((h.drop 124).take 12) = some z) (h4 : tmuch (tkd h) z = true) : ∃ s', Mr t s h s' [] ∧ s'.why = 46 :=
  hd_stop hs hl fun S e => by unfold thead; rw [e, if_neg (by rw [h1]; decide), if_neg (by rw [h2]; decide), h3]; simp only; rw [if_pos h4]
/-- What is asked of a header that is right. -/
structure Hg (h : List Nat) (z : Nat) : Prop where
  len : h.length = 512
  no : noughts h = false
  ri : rgt h = true
  fl : fld ((h.drop 124).take 12) = some z
  mu : tmuch (tkd h) z = false
theorem Hg.most {z : Nat} (g : Hg h z) (c : Option Nat) (h2 : 2 ≤ tus (tkd h)) : tsz (tkd h) z c ≤ 1024 := by
  have hm := g.mu
  obtain ⟨k, hk⟩ : ∃ k, tkd h = k := ⟨_, rfl⟩
  rw [hk] at hm h2 ⊢
  unfold tus at h2
  unfold tmuch at hm
  by_cases h7 : k = 76
  · subst h7
    simp at hm
    show z ≤ 1024
    omega
  · by_cases h8 : k = 120
    · subst h8
      simp at hm
      show z ≤ 1024
      exact hm
    · rw [if_neg h7, if_neg h8] at h2
      split at h2 <;> omega
theorem hd_good {z : Nat} (hs : Sd c s) (g : Hg h z) : ∃ S, (tsz (tkd h) z c.2 = 0 → Mr t s h S (evs (t + 511) (topn h c.1 ++ tcl (tus (tkd h)))) ∧ Sw (tfin (tus (tkd h)) [] (tcm (tkd h) c)).1 (tfin (tus (tkd h)) [] (tcm (tkd h) c)).2 0 S) ∧ (tsz (tkd h) z c.2 ≠ 0 → Mr t s h S (evs (t + 511) (topn h c.1)) ∧ Dt (tus (tkd h)) (tsz (tkd h) z c.2) (tcm (tkd h) c) S) := by
  have hb := run_block (h := h) (t := t) (s := s) hs.why hs.wh hs.ps hs.bl g.len
  obtain ⟨cn, cz⟩ := c
  obtain ⟨hc1, hc2⟩ : s.nm = cn ∧ s.sz = cz := by have := hs.cm; simpa using this
  obtain ⟨k, hk⟩ : ∃ k, tkd h = k := ⟨_, rfl⟩
  have ht : thead { s with B := h, ps := 0 } = ((tbeg (tus k) (tsz k z cz) { s with B := h, ps := 0, ln := if town k || tus k == 0 then s.ln else 0, nm := (tcm k (cn, cz)).1, sz := (tcm k (cn, cz)).2 }).1, topn h cn ++ (tbeg (tus k) (tsz k z cz) { s with B := h, ps := 0 }).2) := by
    refine (thead_of (s := { s with B := h, ps := 0 }) g.no g.ri g.fl hk (by rw [← hk]; exact g.mu)).trans ?_
    show ((tbeg (tus k) (tsz k z s.sz) { s with B := h, ps := 0, ln := if town k || tus k == 0 then s.ln else 0, nm := (tcm k (s.nm, s.sz)).1, sz := (tcm k (s.nm, s.sz)).2 }).1, topn h s.nm ++ (tbeg (tus k) (tsz k z s.sz) { s with B := h, ps := 0 }).2) = _
    rw [hc1, hc2]
  rw [ht] at hb
  rw [hk]
  obtain ⟨S1, hS1⟩ : ∃ S1 : Ts, { s with B := h, ps := 0, ln := if town k || tus k == 0 then s.ln else 0, nm := (tcm k (cn, cz)).1, sz := (tcm k (cn, cz)).2 } = S1 := ⟨_, rfl⟩
  have q : S1.wh = 0 ∧ S1.ps = 0 ∧ S1.why = 0 ∧ S1.B.length = 512 ∧ S1.K.length = 1024 ∧ (S1.nm, S1.sz) = tcm k (cn, cz) ∧ (2 ≤ tus k → S1.ln = 0) := by
    rw [← hS1]
    refine ⟨hs.wh, rfl, hs.why, g.len, hs.kl, rfl, fun h2 => ?_⟩
    show (if town k || tus k == 0 then s.ln else 0) = 0
    rw [tus_own h2]; rfl
  rw [hS1] at hb
  obtain ⟨g1, g2, g3, g4, g5, g6, g7⟩ := q
  refine ⟨tnx (tbeg (tus k) (tsz k z cz) S1).1, fun hz0 => ?_, fun hz0 => ?_⟩
  · simp only at hz0
    have e1 : ∀ S, tbeg (tus k) (tsz k z cz) S = (tend { S with us := tus k, lf := tsz k z cz }, tcl (tus k)) := fun S => by unfold tbeg; rw [if_pos hz0]
    rw [e1] at hb ⊢
    rw [e1] at hb
    have hkt : tfin (tus k) (S1.K.take S1.ln) (tcm k (cn, cz)) = tfin (tus k) [] (tcm k (cn, cz)) := by
      by_cases h2 : 2 ≤ tus k
      · rw [g7 h2, List.take_zero]
      · exact tfin_low h2 _ _ _
    have hw : tnx (tend { S1 with us := tus k, lf := tsz k z cz }) = tend { S1 with us := tus k, lf := tsz k z cz } := by
      unfold tnx
      rw [if_neg (fun q => by have q1 : S1.wh = 2 := q.1; omega)]
    refine ⟨hb, ?_⟩
    show Sw _ _ 0 (tnx (tend { S1 with us := tus k, lf := tsz k z cz }))
    rw [hw]
    refine ⟨g1, g2, ?_, g4, g5, ?_⟩
    · show (tfin (tus k) (S1.K.take S1.ln) (S1.nm, S1.sz)).2 = _
      rw [g6, hkt]
    · show ((tfin (tus k) (S1.K.take S1.ln) (S1.nm, S1.sz)).1.1, (tfin (tus k) (S1.K.take S1.ln) (S1.nm, S1.sz)).1.2) = _
      rw [g6, hkt]
  · simp only at hz0
    have e1 : ∀ S, tbeg (tus k) (tsz k z cz) S = ({ S with us := tus k, lf := tsz k z cz, wh := 1 }, []) := fun S => by unfold tbeg; rw [if_neg hz0]
    rw [e1] at hb ⊢
    rw [e1] at hb
    have hw : tnx ({ S1 with us := tus k, lf := tsz k z cz, wh := 1 } : Ts) = { S1 with us := tus k, lf := tsz k z cz, wh := 1 } := tnx_wh rfl
    rw [List.append_nil] at hb
    refine ⟨hb, ?_⟩
    show Dt _ _ _ (tnx ({ S1 with us := tus k, lf := tsz k z cz, wh := 1 } : Ts))
    rw [hw]
    exact ⟨rfl, g2, g3, g4, g5, g6, rfl, rfl, g7⟩
theorem dt_all {us Z : Nat} {d : List Nat} (hs : Dt us Z c s) (hd : d.length = Z) (hZ : Z ≠ 0) (hus : us ≤ 3) (hK : 2 ≤ us → Z ≤ 1024) : ∃ S, Mr t s d S (bts us t d ++ evs (t + d.length - 1) (tcl us)) ∧ Sw (tfin us d c).1 (tfin us d c).2 (d.length % 512) S := by
  have hr := run_all (l := d) (t := t) hs.why hs.wh (by rw [hs.lf]; exact hd) (by omega) (by rw [hs.ps]; decide) (by rw [hs.us]; exact hus) (fun h => by rw [hs.us] at h; rw [hs.ln h, hs.lf, hs.kl, Nat.zero_add]; exact hK h)
  have hkt : tfin us ((tdt d s).K.take (tdt d s).ln) c = tfin us d c := by
    by_cases h2 : 2 ≤ us
    · have hl := hs.ln h2
      have e : tdt d s = { s with K := s.K.take s.ln ++ d ++ s.K.drop (s.ln + d.length), ln := s.ln + d.length, lf := s.lf - d.length, ps := (s.ps + d.length) % 512 } := by unfold tdt; rw [if_pos (by rw [hs.us]; omega)]
      rw [e]
      show tfin us ((s.K.take s.ln ++ d ++ s.K.drop (s.ln + d.length)).take (s.ln + d.length)) c = _
      rw [hl, List.take_zero, List.nil_append, Nat.zero_add, List.take_left]
    · exact tfin_low h2 _ _ _
  have hfld : (tdt d s).us = s.us ∧ (tdt d s).nm = s.nm ∧ (tdt d s).sz = s.sz ∧ (tdt d s).ps = d.length % 512 ∧ (tdt d s).B = s.B ∧ (tdt d s).K.length = 1024 := by
    unfold tdt
    split
    · refine ⟨rfl, rfl, rfl, ?_, rfl, ?_⟩
      · show (s.ps + d.length) % 512 = _; rw [hs.ps, Nat.zero_add]
      · show (s.K.take s.ln ++ d ++ s.K.drop (s.ln + d.length)).length = 1024
        rename_i h2
        rw [hs.us] at h2
        have hl := hs.ln (by omega)
        have := hK (by omega)
        rw [hl, List.length_append, List.length_append, List.length_take, List.length_drop, hs.kl]
        omega
    · exact ⟨rfl, rfl, rfl, by show (s.ps + d.length) % 512 = _; rw [hs.ps, Nat.zero_add], rfl, hs.kl⟩
  obtain ⟨f1, f2, f3, f4, f5, f6⟩ := hfld
  have hcm := hs.cm
  obtain ⟨S2, hS2⟩ : ∃ S2, tend { tdt d s with wh := 2 } = S2 := ⟨_, rfl⟩
  have g : S2.wh = 2 ∧ S2.ps = d.length % 512 ∧ S2.why = (tfin us d c).2 ∧ S2.B.length = 512 ∧ S2.K.length = 1024 ∧ (S2.nm, S2.sz) = (tfin us d c).1 := by
    rw [← hS2]
    refine ⟨rfl, f4, ?_, by show (tdt d s).B.length = 512; rw [f5]; exact hs.bl, f6, ?_⟩
    · show (tfin (tdt d s).us ((tdt d s).K.take (tdt d s).ln) ((tdt d s).nm, (tdt d s).sz)).2 = _
      rw [f1, f2, f3, hcm, hs.us, hkt]
    · show ((tfin (tdt d s).us ((tdt d s).K.take (tdt d s).ln) ((tdt d s).nm, (tdt d s).sz)).1.1, (tfin (tdt d s).us ((tdt d s).K.take (tdt d s).ln) ((tdt d s).nm, (tdt d s).sz)).1.2) = _
      rw [f1, f2, f3, hcm, hs.us, hkt]
  rw [hS2, hs.us] at hr
  obtain ⟨g1, g2, g3, g4, g5, g6⟩ := g
  by_cases hm : d.length % 512 = 0
  · have e : tnx S2 = { S2 with wh := 0 } := by unfold tnx; rw [if_pos ⟨g1, by rw [g2, hm]⟩]
    rw [e] at hr
    exact ⟨_, hr, by rw [hm]; rfl, g2, g3, g4, g5, g6⟩
  · have e : tnx S2 = S2 := by unfold tnx; rw [if_neg (by rw [g2]; omega)]
    rw [e] at hr
    exact ⟨_, hr, by rw [if_neg hm]; exact g1, g2, g3, g4, g5, g6⟩
theorem zfin_mid {s : Ts} (h0 : s.why = 0) (h3 : s.wh ≠ 3) (h : s.wh ≠ 0 ∨ s.ps ≠ 0) : zfin s = 1 := by
  unfold zfin
  rw [if_neg (fun q => q h0), if_neg]
  unfold twhl
  rcases h with h | h <;> simp [h3, h]
theorem dt_part {us Z : Nat} {d : List Nat} (hs : Dt us Z c s) (hd : d.length < Z) (hus : us ≤ 3) (hK : 2 ≤ us → Z ≤ 1024) : ∃ S, Mr t s d S (bts us t d) ∧ S.why = 0 ∧ zfin S = 1 := by
  have hr := run_data d t s hs.why hs.wh (by rw [hs.lf]; exact hd) (by rw [hs.ps]; decide) (by rw [hs.us]; exact hus) (fun h => by rw [hs.us] at h; rw [hs.ln h, hs.lf, hs.kl, Nat.zero_add]; exact hK h)
  rw [hs.us] at hr
  have e : (tdt d s).why = 0 ∧ (tdt d s).wh = 1 := by
    unfold tdt
    split
    · exact ⟨hs.why, hs.wh⟩
    · exact ⟨hs.why, hs.wh⟩
  exact ⟨_, hr, e.1, zfin_mid e.1 (by rw [e.2]; decide) (Or.inl (by rw [e.2]; decide))⟩
theorem sw_pad {p : Nat} {l : List Nat} (hs : Sw c 0 p s) (hp : p < 512) (hl : l.length < (512 - p) % 512) : ∃ S, Mr t s l S [] ∧ S.why = 0 ∧ zfin S = 1 := by
  have h0 : p ≠ 0 := fun e => by subst e; simp at hl
  have hw : s.wh = 2 := by rw [hs.wh, if_neg h0]
  have hr := run_pad l t s hs.why hw (by rw [hs.ps]; omega) (by rw [hs.ps]; have : (512 - p) % 512 ≤ 512 - p := Nat.mod_le _ _; omega)
  exact ⟨_, hr, hs.why, zfin_mid hs.why (by show s.wh ≠ 3; rw [hw]; decide) (Or.inl (by show s.wh ≠ 0; rw [hw]; decide))⟩
theorem sw_rest {p : Nat} {l : List Nat} (hs : Sw c 0 p s) (hp : p < 512) (hl : l.length = (512 - p) % 512) : ∃ S, Mr t s l S [] ∧ Sd c S := by
  by_cases h0 : p = 0
  · subst h0
    have : l = [] := List.eq_nil_of_length_eq_zero hl
    subst this
    exact ⟨s, ⟨rfl, rfl⟩, ⟨hs.wh, hs.ps, hs.why, hs.bl, hs.kl, hs.cm⟩⟩
  · have hw : s.wh = 2 := by rw [hs.wh, if_neg h0]
    have e : (512 - p) % 512 = 512 - p := Nat.mod_eq_of_lt (by omega)
    have hr := run_rest (l := l) (t := t) hs.why hw (by rw [hs.ps]; omega) (by rw [hs.ps]; omega) (by rw [hs.ps]; exact hp)
    exact ⟨_, hr, ⟨rfl, rfl, hs.why, hs.bl, hs.kl, hs.cm⟩⟩
/-- A header's and its data's events. -/
def hev (h : List Nat) (cn : Option (List Nat)) (at_ : Nat) (d : List Nat) : List Gev := evs (at_ + 511) (topn h cn) ++ bts (tus (tkd h)) (at_ + 512) d
theorem evs_append (t : Nat) (E F : List Evn) : evs t (E ++ F) = evs t E ++ evs t F := by simp [evs]
theorem bts_nil (us t : Nat) : bts us t [] = [] := by unfold bts; split <;> rfl
theorem seg_all {z : Nat} {d : List Nat} (hs : Sd c s) (g : Hg h z) (hd : d.length = tsz (tkd h) z c.2) : ∃ S, Mr t s (h ++ d) S (hev h c.1 t d ++ evs (t + 511 + d.length) (tcl (tus (tkd h)))) ∧ Sw (tfin (tus (tkd h)) d (tcm (tkd h) c)).1 (tfin (tus (tkd h)) d (tcm (tkd h) c)).2 (d.length % 512) S := by
  obtain ⟨S1, q1, q2⟩ := hd_good (t := t) hs g
  have hK := g.most c.2
  by_cases hz0 : tsz (tkd h) z c.2 = 0
  · obtain ⟨r1, r2⟩ := q1 hz0
    have hdn : d = [] := List.eq_nil_of_length_eq_zero (by omega)
    subst hdn
    refine ⟨S1, ?_, r2⟩
    rw [List.append_nil]
    unfold hev
    rw [bts_nil, List.append_nil]
    rw [evs_append] at r1
    exact r1
  · obtain ⟨r1, r2⟩ := q2 hz0
    obtain ⟨S2, v1, v2⟩ := dt_all (t := t + 512) r2 hd hz0 (tus_le _) hK
    refine ⟨S2, ?_, v2⟩
    refine (mr_append _ _ _ _ _ _).2 ⟨_, _, _, r1, by rw [g.len]; exact v1, ?_⟩
    unfold hev
    rw [List.append_assoc, show t + 512 + d.length - 1 = t + 511 + d.length by omega]
theorem seg_part {z : Nat} {d : List Nat} (hs : Sd c s) (g : Hg h z) (hd : d.length < tsz (tkd h) z c.2) : ∃ S, Mr t s (h ++ d) S (hev h c.1 t d) ∧ S.why = 0 ∧ zfin S = 1 := by
  obtain ⟨S1, _, q2⟩ := hd_good (t := t) hs g
  obtain ⟨r1, r2⟩ := q2 (by omega)
  obtain ⟨S2, v1, v2⟩ := dt_part (t := t + 512) r2 hd (tus_le _) (g.most c.2)
  exact ⟨S2, (mr_append _ _ _ _ _ _).2 ⟨_, _, _, r1, by rw [g.len]; exact v1, rfl⟩, v2⟩
end
/-- What the document's run comes to: events, why it was stopped, with which byte. -/
structure Fo (b : List Nat) (T : List Gev) (y p : Nat) : Prop where
  ex : ∃ k s, Rch b k s T ∧ ((s.why ≠ 0 ∧ y = s.why ∧ p + 1 = k) ∨ (s.why = 0 ∧ k = b.length ∧ y = zfin s ∧ p = b.length ∧ (y = 0 ∨ y = 1)))
/-- Where it stands ahead of a header. -/
structure Lp (b : List Nat) (at_ : Nat) (T : List Gev) (c : Cm) : Prop where
  ex : ∃ s, Rch b at_ s T ∧ Sd c s
theorem Lp.start (b : List Nat) : Lp b 0 [] (none, none) := ⟨t0, rch_zero b, sd0⟩
section
variable {b T : List Nat} {at_ : Nat} {c : Cm} {T : List Gev}
/-- The header's block. -/
def hb (b : List Nat) (at_ : Nat) : List Nat := (b.drop at_).take 512
theorem hb_len (h : at_ + 512 ≤ b.length) : (hb b at_).length = 512 := by unfold hb; rw [List.length_take, List.length_drop]; omega
theorem Lp.fin (h : Lp b b.length T c) : Fo b T 0 b.length := by
  obtain ⟨s, h1, h2⟩ := h.ex
  exact ⟨_, s, h1, Or.inr ⟨h2.why, rfl, by unfold zfin; rw [if_neg (fun q => q h2.why), if_pos (by unfold twhl; rw [h2.wh, h2.ps]; rfl)], rfl, Or.inl rfl⟩⟩
theorem Lp.go {m : List Nat} {s s' : Ts} {U : List Gev} (h1 : Rch b at_ s T) (hm : m = (b.drop at_).take m.length) (hr : Mr at_ s m s' U) (hl : at_ + m.length = b.length) (h0 : s'.why = 0) (hz : zfin s' = 1) : Fo b (T ++ U) 1 b.length := by
  have := h1.run hm hr
  rw [hl] at this
  exact ⟨_, s', this, Or.inr ⟨h0, rfl, hz.symm, rfl, Or.inr rfl⟩⟩
theorem Lp.cut (h : Lp b at_ T c) (h1 : at_ < b.length) (h2 : b.length < at_ + 512) : Fo b T 1 b.length := by
  obtain ⟨s, hr, hs⟩ := h.ex
  have hl : (b.drop at_).length = b.length - at_ := List.length_drop
  have hm := run_head (b.drop at_) [] s.B at_ s hs.why hs.wh hs.ps rfl hs.bl (by show 0 + _ < 512; omega)
  have := Lp.go hr (by rw [List.take_length]) hm (by omega) hs.why (zfin_mid hs.why (by show s.wh ≠ 3; rw [hs.wh]; decide) (Or.inr (by show 0 + (b.drop at_).length ≠ 0; omega)))
  rwa [List.append_nil] at this
theorem Lp.bad {y : Nat} (h : Lp b at_ T c) (h1 : at_ + 512 ≤ b.length) (hy : y ≠ 0) (hs : ∀ s, Sd c s → ∃ s', Mr at_ s (hb b at_) s' [] ∧ s'.why = y) : Fo b T y (at_ + 511) := by
  obtain ⟨s, hr, hd⟩ := h.ex
  obtain ⟨s', q1, q2⟩ := hs s hd
  have hl := hb_len h1
  have := hr.run (m := hb b at_) (by rw [hl]; rfl) q1
  rw [hl, List.append_nil] at this
  exact ⟨_, s', this, Or.inl ⟨by rw [q2]; exact hy, q2.symm, rfl⟩⟩
theorem Lp.sum (h : Lp b at_ T c) (h1 : at_ + 512 ≤ b.length) (h2 : noughts (hb b at_) = false) (h3 : rgt (hb b at_) = false) : Fo b T 44 (at_ + 511) := h.bad h1 (by decide) fun s hs => hd_sum hs (hb_len h1) h2 h3
theorem Lp.num (h : Lp b at_ T c) (h1 : at_ + 512 ≤ b.length) (h2 : noughts (hb b at_) = false) (h3 : rgt (hb b at_) = true) (h4 : fld (((hb b at_).drop 124).take 12) = none) : Fo b T 48 (at_ + 511) := h.bad h1 (by decide) fun s hs => hd_num hs (hb_len h1) h2 h3 h4
theorem Lp.much {z : Nat} (h : Lp b at_ T c) (h1 : at_ + 512 ≤ b.length) (h2 : noughts (hb b at_) = false) (h3 : rgt (hb b at_) = true) (h4 : fld (((hb b at_).drop 124).take 12) = some z) (h5 : tmuch (tkd (hb b at_)) z = true) : Fo b T 46 (at_ + 511) := h.bad h1 (by decide) fun s hs => hd_much hs (hb_len h1) h2 h3 h4 h5
theorem Lp.zero (h : Lp b at_ T c) (h1 : at_ + 512 ≤ b.length) (h2 : noughts (hb b at_) = true) : Fo b T 0 b.length := by
  obtain ⟨s, hr, hs⟩ := h.ex
  obtain ⟨s2, r1, r2, r3, r4⟩ := zero_run (t := at_) hs
  rw [← nought_list (hb_len h1) h2] at r1
  have q1 := hr.run (m := hb b at_) (by rw [hb_len h1]; rfl) r1
  rw [hb_len h1, List.append_nil] at q1
  have ho := run_over (b.drop (at_ + 512)) (at_ + 512) s2 r3 r2 (by omega)
  have q2 := q1.run (m := b.drop (at_ + 512)) (by rw [List.take_length]) ho
  rw [List.length_drop, List.append_nil, show at_ + 512 + (b.length - (at_ + 512)) = b.length by omega] at q2
  refine ⟨_, _, q2, Or.inr ⟨r3, rfl, ?_, rfl, Or.inl rfl⟩⟩
  unfold zfin
  rw [if_neg (fun q => q r3), if_pos (by unfold twhl; show (decide (s2.wh = 3) || _) = true; rw [r2]; rfl)]
theorem hb_split (Z : Nat) (h1 : at_ + 512 ≤ b.length) : hb b at_ ++ (b.drop (at_ + 512)).take Z = (b.drop at_).take (hb b at_ ++ (b.drop (at_ + 512)).take Z).length := by
  have hl := hb_len h1
  rw [List.length_append, hl]
  unfold hb
  rw [List.take_add, List.drop_drop]
  congr 1
  rw [List.length_take]
  apply List.ext_getElem?
  intro i
  rw [List.getElem?_take, List.getElem?_take]
  by_cases h : i < Z
  · by_cases h3 : i < (b.drop (at_ + 512)).length
    · rw [if_pos h, if_pos (by omega)]
    · rw [if_pos h, if_neg (by omega), List.getElem?_eq_none (by omega)]
  · rw [if_neg h, if_neg (by omega)]
theorem Lp.part {z : Nat} (h : Lp b at_ T c) (h1 : at_ + 512 ≤ b.length) (g : Hg (hb b at_) z) (hd : b.length - at_ - 512 < tsz (tkd (hb b at_)) z c.2) : Fo b (T ++ hev (hb b at_) c.1 at_ (b.drop (at_ + 512))) 1 b.length := by
  obtain ⟨s, hr, hs⟩ := h.ex
  have hl : (b.drop (at_ + 512)).length = b.length - at_ - 512 := by rw [List.length_drop]; omega
  obtain ⟨S, q1, q2, q3⟩ := seg_part (t := at_) (d := b.drop (at_ + 512)) hs g (by omega)
  have e := hb_split (b.length - at_ - 512) h1
  rw [List.take_of_length_le (by omega)] at e
  exact Lp.go hr e q1 (by rw [List.length_append, hb_len h1, hl]; omega) q2 q3
/-- All data is there. -/
theorem Lp.all {z Z : Nat} {c' : Cm} {y : Nat} (h : Lp b at_ T c) (h1 : at_ + 512 ≤ b.length) (g : Hg (hb b at_) z) (hZ : tsz (tkd (hb b at_)) z c.2 = Z) (hd : Z ≤ b.length - at_ - 512) (hf : tfin (tus (tkd (hb b at_))) ((b.drop (at_ + 512)).take Z) (tcm (tkd (hb b at_)) c) = (c', y)) :
    ∃ S, Rch b (at_ + 512 + Z) S (T ++ (hev (hb b at_) c.1 at_ ((b.drop (at_ + 512)).take Z) ++ evs (at_ + 511 + Z) (tcl (tus (tkd (hb b at_)))))) ∧ Sw c' y (Z % 512) S := by
  obtain ⟨s, hr, hs⟩ := h.ex
  have hl : ((b.drop (at_ + 512)).take Z).length = Z := by rw [List.length_take, List.length_drop]; omega
  obtain ⟨S, q1, q2⟩ := seg_all (t := at_) (d := (b.drop (at_ + 512)).take Z) hs g (by rw [hl, hZ])
  have := hr.run (hb_split Z h1) q1
  rw [List.length_append, hb_len h1, hl] at this
  rw [hf, hl] at q2
  exact ⟨S, by rw [show at_ + 512 + Z = at_ + (512 + Z) by omega]; exact this, q2⟩
theorem Lp.told {z Z : Nat} {c' : Cm} {y : Nat} (h : Lp b at_ T c) (h1 : at_ + 512 ≤ b.length) (g : Hg (hb b at_) z) (hZ : tsz (tkd (hb b at_)) z c.2 = Z) (hd : Z ≤ b.length - at_ - 512) (hf : tfin (tus (tkd (hb b at_))) ((b.drop (at_ + 512)).take Z) (tcm (tkd (hb b at_)) c) = (c', y)) (hy : y ≠ 0) :
    Fo b (T ++ (hev (hb b at_) c.1 at_ ((b.drop (at_ + 512)).take Z) ++ evs (at_ + 511 + Z) (tcl (tus (tkd (hb b at_)))))) y (at_ + 511 + Z) := by
  obtain ⟨S, q1, q2⟩ := h.all h1 g hZ hd hf
  exact ⟨_, S, q1, Or.inl ⟨by rw [q2.why]; exact hy, q2.why.symm, by omega⟩⟩
theorem Lp.pad {z Z : Nat} {c' : Cm} (h : Lp b at_ T c) (h1 : at_ + 512 ≤ b.length) (g : Hg (hb b at_) z) (hZ : tsz (tkd (hb b at_)) z c.2 = Z) (hd : Z ≤ b.length - at_ - 512) (hf : tfin (tus (tkd (hb b at_))) ((b.drop (at_ + 512)).take Z) (tcm (tkd (hb b at_)) c) = (c', 0)) (hp : b.length - at_ - 512 - Z < (512 - Z % 512) % 512) :
    Fo b (T ++ (hev (hb b at_) c.1 at_ ((b.drop (at_ + 512)).take Z) ++ evs (at_ + 511 + Z) (tcl (tus (tkd (hb b at_)))))) 1 b.length := by
  obtain ⟨S, q1, q2⟩ := h.all h1 g hZ hd hf
  have hl : (b.drop (at_ + 512 + Z)).length = b.length - at_ - 512 - Z := by rw [List.length_drop]; omega
  obtain ⟨S2, r1, r2, r3⟩ := sw_pad (t := at_ + 512 + Z) (l := b.drop (at_ + 512 + Z)) q2 (Nat.mod_lt _ (by decide)) (by omega)
  have := Lp.go q1 (by rw [List.take_length]) r1 (by omega) r2 r3
  rwa [List.append_nil] at this
theorem Lp.next {z Z : Nat} {c' : Cm} (h : Lp b at_ T c) (h1 : at_ + 512 ≤ b.length) (g : Hg (hb b at_) z) (hZ : tsz (tkd (hb b at_)) z c.2 = Z) (hd : Z ≤ b.length - at_ - 512) (hf : tfin (tus (tkd (hb b at_))) ((b.drop (at_ + 512)).take Z) (tcm (tkd (hb b at_)) c) = (c', 0)) (hp : (512 - Z % 512) % 512 ≤ b.length - at_ - 512 - Z) :
    Lp b (at_ + 512 + Z + (512 - Z % 512) % 512) (T ++ (hev (hb b at_) c.1 at_ ((b.drop (at_ + 512)).take Z) ++ evs (at_ + 511 + Z) (tcl (tus (tkd (hb b at_)))))) c' := by
  obtain ⟨S, q1, q2⟩ := h.all h1 g hZ hd hf
  obtain ⟨P, hP⟩ : ∃ P, (512 - Z % 512) % 512 = P := ⟨_, rfl⟩
  have hl : ((b.drop (at_ + 512 + Z)).take P).length = P := by rw [List.length_take, List.length_drop]; omega
  obtain ⟨S2, r1, r2⟩ := sw_rest (t := at_ + 512 + Z) (l := (b.drop (at_ + 512 + Z)).take P) q2 (Nat.mod_lt _ (by decide)) (by rw [hl, hP])
  have := q1.run (m := (b.drop (at_ + 512 + Z)).take P) (by rw [hl]) r1
  rw [hl, List.append_nil] at this
  rw [hP]
  exact ⟨S2, this, r2⟩
end
end Go.Proofs.YtcmmjbkgoafbnaaDoor

/-
  The document's run in memory; what its stop and its tell come to.
-/
namespace Go.Proofs.YtcmmjbkgoafbnaaDoor
open Go.RowKit
set_option linter.unusedVariables false
theorem tw_u64 (z : Int) : IntKind.u64.wrap z = z % 18446744073709551616 := by
  simp [IntKind.wrap, IntKind.signed, IntKind.bits]
/-- The document's run: events, why and where it was stopped, what is to come. -/
structure Dr where
  ev : List Gev
  why : Nat
  sat : Nat
  nm : List Nat
  nd : Bool
  sz : Nat
  sd : Bool
  sp : Bool
def Dr.cm (r : Dr) : Cm := (if r.nd then some r.nm else none, if r.sd then some r.sz else none)
/-- Events as cells. -/
def gcel (e : Gev) : List Value := [.int .i64 (e.1 : Int), .int .i64 (gk1 e.2.1), .int .u8 (gk2 e.2.1), .int .i64 (gk3 e.2.1), .int .i64 0, .string (st e.2.2)]
def gcs (l : List Gev) : List Value := l.flatMap gcel
def dcs (r : Dr) (v : Value) : Array Value := #[v, .int .i64 (r.why : Int), .int .i64 (r.sat : Int), .string (st r.nm), .bool r.nd, .int .u64 (r.sz : Int), .bool r.sd, .bool r.sp]
theorem gcs_app (M N : List Gev) : gcs (M ++ N) = gcs M ++ gcs N := by simp [gcs]
theorem gcs_one : ∀ (T : List Gev), ∀ u ∈ gcs T, u.oneCell' = true := by
  intro T u hu
  obtain ⟨p, _, hp⟩ := List.mem_flatMap.1 hu
  simp [gcel] at hp
  rcases hp with rfl | rfl | rfl | rfl | rfl | rfl <;> rfl
theorem ginfo75 : (Tryd.prog.info? 75).map (fun i => (i.zero, i.size, i.bytes)) = some (some (.agg #[.int .i64 0, .int .i64 0, .int .u8 0, .int .i64 0, .int .i64 0, .string ⟨#[]⟩]), 6, 56) := by kernel_rfl
/-- The run, in block R; its events in rows from lo on. -/
structure Dm (w : World) (lo R : Nat) (r : Dr) (v : Value) : Prop where
  cells : Cells w R (dcs r v) 29
  ow : Ow w lo 75 6 v r.ev.length (gcs r.ev)
/-- What may turn while it is worked on: R, rows of events from lo on; blocks may come. -/
structure Fr (lo R : Nat) (w w' : World) : Prop where
  bel : Below lo w w'
  size : w.heap.size ≤ w'.heap.size
  kp : ∀ k, k < w.heap.size → k ≠ R → (∀ cs, w.heap[k]? ≠ some (.cells cs 75 (0, 0))) → w'.heap[k]? = w.heap[k]?
theorem Fr.refl (lo R : Nat) (w : World) : Fr lo R w w := ⟨Below.refl _ _, Nat.le_refl _, fun _ _ _ _ => rfl⟩
theorem Fr.trans {lo R : Nat} {w u v : World} (h : Fr lo R w u) (k : Fr lo R u v) : Fr lo R w v := ⟨h.bel.trans k.bel, Nat.le_trans h.size k.size, fun i h1 h2 h3 => by
  have e := h.kp i h1 h2 h3
  exact (k.kp i (Nat.lt_of_lt_of_le h1 h.size) h2 (by rw [e]; exact h3)).trans e⟩
theorem Fr.of_only {lo R : Nat} {w u : World} (h : Only R w u) (hR : lo ≤ R) : Fr lo R w u := ⟨h.below hR, Nat.le_of_eq h.size.symm, fun k _ hk _ => h.block k hk⟩
theorem Fr.of_got {lo R n : Nat} {w u : World} {v v' : Value} {xs : List Value} (h : Got lo 75 6 w u v v' n xs) : Fr lo R w u := ⟨h.bel, h.size, fun k hk _ hn => by
  rcases h.kp k hk with e | ⟨_, cs, e⟩
  · exact e
  · exact absurd e (hn cs)⟩
theorem Fr.of_below {lo R : Nat} {w u : World} (h : Below w.heap.size w u) (hlo : lo ≤ w.heap.size) : Fr lo R w u := ⟨h.mono hlo, h.size, fun k hk _ _ => h.block k hk⟩
theorem Fr.drewN {lo R : Nat} (w : World) (n : Nat) : Fr lo R w (w.drewN n) := ⟨Below.drewN2 (Below.refl _ w) n, Nat.le_refl _, fun k _ _ _ => rfl⟩
section
variable {w : World} {lo R : Nat} {r : Dr} {v : Value}
theorem Dm.lt (h : Dm w lo R r v) : R < w.heap.size := h.cells.lt
theorem Dm.drewN (h : Dm w lo R r v) (n : Nat) : Dm (w.drewN n) lo R r v := ⟨h.cells, h.ow.drewN n⟩
theorem Dm.c0 (h : Dm w lo R r v) : w.cell? ⟨R, 0, none⟩ = some v := (h.cells.cell 0).trans rfl
theorem Dm.c1 (h : Dm w lo R r v) : w.cell? ⟨R, 1, none⟩ = some (.int .i64 (r.why : Int)) := (h.cells.cell 1).trans rfl
theorem Dm.c2 (h : Dm w lo R r v) : w.cell? ⟨R, 2, none⟩ = some (.int .i64 (r.sat : Int)) := (h.cells.cell 2).trans rfl
theorem Dm.c3 (h : Dm w lo R r v) : w.cell? ⟨R, 3, none⟩ = some (.string (st r.nm)) := (h.cells.cell 3).trans rfl
theorem Dm.c4 (h : Dm w lo R r v) : w.cell? ⟨R, 4, none⟩ = some (.bool r.nd) := (h.cells.cell 4).trans rfl
theorem Dm.c5 (h : Dm w lo R r v) : w.cell? ⟨R, 5, none⟩ = some (.int .u64 (r.sz : Int)) := (h.cells.cell 5).trans rfl
theorem Dm.c6 (h : Dm w lo R r v) : w.cell? ⟨R, 6, none⟩ = some (.bool r.sd) := (h.cells.cell 6).trans rfl
theorem Dm.c7 (h : Dm w lo R r v) : w.cell? ⟨R, 7, none⟩ = some (.bool r.sp) := (h.cells.cell 7).trans rfl
theorem Dm.fz (h : Dm w lo R r v) (i : Nat) : w.frozen? ⟨R, i, none⟩ = false := h.cells.frozen i
theorem Dm.below {u : World} (h : Dm w lo R r v) (k : Below w.heap.size w u) : Dm u lo R r v := ⟨h.cells.below k h.cells.lt, h.ow.below k (Nat.le_refl _)⟩
theorem Dm.only {u : World} (h : Dm w lo R r v) (o : Only R w u) {r' : Dr} (he : r'.ev = r.ev) (hc : Cells u R (dcs r' v) 29) : Dm u lo R r' v := by
  refine ⟨hc, ?_⟩
  rw [he]
  refine h.ow.keep (Nat.le_of_eq o.size.symm) fun g _ _ ⟨cs, fr, hx⟩ => o.block g (fun e => ?_)
  subst e
  have := h.cells
  unfold Cells at this
  rw [this] at hx
  cases hx
/-- Stopped. -/
def dstop (y p : Nat) (r : Dr) : Dr := { r with why := y, sat := p, sp := true }
set_option maxHeartbeats 1000000 in
theorem dstop_c (y p : Nat) (h : Dm w lo R r v) : Calls Tryd.prog 27 #[.pointer (some ⟨R, 0, none⟩), .int .i64 (y : Int), .int .i64 (p : Int)] w fun e w' => e = .returned (.tuple #[]) ∧ Dm w' lo R (dstop y p r) v ∧ Only R w w' := by
  have c1 := h.c1
  have z1 := h.fz 1
  have k1 := h.cells.set 1 (.int .i64 (y : Int))
  have c2 : (w.setCell ⟨R, 1, none⟩ (.int .i64 (y : Int))).cell? ⟨R, 2, none⟩ = some (.int .i64 (r.sat : Int)) := (k1.cell 2).trans rfl
  have z2 := k1.frozen 2
  have k2 := k1.set 2 (.int .i64 (p : Int))
  have c3 : ((w.setCell ⟨R, 1, none⟩ (.int .i64 (y : Int))).setCell ⟨R, 2, none⟩ (.int .i64 (p : Int))).cell? ⟨R, 7, none⟩ = some (.bool r.sp) := (k2.cell 7).trans rfl
  have z3 := k2.frozen 7
  have k3 := k2.set 7 (.bool true)
  have o : Only R w (((w.setCell ⟨R, 1, none⟩ (.int .i64 (y : Int))).setCell ⟨R, 2, none⟩ (.int .i64 (p : Int))).setCell ⟨R, 7, none⟩ (.bool true)) := (((Only.refl R w).setCell 1 _).setCell 2 _).setCell 7 _
  have AF : Aside (Dm (((w.setCell ⟨R, 1, none⟩ (.int .i64 (y : Int))).setCell ⟨R, 2, none⟩ (.int .i64 (p : Int))).setCell ⟨R, 7, none⟩ (.bool true)) lo R (dstop y p r) v ∧ Only R w (((w.setCell ⟨R, 1, none⟩ (.int .i64 (y : Int))).setCell ⟨R, 2, none⟩ (.int .i64 (p : Int))).setCell ⟨R, 7, none⟩ (.bool true))) := ⟨h.only o rfl k3, o⟩
  clear h k1 k2 k3 o
  go_enter Tryd.func27, Tryd.ntmps27
  go_wp2_with fail
  first | go_end0 | (refine bodyPost_ret (results_none rfl _ _ _) rfl ?_)
  exact ⟨rfl, AF.out⟩
set_option maxHeartbeats 2000000 in
theorem dtell_c (t g : Nat) (nm : List Nat) (hlo : lo ≤ R) (h : Dm w lo R r v) (hT : r.ev.length < 1000000000000) : Calls Tryd.prog 32 #[.pointer (some ⟨R, 0, none⟩), .int .i64 (t : Int), .agg (gevv g nm)] w fun e w' => e = .returned (.tuple #[]) ∧ (∃ v', Dm w' lo R { r with ev := r.ev ++ [(t, g, nm)] } v') ∧ Fr lo R w w' := by
  obtain ⟨a, c, hv, hc, _, _⟩ := h.ow.shape
  obtain ⟨N, hN⟩ : ∃ N, r.ev.length = N := ⟨_, rfl⟩
  obtain ⟨H, hH⟩ : ∃ H, w.heap.size = H := ⟨_, rfl⟩
  obtain ⟨ek, hek⟩ : ∃ z : Int, gk1 g = z := ⟨_, rfl⟩
  obtain ⟨eb, heb⟩ : ∃ z : Int, gk2 g = z := ⟨_, rfl⟩
  obtain ⟨en', hen⟩ : ∃ z : Int, gk3 g = z := ⟨_, rfl⟩
  obtain ⟨S, hSS⟩ : ∃ S, st nm = S := ⟨_, rfl⟩
  have hevv : gevv g nm = #[.int .i64 ek, .int .u8 eb, .int .i64 en', .int .i64 0, .string S] := by rw [← hek, ← heb, ← hen, ← hSS]; rfl
  have htc : gcs [(t, g, nm)] = [.int .i64 (t : Int), .int .i64 ek, .int .u8 eb, .int .i64 en', .int .i64 0, .string S] := by rw [← hek, ← heb, ← hen, ← hSS]; rfl
  rw [hevv]
  rw [hN] at hv hT
  obtain ⟨w1, hw1⟩ : ∃ w1, w.alloc (.cells #[.int .i64 ek, .int .u8 eb, .int .i64 en', .int .i64 0, .string S] 36) = w1 := ⟨_, rfl⟩
  have b1 : Below w.heap.size w w1 := by rw [← hw1]; exact (Below.refl _ w).alloc (Nat.le_refl _) _
  have r1 := h.below b1
  have hz1 : w1.heap.size = H + 1 := by rw [← hw1, ← hH]; simp
  have k50 : Cells w1 H #[.int .i64 ek, .int .u8 eb, .int .i64 en', .int .i64 0, .string S] 36 := by rw [← hw1, ← hH]; exact Cells.new w _ 36
  obtain ⟨w2, hw2⟩ : ∃ w2, (w1.alloc (.cells #[.int .i64 (t : Int), .int .i64 ek, .int .u8 eb, .int .i64 en', .int .i64 0, .string S] 75)).drew = w2 := ⟨_, rfl⟩
  have b2 : Below w1.heap.size w1 w2 := by rw [← hw2]; exact ((Below.refl _ w1).alloc (Nat.le_refl _) _).drew
  have r2 := r1.below b2
  have k69 : Cells w2 (H + 1) #[.int .i64 (t : Int), .int .i64 ek, .int .u8 eb, .int .i64 en', .int .i64 0, .string S] 75 := by rw [← hw2, ← hz1]; exact (Cells.new w1 _ 75).drew
  have hnews : ∀ (j : Nat) x, (gcs [(t, g, nm)])[j]? = some x → w2.cell? ⟨H + 1, 0 + j, none⟩ = some x := fun j x hj => by
    rw [Nat.zero_add, k69.cell, ← hj, htc]; simp
  have d0 := k50.cell 0
  have d1 := k50.cell 1
  have d2 := k50.cell 2
  have d3 := k50.cell 3
  have d4 := k50.cell 4
  have c0 := r1.c0
  rw [hv] at c0
  have k50' := k50.alloc (.cells #[.int .i64 (t : Int), .int .i64 ek, .int .u8 eb, .int .i64 en', .int .i64 0, .string S] 75)
  have a0 : (w1.alloc (.cells #[.int .i64 (t : Int), .int .i64 ek, .int .u8 eb, .int .i64 en', .int .i64 0, .string S] 75)).cell? ⟨R, 0, none⟩ = some (.slice a N c) := by rw [(r1.cells.alloc _).cell, ← hv]; rfl
  obtain ⟨i0, hi, hz0, hz1', hz2⟩ := ginfo_parts ginfo75
  have how := r2.ow
  rw [hN, hv] at how
  have hk2 : ∀ (v2 : Value) (w3 : World) (n2 : Nat) (xs : List Value), Got lo 75 6 w2 w3 (.slice a N c) v2 n2 xs → w3.cell? ⟨R, 0, none⟩ = some (.slice a N c) ∧ w3.frozen? ⟨R, 0, none⟩ = false := fun v2 w3 n2 xs hg => by
    have k2 := r2.cells.got hg (by decide)
    refine ⟨?_, k2.frozen 0⟩
    rw [k2.cell, ← hv]; rfl
  have A : Aside (Dm w2 lo R r v ∧ Fr lo R w w2 ∧ lo ≤ R ∧ (w1.alloc (.cells #[.int .i64 (t : Int), .int .i64 ek, .int .u8 eb, .int .i64 en', .int .i64 0, .string S] 75)).drew = w2 ∧ r.ev.length = N) := ⟨r2, (Fr.of_below b1 h.ow.le).trans (Fr.of_below b2 r1.ow.le), hlo, hw2, hN⟩
  have AN : Aside (N + 1 ≤ maxLen ∧ (N + 1) * 56 ≤ 140737488355328) := ⟨by unfold maxLen; omega, by omega⟩
  rw [← hw2] at how hnews hk2
  have h1c := gcs_one [(t, g, nm)]
  clear h b1 r1 k50 b2 r2 k69 hw2 hN hc hT hlo hek heb hen hevv htc k50' hSS
  go_enter Tryd.func32, Tryd.ntmps32
  go_upto_region 1 with fail
  go_region_law (refine step_ow Tryd.prog _ rfl (.tmp 10) (.tmp 14) 26 rfl 75 i0 _ 6 56 Tryd.underlying26 hi hz0 hz1' hz2 rfl (by decide) lo (.slice a N c) N _ (by go_simp) how (H + 1) 0 1 _ rfl (by go_simp) hnews h1c AN.out.1 AN.out.2 ?_; intro gg cap w3 hgot; have e4 := (hk2 _ _ _ _ hgot).1; have f4 := (hk2 _ _ _ _ hgot).2)
  all_goals
    go_wp2_with fail
    first | go_end0 | (refine bodyPost_ret (results_none rfl _ _ _) rfl ?_)
    have ae := A.out
    rw [ae.2.2.2.1] at hgot
    have k2 := ae.1.cells.got hgot (by decide)
    refine ⟨rfl, ⟨.slice (some ⟨gg, 0, none⟩) (N + 1) cap, ?_, ?_⟩, (ae.2.1.trans (Fr.of_got hgot)).trans (Fr.of_only ((Only.refl R w3).setCell 0 _) ae.2.2.1)⟩
    · have := k2.set 0 (.slice (some ⟨gg, 0, none⟩) (N + 1) cap)
      exact this
    · have := hgot.ow.set (i := 0) (x := .slice (some ⟨gg, 0, none⟩) (N + 1) cap) k2 (by decide)
      show Ow _ lo 75 6 _ (r.ev ++ [(t, g, nm)]).length (gcs (r.ev ++ [(t, g, nm)]))
      rw [List.length_append, ae.2.2.2.2, gcs_app]
      exact this
end
end Go.Proofs.YtcmmjbkgoafbnaaDoor

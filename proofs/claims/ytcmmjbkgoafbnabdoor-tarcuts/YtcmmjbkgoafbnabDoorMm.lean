/-
  Own texts of this seat, one behind the other: what each says stands ahead of it.
-/
import Derived.Test.YtcmmjbkgoafbnabDoorMk
import Derived.Test.YtcmmjbkgoafbnabDoorMl
import Derived.WalkKit
/-
  A beginning of an archive that is written. No walk.
-/
namespace Go.Proofs.YtcmmjbkgoafbnabDoor
set_option linter.unusedVariables false
set_option linter.unusedSimpArgs false
theorem tend_ps (s : Ts) : (tend s).ps = s.ps := rfl
theorem tbeg_ps (us z : Nat) (s : Ts) : (tbeg us z s).1.ps = s.ps := by
  unfold tbeg
  split <;> rfl
theorem thead_ps (s : Ts) : (thead s).1.ps = s.ps := by
  unfold thead
  split
  · rfl
  · split
    · rfl
    · split
      · rfl
      · split
        · rfl
        · exact tbeg_ps _ _ _
theorem tnx_ps (s : Ts) : (tnx s).ps = s.ps := by
  unfold tnx
  split <;> rfl
theorem tdat_ps (x : Nat) (s : Ts) : (tdat x s).1.ps = s.ps := by
  unfold tdat
  split
  · show (tkp x s).ps = s.ps; exact (tkp_us x s).2.2.2.2.1
  · exact (tkp_us x s).2.2.2.2.1
theorem tput_ps (s : Ts) (x : Nat) : (tput s x).1.ps = (s.ps + 1) % 512 := by
  unfold tput
  split
  · split
    · rename_i h
      show (tnx _).ps = _
      rw [tnx_ps, thead_ps, h]
    · rfl
  · split
    · show (tnx _).ps = _
      rw [tnx_ps, tdat_ps]
    · show (tnx _).ps = _
      rw [tnx_ps]
theorem mr_ps : ∀ {l : List Nat} {t : Nat} {s s' : Ts} {T : List Gev}, Mr t s l s' T → s.ps < 512 → s'.ps = (s.ps + l.length) % 512
  | [], t, s, s', T, h, hp => by rw [h.1]; simp [Nat.mod_eq_of_lt hp]
  | x :: l, t, s, s', T, ⟨_, s1, E, T1, h1, h2, _⟩, hp => by
    have e : s1.ps = (s.ps + 1) % 512 := by rw [h1.1, tput_ps]
    have := mr_ps h2 (by rw [e]; exact Nat.mod_lt _ (by decide))
    rw [this, e, List.length_cons]
    omega
theorem mr_over {l : List Nat} {t : Nat} {s s' : Ts} {T : List Gev} (h : Mr t s l s' T) (h0 : s.why = 0) (h3 : s.wh = 3) (hp : s.ps < 512) : s'.wh = 3 ∧ T = [] ∧ s'.why = 0 := by
  obtain ⟨rfl, rfl⟩ := mr_det _ _ _ _ _ _ _ h (run_over l t s h0 h3 hp)
  exact ⟨h3, rfl, h0⟩
theorem mr_why {l : List Nat} {t : Nat} {s s' : Ts} {T : List Gev} (h : Mr t s l s' T) (h0 : s'.why = 0) : s.why = 0 := by
  cases l with
  | nil => rw [← h.1]; exact h0
  | cons x l => exact h.1
theorem zfin_cut {s : Ts} (h0 : s.why = 0) (h3 : s.wh ≠ 3) (hp : s.ps ≠ 0) : zfin s = 1 := by
  unfold zfin
  rw [if_neg (fun q => q h0), if_neg]
  unfold twhl
  simp [h3, hp]
theorem zfin_01 {s : Ts} (h0 : s.why = 0) : zfin s = 0 ∨ zfin s = 1 := by
  unfold zfin
  rw [if_neg (fun q => q h0)]
  split
  · exact Or.inl rfl
  · exact Or.inr rfl
theorem zfin_over {s : Ts} (h0 : s.why = 0) (h3 : s.wh = 3) : zfin s = 0 := by
  unfold zfin
  rw [if_neg (fun q => q h0), if_pos (by unfold twhl; rw [h3]; rfl)]
/-- What is known of a beginning. -/
structure Ctk (l : List Ent) (k : Nat) (s : Ts) (T : List Gev) : Prop where
  rch : Rch (wri l) k s T
  why : s.why = 0
  pre : ∃ rest, evx T ++ rest = eta l
  end_ : (wal l).length + 512 ≤ k → zfin s = 0
  mid : k % 512 ≠ 0 → k < (wal l).length + 512 → zfin s = 1
theorem cut_at {l : List Ent} (h : ∀ e ∈ l, Eok e) {k : Nat} (hk : k ≤ (wri l).length) : ∃ s T, Ctk l k s T := by
  obtain ⟨s1, T1, q1, q2, q3⟩ := wal_run l 0 t0 h sd0
  have hw : (wri l).length = (wal l).length + 1024 := by unfold wri; rw [List.length_append, List.length_replicate]
  have pm : ∀ {s : Ts} {T : List Gev}, Mr 0 t0 ((wri l).take k) s T → s.ps = k % 512 := fun {s T} hm => by
    have := mr_ps hm (by decide)
    rw [this, List.length_take, Nat.min_eq_left hk]
    show (0 + k) % 512 = _
    rw [Nat.zero_add]
  rcases Nat.lt_or_ge (wal l).length k with hc | hc
  · rcases Nat.lt_or_ge k ((wal l).length + 512) with hd | hd
    · -- within the block of noughts
      have hr := run_head (List.replicate (k - (wal l).length) 0) [] s1.B (0 + (wal l).length) s1 q2.why q2.wh q2.ps rfl q2.bl (by simp; omega)
      have e : (wri l).take k = wal l ++ List.replicate (k - (wal l).length) 0 := by
        unfold wri
        rw [List.take_append, List.take_of_length_le (by omega), List.take_replicate, Nat.min_eq_left (by omega)]
      have hm := (mr_append _ _ _ _ _ _).2 ⟨_, _, _, q1, hr, rfl⟩
      rw [← e] at hm
      have hp := pm hm
      refine ⟨_, _, ⟨hk, hm⟩, q2.why, ⟨[], by rw [List.append_nil, List.append_nil]; exact q3⟩, fun q => by omega, fun q _ => zfin_cut q2.why (by show s1.wh ≠ 3; rw [q2.wh]; decide) (by rw [hp]; exact q)⟩
    · obtain ⟨s2, r1, r2, r3, r4⟩ := zero_run (t := 0 + (wal l).length) q2
      obtain ⟨m, hm0⟩ : ∃ m, k - (wal l).length - 512 = m := ⟨_, rfl⟩
      have e : ∀ z5 : List Nat, z5 = List.replicate 512 0 → (wri l).take k = wal l ++ (z5 ++ List.replicate m 0) := fun z5 h5 => by
        unfold wri
        rw [List.take_append, List.take_of_length_le (by omega), List.take_replicate, h5, List.replicate_append_replicate]
        have e9 : min (k - (wal l).length) 1024 = 512 + m := by omega
        rw [e9]
      obtain ⟨z5, hz5⟩ : ∃ z5 : List Nat, z5 = List.replicate 512 0 := ⟨_, rfl⟩
      have e := e z5 hz5
      obtain ⟨zs, hzs⟩ : ∃ zs : List Nat, List.replicate m 0 = zs := ⟨_, rfl⟩
      rw [hzs] at e
      rw [← hz5] at r1
      clear hz5
      have h4 : s2.ps < 512 := by omega
      have ho := run_over zs (0 + (wal l).length + z5.length) s2 r3 r2 h4
      have hm := (mr_append _ _ _ _ _ _).2 ⟨_, _, _, q1, (mr_append _ _ _ _ _ _).2 ⟨_, _, _, r1, ho, rfl⟩, rfl⟩
      rw [← e] at hm
      refine ⟨_, _, ⟨hk, hm⟩, r3, ⟨[], by rw [List.append_nil, List.append_nil, List.append_nil]; exact q3⟩, fun _ => zfin_over r3 r2, fun _ q => by omega⟩
  · -- within the entries
    have e : wal l = (wal l).take k ++ (wal l).drop k := (List.take_append_drop k _).symm
    rw [e] at q1
    obtain ⟨s, Ta, Tb, ha, hb, hT⟩ := (mr_append _ _ _ _ _ _).1 q1
    have e2 : (wri l).take k = (wal l).take k := by unfold wri; rw [List.take_append_of_le_length hc]
    have ha2 : Mr 0 t0 ((wri l).take k) s Ta := by rw [e2]; exact ha
    have hp := pm ha2
    have h0 := mr_why hb q2.why
    have h3 : s.wh ≠ 3 := fun q => by
      have := (mr_over hb h0 q (by rw [hp]; exact Nat.mod_lt _ (by decide))).1
      rw [q2.wh] at this
      cases this
    refine ⟨s, Ta, ⟨hk, ha2⟩, h0, ⟨evx Tb, by rw [← q3, hT, evx_append]⟩, fun q => by omega, fun q _ => zfin_cut h0 h3 (by rw [hp]; exact q)⟩
/-- Beginnings of lists of names and of data: all but the last one whole. -/
structure Pre (ns ls nn dd : List (List Nat)) : Prop where
  len : ns.length = ls.length
  nam : ∀ (i : Nat) (a : List Nat), ns[i]? = some a → nn[i]? = some a
  dat : ∀ (i : Nat) (a : List Nat), ls[i]? = some a → ∃ d m, dd[i]? = some d ∧ a = d.take m ∧ (i + 1 < ls.length → a = d)
theorem Pre.nil (nn dd : List (List Nat)) : Pre [] [] nn dd := ⟨rfl, fun i a h => by simp at h, fun i a h => by simp at h⟩
theorem Pre.cons {ns ls nn dd : List (List Nat)} (h : Pre ns ls nn dd) (n d : List Nat) : Pre (n :: ns) (d :: ls) (n :: nn) (d :: dd) := by
  refine ⟨by simp [h.len], fun i a ha => ?_, fun i a ha => ?_⟩
  · cases i with
    | zero => simpa using ha
    | succ i => simpa using h.nam i a (by simpa using ha)
  · cases i with
    | zero => simp at ha; subst ha; exact ⟨d, d.length, rfl, by rw [List.take_length], fun _ => rfl⟩
    | succ i =>
      obtain ⟨d2, m, h1, h2, h3⟩ := h.dat i a (by simpa using ha)
      exact ⟨d2, m, by simpa using h1, h2, fun q => h3 (by simp at q; omega)⟩
theorem pre_one (n d : List Nat) (m : Nat) (nn dd : List (List Nat)) : Pre [n] [d.take m] (n :: nn) (d :: dd) := by
  refine ⟨rfl, fun i a ha => ?_, fun i a ha => ?_⟩
  · cases i with
    | zero => simpa using ha
    | succ i => simp at ha
  · cases i with
    | zero => simp at ha; subst ha; exact ⟨d, m, rfl, rfl, fun q => by simp at q⟩
    | succ i => simp at ha
theorem pre_bytes (d : List Nat) (ho : Oct d) (n : List Nat) (ns ls : List (List Nat)) : ∀ (E r : List Evn), E ++ r = d.map (fun x => (x, [])) ++ [(257, [])] → ∃ m, po2 (ns ++ [n]) (ls ++ [[]]) E = (ns ++ [n], ls ++ [d.take m]) := by
  intro E r he
  rcases List.append_eq_append_iff.1 he with ⟨a, h1, h2⟩ | ⟨a, h1, h2⟩
  · -- E is a beginning of the bytes
    have hE : E = (d.take E.length).map (fun x => (x, ([] : List Nat))) := by
      have := congrArg (List.take E.length) h1
      rw [List.take_append_of_le_length (Nat.le_refl _), List.take_length] at this
      rw [← this]
      simp [List.map_take]
    refine ⟨E.length, ?_⟩
    have := po2_bytes (d.take E.length) (ns ++ [n]) ls [] [] (ho.take _)
    rw [List.append_nil, ← hE] at this
    rw [this, List.nil_append]
    rfl
  · -- E has all of them
    have ha : a = [] ∨ a = [(257, [])] := by
      cases a with
      | nil => exact Or.inl rfl
      | cons x a =>
        have h3 : (x :: a).length + r.length = 1 := by rw [← List.length_append, ← h2]; rfl
        rw [List.length_cons] at h3
        have : a = [] := List.eq_nil_of_length_eq_zero (by omega)
        subst this
        simp at h2
        exact Or.inr (by rw [h2.1])
    refine ⟨d.length, ?_⟩
    rw [h1, List.take_length]
    have := po2_bytes d (ns ++ [n]) ls [] a ho
    rw [this, List.nil_append]
    rcases ha with rfl | rfl
    · rfl
    · rw [po2, if_neg (by decide), if_pos rfl]; rfl
theorem po2_pre : ∀ (l : List Ent) (ns ls : List (List Nat)) (E r : List Evn), (∀ e ∈ l, Oct e.2.1) → E ++ r = eta l → ∃ ns' ls', po2 ns ls E = (ns ++ ns', ls ++ ls') ∧ Pre ns' ls' (tdn l) (tdd l)
  | [], ns, ls, E, r, _, h => by
    have : E = [] := by
      have := congrArg List.length h
      rw [List.length_append] at this
      exact List.eq_nil_of_length_eq_zero (by rw [show eta [] = [] from rfl, List.length_nil] at this; omega)
    subst this
    exact ⟨[], [], by simp [po2], Pre.nil _ _⟩
  | e :: l, ns, ls, E, r, ho, h => by
    have h' : E ++ r = ete e ++ eta l := h
    have hoe := ho e (by simp)
    rcases List.append_eq_append_iff.1 h' with ⟨a, h1, h2⟩ | ⟨a, h1, h2⟩
    · -- E is a beginning of the first entry's events
      by_cases hk : e.2.2.2 = 0
      · unfold ete at h1
        rw [if_pos hk] at h1
        cases E with
        | nil => exact ⟨[], [], by simp [po2], Pre.nil _ _⟩
        | cons g E =>
          rw [List.cons_append, List.cons.injEq] at h1
          obtain ⟨rfl, h1⟩ := h1
          obtain ⟨m, hm⟩ := pre_bytes e.2.1 hoe (nmd e.1) ns ls E a h1.symm
          refine ⟨[nmd e.1], [e.2.1.take m], ?_, ?_⟩
          · rw [po2, if_pos rfl]; exact hm
          · show Pre _ _ (if e.2.2.2 = 0 then nmd e.1 :: tdn l else tdn l) (if e.2.2.2 = 0 then e.2.1 :: tdd l else tdd l)
            rw [if_pos hk, if_pos hk]
            exact pre_one _ _ _ _ _
      · unfold ete at h1
        rw [if_neg hk] at h1
        have : E = [] := by
          have := congrArg List.length h1
          rw [List.length_append] at this
          exact List.eq_nil_of_length_eq_zero (by rw [List.length_nil] at this; omega)
        subst this
        exact ⟨[], [], by simp [po2], Pre.nil _ _⟩
    · subst h1
      obtain ⟨ns', ls', q1, q2⟩ := po2_pre l (ns ++ tdn [e]) (ls ++ tdd [e]) a r (fun x hx => ho x (List.mem_cons_of_mem _ hx)) h2.symm
      refine ⟨tdn [e] ++ ns', tdd [e] ++ ls', ?_, ?_⟩
      · rw [po2_ent hoe, q1, List.append_assoc, List.append_assoc]
      · show Pre _ _ (if e.2.2.2 = 0 then nmd e.1 :: tdn l else tdn l) (if e.2.2.2 = 0 then e.2.1 :: tdd l else tdd l)
        by_cases hk : e.2.2.2 = 0
        · rw [if_pos hk, if_pos hk]
          have e1 : tdn [e] = [nmd e.1] := by simp [tdn, hk]
          have e2 : tdd [e] = [e.2.1] := by simp [tdd, hk]
          rw [e1, e2]
          exact q2.cons _ _
        · rw [if_neg hk, if_neg hk]
          have e1 : tdn [e] = [] := by simp [tdn, hk]
          have e2 : tdd [e] = [] := by simp [tdd, hk]
          rw [e1, e2]
          exact q2
theorem Ctk.told {l : List Ent} {k : Nat} {s : Ts} {T : List Gev} (h : Ctk l k s T) (hl : ∀ e ∈ l, Eok e) : ∃ ns ls, po2 [] [] (evx T) = (ns, ls) ∧ Pre ns ls (tdn l) (tdd l) := by
  obtain ⟨rest, hr⟩ := h.pre
  obtain ⟨ns, ls, h1, h2⟩ := po2_pre l [] [] (evx T) rest (fun e he => (hl e he).d) hr
  exact ⟨ns, ls, by simpa using h1, h2⟩
end Go.Proofs.YtcmmjbkgoafbnabDoor

/-
  Slicing from the front, whatever lies there; what told says; a beginning's facts. No walk.
-/
namespace Go.Proofs.YtcmmjbkgoafbnabDoor
open Go.RowKit
set_option linter.unusedVariables false
theorem front (t : TypeId) (a : Option Addr) (L C k : Nat) (h1 : k ≤ L) (h2 : L ≤ C) (ha : a = none → L = 0 ∧ C = 0) (W : World) (ht : t = 26 ∨ t = 28) : (Instr.slice t (.slice a L C) none (some (.int .i64 (k : Int))) none).run Tryd.prog W = .ok (.slice a k C) W := by
  cases a with
  | none =>
    obtain ⟨rfl, rfl⟩ := ha rfl
    obtain rfl : k = 0 := by omega
    rcases ht with rfl | rfl <;> go_simp
  | some p =>
    by_cases h3 : C = 0
    · subst h3
      obtain rfl : L = 0 := by omega
      obtain rfl : k = 0 := by omega
      rcases ht with rfl | rfl <;> go_simp
    · have hk1 : (k : Int) ≤ (L : Int) := by omega
      have hk2 : (k : Int) ≤ (C : Int) := by omega
      have hk0 : (0 : Int) ≤ (k : Int) := by omega
      have hCk2 : ¬ (C : Int) = 0 := by omega
      clear h1 h2 ha
      rcases ht with rfl | rfl <;> go_simp
/-- What told answers. -/
structure Tdm (l : List Ent) (u : World) (e : Ending) (u' : World) : Prop where
  ex : ∃ an n cn al cl, e = .returned (.tuple #[.slice an n cn, .slice al n cl]) ∧ (tdn l).length = n ∧ (tdd l).length = n ∧ n ≤ cn ∧ (an = none → n = 0 ∧ cn = 0) ∧ Nl u' an (tdn l) ∧ Rl u' al (tdd l) ∧ Below u.heap.size u u'
theorem Ea.toldm {w u : World} {a : Option Addr} {l : List Ent} {N : Nat} (h : Ea w a l N) (hu : Below w.heap.size w u) (hs : N * 500 + sdt l < 20000) (C : Nat) : Calls Tryd.prog 8 #[.slice a N C] u fun e w' => Tdm l u e w' := by
  have hok := h.eok hs
  refine (told_c a l N C u h.len (by omega) (h.em.below hu (Nat.le_refl _)) hok).mono fun e w' q => ?_
  obtain ⟨v1, v2, rfl, q⟩ := q
  obtain ⟨vs, q1, q2, q3⟩ := q.ex
  obtain ⟨an, cn, rfl, h1, r1, h2⟩ := q1.nl
  obtain ⟨al, cl, rfl, _, r2, _⟩ := (q3.below q.bel).rl q2 (td_len l)
  exact ⟨an, _, cn, al, cl, rfl, rfl, (td_len l).symm, h1, h2, r1, r2, q.bel⟩
theorem lies_front {w : World} {a : Option Addr} {l : List Nat} (h : Lies w a l) (k : Nat) : Lies w a (l.take k) := by
  rcases h with h | ⟨b, o, ha, hc⟩
  · exact Or.inl (by rw [h, List.take_nil])
  · refine Or.inr ⟨b, o, ha, fun i x hx => ?_⟩
    rw [List.getElem?_take] at hx
    split at hx
    · exact hc i x hx
    · cases hx
theorem Nl.pre {w : World} {a : Option Addr} {ns nn : List (List Nat)} (h : Nl w a nn) (hp : ∀ (i : Nat) (x : List Nat), ns[i]? = some x → nn[i]? = some x) : Nl w a ns := by
  rcases h with h | ⟨g, o, ha, hc⟩
  · refine Or.inl ?_
    cases ns with
    | nil => rfl
    | cons x r => have := hp 0 x rfl; rw [h] at this; simp at this
  · exact Or.inr ⟨g, o, ha, fun i x hx => hc i x (hp i x hx)⟩
theorem Pre.le {ns ls nn dd : List (List Nat)} (h : Pre ns ls nn dd) : ns.length ≤ nn.length := by
  rcases Nat.lt_or_ge nn.length ns.length with q | q
  · exfalso
    have := h.nam nn.length _ (List.getElem?_eq_getElem q)
    rw [List.getElem?_eq_none (Nat.le_refl _)] at this
    cases this
  · exact q
theorem wal_block {l : List Ent} (h : ∀ e ∈ l, Eok e) : (wal l).length % 512 = 0 := by
  obtain ⟨s1, T1, q1, q2, q3⟩ := wal_run l 0 t0 h sd0
  have := mr_ps q1 (by decide)
  rw [q2.ps] at this
  have e : t0.ps = 0 := rfl
  rw [e, Nat.zero_add] at this
  exact this.symm
theorem tdd_sdt (l : List Ent) : ∀ x ∈ tdd l, x.length ≤ sdt l := by
  have : ∀ l : List Ent, ∀ x ∈ tdd l, ∃ e ∈ l, x = e.2.1 := by
    intro l
    induction l with
    | nil => intro x hx; simp [tdd] at hx
    | cons e r ih =>
      intro x hx
      simp only [tdd] at hx
      split at hx
      · rcases List.mem_cons.1 hx with rfl | hx
        · exact ⟨e, by simp, rfl⟩
        · obtain ⟨f, h1, h2⟩ := ih x hx
          exact ⟨f, List.mem_cons_of_mem _ h1, h2⟩
      · obtain ⟨f, h1, h2⟩ := ih x hx
        exact ⟨f, List.mem_cons_of_mem _ h1, h2⟩
  intro x hx
  obtain ⟨e, h1, rfl⟩ := this l x hx
  exact sdt_mem h1
/-- What Whole must say of a beginning, and what the law asks. -/
structure Cf (l : List Ent) (n k : Nat) (ns ls : List (List Nat)) (y : Nat) : Prop where
  run : ∃ s T, Rch ((wri l).take k) k s T ∧ po2 [] [] (evx T) = (ns, ls) ∧ zfin s = y
  pre : Pre ns ls (tdn l) (tdd l)
  y01 : y = 0 ∨ y = 1
  mid : k % 512 = 0 ∨ n < k + 512 ∨ y = 1
  fin : k + 512 < n ∨ y = 0
theorem cf_at {l : List Ent} (h : ∀ e ∈ l, Eok e) {n k : Nat} (hn : (wri l).length = n) (hk : k ≤ n) : ∃ ns ls y, Cf l n k ns ls y := by
  obtain ⟨s, T, q⟩ := cut_at h (k := k) (by omega)
  obtain ⟨ns, ls, h1, h2⟩ := q.told h
  have hw : (wri l).length = (wal l).length + 1024 := by unfold wri; rw [List.length_append, List.length_replicate]
  have hb := wal_block h
  refine ⟨ns, ls, zfin s, ⟨s, T, ⟨by rw [List.length_take]; omega, by rw [List.take_take, Nat.min_self]; exact q.rch.2⟩, h1, rfl⟩, h2, zfin_01 q.why, ?_, ?_⟩
  · by_cases h5 : k % 512 = 0
    · exact Or.inl h5
    · by_cases h6 : k < (wal l).length + 512
      · exact Or.inr (Or.inr (q.mid h5 h6))
      · exact Or.inr (Or.inl (by omega))
  · by_cases h6 : (wal l).length + 512 ≤ k
    · exact Or.inr (q.end_ h6)
    · exact Or.inl (by omega)
end Go.Proofs.YtcmmjbkgoafbnabDoor

/-
  What holds of the walker's states; what bytes of a header, of data and behind it make of them. No walk.
-/
import Derived.Test.YtcmmjbkgoafbnaaGreatDoorTma
namespace Go.Proofs.YtcmmjbkgoafbnaaGreatDoor
set_option linter.unusedVariables false
theorem Oct.app {l m : List Nat} (h : Oct l) (k : Oct m) : Oct (l ++ m) := fun x hx => by
  rcases List.mem_append.1 hx with e | e
  · exact h x e
  · exact k x e
theorem Oct.set {l : List Nat} (h : Oct l) (i : Nat) {x : Nat} (hx : x < 256) : Oct (l.set i x) := fun y hy => by
  rcases List.mem_or_eq_of_mem_set hy with e | e
  · exact h y e
  · rw [e]; exact hx
theorem Oct.sub {l m : List Nat} (h : Oct l) (k : ∀ x ∈ m, x ∈ l) : Oct m := fun x hx => h x (k x hx)
theorem oct_ttx {l : List Nat} (h : Oct l) : Oct (ttx l) := h.sub fun x hx => (List.takeWhile_subset _) hx
theorem ttx_len (l : List Nat) : (ttx l).length ≤ l.length := (List.takeWhile_sublist _).length_le
/-- What is to come is bytes, and not too many. -/
def Okc (c : Cm) : Prop := (∀ n, c.1 = some n → Oct n ∧ n.length ≤ 256) ∧ ∀ z, c.2 = some z → z < 9223372036854775808
theorem tdc_lt : ∀ (l : List Nat) (v z : Nat), v < 9223372036854775808 → tdc v l = some z → z < 9223372036854775808
  | [], v, z, hv, h => by simp only [tdc, Option.some.injEq] at h; omega
  | x :: r, v, z, hv, h => by
    unfold tdc at h
    split at h
    · cases h
    · split at h
      · cases h
      · exact tdc_lt r _ z (by omega) h
theorem tdec_lt {l : List Nat} {z : Nat} (h : tdec l = some z) : z < 9223372036854775808 := by
  unfold tdec at h
  split at h
  · cases h
  · exact tdc_lt l 0 z (by decide) h
theorem tnam_ok {v : List Nat} {c : Cm} (hv : Oct v) (h : Okc c) : Okc (tnam v c).1 := by
  unfold tnam
  split
  · exact h
  · exact ⟨fun n hn => by simp only [Option.some.injEq] at hn; subst hn; exact ⟨hv, by omega⟩, h.2⟩
theorem tsiz_ok {v : List Nat} {c : Cm} (h : Okc c) : Okc (tsiz v c).1 := by
  unfold tsiz
  split
  · exact h
  · rename_i z hz
    exact ⟨h.1, fun n hn => by simp only [Option.some.injEq] at hn; subst hn; exact tdec_lt hz⟩
theorem tset_ok {k v : List Nat} {c : Cm} (hv : Oct v) (h : Okc c) : Okc (tset k v c).1 := by
  unfold tset
  split
  · exact tnam_ok hv h
  · split
    · exact tsiz_ok h
    · exact h
theorem trc_mem {b k v : List Nat} {n : Nat} (h : trc b = some (k, v, n)) : (∀ x ∈ v, x ∈ b) ∧ (∀ x ∈ k, x ∈ b) ∧ 2 ≤ n ∧ n ≤ b.length := by
  unfold trc at h
  split at h
  · cases h
  · rename_i x m hc
    split at h
    · cases h
    · rename_i k' v' ht
      simp only [Option.some.injEq, Prod.mk.injEq] at h
      obtain ⟨rfl, rfl, rfl⟩ := h
      unfold tcut at hc
      simp only at hc
      split at hc
      · cases hc
      · rename_i hn
        simp only [not_or] at hn
        simp only [Option.some.injEq, Prod.mk.injEq] at hc
        obtain ⟨rfl, rfl⟩ := hc
        unfold teq at ht
        split at ht
        · simp only [Option.some.injEq, Prod.mk.injEq] at ht
          obtain ⟨rfl, rfl⟩ := ht
          refine ⟨fun x hx => List.mem_of_mem_take (List.mem_of_mem_drop (List.mem_of_mem_drop hx)), fun x hx => List.mem_of_mem_take (List.mem_of_mem_drop ((List.takeWhile_subset _) hx)), by omega, by omega⟩
        · cases ht
theorem trs_ok : ∀ (f : Nat) (b : List Nat) (c : Cm), Oct b → Okc c → Okc (trs f b c).1
  | 0, b, c, _, h => h
  | f + 1, b, c, hb, h => by
    unfold trs
    split
    · exact h
    · split
      · exact h
      · rename_i k v n hr
        have hv := hb.sub (trc_mem hr).1
        split
        · exact tset_ok hv h
        · exact trs_ok f _ _ (hb.drop n) (tset_ok hv h)
theorem tfin_ok {us : Nat} {d : List Nat} {c : Cm} (hd : Oct d) (h : Okc c) : Okc (tfin us d c).1 := by
  unfold tfin
  split
  · exact tnam_ok (oct_ttx hd) h
  · split
    · exact trs_ok _ _ _ hd h
    · exact h
theorem okc_none : Okc (none, none) := by
  constructor
  · intro n h; cases h
  · intro n h; cases h
theorem tcm_ok {k : Nat} {c : Cm} (h : Okc c) : Okc (tcm k c) := by
  unfold tcm; split
  · exact okc_none
  · exact h
/-- What holds of a state. -/
structure Tok (s : Ts) : Prop where
  bl : s.B.length = 512
  bo : Oct s.B
  kl : s.K.length = 1024
  ko : Oct s.K
  ps : s.ps < 512
  wh : s.wh ≤ 3
  us : s.us ≤ 3
  lf : s.lf < 9223372036854775808
  ln : s.ln ≤ 1024
  cm : Okc (s.nm, s.sz)
/-- And of one that waits for a byte. -/
structure Tod (s : Ts) : Prop where
  ok : Tok s
  da : s.wh = 1 → 1 ≤ s.lf ∧ (2 ≤ s.us → s.ln + s.lf ≤ 1024)
theorem tok0 : Tok t0 := ⟨List.length_replicate, fun x hx => by rw [(List.mem_replicate.1 hx).2]; decide, List.length_replicate, fun x hx => by rw [(List.mem_replicate.1 hx).2]; decide, by decide, by decide, by decide, by decide, by decide, okc_none⟩
theorem tod0 : Tod t0 := ⟨tok0, fun h => by exact absurd (show (0 : Nat) = 1 from h) (by decide)⟩
theorem Tok.fin {s : Ts} (h : Tok s) : Tok (tend s) := ⟨h.bl, h.bo, h.kl, h.ko, h.ps, h.wh, h.us, h.lf, h.ln, tfin_ok (h.ko.take _) h.cm⟩
theorem Tod.of {s : Ts} (h : Tok s) (h1 : s.wh ≠ 1) : Tod s := ⟨h, fun e => absurd e h1⟩
theorem tus_le (k : Nat) : tus k ≤ 3 := by unfold tus; split <;> (try split) <;> (try split) <;> omega
theorem fld_lt {l : List Nat} {z : Nat} (ho : Oct l) (hz : fld l = some z) : z < 9223372036854775808 := by
  unfold fld at hz
  split at hz
  · unfold bin at hz
    split at hz
    · cases hz
    · split at hz
      · have bl : ∀ (l : List Nat) (v u : Nat), v < 9223372036854775808 → (∀ x ∈ l, x < 256) → bins v l = some u → u < 9223372036854775808 := by
          intro l
          induction l with
          | nil => intro v u hv _ h; simp only [bins, Option.some.injEq] at h; omega
          | cons x r ih =>
            intro v u hv hx h
            unfold bins at h
            split at h
            · cases h
            · have := hx x (by simp)
              exact ih _ u (by omega) (fun y hy => hx y (List.mem_cons_of_mem _ hy)) h
        rename_i x r e hx
        have hm : ∀ y ∈ x :: r, y < 256 := fun y hy => ho y hy
        have := hm x (by simp)
        exact bl r _ z (by omega) (fun y hy => hm y (List.mem_cons_of_mem _ hy)) hz
      · cases hz
  · exact oct_lt hz
theorem Tok.head {s : Ts} (h : Tok s) (h0 : s.wh = 0) : Tod (thead s).1 := by
  unfold thead
  split
  · exact Tod.of ⟨h.bl, h.bo, h.kl, h.ko, h.ps, Nat.le_refl _, h.us, h.lf, h.ln, h.cm⟩ (by show (3 : Nat) ≠ 1; decide)
  · split
    · exact Tod.of ⟨h.bl, h.bo, h.kl, h.ko, h.ps, h.wh, h.us, h.lf, h.ln, h.cm⟩ (by show s.wh ≠ 1; rw [h0]; decide)
    · split
      · exact Tod.of ⟨h.bl, h.bo, h.kl, h.ko, h.ps, h.wh, h.us, h.lf, h.ln, h.cm⟩ (by show s.wh ≠ 1; rw [h0]; decide)
      · rename_i z hz
        have hz1 : z < 9223372036854775808 := fld_lt ((h.bo.drop 124).take 12) hz
        split
        · exact Tod.of ⟨h.bl, h.bo, h.kl, h.ko, h.ps, h.wh, h.us, h.lf, h.ln, h.cm⟩ (by show s.wh ≠ 1; rw [h0]; decide)
        · rename_i hm
          have hs : tsz (tkd s.B) z s.sz < 9223372036854775808 := by
            unfold tsz
            split
            · cases e : s.sz with
              | none => exact hz1
              | some q => exact h.cm.2 q e
            · exact hz1
          have hln : (if (town (tkd s.B) || tus (tkd s.B) == 0) = true then s.ln else 0) ≤ 1024 := by
            have := h.ln
            split <;> omega
          have hda : 2 ≤ tus (tkd s.B) → (if (town (tkd s.B) || tus (tkd s.B) == 0) = true then s.ln else 0) + tsz (tkd s.B) z s.sz ≤ 1024 := by
            intro hu
            have hk : tkd s.B = 76 ∨ tkd s.B = 120 := by
              by_cases e1 : tkd s.B = 76
              · exact Or.inl e1
              · by_cases e2 : tkd s.B = 120
                · exact Or.inr e2
                · exfalso
                  unfold tus at hu
                  rw [if_neg e1, if_neg e2] at hu
                  split at hu <;> omega
            rcases hk with e | e
            · rw [e] at hm ⊢
              simp [tmuch] at hm
              simp [town, tus, tsz]
              omega
            · rw [e] at hm ⊢
              simp [tmuch] at hm
              simp [town, tus, tsz]
              omega
          unfold tbeg
          split
          · exact Tod.of (Tok.fin ⟨h.bl, h.bo, h.kl, h.ko, h.ps, h.wh, tus_le _, hs, hln, tcm_ok h.cm⟩) (by show s.wh ≠ 1; rw [h0]; decide)
          · exact ⟨⟨h.bl, h.bo, h.kl, h.ko, h.ps, by show (1 : Nat) ≤ 3; decide, tus_le _, hs, hln, tcm_ok h.cm⟩, fun e => ⟨by show 1 ≤ tsz (tkd s.B) z s.sz; omega, hda⟩⟩
theorem Tod.kp {s : Ts} (hh : Tod s) (h1 : s.wh = 1) {x : Nat} (hx : x < 256) : (tkp x s).B.length = 512 ∧ Oct (tkp x s).B ∧ (tkp x s).K.length = 1024 ∧ Oct (tkp x s).K ∧ (tkp x s).ps < 512 ∧ (tkp x s).us ≤ 3 ∧ (tkp x s).lf < 9223372036854775808 ∧ (tkp x s).ln ≤ 1024 ∧ (s.lf ≠ 1 → 1 ≤ (tkp x s).lf ∧ (2 ≤ (tkp x s).us → (tkp x s).ln + (tkp x s).lf ≤ 1024)) ∧ Okc ((tkp x s).nm, (tkp x s).sz) ∧ (tkp x s).wh = s.wh := by
  have hd := hh.da h1
  have h := hh.ok
  have hl := h.lf
  have hn := h.ln
  have hu := h.us
  unfold tkp
  split
  · rename_i e
    exact ⟨h.bl, h.bo, by simp [h.kl], h.ko.set _ hx, h.ps, h.us, by simp; omega, by simp; omega, fun e1 => by simp; omega, h.cm, rfl⟩
  · rename_i e
    exact ⟨h.bl, h.bo, h.kl, h.ko, h.ps, h.us, by simp; omega, h.ln, fun e1 => by simp; omega, h.cm, rfl⟩
theorem Tod.dat {s : Ts} (h : Tod s) (h1 : s.wh = 1) {x : Nat} (hx : x < 256) : Tod (tdat x s).1 := by
  obtain ⟨q1, q2, q3, q4, q5, q6, q7, q8, q9, q10, q11⟩ := h.kp h1 hx
  unfold tdat
  split
  · exact Tod.of (Tok.fin ⟨q1, q2, q3, q4, q5, by show (2 : Nat) ≤ 3; decide, q6, q7, q8, q10⟩) (by show (2 : Nat) ≠ 1; decide)
  · rename_i e
    exact ⟨⟨q1, q2, q3, q4, q5, by rw [q11]; exact h.ok.wh, q6, q7, q8, q10⟩, fun _ => q9 e⟩
theorem Tod.nx {s : Ts} (h : Tod s) : Tod (tnx s) := by
  unfold tnx
  split
  · exact Tod.of ⟨h.ok.bl, h.ok.bo, h.ok.kl, h.ok.ko, h.ok.ps, by show (0 : Nat) ≤ 3; decide, h.ok.us, h.ok.lf, h.ok.ln, h.ok.cm⟩ (by show (0 : Nat) ≠ 1; decide)
  · exact h
theorem Tod.put {s : Ts} (hh : Tod s) {x : Nat} (hx : x < 256) : Tod (tput s x).1 := by
  have hm := Nat.mod_lt (s.ps + 1) (show 0 < 512 by decide)
  have h := hh.ok
  unfold tput
  split
  · rename_i e
    split
    · exact (Tok.head (s := { s with B := s.B.set s.ps x, ps := 0 }) ⟨by simp [h.bl], h.bo.set _ hx, h.kl, h.ko, by show (0 : Nat) < 512; decide, h.wh, h.us, h.lf, h.ln, h.cm⟩ e).nx
    · exact Tod.of ⟨by simp [h.bl], h.bo.set _ hx, h.kl, h.ko, hm, h.wh, h.us, h.lf, h.ln, h.cm⟩ (by show s.wh ≠ 1; rw [e]; decide)
  · split
    · rename_i e
      exact (Tod.dat (s := { s with ps := (s.ps + 1) % 512 }) ⟨⟨h.bl, h.bo, h.kl, h.ko, hm, h.wh, h.us, h.lf, h.ln, h.cm⟩, hh.da⟩ e hx).nx
    · rename_i e
      exact Tod.nx (Tod.of ⟨h.bl, h.bo, h.kl, h.ko, hm, h.wh, h.us, h.lf, h.ln, h.cm⟩ e)
theorem Mr.ok : ∀ {l : List Nat} {t : Nat} {s s' : Ts} {T : List Gev}, Mr t s l s' T → Tod s → Oct l → Tod s'
  | [], t, s, s', T, h, k, _ => by rw [h.1]; exact k
  | x :: l, t, s, s', T, ⟨_, s1, E, T1, h1, h2, _⟩, k, ho => by
    have := k.put (ho x (by simp))
    rw [← h1.1] at this
    exact Mr.ok h2 this fun y hy => ho y (List.mem_cons_of_mem _ hy)
theorem Rch.ok {b : List Nat} {k : Nat} {s : Ts} {T : List Gev} (h : Rch b k s T) (ho : Oct b) : Tod s := h.2.ok tod0 (ho.take k)
/-- Bytes that tell nothing, one behind the other. -/
theorem mr_cons {t x : Nat} {l : List Nat} {s s1 s' : Ts} {E : List Evn} {T : List Gev} (h0 : s.why = 0) (h1 : tput s x = (s1, E)) (h2 : Mr (t + 1) s1 l s' T) : Mr t s (x :: l) s' (evs t E ++ T) := ⟨h0, s1, E, T, ⟨by rw [h1], by rw [h1]⟩, h2, rfl⟩
theorem mr_one {t x : Nat} {s s1 : Ts} {E : List Evn} (h0 : s.why = 0) (h1 : tput s x = (s1, E)) : Mr t s [x] s1 (evs t E) := by
  have := mr_cons (t := t) (l := []) h0 h1 ⟨rfl, rfl⟩
  simpa using this
theorem set_block {P q : List Nat} {x y : Nat} {l : List Nat} : (P ++ y :: l).set P.length x = P ++ x :: l := by
  rw [List.set_append_right _ _ (Nat.le_refl _), Nat.sub_self, List.set_cons_zero]
/-- A header's bytes, but the last one. -/
theorem run_head : ∀ (l P q : List Nat) (t : Nat) (s : Ts), s.why = 0 → s.wh = 0 → s.ps = P.length → s.B = P ++ q → q.length = 512 - P.length → P.length + l.length < 512 → Mr t s l { s with B := P ++ l ++ q.drop l.length, ps := P.length + l.length } []
  | [], P, q, t, s, h0, h1, h2, h3, h4, h5 => by
    refine ⟨?_, rfl⟩
    simp only [List.append_nil, List.length_nil, List.drop_zero, Nat.add_zero]
    rw [← h3, ← h2]
  | x :: l, P, q, t, s, h0, h1, h2, h3, h4, h5 => by
    rw [List.length_cons] at h5
    cases q with
    | nil => rw [List.length_nil] at h4; omega
    | cons y q =>
      rw [List.length_cons] at h4
      have e : tput s x = ({ s with B := P ++ x :: q, ps := P.length + 1 }, []) := by
        unfold tput
        rw [if_pos h1, if_neg (by rw [h2, Nat.mod_eq_of_lt (by omega)]; omega), h2, Nat.mod_eq_of_lt (by omega), h3, set_block (q := [])]
      have ih := run_head l (P ++ [x]) q (t + 1) { s with B := P ++ x :: q, ps := P.length + 1 } h0 h1 (by simp) (by simp) (by simp; omega) (by simp; omega)
      have := mr_cons (t := t) h0 e ih
      simp only [evs, List.map_nil, List.nil_append] at this
      have e2 : P ++ [x] ++ l ++ q.drop l.length = P ++ x :: l ++ (y :: q).drop (x :: l).length := by simp
      rw [e2] at this
      rw [show P.length + (x :: l).length = (P ++ [x]).length + l.length by simp; omega]
      exact this
/-- A header as a whole. -/
theorem run_block {h : List Nat} {t : Nat} {s : Ts} (h0 : s.why = 0) (h1 : s.wh = 0) (h2 : s.ps = 0) (h3 : s.B.length = 512) (h4 : h.length = 512) : Mr t s h (tnx (thead { s with B := h, ps := 0 }).1) (evs (t + 511) (thead { s with B := h, ps := 0 }).2) := by
  obtain ⟨x, hx⟩ : ∃ x, h = h.take 511 ++ [x] := ⟨h[511]'(by omega), by
    rw [← List.take_succ_eq_append_getElem (by omega), List.take_of_length_le (by omega)]⟩
  have hl : (h.take 511).length = 511 := by rw [List.length_take]; omega
  have r := run_head (h.take 511) [] s.B t s h0 h1 h2 rfl (by simp [h3]) (by simp; omega)
  have e : tput { s with B := [] ++ h.take 511 ++ s.B.drop (h.take 511).length, ps := ([] : List Nat).length + (h.take 511).length } x = (tnx (thead { s with B := h, ps := 0 }).1, (thead { s with B := h, ps := 0 }).2) := by
    have e2 : ([] ++ h.take 511 ++ s.B.drop (h.take 511).length).set (([] : List Nat).length + (h.take 511).length) x = h := by
      rw [hl]
      obtain ⟨y, hy⟩ : ∃ y, s.B.drop 511 = [y] := List.length_eq_one_iff.1 (by rw [List.length_drop]; omega)
      rw [hy, List.nil_append, List.length_nil, Nat.zero_add]
      conv => rhs; rw [hx]
      have := set_block (q := []) (P := h.take 511) (x := x) (y := y) (l := [])
      rw [hl] at this
      exact this
    unfold tput
    simp only [e2]
    rw [if_pos h1, if_pos (by rw [hl]; rfl)]
  have m := mr_one (t := t + 511) (s := { s with B := [] ++ h.take 511 ++ s.B.drop (h.take 511).length, ps := ([] : List Nat).length + (h.take 511).length }) h0 e
  have q : Mr t s (h.take 511 ++ [x]) (tnx (thead { s with B := h, ps := 0 }).1) (evs (t + 511) (thead { s with B := h, ps := 0 }).2) := by
    refine (mr_append _ _ _ _ _ _).2 ⟨_, _, _, r, ?_, rfl⟩
    have m2 := m
    rw [show t + 511 = t + (h.take 511).length by rw [hl]] at m2
    rw [show t + 511 = t + (h.take 511).length by rw [hl]]
    exact m2
  rw [← hx] at q
  exact q
/-- What a file's bytes tell. -/
def bts (us t : Nat) (l : List Nat) : List Gev := if us = 1 then l.mapIdx fun i x => (t + i, x, []) else []
theorem bts_cons (us t x : Nat) (l : List Nat) : bts us t (x :: l) = evs t (tbt us x) ++ bts us (t + 1) l := by
  unfold bts tbt
  split
  · have e : (fun (i x : Nat) => ((t + (i + 1), x, []) : Gev)) = fun i x => (t + 1 + i, x, []) := by
      funext i x
      rw [show t + (i + 1) = t + 1 + i by omega]
    simp [evs, List.mapIdx_cons, e]
  · simp [evs]
/-- What bytes of data make of it, but the last one. -/
def tdt (l : List Nat) (s : Ts) : Ts := if s.us = 2 ∨ s.us = 3 then { s with K := s.K.take s.ln ++ l ++ s.K.drop (s.ln + l.length), ln := s.ln + l.length, lf := s.lf - l.length, ps := (s.ps + l.length) % 512 } else { s with lf := s.lf - l.length, ps := (s.ps + l.length) % 512 }
theorem tdt_nil (s : Ts) (hp : s.ps < 512) : tdt [] s = s := by
  unfold tdt
  split
  · simp [Nat.mod_eq_of_lt hp]
  · simp [Nat.mod_eq_of_lt hp]
theorem tdt_cons (x : Nat) (l : List Nat) (s : Ts) (hk : 2 ≤ s.us → s.ln + l.length < s.K.length) : tdt (x :: l) s = tdt l (tkp x { s with ps := (s.ps + 1) % 512 }) := by
  unfold tdt tkp
  by_cases e : s.us = 2 ∨ s.us = 3
  · have hk := hk (by omega)
    simp only [if_pos e]
    have e1 : s.K.take s.ln ++ x :: l ++ s.K.drop (s.ln + (x :: l).length) = (s.K.set s.ln x).take (s.ln + 1) ++ l ++ (s.K.set s.ln x).drop (s.ln + 1 + l.length) := by
      rw [List.drop_set_of_lt (by omega), List.take_succ_eq_append_getElem (by rw [List.length_set]; omega), List.take_set_of_le (Nat.le_refl _)]
      simp
      rw [show s.ln + (l.length + 1) = s.ln + 1 + l.length by omega]
    have e2 : s.ln + (x :: l).length = s.ln + 1 + l.length := by rw [List.length_cons]; omega
    have e3 : s.lf - (x :: l).length = s.lf - 1 - l.length := by rw [List.length_cons]; omega
    have e4 : (s.ps + (x :: l).length) % 512 = ((s.ps + 1) % 512 + l.length) % 512 := by rw [List.length_cons]; omega
    rw [e1, e2, e3, e4]
  · have e3 : s.lf - (x :: l).length = s.lf - 1 - l.length := by rw [List.length_cons]; omega
    have e4 : (s.ps + (x :: l).length) % 512 = ((s.ps + 1) % 512 + l.length) % 512 := by rw [List.length_cons]; omega
    simp only [if_neg e]
    rw [e3, e4]
theorem tnx_wh {s : Ts} (h : s.wh = 1) : tnx s = s := by unfold tnx; rw [if_neg (by rw [h]; omega)]
theorem tkp_us (x : Nat) (s : Ts) : (tkp x s).us = s.us ∧ (tkp x s).wh = s.wh ∧ (tkp x s).why = s.why ∧ (tkp x s).lf = s.lf - 1 ∧ (tkp x s).ps = s.ps ∧ (tkp x s).K.length = s.K.length ∧ (2 ≤ s.us → s.us ≤ 3 → (tkp x s).ln = s.ln + 1) := by
  unfold tkp
  split
  · exact ⟨rfl, rfl, rfl, rfl, rfl, by simp, fun _ _ => rfl⟩
  · exact ⟨rfl, rfl, rfl, rfl, rfl, rfl, fun _ _ => by omega⟩
theorem run_data : ∀ (l : List Nat) (t : Nat) (s : Ts), s.why = 0 → s.wh = 1 → l.length < s.lf → s.ps < 512 → s.us ≤ 3 → (2 ≤ s.us → s.ln + s.lf ≤ s.K.length) → Mr t s l (tdt l s) (bts s.us t l)
  | [], t, s, h0, h1, h2, h3, h4, h5 => ⟨tdt_nil s h3, by unfold bts; split <;> rfl⟩
  | x :: l, t, s, h0, h1, h2, h3, h4, h5 => by
    rw [List.length_cons] at h2
    obtain ⟨u1, u2, u3, u4, u5, u6, u7⟩ := tkp_us x { s with ps := (s.ps + 1) % 512 }
    have e : tput s x = (tkp x { s with ps := (s.ps + 1) % 512 }, tbt s.us x) := by
      unfold tput
      rw [if_neg (by omega), if_pos h1]
      unfold tdat
      simp only
      rw [if_neg (by omega), tnx_wh (by rw [u2]; exact h1)]
    have hm := Nat.mod_lt (s.ps + 1) (show 0 < 512 by decide)
    have ih := run_data l (t + 1) (tkp x { s with ps := (s.ps + 1) % 512 }) (by rw [u3]; exact h0) (by rw [u2]; exact h1) (by rw [u4]; show _ < s.lf - 1; omega) (by rw [u5]; exact hm) (by rw [u1]; exact h4) (fun q => by
      rw [u1] at q
      have q' : 2 ≤ s.us := q
      have := u7 q' h4
      have h6 := h5 q'
      rw [this, u4, u6]
      show s.ln + 1 + (s.lf - 1) ≤ s.K.length
      omega)
    have := mr_cons (t := t) h0 e ih
    rw [tdt_cons x l s (fun q => by have := h5 q; omega), bts_cons]
    have u1' : (tkp x { s with ps := (s.ps + 1) % 512 }).us = s.us := u1
    rw [u1'] at this
    exact this
theorem tput_last {s : Ts} {x : Nat} (h1 : s.wh = 1) (h2 : s.lf = 1) : tput s x = (tnx (tend { tkp x { s with ps := (s.ps + 1) % 512 } with wh := 2 }), tbt s.us x ++ tcl s.us) := by
  unfold tput
  rw [if_neg (by omega), if_pos h1]
  unfold tdat
  simp only
  rw [if_pos h2]
/-- All data, at least one byte of it. -/
theorem run_all {l : List Nat} {t : Nat} {s : Ts} (h0 : s.why = 0) (h1 : s.wh = 1) (h2 : l.length = s.lf) (hp : 0 < l.length) (h3 : s.ps < 512) (h4 : s.us ≤ 3) (h5 : 2 ≤ s.us → s.ln + s.lf ≤ s.K.length) : Mr t s l (tnx (tend { tdt l s with wh := 2 })) (bts s.us t l ++ evs (t + l.length - 1) (tcl s.us)) := by
  obtain ⟨m, x, rfl⟩ : ∃ m x, l = m ++ [x] := by
    rcases List.eq_nil_or_concat l with e | ⟨m, x, e⟩
    · rw [e] at hp; simp at hp
    · exact ⟨m, x, by rw [e]; simp⟩
  have hlen : (m ++ [x]).length = m.length + 1 := by simp
  rw [hlen] at h2 hp
  have r := run_data m t s h0 h1 (by omega) h3 h4 h5
  have hw : (tdt m s).why = 0 ∧ (tdt m s).wh = 1 ∧ (tdt m s).us = s.us ∧ (tdt m s).lf = s.lf - m.length ∧ (tdt m s).K.length = s.K.length ∧ (2 ≤ s.us → (tdt m s).ln = s.ln + m.length) := by
    unfold tdt
    split
    · rename_i e
      have := h5 (by omega)
      exact ⟨h0, h1, rfl, rfl, by simp; omega, fun _ => rfl⟩
    · exact ⟨h0, h1, rfl, rfl, rfl, fun _ => by omega⟩
  have e : tput (tdt m s) x = (tnx (tend { tdt (m ++ [x]) s with wh := 2 }), tbt s.us x ++ tcl s.us) := by
    have e1 : { tdt (m ++ [x]) s with wh := 2 } = { tkp x { tdt m s with ps := ((tdt m s).ps + 1) % 512 } with wh := 2 } := by
      have e4 : (s.ps + (m ++ [x]).length) % 512 = ((s.ps + m.length) % 512 + 1) % 512 := by rw [hlen]; omega
      have e3 : s.lf - (m ++ [x]).length = s.lf - m.length - 1 := by rw [hlen]; omega
      by_cases e : s.us = 2 ∨ s.us = 3
      · have h6 := h5 (by omega)
        unfold tdt tkp
        simp only [if_pos e]
        rw [e3, e4]
        have e5 : s.K.take s.ln ++ (m ++ [x]) ++ s.K.drop (s.ln + (m ++ [x]).length) = (s.K.take s.ln ++ m ++ s.K.drop (s.ln + m.length)).set (s.ln + m.length) x := by
          have hk : s.ln + m.length < s.K.length := by omega
          rw [List.drop_eq_getElem_cons hk]
          have := set_block (q := []) (P := s.K.take s.ln ++ m) (x := x) (y := s.K[s.ln + m.length]) (l := s.K.drop (s.ln + m.length + 1))
          rw [List.length_append, List.length_take, Nat.min_eq_left (by omega)] at this
          rw [this, hlen]
          simp
          rw [show s.ln + (m.length + 1) = s.ln + m.length + 1 by omega]
        rw [e5, hlen]
        rfl
      · unfold tdt tkp
        simp only [if_neg e]
        rw [e3, e4]
    have e6 := tput_last (s := tdt m s) (x := x) hw.2.1 (by omega)
    rw [e6, show tbt (tdt m s).us x ++ tcl (tdt m s).us = tbt s.us x ++ tcl s.us by rw [hw.2.2.1]]
    exact congrArg (fun z => (tnx (tend z), tbt s.us x ++ tcl s.us)) e1.symm
  have q := mr_one (t := t + m.length) hw.1 e
  refine (mr_append _ _ _ _ _ _).2 ⟨_, _, _, r, q, ?_⟩
  have : bts s.us t (m ++ [x]) = bts s.us t m ++ evs (t + m.length) (tbt s.us x) := by
    unfold bts tbt
    split
    · simp [evs]
    · simp [evs]
  rw [this, List.append_assoc, hlen, show t + (m.length + 1) - 1 = t + m.length by omega]
  simp [evs]
/-- What stands behind data. -/
theorem run_pad : ∀ (l : List Nat) (t : Nat) (s : Ts), s.why = 0 → s.wh = 2 → 0 < s.ps → s.ps + l.length < 512 → Mr t s l { s with ps := s.ps + l.length } []
  | [], t, s, h0, h1, h2, h3 => ⟨rfl, rfl⟩
  | x :: l, t, s, h0, h1, h2, h3 => by
    rw [List.length_cons] at h3
    have e : tput s x = ({ s with ps := s.ps + 1 }, []) := by
      unfold tput
      rw [if_neg (by omega), if_neg (by omega), Nat.mod_eq_of_lt (by omega)]
      unfold tnx
      simp only
      rw [if_neg (by omega)]
    have ih := run_pad l (t + 1) { s with ps := s.ps + 1 } h0 h1 (by show 0 < s.ps + 1; omega) (by show s.ps + 1 + l.length < 512; omega)
    have := mr_cons (t := t) h0 e ih
    rw [show s.ps + (x :: l).length = s.ps + 1 + l.length by rw [List.length_cons]; omega]
    simpa [evs] using this
theorem run_rest {l : List Nat} {t : Nat} {s : Ts} (h0 : s.why = 0) (h1 : s.wh = 2) (h2 : 0 < s.ps) (h3 : s.ps + l.length = 512) (h4 : s.ps < 512) : Mr t s l { s with ps := 0, wh := 0 } [] := by
  obtain ⟨m, x, rfl⟩ : ∃ m x, l = m ++ [x] := by
    rcases List.eq_nil_or_concat l with e | ⟨m, x, e⟩
    · rw [e] at h3; simp at h3; omega
    · exact ⟨m, x, by rw [e]; simp⟩
  have hlen : (m ++ [x]).length = m.length + 1 := by simp
  rw [hlen] at h3
  have r := run_pad m t s h0 h1 h2 (by omega)
  have e : tput { s with ps := s.ps + m.length } x = ({ s with ps := 0, wh := 0 }, []) := by
    unfold tput
    simp only
    rw [if_neg (by omega), if_neg (by omega), show (s.ps + m.length + 1) % 512 = 0 by omega]
    unfold tnx
    simp only
    simp [h1]
  exact (mr_append _ _ _ _ _ _).2 ⟨_, _, _, r, mr_one (t := t + m.length) h0 e, by simp [evs]⟩
/-- Behind the end nothing is looked at. -/
theorem run_over : ∀ (l : List Nat) (t : Nat) (s : Ts), s.why = 0 → s.wh = 3 → s.ps < 512 → Mr t s l { s with ps := (s.ps + l.length) % 512 } []
  | [], t, s, h0, h1, h2 => ⟨by simp [Nat.mod_eq_of_lt h2], rfl⟩
  | x :: l, t, s, h0, h1, h2 => by
    have e : tput s x = ({ s with ps := (s.ps + 1) % 512 }, []) := by
      unfold tput
      rw [if_neg (by omega), if_neg (by omega)]
      unfold tnx
      simp only
      rw [if_neg (by omega)]
    have ih := run_over l (t + 1) { s with ps := (s.ps + 1) % 512 } h0 h1 (Nat.mod_lt _ (by decide))
    have := mr_cons (t := t) h0 e ih
    rw [show (s.ps + (x :: l).length) % 512 = ((s.ps + 1) % 512 + l.length) % 512 by rw [List.length_cons]; omega]
    simpa [evs] using this
end Go.Proofs.YtcmmjbkgoafbnaaGreatDoor

/-
  Own texts of this seat, one behind the other: what each says stands ahead of it.
-/
import Derived.Test.YtogednaamndpgaaGreatDoorMm
import Derived.Test.YtogednaamndpgaaGreatDoorMb
import Derived.Test.YtogednaamndpgaaGreatDoorMf
/-
 The tokens of a text, their bits, and what these do. No walk in this text.
-/
namespace Go.Proofs.YtogednaamndpgaaGreatDoor
set_option linter.unusedVariables false
abbrev Tok := Nat ⊕ (Nat × Nat)
abbrev Tok.lit (b : Nat) : Tok := .inl b
abbrev Tok.cp (n d : Nat) : Tok := .inr (n, d)
theorem Tok.el {motive : Tok → Prop} (t : Tok) (lit : ∀ b, motive (.lit b)) (cp : ∀ n d, motive (.cp n d)) : motive t :=
 match t with
 | .inl b => lit b
 | .inr (n, d) => cp n d
def lsym (n : Nat) : Nat := match (List.range 28).find? (fun i => decide (n < lbase (257 + i) + 2 ^ lmore (257 + i) ∧ n ≠ 258)) with
 | some i => 257 + i
 | none => 285
def dsym (d : Nat) : Nat := match (List.range 30).find? (fun i => decide (d < dbase i + 2 ^ dmore i)) with
 | some i => i
 | none => 30
theorem lsym_ok {n : Nat} (h1 : 3 ≤ n) (h2 : n ≤ 258) : 257 ≤ lsym n ∧ lsym n ≤ 285 ∧ lbase (lsym n) ≤ n ∧ n - lbase (lsym n) < 2 ^ lmore (lsym n) := by
 have : ∀ j : _root_.Fin 256, 257 ≤ lsym (j.1 + 3) ∧ lsym (j.1 + 3) ≤ 285 ∧ lbase (lsym (j.1 + 3)) ≤ j.1 + 3 ∧ j.1 + 3 - lbase (lsym (j.1 + 3)) < 2 ^ lmore (lsym (j.1 + 3)) := by decide +kernel
 have := this ⟨n - 3, by omega⟩
 rwa [show n - 3 + 3 = n by omega] at this
theorem dsym_ok {d : Nat} (h1 : 1 ≤ d) (h2 : d ≤ 200) : dsym d ≤ 29 ∧ dbase (dsym d) ≤ d ∧ d - dbase (dsym d) < 2 ^ dmore (dsym d) := by
 have : ∀ j : _root_.Fin 200, dsym (j.1 + 1) ≤ 29 ∧ dbase (dsym (j.1 + 1)) ≤ j.1 + 1 ∧ j.1 + 1 - dbase (dsym (j.1 + 1)) < 2 ^ dmore (dsym (j.1 + 1)) := by decide +kernel
 have := this ⟨d - 1, by omega⟩
 rwa [show d - 1 + 1 = d by omega] at this
def tokBits (lit di : List Nat) : Tok → List Bool
 | .inl b => cbits lit b
 | .inr (n, d) => cbits lit (lsym n) ++ (bitsOf (lmore (lsym n)) (n - lbase (lsym n)) ++ (cbits di (dsym d) ++ bitsOf (dmore (dsym d)) (d - dbase (dsym d))))
def Has (ls : List Nat) (s : Nat) : Prop := ∃ n, ls[s]? = some n ∧ 0 < n
def Uses (lit di : List Nat) : Tok → Prop
 | .inl b => Has lit b
 | .inr (n, d) => Has lit (lsym n) ∧ Has di (dsym d)
def Tells (T : List Nat) : Nat → List Tok → Nat → Prop
 | i, [], e => i = e
 | i, .lit b :: r, e => T[i]? = some b ∧ Tells T (i + 1) r e
 | i, .cp n d :: r, e => 3 ≤ n ∧ n ≤ 258 ∧ 1 ≤ d ∧ d ≤ 200 ∧ d ≤ i ∧ i + n ≤ T.length ∧ (∀ k, k < n → T[i + k]? = T[i + k - d]?) ∧ Tells T (i + n) r e
theorem again_text {T : List Nat} {d : Nat} (hd : 1 ≤ d) : ∀ (n i : Nat), d ≤ i → i + n ≤ T.length → (∀ k, k < n → T[i + k]? = T[i + k - d]?) → again (T.take i) d n = T.take (i + n)
 | 0, i, _, _, _ => rfl
 | n + 1, i, h1, h2, h3 => by
  have hl : (T.take i).length = i := by rw [List.length_take]; omega
  have h0 := h3 0 (by omega)
  rw [Nat.add_zero] at h0
  have hi : i < T.length := by omega
  have e1 : (T.take i).getD ((T.take i).length - d) 0 = T[i] := by
   rw [hl, List.getD_eq_getElem?_getD, List.getElem?_take, if_pos (by omega), ← h0, List.getElem?_eq_getElem hi]
   rfl
  unfold again
  rw [e1, show T.take i ++ [T[i]] = T.take (i + 1) by rw [List.take_add_one, List.getElem?_eq_getElem hi]; rfl]
  have := again_text (T := T) hd n (i + 1) (by omega) (by omega) (fun k hk => by
   have := h3 (k + 1) (by omega)
   rwa [show i + (k + 1) = i + 1 + k by omega] at this)
  rw [this, show i + 1 + n = i + (n + 1) by omega]
theorem lead_toks {most : Nat} {last : Bool} {lit di T : List Nat} (hf : Fits lit) (hd : Fits di) (hT : T.length ≤ most) (ho : Oct T) :
  ∀ (l : List Tok) (i e p : Nat), (∀ x ∈ l, Uses lit di x) → Tells T i l e → i ≤ T.length → Leads most (.sym last lit di) (.sym last lit di) (l.flatMap (tokBits lit di)) p (T.take i) (T.take e)
 | [], i, e, p, _, ht, hi => by
  have : i = e := ht
  subst this
  exact Leads.refl _ _ _ _
 | .inl b :: r, i, e, p, hu, ht, hi => by
  obtain ⟨h1, h2⟩ := ht
  obtain ⟨n, hn, hn0⟩ : Has lit b := hu (.lit b) (List.mem_cons_self ..)
  have hb : b < 256 := ho b (List.mem_of_getElem? h1)
  have hi2 : i < T.length := (List.getElem?_eq_some_iff.1 h1).1
  have q1 : Leads most (.sym last lit di) (.sym last lit di) (cbits lit b) p (T.take i) (T.take i ++ [b]) := lead_lit hf hb hn hn0 (by rw [List.length_take]; omega)
  rw [show T.take i ++ [b] = T.take (i + 1) by rw [List.take_add_one, h1]; rfl] at q1
  have q2 := q1.trans (lead_toks hf hd hT ho r (i + 1) e _ (fun x hx => hu x (List.mem_cons_of_mem _ hx)) h2 (by omega))
  rw [List.flatMap_cons]
  exact q2
 | .inr (n, d) :: r, i, e, p, hu, ht, hi => by
  obtain ⟨h1, h2, h3, h4, h5, h6, h7, h8⟩ := ht
  obtain ⟨⟨m, hm, hm0⟩, ⟨k, hk, hk0⟩⟩ : Has lit (lsym n) ∧ Has di (dsym d) := hu (.cp n d) (List.mem_cons_self ..)
  obtain ⟨l1, l2, l3, l4⟩ := lsym_ok h1 h2
  obtain ⟨d1, d2, d3⟩ := dsym_ok h3 h4
  have hl : (T.take i).length = i := by rw [List.length_take]; omega
  have q1 := lead_copy (most := most) (last := last) (p := p) (o := T.take i) hf hd l1 l2 hm hm0 l4 d1 hk hk0 d3 (by rw [hl]; omega) (by rw [hl]; omega)
  rw [show lbase (lsym n) + (n - lbase (lsym n)) = n by omega, show dbase (dsym d) + (d - dbase (dsym d)) = d by omega, again_text h3 n i h5 h6 h7] at q1
  have q2 := q1.trans (lead_toks hf hd hT ho r (i + n) e _ (fun x hx => hu x (List.mem_cons_of_mem _ hx)) h8 h6)
  rw [List.flatMap_cons]
  exact q2
theorem lead_body {most : Nat} {last : Bool} {lit di T : List Nat} {p : Nat} (hf : Fits lit) (hd : Fits di) (hT : T.length ≤ most) (ho : Oct T) (h256 : Has lit 256) {l : List Tok} {i e : Nat} (hu : ∀ x ∈ l, Uses lit di x) (ht : Tells T i l e) (hi : i ≤ T.length) :
  Leads most (.sym last lit di) (.head last) (l.flatMap (tokBits lit di) ++ cbits lit 256) p (T.take i) (T.take e) := by
 obtain ⟨n, hn, hn0⟩ := h256
 exact (lead_toks hf hd hT ho l i e p hu ht hi).trans (lead_end hf hn hn0)
theorem fits_fixL : Fits fixL := by
 refine ⟨by decide +kernel, ?_⟩
 have : fixL.all (fun x => decide (x ≤ 15)) = true := by decide +kernel
 intro x hx
 exact of_decide_eq_true (List.all_eq_true.1 this x hx)
theorem fits_fixD : Fits fixD := by
 refine ⟨by decide +kernel, fun x hx => ?_⟩
 rw [List.eq_of_mem_replicate hx]; omega
theorem has_fixL {s : Nat} (h : s < 288) : Has fixL s := by
 have : ∀ j : _root_.Fin 288, 0 < fixL.getD j.1 0 := by decide +kernel
 refine ⟨fixL.getD s 0, ?_, this ⟨s, h⟩⟩
 have hl : s < fixL.length := by simp [fixL, h]
 rw [List.getD_eq_getElem?_getD, List.getElem?_eq_getElem hl]
 rfl
theorem has_fixD {s : Nat} (h : s < 32) : Has fixD s := ⟨5, by unfold fixD; rw [List.getElem?_replicate, if_pos h], by omega⟩
theorem Tells.uses_fix {T : List Nat} (ho : Oct T) : ∀ {l : List Tok} {i e : Nat}, Tells T i l e → ∀ x ∈ l, Uses fixL fixD x
 | [], _, _, _, x, hx => by cases hx
 | .inl b :: r, i, e, ht, x, hx => by
  rcases List.mem_cons.1 hx with rfl | hx
  ·exact has_fixL (by have := ho b (List.mem_of_getElem? ht.1); omega)
  ·exact Tells.uses_fix ho ht.2 x hx
 | .inr (n, d) :: r, i, e, ht, x, hx => by
  rcases List.mem_cons.1 hx with rfl | hx
  ·exact ⟨has_fixL (by have := (lsym_ok ht.1 ht.2.1).2.1; omega), has_fixD (by have := (dsym_ok ht.2.2.1 ht.2.2.2.1).1; omega)⟩
  ·exact Tells.uses_fix ho ht.2.2.2.2.2.2.2 x hx
end Go.Proofs.YtogednaamndpgaaGreatDoor

/-
 Lengths of codes for the symbols that are used, all of one length or one more: they are a whole code. No walk in this text.
-/
namespace Go.Proofs.YtogednaamndpgaaGreatDoor
set_option linter.unusedVariables false
def addUp (least : Nat) : List Bool → Nat → List Bool
 | [], _ => []
 | u :: r, n => if n < least ∧ u = false then true :: addUp least r (n + 1) else u :: addUp least r n
def fl (k n : Nat) : List Bool → Nat → List Nat
 | [], _ => []
 | false :: r, sh => 0 :: fl k n r sh
 | true :: r, sh => if 0 < sh ∧ 1 < n then k :: fl k n r (sh - 1) else (k + 1) :: fl k n r sh
theorem fl_len (k n : Nat) : ∀ (U : List Bool) (sh : Nat), (fl k n U sh).length = U.length
 | [], _ => rfl
 | false :: r, sh => by unfold fl; simp [fl_len k n r sh]
 | true :: r, sh => by unfold fl; split <;> simp [fl_len k n r]
theorem fl_le (k n : Nat) : ∀ (U : List Bool) (sh : Nat), ∀ x ∈ fl k n U sh, x ≤ k + 1
 | [], _, x, hx => by cases hx
 | false :: r, sh, x, hx => by
  unfold fl at hx
  rcases List.mem_cons.1 hx with rfl | hx
  ·omega
  ·exact fl_le k n r sh x hx
 | true :: r, sh, x, hx => by
  unfold fl at hx
  split at hx
  ·rcases List.mem_cons.1 hx with rfl | hx
   ·omega
   ·exact fl_le k n r _ x hx
  ·rcases List.mem_cons.1 hx with rfl | hx
   ·omega
   ·exact fl_le k n r _ x hx
theorem fl_has (k n : Nat) (hk : 1 < n → 0 < k) : ∀ (U : List Bool) (sh s : Nat), U[s]? = some true → Has (fl k n U sh) s
 | [], _, s, h => by simp at h
 | false :: r, sh, 0, h => by simp at h
 | false :: r, sh, s + 1, h => by
  obtain ⟨m, h1, h2⟩ := fl_has k n hk r sh s (by simpa using h)
  exact ⟨m, by unfold fl; simpa using h1, h2⟩
 | true :: r, sh, 0, h => by
  unfold fl
  split
  ·rename_i q; exact ⟨k, rfl, hk q.2⟩
  ·exact ⟨k + 1, rfl, by omega⟩
 | true :: r, sh, s + 1, h => by
  unfold fl
  split
  ·obtain ⟨m, h1, h2⟩ := fl_has k n hk r (sh - 1) s (by simpa using h)
   exact ⟨m, by simpa using h1, h2⟩
  ·obtain ⟨m, h1, h2⟩ := fl_has k n hk r sh s (by simpa using h)
   exact ⟨m, by simpa using h1, h2⟩
theorem fl_kr (k n : Nat) (h1 : 1 < n) (hk : 0 < k) (hk2 : k ≤ 14) : ∀ (U : List Bool) (sh : Nat), kr (fl k n U sh) = (U.count true + min sh (U.count true)) * 2 ^ (14 - k)
 | [], _ => by simp [fl, kr]
 | false :: r, sh => by
  unfold fl kr
  rw [fl_kr k n h1 hk hk2 r sh]
  simp
 | true :: r, sh => by
  unfold fl
  have hc : (true :: r).count true = r.count true + 1 := by simp
  rw [hc]
  split
  ·rename_i q
   unfold kr
   rw [fl_kr k n h1 hk hk2 r (sh - 1), if_neg (by omega), show 15 - k = (14 - k) + 1 by omega, Nat.pow_succ, show r.count true + 1 + min sh (r.count true + 1) = 2 + (r.count true + min (sh - 1) (r.count true)) by omega, Nat.add_mul 2, Nat.mul_comm (2 ^ (14 - k)) 2]
  ·rename_i q
   have hsh : sh = 0 := by omega
   subst hsh
   unfold kr
   rw [fl_kr k n h1 hk hk2 r 0, if_neg (by omega), show 15 - (k + 1) = 14 - k by omega, Nat.zero_min, Nat.zero_min, Nat.add_zero, Nat.add_zero, Nat.add_mul]
   omega
def fullOf (U : List Bool) : List Nat := fl (Nat.log2 (U.count true)) (U.count true) U (2 ^ (Nat.log2 (U.count true) + 1) - U.count true)
theorem full_kr {U : List Bool} (h1 : 1 < U.count true) (h2 : U.count true < 32768) : kr (fullOf U) = 32768 := by
 have hne : U.count true ≠ 0 := by omega
 have hlo := Nat.log2_self_le hne
 have hhi := Nat.lt_log2_self (n := U.count true)
 obtain ⟨n, hn⟩ : ∃ n, U.count true = n := ⟨_, rfl⟩
 obtain ⟨k, hk⟩ : ∃ k, Nat.log2 (U.count true) = k := ⟨_, rfl⟩
 unfold fullOf
 rw [hk] at hlo hhi ⊢
 rw [hn] at hlo hhi h1 h2 hne ⊢
 have hk0 : 0 < k := by
  apply Nat.pos_of_ne_zero
  intro e
  rw [e] at hhi
  omega
 have hk14 : k ≤ 14 := by
  apply Decidable.byContradiction
  intro e
  have : 2 ^ 15 ≤ 2 ^ k := Nat.pow_le_pow_right (by omega) (by omega)
  omega
 rw [fl_kr k n h1 hk0 hk14, hn]
 have hp : 2 ^ (k + 1) = 2 ^ k * 2 := Nat.pow_succ ..
 rw [Nat.min_eq_left (by omega), show n + (2 ^ (k + 1) - n) = 2 ^ (k + 1) by omega, ← Nat.pow_add, show k + 1 + (14 - k) = 15 by omega]
theorem full_has {U : List Bool} {s : Nat} (h : U[s]? = some true) : Has (fullOf U) s := by
 refine fl_has _ _ (fun hn => ?_) U _ s h
 apply Nat.pos_of_ne_zero
 intro e
 have := Nat.lt_log2_self (n := U.count true)
 rw [e] at this
 omega
theorem full_len (U : List Bool) : (fullOf U).length = U.length := fl_len _ _ _ _
theorem log_le {n m : Nat} (h : n < 2 ^ (m + 1)) : Nat.log2 n ≤ m := by
 by_cases h0 : n = 0
 ·subst h0; simp
 ·apply Decidable.byContradiction
  intro e
  have h1 := Nat.log2_self_le h0
  have : 2 ^ (m + 1) ≤ 2 ^ Nat.log2 n := Nat.pow_le_pow_right (by omega) (by omega)
  omega
theorem full_le {U : List Bool} {m : Nat} (h : U.count true < 2 ^ (m + 1)) : ∀ x ∈ fullOf U, x ≤ m + 1 := fun x hx => by
 have := fl_le _ _ _ _ x hx
 have := log_le h
 omega
theorem fl_few (n : Nat) (hn : n ≤ 1) : ∀ (U : List Bool) (sh : Nat), fl 0 n U sh = U.map fun u => if u then 1 else 0
 | [], _ => rfl
 | false :: r, sh => by unfold fl; rw [fl_few n hn r sh]; rfl
 | true :: r, sh => by unfold fl; rw [if_neg (by omega), fl_few n hn r sh]; rfl
theorem few_used : ∀ U : List Bool, used (U.map fun u => if u then 1 else 0) = U.count true ∧ (U.map fun u => if u then 1 else 0).count 1 = U.count true ∧ kr (U.map fun u => if u then 1 else 0) = U.count true * 16384
 | [] => ⟨rfl, rfl, rfl⟩
 | false :: r => by
  obtain ⟨h1, h2, h3⟩ := few_used r
  refine ⟨?_, ?_, ?_⟩
  ·unfold used at *; simpa using h1
  ·simpa using h2
  ·simp [kr, h3]
 | true :: r => by
  obtain ⟨h1, h2, h3⟩ := few_used r
  refine ⟨?_, ?_, ?_⟩
  ·unfold used at *; simpa using h1
  ·simpa using h2
  ·simp [kr, h3]; omega
theorem full_mays {U : List Bool} (h : U.length ≤ 320) : mays (fullOf U) = true ∧ Fits (fullOf U) := by
 have hc : U.count true ≤ U.length := List.count_le_length
 have h15 : ∀ x ∈ fullOf U, x ≤ 15 := fun x hx => by
  have := full_le (m := 8) (U := U) (by omega) x hx
  omega
 have hk : kr (fullOf U) ≤ 32768 ∧ ¬ Under (fullOf U) := by
  by_cases h1 : 1 < U.count true
  ·have := full_kr h1 (by omega)
   exact ⟨by omega, by unfold Under; omega⟩
  ·have e : fullOf U = U.map fun u => if u then 1 else 0 := by
    unfold fullOf
    have : Nat.log2 (U.count true) = 0 := by
     have := log_le (n := U.count true) (m := 0) (by omega)
     omega
    rw [this]
    exact fl_few _ (by omega) U _
   obtain ⟨q1, q2, q3⟩ := few_used U
   rw [e]
   refine ⟨by omega, ?_⟩
   unfold Under
   rw [q1, q2]
   omega
 refine ⟨?_, by rw [← kr_part h15]; exact hk.1, h15⟩
 unfold mays
 exact decide_eq_true ⟨by rw [full_len]; exact h, h15, hk.1, hk.2⟩
end Go.Proofs.YtogednaamndpgaaGreatDoor

/-
 A dynamic block's lengths as they are said, and what their bits do. No walk in this text.
-/
namespace Go.Proofs.YtogednaamndpgaaGreatDoor
set_option linter.unusedVariables false
structure Say where
 s : Nat
 v : Nat
 n : Nat
def sayBits (code : List Nat) (x : Say) : List Bool := cbits code x.s ++ bitsOf x.n x.v
def Says (row : List Nat) : Nat → List Say → Prop
 | i, [] => i = row.length
 | i, x :: r => (x.s < 16 ∧ x.n = 0 ∧ row[i]? = some x.s ∧ Says row (i + 1) r) ∨
   (x.s = 16 ∧ x.n = 2 ∧ x.v < 4 ∧ 0 < i ∧ i + (3 + x.v) ≤ row.length ∧ (∀ k, k < 3 + x.v → row[i + k]? = row[i - 1]?) ∧ Says row (i + (3 + x.v)) r) ∨
   (x.s = 17 ∧ x.n = 3 ∧ x.v < 8 ∧ i + (3 + x.v) ≤ row.length ∧ (∀ k, k < 3 + x.v → row[i + k]? = some 0) ∧ Says row (i + (3 + x.v)) r) ∨
   (x.s = 18 ∧ x.n = 7 ∧ x.v < 128 ∧ i + (11 + x.v) ≤ row.length ∧ (∀ k, k < 11 + x.v → row[i + k]? = some 0) ∧ Says row (i + (11 + x.v)) r)
theorem take_same {row : List Nat} {z : Nat} : ∀ (n i : Nat), i + n ≤ row.length → (∀ k, k < n → row[i + k]? = some z) → row.take i ++ List.replicate n z = row.take (i + n)
 | 0, i, _, _ => by simp
 | n + 1, i, h1, h2 => by
  have h0 := h2 0 (by omega)
  rw [Nat.add_zero] at h0
  have := take_same (row := row) (z := z) n (i + 1) (by omega) (fun k hk => by have := h2 (k + 1) (by omega); rwa [show i + (k + 1) = i + 1 + k by omega] at this)
  rw [List.replicate_succ, show i + (n + 1) = i + 1 + n by omega, ← this, List.take_add_one, h0]
  simp
theorem lead_says {most : Nat} {last : Bool} {A D : Nat} {code row o : List Nat} (hf : Fits code) (hr : row.length = A + D) :
  ∀ (l : List Say) (i p : Nat), (∀ x ∈ l, Has code x.s) → Says row i l → i ≤ row.length → Leads most (.dsym last A D code (row.take i)) (.dsym last A D code row) (l.flatMap (sayBits code)) p o o
 | [], i, p, _, hs, hi => by
  have : i = row.length := hs
  rw [this, List.take_length]
  exact Leads.refl _ _ _ _
 | x :: r, i, p, hh, hs, hi => by
  obtain ⟨m, hm, hm0⟩ := hh x (List.mem_cons_self ..)
  have hh2 : ∀ y ∈ r, Has code y.s := fun y hy => hh y (List.mem_cons_of_mem _ hy)
  have hl : (row.take i).length = i := by rw [List.length_take]; omega
  rw [List.flatMap_cons]
  unfold sayBits
  have drep : ∀ (q : Nat), 16 ≤ x.s → ¬ (x.s = 16 ∧ row.take i = []) → i < row.length → Leads most (.dsym last A D code (row.take i)) (.drep last A D code (row.take i) x.s) (cbits code x.s) q o o := by
   intro q h1 h2 h3
   refine Leads.one fun times => ⟨times, fun pre t hp => ?_⟩
   unfold step
   simp only [sym_at hf hm hm0 pre t hp, hl, if_pos (show i < A + D by omega), if_neg (show ¬ x.s < 16 by omega), if_neg h2]
   rw [cbits_n hm]
  rcases hs with ⟨h1, h2, h3, h4⟩ | ⟨h1, h2, h3, h4, h5, h6, h7⟩ | ⟨h1, h2, h3, h4, h5, h6⟩ | ⟨h1, h2, h3, h4, h5, h6⟩
  ·have hi2 := (List.getElem?_eq_some_iff.1 h3).1
   have q1 : Leads most (.dsym last A D code (row.take i)) (.dsym last A D code (row.take (i + 1))) (cbits code x.s) p o o := by
    refine Leads.one fun times => ⟨times, fun pre t hp => ?_⟩
    unfold step
    simp only [sym_at hf hm hm0 pre t hp, hl, if_pos (show i < A + D by omega), if_pos h1]
    rw [cbits_n hm, List.take_add_one, h3]
    rfl
   have e : bitsOf x.n x.v = [] := by rw [h2]; rfl
   rw [e, List.append_nil]
   exact q1.trans (lead_says hf hr r (i + 1) _ hh2 h4 (by omega))
  ·have hne : row.take i ≠ [] := by intro e; rw [e] at hl; simp at hl; omega
   have hz : row[i - 1]? = some (row.getD (i - 1) 0) := by rw [List.getD_eq_getElem?_getD, List.getElem?_eq_getElem (by omega)]; rfl
   have hz2 : (row.take i).getD (i - 1) 0 = row.getD (i - 1) 0 := by rw [List.getD_eq_getElem?_getD, List.getElem?_take, if_pos (by omega), hz]; rfl
   have q2 : ∀ q, Leads most (.drep last A D code (row.take i) x.s) (.dsym last A D code (row.take (i + (3 + x.v)))) (bitsOf x.n x.v) q o o := by
    intro q
    refine Leads.one fun times => ⟨times, fun pre t hp => ?_⟩
    rw [h1, h2]
    unfold step
    simp only [if_true, num_at pre t 2 x.v hp, Option.map_some, bitsOf_length, Nat.mod_eq_of_lt (show x.v < 2 ^ 2 from h3), hl, hz2]
    rw [if_neg (show ¬ (16 = 18) by omega), if_neg (by omega), take_same (3 + x.v) i h5 (fun k hk => by rw [h6 k hk, hz])]
   exact ((drep p (by omega) (by rintro ⟨_, e⟩; exact hne e) (by omega)).trans (q2 _)).trans (lead_says hf hr r _ _ hh2 h7 h5)
  ·have q2 : ∀ q, Leads most (.drep last A D code (row.take i) x.s) (.dsym last A D code (row.take (i + (3 + x.v)))) (bitsOf x.n x.v) q o o := by
    intro q
    refine Leads.one fun times => ⟨times, fun pre t hp => ?_⟩
    rw [h1, h2]
    unfold step
    simp only [if_true, if_neg (show ¬ (17 = 16) by omega), num_at pre t 3 x.v hp, Option.map_some, bitsOf_length, Nat.mod_eq_of_lt (show x.v < 2 ^ 3 from h3), hl]
    rw [if_neg (show ¬ (17 = 18) by omega), if_neg (by omega), take_same (3 + x.v) i h4 h5]
   exact ((drep p (by omega) (by rintro ⟨e, _⟩; omega) (by omega)).trans (q2 _)).trans (lead_says hf hr r _ _ hh2 h6 h4)
  ·have q2 : ∀ q, Leads most (.drep last A D code (row.take i) x.s) (.dsym last A D code (row.take (i + (11 + x.v)))) (bitsOf x.n x.v) q o o := by
    intro q
    refine Leads.one fun times => ⟨times, fun pre t hp => ?_⟩
    rw [h1, h2]
    unfold step
    simp only [if_true, if_neg (show ¬ (18 = 16) by omega), if_neg (show ¬ (18 = 17) by omega), num_at pre t 7 x.v hp, Option.map_some, bitsOf_length, Nat.mod_eq_of_lt (show x.v < 2 ^ 7 from h3), hl]
    rw [if_neg (by omega), take_same (11 + x.v) i h4 h5]
   exact ((drep p (by omega) (by rintro ⟨e, _⟩; omega) (by omega)).trans (q2 _)).trans (lead_says hf hr r _ _ hh2 h6 h4)
end Go.Proofs.YtogednaamndpgaaGreatDoor

/-
 A whole dynamic block, and what its bits do. No walk in this text.
-/
namespace Go.Proofs.YtogednaamndpgaaGreatDoor
set_option linter.unusedVariables false
def fill (f : List Nat) (idx : List Nat) (F : List Nat) : List Nat := idx.foldl (fun F j => F.set j (f.getD j 0)) F
theorem fill_snoc (f idx F : List Nat) (j : Nat) : fill f (idx ++ [j]) F = (fill f idx F).set j (f.getD j 0) := by simp [fill]
theorem fill_len (f : List Nat) : ∀ (idx F : List Nat), (fill f idx F).length = F.length
 | [], F => rfl
 | j :: r, F => by
  show (fill f r (F.set j (f.getD j 0))).length = _
  rw [fill_len f r, List.length_set]
theorem fill_at (f : List Nat) {j : Nat} : ∀ (idx F : List Nat), F.length = f.length → (j ∈ idx ∨ F[j]? = f[j]?) → (fill f idx F)[j]? = f[j]?
 | [], F, hl, h => by
  rcases h with h | h
  ·cases h
  ·exact h
 | i :: r, F, hl, h => by
  show (fill f r (F.set i (f.getD i 0)))[j]? = _
  refine fill_at f r _ (by rw [List.length_set]; exact hl) ?_
  by_cases hij : i = j
  ·subst hij
   right
   by_cases hi : i < F.length
   ·rw [List.getElem?_set_self hi, List.getD_eq_getElem?_getD, List.getElem?_eq_getElem (by omega)]
    rfl
   ·rw [List.getElem?_eq_none (by rw [List.length_set]; omega), List.getElem?_eq_none (by omega)]
  ·rcases h with h | h
   ·left
    rcases List.mem_cons.1 h with e | e
    ·exact absurd e.symm hij
    ·exact e
   ·right
    rw [List.getElem?_set_ne hij]
    exact h
theorem fill_all {f : List Nat} (h : f.length = 19) : fill f ordr (List.replicate 19 0) = f := by
 apply List.ext_getElem?
 intro j
 by_cases hj : j < 19
 ·refine fill_at f ordr _ (by simp [h]) (Or.inl ?_)
  have : ∀ k : _root_.Fin 19, k.1 ∈ ordr := by decide
  exact this ⟨j, hj⟩
 ·rw [List.getElem?_eq_none (by rw [fill_len]; simp; omega), List.getElem?_eq_none (by omega)]
def firstBits (f : List Nat) : List Nat → List Bool := fun idx => idx.flatMap fun j => bitsOf 3 (f.getD j 0)
theorem lead_first_part {most : Nat} {last : Bool} {A D : Nat} {f o : List Nat} (h8 : ∀ x ∈ f, x < 8) : ∀ (i p : Nat), i ≤ 19 → Leads most (.dfst last A D 19 0 (List.replicate 19 0)) (.dfst last A D 19 i (fill f (ordr.take i) (List.replicate 19 0))) (firstBits f (ordr.take i)) p o o
 | 0, p, _ => Leads.refl _ _ _ _
 | i + 1, p, hi => by
  obtain ⟨h1, h2⟩ : ordr[i]? = some (ordr.getD i 0) ∧ ordr.getD i 0 < 19 := by
   have : ∀ j : _root_.Fin 19, ordr[j.1]? = some (ordr.getD j.1 0) ∧ ordr.getD j.1 0 < 19 := by decide
   exact this ⟨i, by omega⟩
  have ht : ordr.take (i + 1) = ordr.take i ++ [ordr.getD i 0] := by rw [List.take_add_one, h1]; rfl
  have hv : f.getD (ordr.getD i 0) 0 < 2 ^ 3 := by
   rw [List.getD_eq_getElem?_getD]
   cases e : f[ordr.getD i 0]? with
   | none => simp
   | some y => exact h8 y (List.mem_of_getElem? e)
  have q : ∀ q, Leads most (.dfst last A D 19 i (fill f (ordr.take i) (List.replicate 19 0))) (.dfst last A D 19 (i + 1) (fill f (ordr.take (i + 1)) (List.replicate 19 0))) (bitsOf 3 (f.getD (ordr.getD i 0) 0)) q o o := by
   intro q
   refine Leads.one fun times => ⟨times, fun pre t hp => ?_⟩
   unfold step
   simp only [if_pos (show i < 19 by omega), num_at pre t 3 _ hp, Option.map_some, Nat.mod_eq_of_lt hv, bitsOf_length]
   rw [ht, fill_snoc]
  have := (lead_first_part h8 i p (by omega)).trans (q _)
  have e : firstBits f (ordr.take (i + 1)) = firstBits f (ordr.take i) ++ bitsOf 3 (f.getD (ordr.getD i 0) 0) := by unfold firstBits; rw [ht, List.flatMap_append]; simp
  rw [e]
  exact this
theorem lead_first {most : Nat} {last : Bool} {A D p : Nat} {f o : List Nat} (hl : f.length = 19) (h8 : ∀ x ∈ f, x < 8) (hk : kr f = 32768) : Leads most (.dfst last A D 19 0 (List.replicate 19 0)) (.dsym last A D f []) (firstBits f ordr) p o o := by
 have h1 := lead_first_part (most := most) (last := last) (A := A) (D := D) (o := o) h8 19 p (Nat.le_refl _)
 rw [show ordr.take 19 = ordr by decide, fill_all hl] at h1
 have h2 : ∀ q, Leads most (.dfst last A D 19 19 f) (.dsym last A D f []) [] q o o := fun q => Leads.one fun times => ⟨times, fun pre t hp => by
  unfold step
  simp only [if_neg (Nat.lt_irrefl 19), if_pos hk]
  rfl⟩
 have := h1.trans (h2 _)
 rwa [List.append_nil] at this
theorem lead_dynamic {most : Nat} {last : Bool} {p : Nat} {f lit di T : List Nat} {says : List Say} {l : List Tok} {i e : Nat} (hl : f.length = 19) (h8 : ∀ x ∈ f, x < 8) (hk : kr f = 32768) (hff : Fits f)
  (ha : lit.length = 286) (hb : di.length = 30) (hsay : Says (lit ++ di) 0 says) (hhas : ∀ x ∈ says, Has f x.s) (hm1 : mays lit = true) (hm2 : mays di = true) (hf1 : Fits lit) (hf2 : Fits di) (h256 : Has lit 256)
  (hT : T.length ≤ most) (ho : Oct T) (hu : ∀ x ∈ l, Uses lit di x) (ht : Tells T i l e) (hi : i ≤ T.length) :
  Leads most (.dnum last) (.head last) ((bitsOf 5 29 ++ (bitsOf 5 29 ++ bitsOf 4 15)) ++ (firstBits f ordr ++ (says.flatMap (sayBits f) ++ (l.flatMap (tokBits lit di) ++ cbits lit 256)))) p (T.take i) (T.take e) := by
 have q1 : Leads most (.dnum last) (.dfst last 286 30 19 0 (List.replicate 19 0)) (bitsOf 5 29 ++ (bitsOf 5 29 ++ bitsOf 4 15)) p (T.take i) (T.take i) := by
  refine Leads.one fun times => ⟨times, fun pre t hp => ?_⟩
  have e : bitsOf 5 29 ++ (bitsOf 5 29 ++ bitsOf 4 15) = bitsOf 14 16317 := by decide
  rw [e]
  unfold step
  simp only [num_at pre t 14 16317 hp, bitsOf_length]
  rfl
 have hrow : (lit ++ di).length = 286 + 30 := by rw [List.length_append, ha, hb]
 have q3 := fun q => lead_says (most := most) (last := last) (o := T.take i) hff hrow says 0 q hhas hsay (Nat.zero_le _)
 have q4 : ∀ q, Leads most (.dsym last 286 30 f (lit ++ di)) (.sym last lit di) [] q (T.take i) (T.take i) := by
  intro q
  refine Leads.one fun times => ⟨times, fun pre t hp => ?_⟩
  obtain ⟨m, hm, hm0⟩ := h256
  have hy : (lit ++ di).getD 256 0 = m := by rw [List.getD_eq_getElem?_getD, List.getElem?_append_left (by omega), hm]; rfl
  unfold step
  simp only [hrow, if_neg (Nat.lt_irrefl (286 + 30)), hy]
  rw [List.take_left' ha, List.drop_left' ha, hm1, hm2, if_neg (by rintro (e | e | e); omega; cases e; cases e)]
  rfl
 have q5 := fun q => lead_body (p := q) (most := most) (last := last) hf1 hf2 hT ho h256 hu ht hi
 have := q1.trans ((lead_first hl h8 hk).trans ((q3 _).trans ((q4 _).trans (q5 _))))
 rwa [List.nil_append] at this
end Go.Proofs.YtogednaamndpgaaGreatDoor

/-
 A text deflated: where the machine stands over it, over more, and over a beginning of it. No walk in this text.
-/
namespace Go.Proofs.YtogednaamndpgaaGreatDoor
set_option linter.unusedVariables false
structure Holds (most : Nat) (z T : List Nat) : Prop where
 bits : ∃ x pad, allb z = x ++ pad ∧ pad.length < 8 ∧ 0 < x.length ∧ Leads most (.head false) .done x 0 [] T
variable {most : Nat} {z T : List Nat}
theorem Holds.stands (h : Holds most z T) (behind : List Nat) : ∃ c, Stands (z ++ behind) most c ∧ c.st = .done ∧ c.out = T ∧ (c.pos - 1) / 8 + 1 = z.length ∧ 0 < c.pos := by
 obtain ⟨x, pad, h1, h2, h3, h4⟩ := h.bits
 obtain ⟨t2, h5⟩ := h4 []
 have hl : 8 * z.length = x.length + pad.length := by rw [← allb_len, h1, List.length_append]
 have := h5 [] (pad ++ allb behind) rfl
 rw [List.nil_append, ← List.append_assoc, ← h1, ← allb_append] at this
 refine ⟨_, ⟨this, rfl⟩, rfl, rfl, ?_, ?_⟩
 ·show (0 + x.length - 1) / 8 + 1 = z.length
  omega
 ·show 0 < 0 + x.length
  omega
theorem Holds.cut (h : Holds most z T) {k : Nat} (hk : k < z.length) {c : Cfg} (hc : Stands (z.take k) most c) : c.out <+: T ∧ c.st ≠ .done ∧ ∀ y, c.st ≠ .bad y := by
 obtain ⟨d, h1, h2, h3, h4, h5⟩ := h.stands []
 rw [List.append_nil] at h1
 have hz : z.take k ++ z.drop k = z := List.take_append_drop k z
 have hlen : (z.take k).length = k := by rw [List.length_take]; omega
 have hp := hc.pos
 rw [hlen] at hp
 have over : ¬ (c.st = .done ∨ ∃ y, c.st = .bad y) := by
  intro ho
  have h6 := hc.over (D := z.drop k) ho
  rw [hz] at h6
  have e := h6.one h1
  rw [e] at hp
  omega
 refine ⟨?_, fun e => over (Or.inl e), fun y e => over (Or.inr ⟨y, e⟩)⟩
 have h7 : Stands (z.take k ++ z.drop k) most d := by rw [hz]; exact h1
 have r := hc.more h7
 rw [← h3]
 exact runs_out r (by rw [allb_len, List.length_append, hlen]; omega)
theorem Stands.mono {B : List Nat} {j k : Nat} (hjk : j ≤ k) {c d : Cfg} (hc : Stands (B.take j) most c) (hd : Stands (B.take k) most d) : c.out <+: d.out := by
 have e : B.take j ++ (B.take k).drop j = B.take k := by
  have : (B.take k).take j = B.take j := by rw [List.take_take, Nat.min_eq_left hjk]
  rw [← this, List.take_append_drop]
 have h2 : Stands (B.take j ++ (B.take k).drop j) most d := by rw [e]; exact hd
 exact runs_out (hc.more h2) (by have := hc.pos; rw [allb_len, List.length_append]; omega)
theorem lead_next {st : St} {x y : List Bool} {o o2 o3 : List Nat} (h : Leads most (.head false) (.head false) x 0 o o2) (k : Leads most (.head false) st y x.length o2 o3) : Leads most (.head false) st (x ++ y) 0 o o3 := h.trans (by rw [Nat.zero_add]; exact k)
theorem holds_of {x pad : List Bool} (h1 : allb z = x ++ pad) (h2 : pad.length < 8) (h3 : 0 < x.length) (h : Leads most (.head false) (.head true) x 0 [] T) : Holds most z T := by
 refine ⟨x, pad, h1, h2, h3, ?_⟩
 have := h.trans lead_over
 rwa [List.append_nil] at this
end Go.Proofs.YtogednaamndpgaaGreatDoor

/-
 What the document's lengthSymbol and distanceSymbol come to.
-/
namespace Go.Proofs.YtogednaamndpgaaGreatDoor
open Go.RowKit
set_option linter.unusedVariables false
def lfit (n i : Nat) : Bool := decide (n < lbase (257 + i) + 2 ^ lmore (257 + i) ∧ n ≠ 258)
def dfit (n i : Nat) : Bool := decide (n < dbase i + 2 ^ dmore i)
theorem lsym_at {n i : Nat} (hi : i < 28) (h : lfit n i = true) (hj : ∀ j, j < i → lfit n j = false) : lsym n = 257 + i := by
 unfold lsym
 have : (List.range 28).find? (fun i => decide (n < lbase (257 + i) + 2 ^ lmore (257 + i) ∧ n ≠ 258)) = some i := find_range (p := lfit n) hi h hj
 rw [this]
theorem lsym_end {n : Nat} (hj : ∀ j, j < 28 → lfit n j = false) : lsym n = 285 := by
 unfold lsym
 have : (List.range 28).find? (fun i => decide (n < lbase (257 + i) + 2 ^ lmore (257 + i) ∧ n ≠ 258)) = none := by
  rw [List.find?_eq_none]
  intro i hi
  have e := hj i (List.mem_range.1 hi)
  unfold lfit at e
  rw [e]
  simp
 rw [this]
theorem dsym_at {n i : Nat} (hi : i < 30) (h : dfit n i = true) (hj : ∀ j, j < i → dfit n j = false) : dsym n = i := by
 unfold dsym
 have : (List.range 30).find? (fun i => decide (n < dbase i + 2 ^ dmore i)) = some i := find_range (p := dfit n) hi h hj
 rw [this]
set_option maxRecDepth 100000 in
set_option maxHeartbeats 2000000 in
theorem lsym_c (n : Nat) (h1 : 3 ≤ n) (h2 : n ≤ 258) (w : World) : Calls Tryz.prog 81 #[.int .i64 (n : Int)] w fun e w' => e = .returned (.tuple #[.int .i64 (lsym n : Nat), .int .i64 ((n - lbase (lsym n) : Nat) : Int), .int .i64 (lmore (lsym n) : Nat)]) ∧ w = w' := by
 obtain ⟨S, hS⟩ : ∃ S, lsym n = S := ⟨_, rfl⟩
 rw [hS]
 have AS : Aside (lsym n = S ∧ 3 ≤ n ∧ n ≤ 258) := ⟨hS, h1, h2⟩
 have hnI : (n : Int) ≤ 258 := by omega
 clear hS h1 h2
 go_enter Tryz.func81, Tryz.ntmps81
 go_wp2_with fail
 go_loopg [5] 28 (fun g si wr => ∃ q : Nat, si = .int .i64 (q : Int) ∧ Aside (∃ i, q = 257 + i ∧ i + g = 28 ∧ ∀ j, j < i → lfit n j = false) ∧ w = wr)
 case atStart => exact ⟨257, rfl, ⟨0, rfl, by omega, fun j hj => by omega⟩, rfl⟩
 case round =>
  obtain ⟨q, rfl, hI, rfl⟩ := hrel
  obtain ⟨i, hq, hig, hno⟩ := hI.out
  by_cases hi : i < 28
  ·have tq : (q : Int) < 285 := by omega
   have hb := lbase_c q (by omega) (by omega) w
   obtain ⟨b, hbe⟩ : ∃ b, lbase q = b := ⟨_, rfl⟩
   obtain ⟨m, hme⟩ : ∃ m, lmore q = m := ⟨_, rfl⟩
   have hble : b ≤ 1000 := by rw [← hbe]; exact lbase_le q (by omega) (by omega)
   have hmle : m ≤ 5 := by rw [← hme, hq]; exact lmore_le _ (by omega)
   rw [hbe, hme] at hb
   obtain ⟨y, hy⟩ : ∃ y, b + 2 ^ m = y := ⟨_, rfl⟩
   have hw : wrap64 ((b : Int) + wrap64 (2 ^ m)) = (y : Int) := by rw [w64_add b m (by omega) (by omega), hy]
   have AI : Aside (q = 257 + i ∧ i + gk = 28 ∧ (∀ j, j < i → lfit n j = false) ∧ i < 28 ∧ lbase q = b ∧ lmore q = m ∧ b + 2 ^ m = y ∧ b ≤ 1000) := ⟨hq, hig, hno, hi, hbe, hme, hy, hble⟩
   have hmI : (m : Int) ≤ 13 := by omega
   clear hI hq hig hno hi hbe hme hble hmle hy
   by_cases hfit : n < y ∧ n ≠ 258
   ·have t1 : (n : Int) < (y : Int) := by omega
    have t2 : ((n : Int) == 258) = false := beq_eq_false_iff_ne.2 (by omega)
    have AF : Aside (S = q ∧ lbase S = b ∧ lmore S = m ∧ b ≤ n) := by
     have a := AI.out
     have e : lsym n = 257 + i := lsym_at a.2.2.2.1 (by unfold lfit; rw [← a.1, a.2.2.2.2.1, a.2.2.2.2.2.1, a.2.2.2.2.2.2.1]; exact decide_eq_true hfit) a.2.2.1
     have e2 : S = q := by rw [← AS.out.1, e, a.1]
     have := (lsym_ok AS.out.2.1 AS.out.2.2).2.2.1
     rw [AS.out.1, e2, a.2.2.2.2.1] at this
     exact ⟨e2, by rw [e2]; exact a.2.2.2.2.1, by rw [e2]; exact a.2.2.2.2.2.1, this⟩
    have hbn : (b : Int) ≤ (n : Int) := by have := AF.out; omega
    clear hfit
    go_wp2_with (go_at_call 104; refine hb.mono ?_; rintro e3 w3 ⟨rfl, rfl⟩)
    go_ret3
    obtain ⟨f1, f2, f3, f4⟩ := AF.out
    refine ⟨?_, rfl⟩
    rw [f2, f3, f1, Int.natCast_sub f4]
    rfl
   ·have t1 : ¬ (n : Int) < (y : Int) ∨ n = 258 := by omega
    have A2 : Aside (lfit n i = false) := by
     have a := AI.out
     show lfit n i = false
     unfold lfit; rw [← a.1, a.2.2.2.2.1, a.2.2.2.2.2.1, a.2.2.2.2.2.2.1]; exact decide_eq_false hfit
    clear hfit
    have t3 : (n : Int) < (y : Int) ∨ ¬ (n : Int) < (y : Int) := Classical.em _
    rcases t3 with t3 | t3
    ·have e258 : n = 258 := by omega
     have t4 : ((n : Int) == 258) = true := beq_iff_eq.2 (by omega)
     clear t1 e258
     go_wp2_with (go_at_call 104; refine hb.mono ?_; rintro e3 w3 ⟨rfl, rfl⟩)
     go_roundg (gk - 1)
     case measure => have := AI.out; omega
     case rel =>
      have a := AI.out
      exact ⟨q + 1, by go_num, ⟨i + 1, by omega, by omega, fun j hj => by
       by_cases e : j = i
       ·rw [e]; exact A2.out
       ·exact a.2.2.1 j (by omega)⟩, rfl⟩
    ·clear t1
     go_wp2_with (go_at_call 104; refine hb.mono ?_; rintro e3 w3 ⟨rfl, rfl⟩)
     go_roundg (gk - 1)
     case measure => have := AI.out; omega
     case rel =>
      have a := AI.out
      exact ⟨q + 1, by go_num, ⟨i + 1, by omega, by omega, fun j hj => by
       by_cases e : j = i
       ·rw [e]; exact A2.out
       ·exact a.2.2.1 j (by omega)⟩, rfl⟩
  ·have hi2 : i = 28 := by omega
   have tq : ¬ (q : Int) < 285 := by omega
   have AF : Aside (S = 285 ∧ n = 258) := by
    have e : lsym n = 285 := lsym_end (fun j hj => hno j (by omega))
    have e2 : S = 285 := by rw [← AS.out.1, e]
    have q5 := lsym_ok AS.out.2.1 AS.out.2.2
    rw [e] at q5
    have : lbase 285 = 258 := rfl
    have : lmore 285 = 0 := rfl
    have := AS.out
    exact ⟨e2, by omega⟩
   clear hI hq hig hno hi hi2
   go_wp2_with fail
   go_ret3
   obtain ⟨f1, f2⟩ := AF.out
   exact ⟨by rw [f1, f2]; rfl, rfl⟩
set_option maxRecDepth 100000 in
set_option maxHeartbeats 2000000 in
theorem dsym_c (n : Nat) (h1 : 1 ≤ n) (h2 : n ≤ 200) (w : World) : Calls Tryz.prog 82 #[.int .i64 (n : Int)] w fun e w' => e = .returned (.tuple #[.int .i64 (dsym n : Nat), .int .i64 ((n - dbase (dsym n) : Nat) : Int), .int .i64 (dmore (dsym n) : Nat)]) ∧ w = w' := by
 obtain ⟨S, hS⟩ : ∃ S, dsym n = S := ⟨_, rfl⟩
 rw [hS]
 have AS : Aside (dsym n = S ∧ 1 ≤ n ∧ n ≤ 200) := ⟨hS, h1, h2⟩
 have hnI : (n : Int) ≤ 200 := by omega
 clear hS h1 h2
 go_enter Tryz.func82, Tryz.ntmps82
 go_wp2_with fail
 go_loopg [5] 30 (fun g si wr => ∃ q : Nat, si = .int .i64 (q : Int) ∧ Aside (q + g = 30 ∧ q ≤ S ∧ ∀ j, j < q → dfit n j = false) ∧ w = wr)
 case atStart => exact ⟨0, rfl, ⟨by omega, by omega, fun j hj => by omega⟩, rfl⟩
 case round =>
  obtain ⟨q, rfl, hI, rfl⟩ := hrel
  obtain ⟨hig, hqS, hno⟩ := hI.out
  have hok := dsym_ok AS.out.2.1 AS.out.2.2
  rw [AS.out.1] at hok
  have hq30 : q ≤ 29 := by omega
  have hb := dbase_c q hq30 w
  obtain ⟨b, hbe⟩ : ∃ b, dbase q = b := ⟨_, rfl⟩
  obtain ⟨m, hme⟩ : ∃ m, dmore q = m := ⟨_, rfl⟩
  have hble : b ≤ 40000 := by rw [← hbe]; exact dbs_le q (by omega)
  have hmle : m ≤ 13 := by rw [← hme]; exact dmore_le q hq30
  rw [hbe, hme] at hb
  obtain ⟨y, hy⟩ : ∃ y, b + 2 ^ m = y := ⟨_, rfl⟩
  have hw : wrap64 ((b : Int) + wrap64 (2 ^ m)) = (y : Int) := by rw [w64_add b m (by omega) (by omega), hy]
  have AI : Aside (q + gk = 30 ∧ q ≤ S ∧ (∀ j, j < q → dfit n j = false) ∧ q ≤ 29 ∧ dbase q = b ∧ dmore q = m ∧ b + 2 ^ m = y ∧ S ≤ 29 ∧ dbase S ≤ n ∧ n - dbase S < 2 ^ dmore S) := ⟨hig, hqS, hno, hq30, hbe, hme, hy, hok⟩
  have hmI : (m : Int) ≤ 13 := by omega
  have hqI : (q : Int) ≤ 29 := by omega
  clear hI hig hqS hno hok hbe hme hble hmle hy hq30
  by_cases hfit : n < y
  ·have t1 : (n : Int) < (y : Int) := by omega
   have AF : Aside (S = q ∧ dbase S = b ∧ dmore S = m ∧ b ≤ n) := by
    have a := AI.out
    have e : dsym n = q := dsym_at (by omega) (by unfold dfit; rw [a.2.2.2.2.1, a.2.2.2.2.2.1, a.2.2.2.2.2.2.1]; exact decide_eq_true hfit) a.2.2.1
    have e2 : S = q := by rw [← AS.out.1, e]
    have h9 := a.2.2.2.2.2.2.2.2.1
    rw [e2, a.2.2.2.2.1] at h9
    exact ⟨e2, by rw [e2]; exact a.2.2.2.2.1, by rw [e2]; exact a.2.2.2.2.2.1, h9⟩
   have hbn : (b : Int) ≤ (n : Int) := by have := AF.out; omega
   clear hfit
   go_wp2_with (go_at_call 105; refine hb.mono ?_; rintro e3 w3 ⟨rfl, rfl⟩)
   go_ret3
   obtain ⟨f1, f2, f3, f4⟩ := AF.out
   refine ⟨?_, rfl⟩
   rw [f2, f3, f1, Int.natCast_sub f4]
   rfl
  ·have t1 : ¬ (n : Int) < (y : Int) := by omega
   have A2 : Aside (dfit n q = false ∧ q < S ∧ 2 ≤ gk) := by
    have a := AI.out
    have q1 : dfit n q = false := by unfold dfit; rw [a.2.2.2.2.1, a.2.2.2.2.2.1, a.2.2.2.2.2.2.1]; exact decide_eq_false hfit
    have q2 : q ≠ S := by
     intro e
     rw [← e, a.2.2.2.2.1, a.2.2.2.2.2.1] at a
     omega
    exact ⟨q1, by omega, by omega⟩
   clear hfit
   go_wp2_with (go_at_call 105; refine hb.mono ?_; rintro e3 w3 ⟨rfl, rfl⟩)
   go_roundg (gk - 1)
   case measure => have := A2.out; omega
   case rel =>
    have a := AI.out
    have a2 := A2.out
    exact ⟨q + 1, by go_num, ⟨by omega, by omega, fun j hj => by
     by_cases e : j = q
     ·rw [e]; exact a2.1
     ·exact a.2.2.1 j (by omega)⟩, rfl⟩
end Go.Proofs.YtogednaamndpgaaGreatDoor

/-
 The document's body: tokens written by two codes.
-/
namespace Go.Proofs.YtogednaamndpgaaGreatDoor
open Go.RowKit
set_option linter.unusedVariables false
section
variable {lo W : Nat} {w u : World}
theorem kinds_ne {w : World} {b c : Nat} {cs ds : Array Value} {t s : TypeId} (h : Cells w b cs t) (k : Cells w c ds s) (hts : t ≠ s) : b ≠ c := by
 intro e
 subst e
 unfold Cells at h k
 rw [h] at k
 have h3 := congrArg (fun o : Option Obj => match o with | some (.cells _ t _) => t | _ => 0) k
 exact hts h3
theorem Tb.wk {T : Nat} {ls : List Nat} (h : Tb w T ls) (k : Vk lo W w u) {cs : Array Value} (hW : Cells w W cs 99) : Tb u T ls := by
 obtain ⟨g, rows, c0, h1, h3⟩ := h.cells
 obtain ⟨ds, hd⟩ := h.kind
 have hd2 := hd.wk k (kinds_ne hd hW (by decide)) (by decide)
 refine ⟨⟨g, rows, ?_, h1.wk k (kinds_ne h1 hW (by decide)) (by decide), fun j m hj => ⟨fun hm => ?_, (h3 j m hj).2⟩⟩, ds, hd2⟩
 ·rw [hd2.cell, ← hd.cell]; exact c0
 ·obtain ⟨b, e1, e2⟩ := (h3 j m hj).1 hm
  exact ⟨b, e1, Cells.wk e2 k (kinds_ne e2 hW (by decide)) (by decide)⟩
def tokAt (w : World) (b o i : Nat) : Tok → Prop
 | .inl y => w.cell? ⟨b, o + i * 3, none⟩ = some (.int .u8 (y : Int)) ∧ w.cell? ⟨b, o + i * 3 + 1, none⟩ = some (.int .i64 0)
 | .inr (n, d) => w.cell? ⟨b, o + i * 3 + 1, none⟩ = some (.int .i64 (n : Int)) ∧ w.cell? ⟨b, o + i * 3 + 2, none⟩ = some (.int .i64 (d : Int))
def Toks (w : World) (a : Option Addr) (l : List Tok) : Prop := l = [] ∨ ∃ b o cs, a = some ⟨b, o, none⟩ ∧ Cells w b cs 133 ∧ ∀ (i : Nat) (t : Tok), l[i]? = some t → tokAt w b o i t
theorem tokAt.same {b o i : Nat} {t : Tok} {cs : Array Value} (h : tokAt w b o i t) (h1 : Cells w b cs 133) (h2 : Cells u b cs 133) : tokAt u b o i t := by
 have e : ∀ j, u.cell? ⟨b, j, none⟩ = w.cell? ⟨b, j, none⟩ := fun j => by rw [h1.cell, h2.cell]
 cases t using Tok.el with
 | lit y => exact ⟨(e _).trans h.1, (e _).trans h.2⟩
 | cp n d => exact ⟨(e _).trans h.1, (e _).trans h.2⟩
theorem Toks.wk {a : Option Addr} {l : List Tok} (h : Toks w a l) (k : Vk lo W w u) {cs : Array Value} (hW : Cells w W cs 99) : Toks u a l := by
 rcases h with e | ⟨b, o, ds, e, h1, h2⟩
 ·exact Or.inl e
 ·have h3 := h1.wk k (kinds_ne h1 hW (by decide)) (by decide)
  exact Or.inr ⟨b, o, ds, e, h3, fun i t ht => (h2 i t ht).same h1 h3⟩
theorem lmore_6 {s : Nat} (h : s ≤ 285) : lmore s ≤ 6 := by
 unfold lmore
 split
 ·omega
 ·split <;> omega
theorem dmore_14 {x : Nat} (h : x ≤ 29) : dmore x ≤ 14 := by
 unfold dmore
 split <;> omega
def May2 (lit di : List Nat) (t : Tok) : Prop := Uses lit di t ∧ match t with
 | .inl y => y < 256
 | .inr (n, d) => 3 ≤ n ∧ n ≤ 258 ∧ 1 ≤ d ∧ d ≤ 200
theorem tok_len {lit di : List Nat} (h1 : ∀ x ∈ lit, x ≤ 15) (h2 : ∀ x ∈ di, x ≤ 15) {t : Tok} (h : May2 lit di t) : (tokBits lit di t).length ≤ 60 := by
 have key : ∀ (ls : List Nat) (s : Nat), (∀ x ∈ ls, x ≤ 15) → (cbits ls s).length ≤ 15 := fun ls s hl => by
  unfold cbits
  cases e : ls[s]? with
  | none => simp
  | some n => simp only [bitsB_len]; exact hl n (List.mem_of_getElem? e)
 cases t using Tok.el with
 | lit y =>
  have a1 := key lit y h1
  show (cbits lit y).length ≤ 60
  omega
 | cp n d =>
  have a1 := key lit (lsym n) h1
  have a2 := key di (dsym d) h2
  have a3 := lmore_6 (lsym_ok h.2.1 h.2.2.1).2.1
  have a4 := dmore_14 (dsym_ok h.2.2.2.1 h.2.2.2.2).1
  unfold tokBits
  simp only [List.length_append, bitsOf_length]
  omega
theorem toks_len {lit di : List Nat} (h1 : ∀ x ∈ lit, x ≤ 15) (h2 : ∀ x ∈ di, x ≤ 15) : ∀ {l : List Tok}, (∀ t ∈ l, May2 lit di t) → (l.flatMap (tokBits lit di)).length ≤ 60 * l.length
 | [], _ => by simp
 | t :: l, h => by
  have h3 := tok_len h1 h2 (h t (by simp))
  have h4 := toks_len h1 h2 (l := l) (fun x hx => h x (by simp [hx]))
  rw [List.flatMap_cons, List.length_append, List.length_cons]
  omega
end
end Go.Proofs.YtogednaamndpgaaGreatDoor

/-
 The document's body: its walk.
-/
namespace Go.Proofs.YtogednaamndpgaaGreatDoor
open Go.RowKit
set_option linter.unusedVariables false
section
variable {lo W : Nat}
set_option maxRecDepth 100000 in
set_option maxHeartbeats 2000000 in
theorem wbody_c (l : List Tok) (lit di : List Nat) (T1 T2 : Nat) (a : Option Addr) (L C : Nat) (w : World) {v : Value} {z : List Nat} {bs : List Bool} {p : Nat} (h : Vz w lo W v z bs p) (hp : p < 8) (hlo : 4 ≤ lo)
  (ht : Toks w a l) (hL : l.length = L) (hLb : L ≤ 1000000) (h1 : Tb w T1 lit) (h2 : Tb w T2 di) (l1 : ∀ x ∈ lit, x ≤ 15) (l2 : ∀ x ∈ di, x ≤ 15) (n1 : lit.length ≤ 320) (n2 : di.length ≤ 320) (hm : ∀ t ∈ l, May2 lit di t) (h256 : Has lit 256) (hbs : bs.length < 100000000000) :
  Calls Tryz.prog 53 #[.pointer (some ⟨W, 0, none⟩), .slice a L C, .pointer (some ⟨T1, 0, none⟩), .pointer (some ⟨T2, 0, none⟩)] w fun e w' => e = .returned (.tuple #[]) ∧ (∃ v' z' p', Vz w' lo W v' z' (bs ++ (l.flatMap (tokBits lit di) ++ cbits lit 256)) p' ∧ p' < 8) ∧ Vk lo W w w' := by
 have A : Aside (4 ≤ lo ∧ Toks w a l ∧ l.length = L ∧ L ≤ 1000000 ∧ Tb w T1 lit ∧ Tb w T2 di ∧ (∀ x ∈ lit, x ≤ 15) ∧ (∀ x ∈ di, x ≤ 15) ∧ lit.length ≤ 320 ∧ di.length ≤ 320 ∧ (∀ t ∈ l, May2 lit di t) ∧ Has lit 256 ∧ bs.length < 100000000000) := ⟨hlo, ht, hL, hLb, h1, h2, l1, l2, n1, n2, hm, h256, hbs⟩
 have A0 : Aside (Vz w lo W v z bs p ∧ p < 8) := ⟨h, hp⟩
 have hLI : (L : Int) ≤ 1000000 := by omega
 have AW : Aside (∃ cs, Cells w W cs 99) := ⟨_, h.fr⟩
 have AN : Aside (∀ k, (bs ++ (l.take k).flatMap (tokBits lit di)).length + 100 < 1099511627776) := fun k => by
  have h3 := toks_len l1 l2 (l := l.take k) (fun t h => hm t (List.mem_of_mem_take h))
  rw [List.length_append]
  rw [List.length_take] at h3
  omega
 clear h hp hlo ht hL hLb h1 h2 l1 l2 n1 n2 hm h256 hbs
 go_enter Tryz.func53, Tryz.ntmps53
 go_wp2_with fail
 go_loopg [8] (L + 1) (fun gg s8 wr => ∃ i : Nat, s8 = .int .i64 (i : Int) ∧ Aside (i + gg = L + 1 ∧ i ≤ L) ∧ Aside (Vk lo W w wr ∧ ∃ v z p, Vz wr lo W v z (bs ++ (l.take i).flatMap (tokBits lit di)) p ∧ p < 8))
 case atStart => exact ⟨0, rfl, ⟨by omega, by omega⟩, Vk.refl _ _ _, v, z, p, by rw [List.take_zero, List.flatMap_nil, List.append_nil]; exact A0.out.1, A0.out.2⟩
 case round =>
  obtain ⟨i, rfl, AG, hI⟩ := hrel
  obtain ⟨hwk, v1, z1, p1, hz, hp1⟩ := hI.out
  have a0 := A.out
  obtain ⟨cs0, hW0⟩ := AW.out
  have htb1 : Tb wr T1 lit := a0.2.2.2.2.1.wk hwk hW0
  have htb2 : Tb wr T2 di := a0.2.2.2.2.2.1.wk hwk hW0
  by_cases hi : i < L
  ·have t1 : ((i : Int) < (L : Int)) = True := eq_true (by omega)
   have t1' : (i < L) = True := eq_true hi
   have hiI : (i : Int) < 1000000 := by omega
   obtain ⟨t, hx⟩ : ∃ t, l[i]? = some t := ⟨_, List.getElem?_eq_getElem (by omega)⟩
   have hmay := a0.2.2.2.2.2.2.2.2.2.2.1 t (List.mem_of_getElem? hx)
   obtain ⟨b, o, ds, ha, hcb, hcells⟩ : ∃ b o cs, a = some ⟨b, o, none⟩ ∧ Cells w b cs 133 ∧ ∀ (i : Nat) (t : Tok), l[i]? = some t → tokAt w b o i t := by
    rcases a0.2.1 with e | h
    ·rw [e] at hx; simp at hx
    ·exact h
   subst ha
   have hbW : b ≠ W := kinds_ne hcb hW0 (by decide)
   have hat : ∀ u, Vk lo W w u → tokAt u b o i t := fun u k => (hcells i t hx).same hcb (hcb.wk k hbW (by decide))
   have hcur := hat wr hwk
   have AT : Aside (∀ u, Vk lo W w u → tokAt u b o i t) := hat
   have htk : bs ++ (l.take (i + 1)).flatMap (tokBits lit di) = (bs ++ (l.take i).flatMap (tokBits lit di)) ++ tokBits lit di t := by
    rw [List.take_add_one, hx, List.flatMap_append, List.append_assoc]
    simp
   have hlen := AN.out i
   have AX : Aside (Vk lo W w wr ∧ i < L ∧ bs ++ (l.take (i + 1)).flatMap (tokBits lit di) = (bs ++ (l.take i).flatMap (tokBits lit di)) ++ tokBits lit di t ∧ May2 lit di t ∧ Vz wr lo W v1 z1 (bs ++ (l.take i).flatMap (tokBits lit di)) p1 ∧ p1 < 8 ∧ (bs ++ (l.take i).flatMap (tokBits lit di)).length + 100 < 1099511627776) := ⟨hwk, hi, htk, hmay, hz, hp1, hlen⟩
   have ATB : Aside (∀ u, Vk lo W w u → Tb u T1 lit ∧ Tb u T2 di) := fun u k => ⟨a0.2.2.2.2.1.wk k hW0, a0.2.2.2.2.2.1.wk k hW0⟩
   clear hI hwk hz hp1 hi a0 hx hmay hcells hbW hat htk hlen htb1 htb2
   cases t using Tok.el with
   | lit y =>
    have c0 := hcur.1
    have c1 := hcur.2
    have hyI : (y : Int) < 256 := by have := AX.out.2.2.2.1.2; simp only [] at this; omega
    obtain ⟨m, hm1, hm2⟩ := AX.out.2.2.2.1.1
    have hsy := wsymbol_c (lo := lo) (W := W) T1 y m lit wr AX.out.2.2.2.2.1 AX.out.2.2.2.2.2.1 A.out.1 (by have := AX.out.2.2.2.2.2.2; omega) (ATB.out wr AX.out.1).1 hm1 hm2 (A.out.2.2.2.2.2.2.1 m (List.mem_of_getElem? hm1)) A.out.2.2.2.2.2.2.2.2.1
    clear hm1 hm2 hcur
    go_wp2_with (go_at_call 80; refine hsy.mono ?_; rintro e2 w2 ⟨rfl, hw2, hk2⟩)
    have AZ : Aside (Vk lo W w w2 ∧ ∃ v z p, Vz w2 lo W v z (bs ++ (l.take (i + 1)).flatMap (tokBits lit di)) p ∧ p < 8) := ⟨AX.out.1.trans hk2, by rw [AX.out.2.2.1]; exact hw2⟩
    go_roundg (L + 1 - (i + 1))
    case measure => have := AG.out; have := AX.out.2.1; omega
    case rel => exact ⟨i + 1, by go_num, ⟨by have := AX.out.2.1; omega, by have := AX.out.2.1; omega⟩, AZ⟩
   | cp n d =>
    have c1 := hcur.1
    have hb := AX.out.2.2.2.1.2
    simp only [] at hb
    have hnI : (n : Int) ≤ 258 := by omega
    have n0 : ((n : Int) == 0) = false := by rw [beq_eq_false_iff_ne]; omega
    have hls := lsym_c n hb.1 hb.2.1 wr
    have hlo2 := lsym_ok hb.1 hb.2.1
    have hdo := dsym_ok hb.2.2.1 hb.2.2.2
    obtain ⟨S, hS⟩ : ∃ S, lsym n = S := ⟨_, rfl⟩
    obtain ⟨X, hX⟩ : ∃ X, n - lbase S = X := ⟨_, rfl⟩
    obtain ⟨K, hK⟩ : ∃ K, lmore S = K := ⟨_, rfl⟩
    rw [hS, hX, hK] at hls
    rw [hS] at hlo2
    obtain ⟨m, hm1, hm2⟩ := AX.out.2.2.2.1.1.1
    rw [hS] at hm1
    have hsy := wsymbol_c (lo := lo) (W := W) T1 S m lit wr AX.out.2.2.2.2.1 AX.out.2.2.2.2.2.1 A.out.1 (by have := AX.out.2.2.2.2.2.2; omega) (ATB.out wr AX.out.1).1 hm1 hm2 (A.out.2.2.2.2.2.2.1 m (List.mem_of_getElem? hm1)) A.out.2.2.2.2.2.2.2.2.1
    have hSl : (cbits lit S).length ≤ 15 := by rw [cbits_n hm1]; exact A.out.2.2.2.2.2.2.1 m (List.mem_of_getElem? hm1)
    have hK6 : K ≤ 6 := by rw [← hK]; exact lmore_6 hlo2.2.1
    have AS : Aside (lsym n = S ∧ n - lbase S = X ∧ lmore S = K ∧ (cbits lit S).length ≤ 15 ∧ K ≤ 6 ∧ X ≤ 258 ∧ dsym d ≤ 29 ∧ 1 ≤ d ∧ d ≤ 200) := ⟨hS, hX, hK, hSl, hK6, by omega, hdo.1, hb.2.2.1, hb.2.2.2⟩
    clear hcur hb hlo2 hdo hS hX hK hm1 hm2 hSl hK6
    go_upto_region 7 with (first
     | (go_at_call 81; refine hls.mono ?_; rintro e2 w2 ⟨rfl, rfl⟩)
     | (go_at_call 80; refine hsy.mono ?_; rintro e3 w3 ⟨rfl, ⟨v3, z3, p3, hz3, hp3⟩, hk3⟩))
    have hnum := wnumber_c (lo := lo) (W := W) X K (by have := AS.out; omega) (by have := AS.out; omega) w3 hz3 hp3 A.out.1 (by rw [List.length_append]; have := AS.out; have := AX.out.2.2.2.2.2.2; omega)
    have A3 : Aside (Vk lo W w w3) := AX.out.1.trans hk3
    clear hls hsy hz3 hp3 hk3
    go_upto_region 8 with (go_at_call 52; refine hnum.mono ?_; rintro e4 w4 ⟨rfl, ⟨v4, z4, p4, hz4, hp4⟩, hk4⟩)
    have hk04 := A3.out.trans hk4
    have c2 := (AT.out w4 hk04).2
    have hds := dsym_c d AS.out.2.2.2.2.2.2.2.1 AS.out.2.2.2.2.2.2.2.2 w4
    obtain ⟨E, hE⟩ : ∃ E, dsym d = E := ⟨_, rfl⟩
    obtain ⟨Y, hY⟩ : ∃ Y, d - dbase E = Y := ⟨_, rfl⟩
    obtain ⟨J, hJ⟩ : ∃ J, dmore E = J := ⟨_, rfl⟩
    rw [hE, hY, hJ] at hds
    obtain ⟨m, hm1, hm2⟩ := AX.out.2.2.2.1.1.2
    rw [hE] at hm1
    have hdI : (d : Int) ≤ 200 := by have := AS.out; omega
    have hsy := wsymbol_c (lo := lo) (W := W) T2 E m di w4 hz4 hp4 A.out.1 (by rw [List.length_append, List.length_append, bitsOf_length]; have := AS.out; have := AX.out.2.2.2.2.2.2; omega) (ATB.out w4 hk04).2 hm1 hm2 (A.out.2.2.2.2.2.2.2.1 m (List.mem_of_getElem? hm1)) A.out.2.2.2.2.2.2.2.2.2.1
    have hEl : (cbits di E).length ≤ 15 := by rw [cbits_n hm1]; exact A.out.2.2.2.2.2.2.2.1 m (List.mem_of_getElem? hm1)
    have hJ14 : J ≤ 14 := by rw [← hJ]; exact dmore_14 (by rw [← hE]; exact AS.out.2.2.2.2.2.2.1)
    have A4 : Aside (Vk lo W w w4 ∧ dsym d = E ∧ d - dbase E = Y ∧ dmore E = J ∧ (cbits di E).length ≤ 15 ∧ J ≤ 14 ∧ Y ≤ 200) := ⟨hk04, hE, hY, hJ, hEl, hJ14, by have := AS.out; omega⟩
    clear hnum hz4 hp4 hk4 hk04 hE hY hJ hm1 hm2 hEl hJ14 c1 n0
    go_upto_region 10 with (first
     | (go_at_call 82; refine hds.mono ?_; rintro e5 w5 ⟨rfl, rfl⟩)
     | (go_at_call 80; refine hsy.mono ?_; rintro e6 w6 ⟨rfl, ⟨v6, z6, p6, hz6, hp6⟩, hk6⟩))
    have hnum := wnumber_c (lo := lo) (W := W) Y J (by have := A4.out; omega) (by have := A4.out; omega) w6 hz6 hp6 A.out.1 (by rw [List.length_append, List.length_append, List.length_append, bitsOf_length]; have := AS.out; have := A4.out; have := AX.out.2.2.2.2.2.2; omega)
    have A6 : Aside (Vk lo W w w6) := A4.out.1.trans hk6
    clear hds hsy hz6 hp6 hk6
    go_wp2_with (go_at_call 52; refine hnum.mono ?_; rintro e7 w7 ⟨rfl, hw7, hk7⟩)
    have AZ : Aside (Vk lo W w w7 ∧ ∃ v z p, Vz w7 lo W v z (bs ++ (l.take (i + 1)).flatMap (tokBits lit di)) p ∧ p < 8) := by
     refine ⟨A6.out.trans hk7, ?_⟩
     rw [AX.out.2.2.1]
     have hs := AS.out
     have h4 := A4.out
     have ht : tokBits lit di (.cp n d) = cbits lit S ++ (bitsOf K X ++ (cbits di E ++ bitsOf J Y)) := by
      rw [← h4.2.2.1, ← h4.2.2.2.1, ← h4.2.1, ← hs.2.1, ← hs.2.2.1, ← hs.1]
      rfl
     rw [ht]
     simpa only [List.append_assoc] using hw7
    go_roundg (L + 1 - (i + 1))
    case measure => have := AG.out; have := AX.out.2.1; omega
    case rel => exact ⟨i + 1, by go_num, ⟨by have := AX.out.2.1; omega, by have := AX.out.2.1; omega⟩, AZ⟩
  ·have hin : i = L := by have := AG.out; omega
   have t1 : ((i : Int) < (L : Int)) = False := eq_false (by omega)
   have t1' : (i < L) = False := eq_false hi
   obtain ⟨m, hm1, hm2⟩ := a0.2.2.2.2.2.2.2.2.2.2.2.1
   rw [hin, ← a0.2.2.1, List.take_length] at hz
   have hsy := wsymbol_c (lo := lo) (W := W) T1 256 m lit wr hz hp1 a0.1 (by have h := AN.out L; rw [← a0.2.2.1, List.take_length] at h; omega) htb1 hm1 hm2 (a0.2.2.2.2.2.2.1 m (List.mem_of_getElem? hm1)) a0.2.2.2.2.2.2.2.2.1
   have hsy2 : Calls Tryz.prog 80 #[.pointer (some ⟨W, 0, none⟩), .pointer (some ⟨T1, 0, none⟩), .int .i64 256] wr fun e w' => e = .returned (.tuple #[]) ∧ (∃ v' z' p', Vz w' lo W v' z' ((bs ++ l.flatMap (tokBits lit di)) ++ cbits lit 256) p' ∧ p' < 8) ∧ Vk lo W wr w' := hsy
   have AZ : Aside (Vk lo W w wr) := hwk
   clear hI hi hin hwk hz hp1 a0 htb1 htb2 hm1 hm2 hsy
   go_wp2_with (go_at_call 80; refine hsy2.mono ?_; rintro e2 w2 ⟨rfl, hw2, hk2⟩)
   go_end0
   refine ⟨rfl, ?_, AZ.out.trans hk2⟩
   rw [List.append_assoc] at hw2
   exact hw2
end
end Go.Proofs.YtogednaamndpgaaGreatDoor

/-
 What full's four loops come to, round by round. No walk in this text.
-/
namespace Go.Proofs.YtogednaamndpgaaGreatDoor
open Go.RowKit
set_option linter.unusedVariables false
theorem addUp_cons (least : Nat) (u : Bool) (r : List Bool) (n : Nat) : addUp least (u :: r) n = if n < least ∧ u = false then true :: addUp least r (n + 1) else u :: addUp least r n := rfl
theorem fl_false (k n : Nat) (r : List Bool) (sh : Nat) : fl k n (false :: r) sh = 0 :: fl k n r sh := rfl
theorem fl_true (k n : Nat) (r : List Bool) (sh : Nat) : fl k n (true :: r) sh = if 0 < sh ∧ 1 < n then k :: fl k n r (sh - 1) else (k + 1) :: fl k n r sh := rfl
theorem addUp_ge {least : Nat} : ∀ (r : List Bool) {n : Nat}, least ≤ n → addUp least r n = r
 | [], _, _ => rfl
 | u :: r, n, h => by
  unfold addUp
  rw [if_neg (by omega), addUp_ge r h]
theorem addUp_len {least : Nat} : ∀ (r : List Bool) (n : Nat), (addUp least r n).length = r.length
 | [], _ => rfl
 | u :: r, n => by
  unfold addUp
  split <;> simp [addUp_len r]
structure Up (least : Nat) (us : List Bool) (i : Nat) (p r : List Bool) (n : Nat) : Prop where
 len : p.length = i
 rest : r = us.drop i
 all : addUp least us (us.count true) = p ++ addUp least r n
 num : n = p.count true + r.count true
theorem Up.start (least : Nat) (us : List Bool) : Up least us 0 [] us (us.count true) := ⟨rfl, rfl, rfl, by simp⟩
theorem Up.next {least : Nat} {us : List Bool} {i : Nat} {p r : List Bool} {n : Nat} {u : Bool} (h : Up least us i p (u :: r) n) (hn : n < least) : Up least us (i + 1) (p ++ [true]) r (if u then n else n + 1) := by
 have hr : r = us.drop (i + 1) := by
  have h1 := h.rest
  have h2 : us.drop (i + 1) = (us.drop i).drop 1 := by rw [List.drop_drop]
  rw [h2, ← h1]
  rfl
 refine ⟨by rw [List.length_append, h.len]; rfl, hr, ?_, ?_⟩
 ·have e := h.all
  rw [addUp_cons] at e
  cases u with
  | true => rw [if_neg (by simp)] at e; rw [e, List.append_assoc]; rfl
  | false => rw [if_pos ⟨hn, rfl⟩] at e; rw [e, List.append_assoc]; rfl
 ·have e := h.num
  cases u <;> simp_all <;> omega
theorem Up.done {least : Nat} {us : List Bool} {i : Nat} {p r : List Bool} {n : Nat} (h : Up least us i p r n) (hd : r = [] ∨ least ≤ n) : addUp least us (us.count true) = p ++ r ∧ n = (p ++ r).count true := by
 refine ⟨?_, by rw [List.count_append]; exact h.num⟩
 rw [h.all]
 rcases hd with rfl | hd
 ·rfl
 ·rw [addUp_ge r hd]
theorem log_is {n k : Nat} (h1 : n < 2 * 2 ^ k) (h2 : k = 0 ∨ 2 ^ k ≤ n) : Nat.log2 n = k := by
 have e : 2 * 2 ^ k = 2 ^ (k + 1) := by rw [Nat.pow_succ]; omega
 rw [e] at h1
 by_cases h0 : n = 0
 ·subst h0
  rcases h2 with rfl | h2
  ·rfl
  ·have := Nat.two_pow_pos k; omega
 ·have h3 := log_le h1
  rcases h2 with rfl | h2
  ·omega
  ·have h4 : k ≤ Nat.log2 n := (Nat.le_log2 h0).2 h2
   omega
end Go.Proofs.YtogednaamndpgaaGreatDoor

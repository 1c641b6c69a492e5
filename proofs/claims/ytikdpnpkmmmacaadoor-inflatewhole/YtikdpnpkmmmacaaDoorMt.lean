/-
  Own texts of this seat, one behind the other: what each says stands ahead of it.
-/
import Derived.Test.YtikdpnpkmmmacaaDoorMs
import Derived.Test.YtikdpnpkmmmacaaDoorMe
import Derived.Test.YtikdpnpkmmmacaaDoorMm
import Derived.Test.YtikdpnpkmmmacaaDoorMc
/-
  The document's symbol: a code written.
-/
namespace Go.Proofs.YtikdpnpkmmmacaaDoor
open Go.RowKit
set_option linter.unusedVariables false
section
variable {lo W : Nat}
set_option maxHeartbeats 1000000 in
/-- A row of bits written: what symbol does once the code is found. -/
theorem wsymbol_c (T s m : Nat) (ls : List Nat) (w : World) {v : Value} {z : List Nat} {bs : List Bool} {p : Nat} (h : Wz w lo W v z bs p) (hp : p < 8) (hlo : 4 ≤ lo) (hbs : bs.length + 15 < 1099511627776) (ht : Tb w T ls) (hs : ls[s]? = some m) (h0 : 0 < m) (h15 : m ≤ 15) (hl : ls.length ≤ 320) :
    Calls Tryd.prog 58 #[.pointer (some ⟨W, 0, none⟩), .pointer (some ⟨T, 0, none⟩), .int .i64 (s : Int)] w fun e w' => e = .returned (.tuple #[]) ∧ (∃ v' z' p', Wz w' lo W v' z' (bs ++ cbits ls s) p' ∧ p' < 8) ∧ Wk lo W w w' := by
  obtain ⟨g, rows, c0, hrows, hr⟩ := ht.cells
  obtain ⟨b, hb1, hb2⟩ := (hr s m hs).1 h0
  have cr : w.cell? ⟨g, s, none⟩ = some (.slice (some ⟨b, 0, none⟩) m m) := by rw [hrows.cell]; exact hb1
  have hsl : s < ls.length := (List.getElem?_eq_some_iff.1 hs).1
  obtain ⟨l, hl'⟩ : ∃ l, cbits ls s = l := ⟨_, rfl⟩
  have hll : l.length = m := by rw [← hl', cbits_at hs, bitsB_len]
  have hbb : Bb w b l := by rw [← hl', cbits_at hs]; exact hb2
  obtain ⟨LL, hLL⟩ : ∃ LL, ls.length = LL := ⟨_, rfl⟩
  rw [hLL] at c0 hsl hl
  have A : Aside (Wz w lo W v z bs p ∧ p < 8 ∧ 4 ≤ lo ∧ bs.length + 15 < 1099511627776 ∧ l.length = m ∧ Bb w b l ∧ m ≤ 15) := ⟨h, hp, hlo, hbs, hll, hbb, h15⟩
  have hmI : (m : Int) ≤ 15 := by omega
  have k1 : ((s : Int) < (LL : Int)) = True := eq_true (by omega)
  have k1' : (s < LL) = True := eq_true hsl
  rw [hl']
  clear h hp hlo hbs ht hs h0 h15 hl hrows hr hb1 hb2 hsl hl' hll hbb hLL
  go_enter Tryd.func58, Tryd.ntmps58
  go_wp2_with fail
  go_loopg [7, 8] (m + 1) (fun gg s7 s8 wr => ∃ i : Nat, s7 = .int .i64 (i : Int) ∧ Aside (i + gg = m + 1 ∧ i ≤ m) ∧ Aside (Wk lo W w wr ∧ ∃ v z p, Wz wr lo W v z (bs ++ l.take i) p ∧ p < 8))
  case atStart => exact ⟨0, rfl, ⟨by omega, by omega⟩, Wk.refl _ _ _, v, z, p, by rw [List.take_zero, List.append_nil]; exact A.out.1, A.out.2.1⟩
  case round =>
    obtain ⟨i, rfl, AG, hI⟩ := hrel
    obtain ⟨hwk, v1, z1, p1, hz, hp1⟩ := hI.out
    by_cases hi : i < m
    · have t1 : ((i : Int) < (m : Int)) = True := eq_true (by omega)
      have t1' : (i < m) = True := eq_true hi
      have hiI : (i : Int) < 15 := by omega
      have a0 := A.out
      obtain ⟨x, hx⟩ : ∃ x, l[i]? = some x := ⟨_, List.getElem?_eq_getElem (by omega)⟩
      have hbW : b ≠ W := by
        intro e
        subst e
        have h1 := a0.1.fr
        have h2 := a0.2.2.2.2.2.1
        unfold Bb at h2
        unfold Cells at h1 h2
        rw [h1] at h2
        have h3 := congrArg (fun o : Option Obj => match o with | some (.cells _ t _) => t | _ => 0) h2
        exact absurd (show (77 : Nat) = 4 from h3) (by decide)
      have hbb : Cells wr b (vb l).toArray 4 := Cells.wk a0.2.2.2.2.2.1 hwk hbW (by decide)
      have cx : wr.cell? ⟨b, i, none⟩ = some (.bool x) := by rw [hbb.cell]; simp [vb, hx]
      have htk : l.take (i + 1) = l.take i ++ [x] := by rw [List.take_add_one, hx]; rfl
      have hlen : (bs ++ l.take i).length + 1 < 1099511627776 := by rw [List.length_append, List.length_take]; omega
      have hnum : ∀ y : Nat, y < 2 → Calls Tryd.prog 39 #[.pointer (some ⟨W, 0, none⟩), .int .i64 (y : Int), .int .i64 1] wr fun e w' => e = .returned (.tuple #[]) ∧ (∃ v' z' p', Wz w' lo W v' z' ((bs ++ l.take i) ++ bitsOf 1 y) p' ∧ p' < 8) ∧ Wk lo W wr w' := fun y hy => wnumber_c y 1 (by omega) (by omega) wr hz hp1 a0.2.2.1 (by omega)
      have hn0 : Calls Tryd.prog 39 #[.pointer (some ⟨W, 0, none⟩), .int .i64 0, .int .i64 1] wr fun e w' => e = .returned (.tuple #[]) ∧ (∃ v' z' p', Wz w' lo W v' z' ((bs ++ l.take i) ++ [false]) p' ∧ p' < 8) ∧ Wk lo W wr w' := hnum 0 (by decide)
      have hn1 : Calls Tryd.prog 39 #[.pointer (some ⟨W, 0, none⟩), .int .i64 1, .int .i64 1] wr fun e w' => e = .returned (.tuple #[]) ∧ (∃ v' z' p', Wz w' lo W v' z' ((bs ++ l.take i) ++ [true]) p' ∧ p' < 8) ∧ Wk lo W wr w' := hnum 1 (by decide)
      have AX : Aside (Wk lo W w wr ∧ i < m ∧ bs ++ l.take (i + 1) = (bs ++ l.take i) ++ [x]) := ⟨hwk, hi, by rw [htk, List.append_assoc]⟩
      clear hI hwk hz hp1 hi a0 hx hbW hbb htk hlen hnum
      cases x
      all_goals
        go_wp2_with (first | (go_at_call 39; with_reducible refine hn0.mono ?_; rintro e2 w2 ⟨rfl, hw2, hk2⟩) | (go_at_call 39; with_reducible refine hn1.mono ?_; rintro e2 w2 ⟨rfl, hw2, hk2⟩))
        have AZ : Aside (Wk lo W w w2 ∧ ∃ v z p, Wz w2 lo W v z (bs ++ l.take (i + 1)) p ∧ p < 8) := ⟨AX.out.1.trans hk2, by rw [AX.out.2.2]; exact hw2⟩
        go_roundg (m + 1 - (i + 1))
        case measure => have := AG.out; have := AX.out.2.1; omega
        case rel => exact ⟨i + 1, by go_num, ⟨by have := AX.out.2.1; omega, by have := AX.out.2.1; omega⟩, AZ⟩
    · have hin : i = m := by have := AG.out; omega
      have t1 : ((i : Int) < (m : Int)) = False := eq_false (by omega)
      have t1' : (i < m) = False := eq_false hi
      have AZ : Aside ((∃ v' z' p', Wz wr lo W v' z' (bs ++ l) p' ∧ p' < 8) ∧ Wk lo W w wr) := by
        refine ⟨⟨v1, z1, p1, ?_, hp1⟩, hwk⟩
        rw [hin, ← A.out.2.2.2.2.1, List.take_length] at hz
        exact hz
      clear hI hi hin hwk hz hp1
      go_wp2_with fail
      go_end0
      exact ⟨rfl, AZ.out.1, AZ.out.2⟩
end
end Go.Proofs.YtikdpnpkmmmacaaDoor

/-
  Bits that are written lead the machine: what each piece of a deflated text does. No walk in this text.
-/
namespace Go.Proofs.YtikdpnpkmmmacaaDoor
set_option linter.unusedVariables false
/-- Some bits, behind any others and ahead of any others, bring the machine from st to st2, and what was given from o to o2. -/
def Leads (most : Nat) (st st2 : St) (x : List Bool) (p : Nat) (o o2 : List Nat) : Prop := ∀ times, ∃ times2, ∀ pre t, pre.length = p → Runs (pre ++ x ++ t) most ⟨st, p, o, times⟩ ⟨st2, p + x.length, o2, times2⟩
variable {most p : Nat} {st st2 st3 : St} {x y : List Bool} {o o2 o3 : List Nat}
theorem Leads.refl (most : Nat) (st : St) (p : Nat) (o : List Nat) : Leads most st st [] p o o := fun times => ⟨times, fun pre t _ => Runs.refl _⟩
theorem Leads.trans (h : Leads most st st2 x p o o2) (k : Leads most st2 st3 y (p + x.length) o2 o3) : Leads most st st3 (x ++ y) p o o3 := by
  intro times
  obtain ⟨t2, h2⟩ := h times
  obtain ⟨t3, h3⟩ := k t2
  refine ⟨t3, fun pre t hp => ?_⟩
  have q2 := h2 pre (y ++ t) hp
  have q3 := h3 (pre ++ x) t (by rw [List.length_append, hp])
  rw [show pre ++ x ++ (y ++ t) = pre ++ (x ++ y) ++ t by simp [List.append_assoc]] at q2
  rw [show pre ++ x ++ y ++ t = pre ++ (x ++ y) ++ t by simp [List.append_assoc]] at q3
  rw [List.length_append, ← Nat.add_assoc]
  exact q2.trans q3
/-- By one step. -/
theorem Leads.one (h : ∀ times, ∃ times2, ∀ pre t, pre.length = p → step (pre ++ x ++ t) most ⟨st, p, o, times⟩ = some ⟨st2, p + x.length, o2, times2⟩) : Leads most st st2 x p o o2 := by
  intro times
  obtain ⟨t2, h2⟩ := h times
  exact ⟨t2, fun pre t hp => Runs.one (h2 pre t hp)⟩
theorem num_at (pre t : List Bool) (n v : Nat) (hp : pre.length = p) : num? (pre ++ bitsOf n v ++ t) p n = some (v % 2 ^ n) := by
  unfold num?
  rw [if_pos (by simp [bitsOf_length, hp]), List.append_assoc, ← hp, List.drop_left, List.take_left' (bitsOf_length n v), nm_bitsOf]
/-- Lengths whose codes fit. -/
def Fits (ls : List Nat) : Prop := part ls 15 ≤ 32768 ∧ ∀ l ∈ ls, l ≤ 15
theorem sym_at {ls : List Nat} (hf : Fits ls) {s n : Nat} (hs : ls[s]? = some n) (h0 : 0 < n) (pre t : List Bool) (hp : pre.length = p) : sread ls ((pre ++ cbits ls s ++ t).drop p) = .got s n := by
  rw [List.append_assoc, ← hp, List.drop_left]
  exact sread_got ((hit_prefix hf.1 hf.2 hs h0).1 (List.prefix_append _ _))
theorem cbits_n {ls : List Nat} {s n : Nat} (h : ls[s]? = some n) : (cbits ls s).length = n := by rw [cbits_at h, bitsB_len]
section
variable {last : Bool} {lit di : List Nat}
theorem lead_lit (hf : Fits lit) {b n : Nat} (hb : b < 256) (hs : lit[b]? = some n) (h0 : 0 < n) (ho : o.length < most) : Leads most (.sym last lit di) (.sym last lit di) (cbits lit b) p o (o ++ [b]) := by
  refine Leads.one fun times => ⟨times ++ [(p + n - 1) / 8], fun pre t hp => ?_⟩
  unfold step
  simp only [sym_at hf hs h0 pre t hp, if_pos hb]
  unfold give
  rw [if_pos ho, cbits_n hs]
theorem lead_end (hf : Fits lit) {n : Nat} (hs : lit[256]? = some n) (h0 : 0 < n) : Leads most (.sym last lit di) (.head last) (cbits lit 256) p o o := by
  refine Leads.one fun times => ⟨times, fun pre t hp => ?_⟩
  unfold step
  simp only [sym_at hf hs h0 pre t hp, if_neg (Nat.lt_irrefl 256)]
  rw [cbits_n hs]
  rfl
/-- n bytes more, each the one so far back. -/
def again (o : List Nat) (d : Nat) : Nat → List Nat
  | 0 => o
  | n + 1 => again (o ++ [o.getD (o.length - d) 0]) d n
theorem lead_done (n d : Nat) : ∀ (o : List Nat), o.length + n ≤ most → Leads most (.copy last lit di n d) (.sym last lit di) [] p o (again o d n) := by
  induction n with
  | zero => exact fun o _ => Leads.one fun times => ⟨times, fun pre t hp => rfl⟩
  | succ n ih =>
    intro o ho
    have h1 : Leads most (.copy last lit di (n + 1) d) (.copy last lit di n d) [] p o (o ++ [o.getD (o.length - d) 0]) := by
      refine Leads.one fun times => ⟨times ++ [(p - 1) / 8], fun pre t hp => ?_⟩
      unfold step give
      simp only []
      rw [if_pos (show o.length < most by omega)]
      rfl
    have := h1.trans (p := p) (ih (o ++ [o.getD (o.length - d) 0]) (by rw [List.length_append, List.length_singleton]; omega))
    exact this
/-- A copy: a length, a distance. -/
theorem lead_copy (hf : Fits lit) (hd : Fits di) {s n v e m u : Nat} (h1 : 257 ≤ s) (h2 : s ≤ 285) (hs : lit[s]? = some n) (h0 : 0 < n) (hv : v < 2 ^ lmore s) (hx : e ≤ 29) (hs2 : di[e]? = some m) (hm : 0 < m) (hu : u < 2 ^ dmore e)
    (hback : dbase e + u ≤ o.length) (hmost : o.length + (lbase s + v) ≤ most) :
    Leads most (.sym last lit di) (.sym last lit di) (cbits lit s ++ (bitsOf (lmore s) v ++ (cbits di e ++ bitsOf (dmore e) u))) p o (again o (dbase e + u) (lbase s + v)) := by
  have q1 : Leads most (.sym last lit di) (.lext last lit di s) (cbits lit s) p o o := by
    refine Leads.one fun times => ⟨times, fun pre t hp => ?_⟩
    unfold step
    simp only [sym_at hf hs h0 pre t hp, if_neg (show ¬ s < 256 by omega), if_neg (show ¬ s = 256 by omega), if_neg (show ¬ 285 < s by omega)]
    rw [cbits_n hs]
  have q2 : ∀ p, Leads most (.lext last lit di s) (.dist last lit di (lbase s + v)) (bitsOf (lmore s) v) p o o := by
    intro p
    refine Leads.one fun times => ⟨times, fun pre t hp => ?_⟩
    unfold step
    simp only [num_at pre t _ v hp, Nat.mod_eq_of_lt hv, bitsOf_length]
    rfl
  have q3 : ∀ p, Leads most (.dist last lit di (lbase s + v)) (.dext last lit di (lbase s + v) e) (cbits di e) p o o := by
    intro p
    refine Leads.one fun times => ⟨times, fun pre t hp => ?_⟩
    unfold step
    simp only [sym_at hd hs2 hm pre t hp, if_neg (show ¬ 29 < e by omega)]
    rw [cbits_n hs2]
  have q4 : ∀ p, Leads most (.dext last lit di (lbase s + v) e) (.copy last lit di (lbase s + v) (dbase e + u)) (bitsOf (dmore e) u) p o o := by
    intro p
    refine Leads.one fun times => ⟨times, fun pre t hp => ?_⟩
    unfold step
    simp only [num_at pre t _ u hp, Nat.mod_eq_of_lt hu, bitsOf_length]
    simp only [Option.map_some, if_neg (show ¬ o.length < dbase e + u by omega)]
  have := q1.trans ((q2 _).trans ((q3 _).trans ((q4 _).trans (lead_done (lbase s + v) (dbase e + u) o hmost))))
  rwa [List.append_nil] at this
end
/-- Heads. -/
theorem lead_head (last : Bool) (kd : Nat) (hk : kd < 3) : Leads most (.head false) (match kd with | 0 => .slen last | 1 => .sym last fixL fixD | _ => .dnum last) (bitsOf 1 (if last then 1 else 0) ++ bitsOf 2 kd) p o o := by
  refine Leads.one fun times => ⟨times, fun pre t hp => ?_⟩
  have e : bitsOf 1 (if last then 1 else 0) ++ bitsOf 2 kd = bitsOf 3 ((if last then 1 else 0) + 2 * kd) := by
    match kd, hk, last with
    | 0, _, true => decide
    | 0, _, false => decide
    | 1, _, true => decide
    | 1, _, false => decide
    | 2, _, true => decide
    | 2, _, false => decide
  rw [e]
  unfold step
  simp only [num_at pre t 3 _ hp, bitsOf_length]
  match kd, hk, last with
  | 0, _, true => rfl
  | 0, _, false => rfl
  | 1, _, true => rfl
  | 1, _, false => rfl
  | 2, _, true => rfl
  | 2, _, false => rfl
theorem lead_over : Leads most (.head true) .done [] p o o := Leads.one fun times => ⟨times, fun pre t hp => rfl⟩
/-- Stored bytes. -/
theorem lead_raw (last : Bool) : ∀ (l : List Nat) (p : Nat) (o : List Nat), (∀ x ∈ l, x < 256) → o.length + l.length ≤ most → Leads most (.sraw last l.length) (.head last) (l.flatMap (bitsOf 8)) p o (o ++ l)
  | [], p, o, _, _ => by
    rw [List.append_nil]
    exact Leads.one fun times => ⟨times, fun pre t hp => rfl⟩
  | b :: l, p, o, hb, hm => by
    have hb1 : b < 2 ^ 8 := hb b (List.mem_cons_self ..)
    have h1 : Leads most (.sraw last (l.length + 1)) (.sraw last l.length) (bitsOf 8 b) p o (o ++ [b]) := by
      refine Leads.one fun times => ⟨times ++ [(p + 8 - 1) / 8], fun pre t hp => ?_⟩
      unfold step
      simp only [num_at pre t 8 b hp, Nat.mod_eq_of_lt hb1, bitsOf_length, Option.map_some]
      unfold give
      simp only []
      rw [if_pos (by simp at hm; omega)]
    have h2 := lead_raw last l (p + (bitsOf 8 b).length) (o ++ [b]) (fun x hx => hb x (List.mem_cons_of_mem _ hx)) (by simp at hm ⊢; omega)
    have := h1.trans h2
    rw [List.flatMap_cons, List.length_cons]
    rwa [List.append_assoc, List.singleton_append] at this
theorem lead_stored (last : Bool) (l : List Nat) (hl : l.length ≤ 65535) (hb : ∀ x ∈ l, x < 256) (hm : o.length + l.length ≤ most) :
    Leads most (.slen last) (.head last) (List.replicate ((p + 7) / 8 * 8 - p) false ++ bitsOf 16 l.length ++ (bitsOf 16 (65535 - l.length) ++ l.flatMap (bitsOf 8))) p o (o ++ l) := by
  have q1 : Leads most (.slen last) (.snot last l.length) (List.replicate ((p + 7) / 8 * 8 - p) false ++ bitsOf 16 l.length) p o o := by
    refine Leads.one fun times => ⟨times, fun pre t hp => ?_⟩
    have e : pre ++ (List.replicate ((p + 7) / 8 * 8 - p) false ++ bitsOf 16 l.length) ++ t = (pre ++ List.replicate ((p + 7) / 8 * 8 - p) false) ++ bitsOf 16 l.length ++ t := by simp [List.append_assoc]
    rw [e]
    unfold step
    simp only [num_at (p := (p + 7) / 8 * 8) (pre ++ List.replicate ((p + 7) / 8 * 8 - p) false) t 16 l.length (by rw [List.length_append, List.length_replicate, hp]; omega), Option.map_some]
    rw [Nat.mod_eq_of_lt (by omega), List.length_append, List.length_replicate, bitsOf_length, show (p + 7) / 8 * 8 + 16 = p + ((p + 7) / 8 * 8 - p + 16) by omega]
  have q2 : ∀ p, Leads most (.snot last l.length) (.sraw last l.length) (bitsOf 16 (65535 - l.length)) p o o := by
    intro p
    refine Leads.one fun times => ⟨times, fun pre t hp => ?_⟩
    unfold step
    simp only [num_at pre t 16 _ hp, Option.map_some, bitsOf_length]
    rw [Nat.mod_eq_of_lt (by omega), if_pos (by omega)]
  exact q1.trans ((q2 _).trans (lead_raw last l _ o hb hm))
end Go.Proofs.YtikdpnpkmmmacaaDoor

/-
  The tokens of a text, their bits, and what these do. No walk in this text.
-/
namespace Go.Proofs.YtikdpnpkmmmacaaDoor
set_option linter.unusedVariables false
/-- A byte, or a copy of n bytes from d back. -/
abbrev Tok := Nat ⊕ (Nat × Nat)
abbrev Tok.lit (b : Nat) : Tok := .inl b
abbrev Tok.cp (n d : Nat) : Tok := .inr (n, d)
theorem Tok.el {motive : Tok → Prop} (t : Tok) (lit : ∀ b, motive (.lit b)) (cp : ∀ n d, motive (.cp n d)) : motive t :=
  match t with
  | .inl b => lit b
  | .inr (n, d) => cp n d
/-- The symbol of a length, of a distance. -/
def lsym (n : Nat) : Nat := match (List.range 28).find? (fun i => decide (n < lbase (257 + i) + 2 ^ lmore (257 + i) ∧ n ≠ 258)) with
  | some i => 257 + i
  | none => 285
def dsym (d : Nat) : Nat := match (List.range 30).find? (fun i => decide (d < dbase i + 2 ^ dmore i)) with
  | some i => i
  | none => 30
theorem lsym_ok {n : Nat} (h1 : 3 ≤ n) (h2 : n ≤ 258) : 257 ≤ lsym n ∧ lsym n ≤ 285 ∧ lbase (lsym n) ≤ n ∧ n - lbase (lsym n) < 2 ^ lmore (lsym n) := by
  have : ∀ j : _root_.Fin 256, 257 ≤ lsym (j.1 + 3) ∧ lsym (j.1 + 3) ≤ 285 ∧ lbase (lsym (j.1 + 3)) ≤ j.1 + 3 ∧ j.1 + 3 - lbase (lsym (j.1 + 3)) < 2 ^ lmore (lsym (j.1 + 3)) := by decide +kernel
  have := this ⟨n - 3, by omega⟩
  rwa [show n - 3 + 3 = n by omega] at this
theorem dsym_ok {d : Nat} (h1 : 1 ≤ d) (h2 : d ≤ 200) : dsym d ≤ 29 ∧ dbase (dsym d) ≤ d ∧ d - dbase (dsym d) < 2 ^ dmore (dsym d) := by
  have : ∀ j : _root_.Fin 200, dsym (j.1 + 1) ≤ 29 ∧ dbase (dsym (j.1 + 1)) ≤ j.1 + 1 ∧ j.1 + 1 - dbase (dsym (j.1 + 1)) < 2 ^ dmore (dsym (j.1 + 1)) := by decide +kernel
  have := this ⟨d - 1, by omega⟩
  rwa [show d - 1 + 1 = d by omega] at this
def tokBits (lit di : List Nat) : Tok → List Bool
  | .inl b => cbits lit b
  | .inr (n, d) => cbits lit (lsym n) ++ (bitsOf (lmore (lsym n)) (n - lbase (lsym n)) ++ (cbits di (dsym d) ++ bitsOf (dmore (dsym d)) (d - dbase (dsym d))))
/-- A symbol has a code. -/
def Has (ls : List Nat) (s : Nat) : Prop := ∃ n, ls[s]? = some n ∧ 0 < n
def Uses (lit di : List Nat) : Tok → Prop
  | .inl b => Has lit b
  | .inr (n, d) => Has lit (lsym n) ∧ Has di (dsym d)
/-- Tokens tell a text from i up to e. -/
def Tells (T : List Nat) : Nat → List Tok → Nat → Prop
  | i, [], e => i = e
  | i, .lit b :: r, e => T[i]? = some b ∧ Tells T (i + 1) r e
  | i, .cp n d :: r, e => 3 ≤ n ∧ n ≤ 258 ∧ 1 ≤ d ∧ d ≤ 200 ∧ d ≤ i ∧ i + n ≤ T.length ∧ (∀ k, k < n → T[i + k]? = T[i + k - d]?) ∧ Tells T (i + n) r e
theorem again_text {T : List Nat} {d : Nat} (hd : 1 ≤ d) : ∀ (n i : Nat), d ≤ i → i + n ≤ T.length → (∀ k, k < n → T[i + k]? = T[i + k - d]?) → again (T.take i) d n = T.take (i + n)
  | 0, i, _, _, _ => rfl
  | n + 1, i, h1, h2, h3 => by
    have hl : (T.take i).length = i := by rw [List.length_take]; omega
    have h0 := h3 0 (by omega)
    rw [Nat.add_zero] at h0
    have hi : i < T.length := by omega
    have e1 : (T.take i).getD ((T.take i).length - d) 0 = T[i] := by
      rw [hl, List.getD_eq_getElem?_getD, List.getElem?_take, if_pos (by omega), ← h0, List.getElem?_eq_getElem hi]
      rfl
    unfold again
    rw [e1, show T.take i ++ [T[i]] = T.take (i + 1) by rw [List.take_add_one, List.getElem?_eq_getElem hi]; rfl]
    have := again_text (T := T) hd n (i + 1) (by omega) (by omega) (fun k hk => by
      have := h3 (k + 1) (by omega)
      rwa [show i + (k + 1) = i + 1 + k by omega] at this)
    rw [this, show i + 1 + n = i + (n + 1) by omega]
/-- What a block's tokens do. -/
theorem lead_toks {most : Nat} {last : Bool} {lit di T : List Nat} (hf : Fits lit) (hd : Fits di) (hT : T.length ≤ most) (ho : Oct T) :
    ∀ (l : List Tok) (i e p : Nat), (∀ x ∈ l, Uses lit di x) → Tells T i l e → i ≤ T.length → Leads most (.sym last lit di) (.sym last lit di) (l.flatMap (tokBits lit di)) p (T.take i) (T.take e)
  | [], i, e, p, _, ht, hi => by
    have : i = e := ht
    subst this
    exact Leads.refl _ _ _ _
  | .inl b :: r, i, e, p, hu, ht, hi => by
    obtain ⟨h1, h2⟩ := ht
    obtain ⟨n, hn, hn0⟩ : Has lit b := hu (.lit b) (List.mem_cons_self ..)
    have hb : b < 256 := ho b (List.mem_of_getElem? h1)
    have hi2 : i < T.length := (List.getElem?_eq_some_iff.1 h1).1
    have q1 : Leads most (.sym last lit di) (.sym last lit di) (cbits lit b) p (T.take i) (T.take i ++ [b]) := lead_lit hf hb hn hn0 (by rw [List.length_take]; omega)
    rw [show T.take i ++ [b] = T.take (i + 1) by rw [List.take_add_one, h1]; rfl] at q1
    have q2 := q1.trans (lead_toks hf hd hT ho r (i + 1) e _ (fun x hx => hu x (List.mem_cons_of_mem _ hx)) h2 (by omega))
    rw [List.flatMap_cons]
    exact q2
  | .inr (n, d) :: r, i, e, p, hu, ht, hi => by
    obtain ⟨h1, h2, h3, h4, h5, h6, h7, h8⟩ := ht
    obtain ⟨⟨m, hm, hm0⟩, ⟨k, hk, hk0⟩⟩ : Has lit (lsym n) ∧ Has di (dsym d) := hu (.cp n d) (List.mem_cons_self ..)
    obtain ⟨l1, l2, l3, l4⟩ := lsym_ok h1 h2
    obtain ⟨d1, d2, d3⟩ := dsym_ok h3 h4
    have hl : (T.take i).length = i := by rw [List.length_take]; omega
    have q1 := lead_copy (most := most) (last := last) (p := p) (o := T.take i) hf hd l1 l2 hm hm0 l4 d1 hk hk0 d3 (by rw [hl]; omega) (by rw [hl]; omega)
    rw [show lbase (lsym n) + (n - lbase (lsym n)) = n by omega, show dbase (dsym d) + (d - dbase (dsym d)) = d by omega, again_text h3 n i h5 h6 h7] at q1
    have q2 := q1.trans (lead_toks hf hd hT ho r (i + n) e _ (fun x hx => hu x (List.mem_cons_of_mem _ hx)) h8 h6)
    rw [List.flatMap_cons]
    exact q2
/-- A block's body: tokens, and its end. -/
theorem lead_body {most : Nat} {last : Bool} {lit di T : List Nat} {p : Nat} (hf : Fits lit) (hd : Fits di) (hT : T.length ≤ most) (ho : Oct T) (h256 : Has lit 256) {l : List Tok} {i e : Nat} (hu : ∀ x ∈ l, Uses lit di x) (ht : Tells T i l e) (hi : i ≤ T.length) :
    Leads most (.sym last lit di) (.head last) (l.flatMap (tokBits lit di) ++ cbits lit 256) p (T.take i) (T.take e) := by
  obtain ⟨n, hn, hn0⟩ := h256
  exact (lead_toks hf hd hT ho l i e p hu ht hi).trans (lead_end hf hn hn0)
theorem fits_fixL : Fits fixL := by
  refine ⟨by decide +kernel, ?_⟩
  have : fixL.all (fun x => decide (x ≤ 15)) = true := by decide +kernel
  intro x hx
  exact of_decide_eq_true (List.all_eq_true.1 this x hx)
theorem fits_fixD : Fits fixD := by
  refine ⟨by decide +kernel, fun x hx => ?_⟩
  rw [List.eq_of_mem_replicate hx]; omega
theorem has_fixL {s : Nat} (h : s < 288) : Has fixL s := by
  have : ∀ j : _root_.Fin 288, 0 < fixL.getD j.1 0 := by decide +kernel
  refine ⟨fixL.getD s 0, ?_, this ⟨s, h⟩⟩
  have hl : s < fixL.length := by simp [fixL, h]
  rw [List.getD_eq_getElem?_getD, List.getElem?_eq_getElem hl]
  rfl
theorem has_fixD {s : Nat} (h : s < 32) : Has fixD s := ⟨5, by unfold fixD; rw [List.getElem?_replicate, if_pos h], by omega⟩
theorem Tells.uses_fix {T : List Nat} (ho : Oct T) : ∀ {l : List Tok} {i e : Nat}, Tells T i l e → ∀ x ∈ l, Uses fixL fixD x
  | [], _, _, _, x, hx => by cases hx
  | .inl b :: r, i, e, ht, x, hx => by
    rcases List.mem_cons.1 hx with rfl | hx
    · exact has_fixL (by have := ho b (List.mem_of_getElem? ht.1); omega)
    · exact Tells.uses_fix ho ht.2 x hx
  | .inr (n, d) :: r, i, e, ht, x, hx => by
    rcases List.mem_cons.1 hx with rfl | hx
    · exact ⟨has_fixL (by have := (lsym_ok ht.1 ht.2.1).2.1; omega), has_fixD (by have := (dsym_ok ht.2.2.1 ht.2.2.2.1).1; omega)⟩
    · exact Tells.uses_fix ho ht.2.2.2.2.2.2.2 x hx
end Go.Proofs.YtikdpnpkmmmacaaDoor

/-
  Lengths of codes for the symbols that are used, all of one length or one more: they are a whole code. No walk in this text.
-/
namespace Go.Proofs.YtikdpnpkmmmacaaDoor
set_option linter.unusedVariables false
/-- So many more are taken as used as are wanted. -/
def addUp (least : Nat) : List Bool → Nat → List Bool
  | [], _ => []
  | u :: r, n => if n < least ∧ u = false then true :: addUp least r (n + 1) else u :: addUp least r n
/-- sh symbols get k, the others one more; n: how many are used. -/
def fl (k n : Nat) : List Bool → Nat → List Nat
  | [], _ => []
  | false :: r, sh => 0 :: fl k n r sh
  | true :: r, sh => if 0 < sh ∧ 1 < n then k :: fl k n r (sh - 1) else (k + 1) :: fl k n r sh
theorem fl_len (k n : Nat) : ∀ (U : List Bool) (sh : Nat), (fl k n U sh).length = U.length
  | [], _ => rfl
  | false :: r, sh => by unfold fl; simp [fl_len k n r sh]
  | true :: r, sh => by unfold fl; split <;> simp [fl_len k n r]
theorem fl_le (k n : Nat) : ∀ (U : List Bool) (sh : Nat), ∀ x ∈ fl k n U sh, x ≤ k + 1
  | [], _, x, hx => by cases hx
  | false :: r, sh, x, hx => by
    unfold fl at hx
    rcases List.mem_cons.1 hx with rfl | hx
    · omega
    · exact fl_le k n r sh x hx
  | true :: r, sh, x, hx => by
    unfold fl at hx
    split at hx
    · rcases List.mem_cons.1 hx with rfl | hx
      · omega
      · exact fl_le k n r _ x hx
    · rcases List.mem_cons.1 hx with rfl | hx
      · omega
      · exact fl_le k n r _ x hx
theorem fl_has (k n : Nat) (hk : 1 < n → 0 < k) : ∀ (U : List Bool) (sh s : Nat), U[s]? = some true → Has (fl k n U sh) s
  | [], _, s, h => by simp at h
  | false :: r, sh, 0, h => by simp at h
  | false :: r, sh, s + 1, h => by
    obtain ⟨m, h1, h2⟩ := fl_has k n hk r sh s (by simpa using h)
    exact ⟨m, by unfold fl; simpa using h1, h2⟩
  | true :: r, sh, 0, h => by
    unfold fl
    split
    · rename_i q; exact ⟨k, rfl, hk q.2⟩
    · exact ⟨k + 1, rfl, by omega⟩
  | true :: r, sh, s + 1, h => by
    unfold fl
    split
    · obtain ⟨m, h1, h2⟩ := fl_has k n hk r (sh - 1) s (by simpa using h)
      exact ⟨m, by simpa using h1, h2⟩
    · obtain ⟨m, h1, h2⟩ := fl_has k n hk r sh s (by simpa using h)
      exact ⟨m, by simpa using h1, h2⟩
theorem fl_kr (k n : Nat) (h1 : 1 < n) (hk : 0 < k) (hk2 : k ≤ 14) : ∀ (U : List Bool) (sh : Nat), kr (fl k n U sh) = (U.count true + min sh (U.count true)) * 2 ^ (14 - k)
  | [], _ => by simp [fl, kr]
  | false :: r, sh => by
    unfold fl kr
    rw [fl_kr k n h1 hk hk2 r sh]
    simp
  | true :: r, sh => by
    unfold fl
    have hc : (true :: r).count true = r.count true + 1 := by simp
    rw [hc]
    split
    · rename_i q
      unfold kr
      rw [fl_kr k n h1 hk hk2 r (sh - 1), if_neg (by omega), show 15 - k = (14 - k) + 1 by omega, Nat.pow_succ, show r.count true + 1 + min sh (r.count true + 1) = 2 + (r.count true + min (sh - 1) (r.count true)) by omega, Nat.add_mul 2, Nat.mul_comm (2 ^ (14 - k)) 2]
    · rename_i q
      have hsh : sh = 0 := by omega
      subst hsh
      unfold kr
      rw [fl_kr k n h1 hk hk2 r 0, if_neg (by omega), show 15 - (k + 1) = 14 - k by omega, Nat.zero_min, Nat.zero_min, Nat.add_zero, Nat.add_zero, Nat.add_mul]
      omega
/-- Lengths for the symbols that are used. -/
def fullOf (U : List Bool) : List Nat := fl (Nat.log2 (U.count true)) (U.count true) U (2 ^ (Nat.log2 (U.count true) + 1) - U.count true)
theorem full_kr {U : List Bool} (h1 : 1 < U.count true) (h2 : U.count true < 32768) : kr (fullOf U) = 32768 := by
  have hne : U.count true ≠ 0 := by omega
  have hlo := Nat.log2_self_le hne
  have hhi := Nat.lt_log2_self (n := U.count true)
  obtain ⟨n, hn⟩ : ∃ n, U.count true = n := ⟨_, rfl⟩
  obtain ⟨k, hk⟩ : ∃ k, Nat.log2 (U.count true) = k := ⟨_, rfl⟩
  unfold fullOf
  rw [hk] at hlo hhi ⊢
  rw [hn] at hlo hhi h1 h2 hne ⊢
  have hk0 : 0 < k := by
    apply Nat.pos_of_ne_zero
    intro e
    rw [e] at hhi
    omega
  have hk14 : k ≤ 14 := by
    apply Decidable.byContradiction
    intro e
    have : 2 ^ 15 ≤ 2 ^ k := Nat.pow_le_pow_right (by omega) (by omega)
    omega
  rw [fl_kr k n h1 hk0 hk14, hn]
  have hp : 2 ^ (k + 1) = 2 ^ k * 2 := Nat.pow_succ ..
  rw [Nat.min_eq_left (by omega), show n + (2 ^ (k + 1) - n) = 2 ^ (k + 1) by omega, ← Nat.pow_add, show k + 1 + (14 - k) = 15 by omega]
theorem full_has {U : List Bool} {s : Nat} (h : U[s]? = some true) : Has (fullOf U) s := by
  refine fl_has _ _ (fun hn => ?_) U _ s h
  apply Nat.pos_of_ne_zero
  intro e
  have := Nat.lt_log2_self (n := U.count true)
  rw [e] at this
  omega
theorem full_len (U : List Bool) : (fullOf U).length = U.length := fl_len _ _ _ _
theorem log_le {n m : Nat} (h : n < 2 ^ (m + 1)) : Nat.log2 n ≤ m := by
  by_cases h0 : n = 0
  · subst h0; simp
  · apply Decidable.byContradiction
    intro e
    have h1 := Nat.log2_self_le h0
    have : 2 ^ (m + 1) ≤ 2 ^ Nat.log2 n := Nat.pow_le_pow_right (by omega) (by omega)
    omega
theorem full_le {U : List Bool} {m : Nat} (h : U.count true < 2 ^ (m + 1)) : ∀ x ∈ fullOf U, x ≤ m + 1 := fun x hx => by
  have := fl_le _ _ _ _ x hx
  have := log_le h
  omega
theorem fl_few (n : Nat) (hn : n ≤ 1) : ∀ (U : List Bool) (sh : Nat), fl 0 n U sh = U.map fun u => if u then 1 else 0
  | [], _ => rfl
  | false :: r, sh => by unfold fl; rw [fl_few n hn r sh]; rfl
  | true :: r, sh => by unfold fl; rw [if_neg (by omega), fl_few n hn r sh]; rfl
theorem few_used : ∀ U : List Bool, used (U.map fun u => if u then 1 else 0) = U.count true ∧ (U.map fun u => if u then 1 else 0).count 1 = U.count true ∧ kr (U.map fun u => if u then 1 else 0) = U.count true * 16384
  | [] => ⟨rfl, rfl, rfl⟩
  | false :: r => by
    obtain ⟨h1, h2, h3⟩ := few_used r
    refine ⟨?_, ?_, ?_⟩
    · unfold used at *; simpa using h1
    · simpa using h2
    · simp [kr, h3]
  | true :: r => by
    obtain ⟨h1, h2, h3⟩ := few_used r
    refine ⟨?_, ?_, ?_⟩
    · unfold used at *; simpa using h1
    · simpa using h2
    · simp [kr, h3]; omega
theorem full_mays {U : List Bool} (h : U.length ≤ 320) : mays (fullOf U) = true ∧ Fits (fullOf U) := by
  have hc : U.count true ≤ U.length := List.count_le_length
  have h15 : ∀ x ∈ fullOf U, x ≤ 15 := fun x hx => by
    have := full_le (m := 8) (U := U) (by omega) x hx
    omega
  have hk : kr (fullOf U) ≤ 32768 ∧ ¬ Under (fullOf U) := by
    by_cases h1 : 1 < U.count true
    · have := full_kr h1 (by omega)
      exact ⟨by omega, by unfold Under; omega⟩
    · have e : fullOf U = U.map fun u => if u then 1 else 0 := by
        unfold fullOf
        have : Nat.log2 (U.count true) = 0 := by
          have := log_le (n := U.count true) (m := 0) (by omega)
          omega
        rw [this]
        exact fl_few _ (by omega) U _
      obtain ⟨q1, q2, q3⟩ := few_used U
      rw [e]
      refine ⟨by omega, ?_⟩
      unfold Under
      rw [q1, q2]
      omega
  refine ⟨?_, by rw [← kr_part h15]; exact hk.1, h15⟩
  unfold mays
  exact decide_eq_true ⟨by rw [full_len]; exact h, h15, hk.1, hk.2⟩
end Go.Proofs.YtikdpnpkmmmacaaDoor

/-
  A dynamic block's lengths as they are said, and what their bits do. No walk in this text.
-/
namespace Go.Proofs.YtikdpnpkmmmacaaDoor
set_option linter.unusedVariables false
/-- A symbol of the lengths' code, and what stands behind it. -/
structure Say where
  s : Nat
  v : Nat
  n : Nat
def sayBits (code : List Nat) (x : Say) : List Bool := cbits code x.s ++ bitsOf x.n x.v
/-- A row of lengths is said from i on. -/
def Says (row : List Nat) : Nat → List Say → Prop
  | i, [] => i = row.length
  | i, x :: r => (x.s < 16 ∧ x.n = 0 ∧ row[i]? = some x.s ∧ Says row (i + 1) r) ∨
      (x.s = 16 ∧ x.n = 2 ∧ x.v < 4 ∧ 0 < i ∧ i + (3 + x.v) ≤ row.length ∧ (∀ k, k < 3 + x.v → row[i + k]? = row[i - 1]?) ∧ Says row (i + (3 + x.v)) r) ∨
      (x.s = 17 ∧ x.n = 3 ∧ x.v < 8 ∧ i + (3 + x.v) ≤ row.length ∧ (∀ k, k < 3 + x.v → row[i + k]? = some 0) ∧ Says row (i + (3 + x.v)) r) ∨
      (x.s = 18 ∧ x.n = 7 ∧ x.v < 128 ∧ i + (11 + x.v) ≤ row.length ∧ (∀ k, k < 11 + x.v → row[i + k]? = some 0) ∧ Says row (i + (11 + x.v)) r)
theorem take_same {row : List Nat} {z : Nat} : ∀ (n i : Nat), i + n ≤ row.length → (∀ k, k < n → row[i + k]? = some z) → row.take i ++ List.replicate n z = row.take (i + n)
  | 0, i, _, _ => by simp
  | n + 1, i, h1, h2 => by
    have h0 := h2 0 (by omega)
    rw [Nat.add_zero] at h0
    have := take_same (row := row) (z := z) n (i + 1) (by omega) (fun k hk => by have := h2 (k + 1) (by omega); rwa [show i + (k + 1) = i + 1 + k by omega] at this)
    rw [List.replicate_succ, show i + (n + 1) = i + 1 + n by omega, ← this, List.take_add_one, h0]
    simp
theorem lead_says {most : Nat} {last : Bool} {A D : Nat} {code row o : List Nat} (hf : Fits code) (hr : row.length = A + D) :
    ∀ (l : List Say) (i p : Nat), (∀ x ∈ l, Has code x.s) → Says row i l → i ≤ row.length → Leads most (.dsym last A D code (row.take i)) (.dsym last A D code row) (l.flatMap (sayBits code)) p o o
  | [], i, p, _, hs, hi => by
    have : i = row.length := hs
    rw [this, List.take_length]
    exact Leads.refl _ _ _ _
  | x :: r, i, p, hh, hs, hi => by
    obtain ⟨m, hm, hm0⟩ := hh x (List.mem_cons_self ..)
    have hh2 : ∀ y ∈ r, Has code y.s := fun y hy => hh y (List.mem_cons_of_mem _ hy)
    have hl : (row.take i).length = i := by rw [List.length_take]; omega
    rw [List.flatMap_cons]
    unfold sayBits
    have drep : ∀ (q : Nat), 16 ≤ x.s → ¬ (x.s = 16 ∧ row.take i = []) → i < row.length → Leads most (.dsym last A D code (row.take i)) (.drep last A D code (row.take i) x.s) (cbits code x.s) q o o := by
      intro q h1 h2 h3
      refine Leads.one fun times => ⟨times, fun pre t hp => ?_⟩
      unfold step
      simp only [sym_at hf hm hm0 pre t hp, hl, if_pos (show i < A + D by omega), if_neg (show ¬ x.s < 16 by omega), if_neg h2]
      rw [cbits_n hm]
    rcases hs with ⟨h1, h2, h3, h4⟩ | ⟨h1, h2, h3, h4, h5, h6, h7⟩ | ⟨h1, h2, h3, h4, h5, h6⟩ | ⟨h1, h2, h3, h4, h5, h6⟩
    · have hi2 := (List.getElem?_eq_some_iff.1 h3).1
      have q1 : Leads most (.dsym last A D code (row.take i)) (.dsym last A D code (row.take (i + 1))) (cbits code x.s) p o o := by
        refine Leads.one fun times => ⟨times, fun pre t hp => ?_⟩
        unfold step
        simp only [sym_at hf hm hm0 pre t hp, hl, if_pos (show i < A + D by omega), if_pos h1]
        rw [cbits_n hm, List.take_add_one, h3]
        rfl
      have e : bitsOf x.n x.v = [] := by rw [h2]; rfl
      rw [e, List.append_nil]
      exact q1.trans (lead_says hf hr r (i + 1) _ hh2 h4 (by omega))
    · have hne : row.take i ≠ [] := by intro e; rw [e] at hl; simp at hl; omega
      have hz : row[i - 1]? = some (row.getD (i - 1) 0) := by rw [List.getD_eq_getElem?_getD, List.getElem?_eq_getElem (by omega)]; rfl
      have hz2 : (row.take i).getD (i - 1) 0 = row.getD (i - 1) 0 := by rw [List.getD_eq_getElem?_getD, List.getElem?_take, if_pos (by omega), hz]; rfl
      have q2 : ∀ q, Leads most (.drep last A D code (row.take i) x.s) (.dsym last A D code (row.take (i + (3 + x.v)))) (bitsOf x.n x.v) q o o := by
        intro q
        refine Leads.one fun times => ⟨times, fun pre t hp => ?_⟩
        rw [h1, h2]
        unfold step
        simp only [if_true, num_at pre t 2 x.v hp, Option.map_some, bitsOf_length, Nat.mod_eq_of_lt (show x.v < 2 ^ 2 from h3), hl, hz2]
        rw [if_neg (show ¬ (16 = 18) by omega), if_neg (by omega), take_same (3 + x.v) i h5 (fun k hk => by rw [h6 k hk, hz])]
      exact ((drep p (by omega) (by rintro ⟨_, e⟩; exact hne e) (by omega)).trans (q2 _)).trans (lead_says hf hr r _ _ hh2 h7 h5)
    · have q2 : ∀ q, Leads most (.drep last A D code (row.take i) x.s) (.dsym last A D code (row.take (i + (3 + x.v)))) (bitsOf x.n x.v) q o o := by
        intro q
        refine Leads.one fun times => ⟨times, fun pre t hp => ?_⟩
        rw [h1, h2]
        unfold step
        simp only [if_true, if_neg (show ¬ (17 = 16) by omega), num_at pre t 3 x.v hp, Option.map_some, bitsOf_length, Nat.mod_eq_of_lt (show x.v < 2 ^ 3 from h3), hl]
        rw [if_neg (show ¬ (17 = 18) by omega), if_neg (by omega), take_same (3 + x.v) i h4 h5]
      exact ((drep p (by omega) (by rintro ⟨e, _⟩; omega) (by omega)).trans (q2 _)).trans (lead_says hf hr r _ _ hh2 h6 h4)
    · have q2 : ∀ q, Leads most (.drep last A D code (row.take i) x.s) (.dsym last A D code (row.take (i + (11 + x.v)))) (bitsOf x.n x.v) q o o := by
        intro q
        refine Leads.one fun times => ⟨times, fun pre t hp => ?_⟩
        rw [h1, h2]
        unfold step
        simp only [if_true, if_neg (show ¬ (18 = 16) by omega), if_neg (show ¬ (18 = 17) by omega), num_at pre t 7 x.v hp, Option.map_some, bitsOf_length, Nat.mod_eq_of_lt (show x.v < 2 ^ 7 from h3), hl]
        rw [if_neg (by omega), take_same (11 + x.v) i h4 h5]
      exact ((drep p (by omega) (by rintro ⟨e, _⟩; omega) (by omega)).trans (q2 _)).trans (lead_says hf hr r _ _ hh2 h6 h4)
end Go.Proofs.YtikdpnpkmmmacaaDoor

/-
  A whole dynamic block, and what its bits do. No walk in this text.
-/
namespace Go.Proofs.YtikdpnpkmmmacaaDoor
set_option linter.unusedVariables false
/-- Some places of a row are filled. -/
def fill (f : List Nat) (idx : List Nat) (F : List Nat) : List Nat := idx.foldl (fun F j => F.set j (f.getD j 0)) F
theorem fill_snoc (f idx F : List Nat) (j : Nat) : fill f (idx ++ [j]) F = (fill f idx F).set j (f.getD j 0) := by simp [fill]
theorem fill_len (f : List Nat) : ∀ (idx F : List Nat), (fill f idx F).length = F.length
  | [], F => rfl
  | j :: r, F => by
    show (fill f r (F.set j (f.getD j 0))).length = _
    rw [fill_len f r, List.length_set]
theorem fill_at (f : List Nat) {j : Nat} : ∀ (idx F : List Nat), F.length = f.length → (j ∈ idx ∨ F[j]? = f[j]?) → (fill f idx F)[j]? = f[j]?
  | [], F, hl, h => by
    rcases h with h | h
    · cases h
    · exact h
  | i :: r, F, hl, h => by
    show (fill f r (F.set i (f.getD i 0)))[j]? = _
    refine fill_at f r _ (by rw [List.length_set]; exact hl) ?_
    by_cases hij : i = j
    · subst hij
      right
      by_cases hi : i < F.length
      · rw [List.getElem?_set_self hi, List.getD_eq_getElem?_getD, List.getElem?_eq_getElem (by omega)]
        rfl
      · rw [List.getElem?_eq_none (by rw [List.length_set]; omega), List.getElem?_eq_none (by omega)]
    · rcases h with h | h
      · left
        rcases List.mem_cons.1 h with e | e
        · exact absurd e.symm hij
        · exact e
      · right
        rw [List.getElem?_set_ne hij]
        exact h
theorem fill_all {f : List Nat} (h : f.length = 19) : fill f ordr (List.replicate 19 0) = f := by
  apply List.ext_getElem?
  intro j
  by_cases hj : j < 19
  · refine fill_at f ordr _ (by simp [h]) (Or.inl ?_)
    have : ∀ k : _root_.Fin 19, k.1 ∈ ordr := by decide
    exact this ⟨j, hj⟩
  · rw [List.getElem?_eq_none (by rw [fill_len]; simp; omega), List.getElem?_eq_none (by omega)]
/-- The bits of the lengths of lengths. -/
def firstBits (f : List Nat) : List Nat → List Bool := fun idx => idx.flatMap fun j => bitsOf 3 (f.getD j 0)
theorem lead_first_part {most : Nat} {last : Bool} {A D : Nat} {f o : List Nat} (h8 : ∀ x ∈ f, x < 8) : ∀ (i p : Nat), i ≤ 19 → Leads most (.dfst last A D 19 0 (List.replicate 19 0)) (.dfst last A D 19 i (fill f (ordr.take i) (List.replicate 19 0))) (firstBits f (ordr.take i)) p o o
  | 0, p, _ => Leads.refl _ _ _ _
  | i + 1, p, hi => by
    obtain ⟨h1, h2⟩ : ordr[i]? = some (ordr.getD i 0) ∧ ordr.getD i 0 < 19 := by
      have : ∀ j : _root_.Fin 19, ordr[j.1]? = some (ordr.getD j.1 0) ∧ ordr.getD j.1 0 < 19 := by decide
      exact this ⟨i, by omega⟩
    have ht : ordr.take (i + 1) = ordr.take i ++ [ordr.getD i 0] := by rw [List.take_add_one, h1]; rfl
    have hv : f.getD (ordr.getD i 0) 0 < 2 ^ 3 := by
      rw [List.getD_eq_getElem?_getD]
      cases e : f[ordr.getD i 0]? with
      | none => simp
      | some y => exact h8 y (List.mem_of_getElem? e)
    have q : ∀ q, Leads most (.dfst last A D 19 i (fill f (ordr.take i) (List.replicate 19 0))) (.dfst last A D 19 (i + 1) (fill f (ordr.take (i + 1)) (List.replicate 19 0))) (bitsOf 3 (f.getD (ordr.getD i 0) 0)) q o o := by
      intro q
      refine Leads.one fun times => ⟨times, fun pre t hp => ?_⟩
      unfold step
      simp only [if_pos (show i < 19 by omega), num_at pre t 3 _ hp, Option.map_some, Nat.mod_eq_of_lt hv, bitsOf_length]
      rw [ht, fill_snoc]
    have := (lead_first_part h8 i p (by omega)).trans (q _)
    have e : firstBits f (ordr.take (i + 1)) = firstBits f (ordr.take i) ++ bitsOf 3 (f.getD (ordr.getD i 0) 0) := by unfold firstBits; rw [ht, List.flatMap_append]; simp
    rw [e]
    exact this
theorem lead_first {most : Nat} {last : Bool} {A D p : Nat} {f o : List Nat} (hl : f.length = 19) (h8 : ∀ x ∈ f, x < 8) (hk : kr f = 32768) : Leads most (.dfst last A D 19 0 (List.replicate 19 0)) (.dsym last A D f []) (firstBits f ordr) p o o := by
  have h1 := lead_first_part (most := most) (last := last) (A := A) (D := D) (o := o) h8 19 p (Nat.le_refl _)
  rw [show ordr.take 19 = ordr by decide, fill_all hl] at h1
  have h2 : ∀ q, Leads most (.dfst last A D 19 19 f) (.dsym last A D f []) [] q o o := fun q => Leads.one fun times => ⟨times, fun pre t hp => by
    unfold step
    simp only [if_neg (Nat.lt_irrefl 19), if_pos hk]
    rfl⟩
  have := h1.trans (h2 _)
  rwa [List.append_nil] at this
/-- A dynamic block. -/
theorem lead_dynamic {most : Nat} {last : Bool} {p : Nat} {f lit di T : List Nat} {says : List Say} {l : List Tok} {i e : Nat} (hl : f.length = 19) (h8 : ∀ x ∈ f, x < 8) (hk : kr f = 32768) (hff : Fits f)
    (ha : lit.length = 286) (hb : di.length = 30) (hsay : Says (lit ++ di) 0 says) (hhas : ∀ x ∈ says, Has f x.s) (hm1 : mays lit = true) (hm2 : mays di = true) (hf1 : Fits lit) (hf2 : Fits di) (h256 : Has lit 256)
    (hT : T.length ≤ most) (ho : Oct T) (hu : ∀ x ∈ l, Uses lit di x) (ht : Tells T i l e) (hi : i ≤ T.length) :
    Leads most (.dnum last) (.head last) ((bitsOf 5 29 ++ (bitsOf 5 29 ++ bitsOf 4 15)) ++ (firstBits f ordr ++ (says.flatMap (sayBits f) ++ (l.flatMap (tokBits lit di) ++ cbits lit 256)))) p (T.take i) (T.take e) := by
  have q1 : Leads most (.dnum last) (.dfst last 286 30 19 0 (List.replicate 19 0)) (bitsOf 5 29 ++ (bitsOf 5 29 ++ bitsOf 4 15)) p (T.take i) (T.take i) := by
    refine Leads.one fun times => ⟨times, fun pre t hp => ?_⟩
    have e : bitsOf 5 29 ++ (bitsOf 5 29 ++ bitsOf 4 15) = bitsOf 14 16317 := by decide
    rw [e]
    unfold step
    simp only [num_at pre t 14 16317 hp, bitsOf_length]
    rfl
  have hrow : (lit ++ di).length = 286 + 30 := by rw [List.length_append, ha, hb]
  have q3 := fun q => lead_says (most := most) (last := last) (o := T.take i) hff hrow says 0 q hhas hsay (Nat.zero_le _)
  have q4 : ∀ q, Leads most (.dsym last 286 30 f (lit ++ di)) (.sym last lit di) [] q (T.take i) (T.take i) := by
    intro q
    refine Leads.one fun times => ⟨times, fun pre t hp => ?_⟩
    obtain ⟨m, hm, hm0⟩ := h256
    have hy : (lit ++ di).getD 256 0 = m := by rw [List.getD_eq_getElem?_getD, List.getElem?_append_left (by omega), hm]; rfl
    unfold step
    simp only [hrow, if_neg (Nat.lt_irrefl (286 + 30)), hy]
    rw [List.take_left' ha, List.drop_left' ha, hm1, hm2, if_neg (by rintro (e | e | e); omega; cases e; cases e)]
    rfl
  have q5 := fun q => lead_body (p := q) (most := most) (last := last) hf1 hf2 hT ho h256 hu ht hi
  have := q1.trans ((lead_first hl h8 hk).trans ((q3 _).trans ((q4 _).trans (q5 _))))
  rwa [List.nil_append] at this
end Go.Proofs.YtikdpnpkmmmacaaDoor

/-
  A text deflated: where the machine stands over it, over more, and over a beginning of it. No walk in this text.
-/
namespace Go.Proofs.YtikdpnpkmmmacaaDoor
set_option linter.unusedVariables false
/-- Bytes that hold a text: their bits lead to the end, the last byte is begun. -/
structure Holds (most : Nat) (z T : List Nat) : Prop where
  bits : ∃ x pad, allb z = x ++ pad ∧ pad.length < 8 ∧ 0 < x.length ∧ Leads most (.head false) .done x 0 [] T
variable {most : Nat} {z T : List Nat}
theorem Holds.stands (h : Holds most z T) (behind : List Nat) : ∃ c, Stands (z ++ behind) most c ∧ c.st = .done ∧ c.out = T ∧ (c.pos - 1) / 8 + 1 = z.length ∧ 0 < c.pos := by
  obtain ⟨x, pad, h1, h2, h3, h4⟩ := h.bits
  obtain ⟨t2, h5⟩ := h4 []
  have hl : 8 * z.length = x.length + pad.length := by rw [← allb_len, h1, List.length_append]
  have := h5 [] (pad ++ allb behind) rfl
  rw [List.nil_append, ← List.append_assoc, ← h1, ← allb_append] at this
  refine ⟨_, ⟨this, rfl⟩, rfl, rfl, ?_, ?_⟩
  · show (0 + x.length - 1) / 8 + 1 = z.length
    omega
  · show 0 < 0 + x.length
    omega
/-- Fewer bytes: a beginning of the text, and more is wanted. -/
theorem Holds.cut (h : Holds most z T) {k : Nat} (hk : k < z.length) {c : Cfg} (hc : Stands (z.take k) most c) : c.out <+: T ∧ c.st ≠ .done ∧ ∀ y, c.st ≠ .bad y := by
  obtain ⟨d, h1, h2, h3, h4, h5⟩ := h.stands []
  rw [List.append_nil] at h1
  have hz : z.take k ++ z.drop k = z := List.take_append_drop k z
  have hlen : (z.take k).length = k := by rw [List.length_take]; omega
  have hp := hc.pos
  rw [hlen] at hp
  have over : ¬ (c.st = .done ∨ ∃ y, c.st = .bad y) := by
    intro ho
    have h6 := hc.over (D := z.drop k) ho
    rw [hz] at h6
    have e := h6.one h1
    rw [e] at hp
    omega
  refine ⟨?_, fun e => over (Or.inl e), fun y e => over (Or.inr ⟨y, e⟩)⟩
  have h7 : Stands (z.take k ++ z.drop k) most d := by rw [hz]; exact h1
  have r := hc.more h7
  rw [← h3]
  exact runs_out r (by rw [allb_len, List.length_append, hlen]; omega)
/-- With fewer bytes never more. -/
theorem Stands.mono {B : List Nat} {j k : Nat} (hjk : j ≤ k) {c d : Cfg} (hc : Stands (B.take j) most c) (hd : Stands (B.take k) most d) : c.out <+: d.out := by
  have e : B.take j ++ (B.take k).drop j = B.take k := by
    have : (B.take k).take j = B.take j := by rw [List.take_take, Nat.min_eq_left hjk]
    rw [← this, List.take_append_drop]
  have h2 : Stands (B.take j ++ (B.take k).drop j) most d := by rw [e]; exact hd
  exact runs_out (hc.more h2) (by have := hc.pos; rw [allb_len, List.length_append]; omega)
/-- Blocks, one behind the other. -/
theorem lead_next {st : St} {x y : List Bool} {o o2 o3 : List Nat} (h : Leads most (.head false) (.head false) x 0 o o2) (k : Leads most (.head false) st y x.length o2 o3) : Leads most (.head false) st (x ++ y) 0 o o3 := h.trans (by rw [Nat.zero_add]; exact k)
theorem holds_of {x pad : List Bool} (h1 : allb z = x ++ pad) (h2 : pad.length < 8) (h3 : 0 < x.length) (h : Leads most (.head false) (.head true) x 0 [] T) : Holds most z T := by
  refine ⟨x, pad, h1, h2, h3, ?_⟩
  have := h.trans lead_over
  rwa [List.append_nil] at this
end Go.Proofs.YtikdpnpkmmmacaaDoor

/-
  Own texts of this seat, one behind the other: what each says stands ahead of it.
-/
import Derived.Test.YtpihipbeagpgpaaGreatDoorMt
import Derived.Test.YtpihipbeagpgpaaGreatDoorMf
/-
 A text deflated: where the machine stands over it, over more, and over a beginning of it. No walk in this text.
-/
namespace Go.Proofs.YtpihipbeagpgpaaGreatDoor
set_option linter.unusedVariables false
structure Holds (most : Nat) (z T : List Nat) : Prop where
 bits : ∃ x pad, allb z = x ++ pad ∧ pad.length < 8 ∧ 0 < x.length ∧ Leads most (.head false) .done x 0 [] T
variable {most : Nat} {z T : List Nat}
theorem Holds.stands (h : Holds most z T) (behind : List Nat) : ∃ c, Stands (z ++ behind) most c ∧ c.st = .done ∧ c.out = T ∧ (c.pos - 1) / 8 + 1 = z.length ∧ 0 < c.pos := by
 obtain ⟨x, pad, h1, h2, h3, h4⟩ := h.bits
 obtain ⟨t2, h5⟩ := h4 []
 have hl : 8 * z.length = x.length + pad.length := by rw [← allb_len, h1, List.length_append]
 have := h5 [] (pad ++ allb behind) rfl
 rw [List.nil_append, ← List.append_assoc, ← h1, ← allb_append] at this
 refine ⟨_, ⟨this, rfl⟩, rfl, rfl, ?_, ?_⟩
 ·show (0 + x.length - 1) / 8 + 1 = z.length
  omega
 ·show 0 < 0 + x.length
  omega
theorem Holds.cut (h : Holds most z T) {k : Nat} (hk : k < z.length) {c : Cfg} (hc : Stands (z.take k) most c) : c.out <+: T ∧ c.st ≠ .done ∧ ∀ y, c.st ≠ .bad y := by
 obtain ⟨d, h1, h2, h3, h4, h5⟩ := h.stands []
 rw [List.append_nil] at h1
 have hz : z.take k ++ z.drop k = z := List.take_append_drop k z
 have hlen : (z.take k).length = k := by rw [List.length_take]; omega
 have hp := hc.pos
 rw [hlen] at hp
 have over : ¬ (c.st = .done ∨ ∃ y, c.st = .bad y) := by
  intro ho
  have h6 := hc.over (D := z.drop k) ho
  rw [hz] at h6
  have e := h6.one h1
  rw [e] at hp
  omega
 refine ⟨?_, fun e => over (Or.inl e), fun y e => over (Or.inr ⟨y, e⟩)⟩
 have h7 : Stands (z.take k ++ z.drop k) most d := by rw [hz]; exact h1
 have r := hc.more h7
 rw [← h3]
 exact runs_out r (by rw [allb_len, List.length_append, hlen]; omega)
theorem lead_next {st : St} {x y : List Bool} {o o2 o3 : List Nat} (h : Leads most (.head false) (.head false) x 0 o o2) (k : Leads most (.head false) st y x.length o2 o3) : Leads most (.head false) st (x ++ y) 0 o o3 := h.trans (by rw [Nat.zero_add]; exact k)
theorem holds_of {x pad : List Bool} (h1 : allb z = x ++ pad) (h2 : pad.length < 8) (h3 : 0 < x.length) (h : Leads most (.head false) (.head true) x 0 [] T) : Holds most z T := by
 refine ⟨x, pad, h1, h2, h3, ?_⟩
 have := h.trans lead_over
 rwa [List.append_nil] at this
end Go.Proofs.YtpihipbeagpgpaaGreatDoor

/-
 What the document's lengthSymbol and distanceSymbol come to.
-/
namespace Go.Proofs.YtpihipbeagpgpaaGreatDoor
open Go.RowKit
set_option linter.unusedVariables false
def lfit (n i : Nat) : Bool := decide (n < lbase (257 + i) + 2 ^ lmore (257 + i) ∧ n ≠ 258)
def dfit (n i : Nat) : Bool := decide (n < dbase i + 2 ^ dmore i)
theorem lsym_at {n i : Nat} (hi : i < 28) (h : lfit n i = true) (hj : ∀ j, j < i → lfit n j = false) : lsym n = 257 + i := by
 unfold lsym
 have : (List.range 28).find? (fun i => decide (n < lbase (257 + i) + 2 ^ lmore (257 + i) ∧ n ≠ 258)) = some i := find_range (p := lfit n) hi h hj
 rw [this]
theorem lsym_end {n : Nat} (hj : ∀ j, j < 28 → lfit n j = false) : lsym n = 285 := by
 unfold lsym
 have : (List.range 28).find? (fun i => decide (n < lbase (257 + i) + 2 ^ lmore (257 + i) ∧ n ≠ 258)) = none := by
  rw [List.find?_eq_none]
  intro i hi
  have e := hj i (List.mem_range.1 hi)
  unfold lfit at e
  rw [e]
  simp
 rw [this]
theorem dsym_at {n i : Nat} (hi : i < 30) (h : dfit n i = true) (hj : ∀ j, j < i → dfit n j = false) : dsym n = i := by
 unfold dsym
 have : (List.range 30).find? (fun i => decide (n < dbase i + 2 ^ dmore i)) = some i := find_range (p := dfit n) hi h hj
 rw [this]
set_option maxRecDepth 100000 in
set_option maxHeartbeats 2000000 in
theorem lsym_c (n : Nat) (h1 : 3 ≤ n) (h2 : n ≤ 258) (w : World) : Calls Tryz.prog 103 #[.int .i64 (n : Int)] w fun e w' => e = .returned (.tuple #[.int .i64 (lsym n : Nat), .int .i64 ((n - lbase (lsym n) : Nat) : Int), .int .i64 (lmore (lsym n) : Nat)]) ∧ w = w' := by
 obtain ⟨S, hS⟩ : ∃ S, lsym n = S := ⟨_, rfl⟩
 rw [hS]
 have AS : Aside (lsym n = S ∧ 3 ≤ n ∧ n ≤ 258) := ⟨hS, h1, h2⟩
 have hnI : (n : Int) ≤ 258 := by omega
 clear hS h1 h2
 go_enter Tryz.func103, Tryz.ntmps103
 go_wp2_with fail
 go_loopg [5] 28 (fun g si wr => ∃ q : Nat, si = .int .i64 (q : Int) ∧ Aside (∃ i, q = 257 + i ∧ i + g = 28 ∧ ∀ j, j < i → lfit n j = false) ∧ w = wr)
 case atStart => exact ⟨257, rfl, ⟨0, rfl, by omega, fun j hj => by omega⟩, rfl⟩
 case round =>
  obtain ⟨q, rfl, hI, rfl⟩ := hrel
  obtain ⟨i, hq, hig, hno⟩ := hI.out
  by_cases hi : i < 28
  ·have tq : (q : Int) < 285 := by omega
   have hb := lbase_c q (by omega) (by omega) w
   obtain ⟨b, hbe⟩ : ∃ b, lbase q = b := ⟨_, rfl⟩
   obtain ⟨m, hme⟩ : ∃ m, lmore q = m := ⟨_, rfl⟩
   have hble : b ≤ 1000 := by rw [← hbe]; exact lbase_le q (by omega) (by omega)
   have hmle : m ≤ 5 := by rw [← hme, hq]; exact lmore_le _ (by omega)
   rw [hbe, hme] at hb
   obtain ⟨y, hy⟩ : ∃ y, b + 2 ^ m = y := ⟨_, rfl⟩
   have hw : wrap64 ((b : Int) + wrap64 (2 ^ m)) = (y : Int) := by rw [w64_add b m (by omega) (by omega), hy]
   have AI : Aside (q = 257 + i ∧ i + gk = 28 ∧ (∀ j, j < i → lfit n j = false) ∧ i < 28 ∧ lbase q = b ∧ lmore q = m ∧ b + 2 ^ m = y ∧ b ≤ 1000) := ⟨hq, hig, hno, hi, hbe, hme, hy, hble⟩
   have hmI : (m : Int) ≤ 13 := by omega
   clear hI hq hig hno hi hbe hme hble hmle hy
   by_cases hfit : n < y ∧ n ≠ 258
   ·have t1 : (n : Int) < (y : Int) := by omega
    have t2 : ((n : Int) == 258) = false := beq_eq_false_iff_ne.2 (by omega)
    have AF : Aside (S = q ∧ lbase S = b ∧ lmore S = m ∧ b ≤ n) := by
     have a := AI.out
     have e : lsym n = 257 + i := lsym_at a.2.2.2.1 (by unfold lfit; rw [← a.1, a.2.2.2.2.1, a.2.2.2.2.2.1, a.2.2.2.2.2.2.1]; exact decide_eq_true hfit) a.2.2.1
     have e2 : S = q := by rw [← AS.out.1, e, a.1]
     have := (lsym_ok AS.out.2.1 AS.out.2.2).2.2.1
     rw [AS.out.1, e2, a.2.2.2.2.1] at this
     exact ⟨e2, by rw [e2]; exact a.2.2.2.2.1, by rw [e2]; exact a.2.2.2.2.2.1, this⟩
    have hbn : (b : Int) ≤ (n : Int) := by have := AF.out; omega
    clear hfit
    go_wp2_with (go_at_call 128; refine hb.mono ?_; rintro e3 w3 ⟨rfl, rfl⟩)
    go_ret3
    obtain ⟨f1, f2, f3, f4⟩ := AF.out
    refine ⟨?_, rfl⟩
    rw [f2, f3, f1, Int.natCast_sub f4]
    rfl
   ·have t1 : ¬ (n : Int) < (y : Int) ∨ n = 258 := by omega
    have A2 : Aside (lfit n i = false) := by
     have a := AI.out
     show lfit n i = false
     unfold lfit; rw [← a.1, a.2.2.2.2.1, a.2.2.2.2.2.1, a.2.2.2.2.2.2.1]; exact decide_eq_false hfit
    clear hfit
    have t3 : (n : Int) < (y : Int) ∨ ¬ (n : Int) < (y : Int) := Classical.em _
    rcases t3 with t3 | t3
    ·have e258 : n = 258 := by omega
     have t4 : ((n : Int) == 258) = true := beq_iff_eq.2 (by omega)
     clear t1 e258
     go_wp2_with (go_at_call 128; refine hb.mono ?_; rintro e3 w3 ⟨rfl, rfl⟩)
     go_roundg (gk - 1)
     case measure => have := AI.out; omega
     case rel =>
      have a := AI.out
      exact ⟨q + 1, by go_num, ⟨i + 1, by omega, by omega, fun j hj => by
       by_cases e : j = i
       ·rw [e]; exact A2.out
       ·exact a.2.2.1 j (by omega)⟩, rfl⟩
    ·clear t1
     go_wp2_with (go_at_call 128; refine hb.mono ?_; rintro e3 w3 ⟨rfl, rfl⟩)
     go_roundg (gk - 1)
     case measure => have := AI.out; omega
     case rel =>
      have a := AI.out
      exact ⟨q + 1, by go_num, ⟨i + 1, by omega, by omega, fun j hj => by
       by_cases e : j = i
       ·rw [e]; exact A2.out
       ·exact a.2.2.1 j (by omega)⟩, rfl⟩
  ·have hi2 : i = 28 := by omega
   have tq : ¬ (q : Int) < 285 := by omega
   have AF : Aside (S = 285 ∧ n = 258) := by
    have e : lsym n = 285 := lsym_end (fun j hj => hno j (by omega))
    have e2 : S = 285 := by rw [← AS.out.1, e]
    have q5 := lsym_ok AS.out.2.1 AS.out.2.2
    rw [e] at q5
    have : lbase 285 = 258 := rfl
    have : lmore 285 = 0 := rfl
    have := AS.out
    exact ⟨e2, by omega⟩
   clear hI hq hig hno hi hi2
   go_wp2_with fail
   go_ret3
   obtain ⟨f1, f2⟩ := AF.out
   exact ⟨by rw [f1, f2]; rfl, rfl⟩
set_option maxRecDepth 100000 in
set_option maxHeartbeats 2000000 in
theorem dsym_c (n : Nat) (h1 : 1 ≤ n) (h2 : n ≤ 200) (w : World) : Calls Tryz.prog 104 #[.int .i64 (n : Int)] w fun e w' => e = .returned (.tuple #[.int .i64 (dsym n : Nat), .int .i64 ((n - dbase (dsym n) : Nat) : Int), .int .i64 (dmore (dsym n) : Nat)]) ∧ w = w' := by
 obtain ⟨S, hS⟩ : ∃ S, dsym n = S := ⟨_, rfl⟩
 rw [hS]
 have AS : Aside (dsym n = S ∧ 1 ≤ n ∧ n ≤ 200) := ⟨hS, h1, h2⟩
 have hnI : (n : Int) ≤ 200 := by omega
 clear hS h1 h2
 go_enter Tryz.func104, Tryz.ntmps104
 go_wp2_with fail
 go_loopg [5] 30 (fun g si wr => ∃ q : Nat, si = .int .i64 (q : Int) ∧ Aside (q + g = 30 ∧ q ≤ S ∧ ∀ j, j < q → dfit n j = false) ∧ w = wr)
 case atStart => exact ⟨0, rfl, ⟨by omega, by omega, fun j hj => by omega⟩, rfl⟩
 case round =>
  obtain ⟨q, rfl, hI, rfl⟩ := hrel
  obtain ⟨hig, hqS, hno⟩ := hI.out
  have hok := dsym_ok AS.out.2.1 AS.out.2.2
  rw [AS.out.1] at hok
  have hq30 : q ≤ 29 := by omega
  have hb := dbase_c q hq30 w
  obtain ⟨b, hbe⟩ : ∃ b, dbase q = b := ⟨_, rfl⟩
  obtain ⟨m, hme⟩ : ∃ m, dmore q = m := ⟨_, rfl⟩
  have hble : b ≤ 40000 := by rw [← hbe]; exact dbs_le q (by omega)
  have hmle : m ≤ 13 := by rw [← hme]; exact dmore_le q hq30
  rw [hbe, hme] at hb
  obtain ⟨y, hy⟩ : ∃ y, b + 2 ^ m = y := ⟨_, rfl⟩
  have hw : wrap64 ((b : Int) + wrap64 (2 ^ m)) = (y : Int) := by rw [w64_add b m (by omega) (by omega), hy]
  have AI : Aside (q + gk = 30 ∧ q ≤ S ∧ (∀ j, j < q → dfit n j = false) ∧ q ≤ 29 ∧ dbase q = b ∧ dmore q = m ∧ b + 2 ^ m = y ∧ S ≤ 29 ∧ dbase S ≤ n ∧ n - dbase S < 2 ^ dmore S) := ⟨hig, hqS, hno, hq30, hbe, hme, hy, hok⟩
  have hmI : (m : Int) ≤ 13 := by omega
  have hqI : (q : Int) ≤ 29 := by omega
  clear hI hig hqS hno hok hbe hme hble hmle hy hq30
  by_cases hfit : n < y
  ·have t1 : (n : Int) < (y : Int) := by omega
   have AF : Aside (S = q ∧ dbase S = b ∧ dmore S = m ∧ b ≤ n) := by
    have a := AI.out
    have e : dsym n = q := dsym_at (by omega) (by unfold dfit; rw [a.2.2.2.2.1, a.2.2.2.2.2.1, a.2.2.2.2.2.2.1]; exact decide_eq_true hfit) a.2.2.1
    have e2 : S = q := by rw [← AS.out.1, e]
    have h9 := a.2.2.2.2.2.2.2.2.1
    rw [e2, a.2.2.2.2.1] at h9
    exact ⟨e2, by rw [e2]; exact a.2.2.2.2.1, by rw [e2]; exact a.2.2.2.2.2.1, h9⟩
   have hbn : (b : Int) ≤ (n : Int) := by have := AF.out; omega
   clear hfit
   go_wp2_with (go_at_call 129; refine hb.mono ?_; rintro e3 w3 ⟨rfl, rfl⟩)
   go_ret3
   obtain ⟨f1, f2, f3, f4⟩ := AF.out
   refine ⟨?_, rfl⟩
   rw [f2, f3, f1, Int.natCast_sub f4]
   rfl
  ·have t1 : ¬ (n : Int) < (y : Int) := by omega
   have A2 : Aside (dfit n q = false ∧ q < S ∧ 2 ≤ gk) := by
    have a := AI.out
    have q1 : dfit n q = false := by unfold dfit; rw [a.2.2.2.2.1, a.2.2.2.2.2.1, a.2.2.2.2.2.2.1]; exact decide_eq_false hfit
    have q2 : q ≠ S := by
     intro e
     rw [← e, a.2.2.2.2.1, a.2.2.2.2.2.1] at a
     omega
    exact ⟨q1, by omega, by omega⟩
   clear hfit
   go_wp2_with (go_at_call 129; refine hb.mono ?_; rintro e3 w3 ⟨rfl, rfl⟩)
   go_roundg (gk - 1)
   case measure => have := A2.out; omega
   case rel =>
    have a := AI.out
    have a2 := A2.out
    exact ⟨q + 1, by go_num, ⟨by omega, by omega, fun j hj => by
     by_cases e : j = q
     ·rw [e]; exact a2.1
     ·exact a.2.2.1 j (by omega)⟩, rfl⟩
end Go.Proofs.YtpihipbeagpgpaaGreatDoor

/-
 The document's body: tokens written by two codes.
-/
namespace Go.Proofs.YtpihipbeagpgpaaGreatDoor
open Go.RowKit
set_option linter.unusedVariables false
section
variable {lo W : Nat} {w u : World}
theorem kinds_ne {w : World} {b c : Nat} {cs ds : Array Value} {t s : TypeId} (h : Cells w b cs t) (k : Cells w c ds s) (hts : t ≠ s) : b ≠ c := by
 intro e
 subst e
 unfold Cells at h k
 rw [h] at k
 have h3 := congrArg (fun o : Option Obj => match o with | some (.cells _ t _) => t | _ => 0) k
 exact hts h3
theorem Tb.wk {T : Nat} {ls : List Nat} (h : Tb w T ls) (k : Vk lo W w u) {cs : Array Value} (hW : Cells w W cs 134) : Tb u T ls := by
 obtain ⟨g, rows, c0, h1, h3⟩ := h.cells
 obtain ⟨ds, hd⟩ := h.kind
 have hd2 := hd.wk k (kinds_ne hd hW (by decide)) (by decide)
 refine ⟨⟨g, rows, ?_, h1.wk k (kinds_ne h1 hW (by decide)) (by decide), fun j m hj => ⟨fun hm => ?_, (h3 j m hj).2⟩⟩, ds, hd2⟩
 ·rw [hd2.cell, ← hd.cell]; exact c0
 ·obtain ⟨b, e1, e2⟩ := (h3 j m hj).1 hm
  exact ⟨b, e1, Cells.wk e2 k (kinds_ne e2 hW (by decide)) (by decide)⟩
def tokAt (w : World) (b o i : Nat) : Tok → Prop
 | .inl y => w.cell? ⟨b, o + i * 3, none⟩ = some (.int .u8 (y : Int)) ∧ w.cell? ⟨b, o + i * 3 + 1, none⟩ = some (.int .i64 0)
 | .inr (n, d) => w.cell? ⟨b, o + i * 3 + 1, none⟩ = some (.int .i64 (n : Int)) ∧ w.cell? ⟨b, o + i * 3 + 2, none⟩ = some (.int .i64 (d : Int))
def Toks (w : World) (a : Option Addr) (l : List Tok) : Prop := l = [] ∨ ∃ b o cs, a = some ⟨b, o, none⟩ ∧ Cells w b cs 164 ∧ ∀ (i : Nat) (t : Tok), l[i]? = some t → tokAt w b o i t
theorem tokAt.same {b o i : Nat} {t : Tok} {cs : Array Value} (h : tokAt w b o i t) (h1 : Cells w b cs 164) (h2 : Cells u b cs 164) : tokAt u b o i t := by
 have e : ∀ j, u.cell? ⟨b, j, none⟩ = w.cell? ⟨b, j, none⟩ := fun j => by rw [h1.cell, h2.cell]
 cases t using Tok.el with
 | lit y => exact ⟨(e _).trans h.1, (e _).trans h.2⟩
 | cp n d => exact ⟨(e _).trans h.1, (e _).trans h.2⟩
theorem lmore_6 {s : Nat} (h : s ≤ 285) : lmore s ≤ 6 := by
 unfold lmore
 split
 ·omega
 ·split <;> omega
theorem dmore_14 {x : Nat} (h : x ≤ 29) : dmore x ≤ 14 := by
 unfold dmore
 split <;> omega
def May2 (lit di : List Nat) (t : Tok) : Prop := Uses lit di t ∧ match t with
 | .inl y => y < 256
 | .inr (n, d) => 3 ≤ n ∧ n ≤ 258 ∧ 1 ≤ d ∧ d ≤ 200
theorem tok_len {lit di : List Nat} (h1 : ∀ x ∈ lit, x ≤ 15) (h2 : ∀ x ∈ di, x ≤ 15) {t : Tok} (h : May2 lit di t) : (tokBits lit di t).length ≤ 60 := by
 have key : ∀ (ls : List Nat) (s : Nat), (∀ x ∈ ls, x ≤ 15) → (cbits ls s).length ≤ 15 := fun ls s hl => by
  unfold cbits
  cases e : ls[s]? with
  | none => simp
  | some n => simp only [bitsB_len]; exact hl n (List.mem_of_getElem? e)
 cases t using Tok.el with
 | lit y =>
  have a1 := key lit y h1
  show (cbits lit y).length ≤ 60
  omega
 | cp n d =>
  have a1 := key lit (lsym n) h1
  have a2 := key di (dsym d) h2
  have a3 := lmore_6 (lsym_ok h.2.1 h.2.2.1).2.1
  have a4 := dmore_14 (dsym_ok h.2.2.2.1 h.2.2.2.2).1
  unfold tokBits
  simp only [List.length_append, bitsOf_length]
  omega
theorem toks_len {lit di : List Nat} (h1 : ∀ x ∈ lit, x ≤ 15) (h2 : ∀ x ∈ di, x ≤ 15) : ∀ {l : List Tok}, (∀ t ∈ l, May2 lit di t) → (l.flatMap (tokBits lit di)).length ≤ 60 * l.length
 | [], _ => by simp
 | t :: l, h => by
  have h3 := tok_len h1 h2 (h t (by simp))
  have h4 := toks_len h1 h2 (l := l) (fun x hx => h x (by simp [hx]))
  rw [List.flatMap_cons, List.length_append, List.length_cons]
  omega
end
end Go.Proofs.YtpihipbeagpgpaaGreatDoor

/-
 The document's body: its walk.
-/
namespace Go.Proofs.YtpihipbeagpgpaaGreatDoor
open Go.RowKit
set_option linter.unusedVariables false
section
variable {lo W : Nat}
set_option maxRecDepth 100000 in
set_option maxHeartbeats 2000000 in
theorem wbody_c (l : List Tok) (lit di : List Nat) (T1 T2 : Nat) (a : Option Addr) (L C : Nat) (w : World) {v : Value} {z : List Nat} {bs : List Bool} {p : Nat} (h : Vz w lo W v z bs p) (hp : p < 8) (hlo : 4 ≤ lo)
  (ht : Toks w a l) (hL : l.length = L) (hLb : L ≤ 1000000) (h1 : Tb w T1 lit) (h2 : Tb w T2 di) (l1 : ∀ x ∈ lit, x ≤ 15) (l2 : ∀ x ∈ di, x ≤ 15) (n1 : lit.length ≤ 320) (n2 : di.length ≤ 320) (hm : ∀ t ∈ l, May2 lit di t) (h256 : Has lit 256) (hbs : bs.length < 100000000000) :
  Calls Tryz.prog 75 #[.pointer (some ⟨W, 0, none⟩), .slice a L C, .pointer (some ⟨T1, 0, none⟩), .pointer (some ⟨T2, 0, none⟩)] w fun e w' => e = .returned (.tuple #[]) ∧ (∃ v' z' p', Vz w' lo W v' z' (bs ++ (l.flatMap (tokBits lit di) ++ cbits lit 256)) p' ∧ p' < 8) ∧ Vk lo W w w' := by
 have A : Aside (4 ≤ lo ∧ Toks w a l ∧ l.length = L ∧ L ≤ 1000000 ∧ Tb w T1 lit ∧ Tb w T2 di ∧ (∀ x ∈ lit, x ≤ 15) ∧ (∀ x ∈ di, x ≤ 15) ∧ lit.length ≤ 320 ∧ di.length ≤ 320 ∧ (∀ t ∈ l, May2 lit di t) ∧ Has lit 256 ∧ bs.length < 100000000000) := ⟨hlo, ht, hL, hLb, h1, h2, l1, l2, n1, n2, hm, h256, hbs⟩
 have A0 : Aside (Vz w lo W v z bs p ∧ p < 8) := ⟨h, hp⟩
 have hLI : (L : Int) ≤ 1000000 := by omega
 have AW : Aside (∃ cs, Cells w W cs 134) := ⟨_, h.fr⟩
 have AN : Aside (∀ k, (bs ++ (l.take k).flatMap (tokBits lit di)).length + 100 < 1099511627776) := fun k => by
  have h3 := toks_len l1 l2 (l := l.take k) (fun t h => hm t (List.mem_of_mem_take h))
  rw [List.length_append]
  rw [List.length_take] at h3
  omega
 clear h hp hlo ht hL hLb h1 h2 l1 l2 n1 n2 hm h256 hbs
 go_enter Tryz.func75, Tryz.ntmps75
 go_wp2_with fail
 go_loopg [8] (L + 1) (fun gg s8 wr => ∃ i : Nat, s8 = .int .i64 (i : Int) ∧ Aside (i + gg = L + 1 ∧ i ≤ L) ∧ Aside (Vk lo W w wr ∧ ∃ v z p, Vz wr lo W v z (bs ++ (l.take i).flatMap (tokBits lit di)) p ∧ p < 8))
 case atStart => exact ⟨0, rfl, ⟨by omega, by omega⟩, Vk.refl _ _ _, v, z, p, by rw [List.take_zero, List.flatMap_nil, List.append_nil]; exact A0.out.1, A0.out.2⟩
 case round =>
  obtain ⟨i, rfl, AG, hI⟩ := hrel
  obtain ⟨hwk, v1, z1, p1, hz, hp1⟩ := hI.out
  have a0 := A.out
  obtain ⟨cs0, hW0⟩ := AW.out
  have htb1 : Tb wr T1 lit := a0.2.2.2.2.1.wk hwk hW0
  have htb2 : Tb wr T2 di := a0.2.2.2.2.2.1.wk hwk hW0
  by_cases hi : i < L
  ·have t1 : ((i : Int) < (L : Int)) = True := eq_true (by omega)
   have t1' : (i < L) = True := eq_true hi
   have hiI : (i : Int) < 1000000 := by omega
   obtain ⟨t, hx⟩ : ∃ t, l[i]? = some t := ⟨_, List.getElem?_eq_getElem (by omega)⟩
   have hmay := a0.2.2.2.2.2.2.2.2.2.2.1 t (List.mem_of_getElem? hx)
   obtain ⟨b, o, ds, ha, hcb, hcells⟩ : ∃ b o cs, a = some ⟨b, o, none⟩ ∧ Cells w b cs 164 ∧ ∀ (i : Nat) (t : Tok), l[i]? = some t → tokAt w b o i t := by
    rcases a0.2.1 with e | h
    ·rw [e] at hx; simp at hx
    ·exact h
   subst ha
   have hbW : b ≠ W := kinds_ne hcb hW0 (by decide)
   have hat : ∀ u, Vk lo W w u → tokAt u b o i t := fun u k => (hcells i t hx).same hcb (hcb.wk k hbW (by decide))
   have hcur := hat wr hwk
   have AT : Aside (∀ u, Vk lo W w u → tokAt u b o i t) := hat
   have htk : bs ++ (l.take (i + 1)).flatMap (tokBits lit di) = (bs ++ (l.take i).flatMap (tokBits lit di)) ++ tokBits lit di t := by
    rw [List.take_add_one, hx, List.flatMap_append, List.append_assoc]
    simp
   have hlen := AN.out i
   have AX : Aside (Vk lo W w wr ∧ i < L ∧ bs ++ (l.take (i + 1)).flatMap (tokBits lit di) = (bs ++ (l.take i).flatMap (tokBits lit di)) ++ tokBits lit di t ∧ May2 lit di t ∧ Vz wr lo W v1 z1 (bs ++ (l.take i).flatMap (tokBits lit di)) p1 ∧ p1 < 8 ∧ (bs ++ (l.take i).flatMap (tokBits lit di)).length + 100 < 1099511627776) := ⟨hwk, hi, htk, hmay, hz, hp1, hlen⟩
   have ATB : Aside (∀ u, Vk lo W w u → Tb u T1 lit ∧ Tb u T2 di) := fun u k => ⟨a0.2.2.2.2.1.wk k hW0, a0.2.2.2.2.2.1.wk k hW0⟩
   clear hI hwk hz hp1 hi a0 hx hmay hcells hbW hat htk hlen htb1 htb2
   cases t using Tok.el with
   | lit y =>
    have c0 := hcur.1
    have c1 := hcur.2
    have hyI : (y : Int) < 256 := by have := AX.out.2.2.2.1.2; simp only [] at this; omega
    obtain ⟨m, hm1, hm2⟩ := AX.out.2.2.2.1.1
    have hsy := wsymbol_c (lo := lo) (W := W) T1 y m lit wr AX.out.2.2.2.2.1 AX.out.2.2.2.2.2.1 A.out.1 (by have := AX.out.2.2.2.2.2.2; omega) (ATB.out wr AX.out.1).1 hm1 hm2 (A.out.2.2.2.2.2.2.1 m (List.mem_of_getElem? hm1)) A.out.2.2.2.2.2.2.2.2.1
    clear hm1 hm2 hcur
    go_wp2_with (go_at_call 102; refine hsy.mono ?_; rintro e2 w2 ⟨rfl, hw2, hk2⟩)
    have AZ : Aside (Vk lo W w w2 ∧ ∃ v z p, Vz w2 lo W v z (bs ++ (l.take (i + 1)).flatMap (tokBits lit di)) p ∧ p < 8) := ⟨AX.out.1.trans hk2, by rw [AX.out.2.2.1]; exact hw2⟩
    go_roundg (L + 1 - (i + 1))
    case measure => have := AG.out; have := AX.out.2.1; omega
    case rel => exact ⟨i + 1, by go_num, ⟨by have := AX.out.2.1; omega, by have := AX.out.2.1; omega⟩, AZ⟩
   | cp n d =>
    have c1 := hcur.1
    have hb := AX.out.2.2.2.1.2
    simp only [] at hb
    have hnI : (n : Int) ≤ 258 := by omega
    have n0 : ((n : Int) == 0) = false := by rw [beq_eq_false_iff_ne]; omega
    have hls := lsym_c n hb.1 hb.2.1 wr
    have hlo2 := lsym_ok hb.1 hb.2.1
    have hdo := dsym_ok hb.2.2.1 hb.2.2.2
    obtain ⟨S, hS⟩ : ∃ S, lsym n = S := ⟨_, rfl⟩
    obtain ⟨X, hX⟩ : ∃ X, n - lbase S = X := ⟨_, rfl⟩
    obtain ⟨K, hK⟩ : ∃ K, lmore S = K := ⟨_, rfl⟩
    rw [hS, hX, hK] at hls
    rw [hS] at hlo2
    obtain ⟨m, hm1, hm2⟩ := AX.out.2.2.2.1.1.1
    rw [hS] at hm1
    have hsy := wsymbol_c (lo := lo) (W := W) T1 S m lit wr AX.out.2.2.2.2.1 AX.out.2.2.2.2.2.1 A.out.1 (by have := AX.out.2.2.2.2.2.2; omega) (ATB.out wr AX.out.1).1 hm1 hm2 (A.out.2.2.2.2.2.2.1 m (List.mem_of_getElem? hm1)) A.out.2.2.2.2.2.2.2.2.1
    have hSl : (cbits lit S).length ≤ 15 := by rw [cbits_n hm1]; exact A.out.2.2.2.2.2.2.1 m (List.mem_of_getElem? hm1)
    have hK6 : K ≤ 6 := by rw [← hK]; exact lmore_6 hlo2.2.1
    have AS : Aside (lsym n = S ∧ n - lbase S = X ∧ lmore S = K ∧ (cbits lit S).length ≤ 15 ∧ K ≤ 6 ∧ X ≤ 258 ∧ dsym d ≤ 29 ∧ 1 ≤ d ∧ d ≤ 200) := ⟨hS, hX, hK, hSl, hK6, by omega, hdo.1, hb.2.2.1, hb.2.2.2⟩
    clear hcur hb hlo2 hdo hS hX hK hm1 hm2 hSl hK6
    go_upto_region 7 with (first
     | (go_at_call 103; refine hls.mono ?_; rintro e2 w2 ⟨rfl, rfl⟩)
     | (go_at_call 102; refine hsy.mono ?_; rintro e3 w3 ⟨rfl, ⟨v3, z3, p3, hz3, hp3⟩, hk3⟩))
    have hnum := wnumber_c (lo := lo) (W := W) X K (by have := AS.out; omega) (by have := AS.out; omega) w3 hz3 hp3 A.out.1 (by rw [List.length_append]; have := AS.out; have := AX.out.2.2.2.2.2.2; omega)
    have A3 : Aside (Vk lo W w w3) := AX.out.1.trans hk3
    clear hls hsy hz3 hp3 hk3
    go_upto_region 8 with (go_at_call 74; refine hnum.mono ?_; rintro e4 w4 ⟨rfl, ⟨v4, z4, p4, hz4, hp4⟩, hk4⟩)
    have hk04 := A3.out.trans hk4
    have c2 := (AT.out w4 hk04).2
    have hds := dsym_c d AS.out.2.2.2.2.2.2.2.1 AS.out.2.2.2.2.2.2.2.2 w4
    obtain ⟨E, hE⟩ : ∃ E, dsym d = E := ⟨_, rfl⟩
    obtain ⟨Y, hY⟩ : ∃ Y, d - dbase E = Y := ⟨_, rfl⟩
    obtain ⟨J, hJ⟩ : ∃ J, dmore E = J := ⟨_, rfl⟩
    rw [hE, hY, hJ] at hds
    obtain ⟨m, hm1, hm2⟩ := AX.out.2.2.2.1.1.2
    rw [hE] at hm1
    have hdI : (d : Int) ≤ 200 := by have := AS.out; omega
    have hsy := wsymbol_c (lo := lo) (W := W) T2 E m di w4 hz4 hp4 A.out.1 (by rw [List.length_append, List.length_append, bitsOf_length]; have := AS.out; have := AX.out.2.2.2.2.2.2; omega) (ATB.out w4 hk04).2 hm1 hm2 (A.out.2.2.2.2.2.2.2.1 m (List.mem_of_getElem? hm1)) A.out.2.2.2.2.2.2.2.2.2.1
    have hEl : (cbits di E).length ≤ 15 := by rw [cbits_n hm1]; exact A.out.2.2.2.2.2.2.2.1 m (List.mem_of_getElem? hm1)
    have hJ14 : J ≤ 14 := by rw [← hJ]; exact dmore_14 (by rw [← hE]; exact AS.out.2.2.2.2.2.2.1)
    have A4 : Aside (Vk lo W w w4 ∧ dsym d = E ∧ d - dbase E = Y ∧ dmore E = J ∧ (cbits di E).length ≤ 15 ∧ J ≤ 14 ∧ Y ≤ 200) := ⟨hk04, hE, hY, hJ, hEl, hJ14, by have := AS.out; omega⟩
    clear hnum hz4 hp4 hk4 hk04 hE hY hJ hm1 hm2 hEl hJ14 c1 n0
    go_upto_region 10 with (first
     | (go_at_call 104; refine hds.mono ?_; rintro e5 w5 ⟨rfl, rfl⟩)
     | (go_at_call 102; refine hsy.mono ?_; rintro e6 w6 ⟨rfl, ⟨v6, z6, p6, hz6, hp6⟩, hk6⟩))
    have hnum := wnumber_c (lo := lo) (W := W) Y J (by have := A4.out; omega) (by have := A4.out; omega) w6 hz6 hp6 A.out.1 (by rw [List.length_append, List.length_append, List.length_append, bitsOf_length]; have := AS.out; have := A4.out; have := AX.out.2.2.2.2.2.2; omega)
    have A6 : Aside (Vk lo W w w6) := A4.out.1.trans hk6
    clear hds hsy hz6 hp6 hk6
    go_wp2_with (go_at_call 74; refine hnum.mono ?_; rintro e7 w7 ⟨rfl, hw7, hk7⟩)
    have AZ : Aside (Vk lo W w w7 ∧ ∃ v z p, Vz w7 lo W v z (bs ++ (l.take (i + 1)).flatMap (tokBits lit di)) p ∧ p < 8) := by
     refine ⟨A6.out.trans hk7, ?_⟩
     rw [AX.out.2.2.1]
     have hs := AS.out
     have h4 := A4.out
     have ht : tokBits lit di (.cp n d) = cbits lit S ++ (bitsOf K X ++ (cbits di E ++ bitsOf J Y)) := by
      rw [← h4.2.2.1, ← h4.2.2.2.1, ← h4.2.1, ← hs.2.1, ← hs.2.2.1, ← hs.1]
      rfl
     rw [ht]
     simpa only [List.append_assoc] using hw7
    go_roundg (L + 1 - (i + 1))
    case measure => have := AG.out; have := AX.out.2.1; omega
    case rel => exact ⟨i + 1, by go_num, ⟨by have := AX.out.2.1; omega, by have := AX.out.2.1; omega⟩, AZ⟩
  ·have hin : i = L := by have := AG.out; omega
   have t1 : ((i : Int) < (L : Int)) = False := eq_false (by omega)
   have t1' : (i < L) = False := eq_false hi
   obtain ⟨m, hm1, hm2⟩ := a0.2.2.2.2.2.2.2.2.2.2.2.1
   rw [hin, ← a0.2.2.1, List.take_length] at hz
   have hsy := wsymbol_c (lo := lo) (W := W) T1 256 m lit wr hz hp1 a0.1 (by have h := AN.out L; rw [← a0.2.2.1, List.take_length] at h; omega) htb1 hm1 hm2 (a0.2.2.2.2.2.2.1 m (List.mem_of_getElem? hm1)) a0.2.2.2.2.2.2.2.2.1
   have hsy2 : Calls Tryz.prog 102 #[.pointer (some ⟨W, 0, none⟩), .pointer (some ⟨T1, 0, none⟩), .int .i64 256] wr fun e w' => e = .returned (.tuple #[]) ∧ (∃ v' z' p', Vz w' lo W v' z' ((bs ++ l.flatMap (tokBits lit di)) ++ cbits lit 256) p' ∧ p' < 8) ∧ Vk lo W wr w' := hsy
   have AZ : Aside (Vk lo W w wr) := hwk
   clear hI hi hin hwk hz hp1 a0 htb1 htb2 hm1 hm2 hsy
   go_wp2_with (go_at_call 102; refine hsy2.mono ?_; rintro e2 w2 ⟨rfl, hw2, hk2⟩)
   go_end0
   refine ⟨rfl, ?_, AZ.out.trans hk2⟩
   rw [List.append_assoc] at hw2
   exact hw2
end
end Go.Proofs.YtpihipbeagpgpaaGreatDoor

/-
 What the document's run comes to: how many bytes are those so far back.
-/
namespace Go.Proofs.YtpihipbeagpgpaaGreatDoor
open Go.RowKit
set_option linter.unusedVariables false
def Back (l : List Nat) (i d n : Nat) : Prop := i + n ≤ l.length ∧ ∀ k, k < n → l[i + k]? = l[i + k - d]?
set_option maxRecDepth 100000 in
set_option maxHeartbeats 4000000 in
theorem run_c (a : Option Addr) (l : List Nat) (L c i d m : Nat) (w : World) (hl : Lies w a l) (hL : l.length = L) (hLb : L ≤ 10000) (hi : i ≤ L) (hd : 1 ≤ d) (hdi : d ≤ i) (hm : m ≤ 258) :
  Calls Tryz.prog 105 #[.slice a L c, .int .i64 (i : Int), .int .i64 (d : Int), .int .i64 (m : Int)] w fun e w' => ∃ n : Nat, e = .returned (.int .i64 (n : Int)) ∧ n ≤ m ∧ Back l i d n ∧ Drawn w w' := by
 have A0 : Aside (Lies w a l ∧ l.length = L ∧ L ≤ 10000 ∧ i ≤ L ∧ 1 ≤ d ∧ d ≤ i ∧ m ≤ 258) := ⟨hl, hL, hLb, hi, hd, hdi, hm⟩
 have hib : (i : Int) ≤ 10000 := by omega
 have hLb' : (L : Int) ≤ 10000 := by omega
 have hdib : (d : Int) ≤ (i : Int) := by omega
 have hmb : (m : Int) ≤ 258 := by omega
 clear hl hL hLb hi hd hdi hm
 go_enter Tryz.func105, Tryz.ntmps105
 go_wp2_with fail
 go_loopg [9] m (fun g si wr => ∃ n : Nat, si = .int .i64 (n : Int) ∧ Aside (n + g = m ∧ Back l i d n ∧ Drawn w wr))
 case atStart => exact ⟨0, rfl, by omega, ⟨by have := A0.out; omega, fun k hk => by omega⟩, ⟨0, rfl⟩⟩
 case round =>
  obtain ⟨n, rfl, hI⟩ := hrel
  by_cases hnm : n < m
  ·have t1 : (n : Int) < (m : Int) := by omega
   by_cases hin : i + n < L
   ·have t2 : (i : Int) + (n : Int) < (L : Int) := by omega
    obtain ⟨b, o, rfl, hcl⟩ : ∃ b o, a = some ⟨b, o, none⟩ ∧ ∀ (j x : Nat), l[j]? = some x → wr.cell? ⟨b, o + j, none⟩ = some (.int .u8 (x : Int)) := by
     have hw := hI.out.2.2
     obtain ⟨r, rfl⟩ := hw
     rcases A0.out.1 with e | ⟨b, o, e, h⟩
     ·have := A0.out.2.1; rw [e] at this; simp at this; omega
     ·exact ⟨b, o, e, fun j x hx => h j x hx⟩
    have hlen := A0.out.2.1
    obtain ⟨x, hx⟩ : ∃ x, l[i + n]? = some x := ⟨_, List.getElem?_eq_getElem (by omega)⟩
    obtain ⟨y, hy⟩ : ∃ y, l[i + n - d]? = some y := ⟨_, List.getElem?_eq_getElem (by omega)⟩
    have c1 := hcl _ _ hx
    have c2 := hcl _ _ hy
    obtain ⟨p, hp⟩ : ∃ p, i + n = p := ⟨_, rfl⟩
    obtain ⟨q, hq⟩ : ∃ q, i + n - d = q := ⟨_, rfl⟩
    have hpI : (i : Int) + (n : Int) = (p : Int) := by omega
    have hqI : (p : Int) - (d : Int) = (q : Int) := by have := A0.out; omega
    rw [hp] at c1
    rw [hq] at c2
    have hpL : (p : Int) < (L : Int) := by omega
    have hqL : (q : Int) < (L : Int) := by have := A0.out; omega
    have AI : Aside (n + gk = m ∧ Back l i d n ∧ Drawn w wr ∧ n < m ∧ i + n < L ∧ l[i + n]? = some x ∧ l[i + n - d]? = some y ∧ l.length = L) := ⟨hI.out.1, hI.out.2.1, hI.out.2.2, hnm, hin, hx, hy, hlen⟩
    clear hI hnm hin hcl hlen hx hy hp hq t2
    by_cases hxy : x = y
    ·have t3 : ((x : Int) == (y : Int)) = true := beq_iff_eq.2 (by omega)
     have A2 : Aside (Back l i d (n + 1)) := by
      have q := AI.out
      refine ⟨by omega, fun k hk => ?_⟩
      by_cases e : k = n
      ·rw [e, q.2.2.2.2.2.1, q.2.2.2.2.2.2.1, hxy]
      ·exact q.2.1.2 k (by omega)
     clear hxy
     go_wp2_with fail
     go_quiet (fail)
     go_wp2_with fail
     go_roundg (gk - 1)
     case measure => have := AI.out; omega
     case rel => exact ⟨n + 1, by go_num, by have := AI.out; omega, A2.out, by obtain ⟨r, hr⟩ := AI.out.2.2.1; rw [hr]; exact ⟨_, World.drewN_drewN _ _ _⟩⟩
    ·have t3 : ((x : Int) == (y : Int)) = false := beq_eq_false_iff_ne.2 (by omega)
     clear hxy
     go_wp2_with fail
     go_quiet (fail)
     go_wp2_with fail
     go_ret
     exact ⟨n, rfl, by have := AI.out; omega, AI.out.2.1, by obtain ⟨r, hr⟩ := AI.out.2.2.1; rw [hr]; exact ⟨_, World.drewN_drewN _ _ _⟩⟩
   ·have t2 : decide ((i : Int) + (n : Int) < (L : Int)) = false := decide_eq_false (by omega)
    have AI : Aside (n ≤ m ∧ Back l i d n ∧ Drawn w wr) := ⟨by omega, hI.out.2.1, hI.out.2.2⟩
    clear hI hnm hin
    go_wp2_with fail
    go_quiet (fail)
    go_wp2_with fail
    go_ret
    exact ⟨n, rfl, AI.out.1, AI.out.2.1, by obtain ⟨r, hr⟩ := AI.out.2.2; rw [hr]; exact ⟨_, World.drewN_drewN _ _ _⟩⟩
  ·have t1 : decide (n < m) = false := decide_eq_false (by omega)
   have AI : Aside (n ≤ m ∧ Back l i d n ∧ Drawn w wr) := ⟨by have := hI.out; omega, hI.out.2.1, hI.out.2.2⟩
   clear hI hnm
   go_wp2_with fail
   go_quiet (fail)
   go_wp2_with fail
   go_ret
   exact ⟨n, rfl, AI.out.1, AI.out.2.1, by obtain ⟨r, hr⟩ := AI.out.2.2; rw [hr]; exact ⟨_, World.drewN_drewN _ _ _⟩⟩
end Go.Proofs.YtpihipbeagpgpaaGreatDoor

/-
 Lists of a call's own of structs of three cells: append, and what is kept by it.
-/
namespace Go.Proofs.YtpihipbeagpgpaaGreatDoor
open Go.RowKit
set_option linter.unusedVariables false
abbrev V3 := Value × Value × Value
def fl3 (xs : List V3) : List Value := xs.flatMap fun x => [x.1, x.2.1, x.2.2]
theorem fl3_len : ∀ xs : List V3, (fl3 xs).length = xs.length * 3
 | [] => rfl
 | x :: xs => by
  have := fl3_len xs
  unfold fl3 at *
  rw [List.flatMap_cons, List.length_append, this]
  simp
  omega
theorem fl3_app (xs ys : List V3) : fl3 (xs ++ ys) = fl3 xs ++ fl3 ys := by simp [fl3]
theorem fl3_get : ∀ (xs : List V3) (i : Nat) (x : V3), xs[i]? = some x → (fl3 xs)[i * 3]? = some x.1 ∧ (fl3 xs)[i * 3 + 1]? = some x.2.1 ∧ (fl3 xs)[i * 3 + 2]? = some x.2.2
 | [], i, x, h => by simp at h
 | y :: xs, 0, x, h => by
  simp at h
  subst h
  exact ⟨rfl, rfl, rfl⟩
 | y :: xs, i + 1, x, h => by
  have h2 := fl3_get xs i x (by simpa using h)
  have e : fl3 (y :: xs) = y.1 :: y.2.1 :: y.2.2 :: fl3 xs := rfl
  rw [e, show (i + 1) * 3 = i * 3 + 3 by omega]
  exact h2
structure O3 (w : World) (lo : Nat) (e : TypeId) (v : Value) (xs : List V3) : Prop where
 own : w.ownsRow lo e 3 v xs.length (fl3 xs)
 le : lo ≤ w.heap.size
theorem O3.nil {w : World} {lo : Nat} {e : TypeId} (h : lo ≤ w.heap.size) : O3 w lo e (.slice none 0 0) [] := ⟨⟨rfl, Or.inl ⟨rfl, rfl⟩⟩, h⟩
theorem O3.keep {w u : World} {lo : Nat} {e : TypeId} {v : Value} {xs : List V3} (h : O3 w lo e v xs) (hs : w.heap.size ≤ u.heap.size) (k : ∀ g, lo ≤ g → g < w.heap.size → (∃ cs fr, w.heap[g]? = some (.cells cs e fr)) → u.heap[g]? = w.heap[g]?) : O3 u lo e v xs := by
 refine ⟨⟨h.own.1, ?_⟩, Nat.le_trans h.le hs⟩
 rcases h.own.2 with q | ⟨g, c, cur, hv, hg, hh, q⟩
 ·exact Or.inl q
 ·have hlt : g < w.heap.size := (Array.getElem?_eq_some_iff.1 hh).1
  exact Or.inr ⟨g, c, cur, hv, hg, (k g hg hlt ⟨_, _, hh⟩).trans hh, q⟩
theorem O3.below {w u : World} {C lo : Nat} {e : TypeId} {v : Value} {xs : List V3} (h : O3 w lo e v xs) (k : Below C w u) (hC : w.heap.size ≤ C) : O3 u lo e v xs := h.keep k.size fun g h1 h2 _ => k.block g (by omega)
theorem O3.drawn {w u : World} {lo : Nat} {e : TypeId} {v : Value} {xs : List V3} (h : O3 w lo e v xs) (k : Drawn w u) : O3 u lo e v xs := by
 obtain ⟨n, rfl⟩ := k
 exact ⟨h.own, h.le⟩
theorem O3.shape {w : World} {lo : Nat} {e : TypeId} {v : Value} {xs : List V3} (h : O3 w lo e v xs) : ∃ a c, v = .slice a xs.length c ∧ xs.length ≤ c ∧ (xs = [] ∨ ∃ g cs, a = some ⟨g, 0, none⟩ ∧ lo ≤ g ∧ Cells w g cs e ∧ ∀ i x, xs[i]? = some x → w.cell? ⟨g, i * 3, none⟩ = some x.1 ∧ w.cell? ⟨g, i * 3 + 1, none⟩ = some x.2.1 ∧ w.cell? ⟨g, i * 3 + 2, none⟩ = some x.2.2) ∧ (a = none → xs.length = 0 ∧ c = 0) := by
 rcases h.own.2 with ⟨hv, h0⟩ | ⟨g, c, cur, hv, hg, hh, hc, hm, hs, ht⟩
 ·refine ⟨none, 0, by rw [hv, h0], by omega, Or.inl (List.eq_nil_of_length_eq_zero h0), fun _ => ⟨h0, rfl⟩⟩
 ·refine ⟨_, c, hv, hc, Or.inr ⟨g, cur, rfl, hg, hh, fun i x hx => ?_⟩, fun h => by cases h⟩
  have hi : i < xs.length := (List.getElem?_eq_some_iff.1 hx).1
  obtain ⟨g1, g2, g3⟩ := fl3_get xs i x hx
  have key : ∀ j y, (fl3 xs)[j]? = some y → w.cell? ⟨g, j, none⟩ = some y := fun j y hy => by
   rw [Cells.cell (cs := cur) (t := e) hh]
   have hj : j < xs.length * 3 := by have := (List.getElem?_eq_some_iff.1 hy).1; rwa [fl3_len] at this
   have e2 : (cur.toList.take (xs.length * 3))[j]? = some y := by rw [ht, hy]
   rw [List.getElem?_take, if_pos hj] at e2
   simpa using e2
  exact ⟨key _ _ g1, key _ _ g2, key _ _ g3⟩
structure G3 (lo : Nat) (e : TypeId) (w w' : World) (v' : Value) (xs : List V3) : Prop where
 ow : O3 w' lo e v' xs
 bel : Below lo w w'
theorem wpList_o3 (w : World) {ops : Array Oper} {rest : List Oper} {o : Oper} {a : Act} {Q : Exit → Act → World → Prop} (hgd : o.guard = none) (s x : Operand) (t : TypeId)
  (ho : o.op = .call { callee := .builtin .append, args := #[s, x], argTypes := #[t, t] }) (e : TypeId) (i : TypeInfo) (z : Value) (bytes : Nat) (ht : Tryz.prog.underlying t = some (.slice e)) (hi : Tryz.prog.info? e = some i) (hz0 : i.zero = some z) (hz1 : i.size = 3) (hz2 : i.bytes = bytes) (hz3 : z.cells.size = 3)
  (lo : Nat) (v : Value) (xs : List V3) (hs : a.eval s = v) (hown : O3 w lo e v xs)
  (b c : Nat) (y : V3) (hx : a.eval x = .slice (some ⟨b, 0, none⟩) 1 c) (h0 : w.cell? ⟨b, 0, none⟩ = some y.1) (h1 : w.cell? ⟨b, 1, none⟩ = some y.2.1) (h2 : w.cell? ⟨b, 2, none⟩ = some y.2.2) (hone : y.1.oneCell' = true ∧ y.2.1.oneCell' = true ∧ y.2.2.oneCell' = true) (hlen : (xs.length + 1) * bytes ≤ 1000000000)
  (hb : 0 < bytes)
  (h : ∀ v' w', G3 lo e w w' v' (xs ++ [y]) → wpList Tryz.prog ops Q rest (a.put o.dst v') w') : wpList Tryz.prog ops Q (o :: rest) a w := by
 have hlm : xs.length + 1 ≤ 1000000000 := Nat.le_trans (Nat.le_mul_of_pos_right _ hb) hlen
 refine wpList_append_own w hgd s x t ho lo e i z 3 bytes ht hi hz0 hz1 hz2 hz3 (by decide) v _ _ hs hown.own ⟨b, 0, none⟩ 1 c (fl3 [y]) hx (by rfl) ?_ ?_ (by unfold maxLen; omega) (by omega) hown.le ?_
 ·intro j u hj
  have hadd : (⟨b, 0, none⟩ : Addr).add j = ⟨b, j, none⟩ := by unfold Addr.add; split <;> simp_all
  rw [hadd]
  match j, hj with
  | 0, hj => cases hj; exact h0
  | 1, hj => cases hj; exact h1
  | 2, hj => cases hj; exact h2
 ·intro u hu
  simp only [fl3, List.flatMap_cons, List.flatMap_nil, List.append_nil, List.mem_cons, List.not_mem_nil, or_false] at hu
  rcases hu with rfl | rfl | rfl
  ·exact hone.1
  ·exact hone.2.1
  ·exact hone.2.2
 ·intro v' w' h4 h5 h6
  have hos : v.ownBlock = none ∨ ∃ g, v.ownBlock = some g ∧ lo ≤ g := by
   rcases hown.own.2 with ⟨rfl, _⟩ | ⟨g, c, cur, rfl, hg, hh, _⟩
   ·left; rfl
   ·right; exact ⟨g, rfl, hg⟩
  have hbl : Below lo w w' := (Below.refl lo w).grown h5 hown.le (fun k hk => by
   rcases hos with h7 | ⟨g, h7, hg⟩
   ·rw [h7] at hk; cases hk
   ·rw [h7] at hk; cases hk; exact hg)
  refine h v' w' ⟨⟨?_, Nat.le_trans hown.le h5.size⟩, hbl⟩
  rw [List.length_append, fl3_app]
  exact h4
theorem info110 : (Tryz.prog.info? 164).map (fun i => (i.zero, i.size, i.bytes)) = some (some (.agg #[.int .u8 0, .int .i64 0, .int .i64 0]), 3, 24) := by kernel_rfl
end Go.Proofs.YtpihipbeagpgpaaGreatDoor

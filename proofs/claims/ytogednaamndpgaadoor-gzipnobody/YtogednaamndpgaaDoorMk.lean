/-
  Own texts of this seat, one behind the other: what each says stands ahead of it.
-/
import Derived.Test.YtogednaamndpgaaDoorMj
import Derived.OwnWalk
import Derived.Laws.AppendOwn
import Derived.Laws.AppendOwnNone
import Derived.Test.YtogednaamndpgaaDoorMc
import Derived.Test.YtogednaamndpgaaDoorMa
import Derived.Test.YtogednaamndpgaaDoorChecked
import Derived.Laws.IdiomStrings
import Derived.Deep.LoopGhost
import Derived.BigQuiet
import Derived.Deep.AppendLies
import Derived.Lib.SliceRun
import Derived.Deep.RegionHeld3
/-
  The inflater between its calls: what it was handed, where it stands, in which of four ways; and what its calls come to.
-/
namespace Go.Proofs.YtogednaamndpgaaDoor
open Go.RowKit
set_option linter.unusedVariables false
/-- What is old stays, but for rows of bytes beyond the inflater's blocks; memory may have come. -/
structure Kp (B : Nat) (w u : World) : Prop where
  size : w.heap.size ≤ u.heap.size
  block : ∀ k, k < w.heap.size → u.heap[k]? = w.heap[k]? ∨ (B + 4 ≤ k ∧ ∃ cs fr, w.heap[k]? = some (.cells cs 5 fr))
theorem Kp.of_below {B C : Nat} {w u : World} (h : Below C w u) (hC : w.heap.size ≤ C) : Kp B w u := ⟨h.size, fun k hk => Or.inl (h.block k (by omega))⟩
theorem Kp.drawn {B : Nat} {w u : World} (h : Drawn w u) : Kp B w u := by
  obtain ⟨n, rfl⟩ := h
  exact ⟨Nat.le_refl _, fun k hk => Or.inl rfl⟩
theorem Tbl.kp {w u : World} {B : Nat} {v : Value} {ls : List Nat} (h : Tbl w B v ls) (k : Kp B w u) : Tbl u B v ls := by
  obtain ⟨lo, hi, T, h1, h2, h3, ⟨g, M, n, q, a1, a2, a3, a4, a5, a6, a7⟩, h5⟩ := h
  have e1 : u.heap[T]? = w.heap[T]? := by
    rcases k.block T (by omega) with e | ⟨_, cs, fr, e⟩
    · exact e
    · have := q.t; unfold Cells at this; rw [this] at e; cases e
  have e2 : u.heap[g]? = w.heap[g]? := by
    rcases k.block g (by omega) with e | ⟨_, cs, fr, e⟩
    · exact e
    · obtain ⟨cs', hc, _⟩ := q.c; unfold Cells at hc; rw [hc] at e; cases e
  have e3 : u.heap[M]? = w.heap[M]? := by
    rcases k.block M (by omega) with e | ⟨_, cs, fr, e⟩
    · exact e
    · obtain ⟨G, ⟨D, ⟨es, cl, hb, _⟩, _⟩, _⟩ := q.m; rw [hb] at e; cases e
  exact ⟨lo, hi, T, h1, h2, Nat.le_trans h3 k.size, ⟨g, M, n, q.heap e1 e2 e3, a1, a2, a3, a4, a5, a6, a7⟩, h5⟩
section
variable {w u : World} {B D b R : Nat} {f : Nat → Value} {bs : List Bool} {most : Nat}
theorem Bs.kp {h : List Bool} {l : List Int} (s : Bs w B D b R f h l) (k : Kp B w u) : Bs u B D b R f h l := by
  have := s.lt
  refine s.keep fun i h1 h2 => ?_
  rcases k.block i (by omega) with e | ⟨h3, _⟩
  · exact e
  · omega
theorem Fx.kp (h : Fx w B f) (k : Kp B w u) : Fx u B f := by
  rcases h with h | ⟨h, h'⟩
  · exact Or.inl h
  · exact Or.inr ⟨h.kp k, h'.kp k⟩
theorem Kp.below (k : Kp B w u) (hos : u.os = w.os) (ht : u.tape = w.tape) (ho : u.output = w.output) (hB : B ≤ w.heap.size) : Below B w u := ⟨hos, ht, ho, k.size, fun i hi => by
  rcases k.block i (by omega) with e | ⟨h3, _⟩
  · exact e
  · omega⟩
theorem Tabs.kp (h : Tabs w) (k : Kp B w u) (hB : 8 ≤ B) (hs : B ≤ w.heap.size) : Tabs u := by
  have hc : ∀ p : Addr, p.block < 8 → u.cell? p = w.cell? p := fun p hp => World.cell?_of_block (w := w) (by
    rcases k.block p.block (by omega) with e | ⟨h3, _⟩
    · exact e
    · omega)
  exact ⟨fun i hi => (hc ⟨1, i, none⟩ (show 1 < 8 by decide)).trans (h.t0 i hi), fun i hi => (hc ⟨2, i, none⟩ (show 2 < 8 by decide)).trans (h.t1 i hi), fun i hi => (hc ⟨3, i, none⟩ (show 3 < 8 by decide)).trans (h.t2 i hi), fun i hi => (hc ⟨4, i, none⟩ (show 4 < 8 by decide)).trans (h.t3 i hi), fun i hi => (hc ⟨5, i, none⟩ (show 5 < 8 by decide)).trans (h.t4 i hi), fun i hi => (hc ⟨6, i, none⟩ (show 6 < 8 by decide)).trans (h.t5 i hi), fun i hi => (hc ⟨7, i, none⟩ (show 7 < 8 by decide)).trans (h.t6 i hi)⟩
theorem Pl.kp {a c : Nat} {code l : List Nat} (h : Pl w B f a c code l) (k : Kp B w u) : Pl u B f a c code l := ⟨h.a1, h.a2, h.b1, h.b2, h.c8, h.c9, h.have_, h.len, h.row, h.tbl.kp k, h.code⟩
theorem At.kp {n : Nat} {st : St} (h : At w B D f n st) (k : Kp B w u) : At u B D f n st := by
  cases st using St.el with
  | head last => cases last <;> exact h
  | dsym last a b code l => exact ⟨h.1, h.2.1, h.2.2.kp k⟩
  | drep last a b code l s => exact ⟨h.1, h.2.1, h.2.2.1.kp k, h.2.2.2⟩
  | sym last lit di => exact ⟨h.1, h.2.1, h.2.2.1.kp k, h.2.2.2.kp k⟩
  | lext last lit di s => exact ⟨h.1, h.2.1, h.2.2.1.kp k, h.2.2.2.1.kp k, h.2.2.2.2⟩
  | dist last lit di m => exact ⟨h.1, h.2.1, h.2.2.1.kp k, h.2.2.2.1.kp k, h.2.2.2.2⟩
  | dext last lit di m x => exact ⟨h.1, h.2.1, h.2.2.1.kp k, h.2.2.2.1.kp k, h.2.2.2.2⟩
  | copy last lit di m d => exact ⟨h.1, h.2.1, h.2.2.1.kp k, h.2.2.2.1.kp k, h.2.2.2.2⟩
  | _ => exact h
theorem Is.kp {c : Cfg} (h : Is w B D b R f bs c) (k : Kp B w u) : Is u B D b R f bs c :=
  ⟨h.mem.kp k, h.at_.kp k, h.fx.kp k, h.tabs.kp k h.b7 (by have := h.mem.lt; omega), h.le, h.b7⟩
theorem Ov.kp {c : Cfg} (h : Ov w B D b R f c) (k : Kp B w u) : Ov u B D b R f c := by
  obtain ⟨hh, l, s⟩ := h.mem
  exact ⟨⟨hh, l, s.kp k⟩, h.waits, h.how, h.fx.kp k, h.tabs.kp k h.b7 (by have := s.lt; omega), h.b7⟩
end
/-- Where it begins. -/
def c0 : Cfg := ⟨.head false, 0, [], []⟩
/-- A byte waits; more is wanted; it is over; it was shut. -/
abbrev Md := Nat ⊕ Option Bool
abbrev Md.wait (x : Nat) : Md := .inl x
abbrev Md.want : Md := .inr none
abbrev Md.over : Md := .inr (some false)
abbrev Md.shut : Md := .inr (some true)
theorem Md.el {motive : Md → Prop} (q : Md) (wait : ∀ x, motive (.wait x)) (want : motive .want) (over : motive .over) (shut : motive .shut) : motive q :=
  match q with
  | .inl x => wait x
  | .inr none => want
  | .inr (some false) => over
  | .inr (some true) => shut
/-- The inflater, handed the bytes I, stands at c. -/
def Inf (w : World) (B D b R : Nat) (I : List Nat) (M : Nat) (c : Cfg) (q : Md) : Prop := Runs (allb I) M c0 c ∧ match q with
  | .inl x => ∃ f, Is w B D b R f (allb I) c ∧ f 352 = .bool true ∧ f 353 = .bool false ∧ f 354 = .int .i64 0 ∧ f 351 = .int .u8 (x : Int) ∧ ∃ p, c.out = p ++ [x]
  | .inr none => ∃ f, Wt w B D b R f (allb I) M c
  | .inr (some false) => ∃ f, Ov w B D b R f c
  | .inr (some true) => ∃ f h l, Bs w B D b R f h l ∧ f 352 = .bool false ∧ f 353 = .bool false ∧ f 354 = .int .i64 1 ∧ Fx w B f ∧ Tabs w ∧ 8 ≤ B
section
variable {w u : World} {B D b R : Nat} {I : List Nat} {M : Nat} {c : Cfg} {q : Md}
theorem Inf.kp (h : Inf w B D b R I M c q) (k : Kp B w u) : Inf u B D b R I M c q := by
  refine ⟨h.1, ?_⟩
  have h2 := h.2
  cases q using Md.el with
  | wait x =>
    obtain ⟨f, h3, h4⟩ := h2
    exact ⟨f, h3.kp k, h4⟩
  | want =>
    obtain ⟨f, h3⟩ := h2
    exact ⟨f, h3.is_.kp k, h3.op, h3.few, h3.z⟩
  | over =>
    obtain ⟨f, h3⟩ := h2
    exact ⟨f, h3.kp k⟩
  | shut =>
    obtain ⟨f, h, l, h3, h4, h5, h6, h7, h8, h9⟩ := h2
    exact ⟨f, h, l, h3.kp k, h4, h5, h6, h7.kp k, h8.kp k h9 (by have := h3.lt; omega), h9⟩
theorem Inf.mem (h : Inf w B D b R I M c q) : ∃ f hh l, Bs w B D b R f hh l ∧ Fx w B f ∧ Tabs w ∧ 8 ≤ B := by
  have h2 := h.2
  cases q using Md.el with
  | wait x => obtain ⟨f, h3, _⟩ := h2; exact ⟨f, _, _, h3.mem, h3.fx, h3.tabs, h3.b7⟩
  | want => obtain ⟨f, h3⟩ := h2; exact ⟨f, _, _, h3.is_.mem, h3.is_.fx, h3.is_.tabs, h3.is_.b7⟩
  | over => obtain ⟨f, h3⟩ := h2; obtain ⟨hh, l, s⟩ := h3.mem; exact ⟨f, hh, l, s, h3.fx, h3.tabs, h3.b7⟩
  | shut => obtain ⟨f, hh, l, h3, _, _, _, h4, h5, h6⟩ := h2; exact ⟨f, hh, l, h3, h4, h5, h6⟩
theorem Inf.lt (h : Inf w B D b R I M c q) : B + 4 ≤ w.heap.size := by obtain ⟨f, hh, l, s, _⟩ := h.mem; exact s.lt
theorem allb_len8 (I : List Nat) : (allb I).length % 8 = 0 := by rw [allb_len]; omega
/-- What a run of steps comes to, told of the inflater. -/
theorem RunTo.inf (h : RunTo B D b R (allb I) M c w) (hr : Runs (allb I) M c0 c) : ∃ c', Runs (allb I) M c c' ∧ ((∃ x, Inf w B D b R I M c' (.wait x) ∧ c'.out = c.out ++ [x]) ∨ (Inf w B D b R I M c' .over ∧ c'.out = c.out) ∨ (Inf w B D b R I M c' .want ∧ c'.out = c.out)) := by
  obtain ⟨f, c', h1, h2⟩ := h
  refine ⟨c', h1, ?_⟩
  rcases h2 with h2 | ⟨h2, h3⟩ | ⟨h2, h3⟩
  · obtain ⟨x, hx, ho⟩ := h2.out
    exact Or.inl ⟨x, ⟨hr.trans h1, f, h2.is_, h2.waits, h2.done, h2.why, hx, _, ho⟩, ho⟩
  · exact Or.inr (Or.inl ⟨⟨hr.trans h1, f, h2⟩, h3⟩)
  · exact Or.inr (Or.inr ⟨⟨hr.trans h1, f, h2⟩, h3⟩)
end
section
variable {w : World} {B D b R : Nat} {f : Nat → Value} {h : List Bool} {l : List Int}
theorem open_yes (w : World) (s : Bs w B D b R f h l) (hO : Op f) : Calls Tryd.prog 88 #[.pointer (some ⟨D, 0, none⟩)] w fun e w' => e = .returned (.bool true) ∧ w = w' := by
  have c1 := (s.cell (show 352 < 355 by decide)).trans (congrArg some hO.waits)
  have c2 := (s.cell (show 353 < 355 by decide)).trans (congrArg some hO.done)
  have c3 := (s.cell (show 354 < 355 by decide)).trans (congrArg some hO.why)
  clear s hO
  go_enter Tryd.func88, Tryd.ntmps88
  go_wp2_with fail
  first | go_ret | go_ret2
  exact ⟨rfl, rfl⟩
theorem open_wait (w : World) (s : Bs w B D b R f h l) (h1 : f 352 = .bool true) : Calls Tryd.prog 88 #[.pointer (some ⟨D, 0, none⟩)] w fun e w' => e = .returned (.bool false) ∧ w = w' := by
  have c1 := (s.cell (show 352 < 355 by decide)).trans (congrArg some h1)
  clear s h1
  go_enter Tryd.func88, Tryd.ntmps88
  go_wp2_with fail
  first | go_ret | go_ret2
  exact ⟨rfl, rfl⟩
theorem open_done (w : World) (s : Bs w B D b R f h l) (h1 : f 352 = .bool false) (h2 : f 353 = .bool true) : Calls Tryd.prog 88 #[.pointer (some ⟨D, 0, none⟩)] w fun e w' => e = .returned (.bool false) ∧ w = w' := by
  have c1 := (s.cell (show 352 < 355 by decide)).trans (congrArg some h1)
  have c2 := (s.cell (show 353 < 355 by decide)).trans (congrArg some h2)
  clear s h1 h2
  go_enter Tryd.func88, Tryd.ntmps88
  go_wp2_with fail
  first | go_ret | go_ret2
  exact ⟨rfl, rfl⟩
theorem open_why (y : Nat) (w : World) (s : Bs w B D b R f h l) (h1 : f 352 = .bool false) (h2 : f 353 = .bool false) (h3 : f 354 = .int .i64 (y : Int)) (hy : y ≠ 0) : Calls Tryd.prog 88 #[.pointer (some ⟨D, 0, none⟩)] w fun e w' => e = .returned (.bool false) ∧ w = w' := by
  have c1 := (s.cell (show 352 < 355 by decide)).trans (congrArg some h1)
  have c2 := (s.cell (show 353 < 355 by decide)).trans (congrArg some h2)
  have c3 := (s.cell (show 354 < 355 by decide)).trans (congrArg some h3)
  have t : ((y : Int) == 0) = false := by rw [beq_eq_false_iff_ne]; omega
  clear s h1 h2 h3 hy
  go_enter Tryd.func88, Tryd.ntmps88
  go_wp2_with fail
  first | go_ret | go_ret2
  exact ⟨rfl, rfl⟩
end
section
variable {B D b R : Nat} {I : List Nat} {M : Nat} {c : Cfg} {q : Md}
/-- open tells whether more is wanted. -/
theorem popen_c (w : World) (h : Inf w B D b R I M c q) (t : Bool) (ht : (t = true ∧ q = .want) ∨ (t = false ∧ q ≠ .want)) : Calls Tryd.prog 88 #[.pointer (some ⟨D, 0, none⟩)] w fun e w' => e = .returned (.bool t) ∧ w = w' := by
  have h2 := h.2
  rcases ht with ⟨rfl, rfl⟩ | ⟨rfl, hq⟩
  · obtain ⟨f, h3⟩ := h2
    exact open_yes w h3.is_.mem h3.op
  · cases q using Md.el with
    | wait x => obtain ⟨f, h3, h4, _⟩ := h2; exact open_wait w h3.mem h4
    | want => exact absurd rfl hq
    | over =>
      obtain ⟨f, h3⟩ := h2
      obtain ⟨hh, l, s⟩ := h3.mem
      rcases h3.how with ⟨_, h4, _⟩ | ⟨y, _, h4, h5, h6⟩
      · exact open_done w s h3.waits h4
      · exact open_why y w s h3.waits h4 h5 h6
    | shut => obtain ⟨f, hh, l, s, h3, h4, h5, _⟩ := h2; exact open_why 1 w s h3 h4 h5 (by decide)
theorem put_shut (x : Nat) (w : World) (h : Inf w B D b R I M c q) (hq : q ≠ .want) : Calls Tryd.prog 86 #[.pointer (some ⟨D, 0, none⟩), .int .u8 (x : Int)] w fun e w' => e = .returned (.bool false) ∧ w = w' := by
  have ho := popen_c w h false (Or.inr ⟨rfl, hq⟩)
  clear h
  go_enter Tryd.func86, Tryd.ntmps86
  go_wp2_with (go_at_call 88; refine ho.mono ?_; rintro e2 w2 ⟨rfl, rfl⟩)
  first | go_ret | go_ret2
  exact ⟨rfl, rfl⟩
/-- What is told of an end. -/
def doneM (q : Md) (c : Cfg) : Bool := match q with
  | .inr (some false) => endC c
  | _ => false
def whyM (q : Md) (c : Cfg) : Nat := match q with
  | .inr (some false) => whyC c
  | .inr (some true) => 1
  | _ => 0
theorem pdone_c (w : World) (h : Inf w B D b R I M c q) : Calls Tryd.prog 17 #[.pointer (some ⟨D, 0, none⟩)] w fun e w' => e = .returned (.bool (doneM q c)) ∧ w = w' := by
  obtain ⟨t, ht⟩ : ∃ t, doneM q c = t := ⟨_, rfl⟩
  have c3 : w.cell? ⟨D, 353, none⟩ = some (.bool t) := by
    have h2 := h.2
    cases q using Md.el with
    | wait x => obtain ⟨f, h3, _, h4, _⟩ := h2; rw [h3.mem.cell (show 353 < 355 by decide), h4, ← ht]; rfl
    | want => obtain ⟨f, h3⟩ := h2; rw [h3.is_.mem.cell (show 353 < 355 by decide), h3.op.done, ← ht]; rfl
    | over =>
      obtain ⟨f, h3⟩ := h2
      obtain ⟨hh, l, s⟩ := h3.mem
      rw [s.cell (show 353 < 355 by decide), ← ht]
      rcases h3.how with ⟨e, h4, _⟩ | ⟨y, e, h4, h5, h6⟩
      · rw [h4]; unfold doneM endC; rw [e]
      · rw [h4]; unfold doneM endC; rw [e]
    | shut => obtain ⟨f, hh, l, s, _, h4, _⟩ := h2; rw [s.cell (show 353 < 355 by decide), h4, ← ht]; rfl
  rw [ht]
  clear h ht
  go_enter Tryd.func17, Tryd.ntmps17
  go_wp2_with fail
  first | go_ret | go_ret2
  exact ⟨rfl, rfl⟩
theorem reason_c (w : World) (h : Inf w B D b R I M c q) : Calls Tryd.prog 20 #[.pointer (some ⟨D, 0, none⟩)] w fun e w' => e = .returned (.int .i64 (whyM q c : Nat)) ∧ w = w' := by
  obtain ⟨t, ht⟩ : ∃ t, whyM q c = t := ⟨_, rfl⟩
  have c3 : w.cell? ⟨D, 354, none⟩ = some (.int .i64 (t : Int)) := by
    have h2 := h.2
    cases q using Md.el with
    | wait x => obtain ⟨f, h3, _, _, h4, _⟩ := h2; rw [h3.mem.cell (show 354 < 355 by decide), h4, ← ht]; rfl
    | want => obtain ⟨f, h3⟩ := h2; rw [h3.is_.mem.cell (show 354 < 355 by decide), h3.op.why, ← ht]; rfl
    | over =>
      obtain ⟨f, h3⟩ := h2
      obtain ⟨hh, l, s⟩ := h3.mem
      rw [s.cell (show 354 < 355 by decide), ← ht]
      rcases h3.how with ⟨e, h4, h5⟩ | ⟨y, e, h4, h5, h6⟩
      · rw [h5]; unfold whyM whyC; rw [e]; rfl
      · rw [h5]; unfold whyM whyC; rw [e]
    | shut => obtain ⟨f, hh, l, s, _, _, h4, _⟩ := h2; rw [s.cell (show 354 < 355 by decide), h4, ← ht]; rfl
  rw [ht]
  clear h ht
  go_enter Tryd.func20, Tryd.ntmps20
  go_wp2_with fail
  first | go_ret | go_ret2
  exact ⟨rfl, rfl⟩
end
end Go.Proofs.YtogednaamndpgaaDoor

/-
  What Put, Next and New of the inflater come to.
-/
namespace Go.Proofs.YtogednaamndpgaaDoor
open Go.RowKit
set_option linter.unusedVariables false
theorem allb_one (x : Nat) : allb [x] = bitsOf 8 x := by simp [allb]
section
variable {B D b R : Nat} {I : List Nat} {M : Nat} {c : Cfg}
/-- What a call that goes on comes to. -/
def Goes (B D b R : Nat) (I : List Nat) (M : Nat) (c : Cfg) (w' : World) : Prop := ∃ c', Runs (allb I) M c c' ∧ ((∃ x, Inf w' B D b R I M c' (.wait x) ∧ c'.out = c.out ++ [x]) ∨ (Inf w' B D b R I M c' .over ∧ c'.out = c.out) ∨ (Inf w' B D b R I M c' .want ∧ c'.out = c.out))
set_option maxHeartbeats 1000000 in
theorem put_open (x : Nat) (hx : x < 256) (w : World) (h : Inf w B D b R I M c .want) (hm : c.out.length < M) : Calls Tryd.prog 86 #[.pointer (some ⟨D, 0, none⟩), .int .u8 (x : Int)] w fun e w' => e = .returned (.bool true) ∧ Fm B w w' ∧ Goes B D b R (I ++ [x]) M c w' := by
  have ho := popen_c w h true (Or.inl ⟨rfl, rfl⟩)
  obtain ⟨hr, f, h3⟩ := id h
  have hmem := h3.is_.mem
  have hle := h3.is_.le
  have hfew := h3.few
  have hlen : ((allb I).drop (ep c)).length ≤ 56 := by rw [List.length_drop]; omega
  have hput := put_yes b (nm ((allb I).drop (ep c))) ((allb I).drop (ep c)).length x w hmem.br hlen hx
  have hbits : nm ((allb I).drop (ep c)) + x * 2 ^ ((allb I).drop (ep c)).length = nm ((allb (I ++ [x])).drop (ep c)) ∧ ((allb I).drop (ep c)).length + 8 = ((allb (I ++ [x])).drop (ep c)).length := by
    rw [allb_append, List.drop_append_of_le_length hle, allb_one, nm_append, nm_byte x hx, List.length_append, bitsOf_length]
    exact ⟨rfl, rfl⟩
  rw [hbits.1, hbits.2] at hput
  have c0' := (hmem.cell (show 0 < 355 by decide)).trans (congrArg some hmem.c0)
  have hr2 : Runs (allb (I ++ [x])) M c0 c := runs_agree hr (by rw [allb_append]; exact Agree.append _ _ (runs_ends hr (Nat.zero_le _)))
  have hbd : Bd c.st := hr.bd trivial
  have A : Aside (Wt w B D b R f (allb I) M c ∧ Runs (allb (I ++ [x])) M c0 c ∧ Bd c.st ∧ c.out.length < M) := ⟨h3, hr2, hbd, hm⟩
  clear h hr h3 hmem hle hfew hlen hbits hr2 hbd hm
  go_enter Tryd.func86, Tryd.ntmps86
  go_upto_region 4 with (first
    | (go_at_call 88; refine ho.mono ?_; rintro e2 w2 ⟨rfl, rfl⟩)
    | (go_at_call 89; refine hput.mono ?_; rintro e3 w3 ⟨rfl, hb3, ho3⟩))
  have a := A.out
  have hf3 : Fm B w w3 := Fm.of_only ho3 (by have := a.1.is_.mem.eb; omega) (by have := a.1.is_.mem.eb; omega)
  have is3 : Is w3 B D b R f (allb (I ++ [x])) c := ⟨a.1.is_.mem.onb ho3 hb3, a.1.is_.at_.mono hf3 (fun _ _ _ _ _ => rfl), a.1.is_.fx.fm hf3 rfl rfl, a.1.is_.tabs.below (hf3.below (by have := a.1.is_.mem.lt; omega)) a.1.is_.b7, by have := a.1.is_.le; rw [allb_append, List.length_append]; omega, a.1.is_.b7⟩
  have hrun := prun_c (most := M) w3 is3 a.1.op a.2.2.2 (allb_len8 _) a.2.2.1
  have A3 : Aside (Fm B w w3) := hf3
  clear a hf3 is3 hb3 ho3 hput ho c0'
  go_wp2_with (go_at_call 24; refine hrun.mono ?_; rintro e4 w4 ⟨rfl, hf4, hto⟩)
  first | go_ret | go_ret2
  exact ⟨rfl, A3.out.trans hf4, hto.inf A.out.2.1⟩
theorem next_no {q : Md} (w : World) (h : Inf w B D b R I M c q) (hq : ∀ x, q ≠ .wait x) : Calls Tryd.prog 15 #[.pointer (some ⟨D, 0, none⟩)] w fun e w' => e = .returned (.tuple #[.int .u8 0, .bool false]) ∧ w = w' := by
  have c1 : w.cell? ⟨D, 352, none⟩ = some (.bool false) := by
    have h2 := h.2
    cases q using Md.el with
    | wait x => exact absurd rfl (hq x)
    | want => obtain ⟨f, h3⟩ := h2; exact (h3.is_.mem.cell (show 352 < 355 by decide)).trans (congrArg some h3.op.waits)
    | over => obtain ⟨f, h3⟩ := h2; obtain ⟨hh, l, s⟩ := h3.mem; exact (s.cell (show 352 < 355 by decide)).trans (congrArg some h3.waits)
    | shut => obtain ⟨f, hh, l, s, h4, _⟩ := h2; exact (s.cell (show 352 < 355 by decide)).trans (congrArg some h4)
  clear h hq
  go_enter Tryd.func15, Tryd.ntmps15
  go_wp2_with fail
  first | go_ret | go_ret2
  exact ⟨rfl, rfl⟩
set_option maxHeartbeats 1000000 in
theorem next_yes (x : Nat) (w : World) (h : Inf w B D b R I M c (.wait x)) (hm : c.out.length < M) : Calls Tryd.prog 15 #[.pointer (some ⟨D, 0, none⟩)] w fun e w' => e = .returned (.tuple #[.int .u8 (x : Int), .bool true]) ∧ Fm B w w' ∧ Goes B D b R I M c w' := by
  obtain ⟨hr, f, h3, h4, h5, h6, h7, _⟩ := id h
  have hmem := h3.mem
  have c1 := (hmem.cell (show 352 < 355 by decide)).trans (congrArg some h4)
  have c2 := (hmem.cell (show 351 < 355 by decide)).trans (congrArg some h7)
  have z1 := hmem.fz 352
  have z2 := hmem.fz 351
  have hs2 := (hmem.set 351 (.int .u8 0) (by decide)).set 352 (.bool false) (by decide)
  have hf2 : Fm B w ((w.setCell ⟨D, 351, none⟩ (.int .u8 0)).setCell ⟨D, 352, none⟩ (.bool false)) := hmem.fmD (((Only.refl D w).setCell 351 _).setCell 352 _)
  have is2 := h3.to hf2 hs2 (h3.at_.mono hf2 fun i _ hi _ _ => by rw [upd_ne _ _ (by omega), upd_ne _ _ (by omega)]) rfl rfl h3.le
  have hrun := prun_c (most := M) _ is2 ⟨upd_same _ _ _, (by rw [upd_ne _ _ (by decide), upd_ne _ _ (by decide)]; exact h5), (by rw [upd_ne _ _ (by decide), upd_ne _ _ (by decide)]; exact h6)⟩ hm (allb_len8 _) (hr.bd trivial)
  have A : Aside (Runs (allb I) M c0 c ∧ Fm B w ((w.setCell ⟨D, 351, none⟩ (.int .u8 0)).setCell ⟨D, 352, none⟩ (.bool false))) := ⟨hr, hf2⟩
  clear h hr h3 h4 h5 h6 h7 hmem hs2 hf2 is2 hm
  go_enter Tryd.func15, Tryd.ntmps15
  go_wp2_with (go_at_call 24; refine hrun.mono ?_; rintro e4 w4 ⟨rfl, hf4, hto⟩)
  first | go_ret | go_ret2
  exact ⟨rfl, A.out.2.trans hf4, hto.inf A.out.1⟩
/-- A new one wants bytes. -/
theorem want_new {w : World} {f : Nat → Value} (hs : Bs w B D b R f [] []) (h2 : f 2 = fnv D 33) (h1 : f 352 = .bool false) (h3 : f 353 = .bool false) (h4 : f 354 = .int .i64 0) (hx : Fx w B f) (ht : Tabs w) (h7 : 8 ≤ B) : Inf w B D b R [] M c0 .want := by
  refine ⟨Runs.refl _, f, ⟨hs, h2, hx, ht, Nat.zero_le _, h7⟩, ⟨h1, h3, h4⟩, by decide, c0, Runs.refl _, rfl, rfl, fun y => by simp [c0], by simp [c0]⟩
end
theorem zc73 (b R : Nat) : (Tryd.zeroCells55.setIfInBounds 0 (.pointer (some ⟨b, 0, none⟩))).setIfInBounds 1 (.pointer (some ⟨R, 0, none⟩)) = cz (nf b R (.pointer none) (.pointer none)) := by kernel_rfl
set_option maxRecDepth 100000 in
set_option maxHeartbeats 1000000 in
theorem new_i (M : Nat) (w : World) (ht : Tabs w) : Calls Tryd.prog 28 #[] w fun e w' => e = .returned (.pointer (some ⟨w.heap.size + 3, 0, none⟩)) ∧ Inf w' w.heap.size (w.heap.size + 3) (w.heap.size + 2) (w.heap.size + 1) [] M c0 .want ∧ Below w.heap.size w w' := by
  have hring := gnew_r 32768 w (by decide) (by decide)
  have AT : Aside (Tabs w) := ht
  clear ht
  obtain ⟨B, hB⟩ : ∃ B, w.heap.size = B := ⟨_, rfl⟩
  rw [hB] at hring ⊢
  have AB : Aside (w.heap.size = B) := hB
  clear hB
  go_enter Tryd.func28, Tryd.ntmps28
  go_upto_region 2 with (go_at_call 31; refine hring.mono ?_; rintro e2 w2 ⟨rfl, hr2, hb2, hz2⟩)
  have hbits := new_b w2
  rw [hz2] at hbits
  have A2 : Aside (GRg w2 (B + 1) B 32768 [] ∧ Below B w w2 ∧ w2.heap.size = B + 2) := ⟨hr2, hb2, hz2⟩
  clear hr2 hb2 hz2 hring
  obtain ⟨cs, hcs⟩ : ∃ cs, cs = cz (nf (B + 2) (B + 1) (.pointer none) (.pointer none)) := ⟨_, rfl⟩
  have hz := zc73 (B + 2) (B + 1)
  rw [← hcs] at hz
  go_upto_region 3 with (go_at_call 32; refine hbits.mono ?_; rintro e3 w3 ⟨rfl, hb3, hbel3, hz3⟩)
  have a2 := A2.out
  obtain ⟨w4, hw4⟩ : ∃ w4, w3.alloc (.cells (cz (nf (B + 2) (B + 1) (.pointer none) (.pointer none))) 55) = w4 := ⟨_, rfl⟩
  have hk4 : Cells w4 (B + 2 + 1) (cz (nf (B + 2) (B + 1) (.pointer none) (.pointer none))) 55 := by
    rw [← hw4]
    have := Cells.new w3 (cz (nf (B + 2) (B + 1) (.pointer none) (.pointer none))) 55
    rwa [hz3] at this
  have bel4 : Below w3.heap.size w3 w4 := by rw [← hw4]; exact (Below.refl _ w3).alloc (Nat.le_refl _) _
  have s4 : Bs w4 B (B + 2 + 1) (B + 2) (B + 1) (nf (B + 2) (B + 1) (.pointer none) (.pointer none)) [] [] :=
    ⟨hk4, rfl, rfl, hb3.below bel4 (by omega), (a2.1.below hbel3 (by omega) (by omega)).below bel4 (by omega) (by omega), rfl, rfl, rfl⟩
  have belA : Below B w w4 := (a2.2.1.trans (hbel3.mono (by omega))).trans (bel4.mono (by omega))
  rw [hw4]
  obtain ⟨Dd, hDd⟩ : ∃ Dd, B + 2 + 1 = Dd := ⟨_, rfl⟩
  rw [hDd] at s4 hk4 ⊢
  have d2 := s4.cell (show 2 < 355 by decide)
  have z2 := s4.fz 2
  have e2 : nf (B + 2) (B + 1) (.pointer none) (.pointer none) 2 = .nilFunc := rfl
  rw [e2] at d2
  have A4 : Aside (Bs w4 B Dd (B + 2) (B + 1) (nf (B + 2) (B + 1) (.pointer none) (.pointer none)) [] [] ∧ Below B w w4 ∧ B + 2 + 1 = Dd) := ⟨s4, belA, hDd⟩
  clear a2 hw4 hk4 bel4 s4 belA hDd e2 hb3 hbel3 hz3 hbits hz hcs
  go_wp2_with fail
  first | go_ret | go_ret2
  have a := A4.out
  have hB := AB.out
  have ht := AT.out
  have h7 : 8 ≤ B := by have := ht.lt; omega
  have s5 := a.1.set 2 (fnv Dd 33) (by decide)
  have o5 : Only Dd w4 (w4.setCell ⟨Dd, 2, none⟩ (fnv Dd 33)) := (Only.refl Dd w4).setCell 2 _
  have b5 : Below B w (w4.setCell ⟨Dd, 2, none⟩ (fnv Dd 33)) := a.2.1.trans (o5.below (by omega))
  refine ⟨by rw [← a.2.2]; rfl, ?_, b5⟩
  have hD : B + 3 = Dd := a.2.2
  rw [hD]
  exact want_new s5 (upd_same _ _ _) rfl rfl rfl (Or.inl ⟨rfl, rfl⟩) (ht.below b5 h7) h7
end Go.Proofs.YtogednaamndpgaaDoor

/-
  Lists of bytes of a call's own, beyond the inflater's blocks: append, and what is kept by it.
-/
namespace Go.Proofs.YtogednaamndpgaaDoor
open Go.RowKit
set_option linter.unusedVariables false
/-- Bytes as cells. -/
def ob (l : List Nat) : List Value := l.map fun x : Nat => Value.int .u8 (x : Int)
theorem ob_length (l : List Nat) : (ob l).length = l.length := by simp [ob]
theorem ob_get (l : List Nat) (j : Nat) : (ob l)[j]? = (l[j]?).map fun x : Nat => Value.int .u8 (x : Int) := by simp [ob]
theorem ob_append (l m : List Nat) : ob l ++ ob m = ob (l ++ m) := by simp [ob]
theorem ob_one {l : List Nat} : ∀ u ∈ ob l, u.oneCell' = true := by
  intro u hu
  obtain ⟨x, _, rfl⟩ := List.mem_map.1 hu
  rfl
/-- A list of bytes of the call's own, in a block from lo on. -/
structure Ob (w : World) (lo : Nat) (v : Value) (l : List Nat) : Prop where
  own : w.ownsRow lo 5 1 v l.length (ob l)
  le : lo ≤ w.heap.size
theorem Ob.nil {w : World} {lo : Nat} (h : lo ≤ w.heap.size) : Ob w lo (.slice none 0 0) [] := ⟨⟨rfl, Or.inl ⟨rfl, rfl⟩⟩, h⟩
theorem Ob.made {w : World} {lo : Nat} (h : lo ≤ w.heap.size) : Ob (w.alloc (.cells #[] 5)) lo (.slice (some ⟨w.heap.size, 0, none⟩) 0 0) [] :=
  ⟨World.ownsRow_made (base := lo) (e := 5) (size := 1) w #[] 0 h (by decide) rfl, by show _ ≤ (w.heap.push _).size; simp; omega⟩
theorem Ob.keep {w u : World} {lo : Nat} {v : Value} {l : List Nat} (h : Ob w lo v l) (hs : w.heap.size ≤ u.heap.size) (k : ∀ g, lo ≤ g → g < w.heap.size → u.heap[g]? = w.heap[g]?) : Ob u lo v l := by
  refine ⟨⟨h.own.1, ?_⟩, Nat.le_trans h.le hs⟩
  rcases h.own.2 with q | ⟨g, c, cur, hv, hg, hh, q⟩
  · exact Or.inl q
  · have hlt : g < w.heap.size := (Array.getElem?_eq_some_iff.1 hh).1
    exact Or.inr ⟨g, c, cur, hv, hg, (k g hg hlt).trans hh, q⟩
theorem Ob.fm {w u : World} {B lo : Nat} {v : Value} {l : List Nat} (h : Ob w lo v l) (k : Fm B w u) (hlo : B + 4 ≤ lo) : Ob u lo v l := h.keep k.size fun g h1 h2 => k.block g h2 (Or.inr (by omega))
theorem Ob.below {w u : World} {C lo : Nat} {v : Value} {l : List Nat} (h : Ob w lo v l) (k : Below C w u) (hC : w.heap.size ≤ C) : Ob u lo v l := h.keep k.size fun g h1 h2 => k.block g (by omega)
theorem Ob.drewN {w : World} {lo : Nat} {v : Value} {l : List Nat} (h : Ob w lo v l) (n : Nat) : Ob (w.drewN n) lo v l := ⟨h.own, h.le⟩
theorem Ob.drew {w : World} {lo : Nat} {v : Value} {l : List Nat} (h : Ob w lo v l) : Ob w.drew lo v l := ⟨h.own, h.le⟩
theorem Ob.shape {w : World} {lo : Nat} {v : Value} {l : List Nat} (h : Ob w lo v l) : ∃ a c, v = .slice a l.length c ∧ l.length ≤ c ∧ Lies w a l ∧ (a = none → l.length = 0 ∧ c = 0) := by
  rcases h.own.2 with ⟨hv, h0⟩ | ⟨g, c, cur, hv, hg, hh, hc, hm, hs, ht⟩
  · refine ⟨none, 0, by rw [hv, h0], by omega, Or.inl (List.eq_nil_of_length_eq_zero h0), fun _ => ⟨h0, rfl⟩⟩
  · refine ⟨_, c, hv, hc, Or.inr ⟨g, 0, rfl, fun i x hx => ?_⟩, fun h => by cases h⟩
    rw [Nat.zero_add, Cells.cell (cs := cur) (t := 5) hh]
    have hi : i < l.length := (List.getElem?_eq_some_iff.1 hx).1
    have e : (cur.toList.take (l.length * 1))[i]? = some (.int .u8 (x : Int)) := by rw [ht, ob_get, hx]; rfl
    rw [List.getElem?_take, if_pos (by omega)] at e
    simpa using e
theorem Ob.own_shape {w : World} {lo : Nat} {v : Value} {l : List Nat} (h : Ob w lo v l) : v.ownBlock = none ∨ ∃ g cur, v.ownBlock = some g ∧ lo ≤ g ∧ w.heap[g]? = some (.cells cur 5 (0, 0)) := by
  rcases h.own.2 with ⟨rfl, h0⟩ | ⟨g, c, cur, rfl, hg, hh, _⟩
  · left; rfl
  · right; exact ⟨g, cur, rfl, hg, hh⟩
/-- What an append comes to. -/
structure Ap (B lo : Nat) (w w' : World) (v' : Value) (l : List Nat) : Prop where
  ob_ : Ob w' lo v' l
  kp : Kp B w w'
  bel : Below lo w w'
theorem wpList_ob (B : Nat) (w : World) {ops : Array Oper} {rest : List Oper} {o : Oper} {a : Act} {Q : Exit → Act → World → Prop} (hgd : o.guard = none) (s x : Operand)
    (ho : o.op = .call { callee := .builtin .append, args := #[s, x], argTypes := #[33, 33] }) (lo : Nat) (v : Value) (l : List Nat) (hs : a.eval s = v) (hown : Ob w lo v l) (hB : B + 4 ≤ lo)
    (ax : Option Addr) (m : List Nat) (n c : Nat) (hnm : m.length = n) (hx : a.eval x = .slice ax n c) (hz : ax = none → n = 0 ∧ c = 0) (hl : Lies w ax m) (hlen : l.length + m.length ≤ 140737488355328)
    (h : ∀ v' w', Ap B lo w w' v' (l ++ m) → wpList Tryd.prog ops Q rest (a.put o.dst v') w') : wpList Tryd.prog ops Q (o :: rest) a w := by
  subst hnm
  obtain ⟨i0, hi, hz0, hz1, hz2⟩ := ginfo_parts ginfo5
  cases ax with
  | none =>
    obtain ⟨h1, h2⟩ := hz rfl
    have hm : m = [] := List.eq_nil_of_length_eq_zero h1
    subst hm
    subst h2
    refine wpList_append_own_none hgd s x 33 ho lo 5 i0 1 Tryd.underlying33 hi v _ _ hs hown.own hx (h v w ?_)
    rw [List.append_nil]
    exact ⟨hown, ⟨Nat.le_refl _, fun k _ => Or.inl rfl⟩, Below.refl _ _⟩
  | some ad =>
    refine wpList_append_own w hgd s x 33 ho lo 5 i0 (.int .u8 0) 1 1 Tryd.underlying33 hi hz0 hz1 hz2 rfl (by decide) v _ _ hs hown.own ad m.length c (ob m) hx (by rw [ob_length]; omega) ?_ ob_one (by unfold maxLen; omega) (by omega) hown.le ?_
    · intro j u hj
      rw [ob_get] at hj
      rcases hl with rfl | ⟨b, off, ha, hc⟩
      · simp at hj
      · cases ha
        cases hq : m[j]? with
        | none => simp [hq] at hj
        | some y =>
          simp [hq] at hj
          rw [← hj]
          have := hc j y hq
          have hadd : (⟨b, off, none⟩ : Addr).add j = ⟨b, off + j, none⟩ := by unfold Addr.add; split <;> simp_all
          rw [hadd]; exact this
    · intro v' w' h2 h3 h4
      have hb : Below lo w w' := (Below.refl lo w).grown h3 hown.le (fun k hk => by
        rcases hown.own_shape with h5 | ⟨g, cur, h5, hg, _⟩
        · rw [h5] at hk; cases hk
        · rw [h5] at hk; cases hk; exact hg)
      refine h v' w' ⟨⟨?_, Nat.le_trans hown.le h3.size⟩, ⟨h3.size, fun k hk => ?_⟩, hb⟩
      · rw [ob_append] at h2
        rw [List.length_append]; exact h2
      · by_cases e : some k = v.ownBlock
        · rcases hown.own_shape with h5 | ⟨g, cur, h5, hg, hh⟩
          · rw [h5] at e; cases e
          · rw [h5] at e
            cases e
            exact Or.inr ⟨by omega, cur, (0, 0), hh⟩
        · exact Or.inl (h3.block k hk e)
end Go.Proofs.YtogednaamndpgaaDoor

/-
  Lists of a call's own, of cells of any type and width; append, clear, and what is kept by them.
-/
namespace Go.Proofs.YtogednaamndpgaaDoor
open Go.RowKit
set_option linter.unusedVariables false
/-- A list of the call's own, n elements of sz cells, in a block from lo on, of cells of type e. -/
structure Ow (w : World) (lo : Nat) (e : TypeId) (sz : Nat) (v : Value) (n : Nat) (xs : List Value) : Prop where
  own : w.ownsRow lo e sz v n xs
  le : lo ≤ w.heap.size
theorem Ow.nil {w : World} {lo sz : Nat} {e : TypeId} (h : lo ≤ w.heap.size) : Ow w lo e sz (.slice none 0 0) 0 [] := ⟨⟨by simp, Or.inl ⟨rfl, rfl⟩⟩, h⟩
section
variable {w u : World} {lo sz n : Nat} {e : TypeId} {v : Value} {l : List Value}
theorem Ow.keep (h : Ow w lo e sz v n l) (hs : w.heap.size ≤ u.heap.size) (k : ∀ g, lo ≤ g → g < w.heap.size → (∃ cs fr, w.heap[g]? = some (.cells cs e fr)) → u.heap[g]? = w.heap[g]?) : Ow u lo e sz v n l := by
  refine ⟨⟨h.own.1, ?_⟩, Nat.le_trans h.le hs⟩
  rcases h.own.2 with q | ⟨g, c, cur, hv, hg, hh, q⟩
  · exact Or.inl q
  · have hlt : g < w.heap.size := (Array.getElem?_eq_some_iff.1 hh).1
    exact Or.inr ⟨g, c, cur, hv, hg, (k g hg hlt ⟨_, _, hh⟩).trans hh, q⟩
theorem Ow.below {C : Nat} (h : Ow w lo e sz v n l) (k : Below C w u) (hC : w.heap.size ≤ C) : Ow u lo e sz v n l := h.keep k.size fun g h1 h2 _ => k.block g (by omega)
theorem Ow.drewN (h : Ow w lo e sz v n l) (m : Nat) : Ow (w.drewN m) lo e sz v n l := ⟨h.own, h.le⟩
theorem Ow.drew (h : Ow w lo e sz v n l) : Ow w.drew lo e sz v n l := ⟨h.own, h.le⟩
theorem Ow.set {b i : Nat} {x : Value} {cs : Array Value} {t : TypeId} (h : Ow w lo e sz v n l) (hb : Cells w b cs t) (ht : t ≠ e) : Ow (w.setCell ⟨b, i, none⟩ x) lo e sz v n l :=
  h.keep (by simp [World.setCell]) fun g h1 h2 ⟨cs', fr, hx⟩ => Below.heap_setCell _ _ _ _ (fun hg => by
    subst hg
    unfold Cells at hb
    rw [hb] at hx
    cases hx
    exact ht rfl)
theorem Ow.lt_block (h : Ow w lo e sz v n l) {g : Nat} (hg : v.ownBlock = some g) : lo ≤ g ∧ g < w.heap.size := h.own.lt g hg
theorem Ow.shape (h : Ow w lo e sz v n l) : ∃ a c, v = .slice a n c ∧ n ≤ c ∧ (n = 0 ∨ ∃ g, a = some ⟨g, 0, none⟩ ∧ lo ≤ g ∧ (∃ cs, w.heap[g]? = some (.cells cs e (0, 0))) ∧ (∀ i x, l[i]? = some x → w.cell? ⟨g, i, none⟩ = some x) ∧ ∀ i, w.frozen? ⟨g, i, none⟩ = false) ∧ (a = none → n = 0 ∧ c = 0) := by
  rcases h.own.2 with ⟨hv, h0⟩ | ⟨g, c, cur, hv, hg, hh, hc, hm, hs, ht⟩
  · refine ⟨none, 0, by rw [hv, h0], by omega, Or.inl h0, fun _ => ⟨h0, rfl⟩⟩
  · refine ⟨_, c, hv, hc, Or.inr ⟨g, rfl, hg, ⟨_, hh⟩, fun i x hx => ?_, fun i => Cells.frozen (cs := cur) (t := e) hh i⟩, fun h => by cases h⟩
    rw [Cells.cell (cs := cur) (t := e) hh]
    have hi : i < l.length := (List.getElem?_eq_some_iff.1 hx).1
    have e : (cur.toList.take (n * sz))[i]? = some x := by rw [ht, hx]
    rw [List.getElem?_take, if_pos (by have := h.own.1; omega)] at e
    simpa using e
end
/-- What an append comes to: the longer list, and that of all blocks that were there the list's own alone may have turned. -/
structure Got (lo : Nat) (e : TypeId) (sz : Nat) (w w' : World) (v v' : Value) (n : Nat) (xs : List Value) : Prop where
  ow : Ow w' lo e sz v' n xs
  bel : Below lo w w'
  kb : ∀ k, k < w.heap.size → some k ≠ v.ownBlock → w'.heap[k]? = w.heap[k]?
  kp : ∀ k, k < w.heap.size → w'.heap[k]? = w.heap[k]? ∨ (lo ≤ k ∧ ∃ cs, w.heap[k]? = some (.cells cs e (0, 0)))
theorem Got.size {lo sz n : Nat} {e : TypeId} {w w' : World} {v v' : Value} {xs : List Value} (h : Got lo e sz w w' v v' n xs) : w.heap.size ≤ w'.heap.size := h.bel.size
theorem Cells.got {lo sz n b : Nat} {e t : TypeId} {w w' : World} {v v' : Value} {xs : List Value} {cs : Array Value} (h : Cells w b cs t) (k : Got lo e sz w w' v v' n xs) (ht : t ≠ e) : Cells w' b cs t := by
  unfold Cells at *
  have hlt : b < w.heap.size := (Array.getElem?_eq_some_iff.1 h).1
  rcases k.kp b hlt with e1 | ⟨_, cs', e1⟩
  · rw [e1]; exact h
  · rw [h] at e1; cases e1; exact absurd rfl ht
theorem Ow.got {lo lo2 sz sz2 n n2 : Nat} {e t : TypeId} {w w' : World} {v v' v2 : Value} {xs ys : List Value} (h : Ow w lo2 t sz2 v2 n2 ys) (k : Got lo e sz w w' v v' n xs) (ht : t ≠ e) : Ow w' lo2 t sz2 v2 n2 ys :=
  h.keep k.size fun g h1 h2 ⟨cs, fr, hx⟩ => by
    rcases k.kp g h2 with e1 | ⟨_, cs', e1⟩
    · exact e1
    · rw [hx] at e1; cases e1; exact absurd rfl ht
theorem Got.mk' {lo sz n m : Nat} {e : TypeId} {w w' : World} {v v' : Value} {xs news : List Value} (hown : Ow w lo e sz v n xs) (h2 : w'.ownsRow lo e sz v' (n + m) (xs ++ news)) (h3 : w.grownBy w' v.ownBlock) : Got lo e sz w w' v v' (n + m) (xs ++ news) := by
  have hos : v.ownBlock = none ∨ ∃ g cur, v.ownBlock = some g ∧ lo ≤ g ∧ w.heap[g]? = some (.cells cur e (0, 0)) := by
    rcases hown.own.2 with ⟨rfl, h0⟩ | ⟨g, c, cur, rfl, hg, hh, _⟩
    · left; rfl
    · right; exact ⟨g, cur, rfl, hg, hh⟩
  have hb : Below lo w w' := (Below.refl lo w).grown h3 hown.le (fun k hk => by
    rcases hos with h5 | ⟨g, cur, h5, hg, _⟩
    · rw [h5] at hk; cases hk
    · rw [h5] at hk; cases hk; exact hg)
  refine ⟨⟨h2, Nat.le_trans hown.le h3.size⟩, hb, fun k hk e => h3.block k hk e, fun k hk => ?_⟩
  by_cases e : some k = v.ownBlock
  · rcases hos with h5 | ⟨g, cur, h5, hg, hh⟩
    · rw [h5] at e; cases e
    · rw [h5] at e
      cases e
      exact Or.inr ⟨hg, cur, hh⟩
  · exact Or.inl (h3.block k hk e)
section
variable (P : Program) (w : World) {o : Oper} {a : Act}
theorem wpList_ow {ops : Array Oper} {rest : List Oper} {Q : Exit → Act → World → Prop} (hgd : o.guard = none) (s x : Operand) (t : TypeId)
    (ho : o.op = .call { callee := .builtin .append, args := #[s, x], argTypes := #[t, t] }) (e : TypeId) (i : TypeInfo) (z : Value) (sz bytes : Nat) (ht : P.underlying t = some (.slice e)) (hi : P.info? e = some i) (hz0 : i.zero = some z) (hz1 : i.size = sz) (hz2 : i.bytes = bytes) (hz3 : z.cells.size = sz) (hsz : 0 < sz)
    (lo : Nat) (v : Value) (k : Nat) (l : List Value) (hs : a.eval s = v) (hown : Ow w lo e sz v k l)
    (ax : Option Addr) (m : List Value) (n c : Nat) (hnm : m.length = n * sz) (hx : a.eval x = .slice ax n c) (hz : ax = none → n = 0 ∧ c = 0) (hl : m = [] ∨ ∃ b o, ax = some ⟨b, o, none⟩ ∧ ∀ i u, m[i]? = some u → w.cell? ⟨b, o + i, none⟩ = some u) (h1 : ∀ u ∈ m, u.oneCell' = true) (h63 : k + n ≤ maxLen) (hlen : (k + n) * bytes ≤ 140737488355328)
    (h : ∀ v' w', Got lo e sz w w' v v' (k + n) (l ++ m) → wpList P ops Q rest (a.put o.dst v') w') : wpList P ops Q (o :: rest) a w := by
  cases ax with
  | none =>
    obtain ⟨h1, h2⟩ := hz rfl
    subst h1
    have hm : m = [] := List.eq_nil_of_length_eq_zero (by omega)
    subst hm
    subst h2
    refine wpList_append_own_none hgd s x t ho lo e i sz ht hi v _ _ hs hown.own hx (h v w ?_)
    rw [List.append_nil]
    exact ⟨hown, Below.refl _ _, fun _ _ _ => rfl, fun k _ => Or.inl rfl⟩
  | some ad =>
    refine wpList_append_own w hgd s x t ho lo e i z sz bytes ht hi hz0 hz1 hz2 hz3 hsz v _ _ hs hown.own ad n c m hx hnm ?_ h1 h63 hlen hown.le ?_
    · intro j u hj
      rcases hl with rfl | ⟨b, off, ha, hc⟩
      · simp at hj
      · cases ha
        rw [addr_add]
        exact hc j u hj
    · intro v' w' h2 h3 h4
      exact h v' w' (Got.mk' hown h2 h3)
/-- One element, at a step of a region that draws its order. -/
theorem step_ow {ops : Array Oper} {K : Act → World → Prop} {Q : Exit → Act → World → Prop} {E : Prop} (hgd : o.guard = none) (s x : Operand) (t : TypeId)
    (ho : o.op = .call { callee := .builtin .append, args := #[s, x], argTypes := #[t, t] }) (e : TypeId) (i : TypeInfo) (z : Value) (sz bytes : Nat) (ht : P.underlying t = some (.slice e)) (hi : P.info? e = some i) (hz0 : i.zero = some z) (hz1 : i.size = sz) (hz2 : i.bytes = bytes) (hz3 : z.cells.size = sz) (hsz : 0 < sz)
    (lo : Nat) (v : Value) (k : Nat) (l : List Value) (hs : a.eval s = v) (hown : Ow w lo e sz v k l)
    (b off c : Nat) (m : List Value) (hnm : m.length = sz) (hx : a.eval x = .slice (some ⟨b, off, none⟩) 1 c) (hl : ∀ i u, m[i]? = some u → w.cell? ⟨b, off + i, none⟩ = some u) (h1 : ∀ u ∈ m, u.oneCell' = true) (h63 : k + 1 ≤ maxLen) (hlen : (k + 1) * bytes ≤ 140737488355328)
    (h : ∀ g cap w', Got lo e sz w w' v (.slice (some ⟨g, 0, none⟩) (k + 1) cap) (k + 1) (l ++ m) → K (a.put o.dst (.slice (some ⟨g, 0, none⟩) (k + 1) cap)) w') :
    if Region.wanted o (yielded ops a.tmps) = true then Oper.wp P o a w K Q else E :=
  step_append_lies w hgd s x t ho lo e i z sz bytes ht hi hz0 hz1 hz2 hz3 hsz v _ _ hs hown.own ⟨b, off, none⟩ 1 c m hx (by omega) (fun j u hj => by rw [addr_add]; exact hl j u hj) h1 (by decide) h63 hlen hown.le _ rfl fun g cap w' h2 h3 _ _ => h g cap w' (Got.mk' hown h2 h3)
end
theorem Ow.lies {w : World} {lo n : Nat} {v : Value} {l : List Nat} (h : Ow w lo 5 1 v n (ob l)) : ∃ a c, v = .slice a n c ∧ l.length = n ∧ n ≤ c ∧ Lies w a l ∧ (a = none → n = 0 ∧ c = 0) := by
  obtain ⟨a, c, hv, hc, hq, hz⟩ := h.shape
  have hn : l.length = n := by have := h.own.1; rw [ob_length] at this; omega
  refine ⟨a, c, hv, hn, hc, ?_, hz⟩
  rcases hq with h0 | ⟨g, ha, hg, _, hx, _⟩
  · exact Or.inl (List.eq_nil_of_length_eq_zero (by omega))
  · refine Or.inr ⟨g, 0, ha, fun i x hi => ?_⟩
    rw [Nat.zero_add]
    exact hx i _ (by rw [ob_get, hi]; rfl)
theorem drop_more {l : List Nat} {k x : Nat} (hx : l[k]? = some x) : l.drop k = x :: l.drop (k + 1) := by
  obtain ⟨h1, h2⟩ := List.getElem?_eq_some_iff.1 hx
  rw [← h2]
  exact List.drop_eq_getElem_cons h1
theorem take_more {l : List Nat} {k x : Nat} (hx : l[k]? = some x) : l.take (k + 1) = l.take k ++ [x] := by rw [List.take_add_one, hx]; rfl
theorem Below.drewN2 {B : Nat} {w u : World} (h : Below B w u) (n : Nat) : Below B w (u.drewN n) := ⟨h.1, h.2, h.3, h.size, h.block⟩
end Go.Proofs.YtogednaamndpgaaDoor

/-
  Reset: the inflater as a new one.
-/
namespace Go.Proofs.YtogednaamndpgaaDoor
open Go.RowKit
set_option linter.unusedVariables false
/-- A row stored into the inflater's block, told of the operation alone. -/
theorem wp_store_cz {P : Program} {o : Oper} {a : Act} {w : World} {K : Act → World → Prop} {Q : Exit → Act → World → Prop} (ty : TypeId) (x y : Operand) (ho : o.op = .store ty x y)
    (D off : Nat) (cells : Array Value) (hx : a.eval x = .pointer (some ⟨D, off, none⟩)) (hy : a.eval y = .agg cells) (f : Nat → Value) (hg : Cells w D (cz f) 55) (hi : (P.info? ty).map (·.size) = some cells.size)
    (hle : off + cells.size ≤ 355) (h1 : cells.all (·.oneCell') = true)
    (h : ∀ w' f', Mid D off f f' cells.toList w w' → K (a.put o.dst undef) w') : o.wp P a w K Q := by
  obtain ⟨w', f', h2, h3⟩ := store_mid (P := P) D off cells.toList 0 f w hg (by simp; omega) (fun v hv => (Array.all_eq_true_iff_forall_mem.1 h1) v (by simpa using hv))
  have hv : (storeVar ty ⟨D, off, none⟩ (.agg cells)).run P w = .ok () w' := by
    cases hq : P.info? ty with
    | none => simp [hq] at hi
    | some i =>
      have hs : cells.size = i.size := by simp [hq] at hi; omega
      simp [storeVar, sizeOf, typeInfo, hq, Value.cells, hs, h2]
  unfold Oper.wp execOp
  simp only [ho, hx, hy, Instr.storeAt, Instr.sureAddr, Sem.run_bind, Sem.run_pure, Result.andThen_ok, hv]
  exact h w' f' h3
theorem nf_one (b R : Nat) (p q : Option Addr) : (cz (nf b R (.pointer p) (.pointer q))).all (·.oneCell') = true := by kernel_rfl
theorem zc73r (b R : Nat) (p q : Option Addr) : (((Tryd.zeroCells55.setIfInBounds 0 (.pointer (some ⟨b, 0, none⟩))).setIfInBounds 1 (.pointer (some ⟨R, 0, none⟩))).setIfInBounds 3 (.pointer p)).setIfInBounds 4 (.pointer q) = cz (nf b R (.pointer p) (.pointer q)) := by kernel_rfl
section
variable {B D b R : Nat} {I : List Nat} {M : Nat} {c : Cfg} {q : Md}
set_option maxRecDepth 100000 in
set_option maxHeartbeats 2000000 in
theorem reset_c (w : World) (h : Inf w B D b R I M c q) : Calls Tryd.prog 80 #[.pointer (some ⟨D, 0, none⟩)] w fun e w' => e = .returned (.tuple #[]) ∧ Inf w' B D b R [] M c0 .want ∧ Fm B w w' := by
  obtain ⟨f, hh, l, s, hx, ht, h7⟩ := h.mem
  obtain ⟨p3, p4, e3, e4⟩ : ∃ p3 p4, f 3 = .pointer p3 ∧ f 4 = .pointer p4 := by
    rcases hx with ⟨h3, h4⟩ | ⟨⟨_, _, T, h3, _⟩, ⟨_, _, T', h4, _⟩⟩
    · exact ⟨_, _, h3, h4⟩
    · exact ⟨_, _, h3, h4⟩
  have d0 := (s.cell (show 0 < 355 by decide)).trans (congrArg some s.c0)
  have hclr := clear_b b _ _ w s.br
  have A : Aside (Bs w B D b R f hh l ∧ Fx w B f ∧ Tabs w ∧ 8 ≤ B ∧ f 3 = .pointer p3 ∧ f 4 = .pointer p4) := ⟨s, hx, ht, h7, e3, e4⟩
  clear s hx ht h7 e3 e4 h
  go_enter Tryd.func80, Tryd.ntmps80
  go_upto_region 2 with (go_at_call 84; refine hclr.mono ?_; rintro e1 w1 ⟨rfl, hb1, ho1⟩)
  have s1 : Bs w1 B D b R f [] l := A.out.1.onb ho1 (h' := []) hb1
  have d1 := (s1.cell (show 1 < 355 by decide)).trans (congrArg some s1.c1)
  have hrc := gclear_r w1 s1.rg
  have A1 : Aside (Bs w1 B D b R f [] l ∧ Fm B w w1) := ⟨s1, Fm.of_only ho1 (by have := A.out.1.eb; omega) (by have := A.out.1.eb; omega)⟩
  clear s1 hb1 ho1 hclr d0
  go_upto_region 3 with (go_at_call 85; refine hrc.mono ?_; rintro e2 w2 ⟨rfl, hr2, ho2⟩)
  have s2 : Bs w2 B D b R f [] [] := A1.out.1.onR ⟨ho2.os, ho2.tape, ho2.output, ho2.size, fun k hk _ => ho2.block k hk⟩ hr2
  have g0 := (s2.cell (show 0 < 355 by decide)).trans (congrArg some s2.c0)
  have g1 := (s2.cell (show 1 < 355 by decide)).trans (congrArg some s2.c1)
  have g3 := (s2.cell (show 3 < 355 by decide)).trans (congrArg some A.out.2.2.2.2.1)
  have g4 := (s2.cell (show 4 < 355 by decide)).trans (congrArg some A.out.2.2.2.2.2)
  have A2 : Aside (Bs w2.drew B D b R f [] [] ∧ Fm B w w2.drew) := ⟨s2.drew, (A1.out.2.trans (Fm.of_only ho2 (by have := A.out.1.eR; omega) (by have := A.out.1.eR; omega))).trans ((Fm.refl B w2).drew)⟩
  clear s2 hr2 ho2 hrc d1
  refine wp_region_held_drew (S := fun u => u.cell? ⟨D, 0, none⟩ = some (.pointer (some ⟨b, 0, none⟩)) ∧ u.cell? ⟨D, 1, none⟩ = some (.pointer (some ⟨R, 0, none⟩)) ∧ u.cell? ⟨D, 3, none⟩ = some (.pointer p3) ∧ u.cell? ⟨D, 4, none⟩ = some (.pointer p4)) (by kernel_rfl) ⟨g0, g1, g3, g4⟩ (fun hHeld => ?_)
  refine wpAnyH_take (i := 0) (oi := ⟨_, _, _, _, _, _⟩) (v := ?_) rfl (by kernel_rfl) (by kernel_rfl) (by kernel_rfl) (fun _ _ _ h => h) (Or.inl ⟨by rfl, ?_⟩) hHeld ?_
  rotate_left
  · (intro w9 hSw; (try dsimp only at hSw); go_simp; try (with_reducible rfl))
  try simp only [Act.put, List.setIfInBounds_toArray, List.set_cons_zero, List.set_cons_succ]
  refine wpAnyH_take (i := 1) (oi := ⟨_, _, _, _, _, _⟩) (v := ?_) rfl (by kernel_rfl) (by kernel_rfl) (by kernel_rfl) (fun _ _ _ h => h) (Or.inl ⟨by rfl, ?_⟩) hHeld ?_
  rotate_left
  · (intro w9 hSw; (try dsimp only at hSw); go_simp; try (with_reducible rfl))
  try simp only [Act.put, List.setIfInBounds_toArray, List.set_cons_zero, List.set_cons_succ]
  refine wpAnyH_take (i := 2) (oi := ⟨_, _, _, _, _, _⟩) (v := ?_) rfl (by kernel_rfl) (by kernel_rfl) (by kernel_rfl) (fun _ _ _ h => h) (Or.inl ⟨by rfl, ?_⟩) hHeld ?_
  rotate_left
  · (intro w9 hSw; (try dsimp only at hSw); go_simp; try (with_reducible rfl))
  try simp only [Act.put, List.setIfInBounds_toArray, List.set_cons_zero, List.set_cons_succ]
  refine wpAnyH_take (i := 3) (oi := ⟨_, _, _, _, _, _⟩) (v := ?_) rfl (by kernel_rfl) (by kernel_rfl) (by kernel_rfl) (fun _ _ _ h => h) (Or.inl ⟨by rfl, ?_⟩) hHeld ?_
  rotate_left
  · (intro w9 hSw; (try dsimp only at hSw); go_simp; try (with_reducible rfl))
  try simp only [Act.put, List.setIfInBounds_toArray, List.set_cons_zero, List.set_cons_succ]
  refine wpAnyH_take (i := 4) (oi := ⟨_, _, _, _, _, _⟩) (v := ?_) rfl (by kernel_rfl) (by kernel_rfl) (by kernel_rfl) (fun _ _ _ h => h) (Or.inl ⟨by rfl, ?_⟩) hHeld ?_
  rotate_left
  · (intro w9 hSw; (try dsimp only at hSw); go_simp; try (with_reducible rfl))
  try simp only [Act.put, List.setIfInBounds_toArray, List.set_cons_zero, List.set_cons_succ]
  refine wpAnyH_take (i := 5) (oi := ⟨_, _, _, _, _, _⟩) (v := ?_) rfl (by kernel_rfl) (by kernel_rfl) (by kernel_rfl) (fun _ _ _ h => h) (Or.inl ⟨by rfl, ?_⟩) hHeld ?_
  rotate_left
  · (intro w9 hSw; (try dsimp only at hSw); go_simp; try (with_reducible rfl))
  try simp only [Act.put, List.setIfInBounds_toArray, List.set_cons_zero, List.set_cons_succ]
  refine wpAnyH_take (i := 6) (oi := ⟨_, _, _, _, _, _⟩) (v := ?_) rfl (by kernel_rfl) (by kernel_rfl) (by kernel_rfl) (fun _ _ _ h => h) (Or.inl ⟨by rfl, ?_⟩) hHeld ?_
  rotate_left
  · (intro w9 hSw; (try dsimp only at hSw); go_simp; try (with_reducible rfl))
  try simp only [Act.put, List.setIfInBounds_toArray, List.set_cons_zero, List.set_cons_succ]
  refine wpAnyH_take (i := 7) (oi := ⟨_, _, _, _, _, _⟩) (v := ?_) rfl (by kernel_rfl) (by kernel_rfl) (by kernel_rfl) (fun _ _ _ h => h) (Or.inl ⟨by rfl, ?_⟩) hHeld ?_
  rotate_left
  · (intro w9 hSw; (try dsimp only at hSw); go_simp; try (with_reducible rfl))
  try simp only [Act.put, List.setIfInBounds_toArray, List.set_cons_zero, List.set_cons_succ]
  refine wpAnyH_take (i := 8) (oi := ⟨_, _, _, _, _, _⟩) (v := ?_) rfl (by kernel_rfl) (by kernel_rfl) (by kernel_rfl) (fun _ _ _ h => h) (Or.inl ⟨by rfl, ?_⟩) hHeld ?_
  rotate_left
  · (intro w9 hSw; (try dsimp only at hSw); go_simp; try (with_reducible rfl))
  try simp only [Act.put, List.setIfInBounds_toArray, List.set_cons_zero, List.set_cons_succ]
  refine wpAnyH_take (i := 9) (oi := ⟨_, _, _, _, _, _⟩) (v := ?_) rfl (by kernel_rfl) (by kernel_rfl) (by kernel_rfl) (fun _ _ _ h => h) (Or.inl ⟨by rfl, ?_⟩) hHeld ?_
  rotate_left
  · (intro w9 hSw; (try dsimp only at hSw); go_simp; try (with_reducible rfl))
  try simp only [Act.put, List.setIfInBounds_toArray, List.set_cons_zero, List.set_cons_succ]
  refine wpAnyH_take (i := 10) (oi := ⟨_, _, _, _, _, _⟩) (v := ?_) rfl (by kernel_rfl) (by kernel_rfl) (by kernel_rfl) (fun _ _ _ h => h) (Or.inl ⟨by rfl, ?_⟩) hHeld ?_
  rotate_left
  · (intro w9 hSw; (try dsimp only at hSw); go_simp; try (with_reducible rfl))
  try simp only [Act.put, List.setIfInBounds_toArray, List.set_cons_zero, List.set_cons_succ]
  refine wpAnyH_take (i := 11) (oi := ⟨_, _, _, _, _, _⟩) (v := ?_) rfl (by kernel_rfl) (by kernel_rfl) (by kernel_rfl) (fun _ _ _ h => h) (Or.inl ⟨by rfl, ?_⟩) hHeld ?_
  rotate_left
  · (intro w9 hSw; (try dsimp only at hSw); go_simp; try (with_reducible rfl))
  try simp only [Act.put, List.setIfInBounds_toArray, List.set_cons_zero, List.set_cons_succ]
  refine wpAnyH_take (i := 12) (oi := ⟨_, _, _, _, _, _⟩) (v := ?_) rfl (by kernel_rfl) (by kernel_rfl) (by kernel_rfl) (fun _ _ _ h => h) (Or.inl ⟨by rfl, ?_⟩) hHeld ?_
  rotate_left
  · (intro w9 hSw; (try dsimp only at hSw); go_simp; try (with_reducible rfl))
  try simp only [Act.put, List.setIfInBounds_toArray, List.set_cons_zero, List.set_cons_succ]
  refine wpAnyH_take (i := 13) (oi := ⟨_, _, _, _, _, _⟩) (v := ?_) rfl (by kernel_rfl) (by kernel_rfl) (by kernel_rfl) (fun _ _ _ h => h) (Or.inl ⟨by rfl, ?_⟩) hHeld ?_
  rotate_left
  · (intro w9 hSw; (try dsimp only at hSw); go_simp; try (with_reducible rfl))
  try simp only [Act.put, List.setIfInBounds_toArray, List.set_cons_zero, List.set_cons_succ]
  refine wpAnyH_take (i := 14) (oi := ⟨_, _, _, _, _, _⟩) (v := ?_) rfl (by kernel_rfl) (by kernel_rfl) (by kernel_rfl) (fun _ _ _ h => h) (Or.inl ⟨by rfl, ?_⟩) hHeld ?_
  rotate_left
  · (intro w9 hSw; (try dsimp only at hSw); go_simp; try (with_reducible rfl))
  try simp only [Act.put, List.setIfInBounds_toArray, List.set_cons_zero, List.set_cons_succ]
  refine wpAnyH_ready (rs := [15]) (by kernel_rfl) (by simp) ?_
  refine AllReadyH.cons (o := ⟨_, _, _, _, _, _⟩) rfl (fun K hK => ?_) AllReadyH.nil
  rw [if_pos (by rfl)]
  refine wp_store_cz 55 _ _ rfl D 0 (cz (nf b R (.pointer p3) (.pointer p4))) (by rfl) (congrArg Value.agg (zc73r b R p3 p4)) f A2.out.1.fr (by rw [cz_size]; exact size73) (by rw [cz_size]; omega) (nf_one b R p3 p4) ?_
  intro w3 f3 hm
  have hf3 : ∀ j, j < 355 → f3 j = nf b R (.pointer p3) (.pointer p4) j := fun j hj => by
    have := hm.new j (nf b R (.pointer p3) (.pointer p4) j) (by have := cz_at (nf b R (.pointer p3) (.pointer p4)) hj; simpa using this)
    rwa [Nat.zero_add] at this
  have hcz : cz f3 = cz (nf b R (.pointer p3) (.pointer p4)) := by
    unfold cz
    congr 1
    exact List.map_congr_left fun j hj => hf3 j (List.mem_range.1 hj)
  have hc3 : Cells w3 D (cz (nf b R (.pointer p3) (.pointer p4))) 55 := by rw [← hcz]; exact hm.cells
  have s3 : Bs w3 B D b R (nf b R (.pointer p3) (.pointer p4)) [] [] := A2.out.1.onD hm.only hc3 A2.out.1.c0.symm A2.out.1.c1.symm
  refine hK.out _ _ ⟨s3.cell (show 0 < 355 by decide), s3.cell (show 1 < 355 by decide), s3.cell (show 3 < 355 by decide), s3.cell (show 4 < 355 by decide)⟩ (fun hHeld3 => ?_)
  clear hK K
  have A3 : Aside (Bs w3 B D b R (nf b R (.pointer p3) (.pointer p4)) [] [] ∧ Fm B w w3) := ⟨s3, A2.out.2.trans (Fm.of_only hm.only (by have := A.out.1.eD; omega) (by have := A.out.1.eD; omega))⟩
  have z2 := s3.fz 2
  have c2 := s3.cell (show 2 < 355 by decide)
  have e2 : nf b R (.pointer p3) (.pointer p4) 2 = .nilFunc := rfl
  rw [e2] at c2
  clear hm hf3 hcz hc3 s3 hHeld hHeld3 g0 g1 g3 g4 e2
  try simp only [Act.put]
  refine wpAnyH_done (by kernel_rfl) ?_ _
  go_wp2_with fail
  go_end0
  have a := A3.out
  have s5 := a.1.set 2 (fnv D 33) (by decide)
  have o5 : Only D w3 (w3.setCell ⟨D, 2, none⟩ (fnv D 33)) := (Only.refl D w3).setCell 2 _
  have f5 := a.2.trans (Fm.of_only o5 (by have := A.out.1.eD; omega) (by have := A.out.1.eD; omega))
  refine ⟨rfl, want_new s5 (upd_same _ _ _) rfl rfl rfl ?_ (A.out.2.2.1.below (f5.below (by have := A.out.1.lt; omega)) A.out.2.2.2.1) A.out.2.2.2.1, f5⟩
  exact A.out.2.1.fm f5 A.out.2.2.2.2.1.symm A.out.2.2.2.2.2.symm
end
end Go.Proofs.YtogednaamndpgaaDoor

/-
  Where the machine stands, told of the inflater between its calls. No walk in this text.
-/
namespace Go.Proofs.YtogednaamndpgaaDoor
open Go.RowKit
set_option linter.unusedVariables false
theorem step_none_most {bs : List Bool} {M N : Nat} {c : Cfg} (h : step bs M c = none) : step bs N c = none := by
  obtain ⟨st, pos, out, times⟩ := c
  unfold step at *
  cases st using St.el with
  | head last => cases last <;> simp_all
  | sraw last n => cases n <;> simp_all
  | copy last lit di n d => cases n <;> simp_all
  | dfst last a b i j first => simp_all
  | sym last lit di =>
    simp only [] at h ⊢
    cases e5 : sread lit (bs.drop pos) using SR.el with
    | cut => rfl
    | bad j => rw [e5] at h; cases h
    | got s n => rw [e5] at h; simp only [] at h; split at h <;> cases h
  | done => rfl
  | bad y => rfl
  | _ => simp_all
theorem runs_le {bs : List Bool} {M N : Nat} {z : Cfg} (h : Runs bs M c0 z) (hN : N ≤ M) (hz : z.out.length ≤ N) : Runs bs N c0 z := by
  rcases runs_fewer h hN (Nat.zero_le _) (Nat.zero_le _) with ⟨q, _⟩ | ⟨e, _, _, _, _, q, _⟩
  · exact q
  · omega
theorem step_most {bs : List Bool} {N : Nat} {c d : Cfg} (h : step bs N c = some d) (hc : c.out.length ≤ N) : d.out.length ≤ N := by
  rcases step_fewer h (Nat.le_refl N) hc with ⟨_, q⟩ | ⟨_, q, b, e⟩
  · exact q
  · rw [h] at q
    have e1 := Option.some.inj q
    have e2 := congrArg Cfg.out e1
    have e3 : d.out = c.out := e2
    rw [e3]
    exact hc
theorem runs_most {bs : List Bool} {N : Nat} {c d : Cfg} (h : Runs bs N c d) (hc : c.out.length ≤ N) : d.out.length ≤ N := by
  induction h using Runs.el with
  | refl => exact hc
  | cons h1 _ ih => exact ih (step_most h1 hc)
theorem stands_most {I : List Nat} {N : Nat} {z : Cfg} (h : Stands I N z) : z.out.length ≤ N := runs_most h.1 (Nat.zero_le _)
/-- It is over. -/
def Over (c : Cfg) : Prop := c.st = .done ∨ ∃ y, c.st = .bad y
section
variable {w : World} {B D b R : Nat} {I : List Nat} {M N : Nat} {c : Cfg}
theorem Inf.stands (h : Inf w B D b R I M c .want) (hN : N ≤ M) (ho : c.out.length ≤ N) : ∃ z, Stands I N z ∧ z.out = c.out ∧ ¬ Over z := by
  obtain ⟨hr, f, h3⟩ := h
  obtain ⟨z, h4, h5, h6, h7, h8⟩ := h3.z
  refine ⟨z, ⟨runs_le (hr.trans h4) hN (by rw [h6]; exact ho), step_none_most h5⟩, h6, ?_⟩
  rintro (e | ⟨y, e⟩)
  · exact h8 e
  · exact h7 y e
theorem Inf.over_st (h : Inf w B D b R I M c .over) : Over c := by
  obtain ⟨hr, f, h3⟩ := h
  rcases h3.how with ⟨e, _⟩ | ⟨y, e, _⟩
  · exact Or.inl e
  · exact Or.inr ⟨y, e⟩
theorem Over.none {bs : List Bool} (h : Over c) : step bs N c = none := by
  unfold step
  rcases h with e | ⟨y, e⟩ <;> rw [e]
theorem Inf.stands_over (h : Inf w B D b R I M c .over) (hN : N ≤ M) (ho : c.out.length ≤ N) : Stands I N c := ⟨runs_le h.1 hN ho, h.over_st.none⟩
theorem over_pos {I : List Nat} {x : Nat} {z c : Cfg} (h : Stands I N z) (hz : ¬ Over z) (k : Stands (I ++ [x]) N c) (hc : Over c) : 8 * I.length < c.pos := by
  obtain ⟨o, _, _, e | e⟩ := h.next k
  · rw [e] at hc; exact absurd hc hz
  · exact e.1
theorem too_much {I : List Nat} {x : Nat} {z c : Cfg} (hr : Runs (allb (I ++ [x])) M c0 c) (hN : N ≤ M) (hc : N < c.out.length) (h : Stands I N z) (hz : ¬ Over z) : ∃ e, Stands (I ++ [x]) N e ∧ e.st = .bad 62 ∧ e.out = c.out.take N ∧ 8 * I.length < e.pos := by
  rcases runs_fewer hr hN (Nat.zero_le _) (Nat.zero_le _) with ⟨_, q⟩ | ⟨e, h1, h2, h3, h4, _, h6⟩
  · omega
  · have hst : Stands (I ++ [x]) N e := ⟨h1, Over.none (Or.inr ⟨62, h2⟩)⟩
    refine ⟨e, hst, h2, ?_, over_pos h hz hst (Or.inr ⟨62, h2⟩)⟩
    obtain ⟨t, ht⟩ := h4
    rw [← ht, List.take_append_of_le_length (by omega), List.take_of_length_le (by omega)]
theorem Stands.of_take {Bb : List Nat} {i : Nat} (h : Stands (Bb.take i) N c) (hc : Over c) : Stands Bb N c := by
  have := h.over (D := Bb.drop i) hc
  rwa [List.take_append_drop] at this
theorem over_at {L i : Nat} (hc : Over c) (h1 : 8 * i < c.pos) (h2 : c.pos ≤ 8 * (i + 1)) : atC L c = i := by
  unfold atC
  rcases hc with e | ⟨y, e⟩ <;> rw [e] <;> simp only [] <;> omega
theorem open_at {L : Nat} (hc : ¬ Over c) : atC L c = L ∧ whyC c = 1 ∧ endC c = false := by
  unfold atC whyC endC
  cases e : c.st using St.el <;> first | exact ⟨rfl, rfl, rfl⟩ | exact absurd (Or.inl e) hc | exact absurd (Or.inr ⟨_, e⟩) hc
end
/-- What is told, and what waits. -/
def Pd (o : List Nat) (c : Cfg) (q : Md) : Prop := (∃ x, q = .wait x ∧ c.out = o ++ [x]) ∨ ((q = .over ∨ q = .want) ∧ c.out = o)
/-- What Next told. -/
def Nx (o : List Nat) (v10 v11 : Value) (c : Cfg) (q : Md) : Prop := (∃ x : Nat, v10 = .int .u8 (x : Int) ∧ v11 = .bool true ∧ Pd (o ++ [x]) c q) ∨ (v10 = .int .u8 0 ∧ v11 = .bool false ∧ (q = .over ∨ q = .want) ∧ c.out = o)
theorem Pd.le {o : List Nat} {c : Cfg} {q : Md} (h : Pd o c q) : c.out.length ≤ o.length + 1 := by
  rcases h with ⟨x, _, e⟩ | ⟨_, e⟩ <;> rw [e]
  · simp
  · omega
section
variable {B D b R : Nat} {I : List Nat} {M : Nat} {c : Cfg} {q : Md}
theorem Goes.pd {w : World} (h : Goes B D b R I M c w) : ∃ c' q', Inf w B D b R I M c' q' ∧ Pd c.out c' q' := by
  obtain ⟨c', _, ⟨x, h1, h2⟩ | ⟨h1, h2⟩ | ⟨h1, h2⟩⟩ := h
  · exact ⟨c', _, h1, Or.inl ⟨x, rfl, h2⟩⟩
  · exact ⟨c', _, h1, Or.inr ⟨Or.inl rfl, h2⟩⟩
  · exact ⟨c', _, h1, Or.inr ⟨Or.inr rfl, h2⟩⟩
theorem next_any (w : World) (h : Inf w B D b R I M c q) (o : List Nat) (hp : Pd o c q) (hm : o.length + 1 < M) : Calls Tryd.prog 15 #[.pointer (some ⟨D, 0, none⟩)] w fun e w' => ∃ v10 v11 c' q', e = .returned (.tuple #[v10, v11]) ∧ Fm B w w' ∧ Inf w' B D b R I M c' q' ∧ Nx o v10 v11 c' q' := by
  have hle := hp.le
  rcases hp with ⟨x, rfl, e⟩ | ⟨hq, e⟩
  · refine (next_yes x w h (by omega)).mono ?_
    rintro e2 w' ⟨h1, h2, h3⟩
    obtain ⟨c', q', h4, h5⟩ := h3.pd
    rw [e] at h5
    exact ⟨_, _, c', q', h1, h2, h4, Or.inl ⟨x, rfl, rfl, h5⟩⟩
  · refine (next_no w h (fun x ex => by rcases hq with hq | hq <;> rw [hq] at ex <;> cases ex)).mono ?_
    rintro e2 w' ⟨h1, rfl⟩
    exact ⟨_, _, c, q, h1, Fm.refl _ _, h, Or.inr ⟨rfl, rfl, hq, e⟩⟩
theorem put_any (x : Nat) (hx : x < 256) (w : World) (h : Inf w B D b R I M c .want) (hm : c.out.length < M) : Calls Tryd.prog 86 #[.pointer (some ⟨D, 0, none⟩), .int .u8 (x : Int)] w fun e w' => e = .returned (.bool true) ∧ Fm B w w' ∧ ∃ c' q', Inf w' B D b R (I ++ [x]) M c' q' ∧ Pd c.out c' q' := by
  refine (put_open x hx w h hm).mono ?_
  rintro e w' ⟨h1, h2, h3⟩
  exact ⟨h1, h2, h3.pd⟩
end
end Go.Proofs.YtogednaamndpgaaDoor

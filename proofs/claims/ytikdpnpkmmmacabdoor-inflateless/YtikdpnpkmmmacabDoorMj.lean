/-
  Own texts of this seat, one behind the other: what each says stands ahead of it.
-/
import Derived.Test.YtikdpnpkmmmacabDoorMi
import Derived.OwnWalk
import Derived.Laws.AppendOwn
import Derived.Laws.AppendOwnNone
import Derived.Deep.CutBlock
import Derived.Deep.DeepCutAuto
import Derived.Laws.IdiomStrings
/-
  The inflater between its calls: what it was handed, where it stands, in which of four ways; and what its calls come to.
-/
namespace Go.Proofs.YtikdpnpkmmmacabDoor
open Go.RowKit
set_option linter.unusedVariables false
/-- What is old stays, but for rows of bytes beyond the inflater's blocks; memory may have come. -/
structure Kp (B : Nat) (w u : World) : Prop where
  size : w.heap.size ≤ u.heap.size
  block : ∀ k, k < w.heap.size → u.heap[k]? = w.heap[k]? ∨ (B + 4 ≤ k ∧ ∃ cs fr, w.heap[k]? = some (.cells cs 5 fr))
theorem Kp.of_below {B C : Nat} {w u : World} (h : Below C w u) (hC : w.heap.size ≤ C) : Kp B w u := ⟨h.size, fun k hk => Or.inl (h.block k (by omega))⟩
theorem Kp.drawn {B : Nat} {w u : World} (h : Drawn w u) : Kp B w u := by
  obtain ⟨n, rfl⟩ := h
  exact ⟨Nat.le_refl _, fun k hk => Or.inl rfl⟩
theorem Tbl.kp {w u : World} {B : Nat} {v : Value} {ls : List Nat} (h : Tbl w B v ls) (k : Kp B w u) : Tbl u B v ls := by
  obtain ⟨lo, hi, T, h1, h2, h3, ⟨g, M, n, q, a1, a2, a3, a4, a5, a6, a7⟩, h5⟩ := h
  have e1 : u.heap[T]? = w.heap[T]? := by
    rcases k.block T (by omega) with e | ⟨_, cs, fr, e⟩
    · exact e
    · have := q.t; unfold Cells at this; rw [this] at e; cases e
  have e2 : u.heap[g]? = w.heap[g]? := by
    rcases k.block g (by omega) with e | ⟨_, cs, fr, e⟩
    · exact e
    · obtain ⟨cs', hc, _⟩ := q.c; unfold Cells at hc; rw [hc] at e; cases e
  have e3 : u.heap[M]? = w.heap[M]? := by
    rcases k.block M (by omega) with e | ⟨_, cs, fr, e⟩
    · exact e
    · obtain ⟨G, ⟨D, ⟨es, cl, hb, _⟩, _⟩, _⟩ := q.m; rw [hb] at e; cases e
  exact ⟨lo, hi, T, h1, h2, Nat.le_trans h3 k.size, ⟨g, M, n, q.heap e1 e2 e3, a1, a2, a3, a4, a5, a6, a7⟩, h5⟩
section
variable {w u : World} {B D b R : Nat} {f : Nat → Value} {bs : List Bool} {most : Nat}
theorem Bs.kp {h : List Bool} {l : List Int} (s : Bs w B D b R f h l) (k : Kp B w u) : Bs u B D b R f h l := by
  have := s.lt
  refine s.keep fun i h1 h2 => ?_
  rcases k.block i (by omega) with e | ⟨h3, _⟩
  · exact e
  · omega
theorem Fx.kp (h : Fx w B f) (k : Kp B w u) : Fx u B f := by
  rcases h with h | ⟨h, h'⟩
  · exact Or.inl h
  · exact Or.inr ⟨h.kp k, h'.kp k⟩
theorem Kp.below (k : Kp B w u) (hos : u.os = w.os) (ht : u.tape = w.tape) (ho : u.output = w.output) (hB : B ≤ w.heap.size) : Below B w u := ⟨hos, ht, ho, k.size, fun i hi => by
  rcases k.block i (by omega) with e | ⟨h3, _⟩
  · exact e
  · omega⟩
theorem Tabs.kp (h : Tabs w) (k : Kp B w u) (hB : 7 ≤ B) (hs : B ≤ w.heap.size) : Tabs u := by
  have hc : ∀ p : Addr, p.block < 7 → u.cell? p = w.cell? p := fun p hp => World.cell?_of_block (w := w) (by
    rcases k.block p.block (by omega) with e | ⟨h3, _⟩
    · exact e
    · omega)
  exact ⟨fun i hi => (hc ⟨0, i, none⟩ (show 0 < 7 by decide)).trans (h.t0 i hi), fun i hi => (hc ⟨1, i, none⟩ (show 1 < 7 by decide)).trans (h.t1 i hi), fun i hi => (hc ⟨2, i, none⟩ (show 2 < 7 by decide)).trans (h.t2 i hi), fun i hi => (hc ⟨3, i, none⟩ (show 3 < 7 by decide)).trans (h.t3 i hi), fun i hi => (hc ⟨4, i, none⟩ (show 4 < 7 by decide)).trans (h.t4 i hi), fun i hi => (hc ⟨5, i, none⟩ (show 5 < 7 by decide)).trans (h.t5 i hi), fun i hi => (hc ⟨6, i, none⟩ (show 6 < 7 by decide)).trans (h.t6 i hi)⟩
theorem Pl.kp {a c : Nat} {code l : List Nat} (h : Pl w B f a c code l) (k : Kp B w u) : Pl u B f a c code l := ⟨h.a1, h.a2, h.b1, h.b2, h.c8, h.c9, h.have_, h.len, h.row, h.tbl.kp k, h.code⟩
theorem At.kp {n : Nat} {st : St} (h : At w B D f n st) (k : Kp B w u) : At u B D f n st := by
  cases st using St.el with
  | head last => cases last <;> exact h
  | dsym last a b code l => exact ⟨h.1, h.2.1, h.2.2.kp k⟩
  | drep last a b code l s => exact ⟨h.1, h.2.1, h.2.2.1.kp k, h.2.2.2⟩
  | sym last lit di => exact ⟨h.1, h.2.1, h.2.2.1.kp k, h.2.2.2.kp k⟩
  | lext last lit di s => exact ⟨h.1, h.2.1, h.2.2.1.kp k, h.2.2.2.1.kp k, h.2.2.2.2⟩
  | dist last lit di m => exact ⟨h.1, h.2.1, h.2.2.1.kp k, h.2.2.2.1.kp k, h.2.2.2.2⟩
  | dext last lit di m x => exact ⟨h.1, h.2.1, h.2.2.1.kp k, h.2.2.2.1.kp k, h.2.2.2.2⟩
  | copy last lit di m d => exact ⟨h.1, h.2.1, h.2.2.1.kp k, h.2.2.2.1.kp k, h.2.2.2.2⟩
  | _ => exact h
theorem Is.kp {c : Cfg} (h : Is w B D b R f bs c) (k : Kp B w u) : Is u B D b R f bs c :=
  ⟨h.mem.kp k, h.at_.kp k, h.fx.kp k, h.tabs.kp k h.b7 (by have := h.mem.lt; omega), h.le, h.b7⟩
theorem Ov.kp {c : Cfg} (h : Ov w B D b R f c) (k : Kp B w u) : Ov u B D b R f c := by
  obtain ⟨hh, l, s⟩ := h.mem
  exact ⟨⟨hh, l, s.kp k⟩, h.waits, h.how, h.fx.kp k, h.tabs.kp k h.b7 (by have := s.lt; omega), h.b7⟩
end
/-- Where it begins. -/
def c0 : Cfg := ⟨.head false, 0, [], []⟩
/-- A byte waits; more is wanted; it is over; it was shut. -/
abbrev Md := Nat ⊕ Option Bool
abbrev Md.wait (x : Nat) : Md := .inl x
abbrev Md.want : Md := .inr none
abbrev Md.over : Md := .inr (some false)
abbrev Md.shut : Md := .inr (some true)
theorem Md.el {motive : Md → Prop} (q : Md) (wait : ∀ x, motive (.wait x)) (want : motive .want) (over : motive .over) (shut : motive .shut) : motive q :=
  match q with
  | .inl x => wait x
  | .inr none => want
  | .inr (some false) => over
  | .inr (some true) => shut
/-- The inflater, handed the bytes I, stands at c. -/
def Inf (w : World) (B D b R : Nat) (I : List Nat) (M : Nat) (c : Cfg) (q : Md) : Prop := Runs (allb I) M c0 c ∧ match q with
  | .inl x => ∃ f, Is w B D b R f (allb I) c ∧ f 352 = .bool true ∧ f 353 = .bool false ∧ f 354 = .int .i64 0 ∧ f 351 = .int .u8 (x : Int) ∧ ∃ p, c.out = p ++ [x]
  | .inr none => ∃ f, Wt w B D b R f (allb I) M c
  | .inr (some false) => ∃ f, Ov w B D b R f c
  | .inr (some true) => ∃ f h l, Bs w B D b R f h l ∧ f 352 = .bool false ∧ f 353 = .bool false ∧ f 354 = .int .i64 1 ∧ Fx w B f ∧ Tabs w ∧ 7 ≤ B
section
variable {w u : World} {B D b R : Nat} {I : List Nat} {M : Nat} {c : Cfg} {q : Md}
theorem Inf.kp (h : Inf w B D b R I M c q) (k : Kp B w u) : Inf u B D b R I M c q := by
  refine ⟨h.1, ?_⟩
  have h2 := h.2
  cases q using Md.el with
  | wait x =>
    obtain ⟨f, h3, h4⟩ := h2
    exact ⟨f, h3.kp k, h4⟩
  | want =>
    obtain ⟨f, h3⟩ := h2
    exact ⟨f, h3.is_.kp k, h3.op, h3.few, h3.z⟩
  | over =>
    obtain ⟨f, h3⟩ := h2
    exact ⟨f, h3.kp k⟩
  | shut =>
    obtain ⟨f, h, l, h3, h4, h5, h6, h7, h8, h9⟩ := h2
    exact ⟨f, h, l, h3.kp k, h4, h5, h6, h7.kp k, h8.kp k h9 (by have := h3.lt; omega), h9⟩
theorem Inf.mem (h : Inf w B D b R I M c q) : ∃ f hh l, Bs w B D b R f hh l ∧ Fx w B f ∧ Tabs w ∧ 7 ≤ B := by
  have h2 := h.2
  cases q using Md.el with
  | wait x => obtain ⟨f, h3, _⟩ := h2; exact ⟨f, _, _, h3.mem, h3.fx, h3.tabs, h3.b7⟩
  | want => obtain ⟨f, h3⟩ := h2; exact ⟨f, _, _, h3.is_.mem, h3.is_.fx, h3.is_.tabs, h3.is_.b7⟩
  | over => obtain ⟨f, h3⟩ := h2; obtain ⟨hh, l, s⟩ := h3.mem; exact ⟨f, hh, l, s, h3.fx, h3.tabs, h3.b7⟩
  | shut => obtain ⟨f, hh, l, h3, _, _, _, h4, h5, h6⟩ := h2; exact ⟨f, hh, l, h3, h4, h5, h6⟩
theorem Inf.lt (h : Inf w B D b R I M c q) : B + 4 ≤ w.heap.size := by obtain ⟨f, hh, l, s, _⟩ := h.mem; exact s.lt
theorem allb_len8 (I : List Nat) : (allb I).length % 8 = 0 := by rw [allb_len]; omega
/-- What a run of steps comes to, told of the inflater. -/
theorem RunTo.inf (h : RunTo B D b R (allb I) M c w) (hr : Runs (allb I) M c0 c) : ∃ c', Runs (allb I) M c c' ∧ ((∃ x, Inf w B D b R I M c' (.wait x) ∧ c'.out = c.out ++ [x]) ∨ (Inf w B D b R I M c' .over ∧ c'.out = c.out) ∨ (Inf w B D b R I M c' .want ∧ c'.out = c.out)) := by
  obtain ⟨f, c', h1, h2⟩ := h
  refine ⟨c', h1, ?_⟩
  rcases h2 with h2 | ⟨h2, h3⟩ | ⟨h2, h3⟩
  · obtain ⟨x, hx, ho⟩ := h2.out
    exact Or.inl ⟨x, ⟨hr.trans h1, f, h2.is_, h2.waits, h2.done, h2.why, hx, _, ho⟩, ho⟩
  · exact Or.inr (Or.inl ⟨⟨hr.trans h1, f, h2⟩, h3⟩)
  · exact Or.inr (Or.inr ⟨⟨hr.trans h1, f, h2⟩, h3⟩)
end
section
variable {w : World} {B D b R : Nat} {f : Nat → Value} {h : List Bool} {l : List Int}
theorem open_yes (w : World) (s : Bs w B D b R f h l) (hO : Op f) : Calls Tryd.prog 15 #[.pointer (some ⟨D, 0, none⟩)] w fun e w' => e = .returned (.bool true) ∧ w = w' := by
  have c1 := (s.cell (show 352 < 355 by decide)).trans (congrArg some hO.waits)
  have c2 := (s.cell (show 353 < 355 by decide)).trans (congrArg some hO.done)
  have c3 := (s.cell (show 354 < 355 by decide)).trans (congrArg some hO.why)
  clear s hO
  go_enter Tryd.func15, Tryd.ntmps15
  go_wp2_with fail
  first | go_ret | go_ret2
  exact ⟨rfl, rfl⟩
theorem open_wait (w : World) (s : Bs w B D b R f h l) (h1 : f 352 = .bool true) : Calls Tryd.prog 15 #[.pointer (some ⟨D, 0, none⟩)] w fun e w' => e = .returned (.bool false) ∧ w = w' := by
  have c1 := (s.cell (show 352 < 355 by decide)).trans (congrArg some h1)
  clear s h1
  go_enter Tryd.func15, Tryd.ntmps15
  go_wp2_with fail
  first | go_ret | go_ret2
  exact ⟨rfl, rfl⟩
theorem open_done (w : World) (s : Bs w B D b R f h l) (h1 : f 352 = .bool false) (h2 : f 353 = .bool true) : Calls Tryd.prog 15 #[.pointer (some ⟨D, 0, none⟩)] w fun e w' => e = .returned (.bool false) ∧ w = w' := by
  have c1 := (s.cell (show 352 < 355 by decide)).trans (congrArg some h1)
  have c2 := (s.cell (show 353 < 355 by decide)).trans (congrArg some h2)
  clear s h1 h2
  go_enter Tryd.func15, Tryd.ntmps15
  go_wp2_with fail
  first | go_ret | go_ret2
  exact ⟨rfl, rfl⟩
theorem open_why (y : Nat) (w : World) (s : Bs w B D b R f h l) (h1 : f 352 = .bool false) (h2 : f 353 = .bool false) (h3 : f 354 = .int .i64 (y : Int)) (hy : y ≠ 0) : Calls Tryd.prog 15 #[.pointer (some ⟨D, 0, none⟩)] w fun e w' => e = .returned (.bool false) ∧ w = w' := by
  have c1 := (s.cell (show 352 < 355 by decide)).trans (congrArg some h1)
  have c2 := (s.cell (show 353 < 355 by decide)).trans (congrArg some h2)
  have c3 := (s.cell (show 354 < 355 by decide)).trans (congrArg some h3)
  have t : ((y : Int) == 0) = false := by rw [beq_eq_false_iff_ne]; omega
  clear s h1 h2 h3 hy
  go_enter Tryd.func15, Tryd.ntmps15
  go_wp2_with fail
  first | go_ret | go_ret2
  exact ⟨rfl, rfl⟩
end
section
variable {B D b R : Nat} {I : List Nat} {M : Nat} {c : Cfg} {q : Md}
/-- open tells whether more is wanted. -/
theorem popen_c (w : World) (h : Inf w B D b R I M c q) (t : Bool) (ht : (t = true ∧ q = .want) ∨ (t = false ∧ q ≠ .want)) : Calls Tryd.prog 15 #[.pointer (some ⟨D, 0, none⟩)] w fun e w' => e = .returned (.bool t) ∧ w = w' := by
  have h2 := h.2
  rcases ht with ⟨rfl, rfl⟩ | ⟨rfl, hq⟩
  · obtain ⟨f, h3⟩ := h2
    exact open_yes w h3.is_.mem h3.op
  · cases q using Md.el with
    | wait x => obtain ⟨f, h3, h4, _⟩ := h2; exact open_wait w h3.mem h4
    | want => exact absurd rfl hq
    | over =>
      obtain ⟨f, h3⟩ := h2
      obtain ⟨hh, l, s⟩ := h3.mem
      rcases h3.how with ⟨_, h4, _⟩ | ⟨y, _, h4, h5, h6⟩
      · exact open_done w s h3.waits h4
      · exact open_why y w s h3.waits h4 h5 h6
    | shut => obtain ⟨f, hh, l, s, h3, h4, h5, _⟩ := h2; exact open_why 1 w s h3 h4 h5 (by decide)
theorem put_shut (x : Nat) (w : World) (h : Inf w B D b R I M c q) (hq : q ≠ .want) : Calls Tryd.prog 8 #[.pointer (some ⟨D, 0, none⟩), .int .u8 (x : Int)] w fun e w' => e = .returned (.bool false) ∧ w = w' := by
  have ho := popen_c w h false (Or.inr ⟨rfl, hq⟩)
  clear h
  go_enter Tryd.func8, Tryd.ntmps8
  go_wp2_with (go_at_call 15; refine ho.mono ?_; rintro e2 w2 ⟨rfl, rfl⟩)
  first | go_ret | go_ret2
  exact ⟨rfl, rfl⟩
theorem end_shut (w : World) (h : Inf w B D b R I M c q) (hq : q ≠ .want) : Calls Tryd.prog 10 #[.pointer (some ⟨D, 0, none⟩)] w fun e w' => e = .returned (.tuple #[]) ∧ w = w' := by
  have ho := popen_c w h false (Or.inr ⟨rfl, hq⟩)
  clear h
  go_enter Tryd.func10, Tryd.ntmps10
  go_wp2_with (go_at_call 15; refine ho.mono ?_; rintro e2 w2 ⟨rfl, rfl⟩)
  go_end0
  exact ⟨rfl, rfl⟩
theorem end_open (w : World) (h : Inf w B D b R I M c .want) : Calls Tryd.prog 10 #[.pointer (some ⟨D, 0, none⟩)] w fun e w' => e = .returned (.tuple #[]) ∧ Inf w' B D b R I M c .shut ∧ Fm B w w' := by
  have ho := popen_c w h true (Or.inl ⟨rfl, rfl⟩)
  obtain ⟨hr, f, h3⟩ := id h
  have hst := pstop_c 1 w h3.is_.mem
  have A : Aside (Runs (allb I) M c0 c ∧ Wt w B D b R f (allb I) M c) := ⟨hr, h3⟩
  clear h hr h3
  go_enter Tryd.func10, Tryd.ntmps10
  go_wp2_with (first
    | (go_at_call 15; refine ho.mono ?_; rintro e2 w2 ⟨rfl, rfl⟩)
    | (go_at_call 18; refine hst.mono ?_; rintro e3 w3 ⟨rfl, hb3, hf3⟩))
  go_end0
  have a := A.out
  exact ⟨rfl, ⟨a.1, _, _, _, hb3, a.2.op.waits, a.2.op.done, rfl, a.2.is_.fx.fm hf3 rfl rfl, a.2.is_.tabs.below (hf3.below (by have := a.2.is_.mem.lt; omega)) a.2.is_.b7, a.2.is_.b7⟩, hf3⟩
/-- What is told of an end. -/
def doneM (q : Md) (c : Cfg) : Bool := match q with
  | .inr (some false) => endC c
  | _ => false
def whyM (q : Md) (c : Cfg) : Nat := match q with
  | .inr (some false) => whyC c
  | .inr (some true) => 1
  | _ => 0
theorem reason_c (w : World) (h : Inf w B D b R I M c q) : Calls Tryd.prog 11 #[.pointer (some ⟨D, 0, none⟩)] w fun e w' => e = .returned (.int .i64 (whyM q c : Nat)) ∧ w = w' := by
  obtain ⟨t, ht⟩ : ∃ t, whyM q c = t := ⟨_, rfl⟩
  have c3 : w.cell? ⟨D, 354, none⟩ = some (.int .i64 (t : Int)) := by
    have h2 := h.2
    cases q using Md.el with
    | wait x => obtain ⟨f, h3, _, _, h4, _⟩ := h2; rw [h3.mem.cell (show 354 < 355 by decide), h4, ← ht]; rfl
    | want => obtain ⟨f, h3⟩ := h2; rw [h3.is_.mem.cell (show 354 < 355 by decide), h3.op.why, ← ht]; rfl
    | over =>
      obtain ⟨f, h3⟩ := h2
      obtain ⟨hh, l, s⟩ := h3.mem
      rw [s.cell (show 354 < 355 by decide), ← ht]
      rcases h3.how with ⟨e, h4, h5⟩ | ⟨y, e, h4, h5, h6⟩
      · rw [h5]; unfold whyM whyC; rw [e]; rfl
      · rw [h5]; unfold whyM whyC; rw [e]
    | shut => obtain ⟨f, hh, l, s, _, _, h4, _⟩ := h2; rw [s.cell (show 354 < 355 by decide), h4, ← ht]; rfl
  rw [ht]
  clear h ht
  go_enter Tryd.func11, Tryd.ntmps11
  go_wp2_with fail
  first | go_ret | go_ret2
  exact ⟨rfl, rfl⟩
end
end Go.Proofs.YtikdpnpkmmmacabDoor

/-
  What Put, Next and New of the inflater come to.
-/
namespace Go.Proofs.YtikdpnpkmmmacabDoor
open Go.RowKit
set_option linter.unusedVariables false
theorem allb_one (x : Nat) : allb [x] = bitsOf 8 x := by simp [allb]
section
variable {B D b R : Nat} {I : List Nat} {M : Nat} {c : Cfg}
/-- What a call that goes on comes to. -/
def Goes (B D b R : Nat) (I : List Nat) (M : Nat) (c : Cfg) (w' : World) : Prop := ∃ c', Runs (allb I) M c c' ∧ ((∃ x, Inf w' B D b R I M c' (.wait x) ∧ c'.out = c.out ++ [x]) ∨ (Inf w' B D b R I M c' .over ∧ c'.out = c.out) ∨ (Inf w' B D b R I M c' .want ∧ c'.out = c.out))
set_option maxHeartbeats 1000000 in
theorem put_open (x : Nat) (hx : x < 256) (w : World) (h : Inf w B D b R I M c .want) (hm : c.out.length < M) : Calls Tryd.prog 8 #[.pointer (some ⟨D, 0, none⟩), .int .u8 (x : Int)] w fun e w' => e = .returned (.bool true) ∧ Fm B w w' ∧ Goes B D b R (I ++ [x]) M c w' := by
  have ho := popen_c w h true (Or.inl ⟨rfl, rfl⟩)
  obtain ⟨hr, f, h3⟩ := id h
  have hmem := h3.is_.mem
  have hle := h3.is_.le
  have hfew := h3.few
  have hlen : ((allb I).drop (ep c)).length ≤ 56 := by rw [List.length_drop]; omega
  have hput := put_yes b (nm ((allb I).drop (ep c))) ((allb I).drop (ep c)).length x w hmem.br hlen hx
  have hbits : nm ((allb I).drop (ep c)) + x * 2 ^ ((allb I).drop (ep c)).length = nm ((allb (I ++ [x])).drop (ep c)) ∧ ((allb I).drop (ep c)).length + 8 = ((allb (I ++ [x])).drop (ep c)).length := by
    rw [allb_append, List.drop_append_of_le_length hle, allb_one, nm_append, nm_byte x hx, List.length_append, bitsOf_length]
    exact ⟨rfl, rfl⟩
  rw [hbits.1, hbits.2] at hput
  have c0' := (hmem.cell (show 0 < 355 by decide)).trans (congrArg some hmem.c0)
  have hr2 : Runs (allb (I ++ [x])) M c0 c := runs_agree hr (by rw [allb_append]; exact Agree.append _ _ (runs_ends hr (Nat.zero_le _)))
  have hbd : Bd c.st := hr.bd trivial
  have A : Aside (Wt w B D b R f (allb I) M c ∧ Runs (allb (I ++ [x])) M c0 c ∧ Bd c.st ∧ c.out.length < M) := ⟨h3, hr2, hbd, hm⟩
  clear h hr h3 hmem hle hfew hlen hbits hr2 hbd hm
  go_enter Tryd.func8, Tryd.ntmps8
  go_upto_region 4 with (first
    | (go_at_call 15; refine ho.mono ?_; rintro e2 w2 ⟨rfl, rfl⟩)
    | (go_at_call 16; refine hput.mono ?_; rintro e3 w3 ⟨rfl, hb3, ho3⟩))
  have a := A.out
  have hf3 : Fm B w w3 := Fm.of_only ho3 (by have := a.1.is_.mem.eb; omega) (by have := a.1.is_.mem.eb; omega)
  have is3 : Is w3 B D b R f (allb (I ++ [x])) c := ⟨a.1.is_.mem.onb ho3 hb3, a.1.is_.at_.mono hf3 (fun _ _ _ _ _ => rfl), a.1.is_.fx.fm hf3 rfl rfl, a.1.is_.tabs.below (hf3.below (by have := a.1.is_.mem.lt; omega)) a.1.is_.b7, by have := a.1.is_.le; rw [allb_append, List.length_append]; omega, a.1.is_.b7⟩
  have hrun := prun_c (most := M) w3 is3 a.1.op a.2.2.2 (allb_len8 _) a.2.2.1
  have A3 : Aside (Fm B w w3) := hf3
  clear a hf3 is3 hb3 ho3 hput ho c0'
  go_wp2_with (go_at_call 17; refine hrun.mono ?_; rintro e4 w4 ⟨rfl, hf4, hto⟩)
  first | go_ret | go_ret2
  exact ⟨rfl, A3.out.trans hf4, hto.inf A.out.2.1⟩
theorem next_no {q : Md} (w : World) (h : Inf w B D b R I M c q) (hq : ∀ x, q ≠ .wait x) : Calls Tryd.prog 9 #[.pointer (some ⟨D, 0, none⟩)] w fun e w' => e = .returned (.tuple #[.int .u8 0, .bool false]) ∧ w = w' := by
  have c1 : w.cell? ⟨D, 352, none⟩ = some (.bool false) := by
    have h2 := h.2
    cases q using Md.el with
    | wait x => exact absurd rfl (hq x)
    | want => obtain ⟨f, h3⟩ := h2; exact (h3.is_.mem.cell (show 352 < 355 by decide)).trans (congrArg some h3.op.waits)
    | over => obtain ⟨f, h3⟩ := h2; obtain ⟨hh, l, s⟩ := h3.mem; exact (s.cell (show 352 < 355 by decide)).trans (congrArg some h3.waits)
    | shut => obtain ⟨f, hh, l, s, h4, _⟩ := h2; exact (s.cell (show 352 < 355 by decide)).trans (congrArg some h4)
  clear h hq
  go_enter Tryd.func9, Tryd.ntmps9
  go_wp2_with fail
  first | go_ret | go_ret2
  exact ⟨rfl, rfl⟩
set_option maxHeartbeats 1000000 in
theorem next_yes (x : Nat) (w : World) (h : Inf w B D b R I M c (.wait x)) (hm : c.out.length < M) : Calls Tryd.prog 9 #[.pointer (some ⟨D, 0, none⟩)] w fun e w' => e = .returned (.tuple #[.int .u8 (x : Int), .bool true]) ∧ Fm B w w' ∧ Goes B D b R I M c w' := by
  obtain ⟨hr, f, h3, h4, h5, h6, h7, _⟩ := id h
  have hmem := h3.mem
  have c1 := (hmem.cell (show 352 < 355 by decide)).trans (congrArg some h4)
  have c2 := (hmem.cell (show 351 < 355 by decide)).trans (congrArg some h7)
  have z1 := hmem.fz 352
  have z2 := hmem.fz 351
  have hs2 := (hmem.set 351 (.int .u8 0) (by decide)).set 352 (.bool false) (by decide)
  have hf2 : Fm B w ((w.setCell ⟨D, 351, none⟩ (.int .u8 0)).setCell ⟨D, 352, none⟩ (.bool false)) := hmem.fmD (((Only.refl D w).setCell 351 _).setCell 352 _)
  have is2 := h3.to hf2 hs2 (h3.at_.mono hf2 fun i _ hi _ _ => by rw [upd_ne _ _ (by omega), upd_ne _ _ (by omega)]) rfl rfl h3.le
  have hrun := prun_c (most := M) _ is2 ⟨upd_same _ _ _, (by rw [upd_ne _ _ (by decide), upd_ne _ _ (by decide)]; exact h5), (by rw [upd_ne _ _ (by decide), upd_ne _ _ (by decide)]; exact h6)⟩ hm (allb_len8 _) (hr.bd trivial)
  have A : Aside (Runs (allb I) M c0 c ∧ Fm B w ((w.setCell ⟨D, 351, none⟩ (.int .u8 0)).setCell ⟨D, 352, none⟩ (.bool false))) := ⟨hr, hf2⟩
  clear h hr h3 h4 h5 h6 h7 hmem hs2 hf2 is2 hm
  go_enter Tryd.func9, Tryd.ntmps9
  go_wp2_with (go_at_call 17; refine hrun.mono ?_; rintro e4 w4 ⟨rfl, hf4, hto⟩)
  first | go_ret | go_ret2
  exact ⟨rfl, A.out.2.trans hf4, hto.inf A.out.1⟩
/-- A new one wants bytes. -/
theorem want_new {w : World} {f : Nat → Value} (hs : Bs w B D b R f [] []) (h2 : f 2 = fnv D 14) (h1 : f 352 = .bool false) (h3 : f 353 = .bool false) (h4 : f 354 = .int .i64 0) (hx : Fx w B f) (ht : Tabs w) (h7 : 7 ≤ B) : Inf w B D b R [] M c0 .want := by
  refine ⟨Runs.refl _, f, ⟨hs, h2, hx, ht, Nat.zero_le _, h7⟩, ⟨h1, h3, h4⟩, by decide, c0, Runs.refl _, rfl, rfl, fun y => by simp [c0], by simp [c0]⟩
end
theorem zc73 (b R : Nat) : (Tryd.zeroCells50.setIfInBounds 0 (.pointer (some ⟨b, 0, none⟩))).setIfInBounds 1 (.pointer (some ⟨R, 0, none⟩)) = cz (nf b R (.pointer none) (.pointer none)) := by kernel_rfl
set_option maxRecDepth 100000 in
set_option maxHeartbeats 1000000 in
theorem new_i (M : Nat) (w : World) (ht : Tabs w) : Calls Tryd.prog 7 #[] w fun e w' => e = .returned (.pointer (some ⟨w.heap.size + 3, 0, none⟩)) ∧ Inf w' w.heap.size (w.heap.size + 3) (w.heap.size + 2) (w.heap.size + 1) [] M c0 .want ∧ Below w.heap.size w w' := by
  have hring := gnew_r 32768 w (by decide) (by decide)
  have AT : Aside (Tabs w) := ht
  clear ht
  obtain ⟨B, hB⟩ : ∃ B, w.heap.size = B := ⟨_, rfl⟩
  rw [hB] at hring ⊢
  have AB : Aside (w.heap.size = B) := hB
  clear hB
  go_enter Tryd.func7, Tryd.ntmps7
  go_upto_region 2 with (go_at_call 12; refine hring.mono ?_; rintro e2 w2 ⟨rfl, hr2, hb2, hz2⟩)
  have hbits := new_b w2
  rw [hz2] at hbits
  have A2 : Aside (GRg w2 (B + 1) B 32768 [] ∧ Below B w w2 ∧ w2.heap.size = B + 2) := ⟨hr2, hb2, hz2⟩
  clear hr2 hb2 hz2 hring
  obtain ⟨cs, hcs⟩ : ∃ cs, cs = cz (nf (B + 2) (B + 1) (.pointer none) (.pointer none)) := ⟨_, rfl⟩
  have hz := zc73 (B + 2) (B + 1)
  rw [← hcs] at hz
  go_upto_region 3 with (go_at_call 13; refine hbits.mono ?_; rintro e3 w3 ⟨rfl, hb3, hbel3, hz3⟩)
  have a2 := A2.out
  obtain ⟨w4, hw4⟩ : ∃ w4, w3.alloc (.cells (cz (nf (B + 2) (B + 1) (.pointer none) (.pointer none))) 50) = w4 := ⟨_, rfl⟩
  have hk4 : Cells w4 (B + 2 + 1) (cz (nf (B + 2) (B + 1) (.pointer none) (.pointer none))) 50 := by
    rw [← hw4]
    have := Cells.new w3 (cz (nf (B + 2) (B + 1) (.pointer none) (.pointer none))) 50
    rwa [hz3] at this
  have bel4 : Below w3.heap.size w3 w4 := by rw [← hw4]; exact (Below.refl _ w3).alloc (Nat.le_refl _) _
  have s4 : Bs w4 B (B + 2 + 1) (B + 2) (B + 1) (nf (B + 2) (B + 1) (.pointer none) (.pointer none)) [] [] :=
    ⟨hk4, rfl, rfl, hb3.below bel4 (by omega), (a2.1.below hbel3 (by omega) (by omega)).below bel4 (by omega) (by omega), rfl, rfl, rfl⟩
  have belA : Below B w w4 := (a2.2.1.trans (hbel3.mono (by omega))).trans (bel4.mono (by omega))
  rw [hw4]
  obtain ⟨Dd, hDd⟩ : ∃ Dd, B + 2 + 1 = Dd := ⟨_, rfl⟩
  rw [hDd] at s4 hk4 ⊢
  have d2 := s4.cell (show 2 < 355 by decide)
  have z2 := s4.fz 2
  have e2 : nf (B + 2) (B + 1) (.pointer none) (.pointer none) 2 = .nilFunc := rfl
  rw [e2] at d2
  have A4 : Aside (Bs w4 B Dd (B + 2) (B + 1) (nf (B + 2) (B + 1) (.pointer none) (.pointer none)) [] [] ∧ Below B w w4 ∧ B + 2 + 1 = Dd) := ⟨s4, belA, hDd⟩
  clear a2 hw4 hk4 bel4 s4 belA hDd e2 hb3 hbel3 hz3 hbits hz hcs
  go_wp2_with fail
  first | go_ret | go_ret2
  have a := A4.out
  have hB := AB.out
  have ht := AT.out
  have h7 : 7 ≤ B := by have := ht.lt; omega
  have s5 := a.1.set 2 (fnv Dd 14) (by decide)
  have o5 : Only Dd w4 (w4.setCell ⟨Dd, 2, none⟩ (fnv Dd 14)) := (Only.refl Dd w4).setCell 2 _
  have b5 : Below B w (w4.setCell ⟨Dd, 2, none⟩ (fnv Dd 14)) := a.2.1.trans (o5.below (by omega))
  refine ⟨by rw [← a.2.2]; rfl, ?_, b5⟩
  have hD : B + 3 = Dd := a.2.2
  rw [hD]
  exact want_new s5 (upd_same _ _ _) rfl rfl rfl (Or.inl ⟨rfl, rfl⟩) (ht.below b5 h7) h7
end Go.Proofs.YtikdpnpkmmmacabDoor

/-
  Lists of bytes of a call's own, beyond the inflater's blocks: append, and what is kept by it.
-/
namespace Go.Proofs.YtikdpnpkmmmacabDoor
open Go.RowKit
set_option linter.unusedVariables false
/-- Bytes as cells. -/
def ob (l : List Nat) : List Value := l.map fun x : Nat => Value.int .u8 (x : Int)
theorem ob_length (l : List Nat) : (ob l).length = l.length := by simp [ob]
theorem ob_get (l : List Nat) (j : Nat) : (ob l)[j]? = (l[j]?).map fun x : Nat => Value.int .u8 (x : Int) := by simp [ob]
theorem ob_append (l m : List Nat) : ob l ++ ob m = ob (l ++ m) := by simp [ob]
theorem ob_one {l : List Nat} : ∀ u ∈ ob l, u.oneCell' = true := by
  intro u hu
  obtain ⟨x, _, rfl⟩ := List.mem_map.1 hu
  rfl
/-- A list of bytes of the call's own, in a block from lo on. -/
structure Ob (w : World) (lo : Nat) (v : Value) (l : List Nat) : Prop where
  own : w.ownsRow lo 5 1 v l.length (ob l)
  le : lo ≤ w.heap.size
theorem Ob.nil {w : World} {lo : Nat} (h : lo ≤ w.heap.size) : Ob w lo (.slice none 0 0) [] := ⟨⟨rfl, Or.inl ⟨rfl, rfl⟩⟩, h⟩
theorem Ob.made {w : World} {lo : Nat} (h : lo ≤ w.heap.size) : Ob (w.alloc (.cells #[] 5)) lo (.slice (some ⟨w.heap.size, 0, none⟩) 0 0) [] :=
  ⟨World.ownsRow_made (base := lo) (e := 5) (size := 1) w #[] 0 h (by decide) rfl, by show _ ≤ (w.heap.push _).size; simp; omega⟩
theorem Ob.keep {w u : World} {lo : Nat} {v : Value} {l : List Nat} (h : Ob w lo v l) (hs : w.heap.size ≤ u.heap.size) (k : ∀ g, lo ≤ g → g < w.heap.size → u.heap[g]? = w.heap[g]?) : Ob u lo v l := by
  refine ⟨⟨h.own.1, ?_⟩, Nat.le_trans h.le hs⟩
  rcases h.own.2 with q | ⟨g, c, cur, hv, hg, hh, q⟩
  · exact Or.inl q
  · have hlt : g < w.heap.size := (Array.getElem?_eq_some_iff.1 hh).1
    exact Or.inr ⟨g, c, cur, hv, hg, (k g hg hlt).trans hh, q⟩
theorem Ob.fm {w u : World} {B lo : Nat} {v : Value} {l : List Nat} (h : Ob w lo v l) (k : Fm B w u) (hlo : B + 4 ≤ lo) : Ob u lo v l := h.keep k.size fun g h1 h2 => k.block g h2 (Or.inr (by omega))
theorem Ob.below {w u : World} {C lo : Nat} {v : Value} {l : List Nat} (h : Ob w lo v l) (k : Below C w u) (hC : w.heap.size ≤ C) : Ob u lo v l := h.keep k.size fun g h1 h2 => k.block g (by omega)
theorem Ob.drewN {w : World} {lo : Nat} {v : Value} {l : List Nat} (h : Ob w lo v l) (n : Nat) : Ob (w.drewN n) lo v l := ⟨h.own, h.le⟩
theorem Ob.drew {w : World} {lo : Nat} {v : Value} {l : List Nat} (h : Ob w lo v l) : Ob w.drew lo v l := ⟨h.own, h.le⟩
theorem Ob.shape {w : World} {lo : Nat} {v : Value} {l : List Nat} (h : Ob w lo v l) : ∃ a c, v = .slice a l.length c ∧ l.length ≤ c ∧ Lies w a l ∧ (a = none → l.length = 0 ∧ c = 0) := by
  rcases h.own.2 with ⟨hv, h0⟩ | ⟨g, c, cur, hv, hg, hh, hc, hm, hs, ht⟩
  · refine ⟨none, 0, by rw [hv, h0], by omega, Or.inl (List.eq_nil_of_length_eq_zero h0), fun _ => ⟨h0, rfl⟩⟩
  · refine ⟨_, c, hv, hc, Or.inr ⟨g, 0, rfl, fun i x hx => ?_⟩, fun h => by cases h⟩
    rw [Nat.zero_add, Cells.cell (cs := cur) (t := 5) hh]
    have hi : i < l.length := (List.getElem?_eq_some_iff.1 hx).1
    have e : (cur.toList.take (l.length * 1))[i]? = some (.int .u8 (x : Int)) := by rw [ht, ob_get, hx]; rfl
    rw [List.getElem?_take, if_pos (by omega)] at e
    simpa using e
theorem Ob.own_shape {w : World} {lo : Nat} {v : Value} {l : List Nat} (h : Ob w lo v l) : v.ownBlock = none ∨ ∃ g cur, v.ownBlock = some g ∧ lo ≤ g ∧ w.heap[g]? = some (.cells cur 5 (0, 0)) := by
  rcases h.own.2 with ⟨rfl, h0⟩ | ⟨g, c, cur, rfl, hg, hh, _⟩
  · left; rfl
  · right; exact ⟨g, cur, rfl, hg, hh⟩
/-- What an append comes to. -/
structure Ap (B lo : Nat) (w w' : World) (v' : Value) (l : List Nat) : Prop where
  ob_ : Ob w' lo v' l
  kp : Kp B w w'
  bel : Below lo w w'
theorem wpList_ob (B : Nat) (w : World) {ops : Array Oper} {rest : List Oper} {o : Oper} {a : Act} {Q : Exit → Act → World → Prop} (hgd : o.guard = none) (s x : Operand)
    (ho : o.op = .call { callee := .builtin .append, args := #[s, x], argTypes := #[22, 22] }) (lo : Nat) (v : Value) (l : List Nat) (hs : a.eval s = v) (hown : Ob w lo v l) (hB : B + 4 ≤ lo)
    (ax : Option Addr) (m : List Nat) (n c : Nat) (hnm : m.length = n) (hx : a.eval x = .slice ax n c) (hz : ax = none → n = 0 ∧ c = 0) (hl : Lies w ax m) (hlen : l.length + m.length ≤ 140737488355328)
    (h : ∀ v' w', Ap B lo w w' v' (l ++ m) → wpList Tryd.prog ops Q rest (a.put o.dst v') w') : wpList Tryd.prog ops Q (o :: rest) a w := by
  subst hnm
  obtain ⟨i0, hi, hz0, hz1, hz2⟩ := ginfo_parts ginfo5
  cases ax with
  | none =>
    obtain ⟨h1, h2⟩ := hz rfl
    have hm : m = [] := List.eq_nil_of_length_eq_zero h1
    subst hm
    subst h2
    refine wpList_append_own_none hgd s x 22 ho lo 5 i0 1 Tryd.underlying22 hi v _ _ hs hown.own hx (h v w ?_)
    rw [List.append_nil]
    exact ⟨hown, ⟨Nat.le_refl _, fun k _ => Or.inl rfl⟩, Below.refl _ _⟩
  | some ad =>
    refine wpList_append_own w hgd s x 22 ho lo 5 i0 (.int .u8 0) 1 1 Tryd.underlying22 hi hz0 hz1 hz2 rfl (by decide) v _ _ hs hown.own ad m.length c (ob m) hx (by rw [ob_length]; omega) ?_ ob_one (by unfold maxLen; omega) (by omega) hown.le ?_
    · intro j u hj
      rw [ob_get] at hj
      rcases hl with rfl | ⟨b, off, ha, hc⟩
      · simp at hj
      · cases ha
        cases hq : m[j]? with
        | none => simp [hq] at hj
        | some y =>
          simp [hq] at hj
          rw [← hj]
          have := hc j y hq
          have hadd : (⟨b, off, none⟩ : Addr).add j = ⟨b, off + j, none⟩ := by unfold Addr.add; split <;> simp_all
          rw [hadd]; exact this
    · intro v' w' h2 h3 h4
      have hb : Below lo w w' := (Below.refl lo w).grown h3 hown.le (fun k hk => by
        rcases hown.own_shape with h5 | ⟨g, cur, h5, hg, _⟩
        · rw [h5] at hk; cases hk
        · rw [h5] at hk; cases hk; exact hg)
      refine h v' w' ⟨⟨?_, Nat.le_trans hown.le h3.size⟩, ⟨h3.size, fun k hk => ?_⟩, hb⟩
      · rw [ob_append] at h2
        rw [List.length_append]; exact h2
      · by_cases e : some k = v.ownBlock
        · rcases hown.own_shape with h5 | ⟨g, cur, h5, hg, hh⟩
          · rw [h5] at e; cases e
          · rw [h5] at e
            cases e
            exact Or.inr ⟨by omega, cur, (0, 0), hh⟩
        · exact Or.inl (h3.block k hk e)
end Go.Proofs.YtikdpnpkmmmacabDoor

/-
  Where the machine stands, told of the inflater between its calls. No walk in this text.
-/
namespace Go.Proofs.YtikdpnpkmmmacabDoor
open Go.RowKit
set_option linter.unusedVariables false
theorem step_none_most {bs : List Bool} {M N : Nat} {c : Cfg} (h : step bs M c = none) : step bs N c = none := by
  obtain ⟨st, pos, out, times⟩ := c
  unfold step at *
  cases st using St.el with
  | head last => cases last <;> simp_all
  | sraw last n => cases n <;> simp_all
  | copy last lit di n d => cases n <;> simp_all
  | dfst last a b i j first => simp_all
  | sym last lit di =>
    simp only [] at h ⊢
    cases e5 : sread lit (bs.drop pos) using SR.el with
    | cut => rfl
    | bad j => rw [e5] at h; cases h
    | got s n => rw [e5] at h; simp only [] at h; split at h <;> cases h
  | done => rfl
  | bad y => rfl
  | _ => simp_all
theorem runs_le {bs : List Bool} {M N : Nat} {z : Cfg} (h : Runs bs M c0 z) (hN : N ≤ M) (hz : z.out.length ≤ N) : Runs bs N c0 z := by
  rcases runs_fewer h hN (Nat.zero_le _) (Nat.zero_le _) with ⟨q, _⟩ | ⟨e, _, _, _, _, q, _⟩
  · exact q
  · omega
theorem step_most {bs : List Bool} {N : Nat} {c d : Cfg} (h : step bs N c = some d) (hc : c.out.length ≤ N) : d.out.length ≤ N := by
  rcases step_fewer h (Nat.le_refl N) hc with ⟨_, q⟩ | ⟨_, q, b, e⟩
  · exact q
  · rw [h] at q
    have e1 := Option.some.inj q
    have e2 := congrArg Cfg.out e1
    have e3 : d.out = c.out := e2
    rw [e3]
    exact hc
theorem runs_most {bs : List Bool} {N : Nat} {c d : Cfg} (h : Runs bs N c d) (hc : c.out.length ≤ N) : d.out.length ≤ N := by
  induction h using Runs.el with
  | refl => exact hc
  | cons h1 _ ih => exact ih (step_most h1 hc)
theorem stands_most {I : List Nat} {N : Nat} {z : Cfg} (h : Stands I N z) : z.out.length ≤ N := runs_most h.1 (Nat.zero_le _)
/-- It is over. -/
def Over (c : Cfg) : Prop := c.st = .done ∨ ∃ y, c.st = .bad y
section
variable {w : World} {B D b R : Nat} {I : List Nat} {M N : Nat} {c : Cfg}
theorem Inf.stands (h : Inf w B D b R I M c .want) (hN : N ≤ M) (ho : c.out.length ≤ N) : ∃ z, Stands I N z ∧ z.out = c.out ∧ ¬ Over z := by
  obtain ⟨hr, f, h3⟩ := h
  obtain ⟨z, h4, h5, h6, h7, h8⟩ := h3.z
  refine ⟨z, ⟨runs_le (hr.trans h4) hN (by rw [h6]; exact ho), step_none_most h5⟩, h6, ?_⟩
  rintro (e | ⟨y, e⟩)
  · exact h8 e
  · exact h7 y e
theorem Inf.over_st (h : Inf w B D b R I M c .over) : Over c := by
  obtain ⟨hr, f, h3⟩ := h
  rcases h3.how with ⟨e, _⟩ | ⟨y, e, _⟩
  · exact Or.inl e
  · exact Or.inr ⟨y, e⟩
theorem Over.none {bs : List Bool} (h : Over c) : step bs N c = none := by
  unfold step
  rcases h with e | ⟨y, e⟩ <;> rw [e]
theorem Inf.stands_over (h : Inf w B D b R I M c .over) (hN : N ≤ M) (ho : c.out.length ≤ N) : Stands I N c := ⟨runs_le h.1 hN ho, h.over_st.none⟩
theorem over_pos {I : List Nat} {x : Nat} {z c : Cfg} (h : Stands I N z) (hz : ¬ Over z) (k : Stands (I ++ [x]) N c) (hc : Over c) : 8 * I.length < c.pos := by
  obtain ⟨o, _, _, e | e⟩ := h.next k
  · rw [e] at hc; exact absurd hc hz
  · exact e.1
theorem too_much {I : List Nat} {x : Nat} {z c : Cfg} (hr : Runs (allb (I ++ [x])) M c0 c) (hN : N ≤ M) (hc : N < c.out.length) (h : Stands I N z) (hz : ¬ Over z) : ∃ e, Stands (I ++ [x]) N e ∧ e.st = .bad 62 ∧ e.out = c.out.take N ∧ 8 * I.length < e.pos := by
  rcases runs_fewer hr hN (Nat.zero_le _) (Nat.zero_le _) with ⟨_, q⟩ | ⟨e, h1, h2, h3, h4, _, h6⟩
  · omega
  · have hst : Stands (I ++ [x]) N e := ⟨h1, Over.none (Or.inr ⟨62, h2⟩)⟩
    refine ⟨e, hst, h2, ?_, over_pos h hz hst (Or.inr ⟨62, h2⟩)⟩
    obtain ⟨t, ht⟩ := h4
    rw [← ht, List.take_append_of_le_length (by omega), List.take_of_length_le (by omega)]
theorem Stands.of_take {Bb : List Nat} {i : Nat} (h : Stands (Bb.take i) N c) (hc : Over c) : Stands Bb N c := by
  have := h.over (D := Bb.drop i) hc
  rwa [List.take_append_drop] at this
theorem over_at {L i : Nat} (hc : Over c) (h1 : 8 * i < c.pos) (h2 : c.pos ≤ 8 * (i + 1)) : atC L c = i := by
  unfold atC
  rcases hc with e | ⟨y, e⟩ <;> rw [e] <;> simp only [] <;> omega
theorem open_at {L : Nat} (hc : ¬ Over c) : atC L c = L ∧ whyC c = 1 ∧ endC c = false := by
  unfold atC whyC endC
  cases e : c.st using St.el <;> first | exact ⟨rfl, rfl, rfl⟩ | exact absurd (Or.inl e) hc | exact absurd (Or.inr ⟨_, e⟩) hc
end
/-- What is told, and what waits. -/
def Pd (o : List Nat) (c : Cfg) (q : Md) : Prop := (∃ x, q = .wait x ∧ c.out = o ++ [x]) ∨ ((q = .over ∨ q = .want) ∧ c.out = o)
/-- What Next told. -/
def Nx (o : List Nat) (v10 v11 : Value) (c : Cfg) (q : Md) : Prop := (∃ x : Nat, v10 = .int .u8 (x : Int) ∧ v11 = .bool true ∧ Pd (o ++ [x]) c q) ∨ (v10 = .int .u8 0 ∧ v11 = .bool false ∧ (q = .over ∨ q = .want) ∧ c.out = o)
theorem Pd.le {o : List Nat} {c : Cfg} {q : Md} (h : Pd o c q) : c.out.length ≤ o.length + 1 := by
  rcases h with ⟨x, _, e⟩ | ⟨_, e⟩ <;> rw [e]
  · simp
  · omega
section
variable {B D b R : Nat} {I : List Nat} {M : Nat} {c : Cfg} {q : Md}
theorem Goes.pd {w : World} (h : Goes B D b R I M c w) : ∃ c' q', Inf w B D b R I M c' q' ∧ Pd c.out c' q' := by
  obtain ⟨c', _, ⟨x, h1, h2⟩ | ⟨h1, h2⟩ | ⟨h1, h2⟩⟩ := h
  · exact ⟨c', _, h1, Or.inl ⟨x, rfl, h2⟩⟩
  · exact ⟨c', _, h1, Or.inr ⟨Or.inl rfl, h2⟩⟩
  · exact ⟨c', _, h1, Or.inr ⟨Or.inr rfl, h2⟩⟩
theorem next_any (w : World) (h : Inf w B D b R I M c q) (o : List Nat) (hp : Pd o c q) (hm : o.length + 1 < M) : Calls Tryd.prog 9 #[.pointer (some ⟨D, 0, none⟩)] w fun e w' => ∃ v10 v11 c' q', e = .returned (.tuple #[v10, v11]) ∧ Fm B w w' ∧ Inf w' B D b R I M c' q' ∧ Nx o v10 v11 c' q' := by
  have hle := hp.le
  rcases hp with ⟨x, rfl, e⟩ | ⟨hq, e⟩
  · refine (next_yes x w h (by omega)).mono ?_
    rintro e2 w' ⟨h1, h2, h3⟩
    obtain ⟨c', q', h4, h5⟩ := h3.pd
    rw [e] at h5
    exact ⟨_, _, c', q', h1, h2, h4, Or.inl ⟨x, rfl, rfl, h5⟩⟩
  · refine (next_no w h (fun x ex => by rcases hq with hq | hq <;> rw [hq] at ex <;> cases ex)).mono ?_
    rintro e2 w' ⟨h1, rfl⟩
    exact ⟨_, _, c, q, h1, Fm.refl _ _, h, Or.inr ⟨rfl, rfl, hq, e⟩⟩
theorem put_any (x : Nat) (hx : x < 256) (w : World) (h : Inf w B D b R I M c .want) (hm : c.out.length < M) : Calls Tryd.prog 8 #[.pointer (some ⟨D, 0, none⟩), .int .u8 (x : Int)] w fun e w' => e = .returned (.bool true) ∧ Fm B w w' ∧ ∃ c' q', Inf w' B D b R (I ++ [x]) M c' q' ∧ Pd c.out c' q' := by
  refine (put_open x hx w h hm).mono ?_
  rintro e w' ⟨h1, h2, h3⟩
  exact ⟨h1, h2, h3.pd⟩
end
end Go.Proofs.YtikdpnpkmmmacabDoor

/-
  What Whole comes to: what the machine of small steps stands at over all bytes, asked for so many.
-/
namespace Go.Proofs.YtikdpnpkmmmacabDoor
open Go.RowKit
set_option linter.unusedVariables false
/-- What Whole comes to. -/
def WhTo (Bb : List Nat) (L N : Nat) (w : World) (e : Ending) (w' : World) : Prop :=
  ∃ vo z, e = .returned (.tuple #[vo, .int .i64 ((min (atC L z + 1) L : Nat) : Int), .int .i64 (whyC z : Nat)]) ∧ Stands Bb N z ∧ Ob w' (w.heap.size + 4) vo z.out ∧ Below w.heap.size w w'
/-- Behind the loop: how many bytes were put in, what was told, how it stands. -/
def WhMid (Bb : List Nat) (L N M B D b R : Nat) (w : World) (vo v5 : Value) (wc : World) : Prop :=
  ∃ (i : Nat) (c : Cfg) (q : Md), v5 = .int .i64 (i : Int) ∧ Ob wc (B + 4) vo c.out ∧ c.out.length ≤ N ∧ Inf wc B D b R (Bb.take i) M c q ∧ Below B w wc ∧ i ≤ L ∧
    ((q = .want ∧ i = L) ∨ (q = .over ∧ 1 ≤ i ∧ 8 * (i - 1) < c.pos))
set_option maxHeartbeats 2000000 in
theorem whole_c (w : World) (ht : Tabs w) (a : Option Addr) (Bb : List Nat) (L C : Nat) (n : Int) (hB : Lies w a Bb) (hL : Bb.length = L) (hLb : L < 140737488355328) (ho : Oct Bb) (hn : n ≤ 1048576) :
    Calls Tryd.prog 4 #[.slice a L C, .int .i64 n] w fun e w' => WhTo Bb L n.toNat w e w' := by
  obtain ⟨N, hN⟩ : ∃ N, n.toNat = N := ⟨_, rfl⟩
  obtain ⟨M, hM⟩ : ∃ M, N + 3 = M := ⟨_, rfl⟩
  have hnew := new_i M w ht
  obtain ⟨B, hBe⟩ : ∃ B, w.heap.size = B := ⟨_, rfl⟩
  obtain ⟨D, hD⟩ : ∃ D, B + 3 = D := ⟨_, rfl⟩
  obtain ⟨b, hb⟩ : ∃ b, B + 2 = b := ⟨_, rfl⟩
  obtain ⟨R, hR⟩ : ∃ R, B + 1 = R := ⟨_, rfl⟩
  rw [hBe, hD, hb, hR] at hnew
  rw [hN]
  have A : Aside (Lies w a Bb ∧ Bb.length = L ∧ L < 140737488355328 ∧ Oct Bb ∧ n ≤ 1048576 ∧ n.toNat = N ∧ N + 3 = M ∧ w.heap.size = B) := ⟨hB, hL, hLb, ho, hn, hN, hM, hBe⟩
  clear hB hL hLb ho hn hN hM hBe hD hb hR ht
  go_enter Tryd.func4, Tryd.ntmps4
  go_upto_block 0 with (go_at_call 7; refine hnew.mono ?_; rintro e1 w1 ⟨rfl, hinf1, hb1⟩)
  have A1 : Aside (Inf w1 B D b R [] M c0 .want ∧ Below B w w1) := ⟨hinf1, hb1⟩
  clear hinf1 hb1 hnew
  go_cut [4, 5] (fun s4 s5 wc => WhMid Bb L N M B D b R w s4 s5 wc)
  case first =>
    go_wp2_with fail
    go_loopg [4, 5, 15] (L + 1) (fun gg s4 s5 s15 wr => ∃ i : Nat, s5 = .int .i64 (i : Int) ∧ s15 = .int .i64 (i : Int) ∧ Aside (i + gg = L + 1 ∧ ∃ c q, Ob wr (B + 4) s4 c.out ∧ c.out.length ≤ N ∧ Inf wr B D b R (Bb.take i) M c q ∧ Below B w wr ∧ i ≤ L ∧ (q = .want ∨ (q = .over ∧ 1 ≤ i ∧ 8 * (i - 1) < c.pos))))
    case atStart => exact ⟨0, rfl, rfl, by omega, c0, .want, Ob.nil A1.out.1.lt, Nat.zero_le _, A1.out.1, A1.out.2, Nat.zero_le _, Or.inl rfl⟩
    case round =>
      obtain ⟨i, rfl, rfl, hI⟩ := hrel
      obtain ⟨hig, c, q, hob, hcl, hinf, hbel, hiL, hq⟩ := hI.out
      by_cases hi : i < L
      · have a0 := A.out
        have t1 : ((i : Int) < (L : Int)) = True := eq_true (by omega)
        have t1' : (i < L) = True := eq_true hi
        have hiI : (i : Int) < 200000000000000 := by omega
        obtain ⟨x, hx⟩ : ∃ x, Bb[i]? = some x := ⟨_, List.getElem?_eq_getElem (by omega)⟩
        have hx256 : x < 256 := a0.2.2.2.1 x (List.mem_of_getElem? hx)
        obtain ⟨ab, ao, ha, hcB⟩ : ∃ ab ao, a = some ⟨ab, ao, none⟩ ∧ ∀ (j y : Nat), Bb[j]? = some y → w.cell? ⟨ab, ao + j, none⟩ = some (.int .u8 (y : Int)) := by
          rcases a0.1 with e | ⟨ab, ao, e, h⟩
          · rw [e] at hx; simp at hx
          · exact ⟨ab, ao, e, h⟩
        subst ha
        have cx0 := hcB i x hx
        have hlt := World.block_lt_of_cell? w ⟨ab, ao + i, none⟩ cx0
        have cx : wr.cell? ⟨ab, ao + i, none⟩ = some (.int .u8 (x : Int)) := (hbel.cell (p := ⟨ab, ao + i, none⟩) (by rw [← a0.2.2.2.2.2.2.2]; exact hlt)).trans cx0
        have htake : Bb.take (i + 1) = Bb.take i ++ [x] := by rw [List.take_add_one, hx]; rfl
        rcases hq with rfl | ⟨rfl, h1, h2⟩
        · obtain ⟨zi, hzi, hzo, hzn⟩ := hinf.stands (N := N) (by omega) hcl
          have hput := put_any x hx256 wr hinf (by omega)
          rw [← htake] at hput
          have AP : Aside (i + gk = L + 1 ∧ c.out.length ≤ N ∧ Below B w wr ∧ i < L ∧ Stands (Bb.take i) N zi ∧ ¬ Over zi ∧ Ob wr (B + 4) u4 c.out ∧ Bb.take (i + 1) = Bb.take i ++ [x] ∧ (Bb.take i).length = i) := ⟨hig, hcl, hbel, hi, hzi, hzn, hob, htake, by rw [List.length_take]; omega⟩
          clear hI hig hcl hbel hiL hi hob hinf htake hx256 hx hcB cx0 hlt hzi hzo hzn a0
          go_upto_region 7 with (go_at_call 8; refine hput.mono ?_; rintro e2 w2 ⟨rfl, hf2, c2, q2, hinf2, hpd2⟩)
          have hnx := next_any w2 hinf2 c.out hpd2 (by have := AP.out; have := A.out; omega)
          have A2 : Aside (Ob w2 (B + 4) u4 c.out ∧ Below B w w2) := ⟨AP.out.2.2.2.2.2.2.1.fm hf2 (Nat.le_refl _), AP.out.2.2.1.trans (hf2.below (by have := AP.out.2.2.1.size; have := A.out; omega))⟩
          clear hput hinf2 hpd2 hf2 cx t1 t1'
          go_wp2_with (go_at_call 9; refine hnx.mono ?_; rintro e3 w3 ⟨v10, v11, c3, q3, rfl, hf3, hinf3, hn3⟩)
          have A3 : Aside (Ob w3 (B + 4) u4 c.out ∧ Below B w w3 ∧ Inf w3 B D b R (Bb.take (i + 1)) M c3 q3 ∧ Nx c.out v10 v11 c3 q3) := ⟨A2.out.1.fm hf3 (Nat.le_refl _), A2.out.2.trans (hf3.below (by have := A2.out.2.size; have := A.out; omega)), hinf3, hn3⟩
          clear hnx hf3 hinf3 hn3
          go_loopg [4, 5, 10, 11] (N + 1 - c.out.length) (fun gg s4 s5 s10 s11 wr => s5 = .int .i64 ((i : Int) + 1) ∧ Aside (∃ o c q, Ob wr (B + 4) s4 o ∧ o.length ≤ N ∧ Inf wr B D b R (Bb.take (i + 1)) M c q ∧ Nx o s10 s11 c q ∧ Below B w wr ∧ o.length + gg = N + 1))
          case atStart => exact ⟨rfl, c.out, c3, q3, A3.out.1, AP.out.2.1, A3.out.2.2.1, A3.out.2.2.2, A3.out.2.1, by have := AP.out.2.1; omega⟩
          case round =>
            obtain ⟨rfl, hrel2⟩ := hrel
            obtain ⟨o, c5, q5, hob5, hol, hinf5, hn5, hbel5, hog⟩ := hrel2.out
            obtain ⟨va, vc, hv, hvc, hlies5, hvn⟩ := hob5.shape
            rcases hn5 with ⟨y, rfl, rfl, hpd⟩ | ⟨rfl, rfl, hq5, hc5⟩
            · obtain ⟨ln, hln⟩ : ∃ ln, o.length = ln := ⟨_, rfl⟩
              rw [hln] at hv
              subst hv
              have a0 := A.out
              by_cases hfull : n ≤ (ln : Int)
              · have t2 : (n ≤ (ln : Int)) = True := eq_true hfull
                have hlN : o.length = N := by omega
                have ap := AP.out
                have hc5o : c5.out.take N = o ∧ N < c5.out.length := by
                  rcases hpd with ⟨y2, _, e⟩ | ⟨_, e⟩
                  · rw [e, List.append_assoc, ← hlN]; simp
                  · rw [e, ← hlN]; simp
                have hr5 := hinf5.1
                rw [ap.2.2.2.2.2.2.2.1] at hr5
                obtain ⟨e, he1, he2, he3, he4⟩ := too_much hr5 (by omega) hc5o.2 ap.2.2.2.2.1 ap.2.2.2.2.2.1
                have hep := he1.pos
                rw [List.length_append, List.length_singleton, ap.2.2.2.2.2.2.2.2] at hep
                rw [ap.2.2.2.2.2.2.2.2] at he4
                have hat := over_at (L := L) (Or.inr ⟨62, he2⟩) he4 hep
                rw [← ap.2.2.2.2.2.2.2.1] at he1
                have hwy : whyC e = 62 := by unfold whyC; rw [he2]
                have AE : Aside (Stands Bb N e ∧ e.out = o ∧ atC L e = i ∧ whyC e = 62 ∧ Ob wr (B + 4) (.slice va ln vc) o ∧ Below B w wr ∧ w.heap.size = B ∧ i < L) := ⟨he1.of_take (Or.inr ⟨62, he2⟩), by rw [he3]; exact hc5o.1, hat, hwy, hob5, hbel5, a0.2.2.2.2.2.2.2, ap.2.2.2.1⟩
                clear hrel2 hob5 hol hinf5 hbel5 hog hlies5 hpd a0 ap hc5o hr5 he1 he2 he3 he4 hep hat hwy hlN hfull hvc hvn
                go_wp2_with fail
                go_ret3
                have ae := AE.out
                refine ⟨.slice va ln vc, e, ?_, ae.1, ?_, ?_⟩
                · rw [ae.2.2.1, ae.2.2.2.1, show min (i + 1) L = i + 1 by omega]
                  rfl
                · rw [ae.2.1, ae.2.2.2.2.2.2.1]; exact ae.2.2.2.2.1
                · rw [ae.2.2.2.2.2.2.1]; exact ae.2.2.2.2.2.1
              · have t2 : (n ≤ (ln : Int)) = False := eq_false hfull
                have hlN : o.length < N := by omega
                obtain ⟨H, hH⟩ : ∃ H, wr.heap.size = H := ⟨_, rfl⟩
                have bal : Below wr.heap.size wr (wr.alloc (.cells #[.int .u8 (y : Int)] 5)) := (Below.refl _ wr).alloc (Nat.le_refl _) _
                have hobA := hob5.below bal (Nat.le_refl _)
                have hlA : Lies (wr.alloc (.cells #[.int .u8 (y : Int)] 5)) (some ⟨H, 0, none⟩) [y] := Or.inr ⟨H, 0, rfl, fun k z hz => by
                  have hk : k = 0 := by have := (List.getElem?_eq_some_iff.1 hz).1; simp at this; exact this
                  subst hk
                  cases hz
                  rw [← hH, Nat.zero_add, (Cells.new wr #[.int .u8 (y : Int)] 5).cell 0]
                  rfl⟩
                have AQ : Aside (Inf wr B D b R (Bb.take (i + 1)) M c5 q5 ∧ Below B w wr ∧ o.length + gk = N + 1 ∧ Pd (o ++ [y]) c5 q5 ∧ o.length < N ∧ o.length = ln ∧ Kp B wr (wr.alloc (.cells #[.int .u8 (y : Int)] 5)) ∧ Below B wr (wr.alloc (.cells #[.int .u8 (y : Int)] 5))) := ⟨hinf5, hbel5, hog, hpd, hlN, hln, Kp.of_below bal (Nat.le_refl _), bal.mono (by have := hbel5.size; omega)⟩
                have hlnb : ln + 1 ≤ 140737488355328 := by omega
                have AL : Aside (o.length + 1 ≤ 140737488355328) := (show o.length + 1 ≤ 140737488355328 by omega)
                clear hrel2 hob5 hol hinf5 hbel5 hog hlies5 hpd a0 bal hlN hfull hvc hvn hlnb
                go_upto_region 9 with (at_builtin; refine wpList_ob B _ rfl (.tmp 42) (.tmp 44) rfl (B + 4) (.slice va ln vc) o (by rfl) hobA (Nat.le_refl _) (some ⟨H, 0, none⟩) [y] 1 1 rfl (by rfl) (by intro h; cases h) hlA AL.out ?_; intro v6 w6 hap)
                have aq := AQ.out
                have hinf6 := (aq.1.kp aq.2.2.2.2.2.2.1).kp hap.kp
                have hnx6 := next_any w6 hinf6 (o ++ [y]) aq.2.2.2.1 (by have := A.out; rw [List.length_append, List.length_singleton]; omega)
                have A6 : Aside (Ob w6 (B + 4) v6 (o ++ [y]) ∧ Below B w w6) := ⟨hap.ob_, (aq.2.1.trans aq.2.2.2.2.2.2.2).trans (hap.bel.mono (by omega))⟩
                clear aq hinf6 hap hobA hlA
                go_wp2_with (go_at_call 9; refine hnx6.mono ?_; rintro e7 w7 ⟨x10, x11, c7, q7, rfl, hf7, hinf7, hn7⟩)
                have aq := AQ.out
                have a6 := A6.out
                go_roundg (N + 1 - (ln + 1))
                case measure => omega
                case rel => exact ⟨rfl, o ++ [y], c7, q7, a6.1.fm hf7 (Nat.le_refl _), by rw [List.length_append, List.length_singleton]; omega, hinf7, hn7, a6.2.trans (hf7.below (by have := a6.2.size; have := A.out; omega)), by rw [List.length_append, List.length_singleton]; omega⟩
            · have ap := AP.out
              have hnx : q5 = .want ∨ (q5 = .over ∧ 1 ≤ i + 1 ∧ 8 * (i + 1 - 1) < c5.pos) := by
                rcases hq5 with rfl | rfl
                · refine Or.inr ⟨rfl, by omega, ?_⟩
                  have h1 := hinf5.stands_over (N := N) (by have := A.out; omega) (by rw [hc5]; exact hol)
                  rw [ap.2.2.2.2.2.2.2.1] at h1
                  have h2 := over_pos ap.2.2.2.2.1 ap.2.2.2.2.2.1 h1 hinf5.over_st
                  rw [ap.2.2.2.2.2.2.2.2] at h2
                  exact h2
                · exact Or.inl rfl
              have AZ : Aside (∃ c q, Ob wr (B + 4) u4 c.out ∧ c.out.length ≤ N ∧ Inf wr B D b R (Bb.take (i + 1)) M c q ∧ Below B w wr ∧ i + 1 ≤ L ∧ (q = .want ∨ (q = .over ∧ 1 ≤ i + 1 ∧ 8 * (i + 1 - 1) < c.pos))) := ⟨c5, q5, by rw [hc5]; exact hob5, by rw [hc5]; exact hol, hinf5, hbel5, ap.2.2.2.1, hnx⟩
              clear hrel2 hob5 hol hinf5 hbel5 hog hlies5 hvc hvn ap hnx hq5 hc5 hv
              go_wp2_with fail
              have ap := AP.out
              go_roundg (L + 1 - (i + 1))
              case measure => omega
              case rel => exact ⟨i + 1, by go_num, by go_num, by omega, AZ.out⟩
        · have hput := put_shut x wr hinf (by simp)
          have AP : Aside (WhMid Bb L N M B D b R w u4 (.int .i64 (i : Int)) wr) := ⟨i, c, .over, rfl, hob, hcl, hinf, hbel, hiL, Or.inr ⟨rfl, h1, h2⟩⟩
          clear hI hig hcl hbel hiL hi hob hinf htake hx256 hx hcB cx0 hlt a0 h1 h2
          go_wp2_with (go_at_call 8; refine hput.mono ?_; rintro e2 w2 ⟨rfl, rfl⟩)
          go_meet
          case rel => exact AP.out
      · have hiL' : i = L := by omega
        have AP : Aside (WhMid Bb L N M B D b R w u4 (.int .i64 (i : Int)) wr) := ⟨i, c, q, rfl, hob, hcl, hinf, hbel, hiL, by
          rcases hq with rfl | hq
          · exact Or.inl ⟨rfl, hiL'⟩
          · exact Or.inr hq⟩
        have t1 : ((i : Int) < (L : Int)) = False := eq_false (by omega)
        have t1' : (i < L) = False := eq_false hi
        clear hI hig hcl hbel hiL hi hob hinf hq hiL'
        go_wp2_with fail
        go_meet
        case rel => exact AP.out
  case rest =>
    obtain ⟨i, c, q, rfl, hob, hcl, hinf, hbel, hiL, hq⟩ := hcut
    have a0 := A.out
    rcases hq with ⟨rfl, rfl⟩ | ⟨rfl, h1, h2⟩
    · have hend := end_open wc hinf
      obtain ⟨z, hz1, hz2, hz3⟩ := hinf.stands (N := N) (by omega) hcl
      have hop := open_at (L := i) hz3
      rw [show Bb.take i = Bb by rw [List.take_of_length_le]; omega] at hz1
      have AE : Aside (Ob wc (B + 4) u4 c.out ∧ Below B w wc ∧ Stands Bb N z ∧ z.out = c.out ∧ atC i z = i ∧ whyC z = 1 ∧ w.heap.size = B ∧ B + 4 ≤ wc.heap.size) := ⟨hob, hbel, hz1, hz2, hop.1, hop.2.1, a0.2.2.2.2.2.2.2, hinf.lt⟩
      obtain ⟨va, vc, hv, _⟩ := hob.shape
      clear hob hcl hinf hbel hiL hz1 hz2 hz3 hop a0
      subst hv
      go_wp2_with (first
        | (go_at_call 10; refine hend.mono ?_; rintro e2 w2 ⟨rfl, hinf2, hf2⟩
           have hre := reason_c w2 hinf2)
        | (go_at_call 11; refine hre.mono ?_; rintro e3 w3 ⟨rfl, rfl⟩))
      go_ret3
      have ae := AE.out
      refine ⟨.slice va c.out.length vc, z, ?_, ae.2.2.1, ?_, ?_⟩
      · rw [ae.2.2.2.2.1, ae.2.2.2.2.2.1, show min (i + 1) i = i by omega]
        rfl
      · rw [ae.2.2.2.1, ae.2.2.2.2.2.2.1]; exact ae.1.fm hf2 (Nat.le_refl _)
      · rw [ae.2.2.2.2.2.2.1]; exact ae.2.1.trans (hf2.below (by omega))
    · have hend := end_shut wc hinf (by simp)
      have hre := reason_c wc hinf
      have hst := hinf.stands_over (N := N) (by omega) hcl
      have hov := hinf.over_st
      have hpos := hst.pos
      rw [List.length_take] at hpos
      obtain ⟨i', rfl⟩ : ∃ i', i = i' + 1 := ⟨i - 1, by omega⟩
      have hat := over_at (L := L) hov (i := i') (by omega) (by omega)
      have AE : Aside (Ob wc (B + 4) u4 c.out ∧ Below B w wc ∧ Stands Bb N c ∧ atC L c = i' ∧ w.heap.size = B ∧ i' + 1 ≤ L) := ⟨hob, hbel, hst.of_take hov, hat, a0.2.2.2.2.2.2.2, hiL⟩
      obtain ⟨va, vc, hv, _⟩ := hob.shape
      have hwy : whyM .over c = whyC c := rfl
      rw [hwy] at hre
      obtain ⟨y, hy⟩ : ∃ y, whyC c = y := ⟨_, rfl⟩
      rw [hy] at hre
      have AY : Aside (whyC c = y) := hy
      clear hob hcl hinf hbel hiL hst hov hpos hat a0 h1 h2 hwy hy
      subst hv
      go_wp2_with (first
        | (go_at_call 10; refine hend.mono ?_; rintro e2 w2 ⟨rfl, rfl⟩)
        | (go_at_call 11; refine hre.mono ?_; rintro e3 w3 ⟨rfl, rfl⟩))
      go_ret3
      have ae := AE.out
      refine ⟨.slice va c.out.length vc, c, ?_, ae.2.2.1, ?_, ?_⟩
      · rw [ae.2.2.2.1, AY.out, show min (i' + 1) L = i' + 1 by omega]
        rfl
      · rw [ae.2.2.2.2.1]; exact ae.1
      · rw [ae.2.2.2.2.1]; exact ae.2.1
end Go.Proofs.YtikdpnpkmmmacabDoor

/-
  What the law's first look comes to: the document's example.
-/
namespace Go.Proofs.YtikdpnpkmmmacabDoor
open Go.RowKit
set_option linter.unusedVariables false
def iter (bs : List Bool) (most : Nat) : Nat → Cfg → Cfg
  | 0, c => c
  | k + 1, c => match step bs most c with
    | some d => iter bs most k d
    | none => c
theorem runs_iter {bs : List Bool} {most : Nat} : ∀ (k : Nat) (c : Cfg), Runs bs most c (iter bs most k c)
  | 0, c => Runs.refl c
  | k + 1, c => by
    unfold iter
    cases e : step bs most c with
    | none => exact Runs.refl c
    | some d => exact Runs.cons e (runs_iter k d)
def exA : List Nat := [75, 76, 74, 6, 0, 9]
theorem exA_iter : iter (allb exA) 99 12 c0 = ⟨.done, 34, [97, 98, 99], [1, 2, 3]⟩ := by kernel_rfl
theorem exA_st : Stands exA 99 ⟨.done, 34, [97, 98, 99], [1, 2, 3]⟩ := ⟨by have := runs_iter (bs := allb exA) (most := 99) 12 c0; rwa [exA_iter] at this, rfl⟩
set_option maxHeartbeats 1000000 in
theorem awake_c (w : World) (ht : Tabs w) : Calls Tryd.prog 6 #[] w fun e w' => e = .returned (.bool true) ∧ Below w.heap.size w w' := by
  obtain ⟨w1, hw1⟩ : ∃ w1, w1 = w.alloc (.cells #[.int .u8 75, .int .u8 76, .int .u8 74, .int .u8 6, .int .u8 0, .int .u8 9] 5) := ⟨_, rfl⟩
  have b1 : Below w.heap.size w w1 := by rw [hw1]; exact (Below.refl _ w).alloc (Nat.le_refl _) _
  have hl : Lies w1 (some ⟨w.heap.size, 0, none⟩) exA := Or.inr ⟨w.heap.size, 0, rfl, fun i x hx => by
    rw [Nat.zero_add, hw1, (Cells.new w _ 5).cell]
    match i, hx with
    | 0, hx => cases hx; rfl
    | 1, hx => cases hx; rfl
    | 2, hx => cases hx; rfl
    | 3, hx => cases hx; rfl
    | 4, hx => cases hx; rfl
    | 5, hx => cases hx; rfl⟩
  have hwh := whole_c w1 (ht.below b1 (by have := ht.lt; omega)) (some ⟨w.heap.size, 0, none⟩) exA 6 6 99 hl rfl (by decide) (by unfold Oct exA; decide) (by decide)
  have A1 : Aside (Below w.heap.size w w1) := b1
  rw [hw1] at hwh
  clear b1 hl ht
  go_enter Tryd.func6, Tryd.ntmps6
  go_upto_region 2 with (go_at_call 4; refine hwh.mono ?_; rintro e2 w2 ⟨vo, z, he, hz, hob, hb2⟩
                         have hz2 := hz.one exA_st
                         subst hz2
                         obtain rfl := (show e2 = .returned (.tuple #[vo, .int .i64 5, .int .i64 0]) from he))
  rw [← hw1] at hob hb2
  obtain ⟨va, vc, hv, hvc, hlies, hvn⟩ := hob.shape
  obtain ⟨g, off, hva⟩ : ∃ g off, va = some ⟨g, off, none⟩ := by
    rcases hlies with e | ⟨g, off, e, _⟩
    · cases e
    · exact ⟨g, off, e⟩
  subst hva
  have hconv : (convert 22 9 (.slice (some ⟨g, off, none⟩) 3 vc)).run Tryd.prog w2 = .ok (.string ⟨#[97, 98, 99]⟩) w2 := by
    refine run_convert_bytes_back w2 22 9 5 ⟨g, off, none⟩ vc [97, 98, 99] Tryd.underlying22 Tryd.underlying5 Tryd.underlying9 fun j hj => ?_
    rcases hlies with e | ⟨g', off', e, hc⟩
    · cases e
    · cases e
      have hadd : (⟨g, off, none⟩ : Addr).add j = ⟨g, off + j, none⟩ := by unfold Addr.add; split <;> simp_all
      rw [hadd]
      match j, hj with
      | 0, _ => exact hc 0 97 rfl
      | 1, _ => exact hc 1 98 rfl
      | 2, _ => exact hc 2 99 rfl
  have A2 : Aside (Below w.heap.size w w2) := A1.out.trans (hb2.mono A1.out.size)
  have hv' : vo = .slice (some ⟨g, off, none⟩) 3 vc := hv
  subst hv'
  clear hob hb2 hvc hlies hvn hz hwh hw1
  go_wp2_with fail
  first | go_ret | go_ret2
  exact ⟨rfl, A2.out⟩
end Go.Proofs.YtikdpnpkmmmacabDoor

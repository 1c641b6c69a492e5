/-
  Own texts of this seat, one behind the other: what each says stands ahead of it.
-/
import Derived.Test.YtogednaamndpgaaGreatDoorMg
import Derived.Test.YtogednaamndpgaaGreatDoorMh
import Derived.Test.YtogednaamndpgaaGreatDoorMi
import Derived.OwnWalk
import Derived.Laws.AppendOwn
import Derived.Laws.AppendOwnNone
import Derived.Test.YtogednaamndpgaaGreatDoorMe
import Derived.WalkKit
/-
  What a run of steps comes to: up to a byte, an end, or more bits that are wanted.
-/
namespace Go.Proofs.YtogednaamndpgaaGreatDoor
open Go.RowKit
set_option linter.unusedVariables false
def Bd : St → Prop
  | .inl (.inl (.inr (.inl (_, l)))) => l < 65536
  | .inl (.inl (.inr (.inr (_, m)))) => m < 65536
  | .inr (.inl (.inl (.inr (_, _, _, s)))) => 257 ≤ s ∧ s ≤ 285
  | .inr (.inl (.inr (.inl (_, _, _, m)))) => m < 65536
  | .inr (.inl (.inr (.inr (_, _, _, m, _)))) => m < 65536
  | .inr (.inr (.inl (.inl (_, _, _, m, _)))) => m < 65536
  | _ => True
theorem num_lt2 {bs : List Bool} {p n v : Nat} (h : num? bs p n = some v) : v < 2 ^ n := by
  unfold num? at h
  split at h
  · cases h; exact nm_take_lt _ _
  · cases h
theorem give_bd {most : Nat} {k : St} {b p : Nat} {c : Cfg} (h : Bd k) : Bd (give most k b p c).st := by
  unfold give
  split
  · exact h
  · trivial
theorem step_bd {bs : List Bool} {most : Nat} {c d : Cfg} (h : step bs most c = some d) (hc : Bd c.st) : Bd d.st := by
  obtain ⟨st, pos, out, times⟩ := c
  unfold step at h
  cases st using St.el with
  | head last =>
    cases last with
    | true => simp only [Option.some.injEq] at h; rw [← h]; trivial
    | false =>
      simp only [Option.map_eq_some_iff] at h
      obtain ⟨v, hv, rfl⟩ := h
      show Bd (match v / 2 with
        | 0 => St.slen (v % 2 == 1)
        | 1 => .sym (v % 2 == 1) fixL fixD
        | 2 => .dnum (v % 2 == 1)
        | _ => .bad 10)
      split <;> trivial
  | slen last =>
    simp only [Option.map_eq_some_iff] at h
    obtain ⟨v, hv, rfl⟩ := h
    exact num_lt2 hv
  | snot last l =>
    simp only [Option.map_eq_some_iff] at h
    obtain ⟨v, hv, rfl⟩ := h
    show Bd (if l + v = 65535 then St.sraw last l else .bad 11)
    split
    · exact hc
    · trivial
  | sraw last n =>
    cases n with
    | zero => simp only [Option.some.injEq] at h; rw [← h]; trivial
    | succ n =>
      simp only [Option.map_eq_some_iff] at h
      obtain ⟨v, hv, rfl⟩ := h
      exact give_bd (show n < 65536 by have h1 : n + 1 < 65536 := hc; omega)
  | dnum last =>
    simp only [Option.map_eq_some_iff] at h
    obtain ⟨v, hv, rfl⟩ := h
    simp only []
    split <;> trivial
  | dfst last a b i j first =>
    simp only [] at h
    split at h
    · simp only [Option.map_eq_some_iff] at h
      obtain ⟨v, hv, rfl⟩ := h
      trivial
    · simp only [Option.some.injEq] at h
      rw [← h]
      simp only []
      split <;> trivial
  | dsym last a b code l =>
    simp only [] at h
    split at h
    · split at h
      · cases h
      · simp only [Option.some.injEq] at h; rw [← h]; trivial
      · simp only [Option.some.injEq] at h
        rw [← h]
        simp only []
        split
        · trivial
        · split <;> trivial
    · simp only [Option.some.injEq] at h
      rw [← h]
      simp only []
      split <;> trivial
  | drep last a b code l s =>
    simp only [Option.map_eq_some_iff] at h
    obtain ⟨v, hv, rfl⟩ := h
    simp only []
    split <;> split <;> trivial
  | sym last lit di =>
    simp only [] at h
    split at h
    · cases h
    · simp only [Option.some.injEq] at h; rw [← h]; trivial
    · rename_i s n e
      split at h
      · simp only [Option.some.injEq] at h
        rw [← h]
        exact give_bd trivial
      · simp only [Option.some.injEq] at h
        rw [← h]
        simp only []
        split
        · trivial
        · split
          · trivial
          · show 257 ≤ s ∧ s ≤ 285
            omega
  | lext last lit di s =>
    simp only [Option.map_eq_some_iff] at h
    obtain ⟨v, hv, rfl⟩ := h
    have h1 := num_lt2 hv
    have h2 : 257 ≤ s ∧ s ≤ 285 := hc
    have h3 := plmore_le (s - 257) (by omega)
    rw [show 257 + (s - 257) = s by omega] at h3
    have h4 : 2 ^ lmore s ≤ 2 ^ 5 := Nat.pow_le_pow_right (by decide) h3.1
    show lbase s + v < 65536
    omega
  | dist last lit di n =>
    simp only [] at h
    split at h
    · cases h
    · simp only [Option.some.injEq] at h; rw [← h]; trivial
    · simp only [Option.some.injEq] at h
      rw [← h]
      simp only []
      split
      · trivial
      · exact hc
  | dext last lit di n x =>
    simp only [Option.map_eq_some_iff] at h
    obtain ⟨v, hv, rfl⟩ := h
    simp only []
    split
    · trivial
    · exact hc
  | copy last lit di n d =>
    cases n with
    | zero => simp only [Option.some.injEq] at h; rw [← h]; trivial
    | succ n =>
      simp only [Option.some.injEq] at h
      rw [← h]
      exact give_bd (show n < 65536 by have h1 : n + 1 < 65536 := hc; omega)
  | done => cases h
  | bad y => cases h
theorem Runs.bd {bs : List Bool} {most : Nat} {c d : Cfg} (h : Runs bs most c d) (hc : Bd c.st) : Bd d.st := by
  induction h using Runs.el with
  | refl => exact hc
  | cons h1 _ ih => exact ih (step_bd h1 hc)
section
variable {B D b R : Nat} {f : Nat → Value} {bs : List Bool} {most : Nat}
theorem step_any (w : World) {c : Cfg} (hI : Is w B D b R f bs c) (hO : Op f) (hm : c.out.length < most) (h8 : bs.length % 8 = 0) (hb : Bd c.st) : ∃ k, f 2 = fnv D k ∧ StepOk k B D b R bs most c w ∧ (k = 41 ∨ k = 67 ∨ k = 94 ∨ k = 70 ∨ k = 101 ∨ k = 115 ∨ k = 126 ∨ k = 69 ∨ k = 100 ∨ k = 113 ∨ k = 124 ∨ k = 129) := by
  obtain ⟨st, pos, out, times⟩ := c
  have hat := hI.at_
  cases st using St.el with
  | head last =>
    cases last with
    | true => exact hat.elim
    | false => exact ⟨41, hat, block_s w hI hO h8, by decide⟩
  | slen last => exact ⟨67, hat.1, storedLength_s w hI hO, by decide⟩
  | snot last l => exact hat.elim
  | sraw last n => exact ⟨94, hat.1, storedByte_s w hI hO hm hb, by decide⟩
  | dnum last => exact ⟨70, hat.1, counts_s w hI hO, by decide⟩
  | dfst last a c k i first => exact ⟨101, hat.1, smallLength_s w hI hO, by decide⟩
  | dsym last a c code l => exact ⟨115, hat.1, codeLength_s w hI hO, by decide⟩
  | drep last a c code l s => exact ⟨126, hat.1, runOfLengths_s w hI hO, by decide⟩
  | sym last lit di => exact ⟨69, hat.1, literal_s w hI hO hm, by decide⟩
  | lext last lit di s => exact ⟨100, hat.1, lengthMore_s w hI hO, by decide⟩
  | dist last lit di n => exact ⟨113, hat.1, back_s w hI hO, by decide⟩
  | dext last lit di n x => exact ⟨124, hat.1, backMore_s w hI hO, by decide⟩
  | copy last lit di n d => exact ⟨129, hat.1, copied_s w hI hO hm hb, by decide⟩
  | done => exact hat.elim
  | bad y => exact hat.elim
def RunTo (B D b R : Nat) (bs : List Bool) (most : Nat) (c : Cfg) (w' : World) : Prop := ∃ f' c', Runs bs most c c' ∧ (Gv w' B D b R f' bs c c' ∨ (Ov w' B D b R f' c' ∧ c'.out = c.out) ∨ (Wt w' B D b R f' bs most c' ∧ c'.out = c.out))
set_option maxHeartbeats 1000000 in
theorem prun_c (w : World) {c : Cfg} (hI : Is w B D b R f bs c) (hO : Op f) (hm : c.out.length < most) (h8 : bs.length % 8 = 0) (hb : Bd c.st) : Calls Tryz.prog 74 #[.pointer (some ⟨D, 0, none⟩)] w fun e w' => e = .returned (.tuple #[]) ∧ Fm B w w' ∧ RunTo B D b R bs most c w' := by
  have A : Aside (c.out.length < most ∧ bs.length % 8 = 0 ∧ Bd c.st) := ⟨hm, h8, hb⟩
  have A0 : Aside (Is w B D b R f bs c ∧ Op f) := ⟨hI, hO⟩
  clear hm h8 hb hI hO
  go_enter Tryz.func74, Tryz.ntmps74
  go_wp2_with fail
  go_loopg [] (mu bs c) (fun gg wr => Aside (∃ f' c', Is wr B D b R f' bs c' ∧ Op f' ∧ Runs bs most c c' ∧ c'.out = c.out ∧ Fm B w wr ∧ mu bs c' = gg))
  case atStart => exact ⟨f, c, A0.out.1, A0.out.2, Runs.refl _, rfl, Fm.refl _ _, rfl⟩
  case round =>
    obtain ⟨f', c', hI, hO, hr, ho, hf, hmu⟩ := hrel.out
    obtain ⟨k, hk2, hst, hks⟩ := step_any (most := most) wr hI hO (by rw [ho]; exact A.out.1) A.out.2.1 (hr.bd A.out.2.2)
    have c2 := (hI.mem.cell (show 2 < 355 by decide)).trans (congrArg some hk2)
    unfold fnv at c2
    unfold StepOk at hst
    have A1 : Aside (Runs bs most c c' ∧ c'.out = c.out ∧ Fm B w wr ∧ mu bs c' = gk) := ⟨hr, ho, hf, hmu⟩
    clear hI hO hr ho hf hmu hk2 hrel
    rcases hks with rfl | rfl | rfl | rfl | rfl | rfl | rfl | rfl | rfl | rfl | rfl | rfl
    all_goals
      go_wp2_with (first
        | (go_at_call 41; refine hst.mono ?_; rintro e2 w2 ⟨_ | _, rfl, hf2, hres⟩)
        | (go_at_call 67; refine hst.mono ?_; rintro e2 w2 ⟨_ | _, rfl, hf2, hres⟩)
        | (go_at_call 94; refine hst.mono ?_; rintro e2 w2 ⟨_ | _, rfl, hf2, hres⟩)
        | (go_at_call 70; refine hst.mono ?_; rintro e2 w2 ⟨_ | _, rfl, hf2, hres⟩)
        | (go_at_call 101; refine hst.mono ?_; rintro e2 w2 ⟨_ | _, rfl, hf2, hres⟩)
        | (go_at_call 115; refine hst.mono ?_; rintro e2 w2 ⟨_ | _, rfl, hf2, hres⟩)
        | (go_at_call 126; refine hst.mono ?_; rintro e2 w2 ⟨_ | _, rfl, hf2, hres⟩)
        | (go_at_call 69; refine hst.mono ?_; rintro e2 w2 ⟨_ | _, rfl, hf2, hres⟩)
        | (go_at_call 100; refine hst.mono ?_; rintro e2 w2 ⟨_ | _, rfl, hf2, hres⟩)
        | (go_at_call 113; refine hst.mono ?_; rintro e2 w2 ⟨_ | _, rfl, hf2, hres⟩)
        | (go_at_call 124; refine hst.mono ?_; rintro e2 w2 ⟨_ | _, rfl, hf2, hres⟩)
        | (go_at_call 129; refine hst.mono ?_; rintro e2 w2 ⟨_ | _, rfl, hf2, hres⟩))
      · go_end0
        obtain ⟨f2, c2', hr2, h⟩ := hres
        have a1 := A1.out
        rcases h with ⟨h, _⟩ | ⟨_, h⟩ | ⟨_, h, ho2⟩ | ⟨_, h, rfl⟩
        · cases h
        · exact ⟨rfl, a1.2.2.1.trans hf2, f2, c2', a1.1.trans hr2, Or.inl ⟨h.is_, h.waits, h.done, h.why, by obtain ⟨x, h1, h2⟩ := h.out; exact ⟨x, h1, by rw [h2, a1.2.1]⟩⟩⟩
        · exact ⟨rfl, a1.2.2.1.trans hf2, f2, c2', a1.1.trans hr2, Or.inr (Or.inl ⟨h, ho2.trans a1.2.1⟩)⟩
        · exact ⟨rfl, a1.2.2.1.trans hf2, f2, _, a1.1, Or.inr (Or.inr ⟨h, a1.2.1⟩)⟩
      · obtain ⟨f2, c2', hr2, h⟩ := hres
        have a1 := A1.out
        rcases h with ⟨_, h1, h2, h3, h4⟩ | ⟨h, _⟩ | ⟨h, _⟩ | ⟨h, _⟩
        · go_roundg (mu bs c2')
          case measure => omega
          case rel => exact ⟨f2, c2', h1, h2, a1.1.trans hr2, h3.trans a1.2.1, a1.2.2.1.trans hf2, rfl⟩
        · cases h
        · cases h
        · cases h
end
end Go.Proofs.YtogednaamndpgaaGreatDoor

/-
 The inflater between its calls: what it was handed, where it stands, in which of four ways; and what its calls come to.
-/
namespace Go.Proofs.YtogednaamndpgaaGreatDoor
open Go.RowKit
set_option linter.unusedVariables false
structure Kp (B : Nat) (w u : World) : Prop where
 size : w.heap.size ≤ u.heap.size
 block : ∀ k, k < w.heap.size → u.heap[k]? = w.heap[k]? ∨ (B + 4 ≤ k ∧ ∃ cs fr, w.heap[k]? = some (.cells cs 5 fr))
theorem Kp.of_below {B C : Nat} {w u : World} (h : Below C w u) (hC : w.heap.size ≤ C) : Kp B w u := ⟨h.size, fun k hk => Or.inl (h.block k (by omega))⟩
theorem Kp.drawn {B : Nat} {w u : World} (h : Drawn w u) : Kp B w u := by
 obtain ⟨n, rfl⟩ := h
 exact ⟨Nat.le_refl _, fun k hk => Or.inl rfl⟩
theorem Tbl.kp {w u : World} {B : Nat} {v : Value} {ls : List Nat} (h : Tbl w B v ls) (k : Kp B w u) : Tbl u B v ls := by
 obtain ⟨lo, hi, T, h1, h2, h3, ⟨g, M, n, q, a1, a2, a3, a4, a5, a6, a7⟩, h5⟩ := h
 have e1 : u.heap[T]? = w.heap[T]? := by
  rcases k.block T (by omega) with e | ⟨_, cs, fr, e⟩
  ·exact e
  ·have := q.t; unfold Cells at this; rw [this] at e; cases e
 have e2 : u.heap[g]? = w.heap[g]? := by
  rcases k.block g (by omega) with e | ⟨_, cs, fr, e⟩
  ·exact e
  ·obtain ⟨cs', hc, _⟩ := q.c; unfold Cells at hc; rw [hc] at e; cases e
 have e3 : u.heap[M]? = w.heap[M]? := by
  rcases k.block M (by omega) with e | ⟨_, cs, fr, e⟩
  ·exact e
  ·obtain ⟨G, ⟨D, ⟨es, cl, hb, _⟩, _⟩, _⟩ := q.m; rw [hb] at e; cases e
 exact ⟨lo, hi, T, h1, h2, Nat.le_trans h3 k.size, ⟨g, M, n, q.heap e1 e2 e3, a1, a2, a3, a4, a5, a6, a7⟩, h5⟩
section
variable {w u : World} {B D b R : Nat} {f : Nat → Value} {bs : List Bool} {most : Nat}
theorem Bs.kp {h : List Bool} {l : List Int} (s : Bs w B D b R f h l) (k : Kp B w u) : Bs u B D b R f h l := by
 have := s.lt
 refine s.keep fun i h1 h2 => ?_
 rcases k.block i (by omega) with e | ⟨h3, _⟩
 ·exact e
 ·omega
theorem Fx.kp (h : Fx w B f) (k : Kp B w u) : Fx u B f := by
 rcases h with h | ⟨h, h'⟩
 ·exact Or.inl h
 ·exact Or.inr ⟨h.kp k, h'.kp k⟩
theorem Kp.below (k : Kp B w u) (hos : u.os = w.os) (ht : u.tape = w.tape) (ho : u.output = w.output) (hB : B ≤ w.heap.size) : Below B w u := ⟨hos, ht, ho, k.size, fun i hi => by
 rcases k.block i (by omega) with e | ⟨h3, _⟩
 ·exact e
 ·omega⟩
theorem Tabs.kp (h : Tabs w) (k : Kp B w u) (hB : 8 ≤ B) (hs : B ≤ w.heap.size) : Tabs u := by
 have hc : ∀ p : Addr, p.block < 8 → u.cell? p = w.cell? p := fun p hp => World.cell?_of_block (w := w) (by
  rcases k.block p.block (by omega) with e | ⟨h3, _⟩
  ·exact e
  ·omega)
 exact ⟨fun i hi => (hc ⟨1, i, none⟩ (show 1 < 8 by decide)).trans (h.t0 i hi), fun i hi => (hc ⟨2, i, none⟩ (show 2 < 8 by decide)).trans (h.t1 i hi), fun i hi => (hc ⟨3, i, none⟩ (show 3 < 8 by decide)).trans (h.t2 i hi), fun i hi => (hc ⟨4, i, none⟩ (show 4 < 8 by decide)).trans (h.t3 i hi), fun i hi => (hc ⟨5, i, none⟩ (show 5 < 8 by decide)).trans (h.t4 i hi), fun i hi => (hc ⟨6, i, none⟩ (show 6 < 8 by decide)).trans (h.t5 i hi), fun i hi => (hc ⟨7, i, none⟩ (show 7 < 8 by decide)).trans (h.t6 i hi)⟩
theorem Pl.kp {a c : Nat} {code l : List Nat} (h : Pl w B f a c code l) (k : Kp B w u) : Pl u B f a c code l := ⟨h.a1, h.a2, h.b1, h.b2, h.c8, h.c9, h.have_, h.len, h.row, h.tbl.kp k, h.code⟩
theorem At.kp {n : Nat} {st : St} (h : At w B D f n st) (k : Kp B w u) : At u B D f n st := by
 cases st using St.el with
 | head last => cases last <;> exact h
 | dsym last a b code l => exact ⟨h.1, h.2.1, h.2.2.kp k⟩
 | drep last a b code l s => exact ⟨h.1, h.2.1, h.2.2.1.kp k, h.2.2.2⟩
 | sym last lit di => exact ⟨h.1, h.2.1, h.2.2.1.kp k, h.2.2.2.kp k⟩
 | lext last lit di s => exact ⟨h.1, h.2.1, h.2.2.1.kp k, h.2.2.2.1.kp k, h.2.2.2.2⟩
 | dist last lit di m => exact ⟨h.1, h.2.1, h.2.2.1.kp k, h.2.2.2.1.kp k, h.2.2.2.2⟩
 | dext last lit di m x => exact ⟨h.1, h.2.1, h.2.2.1.kp k, h.2.2.2.1.kp k, h.2.2.2.2⟩
 | copy last lit di m d => exact ⟨h.1, h.2.1, h.2.2.1.kp k, h.2.2.2.1.kp k, h.2.2.2.2⟩
 | _ => exact h
theorem Is.kp {c : Cfg} (h : Is w B D b R f bs c) (k : Kp B w u) : Is u B D b R f bs c :=
 ⟨h.mem.kp k, h.at_.kp k, h.fx.kp k, h.tabs.kp k h.b7 (by have := h.mem.lt; omega), h.le, h.b7⟩
theorem Ov.kp {c : Cfg} (h : Ov w B D b R f c) (k : Kp B w u) : Ov u B D b R f c := by
 obtain ⟨hh, l, s⟩ := h.mem
 exact ⟨⟨hh, l, s.kp k⟩, h.waits, h.how, h.fx.kp k, h.tabs.kp k h.b7 (by have := s.lt; omega), h.b7⟩
end
def c0 : Cfg := ⟨.head false, 0, [], []⟩
abbrev Md := Nat ⊕ Option Bool
abbrev Md.wait (x : Nat) : Md := .inl x
abbrev Md.want : Md := .inr none
abbrev Md.over : Md := .inr (some false)
abbrev Md.shut : Md := .inr (some true)
theorem Md.el {motive : Md → Prop} (q : Md) (wait : ∀ x, motive (.wait x)) (want : motive .want) (over : motive .over) (shut : motive .shut) : motive q :=
 match q with
 | .inl x => wait x
 | .inr none => want
 | .inr (some false) => over
 | .inr (some true) => shut
def Inf (w : World) (B D b R : Nat) (I : List Nat) (M : Nat) (c : Cfg) (q : Md) : Prop := Runs (allb I) M c0 c ∧ match q with
 | .inl x => ∃ f, Is w B D b R f (allb I) c ∧ f 352 = .bool true ∧ f 353 = .bool false ∧ f 354 = .int .i64 0 ∧ f 351 = .int .u8 (x : Int) ∧ ∃ p, c.out = p ++ [x]
 | .inr none => ∃ f, Wt w B D b R f (allb I) M c
 | .inr (some false) => ∃ f, Ov w B D b R f c
 | .inr (some true) => ∃ f h l, Bs w B D b R f h l ∧ f 352 = .bool false ∧ f 353 = .bool false ∧ f 354 = .int .i64 1 ∧ Fx w B f ∧ Tabs w ∧ 8 ≤ B
section
variable {w u : World} {B D b R : Nat} {I : List Nat} {M : Nat} {c : Cfg} {q : Md}
theorem Inf.kp (h : Inf w B D b R I M c q) (k : Kp B w u) : Inf u B D b R I M c q := by
 refine ⟨h.1, ?_⟩
 have h2 := h.2
 cases q using Md.el with
 | wait x =>
  obtain ⟨f, h3, h4⟩ := h2
  exact ⟨f, h3.kp k, h4⟩
 | want =>
  obtain ⟨f, h3⟩ := h2
  exact ⟨f, h3.is_.kp k, h3.op, h3.few, h3.z⟩
 | over =>
  obtain ⟨f, h3⟩ := h2
  exact ⟨f, h3.kp k⟩
 | shut =>
  obtain ⟨f, h, l, h3, h4, h5, h6, h7, h8, h9⟩ := h2
  exact ⟨f, h, l, h3.kp k, h4, h5, h6, h7.kp k, h8.kp k h9 (by have := h3.lt; omega), h9⟩
theorem Inf.mem (h : Inf w B D b R I M c q) : ∃ f hh l, Bs w B D b R f hh l ∧ Fx w B f ∧ Tabs w ∧ 8 ≤ B := by
 have h2 := h.2
 cases q using Md.el with
 | wait x => obtain ⟨f, h3, _⟩ := h2; exact ⟨f, _, _, h3.mem, h3.fx, h3.tabs, h3.b7⟩
 | want => obtain ⟨f, h3⟩ := h2; exact ⟨f, _, _, h3.is_.mem, h3.is_.fx, h3.is_.tabs, h3.is_.b7⟩
 | over => obtain ⟨f, h3⟩ := h2; obtain ⟨hh, l, s⟩ := h3.mem; exact ⟨f, hh, l, s, h3.fx, h3.tabs, h3.b7⟩
 | shut => obtain ⟨f, hh, l, h3, _, _, _, h4, h5, h6⟩ := h2; exact ⟨f, hh, l, h3, h4, h5, h6⟩
theorem Inf.lt (h : Inf w B D b R I M c q) : B + 4 ≤ w.heap.size := by obtain ⟨f, hh, l, s, _⟩ := h.mem; exact s.lt
theorem allb_len8 (I : List Nat) : (allb I).length % 8 = 0 := by rw [allb_len]; omega
theorem RunTo.inf (h : RunTo B D b R (allb I) M c w) (hr : Runs (allb I) M c0 c) : ∃ c', Runs (allb I) M c c' ∧ ((∃ x, Inf w B D b R I M c' (.wait x) ∧ c'.out = c.out ++ [x]) ∨ (Inf w B D b R I M c' .over ∧ c'.out = c.out) ∨ (Inf w B D b R I M c' .want ∧ c'.out = c.out)) := by
 obtain ⟨f, c', h1, h2⟩ := h
 refine ⟨c', h1, ?_⟩
 rcases h2 with h2 | ⟨h2, h3⟩ | ⟨h2, h3⟩
 ·obtain ⟨x, hx, ho⟩ := h2.out
  exact Or.inl ⟨x, ⟨hr.trans h1, f, h2.is_, h2.waits, h2.done, h2.why, hx, _, ho⟩, ho⟩
 ·exact Or.inr (Or.inl ⟨⟨hr.trans h1, f, h2⟩, h3⟩)
 ·exact Or.inr (Or.inr ⟨⟨hr.trans h1, f, h2⟩, h3⟩)
end
section
variable {w : World} {B D b R : Nat} {f : Nat → Value} {h : List Bool} {l : List Int}
theorem open_yes (w : World) (s : Bs w B D b R f h l) (hO : Op f) : Calls Tryz.prog 145 #[.pointer (some ⟨D, 0, none⟩)] w fun e w' => e = .returned (.bool true) ∧ w = w' := by
 have c1 := (s.cell (show 352 < 355 by decide)).trans (congrArg some hO.waits)
 have c2 := (s.cell (show 353 < 355 by decide)).trans (congrArg some hO.done)
 have c3 := (s.cell (show 354 < 355 by decide)).trans (congrArg some hO.why)
 clear s hO
 go_enter Tryz.func145, Tryz.ntmps145
 go_wp2_with fail
 first | go_ret | go_ret2
 exact ⟨rfl, rfl⟩
theorem open_wait (w : World) (s : Bs w B D b R f h l) (h1 : f 352 = .bool true) : Calls Tryz.prog 145 #[.pointer (some ⟨D, 0, none⟩)] w fun e w' => e = .returned (.bool false) ∧ w = w' := by
 have c1 := (s.cell (show 352 < 355 by decide)).trans (congrArg some h1)
 clear s h1
 go_enter Tryz.func145, Tryz.ntmps145
 go_wp2_with fail
 first | go_ret | go_ret2
 exact ⟨rfl, rfl⟩
theorem open_done (w : World) (s : Bs w B D b R f h l) (h1 : f 352 = .bool false) (h2 : f 353 = .bool true) : Calls Tryz.prog 145 #[.pointer (some ⟨D, 0, none⟩)] w fun e w' => e = .returned (.bool false) ∧ w = w' := by
 have c1 := (s.cell (show 352 < 355 by decide)).trans (congrArg some h1)
 have c2 := (s.cell (show 353 < 355 by decide)).trans (congrArg some h2)
 clear s h1 h2
 go_enter Tryz.func145, Tryz.ntmps145
 go_wp2_with fail
 first | go_ret | go_ret2
 exact ⟨rfl, rfl⟩
theorem open_why (y : Nat) (w : World) (s : Bs w B D b R f h l) (h1 : f 352 = .bool false) (h2 : f 353 = .bool false) (h3 : f 354 = .int .i64 (y : Int)) (hy : y ≠ 0) : Calls Tryz.prog 145 #[.pointer (some ⟨D, 0, none⟩)] w fun e w' => e = .returned (.bool false) ∧ w = w' := by
 have c1 := (s.cell (show 352 < 355 by decide)).trans (congrArg some h1)
 have c2 := (s.cell (show 353 < 355 by decide)).trans (congrArg some h2)
 have c3 := (s.cell (show 354 < 355 by decide)).trans (congrArg some h3)
 have t : ((y : Int) == 0) = false := by rw [beq_eq_false_iff_ne]; omega
 clear s h1 h2 h3 hy
 go_enter Tryz.func145, Tryz.ntmps145
 go_wp2_with fail
 first | go_ret | go_ret2
 exact ⟨rfl, rfl⟩
end
section
variable {B D b R : Nat} {I : List Nat} {M : Nat} {c : Cfg} {q : Md}
theorem popen_c (w : World) (h : Inf w B D b R I M c q) (t : Bool) (ht : (t = true ∧ q = .want) ∨ (t = false ∧ q ≠ .want)) : Calls Tryz.prog 145 #[.pointer (some ⟨D, 0, none⟩)] w fun e w' => e = .returned (.bool t) ∧ w = w' := by
 have h2 := h.2
 rcases ht with ⟨rfl, rfl⟩ | ⟨rfl, hq⟩
 ·obtain ⟨f, h3⟩ := h2
  exact open_yes w h3.is_.mem h3.op
 ·cases q using Md.el with
  | wait x => obtain ⟨f, h3, h4, _⟩ := h2; exact open_wait w h3.mem h4
  | want => exact absurd rfl hq
  | over =>
   obtain ⟨f, h3⟩ := h2
   obtain ⟨hh, l, s⟩ := h3.mem
   rcases h3.how with ⟨_, h4, _⟩ | ⟨y, _, h4, h5, h6⟩
   ·exact open_done w s h3.waits h4
   ·exact open_why y w s h3.waits h4 h5 h6
  | shut => obtain ⟨f, hh, l, s, h3, h4, h5, _⟩ := h2; exact open_why 1 w s h3 h4 h5 (by decide)
def doneM (q : Md) (c : Cfg) : Bool := match q with
 | .inr (some false) => endC c
 | _ => false
def whyM (q : Md) (c : Cfg) : Nat := match q with
 | .inr (some false) => whyC c
 | .inr (some true) => 1
 | _ => 0
theorem pdone_c (w : World) (h : Inf w B D b R I M c q) : Calls Tryz.prog 45 #[.pointer (some ⟨D, 0, none⟩)] w fun e w' => e = .returned (.bool (doneM q c)) ∧ w = w' := by
 obtain ⟨t, ht⟩ : ∃ t, doneM q c = t := ⟨_, rfl⟩
 have c3 : w.cell? ⟨D, 353, none⟩ = some (.bool t) := by
  have h2 := h.2
  cases q using Md.el with
  | wait x => obtain ⟨f, h3, _, h4, _⟩ := h2; rw [h3.mem.cell (show 353 < 355 by decide), h4, ← ht]; rfl
  | want => obtain ⟨f, h3⟩ := h2; rw [h3.is_.mem.cell (show 353 < 355 by decide), h3.op.done, ← ht]; rfl
  | over =>
   obtain ⟨f, h3⟩ := h2
   obtain ⟨hh, l, s⟩ := h3.mem
   rw [s.cell (show 353 < 355 by decide), ← ht]
   rcases h3.how with ⟨e, h4, _⟩ | ⟨y, e, h4, h5, h6⟩
   ·rw [h4]; unfold doneM endC; rw [e]
   ·rw [h4]; unfold doneM endC; rw [e]
  | shut => obtain ⟨f, hh, l, s, _, h4, _⟩ := h2; rw [s.cell (show 353 < 355 by decide), h4, ← ht]; rfl
 rw [ht]
 clear h ht
 go_enter Tryz.func45, Tryz.ntmps45
 go_wp2_with fail
 first | go_ret | go_ret2
 exact ⟨rfl, rfl⟩
theorem reason_c (w : World) (h : Inf w B D b R I M c q) : Calls Tryz.prog 48 #[.pointer (some ⟨D, 0, none⟩)] w fun e w' => e = .returned (.int .i64 (whyM q c : Nat)) ∧ w = w' := by
 obtain ⟨t, ht⟩ : ∃ t, whyM q c = t := ⟨_, rfl⟩
 have c3 : w.cell? ⟨D, 354, none⟩ = some (.int .i64 (t : Int)) := by
  have h2 := h.2
  cases q using Md.el with
  | wait x => obtain ⟨f, h3, _, _, h4, _⟩ := h2; rw [h3.mem.cell (show 354 < 355 by decide), h4, ← ht]; rfl
  | want => obtain ⟨f, h3⟩ := h2; rw [h3.is_.mem.cell (show 354 < 355 by decide), h3.op.why, ← ht]; rfl
  | over =>
   obtain ⟨f, h3⟩ := h2
   obtain ⟨hh, l, s⟩ := h3.mem
   rw [s.cell (show 354 < 355 by decide), ← ht]
   rcases h3.how with ⟨e, h4, h5⟩ | ⟨y, e, h4, h5, h6⟩
   ·rw [h5]; unfold whyM whyC; rw [e]; rfl
   ·rw [h5]; unfold whyM whyC; rw [e]
  | shut => obtain ⟨f, hh, l, s, _, _, h4, _⟩ := h2; rw [s.cell (show 354 < 355 by decide), h4, ← ht]; rfl
 rw [ht]
 clear h ht
 go_enter Tryz.func48, Tryz.ntmps48
 go_wp2_with fail
 first | go_ret | go_ret2
 exact ⟨rfl, rfl⟩
end
end Go.Proofs.YtogednaamndpgaaGreatDoor

/-
 What Put, Next and New of the inflater come to.
-/
namespace Go.Proofs.YtogednaamndpgaaGreatDoor
open Go.RowKit
set_option linter.unusedVariables false
theorem allb_one (x : Nat) : allb [x] = bitsOf 8 x := by simp [allb]
section
variable {B D b R : Nat} {I : List Nat} {M : Nat} {c : Cfg}
def Goes (B D b R : Nat) (I : List Nat) (M : Nat) (c : Cfg) (w' : World) : Prop := ∃ c', Runs (allb I) M c c' ∧ ((∃ x, Inf w' B D b R I M c' (.wait x) ∧ c'.out = c.out ++ [x]) ∨ (Inf w' B D b R I M c' .over ∧ c'.out = c.out) ∨ (Inf w' B D b R I M c' .want ∧ c'.out = c.out))
set_option maxHeartbeats 1000000 in
theorem put_open (x : Nat) (hx : x < 256) (w : World) (h : Inf w B D b R I M c .want) (hm : c.out.length < M) : Calls Tryz.prog 144 #[.pointer (some ⟨D, 0, none⟩), .int .u8 (x : Int)] w fun e w' => e = .returned (.bool true) ∧ Fm B w w' ∧ Goes B D b R (I ++ [x]) M c w' := by
 have ho := popen_c w h true (Or.inl ⟨rfl, rfl⟩)
 obtain ⟨hr, f, h3⟩ := id h
 have hmem := h3.is_.mem
 have hle := h3.is_.le
 have hfew := h3.few
 have hlen : ((allb I).drop (ep c)).length ≤ 56 := by rw [List.length_drop]; omega
 have hput := put_yes b (nm ((allb I).drop (ep c))) ((allb I).drop (ep c)).length x w hmem.br hlen hx
 have hbits : nm ((allb I).drop (ep c)) + x * 2 ^ ((allb I).drop (ep c)).length = nm ((allb (I ++ [x])).drop (ep c)) ∧ ((allb I).drop (ep c)).length + 8 = ((allb (I ++ [x])).drop (ep c)).length := by
  rw [allb_append, List.drop_append_of_le_length hle, allb_one, nm_append, nm_byte x hx, List.length_append, bitsOf_length]
  exact ⟨rfl, rfl⟩
 rw [hbits.1, hbits.2] at hput
 have c0' := (hmem.cell (show 0 < 355 by decide)).trans (congrArg some hmem.c0)
 have hr2 : Runs (allb (I ++ [x])) M c0 c := runs_agree hr (by rw [allb_append]; exact Agree.append _ _ (runs_ends hr (Nat.zero_le _)))
 have hbd : Bd c.st := hr.bd trivial
 have A : Aside (Wt w B D b R f (allb I) M c ∧ Runs (allb (I ++ [x])) M c0 c ∧ Bd c.st ∧ c.out.length < M) := ⟨h3, hr2, hbd, hm⟩
 clear h hr h3 hmem hle hfew hlen hbits hr2 hbd hm
 go_enter Tryz.func144, Tryz.ntmps144
 go_upto_region 4 with (first
  | (go_at_call 145; refine ho.mono ?_; rintro e2 w2 ⟨rfl, rfl⟩)
  | (go_at_call 146; refine hput.mono ?_; rintro e3 w3 ⟨rfl, hb3, ho3⟩))
 have a := A.out
 have hf3 : Fm B w w3 := Fm.of_only ho3 (by have := a.1.is_.mem.eb; omega) (by have := a.1.is_.mem.eb; omega)
 have is3 : Is w3 B D b R f (allb (I ++ [x])) c := ⟨a.1.is_.mem.onb ho3 hb3, a.1.is_.at_.mono hf3 (fun _ _ _ _ _ => rfl), a.1.is_.fx.fm hf3 rfl rfl, a.1.is_.tabs.below (hf3.below (by have := a.1.is_.mem.lt; omega)) a.1.is_.b7, by have := a.1.is_.le; rw [allb_append, List.length_append]; omega, a.1.is_.b7⟩
 have hrun := prun_c (most := M) w3 is3 a.1.op a.2.2.2 (allb_len8 _) a.2.2.1
 have A3 : Aside (Fm B w w3) := hf3
 clear a hf3 is3 hb3 ho3 hput ho c0'
 go_wp2_with (go_at_call 74; refine hrun.mono ?_; rintro e4 w4 ⟨rfl, hf4, hto⟩)
 first | go_ret | go_ret2
 exact ⟨rfl, A3.out.trans hf4, hto.inf A.out.2.1⟩
theorem next_no {q : Md} (w : World) (h : Inf w B D b R I M c q) (hq : ∀ x, q ≠ .wait x) : Calls Tryz.prog 43 #[.pointer (some ⟨D, 0, none⟩)] w fun e w' => e = .returned (.tuple #[.int .u8 0, .bool false]) ∧ w = w' := by
 have c1 : w.cell? ⟨D, 352, none⟩ = some (.bool false) := by
  have h2 := h.2
  cases q using Md.el with
  | wait x => exact absurd rfl (hq x)
  | want => obtain ⟨f, h3⟩ := h2; exact (h3.is_.mem.cell (show 352 < 355 by decide)).trans (congrArg some h3.op.waits)
  | over => obtain ⟨f, h3⟩ := h2; obtain ⟨hh, l, s⟩ := h3.mem; exact (s.cell (show 352 < 355 by decide)).trans (congrArg some h3.waits)
  | shut => obtain ⟨f, hh, l, s, h4, _⟩ := h2; exact (s.cell (show 352 < 355 by decide)).trans (congrArg some h4)
 clear h hq
 go_enter Tryz.func43, Tryz.ntmps43
 go_wp2_with fail
 first | go_ret | go_ret2
 exact ⟨rfl, rfl⟩
set_option maxHeartbeats 1000000 in
theorem next_yes (x : Nat) (w : World) (h : Inf w B D b R I M c (.wait x)) (hm : c.out.length < M) : Calls Tryz.prog 43 #[.pointer (some ⟨D, 0, none⟩)] w fun e w' => e = .returned (.tuple #[.int .u8 (x : Int), .bool true]) ∧ Fm B w w' ∧ Goes B D b R I M c w' := by
 obtain ⟨hr, f, h3, h4, h5, h6, h7, _⟩ := id h
 have hmem := h3.mem
 have c1 := (hmem.cell (show 352 < 355 by decide)).trans (congrArg some h4)
 have c2 := (hmem.cell (show 351 < 355 by decide)).trans (congrArg some h7)
 have z1 := hmem.fz 352
 have z2 := hmem.fz 351
 have hs2 := (hmem.set 351 (.int .u8 0) (by decide)).set 352 (.bool false) (by decide)
 have hf2 : Fm B w ((w.setCell ⟨D, 351, none⟩ (.int .u8 0)).setCell ⟨D, 352, none⟩ (.bool false)) := hmem.fmD (((Only.refl D w).setCell 351 _).setCell 352 _)
 have is2 := h3.to hf2 hs2 (h3.at_.mono hf2 fun i _ hi _ _ => by rw [upd_ne _ _ (by omega), upd_ne _ _ (by omega)]) rfl rfl h3.le
 have hrun := prun_c (most := M) _ is2 ⟨upd_same _ _ _, (by rw [upd_ne _ _ (by decide), upd_ne _ _ (by decide)]; exact h5), (by rw [upd_ne _ _ (by decide), upd_ne _ _ (by decide)]; exact h6)⟩ hm (allb_len8 _) (hr.bd trivial)
 have A : Aside (Runs (allb I) M c0 c ∧ Fm B w ((w.setCell ⟨D, 351, none⟩ (.int .u8 0)).setCell ⟨D, 352, none⟩ (.bool false))) := ⟨hr, hf2⟩
 clear h hr h3 h4 h5 h6 h7 hmem hs2 hf2 is2 hm
 go_enter Tryz.func43, Tryz.ntmps43
 go_wp2_with (go_at_call 74; refine hrun.mono ?_; rintro e4 w4 ⟨rfl, hf4, hto⟩)
 first | go_ret | go_ret2
 exact ⟨rfl, A.out.2.trans hf4, hto.inf A.out.1⟩
theorem want_new {w : World} {f : Nat → Value} (hs : Bs w B D b R f [] []) (h2 : f 2 = fnv D 41) (h1 : f 352 = .bool false) (h3 : f 353 = .bool false) (h4 : f 354 = .int .i64 0) (hx : Fx w B f) (ht : Tabs w) (h7 : 8 ≤ B) : Inf w B D b R [] M c0 .want := by
 refine ⟨Runs.refl _, f, ⟨hs, h2, hx, ht, Nat.zero_le _, h7⟩, ⟨h1, h3, h4⟩, by decide, c0, Runs.refl _, rfl, rfl, fun y => by simp [c0], by simp [c0]⟩
end
theorem zc73 (b R : Nat) : (Tryz.zeroCells92.setIfInBounds 0 (.pointer (some ⟨b, 0, none⟩))).setIfInBounds 1 (.pointer (some ⟨R, 0, none⟩)) = cz (nf b R (.pointer none) (.pointer none)) := by kernel_rfl
set_option maxRecDepth 100000 in
set_option maxHeartbeats 1000000 in
theorem new_i (M : Nat) (w : World) (ht : Tabs w) : Calls Tryz.prog 28 #[] w fun e w' => e = .returned (.pointer (some ⟨w.heap.size + 3, 0, none⟩)) ∧ Inf w' w.heap.size (w.heap.size + 3) (w.heap.size + 2) (w.heap.size + 1) [] M c0 .want ∧ Below w.heap.size w w' := by
 have hring := gnew_r 32768 w (by decide) (by decide)
 have AT : Aside (Tabs w) := ht
 clear ht
 obtain ⟨B, hB⟩ : ∃ B, w.heap.size = B := ⟨_, rfl⟩
 rw [hB] at hring ⊢
 have AB : Aside (w.heap.size = B) := hB
 clear hB
 go_enter Tryz.func28, Tryz.ntmps28
 go_upto_region 2 with (go_at_call 39; refine hring.mono ?_; rintro e2 w2 ⟨rfl, hr2, hb2, hz2⟩)
 have hbits := new_b w2
 rw [hz2] at hbits
 have A2 : Aside (GRg w2 (B + 1) B 32768 [] ∧ Below B w w2 ∧ w2.heap.size = B + 2) := ⟨hr2, hb2, hz2⟩
 clear hr2 hb2 hz2 hring
 obtain ⟨cs, hcs⟩ : ∃ cs, cs = cz (nf (B + 2) (B + 1) (.pointer none) (.pointer none)) := ⟨_, rfl⟩
 have hz := zc73 (B + 2) (B + 1)
 rw [← hcs] at hz
 go_upto_region 3 with (go_at_call 40; refine hbits.mono ?_; rintro e3 w3 ⟨rfl, hb3, hbel3, hz3⟩)
 have a2 := A2.out
 obtain ⟨w4, hw4⟩ : ∃ w4, w3.alloc (.cells (cz (nf (B + 2) (B + 1) (.pointer none) (.pointer none))) 92) = w4 := ⟨_, rfl⟩
 have hk4 : Cells w4 (B + 2 + 1) (cz (nf (B + 2) (B + 1) (.pointer none) (.pointer none))) 92 := by
  rw [← hw4]
  have := Cells.new w3 (cz (nf (B + 2) (B + 1) (.pointer none) (.pointer none))) 92
  rwa [hz3] at this
 have bel4 : Below w3.heap.size w3 w4 := by rw [← hw4]; exact (Below.refl _ w3).alloc (Nat.le_refl _) _
 have s4 : Bs w4 B (B + 2 + 1) (B + 2) (B + 1) (nf (B + 2) (B + 1) (.pointer none) (.pointer none)) [] [] :=
  ⟨hk4, rfl, rfl, hb3.below bel4 (by omega), (a2.1.below hbel3 (by omega) (by omega)).below bel4 (by omega) (by omega), rfl, rfl, rfl⟩
 have belA : Below B w w4 := (a2.2.1.trans (hbel3.mono (by omega))).trans (bel4.mono (by omega))
 rw [hw4]
 obtain ⟨Dd, hDd⟩ : ∃ Dd, B + 2 + 1 = Dd := ⟨_, rfl⟩
 rw [hDd] at s4 hk4 ⊢
 have d2 := s4.cell (show 2 < 355 by decide)
 have z2 := s4.fz 2
 have e2 : nf (B + 2) (B + 1) (.pointer none) (.pointer none) 2 = .nilFunc := rfl
 rw [e2] at d2
 have A4 : Aside (Bs w4 B Dd (B + 2) (B + 1) (nf (B + 2) (B + 1) (.pointer none) (.pointer none)) [] [] ∧ Below B w w4 ∧ B + 2 + 1 = Dd) := ⟨s4, belA, hDd⟩
 clear a2 hw4 hk4 bel4 s4 belA hDd e2 hb3 hbel3 hz3 hbits hz hcs
 go_wp2_with fail
 first | go_ret | go_ret2
 have a := A4.out
 have hB := AB.out
 have ht := AT.out
 have h7 : 8 ≤ B := by have := ht.lt; omega
 have s5 := a.1.set 2 (fnv Dd 41) (by decide)
 have o5 : Only Dd w4 (w4.setCell ⟨Dd, 2, none⟩ (fnv Dd 41)) := (Only.refl Dd w4).setCell 2 _
 have b5 : Below B w (w4.setCell ⟨Dd, 2, none⟩ (fnv Dd 41)) := a.2.1.trans (o5.below (by omega))
 refine ⟨by rw [← a.2.2]; rfl, ?_, b5⟩
 have hD : B + 3 = Dd := a.2.2
 rw [hD]
 exact want_new s5 (upd_same _ _ _) rfl rfl rfl (Or.inl ⟨rfl, rfl⟩) (ht.below b5 h7) h7
end Go.Proofs.YtogednaamndpgaaGreatDoor

/-
 Lists of bytes of a call's own, beyond the inflater's blocks: append, and what is kept by it.
-/
namespace Go.Proofs.YtogednaamndpgaaGreatDoor
open Go.RowKit
set_option linter.unusedVariables false
def ob (l : List Nat) : List Value := l.map fun x : Nat => Value.int .u8 (x : Int)
theorem ob_length (l : List Nat) : (ob l).length = l.length := by simp [ob]
theorem ob_get (l : List Nat) (j : Nat) : (ob l)[j]? = (l[j]?).map fun x : Nat => Value.int .u8 (x : Int) := by simp [ob]
theorem ob_append (l m : List Nat) : ob l ++ ob m = ob (l ++ m) := by simp [ob]
theorem ob_one {l : List Nat} : ∀ u ∈ ob l, u.oneCell' = true := by
 intro u hu
 obtain ⟨x, _, rfl⟩ := List.mem_map.1 hu
 rfl
structure Ob (w : World) (lo : Nat) (v : Value) (l : List Nat) : Prop where
 own : w.ownsRow lo 5 1 v l.length (ob l)
 le : lo ≤ w.heap.size
theorem Ob.nil {w : World} {lo : Nat} (h : lo ≤ w.heap.size) : Ob w lo (.slice none 0 0) [] := ⟨⟨rfl, Or.inl ⟨rfl, rfl⟩⟩, h⟩
theorem Ob.made {w : World} {lo : Nat} (h : lo ≤ w.heap.size) : Ob (w.alloc (.cells #[] 5)) lo (.slice (some ⟨w.heap.size, 0, none⟩) 0 0) [] :=
 ⟨World.ownsRow_made (base := lo) (e := 5) (size := 1) w #[] 0 h (by decide) rfl, by show _ ≤ (w.heap.push _).size; simp; omega⟩
theorem Ob.keep {w u : World} {lo : Nat} {v : Value} {l : List Nat} (h : Ob w lo v l) (hs : w.heap.size ≤ u.heap.size) (k : ∀ g, lo ≤ g → g < w.heap.size → u.heap[g]? = w.heap[g]?) : Ob u lo v l := by
 refine ⟨⟨h.own.1, ?_⟩, Nat.le_trans h.le hs⟩
 rcases h.own.2 with q | ⟨g, c, cur, hv, hg, hh, q⟩
 ·exact Or.inl q
 ·have hlt : g < w.heap.size := (Array.getElem?_eq_some_iff.1 hh).1
  exact Or.inr ⟨g, c, cur, hv, hg, (k g hg hlt).trans hh, q⟩
theorem Ob.fm {w u : World} {B lo : Nat} {v : Value} {l : List Nat} (h : Ob w lo v l) (k : Fm B w u) (hlo : B + 4 ≤ lo) : Ob u lo v l := h.keep k.size fun g h1 h2 => k.block g h2 (Or.inr (by omega))
theorem Ob.below {w u : World} {C lo : Nat} {v : Value} {l : List Nat} (h : Ob w lo v l) (k : Below C w u) (hC : w.heap.size ≤ C) : Ob u lo v l := h.keep k.size fun g h1 h2 => k.block g (by omega)
theorem Ob.drewN {w : World} {lo : Nat} {v : Value} {l : List Nat} (h : Ob w lo v l) (n : Nat) : Ob (w.drewN n) lo v l := ⟨h.own, h.le⟩
theorem Ob.drew {w : World} {lo : Nat} {v : Value} {l : List Nat} (h : Ob w lo v l) : Ob w.drew lo v l := ⟨h.own, h.le⟩
theorem Ob.shape {w : World} {lo : Nat} {v : Value} {l : List Nat} (h : Ob w lo v l) : ∃ a c, v = .slice a l.length c ∧ l.length ≤ c ∧ Lies w a l ∧ (a = none → l.length = 0 ∧ c = 0) := by
 rcases h.own.2 with ⟨hv, h0⟩ | ⟨g, c, cur, hv, hg, hh, hc, hm, hs, ht⟩
 ·refine ⟨none, 0, by rw [hv, h0], by omega, Or.inl (List.eq_nil_of_length_eq_zero h0), fun _ => ⟨h0, rfl⟩⟩
 ·refine ⟨_, c, hv, hc, Or.inr ⟨g, 0, rfl, fun i x hx => ?_⟩, fun h => by cases h⟩
  rw [Nat.zero_add, Cells.cell (cs := cur) (t := 5) hh]
  have hi : i < l.length := (List.getElem?_eq_some_iff.1 hx).1
  have e : (cur.toList.take (l.length * 1))[i]? = some (.int .u8 (x : Int)) := by rw [ht, ob_get, hx]; rfl
  rw [List.getElem?_take, if_pos (by omega)] at e
  simpa using e
theorem Ob.own_shape {w : World} {lo : Nat} {v : Value} {l : List Nat} (h : Ob w lo v l) : v.ownBlock = none ∨ ∃ g cur, v.ownBlock = some g ∧ lo ≤ g ∧ w.heap[g]? = some (.cells cur 5 (0, 0)) := by
 rcases h.own.2 with ⟨rfl, h0⟩ | ⟨g, c, cur, rfl, hg, hh, _⟩
 ·left; rfl
 ·right; exact ⟨g, cur, rfl, hg, hh⟩
structure Ap (B lo : Nat) (w w' : World) (v' : Value) (l : List Nat) : Prop where
 ob_ : Ob w' lo v' l
 kp : Kp B w w'
 bel : Below lo w w'
theorem wpList_ob (B : Nat) (w : World) {ops : Array Oper} {rest : List Oper} {o : Oper} {a : Act} {Q : Exit → Act → World → Prop} (hgd : o.guard = none) (s x : Operand)
  (ho : o.op = .call { callee := .builtin .append, args := #[s, x], argTypes := #[22, 22] }) (lo : Nat) (v : Value) (l : List Nat) (hs : a.eval s = v) (hown : Ob w lo v l) (hB : B + 4 ≤ lo)
  (ax : Option Addr) (m : List Nat) (n c : Nat) (hnm : m.length = n) (hx : a.eval x = .slice ax n c) (hz : ax = none → n = 0 ∧ c = 0) (hl : Lies w ax m) (hlen : l.length + m.length ≤ 140737488355328)
  (h : ∀ v' w', Ap B lo w w' v' (l ++ m) → wpList Tryz.prog ops Q rest (a.put o.dst v') w') : wpList Tryz.prog ops Q (o :: rest) a w := by
 subst hnm
 obtain ⟨i0, hi, hz0, hz1, hz2⟩ := ginfo_parts ginfo5
 cases ax with
 | none =>
  obtain ⟨h1, h2⟩ := hz rfl
  have hm : m = [] := List.eq_nil_of_length_eq_zero h1
  subst hm
  subst h2
  refine wpList_append_own_none hgd s x 22 ho lo 5 i0 1 Tryz.underlying22 hi v _ _ hs hown.own hx (h v w ?_)
  rw [List.append_nil]
  exact ⟨hown, ⟨Nat.le_refl _, fun k _ => Or.inl rfl⟩, Below.refl _ _⟩
 | some ad =>
  refine wpList_append_own w hgd s x 22 ho lo 5 i0 (.int .u8 0) 1 1 Tryz.underlying22 hi hz0 hz1 hz2 rfl (by decide) v _ _ hs hown.own ad m.length c (ob m) hx (by rw [ob_length]; omega) ?_ ob_one (by unfold maxLen; omega) (by omega) hown.le ?_
  ·intro j u hj
   rw [ob_get] at hj
   rcases hl with rfl | ⟨b, off, ha, hc⟩
   ·simp at hj
   ·cases ha
    cases hq : m[j]? with
    | none => simp [hq] at hj
    | some y =>
     simp [hq] at hj
     rw [← hj]
     have := hc j y hq
     have hadd : (⟨b, off, none⟩ : Addr).add j = ⟨b, off + j, none⟩ := by unfold Addr.add; split <;> simp_all
     rw [hadd]; exact this
  ·intro v' w' h2 h3 h4
   have hb : Below lo w w' := (Below.refl lo w).grown h3 hown.le (fun k hk => by
    rcases hown.own_shape with h5 | ⟨g, cur, h5, hg, _⟩
    ·rw [h5] at hk; cases hk
    ·rw [h5] at hk; cases hk; exact hg)
   refine h v' w' ⟨⟨?_, Nat.le_trans hown.le h3.size⟩, ⟨h3.size, fun k hk => ?_⟩, hb⟩
   ·rw [ob_append] at h2
    rw [List.length_append]; exact h2
   ·by_cases e : some k = v.ownBlock
    ·rcases hown.own_shape with h5 | ⟨g, cur, h5, hg, hh⟩
     ·rw [h5] at e; cases e
     ·rw [h5] at e
      cases e
      exact Or.inr ⟨by omega, cur, (0, 0), hh⟩
    ·exact Or.inl (h3.block k hk e)
end Go.Proofs.YtogednaamndpgaaGreatDoor

/-
 Where the machine stands, told of the inflater between its calls. No walk in this text.
-/
namespace Go.Proofs.YtogednaamndpgaaGreatDoor
open Go.RowKit
set_option linter.unusedVariables false
theorem step_none_most {bs : List Bool} {M N : Nat} {c : Cfg} (h : step bs M c = none) : step bs N c = none := by
 obtain ⟨st, pos, out, times⟩ := c
 unfold step at *
 cases st using St.el with
 | head last => cases last <;> simp_all
 | sraw last n => cases n <;> simp_all
 | copy last lit di n d => cases n <;> simp_all
 | dfst last a b i j first => simp_all
 | sym last lit di =>
  simp only [] at h ⊢
  cases e5 : sread lit (bs.drop pos) using SR.el with
  | cut => rfl
  | bad j => rw [e5] at h; cases h
  | got s n => rw [e5] at h; simp only [] at h; split at h <;> cases h
 | done => rfl
 | bad y => rfl
 | _ => simp_all
theorem runs_le {bs : List Bool} {M N : Nat} {z : Cfg} (h : Runs bs M c0 z) (hN : N ≤ M) (hz : z.out.length ≤ N) : Runs bs N c0 z := by
 rcases runs_fewer h hN (Nat.zero_le _) (Nat.zero_le _) with ⟨q, _⟩ | ⟨e, _, _, _, _, q, _⟩
 ·exact q
 ·omega
theorem step_most {bs : List Bool} {N : Nat} {c d : Cfg} (h : step bs N c = some d) (hc : c.out.length ≤ N) : d.out.length ≤ N := by
 rcases step_fewer h (Nat.le_refl N) hc with ⟨_, q⟩ | ⟨_, q, b, e⟩
 ·exact q
 ·rw [h] at q
  have e1 := Option.some.inj q
  have e2 := congrArg Cfg.out e1
  have e3 : d.out = c.out := e2
  rw [e3]
  exact hc
def Over (c : Cfg) : Prop := c.st = .done ∨ ∃ y, c.st = .bad y
section
variable {w : World} {B D b R : Nat} {I : List Nat} {M N : Nat} {c : Cfg}
theorem Inf.stands (h : Inf w B D b R I M c .want) (hN : N ≤ M) (ho : c.out.length ≤ N) : ∃ z, Stands I N z ∧ z.out = c.out ∧ ¬ Over z := by
 obtain ⟨hr, f, h3⟩ := h
 obtain ⟨z, h4, h5, h6, h7, h8⟩ := h3.z
 refine ⟨z, ⟨runs_le (hr.trans h4) hN (by rw [h6]; exact ho), step_none_most h5⟩, h6, ?_⟩
 rintro (e | ⟨y, e⟩)
 ·exact h8 e
 ·exact h7 y e
theorem Inf.over_st (h : Inf w B D b R I M c .over) : Over c := by
 obtain ⟨hr, f, h3⟩ := h
 rcases h3.how with ⟨e, _⟩ | ⟨y, e, _⟩
 ·exact Or.inl e
 ·exact Or.inr ⟨y, e⟩
theorem Over.none {bs : List Bool} (h : Over c) : step bs N c = none := by
 unfold step
 rcases h with e | ⟨y, e⟩ <;> rw [e]
theorem Inf.stands_over (h : Inf w B D b R I M c .over) (hN : N ≤ M) (ho : c.out.length ≤ N) : Stands I N c := ⟨runs_le h.1 hN ho, h.over_st.none⟩
theorem over_pos {I : List Nat} {x : Nat} {z c : Cfg} (h : Stands I N z) (hz : ¬ Over z) (k : Stands (I ++ [x]) N c) (hc : Over c) : 8 * I.length < c.pos := by
 obtain ⟨o, _, _, e | e⟩ := h.next k
 ·rw [e] at hc; exact absurd hc hz
 ·exact e.1
theorem Stands.of_take {Bb : List Nat} {i : Nat} (h : Stands (Bb.take i) N c) (hc : Over c) : Stands Bb N c := by
 have := h.over (D := Bb.drop i) hc
 rwa [List.take_append_drop] at this
theorem over_at {L i : Nat} (hc : Over c) (h1 : 8 * i < c.pos) (h2 : c.pos ≤ 8 * (i + 1)) : atC L c = i := by
 unfold atC
 rcases hc with e | ⟨y, e⟩ <;> rw [e] <;> simp only [] <;> omega
theorem open_at {L : Nat} (hc : ¬ Over c) : atC L c = L ∧ whyC c = 1 ∧ endC c = false := by
 unfold atC whyC endC
 cases e : c.st using St.el <;> first | exact ⟨rfl, rfl, rfl⟩ | exact absurd (Or.inl e) hc | exact absurd (Or.inr ⟨_, e⟩) hc
end
def Pd (o : List Nat) (c : Cfg) (q : Md) : Prop := (∃ x, q = .wait x ∧ c.out = o ++ [x]) ∨ ((q = .over ∨ q = .want) ∧ c.out = o)
def Nx (o : List Nat) (v10 v11 : Value) (c : Cfg) (q : Md) : Prop := (∃ x : Nat, v10 = .int .u8 (x : Int) ∧ v11 = .bool true ∧ Pd (o ++ [x]) c q) ∨ (v10 = .int .u8 0 ∧ v11 = .bool false ∧ (q = .over ∨ q = .want) ∧ c.out = o)
theorem Pd.le {o : List Nat} {c : Cfg} {q : Md} (h : Pd o c q) : c.out.length ≤ o.length + 1 := by
 rcases h with ⟨x, _, e⟩ | ⟨_, e⟩ <;> rw [e]
 ·simp
 ·omega
section
variable {B D b R : Nat} {I : List Nat} {M : Nat} {c : Cfg} {q : Md}
theorem Goes.pd {w : World} (h : Goes B D b R I M c w) : ∃ c' q', Inf w B D b R I M c' q' ∧ Pd c.out c' q' := by
 obtain ⟨c', _, ⟨x, h1, h2⟩ | ⟨h1, h2⟩ | ⟨h1, h2⟩⟩ := h
 ·exact ⟨c', _, h1, Or.inl ⟨x, rfl, h2⟩⟩
 ·exact ⟨c', _, h1, Or.inr ⟨Or.inl rfl, h2⟩⟩
 ·exact ⟨c', _, h1, Or.inr ⟨Or.inr rfl, h2⟩⟩
theorem next_any (w : World) (h : Inf w B D b R I M c q) (o : List Nat) (hp : Pd o c q) (hm : o.length + 1 < M) : Calls Tryz.prog 43 #[.pointer (some ⟨D, 0, none⟩)] w fun e w' => ∃ v10 v11 c' q', e = .returned (.tuple #[v10, v11]) ∧ Fm B w w' ∧ Inf w' B D b R I M c' q' ∧ Nx o v10 v11 c' q' := by
 have hle := hp.le
 rcases hp with ⟨x, rfl, e⟩ | ⟨hq, e⟩
 ·refine (next_yes x w h (by omega)).mono ?_
  rintro e2 w' ⟨h1, h2, h3⟩
  obtain ⟨c', q', h4, h5⟩ := h3.pd
  rw [e] at h5
  exact ⟨_, _, c', q', h1, h2, h4, Or.inl ⟨x, rfl, rfl, h5⟩⟩
 ·refine (next_no w h (fun x ex => by rcases hq with hq | hq <;> rw [hq] at ex <;> cases ex)).mono ?_
  rintro e2 w' ⟨h1, rfl⟩
  exact ⟨_, _, c, q, h1, Fm.refl _ _, h, Or.inr ⟨rfl, rfl, hq, e⟩⟩
theorem put_any (x : Nat) (hx : x < 256) (w : World) (h : Inf w B D b R I M c .want) (hm : c.out.length < M) : Calls Tryz.prog 144 #[.pointer (some ⟨D, 0, none⟩), .int .u8 (x : Int)] w fun e w' => e = .returned (.bool true) ∧ Fm B w w' ∧ ∃ c' q', Inf w' B D b R (I ++ [x]) M c' q' ∧ Pd c.out c' q' := by
 refine (put_open x hx w h hm).mono ?_
 rintro e w' ⟨h1, h2, h3⟩
 exact ⟨h1, h2, h3.pd⟩
end
end Go.Proofs.YtogednaamndpgaaGreatDoor

/-
 With which byte what is known, told of prefixes of some bytes. No walk in this text.
-/
namespace Go.Proofs.YtogednaamndpgaaGreatDoor
open Go.RowKit
set_option linter.unusedVariables false
section
variable {bs : List Bool} {N M : Nat}
theorem times_len {c d : Cfg} (h : Runs bs N c d) (hc : c.pos ≤ bs.length) (hl : c.times.length = c.out.length) : d.times.length = d.out.length := by
 induction h using Runs.el with
 | refl => exact hl
 | cons h1 _ ih =>
  obtain ⟨q1, q2⟩ := step_ends h1 hc
  refine ih q1 ?_
  rcases q2 with ⟨q3, q4⟩ | ⟨b, q3, q4⟩
  ·rw [q3, q4]; exact hl
  ·rw [q3, q4]; simp [hl]
end
end Go.Proofs.YtogednaamndpgaaGreatDoor

/-
 The document's gzip file as a run over its bytes: its state, and what each of its small calls makes of it. No walk.
-/
namespace Go.Proofs.YtogednaamndpgaaGreatDoor
set_option linter.unusedVariables false
abbrev Gev := Nat × Nat × List Nat
structure Gr where
 ev : List Gev
 why : Nat
 sat : Nat
 pos : Nat
 left : Nat
def gstop (y a : Nat) (r : Gr) : Gr := { r with why := y, sat := a }
def le : List Nat → Nat
 | [] => 0
 | x :: r => x + 256 * le r
def gnum (b : List Nat) (n : Nat) (r : Gr) : Gr := if b.length < r.pos + n then gstop 1 b.length r else { r with pos := r.pos + n }
def gval (b : List Nat) (n : Nat) (r : Gr) : Nat := if b.length < r.pos + n then 0 else le ((b.drop r.pos).take n)
def gis (b : List Nat) (v y : Nat) (r : Gr) : Gr := if r.why = 0 then (if gval b 1 r ≠ v ∧ (gnum b 1 r).why = 0 then gstop y ((gnum b 1 r).pos - 1) (gnum b 1 r) else gnum b 1 r) else r
def gz (b : List Nat) : Nat → Nat → Nat → Gr → Gr × List Nat
 | 0, from_, m, r => (r, [])
 | k + 1, from_, m, r =>
  let r1 := gnum b 1 r
  if r1.why ≠ 0 then (r1, []) else if gval b 1 r = 0 then (r1, (b.take (r1.pos - 1)).drop from_) else if 256 < r1.pos - from_ then (gstop 46 (r1.pos - 1) r1, []) else gz b k from_ (m + 1) r1
def gtext (b : List Nat) (r : Gr) : Gr × List Nat := if r.why = 0 then gz b 258 r.pos 0 r else (r, [])
theorem le_lt : ∀ (l : List Nat), (∀ x ∈ l, x < 256) → le l < 256 ^ l.length
 | [], _ => by simp [le]
 | x :: r, h => by
  have h1 := le_lt r (fun y hy => h y (by simp [hy]))
  have h2 := h x (by simp)
  simp only [le, List.length_cons, Nat.pow_succ]
  omega
end Go.Proofs.YtogednaamndpgaaGreatDoor

/-
 Registers of 32 bits as numbers: 'mv', moved down by one bit, is linear under '^^^'; what a row of moves, a product of registers and a square come to; two lists of bytes that differ within 32 bits have two sums.
-/
namespace Go.Proofs.YtogednaamndpgaaGreatDoor
def mv (x : Nat) : Nat := if x % 2 = 1 then x / 2 ^^^ 3988292384 else x / 2
def mvs : Nat → Nat → Nat
 | 0, x => x
 | k + 1, x => mvs k (mv x)
theorem xor_cancel (a b p : Nat) : a ^^^ p ^^^ (b ^^^ p) = a ^^^ b := by
 rw [Nat.xor_comm b p, ← Nat.xor_assoc, Nat.xor_assoc a p p, Nat.xor_self, Nat.xor_zero]
theorem xor_mod2 (x y : Nat) : (x ^^^ y) % 2 = (x + y) % 2 := by
 have h := Nat.xor_mod_two_eq_one (a := x) (b := y)
 omega
theorem mv_xor (x y : Nat) : mv (x ^^^ y) = mv x ^^^ mv y := by
 unfold mv
 have h1 : (x ^^^ y) / 2 = x / 2 ^^^ y / 2 := Nat.xor_div_two
 have h2 : (x ^^^ y) % 2 = (x + y) % 2 := xor_mod2 _ _
 rw [h1, h2]
 rcases Nat.mod_two_eq_zero_or_one x with hx | hx <;> rcases Nat.mod_two_eq_zero_or_one y with hy | hy
 ·rw [if_neg (by omega), if_neg (by omega), if_neg (by omega)]
 ·rw [if_pos (by omega), if_neg (by omega), if_pos (by omega), Nat.xor_assoc]
 ·rw [if_pos (by omega), if_pos (by omega), if_neg (by omega), Nat.xor_assoc, Nat.xor_comm (y / 2), Nat.xor_assoc]
 ·rw [if_neg (by omega), if_pos (by omega), if_pos (by omega), xor_cancel]
theorem mvs_xor : ∀ (k x y : Nat), mvs k (x ^^^ y) = mvs k x ^^^ mvs k y
 | 0, _, _ => rfl
 | k + 1, x, y => by rw [mvs, mv_xor, mvs_xor k]; rfl
theorem mvs_add : ∀ (j k x : Nat), mvs (j + k) x = mvs k (mvs j x)
 | 0, k, x => by rw [Nat.zero_add]; rfl
 | j + 1, k, x => by rw [show j + 1 + k = (j + k) + 1 by omega, mvs, mvs_add j k, mvs]
theorem mvs_comm (j k x : Nat) : mvs k (mvs j x) = mvs j (mvs k x) := by rw [← mvs_add, Nat.add_comm, mvs_add]
theorem mv_mvs (k x : Nat) : mv (mvs k x) = mvs k (mv x) := mvs_comm k 1 x
theorem xor_lt32 {a b : Nat} (ha : a < 4294967296) (hb : b < 4294967296) : a ^^^ b < 4294967296 := Nat.xor_lt_two_pow (n := 32) ha hb
theorem mv_lt {x : Nat} (h : x < 4294967296) : mv x < 4294967296 := by
 unfold mv
 split
 ·exact xor_lt32 (by omega) (by decide)
 ·omega
theorem mvs_lt : ∀ (k : Nat) {x : Nat}, x < 4294967296 → mvs k x < 4294967296
 | 0, _, h => h
 | k + 1, _, h => mvs_lt k (mv_lt h)
theorem mvs_low : ∀ (k h l : Nat), l < 2 ^ k → mvs k (2 ^ k * h + l) = h ^^^ mvs k l
 | 0, h, l, hl => by
  have : l = 0 := by simpa using hl
  subst this
  simp [mvs]
 | k + 1, h, l, hl => by
  rw [Nat.pow_succ'] at hl ⊢
  rw [mvs, mvs, Nat.mul_assoc]
  unfold mv
  rw [show (2 * (2 ^ k * h) + l) % 2 = l % 2 by omega, show (2 * (2 ^ k * h) + l) / 2 = 2 ^ k * h + l / 2 by omega]
  by_cases hm : l % 2 = 1
  ·rw [if_pos hm, if_pos hm, mvs_xor, mvs_low k h (l / 2) (by omega), mvs_xor, Nat.xor_assoc]
  ·rw [if_neg hm, if_neg hm, mvs_low k h (l / 2) (by omega)]
def tb : List Nat := [0, 498536548, 997073096, 651767980, 1994146192, 1802195444, 1303535960, 1342533948, 3988292384, 4027552580, 3604390888, 3412177804, 2607071920, 2262029012, 2685067896, 3183342108]
theorem tb_low : ∀ i : _root_.Fin 16, tb.getD i.val 0 = mvs 4 i.val := by decide +kernel
theorem four_eq (r : Nat) : r / 16 ^^^ tb.getD (r % 16) 0 = mvs 4 r := by
 have h := mvs_low 4 (r / 16) (r % 16) (Nat.mod_lt _ (by decide))
 rw [show 2 ^ 4 * (r / 16) + r % 16 = r by omega] at h
 rw [h]
 congr 1
 exact tb_low ⟨r % 16, Nat.mod_lt _ (by decide)⟩
def stp (s b : Nat) : Nat := mvs 8 (s ^^^ 4294967295 ^^^ b) ^^^ 4294967295
theorem stp_lt {s b : Nat} (hs : s < 4294967296) (hb : b < 256) : stp s b < 4294967296 :=
 xor_lt32 (mvs_lt 8 (xor_lt32 (xor_lt32 hs (by decide)) (by omega))) (by decide)
def sm (s : Nat) : List Nat → Nat
 | [] => s
 | b :: l => sm (stp s b) l
theorem sm_append (s : Nat) : ∀ (l m : List Nat), sm s (l ++ m) = sm (sm s l) m
 | [], _ => rfl
 | b :: l, m => sm_append (stp s b) l m
theorem sm_lt : ∀ (l : List Nat) {s : Nat}, s < 4294967296 → (∀ b ∈ l, b < 256) → sm s l < 4294967296
 | [], _, h, _ => h
 | b :: l, _, h, hb => sm_lt l (stp_lt h (hb b (List.mem_cons_self ..))) (fun c hc => hb c (List.mem_cons_of_mem _ hc))
def nb : List Nat → Nat
 | [] => 0
 | x :: l => x + 256 * nb l
end Go.Proofs.YtogednaamndpgaaGreatDoor

/-
 The walker as a machine over bytes: its states, what a byte makes of them, what is told with it. No walk.
-/
namespace Go.Proofs.YtogednaamndpgaaGreatDoor
open Go.RowKit
set_option linter.unusedVariables false
def MM : Nat := 1000000000000
structure Gs where
 nx : Nat
 fl : Nat
 nm : List Nat
 lf : Nat
 nb : Nat
 sm : Nat
 gv : Nat
 wh : Bool
 why : Nat
 ip : List Nat
 y : Cfg
abbrev Evn := Nat × List Nat
def s0 : Gs := ⟨0, 0, [], 0, 0, 0, 0, false, 0, [], c0⟩
def gbad (k : Nat) (s : Gs) : Gs := { s with why := k }
def gcnt (x : Nat) (s : Gs) : Gs := { s with sm := stp s.sm x }
def gopn (s : Gs) : Gs × List Evn := ({ s with nm := [], sm := 0, gv := 0, nx := 9, ip := [], y := c0 }, [(256, s.nm)])
def gfield (s : Gs) : Gs × List Evn :=
 if s.fl / 4 % 2 = 1 then ({ s with fl := s.fl - 4, nx := 5, lf := 2 }, [])
 else if s.fl / 8 % 2 = 1 then ({ s with fl := s.fl - 8, nx := 6, lf := 256 }, [])
 else if s.fl / 16 % 2 = 1 then ({ s with fl := s.fl - 16, nx := 7, lf := 256 }, [])
 else if s.fl / 2 % 2 = 1 then ({ s with fl := s.fl - 2, nx := 8, lf := 2 }, [])
 else gopn s
def gbgn (x : Nat) (s : Gs) : Gs := { s with wh := false, sm := stp 0 x, nx := 1 }
def gath (x : Nat) (s : Gs) : Gs := { s with nb := s.nb / 256 + x * 16777216, lf := s.lf - 1 }
def gtxt (x : Nat) (s : Gs) : Gs × List Evn :=
 if x = 0 then gfield (gcnt x s) else if s.lf = 0 then (gbad 46 (gcnt x s), []) else ({ gcnt x s with lf := s.lf - 1 }, [])
def gext (s : Gs) : Gs × List Evn :=
 if s.lf = 0 then (if 1024 < s.nb / 65536 then (gbad 46 s, []) else if s.nb / 65536 = 0 then gfield s else ({ s with nx := 4, lf := s.nb / 65536 }, [])) else (s, [])
def gnam (x : Nat) (s : Gs) : Gs := if x ≠ 0 ∧ 0 < s.lf then { s with nm := s.nm ++ [x] } else s
def ghsm (s : Gs) : Gs × List Evn := if s.lf = 0 then (if s.nb / 65536 = s.sm % 65536 then gopn s else (gbad 43 s, [])) else (s, [])
def gdsm (s : Gs) : Gs × List Evn := if s.lf = 0 then (if s.nb = s.sm then ({ s with nx := 11, lf := 4 }, []) else (gbad 44 s, [])) else (s, [])
def gdsz (s : Gs) : Gs × List Evn := if s.lf = 0 then (if s.nb = s.gv % 4294967296 then ({ s with wh := true, nx := 12 }, [(257, [])]) else (gbad 45 s, [])) else (s, [])
def gnou (x : Nat) (s : Gs) : Gs := if x = 0 then s else gbad 47 s
def gany (x : Nat) (s : Gs) : Gs × List Evn := if s.lf - 1 = 0 then gfield { gcnt x s with lf := s.lf - 1 } else ({ gcnt x s with lf := s.lf - 1 }, [])
def gst (s : Gs) (x : Nat) : Gs × List Evn := match s.nx with
 | 0 => (if x = 31 then gbgn x s else gbad 40 s, [])
 | 1 => (if x = 139 then { gcnt x s with nx := 2 } else gbad 40 s, [])
 | 2 => (if x = 8 then { gcnt x s with nx := 3 } else gbad 41 s, [])
 | 3 => (if x < 32 then { gcnt x s with fl := x, nx := 4, lf := 6 } else gbad 42 s, [])
 | 4 => gany x s
 | 5 => gext (gath x (gcnt x s))
 | 6 => gtxt x (gnam x s)
 | 7 => gtxt x s
 | 8 => ghsm (gath x s)
 | 10 => gdsm (gath x s)
 | 11 => gdsz (gath x s)
 | 12 => (if x = 31 then gbgn x s else { gnou x s with nx := 13 }, [])
 | _ => (gnou x s, [])
def badC (c : Cfg) : Nat := match c.st with
 | .inr (.inr (.inr y)) => y
 | _ => 0
def gdat (s : Gs) (x : Nat) (y : Cfg) : Gs := { s with ip := s.ip ++ [x], y := y, sm := sm 0 y.out, gv := y.out.length, nx := if endC y then 10 else 9, lf := if endC y then 4 else s.lf, why := badC y }
def Sp (s : Gs) (x : Nat) (s1 : Gs) (E : List Evn) : Prop := (s.nx = 9 ∧ ∃ y, Stands (s.ip ++ [x]) MM y ∧ s1 = gdat s x y ∧ E = (y.out.drop s.y.out.length).map fun b => (b, [])) ∨ (s.nx ≠ 9 ∧ s1 = (gst s x).1 ∧ E = (gst s x).2)
def evs (t : Nat) (E : List Evn) : List Gev := E.map fun e => (t, e)
def Mr : Nat → Gs → List Nat → Gs → List Gev → Prop
 | _, s, [], s', T => s' = s ∧ T = []
 | t, s, x :: l, s', T => s.why = 0 ∧ ∃ s1 E T1, Sp s x s1 E ∧ Mr (t + 1) s1 l s' T1 ∧ T = evs t E ++ T1
theorem mr_append : ∀ (l m : List Nat) (t : Nat) (s s' : Gs) (T : List Gev), Mr t s (l ++ m) s' T ↔ ∃ s1 T1 T2, Mr t s l s1 T1 ∧ Mr (t + l.length) s1 m s' T2 ∧ T = T1 ++ T2
 | [], m, t, s, s', T => by
  constructor
  ·intro h; exact ⟨s, [], T, ⟨rfl, rfl⟩, h, rfl⟩
  ·rintro ⟨s1, T1, T2, ⟨rfl, rfl⟩, h, rfl⟩; exact h
 | x :: l, m, t, s, s', T => by
  have ih := mr_append l m (t + 1)
  constructor
  ·rintro ⟨h0, s1, E, T1, h1, h2, rfl⟩
   obtain ⟨s2, T2, T3, h3, h4, rfl⟩ := (ih s1 s' T1).1 h2
   exact ⟨s2, evs t E ++ T2, T3, ⟨h0, s1, E, T2, h1, h3, rfl⟩, by rw [List.length_cons, show t + (l.length + 1) = t + 1 + l.length by omega]; exact h4, by rw [List.append_assoc]⟩
  ·rintro ⟨s2, T2, T3, ⟨h0, s1, E, T1, h1, h3, rfl⟩, h4, rfl⟩
   rw [List.length_cons, show t + (l.length + 1) = t + 1 + l.length by omega] at h4
   exact ⟨h0, s1, E, T1 ++ T3, h1, (ih s1 s' _).2 ⟨s2, T1, T3, h3, h4, rfl⟩, by rw [List.append_assoc]⟩
theorem Sp.det {s s1 s2 : Gs} {x : Nat} {E F : List Evn} (h : Sp s x s1 E) (k : Sp s x s2 F) : s1 = s2 ∧ E = F := by
 rcases h with ⟨h0, y, h1, h2, h3⟩ | ⟨h0, h1, h2⟩ <;> rcases k with ⟨k0, z, k1, k2, k3⟩ | ⟨k0, k1, k2⟩
 ·have := h1.one k1
  subst this
  exact ⟨h2.trans k2.symm, h3.trans k3.symm⟩
 ·exact absurd h0 k0
 ·exact absurd k0 h0
 ·exact ⟨h1.trans k1.symm, h2.trans k2.symm⟩
theorem mr_det : ∀ (l : List Nat) (t : Nat) (s s1 s2 : Gs) (T U : List Gev), Mr t s l s1 T → Mr t s l s2 U → s1 = s2 ∧ T = U
 | [], t, s, s1, s2, T, U, ⟨h1, h2⟩, ⟨k1, k2⟩ => ⟨h1.trans k1.symm, h2.trans k2.symm⟩
 | x :: l, t, s, s1, s2, T, U, ⟨_, a, E, T1, h1, h2, h3⟩, ⟨_, b, F, U1, k1, k2, k3⟩ => by
  obtain ⟨rfl, rfl⟩ := h1.det k1
  obtain ⟨e1, rfl⟩ := mr_det l (t + 1) a s1 s2 T1 U1 h2 k2
  exact ⟨e1, h3.trans k3.symm⟩
def Rch (b : List Nat) (k : Nat) (s : Gs) (T : List Gev) : Prop := k ≤ b.length ∧ Mr 0 s0 (b.take k) s T
theorem rch_zero (b : List Nat) : Rch b 0 s0 [] := ⟨Nat.zero_le _, by rw [List.take_zero]; exact ⟨rfl, rfl⟩⟩
theorem Rch.step {b : List Nat} {k x : Nat} {s s1 : Gs} {T : List Gev} {E : List Evn} (h : Rch b k s T) (h0 : s.why = 0) (hx : b[k]? = some x) (hs : Sp s x s1 E) : Rch b (k + 1) s1 (T ++ evs k E) := by
 obtain ⟨hk, he⟩ := List.getElem?_eq_some_iff.1 hx
 refine ⟨hk, ?_⟩
 rw [List.take_succ_eq_append_getElem hk, he]
 refine (mr_append _ _ _ _ _ _).2 ⟨s, T, _, h.2, ⟨h0, s1, E, [], hs, ⟨rfl, rfl⟩, rfl⟩, ?_⟩
 rw [List.length_take, Nat.min_eq_left h.1, List.append_nil, Nat.zero_add]
theorem Rch.det {b : List Nat} {k : Nat} {s s1 : Gs} {T U : List Gev} (h : Rch b k s T) (q : Rch b k s1 U) : s = s1 ∧ T = U := mr_det _ _ _ _ _ _ _ h.2 q.2
theorem Rch.back {b : List Nat} {k j : Nat} {s : Gs} {T : List Gev} (h : Rch b k s T) (hj : j ≤ k) : ∃ s1 T1 T2, Rch b j s1 T1 ∧ Mr j s1 ((b.take k).drop j) s T2 ∧ T = T1 ++ T2 := by
 have e : b.take k = b.take j ++ (b.take k).drop j := by
  conv => lhs; rw [← List.take_append_drop j (b.take k)]
  rw [List.take_take, Nat.min_eq_left hj]
 have h2 := h.2
 rw [e] at h2
 obtain ⟨s1, T1, T2, q1, q2, q3⟩ := (mr_append _ _ _ _ _ _).1 h2
 have hl := h.1
 rw [List.length_take, Nat.min_eq_left (by omega), Nat.zero_add] at q2
 exact ⟨s1, T1, T2, ⟨by omega, q1⟩, q2, q3⟩
theorem Rch.at {b : List Nat} {k i : Nat} {s si : Gs} {T Ti : List Gev} (h : Rch b k s T) (hi : Rch b i si Ti) (hik : i < k) : si.why = 0 ∧ ∃ x s1 E T2, b[i]? = some x ∧ Sp si x s1 E ∧ Rch b (i + 1) s1 (Ti ++ evs i E) ∧ T = Ti ++ evs i E ++ T2 ∧ Mr (i + 1) s1 ((b.take k).drop (i + 1)) s T2 := by
 obtain ⟨s1, T1, T2, q1, q2, rfl⟩ := h.back (Nat.le_of_lt hik)
 obtain ⟨rfl, rfl⟩ := hi.det q1
 have hl := h.1
 have hlt : i < (b.take k).length := by rw [List.length_take]; omega
 rw [List.drop_eq_getElem_cons hlt] at q2
 obtain ⟨h0, s2, E, T3, q3, q4, rfl⟩ := q2
 have hx : b[i]? = some (b.take k)[i] := by
  rw [List.getElem_take, List.getElem?_eq_getElem (by omega)]
 exact ⟨h0, _, s2, E, T3, hx, q3, hi.step h0 hx q3, by rw [List.append_assoc], q4⟩
end Go.Proofs.YtogednaamndpgaaGreatDoor

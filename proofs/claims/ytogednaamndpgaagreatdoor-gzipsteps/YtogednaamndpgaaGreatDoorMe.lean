/-
  Own texts of this seat, one behind the other: what each says stands ahead of it.
-/
import Derived.Test.YtogednaamndpgaaGreatDoorMd
import Derived.Test.YtogednaamndpgaaGreatDoorMa
import Derived.Test.YtogednaamndpgaaGreatDoorMb
import Derived.Laws.EntriesVeiled
import Derived.OwnWalk
import Derived.WalkMore
import Derived.Deep.LoopGhost
import Derived.BigQuiet
import Derived.Deep.CutBlock
import Derived.Deep.DeepCutAuto
/-
  What Put, Back, Clear, Len, Size and Tail of the ring come to, at a window in memory that holds a list of bytes; and Same of two lists that are one.
  Conditions: the window has a size from 1 to 32768, and the list is not longer; each method keeps that.
-/
namespace Go.Proofs.YtogednaamndpgaaGreatDoor
open Go.RowKit
set_option linter.unusedVariables false

/-- Block H holds a window of N cells, which lie in block K; l is what is in it. -/
structure GRg (w : World) (H K N : Nat) (l : List Int) : Prop where
  ex : ∃ x cs, GLo w H K N x l.length cs ∧ GHolds N x cs l
section
variable {w u : World} {H K N : Nat} {l : List Int}
theorem GRg.drewN (r : GRg w H K N l) (n : Nat) : GRg (w.drewN n) H K N l := by obtain ⟨x, cs, lo, hh⟩ := r.ex; exact ⟨x, cs, lo.drewN n, hh⟩
theorem GRg.drew (r : GRg w H K N l) : GRg w.drew H K N l := by obtain ⟨x, cs, lo, hh⟩ := r.ex; exact ⟨x, cs, lo.drew, hh⟩
theorem GRg.only {c : Nat} (r : GRg w H K N l) (k : Only c w u) (h1 : H ≠ c) (h2 : K ≠ c) : GRg u H K N l := by obtain ⟨x, cs, lo, hh⟩ := r.ex; exact ⟨x, cs, lo.only k h1 h2, hh⟩
theorem GRg.below {B : Nat} (r : GRg w H K N l) (k : Below B w u) (h1 : H < B) (h2 : K < B) : GRg u H K N l := by obtain ⟨x, cs, lo, hh⟩ := r.ex; exact ⟨x, cs, lo.below k h1 h2, hh⟩
theorem GRg.alloc (r : GRg w H K N l) (o : Obj) : GRg (w.alloc o) H K N l := by obtain ⟨x, cs, lo, hh⟩ := r.ex; exact ⟨x, cs, lo.alloc o, hh⟩
theorem GRg.two {a b : Nat} (r : GRg w H K N l) (k : GTwo a b w u) (h1 : H ≠ a) (h2 : K ≠ a) (h3 : H ≠ b) (h4 : K ≠ b) : GRg u H K N l := by
  obtain ⟨x, cs, lo, hh⟩ := r.ex
  refine ⟨x, cs, ⟨?_, ?_, lo.len, lo.n1, lo.n2, lo.xlt, lo.hle, lo.ne⟩, hh⟩
  · have := lo.hd; unfold Cells at *; rw [k.block H h1 h3]; exact this
  · have := lo.row; unfold Cells at *; rw [k.block K h2 h4]; exact this
theorem GRg.lt (r : GRg w H K N l) : H < w.heap.size ∧ K < w.heap.size := by obtain ⟨x, cs, lo, hh⟩ := r.ex; exact ⟨lo.hd.lt, lo.row.lt⟩
theorem GRg.le (r : GRg w H K N l) : l.length ≤ N ∧ N ≤ 32768 ∧ 1 ≤ N := by obtain ⟨x, cs, lo, hh⟩ := r.ex; exact ⟨lo.hle, lo.n2, lo.n1⟩
end
theorem gnew_r (n : Nat) (w : World) (h1 : 1 ≤ n) (h2 : n ≤ 32768) : Calls Tryz.prog 39 #[.int .i64 n] w fun e w' => e = .returned (.tuple #[.pointer (some ⟨w.heap.size + 1, 0, none⟩), .int .i64 0]) ∧
    GRg w' (w.heap.size + 1) w.heap.size n [] ∧ Below w.heap.size w w' ∧ w'.heap.size = w.heap.size + 2 :=
  (gnew_yes n w h1 h2).mono fun _ _ h => ⟨h.1, ⟨0, _, h.2.1, gholds_nil _ _ _⟩, h.2.2⟩
section
variable {H K N : Nat} {l : List Int}
theorem glen_r (w : World) (r : GRg w H K N l) : Calls Tryz.prog 128 #[.pointer (some ⟨H, 0, none⟩)] w fun e w' => e = .returned (.int .i64 (l.length : Int)) ∧ w = w' := by
  obtain ⟨x, cs, lo, hh⟩ := r.ex; exact glen_c w lo
theorem gclear_r (w : World) (r : GRg w H K N l) : Calls Tryz.prog 143 #[.pointer (some ⟨H, 0, none⟩)] w fun e w' => e = .returned (.tuple #[]) ∧ GRg w' H K N [] ∧ Only H w w' := by
  obtain ⟨x, cs, lo, hh⟩ := r.ex
  exact (gclear_c w lo).mono fun _ _ h => ⟨h.1, ⟨0, cs, h.2.1, gholds_nil _ _ _⟩, h.2.2⟩
theorem gput_r (z : Int) (w : World) (r : GRg w H K N l) : Calls Tryz.prog 112 #[.pointer (some ⟨H, 0, none⟩), .int .u8 z] w fun e w' => e = .returned (.tuple #[]) ∧ GRg w' H K N (glastN N (l ++ [z])) ∧ GTwo H K w w' := by
  obtain ⟨x, cs, lo, hh⟩ := r.ex
  refine (gput_c z w lo).mono fun _ _ h => ⟨h.1, ⟨_, _, ?_, gput_holds hh lo.len lo.xlt lo.hle z⟩, h.2.2⟩
  rw [glastN_length, List.length_append, List.length_singleton]
  exact h.2.1
theorem gback_r (d : Nat) (z : Int) (w : World) (r : GRg w H K N l) (h1 : 1 ≤ d) (h2 : d ≤ l.length) (hz : l[l.length - d]? = some z) :
    Calls Tryz.prog 131 #[.pointer (some ⟨H, 0, none⟩), .int .i64 (d : Int)] w fun e w' => e = .returned (.tuple #[.int .u8 z, .bool true]) ∧ ∃ n, w' = w.drewN n := by
  obtain ⟨x, cs, lo, hh⟩ := r.ex
  exact gback_yes d z w lo h1 h2 ((hh d h1 h2).trans hz)
end

end Go.Proofs.YtogednaamndpgaaGreatDoor

/-
  What deflated bytes give, as a machine of small steps over their bits: each step is done as soon as its last bit is there. No walk in this text.
-/
namespace Go.Proofs.YtogednaamndpgaaGreatDoor
set_option linter.unusedVariables false
/-- All bits of some bytes. -/
def allb (B : List Nat) : List Bool := B.flatMap (bitsOf 8)
/-- A number of n bits from place p on, if they are there. -/
def num? (bs : List Bool) (p n : Nat) : Option Nat := if p + n ≤ bs.length then some (nm ((bs.drop p).take n)) else none
/-- What reading a symbol comes to. -/
abbrev SR := Option ((Nat × Nat) ⊕ Nat)
abbrev SR.got (s n : Nat) : SR := some (.inl (s, n))
abbrev SR.bad (j : Nat) : SR := some (.inr j)
abbrev SR.cut : SR := none
theorem SR.el {motive : SR → Prop} (r : SR) (got : ∀ s n, motive (.got s n)) (bad : ∀ j, motive (.bad j)) (cut : motive .cut) : motive r :=
  match r with
  | some (.inl (s, n)) => got s n
  | some (.inr j) => bad j
  | none => cut
def hitb (ls : List Nat) (h : List Bool) (s : Nat) : Bool := match ls[s]? with
  | some n => decide (0 < n ∧ n ≤ h.length ∧ num (h.take n) = code ls s n)
  | none => false
def mayb (ls : List Nat) (h : List Bool) : Bool := (List.range ls.length).any fun s => match ls[s]? with
  | some n => decide (0 < n ∧ h.length ≤ n ∧ code ls s n / 2 ^ (n - h.length) = num h)
  | none => false
def sread (ls : List Nat) (h : List Bool) : SR := match (List.range ls.length).find? (hitb ls h) with
  | some s => .got s (ls.getD s 0)
  | none => match (List.range (h.length + 1)).find? (fun j => !mayb ls (h.take j)) with
    | some j => .bad j
    | none => .cut
theorem hitb_iff {ls : List Nat} {h : List Bool} {s : Nat} : hitb ls h s = true ↔ ∃ n, Hit ls h s n := by
  unfold hitb Hit
  cases e : ls[s]? with
  | none => simp
  | some n => simp
theorem mayb_iff {ls : List Nat} {h : List Bool} : mayb ls h = true ↔ May ls h := by
  unfold mayb May
  rw [List.any_eq_true]
  constructor
  · rintro ⟨s, _, hs⟩
    cases e : ls[s]? with
    | none => rw [e] at hs; cases hs
    | some n => rw [e] at hs; have := of_decide_eq_true hs; exact ⟨s, n, e, this.1, this.2.1, this.2.2⟩
  · rintro ⟨s, n, h1, h2, h3, h4⟩
    exact ⟨s, List.mem_range.2 (List.getElem?_eq_some_iff.1 h1).1, by rw [h1]; exact decide_eq_true ⟨h2, h3, h4⟩⟩
theorem sread_got {ls : List Nat} {h : List Bool} {s n : Nat} (hh : Hit ls h s n) : sread ls h = .got s n := by
  have hs := (List.getElem?_eq_some_iff.1 hh.1).1
  unfold sread
  cases e : (List.range ls.length).find? (hitb ls h) with
  | none =>
    have := List.find?_eq_none.1 e s (List.mem_range.2 hs)
    exact absurd (hitb_iff.2 ⟨n, hh⟩) this
  | some s' =>
    obtain ⟨n', h'⟩ := hitb_iff.1 (List.find?_some e)
    obtain ⟨rfl, rfl⟩ := hit_one h' hh
    simp only []
    rw [List.getD_eq_getElem?_getD, hh.1]; rfl
theorem find_range {p : Nat → Bool} {n j : Nat} (hj : j < n) (h1 : p j = true) (h2 : ∀ k, k < j → p k = false) : (List.range n).find? p = some j := by
  rw [List.find?_eq_some_iff_append]
  refine ⟨h1, List.range j, (List.range (n - (j + 1))).map (fun x => j + 1 + x), ?_, fun a ha => by rw [h2 a (List.mem_range.1 ha)]; rfl⟩
  have e : n = j + 1 + (n - (j + 1)) := by omega
  rw [e, List.range_add, List.range_succ]
  simp
theorem may_less {ls : List Nat} {h : List Bool} {k : Nat} (hm : May ls h) (hk : k ≤ h.length) : May ls (h.take k) := by
  obtain ⟨s, n, h1, h2, h3, h4⟩ := hm
  have hl : (h.take k).length = k := by rw [List.length_take]; omega
  refine ⟨s, n, h1, h2, by omega, ?_⟩
  have e := take_num (h := h) hk (Nat.le_refl _)
  rw [List.take_length] at e
  rw [hl, e, ← h4, Nat.div_div_eq_div_mul, ← Nat.pow_add, show n - h.length + (h.length - k) = n - k by omega]
theorem hit_may {ls : List Nat} {h : List Bool} {s n k : Nat} (hh : Hit ls h s n) (hk : k ≤ n) : May ls (h.take k) := by
  obtain ⟨h1, h2, h3, h4⟩ := hh
  have hl : (h.take k).length = k := by rw [List.length_take]; omega
  refine ⟨s, n, h1, h2, by omega, ?_⟩
  rw [hl, ← h4]
  exact (take_num hk h3).symm
theorem hit_take {ls : List Nat} {h : List Bool} {s n j : Nat} (hh : Hit ls h s n) (hj : n ≤ j) : Hit ls (h.take j) s n := by
  obtain ⟨h1, h2, h3, h4⟩ := hh
  exact ⟨h1, h2, by rw [List.length_take]; omega, by rw [List.take_take, Nat.min_eq_left hj]; exact h4⟩
theorem hit_of_take {ls : List Nat} {h : List Bool} {s n j : Nat} (hh : Hit ls (h.take j) s n) : Hit ls h s n := by
  obtain ⟨h1, h2, h3, h4⟩ := hh
  rw [List.length_take] at h3
  exact ⟨h1, h2, by omega, by rw [List.take_take, Nat.min_eq_left (by omega)] at h4; exact h4⟩
theorem sread_no {ls : List Nat} {h : List Bool} (hn : ∀ s n, ¬ Hit ls h s n) : (List.range ls.length).find? (hitb ls h) = none := by
  rw [List.find?_eq_none]
  intro s _ hs
  obtain ⟨n, hh⟩ := hitb_iff.1 hs
  exact hn s n hh
theorem sread_bad {ls : List Nat} {h : List Bool} {j : Nat} (hj : j ≤ h.length) (h1 : ∀ s n, ¬ Hit ls (h.take j) s n) (h2 : ¬ May ls (h.take j)) (h3 : ∀ k, k < j → May ls (h.take k)) : sread ls h = .bad j := by
  have hn : ∀ s n, ¬ Hit ls h s n := by
    intro s n hh
    rcases Nat.lt_or_ge j n with hlt | hge
    · exact h2 (hit_may hh (by omega))
    · exact h1 s n (hit_take hh hge)
  unfold sread
  rw [sread_no hn]
  have : (List.range (h.length + 1)).find? (fun j => !mayb ls (h.take j)) = some j := find_range (by omega) (by
    cases e : mayb ls (h.take j)
    · rfl
    · exact absurd (mayb_iff.1 e) h2) (fun k hk => by rw [mayb_iff.2 (h3 k hk)]; rfl)
  simp only [this]
theorem sread_cut {ls : List Nat} {h : List Bool} (h1 : ∀ s n, ¬ Hit ls h s n) (h2 : May ls h) : sread ls h = .cut := by
  unfold sread
  rw [sread_no h1]
  have : (List.range (h.length + 1)).find? (fun j => !mayb ls (h.take j)) = none := by
    rw [List.find?_eq_none]
    intro j hj
    rw [mayb_iff.2 (may_less h2 (by have := List.mem_range.1 hj; omega))]
    simp
  simp only [this]
/-- A length symbol's least length, and how many bits stand behind it. -/
def lbase (s : Nat) : Nat := if s = 285 then 258 else (List.range (s - 257)).foldl (fun a i => a + 2 ^ (if 265 ≤ i + 257 then (i + 257 - 261) / 4 else 0)) 3
def lmore (s : Nat) : Nat := if s = 285 then 0 else if 265 ≤ s then (s - 261) / 4 else 0
def dbase (x : Nat) : Nat := (List.range x).foldl (fun a i => a + 2 ^ (if 4 ≤ i then (i - 2) / 2 else 0)) 1
def dmore (x : Nat) : Nat := if 4 ≤ x then (x - 2) / 2 else 0
def fixL : List Nat := (List.range 288).map fun i => if 256 ≤ i ∧ i < 280 then 7 else if 144 ≤ i ∧ i < 256 then 9 else 8
def fixD : List Nat := List.replicate 32 5
def ordr : List Nat := [16, 17, 18, 0, 8, 7, 9, 6, 10, 5, 11, 4, 12, 3, 13, 2, 14, 1, 15]
/-- What comes next. -/
abbrev St := ((((Bool ⊕ Bool) ⊕ ((Bool × Nat) ⊕ (Bool × Nat))) ⊕ ((Bool ⊕ (Bool × Nat × Nat × Nat × Nat × List Nat)) ⊕ ((Bool × Nat × Nat × List Nat × List Nat) ⊕ (Bool × Nat × Nat × List Nat × List Nat × Nat)))) ⊕ ((((Bool × List Nat × List Nat) ⊕ (Bool × List Nat × List Nat × Nat)) ⊕ ((Bool × List Nat × List Nat × Nat) ⊕ (Bool × List Nat × List Nat × Nat × Nat))) ⊕ (((Bool × List Nat × List Nat × Nat × Nat) ⊕ Unit) ⊕ Nat)))
abbrev St.head (last : Bool) : St := .inl (.inl (.inl (.inl last)))
abbrev St.slen (last : Bool) : St := .inl (.inl (.inl (.inr last)))
abbrev St.snot (last : Bool) (l : Nat) : St := .inl (.inl (.inr (.inl (last, l))))
abbrev St.sraw (last : Bool) (n : Nat) : St := .inl (.inl (.inr (.inr (last, n))))
abbrev St.dnum (last : Bool) : St := .inl (.inr (.inl (.inl last)))
abbrev St.dfst (last : Bool) (a : Nat) (b : Nat) (c : Nat) (i : Nat) (first : List Nat) : St := .inl (.inr (.inl (.inr (last, a, b, c, i, first))))
abbrev St.dsym (last : Bool) (a : Nat) (b : Nat) (code : List Nat) (l : List Nat) : St := .inl (.inr (.inr (.inl (last, a, b, code, l))))
abbrev St.drep (last : Bool) (a : Nat) (b : Nat) (code : List Nat) (l : List Nat) (s : Nat) : St := .inl (.inr (.inr (.inr (last, a, b, code, l, s))))
abbrev St.sym (last : Bool) (lit : List Nat) (dist : List Nat) : St := .inr (.inl (.inl (.inl (last, lit, dist))))
abbrev St.lext (last : Bool) (lit : List Nat) (dist : List Nat) (s : Nat) : St := .inr (.inl (.inl (.inr (last, lit, dist, s))))
abbrev St.dist (last : Bool) (lit : List Nat) (dist : List Nat) (n : Nat) : St := .inr (.inl (.inr (.inl (last, lit, dist, n))))
abbrev St.dext (last : Bool) (lit : List Nat) (dist : List Nat) (n : Nat) (x : Nat) : St := .inr (.inl (.inr (.inr (last, lit, dist, n, x))))
abbrev St.copy (last : Bool) (lit : List Nat) (dist : List Nat) (n : Nat) (d : Nat) : St := .inr (.inr (.inl (.inl (last, lit, dist, n, d))))
abbrev St.done : St := .inr (.inr (.inl (.inr ())))
abbrev St.bad (why : Nat) : St := .inr (.inr (.inr why))
theorem St.el {motive : St → Prop} (s : St) (head : ∀ (last_ : Bool), motive (.head last_)) (slen : ∀ (last_ : Bool), motive (.slen last_)) (snot : ∀ (last_ : Bool) (l_ : Nat), motive (.snot last_ l_)) (sraw : ∀ (last_ : Bool) (n_ : Nat), motive (.sraw last_ n_)) (dnum : ∀ (last_ : Bool), motive (.dnum last_)) (dfst : ∀ (last_ : Bool) (a_ : Nat) (b_ : Nat) (c_ : Nat) (i_ : Nat) (first_ : List Nat), motive (.dfst last_ a_ b_ c_ i_ first_)) (dsym : ∀ (last_ : Bool) (a_ : Nat) (b_ : Nat) (code_ : List Nat) (l_ : List Nat), motive (.dsym last_ a_ b_ code_ l_)) (drep : ∀ (last_ : Bool) (a_ : Nat) (b_ : Nat) (code_ : List Nat) (l_ : List Nat) (s_ : Nat), motive (.drep last_ a_ b_ code_ l_ s_)) (sym : ∀ (last_ : Bool) (lit_ : List Nat) (dist_ : List Nat), motive (.sym last_ lit_ dist_)) (lext : ∀ (last_ : Bool) (lit_ : List Nat) (dist_ : List Nat) (s_ : Nat), motive (.lext last_ lit_ dist_ s_)) (dist : ∀ (last_ : Bool) (lit_ : List Nat) (dist_ : List Nat) (n_ : Nat), motive (.dist last_ lit_ dist_ n_)) (dext : ∀ (last_ : Bool) (lit_ : List Nat) (dist_ : List Nat) (n_ : Nat) (x_ : Nat), motive (.dext last_ lit_ dist_ n_ x_)) (copy : ∀ (last_ : Bool) (lit_ : List Nat) (dist_ : List Nat) (n_ : Nat) (d_ : Nat), motive (.copy last_ lit_ dist_ n_ d_)) (done : motive (.done)) (bad : ∀ (why_ : Nat), motive (.bad why_)) : motive s :=
  match s with
  | .inl (.inl (.inl (.inl last_))) => head last_
  | .inl (.inl (.inl (.inr last_))) => slen last_
  | .inl (.inl (.inr (.inl (last_, l_)))) => snot last_ l_
  | .inl (.inl (.inr (.inr (last_, n_)))) => sraw last_ n_
  | .inl (.inr (.inl (.inl last_))) => dnum last_
  | .inl (.inr (.inl (.inr (last_, a_, b_, c_, i_, first_)))) => dfst last_ a_ b_ c_ i_ first_
  | .inl (.inr (.inr (.inl (last_, a_, b_, code_, l_)))) => dsym last_ a_ b_ code_ l_
  | .inl (.inr (.inr (.inr (last_, a_, b_, code_, l_, s_)))) => drep last_ a_ b_ code_ l_ s_
  | .inr (.inl (.inl (.inl (last_, lit_, dist_)))) => sym last_ lit_ dist_
  | .inr (.inl (.inl (.inr (last_, lit_, dist_, s_)))) => lext last_ lit_ dist_ s_
  | .inr (.inl (.inr (.inl (last_, lit_, dist_, n_)))) => dist last_ lit_ dist_ n_
  | .inr (.inl (.inr (.inr (last_, lit_, dist_, n_, x_)))) => dext last_ lit_ dist_ n_ x_
  | .inr (.inr (.inl (.inl (last_, lit_, dist_, n_, d_)))) => copy last_ lit_ dist_ n_ d_
  | .inr (.inr (.inl (.inr ()))) => done 
  | .inr (.inr (.inr why_)) => bad why_
structure Cfg where
  st : St
  pos : Nat
  out : List Nat
  times : List Nat
/-- A byte is known, with the bits up to p; most: how many may be. -/
def give (most : Nat) (k : St) (b p : Nat) (c : Cfg) : Cfg := if c.out.length < most then ⟨k, p, c.out ++ [b], c.times ++ [(p - 1) / 8]⟩ else ⟨.bad 62, p, c.out, c.times⟩
/-- May lengths be those of codes? -/
def mays (ls : List Nat) : Bool := decide (ls.length ≤ 320 ∧ (∀ l ∈ ls, l ≤ 15) ∧ kr ls ≤ 32768 ∧ ¬ Under ls)
/-- One step; none: more bits are wanted, or it is over. -/
def step (bs : List Bool) (most : Nat) (c : Cfg) : Option Cfg := match c.st with
  | .inl (.inl (.inl (.inl true))) => some ⟨.done, c.pos, c.out, c.times⟩
  | .inl (.inl (.inl (.inl false))) => (num? bs c.pos 3).map fun v => ⟨match v / 2 with
      | 0 => .slen (v % 2 == 1)
      | 1 => .sym (v % 2 == 1) fixL fixD
      | 2 => .dnum (v % 2 == 1)
      | _ => .bad 10, c.pos + 3, c.out, c.times⟩
  | .inl (.inl (.inl (.inr last))) => (num? bs ((c.pos + 7) / 8 * 8) 16).map fun v => ⟨.snot last v, (c.pos + 7) / 8 * 8 + 16, c.out, c.times⟩
  | .inl (.inl (.inr (.inl (last, l)))) => (num? bs c.pos 16).map fun m => ⟨if l + m = 65535 then .sraw last l else .bad 11, c.pos + 16, c.out, c.times⟩
  | .inl (.inl (.inr (.inr (last, 0)))) => some ⟨.head last, c.pos, c.out, c.times⟩
  | .inl (.inl (.inr (.inr (last, (n + 1))))) => (num? bs c.pos 8).map fun v => give most (.sraw last n) v (c.pos + 8) c
  | .inl (.inr (.inl (.inl last))) => (num? bs c.pos 14).map fun v => ⟨if 286 < 257 + v % 32 ∨ 30 < 1 + v / 32 % 32 then .bad 12 else .dfst last (257 + v % 32) (1 + v / 32 % 32) (4 + v / 1024) 0 (List.replicate 19 0), c.pos + 14, c.out, c.times⟩
  | .inl (.inr (.inl (.inr (last, a, b, k, i, first)))) => if i < k then (num? bs c.pos 3).map fun v => ⟨.dfst last a b k (i + 1) (first.set (ordr.getD i 0) v), c.pos + 3, c.out, c.times⟩
      else some ⟨if kr first = 32768 then .dsym last a b first [] else .bad 12, c.pos, c.out, c.times⟩
  | .inl (.inr (.inr (.inl (last, a, b, code, l)))) => if l.length < a + b then match sread code (bs.drop c.pos) with
        | none => none
        | some (.inr j) => some ⟨.bad 13, c.pos + j, c.out, c.times⟩
        | some (.inl (s, n)) => some ⟨if s < 16 then .dsym last a b code (l ++ [s]) else if s = 16 ∧ l = [] then .bad 12 else .drep last a b code l s, c.pos + n, c.out, c.times⟩
      else some ⟨if l.getD 256 0 = 0 ∨ mays (l.take a) = false ∨ mays (l.drop a) = false then .bad 12 else .sym last (l.take a) (l.drop a), c.pos, c.out, c.times⟩
  | .inl (.inr (.inr (.inr (last, a, b, code, l, s)))) => (num? bs c.pos (if s = 16 then 2 else if s = 17 then 3 else 7)).map fun v =>
      ⟨if a + b < l.length + ((if s = 18 then 11 else 3) + v) then .bad 12 else .dsym last a b code (l ++ List.replicate ((if s = 18 then 11 else 3) + v) (if s = 16 then l.getD (l.length - 1) 0 else 0)), c.pos + (if s = 16 then 2 else if s = 17 then 3 else 7), c.out, c.times⟩
  | .inr (.inl (.inl (.inl (last, lit, di)))) => match sread lit (bs.drop c.pos) with
      | none => none
      | some (.inr j) => some ⟨.bad 13, c.pos + j, c.out, c.times⟩
      | some (.inl (s, n)) => if s < 256 then some (give most (.sym last lit di) s (c.pos + n) c)
          else some ⟨if s = 256 then .head last else if 285 < s then .bad 13 else .lext last lit di s, c.pos + n, c.out, c.times⟩
  | .inr (.inl (.inl (.inr (last, lit, di, s)))) => (num? bs c.pos (lmore s)).map fun v => ⟨.dist last lit di (lbase s + v), c.pos + lmore s, c.out, c.times⟩
  | .inr (.inl (.inr (.inl (last, lit, di, n)))) => match sread di (bs.drop c.pos) with
      | none => none
      | some (.inr j) => some ⟨.bad 13, c.pos + j, c.out, c.times⟩
      | some (.inl (x, k)) => some ⟨if 29 < x then .bad 13 else .dext last lit di n x, c.pos + k, c.out, c.times⟩
  | .inr (.inl (.inr (.inr (last, lit, di, n, x)))) => (num? bs c.pos (dmore x)).map fun v => ⟨if c.out.length < dbase x + v then .bad 14 else .copy last lit di n (dbase x + v), c.pos + dmore x, c.out, c.times⟩
  | .inr (.inr (.inl (.inl (last, lit, di, 0, d)))) => some ⟨.sym last lit di, c.pos, c.out, c.times⟩
  | .inr (.inr (.inl (.inl (last, lit, di, (n + 1), d)))) => some (give most (.copy last lit di n d) (c.out.getD (c.out.length - d) 0) c.pos c)
  | .inr (.inr (.inl (.inr ()))) => none
  | .inr (.inr (.inr _)) => none
/-- Some steps. -/
def Runk (bs : List Bool) (most : Nat) : Nat → Cfg → Cfg → Prop
  | 0, c, e => c = e
  | k + 1, c, e => ∃ d, step bs most c = some d ∧ Runk bs most k d e
def Runs (bs : List Bool) (most : Nat) (c e : Cfg) : Prop := ∃ k, Runk bs most k c e
theorem Runs.refl {bs : List Bool} {most : Nat} (c : Cfg) : Runs bs most c c := ⟨0, rfl⟩
theorem Runs.cons {bs : List Bool} {most : Nat} {c d e : Cfg} (h : step bs most c = some d) (r : Runs bs most d e) : Runs bs most c e := by
  obtain ⟨k, r⟩ := r
  exact ⟨k + 1, d, h, r⟩
theorem Runs.el {bs : List Bool} {most : Nat} {motive : ∀ c e : Cfg, Runs bs most c e → Prop} {c e : Cfg} (target : Runs bs most c e) (refl : ∀ c : Cfg, motive c c (Runs.refl c)) (cons : ∀ {c d e : Cfg} (h : step bs most c = some d) (r : Runs bs most d e), motive d e r → motive c e (Runs.cons h r)) : motive c e target := by
  obtain ⟨k, t⟩ := target
  induction k generalizing c with
  | zero =>
    have x : c = e := t
    subst x
    exact refl c
  | succ k ih =>
    obtain ⟨d, h, r⟩ := id t
    exact cons h ⟨k, r⟩ (ih r)
theorem Runs.cs {bs : List Bool} {most : Nat} {motive : ∀ c e : Cfg, Runs bs most c e → Prop} {c e : Cfg} (target : Runs bs most c e) (refl : ∀ c : Cfg, motive c c (Runs.refl c)) (cons : ∀ {c d e : Cfg} (h : step bs most c = some d) (r : Runs bs most d e), motive c e (Runs.cons h r)) : motive c e target := Runs.el (motive := motive) target refl (fun h r _ => cons h r)
theorem Runs.trans {bs : List Bool} {most : Nat} {c d e : Cfg} (h : Runs bs most c d) (k : Runs bs most d e) : Runs bs most c e := by
  induction h using Runs.el with
  | refl => exact k
  | cons h1 _ ih => exact .cons h1 (ih k)
theorem Runs.one {bs : List Bool} {most : Nat} {c d : Cfg} (h : step bs most c = some d) : Runs bs most c d := .cons h (.refl d)
/-- There is one end. -/
theorem Runs.det {bs : List Bool} {most : Nat} {c d e : Cfg} (h : Runs bs most c d) (k : Runs bs most c e) (hd : step bs most d = none) (he : step bs most e = none) : d = e := by
  induction h using Runs.el with
  | refl =>
    cases k using Runs.cs with
    | refl => rfl
    | cons h1 _ => rw [hd] at h1; cases h1
  | cons h1 _ ih =>
    cases k using Runs.cs with
    | refl => rw [he] at h1; cases h1
    | cons h2 k2 =>
      rw [h1] at h2; cases h2
      exact ih k2 hd
end Go.Proofs.YtogednaamndpgaaGreatDoor

/-
  The inflater in memory: 355 cells by a function of their place, its reader, its window; what may turn while it works.
-/
namespace Go.Proofs.YtogednaamndpgaaGreatDoor
open Go.RowKit
set_option linter.unusedVariables false
/-- 355 cells by a function. -/
def cz (f : Nat → Value) : Array Value := ((List.range 355).map f).toArray
def upd (f : Nat → Value) (i : Nat) (v : Value) : Nat → Value := fun j => if j = i then v else f j
theorem upd_same (f : Nat → Value) (i : Nat) (v : Value) : upd f i v i = v := by simp [upd]
theorem upd_ne (f : Nat → Value) {i j : Nat} (v : Value) (h : j ≠ i) : upd f i v j = f j := by simp [upd, h]
theorem cz_size (f : Nat → Value) : (cz f).size = 355 := by simp [cz]
theorem cz_at (f : Nat → Value) {i : Nat} (h : i < 355) : (cz f)[i]? = some (f i) := by simp [cz, h]
theorem cz_set (f : Nat → Value) (i : Nat) (v : Value) : (cz f).setIfInBounds i v = cz (upd f i v) := by
  apply Array.ext
  · simp [cz]
  · intro j h1 h2
    have hj : j < 355 := by simpa [cz] using h2
    simp only [cz, List.setIfInBounds_toArray, List.getElem_toArray, List.getElem_set, List.getElem_map, List.getElem_range, upd]
    by_cases e : i = j
    · simp [e]
    · simp [e, Ne.symm e]
/-- What may have turned while the inflater worked: its own four blocks, from B on; memory may have come. -/
structure Fm (B : Nat) (w w' : World) : Prop where
  os : w'.os = w.os
  tape : w'.tape = w.tape
  output : w'.output = w.output
  size : w.heap.size ≤ w'.heap.size
  block : ∀ k, k < w.heap.size → (k < B ∨ B + 4 ≤ k) → w'.heap[k]? = w.heap[k]?
section
variable {B : Nat} {w u v : World}
theorem Fm.refl (B : Nat) (w : World) : Fm B w w := ⟨rfl, rfl, rfl, Nat.le_refl _, fun _ _ _ => rfl⟩
theorem Fm.trans (h : Fm B w u) (k : Fm B u v) : Fm B w v := ⟨k.os.trans h.os, k.tape.trans h.tape, k.output.trans h.output, Nat.le_trans h.size k.size, fun i hi hk => (k.block i (Nat.lt_of_lt_of_le hi h.size) hk).trans (h.block i hi hk)⟩
theorem Fm.drewN (h : Fm B w u) (n : Nat) : Fm B w (u.drewN n) := ⟨h.os, h.tape, h.output, h.size, h.block⟩
theorem Fm.drew (h : Fm B w u) : Fm B w u.drew := ⟨h.os, h.tape, h.output, h.size, h.block⟩
theorem Fm.of_only {c : Nat} (h : Only c w u) (h1 : B ≤ c) (h2 : c < B + 4) : Fm B w u := ⟨h.os, h.tape, h.output, Nat.le_of_eq h.size.symm, fun k _ hk => h.block k (by omega)⟩
theorem Fm.of_but {c : Nat} (h : But c w u) (h1 : B ≤ c) (h2 : c < B + 4) : Fm B w u := ⟨h.os, h.tape, h.output, h.size, fun k hk hh => h.block k hk (by omega)⟩
theorem Fm.of_two {c d : Nat} (h : GTwo c d w u) (h1 : B ≤ c) (h2 : c < B + 4) (h3 : B ≤ d) (h4 : d < B + 4) : Fm B w u := ⟨h.os, h.tape, h.output, Nat.le_of_eq h.size.symm, fun k _ hk => h.block k (by omega) (by omega)⟩
theorem Fm.of_below {C : Nat} (h : Below C w u) (hC : w.heap.size ≤ C) : Fm B w u := ⟨h.os, h.tape, h.output, h.size, fun k hk _ => h.block k (by omega)⟩
theorem Fm.below (h : Fm B w u) (hB : B ≤ w.heap.size) : Below B w u := ⟨h.os, h.tape, h.output, h.size, fun k hk => h.block k (by omega) (Or.inl hk)⟩
end
/-- The inflater in memory: D itself, b its reader, R its window, whose cells lie in block B; h what bits are held, l what the window has. -/
structure Bs (w : World) (B D b R : Nat) (f : Nat → Value) (h : List Bool) (l : List Int) : Prop where
  fr : Cells w D (cz f) 92
  c0 : f 0 = .pointer (some ⟨b, 0, none⟩)
  c1 : f 1 = .pointer (some ⟨R, 0, none⟩)
  br : Br w b (nm h) h.length
  rg : GRg w R B 32768 l
  eD : D = B + 3
  eb : b = B + 2
  eR : R = B + 1
section
variable {w u : World} {B D b R : Nat} {f : Nat → Value} {h : List Bool} {l : List Int}
theorem Bs.cell (s : Bs w B D b R f h l) {i : Nat} (hi : i < 355) : w.cell? ⟨D, i, none⟩ = some (f i) := (s.fr.cell i).trans (cz_at f hi)
theorem Bs.fz (s : Bs w B D b R f h l) (i : Nat) : w.frozen? ⟨D, i, none⟩ = false := s.fr.frozen i
theorem Bs.drewN (s : Bs w B D b R f h l) (n : Nat) : Bs (w.drewN n) B D b R f h l := ⟨s.fr, s.c0, s.c1, s.br.drewN n, s.rg.drewN n, s.eD, s.eb, s.eR⟩
theorem Bs.drew (s : Bs w B D b R f h l) : Bs w.drew B D b R f h l := ⟨s.fr, s.c0, s.c1, s.br.drew, s.rg.drew, s.eD, s.eb, s.eR⟩
theorem Bs.lt (s : Bs w B D b R f h l) : B + 4 ≤ w.heap.size := by have := s.fr.lt; have := s.eD; omega
theorem Bs.onD (s : Bs w B D b R f h l) (k : Only D w u) {f' : Nat → Value} (hf : Cells u D (cz f') 92) (h0 : f' 0 = f 0) (h1 : f' 1 = f 1) : Bs u B D b R f' h l :=
  ⟨hf, h0.trans s.c0, h1.trans s.c1, s.br.only k (by have := s.eD; have := s.eb; omega), s.rg.only k (by have := s.eD; have := s.eR; omega) (by have := s.eD; omega), s.eD, s.eb, s.eR⟩
theorem Bs.set (s : Bs w B D b R f h l) (i : Nat) (v : Value) (hi : 2 ≤ i) : Bs (w.setCell ⟨D, i, none⟩ v) B D b R (upd f i v) h l :=
  s.onD ((Only.refl D w).setCell i v) (by have := s.fr.set i v; rwa [cz_set] at this) (upd_ne f v (by omega)) (upd_ne f v (by omega))
theorem Bs.onb (s : Bs w B D b R f h l) (k : Only b w u) {h' : List Bool} (hb : Br u b (nm h') h'.length) : Bs u B D b R f h' l :=
  ⟨s.fr.only k (by have := s.eD; have := s.eb; omega), s.c0, s.c1, hb, s.rg.only k (by have := s.eb; have := s.eR; omega) (by have := s.eb; omega), s.eD, s.eb, s.eR⟩
theorem Cells.but {w u : World} {c k : Nat} {cs : Array Value} {t : TypeId} (h : Cells w c cs t) (q : But k w u) (hc : c ≠ k) : Cells u c cs t := by
  have := h.lt
  unfold Cells at *
  rw [q.block c this hc]; exact h
theorem Bs.onbut (s : Bs w B D b R f h l) (k : But b w u) {h' : List Bool} (hb : Br u b (nm h') h'.length) : Bs u B D b R f h' l := by
  refine ⟨s.fr.but k (by have := s.eD; have := s.eb; omega), s.c0, s.c1, hb, ?_, s.eD, s.eb, s.eR⟩
  obtain ⟨x, cs, lo, hh⟩ := s.rg.ex
  exact ⟨x, cs, ⟨lo.hd.but k (by have := s.eb; have := s.eR; omega), lo.row.but k (by have := s.eb; omega), lo.len, lo.n1, lo.n2, lo.xlt, lo.hle, lo.ne⟩, hh⟩
theorem Bs.below (s : Bs w B D b R f h l) {C : Nat} (k : Below C w u) (hC : w.heap.size ≤ C) : Bs u B D b R f h l := by
  have := s.lt
  exact ⟨s.fr.below k (by have := s.eD; omega), s.c0, s.c1, s.br.below k (by have := s.eb; omega), s.rg.below k (by have := s.eR; omega) (by omega), s.eD, s.eb, s.eR⟩
theorem Bs.onR (s : Bs w B D b R f h l) (k : GTwo R B w u) {l' : List Int} (hr : GRg u R B 32768 l') : Bs u B D b R f h l' := by
  have e1 := s.eD; have e2 := s.eb; have e3 := s.eR
  refine ⟨?_, s.c0, s.c1, ⟨?_, s.br.lt, s.br.le⟩, hr, s.eD, s.eb, s.eR⟩
  · have := s.fr; unfold Cells at *; rw [k.block D (by omega) (by omega)]; exact this
  · obtain ⟨t, ht⟩ := s.br.rd
    exact ⟨t, by unfold Cells at *; rw [k.block b (by omega) (by omega)]; exact ht⟩
end
/-- A table that the inflater made. -/
def Tbl (w : World) (B : Nat) (v : Value) (ls : List Nat) : Prop := ∃ lo hi T, v = .pointer (some ⟨T, 0, none⟩) ∧ B + 4 ≤ lo ∧ hi ≤ w.heap.size ∧ PT w lo hi T ls ∧ ls.length ≤ 320
theorem Tbl.fm {w u : World} {B : Nat} {v : Value} {ls : List Nat} (h : Tbl w B v ls) (k : Fm B w u) : Tbl u B v ls := by
  obtain ⟨lo, hi, T, h1, h2, h3, h4, h5⟩ := h
  exact ⟨lo, hi, T, h1, h2, Nat.le_trans h3 k.size, h4.keep fun j hj1 hj2 => k.block j (by omega) (Or.inr (by omega)), h5⟩
/-- What the window has behind one byte more. -/
def wput (l : List Int) (z : Int) : List Int := glastN 32768 (l ++ [z])
/-- A step, as a value. -/
def fnv (D k : Nat) : Value := .func (.func k) #[.pointer (some ⟨D, 0, none⟩)] #[]
section
variable {w : World} {B D b R : Nat} {f : Nat → Value} {h : List Bool} {l : List Int}
theorem pthen_c (k : Nat) (w : World) (s : Bs w B D b R f h l) : Calls Tryz.prog 66 #[.pointer (some ⟨D, 0, none⟩), .func (.func k) #[.pointer (some ⟨D, 0, none⟩)] #[]] w fun e w' => e = .returned (.bool true) ∧ Bs w' B D b R (upd f 2 (fnv D k)) h l ∧ Fm B w w' := by
  have c2 := s.cell (show 2 < 355 by decide)
  have z2 := s.fz 2
  go_enter Tryz.func66, Tryz.ntmps66
  go_wp2_with fail
  go_ret
  exact ⟨rfl, s.set 2 _ (by decide), Fm.of_only ((Only.refl D w).setCell 2 _) (by have := s.eD; omega) (by have := s.eD; omega)⟩
theorem pstop_c (y : Int) (w : World) (s : Bs w B D b R f h l) : Calls Tryz.prog 71 #[.pointer (some ⟨D, 0, none⟩), .int .i64 y] w fun e w' => e = .returned (.bool false) ∧ Bs w' B D b R (upd f 354 (.int .i64 y)) h l ∧ Fm B w w' := by
  have c2 := s.cell (show 354 < 355 by decide)
  have z2 := s.fz 354
  go_enter Tryz.func71, Tryz.ntmps71
  go_wp2_with fail
  go_ret
  exact ⟨rfl, s.set 354 _ (by decide), Fm.of_only ((Only.refl D w).setCell 354 _) (by have := s.eD; omega) (by have := s.eD; omega)⟩
theorem pgive_c (z : Int) (w : World) (s : Bs w B D b R f h l) : Calls Tryz.prog 98 #[.pointer (some ⟨D, 0, none⟩), .int .u8 z] w fun e w' => e = .returned (.bool false) ∧ Bs w' B D b R (upd (upd f 351 (.int .u8 z)) 352 (.bool true)) h (wput l z) ∧ Fm B w w' := by
  have c1 := (s.cell (show 1 < 355 by decide)).trans (congrArg some s.c1)
  have hput := gput_r z w s.rg
  have AS : Aside (Bs w B D b R f h l) := s
  clear s
  go_enter Tryz.func98, Tryz.ntmps98
  go_upto_region 2 with (go_at_call 112; refine hput.mono ?_; rintro e2 w2 ⟨rfl, hr2, ht2⟩)
  have s2 := AS.out.onR ht2 hr2
  have c3 := s2.cell (show 351 < 355 by decide)
  have c4 := s2.cell (show 352 < 355 by decide)
  have z3 := s2.fz 351
  have z4 := s2.fz 352
  clear hput c1
  go_wp2_with fail
  go_ret
  refine ⟨rfl, (s2.set 351 _ (by decide)).set 352 _ (by decide), (Fm.of_two ht2 ?_ ?_ ?_ ?_).trans (Fm.of_only (((Only.refl D w2).setCell 351 _).setCell 352 _) ?_ ?_)⟩ <;> have := s2.eD <;> have := s2.eR <;> omega
end
end Go.Proofs.YtogednaamndpgaaGreatDoor

/-
  The document's run in memory, and what its small calls (open, stop, cut) come to.
-/
namespace Go.Proofs.YtogednaamndpgaaGreatDoor
open Go.RowKit
set_option linter.unusedVariables false
/-- Bytes that lie side by side. -/
def Lies (w : World) (a : Option Addr) (l : List Nat) : Prop := l = [] ∨ ∃ (b o : Nat), a = some ⟨b, o, none⟩ ∧ ∀ (i x : Nat), l[i]? = some x → w.cell? ⟨b, o + i, none⟩ = some (.int .u8 (x : Int))
def Oct (l : List Nat) : Prop := ∀ x ∈ l, x < 256
theorem Lies.below {w u : World} {a : Option Addr} {l : List Nat} (h : Lies w a l) (k : Below w.heap.size w u) : Lies u a l := by
  rcases h with h | ⟨b, o, ha, hc⟩
  · exact Or.inl h
  · exact Or.inr ⟨b, o, ha, fun i x hx => (k.cell (p := ⟨b, o + i, none⟩) (World.block_lt_of_cell? w ⟨b, o + i, none⟩ (hc i x hx))).trans (hc i x hx)⟩
def vn (l : List Nat) : List Value := l.map fun x : Nat => Value.int .u8 (x : Int)
def vt (l : List Nat) : List Value := l.map fun x : Nat => Value.int .i64 (x : Int)
/-- What a run knows. -/
structure Rs where
  pos : Nat
  out : List Nat
  times : List Nat
  why : Nat
  at_ : Nat
  ended : Bool
/-- The document's run, in block R. -/
structure Rn (w : World) (base R : Nat) (a : Option Addr) (L C most : Nat) (s : Rs) (vO vT : Value) : Prop where
  cells : ∃ full : Bool, Cells w R #[.slice a L C, .int .i64 (most : Int), vO, vT, .int .i64 (s.why : Int), .int .i64 (s.at_ : Int), .bool s.ended, .int .i64 (s.pos : Int), .bool full] 76
  oo : w.ownsRow base 5 1 vO s.out.length (vn s.out)
  ot : w.ownsRow base 3 1 vT s.times.length (vt s.times)
  rb : base ≤ R
  tl : s.times.length = s.out.length
variable {w u : World} {base R L C most : Nat} {a : Option Addr} {s : Rs} {vO vT : Value}
theorem Rn.lt (h : Rn w base R a L C most s vO vT) : R < w.heap.size := by obtain ⟨f, h⟩ := h.cells; exact h.lt
theorem Rn.drewN (h : Rn w base R a L C most s vO vT) (n : Nat) : Rn (w.drewN n) base R a L C most s vO vT := ⟨h.cells, h.oo, h.ot, h.rb, h.tl⟩
theorem Rn.drew (h : Rn w base R a L C most s vO vT) : Rn w.drew base R a L C most s vO vT := ⟨h.cells, h.oo, h.ot, h.rb, h.tl⟩
theorem Rn.aO (h : Rn w base R a L C most s vO vT) : vO.ownBlock ≠ some R := by
  obtain ⟨f, hc⟩ := h.cells
  rcases h.oo.2 with ⟨rfl, _⟩ | ⟨g, c, cur, rfl, _, hg, _⟩
  · intro e; cases e
  · intro e
    have : g = R := by simpa [Value.ownBlock] using e
    subst this
    unfold Cells at hc; rw [hg] at hc; cases hc
theorem Rn.aT (h : Rn w base R a L C most s vO vT) : vT.ownBlock ≠ some R := by
  obtain ⟨f, hc⟩ := h.cells
  rcases h.ot.2 with ⟨rfl, _⟩ | ⟨g, c, cur, rfl, _, hg, _⟩
  · intro e; cases e
  · intro e
    have : g = R := by simpa [Value.ownBlock] using e
    subst this
    unfold Cells at hc; rw [hg] at hc; cases hc
theorem Rn.aOT (h : Rn w base R a L C most s vO vT) : vO.ownBlock = none ∨ vO.ownBlock ≠ vT.ownBlock := by
  rcases h.oo.2 with ⟨rfl, _⟩ | ⟨g, c, cur, rfl, _, hg, _⟩
  · exact Or.inl rfl
  · right
    rcases h.ot.2 with ⟨rfl, _⟩ | ⟨g', c', cur', rfl, _, hg', _⟩
    · intro e; cases e
    · intro e
      have : g = g' := by simpa [Value.ownBlock] using e
      subst this
      rw [hg] at hg'
      cases hg'
theorem own_only {X e size n : Nat} {v : Value} {xs : List Value} (h : w.ownsRow base e size v n xs) (k : Only X w u) (hne : v.ownBlock ≠ some X) : u.ownsRow base e size v n xs :=
  h.kept (row := some X) ⟨k.os, k.tape, k.output, Nat.le_of_eq k.size.symm, fun i hi hx => k.block i (fun e => hx (by rw [e]))⟩ (Or.inr hne)
/-- Something in the run's own block has turned. -/
theorem Rn.only (h : Rn w base R a L C most s vO vT) (k : Only R w u) {s' : Rs} (hc : ∃ full : Bool, Cells u R #[.slice a L C, .int .i64 (most : Int), vO, vT, .int .i64 (s'.why : Int), .int .i64 (s'.at_ : Int), .bool s'.ended, .int .i64 (s'.pos : Int), .bool full] 76) (h1 : s'.out = s.out) (h2 : s'.times = s.times) : Rn u base R a L C most s' vO vT :=
  ⟨hc, by rw [h1]; exact own_only h.oo k h.aO, by rw [h2]; exact own_only h.ot k h.aT, h.rb, by rw [h1, h2]; exact h.tl⟩
theorem Rn.c0 (h : Rn w base R a L C most s vO vT) : w.cell? ⟨R, 0, none⟩ = some (.slice a L C) := by obtain ⟨f, h⟩ := h.cells; rw [h.cell]; rfl
theorem Rn.c1 (h : Rn w base R a L C most s vO vT) : w.cell? ⟨R, 1, none⟩ = some (.int .i64 (most : Int)) := by obtain ⟨f, h⟩ := h.cells; rw [h.cell]; rfl
theorem Rn.c2 (h : Rn w base R a L C most s vO vT) : w.cell? ⟨R, 2, none⟩ = some vO := by obtain ⟨f, h⟩ := h.cells; rw [h.cell]; rfl
theorem Rn.c3 (h : Rn w base R a L C most s vO vT) : w.cell? ⟨R, 3, none⟩ = some vT := by obtain ⟨f, h⟩ := h.cells; rw [h.cell]; rfl
theorem Rn.c4 (h : Rn w base R a L C most s vO vT) : w.cell? ⟨R, 4, none⟩ = some (.int .i64 (s.why : Int)) := by obtain ⟨f, h⟩ := h.cells; rw [h.cell]; rfl
theorem Rn.c5 (h : Rn w base R a L C most s vO vT) : w.cell? ⟨R, 5, none⟩ = some (.int .i64 (s.at_ : Int)) := by obtain ⟨f, h⟩ := h.cells; rw [h.cell]; rfl
theorem Rn.c6 (h : Rn w base R a L C most s vO vT) : w.cell? ⟨R, 6, none⟩ = some (.bool s.ended) := by obtain ⟨f, h⟩ := h.cells; rw [h.cell]; rfl
theorem Rn.c7 (h : Rn w base R a L C most s vO vT) : w.cell? ⟨R, 7, none⟩ = some (.int .i64 (s.pos : Int)) := by obtain ⟨f, h⟩ := h.cells; rw [h.cell]; rfl
theorem Rn.fz (h : Rn w base R a L C most s vO vT) (i : Nat) : w.frozen? ⟨R, i, none⟩ = false := by obtain ⟨f, h⟩ := h.cells; exact h.frozen i
/-- Is it neither stopped nor ended? -/
def Rs.opn (s : Rs) : Bool := s.why == 0 && !s.ended
theorem open_c (h : Rn w base R a L C most s vO vT) : Calls Tryz.prog 58 #[.pointer (some ⟨R, 0, none⟩)] w fun e w' => e = .returned (.bool s.opn) ∧ w = w' := by
  have c4 := h.c4
  have c6 := h.c6
  obtain ⟨y, hy⟩ : ∃ y, s.why = y := ⟨_, rfl⟩
  obtain ⟨e, he⟩ : ∃ e, s.ended = e := ⟨_, rfl⟩
  unfold Rs.opn
  rw [hy] at c4 ⊢
  rw [he] at c6 ⊢
  by_cases h0 : y = 0
  · have t0 : ((y : Int) == 0) = true := beq_iff_eq.2 (by omega)
    rw [h0]
    rw [h0] at c4
    go_enter Tryz.func58, Tryz.ntmps58
    go_wp2_with fail
    first | go_ret | go_ret2
    exact ⟨rfl, rfl⟩
  · have t0 : ((y : Int) == 0) = false := beq_eq_false_iff_ne.2 (by omega)
    have t1 : (y == 0) = false := beq_eq_false_iff_ne.2 h0
    rw [t1]
    clear h0
    go_enter Tryz.func58, Tryz.ntmps58
    go_wp2_with fail
    first | go_ret | go_ret2
    exact ⟨rfl, rfl⟩
theorem tdiv8 (p : Nat) : ((p : Int) - 1).tdiv 8 = (((p - 1) / 8 : Nat) : Int) := by
  cases p with
  | zero => rfl
  | succ p =>
    rw [show ((p + 1 : Nat) : Int) - 1 = ((p : Nat) : Int) by omega, Int.tdiv_eq_ediv_of_nonneg (by omega)]
    simp
theorem stop_c (h : Rn w base R a L C most s vO vT) (y : Nat) (hp : s.pos < 1000000000000000000) : Calls Tryz.prog 63 #[.pointer (some ⟨R, 0, none⟩), .int .i64 (y : Int)] w fun e w' => e = .returned (.tuple #[]) ∧ Rn w' base R a L C most { s with why := y, at_ := (s.pos - 1) / 8 } vO vT ∧ Only R w w' := by
  have c7 := h.c7
  have c4 := h.c4
  have c5 := h.c5
  have f4 := h.fz 4
  have f5 := h.fz 5
  obtain ⟨f, hc⟩ := h.cells
  have k1 := hc.set 4 (.int .i64 (y : Int))
  have c5' : (w.setCell ⟨R, 4, none⟩ (.int .i64 (y : Int))).cell? ⟨R, 5, none⟩ = some (.int .i64 (s.at_ : Int)) := by rw [k1.cell]; rfl
  have c7' : (w.setCell ⟨R, 4, none⟩ (.int .i64 (y : Int))).cell? ⟨R, 7, none⟩ = some (.int .i64 (s.pos : Int)) := by rw [k1.cell]; rfl
  have f5' := k1.frozen 5
  obtain ⟨p, hpp⟩ : ∃ p, s.pos = p := ⟨_, rfl⟩
  rw [hpp] at c7 c7' hp
  go_enter Tryz.func63, Tryz.ntmps63
  go_wp2_with fail
  rw [tdiv8]
  go_end0
  have o : Only R w ((w.setCell ⟨R, 4, none⟩ (.int .i64 (y : Int))).setCell ⟨R, 5, none⟩ (.int .i64 (((p - 1) / 8 : Nat) : Int))) := ((Only.refl R w).setCell _ _).setCell _ _
  refine ⟨rfl, h.only o ⟨f, ?_⟩ rfl rfl, o⟩
  subst hpp
  exact k1.set 5 (.int .i64 (((s.pos - 1) / 8 : Nat) : Int))
theorem cut_c (h : Rn w base R a L C most s vO vT) : Calls Tryz.prog 87 #[.pointer (some ⟨R, 0, none⟩)] w fun e w' => e = .returned (.tuple #[]) ∧ Rn w' base R a L C most { s with why := 1, at_ := L } vO vT ∧ Only R w w' := by
  have c4 := h.c4
  have f4 := h.fz 4
  obtain ⟨f, hc⟩ := h.cells
  have k1 := hc.set 4 (.int .i64 1)
  have c5' : (w.setCell ⟨R, 4, none⟩ (.int .i64 1)).cell? ⟨R, 5, none⟩ = some (.int .i64 (s.at_ : Int)) := by rw [k1.cell]; rfl
  have c0' : (w.setCell ⟨R, 4, none⟩ (.int .i64 1)).cell? ⟨R, 0, none⟩ = some (.slice a L C) := by rw [k1.cell]; rfl
  have f5' := k1.frozen 5
  go_enter Tryz.func87, Tryz.ntmps87
  go_wp2_with fail
  go_end0
  have o : Only R w ((w.setCell ⟨R, 4, none⟩ (.int .i64 1)).setCell ⟨R, 5, none⟩ (.int .i64 (L : Int))) := ((Only.refl R w).setCell _ _).setCell _ _
  refine ⟨rfl, h.only o ⟨f, ?_⟩ rfl rfl, o⟩
  exact k1.set 5 (.int .i64 (L : Int))
/-- The bits of bytes, one by one. -/
theorem allb_len : ∀ B : List Nat, (allb B).length = 8 * B.length
  | [] => rfl
  | x :: B => by
    have ih := allb_len B
    show (bitsOf 8 x ++ allb B).length = _
    rw [List.length_append, bitsOf_length, ih, List.length_cons]; omega
theorem allb_at : ∀ (B : List Nat) (k x : Nat), B[k / 8]? = some x → (allb B)[k]? = some (x / 2 ^ (k % 8) % 2 == 1)
  | [], k, x, h => by simp at h
  | y :: B, k, x, h => by
    show (bitsOf 8 y ++ allb B)[k]? = _
    by_cases hk : k < 8
    · have e : k / 8 = 0 := by omega
      rw [e] at h
      have : y = x := by simpa using h
      subst this
      rw [List.getElem?_append_left (by rw [bitsOf_length]; exact hk), show k % 8 = k by omega]
      simp [bitsOf, hk]
    · have e : k / 8 = (k - 8) / 8 + 1 := by omega
      rw [e, List.getElem?_cons_succ] at h
      rw [List.getElem?_append_right (by rw [bitsOf_length]; omega), bitsOf_length, allb_at B (k - 8) x h, show (k - 8) % 8 = k % 8 by omega]
theorem nm_next {bs : List Bool} {p i : Nat} {x : Bool} (h : bs[p + i]? = some x) : nm ((bs.drop p).take (i + 1)) = nm ((bs.drop p).take i) + (if x then 2 ^ i else 0) := by
  have hl : p + i < bs.length := (List.getElem?_eq_some_iff.1 h).1
  have e : (bs.drop p)[i]? = some x := by rw [List.getElem?_drop]; exact h
  rw [List.take_add_one, e]
  show nm (_ ++ [x]) = _
  rw [nm_append, List.length_take, List.length_drop, show min i (bs.length - p) = i by omega]
  cases x <;> simp [nm]
theorem bit_u8 (x k : Nat) (h : x < 256) : (bits .and .u8 ((x : Int) / 2 ^ k) 1 == 1) = (x / 2 ^ k % 2 == 1) := by
  have e : (x : Int) / 2 ^ k = ((x / 2 ^ k : Nat) : Int) := by push_cast; rfl
  have hb : x / 2 ^ k < 256 := Nat.lt_of_le_of_lt (Nat.div_le_self _ _) h
  rw [e, show (1 : Int) = ((1 : Nat) : Int) from rfl, u8_and_nat _ 1 hb (by decide), Nat.and_one_is_mod]
  have h2 : x / 2 ^ k % 2 = 0 ∨ x / 2 ^ k % 2 = 1 := by omega
  rcases h2 with h | h <;> rw [h] <;> rfl
set_option maxRecDepth 100000 in
set_option maxHeartbeats 2000000 in
theorem number_no (B : List Nat) (h : Rn w base R a L C most s vO vT) (hL : B.length = L) (hLb : L < 140737488355328) (n : Nat) (hn : n ≤ 16) (hp : s.pos < 1000000000000000000) (hx : num? (allb B) s.pos n = none) :
    Calls Tryz.prog 59 #[.pointer (some ⟨R, 0, none⟩), .int .i64 (n : Int)] w fun e w' => e = .returned (.int .i64 0) ∧ Rn w' base R a L C most { s with why := 1, at_ := L } vO vT ∧ Only R w w' := by
  have hgt : 8 * L < s.pos + n := by
    unfold num? at hx
    split at hx
    · cases hx
    · rename_i h2
      rw [allb_len, hL] at h2
      omega
  have c0 := h.c0
  have c7 := h.c7
  have hcut : ∀ q, Calls Tryz.prog 87 #[.pointer (some ⟨R, 0, none⟩)] (w.drewN q) fun e w' => e = .returned (.tuple #[]) ∧ Rn w' base R a L C most { s with why := 1, at_ := L } vO vT ∧ Only R (w.drewN q) w' := fun q => cut_c (h.drewN q)
  obtain ⟨p, hpp⟩ : ∃ p, s.pos = p := ⟨_, rfl⟩
  have AP : Aside (s.pos = p) := hpp
  rw [hpp] at c7 hp hgt
  have hgI : (8 : Int) * (L : Int) < (p : Int) + (n : Int) := by omega
  clear hgt hx hpp
  go_enter Tryz.func59, Tryz.ntmps59
  go_upto_region 1 with fail
  go_quiet (fail)
  go_wp2_with (go_at_call 87; refine (hcut _).mono ?_; rintro e2 w2 ⟨rfl, hr2, ho2⟩)
  first | go_ret | go_ret2
  exact ⟨rfl, hr2, ⟨ho2.os, ho2.tape, ho2.output, ho2.size, ho2.block⟩⟩
theorem w64_cast {n : Nat} (h : n < 9223372036854775808) : wrap64 (n : Int) = (n : Int) := by unfold wrap64; omega
theorem w64_pow (v i : Nat) (hv : v < 2 ^ i) (hi : i < 40) : wrap64 ((v : Int) + wrap64 (2 ^ i)) = ((v + 2 ^ i : Nat) : Int) := by
  have h1 : 2 ^ i ≤ 2 ^ 40 := Nat.pow_le_pow_right (by decide) (by omega)
  have e : (2 : Int) ^ i = ((2 ^ i : Nat) : Int) := by push_cast; rfl
  rw [e, w64_cast (by omega), ← Int.natCast_add, w64_cast (by omega)]
set_option maxRecDepth 100000 in
set_option maxHeartbeats 4000000 in
theorem number_yes (B : List Nat) (h : Rn w base R a L C most s vO vT) (hB : Lies w a B) (hL : B.length = L) (hLb : L < 140737488355328) (ho : Oct B) (n x : Nat) (hn : n ≤ 16) (hx : num? (allb B) s.pos n = some x) :
    Calls Tryz.prog 59 #[.pointer (some ⟨R, 0, none⟩), .int .i64 (n : Int)] w fun e w' => e = .returned (.int .i64 (x : Int)) ∧ Rn w' base R a L C most { s with pos := s.pos + n } vO vT ∧ Only R w w' := by
  have hle : s.pos + n ≤ 8 * L ∧ nm (((allb B).drop s.pos).take n) = x := by
    unfold num? at hx
    split at hx
    · rename_i h2
      rw [allb_len, hL] at h2
      exact ⟨h2, Option.some.inj hx⟩
    · cases hx
  have c0 := h.c0
  have c7 := h.c7
  obtain ⟨p, hpp⟩ : ∃ p, s.pos = p := ⟨_, rfl⟩
  rw [hpp] at c7 hle
  have hgI : ¬ (8 : Int) * (L : Int) < (p : Int) + (n : Int) := by omega
  have AP : Aside (s.pos = p ∧ p + n ≤ 8 * L ∧ nm (((allb B).drop p).take n) = x ∧ Rn w base R a L C most s vO vT ∧ Lies w a B ∧ B.length = L ∧ Oct B) := ⟨hpp, hle.1, hle.2, h, hB, hL, ho⟩
  have hpb : (p : Int) + (n : Int) < 9223372036854775807 := by omega
  have hL8 : (8 : Int) * (L : Int) < 9223372036854775807 := by omega
  clear hx hpp hle hB hL ho
  go_enter Tryz.func59, Tryz.ntmps59
  go_upto_region 1 with fail
  go_quiet (fail)
  have hr : Rn (w.drewN nq) base R a L C most s vO vT := h.drewN nq
  obtain ⟨w1, hw1⟩ : ∃ w1, w.drewN nq = w1 := ⟨_, rfl⟩
  have A1 : Aside (w.drewN nq = w1 ∧ Rn w1 base R a L C most s vO vT) := ⟨hw1, by rw [← hw1]; exact hr⟩
  rw [hw1]
  clear hw1 hr h c0 c7
  go_wp2_with fail
  go_loopg [5, 6, 7] n (fun g sv si s7 wr => ∃ i v : Nat, sv = .int .i64 (v : Int) ∧ si = .int .i64 (i : Int) ∧ Aside (i + g = n ∧ nm (((allb B).drop p).take i) = v) ∧ w1 = wr)
  case atStart => exact ⟨0, 0, rfl, rfl, ⟨by omega, by simp [nm]⟩, rfl⟩
  case round =>
    obtain ⟨i, v, rfl, rfl, hI, hw⟩ := hrel
    subst hw
    have hr := A1.out.2
    have c0 := hr.c0
    have c7 := hr.c7
    rw [AP.out.1] at c7
    by_cases hin : i < n
    · have hi1 : (i : Int) < (n : Int) := by omega
      obtain ⟨q, hq⟩ : ∃ q, p + i = q := ⟨_, rfl⟩
      have hqI : (p : Int) + (i : Int) = (q : Int) := by omega
      have hqL : q / 8 < L := by have := AP.out; omega
      obtain ⟨y, hy⟩ : ∃ y, B[q / 8]? = some y := ⟨_, List.getElem?_eq_getElem (by have := AP.out; omega)⟩
      have hy256 := AP.out.2.2.2.2.2.2 y (List.mem_of_getElem? hy)
      rcases AP.out.2.2.2.2.1 with e | ⟨b0, o0, rfl, hc⟩
      · rw [e] at hy; simp at hy
      have cy0 : w1.cell? ⟨b0, o0 + q / 8, none⟩ = some (.int .u8 (y : Int)) := by rw [← A1.out.1]; exact hc _ y hy
      obtain ⟨m, hm⟩ : ∃ m, q / 8 = m := ⟨_, rfl⟩
      obtain ⟨k, hk⟩ : ∃ k, q % 8 = k := ⟨_, rfl⟩
      have hmI : (q : Int).tdiv 8 = (m : Int) := by rw [Int.tdiv_eq_ediv_of_nonneg (by omega)]; omega
      have hkI : (q : Int).tmod 8 = (k : Int) := by rw [Int.tmod_eq_emod_of_nonneg (by omega)]; omega
      rw [hm] at cy0 hqL
      have hmL : (m : Int) < (L : Int) := by omega
      have hk8 : (k : Int) < 8 := by omega
      have hv : v < 2 ^ i := by
        have h1 := nm_lt (((allb B).drop p).take i)
        rw [hI.out.2, List.length_take, List.length_drop, allb_len] at h1
        have h2 := AP.out
        rw [show min i (8 * B.length - p) = i by omega] at h1
        exact h1
      have h216 : 2 ^ i ≤ 2 ^ 16 := Nat.pow_le_pow_right (by decide) (by omega)
      have hnx : nm (((allb B).drop p).take (i + 1)) = v + (if (y / 2 ^ k % 2 == 1) then 2 ^ i else 0) := by
        rw [← hI.out.2, nm_next (x := (y / 2 ^ k % 2 == 1))]
        rw [hq, allb_at B q y hy, hk]
      obtain ⟨z, hz⟩ : ∃ z, (y / 2 ^ k % 2 == 1) = z := ⟨_, rfl⟩
      have hzb : (bits .and .u8 ((y : Int) / 2 ^ k) 1 == 1) = z := by rw [bit_u8 y k hy256]; exact hz
      rw [hz] at hnx
      have AK : Aside (i < n ∧ nm (((allb B).drop p).take (i + 1)) = v + (if z then 2 ^ i else 0) ∧ v < 2 ^ i ∧ 2 ^ i ≤ 2 ^ 16 ∧ i < 16) := ⟨hin, hnx, hv, h216, by omega⟩
      have hi16 : (i : Int) < 16 := by omega
      clear hc hy hm hk hz hnx hv h216 hin hq
      cases z with
      | false =>
        go_wp2_with fail
        go_roundg (n - (i + 1))
        case measure => have := hI.out.1; have := AK.out; omega
        case rel =>
          have kk := AK.out
          exact ⟨i + 1, v, rfl, by go_num, ⟨by omega, by rw [kk.2.1]; rfl⟩, rfl⟩
      | true =>
        go_wp2_with fail
        rw [w64_pow v i AK.out.2.2.1 (by have := AK.out; omega)]
        go_roundg (n - (i + 1))
        case measure => have := hI.out.1; have := AK.out; omega
        case rel =>
          have kk := AK.out
          exact ⟨i + 1, v + 2 ^ i, rfl, by go_num, ⟨by omega, by rw [kk.2.1]; rfl⟩, rfl⟩
    · have hie : i = n := by have := hI.out.1; omega
      subst hie
      have hvx : v = x := by rw [← hI.out.2]; exact AP.out.2.2.1
      subst hvx
      have hni : ¬ (i : Int) < (i : Int) := by omega
      have f7 := hr.fz 7
      clear hin hI
      go_wp2_with fail
      first | go_ret | go_ret2
      have o : Only R w1 (w1.setCell ⟨R, 7, none⟩ (.int .i64 ((p : Int) + (i : Int)))) := (Only.refl R w1).setCell _ _
      obtain ⟨f, hc⟩ := hr.cells
      have k1 := hc.set 7 (.int .i64 ((p : Int) + (i : Int)))
      refine ⟨rfl, hr.only o ⟨f, ?_⟩ rfl rfl, ?_⟩
      · rw [AP.out.1]
        show Cells _ _ #[_, _, _, _, _, _, _, .int .i64 ((p + i : Nat) : Int), _] _
        rw [Int.natCast_add]
        rw [AP.out.1] at k1
        exact k1
      · have := A1.out.1
        rw [← this] at o ⊢
        exact ⟨o.os, o.tape, o.output, o.size, o.block⟩
end Go.Proofs.YtogednaamndpgaaGreatDoor

/-
  What the document's lengthBase and distanceBase come to.
-/
namespace Go.Proofs.YtogednaamndpgaaGreatDoor
open Go.RowKit
set_option linter.unusedVariables false
def lmo (i : Nat) : Nat := if 265 ≤ i + 257 then (i + 257 - 261) / 4 else 0
def lbs (i : Nat) : Nat := (List.range i).foldl (fun a i => a + 2 ^ (if 265 ≤ i + 257 then (i + 257 - 261) / 4 else 0)) 3
theorem lbs_next (i : Nat) : lbs (i + 1) = lbs i + 2 ^ lmo i := by unfold lbs lmo; rw [List.range_succ, List.foldl_append]; rfl
theorem lbase_lbs {s : Nat} (h : s ≠ 285) : lbase s = lbs (s - 257) := by unfold lbase; rw [if_neg h]; rfl
theorem lbs_le : ∀ i, i ≤ 28 → lbs i ≤ 1000 := by decide
def dmo (i : Nat) : Nat := if 4 ≤ i then (i - 2) / 2 else 0
def dbs (i : Nat) : Nat := (List.range i).foldl (fun a i => a + 2 ^ (if 4 ≤ i then (i - 2) / 2 else 0)) 1
theorem dbs_next (i : Nat) : dbs (i + 1) = dbs i + 2 ^ dmo i := by unfold dbs dmo; rw [List.range_succ, List.foldl_append]; rfl
theorem dbs_le : ∀ i, i ≤ 30 → dbs i ≤ 40000 := by decide
theorem w64_add (v i : Nat) (hv : v ≤ 100000) (hi : i < 40) : wrap64 ((v : Int) + wrap64 (2 ^ i)) = ((v + 2 ^ i : Nat) : Int) := by
  have h1 : 2 ^ i ≤ 2 ^ 40 := Nat.pow_le_pow_right (by decide) (by omega)
  have e : (2 : Int) ^ i = ((2 ^ i : Nat) : Int) := by push_cast; rfl
  rw [e, w64_cast (by omega), ← Int.natCast_add, w64_cast (by omega)]
set_option maxRecDepth 100000 in
set_option maxHeartbeats 2000000 in
theorem lbase_c (s : Nat) (h1 : 257 ≤ s) (h2 : s ≤ 285) (w : World) : Calls Tryz.prog 104 #[.int .i64 (s : Int)] w fun e w' => e = .returned (.tuple #[.int .i64 (lbase s : Nat), .int .i64 (lmore s : Nat)]) ∧ w = w' := by
  by_cases h : s = 285
  · subst h
    go_enter Tryz.func104, Tryz.ntmps104
    go_wp2_with fail
    first | go_ret | go_ret2
    exact ⟨rfl, rfl⟩
  have hne : ((s : Int) == 285) = false := beq_eq_false_iff_ne.2 (by omega)
  obtain ⟨A, hA⟩ : ∃ A, lbase s = A := ⟨_, rfl⟩
  obtain ⟨D, hD⟩ : ∃ D, lmore s = D := ⟨_, rfl⟩
  have AR : Aside (lbs (s - 257) = A ∧ lmo (s - 257) = D ∧ 257 ≤ s ∧ s < 285) := ⟨by rw [← hA, lbase_lbs h], by rw [← hD]; unfold lmo lmore; rw [if_neg h, show s - 257 + 257 = s by omega], h1, by omega⟩
  rw [hA, hD]
  clear hA hD h h1 h2
  go_enter Tryz.func104, Tryz.ntmps104
  go_wp2_with fail
  go_loopg [4, 5] 29 (fun g sa si wr => ∃ i v : Nat, sa = .int .i64 (v : Int) ∧ si = .int .i64 ((257 + i : Nat) : Int) ∧ Aside (i + g = 29 ∧ 257 + i ≤ s ∧ v = lbs i) ∧ w = wr)
  case atStart => exact ⟨0, 3, rfl, rfl, ⟨by omega, by have := AR.out; omega, rfl⟩, rfl⟩
  case round =>
    obtain ⟨i, v, rfl, rfl, hI, hw⟩ := hrel
    subst hw
    have hI1 := hI.out
    have hs := AR.out
    have hvb := lbs_le i (by omega)
    obtain ⟨m, hm⟩ : ∃ m, lmo i = m := ⟨_, rfl⟩
    obtain ⟨q, hq⟩ : ∃ q, 257 + i = q := ⟨_, rfl⟩
    have hmm : m ≤ 5 := by rw [← hm]; unfold lmo; split <;> omega
    rw [hq]
    have AI : Aside (i + gk = 29 ∧ q ≤ s ∧ v = lbs i ∧ v ≤ 1000 ∧ lmo i = m ∧ 257 + i = q ∧ m ≤ 5) := ⟨hI1.1, by omega, hI1.2.2, by rw [hI1.2.2]; exact hvb, hm, hq, hmm⟩
    have hqb : (q : Int) ≤ 285 := by omega
    go_upto_if 12 with fail
    go_cut [6] (fun s6 wc => s6 = .int .i64 (m : Int) ∧ w = wc)
    case first =>
      by_cases h265 : 265 ≤ q
      · have t1 : (265 : Int) ≤ (q : Int) := by omega
        have hmI : ((q : Int) - 261) / 4 = (m : Int) := by rw [← hm]; unfold lmo; rw [if_pos (by omega)]; omega
        have AM : Aside (((q : Int) - 261) / 4 = (m : Int)) := hmI
        clear hI hI1 hs hvb hm hq hmm h265 hmI
        go_wp2_with fail
        go_meet
        exact ⟨by rw [AM.out], rfl⟩
      · have t1 : ¬ (265 : Int) ≤ (q : Int) := by omega
        have hm0 : m = 0 := by rw [← hm]; unfold lmo; rw [if_neg (by omega)]
        clear hI hI1 hs hvb hm hq hmm h265
        go_wp2_with fail
        go_meet
        exact ⟨by rw [hm0]; rfl, rfl⟩
    case rest =>
      obtain ⟨rfl, rfl⟩ := hcut
      have hmI : (m : Int) ≤ 13 := by omega
      by_cases hqs : q = s
      · have t2 : ((q : Int) == (s : Int)) = true := beq_iff_eq.2 (by omega)
        have AF : Aside (v = A ∧ m = D) := by
          have a := AI.out; have r := AR.out
          exact ⟨by rw [← r.1, a.2.2.1]; congr 1; omega, by rw [← r.2.1, ← a.2.2.2.2.1]; congr 1; omega⟩
        clear hI hI1 hs hvb hm hq hmm hqs
        go_wp2_with fail
        first | go_ret | go_ret2
        obtain ⟨rfl, rfl⟩ := AF.out
        exact ⟨rfl, rfl⟩
      · have t2 : ((q : Int) == (s : Int)) = false := beq_eq_false_iff_ne.2 (by omega)
        have AL : Aside (q < s) := (by omega : q < s)
        clear hI hI1 hs hvb hm hq hmm hqs
        go_wp2_with fail
        rw [w64_add v m (by have := AI.out; omega) (by have := AI.out; omega)]
        go_roundg (28 - i)
        case measure => have := AI.out; have := AL.out; have := AR.out; omega
        case rel =>
          have a := AI.out
          have l := AL.out
          have r := AR.out
          refine ⟨i + 1, v + 2 ^ m, rfl, ?_, ⟨by omega, by omega, by rw [lbs_next, a.2.2.2.2.1, a.2.2.1]⟩, rfl⟩
          rw [show 257 + (i + 1) = q + 1 by omega]
          go_num
set_option maxRecDepth 100000 in
set_option maxHeartbeats 2000000 in
theorem dbase_c (s : Nat) (h2 : s ≤ 29) (w : World) : Calls Tryz.prog 105 #[.int .i64 (s : Int)] w fun e w' => e = .returned (.tuple #[.int .i64 (dbase s : Nat), .int .i64 (dmore s : Nat)]) ∧ w = w' := by
  obtain ⟨A, hA⟩ : ∃ A, dbase s = A := ⟨_, rfl⟩
  obtain ⟨D, hD⟩ : ∃ D, dmore s = D := ⟨_, rfl⟩
  have AR : Aside (dbs s = A ∧ dmo s = D ∧ s ≤ 29) := ⟨hA, hD, h2⟩
  rw [hA, hD]
  clear hA hD h2
  go_enter Tryz.func105, Tryz.ntmps105
  go_wp2_with fail
  go_loopg [4, 5] 30 (fun g sa si wr => ∃ i v : Nat, sa = .int .i64 (v : Int) ∧ si = .int .i64 ((0 + i : Nat) : Int) ∧ Aside (i + g = 30 ∧ 0 + i ≤ s ∧ v = dbs i) ∧ w = wr)
  case atStart => exact ⟨0, 1, rfl, rfl, ⟨by omega, by omega, rfl⟩, rfl⟩
  case round =>
    obtain ⟨i, v, rfl, rfl, hI, hw⟩ := hrel
    subst hw
    have hI1 := hI.out
    have hs := AR.out
    have hvb := dbs_le i (by omega)
    obtain ⟨m, hm⟩ : ∃ m, dmo i = m := ⟨_, rfl⟩
    obtain ⟨q, hq⟩ : ∃ q, 0 + i = q := ⟨_, rfl⟩
    have hmm : m ≤ 13 := by rw [← hm]; unfold dmo; split <;> omega
    rw [hq]
    have AI : Aside (i + gk = 30 ∧ q ≤ s ∧ v = dbs i ∧ v ≤ 40000 ∧ dmo i = m ∧ 0 + i = q ∧ m ≤ 13) := ⟨hI1.1, by omega, hI1.2.2, by rw [hI1.2.2]; exact hvb, hm, hq, hmm⟩
    have hqb : (q : Int) ≤ 29 := by omega
    go_upto_if 10 with fail
    go_cut [6] (fun s6 wc => s6 = .int .i64 (m : Int) ∧ w = wc)
    case first =>
      by_cases h265 : 4 ≤ q
      · have t1 : (4 : Int) ≤ (q : Int) := by omega
        have hmI : ((q : Int) - 2) / 2 = (m : Int) := by rw [← hm]; unfold dmo; rw [if_pos (by omega)]; omega
        have AM : Aside (((q : Int) - 2) / 2 = (m : Int)) := hmI
        clear hI hI1 hs hvb hm hq hmm h265 hmI
        go_wp2_with fail
        go_meet
        exact ⟨by rw [AM.out], rfl⟩
      · have t1 : ¬ (4 : Int) ≤ (q : Int) := by omega
        have hm0 : m = 0 := by rw [← hm]; unfold dmo; rw [if_neg (by omega)]
        clear hI hI1 hs hvb hm hq hmm h265
        go_wp2_with fail
        go_meet
        exact ⟨by rw [hm0]; rfl, rfl⟩
    case rest =>
      obtain ⟨rfl, rfl⟩ := hcut
      have hmI : (m : Int) ≤ 13 := by omega
      by_cases hqs : q = s
      · have t2 : ((q : Int) == (s : Int)) = true := beq_iff_eq.2 (by omega)
        have AF : Aside (v = A ∧ m = D) := by
          have a := AI.out; have r := AR.out
          exact ⟨by rw [← r.1, a.2.2.1]; congr 1; omega, by rw [← r.2.1, ← a.2.2.2.2.1]; congr 1; omega⟩
        clear hI hI1 hs hvb hm hq hmm hqs
        go_wp2_with fail
        first | go_ret | go_ret2
        obtain ⟨rfl, rfl⟩ := AF.out
        exact ⟨rfl, rfl⟩
      · have t2 : ((q : Int) == (s : Int)) = false := beq_eq_false_iff_ne.2 (by omega)
        have AL : Aside (q < s) := (by omega : q < s)
        clear hI hI1 hs hvb hm hq hmm hqs
        go_wp2_with fail
        rw [w64_add v m (by have := AI.out; omega) (by have := AI.out; omega)]
        go_roundg (29 - i)
        case measure => have := AI.out; have := AL.out; have := AR.out; omega
        case rel =>
          have a := AI.out
          have l := AL.out
          have r := AR.out
          refine ⟨i + 1, v + 2 ^ m, rfl, ?_, ⟨by omega, by omega, by rw [dbs_next, a.2.2.2.2.1, a.2.2.1]⟩, rfl⟩
          rw [show 0 + (i + 1) = q + 1 by omega]
          go_num
end Go.Proofs.YtogednaamndpgaaGreatDoor

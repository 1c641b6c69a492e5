/-
  Own texts of this seat, one behind the other: what each says stands ahead of it.
-/
import Derived.Test.YtogednaamndpgaaDoorMa
import Derived.OwnWalk
import Derived.WalkMore
import Derived.Deep.LoopGhost
import Derived.BigQuiet
import Derived.Deep.CutBlock
import Derived.Deep.DeepCutAuto
import Derived.BigRegion
import Derived.Laws.CopyOwn
/-
  What deflated bytes give, as a machine of small steps over their bits: each step is done as soon as its last bit is there. No walk in this text.
-/
namespace Go.Proofs.YtogednaamndpgaaDoor
set_option linter.unusedVariables false
/-- All bits of some bytes. -/
def allb (B : List Nat) : List Bool := B.flatMap (bitsOf 8)
/-- A number of n bits from place p on, if they are there. -/
def num? (bs : List Bool) (p n : Nat) : Option Nat := if p + n ≤ bs.length then some (nm ((bs.drop p).take n)) else none
/-- What reading a symbol comes to. -/
abbrev SR := Option ((Nat × Nat) ⊕ Nat)
abbrev SR.got (s n : Nat) : SR := some (.inl (s, n))
abbrev SR.bad (j : Nat) : SR := some (.inr j)
abbrev SR.cut : SR := none
theorem SR.el {motive : SR → Prop} (r : SR) (got : ∀ s n, motive (.got s n)) (bad : ∀ j, motive (.bad j)) (cut : motive .cut) : motive r :=
  match r with
  | some (.inl (s, n)) => got s n
  | some (.inr j) => bad j
  | none => cut
def hitb (ls : List Nat) (h : List Bool) (s : Nat) : Bool := match ls[s]? with
  | some n => decide (0 < n ∧ n ≤ h.length ∧ num (h.take n) = code ls s n)
  | none => false
def mayb (ls : List Nat) (h : List Bool) : Bool := (List.range ls.length).any fun s => match ls[s]? with
  | some n => decide (0 < n ∧ h.length ≤ n ∧ code ls s n / 2 ^ (n - h.length) = num h)
  | none => false
def sread (ls : List Nat) (h : List Bool) : SR := match (List.range ls.length).find? (hitb ls h) with
  | some s => .got s (ls.getD s 0)
  | none => match (List.range (h.length + 1)).find? (fun j => !mayb ls (h.take j)) with
    | some j => .bad j
    | none => .cut
theorem hitb_iff {ls : List Nat} {h : List Bool} {s : Nat} : hitb ls h s = true ↔ ∃ n, Hit ls h s n := by
  unfold hitb Hit
  cases e : ls[s]? with
  | none => simp
  | some n => simp
theorem mayb_iff {ls : List Nat} {h : List Bool} : mayb ls h = true ↔ May ls h := by
  unfold mayb May
  rw [List.any_eq_true]
  constructor
  · rintro ⟨s, _, hs⟩
    cases e : ls[s]? with
    | none => rw [e] at hs; cases hs
    | some n => rw [e] at hs; have := of_decide_eq_true hs; exact ⟨s, n, e, this.1, this.2.1, this.2.2⟩
  · rintro ⟨s, n, h1, h2, h3, h4⟩
    exact ⟨s, List.mem_range.2 (List.getElem?_eq_some_iff.1 h1).1, by rw [h1]; exact decide_eq_true ⟨h2, h3, h4⟩⟩
theorem sread_got {ls : List Nat} {h : List Bool} {s n : Nat} (hh : Hit ls h s n) : sread ls h = .got s n := by
  have hs := (List.getElem?_eq_some_iff.1 hh.1).1
  unfold sread
  cases e : (List.range ls.length).find? (hitb ls h) with
  | none =>
    have := List.find?_eq_none.1 e s (List.mem_range.2 hs)
    exact absurd (hitb_iff.2 ⟨n, hh⟩) this
  | some s' =>
    obtain ⟨n', h'⟩ := hitb_iff.1 (List.find?_some e)
    obtain ⟨rfl, rfl⟩ := hit_one h' hh
    simp only []
    rw [List.getD_eq_getElem?_getD, hh.1]; rfl
theorem find_range {p : Nat → Bool} {n j : Nat} (hj : j < n) (h1 : p j = true) (h2 : ∀ k, k < j → p k = false) : (List.range n).find? p = some j := by
  rw [List.find?_eq_some_iff_append]
  refine ⟨h1, List.range j, (List.range (n - (j + 1))).map (fun x => j + 1 + x), ?_, fun a ha => by rw [h2 a (List.mem_range.1 ha)]; rfl⟩
  have e : n = j + 1 + (n - (j + 1)) := by omega
  rw [e, List.range_add, List.range_succ]
  simp
theorem may_less {ls : List Nat} {h : List Bool} {k : Nat} (hm : May ls h) (hk : k ≤ h.length) : May ls (h.take k) := by
  obtain ⟨s, n, h1, h2, h3, h4⟩ := hm
  have hl : (h.take k).length = k := by rw [List.length_take]; omega
  refine ⟨s, n, h1, h2, by omega, ?_⟩
  have e := take_num (h := h) hk (Nat.le_refl _)
  rw [List.take_length] at e
  rw [hl, e, ← h4, Nat.div_div_eq_div_mul, ← Nat.pow_add, show n - h.length + (h.length - k) = n - k by omega]
theorem hit_may {ls : List Nat} {h : List Bool} {s n k : Nat} (hh : Hit ls h s n) (hk : k ≤ n) : May ls (h.take k) := by
  obtain ⟨h1, h2, h3, h4⟩ := hh
  have hl : (h.take k).length = k := by rw [List.length_take]; omega
  refine ⟨s, n, h1, h2, by omega, ?_⟩
  rw [hl, ← h4]
  exact (take_num hk h3).symm
theorem hit_take {ls : List Nat} {h : List Bool} {s n j : Nat} (hh : Hit ls h s n) (hj : n ≤ j) : Hit ls (h.take j) s n := by
  obtain ⟨h1, h2, h3, h4⟩ := hh
  exact ⟨h1, h2, by rw [List.length_take]; omega, by rw [List.take_take, Nat.min_eq_left hj]; exact h4⟩
theorem hit_of_take {ls : List Nat} {h : List Bool} {s n j : Nat} (hh : Hit ls (h.take j) s n) : Hit ls h s n := by
  obtain ⟨h1, h2, h3, h4⟩ := hh
  rw [List.length_take] at h3
  exact ⟨h1, h2, by omega, by rw [List.take_take, Nat.min_eq_left (by omega)] at h4; exact h4⟩
theorem sread_no {ls : List Nat} {h : List Bool} (hn : ∀ s n, ¬ Hit ls h s n) : (List.range ls.length).find? (hitb ls h) = none := by
  rw [List.find?_eq_none]
  intro s _ hs
  obtain ⟨n, hh⟩ := hitb_iff.1 hs
  exact hn s n hh
theorem sread_bad {ls : List Nat} {h : List Bool} {j : Nat} (hj : j ≤ h.length) (h1 : ∀ s n, ¬ Hit ls (h.take j) s n) (h2 : ¬ May ls (h.take j)) (h3 : ∀ k, k < j → May ls (h.take k)) : sread ls h = .bad j := by
  have hn : ∀ s n, ¬ Hit ls h s n := by
    intro s n hh
    rcases Nat.lt_or_ge j n with hlt | hge
    · exact h2 (hit_may hh (by omega))
    · exact h1 s n (hit_take hh hge)
  unfold sread
  rw [sread_no hn]
  have : (List.range (h.length + 1)).find? (fun j => !mayb ls (h.take j)) = some j := find_range (by omega) (by
    cases e : mayb ls (h.take j)
    · rfl
    · exact absurd (mayb_iff.1 e) h2) (fun k hk => by rw [mayb_iff.2 (h3 k hk)]; rfl)
  simp only [this]
theorem sread_cut {ls : List Nat} {h : List Bool} (h1 : ∀ s n, ¬ Hit ls h s n) (h2 : May ls h) : sread ls h = .cut := by
  unfold sread
  rw [sread_no h1]
  have : (List.range (h.length + 1)).find? (fun j => !mayb ls (h.take j)) = none := by
    rw [List.find?_eq_none]
    intro j hj
    rw [mayb_iff.2 (may_less h2 (by have := List.mem_range.1 hj; omega))]
    simp
  simp only [this]
/-- A length symbol's least length, and how many bits stand behind it. -/
def lbase (s : Nat) : Nat := if s = 285 then 258 else (List.range (s - 257)).foldl (fun a i => a + 2 ^ (if 265 ≤ i + 257 then (i + 257 - 261) / 4 else 0)) 3
def lmore (s : Nat) : Nat := if s = 285 then 0 else if 265 ≤ s then (s - 261) / 4 else 0
def dbase (x : Nat) : Nat := (List.range x).foldl (fun a i => a + 2 ^ (if 4 ≤ i then (i - 2) / 2 else 0)) 1
def dmore (x : Nat) : Nat := if 4 ≤ x then (x - 2) / 2 else 0
def fixL : List Nat := (List.range 288).map fun i => if 256 ≤ i ∧ i < 280 then 7 else if 144 ≤ i ∧ i < 256 then 9 else 8
def fixD : List Nat := List.replicate 32 5
def ordr : List Nat := [16, 17, 18, 0, 8, 7, 9, 6, 10, 5, 11, 4, 12, 3, 13, 2, 14, 1, 15]
/-- What comes next. -/
abbrev St := ((((Bool ⊕ Bool) ⊕ ((Bool × Nat) ⊕ (Bool × Nat))) ⊕ ((Bool ⊕ (Bool × Nat × Nat × Nat × Nat × List Nat)) ⊕ ((Bool × Nat × Nat × List Nat × List Nat) ⊕ (Bool × Nat × Nat × List Nat × List Nat × Nat)))) ⊕ ((((Bool × List Nat × List Nat) ⊕ (Bool × List Nat × List Nat × Nat)) ⊕ ((Bool × List Nat × List Nat × Nat) ⊕ (Bool × List Nat × List Nat × Nat × Nat))) ⊕ (((Bool × List Nat × List Nat × Nat × Nat) ⊕ Unit) ⊕ Nat)))
abbrev St.head (last : Bool) : St := .inl (.inl (.inl (.inl last)))
abbrev St.slen (last : Bool) : St := .inl (.inl (.inl (.inr last)))
abbrev St.snot (last : Bool) (l : Nat) : St := .inl (.inl (.inr (.inl (last, l))))
abbrev St.sraw (last : Bool) (n : Nat) : St := .inl (.inl (.inr (.inr (last, n))))
abbrev St.dnum (last : Bool) : St := .inl (.inr (.inl (.inl last)))
abbrev St.dfst (last : Bool) (a : Nat) (b : Nat) (c : Nat) (i : Nat) (first : List Nat) : St := .inl (.inr (.inl (.inr (last, a, b, c, i, first))))
abbrev St.dsym (last : Bool) (a : Nat) (b : Nat) (code : List Nat) (l : List Nat) : St := .inl (.inr (.inr (.inl (last, a, b, code, l))))
abbrev St.drep (last : Bool) (a : Nat) (b : Nat) (code : List Nat) (l : List Nat) (s : Nat) : St := .inl (.inr (.inr (.inr (last, a, b, code, l, s))))
abbrev St.sym (last : Bool) (lit : List Nat) (dist : List Nat) : St := .inr (.inl (.inl (.inl (last, lit, dist))))
abbrev St.lext (last : Bool) (lit : List Nat) (dist : List Nat) (s : Nat) : St := .inr (.inl (.inl (.inr (last, lit, dist, s))))
abbrev St.dist (last : Bool) (lit : List Nat) (dist : List Nat) (n : Nat) : St := .inr (.inl (.inr (.inl (last, lit, dist, n))))
abbrev St.dext (last : Bool) (lit : List Nat) (dist : List Nat) (n : Nat) (x : Nat) : St := .inr (.inl (.inr (.inr (last, lit, dist, n, x))))
abbrev St.copy (last : Bool) (lit : List Nat) (dist : List Nat) (n : Nat) (d : Nat) : St := .inr (.inr (.inl (.inl (last, lit, dist, n, d))))
abbrev St.done : St := .inr (.inr (.inl (.inr ())))
abbrev St.bad (why : Nat) : St := .inr (.inr (.inr why))
theorem St.el {motive : St → Prop} (s : St) (head : ∀ (last_ : Bool), motive (.head last_)) (slen : ∀ (last_ : Bool), motive (.slen last_)) (snot : ∀ (last_ : Bool) (l_ : Nat), motive (.snot last_ l_)) (sraw : ∀ (last_ : Bool) (n_ : Nat), motive (.sraw last_ n_)) (dnum : ∀ (last_ : Bool), motive (.dnum last_)) (dfst : ∀ (last_ : Bool) (a_ : Nat) (b_ : Nat) (c_ : Nat) (i_ : Nat) (first_ : List Nat), motive (.dfst last_ a_ b_ c_ i_ first_)) (dsym : ∀ (last_ : Bool) (a_ : Nat) (b_ : Nat) (code_ : List Nat) (l_ : List Nat), motive (.dsym last_ a_ b_ code_ l_)) (drep : ∀ (last_ : Bool) (a_ : Nat) (b_ : Nat) (code_ : List Nat) (l_ : List Nat) (s_ : Nat), motive (.drep last_ a_ b_ code_ l_ s_)) (sym : ∀ (last_ : Bool) (lit_ : List Nat) (dist_ : List Nat), motive (.sym last_ lit_ dist_)) (lext : ∀ (last_ : Bool) (lit_ : List Nat) (dist_ : List Nat) (s_ : Nat), motive (.lext last_ lit_ dist_ s_)) (dist : ∀ (last_ : Bool) (lit_ : List Nat) (dist_ : List Nat) (n_ : Nat), motive (.dist last_ lit_ dist_ n_)) (dext : ∀ (last_ : Bool) (lit_ : List Nat) (dist_ : List Nat) (n_ : Nat) (x_ : Nat), motive (.dext last_ lit_ dist_ n_ x_)) (copy : ∀ (last_ : Bool) (lit_ : List Nat) (dist_ : List Nat) (n_ : Nat) (d_ : Nat), motive (.copy last_ lit_ dist_ n_ d_)) (done : motive (.done)) (bad : ∀ (why_ : Nat), motive (.bad why_)) : motive s :=
  match s with
  | .inl (.inl (.inl (.inl last_))) => head last_
  | .inl (.inl (.inl (.inr last_))) => slen last_
  | .inl (.inl (.inr (.inl (last_, l_)))) => snot last_ l_
  | .inl (.inl (.inr (.inr (last_, n_)))) => sraw last_ n_
  | .inl (.inr (.inl (.inl last_))) => dnum last_
  | .inl (.inr (.inl (.inr (last_, a_, b_, c_, i_, first_)))) => dfst last_ a_ b_ c_ i_ first_
  | .inl (.inr (.inr (.inl (last_, a_, b_, code_, l_)))) => dsym last_ a_ b_ code_ l_
  | .inl (.inr (.inr (.inr (last_, a_, b_, code_, l_, s_)))) => drep last_ a_ b_ code_ l_ s_
  | .inr (.inl (.inl (.inl (last_, lit_, dist_)))) => sym last_ lit_ dist_
  | .inr (.inl (.inl (.inr (last_, lit_, dist_, s_)))) => lext last_ lit_ dist_ s_
  | .inr (.inl (.inr (.inl (last_, lit_, dist_, n_)))) => dist last_ lit_ dist_ n_
  | .inr (.inl (.inr (.inr (last_, lit_, dist_, n_, x_)))) => dext last_ lit_ dist_ n_ x_
  | .inr (.inr (.inl (.inl (last_, lit_, dist_, n_, d_)))) => copy last_ lit_ dist_ n_ d_
  | .inr (.inr (.inl (.inr ()))) => done 
  | .inr (.inr (.inr why_)) => bad why_
structure Cfg where
  st : St
  pos : Nat
  out : List Nat
  times : List Nat
/-- A byte is known, with the bits up to p; most: how many may be. -/
def give (most : Nat) (k : St) (b p : Nat) (c : Cfg) : Cfg := if c.out.length < most then ⟨k, p, c.out ++ [b], c.times ++ [(p - 1) / 8]⟩ else ⟨.bad 62, p, c.out, c.times⟩
/-- May lengths be those of codes? -/
def mays (ls : List Nat) : Bool := decide (ls.length ≤ 320 ∧ (∀ l ∈ ls, l ≤ 15) ∧ kr ls ≤ 32768 ∧ ¬ Under ls)
/-- One step; none: more bits are wanted, or it is over. -/
def step (bs : List Bool) (most : Nat) (c : Cfg) : Option Cfg := match c.st with
  | .inl (.inl (.inl (.inl true))) => some ⟨.done, c.pos, c.out, c.times⟩
  | .inl (.inl (.inl (.inl false))) => (num? bs c.pos 3).map fun v => ⟨match v / 2 with
      | 0 => .slen (v % 2 == 1)
      | 1 => .sym (v % 2 == 1) fixL fixD
      | 2 => .dnum (v % 2 == 1)
      | _ => .bad 10, c.pos + 3, c.out, c.times⟩
  | .inl (.inl (.inl (.inr last))) => (num? bs ((c.pos + 7) / 8 * 8) 16).map fun v => ⟨.snot last v, (c.pos + 7) / 8 * 8 + 16, c.out, c.times⟩
  | .inl (.inl (.inr (.inl (last, l)))) => (num? bs c.pos 16).map fun m => ⟨if l + m = 65535 then .sraw last l else .bad 11, c.pos + 16, c.out, c.times⟩
  | .inl (.inl (.inr (.inr (last, 0)))) => some ⟨.head last, c.pos, c.out, c.times⟩
  | .inl (.inl (.inr (.inr (last, (n + 1))))) => (num? bs c.pos 8).map fun v => give most (.sraw last n) v (c.pos + 8) c
  | .inl (.inr (.inl (.inl last))) => (num? bs c.pos 14).map fun v => ⟨if 286 < 257 + v % 32 ∨ 30 < 1 + v / 32 % 32 then .bad 12 else .dfst last (257 + v % 32) (1 + v / 32 % 32) (4 + v / 1024) 0 (List.replicate 19 0), c.pos + 14, c.out, c.times⟩
  | .inl (.inr (.inl (.inr (last, a, b, k, i, first)))) => if i < k then (num? bs c.pos 3).map fun v => ⟨.dfst last a b k (i + 1) (first.set (ordr.getD i 0) v), c.pos + 3, c.out, c.times⟩
      else some ⟨if kr first = 32768 then .dsym last a b first [] else .bad 12, c.pos, c.out, c.times⟩
  | .inl (.inr (.inr (.inl (last, a, b, code, l)))) => if l.length < a + b then match sread code (bs.drop c.pos) with
        | none => none
        | some (.inr j) => some ⟨.bad 13, c.pos + j, c.out, c.times⟩
        | some (.inl (s, n)) => some ⟨if s < 16 then .dsym last a b code (l ++ [s]) else if s = 16 ∧ l = [] then .bad 12 else .drep last a b code l s, c.pos + n, c.out, c.times⟩
      else some ⟨if l.getD 256 0 = 0 ∨ mays (l.take a) = false ∨ mays (l.drop a) = false then .bad 12 else .sym last (l.take a) (l.drop a), c.pos, c.out, c.times⟩
  | .inl (.inr (.inr (.inr (last, a, b, code, l, s)))) => (num? bs c.pos (if s = 16 then 2 else if s = 17 then 3 else 7)).map fun v =>
      ⟨if a + b < l.length + ((if s = 18 then 11 else 3) + v) then .bad 12 else .dsym last a b code (l ++ List.replicate ((if s = 18 then 11 else 3) + v) (if s = 16 then l.getD (l.length - 1) 0 else 0)), c.pos + (if s = 16 then 2 else if s = 17 then 3 else 7), c.out, c.times⟩
  | .inr (.inl (.inl (.inl (last, lit, di)))) => match sread lit (bs.drop c.pos) with
      | none => none
      | some (.inr j) => some ⟨.bad 13, c.pos + j, c.out, c.times⟩
      | some (.inl (s, n)) => if s < 256 then some (give most (.sym last lit di) s (c.pos + n) c)
          else some ⟨if s = 256 then .head last else if 285 < s then .bad 13 else .lext last lit di s, c.pos + n, c.out, c.times⟩
  | .inr (.inl (.inl (.inr (last, lit, di, s)))) => (num? bs c.pos (lmore s)).map fun v => ⟨.dist last lit di (lbase s + v), c.pos + lmore s, c.out, c.times⟩
  | .inr (.inl (.inr (.inl (last, lit, di, n)))) => match sread di (bs.drop c.pos) with
      | none => none
      | some (.inr j) => some ⟨.bad 13, c.pos + j, c.out, c.times⟩
      | some (.inl (x, k)) => some ⟨if 29 < x then .bad 13 else .dext last lit di n x, c.pos + k, c.out, c.times⟩
  | .inr (.inl (.inr (.inr (last, lit, di, n, x)))) => (num? bs c.pos (dmore x)).map fun v => ⟨if c.out.length < dbase x + v then .bad 14 else .copy last lit di n (dbase x + v), c.pos + dmore x, c.out, c.times⟩
  | .inr (.inr (.inl (.inl (last, lit, di, 0, d)))) => some ⟨.sym last lit di, c.pos, c.out, c.times⟩
  | .inr (.inr (.inl (.inl (last, lit, di, (n + 1), d)))) => some (give most (.copy last lit di n d) (c.out.getD (c.out.length - d) 0) c.pos c)
  | .inr (.inr (.inl (.inr ()))) => none
  | .inr (.inr (.inr _)) => none
/-- Some steps. -/
def Runk (bs : List Bool) (most : Nat) : Nat → Cfg → Cfg → Prop
  | 0, c, e => c = e
  | k + 1, c, e => ∃ d, step bs most c = some d ∧ Runk bs most k d e
def Runs (bs : List Bool) (most : Nat) (c e : Cfg) : Prop := ∃ k, Runk bs most k c e
theorem Runs.refl {bs : List Bool} {most : Nat} (c : Cfg) : Runs bs most c c := ⟨0, rfl⟩
theorem Runs.cons {bs : List Bool} {most : Nat} {c d e : Cfg} (h : step bs most c = some d) (r : Runs bs most d e) : Runs bs most c e := by
  obtain ⟨k, r⟩ := r
  exact ⟨k + 1, d, h, r⟩
theorem Runs.el {bs : List Bool} {most : Nat} {motive : ∀ c e : Cfg, Runs bs most c e → Prop} {c e : Cfg} (target : Runs bs most c e) (refl : ∀ c : Cfg, motive c c (Runs.refl c)) (cons : ∀ {c d e : Cfg} (h : step bs most c = some d) (r : Runs bs most d e), motive d e r → motive c e (Runs.cons h r)) : motive c e target := by
  obtain ⟨k, t⟩ := target
  induction k generalizing c with
  | zero =>
    have x : c = e := t
    subst x
    exact refl c
  | succ k ih =>
    obtain ⟨d, h, r⟩ := id t
    exact cons h ⟨k, r⟩ (ih r)
theorem Runs.cs {bs : List Bool} {most : Nat} {motive : ∀ c e : Cfg, Runs bs most c e → Prop} {c e : Cfg} (target : Runs bs most c e) (refl : ∀ c : Cfg, motive c c (Runs.refl c)) (cons : ∀ {c d e : Cfg} (h : step bs most c = some d) (r : Runs bs most d e), motive c e (Runs.cons h r)) : motive c e target := Runs.el (motive := motive) target refl (fun h r _ => cons h r)
theorem Runs.trans {bs : List Bool} {most : Nat} {c d e : Cfg} (h : Runs bs most c d) (k : Runs bs most d e) : Runs bs most c e := by
  induction h using Runs.el with
  | refl => exact k
  | cons h1 _ ih => exact .cons h1 (ih k)
theorem Runs.one {bs : List Bool} {most : Nat} {c d : Cfg} (h : step bs most c = some d) : Runs bs most c d := .cons h (.refl d)
/-- There is one end. -/
theorem Runs.det {bs : List Bool} {most : Nat} {c d e : Cfg} (h : Runs bs most c d) (k : Runs bs most c e) (hd : step bs most d = none) (he : step bs most e = none) : d = e := by
  induction h using Runs.el with
  | refl =>
    cases k using Runs.cs with
    | refl => rfl
    | cons h1 _ => rw [hd] at h1; cases h1
  | cons h1 _ ih =>
    cases k using Runs.cs with
    | refl => rw [he] at h1; cases h1
    | cons h2 k2 =>
      rw [h1] at h2; cases h2
      exact ih k2 hd
end Go.Proofs.YtogednaamndpgaaDoor

/-
  The document's run in memory, and what its small calls (open, stop, cut) come to.
-/
namespace Go.Proofs.YtogednaamndpgaaDoor
open Go.RowKit
set_option linter.unusedVariables false
/-- Bytes that lie side by side. -/
def Lies (w : World) (a : Option Addr) (l : List Nat) : Prop := l = [] ∨ ∃ (b o : Nat), a = some ⟨b, o, none⟩ ∧ ∀ (i x : Nat), l[i]? = some x → w.cell? ⟨b, o + i, none⟩ = some (.int .u8 (x : Int))
def Oct (l : List Nat) : Prop := ∀ x ∈ l, x < 256
theorem Lies.below {w u : World} {a : Option Addr} {l : List Nat} (h : Lies w a l) (k : Below w.heap.size w u) : Lies u a l := by
  rcases h with h | ⟨b, o, ha, hc⟩
  · exact Or.inl h
  · exact Or.inr ⟨b, o, ha, fun i x hx => (k.cell (p := ⟨b, o + i, none⟩) (World.block_lt_of_cell? w ⟨b, o + i, none⟩ (hc i x hx))).trans (hc i x hx)⟩
def vn (l : List Nat) : List Value := l.map fun x : Nat => Value.int .u8 (x : Int)
def vt (l : List Nat) : List Value := l.map fun x : Nat => Value.int .i64 (x : Int)
/-- What a run knows. -/
structure Rs where
  pos : Nat
  out : List Nat
  times : List Nat
  why : Nat
  at_ : Nat
  ended : Bool
/-- The document's run, in block R. -/
structure Rn (w : World) (base R : Nat) (a : Option Addr) (L C most : Nat) (s : Rs) (vO vT : Value) : Prop where
  cells : ∃ full : Bool, Cells w R #[.slice a L C, .int .i64 (most : Int), vO, vT, .int .i64 (s.why : Int), .int .i64 (s.at_ : Int), .bool s.ended, .int .i64 (s.pos : Int), .bool full] 31
  oo : w.ownsRow base 5 1 vO s.out.length (vn s.out)
  ot : w.ownsRow base 3 1 vT s.times.length (vt s.times)
  rb : base ≤ R
  tl : s.times.length = s.out.length
variable {w u : World} {base R L C most : Nat} {a : Option Addr} {s : Rs} {vO vT : Value}
theorem Rn.lt (h : Rn w base R a L C most s vO vT) : R < w.heap.size := by obtain ⟨f, h⟩ := h.cells; exact h.lt
theorem Rn.drewN (h : Rn w base R a L C most s vO vT) (n : Nat) : Rn (w.drewN n) base R a L C most s vO vT := ⟨h.cells, h.oo, h.ot, h.rb, h.tl⟩
theorem Rn.drew (h : Rn w base R a L C most s vO vT) : Rn w.drew base R a L C most s vO vT := ⟨h.cells, h.oo, h.ot, h.rb, h.tl⟩
theorem Rn.aO (h : Rn w base R a L C most s vO vT) : vO.ownBlock ≠ some R := by
  obtain ⟨f, hc⟩ := h.cells
  rcases h.oo.2 with ⟨rfl, _⟩ | ⟨g, c, cur, rfl, _, hg, _⟩
  · intro e; cases e
  · intro e
    have : g = R := by simpa [Value.ownBlock] using e
    subst this
    unfold Cells at hc; rw [hg] at hc; cases hc
theorem Rn.aT (h : Rn w base R a L C most s vO vT) : vT.ownBlock ≠ some R := by
  obtain ⟨f, hc⟩ := h.cells
  rcases h.ot.2 with ⟨rfl, _⟩ | ⟨g, c, cur, rfl, _, hg, _⟩
  · intro e; cases e
  · intro e
    have : g = R := by simpa [Value.ownBlock] using e
    subst this
    unfold Cells at hc; rw [hg] at hc; cases hc
theorem Rn.aOT (h : Rn w base R a L C most s vO vT) : vO.ownBlock = none ∨ vO.ownBlock ≠ vT.ownBlock := by
  rcases h.oo.2 with ⟨rfl, _⟩ | ⟨g, c, cur, rfl, _, hg, _⟩
  · exact Or.inl rfl
  · right
    rcases h.ot.2 with ⟨rfl, _⟩ | ⟨g', c', cur', rfl, _, hg', _⟩
    · intro e; cases e
    · intro e
      have : g = g' := by simpa [Value.ownBlock] using e
      subst this
      rw [hg] at hg'
      cases hg'
theorem own_only {X e size n : Nat} {v : Value} {xs : List Value} (h : w.ownsRow base e size v n xs) (k : Only X w u) (hne : v.ownBlock ≠ some X) : u.ownsRow base e size v n xs :=
  h.kept (row := some X) ⟨k.os, k.tape, k.output, Nat.le_of_eq k.size.symm, fun i hi hx => k.block i (fun e => hx (by rw [e]))⟩ (Or.inr hne)
/-- Something in the run's own block has turned. -/
theorem Rn.only (h : Rn w base R a L C most s vO vT) (k : Only R w u) {s' : Rs} (hc : ∃ full : Bool, Cells u R #[.slice a L C, .int .i64 (most : Int), vO, vT, .int .i64 (s'.why : Int), .int .i64 (s'.at_ : Int), .bool s'.ended, .int .i64 (s'.pos : Int), .bool full] 31) (h1 : s'.out = s.out) (h2 : s'.times = s.times) : Rn u base R a L C most s' vO vT :=
  ⟨hc, by rw [h1]; exact own_only h.oo k h.aO, by rw [h2]; exact own_only h.ot k h.aT, h.rb, by rw [h1, h2]; exact h.tl⟩
theorem Rn.c0 (h : Rn w base R a L C most s vO vT) : w.cell? ⟨R, 0, none⟩ = some (.slice a L C) := by obtain ⟨f, h⟩ := h.cells; rw [h.cell]; rfl
theorem Rn.c1 (h : Rn w base R a L C most s vO vT) : w.cell? ⟨R, 1, none⟩ = some (.int .i64 (most : Int)) := by obtain ⟨f, h⟩ := h.cells; rw [h.cell]; rfl
theorem Rn.c2 (h : Rn w base R a L C most s vO vT) : w.cell? ⟨R, 2, none⟩ = some vO := by obtain ⟨f, h⟩ := h.cells; rw [h.cell]; rfl
theorem Rn.c3 (h : Rn w base R a L C most s vO vT) : w.cell? ⟨R, 3, none⟩ = some vT := by obtain ⟨f, h⟩ := h.cells; rw [h.cell]; rfl
theorem Rn.c4 (h : Rn w base R a L C most s vO vT) : w.cell? ⟨R, 4, none⟩ = some (.int .i64 (s.why : Int)) := by obtain ⟨f, h⟩ := h.cells; rw [h.cell]; rfl
theorem Rn.c5 (h : Rn w base R a L C most s vO vT) : w.cell? ⟨R, 5, none⟩ = some (.int .i64 (s.at_ : Int)) := by obtain ⟨f, h⟩ := h.cells; rw [h.cell]; rfl
theorem Rn.c6 (h : Rn w base R a L C most s vO vT) : w.cell? ⟨R, 6, none⟩ = some (.bool s.ended) := by obtain ⟨f, h⟩ := h.cells; rw [h.cell]; rfl
theorem Rn.c7 (h : Rn w base R a L C most s vO vT) : w.cell? ⟨R, 7, none⟩ = some (.int .i64 (s.pos : Int)) := by obtain ⟨f, h⟩ := h.cells; rw [h.cell]; rfl
theorem Rn.fz (h : Rn w base R a L C most s vO vT) (i : Nat) : w.frozen? ⟨R, i, none⟩ = false := by obtain ⟨f, h⟩ := h.cells; exact h.frozen i
/-- Is it neither stopped nor ended? -/
def Rs.opn (s : Rs) : Bool := s.why == 0 && !s.ended
theorem tdiv8 (p : Nat) : ((p : Int) - 1).tdiv 8 = (((p - 1) / 8 : Nat) : Int) := by
  cases p with
  | zero => rfl
  | succ p =>
    rw [show ((p + 1 : Nat) : Int) - 1 = ((p : Nat) : Int) by omega, Int.tdiv_eq_ediv_of_nonneg (by omega)]
    simp
/-- The bits of bytes, one by one. -/
theorem allb_len : ∀ B : List Nat, (allb B).length = 8 * B.length
  | [] => rfl
  | x :: B => by
    have ih := allb_len B
    show (bitsOf 8 x ++ allb B).length = _
    rw [List.length_append, bitsOf_length, ih, List.length_cons]; omega
theorem allb_at : ∀ (B : List Nat) (k x : Nat), B[k / 8]? = some x → (allb B)[k]? = some (x / 2 ^ (k % 8) % 2 == 1)
  | [], k, x, h => by simp at h
  | y :: B, k, x, h => by
    show (bitsOf 8 y ++ allb B)[k]? = _
    by_cases hk : k < 8
    · have e : k / 8 = 0 := by omega
      rw [e] at h
      have : y = x := by simpa using h
      subst this
      rw [List.getElem?_append_left (by rw [bitsOf_length]; exact hk), show k % 8 = k by omega]
      simp [bitsOf, hk]
    · have e : k / 8 = (k - 8) / 8 + 1 := by omega
      rw [e, List.getElem?_cons_succ] at h
      rw [List.getElem?_append_right (by rw [bitsOf_length]; omega), bitsOf_length, allb_at B (k - 8) x h, show (k - 8) % 8 = k % 8 by omega]
theorem nm_next {bs : List Bool} {p i : Nat} {x : Bool} (h : bs[p + i]? = some x) : nm ((bs.drop p).take (i + 1)) = nm ((bs.drop p).take i) + (if x then 2 ^ i else 0) := by
  have hl : p + i < bs.length := (List.getElem?_eq_some_iff.1 h).1
  have e : (bs.drop p)[i]? = some x := by rw [List.getElem?_drop]; exact h
  rw [List.take_add_one, e]
  show nm (_ ++ [x]) = _
  rw [nm_append, List.length_take, List.length_drop, show min i (bs.length - p) = i by omega]
  cases x <;> simp [nm]
theorem bit_u8 (x k : Nat) (h : x < 256) : (bits .and .u8 ((x : Int) / 2 ^ k) 1 == 1) = (x / 2 ^ k % 2 == 1) := by
  have e : (x : Int) / 2 ^ k = ((x / 2 ^ k : Nat) : Int) := by push_cast; rfl
  have hb : x / 2 ^ k < 256 := Nat.lt_of_le_of_lt (Nat.div_le_self _ _) h
  rw [e, show (1 : Int) = ((1 : Nat) : Int) from rfl, u8_and_nat _ 1 hb (by decide), Nat.and_one_is_mod]
  have h2 : x / 2 ^ k % 2 = 0 ∨ x / 2 ^ k % 2 = 1 := by omega
  rcases h2 with h | h <;> rw [h] <;> rfl
theorem w64_cast {n : Nat} (h : n < 9223372036854775808) : wrap64 (n : Int) = (n : Int) := by unfold wrap64; omega
theorem w64_pow (v i : Nat) (hv : v < 2 ^ i) (hi : i < 40) : wrap64 ((v : Int) + wrap64 (2 ^ i)) = ((v + 2 ^ i : Nat) : Int) := by
  have h1 : 2 ^ i ≤ 2 ^ 40 := Nat.pow_le_pow_right (by decide) (by omega)
  have e : (2 : Int) ^ i = ((2 ^ i : Nat) : Int) := by push_cast; rfl
  rw [e, w64_cast (by omega), ← Int.natCast_add, w64_cast (by omega)]
end Go.Proofs.YtogednaamndpgaaDoor

/-
  The document's gzip file as a run over its bytes: its state, and what each of its small calls makes of it. No walk.
-/
namespace Go.Proofs.YtogednaamndpgaaDoor
set_option linter.unusedVariables false
/-- An event with its time: of a member's beginning (256, its name), of a byte, of a member's end (257). -/
abbrev Gev := Nat × Nat × List Nat
/-- Where the document's run stands: the events, why it was stopped and with which byte, the place, how many bytes may still be given. -/
structure Gr where
  ev : List Gev
  why : Nat
  sat : Nat
  pos : Nat
  left : Nat
def gstop (y a : Nat) (r : Gr) : Gr := { r with why := y, sat := a }
/-- A number of bytes, the lowest first. -/
def le : List Nat → Nat
  | [] => 0
  | x :: r => x + 256 * le r
def gnum (b : List Nat) (n : Nat) (r : Gr) : Gr := if b.length < r.pos + n then gstop 1 b.length r else { r with pos := r.pos + n }
def gval (b : List Nat) (n : Nat) (r : Gr) : Nat := if b.length < r.pos + n then 0 else le ((b.drop r.pos).take n)
def gis (b : List Nat) (v y : Nat) (r : Gr) : Gr := if r.why = 0 then (if gval b 1 r ≠ v ∧ (gnum b 1 r).why = 0 then gstop y ((gnum b 1 r).pos - 1) (gnum b 1 r) else gnum b 1 r) else r
/-- Bytes up to a 0, from a place on, m of them gone already: how many stand ahead of it; or it is too long; or the bytes end. -/
def gz (b : List Nat) : Nat → Nat → Nat → Gr → Gr × List Nat
  | 0, from_, m, r => (r, [])
  | k + 1, from_, m, r =>
    let r1 := gnum b 1 r
    if r1.why ≠ 0 then (r1, []) else if gval b 1 r = 0 then (r1, (b.take (r1.pos - 1)).drop from_) else if 256 < r1.pos - from_ then (gstop 46 (r1.pos - 1) r1, []) else gz b k from_ (m + 1) r1
def gtext (b : List Nat) (r : Gr) : Gr × List Nat := if r.why = 0 then gz b 258 r.pos 0 r else (r, [])
theorem le_lt : ∀ (l : List Nat), (∀ x ∈ l, x < 256) → le l < 256 ^ l.length
  | [], _ => by simp [le]
  | x :: r, h => by
    have h1 := le_lt r (fun y hy => h y (by simp [hy]))
    have h2 := h x (by simp)
    simp only [le, List.length_cons, Nat.pow_succ]
    omega
end Go.Proofs.YtogednaamndpgaaDoor

/-
  The document's gzip run in memory, and what its small calls (open, stop, number, is) come to.
-/
namespace Go.Proofs.YtogednaamndpgaaDoor
open Go.RowKit
set_option linter.unusedVariables false
/-- Events as cells. -/
def gcel (e : Gev) : List Value := [.int .i64 (e.1 : Int), .int .i64 (if e.2.1 = 256 then 1 else if e.2.1 = 257 then 3 else 2), .int .u8 (if e.2.1 < 256 then (e.2.1 : Int) else 0), .int .i64 (if e.2.1 = 256 then 2 else 0), .int .i64 0, .string ⟨(e.2.2.map UInt8.ofNat).toArray⟩]
def gcs (l : List Gev) : List Value := l.flatMap gcel
/-- The run, in block R; its events in rows from base on. -/
structure Gm (w : World) (base R : Nat) (a : Option Addr) (L C : Nat) (r : Gr) (vE : Value) : Prop where
  cells : Cells w R #[vE, .int .i64 (r.why : Int), .int .i64 (r.sat : Int), .slice a L C, .int .i64 (r.pos : Int), .int .i64 (r.left : Int)] 29
  own : w.ownsRow base 59 6 vE r.ev.length (gcs r.ev)
  le : base ≤ w.heap.size
section
variable {w u : World} {base R L C : Nat} {a : Option Addr} {r : Gr} {vE : Value}
theorem Gm.lt (h : Gm w base R a L C r vE) : R < w.heap.size := h.cells.lt
theorem Gm.drewN (h : Gm w base R a L C r vE) (n : Nat) : Gm (w.drewN n) base R a L C r vE := ⟨h.cells, h.own, h.le⟩
theorem Gm.c1 (h : Gm w base R a L C r vE) : w.cell? ⟨R, 1, none⟩ = some (.int .i64 (r.why : Int)) := (h.cells.cell 1).trans rfl
theorem Gm.c2 (h : Gm w base R a L C r vE) : w.cell? ⟨R, 2, none⟩ = some (.int .i64 (r.sat : Int)) := (h.cells.cell 2).trans rfl
theorem Gm.c3 (h : Gm w base R a L C r vE) : w.cell? ⟨R, 3, none⟩ = some (.slice a L C) := (h.cells.cell 3).trans rfl
theorem Gm.c4 (h : Gm w base R a L C r vE) : w.cell? ⟨R, 4, none⟩ = some (.int .i64 (r.pos : Int)) := (h.cells.cell 4).trans rfl
theorem Gm.c5 (h : Gm w base R a L C r vE) : w.cell? ⟨R, 5, none⟩ = some (.int .i64 (r.left : Int)) := (h.cells.cell 5).trans rfl
theorem Gm.fz (h : Gm w base R a L C r vE) (i : Nat) : w.frozen? ⟨R, i, none⟩ = false := h.cells.frozen i
/-- The events' rows are of another type than the run's block. -/
theorem own_keep {w u : World} {base n : Nat} {v : Value} {xs : List Value} (h : w.ownsRow base 59 6 v n xs) (k : ∀ g, base ≤ g → g < w.heap.size → (∃ cs fr, w.heap[g]? = some (.cells cs 59 fr)) → u.heap[g]? = w.heap[g]?) : u.ownsRow base 59 6 v n xs := by
  refine ⟨h.1, ?_⟩
  rcases h.2 with q | ⟨g, c, cur, hv, hg, hh, q⟩
  · exact Or.inl q
  · have hlt : g < w.heap.size := (Array.getElem?_eq_some_iff.1 hh).1
    exact Or.inr ⟨g, c, cur, hv, hg, (k g hg hlt ⟨_, _, hh⟩).trans hh, q⟩
theorem Gm.only (h : Gm w base R a L C r vE) (o : Only R w u) {r' : Gr} (he : r'.ev = r.ev) (hc : Cells u R #[vE, .int .i64 (r'.why : Int), .int .i64 (r'.sat : Int), .slice a L C, .int .i64 (r'.pos : Int), .int .i64 (r'.left : Int)] 29) : Gm u base R a L C r' vE := by
  refine ⟨hc, ?_, by rw [o.size]; exact h.le⟩
  rw [he]
  refine own_keep h.own fun g _ _ ⟨cs, fr, hx⟩ => o.block g (fun e => ?_)
  subst e
  have := h.cells
  unfold Cells at this
  rw [this] at hx
  cases hx
end
section
variable {base R L C : Nat} {a : Option Addr} {r : Gr} {vE : Value}
end
end Go.Proofs.YtogednaamndpgaaDoor

/-
  What the document's number and is come to.
-/
namespace Go.Proofs.YtogednaamndpgaaDoor
open Go.RowKit
set_option linter.unusedVariables false
theorem le_drop {l : List Nat} {k x : Nat} (h : l[k]? = some x) : le (l.drop k) = x + 256 * le (l.drop (k + 1)) := by
  obtain ⟨h1, h2⟩ := List.getElem?_eq_some_iff.1 h
  rw [List.drop_eq_getElem_cons h1, h2]
  rfl
theorem le_small {l : List Nat} (h : ∀ x ∈ l, x < 256) (hl : l.length ≤ 6) : le l < 281474976710656 := by
  have h1 := le_lt l h
  have h2 : 256 ^ l.length ≤ 256 ^ 6 := Nat.pow_le_pow_right (by decide) hl
  omega
section
variable {base R L C : Nat} {a : Option Addr} {r : Gr} {vE : Value}
/-- What number answers. -/
structure Gn (b : List Nat) (n : Nat) (r : Gr) (base R : Nat) (a : Option Addr) (L C : Nat) (vE : Value) (w : World) (e : Ending) (w' : World) : Prop where
  ex : ∃ v : Int, e = .returned (.int .i64 v) ∧ (n ≤ 6 → v = (gval b n r : Int)) ∧ Gm w' base R a L C (gnum b n r) vE ∧ Only R w w'
end
end Go.Proofs.YtogednaamndpgaaDoor

/-
  Lists of bytes: the last ones of a list, what a copy does to a row, a row that goes round, and the bytes at the end again and again.
-/
namespace Go.Proofs.YtogednaamndpgaaDoor
set_option linter.unusedVariables false
/-- The cell n behind the next one. -/
def gfwd (N x n : Nat) : Nat := if x + n < N then x + n else x + n - N
/-- The cell d ahead of the next one. -/
def gbck (N x d : Nat) : Nat := if d ≤ x then x - d else x + N - d
theorem gfwd_spec (N x n : Nat) : (x + n < N ∧ gfwd N x n = x + n) ∨ (N ≤ x + n ∧ gfwd N x n = x + n - N) := by unfold gfwd; split <;> omega
theorem gbck_spec (N x d : Nat) : (d ≤ x ∧ gbck N x d = x - d) ∨ (x < d ∧ gbck N x d = x + N - d) := by unfold gbck; split <;> omega
theorem gfwd_lt {N x n : Nat} (h : x < N) (h2 : n ≤ N) : gfwd N x n < N := by unfold gfwd; split <;> omega
theorem gbck_lt {N x d : Nat} (h1 : x < N) (h2 : 1 ≤ d) (h3 : d ≤ N) : gbck N x d < N := by unfold gbck; split <;> omega
/-- The last ones, at most N. -/
def glastN (N : Nat) (l : List Int) : List Int := l.drop (l.length - N)
theorem glastN_length (N : Nat) (l : List Int) : (glastN N l).length = min l.length N := by simp [glastN]; omega
theorem glastN_all {N : Nat} {l : List Int} (h : l.length ≤ N) : glastN N l = l := by
  unfold glastN; rw [show l.length - N = 0 by omega, List.drop_zero]
theorem glastN_app (N : Nat) (l xs : List Int) : glastN N (l ++ glastN N xs) = glastN N (l ++ xs) := by
  apply List.ext_getElem?
  intro i
  simp only [glastN, List.getElem?_drop, List.getElem?_append, List.length_append, List.length_drop]
  by_cases h : xs.length ≤ N
  · simp only [show xs.length - N = 0 by omega, Nat.sub_zero, Nat.zero_add]
  · have e1 : l.length + (xs.length - (xs.length - N)) - N + i = l.length + i := by omega
    have e2 : ¬ l.length + (xs.length - (xs.length - N)) - N + i < l.length := by omega
    have e3 : ¬ l.length + xs.length - N + i < l.length := by omega
    rw [if_neg e2, if_neg e3]
    congr 1; omega
theorem glastN_two (N : Nat) (l xs ys : List Int) : glastN N (glastN N (l ++ xs) ++ ys) = glastN N (l ++ xs ++ ys) := by
  apply List.ext_getElem?
  intro i
  simp only [glastN, List.getElem?_drop, List.getElem?_append, List.length_append, List.length_drop]
  by_cases h : l.length + xs.length ≤ N
  · simp only [show l.length + xs.length - N = 0 by omega, Nat.sub_zero, Nat.zero_add]
  · have e0 : l.length + xs.length - (l.length + xs.length - N) = N := by omega
    simp only [e0]
    have e1 : N + ys.length - N + i = ys.length + i := by omega
    have e2 : l.length + xs.length + ys.length - N + i = l.length + xs.length - N + (ys.length + i) := by omega
    simp only [e1, e2]
    by_cases c : ys.length + i < N
    · have c2 : l.length + xs.length - N + (ys.length + i) < l.length + xs.length := by omega
      rw [if_pos c, if_pos c2]
    · have c2 : ¬ l.length + xs.length - N + (ys.length + i) < l.length + xs.length := by omega
      rw [if_neg c, if_neg c2]
      congr 1; omega
theorem gsplice_get {α : Type} (l cs : List α) (off i : Nat) (h : off + cs.length ≤ l.length) : (splice l off cs)[i]? = if off ≤ i ∧ i < off + cs.length then cs[i - off]? else l[i]? := by
  unfold splice
  rw [List.getElem?_append, List.length_take, Nat.min_eq_left (by omega), List.getElem?_append, List.getElem?_take, List.getElem?_drop]
  by_cases c1 : i < off
  · rw [if_pos c1, if_pos c1, if_neg (by omega)]
  · rw [if_neg c1]
    by_cases c2 : i < off + cs.length
    · rw [if_pos (by omega), if_pos (by omega)]
    · rw [if_neg (by omega), if_neg (by omega)]
      congr 1; omega
theorem gsplice_app (ys A B : List Int) (h : A.length + B.length ≤ ys.length) : splice (splice ys 0 A) A.length B = splice ys 0 (A ++ B) := by
  apply List.ext_getElem?
  intro i
  rw [gsplice_get _ _ _ _ (by rw [length_splice _ _ _ (by omega)]; omega), gsplice_get _ _ _ _ (by omega), gsplice_get _ _ _ _ (by rw [List.length_append]; omega), List.length_append, List.getElem?_append]
  by_cases c1 : i < A.length
  · rw [if_neg (by omega), if_pos (by omega), if_pos (by omega), if_pos (by omega)]
  · by_cases c2 : i < A.length + B.length
    · rw [if_pos (by omega), if_pos (by omega), if_neg (by omega)]; simp
    · rw [if_neg (by omega), if_neg (by omega), if_neg (by omega)]
theorem gsplice_all (ys A : List Int) (h : A.length = ys.length) : splice ys 0 A = A := by
  unfold splice
  simp [h]
/-- The row cs of N cells, whose next one is x, holds the list l. -/
def GHolds (N x : Nat) (cs l : List Int) : Prop := ∀ d, 1 ≤ d → d ≤ l.length → cs[gbck N x d]? = l[l.length - d]?
theorem gholds_nil (N x : Nat) (cs : List Int) : GHolds N x cs [] := fun d h1 h2 => by simp at h2; omega
/-- What is moved out, in one piece. -/
theorem gout_a {N x : Nat} {cs l : List Int} (hh : GHolds N x cs l) (d n : Nat) (hx : x < N) (hl : l.length ≤ N) (h1 : 1 ≤ d) (hd : d ≤ l.length) (hn : n ≤ d) (hA : gbck N x d + n ≤ N) :
    (cs.drop (gbck N x d)).take n = (l.drop (l.length - d)).take n := by
  apply List.ext_getElem?
  intro i
  rw [List.getElem?_take, List.getElem?_take, List.getElem?_drop, List.getElem?_drop]
  by_cases c : i < n
  · rw [if_pos c, if_pos c]
    have := hh (d - i) (by omega) (by omega)
    rw [show l.length - d + i = l.length - (d - i) by omega, ← this]
    congr 1
    have s1 := gbck_spec N x d
    have s2 := gbck_spec N x (d - i)
    omega
  · rw [if_neg c, if_neg c]
/-- What is moved out, in two pieces. -/
theorem gout_b {N x : Nat} {cs l : List Int} (hh : GHolds N x cs l) (d n m r : Nat) (hx : x < N) (hl : l.length ≤ N) (hc : cs.length = N) (h1 : 1 ≤ d) (hd : d ≤ l.length) (hn : n ≤ d) (hm : gbck N x d + m = N) (hr : m + r = n) :
    cs.drop (gbck N x d) ++ cs.take r = (l.drop (l.length - d)).take n := by
  apply List.ext_getElem?
  intro i
  rw [List.getElem?_append, List.length_drop, hc, List.getElem?_take, List.getElem?_take, List.getElem?_drop, List.getElem?_drop]
  have e : N - gbck N x d = m := by omega
  rw [e]
  by_cases c : i < n
  · rw [if_pos c]
    have := hh (d - i) (by omega) (by omega)
    rw [show l.length - d + i = l.length - (d - i) by omega, ← this]
    by_cases c2 : i < m
    · rw [if_pos c2]
      congr 1
      have s1 := gbck_spec N x d
      have s2 := gbck_spec N x (d - i)
      omega
    · rw [if_neg c2, if_pos (by omega)]
      congr 1
      have s1 := gbck_spec N x d
      have s2 := gbck_spec N x (d - i)
      omega
  · rw [if_neg c, if_neg (by omega), if_neg (by omega)]
/-- What is laid in goes round the end. -/
theorem gin_get {N x : Nat} {cs ys : List Int} (hc : cs.length = N) (hx : x < N) (hm : ys.length ≤ N) (q : Nat) (hq : q = min ys.length (N - x)) (p : Nat) (hp : p < N) :
    (splice (splice cs x (ys.take q)) 0 (ys.drop q))[p]? = if x ≤ p ∧ p < x + ys.length then ys[p - x]? else if p + N < x + ys.length then ys[p + N - x]? else cs[p]? := by
  have l1 : (ys.take q).length = q := by rw [List.length_take]; omega
  have l2 : (ys.drop q).length = ys.length - q := List.length_drop
  rw [gsplice_get _ _ _ _ (by rw [length_splice _ _ _ (by omega)]; omega), gsplice_get _ _ _ _ (by omega), l1, l2, List.getElem?_take, List.getElem?_drop]
  by_cases c1 : x ≤ p ∧ p < x + ys.length
  · rw [if_pos c1, if_neg (by omega), if_pos (by omega), if_pos (by omega)]
  · rw [if_neg c1]
    by_cases c2 : p + N < x + ys.length
    · rw [if_pos c2, if_pos (by omega)]
      congr 1; omega
    · rw [if_neg c2, if_neg (by omega), if_neg (by omega)]
theorem gin_holds {N x : Nat} {cs l ys : List Int} (hh : GHolds N x cs l) (hc : cs.length = N) (hx : x < N) (hl : l.length ≤ N) (hm : ys.length ≤ N) (q : Nat) (hq : q = min ys.length (N - x)) :
    GHolds N (gfwd N x ys.length) (splice (splice cs x (ys.take q)) 0 (ys.drop q)) (glastN N (l ++ ys)) := by
  intro d h1 h2
  have hlen := glastN_length N (l ++ ys)
  rw [List.length_append] at hlen
  have hp := gbck_lt (gfwd_lt hx hm) h1 (by omega : d ≤ N)
  rw [gin_get hc hx hm q hq _ hp, hlen]
  have e : (glastN N (l ++ ys))[min (l.length + ys.length) N - d]? = (l ++ ys)[l.length + ys.length - d]? := by
    unfold glastN
    rw [List.getElem?_drop, List.length_append]
    congr 1; omega
  rw [e, List.getElem?_append]
  have s1 := gfwd_spec N x ys.length
  have s2 := gbck_spec N (gfwd N x ys.length) d
  by_cases c : d ≤ ys.length
  · have c0 : ¬ l.length + ys.length - d < l.length := by omega
    rw [if_neg c0]
    by_cases c1 : x + (ys.length - d) < N
    · have c2 : x ≤ gbck N (gfwd N x ys.length) d ∧ gbck N (gfwd N x ys.length) d < x + ys.length := by omega
      rw [if_pos c2]
      congr 1; omega
    · have c2 : ¬ (x ≤ gbck N (gfwd N x ys.length) d ∧ gbck N (gfwd N x ys.length) d < x + ys.length) := by omega
      have c3 : gbck N (gfwd N x ys.length) d + N < x + ys.length := by omega
      rw [if_neg c2, if_pos c3]
      congr 1; omega
  · have s3 := gbck_spec N x (d - ys.length)
    have := hh (d - ys.length) (by omega) (by omega)
    have c0 : l.length + ys.length - d < l.length := by omega
    have hb : gbck N (gfwd N x ys.length) d = gbck N x (d - ys.length) := by omega
    have c2 : ¬ (x ≤ gbck N x (d - ys.length) ∧ gbck N x (d - ys.length) < x + ys.length) := by omega
    have c3 : ¬ gbck N x (d - ys.length) + N < x + ys.length := by omega
    rw [if_pos c0, hb, if_neg c2, if_neg c3, this]
    congr 1; omega
theorem gset_splice (cs : List Int) (x : Nat) (z : Int) (h : x < cs.length) : cs.set x z = splice cs x [z] := by
  apply List.ext_getElem?
  intro i
  rw [gsplice_get cs [z] x i (by simp; omega)]
  by_cases c : x = i
  · subst c
    rw [if_pos (by simp)]
    simp [h]
  · rw [if_neg (by simp; omega), List.getElem?_set_ne c]
theorem gput_holds {N x : Nat} {cs l : List Int} (hh : GHolds N x cs l) (hc : cs.length = N) (hx : x < N) (hl : l.length ≤ N) (z : Int) : GHolds N (gfwd N x 1) (cs.set x z) (glastN N (l ++ [z])) := by
  have := gin_holds (ys := [z]) hh hc hx hl (by simp; omega) 1 (by simp; omega)
  rw [gset_splice _ _ _ (by omega)]
  simpa [splice] using this
/-- The bytes at the end, d of them, again and again, n in all. -/
def gcyc (l : List Int) (d n : Nat) : List Int := (List.range n).map fun i => l.getD (l.length - d + i % d) 0
theorem gcyc_length (l : List Int) (d n : Nat) : (gcyc l d n).length = n := by simp [gcyc]
theorem gcyc_get (l : List Int) (d n i : Nat) (h : i < n) : (gcyc l d n)[i]? = some (l.getD (l.length - d + i % d) 0) := by simp [gcyc, h]
theorem gcyc_take (l : List Int) (d n k : Nat) (h : k ≤ n) : (gcyc l d n).take k = gcyc l d k := by
  apply List.ext_getElem?
  intro i
  rw [List.getElem?_take]
  by_cases c : i < k
  · rw [if_pos c, gcyc_get _ _ _ _ (by omega), gcyc_get _ _ _ _ c]
  · rw [if_neg c, List.getElem?_eq_none (by rw [gcyc_length]; omega)]
theorem gcyc_first (l : List Int) (d n : Nat) (h1 : 1 ≤ d) (hd : d ≤ l.length) (hn : n ≤ d) : (l.drop (l.length - d)).take n = gcyc l d n := by
  apply List.ext_getElem?
  intro i
  rw [List.getElem?_take, List.getElem?_drop]
  by_cases c : i < n
  · rw [if_pos c, gcyc_get _ _ _ _ c, Nat.mod_eq_of_lt (by omega), List.getElem?_eq_getElem (by omega)]
    simp [List.getElem?_eq_getElem (show l.length - d + i < l.length by omega)]
  · rw [if_neg c, List.getElem?_eq_none (by rw [gcyc_length]; omega)]
theorem gcyc_app (l : List Int) (d k m : Nat) (hk : d ∣ k) (hm : m ≤ k) : gcyc l d k ++ (gcyc l d k).take m = gcyc l d (k + m) := by
  obtain ⟨j, rfl⟩ := hk
  apply List.ext_getElem?
  intro i
  rw [List.getElem?_append, gcyc_length, List.getElem?_take]
  by_cases c : i < d * j
  · rw [if_pos c, gcyc_get _ _ _ _ c, gcyc_get _ _ _ _ (by omega)]
  · rw [if_neg c]
    by_cases c2 : i - d * j < m
    · rw [if_pos c2, gcyc_get _ _ _ _ (by omega), gcyc_get _ _ _ _ (by omega)]
      congr 3
      conv => rhs; rw [show i = (i - d * j) + d * j by omega, Nat.add_mul_mod_self_left]
    · rw [if_neg c2, List.getElem?_eq_none (by rw [gcyc_length]; omega)]
end Go.Proofs.YtogednaamndpgaaDoor

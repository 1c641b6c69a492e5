/-
  Own texts of this seat, one behind the other: what each says stands ahead of it.
-/
import Derived.Test.YtikdpnpkmmmacabDoorMb
import Derived.Laws.EntriesVeiled
import Derived.OwnWalk
import Derived.WalkMore
import Derived.Deep.LoopGhost
import Derived.BigQuiet
import Derived.Deep.CutBlock
import Derived.Deep.DeepCutAuto
import Derived.Deep.RegionLaw
import Derived.Deep.AppendLies
import Derived.Laws.AppendOwnNone
import Derived.Deep.RegionHeld3
/-
  The inflater in memory: 355 cells by a function of their place, its reader, its window; what may turn while it works.
-/
namespace Go.Proofs.YtikdpnpkmmmacabDoor
open Go.RowKit
set_option linter.unusedVariables false
/-- 355 cells by a function. -/
def cz (f : Nat → Value) : Array Value := ((List.range 355).map f).toArray
def upd (f : Nat → Value) (i : Nat) (v : Value) : Nat → Value := fun j => if j = i then v else f j
theorem upd_same (f : Nat → Value) (i : Nat) (v : Value) : upd f i v i = v := by simp [upd]
theorem upd_ne (f : Nat → Value) {i j : Nat} (v : Value) (h : j ≠ i) : upd f i v j = f j := by simp [upd, h]
theorem cz_size (f : Nat → Value) : (cz f).size = 355 := by simp [cz]
theorem cz_at (f : Nat → Value) {i : Nat} (h : i < 355) : (cz f)[i]? = some (f i) := by simp [cz, h]
theorem cz_congr {f g : Nat → Value} (h : ∀ i, i < 355 → f i = g i) : cz f = cz g := by
  unfold cz
  rw [List.map_congr_left (fun i hi => h i (List.mem_range.1 hi))]
theorem cz_set (f : Nat → Value) (i : Nat) (v : Value) : (cz f).setIfInBounds i v = cz (upd f i v) := by
  apply Array.ext
  · simp [cz]
  · intro j h1 h2
    have hj : j < 355 := by simpa [cz] using h2
    simp only [cz, List.setIfInBounds_toArray, List.getElem_toArray, List.getElem_set, List.getElem_map, List.getElem_range, upd]
    by_cases e : i = j
    · simp [e]
    · simp [e, Ne.symm e]
/-- What may have turned while the inflater worked: its own four blocks, from B on; memory may have come. -/
structure Fm (B : Nat) (w w' : World) : Prop where
  os : w'.os = w.os
  tape : w'.tape = w.tape
  output : w'.output = w.output
  size : w.heap.size ≤ w'.heap.size
  block : ∀ k, k < w.heap.size → (k < B ∨ B + 4 ≤ k) → w'.heap[k]? = w.heap[k]?
section
variable {B : Nat} {w u v : World}
theorem Fm.refl (B : Nat) (w : World) : Fm B w w := ⟨rfl, rfl, rfl, Nat.le_refl _, fun _ _ _ => rfl⟩
theorem Fm.trans (h : Fm B w u) (k : Fm B u v) : Fm B w v := ⟨k.os.trans h.os, k.tape.trans h.tape, k.output.trans h.output, Nat.le_trans h.size k.size, fun i hi hk => (k.block i (Nat.lt_of_lt_of_le hi h.size) hk).trans (h.block i hi hk)⟩
theorem Fm.drewN (h : Fm B w u) (n : Nat) : Fm B w (u.drewN n) := ⟨h.os, h.tape, h.output, h.size, h.block⟩
theorem Fm.drew (h : Fm B w u) : Fm B w u.drew := ⟨h.os, h.tape, h.output, h.size, h.block⟩
theorem Fm.of_only {c : Nat} (h : Only c w u) (h1 : B ≤ c) (h2 : c < B + 4) : Fm B w u := ⟨h.os, h.tape, h.output, Nat.le_of_eq h.size.symm, fun k _ hk => h.block k (by omega)⟩
theorem Fm.of_but {c : Nat} (h : But c w u) (h1 : B ≤ c) (h2 : c < B + 4) : Fm B w u := ⟨h.os, h.tape, h.output, h.size, fun k hk hh => h.block k hk (by omega)⟩
theorem Fm.of_two {c d : Nat} (h : GTwo c d w u) (h1 : B ≤ c) (h2 : c < B + 4) (h3 : B ≤ d) (h4 : d < B + 4) : Fm B w u := ⟨h.os, h.tape, h.output, Nat.le_of_eq h.size.symm, fun k _ hk => h.block k (by omega) (by omega)⟩
theorem Fm.of_below {C : Nat} (h : Below C w u) (hC : w.heap.size ≤ C) : Fm B w u := ⟨h.os, h.tape, h.output, h.size, fun k hk _ => h.block k (by omega)⟩
theorem Fm.below (h : Fm B w u) (hB : B ≤ w.heap.size) : Below B w u := ⟨h.os, h.tape, h.output, h.size, fun k hk => h.block k (by omega) (Or.inl hk)⟩
end
/-- The inflater in memory: D itself, b its reader, R its window, whose cells lie in block B; h what bits are held, l what the window has. -/
structure Bs (w : World) (B D b R : Nat) (f : Nat → Value) (h : List Bool) (l : List Int) : Prop where
  fr : Cells w D (cz f) 50
  c0 : f 0 = .pointer (some ⟨b, 0, none⟩)
  c1 : f 1 = .pointer (some ⟨R, 0, none⟩)
  br : Br w b (nm h) h.length
  rg : GRg w R B 32768 l
  eD : D = B + 3
  eb : b = B + 2
  eR : R = B + 1
section
variable {w u : World} {B D b R : Nat} {f : Nat → Value} {h : List Bool} {l : List Int}
theorem Bs.cell (s : Bs w B D b R f h l) {i : Nat} (hi : i < 355) : w.cell? ⟨D, i, none⟩ = some (f i) := (s.fr.cell i).trans (cz_at f hi)
theorem Bs.fz (s : Bs w B D b R f h l) (i : Nat) : w.frozen? ⟨D, i, none⟩ = false := s.fr.frozen i
theorem Bs.drewN (s : Bs w B D b R f h l) (n : Nat) : Bs (w.drewN n) B D b R f h l := ⟨s.fr, s.c0, s.c1, s.br.drewN n, s.rg.drewN n, s.eD, s.eb, s.eR⟩
theorem Bs.drew (s : Bs w B D b R f h l) : Bs w.drew B D b R f h l := ⟨s.fr, s.c0, s.c1, s.br.drew, s.rg.drew, s.eD, s.eb, s.eR⟩
theorem Bs.lt (s : Bs w B D b R f h l) : B + 4 ≤ w.heap.size := by have := s.fr.lt; have := s.eD; omega
theorem Bs.onD (s : Bs w B D b R f h l) (k : Only D w u) {f' : Nat → Value} (hf : Cells u D (cz f') 50) (h0 : f' 0 = f 0) (h1 : f' 1 = f 1) : Bs u B D b R f' h l :=
  ⟨hf, h0.trans s.c0, h1.trans s.c1, s.br.only k (by have := s.eD; have := s.eb; omega), s.rg.only k (by have := s.eD; have := s.eR; omega) (by have := s.eD; omega), s.eD, s.eb, s.eR⟩
theorem Bs.set (s : Bs w B D b R f h l) (i : Nat) (v : Value) (hi : 2 ≤ i) : Bs (w.setCell ⟨D, i, none⟩ v) B D b R (upd f i v) h l :=
  s.onD ((Only.refl D w).setCell i v) (by have := s.fr.set i v; rwa [cz_set] at this) (upd_ne f v (by omega)) (upd_ne f v (by omega))
theorem Bs.onb (s : Bs w B D b R f h l) (k : Only b w u) {h' : List Bool} (hb : Br u b (nm h') h'.length) : Bs u B D b R f h' l :=
  ⟨s.fr.only k (by have := s.eD; have := s.eb; omega), s.c0, s.c1, hb, s.rg.only k (by have := s.eb; have := s.eR; omega) (by have := s.eb; omega), s.eD, s.eb, s.eR⟩
theorem Cells.but {w u : World} {c k : Nat} {cs : Array Value} {t : TypeId} (h : Cells w c cs t) (q : But k w u) (hc : c ≠ k) : Cells u c cs t := by
  have := h.lt
  unfold Cells at *
  rw [q.block c this hc]; exact h
theorem Bs.onbut (s : Bs w B D b R f h l) (k : But b w u) {h' : List Bool} (hb : Br u b (nm h') h'.length) : Bs u B D b R f h' l := by
  refine ⟨s.fr.but k (by have := s.eD; have := s.eb; omega), s.c0, s.c1, hb, ?_, s.eD, s.eb, s.eR⟩
  obtain ⟨x, cs, lo, hh⟩ := s.rg.ex
  exact ⟨x, cs, ⟨lo.hd.but k (by have := s.eb; have := s.eR; omega), lo.row.but k (by have := s.eb; omega), lo.len, lo.n1, lo.n2, lo.xlt, lo.hle, lo.ne⟩, hh⟩
theorem Bs.below (s : Bs w B D b R f h l) {C : Nat} (k : Below C w u) (hC : w.heap.size ≤ C) : Bs u B D b R f h l := by
  have := s.lt
  exact ⟨s.fr.below k (by have := s.eD; omega), s.c0, s.c1, s.br.below k (by have := s.eb; omega), s.rg.below k (by have := s.eR; omega) (by omega), s.eD, s.eb, s.eR⟩
theorem Bs.onR (s : Bs w B D b R f h l) (k : GTwo R B w u) {l' : List Int} (hr : GRg u R B 32768 l') : Bs u B D b R f h l' := by
  have e1 := s.eD; have e2 := s.eb; have e3 := s.eR
  refine ⟨?_, s.c0, s.c1, ⟨?_, s.br.lt, s.br.le⟩, hr, s.eD, s.eb, s.eR⟩
  · have := s.fr; unfold Cells at *; rw [k.block D (by omega) (by omega)]; exact this
  · obtain ⟨t, ht⟩ := s.br.rd
    exact ⟨t, by unfold Cells at *; rw [k.block b (by omega) (by omega)]; exact ht⟩
end
/-- A table that the inflater made. -/
def Tbl (w : World) (B : Nat) (v : Value) (ls : List Nat) : Prop := ∃ lo hi T, v = .pointer (some ⟨T, 0, none⟩) ∧ B + 4 ≤ lo ∧ hi ≤ w.heap.size ∧ PT w lo hi T ls ∧ ls.length ≤ 320
theorem Tbl.fm {w u : World} {B : Nat} {v : Value} {ls : List Nat} (h : Tbl w B v ls) (k : Fm B w u) : Tbl u B v ls := by
  obtain ⟨lo, hi, T, h1, h2, h3, h4, h5⟩ := h
  exact ⟨lo, hi, T, h1, h2, Nat.le_trans h3 k.size, h4.keep fun j hj1 hj2 => k.block j (by omega) (Or.inr (by omega)), h5⟩
/-- What the window has behind one byte more. -/
def wput (l : List Int) (z : Int) : List Int := glastN 32768 (l ++ [z])
/-- A step, as a value. -/
def fnv (D k : Nat) : Value := .func (.func k) #[.pointer (some ⟨D, 0, none⟩)] #[]
section
variable {w : World} {B D b R : Nat} {f : Nat → Value} {h : List Bool} {l : List Int}
theorem pthen_c (k : Nat) (w : World) (s : Bs w B D b R f h l) : Calls Tryd.prog 21 #[.pointer (some ⟨D, 0, none⟩), .func (.func k) #[.pointer (some ⟨D, 0, none⟩)] #[]] w fun e w' => e = .returned (.bool true) ∧ Bs w' B D b R (upd f 2 (fnv D k)) h l ∧ Fm B w w' := by
  have c2 := s.cell (show 2 < 355 by decide)
  have z2 := s.fz 2
  go_enter Tryd.func21, Tryd.ntmps21
  go_wp2_with fail
  go_ret
  exact ⟨rfl, s.set 2 _ (by decide), Fm.of_only ((Only.refl D w).setCell 2 _) (by have := s.eD; omega) (by have := s.eD; omega)⟩
theorem pstop_c (y : Int) (w : World) (s : Bs w B D b R f h l) : Calls Tryd.prog 18 #[.pointer (some ⟨D, 0, none⟩), .int .i64 y] w fun e w' => e = .returned (.bool false) ∧ Bs w' B D b R (upd f 354 (.int .i64 y)) h l ∧ Fm B w w' := by
  have c2 := s.cell (show 354 < 355 by decide)
  have z2 := s.fz 354
  go_enter Tryd.func18, Tryd.ntmps18
  go_wp2_with fail
  go_ret
  exact ⟨rfl, s.set 354 _ (by decide), Fm.of_only ((Only.refl D w).setCell 354 _) (by have := s.eD; omega) (by have := s.eD; omega)⟩
theorem pgive_c (z : Int) (w : World) (s : Bs w B D b R f h l) : Calls Tryd.prog 32 #[.pointer (some ⟨D, 0, none⟩), .int .u8 z] w fun e w' => e = .returned (.bool false) ∧ Bs w' B D b R (upd (upd f 351 (.int .u8 z)) 352 (.bool true)) h (wput l z) ∧ Fm B w w' := by
  have c1 := (s.cell (show 1 < 355 by decide)).trans (congrArg some s.c1)
  have hput := gput_r z w s.rg
  have AS : Aside (Bs w B D b R f h l) := s
  clear s
  go_enter Tryd.func32, Tryd.ntmps32
  go_upto_region 2 with (go_at_call 41; refine hput.mono ?_; rintro e2 w2 ⟨rfl, hr2, ht2⟩)
  have s2 := AS.out.onR ht2 hr2
  have c3 := s2.cell (show 351 < 355 by decide)
  have c4 := s2.cell (show 352 < 355 by decide)
  have z3 := s2.fz 351
  have z4 := s2.fz 352
  clear hput c1
  go_wp2_with fail
  go_ret
  refine ⟨rfl, (s2.set 351 _ (by decide)).set 352 _ (by decide), (Fm.of_two ht2 ?_ ?_ ?_ ?_).trans (Fm.of_only (((Only.refl D w2).setCell 351 _).setCell 352 _) ?_ ?_)⟩ <;> have := s2.eD <;> have := s2.eR <;> omega
end
end Go.Proofs.YtikdpnpkmmmacabDoor

/-
  The document's run in memory, and what its small calls (open, stop, cut) come to.
-/
namespace Go.Proofs.YtikdpnpkmmmacabDoor
open Go.RowKit
set_option linter.unusedVariables false
/-- Bytes that lie side by side. -/
def Lies (w : World) (a : Option Addr) (l : List Nat) : Prop := l = [] ∨ ∃ (b o : Nat), a = some ⟨b, o, none⟩ ∧ ∀ (i x : Nat), l[i]? = some x → w.cell? ⟨b, o + i, none⟩ = some (.int .u8 (x : Int))
def Oct (l : List Nat) : Prop := ∀ x ∈ l, x < 256
theorem Lies.below {w u : World} {a : Option Addr} {l : List Nat} (h : Lies w a l) (k : Below w.heap.size w u) : Lies u a l := by
  rcases h with h | ⟨b, o, ha, hc⟩
  · exact Or.inl h
  · exact Or.inr ⟨b, o, ha, fun i x hx => (k.cell (p := ⟨b, o + i, none⟩) (World.block_lt_of_cell? w ⟨b, o + i, none⟩ (hc i x hx))).trans (hc i x hx)⟩
def vn (l : List Nat) : List Value := l.map fun x : Nat => Value.int .u8 (x : Int)
def vt (l : List Nat) : List Value := l.map fun x : Nat => Value.int .i64 (x : Int)
/-- What a run knows. -/
structure Rs where
  pos : Nat
  out : List Nat
  times : List Nat
  why : Nat
  at_ : Nat
  ended : Bool
/-- The document's run, in block R. -/
structure Rn (w : World) (base R : Nat) (a : Option Addr) (L C most : Nat) (s : Rs) (vO vT : Value) : Prop where
  cells : ∃ full : Bool, Cells w R #[.slice a L C, .int .i64 (most : Int), vO, vT, .int .i64 (s.why : Int), .int .i64 (s.at_ : Int), .bool s.ended, .int .i64 (s.pos : Int), .bool full] 31
  oo : w.ownsRow base 5 1 vO s.out.length (vn s.out)
  ot : w.ownsRow base 3 1 vT s.times.length (vt s.times)
  rb : base ≤ R
  tl : s.times.length = s.out.length
variable {w u : World} {base R L C most : Nat} {a : Option Addr} {s : Rs} {vO vT : Value}
theorem Rn.lt (h : Rn w base R a L C most s vO vT) : R < w.heap.size := by obtain ⟨f, h⟩ := h.cells; exact h.lt
theorem Rn.drewN (h : Rn w base R a L C most s vO vT) (n : Nat) : Rn (w.drewN n) base R a L C most s vO vT := ⟨h.cells, h.oo, h.ot, h.rb, h.tl⟩
theorem Rn.drew (h : Rn w base R a L C most s vO vT) : Rn w.drew base R a L C most s vO vT := ⟨h.cells, h.oo, h.ot, h.rb, h.tl⟩
theorem Rn.aO (h : Rn w base R a L C most s vO vT) : vO.ownBlock ≠ some R := by
  obtain ⟨f, hc⟩ := h.cells
  rcases h.oo.2 with ⟨rfl, _⟩ | ⟨g, c, cur, rfl, _, hg, _⟩
  · intro e; cases e
  · intro e
    have : g = R := by simpa [Value.ownBlock] using e
    subst this
    unfold Cells at hc; rw [hg] at hc; cases hc
theorem Rn.aT (h : Rn w base R a L C most s vO vT) : vT.ownBlock ≠ some R := by
  obtain ⟨f, hc⟩ := h.cells
  rcases h.ot.2 with ⟨rfl, _⟩ | ⟨g, c, cur, rfl, _, hg, _⟩
  · intro e; cases e
  · intro e
    have : g = R := by simpa [Value.ownBlock] using e
    subst this
    unfold Cells at hc; rw [hg] at hc; cases hc
theorem Rn.aOT (h : Rn w base R a L C most s vO vT) : vO.ownBlock = none ∨ vO.ownBlock ≠ vT.ownBlock := by
  rcases h.oo.2 with ⟨rfl, _⟩ | ⟨g, c, cur, rfl, _, hg, _⟩
  · exact Or.inl rfl
  · right
    rcases h.ot.2 with ⟨rfl, _⟩ | ⟨g', c', cur', rfl, _, hg', _⟩
    · intro e; cases e
    · intro e
      have : g = g' := by simpa [Value.ownBlock] using e
      subst this
      rw [hg] at hg'
      cases hg'
theorem own_only {X e size n : Nat} {v : Value} {xs : List Value} (h : w.ownsRow base e size v n xs) (k : Only X w u) (hne : v.ownBlock ≠ some X) : u.ownsRow base e size v n xs :=
  h.kept (row := some X) ⟨k.os, k.tape, k.output, Nat.le_of_eq k.size.symm, fun i hi hx => k.block i (fun e => hx (by rw [e]))⟩ (Or.inr hne)
/-- Something in the run's own block has turned. -/
theorem Rn.only (h : Rn w base R a L C most s vO vT) (k : Only R w u) {s' : Rs} (hc : ∃ full : Bool, Cells u R #[.slice a L C, .int .i64 (most : Int), vO, vT, .int .i64 (s'.why : Int), .int .i64 (s'.at_ : Int), .bool s'.ended, .int .i64 (s'.pos : Int), .bool full] 31) (h1 : s'.out = s.out) (h2 : s'.times = s.times) : Rn u base R a L C most s' vO vT :=
  ⟨hc, by rw [h1]; exact own_only h.oo k h.aO, by rw [h2]; exact own_only h.ot k h.aT, h.rb, by rw [h1, h2]; exact h.tl⟩
theorem Rn.c0 (h : Rn w base R a L C most s vO vT) : w.cell? ⟨R, 0, none⟩ = some (.slice a L C) := by obtain ⟨f, h⟩ := h.cells; rw [h.cell]; rfl
theorem Rn.c1 (h : Rn w base R a L C most s vO vT) : w.cell? ⟨R, 1, none⟩ = some (.int .i64 (most : Int)) := by obtain ⟨f, h⟩ := h.cells; rw [h.cell]; rfl
theorem Rn.c2 (h : Rn w base R a L C most s vO vT) : w.cell? ⟨R, 2, none⟩ = some vO := by obtain ⟨f, h⟩ := h.cells; rw [h.cell]; rfl
theorem Rn.c3 (h : Rn w base R a L C most s vO vT) : w.cell? ⟨R, 3, none⟩ = some vT := by obtain ⟨f, h⟩ := h.cells; rw [h.cell]; rfl
theorem Rn.c4 (h : Rn w base R a L C most s vO vT) : w.cell? ⟨R, 4, none⟩ = some (.int .i64 (s.why : Int)) := by obtain ⟨f, h⟩ := h.cells; rw [h.cell]; rfl
theorem Rn.c5 (h : Rn w base R a L C most s vO vT) : w.cell? ⟨R, 5, none⟩ = some (.int .i64 (s.at_ : Int)) := by obtain ⟨f, h⟩ := h.cells; rw [h.cell]; rfl
theorem Rn.c6 (h : Rn w base R a L C most s vO vT) : w.cell? ⟨R, 6, none⟩ = some (.bool s.ended) := by obtain ⟨f, h⟩ := h.cells; rw [h.cell]; rfl
theorem Rn.c7 (h : Rn w base R a L C most s vO vT) : w.cell? ⟨R, 7, none⟩ = some (.int .i64 (s.pos : Int)) := by obtain ⟨f, h⟩ := h.cells; rw [h.cell]; rfl
theorem Rn.fz (h : Rn w base R a L C most s vO vT) (i : Nat) : w.frozen? ⟨R, i, none⟩ = false := by obtain ⟨f, h⟩ := h.cells; exact h.frozen i
/-- Is it neither stopped nor ended? -/
def Rs.opn (s : Rs) : Bool := s.why == 0 && !s.ended
theorem tdiv8 (p : Nat) : ((p : Int) - 1).tdiv 8 = (((p - 1) / 8 : Nat) : Int) := by
  cases p with
  | zero => rfl
  | succ p =>
    rw [show ((p + 1 : Nat) : Int) - 1 = ((p : Nat) : Int) by omega, Int.tdiv_eq_ediv_of_nonneg (by omega)]
    simp
/-- The bits of bytes, one by one. -/
theorem allb_len : ∀ B : List Nat, (allb B).length = 8 * B.length
  | [] => rfl
  | x :: B => by
    have ih := allb_len B
    show (bitsOf 8 x ++ allb B).length = _
    rw [List.length_append, bitsOf_length, ih, List.length_cons]; omega
theorem allb_at : ∀ (B : List Nat) (k x : Nat), B[k / 8]? = some x → (allb B)[k]? = some (x / 2 ^ (k % 8) % 2 == 1)
  | [], k, x, h => by simp at h
  | y :: B, k, x, h => by
    show (bitsOf 8 y ++ allb B)[k]? = _
    by_cases hk : k < 8
    · have e : k / 8 = 0 := by omega
      rw [e] at h
      have : y = x := by simpa using h
      subst this
      rw [List.getElem?_append_left (by rw [bitsOf_length]; exact hk), show k % 8 = k by omega]
      simp [bitsOf, hk]
    · have e : k / 8 = (k - 8) / 8 + 1 := by omega
      rw [e, List.getElem?_cons_succ] at h
      rw [List.getElem?_append_right (by rw [bitsOf_length]; omega), bitsOf_length, allb_at B (k - 8) x h, show (k - 8) % 8 = k % 8 by omega]
theorem nm_next {bs : List Bool} {p i : Nat} {x : Bool} (h : bs[p + i]? = some x) : nm ((bs.drop p).take (i + 1)) = nm ((bs.drop p).take i) + (if x then 2 ^ i else 0) := by
  have hl : p + i < bs.length := (List.getElem?_eq_some_iff.1 h).1
  have e : (bs.drop p)[i]? = some x := by rw [List.getElem?_drop]; exact h
  rw [List.take_add_one, e]
  show nm (_ ++ [x]) = _
  rw [nm_append, List.length_take, List.length_drop, show min i (bs.length - p) = i by omega]
  cases x <;> simp [nm]
theorem bit_u8 (x k : Nat) (h : x < 256) : (bits .and .u8 ((x : Int) / 2 ^ k) 1 == 1) = (x / 2 ^ k % 2 == 1) := by
  have e : (x : Int) / 2 ^ k = ((x / 2 ^ k : Nat) : Int) := by push_cast; rfl
  have hb : x / 2 ^ k < 256 := Nat.lt_of_le_of_lt (Nat.div_le_self _ _) h
  rw [e, show (1 : Int) = ((1 : Nat) : Int) from rfl, u8_and_nat _ 1 hb (by decide), Nat.and_one_is_mod]
  have h2 : x / 2 ^ k % 2 = 0 ∨ x / 2 ^ k % 2 = 1 := by omega
  rcases h2 with h | h <;> rw [h] <;> rfl
theorem w64_cast {n : Nat} (h : n < 9223372036854775808) : wrap64 (n : Int) = (n : Int) := by unfold wrap64; omega
theorem w64_pow (v i : Nat) (hv : v < 2 ^ i) (hi : i < 40) : wrap64 ((v : Int) + wrap64 (2 ^ i)) = ((v + 2 ^ i : Nat) : Int) := by
  have h1 : 2 ^ i ≤ 2 ^ 40 := Nat.pow_le_pow_right (by decide) (by omega)
  have e : (2 : Int) ^ i = ((2 ^ i : Nat) : Int) := by push_cast; rfl
  rw [e, w64_cast (by omega), ← Int.natCast_add, w64_cast (by omega)]
end Go.Proofs.YtikdpnpkmmmacabDoor

/-
  What the document's lengthBase and distanceBase come to.
-/
namespace Go.Proofs.YtikdpnpkmmmacabDoor
open Go.RowKit
set_option linter.unusedVariables false
def lmo (i : Nat) : Nat := if 265 ≤ i + 257 then (i + 257 - 261) / 4 else 0
def lbs (i : Nat) : Nat := (List.range i).foldl (fun a i => a + 2 ^ (if 265 ≤ i + 257 then (i + 257 - 261) / 4 else 0)) 3
theorem lbs_next (i : Nat) : lbs (i + 1) = lbs i + 2 ^ lmo i := by unfold lbs lmo; rw [List.range_succ, List.foldl_append]; rfl
theorem lbase_lbs {s : Nat} (h : s ≠ 285) : lbase s = lbs (s - 257) := by unfold lbase; rw [if_neg h]; rfl
theorem lbs_le : ∀ i, i ≤ 28 → lbs i ≤ 1000 := by decide
def dmo (i : Nat) : Nat := if 4 ≤ i then (i - 2) / 2 else 0
def dbs (i : Nat) : Nat := (List.range i).foldl (fun a i => a + 2 ^ (if 4 ≤ i then (i - 2) / 2 else 0)) 1
theorem dbs_next (i : Nat) : dbs (i + 1) = dbs i + 2 ^ dmo i := by unfold dbs dmo; rw [List.range_succ, List.foldl_append]; rfl
theorem dbs_le : ∀ i, i ≤ 30 → dbs i ≤ 40000 := by decide
theorem w64_add (v i : Nat) (hv : v ≤ 100000) (hi : i < 40) : wrap64 ((v : Int) + wrap64 (2 ^ i)) = ((v + 2 ^ i : Nat) : Int) := by
  have h1 : 2 ^ i ≤ 2 ^ 40 := Nat.pow_le_pow_right (by decide) (by omega)
  have e : (2 : Int) ^ i = ((2 ^ i : Nat) : Int) := by push_cast; rfl
  rw [e, w64_cast (by omega), ← Int.natCast_add, w64_cast (by omega)]
end Go.Proofs.YtikdpnpkmmmacabDoor

/-
  What the document's give comes to: a byte is known.
-/
namespace Go.Proofs.YtikdpnpkmmmacabDoor
open Go.RowKit
set_option linter.unusedVariables false
/-- What a call of the run's own may turn: its block, its two lists' blocks; lists may move to new ones. -/
structure Chg (R : Nat) (vO vT vO' vT' : Value) (w w' : World) : Prop where
  os : w'.os = w.os
  tape : w'.tape = w.tape
  output : w'.output = w.output
  size : w.heap.size ≤ w'.heap.size
  block : ∀ k, k < w.heap.size → k ≠ R → some k ≠ vO.ownBlock → some k ≠ vT.ownBlock → w'.heap[k]? = w.heap[k]?
  ownO : ∀ k, vO'.ownBlock = some k → vO.ownBlock = some k ∨ w.heap.size ≤ k
  ownT : ∀ k, vT'.ownBlock = some k → vT.ownBlock = some k ∨ w.heap.size ≤ k
theorem Chg.refl (R : Nat) (vO vT : Value) (w : World) : Chg R vO vT vO vT w w := ⟨rfl, rfl, rfl, Nat.le_refl _, fun _ _ _ _ _ => rfl, fun _ h => Or.inl h, fun _ h => Or.inl h⟩
theorem Chg.of_only {R : Nat} {vO vT : Value} {w u : World} (h : Only R w u) : Chg R vO vT vO vT w u :=
  ⟨h.os, h.tape, h.output, Nat.le_of_eq h.size.symm, fun k _ h1 _ _ => h.block k h1, fun _ h => Or.inl h, fun _ h => Or.inl h⟩
theorem Chg.of_below {R : Nat} {vO vT : Value} {w u : World} (h : Below w.heap.size w u) : Chg R vO vT vO vT w u :=
  ⟨h.os, h.tape, h.output, h.size, fun k hk _ _ _ => h.block k hk, fun _ h => Or.inl h, fun _ h => Or.inl h⟩
theorem Chg.drawn {R : Nat} {vO vT : Value} {w u : World} (h : Drawn w u) : Chg R vO vT vO vT w u := by
  obtain ⟨n, rfl⟩ := h
  exact ⟨rfl, rfl, rfl, Nat.le_refl _, fun _ _ _ _ _ => rfl, fun _ h => Or.inl h, fun _ h => Or.inl h⟩
theorem Chg.trans {R : Nat} {a b c d e f : Value} {w u v : World} (h : Chg R a b c d w u) (k : Chg R c d e f u v) : Chg R a b e f w v := by
  refine ⟨k.os.trans h.os, k.tape.trans h.tape, k.output.trans h.output, Nat.le_trans h.size k.size, fun i hi h1 h2 h3 => ?_, fun i hi => ?_, fun i hi => ?_⟩
  · refine (k.block i (Nat.lt_of_lt_of_le hi h.size) h1 (fun e => ?_) (fun e => ?_)).trans (h.block i hi h1 h2 h3)
    · rcases h.ownO i e.symm with e2 | e2
      · exact h2 e2.symm
      · omega
    · rcases h.ownT i e.symm with e2 | e2
      · exact h3 e2.symm
      · omega
  · rcases k.ownO i hi with e2 | e2
    · exact h.ownO i e2
    · exact Or.inr (Nat.le_trans h.size e2)
  · rcases k.ownT i hi with e2 | e2
    · exact h.ownT i e2
    · exact Or.inr (Nat.le_trans h.size e2)
theorem Chg.drew {R : Nat} {a b c d : Value} {w u : World} (h : Chg R a b c d w u) : Chg R a b c d w u.drew := ⟨h.os, h.tape, h.output, h.size, h.block, h.ownO, h.ownT⟩
theorem Chg.below {base R L C most : Nat} {a : Option Addr} {s : Rs} {vO vT vO' vT' : Value} {w u : World} (h : Chg R vO vT vO' vT' w u) (hr : Rn w base R a L C most s vO vT) (hb : base ≤ w.heap.size) : Below base w u :=
  ⟨h.os, h.tape, h.output, h.size, fun k hk => h.block k (by omega) (by have := hr.rb; omega) (fun e => by have := (hr.oo.lt k e.symm).1; omega) (fun e => by have := (hr.ot.lt k e.symm).1; omega)⟩
theorem info5 : (Tryd.prog.info? 5).map (fun i => (i.zero, i.size, i.bytes)) = some (some (.int .u8 0), 1, 1) := by kernel_rfl
theorem info3' : (Tryd.prog.info? 3).map (fun i => (i.zero, i.size, i.bytes)) = some (some (.int .i64 0), 1, 8) := by kernel_rfl
theorem own_shape {w : World} {base e n : Nat} {v : Value} {xs : List Value} (h : w.ownsRow base e 1 v n xs) : ∃ a c, v = .slice a n c := by
  rcases h.2 with ⟨rfl, rfl⟩ | ⟨g, c, cur, rfl, _⟩
  · exact ⟨none, 0, rfl⟩
  · exact ⟨_, _, rfl⟩
variable {w u : World} {base R L C most : Nat} {a : Option Addr} {s : Rs} {vO vT : Value}
theorem size_al' (w : World) (o : Obj) : (w.alloc o).heap.size = w.heap.size + 1 := Array.size_push _
theorem add_off (g o j : Nat) : (⟨g, o, none⟩ : Addr).add j = ⟨g, o + j, none⟩ := by unfold Addr.add; split <;> simp_all
theorem grown_cells {w u : World} {R t : Nat} {cs : Array Value} {v : Option Nat} (h : Cells w R cs t) (k : w.grownBy u v) (hne : some R ≠ v) : Cells u R cs t := (k.block R h.lt hne).trans h
/-- The run's block while a byte is given: the first list has grown, the second has not. -/
theorem own_alloc {w : World} {base e size n : Nat} {v : Value} {xs : List Value} (h : w.ownsRow base e size v n xs) (o : Obj) : (w.alloc o).ownsRow base e size v n xs := h.alloc o
theorem give_end {w1 w3 w4 : World} {f : Bool} {N g cap g4 cap4 b : Nat} (k3 : Cells w3 R #[.slice a L C, .int .i64 (most : Int), .slice (some ⟨g, 0, none⟩) (N + 1) cap, vT, .int .i64 (s.why : Int), .int .i64 (s.at_ : Int), .bool s.ended, .int .i64 (s.pos : Int), .bool f] 31)
    (oo3 : w3.ownsRow base 5 1 (.slice (some ⟨g, 0, none⟩) (N + 1) cap) (N + 1) (vn (s.out ++ [b]))) (ot3 : w3.ownsRow base 3 1 vT N (vt s.times)) (chg : Chg R vO vT (.slice (some ⟨g, 0, none⟩) (N + 1) cap) vT w1 w3) (aT : vT.ownBlock ≠ some R) (hgR : g ≠ R) (rb : base ≤ R) (hN : s.out.length = N) (hN2 : s.times.length = N)
    (tm : Nat) (htm : (s.pos - 1) / 8 = tm)
    (k4 : Cells w4 R #[.slice a L C, .int .i64 (most : Int), .slice (some ⟨g, 0, none⟩) (N + 1) cap, vT, .int .i64 (s.why : Int), .int .i64 (s.at_ : Int), .bool s.ended, .int .i64 (s.pos : Int), .bool f] 31)
    (hown4 : w4.ownsRow base 3 1 (.slice (some ⟨g4, 0, none⟩) (N + 1) cap4) (N + 1) (vt s.times ++ [.int .i64 (tm : Int)])) (hgrow4 : (w3.alloc (.cells #[.int .i64 (tm : Int)] 3)).drew.grownBy w4 vT.ownBlock) (hat4 : vT.ownBlock = some g4 ∨ g4 = (w3.alloc (.cells #[.int .i64 (tm : Int)] 3)).drew.heap.size) :
    Rn (w4.setCell ⟨R, 3, none⟩ (.slice (some ⟨g4, 0, none⟩) (N + 1) cap4)) base R a L C most { s with out := s.out ++ [b], times := s.times ++ [(s.pos - 1) / 8] } (.slice (some ⟨g, 0, none⟩) (N + 1) cap) (.slice (some ⟨g4, 0, none⟩) (N + 1) cap4) ∧
      Chg R vO vT (.slice (some ⟨g, 0, none⟩) (N + 1) cap) (.slice (some ⟨g4, 0, none⟩) (N + 1) cap4) w1 (w4.setCell ⟨R, 3, none⟩ (.slice (some ⟨g4, 0, none⟩) (N + 1) cap4)) := by
  have hs : (w3.alloc (.cells #[.int .i64 (tm : Int)] 3)).drew.heap.size = w3.heap.size + 1 := size_al' w3 _
  have o5 : Only R w4 (w4.setCell ⟨R, 3, none⟩ (.slice (some ⟨g4, 0, none⟩) (N + 1) cap4)) := (Only.refl R w4).setCell _ _
  have hg4 : g4 ≠ R := by
    rcases hat4 with e | e
    · intro e2; rw [e2] at e; exact aT e
    · have := k3.lt; omega
  have hgT : vT.ownBlock ≠ some g := by
    intro e
    rcases oo3.2 with ⟨e2, _⟩ | ⟨g', c', cur', e2, _, h1, _⟩
    · cases e2
    · cases e2
      rcases ot3.2 with ⟨rfl, _⟩ | ⟨g', c', cur', rfl, _, h2, _⟩
      · cases e
      · have : g' = g := by simpa [Value.ownBlock] using e
        subst this
        rw [h1] at h2; cases h2
  refine ⟨⟨⟨f, k4.set 3 _⟩, ?_, ?_, rb, by simp [hN, hN2]⟩, chg.trans ?_⟩
  · have e : (s.out ++ [b]).length = N + 1 := by simp [hN]
    show World.ownsRow _ base 5 1 _ (s.out ++ [b]).length (vn (s.out ++ [b]))
    rw [e]
    have h1 := (oo3.alloc (.cells #[.int .i64 (tm : Int)] 3)).drew.kept hgrow4 (Or.inr (fun e => hgT e.symm))
    exact own_only h1 o5 (by intro e; injection e with e; exact hgR e)
  · have e : (s.times ++ [(s.pos - 1) / 8]).length = N + 1 := by simp [hN2]
    show World.ownsRow _ base 3 1 _ (s.times ++ [(s.pos - 1) / 8]).length (vt (s.times ++ [(s.pos - 1) / 8]))
    rw [e, htm]
    have e2 : vt (s.times ++ [tm]) = vt s.times ++ [.int .i64 (tm : Int)] := by simp [vt]
    rw [e2]
    exact own_only hown4 o5 (by intro e; injection e with e; exact hg4 e)
  · refine ⟨o5.os.trans hgrow4.os, o5.tape.trans hgrow4.tape, o5.output.trans hgrow4.output, by rw [o5.size]; have := hgrow4.size; omega, fun k hk h1 h2 h3 => ?_, fun k hk => Or.inl hk, fun k hk => ?_⟩
    · refine (o5.block k h1).trans ((hgrow4.block k (by omega) h3).trans ?_)
      exact Below.heap_alloc w3 _ k hk
    · have : g4 = k := by injection hk
      subst this
      rcases hat4 with e | e
      · exact Or.inl e
      · right; omega
end Go.Proofs.YtikdpnpkmmmacabDoor

/-
  What the document's symbol comes to: one of a code is read, bit by bit.
-/
namespace Go.Proofs.YtikdpnpkmmmacabDoor
open Go.RowKit
set_option linter.unusedVariables false
/-- What reading a symbol leaves. -/
def symS (r : SR) (L : Nat) (s : Rs) : Rs := match r with
  | .got _ n => { s with pos := s.pos + n }
  | .bad j => { s with pos := s.pos + j, why := 13, at_ := (s.pos + j - 1) / 8 }
  | .cut => { s with why := 1, at_ := L }
def symV (r : SR) : Nat := match r with
  | .got x _ => x
  | _ => 0
theorem told_any (ls : List Nat) (h : List Bool) (hk : part ls 15 ≤ 32768) (h15 : ∀ x ∈ ls, x ≤ 15) : (∃ x n, Hit ls h x n ∧ Told ls h x 0 n) ∨ ((∀ i n, ¬ Hit ls h i n) ∧ May ls h ∧ Told ls h 0 1 0) ∨ ((∀ i n, ¬ Hit ls h i n) ∧ ¬ May ls h ∧ Told ls h 0 2 0) := by
  have may : (∃ j n, ls[j]? = some n ∧ 0 < n ∧ h <+: cbits ls j) ↔ May ls h := by
    constructor
    · rintro ⟨j, n, h1, h2, h3⟩
      have := (may_prefix hk h15 h1 h2).1 h3
      exact ⟨j, n, h1, h2, this.1, this.2⟩
    · rintro ⟨j, n, h1, h2, h3, h4⟩
      exact ⟨j, n, h1, h2, (may_prefix hk h15 h1 h2).2 ⟨h3, h4⟩⟩
  by_cases h1 : ∃ x n, Hit ls h x n
  · obtain ⟨x, n, hh⟩ := h1
    exact Or.inl ⟨x, n, hh, Or.inl ⟨hh, rfl⟩⟩
  · have h2 : ∀ i n, ¬ Hit ls h i n := fun i n hi => h1 ⟨i, n, hi⟩
    by_cases h3 : May ls h
    · exact Or.inr (Or.inl ⟨h2, h3, Or.inr (Or.inl ⟨h2, may.2 h3, rfl, rfl, rfl⟩)⟩)
    · exact Or.inr (Or.inr ⟨h2, h3, Or.inr (Or.inr ⟨h2, fun h4 => h3 (may.1 h4), rfl, rfl, rfl⟩)⟩)
variable {w u : World} {base R L C most : Nat} {a : Option Addr} {s : Rs} {vO vT : Value}
theorem Rn.below (h : Rn w base R a L C most s vO vT) (k : Below w.heap.size w u) : Rn u base R a L C most s vO vT := by
  obtain ⟨f, hc⟩ := h.cells
  have kg : w.grownBy u none := ⟨k.os, k.tape, k.output, k.size, fun i hi _ => k.block i hi⟩
  exact ⟨⟨f, hc.below k hc.lt⟩, h.oo.kept kg (by cases vO.ownBlock <;> simp), h.ot.kept kg (by cases vT.ownBlock <;> simp), h.rb, h.tl⟩
theorem bools_lb {w : World} {base n : Nat} {v : Value} {l : List Bool} (h : w.ownsRow base 4 1 v n (vb l)) (hn : l.length = n) : ∃ a c, v = .slice a n c ∧ Lb w a l := by
  rcases h.2 with ⟨hv, h0⟩ | ⟨g, c, cur, hv, hg, hh, hc, hm, hs, ht⟩
  · exact ⟨none, 0, by rw [hv, h0], Or.inl (List.eq_nil_of_length_eq_zero (by omega))⟩
  · refine ⟨_, c, hv, Or.inr ⟨g, 0, rfl, fun i x hx => ?_⟩⟩
    rw [Nat.zero_add, Cells.cell (cs := cur) (t := 4) hh]
    have hi : i < l.length := (List.getElem?_eq_some_iff.1 hx).1
    have e : (cur.toList.take (n * 1))[i]? = some (.bool x) := by rw [ht]; simp [vb, hx]
    rw [List.getElem?_take, if_pos (by omega)] at e
    simpa using e
theorem Rn.drawn (h : Rn w base R a L C most s vO vT) (k : Drawn w u) : Rn u base R a L C most s vO vT := by obtain ⟨n, rfl⟩ := k; exact h.drewN n
theorem below_drawn {B : Nat} {v : World} (h : Below B w u) (k : Drawn u v) : Below B w v := by obtain ⟨n, rfl⟩ := k; exact ⟨h.os, h.tape, h.output, h.size, h.block⟩
/-- The place is moved on. -/
theorem Rn.move (h : Rn w base R a L C most s vO vT) (p : Nat) : Rn (w.setCell ⟨R, 7, none⟩ (.int .i64 (p : Int))) base R a L C most { s with pos := p } vO vT ∧ Only R w (w.setCell ⟨R, 7, none⟩ (.int .i64 (p : Int))) := by
  have o : Only R w (w.setCell ⟨R, 7, none⟩ (.int .i64 (p : Int))) := (Only.refl R w).setCell _ _
  obtain ⟨f, hc⟩ := h.cells
  exact ⟨h.only o ⟨f, hc.set 7 _⟩ rfl rfl, o⟩
end Go.Proofs.YtikdpnpkmmmacabDoor

/-
  What lies around the document's run, and its small calls told by the machine's steps.
-/
namespace Go.Proofs.YtikdpnpkmmmacabDoor
open Go.RowKit
set_option linter.unusedVariables false
/-- Neither stopped nor ended. -/
def Opn (s : Rs) : Prop := s.why = 0 ∧ s.ended = false
theorem Opn.opn {s : Rs} (h : Opn s) : s.opn = true := by unfold Rs.opn; rw [h.1, h.2]; rfl
/-- The machine has come to c, and there is no step more: so the run knows it. -/
structure Fin (bs : List Bool) (most L : Nat) (c : Cfg) (s : Rs) : Prop where
  none_ : step bs most c = none
  out : s.out = c.out
  times : s.times = c.times
  ended : s.ended = false
  how : (∃ y, c.st = .bad y ∧ s.why = y ∧ s.at_ = (c.pos - 1) / 8 ∧ y ≠ 0) ∨ ((∀ y, c.st ≠ .bad y) ∧ c.st ≠ .done ∧ s.why = 1 ∧ s.at_ = L)
theorem Fin.opn {bs : List Bool} {most L : Nat} {c : Cfg} {s : Rs} (h : Fin bs most L c s) : s.opn = false := by
  unfold Rs.opn
  rcases h.how with ⟨y, _, h1, _, h2⟩ | ⟨_, _, h1, _⟩
  · rw [h1]; have : (y == 0) = false := beq_eq_false_iff_ne.2 h2; rw [this]; rfl
  · rw [h1]; rfl
/-- More bits are wanted. -/
theorem Fin.cut {bs : List Bool} {most L : Nat} {c : Cfg} {s : Rs} (h : step bs most c = none) (h1 : s.out = c.out) (h2 : s.times = c.times) (h3 : s.ended = false) (h4 : ∀ y, c.st ≠ .bad y) (h5 : c.st ≠ .done) : Fin bs most L c { s with why := 1, at_ := L } := ⟨h, h1, h2, h3, Or.inr ⟨h4, h5, rfl, rfl⟩⟩
theorem Fin.bad {bs : List Bool} {most L : Nat} {c : Cfg} {s : Rs} (y : Nat) (hc : c.st = .bad y) (h1 : s.out = c.out) (h2 : s.times = c.times) (h3 : s.ended = false) (hy : y ≠ 0) (hp : c.pos = s.pos) : Fin bs most L c { s with why := y, at_ := (s.pos - 1) / 8 } :=
  ⟨by unfold step; rw [hc], h1, h2, h3, Or.inl ⟨y, hc, rfl, by rw [hp], hy⟩⟩
/-- Whatever the run does, P holds on. -/
def Kept (P : World → Prop) (R : Nat) (vO vT : Value) (w : World) : Prop := ∀ (u : World) (vO' vT' : Value), Chg R vO vT vO' vT' w u → P u
theorem Kept.now {P : World → Prop} {R : Nat} {vO vT : Value} {w : World} (h : Kept P R vO vT w) : P w := h w vO vT (Chg.refl _ _ _ _)
theorem Kept.on {P : World → Prop} {R : Nat} {vO vT vO' vT' : Value} {w u : World} (h : Kept P R vO vT w) (k : Chg R vO vT vO' vT' w u) : Kept P R vO' vT' u := fun v x y hv => h v x y (k.trans hv)
/-- What lies around a run. -/
structure Ctx (B : List Nat) (base R : Nat) (a : Option Addr) (L C most : Nat) (w : World) (s : Rs) (vO vT : Value) : Prop where
  run : Rn w base R a L C most s vO vT
  lies : Kept (fun u => Lies u a B) R vO vT w
  len : B.length = L
  lb : L < 140737488355328
  oct : Oct B
  pos : s.pos ≤ 8 * L
  most_ : most ≤ 1048576
  base_ : base ≤ w.heap.size
  og : Oct s.out
theorem Ctx.on {B : List Nat} {base R L C most : Nat} {a : Option Addr} {w u : World} {s s' : Rs} {vO vT vO' vT' : Value} (h : Ctx B base R a L C most w s vO vT) (hr : Rn u base R a L C most s' vO' vT') (k : Chg R vO vT vO' vT' w u) (hp : s'.pos ≤ 8 * L) (hg : Oct s'.out) : Ctx B base R a L C most u s' vO' vT' :=
  ⟨hr, h.lies.on k, h.len, h.lb, h.oct, hp, h.most_, Nat.le_trans h.base_ k.size, hg⟩
/-- A table that stays. -/
structure Tab (R : Nat) (vO vT : Value) (w : World) (T : Nat) (ls : List Nat) : Prop where
  tb : Kept (fun u => Tb u T ls) R vO vT w
  len : ls.length ≤ 320
  part : part ls 15 ≤ 32768
  le15 : ∀ x ∈ ls, x ≤ 15
theorem Tab.on {R T : Nat} {ls : List Nat} {vO vT vO' vT' : Value} {w u : World} (h : Tab R vO vT w T ls) (k : Chg R vO vT vO' vT' w u) : Tab R vO' vT' u T ls := ⟨h.tb.on k, h.len, h.part, h.le15⟩
theorem num_le {bs : List Bool} {p n x : Nat} (h : num? bs p n = some x) : p + n ≤ bs.length := by
  unfold num? at h; split at h
  · assumption
  · cases h
variable {w u : World} {base R L C most : Nat} {a : Option Addr} {s : Rs} {vO vT : Value} {B : List Nat}
theorem sread_le {ls : List Nat} {h : List Bool} : match sread ls h with | .got x n => Hit ls h x n | .bad j => j ≤ h.length | .cut => True := by
  unfold sread
  cases e : (List.range ls.length).find? (hitb ls h) with
  | some x =>
    obtain ⟨n, hn⟩ := hitb_iff.1 (List.find?_some e)
    simp only []
    rw [List.getD_eq_getElem?_getD, hn.1]
    exact hn
  | none =>
    cases e2 : (List.range (h.length + 1)).find? (fun j => !mayb ls (h.take j)) with
    | some j =>
      simp only []
      have := List.mem_range.1 (List.mem_of_find?_eq_some e2)
      omega
    | none => trivial
end Go.Proofs.YtikdpnpkmmmacabDoor

/-
  What the document's copied comes to, told by the machine's steps.
-/
namespace Go.Proofs.YtikdpnpkmmmacabDoor
open Go.RowKit
set_option linter.unusedVariables false
theorem lmore_le (s : Nat) (h : s ≤ 285) : lmore s ≤ 5 := by unfold lmore; split <;> (try split) <;> omega
theorem dmore_le (x : Nat) (h : x ≤ 29) : dmore x ≤ 13 := by unfold dmore; split <;> omega
theorem lbase_le (s : Nat) (h1 : 257 ≤ s) (h2 : s ≤ 285) : lbase s ≤ 1000 := by
  by_cases h : s = 285
  · subst h; decide
  · rw [lbase_lbs h]; exact lbs_le _ (by omega)
theorem numb_lt {bs : List Bool} {p n x : Nat} (h : num? bs p n = some x) : x < 2 ^ n := by
  unfold num? at h; split at h
  · cases h
    have h1 := nm_lt ((bs.drop p).take n)
    refine Nat.lt_of_lt_of_le h1 (Nat.pow_le_pow_right (by decide) ?_)
    rw [List.length_take]; omega
  · cases h
variable {w u : World} {base R L C most : Nat} {a : Option Addr} {s : Rs} {vO vT : Value} {B : List Nat}
theorem Ctx.drew (h : Ctx B base R a L C most w s vO vT) : Ctx B base R a L C most w.drew s vO vT := h.on h.run.drew (Chg.drawn ⟨1, rfl⟩) h.pos h.og
theorem wrap_sub {M d q : Nat} (h : M ≤ maxLen) (hd : d ≤ M) (hq : M - d = q) : ∀ z : Int, z = (M : Int) - (d : Int) → IntKind.i64.wrap z = (q : Int) := by
  intro z hz
  unfold maxLen at h
  rw [IntKind.wrap_i64, hz]
  omega
/-- What a call of the run's leaves: c0 the machine's place ahead, k what comes next where it goes on. -/
def Left (B : List Nat) (base R : Nat) (a : Option Addr) (L C most : Nat) (vO vT : Value) (w w' : World) (c0 : Cfg) (k : St) : Prop :=
  ∃ s' vO' vT' c', Ctx B base R a L C most w' s' vO' vT' ∧ Chg R vO vT vO' vT' w w' ∧ Runs (allb B) most c0 c' ∧ ((Opn s' ∧ c' = ⟨k, s'.pos, s'.out, s'.times⟩) ∨ Fin (allb B) most L c' s')
end Go.Proofs.YtikdpnpkmmmacabDoor

/-
  What the document's symbols comes to: a block's symbols, told by the machine's steps.
-/
namespace Go.Proofs.YtikdpnpkmmmacabDoor
open Go.RowKit
set_option linter.unusedVariables false
theorem give_pos {most : Nat} {k : St} {b p : Nat} {c : Cfg} : (give most k b p c).pos = p := by unfold give; split <;> rfl
theorem step_pos {bs : List Bool} {most : Nat} {c d : Cfg} (h : step bs most c = some d) : c.pos ≤ d.pos := by
  obtain ⟨st, pos, out, times⟩ := c
  unfold step at h
  cases st with
  | head last =>
    cases last with
    | true => simp only [Option.some.injEq] at h; rw [← h]; exact Nat.le_refl _
    | false => simp only [Option.map_eq_some_iff] at h; obtain ⟨v, _, rfl⟩ := h; show pos ≤ pos + 3; omega
  | slen last => simp only [Option.map_eq_some_iff] at h; obtain ⟨v, _, rfl⟩ := h; show pos ≤ (pos + 7) / 8 * 8 + 16; omega
  | snot last l => simp only [Option.map_eq_some_iff] at h; obtain ⟨v, _, rfl⟩ := h; show pos ≤ pos + 16; omega
  | sraw last n =>
    cases n with
    | zero => simp only [Option.some.injEq] at h; rw [← h]; exact Nat.le_refl _
    | succ n => simp only [Option.map_eq_some_iff] at h; obtain ⟨v, _, rfl⟩ := h; rw [give_pos]; show pos ≤ pos + 8; omega
  | dnum last => simp only [Option.map_eq_some_iff] at h; obtain ⟨v, _, rfl⟩ := h; show pos ≤ pos + 14; omega
  | dfst last a b k i first =>
    simp only [] at h
    split at h
    · simp only [Option.map_eq_some_iff] at h; obtain ⟨v, _, rfl⟩ := h; show pos ≤ pos + 3; omega
    · simp only [Option.some.injEq] at h; rw [← h]; exact Nat.le_refl _
  | dsym last a b code l =>
    simp only [] at h
    split at h
    · split at h
      · cases h
      · simp only [Option.some.injEq] at h; rw [← h]; show pos ≤ pos + _; omega
      · simp only [Option.some.injEq] at h; rw [← h]; show pos ≤ pos + _; omega
    · simp only [Option.some.injEq] at h; rw [← h]; exact Nat.le_refl _
  | drep last a b code l s => simp only [Option.map_eq_some_iff] at h; obtain ⟨v, _, rfl⟩ := h; show pos ≤ pos + _; omega
  | sym last lit di =>
    simp only [] at h
    split at h
    · cases h
    · simp only [Option.some.injEq] at h; rw [← h]; show pos ≤ pos + _; omega
    · split at h
      · simp only [Option.some.injEq] at h; rw [← h, give_pos]; show pos ≤ pos + _; omega
      · simp only [Option.some.injEq] at h; rw [← h]; show pos ≤ pos + _; omega
  | lext last lit di s => simp only [Option.map_eq_some_iff] at h; obtain ⟨v, _, rfl⟩ := h; show pos ≤ pos + _; omega
  | dist last lit di n =>
    simp only [] at h
    split at h
    · cases h
    · simp only [Option.some.injEq] at h; rw [← h]; show pos ≤ pos + _; omega
    · simp only [Option.some.injEq] at h; rw [← h]; show pos ≤ pos + _; omega
  | dext last lit di n x => simp only [Option.map_eq_some_iff] at h; obtain ⟨v, _, rfl⟩ := h; show pos ≤ pos + _; omega
  | copy last lit di n d =>
    cases n with
    | zero => simp only [Option.some.injEq] at h; rw [← h]; exact Nat.le_refl _
    | succ n => simp only [Option.some.injEq] at h; rw [← h, give_pos]; exact Nat.le_refl _
  | done => cases h
  | bad y => cases h
theorem Runs.pos {bs : List Bool} {most : Nat} {c d : Cfg} (h : Runs bs most c d) : c.pos ≤ d.pos := by
  induction h with
  | refl => exact Nat.le_refl _
  | cons h1 _ ih => exact Nat.le_trans (step_pos h1) ih
variable {w u : World} {base R L C most : Nat} {a : Option Addr} {s : Rs} {vO vT : Value} {B : List Nat}
theorem Left.of {s' : Rs} {vO' vT' : Value} {c' : Cfg} {c0 : Cfg} {k : St} {w' : World} (h1 : Ctx B base R a L C most w' s' vO' vT') (h2 : Chg R vO vT vO' vT' w w') (h3 : Runs (allb B) most c0 c') (h4 : (Opn s' ∧ c' = ⟨k, s'.pos, s'.out, s'.times⟩) ∨ Fin (allb B) most L c' s') : Left B base R a L C most vO vT w w' c0 k := ⟨s', vO', vT', c', h1, h2, h3, h4⟩
end Go.Proofs.YtikdpnpkmmmacabDoor

/-
  What the document's stored comes to: a stored block, told by the machine's steps.
-/
namespace Go.Proofs.YtikdpnpkmmmacabDoor
open Go.RowKit
set_option linter.unusedVariables false
variable {w u : World} {base R L C most : Nat} {a : Option Addr} {s : Rs} {vO vT : Value} {B : List Nat}
theorem Ctx.move (h : Ctx B base R a L C most w s vO vT) (p : Nat) (hp : p ≤ 8 * L) : Ctx B base R a L C most (w.setCell ⟨R, 7, none⟩ (.int .i64 (p : Int))) { s with pos := p } vO vT ∧ Chg R vO vT vO vT w (w.setCell ⟨R, 7, none⟩ (.int .i64 (p : Int))) :=
  ⟨h.on (h.run.move p).1 (Chg.of_only (h.run.move p).2) hp h.og, Chg.of_only (h.run.move p).2⟩
end Go.Proofs.YtikdpnpkmmmacabDoor

/-
  What the document's Fixed and Order come to: lists of numbers.
-/
namespace Go.Proofs.YtikdpnpkmmmacabDoor
open Go.RowKit
set_option linter.unusedVariables false
def iz (l : List Nat) : List Int := l.map fun x : Nat => (x : Int)
theorem lens_iz (l : List Nat) : lens (iz l) = l := by
  unfold lens iz
  rw [List.map_map]
  conv => rhs; rw [← List.map_id l]
  exact List.map_congr_left fun x _ => by simp
theorem fixL_len : fixL.length = 288 := by simp [fixL]
theorem fixL_at {i n : Nat} (h : i < 288) (hn : (if 256 ≤ i ∧ i < 280 then 7 else if 144 ≤ i ∧ i < 256 then 9 else 8) = n) : fixL[i]? = some n := by
  rw [← hn]; simp [fixL, h]
theorem own_lens {w : World} {base n : Nat} {v : Value} {l : List Nat} (h : w.ownsRow base 3 1 v n (vt l)) (hn : l.length = n) : ∃ a c, v = .slice a n c ∧ Lens w a (iz l) ∧ n ≤ c ∧ (a = none → n = 0 ∧ c = 0) ∧ (∀ b o s, a = some ⟨b, o, s⟩ → base ≤ b) := by
  rcases h.2 with ⟨hv, h0⟩ | ⟨g, c, cur, hv, hg, hh, hc, hm, hs, ht⟩
  · exact ⟨none, 0, by rw [hv, h0], Or.inl (by rw [List.eq_nil_of_length_eq_zero (by omega : l.length = 0)]; rfl), by omega, (fun _ => ⟨h0, rfl⟩), (fun b o s e => by cases e)⟩
  · refine ⟨_, c, hv, Or.inr ⟨g, 0, rfl, fun i z hz => ?_⟩, hc, (fun e => by cases e), (fun b o s e => by cases e; exact hg)⟩
    rw [Nat.zero_add, Cells.cell (cs := cur) (t := 3) hh]
    unfold iz at hz
    rw [List.getElem?_map] at hz
    cases e1 : l[i]? with
    | none => rw [e1] at hz; cases hz
    | some x =>
      rw [e1] at hz
      have hz' : (x : Int) = z := by simpa using hz
      have hi : i < l.length := (List.getElem?_eq_some_iff.1 e1).1
      have e : (cur.toList.take (n * 1))[i]? = some (.int .i64 (x : Int)) := by rw [ht]; simp [vt, e1]
      rw [List.getElem?_take, if_pos (by omega)] at e
      rw [← hz']
      simpa using e
def FixedTo (w : World) (e : Ending) (w' : World) : Prop := ∃ la lc da dc, e = .returned (.tuple #[.slice la 288 lc, .slice da 32 dc]) ∧ Lens w' la (iz fixL) ∧ Lens w' da (iz fixD) ∧ Below w.heap.size w w'
end Go.Proofs.YtikdpnpkmmmacabDoor

/-
  What the document's repeated comes to: how often a length is said.
-/
namespace Go.Proofs.YtikdpnpkmmmacabDoor
open Go.RowKit
set_option linter.unusedVariables false
variable {w u : World} {base R L C most : Nat} {a : Option Addr} {s : Rs} {vO vT : Value} {B : List Nat}
end Go.Proofs.YtikdpnpkmmmacabDoor

/-
  The document's New within a run, and what its Of comes to, told by the machine's steps; of dynamic blocks by a contract that is handed in.
-/
namespace Go.Proofs.YtikdpnpkmmmacabDoor
open Go.RowKit
set_option linter.unusedVariables false
theorem iz_len (l : List Nat) : (iz l).length = l.length := by simp [iz]
theorem okl_iz {l : List Nat} : Okl (iz l) ↔ l.length ≤ 320 ∧ ∀ x ∈ l, x ≤ 15 := by
  unfold Okl
  rw [iz_len]
  constructor
  · rintro ⟨h1, h2⟩
    exact ⟨h1, fun x hx => by have := h2 (x : Int) (List.mem_map.2 ⟨x, hx, rfl⟩); omega⟩
  · rintro ⟨h1, h2⟩
    refine ⟨h1, fun z hz => ?_⟩
    obtain ⟨x, hx, rfl⟩ := List.mem_map.1 hz
    have := h2 x hx
    constructor
    · show (0 : Int) ≤ (x : Int); omega
    · show (x : Int) ≤ 15; omega
theorem mays_iff {l : List Nat} : mays l = true ↔ nerr (iz l) = 0 := by
  unfold mays nerr
  rw [lens_iz, decide_eq_true_iff]
  constructor
  · rintro ⟨h1, h2, h3, h4⟩
    rw [if_neg (by rw [Decidable.not_not]; exact okl_iz.2 ⟨h1, h2⟩), if_neg (by omega), if_neg h4]
  · intro h
    split at h
    · omega
    · rename_i h1
      split at h
      · omega
      · rename_i h2
        split at h
        · omega
        · rename_i h3
          have := okl_iz.1 (Decidable.not_not.1 h1)
          exact ⟨this.1, this.2, by omega, h3⟩
variable {w u : World} {base R L C most : Nat} {a : Option Addr} {s : Rs} {vO vT : Value} {B : List Nat}
/-- What is new stays, whatever the run does. -/
theorem Ctx.away (h : Ctx B base R a L C most w s vO vT) {w' : World} (hb : Below w.heap.size w w') {u : World} {vO' vT' : Value} (k : Chg R vO vT vO' vT' w' u) {i : Nat} (h1 : w.heap.size ≤ i) (h2 : i < w'.heap.size) : u.heap[i]? = w'.heap[i]? :=
  k.block i h2 (by have := h.run.lt; omega) (fun e => by have := (h.run.oo.lt i e.symm).2; omega) (fun e => by have := (h.run.ot.lt i e.symm).2; omega)
theorem Ctx.grow (h : Ctx B base R a L C most w s vO vT) {w' : World} (hb : Below w.heap.size w w') : Ctx B base R a L C most w' s vO vT := h.on (h.run.below hb) (Chg.of_below hb) h.pos h.og
theorem fixD_len : fixD.length = 32 := by simp [fixD]
theorem mays_fixL : mays fixL = true := by decide +kernel
theorem mays_fixD : mays fixD = true := by decide +kernel
/-- What comes behind a block's head. -/
def kindSt (kd : Nat) (lb : Bool) : St := match kd with
  | 0 => .slen lb
  | 1 => .sym lb fixL fixD
  | 2 => .dnum lb
  | _ => .bad 10
/-- The machine has come to c, and it is over, or more bytes are wanted: so the run knows it. -/
def Endc (bs : List Bool) (most L : Nat) (c : Cfg) (s : Rs) : Prop := Fin bs most L c s ∨ (c.st = .done ∧ s.ended = true ∧ s.why = 0 ∧ s.at_ = (c.pos - 1) / 8 ∧ s.out = c.out ∧ s.times = c.times)
def OfTo (B : List Nat) (a : Option Addr) (L C : Nat) (most : Nat) (w : World) (e : Ending) (w' : World) : Prop :=
  ∃ R s vO vT c, e = .returned (.pointer (some ⟨R, 0, none⟩)) ∧ Rn w' w.heap.size R a L C most s vO vT ∧ Below w.heap.size w w' ∧ Runs (allb B) most ⟨.head false, 0, [], []⟩ c ∧ Endc (allb B) most L c s
end Go.Proofs.YtikdpnpkmmmacabDoor

/-
  What is done beside a run that once stood whole: the run's own memory stays, and so does what is done.
-/
namespace Go.Proofs.YtikdpnpkmmmacabDoor
open Go.RowKit
set_option linter.unusedVariables false
theorem own_at {w u : World} {base e size n : Nat} {v : Value} {xs : List Value} (h : w.ownsRow base e size v n xs) (hk : ∀ g, v.ownBlock = some g → u.heap[g]? = w.heap[g]?) : u.ownsRow base e size v n xs := by
  refine ⟨h.1, ?_⟩
  rcases h.2 with hn | ⟨g, cap, cur, rfl, hb, hgg, rest⟩
  · exact .inl hn
  · exact .inr ⟨g, cap, cur, rfl, hb, by rw [hk g rfl]; exact hgg, rest⟩
/-- The run stood whole at w1; since then it read on, and new memory was worked on. -/
structure Beside (B : List Nat) (base R : Nat) (a : Option Addr) (L C most : Nat) (w1 w : World) (s : Rs) (vO vT : Value) : Prop where
  at1 : ∃ s1, Ctx B base R a L C most w1 s1 vO vT
  now : Ctx B base R a L C most w s vO vT
  chg : Chg R vO vT vO vT w1 w
variable {w1 w u : World} {base R L C most : Nat} {a : Option Addr} {s : Rs} {vO vT : Value} {B : List Nat}
theorem Ctx.beside (h : Ctx B base R a L C most w s vO vT) : Beside B base R a L C most w w s vO vT := ⟨⟨s, h⟩, h, Chg.refl _ _ _ _⟩
theorem Beside.run (h : Beside B base R a L C most w1 w s vO vT) {s' : Rs} (k : Ctx B base R a L C most u s' vO vT) (g : Chg R vO vT vO vT w u) : Beside B base R a L C most w1 u s' vO vT := ⟨h.at1, k, h.chg.trans g⟩
theorem Beside.rlt (h : Beside B base R a L C most w1 w s vO vT) : R < w1.heap.size := by obtain ⟨s1, k⟩ := h.at1; exact k.run.lt
theorem Beside.olt (h : Beside B base R a L C most w1 w s vO vT) (g : Nat) (hg : vO.ownBlock = some g) : g < w1.heap.size := by obtain ⟨s1, k⟩ := h.at1; exact (k.run.oo.lt g hg).2
theorem Beside.tlt (h : Beside B base R a L C most w1 w s vO vT) (g : Nat) (hg : vT.ownBlock = some g) : g < w1.heap.size := by obtain ⟨s1, k⟩ := h.at1; exact (k.run.ot.lt g hg).2
theorem Beside.new (h : Beside B base R a L C most w1 w s vO vT) (k : Below w1.heap.size w u) : Beside B base R a L C most w1 u s vO vT := by
  have hc : Chg R vO vT vO vT w1 u := ⟨k.os.trans h.chg.os, k.tape.trans h.chg.tape, k.output.trans h.chg.output, Nat.le_trans h.chg.size k.size, fun i hi h1 h2 h3 => (k.block i hi).trans (h.chg.block i hi h1 h2 h3), fun _ h => Or.inl h, fun _ h => Or.inl h⟩
  have hr : Rn u base R a L C most s vO vT := by
    have r := h.now.run
    obtain ⟨f, hcl⟩ := r.cells
    exact ⟨⟨f, hcl.below k h.rlt⟩, own_at r.oo (fun g hg => k.block g (h.olt g hg)), own_at r.ot (fun g hg => k.block g (h.tlt g hg)), r.rb, r.tl⟩
  refine ⟨h.at1, ?_, hc⟩
  obtain ⟨s1, k1⟩ := h.at1
  exact k1.on hr hc h.now.pos h.now.og
/-- What is new stays while the run reads on. -/
theorem Beside.stay (h : Beside B base R a L C most w1 w s vO vT) {vO' vT' : Value} (g : Chg R vO vT vO' vT' w u) {k : Nat} (h1 : w1.heap.size ≤ k) (h2 : k < w.heap.size) : u.heap[k]? = w.heap[k]? :=
  g.block k h2 (by have := h.rlt; omega) (fun e => by have := h.olt k e.symm; omega) (fun e => by have := h.tlt k e.symm; omega)
theorem Beside.cells (h : Beside B base R a L C most w1 w s vO vT) {vO' vT' : Value} (g : Chg R vO vT vO' vT' w u) {k : Nat} {cs : Array Value} {t : TypeId} (h1 : w1.heap.size ≤ k) (hc : Cells w k cs t) : Cells u k cs t := (h.stay g h1 hc.lt).trans hc
theorem Beside.own (h : Beside B base R a L C most w1 w s vO vT) {vO' vT' : Value} (g : Chg R vO vT vO' vT' w u) {b e size n : Nat} {v : Value} {xs : List Value} (h1 : w1.heap.size ≤ b) (ho : w.ownsRow b e size v n xs) : u.ownsRow b e size v n xs :=
  own_at ho fun k hk => by have := ho.lt k hk; exact h.stay g (by omega) this.2
end Go.Proofs.YtikdpnpkmmmacabDoor

/-
  What repeated comes to behind a symbol of the lengths' code, told by the machine's steps; New within a run, whichever way it goes.
-/
namespace Go.Proofs.YtikdpnpkmmmacabDoor
open Go.RowKit
set_option linter.unusedVariables false
variable {w1 w u : World} {base R L C most : Nat} {a : Option Addr} {s : Rs} {vO vT : Value} {B : List Nat}
/-- What comes behind a symbol of the lengths' code. -/
def afterSym (last : Bool) (A D : Nat) (code l : List Nat) (x : Nat) : St := if x < 16 then .dsym last A D code (l ++ [x]) else if x = 16 ∧ l = [] then .bad 12 else .drep last A D code l x
theorem Lens.take {w : World} {la : Option Addr} {l : List Nat} (h : Lens w la (iz l)) (A : Nat) : Lens w la (iz (l.take A)) := by
  rcases h with h | ⟨b, o, ha, hc⟩
  · left
    have : l = [] := by unfold iz at h; simpa using h
    rw [this]; simp [iz]
  · refine Or.inr ⟨b, o, ha, fun i z hz => hc i z ?_⟩
    unfold iz at hz ⊢
    rw [List.map_take, List.getElem?_take] at hz
    split at hz
    · exact hz
    · cases hz
theorem Lens.drop {w : World} {b o : Nat} {l : List Nat} (h : Lens w (some ⟨b, o, none⟩) (iz l)) (A : Nat) : Lens w (some ⟨b, o + A, none⟩) (iz (l.drop A)) := by
  rcases h with h | ⟨b', o', ha, hc⟩
  · left
    have : l = [] := by unfold iz at h; simpa using h
    rw [this]; simp [iz]
  · cases ha
    refine Or.inr ⟨b, o + A, rfl, fun i z hz => ?_⟩
    unfold iz at hz
    rw [List.map_drop, List.getElem?_drop] at hz
    rw [Nat.add_assoc]
    exact hc (A + i) z hz
/-- A whole code of lengths of lengths. -/
theorem mays_full {l : List Nat} (h1 : l.length = 19) (h2 : ∀ x ∈ l, x < 8) (h3 : kr l = 32768) : mays l = true := by
  unfold mays
  refine decide_eq_true ⟨by omega, fun x hx => by have := h2 x hx; omega, by omega, ?_⟩
  unfold Under
  omega
/-- The lengths lie, whatever the run does. -/
theorem Beside.lens {la : Option Addr} {ll lc b : Nat} {l : List Nat} (h : Beside B base R a L C most w1 w s vO vT) (hb : w1.heap.size ≤ b) (ho : w.ownsRow b 3 1 (.slice la ll lc) ll (vt l)) (hll : l.length = ll) : Kept (fun u => Lens u la (iz l)) R vO vT w := by
  intro u x y g
  have ho2 := h.own g hb ho
  obtain ⟨a', c', e, q, _⟩ := own_lens ho2 hll
  cases e
  exact q
theorem cells_lens {F : Nat} {l : List Nat} (h : Cells w F (vt l).toArray 3) : Lens w (some ⟨F, 0, none⟩) (iz l) := by
  refine Or.inr ⟨F, 0, rfl, fun i z hz => ?_⟩
  rw [Nat.zero_add, h.cell]
  unfold iz at hz
  rw [List.getElem?_map] at hz
  cases e : l[i]? with
  | none => rw [e] at hz; cases hz
  | some x =>
    rw [e] at hz
    have hz' : (x : Int) = z := by simpa using hz
    rw [← hz']
    simp [vt, e]
end Go.Proofs.YtikdpnpkmmmacabDoor

/-
  What the document's dynamic comes to, told by the machine's steps.
-/
namespace Go.Proofs.YtikdpnpkmmmacabDoor
open Go.RowKit
set_option linter.unusedVariables false
variable {w1 w u : World} {base R L C most : Nat} {a : Option Addr} {s : Rs} {vO vT : Value} {B : List Nat}
def n19 : List Nat := List.replicate 19 0
theorem made_first (w : World) : (Instr.makeSlice 65 (.int .i64 19) (.int .i64 19)).run Tryd.prog w = .ok (.slice (some ⟨w.heap.size, 0, none⟩) 19 19) (w.alloc (.cells (vt n19).toArray 3)) := by kernel_rfl
theorem vt_set {l : List Nat} {i x : Nat} : (vt l).toArray.setIfInBounds i (.int .i64 (x : Int)) = (vt (l.set i x)).toArray := by
  unfold vt
  rw [List.map_set]
  simp
theorem ordr_at {i : Nat} (h : i < 19) : ordr[i]? = some (ordr.getD i 0) ∧ ordr.getD i 0 < 19 := by
  have : ∀ j : _root_.Fin 19, ordr[j.1]? = some (ordr.getD j.1 0) ∧ ordr.getD j.1 0 < 19 := by decide
  exact this ⟨i, h⟩
theorem set_lt {l : List Nat} {i x n : Nat} (h : ∀ y ∈ l, y < n) (hx : x < n) : ∀ y ∈ l.set i x, y < n := by
  intro y hy
  rcases List.mem_or_eq_of_mem_set hy with h1 | h1
  · exact h y h1
  · rw [h1]; exact hx
/-- One of the lengths of lengths is put down. -/
theorem Aft.of {w3 wr w7 : World} {s1 s7 : Rs} {O F : Nat} {first : List Nat} (h : Beside B base R a L C most w3 wr s1 vO vT) (g : Chg R vO vT vO vT wr w7) (hc : Ctx B base R a L C most w7 s7 vO vT) (ho : Cells w7 O (vt ordr).toArray 3) (hf : Cells w7 F (vt first).toArray 3) (hO : w3.heap.size = O) (hOF : O < F) (o x : Nat) :
    Aside (Beside B base R a L C most w3 (w7.setCell ⟨F, o, none⟩ (.int .i64 (x : Int))) s7 vO vT ∧ Cells (w7.setCell ⟨F, o, none⟩ (.int .i64 (x : Int))) O (vt ordr).toArray 3 ∧ Cells (w7.setCell ⟨F, o, none⟩ (.int .i64 (x : Int))) F (vt (first.set o x)).toArray 3) := by
  have on : Only F w7 (w7.setCell ⟨F, o, none⟩ (.int .i64 (x : Int))) := (Only.refl F w7).setCell _ _
  exact ⟨(h.run hc g).new (on.below (by omega)), ho.only on (by omega), by rw [← vt_set]; exact hf.set _ _⟩
end Go.Proofs.YtikdpnpkmmmacabDoor

/-
  The machine looks at no bit before its time: a step asks for the bits up to its end, no more. No walk in this text.
-/
namespace Go.Proofs.YtikdpnpkmmmacabDoor
set_option linter.unusedVariables false
/-- The first p bits are there, and the same. -/
def Agree (bs cs : List Bool) (p : Nat) : Prop := p ≤ bs.length ∧ p ≤ cs.length ∧ bs.take p = cs.take p
variable {bs cs : List Bool} {most : Nat}
theorem Agree.less {p q : Nat} (h : Agree bs cs q) (hp : p ≤ q) : Agree bs cs p := by
  refine ⟨Nat.le_trans hp h.1, Nat.le_trans hp h.2.1, ?_⟩
  have : (bs.take q).take p = (cs.take q).take p := by rw [h.2.2]
  rwa [List.take_take, List.take_take, Nat.min_eq_left hp] at this
theorem Agree.seg {p n : Nat} (h : Agree bs cs (p + n)) : (bs.drop p).take n = (cs.drop p).take n := by
  have : (bs.take (p + n)).drop p = (cs.take (p + n)).drop p := by rw [h.2.2]
  rwa [List.drop_take, List.drop_take, Nat.add_sub_cancel_left] at this
theorem Agree.symm {p : Nat} (h : Agree bs cs p) : Agree cs bs p := ⟨h.2.1, h.1, h.2.2.symm⟩
theorem Agree.append (bs t : List Bool) {p : Nat} (h : p ≤ bs.length) : Agree bs (bs ++ t) p := ⟨h, by rw [List.length_append]; omega, by rw [List.take_append_of_le_length h]⟩
theorem num_agree {p n v : Nat} (h : num? bs p n = some v) (k : Agree bs cs (p + n)) : num? cs p n = some v := by
  unfold num? at *
  rw [if_pos k.1] at h
  rw [if_pos k.2.1, ← k.seg]
  exact h
theorem map_agree {p n : Nat} {f : Nat → Cfg} {d : Cfg} (h : (num? bs p n).map f = some d) (hf : ∀ v, (f v).pos = p + n) (k : Agree bs cs d.pos) : (num? cs p n).map f = some d := by
  rw [Option.map_eq_some_iff] at *
  obtain ⟨v, hv, rfl⟩ := h
  rw [hf] at k
  exact ⟨v, num_agree hv k, rfl⟩
theorem hit_agree {ls : List Nat} {h g : List Bool} {s n : Nat} (hh : Hit ls h s n) (hg : n ≤ g.length) (e : h.take n = g.take n) : Hit ls g s n := ⟨hh.1, hh.2.1, hg, by rw [← e]; exact hh.2.2.2⟩
theorem sread_got_agree {ls : List Nat} {p s n : Nat} (h : sread ls (bs.drop p) = .got s n) (k : Agree bs cs (p + n)) : sread ls (cs.drop p) = .got s n := by
  have hh := sread_le (ls := ls) (h := bs.drop p)
  rw [h] at hh
  exact sread_got (hit_agree hh (by rw [List.length_drop]; have := k.2.1; omega) k.seg)
theorem sread_bad_facts {ls : List Nat} {h : List Bool} {j : Nat} (e : sread ls h = .bad j) : j ≤ h.length ∧ (∀ s n, ¬ Hit ls (h.take j) s n) ∧ ¬ May ls (h.take j) ∧ ∀ k, k < j → May ls (h.take k) := by
  unfold sread at e
  cases e1 : (List.range ls.length).find? (hitb ls h) with
  | some x => rw [e1] at e; cases e
  | none =>
    rw [e1] at e
    cases e2 : (List.range (h.length + 1)).find? (fun j => !mayb ls (h.take j)) with
    | none => rw [e2] at e; cases e
    | some i =>
      rw [e2] at e
      have hij : i = j := by simpa using e
      subst hij
      have hi := List.mem_range.1 (List.mem_of_find?_eq_some e2)
      have hno : ∀ s n, ¬ Hit ls h s n := fun s n hh => by
        have := List.find?_eq_none.1 e1 s (List.mem_range.2 (List.getElem?_eq_some_iff.1 hh.1).1)
        exact this (hitb_iff.2 ⟨n, hh⟩)
      refine ⟨by omega, fun s n hh => ?_, ?_, fun k hk => ?_⟩
      · have hn : n ≤ i := by have := hh.2.2.1; rw [List.length_take] at this; omega
        exact hno s n ⟨hh.1, hh.2.1, by omega, by have := hh.2.2.2; rwa [List.take_take, Nat.min_eq_left hn] at this⟩
      · intro hm
        have := List.find?_some e2
        rw [mayb_iff.2 hm] at this
        cases this
      · apply mayb_iff.1
        obtain ⟨_, xs, ys, happ, has⟩ := List.find?_eq_some_iff_append.1 e2
        have hk2 : k ∈ xs := by
          have hlen : xs.length = i := by
            have h5 : (List.range (h.length + 1))[xs.length]? = some i := by rw [happ]; simp
            rw [List.getElem?_eq_some_iff] at h5
            obtain ⟨q1, q2⟩ := h5
            simpa using q2
          have h6 : (List.range (h.length + 1))[k]? = some k := by rw [List.getElem?_range (by omega)]
          rw [happ, List.getElem?_append_left (by omega)] at h6
          exact List.mem_of_getElem? h6
        have := has k hk2
        simpa using this
theorem sread_bad_agree {ls : List Nat} {p j : Nat} (h : sread ls (bs.drop p) = .bad j) (k : Agree bs cs (p + j)) : sread ls (cs.drop p) = .bad j := by
  obtain ⟨h1, h2, h3, h4⟩ := sread_bad_facts h
  have e := k.seg
  refine sread_bad (by rw [List.length_drop]; have := k.2.1; omega) (by rw [← e]; exact h2) (by rw [← e]; exact h3) (fun i hi => ?_)
  have e2 : (cs.drop p).take i = (bs.drop p).take i := ((k.less (by omega : p + i ≤ p + j)).seg).symm
  rw [e2]
  exact h4 i hi
/-- A step asks for the bits up to its end, no more. -/
theorem step_agree {c d : Cfg} (h : step bs most c = some d) (k : Agree bs cs d.pos) : step cs most c = some d := by
  obtain ⟨st, pos, out, times⟩ := c
  unfold step at *
  cases st with
  | head last =>
    cases last with
    | true => exact h
    | false => exact map_agree h (fun _ => rfl) k
  | slen last => exact map_agree h (fun _ => rfl) k
  | snot last l => exact map_agree h (fun _ => rfl) k
  | sraw last n =>
    cases n with
    | zero => exact h
    | succ n => exact map_agree h (fun _ => give_pos) k
  | dnum last => exact map_agree h (fun _ => rfl) k
  | dfst last a b i j first =>
    simp only [] at *
    split at h
    · rename_i hlt; rw [if_pos hlt]; exact map_agree h (fun _ => rfl) k
    · rename_i hlt; rw [if_neg hlt]; exact h
  | dsym last a b code l =>
    simp only [] at *
    split at h
    · rename_i hlt
      rw [if_pos hlt]
      cases e : sread code (bs.drop pos) with
      | cut => rw [e] at h; cases h
      | bad j => rw [e] at h; simp only [Option.some.injEq] at h; subst h; rw [sread_bad_agree e k]
      | got s n => rw [e] at h; simp only [Option.some.injEq] at h; subst h; rw [sread_got_agree e k]
    · rename_i hlt; rw [if_neg hlt]; exact h
  | drep last a b code l s => exact map_agree h (fun _ => rfl) k
  | sym last lit di =>
    simp only [] at *
    cases e : sread lit (bs.drop pos) with
    | cut => rw [e] at h; cases h
    | bad j => rw [e] at h; simp only [Option.some.injEq] at h; subst h; rw [sread_bad_agree e k]
    | got s n =>
      rw [e] at h
      simp only [] at h
      split at h
      · rename_i hlt
        simp only [Option.some.injEq] at h
        subst h
        rw [give_pos] at k
        rw [sread_got_agree e k]
        simp only [if_pos hlt]
      · rename_i hlt
        simp only [Option.some.injEq] at h
        subst h
        rw [sread_got_agree e k]
        simp only [if_neg hlt]
  | lext last lit di s => exact map_agree h (fun _ => rfl) k
  | dist last lit di n =>
    simp only [] at *
    cases e : sread di (bs.drop pos) with
    | cut => rw [e] at h; cases h
    | bad j => rw [e] at h; simp only [Option.some.injEq] at h; subst h; rw [sread_bad_agree e k]
    | got s n => rw [e] at h; simp only [Option.some.injEq] at h; subst h; rw [sread_got_agree e k]
  | dext last lit di n x => exact map_agree h (fun _ => rfl) k
  | copy last lit di n d => cases n <;> exact h
  | done => cases h
  | bad y => cases h
theorem runs_agree {c d : Cfg} (h : Runs bs most c d) (k : Agree bs cs d.pos) : Runs cs most c d := by
  induction h with
  | refl => exact Runs.refl _
  | cons h1 r ih => exact Runs.cons (step_agree h1 (k.less r.pos)) (ih k)
end Go.Proofs.YtikdpnpkmmmacabDoor

/-
  The machine over bytes that come one at a time: with which of them what is known. No walk in this text.
-/
namespace Go.Proofs.YtikdpnpkmmmacabDoor
set_option linter.unusedVariables false
variable {bs cs : List Bool} {most : Nat}
theorem map_le {p n : Nat} {f : Nat → Cfg} {d : Cfg} (h : (num? bs p n).map f = some d) (hf : ∀ v, (f v).pos = p + n) : d.pos ≤ bs.length := by
  rw [Option.map_eq_some_iff] at h
  obtain ⟨v, hv, rfl⟩ := h
  rw [hf]
  exact num_le hv
theorem sread_end {ls : List Nat} {p s n : Nat} (h : sread ls (bs.drop p) = .got s n) (hp : p ≤ bs.length) : p + n ≤ bs.length := by
  have hh := sread_le (ls := ls) (h := bs.drop p)
  rw [h] at hh
  have := hh.2.2.1
  rw [List.length_drop] at this
  omega
theorem sread_end' {ls : List Nat} {p j : Nat} (h : sread ls (bs.drop p) = .bad j) (hp : p ≤ bs.length) : p + j ≤ bs.length := by
  have hh := sread_le (ls := ls) (h := bs.drop p)
  rw [h] at hh
  have hh' : j ≤ (bs.drop p).length := hh
  rw [List.length_drop] at hh'
  omega
/-- What a step may add. -/
def Adds (c d : Cfg) : Prop := (d.out = c.out ∧ d.times = c.times) ∨ ∃ b, d.out = c.out ++ [b] ∧ d.times = c.times ++ [(d.pos - 1) / 8]
theorem adds_give {most : Nat} {k : St} {b p : Nat} {c : Cfg} : Adds c (give most k b p c) := by
  unfold give
  split
  · exact Or.inr ⟨b, rfl, rfl⟩
  · exact Or.inl ⟨rfl, rfl⟩
theorem map_adds {p n : Nat} {f : Nat → Cfg} {c d : Cfg} (h : (num? bs p n).map f = some d) (hf : ∀ v, Adds c (f v)) : Adds c d := by
  rw [Option.map_eq_some_iff] at h
  obtain ⟨v, hv, rfl⟩ := h
  exact hf v
/-- A step ends within the bits, and adds a byte or none. -/
theorem step_ends {c d : Cfg} (h : step bs most c = some d) (hc : c.pos ≤ bs.length) : d.pos ≤ bs.length ∧ Adds c d := by
  obtain ⟨st, pos, out, times⟩ := c
  have hp : pos ≤ bs.length := hc
  unfold step at h
  cases st with
  | head last =>
    cases last with
    | true => simp only [Option.some.injEq] at h; rw [← h]; exact ⟨hp, Or.inl ⟨rfl, rfl⟩⟩
    | false => exact ⟨map_le h (fun _ => rfl), map_adds h (fun _ => Or.inl ⟨rfl, rfl⟩)⟩
  | slen last => exact ⟨map_le h (fun _ => rfl), map_adds h (fun _ => Or.inl ⟨rfl, rfl⟩)⟩
  | snot last l => exact ⟨map_le h (fun _ => rfl), map_adds h (fun _ => Or.inl ⟨rfl, rfl⟩)⟩
  | sraw last n =>
    cases n with
    | zero => simp only [Option.some.injEq] at h; rw [← h]; exact ⟨hp, Or.inl ⟨rfl, rfl⟩⟩
    | succ n => exact ⟨map_le h (fun _ => give_pos), map_adds h (fun _ => adds_give)⟩
  | dnum last => exact ⟨map_le h (fun _ => rfl), map_adds h (fun _ => Or.inl ⟨rfl, rfl⟩)⟩
  | dfst last a b i j first =>
    simp only [] at h
    split at h
    · exact ⟨map_le h (fun _ => rfl), map_adds h (fun _ => Or.inl ⟨rfl, rfl⟩)⟩
    · simp only [Option.some.injEq] at h; rw [← h]; exact ⟨hp, Or.inl ⟨rfl, rfl⟩⟩
  | dsym last a b code l =>
    simp only [] at h
    split at h
    · cases e : sread code (bs.drop pos) with
      | cut => rw [e] at h; cases h
      | bad j => rw [e] at h; simp only [Option.some.injEq] at h; subst h; exact ⟨sread_end' e hp, Or.inl ⟨rfl, rfl⟩⟩
      | got s n => rw [e] at h; simp only [Option.some.injEq] at h; subst h; exact ⟨sread_end e hp, Or.inl ⟨rfl, rfl⟩⟩
    · simp only [Option.some.injEq] at h; rw [← h]; exact ⟨hp, Or.inl ⟨rfl, rfl⟩⟩
  | drep last a b code l s => exact ⟨map_le h (fun _ => rfl), map_adds h (fun _ => Or.inl ⟨rfl, rfl⟩)⟩
  | sym last lit di =>
    simp only [] at h
    cases e : sread lit (bs.drop pos) with
    | cut => rw [e] at h; cases h
    | bad j => rw [e] at h; simp only [Option.some.injEq] at h; subst h; exact ⟨sread_end' e hp, Or.inl ⟨rfl, rfl⟩⟩
    | got s n =>
      rw [e] at h
      simp only [] at h
      split at h
      · simp only [Option.some.injEq] at h; subst h; exact ⟨by rw [give_pos]; exact sread_end e hp, adds_give⟩
      · simp only [Option.some.injEq] at h; subst h; exact ⟨sread_end e hp, Or.inl ⟨rfl, rfl⟩⟩
  | lext last lit di s => exact ⟨map_le h (fun _ => rfl), map_adds h (fun _ => Or.inl ⟨rfl, rfl⟩)⟩
  | dist last lit di n =>
    simp only [] at h
    cases e : sread di (bs.drop pos) with
    | cut => rw [e] at h; cases h
    | bad j => rw [e] at h; simp only [Option.some.injEq] at h; subst h; exact ⟨sread_end' e hp, Or.inl ⟨rfl, rfl⟩⟩
    | got s n => rw [e] at h; simp only [Option.some.injEq] at h; subst h; exact ⟨sread_end e hp, Or.inl ⟨rfl, rfl⟩⟩
  | dext last lit di n x => exact ⟨map_le h (fun _ => rfl), map_adds h (fun _ => Or.inl ⟨rfl, rfl⟩)⟩
  | copy last lit di n d =>
    cases n with
    | zero => simp only [Option.some.injEq] at h; rw [← h]; exact ⟨hp, Or.inl ⟨rfl, rfl⟩⟩
    | succ n => simp only [Option.some.injEq] at h; rw [← h]; exact ⟨by rw [give_pos]; exact hp, adds_give⟩
  | done => cases h
  | bad y => cases h
theorem runs_ends {c d : Cfg} (h : Runs bs most c d) (hc : c.pos ≤ bs.length) : d.pos ≤ bs.length := by
  induction h with
  | refl => exact hc
  | cons h1 _ ih => exact ih (step_ends h1 hc).1
/-- What is ahead of the end of bits lies on the way to it. -/
theorem Runs.linear {c d e : Cfg} (h : Runs bs most c d) (k : Runs bs most c e) (he : step bs most e = none) : Runs bs most d e := by
  induction h with
  | refl => exact k
  | cons h1 _ ih =>
    cases k with
    | refl => rw [he] at h1; cases h1
    | cons h2 k2 => rw [h1] at h2; cases h2; exact ih k2
/-- All of it is in one byte: number i. -/
theorem runs_in {c d : Cfg} {i : Nat} (h : Runs bs most c d) (h1 : 8 * i < c.pos) (h2 : c.pos ≤ bs.length) (h3 : bs.length = 8 * (i + 1)) : ∃ o, d.out = c.out ++ o ∧ d.times = c.times ++ List.replicate o.length i := by
  induction h with
  | refl => exact ⟨[], by simp, by simp⟩
  | @cons c x e s1 r ih =>
    obtain ⟨q1, q2⟩ := step_ends s1 h2
    obtain ⟨o, q3, q4⟩ := ih (by have := step_pos s1; omega) q1
    rcases q2 with ⟨q5, q6⟩ | ⟨b, q5, q6⟩
    · exact ⟨o, by rw [q3, q5], by rw [q4, q6]⟩
    · refine ⟨b :: o, by rw [q3, q5]; simp, ?_⟩
      have e : (x.pos - 1) / 8 = i := by have := step_pos s1; omega
      rw [q4, q6, e, List.length_cons, List.replicate_succ]
      simp
/-- Another byte has come: all that follows is known with it. -/
theorem runs_next {c d : Cfg} {i : Nat} (hpre : cs <+: bs) (hcs : cs.length = 8 * i) (hbs : bs.length = 8 * (i + 1)) (hno : step cs most c = none) (hp : c.pos ≤ cs.length) (h : Runs bs most c d) :
    ∃ o, d.out = c.out ++ o ∧ d.times = c.times ++ List.replicate o.length i ∧ (d = c ∨ (8 * i < d.pos ∧ d.pos ≤ 8 * (i + 1))) := by
  cases h with
  | refl => exact ⟨[], by simp, by simp, Or.inl rfl⟩
  | @cons _ x _ s1 r =>
    have hlt : 8 * i < x.pos := by
      apply Decidable.byContradiction
      intro hh
      obtain ⟨t, rfl⟩ := hpre
      have := step_agree s1 (Agree.append cs t (by omega : x.pos ≤ cs.length)).symm
      rw [hno] at this
      cases this
    obtain ⟨q1, q2⟩ := step_ends s1 (by omega)
    obtain ⟨o, q3, q4⟩ := runs_in r hlt q1 hbs
    have q7 : 8 * i < d.pos ∧ d.pos ≤ 8 * (i + 1) := ⟨Nat.lt_of_lt_of_le hlt r.pos, by rw [← hbs]; exact runs_ends r q1⟩
    rcases q2 with ⟨q5, q6⟩ | ⟨b, q5, q6⟩
    · exact ⟨o, by rw [q3, q5], by rw [q4, q6], Or.inr q7⟩
    · refine ⟨b :: o, by rw [q3, q5]; simp, ?_, Or.inr q7⟩
      have e : (x.pos - 1) / 8 = i := by omega
      rw [q4, q6, e, List.length_cons, List.replicate_succ]
      simp
/-- Where the machine stands over some bytes. -/
def Stands (B : List Nat) (most : Nat) (c : Cfg) : Prop := Runs (allb B) most ⟨.head false, 0, [], []⟩ c ∧ step (allb B) most c = none
theorem Stands.one {B : List Nat} {c d : Cfg} (h : Stands B most c) (k : Stands B most d) : c = d := h.1.det k.1 h.2 k.2
theorem Stands.pos {B : List Nat} {c : Cfg} (h : Stands B most c) : c.pos ≤ 8 * B.length := by
  have := runs_ends h.1 (Nat.zero_le _)
  rwa [allb_len] at this
theorem allb_append (B D : List Nat) : allb (B ++ D) = allb B ++ allb D := by unfold allb; rw [List.flatMap_append]
/-- More bytes: it goes on from where it stood. -/
theorem Stands.more {B D : List Nat} {c d : Cfg} (h : Stands B most c) (k : Stands (B ++ D) most d) : Runs (allb (B ++ D)) most c d := by
  have h1 : Runs (allb (B ++ D)) most ⟨.head false, 0, [], []⟩ c := runs_agree h.1 (by rw [allb_append]; exact Agree.append _ _ (by have := h.pos; rw [allb_len]; exact this))
  exact h1.linear k.1 k.2
/-- One byte more. -/
theorem Stands.next {B : List Nat} {x : Nat} {c d : Cfg} (h : Stands B most c) (k : Stands (B ++ [x]) most d) :
    ∃ o, d.out = c.out ++ o ∧ d.times = c.times ++ List.replicate o.length B.length ∧ (d = c ∨ (8 * B.length < d.pos ∧ d.pos ≤ 8 * (B.length + 1))) :=
  runs_next (cs := allb B) ⟨allb [x], (allb_append B [x]).symm⟩ (allb_len B) (by rw [allb_len]; simp) h.2 (by rw [allb_len]; exact h.pos) (h.more k)
/-- What is over stays so. -/
theorem Stands.over {B D : List Nat} {c : Cfg} (h : Stands B most c) (ho : c.st = .done ∨ ∃ y, c.st = .bad y) : Stands (B ++ D) most c := by
  refine ⟨runs_agree h.1 (by rw [allb_append]; exact Agree.append _ _ (by have := h.pos; rw [allb_len]; exact this)), ?_⟩
  unfold step
  rcases ho with e | ⟨y, e⟩ <;> rw [e]
end Go.Proofs.YtikdpnpkmmmacabDoor

/-
  The machine asked for fewer bytes: it gives the first ones, and that there are more. No walk in this text.
-/
namespace Go.Proofs.YtikdpnpkmmmacabDoor
set_option linter.unusedVariables false
variable {bs : List Bool} {M N : Nat}
theorem map_out {p n : Nat} {f : Nat → Cfg} {d : Cfg} {o : List Nat} (h : (num? bs p n).map f = some d) (hf : ∀ v, (f v).out = o) : d.out = o := by
  rw [Option.map_eq_some_iff] at h
  obtain ⟨v, hv, rfl⟩ := h
  exact hf v
/-- What a step comes to where fewer may be. -/
def Fewer (N : Nat) (c d : Cfg) (r : Option Cfg) : Prop := (r = some d ∧ d.out.length ≤ N) ∨ (c.out.length = N ∧ r = some ⟨.bad 62, d.pos, c.out, c.times⟩ ∧ ∃ b, d.out = c.out ++ [b])
theorem fewer_give {k : St} {b p : Nat} {c : Cfg} (hN : N ≤ M) (hc : c.out.length ≤ N) : Fewer N c (give M k b p c) (some (give N k b p c)) := by
  unfold give
  by_cases h1 : c.out.length < N
  · rw [if_pos h1, if_pos (by omega)]
    exact Or.inl ⟨rfl, by simp; omega⟩
  · rw [if_neg h1]
    by_cases h2 : c.out.length < M
    · rw [if_pos h2]
      exact Or.inr ⟨by omega, rfl, b, rfl⟩
    · rw [if_neg h2]
      exact Or.inl ⟨rfl, hc⟩
theorem step_fewer {c d : Cfg} (h : step bs M c = some d) (hN : N ≤ M) (hc : c.out.length ≤ N) : Fewer N c d (step bs N c) := by
  obtain ⟨st, pos, out, times⟩ := c
  have ho : out.length ≤ N := hc
  unfold step at *
  have same : d.out = out → ∀ r : Option Cfg, r = some d → Fewer N ⟨st, pos, out, times⟩ d r := fun e r hr => Or.inl ⟨hr, by rw [e]; exact ho⟩
  cases st with
  | head last =>
    cases last with
    | true => exact same (by simp only [Option.some.injEq] at h; rw [← h]) _ h
    | false => exact same (map_out h fun _ => rfl) _ h
  | slen last => exact same (map_out h fun _ => rfl) _ h
  | snot last l => exact same (map_out h fun _ => rfl) _ h
  | sraw last n =>
    cases n with
    | zero => exact same (by simp only [Option.some.injEq] at h; rw [← h]) _ h
    | succ n =>
      simp only [Option.map_eq_some_iff] at h
      obtain ⟨v, hv, rfl⟩ := h
      simp only [hv]
      exact fewer_give hN hc
  | dnum last => exact same (map_out h fun _ => rfl) _ h
  | dfst last a b i j first =>
    simp only [] at *
    split at h
    · rename_i hlt; rw [if_pos hlt]; exact same (map_out h fun _ => rfl) _ h
    · rename_i hlt; rw [if_neg hlt]; exact same (by simp only [Option.some.injEq] at h; rw [← h]) _ h
  | dsym last a b code l =>
    simp only [] at *
    split at h
    · rename_i hlt
      rw [if_pos hlt]
      refine same ?_ _ h
      split at h
      · cases h
      · simp only [Option.some.injEq] at h; rw [← h]
      · simp only [Option.some.injEq] at h; rw [← h]
    · rename_i hlt; rw [if_neg hlt]; exact same (by simp only [Option.some.injEq] at h; rw [← h]) _ h
  | drep last a b code l s => exact same (map_out h fun _ => rfl) _ h
  | sym last lit di =>
    simp only [] at *
    cases e : sread lit (bs.drop pos) with
    | cut => rw [e] at h; cases h
    | bad j => rw [e] at h; simp only [Option.some.injEq] at h; exact same (by rw [← h]) _ (by rw [← h])
    | got s n =>
      rw [e] at h
      simp only [] at *
      split at h
      · rename_i hlt
        rw [if_pos hlt]
        simp only [Option.some.injEq] at h
        subst h
        exact fewer_give hN hc
      · rename_i hlt
        rw [if_neg hlt]
        simp only [Option.some.injEq] at h
        exact same (by rw [← h]) _ (by rw [← h])
  | lext last lit di s => exact same (map_out h fun _ => rfl) _ h
  | dist last lit di n =>
    simp only [] at *
    refine same ?_ _ h
    split at h
    · cases h
    · simp only [Option.some.injEq] at h; rw [← h]
    · simp only [Option.some.injEq] at h; rw [← h]
  | dext last lit di n x => exact same (map_out h fun _ => rfl) _ h
  | copy last lit di n d =>
    cases n with
    | zero => exact same (by simp only [Option.some.injEq] at h; rw [← h]) _ h
    | succ n => simp only [Option.some.injEq] at h; subst h; exact fewer_give hN hc
  | done => cases h
  | bad y => cases h
theorem runs_out {c d : Cfg} (h : Runs bs M c d) (hc : c.pos ≤ bs.length) : c.out <+: d.out := by
  induction h with
  | refl => exact List.prefix_refl _
  | cons h1 _ ih =>
    obtain ⟨q1, q2⟩ := step_ends h1 hc
    refine List.IsPrefix.trans ?_ (ih q1)
    rcases q2 with ⟨q3, _⟩ | ⟨b, q3, _⟩
    · rw [q3]; exact List.prefix_refl _
    · rw [q3]; exact List.prefix_append _ _
/-- Asked for fewer, it comes as far, or it stops at the first byte too many. -/
theorem runs_fewer {c d : Cfg} (h : Runs bs M c d) (hN : N ≤ M) (hc : c.out.length ≤ N) (hp : c.pos ≤ bs.length) :
    (Runs bs N c d ∧ d.out.length ≤ N) ∨ ∃ e, Runs bs N c e ∧ e.st = .bad 62 ∧ e.out.length = N ∧ e.out <+: d.out ∧ N < d.out.length ∧ e.pos ≤ d.pos := by
  induction h with
  | refl => exact Or.inl ⟨Runs.refl _, hc⟩
  | @cons c x d s1 r ih =>
    have hx := (step_ends s1 hp).1
    rcases step_fewer s1 hN hc with ⟨q1, q2⟩ | ⟨q1, q2, b, q3⟩
    · rcases ih q2 hx with ⟨q4, q5⟩ | ⟨e, q4, q5⟩
      · exact Or.inl ⟨Runs.cons q1 q4, q5⟩
      · exact Or.inr ⟨e, Runs.cons q1 q4, q5⟩
    · have hpre := runs_out r hx
      rw [q3] at hpre
      have hl := hpre.length_le
      rw [List.length_append, List.length_singleton] at hl
      exact Or.inr ⟨_, Runs.one q2, rfl, q1, (List.prefix_append c.out [b]).trans hpre, by omega, r.pos⟩
/-- The same of where it stands. -/
theorem Stands.fewer {B : List Nat} {c e : Cfg} (h : Stands B M c) (k : Stands B N e) (hN : N ≤ M) :
    (e.st = .bad 62 ∧ e.out = c.out.take N ∧ N < c.out.length ∧ e.pos ≤ c.pos) ∨ (e = c ∧ c.out.length ≤ N) := by
  rcases runs_fewer h.1 hN (Nat.zero_le _) (Nat.zero_le _) with ⟨q1, q2⟩ | ⟨e', q1, q2, q3, q4, q5, q6⟩
  · by_cases hst : step (allb B) N c = none
    · exact Or.inr ⟨k.one ⟨q1, hst⟩, q2⟩
    · exfalso
      apply hst
      cases hs : step (allb B) N c with
      | none => rfl
      | some x =>
        exfalso
        have h2 := h.2
        have : ∀ y, step (allb B) M c = some y → False := fun y hy => by rw [h2] at hy; cases hy
        obtain ⟨st, pos, out, times⟩ := c
        unfold step at hs h2
        cases st with
        | head last => cases last <;> simp_all
        | sraw last n => cases n <;> simp_all
        | copy last lit di n d => cases n <;> simp_all
        | dfst last a b i j first => simp_all
        | sym last lit di =>
          simp only [] at hs h2
          cases e5 : sread lit ((allb B).drop pos) with
          | cut => rw [e5] at hs; cases hs
          | bad j => rw [e5] at h2; cases h2
          | got s n => rw [e5] at h2; simp only [] at h2; split at h2 <;> cases h2
        | done => cases hs
        | bad y => cases hs
        | _ => simp_all
  · have hs : step (allb B) N e' = none := by unfold step; rw [q2]
    have he := k.one ⟨q1, hs⟩
    subst he
    refine Or.inl ⟨q2, ?_, q5, q6⟩
    obtain ⟨t, ht⟩ := q4
    rw [← ht, List.take_append_of_le_length (by omega), List.take_of_length_le (by omega)]
end Go.Proofs.YtikdpnpkmmmacabDoor

/-
  What the document's Used comes to, and its Same.
-/
namespace Go.Proofs.YtikdpnpkmmmacabDoor
open Go.RowKit
set_option linter.unusedVariables false
set_option maxHeartbeats 1000000 in
theorem same_c (a b : Option Addr) (l m : List Nat) (L M c d : Nat) (w : World) (hL : l.length = L) (hM : m.length = M) (hlt : L < 9223372036854775808) (h1 : Lies w a l) (h2 : Lies w b m) : Calls Tryd.prog 5 #[.slice a L c, .slice b M d] w fun e w' => e = .returned (.bool (decide (l = m))) ∧ ∃ n, w' = w.drewN n := by
  have AL : Aside (l.length = L ∧ m.length = M ∧ L < 9223372036854775808) := ⟨hL, hM, hlt⟩
  clear hL hM hlt
  by_cases hLM : L = M
  · obtain ⟨q, hq⟩ : ∃ q, decide (l = m) = q := ⟨_, rfl⟩
    rw [hq]
    have AQ : Aside (decide (l = m) = q) := hq
    clear hq
    subst hLM
    have hlz : ((L : Int) != (L : Int)) = false := by simp
    go_enter Tryd.func5, Tryd.ntmps5
    go_wp2_with fail
    go_loopg [5] L (fun g si wr => ∃ k : Nat, k + g = L ∧ si = .int .i64 k ∧ Aside (l.take k = m.take k) ∧ ∃ n, wr = w.drewN n)
    case atStart => exact ⟨0, by omega, rfl, (show _ = _ by simp), 0, rfl⟩
    case round =>
      obtain ⟨k, hkg, rfl, hT, n, rfl⟩ := hrel
      have AK : Aside (k + gk = L) := hkg
      clear hkg
      by_cases hk : k < L
      · have hki : (k : Int) < (L : Int) := by omega
        have hkl : k < l.length := by have := AL.out; omega
        have hkm : k < m.length := by have := AL.out; omega
        rcases h1 with rfl | ⟨b1, o1, rfl, h1⟩
        · simp at hkl
        rcases h2 with rfl | ⟨b2, o2, rfl, h2⟩
        · simp at hkm
        have g1 := h1 k _ (List.getElem?_eq_getElem hkl)
        have g2 := h2 k _ (List.getElem?_eq_getElem hkm)
        obtain ⟨x, hx⟩ : ∃ x, l[k] = x := ⟨_, rfl⟩
        obtain ⟨y, hy⟩ : ∃ y, m[k] = y := ⟨_, rfl⟩
        have ex : l[k]? = some x := by rw [List.getElem?_eq_getElem hkl, hx]
        have ey : m[k]? = some y := by rw [List.getElem?_eq_getElem hkm, hy]
        rw [hx] at g1
        rw [hy] at g2
        have hkb : (k : Int) + 1 < 9223372036854775808 := by have := AL.out; omega
        by_cases hxy : x = y
        · have hT2 : Aside (l.take (k + 1) = m.take (k + 1)) := by show _ = _; rw [List.take_add_one, List.take_add_one, hT.out, ex, ey, hxy]
          subst hxy
          have hz : ((x : Int) != (x : Int)) = false := by simp
          clear h1 h2 hx hy hkl hkm ex ey hT
          go_wp2_with fail
          go_quiet (fail)
          go_wp2_with fail
          have AK := AK.out
          go_roundg (gk - 1)
          case measure => omega
          case rel => exact ⟨k + 1, by omega, by go_num, hT2, _, rfl⟩
        · have hz : ((x : Int) != (y : Int)) = true := by rw [bne_iff_ne]; omega
          have hz2 : ((x : Int) == (y : Int)) = false := by rw [beq_eq_false_iff_ne]; omega
          have hne : Aside (false = q) := by
            show _ = _
            rw [← AQ.out]
            exact (decide_eq_false (fun e => hxy (by rw [e, ey] at ex; cases ex; rfl))).symm
          clear h1 h2 hx hy hkl hkm ex ey hT hxy
          go_wp2_with fail
          go_quiet (fail)
          go_wp2_with fail
          go_ret
          exact ⟨by rw [← hne.out]; rfl, _, World.drewN_drewN _ _ _⟩
      · have hki : ¬ (k : Int) < (L : Int) := by omega
        have heq : Aside (true = q) := by
          show _ = _
          rw [← AQ.out]
          have h3 := hT.out
          rw [List.take_of_length_le (by have := AL.out; omega), List.take_of_length_le (by have := AL.out; omega)] at h3
          exact (decide_eq_true h3).symm
        clear hT
        go_wp2_with fail
        go_ret
        exact ⟨by rw [← heq.out]; rfl, _, rfl⟩
  · have hq : decide (l = m) = false := decide_eq_false (fun e => hLM (by rw [← AL.out.1, ← AL.out.2.1, e]))
    rw [hq]
    have hz : ((L : Int) != (M : Int)) = true := by rw [bne_iff_ne]; omega
    have hz2 : ((L : Int) == (M : Int)) = false := by rw [beq_eq_false_iff_ne]; omega
    clear hq hLM h1 h2
    go_enter Tryd.func5, Tryd.ntmps5
    go_wp2_with fail
    go_ret
    exact ⟨rfl, 0, rfl⟩
/-- Why it is over, or that more is wanted; with which byte. -/
def whyC (c : Cfg) : Nat := match c.st with
  | .bad y => y
  | .done => 0
  | _ => 1
def endC (c : Cfg) : Bool := match c.st with
  | .done => true
  | _ => false
def atC (L : Nat) (c : Cfg) : Nat := match c.st with
  | .bad _ => (c.pos - 1) / 8
  | .done => (c.pos - 1) / 8
  | _ => L
/-- What the document's Of comes to: what the machine stands at. -/
def OfSt (B : List Nat) (a : Option Addr) (L C most : Nat) (w : World) (e : Ending) (w' : World) : Prop :=
  ∃ R s vO vT c, e = .returned (.pointer (some ⟨R, 0, none⟩)) ∧ Rn w' w.heap.size R a L C most s vO vT ∧ Below w.heap.size w w' ∧ Stands B most c ∧ s.out = c.out ∧ s.times = c.times ∧ s.why = whyC c ∧ s.at_ = atC L c ∧ s.ended = endC c
theorem OfTo.stands {B : List Nat} {a : Option Addr} {L C most : Nat} {w w' : World} {e : Ending} (h : OfTo B a L C most w e w') : OfSt B a L C most w e w' := by
  obtain ⟨R, s, vO, vT, c, h1, h2, h3, h4, h5⟩ := h
  refine ⟨R, s, vO, vT, c, h1, h2, h3, ?_⟩
  rcases h5 with h5 | ⟨k1, k2, k3, k4, k5, k6⟩
  · refine ⟨⟨h4, h5.none_⟩, h5.out, h5.times, ?_⟩
    rcases h5.how with ⟨y, q1, q2, q3, q4⟩ | ⟨q1, q2, q3, q4⟩
    · unfold whyC atC endC
      rw [q1]
      exact ⟨q2, q3, h5.ended⟩
    · unfold whyC atC endC
      rw [q3, q4, h5.ended]
      split
      · rename_i y e; exact absurd e (q1 y)
      · rename_i e; exact absurd e q2
      · refine ⟨rfl, rfl, ?_⟩
        split
        · rename_i e; exact absurd e q2
        · rfl
  · refine ⟨⟨h4, by unfold step; rw [k1]⟩, k5, k6, ?_⟩
    unfold whyC atC endC
    rw [k1]
    exact ⟨k3, k4, k2⟩
end Go.Proofs.YtikdpnpkmmmacabDoor

/-
  The inflater's cells where the machine of small steps stands; what one of its steps comes to; its small calls.
-/
namespace Go.Proofs.YtikdpnpkmmmacabDoor
open Go.RowKit
set_option linter.unusedVariables false
/-- The program's tables. -/
structure Tabs (w : World) : Prop where
  t0 : ∀ i, i < 29 → w.cell? ⟨0, i, none⟩ = some (.int .u8 (lmore (257 + i) : Nat))
  t1 : ∀ i, i < 29 → w.cell? ⟨1, i, none⟩ = some (.int .u16 (lbase (257 + i) : Nat))
  t2 : ∀ i, i < 19 → w.cell? ⟨2, i, none⟩ = some (.int .u8 (ordr.getD i 0 : Nat))
  t3 : ∀ i, i < 30 → w.cell? ⟨3, i, none⟩ = some (.int .u8 (dmore i : Nat))
  t4 : ∀ i, i < 30 → w.cell? ⟨4, i, none⟩ = some (.int .u16 (dbase i : Nat))
  t5 : ∀ i, i < 3 → w.cell? ⟨5, i, none⟩ = some (.int .u8 ([2, 3, 7].getD i 0 : Nat))
  t6 : ∀ i, i < 3 → w.cell? ⟨6, i, none⟩ = some (.int .u8 ([3, 3, 11].getD i 0 : Nat))
theorem Tabs.lt {w : World} (h : Tabs w) : 6 < w.heap.size := World.block_lt_of_cell? w ⟨6, 0, none⟩ (h.t6 0 (by decide))
theorem Tabs.below {w u : World} {B : Nat} (h : Tabs w) (k : Below B w u) (hB : 7 ≤ B) : Tabs u :=
  ⟨fun i hi => (k.cell (p := ⟨0, i, none⟩) (show 0 < B by omega)).trans (h.t0 i hi), fun i hi => (k.cell (p := ⟨1, i, none⟩) (show 1 < B by omega)).trans (h.t1 i hi), fun i hi => (k.cell (p := ⟨2, i, none⟩) (show 2 < B by omega)).trans (h.t2 i hi), fun i hi => (k.cell (p := ⟨3, i, none⟩) (show 3 < B by omega)).trans (h.t3 i hi), fun i hi => (k.cell (p := ⟨4, i, none⟩) (show 4 < B by omega)).trans (h.t4 i hi), fun i hi => (k.cell (p := ⟨5, i, none⟩) (show 5 < B by omega)).trans (h.t5 i hi), fun i hi => (k.cell (p := ⟨6, i, none⟩) (show 6 < B by omega)).trans (h.t6 i hi)⟩
/-- From where on the bits are held. -/
def ep (c : Cfg) : Nat := match c.st with
  | .slen _ => (c.pos + 7) / 8 * 8
  | _ => c.pos
def rk : St → Nat
  | .sraw .. => 1
  | .dsym .. => 6
  | .sym .. => 1
  | .lext .. => 5
  | .dist .. => 4
  | .dext .. => 3
  | .copy .. => 2
  | _ => 0
/-- It falls with each step that gives no byte. -/
def mu (bs : List Bool) (c : Cfg) : Nat := 8 * (bs.length - c.pos) + rk c.st
/-- What a dynamic block has told so far. -/
structure Pl (w : World) (B : Nat) (f : Nat → Value) (a b : Nat) (code l : List Nat) : Prop where
  a1 : 257 ≤ a
  a2 : a ≤ 286
  b1 : 1 ≤ b
  b2 : b ≤ 30
  c8 : f 8 = .int .i64 (a : Int)
  c9 : f 9 = .int .i64 (b : Int)
  have_ : f 11 = .int .i64 (l.length : Int)
  len : l.length ≤ a + b
  row : ∀ (j x : Nat), l[j]? = some x → f (32 + j) = .int .i64 (x : Int)
  tbl : Tbl w B (f 31) code
  code : code.length = 19
structure Sm (f : Nat → Value) (a b k i : Nat) (first : List Nat) : Prop where
  a1 : 257 ≤ a
  a2 : a ≤ 286
  b1 : 1 ≤ b
  b2 : b ≤ 30
  c8 : f 8 = .int .i64 (a : Int)
  c9 : f 9 = .int .i64 (b : Int)
  c10 : f 10 = .int .i64 (k : Int)
  have_ : f 11 = .int .i64 (i : Int)
  lt : i < k
  k19 : k ≤ 19
  len : first.length = 19
  row : ∀ (j x : Nat), first[j]? = some x → f (12 + j) = .int .i64 (x : Int)
  le : ∀ x ∈ first, x ≤ 7
/-- The cells, where the machine stands; n: how many bytes it gave. -/
def At (w : World) (B D : Nat) (f : Nat → Value) (n : Nat) : St → Prop
  | .head false => f 2 = fnv D 14
  | .slen last => f 2 = fnv D 22 ∧ f 5 = .bool last
  | .sraw last m => f 2 = fnv D 28 ∧ f 5 = .bool last ∧ f 350 = .int .i64 (m : Int)
  | .dnum last => f 2 = fnv D 25 ∧ f 5 = .bool last
  | .dfst last a b k i first => f 2 = fnv D 35 ∧ f 5 = .bool last ∧ Sm f a b k i first
  | .dsym last a b code l => f 2 = fnv D 44 ∧ f 5 = .bool last ∧ Pl w B f a b code l
  | .drep last a b code l s => f 2 = fnv D 52 ∧ f 5 = .bool last ∧ Pl w B f a b code l ∧ f 348 = .int .i64 (s : Int) ∧ 16 ≤ s ∧ s ≤ 18 ∧ (s = 16 → l ≠ [])
  | .sym last lit di => f 2 = fnv D 24 ∧ f 5 = .bool last ∧ Tbl w B (f 6) lit ∧ Tbl w B (f 7) di
  | .lext last lit di s => f 2 = fnv D 34 ∧ f 5 = .bool last ∧ Tbl w B (f 6) lit ∧ Tbl w B (f 7) di ∧ 257 ≤ s ∧ s ≤ 285 ∧ f 348 = .int .i64 ((s - 257 : Nat) : Int)
  | .dist last lit di m => f 2 = fnv D 42 ∧ f 5 = .bool last ∧ Tbl w B (f 6) lit ∧ Tbl w B (f 7) di ∧ f 350 = .int .i64 (m : Int)
  | .dext last lit di m x => f 2 = fnv D 50 ∧ f 5 = .bool last ∧ Tbl w B (f 6) lit ∧ Tbl w B (f 7) di ∧ f 350 = .int .i64 (m : Int) ∧ x ≤ 29 ∧ f 348 = .int .i64 (x : Int)
  | .copy last lit di m d => f 2 = fnv D 54 ∧ f 5 = .bool last ∧ Tbl w B (f 6) lit ∧ Tbl w B (f 7) di ∧ f 350 = .int .i64 (m : Int) ∧ f 349 = .int .i64 (d : Int) ∧ 1 ≤ d ∧ d ≤ n ∧ d ≤ 32768
  | _ => False
/-- The codes of fixed blocks, if they were made. -/
def Fx (w : World) (B : Nat) (f : Nat → Value) : Prop := f 3 = .pointer none ∨ (Tbl w B (f 3) fixL ∧ Tbl w B (f 4) fixD)
theorem Fx.fm {w u : World} {B : Nat} {f g : Nat → Value} (h : Fx w B f) (k : Fm B w u) (h3 : g 3 = f 3) (h4 : g 4 = f 4) : Fx u B g := by
  unfold Fx
  rw [h3, h4]
  rcases h with h | ⟨h, h'⟩
  · exact Or.inl h
  · exact Or.inr ⟨h.fm k, h'.fm k⟩
/-- Neither does a byte wait, nor is it over. -/
structure Op (f : Nat → Value) : Prop where
  waits : f 352 = .bool false
  done : f 353 = .bool false
  why : f 354 = .int .i64 0
/-- What the window has. -/
def win (out : List Nat) : List Int := glastN 32768 (iz out)
/-- The inflater stands where the machine does. -/
structure Is (w : World) (B D b R : Nat) (f : Nat → Value) (bs : List Bool) (c : Cfg) : Prop where
  mem : Bs w B D b R f (bs.drop (ep c)) (win c.out)
  at_ : At w B D f c.out.length c.st
  fx : Fx w B f
  tabs : Tabs w
  le : ep c ≤ bs.length
  b7 : 7 ≤ B
/-- It is over. -/
structure Ov (w : World) (B D b R : Nat) (f : Nat → Value) (c : Cfg) : Prop where
  mem : ∃ h l, Bs w B D b R f h l
  waits : f 352 = .bool false
  how : (c.st = .done ∧ f 353 = .bool true ∧ f 354 = .int .i64 0) ∨ ∃ y : Nat, c.st = .bad y ∧ f 353 = .bool false ∧ f 354 = .int .i64 (y : Int) ∧ y ≠ 0
  fx : Fx w B f
  tabs : Tabs w
  b7 : 7 ≤ B
/-- A byte waits: the last one that was given. -/
structure Gv (w : World) (B D b R : Nat) (f : Nat → Value) (bs : List Bool) (c c' : Cfg) : Prop where
  is_ : Is w B D b R f bs c'
  waits : f 352 = .bool true
  done : f 353 = .bool false
  why : f 354 = .int .i64 0
  out : ∃ x : Nat, f 351 = .int .u8 (x : Int) ∧ c'.out = c.out ++ [x]
/-- More bits are wanted; z: where the machine itself stands. -/
structure Wt (w : World) (B D b R : Nat) (f : Nat → Value) (bs : List Bool) (most : Nat) (c : Cfg) : Prop where
  is_ : Is w B D b R f bs c
  op : Op f
  few : bs.length < ep c + 32
  z : ∃ z, Runs bs most c z ∧ step bs most z = none ∧ z.out = c.out ∧ (∀ y, z.st ≠ .bad y) ∧ z.st ≠ .done
/-- What a step comes to: another one may follow; a byte was given; it is over; more bits are wanted. -/
def Res (B D b R : Nat) (bs : List Bool) (most : Nat) (c : Cfg) (r : Bool) (w' : World) : Prop := ∃ f' c', Runs bs most c c' ∧
  ((r = true ∧ Is w' B D b R f' bs c' ∧ Op f' ∧ c'.out = c.out ∧ mu bs c' < mu bs c) ∨
   (r = false ∧ Gv w' B D b R f' bs c c') ∨
   (r = false ∧ Ov w' B D b R f' c' ∧ c'.out = c.out) ∨
   (r = false ∧ Wt w' B D b R f' bs most c ∧ c' = c))
/-- A call of a step. -/
def StepOk (k B D b R : Nat) (bs : List Bool) (most : Nat) (c : Cfg) (w : World) : Prop :=
  Calls Tryd.prog k #[.pointer (some ⟨D, 0, none⟩)] w fun e w' => ∃ r, e = .returned (.bool r) ∧ Fm B w w' ∧ Res B D b R bs most c r w'
section
variable {w : World} {B D b R : Nat} {f : Nat → Value} {h : List Bool} {l : List Int}
theorem take_at (n : Nat) (w : World) (s : Bs w B D b R f h l) (h1 : n ≤ 32) (h2 : n ≤ h.length) (v : Nat) (hv : nm (h.take n) = v) :
    Calls Tryd.prog 19 #[.pointer (some ⟨b, 0, none⟩), .int .i64 n] w fun e w' => e = .returned (.tuple #[.int .u32 (v : Int), .bool true]) ∧ Bs w' B D b R f (h.drop n) l ∧ Fm B w w' := by
  refine (take_yes b (nm h) h.length n w s.br h1 h2).mono fun e w' hh => ?_
  rw [← nm_take, hv, ← nm_drop, ← List.length_drop] at hh
  exact ⟨hh.1, s.onb hh.2.2 hh.2.1, Fm.of_only hh.2.2 (by have := s.eb; omega) (by have := s.eb; omega)⟩
theorem take_short (n : Nat) (w : World) (s : Bs w B D b R f h l) (h2 : h.length < n) :
    Calls Tryd.prog 19 #[.pointer (some ⟨b, 0, none⟩), .int .i64 n] w fun e w' => e = .returned (.tuple #[.int .u32 0, .bool false]) ∧ w = w' :=
  take_no b (nm h) h.length n w s.br (fun hc => by have := hc.2.2; omega)
theorem told_got {ls : List Nat} {h : List Bool} {s n : Nat} (e : sread ls h = .got s n) : Told ls h s 0 n := by
  have hh := sread_le (ls := ls) (h := h)
  rw [e] at hh
  exact Or.inl ⟨hh, rfl⟩
theorem sread_nohit {ls : List Nat} {h : List Bool} (e : ∀ s n, sread ls h ≠ .got s n) : ∀ i n, ¬ Hit ls h i n := fun i n hh => e i n (sread_got hh)
theorem sread_bad_may {ls : List Nat} {h : List Bool} {j : Nat} (e : sread ls h = .bad j) : ¬ May ls h := by
  intro hm
  have hn : ∀ i n, ¬ Hit ls h i n := sread_nohit (fun s n q => by rw [e] at q; cases q)
  rw [sread_cut hn hm] at e
  cases e
theorem sread_cut_may {ls : List Nat} {h : List Bool} (e : sread ls h = .cut) : May ls h := by
  apply Classical.byContradiction
  intro hm
  have hn : ∀ i n, ¬ Hit ls h i n := sread_nohit (fun s n q => by rw [e] at q; cases q)
  unfold sread at e
  rw [sread_no hn] at e
  simp only [] at e
  cases e2 : (List.range (h.length + 1)).find? (fun j => !mayb ls (h.take j)) with
  | some j => rw [e2] at e; cases e
  | none =>
    have := List.find?_eq_none.1 e2 h.length (List.mem_range.2 (by omega))
    rw [List.take_length] at this
    cases hb : mayb ls h with
    | true => exact hm (mayb_iff.1 hb)
    | false => rw [hb] at this; simp at this
theorem cut_short {ls : List Nat} {h : List Bool} (e : sread ls h = .cut) (h15 : ∀ x ∈ ls, x ≤ 15) : h.length ≤ 15 := by
  obtain ⟨i, n, h1, h2, h3, _⟩ := sread_cut_may e
  have := h15 n (List.mem_of_getElem? h1)
  omega
set_option maxHeartbeats 1000000 in
theorem pread_c (v : Value) (ls : List Nat) (w : World) (s : Bs w B D b R f h l) (ht : Tbl w B v ls) : Calls Tryd.prog 31 #[.pointer (some ⟨D, 0, none⟩), v] w fun e w' => Fm B w w' ∧ match sread ls h with
    | .got x n => e = .returned (.tuple #[.int .i64 (x : Int), .bool true]) ∧ Bs w' B D b R f (h.drop n) l
    | .bad _ => e = .returned (.tuple #[.int .i64 0, .bool false]) ∧ Bs w' B D b R (upd f 354 (.int .i64 13)) h l
    | .cut => e = .returned (.tuple #[.int .i64 0, .bool false]) ∧ Bs w' B D b R f h l := by
  obtain ⟨lo, hi, T, rfl, h1, h2, hp, _⟩ := ht
  obtain ⟨_, _, _, _, _, _, _, _, _, _, hk, h15⟩ := id hp
  have c0 := (s.cell (show 0 < 355 by decide)).trans (congrArg some s.c0)
  have e1 : Aside (b = B + 2) := s.eb
  cases hs : sread ls h with
  | got x n =>
    have hr := read_c lo hi T ls b x 0 n h w hp hk h15 s.br (told_got hs)
    have AS : Aside (Bs w B D b R f h l) := s
    clear s hs hk h15 hp
    go_enter Tryd.func31, Tryd.ntmps31
    go_wp2_with (go_at_call 40; refine hr.mono ?_; rintro e2 w2 ⟨rfl, hb2, hB2⟩)
    first | go_ret | go_ret2
    have e1 := e1.out
    exact ⟨Fm.of_but hB2 (by omega) (by omega), rfl, AS.out.onbut hB2 hb2⟩
  | cut =>
    have ht : Told ls h 0 1 0 := Or.inr (Or.inl ⟨sread_nohit (fun s n q => by rw [hs] at q; cases q), (may_of hk h15).2 (sread_cut_may hs), rfl, rfl, rfl⟩)
    have hr := read_c lo hi T ls b 0 1 0 h w hp hk h15 s.br ht
    have AS : Aside (Bs w B D b R f h l) := s
    clear s hs hk h15 hp
    go_enter Tryd.func31, Tryd.ntmps31
    go_wp2_with (go_at_call 40; refine hr.mono ?_; rintro e2 w2 ⟨rfl, hb2, hB2⟩)
    first | go_ret | go_ret2
    have e1 := e1.out
    exact ⟨Fm.of_but hB2 (by omega) (by omega), rfl, AS.out.onbut hB2 hb2⟩
  | bad j =>
    have ht : Told ls h 0 2 0 := Or.inr (Or.inr ⟨sread_nohit (fun s n q => by rw [hs] at q; cases q), fun q => sread_bad_may hs ((may_of hk h15).1 q), rfl, rfl, rfl⟩)
    have hr := read_c lo hi T ls b 0 2 0 h w hp hk h15 s.br ht
    have AS : Aside (Bs w B D b R f h l) := s
    clear s hs hk h15 hp
    go_enter Tryd.func31, Tryd.ntmps31
    go_wp2_with (first
      | (go_at_call 40; refine hr.mono ?_; rintro e2 w2 ⟨rfl, hb2, hB2⟩
         have s2 := AS.out.onbut hB2 hb2
         have hst := pstop_c 13 w2 s2)
      | (go_at_call 18; refine hst.mono ?_; rintro e3 w3 ⟨rfl, s3, f3⟩))
    first | go_ret | go_ret2
    have e1 := e1.out
    exact ⟨(Fm.of_but hB2 (by omega) (by omega)).trans f3, rfl, s3⟩
theorem end_last (w : World) (s : Bs w B D b R f h l) (h5 : f 5 = .bool true) : Calls Tryd.prog 33 #[.pointer (some ⟨D, 0, none⟩)] w fun e w' => e = .returned (.bool false) ∧ Bs w' B D b R (upd (upd (upd f 6 (.pointer none)) 7 (.pointer none)) 353 (.bool true)) h l ∧ Fm B w w' := by
  have c5 := (s.cell (show 5 < 355 by decide)).trans (congrArg some h5)
  have c6 := s.cell (show 6 < 355 by decide)
  have c7 := s.cell (show 7 < 355 by decide)
  have c8 := s.cell (show 353 < 355 by decide)
  have z6 := s.fz 6
  have z7 := s.fz 7
  have z8 := s.fz 353
  go_enter Tryd.func33, Tryd.ntmps33
  go_wp2_with fail
  first | go_ret | go_ret2
  have e1 := s.eD
  exact ⟨rfl, ((s.set 6 _ (by decide)).set 7 _ (by decide)).set 353 _ (by decide), Fm.of_only ((((Only.refl D w).setCell 6 _).setCell 7 _).setCell 353 _) (by omega) (by omega)⟩
theorem end_more (w : World) (s : Bs w B D b R f h l) (h5 : f 5 = .bool false) : Calls Tryd.prog 33 #[.pointer (some ⟨D, 0, none⟩)] w fun e w' => e = .returned (.bool true) ∧ Bs w' B D b R (upd (upd (upd f 6 (.pointer none)) 7 (.pointer none)) 2 (fnv D 14)) h l ∧ Fm B w w' := by
  have c5 := (s.cell (show 5 < 355 by decide)).trans (congrArg some h5)
  have c6 := s.cell (show 6 < 355 by decide)
  have c7 := s.cell (show 7 < 355 by decide)
  have z6 := s.fz 6
  have z7 := s.fz 7
  have hth := pthen_c 14 _ ((s.set 6 (.pointer none) (by decide)).set 7 (.pointer none) (by decide))
  go_enter Tryd.func33, Tryd.ntmps33
  go_wp2_with (go_at_call 21; refine hth.mono ?_; rintro e2 w2 ⟨rfl, s2, f2⟩)
  first | go_ret | go_ret2
  have e1 := s.eD
  exact ⟨rfl, s2, (Fm.of_only (((Only.refl D w).setCell 6 _).setCell 7 _) (by omega) (by omega)).trans f2⟩
end
end Go.Proofs.YtikdpnpkmmmacabDoor

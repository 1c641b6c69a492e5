/-
  Own texts of this seat, one behind the other: what each says stands ahead of it.
-/
import Derived.Test.YtikdpnpkmmmacaaDoorMe
import Derived.Test.YtikdpnpkmmmacaaDoorMf
import Derived.Laws.EntriesVeiled
import Derived.OwnWalk
import Derived.WalkMore
import Derived.Deep.LoopGhost
import Derived.BigQuiet
import Derived.Deep.CutBlock
import Derived.Deep.DeepCutAuto
/-
  The inflater in memory: 355 cells by a function of their place, its reader, its window; what may turn while it works.
-/
namespace Go.Proofs.YtikdpnpkmmmacaaDoor
open Go.RowKit
set_option linter.unusedVariables false
/-- 355 cells by a function. -/
def cz (f : Nat → Value) : Array Value := ((List.range 355).map f).toArray
def upd (f : Nat → Value) (i : Nat) (v : Value) : Nat → Value := fun j => if j = i then v else f j
theorem upd_same (f : Nat → Value) (i : Nat) (v : Value) : upd f i v i = v := by simp [upd]
theorem upd_ne (f : Nat → Value) {i j : Nat} (v : Value) (h : j ≠ i) : upd f i v j = f j := by simp [upd, h]
theorem cz_size (f : Nat → Value) : (cz f).size = 355 := by simp [cz]
theorem cz_at (f : Nat → Value) {i : Nat} (h : i < 355) : (cz f)[i]? = some (f i) := by simp [cz, h]
theorem cz_congr {f g : Nat → Value} (h : ∀ i, i < 355 → f i = g i) : cz f = cz g := by
  unfold cz
  rw [List.map_congr_left (fun i hi => h i (List.mem_range.1 hi))]
theorem cz_set (f : Nat → Value) (i : Nat) (v : Value) : (cz f).setIfInBounds i v = cz (upd f i v) := by
  apply Array.ext
  · simp [cz]
  · intro j h1 h2
    have hj : j < 355 := by simpa [cz] using h2
    simp only [cz, List.setIfInBounds_toArray, List.getElem_toArray, List.getElem_set, List.getElem_map, List.getElem_range, upd]
    by_cases e : i = j
    · simp [e]
    · simp [e, Ne.symm e]
/-- What may have turned while the inflater worked: its own four blocks, from B on; memory may have come. -/
structure Fm (B : Nat) (w w' : World) : Prop where
  os : w'.os = w.os
  tape : w'.tape = w.tape
  output : w'.output = w.output
  size : w.heap.size ≤ w'.heap.size
  block : ∀ k, k < w.heap.size → (k < B ∨ B + 4 ≤ k) → w'.heap[k]? = w.heap[k]?
section
variable {B : Nat} {w u v : World}
theorem Fm.refl (B : Nat) (w : World) : Fm B w w := ⟨rfl, rfl, rfl, Nat.le_refl _, fun _ _ _ => rfl⟩
theorem Fm.trans (h : Fm B w u) (k : Fm B u v) : Fm B w v := ⟨k.os.trans h.os, k.tape.trans h.tape, k.output.trans h.output, Nat.le_trans h.size k.size, fun i hi hk => (k.block i (Nat.lt_of_lt_of_le hi h.size) hk).trans (h.block i hi hk)⟩
theorem Fm.drewN (h : Fm B w u) (n : Nat) : Fm B w (u.drewN n) := ⟨h.os, h.tape, h.output, h.size, h.block⟩
theorem Fm.drew (h : Fm B w u) : Fm B w u.drew := ⟨h.os, h.tape, h.output, h.size, h.block⟩
theorem Fm.of_only {c : Nat} (h : Only c w u) (h1 : B ≤ c) (h2 : c < B + 4) : Fm B w u := ⟨h.os, h.tape, h.output, Nat.le_of_eq h.size.symm, fun k _ hk => h.block k (by omega)⟩
theorem Fm.of_but {c : Nat} (h : But c w u) (h1 : B ≤ c) (h2 : c < B + 4) : Fm B w u := ⟨h.os, h.tape, h.output, h.size, fun k hk hh => h.block k hk (by omega)⟩
theorem Fm.of_two {c d : Nat} (h : GTwo c d w u) (h1 : B ≤ c) (h2 : c < B + 4) (h3 : B ≤ d) (h4 : d < B + 4) : Fm B w u := ⟨h.os, h.tape, h.output, Nat.le_of_eq h.size.symm, fun k _ hk => h.block k (by omega) (by omega)⟩
theorem Fm.of_below {C : Nat} (h : Below C w u) (hC : w.heap.size ≤ C) : Fm B w u := ⟨h.os, h.tape, h.output, h.size, fun k hk _ => h.block k (by omega)⟩
theorem Fm.below (h : Fm B w u) (hB : B ≤ w.heap.size) : Below B w u := ⟨h.os, h.tape, h.output, h.size, fun k hk => h.block k (by omega) (Or.inl hk)⟩
end
/-- The inflater in memory: D itself, b its reader, R its window, whose cells lie in block B; h what bits are held, l what the window has. -/
structure Bs (w : World) (B D b R : Nat) (f : Nat → Value) (h : List Bool) (l : List Int) : Prop where
  fr : Cells w D (cz f) 73
  c0 : f 0 = .pointer (some ⟨b, 0, none⟩)
  c1 : f 1 = .pointer (some ⟨R, 0, none⟩)
  br : Br w b (nm h) h.length
  rg : GRg w R B 32768 l
  eD : D = B + 3
  eb : b = B + 2
  eR : R = B + 1
section
variable {w u : World} {B D b R : Nat} {f : Nat → Value} {h : List Bool} {l : List Int}
theorem Bs.cell (s : Bs w B D b R f h l) {i : Nat} (hi : i < 355) : w.cell? ⟨D, i, none⟩ = some (f i) := (s.fr.cell i).trans (cz_at f hi)
theorem Bs.fz (s : Bs w B D b R f h l) (i : Nat) : w.frozen? ⟨D, i, none⟩ = false := s.fr.frozen i
theorem Bs.drewN (s : Bs w B D b R f h l) (n : Nat) : Bs (w.drewN n) B D b R f h l := ⟨s.fr, s.c0, s.c1, s.br.drewN n, s.rg.drewN n, s.eD, s.eb, s.eR⟩
theorem Bs.drew (s : Bs w B D b R f h l) : Bs w.drew B D b R f h l := ⟨s.fr, s.c0, s.c1, s.br.drew, s.rg.drew, s.eD, s.eb, s.eR⟩
theorem Bs.lt (s : Bs w B D b R f h l) : B + 4 ≤ w.heap.size := by have := s.fr.lt; have := s.eD; omega
theorem Bs.onD (s : Bs w B D b R f h l) (k : Only D w u) {f' : Nat → Value} (hf : Cells u D (cz f') 73) (h0 : f' 0 = f 0) (h1 : f' 1 = f 1) : Bs u B D b R f' h l :=
  ⟨hf, h0.trans s.c0, h1.trans s.c1, s.br.only k (by have := s.eD; have := s.eb; omega), s.rg.only k (by have := s.eD; have := s.eR; omega) (by have := s.eD; omega), s.eD, s.eb, s.eR⟩
theorem Bs.set (s : Bs w B D b R f h l) (i : Nat) (v : Value) (hi : 2 ≤ i) : Bs (w.setCell ⟨D, i, none⟩ v) B D b R (upd f i v) h l :=
  s.onD ((Only.refl D w).setCell i v) (by have := s.fr.set i v; rwa [cz_set] at this) (upd_ne f v (by omega)) (upd_ne f v (by omega))
theorem Bs.onb (s : Bs w B D b R f h l) (k : Only b w u) {h' : List Bool} (hb : Br u b (nm h') h'.length) : Bs u B D b R f h' l :=
  ⟨s.fr.only k (by have := s.eD; have := s.eb; omega), s.c0, s.c1, hb, s.rg.only k (by have := s.eb; have := s.eR; omega) (by have := s.eb; omega), s.eD, s.eb, s.eR⟩
theorem Cells.but {w u : World} {c k : Nat} {cs : Array Value} {t : TypeId} (h : Cells w c cs t) (q : But k w u) (hc : c ≠ k) : Cells u c cs t := by
  have := h.lt
  unfold Cells at *
  rw [q.block c this hc]; exact h
theorem Bs.onbut (s : Bs w B D b R f h l) (k : But b w u) {h' : List Bool} (hb : Br u b (nm h') h'.length) : Bs u B D b R f h' l := by
  refine ⟨s.fr.but k (by have := s.eD; have := s.eb; omega), s.c0, s.c1, hb, ?_, s.eD, s.eb, s.eR⟩
  obtain ⟨x, cs, lo, hh⟩ := s.rg.ex
  exact ⟨x, cs, ⟨lo.hd.but k (by have := s.eb; have := s.eR; omega), lo.row.but k (by have := s.eb; omega), lo.len, lo.n1, lo.n2, lo.xlt, lo.hle, lo.ne⟩, hh⟩
theorem Bs.below (s : Bs w B D b R f h l) {C : Nat} (k : Below C w u) (hC : w.heap.size ≤ C) : Bs u B D b R f h l := by
  have := s.lt
  exact ⟨s.fr.below k (by have := s.eD; omega), s.c0, s.c1, s.br.below k (by have := s.eb; omega), s.rg.below k (by have := s.eR; omega) (by omega), s.eD, s.eb, s.eR⟩
theorem Bs.onR (s : Bs w B D b R f h l) (k : GTwo R B w u) {l' : List Int} (hr : GRg u R B 32768 l') : Bs u B D b R f h l' := by
  have e1 := s.eD; have e2 := s.eb; have e3 := s.eR
  refine ⟨?_, s.c0, s.c1, ⟨?_, s.br.lt, s.br.le⟩, hr, s.eD, s.eb, s.eR⟩
  · have := s.fr; unfold Cells at *; rw [k.block D (by omega) (by omega)]; exact this
  · obtain ⟨t, ht⟩ := s.br.rd
    exact ⟨t, by unfold Cells at *; rw [k.block b (by omega) (by omega)]; exact ht⟩
end
/-- A table that the inflater made. -/
def Tbl (w : World) (B : Nat) (v : Value) (ls : List Nat) : Prop := ∃ lo hi T, v = .pointer (some ⟨T, 0, none⟩) ∧ B + 4 ≤ lo ∧ hi ≤ w.heap.size ∧ PT w lo hi T ls ∧ ls.length ≤ 320
theorem Tbl.fm {w u : World} {B : Nat} {v : Value} {ls : List Nat} (h : Tbl w B v ls) (k : Fm B w u) : Tbl u B v ls := by
  obtain ⟨lo, hi, T, h1, h2, h3, h4, h5⟩ := h
  exact ⟨lo, hi, T, h1, h2, Nat.le_trans h3 k.size, h4.keep fun j hj1 hj2 => k.block j (by omega) (Or.inr (by omega)), h5⟩
/-- What the window has behind one byte more. -/
def wput (l : List Int) (z : Int) : List Int := glastN 32768 (l ++ [z])
/-- A step, as a value. -/
def fnv (D k : Nat) : Value := .func (.func k) #[.pointer (some ⟨D, 0, none⟩)] #[]
section
variable {w : World} {B D b R : Nat} {f : Nat → Value} {h : List Bool} {l : List Int}
theorem pthen_c (k : Nat) (w : World) (s : Bs w B D b R f h l) : Calls Tryd.prog 52 #[.pointer (some ⟨D, 0, none⟩), .func (.func k) #[.pointer (some ⟨D, 0, none⟩)] #[]] w fun e w' => e = .returned (.bool true) ∧ Bs w' B D b R (upd f 2 (fnv D k)) h l ∧ Fm B w w' := by
  have c2 := s.cell (show 2 < 355 by decide)
  have z2 := s.fz 2
  go_enter Tryd.func52, Tryd.ntmps52
  go_wp2_with fail
  go_ret
  exact ⟨rfl, s.set 2 _ (by decide), Fm.of_only ((Only.refl D w).setCell 2 _) (by have := s.eD; omega) (by have := s.eD; omega)⟩
theorem pstop_c (y : Int) (w : World) (s : Bs w B D b R f h l) : Calls Tryd.prog 36 #[.pointer (some ⟨D, 0, none⟩), .int .i64 y] w fun e w' => e = .returned (.bool false) ∧ Bs w' B D b R (upd f 354 (.int .i64 y)) h l ∧ Fm B w w' := by
  have c2 := s.cell (show 354 < 355 by decide)
  have z2 := s.fz 354
  go_enter Tryd.func36, Tryd.ntmps36
  go_wp2_with fail
  go_ret
  exact ⟨rfl, s.set 354 _ (by decide), Fm.of_only ((Only.refl D w).setCell 354 _) (by have := s.eD; omega) (by have := s.eD; omega)⟩
theorem pgive_c (z : Int) (w : World) (s : Bs w B D b R f h l) : Calls Tryd.prog 72 #[.pointer (some ⟨D, 0, none⟩), .int .u8 z] w fun e w' => e = .returned (.bool false) ∧ Bs w' B D b R (upd (upd f 351 (.int .u8 z)) 352 (.bool true)) h (wput l z) ∧ Fm B w w' := by
  have c1 := (s.cell (show 1 < 355 by decide)).trans (congrArg some s.c1)
  have hput := gput_r z w s.rg
  have AS : Aside (Bs w B D b R f h l) := s
  clear s
  go_enter Tryd.func72, Tryd.ntmps72
  go_upto_region 2 with (go_at_call 82; refine hput.mono ?_; rintro e2 w2 ⟨rfl, hr2, ht2⟩)
  have s2 := AS.out.onR ht2 hr2
  have c3 := s2.cell (show 351 < 355 by decide)
  have c4 := s2.cell (show 352 < 355 by decide)
  have z3 := s2.fz 351
  have z4 := s2.fz 352
  clear hput c1
  go_wp2_with fail
  go_ret
  refine ⟨rfl, (s2.set 351 _ (by decide)).set 352 _ (by decide), (Fm.of_two ht2 ?_ ?_ ?_ ?_).trans (Fm.of_only (((Only.refl D w2).setCell 351 _).setCell 352 _) ?_ ?_)⟩ <;> have := s2.eD <;> have := s2.eR <;> omega
end
end Go.Proofs.YtikdpnpkmmmacaaDoor

/-
  The document's run in memory, and what its small calls (open, stop, cut) come to.
-/
namespace Go.Proofs.YtikdpnpkmmmacaaDoor
open Go.RowKit
set_option linter.unusedVariables false
/-- Bytes that lie side by side. -/
def Lies (w : World) (a : Option Addr) (l : List Nat) : Prop := l = [] ∨ ∃ (b o : Nat), a = some ⟨b, o, none⟩ ∧ ∀ (i x : Nat), l[i]? = some x → w.cell? ⟨b, o + i, none⟩ = some (.int .u8 (x : Int))
def Oct (l : List Nat) : Prop := ∀ x ∈ l, x < 256
theorem Lies.below {w u : World} {a : Option Addr} {l : List Nat} (h : Lies w a l) (k : Below w.heap.size w u) : Lies u a l := by
  rcases h with h | ⟨b, o, ha, hc⟩
  · exact Or.inl h
  · exact Or.inr ⟨b, o, ha, fun i x hx => (k.cell (p := ⟨b, o + i, none⟩) (World.block_lt_of_cell? w ⟨b, o + i, none⟩ (hc i x hx))).trans (hc i x hx)⟩
def vn (l : List Nat) : List Value := l.map fun x : Nat => Value.int .u8 (x : Int)
def vt (l : List Nat) : List Value := l.map fun x : Nat => Value.int .i64 (x : Int)
/-- What a run knows. -/
structure Rs where
  pos : Nat
  out : List Nat
  times : List Nat
  why : Nat
  at_ : Nat
  ended : Bool
/-- The document's run, in block R. -/
structure Rn (w : World) (base R : Nat) (a : Option Addr) (L C most : Nat) (s : Rs) (vO vT : Value) : Prop where
  cells : ∃ full : Bool, Cells w R #[.slice a L C, .int .i64 (most : Int), vO, vT, .int .i64 (s.why : Int), .int .i64 (s.at_ : Int), .bool s.ended, .int .i64 (s.pos : Int), .bool full] 31
  oo : w.ownsRow base 5 1 vO s.out.length (vn s.out)
  ot : w.ownsRow base 3 1 vT s.times.length (vt s.times)
  rb : base ≤ R
  tl : s.times.length = s.out.length
variable {w u : World} {base R L C most : Nat} {a : Option Addr} {s : Rs} {vO vT : Value}
theorem Rn.lt (h : Rn w base R a L C most s vO vT) : R < w.heap.size := by obtain ⟨f, h⟩ := h.cells; exact h.lt
theorem Rn.drewN (h : Rn w base R a L C most s vO vT) (n : Nat) : Rn (w.drewN n) base R a L C most s vO vT := ⟨h.cells, h.oo, h.ot, h.rb, h.tl⟩
theorem Rn.drew (h : Rn w base R a L C most s vO vT) : Rn w.drew base R a L C most s vO vT := ⟨h.cells, h.oo, h.ot, h.rb, h.tl⟩
theorem Rn.aO (h : Rn w base R a L C most s vO vT) : vO.ownBlock ≠ some R := by
  obtain ⟨f, hc⟩ := h.cells
  rcases h.oo.2 with ⟨rfl, _⟩ | ⟨g, c, cur, rfl, _, hg, _⟩
  · intro e; cases e
  · intro e
    have : g = R := by simpa [Value.ownBlock] using e
    subst this
    unfold Cells at hc; rw [hg] at hc; cases hc
theorem Rn.aT (h : Rn w base R a L C most s vO vT) : vT.ownBlock ≠ some R := by
  obtain ⟨f, hc⟩ := h.cells
  rcases h.ot.2 with ⟨rfl, _⟩ | ⟨g, c, cur, rfl, _, hg, _⟩
  · intro e; cases e
  · intro e
    have : g = R := by simpa [Value.ownBlock] using e
    subst this
    unfold Cells at hc; rw [hg] at hc; cases hc
theorem Rn.aOT (h : Rn w base R a L C most s vO vT) : vO.ownBlock = none ∨ vO.ownBlock ≠ vT.ownBlock := by
  rcases h.oo.2 with ⟨rfl, _⟩ | ⟨g, c, cur, rfl, _, hg, _⟩
  · exact Or.inl rfl
  · right
    rcases h.ot.2 with ⟨rfl, _⟩ | ⟨g', c', cur', rfl, _, hg', _⟩
    · intro e; cases e
    · intro e
      have : g = g' := by simpa [Value.ownBlock] using e
      subst this
      rw [hg] at hg'
      cases hg'
theorem own_only {X e size n : Nat} {v : Value} {xs : List Value} (h : w.ownsRow base e size v n xs) (k : Only X w u) (hne : v.ownBlock ≠ some X) : u.ownsRow base e size v n xs :=
  h.kept (row := some X) ⟨k.os, k.tape, k.output, Nat.le_of_eq k.size.symm, fun i hi hx => k.block i (fun e => hx (by rw [e]))⟩ (Or.inr hne)
/-- Something in the run's own block has turned. -/
theorem Rn.only (h : Rn w base R a L C most s vO vT) (k : Only R w u) {s' : Rs} (hc : ∃ full : Bool, Cells u R #[.slice a L C, .int .i64 (most : Int), vO, vT, .int .i64 (s'.why : Int), .int .i64 (s'.at_ : Int), .bool s'.ended, .int .i64 (s'.pos : Int), .bool full] 31) (h1 : s'.out = s.out) (h2 : s'.times = s.times) : Rn u base R a L C most s' vO vT :=
  ⟨hc, by rw [h1]; exact own_only h.oo k h.aO, by rw [h2]; exact own_only h.ot k h.aT, h.rb, by rw [h1, h2]; exact h.tl⟩
theorem Rn.c0 (h : Rn w base R a L C most s vO vT) : w.cell? ⟨R, 0, none⟩ = some (.slice a L C) := by obtain ⟨f, h⟩ := h.cells; rw [h.cell]; rfl
theorem Rn.c1 (h : Rn w base R a L C most s vO vT) : w.cell? ⟨R, 1, none⟩ = some (.int .i64 (most : Int)) := by obtain ⟨f, h⟩ := h.cells; rw [h.cell]; rfl
theorem Rn.c2 (h : Rn w base R a L C most s vO vT) : w.cell? ⟨R, 2, none⟩ = some vO := by obtain ⟨f, h⟩ := h.cells; rw [h.cell]; rfl
theorem Rn.c3 (h : Rn w base R a L C most s vO vT) : w.cell? ⟨R, 3, none⟩ = some vT := by obtain ⟨f, h⟩ := h.cells; rw [h.cell]; rfl
theorem Rn.c4 (h : Rn w base R a L C most s vO vT) : w.cell? ⟨R, 4, none⟩ = some (.int .i64 (s.why : Int)) := by obtain ⟨f, h⟩ := h.cells; rw [h.cell]; rfl
theorem Rn.c5 (h : Rn w base R a L C most s vO vT) : w.cell? ⟨R, 5, none⟩ = some (.int .i64 (s.at_ : Int)) := by obtain ⟨f, h⟩ := h.cells; rw [h.cell]; rfl
theorem Rn.c6 (h : Rn w base R a L C most s vO vT) : w.cell? ⟨R, 6, none⟩ = some (.bool s.ended) := by obtain ⟨f, h⟩ := h.cells; rw [h.cell]; rfl
theorem Rn.c7 (h : Rn w base R a L C most s vO vT) : w.cell? ⟨R, 7, none⟩ = some (.int .i64 (s.pos : Int)) := by obtain ⟨f, h⟩ := h.cells; rw [h.cell]; rfl
theorem Rn.fz (h : Rn w base R a L C most s vO vT) (i : Nat) : w.frozen? ⟨R, i, none⟩ = false := by obtain ⟨f, h⟩ := h.cells; exact h.frozen i
/-- Is it neither stopped nor ended? -/
def Rs.opn (s : Rs) : Bool := s.why == 0 && !s.ended
theorem open_c (h : Rn w base R a L C most s vO vT) : Calls Tryd.prog 22 #[.pointer (some ⟨R, 0, none⟩)] w fun e w' => e = .returned (.bool s.opn) ∧ w = w' := by
  have c4 := h.c4
  have c6 := h.c6
  obtain ⟨y, hy⟩ : ∃ y, s.why = y := ⟨_, rfl⟩
  obtain ⟨e, he⟩ : ∃ e, s.ended = e := ⟨_, rfl⟩
  unfold Rs.opn
  rw [hy] at c4 ⊢
  rw [he] at c6 ⊢
  by_cases h0 : y = 0
  · have t0 : ((y : Int) == 0) = true := beq_iff_eq.2 (by omega)
    rw [h0]
    rw [h0] at c4
    go_enter Tryd.func22, Tryd.ntmps22
    go_wp2_with fail
    first | go_ret | go_ret2
    exact ⟨rfl, rfl⟩
  · have t0 : ((y : Int) == 0) = false := beq_eq_false_iff_ne.2 (by omega)
    have t1 : (y == 0) = false := beq_eq_false_iff_ne.2 h0
    rw [t1]
    clear h0
    go_enter Tryd.func22, Tryd.ntmps22
    go_wp2_with fail
    first | go_ret | go_ret2
    exact ⟨rfl, rfl⟩
theorem tdiv8 (p : Nat) : ((p : Int) - 1).tdiv 8 = (((p - 1) / 8 : Nat) : Int) := by
  cases p with
  | zero => rfl
  | succ p =>
    rw [show ((p + 1 : Nat) : Int) - 1 = ((p : Nat) : Int) by omega, Int.tdiv_eq_ediv_of_nonneg (by omega)]
    simp
theorem stop_c (h : Rn w base R a L C most s vO vT) (y : Nat) (hp : s.pos < 1000000000000000000) : Calls Tryd.prog 29 #[.pointer (some ⟨R, 0, none⟩), .int .i64 (y : Int)] w fun e w' => e = .returned (.tuple #[]) ∧ Rn w' base R a L C most { s with why := y, at_ := (s.pos - 1) / 8 } vO vT ∧ Only R w w' := by
  have c7 := h.c7
  have c4 := h.c4
  have c5 := h.c5
  have f4 := h.fz 4
  have f5 := h.fz 5
  obtain ⟨f, hc⟩ := h.cells
  have k1 := hc.set 4 (.int .i64 (y : Int))
  have c5' : (w.setCell ⟨R, 4, none⟩ (.int .i64 (y : Int))).cell? ⟨R, 5, none⟩ = some (.int .i64 (s.at_ : Int)) := by rw [k1.cell]; rfl
  have c7' : (w.setCell ⟨R, 4, none⟩ (.int .i64 (y : Int))).cell? ⟨R, 7, none⟩ = some (.int .i64 (s.pos : Int)) := by rw [k1.cell]; rfl
  have f5' := k1.frozen 5
  obtain ⟨p, hpp⟩ : ∃ p, s.pos = p := ⟨_, rfl⟩
  rw [hpp] at c7 c7' hp
  go_enter Tryd.func29, Tryd.ntmps29
  go_wp2_with fail
  rw [tdiv8]
  go_end0
  have o : Only R w ((w.setCell ⟨R, 4, none⟩ (.int .i64 (y : Int))).setCell ⟨R, 5, none⟩ (.int .i64 (((p - 1) / 8 : Nat) : Int))) := ((Only.refl R w).setCell _ _).setCell _ _
  refine ⟨rfl, h.only o ⟨f, ?_⟩ rfl rfl, o⟩
  subst hpp
  exact k1.set 5 (.int .i64 (((s.pos - 1) / 8 : Nat) : Int))
theorem cut_c (h : Rn w base R a L C most s vO vT) : Calls Tryd.prog 43 #[.pointer (some ⟨R, 0, none⟩)] w fun e w' => e = .returned (.tuple #[]) ∧ Rn w' base R a L C most { s with why := 1, at_ := L } vO vT ∧ Only R w w' := by
  have c4 := h.c4
  have f4 := h.fz 4
  obtain ⟨f, hc⟩ := h.cells
  have k1 := hc.set 4 (.int .i64 1)
  have c5' : (w.setCell ⟨R, 4, none⟩ (.int .i64 1)).cell? ⟨R, 5, none⟩ = some (.int .i64 (s.at_ : Int)) := by rw [k1.cell]; rfl
  have c0' : (w.setCell ⟨R, 4, none⟩ (.int .i64 1)).cell? ⟨R, 0, none⟩ = some (.slice a L C) := by rw [k1.cell]; rfl
  have f5' := k1.frozen 5
  go_enter Tryd.func43, Tryd.ntmps43
  go_wp2_with fail
  go_end0
  have o : Only R w ((w.setCell ⟨R, 4, none⟩ (.int .i64 1)).setCell ⟨R, 5, none⟩ (.int .i64 (L : Int))) := ((Only.refl R w).setCell _ _).setCell _ _
  refine ⟨rfl, h.only o ⟨f, ?_⟩ rfl rfl, o⟩
  exact k1.set 5 (.int .i64 (L : Int))
/-- The bits of bytes, one by one. -/
theorem allb_len : ∀ B : List Nat, (allb B).length = 8 * B.length
  | [] => rfl
  | x :: B => by
    have ih := allb_len B
    show (bitsOf 8 x ++ allb B).length = _
    rw [List.length_append, bitsOf_length, ih, List.length_cons]; omega
theorem allb_at : ∀ (B : List Nat) (k x : Nat), B[k / 8]? = some x → (allb B)[k]? = some (x / 2 ^ (k % 8) % 2 == 1)
  | [], k, x, h => by simp at h
  | y :: B, k, x, h => by
    show (bitsOf 8 y ++ allb B)[k]? = _
    by_cases hk : k < 8
    · have e : k / 8 = 0 := by omega
      rw [e] at h
      have : y = x := by simpa using h
      subst this
      rw [List.getElem?_append_left (by rw [bitsOf_length]; exact hk), show k % 8 = k by omega]
      simp [bitsOf, hk]
    · have e : k / 8 = (k - 8) / 8 + 1 := by omega
      rw [e, List.getElem?_cons_succ] at h
      rw [List.getElem?_append_right (by rw [bitsOf_length]; omega), bitsOf_length, allb_at B (k - 8) x h, show (k - 8) % 8 = k % 8 by omega]
theorem nm_next {bs : List Bool} {p i : Nat} {x : Bool} (h : bs[p + i]? = some x) : nm ((bs.drop p).take (i + 1)) = nm ((bs.drop p).take i) + (if x then 2 ^ i else 0) := by
  have hl : p + i < bs.length := (List.getElem?_eq_some_iff.1 h).1
  have e : (bs.drop p)[i]? = some x := by rw [List.getElem?_drop]; exact h
  rw [List.take_add_one, e]
  show nm (_ ++ [x]) = _
  rw [nm_append, List.length_take, List.length_drop, show min i (bs.length - p) = i by omega]
  cases x <;> simp [nm]
theorem bit_u8 (x k : Nat) (h : x < 256) : (bits .and .u8 ((x : Int) / 2 ^ k) 1 == 1) = (x / 2 ^ k % 2 == 1) := by
  have e : (x : Int) / 2 ^ k = ((x / 2 ^ k : Nat) : Int) := by push_cast; rfl
  have hb : x / 2 ^ k < 256 := Nat.lt_of_le_of_lt (Nat.div_le_self _ _) h
  rw [e, show (1 : Int) = ((1 : Nat) : Int) from rfl, u8_and_nat _ 1 hb (by decide), Nat.and_one_is_mod]
  have h2 : x / 2 ^ k % 2 = 0 ∨ x / 2 ^ k % 2 = 1 := by omega
  rcases h2 with h | h <;> rw [h] <;> rfl
set_option maxRecDepth 100000 in
set_option maxHeartbeats 2000000 in
theorem number_no (B : List Nat) (h : Rn w base R a L C most s vO vT) (hL : B.length = L) (hLb : L < 140737488355328) (n : Nat) (hn : n ≤ 16) (hp : s.pos < 1000000000000000000) (hx : num? (allb B) s.pos n = none) :
    Calls Tryd.prog 23 #[.pointer (some ⟨R, 0, none⟩), .int .i64 (n : Int)] w fun e w' => e = .returned (.int .i64 0) ∧ Rn w' base R a L C most { s with why := 1, at_ := L } vO vT ∧ Only R w w' := by
  have hgt : 8 * L < s.pos + n := by
    unfold num? at hx
    split at hx
    · cases hx
    · rename_i h2
      rw [allb_len, hL] at h2
      omega
  have c0 := h.c0
  have c7 := h.c7
  have hcut : ∀ q, Calls Tryd.prog 43 #[.pointer (some ⟨R, 0, none⟩)] (w.drewN q) fun e w' => e = .returned (.tuple #[]) ∧ Rn w' base R a L C most { s with why := 1, at_ := L } vO vT ∧ Only R (w.drewN q) w' := fun q => cut_c (h.drewN q)
  obtain ⟨p, hpp⟩ : ∃ p, s.pos = p := ⟨_, rfl⟩
  have AP : Aside (s.pos = p) := hpp
  rw [hpp] at c7 hp hgt
  have hgI : (8 : Int) * (L : Int) < (p : Int) + (n : Int) := by omega
  clear hgt hx hpp
  go_enter Tryd.func23, Tryd.ntmps23
  go_upto_region 1 with fail
  go_quiet (fail)
  go_wp2_with (go_at_call 43; refine (hcut _).mono ?_; rintro e2 w2 ⟨rfl, hr2, ho2⟩)
  first | go_ret | go_ret2
  exact ⟨rfl, hr2, ⟨ho2.os, ho2.tape, ho2.output, ho2.size, ho2.block⟩⟩
theorem w64_cast {n : Nat} (h : n < 9223372036854775808) : wrap64 (n : Int) = (n : Int) := by unfold wrap64; omega
theorem w64_pow (v i : Nat) (hv : v < 2 ^ i) (hi : i < 40) : wrap64 ((v : Int) + wrap64 (2 ^ i)) = ((v + 2 ^ i : Nat) : Int) := by
  have h1 : 2 ^ i ≤ 2 ^ 40 := Nat.pow_le_pow_right (by decide) (by omega)
  have e : (2 : Int) ^ i = ((2 ^ i : Nat) : Int) := by push_cast; rfl
  rw [e, w64_cast (by omega), ← Int.natCast_add, w64_cast (by omega)]
set_option maxRecDepth 100000 in
set_option maxHeartbeats 4000000 in
theorem number_yes (B : List Nat) (h : Rn w base R a L C most s vO vT) (hB : Lies w a B) (hL : B.length = L) (hLb : L < 140737488355328) (ho : Oct B) (n x : Nat) (hn : n ≤ 16) (hx : num? (allb B) s.pos n = some x) :
    Calls Tryd.prog 23 #[.pointer (some ⟨R, 0, none⟩), .int .i64 (n : Int)] w fun e w' => e = .returned (.int .i64 (x : Int)) ∧ Rn w' base R a L C most { s with pos := s.pos + n } vO vT ∧ Only R w w' := by
  have hle : s.pos + n ≤ 8 * L ∧ nm (((allb B).drop s.pos).take n) = x := by
    unfold num? at hx
    split at hx
    · rename_i h2
      rw [allb_len, hL] at h2
      exact ⟨h2, Option.some.inj hx⟩
    · cases hx
  have c0 := h.c0
  have c7 := h.c7
  obtain ⟨p, hpp⟩ : ∃ p, s.pos = p := ⟨_, rfl⟩
  rw [hpp] at c7 hle
  have hgI : ¬ (8 : Int) * (L : Int) < (p : Int) + (n : Int) := by omega
  have AP : Aside (s.pos = p ∧ p + n ≤ 8 * L ∧ nm (((allb B).drop p).take n) = x ∧ Rn w base R a L C most s vO vT ∧ Lies w a B ∧ B.length = L ∧ Oct B) := ⟨hpp, hle.1, hle.2, h, hB, hL, ho⟩
  have hpb : (p : Int) + (n : Int) < 9223372036854775807 := by omega
  have hL8 : (8 : Int) * (L : Int) < 9223372036854775807 := by omega
  clear hx hpp hle hB hL ho
  go_enter Tryd.func23, Tryd.ntmps23
  go_upto_region 1 with fail
  go_quiet (fail)
  have hr : Rn (w.drewN nq) base R a L C most s vO vT := h.drewN nq
  obtain ⟨w1, hw1⟩ : ∃ w1, w.drewN nq = w1 := ⟨_, rfl⟩
  have A1 : Aside (w.drewN nq = w1 ∧ Rn w1 base R a L C most s vO vT) := ⟨hw1, by rw [← hw1]; exact hr⟩
  rw [hw1]
  clear hw1 hr h c0 c7
  go_wp2_with fail
  go_loopg [5, 6, 7] n (fun g sv si s7 wr => ∃ i v : Nat, sv = .int .i64 (v : Int) ∧ si = .int .i64 (i : Int) ∧ Aside (i + g = n ∧ nm (((allb B).drop p).take i) = v) ∧ w1 = wr)
  case atStart => exact ⟨0, 0, rfl, rfl, ⟨by omega, by simp [nm]⟩, rfl⟩
  case round =>
    obtain ⟨i, v, rfl, rfl, hI, hw⟩ := hrel
    subst hw
    have hr := A1.out.2
    have c0 := hr.c0
    have c7 := hr.c7
    rw [AP.out.1] at c7
    by_cases hin : i < n
    · have hi1 : (i : Int) < (n : Int) := by omega
      obtain ⟨q, hq⟩ : ∃ q, p + i = q := ⟨_, rfl⟩
      have hqI : (p : Int) + (i : Int) = (q : Int) := by omega
      have hqL : q / 8 < L := by have := AP.out; omega
      obtain ⟨y, hy⟩ : ∃ y, B[q / 8]? = some y := ⟨_, List.getElem?_eq_getElem (by have := AP.out; omega)⟩
      have hy256 := AP.out.2.2.2.2.2.2 y (List.mem_of_getElem? hy)
      rcases AP.out.2.2.2.2.1 with e | ⟨b0, o0, rfl, hc⟩
      · rw [e] at hy; simp at hy
      have cy0 : w1.cell? ⟨b0, o0 + q / 8, none⟩ = some (.int .u8 (y : Int)) := by rw [← A1.out.1]; exact hc _ y hy
      obtain ⟨m, hm⟩ : ∃ m, q / 8 = m := ⟨_, rfl⟩
      obtain ⟨k, hk⟩ : ∃ k, q % 8 = k := ⟨_, rfl⟩
      have hmI : (q : Int).tdiv 8 = (m : Int) := by rw [Int.tdiv_eq_ediv_of_nonneg (by omega)]; omega
      have hkI : (q : Int).tmod 8 = (k : Int) := by rw [Int.tmod_eq_emod_of_nonneg (by omega)]; omega
      rw [hm] at cy0 hqL
      have hmL : (m : Int) < (L : Int) := by omega
      have hk8 : (k : Int) < 8 := by omega
      have hv : v < 2 ^ i := by
        have h1 := nm_lt (((allb B).drop p).take i)
        rw [hI.out.2, List.length_take, List.length_drop, allb_len] at h1
        have h2 := AP.out
        rw [show min i (8 * B.length - p) = i by omega] at h1
        exact h1
      have h216 : 2 ^ i ≤ 2 ^ 16 := Nat.pow_le_pow_right (by decide) (by omega)
      have hnx : nm (((allb B).drop p).take (i + 1)) = v + (if (y / 2 ^ k % 2 == 1) then 2 ^ i else 0) := by
        rw [← hI.out.2, nm_next (x := (y / 2 ^ k % 2 == 1))]
        rw [hq, allb_at B q y hy, hk]
      obtain ⟨z, hz⟩ : ∃ z, (y / 2 ^ k % 2 == 1) = z := ⟨_, rfl⟩
      have hzb : (bits .and .u8 ((y : Int) / 2 ^ k) 1 == 1) = z := by rw [bit_u8 y k hy256]; exact hz
      rw [hz] at hnx
      have AK : Aside (i < n ∧ nm (((allb B).drop p).take (i + 1)) = v + (if z then 2 ^ i else 0) ∧ v < 2 ^ i ∧ 2 ^ i ≤ 2 ^ 16 ∧ i < 16) := ⟨hin, hnx, hv, h216, by omega⟩
      have hi16 : (i : Int) < 16 := by omega
      clear hc hy hm hk hz hnx hv h216 hin hq
      cases z with
      | false =>
        go_wp2_with fail
        go_roundg (n - (i + 1))
        case measure => have := hI.out.1; have := AK.out; omega
        case rel =>
          have kk := AK.out
          exact ⟨i + 1, v, rfl, by go_num, ⟨by omega, by rw [kk.2.1]; rfl⟩, rfl⟩
      | true =>
        go_wp2_with fail
        rw [w64_pow v i AK.out.2.2.1 (by have := AK.out; omega)]
        go_roundg (n - (i + 1))
        case measure => have := hI.out.1; have := AK.out; omega
        case rel =>
          have kk := AK.out
          exact ⟨i + 1, v + 2 ^ i, rfl, by go_num, ⟨by omega, by rw [kk.2.1]; rfl⟩, rfl⟩
    · have hie : i = n := by have := hI.out.1; omega
      subst hie
      have hvx : v = x := by rw [← hI.out.2]; exact AP.out.2.2.1
      subst hvx
      have hni : ¬ (i : Int) < (i : Int) := by omega
      have f7 := hr.fz 7
      clear hin hI
      go_wp2_with fail
      first | go_ret | go_ret2
      have o : Only R w1 (w1.setCell ⟨R, 7, none⟩ (.int .i64 ((p : Int) + (i : Int)))) := (Only.refl R w1).setCell _ _
      obtain ⟨f, hc⟩ := hr.cells
      have k1 := hc.set 7 (.int .i64 ((p : Int) + (i : Int)))
      refine ⟨rfl, hr.only o ⟨f, ?_⟩ rfl rfl, ?_⟩
      · rw [AP.out.1]
        show Cells _ _ #[_, _, _, _, _, _, _, .int .i64 ((p + i : Nat) : Int), _] _
        rw [Int.natCast_add]
        rw [AP.out.1] at k1
        exact k1
      · have := A1.out.1
        rw [← this] at o ⊢
        exact ⟨o.os, o.tape, o.output, o.size, o.block⟩
end Go.Proofs.YtikdpnpkmmmacaaDoor

/-
  What the document's lengthBase and distanceBase come to.
-/
namespace Go.Proofs.YtikdpnpkmmmacaaDoor
open Go.RowKit
set_option linter.unusedVariables false
def lmo (i : Nat) : Nat := if 265 ≤ i + 257 then (i + 257 - 261) / 4 else 0
def lbs (i : Nat) : Nat := (List.range i).foldl (fun a i => a + 2 ^ (if 265 ≤ i + 257 then (i + 257 - 261) / 4 else 0)) 3
theorem lbs_next (i : Nat) : lbs (i + 1) = lbs i + 2 ^ lmo i := by unfold lbs lmo; rw [List.range_succ, List.foldl_append]; rfl
theorem lbase_lbs {s : Nat} (h : s ≠ 285) : lbase s = lbs (s - 257) := by unfold lbase; rw [if_neg h]; rfl
theorem lbs_le : ∀ i, i ≤ 28 → lbs i ≤ 1000 := by decide
def dmo (i : Nat) : Nat := if 4 ≤ i then (i - 2) / 2 else 0
def dbs (i : Nat) : Nat := (List.range i).foldl (fun a i => a + 2 ^ (if 4 ≤ i then (i - 2) / 2 else 0)) 1
theorem dbs_next (i : Nat) : dbs (i + 1) = dbs i + 2 ^ dmo i := by unfold dbs dmo; rw [List.range_succ, List.foldl_append]; rfl
theorem dbs_le : ∀ i, i ≤ 30 → dbs i ≤ 40000 := by decide
theorem w64_add (v i : Nat) (hv : v ≤ 100000) (hi : i < 40) : wrap64 ((v : Int) + wrap64 (2 ^ i)) = ((v + 2 ^ i : Nat) : Int) := by
  have h1 : 2 ^ i ≤ 2 ^ 40 := Nat.pow_le_pow_right (by decide) (by omega)
  have e : (2 : Int) ^ i = ((2 ^ i : Nat) : Int) := by push_cast; rfl
  rw [e, w64_cast (by omega), ← Int.natCast_add, w64_cast (by omega)]
set_option maxRecDepth 100000 in
set_option maxHeartbeats 2000000 in
theorem lbase_c (s : Nat) (h1 : 257 ≤ s) (h2 : s ≤ 285) (w : World) : Calls Tryd.prog 65 #[.int .i64 (s : Int)] w fun e w' => e = .returned (.tuple #[.int .i64 (lbase s : Nat), .int .i64 (lmore s : Nat)]) ∧ w = w' := by
  by_cases h : s = 285
  · subst h
    go_enter Tryd.func65, Tryd.ntmps65
    go_wp2_with fail
    first | go_ret | go_ret2
    exact ⟨rfl, rfl⟩
  have hne : ((s : Int) == 285) = false := beq_eq_false_iff_ne.2 (by omega)
  obtain ⟨A, hA⟩ : ∃ A, lbase s = A := ⟨_, rfl⟩
  obtain ⟨D, hD⟩ : ∃ D, lmore s = D := ⟨_, rfl⟩
  have AR : Aside (lbs (s - 257) = A ∧ lmo (s - 257) = D ∧ 257 ≤ s ∧ s < 285) := ⟨by rw [← hA, lbase_lbs h], by rw [← hD]; unfold lmo lmore; rw [if_neg h, show s - 257 + 257 = s by omega], h1, by omega⟩
  rw [hA, hD]
  clear hA hD h h1 h2
  go_enter Tryd.func65, Tryd.ntmps65
  go_wp2_with fail
  go_loopg [4, 5] 29 (fun g sa si wr => ∃ i v : Nat, sa = .int .i64 (v : Int) ∧ si = .int .i64 ((257 + i : Nat) : Int) ∧ Aside (i + g = 29 ∧ 257 + i ≤ s ∧ v = lbs i) ∧ w = wr)
  case atStart => exact ⟨0, 3, rfl, rfl, ⟨by omega, by have := AR.out; omega, rfl⟩, rfl⟩
  case round =>
    obtain ⟨i, v, rfl, rfl, hI, hw⟩ := hrel
    subst hw
    have hI1 := hI.out
    have hs := AR.out
    have hvb := lbs_le i (by omega)
    obtain ⟨m, hm⟩ : ∃ m, lmo i = m := ⟨_, rfl⟩
    obtain ⟨q, hq⟩ : ∃ q, 257 + i = q := ⟨_, rfl⟩
    have hmm : m ≤ 5 := by rw [← hm]; unfold lmo; split <;> omega
    rw [hq]
    have AI : Aside (i + gk = 29 ∧ q ≤ s ∧ v = lbs i ∧ v ≤ 1000 ∧ lmo i = m ∧ 257 + i = q ∧ m ≤ 5) := ⟨hI1.1, by omega, hI1.2.2, by rw [hI1.2.2]; exact hvb, hm, hq, hmm⟩
    have hqb : (q : Int) ≤ 285 := by omega
    go_upto_if 12 with fail
    go_cut [6] (fun s6 wc => s6 = .int .i64 (m : Int) ∧ w = wc)
    case first =>
      by_cases h265 : 265 ≤ q
      · have t1 : (265 : Int) ≤ (q : Int) := by omega
        have hmI : ((q : Int) - 261) / 4 = (m : Int) := by rw [← hm]; unfold lmo; rw [if_pos (by omega)]; omega
        have AM : Aside (((q : Int) - 261) / 4 = (m : Int)) := hmI
        clear hI hI1 hs hvb hm hq hmm h265 hmI
        go_wp2_with fail
        go_meet
        exact ⟨by rw [AM.out], rfl⟩
      · have t1 : ¬ (265 : Int) ≤ (q : Int) := by omega
        have hm0 : m = 0 := by rw [← hm]; unfold lmo; rw [if_neg (by omega)]
        clear hI hI1 hs hvb hm hq hmm h265
        go_wp2_with fail
        go_meet
        exact ⟨by rw [hm0]; rfl, rfl⟩
    case rest =>
      obtain ⟨rfl, rfl⟩ := hcut
      have hmI : (m : Int) ≤ 13 := by omega
      by_cases hqs : q = s
      · have t2 : ((q : Int) == (s : Int)) = true := beq_iff_eq.2 (by omega)
        have AF : Aside (v = A ∧ m = D) := by
          have a := AI.out; have r := AR.out
          exact ⟨by rw [← r.1, a.2.2.1]; congr 1; omega, by rw [← r.2.1, ← a.2.2.2.2.1]; congr 1; omega⟩
        clear hI hI1 hs hvb hm hq hmm hqs
        go_wp2_with fail
        first | go_ret | go_ret2
        obtain ⟨rfl, rfl⟩ := AF.out
        exact ⟨rfl, rfl⟩
      · have t2 : ((q : Int) == (s : Int)) = false := beq_eq_false_iff_ne.2 (by omega)
        have AL : Aside (q < s) := (by omega : q < s)
        clear hI hI1 hs hvb hm hq hmm hqs
        go_wp2_with fail
        rw [w64_add v m (by have := AI.out; omega) (by have := AI.out; omega)]
        go_roundg (28 - i)
        case measure => have := AI.out; have := AL.out; have := AR.out; omega
        case rel =>
          have a := AI.out
          have l := AL.out
          have r := AR.out
          refine ⟨i + 1, v + 2 ^ m, rfl, ?_, ⟨by omega, by omega, by rw [lbs_next, a.2.2.2.2.1, a.2.2.1]⟩, rfl⟩
          rw [show 257 + (i + 1) = q + 1 by omega]
          go_num
set_option maxRecDepth 100000 in
set_option maxHeartbeats 2000000 in
theorem dbase_c (s : Nat) (h2 : s ≤ 29) (w : World) : Calls Tryd.prog 66 #[.int .i64 (s : Int)] w fun e w' => e = .returned (.tuple #[.int .i64 (dbase s : Nat), .int .i64 (dmore s : Nat)]) ∧ w = w' := by
  obtain ⟨A, hA⟩ : ∃ A, dbase s = A := ⟨_, rfl⟩
  obtain ⟨D, hD⟩ : ∃ D, dmore s = D := ⟨_, rfl⟩
  have AR : Aside (dbs s = A ∧ dmo s = D ∧ s ≤ 29) := ⟨hA, hD, h2⟩
  rw [hA, hD]
  clear hA hD h2
  go_enter Tryd.func66, Tryd.ntmps66
  go_wp2_with fail
  go_loopg [4, 5] 30 (fun g sa si wr => ∃ i v : Nat, sa = .int .i64 (v : Int) ∧ si = .int .i64 ((0 + i : Nat) : Int) ∧ Aside (i + g = 30 ∧ 0 + i ≤ s ∧ v = dbs i) ∧ w = wr)
  case atStart => exact ⟨0, 1, rfl, rfl, ⟨by omega, by omega, rfl⟩, rfl⟩
  case round =>
    obtain ⟨i, v, rfl, rfl, hI, hw⟩ := hrel
    subst hw
    have hI1 := hI.out
    have hs := AR.out
    have hvb := dbs_le i (by omega)
    obtain ⟨m, hm⟩ : ∃ m, dmo i = m := ⟨_, rfl⟩
    obtain ⟨q, hq⟩ : ∃ q, 0 + i = q := ⟨_, rfl⟩
    have hmm : m ≤ 13 := by rw [← hm]; unfold dmo; split <;> omega
    rw [hq]
    have AI : Aside (i + gk = 30 ∧ q ≤ s ∧ v = dbs i ∧ v ≤ 40000 ∧ dmo i = m ∧ 0 + i = q ∧ m ≤ 13) := ⟨hI1.1, by omega, hI1.2.2, by rw [hI1.2.2]; exact hvb, hm, hq, hmm⟩
    have hqb : (q : Int) ≤ 29 := by omega
    go_upto_if 10 with fail
    go_cut [6] (fun s6 wc => s6 = .int .i64 (m : Int) ∧ w = wc)
    case first =>
      by_cases h265 : 4 ≤ q
      · have t1 : (4 : Int) ≤ (q : Int) := by omega
        have hmI : ((q : Int) - 2) / 2 = (m : Int) := by rw [← hm]; unfold dmo; rw [if_pos (by omega)]; omega
        have AM : Aside (((q : Int) - 2) / 2 = (m : Int)) := hmI
        clear hI hI1 hs hvb hm hq hmm h265 hmI
        go_wp2_with fail
        go_meet
        exact ⟨by rw [AM.out], rfl⟩
      · have t1 : ¬ (4 : Int) ≤ (q : Int) := by omega
        have hm0 : m = 0 := by rw [← hm]; unfold dmo; rw [if_neg (by omega)]
        clear hI hI1 hs hvb hm hq hmm h265
        go_wp2_with fail
        go_meet
        exact ⟨by rw [hm0]; rfl, rfl⟩
    case rest =>
      obtain ⟨rfl, rfl⟩ := hcut
      have hmI : (m : Int) ≤ 13 := by omega
      by_cases hqs : q = s
      · have t2 : ((q : Int) == (s : Int)) = true := beq_iff_eq.2 (by omega)
        have AF : Aside (v = A ∧ m = D) := by
          have a := AI.out; have r := AR.out
          exact ⟨by rw [← r.1, a.2.2.1]; congr 1; omega, by rw [← r.2.1, ← a.2.2.2.2.1]; congr 1; omega⟩
        clear hI hI1 hs hvb hm hq hmm hqs
        go_wp2_with fail
        first | go_ret | go_ret2
        obtain ⟨rfl, rfl⟩ := AF.out
        exact ⟨rfl, rfl⟩
      · have t2 : ((q : Int) == (s : Int)) = false := beq_eq_false_iff_ne.2 (by omega)
        have AL : Aside (q < s) := (by omega : q < s)
        clear hI hI1 hs hvb hm hq hmm hqs
        go_wp2_with fail
        rw [w64_add v m (by have := AI.out; omega) (by have := AI.out; omega)]
        go_roundg (29 - i)
        case measure => have := AI.out; have := AL.out; have := AR.out; omega
        case rel =>
          have a := AI.out
          have l := AL.out
          have r := AR.out
          refine ⟨i + 1, v + 2 ^ m, rfl, ?_, ⟨by omega, by omega, by rw [dbs_next, a.2.2.2.2.1, a.2.2.1]⟩, rfl⟩
          rw [show 0 + (i + 1) = q + 1 by omega]
          go_num
end Go.Proofs.YtikdpnpkmmmacaaDoor

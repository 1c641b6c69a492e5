/-
  Own texts of this seat, one behind the other: what each says stands ahead of it.
-/
import Derived.Test.YtogednaamndpgaaGreatDoorMh
/-
  What is done beside a run that once stood whole: the run's own memory stays, and so does what is done.
-/
namespace Go.Proofs.YtogednaamndpgaaGreatDoor
open Go.RowKit
set_option linter.unusedVariables false
theorem own_at {w u : World} {base e size n : Nat} {v : Value} {xs : List Value} (h : w.ownsRow base e size v n xs) (hk : ∀ g, v.ownBlock = some g → u.heap[g]? = w.heap[g]?) : u.ownsRow base e size v n xs := by
  refine ⟨h.1, ?_⟩
  rcases h.2 with hn | ⟨g, cap, cur, rfl, hb, hgg, rest⟩
  · exact .inl hn
  · exact .inr ⟨g, cap, cur, rfl, hb, by rw [hk g rfl]; exact hgg, rest⟩
/-- The run stood whole at w1; since then it read on, and new memory was worked on. -/
structure Beside (B : List Nat) (base R : Nat) (a : Option Addr) (L C most : Nat) (w1 w : World) (s : Rs) (vO vT : Value) : Prop where
  at1 : ∃ s1, Ctx B base R a L C most w1 s1 vO vT
  now : Ctx B base R a L C most w s vO vT
  chg : Chg R vO vT vO vT w1 w
variable {w1 w u : World} {base R L C most : Nat} {a : Option Addr} {s : Rs} {vO vT : Value} {B : List Nat}
theorem Ctx.beside (h : Ctx B base R a L C most w s vO vT) : Beside B base R a L C most w w s vO vT := ⟨⟨s, h⟩, h, Chg.refl _ _ _ _⟩
theorem Beside.run (h : Beside B base R a L C most w1 w s vO vT) {s' : Rs} (k : Ctx B base R a L C most u s' vO vT) (g : Chg R vO vT vO vT w u) : Beside B base R a L C most w1 u s' vO vT := ⟨h.at1, k, h.chg.trans g⟩
theorem Beside.rlt (h : Beside B base R a L C most w1 w s vO vT) : R < w1.heap.size := by obtain ⟨s1, k⟩ := h.at1; exact k.run.lt
theorem Beside.olt (h : Beside B base R a L C most w1 w s vO vT) (g : Nat) (hg : vO.ownBlock = some g) : g < w1.heap.size := by obtain ⟨s1, k⟩ := h.at1; exact (k.run.oo.lt g hg).2
theorem Beside.tlt (h : Beside B base R a L C most w1 w s vO vT) (g : Nat) (hg : vT.ownBlock = some g) : g < w1.heap.size := by obtain ⟨s1, k⟩ := h.at1; exact (k.run.ot.lt g hg).2
theorem Beside.new (h : Beside B base R a L C most w1 w s vO vT) (k : Below w1.heap.size w u) : Beside B base R a L C most w1 u s vO vT := by
  have hc : Chg R vO vT vO vT w1 u := ⟨k.os.trans h.chg.os, k.tape.trans h.chg.tape, k.output.trans h.chg.output, Nat.le_trans h.chg.size k.size, fun i hi h1 h2 h3 => (k.block i hi).trans (h.chg.block i hi h1 h2 h3), fun _ h => Or.inl h, fun _ h => Or.inl h⟩
  have hr : Rn u base R a L C most s vO vT := by
    have r := h.now.run
    obtain ⟨f, hcl⟩ := r.cells
    exact ⟨⟨f, hcl.below k h.rlt⟩, own_at r.oo (fun g hg => k.block g (h.olt g hg)), own_at r.ot (fun g hg => k.block g (h.tlt g hg)), r.rb, r.tl⟩
  refine ⟨h.at1, ?_, hc⟩
  obtain ⟨s1, k1⟩ := h.at1
  exact k1.on hr hc h.now.pos h.now.og
/-- What is new stays while the run reads on. -/
theorem Beside.stay (h : Beside B base R a L C most w1 w s vO vT) {vO' vT' : Value} (g : Chg R vO vT vO' vT' w u) {k : Nat} (h1 : w1.heap.size ≤ k) (h2 : k < w.heap.size) : u.heap[k]? = w.heap[k]? :=
  g.block k h2 (by have := h.rlt; omega) (fun e => by have := h.olt k e.symm; omega) (fun e => by have := h.tlt k e.symm; omega)
theorem Beside.cells (h : Beside B base R a L C most w1 w s vO vT) {vO' vT' : Value} (g : Chg R vO vT vO' vT' w u) {k : Nat} {cs : Array Value} {t : TypeId} (h1 : w1.heap.size ≤ k) (hc : Cells w k cs t) : Cells u k cs t := (h.stay g h1 hc.lt).trans hc
theorem Beside.own (h : Beside B base R a L C most w1 w s vO vT) {vO' vT' : Value} (g : Chg R vO vT vO' vT' w u) {b e size n : Nat} {v : Value} {xs : List Value} (h1 : w1.heap.size ≤ b) (ho : w.ownsRow b e size v n xs) : u.ownsRow b e size v n xs :=
  own_at ho fun k hk => by have := ho.lt k hk; exact h.stay g (by omega) this.2
end Go.Proofs.YtogednaamndpgaaGreatDoor

/-
  What repeated comes to behind a symbol of the lengths' code, told by the machine's steps; New within a run, whichever way it goes.
-/
namespace Go.Proofs.YtogednaamndpgaaGreatDoor
open Go.RowKit
set_option linter.unusedVariables false
variable {w1 w u : World} {base R L C most : Nat} {a : Option Addr} {s : Rs} {vO vT : Value} {B : List Nat}
/-- What comes behind a symbol of the lengths' code. -/
def afterSym (last : Bool) (A D : Nat) (code l : List Nat) (x : Nat) : St := if x < 16 then .dsym last A D code (l ++ [x]) else if x = 16 ∧ l = [] then .bad 12 else .drep last A D code l x
theorem rep_c (base R : Nat) (a : Option Addr) (L C : Nat) (vO vT : Value) (ho : Opn s) (x : Nat) (hx : x < 19) (last : Bool) (A D : Nat) (code l : List Nat) (la : Option Addr) (ll lc : Nat) (hll : l.length = ll) (hlb : ll ≤ 1000) (hlt : ll < A + D) (h16 : ∀ y ∈ l, y < 16) :
    ∃ (n z : Nat) (s5 : Rs), (∀ X, Ctx B base R a L C most X s vO vT → Kept (fun u => Lens u la (iz l)) R vO vT X → Calls Tryz.prog 91 #[.pointer (some ⟨R, 0, none⟩), .int .i64 (x : Int), .slice la ll lc] X fun e w' => e = .returned (.tuple #[.int .i64 (n : Int), .int .i64 (z : Int)]) ∧ Ctx B base R a L C most w' s5 vO vT ∧ Chg R vO vT vO vT X w') ∧ n ≤ 138 ∧ z < 16 ∧
      ((Opn s5 ∧ 1 ≤ n ∧ Runs (allb B) most ⟨afterSym last A D code l x, s.pos, s.out, s.times⟩ ⟨if A + D < ll + n then .bad 12 else .dsym last A D code (l ++ List.replicate n z), s5.pos, s5.out, s5.times⟩) ∨ ∃ c', Runs (allb B) most ⟨afterSym last A D code l x, s.pos, s.out, s.times⟩ c' ∧ Fin (allb B) most L c' s5) := by
  by_cases h1 : x < 16
  · refine ⟨1, x, s, fun X hX hk => (rep_len hX x h1 la ll lc).mono fun e w' ⟨q1, q2⟩ => ⟨q1, by rw [← q2]; exact hX, by rw [← q2]; exact Chg.refl _ _ _ _⟩, by omega, h1, Or.inl ⟨ho, by omega, ?_⟩⟩
    unfold afterSym
    rw [if_pos h1, if_neg (by omega)]
    exact Runs.refl _
  · by_cases h2 : x = 16 ∧ l = []
    · obtain ⟨rfl, rfl⟩ := h2
      have : ll = 0 := by rw [← hll]; rfl
      subst this
      refine ⟨0, 0, _, fun X hX hk => rep_first hX la lc, by omega, by omega, Or.inr ⟨_, Runs.refl _, ?_⟩⟩
      exact Fin.bad 12 rfl rfl rfl ho.2 (by decide) rfl
    · have e0 : afterSym last A D code l x = .drep last A D code l x := by unfold afterSym; rw [if_neg h1, if_neg h2]
      rw [e0]
      by_cases h3 : x = 16
      · subst h3
        have hl0 : 0 < ll := by
          rw [← hll]
          apply List.length_pos_iff.2
          intro e; exact h2 ⟨rfl, e⟩
        have hz16 : l.getD (ll - 1) 0 < 16 := by
          rw [List.getD_eq_getElem?_getD, List.getElem?_eq_getElem (by omega)]
          exact h16 _ (List.getElem_mem _)
        cases hn : num? (allb B) s.pos 2 with
        | none =>
          refine ⟨3 + 0, _, _, fun X hX hk => rep_again hX la l ll lc hll hl0 hlb hk _ rfl 0 _ (Or.inr ⟨hn, rfl, rfl⟩), by omega, hz16, Or.inr ⟨_, Runs.refl _, ?_⟩⟩
          exact Fin.cut (by unfold step; simp only [if_true, hn]; rfl) rfl rfl ho.2 (by intro y e; cases e) (by intro e; cases e)
        | some v =>
          have hv : v < 4 := numb_lt hn
          refine ⟨3 + v, _, _, fun X hX hk => rep_again hX la l ll lc hll hl0 hlb hk _ rfl v _ (Or.inl ⟨hn, rfl⟩), by omega, hz16, Or.inl ⟨ho, by omega, Runs.one ?_⟩⟩
          unfold step
          simp only [if_true, hn]
          rw [← hll]
          rfl
      · have hx78 : x = 17 ∨ x = 18 := by omega
        have hw : (if x = 16 then 2 else if x = 17 then 3 else 7) = (if x = 17 then 3 else 7) := if_neg h3
        cases hn : num? (allb B) s.pos (if x = 17 then 3 else 7) with
        | none =>
          refine ⟨_, 0, _, fun X hX hk => rep_nought hX x hx78 la ll lc 0 _ (Or.inr ⟨hn, rfl, rfl⟩), by split <;> omega, by omega, Or.inr ⟨_, Runs.refl _, ?_⟩⟩
          exact Fin.cut (by unfold step; simp only [hw, hn]; rfl) rfl rfl ho.2 (by intro y e; cases e) (by intro e; cases e)
        | some v =>
          have hv : v < 2 ^ (if x = 17 then 3 else 7) := numb_lt hn
          have hn3 : (if x = 18 then 11 else 3) + v ≤ 138 := by
            rcases hx78 with rfl | rfl
            · have hv' : v < 8 := hv
              show 3 + v ≤ 138; omega
            · have hv' : v < 128 := hv
              show 11 + v ≤ 138; omega
          refine ⟨_, 0, _, fun X hX hk => rep_nought hX x hx78 la ll lc v _ (Or.inl ⟨hn, rfl⟩), hn3, by omega, Or.inl ⟨ho, by split <;> omega, Runs.one ?_⟩⟩
          unfold step
          simp only [hw, hn, if_neg h3]
          rw [← hll]
          rfl
/-- New within a run. -/
theorem Ctx.new_ (h : Ctx B base R a L C most w s vO vT) (la : Option Addr) (l : List Nat) (ll lc : Nat) (hl : Lens w la (iz l)) (hll : l.length = ll) (hb : ll < 140737488355328) :
    Calls Tryz.prog 51 #[.slice la ll lc] w fun e w' => ∃ (p : Value) (er : Nat), e = .returned (.tuple #[p, .int .i64 (er : Int)]) ∧ Ctx B base R a L C most w' s vO vT ∧ Below w.heap.size w w' ∧ ((mays l = true ∧ er = 0 ∧ ∃ T, p = .pointer (some ⟨T, 0, none⟩) ∧ Tab R vO vT w' T l) ∨ (mays l = false ∧ er ≠ 0)) := by
  cases hm : mays l with
  | true => exact (h.table la l ll lc hl hll hm).mono fun e w' ⟨T, q1, q2, q3, q4⟩ => ⟨_, 0, q1, q2, q3, Or.inl ⟨rfl, rfl, T, rfl, q4⟩⟩
  | false =>
    obtain ⟨er, q0, q⟩ := notable la l ll lc w hl hll hb hm
    exact q.mono fun e w' ⟨q1, q2⟩ => ⟨_, er, q1, by rw [← q2]; exact h, by rw [← q2]; exact Below.refl _ _, Or.inr ⟨rfl, q0⟩⟩
theorem Lens.take {w : World} {la : Option Addr} {l : List Nat} (h : Lens w la (iz l)) (A : Nat) : Lens w la (iz (l.take A)) := by
  rcases h with h | ⟨b, o, ha, hc⟩
  · left
    have : l = [] := by unfold iz at h; simpa using h
    rw [this]; simp [iz]
  · refine Or.inr ⟨b, o, ha, fun i z hz => hc i z ?_⟩
    unfold iz at hz ⊢
    rw [List.map_take, List.getElem?_take] at hz
    split at hz
    · exact hz
    · cases hz
theorem Lens.drop {w : World} {b o : Nat} {l : List Nat} (h : Lens w (some ⟨b, o, none⟩) (iz l)) (A : Nat) : Lens w (some ⟨b, o + A, none⟩) (iz (l.drop A)) := by
  rcases h with h | ⟨b', o', ha, hc⟩
  · left
    have : l = [] := by unfold iz at h; simpa using h
    rw [this]; simp [iz]
  · cases ha
    refine Or.inr ⟨b, o + A, rfl, fun i z hz => ?_⟩
    unfold iz at hz
    rw [List.map_drop, List.getElem?_drop] at hz
    rw [Nat.add_assoc]
    exact hc (A + i) z hz
/-- A whole code of lengths of lengths. -/
theorem mays_full {l : List Nat} (h1 : l.length = 19) (h2 : ∀ x ∈ l, x < 8) (h3 : kr l = 32768) : mays l = true := by
  unfold mays
  refine decide_eq_true ⟨by omega, fun x hx => by have := h2 x hx; omega, by omega, ?_⟩
  unfold Under
  omega
/-- The lengths lie, whatever the run does. -/
theorem Beside.lens {la : Option Addr} {ll lc b : Nat} {l : List Nat} (h : Beside B base R a L C most w1 w s vO vT) (hb : w1.heap.size ≤ b) (ho : w.ownsRow b 3 1 (.slice la ll lc) ll (vt l)) (hll : l.length = ll) : Kept (fun u => Lens u la (iz l)) R vO vT w := by
  intro u x y g
  have ho2 := h.own g hb ho
  obtain ⟨a', c', e, q, _⟩ := own_lens ho2 hll
  cases e
  exact q
theorem cells_lens {F : Nat} {l : List Nat} (h : Cells w F (vt l).toArray 3) : Lens w (some ⟨F, 0, none⟩) (iz l) := by
  refine Or.inr ⟨F, 0, rfl, fun i z hz => ?_⟩
  rw [Nat.zero_add, h.cell]
  unfold iz at hz
  rw [List.getElem?_map] at hz
  cases e : l[i]? with
  | none => rw [e] at hz; cases hz
  | some x =>
    rw [e] at hz
    have hz' : (x : Int) = z := by simpa using hz
    rw [← hz']
    simp [vt, e]
end Go.Proofs.YtogednaamndpgaaGreatDoor

/-
  What the document's dynamic comes to, told by the machine's steps.
-/
namespace Go.Proofs.YtogednaamndpgaaGreatDoor
open Go.RowKit
set_option linter.unusedVariables false
variable {w1 w u : World} {base R L C most : Nat} {a : Option Addr} {s : Rs} {vO vT : Value} {B : List Nat}
def n19 : List Nat := List.replicate 19 0
theorem made_first (w : World) : (Instr.makeSlice 74 (.int .i64 19) (.int .i64 19)).run Tryz.prog w = .ok (.slice (some ⟨w.heap.size, 0, none⟩) 19 19) (w.alloc (.cells (vt n19).toArray 3)) := by kernel_rfl
theorem vt_set {l : List Nat} {i x : Nat} : (vt l).toArray.setIfInBounds i (.int .i64 (x : Int)) = (vt (l.set i x)).toArray := by
  unfold vt
  rw [List.map_set]
  simp
theorem ordr_at {i : Nat} (h : i < 19) : ordr[i]? = some (ordr.getD i 0) ∧ ordr.getD i 0 < 19 := by
  have : ∀ j : _root_.Fin 19, ordr[j.1]? = some (ordr.getD j.1 0) ∧ ordr.getD j.1 0 < 19 := by decide
  exact this ⟨i, h⟩
theorem set_lt {l : List Nat} {i x n : Nat} (h : ∀ y ∈ l, y < n) (hx : x < n) : ∀ y ∈ l.set i x, y < n := by
  intro y hy
  rcases List.mem_or_eq_of_mem_set hy with h1 | h1
  · exact h y h1
  · rw [h1]; exact hx
/-- One of the lengths of lengths is put down. -/
theorem Aft.of {w3 wr w7 : World} {s1 s7 : Rs} {O F : Nat} {first : List Nat} (h : Beside B base R a L C most w3 wr s1 vO vT) (g : Chg R vO vT vO vT wr w7) (hc : Ctx B base R a L C most w7 s7 vO vT) (ho : Cells w7 O (vt ordr).toArray 3) (hf : Cells w7 F (vt first).toArray 3) (hO : w3.heap.size = O) (hOF : O < F) (o x : Nat) :
    Aside (Beside B base R a L C most w3 (w7.setCell ⟨F, o, none⟩ (.int .i64 (x : Int))) s7 vO vT ∧ Cells (w7.setCell ⟨F, o, none⟩ (.int .i64 (x : Int))) O (vt ordr).toArray 3 ∧ Cells (w7.setCell ⟨F, o, none⟩ (.int .i64 (x : Int))) F (vt (first.set o x)).toArray 3) := by
  have on : Only F w7 (w7.setCell ⟨F, o, none⟩ (.int .i64 (x : Int))) := (Only.refl F w7).setCell _ _
  exact ⟨(h.run hc g).new (on.below (by omega)), ho.only on (by omega), by rw [← vt_set]; exact hf.set _ _⟩
set_option maxRecDepth 100000 in
set_option maxHeartbeats 8000000 in
theorem dynamic_c (h : Ctx B base R a L C most w s vO vT) (ho : Opn s) (last : Bool) :
    Calls Tryz.prog 62 #[.pointer (some ⟨R, 0, none⟩)] w fun e w' => e = .returned (.tuple #[]) ∧ Left B base R a L C most vO vT w w' ⟨.dnum last, s.pos, s.out, s.times⟩ (.head last) := by
  obtain ⟨i3, hi3, hz30, hz31, hz32⟩ := info_parts info3'
  obtain ⟨c0, hc0⟩ : ∃ c0, (⟨.dnum last, s.pos, s.out, s.times⟩ : Cfg) = c0 := ⟨_, rfl⟩
  rw [hc0]
  cases hnum : num? (allb B) s.pos 14 with
  | none =>
    have hno := h.number_none 14 (by omega) hnum
    have hfin : Fin (allb B) most L c0 { s with why := 1, at_ := L } := by
      rw [← hc0]
      exact Fin.cut (by unfold step; simp only [hnum]; rfl) rfl rfl ho.2 (by intro y e; cases e) (by intro e; cases e)
    have hop2 : ∀ X, Ctx B base R a L C most X { s with why := 1, at_ := L } vO vT → Calls Tryz.prog 58 #[.pointer (some ⟨R, 0, none⟩)] X fun e w' => e = .returned (.bool false) ∧ X = w' := fun X hX => hX.open_ false hfin.opn
    have AF : Aside (Fin (allb B) most L c0 { s with why := 1, at_ := L }) := hfin
    clear h ho hc0 hnum hfin
    go_enter Tryz.func62, Tryz.ntmps62
    go_wp2_with (first
      | (go_at_call 59; refine hno.mono ?_; rintro e3 w3 ⟨rfl, hc3, hg3⟩)
      | (go_at_call 58; refine (hop2 _ hc3).mono ?_; rintro e4 w4 ⟨rfl, rfl⟩))
    first | (refine bodyPost_ret (results_none rfl _ _ _) rfl ?_) | go_end0
    exact ⟨rfl, Left.of hc3 hg3 (Runs.refl _) (Or.inr AF.out)⟩
  | some v =>
    have hyes := h.number_some 14 v (by omega) hnum
    have hv8 : v < 16384 := numb_lt hnum
    obtain ⟨s2, hs2⟩ : ∃ s2 : Rs, { s with pos := s.pos + 14 } = s2 := ⟨_, rfl⟩
    rw [hs2] at hyes
    have ho2 : Opn s2 := by rw [← hs2]; exact ho
    have hop2 : ∀ X, Ctx B base R a L C most X s2 vO vT → Calls Tryz.prog 58 #[.pointer (some ⟨R, 0, none⟩)] X fun e w' => e = .returned (.bool true) ∧ X = w' := fun X hX => hX.open_ true ho2.opn
    obtain ⟨A, hA⟩ : ∃ A, 257 + v % 32 = A := ⟨_, rfl⟩
    obtain ⟨D, hD⟩ : ∃ D, 1 + v / 32 % 32 = D := ⟨_, rfl⟩
    obtain ⟨K, hK⟩ : ∃ K, 4 + v / 1024 = K := ⟨_, rfl⟩
    have hAI : 257 + (v : Int) % 32 = (A : Int) := by omega
    have hDI : 1 + (v : Int) / 32 % 32 = (D : Int) := by omega
    have hKI : 4 + (v : Int) / 1024 = (K : Int) := by omega
    have hst : step (allb B) most c0 = some ⟨if 286 < A ∨ 30 < D then .bad 12 else .dfst last A D K 0 (List.replicate 19 0), s2.pos, s2.out, s2.times⟩ := by
      rw [← hc0, ← hs2, ← hA, ← hD, ← hK]
      unfold step
      simp only [hnum]
      rfl
    have hvI : (v : Int) < 16384 := by omega
    have hA1 : 257 ≤ A ∧ A ≤ 288 := by omega
    have hD1 : 1 ≤ D ∧ D ≤ 32 := by omega
    have hK1 : 4 ≤ K ∧ K ≤ 19 := by omega
    clear h ho hc0 hnum hs2 hA hD hK hv8
    by_cases hbad : 286 < A ∨ 30 < D
    · have hstp : ∀ X, Ctx B base R a L C most X s2 vO vT → Calls Tryz.prog 63 #[.pointer (some ⟨R, 0, none⟩), .int .i64 12] X fun e w' => e = .returned (.tuple #[]) ∧ Ctx B base R a L C most w' { s2 with why := 12, at_ := (s2.pos - 1) / 8 } vO vT ∧ Chg R vO vT vO vT X w' := fun X hX => hX.stop 12
      rw [if_pos hbad] at hst
      have AF : Aside (Runs (allb B) most c0 ⟨.bad 12, s2.pos, s2.out, s2.times⟩ ∧ Fin (allb B) most L ⟨.bad 12, s2.pos, s2.out, s2.times⟩ { s2 with why := 12, at_ := (s2.pos - 1) / 8 }) := ⟨Runs.one hst, Fin.bad 12 rfl rfl rfl ho2.2 (by decide) rfl⟩
      clear hst ho2
      go_enter Tryz.func62, Tryz.ntmps62
      go_upto_region 3 with (first
        | (go_at_call 59; refine hyes.mono ?_; rintro e3 w3 ⟨rfl, hc3, hg3⟩)
        | (go_at_call 58; refine (hop2 _ hc3).mono ?_; rintro e4 w4 ⟨rfl, rfl⟩))
      rcases hbad with hb | hb
      · have tA : (286 : Int) < (A : Int) := by omega
        go_wp2_with (go_at_call 63; refine (hstp _ hc3).mono ?_; rintro e6 w6 ⟨rfl, hc5, hg5⟩)
        first | (refine bodyPost_ret (results_none rfl _ _ _) rfl ?_) | go_end0
        exact ⟨rfl, Left.of hc5 (hg3.trans hg5) AF.out.1 (Or.inr AF.out.2)⟩
      · have tD : (30 : Int) < (D : Int) := by omega
        have tA : (286 : Int) < (A : Int) ∨ ¬ (286 : Int) < (A : Int) := Classical.em _
        rcases tA with tA | tA
        all_goals
          go_wp2_with (go_at_call 63; refine (hstp _ hc3).mono ?_; rintro e6 w6 ⟨rfl, hc5, hg5⟩)
          first | (refine bodyPost_ret (results_none rfl _ _ _) rfl ?_) | go_end0
          exact ⟨rfl, Left.of hc5 (hg3.trans hg5) AF.out.1 (Or.inr AF.out.2)⟩
    · have tA : ¬ (286 : Int) < (A : Int) := by omega
      have tD : ¬ (30 : Int) < (D : Int) := by omega
      rw [if_neg hbad] at hst
      have hord := order_c
      have AF : Aside (Runs (allb B) most c0 ⟨.dfst last A D K 0 (List.replicate 19 0), s2.pos, s2.out, s2.times⟩ ∧ Opn s2) := ⟨Runs.one hst, ho2⟩
      clear hst ho2 hbad
      go_enter Tryz.func62, Tryz.ntmps62
      have hmk := made_first
      go_upto_region 7 with (first
        | (go_at_call 59; refine hyes.mono ?_; rintro e3 w3 ⟨rfl, hc3, hg3⟩)
        | (go_at_call 58; refine (hop2 _ hc3).mono ?_; rintro e4 w4 ⟨rfl, rfl⟩)
        | (go_at_call 86; refine (hord _).mono ?_; rintro e5 w5 ⟨rfl, hco, hbo⟩))
      obtain ⟨O, hO⟩ : ∃ O, w3.heap.size = O := ⟨_, rfl⟩
      obtain ⟨F, hF⟩ : ∃ F, w5.heap.size = F := ⟨_, rfl⟩
      rw [hO] at hco hbo
      have hb6 : Below O w3 (w5.alloc (.cells (vt n19).toArray 3)) := hbo.alloc (by rw [← hO]; exact hbo.size) _
      have A6 : Aside (Beside B base R a L C most w3 (w5.alloc (.cells (vt n19).toArray 3)) s2 vO vT ∧ Cells (w5.alloc (.cells (vt n19).toArray 3)) O (vt ordr).toArray 3 ∧ Cells (w5.alloc (.cells (vt n19).toArray 3)) F (vt n19).toArray 3 ∧ w3.heap.size = O ∧ O < F ∧ Chg R vO vT vO vT w w3) := ⟨hc3.beside.new (by rw [hO]; exact hb6), hco.alloc _, by rw [← hF]; exact Cells.new w5 _ 3, hO, by rw [← hF]; exact hco.lt, hg3⟩
      rw [hO, hF]
      generalize (w5.alloc (.cells (vt n19).toArray 3)) = w6 at A6 ⊢
      clear hc3 hg3 hco hbo hO hF hb6 hmk hord hyes hop2 hvI hAI hDI hKI
      go_wp2_with fail
      go_loopg [8] K (fun g si wr => ∃ i : Nat, si = .int .i64 (i : Int) ∧ Aside (∃ s1 c1 first, Beside B base R a L C most w3 wr s1 vO vT ∧ Cells wr O (vt ordr).toArray 3 ∧ Cells wr F (vt first).toArray 3 ∧ first.length = 19 ∧ (∀ x ∈ first, x < 8) ∧ i ≤ K ∧ Runs (allb B) most c0 c1 ∧ ((Opn s1 ∧ c1 = ⟨.dfst last A D K i first, s1.pos, s1.out, s1.times⟩ ∧ i + g = K) ∨ Fin (allb B) most L c1 s1)))
      case atStart => exact ⟨0, rfl, s2, _, n19, A6.out.1, A6.out.2.1, A6.out.2.2.1, by simp [n19], by intro x hx; rw [List.eq_of_mem_replicate hx]; omega, by omega, AF.out.1, Or.inl ⟨AF.out.2, rfl, by omega⟩⟩
      case round =>
        obtain ⟨i, rfl, hI⟩ := hrel
        obtain ⟨s1, c1, first, hb1, ho1, hf1, hfl, hf8, hiK, hr1, hcase⟩ := hI.out
        rcases hcase with ⟨hop1, hc1, hig⟩ | hfin
        · by_cases hik : i < K
          · have ti : (i : Int) < (K : Int) := by omega
            have hop := hb1.now.open_ true hop1.opn
            have ⟨hoi, hoi2⟩ := ordr_at (i := i) (by omega)
            obtain ⟨o, hoo⟩ : ∃ o, ordr.getD i 0 = o := ⟨_, rfl⟩
            rw [hoo] at hoi hoi2
            have hcell : ∀ X, Cells X O (vt ordr).toArray 3 → X.cell? ⟨O, i, none⟩ = some (.int .i64 (o : Int)) := by
              intro X hX
              rw [hX.cell]
              simp [vt, hoi]
            have hc0i := hcell wr ho1
            have toI : (o : Int) < 19 := by omega
            have tiI : (i : Int) < 19 := by omega
            have hOF : O ≠ F := by have := A6.out; omega
            have hsetc : ∀ X y, Cells X O (vt ordr).toArray 3 → (X.setCell ⟨F, o, none⟩ y).cell? ⟨O, i, none⟩ = some (.int .i64 (o : Int)) := fun X y hX => hcell _ (hX.only ((Only.refl F X).setCell o y) hOF)
            cases hnum : num? (allb B) s1.pos 3 with
            | none =>
              have hno := hb1.now.drew.number_none 3 (by omega) hnum
              have hfin : Fin (allb B) most L c1 { s1 with why := 1, at_ := L } := by
                rw [hc1]
                exact Fin.cut (by unfold step; simp only [if_pos hik, hnum]; rfl) rfl rfl hop1.2 (by intro y e; cases e) (by intro e; cases e)
              have AL : Aside (∀ X, Chg R vO vT vO vT wr.drew X → Cells X O (vt ordr).toArray 3 ∧ Cells X F (vt first).toArray 3) := fun X hX => ⟨hb1.cells ((Chg.drawn ⟨1, rfl⟩).trans hX) (by have := A6.out; omega) ho1, hb1.cells ((Chg.drawn ⟨1, rfl⟩).trans hX) (by have := A6.out; omega) hf1⟩
              have AG : Aside (Beside B base R a L C most w3 wr s1 vO vT ∧ Fin (allb B) most L c1 { s1 with why := 1, at_ := L } ∧ Runs (allb B) most c0 c1 ∧ i < K ∧ i + gk = K ∧ first.length = 19 ∧ (∀ x ∈ first, x < 8)) := ⟨hb1, hfin, hr1, hik, hig, hfl, hf8⟩
              have hfc : ∀ X, Cells X F (vt first).toArray 3 → ∃ z, X.cell? ⟨F, o, none⟩ = some (.int .i64 z) := by
                intro X hX
                rw [hX.cell]
                exact ⟨((first[o]'(by omega) : Nat) : Int), by simp [vt, hfl, hoi2]⟩
              clear hI hb1 ho1 hf1 hfl hf8 hiK hr1 hop1 hc1 hig hoi hoi2 hoo hfin hnum hik
              go_upto_region 10 with (go_at_call 58; refine hop.mono ?_; rintro e2 w2 ⟨rfl, rfl⟩)
              go_region_held3 (fun w' => w'.cell? ⟨O, i, none⟩ = some (.int .i64 (o : Int))) (first | assumption | exact hcell _ (AL.out _ hg7).1 | exact hsetc _ _ (AL.out _ hg7).1)
                (first | (go_at_call 59; refine hno.mono ?_; rintro e7 w7 ⟨rfl, hc7, hg7⟩; have hf7 := (AL.out _ hg7).2; have fz7 := hf7.frozen o; obtain ⟨z, hz7⟩ := hfc _ hf7))
              have hAft := Aft.of AG.out.1 ((Chg.drawn ⟨1, rfl⟩).trans hg7) hc7 (AL.out _ hg7).1 hf7 A6.out.2.2.2.1 A6.out.2.2.2.2.1 o 0 
              have A9 := AG.out
              clear hc7 hg7 hf7 fz7 hz7 hno hop hcell hsetc hfc
              go_wp2_with fail
              go_roundg (gk - 1)
              case measure => have := AG.out; omega
              case rel => exact ⟨i + 1, by go_num, _, _, first.set o 0, hAft.out.1, hAft.out.2.1, hAft.out.2.2, by rw [List.length_set]; exact AG.out.2.2.2.2.2.1, set_lt AG.out.2.2.2.2.2.2 (by omega), by have := AG.out; omega, AG.out.2.2.1, Or.inr AG.out.2.1⟩
            | some v =>
              have hyes := hb1.now.drew.number_some 3 v (by omega) hnum
              have hv8 : v < 8 := numb_lt hnum
              obtain ⟨s4, hs4⟩ : ∃ s4 : Rs, { s1 with pos := s1.pos + 3 } = s4 := ⟨_, rfl⟩
              rw [hs4] at hyes
              have hop4 : Opn s4 := by rw [← hs4]; exact hop1
              have hst : step (allb B) most c1 = some ⟨.dfst last A D K (i + 1) (first.set o v), s4.pos, s4.out, s4.times⟩ := by
                rw [hc1, ← hs4, ← hoo]
                unfold step
                simp only [if_pos hik, hnum]
                rfl
              have AL : Aside (∀ X, Chg R vO vT vO vT wr.drew X → Cells X O (vt ordr).toArray 3 ∧ Cells X F (vt first).toArray 3) := fun X hX => ⟨hb1.cells ((Chg.drawn ⟨1, rfl⟩).trans hX) (by have := A6.out; omega) ho1, hb1.cells ((Chg.drawn ⟨1, rfl⟩).trans hX) (by have := A6.out; omega) hf1⟩
              have AG : Aside (Beside B base R a L C most w3 wr s1 vO vT ∧ Opn s4 ∧ Runs (allb B) most c0 ⟨.dfst last A D K (i + 1) (first.set o v), s4.pos, s4.out, s4.times⟩ ∧ i < K ∧ i + gk = K ∧ first.length = 19 ∧ (∀ x ∈ first, x < 8) ∧ v < 8) := ⟨hb1, hop4, hr1.trans (Runs.one hst), hik, hig, hfl, hf8, hv8⟩
              have hfc : ∀ X, Cells X F (vt first).toArray 3 → ∃ z, X.cell? ⟨F, o, none⟩ = some (.int .i64 z) := by
                intro X hX
                rw [hX.cell]
                exact ⟨((first[o]'(by omega) : Nat) : Int), by simp [vt, hfl, hoi2]⟩
              clear hI hb1 ho1 hf1 hfl hf8 hiK hr1 hop1 hc1 hig hoi hoi2 hoo hnum hik hst hop4 hs4 hv8
              go_upto_region 10 with (go_at_call 58; refine hop.mono ?_; rintro e2 w2 ⟨rfl, rfl⟩)
              go_region_held3 (fun w' => w'.cell? ⟨O, i, none⟩ = some (.int .i64 (o : Int))) (first | assumption | exact hcell _ (AL.out _ hg7).1 | exact hsetc _ _ (AL.out _ hg7).1)
                (first | (go_at_call 59; refine hyes.mono ?_; rintro e7 w7 ⟨rfl, hc7, hg7⟩; have hf7 := (AL.out _ hg7).2; have fz7 := hf7.frozen o; obtain ⟨z, hz7⟩ := hfc _ hf7))
              have hAft := Aft.of AG.out.1 ((Chg.drawn ⟨1, rfl⟩).trans hg7) hc7 (AL.out _ hg7).1 hf7 A6.out.2.2.2.1 A6.out.2.2.2.2.1 o v
              clear hc7 hg7 hf7 fz7 hz7 hyes hop hcell hsetc hfc
              go_wp2_with fail
              go_roundg (gk - 1)
              case measure => have := AG.out; omega
              case rel => exact ⟨i + 1, by go_num, _, _, first.set o v, hAft.out.1, hAft.out.2.1, hAft.out.2.2, by rw [List.length_set]; exact AG.out.2.2.2.2.2.1, set_lt AG.out.2.2.2.2.2.2.1 AG.out.2.2.2.2.2.2.2, by have := AG.out; omega, AG.out.2.2.1, Or.inl ⟨AG.out.2.1, rfl, by have := AG.out; omega⟩⟩
          · have hiK2 : i = K := by omega
            subst hiK2
            have ti : ¬ (i : Int) < (i : Int) := by omega
            have hop := hb1.now.open_ true hop1.opn
            have hlf := cells_lens hf1
            have hkr := rkraft_c (some ⟨F, 0, none⟩) (iz first) 19 19 (kr first) true wr hlf (by rw [iz_len]; exact hfl) (by omega) (Or.inl ⟨okl_iz.2 ⟨by omega, fun x hx => by have := hf8 x hx; omega⟩, by rw [lens_iz], rfl⟩)
            have hst : step (allb B) most c1 = some ⟨if kr first = 32768 then .dsym last A D first [] else .bad 12, s1.pos, s1.out, s1.times⟩ := by
              rw [hc1]
              unfold step
              simp only [if_neg (Nat.lt_irrefl i)]
            by_cases hfull : kr first = 32768
            · rw [if_pos hfull] at hst
              rw [hfull] at hkr
              have htb := hb1.now.table (some ⟨F, 0, none⟩) first 19 19 hlf hfl (mays_full hfl hf8 hfull)
              have AG : Aside (Opn s1 ∧ Runs (allb B) most c0 ⟨.dsym last A D first [], s1.pos, s1.out, s1.times⟩ ∧ Chg R vO vT vO vT w wr ∧ first.length = 19) := ⟨hop1, hr1.trans (Runs.one hst), A6.out.2.2.2.2.2.trans hb1.chg, hfl⟩
              clear hI hb1 ho1 hf1 hfl hf8 hiK hr1 hop1 hc1 hig hik hst hlf hfull A6 AF
              go_upto_region 16 with (first
                | (go_at_call 58; refine hop.mono ?_; rintro e2 w2 ⟨rfl, rfl⟩)
                | (go_at_call 79; refine hkr.mono ?_; rintro e7 w7 ⟨rfl, rfl⟩)
                | (go_at_call 51; refine htb.mono ?_; rintro e8 w8 ⟨T, rfl, hc8, hb8, tab8⟩))
              obtain ⟨W2, hW2⟩ : ∃ W2, w8.heap.size = W2 := ⟨_, rfl⟩
              have A8 : Aside (Ctx B base R a L C most w8 s1 vO vT ∧ Tab R vO vT w8 T first ∧ Chg R vO vT vO vT w w8 ∧ w8.heap.size = W2) := ⟨hc8, tab8, AG.out.2.2.1.trans (Chg.of_below hb8), hW2⟩
              clear hc8 hb8 tab8 hop hkr htb hW2
              go_wp2_with fail
              go_loopg [13] (A + D) (fun g vl wx => Aside (∃ (l : List Nat) (s4 : Rs), Beside B base R a L C most w8 wx s4 vO vT ∧ wx.ownsRow W2 3 1 vl l.length (vt l) ∧ (∀ x ∈ l, x < 16) ∧ l.length ≤ A + D ∧ A + D ≤ l.length + g ∧ Opn s4 ∧ Runs (allb B) most c0 ⟨.dsym last A D first l, s4.pos, s4.out, s4.times⟩))
              case atStart => exact ⟨[], s1, A8.out.1.beside, World.ownsRow_nil _ _ _ _, by (intro x hx; cases hx), Nat.zero_le _, by simp, AG.out.1, AG.out.2.1⟩
              case round =>
                obtain ⟨l, s4, hb4, how, h16, hlA, hlg, hop4, hr4⟩ := hrel.out
                obtain ⟨la, lc, hvl, hll, hlc, _, hlb⟩ := own_lens how rfl
                obtain ⟨ll, hl'⟩ : ∃ ll, l.length = ll := ⟨_, rfl⟩
                rw [hl'] at how hlA hlg hlc hvl
                subst hvl
                have hKl : Kept (fun u => Lens u la (iz l)) R vO vT wr := hb4.lens (by rw [A8.out.2.2.2]; exact Nat.le_refl _) how hl'
                by_cases hlt : ll < A + D
                · have tl : (ll : Int) < (A : Int) + (D : Int) := by omega
                  obtain ⟨r, hr⟩ : ∃ r, sread first ((allb B).drop s4.pos) = r := ⟨_, rfl⟩
                  have hsym := hb4.now.symbol T first (A8.out.2.1.on hb4.chg) r hr
                  cases r using SR.el with
                  | cut =>
                    have hfin : Fin (allb B) most L ⟨.dsym last A D first l, s4.pos, s4.out, s4.times⟩ (symS .cut L s4) := Fin.cut (by unfold step; simp only [hl', if_pos hlt, hr]) rfl rfl hop4.2 (by intro y e; cases e) (by intro e; cases e)
                    have hop2 : ∀ X, Ctx B base R a L C most X (symS .cut L s4) vO vT → Calls Tryz.prog 58 #[.pointer (some ⟨R, 0, none⟩)] X fun e w' => e = .returned (.bool false) ∧ X = w' := fun X hX => hX.open_ false hfin.opn
                    have AH : Aside (Fin (allb B) most L ⟨.dsym last A D first l, s4.pos, s4.out, s4.times⟩ (symS .cut L s4) ∧ Chg R vO vT vO vT w wr ∧ Runs (allb B) most c0 ⟨.dsym last A D first l, s4.pos, s4.out, s4.times⟩) := ⟨hfin, A8.out.2.2.1.trans hb4.chg, hr4⟩
                    clear hrel hb4 how h16 hlA hlg hop4 hr4 hll hlc hlb hKl hlt hr hfin
                    go_wp2_with (first
                      | (go_at_call 89; refine hsym.mono ?_; rintro e9 w9 ⟨rfl, hc9, hg9⟩)
                      | (go_at_call 58; refine (hop2 _ hc9).mono ?_; rintro e5 w5 ⟨rfl, rfl⟩))
                    first | (refine bodyPost_ret (results_none rfl _ _ _) rfl ?_) | go_end0
                    exact ⟨rfl, Left.of hc9 (AH.out.2.1.trans hg9) AH.out.2.2 (Or.inr AH.out.1)⟩
                  | bad j =>
                    have hfin : Fin (allb B) most L ⟨.bad 13, s4.pos + j, s4.out, s4.times⟩ (symS (.bad j) L s4) := Fin.bad (s := { s4 with pos := s4.pos + j }) 13 rfl rfl rfl hop4.2 (by decide) rfl
                    have hop2 : ∀ X, Ctx B base R a L C most X (symS (.bad j) L s4) vO vT → Calls Tryz.prog 58 #[.pointer (some ⟨R, 0, none⟩)] X fun e w' => e = .returned (.bool false) ∧ X = w' := fun X hX => hX.open_ false hfin.opn
                    have AH : Aside (Fin (allb B) most L ⟨.bad 13, s4.pos + j, s4.out, s4.times⟩ (symS (.bad j) L s4) ∧ Chg R vO vT vO vT w wr ∧ Runs (allb B) most c0 ⟨.bad 13, s4.pos + j, s4.out, s4.times⟩) := ⟨hfin, A8.out.2.2.1.trans hb4.chg, hr4.trans (Runs.one (by unfold step; simp only [hl', if_pos hlt, hr]))⟩
                    clear hrel hb4 how h16 hlA hlg hop4 hr4 hll hlc hlb hKl hlt hr hfin
                    go_wp2_with (first
                      | (go_at_call 89; refine hsym.mono ?_; rintro e9 w9 ⟨rfl, hc9, hg9⟩)
                      | (go_at_call 58; refine (hop2 _ hc9).mono ?_; rintro e5 w5 ⟨rfl, rfl⟩))
                    first | (refine bodyPost_ret (results_none rfl _ _ _) rfl ?_) | go_end0
                    exact ⟨rfl, Left.of hc9 (AH.out.2.1.trans hg9) AH.out.2.2 (Or.inr AH.out.1)⟩
                  | got x n =>
                    have hx19 : x < 19 := by
                      have q := sread_le (ls := first) (h := (allb B).drop s4.pos)
                      rw [hr] at q
                      have h1 := (List.getElem?_eq_some_iff.1 q.1).1
                      have := AG.out.2.2.2
                      omega
                    obtain ⟨s5, hs5⟩ : ∃ s5 : Rs, symS (.got x n) L s4 = s5 := ⟨_, rfl⟩
                    rw [hs5] at hsym
                    have hsym' : Calls Tryz.prog 89 #[.pointer (some ⟨R, 0, none⟩), .pointer (some ⟨T, 0, none⟩)] wr fun e w' => e = .returned (.int .i64 (x : Int)) ∧ Ctx B base R a L C most w' s5 vO vT ∧ Chg R vO vT vO vT wr w' := hsym
                    clear hsym
                    have hop5 : Opn s5 := by rw [← hs5]; exact hop4
                    have hop2 : ∀ X, Ctx B base R a L C most X s5 vO vT → Calls Tryz.prog 58 #[.pointer (some ⟨R, 0, none⟩)] X fun e w' => e = .returned (.bool true) ∧ X = w' := fun X hX => hX.open_ true hop5.opn
                    have hst : step (allb B) most ⟨.dsym last A D first l, s4.pos, s4.out, s4.times⟩ = some ⟨afterSym last A D first l x, s5.pos, s5.out, s5.times⟩ := by
                      rw [← hs5]
                      unfold step
                      simp only [hl', if_pos hlt, hr]
                      rfl
                    obtain ⟨m, z, s6, hrep, hm138, hz16, hcase⟩ := rep_c (B := B) (most := most) base R a L C vO vT hop5 x hx19 last A D first l la ll lc hl' (by omega) hlt h16
                    have AK : Aside (∀ X, Chg R vO vT vO vT wr X → Kept (fun u => Lens u la (iz l)) R vO vT X) := fun X hX => hKl.on hX
                    rcases hcase with ⟨hop6, hm1, hr6⟩ | ⟨c6, hr6, hf6⟩
                    · have hop3 : ∀ X, Ctx B base R a L C most X s6 vO vT → Calls Tryz.prog 58 #[.pointer (some ⟨R, 0, none⟩)] X fun e w' => e = .returned (.bool true) ∧ X = w' := fun X hX => hX.open_ true hop6.opn
                      by_cases hmany : A + D < ll + m
                      · have tm : (A : Int) + (D : Int) < (ll : Int) + (m : Int) := by omega
                        rw [if_pos hmany] at hr6
                        have hstp : ∀ X, Ctx B base R a L C most X s6 vO vT → Calls Tryz.prog 63 #[.pointer (some ⟨R, 0, none⟩), .int .i64 12] X fun e w' => e = .returned (.tuple #[]) ∧ Ctx B base R a L C most w' { s6 with why := 12, at_ := (s6.pos - 1) / 8 } vO vT ∧ Chg R vO vT vO vT X w' := fun X hX => hX.stop 12
                        have AH : Aside (Fin (allb B) most L ⟨.bad 12, s6.pos, s6.out, s6.times⟩ { s6 with why := 12, at_ := (s6.pos - 1) / 8 } ∧ Chg R vO vT vO vT w wr ∧ Runs (allb B) most c0 ⟨.bad 12, s6.pos, s6.out, s6.times⟩) := ⟨Fin.bad 12 rfl rfl rfl hop6.2 (by decide) rfl, A8.out.2.2.1.trans hb4.chg, (hr4.trans (Runs.one hst)).trans hr6⟩
                        clear hrel hb4 how h16 hlA hlg hop4 hr4 hll hlc hlb hKl hr hst hop5 hs5 hop6 hr6 hx19
                        go_wp2_with (first
                          | (go_at_call 89; refine hsym'.mono ?_; rintro e9 w9 ⟨rfl, hc9, hg9⟩)
                          | (go_at_call 58; (fail_if_success (have hh := hc10)); refine (hop2 _ hc9).mono ?_; rintro e5 w5 ⟨rfl, rfl⟩)
                          | (go_at_call 91; refine (hrep _ hc9 (AK.out _ hg9)).mono ?_; rintro e10 w10 ⟨rfl, hc10, hg10⟩)
                          | (go_at_call 58; refine (hop3 _ hc10).mono ?_; rintro e11 w11 ⟨rfl, rfl⟩)
                          | (go_at_call 63; refine (hstp _ hc10).mono ?_; rintro e12 w12 ⟨rfl, hc12, hg12⟩))
                        first | (refine bodyPost_ret (results_none rfl _ _ _) rfl ?_) | go_end0
                        exact ⟨rfl, Left.of hc12 (AH.out.2.1.trans (hg9.trans (hg10.trans hg12))) AH.out.2.2 (Or.inr AH.out.1)⟩
                      · have tm : ¬ ((A : Int) + (D : Int) < (ll : Int) + (m : Int)) := by omega
                        rw [if_neg hmany] at hr6
                        obtain ⟨G, hG⟩ : ∃ G, G = gk := ⟨_, rfl⟩
                        have AH : Aside (Beside B base R a L C most w8 wr s4 vO vT ∧ wr.ownsRow W2 3 1 (.slice la ll lc) ll (vt l) ∧ Runs (allb B) most c0 ⟨.dsym last A D first (l ++ List.replicate m z), s6.pos, s6.out, s6.times⟩ ∧ Opn s6 ∧ l.length = ll ∧ ll + m ≤ A + D ∧ A + D ≤ ll + gk ∧ 1 ≤ m ∧ (∀ x ∈ l, x < 16) ∧ z < 16 ∧ m ≤ 138 ∧ ll < A + D) := ⟨hb4, how, (hr4.trans (Runs.one hst)).trans hr6, hop6, hl', by omega, hlg, hm1, h16, hz16, hm138, hlt⟩
                        clear hrel hb4 how h16 hlA hlg hop4 hr4 hll hlc hlb hKl hr hst hop5 hs5 hop6 hr6 hx19 hmany hz16 hm138
                        go_upto_region 24 with (first
                          | (go_at_call 89; refine hsym'.mono ?_; rintro e9 w9 ⟨rfl, hc9, hg9⟩)
                          | (go_at_call 58; (fail_if_success (have hh := hc10)); refine (hop2 _ hc9).mono ?_; rintro e5 w5 ⟨rfl, rfl⟩)
                          | (go_at_call 91; refine (hrep _ hc9 (AK.out _ hg9)).mono ?_; rintro e10 w10 ⟨rfl, hc10, hg10⟩)
                          | (go_at_call 58; refine (hop3 _ hc10).mono ?_; rintro e11 w11 ⟨rfl, rfl⟩))
                        have A10 : Aside (Beside B base R a L C most w8 w10 s6 vO vT ∧ w10.ownsRow W2 3 1 (.slice la ll lc) ll (vt l)) := ⟨(AH.out.1.run hc9 hg9).run hc10 hg10, AH.out.1.own (hg9.trans hg10) (by rw [A8.out.2.2.2]; exact Nat.le_refl _) AH.out.2.1⟩
                        clear hc9 hg9 hc10 hg10 hsym' hop2 hop3 hrep AK
                        go_wp2_with fail
                        go_loopg [13, 17] m (fun g vl si wy => ∃ i : Nat, si = .int .i64 (i : Int) ∧ Aside (i + g = m ∧ Beside B base R a L C most w8 wy s6 vO vT ∧ wy.ownsRow W2 3 1 vl (ll + i) (vt (l ++ List.replicate i z))))
                        case atStart => exact ⟨0, rfl, by omega, A10.out.1, by simpa using A10.out.2⟩
                        case round =>
                          obtain ⟨i, rfl, hI⟩ := hrel
                          by_cases him : i < m
                          · have ti : (i : Int) < (m : Int) := by omega
                            have AV : Aside (i < m ∧ i + gk = m ∧ Beside B base R a L C most w8 wr s6 vO vT ∧ wr.ownsRow W2 3 1 u13 (ll + i) (vt (l ++ List.replicate i z)) ∧ W2 ≤ wr.heap.size ∧ m ≤ 138 ∧ ll ≤ 320) := ⟨him, hI.out.1, hI.out.2.1, hI.out.2.2, by rw [← A8.out.2.2.2]; exact hI.out.2.1.chg.size, AH.out.2.2.2.2.2.2.2.2.2.2.1, by have := AH.out.2.2.2.2.2.2.2.2.2.2.2; omega⟩
                            have hm9 : (m : Int) < 1000 := by have := AV.out; omega
                            clear hI him
                            obtain ⟨H, hH⟩ : ∃ H, wr.heap.size = H := ⟨_, rfl⟩
                            go_wp2_with (at_builtin; refine wpList_append_own _ rfl (.tmp 118) (.tmp 120) 74 rfl W2 3 i3 (.int .i64 0) 1 8 Tryz.underlying74 hi3 hz30 hz31 hz32 rfl (by decide) u13 (ll + i) (vt (l ++ List.replicate i z)) (by rfl) (own_alloc AV.out.2.2.2.1 _) ⟨H, 0, none⟩ 1 1 [.int .i64 (z : Int)] (by rfl) rfl (fun j u hu => by rw [add_off, Nat.zero_add, ← hH, (Cells.new wr #[.int .i64 (z : Int)] 3).cell]; simpa using hu) (by simp [Value.oneCell']) (by unfold maxLen; have := AV.out; omega) (by have := AV.out; omega) (by have := AV.out; have := size_al' wr (.cells #[.int .i64 (z : Int)] 3); omega) ?_; intro v11 w11 hown11 hgrow11 hnil11)
                            have A11 : Aside (w11.ownsRow W2 3 1 v11 (ll + (i + 1)) (vt (l ++ List.replicate (i + 1) z)) ∧ Beside B base R a L C most w8 w11 s6 vO vT) := by
                              have q := AV.out
                              refine ⟨by rw [List.replicate_succ', ← List.append_assoc, ← Nat.add_assoc]; simpa [vt] using hown11, ?_⟩
                              have h2 : Below W2 wr (wr.alloc (.cells #[.int .i64 (z : Int)] 3)) := (Below.refl _ wr).alloc q.2.2.2.2.1 _
                              have h3 : Below W2 wr w11 := h2.trans ((Below.refl _ _).grown hgrow11 (by have := size_al' wr (.cells #[.int .i64 (z : Int)] 3); omega) (fun g hg => (q.2.2.2.1.lt g hg).1))
                              exact q.2.2.1.new (by rw [A8.out.2.2.2]; exact h3)
                            clear hown11 hgrow11 hnil11 hH
                            go_roundg (m - (i + 1))
                            case measure => have := AV.out; omega
                            case rel => exact ⟨i + 1, by go_num, by have := AV.out; omega, A11.out.2, A11.out.1⟩
                          · have him2 : i = m := by have := hI.out.1; omega
                            subst him2
                            have ti : ¬ (i : Int) < (i : Int) := by omega
                            have AZ : Aside (Beside B base R a L C most w8 wr s6 vO vT ∧ wr.ownsRow W2 3 1 u13 (ll + i) (vt (l ++ List.replicate i z))) := hI.out.2
                            clear hI him
                            go_wp2_with fail
                            go_roundg (G - 1)
                            case measure => have := AH.out; omega
                            case rel =>
                              have q := AH.out
                              refine ⟨l ++ List.replicate i z, s6, AZ.out.1, ?_, ?_, ?_, ?_, q.2.2.2.1, q.2.2.1⟩
                              · have e : (l ++ List.replicate i z).length = ll + i := by rw [List.length_append, List.length_replicate, q.2.2.2.2.1]
                                rw [e]; exact AZ.out.2
                              · intro y hy
                                rcases List.mem_append.1 hy with h5 | h5
                                · exact q.2.2.2.2.2.2.2.2.1 y h5
                                · rw [List.eq_of_mem_replicate h5]; exact q.2.2.2.2.2.2.2.2.2.1
                              · rw [List.length_append, List.length_replicate]; omega
                              · rw [List.length_append, List.length_replicate]; omega
                    · have hop3 : ∀ X, Ctx B base R a L C most X s6 vO vT → Calls Tryz.prog 58 #[.pointer (some ⟨R, 0, none⟩)] X fun e w' => e = .returned (.bool false) ∧ X = w' := fun X hX => hX.open_ false hf6.opn
                      have AH : Aside (Fin (allb B) most L c6 s6 ∧ Chg R vO vT vO vT w wr ∧ Runs (allb B) most c0 c6) := ⟨hf6, A8.out.2.2.1.trans hb4.chg, (hr4.trans (Runs.one hst)).trans hr6⟩
                      clear hrel hb4 how h16 hlA hlg hop4 hr4 hll hlc hlb hKl hlt hr hst hop5 hs5 hf6 hr6 hx19
                      go_wp2_with (first
                        | (go_at_call 89; refine hsym'.mono ?_; rintro e9 w9 ⟨rfl, hc9, hg9⟩)
                        | (go_at_call 58; (fail_if_success (have hh := hc10)); refine (hop2 _ hc9).mono ?_; rintro e5 w5 ⟨rfl, rfl⟩)
                        | (go_at_call 91; refine (hrep _ hc9 (AK.out _ hg9)).mono ?_; rintro e10 w10 ⟨rfl, hc10, hg10⟩)
                        | (go_at_call 58; refine (hop3 _ hc10).mono ?_; rintro e11 w11 ⟨rfl, rfl⟩))
                      first | (refine bodyPost_ret (results_none rfl _ _ _) rfl ?_) | go_end0
                      exact ⟨rfl, Left.of hc10 (AH.out.2.1.trans (hg9.trans hg10)) AH.out.2.2 (Or.inr AH.out.1)⟩
                · have hlD : ll = A + D := by omega
                  have tl : ¬ ((ll : Int) < (A : Int) + (D : Int)) := by omega
                  obtain ⟨b, o, rfl, hcl⟩ : ∃ b o, la = some ⟨b, o, none⟩ ∧ ∀ (i : Nat) (y : Int), (iz l)[i]? = some y → wr.cell? ⟨b, o + i, none⟩ = some (.int .i64 y) := by
                    rcases hll with e | e
                    · have : l = [] := by unfold iz at e; simpa using e
                      rw [this] at hl'; simp at hl'; omega
                    · exact e
                  obtain ⟨y, hy⟩ : ∃ y, l.getD 256 0 = y := ⟨_, rfl⟩
                  have hy2 : (iz l)[256]? = some (y : Int) := by
                    unfold iz
                    rw [List.getElem?_map, ← hy, List.getD_eq_getElem?_getD, List.getElem?_eq_getElem (by omega)]
                    rfl
                  have hca : ∀ X, Chg R vO vT vO vT wr X → X.cell? ⟨b, o + 256, none⟩ = some (.int .i64 (y : Int)) := by
                    intro X hX
                    rcases hKl X vO vT hX with e | ⟨b', o', e, q⟩
                    · have : l = [] := by unfold iz at e; simpa using e
                      rw [this] at hl'; simp at hl'; omega
                    · cases e; exact q 256 y hy2
                  have hlt' : (l.take A).length = A := by rw [List.length_take]; omega
                  have hld' : (l.drop A).length = D := by rw [List.length_drop]; omega
                  have hn1 := hb4.now.new_ (some ⟨b, o, none⟩) (l.take A) A lc (hll.take A) hlt' (by omega)
                  have hn2 : ∀ X, Ctx B base R a L C most X s4 vO vT → Chg R vO vT vO vT wr X → Calls Tryz.prog 51 #[.slice (some ⟨b, o + A, none⟩) D (lc - A : Nat)] X fun e w' => ∃ (p : Value) (er : Nat), e = .returned (.tuple #[p, .int .i64 (er : Int)]) ∧ Ctx B base R a L C most w' s4 vO vT ∧ Below X.heap.size X w' ∧ ((mays (l.drop A) = true ∧ er = 0 ∧ ∃ T, p = .pointer (some ⟨T, 0, none⟩) ∧ Tab R vO vT w' T (l.drop A)) ∨ (mays (l.drop A) = false ∧ er ≠ 0)) := fun X hX hg => hX.new_ _ (l.drop A) D _ ((hKl X vO vT hg).drop A) hld' (by omega)
                  have hst : step (allb B) most ⟨.dsym last A D first l, s4.pos, s4.out, s4.times⟩ = some ⟨if y = 0 ∨ mays (l.take A) = false ∨ mays (l.drop A) = false then .bad 12 else .sym last (l.take A) (l.drop A), s4.pos, s4.out, s4.times⟩ := by
                    unfold step
                    simp only [hl', if_neg hlt, hy]
                  have hAl : (A : Int) ≤ (lc : Int) := by omega
                  have hAl2 : (A : Int) ≤ (ll : Int) := by omega
                  have h256l : (256 : Int) < (ll : Int) := by omega
                  have hdd : ll - A = D := by omega
                  have AH : Aside (Opn s4 ∧ Runs (allb B) most c0 ⟨.dsym last A D first l, s4.pos, s4.out, s4.times⟩ ∧ step (allb B) most ⟨.dsym last A D first l, s4.pos, s4.out, s4.times⟩ = some ⟨if y = 0 ∨ mays (l.take A) = false ∨ mays (l.drop A) = false then .bad 12 else .sym last (l.take A) (l.drop A), s4.pos, s4.out, s4.times⟩ ∧ Chg R vO vT vO vT w wr) := ⟨hop4, hr4, hst, A8.out.2.2.1.trans hb4.chg⟩
                  clear hrel hb4 how h16 hlA hlg hop4 hr4 hll hlb hKl hlt hst hcl hy hy2 hlt' hld' 
                  go_upto_region 28 with fail
                  go_upto_region 30 with (first
                    | (go_at_call 51; (fail_if_success (have hh := hc9)); refine hn1.mono ?_; rintro e9 w9 ⟨p1, er1, rfl, hc9, hb9, hcase9⟩)
                    | (go_at_call 51; refine (hn2 _ hc9 (Chg.of_below hb9)).mono ?_; rintro e10 w10 ⟨p2, er2, rfl, hc10, hb10, hcase10⟩))
                  have c256 := hca _ ((Chg.of_below hb9).trans (Chg.of_below hb10))
                  have A10 : Aside (Ctx B base R a L C most w10 s4 vO vT ∧ Chg R vO vT vO vT w w10 ∧ Chg R vO vT vO vT w9 w10) := ⟨hc10, AH.out.2.2.2.trans ((Chg.of_below hb9).trans (Chg.of_below hb10)), Chg.of_below hb10⟩
                  have hstp := hc10.stop 12
                  clear hc9 hb9 hc10 hb10 hn1 hn2 hca
                  have bad : y = 0 ∨ mays (l.take A) = false ∨ mays (l.drop A) = false → Aside (Runs (allb B) most c0 ⟨.bad 12, s4.pos, s4.out, s4.times⟩ ∧ Fin (allb B) most L ⟨.bad 12, s4.pos, s4.out, s4.times⟩ { s4 with why := 12, at_ := (s4.pos - 1) / 8 }) := by
                    intro hh
                    have q := AH.out
                    exact ⟨q.2.1.trans (Runs.one (by rw [q.2.2.1, if_pos hh])), Fin.bad 12 rfl rfl rfl q.1.2 (by decide) rfl⟩
                  by_cases hy0 : y = 0
                  · have ab := bad (Or.inl hy0)
                    subst hy0
                    clear bad hcase9 hcase10
                    go_wp2_with (go_at_call 63; refine hstp.mono ?_; rintro e12 w12 ⟨rfl, hc12, hg12⟩)
                    first | (refine bodyPost_ret (results_none rfl _ _ _) rfl ?_) | go_end0
                    exact ⟨rfl, Left.of hc12 (A10.out.2.1.trans hg12) ab.out.1 (Or.inr ab.out.2)⟩
                  have ty : ((y : Int) == 0) = false := beq_eq_false_iff_ne.2 (by omega)
                  rcases hcase9 with ⟨hm9, rfl, T1, rfl, tab9⟩ | ⟨hm9, he9⟩
                  · rcases hcase10 with ⟨hm10, rfl, T2, rfl, tab10⟩ | ⟨hm10, he10⟩
                    · have hsy := symbols_c A10.out.1 AH.out.1 T1 T2 (l.take A) (l.drop A) last (tab9.on A10.out.2.2) tab10
                      have AR : Aside (Runs (allb B) most c0 ⟨.sym last (l.take A) (l.drop A), s4.pos, s4.out, s4.times⟩) := by
                        have q := AH.out
                        exact q.2.1.trans (Runs.one (by rw [q.2.2.1, if_neg (by rw [hm9, hm10]; rintro (e | e | e); exact hy0 e; cases e; cases e)]))
                      clear bad tab9 tab10 hm9 hm10 hstp hy0
                      go_wp2_with (go_at_call 61; refine hsy.mono ?_; rintro e12 w12 ⟨rfl, hleft⟩)
                      first | (refine bodyPost_ret (results_none rfl _ _ _) rfl ?_) | go_end0
                      obtain ⟨s7, vO7, vT7, c7, q1, q2, q3, q4⟩ := hleft
                      exact ⟨rfl, Left.of q1 (A10.out.2.1.trans q2) (AR.out.trans q3) q4⟩
                    · have ab := bad (Or.inr (Or.inr hm10))
                      have te : ((er2 : Int) == 0) = false := beq_eq_false_iff_ne.2 (by omega)
                      clear bad tab9 hm9 hm10 he10 hy0
                      go_wp2_with (go_at_call 63; refine hstp.mono ?_; rintro e12 w12 ⟨rfl, hc12, hg12⟩)
                      first | (refine bodyPost_ret (results_none rfl _ _ _) rfl ?_) | go_end0
                      exact ⟨rfl, Left.of hc12 (A10.out.2.1.trans hg12) ab.out.1 (Or.inr ab.out.2)⟩
                  · have ab := bad (Or.inr (Or.inl hm9))
                    have te : ((er1 : Int) == 0) = false := beq_eq_false_iff_ne.2 (by omega)
                    clear bad hcase10 hm9 he9 hy0
                    go_wp2_with (go_at_call 63; refine hstp.mono ?_; rintro e12 w12 ⟨rfl, hc12, hg12⟩)
                    first | (refine bodyPost_ret (results_none rfl _ _ _) rfl ?_) | go_end0
                    exact ⟨rfl, Left.of hc12 (A10.out.2.1.trans hg12) ab.out.1 (Or.inr ab.out.2)⟩
            · rw [if_neg hfull] at hst
              have hst2 := hb1.now.stop 12
              have tF : ((kr first : Int) == 32768) = false := beq_eq_false_iff_ne.2 (by omega)
              have AG : Aside (Left B base R a L C most vO vT w wr c0 (.head last) ∨ True) := Or.inr trivial
              have AH : Aside (Runs (allb B) most c0 ⟨.bad 12, s1.pos, s1.out, s1.times⟩ ∧ Fin (allb B) most L ⟨.bad 12, s1.pos, s1.out, s1.times⟩ { s1 with why := 12, at_ := (s1.pos - 1) / 8 } ∧ Chg R vO vT vO vT w wr) := ⟨hr1.trans (Runs.one hst), Fin.bad 12 rfl rfl rfl hop1.2 (by decide) rfl, A6.out.2.2.2.2.2.trans hb1.chg⟩
              clear hI hb1 ho1 hf1 hfl hf8 hiK hr1 hop1 hc1 hig hik hst hlf hfull A6 AF AG
              go_wp2_with (first
                | (go_at_call 58; refine hop.mono ?_; rintro e2 w2 ⟨rfl, rfl⟩)
                | (go_at_call 79; refine hkr.mono ?_; rintro e7 w7 ⟨rfl, rfl⟩)
                | (go_at_call 63; refine hst2.mono ?_; rintro e8 w8 ⟨rfl, hc8, hg8⟩))
              first | (refine bodyPost_ret (results_none rfl _ _ _) rfl ?_) | go_end0
              exact ⟨rfl, Left.of hc8 (AH.out.2.2.trans hg8) AH.out.1 (Or.inr AH.out.2.1)⟩
        · have hop := hb1.now.open_ false hfin.opn
          have AH : Aside (Left B base R a L C most vO vT w wr c0 (.head last)) := Left.of hb1.now (A6.out.2.2.2.2.2.trans hb1.chg) hr1 (Or.inr hfin)
          clear hI hb1 ho1 hf1 hfl hf8 hiK hr1 hfin A6 AF
          by_cases hik : i < K
          · have ti : (i : Int) < (K : Int) := by omega
            go_wp2_with (first
              | (go_at_call 58; refine hop.mono ?_; rintro e2 w2 ⟨rfl, rfl⟩))
            first | (refine bodyPost_ret (results_none rfl _ _ _) rfl ?_) | go_end0
            exact ⟨rfl, AH.out⟩
          · have ti : ¬ (i : Int) < (K : Int) := by omega
            go_wp2_with (first
              | (go_at_call 58; refine hop.mono ?_; rintro e2 w2 ⟨rfl, rfl⟩))
            first | (refine bodyPost_ret (results_none rfl _ _ _) rfl ?_) | go_end0
            exact ⟨rfl, AH.out⟩
/-- What the document's Of comes to. -/
theorem of_all {w : World} {L C : Nat} {a : Option Addr} {B : List Nat} (n : Int) (hn : n ≤ 1048576) (hB : Lies w a B) (hL : B.length = L) (hLb : L < 140737488355328) (ho : Oct B) :
    Calls Tryz.prog 37 #[.slice a L C, .int .i64 n] w fun e w' => OfTo B a L C n.toNat w e w' := of_c n hn hB hL hLb ho fun R w s vO vT last h ho => dynamic_c h ho last
end Go.Proofs.YtogednaamndpgaaGreatDoor

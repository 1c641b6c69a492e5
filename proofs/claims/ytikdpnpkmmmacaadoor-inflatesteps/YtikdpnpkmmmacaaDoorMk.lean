/-
  Own texts of this seat, one behind the other: what each says stands ahead of it.
-/
import Derived.Test.YtikdpnpkmmmacaaDoorMj
import Derived.Deep.RegionHeld3
/-
  What the document's repeated comes to: how often a length is said.
-/
namespace Go.Proofs.YtikdpnpkmmmacaaDoor
open Go.RowKit
set_option linter.unusedVariables false
variable {w u : World} {base R L C most : Nat} {a : Option Addr} {s : Rs} {vO vT : Value} {B : List Nat}
set_option maxRecDepth 100000 in
set_option maxHeartbeats 4000000 in
theorem rep_len (h : Ctx B base R a L C most w s vO vT) (x : Nat) (hx : x < 16) (la : Option Addr) (ll lc : Nat) : Calls Tryd.prog 49 #[.pointer (some ⟨R, 0, none⟩), .int .i64 (x : Int), .slice la ll lc] w fun e w' => e = .returned (.tuple #[.int .i64 1, .int .i64 (x : Int)]) ∧ w = w' := by
  have t1 : ((x : Int) == 16) = false := beq_eq_false_iff_ne.2 (by omega)
  have t2 : ((x : Int) == 17) = false := beq_eq_false_iff_ne.2 (by omega)
  have t3 : ((x : Int) == 18) = false := beq_eq_false_iff_ne.2 (by omega)
  clear h
  go_enter Tryd.func49, Tryd.ntmps49
  go_wp2_with fail
  first | go_ret | go_ret2
  exact ⟨rfl, rfl⟩
set_option maxRecDepth 100000 in
set_option maxHeartbeats 4000000 in
theorem rep_first (h : Ctx B base R a L C most w s vO vT) (la : Option Addr) (lc : Nat) : Calls Tryd.prog 49 #[.pointer (some ⟨R, 0, none⟩), .int .i64 16, .slice la 0 lc] w fun e w' => e = .returned (.tuple #[.int .i64 0, .int .i64 0]) ∧ Ctx B base R a L C most w' { s with why := 12, at_ := (s.pos - 1) / 8 } vO vT ∧ Chg R vO vT vO vT w w' := by
  have hst := h.stop 12
  clear h
  go_enter Tryd.func49, Tryd.ntmps49
  go_wp2_with (go_at_call 29; refine hst.mono ?_; rintro e2 w2 ⟨rfl, hc2, hg2⟩)
  first | go_ret | go_ret2
  exact ⟨rfl, hc2, hg2⟩
set_option maxRecDepth 100000 in
set_option maxHeartbeats 4000000 in
theorem rep_nought (h : Ctx B base R a L C most w s vO vT) (x : Nat) (hx : x = 17 ∨ x = 18) (la : Option Addr) (ll lc : Nat) (v : Nat) (s' : Rs) (hv : (num? (allb B) s.pos (if x = 17 then 3 else 7) = some v ∧ s' = { s with pos := s.pos + (if x = 17 then 3 else 7) }) ∨ (num? (allb B) s.pos (if x = 17 then 3 else 7) = none ∧ v = 0 ∧ s' = { s with why := 1, at_ := L })) :
    Calls Tryd.prog 49 #[.pointer (some ⟨R, 0, none⟩), .int .i64 (x : Int), .slice la ll lc] w fun e w' => e = .returned (.tuple #[.int .i64 (((if x = 18 then 11 else 3) + v : Nat) : Int), .int .i64 0]) ∧ Ctx B base R a L C most w' s' vO vT ∧ Chg R vO vT vO vT w w' := by
  rcases hx with rfl | rfl
  · have hn : Calls Tryd.prog 23 #[.pointer (some ⟨R, 0, none⟩), .int .i64 3] w fun e w' => e = .returned (.int .i64 (v : Int)) ∧ Ctx B base R a L C most w' s' vO vT ∧ Chg R vO vT vO vT w w' := by
      rcases hv with ⟨h1, h2⟩ | ⟨h1, h2, h3⟩
      · rw [h2]; exact h.number_some 3 v (by omega) h1
      · rw [h3, h2]; exact h.number_none 3 (by omega) h1
    have hvb : v < 8 := by
      rcases hv with ⟨h1, _⟩ | ⟨_, h2, _⟩
      · exact numb_lt h1
      · omega
    clear h hv
    go_enter Tryd.func49, Tryd.ntmps49
    go_wp2_with (go_at_call 23; refine hn.mono ?_; rintro e2 w2 ⟨rfl, hc2, hg2⟩)
    first | go_ret | go_ret2
    exact ⟨by simp, hc2, hg2⟩
  · have hn : Calls Tryd.prog 23 #[.pointer (some ⟨R, 0, none⟩), .int .i64 7] w fun e w' => e = .returned (.int .i64 (v : Int)) ∧ Ctx B base R a L C most w' s' vO vT ∧ Chg R vO vT vO vT w w' := by
      rcases hv with ⟨h1, h2⟩ | ⟨h1, h2, h3⟩
      · rw [h2]; exact h.number_some 7 v (by omega) h1
      · rw [h3, h2]; exact h.number_none 7 (by omega) h1
    have hvb : v < 128 := by
      rcases hv with ⟨h1, _⟩ | ⟨_, h2, _⟩
      · exact numb_lt h1
      · omega
    clear h hv
    go_enter Tryd.func49, Tryd.ntmps49
    go_wp2_with (go_at_call 23; refine hn.mono ?_; rintro e2 w2 ⟨rfl, hc2, hg2⟩)
    first | go_ret | go_ret2
    exact ⟨by simp, hc2, hg2⟩
set_option maxRecDepth 100000 in
set_option maxHeartbeats 4000000 in
theorem rep_again (h : Ctx B base R a L C most w s vO vT) (la : Option Addr) (l : List Nat) (ll lc : Nat) (hll : l.length = ll) (hl0 : 0 < ll) (hlb : ll ≤ 1000) (hl : Kept (fun u => Lens u la (iz l)) R vO vT w) (z : Nat) (hz : l.getD (ll - 1) 0 = z) (v : Nat) (s' : Rs) (hv : (num? (allb B) s.pos 2 = some v ∧ s' = { s with pos := s.pos + 2 }) ∨ (num? (allb B) s.pos 2 = none ∧ v = 0 ∧ s' = { s with why := 1, at_ := L })) :
    Calls Tryd.prog 49 #[.pointer (some ⟨R, 0, none⟩), .int .i64 16, .slice la ll lc] w fun e w' => e = .returned (.tuple #[.int .i64 ((3 + v : Nat) : Int), .int .i64 (z : Int)]) ∧ Ctx B base R a L C most w' s' vO vT ∧ Chg R vO vT vO vT w w' := by
  have hn : Calls Tryd.prog 23 #[.pointer (some ⟨R, 0, none⟩), .int .i64 2] w.drew fun e w' => e = .returned (.int .i64 (v : Int)) ∧ Ctx B base R a L C most w' s' vO vT ∧ Chg R vO vT vO vT w.drew w' := by
    rcases hv with ⟨h1, h2⟩ | ⟨h1, h2, h3⟩
    · rw [h2]; exact h.drew.number_some 2 v (by omega) h1
    · rw [h3, h2]; exact h.drew.number_none 2 (by omega) h1
  have hvb : v < 4 := by
    rcases hv with ⟨h1, _⟩ | ⟨_, h2, _⟩
    · exact numb_lt h1
    · omega
  have hge : l[ll - 1]? = some z := by rw [← hz, List.getD_eq_getElem?_getD, List.getElem?_eq_getElem (by omega)]; rfl
  have hcell : ∀ u vO' vT', Chg R vO vT vO' vT' w u → ∀ b o, la = some ⟨b, o, none⟩ → u.cell? ⟨b, o + (ll - 1), none⟩ = some (.int .i64 (z : Int)) := by
    intro u vO' vT' hu b o hla
    rcases hl u vO' vT' hu with e | ⟨b', o', hla', hc⟩
    · have : l = [] := by unfold iz at e; simpa using e
      rw [this] at hll; simp at hll; omega
    · rw [hla] at hla'; cases hla'
      exact hc (ll - 1) z (by unfold iz; rw [List.getElem?_map, hge]; rfl)
  obtain ⟨b0, o0, rfl⟩ : ∃ b0 o0, la = some ⟨b0, o0, none⟩ := by
    rcases hl.now with e | ⟨b', o', hla', hc⟩
    · have : l = [] := by unfold iz at e; simpa using e
      rw [this] at hll; simp at hll; omega
    · exact ⟨b', o', hla'⟩
  obtain ⟨q, hq⟩ : ∃ q, ll - 1 = q := ⟨_, rfl⟩
  rw [hq] at hcell
  have c0 := hcell w vO vT (Chg.refl _ _ _ _) b0 o0 rfl
  have hc2' : Aside (∀ u, Chg R vO vT vO vT w.drew u → u.cell? ⟨b0, o0 + q, none⟩ = some (.int .i64 (z : Int))) := fun u hu => hcell u vO vT ((Chg.drawn ⟨1, rfl⟩).trans hu) b0 o0 rfl
  have hwr : ∀ x : Int, x = (ll : Int) - 1 → IntKind.i64.wrap x = (q : Int) := by intro x hx; rw [IntKind.wrap_i64, hx]; omega
  have hwr2 : ∀ x : Int, x = 3 + (v : Int) → IntKind.i64.wrap x = 3 + (v : Int) := by intro x hx; rw [IntKind.wrap_i64, hx]; omega
  have hqI : (q : Int) < (ll : Int) := by omega
  have tl0 : ((ll : Int) == 0) = false := beq_eq_false_iff_ne.2 (by omega)
  clear h hv hl hz hge hcell hll hl0 hq
  go_enter Tryd.func49, Tryd.ntmps49
  go_upto_region 6 with fail
  go_region_held3 (fun w' => w'.cell? ⟨b0, o0 + q, none⟩ = some (.int .i64 (z : Int))) (first | assumption | exact hc2'.out _ hg2)
    (first | (go_at_call 23; refine hn.mono ?_; rintro e2 w2 ⟨rfl, hc2, hg2⟩))
  all_goals
    have A2 : Aside (Ctx B base R a L C most w2 s' vO vT ∧ Chg R vO vT vO vT w w2) := ⟨hc2, (Chg.drawn ⟨1, rfl⟩).trans hg2⟩
    clear hc2 hg2 hc2' hn
    go_wp2_with fail
    first | go_ret | go_ret2
    exact ⟨by simp, A2.out.1, A2.out.2⟩
end Go.Proofs.YtikdpnpkmmmacaaDoor

/-
  The document's New within a run, and what its Of comes to, told by the machine's steps; of dynamic blocks by a contract that is handed in.
-/
namespace Go.Proofs.YtikdpnpkmmmacaaDoor
open Go.RowKit
set_option linter.unusedVariables false
theorem iz_len (l : List Nat) : (iz l).length = l.length := by simp [iz]
theorem okl_iz {l : List Nat} : Okl (iz l) ↔ l.length ≤ 320 ∧ ∀ x ∈ l, x ≤ 15 := by
  unfold Okl
  rw [iz_len]
  constructor
  · rintro ⟨h1, h2⟩
    exact ⟨h1, fun x hx => by have := h2 (x : Int) (List.mem_map.2 ⟨x, hx, rfl⟩); omega⟩
  · rintro ⟨h1, h2⟩
    refine ⟨h1, fun z hz => ?_⟩
    obtain ⟨x, hx, rfl⟩ := List.mem_map.1 hz
    have := h2 x hx
    constructor
    · show (0 : Int) ≤ (x : Int); omega
    · show (x : Int) ≤ 15; omega
theorem mays_iff {l : List Nat} : mays l = true ↔ nerr (iz l) = 0 := by
  unfold mays nerr
  rw [lens_iz, decide_eq_true_iff]
  constructor
  · rintro ⟨h1, h2, h3, h4⟩
    rw [if_neg (by rw [Decidable.not_not]; exact okl_iz.2 ⟨h1, h2⟩), if_neg (by omega), if_neg h4]
  · intro h
    split at h
    · omega
    · rename_i h1
      split at h
      · omega
      · rename_i h2
        split at h
        · omega
        · rename_i h3
          have := okl_iz.1 (Decidable.not_not.1 h1)
          exact ⟨this.1, this.2, by omega, h3⟩
variable {w u : World} {base R L C most : Nat} {a : Option Addr} {s : Rs} {vO vT : Value} {B : List Nat}
/-- What is new stays, whatever the run does. -/
theorem Ctx.away (h : Ctx B base R a L C most w s vO vT) {w' : World} (hb : Below w.heap.size w w') {u : World} {vO' vT' : Value} (k : Chg R vO vT vO' vT' w' u) {i : Nat} (h1 : w.heap.size ≤ i) (h2 : i < w'.heap.size) : u.heap[i]? = w'.heap[i]? :=
  k.block i h2 (by have := h.run.lt; omega) (fun e => by have := (h.run.oo.lt i e.symm).2; omega) (fun e => by have := (h.run.ot.lt i e.symm).2; omega)
theorem Ctx.grow (h : Ctx B base R a L C most w s vO vT) {w' : World} (hb : Below w.heap.size w w') : Ctx B base R a L C most w' s vO vT := h.on (h.run.below hb) (Chg.of_below hb) h.pos h.og
theorem Ctx.table (h : Ctx B base R a L C most w s vO vT) (la : Option Addr) (l : List Nat) (ll lc : Nat) (hl : Lens w la (iz l)) (hll : l.length = ll) (hm : mays l = true) :
    Calls Tryd.prog 26 #[.slice la ll lc] w fun e w' => ∃ T, e = .returned (.tuple #[.pointer (some ⟨T, 0, none⟩), .int .i64 0]) ∧ Ctx B base R a L C most w' s vO vT ∧ Below w.heap.size w w' ∧ Tab R vO vT w' T l := by
  have he := mays_iff.1 hm
  obtain ⟨h1, h2, h3⟩ := nerr_ok he
  refine (rnew_rest la (iz l) ll lc w hl (by rw [iz_len]; exact hll) h1 h2).mono fun e w' hh => ?_
  rcases hh with ⟨h4, _⟩ | ⟨_, T, h5, h6, h7, h8⟩
  · exact absurd h4 h3
  · rw [lens_iz] at h6 h8 h2
    have ho := okl_iz.1 h1
    exact ⟨T, h5, h.grow h7, h7, ⟨fun u x y hu => h8 u fun k hk1 hk2 => h.away h7 hu hk1 hk2, ho.1, by rw [← kr_part ho.2]; exact h2, ho.2⟩⟩
theorem notable (la : Option Addr) (l : List Nat) (ll lc : Nat) (w : World) (hl : Lens w la (iz l)) (hll : l.length = ll) (hb : ll < 140737488355328) (hm : mays l = false) :
    ∃ er : Nat, er ≠ 0 ∧ Calls Tryd.prog 26 #[.slice la ll lc] w fun e w' => e = .returned (.tuple #[.pointer none, .int .i64 (er : Int)]) ∧ w = w' := by
  have hne : nerr (iz l) ≠ 0 := fun e => by rw [mays_iff.2 e] at hm; cases hm
  by_cases ho : Okl (iz l)
  · by_cases h2 : 32768 < kr (lens (iz l))
    · exact ⟨80, by decide, rnew_over la (iz l) ll lc w hl (by rw [iz_len]; exact hll) hb ho h2⟩
    · have hu : Under (lens (iz l)) := by
        apply Decidable.byContradiction
        intro h3
        apply hne
        unfold nerr
        rw [if_neg (by rw [Decidable.not_not]; exact ho), if_neg h2, if_neg h3]
      refine ⟨81, by decide, (rnew_rest la (iz l) ll lc w hl (by rw [iz_len]; exact hll) ho (by omega)).mono fun e w' hh => ?_⟩
      rcases hh with ⟨_, h4⟩ | ⟨h4, _⟩
      · exact h4
      · exact absurd hu h4
  · exact ⟨2, by decide, rnew_arg la (iz l) ll lc w hl (by rw [iz_len]; exact hll) hb ho⟩
theorem fixD_len : fixD.length = 32 := by simp [fixD]
theorem mays_fixL : mays fixL = true := by decide +kernel
theorem mays_fixD : mays fixD = true := by decide +kernel
/-- What comes behind a block's head. -/
def kindSt (kd : Nat) (lb : Bool) : St := match kd with
  | 0 => .slen lb
  | 1 => .sym lb fixL fixD
  | 2 => .dnum lb
  | _ => .bad 10
/-- What is asked of dynamic blocks. -/
def DynOk (B : List Nat) (base R : Nat) (a : Option Addr) (L C most : Nat) : Prop := ∀ (w : World) (s : Rs) (vO vT : Value) (last : Bool), Ctx B base R a L C most w s vO vT → Opn s →
  Calls Tryd.prog 28 #[.pointer (some ⟨R, 0, none⟩)] w fun e w' => e = .returned (.tuple #[]) ∧ Left B base R a L C most vO vT w w' ⟨.dnum last, s.pos, s.out, s.times⟩ (.head last)
/-- The machine has come to c, and it is over, or more bytes are wanted: so the run knows it. -/
def Endc (bs : List Bool) (most L : Nat) (c : Cfg) (s : Rs) : Prop := Fin bs most L c s ∨ (c.st = .done ∧ s.ended = true ∧ s.why = 0 ∧ s.at_ = (c.pos - 1) / 8 ∧ s.out = c.out ∧ s.times = c.times)
def OfTo (B : List Nat) (a : Option Addr) (L C : Nat) (most : Nat) (w : World) (e : Ending) (w' : World) : Prop :=
  ∃ R s vO vT c, e = .returned (.pointer (some ⟨R, 0, none⟩)) ∧ Rn w' w.heap.size R a L C most s vO vT ∧ Below w.heap.size w w' ∧ Runs (allb B) most ⟨.head false, 0, [], []⟩ c ∧ Endc (allb B) most L c s
set_option maxRecDepth 100000 in
set_option maxHeartbeats 8000000 in
theorem of_c (n : Int) (hn : n ≤ 1048576) (hB : Lies w a B) (hL : B.length = L) (hLb : L < 140737488355328) (ho : Oct B) (hdyn : ∀ R, DynOk B w.heap.size R a L C n.toNat) :
    Calls Tryd.prog 10 #[.slice a L C, .int .i64 n] w fun e w' => OfTo B a L C n.toNat w e w' := by
  obtain ⟨M, hM⟩ : ∃ M, n.toNat = M := ⟨_, rfl⟩
  rw [hM] at hdyn ⊢
  obtain ⟨W, hW⟩ : ∃ W, w.heap.size = W := ⟨_, rfl⟩
  obtain ⟨w1, hw1⟩ : ∃ w1, w1 = w.alloc (.cells #[.slice a L C, .int .i64 (M : Int), .slice none 0 0, .slice none 0 0, .int .i64 0, .int .i64 0, .bool false, .int .i64 0, .bool false] 31) := ⟨_, rfl⟩
  have b1 : Below w.heap.size w w1 := by rw [hw1]; exact (Below.refl _ w).alloc (Nat.le_refl _) _
  have k1 : Cells w1 W #[.slice a L C, .int .i64 (M : Int), .slice none 0 0, .slice none 0 0, .int .i64 0, .int .i64 0, .bool false, .int .i64 0, .bool false] 31 := by rw [hw1, ← hW]; exact Cells.new w _ 31
  have hc1 : Ctx B W W a L C M w1 ⟨0, [], [], 0, 0, false⟩ (.slice none 0 0) (.slice none 0 0) := by
    refine ⟨⟨⟨false, k1⟩, World.ownsRow_nil _ _ _ _, World.ownsRow_nil _ _ _ _, Nat.le_refl _, rfl⟩, fun u x y hu => ?_, hL, hLb, ho, by show 0 ≤ _; omega, by omega, by rw [← hW]; exact b1.size, fun y hy => by cases hy⟩
    have hb : Below w.heap.size w u := b1.trans ⟨hu.os, hu.tape, hu.output, hu.size, fun k hk => hu.block k (Nat.lt_of_lt_of_le hk b1.size) (by omega) (by intro e; cases e) (by intro e; cases e)⟩
    exact hB.below hb
  have A1 : Aside (Ctx B W W a L C M w1 ⟨0, [], [], 0, 0, false⟩ (.slice none 0 0) (.slice none 0 0) ∧ Below w.heap.size w w1 ∧ w.heap.size = W ∧ DynOk B W W a L C M) := ⟨hc1, b1, hW, by rw [← hW]; exact hdyn _⟩
  clear hB hL hLb ho b1 k1 hc1 hdyn
  have hmax : (if n < 0 then (0 : Int) else n) = (M : Int) := by split <;> omega
  have hmax2 : (if (0 : Int) < n then n else 0) = (M : Int) := by split <;> omega
  have hmax3 : max n 0 = (M : Int) := by omega
  go_enter Tryd.func10, Tryd.ntmps10
  go_upto_region 2 with fail
  rw [← hw1]
  clear hw1 hmax hmax2 hmax3 hM hn
  have AE : Aside (∀ (wr : World) (s1 : Rs) (vO1 vT1 : Value) (c1 : Cfg), Rn wr W W a L C M s1 vO1 vT1 → Chg W (.slice none 0 0) (.slice none 0 0) vO1 vT1 w1 wr → Runs (allb B) M ⟨.head false, 0, [], []⟩ c1 → Endc (allb B) M L c1 s1 → OfTo B a L C M w (.returned (.pointer (some ⟨W, 0, none⟩))) wr) := by
    intro wr s1 vO1 vT1 c1 h1 h2 h3 h4
    have q := A1.out
    have hb : Below W w1 wr := h2.below q.1.run q.1.base_
    refine ⟨W, s1, vO1, vT1, c1, rfl, by rw [q.2.2.1]; exact h1, ?_, h3, h4⟩
    exact q.2.1.trans (by rw [q.2.2.1]; exact hb)
  clear hW
  go_wp2_with fail
  go_loopg [6] (8 * L + 2) (fun g sl wr => ∃ last : Bool, sl = .bool last ∧ Aside (∃ s1 vO1 vT1 c1, Ctx B W W a L C M wr s1 vO1 vT1 ∧ Chg W (.slice none 0 0) (.slice none 0 0) vO1 vT1 w1 wr ∧ Runs (allb B) M ⟨.head false, 0, [], []⟩ c1 ∧ ((Opn s1 ∧ c1 = ⟨.head last, s1.pos, s1.out, s1.times⟩ ∧ 8 * L + 2 ≤ s1.pos + g) ∨ Fin (allb B) M L c1 s1)))
  case atStart => exact ⟨false, rfl, ⟨0, [], [], 0, 0, false⟩, _, _, _, A1.out.1, Chg.refl _ _ _ _, Runs.refl _, Or.inl ⟨⟨rfl, rfl⟩, rfl, by omega⟩⟩
  case round =>
    obtain ⟨last, rfl, hrel2⟩ := hrel
    obtain ⟨s1, vO1, vT1, c1, hc1, hg1, hr1, hcase⟩ := hrel2.out
    rcases hcase with ⟨ho1, he1, hm1⟩ | hfin
    · have hop := hc1.open_ true ho1.opn
      cases last with
      | true =>
        have hr2 : Runs (allb B) M ⟨.head false, 0, [], []⟩ ⟨.done, s1.pos, s1.out, s1.times⟩ := hr1.trans (Runs.one (by rw [he1]; rfl))
        have c6 := hc1.run.c6
        have f6 := hc1.run.fz 6
        obtain ⟨f, hcc⟩ := hc1.run.cells
        have k6 := hcc.set 6 (.bool true)
        have c57 : (wr.setCell ⟨W, 6, none⟩ (.bool true)).cell? ⟨W, 7, none⟩ = some (.int .i64 (s1.pos : Int)) := by rw [k6.cell]; rfl
        have c55 : (wr.setCell ⟨W, 6, none⟩ (.bool true)).cell? ⟨W, 5, none⟩ = some (.int .i64 (s1.at_ : Int)) := by rw [k6.cell]; rfl
        have f55 := k6.frozen 5
        obtain ⟨p, hp⟩ : ∃ p, s1.pos = p := ⟨_, rfl⟩
        have hpb : (p : Int) < 9000000000000000000 := by have := hc1.pos; have := hc1.lb; omega
        rw [hp] at c57
        have k7 := k6.set 5 (.int .i64 (((p - 1) / 8 : Nat) : Int))
        have o7 : Only W wr ((wr.setCell ⟨W, 6, none⟩ (.bool true)).setCell ⟨W, 5, none⟩ (.int .i64 (((p - 1) / 8 : Nat) : Int))) := ((Only.refl W wr).setCell _ _).setCell _ _
        have hrn : Rn ((wr.setCell ⟨W, 6, none⟩ (.bool true)).setCell ⟨W, 5, none⟩ (.int .i64 (((p - 1) / 8 : Nat) : Int))) W W a L C M { s1 with ended := true, at_ := (p - 1) / 8 } vO1 vT1 := hc1.run.only o7 ⟨f, k7⟩ rfl rfl
        have AR : Aside (OfTo B a L C M w (.returned (.pointer (some ⟨W, 0, none⟩))) ((wr.setCell ⟨W, 6, none⟩ (.bool true)).setCell ⟨W, 5, none⟩ (.int .i64 (((p - 1) / 8 : Nat) : Int)))) := AE.out _ _ _ _ _ hrn (hg1.trans (Chg.of_only o7)) hr2 (Or.inr ⟨rfl, rfl, ho1.1, by rw [hp], rfl, rfl⟩)
        clear hrel2 hc1 hg1 hr1 ho1 he1 hm1 hr2 hcc k6 k7 o7 hrn hp
        go_wp2_with (go_at_call 22; refine hop.mono ?_; rintro e2 w2 ⟨rfl, rfl⟩)
        rw [tdiv8]
        first | go_ret | go_ret2
        exact AR.out
      | false =>
        cases hnum : num? (allb B) s1.pos 3 with
        | none =>
          have hno := hc1.number_none 3 (by omega) hnum
          have hfin : Fin (allb B) M L c1 { s1 with why := 1, at_ := L } := by
            rw [he1]
            exact Fin.cut (by unfold step; simp only [hnum]; rfl) rfl rfl ho1.2 (by intro y e; cases e) (by intro e; cases e)
          have hop2 : ∀ X, Ctx B W W a L C M X { s1 with why := 1, at_ := L } vO1 vT1 → Calls Tryd.prog 22 #[.pointer (some ⟨W, 0, none⟩)] X fun e w' => e = .returned (.bool false) ∧ X = w' := fun X hX => hX.open_ false hfin.opn
          have AF : Aside (Fin (allb B) M L c1 { s1 with why := 1, at_ := L } ∧ Chg W (.slice none 0 0) (.slice none 0 0) vO1 vT1 w1 wr ∧ Runs (allb B) M ⟨.head false, 0, [], []⟩ c1) := ⟨hfin, hg1, hr1⟩
          clear hrel2 hc1 hg1 hr1 ho1 he1 hm1 hfin hnum
          go_wp2_with (first
            | (go_at_call 22; (fail_if_success (have hh := hg3)); refine hop.mono ?_; rintro e2 w2 ⟨rfl, rfl⟩)
            | (go_at_call 23; refine hno.mono ?_; rintro e3 w3 ⟨rfl, hc3, hg3⟩)
            | (go_at_call 22; refine (hop2 _ hc3).mono ?_; rintro e4 w4 ⟨rfl, rfl⟩))
          first | go_ret | go_ret2
          exact AE.out _ _ _ _ _ hc3.run (AF.out.2.1.trans hg3) AF.out.2.2 (Or.inl AF.out.1)
        | some v =>
          have hyes := hc1.number_some 3 v (by omega) hnum
          have hv8 : v < 8 := numb_lt hnum
          obtain ⟨s2, hs2⟩ : ∃ s2 : Rs, { s1 with pos := s1.pos + 3 } = s2 := ⟨_, rfl⟩
          rw [hs2] at hyes
          have ho2 : Opn s2 := by rw [← hs2]; exact ho1
          obtain ⟨lb, hlb⟩ : ∃ lb, (v % 2 == 1) = lb := ⟨_, rfl⟩
          obtain ⟨kd, hkd⟩ : ∃ kd, v / 2 = kd := ⟨_, rfl⟩
          have hst : Runs (allb B) M ⟨.head false, 0, [], []⟩ ⟨kindSt kd lb, s2.pos, s2.out, s2.times⟩ := by
            refine hr1.trans (Runs.one ?_)
            rw [he1, ← hs2, ← hkd, ← hlb]
            unfold step
            simp only [hnum]
            rfl
          have hop2 : ∀ X, Ctx B W W a L C M X s2 vO1 vT1 → Calls Tryd.prog 22 #[.pointer (some ⟨W, 0, none⟩)] X fun e w' => e = .returned (.bool true) ∧ X = w' := fun X hX => hX.open_ true ho2.opn
          have hlbI : ((v : Int) % 2 == 1) = lb := by
            rw [← hlb]
            have h2 : v % 2 = 0 ∨ v % 2 = 1 := by omega
            have e : (v : Int) % 2 = ((v % 2 : Nat) : Int) := by omega
            rw [e]
            rcases h2 with h | h <;> rw [h] <;> rfl
          have hkdI : (v : Int) / 2 = (kd : Int) := by omega
          have hkd4 : kd < 4 := by omega
          have A2 : Aside (Chg W (.slice none 0 0) (.slice none 0 0) vO1 vT1 w1 wr ∧ Opn s2 ∧ 8 * L + 5 ≤ s2.pos + gk ∧ 2 ≤ gk ∧ Runs (allb B) M ⟨.head false, 0, [], []⟩ ⟨kindSt kd lb, s2.pos, s2.out, s2.times⟩) := ⟨hg1, ho2, by rw [← hs2]; show 8 * L + 5 ≤ s1.pos + 3 + gk; omega, by have := hc1.pos; omega, hst⟩
          have hvI : (v : Int) < 8 := by omega
          clear hrel2 hc1 hg1 hr1 ho1 he1 hm1 hnum hs2 ho2 hlb hkd hst hv8
          go_upto_region 14 with (first
            | (go_at_call 22; (fail_if_success (have hh := hg3)); refine hop.mono ?_; rintro e2 w2 ⟨rfl, rfl⟩)
            | (go_at_call 23; refine hyes.mono ?_; rintro e3 w3 ⟨rfl, hc3, hg3⟩)
            | (go_at_call 22; refine (hop2 _ hc3).mono ?_; rintro e4 w4 ⟨rfl, rfl⟩))
          have A3 : Aside (Ctx B W W a L C M w3 s2 vO1 vT1 ∧ Chg W (.slice none 0 0) (.slice none 0 0) vO1 vT1 w1 w3 ∧ Opn s2 ∧ 8 * L + 5 ≤ s2.pos + gk ∧ 2 ≤ gk) := ⟨hc3, A2.out.1.trans hg3, A2.out.2.1, A2.out.2.2.1, A2.out.2.2.2.1⟩
          have AK : Aside (Runs (allb B) M ⟨.head false, 0, [], []⟩ ⟨kindSt kd lb, s2.pos, s2.out, s2.times⟩) := A2.out.2.2.2.2
          clear hc3 hg3 A2 hop hop2 hyes hlbI hkdI hvI
          match kd, hkd4 with
          | 0, _ =>
            have hsto := stored_c A3.out.1 A3.out.2.2.1 lb
            have AF : Aside (Runs (allb B) M ⟨.head false, 0, [], []⟩ ⟨.slen lb, s2.pos, s2.out, s2.times⟩) := AK.out
            clear AK
            go_wp2_with (go_at_call 24; refine hsto.mono ?_; rintro e5 w5 ⟨rfl, hleft⟩)
            have A6 : Aside (∃ s1 vO1 vT1 c1, Ctx B W W a L C M w5 s1 vO1 vT1 ∧ Chg W (.slice none 0 0) (.slice none 0 0) vO1 vT1 w1 w5 ∧ Runs (allb B) M ⟨.head false, 0, [], []⟩ c1 ∧ ((Opn s1 ∧ c1 = ⟨.head lb, s1.pos, s1.out, s1.times⟩ ∧ 8 * L + 2 ≤ s1.pos + (gk - 1)) ∨ Fin (allb B) M L c1 s1)) := by
              obtain ⟨s5, vO5, vT5, c5, q1, q2, q3, q4⟩ := hleft
              refine ⟨s5, vO5, vT5, c5, q1, A3.out.2.1.trans q2, AF.out.trans q3, ?_⟩
              rcases q4 with ⟨k1, k2⟩ | k1
              · refine Or.inl ⟨k1, k2, ?_⟩
                have := q3.pos
                rw [k2] at this
                have h5 : s2.pos ≤ s5.pos := this
                have := A3.out
                omega
              · exact Or.inr k1
            clear hsto hleft
            go_roundg (gk - 1)
            case measure => have := A3.out; omega
            case rel => exact ⟨lb, rfl, A6.out⟩
          | 1, _ =>
            have AF : Aside (Runs (allb B) M ⟨.head false, 0, [], []⟩ ⟨.sym lb fixL fixD, s2.pos, s2.out, s2.times⟩) := AK.out
            clear AK
            have hfx := fixed_c w3
            go_upto_region 18 with (go_at_call 25; refine hfx.mono ?_; rintro e5 w5 ⟨la, lc, da, dc, rfl, hll, hdl, hb5⟩)
            have hc5 := A3.out.1.grow hb5
            have t1 := hc5.table la fixL 288 lc hll fixL_len mays_fixL
            go_wp2_with (first
              | (go_at_call 26; (fail_if_success (have hh := hc6)); refine t1.mono ?_; rintro e6 w6 ⟨T, rfl, hc6, hb6, tab6⟩)
              | (go_at_call 26; refine (hc6.table da fixD 32 dc (hdl.below hb6) fixD_len mays_fixD).mono ?_; rintro e7 w7 ⟨D, rfl, hc7, hb7, tab7⟩)
              | (go_at_call 27; refine (symbols_c hc7 A3.out.2.2.1 T D fixL fixD lb (tab6.on (Chg.of_below hb7)) tab7).mono ?_; rintro e8 w8 ⟨rfl, hleft⟩))
            have A6 : Aside (∃ s1 vO1 vT1 c1, Ctx B W W a L C M w8 s1 vO1 vT1 ∧ Chg W (.slice none 0 0) (.slice none 0 0) vO1 vT1 w1 w8 ∧ Runs (allb B) M ⟨.head false, 0, [], []⟩ c1 ∧ ((Opn s1 ∧ c1 = ⟨.head lb, s1.pos, s1.out, s1.times⟩ ∧ 8 * L + 2 ≤ s1.pos + (gk - 1)) ∨ Fin (allb B) M L c1 s1)) := by
              obtain ⟨s5, vO5, vT5, c5, q1, q2, q3, q4⟩ := hleft
              refine ⟨s5, vO5, vT5, c5, q1, (A3.out.2.1.trans (Chg.of_below hb5)).trans ((Chg.of_below hb6).trans ((Chg.of_below hb7).trans q2)), AF.out.trans q3, ?_⟩
              rcases q4 with ⟨k1, k2⟩ | k1
              · refine Or.inl ⟨k1, k2, ?_⟩
                have := q3.pos
                rw [k2] at this
                have h5 : s2.pos ≤ s5.pos := this
                have := A3.out
                omega
              · exact Or.inr k1
            clear hfx hleft t1 hc5 hc6 hc7 hb5 hb6 hb7 tab6 tab7 hll hdl
            go_roundg (gk - 1)
            case measure => have := A3.out; omega
            case rel => exact ⟨lb, rfl, A6.out⟩
          | 2, _ =>
            have hdy := A1.out.2.2.2 w3 s2 vO1 vT1 lb A3.out.1 A3.out.2.2.1
            have AF : Aside (Runs (allb B) M ⟨.head false, 0, [], []⟩ ⟨.dnum lb, s2.pos, s2.out, s2.times⟩) := AK.out
            clear AK
            go_wp2_with (go_at_call 28; refine hdy.mono ?_; rintro e5 w5 ⟨rfl, hleft⟩)
            have A6 : Aside (∃ s1 vO1 vT1 c1, Ctx B W W a L C M w5 s1 vO1 vT1 ∧ Chg W (.slice none 0 0) (.slice none 0 0) vO1 vT1 w1 w5 ∧ Runs (allb B) M ⟨.head false, 0, [], []⟩ c1 ∧ ((Opn s1 ∧ c1 = ⟨.head lb, s1.pos, s1.out, s1.times⟩ ∧ 8 * L + 2 ≤ s1.pos + (gk - 1)) ∨ Fin (allb B) M L c1 s1)) := by
              obtain ⟨s5, vO5, vT5, c5, q1, q2, q3, q4⟩ := hleft
              refine ⟨s5, vO5, vT5, c5, q1, A3.out.2.1.trans q2, AF.out.trans q3, ?_⟩
              rcases q4 with ⟨k1, k2⟩ | k1
              · refine Or.inl ⟨k1, k2, ?_⟩
                have := q3.pos
                rw [k2] at this
                have h5 : s2.pos ≤ s5.pos := this
                have := A3.out
                omega
              · exact Or.inr k1
            clear hdy hleft
            go_roundg (gk - 1)
            case measure => have := A3.out; omega
            case rel => exact ⟨lb, rfl, A6.out⟩
          | 3, _ =>
            have hst := A3.out.1.stop 10
            have AF : Aside (Runs (allb B) M ⟨.head false, 0, [], []⟩ ⟨.bad 10, s2.pos, s2.out, s2.times⟩) := AK.out
            clear AK
            go_wp2_with (go_at_call 29; refine hst.mono ?_; rintro e5 w5 ⟨rfl, hc5, hg5⟩)
            have A6 : Aside (∃ s1 vO1 vT1 c1, Ctx B W W a L C M w5 s1 vO1 vT1 ∧ Chg W (.slice none 0 0) (.slice none 0 0) vO1 vT1 w1 w5 ∧ Runs (allb B) M ⟨.head false, 0, [], []⟩ c1 ∧ ((Opn s1 ∧ c1 = ⟨.head lb, s1.pos, s1.out, s1.times⟩ ∧ 8 * L + 2 ≤ s1.pos + (gk - 1)) ∨ Fin (allb B) M L c1 s1)) := ⟨_, vO1, vT1, _, hc5, A3.out.2.1.trans hg5, AF.out, Or.inr (Fin.bad 10 rfl rfl rfl A3.out.2.2.1.2 (by decide) rfl)⟩
            clear hst hc5 hg5
            go_roundg (gk - 1)
            case measure => have := A3.out; omega
            case rel => exact ⟨lb, rfl, A6.out⟩
    · have hop := hc1.open_ false hfin.opn
      have AR : Aside (OfTo B a L C M w (.returned (.pointer (some ⟨W, 0, none⟩))) wr) := AE.out _ _ _ _ _ hc1.run hg1 hr1 (Or.inl hfin)
      clear hrel2 hc1 hg1 hr1 hfin
      go_wp2_with (go_at_call 22; refine hop.mono ?_; rintro e3 w3 ⟨rfl, rfl⟩)
      first | go_ret | go_ret2
      exact AR.out
end Go.Proofs.YtikdpnpkmmmacaaDoor

/-
  What is done beside a run that once stood whole: the run's own memory stays, and so does what is done.
-/
namespace Go.Proofs.YtikdpnpkmmmacaaDoor
open Go.RowKit
set_option linter.unusedVariables false
theorem own_at {w u : World} {base e size n : Nat} {v : Value} {xs : List Value} (h : w.ownsRow base e size v n xs) (hk : ∀ g, v.ownBlock = some g → u.heap[g]? = w.heap[g]?) : u.ownsRow base e size v n xs := by
  refine ⟨h.1, ?_⟩
  rcases h.2 with hn | ⟨g, cap, cur, rfl, hb, hgg, rest⟩
  · exact .inl hn
  · exact .inr ⟨g, cap, cur, rfl, hb, by rw [hk g rfl]; exact hgg, rest⟩
/-- The run stood whole at w1; since then it read on, and new memory was worked on. -/
structure Beside (B : List Nat) (base R : Nat) (a : Option Addr) (L C most : Nat) (w1 w : World) (s : Rs) (vO vT : Value) : Prop where
  at1 : ∃ s1, Ctx B base R a L C most w1 s1 vO vT
  now : Ctx B base R a L C most w s vO vT
  chg : Chg R vO vT vO vT w1 w
variable {w1 w u : World} {base R L C most : Nat} {a : Option Addr} {s : Rs} {vO vT : Value} {B : List Nat}
theorem Ctx.beside (h : Ctx B base R a L C most w s vO vT) : Beside B base R a L C most w w s vO vT := ⟨⟨s, h⟩, h, Chg.refl _ _ _ _⟩
theorem Beside.run (h : Beside B base R a L C most w1 w s vO vT) {s' : Rs} (k : Ctx B base R a L C most u s' vO vT) (g : Chg R vO vT vO vT w u) : Beside B base R a L C most w1 u s' vO vT := ⟨h.at1, k, h.chg.trans g⟩
theorem Beside.rlt (h : Beside B base R a L C most w1 w s vO vT) : R < w1.heap.size := by obtain ⟨s1, k⟩ := h.at1; exact k.run.lt
theorem Beside.olt (h : Beside B base R a L C most w1 w s vO vT) (g : Nat) (hg : vO.ownBlock = some g) : g < w1.heap.size := by obtain ⟨s1, k⟩ := h.at1; exact (k.run.oo.lt g hg).2
theorem Beside.tlt (h : Beside B base R a L C most w1 w s vO vT) (g : Nat) (hg : vT.ownBlock = some g) : g < w1.heap.size := by obtain ⟨s1, k⟩ := h.at1; exact (k.run.ot.lt g hg).2
theorem Beside.new (h : Beside B base R a L C most w1 w s vO vT) (k : Below w1.heap.size w u) : Beside B base R a L C most w1 u s vO vT := by
  have hc : Chg R vO vT vO vT w1 u := ⟨k.os.trans h.chg.os, k.tape.trans h.chg.tape, k.output.trans h.chg.output, Nat.le_trans h.chg.size k.size, fun i hi h1 h2 h3 => (k.block i hi).trans (h.chg.block i hi h1 h2 h3), fun _ h => Or.inl h, fun _ h => Or.inl h⟩
  have hr : Rn u base R a L C most s vO vT := by
    have r := h.now.run
    obtain ⟨f, hcl⟩ := r.cells
    exact ⟨⟨f, hcl.below k h.rlt⟩, own_at r.oo (fun g hg => k.block g (h.olt g hg)), own_at r.ot (fun g hg => k.block g (h.tlt g hg)), r.rb, r.tl⟩
  refine ⟨h.at1, ?_, hc⟩
  obtain ⟨s1, k1⟩ := h.at1
  exact k1.on hr hc h.now.pos h.now.og
/-- What is new stays while the run reads on. -/
theorem Beside.stay (h : Beside B base R a L C most w1 w s vO vT) {vO' vT' : Value} (g : Chg R vO vT vO' vT' w u) {k : Nat} (h1 : w1.heap.size ≤ k) (h2 : k < w.heap.size) : u.heap[k]? = w.heap[k]? :=
  g.block k h2 (by have := h.rlt; omega) (fun e => by have := h.olt k e.symm; omega) (fun e => by have := h.tlt k e.symm; omega)
theorem Beside.cells (h : Beside B base R a L C most w1 w s vO vT) {vO' vT' : Value} (g : Chg R vO vT vO' vT' w u) {k : Nat} {cs : Array Value} {t : TypeId} (h1 : w1.heap.size ≤ k) (hc : Cells w k cs t) : Cells u k cs t := (h.stay g h1 hc.lt).trans hc
theorem Beside.own (h : Beside B base R a L C most w1 w s vO vT) {vO' vT' : Value} (g : Chg R vO vT vO' vT' w u) {b e size n : Nat} {v : Value} {xs : List Value} (h1 : w1.heap.size ≤ b) (ho : w.ownsRow b e size v n xs) : u.ownsRow b e size v n xs :=
  own_at ho fun k hk => by have := ho.lt k hk; exact h.stay g (by omega) this.2
end Go.Proofs.YtikdpnpkmmmacaaDoor

/-
  What repeated comes to behind a symbol of the lengths' code, told by the machine's steps; New within a run, whichever way it goes.
-/
namespace Go.Proofs.YtikdpnpkmmmacaaDoor
open Go.RowKit
set_option linter.unusedVariables false
variable {w1 w u : World} {base R L C most : Nat} {a : Option Addr} {s : Rs} {vO vT : Value} {B : List Nat}
/-- What comes behind a symbol of the lengths' code. -/
def afterSym (last : Bool) (A D : Nat) (code l : List Nat) (x : Nat) : St := if x < 16 then .dsym last A D code (l ++ [x]) else if x = 16 ∧ l = [] then .bad 12 else .drep last A D code l x
theorem rep_c (base R : Nat) (a : Option Addr) (L C : Nat) (vO vT : Value) (ho : Opn s) (x : Nat) (hx : x < 19) (last : Bool) (A D : Nat) (code l : List Nat) (la : Option Addr) (ll lc : Nat) (hll : l.length = ll) (hlb : ll ≤ 1000) (hlt : ll < A + D) (h16 : ∀ y ∈ l, y < 16) :
    ∃ (n z : Nat) (s5 : Rs), (∀ X, Ctx B base R a L C most X s vO vT → Kept (fun u => Lens u la (iz l)) R vO vT X → Calls Tryd.prog 49 #[.pointer (some ⟨R, 0, none⟩), .int .i64 (x : Int), .slice la ll lc] X fun e w' => e = .returned (.tuple #[.int .i64 (n : Int), .int .i64 (z : Int)]) ∧ Ctx B base R a L C most w' s5 vO vT ∧ Chg R vO vT vO vT X w') ∧ n ≤ 138 ∧ z < 16 ∧
      ((Opn s5 ∧ 1 ≤ n ∧ Runs (allb B) most ⟨afterSym last A D code l x, s.pos, s.out, s.times⟩ ⟨if A + D < ll + n then .bad 12 else .dsym last A D code (l ++ List.replicate n z), s5.pos, s5.out, s5.times⟩) ∨ ∃ c', Runs (allb B) most ⟨afterSym last A D code l x, s.pos, s.out, s.times⟩ c' ∧ Fin (allb B) most L c' s5) := by
  by_cases h1 : x < 16
  · refine ⟨1, x, s, fun X hX hk => (rep_len hX x h1 la ll lc).mono fun e w' ⟨q1, q2⟩ => ⟨q1, by rw [← q2]; exact hX, by rw [← q2]; exact Chg.refl _ _ _ _⟩, by omega, h1, Or.inl ⟨ho, by omega, ?_⟩⟩
    unfold afterSym
    rw [if_pos h1, if_neg (by omega)]
    exact Runs.refl _
  · by_cases h2 : x = 16 ∧ l = []
    · obtain ⟨rfl, rfl⟩ := h2
      have : ll = 0 := by rw [← hll]; rfl
      subst this
      refine ⟨0, 0, _, fun X hX hk => rep_first hX la lc, by omega, by omega, Or.inr ⟨_, Runs.refl _, ?_⟩⟩
      exact Fin.bad 12 rfl rfl rfl ho.2 (by decide) rfl
    · have e0 : afterSym last A D code l x = .drep last A D code l x := by unfold afterSym; rw [if_neg h1, if_neg h2]
      rw [e0]
      by_cases h3 : x = 16
      · subst h3
        have hl0 : 0 < ll := by
          rw [← hll]
          apply List.length_pos_iff.2
          intro e; exact h2 ⟨rfl, e⟩
        have hz16 : l.getD (ll - 1) 0 < 16 := by
          rw [List.getD_eq_getElem?_getD, List.getElem?_eq_getElem (by omega)]
          exact h16 _ (List.getElem_mem _)
        cases hn : num? (allb B) s.pos 2 with
        | none =>
          refine ⟨3 + 0, _, _, fun X hX hk => rep_again hX la l ll lc hll hl0 hlb hk _ rfl 0 _ (Or.inr ⟨hn, rfl, rfl⟩), by omega, hz16, Or.inr ⟨_, Runs.refl _, ?_⟩⟩
          exact Fin.cut (by unfold step; simp only [if_true, hn]; rfl) rfl rfl ho.2 (by intro y e; cases e) (by intro e; cases e)
        | some v =>
          have hv : v < 4 := numb_lt hn
          refine ⟨3 + v, _, _, fun X hX hk => rep_again hX la l ll lc hll hl0 hlb hk _ rfl v _ (Or.inl ⟨hn, rfl⟩), by omega, hz16, Or.inl ⟨ho, by omega, Runs.one ?_⟩⟩
          unfold step
          simp only [if_true, hn]
          rw [← hll]
          rfl
      · have hx78 : x = 17 ∨ x = 18 := by omega
        have hw : (if x = 16 then 2 else if x = 17 then 3 else 7) = (if x = 17 then 3 else 7) := if_neg h3
        cases hn : num? (allb B) s.pos (if x = 17 then 3 else 7) with
        | none =>
          refine ⟨_, 0, _, fun X hX hk => rep_nought hX x hx78 la ll lc 0 _ (Or.inr ⟨hn, rfl, rfl⟩), by split <;> omega, by omega, Or.inr ⟨_, Runs.refl _, ?_⟩⟩
          exact Fin.cut (by unfold step; simp only [hw, hn]; rfl) rfl rfl ho.2 (by intro y e; cases e) (by intro e; cases e)
        | some v =>
          have hv : v < 2 ^ (if x = 17 then 3 else 7) := numb_lt hn
          have hn3 : (if x = 18 then 11 else 3) + v ≤ 138 := by
            rcases hx78 with rfl | rfl
            · have hv' : v < 8 := hv
              show 3 + v ≤ 138; omega
            · have hv' : v < 128 := hv
              show 11 + v ≤ 138; omega
          refine ⟨_, 0, _, fun X hX hk => rep_nought hX x hx78 la ll lc v _ (Or.inl ⟨hn, rfl⟩), hn3, by omega, Or.inl ⟨ho, by split <;> omega, Runs.one ?_⟩⟩
          unfold step
          simp only [hw, hn, if_neg h3]
          rw [← hll]
          rfl
/-- New within a run. -/
theorem Ctx.new_ (h : Ctx B base R a L C most w s vO vT) (la : Option Addr) (l : List Nat) (ll lc : Nat) (hl : Lens w la (iz l)) (hll : l.length = ll) (hb : ll < 140737488355328) :
    Calls Tryd.prog 26 #[.slice la ll lc] w fun e w' => ∃ (p : Value) (er : Nat), e = .returned (.tuple #[p, .int .i64 (er : Int)]) ∧ Ctx B base R a L C most w' s vO vT ∧ Below w.heap.size w w' ∧ ((mays l = true ∧ er = 0 ∧ ∃ T, p = .pointer (some ⟨T, 0, none⟩) ∧ Tab R vO vT w' T l) ∨ (mays l = false ∧ er ≠ 0)) := by
  cases hm : mays l with
  | true => exact (h.table la l ll lc hl hll hm).mono fun e w' ⟨T, q1, q2, q3, q4⟩ => ⟨_, 0, q1, q2, q3, Or.inl ⟨rfl, rfl, T, rfl, q4⟩⟩
  | false =>
    obtain ⟨er, q0, q⟩ := notable la l ll lc w hl hll hb hm
    exact q.mono fun e w' ⟨q1, q2⟩ => ⟨_, er, q1, by rw [← q2]; exact h, by rw [← q2]; exact Below.refl _ _, Or.inr ⟨rfl, q0⟩⟩
theorem Lens.take {w : World} {la : Option Addr} {l : List Nat} (h : Lens w la (iz l)) (A : Nat) : Lens w la (iz (l.take A)) := by
  rcases h with h | ⟨b, o, ha, hc⟩
  · left
    have : l = [] := by unfold iz at h; simpa using h
    rw [this]; simp [iz]
  · refine Or.inr ⟨b, o, ha, fun i z hz => hc i z ?_⟩
    unfold iz at hz ⊢
    rw [List.map_take, List.getElem?_take] at hz
    split at hz
    · exact hz
    · cases hz
theorem Lens.drop {w : World} {b o : Nat} {l : List Nat} (h : Lens w (some ⟨b, o, none⟩) (iz l)) (A : Nat) : Lens w (some ⟨b, o + A, none⟩) (iz (l.drop A)) := by
  rcases h with h | ⟨b', o', ha, hc⟩
  · left
    have : l = [] := by unfold iz at h; simpa using h
    rw [this]; simp [iz]
  · cases ha
    refine Or.inr ⟨b, o + A, rfl, fun i z hz => ?_⟩
    unfold iz at hz
    rw [List.map_drop, List.getElem?_drop] at hz
    rw [Nat.add_assoc]
    exact hc (A + i) z hz
/-- A whole code of lengths of lengths. -/
theorem mays_full {l : List Nat} (h1 : l.length = 19) (h2 : ∀ x ∈ l, x < 8) (h3 : kr l = 32768) : mays l = true := by
  unfold mays
  refine decide_eq_true ⟨by omega, fun x hx => by have := h2 x hx; omega, by omega, ?_⟩
  unfold Under
  omega
/-- The lengths lie, whatever the run does. -/
theorem Beside.lens {la : Option Addr} {ll lc b : Nat} {l : List Nat} (h : Beside B base R a L C most w1 w s vO vT) (hb : w1.heap.size ≤ b) (ho : w.ownsRow b 3 1 (.slice la ll lc) ll (vt l)) (hll : l.length = ll) : Kept (fun u => Lens u la (iz l)) R vO vT w := by
  intro u x y g
  have ho2 := h.own g hb ho
  obtain ⟨a', c', e, q, _⟩ := own_lens ho2 hll
  cases e
  exact q
theorem cells_lens {F : Nat} {l : List Nat} (h : Cells w F (vt l).toArray 3) : Lens w (some ⟨F, 0, none⟩) (iz l) := by
  refine Or.inr ⟨F, 0, rfl, fun i z hz => ?_⟩
  rw [Nat.zero_add, h.cell]
  unfold iz at hz
  rw [List.getElem?_map] at hz
  cases e : l[i]? with
  | none => rw [e] at hz; cases hz
  | some x =>
    rw [e] at hz
    have hz' : (x : Int) = z := by simpa using hz
    rw [← hz']
    simp [vt, e]
end Go.Proofs.YtikdpnpkmmmacaaDoor

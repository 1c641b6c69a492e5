/-
  What Whole comes to.
-/
import Derived.Test.YtmlkdpoignimaaaFds
namespace Go.Proofs.Ytmlkdpoignimaaa
open Go.RowKit
set_option linter.unusedVariables false
/-- A list of fields in memory. -/
def FL (w : World) (v : Value) (T : List Fd) : Prop := ∃ a c, v = .slice a T.length c ∧ (T = [] ∨ ∃ g o, a = some ⟨g, o, none⟩ ∧ ∀ (i : Nat) (f : Fd), T[i]? = some f → w.cell? ⟨g, o + i * 2, none⟩ = some (.string (st f.1)) ∧ w.cell? ⟨g, o + i * 2 + 1, none⟩ = some (.string (st f.2)))
theorem FL.below {w u : World} {v : Value} {T : List Fd} (h : FL w v T) (k : Below w.heap.size w u) : FL u v T := by
  obtain ⟨a, c, hv, hq⟩ := h
  refine ⟨a, c, hv, ?_⟩
  rcases hq with e | ⟨g, o, ha, hx⟩
  · exact Or.inl e
  · refine Or.inr ⟨g, o, ha, fun i f hf => ?_⟩
    obtain ⟨h1, h2⟩ := hx i f hf
    exact ⟨(k.cell (p := ⟨g, o + i * 2, none⟩) (World.block_lt_of_cell? w _ h1)).trans h1, (k.cell (p := ⟨g, o + i * 2 + 1, none⟩) (World.block_lt_of_cell? w _ h2)).trans h2⟩
theorem FL.drewN {w : World} {v : Value} {T : List Fd} (h : FL w v T) (n : Nat) : FL (w.drewN n) v T := h
theorem FL.nil (w : World) : FL w (.slice none 0 0) [] := ⟨none, 0, rfl, Or.inl rfl⟩
theorem FL.cells {w : World} {G : Nat} {T : List Fd} (h : Cells w G (fc T).toArray 43) (c : Nat) : FL w (.slice (some ⟨G, 0, none⟩) T.length c) T :=
  ⟨_, c, rfl, Or.inr ⟨G, 0, rfl, fun i f hf => by
    rw [Nat.zero_add, h.cell, h.cell]
    have := fc_get hf
    exact ⟨by simpa using this.1, by simpa using this.2⟩⟩⟩
/-- A reader that is over: its fields, why it was stopped. -/
def Rx (w : World) (lo B most : Nat) (F : List Fd) (y : Nat) : Prop := (y = 0 ∧ Rn w lo B most F) ∨ (y ≠ 0 ∧ F = [] ∧ Rs w lo B most y)
section
variable {w u : World} {lo B most k y : Nat} {F : List Fd} {c : List Nat}
theorem Rx.rm (h : Rx w lo B most F y) : ∃ k vl l bg vm M dn, Rm w lo B most k vl l bg vm M dn y ∧ (dn || y != 0) = true ∧ dn = (y == 0) := by
  rcases h with ⟨rfl, h⟩ | ⟨h0, rfl, h⟩
  · obtain ⟨k, vl, vm, bg, r⟩ := h.ex
    exact ⟨k, vl, _, bg, vm, _, true, r, rfl, rfl⟩
  · obtain ⟨k, vl, vm, r⟩ := h.ex
    exact ⟨k, vl, _, _, vm, _, false, r, by simpa using h0, by simpa using h0⟩
theorem Rx.lt (h : Rx w lo B most F y) : B < w.heap.size := by
  obtain ⟨k, vl, l, bg, vm, M, dn, r, _⟩ := h.rm
  exact r.lt
theorem Rx.le (h : Rx w lo B most F y) : lo ≤ w.heap.size := by
  obtain ⟨k, vl, l, bg, vm, M, dn, r, _⟩ := h.rm
  exact r.lines.le
theorem Rx.drewN (h : Rx w lo B most F y) (n : Nat) : Rx (w.drewN n) lo B most F y := by
  rcases h with ⟨e, h⟩ | ⟨h0, e, h⟩
  · obtain ⟨k, vl, vm, bg, r⟩ := h.ex
    exact Or.inl ⟨e, ⟨k, vl, vm, bg, r.drewN n⟩, h.mb, h.lk, h.f64, h.oct⟩
  · obtain ⟨k, vl, vm, r⟩ := h.ex
    exact Or.inr ⟨h0, e, ⟨k, vl, vm, r.drewN n⟩, h.mb, h.ny⟩
theorem Rx.below (h : Rx w lo B most F y) (b : Below w.heap.size w u) : Rx u lo B most F y := by
  rcases h with ⟨e, h⟩ | ⟨h0, e, h⟩
  · obtain ⟨k, vl, vm, bg, r⟩ := h.ex
    exact Or.inl ⟨e, ⟨k, vl, vm, bg, r.below b⟩, h.mb, h.lk, h.f64, h.oct⟩
  · obtain ⟨k, vl, vm, r⟩ := h.ex
    exact Or.inr ⟨h0, e, ⟨k, vl, vm, r.below b⟩, h.mb, h.ny⟩
theorem over_x (h : Rx w lo B most F y) : Calls Try.prog 26 #[.pointer (some ⟨B, 0, none⟩)] w fun e w' => e = .returned (.bool true) ∧ w' = w := by
  obtain ⟨k, vl, l, bg, vm, M, dn, r, hs, _⟩ := h.rm
  have := over_c r
  rw [hs] at this
  exact this
theorem end_x (h : Rx w lo B most F y) : Calls Try.prog 17 #[.pointer (some ⟨B, 0, none⟩)] w fun e w' => e = .returned (.int .i64 (y : Int)) ∧ w' = w := by
  obtain ⟨k, vl, l, bg, vm, M, dn, r, hs, _⟩ := h.rm
  exact end_shut r hs
theorem put_x (x : Nat) (h : Rx w lo B most F y) : Calls Try.prog 14 #[.pointer (some ⟨B, 0, none⟩), .int .u8 (x : Int)] w fun e w' => e = .returned (.tuple #[.bool (y == 0), .int .i64 (y : Int)]) ∧ ∃ n, w' = w.drewN n := by
  obtain ⟨k, vl, l, bg, vm, M, dn, r, hs, hd⟩ := h.rm
  rw [← hd]
  exact put_shut x r hs
/-- What Fields answers, whatever the reader is: new memory. -/
def FxTo (w : World) (T : List Fd) (e : Ending) (w' : World) : Prop := ∃ v, e = .returned v ∧ FL w' v T ∧ (T = [] ∨ ∃ G, v = .slice (some ⟨G, 0, none⟩) T.length T.length ∧ Cells w' G (fc T).toArray 43 ∧ w.heap.size ≤ G) ∧ Below w.heap.size w w'
theorem told_length (F : List Fd) : (told F).length = F.length := by simp [told]
theorem fields_x (h : Rx w lo B most F y) : Calls Try.prog 16 #[.pointer (some ⟨B, 0, none⟩)] w fun e w' => FxTo w (told F) e w' := by
  rcases h with ⟨_, h⟩ | ⟨_, rfl, h⟩
  · refine (fields_c h).mono ?_
    rintro e w' ⟨G, rfl, hG, hle, hb⟩
    have := FL.cells hG (told F).length
    rw [told_length] at this
    exact ⟨_, rfl, this, Or.inr ⟨G, by rw [told_length], hG, hle⟩, hb⟩
  · obtain ⟨k, vl, vm, r⟩ := h.ex
    refine (fields_no r).mono ?_
    rintro e w' ⟨rfl, rfl⟩
    exact ⟨_, rfl, FL.nil _, Or.inl rfl, Below.refl _ _⟩
theorem fields_g (h : Rg w lo B most k F c) : Calls Try.prog 16 #[.pointer (some ⟨B, 0, none⟩)] w fun e w' => e = .returned (.slice none 0 0) ∧ w' = w := by
  obtain ⟨vl, vm, r⟩ := h.ex
  exact fields_no r
theorem end_g (h : Rg w lo B most k F c) : Calls Try.prog 17 #[.pointer (some ⟨B, 0, none⟩)] w fun e w' => e = .returned (.int .i64 ((fin F c).1 : Nat)) ∧ Rx w' lo B most (fin F c).2 (fin F c).1 ∧ Chg lo w w' := by
  refine (end_go h).mono ?_
  rintro e w' ⟨he, h1, h2, h3⟩
  refine ⟨he, ?_, h3⟩
  by_cases e0 : (fin F c).1 = 0
  · exact Or.inl ⟨e0, h1 e0⟩
  · exact Or.inr ⟨e0, fin_stop e0, h2 e0⟩
theorem over_g (h : Rg w lo B most k F c) : Calls Try.prog 26 #[.pointer (some ⟨B, 0, none⟩)] w fun e w' => e = .returned (.bool false) ∧ w' = w := by
  obtain ⟨vl, vm, r⟩ := h.ex
  exact over_c r
end
theorem rn_nil (most k : Nat) (F : List Fd) (c : List Nat) : rn most k F c [] = ⟨(fin F c).2, (fin F c).1, k⟩ := rfl
/-- What Put does to the run. -/
theorem rn_cons (most k : Nat) (F : List Fd) (c : List Nat) (b : Nat) (l : List Nat) : rn most k F c (b :: l) = if (nx most k F c b).1 ≠ 0 then ⟨[], (nx most k F c b).1, k⟩ else if (nx most k F c b).2.1 = true then ⟨(nx most k F c b).2.2.1, 0, k⟩ else rn most (k + 1) (nx most k F c b).2.2.1 (nx most k F c b).2.2.2 l := by
  rw [rn]
  unfold nx
  split
  · simp
  · split
    · split
      · simp
      · split
        · rename_i h; simp [h]
        · rfl
    · simp
theorem rn_at (most : Nat) : ∀ (l : List Nat) (k : Nat) (F : List Fd) (c : List Nat), k ≤ (rn most k F c l).at_ ∧ (rn most k F c l).at_ ≤ k + l.length
  | [], k, F, c => by simp [rn_nil]
  | b :: l, k, F, c => by
    rw [rn_cons]
    split
    · simp
    · split
      · simp
      · have := rn_at most l (k + 1) (nx most k F c b).2.2.1 (nx most k F c b).2.2.2
        simp only [List.length_cons]
        omega
theorem rn_stop (most : Nat) : ∀ (l : List Nat) (k : Nat) (F : List Fd) (c : List Nat), (rn most k F c l).why ≠ 0 → (rn most k F c l).fs = []
  | [], k, F, c => fun h => fin_stop h
  | b :: l, k, F, c => by
    rw [rn_cons]
    split
    · intro _; rfl
    · split
      · intro h; exact absurd rfl h
      · exact rn_stop most l _ _ _
/-- Where a loop over the bytes stands: the reader behind u bytes of l. -/
def Wi (w : World) (lo B most : Nat) (l : List Nat) (R : Out) (u : Nat) : Prop :=
  (∃ F c, Rg w lo B most u F c ∧ rn most u F c (l.drop u) = R) ∨ (1 ≤ u ∧ R.at_ + 1 = u ∧ Rx w lo B most R.fs R.why)
theorem drop_more {l : List Nat} {k x : Nat} (h : l[k]? = some x) : l.drop k = x :: l.drop (k + 1) := by
  obtain ⟨h1, h2⟩ := List.getElem?_eq_some_iff.1 h
  rw [List.drop_eq_getElem_cons h1, h2]
theorem Wi.put {w' : World} {lo B most u x : Nat} {l : List Nat} {R : Out} {F : List Fd} {c : List Nat} (hr : rn most u F c (l.drop u) = R) (hx : l[u]? = some x) (h : Nx w' lo B most (u + 1) (nx most u F c x)) : Wi w' lo B most l R (u + 1) := by
  rw [drop_more hx, rn_cons] at hr
  unfold Nx at h
  by_cases e1 : (nx most u F c x).1 ≠ 0
  · rw [if_pos e1] at hr h
    refine Or.inr ⟨by omega, by rw [← hr], ?_⟩
    rw [← hr]
    exact Or.inr ⟨e1, rfl, h⟩
  · rw [if_neg e1] at hr h
    by_cases e2 : (nx most u F c x).2.1 = true
    · rw [if_pos e2] at hr h
      refine Or.inr ⟨by omega, by rw [← hr], ?_⟩
      rw [← hr]
      exact Or.inl ⟨rfl, h⟩
    · rw [if_neg e2] at hr h
      exact Or.inl ⟨_, _, h, hr⟩
/-- What Whole answers. -/
def WhTo (l : List Nat) (most : Nat) (w : World) (e : Ending) (w' : World) : Prop :=
  ∃ v, e = .returned (.tuple #[v, .int .i64 ((min ((rn most 0 [] [] l).at_ + 1) l.length : Nat) : Int), .int .i64 ((rn most 0 [] [] l).why : Nat), .int .i64 0]) ∧ FL w' v (told (rn most 0 [] [] l).fs) ∧ Below w.heap.size w w'
theorem results_tmp4 {fn : Func} {t u v x : Tmp} (h : fn.results = #[.tmp t, .tmp u, .tmp v, .tmp x]) (tmps : Array Value) (P : Program) (w : World) : (results fn tmps).run P w = .ok (.tuple #[tmps.getD t undef, tmps.getD u undef, tmps.getD v undef, tmps.getD x undef]) w := by
  simp [results, h]
theorem whole_bad (m : Int) (hm : m < 1 ∨ 65536 < m) (w : World) (v : Value) : Calls Try.prog 9 #[v, .int .i64 m] w fun e w' => e = .returned (.tuple #[.slice none 0 0, .int .i64 0, .int .i64 0, .int .i64 2]) ∧ w' = w := by
  have hn := new_bad m hm w
  clear hm
  go_enter Try.func9, Try.ntmps9
  go_wp2_with (go_at_call 13; refine hn.mono ?_; rintro e1 w1 ⟨rfl, rfl⟩)
  (try simp only [Exit.inBlock, Exit.then])
  refine bodyPost_ret (results_tmp4 rfl _ _ _) rfl ?_
  exact ⟨rfl, rfl⟩
set_option maxHeartbeats 2000000 in
theorem whole_c (w : World) (a : Option Addr) (l : List Nat) (L C most : Nat) (hlz : Lies w a l) (hL : l.length = L) (hLb : L < 1000000000000000) (ho : Oct l) (h1 : 1 ≤ most) (h2 : most ≤ 65536) : Calls Try.prog 9 #[.slice a L C, .int .i64 (most : Int)] w fun e w' => WhTo l most w e w' := by
  have hnew := new_c most h1 h2 w
  unfold WhTo
  obtain ⟨R, hR⟩ : ∃ R, rn most 0 [] [] l = R := ⟨_, rfl⟩
  rw [hR]
  obtain ⟨lo, hlo⟩ : ∃ lo, w.heap.size = lo := ⟨_, rfl⟩
  unfold NewTo at hnew
  have A : Aside (Lies w a l ∧ l.length = L ∧ L < 1000000000000000 ∧ Oct l ∧ w.heap.size = lo ∧ rn most 0 [] [] l = R) := ⟨hlz, hL, hLb, ho, hlo, hR⟩
  rw [hlo] at hnew
  rw [hL]
  obtain ⟨y, hy⟩ : ∃ y, R.why = y := ⟨_, rfl⟩
  obtain ⟨U, hU⟩ : ∃ U, min (R.at_ + 1) L = U := ⟨_, rfl⟩
  rw [hy, hU]
  have AU : Aside (R.why = y ∧ min (R.at_ + 1) L = U) := ⟨hy, hU⟩
  clear hlz hL hLb ho h1 h2 hlo hR hy hU
  go_enter Try.func9, Try.ntmps9
  go_wp2_with (go_at_call 13; refine hnew.mono ?_; rintro e1 w1 ⟨B, rfl, hg1, hb1⟩)
  clear hnew
  go_loopg [5] L (fun gg s5 wr => ∃ u : Nat, s5 = .int .i64 (u : Int) ∧ Aside (u + gg = L ∧ Wi wr lo B most l R u ∧ Below lo w wr))
  case atStart => exact ⟨0, rfl, by omega, Or.inl ⟨[], [], hg1, A.out.2.2.2.2.2⟩, hb1⟩
  case round =>
    obtain ⟨u, rfl, hI⟩ := hrel
    obtain ⟨hug, hW, hbel⟩ := hI.out
    have a0 := A.out
    clear hI
    rcases hW with ⟨F, c, hg, hrn⟩ | ⟨hu1, hat, hx⟩
    · by_cases hu : u < L
      · have t1 : ((u : Int) < (L : Int)) = True := eq_true (by omega)
        have t1' : (u < L) = True := eq_true hu
        have huI : (u : Int) < 1000000000000000 := by omega
        obtain ⟨x, hx⟩ : ∃ x, l[u]? = some x := ⟨_, List.getElem?_eq_getElem (by omega)⟩
        have hx256 : x < 256 := a0.2.2.2.1 x (List.mem_of_getElem? hx)
        obtain ⟨ab, ao, ha, hcB⟩ : ∃ ab ao, a = some ⟨ab, ao, none⟩ ∧ ∀ (j y : Nat), l[j]? = some y → w.cell? ⟨ab, ao + j, none⟩ = some (.int .u8 (y : Int)) := by
          rcases a0.1 with e | ⟨ab, ao, e, h⟩
          · rw [e] at hx; simp at hx
          · exact ⟨ab, ao, e, h⟩
        subst ha
        have cx0 := hcB u x hx
        have cx : wr.cell? ⟨ab, ao + u, none⟩ = some (.int .u8 (x : Int)) := (hbel.cell (p := ⟨ab, ao + u, none⟩) (by rw [← a0.2.2.2.2.1]; exact World.block_lt_of_cell? w ⟨ab, ao + u, none⟩ cx0)).trans cx0
        have hov := over_g hg
        have hpu := put_go x hx256 hg
        have A2 : Aside (u + gk = L ∧ u < L ∧ rn most u F c (l.drop u) = R ∧ l[u]? = some x ∧ Below lo w wr) := ⟨hug, hu, hrn, hx, hbel⟩
        clear hug hbel a0 hg hrn hx hx256 hcB cx0 hu hg1 hb1
        go_wp2_with (first
          | (go_at_call 26; refine hov.mono ?_; rintro e1 w2 ⟨rfl, rfl⟩)
          | (go_at_call 14; refine hpu.mono ?_; rintro e2 w3 ⟨rfl, hn3, hc3⟩))
        have a2 := A2.out
        go_roundg (gk - 1)
        case measure => omega
        case rel => exact ⟨u + 1, by go_num, by omega, Wi.put a2.2.2.1 a2.2.2.2.1 hn3, a2.2.2.2.2.trans hc3.bel⟩
      · have t1 : ((u : Int) < (L : Int)) = False := eq_false (by omega)
        have t1' : (u < L) = False := eq_false hu
        have huL : u = L := by omega
        have hen := end_g hg
        rw [List.drop_eq_nil_of_le (by omega), rn_nil] at hrn
        have hR1 : (fin F c).1 = R.why := by rw [← hrn]
        have hR2 : (fin F c).2 = R.fs := by rw [← hrn]
        have hR3 : R.at_ = L := by rw [← hrn]; exact huL
        rw [hR1, hR2] at hen
        have hy := AU.out.1
        rw [hy] at hen
        have hUL : U = L := by rw [← AU.out.2, hR3]; omega
        have hfx := fun W (h : Rx W lo B most R.fs y) => fields_x h
        have A2 : Aside (Below lo w wr ∧ u = U ∧ w.heap.size = lo) := ⟨hbel, by omega, a0.2.2.2.2.1⟩
        clear hug hbel a0 hg hrn hu hg1 hb1 hR1 hR2 hR3 hy huL hUL
        go_wp2_with (first
          | (go_at_call 17; refine hen.mono ?_; rintro e1 w2 ⟨rfl, hx2, hc2⟩; have hf2 := hfx w2 hx2)
          | (go_at_call 16; refine hf2.mono ?_; rintro e2 w3 ⟨v3, rfl, hfl, _, hb3⟩; obtain ⟨av, cv, hv3, _⟩ := id hfl; subst hv3))
        (try simp only [Exit.inBlock, Exit.then])
        refine bodyPost_ret (results_tmp4 rfl _ _ _) rfl ?_
        have a2 := A2.out
        refine ⟨_, by rw [← a2.2.1]; rfl, hfl, ?_⟩
        rw [a2.2.2]
        exact (a2.1.trans hc2.bel).trans (hb3.mono hx2.le)
    · have hov := over_x hx
      have hen := end_x hx
      have hfx := fields_x hx
      have hmin : U = u := by rw [← AU.out.2]; omega
      have hy := AU.out.1
      rw [hy] at hen
      have A2 : Aside (Below lo w wr ∧ w.heap.size = lo ∧ lo ≤ wr.heap.size ∧ U = u) := ⟨hbel, a0.2.2.2.2.1, hx.le, hmin⟩
      by_cases hu : u < L
      · have t1 : ((u : Int) < (L : Int)) = True := eq_true (by omega)
        have t1' : (u < L) = True := eq_true hu
        clear hug hbel a0 hx hu hg1 hb1 hy hmin hat
        go_wp2_with (first
          | (go_at_call 26; refine hov.mono ?_; rintro e1 w2 ⟨rfl, rfl⟩)
          | (go_at_call 17; refine hen.mono ?_; rintro e1 w2 ⟨rfl, rfl⟩)
          | (go_at_call 16; refine hfx.mono ?_; rintro e2 w3 ⟨v3, rfl, hfl, _, hb3⟩; obtain ⟨av, cv, hv3, _⟩ := id hfl; subst hv3))
        (try simp only [Exit.inBlock, Exit.then])
        refine bodyPost_ret (results_tmp4 rfl _ _ _) rfl ?_
        have a2 := A2.out
        refine ⟨_, by rw [a2.2.2.2]; rfl, hfl, ?_⟩
        rw [a2.2.1]
        exact a2.1.trans (hb3.mono a2.2.2.1)
      · have t1 : ((u : Int) < (L : Int)) = False := eq_false (by omega)
        have t1' : (u < L) = False := eq_false hu
        clear hug hbel a0 hx hu hg1 hb1 hy hmin hat
        go_wp2_with (first
          | (go_at_call 17; refine hen.mono ?_; rintro e1 w2 ⟨rfl, rfl⟩)
          | (go_at_call 16; refine hfx.mono ?_; rintro e2 w3 ⟨v3, rfl, hfl, _, hb3⟩; obtain ⟨av, cv, hv3, _⟩ := id hfl; subst hv3))
        (try simp only [Exit.inBlock, Exit.then])
        refine bodyPost_ret (results_tmp4 rfl _ _ _) rfl ?_
        have a2 := A2.out
        refine ⟨_, by rw [a2.2.2.2]; rfl, hfl, ?_⟩
        rw [a2.2.1]
        exact a2.1.trans (hb3.mono a2.2.2.1)
end Go.Proofs.Ytmlkdpoignimaaa

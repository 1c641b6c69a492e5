/-
  Own texts of this seat, one behind the other: what each says stands ahead of it.
-/
import Derived.Test.YtikdpnpkmmmacaaDoorMh
/-
  What lies around the document's run, and its small calls told by the machine's steps.
-/
namespace Go.Proofs.YtikdpnpkmmmacaaDoor
open Go.RowKit
set_option linter.unusedVariables false
/-- Neither stopped nor ended. -/
def Opn (s : Rs) : Prop := s.why = 0 ∧ s.ended = false
theorem Opn.opn {s : Rs} (h : Opn s) : s.opn = true := by unfold Rs.opn; rw [h.1, h.2]; rfl
/-- The machine has come to c, and there is no step more: so the run knows it. -/
structure Fin (bs : List Bool) (most L : Nat) (c : Cfg) (s : Rs) : Prop where
  none_ : step bs most c = none
  out : s.out = c.out
  times : s.times = c.times
  ended : s.ended = false
  how : (∃ y, c.st = .bad y ∧ s.why = y ∧ s.at_ = (c.pos - 1) / 8 ∧ y ≠ 0) ∨ ((∀ y, c.st ≠ .bad y) ∧ c.st ≠ .done ∧ s.why = 1 ∧ s.at_ = L)
theorem Fin.opn {bs : List Bool} {most L : Nat} {c : Cfg} {s : Rs} (h : Fin bs most L c s) : s.opn = false := by
  unfold Rs.opn
  rcases h.how with ⟨y, _, h1, _, h2⟩ | ⟨_, _, h1, _⟩
  · rw [h1]; have : (y == 0) = false := beq_eq_false_iff_ne.2 h2; rw [this]; rfl
  · rw [h1]; rfl
/-- More bits are wanted. -/
theorem Fin.cut {bs : List Bool} {most L : Nat} {c : Cfg} {s : Rs} (h : step bs most c = none) (h1 : s.out = c.out) (h2 : s.times = c.times) (h3 : s.ended = false) (h4 : ∀ y, c.st ≠ .bad y) (h5 : c.st ≠ .done) : Fin bs most L c { s with why := 1, at_ := L } := ⟨h, h1, h2, h3, Or.inr ⟨h4, h5, rfl, rfl⟩⟩
theorem Fin.bad {bs : List Bool} {most L : Nat} {c : Cfg} {s : Rs} (y : Nat) (hc : c.st = .bad y) (h1 : s.out = c.out) (h2 : s.times = c.times) (h3 : s.ended = false) (hy : y ≠ 0) (hp : c.pos = s.pos) : Fin bs most L c { s with why := y, at_ := (s.pos - 1) / 8 } :=
  ⟨by unfold step; rw [hc], h1, h2, h3, Or.inl ⟨y, hc, rfl, by rw [hp], hy⟩⟩
/-- Whatever the run does, P holds on. -/
def Kept (P : World → Prop) (R : Nat) (vO vT : Value) (w : World) : Prop := ∀ (u : World) (vO' vT' : Value), Chg R vO vT vO' vT' w u → P u
theorem Kept.now {P : World → Prop} {R : Nat} {vO vT : Value} {w : World} (h : Kept P R vO vT w) : P w := h w vO vT (Chg.refl _ _ _ _)
theorem Kept.on {P : World → Prop} {R : Nat} {vO vT vO' vT' : Value} {w u : World} (h : Kept P R vO vT w) (k : Chg R vO vT vO' vT' w u) : Kept P R vO' vT' u := fun v x y hv => h v x y (k.trans hv)
/-- What lies around a run. -/
structure Ctx (B : List Nat) (base R : Nat) (a : Option Addr) (L C most : Nat) (w : World) (s : Rs) (vO vT : Value) : Prop where
  run : Rn w base R a L C most s vO vT
  lies : Kept (fun u => Lies u a B) R vO vT w
  len : B.length = L
  lb : L < 140737488355328
  oct : Oct B
  pos : s.pos ≤ 8 * L
  most_ : most ≤ 1048576
  base_ : base ≤ w.heap.size
  og : Oct s.out
theorem Ctx.on {B : List Nat} {base R L C most : Nat} {a : Option Addr} {w u : World} {s s' : Rs} {vO vT vO' vT' : Value} (h : Ctx B base R a L C most w s vO vT) (hr : Rn u base R a L C most s' vO' vT') (k : Chg R vO vT vO' vT' w u) (hp : s'.pos ≤ 8 * L) (hg : Oct s'.out) : Ctx B base R a L C most u s' vO' vT' :=
  ⟨hr, h.lies.on k, h.len, h.lb, h.oct, hp, h.most_, Nat.le_trans h.base_ k.size, hg⟩
/-- A table that stays. -/
structure Tab (R : Nat) (vO vT : Value) (w : World) (T : Nat) (ls : List Nat) : Prop where
  tb : Kept (fun u => Tb u T ls) R vO vT w
  len : ls.length ≤ 320
  part : part ls 15 ≤ 32768
  le15 : ∀ x ∈ ls, x ≤ 15
theorem Tab.on {R T : Nat} {ls : List Nat} {vO vT vO' vT' : Value} {w u : World} (h : Tab R vO vT w T ls) (k : Chg R vO vT vO' vT' w u) : Tab R vO' vT' u T ls := ⟨h.tb.on k, h.len, h.part, h.le15⟩
theorem num_le {bs : List Bool} {p n x : Nat} (h : num? bs p n = some x) : p + n ≤ bs.length := by
  unfold num? at h; split at h
  · assumption
  · cases h
variable {w u : World} {base R L C most : Nat} {a : Option Addr} {s : Rs} {vO vT : Value} {B : List Nat}
/-- A number is read, or the bytes end. -/
theorem Ctx.number_some (h : Ctx B base R a L C most w s vO vT) (n x : Nat) (hn : n ≤ 16) (hx : num? (allb B) s.pos n = some x) :
    Calls Tryd.prog 23 #[.pointer (some ⟨R, 0, none⟩), .int .i64 (n : Int)] w fun e w' => e = .returned (.int .i64 (x : Int)) ∧ Ctx B base R a L C most w' { s with pos := s.pos + n } vO vT ∧ Chg R vO vT vO vT w w' :=
  (number_yes B h.run h.lies.now h.len h.lb h.oct n x hn hx).mono fun e w' ⟨h1, h2, h3⟩ => ⟨h1, h.on h2 (Chg.of_only h3) (by have := num_le hx; rw [allb_len, h.len] at this; exact this) h.og, Chg.of_only h3⟩
theorem Ctx.number_none (h : Ctx B base R a L C most w s vO vT) (n : Nat) (hn : n ≤ 16) (hx : num? (allb B) s.pos n = none) :
    Calls Tryd.prog 23 #[.pointer (some ⟨R, 0, none⟩), .int .i64 (n : Int)] w fun e w' => e = .returned (.int .i64 0) ∧ Ctx B base R a L C most w' { s with why := 1, at_ := L } vO vT ∧ Chg R vO vT vO vT w w' :=
  (number_no B h.run h.len h.lb n hn (by have := h.pos; have := h.lb; omega) hx).mono fun e w' ⟨h1, h2, h3⟩ => ⟨h1, h.on h2 (Chg.of_only h3) h.pos h.og, Chg.of_only h3⟩
theorem sread_le {ls : List Nat} {h : List Bool} : match sread ls h with | some (.inl (x, n)) => Hit ls h x n | some (.inr j) => j ≤ h.length | none => True := by
  unfold sread
  cases e : (List.range ls.length).find? (hitb ls h) with
  | some x =>
    obtain ⟨n, hn⟩ := hitb_iff.1 (List.find?_some e)
    simp only []
    rw [List.getD_eq_getElem?_getD, hn.1]
    exact hn
  | none =>
    cases e2 : (List.range (h.length + 1)).find? (fun j => !mayb ls (h.take j)) with
    | some j =>
      simp only []
      have := List.mem_range.1 (List.mem_of_find?_eq_some e2)
      omega
    | none => trivial
theorem Ctx.symbol (h : Ctx B base R a L C most w s vO vT) (T : Nat) (ls : List Nat) (hT : Tab R vO vT w T ls) (r : SR) (hr : sread ls ((allb B).drop s.pos) = r) :
    Calls Tryd.prog 46 #[.pointer (some ⟨R, 0, none⟩), .pointer (some ⟨T, 0, none⟩)] w fun e w' => e = .returned (.int .i64 (symV r : Int)) ∧ Ctx B base R a L C most w' (symS r L s) vO vT ∧ Chg R vO vT vO vT w w' :=
  (symbol_c B h.run h.lies.now h.len h.lb h.oct h.pos T ls hT.tb.now hT.len hT.part hT.le15 r hr).mono fun e w' ⟨h1, h2, h3⟩ => ⟨h1, h.on h2 h3 (by
    have hl : ((allb B).drop s.pos).length = 8 * L - s.pos := by rw [List.length_drop, allb_len, h.len]
    have hs := sread_le (ls := ls) (h := (allb B).drop s.pos)
    rw [hr] at hs
    have hp := h.pos
    cases r using SR.el with
    | got x n => have := hs.2.2.1; show s.pos + n ≤ 8 * L; omega
    | bad j => show s.pos + j ≤ 8 * L; have : j ≤ ((allb B).drop s.pos).length := hs; omega
    | cut => exact hp) (by cases r using SR.el <;> exact h.og), h3⟩
theorem Ctx.stop (h : Ctx B base R a L C most w s vO vT) (y : Nat) : Calls Tryd.prog 29 #[.pointer (some ⟨R, 0, none⟩), .int .i64 (y : Int)] w fun e w' => e = .returned (.tuple #[]) ∧ Ctx B base R a L C most w' { s with why := y, at_ := (s.pos - 1) / 8 } vO vT ∧ Chg R vO vT vO vT w w' :=
  (stop_c h.run y (by have := h.pos; have := h.lb; omega)).mono fun e w' ⟨h1, h2, h3⟩ => ⟨h1, h.on h2 (Chg.of_only h3) h.pos h.og, Chg.of_only h3⟩
theorem Ctx.open_ (h : Ctx B base R a L C most w s vO vT) (y : Bool) (hy : s.opn = y) : Calls Tryd.prog 22 #[.pointer (some ⟨R, 0, none⟩)] w fun e w' => e = .returned (.bool y) ∧ w = w' := by rw [← hy]; exact open_c h.run
/-- A byte is given, or there are too many; k: what comes next. -/
theorem Ctx.give (h : Ctx B base R a L C most w s vO vT) (ho : Opn s) (b : Nat) (hb : b < 256) (k : St) :
    Calls Tryd.prog 44 #[.pointer (some ⟨R, 0, none⟩), .int .u8 (b : Int)] w fun e w' => e = .returned (.tuple #[]) ∧ ∃ s' vO' vT' c', Ctx B base R a L C most w' s' vO' vT' ∧ Chg R vO vT vO' vT' w w' ∧ c' = YtikdpnpkmmmacaaDoor.give most k b s.pos ⟨k, s.pos, s.out, s.times⟩ ∧ ((Opn s' ∧ c' = ⟨k, s'.pos, s'.out, s'.times⟩ ∧ s'.out = s.out ++ [b] ∧ s'.pos = s.pos) ∨ Fin (allb B) most L c' s') := by
  have hp : s.pos < 1000000000000000000 := by have := h.pos; have := h.lb; omega
  by_cases hlt : s.out.length < most
  · refine (give_yes h.run b hb hp hlt h.most_ h.base_).mono fun e w' ⟨h1, vO', vT', h2, h3⟩ => ⟨h1, _, vO', vT', _, h.on h2 h3 h.pos (fun y hy => by
      rcases List.mem_append.1 hy with h5 | h5
      · exact h.og y h5
      · rw [List.mem_singleton.1 h5]; exact hb), h3, rfl, Or.inl ⟨ho, ?_, rfl, rfl⟩⟩
    unfold YtikdpnpkmmmacaaDoor.give
    rw [if_pos hlt]
  · refine (give_no h.run b hp (by omega) h.most_).mono fun e w' ⟨h1, h2, h3⟩ => ⟨h1, _, vO, vT, _, h.on h2 (Chg.of_only h3) h.pos h.og, Chg.of_only h3, rfl, Or.inr ?_⟩
    unfold YtikdpnpkmmmacaaDoor.give
    rw [if_neg hlt]
    exact Fin.bad 62 rfl rfl rfl ho.2 (by decide) rfl
end Go.Proofs.YtikdpnpkmmmacaaDoor

/-
  What the document's copied comes to, told by the machine's steps.
-/
namespace Go.Proofs.YtikdpnpkmmmacaaDoor
open Go.RowKit
set_option linter.unusedVariables false
theorem lmore_le (s : Nat) (h : s ≤ 285) : lmore s ≤ 5 := by unfold lmore; split <;> (try split) <;> omega
theorem dmore_le (x : Nat) (h : x ≤ 29) : dmore x ≤ 13 := by unfold dmore; split <;> omega
theorem lbase_le (s : Nat) (h1 : 257 ≤ s) (h2 : s ≤ 285) : lbase s ≤ 1000 := by
  by_cases h : s = 285
  · subst h; decide
  · rw [lbase_lbs h]; exact lbs_le _ (by omega)
theorem numb_lt {bs : List Bool} {p n x : Nat} (h : num? bs p n = some x) : x < 2 ^ n := by
  unfold num? at h; split at h
  · cases h
    have h1 := nm_lt ((bs.drop p).take n)
    refine Nat.lt_of_lt_of_le h1 (Nat.pow_le_pow_right (by decide) ?_)
    rw [List.length_take]; omega
  · cases h
variable {w u : World} {base R L C most : Nat} {a : Option Addr} {s : Rs} {vO vT : Value} {B : List Nat}
theorem Ctx.drew (h : Ctx B base R a L C most w s vO vT) : Ctx B base R a L C most w.drew s vO vT := h.on h.run.drew (Chg.drawn ⟨1, rfl⟩) h.pos h.og
theorem wrap_sub {M d q : Nat} (h : M ≤ maxLen) (hd : d ≤ M) (hq : M - d = q) : ∀ z : Int, z = (M : Int) - (d : Int) → IntKind.i64.wrap z = (q : Int) := by
  intro z hz
  unfold maxLen at h
  rw [IntKind.wrap_i64, hz]
  omega
/-- What a call of the run's leaves: c0 the machine's place ahead, k what comes next where it goes on. -/
def Left (B : List Nat) (base R : Nat) (a : Option Addr) (L C most : Nat) (vO vT : Value) (w w' : World) (c0 : Cfg) (k : St) : Prop :=
  ∃ s' vO' vT' c', Ctx B base R a L C most w' s' vO' vT' ∧ Chg R vO vT vO' vT' w w' ∧ Runs (allb B) most c0 c' ∧ ((Opn s' ∧ c' = ⟨k, s'.pos, s'.out, s'.times⟩) ∨ Fin (allb B) most L c' s')
set_option maxRecDepth 100000 in
set_option maxHeartbeats 8000000 in
theorem copied_c (h : Ctx B base R a L C most w s vO vT) (ho : Opn s) (x : Nat) (hx1 : 257 ≤ x) (hx2 : x ≤ 285) (T : Nat) (lit di : List Nat) (last : Bool) (hT : Tab R vO vT w T di) :
    Calls Tryd.prog 47 #[.pointer (some ⟨R, 0, none⟩), .int .i64 (x : Int), .pointer (some ⟨T, 0, none⟩)] w fun e w' => e = .returned (.tuple #[]) ∧ Left B base R a L C most vO vT w w' ⟨.lext last lit di x, s.pos, s.out, s.times⟩ (.sym last lit di) := by
  have hob : ∀ y ∈ s.out, y < 256 := h.og
  have hlb := lbase_c x hx1 hx2 w
  have hm5 := lmore_le x hx2
  have hb1 := lbase_le x hx1 hx2
  obtain ⟨c0, hc0⟩ : ∃ c0, (⟨.lext last lit di x, s.pos, s.out, s.times⟩ : Cfg) = c0 := ⟨_, rfl⟩
  rw [hc0]
  cases hnum : num? (allb B) s.pos (lmore x) with
  | none =>
    have hno := h.number_none (lmore x) (by omega) hnum
    have hfin : Fin (allb B) most L c0 { s with why := 1, at_ := L } := by
      rw [← hc0]
      refine Fin.cut (by unfold step; simp only [hnum]; rfl) rfl rfl ho.2 (by intro y e; cases e) (by intro e; cases e)
    obtain ⟨lb, hlbe⟩ : ∃ lb, lbase x = lb := ⟨_, rfl⟩
    obtain ⟨lm, hlme⟩ : ∃ lm, lmore x = lm := ⟨_, rfl⟩
    rw [hlbe, hlme] at hlb
    rw [hlme] at hno
    rw [hlbe] at hb1
    have hop : ∀ W, Ctx B base R a L C most W { s with why := 1, at_ := L } vO vT → Calls Tryd.prog 22 #[.pointer (some ⟨R, 0, none⟩)] W fun e w' => e = .returned (.bool false) ∧ W = w' := fun W hW => hW.open_ false hfin.opn
    have AF : Aside (Fin (allb B) most L c0 { s with why := 1, at_ := L }) := hfin
    clear hnum hfin h hT hc0 hlbe hlme hob
    go_enter Tryd.func47, Tryd.ntmps47
    go_wp2_with (first
      | (go_at_call 65; refine hlb.mono ?_; rintro e1 w1 ⟨rfl, rfl⟩)
      | (go_at_call 23; refine hno.mono ?_; rintro e2 w2 ⟨rfl, hc2, hg2⟩)
      | (go_at_call 22; refine (hop _ hc2).mono ?_; rintro e3 w3 ⟨rfl, rfl⟩))
    first | (refine bodyPost_ret (results_none rfl _ _ _) rfl ?_) | go_end0
    exact ⟨rfl, _, _, _, c0, hc2, hg2, Runs.refl _, Or.inr AF.out⟩
  | some v =>
    have hyes := h.number_some (lmore x) v (by omega) hnum
    have hvb := numb_lt hnum
    have hv32 : v < 32 := Nat.lt_of_lt_of_le hvb (show 2 ^ lmore x ≤ 2 ^ 5 from Nat.pow_le_pow_right (by decide) hm5)
    obtain ⟨s1, hs1⟩ : ∃ s1 : Rs, { s with pos := s.pos + lmore x } = s1 := ⟨_, rfl⟩
    rw [hs1] at hyes
    have ho1 : Opn s1 := by rw [← hs1]; exact ho
    have hst1 : Runs (allb B) most c0 ⟨.dist last lit di (lbase x + v), s1.pos, s1.out, s1.times⟩ := by
      rw [← hc0, ← hs1]
      exact Runs.one (by unfold step; simp only [hnum]; rfl)
    have hso : s1.out = s.out := by rw [← hs1]
    obtain ⟨lb, hlbe⟩ : ∃ lb, lbase x = lb := ⟨_, rfl⟩
    obtain ⟨lm, hlme⟩ : ∃ lm, lmore x = lm := ⟨_, rfl⟩
    rw [hlbe, hlme] at hlb
    rw [hlme] at hyes
    rw [hlbe] at hb1 hst1
    obtain ⟨n, hn⟩ : ∃ n, lb + v = n := ⟨_, rfl⟩
    rw [hn] at hst1
    have hnI : (lb : Int) + (v : Int) = (n : Int) := by omega
    have hn2k : n ≤ 1032 := by omega
    obtain ⟨r, hr⟩ : ∃ r, sread di ((allb B).drop s1.pos) = r := ⟨_, rfl⟩
    have hsym : ∀ W, Ctx B base R a L C most W s1 vO vT → Chg R vO vT vO vT w W → Calls Tryd.prog 46 #[.pointer (some ⟨R, 0, none⟩), .pointer (some ⟨T, 0, none⟩)] W fun e w' => e = .returned (.int .i64 (symV r : Int)) ∧ Ctx B base R a L C most w' (symS r L s1) vO vT ∧ Chg R vO vT vO vT W w' := fun W hW hg => hW.symbol T di (hT.on hg) r hr
    have hop1 : ∀ W, Ctx B base R a L C most W s1 vO vT → Calls Tryd.prog 22 #[.pointer (some ⟨R, 0, none⟩)] W fun e w' => e = .returned (.bool true) ∧ W = w' := fun W hW => hW.open_ true ho1.opn
    have A0 : Aside (Runs (allb B) most c0 ⟨.dist last lit di n, s1.pos, s1.out, s1.times⟩ ∧ Opn s1 ∧ sread di ((allb B).drop s1.pos) = r ∧ s1.out = s.out) := ⟨hst1, ho1, hr, hso⟩
    have Hob : Aside (∀ y ∈ s.out, y < 256) := hob
    clear hnum h hT hc0 hlbe hlme hs1 ho1 hst1 hr hvb hm5 hob hso hn
    cases r using SR.el with
    | cut =>
      have hfin : Fin (allb B) most L ⟨.dist last lit di n, s1.pos, s1.out, s1.times⟩ (symS .cut L s1) := Fin.cut (by unfold step; simp only [A0.out.2.2.1]) rfl rfl A0.out.2.1.2 (by intro y e; cases e) (by intro e; cases e)
      have hop2 : ∀ W, Ctx B base R a L C most W (symS .cut L s1) vO vT → Calls Tryd.prog 22 #[.pointer (some ⟨R, 0, none⟩)] W fun e w' => e = .returned (.bool false) ∧ W = w' := fun W hW => hW.open_ false hfin.opn
      have AF : Aside (Fin (allb B) most L ⟨.dist last lit di n, s1.pos, s1.out, s1.times⟩ (symS .cut L s1)) := hfin
      clear hfin
      go_enter Tryd.func47, Tryd.ntmps47
      go_wp2_with (first
        | (go_at_call 65; refine hlb.mono ?_; rintro e1 w1 ⟨rfl, rfl⟩)
        | (go_at_call 23; refine hyes.mono ?_; rintro e2 w2 ⟨rfl, hc2, hg2⟩)
        | (go_at_call 22; (fail_if_success (have hh := hc4)); refine (hop1 _ hc2).mono ?_; rintro e3 w3 ⟨rfl, rfl⟩)
        | (go_at_call 46; refine (hsym _ hc2 hg2).mono ?_; rintro e4 w4 ⟨rfl, hc4, hg4⟩)
        | (go_at_call 22; refine (hop2 _ hc4).mono ?_; rintro e5 w5 ⟨rfl, rfl⟩))
      first | (refine bodyPost_ret (results_none rfl _ _ _) rfl ?_) | go_end0
      exact ⟨rfl, _, _, _, _, hc4, hg2.trans hg4, A0.out.1, Or.inr AF.out⟩
    | bad j =>
      have hfin : Fin (allb B) most L ⟨.bad 13, s1.pos + j, s1.out, s1.times⟩ (symS (.bad j) L s1) := Fin.bad (s := { s1 with pos := s1.pos + j }) 13 rfl rfl rfl A0.out.2.1.2 (by decide) rfl
      have hrun : Runs (allb B) most ⟨.dist last lit di n, s1.pos, s1.out, s1.times⟩ ⟨.bad 13, s1.pos + j, s1.out, s1.times⟩ := Runs.one (by unfold step; simp only [A0.out.2.2.1])
      have hop2 : ∀ W, Ctx B base R a L C most W (symS (.bad j) L s1) vO vT → Calls Tryd.prog 22 #[.pointer (some ⟨R, 0, none⟩)] W fun e w' => e = .returned (.bool false) ∧ W = w' := fun W hW => hW.open_ false hfin.opn
      have AF : Aside (Fin (allb B) most L ⟨.bad 13, s1.pos + j, s1.out, s1.times⟩ (symS (.bad j) L s1) ∧ Runs (allb B) most ⟨.dist last lit di n, s1.pos, s1.out, s1.times⟩ ⟨.bad 13, s1.pos + j, s1.out, s1.times⟩) := ⟨hfin, hrun⟩
      clear hfin hrun
      go_enter Tryd.func47, Tryd.ntmps47
      go_wp2_with (first
        | (go_at_call 65; refine hlb.mono ?_; rintro e1 w1 ⟨rfl, rfl⟩)
        | (go_at_call 23; (fail_if_success (have hh := hg2)); refine hyes.mono ?_; rintro e2 w2 ⟨rfl, hc2, hg2⟩)
        | (go_at_call 22; (fail_if_success (have hh := hc4)); refine (hop1 _ hc2).mono ?_; rintro e3 w3 ⟨rfl, rfl⟩)
        | (go_at_call 46; refine (hsym _ hc2 hg2).mono ?_; rintro e4 w4 ⟨rfl, hc4, hg4⟩)
        | (go_at_call 22; refine (hop2 _ hc4).mono ?_; rintro e5 w5 ⟨rfl, rfl⟩))
      first | (refine bodyPost_ret (results_none rfl _ _ _) rfl ?_) | go_end0
      exact ⟨rfl, _, _, _, _, hc4, hg2.trans hg4, A0.out.1.trans AF.out.2, Or.inr AF.out.1⟩
    | got y k =>
      obtain ⟨s2, hs2⟩ : ∃ s2 : Rs, symS (.got y k) L s1 = s2 := ⟨_, rfl⟩
      have ho2 : Opn s2 := by rw [← hs2]; exact A0.out.2.1
      have hso2 : s2.out = s.out := by rw [← hs2]; exact A0.out.2.2.2
      rw [hs2] at hsym
      have hop2 : ∀ W, Ctx B base R a L C most W s2 vO vT → Calls Tryd.prog 22 #[.pointer (some ⟨R, 0, none⟩)] W fun e w' => e = .returned (.bool true) ∧ W = w' := fun W hW => hW.open_ true ho2.opn
      have hrun : Runs (allb B) most ⟨.dist last lit di n, s1.pos, s1.out, s1.times⟩ ⟨if 29 < y then .bad 13 else .dext last lit di n y, s2.pos, s2.out, s2.times⟩ := by
        rw [← hs2]
        exact Runs.one (by unfold step; simp only [A0.out.2.2.1]; rfl)
      have hsym' : ∀ W, Ctx B base R a L C most W s1 vO vT → Chg R vO vT vO vT w W → Calls Tryd.prog 46 #[.pointer (some ⟨R, 0, none⟩), .pointer (some ⟨T, 0, none⟩)] W fun e w' => e = .returned (.int .i64 (y : Int)) ∧ Ctx B base R a L C most w' s2 vO vT ∧ Chg R vO vT vO vT W w' := hsym
      clear hsym
      have hsym := hsym'
      clear hsym'
      have A2 : Aside (Runs (allb B) most c0 ⟨if 29 < y then .bad 13 else .dext last lit di n y, s2.pos, s2.out, s2.times⟩ ∧ Opn s2 ∧ s2.out = s.out) := ⟨A0.out.1.trans hrun, ho2, hso2⟩
      clear hs2 ho2 hso2 hrun A0
      by_cases hy29 : 29 < y
      · have t29 : (29 : Int) < (y : Int) := by omega
        have hst : ∀ W, Ctx B base R a L C most W s2 vO vT → Calls Tryd.prog 29 #[.pointer (some ⟨R, 0, none⟩), .int .i64 13] W fun e w' => e = .returned (.tuple #[]) ∧ Ctx B base R a L C most w' { s2 with why := 13, at_ := (s2.pos - 1) / 8 } vO vT ∧ Chg R vO vT vO vT W w' := fun W hW => hW.stop 13
        have hfin : Fin (allb B) most L ⟨.bad 13, s2.pos, s2.out, s2.times⟩ { s2 with why := 13, at_ := (s2.pos - 1) / 8 } := Fin.bad 13 rfl rfl rfl A2.out.2.1.2 (by decide) rfl
        have AF : Aside (Fin (allb B) most L ⟨.bad 13, s2.pos, s2.out, s2.times⟩ { s2 with why := 13, at_ := (s2.pos - 1) / 8 } ∧ Runs (allb B) most c0 ⟨.bad 13, s2.pos, s2.out, s2.times⟩) := ⟨hfin, by have := A2.out.1; rw [if_pos hy29] at this; exact this⟩
        clear hfin hy29
        go_enter Tryd.func47, Tryd.ntmps47
        go_wp2_with (first
        | (go_at_call 65; refine hlb.mono ?_; rintro e1 w1 ⟨rfl, rfl⟩)
        | (go_at_call 23; (fail_if_success (have hh := hg2)); refine hyes.mono ?_; rintro e2 w2 ⟨rfl, hc2, hg2⟩)
        | (go_at_call 22; (fail_if_success (have hh := hc4)); refine (hop1 _ hc2).mono ?_; rintro e3 w3 ⟨rfl, rfl⟩)
        | (go_at_call 46; refine (hsym _ hc2 hg2).mono ?_; rintro e4 w4 ⟨rfl, hc4, hg4⟩)
        | (go_at_call 22; refine (hop2 _ hc4).mono ?_; rintro e5 w5 ⟨rfl, rfl⟩)
        | (go_at_call 29; refine (hst _ hc4).mono ?_; rintro e6 w6 ⟨rfl, hc6, hg6⟩))
        first | (refine bodyPost_ret (results_none rfl _ _ _) rfl ?_) | go_end0
        exact ⟨rfl, _, _, _, _, hc6, (hg2.trans hg4).trans hg6, AF.out.2, Or.inr AF.out.1⟩
      · have t29 : ¬ (29 : Int) < (y : Int) := by omega
        have hdb : ∀ W, Calls Tryd.prog 66 #[.int .i64 (y : Int)] W fun e w' => e = .returned (.tuple #[.int .i64 (dbase y : Nat), .int .i64 (dmore y : Nat)]) ∧ W = w' := fun W => dbase_c y (by omega) W
        have hdm := dmore_le y (by omega)
        have hdbl : dbase y ≤ 40000 := dbs_le y (by omega)
        have A3 : Aside (Runs (allb B) most c0 ⟨.dext last lit di n y, s2.pos, s2.out, s2.times⟩ ∧ Opn s2 ∧ s2.out = s.out) := ⟨by have := A2.out.1; rw [if_neg hy29] at this; exact this, A2.out.2.1, A2.out.2.2⟩
        clear A2
        cases hnum2 : num? (allb B) s2.pos (dmore y) with
        | none =>
          have hno : ∀ W, Ctx B base R a L C most W s2 vO vT → Calls Tryd.prog 23 #[.pointer (some ⟨R, 0, none⟩), .int .i64 (dmore y : Int)] W fun e w' => e = .returned (.int .i64 0) ∧ Ctx B base R a L C most w' { s2 with why := 1, at_ := L } vO vT ∧ Chg R vO vT vO vT W w' := fun W hW => hW.number_none (dmore y) (by omega) hnum2
          have hfin : Fin (allb B) most L ⟨.dext last lit di n y, s2.pos, s2.out, s2.times⟩ { s2 with why := 1, at_ := L } := Fin.cut (by unfold step; simp only [hnum2]; rfl) rfl rfl A3.out.2.1.2 (by intro y e; cases e) (by intro e; cases e)
          have hop3 : ∀ W, Ctx B base R a L C most W { s2 with why := 1, at_ := L } vO vT → Calls Tryd.prog 22 #[.pointer (some ⟨R, 0, none⟩)] W fun e w' => e = .returned (.bool false) ∧ W = w' := fun W hW => hW.open_ false hfin.opn
          have AF : Aside (Fin (allb B) most L ⟨.dext last lit di n y, s2.pos, s2.out, s2.times⟩ { s2 with why := 1, at_ := L }) := hfin
          obtain ⟨db, hdbe⟩ : ∃ db, dbase y = db := ⟨_, rfl⟩
          obtain ⟨dm, hdme⟩ : ∃ dm, dmore y = dm := ⟨_, rfl⟩
          rw [hdbe, hdme] at hdb
          rw [hdme] at hno
          rw [hdbe] at hdbl
          clear hfin hnum2 hdbe hdme hdm hy29
          go_enter Tryd.func47, Tryd.ntmps47
          go_wp2_with (first
        | (go_at_call 65; refine hlb.mono ?_; rintro e1 w1 ⟨rfl, rfl⟩)
        | (go_at_call 23; (fail_if_success (have hh := hg2)); refine hyes.mono ?_; rintro e2 w2 ⟨rfl, hc2, hg2⟩)
        | (go_at_call 22; (fail_if_success (have hh := hc4)); refine (hop1 _ hc2).mono ?_; rintro e3 w3 ⟨rfl, rfl⟩)
        | (go_at_call 46; refine (hsym _ hc2 hg2).mono ?_; rintro e4 w4 ⟨rfl, hc4, hg4⟩)
        | (go_at_call 22; (fail_if_success (have hh := hc7)); refine (hop2 _ hc4).mono ?_; rintro e5 w5 ⟨rfl, rfl⟩)
        | (go_at_call 66; refine (hdb _).mono ?_; rintro e6 w6 ⟨rfl, rfl⟩)
        | (go_at_call 23; refine (hno _ hc4).mono ?_; rintro e7 w7 ⟨rfl, hc7, hg7⟩)
        | (go_at_call 22; refine (hop3 _ hc7).mono ?_; rintro e8 w8 ⟨rfl, rfl⟩))
          first | (refine bodyPost_ret (results_none rfl _ _ _) rfl ?_) | go_end0
          exact ⟨rfl, _, _, _, _, hc7, (hg2.trans hg4).trans hg7, A3.out.1, Or.inr AF.out⟩
        | some v2 =>
          have hyes2 : ∀ W, Ctx B base R a L C most W s2 vO vT → Calls Tryd.prog 23 #[.pointer (some ⟨R, 0, none⟩), .int .i64 (dmore y : Int)] W fun e w' => e = .returned (.int .i64 (v2 : Int)) ∧ Ctx B base R a L C most w' { s2 with pos := s2.pos + dmore y } vO vT ∧ Chg R vO vT vO vT W w' := fun W hW => hW.number_some (dmore y) v2 (by omega) hnum2
          have hv2b := numb_lt hnum2
          have hv2c : v2 < 8192 := Nat.lt_of_lt_of_le hv2b (show 2 ^ dmore y ≤ 2 ^ 13 from Nat.pow_le_pow_right (by decide) hdm)
          obtain ⟨s3, hs3⟩ : ∃ s3 : Rs, { s2 with pos := s2.pos + dmore y } = s3 := ⟨_, rfl⟩
          obtain ⟨d, hd⟩ : ∃ d, dbase y + v2 = d := ⟨_, rfl⟩
          have ho3 : Opn s3 := by rw [← hs3]; exact A3.out.2.1
          have hso3 : s3.out = s.out := by rw [← hs3]; exact A3.out.2.2
          have hrun3 : Runs (allb B) most c0 ⟨if s3.out.length < d then .bad 14 else .copy last lit di n d, s3.pos, s3.out, s3.times⟩ := by
            refine A3.out.1.trans (Runs.one ?_)
            rw [← hs3, ← hd]
            unfold step; simp only [hnum2]; rfl
          have hd1 : 1 ≤ d := by
            have : 1 ≤ dbase y := by
              have : ∀ i, i ≤ 30 → 1 ≤ dbs i := by decide
              exact this y (by omega)
            omega
          rw [hs3] at hyes2
          have hop3 : ∀ W, Ctx B base R a L C most W s3 vO vT → Calls Tryd.prog 22 #[.pointer (some ⟨R, 0, none⟩)] W fun e w' => e = .returned (.bool true) ∧ W = w' := fun W hW => hW.open_ true ho3.opn
          obtain ⟨db, hdbe⟩ : ∃ db, dbase y = db := ⟨_, rfl⟩
          obtain ⟨dm, hdme⟩ : ∃ dm, dmore y = dm := ⟨_, rfl⟩
          rw [hdbe, hdme] at hdb
          rw [hdme] at hyes2
          rw [hdbe] at hdbl hd
          have hdI : (db : Int) + (v2 : Int) = (d : Int) := by omega
          have hdb2 : d ≤ 48192 := by omega
          obtain ⟨N, hN⟩ : ∃ N, s.out.length = N := ⟨_, rfl⟩
          rw [hso3, hN] at hrun3
          have A4 : Aside (Runs (allb B) most c0 ⟨if N < d then .bad 14 else .copy last lit di n d, s3.pos, s3.out, s3.times⟩ ∧ Opn s3 ∧ s3.out = s.out ∧ s.out.length = N ∧ 1 ≤ d) := ⟨by rw [hso3]; exact hrun3, ho3, hso3, hN, hd1⟩
          clear hnum2 hdbe hdme hdm hy29 hs3 hd ho3 hso3 hrun3 hv2b hN hd1 A3
          have sh : ∀ W, Ctx B base R a L C most W s3 vO vT → ∃ oa oc, vO = .slice oa N oc := fun W hW => by
            obtain ⟨oa, oc, e⟩ := own_shape hW.run.oo
            rw [A4.out.2.2.1, A4.out.2.2.2.1] at e
            exact ⟨oa, oc, e⟩
          by_cases hdN : N < d
          · have tN : (N : Int) < (d : Int) := by omega
            have hst : ∀ W, Ctx B base R a L C most W s3 vO vT → Calls Tryd.prog 29 #[.pointer (some ⟨R, 0, none⟩), .int .i64 14] W fun e w' => e = .returned (.tuple #[]) ∧ Ctx B base R a L C most w' { s3 with why := 14, at_ := (s3.pos - 1) / 8 } vO vT ∧ Chg R vO vT vO vT W w' := fun W hW => hW.stop 14
            have hfin : Fin (allb B) most L ⟨.bad 14, s3.pos, s3.out, s3.times⟩ { s3 with why := 14, at_ := (s3.pos - 1) / 8 } := Fin.bad 14 rfl rfl rfl A4.out.2.1.2 (by decide) rfl
            have AF : Aside (Fin (allb B) most L ⟨.bad 14, s3.pos, s3.out, s3.times⟩ { s3 with why := 14, at_ := (s3.pos - 1) / 8 } ∧ Runs (allb B) most c0 ⟨.bad 14, s3.pos, s3.out, s3.times⟩) := ⟨hfin, by have := A4.out.1; rw [if_pos hdN] at this; exact this⟩
            clear hfin hdN
            go_enter Tryd.func47, Tryd.ntmps47
            go_upto_region 10 with (first
        | (go_at_call 65; refine hlb.mono ?_; rintro e1 w1 ⟨rfl, rfl⟩)
        | (go_at_call 23; (fail_if_success (have hh := hg2)); refine hyes.mono ?_; rintro e2 w2 ⟨rfl, hc2, hg2⟩)
        | (go_at_call 22; (fail_if_success (have hh := hc4)); refine (hop1 _ hc2).mono ?_; rintro e3 w3 ⟨rfl, rfl⟩)
        | (go_at_call 46; refine (hsym _ hc2 hg2).mono ?_; rintro e4 w4 ⟨rfl, hc4, hg4⟩)
        | (go_at_call 22; (fail_if_success (have hh := hc7)); refine (hop2 _ hc4).mono ?_; rintro e5 w5 ⟨rfl, rfl⟩)
        | (go_at_call 66; refine (hdb _).mono ?_; rintro e6 w6 ⟨rfl, rfl⟩)
        | (go_at_call 23; refine (hyes2 _ hc4).mono ?_; rintro e7 w7 ⟨rfl, hc7, hg7⟩)
        | (go_at_call 22; refine (hop3 _ hc7).mono ?_; rintro e8 w8 ⟨rfl, rfl⟩))
            obtain ⟨oa, oc, hvO⟩ := sh _ hc7
            have c2 := hc7.run.c2
            rw [hvO] at c2
            have A7 : Aside (Chg R vO vT vO vT w w7) := (hg2.trans hg4).trans hg7
            have hst7 := hst _ hc7
            clear hg2 hg4 hg7 hc2 hc4 hvO
            go_wp2_with (go_at_call 29; refine hst7.mono ?_; rintro e9 w9 ⟨rfl, hc9, hg9⟩)
            first | (refine bodyPost_ret (results_none rfl _ _ _) rfl ?_) | go_end0
            exact ⟨rfl, _, _, _, _, hc9, A7.out.trans hg9, AF.out.2, Or.inr AF.out.1⟩
          · have tN : ¬ (N : Int) < (d : Int) := by omega
            have A5 : Aside (Runs (allb B) most c0 ⟨.copy last lit di n d, s3.pos, s3.out, s3.times⟩ ∧ Opn s3 ∧ s3.out = s.out ∧ s.out.length = N ∧ 1 ≤ d ∧ d ≤ N) := ⟨by have := A4.out.1; rw [if_neg hdN] at this; exact this, A4.out.2.1, A4.out.2.2.1, A4.out.2.2.2.1, A4.out.2.2.2.2, by omega⟩
            clear A4 hdN
            go_enter Tryd.func47, Tryd.ntmps47
            go_upto_region 10 with (first
        | (go_at_call 65; refine hlb.mono ?_; rintro e1 w1 ⟨rfl, rfl⟩)
        | (go_at_call 23; (fail_if_success (have hh := hg2)); refine hyes.mono ?_; rintro e2 w2 ⟨rfl, hc2, hg2⟩)
        | (go_at_call 22; (fail_if_success (have hh := hc4)); refine (hop1 _ hc2).mono ?_; rintro e3 w3 ⟨rfl, rfl⟩)
        | (go_at_call 46; refine (hsym _ hc2 hg2).mono ?_; rintro e4 w4 ⟨rfl, hc4, hg4⟩)
        | (go_at_call 22; (fail_if_success (have hh := hc7)); refine (hop2 _ hc4).mono ?_; rintro e5 w5 ⟨rfl, rfl⟩)
        | (go_at_call 66; refine (hdb _).mono ?_; rintro e6 w6 ⟨rfl, rfl⟩)
        | (go_at_call 23; refine (hyes2 _ hc4).mono ?_; rintro e7 w7 ⟨rfl, hc7, hg7⟩)
        | (go_at_call 22; refine (hop3 _ hc7).mono ?_; rintro e8 w8 ⟨rfl, rfl⟩))
            obtain ⟨oa, oc, hvO⟩ := sh _ hc7
            have c2 := hc7.run.c2
            rw [hvO] at c2
            have A7 : Aside (Chg R vO vT vO vT w w7 ∧ Ctx B base R a L C most w7 s3 vO vT) := ⟨(hg2.trans hg4).trans hg7, hc7⟩
            clear hg2 hg4 hg7 hc2 hc4 hvO sh hc7 hsym hyes hyes2 hop1 hop2 hop3 hdb
            go_wp2_with fail
            clear c2 tN t29
            (try generalize decide ((29 : Int) < (y : Int)) = b29)
            (try generalize decide ((N : Int) < (d : Int)) = bNd)
            (try generalize decide (N < d) = bNd2)
            go_loopg [11] (n + 1) (fun g si wr => ∃ i : Nat, si = .int .i64 (i : Int) ∧ Aside (i + g = n + 1 ∧ i ≤ n ∧ ∃ s4 vO4 vT4 c4, Ctx B base R a L C most wr s4 vO4 vT4 ∧ Chg R vO vT vO4 vT4 w wr ∧ Runs (allb B) most c0 c4 ∧ ((Opn s4 ∧ c4 = ⟨.copy last lit di (n - i) d, s4.pos, s4.out, s4.times⟩ ∧ d ≤ s4.out.length ∧ (∀ y ∈ s4.out, y < 256)) ∨ Fin (allb B) most L c4 s4)))
            case atStart =>
              have a5 := A5.out
              exact ⟨0, rfl, by omega, by omega, s3, vO, vT, _, A7.out.2, A7.out.1, a5.1, Or.inl ⟨a5.2.1, rfl, by rw [a5.2.2.1]; omega, by rw [a5.2.2.1]; exact Hob.out⟩⟩
            case round =>
              obtain ⟨i, rfl, hI⟩ := hrel
              obtain ⟨s4, vO4, vT4, c4, hc4, hg4, hr4, hcase⟩ := hI.out.2.2
              have hI1 := hI.out.1
              have hI2 := hI.out.2.1
              rcases hcase with ⟨ho4, hc4e, hdl, hob4⟩ | hfin
              · by_cases hin : i < n
                · have ti : (i : Int) < (n : Int) := by omega
                  obtain ⟨M, hM⟩ : ∃ M, s4.out.length = M := ⟨_, rfl⟩
                  obtain ⟨q, hq⟩ : ∃ q, M - d = q := ⟨_, rfl⟩
                  have d1 := A5.out.2.2.2.2.1
                  obtain ⟨b, hb⟩ : ∃ b, s4.out[q]? = some b := ⟨_, List.getElem?_eq_getElem (by omega)⟩
                  have hb256 := hob4 b (List.mem_of_getElem? hb)
                  have hqM : (q : Int) < (M : Int) := by omega
                  obtain ⟨g, oc4, cur, hvO4⟩ : ∃ g oc4 cur, vO4 = .slice (some ⟨g, 0, none⟩) M oc4 ∧ wr.heap[g]? = some (.cells cur 5 (0, 0)) ∧ M ≤ oc4 := by
                    rcases hc4.run.oo.2 with ⟨_, h0⟩ | ⟨g, c, cur, hv, _, hh, hcc, _⟩
                    · omega
                    · exact ⟨g, c, cur, by rw [hv, hM], hh, by omega⟩
                  have hcell : wr.cell? ⟨g, q, none⟩ = some (.int .u8 (b : Int)) := by
                    have := hc4.run.oo
                    rw [hvO4.1, hM] at this
                    rw [this.cellAt q (by omega)]
                    simp [vn, hb]
                  have c2 := hc4.run.c2
                  have hop := hc4.open_ true ho4.opn
                  have hgv := hc4.drew.give ho4 b hb256 (.copy last lit di (n - (i + 1)) d)
                  have hMx : M ≤ maxLen := by
                    rcases hc4.run.oo.2 with ⟨_, h0⟩ | ⟨_, c, _, _, _, _, h3, h4, _⟩
                    · rw [← hM, h0]; exact Nat.zero_le _
                    · rw [← hM]; exact Nat.le_trans h3 h4
                  have hwr : ∀ z : Int, z = (M : Int) - (d : Int) → IntKind.i64.wrap z = (q : Int) := wrap_sub hMx (by omega) hq
                  have hstep : step (allb B) most c4 = some (YtikdpnpkmmmacaaDoor.give most (.copy last lit di (n - (i + 1)) d) b s4.pos ⟨.copy last lit di (n - (i + 1)) d, s4.pos, s4.out, s4.times⟩) := by
                    rw [hc4e, show n - i = (n - (i + 1)) + 1 by omega]
                    unfold step
                    simp only [hM, hq]
                    rw [List.getD_eq_getElem?_getD, hb]
                    rfl
                  have AR : Aside (i + gk = n + 1 ∧ i < n ∧ Runs (allb B) most c0 (YtikdpnpkmmmacaaDoor.give most (.copy last lit di (n - (i + 1)) d) b s4.pos ⟨.copy last lit di (n - (i + 1)) d, s4.pos, s4.out, s4.times⟩) ∧ Chg R vO vT vO4 vT4 w wr ∧ (∀ y ∈ s4.out, y < 256) ∧ b < 256 ∧ s4.out.length = M ∧ d ≤ M) := ⟨hI1, hin, hr4.trans (Runs.one hstep), hg4, hob4, hb256, hM, by omega⟩
                  obtain ⟨hvO4, _⟩ := hvO4
                  subst hvO4
                  clear hI hI1 hI2 hc4 hg4 hr4 ho4 hc4e hdl hob4 hin hM hq d1 hb hb256 hstep
                  go_upto_region 15 with (go_at_call 22; refine hop.mono ?_; rintro e9 w9 ⟨rfl, rfl⟩)
                  go_region_with (go_at_call 44; refine hgv.mono ?_; rintro e10 w10 ⟨rfl, s5, vO5, vT5, c5, hc5, hg5, hce5, hcase5⟩)
                  all_goals
                    have A10 : Aside (Ctx B base R a L C most w10 s5 vO5 vT5 ∧ Chg R (.slice (some ⟨g, 0, none⟩) M oc4) vT4 vO5 vT5 wr w10 ∧ Runs (allb B) most c0 c5 ∧ ((Opn s5 ∧ c5 = ⟨.copy last lit di (n - (i + 1)) d, s5.pos, s5.out, s5.times⟩ ∧ d ≤ s5.out.length ∧ (∀ y ∈ s5.out, y < 256)) ∨ Fin (allb B) most L c5 s5)) := by
                      have ar := AR.out
                      refine ⟨hc5, (Chg.drawn ⟨1, rfl⟩).trans hg5, by rw [hce5]; exact ar.2.2.1, ?_⟩
                      rcases hcase5 with ⟨h1, h2, h3, h4⟩ | h1
                      · refine Or.inl ⟨h1, h2, by rw [h3, List.length_append]; omega, fun z hz => ?_⟩
                        rw [h3] at hz
                        rcases List.mem_append.1 hz with h5 | h5
                        · exact ar.2.2.2.2.1 z h5
                        · rw [List.mem_singleton.1 h5]; exact ar.2.2.2.2.2.1
                      · exact Or.inr h1
                    clear hc5 hg5 hce5 hcase5 hgv hop hcell c2 hwr
                    go_wp2_with fail
                    go_roundg (n - i)
                    case measure => have := AR.out; omega
                    case rel =>
                      have ar := AR.out
                      have a10 := A10.out
                      exact ⟨i + 1, by go_num, by omega, by omega, s5, vO5, vT5, c5, a10.1, ar.2.2.2.1.trans a10.2.1, a10.2.2.1, a10.2.2.2⟩
                · have hin2 : i = n := by omega
                  subst hin2
                  have ti : ¬ (i : Int) < (i : Int) := by omega
                  have AR : Aside (Left B base R a L C most vO vT w wr c0 (.sym last lit di)) := ⟨s4, vO4, vT4, _, hc4, hg4, hr4.trans (Runs.one (by rw [hc4e, Nat.sub_self]; rfl)), Or.inl ⟨ho4, rfl⟩⟩
                  clear hI hI1 hI2 hc4 hg4 hr4 ho4 hc4e hdl hob4 hin
                  go_wp2_with fail
                  first | (refine bodyPost_ret (results_none rfl _ _ _) rfl ?_) | go_end0
                  exact ⟨rfl, AR.out⟩
              · have hop := hc4.open_ false hfin.opn
                have AR : Aside (Left B base R a L C most vO vT w wr c0 (.sym last lit di)) := ⟨s4, vO4, vT4, _, hc4, hg4, hr4, Or.inr hfin⟩
                by_cases hin : i < n
                · have ti : (i : Int) < (n : Int) := by omega
                  clear hI hI1 hI2 hc4 hg4 hr4 hfin hin
                  go_wp2_with (go_at_call 22; refine hop.mono ?_; rintro e9 w9 ⟨rfl, rfl⟩)
                  first | (refine bodyPost_ret (results_none rfl _ _ _) rfl ?_) | go_end0
                  exact ⟨rfl, AR.out⟩
                · have ti : ¬ (i : Int) < (n : Int) := by omega
                  clear hI hI1 hI2 hc4 hg4 hr4 hfin hin
                  go_wp2_with fail
                  first | (refine bodyPost_ret (results_none rfl _ _ _) rfl ?_) | go_end0
                  exact ⟨rfl, AR.out⟩
end Go.Proofs.YtikdpnpkmmmacaaDoor

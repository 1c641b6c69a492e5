/-
  Own texts of this seat, one behind the other: what each says stands ahead of it.
-/
import Derived.Test.YtikdpnpkmmmacaaDoorMi
import Derived.Laws.AppendOwnNone
/-
  What the document's symbols comes to: a block's symbols, told by the machine's steps.
-/
namespace Go.Proofs.YtikdpnpkmmmacaaDoor
open Go.RowKit
set_option linter.unusedVariables false
theorem give_pos {most : Nat} {k : St} {b p : Nat} {c : Cfg} : (give most k b p c).pos = p := by unfold give; split <;> rfl
theorem step_pos {bs : List Bool} {most : Nat} {c d : Cfg} (h : step bs most c = some d) : c.pos ≤ d.pos := by
  obtain ⟨st, pos, out, times⟩ := c
  unfold step at h
  cases st using St.el with
  | head last =>
    cases last with
    | true => simp only [Option.some.injEq] at h; rw [← h]; exact Nat.le_refl _
    | false => simp only [Option.map_eq_some_iff] at h; obtain ⟨v, _, rfl⟩ := h; show pos ≤ pos + 3; omega
  | slen last => simp only [Option.map_eq_some_iff] at h; obtain ⟨v, _, rfl⟩ := h; show pos ≤ (pos + 7) / 8 * 8 + 16; omega
  | snot last l => simp only [Option.map_eq_some_iff] at h; obtain ⟨v, _, rfl⟩ := h; show pos ≤ pos + 16; omega
  | sraw last n =>
    cases n with
    | zero => simp only [Option.some.injEq] at h; rw [← h]; exact Nat.le_refl _
    | succ n => simp only [Option.map_eq_some_iff] at h; obtain ⟨v, _, rfl⟩ := h; rw [give_pos]; show pos ≤ pos + 8; omega
  | dnum last => simp only [Option.map_eq_some_iff] at h; obtain ⟨v, _, rfl⟩ := h; show pos ≤ pos + 14; omega
  | dfst last a b k i first =>
    simp only [] at h
    split at h
    · simp only [Option.map_eq_some_iff] at h; obtain ⟨v, _, rfl⟩ := h; show pos ≤ pos + 3; omega
    · simp only [Option.some.injEq] at h; rw [← h]; exact Nat.le_refl _
  | dsym last a b code l =>
    simp only [] at h
    split at h
    · split at h
      · cases h
      · simp only [Option.some.injEq] at h; rw [← h]; show pos ≤ pos + _; omega
      · simp only [Option.some.injEq] at h; rw [← h]; show pos ≤ pos + _; omega
    · simp only [Option.some.injEq] at h; rw [← h]; exact Nat.le_refl _
  | drep last a b code l s => simp only [Option.map_eq_some_iff] at h; obtain ⟨v, _, rfl⟩ := h; show pos ≤ pos + _; omega
  | sym last lit di =>
    simp only [] at h
    split at h
    · cases h
    · simp only [Option.some.injEq] at h; rw [← h]; show pos ≤ pos + _; omega
    · split at h
      · simp only [Option.some.injEq] at h; rw [← h, give_pos]; show pos ≤ pos + _; omega
      · simp only [Option.some.injEq] at h; rw [← h]; show pos ≤ pos + _; omega
  | lext last lit di s => simp only [Option.map_eq_some_iff] at h; obtain ⟨v, _, rfl⟩ := h; show pos ≤ pos + _; omega
  | dist last lit di n =>
    simp only [] at h
    split at h
    · cases h
    · simp only [Option.some.injEq] at h; rw [← h]; show pos ≤ pos + _; omega
    · simp only [Option.some.injEq] at h; rw [← h]; show pos ≤ pos + _; omega
  | dext last lit di n x => simp only [Option.map_eq_some_iff] at h; obtain ⟨v, _, rfl⟩ := h; show pos ≤ pos + _; omega
  | copy last lit di n d =>
    cases n with
    | zero => simp only [Option.some.injEq] at h; rw [← h]; exact Nat.le_refl _
    | succ n => simp only [Option.some.injEq] at h; rw [← h, give_pos]; exact Nat.le_refl _
  | done => cases h
  | bad y => cases h
theorem Runs.pos {bs : List Bool} {most : Nat} {c d : Cfg} (h : Runs bs most c d) : c.pos ≤ d.pos := by
  induction h using Runs.el with
  | refl => exact Nat.le_refl _
  | cons h1 _ ih => exact Nat.le_trans (step_pos h1) ih
variable {w u : World} {base R L C most : Nat} {a : Option Addr} {s : Rs} {vO vT : Value} {B : List Nat}
theorem Left.of {s' : Rs} {vO' vT' : Value} {c' : Cfg} {c0 : Cfg} {k : St} {w' : World} (h1 : Ctx B base R a L C most w' s' vO' vT') (h2 : Chg R vO vT vO' vT' w w') (h3 : Runs (allb B) most c0 c') (h4 : (Opn s' ∧ c' = ⟨k, s'.pos, s'.out, s'.times⟩) ∨ Fin (allb B) most L c' s') : Left B base R a L C most vO vT w w' c0 k := ⟨s', vO', vT', c', h1, h2, h3, h4⟩
set_option maxRecDepth 100000 in
set_option maxHeartbeats 8000000 in
theorem symbols_c (h : Ctx B base R a L C most w s vO vT) (ho : Opn s) (Tl Td : Nat) (lit di : List Nat) (last : Bool) (hl : Tab R vO vT w Tl lit) (hd : Tab R vO vT w Td di) :
    Calls Tryd.prog 27 #[.pointer (some ⟨R, 0, none⟩), .pointer (some ⟨Tl, 0, none⟩), .pointer (some ⟨Td, 0, none⟩)] w fun e w' => e = .returned (.tuple #[]) ∧ Left B base R a L C most vO vT w w' ⟨.sym last lit di, s.pos, s.out, s.times⟩ (.head last) := by
  obtain ⟨c0, hc0⟩ : ∃ c0, (⟨.sym last lit di, s.pos, s.out, s.times⟩ : Cfg) = c0 := ⟨_, rfl⟩
  rw [hc0]
  have A0 : Aside (Ctx B base R a L C most w s vO vT ∧ Opn s ∧ Tab R vO vT w Tl lit ∧ Tab R vO vT w Td di ∧ (⟨.sym last lit di, s.pos, s.out, s.times⟩ : Cfg) = c0) := ⟨h, ho, hl, hd, hc0⟩
  clear h ho hl hd hc0
  go_enter Tryd.func27, Tryd.ntmps27
  go_wp2_with fail
  go_loopg [] (8 * L + 2) (fun g wr => Aside (∃ s1 vO1 vT1 c1, Ctx B base R a L C most wr s1 vO1 vT1 ∧ Chg R vO vT vO1 vT1 w wr ∧ Runs (allb B) most c0 c1 ∧ ((Opn s1 ∧ c1 = ⟨.sym last lit di, s1.pos, s1.out, s1.times⟩ ∧ 8 * L + 2 ≤ s1.pos + g) ∨ Fin (allb B) most L c1 s1)))
  case atStart => exact ⟨s, vO, vT, _, A0.out.1, Chg.refl _ _ _ _, Runs.refl _, Or.inl ⟨A0.out.2.1, A0.out.2.2.2.2.symm, by omega⟩⟩
  case round =>
    obtain ⟨s1, vO1, vT1, c1, hc1, hg1, hr1, hcase⟩ := hrel.out
    rcases hcase with ⟨ho1, he1, hm1⟩ | hfin
    · have hop := hc1.open_ true ho1.opn
      obtain ⟨r, hr⟩ : ∃ r, sread lit ((allb B).drop s1.pos) = r := ⟨_, rfl⟩
      have hsym := hc1.symbol Tl lit (A0.out.2.2.1.on hg1) r hr
      have hgk : 2 ≤ gk := by have := hc1.pos; omega
      have A1 : Aside (Chg R vO vT vO1 vT1 w wr ∧ Runs (allb B) most c0 ⟨.sym last lit di, s1.pos, s1.out, s1.times⟩ ∧ Opn s1 ∧ sread lit ((allb B).drop s1.pos) = r ∧ 8 * L + 2 ≤ s1.pos + gk ∧ 2 ≤ gk) := ⟨hg1, by rw [← he1]; exact hr1, ho1, hr, hm1, hgk⟩
      clear hrel hc1 hg1 hr1 ho1 he1 hm1 hr hgk
      cases r using SR.el with
      | cut =>
        have hfin : Fin (allb B) most L ⟨.sym last lit di, s1.pos, s1.out, s1.times⟩ (symS .cut L s1) := Fin.cut (by unfold step; simp only [A1.out.2.2.2.1]) rfl rfl A1.out.2.2.1.2 (by intro y e; cases e) (by intro e; cases e)
        have hop2 : ∀ W, Ctx B base R a L C most W (symS .cut L s1) vO1 vT1 → Calls Tryd.prog 22 #[.pointer (some ⟨R, 0, none⟩)] W fun e w' => e = .returned (.bool false) ∧ W = w' := fun W hW => hW.open_ false hfin.opn
        have AF : Aside (Fin (allb B) most L ⟨.sym last lit di, s1.pos, s1.out, s1.times⟩ (symS .cut L s1)) := hfin
        clear hfin
        go_wp2_with (first
          | (go_at_call 22; (fail_if_success (have hh := hc4)); refine hop.mono ?_; rintro e3 w3 ⟨rfl, rfl⟩)
          | (go_at_call 46; refine hsym.mono ?_; rintro e4 w4 ⟨rfl, hc4, hg4⟩)
          | (go_at_call 22; refine (hop2 _ hc4).mono ?_; rintro e5 w5 ⟨rfl, rfl⟩))
        first | (refine bodyPost_ret (results_none rfl _ _ _) rfl ?_) | go_end0
        exact ⟨rfl, Left.of hc4 (A1.out.1.trans hg4) A1.out.2.1 (Or.inr AF.out)⟩
      | bad j =>
        have hfin : Fin (allb B) most L ⟨.bad 13, s1.pos + j, s1.out, s1.times⟩ (symS (.bad j) L s1) := Fin.bad (s := { s1 with pos := s1.pos + j }) 13 rfl rfl rfl A1.out.2.2.1.2 (by decide) rfl
        have hop2 : ∀ W, Ctx B base R a L C most W (symS (.bad j) L s1) vO1 vT1 → Calls Tryd.prog 22 #[.pointer (some ⟨R, 0, none⟩)] W fun e w' => e = .returned (.bool false) ∧ W = w' := fun W hW => hW.open_ false hfin.opn
        have AF : Aside (Fin (allb B) most L ⟨.bad 13, s1.pos + j, s1.out, s1.times⟩ (symS (.bad j) L s1) ∧ Runs (allb B) most c0 ⟨.bad 13, s1.pos + j, s1.out, s1.times⟩) := ⟨hfin, A1.out.2.1.trans (Runs.one (by unfold step; simp only [A1.out.2.2.2.1]))⟩
        clear hfin
        go_wp2_with (first
          | (go_at_call 22; (fail_if_success (have hh := hc4)); refine hop.mono ?_; rintro e3 w3 ⟨rfl, rfl⟩)
          | (go_at_call 46; refine hsym.mono ?_; rintro e4 w4 ⟨rfl, hc4, hg4⟩)
          | (go_at_call 22; refine (hop2 _ hc4).mono ?_; rintro e5 w5 ⟨rfl, rfl⟩))
        first | (refine bodyPost_ret (results_none rfl _ _ _) rfl ?_) | go_end0
        exact ⟨rfl, Left.of hc4 (A1.out.1.trans hg4) AF.out.2 (Or.inr AF.out.1)⟩
      | got x n =>
        have hx15 : 0 < n := by
          have := sread_le (ls := lit) (h := (allb B).drop s1.pos)
          rw [A1.out.2.2.2.1] at this
          exact this.2.1
        have hxl : x < 320 := by
          have := sread_le (ls := lit) (h := (allb B).drop s1.pos)
          rw [A1.out.2.2.2.1] at this
          have h1 := (List.getElem?_eq_some_iff.1 this.1).1
          have := A0.out.2.2.1.len
          omega
        obtain ⟨s2, hs2⟩ : ∃ s2 : Rs, symS (.got x n) L s1 = s2 := ⟨_, rfl⟩
        have ho2 : Opn s2 := by rw [← hs2]; exact A1.out.2.2.1
        have hp2 : s2.pos = s1.pos + n := by rw [← hs2]; rfl
        have ho2o : s2.out = s1.out := by rw [← hs2]; rfl
        have ho2t : s2.times = s1.times := by rw [← hs2]; rfl
        rw [hs2] at hsym
        have hsym' : Calls Tryd.prog 46 #[.pointer (some ⟨R, 0, none⟩), .pointer (some ⟨Tl, 0, none⟩)] wr fun e w' => e = .returned (.int .i64 (x : Int)) ∧ Ctx B base R a L C most w' s2 vO1 vT1 ∧ Chg R vO1 vT1 vO1 vT1 wr w' := hsym
        clear hsym
        have hop2 : ∀ W, Ctx B base R a L C most W s2 vO1 vT1 → Calls Tryd.prog 22 #[.pointer (some ⟨R, 0, none⟩)] W fun e w' => e = .returned (.bool true) ∧ W = w' := fun W hW => hW.open_ true ho2.opn
        have hstep : step (allb B) most ⟨.sym last lit di, s1.pos, s1.out, s1.times⟩ = if x < 256 then some (give most (.sym last lit di) x s2.pos ⟨.sym last lit di, s2.pos, s2.out, s2.times⟩) else some ⟨if x = 256 then .head last else if 285 < x then .bad 13 else .lext last lit di x, s2.pos, s2.out, s2.times⟩ := by
          rw [hp2, ho2o, ho2t]
          unfold step
          simp only [A1.out.2.2.2.1]
          rfl
        have A2 : Aside (Chg R vO vT vO1 vT1 w wr ∧ Runs (allb B) most c0 ⟨.sym last lit di, s1.pos, s1.out, s1.times⟩ ∧ step (allb B) most ⟨.sym last lit di, s1.pos, s1.out, s1.times⟩ = (if x < 256 then some (give most (.sym last lit di) x s2.pos ⟨.sym last lit di, s2.pos, s2.out, s2.times⟩) else some ⟨if x = 256 then .head last else if 285 < x then .bad 13 else .lext last lit di x, s2.pos, s2.out, s2.times⟩) ∧ Opn s2 ∧ 8 * L + 3 ≤ s2.pos + gk ∧ 2 ≤ gk) := ⟨A1.out.1, A1.out.2.1, hstep, ho2, by have := A1.out; omega, A1.out.2.2.2.2.2⟩
        clear hs2 hp2 ho2o ho2t hstep A1 hx15 ho2
        by_cases h256 : x = 256
        · subst h256
          have AF : Aside (Runs (allb B) most c0 ⟨.head last, s2.pos, s2.out, s2.times⟩) := A2.out.2.1.trans (Runs.one (by rw [A2.out.2.2.1]; rfl))
          go_wp2_with (first
            | (go_at_call 22; (fail_if_success (have hh := hc4)); refine hop.mono ?_; rintro e3 w3 ⟨rfl, rfl⟩)
            | (go_at_call 46; refine hsym'.mono ?_; rintro e4 w4 ⟨rfl, hc4, hg4⟩)
            | (go_at_call 22; refine (hop2 _ hc4).mono ?_; rintro e5 w5 ⟨rfl, rfl⟩))
          first | (refine bodyPost_ret (results_none rfl _ _ _) rfl ?_) | go_end0
          exact ⟨rfl, Left.of hc4 (A2.out.1.trans hg4) AF.out (Or.inl ⟨A2.out.2.2.2.1, rfl⟩)⟩
        · have t256 : ((x : Int) == 256) = false := beq_eq_false_iff_ne.2 (by omega)
          by_cases hlt : x < 256
          · have tl : (x : Int) < 256 := by omega
            have hgv : ∀ W, Ctx B base R a L C most W s2 vO1 vT1 → Calls Tryd.prog 44 #[.pointer (some ⟨R, 0, none⟩), .int .u8 (x : Int)] W fun e w' => e = .returned (.tuple #[]) ∧ ∃ s' vO' vT' c', Ctx B base R a L C most w' s' vO' vT' ∧ Chg R vO1 vT1 vO' vT' W w' ∧ c' = give most (.sym last lit di) x s2.pos ⟨.sym last lit di, s2.pos, s2.out, s2.times⟩ ∧ ((Opn s' ∧ c' = ⟨.sym last lit di, s'.pos, s'.out, s'.times⟩ ∧ s'.out = s2.out ++ [x] ∧ s'.pos = s2.pos) ∨ Fin (allb B) most L c' s') := fun W hW => hW.give A2.out.2.2.2.1 x hlt (.sym last lit di)
            have AF : Aside (Runs (allb B) most c0 (give most (.sym last lit di) x s2.pos ⟨.sym last lit di, s2.pos, s2.out, s2.times⟩)) := A2.out.2.1.trans (Runs.one (by rw [A2.out.2.2.1, if_pos hlt]))
            clear hlt h256
            go_wp2_with (first
              | (go_at_call 22; (fail_if_success (have hh := hc4)); refine hop.mono ?_; rintro e3 w3 ⟨rfl, rfl⟩)
              | (go_at_call 46; refine hsym'.mono ?_; rintro e4 w4 ⟨rfl, hc4, hg4⟩)
              | (go_at_call 22; refine (hop2 _ hc4).mono ?_; rintro e5 w5 ⟨rfl, rfl⟩)
              | (go_at_call 44; refine (hgv _ hc4).mono ?_; rintro e6 w6 ⟨rfl, s5, vO5, vT5, c5, hc5, hg5, hce5, hcase5⟩))
            have A6 : Aside (∃ s1 vO1 vT1 c1, Ctx B base R a L C most w6 s1 vO1 vT1 ∧ Chg R vO vT vO1 vT1 w w6 ∧ Runs (allb B) most c0 c1 ∧ ((Opn s1 ∧ c1 = ⟨.sym last lit di, s1.pos, s1.out, s1.times⟩ ∧ 8 * L + 2 ≤ s1.pos + (gk - 1)) ∨ Fin (allb B) most L c1 s1)) := by
              refine ⟨s5, vO5, vT5, c5, hc5, (A2.out.1.trans hg4).trans hg5, by rw [hce5]; exact AF.out, ?_⟩
              rcases hcase5 with ⟨q1, q2, q3, q4⟩ | q1
              · exact Or.inl ⟨q1, q2, by rw [q4]; have := A2.out; omega⟩
              · exact Or.inr q1
            clear hc4 hg4 hc5 hg5 hce5 hcase5 hgv hop hop2 hsym'
            go_roundg (gk - 1)
            case measure => have := A2.out; omega
            case rel => exact A6.out
          · have tl : ¬ (x : Int) < 256 := by omega
            by_cases h285 : 285 < x
            · have t285 : (285 : Int) < (x : Int) := by omega
              have hst : ∀ W, Ctx B base R a L C most W s2 vO1 vT1 → Calls Tryd.prog 29 #[.pointer (some ⟨R, 0, none⟩), .int .i64 13] W fun e w' => e = .returned (.tuple #[]) ∧ Ctx B base R a L C most w' { s2 with why := 13, at_ := (s2.pos - 1) / 8 } vO1 vT1 ∧ Chg R vO1 vT1 vO1 vT1 W w' := fun W hW => hW.stop 13
              have AF : Aside (Runs (allb B) most c0 ⟨.bad 13, s2.pos, s2.out, s2.times⟩ ∧ Fin (allb B) most L ⟨.bad 13, s2.pos, s2.out, s2.times⟩ { s2 with why := 13, at_ := (s2.pos - 1) / 8 }) := ⟨A2.out.2.1.trans (Runs.one (by rw [A2.out.2.2.1, if_neg hlt, if_neg h256, if_pos h285])), Fin.bad 13 rfl rfl rfl A2.out.2.2.2.1.2 (by decide) rfl⟩
              clear hlt h256 h285
              go_wp2_with (first
                | (go_at_call 22; (fail_if_success (have hh := hc4)); refine hop.mono ?_; rintro e3 w3 ⟨rfl, rfl⟩)
                | (go_at_call 46; refine hsym'.mono ?_; rintro e4 w4 ⟨rfl, hc4, hg4⟩)
                | (go_at_call 22; refine (hop2 _ hc4).mono ?_; rintro e5 w5 ⟨rfl, rfl⟩)
                | (go_at_call 29; refine (hst _ hc4).mono ?_; rintro e6 w6 ⟨rfl, hc5, hg5⟩))
              have A6 : Aside (∃ s1 vO1 vT1 c1, Ctx B base R a L C most w6 s1 vO1 vT1 ∧ Chg R vO vT vO1 vT1 w w6 ∧ Runs (allb B) most c0 c1 ∧ ((Opn s1 ∧ c1 = ⟨.sym last lit di, s1.pos, s1.out, s1.times⟩ ∧ 8 * L + 2 ≤ s1.pos + (gk - 1)) ∨ Fin (allb B) most L c1 s1)) := ⟨_, vO1, vT1, _, hc5, (A2.out.1.trans hg4).trans hg5, AF.out.1, Or.inr AF.out.2⟩
              clear hc4 hg4 hc5 hg5 hst hop hop2 hsym'
              go_roundg (gk - 1)
              case measure => have := A2.out; omega
              case rel => exact A6.out
            · have t285 : ¬ (285 : Int) < (x : Int) := by omega
              have hcp : ∀ W, Ctx B base R a L C most W s2 vO1 vT1 → Chg R vO1 vT1 vO1 vT1 wr W → Calls Tryd.prog 47 #[.pointer (some ⟨R, 0, none⟩), .int .i64 (x : Int), .pointer (some ⟨Td, 0, none⟩)] W fun e w' => e = .returned (.tuple #[]) ∧ Left B base R a L C most vO1 vT1 W w' ⟨.lext last lit di x, s2.pos, s2.out, s2.times⟩ (.sym last lit di) := fun W hW hg => copied_c hW A2.out.2.2.2.1 x (by omega) (by omega) Td lit di last ((A0.out.2.2.2.1.on A2.out.1).on hg)
              have AF : Aside (Runs (allb B) most c0 ⟨.lext last lit di x, s2.pos, s2.out, s2.times⟩) := A2.out.2.1.trans (Runs.one (by rw [A2.out.2.2.1, if_neg hlt, if_neg h256, if_neg h285]))
              clear hlt h256 h285
              go_wp2_with (first
                | (go_at_call 22; (fail_if_success (have hh := hc4)); refine hop.mono ?_; rintro e3 w3 ⟨rfl, rfl⟩)
                | (go_at_call 46; refine hsym'.mono ?_; rintro e4 w4 ⟨rfl, hc4, hg4⟩)
                | (go_at_call 22; refine (hop2 _ hc4).mono ?_; rintro e5 w5 ⟨rfl, rfl⟩)
                | (go_at_call 47; refine (hcp _ hc4 hg4).mono ?_; rintro e6 w6 ⟨rfl, hleft⟩))
              have A6 : Aside (∃ s1 vO1 vT1 c1, Ctx B base R a L C most w6 s1 vO1 vT1 ∧ Chg R vO vT vO1 vT1 w w6 ∧ Runs (allb B) most c0 c1 ∧ ((Opn s1 ∧ c1 = ⟨.sym last lit di, s1.pos, s1.out, s1.times⟩ ∧ 8 * L + 2 ≤ s1.pos + (gk - 1)) ∨ Fin (allb B) most L c1 s1)) := by
                obtain ⟨s5, vO5, vT5, c5, q1, q2, q3, q4⟩ := hleft
                refine ⟨s5, vO5, vT5, c5, q1, (A2.out.1.trans hg4).trans q2, AF.out.trans q3, ?_⟩
                rcases q4 with ⟨k1, k2⟩ | k1
                · refine Or.inl ⟨k1, k2, ?_⟩
                  have := q3.pos
                  rw [k2] at this
                  have h5 : s2.pos ≤ s5.pos := this
                  have := A2.out
                  omega
                · exact Or.inr k1
              clear hc4 hg4 hleft hcp hop hop2 hsym'
              go_roundg (gk - 1)
              case measure => have := A2.out; omega
              case rel => exact A6.out
    · have hop := hc1.open_ false hfin.opn
      have AR : Aside (Left B base R a L C most vO vT w wr c0 (.head last)) := Left.of hc1 hg1 hr1 (Or.inr hfin)
      clear hrel hc1 hg1 hr1 hfin
      go_wp2_with (go_at_call 22; refine hop.mono ?_; rintro e3 w3 ⟨rfl, rfl⟩)
      first | (refine bodyPost_ret (results_none rfl _ _ _) rfl ?_) | go_end0
      exact ⟨rfl, AR.out⟩
end Go.Proofs.YtikdpnpkmmmacaaDoor

/-
  What the document's stored comes to: a stored block, told by the machine's steps.
-/
namespace Go.Proofs.YtikdpnpkmmmacaaDoor
open Go.RowKit
set_option linter.unusedVariables false
variable {w u : World} {base R L C most : Nat} {a : Option Addr} {s : Rs} {vO vT : Value} {B : List Nat}
theorem Ctx.move (h : Ctx B base R a L C most w s vO vT) (p : Nat) (hp : p ≤ 8 * L) : Ctx B base R a L C most (w.setCell ⟨R, 7, none⟩ (.int .i64 (p : Int))) { s with pos := p } vO vT ∧ Chg R vO vT vO vT w (w.setCell ⟨R, 7, none⟩ (.int .i64 (p : Int))) :=
  ⟨h.on (h.run.move p).1 (Chg.of_only (h.run.move p).2) hp h.og, Chg.of_only (h.run.move p).2⟩
set_option maxRecDepth 100000 in
set_option maxHeartbeats 8000000 in
theorem stored_c (h : Ctx B base R a L C most w s vO vT) (ho : Opn s) (last : Bool) :
    Calls Tryd.prog 24 #[.pointer (some ⟨R, 0, none⟩)] w fun e w' => e = .returned (.tuple #[]) ∧ Left B base R a L C most vO vT w w' ⟨.slen last, s.pos, s.out, s.times⟩ (.head last) := by
  obtain ⟨c0, hc0⟩ : ∃ c0, (⟨.slen last, s.pos, s.out, s.times⟩ : Cfg) = c0 := ⟨_, rfl⟩
  rw [hc0]
  obtain ⟨p, hp⟩ : ∃ p, s.pos = p := ⟨_, rfl⟩
  obtain ⟨P, hP⟩ : ∃ P, (p + 7) / 8 * 8 = P := ⟨_, rfl⟩
  have hpl := h.pos
  have hlb := h.lb
  rw [hp] at hpl
  have hPL : P ≤ 8 * L := by omega
  have c7 := h.run.c7
  have f7 := h.run.fz 7
  rw [hp] at c7
  have hmv := h.move P hPL
  obtain ⟨s1, hs1⟩ : ∃ s1 : Rs, { s with pos := P } = s1 := ⟨_, rfl⟩
  obtain ⟨w1, hw1⟩ : ∃ w1, w.setCell ⟨R, 7, none⟩ (.int .i64 (P : Int)) = w1 := ⟨_, rfl⟩
  rw [hs1, hw1] at hmv
  have ho1 : Opn s1 := by rw [← hs1]; exact ho
  have hpI : ((p : Int) + 7) / 8 * 8 = (P : Int) := by omega
  have API : Aside (((p : Int) + 7) / 8 * 8 = (P : Int)) := hpI
  have hp7 : (p : Int) + 7 < 9000000000000000000 := by omega
  have AS : Aside (s.pos = p ∧ (p + 7) / 8 * 8 = P ∧ s1.pos = P ∧ s1.out = s.out ∧ s1.times = s.times ∧ Opn s1 ∧ Opn s ∧ (⟨.slen last, s.pos, s.out, s.times⟩ : Cfg) = c0) := ⟨hp, hP, by rw [← hs1], by rw [← hs1], by rw [← hs1], ho1, ho, hc0⟩
  have A1 : Aside (Ctx B base R a L C most w1 s1 vO vT ∧ Chg R vO vT vO vT w w1) := hmv
  clear h hmv hs1 hc0 hp hP hpl ho ho1 hlb hpI
  go_enter Tryd.func24, Tryd.ntmps24
  go_upto_region 1 with fail
  rw [API.out, hw1]
  clear hw1 c7 f7 hp7
  obtain ⟨num1, hnum1⟩ : ∃ num1, num? (allb B) P 16 = num1 := ⟨_, rfl⟩
  cases num1 with
  | none =>
    have hno := A1.out.1.number_none 16 (by omega) (by rw [AS.out.2.2.1]; exact hnum1)
    have hfin : Fin (allb B) most L c0 { s1 with why := 1, at_ := L } := by
      have q := AS.out
      rw [← q.2.2.2.2.2.2.2]
      exact Fin.cut (by unfold step; simp only [q.1, q.2.1, hnum1]; rfl) q.2.2.2.1 q.2.2.2.2.1 q.2.2.2.2.2.1.2 (by intro y e; cases e) (by intro e; cases e)
    have hop : ∀ W, Ctx B base R a L C most W { s1 with why := 1, at_ := L } vO vT → Calls Tryd.prog 22 #[.pointer (some ⟨R, 0, none⟩)] W fun e w' => e = .returned (.bool false) ∧ W = w' := fun W hW => hW.open_ false hfin.opn
    have AF : Aside (Fin (allb B) most L c0 { s1 with why := 1, at_ := L }) := hfin
    clear hfin hnum1
    go_wp2_with (first
      | (go_at_call 23; refine hno.mono ?_; rintro e2 w2 ⟨rfl, hc2, hg2⟩)
      | (go_at_call 22; refine (hop _ hc2).mono ?_; rintro e3 w3 ⟨rfl, rfl⟩))
    first | (refine bodyPost_ret (results_none rfl _ _ _) rfl ?_) | go_end0
    exact ⟨rfl, Left.of hc2 (A1.out.2.trans hg2) (Runs.refl _) (Or.inr AF.out)⟩
  | some l =>
    have hyes := A1.out.1.number_some 16 l (by omega) (by rw [AS.out.2.2.1]; exact hnum1)
    have hl16 := numb_lt hnum1
    obtain ⟨s2, hs2⟩ : ∃ s2 : Rs, { s1 with pos := s1.pos + 16 } = s2 := ⟨_, rfl⟩
    rw [hs2] at hyes
    have A2 : Aside (Opn s2 ∧ Runs (allb B) most c0 ⟨.snot last l, s2.pos, s2.out, s2.times⟩) := by
      have q := AS.out
      refine ⟨by rw [← hs2]; exact q.2.2.2.2.2.1, ?_⟩
      rw [← q.2.2.2.2.2.2.2, ← hs2]
      refine Runs.one ?_
      unfold step
      simp only [q.1, q.2.1, hnum1, q.2.2.1, q.2.2.2.1, q.2.2.2.2.1]
      rfl
    have hop : ∀ W, Ctx B base R a L C most W s2 vO vT → Calls Tryd.prog 22 #[.pointer (some ⟨R, 0, none⟩)] W fun e w' => e = .returned (.bool true) ∧ W = w' := fun W hW => hW.open_ true A2.out.1.opn
    clear hs2 hnum1 AS
    cases hnum2 : num? (allb B) s2.pos 16 with
    | none =>
      have hno : ∀ W, Ctx B base R a L C most W s2 vO vT → Calls Tryd.prog 23 #[.pointer (some ⟨R, 0, none⟩), .int .i64 16] W fun e w' => e = .returned (.int .i64 0) ∧ Ctx B base R a L C most w' { s2 with why := 1, at_ := L } vO vT ∧ Chg R vO vT vO vT W w' := fun W hW => hW.number_none 16 (by omega) hnum2
      have hfin : Fin (allb B) most L ⟨.snot last l, s2.pos, s2.out, s2.times⟩ { s2 with why := 1, at_ := L } := Fin.cut (by unfold step; simp only [hnum2]; rfl) rfl rfl A2.out.1.2 (by intro y e; cases e) (by intro e; cases e)
      have hop3 : ∀ W, Ctx B base R a L C most W { s2 with why := 1, at_ := L } vO vT → Calls Tryd.prog 22 #[.pointer (some ⟨R, 0, none⟩)] W fun e w' => e = .returned (.bool false) ∧ W = w' := fun W hW => hW.open_ false hfin.opn
      have AF : Aside (Fin (allb B) most L ⟨.snot last l, s2.pos, s2.out, s2.times⟩ { s2 with why := 1, at_ := L }) := hfin
      clear hfin hnum2
      go_wp2_with (first
        | (go_at_call 23; (fail_if_success (have hh := hg2)); refine hyes.mono ?_; rintro e2 w2 ⟨rfl, hc2, hg2⟩)
        | (go_at_call 22; (fail_if_success (have hh := hg4)); refine (hop _ hc2).mono ?_; rintro e3 w3 ⟨rfl, rfl⟩)
        | (go_at_call 23; refine (hno _ hc2).mono ?_; rintro e4 w4 ⟨rfl, hc4, hg4⟩)
        | (go_at_call 22; refine (hop3 _ hc4).mono ?_; rintro e5 w5 ⟨rfl, rfl⟩))
      first | (refine bodyPost_ret (results_none rfl _ _ _) rfl ?_) | go_end0
      exact ⟨rfl, Left.of hc4 ((A1.out.2.trans hg2).trans hg4) A2.out.2 (Or.inr AF.out)⟩
    | some m =>
      have hyes2 : ∀ W, Ctx B base R a L C most W s2 vO vT → Calls Tryd.prog 23 #[.pointer (some ⟨R, 0, none⟩), .int .i64 16] W fun e w' => e = .returned (.int .i64 (m : Int)) ∧ Ctx B base R a L C most w' { s2 with pos := s2.pos + 16 } vO vT ∧ Chg R vO vT vO vT W w' := fun W hW => hW.number_some 16 m (by omega) hnum2
      have hm16 := numb_lt hnum2
      obtain ⟨s3, hs3⟩ : ∃ s3 : Rs, { s2 with pos := s2.pos + 16 } = s3 := ⟨_, rfl⟩
      rw [hs3] at hyes2
      have A3 : Aside (Opn s3 ∧ Runs (allb B) most c0 ⟨if l + m = 65535 then .sraw last l else .bad 11, s3.pos, s3.out, s3.times⟩) := by
        refine ⟨by rw [← hs3]; exact A2.out.1, A2.out.2.trans ?_⟩
        rw [← hs3]
        refine Runs.one ?_
        unfold step
        simp only [hnum2]
        rfl
      have hop3 : ∀ W, Ctx B base R a L C most W s3 vO vT → Calls Tryd.prog 22 #[.pointer (some ⟨R, 0, none⟩)] W fun e w' => e = .returned (.bool true) ∧ W = w' := fun W hW => hW.open_ true A3.out.1.opn
      have hl64 : l < 65536 := hl16
      have hm64 : m < 65536 := hm16
      clear hs3 hnum2 A2 hl16 hm16
      by_cases hlm : l + m = 65535
      · have tlm : ((l : Int) + (m : Int) == 65535) = true := beq_iff_eq.2 (by omega)
        have A4 : Aside (Runs (allb B) most c0 ⟨.sraw last l, s3.pos, s3.out, s3.times⟩) := by have := A3.out.2; rw [if_pos hlm] at this; exact this
        clear hlm
        go_upto_region 7 with (first
          | (go_at_call 23; (fail_if_success (have hh := hg2)); refine hyes.mono ?_; rintro e2 w2 ⟨rfl, hc2, hg2⟩)
          | (go_at_call 22; (fail_if_success (have hh := hg4)); refine (hop _ hc2).mono ?_; rintro e3 w3 ⟨rfl, rfl⟩)
          | (go_at_call 23; refine (hyes2 _ hc2).mono ?_; rintro e4 w4 ⟨rfl, hc4, hg4⟩)
          | (go_at_call 22; refine (hop3 _ hc4).mono ?_; rintro e5 w5 ⟨rfl, rfl⟩))
        have A5 : Aside (Ctx B base R a L C most w4 s3 vO vT ∧ Chg R vO vT vO vT w w4) := ⟨hc4, (A1.out.2.trans hg2).trans hg4⟩
        clear hc2 hg2 hc4 hg4 hyes hyes2 hop hop3 hm64
        go_wp2_with fail
        clear tlm
        generalize ((l : Int) + (m : Int) != 65535) = blm
        go_loopg [4] (l + 1) (fun g si wr => ∃ i : Nat, si = .int .i64 (i : Int) ∧ Aside (i + g = l + 1 ∧ i ≤ l ∧ ∃ s4 vO4 vT4 c4, Ctx B base R a L C most wr s4 vO4 vT4 ∧ Chg R vO vT vO4 vT4 w wr ∧ Runs (allb B) most c0 c4 ∧ ((Opn s4 ∧ c4 = ⟨.sraw last (l - i), s4.pos, s4.out, s4.times⟩) ∨ Fin (allb B) most L c4 s4)))
        case atStart => exact ⟨0, rfl, by omega, by omega, s3, vO, vT, _, A5.out.1, A5.out.2, A4.out, Or.inl ⟨A3.out.1, rfl⟩⟩
        case round =>
          obtain ⟨i, rfl, hI⟩ := hrel
          obtain ⟨s4, vO4, vT4, c4, hc4, hg4, hr4, hcase⟩ := hI.out.2.2
          have hI1 := hI.out.1
          have hI2 := hI.out.2.1
          rcases hcase with ⟨ho4, hc4e⟩ | hfin
          · by_cases hin : i < l
            · have ti : (i : Int) < (l : Int) := by omega
              have hop := hc4.open_ true ho4.opn
              cases hnum3 : num? (allb B) s4.pos 8 with
              | none =>
                have hno := hc4.number_none 8 (by omega) hnum3
                have hfin : Fin (allb B) most L c4 { s4 with why := 1, at_ := L } := by
                  rw [hc4e, show l - i = (l - (i + 1)) + 1 by omega]
                  exact Fin.cut (by unfold step; simp only [hnum3]; rfl) rfl rfl ho4.2 (by intro y e; cases e) (by intro e; cases e)
                have hop3 : ∀ W, Ctx B base R a L C most W { s4 with why := 1, at_ := L } vO4 vT4 → Calls Tryd.prog 22 #[.pointer (some ⟨R, 0, none⟩)] W fun e w' => e = .returned (.bool false) ∧ W = w' := fun W hW => hW.open_ false hfin.opn
                have AF : Aside (Fin (allb B) most L c4 { s4 with why := 1, at_ := L } ∧ Chg R vO vT vO4 vT4 w wr ∧ Runs (allb B) most c0 c4 ∧ i + gk = l + 1 ∧ i < l) := ⟨hfin, hg4, hr4, hI1, hin⟩
                clear hfin hnum3 hI hI1 hI2 hc4 hg4 hr4 ho4 hc4e hin
                go_wp2_with (first
                  | (go_at_call 22; (fail_if_success (have hh := hg7)); refine hop.mono ?_; rintro e6 w6 ⟨rfl, rfl⟩)
                  | (go_at_call 23; refine hno.mono ?_; rintro e7 w7 ⟨rfl, hc7, hg7⟩)
                  | (go_at_call 22; refine (hop3 _ hc7).mono ?_; rintro e8 w8 ⟨rfl, rfl⟩))
                have A7 : Aside (Ctx B base R a L C most w7 { s4 with why := 1, at_ := L } vO4 vT4 ∧ Chg R vO vT vO4 vT4 w w7) := ⟨hc7, AF.out.2.1.trans hg7⟩
                clear hc7 hg7 hop hop3 hno
                go_roundg (l - i)
                case measure => have := AF.out; omega
                case rel =>
                  have q := AF.out
                  exact ⟨i + 1, by go_num, by omega, by omega, _, vO4, vT4, c4, A7.out.1, A7.out.2, q.2.2.1, Or.inr q.1⟩
              | some b =>
                have hyes := hc4.number_some 8 b (by omega) hnum3
                have hb256 : b < 256 := numb_lt hnum3
                obtain ⟨s5, hs5⟩ : ∃ s5 : Rs, { s4 with pos := s4.pos + 8 } = s5 := ⟨_, rfl⟩
                rw [hs5] at hyes
                have ho5 : Opn s5 := by rw [← hs5]; exact ho4
                have hst : Runs (allb B) most c0 (give most (.sraw last (l - (i + 1))) b s5.pos ⟨.sraw last (l - (i + 1)), s5.pos, s5.out, s5.times⟩) := by
                  refine hr4.trans (Runs.one ?_)
                  rw [hc4e, show l - i = (l - (i + 1)) + 1 by omega, ← hs5]
                  unfold step
                  simp only [hnum3]
                  rfl
                have hop3 : ∀ W, Ctx B base R a L C most W s5 vO4 vT4 → Calls Tryd.prog 22 #[.pointer (some ⟨R, 0, none⟩)] W fun e w' => e = .returned (.bool true) ∧ W = w' := fun W hW => hW.open_ true ho5.opn
                have hgv : ∀ W, Ctx B base R a L C most W s5 vO4 vT4 → Calls Tryd.prog 44 #[.pointer (some ⟨R, 0, none⟩), .int .u8 (b : Int)] W fun e w' => e = .returned (.tuple #[]) ∧ ∃ s' vO' vT' c', Ctx B base R a L C most w' s' vO' vT' ∧ Chg R vO4 vT4 vO' vT' W w' ∧ c' = give most (.sraw last (l - (i + 1))) b s5.pos ⟨.sraw last (l - (i + 1)), s5.pos, s5.out, s5.times⟩ ∧ ((Opn s' ∧ c' = ⟨.sraw last (l - (i + 1)), s'.pos, s'.out, s'.times⟩ ∧ s'.out = s5.out ++ [b] ∧ s'.pos = s5.pos) ∨ Fin (allb B) most L c' s') := fun W hW => hW.give ho5 b hb256 _
                have AF : Aside (Runs (allb B) most c0 (give most (.sraw last (l - (i + 1))) b s5.pos ⟨.sraw last (l - (i + 1)), s5.pos, s5.out, s5.times⟩) ∧ Chg R vO vT vO4 vT4 w wr ∧ i + gk = l + 1 ∧ i < l) := ⟨hst, hg4, hI1, hin⟩
                clear hst hnum3 hI hI1 hI2 hc4 hg4 hr4 ho4 hc4e hin hs5 ho5
                go_wp2_with (first
                  | (go_at_call 22; (fail_if_success (have hh := hg7)); refine hop.mono ?_; rintro e6 w6 ⟨rfl, rfl⟩)
                  | (go_at_call 23; refine hyes.mono ?_; rintro e7 w7 ⟨rfl, hc7, hg7⟩)
                  | (go_at_call 22; refine (hop3 _ hc7).mono ?_; rintro e8 w8 ⟨rfl, rfl⟩)
                  | (go_at_call 44; refine (hgv _ hc7).mono ?_; rintro e9 w9 ⟨rfl, s6, vO6, vT6, c6, hc6, hg6, hce6, hcase6⟩))
                have A9 : Aside (Ctx B base R a L C most w9 s6 vO6 vT6 ∧ Chg R vO vT vO6 vT6 w w9 ∧ Runs (allb B) most c0 c6 ∧ ((Opn s6 ∧ c6 = ⟨.sraw last (l - (i + 1)), s6.pos, s6.out, s6.times⟩) ∨ Fin (allb B) most L c6 s6)) := ⟨hc6, (AF.out.2.1.trans hg7).trans hg6, by rw [hce6]; exact AF.out.1, by
                  rcases hcase6 with ⟨q1, q2, _⟩ | q1
                  · exact Or.inl ⟨q1, q2⟩
                  · exact Or.inr q1⟩
                clear hc7 hg7 hop hop3 hyes hgv hc6 hg6 hce6 hcase6
                go_roundg (l - i)
                case measure => have := AF.out; omega
                case rel =>
                  have q := AF.out
                  have q9 := A9.out
                  exact ⟨i + 1, by go_num, by omega, by omega, s6, vO6, vT6, c6, q9.1, q9.2.1, q9.2.2.1, q9.2.2.2⟩
            · have hil : i = l := by omega
              subst hil
              have ti : ¬ (i : Int) < (i : Int) := by omega
              have AR : Aside (Left B base R a L C most vO vT w wr c0 (.head last)) := Left.of hc4 hg4 (hr4.trans (Runs.one (by rw [hc4e, Nat.sub_self]; rfl))) (Or.inl ⟨ho4, rfl⟩)
              clear hI hI1 hI2 hc4 hg4 hr4 ho4 hc4e hin
              go_wp2_with fail
              first | (refine bodyPost_ret (results_none rfl _ _ _) rfl ?_) | go_end0
              exact ⟨rfl, AR.out⟩
          · have hop := hc4.open_ false hfin.opn
            have AR : Aside (Left B base R a L C most vO vT w wr c0 (.head last)) := Left.of hc4 hg4 hr4 (Or.inr hfin)
            by_cases hin : i < l
            · have ti : (i : Int) < (l : Int) := by omega
              clear hI hI1 hI2 hc4 hg4 hr4 hfin hin
              go_wp2_with (go_at_call 22; refine hop.mono ?_; rintro e9 w9 ⟨rfl, rfl⟩)
              first | (refine bodyPost_ret (results_none rfl _ _ _) rfl ?_) | go_end0
              exact ⟨rfl, AR.out⟩
            · have ti : ¬ (i : Int) < (l : Int) := by omega
              clear hI hI1 hI2 hc4 hg4 hr4 hfin hin
              go_wp2_with fail
              first | (refine bodyPost_ret (results_none rfl _ _ _) rfl ?_) | go_end0
              exact ⟨rfl, AR.out⟩
      · have tlm : ((l : Int) + (m : Int) == 65535) = false := beq_eq_false_iff_ne.2 (by omega)
        have hst : ∀ W, Ctx B base R a L C most W s3 vO vT → Calls Tryd.prog 29 #[.pointer (some ⟨R, 0, none⟩), .int .i64 11] W fun e w' => e = .returned (.tuple #[]) ∧ Ctx B base R a L C most w' { s3 with why := 11, at_ := (s3.pos - 1) / 8 } vO vT ∧ Chg R vO vT vO vT W w' := fun W hW => hW.stop 11
        have AF : Aside (Runs (allb B) most c0 ⟨.bad 11, s3.pos, s3.out, s3.times⟩ ∧ Fin (allb B) most L ⟨.bad 11, s3.pos, s3.out, s3.times⟩ { s3 with why := 11, at_ := (s3.pos - 1) / 8 }) := ⟨by have := A3.out.2; rw [if_neg hlm] at this; exact this, Fin.bad 11 rfl rfl rfl A3.out.1.2 (by decide) rfl⟩
        clear hlm
        go_wp2_with (first
          | (go_at_call 23; (fail_if_success (have hh := hg2)); refine hyes.mono ?_; rintro e2 w2 ⟨rfl, hc2, hg2⟩)
          | (go_at_call 22; (fail_if_success (have hh := hg4)); refine (hop _ hc2).mono ?_; rintro e3 w3 ⟨rfl, rfl⟩)
          | (go_at_call 23; refine (hyes2 _ hc2).mono ?_; rintro e4 w4 ⟨rfl, hc4, hg4⟩)
          | (go_at_call 22; refine (hop3 _ hc4).mono ?_; rintro e5 w5 ⟨rfl, rfl⟩)
          | (go_at_call 29; refine (hst _ hc4).mono ?_; rintro e6 w6 ⟨rfl, hc6, hg6⟩))
        first | (refine bodyPost_ret (results_none rfl _ _ _) rfl ?_) | go_end0
        exact ⟨rfl, Left.of hc6 (((A1.out.2.trans hg2).trans hg4).trans hg6) AF.out.1 (Or.inr AF.out.2)⟩
end Go.Proofs.YtikdpnpkmmmacaaDoor

/-
  What the document's Fixed and Order come to: lists of numbers.
-/
namespace Go.Proofs.YtikdpnpkmmmacaaDoor
open Go.RowKit
set_option linter.unusedVariables false
def iz (l : List Nat) : List Int := l.map fun x : Nat => (x : Int)
theorem lens_iz (l : List Nat) : lens (iz l) = l := by
  unfold lens iz
  rw [List.map_map]
  conv => rhs; rw [← List.map_id l]
  exact List.map_congr_left fun x _ => by simp
theorem fixL_len : fixL.length = 288 := by simp [fixL]
theorem fixL_at {i n : Nat} (h : i < 288) (hn : (if 256 ≤ i ∧ i < 280 then 7 else if 144 ≤ i ∧ i < 256 then 9 else 8) = n) : fixL[i]? = some n := by
  rw [← hn]; simp [fixL, h]
theorem own_lens {w : World} {base n : Nat} {v : Value} {l : List Nat} (h : w.ownsRow base 3 1 v n (vt l)) (hn : l.length = n) : ∃ a c, v = .slice a n c ∧ Lens w a (iz l) ∧ n ≤ c ∧ (a = none → n = 0 ∧ c = 0) ∧ (∀ b o s, a = some ⟨b, o, s⟩ → base ≤ b) := by
  rcases h.2 with ⟨hv, h0⟩ | ⟨g, c, cur, hv, hg, hh, hc, hm, hs, ht⟩
  · exact ⟨none, 0, by rw [hv, h0], Or.inl (by rw [List.eq_nil_of_length_eq_zero (by omega : l.length = 0)]; rfl), by omega, (fun _ => ⟨h0, rfl⟩), (fun b o s e => by cases e)⟩
  · refine ⟨_, c, hv, Or.inr ⟨g, 0, rfl, fun i z hz => ?_⟩, hc, (fun e => by cases e), (fun b o s e => by cases e; exact hg)⟩
    rw [Nat.zero_add, Cells.cell (cs := cur) (t := 3) hh]
    unfold iz at hz
    rw [List.getElem?_map] at hz
    cases e1 : l[i]? with
    | none => rw [e1] at hz; cases hz
    | some x =>
      rw [e1] at hz
      have hz' : (x : Int) = z := by simpa using hz
      have hi : i < l.length := (List.getElem?_eq_some_iff.1 e1).1
      have e : (cur.toList.take (n * 1))[i]? = some (.int .i64 (x : Int)) := by rw [ht]; simp [vt, e1]
      rw [List.getElem?_take, if_pos (by omega)] at e
      rw [← hz']
      simpa using e
def FixedTo (w : World) (e : Ending) (w' : World) : Prop := ∃ la lc da dc, e = .returned (.tuple #[.slice la 288 lc, .slice da 32 dc]) ∧ Lens w' la (iz fixL) ∧ Lens w' da (iz fixD) ∧ Below w.heap.size w w'
set_option maxRecDepth 100000 in
set_option maxHeartbeats 4000000 in
theorem fixed_c (w : World) : Calls Tryd.prog 25 #[] w fun e w' => FixedTo w e w' := by
  obtain ⟨i3, hi3, hz30, hz31, hz32⟩ := info_parts info3'
  obtain ⟨W, hW⟩ : ∃ W, w.heap.size = W := ⟨_, rfl⟩
  have AW : Aside (w.heap.size = W) := hW
  clear hW
  go_enter Tryd.func25, Tryd.ntmps25
  go_wp2_with fail
  go_loopg [2, 4] 288 (fun g vl si wr => ∃ i : Nat, si = .int .i64 (i : Int) ∧ Aside (i + g = 288 ∧ wr.ownsRow W 3 1 vl i (vt (fixL.take i)) ∧ Below W w wr))
  case atStart => exact ⟨0, rfl, by omega, World.ownsRow_nil _ _ _ _, Below.refl _ _⟩
  case round =>
    obtain ⟨i, rfl, hI⟩ := hrel
    by_cases hi8 : i < 288
    · have ti : (i : Int) < 288 := by omega
      by_cases h0 : i < 144
      · have _z0 : True := trivial
        have t0 : ¬ ((144 : Int) ≤ (i : Int)) := by omega
        have t1 : ¬ ((256 : Int) ≤ (i : Int)) := by omega
        have hv : fixL[i]? = some 8 := fixL_at (by omega) (by rw [if_neg (by omega), if_neg (by omega)])
        have AV : Aside (i < 288 ∧ i + gk = 288 ∧ fixL.take (i + 1) = fixL.take i ++ [8] ∧ wr.ownsRow W 3 1 u2 i (vt (fixL.take i)) ∧ Below W w wr ∧ W ≤ wr.heap.size) := ⟨hi8, hI.out.1, by rw [List.take_add_one, hv]; rfl, hI.out.2.1, hI.out.2.2, by rw [← AW.out]; exact hI.out.2.2.size⟩
        clear hI hi8 h0 hv
        obtain ⟨H, hH⟩ : ∃ H, wr.heap.size = H := ⟨_, rfl⟩
        go_wp2_with (at_builtin; refine wpList_append_own _ rfl (.tmp 23) (.tmp 25) 29 rfl W 3 i3 (.int .i64 0) 1 8 Tryd.underlying29 hi3 hz30 hz31 hz32 rfl (by decide) u2 i (vt (fixL.take i)) (by rfl) (own_alloc AV.out.2.2.2.1 _) ⟨H, 0, none⟩ 1 1 [.int .i64 8] (by rfl) rfl (fun j u hu => by rw [add_off, Nat.zero_add, ← hH, (Cells.new wr #[.int .i64 8] 3).cell]; simpa using hu) (by simp [Value.oneCell']) (by unfold maxLen; have := AV.out; omega) (by have := AV.out; omega) (by have := AV.out; have := size_al' wr (.cells #[.int .i64 8] 3); omega) ?_; intro v3 w3 hown3 hgrow3 hnil3)
        have A3 : Aside (w3.ownsRow W 3 1 v3 (i + 1) (vt (fixL.take (i + 1))) ∧ Below W w w3) := by
          have q := AV.out
          refine ⟨by rw [q.2.2.1]; simpa [vt] using hown3, ?_⟩
          have h2 : Below W w (wr.alloc (.cells #[.int .i64 8] 3)) := q.2.2.2.2.1.alloc q.2.2.2.2.2 _
          exact h2.trans ((Below.refl _ _).grown hgrow3 (by have := size_al' wr (.cells #[.int .i64 8] 3); omega) (fun g hg => (q.2.2.2.1.lt g hg).1))
        clear hown3 hgrow3 hnil3 hH
        go_roundg (288 - (i + 1))
        case measure => have := AV.out; omega
        case rel => exact ⟨i + 1, by go_num, by have := AV.out; omega, A3.out.1, A3.out.2⟩
      by_cases h1 : i < 256
      · have _z1 : True := trivial
        have t0 : (144 : Int) ≤ (i : Int) := by omega
        have t1 : (i : Int) < 256 := by omega
        have t2 : ¬ ((256 : Int) ≤ (i : Int)) := by omega
        have hv : fixL[i]? = some 9 := fixL_at (by omega) (by rw [if_neg (by omega), if_pos (by omega)])
        have AV : Aside (i < 288 ∧ i + gk = 288 ∧ fixL.take (i + 1) = fixL.take i ++ [9] ∧ wr.ownsRow W 3 1 u2 i (vt (fixL.take i)) ∧ Below W w wr ∧ W ≤ wr.heap.size) := ⟨hi8, hI.out.1, by rw [List.take_add_one, hv]; rfl, hI.out.2.1, hI.out.2.2, by rw [← AW.out]; exact hI.out.2.2.size⟩
        clear hI hi8 h0 h1 hv
        obtain ⟨H, hH⟩ : ∃ H, wr.heap.size = H := ⟨_, rfl⟩
        go_wp2_with (at_builtin; refine wpList_append_own _ rfl (.tmp 23) (.tmp 25) 29 rfl W 3 i3 (.int .i64 0) 1 8 Tryd.underlying29 hi3 hz30 hz31 hz32 rfl (by decide) u2 i (vt (fixL.take i)) (by rfl) (own_alloc AV.out.2.2.2.1 _) ⟨H, 0, none⟩ 1 1 [.int .i64 9] (by rfl) rfl (fun j u hu => by rw [add_off, Nat.zero_add, ← hH, (Cells.new wr #[.int .i64 9] 3).cell]; simpa using hu) (by simp [Value.oneCell']) (by unfold maxLen; have := AV.out; omega) (by have := AV.out; omega) (by have := AV.out; have := size_al' wr (.cells #[.int .i64 9] 3); omega) ?_; intro v3 w3 hown3 hgrow3 hnil3)
        have A3 : Aside (w3.ownsRow W 3 1 v3 (i + 1) (vt (fixL.take (i + 1))) ∧ Below W w w3) := by
          have q := AV.out
          refine ⟨by rw [q.2.2.1]; simpa [vt] using hown3, ?_⟩
          have h2 : Below W w (wr.alloc (.cells #[.int .i64 9] 3)) := q.2.2.2.2.1.alloc q.2.2.2.2.2 _
          exact h2.trans ((Below.refl _ _).grown hgrow3 (by have := size_al' wr (.cells #[.int .i64 9] 3); omega) (fun g hg => (q.2.2.2.1.lt g hg).1))
        clear hown3 hgrow3 hnil3 hH
        go_roundg (288 - (i + 1))
        case measure => have := AV.out; omega
        case rel => exact ⟨i + 1, by go_num, by have := AV.out; omega, A3.out.1, A3.out.2⟩
      by_cases h2 : i < 280
      · have _z2 : True := trivial
        have t0 : (144 : Int) ≤ (i : Int) := by omega
        have t1 : ¬ ((i : Int) < 256) := by omega
        have t2 : (256 : Int) ≤ (i : Int) := by omega
        have t3 : (i : Int) < 280 := by omega
        have hv : fixL[i]? = some 7 := fixL_at (by omega) (by rw [if_pos (by omega)])
        have AV : Aside (i < 288 ∧ i + gk = 288 ∧ fixL.take (i + 1) = fixL.take i ++ [7] ∧ wr.ownsRow W 3 1 u2 i (vt (fixL.take i)) ∧ Below W w wr ∧ W ≤ wr.heap.size) := ⟨hi8, hI.out.1, by rw [List.take_add_one, hv]; rfl, hI.out.2.1, hI.out.2.2, by rw [← AW.out]; exact hI.out.2.2.size⟩
        clear hI hi8 h0 h1 h2 hv
        obtain ⟨H, hH⟩ : ∃ H, wr.heap.size = H := ⟨_, rfl⟩
        go_wp2_with (at_builtin; refine wpList_append_own _ rfl (.tmp 23) (.tmp 25) 29 rfl W 3 i3 (.int .i64 0) 1 8 Tryd.underlying29 hi3 hz30 hz31 hz32 rfl (by decide) u2 i (vt (fixL.take i)) (by rfl) (own_alloc AV.out.2.2.2.1 _) ⟨H, 0, none⟩ 1 1 [.int .i64 7] (by rfl) rfl (fun j u hu => by rw [add_off, Nat.zero_add, ← hH, (Cells.new wr #[.int .i64 7] 3).cell]; simpa using hu) (by simp [Value.oneCell']) (by unfold maxLen; have := AV.out; omega) (by have := AV.out; omega) (by have := AV.out; have := size_al' wr (.cells #[.int .i64 7] 3); omega) ?_; intro v3 w3 hown3 hgrow3 hnil3)
        have A3 : Aside (w3.ownsRow W 3 1 v3 (i + 1) (vt (fixL.take (i + 1))) ∧ Below W w w3) := by
          have q := AV.out
          refine ⟨by rw [q.2.2.1]; simpa [vt] using hown3, ?_⟩
          have h2 : Below W w (wr.alloc (.cells #[.int .i64 7] 3)) := q.2.2.2.2.1.alloc q.2.2.2.2.2 _
          exact h2.trans ((Below.refl _ _).grown hgrow3 (by have := size_al' wr (.cells #[.int .i64 7] 3); omega) (fun g hg => (q.2.2.2.1.lt g hg).1))
        clear hown3 hgrow3 hnil3 hH
        go_roundg (288 - (i + 1))
        case measure => have := AV.out; omega
        case rel => exact ⟨i + 1, by go_num, by have := AV.out; omega, A3.out.1, A3.out.2⟩
      have t0 : (144 : Int) ≤ (i : Int) := by omega
      have t1 : ¬ ((i : Int) < 256) := by omega
      have t2 : (256 : Int) ≤ (i : Int) := by omega
      have t3 : ¬ ((i : Int) < 280) := by omega
      have hv : fixL[i]? = some 8 := fixL_at (by omega) (by rw [if_neg (by omega), if_neg (by omega)])
      have AV : Aside (i < 288 ∧ i + gk = 288 ∧ fixL.take (i + 1) = fixL.take i ++ [8] ∧ wr.ownsRow W 3 1 u2 i (vt (fixL.take i)) ∧ Below W w wr ∧ W ≤ wr.heap.size) := ⟨hi8, hI.out.1, by rw [List.take_add_one, hv]; rfl, hI.out.2.1, hI.out.2.2, by rw [← AW.out]; exact hI.out.2.2.size⟩
      clear hI hi8 h0 h1 h2 hv
      obtain ⟨H, hH⟩ : ∃ H, wr.heap.size = H := ⟨_, rfl⟩
      go_wp2_with (at_builtin; refine wpList_append_own _ rfl (.tmp 23) (.tmp 25) 29 rfl W 3 i3 (.int .i64 0) 1 8 Tryd.underlying29 hi3 hz30 hz31 hz32 rfl (by decide) u2 i (vt (fixL.take i)) (by rfl) (own_alloc AV.out.2.2.2.1 _) ⟨H, 0, none⟩ 1 1 [.int .i64 8] (by rfl) rfl (fun j u hu => by rw [add_off, Nat.zero_add, ← hH, (Cells.new wr #[.int .i64 8] 3).cell]; simpa using hu) (by simp [Value.oneCell']) (by unfold maxLen; have := AV.out; omega) (by have := AV.out; omega) (by have := AV.out; have := size_al' wr (.cells #[.int .i64 8] 3); omega) ?_; intro v3 w3 hown3 hgrow3 hnil3)
      have A3 : Aside (w3.ownsRow W 3 1 v3 (i + 1) (vt (fixL.take (i + 1))) ∧ Below W w w3) := by
        have q := AV.out
        refine ⟨by rw [q.2.2.1]; simpa [vt] using hown3, ?_⟩
        have h2 : Below W w (wr.alloc (.cells #[.int .i64 8] 3)) := q.2.2.2.2.1.alloc q.2.2.2.2.2 _
        exact h2.trans ((Below.refl _ _).grown hgrow3 (by have := size_al' wr (.cells #[.int .i64 8] 3); omega) (fun g hg => (q.2.2.2.1.lt g hg).1))
      clear hown3 hgrow3 hnil3 hH
      go_roundg (288 - (i + 1))
      case measure => have := AV.out; omega
      case rel => exact ⟨i + 1, by go_num, by have := AV.out; omega, A3.out.1, A3.out.2⟩
    · have hi2 : i = 288 := by have := hI.out.1; omega
      subst hi2
      have ti : ¬ ((288 : Nat) : Int) < 288 := by omega
      have hw1 : wr.ownsRow W 3 1 u2 288 (vt fixL) := by have := hI.out.2.1; rw [List.take_of_length_le (by rw [fixL_len]; omega)] at this; exact this
      obtain ⟨la, lc, hvl, hll, _, _, hlb⟩ := own_lens hw1 fixL_len
      obtain ⟨w1, hww⟩ : ∃ w1, w1 = wr := ⟨_, rfl⟩
      obtain ⟨W2, hW2⟩ : ∃ W2, wr.heap.size = W2 := ⟨_, rfl⟩
      have A1 : Aside (Lens w1 la (iz fixL) ∧ Below W w w1 ∧ w1.heap.size = W2) := by rw [hww]; exact ⟨hll, hI.out.2.2, hW2⟩
      subst hww
      subst hvl
      clear hI hi8 hw1 hll hlb hW2
      go_wp2_with fail
      go_loopg [3, 6] 32 (fun g vd si wr => ∃ k : Nat, si = .int .i64 (k : Int) ∧ Aside (k + g = 32 ∧ wr.ownsRow W2 3 1 vd k (vt (List.replicate k 5)) ∧ Below W2 w1 wr))
      case atStart => exact ⟨0, rfl, by omega, World.ownsRow_nil _ _ _ _, Below.refl _ _⟩
      case round =>
        obtain ⟨k, rfl, hK⟩ := hrel
        by_cases hk : k < 32
        · have tk : (k : Int) < 32 := by omega
          have AV : Aside (k < 32 ∧ k + gk = 32 ∧ wr.ownsRow W2 3 1 u3 k (vt (List.replicate k 5)) ∧ Below W2 w1 wr ∧ W2 ≤ wr.heap.size) := ⟨hk, hK.out.1, hK.out.2.1, hK.out.2.2, by rw [← A1.out.2.2]; exact hK.out.2.2.size⟩
          clear hK hk
          obtain ⟨H, hH⟩ : ∃ H, wr.heap.size = H := ⟨_, rfl⟩
          go_wp2_with (at_builtin; refine wpList_append_own _ rfl (.tmp 31) (.tmp 32) 29 rfl W2 3 i3 (.int .i64 0) 1 8 Tryd.underlying29 hi3 hz30 hz31 hz32 rfl (by decide) u3 k (vt (List.replicate k 5)) (by rfl) (own_alloc AV.out.2.2.1 _) ⟨H, 0, none⟩ 1 1 [.int .i64 5] (by rfl) rfl (fun j u hu => by rw [add_off, Nat.zero_add, ← hH, (Cells.new wr #[.int .i64 5] 3).cell]; simpa using hu) (by simp [Value.oneCell']) (by unfold maxLen; have := AV.out; omega) (by have := AV.out; omega) (by have := AV.out; have := size_al' wr (.cells #[.int .i64 5] 3); omega) ?_; intro v3 w3 hown3 hgrow3 hnil3)
          have A3 : Aside (w3.ownsRow W2 3 1 v3 (k + 1) (vt (List.replicate (k + 1) 5)) ∧ Below W2 w1 w3) := by
            have q := AV.out
            refine ⟨by rw [List.replicate_succ']; simpa [vt] using hown3, ?_⟩
            have h2 : Below W2 w1 (wr.alloc (.cells #[.int .i64 5] 3)) := q.2.2.2.1.alloc q.2.2.2.2 _
            exact h2.trans ((Below.refl _ _).grown hgrow3 (by have := size_al' wr (.cells #[.int .i64 5] 3); omega) (fun g hg => (q.2.2.1.lt g hg).1))
          clear hown3 hgrow3 hnil3 hH
          go_roundg (32 - (k + 1))
          case measure => have := AV.out; omega
          case rel => exact ⟨k + 1, by go_num, by have := AV.out; omega, A3.out.1, A3.out.2⟩
        · have hk2 : k = 32 := by have := hK.out.1; omega
          subst hk2
          have tk : ¬ ((32 : Nat) : Int) < 32 := by omega
          obtain ⟨da, dc, hvd, hdl, _, _, hdb⟩ := own_lens hK.out.2.1 (by simp)
          have A4 : Aside (Lens wr da (iz fixD) ∧ Lens wr la (iz fixL) ∧ Below w.heap.size w wr) := by
            have q := A1.out
            have hb : Below w1.heap.size w1 wr := by rw [q.2.2]; exact hK.out.2.2
            refine ⟨hdl, q.1.below hb, ?_⟩
            have h2 : Below W w wr := q.2.1.trans (hb.mono (by rw [← AW.out]; exact q.2.1.size))
            rw [AW.out]; exact h2
          subst hvd
          clear hK hk hdl hdb
          go_wp2_with fail
          first | go_ret | go_ret2
          exact ⟨la, lc, da, dc, rfl, A4.out.2.1, A4.out.1, A4.out.2.2⟩
/-- The order of the lengths of lengths. -/
theorem order_c (w : World) : Calls Tryd.prog 48 #[] w fun e w' => e = .returned (.slice (some ⟨w.heap.size, 0, none⟩) 19 19) ∧ Cells w' w.heap.size (vt ordr).toArray 3 ∧ Below w.heap.size w w' := by
  go_enter Tryd.func48, Tryd.ntmps48
  go_wp2_with fail
  first | go_ret | go_ret2
  exact ⟨rfl, Cells.new w _ 3, (Below.refl _ w).alloc (Nat.le_refl _) _⟩
end Go.Proofs.YtikdpnpkmmmacaaDoor

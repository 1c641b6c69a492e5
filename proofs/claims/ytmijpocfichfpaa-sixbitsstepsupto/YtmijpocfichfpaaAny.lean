/-
  The decoder, however it stands: Put, End, Reset.
-/
import Derived.Test.YtmijpocfichfpaaBackCore
import Derived.Test.YtmijpocfichfpaaOf
namespace Go.Proofs.Ytmijpocfichfpaa
open Go.RowKit
set_option linter.unusedVariables false
/-- A decoder, however it stands. -/
def Ds (w : World) (B : Nat) : Prop := ∃ pl p pv y, Wf pl p pv ∧ Dd w B pl p pv y
theorem put_any (w : World) (B x : Nat) (hx : x < 256) (h : Ds w B) : Calls Try.prog 14 #[.pointer (some ⟨B, 0, none⟩), .int .u8 x] w fun e w' => (∃ (u : Nat) (t : Bool) (z : Nat), e = .returned (.tuple #[.int .u8 (u : Int), .bool t, .int .i64 (z : Int)])) ∧ Ds w' B ∧ But B w w' := by
  obtain ⟨pl, p, pv, y, hwf, hd⟩ := h
  by_cases hy : y = 0
  · subst hy
    cases e : ev pl p pv x using Ev.el with
    | stop z =>
      refine (put_stop B pl pv x p hx hwf w hd e).mono ?_
      rintro e1 w1 ⟨rfl, h1, h2⟩
      exact ⟨⟨0, false, z, rfl⟩, ⟨pl, p, pv, z, hwf, h1⟩, h2⟩
    | go pl' p' pv' o =>
      refine (put_go B pl pv x p hx hwf w hd e).mono ?_
      rintro e1 w1 ⟨rfl, h1, h2⟩
      exact ⟨⟨ov o, o.isSome, 0, rfl⟩, ⟨pl', p', pv', 0, ev_wf hwf e, h1⟩, h2⟩
  · refine (put_why B y x _ _ _ _ hy w hd).mono ?_
    rintro e1 w1 ⟨rfl, n, rfl⟩
    exact ⟨⟨0, false, y, rfl⟩, ⟨pl, p, pv, y, hwf, Cells.drewN hd n⟩, But.of_only ((Only.refl B w).drewN n)⟩
theorem reset_any (w : World) (B : Nat) (h : Ds w B) : Calls Try.prog 15 #[.pointer (some ⟨B, 0, none⟩)] w fun e w' => e = .returned (.tuple #[]) ∧ Dd w' B 0 false 0 0 ∧ But B w w' := by
  obtain ⟨pl, p, pv, y, hwf, hd⟩ := h
  refine (reset_c B pl (rst pl p pv) _ _ y w hd).mono ?_
  rintro e1 w1 ⟨rfl, h1, h2⟩
  exact ⟨rfl, h1, But.of_only h2⟩
/-- A decoder to which End has been said. -/
def De (w : World) (B y : Nat) : Prop := ∃ pl p pv, Wf pl p pv ∧ Dd w B pl p pv y ∧ (y = 0 → pl = 0)
theorem De.drewN {w : World} {B y : Nat} (h : De w B y) (n : Nat) : De (w.drewN n) B y := h
theorem De.drew {w : World} {B y : Nat} (h : De w B y) : De w.drew B y := h
theorem end_de (w : World) (B y : Nat) (h : De w B y) : Calls Try.prog 16 #[.pointer (some ⟨B, 0, none⟩)] w fun e w' => e = .returned (.int .i64 (y : Int)) ∧ De w' B y ∧ But B w w' := by
  obtain ⟨pl, p, pv, hwf, hd, h0⟩ := h
  by_cases hy : y = 0
  · subst hy
    obtain rfl := h0 rfl
    refine (end_c B 0 pv p hwf w hd 0 rfl).mono ?_
    rintro e1 w1 ⟨rfl, h1, h2⟩
    exact ⟨rfl, ⟨0, p, pv, hwf, h1, fun _ => rfl⟩, h2⟩
  · refine (end_why B y _ _ _ _ hy w hd).mono ?_
    rintro e1 w1 ⟨rfl, rfl⟩
    exact ⟨rfl, ⟨pl, p, pv, hwf, hd, h0⟩, But.refl _ _⟩
theorem put_de (w : World) (B y : Nat) (h : De w B y) : Calls Try.prog 14 #[.pointer (some ⟨B, 0, none⟩), .int .u8 61] w fun e w' => (∃ z : Nat, z ≠ 0 ∧ e = .returned (.tuple #[.int .u8 0, .bool false, .int .i64 (z : Int)])) ∧ But B w w' := by
  obtain ⟨pl, p, pv, hwf, hd, h0⟩ := h
  by_cases hy : y = 0
  · subst hy
    obtain rfl := h0 rfl
    have e : ev 0 p pv 61 = .stop 21 := by rw [ev, if_neg (by decide), if_pos rfl, if_pos (by omega)]
    refine (put_stop B 0 pv 61 p (by decide) hwf w hd e).mono ?_
    rintro e1 w1 ⟨rfl, h1, h2⟩
    exact ⟨⟨21, by decide, rfl⟩, h2⟩
  · refine (put_why B y 61 _ _ _ _ hy w hd).mono ?_
    rintro e1 w1 ⟨rfl, n, rfl⟩
    exact ⟨⟨y, hy, rfl⟩, But.of_only ((Only.refl B w).drewN n)⟩
/-- A decoder that bytes are put into, beside what the document says of all: how many were told. -/
def Sx (l : List Nat) (w : World) (B k told : Nat) : Prop := (∃ (pl : Nat) (p : Bool) (pv : Nat) (acc tms : List Nat) (wf : Wf pl p pv) (dd : Dd w B pl p pv 0) (s : SofarT l k pl p pv acc tms) (t1 : acc.length = told) (t2 : tms.length = told), True) ∨ (∃ (pl : Nat) (p : Bool) (pv : Nat) (wf : Wf pl p pv) (dd : Dd w B pl p pv (rn 0 0 false 0 l).why) (y : (rn 0 0 false 0 l).why ≠ 0) (a : (rn 0 0 false 0 l).at_ < k) (t1 : (rn 0 0 false 0 l).out.length = told), True)
theorem Sx.run {l : List Nat} {w : World} {B k told : Nat} (pl : Nat) (p : Bool) (pv : Nat) (acc tms : List Nat) (wf : Wf pl p pv) (dd : Dd w B pl p pv 0) (s : SofarT l k pl p pv acc tms) (t1 : acc.length = told) (t2 : tms.length = told) : Sx l w B k told := (Or.inl ⟨pl, p, pv, acc, tms, wf, dd, s, t1, t2, trivial⟩)
theorem Sx.over {l : List Nat} {w : World} {B k told : Nat} (pl : Nat) (p : Bool) (pv : Nat) (wf : Wf pl p pv) (dd : Dd w B pl p pv (rn 0 0 false 0 l).why) (y : (rn 0 0 false 0 l).why ≠ 0) (a : (rn 0 0 false 0 l).at_ < k) (t1 : (rn 0 0 false 0 l).out.length = told) : Sx l w B k told := (Or.inr ⟨pl, p, pv, wf, dd, y, a, t1, trivial⟩)
theorem Sx.el {l : List Nat} {w : World} {B k told : Nat} {motive : Sx l w B k told → Prop} (target : Sx l w B k told) (run : ∀ (pl : Nat) (p : Bool) (pv : Nat) (acc tms : List Nat) (wf : Wf pl p pv) (dd : Dd w B pl p pv 0) (s : SofarT l k pl p pv acc tms) (t1 : acc.length = told) (t2 : tms.length = told), motive ((Or.inl ⟨pl, p, pv, acc, tms, wf, dd, s, t1, t2, trivial⟩))) (over : ∀ (pl : Nat) (p : Bool) (pv : Nat) (wf : Wf pl p pv) (dd : Dd w B pl p pv (rn 0 0 false 0 l).why) (y : (rn 0 0 false 0 l).why ≠ 0) (a : (rn 0 0 false 0 l).at_ < k) (t1 : (rn 0 0 false 0 l).out.length = told), motive ((Or.inr ⟨pl, p, pv, wf, dd, y, a, t1, trivial⟩))) : motive target := by
  rcases target with ⟨pl, p, pv, acc, tms, wf, dd, s, t1, t2, _⟩ | ⟨pl, p, pv, wf, dd, y, a, t1, _⟩
  · exact run pl p pv acc tms wf dd s t1 t2
  · exact over pl p pv wf dd y a t1
/-- What the next byte comes to. -/
def Nx (l : List Nat) (k told : Nat) (u : Nat) (has : Bool) (y told' : Nat) : Prop := (∃ (h : has = false) (hu : u = 0) (hy : y = 0) (ht : told' = told) (hw : told = (rn 0 0 false 0 l).out.length ∨ (told < (rn 0 0 false 0 l).out.length ∧ ∃ t, (rn 0 0 false 0 l).tm[told]? = Option.some t ∧ t ≠ k)) (hs : (rn 0 0 false 0 l).why = 0 ∨ k < (rn 0 0 false 0 l).at_), True) ∨ (∃ (h : has = true) (hy : y = 0) (ht : told' = told + 1) (hl : told < (rn 0 0 false 0 l).out.length) (h1 : (rn 0 0 false 0 l).tm[told]? = Option.some k) (h2 : (rn 0 0 false 0 l).out[told]? = Option.some u) (hs : (rn 0 0 false 0 l).why = 0 ∨ k < (rn 0 0 false 0 l).at_), True) ∨ (∃ (h : has = false) (hu : u = 0) (hy : y = (rn 0 0 false 0 l).why) (hy0 : y ≠ 0) (ht : told' = told) (hw : told = (rn 0 0 false 0 l).out.length) (hs : (rn 0 0 false 0 l).at_ ≤ k), True)
theorem Nx.none {l : List Nat} {k told : Nat} {u : Nat} {has : Bool} {y told' : Nat} (h : has = false) (hu : u = 0) (hy : y = 0) (ht : told' = told) (hw : told = (rn 0 0 false 0 l).out.length ∨ (told < (rn 0 0 false 0 l).out.length ∧ ∃ t, (rn 0 0 false 0 l).tm[told]? = Option.some t ∧ t ≠ k)) (hs : (rn 0 0 false 0 l).why = 0 ∨ k < (rn 0 0 false 0 l).at_) : Nx l k told u has y told' := (Or.inl ⟨h, hu, hy, ht, hw, hs, trivial⟩)
theorem Nx.some {l : List Nat} {k told : Nat} {u : Nat} {has : Bool} {y told' : Nat} (h : has = true) (hy : y = 0) (ht : told' = told + 1) (hl : told < (rn 0 0 false 0 l).out.length) (h1 : (rn 0 0 false 0 l).tm[told]? = Option.some k) (h2 : (rn 0 0 false 0 l).out[told]? = Option.some u) (hs : (rn 0 0 false 0 l).why = 0 ∨ k < (rn 0 0 false 0 l).at_) : Nx l k told u has y told' := (Or.inr (Or.inl ⟨h, hy, ht, hl, h1, h2, hs, trivial⟩))
theorem Nx.stop {l : List Nat} {k told : Nat} {u : Nat} {has : Bool} {y told' : Nat} (h : has = false) (hu : u = 0) (hy : y = (rn 0 0 false 0 l).why) (hy0 : y ≠ 0) (ht : told' = told) (hw : told = (rn 0 0 false 0 l).out.length) (hs : (rn 0 0 false 0 l).at_ ≤ k) : Nx l k told u has y told' := (Or.inr (Or.inr ⟨h, hu, hy, hy0, ht, hw, hs, trivial⟩))
theorem Nx.el {l : List Nat} {k told : Nat} {u : Nat} {has : Bool} {y told' : Nat} {motive : Nx l k told u has y told' → Prop} (target : Nx l k told u has y told') (none : ∀ (h : has = false) (hu : u = 0) (hy : y = 0) (ht : told' = told) (hw : told = (rn 0 0 false 0 l).out.length ∨ (told < (rn 0 0 false 0 l).out.length ∧ ∃ t, (rn 0 0 false 0 l).tm[told]? = Option.some t ∧ t ≠ k)) (hs : (rn 0 0 false 0 l).why = 0 ∨ k < (rn 0 0 false 0 l).at_), motive ((Or.inl ⟨h, hu, hy, ht, hw, hs, trivial⟩))) (some : ∀ (h : has = true) (hy : y = 0) (ht : told' = told + 1) (hl : told < (rn 0 0 false 0 l).out.length) (h1 : (rn 0 0 false 0 l).tm[told]? = Option.some k) (h2 : (rn 0 0 false 0 l).out[told]? = Option.some u) (hs : (rn 0 0 false 0 l).why = 0 ∨ k < (rn 0 0 false 0 l).at_), motive ((Or.inr (Or.inl ⟨h, hy, ht, hl, h1, h2, hs, trivial⟩)))) (stop : ∀ (h : has = false) (hu : u = 0) (hy : y = (rn 0 0 false 0 l).why) (hy0 : y ≠ 0) (ht : told' = told) (hw : told = (rn 0 0 false 0 l).out.length) (hs : (rn 0 0 false 0 l).at_ ≤ k), motive ((Or.inr (Or.inr ⟨h, hu, hy, hy0, ht, hw, hs, trivial⟩)))) : motive target := by
  rcases target with ⟨h, hu, hy, ht, hw, hs, _⟩ | ⟨h, hy, ht, hl, h1, h2, hs, _⟩ | ⟨h, hu, hy, hy0, ht, hw, hs, _⟩
  · exact none h hu hy ht hw hs
  · exact some h hy ht hl h1 h2 hs
  · exact stop h hu hy hy0 ht hw hs
theorem put_sx (l : List Nat) (w : World) (B k told x : Nat) (hx : l[k]? = .some x) (ho : Oct l) (h : Sx l w B k told) : Calls Try.prog 14 #[.pointer (some ⟨B, 0, none⟩), .int .u8 x] w fun e w' => ∃ (u : Nat) (has : Bool) (y told' : Nat), e = .returned (.tuple #[.int .u8 (u : Int), .bool has, .int .i64 (y : Int)]) ∧ Nx l k told u has y told' ∧ Sx l w' B (k + 1) told' ∧ But B w w' := by
  have hx8 : x < 256 := ho x (List.mem_of_getElem? hx)
  cases h using Sx.el with
  | run pl p pv acc tms wf dd s t1 t2 =>
    cases e : ev pl p pv x using Ev.el with
    | stop z =>
      obtain ⟨r1, r2, r3, r4⟩ := s.stop hx e
      have hz := ev_stop e
      refine (put_stop B pl pv x p hx8 wf w dd e).mono ?_
      rintro e1 w1 ⟨rfl, h1, h2⟩
      refine ⟨0, false, z, told, rfl, .stop rfl rfl r2.symm (by omega) rfl (by rw [r1]; exact t1.symm) (by omega), .over pl p pv wf (by rw [r2]; exact h1) (by omega) (by omega) (by rw [r1]; exact t1), h2⟩
    | go pl' p' pv' o =>
      have s2 := s.go hx e
      have hl := rn_lens (l.drop (k + 1)) (k + 1) pl' p' pv'
      have hs : (rn 0 0 false 0 l).why = 0 ∨ k < (rn 0 0 false 0 l).at_ := Or.inr (by rw [s2.1.2.2]; omega)
      refine (put_go B pl pv x p hx8 wf w dd e).mono ?_
      rintro e1 w1 ⟨rfl, h1, h2⟩
      cases o with
      | none =>
        simp only [Option.toList, Option.map_none, List.append_nil] at s2
        refine ⟨0, false, 0, told, rfl, .none rfl rfl rfl rfl ?_ hs, .run pl' p' pv' acc tms (ev_wf wf e) h1 s2 t1 t2, h2⟩
        have ho1 := s2.1.1
        have ht1 := s2.2
        cases hr : (rn (k + 1) pl' p' pv' (l.drop (k + 1))).out with
        | nil =>
          left
          rw [ho1, hr, List.append_nil, t1]
        | cons z zs =>
          right
          have hlen := hl.2.1
          rw [hr] at hlen
          cases hq : (rn (k + 1) pl' p' pv' (l.drop (k + 1))).tm with
          | nil => rw [hq] at hlen; simp at hlen
          | cons t ts =>
            refine ⟨by rw [ho1, hr, List.length_append, t1]; simp, t, ?_, ?_⟩
            · rw [ht1, hq, List.getElem?_append_right (by omega), t2, Nat.sub_self]; rfl
            · have := hl.2.2.2.2.2 t (by rw [hq]; simp)
              omega
      | some z =>
        simp only [Option.toList, Option.map_some] at s2
        have ho1 := s2.1.1
        have ht1 := s2.2
        refine ⟨z, true, 0, told + 1, rfl, .some rfl rfl rfl ?_ ?_ ?_ hs, .run pl' p' pv' _ _ (ev_wf wf e) h1 s2 (by simp [t1]) (by simp [t2]), h2⟩
        · rw [ho1]; simp [t1]
        · rw [ht1, List.append_assoc, List.getElem?_append_right (by omega), t2, Nat.sub_self]; rfl
        · rw [ho1, List.append_assoc, List.getElem?_append_right (by omega), t1, Nat.sub_self]; rfl
  | over pl p pv wf dd y a t1 =>
    refine (put_why B _ x _ _ _ _ y w dd).mono ?_
    rintro e1 w1 ⟨rfl, n, rfl⟩
    exact ⟨0, false, _, told, rfl, .stop rfl rfl rfl y rfl t1.symm (by omega), .over pl p pv wf (Cells.drewN dd n) y (by omega) t1, But.of_only ((Only.refl B w).drewN n)⟩
theorem end_sx (l : List Nat) (w : World) (B told : Nat) (h : Sx l w B l.length told) : Calls Try.prog 16 #[.pointer (some ⟨B, 0, none⟩)] w (fun e w' => e = .returned (.int .i64 ((rn 0 0 false 0 l).why : Nat)) ∧ De w' B (rn 0 0 false 0 l).why ∧ But B w w') ∧ told = (rn 0 0 false 0 l).out.length := by
  cases h using Sx.el with
  | run pl p pv acc tms wf dd s t1 t2 =>
    obtain ⟨r1, r2, r3, r4⟩ := s.over rfl
    refine ⟨?_, by rw [r1]; exact t1.symm⟩
    refine (end_c B pl pv p wf w dd _ r2.symm).mono ?_
    rintro e1 w1 ⟨rfl, h1, h2⟩
    refine ⟨rfl, ⟨pl, p, pv, wf, h1, fun h0 => ?_⟩, h2⟩
    rw [h0] at r2
    by_cases hp : pl = 0
    · exact hp
    · rw [if_neg hp] at r2; cases r2
  | over pl p pv wf dd y a t1 => exact ⟨end_de w B _ ⟨pl, p, pv, wf, dd, fun h => absurd h y⟩, t1.symm⟩
theorem Sx.drew {l : List Nat} {w : World} {B k told : Nat} (h : Sx l w B k told) : Sx l w.drew B k told := by
  cases h using Sx.el with
  | run pl p pv acc tms wf dd s t1 t2 => exact .run pl p pv acc tms wf (Cells.drew dd) s t1 t2
  | over pl p pv wf dd y a t1 => exact .over pl p pv wf (Cells.drew dd) y a t1
theorem Sx.drewN {l : List Nat} {w : World} {B k told : Nat} (h : Sx l w B k told) (n : Nat) : Sx l (w.drewN n) B k told := by
  cases h using Sx.el with
  | run pl p pv acc tms wf dd s t1 t2 => exact .run pl p pv acc tms wf (Cells.drewN dd n) s t1 t2
  | over pl p pv wf dd y a t1 => exact .over pl p pv wf (Cells.drewN dd n) y a t1
end Go.Proofs.Ytmijpocfichfpaa

/-
  The reader: param.
-/
import Derived.Test.YtdndlegfalmkaaaCln
import Derived.Laws.Rows
namespace Go.Proofs.Ytdndlegfalmkaaa
open Go.RowKit
set_option linter.unusedVariables false
/-- A parameter, as the reader goes. -/
def pm0 (r : List Nat) : Option (Fd × List Nat) := ((bt 0 r).bind (sg 59)).bind fun r1 => (tk1 r1).bind fun a => ((bt 0 a.2).bind (sg 61)).bind fun r3 => (vl1 r3).bind fun v => (bt 0 v.2).map fun q => ((low a.1, v.1), q)
theorem pm0_eq (r : List Nat) : pm0 r = ((bt 0 r).bind (sg 59)).bind pm := by
  unfold pm0
  congr 1
  funext r1
  unfold pm
  rw [tkn_eq]
  cases tk1 r1 with
  | none => rfl
  | some a =>
    simp only [Option.bind_some]
    cases bt 0 a.2 with
    | none => rfl
    | some a2 =>
      simp only [Option.bind_some, Option.map_some]
      cases sg 61 a2 with
      | none => rfl
      | some r3 =>
        simp only [Option.bind_some]
        rw [vl_eq]
        cases vl1 r3 with
        | none => rfl
        | some v =>
          simp only [Option.bind_some]
          cases bt 0 v.2 <;> rfl
theorem size29 : (Try.prog.info? 29).map (·.size) = some 2 := by kernel_rfl
theorem size24 : (Try.prog.info? 24).map (·.size) = some 3 := by kernel_rfl
/-- A struct of the call's own, in block K, beside the reader. -/
structure Ps (w : World) (B K : Nat) (l : List Nat) (T : TypeId) (W : World) (r : List Nat) (cs : Array Value) : Prop where
  rd : Rd W B l r
  own : Cells W K cs T
  bt : But B w W
  le : w.heap.size ≤ K
  lt : B < w.heap.size
section
variable {w : World} {B K : Nat} {l : List Nat} {T : TypeId} {W W' : World} {r r' : List Nat} {cs : Array Value}
theorem Ps.but (h : Ps w B K l T W r cs) (hr : Rd W' B l r') (k : But B W W') : Ps w B K l T W' r' cs :=
  ⟨hr, k.cells h.own (by have := h.le; have := h.lt; omega), h.bt.trans k, h.le, h.lt⟩
theorem Ps.bel (h : Ps w B K l T W r cs) (k : Below W.heap.size W W') : Ps w B K l T W' r cs :=
  ⟨h.rd.below k h.rd.lt, h.own.below k h.own.lt, h.bt.bel k, h.le, h.lt⟩
theorem Ps.set (h : Ps w B K l T W r cs) (i : Nat) (v : Value) : Ps w B K l T (W.setCell ⟨K, i, none⟩ v) r (cs.setIfInBounds i v) := by
  have hl := h.le
  have ht := h.lt
  refine ⟨?_, h.own.set i v, h.bt.then_below ((Below.refl _ W).setCell (p := ⟨K, i, none⟩) h.le v), h.le, h.lt⟩
  exact h.rd.below (C := w.heap.size) ((Below.refl _ W).setCell (p := ⟨K, i, none⟩) h.le v) h.lt
end
/-- What param comes to. -/
def GoP (w : World) (B : Nat) (l : List Nat) (R : Option (Fd × List Nat)) (e : Ending) (w' : World) : Prop := But B w w' ∧ ((∃ f r', R = some (f, r') ∧ e = .returned (.agg #[.string (st f.1), .string (st f.2)]) ∧ Rd w' B l r') ∨ (R = none ∧ e = .panicked pz))
set_option maxHeartbeats 1000000 in
theorem param_c {w : World} {B : Nat} {l r : List Nat} (h : Rd w B l r) (hl : l.length ≤ 140737488355328) (ho : Oct l) : Calls Try.prog 48 #[.pointer (some ⟨B, 0, none⟩)] w (GoP w B l (pm0 r)) := by
  obtain ⟨H, hH⟩ : ∃ H, w.heap.size = H := ⟨_, rfl⟩
  obtain ⟨K, hK⟩ : ∃ K, H + 1 = K := ⟨_, rfl⟩
  obtain ⟨w1, hw1⟩ : ∃ w1, w1 = (w.alloc (.cells #[.string ⟨#[]⟩, .string ⟨#[]⟩] 29)).alloc (.cells #[.string ⟨#[]⟩, .string ⟨#[]⟩] 29) := ⟨_, rfl⟩
  have bw1 : Below w.heap.size w w1 := by rw [hw1]; exact ((Below.refl _ w).alloc (Nat.le_refl _) _).alloc (by simp) _
  have kH : Cells w1 H #[.string ⟨#[]⟩, .string ⟨#[]⟩] 29 := by rw [hw1, ← hH]; exact (Cells.new w _ 29).alloc _
  have kK : Cells w1 K #[.string ⟨#[]⟩, .string ⟨#[]⟩] 29 := by
    have := Cells.new (w.alloc (.cells #[.string ⟨#[]⟩, .string ⟨#[]⟩] 29)) #[.string ⟨#[]⟩, .string ⟨#[]⟩] 29
    rw [← hw1] at this
    have e : (w.alloc (.cells #[.string ⟨#[]⟩, .string ⟨#[]⟩] 29)).heap.size = K := by simp [hH, hK]
    rw [e] at this
    exact this
  have P1 : Ps w B K l 29 w1 r #[.string ⟨#[]⟩, .string ⟨#[]⟩] := ⟨h.below bw1 h.lt, kK, (But.refl B w).bel bw1, by omega, h.lt⟩
  have AH : Aside (Cells w1 H #[.string ⟨#[]⟩, .string ⟨#[]⟩] 29 ∧ w.heap.size = H ∧ H + 1 = K ∧ B ≠ H) := ⟨kH, hH, hK, by have := h.lt; omega⟩
  have hs59 := sign_c P1.rd hl ho 59 59 rfl
  have hs61 := fun W r' (hW : Rd W B l r') => sign_c hW hl ho 61 61 rfl
  have htk := fun W r' (hW : Rd W B l r') => rtok_c hW hl ho
  have hvl := fun W r' (hW : Rd W B l r') => value_c hW hl ho
  have hbw := fun W r' (hW : Rd W B l r') => between_c hW hl ho
  obtain ⟨R, hR⟩ : ∃ R, pm0 r = R := ⟨_, rfl⟩
  rw [hR]
  unfold pm0 at hR
  have hlo := fun a (ha : a <:+ l) W => lower_c (a.take (rn a)) ((ho.suf ha).take _) (by have := ha.length_le; simp; omega) W
  clear h hl ho bw1 kH kK
  cases h1 : (bt 0 r).bind (sg 59) with
  | none =>
    rw [h1] at hR hs59
    have A2 : Aside (R = none) := hR.symm
    clear h1 hR hs61 htk hvl hbw hlo
    go_enter Try.func48, Try.ntmps48
    go_upto_region 2 with fail
    rw [← hw1]
    clear hw1 hH hK
    go_wp2_with (go_at_call 46; (with_reducible refine hs59.mono ?_); intro e1 w2 h2; obtain ⟨rfl, hb2⟩ := h2.no)
    exact ⟨rfl, P1.bt.trans hb2, Or.inr ⟨A2.out, rfl⟩⟩
  | some r1 =>
    rw [h1] at hR hs59
    simp only [Option.bind_some] at hR
    replace htk := fun W (hW : Rd W B l r1) => htk W r1 hW
    clear h1
    cases h2 : tk1 r1 with
    | none =>
      rw [h2] at hR htk
      have A2 : Aside (R = none) := hR.symm
      clear h2 hR hs61 hvl hbw hlo
      go_enter Try.func48, Try.ntmps48
      go_upto_region 2 with fail
      rw [← hw1]
      clear hw1 hH hK
      go_wp2_with (first
        | (go_at_call 46; (with_reducible refine hs59.mono ?_); intro e1 w2 h2; obtain ⟨rfl, hr2, hb2⟩ := h2.ok)
        | (go_at_call 45; (with_reducible refine (htk _ hr2).mono ?_); intro e2 w3 h3; obtain ⟨rfl, hb3⟩ := h3.no))
      exact ⟨rfl, (P1.bt.trans hb2).trans hb3, Or.inr ⟨A2.out, rfl⟩⟩
    | some a =>
      obtain ⟨a1, a2⟩ := a
      rw [h2] at hR htk
      obtain ⟨hv, _, _⟩ := tk1_out h2
      replace hlo := fun (ha : r1 <:+ l) W => hlo r1 ha W
      rw [← hv] at hlo
      simp only [Option.bind_some] at hR
      replace hs61 := fun W (hW : Rd W B l a2) => hs61 W a2 hW
      clear h2 hv
      obtain ⟨N, hN⟩ : ∃ N, st (low a1) = N := ⟨_, rfl⟩
      rw [hN] at hlo
      cases h3 : (bt 0 a2).bind (sg 61) with
      | none =>
        rw [h3] at hR hs61
        have A2 : Aside (R = none) := hR.symm
        clear h3 hR hvl hbw hN
        go_enter Try.func48, Try.ntmps48
        go_upto_region 2 with fail
        rw [← hw1]
        clear hw1 hH hK
        go_upto_region 3 with (first
          | (go_at_call 46; (with_reducible refine hs59.mono ?_); intro e1 w2 h2; obtain ⟨rfl, hr2, hb2⟩ := h2.ok))
        replace hlo := hlo hr2.suf
        have P2 := P1.but hr2 hb2
        clear P1 hs59 hb2
        go_upto_region 4 with (first
          | (go_at_call 45; (with_reducible refine (htk _ hr2).mono ?_); intro e2 w3 h3; obtain ⟨rfl, hr3, hb3⟩ := h3.ok)
          | (go_at_call 14; (with_reducible refine (hlo _).mono ?_); rintro e3 w4 ⟨rfl, hb4⟩; have P4 := (P2.but hr3 hb3).bel hb4; have f4 := P4.own.frozen 0; have g4 := P4.own.cell 0))
        have P5 := P4.set 0 (.string N)
        clear f4 g4 P4 P2 hb3 hb4 hr3 hr2 htk hlo
        generalize w4.setCell ⟨K, 0, none⟩ (.string N) = w5 at P5 ⊢
        replace hs61 := hs61 w5 P5.rd
        go_wp2_with (go_at_call 46; (with_reducible refine hs61.mono ?_); intro e5 w6 h6; obtain ⟨rfl, hb6⟩ := h6.no)
        exact ⟨rfl, P5.bt.trans hb6, Or.inr ⟨A2.out, rfl⟩⟩
      | some r3 =>
        rw [h3] at hR hs61
        simp only [Option.bind_some] at hR
        replace hvl := fun W (hW : Rd W B l r3) => hvl W r3 hW
        clear h3
        cases h4 : vl1 r3 with
        | none =>
          rw [h4] at hR hvl
          have A2 : Aside (R = none) := hR.symm
          clear h4 hR hbw hN
          go_enter Try.func48, Try.ntmps48
          go_upto_region 2 with fail
          rw [← hw1]
          clear hw1 hH hK
          go_upto_region 3 with (first
            | (go_at_call 46; (with_reducible refine hs59.mono ?_); intro e1 w2 h2; obtain ⟨rfl, hr2, hb2⟩ := h2.ok))
          replace hlo := hlo hr2.suf
          have P2 := P1.but hr2 hb2
          clear P1 hs59 hb2
          go_upto_region 4 with (first
            | (go_at_call 45; (with_reducible refine (htk _ hr2).mono ?_); intro e2 w3 h3; obtain ⟨rfl, hr3, hb3⟩ := h3.ok)
            | (go_at_call 14; (with_reducible refine (hlo _).mono ?_); rintro e3 w4 ⟨rfl, hb4⟩; have P4 := (P2.but hr3 hb3).bel hb4; have f4 := P4.own.frozen 0; have g4 := P4.own.cell 0))
          have P5 := P4.set 0 (.string N)
          clear f4 g4 P4 P2 hb3 hb4 hr3 hr2 htk hlo
          generalize w4.setCell ⟨K, 0, none⟩ (.string N) = w5 at P5 ⊢
          replace hs61 := hs61 w5 P5.rd
          go_wp2_with (first
            | (go_at_call 46; (with_reducible refine hs61.mono ?_); intro e5 w6 h6; obtain ⟨rfl, hr6, hb6⟩ := h6.ok)
            | (go_at_call 56; (with_reducible refine (hvl _ hr6).mono ?_); intro e6 w7 h7; obtain ⟨rfl, hb7⟩ := h7.no))
          exact ⟨rfl, (P5.bt.trans hb6).trans hb7, Or.inr ⟨A2.out, rfl⟩⟩
        | some v =>
          obtain ⟨v1, v2⟩ := v
          rw [h4] at hR hvl
          simp only [Option.bind_some] at hR
          replace hbw := fun W (hW : Rd W B l v2) => hbw W v2 hW
          clear h4
          obtain ⟨V, hV⟩ : ∃ V, st v1 = V := ⟨_, rfl⟩
          have hvl2 : ∀ W, Rd W B l r3 → Calls Try.prog 56 #[.pointer (some ⟨B, 0, none⟩)] W fun e w' => e = .returned (.string V) ∧ Rd w' B l v2 ∧ But B W w' := fun W hW => (hvl W hW).mono fun e w' h => by rw [← hV]; exact h.ok
          clear hvl
          cases h5 : bt 0 v2 with
          | none =>
            rw [h5] at hR hbw
            have A2 : Aside (R = none) := hR.symm
            clear h5 hR hN hV
            go_enter Try.func48, Try.ntmps48
            go_upto_region 2 with fail
            rw [← hw1]
            clear hw1 hH hK
            go_upto_region 3 with (first
              | (go_at_call 46; (with_reducible refine hs59.mono ?_); intro e1 w2 h2; obtain ⟨rfl, hr2, hb2⟩ := h2.ok))
            replace hlo := hlo hr2.suf
            have P2 := P1.but hr2 hb2
            clear P1 hs59 hb2
            go_upto_region 4 with (first
              | (go_at_call 45; (with_reducible refine (htk _ hr2).mono ?_); intro e2 w3 h3; obtain ⟨rfl, hr3, hb3⟩ := h3.ok)
              | (go_at_call 14; (with_reducible refine (hlo _).mono ?_); rintro e3 w4 ⟨rfl, hb4⟩; have P4 := (P2.but hr3 hb3).bel hb4; have f4 := P4.own.frozen 0; have g4 := P4.own.cell 0))
            have P5 := P4.set 0 (.string N)
            clear f4 g4 P4 P2 hb3 hb4 hr3 hr2 htk hlo
            generalize w4.setCell ⟨K, 0, none⟩ (.string N) = w5 at P5 ⊢
            replace hs61 := hs61 w5 P5.rd
            go_upto_region 6 with (first
              | (go_at_call 46; (with_reducible refine hs61.mono ?_); intro e5 w6 h6; obtain ⟨rfl, hr6, hb6⟩ := h6.ok)
              | (go_at_call 56; (with_reducible refine (hvl2 _ hr6).mono ?_); rintro e6 w7 ⟨rfl, hr7, hb7⟩; have P7 := (P5.but hr6 hb6).but hr7 hb7; have f7 := P7.own.frozen 1; have g7 := P7.own.cell 1))
            have P8 := P7.set 1 (.string V)
            clear f7 g7 P7 P5 hb6 hb7 hr6 hr7 hvl2 hs61
            generalize w7.setCell ⟨K, 1, none⟩ (.string V) = w8 at P8 ⊢
            replace hbw := hbw w8 P8.rd
            go_wp2_with (go_at_call 44; (with_reducible refine hbw.mono ?_); intro e8 w9 h9; obtain ⟨rfl, hb9⟩ := h9.no)
            exact ⟨rfl, P8.bt.trans hb9, Or.inr ⟨A2.out, rfl⟩⟩
          | some q =>
            rw [h5] at hR hbw
            have A2 : Aside (R = some ((low a1, v1), q) ∧ st (low a1) = N ∧ st v1 = V) := ⟨hR.symm, hN, hV⟩
            clear h5 hR hN hV
            go_enter Try.func48, Try.ntmps48
            go_upto_region 2 with fail
            rw [← hw1]
            clear hw1 hH hK
            go_upto_region 3 with (first
              | (go_at_call 46; (with_reducible refine hs59.mono ?_); intro e1 w2 h2; obtain ⟨rfl, hr2, hb2⟩ := h2.ok))
            replace hlo := hlo hr2.suf
            have P2 := P1.but hr2 hb2
            have kH2 := hb2.cells AH.out.1 (fun e => AH.out.2.2.2 e.symm)
            clear P1 hs59 hb2
            go_upto_region 4 with (first
              | (go_at_call 45; (with_reducible refine (htk _ hr2).mono ?_); intro e2 w3 h3; obtain ⟨rfl, hr3, hb3⟩ := h3.ok)
              | (go_at_call 14; (with_reducible refine (hlo _).mono ?_); rintro e3 w4 ⟨rfl, hb4⟩; have P4 := (P2.but hr3 hb3).bel hb4; have f4 := P4.own.frozen 0; have g4 := P4.own.cell 0))
            have P5 := P4.set 0 (.string N)
            have kH4 := (hb3.cells kH2 (fun e => AH.out.2.2.2 e.symm)).below hb4 (hb3.cells kH2 (fun e => AH.out.2.2.2 e.symm)).lt
            have kH5 := kH4.only ((Only.refl K w4).setCell 0 (.string N)) (by have := AH.out.2.2.1; omega)
            clear f4 g4 P4 P2 hb3 hb4 hr3 hr2 htk hlo kH2 kH4
            generalize w4.setCell ⟨K, 0, none⟩ (.string N) = w5 at P5 kH5 ⊢
            replace hs61 := hs61 w5 P5.rd
            go_upto_region 6 with (first
              | (go_at_call 46; (with_reducible refine hs61.mono ?_); intro e5 w6 h6; obtain ⟨rfl, hr6, hb6⟩ := h6.ok)
              | (go_at_call 56; (with_reducible refine (hvl2 _ hr6).mono ?_); rintro e6 w7 ⟨rfl, hr7, hb7⟩; have P7 := (P5.but hr6 hb6).but hr7 hb7; have f7 := P7.own.frozen 1; have g7 := P7.own.cell 1))
            have P8 := P7.set 1 (.string V)
            have kH7 := (hb6.trans hb7).cells kH5 (fun e => AH.out.2.2.2 e.symm)
            have kH8 := kH7.only ((Only.refl K w7).setCell 1 (.string V)) (by have := AH.out.2.2.1; omega)
            clear f7 g7 P7 P5 hb6 hb7 hr6 hr7 hvl2 hs61 kH5 kH7
            generalize w7.setCell ⟨K, 1, none⟩ (.string V) = w8 at P8 kH8 ⊢
            replace hbw := hbw w8 P8.rd
            go_upto_region 7 with (go_at_call 44; (with_reducible refine hbw.mono ?_); intro e8 w9 h9; obtain ⟨rfl, hr9, hb9⟩ := h9.ok)
            have P9 := P8.but hr9 hb9
            have kH9 := hb9.cells kH8 (fun e => AH.out.2.2.2 e.symm)
            have x0 : w9.cell? ⟨K, 0, none⟩ = some (.string N) := by rw [P9.own.cell]; rfl
            have x1 : w9.cell? ⟨K, 1, none⟩ = some (.string V) := by rw [P9.own.cell]; rfl
            have y0 := kH9.frozen 0
            have y1 := kH9.frozen 1
            have z0 : w9.cell? ⟨H, 0, none⟩ = some (.string ⟨#[]⟩) := by rw [kH9.cell]; rfl
            have z1 : w9.cell? ⟨H, 1, none⟩ = some (.string ⟨#[]⟩) := by rw [kH9.cell]; rfl
            have A9 : Aside (Ps w B K l 29 w9 q #[.string N, .string V] ∧ Cells w9 H #[.string ⟨#[]⟩, .string ⟨#[]⟩] 29) := ⟨P9, kH9⟩
            clear P8 P9 kH8 kH9 hr9 hb9 hbw
            go_wp2_with fail
            obtain ⟨p9, k9⟩ := A9.out
            have k10 := (k9.set 0 (.string N)).set 1 (.string V)
            have hbel : Below H w9 ((w9.setCell ⟨H, 0, none⟩ (.string N)).setCell ⟨H, 1, none⟩ (.string V)) := ((Below.refl H w9).setCell (p := ⟨H, 0, none⟩) (Nat.le_refl _) _).setCell (p := ⟨H, 1, none⟩) (Nat.le_refl _) _
            refine bodyPost_ret (v := .agg #[.string N, .string V]) ?_ rfl ?_
            · exact results_cell_row rfl _ _ H 29 _ (0, 0) _ rfl k10 Try.underlying29 rfl size29
            · have hh := AH.out.2.1
              refine ⟨p9.bt.then_below (by rw [hh]; exact hbel), Or.inl ⟨(low a1, v1), q, A2.out.1, by rw [A2.out.2.1, A2.out.2.2], p9.rd.below hbel (by rw [← hh]; exact p9.lt)⟩⟩
end Go.Proofs.Ytdndlegfalmkaaa

/-
  The reader: wholeType.
-/
import Derived.Test.YtdndlegfalmkaaaPrm
import Derived.Deep.RegionLaw
import Derived.Deep.RegionHeld3
namespace Go.Proofs.Ytdndlegfalmkaaa
open Go.RowKit
set_option linter.unusedVariables false
/-- A type's value, as the reader goes. -/
def ty0 (l : List Nat) : Option Ty := (bt 0 l).bind fun r0 => (tk1 r0).bind fun a => ((bt 0 a.2).bind (sg 47)).bind fun r1 => (tk1 r1).bind fun b => (bt 0 b.2).bind fun b2 => (ps b2.length b2).map fun F => (low a.1, low b.1, F)
theorem ty0_eq (l : List Nat) : ty0 l = ty l := by
  unfold ty0 ty
  congr 1
  funext r0
  rw [tkn_eq]
  cases tk1 r0 with
  | none => rfl
  | some a =>
    simp only [Option.bind_some]
    cases bt 0 a.2 with
    | none => rfl
    | some a2 =>
      simp only [Option.bind_some, Option.map_some]
      cases sg 47 a2 with
      | none => rfl
      | some r1 =>
        simp only [Option.bind_some]
        rw [tkn_eq]
        cases tk1 r1 with
        | none => rfl
        | some b =>
          simp only [Option.bind_some]
          cases bt 0 b.2 <;> rfl
theorem ps_pm0 {r : List Nat} (h : r ≠ []) (hb : bt 0 r = some r) : ps r.length r = (pm0 r).bind fun p => (ps p.2.length p.2).map (p.1 :: ·) := by
  rw [ps_step h, pm0_eq, hb]
  simp only [Option.bind_some]
  cases sg 59 r with
  | none => rfl
  | some r1 => rfl
theorem pm0_out {r q : List Nat} {f : Fd} (h : pm0 r = some (f, q)) : q.length < r.length ∧ bt 0 q = some q := by
  rw [pm0_eq] at h
  cases h1 : bt 0 r with
  | none => rw [h1] at h; cases h
  | some r0 =>
    rw [h1] at h
    simp only [Option.bind_some] at h
    cases h2 : sg 59 r0 with
    | none => rw [h2] at h; cases h
    | some r1 =>
      rw [h2] at h
      simp only [Option.bind_some] at h
      have k1 := bt_le h1
      have k2 := sg_out h2
      have k3 := pm_out h
      exact ⟨by omega, k3.2.2.2⟩
theorem Ps.bt_lt {w : World} {B K : Nat} {l : List Nat} {T : TypeId} {W : World} {r : List Nat} {cs : Array Value} (h : Ps w B K l T W r cs) : K < W.heap.size := h.own.lt
/-- What wholeType comes to. -/
def GoT (w : World) (B : Nat) (R : Option Ty) (e : Ending) (w' : World) : Prop := But B w w' ∧ ((∃ t v n, R = some t ∧ e = .returned (.agg #[.string (st t.1), .string (st t.2.1), v]) ∧ Ow w' w.heap.size 29 2 v n (fc t.2.2)) ∨ (R = none ∧ e = .panicked pz))
theorem fc_one {T : List Fd} : ∀ u ∈ fc T, u.oneCell' = true := by
  intro u hu
  simp only [fc, List.mem_flatMap] at hu
  obtain ⟨f, _, h⟩ := hu
  simp at h
  rcases h with rfl | rfl <;> rfl
set_option maxHeartbeats 2000000 in
theorem wty_c {w : World} {B : Nat} {l : List Nat} (h : Rd w B l l) (hl : l.length ≤ 1099511627776) (ho : Oct l) : Calls Try.prog 28 #[.pointer (some ⟨B, 0, none⟩)] w (GoT w B (ty l)) := by
  have hl2 : l.length ≤ 140737488355328 := by omega
  rw [← ty0_eq]
  obtain ⟨H, hH⟩ : ∃ H, w.heap.size = H := ⟨_, rfl⟩
  obtain ⟨K, hK⟩ : ∃ K, H + 1 = K := ⟨_, rfl⟩
  obtain ⟨w1, hw1⟩ : ∃ w1, w1 = (w.alloc (.cells #[.string ⟨#[]⟩, .string ⟨#[]⟩, .slice none 0 0] 24)).alloc (.cells #[.string ⟨#[]⟩, .string ⟨#[]⟩, .slice none 0 0] 24) := ⟨_, rfl⟩
  have bw1 : Below w.heap.size w w1 := by rw [hw1]; exact ((Below.refl _ w).alloc (Nat.le_refl _) _).alloc (by simp) _
  have kH : Cells w1 H #[.string ⟨#[]⟩, .string ⟨#[]⟩, .slice none 0 0] 24 := by rw [hw1, ← hH]; exact (Cells.new w _ 24).alloc _
  have kK : Cells w1 K #[.string ⟨#[]⟩, .string ⟨#[]⟩, .slice none 0 0] 24 := by
    have := Cells.new (w.alloc (.cells #[.string ⟨#[]⟩, .string ⟨#[]⟩, .slice none 0 0] 24)) #[.string ⟨#[]⟩, .string ⟨#[]⟩, .slice none 0 0] 24
    rw [← hw1] at this
    have e : (w.alloc (.cells #[.string ⟨#[]⟩, .string ⟨#[]⟩, .slice none 0 0] 24)).heap.size = K := by simp [hH, hK]
    rw [e] at this
    exact this
  have P1 : Ps w B K l 24 w1 l #[.string ⟨#[]⟩, .string ⟨#[]⟩, .slice none 0 0] := ⟨h.below bw1 h.lt, kK, (But.refl B w).bel bw1, by omega, h.lt⟩
  have AH : Aside (Cells w1 H #[.string ⟨#[]⟩, .string ⟨#[]⟩, .slice none 0 0] 24 ∧ w.heap.size = H ∧ H + 1 = K ∧ B ≠ H) := ⟨kH, hH, hK, by have := h.lt; omega⟩
  have AL : Aside (l.length ≤ 1099511627776 ∧ Oct l) := ⟨hl, ho⟩
  have hb0 := between_c P1.rd hl2 ho
  have htk := fun W r' (hW : Rd W B l r') => rtok_c hW hl2 ho
  have hsg := fun W r' (hW : Rd W B l r') => sign_c hW hl2 ho 47 47 rfl
  have htk2 := htk
  have hbw := fun W r' (hW : Rd W B l r') => between_c hW hl2 ho
  have hlo := fun a (ha : a <:+ l) W => lower_c (a.take (rn a)) ((ho.suf ha).take _) (by have := ha.length_le; simp; omega) W
  have hlo2 := hlo
  obtain ⟨R, hR⟩ : ∃ R, ty0 l = R := ⟨_, rfl⟩
  rw [hR]
  unfold ty0 at hR
  clear h hl ho bw1 kH kK hl2
  cases h1 : bt 0 l with
  | none =>
    rw [h1] at hR hb0
    have A2 : Aside (R = none) := hR.symm
    clear h1 hR htk hsg htk2 hbw hlo hlo2
    go_enter Try.func28, Try.ntmps28
    go_upto_region 2 with fail
    rw [← hw1]
    clear hw1 hH hK
    go_wp2_with (go_at_call 44; (with_reducible refine hb0.mono ?_); intro e1 w2 h2; obtain ⟨rfl, hb2⟩ := h2.no)
    exact ⟨rfl, P1.bt.trans hb2, Or.inr ⟨A2.out, rfl⟩⟩
  | some r0 =>
    rw [h1] at hR hb0
    simp only [Option.bind_some] at hR
    replace htk := fun W (hW : Rd W B l r0) => htk W r0 hW
    clear h1
    cases h2 : tk1 r0 with
    | none =>
      rw [h2] at hR htk
      have A2 : Aside (R = none) := hR.symm
      clear h2 hR hsg htk2 hbw hlo2
      replace hlo := hlo r0
      go_enter Try.func28, Try.ntmps28
      go_upto_region 2 with fail
      rw [← hw1]
      clear hw1 hH hK
      go_upto_region 3 with (go_at_call 44; (with_reducible refine hb0.mono ?_); intro e1 w2 h2; obtain ⟨rfl, hr2, hb2⟩ := h2.ok)
      replace hlo := hlo hr2.suf
      have P2 := P1.but hr2 hb2
      clear P1 hb0 hb2
      go_wp2_with (go_at_call 45; (with_reducible refine (htk _ hr2).mono ?_); intro e2 w3 h3; obtain ⟨rfl, hb3⟩ := h3.no)
      exact ⟨rfl, P2.bt.trans hb3, Or.inr ⟨A2.out, rfl⟩⟩
    | some a =>
      obtain ⟨a1, a2⟩ := a
      rw [h2] at hR htk
      obtain ⟨hv, _, _⟩ := tk1_out h2
      replace hlo := fun (ha : r0 <:+ l) W => hlo r0 ha W
      rw [← hv] at hlo
      simp only [Option.bind_some] at hR
      replace hsg := fun W (hW : Rd W B l a2) => hsg W a2 hW
      clear h2 hv
      obtain ⟨M, hM⟩ : ∃ M, st (low a1) = M := ⟨_, rfl⟩
      rw [hM] at hlo
      cases h3 : (bt 0 a2).bind (sg 47) with
      | none =>
        rw [h3] at hR hsg
        have A2 : Aside (R = none) := hR.symm
        clear h3 hR htk2 hbw hlo2 hM
        go_enter Try.func28, Try.ntmps28
        go_upto_region 2 with fail
        rw [← hw1]
        clear hw1 hH hK
        go_upto_region 3 with (go_at_call 44; (with_reducible refine hb0.mono ?_); intro e1 w2 h2; obtain ⟨rfl, hr2, hb2⟩ := h2.ok)
        replace hlo := hlo hr2.suf
        have P2 := P1.but hr2 hb2
        clear P1 hb0 hb2
        go_upto_region 4 with (first
          | (go_at_call 45; (with_reducible refine (htk _ hr2).mono ?_); intro e2 w3 h3; obtain ⟨rfl, hr3, hb3⟩ := h3.ok)
          | (go_at_call 14; (with_reducible refine (hlo _).mono ?_); rintro e3 w4 ⟨rfl, hb4⟩; have P4 := (P2.but hr3 hb3).bel hb4; have f4 := P4.own.frozen 0; have g4 := P4.own.cell 0))
        have P5 := P4.set 0 (.string M)
        clear f4 g4 P4 P2 hb3 hb4 hr3 hr2 htk hlo
        generalize w4.setCell ⟨K, 0, none⟩ (.string M) = w5 at P5 ⊢
        replace hsg := hsg w5 P5.rd
        go_wp2_with (go_at_call 46; (with_reducible refine hsg.mono ?_); intro e5 w6 h6; obtain ⟨rfl, hb6⟩ := h6.no)
        exact ⟨rfl, P5.bt.trans hb6, Or.inr ⟨A2.out, rfl⟩⟩
      | some r1 =>
        rw [h3] at hR hsg
        simp only [Option.bind_some] at hR
        replace htk2 := fun W (hW : Rd W B l r1) => htk2 W r1 hW
        clear h3
        cases h4 : tk1 r1 with
        | none =>
          rw [h4] at hR htk2
          have A2 : Aside (R = none) := hR.symm
          clear h4 hR hbw hM
          replace hlo2 := hlo2 r1
          go_enter Try.func28, Try.ntmps28
          go_upto_region 2 with fail
          rw [← hw1]
          clear hw1 hH hK
          go_upto_region 3 with (go_at_call 44; (with_reducible refine hb0.mono ?_); intro e1 w2 h2; obtain ⟨rfl, hr2, hb2⟩ := h2.ok)
          replace hlo := hlo hr2.suf
          have P2 := P1.but hr2 hb2
          clear P1 hb0 hb2
          go_upto_region 4 with (first
            | (go_at_call 45; (with_reducible refine (htk _ hr2).mono ?_); intro e2 w3 h3; obtain ⟨rfl, hr3, hb3⟩ := h3.ok)
            | (go_at_call 14; (with_reducible refine (hlo _).mono ?_); rintro e3 w4 ⟨rfl, hb4⟩; have P4 := (P2.but hr3 hb3).bel hb4; have f4 := P4.own.frozen 0; have g4 := P4.own.cell 0))
          have P5 := P4.set 0 (.string M)
          clear f4 g4 P4 P2 hb3 hb4 hr3 hr2 htk hlo
          generalize w4.setCell ⟨K, 0, none⟩ (.string M) = w5 at P5 ⊢
          replace hsg := hsg w5 P5.rd
          go_upto_region 5 with (go_at_call 46; (with_reducible refine hsg.mono ?_); intro e5 w6 h6; obtain ⟨rfl, hr6, hb6⟩ := h6.ok)
          replace hlo2 := hlo2 hr6.suf
          have P6 := P5.but hr6 hb6
          clear P5 hsg hb6
          go_wp2_with (go_at_call 45; (with_reducible refine (htk2 _ hr6).mono ?_); intro e6 w7 h7; obtain ⟨rfl, hb7⟩ := h7.no)
          exact ⟨rfl, P6.bt.trans hb7, Or.inr ⟨A2.out, rfl⟩⟩
        | some b =>
          obtain ⟨b1, b2⟩ := b
          rw [h4] at hR htk2
          obtain ⟨hv, _, _⟩ := tk1_out h4
          replace hlo2 := fun (ha : r1 <:+ l) W => hlo2 r1 ha W
          rw [← hv] at hlo2
          simp only [Option.bind_some] at hR
          replace hbw := fun W (hW : Rd W B l b2) => hbw W b2 hW
          clear h4 hv
          obtain ⟨S, hS⟩ : ∃ S, st (low b1) = S := ⟨_, rfl⟩
          rw [hS] at hlo2
          cases h5 : bt 0 b2 with
          | none =>
            rw [h5] at hR hbw
            have A2 : Aside (R = none) := hR.symm
            clear h5 hR hM hS
            go_enter Try.func28, Try.ntmps28
            go_upto_region 2 with fail
            rw [← hw1]
            clear hw1 hH hK
            go_upto_region 3 with (go_at_call 44; (with_reducible refine hb0.mono ?_); intro e1 w2 h2; obtain ⟨rfl, hr2, hb2⟩ := h2.ok)
            replace hlo := hlo hr2.suf
            have P2 := P1.but hr2 hb2
            clear P1 hb0 hb2
            go_upto_region 4 with (first
              | (go_at_call 45; (with_reducible refine (htk _ hr2).mono ?_); intro e2 w3 h3; obtain ⟨rfl, hr3, hb3⟩ := h3.ok)
              | (go_at_call 14; (with_reducible refine (hlo _).mono ?_); rintro e3 w4 ⟨rfl, hb4⟩; have P4 := (P2.but hr3 hb3).bel hb4; have f4 := P4.own.frozen 0; have g4 := P4.own.cell 0))
            have P5 := P4.set 0 (.string M)
            clear f4 g4 P4 P2 hb3 hb4 hr3 hr2 htk hlo
            generalize w4.setCell ⟨K, 0, none⟩ (.string M) = w5 at P5 ⊢
            replace hsg := hsg w5 P5.rd
            go_upto_region 5 with (go_at_call 46; (with_reducible refine hsg.mono ?_); intro e5 w6 h6; obtain ⟨rfl, hr6, hb6⟩ := h6.ok)
            replace hlo2 := hlo2 hr6.suf
            have P6 := P5.but hr6 hb6
            clear P5 hsg hb6
            go_upto_region 6 with (first
              | (go_at_call 45; (with_reducible refine (htk2 _ hr6).mono ?_); intro e6 w7 h7; obtain ⟨rfl, hr7, hb7⟩ := h7.ok)
              | (go_at_call 14; (with_reducible refine (hlo2 _).mono ?_); rintro e7 w8 ⟨rfl, hb8⟩; have P8 := (P6.but hr7 hb7).bel hb8; have f8 := P8.own.frozen 1; have g8 := P8.own.cell 1))
            have P9 := P8.set 1 (.string S)
            clear f8 g8 P8 P6 hb7 hb8 hr7 hr6 htk2 hlo2
            generalize w8.setCell ⟨K, 1, none⟩ (.string S) = w9 at P9 ⊢
            replace hbw := hbw w9 P9.rd
            go_wp2_with (go_at_call 44; (with_reducible refine hbw.mono ?_); intro e8 w10 h9; obtain ⟨rfl, hb9⟩ := h9.no)
            exact ⟨rfl, P9.bt.trans hb9, Or.inr ⟨A2.out, rfl⟩⟩
          | some r5 =>
            rw [h5] at hR hbw
            simp only [Option.bind_some] at hR
            have A2 : Aside ((ps r5.length r5).map (fun F => ((low a1, low b1, F) : Ty)) = R ∧ st (low a1) = M ∧ st (low b1) = S ∧ bt 0 r5 = some r5) := ⟨hR, hM, hS, bt_id h5⟩
            clear h5 hR hM hS
            go_enter Try.func28, Try.ntmps28
            go_upto_region 2 with fail
            rw [← hw1]
            clear hw1 hH hK
            go_upto_region 3 with (go_at_call 44; (with_reducible refine hb0.mono ?_); intro e1 w2 h2; obtain ⟨rfl, hr2, hb2⟩ := h2.ok)
            replace hlo := hlo hr2.suf
            have P2 := P1.but hr2 hb2
            have kH2 := hb2.cells AH.out.1 (fun e => AH.out.2.2.2 e.symm)
            clear P1 hb0 hb2
            go_upto_region 4 with (first
              | (go_at_call 45; (with_reducible refine (htk _ hr2).mono ?_); intro e2 w3 h3; obtain ⟨rfl, hr3, hb3⟩ := h3.ok)
              | (go_at_call 14; (with_reducible refine (hlo _).mono ?_); rintro e3 w4 ⟨rfl, hb4⟩; have P4 := (P2.but hr3 hb3).bel hb4; have f4 := P4.own.frozen 0; have g4 := P4.own.cell 0))
            have P5 := P4.set 0 (.string M)
            have kH4 := (hb3.cells kH2 (fun e => AH.out.2.2.2 e.symm)).below hb4 (hb3.cells kH2 (fun e => AH.out.2.2.2 e.symm)).lt
            have kH5 := kH4.only ((Only.refl K w4).setCell 0 (.string M)) (by have := AH.out.2.2.1; omega)
            clear f4 g4 P4 P2 hb3 hb4 hr3 hr2 htk hlo
            clear kH2 kH4
            generalize w4.setCell ⟨K, 0, none⟩ (.string M) = w5 at P5 kH5 ⊢
            replace hsg := hsg w5 P5.rd
            go_upto_region 5 with (go_at_call 46; (with_reducible refine hsg.mono ?_); intro e5 w6 h6; obtain ⟨rfl, hr6, hb6⟩ := h6.ok)
            replace hlo2 := hlo2 hr6.suf
            have P6 := P5.but hr6 hb6
            have kH6 := hb6.cells kH5 (fun e => AH.out.2.2.2 e.symm)
            clear P5 hsg hb6
            clear kH5
            go_upto_region 6 with (first
              | (go_at_call 45; (with_reducible refine (htk2 _ hr6).mono ?_); intro e6 w7 h7; obtain ⟨rfl, hr7, hb7⟩ := h7.ok)
              | (go_at_call 14; (with_reducible refine (hlo2 _).mono ?_); rintro e7 w8 ⟨rfl, hb8⟩; have P8 := (P6.but hr7 hb7).bel hb8; have f8 := P8.own.frozen 1; have g8 := P8.own.cell 1))
            have P9 := P8.set 1 (.string S)
            have kH8 := (hb7.cells kH6 (fun e => AH.out.2.2.2 e.symm)).below hb8 (hb7.cells kH6 (fun e => AH.out.2.2.2 e.symm)).lt
            have kH9 := kH8.only ((Only.refl K w8).setCell 1 (.string S)) (by have := AH.out.2.2.1; omega)
            clear f8 g8 P8 P6 hb7 hb8 hr7 hr6 htk2 hlo2
            clear kH6 kH8
            generalize w8.setCell ⟨K, 1, none⟩ (.string S) = w9 at P9 kH9 ⊢
            replace hbw := hbw w9 P9.rd
            go_wp2_with (go_at_call 44; (with_reducible refine hbw.mono ?_); intro e8 w10 h9; obtain ⟨rfl, hr10, hb10⟩ := h9.ok)
            have P10 := P9.but hr10 hb10
            have kH10 := hb10.cells kH9 (fun e => AH.out.2.2.2 e.symm)
            clear P9 kH9 hbw hr10 hb10
            go_loopg [] r5.length (fun g wr => ∃ (r : List Nat) (va : Option Addr) (n c : Nat) (F : List Fd), Aside (g = r.length ∧ Ps w B K l 24 wr r #[.string M, .string S, .slice va n c] ∧ Cells wr H #[.string ⟨#[]⟩, .string ⟨#[]⟩, .slice none 0 0] 24 ∧ Ow wr H 29 2 (.slice va n c) n (fc F) ∧ n + r.length ≤ l.length ∧ bt 0 r = some r ∧ (ps r.length r).map (fun G => ((low a1, low b1, F ++ G) : Ty)) = R))
            case atStart => exact ⟨r5, none, 0, 0, [], rfl, P10, kH10, Ow.nil (by rw [← AH.out.2.1]; exact P10.bt.size), by have := P10.rd.suf.length_le; omega, A2.out.2.2.2, A2.out.1⟩
            case round =>
              obtain ⟨r, va, n, c, F, hI⟩ := hrel
              obtain ⟨hg, hP, hkH, how, hnr, hbt, hps⟩ := hI.out
              obtain ⟨hl, ho⟩ := AL.out
              clear P10 kH10
              cases r with
              | nil =>
                have hen := ended_b hP.rd (by omega) true rfl
                have A3 : Aside (Ps w B K l 24 wr [] #[.string M, .string S, .slice va n c] ∧ Cells wr H #[.string ⟨#[]⟩, .string ⟨#[]⟩, .slice none 0 0] 24 ∧ Ow wr H 29 2 (.slice va n c) n (fc F) ∧ R = some (low a1, low b1, F)) := ⟨hP, hkH, how, by rw [← hps]; show some ((low a1, low b1, F ++ []) : Ty) = _; rw [List.append_nil]⟩
                clear hI hg hP hkH how hnr hbt hps hl ho
                go_upto_region 9 with (go_at_call 47; (with_reducible refine hen.mono ?_); rintro e1 w2 ⟨rfl, hr2, hb2⟩)
                have P3 := A3.out.1.but hr2 hb2
                have kH3 := hb2.cells A3.out.2.1 (fun e => AH.out.2.2.2 e.symm)
                have hBH : B < H := by rw [← AH.out.2.1]; exact P3.lt
                have ow3 := A3.out.2.2.1.but hb2 hBH
                have x0 : w2.cell? ⟨K, 0, none⟩ = some (.string M) := by rw [P3.own.cell]; rfl
                have x1 : w2.cell? ⟨K, 1, none⟩ = some (.string S) := by rw [P3.own.cell]; rfl
                have x2 : w2.cell? ⟨K, 2, none⟩ = some (.slice va n c) := by rw [P3.own.cell]; rfl
                have y0 := kH3.frozen 0
                have y1 := kH3.frozen 1
                have y2 := kH3.frozen 2
                have z0 : w2.cell? ⟨H, 0, none⟩ = some (.string ⟨#[]⟩) := by rw [kH3.cell]; rfl
                have z1 : w2.cell? ⟨H, 1, none⟩ = some (.string ⟨#[]⟩) := by rw [kH3.cell]; rfl
                have z2 : w2.cell? ⟨H, 2, none⟩ = some (.slice none 0 0) := by rw [kH3.cell]; rfl
                have A4 : Aside (But B w w2 ∧ Cells w2 H #[.string ⟨#[]⟩, .string ⟨#[]⟩, .slice none 0 0] 24 ∧ Ow w2 H 29 2 (.slice va n c) n (fc F)) := ⟨P3.bt, kH3, ow3⟩
                clear P3 kH3 ow3 hr2 hb2 hen hBH
                go_wp2_with fail
                obtain ⟨p9, k9, o9⟩ := A4.out
                have k10 := ((k9.set 0 (.string M)).set 1 (.string S)).set 2 (.slice va n c)
                have hbel : Below H w2 (((w2.setCell ⟨H, 0, none⟩ (.string M)).setCell ⟨H, 1, none⟩ (.string S)).setCell ⟨H, 2, none⟩ (.slice va n c)) := (((Below.refl H w2).setCell (p := ⟨H, 0, none⟩) (Nat.le_refl _) _).setCell (p := ⟨H, 1, none⟩) (Nat.le_refl _) _).setCell (p := ⟨H, 2, none⟩) (Nat.le_refl _) _
                have o10 := ((o9.set (i := 0) (x := .string M) k9 (by decide)).set (i := 1) (x := .string S) (k9.set 0 (.string M)) (by decide)).set (i := 2) (x := .slice va n c) ((k9.set 0 (.string M)).set 1 (.string S)) (by decide)
                (try simp only [Exit.inBlock, Exit.then])
                refine bodyPost_ret (v := .agg #[.string M, .string S, .slice va n c]) ?_ rfl ?_
                · exact results_cell_row rfl _ _ H 24 _ (0, 0) _ rfl k10 Try.underlying24 rfl size24
                · have hh := AH.out.2.1
                  refine ⟨p9.then_below (by rw [hh]; exact hbel), Or.inl ⟨_, .slice va n c, n, A3.out.2.2.2, by rw [A2.out.2.1, A2.out.2.2.1], by rw [hh]; exact o10⟩⟩
              | cons x r =>
                have hen := ended_b hP.rd (by omega) false rfl
                have hpm := fun W (hW : Rd W B l (x :: r)) => param_c hW (by omega) ho
                rw [ps_pm0 (by simp) hbt] at hps
                cases hpr : pm0 (x :: r) with
                | none =>
                  rw [hpr] at hps hpm
                  have A3 : Aside (R = none ∧ Ps w B K l 24 wr (x :: r) #[.string M, .string S, .slice va n c]) := ⟨hps.symm, hP⟩
                  clear hI hg hP hkH how hnr hbt hps hl ho hpr
                  go_upto_region 8 with (go_at_call 47; (with_reducible refine hen.mono ?_); rintro e1 w2 ⟨rfl, hr2, hb2⟩)
                  have P3 := A3.out.2.but hr2 hb2
                  have x2 : w2.cell? ⟨K, 2, none⟩ = some (.slice va n c) := by rw [P3.own.cell]; rfl
                  have A4 : Aside (But B w w2) := P3.bt
                  have hpm2 : ∀ m, Calls Try.prog 48 #[.pointer (some ⟨B, 0, none⟩)] (w2.drewN m) fun e w' => e = .panicked pz ∧ But B w2 w' := fun m => (hpm _ (hr2.drewN m)).mono fun e w' h => by
                    obtain ⟨hb, ⟨f, q, h1, h2, h3⟩ | ⟨h1, h2⟩⟩ := h
                    · cases h1
                    · exact ⟨h2, ((But.refl B w2).drewN m).trans hb⟩
                  clear P3 hr2 hb2 hen hpm
                  refine wp_region_held_drew (S := fun w' => w'.cell? ⟨K, 2, none⟩ = some (.slice va n c)) (by kernel_rfl) x2 (fun hHeld => ?_)
                  refine wpAnyH_take (i := 0) (oi := ⟨_, _, _, _, _, _⟩) (v := ?_) rfl (by kernel_rfl) (by kernel_rfl) (by kernel_rfl) (fun _ _ _ h => h) (Or.inl ⟨by rfl, ?_⟩) hHeld ?_
                  rotate_left
                  · (intro w9 hSw; (try dsimp only at hSw); go_simp; try (with_reducible rfl))
                  try simp only [Act.put, List.setIfInBounds_toArray, List.set_cons_zero, List.set_cons_succ]
                  refine wpAnyH_take (i := 1) (oi := ⟨_, _, _, _, _, _⟩) (v := ?_) rfl (by kernel_rfl) (by kernel_rfl) (by kernel_rfl) (fun _ _ _ h => h) (Or.inl ⟨by rfl, ?_⟩) hHeld ?_
                  rotate_left
                  · (intro w9 hSw; (try dsimp only at hSw); go_simp; try (with_reducible rfl))
                  try simp only [Act.put, List.setIfInBounds_toArray, List.set_cons_zero, List.set_cons_succ]
                  refine wpAnyH_take (i := 2) (oi := ⟨_, _, _, _, _, _⟩) (v := ?_) rfl (by kernel_rfl) (by kernel_rfl) (by kernel_rfl) (fun _ _ _ h => h) (Or.inl ⟨by rfl, ?_⟩) hHeld ?_
                  rotate_left
                  · (intro w9 hSw; (try dsimp only at hSw); go_simp; try (with_reducible rfl))
                  try simp only [Act.put, List.setIfInBounds_toArray, List.set_cons_zero, List.set_cons_succ]
                  refine wpAnyH_ready (rs := [3]) (by kernel_rfl) (by simp) ?_
                  refine AllReadyH.cons (o := ⟨_, _, _, _, _, _⟩) rfl (fun K hK => ?_) AllReadyH.nil
                  go_simp
                  go_at_call 48
                  refine (hpm2 1).mono ?_
                  rintro e2 w3 ⟨rfl, hb3⟩
                  dsimp only
                  exact And.intro rfl (And.intro (A4.out.trans hb3) (Or.inr (And.intro A3.out.1 rfl)))
                | some p =>
                  obtain ⟨f, q⟩ := p
                  rw [hpr] at hps hpm
                  simp only [Option.bind_some] at hps
                  have hq := pm0_out hpr
                  obtain ⟨i0, hi, hz0, hz1, hz2⟩ := ginfo_parts ginfo29
                  obtain ⟨X, hX⟩ : ∃ X, st f.1 = X := ⟨_, rfl⟩
                  obtain ⟨Y, hY⟩ : ∃ Y, st f.2 = Y := ⟨_, rfl⟩
                  have A3 : Aside (gk = r.length + 1 ∧ q.length < gk ∧ Ps w B K l 24 wr (x :: r) #[.string M, .string S, .slice va n c] ∧ Cells wr H #[.string ⟨#[]⟩, .string ⟨#[]⟩, .slice none 0 0] 24 ∧ Ow wr H 29 2 (.slice va n c) n (fc F) ∧ n + 1 + q.length ≤ l.length ∧ bt 0 q = some q ∧ (ps q.length q).map (fun G => ((low a1, low b1, (F ++ [f]) ++ G) : Ty)) = R ∧ n + 1 ≤ maxLen ∧ (n + 1) * 32 ≤ 140737488355328 ∧ fc [f] = [.string X, .string Y]) := by
                    have hq1 := hq.1
                    simp at hnr hq1 hg
                    refine ⟨hg, by omega, hP, hkH, how, by omega, hq.2, ?_, by unfold maxLen; omega, by omega, by rw [← hX, ← hY]; rfl⟩
                    rw [← hps]
                    cases ps q.length q with
                    | none => rfl
                    | some G => simp
                  clear hI hg hP hkH how hnr hbt hps hl ho hpr hq
                  go_upto_region 8 with (go_at_call 47; (with_reducible refine hen.mono ?_); rintro e1 w2 ⟨rfl, hr2, hb2⟩)
                  have P3 := A3.out.2.2.1.but hr2 hb2
                  have kH3 := hb2.cells A3.out.2.2.2.1 (fun e => AH.out.2.2.2 e.symm)
                  have hBH : B < H := by rw [← AH.out.2.1]; exact P3.lt
                  have ow3 := A3.out.2.2.2.2.1.but hb2 hBH
                  have x2 : w2.cell? ⟨K, 2, none⟩ = some (.slice va n c) := by rw [P3.own.cell]; rfl
                  have hpm2 : ∀ m, Calls Try.prog 48 #[.pointer (some ⟨B, 0, none⟩)] (w2.drewN m) fun e w' => e = .returned (.agg #[.string X, .string Y]) ∧ Rd w' B l q ∧ But B w2 w' := fun m => (hpm _ (hr2.drewN m)).mono fun e w' h => by
                    obtain ⟨hb, ⟨f', q', h1, h2, h3⟩ | ⟨h1, h2⟩⟩ := h
                    · cases h1
                      exact ⟨by rw [h2, hX, hY], h3, ((But.refl B w2).drewN m).trans hb⟩
                    · cases h1
                  have A4 : Aside (Ps w B K l 24 w2 (x :: r) #[.string M, .string S, .slice va n c] ∧ Cells w2 H #[.string ⟨#[]⟩, .string ⟨#[]⟩, .slice none 0 0] 24 ∧ Ow w2 H 29 2 (.slice va n c) n (fc F) ∧ B < H) := ⟨P3, kH3, ow3, hBH⟩
                  clear P3 kH3 ow3 hr2 hb2 hen hpm hBH hX hY
                  have hk4 : ∀ w3, But B w2 w3 → Rd w3 B l q → w3.cell? ⟨K, 2, none⟩ = some (.slice va n c) ∧ (w3.alloc (.cells #[.string X, .string Y] 29)).cell? ⟨K, 2, none⟩ = some (.slice va n c) ∧ Ow (w3.alloc (.cells #[.string X, .string Y] 29)) H 29 2 (.slice va n c) n (fc F) := fun w3 hb hr => by
                    have P5 := A4.out.1.but hr hb
                    have P6 := P5.bel ((Below.refl _ w3).alloc (Nat.le_refl _) (.cells #[.string X, .string Y] 29))
                    exact ⟨by rw [P5.own.cell]; rfl, by rw [P6.own.cell]; rfl, (A4.out.2.2.1.but hb A4.out.2.2.2).below ((Below.refl _ w3).alloc (Nat.le_refl _) _) (Nat.le_refl _)⟩
                  have hk5 : ∀ (w3 w4 : World) v2 n2 xs, But B w2 w3 → Rd w3 B l q → Got H 29 2 (w3.alloc (.cells #[.string X, .string Y] 29)) w4 (.slice va n c) v2 n2 xs → w4.cell? ⟨K, 2, none⟩ = some (.slice va n c) ∧ w4.frozen? ⟨K, 2, none⟩ = false := fun w3 w4 v2 n2 xs hb hr hg => by
                    have P6 := (A4.out.1.but hr hb).bel ((Below.refl _ w3).alloc (Nat.le_refl _) (.cells #[.string X, .string Y] 29))
                    have k6 := P6.own.got hg (by decide)
                    exact ⟨by rw [k6.cell]; rfl, k6.frozen 2⟩
                  go_region_law ((first
                    | (refine step_ow Try.prog _ rfl (.tmp 22) (.tmp 25) 22 rfl 29 i0 _ 2 32 Try.underlying22 hi hz0 hz1 hz2 rfl (by decide) H (.slice va n c) n _ (by go_simp) (by exact (hk4 w3 hb3 hr3).2.2) w3.heap.size 0 1 [.string X, .string Y] rfl (by go_simp) (fun j u hj => by rw [Nat.zero_add]; exact (Cells.new w3 #[.string X, .string Y] 29).cell j |>.trans (by simpa using hj)) (by intro u hu; simp at hu; rcases hu with rfl | rfl <;> rfl) A3.out.2.2.2.2.2.2.2.2.1 A3.out.2.2.2.2.2.2.2.2.2.1 ?_; intro g cap w4 hgot; have e4 := (hk5 _ _ _ _ _ hb3 hr3 hgot).1; have f4 := (hk5 _ _ _ _ _ hb3 hr3 hgot).2)
                    | (go_simp; go_at_call 48; refine (hpm2 1).mono ?_; rintro e2 w3 ⟨rfl, hr3, hb3⟩; have g3 := (hk4 w3 hb3 hr3).1; have g4 := (hk4 w3 hb3 hr3).2.1; dsimp only)))
                  all_goals
                    (try go_wp2_with fail)
                    obtain ⟨a1', a2', a3', a4', a5', a6', a7', a8', a9', a10', a11'⟩ := A3.out
                    have P6 := (A4.out.1.but hr3 hb3).bel ((Below.refl _ w3).alloc (Nat.le_refl _) (.cells #[.string X, .string Y] 29))
                    have k6 := P6.own.got hgot (by decide)
                    have kH6 := ((hb3.cells A4.out.2.1 (fun e => AH.out.2.2.2 e.symm)).alloc (.cells #[.string X, .string Y] 29)).got hgot (by decide)
                    have P7 : Ps w B K l 24 w4 q #[.string M, .string S, .slice va n c] := ⟨P6.rd.below hgot.bel A4.out.2.2.2, k6, P6.bt.then_below (by rw [AH.out.2.1]; exact hgot.bel), P6.le, P6.lt⟩
                    have P8 := P7.set 2 (.slice (some ⟨g, 0, none⟩) (n + 1) cap)
                    have kH8 := kH6.only ((Only.refl K w4).setCell 2 (.slice (some ⟨g, 0, none⟩) (n + 1) cap)) (by have := AH.out.2.2.1; omega)
                    have ow8 := hgot.ow.set (i := 2) (x := .slice (some ⟨g, 0, none⟩) (n + 1) cap) k6 (by decide)
                    go_roundg q.length
                    case measure => omega
                    case rel => exact ⟨q, some ⟨g, 0, none⟩, n + 1, cap, F ++ [f], rfl, P8, kH8, by rw [fc_append, a11']; exact ow8, a6', a7', a8'⟩
end Go.Proofs.Ytdndlegfalmkaaa

/-
  The document's param.
-/
import Derived.Test.YtdndlegfalmkaaaRqu
namespace Go.Proofs.Ytdndlegfalmkaaa
open Go.RowKit
set_option linter.unusedVariables false
/-- A parameter at a text's beginning, and what is left; or none. -/
def PmTo (R : Option (Fd × List Nat)) (e : Ending) : Prop := (∃ f q, R = some (f, q) ∧ e = .returned (.tuple #[.agg #[.string (st f.1), .string (st f.2)], .string (st q), .bool true])) ∨ (R = none ∧ ∃ x y z, e = .returned (.tuple #[.agg #[.string x, .string y], .string z, .bool false]))
theorem set2 {w : World} {H : Nat} {a b x y : Value} (h : Cells w H #[a, b] 29) : Cells ((w.setCell ⟨H, 0, none⟩ x).setCell ⟨H, 1, none⟩ y) H #[x, y] 29 := (h.set 0 x).set 1 y
set_option maxHeartbeats 2000000 in
theorem rpm_c (l : List Nat) (ho : Oct l) (hl : l.length ≤ 140737488355328) (w : World) : Calls Try.prog 32 #[.string (st l)] w fun e w' => PmTo (pm l) e ∧ Below w.heap.size w w' := by
  obtain ⟨H, hH⟩ : ∃ H, w.heap.size = H := ⟨_, rfl⟩
  obtain ⟨w1, hw1⟩ : ∃ w1, w1 = w.alloc (.cells #[.string ⟨#[]⟩, .string ⟨#[]⟩] 29) := ⟨_, rfl⟩
  have b1 : Below H w w1 := by rw [hw1, ← hH]; exact (Below.refl _ w).alloc (Nat.le_refl _) _
  have k1 : Cells w1 H #[.string ⟨#[]⟩, .string ⟨#[]⟩] 29 := by rw [hw1, ← hH]; exact Cells.new w _ 29
  have htk := rtk_c l ho hl w1
  obtain ⟨R, hR⟩ : ∃ R, pm l = R := ⟨_, rfl⟩
  obtain ⟨s, hs⟩ : ∃ s, s = st l := ⟨_, rfl⟩
  rw [hR, ← hs, hH]
  rw [← hs] at htk
  unfold pm at hR
  have z0 : w1.cell? ⟨H, 0, none⟩ = some (.string ⟨#[]⟩) := by rw [k1.cell]; rfl
  have z1 : w1.cell? ⟨H, 1, none⟩ = some (.string ⟨#[]⟩) := by rw [k1.cell]; rfl
  have f0 := k1.frozen 0
  have f1 := k1.frozen 1
  have A : Aside (Below H w w1 ∧ Cells w1 H #[.string ⟨#[]⟩, .string ⟨#[]⟩] 29 ∧ w.heap.size = H ∧ H ≤ w1.heap.size) := ⟨b1, k1, hH, Nat.le_of_lt k1.lt⟩
  clear hs b1 k1 hH
  cases h1 : tkn l with
  | none =>
    rw [h1] at hR htk
    have A2 : Aside (R = none) := hR.symm
    replace htk : Calls Try.prog 30 #[.string s] w1 fun e w' => (∃ a b, e = .returned (.tuple #[.string a, .string b, .bool false])) ∧ w' = w1 := htk.mono fun e w' h => ⟨h.1.no, h.2⟩
    clear h1 hR ho hl
    go_enter Try.func32, Try.ntmps32
    go_upto_region 1 with fail
    (try simp only [A.out.2.2.1])
    rw [← hw1]
    clear hw1
    go_wp2_with (go_at_call 30; (with_reducible refine htk.mono ?_); rintro e1 w2 ⟨⟨a, b, rfl⟩, hw2⟩; have hw2' := hw2.symm; subst hw2')
    obtain ⟨a1', a2', a3', a4'⟩ := A.out
    have k2 := set2 (x := .string ⟨#[]⟩) (y := .string ⟨#[]⟩) a2'
    have y0 : ((w1.setCell ⟨H, 0, none⟩ (.string ⟨#[]⟩)).setCell ⟨H, 1, none⟩ (.string ⟨#[]⟩)).cell? ⟨H, 0, none⟩ = some (.string ⟨#[]⟩) := by rw [k2.cell]; rfl
    have y1 : ((w1.setCell ⟨H, 0, none⟩ (.string ⟨#[]⟩)).setCell ⟨H, 1, none⟩ (.string ⟨#[]⟩)).cell? ⟨H, 1, none⟩ = some (.string ⟨#[]⟩) := by rw [k2.cell]; rfl
    (try simp only [Exit.inBlock, Exit.then])
    refine bodyPost_ret (v := .tuple #[.agg #[.string ⟨#[]⟩, .string ⟨#[]⟩], .string ⟨#[]⟩, .bool false]) ?_ rfl ?_
    · simp [results, Try.results32, go_sem, y0, y1]
    · exact ⟨Or.inr ⟨A2.out, _, _, _, rfl⟩, (a1'.setCell (p := ⟨H, 0, none⟩) (Nat.le_refl _) _).setCell (p := ⟨H, 1, none⟩) (Nat.le_refl _) _⟩
  | some a =>
    obtain ⟨a1, a2⟩ := a
    rw [h1] at hR htk
    simp only [Option.bind_some] at hR
    have o1 := tkn_oct ho h1
    have l1 := tkn_out h1
    obtain ⟨X, hX⟩ : ∃ X, st a1 = X := ⟨_, rfl⟩
    obtain ⟨Y, hY⟩ : ∃ Y, st a2 = Y := ⟨_, rfl⟩
    replace htk : Calls Try.prog 30 #[.string s] w1 fun e w' => e = .returned (.tuple #[.string X, .string Y, .bool true]) ∧ w' = w1 := htk.mono fun e w' h => ⟨by rw [← hX, ← hY]; exact h.1.ok, h.2⟩
    have hsg := rsg_c 61 61 rfl a2 o1.2 (by omega) w1
    have hlo := fun W => rlower_c a1 o1.1 (by omega) W
    obtain ⟨N, hN⟩ : ∃ N, st (low a1) = N := ⟨_, rfl⟩
    rw [hX, hN] at hlo
    rw [hY] at hsg
    clear h1
    cases h2 : sg 61 a2 with
    | none =>
      rw [h2] at hR hsg
      have A2 : Aside (R = none) := hR.symm
      replace hsg : Calls Try.prog 31 #[.string Y, .int .u8 61] w1 fun e w' => (∃ u, e = .returned (.tuple #[.string u, .bool false])) ∧ w' = w1 := hsg.mono fun e w' h => ⟨h.1.no, h.2⟩
      clear h2 hR ho hl o1 l1 hX hY hN hlo
      go_enter Try.func32, Try.ntmps32
      go_upto_region 1 with fail
      (try simp only [A.out.2.2.1])
      rw [← hw1]
      clear hw1
      go_wp2_with (first
        | (go_at_call 30; (with_reducible refine htk.mono ?_); rintro e1 w2 ⟨rfl, hw2⟩; have hw2' := hw2.symm; subst hw2')
        | (go_at_call 31; (with_reducible refine hsg.mono ?_); rintro e2 w3 ⟨⟨u, rfl⟩, hw3⟩; have hw3' := hw3.symm; subst hw3'))
      obtain ⟨a1', a2', a3', a4'⟩ := A.out
      have k2 := set2 (x := .string ⟨#[]⟩) (y := .string ⟨#[]⟩) a2'
      have y0 : ((w1.setCell ⟨H, 0, none⟩ (.string ⟨#[]⟩)).setCell ⟨H, 1, none⟩ (.string ⟨#[]⟩)).cell? ⟨H, 0, none⟩ = some (.string ⟨#[]⟩) := by rw [k2.cell]; rfl
      have y1 : ((w1.setCell ⟨H, 0, none⟩ (.string ⟨#[]⟩)).setCell ⟨H, 1, none⟩ (.string ⟨#[]⟩)).cell? ⟨H, 1, none⟩ = some (.string ⟨#[]⟩) := by rw [k2.cell]; rfl
      (try simp only [Exit.inBlock, Exit.then])
      refine bodyPost_ret (v := .tuple #[.agg #[.string ⟨#[]⟩, .string ⟨#[]⟩], .string ⟨#[]⟩, .bool false]) ?_ rfl ?_
      · simp [results, Try.results32, go_sem, y0, y1]
      · exact ⟨Or.inr ⟨A2.out, _, _, _, rfl⟩, (a1'.setCell (p := ⟨H, 0, none⟩) (Nat.le_refl _) _).setCell (p := ⟨H, 1, none⟩) (Nat.le_refl _) _⟩
    | some r3 =>
      rw [h2] at hR hsg
      simp only [Option.bind_some] at hR
      have o2 := o1.2.suf (sg_out h2).2.1
      have l2 := (sg_out h2).1
      have zr : (st r3).size = r3.length := st_size r3
      obtain ⟨Z, hZ⟩ : ∃ Z, st r3 = Z := ⟨_, rfl⟩
      replace hsg : Calls Try.prog 31 #[.string Y, .int .u8 61] w1 fun e w' => e = .returned (.tuple #[.string Z, .bool true]) ∧ w' = w1 := hsg.mono fun e w' h => ⟨by rw [← hZ]; exact h.1.ok, h.2⟩
      rw [hZ] at zr
      clear h2
      cases r3 with
      | nil =>
        have A2 : Aside (R = none) := hR.symm
        have zr0 : Z.size = 0 := zr
        clear hR ho hl o1 l1 hX hY hN hlo o2 l2 zr hZ
        go_enter Try.func32, Try.ntmps32
        go_upto_region 1 with fail
        (try simp only [A.out.2.2.1])
        rw [← hw1]
        clear hw1
        go_wp2_with (first
          | (go_at_call 30; (with_reducible refine htk.mono ?_); rintro e1 w2 ⟨rfl, hw2⟩; have hw2' := hw2.symm; subst hw2')
          | (go_at_call 31; (with_reducible refine hsg.mono ?_); rintro e2 w3 ⟨rfl, hw3⟩; have hw3' := hw3.symm; subst hw3'))
        obtain ⟨a1', a2', a3', a4'⟩ := A.out
        have k2 := set2 (x := .string ⟨#[]⟩) (y := .string ⟨#[]⟩) a2'
        have y0 : ((w1.setCell ⟨H, 0, none⟩ (.string ⟨#[]⟩)).setCell ⟨H, 1, none⟩ (.string ⟨#[]⟩)).cell? ⟨H, 0, none⟩ = some (.string ⟨#[]⟩) := by rw [k2.cell]; rfl
        have y1 : ((w1.setCell ⟨H, 0, none⟩ (.string ⟨#[]⟩)).setCell ⟨H, 1, none⟩ (.string ⟨#[]⟩)).cell? ⟨H, 1, none⟩ = some (.string ⟨#[]⟩) := by rw [k2.cell]; rfl
        (try simp only [Exit.inBlock, Exit.then])
        refine bodyPost_ret (v := .tuple #[.agg #[.string ⟨#[]⟩, .string ⟨#[]⟩], .string ⟨#[]⟩, .bool false]) ?_ rfl ?_
        · simp [results, Try.results32, go_sem, y0, y1]
        · exact ⟨Or.inr ⟨A2.out, _, _, _, rfl⟩, (a1'.setCell (p := ⟨H, 0, none⟩) (Nat.le_refl _) _).setCell (p := ⟨H, 1, none⟩) (Nat.le_refl _) _⟩
      | cons x q =>
        obtain ⟨n, hn⟩ : ∃ n, (x :: q).length = n := ⟨_, rfl⟩
        rw [hn] at zr
        have hn1 : q.length + 1 = n := by simpa using hn
        have t0 : ((n : Int) == 0) = false := by rw [beq_eq_false_iff_ne]; omega
        have t0' : (0 < n) = True := eq_true (by omega)
        have t0'' : (0 : Int) < (n : Int) := by omega
        have hx0 : ∀ h : 0 < Z.size, (Z[0]'h).toNat = x := by rw [← hZ]; exact fun h => st_get o2 (by rfl) h
        by_cases h34 : x = 34
        · have t1 : ((x : Int) == 34) = true := by rw [beq_iff_eq]; omega
          have hqu := rquo_c (x :: q) q x rfl o2 (by omega) w1
          rw [hZ] at hqu
          have hvl : vl (x :: q) = qtb q := by simp only [vl, if_pos h34]; rfl
          rw [hvl] at hR
          cases h4 : qtb q with
          | none =>
            rw [h4] at hR hqu
            replace hqu : Calls Try.prog 50 #[.string Z] w1 fun e w' => (∃ V S, e = .returned (.tuple #[.string V, .string S, .bool false])) ∧ Below w1.heap.size w1 w' := hqu.mono fun e w' h => ⟨h.1.no, h.2⟩
            have AE0 : Aside (R = none) := hR.symm
            have hf9 : ∀ W, Below w1.heap.size w1 W → W.frozen? ⟨H, 0, none⟩ = false ∧ W.frozen? ⟨H, 1, none⟩ = false ∧ W.cell? ⟨H, 0, none⟩ = some (.string ⟨#[]⟩) ∧ W.cell? ⟨H, 1, none⟩ = some (.string ⟨#[]⟩) := fun W hW => by
              have k := A.out.2.1.below hW A.out.2.1.lt
              exact ⟨k.frozen 0, k.frozen 1, by rw [k.cell]; rfl, by rw [k.cell]; rfl⟩
            clear h4 hR ho hl o1 l1 hX hY hN o2 l2 hZ hn hn1 h34 hvl
            go_enter Try.func32, Try.ntmps32
            go_upto_region 1 with fail
            (try simp only [A.out.2.2.1])
            rw [← hw1]
            clear hw1
            go_wp2_with (first
              | (go_at_call 30; (with_reducible refine htk.mono ?_); rintro e1 w2 ⟨rfl, hw2⟩; have hw2' := hw2.symm; subst hw2')
              | (go_at_call 31; (with_reducible refine hsg.mono ?_); rintro e2 w3 ⟨rfl, hw3⟩; have hw3' := hw3.symm; subst hw3')
              | (go_at_call 50; (with_reducible refine hqu.mono ?_); rintro e3 w8 ⟨⟨V, S, rfl⟩, hb8⟩)
              | (go_at_call 15; (with_reducible refine (hlo w8).mono ?_); rintro e4 w9 ⟨rfl, hb9'⟩; have hbl : Below w1.heap.size w1 w9 := hb8.trans (hb9'.mono hb8.size); obtain ⟨g0, g1, g2, g3⟩ := hf9 w9 hbl))
            have AE : Aside (PmTo R (.returned (.tuple #[.agg #[.string N, .string V], .string S, .bool false]))) := Or.inr ⟨AE0.out, _, _, _, rfl⟩
            obtain ⟨a1', a2', a3', a4'⟩ := A.out
            have hb9 : Below H w w9 := a1'.trans (hbl.mono a4')
            have k9 := a2'.below hbl a2'.lt
            have k10 := set2 (x := .string N) (y := .string V) k9
            have y0 : ((w9.setCell ⟨H, 0, none⟩ (.string N)).setCell ⟨H, 1, none⟩ (.string V)).cell? ⟨H, 0, none⟩ = some (.string N) := by rw [k10.cell]; rfl
            have y1 : ((w9.setCell ⟨H, 0, none⟩ (.string N)).setCell ⟨H, 1, none⟩ (.string V)).cell? ⟨H, 1, none⟩ = some (.string V) := by rw [k10.cell]; rfl
            (try simp only [Exit.inBlock, Exit.then])
            refine bodyPost_ret (v := .tuple #[.agg #[.string N, .string V], .string S, .bool false]) ?_ rfl ?_
            · simp [results, Try.results32, go_sem, y0, y1]
            · exact ⟨AE.out, (hb9.setCell (p := ⟨H, 0, none⟩) (Nat.le_refl _) _).setCell (p := ⟨H, 1, none⟩) (Nat.le_refl _) _⟩
          | some p =>
            obtain ⟨v1, v2⟩ := p
            rw [h4] at hR hqu
            obtain ⟨V, hV⟩ : ∃ V, st v1 = V := ⟨_, rfl⟩
            obtain ⟨S, hS⟩ : ∃ S, st v2 = S := ⟨_, rfl⟩
            replace hqu : Calls Try.prog 50 #[.string Z] w1 fun e w' => e = .returned (.tuple #[.string V, .string S, .bool true]) ∧ Below w1.heap.size w1 w' := hqu.mono fun e w' h => ⟨by rw [← hV, ← hS]; exact h.1.ok, h.2⟩
            have AE : Aside (PmTo R (.returned (.tuple #[.agg #[.string N, .string V], .string S, .bool true]))) := Or.inl ⟨(low a1, v1), v2, hR.symm, by rw [← hN, ← hV, ← hS]⟩
            have hf9 : ∀ W, Below w1.heap.size w1 W → W.frozen? ⟨H, 0, none⟩ = false ∧ W.frozen? ⟨H, 1, none⟩ = false ∧ W.cell? ⟨H, 0, none⟩ = some (.string ⟨#[]⟩) ∧ W.cell? ⟨H, 1, none⟩ = some (.string ⟨#[]⟩) := fun W hW => by
              have k := A.out.2.1.below hW A.out.2.1.lt
              exact ⟨k.frozen 0, k.frozen 1, by rw [k.cell]; rfl, by rw [k.cell]; rfl⟩
            clear h4 hR ho hl o1 l1 hX hY hN o2 l2 hZ hn hn1 h34 hvl hV hS
            go_enter Try.func32, Try.ntmps32
            go_upto_region 1 with fail
            (try simp only [A.out.2.2.1])
            rw [← hw1]
            clear hw1
            go_wp2_with (first
              | (go_at_call 30; (with_reducible refine htk.mono ?_); rintro e1 w2 ⟨rfl, hw2⟩; have hw2' := hw2.symm; subst hw2')
              | (go_at_call 31; (with_reducible refine hsg.mono ?_); rintro e2 w3 ⟨rfl, hw3⟩; have hw3' := hw3.symm; subst hw3')
              | (go_at_call 50; (with_reducible refine hqu.mono ?_); rintro e3 w8 ⟨rfl, hb8⟩)
              | (go_at_call 15; (with_reducible refine (hlo w8).mono ?_); rintro e4 w9 ⟨rfl, hb9'⟩; have hbl : Below w1.heap.size w1 w9 := hb8.trans (hb9'.mono hb8.size); obtain ⟨g0, g1, g2, g3⟩ := hf9 w9 hbl))
            obtain ⟨a1', a2', a3', a4'⟩ := A.out
            have hb9 : Below H w w9 := a1'.trans (hbl.mono a4')
            have k9 := a2'.below hbl a2'.lt
            have k10 := set2 (x := .string N) (y := .string V) k9
            have y0 : ((w9.setCell ⟨H, 0, none⟩ (.string N)).setCell ⟨H, 1, none⟩ (.string V)).cell? ⟨H, 0, none⟩ = some (.string N) := by rw [k10.cell]; rfl
            have y1 : ((w9.setCell ⟨H, 0, none⟩ (.string N)).setCell ⟨H, 1, none⟩ (.string V)).cell? ⟨H, 1, none⟩ = some (.string V) := by rw [k10.cell]; rfl
            (try simp only [Exit.inBlock, Exit.then])
            refine bodyPost_ret (v := .tuple #[.agg #[.string N, .string V], .string S, .bool true]) ?_ rfl ?_
            · simp [results, Try.results32, go_sem, y0, y1]
            · exact ⟨AE.out, (hb9.setCell (p := ⟨H, 0, none⟩) (Nat.le_refl _) _).setCell (p := ⟨H, 1, none⟩) (Nat.le_refl _) _⟩
        · have t1 : ((x : Int) == 34) = false := by rw [beq_eq_false_iff_ne]; omega
          have htk2 := rtk_c (x :: q) o2 (by omega) w1
          rw [hZ] at htk2
          have hvl : vl (x :: q) = tkn (x :: q) := by simp only [vl, if_neg h34]
          rw [hvl] at hR
          cases h4 : tkn (x :: q) with
          | none =>
            rw [h4] at hR htk2
            replace htk2 : Calls Try.prog 30 #[.string Z] w1 fun e w' => (∃ V S, e = .returned (.tuple #[.string V, .string S, .bool false])) ∧ w' = w1 := htk2.mono fun e w' h => ⟨h.1.no, h.2⟩
            have AE0 : Aside (R = none) := hR.symm
            have hf9 : ∀ W, Below w1.heap.size w1 W → W.frozen? ⟨H, 0, none⟩ = false ∧ W.frozen? ⟨H, 1, none⟩ = false ∧ W.cell? ⟨H, 0, none⟩ = some (.string ⟨#[]⟩) ∧ W.cell? ⟨H, 1, none⟩ = some (.string ⟨#[]⟩) := fun W hW => by
              have k := A.out.2.1.below hW A.out.2.1.lt
              exact ⟨k.frozen 0, k.frozen 1, by rw [k.cell]; rfl, by rw [k.cell]; rfl⟩
            clear h4 hR ho hl o1 l1 hX hY hN o2 l2 hZ hn hn1 h34 hvl
            go_enter Try.func32, Try.ntmps32
            go_upto_region 1 with fail
            (try simp only [A.out.2.2.1])
            rw [← hw1]
            clear hw1
            go_upto_region 8 with (first
              | (go_at_call 30; (with_reducible refine htk.mono ?_); rintro e1 w2 ⟨rfl, hw2⟩; have hw2' := hw2.symm; subst hw2')
              | (go_at_call 31; (with_reducible refine hsg.mono ?_); rintro e2 w3 ⟨rfl, hw3⟩; have hw3' := hw3.symm; subst hw3'))
            clear htk hsg
            go_wp2_with (first
              | (go_at_call 30; (with_reducible refine htk2.mono ?_); rintro e3 w8 ⟨⟨V, S, rfl⟩, hw8⟩; have hw8' := hw8.symm; subst hw8')
              | (go_at_call 15; (with_reducible refine (hlo w1).mono ?_); rintro e4 w9 ⟨rfl, hbl⟩; obtain ⟨g0, g1, g2, g3⟩ := hf9 w9 hbl))
            have AE : Aside (PmTo R (.returned (.tuple #[.agg #[.string N, .string V], .string S, .bool false]))) := Or.inr ⟨AE0.out, _, _, _, rfl⟩
            obtain ⟨a1', a2', a3', a4'⟩ := A.out
            have hb9 : Below H w w9 := a1'.trans (hbl.mono a4')
            have k9 := a2'.below hbl a2'.lt
            have k10 := set2 (x := .string N) (y := .string V) k9
            have y0 : ((w9.setCell ⟨H, 0, none⟩ (.string N)).setCell ⟨H, 1, none⟩ (.string V)).cell? ⟨H, 0, none⟩ = some (.string N) := by rw [k10.cell]; rfl
            have y1 : ((w9.setCell ⟨H, 0, none⟩ (.string N)).setCell ⟨H, 1, none⟩ (.string V)).cell? ⟨H, 1, none⟩ = some (.string V) := by rw [k10.cell]; rfl
            (try simp only [Exit.inBlock, Exit.then])
            refine bodyPost_ret (v := .tuple #[.agg #[.string N, .string V], .string S, .bool false]) ?_ rfl ?_
            · simp [results, Try.results32, go_sem, y0, y1]
            · exact ⟨AE.out, (hb9.setCell (p := ⟨H, 0, none⟩) (Nat.le_refl _) _).setCell (p := ⟨H, 1, none⟩) (Nat.le_refl _) _⟩
          | some p =>
            obtain ⟨v1, v2⟩ := p
            rw [h4] at hR htk2
            obtain ⟨V, hV⟩ : ∃ V, st v1 = V := ⟨_, rfl⟩
            obtain ⟨S, hS⟩ : ∃ S, st v2 = S := ⟨_, rfl⟩
            replace htk2 : Calls Try.prog 30 #[.string Z] w1 fun e w' => e = .returned (.tuple #[.string V, .string S, .bool true]) ∧ w' = w1 := htk2.mono fun e w' h => ⟨by rw [← hV, ← hS]; exact h.1.ok, h.2⟩
            have AE : Aside (PmTo R (.returned (.tuple #[.agg #[.string N, .string V], .string S, .bool true]))) := Or.inl ⟨(low a1, v1), v2, hR.symm, by rw [← hN, ← hV, ← hS]⟩
            have hf9 : ∀ W, Below w1.heap.size w1 W → W.frozen? ⟨H, 0, none⟩ = false ∧ W.frozen? ⟨H, 1, none⟩ = false ∧ W.cell? ⟨H, 0, none⟩ = some (.string ⟨#[]⟩) ∧ W.cell? ⟨H, 1, none⟩ = some (.string ⟨#[]⟩) := fun W hW => by
              have k := A.out.2.1.below hW A.out.2.1.lt
              exact ⟨k.frozen 0, k.frozen 1, by rw [k.cell]; rfl, by rw [k.cell]; rfl⟩
            clear h4 hR ho hl o1 l1 hX hY hN o2 l2 hZ hn hn1 h34 hvl hV hS
            go_enter Try.func32, Try.ntmps32
            go_upto_region 1 with fail
            (try simp only [A.out.2.2.1])
            rw [← hw1]
            clear hw1
            go_upto_region 8 with (first
              | (go_at_call 30; (with_reducible refine htk.mono ?_); rintro e1 w2 ⟨rfl, hw2⟩; have hw2' := hw2.symm; subst hw2')
              | (go_at_call 31; (with_reducible refine hsg.mono ?_); rintro e2 w3 ⟨rfl, hw3⟩; have hw3' := hw3.symm; subst hw3'))
            clear htk hsg
            go_wp2_with (first
              | (go_at_call 30; (with_reducible refine htk2.mono ?_); rintro e3 w8 ⟨rfl, hw8⟩; have hw8' := hw8.symm; subst hw8')
              | (go_at_call 15; (with_reducible refine (hlo w1).mono ?_); rintro e4 w9 ⟨rfl, hbl⟩; obtain ⟨g0, g1, g2, g3⟩ := hf9 w9 hbl))
            obtain ⟨a1', a2', a3', a4'⟩ := A.out
            have hb9 : Below H w w9 := a1'.trans (hbl.mono a4')
            have k9 := a2'.below hbl a2'.lt
            have k10 := set2 (x := .string N) (y := .string V) k9
            have y0 : ((w9.setCell ⟨H, 0, none⟩ (.string N)).setCell ⟨H, 1, none⟩ (.string V)).cell? ⟨H, 0, none⟩ = some (.string N) := by rw [k10.cell]; rfl
            have y1 : ((w9.setCell ⟨H, 0, none⟩ (.string N)).setCell ⟨H, 1, none⟩ (.string V)).cell? ⟨H, 1, none⟩ = some (.string V) := by rw [k10.cell]; rfl
            (try simp only [Exit.inBlock, Exit.then])
            refine bodyPost_ret (v := .tuple #[.agg #[.string N, .string V], .string S, .bool true]) ?_ rfl ?_
            · simp [results, Try.results32, go_sem, y0, y1]
            · exact ⟨AE.out, (hb9.setCell (p := ⟨H, 0, none⟩) (Nat.le_refl _) _).setCell (p := ⟨H, 1, none⟩) (Nat.le_refl _) _⟩
end Go.Proofs.Ytdndlegfalmkaaa

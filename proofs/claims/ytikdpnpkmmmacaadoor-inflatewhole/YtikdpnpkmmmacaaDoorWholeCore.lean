/-
  InflateWhole's call: Whole's answer beside the document's.
-/
import Derived.Test.YtikdpnpkmmmacaaDoorMs
namespace Go.Proofs.YtikdpnpkmmmacaaDoor
open Go.RowKit
set_option linter.unusedVariables false
theorem Lies.kp {w u : World} {a : Option Addr} {l : List Nat} {B : Nat} (h : Lies w a l) (k : Below B w u) (hB : ∀ b o, a = some ⟨b, o, none⟩ → b < B) : Lies u a l := by
  rcases h with e | ⟨b, o, ha, hc⟩
  · exact Or.inl e
  · exact Or.inr ⟨b, o, ha, fun i x hx => (k.cell (p := ⟨b, o + i, none⟩) (hB b o ha)).trans (hc i x hx)⟩
set_option maxHeartbeats 1000000 in
theorem whole_core (w : World) (ht : Tabs w) (a : Option Addr) (Bb : List Nat) (L C : Nat) (n : Int) (hB : Lies w a Bb) (hL : Bb.length = L) (hLb : L < 140737488355328) (ho : Oct Bb) (hna : a = none → L = 0 ∧ C = 0) :
    Calls Tryd.prog 3 #[.slice a L C, .int .i64 n] w fun e w' => e = .returned (.bool true) ∧ Below w.heap.size w w' := by
  obtain ⟨m, hm⟩ : ∃ m, (if 1048576 < n then 1048576 else n) = m := ⟨_, rfl⟩
  have hmb : m ≤ 1048576 := by rw [← hm]; split <;> omega
  have A : Aside (Lies w a Bb ∧ Bb.length = L ∧ L < 140737488355328 ∧ Oct Bb ∧ Tabs w ∧ m ≤ 1048576) := ⟨hB, hL, hLb, ho, ht, hmb⟩
  obtain ⟨H, hH⟩ : ∃ H, w.heap.size = H := ⟨_, rfl⟩
  have AH : Aside (w.heap.size = H ∧ 7 ≤ H) := ⟨hH, by have := ht.lt; omega⟩
  have b1 : Below w.heap.size w (w.alloc (.cells #[] 5)) := (Below.refl _ w).alloc (Nat.le_refl _) _
  have hob1 : Ob (w.alloc (.cells #[] 5)) w.heap.size (.slice (some ⟨w.heap.size, 0, none⟩) 0 0) [] := Ob.made (Nat.le_refl _)
  rw [hH] at hob1
  have hl1 := hB.below b1
  have hlen : ([] : List Nat).length + Bb.length ≤ 140737488355328 := by simp; omega
  have Ab : Aside (Below w.heap.size w (w.alloc (.cells #[] 5))) := b1
  have hH4 : ∃ B0, B0 + 4 ≤ H := ⟨0, by have := AH.out; omega⟩
  obtain ⟨B0, hB0⟩ := hH4
  clear hB hLb ho ht hmb b1
  go_enter Tryd.func3, Tryd.ntmps3
  go_upto_region 2 with (at_builtin; refine wpList_ob B0 _ rfl (.tmp 10) (.tmp 11) rfl H (.slice (some ⟨H, 0, none⟩) 0 0) [] (by rfl) hob1 hB0 a Bb L C hL (by rfl) hna hl1 hlen ?_; intro v2 w2 hap)
  rw [List.nil_append] at hap
  have A2 : Aside (Ob w2 H v2 Bb ∧ Below H w w2) := ⟨hap.ob_, by have := Ab.out; rw [AH.out.1] at this; exact this.trans hap.bel⟩
  obtain ⟨va, vc, hv, hvc, hlies, hvn⟩ := hap.ob_.shape
  rw [hL] at hv
  subst hv
  have ht2 := A.out.2.2.2.2.1.below A2.out.2 AH.out.2
  have hwh := whole_c w2 ht2 va Bb L vc m hlies hL A.out.2.2.1 A.out.2.2.2.1 A.out.2.2.2.2.2
  clear hap hob1 hl1 hlen Ab hvc hvn hH hB0 ht2 hlies
  have A3 : Aside (m ≤ 1048576 ∧ Lies w2 va Bb) := ⟨A.out.2.2.2.2.2, (by have h := A2.out.1.shape; obtain ⟨a', c', e, _, h2, _⟩ := h; cases e; exact h2)⟩
  by_cases hbig : 1048576 < n
  all_goals
    first
      | (rw [if_pos hbig] at hm; have hbt : (1048576 < n) = True := eq_true hbig)
      | (rw [if_neg hbig] at hm; have hbt : (1048576 < n) = False := eq_false hbig)
    subst hm
    clear hbig
    go_upto_region 5 with (go_at_call 9; refine hwh.mono ?_; rintro e3 w3 ⟨vo, z, rfl, hz, hob3, hb3⟩)
    have a := A.out
    have hb23 : Below w.heap.size w w3 := by
      have h2 := A2.out.2
      rw [← AH.out.1] at h2
      exact h2.trans (hb3.mono h2.size)
    have hof := of_st (w := w3) (C := C) _ A3.out.1 (a.1.below hb23) a.2.1 a.2.2.1 a.2.2.2.1
    have A4 : Aside (Below w.heap.size w w3 ∧ Stands Bb _ z ∧ Ob w3 (w2.heap.size + 4) vo z.out ∧ Lies w3 va Bb) := ⟨hb23, hz, hob3, A3.out.2.below hb3⟩
    clear hwh a hb23 hz hob3 hb3
    go_upto_region 6 with (go_at_call 10; refine hof.mono ?_; rintro e4 w4 ⟨R, s, vO, vT, c, rfl, hr4, hb4, hst4, ho4, _, hw4, hat4, _⟩)
    have hzc := hst4.one A4.out.2.1
    subst hzc
    have a4 := A4.out
    have hobD : Ob w4 w3.heap.size vO c.out := by
      rw [← ho4]
      exact ⟨hr4.oo, hb4.size⟩
    have hobP := a4.2.2.1.below hb4 (Nat.le_refl _)
    obtain ⟨pa, pc, hpv, _, hpl, _⟩ := hobP.shape
    obtain ⟨da, dc, hdv, _, hdl, _⟩ := hobD.shape
    obtain ⟨ol, hol⟩ : ∃ ol, c.out.length = ol := ⟨_, rfl⟩
    rw [hol] at hpv hdv
    have hlen : ol ≤ 1048576 := by
      have h1 := A3.out.1
      have h2 : c.out.length ≤ _ := stands_most a4.2.1
      omega
    subst hpv hdv
    have hsame := same_c pa da c.out c.out ol ol pc dc w4 hol hol (by omega) hpl hdl
    have hd1 : decide (c.out = c.out) = true := decide_eq_true rfl
    rw [hd1] at hsame
    have c2 := hr4.c2
    obtain ⟨q, hq⟩ : ∃ q, min (atC L c + 1) L = q := ⟨_, rfl⟩
    obtain ⟨y, hy⟩ : ∃ y, whyC c = y := ⟨_, rfl⟩
    have hatb : atC L c ≤ L := by
      have h1 := a4.2.1.pos
      rw [A.out.2.1] at h1
      unfold atC
      split <;> omega
    obtain ⟨NN, hr5⟩ : ∃ NN, Rn w4 w3.heap.size R a L C NN s (.slice da ol dc) vT := ⟨_, hr4⟩
    clear hr4
    have hused : ∀ u, Rn u w3.heap.size R a L C NN s (.slice da ol dc) vT → Calls Tryd.prog 12 #[.pointer (some ⟨R, 0, none⟩)] u fun e w' => e = .returned (.int .i64 (q : Int)) ∧ ∃ n, w' = u.drewN n := fun u hu => used_c hu (by rw [hat4]; have := A.out; omega) q (by rw [hat4]; exact hq)
    have hin := A2.out.1.shape
    have hsame2 : ∀ u, Drawn w4 u → Calls Tryd.prog 11 #[.slice va L vc, .slice a L C] u fun e w' => e = .returned (.bool true) ∧ ∃ n, w' = u.drewN n := fun u hu => by
      have h1 : Lies u va Bb := by obtain ⟨k, rfl⟩ := hu; exact a4.2.2.2.below (hb4.trans (Drawn.below ⟨k, rfl⟩ _))
      have h2 : Lies u a Bb := by obtain ⟨k, rfl⟩ := hu; exact (A.out.1.below a4.1).below (hb4.trans (Drawn.below ⟨k, rfl⟩ _))
      have := same_c va a Bb Bb L L vc C u A.out.2.1 A.out.2.1 (by have := A.out; omega) h1 h2
      rw [show decide (Bb = Bb) = true from decide_eq_true rfl] at this
      exact this
    have hb04 : Below w.heap.size w w4 := a4.1.trans (hb4.mono a4.1.size)
    have haw : ∀ u, Drawn w4 u → Calls Tryd.prog 13 #[] u fun e w' => e = .returned (.bool true) ∧ Below u.heap.size u w' := fun u hu => by
      refine awake_c u (A.out.2.2.2.2.1.below (B := w.heap.size) (hb04.trans (hu.below _)) (by have := AH.out; omega))
    have c4 := hr5.c4
    rw [hw4, hy] at c4
    have A5 : Aside (Rn w4 w3.heap.size R a L C NN s (.slice da ol dc) vT ∧ Below w.heap.size w w4) := ⟨hr5, hb04⟩
    rw [hq, hy]
    clear hof hst4 ho4 hw4 hat4 a4 hobD hobP hpl hdl hatb hin hb4 hb04 hd1 hq hy hol hlen hr5
    have hcell : ∀ u, Drawn w4 u → u.cell? ⟨R, 4, none⟩ = some (.int .i64 (y : Int)) := fun u hu => by obtain ⟨k, rfl⟩ := hu; exact c4
    have AC : Aside ((∀ u, Drawn w4 u → u.cell? ⟨R, 4, none⟩ = some (.int .i64 (y : Int))) ∧ (∀ u, Rn u w3.heap.size R a L C NN s (.slice da ol dc) vT → Calls Tryd.prog 12 #[.pointer (some ⟨R, 0, none⟩)] u fun e w' => e = .returned (.int .i64 (q : Int)) ∧ ∃ n, w' = u.drewN n) ∧ (∀ u, Drawn w4 u → Calls Tryd.prog 11 #[.slice va L vc, .slice a L C] u fun e w' => e = .returned (.bool true) ∧ ∃ n, w' = u.drewN n) ∧ (∀ u, Drawn w4 u → Calls Tryd.prog 13 #[] u fun e w' => e = .returned (.bool true) ∧ Below u.heap.size u w')) := ⟨hcell, hused, hsame2, haw⟩
    clear hused hsame2 haw hcell c4
    go_wp2_with (first
      | (go_at_call 11; with_reducible refine hsame.mono ?_; rintro e5 w5 ⟨rfl, d5⟩
         have h12 := AC.out.2.1 w5 (A5.out.1.drawn d5))
      | (go_at_call 12; refine h12.mono ?_; rintro e6 w6 ⟨rfl, d6'⟩
         have d6 : Drawn w4 w6 := Drawn.trans d5 d6'
         have c4 := AC.out.1 w6 d6
         have h11 := AC.out.2.2.1 w6 d6)
      | (go_at_call 11; with_reducible refine h11.mono ?_; rintro e7 w7 ⟨rfl, d7'⟩
         have d7 : Drawn w4 w7 := Drawn.trans d6 d7'
         have h13 := AC.out.2.2.2 w7 d7)
      | (go_at_call 13; refine h13.mono ?_; rintro e8 w8 ⟨rfl, b8⟩))
    first | go_ret | go_ret2
    have b := A5.out.2.trans (d7.below w.heap.size)
    exact ⟨rfl, b.trans (b8.mono b.size)⟩
end Go.Proofs.YtikdpnpkmmmacaaDoor

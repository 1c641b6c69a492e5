/-
  What Fields comes to.
-/
import Derived.Test.YtmlkdpoignimaaaCnv
import Derived.Deep.RegionHeld3
namespace Go.Proofs.Ytmlkdpoignimaaa
open Go.RowKit
set_option linter.unusedVariables false
/-- What Fields answers of a reader that is done. -/
def FldTo (w : World) (F : List Fd) (e : Ending) (w' : World) : Prop := ∃ G, e = .returned (.slice (some ⟨G, 0, none⟩) F.length F.length) ∧ Cells w' G (fc (told F)).toArray 43 ∧ w.heap.size ≤ G ∧ Below w.heap.size w w'
theorem fields_nil (w : World) : Calls Try.prog 16 #[.pointer none] w fun e w' => e = .returned (.slice none 0 0) ∧ w' = w := by
  go_enter Try.func16, Try.ntmps16
  go_wp2_with fail
  go_ret
  exact ⟨rfl, rfl⟩
theorem fields_no {w : World} {lo B most k bg y : Nat} {vl vm : Value} {l : List Nat} {M : List (Nat × Nat)} (h : Rm w lo B most k vl l bg vm M false y) : Calls Try.prog 16 #[.pointer (some ⟨B, 0, none⟩)] w fun e w' => e = .returned (.slice none 0 0) ∧ w' = w := by
  have c5 := h.c5
  clear h
  go_enter Try.func16, Try.ntmps16
  go_wp2_with fail
  go_ret
  exact ⟨rfl, rfl⟩
theorem made_row (n : Nat) : (madeCells #[Value.string ⟨#[]⟩, Value.string ⟨#[]⟩] (n * 2)).toList = List.replicate (n * 2) (Value.string ⟨#[]⟩) := by
  apply List.ext_getElem
  · simp [size_madeCells]
  · intro i h1 h2
    simp [madeCells]
    rcases (show i % 2 = 0 ∨ i % 2 = 1 by omega) with e | e <;> simp [e]
set_option maxHeartbeats 2000000 in
theorem fields_c {w : World} {lo B most : Nat} {F : List Fd} (h : Rn w lo B most F) : Calls Try.prog 16 #[.pointer (some ⟨B, 0, none⟩)] w fun e w' => FldTo w F e w' := by
  obtain ⟨k, vl, vm, bg, hr⟩ := h.ex
  obtain ⟨i0, hi, hz0, hz1, hz2⟩ := ginfo_parts ginfo43
  obtain ⟨a, cp, hv, hcp, hl, han⟩ := hr.vlShape
  obtain ⟨ma, mcp, hm, hmcp, hmm, _⟩ := hr.vmShape
  rw [mk_length] at hm hmcp
  obtain ⟨n, hn⟩ : ∃ n, F.length = n := ⟨_, rfl⟩
  obtain ⟨L, hL⟩ : ∃ L, (flat F).length = L := ⟨_, rfl⟩
  have m1 : ∀ W, (Instr.makeSlice 23 (.int .i64 (n : Int)) (.int .i64 (n : Int))).run Try.prog W = .ok (.slice (some ⟨W.heap.size, 0, none⟩) n n) (W.alloc (.cells (row F n).toArray 43)) := fun W => by
    have := run_make (P := Try.prog) W 23 43 i0 _ Try.underlying23 hi hz0 .i64 .i64 (n : Int) (n : Int) (by omega) (by omega) (by rw [hz2]; have := h.f64; omega) (by have := h.f64; omega)
    rw [hz1] at this
    have e : (madeCells #[Value.string ⟨#[]⟩, Value.string ⟨#[]⟩] (n * 2)) = (row F n).toArray := by
      rw [← Array.toArray_toList (xs := madeCells _ _), made_row]
      congr 1
      unfold row
      rw [← hn, List.drop_length]
      simp [told, fc]
    rw [← e]
    exact this
  have hf64 := h.f64
  have hlk := h.lk
  rw [hn] at hm hf64
  rw [hL] at hv hcp hlk
  have c2 := hr.c2
  have c4 := hr.c4
  have c5 := hr.c5
  have hrA := hr.below ((Below.refl _ w).alloc (Nat.le_refl _) (.cells (row F n).toArray 43))
  have a2 := hrA.c2
  have kG : Cells (w.alloc (.cells (row F n).toArray 43)) w.heap.size (row F n).toArray 43 := Cells.new w _ 43
  have AX : Aside (Rm (w.alloc (.cells (row F n).toArray 43)) lo B most k vl (flat F) bg vm (mk F) true 0 ∧ Cells (w.alloc (.cells (row F n).toArray 43)) w.heap.size (row F n).toArray 43 ∧ Below w.heap.size w (w.alloc (.cells (row F n).toArray 43)) ∧ F.length = n ∧ (flat F).length = L ∧ L = fl F n) := ⟨hrA, kG, (Below.refl _ w).alloc (Nat.le_refl _) _, hn, hL, by rw [← hn, fl_end, hL]⟩
  have AS : Aside (vl = .slice a L cp ∧ L ≤ cp ∧ Lies w a (flat F) ∧ vm = .slice ma n mcp ∧ n ≤ mcp ∧ Oct (flat F) ∧ L ≤ 65536 ∧ n ≤ 64 ∧ True) := ⟨hv, hcp, hl, hm, by omega, h.oct, hlk, hf64, trivial⟩
  rw [hv] at c2 a2
  rw [hm] at c4
  have hnb : (n : Int) ≤ 64 := by omega
  have hFd : ∀ (e : Ending) (w' : World), FldTo w F e w' ↔ FldTo w F e w' := fun _ _ => Iff.rfl
  clear hr hv hcp hl han hm hmcp hmm hn hL hi hz0 hz1 hz2 h hf64 hlk hrA kG hFd
  go_enter Try.func16, Try.ntmps16
  go_wp2_with fail
  go_loopg [4, 5] n (fun j s4 s5 wr => s4 = .int .i64 ((fl F j : Nat) : Int) ∧ s5 = .int .i64 ((j : Int) - 1) ∧ Aside (j ≤ n ∧ Rm wr lo B most k vl (flat F) bg vm (mk F) true 0 ∧ Cells wr w.heap.size (row F j).toArray 43 ∧ Below w.heap.size w wr))
  case atStart => exact ⟨by rw [← AX.out.2.2.2.2.2], rfl, Nat.le_refl _, AX.out.1, AX.out.2.1, AX.out.2.2.1⟩
  case round =>
    obtain ⟨rfl, rfl, hI⟩ := hrel
    obtain ⟨hj, hr, hcG, hbel⟩ := hI.out
    have ax := AX.out
    have as_ := AS.out
    by_cases h0 : gk = 0
    · subst h0
      have A9 : Aside (FldTo w F (.returned (.slice (some ⟨w.heap.size, 0, none⟩) n n)) wr) := by
        refine ⟨w.heap.size, by rw [ax.2.2.2.1], ?_, by omega, hbel⟩
        rw [← row_zero]; exact hcG
      clear hI hj hr hcG hbel ax as_
      go_wp2_with fail
      go_ret
      exact A9.out
    · obtain ⟨i, rfl⟩ : ∃ i, gk = i + 1 := ⟨gk - 1, by omega⟩
      obtain ⟨f, hf⟩ : ∃ f, F[i]? = some f := ⟨_, List.getElem?_eq_getElem (by omega)⟩
      have hmk := mk_get hf
      obtain ⟨p, hp⟩ : ∃ p, fl F i = p := ⟨_, rfl⟩
      obtain ⟨q, hq⟩ : ∃ q, fl F i + f.1.length = q := ⟨_, rfl⟩
      obtain ⟨t, ht⟩ : ∃ t, fl F (i + 1) = t := ⟨_, rfl⟩
      rw [show (flat (F.take i)).length = fl F i from rfl, hq, hp] at hmk
      have hsu := fl_succ hf
      have hle := fl_le hf
      have hna := name_at hf
      have hva := value_at hf
      rw [hq, hp] at hna
      rw [hq, ht] at hva
      have hcv2 := hr.vlShape
      have hc2 := hr.c2
      have hc4 := hr.c4
      rw [as_.1] at hc2
      rw [as_.2.2.2.1] at hc4
      obtain ⟨mg, hmg, hmc⟩ : ∃ mg, ma = some ⟨mg, 0, none⟩ ∧ wr.cell? ⟨mg, i * 2, none⟩ = some (.int .i64 (p : Int)) ∧ wr.cell? ⟨mg, i * 2 + 1, none⟩ = some (.int .i64 (q : Int)) := by
        obtain ⟨ma', mcp', e1, e2, hmm, _⟩ := hr.vmShape
        rw [as_.2.2.2.1] at e1
        injection e1 with e1 _ _
        rcases hmm with hmm | ⟨mg, h1, h2⟩
        · rw [hmm] at hmk; simp at hmk
        · exact ⟨mg, e1.trans h1, h2 i _ hmk⟩
      subst hmg
      have hcp2 : q < cp := by omega
      obtain ⟨g, o, ha, hlies⟩ : ∃ g o, a = some ⟨g, o, none⟩ ∧ Lies wr (some ⟨g, o, none⟩) (flat F) := by
        obtain ⟨a', cp', e1, e2, hl', _⟩ := hr.vlShape
        rw [as_.1] at e1
        injection e1 with e1 _ _
        rw [← e1] at hl'
        rcases hl' with e | ⟨g, o, e, hx⟩
        · rw [e] at hle; simp at hle; omega
        · exact ⟨g, o, e, Or.inr ⟨g, o, rfl, hx⟩⟩
      subst ha
      obtain ⟨Hm, hHm⟩ : ∃ Hm, wr.heap.size = Hm := ⟨_, rfl⟩
      have hiI : (i : Int) < 64 := by omega
      have hin : (i : Int) < (n : Int) := by omega
      have hmc1 := hmc.1
      have hmc2 := hmc.2
      have AR : Aside (fl F i = p ∧ q = p + f.1.length ∧ fl F (i + 1) = t ∧ t = q + 1 + f.2.length ∧ t ≤ L ∧ L ≤ cp ∧ ((flat F).take q).drop p = f.1 ∧ ((flat F).take t).drop (q + 1) = f.2 ∧ F[i]? = some f ∧ Rm wr lo B most k vl (flat F) bg vm (mk F) true 0 ∧ Cells wr w.heap.size (row F (i + 1)).toArray 43 ∧ Below w.heap.size w wr ∧ Lies wr (some ⟨g, o, none⟩) (flat F) ∧ L ≤ 65536 ∧ (flat F).length = L ∧ Oct (flat F) ∧ i + 1 ≤ n) := ⟨hp, by omega, ht, by omega, by omega, as_.2.1, hna, hva, hf, hr, hcG, hbel, hlies, as_.2.2.2.2.2.2.1, ax.2.2.2.2.1, as_.2.2.2.2.2.1, hj⟩
      clear hI hj hr hcG hbel ax as_ hf hmk hp hq hsu hle hna hva hcv2 hlies hmc hcp2
      rw [ht, show ((i + 1 : Nat) : Int) - 1 = (i : Int) by omega]
      clear ht
      obtain ⟨w1, hw1⟩ : ∃ w1, w1 = wr.alloc (.cells #[.int .i64 (p : Int), .int .i64 (q : Int)] 63) := ⟨_, rfl⟩
      have ar := AR.out
      have b1 : Below wr.heap.size wr w1 := by rw [hw1]; exact (Below.refl _ wr).alloc (Nat.le_refl _) _
      have r1 := ar.2.2.2.2.2.2.2.2.2.1.below b1
      have g1 := ar.2.2.2.2.2.2.2.2.2.2.1.below b1 (ar.2.2.2.2.2.2.2.2.2.2.1.lt)
      have l1 := ar.2.2.2.2.2.2.2.2.2.2.2.2.1.below b1
      have k1 : Cells w1 Hm #[.int .i64 (p : Int), .int .i64 (q : Int)] 63 := by rw [hw1, ← hHm]; exact Cells.new wr _ 63
      obtain ⟨n1, hn1⟩ : ∃ n1, q - p = n1 := ⟨_, rfl⟩
      obtain ⟨n2, hn2⟩ : ∃ n2, t - (q + 1) = n2 := ⟨_, rfl⟩
      obtain ⟨ad, had⟩ : ∃ ad : Option Addr, ad = if cp = q + 1 then some ⟨g, o, none⟩ else some ⟨g, o + (q + 1), none⟩ := ⟨_, rfl⟩
      have hlen1 : f.1.length = n1 := by omega
      have hlen2 : f.2.length = n2 := by omega
      have hof : Oct f.1 ∧ Oct f.2 := by
        have ho := ar.2.2.2.2.2.2.2.2.2.2.2.2.2.2.2.1
        exact ⟨by rw [← ar.2.2.2.2.2.2.1]; exact (ho.take _).drop _, by rw [← ar.2.2.2.2.2.2.2.1]; exact (ho.take _).drop _⟩
      have hcv1 : ∀ W C, Lies W (some ⟨g, o, none⟩) (flat F) → (convert 22 9 (.slice (some ⟨g, o + p, none⟩) n1 C)).run Try.prog W = .ok (.string (st f.1)) W := fun W C hW => by
        have := hW.piece p q (some ⟨g, o + p, none⟩) (by omega) (fun _ => rfl)
        rw [ar.2.2.2.2.2.2.1] at this
        exact conv_st n1 C hlen1 hof.1 this
      have hcv2 : ∀ W C, Lies W (some ⟨g, o, none⟩) (flat F) → (convert 22 9 (.slice ad n2 C)).run Try.prog W = .ok (.string (st f.2)) W := fun W C hW => by
        have := hW.piece (q + 1) t ad (by omega) (fun h => by rw [had, if_neg (by omega)])
        rw [ar.2.2.2.2.2.2.2.1] at this
        exact conv_st n2 C hlen2 hof.2 this
      have SH : ∀ W, Rm W lo B most k vl (flat F) bg vm (mk F) true 0 → Cells W Hm #[.int .i64 (p : Int), .int .i64 (q : Int)] 63 → (W.cell? ⟨B, 2, none⟩ = some (.slice (some ⟨g, o, none⟩) L cp) ∧ W.cell? ⟨Hm, 0, none⟩ = some (.int .i64 (p : Int)) ∧ W.cell? ⟨Hm, 1, none⟩ = some (.int .i64 (q : Int)) ∧ (∀ C, (convert 22 9 (.slice (some ⟨g, o + p, none⟩) n1 C)).run Try.prog W = .ok (.string (st f.1)) W) ∧ (∀ C, (convert 22 9 (.slice ad n2 C)).run Try.prog W = .ok (.string (st f.2)) W)) := fun W rW kW => by
        have hl : Lies W (some ⟨g, o, none⟩) (flat F) := by
          obtain ⟨a', cp', e1, e2, hl', _⟩ := rW.vlShape
          rw [AS.out.1] at e1
          injection e1 with e1 _ _
          rw [← e1] at hl'
          exact hl'
        refine ⟨by rw [rW.c2, AS.out.1], by rw [kW.cell]; rfl, by rw [kW.cell]; rfl, fun C => hcv1 W C hl, fun C => hcv2 W C hl⟩
      have hkp : ∀ W, Below w1.heap.size w1.drew W → Rm W lo B most k vl (flat F) bg vm (mk F) true 0 ∧ Cells W Hm #[.int .i64 (p : Int), .int .i64 (q : Int)] 63 ∧ Cells W w.heap.size (row F (i + 1)).toArray 43 := fun W hb => ⟨r1.drew.below hb, k1.drew.below hb k1.lt, g1.drew.below hb g1.lt⟩
      have hrow : (row F (i + 1))[i * 2]? = some (.string ⟨#[]⟩) ∧ (row F (i + 1))[i * 2 + 1]? = some (.string ⟨#[]⟩) := by
        unfold row
        constructor
        · rw [List.getElem?_append_left (by rw [List.length_replicate]; omega), List.getElem?_replicate, if_pos (by omega)]
        · rw [List.getElem?_append_left (by rw [List.length_replicate]; omega), List.getElem?_replicate, if_pos (by omega)]
      have hgc : ∀ W, Cells W w.heap.size (row F (i + 1)).toArray 43 → W.cell? ⟨w.heap.size, i * 2, none⟩ = some (.string ⟨#[]⟩) ∧ W.frozen? ⟨w.heap.size, i * 2, none⟩ = false ∧ (W.setCell ⟨w.heap.size, i * 2, none⟩ (.string (st f.1))).cell? ⟨w.heap.size, i * 2 + 1, none⟩ = some (.string ⟨#[]⟩) ∧ (W.setCell ⟨w.heap.size, i * 2, none⟩ (.string (st f.1))).frozen? ⟨w.heap.size, i * 2 + 1, none⟩ = false ∧ W.cell? ⟨w.heap.size, i * 2 + 1, none⟩ = some (.string ⟨#[]⟩) ∧ W.frozen? ⟨w.heap.size, i * 2 + 1, none⟩ = false := fun W gW => by
        have g2 := gW.set (i * 2) (.string (st f.1))
        refine ⟨by rw [gW.cell]; simpa using hrow.1, gW.frozen _, ?_, g2.frozen _, by rw [gW.cell]; simpa using hrow.2, gW.frozen _⟩
        rw [g2.cell, Array.getElem?_setIfInBounds_ne (by omega)]
        simpa using hrow.2
      have htr := fun W => trim_c f.2 hof.2 (by omega) W
      have Afin : Aside (∀ W, Below w1.heap.size w1.drew W → Rm ((W.setCell ⟨w.heap.size, i * 2, none⟩ (.string (st f.1))).setCell ⟨w.heap.size, i * 2 + 1, none⟩ (.string (st (trm f.2)))) lo B most k vl (flat F) bg vm (mk F) true 0 ∧ Cells ((W.setCell ⟨w.heap.size, i * 2, none⟩ (.string (st f.1))).setCell ⟨w.heap.size, i * 2 + 1, none⟩ (.string (st (trm f.2)))) Hm #[.int .i64 (p : Int), .int .i64 (q : Int)] 63 ∧ Cells ((W.setCell ⟨w.heap.size, i * 2, none⟩ (.string (st f.1))).setCell ⟨w.heap.size, i * 2 + 1, none⟩ (.string (st (trm f.2)))) w.heap.size (row F i).toArray 43 ∧ Below w.heap.size w ((W.setCell ⟨w.heap.size, i * 2, none⟩ (.string (st f.1))).setCell ⟨w.heap.size, i * 2 + 1, none⟩ (.string (st (trm f.2))))) := fun W hb => by
        obtain ⟨rW, kW, gW⟩ := hkp W hb
        have g2 := gW.set (i * 2) (.string (st f.1))
        have r2 := rW.setOther (i := i * 2) (x := .string (st f.1)) gW (by decide)
        have hne : Hm ≠ w.heap.size := fun e => by
          unfold Cells at kW gW
          rw [e, gW] at kW
          cases kW
        refine ⟨r2.setOther g2 (by decide), (kW.only ((Only.refl _ W).setCell _ _) hne).only ((Only.refl _ _).setCell _ _) hne, ?_, ?_⟩
        · have := g2.set (i * 2 + 1) (.string (st (trm f.2)))
          rw [row_set ar.2.2.2.2.2.2.2.2.1] at this
          exact this
        · have hb0 : Below w.heap.size w wr := ar.2.2.2.2.2.2.2.2.2.2.2.1
          exact (((hb0.trans (b1.mono hb0.size)).drew.trans (hb.mono (Nat.le_trans hb0.size b1.size))).setCell (Nat.le_refl _) _).setCell (Nat.le_refl _) _
      have i1 : ((q : Int) - (p : Int)) = (n1 : Int) := by omega
      have i2 : ((t : Int) - ((q : Int) + 1)) = (n2 : Int) := by omega
      have j1 : (p : Int) ≤ (q : Int) := by omega
      have j2 : (q : Int) + 1 ≤ (t : Int) := by omega
      have j3 : (t : Int) ≤ (cp : Int) := by omega
      have j4 : (q : Int) ≤ (cp : Int) := by omega
      have j5 : (t : Int) ≤ 65536 := by omega
      have j6 : ((0 : Int) ≤ (q : Int) + 1) = True := eq_true (by omega)
      have x1 : (cp = p) = False := eq_false (by omega)
      have x2 : (p = cp) = False := eq_false (by omega)
      have hst0 := SH _ r1.drew k1.drew
      have AW : Aside (fl F i = p ∧ i + 1 ≤ n) := ⟨ar.1, ar.2.2.2.2.2.2.2.2.2.2.2.2.2.2.2.2⟩
      rw [hHm] at b1
      clear r1 g1 l1 k1 hlen1 hlen2 hof hcv1 hcv2 hrow ar b1 AR
      by_cases hce : cp = q + 1
      · rw [if_pos hce] at had
        have y1 : (cp = q + 1) = True := eq_true hce
        have y2 : (q + 1 = cp) = True := eq_true hce.symm
        subst had
        clear hce
        go_upto_region 9 with fail
        rw [← hw1]
        clear hw1
        have hwrp : IntKind.i64.wrap ((q : Int) + 1) = (q : Int) + 1 := by rw [IntKind.wrap_i64]; omega
        go_region_held3 (fun w' => w'.cell? ⟨B, 2, none⟩ = some (.slice (some ⟨g, o, none⟩) L cp) ∧ w'.cell? ⟨Hm, 0, none⟩ = some (.int .i64 (p : Int)) ∧ w'.cell? ⟨Hm, 1, none⟩ = some (.int .i64 (q : Int)) ∧ (∀ C, (convert 22 9 (.slice (some ⟨g, o + p, none⟩) n1 C)).run Try.prog w' = .ok (.string (st f.1)) w') ∧ (∀ C, (convert 22 9 (.slice (some ⟨g, o, none⟩) n2 C)).run Try.prog w' = .ok (.string (st f.2)) w')) (first | exact hst0 | exact SH _ (hkp _ hb2).1 (hkp _ hb2).2.1 | exact SH _ (Afin.out _ hb2).1 (Afin.out _ hb2).2.1)
          (first | (go_at_call 22; refine (htr _).mono ?_; rintro e2 w2 ⟨rfl, hb2⟩; obtain ⟨d1, z1, d2, z2, d3, z3⟩ := hgc _ (hkp _ hb2).2.2))
        obtain ⟨w3, hw3⟩ : ∃ w3, w3 = (w2.setCell ⟨w.heap.size, i * 2, none⟩ (.string (st f.1))).setCell ⟨w.heap.size, i * 2 + 1, none⟩ (.string (st (trm f.2))) := ⟨_, rfl⟩
        have hfin := Afin.out w2 hb2
        rw [← hw3] at hfin ⊢
        have d6 : w3.cell? ⟨Hm, 0, none⟩ = some (.int .i64 (p : Int)) := by rw [hfin.2.1.cell]; rfl
        have AZ : Aside (Rm w3 lo B most k vl (flat F) bg vm (mk F) true 0 ∧ Cells w3 w.heap.size (row F i).toArray 43 ∧ Below w.heap.size w w3) := ⟨hfin.1, hfin.2.2.1, hfin.2.2.2⟩
        clear hw3 hfin hwrp d1 z1 d2 z2 d3 z3 hb2 Afin hkp hgc htr hst0 SH y1 y2
        go_wp2_with fail
        have az := AZ.out
        have aw := AW.out
        go_roundg i
        case measure => omega
        case rel => exact ⟨by rw [aw.1], rfl, by omega, az.1, az.2.1, az.2.2⟩
      · rw [if_neg hce] at had
        have y1 : (cp = q + 1) = False := eq_false hce
        have y2 : (q + 1 = cp) = False := eq_false fun e => hce e.symm
        subst had
        clear hce
        go_upto_region 9 with fail
        rw [← hw1]
        clear hw1
        have hwrp : IntKind.i64.wrap ((q : Int) + 1) = (q : Int) + 1 := by rw [IntKind.wrap_i64]; omega
        go_region_held3 (fun w' => w'.cell? ⟨B, 2, none⟩ = some (.slice (some ⟨g, o, none⟩) L cp) ∧ w'.cell? ⟨Hm, 0, none⟩ = some (.int .i64 (p : Int)) ∧ w'.cell? ⟨Hm, 1, none⟩ = some (.int .i64 (q : Int)) ∧ (∀ C, (convert 22 9 (.slice (some ⟨g, o + p, none⟩) n1 C)).run Try.prog w' = .ok (.string (st f.1)) w') ∧ (∀ C, (convert 22 9 (.slice (some ⟨g, o + (q + 1), none⟩) n2 C)).run Try.prog w' = .ok (.string (st f.2)) w')) (first | exact hst0 | exact SH _ (hkp _ hb2).1 (hkp _ hb2).2.1 | exact SH _ (Afin.out _ hb2).1 (Afin.out _ hb2).2.1)
          (first | (go_at_call 22; refine (htr _).mono ?_; rintro e2 w2 ⟨rfl, hb2⟩; obtain ⟨d1, z1, d2, z2, d3, z3⟩ := hgc _ (hkp _ hb2).2.2))
        obtain ⟨w3, hw3⟩ : ∃ w3, w3 = (w2.setCell ⟨w.heap.size, i * 2, none⟩ (.string (st f.1))).setCell ⟨w.heap.size, i * 2 + 1, none⟩ (.string (st (trm f.2))) := ⟨_, rfl⟩
        have hfin := Afin.out w2 hb2
        rw [← hw3] at hfin ⊢
        have d6 : w3.cell? ⟨Hm, 0, none⟩ = some (.int .i64 (p : Int)) := by rw [hfin.2.1.cell]; rfl
        have AZ : Aside (Rm w3 lo B most k vl (flat F) bg vm (mk F) true 0 ∧ Cells w3 w.heap.size (row F i).toArray 43 ∧ Below w.heap.size w w3) := ⟨hfin.1, hfin.2.2.1, hfin.2.2.2⟩
        clear hw3 hfin hwrp d1 z1 d2 z2 d3 z3 hb2 Afin hkp hgc htr hst0 SH y1 y2
        go_wp2_with fail
        have az := AZ.out
        have aw := AW.out
        go_roundg i
        case measure => omega
        case rel => exact ⟨by rw [aw.1], rfl, by omega, az.1, az.2.1, az.2.2⟩
end Go.Proofs.Ytmlkdpoignimaaa

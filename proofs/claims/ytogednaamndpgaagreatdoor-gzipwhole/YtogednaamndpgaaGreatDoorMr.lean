/-
  Own texts of this seat, one behind the other: what each says stands ahead of it.
-/
import Derived.Test.YtogednaamndpgaaGreatDoorMn
import Derived.Test.YtogednaamndpgaaGreatDoorMq
import Derived.Test.YtogednaamndpgaaGreatDoorMp
/-
  The document's answer in memory, told by where the machine stands: how it is read, what keeps it.
-/
namespace Go.Proofs.YtogednaamndpgaaGreatDoor
open Go.RowKit
set_option linter.unusedVariables false
theorem Rn.keep {w u : World} {base Q L C m : Nat} {a : Option Addr} {s : Rs} {vO vT : Value} (h : Rn w base Q a L C m s vO vT) (k : ∀ g, base ≤ g → g < w.heap.size → u.heap[g]? = w.heap[g]?) : Rn u base Q a L C m s vO vT := by
  refine ⟨?_, ⟨h.oo.1, ?_⟩, ⟨h.ot.1, ?_⟩, h.rb, h.tl⟩
  · obtain ⟨f, hc⟩ := h.cells
    refine ⟨f, ?_⟩
    have := hc.lt
    unfold Cells at *
    rw [k Q h.rb this]; exact hc
  · rcases h.oo.2 with q | ⟨g, c, cur, hv, hg, hh, q⟩
    · exact Or.inl q
    · exact Or.inr ⟨g, c, cur, hv, hg, (k g hg (Array.getElem?_eq_some_iff.1 hh).1).trans hh, q⟩
  · rcases h.ot.2 with q | ⟨g, c, cur, hv, hg, hh, q⟩
    · exact Or.inl q
    · exact Or.inr ⟨g, c, cur, hv, hg, (k g hg (Array.getElem?_eq_some_iff.1 hh).1).trans hh, q⟩
theorem Rn.times_shape {w : World} {base Q L C m : Nat} {a : Option Addr} {s : Rs} {vO vT : Value} (h : Rn w base Q a L C m s vO vT) : ∃ ta tc, vT = .slice ta s.times.length tc ∧ Lens w ta (iz s.times) := by
  rcases h.ot.2 with ⟨hv, h0⟩ | ⟨g, c, cur, hv, hg, hh, hc, hm, hs, ht⟩
  · exact ⟨none, 0, by rw [hv, h0], Or.inl (by rw [List.eq_nil_of_length_eq_zero h0]; rfl)⟩
  · refine ⟨_, c, hv, Or.inr ⟨g, 0, rfl, fun i x hx => ?_⟩⟩
    rw [Nat.zero_add, Cells.cell (cs := cur) (t := 3) hh]
    have hi : i < s.times.length := by have := (List.getElem?_eq_some_iff.1 hx).1; rw [iz_len] at this; exact this
    unfold iz at hx
    rw [List.getElem?_map, Option.map_eq_some_iff] at hx
    obtain ⟨y, hy, rfl⟩ := hx
    have e : (cur.toList.take (s.times.length * 1))[i]? = some (.int .i64 (y : Int)) := by
      rw [ht]
      unfold vt
      rw [List.getElem?_map, hy]; rfl
    rw [List.getElem?_take, if_pos (by omega)] at e
    simpa using e
theorem Rn.out_shape {w : World} {base Q L C m : Nat} {a : Option Addr} {s : Rs} {vO vT : Value} (h : Rn w base Q a L C m s vO vT) : ∃ oa oc, vO = .slice oa s.out.length oc ∧ Lies w oa s.out := by
  have hob : Ob w 0 vO s.out := ⟨⟨h.oo.1, by
    rcases h.oo.2 with q | ⟨g, c, cur, hv, hg, q⟩
    · exact Or.inl q
    · exact Or.inr ⟨g, c, cur, hv, Nat.zero_le _, q⟩⟩, Nat.zero_le _⟩
  obtain ⟨oa, oc, h1, _, h2, _⟩ := hob.shape
  exact ⟨oa, oc, h1, h2⟩
/-- The document's run in block Q, all of it from base on: it tells where the machine stands. -/
structure Rz (w : World) (base Q : Nat) (a : Option Addr) (L C : Nat) (z : Cfg) (oa : Option Addr) (oc : Nat) (ta : Option Addr) (tc : Nat) : Prop where
  rn : ∃ m s, Rn w base Q a L C m s (.slice oa z.out.length oc) (.slice ta z.times.length tc) ∧ s.out = z.out ∧ s.times = z.times ∧ s.why = whyC z ∧ s.at_ = atC L z ∧ s.ended = endC z
section
variable {w u : World} {base Q L C : Nat} {a oa ta : Option Addr} {oc tc : Nat} {z : Cfg}
theorem Rz.of {m : Nat} {s : Rs} {vO vT : Value} (h : Rn w base Q a L C m s vO vT) (h1 : s.out = z.out) (h2 : s.times = z.times) (h3 : s.why = whyC z) (h4 : s.at_ = atC L z) (h5 : s.ended = endC z) : ∃ oa oc ta tc, vO = .slice oa z.out.length oc ∧ vT = .slice ta z.times.length tc ∧ Rz w base Q a L C z oa oc ta tc := by
  obtain ⟨oa, oc, e1, _⟩ := h.out_shape
  obtain ⟨ta, tc, e2, _⟩ := h.times_shape
  rw [h1] at e1
  rw [h2] at e2
  subst e1 e2
  exact ⟨oa, oc, ta, tc, rfl, rfl, ⟨m, s, h, h1, h2, h3, h4, h5⟩⟩
theorem Rz.keep (h : Rz w base Q a L C z oa oc ta tc) (k : ∀ g, base ≤ g → g < w.heap.size → u.heap[g]? = w.heap[g]?) : Rz u base Q a L C z oa oc ta tc := by
  obtain ⟨m, s, h1, h2⟩ := h.rn
  exact ⟨m, s, h1.keep k, h2⟩
theorem Rz.fm {B : Nat} (h : Rz w base Q a L C z oa oc ta tc) (k : Fm B w u) (hb : B + 4 ≤ base) : Rz u base Q a L C z oa oc ta tc := h.keep fun g h1 h2 => k.block g h2 (Or.inr (by omega))
theorem Rz.below {D : Nat} (h : Rz w base Q a L C z oa oc ta tc) (k : Below D w u) (hD : w.heap.size ≤ D) : Rz u base Q a L C z oa oc ta tc := h.keep fun g h1 h2 => k.block g (by omega)
theorem Rz.drewN (h : Rz w base Q a L C z oa oc ta tc) (n : Nat) : Rz (w.drewN n) base Q a L C z oa oc ta tc := h.keep fun _ _ _ => rfl
theorem Rz.drew (h : Rz w base Q a L C z oa oc ta tc) : Rz w.drew base Q a L C z oa oc ta tc := h.keep fun _ _ _ => rfl
theorem Rz.c2 (h : Rz w base Q a L C z oa oc ta tc) : w.cell? ⟨Q, 2, none⟩ = some (.slice oa z.out.length oc) := by obtain ⟨m, s, h1, _⟩ := h.rn; exact h1.c2
theorem Rz.c3 (h : Rz w base Q a L C z oa oc ta tc) : w.cell? ⟨Q, 3, none⟩ = some (.slice ta z.times.length tc) := by obtain ⟨m, s, h1, _⟩ := h.rn; exact h1.c3
theorem Rz.c4 (h : Rz w base Q a L C z oa oc ta tc) : w.cell? ⟨Q, 4, none⟩ = some (.int .i64 (whyC z : Nat)) := by obtain ⟨m, s, h1, _, _, e, _⟩ := h.rn; rw [← e]; exact h1.c4
theorem Rz.c5 (h : Rz w base Q a L C z oa oc ta tc) : w.cell? ⟨Q, 5, none⟩ = some (.int .i64 (atC L z : Nat)) := by obtain ⟨m, s, h1, _, _, _, e, _⟩ := h.rn; rw [← e]; exact h1.c5
theorem Rz.c6 (h : Rz w base Q a L C z oa oc ta tc) : w.cell? ⟨Q, 6, none⟩ = some (.bool (endC z)) := by obtain ⟨m, s, h1, _, _, _, _, e⟩ := h.rn; rw [← e]; exact h1.c6
theorem Rz.lies (h : Rz w base Q a L C z oa oc ta tc) : Lies w oa z.out := by
  obtain ⟨m, s, h1, e, _⟩ := h.rn
  obtain ⟨oa', oc', e2, hl⟩ := h1.out_shape
  simp only [Value.slice.injEq] at e2
  obtain ⟨rfl, _, _⟩ := e2
  rw [← e]; exact hl
theorem Rz.lens (h : Rz w base Q a L C z oa oc ta tc) : Lens w ta (iz z.times) := by
  obtain ⟨m, s, h1, _, e, _⟩ := h.rn
  obtain ⟨ta', tc', e2, hl⟩ := h1.times_shape
  simp only [Value.slice.injEq] at e2
  obtain ⟨rfl, _, _⟩ := e2
  rw [← e]; exact hl
end
end Go.Proofs.YtogednaamndpgaaGreatDoor

/-
  What the document's head comes to.
-/
namespace Go.Proofs.YtogednaamndpgaaGreatDoor
open Go.RowKit
set_option linter.unusedVariables false
set_option maxRecDepth 40000 in
set_option maxHeartbeats 8000000 in
theorem ghead_c (b : List Nat) {base R L C : Nat} {a : Option Addr} {vE : Value} {r : Gr} (w : World) (hE : Ge w base R a L C vE b) (h : Gm w base R a L C r vE) (hp : r.pos ≤ L) : Calls Tryz.prog 35 #[.pointer (some ⟨R, 0, none⟩)] w fun e w' => Gt (ghead b r) base R a L C vE w e w' := by
  obtain ⟨f, hf⟩ : ∃ f, r.pos = f := ⟨_, rfl⟩
  have AF : Aside (r.pos = f) := hf
  have AG : Aside (Ge w base R a L C vE b) := hE
  have S0 : Aside (Gm w base R a L C r vE ∧ Only R w w ∧ r.pos ≤ L) := ⟨h, Only.refl _ _, hp⟩
  clear hE h hp hf
  go_enter Tryz.func35, Tryz.ntmps35
  have hI := AG.out.is_ S0.out.1 S0.out.2.1 S0.out.2.2 31 40 (by decide)
  have c4 := S0.out.1.c4
  rw [AF.out] at c4
  go_upto_region 3 with (go_at_call 56; refine hI.mono ?_; rintro e1 w1 ⟨rfl, g1, o1⟩)
  have S1 : Aside (Gm w1 base R a L C (gis b 31 40 r) vE ∧ Only R w w1 ∧ (gis b 31 40 r).pos ≤ L) := ⟨g1, o1, by rw [← AG.out.len]; exact gis_pos _ _ (by rw [AG.out.len]; exact S0.out.2.2)⟩
  clear hI g1 o1 c4
  have hI := AG.out.is_ S1.out.1 S1.out.2.1 S1.out.2.2 139 40 (by decide)
  go_upto_region 4 with (go_at_call 56; refine hI.mono ?_; rintro e2 w2 ⟨rfl, g2, o2⟩)
  have S2 : Aside (Gm w2 base R a L C (gis b 139 40 (gis b 31 40 r)) vE ∧ Only R w w2 ∧ (gis b 139 40 (gis b 31 40 r)).pos ≤ L) := ⟨g2, o2, by rw [← AG.out.len]; exact gis_pos _ _ (by rw [AG.out.len]; exact S1.out.2.2)⟩
  clear hI g2 o2
  have hI := AG.out.is_ S2.out.1 S2.out.2.1 S2.out.2.2 8 41 (by decide)
  go_upto_region 5 with (go_at_call 56; refine hI.mono ?_; rintro e3 w3 ⟨rfl, g3, o3⟩)
  obtain ⟨r3, hr3⟩ : ∃ r3, hmag b r = r3 := ⟨_, rfl⟩
  have S3 : Aside (Gm w3 base R a L C r3 vE ∧ Only R w w3 ∧ r3.pos ≤ L) := by
    rw [← hr3]
    exact ⟨g3, o3, by rw [← AG.out.len]; exact gis_pos _ _ (by rw [AG.out.len]; exact S2.out.2.2)⟩
  have AH : Aside (hmag b r = r3) := hr3
  clear hI g3 o3 hr3
  by_cases h0 : r3.why = 0
  · have hop := AG.out.open_yes S3.out.1 h0
    have e0 : ghead b r = hres b (gval b 1 r3) f (gnum b 1 r3) := by unfold ghead; rw [AH.out, if_pos h0, AF.out]
    have hn := AG.out.num S3.out.1 S3.out.2.1 S3.out.2.2 1 (by decide)
    obtain ⟨fl, hfl⟩ : ∃ fl, gval b 1 r3 = fl := ⟨_, rfl⟩
    obtain ⟨r4, hr4⟩ : ∃ r4, gnum b 1 r3 = r4 := ⟨_, rfl⟩
    rw [hfl, hr4] at e0
    have hn' : Calls Tryz.prog 38 #[.pointer (some ⟨R, 0, none⟩), .int .i64 1] w3 fun e w' => e = .returned (.int .i64 (fl : Int)) ∧ Gm w' base R a L C r4 vE ∧ Only R w w' := hn.mono fun e w' k => by
      obtain ⟨v, k1, k2, k3, k4⟩ := k
      have := k2.out (by decide)
      rw [hfl] at this
      rw [this] at k1
      rw [hr4] at k3
      exact ⟨k1, k3, k4⟩
    have hflb : fl < 256 := by
      rw [← hfl]
      unfold gval
      split
      · decide
      · have := le_lt ((b.drop r3.pos).take 1) (fun x hx => AG.out.oct x (List.mem_of_mem_drop (List.mem_of_mem_take hx)))
        have h2 : ((b.drop r3.pos).take 1).length ≤ 1 := by rw [List.length_take]; omega
        have h3 : 256 ^ ((b.drop r3.pos).take 1).length ≤ 256 ^ 1 := Nat.pow_le_pow_right (by decide) h2
        omega
    have hp4 : r4.pos ≤ L := by rw [← hr4, ← AG.out.len]; exact gnum_pos _ _ _ (by rw [AG.out.len]; exact S3.out.2.2)
    have bfl : (fl : Int) < 256 := by omega
    have AE : Aside (ghead b r = hres b fl f r4 ∧ fl < 256 ∧ r4.pos ≤ L ∧ (r4.why = 0 → 1 ≤ r4.pos)) := ⟨e0, hflb, hp4, fun e => by
      rw [← hr4] at e ⊢
      have := gnum_one h0 e
      omega⟩
    have AH2 : Aside (gnum b 1 (hmag b r) = r4) := by rw [AH.out]; exact hr4
    clear e0 hn hfl hr4 hflb hp4 h0 AH
    go_upto_region 8 with (first | (go_at_call 25; refine hop.mono ?_; rintro e4 w4 ⟨rfl, rfl⟩) | (go_at_call 38; refine hn'.mono ?_; rintro e5 w5 ⟨rfl, g5, o5⟩))
    have S4 : Aside (Gm w5 base R a L C r4 vE ∧ Only R w w5 ∧ r4.pos ≤ L) := ⟨g5, o5, AE.out.2.2.1⟩
    clear hop hn' g5 o5
    obtain ⟨ta, hta⟩ : ∃ ta, decide (r4.why = 0 ∧ 32 ≤ fl) = ta := ⟨_, rfl⟩
    have Ata : Aside (decide (r4.why = 0 ∧ 32 ≤ fl) = ta) := hta
    clear hta
    go_upto_region 8 with fail
    go_cut [29] (fun s wc => s = .bool ta ∧ wc = w5)
    case first => as_aux_lemma =>
      by_cases h0 : r4.why = 0
      · have hop := AG.out.open_yes S4.out.1 h0
        by_cases h1 : 32 ≤ fl
        · have t1 : ((32 : Int) ≤ (fl : Int)) = True := eq_true (by omega)
          have t2 : (32 ≤ fl) = True := eq_true h1
          have : ta = true := by rw [← Ata.out]; simp [h0, h1]
          subst this
          clear h0 h1
          go_wp2_with (go_at_call 25; refine hop.mono ?_; rintro e1 w1 ⟨rfl, rfl⟩)
          go_meet
          exact ⟨rfl, rfl⟩
        · have t1 : ((32 : Int) ≤ (fl : Int)) = False := eq_false (by omega)
          have t2 : (32 ≤ fl) = False := eq_false h1
          have : ta = false := by rw [← Ata.out]; simp [h0, h1]
          subst this
          clear h0 h1
          go_wp2_with (go_at_call 25; refine hop.mono ?_; rintro e1 w1 ⟨rfl, rfl⟩)
          go_meet
          exact ⟨rfl, rfl⟩
      · have hop := AG.out.open_no S4.out.1 h0
        have : ta = false := by rw [← Ata.out]; simp [h0]
        subst this
        clear h0
        go_wp2_with (go_at_call 25; refine hop.mono ?_; rintro e1 w1 ⟨rfl, rfl⟩)
        go_meet
        exact ⟨rfl, rfl⟩
    case rest =>
      obtain ⟨rfl, hwc⟩ := hcut
      have hwc := hwc.symm
      subst hwc
      obtain ⟨r5, hr5⟩ : ∃ r5, hflag fl r4 = r5 := ⟨_, rfl⟩
      have H5 : Aside (hflag fl r4 = r5) := hr5
      clear hr5
      go_upto_if 29 with fail
      go_cut [] (fun wc => Aside (Gm wc base R a L C r5 vE ∧ Only R w wc ∧ r5.pos ≤ L))
      case first => as_aux_lemma =>
        cases ta with
        | true =>
          have hc : r4.why = 0 ∧ 32 ≤ fl := of_decide_eq_true Ata.out
          obtain ⟨p1, hp1⟩ : ∃ p1, r4.pos = p1 := ⟨_, rfl⟩
          obtain ⟨q1, hq1⟩ : ∃ q1, p1 - 1 = q1 := ⟨_, rfl⟩
          have hp0 : 1 ≤ p1 := by rw [← hp1]; exact AE.out.2.2.2 hc.1
          have hpL : p1 ≤ L := by rw [← hp1]; exact S4.out.2.2
          have bL := AG.out.big
          have w1' : (p1 : Int) - 1 = (q1 : Int) := by omega
          have bq : (q1 : Int) < 300000000000 := by omega
          have c4 := S4.out.1.c4
          rw [hp1] at c4
          have hs := AG.out.stop S4.out.1 S4.out.2.1 42 q1
          have e5 : r5 = gstop 42 q1 r4 := by rw [← H5.out]; unfold hflag; rw [if_pos hc, hp1, hq1]
          have E5 : Aside (r5 = gstop 42 q1 r4 ∧ p1 ≤ L ∧ r4.pos = p1) := ⟨e5, hpL, hp1⟩
          clear hc hp1 hq1 hp0 hpL bL e5
          go_wp2_with (go_at_call 26; refine hs.mono ?_; rintro e6 w6 ⟨rfl, g6, o6⟩)
          go_meet
          exact ⟨by rw [E5.out.1]; exact g6, o6, by rw [E5.out.1]; exact S4.out.2.2⟩
        | false =>
          have hc : ¬ (r4.why = 0 ∧ 32 ≤ fl) := of_decide_eq_false Ata.out
          have e5 : r5 = r4 := by rw [← H5.out]; unfold hflag; rw [if_neg hc]
          have E5 : Aside (r5 = r4) := e5
          clear hc e5
          go_wp2_with fail
          go_meet
          exact ⟨by rw [E5.out]; exact S4.out.1, S4.out.2.1, by rw [E5.out]; exact S4.out.2.2⟩
      case rest =>
        have S5 : Aside (Gm wc base R a L C r5 vE ∧ Only R w wc ∧ r5.pos ≤ L) := hcut
        clear hcut
        obtain ⟨W5, hW5⟩ : ∃ W5, W5 = wc := ⟨_, rfl⟩
        subst hW5
        obtain ⟨tc', htc'⟩ : ∃ tc', decide (r5.why = 0) = tc' := ⟨_, rfl⟩
        have Atc' : Aside (decide (r5.why = 0) = tc') := htc'
        clear htc'
        go_upto_region 10 with fail
        go_cut [38] (fun s wc => s = .bool tc' ∧ wc = W5)
        case first => as_aux_lemma =>
          by_cases h0 : r5.why = 0
          · have hop := AG.out.open_yes S5.out.1 h0
            have : tc' = true := by rw [← Atc'.out]; simp [h0]
            subst this
            clear h0
            go_wp2_with (go_at_call 25; refine hop.mono ?_; rintro e1 w1 ⟨rfl, rfl⟩)
            go_meet
            exact ⟨rfl, rfl⟩
          · have hop := AG.out.open_no S5.out.1 h0
            have : tc' = false := by rw [← Atc'.out]; simp [h0]
            subst this
            clear h0
            go_wp2_with (go_at_call 25; refine hop.mono ?_; rintro e1 w1 ⟨rfl, rfl⟩)
            go_meet
            exact ⟨rfl, rfl⟩
        case rest =>
          obtain ⟨rfl, hwc⟩ := hcut
          have hwc := hwc.symm
          subst hwc
          obtain ⟨r6, hr6⟩ : ∃ r6, hoth b r5 = r6 := ⟨_, rfl⟩
          have H6 : Aside (hoth b r5 = r6) := hr6
          clear hr6
          go_upto_if 38 with fail
          go_cut [] (fun wc => Aside (Gm wc base R a L C r6 vE ∧ Only R w wc ∧ r6.pos ≤ L))
          case first => as_aux_lemma =>
            cases tc' with
            | true =>
              have hc : r5.why = 0 := of_decide_eq_true Atc'.out
              have hn := AG.out.num S5.out.1 S5.out.2.1 S5.out.2.2 6 (by decide)
              have E5 : Aside (r6 = gnum b 6 r5) := by rw [← H6.out]; unfold hoth; rw [if_pos hc]; exact rfl
              have hpp : Aside ((gnum b 6 r5).pos ≤ L) := by rw [← AG.out.len]; exact gnum_pos _ _ _ (by rw [AG.out.len]; exact S5.out.2.2)
              clear hc
              go_wp2_with (go_at_call 38; refine hn.mono ?_; rintro e6 w6 ⟨v6, rfl, _, g6, o6⟩)
              go_meet
              exact ⟨by rw [E5.out]; exact g6, o6, by rw [E5.out]; exact hpp.out⟩
            | false =>
              have hc : ¬ (r5.why = 0) := of_decide_eq_false Atc'.out
              have e5 : r6 = r5 := by rw [← H6.out]; unfold hoth; rw [if_neg hc]
              have E5 : Aside (r6 = r5) := e5
              clear hc e5
              go_wp2_with fail
              go_meet
              exact ⟨by rw [E5.out]; exact S5.out.1, S5.out.2.1, by rw [E5.out]; exact S5.out.2.2⟩
          case rest =>
            have S6 : Aside (Gm wc base R a L C r6 vE ∧ Only R w wc ∧ r6.pos ≤ L) := hcut
            clear hcut
            obtain ⟨W6, hW6⟩ : ∃ W6, W6 = wc := ⟨_, rfl⟩
            subst hW6
            obtain ⟨td, htd⟩ : ∃ td, decide (r6.why = 0 ∧ fl / 4 % 2 = 1) = td := ⟨_, rfl⟩
            have Atd : Aside (decide (r6.why = 0 ∧ fl / 4 % 2 = 1) = td) := htd
            clear htd
            go_upto_region 12 with fail
            go_cut [48] (fun s wc => s = .bool td ∧ wc = W6)
            case first => as_aux_lemma =>
              by_cases h0 : r6.why = 0
              · have hop := AG.out.open_yes S6.out.1 h0
                by_cases h1 : fl / 4 % 2 = 1
                · obtain ⟨q4, hq4⟩ : ∃ q4, fl / 4 = q4 := ⟨_, rfl⟩
                  obtain ⟨f4, hf4⟩ : ∃ f4, q4 % 2 = f4 := ⟨_, rfl⟩
                  have d1 : (fl : Int) / 4 = (q4 : Int) := by omega
                  have d2 : Int.tdiv (fl : Int) 4 = (q4 : Int) := by rw [Int.tdiv_eq_ediv_of_nonneg (by omega)]; exact d1
                  have d3 : (q4 : Int) % 2 = (f4 : Int) := by omega
                  have d4 : Int.tmod (q4 : Int) 2 = (f4 : Int) := by rw [Int.tmod_eq_emod_of_nonneg (by omega)]; exact d3
                  have b1 : (q4 : Int) < 300 := by omega
                  have b2 : (f4 : Int) < 3 := by omega
                  have d5 : ((f4 : Int) == 1) = true := by rw [beq_iff_eq]; omega
                  clear hq4 hf4
                  have : td = true := by rw [← Atd.out]; simp [h0, h1]
                  subst this
                  clear h0 h1
                  go_wp2_with (go_at_call 25; refine hop.mono ?_; rintro e1 w1 ⟨rfl, rfl⟩)
                  go_meet
                  exact ⟨rfl, rfl⟩
                · obtain ⟨q4, hq4⟩ : ∃ q4, fl / 4 = q4 := ⟨_, rfl⟩
                  obtain ⟨f4, hf4⟩ : ∃ f4, q4 % 2 = f4 := ⟨_, rfl⟩
                  have d1 : (fl : Int) / 4 = (q4 : Int) := by omega
                  have d2 : Int.tdiv (fl : Int) 4 = (q4 : Int) := by rw [Int.tdiv_eq_ediv_of_nonneg (by omega)]; exact d1
                  have d3 : (q4 : Int) % 2 = (f4 : Int) := by omega
                  have d4 : Int.tmod (q4 : Int) 2 = (f4 : Int) := by rw [Int.tmod_eq_emod_of_nonneg (by omega)]; exact d3
                  have b1 : (q4 : Int) < 300 := by omega
                  have b2 : (f4 : Int) < 3 := by omega
                  have d5 : ((f4 : Int) == 1) = false := by rw [beq_eq_false_iff_ne]; omega
                  clear hq4 hf4
                  have : td = false := by rw [← Atd.out]; simp [h0, h1]
                  subst this
                  clear h0 h1
                  go_wp2_with (go_at_call 25; refine hop.mono ?_; rintro e1 w1 ⟨rfl, rfl⟩)
                  go_meet
                  exact ⟨rfl, rfl⟩
              · have hop := AG.out.open_no S6.out.1 h0
                have : td = false := by rw [← Atd.out]; simp [h0]
                subst this
                clear h0
                go_wp2_with (go_at_call 25; refine hop.mono ?_; rintro e1 w1 ⟨rfl, rfl⟩)
                go_meet
                exact ⟨rfl, rfl⟩
            case rest =>
              obtain ⟨rfl, hwc⟩ := hcut
              have hwc := hwc.symm
              subst hwc
              obtain ⟨r7, hr7⟩ : ∃ r7, hext b fl r6 = r7 := ⟨_, rfl⟩
              have H7 : Aside (hext b fl r6 = r7) := hr7
              clear hr7
              go_upto_if 48 with fail
              go_cut [5] (fun s5 wc => Aside (Gm wc base R a L C r7 vE ∧ Only R w wc ∧ r7.pos ≤ L))
              case first => as_aux_lemma =>
                cases td with
                | true =>
                  have hc : r6.why = 0 ∧ fl / 4 % 2 = 1 := of_decide_eq_true Atd.out
                  have hn := AG.out.num S6.out.1 S6.out.2.1 S6.out.2.2 2 (by decide)
                  obtain ⟨n, hnn⟩ : ∃ n, gval b 2 r6 = n := ⟨_, rfl⟩
                  obtain ⟨x1, hx1⟩ : ∃ x1, gnum b 2 r6 = x1 := ⟨_, rfl⟩
                  have hnb : n < 65536 := by rw [← hnn]; exact gval_two AG.out.oct
                  have hn' : Calls Tryz.prog 38 #[.pointer (some ⟨R, 0, none⟩), .int .i64 2] W6 fun e w' => e = .returned (.int .i64 (n : Int)) ∧ Gm w' base R a L C x1 vE ∧ Only R w w' := hn.mono fun e w' k => by
                    obtain ⟨v, k1, k2, k3, k4⟩ := k
                    have := k2.out (by decide)
                    rw [hnn] at this
                    rw [this] at k1
                    rw [hx1] at k3
                    exact ⟨k1, k3, k4⟩
                  obtain ⟨x2, hx2⟩ : ∃ x2, hxb n x1 = x2 := ⟨_, rfl⟩
                  have X2 : Aside (hxb n x1 = x2) := hx2
                  have X7 : Aside (hxt b n x2 = r7) := by rw [← H7.out]; unfold hext; rw [if_pos hc, hnn, hx1, hx2]; exact rfl
                  have bn : (n : Int) < 65536 := by omega
                  have XX : Aside (n < 65536 ∧ x1.pos ≤ L ∧ (x1.why = 0 → 1 ≤ x1.pos)) := ⟨hnb, by rw [← hx1, ← AG.out.len]; exact gnum_pos _ _ _ (by rw [AG.out.len]; exact S6.out.2.2), fun e => by rw [← hx1] at e ⊢; exact gnum_two hc.1 e⟩
                  clear hc hn hnn hx1 hnb hx2
                  go_upto_region 14 with (go_at_call 38; refine hn'.mono ?_; rintro e6 w6 ⟨rfl, g6, o6⟩)
                  have T1 : Aside (Gm w6 base R a L C x1 vE ∧ Only R w w6 ∧ x1.pos ≤ L) := ⟨g6, o6, XX.out.2.1⟩
                  clear hn' g6 o6
                  obtain ⟨te, hte⟩ : ∃ te, decide (x1.why = 0 ∧ 1024 < n) = te := ⟨_, rfl⟩
                  have Ate : Aside (decide (x1.why = 0 ∧ 1024 < n) = te) := hte
                  clear hte
                  go_upto_region 14 with fail
                  go_cut [56] (fun s wc => s = .bool te ∧ wc = w6)
                  case first => as_aux_lemma =>
                    by_cases h0 : x1.why = 0
                    · have hop := AG.out.open_yes T1.out.1 h0
                      by_cases h1 : 1024 < n
                      · have t1 : ((1024 : Int) < (n : Int)) = True := eq_true (by omega)
                        have t2 : (1024 < n) = True := eq_true h1
                        have : te = true := by rw [← Ate.out]; simp [h0, h1]
                        subst this
                        clear h0 h1
                        go_wp2_with (go_at_call 25; refine hop.mono ?_; rintro e1 w1 ⟨rfl, rfl⟩)
                        go_meet
                        exact ⟨rfl, rfl⟩
                      · have t1 : ((1024 : Int) < (n : Int)) = False := eq_false (by omega)
                        have t2 : (1024 < n) = False := eq_false h1
                        have : te = false := by rw [← Ate.out]; simp [h0, h1]
                        subst this
                        clear h0 h1
                        go_wp2_with (go_at_call 25; refine hop.mono ?_; rintro e1 w1 ⟨rfl, rfl⟩)
                        go_meet
                        exact ⟨rfl, rfl⟩
                    · have hop := AG.out.open_no T1.out.1 h0
                      have : te = false := by rw [← Ate.out]; simp [h0]
                      subst this
                      clear h0
                      go_wp2_with (go_at_call 25; refine hop.mono ?_; rintro e1 w1 ⟨rfl, rfl⟩)
                      go_meet
                      exact ⟨rfl, rfl⟩
                  case rest =>
                    obtain ⟨rfl, hwc⟩ := hcut
                    have hwc := hwc.symm
                    subst hwc
                    go_upto_if 56 with fail
                    go_cut [] (fun wc => Aside (Gm wc base R a L C x2 vE ∧ Only R w wc ∧ x2.pos ≤ L))
                    case first => as_aux_lemma =>
                      cases te with
                      | true =>
                        have hc : x1.why = 0 ∧ 1024 < n := of_decide_eq_true Ate.out
                        obtain ⟨p1, hp1⟩ : ∃ p1, x1.pos = p1 := ⟨_, rfl⟩
                        obtain ⟨q1, hq1⟩ : ∃ q1, p1 - 1 = q1 := ⟨_, rfl⟩
                        have hp0 : 1 ≤ p1 := by rw [← hp1]; exact XX.out.2.2 hc.1
                        have hpL : p1 ≤ L := by rw [← hp1]; exact T1.out.2.2
                        have bL := AG.out.big
                        have w1' : (p1 : Int) - 1 = (q1 : Int) := by omega
                        have bq : (q1 : Int) < 300000000000 := by omega
                        have c4 := T1.out.1.c4
                        rw [hp1] at c4
                        have hs := AG.out.stop T1.out.1 T1.out.2.1 46 q1
                        have e5 : x2 = gstop 46 q1 x1 := by rw [← X2.out]; unfold hxb; rw [if_pos hc, hp1, hq1]
                        have E5 : Aside (x2 = gstop 46 q1 x1 ∧ p1 ≤ L ∧ x1.pos = p1) := ⟨e5, hpL, hp1⟩
                        clear hc hp1 hq1 hp0 hpL bL e5
                        go_wp2_with (go_at_call 26; refine hs.mono ?_; rintro e6 w6 ⟨rfl, g6, o6⟩)
                        go_meet
                        exact ⟨by rw [E5.out.1]; exact g6, o6, by rw [E5.out.1]; exact T1.out.2.2⟩
                      | false =>
                        have hc : ¬ (x1.why = 0 ∧ 1024 < n) := of_decide_eq_false Ate.out
                        have e5 : x2 = x1 := by rw [← X2.out]; unfold hxb; rw [if_neg hc]
                        have E5 : Aside (x2 = x1) := e5
                        clear hc e5
                        go_wp2_with fail
                        go_meet
                        exact ⟨by rw [E5.out]; exact T1.out.1, T1.out.2.1, by rw [E5.out]; exact T1.out.2.2⟩
                    case rest =>
                      have T2 : Aside (Gm wc base R a L C x2 vE ∧ Only R w wc ∧ x2.pos ≤ L) := hcut
                      clear hcut
                      obtain ⟨V2, hV2⟩ : ∃ V2, V2 = wc := ⟨_, rfl⟩
                      subst hV2
                      obtain ⟨tf, htf⟩ : ∃ tf, decide (x2.why = 0) = tf := ⟨_, rfl⟩
                      have Atf : Aside (decide (x2.why = 0) = tf) := htf
                      clear htf
                      go_upto_region 16 with fail
                      go_cut [65] (fun s wc => s = .bool tf ∧ wc = V2)
                      case first => as_aux_lemma =>
                        by_cases h0 : x2.why = 0
                        · have hop := AG.out.open_yes T2.out.1 h0
                          have : tf = true := by rw [← Atf.out]; simp [h0]
                          subst this
                          clear h0
                          go_wp2_with (go_at_call 25; refine hop.mono ?_; rintro e1 w1 ⟨rfl, rfl⟩)
                          go_meet
                          exact ⟨rfl, rfl⟩
                        · have hop := AG.out.open_no T2.out.1 h0
                          have : tf = false := by rw [← Atf.out]; simp [h0]
                          subst this
                          clear h0
                          go_wp2_with (go_at_call 25; refine hop.mono ?_; rintro e1 w1 ⟨rfl, rfl⟩)
                          go_meet
                          exact ⟨rfl, rfl⟩
                      case rest =>
                        obtain ⟨rfl, hwc⟩ := hcut
                        have hwc := hwc.symm
                        subst hwc
                        go_upto_if 65 with fail
                        cases tf with
                        | true =>
                          have hc : x2.why = 0 := of_decide_eq_true Atf.out
                          have hn := AG.out.num T2.out.1 T2.out.2.1 T2.out.2.2 n (by have := XX.out.1; omega)
                          have E5 : Aside (r7 = gnum b n x2) := by rw [← X7.out]; unfold hxt; rw [if_pos hc]; exact rfl
                          have hpp : Aside ((gnum b n x2).pos ≤ L) := by rw [← AG.out.len]; exact gnum_pos _ _ _ (by rw [AG.out.len]; exact T2.out.2.2)
                          clear hc
                          go_wp2_with (go_at_call 38; refine hn.mono ?_; rintro e8 w8 ⟨v8, rfl, _, g8, o8⟩)
                          go_meet
                          exact ⟨by rw [E5.out]; exact g8, o8, by rw [E5.out]; exact hpp.out⟩
                        | false =>
                          have hc : ¬ x2.why = 0 := of_decide_eq_false Atf.out
                          have E5 : Aside (r7 = x2) := by rw [← X7.out]; unfold hxt; rw [if_neg hc]; exact rfl
                          clear hc
                          go_wp2_with fail
                          go_meet
                          exact ⟨by rw [E5.out]; exact T2.out.1, T2.out.2.1, by rw [E5.out]; exact T2.out.2.2⟩
                | false =>
                  have hc : ¬ (r6.why = 0 ∧ fl / 4 % 2 = 1) := of_decide_eq_false Atd.out
                  have e5 : r7 = r6 := by rw [← H7.out]; unfold hext; rw [if_neg hc]
                  have E5 : Aside (r7 = r6) := e5
                  clear hc e5
                  go_wp2_with fail
                  go_meet
                  exact ⟨by rw [E5.out]; exact S6.out.1, S6.out.2.1, by rw [E5.out]; exact S6.out.2.2⟩
              case rest =>
                have S7 : Aside (Gm wc base R a L C r7 vE ∧ Only R w wc ∧ r7.pos ≤ L) := hcut
                clear hcut
                obtain ⟨W7, hW7⟩ : ∃ W7, W7 = wc := ⟨_, rfl⟩
                subst hW7
                obtain ⟨⟨r8, nm⟩, hr8⟩ : ∃ t, hnam b fl r7 = t := ⟨_, rfl⟩
                have H8 : Aside (hnam b fl r7 = (r8, nm)) := hr8
                clear hr8
                obtain ⟨tg, htg⟩ : ∃ tg, decide (r7.why = 0 ∧ fl / 8 % 2 = 1) = tg := ⟨_, rfl⟩
                have Atg : Aside (decide (r7.why = 0 ∧ fl / 8 % 2 = 1) = tg) := htg
                clear htg
                go_upto_region 19 with fail
                go_cut [76] (fun s wc => s = .bool tg ∧ wc = W7)
                case first => as_aux_lemma =>
                  by_cases h0 : r7.why = 0
                  · have hop := AG.out.open_yes S7.out.1 h0
                    by_cases h1 : fl / 8 % 2 = 1
                    · obtain ⟨q8, hq8⟩ : ∃ q8, fl / 8 = q8 := ⟨_, rfl⟩
                      obtain ⟨f8, hf8⟩ : ∃ f8, q8 % 2 = f8 := ⟨_, rfl⟩
                      have d1 : (fl : Int) / 8 = (q8 : Int) := by omega
                      have d2 : Int.tdiv (fl : Int) 8 = (q8 : Int) := by rw [Int.tdiv_eq_ediv_of_nonneg (by omega)]; exact d1
                      have d3 : (q8 : Int) % 2 = (f8 : Int) := by omega
                      have d4 : Int.tmod (q8 : Int) 2 = (f8 : Int) := by rw [Int.tmod_eq_emod_of_nonneg (by omega)]; exact d3
                      have b1 : (q8 : Int) < 300 := by omega
                      have b2 : (f8 : Int) < 3 := by omega
                      have d5 : ((f8 : Int) == 1) = true := by rw [beq_iff_eq]; omega
                      clear hq8 hf8
                      have : tg = true := by rw [← Atg.out]; simp [h0, h1]
                      subst this
                      clear h0 h1
                      go_wp2_with (go_at_call 25; refine hop.mono ?_; rintro e1 w1 ⟨rfl, rfl⟩)
                      go_meet
                      exact ⟨rfl, rfl⟩
                    · obtain ⟨q8, hq8⟩ : ∃ q8, fl / 8 = q8 := ⟨_, rfl⟩
                      obtain ⟨f8, hf8⟩ : ∃ f8, q8 % 2 = f8 := ⟨_, rfl⟩
                      have d1 : (fl : Int) / 8 = (q8 : Int) := by omega
                      have d2 : Int.tdiv (fl : Int) 8 = (q8 : Int) := by rw [Int.tdiv_eq_ediv_of_nonneg (by omega)]; exact d1
                      have d3 : (q8 : Int) % 2 = (f8 : Int) := by omega
                      have d4 : Int.tmod (q8 : Int) 2 = (f8 : Int) := by rw [Int.tmod_eq_emod_of_nonneg (by omega)]; exact d3
                      have b1 : (q8 : Int) < 300 := by omega
                      have b2 : (f8 : Int) < 3 := by omega
                      have d5 : ((f8 : Int) == 1) = false := by rw [beq_eq_false_iff_ne]; omega
                      clear hq8 hf8
                      have : tg = false := by rw [← Atg.out]; simp [h0, h1]
                      subst this
                      clear h0 h1
                      go_wp2_with (go_at_call 25; refine hop.mono ?_; rintro e1 w1 ⟨rfl, rfl⟩)
                      go_meet
                      exact ⟨rfl, rfl⟩
                  · have hop := AG.out.open_no S7.out.1 h0
                    have : tg = false := by rw [← Atg.out]; simp [h0]
                    subst this
                    clear h0
                    go_wp2_with (go_at_call 25; refine hop.mono ?_; rintro e1 w1 ⟨rfl, rfl⟩)
                    go_meet
                    exact ⟨rfl, rfl⟩
                case rest =>
                  obtain ⟨rfl, hwc⟩ := hcut
                  have hwc := hwc.symm
                  subst hwc
                  go_upto_if 76 with fail
                  go_cut [6] (fun s6 wc => s6 = .string (Go.Proofs.YtogednaamndpgaaGreatDoor.st nm) ∧ Aside (Gm wc base R a L C r8 vE ∧ Only R w wc ∧ r8.pos ≤ L))
                  case first => as_aux_lemma =>
                    cases tg with
                    | true =>
                      have hc : r7.why = 0 ∧ fl / 8 % 2 = 1 := of_decide_eq_true Atg.out
                      have ht := AG.out.text S7.out.1 S7.out.2.1 S7.out.2.2
                      have e5 : gtext b r7 = (r8, nm) := by rw [← H8.out]; unfold hnam; rw [if_pos hc]
                      rw [e5] at ht
                      have hpp : Aside (r8.pos ≤ L) := by
                        have := gtext_pos (b := b) (r := r7) (by rw [AG.out.len]; exact S7.out.2.2)
                        rw [e5, AG.out.len] at this
                        exact this
                      clear hc e5
                      go_wp2_with (go_at_call 57; refine ht.mono ?_; rintro e8 w8 ⟨rfl, g8, o8⟩)
                      go_meet
                      exact ⟨rfl, g8, o8, hpp.out⟩
                    | false =>
                      have hc : ¬ (r7.why = 0 ∧ fl / 8 % 2 = 1) := of_decide_eq_false Atg.out
                      have e5 : (r7, []) = (r8, nm) := by rw [← H8.out]; unfold hnam; rw [if_neg hc]
                      injection e5 with e6 e7
                      have E6 : Aside (r7 = r8 ∧ [] = nm) := ⟨e6, e7⟩
                      clear hc e6 e7
                      go_wp2_with fail
                      go_meet
                      exact ⟨by rw [← E6.out.2]; rfl, by rw [← E6.out.1]; exact S7.out.1, S7.out.2.1, by rw [← E6.out.1]; exact S7.out.2.2⟩
                  case rest =>
                    obtain ⟨rfl, hcut2⟩ := hcut
                    have S8 : Aside (Gm wc base R a L C r8 vE ∧ Only R w wc ∧ r8.pos ≤ L) := hcut2
                    clear hcut2
                    obtain ⟨W8, hW8⟩ : ∃ W8, W8 = wc := ⟨_, rfl⟩
                    subst hW8
                    obtain ⟨r9, hr9⟩ : ∃ r9, hcom b fl r8 = r9 := ⟨_, rfl⟩
                    have H9 : Aside (hcom b fl r8 = r9) := hr9
                    clear hr9
                    obtain ⟨th, hth⟩ : ∃ th, decide (r8.why = 0 ∧ fl / 16 % 2 = 1) = th := ⟨_, rfl⟩
                    have Ath : Aside (decide (r8.why = 0 ∧ fl / 16 % 2 = 1) = th) := hth
                    clear hth
                    go_upto_region 21 with fail
                    go_cut [86] (fun s wc => s = .bool th ∧ wc = W8)
                    case first => as_aux_lemma =>
                      by_cases h0 : r8.why = 0
                      · have hop := AG.out.open_yes S8.out.1 h0
                        by_cases h1 : fl / 16 % 2 = 1
                        · obtain ⟨q16, hq16⟩ : ∃ q16, fl / 16 = q16 := ⟨_, rfl⟩
                          obtain ⟨f16, hf16⟩ : ∃ f16, q16 % 2 = f16 := ⟨_, rfl⟩
                          have d1 : (fl : Int) / 16 = (q16 : Int) := by omega
                          have d2 : Int.tdiv (fl : Int) 16 = (q16 : Int) := by rw [Int.tdiv_eq_ediv_of_nonneg (by omega)]; exact d1
                          have d3 : (q16 : Int) % 2 = (f16 : Int) := by omega
                          have d4 : Int.tmod (q16 : Int) 2 = (f16 : Int) := by rw [Int.tmod_eq_emod_of_nonneg (by omega)]; exact d3
                          have b1 : (q16 : Int) < 300 := by omega
                          have b2 : (f16 : Int) < 3 := by omega
                          have d5 : ((f16 : Int) == 1) = true := by rw [beq_iff_eq]; omega
                          clear hq16 hf16
                          have : th = true := by rw [← Ath.out]; simp [h0, h1]
                          subst this
                          clear h0 h1
                          go_wp2_with (go_at_call 25; refine hop.mono ?_; rintro e1 w1 ⟨rfl, rfl⟩)
                          go_meet
                          exact ⟨rfl, rfl⟩
                        · obtain ⟨q16, hq16⟩ : ∃ q16, fl / 16 = q16 := ⟨_, rfl⟩
                          obtain ⟨f16, hf16⟩ : ∃ f16, q16 % 2 = f16 := ⟨_, rfl⟩
                          have d1 : (fl : Int) / 16 = (q16 : Int) := by omega
                          have d2 : Int.tdiv (fl : Int) 16 = (q16 : Int) := by rw [Int.tdiv_eq_ediv_of_nonneg (by omega)]; exact d1
                          have d3 : (q16 : Int) % 2 = (f16 : Int) := by omega
                          have d4 : Int.tmod (q16 : Int) 2 = (f16 : Int) := by rw [Int.tmod_eq_emod_of_nonneg (by omega)]; exact d3
                          have b1 : (q16 : Int) < 300 := by omega
                          have b2 : (f16 : Int) < 3 := by omega
                          have d5 : ((f16 : Int) == 1) = false := by rw [beq_eq_false_iff_ne]; omega
                          clear hq16 hf16
                          have : th = false := by rw [← Ath.out]; simp [h0, h1]
                          subst this
                          clear h0 h1
                          go_wp2_with (go_at_call 25; refine hop.mono ?_; rintro e1 w1 ⟨rfl, rfl⟩)
                          go_meet
                          exact ⟨rfl, rfl⟩
                      · have hop := AG.out.open_no S8.out.1 h0
                        have : th = false := by rw [← Ath.out]; simp [h0]
                        subst this
                        clear h0
                        go_wp2_with (go_at_call 25; refine hop.mono ?_; rintro e1 w1 ⟨rfl, rfl⟩)
                        go_meet
                        exact ⟨rfl, rfl⟩
                    case rest =>
                      obtain ⟨rfl, hwc⟩ := hcut
                      have hwc := hwc.symm
                      subst hwc
                      go_upto_if 86 with fail
                      go_cut [] (fun wc => Aside (Gm wc base R a L C r9 vE ∧ Only R w wc ∧ r9.pos ≤ L))
                      case first => as_aux_lemma =>
                        cases th with
                        | true =>
                          have hc : r8.why = 0 ∧ fl / 16 % 2 = 1 := of_decide_eq_true Ath.out
                          have ht := AG.out.text S8.out.1 S8.out.2.1 S8.out.2.2
                          have e5 : (gtext b r8).1 = r9 := by rw [← H9.out]; unfold hcom; rw [if_pos hc]
                          rw [e5] at ht
                          have hpp : Aside (r9.pos ≤ L) := by
                            have := gtext_pos (b := b) (r := r8) (by rw [AG.out.len]; exact S8.out.2.2)
                            rw [e5, AG.out.len] at this
                            exact this
                          clear hc e5
                          go_wp2_with (go_at_call 57; refine ht.mono ?_; rintro e8 w8 ⟨rfl, g8, o8⟩)
                          go_meet
                          exact ⟨g8, o8, hpp.out⟩
                        | false =>
                          have hc : ¬ (r8.why = 0 ∧ fl / 16 % 2 = 1) := of_decide_eq_false Ath.out
                          have e5 : r9 = r8 := by rw [← H9.out]; unfold hcom; rw [if_neg hc]
                          have E5 : Aside (r9 = r8) := e5
                          clear hc e5
                          go_wp2_with fail
                          go_meet
                          exact ⟨by rw [E5.out]; exact S8.out.1, S8.out.2.1, by rw [E5.out]; exact S8.out.2.2⟩
                      case rest =>
                        have S9 : Aside (Gm wc base R a L C r9 vE ∧ Only R w wc ∧ r9.pos ≤ L) := hcut
                        clear hcut
                        obtain ⟨W9, hW9⟩ : ∃ W9, W9 = wc := ⟨_, rfl⟩
                        subst hW9
                        have AM : Aside (r9.why = 0 → f ≤ r9.pos) := fun e => ghead_mono AF.out AH2.out H5.out H6.out H7.out H8.out H9.out e
                        obtain ⟨r10, hr10⟩ : ∃ r10, hsum b fl f r9 = r10 := ⟨_, rfl⟩
                        have H10 : Aside (hsum b fl f r9 = r10) := hr10
                        clear hr10
                        obtain ⟨ti, hti⟩ : ∃ ti, decide (r9.why = 0 ∧ fl / 2 % 2 = 1) = ti := ⟨_, rfl⟩
                        have Ati : Aside (decide (r9.why = 0 ∧ fl / 2 % 2 = 1) = ti) := hti
                        clear hti
                        go_upto_region 23 with fail
                        go_cut [96] (fun s wc => s = .bool ti ∧ wc = W9)
                        case first => as_aux_lemma =>
                          by_cases h0 : r9.why = 0
                          · have hop := AG.out.open_yes S9.out.1 h0
                            by_cases h1 : fl / 2 % 2 = 1
                            · obtain ⟨q2, hq2⟩ : ∃ q2, fl / 2 = q2 := ⟨_, rfl⟩
                              obtain ⟨f2, hf2⟩ : ∃ f2, q2 % 2 = f2 := ⟨_, rfl⟩
                              have d1 : (fl : Int) / 2 = (q2 : Int) := by omega
                              have d2 : Int.tdiv (fl : Int) 2 = (q2 : Int) := by rw [Int.tdiv_eq_ediv_of_nonneg (by omega)]; exact d1
                              have d3 : (q2 : Int) % 2 = (f2 : Int) := by omega
                              have d4 : Int.tmod (q2 : Int) 2 = (f2 : Int) := by rw [Int.tmod_eq_emod_of_nonneg (by omega)]; exact d3
                              have b1 : (q2 : Int) < 300 := by omega
                              have b2 : (f2 : Int) < 3 := by omega
                              have d5 : ((f2 : Int) == 1) = true := by rw [beq_iff_eq]; omega
                              clear hq2 hf2
                              have : ti = true := by rw [← Ati.out]; simp [h0, h1]
                              subst this
                              clear h0 h1
                              go_wp2_with (go_at_call 25; refine hop.mono ?_; rintro e1 w1 ⟨rfl, rfl⟩)
                              go_meet
                              exact ⟨rfl, rfl⟩
                            · obtain ⟨q2, hq2⟩ : ∃ q2, fl / 2 = q2 := ⟨_, rfl⟩
                              obtain ⟨f2, hf2⟩ : ∃ f2, q2 % 2 = f2 := ⟨_, rfl⟩
                              have d1 : (fl : Int) / 2 = (q2 : Int) := by omega
                              have d2 : Int.tdiv (fl : Int) 2 = (q2 : Int) := by rw [Int.tdiv_eq_ediv_of_nonneg (by omega)]; exact d1
                              have d3 : (q2 : Int) % 2 = (f2 : Int) := by omega
                              have d4 : Int.tmod (q2 : Int) 2 = (f2 : Int) := by rw [Int.tmod_eq_emod_of_nonneg (by omega)]; exact d3
                              have b1 : (q2 : Int) < 300 := by omega
                              have b2 : (f2 : Int) < 3 := by omega
                              have d5 : ((f2 : Int) == 1) = false := by rw [beq_eq_false_iff_ne]; omega
                              clear hq2 hf2
                              have : ti = false := by rw [← Ati.out]; simp [h0, h1]
                              subst this
                              clear h0 h1
                              go_wp2_with (go_at_call 25; refine hop.mono ?_; rintro e1 w1 ⟨rfl, rfl⟩)
                              go_meet
                              exact ⟨rfl, rfl⟩
                          · have hop := AG.out.open_no S9.out.1 h0
                            have : ti = false := by rw [← Ati.out]; simp [h0]
                            subst this
                            clear h0
                            go_wp2_with (go_at_call 25; refine hop.mono ?_; rintro e1 w1 ⟨rfl, rfl⟩)
                            go_meet
                            exact ⟨rfl, rfl⟩
                        case rest =>
                          obtain ⟨rfl, hwc⟩ := hcut
                          have hwc := hwc.symm
                          subst hwc
                          go_upto_if 96 with fail
                          go_cut [7, 8] (fun s7 s8 wc => Aside (Gm wc base R a L C r10 vE ∧ Only R w wc ∧ r10.pos ≤ L))
                          case first => as_aux_lemma =>
                            cases ti with
                            | true =>
                              have hc : r9.why = 0 ∧ fl / 2 % 2 = 1 := of_decide_eq_true Ati.out
                              obtain ⟨p9, hp9⟩ : ∃ p9, r9.pos = p9 := ⟨_, rfl⟩
                              have hfp : f ≤ p9 := by rw [← hp9]; exact AM.out hc.1
                              obtain ⟨a2, hsl, hli, _⟩ := cut_of a b L C f p9 AG.out.len AG.out.cap hfp (by rw [← hp9]; exact S9.out.2.2) AG.out.nil w AG.out.lies
                              have hsg : ((b.take p9).drop f).length = p9 - f := by
                                have h1 : p9 ≤ L := by rw [← hp9]; exact S9.out.2.2
                                rw [List.length_drop, List.length_take, AG.out.len]; omega
                              obtain ⟨X, hX⟩ : ∃ X, p9 - f = X := ⟨_, rfl⟩
                              obtain ⟨cx, hcx⟩ : ∃ cx, C - f = cx := ⟨_, rfl⟩
                              rw [hX] at hsl hsg
                              rw [hcx] at hsl
                              obtain ⟨s, hs⟩ : ∃ s, sm 0 ((b.take p9).drop f) = s := ⟨_, rfl⟩
                              have hso : Oct ((b.take p9).drop f) := (AG.out.oct.take p9).drop f
                              have hsl32 : s < 4294967296 := by rw [← hs]; exact hso.sm_lt
                              have AC : Aside (∀ n, Calls Tryz.prog 33 #[.slice a2 X cx] (W9.drewN n) fun e w' => e = .returned (.int .u32 (s : Int)) ∧ w' = W9.drewN n) := fun n => by
                                have := rsum_c a2 ((b.take p9).drop f) cx (W9.drewN n) hso (by have := AG.out.big; have h1 : p9 ≤ L := (by rw [← hp9]; exact S9.out.2.2); omega) (hli _ (AG.out.at (S9.out.2.1.drewN n)))
                                rw [hsg, hs] at this
                                exact this.mono fun e w' k => ⟨k.1, k.2.symm⟩
                              have c3 := S9.out.1.c3
                              have c4 := S9.out.1.c4
                              rw [hp9] at c4
                              have hn := fun n => AG.out.num (S9.out.1.drewN n) (S9.out.2.1.drewN n) S9.out.2.2 2 (by decide)
                              obtain ⟨x, hxx⟩ : ∃ x, gval b 2 r9 = x := ⟨_, rfl⟩
                              obtain ⟨y1, hy1⟩ : ∃ y1, gnum b 2 r9 = y1 := ⟨_, rfl⟩
                              have hxb' : x < 65536 := by rw [← hxx]; exact gval_two AG.out.oct
                              have AN : Aside (∀ n, Calls Tryz.prog 38 #[.pointer (some ⟨R, 0, none⟩), .int .i64 2] (W9.drewN n) fun e w' => e = .returned (.int .i64 (x : Int)) ∧ Gm w' base R a L C y1 vE ∧ Only R w w') := fun n => (hn n).mono fun e w' k => by
                                obtain ⟨v, k1, k2, k3, k4⟩ := k
                                have := k2.out (by decide)
                                rw [hxx] at this
                                rw [this] at k1
                                rw [hy1] at k3
                                exact ⟨k1, k3, k4⟩
                              obtain ⟨s1, hs1⟩ : ∃ s1, s % 65536 = s1 := ⟨_, rfl⟩
                              have X10 : Aside (hsb x s y1 = r10 ∧ s % 65536 = s1) := ⟨by rw [← H10.out]; unfold hsum; rw [if_pos hc, hxx, hy1, hp9, hs], hs1⟩
                              have m1 : (s : Int) % 65536 = (s1 : Int) := by omega
                              have m2 : Int.tmod (s : Int) 65536 = (s1 : Int) := by rw [Int.tmod_eq_emod_of_nonneg (by omega)]; exact m1
                              have bx : (x : Int) < 65536 := by omega
                              have bs1 : (s1 : Int) < 65536 := by omega
                              have bs : (s : Int) < 4294967296 := by omega
                              have XX : Aside (y1.pos ≤ L ∧ (y1.why = 0 → 1 ≤ y1.pos)) := ⟨by rw [← hy1, ← AG.out.len]; exact gnum_pos _ _ _ (by rw [AG.out.len]; exact S9.out.2.2), fun e => by rw [← hy1] at e ⊢; exact gnum_two hc.1 e⟩
                              clear hc hp9 hfp hli hsg hX hcx hs hso hsl32 hn hxx hy1 hxb' hs1
                              go_upto_region 24 with fail
                              go_quiet ((go_at_call 33; refine Calls.quiet_of_same (AC.out _)))
                              have hn' := AN.out nq
                              clear c3 c4 hsl
                              go_upto_region 26 with (go_at_call 38; refine hn'.mono ?_; rintro e9 w9 ⟨rfl, g9, o9⟩)
                              have T1 : Aside (Gm w9 base R a L C y1 vE ∧ Only R w w9 ∧ y1.pos ≤ L) := ⟨g9, o9, XX.out.1⟩
                              clear hn' g9 o9
                              obtain ⟨tj, htj⟩ : ∃ tj, decide (y1.why = 0 ∧ x ≠ s1) = tj := ⟨_, rfl⟩
                              have Atj : Aside (decide (y1.why = 0 ∧ x ≠ s1) = tj) := htj
                              clear htj
                              go_upto_region 26 with fail
                              go_cut [118] (fun s wc => s = .bool tj ∧ wc = w9)
                              case first => as_aux_lemma =>
                                by_cases h0 : y1.why = 0
                                · have hop := AG.out.open_yes T1.out.1 h0
                                  by_cases h1 : x ≠ s1
                                  · have t1 : ((x : Int) != (s1 : Int)) = true := by rw [bne_iff_ne]; omega
                                    have : tj = true := by rw [← Atj.out]; simp [h0, h1]
                                    subst this
                                    clear h0 h1
                                    go_wp2_with (go_at_call 25; refine hop.mono ?_; rintro e1 w1 ⟨rfl, rfl⟩)
                                    go_meet
                                    exact ⟨rfl, rfl⟩
                                  · have t1 : ((x : Int) != (s1 : Int)) = false := by rw [bne_eq_false_iff_eq]; omega
                                    have : tj = false := by rw [← Atj.out]; simp [h0, h1]
                                    subst this
                                    clear h0 h1
                                    go_wp2_with (go_at_call 25; refine hop.mono ?_; rintro e1 w1 ⟨rfl, rfl⟩)
                                    go_meet
                                    exact ⟨rfl, rfl⟩
                                · have hop := AG.out.open_no T1.out.1 h0
                                  have : tj = false := by rw [← Atj.out]; simp [h0]
                                  subst this
                                  clear h0
                                  go_wp2_with (go_at_call 25; refine hop.mono ?_; rintro e1 w1 ⟨rfl, rfl⟩)
                                  go_meet
                                  exact ⟨rfl, rfl⟩
                              case rest =>
                                obtain ⟨rfl, hwc⟩ := hcut
                                have hwc := hwc.symm
                                subst hwc
                                go_upto_if 118 with fail
                                cases tj with
                                | true =>
                                  have hc : y1.why = 0 ∧ x ≠ s1 := of_decide_eq_true Atj.out
                                  obtain ⟨p1, hp1⟩ : ∃ p1, y1.pos = p1 := ⟨_, rfl⟩
                                  obtain ⟨q1, hq1⟩ : ∃ q1, p1 - 1 = q1 := ⟨_, rfl⟩
                                  have hp0 : 1 ≤ p1 := by rw [← hp1]; exact XX.out.2 hc.1
                                  have hpL : p1 ≤ L := by rw [← hp1]; exact T1.out.2.2
                                  have bL := AG.out.big
                                  have w1' : (p1 : Int) - 1 = (q1 : Int) := by omega
                                  have bq : (q1 : Int) < 300000000000 := by omega
                                  have c4 := T1.out.1.c4
                                  rw [hp1] at c4
                                  have hs := AG.out.stop T1.out.1 T1.out.2.1 43 q1
                                  have e5 : r10 = gstop 43 q1 y1 := by rw [← X10.out.1]; unfold hsb; rw [X10.out.2, if_pos hc, hp1, hq1]
                                  have E5 : Aside (r10 = gstop 43 q1 y1 ∧ p1 ≤ L ∧ y1.pos = p1) := ⟨e5, hpL, hp1⟩
                                  clear hc hp1 hq1 hp0 hpL bL e5
                                  go_wp2_with (go_at_call 26; refine hs.mono ?_; rintro e6 w6 ⟨rfl, g6, o6⟩)
                                  go_meet
                                  exact ⟨by rw [E5.out.1]; exact g6, o6, by rw [E5.out.1]; exact T1.out.2.2⟩
                                | false =>
                                  have hc : ¬ (y1.why = 0 ∧ x ≠ s1) := of_decide_eq_false Atj.out
                                  have e5 : r10 = y1 := by rw [← X10.out.1]; unfold hsb; rw [X10.out.2, if_neg hc]
                                  have E5 : Aside (r10 = y1) := e5
                                  clear hc e5
                                  go_wp2_with fail
                                  go_meet
                                  exact ⟨by rw [E5.out]; exact T1.out.1, T1.out.2.1, by rw [E5.out]; exact T1.out.2.2⟩
                            | false =>
                              have hc : ¬ (r9.why = 0 ∧ fl / 2 % 2 = 1) := of_decide_eq_false Ati.out
                              have e5 : r10 = r9 := by rw [← H10.out]; unfold hsum; rw [if_neg hc]
                              have E5 : Aside (r10 = r9) := e5
                              clear hc e5
                              go_wp2_with fail
                              go_meet
                              exact ⟨by rw [E5.out]; exact S9.out.1, S9.out.2.1, by rw [E5.out]; exact S9.out.2.2⟩
                          case rest =>
                            have S10 : Aside (Gm wc base R a L C r10 vE ∧ Only R w wc ∧ r10.pos ≤ L) := hcut
                            clear hcut
                            have er : ghead b r = (r10, nm) := by
                              rw [AE.out.1]
                              unfold hres
                              rw [H5.out, H6.out, H7.out, H8.out, H9.out, H10.out]
                            have AR : Aside (ghead b r = (r10, nm)) := er
                            clear er
                            go_wp2_with fail
                            first | go_ret | go_ret2
                            rw [AR.out]
                            exact ⟨rfl, S10.out.1, S10.out.2.1⟩
  · have hop := AG.out.open_no S3.out.1 h0
    have e0 : ghead b r = (r3, []) := by unfold ghead; rw [AH.out, if_neg h0]
    have AE : Aside (ghead b r = (r3, [])) := e0
    clear e0 h0
    go_wp2_with (go_at_call 25; refine hop.mono ?_; rintro e4 w4 ⟨rfl, rfl⟩)
    first | go_ret | go_ret2
    rw [AE.out]
    exact ⟨rfl, S3.out.1, S3.out.2.1⟩
end Go.Proofs.YtogednaamndpgaaGreatDoor

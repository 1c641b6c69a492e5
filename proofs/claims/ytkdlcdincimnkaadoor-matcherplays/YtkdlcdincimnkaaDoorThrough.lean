/-
  All hits of a text: what goThrough and All come to.
  Conditions: the machine is whole; the hits that are taken have room.
-/
import Derived.Test.YtkdlcdincimnkaaDoorTake
namespace Go.Proofs.YtkdlcdincimnkaaDoor
open Go.RowKit
set_option linter.unusedVariables false
/-- The hits behind one byte: the text up to it. -/
def hitsAt (ps : List (List Nat)) (u : List Nat) : List (Nat × Nat) := (endsOf ps u).map fun k => (k, u.length)
/-- The hits of a text's first n bytes. -/
def hitsTo (ps : List (List Nat)) (t : List Nat) : Nat → List (Nat × Nat)
  | 0 => []
  | n + 1 => hitsTo ps t n ++ hitsAt ps (t.take (n + 1))
def hitsOf (ps : List (List Nat)) (t : List Nat) : List (Nat × Nat) := hitsTo ps t t.length
theorem hitsTo_mono (ps : List (List Nat)) (t : List Nat) {m n : Nat} (h : m ≤ n) : ∃ r, hitsTo ps t n = hitsTo ps t m ++ r := by
  induction n with
  | zero => exact ⟨[], by rw [show m = 0 by omega]; simp⟩
  | succ n ih =>
    by_cases e : m = n + 1
    · exact ⟨[], by rw [e]; simp⟩
    · obtain ⟨r, hr⟩ := ih (by omega)
      exact ⟨r ++ hitsAt ps (t.take (n + 1)), by rw [hitsTo, hr, List.append_assoc]⟩
theorem endsOf_len (ps : List (List Nat)) (u : List Nat) : (endsOf ps u).length ≤ ps.length := by
  have := List.length_filter_le (endsB ps u) (List.range ps.length)
  simpa [endsOf] using this
theorem hitsTo_len (ps : List (List Nat)) (t : List Nat) : ∀ n, (hitsTo ps t n).length ≤ n * ps.length
  | 0 => by simp [hitsTo]
  | n + 1 => by
    have h1 := hitsTo_len ps t n
    have h2 := endsOf_len ps (t.take (n + 1))
    rw [hitsTo, List.length_append, hitsAt, List.length_map, Nat.succ_mul]
    omega
theorem hits_cut {ps : List (List Nat)} {t E : List Nat} {i k q : Nat} (hi : i < t.length) (hE : endsOf ps (t.take (i + 1)) = E) (hq : E[k]? = some q) : ∃ r, hitsOf ps t = (hitsTo ps t i ++ (E.take k).map fun x => (x, i + 1)) ++ (q, i + 1) :: r := by
  obtain ⟨r, hr⟩ := hitsTo_mono ps t (show i + 1 ≤ t.length by omega)
  have hl : (t.take (i + 1)).length = i + 1 := by rw [List.length_take]; omega
  have hk : k < E.length := at_lt hq
  have hs : E = E.take k ++ q :: E.drop (k + 1) := by
    rw [← drop_more hq, List.take_append_drop]
  have ha : hitsAt ps (t.take (i + 1)) = (E.take k).map (fun x => (x, i + 1)) ++ (q, i + 1) :: (E.drop (k + 1)).map fun x => (x, i + 1) := by
    unfold hitsAt
    rw [hE, hl]
    conv => lhs; rw [hs]
    rw [List.map_append, List.map_cons]
  refine ⟨(E.drop (k + 1)).map (fun x => (x, i + 1)) ++ r, ?_⟩
  unfold hitsOf
  rw [hr, hitsTo, ha]
  simp [List.append_assoc]
theorem hitsTo_all {ps : List (List Nat)} {t E : List Nat} {i : Nat} (hi : i < t.length) (hE : endsOf ps (t.take (i + 1)) = E) : hitsTo ps t i ++ (E.take E.length).map (fun x => (x, i + 1)) = hitsTo ps t (i + 1) := by
  have hl : (t.take (i + 1)).length = i + 1 := by rw [List.length_take]; omega
  rw [List.take_length, hitsTo, hitsAt, hE, hl]
theorem take_step {E : List Nat} {k q : Nat} (hq : E[k]? = some q) (l : List (Nat × Nat)) (j : Nat) : (l ++ (E.take k).map fun x => (x, j)) ++ [(q, j)] = l ++ (E.take (k + 1)).map fun x => (x, j) := by
  rw [take_snoc hq, List.map_append, List.append_assoc]; rfl
theorem Bag.but {w w' : World} {base hb mb M : Nat} {v : Value} {l : List (Nat × Nat)} {most : Int} (h : Bag w base hb mb v l most) (k : But M w w') (hM : M < base) (h1 : hb ≠ M) (h2 : mb ≠ M) : Bag w' base hb mb v l most := by
  refine ⟨k.cells h.box h1, k.cells h.cap h2, ?_, h.hbl, h.mbl, Nat.le_trans h.le k.size, h.ne⟩
  rcases h.own.2 with ⟨hv, h0⟩ | ⟨g, c, cur, hv, hg, hh, r⟩
  · exact ⟨h.own.1, Or.inl ⟨hv, h0⟩⟩
  · exact ⟨h.own.1, Or.inr ⟨g, c, cur, hv, hg, (k.block g (Array.getElem?_eq_some_iff.1 hh).1 (by omega)).trans hh, r⟩⟩
theorem Bag.below {w w' : World} {base hb mb : Nat} {v : Value} {l : List (Nat × Nat)} {most : Int} (h : Bag w base hb mb v l most) (k : Below w.heap.size w w') : Bag w' base hb mb v l most := by
  have l1 := h.box.lt
  have l2 := h.cap.lt
  refine ⟨h.box.below k l1, h.cap.below k l2, ?_, h.hbl, h.mbl, Nat.le_trans h.le k.size, h.ne⟩
  rcases h.own.2 with ⟨hv, h0⟩ | ⟨g, c, cur, hv, hg, hh, r⟩
  · exact ⟨h.own.1, Or.inl ⟨hv, h0⟩⟩
  · exact ⟨h.own.1, Or.inr ⟨g, c, cur, hv, hg, (k.block g (Array.getElem?_eq_some_iff.1 hh).1).trans hh, r⟩⟩
theorem Mt.took {w w' : World} {base hb mb M s p A : Nat} {v : Value} {l : List (Nat × Nat)} {most : Int} (h : Mt w M s p A) (k : Took hb v w w') (hB : Bag w base hb mb v l most) (hM : M < base) (h1 : M ≠ hb) : Mt w' M s p A := by
  unfold Mt Cells at *
  rw [k.low hB hM h1]; exact h
/-- The outs of a step, as they lie. -/
def OutAt (w : World) (oa : Option Addr) (E : List Nat) : Prop := E = [] ∨ ∃ ob cur, oa = some ⟨ob, 0, none⟩ ∧ Cells w ob cur 3 ∧ ∀ (k x : Nat), E[k]? = some x → cur[k]? = some (.int .i64 (x : Int))
theorem Own.outAt {w w' : World} {base : Nat} {v : Value} {l : List Nat} (h : Own w w' base v l) : ∃ a c, v = .slice a l.length c ∧ OutAt w' a l ∧ l.length ≤ c := by
  rcases h.own.2 with ⟨hv, h0⟩ | ⟨g, c, cur, hv, hg, hh, hc, hm, hs, ht⟩
  · exact ⟨none, 0, by rw [hv, h0], Or.inl (List.eq_nil_of_length_eq_zero h0), by omega⟩
  · refine ⟨_, c, hv, Or.inr ⟨g, cur, rfl, hh, fun i x hx => ?_⟩, hc⟩
    have hi : i < l.length := (List.getElem?_eq_some_iff.1 hx).1
    have e : (cur.toList.take (l.length * 1))[i]? = some (.int .i64 (x : Int)) := by rw [ht, vi_get, hx]; rfl
    rw [List.getElem?_take, if_pos (by omega)] at e
    simpa using e
theorem OutAt.took {w w' : World} {base hb mb : Nat} {v : Value} {l : List (Nat × Nat)} {most : Int} {oa : Option Addr} {E : List Nat} (h : OutAt w oa E) (k : Took hb v w w') (hB : Bag w base hb mb v l most) : OutAt w' oa E := by
  rcases h with h | ⟨ob, cur, ha, hc, hx⟩
  · exact Or.inl h
  · refine Or.inr ⟨ob, cur, ha, k.keep hB hc (by decide) (fun e => ?_), hx⟩
    have := hB.box
    unfold Cells at *
    rw [e, this] at hc
    cases hc
theorem OutAt.below {w w' : World} {oa : Option Addr} {E : List Nat} (h : OutAt w oa E) (k : Below w.heap.size w w') : OutAt w' oa E := by
  rcases h with h | ⟨ob, cur, ha, hc, hx⟩
  · exact Or.inl h
  · exact Or.inr ⟨ob, cur, ha, hc.below k hc.lt, hx⟩
/-- What goes through the loops: the matcher behind n bytes, the hits so far, what lies below. -/
structure Run (w0 w : World) (M A bs hb mb : Nat) (most : Int) (ps : List (List Nat)) (u : List Nat) (n : Nat) (l : List (Nat × Nat)) : Prop where
  mt : ∃ s, Mt w M s n A ∧ (words ps)[s]? = some (lsf (words ps) u)
  bag : ∃ v, Bag w bs hb mb v l most
  few : l.length ≤ most.toNat
  bel : Below w0.heap.size w0 w
set_option maxRecDepth 100000 in
set_option maxHeartbeats 4000000 in
theorem through_c {base A pn lg : Nat} {nd : List Nd} {G : Nat → Nat → Option Nat} {ps : List (List Nat)} (w0 w : World) (hm : Mach w0 base A pn lg nd G) (hf : Full ps nd G) (hg : Good ps) (hT : Tab w0) (hb : Below w0.heap.size w0 w) (M : Nat) (hM : w0.heap.size ≤ M) (hc : Mt w M 0 0 A)
    (bs hb' mb : Nat) (most : Int) (hB : Bag w bs hb' mb (.slice none 0 0) [] most) (hM2 : M < bs) (hhb : w0.heap.size ≤ hb') (hne : hb' ≠ M) (hne2 : mb ≠ M)
    (ta : Option Addr) (t : List Nat) (TL TC : Nat) (ht : Lies w0 ta t) (hTL : t.length = TL) (hTb : TL < 140737488355328) (hto : Oct t)
    (hsz : ∀ n, n ≤ (hitsOf ps t).length → (n : Int) ≤ most → n * 40 ≤ 140737488355328) :
    Calls Tryd.prog 38 #[.pointer (some ⟨M, 0, none⟩), .slice ta TL TC, .func (.func 37) #[] #[.pointer (some ⟨hb', 0, none⟩), .pointer (some ⟨mb, 0, none⟩)]] w fun e w' => e = .returned (.bool (decide ((hitsOf ps t).length ≤ most.toNat))) ∧ (∃ v, Bag w' bs hb' mb v ((hitsOf ps t).take most.toNat) most) ∧ Below w0.heap.size w0 w' := by
  have AM : Aside (Mach w0 base A pn lg nd G ∧ Full ps nd G ∧ Good ps ∧ Tab w0 ∧ w0.heap.size ≤ M ∧ M < bs ∧ w0.heap.size ≤ hb' ∧ hb' ≠ M ∧ mb ≠ M) := ⟨hm, hf, hg, hT, hM, hM2, hhb, hne, hne2⟩
  have AT : Aside (Lies w0 ta t ∧ t.length = TL ∧ TL < 140737488355328 ∧ Oct t ∧ ∀ n, n ≤ (hitsOf ps t).length → (n : Int) ≤ most → n * 40 ≤ 140737488355328) := ⟨ht, hTL, hTb, hto, hsz⟩
  have R0 : Aside (Run w0 w M A bs hb' mb most ps (t.take 0) 0 (hitsTo ps t 0)) := ⟨⟨0, hc, by simpa [lsf] using hf.laid.tri.zero⟩, ⟨_, hB⟩, by simp [hitsTo], hb⟩
  clear hm hf hg hT hb hM hc hB hM2 hhb hne hne2 ht hTL hTb hto hsz
  go_enter Tryd.func38, Tryd.ntmps38
  go_wp2_with fail
  go_loopg [13] TL (fun g si wr => ∃ i : Nat, si = .int .i64 i ∧ Aside (i + g = TL ∧ Run w0 wr M A bs hb' mb most ps (t.take i) i (hitsTo ps t i)))
  case atStart => exact ⟨0, rfl, ⟨by omega, R0.out⟩⟩
  case round =>
    clear R0
    obtain ⟨i, rfl, hA⟩ := hrel
    by_cases hiL : i < TL
    · have hi : (i : Int) < (TL : Int) := by omega
      have hil : i < t.length := by have := AT.out; omega
      obtain ⟨x, hx⟩ : ∃ x, t[i]? = some x := ⟨_, List.getElem?_eq_getElem hil⟩
      have hx256 : x < 256 := AT.out.2.2.2.1 x (List.mem_of_getElem? hx)
      have htk : t.take (i + 1) = t.take i ++ [x] := take_snoc hx
      obtain ⟨⟨s, hmt, hws⟩, ⟨v, hbag⟩, hfew, hbel⟩ := hA.out.2
      have hstep := step_c w0 wr AM.out.1 AM.out.2.1 AM.out.2.2.1 AM.out.2.2.2.1 hbel M s x i _ AM.out.2.2.2.2.1 hmt hws hx256 (by have := AT.out; omega)
      rw [lsf_snoc AM.out.2.1.laid.tri, ← htk, endsOf_text words_sub, show min (i + 1) 4611686018427387904 = i + 1 by have := AT.out; omega] at hstep
      obtain ⟨E, hE⟩ : ∃ E, endsOf ps (t.take (i + 1)) = E := ⟨_, rfl⟩
      rw [hE] at hstep
      have AX : Aside (i < TL ∧ t[i]? = some x ∧ endsOf ps (t.take (i + 1)) = E ∧ i < t.length ∧ Bag wr bs hb' mb v (hitsTo ps t i) most ∧ (hitsTo ps t i).length ≤ most.toNat ∧ Below w0.heap.size w0 wr) := ⟨hiL, hx, hE, hil, hbag, hfew, hbel⟩
      have hli := AT.out.1.below hbel
      rcases hli with hli | ⟨tb0, to0, rfl, htc⟩
      · rw [hli] at hil; simp at hil
      have cx := htc i x hx
      clear hil hx hx256 htk hmt hws hbag hfew hbel htc hE hiL
      go_wp2_with (go_at_call 18; refine hstep.mono ?_; rintro e5 w5 ⟨v5, s5, rfl, hs5, hm5, hb5, ho5⟩; obtain ⟨oa, oc, rfl, hoa, hoc⟩ := ho5.outAt)
      obtain ⟨EL, hEL⟩ : ∃ EL, E.length = EL := ⟨_, rfl⟩
      obtain ⟨J, hJ⟩ : ∃ J, i + 1 = J := ⟨_, rfl⟩
      rw [hEL]
      rw [hJ] at hm5
      have R5 : Aside (Run w0 w5 M A bs hb' mb most ps (t.take (i + 1)) J (hitsTo ps t i ++ (E.take 0).map fun x => (x, J)) ∧ OutAt w5 oa E) := by
        refine ⟨⟨⟨s5, hm5, hs5⟩, ⟨v, ?_⟩, ?_, AX.out.2.2.2.2.2.2.trans (hb5.below AM.out.2.2.2.2.1 AX.out.2.2.2.2.2.2.size)⟩, hoa⟩
        · simpa using AX.out.2.2.2.2.1.but hb5 AM.out.2.2.2.2.2.1 AM.out.2.2.2.2.2.2.2.1 AM.out.2.2.2.2.2.2.2.2
        · simpa using AX.out.2.2.2.2.2.1
      have AJ : Aside (E.length = EL ∧ i + 1 = J ∧ EL ≤ oc) := ⟨hEL, hJ, by omega⟩
      clear hstep hs5 hm5 hb5 ho5 hoa hoc hEL hJ cx
      go_loopg [21] EL (fun g sk wr => ∃ k : Nat, sk = .int .i64 k ∧ Aside (k + g = EL ∧ Run w0 wr M A bs hb' mb most ps (t.take (i + 1)) J (hitsTo ps t i ++ (E.take k).map fun x => (x, J)) ∧ OutAt wr oa E))
      case atStart => exact ⟨0, rfl, ⟨by omega, R5.out⟩⟩
      case round =>
        clear R5
        obtain ⟨k, rfl, hK⟩ := hrel
        by_cases hkE : k < EL
        · have hk : (k : Int) < (EL : Int) := by omega
          have hkl : k < E.length := by have := AJ.out; omega
          obtain ⟨q, hq⟩ : ∃ q, E[k]? = some q := ⟨_, List.getElem?_eq_getElem hkl⟩
          obtain ⟨⟨s, hmt, hws⟩, ⟨v', hbag⟩, hfew, hbel⟩ := hK.out.2.1
          have ho := hK.out.2.2
          rcases ho with ho | ⟨ob, cur, rfl, hcur, hcx⟩
          · rw [ho] at hkl; simp at hkl
          have cq : wr.cell? ⟨ob, k, none⟩ = some (.int .i64 (q : Int)) := (hcur.cell k).trans (hcx k q hq)
          have cp := hmt.cells.2.1
          obtain ⟨l, hl⟩ : ∃ l, hitsTo ps t i ++ (E.take k).map (fun x => (x, J)) = l := ⟨_, rfl⟩
          rw [hl] at hbag hfew
          obtain ⟨r, hr⟩ := hits_cut AX.out.2.2.2.1 AX.out.2.2.1 hq
          rw [AJ.out.2.1, hl] at hr
          have hJb : J < 4611686018427387904 := by have := AJ.out; have := AX.out; have := AT.out; omega
          have hk64 : (k : Int) < 64 := by have h1 := endsOf_len ps (t.take (i + 1)); rw [AX.out.2.2.1] at h1; have := AM.out.2.2.1.few; omega
          by_cases hlm : (l.length : Int) < most
          · have htake := take_yes bs hb' mb v' l most q J wr hbag hlm (AT.out.2.2.2.2 (l.length + 1) (by rw [hr]; simp) (by omega))
            have AK : Aside (k < EL ∧ E[k]? = some q ∧ Mt wr M s J A ∧ (words ps)[s]? = some (lsf (words ps) (t.take (i + 1))) ∧ Bag wr bs hb' mb v' l most ∧ l.length < most.toNat ∧ Below w0.heap.size w0 wr ∧ OutAt wr (some ⟨ob, 0, none⟩) E ∧ hitsTo ps t i ++ (E.take k).map (fun x => (x, J)) = l) := ⟨hkE, hq, hmt, hws, hbag, by omega, hbel, hK.out.2.2, hl⟩
            clear hkl hq hmt hws hbag hfew hbel hcur hcx hl hr hlm hkE hJb
            go_wp2_with (go_at_call 37; refine htake.mono ?_; rintro e6 w6 ⟨rfl, v6, hb6, hk6⟩)
            have hkk := AK.out
            have hl2 : l ++ [(q, J)] = hitsTo ps t i ++ (E.take (k + 1)).map (fun x => (x, J)) := by rw [← hkk.2.2.2.2.2.2.2.2]; exact take_step hkk.2.1 _ _
            have hm2 := AM.out
            go_roundg (EL - (k + 1))
            case measure => have := hK.out.1; omega
            case rel =>
              refine ⟨k + 1, by go_num, ⟨by omega, ⟨⟨s, hkk.2.2.1.took hk6 hkk.2.2.2.2.1 hm2.2.2.2.2.2.1 (fun e => hm2.2.2.2.2.2.2.2.1 e.symm), hkk.2.2.2.1⟩, ⟨v6, by rw [← hl2]; exact hb6⟩, ?_, ?_⟩, hkk.2.2.2.2.2.2.2.1.took hk6 hkk.2.2.2.2.1⟩⟩
              · rw [← hl2, List.length_append]; exact hkk.2.2.2.2.2.1
              · exact hkk.2.2.2.2.2.2.1.trans (hk6.below hkk.2.2.2.2.1 hm2.2.2.2.2.2.2.1)
          · have htake := take_no bs hb' mb v' l most q J wr hbag (by omega)
            have AF : Aside ((hitsOf ps t).take most.toNat = l ∧ ¬ (hitsOf ps t).length ≤ most.toNat ∧ Bag wr bs hb' mb v' l most ∧ Below w0.heap.size w0 wr) := by
              have hlen : most.toNat = l.length := by omega
              refine ⟨by rw [hlen, hr, List.take_left], ?_, hbag, hbel⟩
              rw [hlen, hr, List.length_append, List.length_cons]; omega
            clear hkl hq hmt hws hbag hfew hbel hcur hcx hl hr hlm hkE hJb
            go_wp2_with (go_at_call 37; refine htake.mono ?_; rintro e6 w6 ⟨rfl, hb6⟩)
            go_ret
            obtain ⟨f1, f2, f3, f4⟩ := AF.out
            refine ⟨by rw [decide_eq_false f2]; rfl, ⟨v', by rw [f1]; exact f3.below hb6⟩, f4.trans (hb6.mono f4.size)⟩
        · have hk : ¬ (k : Int) < (EL : Int) := by omega
          have hkE2 : k = EL := by have := hK.out.1; omega
          have hib : (i : Int) + 1 < 9223372036854775808 := by have := AX.out; have := AT.out; omega
          clear hkE
          go_wp2_with fail
          have hR := hK.out.2.1
          rw [hkE2, ← AJ.out.1, ← AJ.out.2.1, hitsTo_all AX.out.2.2.2.1 AX.out.2.2.1] at hR
          have hx := AX.out
          go_roundg (TL - (i + 1))
          case measure => have := hA.out.1; omega
          case rel => exact ⟨i + 1, by go_num, ⟨by omega, hR⟩⟩
    · have hi : ¬ (i : Int) < (TL : Int) := by omega
      have hiE : i = TL := by have := hA.out.1; omega
      clear hiL
      go_wp2_with fail
      go_ret
      obtain ⟨_, ⟨v, hbag⟩, hfew, hbel⟩ := hA.out.2
      have e : hitsTo ps t i = hitsOf ps t := by unfold hitsOf; rw [hiE, AT.out.2.1]
      rw [e] at hbag hfew
      exact ⟨by rw [decide_eq_true hfew]; rfl, ⟨v, by rw [List.take_of_length_le hfew]; exact hbag⟩, hbel⟩
end Go.Proofs.YtkdlcdincimnkaaDoor

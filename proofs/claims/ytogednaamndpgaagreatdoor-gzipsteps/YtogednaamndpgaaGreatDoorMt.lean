/-
  Own texts of this seat, one behind the other: what each says stands ahead of it.
-/
import Derived.Test.YtogednaamndpgaaGreatDoorMs
import Derived.Deep.RegionHeld3
/-
  What the document's member comes to.
-/
namespace Go.Proofs.YtogednaamndpgaaGreatDoor
open Go.RowKit
set_option linter.unusedVariables false
theorem Gm.left_ {w : World} {base R L C : Nat} {a : Option Addr} {r : Gr} {vE : Value} (h : Gm w base R a L C r vE) (l2 : Nat) (hbR : base ≤ R) : Gm (w.setCell ⟨R, 5, none⟩ (.int .i64 (l2 : Int))).drew base R a L C { r with left := l2 } vE ∧ Fr base R w (w.setCell ⟨R, 5, none⟩ (.int .i64 (l2 : Int))).drew := by
  have o : Only R w (w.setCell ⟨R, 5, none⟩ (.int .i64 (l2 : Int))) := (Only.refl R w).setCell 5 _
  have o2 : Only R w (w.setCell ⟨R, 5, none⟩ (.int .i64 (l2 : Int))).drew := ⟨o.os, o.tape, o.output, o.size, o.block⟩
  exact ⟨h.only o2 (r' := { r with left := l2 }) rfl (Cells.drew (h.cells.set 5 _)), Fr.of_only o2 hbR⟩
theorem Gm.move_ {w : World} {base R L C : Nat} {a : Option Addr} {r : Gr} {vE : Value} (h : Gm w base R a L C r vE) (p2 : Nat) (hbR : base ≤ R) : Gm (w.setCell ⟨R, 4, none⟩ (.int .i64 (p2 : Int))).drew base R a L C { r with pos := p2 } vE ∧ Fr base R w (w.setCell ⟨R, 4, none⟩ (.int .i64 (p2 : Int))).drew := by
  have o : Only R w (w.setCell ⟨R, 4, none⟩ (.int .i64 (p2 : Int))) := (Only.refl R w).setCell 4 _
  have o2 : Only R w (w.setCell ⟨R, 4, none⟩ (.int .i64 (p2 : Int))).drew := ⟨o.os, o.tape, o.output, o.size, o.block⟩
  exact ⟨h.only o2 (r' := { r with pos := p2 }) rfl (Cells.drew (h.cells.set 4 _)), Fr.of_only o2 hbR⟩
/-- What member comes to. -/
structure Gmb (b : List Nat) (r : Gr) (base R : Nat) (a : Option Addr) (L C : Nat) (w : World) (e : Ending) (w' : World) : Prop where
  ex : ∃ z v', e = .returned (.tuple #[]) ∧ ((ghead b r).1.why = 0 → Stands (b.drop (ghead b r).1.pos) (ghead b r).1.left z) ∧ Gm w' base R a L C (gmemb b r z) v' ∧ Fr base R w w'
theorem wr_id (z : Int) (h0 : 0 ≤ z) (h1 : z < 9223372036854775808) : IntKind.i64.wrap z = z := by rw [IntKind.wrap_i64]; omega
theorem runs_tb {bs : List Bool} {M : Nat} {c d : Cfg} (h : Runs bs M c d) (hc : c.pos ≤ bs.length) (hb : ∀ t ∈ c.times, t ≤ bs.length) : ∀ t ∈ d.times, t ≤ bs.length := by
  induction h using Runs.el with
  | refl => exact hb
  | @cons c x e s1 r ih =>
    obtain ⟨q1, q2⟩ := step_ends s1 hc
    refine ih q1 ?_
    rcases q2 with ⟨_, q4⟩ | ⟨_, _, q4⟩
    · rw [q4]; exact hb
    · rw [q4]
      intro t ht
      rcases List.mem_append.1 ht with q | q
      · exact hb t q
      · rw [List.mem_singleton.1 q]; omega
theorem Stands.tb {I : List Nat} {M : Nat} {y : Cfg} (h : Stands I M y) : ∀ t ∈ y.times, t ≤ 8 * I.length := by
  have := runs_tb h.1 (Nat.zero_le _) (fun t ht => by cases ht)
  rwa [allb_len] at this
theorem at_le {I : List Nat} {M : Nat} {y : Cfg} (h : Stands I M y) : atC I.length y ≤ I.length := by
  have := h.pos
  unfold atC
  split
  · omega
  · omega
  · exact Nat.le_refl _
theorem gtells_at {p i x t : Nat} {z : Cfg} (hx : z.out[i]? = some x) (ht : z.times[i]? = some t) : (gtells p z).take (i + 1) = (gtells p z).take i ++ [(p + t, x, [])] := by
  have e : (gtells p z)[i]? = some (p + t, x, []) := by unfold gtells; rw [List.getElem?_zipWith, hx, ht]
  obtain ⟨hi, he⟩ := List.getElem?_eq_some_iff.1 e
  rw [List.take_succ_eq_append_getElem hi, he]
theorem gtells_len {p : Nat} {z : Cfg} (h : z.times.length = z.out.length) : (gtells p z).length = z.out.length := by unfold gtells; rw [List.length_zipWith]; omega
/-- While the bytes are told. -/
structure Mt (base R : Nat) (a : Option Addr) (L C : Nat) (r : Gr) (b2 Q : Nat) (a2 : Option Addr) (L2 C2 : Nat) (z : Cfg) (oa : Option Addr) (oc : Nat) (ta : Option Addr) (tc : Nat) (w wc : World) : Prop where
  ex : ∃ v, Gm wc base R a L C r v ∧ Fr base R w wc ∧ Rz wc b2 Q a2 L2 C2 z oa oc ta tc
theorem mt_of {base R L C b2 Q L2 C2 oc tc i x t p qq : Nat} {a a2 oa ta : Option Addr} {rh : Gr} {T1 : List Gev} {z : Cfg} {w wr w5 : World} {v5 : Value} (hfr : Fr base R w wr) (hz : Rz wr b2 Q a2 L2 C2 z oa oc ta tc) (hR : R < b2) (g5 : Gm w5 base R a L C { rh with ev := T1 ++ (gtells p z).take i ++ [(qq, x, [])] } v5) (f5 : Fr base R (wr.drewN 1) w5) (hx : z.out[i]? = some x) (ht : z.times[i]? = some t) (hq : p + t = qq) : Mt base R a L C { rh with ev := T1 ++ (gtells p z).take (i + 1) } b2 Q a2 L2 C2 z oa oc ta tc w w5 := by
  have f6 : Fr base R wr w5 := (Fr.drewN wr 1).trans f5
  refine ⟨v5, ?_, hfr.trans f6, hz.fr f6 hR⟩
  rw [gtells_at hx ht, hq, ← List.append_assoc]
  exact g5
theorem memb_open {b : List Nat} {r rh : Gr} {nm bd : List Nat} {base R L C p p1 lf n l2 y q L2 C2 W3 Q oc tc : Nat} {a a2 oa ta : Option Addr} {T1 : List Gev} {z : Cfg} {w wc w9 : World} {v : Value} (AR : (ghead b r).1 = rh ∧ (ghead b r).2 = nm ∧ rh.pos = p ∧ rh.left = lf ∧ rh.why = 0 ∧ 1 ≤ p ∧ p ≤ L ∧ lf ≤ 1048576 ∧ rh.ev.length + lf + 3 < 100000000000 ∧ base ≤ R ∧ Oct b ∧ b.length = L ∧ L ≤ 100000000000 ∧ Lies w a b) (AB : b.drop p = bd ∧ bd.length = L2 ∧ L - p = L2 ∧ C - p = C2 ∧ p - 1 = p1) (A4 : Rz wc W3 Q a2 L2 C2 z oa oc ta tc ∧ Stands bd lf z ∧ z.out.length = n ∧ n ≤ lf ∧ z.times.length = n ∧ Oct z.out ∧ R < W3 ∧ W3 ≤ Q ∧ rh.ev ++ [(p1, 256, nm)] = T1) (hl2 : lf - n = l2) (A9 : whyC z = y ∧ min (p + atC L2 z) L = q ∧ endC z = false) (g : Gm w9 base R a L C (gstop y q { rh with ev := T1 ++ gtells p z, left := l2 }) v) (f : Fr base R w w9) : Gmb b r base R a L C w (.returned (.tuple #[])) w9 := by
  obtain ⟨c1, c2, c3, c4, c5, _, _, _, _, _, _, c12, _⟩ := AR
  obtain ⟨d1, _, d3, _, d5⟩ := AB
  obtain ⟨_, f2, f3, _, _, _, _, _, f9⟩ := A4
  obtain ⟨k1, k2, k3⟩ := A9
  refine ⟨z, v, rfl, fun _ => by rw [c1, c3, c4, d1]; exact f2, ?_, f⟩
  have e : gmemb b r z = gstop y q { rh with ev := T1 ++ gtells p z, left := l2 } := by
    unfold gmemb mdata
    rw [c1, c2, if_pos c5, if_neg (by rw [k3]; decide), c3, c4, c12, d3, k1, k2, f3, hl2, d5, f9]
  rw [e]
  exact g
theorem at_lt_done {I : List Nat} {M : Nat} {z : Cfg} (h : Stands I M z) (he : endC z = true) : atC I.length z < I.length := by
  have hov : Over z := by
    apply Classical.byContradiction
    intro q
    rw [(open_c3 q).1] at he
    cases he
  obtain ⟨k, h1, _, _, h4, h5⟩ := over_first h hov
  rw [over_at hov h4 h5]
  exact h1
theorem gval4_lt {b : List Nat} {r : Gr} (ho : Oct b) : gval b 4 r < 4294967296 := by
  unfold gval
  split
  · decide
  · exact le4_lt ho _
theorem num4 {b : List Nat} {base R L C : Nat} {a : Option Addr} {vE : Value} {r : Gr} {w : World} (ho : Oct b) (hL : b.length = L) (hLb : L ≤ 100000000000) (hp : r.pos ≤ L) (hli : Lies w a b) (h : Gm w base R a L C r vE) : Calls Tryz.prog 38 #[.pointer (some ⟨R, 0, none⟩), .int .i64 4] w fun e w' => e = .returned (.int .i64 (gval b 4 r : Nat)) ∧ Gm w' base R a L C (gnum b 4 r) vE ∧ Only R w w' :=
  (gnum_c b 4 (by decide) ho hL hLb hp w hli h).mono fun e w' k => by
    obtain ⟨v, k1, k2, k3, k4⟩ := k.ex
    rw [k2 (by decide)] at k1
    exact ⟨k1, k3, k4⟩
theorem memb_done {b : List Nat} {r rh : Gr} {nm bd : List Nat} {base R L C p p1 lf n l2 p2 L2 C2 W3 Q oc tc : Nat} {a a2 oa ta : Option Addr} {T1 : List Gev} {z : Cfg} {w wc : World} (AR : (ghead b r).1 = rh ∧ (ghead b r).2 = nm ∧ rh.pos = p ∧ rh.left = lf ∧ rh.why = 0 ∧ 1 ≤ p ∧ p ≤ L ∧ lf ≤ 1048576 ∧ rh.ev.length + lf + 3 < 100000000000 ∧ base ≤ R ∧ Oct b ∧ b.length = L ∧ L ≤ 100000000000 ∧ Lies w a b) (AB : b.drop p = bd ∧ bd.length = L2 ∧ L - p = L2 ∧ C - p = C2 ∧ p - 1 = p1) (A4 : Rz wc W3 Q a2 L2 C2 z oa oc ta tc ∧ Stands bd lf z ∧ z.out.length = n ∧ n ≤ lf ∧ z.times.length = n ∧ Oct z.out ∧ R < W3 ∧ W3 ≤ Q ∧ rh.ev ++ [(p1, 256, nm)] = T1) (hl2 : lf - n = l2) (he : endC z = true) (hp2 : p + atC L2 z + 1 = p2) : gmemb b r z = mrest b z { rh with ev := T1 ++ gtells p z, left := l2, pos := p2 } := by
  obtain ⟨c1, c2, c3, c4, c5, _, _, _, _, _, _, c12, _⟩ := AR
  obtain ⟨d1, _, d3, _, d5⟩ := AB
  obtain ⟨_, f2, f3, _, _, _, _, _, f9⟩ := A4
  unfold gmemb mdata
  rw [c1, c2, if_pos c5, if_pos he, c3, c4, c12, d3, hp2, f3, hl2, d5, f9]
theorem ev_bound {b : List Nat} {r rh : Gr} {nm bd : List Nat} {base R L p lf n L2 C2 W3 Q oc tc p1 : Nat} {a a2 oa ta : Option Addr} {T1 : List Gev} {z : Cfg} {w wc : World} (AR : (ghead b r).1 = rh ∧ (ghead b r).2 = nm ∧ rh.pos = p ∧ rh.left = lf ∧ rh.why = 0 ∧ 1 ≤ p ∧ p ≤ L ∧ lf ≤ 1048576 ∧ rh.ev.length + lf + 3 < 100000000000 ∧ base ≤ R ∧ Oct b ∧ b.length = L ∧ L ≤ 100000000000 ∧ Lies w a b) (A4 : Rz wc W3 Q a2 L2 C2 z oa oc ta tc ∧ Stands bd lf z ∧ z.out.length = n ∧ n ≤ lf ∧ z.times.length = n ∧ Oct z.out ∧ R < W3 ∧ W3 ≤ Q ∧ rh.ev ++ [(p1, 256, nm)] = T1) : (T1 ++ gtells p z).length + 1 < 100000000000 := by
  obtain ⟨_, _, _, _, _, _, _, _, c9, _⟩ := AR
  obtain ⟨_, _, f3, f4, f5, _, _, _, f9⟩ := A4
  rw [List.length_append, gtells_len (by rw [f5, f3]), f3, ← f9, List.length_append, List.length_singleton]
  omega
theorem gnum_four {b : List Nat} {r r2 : Gr} (h : gnum b 4 r = r2) (h0 : r.why = 0) (h1 : r2.why = 0) : r2.pos = r.pos + 4 ∧ r.pos + 4 ≤ b.length := by
  by_cases hc : b.length < r.pos + 4
  · rw [gnum_cut hc] at h
    rw [← h] at h1
    simp [gstop] at h1
  · rw [gnum_go (by omega)] at h
    rw [← h]
    exact ⟨rfl, by omega⟩
theorem memb_fin {b : List Nat} {r rh X : Gr} {nm bd : List Nat} {base R L C p p1 lf n L2 C2 W3 Q oc tc : Nat} {a a2 oa ta : Option Addr} {T1 : List Gev} {z : Cfg} {w wc w9 : World} {v : Value} (AR : (ghead b r).1 = rh ∧ (ghead b r).2 = nm ∧ rh.pos = p ∧ rh.left = lf ∧ rh.why = 0 ∧ 1 ≤ p ∧ p ≤ L ∧ lf ≤ 1048576 ∧ rh.ev.length + lf + 3 < 100000000000 ∧ base ≤ R ∧ Oct b ∧ b.length = L ∧ L ≤ 100000000000 ∧ Lies w a b) (AB : b.drop p = bd ∧ bd.length = L2 ∧ L - p = L2 ∧ C - p = C2 ∧ p - 1 = p1) (A4 : Rz wc W3 Q a2 L2 C2 z oa oc ta tc ∧ Stands bd lf z ∧ z.out.length = n ∧ n ≤ lf ∧ z.times.length = n ∧ Oct z.out ∧ R < W3 ∧ W3 ≤ Q ∧ rh.ev ++ [(p1, 256, nm)] = T1) (hE : gmemb b r z = X) (g : Gm w9 base R a L C X v) (f : Fr base R w w9) : Gmb b r base R a L C w (.returned (.tuple #[])) w9 := by
  obtain ⟨c1, c2, c3, c4, c5, _, _, _, _, _, _, c12, _⟩ := AR
  refine ⟨z, v, rfl, fun _ => by rw [c1, c3, c4, AB.1]; exact A4.2.1, ?_, f⟩
  rw [hE]
  exact g
/-- What the document's inflate answered. -/
structure Mo (w3 : World) (a2 : Option Addr) (L2 C2 : Nat) (bd : List Nat) (lf : Nat) (v : Value) (wc : World) : Prop where
  ex : ∃ Q z oa oc ta tc, v = .pointer (some ⟨Q, 0, none⟩) ∧ Rz wc w3.heap.size Q a2 L2 C2 z oa oc ta tc ∧ Stands bd lf z ∧ Below w3.heap.size w3 wc
theorem mo_of {w3 w4 : World} {a2 : Option Addr} {L2 C2 lf Q : Nat} {bd : List Nat} {s4 : Rs} {vO vT : Value} {z : Cfg} (hrn : Rn w4 w3.heap.size Q a2 L2 C2 lf s4 vO vT) (hbel : Below w3.heap.size w3 w4) (hst : Stands bd lf z) (q1 : s4.out = z.out) (q2 : s4.times = z.times) (q3 : s4.why = whyC z) (q4 : s4.at_ = atC L2 z) (q5 : s4.ended = endC z) : Mo w3 a2 L2 C2 bd lf (.pointer (some ⟨Q, 0, none⟩)) w4 := by
  obtain ⟨oa, oc, ta, tc, e1, e2, hz⟩ := Rz.of hrn q1 q2 q3 q4 q5
  exact ⟨Q, z, oa, oc, ta, tc, rfl, hz, hst, hbel⟩
section
variable {base R L C : Nat} {a : Option Addr} {vE : Value} {r : Gr} {b : List Nat}
theorem Ge.of (w : World) (ho : Oct b) (hL : b.length = L) (hLb : L ≤ 100000000000) (hLC : L ≤ C) (hnil : a = none → L = 0 ∧ C = 0) (hlow : ∀ g o, a = some ⟨g, o, none⟩ → b ≠ [] → g < base) (hbR : base ≤ R) (hl : Lies w a b) : Ge w base R a L C vE b := ⟨ho, hL, hLb, hLC, hnil, fun g o e hb => by have := hlow g o e hb; omega, hl⟩
theorem lies_low {w u : World} (hl : Lies w a b) (hlow : ∀ g o, a = some ⟨g, o, none⟩ → b ≠ [] → g < base) (k : Below base w u) : Lies u a b := by
  rcases hl with e | ⟨g, o, e, hc⟩
  · exact Or.inl e
  · by_cases hb : b = []
    · exact Or.inl hb
    · exact Or.inr ⟨g, o, e, fun i x hx => (k.cell (p := ⟨g, o + i, none⟩) (hlow g o e hb)).trans (hc i x hx)⟩
set_option maxRecDepth 20000 in
set_option maxHeartbeats 8000000 in
theorem gmemb_c (w : World) (h : Gm w base R a L C r vE) (hp : r.pos ≤ L) (hl : r.left ≤ 1048576) (hbR : base ≤ R) (ho : Oct b) (hL : b.length = L) (hLb : L ≤ 100000000000) (hLC : L ≤ C) (hnil : a = none → L = 0 ∧ C = 0) (hlow : ∀ g o, a = some ⟨g, o, none⟩ → b ≠ [] → g < base) (hli : Lies w a b) (hsp : ∃ s, Sp0 b r s) (hev : r.ev.length + r.left + 3 < 100000000000) : Calls Tryz.prog 27 #[.pointer (some ⟨R, 0, none⟩)] w fun e w' => Gmb b r base R a L C w e w' := by
  have hge : ∀ u : World, Below base w u → Ge u base R a L C vE b := fun u k => Ge.of u ho hL hLb hLC hnil hlow hbR (lies_low hli hlow k)
  have kh := ghead_c b w (hge w (Below.refl _ _)) h hp
  have hke := ghead_kee (b := b) (r := r)
  have hpl := ghead_posL (b := b) (r := r) (by rw [hL]; exact hp)
  by_cases h0 : (ghead b r).1.why = 0
  · have h1 : 1 ≤ (ghead b r).1.pos := by
      obtain ⟨s, hs⟩ := hsp
      rcases hs.head ho with ⟨s1, q⟩ | q
      · exact q.pos1
      · exact absurd h0 q.1
    obtain ⟨rh, hrh⟩ : ∃ rh, (ghead b r).1 = rh := ⟨_, rfl⟩
    obtain ⟨nm, hnm⟩ : ∃ nm, (ghead b r).2 = nm := ⟨_, rfl⟩
    obtain ⟨rp, hrp⟩ : ∃ rp, ghead b r = rp := ⟨_, rfl⟩
    rw [hrh] at h0 h1 hke hpl
    obtain ⟨p, hpp⟩ : ∃ p, rh.pos = p := ⟨_, rfl⟩
    obtain ⟨lf, hlf⟩ : ∃ lf, rh.left = lf := ⟨_, rfl⟩
    have AR : Aside ((ghead b r).1 = rh ∧ (ghead b r).2 = nm ∧ rh.pos = p ∧ rh.left = lf ∧ rh.why = 0 ∧ 1 ≤ p ∧ p ≤ L ∧ lf ≤ 1048576 ∧ rh.ev.length + lf + 3 < 100000000000 ∧ base ≤ R ∧ Oct b ∧ b.length = L ∧ L ≤ 100000000000 ∧ Lies w a b) := ⟨hrh, hnm, hpp, hlf, h0, by omega, by rw [← hpp, ← hL]; exact hpl, by rw [← hlf, hke.1]; exact hl, by rw [← hlf, hke.1, hke.2]; exact hev, hbR, ho, hL, hLb, hli⟩
    have AGe : Aside (∀ u : World, Below base w u → Ge u base R a L C vE b) := hge
    have ALow : Aside (∀ g o, a = some ⟨g, o, none⟩ → b ≠ [] → g < base) := hlow
    have ACn : Aside (L ≤ C ∧ (a = none → L = 0 ∧ C = 0)) := ⟨hLC, hnil⟩
    clear hge hke hpl h0 h1 hp hl hbR ho hL hLb hLC hnil hlow hli hsp hev hrh hnm hpp hlf h hrp
    go_enter Tryz.func27, Tryz.ntmps27
    go_upto_region 1 with (go_at_call 35; refine kh.mono ?_; rintro e1 w1 ⟨rfl, g1, o1⟩)
    have ar := AR.out
    rw [ar.1] at g1
    rw [ar.2.1]
    have ko := gopen_c w1 g1
    rw [decide_eq_true ar.2.2.2.2.1] at ko
    have d4 : w1.cell? ⟨R, 4, none⟩ = some (.int .i64 (p : Int)) := by rw [← ar.2.2.1]; exact g1.c4
    obtain ⟨p1, hp1⟩ : ∃ p1, p - 1 = p1 := ⟨_, rfl⟩
    have hpm : (p : Int) - 1 = (p1 : Int) := by have := ar.2.2.2.2.2.1; omega
    have bp1 : (p1 : Int) < 1000000000000 := by have := ar.2.2.2.2.2.2.1; have := ar.2.2.2.2.2.2.2.2.2.2.2.2.1; omega
    have kt := gtell_c p1 256 nm ar.2.2.2.2.2.2.2.2.2.1 g1 (by have := ar.2.2.2.2.2.2.2.2.1; omega)
    have e256 : gevv 256 nm = #[.int .i64 1, .int .u8 0, .int .i64 2, .int .i64 0, .string (st nm)] := rfl
    rw [e256] at kt
    have A1 : Aside (Only R w w1) := o1
    clear kh g1 o1 ar
    go_upto_region 3 with (first
      | (go_at_call 25; refine ko.mono ?_; rintro e2 w2 ⟨rfl, rfl⟩)
      | (go_at_call 36; refine kt.mono ?_; rintro e3 w3 ⟨rfl, ⟨v3, g3⟩, f3⟩))
    have A3 : Aside (Gm w3 base R a L C { rh with ev := rh.ev ++ [(p1, 256, nm)] } v3 ∧ Fr base R w w3) := ⟨g3, (Fr.of_only A1.out AR.out.2.2.2.2.2.2.2.2.2.1).trans f3⟩
    clear ko kt g3 f3 d4 hpm bp1 A1
    obtain ⟨L2, hL2⟩ : ∃ L2, L - p = L2 := ⟨_, rfl⟩
    obtain ⟨C2, hC2⟩ : ∃ C2, C - p = C2 := ⟨_, rfl⟩
    have hli3 : Lies w3 a b := lies_low AR.out.2.2.2.2.2.2.2.2.2.2.2.2.2 ALow.out A3.out.2.bel
    obtain ⟨a2, hsl, hdl, ha2⟩ := cut_from a b L C p AR.out.2.2.2.2.2.2.2.2.2.2.2.1 ACn.out.1 AR.out.2.2.2.2.2.2.1 ACn.out.2 w3 hli3 (fun e => by
      have h1 := AR.out.2.2.2.2.2.2.1
      have h2 := AR.out.2.2.2.2.2.1
      have h3 := AR.out.2.2.2.2.2.2.2.2.2.2.2.1
      rw [e] at h3
      simp at h3
      omega)
    rw [hL2, hC2] at hsl ha2
    obtain ⟨bd, hbd⟩ : ∃ bd, b.drop p = bd := ⟨_, rfl⟩
    have hbl : bd.length = L2 := by rw [← hbd, List.length_drop, AR.out.2.2.2.2.2.2.2.2.2.2.2.1]; exact hL2
    have hbo : Oct bd := fun x hx => AR.out.2.2.2.2.2.2.2.2.2.2.1 x (by rw [← hbd] at hx; exact List.mem_of_mem_drop hx)
    rw [hbd] at hdl
    have hof : ∀ u : World, Lies u a b → Calls Tryz.prog 37 #[.slice a2 L2 C2, .int .i64 (lf : Int)] u fun e w' => OfSt bd a2 L2 C2 lf u e w' := fun u hu => by
      have := of_st (w := u) (L := L2) (C := C2) (a := a2) (B := bd) (lf : Int) (by have := AR.out.2.2.2.2.2.2.2.1; omega) (hdl u hu) hbl (by have := AR.out.2.2.2.2.2.2.2.2.2.2.2.2.1; omega) hbo
      rwa [Int.toNat_natCast] at this
    have d3 := A3.out.1.c3
    have d4 : w3.cell? ⟨R, 4, none⟩ = some (.int .i64 (p : Int)) := by rw [← AR.out.2.2.1]; exact A3.out.1.c4
    have d5 : w3.cell? ⟨R, 5, none⟩ = some (.int .i64 (lf : Int)) := by rw [← AR.out.2.2.2.1]; exact A3.out.1.c5
    have ALi : Aside (∀ n, Lies (w3.drewN n) a b) := fun n => hli3
    have AB : Aside (b.drop p = bd ∧ bd.length = L2 ∧ L - p = L2 ∧ C - p = C2 ∧ p - 1 = p1) := ⟨hbd, hbl, hL2, hC2, hp1⟩
    have AHo : Aside (∀ u : World, Lies u a b → Calls Tryz.prog 37 #[.slice a2 L2 C2, .int .i64 (lf : Int)] u fun e w' => OfSt bd a2 L2 C2 lf u e w') := hof
    clear hL2 hC2 hli3 hdl ha2 hbd hbl hbo hof hp1
    go_cut [3] (fun v wc => Mo w3 a2 L2 C2 bd lf v wc)
    case first =>
      go_region_with (go_at_call 37; refine (AHo.out _ (ALi.out 1)).mono ?_; rintro e4 w4 ⟨Q, s4, vO, vT, z, rfl, hrn, hbel, hst, q1, q2, q3, q4, q5⟩)
      all_goals go_wp2_with fail
      all_goals go_meet
      all_goals exact mo_of hrn ⟨hbel.os, hbel.tape, hbel.output, hbel.size, hbel.block⟩ hst q1 q2 q3 q4 q5
    case rest =>
      obtain ⟨Q, z, oa, oc, ta, tc, rfl, hz, hst, hbel⟩ := hcut.ex
      have hzl := stands_most hst
      have htl := hst.tl
      have hzo := hst.oct
      obtain ⟨n, hn⟩ : ∃ n, z.out.length = n := ⟨_, rfl⟩
      obtain ⟨T1, hT1⟩ : ∃ T1, rh.ev ++ [(p1, 256, nm)] = T1 := ⟨_, rfl⟩
      have hRlt : R < w3.heap.size := A3.out.1.lt
      have A4 : Aside (Rz wc w3.heap.size Q a2 L2 C2 z oa oc ta tc ∧ Stands bd lf z ∧ z.out.length = n ∧ n ≤ lf ∧ z.times.length = n ∧ Oct z.out ∧ R < w3.heap.size ∧ w3.heap.size ≤ Q ∧ rh.ev ++ [(p1, 256, nm)] = T1) := ⟨hz, hst, hn, by rw [← hn]; exact hzl, by rw [htl]; exact hn, hzo, hRlt, by obtain ⟨m, s, h1, _⟩ := hz.rn; exact h1.rb, hT1⟩
      have A5 : Aside (Gm wc base R a L C { rh with ev := T1 } v3 ∧ Fr base R w wc) := ⟨by rw [← hT1]; exact A3.out.1.below hbel, A3.out.2.trans (Fr.of_below hbel (by have := A3.out.1.le; exact this))⟩
      clear hcut hz hst hbel hzl htl hzo hn hT1 hRlt hsl AHo ALi d3 d4 d5
      go_upto_block 1 with fail
      go_loopg [4] n (fun gg s4 wr => ∃ i : Nat, s4 = .int .i64 (i : Int) ∧ Aside (∃ v, Gm wr base R a L C { rh with ev := T1 ++ (gtells p z).take i } v ∧ Fr base R w wr ∧ Rz wr w3.heap.size Q a2 L2 C2 z oa oc ta tc ∧ i ≤ n ∧ gg = n - i))
      case atStart => exact ⟨0, rfl, ⟨v3, by rw [List.take_zero, List.append_nil]; exact A5.out.1, A5.out.2, A4.out.1, Nat.zero_le _, by simp⟩⟩
      case round =>
        obtain ⟨i, rfl, hT⟩ := hrel
        obtain ⟨v, hg, hfr, hz, hin, hgk⟩ := hT.out
        have a4 := A4.out
        have d2 : wr.cell? ⟨Q, 2, none⟩ = some (.slice oa n oc) := by rw [← a4.2.2.1]; exact hz.c2
        by_cases hlt : i < n
        · have bi : (i : Int) < (n : Int) := by omega
          obtain ⟨x, hx⟩ : ∃ x, z.out[i]? = some x := ⟨_, List.getElem?_eq_getElem (by rw [a4.2.2.1]; exact hlt)⟩
          obtain ⟨t, ht⟩ : ∃ t, z.times[i]? = some t := ⟨_, List.getElem?_eq_getElem (by rw [a4.2.2.2.2.1]; exact hlt)⟩
          have hxb := a4.2.2.2.2.2.1 x (List.mem_of_getElem? hx)
          have htb := a4.2.1.tb t (List.mem_of_getElem? ht)
          have dR4 : wr.cell? ⟨R, 4, none⟩ = some (.int .i64 (p : Int)) := by rw [← AR.out.2.2.1]; exact hg.c4
          have d3 : wr.cell? ⟨Q, 3, none⟩ = some (.slice ta n tc) := by rw [← a4.2.2.2.2.1]; exact hz.c3
          obtain ⟨bo, oo, rfl, hco⟩ : ∃ bo oo, oa = some ⟨bo, oo, none⟩ ∧ wr.cell? ⟨bo, oo + i, none⟩ = some (.int .u8 (x : Int)) := by
            rcases hz.lies with e | ⟨bo, oo, e, hc⟩
            · rw [e] at hx; simp at hx
            · exact ⟨bo, oo, e, hc i x hx⟩
          obtain ⟨bt, ot, rfl, hct⟩ : ∃ bt ot, ta = some ⟨bt, ot, none⟩ ∧ wr.cell? ⟨bt, ot + i, none⟩ = some (.int .i64 (t : Int)) := by
            rcases hz.lens with e | ⟨bt, ot, e, hc⟩
            · have : z.times = [] := by
                have := congrArg List.length e
                rw [iz_len] at this
                exact List.eq_nil_of_length_eq_zero (by simpa using this)
              rw [this] at ht; simp at ht
            · exact ⟨bt, ot, e, hc i t (by unfold iz; rw [List.getElem?_map, ht]; rfl)⟩
          obtain ⟨qq, hqq⟩ : ∃ qq, p + t = qq := ⟨_, rfl⟩
          have hqi : (p : Int) + (t : Int) = (qq : Int) := by omega
          have bq : (qq : Int) < 2000000000000 := by
            have h1 := AR.out.2.2.2.2.2.2.1
            have h2 := AR.out.2.2.2.2.2.2.2.2.2.2.2.2.1
            have h3 := AB.out
            omega
          have kt := gtell_c (w := wr.drewN 1) qq x [] AR.out.2.2.2.2.2.2.2.2.2.1 (hg.drewN 1) (by
            have h1 := AR.out.2.2.2.2.2.2.2.2.1
            have h2 := a4.2.2.2.1
            have h3 := congrArg List.length a4.2.2.2.2.2.2.2.2
            rw [List.length_append, List.length_singleton] at h3
            show (T1 ++ (gtells p z).take i).length < _
            rw [List.length_append, List.length_take]
            omega)
          have exv : gevv x [] = #[.int .i64 2, .int .u8 (x : Int), .int .i64 0, .int .i64 0, .string ⟨#[]⟩] := by
            unfold gevv gk1 gk2 gk3
            rw [if_neg (show ¬ x = 256 by omega), if_neg (show ¬ x = 257 by omega), if_pos hxb, if_neg (show ¬ x = 256 by omega)]
            rfl
          rw [exv] at kt
          have A6 : Aside (Fr base R w wr ∧ Rz wr w3.heap.size Q a2 L2 C2 z (some ⟨bo, oo, none⟩) oc (some ⟨bt, ot, none⟩) tc ∧ z.out[i]? = some x ∧ z.times[i]? = some t ∧ p + t = qq ∧ i < n ∧ gk = n - i) := ⟨hfr, hz, hx, ht, hqq, hlt, hgk⟩
          have bin : (i : Int) + 1 < 1000000000000 := by
            have h1 := AR.out.2.2.2.2.2.2.2.1
            have h2 := a4.2.2.2.1
            omega
          clear hT hg hfr hz hin hgk a4 hx ht hxb htb hqq exv hlt
          have hS : ∀ (u : World) (v : Value) (r2 : Gr), Gm u base R a L C r2 v → r2.pos = p → Fr base R wr u → (u.cell? ⟨R, 4, none⟩ = some (.int .i64 (p : Int)) ∧ u.cell? ⟨Q, 3, none⟩ = some (.slice (some ⟨bt, ot, none⟩) n tc) ∧ u.cell? ⟨Q, 2, none⟩ = some (.slice (some ⟨bo, oo, none⟩) n oc) ∧ u.cell? ⟨bo, oo + i, none⟩ = some (.int .u8 (x : Int)) ∧ u.cell? ⟨bt, ot + i, none⟩ = some (.int .i64 (t : Int))) := fun u v r2 g2 e2 f2 => by
            have z2 := A6.out.2.1.fr f2 A4.out.2.2.2.2.2.2.1
            refine ⟨by rw [← e2]; exact g2.c4, by rw [← A4.out.2.2.2.2.1]; exact z2.c3, by rw [← A4.out.2.2.1]; exact z2.c2, ?_, ?_⟩
            · rcases z2.lies with e | ⟨bo', oo', e, hc⟩
              · have := A6.out.2.2.1; rw [e] at this; simp at this
              · cases e; exact hc i x A6.out.2.2.1
            · rcases z2.lens with e | ⟨bt', ot', e, hc⟩
              · have h1 : z.times = [] := by
                  have := congrArg List.length e
                  rw [iz_len] at this
                  exact List.eq_nil_of_length_eq_zero (by simpa using this)
                have := A6.out.2.2.2.1; rw [h1] at this; simp at this
              · cases e; exact hc i t (by unfold iz; rw [List.getElem?_map, A6.out.2.2.2.1]; rfl)
          have AS : Aside _ := hS
          have hwq : IntKind.i64.wrap (qq : Int) = (qq : Int) := wr_id _ (by omega) (by omega)
          clear hS
          go_upto_region 7 with fail
          refine wp_region_held_drew (S := fun u => u.cell? ⟨R, 4, none⟩ = some (.int .i64 (p : Int)) ∧ u.cell? ⟨Q, 3, none⟩ = some (.slice (some ⟨bt, ot, none⟩) n tc) ∧ u.cell? ⟨Q, 2, none⟩ = some (.slice (some ⟨bo, oo, none⟩) n oc) ∧ u.cell? ⟨bo, oo + i, none⟩ = some (.int .u8 (x : Int)) ∧ u.cell? ⟨bt, ot + i, none⟩ = some (.int .i64 (t : Int))) (by kernel_rfl) ⟨dR4, d3, d2, hco, hct⟩ (fun hHeld => ?_)
          refine wpAnyH_take (i := 0) (oi := ⟨_, _, _, _, _, _⟩) (v := ?_) rfl (by kernel_rfl) (by kernel_rfl) (by kernel_rfl) (fun _ _ _ h => h) (Or.inl ⟨by rfl, ?_⟩) hHeld ?_
          rotate_left
          · (intro w9 hSw; (try dsimp only at hSw); obtain ⟨q0, q1, q2, q3, q4⟩ := hSw; go_simp; try (with_reducible rfl))
          try simp only [Act.put, List.setIfInBounds_toArray, List.set_cons_zero, List.set_cons_succ]
          refine wpAnyH_take (i := 1) (oi := ⟨_, _, _, _, _, _⟩) (v := ?_) rfl (by kernel_rfl) (by kernel_rfl) (by kernel_rfl) (fun _ _ _ h => h) (Or.inl ⟨by rfl, ?_⟩) hHeld ?_
          rotate_left
          · (intro w9 hSw; (try dsimp only at hSw); obtain ⟨q0, q1, q2, q3, q4⟩ := hSw; go_simp; try (with_reducible rfl))
          try simp only [Act.put, List.setIfInBounds_toArray, List.set_cons_zero, List.set_cons_succ]
          refine wpAnyH_take (i := 2) (oi := ⟨_, _, _, _, _, _⟩) (v := ?_) rfl (by kernel_rfl) (by kernel_rfl) (by kernel_rfl) (fun _ _ _ h => h) (Or.inl ⟨by rfl, ?_⟩) hHeld ?_
          rotate_left
          · (intro w9 hSw; (try dsimp only at hSw); obtain ⟨q0, q1, q2, q3, q4⟩ := hSw; go_simp; try (with_reducible rfl))
          try simp only [Act.put, List.setIfInBounds_toArray, List.set_cons_zero, List.set_cons_succ]
          refine wpAnyH_take (i := 3) (oi := ⟨_, _, _, _, _, _⟩) (v := ?_) rfl (by kernel_rfl) (by kernel_rfl) (by kernel_rfl) (fun _ _ _ h => h) (Or.inl ⟨by rfl, ?_⟩) hHeld ?_
          rotate_left
          · (intro w9 hSw; (try dsimp only at hSw); obtain ⟨q0, q1, q2, q3, q4⟩ := hSw; go_simp; try (with_reducible rfl))
          try simp only [Act.put, List.setIfInBounds_toArray, List.set_cons_zero, List.set_cons_succ]
          refine wpAnyH_take (i := 4) (oi := ⟨_, _, _, _, _, _⟩) (v := ?_) rfl (by kernel_rfl) (by kernel_rfl) (by kernel_rfl) (fun _ _ _ h => h) (Or.inl ⟨by rfl, ?_⟩) hHeld ?_
          rotate_left
          · (intro w9 hSw; (try dsimp only at hSw); obtain ⟨q0, q1, q2, q3, q4⟩ := hSw; go_simp; try (with_reducible rfl))
          try simp only [Act.put, List.setIfInBounds_toArray, List.set_cons_zero, List.set_cons_succ]
          refine wpAnyH_take (i := 5) (oi := ⟨_, _, _, _, _, _⟩) (v := ?_) rfl (by kernel_rfl) (by kernel_rfl) (by kernel_rfl) (fun _ _ _ h => h) (Or.inl ⟨by rfl, ?_⟩) hHeld ?_
          rotate_left
          · (intro w9 hSw; (try dsimp only at hSw); obtain ⟨q0, q1, q2, q3, q4⟩ := hSw; go_simp; try (with_reducible rfl))
          try simp only [Act.put, List.setIfInBounds_toArray, List.set_cons_zero, List.set_cons_succ]
          refine wpAnyH_take (i := 6) (oi := ⟨_, _, _, _, _, _⟩) (v := ?_) rfl (by kernel_rfl) (by kernel_rfl) (by kernel_rfl) (fun _ _ _ h => h) (Or.inl ⟨by rfl, ?_⟩) hHeld ?_
          rotate_left
          · (intro w9 hSw; (try dsimp only at hSw); obtain ⟨q0, q1, q2, q3, q4⟩ := hSw; go_simp; try (with_reducible rfl))
          try simp only [Act.put, List.setIfInBounds_toArray, List.set_cons_zero, List.set_cons_succ]
          refine wpAnyH_take (i := 7) (oi := ⟨_, _, _, _, _, _⟩) (v := ?_) rfl (by kernel_rfl) (by kernel_rfl) (by kernel_rfl) (fun _ _ _ h => h) (Or.inl ⟨by rfl, ?_⟩) hHeld ?_
          rotate_left
          · (intro w9 hSw; (try dsimp only at hSw); obtain ⟨q0, q1, q2, q3, q4⟩ := hSw; go_simp; try (with_reducible rfl))
          try simp only [Act.put, List.setIfInBounds_toArray, List.set_cons_zero, List.set_cons_succ]
          refine wpAnyH_take (i := 8) (oi := ⟨_, _, _, _, _, _⟩) (v := ?_) rfl (by kernel_rfl) (by kernel_rfl) (by kernel_rfl) (fun _ _ _ h => h) (Or.inl ⟨by rfl, ?_⟩) hHeld ?_
          rotate_left
          · (intro w9 hSw; (try dsimp only at hSw); obtain ⟨q0, q1, q2, q3, q4⟩ := hSw; go_simp; try (with_reducible rfl))
          try simp only [Act.put, List.setIfInBounds_toArray, List.set_cons_zero, List.set_cons_succ]
          refine wpAnyH_take (i := 9) (oi := ⟨_, _, _, _, _, _⟩) (v := ?_) rfl (by kernel_rfl) (by kernel_rfl) (by kernel_rfl) (fun _ _ _ h => h) (Or.inl ⟨by rfl, ?_⟩) hHeld ?_
          rotate_left
          · (intro w9 hSw; (try dsimp only at hSw); obtain ⟨q0, q1, q2, q3, q4⟩ := hSw; go_simp; try (with_reducible rfl))
          try simp only [Act.put, List.setIfInBounds_toArray, List.set_cons_zero, List.set_cons_succ]
          refine wpAnyH_take (i := 10) (oi := ⟨_, _, _, _, _, _⟩) (v := ?_) rfl (by kernel_rfl) (by kernel_rfl) (by kernel_rfl) (fun _ _ _ h => h) (Or.inl ⟨by rfl, ?_⟩) hHeld ?_
          rotate_left
          · (intro w9 hSw; (try dsimp only at hSw); obtain ⟨q0, q1, q2, q3, q4⟩ := hSw; go_simp; try (with_reducible rfl))
          try simp only [Act.put, List.setIfInBounds_toArray, List.set_cons_zero, List.set_cons_succ]
          refine wpAnyH_take (i := 11) (oi := ⟨_, _, _, _, _, _⟩) (v := ?_) rfl (by kernel_rfl) (by kernel_rfl) (by kernel_rfl) (fun _ _ _ h => h) (Or.inl ⟨by rfl, ?_⟩) hHeld ?_
          rotate_left
          · (intro w9 hSw; (try dsimp only at hSw); obtain ⟨q0, q1, q2, q3, q4⟩ := hSw; go_simp; try (with_reducible rfl))
          try simp only [Act.put, List.setIfInBounds_toArray, List.set_cons_zero, List.set_cons_succ]
          refine wpAnyH_take (i := 12) (oi := ⟨_, _, _, _, _, _⟩) (v := ?_) rfl (by kernel_rfl) (by kernel_rfl) (by kernel_rfl) (fun _ _ _ h => h) (Or.inl ⟨by rfl, ?_⟩) hHeld ?_
          rotate_left
          · (intro w9 hSw; (try dsimp only at hSw); obtain ⟨q0, q1, q2, q3, q4⟩ := hSw; go_simp; try (with_reducible rfl))
          try simp only [Act.put, List.setIfInBounds_toArray, List.set_cons_zero, List.set_cons_succ]
          refine wpAnyH_take (i := 13) (oi := ⟨_, _, _, _, _, _⟩) (v := ?_) rfl (by kernel_rfl) (by kernel_rfl) (by kernel_rfl) (fun _ _ _ h => h) (Or.inl ⟨by rfl, ?_⟩) hHeld ?_
          rotate_left
          · (intro w9 hSw; (try dsimp only at hSw); obtain ⟨q0, q1, q2, q3, q4⟩ := hSw; go_simp; try (with_reducible rfl))
          try simp only [Act.put, List.setIfInBounds_toArray, List.set_cons_zero, List.set_cons_succ]
          refine wpAnyH_take (i := 14) (oi := ⟨_, _, _, _, _, _⟩) (v := ?_) rfl (by kernel_rfl) (by kernel_rfl) (by kernel_rfl) (fun _ _ _ h => h) (Or.inl ⟨by rfl, ?_⟩) hHeld ?_
          rotate_left
          · (intro w9 hSw; (try dsimp only at hSw); obtain ⟨q0, q1, q2, q3, q4⟩ := hSw; go_simp; try (with_reducible rfl))
          try simp only [Act.put, List.setIfInBounds_toArray, List.set_cons_zero, List.set_cons_succ]
          refine wpAnyH_take (i := 15) (oi := ⟨_, _, _, _, _, _⟩) (v := ?_) rfl (by kernel_rfl) (by kernel_rfl) (by kernel_rfl) (fun _ _ _ h => h) (Or.inl ⟨by rfl, ?_⟩) hHeld ?_
          rotate_left
          · (intro w9 hSw; (try dsimp only at hSw); obtain ⟨q0, q1, q2, q3, q4⟩ := hSw; go_simp; try (with_reducible rfl))
          try simp only [Act.put, List.setIfInBounds_toArray, List.set_cons_zero, List.set_cons_succ]
          refine wpAnyH_take (i := 16) (oi := ⟨_, _, _, _, _, _⟩) (v := ?_) rfl (by kernel_rfl) (by kernel_rfl) (by kernel_rfl) (fun _ _ _ h => h) (Or.inl ⟨by rfl, ?_⟩) hHeld ?_
          rotate_left
          · (intro w9 hSw; (try dsimp only at hSw); obtain ⟨q0, q1, q2, q3, q4⟩ := hSw; go_simp; try (with_reducible rfl))
          try simp only [Act.put, List.setIfInBounds_toArray, List.set_cons_zero, List.set_cons_succ]
          refine wpAnyH_take (i := 17) (oi := ⟨_, _, _, _, _, _⟩) (v := ?_) rfl (by kernel_rfl) (by kernel_rfl) (by kernel_rfl) (fun _ _ _ h => h) (Or.inl ⟨by rfl, ?_⟩) hHeld ?_
          rotate_left
          · (intro w9 hSw; (try dsimp only at hSw); obtain ⟨q0, q1, q2, q3, q4⟩ := hSw; go_simp; try (with_reducible rfl))
          try simp only [Act.put, List.setIfInBounds_toArray, List.set_cons_zero, List.set_cons_succ]
          refine wpAnyH_take (i := 18) (oi := ⟨_, _, _, _, _, _⟩) (v := ?_) rfl (by kernel_rfl) (by kernel_rfl) (by kernel_rfl) (fun _ _ _ h => h) (Or.inl ⟨by rfl, ?_⟩) hHeld ?_
          rotate_left
          · (intro w9 hSw; (try dsimp only at hSw); obtain ⟨q0, q1, q2, q3, q4⟩ := hSw; go_simp; try (with_reducible rfl))
          try simp only [Act.put, List.setIfInBounds_toArray, List.set_cons_zero, List.set_cons_succ]
          refine wpAnyH_take (i := 19) (oi := ⟨_, _, _, _, _, _⟩) (v := ?_) rfl (by kernel_rfl) (by kernel_rfl) (by kernel_rfl) (fun _ _ _ h => h) (Or.inl ⟨by rfl, ?_⟩) hHeld ?_
          rotate_left
          · (intro w9 hSw; (try dsimp only at hSw); obtain ⟨q0, q1, q2, q3, q4⟩ := hSw; go_simp; try (with_reducible rfl))
          try simp only [Act.put, List.setIfInBounds_toArray, List.set_cons_zero, List.set_cons_succ]
          refine wpAnyH_take (i := 20) (oi := ⟨_, _, _, _, _, _⟩) (v := ?_) rfl (by kernel_rfl) (by kernel_rfl) (by kernel_rfl) (fun _ _ _ h => h) (Or.inl ⟨by rfl, ?_⟩) hHeld ?_
          rotate_left
          · (intro w9 hSw; (try dsimp only at hSw); obtain ⟨q0, q1, q2, q3, q4⟩ := hSw; go_simp; try (with_reducible rfl))
          try simp only [Act.put, List.setIfInBounds_toArray, List.set_cons_zero, List.set_cons_succ]
          refine wpAnyH_ready (rs := [21]) (by kernel_rfl) (by simp) ?_
          refine AllReadyH.cons (o := ⟨_, _, _, _, _, _⟩) rfl (fun K hK => ?_) AllReadyH.nil
          go_simp
          go_at_call 36
          refine kt.mono ?_
          rintro e5 w5 ⟨rfl, ⟨v5, g5⟩, f5⟩
          dsimp only
          have D5 := AS.out _ _ _ g5 AR.out.2.2.1 ((Fr.drewN wr 1).trans f5)
          refine hK.out _ _ D5 (fun hH5 => ?_)
          clear hK K
          try simp only [Act.put, List.setIfInBounds_toArray, List.set_cons_zero, List.set_cons_succ]
          refine wpAnyH_done (by kernel_rfl) ?_ _
          (try dsimp only [Exit.then])
          have A7 : Aside (Mt base R a L C { rh with ev := T1 ++ (gtells p z).take (i + 1) } w3.heap.size Q a2 L2 C2 z (some ⟨bo, oo, none⟩) oc (some ⟨bt, ot, none⟩) tc w w5) := mt_of A6.out.1 A6.out.2.1 A4.out.2.2.2.2.2.2.1 g5 f5 A6.out.2.2.1 A6.out.2.2.2.1 A6.out.2.2.2.2.1
          clear g5 f5 kt hco hct d2 d3 dR4 hqi bq hwq hHeld hH5 D5
          go_wp2_with fail
          have a6 := A6.out
          obtain ⟨v6, g6, f6, z6⟩ := A7.out.ex
          go_roundg (n - (i + 1))
          case measure => omega
          case rel => exact ⟨i + 1, by push_cast; rfl, ⟨v6, g6, f6, z6, a6.2.2.2.2.2.1, rfl⟩⟩
        · have bn : ¬ ((i : Int) < (n : Int)) := by omega
          have hall : (gtells p z).take i = gtells p z := List.take_of_length_le (by rw [gtells_len (by rw [a4.2.2.1]; exact a4.2.2.2.2.1), a4.2.2.1]; omega)
          rw [hall] at hg
          obtain ⟨l2, hl2⟩ : ∃ l2, lf - n = l2 := ⟨_, rfl⟩
          have hnl := a4.2.2.2.1
          have hlfb := AR.out.2.2.2.2.2.2.2.1
          have hli2 : (lf : Int) - (n : Int) = (l2 : Int) := by omega
          have bl2 : (l2 : Int) < 2000000 := by omega
          have hwl : IntKind.i64.wrap (l2 : Int) = (l2 : Int) := wr_id _ (by omega) (by omega)
          have d5 : wr.cell? ⟨R, 5, none⟩ = some (.int .i64 (lf : Int)) := by rw [← AR.out.2.2.2.1]; exact hg.c5
          have y5 := hg.fz 5
          have k8 := hg.left_ l2 AR.out.2.2.2.2.2.2.2.2.2.1
          have A8 : Aside (Gm (wr.setCell ⟨R, 5, none⟩ (.int .i64 (l2 : Int))).drew base R a L C { rh with ev := T1 ++ gtells p z, left := l2 } v ∧ Fr base R w (wr.setCell ⟨R, 5, none⟩ (.int .i64 (l2 : Int))).drew ∧ Rz (wr.setCell ⟨R, 5, none⟩ (.int .i64 (l2 : Int))).drew w3.heap.size Q a2 L2 C2 z oa oc ta tc ∧ lf - n = l2) := ⟨k8.1, hfr.trans k8.2, hz.fr k8.2 a4.2.2.2.2.2.2.1, hl2⟩
          clear hT hg hfr hz hin hgk a4 hlt hall hl2 hnl hlfb k8
          go_upto_region 8 with fail
          go_region
          obtain ⟨w8, hw8⟩ : ∃ w8, (wr.setCell ⟨R, 5, none⟩ (.int .i64 (l2 : Int))).drew = w8 := ⟨_, rfl⟩
          rw [hw8] at A8 ⊢
          have d6 := A8.out.2.2.1.c6
          clear hw8 d5 y5 d2 bn hli2 bl2 hwl
          by_cases he : endC z = true
          · rw [he] at d6
            obtain ⟨tt, htt⟩ : ∃ tt, atC L2 z = tt := ⟨_, rfl⟩
            have hat : tt < L2 := by
              rw [← htt, ← AB.out.2.1]
              exact at_lt_done A4.out.2.1 he
            obtain ⟨p2, hp2⟩ : ∃ p2, p + tt + 1 = p2 := ⟨_, rfl⟩
            obtain ⟨t1, ht1⟩ : ∃ t1, tt + 1 = t1 := ⟨_, rfl⟩
            have hab := AB.out.2.2.1
            have hpL := AR.out.2.2.2.2.2.2.1
            have hLb := AR.out.2.2.2.2.2.2.2.2.2.2.2.2.1
            have hp2L : p2 ≤ L := by omega
            have ht1i : (tt : Int) + 1 = (t1 : Int) := by omega
            have hp2i : (p : Int) + (t1 : Int) = (p2 : Int) := by omega
            have bp2 : (p2 : Int) < 1000000000000 := by omega
            have bt1 : (t1 : Int) < 1000000000000 := by omega
            have hw1 : IntKind.i64.wrap (t1 : Int) = (t1 : Int) := wr_id _ (by omega) (by omega)
            have hw2 : IntKind.i64.wrap (p2 : Int) = (p2 : Int) := wr_id _ (by omega) (by omega)
            have e5 : w8.cell? ⟨R, 4, none⟩ = some (.int .i64 (p : Int)) := by rw [← AR.out.2.2.1]; exact A8.out.1.c4
            have e6 : w8.cell? ⟨Q, 5, none⟩ = some (.int .i64 (tt : Int)) := by rw [← htt]; exact A8.out.2.2.1.c5
            have y4 := A8.out.1.fz 4
            have k9 := A8.out.1.move_ p2 AR.out.2.2.2.2.2.2.2.2.2.1
            have A9 : Aside (Gm (w8.setCell ⟨R, 4, none⟩ (.int .i64 (p2 : Int))).drew base R a L C { rh with ev := T1 ++ gtells p z, left := l2, pos := p2 } v ∧ Fr base R w (w8.setCell ⟨R, 4, none⟩ (.int .i64 (p2 : Int))).drew ∧ Rz (w8.setCell ⟨R, 4, none⟩ (.int .i64 (p2 : Int))).drew w3.heap.size Q a2 L2 C2 z oa oc ta tc ∧ p + atC L2 z + 1 = p2 ∧ p2 ≤ L ∧ endC z = true) := ⟨k9.1, A8.out.2.1.trans k9.2, A8.out.2.2.1.fr k9.2 A4.out.2.2.2.2.2.2.1, by rw [htt]; exact hp2, hp2L, he⟩
            clear k9 htt hat hp2 ht1 hab hpL hLb hp2L he
            go_upto_region 11 with fail
            go_region
            obtain ⟨w9, hw9⟩ : ∃ w9, (w8.setCell ⟨R, 4, none⟩ (.int .i64 (p2 : Int))).drew = w9 := ⟨_, rfl⟩
            rw [hw9] at A9 ⊢
            clear hw9 e5 e6 y4 hw1 hw2 ht1i hp2i bp2 bt1 d6
            obtain ⟨r9, hr9⟩ : ∃ r9, r9 = { rh with ev := T1 ++ gtells p z, left := l2, pos := p2 } := ⟨_, rfl⟩
            rw [← hr9] at A9
            have hli9 : Lies w9 a b := lies_low AR.out.2.2.2.2.2.2.2.2.2.2.2.2.2 ALow.out A9.out.2.1.bel
            have hr9p : r9.pos = p2 := by rw [hr9]
            have hr9w : r9.why = 0 := by rw [hr9]; exact AR.out.2.2.2.2.1
            have kn1 := num4 AR.out.2.2.2.2.2.2.2.2.2.2.1 AR.out.2.2.2.2.2.2.2.2.2.2.2.1 AR.out.2.2.2.2.2.2.2.2.2.2.2.2.1 (by rw [hr9p]; exact A9.out.2.2.2.2.1) hli9 A9.out.1
            obtain ⟨sv, hsv⟩ : ∃ sv, gval b 4 r9 = sv := ⟨_, rfl⟩
            obtain ⟨r10, hr10⟩ : ∃ r10, gnum b 4 r9 = r10 := ⟨_, rfl⟩
            rw [hsv, hr10] at kn1
            have hsvb : sv < 4294967296 := by rw [← hsv]; exact gval4_lt AR.out.2.2.2.2.2.2.2.2.2.2.1
            have hr9e : r9.ev.length + 1 < 100000000000 := by rw [hr9]; exact ev_bound AR.out A4.out
            have AE : Aside (gmemb b r z = mrest b z r9 ∧ gval b 4 r9 = sv ∧ gnum b 4 r9 = r10 ∧ sv < 4294967296 ∧ r9.pos = p2 ∧ r9.why = 0) := ⟨by rw [hr9]; exact memb_done AR.out AB.out A4.out A8.out.2.2.2 A9.out.2.2.2.2.2 A9.out.2.2.2.1, hsv, hr10, hsvb, hr9p, hr9w⟩
            have AEv : Aside (r9.ev.length + 1 < 100000000000) := hr9e
            clear hr9 hli9 hr9p hr9w hsv hr10 hr9e
            go_upto_region 13 with (go_at_call 38; refine kn1.mono ?_; rintro e10 w10 ⟨rfl, g10, o10⟩)
            have A10 : Aside (Gm w10 base R a L C r10 v ∧ Fr base R w w10 ∧ Rz w10 w3.heap.size Q a2 L2 C2 z oa oc ta tc) := ⟨g10, A9.out.2.1.trans (Fr.of_only o10 AR.out.2.2.2.2.2.2.2.2.2.1), A9.out.2.2.1.fr (Fr.of_only (lo := base) o10 AR.out.2.2.2.2.2.2.2.2.2.1) A4.out.2.2.2.2.2.2.1⟩
            clear kn1 g10 o10
            obtain ⟨sm0, hsm0⟩ : ∃ sm0, sm 0 z.out = sm0 := ⟨_, rfl⟩
            have hsmb : sm0 < 4294967296 := by rw [← hsm0]; exact sm_lt z.out (by decide) A4.out.2.2.2.2.2.1
            have ko := gopen_c w10 A10.out.1
            have kS := rsum_c oa z.out oc w10 A4.out.2.2.2.2.2.1 (by have := A4.out.2.2.1; have := A4.out.2.2.2.1; have := AR.out.2.2.2.2.2.2.2.1; omega) A10.out.2.2.lies
            rw [hsm0, A4.out.2.2.1] at kS
            have d2 : w10.cell? ⟨Q, 2, none⟩ = some (.slice oa n oc) := by rw [← A4.out.2.2.1]; exact A10.out.2.2.c2
            obtain ⟨tb, htb⟩ : ∃ tb, decide (r10.why = 0 ∧ sv ≠ sm0) = tb := ⟨_, rfl⟩
            have Atb : Aside (decide (r10.why = 0 ∧ sv ≠ sm0) = tb ∧ sm 0 z.out = sm0) := ⟨htb, hsm0⟩
            have bsv : (sv : Int) < 4294967296 := by omega
            clear htb hsm0
            go_cut [129] (fun s wc => s = .bool tb ∧ wc = w10)
            case first => as_aux_lemma =>
              by_cases h0 : r10.why = 0
              · rw [decide_eq_true h0] at ko
                by_cases hs : sv = sm0
                · have t1 : ((sv : Int) != (sm0 : Int)) = false := by rw [hs]; simp
                  have e : tb = false := by rw [← Atb.out.1]; exact decide_eq_false (fun q => q.2 hs)
                  clear h0 hs hsvb hsmb
                  go_wp2_with (first
                    | (go_at_call 25; refine ko.mono ?_; rintro e2 w2 ⟨rfl, rfl⟩)
                    | (go_at_call 33; refine kS.mono ?_; rintro e3 w3 ⟨rfl, rfl⟩))
                  go_meet
                  exact ⟨by rw [e], rfl⟩
                · have t1 : ((sv : Int) != (sm0 : Int)) = true := by rw [bne_iff_ne]; omega
                  have e : tb = true := by rw [← Atb.out.1]; exact decide_eq_true ⟨h0, hs⟩
                  clear h0 hs hsvb hsmb
                  go_wp2_with (first
                    | (go_at_call 25; refine ko.mono ?_; rintro e2 w2 ⟨rfl, rfl⟩)
                    | (go_at_call 33; refine kS.mono ?_; rintro e3 w3 ⟨rfl, rfl⟩))
                  go_meet
                  exact ⟨by rw [e], rfl⟩
              · rw [decide_eq_false h0] at ko
                have e : tb = false := by rw [← Atb.out.1]; exact decide_eq_false (fun q => h0 q.1)
                clear h0 hsvb hsmb
                go_wp2_with (go_at_call 25; refine ko.mono ?_; rintro e2 w2 ⟨rfl, rfl⟩)
                go_meet
                exact ⟨by rw [e], rfl⟩
            case rest =>
              obtain ⟨rfl, rfl⟩ := hcut
              clear kS d2 ko bsv
              have gpos : r10.why = 0 → r10.pos = p2 + 4 ∧ p2 + 4 ≤ L := fun h0 => by
                have := gnum_four AE.out.2.2.1 AE.out.2.2.2.2.2 h0
                rw [AE.out.2.2.2.2.1, AR.out.2.2.2.2.2.2.2.2.2.2.2.1] at this
                exact this
              have hLb := AR.out.2.2.2.2.2.2.2.2.2.2.2.2.1
              have hbR := AR.out.2.2.2.2.2.2.2.2.2.1
              have ko := gopen_c wc A10.out.1
              by_cases hm : r10.why = 0 ∧ sv ≠ sm0
              · have e : tb = true := by rw [← Atb.out.1]; exact decide_eq_true hm
                subst e
                obtain ⟨gp1, gp2⟩ := gpos hm.1
                have d4 : wc.cell? ⟨R, 4, none⟩ = some (.int .i64 ((p2 + 4 : Nat) : Int)) := by rw [← gp1]; exact A10.out.1.c4
                obtain ⟨p4, hp4⟩ : ∃ p4, p2 + 4 = p4 := ⟨_, rfl⟩
                obtain ⟨p3, hp3⟩ : ∃ p3, p4 - 1 = p3 := ⟨_, rfl⟩
                rw [hp4] at d4
                have hpi : (p4 : Int) - 1 = (p3 : Int) := by omega
                have bp3 : (p3 : Int) < 1000000000000 := by omega
                have ks : Calls Tryz.prog 26 #[.pointer (some ⟨R, 0, none⟩), .int .i64 44, .int .i64 (p3 : Int)] wc _ := gstop_c 44 p3 wc A10.out.1
                have hmt : mtail b z r9 = gstop 44 p3 r10 := by
                  unfold mtail
                  rw [AE.out.2.2.1, AE.out.2.1, Atb.out.2, if_pos hm, gp1, hp4, hp3]
                have hE : gmemb b r z = gstop 44 p3 r10 := by
                  rw [AE.out.1]
                  unfold mrest
                  rw [hmt, if_neg (by simp [gstop])]
                have AEE : Aside (gmemb b r z = gstop 44 p3 r10) := hE
                clear hm gpos gp1 gp2 hp4 hp3 hmt hE hLb hsvb hsmb ko
                go_upto_region 15 with (go_at_call 26; refine ks.mono ?_; rintro e11 w11 ⟨rfl, g11, o11⟩)
                have ko2 := gopen_c w11 g11
                rw [decide_eq_false (show ¬ (gstop 44 p3 r10).why = 0 by simp [gstop])] at ko2
                have A11 : Aside (Gm w11 base R a L C (gstop 44 p3 r10) v ∧ Fr base R w w11) := ⟨g11, A10.out.2.1.trans (Fr.of_only o11 hbR)⟩
                clear g11 o11 ks d4 hpi bp3
                go_wp2_with (go_at_call 25; refine ko2.mono ?_; rintro e12 w12 ⟨rfl, rfl⟩)
                first | go_end0 | (refine bodyPost_ret (results_none rfl _ _ _) rfl ?_)
                exact memb_fin AR.out AB.out A4.out AEE.out A11.out.1 A11.out.2
              · have e : tb = false := by rw [← Atb.out.1]; exact decide_eq_false hm
                subst e
                have hmt : mtail b z r9 = r10 := by
                  unfold mtail
                  rw [AE.out.2.2.1, AE.out.2.1, Atb.out.2, if_neg hm]
                by_cases h0 : r10.why = 0
                · rw [decide_eq_true h0] at ko
                  obtain ⟨gp1, gp2⟩ := gpos h0
                  have hli10 : Lies wc a b := lies_low AR.out.2.2.2.2.2.2.2.2.2.2.2.2.2 ALow.out A10.out.2.1.bel
                  have kn2 := num4 AR.out.2.2.2.2.2.2.2.2.2.2.1 AR.out.2.2.2.2.2.2.2.2.2.2.2.1 hLb (by rw [gp1]; exact gp2) hli10 A10.out.1
                  obtain ⟨sz, hsz⟩ : ∃ sz, gval b 4 r10 = sz := ⟨_, rfl⟩
                  obtain ⟨r11, hr11⟩ : ∃ r11, gnum b 4 r10 = r11 := ⟨_, rfl⟩
                  rw [hsz, hr11] at kn2
                  have hszb : sz < 4294967296 := by rw [← hsz]; exact gval4_lt AR.out.2.2.2.2.2.2.2.2.2.2.1
                  have gpos2 : r11.why = 0 → r11.pos = p2 + 8 ∧ p2 + 8 ≤ L := fun h1 => by
                    have := gnum_four hr11 h0 h1
                    rw [gp1, AR.out.2.2.2.2.2.2.2.2.2.2.2.1] at this
                    exact ⟨by omega, by omega⟩
                  have AF : Aside (gmemb b r z = mclose (msize b z r10) ∧ gval b 4 r10 = sz ∧ gnum b 4 r10 = r11 ∧ (r11.why = 0 → r11.pos = p2 + 8 ∧ p2 + 8 ≤ L) ∧ sz < 4294967296) := ⟨by rw [AE.out.1]; unfold mrest; rw [hmt, if_pos h0], hsz, hr11, gpos2, hszb⟩
                  clear hm hmt h0 gpos gp1 gp2 hli10 hsz hr11 hszb gpos2 hsvb hsmb
                  go_upto_region 17 with (first
                    | (go_at_call 25; refine ko.mono ?_; rintro e11 w11 ⟨rfl, rfl⟩)
                    | (go_at_call 38; refine kn2.mono ?_; rintro e12 w12 ⟨rfl, g12, o12⟩))
                  have A12 : Aside (Gm w12 base R a L C r11 v ∧ Fr base R w w12 ∧ Rz w12 w3.heap.size Q a2 L2 C2 z oa oc ta tc) := ⟨g12, A10.out.2.1.trans (Fr.of_only o12 hbR), A10.out.2.2.fr (Fr.of_only (lo := base) o12 hbR) A4.out.2.2.2.2.2.2.1⟩
                  clear kn2 g12 o12 ko
                  have ko := gopen_c w12 A12.out.1
                  have dz : w12.cell? ⟨Q, 2, none⟩ = some (.slice oa n oc) := by rw [← A4.out.2.2.1]; exact A12.out.2.2.c2
                  have hnb : n ≤ 1048576 := by have := A4.out.2.2.2.1; have := AR.out.2.2.2.2.2.2.2.1; omega
                  have hnm1 : (n : Int) % 4294967296 = (n : Int) := by omega
                  have hnm2 : Int.tmod (n : Int) 4294967296 = (n : Int) := by rw [Int.tmod_eq_emod_of_nonneg (by omega)]; exact hnm1
                  have hnm3 : n % 4294967296 = n := by omega
                  have hszb := AF.out.2.2.2.2
                  have hszI : (sz : Int) < 4294967296 := by omega
                  have hnbI : (n : Int) < 4294967296 := by omega
                  obtain ⟨tq, htq⟩ : ∃ tq, decide (r11.why = 0 ∧ sz ≠ n) = tq := ⟨_, rfl⟩
                  have Atq : Aside (decide (r11.why = 0 ∧ sz ≠ n) = tq ∧ n % 4294967296 = n) := ⟨htq, hnm3⟩
                  clear htq hnb hnm3 hszb
                  go_cut [153] (fun s wq => s = .bool tq ∧ wq = w12)
                  case first => as_aux_lemma =>
                    by_cases h0 : r11.why = 0
                    · rw [decide_eq_true h0] at ko
                      by_cases hs : sz = n
                      · have t1 : ((sz : Int) != (n : Int)) = false := by rw [hs]; simp
                        have e : tq = false := by rw [← Atq.out.1]; exact decide_eq_false (fun q => q.2 hs)
                        clear h0 hs
                        go_wp2_with (go_at_call 25; refine ko.mono ?_; rintro e2 w2 ⟨rfl, rfl⟩)
                        go_meet
                        exact ⟨by rw [e], rfl⟩
                      · have t1 : ((sz : Int) != (n : Int)) = true := by rw [bne_iff_ne]; omega
                        have e : tq = true := by rw [← Atq.out.1]; exact decide_eq_true ⟨h0, hs⟩
                        clear h0 hs
                        go_wp2_with (go_at_call 25; refine ko.mono ?_; rintro e2 w2 ⟨rfl, rfl⟩)
                        go_meet
                        exact ⟨by rw [e], rfl⟩
                    · rw [decide_eq_false h0] at ko
                      have e : tq = false := by rw [← Atq.out.1]; exact decide_eq_false (fun q => h0 q.1)
                      clear h0
                      go_wp2_with (go_at_call 25; refine ko.mono ?_; rintro e2 w2 ⟨rfl, rfl⟩)
                      go_meet
                      exact ⟨by rw [e], rfl⟩
                  case rest =>
                    obtain ⟨rfl, rfl⟩ := hcut
                    clear ko dz hnm1 hnm2 hszI hnbI
                    have ko := gopen_c wc A12.out.1
                    by_cases hm : r11.why = 0 ∧ sz ≠ n
                    · have e : tq = true := by rw [← Atq.out.1]; exact decide_eq_true hm
                      subst e
                      obtain ⟨gp1, gp2⟩ := AF.out.2.2.2.1 hm.1
                      have d4 : wc.cell? ⟨R, 4, none⟩ = some (.int .i64 ((p2 + 8 : Nat) : Int)) := by rw [← gp1]; exact A12.out.1.c4
                      obtain ⟨p4, hp4⟩ : ∃ p4, p2 + 8 = p4 := ⟨_, rfl⟩
                      obtain ⟨p3, hp3⟩ : ∃ p3, p4 - 1 = p3 := ⟨_, rfl⟩
                      rw [hp4] at d4
                      have hpi : (p4 : Int) - 1 = (p3 : Int) := by omega
                      have bp3 : (p3 : Int) < 1000000000000 := by omega
                      have ks : Calls Tryz.prog 26 #[.pointer (some ⟨R, 0, none⟩), .int .i64 45, .int .i64 (p3 : Int) ] wc _ := gstop_c 45 p3 wc A12.out.1
                      have hE : gmemb b r z = gstop 45 p3 r11 := by
                        rw [AF.out.1]
                        have : msize b z r10 = gstop 45 p3 r11 := by
                          unfold msize
                          rw [AF.out.2.2.1, AF.out.2.1, A4.out.2.2.1, Atq.out.2, if_pos hm, gp1, hp4, hp3]
                        rw [this]
                        unfold mclose
                        rw [if_neg (by simp [gstop])]
                      have AEE : Aside (gmemb b r z = gstop 45 p3 r11) := hE
                      clear hm gp1 gp2 hp4 hp3 hE hLb ko
                      go_upto_region 19 with (go_at_call 26; refine ks.mono ?_; rintro e11 w11 ⟨rfl, g11, o11⟩)
                      have ko2 := gopen_c w11 g11
                      rw [decide_eq_false (show ¬ (gstop 45 p3 r11).why = 0 by simp [gstop])] at ko2
                      have A11 : Aside (Gm w11 base R a L C (gstop 45 p3 r11) v ∧ Fr base R w w11) := ⟨g11, A12.out.2.1.trans (Fr.of_only o11 hbR)⟩
                      clear g11 o11 ks d4 hpi bp3
                      go_wp2_with (go_at_call 25; refine ko2.mono ?_; rintro e12 w12 ⟨rfl, rfl⟩)
                      first | go_end0 | (refine bodyPost_ret (results_none rfl _ _ _) rfl ?_)
                      exact memb_fin AR.out AB.out A4.out AEE.out A11.out.1 A11.out.2
                    · have e : tq = false := by rw [← Atq.out.1]; exact decide_eq_false hm
                      subst e
                      have hms : msize b z r10 = r11 := by
                        unfold msize
                        rw [AF.out.2.2.1, AF.out.2.1, A4.out.2.2.1, Atq.out.2, if_neg hm]
                      by_cases h0 : r11.why = 0
                      · rw [decide_eq_true h0] at ko
                        obtain ⟨gp1, gp2⟩ := AF.out.2.2.2.1 h0
                        have d4 : wc.cell? ⟨R, 4, none⟩ = some (.int .i64 ((p2 + 8 : Nat) : Int)) := by rw [← gp1]; exact A12.out.1.c4
                        obtain ⟨p4, hp4⟩ : ∃ p4, p2 + 8 = p4 := ⟨_, rfl⟩
                        obtain ⟨p3, hp3⟩ : ∃ p3, p4 - 1 = p3 := ⟨_, rfl⟩
                        rw [hp4] at d4
                        have hpi : (p4 : Int) - 1 = (p3 : Int) := by omega
                        have bp3 : (p3 : Int) < 1000000000000 := by omega
                        have hev1 : r11.ev = r9.ev := by
                          rw [← AF.out.2.2.1, (gnum_kee (b := b) (r := r10) 4).2, ← AE.out.2.2.1, (gnum_kee (b := b) (r := r9) 4).2]
                        have kt := gtell_c p3 257 [] hbR A12.out.1 (by rw [hev1]; have := AEv.out; omega)
                        have e257 : gevv 257 [] = #[.int .i64 3, .int .u8 0, .int .i64 0, .int .i64 0, .string ⟨#[]⟩] := rfl
                        rw [e257] at kt
                        have AEE : Aside (gmemb b r z = { r11 with ev := r11.ev ++ [(p3, 257, [])] }) := by
                          show gmemb b r z = { r11 with ev := r11.ev ++ [(p3, 257, [])] }
                          rw [AF.out.1, hms]
                          unfold mclose
                          rw [if_pos h0, gp1, hp4, hp3]
                        clear hm hms h0 gp1 gp2 hp4 hp3 hLb hev1 e257
                        go_wp2_with (first
                          | (go_at_call 25; refine ko.mono ?_; rintro e12 w13 ⟨rfl, rfl⟩)
                          | (go_at_call 36; refine kt.mono ?_; rintro e13 w14 ⟨rfl, ⟨v14, g14⟩, f14⟩))
                        first | go_end0 | (refine bodyPost_ret (results_none rfl _ _ _) rfl ?_)
                        exact memb_fin AR.out AB.out A4.out AEE.out g14 (A12.out.2.1.trans f14)
                      · rw [decide_eq_false h0] at ko
                        have AEE : Aside (gmemb b r z = r11) := by
                          show gmemb b r z = r11
                          rw [AF.out.1, hms]
                          unfold mclose
                          rw [if_neg h0]
                        clear hm hms h0 hLb
                        go_wp2_with (go_at_call 25; refine ko.mono ?_; rintro e12 w13 ⟨rfl, rfl⟩)
                        first | go_end0 | (refine bodyPost_ret (results_none rfl _ _ _) rfl ?_)
                        exact memb_fin AR.out AB.out A4.out AEE.out A12.out.1 A12.out.2.1
                · rw [decide_eq_false h0] at ko
                  have AEE : Aside (gmemb b r z = r10) := by
                    show gmemb b r z = r10
                    rw [AE.out.1]
                    unfold mrest
                    rw [hmt, if_neg h0]
                  clear hm hmt h0 gpos hLb hsvb hsmb
                  go_wp2_with (go_at_call 25; refine ko.mono ?_; rintro e12 w12 ⟨rfl, rfl⟩)
                  first | go_end0 | (refine bodyPost_ret (results_none rfl _ _ _) rfl ?_)
                  exact memb_fin AR.out AB.out A4.out AEE.out A10.out.1 A10.out.2.1
          · have he2 : endC z = false := by simpa using he
            rw [he2] at d6
            obtain ⟨y, hy⟩ : ∃ y, whyC z = y := ⟨_, rfl⟩
            obtain ⟨tt, htt⟩ : ∃ tt, atC L2 z = tt := ⟨_, rfl⟩
            obtain ⟨q, hq⟩ : ∃ q, p + tt = q := ⟨_, rfl⟩
            have hat : tt ≤ L2 := by rw [← htt, ← AB.out.2.1]; exact at_le A4.out.2.1
            have hqL : q ≤ L := by have := AB.out; have := AR.out.2.2.2.2.2.2.1; omega
            have hqi : (p : Int) + (tt : Int) = (q : Int) := by omega
            have bq : (q : Int) < 1000000000000 := by have := AR.out.2.2.2.2.2.2.2.2.2.2.2.2.1; omega
            have hwq : IntKind.i64.wrap (q : Int) = (q : Int) := wr_id _ (by omega) (by omega)
            have e4 : w8.cell? ⟨Q, 4, none⟩ = some (.int .i64 (y : Int)) := by rw [← hy]; exact A8.out.2.2.1.c4
            have e5 : w8.cell? ⟨R, 4, none⟩ = some (.int .i64 (p : Int)) := by rw [← AR.out.2.2.1]; exact A8.out.1.c4
            have e6 : w8.cell? ⟨Q, 5, none⟩ = some (.int .i64 (tt : Int)) := by rw [← htt]; exact A8.out.2.2.1.c5
            have e7 := A8.out.1.c3
            have ks := gstop_c y q (w8.drewN 1) (A8.out.1.drewN 1)
            have hS9 : ∀ (u : World) (r2 : Gr), Gm u base R a L C r2 v → r2.pos = rh.pos → Only R (w8.drewN 1) u → (u.cell? ⟨Q, 4, none⟩ = some (.int .i64 (y : Int)) ∧ u.cell? ⟨R, 4, none⟩ = some (.int .i64 (p : Int)) ∧ u.cell? ⟨Q, 5, none⟩ = some (.int .i64 (tt : Int)) ∧ u.cell? ⟨R, 3, none⟩ = some (.slice a L C)) := fun u r2 g2 ep o2 => by
              have z2 := (A8.out.2.2.1.drewN 1).fr (Fr.of_only (lo := base) o2 AR.out.2.2.2.2.2.2.2.2.2.1) A4.out.2.2.2.2.2.2.1
              exact ⟨by rw [← hy]; exact z2.c4, by rw [← AR.out.2.2.1, ← ep]; exact g2.c4, by rw [← htt]; exact z2.c5, g2.c3⟩
            have AS9 : Aside _ := hS9
            have A9 : Aside (whyC z = y ∧ min (p + atC L2 z) L = q ∧ endC z = false) := ⟨hy, by rw [htt, hq]; omega, he2⟩
            have hnq : ¬ L < q := by omega
            clear hS9 hy htt hq hat hqL he he2
            go_upto_region 10 with fail
            refine wp_region_held_drew (S := fun u => u.cell? ⟨Q, 4, none⟩ = some (.int .i64 (y : Int)) ∧ u.cell? ⟨R, 4, none⟩ = some (.int .i64 (p : Int)) ∧ u.cell? ⟨Q, 5, none⟩ = some (.int .i64 (tt : Int)) ∧ u.cell? ⟨R, 3, none⟩ = some (.slice a L C)) (by kernel_rfl) ⟨e4, e5, e6, e7⟩ (fun hHeld => ?_)
            refine wpAnyH_take (i := 0) (oi := ⟨_, _, _, _, _, _⟩) (v := ?_) rfl (by kernel_rfl) (by kernel_rfl) (by kernel_rfl) (fun _ _ _ h => h) (Or.inl ⟨by rfl, ?_⟩) hHeld ?_
            rotate_left
            · (intro w9 hSw; (try dsimp only at hSw); obtain ⟨q0, q1, q2, q3⟩ := hSw; go_simp; try (with_reducible rfl))
            try simp only [Act.put, List.setIfInBounds_toArray, List.set_cons_zero, List.set_cons_succ]
            refine wpAnyH_take (i := 1) (oi := ⟨_, _, _, _, _, _⟩) (v := ?_) rfl (by kernel_rfl) (by kernel_rfl) (by kernel_rfl) (fun _ _ _ h => h) (Or.inl ⟨by rfl, ?_⟩) hHeld ?_
            rotate_left
            · (intro w9 hSw; (try dsimp only at hSw); obtain ⟨q0, q1, q2, q3⟩ := hSw; go_simp; try (with_reducible rfl))
            try simp only [Act.put, List.setIfInBounds_toArray, List.set_cons_zero, List.set_cons_succ]
            refine wpAnyH_take (i := 2) (oi := ⟨_, _, _, _, _, _⟩) (v := ?_) rfl (by kernel_rfl) (by kernel_rfl) (by kernel_rfl) (fun _ _ _ h => h) (Or.inl ⟨by rfl, ?_⟩) hHeld ?_
            rotate_left
            · (intro w9 hSw; (try dsimp only at hSw); obtain ⟨q0, q1, q2, q3⟩ := hSw; go_simp; try (with_reducible rfl))
            try simp only [Act.put, List.setIfInBounds_toArray, List.set_cons_zero, List.set_cons_succ]
            refine wpAnyH_take (i := 3) (oi := ⟨_, _, _, _, _, _⟩) (v := ?_) rfl (by kernel_rfl) (by kernel_rfl) (by kernel_rfl) (fun _ _ _ h => h) (Or.inl ⟨by rfl, ?_⟩) hHeld ?_
            rotate_left
            · (intro w9 hSw; (try dsimp only at hSw); obtain ⟨q0, q1, q2, q3⟩ := hSw; go_simp; try (with_reducible rfl))
            try simp only [Act.put, List.setIfInBounds_toArray, List.set_cons_zero, List.set_cons_succ]
            refine wpAnyH_take (i := 4) (oi := ⟨_, _, _, _, _, _⟩) (v := ?_) rfl (by kernel_rfl) (by kernel_rfl) (by kernel_rfl) (fun _ _ _ h => h) (Or.inl ⟨by rfl, ?_⟩) hHeld ?_
            rotate_left
            · (intro w9 hSw; (try dsimp only at hSw); obtain ⟨q0, q1, q2, q3⟩ := hSw; go_simp; try (with_reducible rfl))
            try simp only [Act.put, List.setIfInBounds_toArray, List.set_cons_zero, List.set_cons_succ]
            refine wpAnyH_take (i := 5) (oi := ⟨_, _, _, _, _, _⟩) (v := ?_) rfl (by kernel_rfl) (by kernel_rfl) (by kernel_rfl) (fun _ _ _ h => h) (Or.inl ⟨by rfl, ?_⟩) hHeld ?_
            rotate_left
            · (intro w9 hSw; (try dsimp only at hSw); obtain ⟨q0, q1, q2, q3⟩ := hSw; go_simp; try (with_reducible rfl))
            try simp only [Act.put, List.setIfInBounds_toArray, List.set_cons_zero, List.set_cons_succ]
            refine wpAnyH_take (i := 6) (oi := ⟨_, _, _, _, _, _⟩) (v := ?_) rfl (by kernel_rfl) (by kernel_rfl) (by kernel_rfl) (fun _ _ _ h => h) (Or.inl ⟨by rfl, ?_⟩) hHeld ?_
            rotate_left
            · (intro w9 hSw; (try dsimp only at hSw); obtain ⟨q0, q1, q2, q3⟩ := hSw; go_simp; try (with_reducible rfl))
            try simp only [Act.put, List.setIfInBounds_toArray, List.set_cons_zero, List.set_cons_succ]
            refine wpAnyH_take (i := 7) (oi := ⟨_, _, _, _, _, _⟩) (v := ?_) rfl (by kernel_rfl) (by kernel_rfl) (by kernel_rfl) (fun _ _ _ h => h) (Or.inl ⟨by rfl, ?_⟩) hHeld ?_
            rotate_left
            · (intro w9 hSw; (try dsimp only at hSw); obtain ⟨q0, q1, q2, q3⟩ := hSw; go_simp; try (with_reducible rfl))
            try simp only [Act.put, List.setIfInBounds_toArray, List.set_cons_zero, List.set_cons_succ]
            refine wpAnyH_take (i := 8) (oi := ⟨_, _, _, _, _, _⟩) (v := ?_) rfl (by kernel_rfl) (by kernel_rfl) (by kernel_rfl) (fun _ _ _ h => h) (Or.inl ⟨by rfl, ?_⟩) hHeld ?_
            rotate_left
            · (intro w9 hSw; (try dsimp only at hSw); obtain ⟨q0, q1, q2, q3⟩ := hSw; go_simp; try (with_reducible rfl))
            try simp only [Act.put, List.setIfInBounds_toArray, List.set_cons_zero, List.set_cons_succ]
            refine wpAnyH_take (i := 9) (oi := ⟨_, _, _, _, _, _⟩) (v := ?_) rfl (by kernel_rfl) (by kernel_rfl) (by kernel_rfl) (fun _ _ _ h => h) (Or.inl ⟨by rfl, ?_⟩) hHeld ?_
            rotate_left
            · (intro w9 hSw; (try dsimp only at hSw); obtain ⟨q0, q1, q2, q3⟩ := hSw; go_simp; try (with_reducible rfl))
            try simp only [Act.put, List.setIfInBounds_toArray, List.set_cons_zero, List.set_cons_succ]
            refine wpAnyH_take (i := 10) (oi := ⟨_, _, _, _, _, _⟩) (v := ?_) rfl (by kernel_rfl) (by kernel_rfl) (by kernel_rfl) (fun _ _ _ h => h) (Or.inl ⟨by rfl, ?_⟩) hHeld ?_
            rotate_left
            · (intro w9 hSw; (try dsimp only at hSw); obtain ⟨q0, q1, q2, q3⟩ := hSw; go_simp; try (with_reducible rfl))
            try simp only [Act.put, List.setIfInBounds_toArray, List.set_cons_zero, List.set_cons_succ]
            refine wpAnyH_take (i := 11) (oi := ⟨_, _, _, _, _, _⟩) (v := ?_) rfl (by kernel_rfl) (by kernel_rfl) (by kernel_rfl) (fun _ _ _ h => h) (Or.inl ⟨by rfl, ?_⟩) hHeld ?_
            rotate_left
            · (intro w9 hSw; (try dsimp only at hSw); obtain ⟨q0, q1, q2, q3⟩ := hSw; go_simp; try (with_reducible rfl))
            try simp only [Act.put, List.setIfInBounds_toArray, List.set_cons_zero, List.set_cons_succ]
            refine wpAnyH_take (i := 12) (oi := ⟨_, _, _, _, _, _⟩) (v := ?_) rfl (by kernel_rfl) (by kernel_rfl) (by kernel_rfl) (fun _ _ _ h => h) (Or.inl ⟨by rfl, ?_⟩) hHeld ?_
            rotate_left
            · (intro w9 hSw; (try dsimp only at hSw); obtain ⟨q0, q1, q2, q3⟩ := hSw; go_simp; try (with_reducible rfl))
            try simp only [Act.put, List.setIfInBounds_toArray, List.set_cons_zero, List.set_cons_succ]
            refine wpAnyH_take (i := 13) (oi := ⟨_, _, _, _, _, _⟩) (v := ?_) rfl (by kernel_rfl) (by kernel_rfl) (by kernel_rfl) (fun _ _ _ h => h) (Or.inl ⟨by rfl, ?_⟩) hHeld ?_
            rotate_left
            · (intro w9 hSw; (try dsimp only at hSw); obtain ⟨q0, q1, q2, q3⟩ := hSw; go_simp; try (with_reducible rfl))
            try simp only [Act.put, List.setIfInBounds_toArray, List.set_cons_zero, List.set_cons_succ]
            refine wpAnyH_take (i := 14) (oi := ⟨_, _, _, _, _, _⟩) (v := ?_) rfl (by kernel_rfl) (by kernel_rfl) (by kernel_rfl) (fun _ _ _ h => h) (Or.inl ⟨by rfl, ?_⟩) hHeld ?_
            rotate_left
            · (intro w9 hSw; (try dsimp only at hSw); obtain ⟨q0, q1, q2, q3⟩ := hSw; go_simp; try (with_reducible rfl))
            try simp only [Act.put, List.setIfInBounds_toArray, List.set_cons_zero, List.set_cons_succ]
            refine wpAnyH_take (i := 15) (oi := ⟨_, _, _, _, _, _⟩) (v := ?_) rfl (by kernel_rfl) (by kernel_rfl) (by kernel_rfl) (fun _ _ _ h => h) (Or.inl ⟨by rfl, ?_⟩) hHeld ?_
            rotate_left
            · (intro w9 hSw; (try dsimp only at hSw); obtain ⟨q0, q1, q2, q3⟩ := hSw; go_simp; try (with_reducible rfl))
            try simp only [Act.put, List.setIfInBounds_toArray, List.set_cons_zero, List.set_cons_succ]
            refine wpAnyH_take (i := 16) (oi := ⟨_, _, _, _, _, _⟩) (v := ?_) rfl (by kernel_rfl) (by kernel_rfl) (by kernel_rfl) (fun _ _ _ h => h) (Or.inl ⟨by rfl, ?_⟩) hHeld ?_
            rotate_left
            · (intro w9 hSw; (try dsimp only at hSw); obtain ⟨q0, q1, q2, q3⟩ := hSw; go_simp; try (with_reducible rfl))
            try simp only [Act.put, List.setIfInBounds_toArray, List.set_cons_zero, List.set_cons_succ]
            refine wpAnyH_take (i := 17) (oi := ⟨_, _, _, _, _, _⟩) (v := ?_) rfl (by kernel_rfl) (by kernel_rfl) (by kernel_rfl) (fun _ _ _ h => h) (Or.inl ⟨by rfl, ?_⟩) hHeld ?_
            rotate_left
            · (intro w9 hSw; (try dsimp only at hSw); obtain ⟨q0, q1, q2, q3⟩ := hSw; go_simp; try (with_reducible rfl))
            try simp only [Act.put, List.setIfInBounds_toArray, List.set_cons_zero, List.set_cons_succ]
            refine wpAnyH_take (i := 18) (oi := ⟨_, _, _, _, _, _⟩) (v := ?_) rfl (by kernel_rfl) (by kernel_rfl) (by kernel_rfl) (fun _ _ _ h => h) (Or.inl ⟨by rfl, ?_⟩) hHeld ?_
            rotate_left
            · (intro w9 hSw; (try dsimp only at hSw); obtain ⟨q0, q1, q2, q3⟩ := hSw; go_simp; try (with_reducible rfl))
            try simp only [Act.put, List.setIfInBounds_toArray, List.set_cons_zero, List.set_cons_succ]
            refine wpAnyH_take (i := 19) (oi := ⟨_, _, _, _, _, _⟩) (v := ?_) rfl (by kernel_rfl) (by kernel_rfl) (by kernel_rfl) (fun _ _ _ h => h) (Or.inl ⟨by rfl, ?_⟩) hHeld ?_
            rotate_left
            · (intro w9 hSw; (try dsimp only at hSw); obtain ⟨q0, q1, q2, q3⟩ := hSw; go_simp; try (with_reducible rfl))
            try simp only [Act.put, List.setIfInBounds_toArray, List.set_cons_zero, List.set_cons_succ]
            refine wpAnyH_ready (rs := [20]) (by kernel_rfl) (by simp) ?_
            refine AllReadyH.cons (o := ⟨_, _, _, _, _, _⟩) rfl (fun K hK => ?_) AllReadyH.nil
            go_simp
            go_at_call 26
            refine ks.mono ?_
            rintro e8 w9 ⟨rfl, g9, o9⟩
            dsimp only
            have D9 := AS9.out _ _ g9 rfl o9
            refine hK.out _ _ D9 (fun hH9 => ?_)
            clear hK K
            try simp only [Act.put, List.setIfInBounds_toArray, List.set_cons_zero, List.set_cons_succ]
            refine wpAnyH_done (by kernel_rfl) ?_ _
            (try dsimp only [Exit.then])
            have A10 : Aside (Gm w9 base R a L C (gstop y q { rh with ev := T1 ++ gtells p z, left := l2 }) v ∧ Fr base R w w9) := ⟨g9, (A8.out.2.1.trans (Fr.drewN w8 1)).trans (Fr.of_only o9 AR.out.2.2.2.2.2.2.2.2.2.1)⟩
            clear g9 o9 D9 hH9 hHeld hwq ks e4 e5 e6 e7
            go_wp2_with fail
            first | go_end0 | (refine bodyPost_ret (results_none rfl _ _ _) rfl ?_)
            exact memb_open AR.out AB.out A4.out A8.out.2.2.2 A9.out A10.out.1 A10.out.2
  · have AE : Aside (gmemb b r c0 = (ghead b r).1 ∧ ¬ (ghead b r).1.why = 0) := ⟨by unfold gmemb; rw [if_neg h0], h0⟩
    have AH : Aside (base ≤ R) := hbR
    obtain ⟨rh, hrh⟩ : ∃ rh, (ghead b r).1 = rh := ⟨_, rfl⟩
    rw [hrh] at AE
    have AR : Aside ((ghead b r).1 = rh) := hrh
    clear hge hke hpl h0 hp hl hbR ho hL hLb hLC hnil hlow hli hsp hev h hrh
    go_enter Tryz.func27, Tryz.ntmps27
    go_upto_region 1 with (go_at_call 35; refine kh.mono ?_; rintro e1 w1 ⟨rfl, g1, o1⟩)
    rw [AR.out] at g1
    have ko := gopen_c w1 g1
    rw [decide_eq_false AE.out.2] at ko
    have A1 : Aside (Gm w1 base R a L C rh vE ∧ Only R w w1) := ⟨g1, o1⟩
    clear kh g1 o1
    go_wp2_with (go_at_call 25; refine ko.mono ?_; rintro e2 w2 ⟨rfl, rfl⟩)
    first | go_end0 | (refine bodyPost_ret (results_none rfl _ _ _) rfl ?_)
    exact ⟨c0, vE, rfl, fun q => absurd (by rw [← AR.out]; exact q) AE.out.2, by rw [AE.out.1]; exact A1.out.1, Fr.of_only A1.out.2 AH.out⟩
end
end Go.Proofs.YtogednaamndpgaaGreatDoor

/-
  What line, take, last, Put, End, Reset and New come to.
-/
import Derived.Test.YtmlkdpoignimaaaFld
import Derived.Deep.CutBlock
import Derived.Deep.DeepCutAuto
namespace Go.Proofs.Ytmlkdpoignimaaa
open Go.RowKit
set_option linter.unusedVariables false
/-- A reader that goes on: the fields so far, the line that comes now. -/
structure Rg (w : World) (lo B most k : Nat) (F : List Fd) (c : List Nat) : Prop where
  ex : ∃ vl vm, Rm w lo B most k vl (flat F ++ c) (flat F).length vm (mk F) false 0
  km : k ≤ most
  mb : most ≤ 65536
  lk : (flat F ++ c).length ≤ k
  f64 : F.length ≤ 64
  oct : Oct (flat F ++ c)
/-- A reader that is done. -/
structure Rn (w : World) (lo B most : Nat) (F : List Fd) : Prop where
  ex : ∃ k vl vm bg, Rm w lo B most k vl (flat F) bg vm (mk F) true 0
  mb : most ≤ 65536
  lk : (flat F).length ≤ 65536
  f64 : F.length ≤ 64
  oct : Oct (flat F)
/-- A reader that was stopped. -/
structure Rs (w : World) (lo B most y : Nat) : Prop where
  ex : ∃ k vl vm, Rm w lo B most k vl [] 0 vm [] false y
  mb : most ≤ 65536
  ny : y = 30 ∨ y = 31
section
variable {w u : World} {lo B most k bg y : Nat} {vl vm : Value} {l : List Nat} {M : List (Nat × Nat)} {dn : Bool}
/-- What field leaves, whatever it finds. -/
def Fo (w : World) (lo B most k : Nat) (F : List Fd) (s : List Nat) (w' : World) : Prop :=
  ∃ vl l bg vm M y, Rm w' lo B most k vl l bg vm M false y ∧ Chg lo w w' ∧ (((lin F s).1 = 0 ∧ l = flat (lin F s).2 ∧ M = mk (lin F s).2 ∧ y = 0) ∨ ((lin F s).1 ≠ 0 ∧ l = [] ∧ M = [] ∧ y = (lin F s).1))
theorem fd_c {F : List Fd} {s : List Nat} (hF : F = [] ∨ isB (s.headD 0) = false) (h : Rm w lo B most k vl (flat F ++ s) (flat F).length vm (mk F) false 0) (hb : (flat F ++ s).length < 100000) (h64 : F.length ≤ 64) : Calls Try.prog 41 #[.pointer (some ⟨B, 0, none⟩), .int .i64 (nm s : Nat)] w fun e w' => e = .returned (.tuple #[]) ∧ Fo w lo B most k F s w' := by
  by_cases hn : nm s = 0
  · have e : lin F s = (30, []) := by
      rcases hF with rfl | hF
      · cases hB : isB (s.headD 0) with
        | true => exact lin_none hB
        | false => exact lin_bad hB hn
      · exact lin_bad hF hn
    rw [hn]
    refine (field_bad h).mono ?_
    rintro e1 w1 ⟨he, vl1, vm1, r1, ch⟩
    exact ⟨he, vl1, [], 0, vm1, [], 30, r1, ch, Or.inr ⟨by rw [e]; decide, rfl, rfl, by rw [e]⟩⟩
  · have hB : isB (s.headD 0) = false := by
      cases hB : isB (s.headD 0) with
      | true => exact absurd (nm_blank hB) hn
      | false => rfl
    by_cases h4 : F.length = 64
    · have e := lin_many hB hn h4
      refine (field_many (nm s) hn h (by rw [mk_length]; exact h4)).mono ?_
      rintro e1 w1 ⟨he, vl1, vm1, r1, ch⟩
      exact ⟨he, vl1, [], 0, vm1, [], 31, r1, ch, Or.inr ⟨by rw [e]; decide, rfl, rfl, by rw [e]⟩⟩
    · have e := lin_new hB hn h4
      have hlt := nm_lt s hn
      rw [List.length_append] at hb
      refine (field_new (nm s) hn (by omega) (by omega) h (by rw [mk_length]; omega)).mono ?_
      rintro e1 w1 ⟨he, vm1, r1, ch⟩
      refine ⟨he, vl, _, _, vm1, _, 0, r1, ch, Or.inl ⟨by rw [e], ?_, ?_, rfl⟩⟩
      · rw [flat_lin (by rw [e])]
      · rw [e]; exact (mk_new hn).symm
/-- What line leaves. -/
def Lt (w : World) (lo B most k : Nat) (F : List Fd) (s : List Nat) (w' : World) : Prop :=
  (((lin F s).1 = 0 ∧ ∃ vl vm, Rm w' lo B most k vl (flat (lin F s).2) (flat (lin F s).2).length vm (mk (lin F s).2) false 0) ∨ ((lin F s).1 ≠ 0 ∧ ∃ vl vm, Rm w' lo B most k vl [] 0 vm [] false (lin F s).1)) ∧ Chg lo w w'
theorem lies_drop {w : World} {a : Option Addr} {g o : Nat} {l : List Nat} (ha : a = some ⟨g, o, none⟩) (h : ∀ (i x : Nat), l[i]? = some x → w.cell? ⟨g, o + i, none⟩ = some (.int .u8 (x : Int))) (n : Nat) : Lies w (some ⟨g, o + n, none⟩) (l.drop n) :=
  Or.inr ⟨g, o + n, rfl, fun i x hx => by rw [List.getElem?_drop] at hx; rw [Nat.add_assoc]; exact h _ _ hx⟩
set_option maxHeartbeats 2000000 in
theorem line_c {F : List Fd} {s : List Nat} (hs : s ≠ []) (h : Rm w lo B most k vl (flat F ++ s) (flat F).length vm (mk F) false 0) (hb : (flat F ++ s).length < 100000) (ho : Oct (flat F ++ s)) (h64 : F.length ≤ 64) : Calls Try.prog 39 #[.pointer (some ⟨B, 0, none⟩)] w fun e w' => e = .returned (.tuple #[]) ∧ Lt w lo B most k F s w' := by
  obtain ⟨x, s', rfl⟩ : ∃ x s', s = x :: s' := by
    cases s with
    | nil => exact absurd rfl hs
    | cons x s' => exact ⟨x, s', rfl⟩
  have c2 := h.c2
  have c3 := h.c3
  have c4 := h.c4
  have f3 := h.fz 3
  obtain ⟨a, cp, hv, hcp, hl, _⟩ := h.vlShape
  obtain ⟨ma, mcp, hm, hmcp, _, _⟩ := h.vmShape
  rw [mk_length] at hm
  obtain ⟨g, o, ha, hc⟩ : ∃ g o, a = some ⟨g, o, none⟩ ∧ ∀ (j z : Nat), (flat F ++ x :: s')[j]? = some z → w.cell? ⟨g, o + j, none⟩ = some (.int .u8 (z : Int)) := by
    rcases hl with e | h
    · simp at e
    · exact h
  obtain ⟨q, hq⟩ : ∃ q, (flat F).length = q := ⟨_, rfl⟩
  obtain ⟨L, hL⟩ : ∃ L, (flat F ++ x :: s').length = L := ⟨_, rfl⟩
  obtain ⟨S, hS⟩ : ∃ S, (x :: s').length = S := ⟨_, rfl⟩
  obtain ⟨N, hN⟩ : ∃ N, F.length = N := ⟨_, rfl⟩
  have hLS : L = q + S := by rw [List.length_append] at hL; omega
  have hS1 : 0 < S := by simp at hS; omega
  have hcx : w.cell? ⟨g, o + q, none⟩ = some (.int .u8 (x : Int)) := hc q x (by rw [← hq]; simp)
  have hlz : Lies w (some ⟨g, o + q, none⟩) (x :: s') := by
    have := lies_drop ha hc q
    rw [← hq, List.drop_left] at this
    rw [← hq]; exact this
  have hx256 : x < 256 := ho x (by simp)
  have hcol := fun C n => colon_c (w.drewN n) _ (x :: s') S C (hlz.drewN n) hS (by omega) ho.right
  subst ha
  rw [hL] at hv hcp
  rw [hq] at c3
  rw [hN] at hm
  subst hv
  subst hm
  have hLI : (L : Int) < 100000 := by omega
  have hSI : ((L : Int) - (q : Int)) = (S : Int) := by omega
  have hqL : (q : Int) ≤ (L : Int) := by omega
  have hqne : (cp = q) = False := eq_false (by omega)
  have hqne2 : (q = cp) = False := eq_false (by omega)
  have hcpI : (L : Int) ≤ (cp : Int) := by omega
  have hSI2 : L - q = S := by omega
  have hSI3 : (0 : Int) < (S : Int) := by omega
  have hxI : (x : Int) < 256 := by omega
  have A : Aside (Rm w lo B most k (.slice (some ⟨g, o, none⟩) L cp) (flat F ++ x :: s') (flat F).length (.slice ma N mcp) (mk F) false 0 ∧ (flat F ++ x :: s').length < 100000 ∧ F.length ≤ 64 ∧ F.length = N) := ⟨h, hb, h64, hN⟩
  by_cases hcase : F = [] ∨ isB ((x :: s').headD 0) = false
  · have hfd := fun n => fd_c hcase (h.drewN n) hb h64
    have hfin : ∀ (W : World) n, Fo (w.drewN n) lo B most k F (x :: s') W → ∃ vl1 l1 bg1 vm1 M1 y1, Rm W lo B most k vl1 l1 bg1 vm1 M1 false y1 ∧ Lt w lo B most k F (x :: s') (W.setCell ⟨B, 3, none⟩ (.int .i64 (l1.length : Int))) := by
      rintro W n ⟨vl1, l1, bg1, vm1, M1, y1, r1, ch, hor⟩
      refine ⟨vl1, l1, bg1, vm1, M1, y1, r1, ?_, ((Chg.refl lo w).drewN n).trans (ch.trans (r1.chg _ _))⟩
      rcases hor with ⟨e0, rfl, rfl, rfl⟩ | ⟨e0, rfl, rfl, rfl⟩
      · exact Or.inl ⟨e0, _, _, r1.set3 _⟩
      · exact Or.inr ⟨e0, _, _, r1.set3 0⟩
    have hcase2 : N = 0 ∨ (N ≠ 0 ∧ isB x = false) := by
      rcases hcase with e | e
      · left; rw [← hN, e]; rfl
      · by_cases h0 : N = 0
        · left; exact h0
        · right; exact ⟨h0, e⟩
    clear h hb ho h64 hl hc hlz hcp hmcp hcase hs hL hS hq hLS hx256
    rcases hcase2 with h0 | ⟨h0, hbx⟩
    · subst h0
      have hbl := fun W => blank_c x W
      go_enter Try.func39, Try.ntmps39
      go_wp2_with fail
      go_quiet (fail)
      go_wp2_with (first
        | (go_at_call 40; refine (hbl _).mono ?_; rintro e0 w0 ⟨rfl, rfl⟩)
        | (go_at_call 42; refine (hcol _ _).mono ?_; rintro e1 w1 ⟨rfl, rfl⟩)
        | (go_at_call 41; refine (hfd _).mono ?_; rintro e2 w2 ⟨rfl, h2⟩; obtain ⟨vl1, l1, bg1, vm1, M1, y1, r1, hr⟩ := hfin _ _ h2; have d2 := r1.c2; have d3 := r1.c3; have g3 := r1.fz 3; obtain ⟨a1, cp1, hv1, _⟩ := r1.vlShape; subst hv1))
      go_end0
      exact ⟨rfl, hr⟩
    · have t0 : ((N : Int) == 0) = false := by rw [beq_eq_false_iff_ne]; omega
      have hbl := fun W => blank_c x W
      rw [hbx] at hbl
      clear h0 hbx
      go_enter Try.func39, Try.ntmps39
      go_wp2_with fail
      go_quiet (fail)
      go_wp2_with (first
        | (go_at_call 40; refine (hbl _).mono ?_; rintro e0 w0 ⟨rfl, rfl⟩)
        | (go_at_call 42; refine (hcol _ _).mono ?_; rintro e1 w1 ⟨rfl, rfl⟩)
        | (go_at_call 41; refine (hfd _).mono ?_; rintro e2 w2 ⟨rfl, h2⟩; obtain ⟨vl1, l1, bg1, vm1, M1, y1, r1, hr⟩ := hfin _ _ h2; have d2 := r1.c2; have d3 := r1.c3; have g3 := r1.fz 3; obtain ⟨a1, cp1, hv1, _⟩ := r1.vlShape; subst hv1))
      go_end0
      exact ⟨rfl, hr⟩
  · have hF : F ≠ [] := fun e => hcase (Or.inl e)
    have hB : isB x = true := by
      cases e : isB x with
      | true => rfl
      | false => exact absurd (Or.inr e) hcase
    have hm2 := mk_lin_b (F := F) (s := x :: s') hB hF
    have hfl := flat_lin hm2.1
    have t0 : ((N : Int) == 0) = false := by
      rw [beq_eq_false_iff_ne]
      have := List.length_pos_iff.2 hF
      omega
    have hbl := fun W => blank_c x W
    rw [hB] at hbl
    have AF : Aside (∀ n, Lt w lo B most k F (x :: s') ((w.drewN n).setCell ⟨B, 3, none⟩ (.int .i64 (L : Int)))) := by
      intro n
      refine ⟨Or.inl ⟨hm2.1, .slice (some ⟨g, o, none⟩) L cp, .slice ma N mcp, ?_⟩, ((Chg.refl lo w).drewN n).trans ((h.drewN n).chg _ _)⟩
      rw [hm2.2, hfl, hL]
      exact (h.drewN n).set3 L
    clear h hb ho h64 hl hc hlz hcp hmcp hcase hs hL hS hq hLS hx256 hF hB hm2 hfl A hN
    go_enter Try.func39, Try.ntmps39
    go_wp2_with fail
    go_quiet (fail)
    go_wp2_with (go_at_call 40; refine (hbl _).mono ?_; rintro e0 w0 ⟨rfl, rfl⟩)
    go_end0
    exact ⟨rfl, AF.out _⟩
/-- What a byte does. -/
def nx (most k : Nat) (F : List Fd) (c : List Nat) (b : Nat) : Nat × Bool × List Fd × List Nat :=
  if most ≤ k then (31, false, [], [])
  else if b = 10 then (if d13 c = [] then (0, true, F, []) else ((lin F (d13 c)).1, false, (lin F (d13 c)).2, []))
  else (0, false, F, c ++ [b])
/-- A reader behind a byte. -/
def Nx (w : World) (lo B most k : Nat) (r : Nat × Bool × List Fd × List Nat) : Prop :=
  if r.1 ≠ 0 then Rs w lo B most r.1 else if r.2.1 = true then Rn w lo B most r.2.2.1 else Rg w lo B most k r.2.2.1 r.2.2.2
theorem d13_len (c : List Nat) : (d13 c).length ≤ c.length := by
  unfold d13; split
  · simp
  · exact Nat.le_refl _
theorem d13_oct {c : List Nat} (h : Oct c) : Oct (d13 c) := by
  unfold d13; split
  · exact fun x hx => h x (List.dropLast_subset _ hx)
  · exact h
theorem lt_nx {F : List Fd} {c : List Nat} {w' : World} (h : Lt w lo B most (k + 1) F (d13 c) w') (hne : d13 c ≠ []) (hkm : k < most) (hmb : most ≤ 65536) (hlk : (flat F ++ c).length ≤ k) (h64 : F.length ≤ 64) (ho : Oct (flat F ++ c)) (w0 : World) (hw : Chg lo w0 w) : Nx w' lo B most (k + 1) (nx most k F c 10) ∧ Chg lo w0 w' := by
  obtain ⟨h1, h2⟩ := h
  refine ⟨?_, hw.trans h2⟩
  have e : nx most k F c 10 = ((lin F (d13 c)).1, false, (lin F (d13 c)).2, []) := by
    unfold nx
    rw [if_neg (by omega), if_pos rfl, if_neg hne]
  rw [e]
  rcases h1 with ⟨e0, vl1, vm1, r1⟩ | ⟨e0, vl1, vm1, r1⟩
  · unfold Nx
    rw [if_neg (by simpa using e0), if_neg (by simp)]
    have hf := flat_lin e0
    refine ⟨⟨vl1, vm1, by rw [List.append_nil]; exact r1⟩, by omega, hmb, ?_, lin_len h64, ?_⟩
    · simp only [List.append_nil]
      rw [hf, List.length_append]
      have := d13_len c
      rw [List.length_append] at hlk
      omega
    · simp only [List.append_nil]
      rw [hf]
      exact ho.left.append (d13_oct ho.right)
  · unfold Nx
    rw [if_pos e0]
    refine ⟨⟨_, vl1, vm1, r1⟩, hmb, ?_⟩
    rcases lin_why F (d13 c) with e | e | e
    · exact absurd e e0
    · exact Or.inl e
    · exact Or.inr e
set_option maxHeartbeats 1000000 in
theorem take_c {F : List Fd} {c : List Nat} (x : Nat) (hx : x < 256) (hkm : k < most) (hmb : most ≤ 65536) (hlk : (flat F ++ c).length ≤ k) (h64 : F.length ≤ 64) (ho : Oct (flat F ++ c)) (h : Rm w lo B most (k + 1) vl (flat F ++ c) (flat F).length vm (mk F) false 0) : Calls Try.prog 30 #[.pointer (some ⟨B, 0, none⟩), .int .u8 (x : Int)] w fun e w' => e = .returned (.tuple #[]) ∧ Nx w' lo B most (k + 1) (nx most k F c x) ∧ Chg lo w w' := by
  by_cases h10 : x = 10
  · subst h10
    have hdr := drop_c h (by omega)
    have hline := fun W (vl' : Value) (hne : d13 c ≠ []) (hr : Rm W lo B most (k + 1) vl' (flat F ++ d13 c) (flat F).length vm (mk F) false 0) => line_c (F := F) (s := d13 c) hne hr (by have := d13_len c; rw [List.length_append] at *; omega) (ho.left.append (d13_oct ho.right)) h64
    by_cases hd : d13 c = []
    · have e : nx most k F c 10 = (0, true, F, []) := by
        unfold nx
        rw [if_neg (by omega), if_pos rfl, if_pos hd]
      rw [e]
      obtain ⟨q, hq⟩ : ∃ q, (flat F).length = q := ⟨_, rfl⟩
      have t1 : ((q : Int) == (q : Int)) = true := by simp
      have AF : Aside (∀ (W W' : World) (vl' : Value) n, Rm W lo B most (k + 1) vl' (flat F ++ d13 c) (flat F).length vm (mk F) false 0 → Chg lo w W → Nx ((W.drewN n).setCell ⟨B, 5, none⟩ (.bool true)) lo B most (k + 1) (0, true, F, []) ∧ Chg lo w ((W.drewN n).setCell ⟨B, 5, none⟩ (.bool true))) := by
        intro W W' vl' n hr hc
        refine ⟨?_, (hc.drewN n).trans ((hr.drewN n).chg _ _)⟩
        unfold Nx
        rw [if_neg (by simp), if_pos rfl]
        rw [hd, List.append_nil] at hr
        rw [List.length_append] at hlk
        exact ⟨⟨_, _, _, _, (hr.drewN n).set5 true⟩, hmb, by simp only; omega, h64, ho.left⟩
      have hlq : (flat F ++ d13 c).length = q := by rw [hd, List.append_nil, hq]
      clear h hline
      rw [hq] at hdr
      go_enter Try.func30, Try.ntmps30
      go_upto_region 3 with (go_at_call 38; refine hdr.mono ?_; rintro e1 w1 ⟨rfl, vl1, r1, ch1⟩)
      have d2 := r1.c2
      have d3 := r1.c3
      have d5 := r1.c5
      have g5 := r1.fz 5
      obtain ⟨a1, cp1, hv1, _⟩ := r1.vlShape
      rw [hlq] at hv1
      subst hv1
      have AR : Aside (Rm w1 lo B most (k + 1) (.slice a1 q cp1) (flat F ++ d13 c) (flat F).length vm (mk F) false 0 ∧ Chg lo w w1) := ⟨by rw [hq]; exact r1, ch1⟩
      clear r1 ch1 hdr hlq hq hd e ho hlk hkm hmb h64 hx
      go_quiet (fail)
      go_wp2_with fail
      first | go_end0 | (refine bodyPost_ret (results_none rfl _ _ _) rfl ?_)
      exact ⟨rfl, AF.out _ w _ _ AR.out.1 AR.out.2⟩
    · obtain ⟨q, hq⟩ : ∃ q, (flat F).length = q := ⟨_, rfl⟩
      obtain ⟨Q, hQ⟩ : ∃ Q, (flat F ++ d13 c).length = Q := ⟨_, rfl⟩
      have t1 : ((q : Int) == (Q : Int)) = false := by
        rw [beq_eq_false_iff_ne]
        have := List.length_pos_iff.2 hd
        rw [List.length_append] at hQ
        omega
      have AX : Aside (d13 c ≠ [] ∧ k < most ∧ most ≤ 65536 ∧ (flat F ++ c).length ≤ k ∧ F.length ≤ 64 ∧ Oct (flat F ++ c)) := ⟨hd, hkm, hmb, hlk, h64, ho⟩
      clear h
      go_enter Try.func30, Try.ntmps30
      go_upto_region 3 with (go_at_call 38; refine hdr.mono ?_; rintro e1 w1 ⟨rfl, vl1, r1, ch1⟩)
      have d2 := r1.c2
      have d3 := r1.c3
      obtain ⟨a1, cp1, hv1, _⟩ := r1.vlShape
      rw [hQ] at hv1
      rw [hq] at d3
      subst hv1
      have hl2 := fun n => hline (w1.drewN n) _ hd (r1.drewN n)
      have AR : Aside (Chg lo w w1) := ch1
      clear r1 ch1 hdr hq hd ho hlk hkm hmb h64 hx hline hQ
      go_quiet (fail)
      go_wp2_with (go_at_call 39; refine (hl2 _).mono ?_; rintro e2 w2 ⟨rfl, h2⟩)
      first | go_end0 | (refine bodyPost_ret (results_none rfl _ _ _) rfl ?_)
      have ax := AX.out
      refine ⟨rfl, ?_⟩
      refine lt_nx h2 ax.1 ax.2.1 ax.2.2.1 ax.2.2.2.1 ax.2.2.2.2.1 ax.2.2.2.2.2 w (AR.out.drewN _)
  · have e : nx most k F c x = (0, false, F, c ++ [x]) := by
      unfold nx
      rw [if_neg (by omega), if_neg h10]
    rw [e]
    have t1 : ((x : Int) != 10) = true := by rw [bne_iff_ne]; omega
    have t1' : ((x : Int) == 10) = false := by rw [beq_eq_false_iff_ne]; omega
    obtain ⟨a, cp, hv, hcp, hl, _⟩ := h.vlShape
    obtain ⟨L, hL⟩ : ∃ L, (flat F ++ c).length = L := ⟨_, rfl⟩
    obtain ⟨H, hH⟩ : ∃ H, w.heap.size = H := ⟨_, rfl⟩
    rw [hL] at hv
    have c2 := h.c2
    have b1 : Below w.heap.size w (w.alloc (.cells #[.int .u8 (x : Int)] 5)) := (Below.refl _ w).alloc (Nat.le_refl _) _
    have r1 := h.below b1
    have kH : Cells (w.alloc (.cells #[.int .u8 (x : Int)] 5)) H #[.int .u8 (x : Int)] 5 := by rw [← hH]; exact Cells.new w _ 5
    have hown := r1.lines
    rw [hL, hv] at hown
    obtain ⟨i0, hi, hz0, hz1, hz2⟩ := ginfo_parts ginfo5
    have hlies : ob [x] = [] ∨ ∃ b o, (some ⟨H, 0, none⟩ : Option Addr) = some ⟨b, o, none⟩ ∧ ∀ (i : Nat) u, (ob [x])[i]? = some u → (w.alloc (.cells #[.int .u8 (x : Int)] 5)).cell? ⟨b, o + i, none⟩ = some u :=
      Or.inr ⟨H, 0, rfl, fun j u hj => by rw [Nat.zero_add, kH.cell, ← hj]; simp [ob]⟩
    have A : Aside (Rm (w.alloc (.cells #[.int .u8 (x : Int)] 5)) lo B most (k + 1) vl (flat F ++ c) (flat F).length vm (mk F) false 0 ∧ Chg lo w (w.alloc (.cells #[.int .u8 (x : Int)] 5)) ∧ most ≤ 65536 ∧ (flat F ++ c).length ≤ k ∧ F.length ≤ 64 ∧ Oct (flat F ++ c) ∧ (flat F ++ c).length = L ∧ k < most ∧ x < 256) := ⟨r1, Chg.of_below b1 h.lines.le, hmb, hlk, h64, ho, hL, hkm, hx⟩
    have hk2 : ∀ (v2 : Value) (w2 : World) (n2 : Nat) (xs : List Value), Got lo 5 1 (w.alloc (.cells #[.int .u8 (x : Int)] 5)) w2 (.slice a L cp) v2 n2 xs → w2.cell? ⟨B, 2, none⟩ = some (.slice a L cp) ∧ w2.frozen? ⟨B, 2, none⟩ = false := fun v2 w2 n2 xs hg => by
      have k2 := r1.cells.got hg (by decide)
      refine ⟨?_, k2.frozen 2⟩
      rw [k2.cell, ← hv]; rfl
    have AN : Aside (L + 1 ≤ maxLen ∧ (L + 1) * 1 ≤ 140737488355328) := ⟨by unfold maxLen; omega, by omega⟩
    subst hv
    clear h hcp hl b1 r1 kH hlk h64 ho hL hmb hkm hx h10 e
    go_enter Try.func30, Try.ntmps30
    go_wp2_with (at_builtin; refine wpList_ow Try.prog _ rfl (.tmp 10) (.tmp 12) 22 rfl 5 i0 _ 1 1 Try.underlying22 hi hz0 hz1 hz2 rfl (by decide) lo (.slice a L cp) L _ (by rfl) hown (some ⟨H, 0, none⟩) (ob [x]) 1 1 rfl (by rfl) (by intro h; cases h) hlies ob_one AN.out.1 AN.out.2 ?_; intro v2 w2 hgot; have e2 := (hk2 _ _ _ _ hgot).1; have f2 := (hk2 _ _ _ _ hgot).2; obtain ⟨av, cv, hv2, _⟩ := hgot.ow.shape; subst hv2)
    first | go_end0 | (refine bodyPost_ret (results_none rfl _ _ _) rfl ?_)
    have ae := A.out
    have k2 := ae.1.cells.got hgot (by decide)
    have how := hgot.ow
    rw [ob_append] at how
    refine ⟨rfl, ?_, (ae.2.1.trans (hgot.chg (by decide))).set k2 ae.1.le (by decide)⟩
    unfold Nx
    rw [if_neg (by simp), if_neg (by simp)]
    refine ⟨⟨_, _, ⟨k2.set 2 _, ?_, (ae.1.marks.got hgot (by decide)).set k2 (by decide), ae.1.le⟩⟩, by omega, ae.2.2.1, ?_, ae.2.2.2.2.1, ?_⟩
    · simp only
      rw [← List.append_assoc, List.length_append, ae.2.2.2.2.2.2.1]
      exact how.set k2 (by decide)
    · simp only
      rw [← List.append_assoc, List.length_append]
      have := ae.2.2.2.1
      rw [List.length_append] at this ⊢
      simp; omega
    · simp only
      rw [← List.append_assoc]
      exact ae.2.2.2.2.2.1.append (by intro y hy; simp at hy; rw [hy]; exact ae.2.2.2.2.2.2.2.2)
end
end Go.Proofs.Ytmlkdpoignimaaa

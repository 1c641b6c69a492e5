/-
  What the document's Of comes to: the walk.
-/
import Derived.Test.YtbndohpcaahenaaOfr
import Derived.Laws.Rows
namespace Go.Proofs.Ytbndohpcaahenaa
open Go.RowKit
set_option linter.unusedVariables false
theorem size35 : (Try.prog.info? 35).map (·.size) = some 4 := by kernel_rfl
/-- Lies, cut. -/
theorem Lies.cut {w : World} {g o : Nat} {x : List Nat} (h : ∀ (i v : Nat), x[i]? = some v → w.cell? ⟨g, o + i, none⟩ = some (.int .u8 (v : Int))) (i n : Nat) : Lies w (some ⟨g, o + i, none⟩) ((x.drop i).take n) := by
  refine Or.inr ⟨g, o + i, rfl, fun j v hv => ?_⟩
  rw [List.getElem?_take] at hv
  split at hv
  · rw [List.getElem?_drop] at hv
    rw [Nat.add_assoc]
    exact h _ _ hv
  · cases hv
/-- What the run's memory is at a round's beginning. -/
structure Om (w w1 wr : World) (B : Nat) (v : Value) (T : List (Nat × Nat)) (o ov : Bool) : Prop where
  rr : Rr wr B (B + 1) v T 0 o ov
  fr : Fr B (B + 1) w1 wr
  bel : Below B w wr
theorem Om.drewN {w w1 wr : World} {B : Nat} {v : Value} {T : List (Nat × Nat)} {o ov : Bool} (h : Om w w1 wr B v T o ov) (n : Nat) : Om w w1 (wr.drewN n) B v T o ov := ⟨h.rr.drewN n, h.fr.trans (Fr.drewN wr n), Below.drewN2 h.bel n⟩
theorem Om.dn {w w1 wr u : World} {B : Nat} {v : Value} {T : List (Nat × Nat)} {o ov : Bool} (h : Om w w1 wr B v T o ov) (k : Dn wr u) : Om w w1 u B v T o ov := by obtain ⟨n, rfl⟩ := k; exact h.drewN n
theorem Om.to {w w1 wr u : World} {B : Nat} {v v' : Value} {T T' : List (Nat × Nat)} {o ov o' ov' : Bool} (h : Om w w1 wr B v T o ov) (hr : Rr u B (B + 1) v' T' 0 o' ov') (k : Fr B (B + 1) wr u) : Om w w1 u B v' T' o' ov' := ⟨hr, h.fr.trans k, h.bel.trans k.bel⟩
theorem Om.keepB {w w1 wr : World} {B : Nat} {v : Value} {T : List (Nat × Nat)} {o ov : Bool} (h : Om w w1 wr B v T o ov) {cs : Array Value} (k : Cells w1 B cs 35) (hz : w1.heap.size = B + 2) : Cells wr B cs 35 := by
  unfold Cells at *
  rw [h.fr.kp B (by omega) (by omega) (by rw [k]; intro cs h; cases h)]
  exact k
/-- What is answered. -/
theorem Om.fin {w w1 wr : World} {B : Nat} {v : Value} {T : List (Nat × Nat)} {o ov : Bool} (h : Om w w1 wr B v T o ov) {z0 z1 z2 z3 : Value} (kB : Cells wr B #[z0, z1, z2, z3] 35) (y : Nat) (hy : (if ov then 0 else 33) = y) :
    let w6 := if ov then wr else wr.setCell ⟨B + 1, 1, none⟩ (.int .i64 33)
    Cells ((((w6.setCell ⟨B, 0, none⟩ v).setCell ⟨B, 1, none⟩ (.int .i64 (y : Int))).setCell ⟨B, 2, none⟩ (.bool o)).setCell ⟨B, 3, none⟩ (.bool ov)) B #[v, .int .i64 (y : Int), .bool o, .bool ov] 35 ∧ Ow ((((w6.setCell ⟨B, 0, none⟩ v).setCell ⟨B, 1, none⟩ (.int .i64 (y : Int))).setCell ⟨B, 2, none⟩ (.bool o)).setCell ⟨B, 3, none⟩ (.bool ov)) B 69 6 v T.length (tc T) ∧ Below B w ((((w6.setCell ⟨B, 0, none⟩ v).setCell ⟨B, 1, none⟩ (.int .i64 (y : Int))).setCell ⟨B, 2, none⟩ (.bool o)).setCell ⟨B, 3, none⟩ (.bool ov)) := by
  intro w6
  have k6 : Cells w6 B #[z0, z1, z2, z3] 35 := by
    show Cells (if ov then wr else _) B _ 35
    split
    · exact kB
    · exact kB.only ((Only.refl (B + 1) wr).setCell 1 _) (by omega)
  have o6 : Ow w6 B 69 6 v T.length (tc T) := by
    show Ow (if ov then wr else _) B 69 6 v T.length (tc T)
    split
    · exact h.rr.own
    · exact h.rr.own.set h.rr.cells (by decide)
  have b6 : Below B w w6 := by
    show Below B w (if ov then wr else _)
    split
    · exact h.bel
    · exact h.bel.trans (((Only.refl (B + 1) wr).setCell 1 _).below (by omega))
  have k7 := (k6.set 0 v)
  have k8 := k7.set 1 (.int .i64 (y : Int))
  have k9 := k8.set 2 (.bool o)
  have k10 := k9.set 3 (.bool ov)
  refine ⟨by simpa using k10, (((o6.set k6 (by decide)).set k7 (by decide)).set k8 (by decide)).set k9 (by decide), b6.trans (((((Only.refl B w6).setCell _ _).setCell _ _).setCell _ _).setCell _ _ |>.below (Nat.le_refl _))⟩
/-- What Of answers. -/
structure OfR (B : Nat) (w : World) (TT : List (Nat × Nat)) (Y : Nat) (C : Bool) (e : Ending) (w' : World) : Prop where
  ex : ∃ v o, e = .returned (.agg #[v, .int .i64 (Y : Int), .bool o, .bool C]) ∧ Ow w' B 69 6 v TT.length (tc TT) ∧ Below B w w'
theorem Dn.trans {w u v : World} (h : Dn w u) (k : Dn u v) : Dn w v := by obtain ⟨n, rfl⟩ := k; exact h.drewN n
theorem lkP_le : ∀ (x : List Nat) (n : Nat) (l : Bool), (lkP x n l).1 ≤ 3 := by
  intro x
  induction x with
  | nil => intro n l; simp [lkP]
  | cons y r ih =>
    intro n l
    simp only [lkP]
    repeat' split
    all_goals first | exact ih _ _ | simp
theorem lkD_le (x : List Nat) : (lkD x).1 ≤ 3 := by
  unfold lkD
  repeat' split
  all_goals first | exact lkP_le _ _ _ | simp
theorem lkB_le : ∀ (D x : List Nat), (lkB D x).1 ≤ 3
  | [], x => lkD_le x
  | d :: ds, [] => by simp [lkB]
  | d :: ds, y :: x => by
    simp only [lkB]
    split
    · exact lkB_le ds x
    · simp
theorem look_le (D : List Nat) (f : Bool) (x : List Nat) : (look D f x).1 ≤ 3 := by
  unfold look
  split
  · exact lkB_le D x
  · cases x with
    | nil => simp [lkE]
    | cons y r =>
      rw [lkE_cons]
      split
      · exact lkB_le D r
      · split
        · cases r with
          | nil => simp
          | cons a b =>
            simp only []
            split
            · exact lkB_le D b
            · simp
        · simp
theorem look_empty {D : List Nat} (hD : Bd D) (f : Bool) : look D f [] = (1, false) := by
  obtain ⟨d, ds, rfl⟩ : ∃ d ds, D = d :: ds := by
    cases D with
    | nil => exact absurd rfl hD.ne
    | cons a b => exact ⟨a, b, rfl⟩
  cases f <;> simp [look, lkE, lkB]
theorem exit_or {i L : Nat} {ov : Bool} (h : (decide (i < L) && !ov) = false) : L ≤ i ∨ ov = true := by
  cases ov with
  | true => exact Or.inr rfl
  | false => left; simpa using h
set_option maxHeartbeats 4000000 in
set_option maxRecDepth 200000 in
theorem of_c (w : World) (a : Option Addr) (x : List Nat) (L c : Nat) (b : List Nat) (ho : Oct b) (hb : b.length ≤ 70) (hD : Bd (dd b)) (hox : Oct x) (hL : x.length = L) (hLb : L ≤ 50000000) (hLc : L ≤ c) (hc : c ≤ 4000000000000000000) (hx : Lies w a x) :
    Calls Try.prog 14 #[.slice a L c, .string (st b)] w fun e w' => OfR w.heap.size w (tv (dd b) 0 s0 x) (if cv (dd b) s0 x = true then 0 else 33) (cv (dd b) s0 x) e w' := by
  obtain ⟨D, hDD⟩ : ∃ D, dd b = D := ⟨_, rfl⟩
  obtain ⟨TT, hTT⟩ : ∃ TT, tv D 0 s0 x = TT := ⟨_, rfl⟩
  obtain ⟨C, hC⟩ : ∃ C, cv D s0 x = C := ⟨_, rfl⟩
  have hlook : ∀ (u : World) (f : Bool) (z : List Nat) (az : Option Addr) (n cz : Nat), z.length = n → n ≤ 100000000 → Lies u az z → Calls Try.prog 31 #[.slice az n cz, .string (st b), .bool f] u fun e w' => e = .returned (.tuple #[.int .i64 ((look D f z).1 : Nat), .bool (look D f z).2]) ∧ Dn u w' := fun u f z az n cz h1 h2 h3 => by rw [← hDD]; exact look_c u az z n cz b ho (by omega) f h1 h2 h3
  rw [hDD] at hD ⊢
  rw [hTT, hC]
  obtain ⟨Y, hY⟩ : ∃ Y : Nat, (if C = true then 0 else 33) = Y := ⟨_, rfl⟩
  rw [hY]
  have AY : Aside ((if C = true then 0 else 33) = Y) := hY
  clear hY
  obtain ⟨B, hB⟩ : ∃ B, w.heap.size = B := ⟨_, rfl⟩
  rw [hB]
  obtain ⟨sb, hsb⟩ : ∃ sb, st b = sb := ⟨_, rfl⟩
  rw [hsb] at hlook ⊢
  obtain ⟨w1, hw1⟩ : ∃ w1, (w.alloc (.cells #[.slice none 0 0, .int .i64 0, .bool false, .bool false] 35)).alloc (.cells #[.slice none 0 0, .int .i64 0, .bool false, .bool false] 35) = w1 := ⟨_, rfl⟩
  have kB : Cells w1 B #[.slice none 0 0, .int .i64 0, .bool false, .bool false] 35 := by
    rw [← hw1, ← hB]; exact (Cells.new w _ 35).alloc _
  have kR : Cells w1 (B + 1) #[.slice none 0 0, .int .i64 0, .bool false, .bool false] 35 := by
    rw [← hw1]
    have := Cells.new (w.alloc (.cells #[.slice none 0 0, .int .i64 0, .bool false, .bool false] 35)) #[.slice none 0 0, .int .i64 0, .bool false, .bool false] 35
    rwa [show (w.alloc (.cells #[.slice none 0 0, .int .i64 0, .bool false, .bool false] 35)).heap.size = B + 1 by rw [← hB]; simp] at this
  have bel : Below B w w1 := by
    rw [← hw1, ← hB]
    exact ((Below.refl _ w).alloc (Nat.le_refl _) _).alloc (by simp) _
  have hz1 : w1.heap.size = B + 2 := by rw [← hw1, ← hB]; simp
  have om1 : Om w w1 w1 B (.slice none 0 0) [] false false := ⟨⟨kR, Ow.nil (by omega)⟩, Fr.refl _ _ _, bel⟩
  have hxx : ∀ u, Below B w u → Lies u a x := fun u hu => by
    rcases hx with e | ⟨g, o, ha, hc⟩
    · exact Or.inl e
    · refine Or.inr ⟨g, o, ha, fun i v hv => ?_⟩
      have h1 := hc i v hv
      exact (hu.cell (p := ⟨g, o + i, none⟩) (by rw [← hB]; exact World.block_lt_of_cell? w _ h1)).trans h1
  have AX : Aside (x.length = L ∧ L ≤ 50000000 ∧ L ≤ c ∧ Oct x ∧ Bd D ∧ (∀ u, Below B w u → Lies u a x) ∧ tv D 0 s0 x = TT ∧ cv D s0 x = C ∧ c ≤ 4000000000000000000) := ⟨hL, hLb, hLc, hox, hD, hxx, hTT, hC, hc⟩
  have AK : Aside (∀ (u : World) (f : Bool) (z : List Nat) (az : Option Addr) (n cz : Nat), z.length = n → n ≤ 100000000 → Lies u az z → Calls Try.prog 31 #[.slice az n cz, .string sb, .bool f] u fun e w' => e = .returned (.tuple #[.int .i64 ((look D f z).1 : Nat), .bool (look D f z).2]) ∧ Dn u w') := hlook
  have A1 : Aside (Om w w1 w1 B (.slice none 0 0) [] false false ∧ Cells w1 B #[.slice none 0 0, .int .i64 0, .bool false, .bool false] 35 ∧ w1.heap.size = B + 2) := ⟨om1, kB, hz1⟩
  clear hL hLb hLc hox hD hxx hTT hC hlook hx ho hb hDD hsb kB kR bel om1 hc hz1
  go_enter Try.func14, Try.ntmps14
  go_upto_region 2 with fail
  clear hw1
  go_wp2_with fail
  go_loopg [6, 7] (2 * L + 1) (fun gg s6 s7 wr => ∃ (i : Nat) (f : Bool), s6 = .bool f ∧ s7 = .int .i64 (i : Int) ∧ Aside (2 * (L - i) + f.toNat = gg ∧ i ≤ L ∧ ∃ v T o ov, Om w w1 wr B v T o ov ∧ T.length ≤ 2 * i ∧ Sd D x L i f o ov T TT C))
  case atStart => exact ⟨0, true, rfl, rfl, ⟨by simp, by omega, .slice none 0 0, [], false, false, A1.out.1, by simp, Or.inl ⟨s0, Rs.s0, by simpa using AX.out.2.2.2.2.2.2.1, by simpa using AX.out.2.2.2.2.2.2.2.1⟩⟩⟩
  case round =>
    obtain ⟨i, f, rfl, rfl, hT⟩ := hrel
    obtain ⟨hig, hi, v, T, o, ov, om, hTl, hsd⟩ := hT.out
    have ax := AX.out
    have c3 := om.rr.c3
    obtain ⟨q, hq⟩ : ∃ q, (decide (i < L) && !ov) = q := ⟨_, rfl⟩
    have AR : Aside (2 * (L - i) + f.toNat = gk ∧ i ≤ L ∧ Om w w1 wr B v T o ov ∧ T.length ≤ 2 * i ∧ Sd D x L i f o ov T TT C) := ⟨hig, hi, om, hTl, hsd⟩
    clear hig hi om hTl hsd hT
    go_upto_region 4 with fail
    go_cut [19] (fun s19 wc => s19 = .bool q ∧ wc = wr)
    case first =>
      by_cases hiL : i < L
      · have t1 : ((i : Int) < (L : Int)) = True := eq_true (by omega)
        have t2 : (i < L) = True := eq_true hiL
        have e : (!ov) = q := by rw [← hq]; simp [hiL]
        clear ax hq hiL
        cases ov
        all_goals
          go_wp2_with fail
          go_meet
          exact ⟨by rw [← e], rfl⟩
      · have t1 : ((i : Int) < (L : Int)) = False := eq_false (by omega)
        have t2 : (i < L) = False := eq_false hiL
        have e : q = false := by rw [← hq]; simp [hiL]
        clear ax hq hiL
        go_wp2_with fail
        go_meet
        exact ⟨by rw [e], rfl⟩
    case rest =>
      obtain ⟨rfl, hw2⟩ := hcut
      have hw2 := hw2.symm
      subst hw2
      cases q with
      | false =>
        have ar := AR.out
        have hend := ar.2.2.2.2.at_end ax.2.2.2.2.1 ax.1 (exit_or hq) ar.2.1
        have c2 := ar.2.2.1.rr.c2
        have AQ : Aside (Om w w1 wr B v T o ov ∧ T.length < 1000000000000 ∧ T ++ tm L (iff' o [257]) = TT ∧ C = ov) := ⟨ar.2.2.1, by have := ar.2.2.2.1; have := ax.2.1; have := ar.2.1; omega, hend.1, hend.2.symm⟩
        clear ar hend AR ax hq c3
        cases o <;> cases ov
        · have aq := AQ.out
          clear aq
          go_upto_region 28 with fail
          obtain ⟨w5, hw5⟩ : ∃ w5, w5 = wr := ⟨_, rfl⟩
          subst hw5
          obtain ⟨v5, hv5⟩ : ∃ v5, v5 = v := ⟨_, rfl⟩
          subst hv5
          have aq := AQ.out
          have om5 := aq.1
          have eT : T = TT := by have := aq.2.2.1; simpa [iff', tm] using this
          rw [eT] at om5
          have eC : C = false := aq.2.2.2
          have eY : Y = 33 := by rw [← AY.out, eC]; rfl
          subst eY
          have AC : Aside (C = false) := eC
          clear eC
          have kB := om5.keepB A1.out.2.1 A1.out.2.2
          have d1 := om5.rr.c1
          have d2 := om5.rr.c2
          have d3 := om5.rr.c3
          have d0 := om5.rr.c0
          have z1 := om5.rr.cells.frozen 1
          have b0 := kB.cell 0
          have b1 := kB.cell 1
          have b2 := kB.cell 2
          have b3 := kB.cell 3
          have y0 := kB.frozen 0
          have y1 := kB.frozen 1
          have y2 := kB.frozen 2
          have y3 := kB.frozen 3
          have hfin := om5.fin kB 33 rfl
          have hshape := om5.rr.own.shape
          obtain ⟨a5, c5, hv5', _⟩ := hshape
          rw [hv5'] at d0 hfin
          have AF : Aside _ := hfin
          clear hfin om5 kB aq AQ  eT c2 hv5'
          go_wp2_with fail
          (try simp only [Exit.inBlock, Exit.then])
          obtain ⟨m1, m2, m3⟩ := AF.out
          refine bodyPost_ret (v := .agg #[.slice a5 TT.length c5, .int .i64 33, .bool false, .bool false]) ?_ rfl ?_
          · exact results_cell_row rfl _ _ B 35 _ (0, 0) _ rfl m1 Try.underlying35 rfl size35
          · exact ⟨⟨_, false, by rw [AC.out]; rfl, m2, m3⟩⟩
        · have aq := AQ.out
          clear aq
          go_upto_region 28 with fail
          obtain ⟨w5, hw5⟩ : ∃ w5, w5 = wr := ⟨_, rfl⟩
          subst hw5
          obtain ⟨v5, hv5⟩ : ∃ v5, v5 = v := ⟨_, rfl⟩
          subst hv5
          have aq := AQ.out
          have om5 := aq.1
          have eT : T = TT := by have := aq.2.2.1; simpa [iff', tm] using this
          rw [eT] at om5
          have eC : C = true := aq.2.2.2
          have eY : Y = 0 := by rw [← AY.out, eC]; rfl
          subst eY
          have AC : Aside (C = true) := eC
          clear eC
          have kB := om5.keepB A1.out.2.1 A1.out.2.2
          have d1 := om5.rr.c1
          have d2 := om5.rr.c2
          have d3 := om5.rr.c3
          have d0 := om5.rr.c0
          have z1 := om5.rr.cells.frozen 1
          have b0 := kB.cell 0
          have b1 := kB.cell 1
          have b2 := kB.cell 2
          have b3 := kB.cell 3
          have y0 := kB.frozen 0
          have y1 := kB.frozen 1
          have y2 := kB.frozen 2
          have y3 := kB.frozen 3
          have hfin := om5.fin kB 0 rfl
          have hshape := om5.rr.own.shape
          obtain ⟨a5, c5, hv5', _⟩ := hshape
          rw [hv5'] at d0 hfin
          have AF : Aside _ := hfin
          clear hfin om5 kB aq AQ  eT c2 hv5'
          go_wp2_with fail
          (try simp only [Exit.inBlock, Exit.then])
          obtain ⟨m1, m2, m3⟩ := AF.out
          refine bodyPost_ret (v := .agg #[.slice a5 TT.length c5, .int .i64 0, .bool false, .bool true]) ?_ rfl ?_
          · exact results_cell_row rfl _ _ B 35 _ (0, 0) _ rfl m1 Try.underlying35 rfl size35
          · exact ⟨⟨_, false, by rw [AC.out]; rfl, m2, m3⟩⟩
        · have aq := AQ.out
          have htell : Calls Try.prog 33 #[.pointer (some ⟨B + 1, 0, none⟩), .int .i64 (L : Int), .agg #[.int .i64 3, .int .u8 0, .int .i64 0, .int .i64 0, .string ⟨#[]⟩]] wr _ := tell_c L 257 (by omega) aq.1.rr (by omega)
          have hf0 := aq.1
          clear aq
          go_upto_region 28 with (go_at_call 33; refine htell.mono ?_; rintro e5 w5 ⟨rfl, ⟨v5, h5⟩, f5⟩)
          have aq := AQ.out
          have om5 := aq.1.to h5 f5
          have eT : T ++ [(L, 257)] = TT := aq.2.2.1
          rw [eT] at om5
          have eC : C = false := aq.2.2.2
          have eY : Y = 33 := by rw [← AY.out, eC]; rfl
          subst eY
          have AC : Aside (C = false) := eC
          clear eC
          have kB := om5.keepB A1.out.2.1 A1.out.2.2
          have d1 := om5.rr.c1
          have d2 := om5.rr.c2
          have d3 := om5.rr.c3
          have d0 := om5.rr.c0
          have z1 := om5.rr.cells.frozen 1
          have b0 := kB.cell 0
          have b1 := kB.cell 1
          have b2 := kB.cell 2
          have b3 := kB.cell 3
          have y0 := kB.frozen 0
          have y1 := kB.frozen 1
          have y2 := kB.frozen 2
          have y3 := kB.frozen 3
          have hfin := om5.fin kB 33 rfl
          have hshape := om5.rr.own.shape
          obtain ⟨a5, c5, hv5', _⟩ := hshape
          rw [hv5'] at d0 hfin
          have AF : Aside _ := hfin
          clear hfin om5 kB aq AQ htell hf0 h5 f5 eT c2 hv5'
          go_wp2_with fail
          (try simp only [Exit.inBlock, Exit.then])
          obtain ⟨m1, m2, m3⟩ := AF.out
          refine bodyPost_ret (v := .agg #[.slice a5 TT.length c5, .int .i64 33, .bool true, .bool false]) ?_ rfl ?_
          · exact results_cell_row rfl _ _ B 35 _ (0, 0) _ rfl m1 Try.underlying35 rfl size35
          · exact ⟨⟨_, true, by rw [AC.out]; rfl, m2, m3⟩⟩
        · have aq := AQ.out
          have htell : Calls Try.prog 33 #[.pointer (some ⟨B + 1, 0, none⟩), .int .i64 (L : Int), .agg #[.int .i64 3, .int .u8 0, .int .i64 0, .int .i64 0, .string ⟨#[]⟩]] wr _ := tell_c L 257 (by omega) aq.1.rr (by omega)
          have hf0 := aq.1
          clear aq
          go_upto_region 28 with (go_at_call 33; refine htell.mono ?_; rintro e5 w5 ⟨rfl, ⟨v5, h5⟩, f5⟩)
          have aq := AQ.out
          have om5 := aq.1.to h5 f5
          have eT : T ++ [(L, 257)] = TT := aq.2.2.1
          rw [eT] at om5
          have eC : C = true := aq.2.2.2
          have eY : Y = 0 := by rw [← AY.out, eC]; rfl
          subst eY
          have AC : Aside (C = true) := eC
          clear eC
          have kB := om5.keepB A1.out.2.1 A1.out.2.2
          have d1 := om5.rr.c1
          have d2 := om5.rr.c2
          have d3 := om5.rr.c3
          have d0 := om5.rr.c0
          have z1 := om5.rr.cells.frozen 1
          have b0 := kB.cell 0
          have b1 := kB.cell 1
          have b2 := kB.cell 2
          have b3 := kB.cell 3
          have y0 := kB.frozen 0
          have y1 := kB.frozen 1
          have y2 := kB.frozen 2
          have y3 := kB.frozen 3
          have hfin := om5.fin kB 0 rfl
          have hshape := om5.rr.own.shape
          obtain ⟨a5, c5, hv5', _⟩ := hshape
          rw [hv5'] at d0 hfin
          have AF : Aside _ := hfin
          clear hfin om5 kB aq AQ htell hf0 h5 f5 eT c2 hv5'
          go_wp2_with fail
          (try simp only [Exit.inBlock, Exit.then])
          obtain ⟨m1, m2, m3⟩ := AF.out
          refine bodyPost_ret (v := .agg #[.slice a5 TT.length c5, .int .i64 0, .bool true, .bool true]) ?_ rfl ?_
          · exact results_cell_row rfl _ _ B 35 _ (0, 0) _ rfl m1 Try.underlying35 rfl size35
          · exact ⟨⟨_, true, by rw [AC.out]; rfl, m2, m3⟩⟩
      | true =>
        have ar := AR.out
        have hiL : i < L := by simp at hq; exact hq.1
        have hov : ov = false := by simp at hq; exact hq.2
        subst hov
        obtain ⟨y, hy⟩ : ∃ y, x[i]? = some y := ⟨_, List.getElem?_eq_getElem (by have := ax.1; omega)⟩
        have hy2 : y < 256 := ax.2.2.2.1 y (List.mem_of_getElem? hy)
        rcases ax.2.2.2.2.2.1 wr ar.2.2.1.bel with e0 | ⟨g, go, rfl, hc⟩
        · rw [e0] at hy; simp at hy
        have cy := hc i y hy
        have hcells : Aside (∀ (i v : Nat), x[i]? = some v → wr.cell? ⟨g, go + i, none⟩ = some (.int .u8 (v : Int))) := hc
        have AY2 : Aside (x[i]? = some y ∧ y < 256 ∧ i < L) := ⟨hy, hy2, hiL⟩
        have hc1 : (c = i) = False := eq_false (by have := ax.2.2.1; omega)
        have t1 : ((i : Int) < (L : Int)) = True := eq_true (by omega)
        have t2 : (i < L) = True := eq_true hiL
        obtain ⟨q2, hq2⟩ : ∃ q2, (!f && decide (y ≠ 10) && decide (y ≠ 13)) = q2 := ⟨_, rfl⟩
        have AQ2 : Aside ((!f && decide (y ≠ 10) && decide (y ≠ 13)) = q2) := hq2
        clear hc ar hq hy hy2 hiL ax
        go_upto_region 5 with fail
        go_cut [35] (fun s35 wc => s35 = .bool q2 ∧ wc = wr)
        case first =>
          cases f with
          | true =>
            have e : q2 = false := by rw [← hq2]; rfl
            clear hq2
            go_wp2_with fail
            go_meet
            exact ⟨by rw [e], rfl⟩
          | false =>
            by_cases h10 : y = 10
            · have e : q2 = false := by rw [← hq2]; simp [h10]
              subst h10
              clear hq2
              go_wp2_with fail
              go_meet
              exact ⟨by rw [e], rfl⟩
            · have e10 : ((y : Int) == 10) = false := by rw [beq_eq_false_iff_ne]; omega
              by_cases h13 : y = 13
              · have e : q2 = false := by rw [← hq2]; simp [h13]
                subst h13
                clear hq2 h10 e10
                go_wp2_with fail
                go_meet
                exact ⟨by rw [e], rfl⟩
              · have e13 : ((y : Int) == 13) = false := by rw [beq_eq_false_iff_ne]; omega
                have e : q2 = true := by rw [← hq2]; simp [h10, h13]
                have n10 : ((y : Int) != 10) = true := by simp; omega
                have n13 : ((y : Int) != 13) = true := by simp; omega
                clear hq2 h10 h13
                go_wp2_with fail
                go_meet
                exact ⟨by rw [e], rfl⟩
        case rest =>
          obtain ⟨rfl, hw3⟩ := hcut
          have hw3 := hw3.symm
          subst hw3
          cases q2 with
          | true =>
            have ar := AR.out
            have ay := AY2.out
            have ax := AX.out
            have hq2 := AQ2.out
            have hf : f = false := by cases f <;> simp_all only [Bool.not_true, Bool.false_and, Bool.not_false, Bool.true_and] <;> simp at hq2
            subst hf
            have h10 : y ≠ 10 ∧ y ≠ 13 := by simpa using hq2
            have hby := bytes_c (w := wr) (lo := B) (R := B + 1) i [y] (some ⟨g, go + i, none⟩) 1 (c - i) rfl (by omega) (by intro z hz; simp at hz; omega) (fun u hu => Or.inr ⟨g, go + i, rfl, fun j z hz => by
              have hl := AX.out.2.2.2.2.2.1 u (ar.2.2.1.bel.trans hu)
              rcases hl with e | ⟨g2, o2, e2, h2⟩
              · rw [e] at ay; simp at ay
              · cases e2
                cases j with
                | zero => simp at hz; rw [← hz]; exact h2 i y ay.1
                | succ j => simp at hz⟩) (by omega) ar.2.2.1.rr (by have := ar.2.2.2.1; simp; omega)
            have hsd := ar.2.2.2.2.within ax.1 ay.2.2 ay.1 h10.1 h10.2 ay.2.1
            have hlen : (T ++ tm i (iff' o [y])).length ≤ 2 * (i + 1) := by
              have h1 := ar.2.2.2.1
              have h2 := iff_len o [y]
              rw [List.length_append, tm_len]
              simp at h2
              omega
            have AN : Aside (Sd D x L (i + 1) false o false (T ++ tm i (iff' o [y])) TT C ∧ (T ++ tm i (iff' o [y])).length ≤ 2 * (i + 1) ∧ 2 * (L - i) + false.toNat = gk ∧ i < L ∧ Om w w1 wr B v T o false) := ⟨hsd, hlen, ar.1, ay.2.2, ar.2.2.1⟩
            obtain ⟨T2, hT2⟩ : ∃ T2, T ++ tm i (iff' o [y]) = T2 := ⟨_, rfl⟩
            rw [hT2] at hby AN
            have hwi : Aside (wrap64 ((i : Int) + 1) = (i : Int) + 1) := w64_id _ (by omega) (by omega)
            have b3 : ((i : Int) + 1 ≤ (L : Int)) = True := eq_true (by omega)
            have b4 : ((i : Int) + 1 ≤ (c : Int)) = True := eq_true (by omega)
            have b5 : (i + 1 ≤ c) = True := eq_true (by omega)
            have b6 : (i ≤ i + 1) = True := eq_true (by omega)
            clear ar ay ax hq2 h10 hsd hlen hT2 AR AY2 AQ2 hcells
            have hw1 := hwi.out
            go_wp2_with (go_at_call 30; refine hby.mono ?_; rintro e5 w5 ⟨rfl, ⟨v5, h5⟩, f5⟩)
            have an := AN.out
            clear hw1
            go_roundg (gk - 2)
            case measure => have := an.2.2.1; simp at this; omega
            case rel => exact ⟨i + 1, false, rfl, by first | (rw [hwi.out]; rfl) | go_num, ⟨by have := an.2.2.1; simp at this ⊢; omega, by omega, v5, T2, o, false, an.2.2.2.2.to h5 f5, an.2.1, an.1⟩⟩
          | false =>
            obtain ⟨G, hG⟩ : ∃ G, G = gk := ⟨_, rfl⟩
            subst hG
            obtain ⟨w9, hw9⟩ : ∃ w9, w9 = wr := ⟨_, rfl⟩
            subst hw9
            obtain ⟨z, hz⟩ : ∃ z, x.drop i = z := ⟨_, rfl⟩
            have AZ : Aside (x.drop i = z ∧ z.length = L - i ∧ (look D f []) = (1, false)) := ⟨hz, by rw [← hz, List.length_drop]; have := AX.out.1; omega, look_empty AX.out.2.2.2.2.1 f⟩
            clear hz cy c3
            go_wp2_with fail
            go_loopg [8, 9, 10] (L - i) (fun gg s8 s9 s10 wq => ∃ (n wh : Nat) (l : Bool), s8 = .int .i64 (n : Int) ∧ s9 = .int .i64 (wh : Int) ∧ s10 = .bool l ∧ Aside (n + gg = L - i ∧ look D f (z.take n) = (wh, l) ∧ (n = 0 ∨ (look D f (z.take (n - 1))).1 = 1 ∨ (look D f (z.take (n - 1))).1 = 2) ∧ Dn w9 wq))
            case atStart => exact ⟨0, 1, false, rfl, rfl, rfl, ⟨by omega, by simpa using AZ.out.2.2, Or.inl rfl, Dn.refl _⟩⟩
            case round =>
              obtain ⟨n, wh, l, rfl, rfl, rfl, hT2⟩ := hrel
              obtain ⟨hng, hlk, hpre, hdn⟩ := hT2.out
              have ax := AX.out
              have ay := AY2.out
              have ar := AR.out
              have az := AZ.out
              have hwh : wh ≤ 3 := by have := look_le D f (z.take n); rw [hlk] at this; exact this
              obtain ⟨k, hk⟩ : ∃ k, i + n = k := ⟨_, rfl⟩
              have hkI : (i : Int) + (n : Int) = (k : Int) := by omega
              have hkL : k ≤ L := by omega
              by_cases hgo : (wh = 1 ∨ wh = 2) ∧ k < L
              · obtain ⟨hw12, hkl⟩ := hgo
                obtain ⟨m, hm⟩ : ∃ m, n + 1 = m := ⟨_, rfl⟩
                obtain ⟨K, hK⟩ : ∃ K, i + m = K := ⟨_, rfl⟩
                have hmI : (n : Int) + 1 = (m : Int) := by omega
                have hKI : (i : Int) + (m : Int) = (K : Int) := by omega
                have hKm : K - i = m := by omega
                have hcell2 : ∀ (j u : Nat), x[j]? = some u → wr.cell? ⟨g, go + j, none⟩ = some (.int .u8 (u : Int)) := fun j u hj => (hdn.cell _).trans (hcells.out j u hj)
                have hlies : Lies wr (some ⟨g, go + i, none⟩) (z.take m) := by rw [← az.1]; exact Lies.cut hcell2 i m
                have hlook := AK.out wr f (z.take m) (some ⟨g, go + i, none⟩) m (c - i) (by rw [List.length_take]; omega) (by omega) hlies
                obtain ⟨res, hres⟩ : ∃ res, look D f (z.take m) = res := ⟨_, rfl⟩
                obtain ⟨wh2, l2⟩ := res
                rw [hres] at hlook
                have hlook2 : Calls Try.prog 31 #[.slice (some ⟨g, go + i, none⟩) m (c - i), .string sb, .bool f] wr fun e w' => e = .returned (.tuple #[.int .i64 (wh2 : Int), .bool l2]) ∧ Dn wr w' := hlook
                have AM : Aside (m + (gk - 1) = L - i ∧ 0 < gk ∧ look D f (z.take m) = (wh2, l2) ∧ (m = 0 ∨ (look D f (z.take (m - 1))).1 = 1 ∨ (look D f (z.take (m - 1))).1 = 2) ∧ Dn w9 wr) := ⟨by omega, by omega, hres, Or.inr (by rw [show m - 1 = n by omega, hlk]; exact hw12), hdn⟩
                have t3 : ((k : Int) < (L : Int)) = True := eq_true (by omega)
                have t4 : (k < L) = True := eq_true hkl
                have b3 : ((K : Int) ≤ (L : Int)) = True := eq_true (by omega)
                have b4 : ((K : Int) ≤ (c : Int)) = True := eq_true (by omega)
                have b5 : (K ≤ c) = True := eq_true (by omega)
                have b6 : (i ≤ K) = True := eq_true (by omega)
                have b7 : ((i : Int) ≤ (K : Int)) = True := eq_true (by omega)
                have hwA : Aside (wrap64 (k : Int) = (k : Int) ∧ wrap64 (m : Int) = (m : Int) ∧ wrap64 (K : Int) = (K : Int)) := ⟨w64_id _ (by omega) (by omega), w64_id _ (by omega) (by omega), w64_id _ (by omega) (by omega)⟩
                clear hT2 ax ay ar az hng hlk hpre hdn hk hkL hkl hm hK hlies hlook hcell2 hres hwh
                obtain ⟨hwk, hwm, hwK⟩ := hwA.out
                rcases hw12 with rfl | rfl
                all_goals
                  go_wp2_with (go_at_call 31; (with_reducible refine hlook2.mono ?_); rintro e5 w5 ⟨rfl, d5⟩)
                  have am := AM.out
                  clear hwk hwm hwK
                  go_roundg (gk - 1)
                  case measure => omega
                  case rel => exact ⟨m, wh2, l2, rfl, rfl, rfl, ⟨am.1, am.2.2.1, am.2.2.2.1, am.2.2.2.2.trans d5⟩⟩
              · have om2 := ar.2.2.1.dn hdn
                have hn0 : wh = 0 ∨ wh = 3 → 1 ≤ n := fun h => by
                  rcases Nat.eq_zero_or_pos n with e | e
                  · rw [e, List.take_zero, az.2.2] at hlk
                    have := congrArg Prod.fst hlk
                    simp at this
                    omega
                  · exact e
                rcases (show wh = 0 ∨ wh = 1 ∨ wh = 2 ∨ wh = 3 by omega) with rfl | rfl | rfl | rfl
                · have h1 := hn0 (Or.inl rfl)
                  obtain ⟨n1, hn1⟩ : ∃ n1, n - 1 = n1 := ⟨_, rfl⟩
                  have hnn : n = n1 + 1 := by omega
                  obtain ⟨k1, hk1⟩ : ∃ k1, i + n1 = k1 := ⟨_, rfl⟩
                  obtain ⟨gg2, hg2⟩ : ∃ gg2, z[n1]? = some gg2 := ⟨_, List.getElem?_eq_getElem (by omega)⟩
                  have hg256 : gg2 < 256 := ax.2.2.2.1 gg2 (by have := List.mem_of_getElem? hg2; rw [← az.1] at this; exact List.mem_of_mem_drop this)
                  have hpre2 : (look D f (z.take n1)).1 = 1 ∨ (look D f (z.take n1)).1 = 2 := by rw [← hn1]; omega
                  have hsd := ar.2.2.2.2.no ax.2.2.2.2.1 ax.1 ay.2.2 (n := n1) (g := gg2) (by rw [az.1]; exact hg2) hg256 (by rw [az.1]; exact hpre2) (by rw [az.1, ← hnn, hlk])
                  rw [az.1, hk1] at hsd
                  have hby := bytes_c (w := wr) (lo := B) (R := B + 1) k1 (z.take n1) (some ⟨g, go + i, none⟩) n1 (c - i) (by rw [List.length_take]; omega) (by omega) (by rw [← az.1]; exact (Oct.drop ax.2.2.2.1 _).take _) (fun u hu => by
                    rcases ax.2.2.2.2.2.1 u (om2.bel.trans hu) with e | ⟨g2, o2, e2, h2⟩
                    · rw [e] at ay; simp at ay
                    · cases e2
                      rw [← az.1]
                      exact Lies.cut h2 i n1) (by omega) om2.rr (by have := ar.2.2.2.1; omega)
                  have hlen : (T ++ tm k1 (iff' o (z.take n1))).length ≤ 2 * k1 := by
                    have h3 := ar.2.2.2.1
                    have h2 := iff_len o (z.take n1)
                    rw [List.length_append, tm_len]
                    rw [List.length_take] at h2
                    omega
                  have hmeas : 2 * (L - k1) + false.toNat < G := by
                    rw [← ar.1]
                    cases f with
                    | true => simp; omega
                    | false =>
                      have : n1 ≠ 0 := by
                        intro e0
                        rw [hnn, e0] at hlk
                        have hq2 := AQ2.out
                        have hz0 : z.take (0 + 1) = [y] := by
                          rw [← az.1, drop_more ay.1]; rfl
                        rw [hz0] at hlk
                        have hyy : y = 10 ∨ y = 13 := by
                          by_cases h10 : y = 10
                          · exact Or.inl h10
                          · right
                            have : decide (y ≠ 13) = false := by simpa [h10] using hq2
                            simpa using this
                        obtain ⟨d, ds, hDc⟩ : ∃ d ds, D = d :: ds := by
                          have := ax.2.2.2.2.1.ne
                          cases D with
                          | nil => exact absurd rfl this
                          | cons a b => exact ⟨a, b, rfl⟩
                        rcases hyy with rfl | rfl
                        · simp [look, lkE, lkB, hDc] at hlk
                        · simp [look, lkE] at hlk
                      simp; omega
                  have AN : Aside (Sd D x L k1 false o false (T ++ tm k1 (iff' o (z.take n1))) TT C ∧ (T ++ tm k1 (iff' o (z.take n1))).length ≤ 2 * k1 ∧ 2 * (L - k1) + false.toNat < G ∧ k1 ≤ L ∧ Om w w1 wr B v T o false) := ⟨hsd, hlen, hmeas, by omega, om2⟩
                  obtain ⟨T2, hT3⟩ : ∃ T2, T ++ tm k1 (iff' o (z.take n1)) = T2 := ⟨_, rfl⟩
                  rw [hT3] at hby AN
                  have hk1I : (k : Int) - 1 = (k1 : Int) := by omega
                  have hn1I : (n : Int) - 1 = (n1 : Int) := by omega
                  have hi1I : (i : Int) + (n1 : Int) = (k1 : Int) := by omega
                  have hki : k1 - i = n1 := by omega
                  have b3 : ((k1 : Int) ≤ (L : Int)) = True := eq_true (by omega)
                  have b4 : ((k1 : Int) ≤ (c : Int)) = True := eq_true (by omega)
                  have b5 : (k1 ≤ c) = True := eq_true (by omega)
                  have b6 : (i ≤ k1) = True := eq_true (by omega)
                  have b7 : ((i : Int) ≤ (k1 : Int)) = True := eq_true (by omega)
                  have hwA : Aside (wrap64 (k : Int) = (k : Int) ∧ wrap64 (k1 : Int) = (k1 : Int) ∧ wrap64 (n1 : Int) = (n1 : Int)) := ⟨w64_id _ (by omega) (by omega), w64_id _ (by omega) (by omega), w64_id _ (by omega) (by omega)⟩
                  clear hT2 ax ay ar az hng hlk hpre hdn hk hkL hwh hgo om2 hn0 h1 hn1 hnn hk1 hg2 hg256 hpre2 hsd hlen hmeas hT3
                  obtain ⟨hwk, hwm, hwK⟩ := hwA.out
                  go_wp2_with (go_at_call 30; (with_reducible refine hby.mono ?_); rintro e5 w5 ⟨rfl, ⟨v5, h5⟩, f5⟩)
                  have an := AN.out
                  clear hwk hwm hwK
                  go_roundg (2 * (L - k1) + false.toNat)
                  case measure => exact an.2.2.1
                  case rel => exact ⟨k1, false, rfl, by rw [hwA.out.2.1], ⟨rfl, an.2.2.2.1, v5, T2, o, false, an.2.2.2.2.to h5 f5, an.2.1, an.1⟩⟩
                · have hkk : k = L := by omega
                  have hzn : z.take n = z := List.take_of_length_le (by omega)
                  rw [hzn] at hlk
                  have hsd := ar.2.2.2.2.begins ax.2.2.2.2.1 ax.1 ay.2.2 (by rw [az.1, hlk]) f
                  rw [az.1] at hsd
                  obtain ⟨n2, hn2⟩ : ∃ n2, L - i = n2 := ⟨_, rfl⟩
                  have hby := bytes_c (w := wr) (lo := B) (R := B + 1) L z (some ⟨g, go + i, none⟩) n2 (c - i) (by rw [← hn2]; exact az.2.1) (by omega) (by rw [← az.1]; exact Oct.drop ax.2.2.2.1 _) (fun u hu => by
                    rcases ax.2.2.2.2.2.1 u (om2.bel.trans hu) with e | ⟨g2, o2, e2, h2⟩
                    · rw [e] at ay; simp at ay
                    · cases e2
                      have := Lies.cut h2 i n
                      rw [az.1, hzn] at this
                      exact this) (by omega) om2.rr (by have := ar.2.2.2.1; omega)
                  have hlen : (T ++ tm L (iff' o z)).length ≤ 2 * L := by
                    have h3 := ar.2.2.2.1
                    have h2 := iff_len o z
                    rw [List.length_append, tm_len]
                    omega
                  have AN : Aside (Sd D x L L f o false (T ++ tm L (iff' o z)) TT C ∧ (T ++ tm L (iff' o z)).length ≤ 2 * L ∧ 2 * (L - L) + f.toNat < G ∧ Om w w1 wr B v T o false ∧ k = L) := ⟨hsd, hlen, by rw [← ar.1]; omega, om2, hkk⟩
                  obtain ⟨T2, hT3⟩ : ∃ T2, T ++ tm L (iff' o z) = T2 := ⟨_, rfl⟩
                  rw [hT3] at hby AN
                  have t3 : ((k : Int) < (L : Int)) = False := eq_false (by omega)
                  have t4 : (k < L) = False := eq_false (by omega)
                  have b6 : (i ≤ L) = True := eq_true (by omega)
                  have b7 : ((i : Int) ≤ (L : Int)) = True := eq_true (by omega)
                  have hwA : Aside (wrap64 (k : Int) = (k : Int)) := w64_id _ (by omega) (by omega)
                  clear hT2 ax ay ar az hng hlk hpre hdn hk hkL hwh hgo om2 hn0 hkk hzn hsd hlen hT3
                  have hwk := hwA.out
                  go_wp2_with (go_at_call 30; (with_reducible refine hby.mono ?_); rintro e5 w5 ⟨rfl, ⟨v5, h5⟩, f5⟩)
                  have an := AN.out
                  clear hwk
                  go_roundg (2 * (L - L) + f.toNat)
                  case measure => exact an.2.2.1
                  case rel => exact ⟨L, f, rfl, by rw [hwA.out, an.2.2.2.2], ⟨rfl, Nat.le_refl _, v5, T2, o, false, an.2.2.2.1.to h5 f5, an.2.1, an.1⟩⟩
                · have hkk : k = L := by omega
                  have hzn : z.take n = z := List.take_of_length_le (by omega)
                  rw [hzn] at hlk
                  have hsd := ar.2.2.2.2.ends ax.2.2.2.2.1 ax.1 ay.2.2 (l := l) (by rw [az.1, hlk]) f
                  have hdl := delimiter_c (w := wr) (lo := B) (R := B + 1) L l (by omega) om2.rr (by have := ar.2.2.2.1; omega)
                  have hlen : (T ++ tm L (iff' o [257] ++ iff' (!l) [256])).length ≤ 2 * L := by
                    have h3 := ar.2.2.2.1
                    have h2 := iff_len o [257]
                    have h4 := iff_len (!l) [256]
                    rw [List.length_append, tm_len, List.length_append]
                    simp at h2 h4
                    omega
                  have AN : Aside (Sd D x L L f (!l) l (T ++ tm L (iff' o [257] ++ iff' (!l) [256])) TT C ∧ (T ++ tm L (iff' o [257] ++ iff' (!l) [256])).length ≤ 2 * L ∧ 2 * (L - L) + f.toNat < G ∧ Om w w1 wr B v T o false ∧ k = L) := ⟨hsd, hlen, by rw [← ar.1]; omega, om2, hkk⟩
                  obtain ⟨T2, hT3⟩ : ∃ T2, T ++ tm L (iff' o [257] ++ iff' (!l) [256]) = T2 := ⟨_, rfl⟩
                  rw [hT3] at hdl AN
                  obtain ⟨nl, hnl⟩ : ∃ nl, (!l) = nl := ⟨_, rfl⟩
                  rw [hnl] at hdl AN
                  have t3 : ((k : Int) < (L : Int)) = False := eq_false (by omega)
                  have t4 : (k < L) = False := eq_false (by omega)
                  have hwA : Aside (wrap64 (k : Int) = (k : Int)) := w64_id _ (by omega) (by omega)
                  clear hT2 ax ay ar az hng hlk hpre hdn hk hkL hwh hgo om2 hn0 hkk hzn hsd hlen hT3 hnl
                  have hwk := hwA.out
                  go_wp2_with (go_at_call 32; (with_reducible refine hdl.mono ?_); rintro e5 w5 ⟨rfl, ⟨v5, h5⟩, f5⟩)
                  have an := AN.out
                  clear hwk
                  go_roundg (2 * (L - L) + f.toNat)
                  case measure => exact an.2.2.1
                  case rel => exact ⟨L, f, rfl, by rw [hwA.out, an.2.2.2.2], ⟨rfl, Nat.le_refl _, v5, T2, nl, l, an.2.2.2.1.to h5 f5, an.2.1, an.1⟩⟩
                · have h1 := hn0 (Or.inr rfl)
                  obtain ⟨n1, hn1⟩ : ∃ n1, n - 1 = n1 := ⟨_, rfl⟩
                  have hnn : n = n1 + 1 := by omega
                  obtain ⟨k1, hk1⟩ : ∃ k1, i + n1 = k1 := ⟨_, rfl⟩
                  obtain ⟨gg2, hg2⟩ : ∃ gg2, z[n1]? = some gg2 := ⟨_, List.getElem?_eq_getElem (by omega)⟩
                  have hg256 : gg2 < 256 := ax.2.2.2.1 gg2 (by have := List.mem_of_getElem? hg2; rw [← az.1] at this; exact List.mem_of_mem_drop this)
                  have hpre2 : (look D f (z.take n1)).1 = 1 ∨ (look D f (z.take n1)).1 = 2 := by rw [← hn1]; omega
                  have hsd := ar.2.2.2.2.whole ax.2.2.2.2.1 ax.1 ay.2.2 (n := n1) (g := gg2) (l := l) (by rw [az.1]; exact hg2) hg256 (by rw [az.1]; exact hpre2) (by rw [az.1, ← hnn, hlk])
                  rw [hk1, show k1 + 1 = k by omega] at hsd
                  have hdl := delimiter_c (w := wr) (lo := B) (R := B + 1) k1 l (by omega) om2.rr (by have := ar.2.2.2.1; omega)
                  have hlen : (T ++ tm k1 (iff' o [257] ++ iff' (!l) [256])).length ≤ 2 * k := by
                    have h3 := ar.2.2.2.1
                    have h2 := iff_len o [257]
                    have h4 := iff_len (!l) [256]
                    rw [List.length_append, tm_len, List.length_append]
                    simp at h2 h4
                    omega
                  have AN : Aside (Sd D x L k true (!l) l (T ++ tm k1 (iff' o [257] ++ iff' (!l) [256])) TT C ∧ (T ++ tm k1 (iff' o [257] ++ iff' (!l) [256])).length ≤ 2 * k ∧ 2 * (L - k) + true.toNat < G ∧ Om w w1 wr B v T o false ∧ k ≤ L) := ⟨hsd, hlen, by rw [← ar.1]; simp; omega, om2, hkL⟩
                  obtain ⟨T2, hT3⟩ : ∃ T2, T ++ tm k1 (iff' o [257] ++ iff' (!l) [256]) = T2 := ⟨_, rfl⟩
                  rw [hT3] at hdl AN
                  obtain ⟨nl, hnl⟩ : ∃ nl, (!l) = nl := ⟨_, rfl⟩
                  rw [hnl] at hdl AN
                  have hk1I : (k : Int) - 1 = (k1 : Int) := by omega
                  have hwA : Aside (wrap64 (k : Int) = (k : Int) ∧ wrap64 (k1 : Int) = (k1 : Int)) := ⟨w64_id _ (by omega) (by omega), w64_id _ (by omega) (by omega)⟩
                  clear hT2 ax ay ar az hng hlk hpre hdn hk hkL hwh hgo om2 hn0 h1 hn1 hnn hk1 hg2 hg256 hpre2 hsd hlen hT3 hnl
                  obtain ⟨hwk, hwm⟩ := hwA.out
                  go_wp2_with (go_at_call 32; (with_reducible refine hdl.mono ?_); rintro e5 w5 ⟨rfl, ⟨v5, h5⟩, f5⟩)
                  have an := AN.out
                  clear hwk hwm
                  go_roundg (2 * (L - k) + true.toNat)
                  case measure => exact an.2.2.1
                  case rel => exact ⟨k, true, rfl, by rw [hwA.out.1], ⟨rfl, an.2.2.2.2, v5, T2, nl, l, an.2.2.2.1.to h5 f5, an.2.1, an.1⟩⟩
end Go.Proofs.Ytbndohpcaahenaa

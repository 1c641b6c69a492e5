/-
  Own texts of this seat, one behind the other: what each says stands ahead of it.
-/
import Derived.Test.YtogednaamndpgaaGreatDoorMt
import Derived.Test.YtogednaamndpgaaGreatDoorMx
import Derived.Laws.Rows
/-
  What the document's Of comes to: the walk.
-/
namespace Go.Proofs.YtogednaamndpgaaGreatDoor
open Go.RowKit
set_option linter.unusedVariables false
theorem size29 : (Tryz.prog.info? 29).map (·.size) = some 6 := by kernel_rfl
/-- What Of answers. -/
structure Ofr (b : List Nat) (M : Nat) (a : Option Addr) (L C : Nat) (B : Nat) (w : World) (e : Ending) (w' : World) : Prop where
  ex : ∃ (r : Gr) (v : Value), e = .returned (.agg #[v, .int .i64 (r.why : Int), .int .i64 (r.sat : Int), .slice a L C, .int .i64 (r.pos : Int), .int .i64 (r.left : Int)]) ∧ Fo b M r ∧ w'.ownsRow B 59 6 v r.ev.length (gcs r.ev) ∧ Below B w w'
abbrev zr : Array Value := #[.slice none 0 0, .int .i64 0, .int .i64 0, .slice none 0 0, .int .i64 0, .int .i64 0]
theorem of_fin {w wr : World} {H R L C : Nat} {a : Option Addr} {r : Gr} {v z0 z1 z2 z3 z4 z5 : Value} (g : Gm wr H R a L C r v) (bel : Below H w wr) (kH : Cells wr H #[z0, z1, z2, z3, z4, z5] 29) :
    Cells ((((((wr.setCell ⟨H, 0, none⟩ v).setCell ⟨H, 1, none⟩ (.int .i64 (r.why : Int))).setCell ⟨H, 2, none⟩ (.int .i64 (r.sat : Int))).setCell ⟨H, 3, none⟩ (.slice a L C)).setCell ⟨H, 4, none⟩ (.int .i64 (r.pos : Int))).setCell ⟨H, 5, none⟩ (.int .i64 (r.left : Int))) H #[v, .int .i64 (r.why : Int), .int .i64 (r.sat : Int), .slice a L C, .int .i64 (r.pos : Int), .int .i64 (r.left : Int)] 29 ∧ World.ownsRow ((((((wr.setCell ⟨H, 0, none⟩ v).setCell ⟨H, 1, none⟩ (.int .i64 (r.why : Int))).setCell ⟨H, 2, none⟩ (.int .i64 (r.sat : Int))).setCell ⟨H, 3, none⟩ (.slice a L C)).setCell ⟨H, 4, none⟩ (.int .i64 (r.pos : Int))).setCell ⟨H, 5, none⟩ (.int .i64 (r.left : Int))) H 59 6 v r.ev.length (gcs r.ev) ∧ Below H w ((((((wr.setCell ⟨H, 0, none⟩ v).setCell ⟨H, 1, none⟩ (.int .i64 (r.why : Int))).setCell ⟨H, 2, none⟩ (.int .i64 (r.sat : Int))).setCell ⟨H, 3, none⟩ (.slice a L C)).setCell ⟨H, 4, none⟩ (.int .i64 (r.pos : Int))).setCell ⟨H, 5, none⟩ (.int .i64 (r.left : Int))) := by
  have o : Only H wr ((((((wr.setCell ⟨H, 0, none⟩ v).setCell ⟨H, 1, none⟩ (.int .i64 (r.why : Int))).setCell ⟨H, 2, none⟩ (.int .i64 (r.sat : Int))).setCell ⟨H, 3, none⟩ (.slice a L C)).setCell ⟨H, 4, none⟩ (.int .i64 (r.pos : Int))).setCell ⟨H, 5, none⟩ (.int .i64 (r.left : Int))) := ((((((Only.refl H wr).setCell 0 _).setCell 1 _).setCell 2 _).setCell 3 _).setCell 4 _).setCell 5 _
  refine ⟨(((((kH.set 0 _).set 1 _).set 2 _).set 3 _).set 4 _).set 5 _, ?_, bel.trans (o.below (Nat.le_refl _))⟩
  refine own_keep g.own fun i _ _ ⟨cs, fr, hx⟩ => o.block i (fun e => ?_)
  subst e
  unfold Cells at kH
  rw [kH] at hx
  cases hx
theorem keepH {H : Nat} {w1 wr : World} {cs : Array Value} (k : Cells w1 H cs 29) (hz : w1.heap.size = H + 2) (h : Fr H (H + 1) w1 wr) : Cells wr H cs 29 := by
  unfold Cells at *
  rw [h.kp H (by omega) (by omega) (by rw [k]; intro cs h; cases h)]
  exact k
section
variable {L C M : Nat} {a : Option Addr} {b : List Nat}
set_option maxRecDepth 20000 in
set_option maxHeartbeats 8000000 in
theorem gof_c (w : World) (n0 : Int) (hM : n0.toNat = M) (hMb : M ≤ 1048576) (ho : Oct b) (hL : b.length = L) (hLb : L ≤ 40000000000) (hLC : L ≤ C) (hnil : a = none → L = 0 ∧ C = 0) (hli : Lies w a b) : Calls Tryz.prog 9 #[.slice a L C, .int .i64 n0] w fun e w' => Ofr b M a L C w.heap.size w e w' := by
  obtain ⟨H, hH⟩ : ∃ H, w.heap.size = H := ⟨_, rfl⟩
  rw [hH]
  have hmx : (if n0 < 0 then (0 : Int) else n0) = (M : Int) := by split <;> omega
  obtain ⟨w1, hw1⟩ : ∃ w1, (w.alloc (.cells zr 29)).alloc (.cells #[.slice none 0 0, .int .i64 0, .int .i64 (L : Int), .slice a L C, .int .i64 0, .int .i64 (M : Int)] 29) = w1 := ⟨_, rfl⟩
  have kH : Cells w1 H zr 29 := by rw [← hw1, ← hH]; exact (Cells.new w _ 29).alloc _
  have kR : Cells w1 (H + 1) #[.slice none 0 0, .int .i64 0, .int .i64 (L : Int), .slice a L C, .int .i64 0, .int .i64 (M : Int)] 29 := by
    rw [← hw1]
    have := Cells.new (w.alloc (.cells zr 29)) #[.slice none 0 0, .int .i64 0, .int .i64 (L : Int), .slice a L C, .int .i64 0, .int .i64 (M : Int)] 29
    rwa [show (w.alloc (.cells zr 29)).heap.size = H + 1 by rw [← hH]; simp] at this
  have bel : Below H w w1 := by
    rw [← hw1, ← hH]
    exact ((Below.refl _ w).alloc (Nat.le_refl _) _).alloc (by simp) _
  have hz1 : w1.heap.size = H + 2 := by rw [← hw1, ← hH]; simp
  have g1 : Gm w1 H (H + 1) a L C ⟨[], 0, L, 0, M⟩ (.slice none 0 0) := ⟨kR, World.ownsRow_nil w1 _ 59 6, by omega⟩
  have hlow : ∀ g o, a = some ⟨g, o, none⟩ → b ≠ [] → g < H := fun g o e hb => by
    rcases hli with q | ⟨g', o', q, hc⟩
    · exact absurd q hb
    · rw [q] at e
      cases e
      obtain ⟨x, t, rfl⟩ := List.exists_cons_of_ne_nil hb
      have := hc 0 x rfl
      rw [← hH]
      exact World.block_lt_of_cell? w _ this
  have hme : ∀ (u : World) (r : Gr) (v : Value), Below H w u → Gm u H (H + 1) a L C r v → Fp0 b M r → Calls Tryz.prog 27 #[.pointer (some ⟨H + 1, 0, none⟩)] u fun e w' => Gmb b r H (H + 1) a L C u e w' := fun u r v hu hg hf => by
    obtain ⟨hs, q1, q2, q3⟩ := hf
    exact gmemb_c u hg (by omega) (by omega) (by omega) ho hL (by omega) hLC hnil hlow (lies_low hli hlow hu) hs (by omega)
  have hp0 : Fp0 b M ⟨[], 0, L, 0, M⟩ := by rw [← hL]; exact Fo.of_p0 M
  have AX : Aside (b.length = L ∧ L ≤ 40000000000 ∧ M ≤ 1048576 ∧ Oct b ∧ (∀ u, Below H w u → Lies u a b)) := ⟨hL, hLb, hMb, ho, fun u hu => lies_low hli hlow hu⟩
  have AM : Aside (∀ (u : World) (r : Gr) (v : Value), Below H w u → Gm u H (H + 1) a L C r v → Fp0 b M r → Calls Tryz.prog 27 #[.pointer (some ⟨H + 1, 0, none⟩)] u fun e w' => Gmb b r H (H + 1) a L C u e w') := hme
  have A1 : Aside (Below H w w1 ∧ Cells w1 H zr 29 ∧ w1.heap.size = H + 2) := ⟨bel, kH, hz1⟩
  have A2 : Aside (Gm w1 H (H + 1) a L C ⟨[], 0, L, 0, M⟩ (.slice none 0 0) ∧ Fp0 b M ⟨[], 0, L, 0, M⟩) := ⟨g1, hp0⟩
  clear kH kR bel hz1 g1 hlow hme hp0 hM hMb ho hL hLb hLC hnil hli
  go_enter Tryz.func9, Tryz.ntmps9
  go_upto_region 2 with fail
  (try rw [hw1])
  clear hw1 hmx
  go_wp2_with fail
  go_loopg [6] (L + 1) (fun gg s6 wr => ∃ f : Bool, s6 = .bool f ∧ Aside (∃ r v, Gm wr H (H + 1) a L C r v ∧ Fr H (H + 1) w1 wr ∧ gg = (if r.why = 0 then L - r.pos + 1 else 0) ∧ ((f = true ∧ Fp0 b M r) ∨ (f = false ∧ Fq b M r))))
  case atStart => exact ⟨true, rfl, ⟨_, _, A2.out.1, Fr.refl _ _ _, rfl, Or.inl ⟨rfl, A2.out.2⟩⟩⟩
  case round =>
    obtain ⟨f, rfl, hT⟩ := hrel
    obtain ⟨r, v, hg, hfr, hgk, hfq⟩ := hT.out
    clear hT
    have ko := gopen_c wr hg
    by_cases h0 : r.why = 0
    · rw [decide_eq_true h0] at ko
      have d4 := hg.c4
      rcases hfq with ⟨rfl, hf⟩ | ⟨rfl, hf⟩
      · have km := AM.out wr r v (A1.out.1.trans hfr.bel) hg hf
        have AR : Aside (Fr H (H + 1) w1 wr ∧ gk = (if r.why = 0 then L - r.pos + 1 else 0) ∧ Fp0 b M r ∧ r.why = 0) := ⟨hfr, hgk, hf, h0⟩
        clear hg hfr hgk hf h0
        go_wp2_with (first
          | (go_at_call 25; refine ko.mono ?_; rintro e2 w2 ⟨rfl, rfl⟩)
          | (go_at_call 27; refine km.mono ?_; rintro e3 w3 ⟨z, v3, rfl, hz3, g3, f3⟩))
        obtain ⟨fq, fp⟩ := memb_fq AX.out.2.2.2.1 AR.out.2.2.1 (by have := AX.out.2.2.1; unfold MM; omega) hz3
        have h4 := AR.out.2.1
        rw [if_pos AR.out.2.2.2] at h4
        go_roundg (if (gmemb b r z).why = 0 then L - (gmemb b r z).pos + 1 else 0)
        case measure =>
          split
          · rename_i q
            have := fp q
            rcases fq.open q with ⟨⟨s4, q4⟩, _⟩
            have := q4.rch.1
            have := AX.out.1
            omega
          · omega
        case rel => exact ⟨false, rfl, ⟨_, v3, g3, AR.out.1.trans f3, rfl, Or.inr ⟨rfl, fq⟩⟩⟩
      · have hfo := hf.open h0
        obtain ⟨s, hsb⟩ := hfo.1
        have hpl : r.pos ≤ L := by rw [← AX.out.1]; exact hsb.rch.1
        clear hsb hfo
        by_cases hpL : r.pos = L
        · have t1 : ((r.pos : Int) == (L : Int)) = true := by rw [hpL]; simp
          have t2 : (r.pos == L) = true := by rw [hpL]; simp
          have kH := keepH A1.out.2.1 A1.out.2.2 hfr
          obtain ⟨va, vc, hv, _⟩ := hg.ow.shape
          rw [hv] at hg
          have d0 : wr.cell? ⟨H + 1, 0, none⟩ = some (.slice va r.ev.length vc) := (hg.cells.cell 0).trans rfl
          have d1 := hg.c1
          have d2 := hg.c2
          have d3 := hg.c3
          have d4 := hg.c4
          have d5 := hg.c5
          have b0 : wr.cell? ⟨H, 0, none⟩ = some (.slice none 0 0) := (kH.cell 0).trans rfl
          have b1 : wr.cell? ⟨H, 1, none⟩ = some (.int .i64 0) := (kH.cell 1).trans rfl
          have b2 : wr.cell? ⟨H, 2, none⟩ = some (.int .i64 0) := (kH.cell 2).trans rfl
          have b3 : wr.cell? ⟨H, 3, none⟩ = some (.slice none 0 0) := (kH.cell 3).trans rfl
          have b4 : wr.cell? ⟨H, 4, none⟩ = some (.int .i64 0) := (kH.cell 4).trans rfl
          have b5 : wr.cell? ⟨H, 5, none⟩ = some (.int .i64 0) := (kH.cell 5).trans rfl
          have y0 := kH.frozen 0
          have y1 := kH.frozen 1
          have y2 := kH.frozen 2
          have y3 := kH.frozen 3
          have y4 := kH.frozen 4
          have y5 := kH.frozen 5
          have AF : Aside _ := of_fin hg (A1.out.1.trans hfr.bel) kH
          have AFo : Aside (Fo b M r) := hf.fin h0 (by rw [AX.out.1]; exact hpL)
          clear kH hg hfr hpL h0 hf hpl hgk
          go_wp2_with (go_at_call 25; refine ko.mono ?_; rintro e2 w2 ⟨rfl, rfl⟩)
          (try simp only [Exit.inBlock, Exit.then])
          obtain ⟨m1, m2, m3⟩ := AF.out
          refine bodyPost_ret (v := .agg #[.slice va r.ev.length vc, .int .i64 (r.why : Int), .int .i64 (r.sat : Int), .slice a L C, .int .i64 (r.pos : Int), .int .i64 (r.left : Int)]) ?_ rfl ?_
          · exact results_cell_row rfl _ _ H 29 _ (0, 0) _ rfl m1 Tryz.underlying29 rfl size29
          · exact ⟨⟨r, _, rfl, AFo.out, m2, m3⟩⟩
        · obtain ⟨p, hp⟩ : ∃ p, r.pos = p := ⟨_, rfl⟩
          rw [hp] at d4 hpl hpL
          have bp : (p : Int) < 1000000000000 := by have := AX.out.2.1; omega
          have t1 : ((p : Int) == (L : Int)) = false := by rw [beq_eq_false_iff_ne]; omega
          have t2 : (p == L) = false := by rw [beq_eq_false_iff_ne]; omega
          have hlt : (p : Int) < (L : Int) := by omega
          have hltn : p < L := by omega
          obtain ⟨x, hx⟩ : ∃ x, b[p]? = some x := ⟨_, List.getElem?_eq_getElem (by rw [AX.out.1]; exact hltn)⟩
          have hxb : x < 256 := AX.out.2.2.2.1 x (List.mem_of_getElem? hx)
          obtain ⟨ga, oa, rfl, hca⟩ : ∃ ga oa, a = some ⟨ga, oa, none⟩ ∧ ∀ (u : World), Below H w u → ∀ (i y : Nat), b[i]? = some y → u.cell? ⟨ga, oa + i, none⟩ = some (.int .u8 (y : Int)) := by
            rcases AX.out.2.2.2.2 w (Below.refl _ _) with e | ⟨g, o, e, hc⟩
            · rw [e] at hx; simp at hx
            · refine ⟨g, o, e, fun u hu i y hy => ?_⟩
              rcases AX.out.2.2.2.2 u hu with e' | ⟨g', o', e', hc'⟩
              · rw [e'] at hx; simp at hx
              · rw [e] at e'; cases e'; exact hc' i y hy
          have hcx := hca wr (A1.out.1.trans hfr.bel) p x hx
          by_cases h31 : x = 31
          · have t3 : ((x : Int) != 31) = false := by rw [h31]; rfl
            have hn := hf.next h0 (by rw [hp, hx, h31])
            have km := AM.out wr r v (A1.out.1.trans hfr.bel) hg hn
            have AR : Aside (Fr H (H + 1) w1 wr ∧ gk = (if r.why = 0 then L - r.pos + 1 else 0) ∧ Fp0 b M r ∧ r.why = 0) := ⟨hfr, hgk, hn, h0⟩
            clear hg hfr hgk hf h0 hn hx hxb hca h31 hpL hp hltn hpl
            go_wp2_with (first
              | (go_at_call 25; refine ko.mono ?_; rintro e2 w2 ⟨rfl, rfl⟩)
              | (go_at_call 27; refine km.mono ?_; rintro e3 w3 ⟨z, v3, rfl, hz3, g3, f3⟩))
            obtain ⟨fq, fp⟩ := memb_fq AX.out.2.2.2.1 AR.out.2.2.1 (by have := AX.out.2.2.1; unfold MM; omega) hz3
            have h4 := AR.out.2.1
            rw [if_pos AR.out.2.2.2] at h4
            go_roundg (if (gmemb b r z).why = 0 then L - (gmemb b r z).pos + 1 else 0)
            case measure =>
              split
              · rename_i q
                have := fp q
                rcases fq.open q with ⟨⟨s4, q4⟩, _⟩
                have := q4.rch.1
                have := AX.out.1
                omega
              · omega
            case rel => exact ⟨false, rfl, ⟨_, v3, g3, AR.out.1.trans f3, rfl, Or.inr ⟨rfl, fq⟩⟩⟩
          · have t3 : ((x : Int) != 31) = true := by rw [bne_iff_ne]; omega
            have hnz := hf.nz h0 (by rw [hp, hx]; intro e; cases e; exact h31 rfl)
            rw [hp] at hnz
            have AC : Aside (∀ (u : World), Below H w u → ∀ (i y : Nat), b[i]? = some y → u.cell? ⟨ga, oa + i, none⟩ = some (.int .u8 (y : Int))) := hca
            have AR : Aside (Gm wr H (H + 1) (some ⟨ga, oa, none⟩) L C r v ∧ Fr H (H + 1) w1 wr ∧ Fq b M r ∧ r.why = 0 ∧ Nz b p r.ev ∧ p ≤ L) := ⟨hg, hfr, hf, h0, hnz, hpl⟩
            clear hg hfr hgk hf h0 hx hxb hca h31 hpL hp hnz hpl
            go_upto_block 2 with (go_at_call 25; refine ko.mono ?_; rintro e2 w2 ⟨rfl, rfl⟩)
            clear ko d4 hlt hltn t1 t2 t3 hcx bp
            go_wp2_with fail
            go_loopg [7] (L - p) (fun gg s7 wq => ∃ i : Nat, s7 = .int .i64 (i : Int) ∧ wq = w2 ∧ Aside (gg = L - i ∧ i ≤ L ∧ Nz b i r.ev))
            case atStart => exact ⟨p, rfl, rfl, ⟨rfl, AR.out.2.2.2.2.2, AR.out.2.2.2.2.1⟩⟩
            case round =>
              obtain ⟨i, rfl, rfl, hT⟩ := hrel
              obtain ⟨hgk2, hiL, hnz⟩ := hT.out
              clear hT
              by_cases hlt : i < L
              · have bi : (i : Int) < (L : Int) := by omega
                obtain ⟨y, hy⟩ : ∃ y, b[i]? = some y := ⟨_, List.getElem?_eq_getElem (by rw [AX.out.1]; exact hlt)⟩
                have hcy := AC.out wr (A1.out.1.trans AR.out.2.1.bel) i y hy
                have bin : (i : Int) + 1 < 1000000000000 := by have := AX.out.2.1; omega
                by_cases hy0 : y = 0
                · have t1 : ((y : Int) != 0) = false := by rw [hy0]; rfl
                  have A3 : Aside (Nz b (i + 1) r.ev ∧ gk = L - i ∧ i < L) := ⟨hnz.step (by rw [hy, hy0]), hgk2, hlt⟩
                  clear hnz hgk2 hlt hiL hy hy0
                  go_wp2_with fail
                  have a3 := A3.out
                  go_roundg (L - (i + 1))
                  case measure => omega
                  case rel => exact ⟨i + 1, by push_cast; rfl, rfl, ⟨rfl, a3.2.2, a3.1⟩⟩
                · have t1 : ((y : Int) != 0) = true := by rw [bne_iff_ne]; omega
                  have ks : Calls Tryz.prog 26 #[.pointer (some ⟨H + 1, 0, none⟩), .int .i64 47, .int .i64 (i : Int)] wr _ := gstop_c 47 i wr AR.out.1
                  have A3 : Aside (Fo b M (gstop 47 i r)) := AR.out.2.2.1.bad hnz hy hy0
                  clear hnz hgk2 hlt hiL hy hy0
                  go_upto_region 13 with (go_at_call 26; refine ks.mono ?_; rintro e3 w3 ⟨rfl, hg, o3⟩)
                  have hfr := AR.out.2.1.trans (Fr.of_only o3 (Nat.le_succ H))
                  obtain ⟨r3, hr3⟩ : ∃ r3, gstop 47 i r = r3 := ⟨_, rfl⟩
                  rw [hr3] at hg A3
                  clear hr3 ks o3 hcy t1
                  have kH := keepH A1.out.2.1 A1.out.2.2 hfr
                  obtain ⟨va, vc, hv, _⟩ := hg.ow.shape
                  rw [hv] at hg
                  have d0 : w3.cell? ⟨H + 1, 0, none⟩ = some (.slice va r3.ev.length vc) := (hg.cells.cell 0).trans rfl
                  have d1 := hg.c1
                  have d2 := hg.c2
                  have d3 := hg.c3
                  have d4 := hg.c4
                  have d5 := hg.c5
                  have b0 : w3.cell? ⟨H, 0, none⟩ = some (.slice none 0 0) := (kH.cell 0).trans rfl
                  have b1 : w3.cell? ⟨H, 1, none⟩ = some (.int .i64 0) := (kH.cell 1).trans rfl
                  have b2 : w3.cell? ⟨H, 2, none⟩ = some (.int .i64 0) := (kH.cell 2).trans rfl
                  have b3 : w3.cell? ⟨H, 3, none⟩ = some (.slice none 0 0) := (kH.cell 3).trans rfl
                  have b4 : w3.cell? ⟨H, 4, none⟩ = some (.int .i64 0) := (kH.cell 4).trans rfl
                  have b5 : w3.cell? ⟨H, 5, none⟩ = some (.int .i64 0) := (kH.cell 5).trans rfl
                  have y0 := kH.frozen 0
                  have y1 := kH.frozen 1
                  have y2 := kH.frozen 2
                  have y3 := kH.frozen 3
                  have y4 := kH.frozen 4
                  have y5 := kH.frozen 5
                  have AF : Aside _ := of_fin hg (A1.out.1.trans hfr.bel) kH
                  have AFo : Aside (Fo b M r3) := A3.out
                  clear kH hg hfr 
                  go_wp2_with fail
                  (try simp only [Exit.inBlock, Exit.then])
                  obtain ⟨m1, m2, m3⟩ := AF.out
                  refine bodyPost_ret (v := .agg #[.slice va r3.ev.length vc, .int .i64 (r3.why : Int), .int .i64 (r3.sat : Int), .slice (some ⟨ga, oa, none⟩) L C, .int .i64 (r3.pos : Int), .int .i64 (r3.left : Int)]) ?_ rfl ?_
                  · exact results_cell_row rfl _ _ H 29 _ (0, 0) _ rfl m1 Tryz.underlying29 rfl size29
                  · exact ⟨⟨r3, _, rfl, AFo.out, m2, m3⟩⟩
              · have bi : ¬ (i : Int) < (L : Int) := by omega
                have hg := AR.out.1
                have hfr := AR.out.2.1
                have hfo : Fo b M r := AR.out.2.2.1.clean AR.out.2.2.2.1 (by rw [AX.out.1, show L = i by omega]; exact hnz)
                clear hnz hgk2 hlt hiL
                have kH := keepH A1.out.2.1 A1.out.2.2 hfr
                obtain ⟨va, vc, hv, _⟩ := hg.ow.shape
                rw [hv] at hg
                have d0 : wr.cell? ⟨H + 1, 0, none⟩ = some (.slice va r.ev.length vc) := (hg.cells.cell 0).trans rfl
                have d1 := hg.c1
                have d2 := hg.c2
                have d3 := hg.c3
                have d4 := hg.c4
                have d5 := hg.c5
                have b0 : wr.cell? ⟨H, 0, none⟩ = some (.slice none 0 0) := (kH.cell 0).trans rfl
                have b1 : wr.cell? ⟨H, 1, none⟩ = some (.int .i64 0) := (kH.cell 1).trans rfl
                have b2 : wr.cell? ⟨H, 2, none⟩ = some (.int .i64 0) := (kH.cell 2).trans rfl
                have b3 : wr.cell? ⟨H, 3, none⟩ = some (.slice none 0 0) := (kH.cell 3).trans rfl
                have b4 : wr.cell? ⟨H, 4, none⟩ = some (.int .i64 0) := (kH.cell 4).trans rfl
                have b5 : wr.cell? ⟨H, 5, none⟩ = some (.int .i64 0) := (kH.cell 5).trans rfl
                have y0 := kH.frozen 0
                have y1 := kH.frozen 1
                have y2 := kH.frozen 2
                have y3 := kH.frozen 3
                have y4 := kH.frozen 4
                have y5 := kH.frozen 5
                have AF : Aside _ := of_fin hg (A1.out.1.trans hfr.bel) kH
                have AFo : Aside (Fo b M r) := hfo
                clear kH hg hfr hfo
                go_wp2_with fail
                (try simp only [Exit.inBlock, Exit.then])
                obtain ⟨m1, m2, m3⟩ := AF.out
                refine bodyPost_ret (v := .agg #[.slice va r.ev.length vc, .int .i64 (r.why : Int), .int .i64 (r.sat : Int), .slice (some ⟨ga, oa, none⟩) L C, .int .i64 (r.pos : Int), .int .i64 (r.left : Int)]) ?_ rfl ?_
                · exact results_cell_row rfl _ _ H 29 _ (0, 0) _ rfl m1 Tryz.underlying29 rfl size29
                · exact ⟨⟨r, _, rfl, AFo.out, m2, m3⟩⟩
    · rw [decide_eq_false h0] at ko
      have hf : Fq b M r := by
        rcases hfq with ⟨_, hf⟩ | ⟨_, hf⟩
        · obtain ⟨⟨s, hs⟩, _⟩ := hf; exact absurd hs.why h0
        · exact hf
      clear hfq hgk
      have kH := keepH A1.out.2.1 A1.out.2.2 hfr
      obtain ⟨va, vc, hv, _⟩ := hg.ow.shape
      rw [hv] at hg
      have d0 : wr.cell? ⟨H + 1, 0, none⟩ = some (.slice va r.ev.length vc) := (hg.cells.cell 0).trans rfl
      have d1 := hg.c1
      have d2 := hg.c2
      have d3 := hg.c3
      have d4 := hg.c4
      have d5 := hg.c5
      have b0 : wr.cell? ⟨H, 0, none⟩ = some (.slice none 0 0) := (kH.cell 0).trans rfl
      have b1 : wr.cell? ⟨H, 1, none⟩ = some (.int .i64 0) := (kH.cell 1).trans rfl
      have b2 : wr.cell? ⟨H, 2, none⟩ = some (.int .i64 0) := (kH.cell 2).trans rfl
      have b3 : wr.cell? ⟨H, 3, none⟩ = some (.slice none 0 0) := (kH.cell 3).trans rfl
      have b4 : wr.cell? ⟨H, 4, none⟩ = some (.int .i64 0) := (kH.cell 4).trans rfl
      have b5 : wr.cell? ⟨H, 5, none⟩ = some (.int .i64 0) := (kH.cell 5).trans rfl
      have y0 := kH.frozen 0
      have y1 := kH.frozen 1
      have y2 := kH.frozen 2
      have y3 := kH.frozen 3
      have y4 := kH.frozen 4
      have y5 := kH.frozen 5
      have AF : Aside _ := of_fin hg (A1.out.1.trans hfr.bel) kH
      have AFo : Aside (Fo b M r) := hf.stop h0
      clear kH hg hfr h0 hf
      go_wp2_with (go_at_call 25; refine ko.mono ?_; rintro e2 w2 ⟨rfl, rfl⟩)
      (try simp only [Exit.inBlock, Exit.then])
      obtain ⟨m1, m2, m3⟩ := AF.out
      refine bodyPost_ret (v := .agg #[.slice va r.ev.length vc, .int .i64 (r.why : Int), .int .i64 (r.sat : Int), .slice a L C, .int .i64 (r.pos : Int), .int .i64 (r.left : Int)]) ?_ rfl ?_
      · exact results_cell_row rfl _ _ H 29 _ (0, 0) _ rfl m1 Tryz.underlying29 rfl size29
      · exact ⟨⟨r, _, rfl, AFo.out, m2, m3⟩⟩
end
end Go.Proofs.YtogednaamndpgaaGreatDoor

/-
  What Whole's loops stand at. No walk.
-/
namespace Go.Proofs.YtogednaamndpgaaGreatDoor
open Go.RowKit
set_option linter.unusedVariables false
/-- What is gathered, what is still to come, and what is answered in the end. -/
structure Ms (ls : List (List Nat)) (gv N L y : Nat) (cs : List Nat) (R0 : List (List Nat) × Nat) : Prop where
  res : rs (N - gv) y ls cs = R0
  gd : Gd (decide (ls ≠ [])) cs
  lt : ∀ c ∈ cs, c < 258
  no : ls.length + nop cs ≤ L
  each : ∀ l ∈ ls, l.length ≤ gv
  gn : gv ≤ N
section
variable {ls : List (List Nat)} {gv N L y g : Nat} {cs : List Nat} {R0 : List (List Nat) × Nat}
theorem Ms.open_ (h : Ms ls gv N L y (256 :: cs) R0) : Ms (ls ++ [[]]) gv N L y cs R0 := by
  refine ⟨by rw [← rs_open]; exact h.res, ?_, fun c hc => h.lt c (List.mem_cons_of_mem _ hc), ?_, fun l hl => ?_, h.gn⟩
  · have : decide (ls ++ [[]] ≠ []) = true := by simp
    rw [this]; exact gd_true _
  · have := h.no
    simp only [nop, if_true, List.length_append, List.length_singleton] at this ⊢
    omega
  · rcases List.mem_append.1 hl with e | e
    · exact h.each l e
    · rw [List.mem_singleton.1 e]; exact Nat.zero_le _
theorem Ms.close (h : Ms ls gv N L y (257 :: cs) R0) : Ms ls gv N L y cs R0 := by
  refine ⟨by rw [← rs_close]; exact h.res, ?_, fun c hc => h.lt c (List.mem_cons_of_mem _ hc), ?_, h.each, h.gn⟩
  · have := h.gd
    simpa [Gd] using this
  · have := h.no
    simpa [nop] using this
theorem Ms.ne (h : Ms ls gv N L y (g :: cs) R0) (hg : g < 256) : ls ≠ [] := by
  have := h.gd
  unfold Gd at this
  rw [if_neg (by omega), if_neg (by omega)] at this
  simpa using this.1
theorem Ms.byte (h : Ms ls gv N L y (g :: cs) R0) (hg : g < 256) (hN : gv < N) {l : List Nat} (hl : ls.getLastD [] = l) (hm : l ∈ ls) : Ms (ls.dropLast ++ [l ++ [g]]) (gv + 1) N L y cs R0 := by
  have hne := h.ne hg
  refine ⟨?_, ?_, fun c hc => h.lt c (List.mem_cons_of_mem _ hc), ?_, fun m hm' => ?_, hN⟩
  · have e := h.res
    rw [show N - gv = (N - (gv + 1)) + 1 by omega, rs_byte hg, hl] at e
    exact e
  · have : decide (ls.dropLast ++ [l ++ [g]] ≠ []) = true := by simp
    rw [this]; exact gd_true _
  · have := h.no
    simp only [nop, if_neg (show ¬ g = 256 by omega), List.length_append, List.length_singleton, List.length_dropLast] at this ⊢
    have := List.length_pos_iff.2 hne
    omega
  · rcases List.mem_append.1 hm' with e | e
    · have := h.each m (List.dropLast_subset _ e); omega
    · rw [List.mem_singleton.1 e, List.length_append, List.length_singleton]
      have := h.each l hm
      omega
theorem Ms.over (h : Ms ls gv N L y (g :: cs) R0) (hg : g < 256) (hN : ¬ gv < N) : R0 = (ls, 62) := by
  have e := h.res
  rw [show N - gv = 0 by omega, rs_over hg] at e
  exact e.symm
theorem Ms.nil (h : Ms ls gv N L y [] R0) : R0 = (ls, y) := by
  have e := h.res
  rw [rs_nil] at e
  exact e.symm
end
/-- What Whole answers. -/
structure Wr0 (R0 : List (List Nat) × Nat) (w : World) (e : Ending) (w' : World) : Prop where
  ex : ∃ v lo2, e = .returned (.tuple #[v, .int .i64 (R0.2 : Int)]) ∧ w.heap.size ≤ lo2 ∧ Ll w' lo2 v R0.1 ∧ Below w.heap.size w w'
theorem but_of_only {c : Nat} {w u : World} (h : Only c w u) : But c w u := ⟨h.os, h.tape, h.output, Nat.le_of_eq h.size.symm, fun k _ hm => h.block k hm⟩
section
variable {lo hi B D b R W A lo2 E E2 : Nat} {w wr wx w7 : World} {ek eb en ek2 eb2 en2 : Int} {nm nm2 : List Nat} {ok ok2 : Bool} {v : Value} {ls : List (List Nat)} {s1 : Gs} {rem rem2 : List Evn} {gv N L y G1 : Nat} {fut : List Nat} {R0 : List (List Nat) × Nat}
theorem Wz.var {u : World} {H : Nat} {cs : Array Value} (h : Wz wr lo hi B D b R W A s1 rem) (hH : hi ≤ H) (hc : Cells wr H cs 43) (o : Only H wr u) : Wz u lo hi B D b R W A s1 rem :=
  h.out ⟨o.os, o.tape, o.output, Nat.le_of_eq o.size.symm, fun k hk => o.block k (by omega)⟩ fun i hi' => by
    by_cases e : i = H
    · subst e; exact Or.inr ⟨_, 43, _, hc, Or.inr (Or.inr rfl)⟩
    · exact Or.inl (o.block i e)
theorem Ll.fw {u : World} (h : Ll wr lo2 v ls) (k : Fw lo hi wr u) (hl : hi ≤ lo2) : Ll u lo2 v ls := h.keep k.size fun g h1 h2 _ => k.block g h2 (Or.inr (by omega))
/-- The inner loop. -/
structure Gq (lo hi B D b R W A lo2 E : Nat) (w wr : World) (ek eb en : Int) (nm : List Nat) (ok : Bool) (v : Value) (ls : List (List Nat)) (s1 : Gs) (rem : List Evn) (gv N L y G1 : Nat) (fut : List Nat) (R0 : List (List Nat) × Nat) : Prop where
  wz : Wz wr lo hi B D b R W A s1 rem
  ll : Ll wr lo2 v ls
  ev : Cells wr E #[.int .i64 ek, .int .u8 eb, .int .i64 en, .int .i64 0, .string (st nm)] 43
  bel : Below w.heap.size w wr
  le : lo2 ≤ E
  geo : w.heap.size ≤ lo ∧ hi ≤ lo2 ∧ w.heap.size ≤ lo2
  yl : s1.y.out.length ≤ G1
  st : (ok = false ∧ rem = [] ∧ Ms ls gv N L y fut R0 ∧ gv = G1) ∨ (ok = true ∧ ∃ g, ek = gk1 g ∧ eb = gk2 g ∧ Ms ls gv N L y (g :: (cde rem ++ fut)) R0 ∧ gv + nbe (g :: cde rem) = G1)
/-- Behind an event, ahead of the next. -/
structure Gu (lo hi B D b R W A lo2 : Nat) (w wr : World) (v : Value) (ls : List (List Nat)) (s1 : Gs) (rem : List Evn) (gv N L y G1 : Nat) (fut : List Nat) (R0 : List (List Nat) × Nat) : Prop where
  wz : Wz wr lo hi B D b R W A s1 rem
  ll : Ll wr lo2 v ls
  bel : Below w.heap.size w wr
  geo : w.heap.size ≤ lo ∧ hi ≤ lo2 ∧ w.heap.size ≤ lo2
  yl : s1.y.out.length ≤ G1
  ms : Ms ls gv N L y (cde rem ++ fut) R0
  g1 : gv + nbe (cde rem) = G1
/-- What Next answers, whatever is pending. -/
def NxC (lo hi B D b R W A : Nat) (s1 : Gs) (rem : List Evn) (u : World) (ek eb en : Int) (nm : List Nat) (ok : Bool) (rem2 : List Evn) : Prop := (Calls Tryz.prog 20 #[.pointer (some ⟨W, 0, none⟩)] u fun e w' => e = .returned (.tuple #[.agg #[.int .i64 ek, .int .u8 eb, .int .i64 en, .int .i64 0, .string (st nm)], .bool ok]) ∧ Wz w' lo hi B D b R W A s1 rem2 ∧ Fw lo hi u w') ∧ ((ok = false ∧ rem = [] ∧ rem2 = []) ∨ (ok = true ∧ ∃ g m, ek = gk1 g ∧ eb = gk2 g ∧ rem = (g, m) :: rem2))
theorem next_all {u : World} (hz : Wz u lo hi B D b R W A s1 rem) (hb : rem ≠ [] → s1.y.out.length + 2 < MM + rem.length) : ∃ ek eb en nm ok rem2, NxC lo hi B D b R W A s1 rem u ek eb en nm ok rem2 := by
  cases rem with
  | nil => exact ⟨0, 0, 0, [], false, [], (wz_next_no u hz).mono fun e w' k => ⟨k.1, k.2.1, Fw.of_below k.2.2 (Nat.le_refl _)⟩, Or.inl ⟨rfl, rfl, rfl⟩⟩
  | cons e r =>
    have := hb (by simp)
    rw [List.length_cons] at this
    exact ⟨gk1 e.1, gk2 e.1, gk3 e.1, e.2, true, r, wz_next e u hz (by omega), Or.inr ⟨rfl, e.1, e.2, rfl, rfl, rfl⟩⟩
theorem nbe_le : ∀ l : List Evn, nbe (cde l) ≤ l.length
  | [] => Nat.zero_le _
  | e :: l => by
    have := nbe_le l
    simp only [cde, List.map_cons, nbe, List.length_cons] at this ⊢
    split <;> omega
/-- The next event is laid into its place. -/
theorem Gu.next (h : Gu lo hi B D b R W A lo2 w wx v ls s1 rem gv N L y G1 fut R0) (hE : wx.heap.size = E2) (hz : Wz w7 lo hi B D b R W A s1 rem2) (hf : Fw lo hi (wx.alloc (.cells #[.int .i64 ek, .int .u8 eb, .int .i64 en, .int .i64 0, .string (st nm)] 43)) w7) (hc : (ok2 = false ∧ rem = [] ∧ rem2 = []) ∨ (ok2 = true ∧ ∃ g m, ek2 = gk1 g ∧ eb2 = gk2 g ∧ rem = (g, m) :: rem2)) :
    Cells w7 E2 #[.int .i64 ek, .int .u8 eb, .int .i64 en, .int .i64 0, .string (st nm)] 43 ∧ Gq lo hi B D b R W A lo2 E2 w (((((w7.setCell ⟨E2, 0, none⟩ (.int .i64 ek2)).setCell ⟨E2, 1, none⟩ (.int .u8 eb2)).setCell ⟨E2, 2, none⟩ (.int .i64 en2)).setCell ⟨E2, 3, none⟩ (.int .i64 0)).setCell ⟨E2, 4, none⟩ (.string (st nm2))) ek2 eb2 en2 nm2 ok2 v ls s1 rem2 gv N L y G1 fut R0 := by
  have bA : Below wx.heap.size wx (wx.alloc (.cells #[.int .i64 ek, .int .u8 eb, .int .i64 en, .int .i64 0, .string (st nm)] 43)) := (Below.refl _ wx).alloc (Nat.le_refl _) _
  have kA : Cells (wx.alloc (.cells #[.int .i64 ek, .int .u8 eb, .int .i64 en, .int .i64 0, .string (st nm)] 43)) E2 #[.int .i64 ek, .int .u8 eb, .int .i64 en, .int .i64 0, .string (st nm)] 43 := by rw [← hE]; exact Cells.new wx _ 43
  have hle := h.ll.le
  have geo := h.geo
  have k7 := kA.fw hf (by omega)
  have l7 := (h.ll.below bA (Nat.le_refl _)).fw hf geo.2.1
  have o8 := only_five E2 w7 (.int .i64 ek2) (.int .u8 eb2) (.int .i64 en2) (.int .i64 0) (.string (st nm2))
  refine ⟨k7, ⟨hz.var (by omega) k7 o8, l7.but (but_of_only o8) k7 ⟨by decide, by decide⟩, set5 k7 _ _ _ _ _, ?_, by omega, geo, h.yl, ?_⟩⟩
  · have b7 : Below w.heap.size (wx.alloc (.cells #[.int .i64 ek, .int .u8 eb, .int .i64 en, .int .i64 0, .string (st nm)] 43)) w7 := ⟨hf.os, hf.tape, hf.output, hf.size, fun k hk => hf.block k (by have := bA.size; omega) (Or.inl (by omega))⟩
    exact ((h.bel.trans (bA.mono (by omega))).trans b7).trans (o8.below (by omega))
  · rcases hc with ⟨h1, h2, h3⟩ | ⟨h1, g, m, h2, h3, h4⟩
    · left
      have ms := h.ms
      have g1 := h.g1
      rw [h2] at ms g1
      exact ⟨h1, h3, ms, g1⟩
    · right
      have ms := h.ms
      have g1 := h.g1
      rw [h4] at ms g1
      exact ⟨h1, g, h2, h3, ms, g1⟩
end
end Go.Proofs.YtogednaamndpgaaGreatDoor

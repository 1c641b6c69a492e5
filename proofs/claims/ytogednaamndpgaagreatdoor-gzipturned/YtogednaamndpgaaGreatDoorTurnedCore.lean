/-
  GzipTurned's walk.
-/
import Derived.Test.YtogednaamndpgaaGreatDoorMzb
import Derived.Test.YtogednaamndpgaaGreatDoorManyCore
import Derived.Laws.BitsAllLaws
namespace Go.Proofs.YtogednaamndpgaaGreatDoor
open Go.RowKit
set_option linter.unusedVariables false
structure Fv (w : World) (m : Mb) (S : ByteArray) (ea : Option Addr) (el ec : Nat) (sb : Bool) (da : Option Addr) (dl dc : Nat) (pa : Option Addr) (pl pc : Nat) : Prop where
  nm : st m.nm = S
  el : m.ex.length = el
  sb : m.sb = sb
  dl : m.dt.length = dl
  pl : m.ps.length = pl
  ex : Sl w ea m.ex ec
  dt : Sl w da m.dt dc
  ps : Plan w pa m.ps
  ok : Mo0 m
theorem Fv.ma {w u : World} {m : Mb} {S : ByteArray} {ea da pa : Option Addr} {el ec dl dc pl pc : Nat} {sb : Bool} {H : Nat} (h : Fv w m S ea el ec sb da dl dc pa pl pc) (hu : Below w.heap.size w u) (hc : Cells u H #[.string S, .slice ea el ec, .bool sb, .slice da dl dc, .slice pa pl pc] 53) : Ma u (some ⟨H, 0, none⟩) [m] 1 := by
  refine ⟨rfl, by omega, Or.inr ⟨H, 0, rfl, fun i m' hm' => ?_⟩, fun m' hm' => ?_⟩
  · cases i with
    | zero =>
      simp at hm'
      subst hm'
      exact ⟨ea, ec, da, dc, pa, pc, by rw [h.nm]; exact (hc.cell 0).trans rfl, by rw [h.el]; exact (hc.cell 1).trans rfl, by rw [h.sb]; exact (hc.cell 2).trans rfl, by rw [h.dl]; exact (hc.cell 3).trans rfl, by rw [h.pl]; exact (hc.cell 4).trans rfl, h.ex.below hu, h.dt.below hu, h.ps.below hu⟩
    | succ i => simp at hm'
  · simp at hm'
    subst hm'
    exact h.ok
set_option maxRecDepth 100000 in
set_option maxHeartbeats 8000000 in
theorem turned_core (w : World) (ht : Tabs w) (hct : Ctab w) (h8 : 8 ≤ w.heap.size) (m : Mb) (S : ByteArray) (ea : Option Addr) (el ec : Nat) (sb : Bool) (da : Option Addr) (dl dc : Nat) (pa : Option Addr) (pl pc : Nat) (hf : Fv w m S ea el ec sb da dl dc pa pl pc) (at_ by_ : Nat) (hat : at_ < 256) (hby : by_ < 256) :
    Calls Tryz.prog 7 #[.agg #[.string S, .slice ea el ec, .bool sb, .slice da dl dc, .slice pa pl pc], .int .u8 (at_ : Int), .int .u8 (by_ : Int)] w fun e w' => e = .returned (.bool true) ∧ Below w.heap.size w w' := by
  obtain ⟨lo, hlo⟩ : ∃ lo, w.heap.size = lo := ⟨_, rfl⟩
  have AW : Aside (∀ u : World, Below lo w u → Calls Tryz.prog 13 #[] u fun e w' => e = .returned (.bool true) ∧ Below u.heap.size u w') := fun u hu => by
    rw [← hlo] at hu
    exact wawake_c u (ht.below hu h8) (hct.below hu (by omega)) (by have := hu.size; omega)
  obtain ⟨w1, hw1⟩ : ∃ w1, w.alloc (.cells #[.string S, .slice ea el ec, .bool sb, .slice da dl dc, .slice pa pl pc] 53) = w1 := ⟨_, rfl⟩
  have b1 : Below lo w w1 := by rw [← hw1, ← hlo]; exact (Below.refl _ w).alloc (Nat.le_refl _) _
  have k1 : Cells w1 lo #[.string S, .slice ea el ec, .bool sb, .slice da dl dc, .slice pa pl pc] 53 := by rw [← hw1, ← hlo]; exact Cells.new w _ 53
  have hs1 : lo < w1.heap.size := k1.lt
  have A : Aside (Tabs w ∧ Ctab w ∧ 8 ≤ lo ∧ w.heap.size = lo ∧ Fv w m S ea el ec sb da dl dc pa pl pc ∧ Below lo w w1 ∧ Cells w1 lo #[.string S, .slice ea el ec, .bool sb, .slice da dl dc, .slice pa pl pc] 53 ∧ lo < w1.heap.size) := ⟨ht, hct, by omega, hlo, hf, b1, k1, hs1⟩
  have c0 : w1.cell? ⟨lo, 0, none⟩ = some (.string S) := (k1.cell 0).trans rfl
  have c1 : w1.cell? ⟨lo, 1, none⟩ = some (.slice ea el ec) := (k1.cell 1).trans rfl
  have c2 : w1.cell? ⟨lo, 2, none⟩ = some (.bool sb) := (k1.cell 2).trans rfl
  have c3 : w1.cell? ⟨lo, 3, none⟩ = some (.slice da dl dc) := (k1.cell 3).trans rfl
  have c4 : w1.cell? ⟨lo, 4, none⟩ = some (.slice pa pl pc) := (k1.cell 4).trans rfl
  rw [hlo]
  clear ht hct h8 hf b1 k1 hs1
  by_cases hz : by_ = 0
  · have e1 : ((by_ : Int) == 0) = true := by rw [hz]; rfl
    have ha := AW.out w1 A.out.2.2.2.2.2.1
    clear hz
    go_enter Tryz.func7, Tryz.ntmps7
    go_upto_region 1 with fail
    (try rw [hw1])
    (try rw [hlo])
    clear hw1 hlo
    go_wp2_with (go_at_call 13; refine ha.mono ?_; rintro e2 w2 ⟨rfl, b2⟩)
    first | go_ret | go_ret2
    exact ⟨rfl, A.out.2.2.2.2.2.1.trans (b2.mono (by have := A.out.2.2.2.2.2.2.2; omega))⟩
  have e1 : ((by_ : Int) == 0) = false := by rw [beq_eq_false_iff_ne]; omega
  go_enter Tryz.func7, Tryz.ntmps7
  go_upto_region 1 with fail
  (try rw [hw1])
  (try rw [hlo])
  clear hw1 hlo
  obtain ⟨H2, hH2⟩ : ∃ H2, w1.heap.size = H2 := ⟨_, rfl⟩
  obtain ⟨w2, hw2⟩ : ∃ w2, w1.alloc (.cells #[.string S, .slice ea el ec, .bool sb, .slice da dl dc, .slice pa pl pc] 53) = w2 := ⟨_, rfl⟩
  have b2 : Below w1.heap.size w1 w2 := by rw [← hw2]; exact (Below.refl _ w1).alloc (Nat.le_refl _) _
  have k2 : Cells w2 H2 #[.string S, .slice ea el ec, .bool sb, .slice da dl dc, .slice pa pl pc] 53 := by rw [← hw2, ← hH2]; exact Cells.new w1 _ 53
  obtain ⟨t1, ht1⟩ : ∃ t, decide (1 + msz [m] < 3000) = t := ⟨_, rfl⟩
  have bl2 : Below lo w w2 := A.out.2.2.2.2.2.1.trans (b2.mono (by have := A.out.2.2.2.2.2.2.2; omega))
  have hs2 : Calls Tryz.prog 21 #[.slice (some ⟨H2, 0, none⟩) 1 1] w2 fun e w' => e = .returned (.bool t1) ∧ Below w2.heap.size w2 w' := (A.out.2.2.2.2.1.ma (by rw [A.out.2.2.2.1]; exact bl2) k2).small (Below.refl _ _) 1 t1 ht1
  have A2 : Aside (Below lo w w2 ∧ decide (1 + msz [m] < 3000) = t1 ∧ Below w1.heap.size w1 w2 ∧ lo ≤ w2.heap.size) := ⟨bl2, ht1, b2, by have := b2.size; have := A.out.2.2.2.2.2.2.2; omega⟩
  clear b2 k2 ht1 bl2
  cases t1 with
  | false =>
    go_upto_region 2 with (first
      | (go_at_call 21; (try rw [hw2, hH2]); refine hs2.mono ?_; rintro e3 w3 ⟨rfl, b3⟩))
    have bl3 : Below lo w w3 := A2.out.1.trans (b3.mono A2.out.2.2.2)
    have ha := AW.out w3 bl3
    have A3 : Aside (Below lo w w3 ∧ lo ≤ w3.heap.size) := ⟨bl3, by have := b3.size; have := A2.out.2.2.2; omega⟩
    clear bl3 b3 hs2 hw2 hH2
    go_wp2_with (go_at_call 13; refine ha.mono ?_; rintro e4 w4 ⟨rfl, b4⟩)
    first | go_ret | go_ret2
    exact ⟨rfl, A3.out.1.trans (b4.mono A3.out.2)⟩
  | true =>
  go_upto_region 3 with (first
    | (go_at_call 21; (try rw [hw2, hH2]); refine hs2.mono ?_; rintro e3 w3 ⟨rfl, b3⟩))
  have hsm : 1 + msz [m] < 3000 := of_decide_eq_true A2.out.2.1
  have bl3 : Below lo w w3 := A2.out.1.trans (b3.mono A2.out.2.2.2)
  have b13 : Below w1.heap.size w1 w3 := A2.out.2.2.1.trans (b3.mono A2.out.2.2.1.size)
  have k3 := A.out.2.2.2.2.2.2.1.below b13 A.out.2.2.2.2.2.2.2
  have hs3 : lo ≤ w3.heap.size := by have := b3.size; have := A2.out.2.2.2; omega
  clear c0 c1 c2 c3 c4
  have c0 : w3.cell? ⟨lo, 0, none⟩ = some (.string S) := (k3.cell 0).trans rfl
  have c1 : w3.cell? ⟨lo, 1, none⟩ = some (.slice ea el ec) := (k3.cell 1).trans rfl
  have c2 : w3.cell? ⟨lo, 2, none⟩ = some (.bool sb) := (k3.cell 2).trans rfl
  have c3 : w3.cell? ⟨lo, 3, none⟩ = some (.slice da dl dc) := (k3.cell 3).trans rfl
  have c4 : w3.cell? ⟨lo, 4, none⟩ = some (.slice pa pl pc) := (k3.cell 4).trans rfl
  obtain ⟨H4, hH4⟩ : ∃ H4, w3.heap.size = H4 := ⟨_, rfl⟩
  obtain ⟨w4, hw4⟩ : ∃ w4, w3.alloc (.cells #[.string S, .slice ea el ec, .bool sb, .slice da dl dc, .slice pa pl pc] 53) = w4 := ⟨_, rfl⟩
  have b4 : Below w3.heap.size w3 w4 := by rw [← hw4]; exact (Below.refl _ w3).alloc (Nat.le_refl _) _
  have k4 : Cells w4 H4 #[.string S, .slice ea el ec, .bool sb, .slice da dl dc, .slice pa pl pc] 53 := by rw [← hw4, ← hH4]; exact Cells.new w3 _ 53
  have bl4 : Below lo w w4 := bl3.trans (b4.mono hs3)
  have hs4 : lo ≤ w4.heap.size := by have := b4.size; omega
  have hwr : Calls Tryz.prog 22 #[.slice (some ⟨H4, 0, none⟩) 1 1] w4 fun e w' => Wl [m] w4 e w' := (A.out.2.2.2.2.1.ma (by rw [A.out.2.2.2.1]; exact bl4) k4).write (Below.refl _ _) (by have := A.out.2.2.1; omega) hsm (by decide) 1
  have A4 : Aside (Below lo w w4 ∧ lo ≤ w4.heap.size ∧ Cells w4 lo #[.string S, .slice ea el ec, .bool sb, .slice da dl dc, .slice pa pl pc] 53 ∧ lo < w4.heap.size ∧ 1 + msz [m] < 3000 ∧ by_ ≠ 0) := ⟨bl4, hs4, k3.below b4 k3.lt, by have := k3.lt; have := b4.size; omega, hsm, hz⟩
  clear hs2 b3 bl3 b13 k3 hs3 b4 k4 bl4 hs4 hsm hw2 hH2 hz
  go_upto_region 4 with (first
    | (go_at_call 22; (try rw [hw4, hH4]); refine hwr.mono ?_; intro e5 w5 h5; obtain ⟨za, zn, zc, ws, he5, hk, hne, hzo, hzl, hzb, b5⟩ := h5.ex; subst he5))
  obtain ⟨x0, hx0⟩ : ∃ x0, ws = [x0] := by
    have := congrArg List.length hk.d
    simp at this
    match ws, this with
    | [x], _ => exact ⟨x, rfl⟩
  subst hx0
  have hwal : wal [x0] = x0.bytes := by simp [wal]
  rw [hwal] at hzo hzl
  have hd0 : x0.d = m.dt := by have := hk.d; simpa using this
  have hlen := wm_len x0
  obtain ⟨za2, zc2, hv, _, h0 | ⟨g, hg, hglo, ⟨cg, hcg⟩, hcx, hfr⟩, _⟩ := hzo.shape
  · omega
  cases hv
  subst hg
  obtain ⟨k, hk8⟩ : ∃ k, at_ % 8 = k := ⟨_, rfl⟩
  obtain ⟨q, hq⟩ : ∃ q, zn - 8 = q := ⟨_, rfl⟩
  obtain ⟨p, hp⟩ : ∃ p, q + k = p := ⟨_, rfl⟩
  obtain ⟨x, hx⟩ : ∃ x, x0.bytes[p]? = some x := ⟨_, List.getElem?_eq_getElem (by omega)⟩
  have hxo : x < 256 := hk.oc x0 (List.mem_cons_self ..) x (List.mem_of_getElem? hx)
  obtain ⟨xy, hxy⟩ : ∃ xy, x ^^^ by_ = xy := ⟨_, rfl⟩
  have hxy2 : xy < 256 := by rw [← hxy]; exact Nat.xor_lt_two_pow (n := 8) hxo hby
  have hbx : bits .xor .u8 (x : Int) (by_ : Int) = (xy : Int) := by rw [u8_xor_nat x by_ hxo hby, hxy]
  have cz : w5.cell? ⟨g, p, none⟩ = some (.int .u8 (x : Int)) := hcx p _ (by rw [ob_get, hx]; rfl)
  have fz : w5.frozen? ⟨g, p, none⟩ = false := hfr p
  obtain ⟨w6, hw6⟩ : ∃ w6, w5.setCell ⟨g, p, none⟩ (.int .u8 (xy : Int)) = w6 := ⟨_, rfl⟩
  have o6 : Only g w5 w6 := by rw [← hw6]; exact (Only.refl g w5).setCell p _
  have ho6 : Ow w6 w4.heap.size 5 1 (.slice (some ⟨g, 0, none⟩) zn zc) zn (ob (x0.bytes.set p xy)) := by
    rw [← hw6, ← ob_set]
    exact Ow.set_at (a := none) hzo _ (by omega) rfl
  obtain ⟨hO, j, s, T, q1, q2, q3⟩ := turned_run (hk.ok x0 (List.mem_cons_self ..)) (hk.oc x0 (List.mem_cons_self ..)) (k := k) (p := p) (by omega) (by omega) hx A4.out.2.2.2.2.2 (by rw [hxy]; exact hxy2)
  rw [hxy] at hO q1
  obtain ⟨Y, hY⟩ : ∃ Y : Nat, (if k < 4 then 44 else 45) = Y := ⟨_, rfl⟩
  rw [hY] at q2
  have hY0 : Y ≠ 0 := by rw [← hY]; split <;> decide
  have hmd : m.dt.length ≤ 3000 := by have := A4.out.2.2.2.2.1; simp only [msz] at this; omega
  have hr := rs_evd (N := 3000) (y := Y) q3 (hk.ok x0 (List.mem_cons_self ..)).oc (by rw [hd0]; exact hmd)
  rw [hd0] at hr
  have b46 : Below w4.heap.size w4 w6 := b5.trans (o6.below (by have := hglo; omega))
  have bl6 : Below lo w w6 := A4.out.1.trans (b46.mono A4.out.2.1)
  have hbl6 : Below w.heap.size w w6 := by rw [A.out.2.2.2.1]; exact bl6
  have hwh : Calls Tryz.prog 8 #[.slice (some ⟨g, 0, none⟩) zn zc, .int .i64 3000] w6 fun e w' => ∃ ra rc, e = .returned (.tuple #[.slice ra 1 rc, .int .i64 (Y : Int)]) ∧ Rl w' ra [m.dt] ∧ Below w6.heap.size w6 w' := by
    have hz : zfin s = Y := by unfold zfin; rw [if_pos (by rw [q2]; exact hY0), q2]
    refine (wwhole_c w6 (A.out.1.below hbl6 (by rw [A.out.2.2.2.1]; exact A.out.2.2.1)) (A.out.2.1.below hbl6 (by have := A.out.2.2.1; have := A.out.2.2.2.1; omega)) (by have := hbl6.size; have := A.out.2.2.1; have := A.out.2.2.2.1; omega) (some ⟨g, 0, none⟩) (x0.bytes.set p xy) zn zc 3000 3000 rfl (by omega) (own_lies ho6) (by rw [List.length_set]; exact hzl) (by omega) hO j s T q1 (Or.inl (by rw [q2]; exact hY0)) ([m.dt], Y) (by rw [hz]; exact hr)).mono fun e w' h => ?_
    obtain ⟨ra, rc, h1, h2, h3⟩ := (wf_of h).ex
    exact ⟨ra, rc, h1, h2, h3⟩
  have A6 : Aside (Below lo w w6 ∧ lo ≤ w6.heap.size ∧ Cells w6 lo #[.string S, .slice ea el ec, .bool sb, .slice da dl dc, .slice pa pl pc] 53 ∧ (if k < 4 then 44 else 45) = Y) := ⟨bl6, by have := b46.size; have := A4.out.2.1; omega, A4.out.2.2.1.below b46 A4.out.2.2.2.1, hY⟩
  have hzn : 8 ≤ zn := by omega
  have r1 : (at_ : Int) % 8 = (k : Int) := by omega
  have r2 : Int.tmod (at_ : Int) 8 = (k : Int) := by rw [Int.tmod_eq_emod_of_nonneg (by omega)]; omega
  have r3 : (zn : Int) - 8 = (q : Int) := by omega
  have r4 : (q : Int) + (k : Int) = (p : Int) := by omega
  have bp : (p : Int) < (zn : Int) := by omega
  have bpn : p < zn := by omega
  have bzn : (zn : Int) ≤ 300006000000 := by omega
  have bk : (k : Int) < 8 := by omega
  clear hwr h5 hk hne hzo hzl hzb b5 hwal hd0 hlen hglo hcg hcx hfr hk8 hq hp hx hxo hxy hxy2 o6 ho6 hO q1 q2 q3 hY hY0 hmd hr b46 bl6 hbl6 hw4 hH4 hzn
  by_cases h4 : k < 4
  · have g1 : ((k : Int) ≥ 4) = False := eq_false (by omega)
    have g2 : ((4 : Int) ≤ (k : Int)) = False := eq_false (by omega)
    have g3 : (4 ≤ k) = False := eq_false (by omega)
    have hY4 : Y = 44 := by rw [← A6.out.2.2.2, if_pos h4]
    subst hY4
    clear h4
    go_upto_region 6 with fail
    (try rw [hw6])
    clear hw6 cz fz hbx r1 r2 r3 r4
    go_upto_region 10 with (go_at_call 8; refine hwh.mono ?_; rintro e7 w7 ⟨ra, rc, rfl, rl7, b7⟩)
    have k7 := Cells.below (u := w7) A6.out.2.2.1 b7 A6.out.2.2.1.lt
    clear c0 c1 c2 c3 c4
    have c3 : w7.cell? ⟨lo, 3, none⟩ = some (.slice da dl dc) := (k7.cell 3).trans rfl
    have bl7 : Below lo w w7 := A6.out.1.trans (b7.mono A6.out.2.1)
    have hs7 : lo ≤ w7.heap.size := by have := b7.size; have := A6.out.2.1; omega
    obtain ⟨H8, hH8⟩ : ∃ H8, w7.heap.size = H8 := ⟨_, rfl⟩
    obtain ⟨w8, hw8⟩ : ∃ w8, w7.alloc (.cells #[.slice da dl dc] 22) = w8 := ⟨_, rfl⟩
    have b8 : Below w7.heap.size w7 w8 := by rw [← hw8]; exact (Below.refl _ w7).alloc (Nat.le_refl _) _
    have bl8 : Below lo w w8 := bl7.trans (b8.mono hs7)
    have hrl8 : Rl w8 (some ⟨H8, 0, none⟩) [m.dt] := by
      refine Or.inr ⟨H8, 0, rfl, fun i l hl => ?_⟩
      cases i with
      | zero =>
        simp at hl
        subst hl
        have hf := A.out.2.2.2.2.1
        have hd := hf.dt.below (show Below w.heap.size w w8 by rw [A.out.2.2.2.1]; exact bl8)
        refine ⟨da, dc, ?_, hd.1, hd.2⟩
        rw [hf.dl, ← hw8, ← hH8, (Cells.new w7 #[.slice da dl dc] 22).cell]
        rfl
      | succ i => simp at hl
    have hrw := rows_c w8 ra (some ⟨H8, 0, none⟩) [m.dt] 1 rc 1 rfl (by omega) (rl7.below b8) hrl8 (fun l hl => by simp at hl; subst hl; exact A.out.2.2.2.2.1.ok.dt)
    have A8 : Aside (Below lo w w8 ∧ lo ≤ w8.heap.size) := ⟨bl8, by have := b8.size; omega⟩
    clear rl7 b7 k7 bl7 hs7 b8 bl8 hrl8 hwh
    go_wp2_with (first
      | (go_at_call 10; (try rw [hw8, hH8]); refine hrw.mono ?_; rintro e9 w9 ⟨rfl, k9, hm9⟩; have bl9 : Below lo w w9 := (by rw [hm9]; exact Below.drewN2 A8.out.1 _); clear hm9; have ha := AW.out w9 bl9; have hs9 : lo ≤ w9.heap.size := (by have := bl9.size; have := A.out.2.2.2.1; omega))
      | (go_at_call 13; refine ha.mono ?_; rintro e10 w10 ⟨rfl, b10⟩))
    first | go_ret | go_ret2
    exact ⟨rfl, bl9.trans (b10.mono hs9)⟩
  · have g1 : ((k : Int) ≥ 4) = True := eq_true (by omega)
    have g2 : ((4 : Int) ≤ (k : Int)) = True := eq_true (by omega)
    have g3 : (4 ≤ k) = True := eq_true (by omega)
    have hY4 : Y = 45 := by rw [← A6.out.2.2.2, if_neg h4]
    subst hY4
    clear h4
    go_upto_region 6 with fail
    (try rw [hw6])
    clear hw6 cz fz hbx r1 r2 r3 r4
    go_upto_region 10 with (go_at_call 8; refine hwh.mono ?_; rintro e7 w7 ⟨ra, rc, rfl, rl7, b7⟩)
    have k7 := Cells.below (u := w7) A6.out.2.2.1 b7 A6.out.2.2.1.lt
    clear c0 c1 c2 c3 c4
    have c3 : w7.cell? ⟨lo, 3, none⟩ = some (.slice da dl dc) := (k7.cell 3).trans rfl
    have bl7 : Below lo w w7 := A6.out.1.trans (b7.mono A6.out.2.1)
    have hs7 : lo ≤ w7.heap.size := by have := b7.size; have := A6.out.2.1; omega
    obtain ⟨H8, hH8⟩ : ∃ H8, w7.heap.size = H8 := ⟨_, rfl⟩
    obtain ⟨w8, hw8⟩ : ∃ w8, w7.alloc (.cells #[.slice da dl dc] 22) = w8 := ⟨_, rfl⟩
    have b8 : Below w7.heap.size w7 w8 := by rw [← hw8]; exact (Below.refl _ w7).alloc (Nat.le_refl _) _
    have bl8 : Below lo w w8 := bl7.trans (b8.mono hs7)
    have hrl8 : Rl w8 (some ⟨H8, 0, none⟩) [m.dt] := by
      refine Or.inr ⟨H8, 0, rfl, fun i l hl => ?_⟩
      cases i with
      | zero =>
        simp at hl
        subst hl
        have hf := A.out.2.2.2.2.1
        have hd := hf.dt.below (show Below w.heap.size w w8 by rw [A.out.2.2.2.1]; exact bl8)
        refine ⟨da, dc, ?_, hd.1, hd.2⟩
        rw [hf.dl, ← hw8, ← hH8, (Cells.new w7 #[.slice da dl dc] 22).cell]
        rfl
      | succ i => simp at hl
    have hrw := rows_c w8 ra (some ⟨H8, 0, none⟩) [m.dt] 1 rc 1 rfl (by omega) (rl7.below b8) hrl8 (fun l hl => by simp at hl; subst hl; exact A.out.2.2.2.2.1.ok.dt)
    have A8 : Aside (Below lo w w8 ∧ lo ≤ w8.heap.size) := ⟨bl8, by have := b8.size; omega⟩
    clear rl7 b7 k7 bl7 hs7 b8 bl8 hrl8 hwh
    go_wp2_with (first
      | (go_at_call 10; (try rw [hw8, hH8]); refine hrw.mono ?_; rintro e9 w9 ⟨rfl, k9, hm9⟩; have bl9 : Below lo w w9 := (by rw [hm9]; exact Below.drewN2 A8.out.1 _); clear hm9; have ha := AW.out w9 bl9; have hs9 : lo ≤ w9.heap.size := (by have := bl9.size; have := A.out.2.2.2.1; omega))
      | (go_at_call 13; refine ha.mono ?_; rintro e10 w10 ⟨rfl, b10⟩))
    first | go_ret | go_ret2
    exact ⟨rfl, bl9.trans (b10.mono hs9)⟩
end Go.Proofs.YtogednaamndpgaaGreatDoor

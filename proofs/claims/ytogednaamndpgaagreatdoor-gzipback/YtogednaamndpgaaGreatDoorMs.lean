/-
  Own texts of this seat, one behind the other: what each says stands ahead of it.
-/
import Derived.Test.YtogednaamndpgaaGreatDoorMq
import Derived.Test.YtogednaamndpgaaGreatDoorMr
import Derived.Test.YtogednaamndpgaaGreatDoorMn
import Derived.Test.YtogednaamndpgaaGreatDoorMj
import Derived.Deep.RegionHeld3
import Derived.Test.YtogednaamndpgaaGreatDoorMk
/-
 What the document's Deflate comes to.
-/
namespace Go.Proofs.YtogednaamndpgaaGreatDoor
open Go.RowKit
set_option linter.unusedVariables false
structure Pb where
 kd : Nat
 by_ : Nat
 cp : Bool
 rn : Bool
def Plan (w : World) (b : Option Addr) (ps : List Pb) : Prop := ps = [] ∨ ∃ g o, b = some ⟨g, o, none⟩ ∧ ∀ i p, ps[i]? = some p → w.cell? ⟨g, o + i * 4, none⟩ = some (.int .u8 (p.kd : Int)) ∧ w.cell? ⟨g, o + i * 4 + 1, none⟩ = some (.int .u16 (p.by_ : Int)) ∧ w.cell? ⟨g, o + i * 4 + 2, none⟩ = some (.bool p.cp) ∧ w.cell? ⟨g, o + i * 4 + 3, none⟩ = some (.bool p.rn)
theorem Plan.below {w u : World} {b : Option Addr} {ps : List Pb} (h : Plan w b ps) (k : Below w.heap.size w u) : Plan u b ps := by
 rcases h with h | ⟨g, o, hb, hc⟩
 ·exact Or.inl h
 ·refine Or.inr ⟨g, o, hb, fun i p hp => ?_⟩
  obtain ⟨h1, h2, h3, h4⟩ := hc i p hp
  have key : ∀ (j : Nat) (x : Value), w.cell? ⟨g, j, none⟩ = some x → u.cell? ⟨g, j, none⟩ = some x := fun j x hx => (k.cell (p := ⟨g, j, none⟩) (World.block_lt_of_cell? w ⟨g, j, none⟩ hx)).trans hx
  exact ⟨key _ _ h1, key _ _ h2, key _ _ h3, key _ _ h4⟩
theorem Tells.tok0 {T : List Nat} (ho : Oct T) : ∀ {l : List Tok} {i e : Nat}, Tells T i l e → ∀ t ∈ l, Tok0 t
 | [], _, _, _, t, ht => by cases ht
 | .inl y :: r, i, e, h, t, ht => by
  rcases List.mem_cons.1 ht with rfl | ht
  ·exact ho y (List.mem_of_getElem? h.1)
  ·exact Tells.tok0 ho h.2 t ht
 | .inr (n, d) :: r, i, e, h, t, ht => by
  rcases List.mem_cons.1 ht with rfl | ht
  ·exact ⟨h.1, h.2.1, h.2.2.1, h.2.2.2.1⟩
  ·exact Tells.tok0 ho h.2.2.2.2.2.2.2 t ht
theorem Vz.new (w : World) : Vz (w.alloc (.cells #[.slice none 0 0, .int .i64 0] 99)) w.heap.size w.heap.size (.slice none 0 0) [] [] 0 :=
 ⟨Cells.new w _ 99, Ob.nil (by show _ ≤ (w.heap.push _).size; simp), rfl, (fun x hx => by cases hx), by omega⟩
theorem Vz.onP {w u : World} {lo W Hp : Nat} {v : Value} {z : List Nat} {bs : List Bool} {p : Nat} {cs : Array Value} (h : Vz w lo W v z bs p) (hc : Cells w Hp cs 107) (o : Only Hp w u) : Vz u lo W v z bs p :=
 ⟨h.fr.only o (kinds_ne h.fr hc (by decide)), h.ob.onW o (fun g ds hg => kinds_ne hg hc (by decide)), h.all, h.oct, h.pad⟩
theorem Tb.onP {w u : World} {Hp : Nat} {cs : Array Value} {T : Nat} {ls : List Nat} (h : Tb w T ls) (hc : Cells w Hp cs 107) (o : Only Hp w u) : Tb u T ls := by
 obtain ⟨g, rows, c0, h1, h3⟩ := h.cells
 obtain ⟨ds, hd⟩ := h.kind
 have hd2 := hd.only o (kinds_ne hd hc (by decide))
 refine ⟨⟨g, rows, ?_, h1.only o (kinds_ne h1 hc (by decide)), fun j m hj => ⟨fun hm => ?_, (h3 j m hj).2⟩⟩, ds, hd2⟩
 ·rw [hd2.cell, ← hd.cell]; exact c0
 ·obtain ⟨b, e1, e2⟩ := (h3 j m hj).1 hm
  exact ⟨b, e1, Cells.only e2 o (kinds_ne e2 hc (by decide))⟩
theorem setp {w : World} {B : Nat} {v0 v1 v2 v3 : Value} {t : TypeId} (h : Cells w B #[v0, v1, v2, v3] t) (u0 u1 u2 u3 : Value) : Cells ((((w.setCell ⟨B, 0, none⟩ u0).setCell ⟨B, 1, none⟩ u1).setCell ⟨B, 2, none⟩ u2).setCell ⟨B, 3, none⟩ u3) B #[u0, u1, u2, u3] t := by
 have := (((h.set 0 u0).set 1 u1).set 2 u2).set 3 u3
 simpa using this
structure Bt (w1 wr : World) (lo W most : Nat) (l : List Nat) (i at_ : Nat) (bs : List Bool) : Prop where
 wz : ∃ v z p, Vz wr lo W v z bs p ∧ p < 8
 wk : Vk lo W w1 wr
 ld : Leads most (.head false) (.head false) bs 0 [] (l.take at_)
 bl : bs.length ≤ i * 1000000
set_option maxRecDepth 100000 in
set_option maxHeartbeats 8000000 in
theorem deflate_c (most : Nat) (w : World) (a : Option Addr) (l : List Nat) (L c : Nat) (hl : Lies w a l) (hL : l.length = L) (hLb : L ≤ 5000) (ho : Oct l) (b : Option Addr) (ps : List Pb) (P pc : Nat) (hps : Plan w b ps) (hP : ps.length = P) (hPb : P ≤ 200) (hpb : ∀ p ∈ ps, p.kd < 256 ∧ p.by_ < 65536) (h4 : 4 ≤ w.heap.size) (hm : L ≤ most) :
  Calls Tryz.prog 34 #[.slice a L c, .slice b P pc] w fun e w' => ∃ v z, e = .returned v ∧ Ob w' w.heap.size v z ∧ Holds most z l ∧ Oct z ∧ z.length ≤ 100000000 ∧ Below w.heap.size w w' := by
 obtain ⟨B, hB⟩ : ∃ B, w.heap.size = B := ⟨_, rfl⟩
 have hz0 := Vz.new w
 have b0 : Below w.heap.size w (w.alloc (.cells #[.slice none 0 0, .int .i64 0] 99)) := (Below.refl _ w).alloc (Nat.le_refl _) _
 rw [hB] at hz0 b0
 obtain ⟨w0, hw0⟩ : ∃ w0, w0 = w.alloc (.cells #[.slice none 0 0, .int .i64 0] 99) := ⟨_, rfl⟩
 rw [← hw0] at hz0 b0
 have hfx := fixed_c w0
 have A : Aside (Lies w a l ∧ l.length = L ∧ L ≤ 5000 ∧ Oct l ∧ Plan w b ps ∧ ps.length = P ∧ P ≤ 200 ∧ (∀ p ∈ ps, p.kd < 256 ∧ p.by_ < 65536) ∧ 4 ≤ B ∧ L ≤ most ∧ w.heap.size = B) := ⟨hl, hL, hLb, ho, hps, hP, hPb, hpb, by omega, hm, hB⟩
 have A0 : Aside (Vz w0 B B (.slice none 0 0) [] [] 0 ∧ Below B w w0) := ⟨hz0, b0⟩
 have hLi : (L : Int) ≤ 5000 := by omega
 have hPi : (P : Int) ≤ 200 := by omega
 rw [hB]
 clear hl hL hLb ho hps hP hPb hpb h4 hm hz0 b0
 go_enter Tryz.func34, Tryz.ntmps34
 go_upto_region 3 with fail
 rw [← hw0]
 clear hw0 hB
 go_upto_region 4 with (go_at_call 50; refine hfx.mono ?_; rintro e1 w1 ⟨la, lc, da, dc, rfl, hla, hda, hb1⟩)
 have hfx2 := fixed_c w1
 have A1 : Aside (Lens w1 la (iz fixL) ∧ Below w0.heap.size w0 w1) := ⟨hla, hb1⟩
 clear hfx hla hda hb1
 go_upto_region 5 with (go_at_call 50; refine hfx2.mono ?_; rintro e1 w2 ⟨la2, lc2, da2, dc2, rfl, hla2, hda2, hb2⟩)
 have hnw1 := new_ok w2 la fixL 288 lc (A1.out.1.below hb2) (by decide) mays_fixL
 have A2 : Aside (Lens w2 da2 (iz fixD) ∧ Below w1.heap.size w1 w2) := ⟨hda2, hb2⟩
 clear hfx2 hla2 hda2 hb2
 go_upto_region 6 with (go_at_call 51; refine hnw1.mono ?_; rintro e1 w3 ⟨T1, rfl, tb3, hb3⟩)
 have hnw2 := new_ok w3 da2 fixD 32 dc2 (A2.out.1.below hb3) (by decide) mays_fixD
 have A3 : Aside (Tb w3 T1 fixL ∧ Below w2.heap.size w2 w3) := ⟨tb3, hb3⟩
 clear hnw1 tb3 hb3
 go_upto_region 7 with (go_at_call 51; refine hnw2.mono ?_; rintro e1 w4 ⟨T2, rfl, tb4, hb4⟩)
 have A4 : Aside (Tb w4 T1 fixL ∧ Tb w4 T2 fixD ∧ Vz w4 B B (.slice none 0 0) [] [] 0 ∧ Below B w w4) := by
  have h1 := A0.out.1.below A1.out.2
  have h2 := h1.below A2.out.2
  have h3 := h2.below A3.out.2
  have hs : ∀ {x y : World}, Below x.heap.size x y → B ≤ x.heap.size → Below B x y := fun h k => h.mono k
  have s0 : B ≤ w0.heap.size := Nat.le_of_lt A0.out.1.fr.lt
  have s1 := Nat.le_trans s0 A1.out.2.size
  have s2 := Nat.le_trans s1 A2.out.2.size
  have s3 := Nat.le_trans s2 A3.out.2.size
  exact ⟨A3.out.1.wk (lo := B) (W := B) (Vk.of_below hb4) h3.fr, tb4, h3.below hb4, (((A0.out.2.trans (hs A1.out.2 s0)).trans (hs A2.out.2 s1)).trans (hs A3.out.2 s2)).trans (hs hb4 s3)⟩
 clear hnw2 tb4 hb4 A0 A1 A2 A3
 go_wp2_with fail
 go_loopg [6, 15] (P + 1) (fun gg s6 s15 wr => ∃ i at_ : Nat, s6 = .int .i64 (at_ : Int) ∧ s15 = .int .i64 (i : Int) ∧ Aside (i + gg = P + 1 ∧ at_ ≤ L ∧ i ≤ P ∧ ∃ bs, Bt w4 wr B B most l i at_ bs))
 case atStart => exact ⟨0, 0, rfl, rfl, by omega, by omega, by omega, [], ⟨_, _, _, A4.out.2.2.1, by omega⟩, Vk.refl _ _ _, Leads.refl _ _ _ _, by simp⟩
 case round =>
  obtain ⟨i, at_, rfl, rfl, hI⟩ := hrel
  obtain ⟨G, hG⟩ : ∃ G, G = gk := ⟨_, rfl⟩
  subst hG
  obtain ⟨hig, hat, hiP, bs, hbt⟩ := hI.out
  have a0 := A.out
  have hatI : (at_ : Int) ≤ 5000 := by omega
  have hiI : (i : Int) ≤ 200 := by omega
  obtain ⟨⟨v5, z5, p5, hz5, hp5⟩, hwk5, hld5, hbl5⟩ := hbt
  obtain ⟨Hp, hHp⟩ : ∃ Hp, wr.heap.size = Hp := ⟨_, rfl⟩
  obtain ⟨w6, hw6⟩ : ∃ w6, w6 = wr.alloc (.cells #[.int .u8 1, .int .u16 65535, .bool true, .bool false] 107) := ⟨_, rfl⟩
  have b6 : Below wr.heap.size wr w6 := by rw [hw6]; exact (Below.refl _ wr).alloc (Nat.le_refl _) _
  have kp : Cells w6 Hp #[.int .u8 1, .int .u16 65535, .bool true, .bool false] 107 := by rw [hw6, ← hHp]; exact Cells.new wr _ 107
  have hz6 := hz5.below b6
  have hwk6 : Vk B B w4 w6 := hwk5.trans (Vk.of_below b6)
  have bel6 : Below B w w6 := A4.out.2.2.2.trans (hwk6.below (Nat.le_refl _) (Nat.le_of_lt A4.out.2.2.1.fr.lt))
  have hl6 : Lies w6 a l := a0.1.below (by rw [a0.2.2.2.2.2.2.2.2.2.2]; exact bel6)
  have tb1 : Tb w6 T1 fixL := A4.out.1.wk hwk6 A4.out.2.2.1.fr
  have tb2 : Tb w6 T2 fixD := A4.out.2.1.wk hwk6 A4.out.2.2.1.fr
  have A6 : Aside (Vz w6 B B v5 z5 bs p5 ∧ p5 < 8 ∧ Vk B B w4 w6 ∧ Below B w w6 ∧ Lies w6 a l ∧ Tb w6 T1 fixL ∧ Tb w6 T2 fixD ∧ Cells w6 Hp #[.int .u8 1, .int .u16 65535, .bool true, .bool false] 107 ∧ Leads most (.head false) (.head false) bs 0 [] (l.take at_) ∧ bs.length ≤ i * 1000000 ∧ i + G = P + 1 ∧ at_ ≤ L ∧ i ≤ P) := ⟨hz6, hp5, hwk6, bel6, hl6, tb1, tb2, kp, hld5, hbl5, hig, hat, hiP⟩
  have hHs : w4.heap.size ≤ Hp := by rw [← hHp]; exact hwk5.size
  have AH : Aside (w4.heap.size ≤ Hp ∧ B < w4.heap.size) := ⟨hHs, A4.out.2.2.1.fr.lt⟩
  clear hI hig hat hHs hz5 hp5 hwk5 hld5 hbl5 b6 hz6 hwk6 bel6 hl6 tb1 tb2
  by_cases hlast : i = P
  ·have t1 : ((i : Int) < (P : Int)) = False := eq_false (by omega)
   have t1' : (i < P) = False := eq_false (by omega)
   have t2 : ((P : Int) ≤ (i : Int)) = True := eq_true (by omega)
   have t2' : (P ≤ i) = True := eq_true (by omega)
   have c0 := kp.cell 0
   have c1 := kp.cell 1
   have c2 := kp.cell 2
   have c3 := kp.cell 3
   simp only [List.getElem?_toArray, List.getElem?_cons_zero, List.getElem?_cons_succ] at c0 c1 c2 c3
   have hmin : (if (at_ : Int) + 65535 < (L : Int) then (at_ : Int) + 65535 else (L : Int)) = (L : Int) := by split <;> omega
   have tq : ((L : Int) == (L : Int)) = true := by simp
   have a6 := A6.out
   have hn1 := wnumber_c 1 1 (by decide) (by decide) w6 a6.1 a6.2.1 a0.2.2.2.2.2.2.2.2.1 (by omega)
   clear a0 a6 kp hlast hiP
   go_upto_region 12 with fail
   rw [← hw6]
   clear hw6 hHp
   go_upto_region 17 with (go_at_call 52; refine hn1.mono ?_; rintro e1 w7 ⟨rfl, ⟨v7, z7, p7, wz7, hp7⟩, hk7⟩)
   have a6 := A6.out
   have kp7 := a6.2.2.2.2.2.2.2.1.wk hk7 (kinds_ne a6.2.2.2.2.2.2.2.1 a6.1.fr (by decide)) (by decide)
   clear c0 c1 c2 c3
   have c0 := kp7.cell 0
   have c2 := kp7.cell 2
   simp only [List.getElem?_toArray, List.getElem?_cons_zero, List.getElem?_cons_succ] at c0 c2
   have hn2 := wnumber_c 1 2 (by decide) (by decide) w7 wz7 hp7 A.out.2.2.2.2.2.2.2.2.1 (by have := a6.2.2.2.2.2.2.2.2.2.1; have := A.out; rw [List.length_append, bitsOf_length]; omega)
   have A7 : Aside (Vk B B w6 w7 ∧ Vz w7 B B v7 z7 (bs ++ bitsOf 1 1) p7) := ⟨hk7, wz7⟩
   clear a6 kp7 hn1 wz7 hp7 hk7
   go_upto_region 18 with (go_at_call 52; refine hn2.mono ?_; rintro e1 w8 ⟨rfl, ⟨v8, z8, p8, wz8, hp8⟩, hk8⟩)
   have a6 := A6.out
   have a0 := A.out
   have hk68 : Vk B B w6 w8 := A7.out.1.trans hk8
   have kp8 := a6.2.2.2.2.2.2.2.1.wk hk68 (kinds_ne a6.2.2.2.2.2.2.2.1 a6.1.fr (by decide)) (by decide)
   clear c0 c2
   have c0 := kp8.cell 0
   have c2 := kp8.cell 2
   simp only [List.getElem?_toArray, List.getElem?_cons_zero, List.getElem?_cons_succ] at c0 c2
   have bel8 : Below B w w8 := a6.2.2.2.1.trans (hk68.below (Nat.le_refl _) (Nat.le_of_lt a6.1.fr.lt))
   have hl8 : Lies w8 a l := a0.1.below (by rw [a0.2.2.2.2.2.2.2.2.2.2]; exact bel8)
   have htk := tokens_c w8 a l L c at_ L true hl8 a0.2.1 (by omega) a6.2.2.2.2.2.2.2.2.2.2.2.1 (Nat.le_refl _)
   have A8 : Aside (Vz w8 B B v8 z8 (bs ++ bitsOf 1 1 ++ bitsOf 2 1) p8 ∧ p8 < 8 ∧ Vk B B w6 w8 ∧ Below B w w8 ∧ Tb w8 T1 fixL ∧ Tb w8 T2 fixD) := ⟨wz8, hp8, hk68, bel8, a6.2.2.2.2.2.1.wk hk68 a6.1.fr, a6.2.2.2.2.2.2.1.wk hk68 a6.1.fr⟩
   clear a6 a0 hk68 kp8 bel8 hl8 hn2 wz8 hp8 hk8
   go_wp2_with (first
    | (go_at_call 54; refine htk.mono ?_; rintro e1 w9 ⟨ta, ts, tc, rfl, htoks, htells, hb9⟩; have hbd := wbody_c (lo := B) (W := B) ts fixL fixD T1 T2 ta ts.length tc w9 (A8.out.1.below hb9) A8.out.2.1 A.out.2.2.2.2.2.2.2.2.1 htoks rfl (by have := tells_len htells; have := A.out; omega) (A8.out.2.2.2.2.1.wk (lo := B) (W := B) (Vk.of_below hb9) A8.out.1.fr) (A8.out.2.2.2.2.2.wk (lo := B) (W := B) (Vk.of_below hb9) A8.out.1.fr) fits_fixL.2 fits_fixD.2 (by decide) (by decide) (fun t ht => ⟨htells.uses_fix A.out.2.2.2.1 t ht, (by have := htells.tok0 A.out.2.2.2.1 t ht; cases t using Tok.el <;> exact this)⟩) (has_fixL (by decide)) (by have := A6.out.2.2.2.2.2.2.2.2.2.1; have := A.out; simp only [List.length_append, bitsOf_length]; omega); have A9 : Aside (Tells l at_ ts L ∧ Vk B B w6 w9 ∧ ts.length ≤ 5000) := ⟨htells, A8.out.2.2.1.trans (Vk.of_below hb9), (by have := tells_len htells; have := A.out; omega)⟩; clear htoks htells hb9)
    | (go_at_call 53; refine hbd.mono ?_; rintro e1 w10 ⟨rfl, ⟨v10, z10, p10, wz10, hp10⟩, hk10⟩; have cW0 := wz10.fr.cell 0; simp only [List.getElem?_toArray, List.getElem?_cons_zero] at cW0))
   go_ret
   have a6 := A6.out
   have a0 := A.out
   have a9 := A9.out
   have e : bs ++ bitsOf 1 1 ++ bitsOf 2 1 ++ (ts.flatMap (tokBits fixL fixD) ++ cbits fixL 256) = bs ++ ((bitsOf 1 1 ++ bitsOf 2 1) ++ (ts.flatMap (tokBits fixL fixD) ++ cbits fixL 256)) := by simp
   rw [e] at wz10
   have hld : Leads most (.head false) (.head true) (bs ++ ((bitsOf 1 1 ++ bitsOf 2 1) ++ (ts.flatMap (tokBits fixL fixD) ++ cbits fixL 256))) 0 [] (l.take L) := by
    refine lead_next a6.2.2.2.2.2.2.2.2.1 ?_
    exact (lead_head true 1 (by omega)).trans (lead_body fits_fixL fits_fixD (by rw [a0.2.1]; exact a0.2.2.2.2.2.2.2.2.2.1) a0.2.2.2.1 (has_fixL (by decide)) (a9.1.uses_fix a0.2.2.2.1) a9.1 (by rw [a0.2.1]; exact a6.2.2.2.2.2.2.2.2.2.2.2.1))
   rw [List.take_of_length_le (by omega)] at hld
   refine ⟨v10, z10, rfl, wz10.ob, holds_of wz10.all (by simp; exact hp10) (by simp [bitsOf]; omega) hld, wz10.oct, ?_, ?_⟩
   ·have hl := congrArg List.length wz10.all
    rw [allb_len] at hl
    have h1 := toks_len fits_fixL.2 fits_fixD.2 (l := ts) (fun t ht => ⟨a9.1.uses_fix a0.2.2.2.1 t ht, by have := a9.1.tok0 a0.2.2.2.1 t ht; cases t using Tok.el <;> exact this⟩)
    have h2 : (cbits fixL 256).length ≤ 15 := by decide
    simp only [List.length_append, bitsOf_length, List.length_replicate] at hl
    have := a6.2.2.2.2.2.2.2.2.2.1
    omega
   ·exact a6.2.2.2.1.trans ((a9.2.1.trans hk10).below (Nat.le_refl _) (Nat.le_of_lt a6.1.fr.lt))
  ·have hi : i < P := by omega
   have t1 : ((i : Int) < (P : Int)) = True := eq_true (by omega)
   have t1' : (i < P) = True := eq_true hi
   have t2 : ((P : Int) ≤ (i : Int)) = False := eq_false (by omega)
   have t2' : (P ≤ i) = False := eq_false (by omega)
   obtain ⟨q, hq⟩ : ∃ q, ps[i]? = some q := ⟨_, List.getElem?_eq_getElem (by omega)⟩
   have hqb := a0.2.2.2.2.2.2.2.1 q (List.mem_of_getElem? hq)
   obtain ⟨g, o, hbe, hpc⟩ : ∃ g o, b = some ⟨g, o, none⟩ ∧ w6.cell? ⟨g, o + i * 4, none⟩ = some (.int .u8 (q.kd : Int)) ∧ w6.cell? ⟨g, o + i * 4 + 1, none⟩ = some (.int .u16 (q.by_ : Int)) ∧ w6.cell? ⟨g, o + i * 4 + 2, none⟩ = some (.bool q.cp) ∧ w6.cell? ⟨g, o + i * 4 + 3, none⟩ = some (.bool q.rn) := by
    rcases a0.2.2.2.2.1.below (by rw [a0.2.2.2.2.2.2.2.2.2.2]; exact A6.out.2.2.2.1) with e | ⟨g, o, e, h⟩
    ·rw [e] at hq; simp at hq
    ·exact ⟨g, o, e, h i q hq⟩
   subst hbe
   obtain ⟨p0, p1, p2, p3⟩ := hpc
   obtain ⟨kd, hkd⟩ : ∃ kd, q.kd = kd := ⟨_, rfl⟩
   obtain ⟨nb, hnb⟩ : ∃ nb, q.by_ = nb := ⟨_, rfl⟩
   obtain ⟨cp, hcp⟩ : ∃ cp, q.cp = cp := ⟨_, rfl⟩
   obtain ⟨rn, hrn⟩ : ∃ rn, q.rn = rn := ⟨_, rfl⟩
   rw [hkd] at p0
   rw [hnb] at p1
   rw [hcp] at p2
   rw [hrn] at p3
   have f0 := kp.frozen 0
   have f1 := kp.frozen 1
   have f2 := kp.frozen 2
   have f3 := kp.frozen 3
   have c0 := kp.cell 0
   have c1 := kp.cell 1
   have c2 := kp.cell 2
   have c3 := kp.cell 3
   simp only [List.getElem?_toArray, List.getElem?_cons_zero, List.getElem?_cons_succ] at c0 c1 c2 c3
   have o1 : Only Hp w6 ((((w6.setCell ⟨Hp, 0, none⟩ (.int .u8 (kd : Int))).setCell ⟨Hp, 1, none⟩ (.int .u16 (nb : Int))).setCell ⟨Hp, 2, none⟩ (.bool cp)).setCell ⟨Hp, 3, none⟩ (.bool rn)) := (((Only.refl Hp w6).setCell 0 _).setCell 1 _).setCell 2 _ |>.setCell 3 _
   have kp2 := setp kp (.int .u8 (kd : Int)) (.int .u16 (nb : Int)) (.bool cp) (.bool rn)
   obtain ⟨w5, hw5⟩ : ∃ w5, w5 = (((w6.setCell ⟨Hp, 0, none⟩ (.int .u8 (kd : Int))).setCell ⟨Hp, 1, none⟩ (.int .u16 (nb : Int))).setCell ⟨Hp, 2, none⟩ (.bool cp)).setCell ⟨Hp, 3, none⟩ (.bool rn) := ⟨_, rfl⟩
   rw [← hw5] at o1 kp2
   have a6 := A6.out
   have hA := AH.out
   have hz5 := a6.1.onP kp o1
   have bel5 : Below B w w5 := a6.2.2.2.1.trans (o1.below (by omega))
   have hwk5 : Vk B B w4 w5 := ⟨o1.os.trans a6.2.2.1.os, o1.tape.trans a6.2.2.1.tape, o1.output.trans a6.2.2.1.output, by rw [o1.size]; exact a6.2.2.1.size, fun k hk hB => by rw [o1.block k (by omega)]; exact a6.2.2.1.block k hk hB⟩
   have tb1 := a6.2.2.2.2.2.1.onP kp o1
   have tb2 := a6.2.2.2.2.2.2.1.onP kp o1
   obtain ⟨e, he⟩ : ∃ e, min L (at_ + nb) = e := ⟨_, rfl⟩
   have hmin : (if (at_ : Int) + (nb : Int) < (L : Int) then (at_ : Int) + (nb : Int) else (L : Int)) = (e : Int) := by split <;> omega
   obtain ⟨k3, hk3⟩ : ∃ k3, kd % 3 = k3 := ⟨_, rfl⟩
   have hk3I : (kd : Int) % 3 = (k3 : Int) := by omega
   have hkdI : (kd : Int) < 256 := by omega
   have hnbI : (nb : Int) < 65536 := by omega
   have hate := a6.2.2.2.2.2.2.2.2.2.2.2.1
   have heI : (e : Int) ≤ 5000 := by omega
   have hn1 := wnumber_c 0 1 (by decide) (by decide) w5 hz5 a6.2.1 a0.2.2.2.2.2.2.2.2.1 (by omega)
   have A5 : Aside (Vz w5 B B v5 z5 bs p5 ∧ Vk B B w4 w5 ∧ Below B w w5 ∧ Tb w5 T1 fixL ∧ Tb w5 T2 fixD ∧ Cells w5 Hp #[.int .u8 (kd : Int), .int .u16 (nb : Int), .bool cp, .bool rn] 107 ∧ at_ ≤ e ∧ e ≤ L ∧ k3 < 3 ∧ e - at_ ≤ 65535 ∧ i < P ∧ k3 = kd % 3) := ⟨hz5, hwk5, bel5, tb1, tb2, kp2, by omega, by omega, by omega, by omega, hi, hk3.symm⟩
   have q1 := kp2.cell 1
   simp only [List.getElem?_toArray, List.getElem?_cons_zero, List.getElem?_cons_succ] at q1
   clear a6 hA hz5 bel5 hwk5 tb1 tb2 he hk3 hate hi hlast hiP hqb hq hkd hnb hcp hrn o1 kp2 kp a0
   go_upto_region 11 with fail
   rw [← hw6]
   clear hw6 hHp
   go_upto_region 12 with fail
   rw [← hw5]
   clear hw5 p0 p1 p2 p3 c0 c1 c2 c3 f0 f1 f2 f3
   go_upto_region 17 with (go_at_call 52; refine hn1.mono ?_; rintro e1 w7 ⟨rfl, ⟨v7, z7, p7, wz7, hp7⟩, hk7⟩)
   have a5 := A5.out
   have kp7 := a5.2.2.2.2.2.1.wk hk7 (kinds_ne a5.2.2.2.2.2.1 a5.1.fr (by decide)) (by decide)
   have c0 := kp7.cell 0
   simp only [List.getElem?_toArray, List.getElem?_cons_zero] at c0
   have hn2 := wnumber_c k3 2 (by omega) (by decide) w7 wz7 hp7 A.out.2.2.2.2.2.2.2.2.1 (by have := A6.out.2.2.2.2.2.2.2.2.2.1; have := A.out; rw [List.length_append, bitsOf_length]; omega)
   have A7 : Aside (Vk B B w5 w7) := hk7
   clear a5 kp7 hn1 wz7 hp7 hk7 q1
   go_upto_region 18 with (go_at_call 52; refine hn2.mono ?_; rintro e1 w8 ⟨rfl, ⟨v8, z8, p8, wz8, hp8⟩, hk8⟩)
   have a6 := A6.out
   have a5 := A5.out
   have a0 := A.out
   have hk58 : Vk B B w5 w8 := A7.out.trans hk8
   have kp8 := a5.2.2.2.2.2.1.wk hk58 (kinds_ne a5.2.2.2.2.2.1 a5.1.fr (by decide)) (by decide)
   clear c0
   have c0 := kp8.cell 0
   have c2 := kp8.cell 2
   have c3 := kp8.cell 3
   simp only [List.getElem?_toArray, List.getElem?_cons_zero, List.getElem?_cons_succ] at c0 c2 c3
   have bel8 : Below B w w8 := a5.2.2.1.trans (hk58.below (Nat.le_refl _) (Nat.le_of_lt a5.1.fr.lt))
   have hl8 : Lies w8 a l := a0.1.below (by rw [a0.2.2.2.2.2.2.2.2.2.2]; exact bel8)
   have A8 : Aside (Vz w8 B B v8 z8 (bs ++ bitsOf 1 0 ++ bitsOf 2 k3) p8 ∧ p8 < 8 ∧ Vk B B w4 w8 ∧ Below B w w8 ∧ Tb w8 T1 fixL ∧ Tb w8 T2 fixD ∧ Lies w8 a l ∧ Cells w8 Hp #[.int .u8 (kd : Int), .int .u16 (nb : Int), .bool cp, .bool rn] 107) := ⟨wz8, hp8, a5.2.1.trans hk58, bel8, a5.2.2.2.1.wk hk58 a5.1.fr, a5.2.2.2.2.1.wk hk58 a5.1.fr, hl8, kp8⟩
   have hk33 : k3 = 0 ∨ k3 = 1 ∨ k3 = 2 := by omega
   have hLe : l.length = L := a0.2.1
   have hlen := a6.2.2.2.2.2.2.2.2.2.1
   clear a6 a5 a0 hk58 bel8 hn2 wz8 hp8 hk8 kp8
   rcases hk33 with rfl | rfl | rfl
   ·obtain ⟨b3, hb3⟩ : ∃ b3, bs ++ bitsOf 1 0 ++ bitsOf 2 0 = b3 := ⟨_, rfl⟩
    have hb3l : b3.length = bs.length + 3 := by rw [← hb3]; simp only [List.length_append, bitsOf_length]
    have A3 : Aside (bs ++ bitsOf 1 0 ++ bitsOf 2 0 = b3 ∧ b3.length = bs.length + 3 ∧ bs.length ≤ i * 1000000) := ⟨hb3, hb3l, hlen⟩
    have A8b : Aside (Vz w8 B B v8 z8 b3 p8) := by rw [← hb3]; exact A8.out.1
    clear hb3 hb3l hl8 hLe hlen
    have hk3J : (kd : Int) % 3 = 0 := hk3I
    clear hk3I
    rw [show ((0 : Nat) : Int) = (0 : Int) from rfl]
    go_wp2_with fail
    try rw [hk3J]
    clear c0 c2 c3
    go_loopg [] 8 (fun gg wr => Aside (∃ j, j + gg = 8 ∧ (∃ v z p, Vz wr B B v z (b3 ++ List.replicate j false) p ∧ p < 8) ∧ Vk B B w8 wr ∧ ∀ m, m < j → (b3.length + m) % 8 ≠ 0))
    case atStart => exact ⟨0, by omega, ⟨v8, z8, p8, by simpa using A8b.out, A8.out.2.1⟩, Vk.refl _ _ _, fun m hm => by omega⟩
    case round =>
     obtain ⟨j, hjg, ⟨v9, z9, p9, hz9, hp9⟩, hk9, hnz⟩ := hrel.out
     have cl := hz9.fr.cell 1
     simp only [List.getElem?_toArray, List.getElem?_cons_zero, List.getElem?_cons_succ] at cl
     obtain ⟨bl, hbl⟩ : ∃ bl, (b3 ++ List.replicate j false).length = bl := ⟨_, rfl⟩
     have hbl2 : bl = b3.length + j := by rw [← hbl, List.length_append, List.length_replicate]
     rw [hbl] at cl
     obtain ⟨r8, hr8⟩ : ∃ r8, bl % 8 = r8 := ⟨_, rfl⟩
     have hr8I : (bl : Int) % 8 = (r8 : Int) := by omega
     have a3 := A3.out
     have a0 := A.out
     have hblI : (bl : Int) < 1000000000000 := by omega
     by_cases h0 : r8 = 0
     ·have hr8J : (bl : Int) % 8 = 0 := by omega
      have hjp : j = (b3.length + 7) / 8 * 8 - b3.length := by
       have := hnz ((b3.length + 7) / 8 * 8 - b3.length)
       have hj8 : j < 8 := by
        by_cases hj : j < 8
        ·exact hj
        ·exfalso
         have := hnz ((8 - b3.length % 8) % 8) (by omega)
         omega
       have h2 : (b3.length + j) % 8 = 0 := by omega
       by_cases h3 : (b3.length + 7) / 8 * 8 - b3.length < j
       ·exact absurd (by omega) (this h3)
       ·omega
      have a5 := A5.out
      obtain ⟨d, hd⟩ : ∃ d, e - at_ = d := ⟨_, rfl⟩
      have hdI : (e : Int) - (at_ : Int) = (d : Int) := by have := a5.2.2.2.2.2.2.1; omega
      obtain ⟨d2, hd2⟩ : ∃ d2, 65535 - d = d2 := ⟨_, rfl⟩
      have hd2I : (65535 : Int) - (d : Int) = (d2 : Int) := by have := a5.2.2.2.2.2.2.2.2.2.1; omega
      obtain ⟨b4, hb4⟩ : ∃ b4, b3 ++ List.replicate j false = b4 := ⟨_, rfl⟩
      rw [hb4] at hz9 hbl
      have hn1 := wnumber_c d 16 (by omega) (by decide) wr hz9 hp9 a0.2.2.2.2.2.2.2.2.1 (by rw [hbl]; omega)
      obtain ⟨w9, hw9⟩ : ∃ w9, w9 = wr := ⟨_, rfl⟩
      subst hw9
      have A9 : Aside (b3 ++ List.replicate ((b3.length + 7) / 8 * 8 - b3.length) false = b4 ∧ b4.length ≤ b3.length + 8 ∧ Vk B B w8 w9 ∧ e - at_ = d ∧ 65535 - d = d2 ∧ d ≤ 65535) := ⟨by rw [← hjp]; exact hb4, by rw [hbl]; omega, hk9, hd, hd2, by omega⟩
      have hdb : (d : Int) ≤ 65535 := by omega
      clear hrel hjg hz9 hp9 hk9 hnz hbl hbl2 hr8 hr8I a3 a0 h0 hjp a5 hd hd2 hb4
      go_upto_region 24 with (go_at_call 52; refine hn1.mono ?_; rintro e1 w10 ⟨rfl, ⟨v10, z10, p10, wz10, hp10⟩, hk10⟩)
      have hn2 := wnumber_c d2 16 (by have := A9.out; omega) (by decide) w10 wz10 hp10 A.out.2.2.2.2.2.2.2.2.1 (by have := A9.out.2.1; have := A3.out; have := A.out; rw [List.length_append, bitsOf_length]; omega)
      have A10 : Aside (Vk B B w8 w10) := A9.out.2.2.1.trans hk10
      clear hn1 wz10 hp10 hk10 cl
      go_upto_region 25 with (go_at_call 52; refine hn2.mono ?_; rintro e1 w11 ⟨rfl, ⟨v11, z11, p11, wz11, hp11⟩, hk11⟩)
      obtain ⟨b5, hb5⟩ : ∃ b5, b4 ++ bitsOf 16 d ++ bitsOf 16 d2 = b5 := ⟨_, rfl⟩
      rw [hb5] at wz11
      have A11 : Aside (Vz w11 B B v11 z11 b5 p11 ∧ p11 < 8 ∧ Vk B B w4 w11 ∧ b4 ++ bitsOf 16 d ++ bitsOf 16 d2 = b5 ∧ b5.length ≤ b3.length + 40) := ⟨wz11, hp11, (A8.out.2.2.1.trans A10.out).trans hk11, hb5, by rw [← hb5]; simp only [List.length_append, bitsOf_length]; have := A9.out.2.1; omega⟩
      clear hn2 wz11 hp11 hk11 hb5
      go_wp2_with fail
      go_loopg [19] d (fun gg s19 wr => ∃ k : Nat, s19 = .int .i64 (k : Int) ∧ Aside (k + gg = e ∧ at_ ≤ k ∧ (∃ v z p, Vz wr B B v z (b5 ++ (((l.drop at_).take (k - at_)).flatMap (bitsOf 8))) p ∧ p < 8) ∧ Vk B B w11 wr))
      case atStart => exact ⟨at_, rfl, by have := A9.out.2.2.2.1; have := A5.out.2.2.2.2.2.2.1; omega, Nat.le_refl _, ⟨v11, z11, p11, by simpa using A11.out.1, A11.out.2.1⟩, Vk.refl _ _ _⟩
      case round =>
       obtain ⟨k, rfl, hJ⟩ := hrel
       obtain ⟨hkg, hka, ⟨v12, z12, p12, hz12, hp12⟩, hk12⟩ := hJ.out
       have a0 := A.out
       have a5 := A5.out
       have a11 := A11.out
       have a3 := A3.out
       have hfl : ∀ m : List Nat, (m.flatMap (bitsOf 8)).length = 8 * m.length := fun m => by
        induction m with
        | nil => rfl
        | cons y m ih => rw [List.flatMap_cons, List.length_append, ih, bitsOf_length, List.length_cons]; omega
       have hbd : (((l.drop at_).take (k - at_)).flatMap (bitsOf 8)).length ≤ 40000 := by
        rw [hfl, List.length_take, List.length_drop]
        omega
       by_cases hk : k < e
       ·have t9 : ((k : Int) < (e : Int)) = True := eq_true (by omega)
        have t9' : (k < e) = True := eq_true hk
        have hkI : (k : Int) < 5000 := by omega
        have hkL : ((k : Int) < (L : Int)) = True := eq_true (by omega)
        have hkL' : (k < L) = True := eq_true (by omega)
        obtain ⟨x, hx⟩ : ∃ x, l[k]? = some x := ⟨_, List.getElem?_eq_getElem (by omega)⟩
        have hx8 := a0.2.2.2.1 x (List.mem_of_getElem? hx)
        have belr : Below B w wr := A4.out.2.2.2.trans ((a11.2.2.1.trans hk12).below (Nat.le_refl _) (Nat.le_of_lt A4.out.2.2.1.fr.lt))
        obtain ⟨ab, ao, ha, cx⟩ : ∃ ab ao, a = some ⟨ab, ao, none⟩ ∧ wr.cell? ⟨ab, ao + k, none⟩ = some (.int .u8 (x : Int)) := by
         rcases a0.1.below (by rw [a0.2.2.2.2.2.2.2.2.2.2]; exact belr) with e | ⟨ab, ao, e, h⟩
         ·rw [e] at hx; simp at hx
         ·exact ⟨ab, ao, e, h k x hx⟩
        subst ha
        have hxI : (x : Int) < 256 := by omega
        have hnm := wnumber_c x 8 (by omega) (by decide) wr hz12 hp12 a0.2.2.2.2.2.2.2.2.1 (by rw [List.length_append]; omega)
        have AX : Aside (k + gk = e ∧ at_ ≤ k ∧ k < e ∧ Vk B B w11 wr ∧ b5 ++ (((l.drop at_).take (k - at_)).flatMap (bitsOf 8)) ++ bitsOf 8 x = b5 ++ (((l.drop at_).take (k + 1 - at_)).flatMap (bitsOf 8))) := ⟨hkg, hka, hk, hk12, by
         rw [List.append_assoc, show k + 1 - at_ = (k - at_) + 1 by omega, List.take_add_one, List.getElem?_drop, show at_ + (k - at_) = k by omega, hx, List.flatMap_append]
         simp⟩
        clear hJ hkg hka hz12 hp12 hk12 a0 a5 a11 a3 hfl hbd hk hx hx8 belr
        go_wp2_with (go_at_call 52; refine hnm.mono ?_; rintro e1 w13 ⟨rfl, ⟨v13, z13, p13, wz13, hp13⟩, hk13⟩)
        have ax := AX.out
        have ax1 := ax.1
        have ax2 := ax.2.1
        have ax3 := ax.2.2.1
        rw [ax.2.2.2.2] at wz13
        go_roundg (gk - 1)
        case measure => omega
        case rel => exact ⟨k + 1, by go_num, by omega, by omega, ⟨v13, z13, p13, wz13, hp13⟩, ax.2.2.2.1.trans hk13⟩
       ·have t9 : ((k : Int) < (e : Int)) = False := eq_false (by omega)
        have t9' : (k < e) = False := eq_false hk
        have hke : k = e := by omega
        rw [hke] at hz12 hbd
        have a9 := A9.out
        have a6 := A6.out
        obtain ⟨seg, hseg⟩ : ∃ seg, (l.drop at_).take (e - at_) = seg := ⟨_, rfl⟩
        rw [hseg] at hz12 hbd
        have hsl : seg.length = d := by rw [← hseg, List.length_take, List.length_drop]; omega
        have eb : b5 ++ seg.flatMap (bitsOf 8) = bs ++ ((bitsOf 1 0 ++ bitsOf 2 0) ++ (List.replicate ((b3.length + 7) / 8 * 8 - b3.length) false ++ bitsOf 16 seg.length ++ (bitsOf 16 (65535 - seg.length) ++ seg.flatMap (bitsOf 8)))) := by
         rw [← a11.2.2.2.1, ← a9.1, hsl, a9.2.2.2.2.1, ← a3.1]
         simp
        rw [eb] at hz12
        have hld : Leads most (.head false) (.head false) (bs ++ ((bitsOf 1 0 ++ bitsOf 2 0) ++ (List.replicate ((b3.length + 7) / 8 * 8 - b3.length) false ++ bitsOf 16 seg.length ++ (bitsOf 16 (65535 - seg.length) ++ seg.flatMap (bitsOf 8))))) 0 [] (l.take e) := by
         refine lead_next a6.2.2.2.2.2.2.2.2.1 ?_
         have h1 : l.take at_ ++ seg = l.take e := by
          rw [← hseg, show e = at_ + (e - at_) by omega, List.take_add, show at_ + (e - at_) - at_ = e - at_ by omega]
         have h2 := lead_stored (most := most) (p := bs.length + (bitsOf 1 0 ++ bitsOf 2 0).length) (o := l.take at_) false seg (by omega) (fun x hx => a0.2.2.2.1 x (by rw [← hseg] at hx; exact List.mem_of_mem_drop (List.mem_of_mem_take hx))) (by rw [List.length_take, hsl]; omega)
         rw [h1] at h2
         have h3 : bs.length + (bitsOf 1 0 ++ bitsOf 2 0).length = b3.length := by rw [a3.2.1]; simp only [List.length_append, bitsOf_length]
         rw [h3] at h2
         exact (lead_head false 0 (by omega)).trans (by have e0 : bs.length + (bitsOf 1 (if false = true then 1 else 0) ++ bitsOf 2 0).length = b3.length := h3; rw [e0]; exact h2)
        have hblz : (bs ++ ((bitsOf 1 0 ++ bitsOf 2 0) ++ (List.replicate ((b3.length + 7) / 8 * 8 - b3.length) false ++ bitsOf 16 seg.length ++ (bitsOf 16 (65535 - seg.length) ++ seg.flatMap (bitsOf 8))))).length ≤ (i + 1) * 1000000 := by
         rw [← eb, List.length_append]
         omega
        have AZ : Aside ((∃ bs', Bt w4 wr B B most l (i + 1) e bs')) := ⟨_, ⟨v12, z12, p12, hz12, hp12⟩, a11.2.2.1.trans hk12, hld, hblz⟩
        have AG : Aside (i + G = P + 1 ∧ e ≤ L ∧ i < P) := ⟨a6.2.2.2.2.2.2.2.2.2.2.1, a5.2.2.2.2.2.2.2.1, a5.2.2.2.2.2.2.2.2.2.2.1⟩
        clear hJ hkg hka hz12 hp12 hk12 a0 a5 a11 a3 hfl hbd hk hke a9 a6 hseg hsl eb hld hblz
        go_wp2_with fail
        have ag := AG.out
        have ag1 := ag.1
        have ag2 := ag.2.1
        have ag3 := ag.2.2
        obtain ⟨bs', hbt'⟩ := AZ.out
        go_roundg (G - 1)
        case measure => omega
        case rel => exact ⟨i + 1, e, rfl, by go_num, by omega, by omega, by omega, bs', hbt'⟩
     ·have t8 : ((r8 : Int) != 0) = true := by rw [bne_iff_ne]; omega
      have t8' : ((r8 : Int) = 0) = False := eq_false (by omega)
      have hj8 : j < 8 := by
       by_cases hj : j < 8
       ·exact hj
       ·exfalso
        have := hnz ((8 - b3.length % 8) % 8) (by omega)
        omega
      have hnm := wnumber_c 0 1 (by decide) (by decide) wr hz9 hp9 a0.2.2.2.2.2.2.2.2.1 (by rw [hbl]; omega)
      have AX : Aside (j + gk = 8 ∧ j < 8 ∧ Vk B B w8 wr ∧ (∀ m, m < j + 1 → (b3.length + m) % 8 ≠ 0) ∧ b3 ++ List.replicate j false ++ bitsOf 1 0 = b3 ++ List.replicate (j + 1) false) := ⟨hjg, hj8, hk9, fun m hm => by
       by_cases e : m = j
       ·rw [e, ← hbl2, hr8]; exact h0
       ·exact hnz m (by omega), by rw [List.append_assoc]; congr 1; rw [List.replicate_succ']; rfl⟩
      clear hrel hjg hz9 hp9 hk9 hnz hbl hbl2 hr8 a3 a0 h0 hj8
      go_wp2_with (go_at_call 52; refine hnm.mono ?_; rintro e1 w10 ⟨rfl, ⟨v10, z10, p10, wz10, hp10⟩, hk10⟩)
      have ax := AX.out
      have ax1 := ax.1
      have ax2 := ax.2.1
      rw [ax.2.2.2.2] at wz10
      go_roundg (gk - 1)
      case measure => omega
      case rel => exact ⟨j + 1, by omega, ⟨v10, z10, p10, wz10, hp10⟩, ax.2.2.1.trans hk10, ax.2.2.2.1⟩
   ·have htk := tokens_c w8 a l L c at_ e cp hl8 hLe (by have := A.out; omega) A5.out.2.2.2.2.2.2.1 A5.out.2.2.2.2.2.2.2.1
    clear hl8 hLe hlen
    go_wp2_with (first
     | (go_at_call 54; refine htk.mono ?_; rintro e1 w9 ⟨ta, ts, tc, rfl, htoks, htells, hb9⟩; have hbd := wbody_c (lo := B) (W := B) ts fixL fixD T1 T2 ta ts.length tc w9 (A8.out.1.below hb9) A8.out.2.1 A.out.2.2.2.2.2.2.2.2.1 htoks rfl (by have := tells_len htells; have := A.out; have := A5.out.2.2.2.2.2.2.2.1; omega) (A8.out.2.2.2.2.1.wk (lo := B) (W := B) (Vk.of_below hb9) A8.out.1.fr) (A8.out.2.2.2.2.2.1.wk (lo := B) (W := B) (Vk.of_below hb9) A8.out.1.fr) fits_fixL.2 fits_fixD.2 (by decide) (by decide) (fun t ht => ⟨htells.uses_fix A.out.2.2.2.1 t ht, (by have := htells.tok0 A.out.2.2.2.1 t ht; cases t using Tok.el <;> exact this)⟩) (has_fixL (by decide)) (by have := A6.out.2.2.2.2.2.2.2.2.2.1; have := A.out; simp only [List.length_append, bitsOf_length]; omega); have A9 : Aside (Tells l at_ ts e ∧ Vk B B w4 w9 ∧ ts.length ≤ 5000) := ⟨htells, A8.out.2.2.1.trans (Vk.of_below hb9), (by have := tells_len htells; have := A.out; have := A5.out.2.2.2.2.2.2.2.1; omega)⟩; clear htoks htells hb9)
     | (go_at_call 53; refine hbd.mono ?_; rintro e1 w10 ⟨rfl, ⟨v10, z10, p10, wz10, hp10⟩, hk10⟩))
    have a6 := A6.out
    have a5 := A5.out
    have a0 := A.out
    have a9 := A9.out
    have eb : bs ++ bitsOf 1 0 ++ bitsOf 2 1 ++ (ts.flatMap (tokBits fixL fixD) ++ cbits fixL 256) = bs ++ ((bitsOf 1 0 ++ bitsOf 2 1) ++ (ts.flatMap (tokBits fixL fixD) ++ cbits fixL 256)) := by simp
    rw [eb] at wz10
    have hld : Leads most (.head false) (.head false) (bs ++ ((bitsOf 1 0 ++ bitsOf 2 1) ++ (ts.flatMap (tokBits fixL fixD) ++ cbits fixL 256))) 0 [] (l.take e) := by
     refine lead_next a6.2.2.2.2.2.2.2.2.1 ?_
     exact (lead_head false 1 (by omega)).trans (lead_body fits_fixL fits_fixD (by rw [a0.2.1]; exact a0.2.2.2.2.2.2.2.2.2.1) a0.2.2.2.1 (has_fixL (by decide)) (a9.1.uses_fix a0.2.2.2.1) a9.1 (by rw [a0.2.1]; exact a6.2.2.2.2.2.2.2.2.2.2.2.1))
    have hbl : (bs ++ ((bitsOf 1 0 ++ bitsOf 2 1) ++ (ts.flatMap (tokBits fixL fixD) ++ cbits fixL 256))).length ≤ (i + 1) * 1000000 := by
     have h1 := toks_len fits_fixL.2 fits_fixD.2 (l := ts) (fun t ht => ⟨a9.1.uses_fix a0.2.2.2.1 t ht, by have := a9.1.tok0 a0.2.2.2.1 t ht; cases t using Tok.el <;> exact this⟩)
     have h2 : (cbits fixL 256).length ≤ 15 := by decide
     simp only [List.length_append, bitsOf_length]
     have := a6.2.2.2.2.2.2.2.2.2.1
     have := a9.2.2
     omega
    have g1 := a6.2.2.2.2.2.2.2.2.2.2.1
    have g2 := a5.2.2.2.2.2.2.2.2.2.2.1
    go_roundg (G - 1)
    case measure => omega
    case rel => exact ⟨i + 1, e, rfl, by go_num, by omega, a5.2.2.2.2.2.2.2.1, by omega, _, ⟨v10, z10, p10, wz10, hp10⟩, a9.2.1.trans hk10, hld, hbl⟩
   ·have hT : ∀ X : World, Lies X a l → Calls Tryz.prog 54 #[.slice a L c, .int .i64 (at_ : Int), .int .i64 (e : Int), .bool cp] X (fun e1 w' => ∃ ta ts tc, e1 = .returned (.slice ta ts.length tc) ∧ Toks w' ta ts ∧ Tells l at_ ts e ∧ Below X.heap.size X w') := fun X hX => tokens_c X a l L c at_ e cp hX hLe (by have := A.out; omega) A5.out.2.2.2.2.2.2.1 A5.out.2.2.2.2.2.2.2.1
    clear hLe hlen
    go_upto_region 19 with fail
    clear c0
    go_region_held3 (fun u => u.cell? ⟨Hp, 2, none⟩ = some (.bool cp) ∧ u.cell? ⟨Hp, 3, none⟩ = some (.bool rn)) (first | assumption | exact ⟨c2, c3⟩ | exact d10 | exact d9)
     (first
      | (go_at_call 54; refine (hT _ (by exact hl8)).mono ?_; rintro e1 w9 ⟨ta, ts, tc, rfl, htoks, htells, hb9⟩; have hb9' : Below w8.heap.size w8 w9 := ⟨hb9.os, hb9.tape, hb9.output, hb9.size, hb9.block⟩; have k9 := A8.out.2.2.2.2.2.2.2.below hb9' A8.out.2.2.2.2.2.2.2.lt; have d9 : w9.cell? ⟨Hp, 2, none⟩ = some (.bool cp) ∧ w9.cell? ⟨Hp, 3, none⟩ = some (.bool rn) := ⟨k9.cell 2, k9.cell 3⟩; have hdy := wdynamic_c ts ta ts.length tc rn w9 (A8.out.1.below hb9') A8.out.2.1 A.out.2.2.2.2.2.2.2.2.1 htoks rfl (by have := tells_len htells; have := A.out; have := A5.out.2.2.2.2.2.2.2.1; omega) (htells.tok0 A.out.2.2.2.1) (by have := A6.out.2.2.2.2.2.2.2.2.2.1; have := A.out; simp only [List.length_append, bitsOf_length]; omega); have A9 : Aside (Tells l at_ ts e ∧ Vk B B w4 w9 ∧ ts.length ≤ 5000 ∧ Cells w9 Hp #[.int .u8 (kd : Int), .int .u16 (nb : Int), .bool cp, .bool rn] 107 ∧ ∃ cs, Cells w9 B cs 99) := ⟨htells, A8.out.2.2.1.trans (Vk.of_below hb9'), (by have := tells_len htells; have := A.out; have := A5.out.2.2.2.2.2.2.2.1; omega), k9, ⟨_, (A8.out.1.below hb9').fr⟩⟩; clear htoks htells hb9 hb9' k9)
      | (go_at_call 55; refine hdy.mono ?_; rintro e1 w10 ⟨rfl, ⟨ff, lt, dt, says, hdok, v10, z10, p10, wz10, hp10, hdl⟩, hk10⟩; have d10 : w10.cell? ⟨Hp, 2, none⟩ = some (.bool cp) ∧ w10.cell? ⟨Hp, 3, none⟩ = some (.bool rn) := (by obtain ⟨cs, hcs⟩ := A9.out.2.2.2.2; have k10 := A9.out.2.2.2.1.wk hk10 (kinds_ne A9.out.2.2.2.1 hcs (by decide)) (by decide); exact ⟨k10.cell 2, k10.cell 3⟩)))
    go_wp2_with fail
    have a6 := A6.out
    have a5 := A5.out
    have a0 := A.out
    have a9 := A9.out
    have eb : bs ++ bitsOf 1 0 ++ bitsOf 2 2 ++ dynBits ff lt dt says ts = bs ++ ((bitsOf 1 0 ++ bitsOf 2 2) ++ dynBits ff lt dt says ts) := by simp
    rw [eb] at wz10
    have hld : Leads most (.head false) (.head false) (bs ++ ((bitsOf 1 0 ++ bitsOf 2 2) ++ dynBits ff lt dt says ts)) 0 [] (l.take e) := by
     refine lead_next a6.2.2.2.2.2.2.2.2.1 ?_
     exact (lead_head false 2 (by omega)).trans (lead_dynamic hdok.fl hdok.f8 hdok.fk hdok.ff hdok.ll hdok.ld hdok.sy hdok.sh hdok.m1 hdok.m2 hdok.f1 hdok.f2 hdok.h256 (by rw [a0.2.1]; exact a0.2.2.2.2.2.2.2.2.2.1) a0.2.2.2.1 hdok.us a9.1 (by rw [a0.2.1]; exact a6.2.2.2.2.2.2.2.2.2.2.2.1))
    have hbl : (bs ++ ((bitsOf 1 0 ++ bitsOf 2 2) ++ dynBits ff lt dt says ts)).length ≤ (i + 1) * 1000000 := by
     simp only [List.length_append, bitsOf_length]
     have := a6.2.2.2.2.2.2.2.2.2.1
     have := a9.2.2.1
     omega
    have g1 := a6.2.2.2.2.2.2.2.2.2.2.1
    have g2 := a5.2.2.2.2.2.2.2.2.2.2.1
    go_roundg (G - 1)
    case measure => omega
    case rel => exact ⟨i + 1, e, rfl, by go_num, by omega, a5.2.2.2.2.2.2.2.1, by omega, _, ⟨v10, z10, p10, wz10, hp10⟩, a9.2.1.trans hk10, hld, hbl⟩
end Go.Proofs.YtogednaamndpgaaGreatDoor

/-
 Reset: the inflater as a new one.
-/
namespace Go.Proofs.YtogednaamndpgaaGreatDoor
open Go.RowKit
set_option linter.unusedVariables false
theorem wp_store_cz {P : Program} {o : Oper} {a : Act} {w : World} {K : Act → World → Prop} {Q : Exit → Act → World → Prop} (ty : TypeId) (x y : Operand) (ho : o.op = .store ty x y)
  (D off : Nat) (cells : Array Value) (hx : a.eval x = .pointer (some ⟨D, off, none⟩)) (hy : a.eval y = .agg cells) (f : Nat → Value) (hg : Cells w D (cz f) 92) (hi : (P.info? ty).map (·.size) = some cells.size)
  (hle : off + cells.size ≤ 355) (h1 : cells.all (·.oneCell') = true)
  (h : ∀ w' f', Mid D off f f' cells.toList w w' → K (a.put o.dst undef) w') : o.wp P a w K Q := by
 obtain ⟨w', f', h2, h3⟩ := store_mid (P := P) D off cells.toList 0 f w hg (by simp; omega) (fun v hv => (Array.all_eq_true_iff_forall_mem.1 h1) v (by simpa using hv))
 have hv : (storeVar ty ⟨D, off, none⟩ (.agg cells)).run P w = .ok () w' := by
  cases hq : P.info? ty with
  | none => simp [hq] at hi
  | some i =>
   have hs : cells.size = i.size := by simp [hq] at hi; omega
   simp [storeVar, sizeOf, typeInfo, hq, Value.cells, hs, h2]
 unfold Oper.wp execOp
 simp only [ho, hx, hy, Instr.storeAt, Instr.sureAddr, Sem.run_bind, Sem.run_pure, Result.andThen_ok, hv]
 exact h w' f' h3
theorem nf_one (b R : Nat) (p q : Option Addr) : (cz (nf b R (.pointer p) (.pointer q))).all (·.oneCell') = true := by kernel_rfl
theorem zc73r (b R : Nat) (p q : Option Addr) : (((Tryz.zeroCells92.setIfInBounds 0 (.pointer (some ⟨b, 0, none⟩))).setIfInBounds 1 (.pointer (some ⟨R, 0, none⟩))).setIfInBounds 3 (.pointer p)).setIfInBounds 4 (.pointer q) = cz (nf b R (.pointer p) (.pointer q)) := by kernel_rfl
section
variable {B D b R : Nat} {I : List Nat} {M : Nat} {c : Cfg} {q : Md}
set_option maxRecDepth 100000 in
set_option maxHeartbeats 2000000 in
theorem reset_c (w : World) (h : Inf w B D b R I M c q) : Calls Tryz.prog 140 #[.pointer (some ⟨D, 0, none⟩)] w fun e w' => e = .returned (.tuple #[]) ∧ Inf w' B D b R [] M c0 .want ∧ Fm B w w' := by
 obtain ⟨f, hh, l, s, hx, ht, h7⟩ := h.mem
 obtain ⟨p3, p4, e3, e4⟩ : ∃ p3 p4, f 3 = .pointer p3 ∧ f 4 = .pointer p4 := by
  rcases hx with ⟨h3, h4⟩ | ⟨⟨_, _, T, h3, _⟩, ⟨_, _, T', h4, _⟩⟩
  ·exact ⟨_, _, h3, h4⟩
  ·exact ⟨_, _, h3, h4⟩
 have d0 := (s.cell (show 0 < 355 by decide)).trans (congrArg some s.c0)
 have hclr := clear_b b _ _ w s.br
 have A : Aside (Bs w B D b R f hh l ∧ Fx w B f ∧ Tabs w ∧ 8 ≤ B ∧ f 3 = .pointer p3 ∧ f 4 = .pointer p4) := ⟨s, hx, ht, h7, e3, e4⟩
 clear s hx ht h7 e3 e4 h
 go_enter Tryz.func140, Tryz.ntmps140
 go_upto_region 2 with (go_at_call 142; refine hclr.mono ?_; rintro e1 w1 ⟨rfl, hb1, ho1⟩)
 have s1 : Bs w1 B D b R f [] l := A.out.1.onb ho1 (h' := []) hb1
 have d1 := (s1.cell (show 1 < 355 by decide)).trans (congrArg some s1.c1)
 have hrc := gclear_r w1 s1.rg
 have A1 : Aside (Bs w1 B D b R f [] l ∧ Fm B w w1) := ⟨s1, Fm.of_only ho1 (by have := A.out.1.eb; omega) (by have := A.out.1.eb; omega)⟩
 clear s1 hb1 ho1 hclr d0
 go_upto_region 3 with (go_at_call 143; refine hrc.mono ?_; rintro e2 w2 ⟨rfl, hr2, ho2⟩)
 have s2 : Bs w2 B D b R f [] [] := A1.out.1.onR ⟨ho2.os, ho2.tape, ho2.output, ho2.size, fun k hk _ => ho2.block k hk⟩ hr2
 have g0 := (s2.cell (show 0 < 355 by decide)).trans (congrArg some s2.c0)
 have g1 := (s2.cell (show 1 < 355 by decide)).trans (congrArg some s2.c1)
 have g3 := (s2.cell (show 3 < 355 by decide)).trans (congrArg some A.out.2.2.2.2.1)
 have g4 := (s2.cell (show 4 < 355 by decide)).trans (congrArg some A.out.2.2.2.2.2)
 have A2 : Aside (Bs w2.drew B D b R f [] [] ∧ Fm B w w2.drew) := ⟨s2.drew, (A1.out.2.trans (Fm.of_only ho2 (by have := A.out.1.eR; omega) (by have := A.out.1.eR; omega))).trans ((Fm.refl B w2).drew)⟩
 clear s2 hr2 ho2 hrc d1
 refine wp_region_held_drew (S := fun u => u.cell? ⟨D, 0, none⟩ = some (.pointer (some ⟨b, 0, none⟩)) ∧ u.cell? ⟨D, 1, none⟩ = some (.pointer (some ⟨R, 0, none⟩)) ∧ u.cell? ⟨D, 3, none⟩ = some (.pointer p3) ∧ u.cell? ⟨D, 4, none⟩ = some (.pointer p4)) (by kernel_rfl) ⟨g0, g1, g3, g4⟩ (fun hHeld => ?_)
 refine wpAnyH_take (i := 0) (oi := ⟨_, _, _, _, _, _⟩) (v := ?_) rfl (by kernel_rfl) (by kernel_rfl) (by kernel_rfl) (fun _ _ _ h => h) (Or.inl ⟨by rfl, ?_⟩) hHeld ?_
 rotate_left
 ·(intro w9 hSw; (try dsimp only at hSw); go_simp; try (with_reducible rfl))
 try simp only [Act.put, List.setIfInBounds_toArray, List.set_cons_zero, List.set_cons_succ]
 refine wpAnyH_take (i := 1) (oi := ⟨_, _, _, _, _, _⟩) (v := ?_) rfl (by kernel_rfl) (by kernel_rfl) (by kernel_rfl) (fun _ _ _ h => h) (Or.inl ⟨by rfl, ?_⟩) hHeld ?_
 rotate_left
 ·(intro w9 hSw; (try dsimp only at hSw); go_simp; try (with_reducible rfl))
 try simp only [Act.put, List.setIfInBounds_toArray, List.set_cons_zero, List.set_cons_succ]
 refine wpAnyH_take (i := 2) (oi := ⟨_, _, _, _, _, _⟩) (v := ?_) rfl (by kernel_rfl) (by kernel_rfl) (by kernel_rfl) (fun _ _ _ h => h) (Or.inl ⟨by rfl, ?_⟩) hHeld ?_
 rotate_left
 ·(intro w9 hSw; (try dsimp only at hSw); go_simp; try (with_reducible rfl))
 try simp only [Act.put, List.setIfInBounds_toArray, List.set_cons_zero, List.set_cons_succ]
 refine wpAnyH_take (i := 3) (oi := ⟨_, _, _, _, _, _⟩) (v := ?_) rfl (by kernel_rfl) (by kernel_rfl) (by kernel_rfl) (fun _ _ _ h => h) (Or.inl ⟨by rfl, ?_⟩) hHeld ?_
 rotate_left
 ·(intro w9 hSw; (try dsimp only at hSw); go_simp; try (with_reducible rfl))
 try simp only [Act.put, List.setIfInBounds_toArray, List.set_cons_zero, List.set_cons_succ]
 refine wpAnyH_take (i := 4) (oi := ⟨_, _, _, _, _, _⟩) (v := ?_) rfl (by kernel_rfl) (by kernel_rfl) (by kernel_rfl) (fun _ _ _ h => h) (Or.inl ⟨by rfl, ?_⟩) hHeld ?_
 rotate_left
 ·(intro w9 hSw; (try dsimp only at hSw); go_simp; try (with_reducible rfl))
 try simp only [Act.put, List.setIfInBounds_toArray, List.set_cons_zero, List.set_cons_succ]
 refine wpAnyH_take (i := 5) (oi := ⟨_, _, _, _, _, _⟩) (v := ?_) rfl (by kernel_rfl) (by kernel_rfl) (by kernel_rfl) (fun _ _ _ h => h) (Or.inl ⟨by rfl, ?_⟩) hHeld ?_
 rotate_left
 ·(intro w9 hSw; (try dsimp only at hSw); go_simp; try (with_reducible rfl))
 try simp only [Act.put, List.setIfInBounds_toArray, List.set_cons_zero, List.set_cons_succ]
 refine wpAnyH_take (i := 6) (oi := ⟨_, _, _, _, _, _⟩) (v := ?_) rfl (by kernel_rfl) (by kernel_rfl) (by kernel_rfl) (fun _ _ _ h => h) (Or.inl ⟨by rfl, ?_⟩) hHeld ?_
 rotate_left
 ·(intro w9 hSw; (try dsimp only at hSw); go_simp; try (with_reducible rfl))
 try simp only [Act.put, List.setIfInBounds_toArray, List.set_cons_zero, List.set_cons_succ]
 refine wpAnyH_take (i := 7) (oi := ⟨_, _, _, _, _, _⟩) (v := ?_) rfl (by kernel_rfl) (by kernel_rfl) (by kernel_rfl) (fun _ _ _ h => h) (Or.inl ⟨by rfl, ?_⟩) hHeld ?_
 rotate_left
 ·(intro w9 hSw; (try dsimp only at hSw); go_simp; try (with_reducible rfl))
 try simp only [Act.put, List.setIfInBounds_toArray, List.set_cons_zero, List.set_cons_succ]
 refine wpAnyH_take (i := 8) (oi := ⟨_, _, _, _, _, _⟩) (v := ?_) rfl (by kernel_rfl) (by kernel_rfl) (by kernel_rfl) (fun _ _ _ h => h) (Or.inl ⟨by rfl, ?_⟩) hHeld ?_
 rotate_left
 ·(intro w9 hSw; (try dsimp only at hSw); go_simp; try (with_reducible rfl))
 try simp only [Act.put, List.setIfInBounds_toArray, List.set_cons_zero, List.set_cons_succ]
 refine wpAnyH_take (i := 9) (oi := ⟨_, _, _, _, _, _⟩) (v := ?_) rfl (by kernel_rfl) (by kernel_rfl) (by kernel_rfl) (fun _ _ _ h => h) (Or.inl ⟨by rfl, ?_⟩) hHeld ?_
 rotate_left
 ·(intro w9 hSw; (try dsimp only at hSw); go_simp; try (with_reducible rfl))
 try simp only [Act.put, List.setIfInBounds_toArray, List.set_cons_zero, List.set_cons_succ]
 refine wpAnyH_take (i := 10) (oi := ⟨_, _, _, _, _, _⟩) (v := ?_) rfl (by kernel_rfl) (by kernel_rfl) (by kernel_rfl) (fun _ _ _ h => h) (Or.inl ⟨by rfl, ?_⟩) hHeld ?_
 rotate_left
 ·(intro w9 hSw; (try dsimp only at hSw); go_simp; try (with_reducible rfl))
 try simp only [Act.put, List.setIfInBounds_toArray, List.set_cons_zero, List.set_cons_succ]
 refine wpAnyH_take (i := 11) (oi := ⟨_, _, _, _, _, _⟩) (v := ?_) rfl (by kernel_rfl) (by kernel_rfl) (by kernel_rfl) (fun _ _ _ h => h) (Or.inl ⟨by rfl, ?_⟩) hHeld ?_
 rotate_left
 ·(intro w9 hSw; (try dsimp only at hSw); go_simp; try (with_reducible rfl))
 try simp only [Act.put, List.setIfInBounds_toArray, List.set_cons_zero, List.set_cons_succ]
 refine wpAnyH_take (i := 12) (oi := ⟨_, _, _, _, _, _⟩) (v := ?_) rfl (by kernel_rfl) (by kernel_rfl) (by kernel_rfl) (fun _ _ _ h => h) (Or.inl ⟨by rfl, ?_⟩) hHeld ?_
 rotate_left
 ·(intro w9 hSw; (try dsimp only at hSw); go_simp; try (with_reducible rfl))
 try simp only [Act.put, List.setIfInBounds_toArray, List.set_cons_zero, List.set_cons_succ]
 refine wpAnyH_take (i := 13) (oi := ⟨_, _, _, _, _, _⟩) (v := ?_) rfl (by kernel_rfl) (by kernel_rfl) (by kernel_rfl) (fun _ _ _ h => h) (Or.inl ⟨by rfl, ?_⟩) hHeld ?_
 rotate_left
 ·(intro w9 hSw; (try dsimp only at hSw); go_simp; try (with_reducible rfl))
 try simp only [Act.put, List.setIfInBounds_toArray, List.set_cons_zero, List.set_cons_succ]
 refine wpAnyH_take (i := 14) (oi := ⟨_, _, _, _, _, _⟩) (v := ?_) rfl (by kernel_rfl) (by kernel_rfl) (by kernel_rfl) (fun _ _ _ h => h) (Or.inl ⟨by rfl, ?_⟩) hHeld ?_
 rotate_left
 ·(intro w9 hSw; (try dsimp only at hSw); go_simp; try (with_reducible rfl))
 try simp only [Act.put, List.setIfInBounds_toArray, List.set_cons_zero, List.set_cons_succ]
 refine wpAnyH_ready (rs := [15]) (by kernel_rfl) (by simp) ?_
 refine AllReadyH.cons (o := ⟨_, _, _, _, _, _⟩) rfl (fun K hK => ?_) AllReadyH.nil
 rw [if_pos (by rfl)]
 refine wp_store_cz 92 _ _ rfl D 0 (cz (nf b R (.pointer p3) (.pointer p4))) (by rfl) (congrArg Value.agg (zc73r b R p3 p4)) f A2.out.1.fr (by rw [cz_size]; exact size73) (by rw [cz_size]; omega) (nf_one b R p3 p4) ?_
 intro w3 f3 hm
 have hf3 : ∀ j, j < 355 → f3 j = nf b R (.pointer p3) (.pointer p4) j := fun j hj => by
  have := hm.new j (nf b R (.pointer p3) (.pointer p4) j) (by have := cz_at (nf b R (.pointer p3) (.pointer p4)) hj; simpa using this)
  rwa [Nat.zero_add] at this
 have hcz : cz f3 = cz (nf b R (.pointer p3) (.pointer p4)) := by
  unfold cz
  congr 1
  exact List.map_congr_left fun j hj => hf3 j (List.mem_range.1 hj)
 have hc3 : Cells w3 D (cz (nf b R (.pointer p3) (.pointer p4))) 92 := by rw [← hcz]; exact hm.cells
 have s3 : Bs w3 B D b R (nf b R (.pointer p3) (.pointer p4)) [] [] := A2.out.1.onD hm.only hc3 A2.out.1.c0.symm A2.out.1.c1.symm
 refine hK.out _ _ ⟨s3.cell (show 0 < 355 by decide), s3.cell (show 1 < 355 by decide), s3.cell (show 3 < 355 by decide), s3.cell (show 4 < 355 by decide)⟩ (fun hHeld3 => ?_)
 clear hK K
 have A3 : Aside (Bs w3 B D b R (nf b R (.pointer p3) (.pointer p4)) [] [] ∧ Fm B w w3) := ⟨s3, A2.out.2.trans (Fm.of_only hm.only (by have := A.out.1.eD; omega) (by have := A.out.1.eD; omega))⟩
 have z2 := s3.fz 2
 have c2 := s3.cell (show 2 < 355 by decide)
 have e2 : nf b R (.pointer p3) (.pointer p4) 2 = .nilFunc := rfl
 rw [e2] at c2
 clear hm hf3 hcz hc3 s3 hHeld hHeld3 g0 g1 g3 g4 e2
 try simp only [Act.put]
 refine wpAnyH_done (by kernel_rfl) ?_ _
 go_wp2_with fail
 go_end0
 have a := A3.out
 have s5 := a.1.set 2 (fnv D 41) (by decide)
 have o5 : Only D w3 (w3.setCell ⟨D, 2, none⟩ (fnv D 41)) := (Only.refl D w3).setCell 2 _
 have f5 := a.2.trans (Fm.of_only o5 (by have := A.out.1.eD; omega) (by have := A.out.1.eD; omega))
 refine ⟨rfl, want_new s5 (upd_same _ _ _) rfl rfl rfl ?_ (A.out.2.2.1.below (f5.below (by have := A.out.1.lt; omega)) A.out.2.2.2.1) A.out.2.2.2.1, f5⟩
 exact A.out.2.1.fm f5 A.out.2.2.2.2.1.symm A.out.2.2.2.2.2.symm
end
end Go.Proofs.YtogednaamndpgaaGreatDoor

/-
 The inflater stays as it is where rows of bytes, of lists of bytes, or a walker turn. No walk.
-/
namespace Go.Proofs.YtogednaamndpgaaGreatDoor
open Go.RowKit
set_option linter.unusedVariables false
structure Kq (B : Nat) (w u : World) : Prop where
 size : w.heap.size ≤ u.heap.size
 block : ∀ k, k < w.heap.size → u.heap[k]? = w.heap[k]? ∨ (8 ≤ k ∧ (k < B ∨ B + 4 ≤ k) ∧ ∃ cs ty fr, w.heap[k]? = some (.cells cs ty fr) ∧ (ty = 5 ∨ ty = 65 ∨ ty = 22 ∨ ty = 43))
theorem Kq.of_below {B C : Nat} {w u : World} (h : Below C w u) (hC : w.heap.size ≤ C) : Kq B w u := ⟨h.size, fun k hk => Or.inl (h.block k (by omega))⟩
theorem Kq.trans {B : Nat} {w u v : World} (h : Kq B w u) (k : Kq B u v) : Kq B w v := ⟨Nat.le_trans h.size k.size, fun i hi => by
 rcases h.block i hi with e | e
 ·rcases k.block i (by have := h.size; omega) with f | ⟨f1, f2, cs, ty, fr, f3, f4⟩
  ·exact Or.inl (f.trans e)
  ·exact Or.inr ⟨f1, f2, cs, ty, fr, e ▸ f3, f4⟩
 ·exact Or.inr e⟩
theorem Tbl.kq {w u : World} {B : Nat} {v : Value} {ls : List Nat} (h : Tbl w B v ls) (k : Kq B w u) : Tbl u B v ls := by
 obtain ⟨lo, hi, T, h1, h2, h3, ⟨g, M, n, q, a1, a2, a3, a4, a5, a6, a7⟩, h5⟩ := h
 have e1 : u.heap[T]? = w.heap[T]? := by
  rcases k.block T (by omega) with e | ⟨_, _, cs, ty, fr, e, ht⟩
  ·exact e
  ·have := q.t; unfold Cells at this; rw [this] at e; cases e; rcases ht with h | h | h | h <;> exact absurd h (by decide)
 have e2 : u.heap[g]? = w.heap[g]? := by
  rcases k.block g (by omega) with e | ⟨_, _, cs, ty, fr, e, ht⟩
  ·exact e
  ·obtain ⟨cs', hc, _⟩ := q.c; unfold Cells at hc; rw [hc] at e; cases e; rcases ht with h | h | h | h <;> exact absurd h (by decide)
 have e3 : u.heap[M]? = w.heap[M]? := by
  rcases k.block M (by omega) with e | ⟨_, _, cs, ty, fr, e, ht⟩
  ·exact e
  ·obtain ⟨G, ⟨D, ⟨es, cl, hb, _⟩, _⟩, _⟩ := q.m; rw [hb] at e; cases e
 exact ⟨lo, hi, T, h1, h2, Nat.le_trans h3 k.size, ⟨g, M, n, q.heap e1 e2 e3, a1, a2, a3, a4, a5, a6, a7⟩, h5⟩
section
variable {w u : World} {B D b R : Nat} {f : Nat → Value} {bs : List Bool} {most : Nat}
theorem Bs.kq {h : List Bool} {l : List Int} (s : Bs w B D b R f h l) (k : Kq B w u) : Bs u B D b R f h l := by
 have := s.lt
 refine s.keep fun i h1 h2 => ?_
 rcases k.block i (by omega) with e | ⟨_, h3, _⟩
 ·exact e
 ·omega
theorem Fx.kq (h : Fx w B f) (k : Kq B w u) : Fx u B f := by
 rcases h with h | ⟨h, h'⟩
 ·exact Or.inl h
 ·exact Or.inr ⟨h.kq k, h'.kq k⟩
theorem Tabs.kq (h : Tabs w) (k : Kq B w u) (hs : 8 ≤ w.heap.size) : Tabs u := by
 have hc : ∀ p : Addr, p.block < 8 → u.cell? p = w.cell? p := fun p hp => World.cell?_of_block (w := w) (by
  rcases k.block p.block (by omega) with e | ⟨h3, _⟩
  ·exact e
  ·omega)
 exact ⟨fun i hi => (hc ⟨1, i, none⟩ (show 1 < 8 by decide)).trans (h.t0 i hi), fun i hi => (hc ⟨2, i, none⟩ (show 2 < 8 by decide)).trans (h.t1 i hi), fun i hi => (hc ⟨3, i, none⟩ (show 3 < 8 by decide)).trans (h.t2 i hi), fun i hi => (hc ⟨4, i, none⟩ (show 4 < 8 by decide)).trans (h.t3 i hi), fun i hi => (hc ⟨5, i, none⟩ (show 5 < 8 by decide)).trans (h.t4 i hi), fun i hi => (hc ⟨6, i, none⟩ (show 6 < 8 by decide)).trans (h.t5 i hi), fun i hi => (hc ⟨7, i, none⟩ (show 7 < 8 by decide)).trans (h.t6 i hi)⟩
theorem Ctab.kq (h : Ctab w) (k : Kq B w u) : Ctab u := fun i hi => by
 have e : u.cell? ⟨0, i, none⟩ = w.cell? ⟨0, i, none⟩ := World.cell?_of_block (w := w) (by
  rcases k.block 0 h.lt with e | ⟨h3, _⟩
  ·exact e
  ·omega)
 exact e.trans (h i hi)
theorem Pl.kq {a c : Nat} {code l : List Nat} (h : Pl w B f a c code l) (k : Kq B w u) : Pl u B f a c code l := ⟨h.a1, h.a2, h.b1, h.b2, h.c8, h.c9, h.have_, h.len, h.row, h.tbl.kq k, h.code⟩
theorem At.kq {n : Nat} {st : St} (h : At w B D f n st) (k : Kq B w u) : At u B D f n st := by
 cases st using St.el with
 | head last => cases last <;> exact h
 | dsym last a b code l => exact ⟨h.1, h.2.1, h.2.2.kq k⟩
 | drep last a b code l s => exact ⟨h.1, h.2.1, h.2.2.1.kq k, h.2.2.2⟩
 | sym last lit di => exact ⟨h.1, h.2.1, h.2.2.1.kq k, h.2.2.2.kq k⟩
 | lext last lit di s => exact ⟨h.1, h.2.1, h.2.2.1.kq k, h.2.2.2.1.kq k, h.2.2.2.2⟩
 | dist last lit di m => exact ⟨h.1, h.2.1, h.2.2.1.kq k, h.2.2.2.1.kq k, h.2.2.2.2⟩
 | dext last lit di m x => exact ⟨h.1, h.2.1, h.2.2.1.kq k, h.2.2.2.1.kq k, h.2.2.2.2⟩
 | copy last lit di m d => exact ⟨h.1, h.2.1, h.2.2.1.kq k, h.2.2.2.1.kq k, h.2.2.2.2⟩
 | _ => exact h
theorem Is.kq {c : Cfg} (h : Is w B D b R f bs c) (k : Kq B w u) : Is u B D b R f bs c :=
 ⟨h.mem.kq k, h.at_.kq k, h.fx.kq k, h.tabs.kq k (by have := h.mem.lt; have := h.b7; omega), h.le, h.b7⟩
theorem Ov.kq {c : Cfg} (h : Ov w B D b R f c) (k : Kq B w u) : Ov u B D b R f c := by
 obtain ⟨hh, l, s⟩ := h.mem
 exact ⟨⟨hh, l, s.kq k⟩, h.waits, h.how, h.fx.kq k, h.tabs.kq k (by have := s.lt; have := h.b7; omega), h.b7⟩
end
theorem Inf.kq {w u : World} {B D b R : Nat} {I : List Nat} {M : Nat} {c : Cfg} {q : Md} (h : Inf w B D b R I M c q) (k : Kq B w u) : Inf u B D b R I M c q := by
 refine ⟨h.1, ?_⟩
 have h2 := h.2
 cases q using Md.el with
 | wait x =>
  obtain ⟨f, h3, h4⟩ := h2
  exact ⟨f, h3.kq k, h4⟩
 | want =>
  obtain ⟨f, h3⟩ := h2
  exact ⟨f, h3.is_.kq k, h3.op, h3.few, h3.z⟩
 | over =>
  obtain ⟨f, h3⟩ := h2
  exact ⟨f, h3.kq k⟩
 | shut =>
  obtain ⟨f, h, l, h3, h4, h5, h6, h7, h8, h9⟩ := h2
  exact ⟨f, h, l, h3.kq k, h4, h5, h6, h7.kq k, h8.kq k (by have := h3.lt; omega), h9⟩
end Go.Proofs.YtogednaamndpgaaGreatDoor

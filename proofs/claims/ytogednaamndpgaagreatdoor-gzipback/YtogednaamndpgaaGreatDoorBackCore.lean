/-
 GzipBack's walk.
-/
import Derived.Test.YtogednaamndpgaaGreatDoorWbm
import Derived.Test.YtogednaamndpgaaGreatDoorWz0
import Derived.Test.YtogednaamndpgaaGreatDoorWmh
import Derived.Deep.RegionWith
namespace Go.Proofs.YtogednaamndpgaaGreatDoor
open Go.RowKit
set_option linter.unusedVariables false
section
variable {lo hi B D b R W A : Nat} {s : Gs}
structure Nb (lo hi B D b R W A : Nat) (s : Gs) (rem rem2 : List Evn) (ek eb en : Int) (S : ByteArray) (ok : Bool) : Prop where
 cs : (ok = false ∧ rem = [] ∧ rem2 = []) ∨ (ok = true ∧ ∃ e, rem = e :: rem2 ∧ ek = gk1 e.1 ∧ en = gk3 e.1 ∧ S = st e.2)
theorem nx_b {w : World} {rem : List Evn} (hz : Wz w lo hi B D b R W A s rem) (hb : s.y.out.length + 1 < MM) : ∃ ek eb en S ok rem2, (Calls Tryz.prog 20 #[.pointer (some ⟨W, 0, none⟩)] w fun r w' => r = .returned (.tuple #[.agg #[.int .i64 ek, .int .u8 eb, .int .i64 en, .int .i64 0, .string S], .bool ok]) ∧ Wz w' lo hi B D b R W A s rem2 ∧ Fw lo hi w w') ∧ Nb lo hi B D b R W A s rem rem2 ek eb en S ok := by
 cases rem with
 | nil => exact ⟨0, 0, 0, ⟨#[]⟩, false, [], (wz_next_no w hz).mono fun r w' ⟨k1, k2, k3⟩ => ⟨k1, k2, Fw.of_below k3 (Nat.le_refl _)⟩, ⟨Or.inl ⟨rfl, rfl, rfl⟩⟩⟩
 | cons e rem => exact ⟨gk1 e.1, gk2 e.1, gk3 e.1, st e.2, true, rem, wz_next e w hz (by omega), ⟨Or.inr ⟨rfl, e, rfl, rfl, rfl, rfl⟩⟩⟩
structure Ib (lo hi B D b R W A : Nat) (s1 : Gs) (LN : List (List Nat)) (R' : List Evn) (PE : List Evn) (w11 wq : World) (Hx : Nat) (n : Nat) (ok : Bool) (ek eb en : Int) (S : ByteArray) (rem : List Evn) : Prop where
 wz : Wz wq lo hi B D b R W A s1 rem
 cel : Cells wq Hx #[.int .i64 ek, .int .u8 eb, .int .i64 en, .int .i64 0, .string S] 43
 hH : hi ≤ Hx
 bel : Below lo w11 wq
 st : (ok = false ∧ rem = [] ∧ n = (opn PE).length) ∨ (ok = true ∧ ∃ e P, ek = gk1 e.1 ∧ en = gk3 e.1 ∧ S = st e.2 ∧ n = (opn P).length ∧ P ++ e :: rem = PE ∧ Bi LN 2999 P (e :: (rem ++ R')))
end
theorem cells_fx {lo hi F : Nat} {w u : World} {cs : Array Value} {t : TypeId} (h : Cells w F cs t) (k : Fw lo hi w u) (hF : hi ≤ F) : Cells u F cs t := by
 have := h.lt
 unfold Cells at *
 rw [k.block F this (Or.inr hF)]
 exact h
theorem Ib.next {lo hi B D b R W A : Nat} {s1 : Gs} {LN : List (List Nat)} {R' PE P : List Evn} {w11 wq w16 : World} {Hx n : Nat} {e : Evn} {ek eb en ek2 eb2 en2 : Int} {S S2 : ByteArray} {ok2 : Bool} {rem rem2 : List Evn} (hz : Wz w16 lo hi B D b R W A s1 rem2) (hc : Cells wq Hx #[.int .i64 ek, .int .u8 eb, .int .i64 en, .int .i64 0, .string S] 43) (hH : hi ≤ Hx) (hlo : lo ≤ hi) (bel : Below lo w11 wq) (hsz : lo ≤ wq.heap.size) (f : Fw lo hi wq w16) (nb : Nb lo hi B D b R W A s1 rem rem2 ek2 eb2 en2 S2 ok2) (hn : n = (opn (P ++ [e])).length) (hP : P ++ e :: rem = PE) (bi : Bi LN 2999 (P ++ [e]) (rem ++ R')) :
  Cells w16 Hx #[.int .i64 ek, .int .u8 eb, .int .i64 en, .int .i64 0, .string S] 43 ∧ Aside (Ib lo hi B D b R W A s1 LN R' PE w11 (((((w16.setCell ⟨Hx, 0, none⟩ (.int .i64 ek2)).setCell ⟨Hx, 1, none⟩ (.int .u8 eb2)).setCell ⟨Hx, 2, none⟩ (.int .i64 en2)).setCell ⟨Hx, 3, none⟩ (.int .i64 0)).setCell ⟨Hx, 4, none⟩ (.string S2)) Hx n ok2 ek2 eb2 en2 S2 rem2 ∧ rem2.length + ok2.toNat = rem.length) := by
 have k16 := cells_fx hc f hH
 have o : Only Hx w16 (((((w16.setCell ⟨Hx, 0, none⟩ (.int .i64 ek2)).setCell ⟨Hx, 1, none⟩ (.int .u8 eb2)).setCell ⟨Hx, 2, none⟩ (.int .i64 en2)).setCell ⟨Hx, 3, none⟩ (.int .i64 0)).setCell ⟨Hx, 4, none⟩ (.string S2)) := (((((Only.refl Hx w16).setCell 0 _).setCell 1 _).setCell 2 _).setCell 3 _).setCell 4 _
 refine ⟨k16, ⟨hz.var hH k16 o, ((((k16.set 0 _).set 1 _).set 2 _).set 3 _).set 4 _, hH, (bel.trans (f.below hsz)).trans (o.below (by omega)), ?_⟩, ?_⟩
 ·rcases nb.cs with ⟨q1, q2, q3⟩ | ⟨q1, e2, q2, q3, q4, q5⟩
  ·refine Or.inl ⟨q1, q3, ?_⟩
   rw [q2] at hP
   rw [← hP]
   exact hn
  ·refine Or.inr ⟨q1, e2, P ++ [e], q3, q4, q5, hn, ?_, ?_⟩
   ·rw [← hP, q2]; simp
   ·rw [q2] at bi; exact bi
 ·rcases nb.cs with ⟨q1, q2, q3⟩ | ⟨q1, e2, q2, _⟩
  ·rw [q1, q2, q3]; rfl
  ·rw [q1, q2]; rfl
set_option maxRecDepth 100000 in
set_option maxHeartbeats 8000000 in
theorem back_core (w : World) (ht : Tabs w) (hct : Ctab w) (h8 : 8 ≤ w.heap.size) (a1 : Option Addr) (ms : List Mb) (N1 C1 : Nat) (m1 : Ma w a1 ms N1) (no : Nat) (hno : no < 256) :
  Calls Tryz.prog 5 #[.slice a1 N1 C1, .int .u8 (no : Int)] w fun e w' => e = .returned (.bool true) ∧ Below w.heap.size w w' := by
 obtain ⟨lo, hlo⟩ : ∃ lo, w.heap.size = lo := ⟨_, rfl⟩
 have AW : Aside (∀ u : World, Below lo w u → Calls Tryz.prog 13 #[] u fun e w' => e = .returned (.bool true) ∧ Below u.heap.size u w') := fun u hu => by
  rw [← hlo] at hu
  exact wawake_c u (ht.below hu h8) (hct.below hu (by omega)) (by have := hu.size; omega)
 obtain ⟨t1, ht1⟩ : ∃ t, decide (N1 + msz ms < 3000) = t := ⟨_, rfl⟩
 have hs1 := m1.small (u := w) (Below.refl _ _) C1 t1 ht1
 have A : Aside (Tabs w ∧ Ctab w ∧ 8 ≤ lo ∧ w.heap.size = lo ∧ Ma w a1 ms N1 ∧ decide (N1 + msz ms < 3000) = t1) := ⟨ht, hct, by omega, hlo, m1, ht1⟩
 have bN1 : (N1 : Int) ≤ 9223372036854775807 := by have := m1.big; omega
 rw [hlo] at hs1 ⊢
 clear ht hct h8 m1 ht1 hlo
 by_cases hz1 : N1 = 0
 ·have e1 : ((N1 : Int) == 0) = true := by rw [hz1]; rfl
  have ha := AW.out w (Below.refl _ _)
  clear hz1
  go_enter Tryz.func5, Tryz.ntmps5
  go_wp2_with (go_at_call 13; refine ha.mono ?_; rintro e2 w2 ⟨rfl, b2⟩)
  first | go_ret | go_ret2
  exact ⟨rfl, by rw [← A.out.2.2.2.1]; exact b2⟩
 have e1 : ((N1 : Int) == 0) = false := by rw [beq_eq_false_iff_ne]; omega
 cases t1 with
 | false =>
  go_enter Tryz.func5, Tryz.ntmps5
  go_wp2_with (first
   | (go_at_call 21; refine hs1.mono ?_; rintro e3 w3 ⟨rfl, b3⟩; have ha := AW.out w3 b3)
   | (go_at_call 13; refine ha.mono ?_; rintro e4 w4 ⟨rfl, b4⟩))
  first | go_ret | go_ret2
  exact ⟨rfl, b3.trans (b4.mono (by have := b3.size; have := A.out.2.2.2.1; omega))⟩
 | true =>
 have s1 : N1 + msz ms < 3000 := of_decide_eq_true A.out.2.2.2.2.2
 have AM : Aside (N1 + msz ms < 3000 ∧ N1 ≠ 0 ∧ no < 256) := ⟨s1, hz1, hno⟩
 have AWr1 : Aside (∀ u, Below lo w u → Calls Tryz.prog 22 #[.slice a1 N1 C1] u fun e w' => Wl ms u e w') := fun u hu => A.out.2.2.2.2.1.write (by rw [A.out.2.2.2.1]; exact hu) (by rw [A.out.2.2.2.1]; exact A.out.2.2.1) s1 AM.out.2.1 C1
 have AG1 : Aside (∀ u, Below lo w u → Calls Tryz.prog 23 #[.slice a1 N1 C1] u fun e w' => Gvn w ms N1 u e w') := fun u hu => A.out.2.2.2.2.1.given (by rw [A.out.2.2.2.1]; exact hu) (by omega) C1
 have ATb : Aside (∀ u, Below lo w u → Tabs u ∧ Ctab u ∧ 8 ≤ u.heap.size) := fun u hu => by
  rw [← A.out.2.2.2.1] at hu
  exact ⟨A.out.1.below hu (by rw [A.out.2.2.2.1]; exact A.out.2.2.1), A.out.2.1.below hu (by have := A.out.2.2.1; have := A.out.2.2.2.1; omega), by have := hu.size; have := A.out.2.2.1; have := A.out.2.2.2.1; omega⟩
 obtain ⟨i0, hii, hz0, hz1', hz2⟩ := ginfo_parts ginfo5
 obtain ⟨k, hk⟩ : ∃ k, no % 9 = k := ⟨_, rfl⟩
 have r1 : (no : Int) % 9 = (k : Int) := by omega
 have r2 : Int.tmod (no : Int) 9 = (k : Int) := by rw [Int.tmod_eq_emod_of_nonneg (by omega)]; omega
 have bk : (k : Int) < 9 := by omega
 have hk9 : k < 9 := by omega
 have AK : Aside (k < 1000) := (by omega : k < 1000)
 clear s1 hz1 hno hk
 go_enter Tryz.func5, Tryz.ntmps5
 go_upto_region 4 with (first
  | (go_at_call 21; refine hs1.mono ?_; rintro e3 w3 ⟨rfl, b3⟩; have hw1 := AWr1.out w3 b3)
  | (go_at_call 22; refine hw1.mono ?_; intro e6 w6 h6; obtain ⟨xa, xn, xc, ws, he6, hkw, hne1, ho1, hl1, hb1, bb1⟩ := h6.ex; subst he6; have b6 : Below lo w w6 := b3.trans (bb1.mono (by have := b3.size; have := A.out.2.2.2.1; omega)); have hpos : 0 < xn := (by obtain ⟨v0, vt, hv0⟩ := List.exists_cons_of_ne_nil hne1; have := wm_len v0; rw [← hl1, hv0]; simp only [wal, List.flatMap_cons, List.length_append]; omega); have hbig : xn ≤ 100000000000000 := (by omega))
  | (at_builtin; refine wpList_owz rfl (.tmp 24) (.tmp 27) 22 3 rfl i0 Tryz.underlying22 Tryz.underlying3 hii hz0 hz1' hz2 w3.heap.size (.slice xa xn xc) xn (wal ws) (by rfl) ho1 hl1 hpos hbig k AK.out (by first | rfl | go_simp) ?_; intro va c7 w7 hg7))
 have b7 : Below lo w w7 := b6.trans (hg7.bel.mono (by have := b3.size; have := A.out.2.2.2.1; omega))
 obtain ⟨Z, hZ⟩ : ∃ Z, wal ws ++ List.replicate k 0 = Z := ⟨_, rfl⟩
 have hZl : Z.length = xn + k := by rw [← hZ, List.length_append, hl1, List.length_replicate]
 have hoz := hg7.ow
 rw [hZ] at hoz
 have hzO : Oct Z := by rw [← hZ]; exact hkw.wal.append (fun x hx => by have := List.eq_of_mem_replicate hx; omega)
 have hws : ws.length = N1 := by have := congrArg List.length hkw.d; simpa [A.out.2.2.2.2.1.len] using this
 obtain ⟨s, T, q1, q2, q3⟩ := file_run hzO hne1 hkw.ok hZ.symm
 rw [hZl] at q1
 obtain ⟨LN, hLN⟩ : ∃ LN, (ms.map fun m => nmd m.nm) = LN := ⟨_, rfl⟩
 have hopn : opn (sndl T) = LN := by rw [q3, opn_wel ws (fun m hm => (hkw.ok m hm).oc), hkw.n, hLN]
 have hnbe : nbe ((sndl T).map Prod.fst) ≤ 2999 := by rw [q3, nbe_wel ws (fun m hm => (hkw.ok m hm).oc)]; have := hkw.w; have := AM.out.1; omega
 obtain ⟨tb1, tb2, tb3⟩ := ATb.out w7 b7
 have hwh : Calls Tryz.prog 8 #[.slice va (xn + k) c7, .int .i64 3000] w7 fun e w' => ∃ ra rc, e = .returned (.tuple #[.slice ra N1 rc, .int .i64 0]) ∧ Rl w' ra (ms.map Mb.dt) ∧ Below w7.heap.size w7 w' := by
  have := whole_file (C := c7) (N := 3000) tb1 tb2 tb3 (own_lies hoz) hZl (by omega) hkw hne1 k hZ.symm (by have := AM.out.1; omega) (by omega)
  refine this.mono fun e w' q => ?_
  obtain ⟨ra, rc, p1, p2, p3⟩ := q.ex
  rw [List.length_map, A.out.2.2.2.2.1.len] at p1
  exact ⟨ra, rc, p1, p2, p3⟩
 have hg1 := AG1.out
 have AZ : Aside (Rch Z (xn + k) s T ∧ opn (sndl T) = LN ∧ nbe ((sndl T).map Prod.fst) ≤ 2999 ∧ Oct Z ∧ Z.length = xn + k ∧ (ms.map fun m => nmd m.nm) = LN ∧ xn + k ≤ 300006000009) := ⟨q1, hopn, hnbe, hzO, hZl, hLN, by omega⟩
 have A7 : Aside (Below lo w w7 ∧ Lies w7 va Z ∧ lo ≤ w7.heap.size) := ⟨b7, own_lies hoz, by have := b7.size; have := A.out.2.2.2.1; omega⟩
 clear hs1 hw1 h6 b3 bb1 b6 b7 hkw hne1 ho1 hl1 hb1 hpos hbig hg7 hZ hZl hoz hzO hws q1 q2 q3 hLN hopn hnbe tb1 tb2 tb3 hg1 r1 r2 hk9 hii hz0 hz1' hz2
 go_upto_region 5 with (go_at_call 8; refine hwh.mono ?_; rintro e8 w8 ⟨ra, rc, rfl, rl8, b8⟩)
 have bl8 : Below lo w w8 := A7.out.1.trans (b8.mono A7.out.2.2)
 have hg1 := AG1.out w8 bl8
 have A8 : Aside (Below lo w w8 ∧ Rl w8 ra (ms.map Mb.dt) ∧ lo ≤ w8.heap.size ∧ Below w7.heap.size w7 w8) := ⟨bl8, rl8, by have := b8.size; have := A7.out.2.2; omega, b8⟩
 have AO : Aside (∀ l ∈ ms.map Mb.dt, Oct l) := dts_oct A.out.2.2.2.2.1.ok
 clear hwh bl8 rl8 b8
 go_upto_region 7 with (first
  | (go_at_call 23; refine hg1.mono ?_; intro e9 w9 h9; obtain ⟨ga, gc, gs, he9, hgl, hgo, hgv, b9⟩ := h9.ex; subst he9; have bl9 : Below lo w w9 := A8.out.1.trans (b9.mono A8.out.2.2.1); have hrl9 := Vd.rl (hgv.below (show Below w.heap.size w w9 by rw [A.out.2.2.2.1]; exact bl9)) hgo (hgl.trans A.out.2.2.2.2.1.len.symm); have hrw := rows_c w9 ra ga (ms.map Mb.dt) N1 rc gc (by rw [List.length_map]; exact A.out.2.2.2.2.1.len) (by have := AM.out.1; omega) (A8.out.2.1.below b9) hrl9 AO.out)
  | (go_at_call 10; refine hrw.mono ?_; rintro e10 w10 ⟨rfl, k10, hm10⟩; have bl10 : Below lo w w10 := (by rw [hm10]; exact Below.drewN2 bl9 _); have b710 : Below w7.heap.size w7 w10 := (by rw [hm10]; exact Below.drewN2 (A8.out.2.2.2.trans (b9.mono A8.out.2.2.2.size)) _); clear hm10))
 obtain ⟨tb1, tb2, tb3⟩ := ATb.out w10 bl10
 have hnew := wz_new w10 tb1 tb2 tb3
 have A10 : Aside (Below lo w w10 ∧ Below w7.heap.size w7 w10 ∧ lo ≤ w10.heap.size) := ⟨bl10, b710, by have := bl10.size; have := A.out.2.2.2.1; omega⟩
 clear hg1 h9 hgl hgo hgv b9 bl9 hrl9 hrw bl10 b710 tb1 tb2 tb3 AWr1
 obtain ⟨lw, hlw⟩ : ∃ lw, w10.heap.size = lw := ⟨_, rfl⟩
 rw [hlw] at hnew
 go_upto_region 10 with (go_at_call 14; refine hnew.mono ?_; rintro e11 w11 ⟨I, W, A', rfl, z11, b11⟩)
 obtain ⟨hi, hhi⟩ : ∃ hi, W + 1 = hi := ⟨_, rfl⟩
 rw [hhi] at z11
 obtain ⟨D, hD⟩ : ∃ D, I + 3 = D := ⟨_, rfl⟩
 obtain ⟨b, hb⟩ : ∃ b, I + 2 = b := ⟨_, rfl⟩
 obtain ⟨R, hR⟩ : ∃ R, I + 1 = R := ⟨_, rfl⟩
 rw [hD, hb, hR] at z11
 have hwk : hi ≤ w11.heap.size ∧ lw ≤ hi := by obtain ⟨_, _, _, _, _, hk⟩ := z11.wk; exact ⟨hk.hs, by have := hk.g.lW; have := hk.g.hW; omega⟩
 obtain ⟨L, hL⟩ : ∃ L, xn + k = L := ⟨_, rfl⟩
 have hLz : Z.length = L := by rw [← hL]; exact AZ.out.2.2.2.2.1
 have b711 : Below w7.heap.size w7 w11 := A10.out.2.1.trans (b11.mono (by rw [← hlw]; exact A10.out.2.1.size))
 have A11 : Aside (Wz w11 lw hi I D b R W A' s0 [] ∧ hi ≤ w11.heap.size ∧ lw ≤ hi ∧ w7.heap.size ≤ lw ∧ lo ≤ lw ∧ xn + k = L ∧ Z.length = L ∧ L ≤ 300006000009 ∧ Below lo w w11) := ⟨z11, hwk.1, hwk.2, by rw [← hlw]; exact A10.out.2.1.size, by rw [← hlw]; exact A10.out.2.2, hL, hLz, by rw [← hL]; exact AZ.out.2.2.2.2.2.2, A10.out.1.trans (b11.mono (by rw [← hlw]; exact A10.out.2.2))⟩
 have ALz : Aside (∀ u, Below lw w11 u → Lies u va Z) := fun u hu => A7.out.2.1.below (b711.trans (hu.mono A11.out.2.2.2.1))
 have ALm : Aside (∀ u, Below lw w11 u → Below lo w u) := fun u hu => A11.out.2.2.2.2.2.2.2.2.trans (hu.mono A11.out.2.2.2.2.1)
 rw [hL]
 clear hnew z11 b11 hhi hD hb hR hwk hL hLz b711 hlw
 go_wp2_with fail
 go_loopg [9, 10] L (fun gg s9 s10 wr => ∃ n i : Nat, s9 = .int .i64 (n : Int) ∧ s10 = .int .i64 (i : Int) ∧ Aside (i + gg = L ∧ ∃ si P, (∃ Ti, Rch Z i si Ti ∧ sndl Ti = P) ∧ n = (opn P).length ∧ Wz wr lw hi I D b R W A' si [] ∧ Below lw w11 wr))
 case atStart => exact ⟨0, 0, rfl, rfl, ⟨by omega, s0, [], ⟨[], rch_zero Z, rfl⟩, rfl, A11.out.1, Below.refl _ _⟩⟩
 case round =>
  obtain ⟨n, i, rfl, rfl, hT⟩ := hrel
  obtain ⟨hig, si, P, hri, hn, hz, hbel⟩ := hT.out
  by_cases hi' : i < L
  ·have t1 : ((i : Int) < (L : Int)) = True := eq_true (by omega)
   have t2 : (i < L) = True := eq_true hi'
   have a11 := A11.out
   have bi : (i : Int) < 1000000000000 := by omega
   have hrL : Rch Z L s T := by rw [← a11.2.2.2.2.2.1]; exact AZ.out.1
   obtain ⟨h0, hok, hyb, x, s1, E, R', hx, hsp, hri1, hbi, hEl, hyb1⟩ := bs_step AZ.out.2.2.2.1 hrL AZ.out.2.1 AZ.out.2.2.1 hri hi'
   obtain ⟨G, hG⟩ : ∃ G, G = gk := ⟨_, rfl⟩
   subst hG
   have hx8 : x < 256 := AZ.out.2.2.2.1 x (List.mem_of_getElem? hx)
   have hput := wz_put x hx8 wr hz hok h0 hsp (fun _ => by unfold MM; omega)
   rcases ALz.out wr hbel with e | ⟨ga, oa, rfl, hca⟩
   ·rw [e] at hx; simp at hx
   have cg := hca i x hx
   have AN : Aside (i + G = L ∧ i < L ∧ (∃ Ti, Rch Z (i + 1) s1 Ti ∧ sndl Ti = P ++ E) ∧ Bi LN 2999 P (E ++ R') ∧ E.length ≤ 3000 ∧ s1.y.out.length + 1 < MM ∧ n = (opn P).length ∧ Below lw w11 wr) := ⟨hig, hi', hri1, hbi, by omega, by unfold MM; omega, hn, hbel⟩
   clear hT hig hri hn hz hbel hi' a11 hrL h0 hok hyb hsp hri1 hbi hEl hyb1 hx hx8 hca
   go_upto_region 14 with (go_at_call 15; refine hput.mono ?_; rintro e12 w12 ⟨rfl, z12, f12⟩)
   obtain ⟨ek, eb, en, S, ok, rem, hnx, hnb⟩ := nx_b z12 AN.out.2.2.2.2.2.1
   have A12 : Aside (Below lw w11 w12 ∧ lw ≤ w12.heap.size ∧ Nb lw hi I D b R W A' s1 E rem ek eb en S ok) := by
    have hs : lw ≤ wr.heap.size := by have := AN.out.2.2.2.2.2.2.2.size; have := A11.out.2.1; have := A11.out.2.2.1; omega
    exact ⟨AN.out.2.2.2.2.2.2.2.trans (f12.below hs), by have := f12.size; omega, hnb⟩
   clear hput z12 f12 hnb cg t1 t2
   go_upto_region 15 with (go_at_call 20; refine hnx.mono ?_; rintro e13 w13 ⟨rfl, z13, f13⟩)
   obtain ⟨Hx, hHx⟩ : ∃ Hx, w13.heap.size = Hx := ⟨_, rfl⟩
   obtain ⟨w14, hw14⟩ : ∃ w14, w13.alloc (.cells #[.int .i64 ek, .int .u8 eb, .int .i64 en, .int .i64 0, .string S] 43) = w14 := ⟨_, rfl⟩
   rw [hw14, hHx]
   have b14 : Below w13.heap.size w13 w14 := by rw [← hw14]; exact (Below.refl _ w13).alloc (Nat.le_refl _) _
   have hhs : hi ≤ w13.heap.size := by obtain ⟨_, _, _, _, _, hk⟩ := z13.wk; exact hk.hs
   have bl14 : Below lw w11 w14 := (A12.out.1.trans (f13.below A12.out.2.1)).trans (b14.mono (by have := A11.out.2.2.1; omega))
   have hib : Ib lw hi I D b R W A' s1 LN R' (P ++ E) w11 w14 Hx n ok ek eb en S rem := by
    refine ⟨z13.below b14 (Nat.le_refl _), by rw [← hw14, ← hHx]; exact Cells.new w13 _ 43, by rw [← hHx]; exact hhs, bl14, ?_⟩
    have an := AN.out
    rcases A12.out.2.2.cs with ⟨q1, q2, q3⟩ | ⟨q1, e, q2, q3, q4, q5⟩
    ·exact Or.inl ⟨q1, q3, by rw [q2, List.append_nil]; exact an.2.2.2.2.2.2.1⟩
    ·refine Or.inr ⟨q1, e, P, q3, q4, q5, an.2.2.2.2.2.2.1, by rw [q2], ?_⟩
     have := an.2.2.2.1
     rw [q2] at this
     exact this
   have hrl : rem.length + ok.toNat = E.length := by
    rcases A12.out.2.2.cs with ⟨q1, q2, q3⟩ | ⟨q1, e, q2, _⟩
    ·rw [q1, q2, q3]; rfl
    ·rw [q1, q2]; rfl
   have A14 : Aside (Ib lw hi I D b R W A' s1 LN R' (P ++ E) w11 w14 Hx n ok ek eb en S rem ∧ rem.length + ok.toNat ≤ 3000) := ⟨hib, by rw [hrl]; exact AN.out.2.2.2.2.1⟩
   clear hnx z13 f13 b14 hhs bl14 hib hrl hw14 hHx
   go_wp2_with fail
   go_loopg [9, 12, 13] (rem.length + ok.toNat) (fun gg s9 s12 s13 wq => ∃ (n j : Nat) (ok : Bool), s9 = .int .i64 (n : Int) ∧ s12 = .bool ok ∧ s13 = .int .i64 (j : Int) ∧ Aside (∃ ek eb en S rem, Ib lw hi I D b R W A' s1 LN R' (P ++ E) w11 wq Hx n ok ek eb en S rem ∧ gg = rem.length + ok.toNat ∧ j + gg ≤ 3000))
   case atStart => exact ⟨n, 0, ok, rfl, rfl, rfl, ⟨ek, eb, en, S, rem, A14.out.1, rfl, by have := A14.out.2; omega⟩⟩
   case round =>
    obtain ⟨n, j, ok, rfl, rfl, rfl, hT⟩ := hrel
    obtain ⟨ek, eb, en, S, rem, hib, hgk2, hj⟩ := hT.out
    cases ok with
    | false =>
     have hst : n = (opn (P ++ E)).length ∧ rem = [] := by
      rcases hib.st with ⟨_, q2, q3⟩ | ⟨q1, _⟩
      ·exact ⟨q3, q2⟩
      ·cases q1
     have hwz := hib.wz
     rw [hst.2] at hwz
     have A15 : Aside (n = (opn (P ++ E)).length ∧ Wz wr lw hi I D b R W A' s1 [] ∧ Below lw w11 wr) := ⟨hst.1, hwz, hib.bel⟩
     clear hT hib hgk2 hj hst hwz
     go_wp2_with fail
     have an := AN.out
     obtain ⟨p1, p2, p3⟩ := A15.out
     go_roundg (G - 1)
     case measure => omega
     case rel => exact ⟨n, i + 1, rfl, by go_num, ⟨by omega, s1, P ++ E, an.2.2.1, p1, p2, p3⟩⟩
    | true =>
     obtain ⟨e, Pp, q1, q2, q3, q4, q5, q6⟩ : ∃ e Pp, ek = gk1 e.1 ∧ en = gk3 e.1 ∧ S = st e.2 ∧ n = (opn Pp).length ∧ Pp ++ e :: rem = P ++ E ∧ Bi LN 2999 Pp (e :: (rem ++ R')) := by
      rcases hib.st with ⟨q1, _⟩ | ⟨_, e, Pp, q⟩
      ·cases q1
      ·exact ⟨e, Pp, q⟩
     have hj2 : j < 3000 := by rw [hgk2] at hj; simp at hj; omega
     have j1 : ((j : Int) < 3000) = True := eq_true (by omega)
     have j2 : (j < 3000) = True := eq_true hj2
     have bj : (j : Int) < 3000 := by omega
     have hszr : lw ≤ wr.heap.size := by have := hib.bel.size; have := A11.out.2.1; have := A11.out.2.2.1; omega
     have c0 : wr.cell? ⟨Hx, 0, none⟩ = some (.int .i64 ek) := (hib.cel.cell 0).trans rfl
     have c2 : wr.cell? ⟨Hx, 2, none⟩ = some (.int .i64 en) := (hib.cel.cell 2).trans rfl
     have c4 : wr.cell? ⟨Hx, 4, none⟩ = some (.string S) := (hib.cel.cell 4).trans rfl
     by_cases h256 : e.1 = 256
     ·obtain ⟨g1, g2⟩ := q6.at h256
      rw [← q4] at g1 g2
      have hek : ek = 1 := by rw [q1, h256]; rfl
      have hen : en = 2 := by rw [q2, h256]; rfl
      obtain ⟨m, hm, hmn⟩ : ∃ m, ms[n]? = some m ∧ nmd m.nm = e.2 := by
       rw [← AZ.out.2.2.2.2.2.1, List.getElem?_map] at g1
       cases hq : ms[n]? with
       | none => rw [hq] at g1; simp at g1
       | some m => rw [hq] at g1; simp at g1; exact ⟨m, rfl, g1⟩
      have hnN : n < N1 := by have := (List.getElem?_eq_some_iff.1 hm).1; have := A.out.2.2.2.2.1.len; omega
      have mo := A.out.2.2.2.2.1.ok m (List.mem_of_getElem? hm)
      obtain ⟨gm, om, ea, ec, da, dc, pa, pc, rfl, hl0⟩ := (A.out.2.2.2.2.1.lm.below (show Below w.heap.size w wr by rw [A.out.2.2.2.1]; exact ALm.out wr hib.bel)).at hm
      obtain ⟨Sm, hSm⟩ : ∃ Sm, st m.nm = Sm := ⟨_, rfl⟩
      have cm : wr.cell? ⟨gm, om + n * 5, none⟩ = some (.string Sm) := by rw [← hSm]; exact hl0.c0
      have hnm : ∀ u : World, Calls Tryz.prog 24 #[.string Sm] u fun e w' => e = .returned (.string S) ∧ Below u.heap.size u w' := fun u => by
       have := named_c m.nm mo.nm mo.nl u
       rw [hmn, ← q3, hSm] at this
       exact this
      have ANm : Aside _ := hnm
      have n1 : ((n : Int) ≥ (N1 : Int)) = False := eq_false (by omega)
      have n2 : ((N1 : Int) ≤ (n : Int)) = False := eq_false (by omega)
      have n3 : (N1 ≤ n) = False := eq_false (by omega)
      have n4 : ((n : Int) < (N1 : Int)) = True := eq_true (by omega)
      have n5 : (n < N1) = True := eq_true hnN
      have bn : (n : Int) < 3000 := by have := AM.out.1; omega
      have hSS : (S.toList == S.toList) = true := by simp
      subst hek hen
      have AI : Aside (Ib lw hi I D b R W A' s1 LN R' (P ++ E) w11 wr Hx n true 1 eb 2 S rem ∧ Pp ++ e :: rem = P ++ E ∧ Bi LN 2999 (Pp ++ [e]) (rem ++ R') ∧ n + 1 = (opn (Pp ++ [e])).length ∧ gk = rem.length + 1 ∧ j + gk ≤ 3000 ∧ lw ≤ wr.heap.size) := ⟨hib, q5, q6.next, g2.symm, hgk2, hj, hszr⟩
      clear hT hib hgk2 hj q1 q2 q3 q4 q5 q6 hj2 hszr h256 g1 g2 hm hmn hnN mo hl0 hSm hnm
      go_upto_region 19 with fail
      go_cut [95] (fun s wd => s = .bool false ∧ Below wr.heap.size wr wd)
      case first =>
       refine wp_region_held_drew (S := fun u => u.cell? ⟨Hx, 2, none⟩ = some (.int .i64 2) ∧ u.cell? ⟨Hx, 4, none⟩ = some (.string S) ∧ u.cell? ⟨gm, om + n * 5, none⟩ = some (.string Sm)) (by kernel_rfl) ⟨c2, c4, cm⟩ (fun hHeld => ?_)
       refine wpAnyH_take (i := 0) (oi := ⟨_, _, _, _, _, _⟩) (v := ?_) rfl (by kernel_rfl) (by kernel_rfl) (by kernel_rfl) (fun _ _ _ h => h) (Or.inl ⟨by rfl, ?_⟩) hHeld ?_
       rotate_left
       ·(intro w9 hSw; (try dsimp only at hSw); obtain ⟨q0, q1, q2⟩ := hSw; go_simp; try (with_reducible rfl))
       try simp only [Act.put, List.setIfInBounds_toArray, List.set_cons_zero, List.set_cons_succ]
       refine wpAnyH_take (i := 1) (oi := ⟨_, _, _, _, _, _⟩) (v := ?_) rfl (by kernel_rfl) (by kernel_rfl) (by kernel_rfl) (fun _ _ _ h => h) (Or.inl ⟨by rfl, ?_⟩) hHeld ?_
       rotate_left
       ·(intro w9 hSw; (try dsimp only at hSw); obtain ⟨q0, q1, q2⟩ := hSw; go_simp; try (with_reducible rfl))
       try simp only [Act.put, List.setIfInBounds_toArray, List.set_cons_zero, List.set_cons_succ]
       refine wpAnyH_take (i := 2) (oi := ⟨_, _, _, _, _, _⟩) (v := ?_) rfl (by kernel_rfl) (by kernel_rfl) (by kernel_rfl) (fun _ _ _ h => h) (Or.inl ⟨by rfl, ?_⟩) hHeld ?_
       rotate_left
       ·(intro w9 hSw; (try dsimp only at hSw); obtain ⟨q0, q1, q2⟩ := hSw; go_simp; try (with_reducible rfl))
       try simp only [Act.put, List.setIfInBounds_toArray, List.set_cons_zero, List.set_cons_succ]
       refine wpAnyH_take (i := 3) (oi := ⟨_, _, _, _, _, _⟩) (v := ?_) rfl (by kernel_rfl) (by kernel_rfl) (by kernel_rfl) (fun _ _ _ h => h) (Or.inl ⟨by rfl, ?_⟩) hHeld ?_
       rotate_left
       ·(intro w9 hSw; (try dsimp only at hSw); obtain ⟨q0, q1, q2⟩ := hSw; go_simp; try (with_reducible rfl))
       try simp only [Act.put, List.setIfInBounds_toArray, List.set_cons_zero, List.set_cons_succ]
       refine wpAnyH_take (i := 4) (oi := ⟨_, _, _, _, _, _⟩) (v := ?_) rfl (by kernel_rfl) (by kernel_rfl) (by kernel_rfl) (fun _ _ _ h => h) (Or.inl ⟨by rfl, ?_⟩) hHeld ?_
       rotate_left
       ·(intro w9 hSw; (try dsimp only at hSw); obtain ⟨q0, q1, q2⟩ := hSw; go_simp; try (with_reducible rfl))
       try simp only [Act.put, List.setIfInBounds_toArray, List.set_cons_zero, List.set_cons_succ]
       refine wpAnyH_take (i := 5) (oi := ⟨_, _, _, _, _, _⟩) (v := ?_) rfl (by kernel_rfl) (by kernel_rfl) (by kernel_rfl) (fun _ _ _ h => h) (Or.inl ⟨by rfl, ?_⟩) hHeld ?_
       rotate_left
       ·(intro w9 hSw; (try dsimp only at hSw); obtain ⟨q0, q1, q2⟩ := hSw; go_simp; try (with_reducible rfl))
       try simp only [Act.put, List.setIfInBounds_toArray, List.set_cons_zero, List.set_cons_succ]
       refine wpAnyH_take (i := 6) (oi := ⟨_, _, _, _, _, _⟩) (v := ?_) rfl (by kernel_rfl) (by kernel_rfl) (by kernel_rfl) (fun _ _ _ h => h) (Or.inl ⟨by rfl, ?_⟩) hHeld ?_
       rotate_left
       ·(intro w9 hSw; (try dsimp only at hSw); obtain ⟨q0, q1, q2⟩ := hSw; go_simp; try (with_reducible rfl))
       try simp only [Act.put, List.setIfInBounds_toArray, List.set_cons_zero, List.set_cons_succ]
       refine wpAnyH_take (i := 7) (oi := ⟨_, _, _, _, _, _⟩) (v := ?_) rfl (by kernel_rfl) (by kernel_rfl) (by kernel_rfl) (fun _ _ _ h => h) (Or.inl ⟨by rfl, ?_⟩) hHeld ?_
       rotate_left
       ·(intro w9 hSw; (try dsimp only at hSw); obtain ⟨q0, q1, q2⟩ := hSw; go_simp; try (with_reducible rfl))
       try simp only [Act.put, List.setIfInBounds_toArray, List.set_cons_zero, List.set_cons_succ]
       refine wpAnyH_take (i := 8) (oi := ⟨_, _, _, _, _, _⟩) (v := ?_) rfl (by kernel_rfl) (by kernel_rfl) (by kernel_rfl) (fun _ _ _ h => h) (Or.inl ⟨by rfl, ?_⟩) hHeld ?_
       rotate_left
       ·(intro w9 hSw; (try dsimp only at hSw); obtain ⟨q0, q1, q2⟩ := hSw; go_simp; try (with_reducible rfl))
       try simp only [Act.put, List.setIfInBounds_toArray, List.set_cons_zero, List.set_cons_succ]
       refine wpAnyH_take (i := 9) (oi := ⟨_, _, _, _, _, _⟩) (v := ?_) rfl (by kernel_rfl) (by kernel_rfl) (by kernel_rfl) (fun _ _ _ h => h) (Or.inl ⟨by rfl, ?_⟩) hHeld ?_
       rotate_left
       ·(intro w9 hSw; (try dsimp only at hSw); obtain ⟨q0, q1, q2⟩ := hSw; go_simp; try (with_reducible rfl))
       try simp only [Act.put, List.setIfInBounds_toArray, List.set_cons_zero, List.set_cons_succ]
       refine wpAnyH_take (i := 10) (oi := ⟨_, _, _, _, _, _⟩) (v := ?_) rfl (by kernel_rfl) (by kernel_rfl) (by kernel_rfl) (fun _ _ _ h => h) (Or.inl ⟨by rfl, ?_⟩) hHeld ?_
       rotate_left
       ·(intro w9 hSw; (try dsimp only at hSw); obtain ⟨q0, q1, q2⟩ := hSw; go_simp; try (with_reducible rfl))
       try simp only [Act.put, List.setIfInBounds_toArray, List.set_cons_zero, List.set_cons_succ]
       refine wpAnyH_take (i := 11) (oi := ⟨_, _, _, _, _, _⟩) (v := ?_) rfl (by kernel_rfl) (by kernel_rfl) (by kernel_rfl) (fun _ _ _ h => h) (Or.inl ⟨by rfl, ?_⟩) hHeld ?_
       rotate_left
       ·(intro w9 hSw; (try dsimp only at hSw); obtain ⟨q0, q1, q2⟩ := hSw; go_simp; try (with_reducible rfl))
       try simp only [Act.put, List.setIfInBounds_toArray, List.set_cons_zero, List.set_cons_succ]
       refine wpAnyH_ready (rs := [12]) (by kernel_rfl) (by simp) ?_
       refine AllReadyH.cons (o := ⟨_, _, _, _, _, _⟩) rfl (fun K hK => ?_) AllReadyH.nil
       go_simp
       go_at_call 24
       refine (ANm.out _).mono ?_
       rintro e17 w17 ⟨rfl, b17⟩
       dsimp only
       have D17 : w17.cell? ⟨Hx, 2, none⟩ = some (.int .i64 2) ∧ w17.cell? ⟨Hx, 4, none⟩ = some (.string S) ∧ w17.cell? ⟨gm, om + n * 5, none⟩ = some (.string Sm) := ⟨(b17.cell (p := ⟨Hx, 2, none⟩) (World.block_lt_of_cell? wr _ c2)).trans c2, (b17.cell (p := ⟨Hx, 4, none⟩) (World.block_lt_of_cell? wr _ c4)).trans c4, (b17.cell (p := ⟨gm, om + n * 5, none⟩) (World.block_lt_of_cell? wr _ cm)).trans cm⟩
       refine hK.out _ _ D17 (fun hH17 => ?_)
       clear hK K
       try simp only [Act.put, List.setIfInBounds_toArray, List.set_cons_zero, List.set_cons_succ]
       refine wpAnyH_take (i := 13) (oi := ⟨_, _, _, _, _, _⟩) (v := ?_) rfl (by kernel_rfl) (by kernel_rfl) (by kernel_rfl) (fun _ _ _ h => h) (Or.inl ⟨by rfl, ?_⟩) hH17 ?_
       rotate_left
       ·(intro w9 hSw; (try dsimp only at hSw); obtain ⟨q0, q1, q2⟩ := hSw; go_simp; try (with_reducible rfl))
       try simp only [Act.put, List.setIfInBounds_toArray, List.set_cons_zero, List.set_cons_succ]
       refine wpAnyH_take (i := 14) (oi := ⟨_, _, _, _, _, _⟩) (v := ?_) rfl (by kernel_rfl) (by kernel_rfl) (by kernel_rfl) (fun _ _ _ h => h) (Or.inl ⟨by rfl, ?_⟩) hH17 ?_
       rotate_left
       ·(intro w9 hSw; (try dsimp only at hSw); obtain ⟨q0, q1, q2⟩ := hSw; go_simp; try (with_reducible rfl))
       try simp only [Act.put, List.setIfInBounds_toArray, List.set_cons_zero, List.set_cons_succ]
       refine wpAnyH_take (i := 15) (oi := ⟨_, _, _, _, _, _⟩) (v := ?_) rfl (by kernel_rfl) (by kernel_rfl) (by kernel_rfl) (fun _ _ _ h => h) (Or.inl ⟨by rfl, ?_⟩) hH17 ?_
       rotate_left
       ·(intro w9 hSw; (try dsimp only at hSw); obtain ⟨q0, q1, q2⟩ := hSw; go_simp; try (with_reducible rfl))
       try simp only [Act.put, List.setIfInBounds_toArray, List.set_cons_zero, List.set_cons_succ]
       refine wpAnyH_take (i := 16) (oi := ⟨_, _, _, _, _, _⟩) (v := ?_) rfl (by kernel_rfl) (by kernel_rfl) (by kernel_rfl) (fun _ _ _ h => h) (Or.inl ⟨by rfl, ?_⟩) hH17 ?_
       rotate_left
       ·(intro w9 hSw; (try dsimp only at hSw); obtain ⟨q0, q1, q2⟩ := hSw; go_simp; try (with_reducible rfl))
       try simp only [Act.put, List.setIfInBounds_toArray, List.set_cons_zero, List.set_cons_succ]
       refine wpAnyH_take (i := 17) (oi := ⟨_, _, _, _, _, _⟩) (v := ?_) rfl (by kernel_rfl) (by kernel_rfl) (by kernel_rfl) (fun _ _ _ h => h) (Or.inl ⟨by rfl, ?_⟩) hH17 ?_
       rotate_left
       ·(intro w9 hSw; (try dsimp only at hSw); obtain ⟨q0, q1, q2⟩ := hSw; go_simp; try (with_reducible rfl))
       try simp only [Act.put, List.setIfInBounds_toArray, List.set_cons_zero, List.set_cons_succ]
       refine wpAnyH_take (i := 18) (oi := ⟨_, _, _, _, _, _⟩) (v := ?_) rfl (by kernel_rfl) (by kernel_rfl) (by kernel_rfl) (fun _ _ _ h => h) (Or.inl ⟨by rfl, ?_⟩) hH17 ?_
       rotate_left
       ·(intro w9 hSw; (try dsimp only at hSw); obtain ⟨q0, q1, q2⟩ := hSw; go_simp; try (with_reducible rfl))
       try simp only [Act.put, List.setIfInBounds_toArray, List.set_cons_zero, List.set_cons_succ]
       refine wpAnyH_take (i := 19) (oi := ⟨_, _, _, _, _, _⟩) (v := ?_) rfl (by kernel_rfl) (by kernel_rfl) (by kernel_rfl) (fun _ _ _ h => h) (Or.inl ⟨by rfl, ?_⟩) hH17 ?_
       rotate_left
       ·(intro w9 hSw; (try dsimp only at hSw); obtain ⟨q0, q1, q2⟩ := hSw; go_simp; try (with_reducible rfl))
       try simp only [Act.put, List.setIfInBounds_toArray, List.set_cons_zero, List.set_cons_succ]
       refine wpAnyH_done (by kernel_rfl) ?_ _
       (try dsimp only [Exit.then])
       have A17 : Aside (Below wr.heap.size wr w17) := (Below.drewN2 (Below.refl _ wr) 1).trans b17
       clear b17 D17 hHeld hH17
       go_wp2_with fail
       go_meet
       exact ⟨rfl, A17.out⟩
      case rest =>
      obtain ⟨rfl, b18⟩ := hcut
      have ai := AI.out
      have AB : Aside (Wz wc lw hi I D b R W A' s1 rem ∧ Cells wc Hx #[.int .i64 1, .int .u8 eb, .int .i64 2, .int .i64 0, .string S] 43 ∧ hi ≤ Hx ∧ lw ≤ hi ∧ Below lw w11 wc ∧ lw ≤ wc.heap.size ∧ n + 1 = (opn (Pp ++ [e])).length ∧ Pp ++ e :: rem = P ++ E ∧ Bi LN 2999 (Pp ++ [e]) (rem ++ R') ∧ gk = rem.length + 1 ∧ j + gk ≤ 3000) := ⟨ai.1.wz.below b18 (Nat.le_refl _), Cells.below (u := wc) ai.1.cel b18 ai.1.cel.lt, ai.1.hH, A11.out.2.2.1, ai.1.bel.trans (b18.mono ai.2.2.2.2.2.2), by have := b18.size; have := ai.2.2.2.2.2.2; omega, ai.2.2.2.1, ai.2.1, ai.2.2.1, ai.2.2.2.2.1, ai.2.2.2.2.2.1⟩
      clear ai b18 c0 c2 c4 cm
      obtain ⟨ek2, eb2, en2, S2, ok2, rem2, hnx, hnb⟩ := nx_b (w := wc) (rem := rem) AB.out.1 AN.out.2.2.2.2.2.1
      have AX : Aside (Nb lw hi I D b R W A' s1 rem rem2 ek2 eb2 en2 S2 ok2) := hnb
      clear hnb
      go_wp2_with (go_at_call 20; refine hnx.mono ?_; rintro e16 w16 ⟨rfl, z16, f16⟩; obtain ⟨kk, T16⟩ := Ib.next (P := Pp) (e := e) (n := (n + 1)) z16 AB.out.2.1 AB.out.2.2.1 AB.out.2.2.2.1 AB.out.2.2.2.2.1 AB.out.2.2.2.2.2.1 f16 AX.out AB.out.2.2.2.2.2.2.1 AB.out.2.2.2.2.2.2.2.1 AB.out.2.2.2.2.2.2.2.2.1; have g0 := kk.cell 0; have g1 := kk.cell 1; have g2 := kk.cell 2; have g3 := kk.cell 3; have g4 := kk.cell 4; have y0 := kk.frozen 0; have y1 := kk.frozen 1; have y2 := kk.frozen 2; have y3 := kk.frozen 3; have y4 := kk.frozen 4)
      have ab := AB.out.2.2.2.2.2.2.2.2.2
      have t16 := T16.out
      go_roundg (rem2.length + ok2.toNat)
      case measure => omega
      case rel => exact ⟨(n + 1), j + 1, ok2, by first | rfl | go_num, rfl, by go_num, ⟨ek2, eb2, en2, S2, rem2, t16.1, rfl, by omega⟩⟩
     ·have hnn := Bi.no (P := Pp) h256
      rw [← q4] at hnn
      have hk1 : (ek == 1) = false := by
       rw [q1]
       unfold gk1
       rw [if_neg h256]
       split <;> rfl
      have AB : Aside (Wz wr lw hi I D b R W A' s1 rem ∧ Cells wr Hx #[.int .i64 ek, .int .u8 eb, .int .i64 en, .int .i64 0, .string S] 43 ∧ hi ≤ Hx ∧ lw ≤ hi ∧ Below lw w11 wr ∧ lw ≤ wr.heap.size ∧ n = (opn (Pp ++ [e])).length ∧ Pp ++ e :: rem = P ++ E ∧ Bi LN 2999 (Pp ++ [e]) (rem ++ R') ∧ gk = rem.length + 1 ∧ j + gk ≤ 3000) := ⟨hib.wz, hib.cel, hib.hH, A11.out.2.2.1, hib.bel, hszr, hnn.symm, q5, q6.next, hgk2, hj⟩
      clear hT hib hgk2 hj q1 q2 q3 q4 q5 q6 hj2 hszr h256 hnn c2 c4
      obtain ⟨ek2, eb2, en2, S2, ok2, rem2, hnx, hnb⟩ := nx_b (w := wr) (rem := rem) AB.out.1 AN.out.2.2.2.2.2.1
      have AX : Aside (Nb lw hi I D b R W A' s1 rem rem2 ek2 eb2 en2 S2 ok2) := hnb
      clear hnb
      go_wp2_with (go_at_call 20; refine hnx.mono ?_; rintro e16 w16 ⟨rfl, z16, f16⟩; obtain ⟨kk, T16⟩ := Ib.next (P := Pp) (e := e) (n := n) z16 AB.out.2.1 AB.out.2.2.1 AB.out.2.2.2.1 AB.out.2.2.2.2.1 AB.out.2.2.2.2.2.1 f16 AX.out AB.out.2.2.2.2.2.2.1 AB.out.2.2.2.2.2.2.2.1 AB.out.2.2.2.2.2.2.2.2.1; have g0 := kk.cell 0; have g1 := kk.cell 1; have g2 := kk.cell 2; have g3 := kk.cell 3; have g4 := kk.cell 4; have y0 := kk.frozen 0; have y1 := kk.frozen 1; have y2 := kk.frozen 2; have y3 := kk.frozen 3; have y4 := kk.frozen 4)
      have ab := AB.out.2.2.2.2.2.2.2.2.2
      have t16 := T16.out
      go_roundg (rem2.length + ok2.toNat)
      case measure => omega
      case rel => exact ⟨n, j + 1, ok2, by first | rfl | go_num, rfl, by go_num, ⟨ek2, eb2, en2, S2, rem2, t16.1, rfl, by omega⟩⟩
  ·have t1 : ((i : Int) < (L : Int)) = False := eq_false (by omega)
   have t2 : (i < L) = False := eq_false hi'
   obtain rfl : i = L := by have := hri; obtain ⟨Ti, h1, _⟩ := this; have := h1.1; have := A11.out.2.2.2.2.2.2.1; omega
   have hnN : n = N1 := by
    obtain ⟨Ti, h1, h2⟩ := hri
    have hrL : Rch Z i s T := by rw [← A11.out.2.2.2.2.2.1]; exact AZ.out.1
    obtain ⟨_, rfl⟩ := h1.det hrL
    rw [hn, ← h2, AZ.out.2.1, ← AZ.out.2.2.2.2.2.1, List.length_map, A.out.2.2.2.2.1.len]
   subst hnN
   have blr : Below lo w wr := ALm.out wr hbel
   have ha := AW.out wr blr
   have AE : Aside (Below lo w wr ∧ lo ≤ wr.heap.size) := ⟨blr, by have := blr.size; have := A.out.2.2.2.1; omega⟩
   have hNN : ((n : Int) == (n : Int)) = true := by simp
   clear hT hig hri hn hz hbel hi' blr
   go_wp2_with (go_at_call 13; refine ha.mono ?_; rintro e20 w20 ⟨rfl, b20⟩)
   first | go_ret | go_ret2
   exact ⟨rfl, AE.out.1.trans (b20.mono AE.out.2)⟩
end Go.Proofs.YtogednaamndpgaaGreatDoor

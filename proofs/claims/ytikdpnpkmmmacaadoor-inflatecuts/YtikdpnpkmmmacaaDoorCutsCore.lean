/-
  InflateCuts' call: of a beginning of what the document's Deflate lays a beginning of the text is given, and that it is cut off.
-/
import Derived.Test.YtikdpnpkmmmacaaDoorMs
import Derived.Test.YtikdpnpkmmmacaaDoorMzb
namespace Go.Proofs.YtikdpnpkmmmacaaDoor
open Go.RowKit
set_option linter.unusedVariables false
theorem cut_st {N k : Nat} {z l : List Nat} (h : Holds N z l) (hk : k < z.length) {c : Cfg} (hc : Stands (z.take k) N c) : c.out <+: l ∧ min (atC k c + 1) k = k ∧ whyC c = 1 := by
  obtain ⟨h1, h2, h3⟩ := h.cut hk hc
  refine ⟨h1, ?_, ?_⟩
  · unfold atC
    split
    · rename_i y hy; exact absurd hy (h3 y)
    · rename_i hy; exact absurd hy h2
    · omega
  · unfold whyC
    split
    · rename_i y hy; exact absurd hy (h3 y)
    · rename_i hy; exact absurd hy h2
    · rfl
theorem Lies.first {w : World} {a : Option Addr} {l : List Nat} (h : Lies w a l) (k : Nat) : Lies w a (l.take k) := by
  rcases h with rfl | ⟨b, o, ha, hc⟩
  · exact Or.inl (List.take_nil)
  · refine Or.inr ⟨b, o, ha, fun i x hx => hc i x ?_⟩
    rw [List.getElem?_take] at hx
    split at hx
    · exact hx
    · cases hx
theorem Holds.pos {N : Nat} {z l : List Nat} (h : Holds N z l) : 0 < z.length := by
  obtain ⟨x, pad, h1, h2, h3, h4⟩ := h.bits
  have hl : 8 * z.length = x.length + pad.length := by rw [← allb_len, h1, List.length_append]
  omega
set_option maxRecDepth 100000 in
set_option maxHeartbeats 4000000 in
theorem cuts_core (w : World) (ht : Tabs w) (a : Option Addr) (l : List Nat) (L C : Nat) (hl : Lies w a l) (hL : l.length = L) (hLC : L ≤ C) (hCb : C ≤ 140737488355328) (hna : a = none → L = 0 ∧ C = 0) (ho : Oct l) (b : Option Addr) (ps : List Pb) (P pc : Nat) (hps : Plan w b ps) (hP : ps.length = P) (hPb : P ≤ 9223372036854775807) (hpb : ∀ p ∈ ps, p.kd < 256 ∧ p.by_ < 65536) (n : Nat) (hn : n < 65536) :
    Calls Tryd.prog 8 #[.slice a L C, .slice b P pc, .int .u16 (n : Int)] w fun e w' => e = .returned (.bool true) ∧ Below w.heap.size w w' := by
  have hLi : (L : Int) ≤ 140737488355328 := by omega
  have hPi : (P : Int) ≤ 9223372036854775807 := by omega
  have hni : (n : Int) < 65536 := by omega
  by_cases hbig : 5000 < L
  · have t1 : ((5000 : Int) < (L : Int)) = True := eq_true (by omega)
    have t1' : (5000 < L) = True := eq_true hbig
    have haw := awake_c w ht
    clear ht hl hL hLC hCb ho hps hP hPb hpb hna hn hbig
    go_enter Tryd.func8, Tryd.ntmps8
    go_wp2_with (go_at_call 13; refine haw.mono ?_; rintro e1 w1 ⟨rfl, hb1⟩)
    go_ret
    exact ⟨rfl, hb1⟩
  have t1 : ((5000 : Int) < (L : Int)) = False := eq_false (by omega)
  have t1' : (5000 < L) = False := eq_false hbig
  by_cases hbig2 : 200 < P
  · have t2 : ((200 : Int) < (P : Int)) = True := eq_true (by omega)
    have t2' : (200 < P) = True := eq_true hbig2
    have haw := awake_c w ht
    clear ht hl hL hLC hCb ho hps hP hPb hpb hna hn hbig hbig2
    go_enter Tryd.func8, Tryd.ntmps8
    go_wp2_with (go_at_call 13; refine haw.mono ?_; rintro e1 w1 ⟨rfl, hb1⟩)
    go_ret
    exact ⟨rfl, hb1⟩
  have t2 : ((200 : Int) < (P : Int)) = False := eq_false (by omega)
  have t2' : (200 < P) = False := eq_false hbig2
  obtain ⟨N, hN⟩ : ∃ N, L + 9 = N := ⟨_, rfl⟩
  have hNi : (L : Int) + 9 = (N : Int) := by omega
  have hdf := deflate_c N w a l L C hl hL (by omega) ho b ps P pc hps hP (by omega) hpb (by have := ht.lt; omega) (by omega)
  obtain ⟨H, hH⟩ : ∃ H, w.heap.size = H := ⟨_, rfl⟩
  have A : Aside (Lies w a l ∧ l.length = L ∧ L ≤ 5000 ∧ Oct l ∧ Tabs w ∧ L ≤ C ∧ C ≤ 140737488355328 ∧ L + 9 = N ∧ (a = none → L = 0 ∧ C = 0) ∧ w.heap.size = H ∧ 7 ≤ H) := ⟨hl, hL, by omega, ho, ht, hLC, hCb, hN, hna, hH, by have := ht.lt; omega⟩
  have hLi5 : (L : Int) ≤ 5000 := by omega
  clear ht hl hL hLC hCb ho hps hP hPb hpb hna hN hbig hbig2 hn
  go_enter Tryd.func8, Tryd.ntmps8
  go_upto_region 4 with (go_at_call 21; refine hdf.mono ?_; rintro e1 w1 ⟨v1, z, rfl, hob1, hholds, hoz, hzl, hb1⟩)
  obtain ⟨za, zc, hzv, hzc, hzlies, hzn⟩ := hob1.shape
  obtain ⟨Z, hZ⟩ : ∃ Z, z.length = Z := ⟨_, rfl⟩
  have hZp : 0 < Z := by rw [← hZ]; exact hholds.pos
  rw [hZ] at hzv hzc hzn hzl
  subst hzv
  obtain ⟨zb, zo, rfl⟩ : ∃ zb zo, za = some ⟨zb, zo, none⟩ := by
    rcases hzlies with e | ⟨zb, zo, e, _⟩
    · rw [e] at hZ; simp at hZ; omega
    · exact ⟨zb, zo, e⟩
  obtain ⟨k, hk⟩ : ∃ k, n % Z = k := ⟨_, rfl⟩
  have hkZ : k < Z := by rw [← hk]; exact Nat.mod_lt _ hZp
  obtain ⟨k2, hk2⟩ : ∃ k2, k / 2 = k2 := ⟨_, rfl⟩
  have hk2k : k2 ≤ k := by omega
  have q1 : (n : Int) % (Z : Int) = (k : Int) := by rw [← hk]; exact (Int.natCast_emod n Z).symm
  have q1' : Int.tmod (n : Int) (Z : Int) = (k : Int) := by rw [← hk]; exact (Int.ofNat_tmod n Z).symm
  have q2 : ((Z : Int) = 0) = False := eq_false (by omega)
  have q2' : (Z = 0) = False := eq_false (by omega)
  have q3 : (k : Int) / 2 = (k2 : Int) := by omega
  have q3' : Int.tdiv (k : Int) 2 = (k2 : Int) := by rw [← hk2]; exact (Int.ofNat_tdiv k 2).symm
  have q4 : (k : Int) ≤ (zc : Int) := by omega
  have q4' : ((k : Int) ≤ (zc : Int)) = True := eq_true q4
  have q4'' : (k ≤ zc) = True := eq_true (by omega)
  have q5' : ((k2 : Int) ≤ (zc : Int)) = True := eq_true (by omega)
  have q5'' : (k2 ≤ zc) = True := eq_true (by omega)
  have hki : (k : Int) < 100000000 := by omega
  have hk2i : (k2 : Int) < 100000000 := by omega
  have hZi : (Z : Int) ≤ 100000000 := by omega
  have hb1' : Below H w w1 := by rw [← A.out.2.2.2.2.2.2.2.2.2.1]; exact hb1
  have ht1 : Tabs w1 := A.out.2.2.2.2.1.below hb1' A.out.2.2.2.2.2.2.2.2.2.2
  have hNb : (N : Int) ≤ 1048576 := by have := A.out; omega
  have ozk : ∀ j, Oct (z.take j) := fun j x hx => hoz x (List.mem_of_mem_take hx)
  have hw1 := whole_c w1 ht1 (some ⟨zb, zo, none⟩) (z.take k) k zc (N : Int) (hzlies.first k) (by rw [List.length_take]; omega) (by omega) (ozk k) hNb
  have A1 : Aside (Below H w w1 ∧ Holds N z l ∧ z.length = Z ∧ Lies w1 (some ⟨zb, zo, none⟩) z ∧ k < Z ∧ k / 2 = k2 ∧ Z ≤ 100000000 ∧ Oct z ∧ Tabs w1) := ⟨hb1', hholds, hZ, hzlies, hkZ, hk2, hzl, hoz, ht1⟩
  clear hdf hob1 hholds hoz hzl hb1 hzc hzlies hb1' hH t1 t1' t2 t2' hZ hZp hzn hk hkZ hk2 hk2k ozk ht1
  go_upto_region 6 with (go_at_call 9; refine hw1.mono ?_; rintro e4 w4 ⟨vo, c, rfl, hst, hob4, hb4⟩)
  have a1 := A1.out
  obtain ⟨hp', hu', hy'⟩ := cut_st a1.2.1 (by rw [a1.2.2.1]; exact a1.2.2.2.2.1) (show Stands (z.take k) N c from hst)
  rw [hu', hy']
  obtain ⟨X, hX⟩ : ∃ X, c.out.length = X := ⟨_, rfl⟩
  obtain ⟨xa, xc, hv, hxc, hlx, hxn⟩ := hob4.shape
  rw [hX] at hv hxc hxn
  subst hv
  have hXL : X ≤ L := by rw [← hX, ← A.out.2.1]; exact hp'.length_le
  have hb4' : Below H w w4 := a1.1.trans (hb4.mono (by rw [← A.out.2.2.2.2.2.2.2.2.2.1]; exact a1.1.size))
  have ht4 : Tabs w4 := A.out.2.2.2.2.1.below hb4' A.out.2.2.2.2.2.2.2.2.2.2
  have hw2 := whole_c w4 ht4 (some ⟨zb, zo, none⟩) (z.take k2) k2 zc (N : Int) ((a1.2.2.2.1.below hb4).first k2) (by rw [List.length_take]; have := a1.2.2.1; omega) (by omega) (fun x hx => a1.2.2.2.2.2.2.2.1 x (List.mem_of_mem_take hx)) hNb
  have A2 : Aside (Below H w w4 ∧ Stands (z.take k) N c ∧ c.out.length = X ∧ Lies w4 xa c.out ∧ (xa = none → X = 0 ∧ xc = 0) ∧ X ≤ xc ∧ X ≤ L ∧ c.out <+: l) := ⟨hb4', hst, hX, hlx, hxn, hxc, hXL, hp'⟩
  clear hst hob4 hb4 hu' hy' hX hxc hlx hxn hXL hb4' ht4 hp' hw1 a1
  rw [show ((1 : Nat) : Int) = (1 : Int) from rfl]
  go_upto_region 7 with (go_at_call 9; refine hw2.mono ?_; rintro e5 w5 ⟨vy, d, rfl, hst5, hob5, hb5⟩)
  have a1 := A1.out
  have a2 := A2.out
  have a0 := A.out
  obtain ⟨hp', hu', hy'⟩ := cut_st a1.2.1 (by rw [a1.2.2.1]; have := a1.2.2.2.2.1; have := a1.2.2.2.2.2.1; omega) (show Stands (z.take k2) N d from hst5)
  rw [hu', hy']
  obtain ⟨Y, hY⟩ : ∃ Y, d.out.length = Y := ⟨_, rfl⟩
  obtain ⟨ya, yc, hv, hyc, hly, hyn⟩ := hob5.shape
  rw [hY] at hv
  subst hv
  have hm : d.out <+: c.out := Stands.mono (B := z) (j := k2) (k := k) (by have := a1.2.2.2.2.2.1; omega) hst5 a2.2.1
  have hYX : Y ≤ X := by rw [← hY, ← a2.2.2.1]; exact hm.length_le
  have hb45 : Below H w4 w5 := hb5.mono (by rw [← a0.2.2.2.2.2.2.2.2.2.1]; exact a2.1.size)
  have hbw5 : Below w.heap.size w w5 := by rw [a0.2.2.2.2.2.2.2.2.2.1]; exact a2.1.trans hb45
  have ex : c.out = l.take X := by rw [← a2.2.2.1]; exact List.prefix_iff_eq_take.1 a2.2.2.2.2.2.2.2
  have ey : d.out = c.out.take Y := by rw [← hY]; exact List.prefix_iff_eq_take.1 hm
  have hs1 := same_c xa a c.out (l.take X) X X xc C w5 a2.2.2.1 (by rw [List.length_take]; have := a2.2.2.2.2.2.2.1; omega) (by have := a2.2.2.2.2.2.2.1; omega) (a2.2.2.2.1.below hb5) ((a0.1.below hbw5).first X)
  rw [show decide (c.out = l.take X) = true from decide_eq_true ex] at hs1
  have hs2 : ∀ u, Drawn w5 u → Calls Tryd.prog 11 #[.slice ya Y yc, .slice xa Y xc] u fun e w' => e = .returned (.bool true) ∧ ∃ n, w' = u.drewN n := fun u hu => by
    have := same_c ya xa d.out (c.out.take Y) Y Y yc xc u hY (by rw [List.length_take]; have := a2.2.2.1; omega) (by have := a2.2.2.2.2.2.2.1; omega) (hly.below (hu.below _)) (((a2.2.2.2.1.below hb5).first Y).below (hu.below _))
    rwa [show decide (d.out = c.out.take Y) = true from decide_eq_true ey] at this
  have haw : ∀ u, Drawn w5 u → Calls Tryd.prog 13 #[] u fun e w' => e = .returned (.bool true) ∧ Below u.heap.size u w' := fun u hu => awake_c u (a0.2.2.2.2.1.below (hbw5.trans (hu.below _)) (by omega))
  have A5 : Aside (Below w.heap.size w w5 ∧ (∀ u, Drawn w5 u → Calls Tryd.prog 11 #[.slice ya Y yc, .slice xa Y xc] u fun e w' => e = .returned (.bool true) ∧ ∃ n, w' = u.drewN n) ∧ (∀ u, Drawn w5 u → Calls Tryd.prog 13 #[] u fun e w' => e = .returned (.bool true) ∧ Below u.heap.size u w')) := ⟨hbw5, hs2, haw⟩
  have r1 : ((X : Int) ≤ (L : Int)) = True := eq_true (by have := a2.2.2.2.2.2.2.1; omega)
  have r1' : (X ≤ L) = True := eq_true a2.2.2.2.2.2.2.1
  have r2 : ((X : Int) ≤ (C : Int)) = True := eq_true (by have := a2.2.2.2.2.2.2.1; omega)
  have r2' : (X ≤ C) = True := eq_true (by have := a2.2.2.2.2.2.2.1; omega)
  have r3 : ((Y : Int) ≤ (X : Int)) = True := eq_true (by omega)
  have r3' : (Y ≤ X) = True := eq_true hYX
  have r4 : ((Y : Int) ≤ (xc : Int)) = True := eq_true (by have := a2.2.2.2.2.2.1; omega)
  have r4' : (Y ≤ xc) = True := eq_true (by have := a2.2.2.2.2.2.1; omega)
  have hXi : (X : Int) ≤ 5000 := by have := a2.2.2.2.2.2.2.1; omega
  have hYi : (Y : Int) ≤ 5000 := by omega
  have z1 : a = none → X = 0 ∧ C = 0 := fun e => by have := a0.2.2.2.2.2.2.2.2.1 e; have := a2.2.2.2.2.2.2.1; omega
  have z2 : xa = none → Y = 0 ∧ xc = 0 := fun e => by have := a2.2.2.2.2.1 e; omega
  clear a1 a2 a0 hp' hu' hy' hY hyc hly hyn hm hYX hb45 hbw5 ex ey hs2 haw hst5 hob5 hb5 hw2 q1 q1' q2 q2' q3 q3' q4 q4' q4'' q5' q5''
  try rw [show ((1 : Nat) : Int) = (1 : Int) from rfl]
  cases a with
  | none =>
    obtain ⟨hX0, hC0⟩ := z1 rfl
    subst hX0 hC0
    cases xa with
    | none =>
      obtain ⟨hY0, hD0⟩ := z2 rfl
      subst hY0 hD0
      go_wp2_with (first
          | (go_at_call 11; (with_reducible refine hs1.mono ?_); rintro e6 w6 ⟨rfl, d6⟩; have h11 := A5.out.2.1 w6 d6)
          | (go_at_call 11; (with_reducible refine h11.mono ?_); rintro e7 w7 ⟨rfl, d7'⟩; have d7 : Drawn w5 w7 := Drawn.trans d6 d7'; have h13 := A5.out.2.2 w7 d7)
          | (go_at_call 13; refine h13.mono ?_; rintro e8 w8 ⟨rfl, b8⟩))
      first | go_ret | go_ret2
      have b := A5.out.1.trans (d7.below w.heap.size)
      exact ⟨rfl, b.trans (b8.mono b.size)⟩
    | some xx =>
      have hY0 : Y = 0 := by have := of_eq_true r3'; omega
      subst hY0
      go_wp2_with (first
          | (go_at_call 11; (with_reducible refine hs1.mono ?_); rintro e6 w6 ⟨rfl, d6⟩; have h11 := A5.out.2.1 w6 d6)
          | (go_at_call 11; (with_reducible refine h11.mono ?_); rintro e7 w7 ⟨rfl, d7'⟩; have d7 : Drawn w5 w7 := Drawn.trans d6 d7'; have h13 := A5.out.2.2 w7 d7)
          | (go_at_call 13; refine h13.mono ?_; rintro e8 w8 ⟨rfl, b8⟩))
      first | go_ret | go_ret2
      have b := A5.out.1.trans (d7.below w.heap.size)
      exact ⟨rfl, b.trans (b8.mono b.size)⟩
  | some aa =>
    cases xa with
    | none =>
      obtain ⟨hY0, hD0⟩ := z2 rfl
      subst hY0 hD0
      go_wp2_with (first
          | (go_at_call 11; (with_reducible refine hs1.mono ?_); rintro e6 w6 ⟨rfl, d6⟩; have h11 := A5.out.2.1 w6 d6)
          | (go_at_call 11; (with_reducible refine h11.mono ?_); rintro e7 w7 ⟨rfl, d7'⟩; have d7 : Drawn w5 w7 := Drawn.trans d6 d7'; have h13 := A5.out.2.2 w7 d7)
          | (go_at_call 13; refine h13.mono ?_; rintro e8 w8 ⟨rfl, b8⟩))
      first | go_ret | go_ret2
      have b := A5.out.1.trans (d7.below w.heap.size)
      exact ⟨rfl, b.trans (b8.mono b.size)⟩
    | some xx =>
      go_wp2_with (first
          | (go_at_call 11; (with_reducible refine hs1.mono ?_); rintro e6 w6 ⟨rfl, d6⟩; have h11 := A5.out.2.1 w6 d6)
          | (go_at_call 11; (with_reducible refine h11.mono ?_); rintro e7 w7 ⟨rfl, d7'⟩; have d7 : Drawn w5 w7 := Drawn.trans d6 d7'; have h13 := A5.out.2.2 w7 d7)
          | (go_at_call 13; refine h13.mono ?_; rintro e8 w8 ⟨rfl, b8⟩))
      first | go_ret | go_ret2
      have b := A5.out.1.trans (d7.below w.heap.size)
      exact ⟨rfl, b.trans (b8.mono b.size)⟩
end Go.Proofs.YtikdpnpkmmmacaaDoor

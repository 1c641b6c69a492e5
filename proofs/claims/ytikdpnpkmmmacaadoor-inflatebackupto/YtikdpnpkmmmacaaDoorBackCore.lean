/-
  InflateBack's call: what the document's Deflate lays is given back, and what stands behind it is not looked at.
-/
import Derived.Test.YtikdpnpkmmmacaaDoorMs
import Derived.Test.YtikdpnpkmmmacaaDoorMzb
namespace Go.Proofs.YtikdpnpkmmmacaaDoor
open Go.RowKit
set_option linter.unusedVariables false
theorem back_st {L K : Nat} {z m l : List Nat} (h : Holds L z l) {c : Cfg} (hc : Stands (z ++ m) L c) (hK : z.length + m.length = K) : c.out = l ∧ min (atC K c + 1) K = z.length ∧ whyC c = 0 := by
  obtain ⟨d, h1, h2, h3, h4, h5⟩ := h.stands m
  have e := hc.one h1
  subst e
  refine ⟨h3, ?_, ?_⟩
  · unfold atC
    rw [h2]
    show min ((c.pos - 1) / 8 + 1) K = _
    omega
  · unfold whyC
    rw [h2]
set_option maxRecDepth 100000 in
set_option maxHeartbeats 4000000 in
theorem back_core (w : World) (ht : Tabs w) (a : Option Addr) (l : List Nat) (L C : Nat) (hl : Lies w a l) (hL : l.length = L) (hLb : L ≤ 140737488355328) (ho : Oct l) (b : Option Addr) (ps : List Pb) (P pc : Nat) (hps : Plan w b ps) (hP : ps.length = P) (hPb : P ≤ 9223372036854775807) (hpb : ∀ p ∈ ps, p.kd < 256 ∧ p.by_ < 65536) (a2 : Option Addr) (m : List Nat) (M c2 : Nat) (hm : Lies w a2 m) (hM : m.length = M) (hMb : M ≤ 1048576) (hom : Oct m) (hna : a2 = none → M = 0 ∧ c2 = 0) :
    Calls Tryd.prog 7 #[.slice a L C, .slice b P pc, .slice a2 M c2] w fun e w' => e = .returned (.bool true) ∧ Below w.heap.size w w' := by
  have hLi : (L : Int) ≤ 140737488355328 := by omega
  have hPi : (P : Int) ≤ 9223372036854775807 := by omega
  by_cases hbig : 5000 < L
  · have t1 : ((5000 : Int) < (L : Int)) = True := eq_true (by omega)
    have t1' : (5000 < L) = True := eq_true hbig
    have haw := awake_c w ht
    clear ht hl hL hLb ho hps hP hPb hpb hm hM hMb hom hna hbig
    go_enter Tryd.func7, Tryd.ntmps7
    go_wp2_with (go_at_call 13; refine haw.mono ?_; rintro e1 w1 ⟨rfl, hb1⟩)
    go_ret
    exact ⟨rfl, hb1⟩
  have t1 : ((5000 : Int) < (L : Int)) = False := eq_false (by omega)
  have t1' : (5000 < L) = False := eq_false hbig
  by_cases hbig2 : 200 < P
  · have t2 : ((200 : Int) < (P : Int)) = True := eq_true (by omega)
    have t2' : (200 < P) = True := eq_true hbig2
    have haw := awake_c w ht
    clear ht hl hL hLb ho hps hP hPb hpb hm hM hMb hom hna hbig hbig2
    go_enter Tryd.func7, Tryd.ntmps7
    go_wp2_with (go_at_call 13; refine haw.mono ?_; rintro e1 w1 ⟨rfl, hb1⟩)
    go_ret
    exact ⟨rfl, hb1⟩
  have t2 : ((200 : Int) < (P : Int)) = False := eq_false (by omega)
  have t2' : (200 < P) = False := eq_false hbig2
  have hdf := deflate_c L w a l L C hl hL (by omega) ho b ps P pc hps hP (by omega) hpb (by have := ht.lt; omega) (Nat.le_refl _)
  obtain ⟨H, hH⟩ : ∃ H, w.heap.size = H := ⟨_, rfl⟩
  have A : Aside (Lies w a l ∧ l.length = L ∧ L ≤ 5000 ∧ Oct l ∧ Tabs w ∧ Lies w a2 m ∧ m.length = M ∧ M ≤ 1048576 ∧ Oct m ∧ w.heap.size = H ∧ 7 ≤ H) := ⟨hl, hL, by omega, ho, ht, hm, hM, hMb, hom, hH, by have := ht.lt; omega⟩
  clear ht hl hL hLb ho hps hP hPb hpb hm hMb hom hbig hbig2
  go_enter Tryd.func7, Tryd.ntmps7
  go_upto_region 4 with (go_at_call 21; refine hdf.mono ?_; rintro e1 w1 ⟨v1, z, rfl, hob1, hholds, hoz, hzl, hb1⟩)
  obtain ⟨za, zc, hzv, hzc, hzlies, hzn⟩ := hob1.shape
  obtain ⟨Z, hZ⟩ : ∃ Z, z.length = Z := ⟨_, rfl⟩
  rw [hZ] at hzv hzc hzn hzl
  subst hzv
  obtain ⟨H1, hH1⟩ : ∃ H1, w1.heap.size = H1 := ⟨_, rfl⟩
  have b1 : Below w1.heap.size w1 (w1.alloc (.cells #[] 5)) := (Below.refl _ w1).alloc (Nat.le_refl _) _
  have hobe : Ob (w1.alloc (.cells #[] 5)) w1.heap.size (.slice (some ⟨w1.heap.size, 0, none⟩) 0 0) [] := Ob.made (Nat.le_refl _)
  rw [hH1] at hobe
  have hz1 := hzlies.below b1
  obtain ⟨w0, hw0⟩ : ∃ w0, w0 = w1.alloc (.cells #[] 5) := ⟨_, rfl⟩
  rw [← hw0] at hobe hz1 b1
  have hHH : H ≤ H1 := by rw [← hH1, ← A.out.2.2.2.2.2.2.2.2.2.1]; exact hb1.size
  have hb1' : Below H w w1 := by rw [← A.out.2.2.2.2.2.2.2.2.2.1]; exact hb1
  have hlen1 : ([] : List Nat).length + z.length ≤ 140737488355328 := by rw [hZ]; simp; omega
  have hB0 : 0 + 4 ≤ H1 := by have := A.out; omega
  have hlen2 : z.length + m.length ≤ 140737488355328 := by have := A.out; rw [hZ]; omega
  have hm0 : Lies w0 a2 m := (A.out.2.2.2.2.2.1.below hb1).below b1
  have hk : ∀ u, Below H1 w0 u → Lies u a2 m ∧ Tabs u ∧ Lies u a l ∧ Below w.heap.size w u ∧ Lies u za z := fun u hu => by
    have hs0 : H1 ≤ w0.heap.size := by rw [← hH1]; exact b1.size
    have hwu : Below H w u := (hb1'.trans ((hH1 ▸ b1 : Below H1 w1 w0).mono hHH)).trans (hu.mono hHH)
    have hwu' : Below w.heap.size w u := by rw [A.out.2.2.2.2.2.2.2.2.2.1]; exact hwu
    have h1u : Below w1.heap.size w1 u := by rw [hH1]; exact (hH1 ▸ b1 : Below H1 w1 w0).trans hu
    exact ⟨A.out.2.2.2.2.2.1.below hwu', A.out.2.2.2.2.1.below hwu A.out.2.2.2.2.2.2.2.2.2.2, A.out.1.below hwu', hwu', hzlies.below h1u⟩
  obtain ⟨K, hK⟩ : ∃ K, Z + M = K := ⟨_, rfl⟩
  have hKb : K < 140737488355328 := by have := A.out; omega
  have hozm : Oct (z ++ m) := fun x hx => by
    rcases List.mem_append.1 hx with h | h
    · exact hoz x h
    · exact A.out.2.2.2.2.2.2.2.2.1 x h
  have hKl : (z ++ m).length = K := by rw [List.length_append, hZ, hM]; exact hK
  have A1 : Aside (Holds L z l ∧ z.length + m.length = K ∧ z.length = Z) := ⟨hholds, by rw [hZ, hM]; exact hK, hZ⟩
  have hLi5 : (L : Int) ≤ 5000 := by have := A.out; omega
  have hL1 : (L : Int) ≤ 1048576 := by omega
  have hZi : (Z : Int) ≤ 100000000 := by omega
  have hsz : w0.heap.size ≥ H1 := by rw [← hH1]; exact b1.size
  clear hdf hob1 hholds hoz hzl hb1 hzc hzlies b1 hHH hb1' hH t1 t1' t2 t2'
  rw [hw0] at hobe hz1 hk
  go_upto_region 5 with (first
    | (at_builtin; refine wpList_ob 0 _ rfl (.tmp 24) (.tmp 25) rfl H1 (.slice (some ⟨H1, 0, none⟩) 0 0) [] (by rfl) hobe hB0 za z Z zc hZ (by rfl) hzn hz1 hlen1 ?_; intro v2 w2 hap; rw [List.nil_append] at hap; have hm2 : Lies w2 a2 m := (hk w2 hap.bel).1)
    | (at_builtin; refine wpList_ob 0 _ rfl (.tmp 26) (.tmp 27) rfl H1 v2 z (by rfl) hap.ob_ hB0 a2 m M c2 hM (by rfl) hna hm2 hlen2 ?_; intro v3 w3 hap3; obtain ⟨va, vc, hv, hvc, hlies, hvn⟩ := hap3.ob_.shape; rw [hKl] at hv; subst hv; have hk3 := hk w3 (hap.bel.trans hap3.bel); have hwh := whole_c w3 hk3.2.1 va (z ++ m) K vc (L : Int) hlies hKl hKb hozm hL1; clear hap hap3 hm2 hvc hvn hobe)
    | (go_at_call 9; refine hwh.mono ?_; rintro e4 w4 ⟨vo, c, rfl, hst, hob4, hb4⟩))
  obtain ⟨ho', hu', hy'⟩ := back_st A1.out.1 (show Stands (z ++ m) L c from hst) A1.out.2.1
  rw [A1.out.2.2] at hu'
  rw [hu', hy']
  obtain ⟨xa, xc, hv, _, hlx, _⟩ := hob4.shape
  rw [ho'] at hlx hv
  rw [A.out.2.1] at hv
  subst hv
  have hbw4 : Below w.heap.size w w4 := hk3.2.2.2.1.trans (hb4.mono hk3.2.2.2.1.size)
  have ht4 : ∀ u, Drawn w4 u → Tabs u := fun u hu => A.out.2.2.2.2.1.below (hbw4.trans (hu.below _)) (by have := A.out; omega)
  have hsame := same_c xa a l l L L xc C w4 A.out.2.1 A.out.2.1 (by have := A.out; omega) hlx (A.out.1.below hbw4)
  rw [show decide (l = l) = true from decide_eq_true rfl] at hsame
  have A4 : Aside (Below w.heap.size w w4 ∧ ∀ u, Drawn w4 u → Tabs u) := ⟨hbw4, ht4⟩
  clear hst hob4 hb4 hk3 hwh hk ho' hu' hy' hlx hbw4 ht4 hlies hKl hKb hozm hK hlen1 hlen2 hz1 hm0 hzn hna hM hZ hw0 hH1 hB0 hsz
  rw [show ((0 : Nat) : Int) = (0 : Int) from rfl]
  go_wp2_with (first
    | (go_at_call 11; refine hsame.mono ?_; rintro e5 w5 ⟨rfl, d5⟩; have haw := awake_c w5 (A4.out.2 w5 d5))
    | (go_at_call 13; refine haw.mono ?_; rintro e6 w6 ⟨rfl, b6⟩))
  first | go_ret | go_ret2
  have hb := A4.out.1.trans (Drawn.below (w := w4) (u := w5) d5 w.heap.size)
  exact ⟨rfl, hb.trans (b6.mono hb.size)⟩
end Go.Proofs.YtikdpnpkmmmacaaDoor

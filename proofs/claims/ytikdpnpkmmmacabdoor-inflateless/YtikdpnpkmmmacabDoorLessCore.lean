/-
  InflateLess' call: Whole twice, once asked for fewer.
-/
import Derived.Test.YtikdpnpkmmmacabDoorMj
namespace Go.Proofs.YtikdpnpkmmmacabDoor
open Go.RowKit
set_option linter.unusedVariables false
theorem Lies.take {w : World} {a : Option Addr} {l : List Nat} (h : Lies w a l) (k : Nat) : Lies w a (l.take k) := by
  rcases h with e | ⟨b, o, ha, hc⟩
  · exact Or.inl (by rw [e]; exact List.take_nil)
  · refine Or.inr ⟨b, o, ha, fun i x hx => hc i x ?_⟩
    rw [List.getElem?_take] at hx
    split at hx
    · exact hx
    · cases hx
theorem at_fewer {e c : Cfg} {L : Nat} (he : e.st = .bad 62) (hp : e.pos ≤ c.pos) : min (atC L e + 1) L ≤ min (atC L c + 1) L := by
  have h1 : atC L e = (e.pos - 1) / 8 := by unfold atC; rw [he]
  have h2 : atC L c = (c.pos - 1) / 8 ∨ atC L c = L := by
    unfold atC
    obtain ⟨s, hs⟩ : ∃ s, c.st = s := ⟨_, rfl⟩
    rw [hs]
    cases s using St.el <;> simp
  rw [h1]
  rcases h2 with h2 | h2 <;> rw [h2] <;> omega
set_option maxHeartbeats 2000000 in
theorem less_core (w : World) (ht : Tabs w) (a : Option Addr) (Bb : List Nat) (L C z : Nat) (hB : Lies w a Bb) (hL : Bb.length = L) (hLb : L < 140737488355328) (ho : Oct Bb) (hz : z < 65536) :
    Calls Tryd.prog 3 #[.slice a L C, .int .u16 (z : Int)] w fun e w' => e = .returned (.bool true) ∧ Below w.heap.size w w' := by
  have hwh := whole_c w ht a Bb L C (1048576 : Int) hB hL hLb ho (by decide)
  obtain ⟨H, hH⟩ : ∃ H, w.heap.size = H := ⟨_, rfl⟩
  have A : Aside (Lies w a Bb ∧ Bb.length = L ∧ L < 140737488355328 ∧ Oct Bb ∧ Tabs w ∧ z < 65536 ∧ w.heap.size = H ∧ 7 ≤ H) := ⟨hB, hL, hLb, ho, ht, hz, hH, by have := ht.lt; omega⟩
  rw [hH]
  clear hB hL hLb ho ht hz hH
  go_enter Tryd.func3, Tryd.ntmps3
  go_upto_region 2 with (go_at_call 4; refine hwh.mono ?_; rintro e1 w1 ⟨vo, c, rfl, hst1, hob1, hb1⟩)
  rw [A.out.2.2.2.2.2.2.1] at hb1
  have hlen1 := stands_most hst1
  have hN : (1048576 : Int).toNat = 1048576 := rfl
  rw [hN] at hlen1 hst1
  obtain ⟨xa, xc, hxv, hxc, hxl, hxn⟩ := hob1.shape
  obtain ⟨TL, hTL⟩ : ∃ TL, c.out.length = TL := ⟨_, rfl⟩
  rw [hTL] at hxv hxc hxn hlen1
  subst hxv
  obtain ⟨K, hK⟩ : ∃ K, z % (TL + 1) = K := ⟨_, rfl⟩
  have hKl : K ≤ TL := by rw [← hK]; have := Nat.mod_lt z (show 0 < TL + 1 by omega); omega
  have hrem : Int.tmod (z : Int) ((TL : Int) + 1) = (K : Int) := by
    rw [← hK]
    have : ((TL : Int) + 1) = ((TL + 1 : Nat) : Int) := by omega
    rw [this, Int.ofNat_tmod]
  have ht1 := A.out.2.2.2.2.1.below hb1 A.out.2.2.2.2.2.2.2
  have hl1 : Lies w1 a Bb := A.out.1.below (by rw [A.out.2.2.2.2.2.2.1]; exact hb1)
  have hwh2 := whole_c w1 ht1 a Bb L C (K : Int) hl1 A.out.2.1 A.out.2.2.1 A.out.2.2.2.1 (by omega)
  rw [Int.toNat_natCast] at hwh2
  have A1 : Aside (Stands Bb 1048576 c ∧ Lies w1 xa c.out ∧ (xa = none → TL = 0 ∧ xc = 0) ∧ Below H w w1 ∧ c.out.length = TL ∧ K ≤ TL ∧ TL ≤ 1048576 ∧ TL ≤ xc) := ⟨hst1, hxl, hxn, hb1, hTL, hKl, hlen1, hxc⟩
  have hTI : (TL : Int) < 1048577 := by omega
  have hTn : ¬ (TL : Int) + 1 = 0 := by omega
  have hzI : (z : Int) < 65536 := by have := A.out; omega
  obtain ⟨U, hU⟩ : ∃ U, min (atC L c + 1) L = U := ⟨_, rfl⟩
  obtain ⟨Y, hY⟩ : ∃ Y, whyC c = Y := ⟨_, rfl⟩
  have AU : Aside (min (atC L c + 1) L = U ∧ whyC c = Y) := ⟨hU, hY⟩
  rw [hU, hY]
  clear hst1 hob1 hb1 hlen1 hN hxc hxl hxn hTL hK hKl ht1 hl1 hwh hU hY
  go_upto_region 3 with fail
  clear hrem hTn hzI
  go_upto_region 4 with (go_at_call 4; refine hwh2.mono ?_; rintro e2 w2 ⟨vy, e, rfl, hst2, hob2, hb2⟩)
  obtain ⟨ya, yc, hyv, hyc, hyl, hyn⟩ := hob2.shape
  have hfew := A1.out.1.fewer hst2 (by have := A1.out; omega)
  have hbw : Below H w w2 := A1.out.2.2.2.1.trans (hb2.mono (by rw [← A.out.2.2.2.2.2.2.1]; exact A1.out.2.2.2.1.size))
  have hxl2 : Lies w2 xa c.out := A1.out.2.1.below hb2
  have haw : ∀ u, Drawn w2 u → Calls Tryd.prog 6 #[] u fun e w' => e = .returned (.bool true) ∧ Below u.heap.size u w' := fun u hu =>
    awake_c u (A.out.2.2.2.2.1.below (B := H) (hbw.trans (hu.below _)) A.out.2.2.2.2.2.2.2)
  have AB : Aside (Below H w w2 ∧ H ≤ w2.heap.size) := ⟨hbw, by rw [← A.out.2.2.2.2.2.2.1]; exact hbw.size⟩
  have AW : Aside (∀ u, Drawn w2 u → Calls Tryd.prog 6 #[] u fun e w' => e = .returned (.bool true) ∧ Below u.heap.size u w') := haw
  have haw0 := haw w2 ⟨0, rfl⟩
  by_cases hKT : K = TL
  · have hec : e = c := by
      rcases hfew with ⟨_, _, h, _⟩ | ⟨h, _⟩
      · have := A1.out; omega
      · exact h
    subst hec
    rw [A1.out.2.2.2.2.1] at hyv
    subst hyv
    have hsame := same_c xa ya e.out e.out TL TL xc yc w2 A1.out.2.2.2.2.1 A1.out.2.2.2.2.1 (by have := A1.out; omega) hxl2 hyl
    have hd1 : decide (e.out = e.out) = true := decide_eq_true rfl
    rw [hd1] at hsame
    rw [AU.out.1, AU.out.2]
    subst hKT
    clear hfew hst2 hob2 hb2 hyc hyl hyn hxl2 haw hbw hd1 hwh2
    by_cases h62 : Y = 62
    · have y1 : ((Y : Int) == 62) = true := by rw [beq_iff_eq]; omega
      clear hsame h62
      go_wp2_with (go_at_call 6; refine haw0.mono ?_; rintro e8 w8 ⟨rfl, b8⟩)
      first | go_ret | go_ret2
      exact ⟨rfl, AB.out.1.trans (b8.mono AB.out.2)⟩
    · have y1 : ((Y : Int) == 62) = false := by rw [beq_eq_false_iff_ne]; omega
      clear h62 haw0
      go_wp2_with (first
        | (go_at_call 5; refine hsame.mono ?_; rintro e7 w7 ⟨rfl, d7⟩
           have h6 := AW.out w7 d7)
        | (go_at_call 6; refine h6.mono ?_; rintro e8 w8 ⟨rfl, b8⟩))
      first | go_ret | go_ret2
      have b := AB.out.1.trans (Drawn.below d7 H)
      exact ⟨rfl, b.trans (b8.mono (by rw [← A.out.2.2.2.2.2.2.1]; exact b.size))⟩
  · rcases hfew with ⟨he1, he2, he3, he4⟩ | ⟨_, h⟩
    · have hel : e.out.length = K := by rw [he2, List.length_take]; omega
      have hwe : whyC e = 62 := by unfold whyC; rw [he1]
      have hle := at_fewer (L := L) he1 he4
      rw [hel] at hyv
      subst hyv
      obtain ⟨xb, xo, hxa⟩ : ∃ xb xo, xa = some ⟨xb, xo, none⟩ := by
        rcases A1.out.2.1 with h | ⟨b, o, h, _⟩
        · rw [h, List.length_nil] at he3; omega
        · exact ⟨b, o, h⟩
      subst hxa
      have hsame := same_c ya (some ⟨xb, xo, none⟩) e.out (c.out.take K) K K yc xc w2 hel (by rw [List.length_take, A1.out.2.2.2.2.1]; have := A1.out; omega) (by have := A1.out; omega) hyl (hxl2.take K)
      rw [show decide (e.out = c.out.take K) = true from decide_eq_true he2] at hsame
      obtain ⟨V, hV⟩ : ∃ V, min (atC L e + 1) L = V := ⟨_, rfl⟩
      rw [AU.out.1, hV] at hle
      rw [hwe, hV]
      have k1 : ((K : Int) == (TL : Int)) = false := by rw [beq_eq_false_iff_ne]; omega
      have k2 : ((V : Int) ≤ (U : Int)) = True := eq_true (by omega)
      have k2' : (V ≤ U) = True := eq_true (by omega)
      have k3 : ((K : Int) ≤ (xc : Int)) = True := eq_true (by have := A1.out; omega)
      have k3' : (K ≤ xc) = True := eq_true (by have := A1.out; omega)
      have k4 : ((xc : Int) < (K : Int)) = False := eq_false (by have := A1.out; omega)
      have k4' : (xc < K) = False := eq_false (by have := A1.out; omega)
      clear hst2 hob2 hb2 hyc hyl hyn hxl2 haw hbw hwh2 he1 he2 he3 he4 hel hwe hle hV haw0 hKT
      go_wp2_with (first
        | (go_at_call 5; refine hsame.mono ?_; rintro e7 w7 ⟨rfl, d7⟩
           have h6 := AW.out w7 d7)
        | (go_at_call 6; refine h6.mono ?_; rintro e8 w8 ⟨rfl, b8⟩))
      first | go_ret | go_ret2
      have b := AB.out.1.trans (Drawn.below d7 H)
      exact ⟨rfl, b.trans (b8.mono (by rw [← A.out.2.2.2.2.2.2.1]; exact b.size))⟩
    · exfalso
      have := A1.out
      omega
end Go.Proofs.YtikdpnpkmmmacabDoor

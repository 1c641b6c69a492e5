/-
  The library's ParseUint at base ten and 63 bits.
-/
import Derived.Test.YtcmmjbkgoafbnaaGreatDoorWpa
namespace Go.Proofs.YtcmmjbkgoafbnaaGreatDoor
open Go.RowKit
set_option linter.unusedVariables false
set_option linter.unusedSimpArgs false
theorem tdc_no {v x : Nat} {r : List Nat} (h : isd x = false) : tdc v (x :: r) = none := by simp [tdc, h]
theorem tdc_big {v x : Nat} {r : List Nat} (h : 9223372036854775807 < 10 * v + (x - 48)) : tdc v (x :: r) = none := by
  simp only [tdc, if_pos h]
  split <;> rfl
theorem tdc_go {v x : Nat} {r : List Nat} (h : isd x = true) (h2 : 10 * v + (x - 48) ≤ 9223372036854775807) : tdc v (x :: r) = tdc (10 * v + (x - 48)) r := by
  simp only [tdc]
  rw [if_neg (by rw [h]; decide), if_neg (by omega)]
set_option maxRecDepth 100000 in
set_option maxHeartbeats 4000000 in
theorem parse82 (l : List Nat) (ho : Oct l) (hl : l.length ≤ 1000000000) (w : World) : Calls Tryz.prog 77 #[.string (st l), .int .i64 10, .int .i64 63] w fun e w' => Pu l w e w' := by
  by_cases h0 : l = []
  · subst h0
    obtain ⟨s, hs⟩ : ∃ s, s = st [] := ⟨_, rfl⟩
    have z2 : (s.toList == []) = true := by rw [hs, ByteArray.toList_eq]; rfl
    have z3 : s = ⟨#[]⟩ := hs
    rw [← hs]
    subst z3
    clear hl ho hs
    go_enter Tryz.func77, Tryz.ntmps77
    go_wp2_with fail
    go_ret2
    exact ⟨Or.inr ⟨rfl, 0, 2, Or.inr rfl, rfl⟩, Below.refl _ _⟩
  · obtain ⟨s, hs⟩ : ∃ s, s = st l := ⟨_, rfl⟩
    have z2 : (s.toList == []) = false := by
      have := st_beq ho Oct.nil
      rw [← hs] at this
      have e2 : (st []).toList = [] := by rw [ByteArray.toList_eq]; rfl
      rw [e2] at this
      rw [this]; simpa using h0
    obtain ⟨w1, c, hcv, kcv, bcv, szcv, hc⟩ := bytes_of ho w
    rw [← hs] at hcv ⊢
    obtain ⟨L, hL⟩ : ∃ L, l.length = L := ⟨_, rfl⟩
    obtain ⟨H, hH⟩ : ∃ H, w.heap.size = H := ⟨_, rfl⟩
    rw [hL, hH] at hcv
    rw [hH] at kcv bcv
    have A : Aside (l ≠ [] ∧ Oct l ∧ l.length = L ∧ L ≤ 1000000000 ∧ Cv w1 H l ∧ Below H w w1 ∧ w.heap.size = H ∧ L ≤ c) := ⟨h0, ho, hL, by omega, kcv, bcv, hH, by omega⟩
    clear h0 ho hL hl kcv bcv hH hc szcv hs
    go_enter Tryz.func77, Tryz.ntmps77
    go_upto_region 36 with fail
    go_loopg [101, 13, 12] L (fun gg s1 s2 s3 wr => ∃ (k n : Nat), s1 = .int .i64 (k : Int) ∧ s2 = .int .u64 (n : Int) ∧ s3 = .bool false ∧ wr = w1 ∧ Aside (k + gg = L ∧ n ≤ 9223372036854775807 ∧ tdc n (l.drop k) = tdc 0 l))
    case atStart => exact ⟨0, 0, rfl, rfl, rfl, rfl, ⟨by omega, by decide, by simp⟩⟩
    case round =>
      obtain ⟨k, n, rfl, rfl, rfl, rfl, AR⟩ := hrel
      have a0 := A.out
      have r0 := AR.out
      have bel : Below w.heap.size w wr := by rw [a0.2.2.2.2.2.2.1]; exact a0.2.2.2.2.2.1
      have AB : Aside (Below w.heap.size w wr) := bel
      by_cases hk : k < L
      · obtain ⟨x, hx⟩ : ∃ x, l[k]? = some x := ⟨_, List.getElem?_eq_getElem (by omega)⟩
        have hx2 : x < 256 := a0.2.1 x (List.mem_of_getElem? hx)
        have hdr : l.drop k = x :: l.drop (k + 1) := by
          obtain ⟨h1, h2⟩ := List.getElem?_eq_some_iff.1 hx
          rw [← h2]; exact List.drop_eq_getElem_cons h1
        have hcell := a0.2.2.2.2.1.cell hx
        have t1 : ((k : Int) < (L : Int)) = True := eq_true (by omega)
        have t2 : (k < L) = True := eq_true hk
        have hlow := lower_c x hx2 wr
        have htd := r0.2.2
        rw [hdr] at htd
        have hne := a0.1
        have hkb : (k : Int) < 2000000000 := by omega
        by_cases hd : 48 ≤ x ∧ x ≤ 57
        · have hid : isd x = true := by simp [isd, hd]
          obtain ⟨d1, d2⟩ := hd
          have e1 : (48 : Int) ≤ (x : Int) := by omega
          have e2 : (x : Int) ≤ 57 := by omega
          have e3 : ((x : Int) == 95) = false := by rw [beq_eq_false_iff_ne]; omega
          obtain ⟨d, hdx⟩ : ∃ d : Nat, x = d + 48 := ⟨x - 48, by omega⟩
          have hd10 : d < 10 := by omega
          have e4 : IntKind.u8.wrap ((x : Int) - 48) = (d : Int) := by rw [IntKind.wrap_u8]; omega
          have e40 : ((10 : Int) ≤ (d : Int)) = False := eq_false (by omega)
          have e41 : (d : Int) < 256 := by omega
          have e42 : (0 : Int) ≤ (d : Int) := by omega
          by_cases hn1 : 1844674407370955162 ≤ n
          · have hno : tdec l = none := by
              unfold tdec; rw [if_neg hne, ← htd]; exact tdc_big (by omega)
            have AN : Aside (tdec l = none) := hno
            have e5 : (1844674407370955162 : Int) ≤ (n : Int) := by omega
            clear hdx hd10 hno htd hdr hid hne hx2 d1 d2 hn1 r0 a0 bel hx hk AR A hlow
            go_wp2_with fail
            go_ret2
            exact ⟨Or.inr ⟨AN.out, _, 1, Or.inl rfl, rfl⟩, AB.out⟩
          · have e5 : ((1844674407370955162 : Int) ≤ (n : Int)) = False := eq_false (by omega)
            obtain ⟨t, ht⟩ : ∃ t : Nat, 10 * n = t := ⟨_, rfl⟩
            have e50 : IntKind.u64.wrap ((n : Int) * 10) = (t : Int) := by rw [IntKind.wrap_u64]; omega
            obtain ⟨m, hm⟩ : ∃ m : Nat, (t + d) % 18446744073709551616 = m := ⟨_, rfl⟩
            have e51 : IntKind.u64.wrap ((t : Int) + (d : Int)) = (m : Int) := by rw [IntKind.wrap_u64]; omega
            by_cases hn2 : 9223372036854775807 < 10 * n + (x - 48)
            · have hno : tdec l = none := by
                unfold tdec; rw [if_neg hne, ← htd]; exact tdc_big hn2
              have AN : Aside (tdec l = none) := hno
              by_cases hn3 : m < t
              · have e7 : ((m : Int) < (t : Int)) = True := eq_true (by omega)
                clear ht hm hdx hd10 hno htd hdr hid hne hx2 d1 d2 hn1 hn2 hn3 r0 a0 bel hx hk AR A hlow
                go_wp2_with fail
                go_ret2
                exact ⟨Or.inr ⟨AN.out, _, 1, Or.inl rfl, rfl⟩, AB.out⟩
              · have e7 : ((m : Int) < (t : Int)) = False := eq_false (by omega)
                have e8 : ((9223372036854775807 : Int) < (m : Int)) = True := eq_true (by omega)
                clear ht hm hdx hd10 hno htd hdr hid hne hx2 d1 d2 hn1 hn2 hn3 r0 a0 bel hx hk AR A hlow
                go_wp2_with fail
                go_ret2
                exact ⟨Or.inr ⟨AN.out, _, 1, Or.inl rfl, rfl⟩, AB.out⟩
            · have hgo : tdc (10 * n + (x - 48)) (l.drop (k + 1)) = tdc 0 l := by rw [← htd]; exact (tdc_go hid (by omega)).symm
              have hm2 : 10 * n + (x - 48) = m := by omega
              rw [hm2] at hgo hn2
              have AG : Aside (tdc m (l.drop (k + 1)) = tdc 0 l ∧ m ≤ 9223372036854775807 ∧ k < L ∧ k + gk = L) := ⟨hgo, by omega, hk, r0.1⟩
              have e7 : ((m : Int) < (t : Int)) = False := eq_false (by omega)
              have e8 : ((9223372036854775807 : Int) < (m : Int)) = False := eq_false (by omega)
              clear ht hm hm2 hdx hd10 htd hdr hid hne hx2 d1 d2 hn1 hn2 r0 a0 bel hx hk AR hgo hlow
              go_wp2_with fail
              have ag := AG.out
              go_roundg (gk - 1)
              case measure => omega
              case rel => exact ⟨k + 1, m, by go_num, rfl, rfl, rfl, ⟨by omega, ag.2.1, ag.1⟩⟩
        · have hid : isd x = false := by simp only [isd, decide_eq_false_iff_not]; exact hd
          have hno : tdec l = none := by
            unfold tdec; rw [if_neg hne, ← htd]; exact tdc_no hid
          have AN : Aside (tdec l = none) := hno
          obtain ⟨y, hy⟩ : ∃ y : Nat, x ||| 32 = y := ⟨_, rfl⟩
          rw [hy] at hlow
          have hy2 : y < 256 := by
            rw [← hy]
            have : ∀ z : Fin 256, z.val ||| 32 < 256 := by decide +kernel
            exact this ⟨x, hx2⟩
          have e3 : ((x : Int) == 95) = false ∨ ((x : Int) == 95) = true := by cases ((x : Int) == 95) <;> simp
          have e30 : ∀ b : Bool, (b && false) = false := by simp
          by_cases h48 : 48 ≤ x
          · have e1 : ((48 : Int) ≤ (x : Int)) = True := eq_true (by omega)
            have e2 : ((x : Int) ≤ 57) = False := eq_false (by omega)
            by_cases ha : 97 ≤ y
            · have e5 : ((97 : Int) ≤ (y : Int)) = True := eq_true (by omega)
              by_cases hz : y ≤ 122
              · have e6 : ((y : Int) ≤ 122) = True := eq_true (by omega)
                obtain ⟨d, hdy⟩ : ∃ d : Nat, y = d + 97 := ⟨y - 97, by omega⟩
                have e7 : IntKind.u8.wrap ((y : Int) - 97) = (d : Int) := by rw [IntKind.wrap_u8]; omega
                have e8 : IntKind.u8.wrap ((d : Int) + 10) = ((d + 10 : Nat) : Int) := by rw [IntKind.wrap_u8]; omega
                have e9 : ((10 : Int) ≤ ((d + 10 : Nat) : Int)) = True := eq_true (by omega)
                generalize ((d + 10 : Nat) : Int) = dd at *
                clear hdy hno htd hdr hid hne hx2 hy2 hd hy h48 ha hz r0 a0 bel hx hk AR A
                rcases e3 with e3 | e3
                all_goals
                  go_wp2_with (go_at_call 79; refine hlow.mono ?_; rintro e1 w2 ⟨rfl, rfl⟩)
                  go_ret2
                  exact ⟨Or.inr ⟨AN.out, _, 2, Or.inr rfl, rfl⟩, AB.out⟩
              · have e6 : ((y : Int) ≤ 122) = False := eq_false (by omega)
                clear hno htd hdr hid hne hx2 hy2 hd hy h48 ha hz r0 a0 bel hx hk AR A
                rcases e3 with e3 | e3
                all_goals
                  go_wp2_with (go_at_call 79; refine hlow.mono ?_; rintro e1 w2 ⟨rfl, rfl⟩)
                  go_ret2
                  exact ⟨Or.inr ⟨AN.out, _, 2, Or.inr rfl, rfl⟩, AB.out⟩
            · have e5 : ((97 : Int) ≤ (y : Int)) = False := eq_false (by omega)
              clear hno htd hdr hid hne hx2 hy2 hd hy h48 ha r0 a0 bel hx hk AR A
              rcases e3 with e3 | e3
              all_goals
                go_wp2_with (go_at_call 79; refine hlow.mono ?_; rintro e1 w2 ⟨rfl, rfl⟩)
                go_ret2
                exact ⟨Or.inr ⟨AN.out, _, 2, Or.inr rfl, rfl⟩, AB.out⟩
          · have e1 : ((48 : Int) ≤ (x : Int)) = False := eq_false (by omega)
            have hlt : y < 97 := by
              rw [← hy]
              have : ∀ z : Fin 48, z.val ||| 32 < 97 := by decide +kernel
              exact this ⟨x, by omega⟩
            have e5 : ((97 : Int) ≤ (y : Int)) = False := eq_false (by omega)
            clear hno htd hdr hid hne hx2 hy2 hd hy h48 hlt r0 a0 bel hx hk AR A
            rcases e3 with e3 | e3
            all_goals
              go_wp2_with (go_at_call 79; refine hlow.mono ?_; rintro e1 w2 ⟨rfl, rfl⟩)
              go_ret2
              exact ⟨Or.inr ⟨AN.out, _, 2, Or.inr rfl, rfl⟩, AB.out⟩
      · have t1 : ((k : Int) < (L : Int)) = False := eq_false (by omega)
        have t2 : (k < L) = False := eq_false hk
        have hz : tdec l = some n := by
          unfold tdec
          rw [if_neg a0.1, ← r0.2.2, List.drop_of_length_le (by omega)]
          rfl
        have AN : Aside (tdec l = some n) := hz
        clear hz hk a0 r0 bel A AR
        go_wp2_with fail
        go_ret2
        exact ⟨Or.inl ⟨n, AN.out, rfl⟩, AB.out⟩
theorem parse79 (l : List Nat) (ho : Oct l) (hl : l.length ≤ 1000000000) (w : World) (he : Er w) : Calls Tryz.prog 74 #[.string (st l), .int .i64 10, .int .i64 63] w fun e w' => ((∃ z : Nat, tdec l = some z ∧ e = .returned (.tuple #[.int .u64 (z : Int), .nilIface])) ∨ (tdec l = none ∧ ∃ (x : Int) (t : TypeId) (y : Value), e = .returned (.tuple #[.int .u64 x, .iface t y]))) ∧ Below w.heap.size w w' := by
  have h1 := parse82 l ho hl w
  have A : Aside (Oct l ∧ l.length ≤ 1000000000 ∧ Er w) := ⟨ho, hl, he⟩
  clear ho hl he
  go_enter Tryz.func74, Tryz.ntmps74
  go_upto_region 2 with (go_at_call 77; refine h1.mono ?_; rintro e1 w1 ⟨hx, b1⟩; rcases hx with ⟨z, hz, rfl⟩ | ⟨hz, x, k, hk, rfl⟩)
  · have AZ : Aside (tdec l = some z ∧ Below w.heap.size w w1) := ⟨hz, b1⟩
    clear hz b1 h1
    go_wp2_with fail
    go_ret2
    exact ⟨Or.inl ⟨z, AZ.out.1, rfl⟩, AZ.out.2⟩
  · have he1 : Er w1 := A.out.2.2.below b1 A.out.2.2.1
    have h2 := toError_c k hk ⟨#[80, 97, 114, 115, 101, 85, 105, 110, 116]⟩ l A.out.1 (by have := A.out.2.1; omega) w1 he1
    have AZ : Aside (tdec l = none ∧ Below w.heap.size w w1) := ⟨hz, b1⟩
    clear hz b1 h1 hk he1
    go_wp2_with (go_at_call 78; refine h2.mono ?_; rintro e2 w2 ⟨t, y, rfl, b2⟩)
    go_ret2
    exact ⟨Or.inr ⟨AZ.out.1, x, t, y, rfl⟩, AZ.out.2.trans (b2.mono AZ.out.2.size)⟩
end Go.Proofs.YtcmmjbkgoafbnaaGreatDoor

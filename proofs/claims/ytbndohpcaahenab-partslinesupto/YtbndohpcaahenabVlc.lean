/-
  What the program's Valid comes to.
-/
import Derived.Test.YtbndohpcaahenabVld
import Derived.Test.YtbndohpcaahenabCnv
namespace Go.Proofs.Ytbndohpcaahenab
open Go.RowKit
set_option linter.unusedVariables false
theorem slice_str {V X1 : ByteArray} {p : Nat} (hk : p ≤ V.size) (he : V.extract p V.size = X1) (w : World) : (Instr.slice 9 (.string V) (some (.int .i64 (p : Int))) none none).run Try.prog w = .ok (.string X1) w := by
  have hi : (0 : Int) ≤ (p : Int) ∧ (p : Int) ≤ (V.size : Int) := by omega
  simp [Instr.slice, Instr.sliceBounds, Instr.sliceBound, asIntOf, run_underlying Try.underlying9, hi, he]
  intro h
  omega
theorem last_ext {b : List Nat} {x p : Nat} (hp : b.length = p + 1) (hx : b[p]? = some x) : (st b).extract p (st b).size = st [x] := by
  rw [st_extract, st_size, List.take_length, drop_more hx]
  rw [List.drop_eq_nil_of_le (by omega)]
theorem last_get {b : List Nat} {x p : Nat} (hp : b.length = p + 1) (hx : b[p]? = some x) : b.getLast? = some x := by
  rw [List.getLast?_eq_getElem?, hp, Nat.add_sub_cancel, hx]
theorem suffix_c (b : List Nat) (x p : Nat) (hp : b.length = p + 1) (hpb : p < 100) (hx : b[p]? = some x) (ho : Oct b) (w : World) : Calls Try.prog 15 #[.string (st b), .string ⟨#[32]⟩] w fun e w' => e = .returned (.bool (decide (b.getLast? = some 32))) ∧ w' = w := by
  have hsl := slice_str (V := st b) (X1 := st [x]) (p := p) (by rw [st_size]; omega) (last_ext hp hx) w
  have hz : (st b).size = p + 1 := by rw [st_size, hp]
  have hx2 : x < 256 := ho x (List.mem_of_getElem? hx)
  obtain ⟨r, hr⟩ : ∃ r, decide (b.getLast? = some 32) = r := ⟨_, rfl⟩
  have hbe : ((st [x]).toList == (⟨#[32]⟩ : ByteArray).toList) = r := by
    have h1 : (⟨#[32]⟩ : ByteArray) = st [32] := rfl
    have h2 : Oct [x] := fun y hy => by simp at hy; omega
    have h3 : Oct [32] := fun y hy => by simp at hy; omega
    rw [h1, st_beq h2 h3, ← hr, last_get hp hx]
    simp
  rw [show (⟨#[32]⟩ : ByteArray).toList = [32] by rw [ByteArray.toList_eq]] at hbe
  rw [hr]
  obtain ⟨S, hS⟩ : ∃ S, st b = S := ⟨_, rfl⟩
  obtain ⟨X, hX⟩ : ∃ X, st [x] = X := ⟨_, rfl⟩
  rw [hS, hX] at hsl
  rw [hS] at hz ⊢
  rw [hX] at hbe
  have t1 : ((1 : Int) ≤ (p : Int) + 1) = True := eq_true (by omega)
  have hpI : (p : Int) < 100 := by omega
  have h41 : Calls Try.prog 22 #[.string S, .string ⟨#[32]⟩] w fun e w' => e = .returned (.bool r) ∧ w' = w := by
    clear hr hp hpb hx ho hx2 hS hX
    go_enter Try.func22, Try.ntmps22
    go_wp2_with fail
    go_ret
    exact ⟨by rw [← hbe]; rfl, rfl⟩
  clear hsl hbe hr hp hpb hx ho hx2 hS hX
  go_enter Try.func15, Try.ntmps15
  go_wp2_with (go_at_call 22; refine h41.mono ?_; rintro e1 w1 ⟨rfl, rfl⟩)
  go_ret
  exact ⟨rfl, rfl⟩
theorem vd_bad {b : List Nat} {k x : Nat} (hx : b[k]? = some x) (h : okb x = false) : vd b = false := by
  have : b.all okb = false := by
    cases hb : b.all okb with
    | false => rfl
    | true => have := List.all_eq_true.1 hb x (List.mem_of_getElem? hx); rw [h] at this; cases this
  simp [vd, this]
set_option maxHeartbeats 1000000 in
theorem valid_c (b : List Nat) (ho : Oct b) (hb : b.length < 1000000000000) (w : World) : Calls Try.prog 8 #[.string (st b)] w fun e w' => e = .returned (.bool (vd b)) ∧ Below w.heap.size w w' := by
  obtain ⟨r, hr⟩ : ∃ r, vd b = r := ⟨_, rfl⟩
  rw [hr]
  rcases Nat.eq_zero_or_pos b.length with h0 | h0
  · have hn : b = [] := List.eq_nil_of_length_eq_zero h0
    subst hn
    have e : r = false := by rw [← hr]; rfl
    subst e
    have hs : st [] = ⟨#[]⟩ := rfl
    rw [hs]
    clear hr h0 ho hb
    go_enter Try.func8, Try.ntmps8
    go_wp2_with fail
    first | go_ret | go_ret2
    exact ⟨rfl, Below.refl _ _⟩
  · obtain ⟨p, hp⟩ : ∃ p, b.length = p + 1 := ⟨b.length - 1, by omega⟩
    obtain ⟨x, hx⟩ : ∃ x, b[p]? = some x := ⟨_, List.getElem?_eq_getElem (by omega)⟩
    have hsf := suffix_c b x p hp
    obtain ⟨S, hS⟩ : ∃ S, st b = S := ⟨_, rfl⟩
    have hz : S.size = p + 1 := by rw [← hS, st_size, hp]
    have hne : (S.toList == []) = false := by
      rw [← hS, ByteArray.toList_eq]
      have : (st b).data.toList.length = p + 1 := by show (b.map UInt8.ofNat).toArray.toList.length = _; simp [hp]
      cases h : (st b).data.toList with
      | nil => rw [h] at this; simp at this
      | cons a b => rfl
    by_cases h70 : 70 < p + 1
    · have e : r = false := by rw [← hr]; simp [vd, hp]; omega
      subst e
      have t1 : ((70 : Int) < (p : Int) + 1) = True := eq_true (by omega)
      have t2 : (70 < p + 1) = True := eq_true h70
      rw [hS]
      clear hsf hr hx hp h70 h0 ho hb hS
      go_enter Try.func8, Try.ntmps8
      go_wp2_with fail
      first | go_ret | go_ret2
      exact ⟨rfl, Below.refl _ _⟩
    · have hsf := hsf (by omega) hx ho w
      have t1 : ((70 : Int) < (p : Int) + 1) = False := eq_false (by omega)
      have t2 : (70 < p + 1) = False := eq_false h70
      obtain ⟨q, hq⟩ : ∃ q, decide (b.getLast? = some 32) = q := ⟨_, rfl⟩
      rw [hq] at hsf
      cases q with
      | true =>
        have e : r = false := by
          rw [← hr]
          have : b.getLast? = some 32 := by simpa using hq
          simp [vd, this]
        subst e
        rw [hS] at hsf ⊢
        clear hr hx hp h70 h0 ho hb hS hq
        go_enter Try.func8, Try.ntmps8
        go_wp2_with (go_at_call 15; refine hsf.mono ?_; rintro e1 w1 ⟨rfl, rfl⟩)
        first | go_ret | go_ret2
        exact ⟨rfl, Below.refl _ _⟩
      | false =>
        have hlast : b.getLast? ≠ some 32 := by simpa using hq
        have hvd : vd b = b.all okb := by simp [vd, hp, hlast]; omega
        obtain ⟨w1, c, hcv, hC, hb1, hz1, hlc⟩ := bytes_of ho w
        obtain ⟨H, hH⟩ : ∃ H, w.heap.size = H := ⟨_, rfl⟩
        rw [hp, hS, hH] at hcv
        rw [hH] at hC hb1 ⊢
        rw [hS] at hsf ⊢
        obtain ⟨L, hL⟩ : ∃ L, p + 1 = L := ⟨_, rfl⟩
        have hLI : (p : Int) + 1 = (L : Int) := by omega
        rw [hL] at hcv hz
        have A : Aside (b.length = L ∧ Oct b ∧ Cv w1 H b ∧ Below H w w1 ∧ vd b = r ∧ vd b = b.all okb ∧ L ≤ 70) := ⟨by omega, ho, hC, hb1, hr, hvd, by omega⟩
        rw [hLI] at t1
        rw [hL] at t2
        clear hr hx hp h70 h0 ho hb hS hq hlast hvd hC hb1 hz1 hlc hL hH hLI
        go_enter Try.func8, Try.ntmps8
        go_wp2_with (go_at_call 15; refine hsf.mono ?_; rintro e1 w0 ⟨rfl, rfl⟩)
        go_loopg [19] L (fun gg s19 wr => ∃ k : Nat, s19 = .int .i64 (k : Int) ∧ wr = w1 ∧ Aside (k + gg = L ∧ (b.take k).all okb = true))
        case atStart => exact ⟨0, rfl, rfl, ⟨by omega, by simp⟩⟩
        case round =>
          obtain ⟨k, rfl, hw, hT⟩ := hrel
          obtain ⟨hkg, hall⟩ := hT.out
          have a0 := A.out
          have hw := hw.symm
          subst hw
          by_cases hk : k < L
          · have t3 : ((k : Int) < (L : Int)) = True := eq_true (by omega)
            have t4 : (k < L) = True := eq_true hk
            obtain ⟨y, hy⟩ : ∃ y, b[k]? = some y := ⟨_, List.getElem?_eq_getElem (by omega)⟩
            have cy := a0.2.2.1.cell hy
            have hal := allowed_c y (a0.2.1 y (List.mem_of_getElem? hy)) w1
            have bk : (k : Int) < 100 := by omega
            cases hoy : okb y with
            | true =>
              rw [hoy] at hal
              have A2 : Aside (k + gk = L ∧ k < L ∧ (b.take (k + 1)).all okb = true) := ⟨hkg, hk, by rw [take_more hy, List.all_append, hall]; simp [hoy]⟩
              clear hT a0 hk hy hkg hall hoy
              go_wp2_with (go_at_call 16; refine hal.mono ?_; rintro e2 w2 ⟨rfl, hw2⟩; have hw2 := hw2.symm; subst hw2)
              have a2 := A2.out
              go_roundg (gk - 1)
              case measure => omega
              case rel => exact ⟨k + 1, by go_num, rfl, ⟨by omega, a2.2.2⟩⟩
            | false =>
              rw [hoy] at hal
              have e : r = false := by rw [← a0.2.2.2.2.1]; exact vd_bad hy hoy
              subst e
              clear hT a0 hk hy hkg hall hoy
              go_wp2_with (go_at_call 16; refine hal.mono ?_; rintro e2 w2 ⟨rfl, hw2⟩; have hw2 := hw2.symm; subst hw2)
              first | go_ret | go_ret2
              exact ⟨rfl, A.out.2.2.2.1⟩
          · have t3 : ((k : Int) < (L : Int)) = False := eq_false (by omega)
            have t4 : (k < L) = False := eq_false hk
            have e : r = true := by
              rw [← a0.2.2.2.2.1, a0.2.2.2.2.2.1, ← hall, List.take_of_length_le (by omega)]
            subst e
            clear hT a0 hk hkg hall
            go_wp2_with fail
            first | go_ret | go_ret2
            exact ⟨rfl, A.out.2.2.2.1⟩
end Go.Proofs.Ytbndohpcaahenab

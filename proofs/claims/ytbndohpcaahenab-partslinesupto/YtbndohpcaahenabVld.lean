/-
  What both Valid come to.
-/
import Derived.Test.YtbndohpcaahenabLok
import Derived.Lib.BufferWrite
import Derived.Lib.Bytealg
namespace Go.Proofs.Ytbndohpcaahenab
open Go.RowKit
set_option linter.unusedVariables false
/-- A byte of a boundary. -/
def more : List Nat := [39, 40, 41, 43, 95, 44, 45, 46, 47, 58, 61, 63, 32]
def okb (x : Nat) : Bool := (decide (97 ≤ x) && decide (x ≤ 122)) || (decide (65 ≤ x) && decide (x ≤ 90)) || (decide (48 ≤ x) && decide (x ≤ 57)) || more.contains x
/-- A boundary. -/
def vd (b : List Nat) : Bool := decide (1 ≤ b.length) && decide (b.length ≤ 70) && decide (b.getLast? ≠ some 32) && b.all okb
theorem vd_len {b : List Nat} (h : vd b = true) : 1 ≤ b.length ∧ b.length ≤ 70 := by
  simp only [vd, Bool.and_eq_true, decide_eq_true_iff] at h
  exact ⟨h.1.1.1, h.1.1.2⟩
theorem okb_ne {x : Nat} (h : okb x = true) : x ≠ 10 ∧ x ≠ 13 := by
  constructor <;> rintro rfl <;> simp [okb, more] at h
theorem vd_bd {b : List Nat} (h : vd b = true) (ho : Oct b) : Bd (dd b) := by
  simp only [vd, Bool.and_eq_true] at h
  have hall := List.all_eq_true.1 h.2
  refine ⟨by simp [dd], dd_oct ho, ?_, ?_⟩
  · intro hm
    simp only [dd, List.mem_cons] at hm
    rcases hm with h1 | h1 | h1
    · cases h1
    · cases h1
    · exact (okb_ne (hall _ h1)).1 rfl
  · intro hm
    simp only [dd, List.mem_cons] at hm
    rcases hm with h1 | h1 | h1
    · cases h1
    · cases h1
    · exact (okb_ne (hall _ h1)).2 rfl
theorem ix_pos : ∀ x : Fin 256, decide (0 ≤ Lib.indexByte [39, 40, 41, 43, 95, 44, 45, 46, 47, 58, 61, 63, 32] x.val.toUInt8) = more.contains x.val := by decide +kernel
theorem index_c (x : Nat) (hx : x < 256) (w : World) : Calls Try.prog 23 #[.string ⟨#[39, 40, 41, 43, 95, 44, 45, 46, 47, 58, 61, 63, 32]⟩, .int .u8 (x : Int)] w fun e w' => ∃ i : Int, e = .returned (.int .i64 i) ∧ decide (0 ≤ i) = more.contains x ∧ w' = w := by
  obtain ⟨i, hi⟩ : ∃ i, Lib.indexByte [39, 40, 41, 43, 95, 44, 45, 46, 47, 58, 61, 63, 32] x.toUInt8 = i := ⟨_, rfl⟩
  have hn := ix_pos ⟨x, hx⟩
  simp only at hn
  rw [hi] at hn
  have h50 : ∀ W : World, (callFunc 30 #[.string ⟨#[39, 40, 41, 43, 95, 44, 45, 46, 47, 58, 61, 63, 32]⟩, .int .u8 (x : Int)]).run Try.prog W = .ok (.value (.int .i64 i)) W := fun W => by
    rw [run_callFunc_extern Try.func30 (by kernel_rfl) (by kernel_rfl) (by kernel_rfl) (e := Extern.BytealgIndexByte.indexByte) (by kernel_rfl), Lib.run_indexByteString]
    rw [← hi]
    rfl
  have h46 : Calls Try.prog 26 #[.string ⟨#[39, 40, 41, 43, 95, 44, 45, 46, 47, 58, 61, 63, 32]⟩, .int .u8 (x : Int)] w fun e w' => e = .returned (.int .i64 i) ∧ w' = w := by
    clear hn hi hx
    go_enter Try.func26, Try.ntmps26
    go_wp2
    go_ret
    exact ⟨rfl, rfl⟩
  have A : Aside (decide (0 ≤ i) = more.contains x) := hn
  clear hn hi hx h50
  go_enter Try.func23, Try.ntmps23
  go_wp2_with (go_at_call 26; refine h46.mono ?_; rintro e1 w1 ⟨rfl, rfl⟩)
  go_ret
  exact ⟨i, rfl, A.out, rfl⟩
theorem allowed_c (x : Nat) (hx : x < 256) (w : World) : Calls Try.prog 16 #[.int .u8 (x : Int)] w fun e w' => e = .returned (.bool (okb x)) ∧ w' = w := by
  have hix := index_c x hx w
  obtain ⟨r, hr⟩ : ∃ r, okb x = r := ⟨_, rfl⟩
  rw [hr]
  by_cases h1 : 97 ≤ x ∧ x ≤ 122
  · have e : r = true := by rw [← hr]; simp [okb, h1]
    have a1 : ((97 : Int) ≤ (x : Int)) = True := eq_true (by omega)
    have a2 : ((x : Int) ≤ 122) = True := eq_true (by omega)
    have a3 : (97 ≤ x) = True := eq_true (by omega)
    have a4 : (x ≤ 122) = True := eq_true (by omega)
    subst e
    clear hr h1 hix
    go_enter Try.func16, Try.ntmps16
    go_wp2_with fail
    go_ret
    exact ⟨rfl, rfl⟩
  · by_cases h2 : 65 ≤ x ∧ x ≤ 90
    · have e : r = true := by rw [← hr]; simp [okb, h2]
      have a1 : ((97 : Int) ≤ (x : Int)) = False := eq_false (by omega)
      have a3 : (97 ≤ x) = False := eq_false (by omega)
      have b1 : ((65 : Int) ≤ (x : Int)) = True := eq_true (by omega)
      have b2 : ((x : Int) ≤ 90) = True := eq_true (by omega)
      have b3 : (65 ≤ x) = True := eq_true (by omega)
      have b4 : (x ≤ 90) = True := eq_true (by omega)
      subst e
      clear hr h1 h2 hix
      go_enter Try.func16, Try.ntmps16
      go_wp2_with fail
      go_ret
      exact ⟨rfl, rfl⟩
    · by_cases h3 : 48 ≤ x ∧ x ≤ 57
      · have e : r = true := by rw [← hr]; simp [okb, h3]
        have a1 : ((97 : Int) ≤ (x : Int)) = False := eq_false (by omega)
        have a3 : (97 ≤ x) = False := eq_false (by omega)
        have b1 : ((65 : Int) ≤ (x : Int)) = False := eq_false (by omega)
        have b3 : (65 ≤ x) = False := eq_false (by omega)
        have d1 : ((48 : Int) ≤ (x : Int)) = True := eq_true (by omega)
        have d2 : ((x : Int) ≤ 57) = True := eq_true (by omega)
        have d3 : (48 ≤ x) = True := eq_true (by omega)
        have d4 : (x ≤ 57) = True := eq_true (by omega)
        subst e
        clear hr h1 h2 h3 hix
        go_enter Try.func16, Try.ntmps16
        go_wp2_with fail
        go_ret
        exact ⟨rfl, rfl⟩
      · have e : more.contains x = r := by
          rw [← hr]
          have e1 : (decide (97 ≤ x) && decide (x ≤ 122)) = false := by simp; omega
          have e2 : (decide (65 ≤ x) && decide (x ≤ 90)) = false := by simp; omega
          have e3 : (decide (48 ≤ x) && decide (x ≤ 57)) = false := by simp; omega
          simp [okb, e1, e2, e3]
        rw [e] at hix
        obtain ⟨p1, hp1⟩ : ∃ p, decide (97 ≤ x) = p := ⟨_, rfl⟩
        have key : (x < 48) ∨ (57 < x ∧ x < 65) ∨ (90 < x ∧ x < 97) ∨ 122 < x := by omega
        clear hr e h1 h2 h3 hp1
        rcases key with k | ⟨k, k2⟩ | ⟨k, k2⟩ | k
        · have a1 : ((97 : Int) ≤ (x : Int)) = False := eq_false (by omega)
          have a3 : (97 ≤ x) = False := eq_false (by omega)
          have b1 : ((65 : Int) ≤ (x : Int)) = False := eq_false (by omega)
          have b3 : (65 ≤ x) = False := eq_false (by omega)
          have d1 : ((48 : Int) ≤ (x : Int)) = False := eq_false (by omega)
          have d3 : (48 ≤ x) = False := eq_false (by omega)
          clear k
          go_enter Try.func16, Try.ntmps16
          go_wp2_with (go_at_call 23; refine hix.mono ?_; rintro e1 w1 ⟨i, rfl, hi, rfl⟩)
          go_ret
          exact ⟨by rw [← hi]; rfl, rfl⟩
        · have a1 : ((97 : Int) ≤ (x : Int)) = False := eq_false (by omega)
          have a3 : (97 ≤ x) = False := eq_false (by omega)
          have b1 : ((65 : Int) ≤ (x : Int)) = False := eq_false (by omega)
          have b3 : (65 ≤ x) = False := eq_false (by omega)
          have d1 : ((48 : Int) ≤ (x : Int)) = True := eq_true (by omega)
          have d3 : (48 ≤ x) = True := eq_true (by omega)
          have d2 : ((x : Int) ≤ 57) = False := eq_false (by omega)
          have d4 : (x ≤ 57) = False := eq_false (by omega)
          clear k k2
          go_enter Try.func16, Try.ntmps16
          go_wp2_with (go_at_call 23; refine hix.mono ?_; rintro e1 w1 ⟨i, rfl, hi, rfl⟩)
          go_ret
          exact ⟨by rw [← hi]; rfl, rfl⟩
        · have a1 : ((97 : Int) ≤ (x : Int)) = False := eq_false (by omega)
          have a3 : (97 ≤ x) = False := eq_false (by omega)
          have b1 : ((65 : Int) ≤ (x : Int)) = True := eq_true (by omega)
          have b3 : (65 ≤ x) = True := eq_true (by omega)
          have b2 : ((x : Int) ≤ 90) = False := eq_false (by omega)
          have b4 : (x ≤ 90) = False := eq_false (by omega)
          have d1 : ((48 : Int) ≤ (x : Int)) = True := eq_true (by omega)
          have d3 : (48 ≤ x) = True := eq_true (by omega)
          have d2 : ((x : Int) ≤ 57) = False := eq_false (by omega)
          have d4 : (x ≤ 57) = False := eq_false (by omega)
          clear k k2
          go_enter Try.func16, Try.ntmps16
          go_wp2_with (go_at_call 23; refine hix.mono ?_; rintro e1 w1 ⟨i, rfl, hi, rfl⟩)
          go_ret
          exact ⟨by rw [← hi]; rfl, rfl⟩
        · have a1 : ((97 : Int) ≤ (x : Int)) = True := eq_true (by omega)
          have a3 : (97 ≤ x) = True := eq_true (by omega)
          have a2 : ((x : Int) ≤ 122) = False := eq_false (by omega)
          have a4 : (x ≤ 122) = False := eq_false (by omega)
          have b1 : ((65 : Int) ≤ (x : Int)) = True := eq_true (by omega)
          have b3 : (65 ≤ x) = True := eq_true (by omega)
          have b2 : ((x : Int) ≤ 90) = False := eq_false (by omega)
          have b4 : (x ≤ 90) = False := eq_false (by omega)
          have d1 : ((48 : Int) ≤ (x : Int)) = True := eq_true (by omega)
          have d3 : (48 ≤ x) = True := eq_true (by omega)
          have d2 : ((x : Int) ≤ 57) = False := eq_false (by omega)
          have d4 : (x ≤ 57) = False := eq_false (by omega)
          clear k
          go_enter Try.func16, Try.ntmps16
          go_wp2_with (go_at_call 23; refine hix.mono ?_; rintro e1 w1 ⟨i, rfl, hi, rfl⟩)
          go_ret
          exact ⟨by rw [← hi]; rfl, rfl⟩
end Go.Proofs.Ytbndohpcaahenab

/-
  BitsReverses holds: Reverse is what the document says, Reverse of Reverse is the lowest n bits of v, and Reverse(1, 3) is 4, whatever number and count are asked.
  Conditions: none; the number is any uint32, the count any int.
-/
import Derived.Test.YtceblecdobbldaaRev
import Derived.WalkKit
import Derived.ProofKit
import Derived.OpenShut
import Derived.ShutString
import Derived.ChangeOld
import Derived.Below
namespace Go.Proofs.Ytceblecdobbldaa.bitsReverses
open Go.ChangeShapes Go.WideShapes Go.ChangeAt Go.RowKit
open Go.ChangeMaps (open_string shut_string)
set_option linter.unusedVariables false

theorem own : ownKnob Try.prog.godebug = none := by kernel_rfl
theorem laidOut : laidOutB Try.prog = true := by kernel_rfl

set_option maxRecDepth 100000 in
set_option maxHeartbeats 1000000 in
theorem inner (w : World) (v x y : Nat) (a1 : Int) (hv : v < 4294967296) (hx : x < 4294967296) (hy : y = v % 2 ^ clamp a1)
    (c1 : ∀ w, Calls Try.prog 20 #[.int .u32 v, .int .i64 a1] w fun e w' => e = .returned (.int .u32 x) ∧ w = w')
    (c2 : ∀ w, Calls Try.prog 21 #[.int .u32 v, .int .i64 a1] w fun e w' => e = .returned (.int .u32 x) ∧ w = w')
    (c3 : ∀ w, Calls Try.prog 20 #[.int .u32 x, .int .i64 a1] w fun e w' => e = .returned (.int .u32 y) ∧ w = w') :
    Calls Try.prog 4 #[.int .u32 v, .int .i64 a1] w fun e w' => e = .returned (.bool true) ∧ Below w.heap.size w w' := by
  have e1 : ((x : Int) == x) = true := by simp
  have e2 : ((y : Int) == y) = true := by simp
  have r13 : ((revl (clamp 3) 1 0 : Nat) : Int) = 4 := by decide
  have c4 : ∀ w, Calls Try.prog 20 #[.int .u32 1, .int .i64 3] w fun e w' => e = .returned (.int .u32 4) ∧ w = w' := fun w => by
    have := rev_c 1 (by decide) 3 w
    rw [r13] at this; exact this
  clear r13
  go_enter Try.func4, Try.ntmps4
  go_wp2_with fail
  refine (c1 _).mono ?_
  rintro e w' ⟨rfl, rfl⟩
  rcases (by omega : a1 ≤ 0 ∨ (0 < a1 ∧ a1 < 32) ∨ 32 ≤ a1) with h | ⟨h, h'⟩ | h
  · have hc : clamp a1 = 0 := by unfold clamp; omega
    rw [hc, Nat.pow_zero, Nat.mod_one] at hy
    subst hy
    clear hc
    go_wp2_with fail
    refine (c2 _).mono ?_
    rintro e w' ⟨rfl, rfl⟩
    go_wp2_with fail
    refine (c3 _).mono ?_
    rintro e w' ⟨rfl, rfl⟩
    go_wp2_with fail
    refine (c4 _).mono ?_
    rintro e w' ⟨rfl, rfl⟩
    go_wp2_with fail
    go_ret
    exact ⟨rfl, Below.refl _ _⟩
  · have hc : (clamp a1 : Int) = a1 := by unfold clamp; omega
    obtain ⟨m, rfl⟩ : ∃ m : Nat, a1 = (m : Int) := ⟨a1.toNat, by omega⟩
    have hc2 : clamp m = m := by omega
    rw [hc2] at hy
    clear hc hc2
    have hp : 2 ^ m ≤ 2147483648 := pow_le64 (show m ≤ 31 by omega)
    have hw : IntKind.u64.wrap (2 ^ m) = (2 : Int) ^ m := by
      have := wrap64_nat (a := 2 ^ m) (by omega)
      push_cast at this; exact this
    have hyi : (v : Int) % 2 ^ m = (y : Int) := by
      have e : (v : Int) % 2 ^ m = ((v % 2 ^ m : Nat) : Int) := by push_cast; rfl
      rw [e, hy]
    have hyb : y < 4294967296 := by
      have := Nat.mod_lt v (Nat.two_pow_pos m)
      omega
    have hyj : (y : Int) % 4294967296 = (y : Int) := by omega
    clear hy
    have hz : ¬ IntKind.u64.wrap (2 ^ m) = 0 := by
      rw [hw]; have := Int.pow_pos (n := 2) (m := m) (by decide); omega
    go_wp2_with fail
    refine (c2 _).mono ?_
    rintro e w' ⟨rfl, rfl⟩
    go_wp2_with fail
    refine (c3 _).mono ?_
    rintro e w' ⟨rfl, rfl⟩
    try rw [hyi]
    go_wp2_with fail
    refine (c4 _).mono ?_
    rintro e w' ⟨rfl, rfl⟩
    go_wp2_with fail
    go_ret
    exact ⟨rfl, Below.refl _ _⟩
  · have hc : clamp a1 = 32 := by unfold clamp; omega
    rw [hc, Nat.mod_eq_of_lt hv] at hy
    subst hy
    have hyi : (y : Int) % 4294967296 = (y : Int) := by omega
    clear hc
    go_wp2_with fail
    refine (c2 _).mono ?_
    rintro e w' ⟨rfl, rfl⟩
    go_wp2_with fail
    refine (c3 _).mono ?_
    rintro e w' ⟨rfl, rfl⟩
    try rw [hyi]
    go_wp2_with fail
    refine (c4 _).mono ?_
    rintro e w' ⟨rfl, rfl⟩
    go_wp2_with fail
    go_ret
    exact ⟨rfl, Below.refl _ _⟩

theorem walk (w : World) (a0 : Int) (w0 : (Lit.int .u32 a0).wf = true) (a1 : Int) (w1 : (Lit.int .i64 a1).wf = true) :
    Calls Try.prog 4 #[.int .u32 a0, .int .i64 a1] w fun e w' => e = .returned (.bool true) ∧ Below w.heap.size w w' := by
  have hb := bounds_u32 w0
  obtain ⟨v, rfl, hv⟩ : ∃ v : Nat, a0 = (v : Int) ∧ v < 4294967296 := ⟨a0.toNat, by omega, by omega⟩
  have hm := clamp_le a1
  have hx : revl (clamp a1) v 0 < 4294967296 := by
    have h1 := revl_lt (clamp a1) v 0 0 (by decide)
    rw [Nat.zero_add] at h1
    exact Nat.lt_of_lt_of_le h1 (pow_le64 hm)
  have c3 := rev_c (revl (clamp a1) v 0) hx a1
  rw [revl_twice (clamp a1) v] at c3
  exact inner w v _ _ a1 hv hx rfl (rev_c v hv a1) (rrev_c v hv a1) c3

set_option maxRecDepth 100000 in
theorem lifted (os : Os) (started : os.Started) (H : Type) (enc : TypeId × Value → H) :
    ReturnsInHanded {} Try.checked os 4 .any (Rows.bitsReversesSpec.pre6 enc Try.prog Try.f4 Rows.bitsReversesRow.domain false) (Rows.bitsReversesSpec.post enc Try.prog Try.f4 false true false false) := by
  refine returnsInHanded_of_change (C := Try.checked) own started (by kernel_rfl) Try.func4
    (ChangeSpec.witness6 (enc := enc) (C := Try.checked) false ⟨#[], #[.int .u32 0, .int .i64 0], []⟩ 8 (by kernel_rfl) (by kernel_rfl) (by kernel_rfl) (by kernel_rfl)) ?_
  intro W base args ds gs before hval0 hW hcnd _
  have hval : ∀ (j : Nat) t v, Try.f4.params[j]? = some t → args[j]? = some v → Value.okWide Try.prog W .any base t v := hval0
  have hW' := hW
  obtain ⟨p, q, hA0, hV, rfl, hfz, hnd⟩ := hW
  have hA : DataW.TrodAll enc Try.prog W 0 (fun _ => true) true Try.f4.params.toList args.toList ds p := hA0
  rw [Try.params4] at hA hval
  obtain ⟨v0, vs0, d0, ds0, p0, q0, hargs, rfl, rfl, h0, r0⟩ := trodAll_cons hA
  obtain ⟨v1, vs1, d1, ds1, p1, q1, rfl, rfl, rfl, h1, r1⟩ := trodAll_cons r0
  obtain ⟨rfl, rfl, rfl⟩ := trodAll_nil r1
  obtain rfl : args = #[v0, v1] := by cases args; simp_all
  obtain ⟨rfl, rfl⟩ := trodVars_none hV
  obtain ⟨a0, rfl, rfl, rfl, w0⟩ := open_int Try.underlying33 (hval 0 33 v0 rfl rfl) h0
  obtain ⟨a1, rfl, rfl, rfl, w1⟩ := open_int Try.underlying3 (hval 1 3 v1 rfl rfl) h1
  clear hA0 hval0
  refine (walk W a0 w0 a1 w1).mono fun e W' ⟨he, bel⟩ => ?_
  subst he
  exact ⟨_, rfl, _, _, _, [], _, [], hW', trodAll_mk1 (shut_bool Try.underlying4 _), (trodAll_cons_mk (shut_int Try.underlying33 w0) (trodAll_cons_mk (shut_int Try.underlying3 w1) trodAll_mk0)), rfl, bel.frame _, fun h => by cases h⟩

theorem over : Rows.bitsReversesRow.holds Try.pinned (OpenSpec.ofChange Rows.bitsReversesSpec) :=
  OpenClaim.holds_of_wide 4 Try.f4 rfl rfl rfl rfl rfl rfl rfl ⟨rfl, rfl, rfl, rfl, rfl⟩ rfl rfl rfl rfl rfl (by kernel_rfl) Try.func4 (by kernel_rfl)
    (of_decide_eq_true (by kernel_rfl)) (by unfold Func.isWrapper; first | (rw [if_pos (by decide +kernel)]; kernel_rfl) | (rw [if_neg (by decide +kernel)]; exact ⟨rfl, rfl⟩))
    (fun os started H enc _ => lifted os started H enc)

end Go.Proofs.Ytceblecdobbldaa.bitsReverses
namespace Go.Proofs.Ytceblecdobbldaa
/-- The statement. -/
theorem bitsReverses_holds : Rows.BitsReversesSaid := bitsReverses.over
#print axioms bitsReverses_holds
end Go.Proofs.Ytceblecdobbldaa

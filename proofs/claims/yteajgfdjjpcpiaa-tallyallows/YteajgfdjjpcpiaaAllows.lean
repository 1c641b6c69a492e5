/-
  TallyAllows holds: what is allowed is never above the total nor above ratio times n and slack, is one of the two, and does not fall with a greater n, whatever numbers are given.
  Conditions: none; the numbers are any uint64.
-/
import Derived.Test.YteajgfdjjpcpiaaPlain
import Derived.Test.YteajgfdjjpcpiaaOpen
import Derived.WalkKit
import Derived.ProofKit
import Derived.OpenShut
import Derived.ShutString
import Derived.ChangeOld
import Derived.Below
namespace Go.Proofs.Yteajgfdjjpcpiaa.tallyAllows
open Go.ChangeShapes Go.WideShapes Go.ChangeAt Go.RowKit
open Go.ChangeMaps (open_string shut_string)
set_option linter.unusedVariables false

theorem own : ownKnob Try.prog.godebug = none := by kernel_rfl
theorem laidOut : laidOutB Try.prog = true := by kernel_rfl

theorem core (w : World) (t r s n m : Int) (ht : Word t) (hr : Word r) (hs : Word s) (hn : Word n) (hm : Word m) :
    Calls Try.prog 7 #[.int .u64 t, .int .u64 r, .agg #[.int .u64 s, .int .u64 n, .int .u64 m]] w fun e w' => e = .returned (.bool true) ∧ Below w.heap.size w w' := by
  have z0 : Word 0 := by constructor <;> decide
  have z7 : Word 7 := by constructor <;> decide
  have f1 : alw t r s n ≤ t := lesser_le_r _ _
  have f2 : alw t r s n ≤ pls (tms r n) s := lesser_le_l _ _
  have f3 : alw t r s n = t ∨ alw t r s n = pls (tms r n) s := lesser_or _ _
  have f4 : alw t r s n ≤ alw t r s (pls n m) := alw_mono t r s n _ hr.1 (pls_ge _ _ hn hm.1)
  have f5 : (alw t 0 t 7 == t) = true := by rw [alw_full t ht]; simp
  have hp := pls_word hn hm
  have hq := tms_word hr hn
  by_cases c : (alw t r s n == t) = true
  · clear f3
    go_enter Try.func7, Try.ntmps7
    go_wp2_with fail
    refine (allowed_c t r s n ht hr hs hn _).mono ?_
    rintro e w' ⟨rfl, rfl⟩
    go_wp2_with fail
    refine (add_c n m hn hm _).mono ?_
    rintro e w' ⟨rfl, rfl⟩
    go_wp2_with fail
    refine (allowed_c t r s _ ht hr hs hp _).mono ?_
    rintro e w' ⟨rfl, rfl⟩
    go_wp2_with fail
    refine (times_c r n hr hn _).mono ?_
    rintro e w' ⟨rfl, rfl⟩
    go_wp2_with fail
    refine (add_c _ s hq hs _).mono ?_
    rintro e w' ⟨rfl, rfl⟩
    go_wp2_with fail
    refine (allowed_c t 0 t 7 ht z0 ht z7 _).mono ?_
    rintro e w' ⟨rfl, rfl⟩
    go_wp2_with fail
    go_ret
    exact ⟨rfl, (Below.refl _ _).alloc (Nat.le_refl _) _⟩
  · have c' : (alw t r s n == t) = false := by simpa using c
    have c2 : (alw t r s n == pls (tms r n) s) = true := by
      rcases f3 with f3 | f3
      · rw [f3] at c; simp at c
      · simp [f3]
    clear f3 c
    go_enter Try.func7, Try.ntmps7
    go_wp2_with fail
    refine (allowed_c t r s n ht hr hs hn _).mono ?_
    rintro e w' ⟨rfl, rfl⟩
    go_wp2_with fail
    refine (add_c n m hn hm _).mono ?_
    rintro e w' ⟨rfl, rfl⟩
    go_wp2_with fail
    refine (allowed_c t r s _ ht hr hs hp _).mono ?_
    rintro e w' ⟨rfl, rfl⟩
    go_wp2_with fail
    refine (times_c r n hr hn _).mono ?_
    rintro e w' ⟨rfl, rfl⟩
    go_wp2_with fail
    refine (add_c _ s hq hs _).mono ?_
    rintro e w' ⟨rfl, rfl⟩
    go_wp2_with fail
    refine (allowed_c t 0 t 7 ht z0 ht z7 _).mono ?_
    rintro e w' ⟨rfl, rfl⟩
    go_wp2_with fail
    go_ret
    exact ⟨rfl, (Below.refl _ _).alloc (Nat.le_refl _) _⟩

theorem walk {H : Type} {enc : TypeId × Value → H} (w : World) (base : Nat) (a0 : Int) (w0 : (Lit.int .u64 a0).wf = true) (a1 : Int) (w1 : (Lit.int .u64 a1).wf = true) (v2 : Value) (d2 : DataW H) (p2 : List MemPlace) (o2 : Value.okWide Try.prog w .any base 39 v2) (h2 : DataW.Trod enc Try.prog w 0 (fun _ => true) true 39 v2 d2 p2) :
    Calls Try.prog 7 #[.int .u64 a0, .int .u64 a1, v2] w fun e w' => e = .returned (.bool true) ∧ Below w.heap.size w w' := by
  obtain ⟨zs, hl, rfl, hw⟩ := open_arr Try.underlying39 Try.underlying22 (by kernel_rfl) (by kernel_rfl) o2 h2
  match zs, hl with
  | [x, y, z], _ => exact core w a0 a1 x y z (word_of_wf w0) (word_of_wf w1) (word_of_wf (hw x (by simp))) (word_of_wf (hw y (by simp))) (word_of_wf (hw z (by simp)))


set_option maxRecDepth 100000 in
theorem lifted (os : Os) (started : os.Started) (H : Type) (enc : TypeId × Value → H) :
    ReturnsInHanded {} Try.checked os 7 .any (Rows.tallyAllowsSpec.pre6 enc Try.prog Try.f7 Rows.tallyAllowsRow.domain false) (Rows.tallyAllowsSpec.post enc Try.prog Try.f7 false true false false) := by
  refine returnsInHanded_of_change (C := Try.checked) own started (by kernel_rfl) Try.func7
    (ChangeSpec.witness6 (enc := enc) (C := Try.checked) false ⟨#[], #[.int .u64 0, .int .u64 0, .agg #[.int .u64 0, .int .u64 0, .int .u64 0]], []⟩ 8 (by kernel_rfl) (by kernel_rfl) (by kernel_rfl) (by kernel_rfl)) ?_
  intro W base args ds gs before hval0 hW hcnd _
  have hval : ∀ (j : Nat) t v, Try.f7.params[j]? = some t → args[j]? = some v → Value.okWide Try.prog W .any base t v := hval0
  have hW' := hW
  obtain ⟨p, q, hA0, hV, rfl, hfz, hnd⟩ := hW
  have hA : DataW.TrodAll enc Try.prog W 0 (fun _ => true) true Try.f7.params.toList args.toList ds p := hA0
  rw [Try.params7] at hA hval
  obtain ⟨v0, vs0, d0, ds0, p0, q0, hargs, rfl, rfl, h0, r0⟩ := trodAll_cons hA
  obtain ⟨v1, vs1, d1, ds1, p1, q1, rfl, rfl, rfl, h1, r1⟩ := trodAll_cons r0
  obtain ⟨v2, vs2, d2, ds2, p2, q2, rfl, rfl, rfl, h2, r2⟩ := trodAll_cons r1
  obtain ⟨rfl, rfl, rfl⟩ := trodAll_nil r2
  obtain rfl : args = #[v0, v1, v2] := by cases args; simp_all
  obtain ⟨rfl, rfl⟩ := trodVars_none hV
  obtain ⟨a0, rfl, rfl, rfl, w0⟩ := open_int Try.underlying22 (hval 0 22 v0 rfl rfl) h0
  obtain ⟨a1, rfl, rfl, rfl, w1⟩ := open_int Try.underlying22 (hval 1 22 v1 rfl rfl) h1
  have o2 := hval 2 39 v2 rfl rfl
  have lt2 : ∀ x ∈ p2, x.block < W.heap.size := by obtain ⟨m, hm⟩ := h2; exact DataW.trod_lt m _ _ _ hm
  clear hA0 hval0
  refine (walk W base a0 w0 a1 w1 v2 d2 p2 o2 h2).mono fun e W' ⟨he, bel⟩ => ?_
  subst he
  exact ⟨_, rfl, _, _, _, [], _, [], hW', trodAll_mk1 (shut_bool Try.underlying4 _), (trodAll_cons_mk (shut_int Try.underlying22 w0) (trodAll_cons_mk (shut_int Try.underlying22 w1) (trodAll_cons_mk (Below.trod laidOut (by kernel_rfl) (of_decide_eq_true (by kernel_rfl)) h2 bel lt2) trodAll_mk0))), rfl, bel.frame _, fun h => by cases h⟩

theorem over : Rows.tallyAllowsRow.holds Try.pinned (OpenSpec.ofChange Rows.tallyAllowsSpec) :=
  OpenClaim.holds_of_wide 7 Try.f7 rfl rfl rfl rfl rfl rfl rfl ⟨rfl, rfl, rfl, rfl, rfl⟩ rfl rfl rfl rfl rfl (by kernel_rfl) Try.func7 (by kernel_rfl)
    (of_decide_eq_true (by kernel_rfl)) (by unfold Func.isWrapper; first | (rw [if_pos (by decide +kernel)]; kernel_rfl) | (rw [if_neg (by decide +kernel)]; exact ⟨rfl, rfl⟩))
    (fun os started H enc _ => lifted os started H enc)

end Go.Proofs.Yteajgfdjjpcpiaa.tallyAllows
namespace Go.Proofs.Yteajgfdjjpcpiaa
/-- The statement. -/
theorem tallyAllows_holds : Rows.TallyAllowsSaid := tallyAllows.over
#print axioms tallyAllows_holds
end Go.Proofs.Yteajgfdjjpcpiaa

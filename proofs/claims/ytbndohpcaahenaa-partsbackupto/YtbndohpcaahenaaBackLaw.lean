/-
  For every slice of slices of bytes, every text and every two slices of bytes the law PartsBack returns true: parts that are written are cut again, whatever letters stand in a line ahead, and whatever bytes stand behind; the arguments are left as they were. Conditions: the second form: what comes in is of bulk at most 1048576 (the statement's own bound); none besides.
-/
import Derived.Test.YtbndohpcaahenaaBackCore
import Derived.Test.YtbndohpcaahenaaOpenA
import Derived.WalkKit
import Derived.ProofKit
import Derived.OpenShut
import Derived.ShutString
import Derived.ChangeOld
import Derived.Below
import Derived.JoinedCond
namespace Go.Proofs.Ytbndohpcaahenaa.partsBackUpto
open Go.ChangeShapes Go.WideShapes Go.ChangeAt Go.RowKit
open Go.ChangeMaps (open_string shut_string)
set_option linter.unusedVariables false

theorem own : ownKnob Try.prog.godebug = none := by kernel_rfl
theorem laidOut : laidOutB Try.prog = true := by kernel_rfl

theorem walk {H : Type} {enc : TypeId × Value → H} (w : World) (base : Nat) (v0 : Value) (d0 : DataW H) (p0 : List MemPlace) (o0 : Value.okWide Try.prog w .any base 23 v0) (h0 : DataW.Trod enc Try.prog w 0 (fun _ => true) true 23 v0 d0 p0) (a1 : ByteArray) (w1 : a1.size ≤ maxLen) (v2 : Value) (d2 : DataW H) (p2 : List MemPlace) (o2 : Value.okWide Try.prog w .any base 53 v2) (h2 : DataW.Trod enc Try.prog w 0 (fun _ => true) true 53 v2 d2 p2) (hk : Rows.uptoBulkAll ([d0, .lit (.string a1.data.toList), d2] : List (DataW H)) ≤ 1048576) :
    Calls Try.prog 7 #[v0, .string a1, v2] w fun e w' => e = .returned (.bool true) ∧ Below w.heap.size w w' := by
  have e0 : Rows.uptoBulk d0 ≤ 1048576 ∧ (bl a1).length ≤ 1048576 ∧ Rows.uptoBulk d2 ≤ 1048576 := by
    simp only [Rows.uptoBulkAll, Rows.uptoBulk] at hk
    simp only [bl, List.length_map]
    omega
  obtain ⟨a, ls, N, C, rfl, h1, h2', h3, h4, h5, h6, h7, h8⟩ := open_parts o0 h0 e0.1
  obtain ⟨c, l, cc, d, m, cd, rfl, k1, k2, k3, k4, k5, k6⟩ := open_two Try.underlying53 Try.underlying22 Try.underlying5 cells5' cells22' cells53' o2 h2
  have := back_core w a ls N C (bl a1) c l l.length cc d m m.length cd h5 h1 h3 h4 (fun hv => h8 _ (vd_len hv).2) (bl_oct _) (by omega) k1 rfl (by omega) k2 rfl (by omega) k5 k4
  rw [st_bl] at this
  exact this


set_option maxRecDepth 100000 in
theorem lifted (os : Os) (started : os.Started) (H : Type) (enc : TypeId × Value → H) (F : Stop.Interp) :
    ReturnsInHanded {} Try.checked os 7 .any ((Rows.OpenSpec.upto Rows.partsBackSpec).pre6 enc Try.prog Try.f7 Rows.partsBackUptoRow.domain false) (((Rows.OpenSpec.upto Rows.partsBackSpec).at F).post enc Try.prog Try.f7 false true false false) := by
  refine returnsInHanded_of_cond (C := Try.checked) (s := (Rows.OpenSpec.upto Rows.partsBackSpec)) (k := Rows.uptoSmall) rfl own started (by kernel_rfl) Try.func7
    (OpenSpec.witness (enc := enc) (C := Try.checked) (s := (Rows.OpenSpec.upto Rows.partsBackSpec)) (k := Rows.uptoSmall) rfl false ⟨#[], #[.slice none 0 0, .string ⟨#[]⟩, .agg #[.slice none 0 0, .slice none 0 0]], []⟩ 8 (by kernel_rfl) (by kernel_rfl) (by kernel_rfl)
      (x := ([.nil, .lit (.string []), .agg [.nil, .nil]], [], [])) (by kernel_rfl) rfl (by kernel_rfl)) ?_
  intro W base args ds gs before hval0 hW _ hk _
  have hval : ∀ (j : Nat) t v, Try.f7.params[j]? = some t → args[j]? = some v → Value.okWide Try.prog W .any base t v := hval0
  have hW' := hW
  obtain ⟨p, q, hA0, hV, rfl, hfz, hnd⟩ := hW
  have hA : DataW.TrodAll enc Try.prog W 0 (fun _ => true) true Try.f7.params.toList args.toList ds p := hA0
  rw [Try.params7] at hA hval
  obtain ⟨v0, vs0, d0, ds0, p0, q0, hargs, rfl, rfl, h0, r0⟩ := trodAll_cons hA
  obtain ⟨v1, vs1, d1, ds1, p1, q1, rfl, rfl, rfl, h1, r1⟩ := trodAll_cons r0
  obtain ⟨v2, vs2, d2, ds2, p2, q2, rfl, rfl, rfl, h2, r2⟩ := trodAll_cons r1
  obtain ⟨rfl, rfl, rfl⟩ := trodAll_nil r2
  obtain rfl : args = #[v0, v1, v2] := by cases args; simp_all
  obtain ⟨rfl, rfl⟩ := trodVars_none hV
  have o0 := hval 0 23 v0 rfl rfl
  have lt0 : ∀ x ∈ p0, x.block < W.heap.size := by obtain ⟨m, hm⟩ := h0; exact DataW.trod_lt m _ _ _ hm
  obtain ⟨a1, rfl, rfl, rfl, w1⟩ := open_string Try.underlying9 (hval 1 9 v1 rfl rfl) h1
  have o2 := hval 2 53 v2 rfl rfl
  have lt2 : ∀ x ∈ p2, x.block < W.heap.size := by obtain ⟨m, hm⟩ := h2; exact DataW.trod_lt m _ _ _ hm
  clear hA0 hval0
  refine (walk (enc := enc) W base v0 d0 p0 o0 h0 a1 w1 v2 d2 p2 o2 h2 (of_decide_eq_true (show Rows.uptoSmall H [d0, .lit (.string a1.data.toList), d2] = true by simpa only [List.append_nil] using hk))).mono fun e W' ⟨he, bel⟩ => ?_
  subst he
  exact ⟨_, rfl, _, _, _, [], _, [], hW', trodAll_mk1 (shut_bool Try.underlying4 _), (trodAll_cons_mk (Below.trod laidOut (by kernel_rfl) (of_decide_eq_true (by kernel_rfl)) h0 bel lt0) (trodAll_cons_mk (shut_string Try.underlying9 w1) (trodAll_cons_mk (Below.trod laidOut (by kernel_rfl) (of_decide_eq_true (by kernel_rfl)) h2 bel lt2) trodAll_mk0))), rfl, bel.frame _, fun h => by cases h⟩

theorem over : Rows.partsBackUptoRow.holds Try.pinned (Rows.OpenSpec.upto Rows.partsBackSpec) :=
  OpenClaim.holds_of_cond 7 Try.f7 rfl rfl rfl rfl rfl rfl rfl ⟨rfl, rfl, rfl, rfl, rfl⟩ rfl rfl rfl rfl rfl (by kernel_rfl) Try.func7 (by kernel_rfl)
    (of_decide_eq_true (by kernel_rfl)) (by unfold Func.isWrapper; first | (rw [if_pos (by decide +kernel)]; kernel_rfl) | (rw [if_neg (by decide +kernel)]; exact ⟨rfl, rfl⟩))
    (fun os started H enc _ F => lifted os started H enc F)

end Go.Proofs.Ytbndohpcaahenaa.partsBackUpto
namespace Go.Proofs.Ytbndohpcaahenaa
/-- The statement. -/
theorem partsBackUpto_holds : Rows.PartsBackUptoSaid := partsBackUpto.over
#print axioms partsBackUpto_holds
end Go.Proofs.Ytbndohpcaahenaa

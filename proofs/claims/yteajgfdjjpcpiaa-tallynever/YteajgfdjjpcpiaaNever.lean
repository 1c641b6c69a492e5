/-
  TallyNever holds: whatever is claimed of a ledger and given back, what is used and what is left are together the limit; a claim of what is left is granted, one of more is not.
  Conditions: none; the limit is any uint64, the calls are any list.
-/
import Derived.Test.YteajgfdjjpcpiaaLedger
import Derived.Test.YteajgfdjjpcpiaaPlain
import Derived.Test.YteajgfdjjpcpiaaOpen
import Derived.WalkKit
import Derived.ProofKit
import Derived.OpenShut
import Derived.ShutString
import Derived.ChangeOld
import Derived.Below
import Derived.Deep.QuietTactic
import Derived.BigQuiet
import Derived.WalkSmall
import Derived.Deep.RegionHeld3
import Derived.StillTactics
import Derived.Laws.Pointers
namespace Go.Proofs.Yteajgfdjjpcpiaa.tallyNever
open Go.ChangeShapes Go.WideShapes Go.ChangeAt Go.RowKit
open Go.ChangeMaps (open_string shut_string)
set_option linter.unusedVariables false

theorem own : ownKnob Try.prog.godebug = none := by kernel_rfl
theorem laidOut : laidOutB Try.prog = true := by kernel_rfl

/-- What is known of the calls: none, or a row of pairs in old memory. -/
def Row (w : World) (a : Option Addr) (len : Nat) : Prop :=
  len = 0 ∨ ∃ (b off : Nat) (G : Nat → Bool) (Z : Nat → Int), a = some ⟨b, off, none⟩ ∧ b < w.heap.size ∧
    ∀ i, i < len → w.cell? ⟨b, off + i * 2, none⟩ = some (.bool (G i)) ∧ w.cell? ⟨b, off + i * 2 + 1, none⟩ = some (.int .u64 (Z i)) ∧ (Lit.int .u64 (Z i)).wf = true

set_option maxHeartbeats 2000000 in
theorem core (w : World) (l : Int) (hl : Word l) (a : Option Addr) (len cap : Nat) (hlen : len ≤ maxLen) (hr : Row w a len) :
    Calls Try.prog 8 #[.int .u64 l, .slice a len cap] w fun e w' => e = .returned (.bool true) ∧ Below w.heap.size w w' := by
  unfold maxLen at hlen
  have l0 := hl.1
  have l1 := hl.2
  go_enter Try.func8, Try.ntmps8
  go_wp2_with fail
  refine (new_c l _).mono ?_
  rintro e w1 ⟨rfl, hled, hbel, hsz⟩
  go_wp2_with fail
  go_loopw [6, 7] (fun i _ wr => ∃ (k : Nat) (u : Int), k ≤ len ∧ i = .int .i64 k ∧ 0 ≤ u ∧ u ≤ l ∧ Led wr w.heap.size l u ∧ Below w.heap.size w wr) (fun i _ _ => len - (intOf i).toNat)
  case atStart => exact ⟨0, 0, Nat.zero_le _, rfl, Int.le_refl _, l0, hled, hbel⟩
  case round =>
    clear hled hbel hsz w1
    obtain ⟨k, u, hk, rfl, hu0, hul, hled, hbel⟩ := hrel
    have hk0 : (0 : Int) ≤ (k : Int) := Int.natCast_nonneg _
    by_cases hlt : k < len
    · rcases hr with hr | ⟨b, off, G, Z, rfl, hb, hc⟩
      · omega
      have hne : b ≠ w.heap.size := by omega
      obtain ⟨g0, g1, g2⟩ := hc k hlt
      have hz := word_of_wf g2
      have z0 := hz.1
      have hw : IntKind.u64.wrap (l - u) = l - u := wrap_u64_of (by omega) (by omega)
      have hki : (k : Int) < (len : Int) := by omega
      have g0' := (hbel.cell (p := ⟨b, off + k * 2, none⟩) hb).trans g0
      have g1' := (hbel.cell (p := ⟨b, off + k * 2 + 1, none⟩) hb).trans g1
      clear g0 g1 g2 hc
      cases hg : G k
      · rw [hg] at g0'
        clear hg
        by_cases hzu : Z k ≤ l - u
        · go_wp2_with fail
          refine (used_c _ l u _ hled).mono ?_
          rintro e w' ⟨rfl, rfl⟩
          go_wp2_with fail
          go_region_held3 (fun w' => w'.cell? ⟨b, off + k * 2 + 1, none⟩ = some (.int .u64 (Z k))) (first | assumption | (refine (Only.cell ho ?_).trans ?_ <;> assumption))
            (first | (go_at_call 20; refine (claim_yes _ l u (Z k) _ (by exact hled) hl hu0 hul z0 hzu).mono ?_; rintro e w2 ⟨rfl, hled2, ho⟩))
          obtain ⟨u2, v0, v1, hled2⟩ : ∃ u2, 0 ≤ u2 ∧ u2 ≤ l ∧ Led w2 w.heap.size l u2 := ⟨_, by omega, by omega, hled2⟩
          have hbel2 : Below w.heap.size w w2 := hbel.drew.trans (ho.below (Nat.le_refl _))
          have e2 : (u2 + (l - u2) != l) = false := by simp only [bne_eq_false_iff_eq]; omega
          have e3 : ¬ l < u2 := by omega
          clear hled ho hbel z0 hz g0' g1'
          go_wp2_with fail
          refine (used_c _ l u2 _ hled2).mono ?_
          rintro e w' ⟨rfl, rfl⟩
          go_wp2_with fail
          refine (used_c _ l u2 _ hled2).mono ?_
          rintro e w' ⟨rfl, rfl⟩
          go_wp2_with fail
          refine (left_any _ l u2 _ hled2 hl v0 v1).mono ?_
          rintro e w' ⟨rfl, n, rfl⟩
          go_wp2_with fail
          go_roundw
          case rel => exact ⟨k + 1, u2, by omega, by go_num, v0, v1, hled2.drewN _, below_drewN hbel2 _⟩
          case measure => simp [intOf]; omega
        · have hzu' : ¬ Z k ≤ l - u := hzu
          have hzv : l - u < Z k := by omega
          go_wp2_with fail
          refine (used_c _ l u _ hled).mono ?_
          rintro e w' ⟨rfl, rfl⟩
          go_wp2_with fail
          go_region_held3 (fun w' => w'.cell? ⟨b, off + k * 2 + 1, none⟩ = some (.int .u64 (Z k))) (first | assumption | (refine (Only.cell ho ?_).trans ?_ <;> assumption))
            (first | (go_at_call 20; refine (claim_no _ l u (Z k) _ (by exact hled) hl hu0 hul hzv).mono ?_; rintro e w2 ⟨rfl, hled2, ho⟩))
          obtain ⟨u2, v0, v1, hled2⟩ : ∃ u2, 0 ≤ u2 ∧ u2 ≤ l ∧ Led w2 w.heap.size l u2 := ⟨_, by omega, by omega, hled2⟩
          have hbel2 : Below w.heap.size w w2 := hbel.drew.trans (ho.below (Nat.le_refl _))
          have e2 : (u2 + (l - u2) != l) = false := by simp only [bne_eq_false_iff_eq]; omega
          have e3 : ¬ l < u2 := by omega
          clear hled ho hbel z0 hz g0' g1'
          go_wp2_with fail
          refine (used_c _ l u2 _ hled2).mono ?_
          rintro e w' ⟨rfl, rfl⟩
          go_wp2_with fail
          refine (used_c _ l u2 _ hled2).mono ?_
          rintro e w' ⟨rfl, rfl⟩
          go_wp2_with fail
          refine (left_any _ l u2 _ hled2 hl v0 v1).mono ?_
          rintro e w' ⟨rfl, n, rfl⟩
          go_wp2_with fail
          go_roundw
          case rel => exact ⟨k + 1, u2, by omega, by go_num, v0, v1, hled2.drewN _, below_drewN hbel2 _⟩
          case measure => simp [intOf]; omega
      · rw [hg] at g0'
        clear hg
        by_cases hzu : Z k ≤ u
        · go_wp2_with fail
          refine (used_c _ l u _ hled).mono ?_
          rintro e w' ⟨rfl, rfl⟩
          go_wp2_with fail
          go_region_held3 (fun w' => w'.cell? ⟨b, off + k * 2 + 1, none⟩ = some (.int .u64 (Z k))) (first | assumption | (refine (Only.cell ho ?_).trans ?_ <;> assumption))
            (first | (go_at_call 18; refine (give_yes _ l u (Z k) _ (by exact hled) ⟨hu0, by omega⟩ z0 hzu).mono ?_; rintro e w2 ⟨rfl, hled2, ho⟩))
          obtain ⟨u2, v0, v1, hled2⟩ : ∃ u2, 0 ≤ u2 ∧ u2 ≤ l ∧ Led w2 w.heap.size l u2 := ⟨_, by omega, by omega, hled2⟩
          have hbel2 : Below w.heap.size w w2 := hbel.drew.trans (ho.below (Nat.le_refl _))
          have e2 : (u2 + (l - u2) != l) = false := by simp only [bne_eq_false_iff_eq]; omega
          have e3 : ¬ l < u2 := by omega
          clear hled ho hbel z0 hz g0' g1'
          go_wp2_with fail
          refine (used_c _ l u2 _ hled2).mono ?_
          rintro e w' ⟨rfl, rfl⟩
          go_wp2_with fail
          refine (used_c _ l u2 _ hled2).mono ?_
          rintro e w' ⟨rfl, rfl⟩
          go_wp2_with fail
          refine (left_any _ l u2 _ hled2 hl v0 v1).mono ?_
          rintro e w' ⟨rfl, n, rfl⟩
          go_wp2_with fail
          go_roundw
          case rel => exact ⟨k + 1, u2, by omega, by go_num, v0, v1, hled2.drewN _, below_drewN hbel2 _⟩
          case measure => simp [intOf]; omega
        · have hzu' : ¬ Z k ≤ u := hzu
          have hzv : u < Z k := by omega
          go_wp2_with fail
          refine (used_c _ l u _ hled).mono ?_
          rintro e w' ⟨rfl, rfl⟩
          go_wp2_with fail
          go_region_held3 (fun w' => w'.cell? ⟨b, off + k * 2 + 1, none⟩ = some (.int .u64 (Z k))) (first | assumption | (refine (Only.cell ho ?_).trans ?_ <;> assumption))
            (first | (go_at_call 18; refine (give_no _ l u (Z k) _ (by exact hled) hzv).mono ?_; rintro e w2 ⟨rfl, hled2, ho⟩))
          obtain ⟨u2, v0, v1, hled2⟩ : ∃ u2, 0 ≤ u2 ∧ u2 ≤ l ∧ Led w2 w.heap.size l u2 := ⟨_, by omega, by omega, hled2⟩
          have hbel2 : Below w.heap.size w w2 := hbel.drew.trans (ho.below (Nat.le_refl _))
          have e2 : (u2 + (l - u2) != l) = false := by simp only [bne_eq_false_iff_eq]; omega
          have e3 : ¬ l < u2 := by omega
          clear hled ho hbel z0 hz g0' g1'
          go_wp2_with fail
          refine (used_c _ l u2 _ hled2).mono ?_
          rintro e w' ⟨rfl, rfl⟩
          go_wp2_with fail
          refine (used_c _ l u2 _ hled2).mono ?_
          rintro e w' ⟨rfl, rfl⟩
          go_wp2_with fail
          refine (left_any _ l u2 _ hled2 hl v0 v1).mono ?_
          rintro e w' ⟨rfl, n, rfl⟩
          go_wp2_with fail
          go_roundw
          case rel => exact ⟨k + 1, u2, by omega, by go_num, v0, v1, hled2.drewN _, below_drewN hbel2 _⟩
          case measure => simp [intOf]; omega
    · have hke : ¬ (k : Int) < (len : Int) := by omega
      go_wp2_with fail
      refine (left_any _ l u _ hled hl hu0 hul).mono ?_
      rintro e w' ⟨rfl, n, rfl⟩
      go_wp2_with fail
      refine (claim_yes _ l u (l - u) _ (hled.drewN _) hl hu0 hul (by omega) (Int.le_refl _)).mono ?_
      rintro e w2 ⟨rfl, hled2, ho2⟩
      rw [show u + (l - u) = l by omega] at hled2
      go_wp2_with fail
      refine (left_any _ l l _ hled2 hl l0 (Int.le_refl _)).mono ?_
      rintro e w' ⟨rfl, n2, rfl⟩
      go_wp2_with fail
      refine (claim_no _ l l 1 _ (hled2.drewN _) hl l0 (Int.le_refl _) (by omega)).mono ?_
      rintro e w3 ⟨rfl, hled3, ho3⟩
      go_wp2_with fail
      refine (give_yes _ l l l _ hled3 hl l0 (Int.le_refl _)).mono ?_
      rintro e w4 ⟨rfl, hled4, ho4⟩
      rw [Int.sub_self] at hled4
      go_wp2_with fail
      refine (used_c _ l 0 _ hled4).mono ?_
      rintro e w' ⟨rfl, rfl⟩
      go_wp2_with fail
      go_ret
      exact ⟨rfl, ((below_drewN ((below_drewN hbel _).trans (ho2.below (Nat.le_refl _))) _).trans (ho3.below (Nat.le_refl _))).trans (ho4.below (Nat.le_refl _))⟩

theorem walk {H : Type} {enc : TypeId × Value → H} (w : World) (base : Nat) (a0 : Int) (w0 : (Lit.int .u64 a0).wf = true) (v1 : Value) (d1 : DataW H) (p1 : List MemPlace) (o1 : Value.okWide Try.prog w .any base 27 v1) (h1 : DataW.Trod enc Try.prog w 0 (fun _ => true) true 27 v1 d1 p1) :
    Calls Try.prog 8 #[.int .u64 a0, v1] w fun e w' => e = .returned (.bool true) ∧ Below w.heap.size w w' := by
  rcases open_pairs Try.underlying27 Try.underlying35 (by kernel_rfl) rfl rfl (by kernel_rfl) (by kernel_rfl) Try.underlying4 Try.underlying22 o1 h1 with ⟨a, cap, rfl⟩ | ⟨b, off, len, cap, G, Z, rfl, hp, hl, hb, hc⟩
  · exact core w a0 (word_of_wf w0) a 0 cap (Nat.zero_le _) (Or.inl rfl)
  · exact core w a0 (word_of_wf w0) _ len cap hl (Or.inr ⟨b, off, G, Z, rfl, hb, hc⟩)


set_option maxRecDepth 100000 in
theorem lifted (os : Os) (started : os.Started) (H : Type) (enc : TypeId × Value → H) :
    ReturnsInHanded {} Try.checked os 8 .any (Rows.tallyNeverSpec.pre6 enc Try.prog Try.f8 Rows.tallyNeverRow.domain false) (Rows.tallyNeverSpec.post enc Try.prog Try.f8 false true false false) := by
  refine returnsInHanded_of_change (C := Try.checked) own started (by kernel_rfl) Try.func8
    (ChangeSpec.witness6 (enc := enc) (C := Try.checked) false ⟨#[], #[.int .u64 0, .slice none 0 0], []⟩ 8 (by kernel_rfl) (by kernel_rfl) (by kernel_rfl) (by kernel_rfl)) ?_
  intro W base args ds gs before hval0 hW hcnd _
  have hval : ∀ (j : Nat) t v, Try.f8.params[j]? = some t → args[j]? = some v → Value.okWide Try.prog W .any base t v := hval0
  have hW' := hW
  obtain ⟨p, q, hA0, hV, rfl, hfz, hnd⟩ := hW
  have hA : DataW.TrodAll enc Try.prog W 0 (fun _ => true) true Try.f8.params.toList args.toList ds p := hA0
  rw [Try.params8] at hA hval
  obtain ⟨v0, vs0, d0, ds0, p0, q0, hargs, rfl, rfl, h0, r0⟩ := trodAll_cons hA
  obtain ⟨v1, vs1, d1, ds1, p1, q1, rfl, rfl, rfl, h1, r1⟩ := trodAll_cons r0
  obtain ⟨rfl, rfl, rfl⟩ := trodAll_nil r1
  obtain rfl : args = #[v0, v1] := by cases args; simp_all
  obtain ⟨rfl, rfl⟩ := trodVars_none hV
  obtain ⟨a0, rfl, rfl, rfl, w0⟩ := open_int Try.underlying22 (hval 0 22 v0 rfl rfl) h0
  have o1 := hval 1 27 v1 rfl rfl
  have lt1 : ∀ x ∈ p1, x.block < W.heap.size := by obtain ⟨m, hm⟩ := h1; exact DataW.trod_lt m _ _ _ hm
  clear hA0 hval0
  refine (walk W base a0 w0 v1 d1 p1 o1 h1).mono fun e W' ⟨he, bel⟩ => ?_
  subst he
  exact ⟨_, rfl, _, _, _, [], _, [], hW', trodAll_mk1 (shut_bool Try.underlying4 _), (trodAll_cons_mk (shut_int Try.underlying22 w0) (trodAll_cons_mk (Below.trod laidOut (by kernel_rfl) (of_decide_eq_true (by kernel_rfl)) h1 bel lt1) trodAll_mk0)), rfl, bel.frame _, fun h => by cases h⟩

theorem over : Rows.tallyNeverRow.holds Try.pinned (OpenSpec.ofChange Rows.tallyNeverSpec) :=
  OpenClaim.holds_of_wide 8 Try.f8 rfl rfl rfl rfl rfl rfl rfl ⟨rfl, rfl, rfl, rfl, rfl⟩ rfl rfl rfl rfl rfl (by kernel_rfl) Try.func8 (by kernel_rfl)
    (of_decide_eq_true (by kernel_rfl)) (by unfold Func.isWrapper; first | (rw [if_pos (by decide +kernel)]; kernel_rfl) | (rw [if_neg (by decide +kernel)]; exact ⟨rfl, rfl⟩))
    (fun os started H enc _ => lifted os started H enc)

end Go.Proofs.Yteajgfdjjpcpiaa.tallyNever
namespace Go.Proofs.Yteajgfdjjpcpiaa
/-- The statement. -/
theorem tallyNever_holds : Rows.TallyNeverSaid := tallyNever.over
#print axioms tallyNever_holds
end Go.Proofs.Yteajgfdjjpcpiaa

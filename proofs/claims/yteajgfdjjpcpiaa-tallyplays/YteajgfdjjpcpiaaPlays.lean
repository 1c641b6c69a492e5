/-
  TallyPlays holds: a ledger answers each claim and each gift, and what is used and left behind each, as the document says.
  Conditions: none; the limit is any uint64, the calls are any list.
-/
import Derived.Test.YteajgfdjjpcpiaaLedgerR
import Derived.Test.YteajgfdjjpcpiaaPlain
import Derived.Test.YteajgfdjjpcpiaaOpen
import Derived.WalkKit
import Derived.ProofKit
import Derived.OpenShut
import Derived.ShutString
import Derived.ChangeOld
import Derived.Below
import Derived.Deep.QuietTactic
import Derived.BigQuiet
import Derived.WalkSmall
import Derived.Deep.RegionHeld3
import Derived.StillTactics
import Derived.Laws.Pointers
namespace Go.Proofs.Yteajgfdjjpcpiaa.tallyPlays
open Go.ChangeShapes Go.WideShapes Go.ChangeAt Go.RowKit
open Go.ChangeMaps (open_string shut_string)
set_option linter.unusedVariables false

theorem own : ownKnob Try.prog.godebug = none := by kernel_rfl
theorem laidOut : laidOutB Try.prog = true := by kernel_rfl

/-- What is known of the calls: none, or a row of pairs in old memory. -/
def Row (w : World) (a : Option Addr) (len : Nat) : Prop :=
  len = 0 ∨ ∃ (b off : Nat) (G : Nat → Bool) (Z : Nat → Int), a = some ⟨b, off, none⟩ ∧ b < w.heap.size ∧
    ∀ i, i < len → w.cell? ⟨b, off + i * 2, none⟩ = some (.bool (G i)) ∧ w.cell? ⟨b, off + i * 2 + 1, none⟩ = some (.int .u64 (Z i)) ∧ (Lit.int .u64 (Z i)).wf = true

set_option maxRecDepth 100000 in
set_option maxHeartbeats 4000000 in
theorem core (w : World) (l : Int) (hl : Word l) (a : Option Addr) (len cap : Nat) (hlen : len ≤ maxLen) (hr : Row w a len) :
    Calls Try.prog 4 #[.int .u64 l, .slice a len cap] w fun e w' => e = .returned (.bool true) ∧ Below w.heap.size w w' := by
  unfold maxLen at hlen
  have l0 := hl.1
  have l1 := hl.2
  have el : (l - 0 != l) = false := by simp
  go_enter Try.func4, Try.ntmps4
  go_wp2_with fail
  refine (new_c l _).mono ?_
  rintro e w1 ⟨rfl, hled, hbel, hsz⟩
  go_wp2_with fail
  refine (used_c _ l 0 _ (hled.alloc _)).mono ?_
  rintro e w' ⟨rfl, rfl⟩
  go_wp2_with fail
  refine (left_any _ l 0 _ (hled.alloc _) hl (Int.le_refl _) l0).mono ?_
  rintro e w' ⟨rfl, n, rfl⟩
  go_wp2_with fail
  have hled' : Led ((w1.alloc (.cells #[.int .u64 l, .int .u64 0] 32)).drewN n) w.heap.size l 0 := (hled.alloc _).drewN _
  have href : Led ((w1.alloc (.cells #[.int .u64 l, .int .u64 0] 32)).drewN n) (w.heap.size + 1) l 0 := by rw [← hsz]; exact (Led.new _ _ _).drewN _
  have hbel' : Below w.heap.size w ((w1.alloc (.cells #[.int .u64 l, .int .u64 0] 32)).drewN n) := below_drewN (hbel.alloc (by omega) _) _
  have hsz' : ((w1.alloc (.cells #[.int .u64 l, .int .u64 0] 32)).drewN n).heap.size = w.heap.size + 2 := by simp [hsz]
  go_loopw [7, 8, 9] (fun i _ _ wr => ∃ (k : Nat) (u : Int), k ≤ len ∧ i = .int .i64 k ∧ 0 ≤ u ∧ u ≤ l ∧ Led wr w.heap.size l u ∧ Led wr (w.heap.size + 1) l u ∧ Below w.heap.size w wr ∧ wr.heap.size = w.heap.size + 2) (fun i _ _ _ => len - (intOf i).toNat)
  case atStart => exact ⟨0, 0, Nat.zero_le _, rfl, Int.le_refl _, l0, hled', href, hbel', hsz'⟩
  case round =>
    clear hled hbel hsz hled' href hbel' hsz' w1
    obtain ⟨k, u, hk, rfl, hu0, hul, hled, href, hbel, hszr⟩ := hrel
    have hk0 : (0 : Int) ≤ (k : Int) := Int.natCast_nonneg _
    by_cases hlt : k < len
    · rcases hr with hr | ⟨b, off, G, Z, rfl, hb, hc⟩
      · omega
      have hne : b ≠ w.heap.size := by omega
      have hne' : b ≠ w.heap.size + 1 := by omega
      have hne2 : w.heap.size + 1 ≠ w.heap.size := by omega
      obtain ⟨g0, g1, g2⟩ := hc k hlt
      have hz := word_of_wf g2
      have z0 := hz.1
      have hki : (k : Int) < (len : Int) := by omega
      have g0' := (hbel.cell (p := ⟨b, off + k * 2, none⟩) hb).trans g0
      have g1' := (hbel.cell (p := ⟨b, off + k * 2 + 1, none⟩) hb).trans g1
      clear g0 g1 g2 hc
      cases hg : G k
      · rw [hg] at g0'
        clear hg
        by_cases hzu : Z k ≤ l - u
        · go_wp2_with fail
          go_region_held3 (fun w' => w'.cell? ⟨b, off + k * 2 + 1, none⟩ = some (.int .u64 (Z k))) (first | assumption | (refine (Only.cell ho3 ?_).trans ?_ <;> assumption) | (refine (Only.cell ho ?_).trans ?_ <;> assumption))
            (first
              | (go_at_call 20; refine (claim_yes _ l u (Z k) _ (by exact hled) hl hu0 hul z0 hzu).mono ?_; rintro e w2 ⟨rfl, hled2, ho⟩)
              | (go_at_call 21; refine (rclaim_yes _ l u (Z k) _ (by exact Led.only (w := wr.drew) href ho hne2) hl hu0 hul z0 hzu).mono ?_; rintro e w3 ⟨rfl, href3, ho3⟩))
          obtain ⟨u2, v0, v1, hled3, href3⟩ : ∃ u2, 0 ≤ u2 ∧ u2 ≤ l ∧ Led w3 w.heap.size l u2 ∧ Led w3 (w.heap.size + 1) l u2 := ⟨_, by omega, by omega, hled2.only ho3 (by omega), href3⟩
          have hbel3 : Below w.heap.size w w3 := (hbel.drew.trans (ho.below (Nat.le_refl _))).trans (ho3.below (by omega))
          have hsz3 : w3.heap.size = w.heap.size + 2 := (ho3.size.trans ho.size).trans hszr
          clear hled href ho ho3 hbel z0 hz g0' g1' hszr hled2
          have c0 := href3.c0
          have c1 := href3.c1
          have hwr : IntKind.u64.wrap (l - u2) = l - u2 := wrap_u64_of (by omega) (by omega)
          have e1 : (u2 != u2) = false := by simp
          have e2 : (l - u2 != l - u2) = false := by simp
          go_wp2_with fail
          go_quiet ((first
            | (go_at_call 16; refine Calls.quiet_of_same (used_any _ l u2 _ ?_); exact hled3)
            | (go_at_call 17; refine Calls.quiet_of (left_any _ l u2 _ ?_ hl v0 v1); exact hled3)))
          go_wp2_with fail
          go_roundw
          case rel => exact ⟨k + 1, u2, by omega, by go_num, v0, v1, hled3.drewN _, href3.drewN _, below_drewN hbel3 _, hsz3⟩
          case measure => simp [intOf]; omega
        · have hzv : l - u < Z k := by omega
          go_wp2_with fail
          go_region_held3 (fun w' => w'.cell? ⟨b, off + k * 2 + 1, none⟩ = some (.int .u64 (Z k))) (first | assumption | (refine (Only.cell ho3 ?_).trans ?_ <;> assumption) | (refine (Only.cell ho ?_).trans ?_ <;> assumption))
            (first
              | (go_at_call 20; refine (claim_no _ l u (Z k) _ (by exact hled) hl hu0 hul hzv).mono ?_; rintro e w2 ⟨rfl, hled2, ho⟩)
              | (go_at_call 21; refine (rclaim_no _ l u (Z k) _ (by exact Led.only (w := wr.drew) href ho hne2) hl hu0 hul hzv).mono ?_; rintro e w3 ⟨rfl, href3, ho3⟩))
          obtain ⟨u2, v0, v1, hled3, href3⟩ : ∃ u2, 0 ≤ u2 ∧ u2 ≤ l ∧ Led w3 w.heap.size l u2 ∧ Led w3 (w.heap.size + 1) l u2 := ⟨_, by omega, by omega, hled2.only ho3 (by omega), href3⟩
          have hbel3 : Below w.heap.size w w3 := (hbel.drew.trans (ho.below (Nat.le_refl _))).trans (ho3.below (by omega))
          have hsz3 : w3.heap.size = w.heap.size + 2 := (ho3.size.trans ho.size).trans hszr
          clear hled href ho ho3 hbel z0 hz g0' g1' hszr hled2
          have c0 := href3.c0
          have c1 := href3.c1
          have hwr : IntKind.u64.wrap (l - u2) = l - u2 := wrap_u64_of (by omega) (by omega)
          have e1 : (u2 != u2) = false := by simp
          have e2 : (l - u2 != l - u2) = false := by simp
          go_wp2_with fail
          go_quiet ((first
            | (go_at_call 16; refine Calls.quiet_of_same (used_any _ l u2 _ ?_); exact hled3)
            | (go_at_call 17; refine Calls.quiet_of (left_any _ l u2 _ ?_ hl v0 v1); exact hled3)))
          go_wp2_with fail
          go_roundw
          case rel => exact ⟨k + 1, u2, by omega, by go_num, v0, v1, hled3.drewN _, href3.drewN _, below_drewN hbel3 _, hsz3⟩
          case measure => simp [intOf]; omega
      · rw [hg] at g0'
        clear hg
        by_cases hzu : Z k ≤ u
        · go_wp2_with fail
          go_region_held3 (fun w' => w'.cell? ⟨b, off + k * 2 + 1, none⟩ = some (.int .u64 (Z k))) (first | assumption | (refine (Only.cell ho3 ?_).trans ?_ <;> assumption) | (refine (Only.cell ho ?_).trans ?_ <;> assumption))
            (first
              | (go_at_call 18; refine (give_yes _ l u (Z k) _ (by exact hled) ⟨hu0, by omega⟩ z0 hzu).mono ?_; rintro e w2 ⟨rfl, hled2, ho⟩)
              | (go_at_call 19; refine (rgive_yes _ l u (Z k) _ (by exact Led.only (w := wr.drew) href ho hne2) ⟨hu0, by omega⟩ z0 hzu).mono ?_; rintro e w3 ⟨rfl, href3, ho3⟩))
          obtain ⟨u2, v0, v1, hled3, href3⟩ : ∃ u2, 0 ≤ u2 ∧ u2 ≤ l ∧ Led w3 w.heap.size l u2 ∧ Led w3 (w.heap.size + 1) l u2 := ⟨_, by omega, by omega, hled2.only ho3 (by omega), href3⟩
          have hbel3 : Below w.heap.size w w3 := (hbel.drew.trans (ho.below (Nat.le_refl _))).trans (ho3.below (by omega))
          have hsz3 : w3.heap.size = w.heap.size + 2 := (ho3.size.trans ho.size).trans hszr
          clear hled href ho ho3 hbel z0 hz g0' g1' hszr hled2
          have c0 := href3.c0
          have c1 := href3.c1
          have hwr : IntKind.u64.wrap (l - u2) = l - u2 := wrap_u64_of (by omega) (by omega)
          have e1 : (u2 != u2) = false := by simp
          have e2 : (l - u2 != l - u2) = false := by simp
          go_wp2_with fail
          go_quiet ((first
            | (go_at_call 16; refine Calls.quiet_of_same (used_any _ l u2 _ ?_); exact hled3)
            | (go_at_call 17; refine Calls.quiet_of (left_any _ l u2 _ ?_ hl v0 v1); exact hled3)))
          go_wp2_with fail
          go_roundw
          case rel => exact ⟨k + 1, u2, by omega, by go_num, v0, v1, hled3.drewN _, href3.drewN _, below_drewN hbel3 _, hsz3⟩
          case measure => simp [intOf]; omega
        · have hzv : u < Z k := by omega
          go_wp2_with fail
          go_region_held3 (fun w' => w'.cell? ⟨b, off + k * 2 + 1, none⟩ = some (.int .u64 (Z k))) (first | assumption | (refine (Only.cell ho3 ?_).trans ?_ <;> assumption) | (refine (Only.cell ho ?_).trans ?_ <;> assumption))
            (first
              | (go_at_call 18; refine (give_no _ l u (Z k) _ (by exact hled) hzv).mono ?_; rintro e w2 ⟨rfl, hled2, ho⟩)
              | (go_at_call 19; refine (rgive_no _ l u (Z k) _ (by exact Led.only (w := wr.drew) href ho hne2) hzv).mono ?_; rintro e w3 ⟨rfl, href3, ho3⟩))
          obtain ⟨u2, v0, v1, hled3, href3⟩ : ∃ u2, 0 ≤ u2 ∧ u2 ≤ l ∧ Led w3 w.heap.size l u2 ∧ Led w3 (w.heap.size + 1) l u2 := ⟨_, by omega, by omega, hled2.only ho3 (by omega), href3⟩
          have hbel3 : Below w.heap.size w w3 := (hbel.drew.trans (ho.below (Nat.le_refl _))).trans (ho3.below (by omega))
          have hsz3 : w3.heap.size = w.heap.size + 2 := (ho3.size.trans ho.size).trans hszr
          clear hled href ho ho3 hbel z0 hz g0' g1' hszr hled2
          have c0 := href3.c0
          have c1 := href3.c1
          have hwr : IntKind.u64.wrap (l - u2) = l - u2 := wrap_u64_of (by omega) (by omega)
          have e1 : (u2 != u2) = false := by simp
          have e2 : (l - u2 != l - u2) = false := by simp
          go_wp2_with fail
          go_quiet ((first
            | (go_at_call 16; refine Calls.quiet_of_same (used_any _ l u2 _ ?_); exact hled3)
            | (go_at_call 17; refine Calls.quiet_of (left_any _ l u2 _ ?_ hl v0 v1); exact hled3)))
          go_wp2_with fail
          go_roundw
          case rel => exact ⟨k + 1, u2, by omega, by go_num, v0, v1, hled3.drewN _, href3.drewN _, below_drewN hbel3 _, hsz3⟩
          case measure => simp [intOf]; omega
    · have hke : ¬ (k : Int) < (len : Int) := by omega
      have c1 := href.c1
      have e1 : (u == u) = true := by simp
      have h11 : Word 1 := by constructor <;> decide
      have hin : w.heap.size + 1 < wr.heap.size := by omega
      clear hszr
      go_wp2_with fail
      go_region_held3 (fun w' => w'.cell? ⟨w.heap.size + 1, 1, none⟩ = some (.int .u64 u)) (first | assumption | (refine (Only.cell ho4 ?_).trans ?_; (show w.heap.size + 1 ≠ wr.heap.size; omega); assumption) | (refine (Below.cell hb4 ?_).trans ?_; (show w.heap.size + 1 < wr.heap.size; omega); assumption))
        (first
          | (go_at_call 16; refine (used_c _ l u _ (by exact hled)).mono ?_; rintro e w4 ⟨rfl, rfl⟩)
          | (go_at_call 15; refine (new_c 1 _).mono ?_; rintro e w5 ⟨rfl, hled5, hb4, hs4⟩)
          | (go_at_call 20; refine (claim_yes _ 1 0 1 _ (by exact hled5) h11 (by decide) (by decide) (by decide) (by decide)).mono ?_; rintro e w6 ⟨rfl, hled6, ho4⟩))
      go_wp2_with fail
      go_ret
      exact ⟨rfl, (hbel.drew.trans (hb4.mono (show w.heap.size ≤ wr.heap.size by omega))).trans (ho4.below (show w.heap.size ≤ wr.heap.size by omega))⟩

theorem walk {H : Type} {enc : TypeId × Value → H} (w : World) (base : Nat) (a0 : Int) (w0 : (Lit.int .u64 a0).wf = true) (v1 : Value) (d1 : DataW H) (p1 : List MemPlace) (o1 : Value.okWide Try.prog w .any base 27 v1) (h1 : DataW.Trod enc Try.prog w 0 (fun _ => true) true 27 v1 d1 p1) :
    Calls Try.prog 4 #[.int .u64 a0, v1] w fun e w' => e = .returned (.bool true) ∧ Below w.heap.size w w' := by
  rcases open_pairs Try.underlying27 Try.underlying35 (by kernel_rfl) rfl rfl (by kernel_rfl) (by kernel_rfl) Try.underlying4 Try.underlying22 o1 h1 with ⟨a, cap, rfl⟩ | ⟨b, off, len, cap, G, Z, rfl, hp, hl, hb, hc⟩
  · exact core w a0 (word_of_wf w0) a 0 cap (Nat.zero_le _) (Or.inl rfl)
  · exact core w a0 (word_of_wf w0) _ len cap hl (Or.inr ⟨b, off, G, Z, rfl, hb, hc⟩)


set_option maxRecDepth 100000 in
theorem lifted (os : Os) (started : os.Started) (H : Type) (enc : TypeId × Value → H) :
    ReturnsInHanded {} Try.checked os 4 .any (Rows.tallyPlaysSpec.pre6 enc Try.prog Try.f4 Rows.tallyPlaysRow.domain false) (Rows.tallyPlaysSpec.post enc Try.prog Try.f4 false true false false) := by
  refine returnsInHanded_of_change (C := Try.checked) own started (by kernel_rfl) Try.func4
    (ChangeSpec.witness6 (enc := enc) (C := Try.checked) false ⟨#[], #[.int .u64 0, .slice none 0 0], []⟩ 8 (by kernel_rfl) (by kernel_rfl) (by kernel_rfl) (by kernel_rfl)) ?_
  intro W base args ds gs before hval0 hW hcnd _
  have hval : ∀ (j : Nat) t v, Try.f4.params[j]? = some t → args[j]? = some v → Value.okWide Try.prog W .any base t v := hval0
  have hW' := hW
  obtain ⟨p, q, hA0, hV, rfl, hfz, hnd⟩ := hW
  have hA : DataW.TrodAll enc Try.prog W 0 (fun _ => true) true Try.f4.params.toList args.toList ds p := hA0
  rw [Try.params4] at hA hval
  obtain ⟨v0, vs0, d0, ds0, p0, q0, hargs, rfl, rfl, h0, r0⟩ := trodAll_cons hA
  obtain ⟨v1, vs1, d1, ds1, p1, q1, rfl, rfl, rfl, h1, r1⟩ := trodAll_cons r0
  obtain ⟨rfl, rfl, rfl⟩ := trodAll_nil r1
  obtain rfl : args = #[v0, v1] := by cases args; simp_all
  obtain ⟨rfl, rfl⟩ := trodVars_none hV
  obtain ⟨a0, rfl, rfl, rfl, w0⟩ := open_int Try.underlying22 (hval 0 22 v0 rfl rfl) h0
  have o1 := hval 1 27 v1 rfl rfl
  have lt1 : ∀ x ∈ p1, x.block < W.heap.size := by obtain ⟨m, hm⟩ := h1; exact DataW.trod_lt m _ _ _ hm
  clear hA0 hval0
  refine (walk W base a0 w0 v1 d1 p1 o1 h1).mono fun e W' ⟨he, bel⟩ => ?_
  subst he
  exact ⟨_, rfl, _, _, _, [], _, [], hW', trodAll_mk1 (shut_bool Try.underlying4 _), (trodAll_cons_mk (shut_int Try.underlying22 w0) (trodAll_cons_mk (Below.trod laidOut (by kernel_rfl) (of_decide_eq_true (by kernel_rfl)) h1 bel lt1) trodAll_mk0)), rfl, bel.frame _, fun h => by cases h⟩

theorem over : Rows.tallyPlaysRow.holds Try.pinned (OpenSpec.ofChange Rows.tallyPlaysSpec) :=
  OpenClaim.holds_of_wide 4 Try.f4 rfl rfl rfl rfl rfl rfl rfl ⟨rfl, rfl, rfl, rfl, rfl⟩ rfl rfl rfl rfl rfl (by kernel_rfl) Try.func4 (by kernel_rfl)
    (of_decide_eq_true (by kernel_rfl)) (by unfold Func.isWrapper; first | (rw [if_pos (by decide +kernel)]; kernel_rfl) | (rw [if_neg (by decide +kernel)]; exact ⟨rfl, rfl⟩))
    (fun os started H enc _ => lifted os started H enc)

end Go.Proofs.Yteajgfdjjpcpiaa.tallyPlays
namespace Go.Proofs.Yteajgfdjjpcpiaa
/-- The statement. -/
theorem tallyPlays_holds : Rows.TallyPlaysSaid := tallyPlays.over
#print axioms tallyPlays_holds
end Go.Proofs.Yteajgfdjjpcpiaa

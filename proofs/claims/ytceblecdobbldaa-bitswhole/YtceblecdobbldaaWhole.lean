/-
  BitsWhole holds: behind Align whole bytes are held, and they are the last ones that were put in.
  Conditions: none; the bytes are any list, the count any byte.
-/
import Derived.Test.YtceblecdobbldaaReader
import Derived.Test.YtceblecdobbldaaOpen
import Derived.Test.YtceblecdobbldaaBytes
import Derived.WalkKit
import Derived.ProofKit
import Derived.OpenShut
import Derived.ShutString
import Derived.ChangeOld
import Derived.Below
import Derived.Deep.Cut
import Derived.Deep.CutRange
import Derived.Deep.LoopGhost
namespace Go.Proofs.Ytceblecdobbldaa.bitsWhole
open Go.ChangeShapes Go.WideShapes Go.ChangeAt Go.RowKit
open Go.ChangeMaps (open_string shut_string)
set_option linter.unusedVariables false

theorem own : ownKnob Try.prog.godebug = none := by kernel_rfl
theorem laidOut : laidOutB Try.prog = true := by kernel_rfl


set_option maxRecDepth 100000 in
set_option maxHeartbeats 2000000 in
theorem core (w : World) (a : Option Addr) (len cap : Nat) (X : Nat → Nat) (hlc : len ≤ cap) (hcap : cap ≤ maxLen) (hr0 : Row w a len X) (p : Nat) (hp : p < 256) :
    Calls Try.prog 8 #[.slice a len cap, .int .u8 p] w fun e w' => e = .returned (.bool true) ∧ Below w.heap.size w w' := by
  unfold maxLen at hcap
  obtain ⟨k, hk, hk32⟩ : ∃ k : Nat, (p : Int) % 33 = (k : Int) ∧ k ≤ 32 := ⟨p % 33, by omega, by omega⟩
  have A0 : Aside (Row w a len X) := hr0
  clear hr0
  go_enter Try.func8, Try.ntmps8
  go_wp2_with fail
  refine (new_b _).mono ?_
  rintro e w1 ⟨rfl, hb0, hbel0, -⟩
  go_upto_if 18 with fail
  go_cut [0] from 13 (fun s0 wc => wc = w1 ∧ ∃ L : Nat, L ≤ 8 ∧ s0 = .slice a L cap ∧ Row w a L X)
  case first =>
    by_cases h8 : 8 < len
    · have h8' : (8 : Int) < (len : Int) := by omega
      have h8c : (8 : Int) ≤ (cap : Int) := by omega
      have hr := A0.out
      rcases hr with hr | ⟨b, off, rfl, hbw, hc⟩
      · omega
      go_wp2_with fail
      go_meet
      case rel => exact ⟨rfl, 8, Nat.le_refl _, rfl, Or.inr ⟨b, off, rfl, hbw, fun i hi => hc i (by omega)⟩⟩
    · have h8' : ¬ (8 : Int) < (len : Int) := by omega
      go_wp2_with fail
      go_meet
      case rel => exact ⟨rfl, len, by omega, rfl, A0.out⟩
  case rest =>
    obtain ⟨rfl, L, hL8, rfl, hr⟩ := hcut
    clear A0 hlc hcap
    have hX : ∀ i, i < L → X i < 256 := by
      intro i hi
      rcases hr with hr | ⟨b, off, rfl, hbw, hc⟩
      · omega
      · exact (hc i hi).2
    go_wp2_with fail
    go_loopw [6] (fun i wr => ∃ j : Nat, j ≤ L ∧ i = .int .i64 j ∧ Br wr w.heap.size (numh X 0 j) (8 * j) ∧ Below w.heap.size w wr) (fun i _ => L - (intOf i).toNat)
    case atStart => exact ⟨0, Nat.zero_le _, rfl, hb0, hbel0⟩
    case round =>
      clear hb0 hbel0
      obtain ⟨j, hjL, rfl, hb, hbel⟩ := hrel
      have hj0 : (0 : Int) ≤ j := Int.natCast_nonneg _
      by_cases hlt : j < L
      · have hji : (j : Int) < (L : Int) := by omega
        rcases hr with hr | ⟨b, off, rfl, hbw, hc⟩
        · omega
        obtain ⟨g, gx⟩ := hc j hlt
        have g' := (hbel.cell (p := ⟨b, off + j, none⟩) hbw).trans g
        clear g
        go_wp2_with fail
        refine (put_yes w.heap.size _ (8 * j) (X j) _ hb (by omega) gx).mono ?_
        rintro e w2 ⟨rfl, hb, ho⟩
        have hbel := hbel.trans (ho.below (Nat.le_refl _))
        have hn := numh_snoc X j 0
        rw [Nat.zero_add] at hn
        rw [← hn, show 8 * j + 8 = 8 * (j + 1) by omega] at hb
        clear hn ho
        go_wp2_with fail
        go_roundw
        case rel => exact ⟨j + 1, by omega, by go_num, hb, hbel⟩
        case measure => simp [intOf]; omega
      · have hjL' : j = L := by omega
        subst hjL'
        have hji : ¬ (j : Int) < (j : Int) := by omega
        generalize j = L at *
        by_cases hkL : k ≤ 8 * L
        · have hkLi : (k : Int) ≤ 8 * (L : Int) := by omega
          go_wp2_with fail
          try rw [hk]
          refine (take_yes w.heap.size _ (8 * L) k _ hb hk32 hkL).mono ?_
          rintro e w2 ⟨rfl, hb, ho⟩
          have hbel := hbel.trans (ho.below (Nat.le_refl _))
          clear ho
          generalize numh X 0 L % 2 ^ k = junk
          have hkL' : k ≤ 8 * L := hkL
          generalize k = K at *
          -- Align and what is left, s7 = K
          obtain ⟨c, hcL, hca⟩ : ∃ c, c ≤ L ∧ K + (8 * L - K) % 8 = 8 * c := ⟨(K + (8 * L - K) % 8) / 8, by omega, by omega⟩
          obtain ⟨A, hA⟩ : ∃ A, (8 * L - K) % 8 = A := ⟨_, rfl⟩
          have hAi : (A : Int) = -((K : Int) % 8) % 8 := by omega
          go_wp2_with fail
          refine (align_b w.heap.size _ (8 * L - K) _ hb).mono ?_
          rintro e w3 ⟨rfl, hb, ho⟩
          have hbel := hbel.trans (ho.below (Nat.le_refl _))
          clear ho
          rw [hA] at hca
          rw [hA, Nat.div_div_eq_div_mul, ← Nat.pow_add, hca, numh_drop X c L 0 (fun i _ hi => hX i (by omega)) hcL, Nat.zero_add, show 8 * L - K - A = 8 * (L - c) by omega] at hb
          rw [hA]
          clear hA hca
          generalize hH : 8 * (L - c) = Hd at hb
          have hH8 : ((Hd : Int) % 8 != 0) = false := by
            have : (Hd : Int) % 8 = 0 := by omega
            rw [this]; rfl
          have hHc : (L : Int) - (Hd : Int) / 8 = (c : Int) := by omega
          have hHn : Hd ≤ 64 := by omega
          have AH : Aside (8 * (L - c) = Hd) := hH
          clear hH
          go_wp2_with fail
          refine (held_b w.heap.size _ Hd _ hb).mono ?_
          rintro e w' ⟨rfl, rfl⟩
          go_wp2_with fail
          refine (held_b w.heap.size _ Hd _ hb).mono ?_
          rintro e w' ⟨rfl, rfl⟩
          go_wp2_with fail
          try rw [hHc]
          clear hHc hH8 hHn hAi
          go_loopg [10] (L - c) (fun g i wr => ∃ j : Nat, c ≤ j ∧ j + g = L ∧ i = .int .i64 j ∧ Br wr w.heap.size (numh X j (L - j)) (8 * (L - j)) ∧ Below w.heap.size w wr)
          case atStart => exact ⟨c, Nat.le_refl _, by omega, rfl, by rw [AH.out]; exact hb, hbel⟩
          case round =>
            clear hb hbel w3 AH
            obtain ⟨j, hcj, hjg, rfl, hb, hbel⟩ := hrel
            have hjL : j ≤ L := by omega
            have AJ : Aside (j + gk = L) := hjg
            clear hjg
            have hj0 : (0 : Int) ≤ j := Int.natCast_nonneg _
            by_cases hlt : j < L
            · have hji : (j : Int) < (L : Int) := by omega
              rcases hr with hr | ⟨b, off, rfl, hbw, hc⟩
              · omega
              obtain ⟨g, gx⟩ := hc j hlt
              obtain ⟨r, hr⟩ : ∃ r, L - j = r + 1 := ⟨L - j - 1, by omega⟩
              go_wp2_with fail
              rw [hr] at hb
              refine (take_yes w.heap.size _ _ 8 _ hb (by decide) (by omega)).mono ?_
              rintro e w4 ⟨rfl, hb, ho⟩
              have hbel := hbel.trans (ho.below (Nat.le_refl _))
              have g' := (hbel.cell (p := ⟨b, off + j, none⟩) hbw).trans g
              clear ho g
              rw [numh_mod X r j gx]
              rw [numh_div X r j gx, show 8 * (r + 1) - 8 = 8 * (L - (j + 1)) by omega, show r = L - (j + 1) by omega] at hb
              have hxe : ((X j : Int) % 256 != (X j : Int)) = false := by
                have : (X j : Int) % 256 = (X j : Int) := by omega
                rw [this]; simp
              clear hr
              go_wp2_with fail
              have AJ := AJ.out
              go_roundg (gk - 1)
              case measure => omega
              case rel => exact ⟨j + 1, by omega, by omega, by go_num, hb, hbel⟩
            · have hjL' : j = L := by omega
              subst hjL'
              rw [Nat.sub_self, Nat.mul_zero] at hb
              go_wp2_with fail
              refine (held_b w.heap.size _ 0 _ hb).mono ?_
              rintro e w' ⟨rfl, rfl⟩
              go_wp2_with fail
              go_ret
              exact ⟨rfl, hbel⟩
        · have hkLi : ¬ (k : Int) ≤ 8 * (L : Int) := by omega
          go_wp2_with fail
          try rw [hk]
          refine (take_no w.heap.size _ (8 * L) k _ hb (by unfold Can; omega)).mono ?_
          rintro e w2 ⟨rfl, rfl⟩
          obtain ⟨K, hK⟩ : ∃ K : Nat, K = 0 := ⟨0, rfl⟩
          have hKi : (K : Int) = 0 := by omega
          rw [show numh X 0 L = numh X 0 L / 2 ^ K by rw [hK]; simp, show 8 * L = 8 * L - K by omega] at hb
          -- Align and what is left, s7 = K
          obtain ⟨c, hcL, hca⟩ : ∃ c, c ≤ L ∧ K + (8 * L - K) % 8 = 8 * c := ⟨(K + (8 * L - K) % 8) / 8, by omega, by omega⟩
          obtain ⟨A, hA⟩ : ∃ A, (8 * L - K) % 8 = A := ⟨_, rfl⟩
          have hAi : (A : Int) = 0 := by omega
          go_wp2_with fail
          refine (align_b w.heap.size _ (8 * L - K) _ hb).mono ?_
          rintro e w3 ⟨rfl, hb, ho⟩
          have hbel := hbel.trans (ho.below (Nat.le_refl _))
          clear ho
          rw [hA] at hca
          rw [hA, Nat.div_div_eq_div_mul, ← Nat.pow_add, hca, numh_drop X c L 0 (fun i _ hi => hX i (by omega)) hcL, Nat.zero_add, show 8 * L - K - A = 8 * (L - c) by omega] at hb
          rw [hA]
          clear hA hca
          generalize hH : 8 * (L - c) = Hd at hb
          have hH8 : ((Hd : Int) % 8 != 0) = false := by
            have : (Hd : Int) % 8 = 0 := by omega
            rw [this]; rfl
          have hHc : (L : Int) - (Hd : Int) / 8 = (c : Int) := by omega
          have hHn : Hd ≤ 64 := by omega
          have AH : Aside (8 * (L - c) = Hd) := hH
          clear hH
          go_wp2_with fail
          refine (held_b w.heap.size _ Hd _ hb).mono ?_
          rintro e w' ⟨rfl, rfl⟩
          go_wp2_with fail
          refine (held_b w.heap.size _ Hd _ hb).mono ?_
          rintro e w' ⟨rfl, rfl⟩
          go_wp2_with fail
          try rw [hHc]
          clear hHc hH8 hHn hAi
          go_loopg [10] (L - c) (fun g i wr => ∃ j : Nat, c ≤ j ∧ j + g = L ∧ i = .int .i64 j ∧ Br wr w.heap.size (numh X j (L - j)) (8 * (L - j)) ∧ Below w.heap.size w wr)
          case atStart => exact ⟨c, Nat.le_refl _, by omega, rfl, by rw [AH.out]; exact hb, hbel⟩
          case round =>
            clear hb hbel w3 AH
            obtain ⟨j, hcj, hjg, rfl, hb, hbel⟩ := hrel
            have hjL : j ≤ L := by omega
            have AJ : Aside (j + gk = L) := hjg
            clear hjg
            have hj0 : (0 : Int) ≤ j := Int.natCast_nonneg _
            by_cases hlt : j < L
            · have hji : (j : Int) < (L : Int) := by omega
              rcases hr with hr | ⟨b, off, rfl, hbw, hc⟩
              · omega
              obtain ⟨g, gx⟩ := hc j hlt
              obtain ⟨r, hr⟩ : ∃ r, L - j = r + 1 := ⟨L - j - 1, by omega⟩
              go_wp2_with fail
              rw [hr] at hb
              refine (take_yes w.heap.size _ _ 8 _ hb (by decide) (by omega)).mono ?_
              rintro e w4 ⟨rfl, hb, ho⟩
              have hbel := hbel.trans (ho.below (Nat.le_refl _))
              have g' := (hbel.cell (p := ⟨b, off + j, none⟩) hbw).trans g
              clear ho g
              rw [numh_mod X r j gx]
              rw [numh_div X r j gx, show 8 * (r + 1) - 8 = 8 * (L - (j + 1)) by omega, show r = L - (j + 1) by omega] at hb
              have hxe : ((X j : Int) % 256 != (X j : Int)) = false := by
                have : (X j : Int) % 256 = (X j : Int) := by omega
                rw [this]; simp
              clear hr
              go_wp2_with fail
              have AJ := AJ.out
              go_roundg (gk - 1)
              case measure => omega
              case rel => exact ⟨j + 1, by omega, by omega, by go_num, hb, hbel⟩
            · have hjL' : j = L := by omega
              subst hjL'
              rw [Nat.sub_self, Nat.mul_zero] at hb
              go_wp2_with fail
              refine (held_b w.heap.size _ 0 _ hb).mono ?_
              rintro e w' ⟨rfl, rfl⟩
              go_wp2_with fail
              go_ret
              exact ⟨rfl, hbel⟩

theorem walk {H : Type} {enc : TypeId × Value → H} (w : World) (base : Nat) (v0 : Value) (d0 : DataW H) (p0 : List MemPlace) (o0 : Value.okWide Try.prog w .any base 42 v0) (h0 : DataW.Trod enc Try.prog w 0 (fun _ => true) true 42 v0 d0 p0) (a1 : Int) (w1 : (Lit.int .u8 a1).wf = true) :
    Calls Try.prog 8 #[v0, .int .u8 a1] w fun e w' => e = .returned (.bool true) ∧ Below w.heap.size w w' := by
  obtain ⟨a, len, cap, X, rfl, hlc, hcap, hr⟩ := open_bytes Try.underlying42 Try.underlying5 (by kernel_rfl) o0 h0
  obtain ⟨p, rfl, hp⟩ := byte_of_wf w1
  exact core w a len cap X hlc hcap hr p hp

set_option maxRecDepth 100000 in
theorem lifted (os : Os) (started : os.Started) (H : Type) (enc : TypeId × Value → H) :
    ReturnsInHanded {} Try.checked os 8 .any (Rows.bitsWholeSpec.pre6 enc Try.prog Try.f8 Rows.bitsWholeRow.domain false) (Rows.bitsWholeSpec.post enc Try.prog Try.f8 false true false false) := by
  refine returnsInHanded_of_change (C := Try.checked) own started (by kernel_rfl) Try.func8
    (ChangeSpec.witness6 (enc := enc) (C := Try.checked) false ⟨#[], #[.slice none 0 0, .int .u8 0], []⟩ 8 (by kernel_rfl) (by kernel_rfl) (by kernel_rfl) (by kernel_rfl)) ?_
  intro W base args ds gs before hval0 hW hcnd _
  have hval : ∀ (j : Nat) t v, Try.f8.params[j]? = some t → args[j]? = some v → Value.okWide Try.prog W .any base t v := hval0
  have hW' := hW
  obtain ⟨p, q, hA0, hV, rfl, hfz, hnd⟩ := hW
  have hA : DataW.TrodAll enc Try.prog W 0 (fun _ => true) true Try.f8.params.toList args.toList ds p := hA0
  rw [Try.params8] at hA hval
  obtain ⟨v0, vs0, d0, ds0, p0, q0, hargs, rfl, rfl, h0, r0⟩ := trodAll_cons hA
  obtain ⟨v1, vs1, d1, ds1, p1, q1, rfl, rfl, rfl, h1, r1⟩ := trodAll_cons r0
  obtain ⟨rfl, rfl, rfl⟩ := trodAll_nil r1
  obtain rfl : args = #[v0, v1] := by cases args; simp_all
  obtain ⟨rfl, rfl⟩ := trodVars_none hV
  have o0 := hval 0 42 v0 rfl rfl
  have lt0 : ∀ x ∈ p0, x.block < W.heap.size := by obtain ⟨m, hm⟩ := h0; exact DataW.trod_lt m _ _ _ hm
  obtain ⟨a1, rfl, rfl, rfl, w1⟩ := open_int Try.underlying5 (hval 1 5 v1 rfl rfl) h1
  clear hA0 hval0
  refine (walk W base v0 d0 p0 o0 h0 a1 w1).mono fun e W' ⟨he, bel⟩ => ?_
  subst he
  exact ⟨_, rfl, _, _, _, [], _, [], hW', trodAll_mk1 (shut_bool Try.underlying4 _), (trodAll_cons_mk (Below.trod laidOut (by kernel_rfl) (of_decide_eq_true (by kernel_rfl)) h0 bel lt0) (trodAll_cons_mk (shut_int Try.underlying5 w1) trodAll_mk0)), rfl, bel.frame _, fun h => by cases h⟩

theorem over : Rows.bitsWholeRow.holds Try.pinned (OpenSpec.ofChange Rows.bitsWholeSpec) :=
  OpenClaim.holds_of_wide 8 Try.f8 rfl rfl rfl rfl rfl rfl rfl ⟨rfl, rfl, rfl, rfl, rfl⟩ rfl rfl rfl rfl rfl (by kernel_rfl) Try.func8 (by kernel_rfl)
    (of_decide_eq_true (by kernel_rfl)) (by unfold Func.isWrapper; first | (rw [if_pos (by decide +kernel)]; kernel_rfl) | (rw [if_neg (by decide +kernel)]; exact ⟨rfl, rfl⟩))
    (fun os started H enc _ => lifted os started H enc)

end Go.Proofs.Ytceblecdobbldaa.bitsWhole
namespace Go.Proofs.Ytceblecdobbldaa
/-- The statement. -/
theorem bitsWhole_holds : Rows.BitsWholeSaid := bitsWhole.over
#print axioms bitsWhole_holds
end Go.Proofs.Ytceblecdobbldaa

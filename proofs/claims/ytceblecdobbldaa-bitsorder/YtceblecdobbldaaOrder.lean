/-
  BitsOrder holds: the bits that are taken, in whatever pieces, are those of the bytes, each once, in order.
  Conditions: none beyond the form's own (a list has fewer than 2^47 bytes).
-/
import Derived.Test.YtceblecdobbldaaBit
import Derived.WalkKit
import Derived.ProofKit
import Derived.OpenShut
import Derived.ShutString
import Derived.ChangeOld
import Derived.Below
import Derived.SizedLaws
import Derived.Deep.CutBlock
import Derived.Deep.DeepCutAuto
import Derived.Deep.LoopGhost
namespace Go.Proofs.Ytceblecdobbldaa.bitsOrder
open Go.ChangeShapes Go.WideShapes Go.ChangeAt Go.RowKit
open Go.ChangeMaps (open_string shut_string)
set_option linter.unusedVariables false

theorem own : ownKnob Try.prog.godebug = none := by kernel_rfl
theorem laidOut : laidOutB Try.prog = true := by kernel_rfl

set_option maxRecDepth 100000 in
set_option maxHeartbeats 4000000 in
theorem core (w : World) (a a2 : Option Addr) (L cap M cap2 : Nat) (X Y : Nat → Nat) (hL : L < 140737488355328) (hM : M < 140737488355328) (hr : Row w a L X) (hr2 : Row w a2 M Y) :
    Calls Try.prog 6 #[.slice a L cap, .slice a2 M cap2] w fun e w' => e = .returned (.bool true) ∧ Below w.heap.size w w' := by
  have hX : ∀ i, i < L → X i < 256 := by
    intro i hi
    rcases hr with hr | ⟨b, off, rfl, hbw, hc⟩
    · omega
    · exact (hc i hi).2
  have AL : Aside (L < 140737488355328 ∧ M < 140737488355328) := ⟨hL, hM⟩
  have AX : Aside (∀ i, i < L → X i < 256) := hX
  clear hL hM hX
  go_enter Try.func6, Try.ntmps6
  go_wp2_with fail
  refine (new_b _).mono ?_
  rintro e w1 ⟨rfl, hb0, hbel0, -⟩
  go_wp2_with fail
  go_loopg [6, 7, 8] (M + 8 * L + 2 + 8 * L) (fun g sat sin si wr => ∃ (A I i : Nat), sat = .int .i64 A ∧ sin = .int .i64 I ∧ si = .int .i64 i ∧ I ≤ L ∧ A ≤ 8 * I ∧ 8 * I - A ≤ 39 ∧ i ≤ M + 8 * L + 2 + A ∧
    (M + 8 * L + 2 - i) + (8 * L - A) ≤ g ∧ Br wr w.heap.size (numh X 0 I / 2 ^ A) (8 * I - A) ∧ Below w.heap.size w wr)
  case atStart => exact ⟨0, 0, 0, rfl, rfl, rfl, Nat.zero_le _, Nat.zero_le _, by decide, by omega, by omega, by simpa [numh] using hb0, hbel0⟩
  case round =>
    clear hb0 hbel0 w1
    obtain ⟨A, I, i, rfl, rfl, rfl, hIL, hAI, h39, hib, hg, hb, hbel⟩ := hrel
    have AG : Aside (i ≤ M + 8 * L + 2 + A ∧ (M + 8 * L + 2 - i) + (8 * L - A) ≤ gk) := ⟨hib, hg⟩
    have hib' : (i : Int) < 4611686018427387904 := by have := AL.out; omega
    have hAb : (A : Int) < 2305843009213693952 := by have := AL.out; omega
    have hLb : (L : Int) < 140737488355328 := by have := AL.out; omega
    have hMb : (M : Int) < 140737488355328 := by have := AL.out; omega
    have hi0 : (0 : Int) ≤ i := Int.natCast_nonneg _
    clear hib hg
    go_upto_region 6 with fail
    go_cut [30] (fun s30 wc => wc = wr ∧ s30 = .bool (decide (i < M ∨ (I < L ∧ 0 < M))))
    case first =>
      by_cases h1 : i < M
      · have h1' : (i : Int) < (M : Int) := by omega
        go_wp2_with fail
        go_meet
        case rel => exact ⟨rfl, by rw [decide_eq_true (Or.inl h1)]⟩
      · have h1' : ¬ (i : Int) < (M : Int) := by omega
        by_cases h2 : I < L
        · have h2' : (I : Int) < (L : Int) := by omega
          by_cases h3 : 0 < M
          · have h3' : (0 : Int) < (M : Int) := by omega
            go_wp2_with fail
            go_meet
            case rel => exact ⟨rfl, by rw [decide_eq_true (Or.inr ⟨h2, h3⟩)]⟩
          · have h3' : ¬ (0 : Int) < (M : Int) := by omega
            go_wp2_with fail
            go_meet
            case rel => exact ⟨rfl, by rw [decide_eq_false (by omega)]⟩
        · have h2' : ¬ (I : Int) < (L : Int) := by omega
          go_wp2_with fail
          go_meet
          case rel => exact ⟨rfl, by rw [decide_eq_false (by omega)]⟩
    case rest =>
      obtain ⟨rfl, rfl⟩ := hcut
      by_cases hgo : i < M ∨ (I < L ∧ 0 < M)
      · rw [decide_eq_true hgo]
        have hM0 : 0 < M := by omega
        rcases hr2 with hr2 | ⟨b2, off2, rfl, hbw2, hc2⟩
        · omega
        obtain ⟨q, hq, hqM⟩ : ∃ q : Nat, (i : Int) % (M : Int) = (q : Int) ∧ q < M := ⟨i % M, by omega, Nat.mod_lt _ hM0⟩
        obtain ⟨g2, gy⟩ := hc2 q hqM
        have g2' := (hbel.cell (p := ⟨b2, off2 + q, none⟩) hbw2).trans g2
        obtain ⟨nn, hnn, hnn32⟩ : ∃ nn : Nat, (Y q : Int) % 33 = (nn : Int) ∧ nn ≤ 32 := ⟨Y q % 33, by omega, by omega⟩
        have hMi : ¬ (M : Int) = 0 := by omega
        have hq0 : (0 : Int) ≤ q := Int.natCast_nonneg _
        have hqMi : (q : Int) < (M : Int) := by omega
        have AGO : Aside (i < M ∨ (I < L ∧ 0 < M)) := hgo
        clear hc2 g2 hgo hM0
        go_upto_block 2 with fail
        rw [hnn]
        clear hq hMi hq0 hqMi hnn g2' gy hqM hbw2
        go_cut [7] (fun s7 wc => ∃ I' : Nat, s7 = .int .i64 I' ∧ I' ≤ L ∧ A ≤ 8 * I' ∧ 8 * I' - A ≤ 39 ∧ (I' = L ∨ nn ≤ 8 * I' - A) ∧ Br wc w.heap.size (numh X 0 I' / 2 ^ A) (8 * I' - A) ∧ Below w.heap.size w wc)
        case first =>
          go_wp2_with fail
          go_loopg [7] (L - I) (fun g s7 wr => ∃ I' : Nat, s7 = .int .i64 I' ∧ I' + g = L ∧ A ≤ 8 * I' ∧ 8 * I' - A ≤ 39 ∧ Br wr w.heap.size (numh X 0 I' / 2 ^ A) (8 * I' - A) ∧ Below w.heap.size w wr)
          case atStart => exact ⟨I, rfl, by omega, hAI, h39, hb, hbel⟩
          case round =>
            clear hb hbel hAI h39 hIL AGO AG hib' hAb hMb hi0
            obtain ⟨J, rfl, hJg, hAJ, h39, hb, hbel⟩ := hrel
            have AJ : Aside (J + gk = L) := hJg
            have hJL : J ≤ L := by omega
            clear hJg
            have hJ0 : (0 : Int) ≤ J := Int.natCast_nonneg _
            by_cases h1 : J < L
            · have h1' : (J : Int) < (L : Int) := by omega
              obtain ⟨n', hn'⟩ : ∃ n', 8 * J - A = n' := ⟨_, rfl⟩
              rw [hn'] at hb
              have AN : Aside (8 * J - A = n') := hn'
              have hn39 : n' ≤ 39 := by omega
              clear hn' h39
              by_cases h2 : n' < nn
              · have h2' : (n' : Int) < (nn : Int) := by omega
                rcases hr with hr | ⟨bb, off, rfl, hbw, hc⟩
                · omega
                obtain ⟨g, gx⟩ := hc J h1
                have g' := (hbel.cell (p := ⟨bb, off + J, none⟩) hbw).trans g
                clear g
                go_wp2_with fail
                refine (held_b w.heap.size _ n' _ hb).mono ?_
                rintro e w' ⟨rfl, rfl⟩
                go_wp2_with fail
                refine (put_yes w.heap.size _ n' (X J) _ hb (by omega) gx).mono ?_
                rintro e w2 ⟨rfl, hb, ho⟩
                have hbel := hbel.trans (ho.below (Nat.le_refl _))
                have hn' := AN.out
                rw [← hn', numh_put X J A hAJ, hn', show n' + 8 = 8 * (J + 1) - A by omega] at hb
                clear ho hn'
                go_wp2_with fail
                have AJ := AJ.out
                have AN := AN.out
                go_roundg (gk - 1)
                case measure => omega
                case rel => exact ⟨J + 1, by go_num, by omega, by omega, by omega, hb, hbel⟩
              · have h2' : ¬ (n' : Int) < (nn : Int) := by omega
                go_wp2_with fail
                refine (held_b w.heap.size _ n' _ hb).mono ?_
                rintro e w' ⟨rfl, rfl⟩
                go_wp2_with fail
                have AN := AN.out
                go_meet
                case rel => exact ⟨J, rfl, hJL, hAJ, by omega, Or.inr (by omega), by rw [AN]; exact hb, hbel⟩
            · have h1' : ¬ (J : Int) < (L : Int) := by omega
              go_wp2_with fail
              go_meet
              case rel => exact ⟨J, rfl, hJL, hAJ, h39, Or.inl (by omega), hb, hbel⟩
        case rest =>
          clear hb hbel hAI h39 hIL
          obtain ⟨J, rfl, hJL, hAJ, h39, hor, hb, hbel⟩ := hcut
          obtain ⟨n', hn'⟩ : ∃ n', 8 * J - A = n' := ⟨_, rfl⟩
          rw [hn'] at hb hor h39
          have AN : Aside (8 * J - A = n') := hn'
          clear hn'
          by_cases ht : nn ≤ n'
          · go_wp2_with fail
            refine (take_yes w.heap.size _ n' nn _ hb hnn32 ht).mono ?_
            rintro e w5 ⟨rfl, hb, ho⟩
            have hbel := hbel.trans (ho.below (Nat.le_refl _))
            have hAn : A + nn ≤ 8 * J := by have := AN.out; omega
            rw [Nat.div_div_eq_div_mul, ← Nat.pow_add, show n' - nn = 8 * J - (A + nn) by have := AN.out; omega] at hb
            have hbits : ∀ k, k < nn → numh X 0 J / 2 ^ A % 2 ^ nn / 2 ^ k % 2 = X ((A + k) / 8) / 2 ^ ((A + k) % 8) % 2 := fun k hk => numh_taken X J A nn k (fun i hi => AX.out i (by omega)) hk hAn
            have hV : numh X 0 J / 2 ^ A % 2 ^ nn < 4294967296 := by
              have h1 := Nat.mod_lt (numh X 0 J / 2 ^ A) (Nat.two_pow_pos nn)
              have h2 : 2 ^ nn ≤ 4294967296 := pow_le64 hnn32
              omega
            generalize numh X 0 J / 2 ^ A % 2 ^ nn = V at hbits hV ⊢
            have AB : Aside (∀ k, k < nn → V / 2 ^ k % 2 = X ((A + k) / 8) / 2 ^ ((A + k) % 8) % 2) := hbits
            have h39' : 8 * J - (A + nn) ≤ 39 := by have := AN.out; omega
            clear ho hbits AN ht hor h39 hAJ
            go_wp2_with fail
            go_loopg [12] nn (fun g s12 wr => wr = w5 ∧ ∃ k : Nat, s12 = .int .i64 k ∧ k + g = nn)
            case atStart => exact ⟨rfl, 0, rfl, by omega⟩
            case round =>
              obtain ⟨rfl, k, rfl, hkg⟩ := hrel
              have AK : Aside (k + gk = nn) := hkg
              have hkn : k ≤ nn := by omega
              have hk0 : (0 : Int) ≤ k := Int.natCast_nonneg _
              clear hkg
              by_cases hk : k < nn
              · have hki : (k : Int) < (nn : Int) := by omega
                rcases hr with hr | ⟨bb, off, rfl, hbw, hc⟩
                · omega
                have hq' : (A + k) / 8 < L := by omega
                obtain ⟨g, gx⟩ := hc _ hq'
                have g' := (hbel.cell (p := ⟨bb, off + (A + k) / 8, none⟩) hbw).trans g
                clear g
                have hbit := AB.out k hk
                have hc22 := bit_c bb off L cap (A + k) (X ((A + k) / 8)) wr g' gx (by omega) (by omega)
                rw [← hbit] at hc22
                obtain ⟨y, hy⟩ : ∃ y, V / 2 ^ k % 2 = y := ⟨_, rfl⟩
                have hand := and_one V k (by omega)
                rw [hy] at hc22 hand
                have hyy : ((y : Int) != (y : Int)) = false := by simp
                clear g' gx hbit hc hy
                go_wp2_with fail
                rw [show (A : Int) + (k : Int) = ((A + k : Nat) : Int) by omega]
                refine hc22.mono ?_
                rintro e w' ⟨rfl, rfl⟩
                clear hc22
                go_wp2_with fail
                have AK := AK.out
                go_roundg (gk - 1)
                case measure => omega
                case rel => exact ⟨rfl, k + 1, by go_num, by omega⟩
              · have hki : ¬ (k : Int) < (nn : Int) := by omega
                clear AK
                go_upto_region 22 with fail
                by_cases h0 : nn = 0
                · have h0i : ((nn : Int) == 0) = true := by rw [h0]; rfl
                  have hw1 : IntKind.i64.wrap (8 * (L : Int)) = 8 * (L : Int) := by rw [IntKind.wrap_i64]; omega
                  obtain ⟨S, hS⟩ : ∃ S : Nat, (M : Int) + 8 * (L : Int) = (S : Int) := ⟨M + 8 * L, by omega⟩
                  have hw2 : IntKind.i64.wrap (S : Int) = (S : Int) := by rw [IntKind.wrap_i64]; omega
                  have AS : Aside (S = M + 8 * L) := by show S = _; omega
                  have AH : Aside (nn = 0) := h0
                  clear hAb hLb hMb h0
                  by_cases hbig : M + 8 * L < i
                  · have hbig' : (S : Int) < (i : Int) := by omega
                    go_wp2_with fail
                    go_ret
                    exact ⟨rfl, hbel⟩
                  · have hbig' : ¬ (S : Int) < (i : Int) := by omega
                    go_wp2_with fail
                    have AG := AG.out
                    have AS := AS.out
                    have AH := AH.out
                    go_roundg ((M + 8 * L + 2 - (i + 1)) + (8 * L - (A + nn)))
                    case measure => omega
                    case rel => exact ⟨A + nn, J, i + 1, by go_num, rfl, by go_num, hJL, hAn, h39', by omega, by omega, hb, hbel⟩
                · have h0' : ((nn : Int) == 0) = false := by
                    have : ¬ (nn : Int) = 0 := by omega
                    simpa using this
                  go_wp2_with fail
                  have AG := AG.out
                  go_roundg ((M + 8 * L + 2 - (i + 1)) + (8 * L - (A + nn)))
                  case measure => omega
                  case rel => exact ⟨A + nn, J, i + 1, by go_num, rfl, by go_num, hJL, hAn, h39', by omega, by omega, hb, hbel⟩
          · have hJ : J = L := by omega
            subst hJ
            have hn'i : (n' : Int) = 8 * (J : Int) - (A : Int) := by have := AN.out; omega
            have hlt : 8 * (J : Int) - (A : Int) < (nn : Int) := by omega
            clear AN
            go_wp2_with fail
            refine (take_no w.heap.size _ n' nn _ hb (by unfold Can; omega)).mono ?_
            rintro e w5 ⟨rfl, rfl⟩
            go_wp2_with fail
            refine (held_b w.heap.size _ n' _ hb).mono ?_
            rintro e w' ⟨rfl, rfl⟩
            go_wp2_with fail
            go_ret
            exact ⟨rfl, hbel⟩
      · rw [decide_eq_false hgo]
        go_wp2_with fail
        refine (put_yes w.heap.size _ (8 * I - A) 7 _ hb (by omega) (by decide)).mono ?_
        rintro e w2 ⟨rfl, hb, ho⟩
        go_wp2_with fail
        go_ret
        exact ⟨rfl, hbel.trans (ho.below (Nat.le_refl _))⟩

theorem walk {H : Type} {enc : TypeId × Value → H} (w : World) (base : Nat) (v0 : Value) (d0 : DataW H) (p0 : List MemPlace) (o0 : Value.okWide Try.prog w .any base 42 v0) (h0 : DataW.Trod enc Try.prog w 0 (fun _ => true) true 42 v0 d0 p0) (z0 : ∀ elems spare, d0 = .slice elems spare → (elems.length + spare.length) * Try.prog.bytesOf 5 ≤ reachBytes) (v1 : Value) (d1 : DataW H) (p1 : List MemPlace) (o1 : Value.okWide Try.prog w .any base 42 v1) (h1 : DataW.Trod enc Try.prog w 0 (fun _ => true) true 42 v1 d1 p1) (z1 : ∀ elems spare, d1 = .slice elems spare → (elems.length + spare.length) * Try.prog.bytesOf 5 ≤ reachBytes) :
    Calls Try.prog 6 #[v0, v1] w fun e w' => e = .returned (.bool true) ∧ Below w.heap.size w w' := by
  obtain ⟨a, L, cap, X, rfl, hlc, hcap, hr⟩ := open_bytes_sized Try.underlying42 Try.underlying5 (by kernel_rfl) (by kernel_rfl) o0 h0 z0
  obtain ⟨a2, M, cap2, Y, rfl, hlc2, hcap2, hr2⟩ := open_bytes_sized Try.underlying42 Try.underlying5 (by kernel_rfl) (by kernel_rfl) o1 h1 z1
  exact core w a a2 L cap M cap2 X Y (by omega) (by omega) hr hr2

set_option maxRecDepth 100000 in
theorem lifted (os : Os) (started : os.Started) (H : Type) (enc : TypeId × Value → H) :
    ReturnsInHanded {} Try.checked os 6 .any (Rows.bitsOrderSpec.pre6 enc Try.prog Try.f6 Rows.bitsOrderRow.domain false) (Rows.bitsOrderSpec.post enc Try.prog Try.f6 false true false false) := by
  refine returnsInHanded_of_change_sized (C := Try.checked) own started (by kernel_rfl) Try.func6
    (ChangeSpec.witness6 (enc := enc) (C := Try.checked) false ⟨#[], #[.slice none 0 0, .slice none 0 0], []⟩ 8 (by kernel_rfl) (by kernel_rfl) (by kernel_rfl) (by kernel_rfl)) ?_
  intro W base args ds gs before hval0 hW hcnd hsz _
  have hval : ∀ (j : Nat) t v, Try.f6.params[j]? = some t → args[j]? = some v → Value.okWide Try.prog W .any base t v := hval0
  have hW' := hW
  obtain ⟨p, q, hA0, hV, rfl, hfz, hnd⟩ := hW
  have hA : DataW.TrodAll enc Try.prog W 0 (fun _ => true) true Try.f6.params.toList args.toList ds p := hA0
  rw [Try.params6] at hA hval
  obtain ⟨v0, vs0, d0, ds0, p0, q0, hargs, rfl, rfl, h0, r0⟩ := trodAll_cons hA
  obtain ⟨v1, vs1, d1, ds1, p1, q1, rfl, rfl, rfl, h1, r1⟩ := trodAll_cons r0
  obtain ⟨rfl, rfl, rfl⟩ := trodAll_nil r1
  obtain rfl : args = #[v0, v1] := by cases args; simp_all
  obtain ⟨rfl, rfl⟩ := trodVars_none hV
  have o0 := hval 0 42 v0 rfl rfl
  have lt0 : ∀ x ∈ p0, x.block < W.heap.size := by obtain ⟨m, hm⟩ := h0; exact DataW.trod_lt m _ _ _ hm
  have o1 := hval 1 42 v1 rfl rfl
  have lt1 : ∀ x ∈ p1, x.block < W.heap.size := by obtain ⟨m, hm⟩ := h1; exact DataW.trod_lt m _ _ _ hm
  clear hA0 hval0
  refine (walk W base v0 d0 p0 o0 h0 (fun elems spare e => sized_slice hsz (j := 0) rfl (by rw [e]; rfl) Try.underlying42) v1 d1 p1 o1 h1 (fun elems spare e => sized_slice hsz (j := 1) rfl (by rw [e]; rfl) Try.underlying42)).mono fun e W' ⟨he, bel⟩ => ?_
  subst he
  exact ⟨_, rfl, _, _, _, [], _, [], hW', trodAll_mk1 (shut_bool Try.underlying4 _), (trodAll_cons_mk (Below.trod laidOut (by kernel_rfl) (of_decide_eq_true (by kernel_rfl)) h0 bel lt0) (trodAll_cons_mk (Below.trod laidOut (by kernel_rfl) (of_decide_eq_true (by kernel_rfl)) h1 bel lt1) trodAll_mk0)), rfl, bel.frame _, fun h => by cases h⟩

theorem over : Rows.bitsOrderRow.holds Try.pinned (OpenSpec.ofChange Rows.bitsOrderSpec) :=
  OpenClaim.holds_of_wide 6 Try.f6 rfl rfl rfl rfl rfl rfl rfl ⟨rfl, rfl, rfl, rfl, rfl⟩ rfl rfl rfl rfl rfl (by kernel_rfl) Try.func6 (by kernel_rfl)
    (of_decide_eq_true (by kernel_rfl)) (by unfold Func.isWrapper; first | (rw [if_pos (by decide +kernel)]; kernel_rfl) | (rw [if_neg (by decide +kernel)]; exact ⟨rfl, rfl⟩))
    (fun os started H enc _ => lifted os started H enc)

end Go.Proofs.Ytceblecdobbldaa.bitsOrder
namespace Go.Proofs.Ytceblecdobbldaa
/-- The statement. -/
theorem bitsOrder_holds : Rows.BitsOrderSaid := bitsOrder.over
#print axioms bitsOrder_holds
end Go.Proofs.Ytceblecdobbldaa

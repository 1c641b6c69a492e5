/-
  BitsPieces holds: of eight bytes a number of bits taken in two pieces is the two numbers, the second one as much higher as the first one has bits, and as many are held behind it.
  Conditions: none; the bytes and both counts are any.
-/
import Derived.Test.YtceblecdobbldaaReader
import Derived.Test.YtceblecdobbldaaOpen
import Derived.WalkKit
import Derived.ProofKit
import Derived.OpenShut
import Derived.ShutString
import Derived.ChangeOld
import Derived.Below
namespace Go.Proofs.Ytceblecdobbldaa.bitsPieces
open Go.ChangeShapes Go.WideShapes Go.ChangeAt Go.RowKit
open Go.ChangeMaps (open_string shut_string)
set_option linter.unusedVariables false

theorem own : ownKnob Try.prog.godebug = none := by kernel_rfl
theorem laidOut : laidOutB Try.prog = true := by kernel_rfl

set_option maxHeartbeats 1000000 in
theorem core (w : World) (xs : List Nat) (hlen : xs.length = 8) (hxs : ∀ x ∈ xs, x < 256) (p q : Nat) (hp : p < 256) (hq : q < 256) :
    Calls Try.prog 7 #[.agg (xs.map (fun x : Nat => Value.int .u8 (x : Int))).toArray, .int .u8 p, .int .u8 q] w fun e w' => e = .returned (.bool true) ∧ Below w.heap.size w w' := by
  obtain ⟨k, hk, hk16⟩ : ∃ k : Nat, (p : Int) % 17 = (k : Int) ∧ k ≤ 16 := ⟨p % 17, by omega, by omega⟩
  obtain ⟨l, hl, hl16⟩ : ∃ l : Nat, (q : Int) % 17 = (l : Int) ∧ l ≤ 16 := ⟨q % 17, by omega, by omega⟩
  obtain ⟨arr, harr⟩ : ∃ arr, (xs.map (fun x : Nat => Value.int .u8 (x : Int))).toArray = arr := ⟨_, rfl⟩
  have hcell : ∀ i, i < 8 → ∃ x : Nat, arr[i]? = some (.int .u8 (x : Int)) ∧ x < 256 := by
    intro i hi
    refine ⟨xs[i], ?_, hxs _ (List.getElem_mem _)⟩
    rw [← harr]
    simp [List.getElem?_eq_getElem (show i < xs.length by omega)]
  rw [harr]
  clear harr hxs hlen
  go_enter Try.func7, Try.ntmps7
  go_wp2_with fail
  rw [hk, hl]
  generalize hw0 : w.alloc (Obj.cells arr 45) = w0
  have hc0 : Cells w0 w.heap.size arr 45 := by rw [← hw0]; exact Cells.new _ _ _
  have hbel0 : Below w.heap.size w w0 := by rw [← hw0]; exact (Below.refl _ _).alloc (Nat.le_refl _) _
  have hB0 : w.heap.size < w0.heap.size := hc0.lt
  clear hw0
  refine (new_b _).mono ?_
  rintro e w1 ⟨rfl, hb1, hbel1, hsz1⟩
  have hB1 : w0.heap.size < w1.heap.size := by omega
  have hc1 := hc0.below hbel1 hB0
  have hbel := hbel0.trans (hbel1.mono (Nat.le_of_lt hB0))
  clear hbel1 hsz1 hbel0 hc0
  generalize w0.heap.size = B1 at *
  clear w0
  go_wp2_with fail
  refine (new_b _).mono ?_
  rintro e w2 ⟨rfl, hb2, hbel2, hsz2⟩
  have hc2 := hc1.below hbel2 (by omega)
  have hb1' := hb1.below hbel2 hB1
  have hbel' := hbel.trans (hbel2.mono (by omega))
  clear hbel2 hsz2 hbel hc1 hb1
  generalize w1.heap.size = B2 at *
  clear w1
  have hB12 : B1 ≠ B2 := by omega
  have hB01 : w.heap.size ≠ B1 := by omega
  have hB02 : w.heap.size ≠ B2 := by omega
  have hle1 : w.heap.size ≤ B1 := by omega
  have hle2 : w.heap.size ≤ B2 := by omega
  clear hB0 hB1
  go_wp2_with fail
  go_loopw [11] (fun i wr => ∃ (j v : Nat), j ≤ 8 ∧ i = .int .i64 j ∧ Br wr B1 v (8 * j) ∧ Br wr B2 v (8 * j) ∧ Cells wr w.heap.size arr 45 ∧ Below w.heap.size w wr) (fun i _ => 8 - (intOf i).toNat)
  case atStart => exact ⟨0, 0, by decide, rfl, hb1', hb2, hc2, hbel'⟩
  case round =>
    clear hb1' hb2 hc2 hbel' w2
    obtain ⟨j, v, hj, rfl, hb1, hb2, hc, hbel⟩ := hrel
    by_cases hlt : j < 8
    · have hji : (j : Int) < 8 := by omega
      have hj0 : (0 : Int) ≤ j := by omega
      obtain ⟨x, hx, hx256⟩ := hcell j hlt
      have hcx := (hc.cell j).trans hx
      go_wp2_with fail
      refine (put_yes B1 v (8 * j) x _ hb1 (by omega) hx256).mono ?_
      rintro e w3 ⟨rfl, hb1, ho⟩
      have hc := hc.only ho hB01
      have hb2 := hb2.only ho (Ne.symm hB12)
      have hbel := hbel.trans (ho.below hle1)
      have hcx := (hc.cell j).trans hx
      clear ho
      go_wp2_with fail
      refine (put_yes B2 v (8 * j) x _ hb2 (by omega) hx256).mono ?_
      rintro e w4 ⟨rfl, hb2, ho⟩
      have hc := hc.only ho hB02
      have hb1 := hb1.only ho hB12
      have hbel := hbel.trans (ho.below hle2)
      clear ho
      go_wp2_with fail
      go_roundw
      case rel => exact ⟨j + 1, _, by omega, by go_num, hb1, hb2, hc, hbel⟩
      case measure => simp [intOf]; omega
    · have hj8 : j = 8 := by omega
      subst hj8
      go_wp2_with fail
      rw [show (k : Int) + (l : Int) = ((k + l : Nat) : Int) by omega]
      refine (take_yes B1 v 64 (k + l) _ hb1 (by omega) (by omega)).mono ?_
      rintro e w3 ⟨rfl, hb1, ho⟩
      have hb2 := hb2.only ho (Ne.symm hB12)
      have hbel := hbel.trans (ho.below hle1)
      clear ho
      obtain ⟨A, hA⟩ : ∃ A, v % 2 ^ (k + l) = A := ⟨_, rfl⟩
      rw [hA]
      go_wp2_with fail
      refine (take_yes B2 v 64 k _ hb2 (by omega) (by omega)).mono ?_
      rintro e w4 ⟨rfl, hb2, ho⟩
      have hb1 := hb1.only ho hB12
      have hbel := hbel.trans (ho.below hle2)
      clear ho
      obtain ⟨L, hL⟩ : ∃ L, v % 2 ^ k = L := ⟨_, rfl⟩
      rw [hL]
      go_wp2_with fail
      refine (take_yes B2 _ (64 - k) l _ hb2 (by omega) (by omega)).mono ?_
      rintro e w5 ⟨rfl, hb2, ho⟩
      have hb1 := hb1.only ho hB12
      have hbel := hbel.trans (ho.below hle2)
      clear ho
      obtain ⟨G, hG⟩ : ∃ G, v / 2 ^ k % 2 ^ l = G := ⟨_, rfl⟩
      rw [hG]
      have hG16 : G < 65536 := by
        have h1 := Nat.mod_lt (v / 2 ^ k) (Nat.two_pow_pos l)
        have h2 : 2 ^ l ≤ 65536 := pow_le64 hl16
        omega
      have hP : 2 ^ k ≤ 65536 := pow_le64 hk16
      have hGP : G * 2 ^ k ≤ 65535 * 65536 := Nat.mul_le_mul (by omega) hP
      have hL16 : L < 65536 := by
        have h1 := Nat.mod_lt v (Nat.two_pow_pos k)
        omega
      have hAe : A = L + G * 2 ^ k := by
        rw [← hA, ← hL, ← hG, Nat.pow_add, Nat.mod_mul, Nat.mul_comm]
      have hA32 : A < 4294967296 := by omega
      clear hA hL hG
      go_wp2_with fail
      refine (held_b B1 _ (64 - (k + l)) _ hb1).mono ?_
      rintro e w' ⟨rfl, rfl⟩
      go_wp2_with fail
      rotate_left
      · rename_i hne
        refine absurd ?_ hne
        have e1 : (G : Int) * 2 ^ k = ((G * 2 ^ k : Nat) : Int) := by push_cast; rfl
        rw [e1, wrap64_nat (by omega)]
      rw [show 64 - (k : Int) - (l : Int) = ((64 - (k + l) : Nat) : Int) by omega]
      obtain ⟨r, hr⟩ : ∃ r, 64 - (k + l) = r := ⟨_, rfl⟩
      rw [show 64 - k - l = r by omega] at hb2
      rw [hr] at hb1
      rw [hr]
      have hr64 : r ≤ 64 := by omega
      refine (held_b B2 _ r _ hb2).mono ?_
      rintro e w' ⟨rfl, rfl⟩
      by_cases h56 : r ≤ 56
      · have h56' : (r : Int) ≤ 56 := by omega
        go_wp2_with fail
        refine (put_yes B1 _ r 1 _ hb1 h56 (by decide)).mono ?_
        rintro e w6 ⟨rfl, -, ho⟩
        go_wp2_with fail
        go_ret
        exact ⟨rfl, hbel.trans (ho.below hle1)⟩
      · have h56' : ¬ (r : Int) ≤ 56 := by omega
        go_wp2_with fail
        refine (put_no B1 _ r 1 _ hb1 (by omega)).mono ?_
        rintro e w' ⟨rfl, rfl⟩
        go_wp2_with fail
        go_ret
        refine ⟨?_, hbel⟩
        show Ending.returned (.bool (!decide ((r : Int) ≤ 56))) = _
        rw [decide_eq_false (by omega)]
        rfl

theorem walk {H : Type} {enc : TypeId × Value → H} (w : World) (base : Nat) (v0 : Value) (d0 : DataW H) (p0 : List MemPlace) (o0 : Value.okWide Try.prog w .any base 45 v0) (h0 : DataW.Trod enc Try.prog w 0 (fun _ => true) true 45 v0 d0 p0) (a1 : Int) (w1 : (Lit.int .u8 a1).wf = true) (a2 : Int) (w2 : (Lit.int .u8 a2).wf = true) :
    Calls Try.prog 7 #[v0, .int .u8 a1, .int .u8 a2] w fun e w' => e = .returned (.bool true) ∧ Below w.heap.size w w' := by
  obtain ⟨xs, hl, rfl, hxs⟩ := open_arr Try.underlying45 Try.underlying5 (by kernel_rfl) (by kernel_rfl) o0 h0
  obtain ⟨p, rfl, hp⟩ := byte_of_wf w1
  obtain ⟨q, rfl, hq⟩ := byte_of_wf w2
  exact core w xs hl hxs p q hp hq

set_option maxRecDepth 100000 in
theorem lifted (os : Os) (started : os.Started) (H : Type) (enc : TypeId × Value → H) :
    ReturnsInHanded {} Try.checked os 7 .any (Rows.bitsPiecesSpec.pre6 enc Try.prog Try.f7 Rows.bitsPiecesRow.domain false) (Rows.bitsPiecesSpec.post enc Try.prog Try.f7 false true false false) := by
  refine returnsInHanded_of_change (C := Try.checked) own started (by kernel_rfl) Try.func7
    (ChangeSpec.witness6 (enc := enc) (C := Try.checked) false ⟨#[], #[.agg #[.int .u8 0, .int .u8 0, .int .u8 0, .int .u8 0, .int .u8 0, .int .u8 0, .int .u8 0, .int .u8 0], .int .u8 0, .int .u8 0], []⟩ 8 (by kernel_rfl) (by kernel_rfl) (by kernel_rfl) (by kernel_rfl)) ?_
  intro W base args ds gs before hval0 hW hcnd _
  have hval : ∀ (j : Nat) t v, Try.f7.params[j]? = some t → args[j]? = some v → Value.okWide Try.prog W .any base t v := hval0
  have hW' := hW
  obtain ⟨p, q, hA0, hV, rfl, hfz, hnd⟩ := hW
  have hA : DataW.TrodAll enc Try.prog W 0 (fun _ => true) true Try.f7.params.toList args.toList ds p := hA0
  rw [Try.params7] at hA hval
  obtain ⟨v0, vs0, d0, ds0, p0, q0, hargs, rfl, rfl, h0, r0⟩ := trodAll_cons hA
  obtain ⟨v1, vs1, d1, ds1, p1, q1, rfl, rfl, rfl, h1, r1⟩ := trodAll_cons r0
  obtain ⟨v2, vs2, d2, ds2, p2, q2, rfl, rfl, rfl, h2, r2⟩ := trodAll_cons r1
  obtain ⟨rfl, rfl, rfl⟩ := trodAll_nil r2
  obtain rfl : args = #[v0, v1, v2] := by cases args; simp_all
  obtain ⟨rfl, rfl⟩ := trodVars_none hV
  have o0 := hval 0 45 v0 rfl rfl
  have lt0 : ∀ x ∈ p0, x.block < W.heap.size := by obtain ⟨m, hm⟩ := h0; exact DataW.trod_lt m _ _ _ hm
  obtain ⟨a1, rfl, rfl, rfl, w1⟩ := open_int Try.underlying5 (hval 1 5 v1 rfl rfl) h1
  obtain ⟨a2, rfl, rfl, rfl, w2⟩ := open_int Try.underlying5 (hval 2 5 v2 rfl rfl) h2
  clear hA0 hval0
  refine (walk W base v0 d0 p0 o0 h0 a1 w1 a2 w2).mono fun e W' ⟨he, bel⟩ => ?_
  subst he
  exact ⟨_, rfl, _, _, _, [], _, [], hW', trodAll_mk1 (shut_bool Try.underlying4 _), (trodAll_cons_mk (Below.trod laidOut (by kernel_rfl) (of_decide_eq_true (by kernel_rfl)) h0 bel lt0) (trodAll_cons_mk (shut_int Try.underlying5 w1) (trodAll_cons_mk (shut_int Try.underlying5 w2) trodAll_mk0))), rfl, bel.frame _, fun h => by cases h⟩

theorem over : Rows.bitsPiecesRow.holds Try.pinned (OpenSpec.ofChange Rows.bitsPiecesSpec) :=
  OpenClaim.holds_of_wide 7 Try.f7 rfl rfl rfl rfl rfl rfl rfl ⟨rfl, rfl, rfl, rfl, rfl⟩ rfl rfl rfl rfl rfl (by kernel_rfl) Try.func7 (by kernel_rfl)
    (of_decide_eq_true (by kernel_rfl)) (by unfold Func.isWrapper; first | (rw [if_pos (by decide +kernel)]; kernel_rfl) | (rw [if_neg (by decide +kernel)]; exact ⟨rfl, rfl⟩))
    (fun os started H enc _ => lifted os started H enc)

end Go.Proofs.Ytceblecdobbldaa.bitsPieces
namespace Go.Proofs.Ytceblecdobbldaa
/-- The statement. -/
theorem bitsPieces_holds : Rows.BitsPiecesSaid := bitsPieces.over
#print axioms bitsPieces_holds
end Go.Proofs.Ytceblecdobbldaa

/-
  BitsPlays holds: a reader under any calls of Put, Take, Peek, Align and Clear answers each as the document says, and holds as many bits.
  Conditions: none; the calls are any list.
-/
import Derived.Test.YtceblecdobbldaaRefD
import Derived.Test.YtceblecdobbldaaOpen
import Derived.WalkKit
import Derived.ProofKit
import Derived.OpenShut
import Derived.ShutString
import Derived.ChangeOld
import Derived.Below
import Derived.Deep.CutBlock
import Derived.Deep.DeepCutAuto
import Derived.Deep.LoopGhost
import Derived.Deep.RegionHeld3
namespace Go.Proofs.Ytceblecdobbldaa.bitsPlays
open Go.ChangeShapes Go.WideShapes Go.ChangeAt Go.RowKit
open Go.ChangeMaps (open_string shut_string)
set_option linter.unusedVariables false

theorem own : ownKnob Try.prog.godebug = none := by kernel_rfl
theorem laidOut : laidOutB Try.prog = true := by kernel_rfl

set_option maxRecDepth 100000 in
set_option maxHeartbeats 4000000 in
theorem core (w : World) (a : Option Addr) (len cap : Nat) (hlen : len ≤ maxLen) (hr : Acts w a len) :
    Calls Try.prog 3 #[.slice a len cap] w fun e w' => e = .returned (.bool true) ∧ Below w.heap.size w w' := by
  unfold maxLen at hlen
  have AL : Aside (len ≤ 2 ^ 63 - 1) := hlen
  clear hlen
  go_enter Try.func3, Try.ntmps3
  go_wp2_with fail
  refine (new_b _).mono ?_
  rintro e w1 ⟨rfl, hb0, hbel0, hsz0⟩
  have hH1 : w.heap.size < w1.heap.size := by omega
  clear hsz0
  go_wp2_with fail
  generalize hw2 : w1.alloc (Obj.cells #[Value.slice none 0 0] 28) = w2
  have hcC : Cells w2 w1.heap.size #[Value.slice none 0 0] 28 := by rw [← hw2]; exact Cells.new _ _ _
  have hb2 : Br w2 w.heap.size 0 0 := by rw [← hw2]; exact hb0.alloc _
  have hbel2 : Below w.heap.size w w2 := by rw [← hw2]; exact hbel0.alloc (Nat.le_of_lt hH1) _
  have hrf2 : Rf w2 w1.heap.size (w1.heap.size + 1) (.slice none 0 0) [] := Rf.nil ((hcC.cell 0).trans rfl) (hcC.frozen 0) (Nat.lt_succ_self _) hcC.lt
  clear hw2 hcC hb0 hbel0
  generalize w1.heap.size = C at *
  clear w1
  refine (held_b w.heap.size _ 0 _ hb2).mono ?_
  rintro e w' ⟨rfl, rfl⟩
  go_wp2_with fail
  go_loopg [5] len (fun g si wr => ∃ (k : Nat) (v : Value) (l : List Bool), k + g = len ∧ si = .int .i64 k ∧ Both wr w.heap.size C v l ∧ Below w.heap.size w wr)
  case atStart => exact ⟨0, _, [], by omega, rfl, ⟨hb2, hrf2, hH1⟩, hbel2⟩
  case round =>
    clear hb2 hrf2 hbel2 w2
    obtain ⟨k, v, l, hkg, rfl, hbo, hbel⟩ := hrel
    have AK : Aside (k + gk = len) := hkg
    have hkl : k ≤ len := by omega
    have hk0 : (0 : Int) ≤ k := Int.natCast_nonneg _
    have hkb : (k : Int) < 9223372036854775807 ∨ k = len := by have := AL.out; omega
    clear hkg
    by_cases hlt : k < len
    · have hki : (k : Int) < (len : Int) := by omega
      have hk1 : (k : Int) < 9223372036854775807 := by have := AL.out; omega
      clear hkb
      rcases hr with hr | ⟨b, off, K, X, Z, rfl, hbw, hc⟩
      · omega
      obtain ⟨g0, g1, g2, hK, hX, hZ⟩ := hc k hlt
      have g0' := (hbel.cell (p := ⟨b, off + k * 3, none⟩) hbw).trans g0
      have g1' := (hbel.cell (p := ⟨b, off + k * 3 + 1, none⟩) hbw).trans g1
      have g2' := (hbel.cell (p := ⟨b, off + k * 3 + 2, none⟩) hbw).trans g2
      clear g0 g1 g2 hc
      go_upto_region 9 with fail
      obtain ⟨c, hc5, hcl⟩ : ∃ c : Nat, (K k : Int) % 5 = (c : Int) ∧ c < 5 := ⟨K k % 5, by omega, by omega⟩
      generalize K k = kk at *
      generalize X k = x at *
      generalize Z k = z at *
      clear g0' g1' g2'
      have hvr := hbo.rf.row
      generalize hwa : wr.alloc (Obj.cells #[Value.int IntKind.u8 (kk : Int), Value.int IntKind.u8 (x : Int), Value.int IntKind.i64 z] 31) = wa
      have hca : Cells wa wr.heap.size #[Value.int IntKind.u8 (kk : Int), Value.int IntKind.u8 (x : Int), Value.int IntKind.i64 z] 31 := by rw [← hwa]; exact Cells.new _ _ _
      have hboa : Both wa w.heap.size C v l := by rw [← hwa]; exact hbo.alloc _
      have hbela : Below w.heap.size w wa := by rw [← hwa]; exact hbel.alloc hbel.size _
      have hC : C < wr.heap.size := hbo.rf.le
      have hHC := hbo.lt
      clear hwa hbo hbel
      generalize wr.heap.size = P at *
      clear wr
      have hPC : P ≠ C := by omega
      have hPH : P ≠ w.heap.size := by omega
      have hPv : some P ≠ v.ownBlock := fun e => by have := (hvr P e.symm).2; omega
      have hvC : ∀ g, v.ownBlock = some g → C + 1 ≤ g := fun g e => (hvr g e).1
      have hPlt := hca.lt
      have k0 := (hca.cell 0).trans rfl
      have k1 := (hca.cell 1).trans rfl
      have k2 := (hca.cell 2).trans rfl
      have hl64 : l.length ≤ 64 := hboa.br.le
      clear hvr hC
      go_upto_block 2 with fail
      rw [hc5]
      clear hc5 hK k0
      go_cut [] (fun wc => ∃ v' l', Both wc w.heap.size C v' l' ∧ Below w.heap.size w wc)
      case first =>
        match c, hcl with
        | 0, _ =>
          by_cases h56 : l.length ≤ 56
          · go_wp2_with fail
            go_region_held3 (fun w' => w'.cell? ⟨P, 1, none⟩ = some (.int .u8 x)) (first | assumption | (refine (Grew.cell hg3 ?_ hPC hPv).trans ?_; (exact Nat.lt_of_lt_of_le hPlt (Nat.le_of_eq ho2.size.symm)); assumption) | (refine (Only.cell ho2 hPH).trans ?_; assumption))
              (first
                | (go_at_call 11; refine (put_yes _ (nm l) l.length x _ (by exact hboa.br.drew) h56 hX).mono ?_; rintro e w2 ⟨rfl, hb2, ho2⟩)
                | (go_at_call 12; refine (rput_yes C (C + 1) v l x _ (by exact hboa.rf.drew.only ho2 hHC) h56 hX).mono ?_; rintro e w3 ⟨rfl, ⟨v', hrf3⟩, hg3⟩))
            go_wp2_with fail
            go_meet
            case rel => exact ⟨_, _, Both.put hb2 hg3 hHC hvC hX hrf3, (hbela.drew.trans (ho2.below (Nat.le_refl _))).trans (hg3.below (Nat.le_of_lt hHC) (Nat.le_of_lt hb2.blt) (fun g e => by have := hvC g e; omega))⟩
          · have h56' : 56 < l.length := by omega
            go_wp2_with fail
            go_region_held3 (fun w' => w'.cell? ⟨P, 1, none⟩ = some (.int .u8 x)) (first | assumption)
              (first
                | (go_at_call 11; refine (put_no _ (nm l) l.length x _ (by exact hboa.br.drew) h56').mono ?_; rintro e w2 ⟨rfl, rfl⟩)
                | (go_at_call 12; refine (rput_no C (C + 1) v l x _ (by exact hboa.rf.drew) h56').mono ?_; rintro e w3 ⟨rfl, rfl⟩))
            go_wp2_with fail
            go_meet
            case rel => exact ⟨_, _, hboa.drewN 1, hbela.drew⟩
        | 1, _ =>
          by_cases hcan : Can z l.length
          · obtain ⟨n, rfl⟩ : ∃ n : Nat, z = (n : Int) := ⟨z.toNat, by have := hcan.1; omega⟩
            have hn32 : n ≤ 32 := by have := hcan.2.1; omega
            have hnl : n ≤ l.length := by have := hcan.2.2; omega
            have hc14 := fun w' h => rtake_yes C (C + 1) v l n w' h hn32 hnl hl64
            have hc13 := take_yes w.heap.size (nm l) l.length n wa hboa.br hn32 hnl
            generalize nm l % 2 ^ n = y at hc14 hc13
            have hyy : ((y : Int) != (y : Int)) = false := by simp
            clear hcan
            go_wp2_with fail
            refine hc13.mono ?_
            rintro e w2 ⟨rfl, hb2, ho2⟩
            have k2 := (ho2.cell (p := ⟨P, 2, none⟩) hPH).trans k2
            have hrf2 := hboa.rf.only ho2 hHC
            clear hc13
            go_wp2_with fail
            refine (hc14 _ hrf2).mono ?_
            rintro e w3 ⟨rfl, ⟨v', hrf3⟩, hg3⟩
            clear hc14
            go_wp2_with fail
            go_meet
            case rel => exact ⟨_, _, Both.take hb2 hg3 hHC hrf3, (hbela.trans (ho2.below (Nat.le_refl _))).trans (hg3.below (Nat.le_of_lt hHC) (Nat.le_of_lt hb2.blt) (fun g e => by cases e))⟩
          · go_wp2_with fail
            refine (take_no w.heap.size (nm l) l.length z _ hboa.br hcan).mono ?_
            rintro e w2 ⟨rfl, rfl⟩
            go_wp2_with fail
            refine (rtake_no C (C + 1) v l z _ hboa.rf hcan).mono ?_
            rintro e w2 ⟨rfl, rfl⟩
            go_wp2_with fail
            go_meet
            case rel => exact ⟨_, _, hboa, hbela⟩
        | 2, _ =>
          by_cases hcan : Can z l.length
          · obtain ⟨n, rfl⟩ : ∃ n : Nat, z = (n : Int) := ⟨z.toNat, by have := hcan.1; omega⟩
            have hn32 : n ≤ 32 := by have := hcan.2.1; omega
            have hnl : n ≤ l.length := by have := hcan.2.2; omega
            have hc16 := rpeek_yes C (C + 1) v l n wa hboa.rf hn32 hnl
            have hc15 := peek_yes w.heap.size (nm l) l.length n wa hboa.br hn32 hnl
            generalize nm l % 2 ^ n = y at hc16 hc15
            have hyy : ((y : Int) != (y : Int)) = false := by simp
            clear hcan
            go_wp2_with fail
            refine hc15.mono ?_
            rintro e w2 ⟨rfl, rfl⟩
            clear hc15
            go_wp2_with fail
            refine hc16.mono ?_
            rintro e w2 ⟨rfl, rfl⟩
            clear hc16
            go_wp2_with fail
            go_meet
            case rel => exact ⟨_, _, hboa, hbela⟩
          · go_wp2_with fail
            refine (peek_no w.heap.size (nm l) l.length z _ hboa.br hcan).mono ?_
            rintro e w2 ⟨rfl, rfl⟩
            go_wp2_with fail
            refine (rpeek_no C (C + 1) v l z _ hboa.rf hcan).mono ?_
            rintro e w2 ⟨rfl, rfl⟩
            go_wp2_with fail
            go_meet
            case rel => exact ⟨_, _, hboa, hbela⟩
        | 3, _ =>
          have hc17 := align_b w.heap.size (nm l) l.length wa hboa.br
          have hc18 := fun w' h => ralign C (C + 1) v l w' h hl64
          generalize l.length % 8 = y at hc17 hc18
          have hyy : ((y : Int) != (y : Int)) = false := by simp
          go_wp2_with fail
          refine hc17.mono ?_
          rintro e w2 ⟨rfl, hb2, ho2⟩
          have hrf2 := hboa.rf.only ho2 hHC
          clear hc17
          go_wp2_with fail
          refine (hc18 _ hrf2).mono ?_
          rintro e w3 ⟨rfl, ⟨v', hrf3⟩, hg3⟩
          clear hc18
          go_wp2_with fail
          go_meet
          case rel => exact ⟨_, _, Both.take hb2 hg3 hHC hrf3, (hbela.trans (ho2.below (Nat.le_refl _))).trans (hg3.below (Nat.le_of_lt hHC) (Nat.le_of_lt hb2.blt) (fun g e => by cases e))⟩
        | 4, _ =>
          go_wp2_with fail
          refine (clear_b w.heap.size (nm l) l.length _ hboa.br).mono ?_
          rintro e w2 ⟨rfl, hb2, ho2⟩
          have hrf2 := hboa.rf.only ho2 hHC
          have hcc := hrf2.cell
          have hcf := hrf2.fz
          go_wp2_with fail
          go_meet
          case rel => exact ⟨_, _, Both.clear hb2 hrf2 hHC, (hbela.trans (ho2.below (Nat.le_refl _))).setCell (Nat.le_of_lt hHC) _⟩
      case rest =>
        clear hboa hbela hca k1 k2 hPv hvC hPlt hPC hPH hl64 hX hZ
        obtain ⟨v', l', hbo, hbel⟩ := hcut
        obtain ⟨a', cap', rfl⟩ := hbo.shape
        have hcc := hbo.rf.cell
        have hbr := hbo.br
        generalize hn' : l'.length = n' at hcc hbr hbo ⊢
        have hyy : ((n' : Int) != (n' : Int)) = false := by simp
        go_wp2_with fail
        go_quiet ((first | (go_at_call 10; refine Calls.quiet_of_same (held_q _ (nm l') n' _ ?_); first | exact hbr.drewN _ | exact hbr | exact hbr.drew)))
        go_wp2_with fail
        have AK := AK.out
        go_roundg (gk - 1)
        case measure => omega
        case rel => exact ⟨k + 1, _, l', by omega, by go_num, hbo.drewN _, below_drewN hbel _⟩
    · have hki : ¬ (k : Int) < (len : Int) := by omega
      go_wp2_with fail
      go_ret
      exact ⟨rfl, hbel⟩

theorem walk {H : Type} {enc : TypeId × Value → H} (w : World) (base : Nat) (v0 : Value) (d0 : DataW H) (p0 : List MemPlace) (o0 : Value.okWide Try.prog w .any base 22 v0) (h0 : DataW.Trod enc Try.prog w 0 (fun _ => true) true 22 v0 d0 p0) :
    Calls Try.prog 3 #[v0] w fun e w' => e = .returned (.bool true) ∧ Below w.heap.size w w' := by
  obtain ⟨a, len, cap, rfl, hlen, hr⟩ := open_acts Try.underlying22 Try.underlying31 (by kernel_rfl) rfl rfl rfl (by kernel_rfl) (by kernel_rfl) (by kernel_rfl) Try.underlying5 Try.underlying5 Try.underlying3 o0 h0
  exact core w a len cap hlen hr

set_option maxRecDepth 100000 in
theorem lifted (os : Os) (started : os.Started) (H : Type) (enc : TypeId × Value → H) :
    ReturnsInHanded {} Try.checked os 3 .any (Rows.bitsPlaysSpec.pre6 enc Try.prog Try.f3 Rows.bitsPlaysRow.domain false) (Rows.bitsPlaysSpec.post enc Try.prog Try.f3 false true false false) := by
  refine returnsInHanded_of_change (C := Try.checked) own started (by kernel_rfl) Try.func3
    (ChangeSpec.witness6 (enc := enc) (C := Try.checked) false ⟨#[], #[.slice none 0 0], []⟩ 8 (by kernel_rfl) (by kernel_rfl) (by kernel_rfl) (by kernel_rfl)) ?_
  intro W base args ds gs before hval0 hW hcnd _
  have hval : ∀ (j : Nat) t v, Try.f3.params[j]? = some t → args[j]? = some v → Value.okWide Try.prog W .any base t v := hval0
  have hW' := hW
  obtain ⟨p, q, hA0, hV, rfl, hfz, hnd⟩ := hW
  have hA : DataW.TrodAll enc Try.prog W 0 (fun _ => true) true Try.f3.params.toList args.toList ds p := hA0
  rw [Try.params3] at hA hval
  obtain ⟨v0, vs0, d0, ds0, p0, q0, hargs, rfl, rfl, h0, r0⟩ := trodAll_cons hA
  obtain ⟨rfl, rfl, rfl⟩ := trodAll_nil r0
  obtain rfl : args = #[v0] := by cases args; simp_all
  obtain ⟨rfl, rfl⟩ := trodVars_none hV
  have o0 := hval 0 22 v0 rfl rfl
  have lt0 : ∀ x ∈ p0, x.block < W.heap.size := by obtain ⟨m, hm⟩ := h0; exact DataW.trod_lt m _ _ _ hm
  clear hA0 hval0
  refine (walk W base v0 d0 p0 o0 h0).mono fun e W' ⟨he, bel⟩ => ?_
  subst he
  exact ⟨_, rfl, _, _, _, [], _, [], hW', trodAll_mk1 (shut_bool Try.underlying4 _), (trodAll_cons_mk (Below.trod laidOut (by kernel_rfl) (of_decide_eq_true (by kernel_rfl)) h0 bel lt0) trodAll_mk0), rfl, bel.frame _, fun h => by cases h⟩

theorem over : Rows.bitsPlaysRow.holds Try.pinned (OpenSpec.ofChange Rows.bitsPlaysSpec) :=
  OpenClaim.holds_of_wide 3 Try.f3 rfl rfl rfl rfl rfl rfl rfl ⟨rfl, rfl, rfl, rfl, rfl⟩ rfl rfl rfl rfl rfl (by kernel_rfl) Try.func3 (by kernel_rfl)
    (of_decide_eq_true (by kernel_rfl)) (by unfold Func.isWrapper; first | (rw [if_pos (by decide +kernel)]; kernel_rfl) | (rw [if_neg (by decide +kernel)]; exact ⟨rfl, rfl⟩))
    (fun os started H enc _ => lifted os started H enc)

end Go.Proofs.Ytceblecdobbldaa.bitsPlays
namespace Go.Proofs.Ytceblecdobbldaa
/-- The statement. -/
theorem bitsPlays_holds : Rows.BitsPlaysSaid := bitsPlays.over
#print axioms bitsPlays_holds
end Go.Proofs.Ytceblecdobbldaa

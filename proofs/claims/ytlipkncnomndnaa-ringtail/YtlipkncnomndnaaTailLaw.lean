/-
  RingTail holds: whatever was put into a window, it has the last bytes of it, as many as there is room for, and Back tells each as far back as it stands, none at 0 and none beyond.
  Conditions: none; the size is any from 1 to 256, the bytes are any list.
-/
import Derived.Test.YtlipkncnomndnaaRows
import Derived.Test.YtlipkncnomndnaaRep
import Derived.Test.YtlipkncnomndnaaOpen
import Derived.WalkKit
import Derived.ProofKit
import Derived.OpenShut
import Derived.ShutString
import Derived.ChangeOld
import Derived.Below
import Derived.Deep.CutBlock
import Derived.Deep.DeepCutAuto
import Derived.Deep.LoopGhost
import Derived.Deep.RegionHeld3
namespace Go.Proofs.Ytlipkncnomndnaa.ringTail
open Go.ChangeShapes Go.WideShapes Go.ChangeAt Go.RowKit
open Go.ChangeMaps (open_string shut_string)
set_option linter.unusedVariables false

theorem own : ownKnob Try.prog.godebug = none := by kernel_rfl
theorem laidOut : laidOutB Try.prog = true := by kernel_rfl


theorem cells5 : Try.prog.cellsOf 5 = 1 := by kernel_rfl
theorem below_drewN {B : Nat} {w u : World} (h : Below B w u) (n : Nat) : Below B w (u.drewN n) := ⟨h.os, h.tape, h.output, h.size, h.block⟩
theorem Below.le {B C : Nat} {w u : World} (h : Below C w u) (hB : B ≤ C) : Below B w u := ⟨h.os, h.tape, h.output, h.size, fun k hk => h.block k (by omega)⟩
set_option maxRecDepth 100000 in
set_option maxHeartbeats 1000000 in
theorem core0 (w : World) (n : Nat) (hn1 : 1 ≤ n) (hn2 : n ≤ 256) (a : Option Addr) :
    Calls Try.prog 5 #[.int .u8 ((n : Int) - 1), .slice a 0 0] w fun e w' => e = .returned (.bool true) ∧ Below w.heap.size w w' := by
  have hw0 : (n : Int) - 1 + 1 = (n : Int) := by omega
  go_enter Try.func5, Try.ntmps5
  go_wp2_with fail
  refine (new_r n _ hn1 (by omega)).mono ?_
  rintro e w1 ⟨rfl, r1, bel1, hsz⟩
  have hH1 : w.heap.size + 2 ≤ w1.heap.size := by omega
  have hHw := r1.lt
  clear hsz
  go_wp2_with fail
  go_loopg [8] 0 (fun g si wr => si = .int .i64 0 ∧ wr = w1)
  case atStart => exact ⟨rfl, rfl⟩
  case round =>
    obtain ⟨rfl, rfl⟩ := hrel
    have c20 : ∀ w', Rg w' (w.heap.size + 1) w.heap.size n [] → Calls Try.prog 20 #[.pointer (some ⟨w.heap.size + 1, 0, none⟩)] w' fun e w'' => e = .returned (.int .i64 0) ∧ w' = w'' := fun w' r => len_r w' r
    have AS : ∀ a' c' wc, Lst wc (.slice a' 0 c') [] := fun a' c' wc => ⟨a', c', rfl, Nat.zero_le _, Or.inl rfl⟩
    have hn0 : (0 : Int) < (n : Int) := by omega
    have hn0' : 0 < n := by omega
    have hwz : IntKind.i64.wrap 0 = 0 := rfl
    go_upto_region 10 with fail
    go_region_held3 (fun w' => True) (trivial)
      (first
        | (go_at_call 20; refine (c20 _ (by first | exact r1.drew | exact r1 | exact r1.drewN _)).mono ?_; rintro e w2 ⟨rfl, rfl⟩)
        | (go_at_call 19; refine (tail_r _ (by first | exact r1.drew | exact r1 | exact r1.drewN _)).mono ?_; rintro e w2 ⟨⟨v2, rfl, hv2⟩, bel2⟩)
        | (go_at_call 16; refine (same_c _ _ [] _ (by first | exact hv2.lst | exact hv2.lst.drewN _) (by exact AS _ _ _) (by simp)).mono ?_; rintro e w3 ⟨rfl, m3, rfl⟩))
    have bel3 := below_drewN ((below_drewN bel1 1).trans (Below.le bel2 (show w.heap.size ≤ wr.heap.size by omega))) m3
    have r3 := (r1.drew.below bel2 hHw.1 hHw.2).drewN m3
    clear hv2 c20
    go_wp2_with fail
    go_loopg [10] 0 (fun g si wr => si = .int .i64 1 ∧ wr = w2.drewN m3)
    case atStart => exact ⟨rfl, rfl⟩
    case round =>
      obtain ⟨rfl, rfl⟩ := hrel
      have hf := back_r_no (1 : Int) _ r3 (by simp)
      have hn0 := back_r_no (0 : Int) _ r3 (by simp)
      go_wp2_with fail
      refine hf.mono ?_
      rintro e w4 ⟨rfl, rfl⟩
      go_wp2_with fail
      refine hn0.mono ?_
      rintro e w4 ⟨rfl, rfl⟩
      go_wp2_with fail
      go_ret
      exact ⟨rfl, bel3⟩
set_option maxRecDepth 100000 in
set_option maxHeartbeats 1000000 in
theorem core (w : World) (n : Nat) (hn1 : 1 ≤ n) (hn2 : n ≤ 256) (a : Option Addr) (bs : List Int) (cap : Nat) (hbc : bs.length ≤ cap) (hcap : cap ≤ maxLen) (hc0 : ¬ cap = 0) (hr : Came w a bs) :
    Calls Try.prog 5 #[.int .u8 ((n : Int) - 1), .slice a bs.length cap] w fun e w' => e = .returned (.bool true) ∧ Below w.heap.size w w' := by
  unfold maxLen at hcap
  obtain ⟨L, hL⟩ : ∃ L, bs.length = L := ⟨_, rfl⟩
  rw [hL] at hbc ⊢
  have AL : Aside (bs.length = L ∧ L ≤ 2 ^ 63 - 1 ∧ L ≤ cap) := ⟨hL, by omega, hbc⟩
  clear hcap hbc hL
  have hw0 : (n : Int) - 1 + 1 = (n : Int) := by omega
  go_enter Try.func5, Try.ntmps5
  go_wp2_with fail
  refine (new_r n _ hn1 (by omega)).mono ?_
  rintro e w1 ⟨rfl, r1, bel1, hsz⟩
  have hH1 : w.heap.size + 2 ≤ w1.heap.size := by omega
  clear hsz
  go_wp2_with fail
  go_loopg [8] L (fun g si wr => ∃ k : Nat, k + g = L ∧ si = .int .i64 k ∧ Rg wr (w.heap.size + 1) w.heap.size n (lastN n (bs.take k)) ∧ Below w.heap.size w wr)
  case atStart => exact ⟨0, by omega, rfl, by simpa [lastN] using r1, bel1⟩
  case round =>
    clear r1 bel1 hH1
    clear w1
    obtain ⟨k, hkg, rfl, rk, belk⟩ := hrel
    have AK : Aside (k + gk = L) := hkg
    by_cases hk : k < L
    · have hki : (k : Int) < (L : Int) := by omega
      have hkb : (k : Int) < 9223372036854775807 := by have := AL.out; omega
      have hkl : k < bs.length := by rw [AL.out.1]; exact hk
      rcases hr with rfl | ⟨b, o, rfl, hb, hc⟩
      · simp at hkl
      have g0 := (belk.cell (p := ⟨b, o + k, none⟩) hb).trans (hc k _ (List.getElem?_eq_getElem hkl))
      have AT : Aside (lastN n (lastN n (bs.take k) ++ [bs[k]]) = lastN n (bs.take (k + 1))) := by
        have := lastN_two n (bs.take k) [] [bs[k]]
        simp only [List.append_nil] at this
        show _ = _
        rw [this, List.take_succ_eq_append_getElem hkl]
      generalize bs[k] = z at *
      clear hkl hc hkg
      go_wp2_with fail
      refine (put_r z _ rk).mono ?_
      rintro e w2 ⟨rfl, r2, t2⟩
      rw [AT.out] at r2
      go_wp2_with fail
      have AK := AK.out
      go_roundg (gk - 1)
      case measure => omega
      case rel => exact ⟨k + 1, by omega, by go_num, r2, belk.trans (t2.below (by omega) (Nat.le_refl _))⟩
    · have hki : ¬ (k : Int) < (L : Int) := by omega
      have hkL : k = L := by omega
      subst hkL
      rw [List.take_of_length_le (by rw [AL.out.1]; omega)] at rk
      clear hki hkg
      obtain ⟨kk, hkk⟩ : ∃ kk : Nat, kk = min n k := ⟨_, rfl⟩
      have AM : Aside ((if k < n then (k : Int) else (n : Int)) = (kk : Int)) := by show _ = _; split <;> omega
      obtain ⟨T, hT⟩ : ∃ T, lastN n bs = T := ⟨_, rfl⟩
      have hTl : T.length = kk := by rw [← hT, lastN_length, AL.out.1, hkk, Nat.min_comm]
      rw [hT] at rk
      have c20 : ∀ w', Rg w' (w.heap.size + 1) w.heap.size n T → Calls Try.prog 20 #[.pointer (some ⟨w.heap.size + 1, 0, none⟩)] w' fun e w'' => e = .returned (.int .i64 (kk : Int)) ∧ w' = w'' := fun w' r => by rw [← hTl]; exact len_r w' r
      obtain ⟨q, hq⟩ : ∃ q, k - kk = q := ⟨_, rfl⟩
      have hq1 : (k : Int) - (kk : Int) = (q : Int) := by omega
      have hq2 : IntKind.i64.wrap ((q : Nat) : Int) = (q : Int) := by have := AL.out; rw [IntKind.wrap_i64]; omega
      have hq3 : (0 : Int) ≤ (q : Int) := by omega
      have hq4 : (q : Int) ≤ (k : Int) := by omega
      have hq5 : q ≤ k := by omega
      have hq6 : k - q = kk := by omega
      have hzz : ((kk : Int) != (kk : Int)) = false := by simp
      have AP : Aside (kk = min n k ∧ lastN n bs = T ∧ T.length = kk ∧ k - kk = q ∧ T = bs.drop q) := by
        refine ⟨hkk, hT, hTl, hq, ?_⟩
        rw [← hT, lastN, AL.out.1]
        congr 1; omega
      clear hkk hT hTl hq
      have belT := belk.size
      have hHwr := rk.lt
      go_upto_region 10 with fail
      rw [AM.out]
      go_cut [62] (fun s62 wc => s62 = .bool false ∧ Rg wc (w.heap.size + 1) w.heap.size n T ∧ Below w.heap.size w wc)
      case first =>
        by_cases hk0 : k = 0
        · skip
          have hT0 : T = [] := List.eq_nil_of_length_eq_zero (by have := AP.out; omega)
          have hcq : ¬ cap = q := by have := AP.out; omega
          have AS : ∀ a' c' wc, Lst wc (.slice a' kk c') T := fun a' c' wc => ⟨a', c', by rw [AP.out.2.2.1], by rw [hT0]; exact Nat.zero_le _, Or.inl hT0⟩
          clear hk0 hT0
          go_region_held3 (fun w' => True) (trivial)
            (first
              | (go_at_call 20; refine (c20 _ (by first | exact rk.drew | exact rk | exact rk.drewN _)).mono ?_; rintro e w2 ⟨rfl, rfl⟩)
              | (go_at_call 19; refine (tail_r _ (by first | exact rk.drew | exact rk | exact rk.drewN _)).mono ?_; rintro e w2 ⟨⟨v2, rfl, hv2⟩, bel2⟩)
              | (go_at_call 16; refine (same_c _ _ T _ (by first | exact hv2.lst | exact hv2.lst.drewN _) (by exact AS _ _ _) (by have := AP.out; omega)).mono ?_; rintro e w3 ⟨rfl, m3, rfl⟩))
          go_wp2_with fail
          go_meet
          case rel => exact ⟨rfl, (rk.drew.below bel2 hHwr.1 hHwr.2).drewN _, below_drewN ((below_drewN belk 1).trans (Below.le bel2 belT)) _⟩
        · rcases hr with rfl | ⟨b, o, rfl, hb, hc⟩
          · exfalso; have := AL.out.1; simp at this; omega
          have hcq : ¬ cap = q := by have := AL.out; have := AP.out; omega
          have AS : Aside (∀ wc, Below w.heap.size w wc → Lst wc (.slice (some ⟨b, o + q, none⟩) kk (cap - q)) T) := fun wc hbw => ⟨_, _, by rw [AP.out.2.2.1], by have := AL.out; have := AP.out; omega, Or.inr ⟨b, o + q, rfl, fun i z hz => by
            rw [AP.out.2.2.2.2, List.getElem?_drop] at hz
            rw [Nat.add_assoc]
            exact (hbw.cell (p := ⟨b, o + (q + i), none⟩) hb).trans (hc _ _ hz)⟩⟩
          clear hk0 hc
          go_region_held3 (fun w' => True) (trivial)
            (first
              | (go_at_call 20; refine (c20 _ (by first | exact rk.drew | exact rk | exact rk.drewN _)).mono ?_; rintro e w2 ⟨rfl, rfl⟩)
              | (go_at_call 19; refine (tail_r _ (by first | exact rk.drew | exact rk | exact rk.drewN _)).mono ?_; rintro e w2 ⟨⟨v2, rfl, hv2⟩, bel2⟩)
              | (go_at_call 16; refine (same_c _ _ T _ (by first | exact hv2.lst | exact hv2.lst.drewN _) (by exact AS.out _ (by first | exact below_drewN ((below_drewN belk 1).trans (Below.le bel2 belT)) _ | exact (below_drewN belk 1).trans (Below.le bel2 belT))) (by have := AP.out; omega)).mono ?_; rintro e w3 ⟨rfl, m3, rfl⟩))
          go_wp2_with fail
          go_meet
          case rel => exact ⟨rfl, (rk.drew.below bel2 hHwr.1 hHwr.2).drewN _, below_drewN ((below_drewN belk 1).trans (Below.le bel2 belT)) _⟩
      case rest =>
        clear rk belk belT hHwr c20 hq1 hq2 hq3 hq4 hq5 hq6 hzz AM AK hk
        obtain ⟨rfl, rk, belk⟩ := hcut
        have AP2 : Aside (kk ≤ k ∧ kk ≤ n) := by have := AP.out; exact ⟨by omega, by omega⟩
        go_wp2_with fail
        go_loopg [10] kk (fun g si wr => ∃ d : Nat, d + g = kk + 1 ∧ 1 ≤ d ∧ si = .int .i64 d ∧ Rg wr (w.heap.size + 1) w.heap.size n T ∧ Below w.heap.size w wr)
        case atStart => exact ⟨1, by omega, Nat.le_refl _, rfl, rk, belk⟩
        case round =>
          clear rk belk
          obtain ⟨d, hdg, hd1, rfl, rk, belk⟩ := hrel
          have AK : Aside (d + gk = kk + 1) := hdg
          have hkk : kk ≤ n := AP2.out.2
          clear hdg
          by_cases hd : d ≤ kk
          · have hdi : (d : Int) ≤ (kk : Int) := by omega
            have hdT : T[T.length - d]? = bs[k - d]? := by
              have h1 := AP.out
              have h2 := AL.out.1
              rw [h1.2.2.2.2, List.getElem?_drop, List.length_drop]
              congr 1; omega
            have hkl : k - d < bs.length := by have := AL.out; have := AP2.out; omega
            rw [List.getElem?_eq_getElem hkl] at hdT
            rcases hr with rfl | ⟨b, o, rfl, hb, hc⟩
            · simp at hkl
            have g0 := (belk.cell (p := ⟨b, o + (k - d), none⟩) hb).trans (hc (k - d) _ (List.getElem?_eq_getElem hkl))
            generalize bs[k - d] = z at *
            have hzz : (z != z) = false := by simp
            have hb12 := back_r d z _ rk hd1 (by rw [AP.out.2.2.1]; exact hd) hdT
            obtain ⟨y, hy⟩ : ∃ y, k - d = y := ⟨_, rfl⟩
            rw [hy] at g0
            have hy1 : (k : Int) - (d : Int) = (y : Int) := by have := AP2.out; omega
            have hy2 : (y : Int) < (k : Int) := by have := AP2.out; omega
            have hy3 : (y : Int) < 9223372036854775807 := by have := AL.out; omega
            clear hdT hkl hc hy
            go_wp2_with fail
            refine hb12.mono ?_
            rintro e w2 ⟨rfl, m2, rfl⟩
            clear hb12
            go_wp2_with fail
            have AK := AK.out
            go_roundg (gk - 1)
            case measure => omega
            case rel => exact ⟨d + 1, by omega, by omega, by go_num, rk.drewN _, below_drewN belk _⟩
          · have hdi : ¬ (d : Int) ≤ (kk : Int) := by omega
            have hf : Calls Try.prog 12 #[.pointer (some ⟨w.heap.size + 1, 0, none⟩), .int .i64 ((kk : Int) + 1)] wr fun e w' => e = .returned (.tuple #[.int .u8 0, .bool false]) ∧ wr = w' := back_r_no _ _ rk (by rw [AP.out.2.2.1]; omega)
            have hn0 := back_r_no (0 : Int) wr rk (by omega)
            go_wp2_with fail
            refine hf.mono ?_
            rintro e w2 ⟨rfl, rfl⟩
            go_wp2_with fail
            refine hn0.mono ?_
            rintro e w2 ⟨rfl, rfl⟩
            go_wp2_with fail
            go_ret
            exact ⟨rfl, belk⟩

theorem walk {H : Type} {enc : TypeId × Value → H} (w : World) (base : Nat) (a0 : Int) (w0 : (Lit.int .u8 a0).wf = true) (v1 : Value) (d1 : DataW H) (p1 : List MemPlace) (o1 : Value.okWide Try.prog w .any base 35 v1) (h1 : DataW.Trod enc Try.prog w 0 (fun _ => true) true 35 v1 d1 p1) :
    Calls Try.prog 5 #[.int .u8 a0, v1] w fun e w' => e = .returned (.bool true) ∧ Below w.heap.size w w' := by
  have hx := bounds_u8 w0
  obtain ⟨n, rfl⟩ : ∃ n : Nat, a0 = (n : Int) - 1 := ⟨(a0 + 1).toNat, by omega⟩
  obtain ⟨a, bs, cap, rfl, h1, h2, h3⟩ := open_came Try.underlying35 Try.underlying5 cells5 o1 h1
  by_cases hc0 : cap = 0
  · obtain rfl : bs = [] := List.eq_nil_of_length_eq_zero (by omega)
    subst hc0
    exact core0 w n (by omega) (by omega) a
  · exact core w n (by omega) (by omega) a bs cap h1 h2 hc0 h3

set_option maxRecDepth 100000 in
theorem lifted (os : Os) (started : os.Started) (H : Type) (enc : TypeId × Value → H) :
    ReturnsInHanded {} Try.checked os 5 .any (Rows.ringTailSpec.pre6 enc Try.prog Try.f5 Rows.ringTailRow.domain false) (Rows.ringTailSpec.post enc Try.prog Try.f5 false true false false) := by
  refine returnsInHanded_of_change (C := Try.checked) own started (by kernel_rfl) Try.func5
    (ChangeSpec.witness6 (enc := enc) (C := Try.checked) false ⟨#[], #[.int .u8 0, .slice none 0 0], []⟩ 8 (by kernel_rfl) (by kernel_rfl) (by kernel_rfl) (by kernel_rfl)) ?_
  intro W base args ds gs before hval0 hW hcnd _
  have hval : ∀ (j : Nat) t v, Try.f5.params[j]? = some t → args[j]? = some v → Value.okWide Try.prog W .any base t v := hval0
  have hW' := hW
  obtain ⟨p, q, hA0, hV, rfl, hfz, hnd⟩ := hW
  have hA : DataW.TrodAll enc Try.prog W 0 (fun _ => true) true Try.f5.params.toList args.toList ds p := hA0
  rw [Try.params5] at hA hval
  obtain ⟨v0, vs0, d0, ds0, p0, q0, hargs, rfl, rfl, h0, r0⟩ := trodAll_cons hA
  obtain ⟨v1, vs1, d1, ds1, p1, q1, rfl, rfl, rfl, h1, r1⟩ := trodAll_cons r0
  obtain ⟨rfl, rfl, rfl⟩ := trodAll_nil r1
  obtain rfl : args = #[v0, v1] := by cases args; simp_all
  obtain ⟨rfl, rfl⟩ := trodVars_none hV
  obtain ⟨a0, rfl, rfl, rfl, w0⟩ := open_int Try.underlying5 (hval 0 5 v0 rfl rfl) h0
  have o1 := hval 1 35 v1 rfl rfl
  have lt1 : ∀ x ∈ p1, x.block < W.heap.size := by obtain ⟨m, hm⟩ := h1; exact DataW.trod_lt m _ _ _ hm
  clear hA0 hval0
  refine (walk W base a0 w0 v1 d1 p1 o1 h1).mono fun e W' ⟨he, bel⟩ => ?_
  subst he
  exact ⟨_, rfl, _, _, _, [], _, [], hW', trodAll_mk1 (shut_bool Try.underlying4 _), (trodAll_cons_mk (shut_int Try.underlying5 w0) (trodAll_cons_mk (Below.trod laidOut (by kernel_rfl) (of_decide_eq_true (by kernel_rfl)) h1 bel lt1) trodAll_mk0)), rfl, bel.frame _, fun h => by cases h⟩

theorem over : Rows.ringTailRow.holds Try.pinned (OpenSpec.ofChange Rows.ringTailSpec) :=
  OpenClaim.holds_of_wide 5 Try.f5 rfl rfl rfl rfl rfl rfl rfl ⟨rfl, rfl, rfl, rfl, rfl⟩ rfl rfl rfl rfl rfl (by kernel_rfl) Try.func5 (by kernel_rfl)
    (of_decide_eq_true (by kernel_rfl)) (by unfold Func.isWrapper; first | (rw [if_pos (by decide +kernel)]; kernel_rfl) | (rw [if_neg (by decide +kernel)]; exact ⟨rfl, rfl⟩))
    (fun os started H enc _ => lifted os started H enc)

end Go.Proofs.Ytlipkncnomndnaa.ringTail
namespace Go.Proofs.Ytlipkncnomndnaa
/-- The statement. -/
theorem ringTail_holds : Rows.RingTailSaid := ringTail.over
#print axioms ringTail_holds
end Go.Proofs.Ytlipkncnomndnaa

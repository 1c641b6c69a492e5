/-
  Own texts of this seat, one behind the other: what each says stands ahead of it.
-/
import Derived.Test.YtikdpnpkmmmacaaDoorMr
import Derived.Deep.CutBlock
import Derived.Deep.DeepCutAuto
import Derived.Laws.IdiomStrings
import Derived.Test.YtikdpnpkmmmacaaDoorMm
import Derived.BigRegion
import Derived.Laws.BitsAllLaws
import Derived.Deep.CutRange
/-
  What Whole comes to: what the machine of small steps stands at over all bytes, asked for so many.
-/
namespace Go.Proofs.YtikdpnpkmmmacaaDoor
open Go.RowKit
set_option linter.unusedVariables false
/-- What Whole comes to. -/
def WhTo (Bb : List Nat) (L N : Nat) (w : World) (e : Ending) (w' : World) : Prop :=
  ∃ vo z, e = .returned (.tuple #[vo, .int .i64 ((min (atC L z + 1) L : Nat) : Int), .int .i64 (whyC z : Nat)]) ∧ Stands Bb N z ∧ Ob w' (w.heap.size + 4) vo z.out ∧ Below w.heap.size w w'
/-- Behind the loop: how many bytes were put in, what was told, how it stands. -/
def WhMid (Bb : List Nat) (L N M B D b R : Nat) (w : World) (vo v5 : Value) (wc : World) : Prop :=
  ∃ (i : Nat) (c : Cfg) (q : Md), v5 = .int .i64 (i : Int) ∧ Ob wc (B + 4) vo c.out ∧ c.out.length ≤ N ∧ Inf wc B D b R (Bb.take i) M c q ∧ Below B w wc ∧ i ≤ L ∧
    ((q = .want ∧ i = L) ∨ (q = .over ∧ 1 ≤ i ∧ 8 * (i - 1) < c.pos))
set_option maxHeartbeats 2000000 in
theorem whole_c (w : World) (ht : Tabs w) (a : Option Addr) (Bb : List Nat) (L C : Nat) (n : Int) (hB : Lies w a Bb) (hL : Bb.length = L) (hLb : L < 140737488355328) (ho : Oct Bb) (hn : n ≤ 1048576) :
    Calls Tryd.prog 9 #[.slice a L C, .int .i64 n] w fun e w' => WhTo Bb L n.toNat w e w' := by
  obtain ⟨N, hN⟩ : ∃ N, n.toNat = N := ⟨_, rfl⟩
  obtain ⟨M, hM⟩ : ∃ M, N + 3 = M := ⟨_, rfl⟩
  have hnew := new_i M w ht
  obtain ⟨B, hBe⟩ : ∃ B, w.heap.size = B := ⟨_, rfl⟩
  obtain ⟨D, hD⟩ : ∃ D, B + 3 = D := ⟨_, rfl⟩
  obtain ⟨b, hb⟩ : ∃ b, B + 2 = b := ⟨_, rfl⟩
  obtain ⟨R, hR⟩ : ∃ R, B + 1 = R := ⟨_, rfl⟩
  rw [hBe, hD, hb, hR] at hnew
  rw [hN]
  have A : Aside (Lies w a Bb ∧ Bb.length = L ∧ L < 140737488355328 ∧ Oct Bb ∧ n ≤ 1048576 ∧ n.toNat = N ∧ N + 3 = M ∧ w.heap.size = B) := ⟨hB, hL, hLb, ho, hn, hN, hM, hBe⟩
  clear hB hL hLb ho hn hN hM hBe hD hb hR ht
  go_enter Tryd.func9, Tryd.ntmps9
  go_upto_block 0 with (go_at_call 14; refine hnew.mono ?_; rintro e1 w1 ⟨rfl, hinf1, hb1⟩)
  have A1 : Aside (Inf w1 B D b R [] M c0 .want ∧ Below B w w1) := ⟨hinf1, hb1⟩
  clear hinf1 hb1 hnew
  go_cut [4, 5] (fun s4 s5 wc => WhMid Bb L N M B D b R w s4 s5 wc)
  case first =>
    go_wp2_with fail
    go_loopg [4, 5, 15] (L + 1) (fun gg s4 s5 s15 wr => ∃ i : Nat, s5 = .int .i64 (i : Int) ∧ s15 = .int .i64 (i : Int) ∧ Aside (i + gg = L + 1 ∧ ∃ c q, Ob wr (B + 4) s4 c.out ∧ c.out.length ≤ N ∧ Inf wr B D b R (Bb.take i) M c q ∧ Below B w wr ∧ i ≤ L ∧ (q = .want ∨ (q = .over ∧ 1 ≤ i ∧ 8 * (i - 1) < c.pos))))
    case atStart => exact ⟨0, rfl, rfl, by omega, c0, .want, Ob.nil A1.out.1.lt, Nat.zero_le _, A1.out.1, A1.out.2, Nat.zero_le _, Or.inl rfl⟩
    case round =>
      obtain ⟨i, rfl, rfl, hI⟩ := hrel
      obtain ⟨hig, c, q, hob, hcl, hinf, hbel, hiL, hq⟩ := hI.out
      by_cases hi : i < L
      · have a0 := A.out
        have t1 : ((i : Int) < (L : Int)) = True := eq_true (by omega)
        have t1' : (i < L) = True := eq_true hi
        have hiI : (i : Int) < 200000000000000 := by omega
        obtain ⟨x, hx⟩ : ∃ x, Bb[i]? = some x := ⟨_, List.getElem?_eq_getElem (by omega)⟩
        have hx256 : x < 256 := a0.2.2.2.1 x (List.mem_of_getElem? hx)
        obtain ⟨ab, ao, ha, hcB⟩ : ∃ ab ao, a = some ⟨ab, ao, none⟩ ∧ ∀ (j y : Nat), Bb[j]? = some y → w.cell? ⟨ab, ao + j, none⟩ = some (.int .u8 (y : Int)) := by
          rcases a0.1 with e | ⟨ab, ao, e, h⟩
          · rw [e] at hx; simp at hx
          · exact ⟨ab, ao, e, h⟩
        subst ha
        have cx0 := hcB i x hx
        have hlt := World.block_lt_of_cell? w ⟨ab, ao + i, none⟩ cx0
        have cx : wr.cell? ⟨ab, ao + i, none⟩ = some (.int .u8 (x : Int)) := (hbel.cell (p := ⟨ab, ao + i, none⟩) (by rw [← a0.2.2.2.2.2.2.2]; exact hlt)).trans cx0
        have htake : Bb.take (i + 1) = Bb.take i ++ [x] := by rw [List.take_add_one, hx]; rfl
        rcases hq with rfl | ⟨rfl, h1, h2⟩
        · obtain ⟨zi, hzi, hzo, hzn⟩ := hinf.stands (N := N) (by omega) hcl
          have hput := put_any x hx256 wr hinf (by omega)
          rw [← htake] at hput
          have AP : Aside (i + gk = L + 1 ∧ c.out.length ≤ N ∧ Below B w wr ∧ i < L ∧ Stands (Bb.take i) N zi ∧ ¬ Over zi ∧ Ob wr (B + 4) u4 c.out ∧ Bb.take (i + 1) = Bb.take i ++ [x] ∧ (Bb.take i).length = i) := ⟨hig, hcl, hbel, hi, hzi, hzn, hob, htake, by rw [List.length_take]; omega⟩
          clear hI hig hcl hbel hiL hi hob hinf htake hx256 hx hcB cx0 hlt hzi hzo hzn a0
          go_upto_region 7 with (go_at_call 17; refine hput.mono ?_; rintro e2 w2 ⟨rfl, hf2, c2, q2, hinf2, hpd2⟩)
          have hnx := next_any w2 hinf2 c.out hpd2 (by have := AP.out; have := A.out; omega)
          have A2 : Aside (Ob w2 (B + 4) u4 c.out ∧ Below B w w2) := ⟨AP.out.2.2.2.2.2.2.1.fm hf2 (Nat.le_refl _), AP.out.2.2.1.trans (hf2.below (by have := AP.out.2.2.1.size; have := A.out; omega))⟩
          clear hput hinf2 hpd2 hf2 cx t1 t1'
          go_wp2_with (go_at_call 18; refine hnx.mono ?_; rintro e3 w3 ⟨v10, v11, c3, q3, rfl, hf3, hinf3, hn3⟩)
          have A3 : Aside (Ob w3 (B + 4) u4 c.out ∧ Below B w w3 ∧ Inf w3 B D b R (Bb.take (i + 1)) M c3 q3 ∧ Nx c.out v10 v11 c3 q3) := ⟨A2.out.1.fm hf3 (Nat.le_refl _), A2.out.2.trans (hf3.below (by have := A2.out.2.size; have := A.out; omega)), hinf3, hn3⟩
          clear hnx hf3 hinf3 hn3
          go_loopg [4, 5, 10, 11] (N + 1 - c.out.length) (fun gg s4 s5 s10 s11 wr => s5 = .int .i64 ((i : Int) + 1) ∧ Aside (∃ o c q, Ob wr (B + 4) s4 o ∧ o.length ≤ N ∧ Inf wr B D b R (Bb.take (i + 1)) M c q ∧ Nx o s10 s11 c q ∧ Below B w wr ∧ o.length + gg = N + 1))
          case atStart => exact ⟨rfl, c.out, c3, q3, A3.out.1, AP.out.2.1, A3.out.2.2.1, A3.out.2.2.2, A3.out.2.1, by have := AP.out.2.1; omega⟩
          case round =>
            obtain ⟨rfl, hrel2⟩ := hrel
            obtain ⟨o, c5, q5, hob5, hol, hinf5, hn5, hbel5, hog⟩ := hrel2.out
            obtain ⟨va, vc, hv, hvc, hlies5, hvn⟩ := hob5.shape
            rcases hn5 with ⟨y, rfl, rfl, hpd⟩ | ⟨rfl, rfl, hq5, hc5⟩
            · obtain ⟨ln, hln⟩ : ∃ ln, o.length = ln := ⟨_, rfl⟩
              rw [hln] at hv
              subst hv
              have a0 := A.out
              by_cases hfull : n ≤ (ln : Int)
              · have t2 : (n ≤ (ln : Int)) = True := eq_true hfull
                have hlN : o.length = N := by omega
                have ap := AP.out
                have hc5o : c5.out.take N = o ∧ N < c5.out.length := by
                  rcases hpd with ⟨y2, _, e⟩ | ⟨_, e⟩
                  · rw [e, List.append_assoc, ← hlN]; simp
                  · rw [e, ← hlN]; simp
                have hr5 := hinf5.1
                rw [ap.2.2.2.2.2.2.2.1] at hr5
                obtain ⟨e, he1, he2, he3, he4⟩ := too_much hr5 (by omega) hc5o.2 ap.2.2.2.2.1 ap.2.2.2.2.2.1
                have hep := he1.pos
                rw [List.length_append, List.length_singleton, ap.2.2.2.2.2.2.2.2] at hep
                rw [ap.2.2.2.2.2.2.2.2] at he4
                have hat := over_at (L := L) (Or.inr ⟨62, he2⟩) he4 hep
                rw [← ap.2.2.2.2.2.2.2.1] at he1
                have hwy : whyC e = 62 := by unfold whyC; rw [he2]
                have AE : Aside (Stands Bb N e ∧ e.out = o ∧ atC L e = i ∧ whyC e = 62 ∧ Ob wr (B + 4) (.slice va ln vc) o ∧ Below B w wr ∧ w.heap.size = B ∧ i < L) := ⟨he1.of_take (Or.inr ⟨62, he2⟩), by rw [he3]; exact hc5o.1, hat, hwy, hob5, hbel5, a0.2.2.2.2.2.2.2, ap.2.2.2.1⟩
                clear hrel2 hob5 hol hinf5 hbel5 hog hlies5 hpd a0 ap hc5o hr5 he1 he2 he3 he4 hep hat hwy hlN hfull hvc hvn
                go_wp2_with fail
                go_ret3
                have ae := AE.out
                refine ⟨.slice va ln vc, e, ?_, ae.1, ?_, ?_⟩
                · rw [ae.2.2.1, ae.2.2.2.1, show min (i + 1) L = i + 1 by omega]
                  rfl
                · rw [ae.2.1, ae.2.2.2.2.2.2.1]; exact ae.2.2.2.2.1
                · rw [ae.2.2.2.2.2.2.1]; exact ae.2.2.2.2.2.1
              · have t2 : (n ≤ (ln : Int)) = False := eq_false hfull
                have hlN : o.length < N := by omega
                obtain ⟨H, hH⟩ : ∃ H, wr.heap.size = H := ⟨_, rfl⟩
                have bal : Below wr.heap.size wr (wr.alloc (.cells #[.int .u8 (y : Int)] 5)) := (Below.refl _ wr).alloc (Nat.le_refl _) _
                have hobA := hob5.below bal (Nat.le_refl _)
                have hlA : Lies (wr.alloc (.cells #[.int .u8 (y : Int)] 5)) (some ⟨H, 0, none⟩) [y] := Or.inr ⟨H, 0, rfl, fun k z hz => by
                  have hk : k = 0 := by have := (List.getElem?_eq_some_iff.1 hz).1; simp at this; exact this
                  subst hk
                  cases hz
                  rw [← hH, Nat.zero_add, (Cells.new wr #[.int .u8 (y : Int)] 5).cell 0]
                  rfl⟩
                have AQ : Aside (Inf wr B D b R (Bb.take (i + 1)) M c5 q5 ∧ Below B w wr ∧ o.length + gk = N + 1 ∧ Pd (o ++ [y]) c5 q5 ∧ o.length < N ∧ o.length = ln ∧ Kp B wr (wr.alloc (.cells #[.int .u8 (y : Int)] 5)) ∧ Below B wr (wr.alloc (.cells #[.int .u8 (y : Int)] 5))) := ⟨hinf5, hbel5, hog, hpd, hlN, hln, Kp.of_below bal (Nat.le_refl _), bal.mono (by have := hbel5.size; omega)⟩
                have hlnb : ln + 1 ≤ 140737488355328 := by omega
                have AL : Aside (o.length + 1 ≤ 140737488355328) := (show o.length + 1 ≤ 140737488355328 by omega)
                clear hrel2 hob5 hol hinf5 hbel5 hog hlies5 hpd a0 bal hlN hfull hvc hvn hlnb
                go_upto_region 9 with (at_builtin; refine wpList_ob B _ rfl (.tmp 42) (.tmp 44) rfl (B + 4) (.slice va ln vc) o (by rfl) hobA (Nat.le_refl _) (some ⟨H, 0, none⟩) [y] 1 1 rfl (by rfl) (by intro h; cases h) hlA AL.out ?_; intro v6 w6 hap)
                have aq := AQ.out
                have hinf6 := (aq.1.kp aq.2.2.2.2.2.2.1).kp hap.kp
                have hnx6 := next_any w6 hinf6 (o ++ [y]) aq.2.2.2.1 (by have := A.out; rw [List.length_append, List.length_singleton]; omega)
                have A6 : Aside (Ob w6 (B + 4) v6 (o ++ [y]) ∧ Below B w w6) := ⟨hap.ob_, (aq.2.1.trans aq.2.2.2.2.2.2.2).trans (hap.bel.mono (by omega))⟩
                clear aq hinf6 hap hobA hlA
                go_wp2_with (go_at_call 18; refine hnx6.mono ?_; rintro e7 w7 ⟨x10, x11, c7, q7, rfl, hf7, hinf7, hn7⟩)
                have aq := AQ.out
                have a6 := A6.out
                go_roundg (N + 1 - (ln + 1))
                case measure => omega
                case rel => exact ⟨rfl, o ++ [y], c7, q7, a6.1.fm hf7 (Nat.le_refl _), by rw [List.length_append, List.length_singleton]; omega, hinf7, hn7, a6.2.trans (hf7.below (by have := a6.2.size; have := A.out; omega)), by rw [List.length_append, List.length_singleton]; omega⟩
            · have ap := AP.out
              have hnx : q5 = .want ∨ (q5 = .over ∧ 1 ≤ i + 1 ∧ 8 * (i + 1 - 1) < c5.pos) := by
                rcases hq5 with rfl | rfl
                · refine Or.inr ⟨rfl, by omega, ?_⟩
                  have h1 := hinf5.stands_over (N := N) (by have := A.out; omega) (by rw [hc5]; exact hol)
                  rw [ap.2.2.2.2.2.2.2.1] at h1
                  have h2 := over_pos ap.2.2.2.2.1 ap.2.2.2.2.2.1 h1 hinf5.over_st
                  rw [ap.2.2.2.2.2.2.2.2] at h2
                  exact h2
                · exact Or.inl rfl
              have AZ : Aside (∃ c q, Ob wr (B + 4) u4 c.out ∧ c.out.length ≤ N ∧ Inf wr B D b R (Bb.take (i + 1)) M c q ∧ Below B w wr ∧ i + 1 ≤ L ∧ (q = .want ∨ (q = .over ∧ 1 ≤ i + 1 ∧ 8 * (i + 1 - 1) < c.pos))) := ⟨c5, q5, by rw [hc5]; exact hob5, by rw [hc5]; exact hol, hinf5, hbel5, ap.2.2.2.1, hnx⟩
              clear hrel2 hob5 hol hinf5 hbel5 hog hlies5 hvc hvn ap hnx hq5 hc5 hv
              go_wp2_with fail
              have ap := AP.out
              go_roundg (L + 1 - (i + 1))
              case measure => omega
              case rel => exact ⟨i + 1, by go_num, by go_num, by omega, AZ.out⟩
        · have hput := put_shut x wr hinf (by simp)
          have AP : Aside (WhMid Bb L N M B D b R w u4 (.int .i64 (i : Int)) wr) := ⟨i, c, .over, rfl, hob, hcl, hinf, hbel, hiL, Or.inr ⟨rfl, h1, h2⟩⟩
          clear hI hig hcl hbel hiL hi hob hinf htake hx256 hx hcB cx0 hlt a0 h1 h2
          go_wp2_with (go_at_call 17; refine hput.mono ?_; rintro e2 w2 ⟨rfl, rfl⟩)
          go_meet
          case rel => exact AP.out
      · have hiL' : i = L := by omega
        have AP : Aside (WhMid Bb L N M B D b R w u4 (.int .i64 (i : Int)) wr) := ⟨i, c, q, rfl, hob, hcl, hinf, hbel, hiL, by
          rcases hq with rfl | hq
          · exact Or.inl ⟨rfl, hiL'⟩
          · exact Or.inr hq⟩
        have t1 : ((i : Int) < (L : Int)) = False := eq_false (by omega)
        have t1' : (i < L) = False := eq_false hi
        clear hI hig hcl hbel hiL hi hob hinf hq hiL'
        go_wp2_with fail
        go_meet
        case rel => exact AP.out
  case rest =>
    obtain ⟨i, c, q, rfl, hob, hcl, hinf, hbel, hiL, hq⟩ := hcut
    have a0 := A.out
    rcases hq with ⟨rfl, rfl⟩ | ⟨rfl, h1, h2⟩
    · have hend := end_open wc hinf
      obtain ⟨z, hz1, hz2, hz3⟩ := hinf.stands (N := N) (by omega) hcl
      have hop := open_at (L := i) hz3
      rw [show Bb.take i = Bb by rw [List.take_of_length_le]; omega] at hz1
      have AE : Aside (Ob wc (B + 4) u4 c.out ∧ Below B w wc ∧ Stands Bb N z ∧ z.out = c.out ∧ atC i z = i ∧ whyC z = 1 ∧ w.heap.size = B ∧ B + 4 ≤ wc.heap.size) := ⟨hob, hbel, hz1, hz2, hop.1, hop.2.1, a0.2.2.2.2.2.2.2, hinf.lt⟩
      obtain ⟨va, vc, hv, _⟩ := hob.shape
      clear hob hcl hinf hbel hiL hz1 hz2 hz3 hop a0
      subst hv
      go_wp2_with (first
        | (go_at_call 19; refine hend.mono ?_; rintro e2 w2 ⟨rfl, hinf2, hf2⟩
           have hre := reason_c w2 hinf2)
        | (go_at_call 16; refine hre.mono ?_; rintro e3 w3 ⟨rfl, rfl⟩))
      go_ret3
      have ae := AE.out
      refine ⟨.slice va c.out.length vc, z, ?_, ae.2.2.1, ?_, ?_⟩
      · rw [ae.2.2.2.2.1, ae.2.2.2.2.2.1, show min (i + 1) i = i by omega]
        rfl
      · rw [ae.2.2.2.1, ae.2.2.2.2.2.2.1]; exact ae.1.fm hf2 (Nat.le_refl _)
      · rw [ae.2.2.2.2.2.2.1]; exact ae.2.1.trans (hf2.below (by omega))
    · have hend := end_shut wc hinf (by simp)
      have hre := reason_c wc hinf
      have hst := hinf.stands_over (N := N) (by omega) hcl
      have hov := hinf.over_st
      have hpos := hst.pos
      rw [List.length_take] at hpos
      obtain ⟨i', rfl⟩ : ∃ i', i = i' + 1 := ⟨i - 1, by omega⟩
      have hat := over_at (L := L) hov (i := i') (by omega) (by omega)
      have AE : Aside (Ob wc (B + 4) u4 c.out ∧ Below B w wc ∧ Stands Bb N c ∧ atC L c = i' ∧ w.heap.size = B ∧ i' + 1 ≤ L) := ⟨hob, hbel, hst.of_take hov, hat, a0.2.2.2.2.2.2.2, hiL⟩
      obtain ⟨va, vc, hv, _⟩ := hob.shape
      have hwy : whyM .over c = whyC c := rfl
      rw [hwy] at hre
      obtain ⟨y, hy⟩ : ∃ y, whyC c = y := ⟨_, rfl⟩
      rw [hy] at hre
      have AY : Aside (whyC c = y) := hy
      clear hob hcl hinf hbel hiL hst hov hpos hat a0 h1 h2 hwy hy
      subst hv
      go_wp2_with (first
        | (go_at_call 19; refine hend.mono ?_; rintro e2 w2 ⟨rfl, rfl⟩)
        | (go_at_call 16; refine hre.mono ?_; rintro e3 w3 ⟨rfl, rfl⟩))
      go_ret3
      have ae := AE.out
      refine ⟨.slice va c.out.length vc, c, ?_, ae.2.2.1, ?_, ?_⟩
      · rw [ae.2.2.2.1, AY.out, show min (i' + 1) L = i' + 1 by omega]
        rfl
      · rw [ae.2.2.2.2.1]; exact ae.1
      · rw [ae.2.2.2.2.1]; exact ae.2.1
end Go.Proofs.YtikdpnpkmmmacaaDoor

/-
  What the law's first look comes to: the document's example.
-/
namespace Go.Proofs.YtikdpnpkmmmacaaDoor
open Go.RowKit
set_option linter.unusedVariables false
def iter (bs : List Bool) (most : Nat) : Nat → Cfg → Cfg
  | 0, c => c
  | k + 1, c => match step bs most c with
    | some d => iter bs most k d
    | none => c
theorem runs_iter {bs : List Bool} {most : Nat} : ∀ (k : Nat) (c : Cfg), Runs bs most c (iter bs most k c)
  | 0, c => Runs.refl c
  | k + 1, c => by
    unfold iter
    cases e : step bs most c with
    | none => exact Runs.refl c
    | some d => exact Runs.cons e (runs_iter k d)
def exA : List Nat := [75, 76, 74, 6, 0, 9]
theorem exA_iter : iter (allb exA) 99 12 c0 = ⟨.done, 34, [97, 98, 99], [1, 2, 3]⟩ := by kernel_rfl
theorem exA_st : Stands exA 99 ⟨.done, 34, [97, 98, 99], [1, 2, 3]⟩ := ⟨by have := runs_iter (bs := allb exA) (most := 99) 12 c0; rwa [exA_iter] at this, rfl⟩
set_option maxHeartbeats 1000000 in
theorem awake_c (w : World) (ht : Tabs w) : Calls Tryd.prog 13 #[] w fun e w' => e = .returned (.bool true) ∧ Below w.heap.size w w' := by
  obtain ⟨w1, hw1⟩ : ∃ w1, w1 = w.alloc (.cells #[.int .u8 75, .int .u8 76, .int .u8 74, .int .u8 6, .int .u8 0, .int .u8 9] 5) := ⟨_, rfl⟩
  have b1 : Below w.heap.size w w1 := by rw [hw1]; exact (Below.refl _ w).alloc (Nat.le_refl _) _
  have hl : Lies w1 (some ⟨w.heap.size, 0, none⟩) exA := Or.inr ⟨w.heap.size, 0, rfl, fun i x hx => by
    rw [Nat.zero_add, hw1, (Cells.new w _ 5).cell]
    match i, hx with
    | 0, hx => cases hx; rfl
    | 1, hx => cases hx; rfl
    | 2, hx => cases hx; rfl
    | 3, hx => cases hx; rfl
    | 4, hx => cases hx; rfl
    | 5, hx => cases hx; rfl⟩
  have hwh := whole_c w1 (ht.below b1 (by have := ht.lt; omega)) (some ⟨w.heap.size, 0, none⟩) exA 6 6 99 hl rfl (by decide) (by unfold Oct exA; decide) (by decide)
  have A1 : Aside (Below w.heap.size w w1) := b1
  rw [hw1] at hwh
  clear b1 hl ht
  go_enter Tryd.func13, Tryd.ntmps13
  go_upto_region 2 with (go_at_call 9; refine hwh.mono ?_; rintro e2 w2 ⟨vo, z, he, hz, hob, hb2⟩
                         have hz2 := hz.one exA_st
                         subst hz2
                         obtain rfl := (show e2 = .returned (.tuple #[vo, .int .i64 5, .int .i64 0]) from he))
  rw [← hw1] at hob hb2
  obtain ⟨va, vc, hv, hvc, hlies, hvn⟩ := hob.shape
  obtain ⟨g, off, hva⟩ : ∃ g off, va = some ⟨g, off, none⟩ := by
    rcases hlies with e | ⟨g, off, e, _⟩
    · cases e
    · exact ⟨g, off, e⟩
  subst hva
  have hconv : (convert 22 9 (.slice (some ⟨g, off, none⟩) 3 vc)).run Tryd.prog w2 = .ok (.string ⟨#[97, 98, 99]⟩) w2 := by
    refine run_convert_bytes_back w2 22 9 5 ⟨g, off, none⟩ vc [97, 98, 99] Tryd.underlying22 Tryd.underlying5 Tryd.underlying9 fun j hj => ?_
    rcases hlies with e | ⟨g', off', e, hc⟩
    · cases e
    · cases e
      have hadd : (⟨g, off, none⟩ : Addr).add j = ⟨g, off + j, none⟩ := by unfold Addr.add; split <;> simp_all
      rw [hadd]
      match j, hj with
      | 0, _ => exact hc 0 97 rfl
      | 1, _ => exact hc 1 98 rfl
      | 2, _ => exact hc 2 99 rfl
  have A2 : Aside (Below w.heap.size w w2) := A1.out.trans (hb2.mono A1.out.size)
  have hv' : vo = .slice (some ⟨g, off, none⟩) 3 vc := hv
  subst hv'
  clear hob hb2 hvc hlies hvn hz hwh hw1
  go_wp2_with fail
  first | go_ret | go_ret2
  exact ⟨rfl, A2.out⟩
end Go.Proofs.YtikdpnpkmmmacaaDoor

/-
  Bits written behind one another into bytes. No walk in this text.
-/
namespace Go.Proofs.YtikdpnpkmmmacaaDoor
open Go.RowKit
set_option linter.unusedVariables false
theorem wr_pad0 {z : List Nat} {bs : List Bool} {p : Nat} (h : allb z = bs ++ List.replicate p false) (hp : p < 8) (h8 : bs.length % 8 = 0) : p = 0 := by
  have := congrArg List.length h
  rw [allb_len, List.length_append, List.length_replicate] at this
  omega
theorem wr_nought {z : List Nat} {bs : List Bool} (h : allb z = bs) : allb (z ++ [0]) = bs ++ List.replicate 8 false := by
  rw [allb_append, h]
  rfl
theorem pads_ne {bs : List Bool} {p k : Nat} (hk : k ≠ bs.length) : (bs ++ List.replicate (p + 1) false)[k]? = ((bs ++ [true]) ++ List.replicate p false)[k]? := by
  by_cases h : k < bs.length
  · rw [List.getElem?_append_left h, List.append_assoc, List.getElem?_append_left h]
  · rw [List.getElem?_append_right (by omega), List.append_assoc, List.getElem?_append_right (by omega), List.singleton_append, List.replicate_succ]
    obtain ⟨m, hm⟩ : ∃ m, k - bs.length = m + 1 := ⟨k - bs.length - 1, by omega⟩
    rw [hm, List.getElem?_cons_succ, List.getElem?_cons_succ]
theorem low_step {x i : Nat} (h : x < 2 ^ (i + 1)) (h0 : x / 2 ^ i % 2 = 0) : x < 2 ^ i := by
  have h1 : x / 2 ^ i < 2 := by
    rw [Nat.div_lt_iff_lt_mul (Nat.two_pow_pos i)]
    rw [Nat.pow_succ] at h
    omega
  have h2 : x / 2 ^ i = 0 := by
    generalize x / 2 ^ i = q at h0 h1
    omega
  exact (Nat.div_eq_zero_iff_lt (Nat.two_pow_pos i)).1 h2
theorem low_of {x r : Nat} (hr : r < 8) (hx : x < 256) (h : ∀ i, r ≤ i → i < 8 → x / 2 ^ i % 2 = 0) : x < 2 ^ r := by
  have key : ∀ d, d ≤ 8 - r → x < 2 ^ (8 - d) := by
    intro d
    induction d with
    | zero => intro _; exact hx
    | succ d ih =>
      intro hd
      have h1 := ih (by omega)
      rw [show 8 - d = (8 - (d + 1)) + 1 by omega] at h1
      exact low_step h1 (h _ (by omega) (by omega))
  have := key (8 - r) (Nat.le_refl _)
  rwa [show 8 - (8 - r) = r by omega] at this
theorem bit_low {x r i : Nat} (hi : i < r) : (x + 2 ^ r) / 2 ^ i % 2 = x / 2 ^ i % 2 := by
  obtain ⟨d, rfl⟩ : ∃ d, r = i + 1 + d := ⟨r - i - 1, by omega⟩
  rw [show 2 ^ (i + 1 + d) = 2 ^ i * (2 * 2 ^ d) by rw [Nat.pow_add, Nat.pow_succ, Nat.mul_assoc], Nat.add_mul_div_left _ _ (Nat.two_pow_pos i)]
  omega
theorem bit_here {x r : Nat} (hx : x < 2 ^ r) : (x + 2 ^ r) / 2 ^ r % 2 = 1 := by
  rw [Nat.add_div_right _ (Nat.two_pow_pos r), Nat.div_eq_of_lt hx]
theorem bit_high {x r i : Nat} (hx : x < 2 ^ r) (hi : r < i) : (x + 2 ^ r) / 2 ^ i % 2 = 0 := by
  have : 2 ^ (r + 1) ≤ 2 ^ i := Nat.pow_le_pow_right (by decide) hi
  rw [Nat.pow_succ] at this
  rw [Nat.div_eq_of_lt (by omega)]
/-- A bit is set where noughts stand from there on. -/
theorem wr_set {z : List Nat} {bs : List Bool} {p : Nat} (h : allb z = bs ++ List.replicate (p + 1) false) (hp : p < 8) (ho : ∀ x ∈ z, x < 256) :
    ∃ x, z[bs.length / 8]? = some x ∧ x < 2 ^ (bs.length % 8) ∧ x + 2 ^ (bs.length % 8) < 256 ∧ allb (z.set (bs.length / 8) (x + 2 ^ (bs.length % 8))) = (bs ++ [true]) ++ List.replicate p false := by
  have hlen := congrArg List.length h
  rw [allb_len, List.length_append, List.length_replicate] at hlen
  obtain ⟨n, hn⟩ : ∃ n, bs.length = n := ⟨_, rfl⟩
  rw [hn] at hlen ⊢
  obtain ⟨r, hr⟩ : ∃ r, n % 8 = r := ⟨_, rfl⟩
  obtain ⟨j, hj⟩ : ∃ j, n / 8 = j := ⟨_, rfl⟩
  rw [hr, hj]
  have hr8 : r < 8 := by omega
  have hjz : j < z.length := by omega
  obtain ⟨x, hx⟩ : ∃ x, z[j]? = some x := ⟨_, List.getElem?_eq_getElem hjz⟩
  have hx256 := ho x (List.mem_of_getElem? hx)
  have hxr : x < 2 ^ r := low_of hr8 hx256 fun i h1 h2 => by
    have hk : (8 * j + i) / 8 = j := by omega
    have g := allb_at z (8 * j + i) x (by rw [hk]; exact hx)
    rw [h, List.getElem?_append_right (by omega), List.getElem?_replicate, if_pos (by omega), show (8 * j + i) % 8 = i by omega] at g
    have g2 := Option.some.inj g
    have g3 := beq_eq_false_iff_ne.1 g2.symm
    omega
  have hpr : 2 ^ r ≤ 2 ^ 7 := Nat.pow_le_pow_right (by decide) (by omega)
  rw [show 2 ^ 7 = 128 from rfl] at hpr
  refine ⟨x, hx, hxr, by omega, ?_⟩
  apply List.ext_getElem?
  intro k
  by_cases hkj : k / 8 = j
  · have g := allb_at (z.set j (x + 2 ^ r)) k (x + 2 ^ r) (by rw [hkj, List.getElem?_set_self hjz])
    have g0 := allb_at z k x (by rw [hkj]; exact hx)
    rw [g]
    by_cases h1 : k = n
    · subst h1
      rw [hr, bit_here hxr, ← hn, List.append_assoc, List.getElem?_append_right (Nat.le_refl _), Nat.sub_self]
      rfl
    · rw [h] at g0
      have hpn := pads_ne (bs := bs) (p := p) (k := k) (by rw [hn]; exact h1)
      rw [← hpn, g0]
      by_cases h2 : k % 8 < r
      · rw [bit_low h2]
      · have h3 : r < k % 8 := by omega
        rw [List.getElem?_append_right (by omega), List.getElem?_replicate, if_pos (by omega)] at g0
        rw [bit_high hxr h3, ← Option.some.inj g0]
        rfl
  · rw [← pads_ne (bs := bs) (p := p) (k := k) (by intro e; rw [hn] at e; subst e; exact hkj hj), ← h]
    by_cases hk : k / 8 < z.length
    · obtain ⟨y, hy⟩ : ∃ y, z[k / 8]? = some y := ⟨_, List.getElem?_eq_getElem hk⟩
      rw [allb_at z k y hy, allb_at (z.set j (x + 2 ^ r)) k y (by rw [List.getElem?_set_ne (Ne.symm hkj)]; exact hy)]
    · rw [List.getElem?_eq_none (by rw [allb_len, List.length_set]; omega), List.getElem?_eq_none (by rw [allb_len]; omega)]
end Go.Proofs.YtikdpnpkmmmacaaDoor

/-
  The document's writer in memory: its block, its bytes; what it may turn. No walk in this text.
-/
namespace Go.Proofs.YtikdpnpkmmmacaaDoor
open Go.RowKit
set_option linter.unusedVariables false
/-- What the writer may turn: its own block W, rows of bytes from lo on; memory may come. -/
structure Wk (lo W : Nat) (w u : World) : Prop where
  os : u.os = w.os
  tape : u.tape = w.tape
  output : u.output = w.output
  size : w.heap.size ≤ u.heap.size
  block : ∀ k, k < w.heap.size → k ≠ W → u.heap[k]? = w.heap[k]? ∨ (lo ≤ k ∧ ∃ cs fr, w.heap[k]? = some (.cells cs 5 fr))
section
variable {lo W : Nat} {w u v : World}
theorem Wk.refl (lo W : Nat) (w : World) : Wk lo W w w := ⟨rfl, rfl, rfl, Nat.le_refl _, fun _ _ _ => Or.inl rfl⟩
theorem Wk.trans (h : Wk lo W w u) (k : Wk lo W u v) : Wk lo W w v := ⟨k.os.trans h.os, k.tape.trans h.tape, k.output.trans h.output, Nat.le_trans h.size k.size, fun i hi hW => by
  rcases h.block i hi hW with e | e
  · rcases k.block i (by have := h.size; omega) hW with e2 | ⟨e2, cs, fr, e3⟩
    · exact Or.inl (e2.trans e)
    · exact Or.inr ⟨e2, cs, fr, by rw [← e]; exact e3⟩
  · exact Or.inr e⟩
theorem Wk.drew (h : Wk lo W w u) : Wk lo W w u.drew := ⟨h.os, h.tape, h.output, h.size, h.block⟩
theorem Wk.onW (h : Only W w u) : Wk lo W w u := ⟨h.os, h.tape, h.output, Nat.le_of_eq h.size.symm, fun k _ hk => Or.inl (h.block k hk)⟩
theorem Wk.onRow {g : Nat} {cs : Array Value} (h : Only g w u) (hlo : lo ≤ g) (hg : Cells w g cs 5) : Wk lo W w u := ⟨h.os, h.tape, h.output, Nat.le_of_eq h.size.symm, fun k _ _ => by
  by_cases e : k = g
  · subst e; exact Or.inr ⟨hlo, cs, _, hg⟩
  · exact Or.inl (h.block k e)⟩
theorem Wk.of_below (h : Below w.heap.size w u) : Wk lo W w u := ⟨h.os, h.tape, h.output, h.size, fun k hk _ => Or.inl (h.block k hk)⟩
theorem Wk.of_ap {B : Nat} {v' : Value} {l : List Nat} (h : Ap B lo w u v' l) : Wk lo W w u := ⟨h.bel.os, h.bel.tape, h.bel.output, h.bel.size, fun k hk _ => by
  by_cases e : k < lo
  · exact Or.inl (h.bel.block k e)
  · rcases h.kp.block k hk with e2 | ⟨_, e2⟩
    · exact Or.inl e2
    · exact Or.inr ⟨by omega, e2⟩⟩
theorem Wk.below (h : Wk lo W w u) (hlo : lo ≤ W) (hs : lo ≤ w.heap.size) : Below lo w u := ⟨h.os, h.tape, h.output, h.size, fun k hk => by
  rcases h.block k (by omega) (by omega) with e | ⟨e, _⟩
  · exact e
  · omega⟩
/-- A block of another kind stays. -/
theorem Cells.wk {b : Nat} {cs : Array Value} {t : TypeId} (h : Cells w b cs t) (k : Wk lo W w u) (hb : b ≠ W) (ht : t ≠ 5) : Cells u b cs t := by
  rcases k.block b h.lt hb with e | ⟨_, cs', fr, e⟩
  · unfold Cells at h ⊢; rw [e]; exact h
  · unfold Cells at h
    rw [h] at e
    cases e
    exact absurd rfl ht
theorem Cells.ap {B b : Nat} {cs : Array Value} {t : TypeId} {v' : Value} {l : List Nat} (h : Cells w b cs t) (k : Ap B lo w u v' l) (ht : t ≠ 5) : Cells u b cs t := by
  rcases k.kp.block b h.lt with e | ⟨_, cs', fr, e⟩
  · unfold Cells at h ⊢; rw [e]; exact h
  · unfold Cells at h
    rw [h] at e
    cases e
    exact absurd rfl ht
/-- A byte of a list of the call's own is set. -/
theorem Ob.set {v : Value} {l : List Nat} (h : Ob w lo v l) {j : Nat} (hj : j < l.length) (y : Nat) : ∃ g c cur, v = .slice (some ⟨g, 0, none⟩) l.length c ∧ lo ≤ g ∧ l.length ≤ c ∧ Cells w g cur 5 ∧ cur[j]? = some (.int .u8 ((l.getD j 0 : Nat) : Int)) ∧ Ob (w.setCell ⟨g, j, none⟩ (.int .u8 (y : Int))) lo v (l.set j y) := by
  rcases h.own.2 with ⟨hv, h0⟩ | ⟨g, c, cur, hv, hg, hh, hc, hm, hs, ht⟩
  · omega
  · rw [Nat.mul_one] at hs ht
    have hx : l[j]? = some (l.getD j 0) := by rw [List.getD_eq_getElem?_getD, List.getElem?_eq_getElem hj]; rfl
    have hcell : Cells w g cur 5 := hh
    refine ⟨g, c, cur, hv, hg, hc, hcell, ?_, ⟨?_, ?_⟩, ?_⟩
    · have e := ob_get l j
      rw [← ht, List.getElem?_take, if_pos hj, hx] at e
      simpa using e
    · rw [ob_length, List.length_set, Nat.mul_one]
    · refine Or.inr ⟨g, c, cur.setIfInBounds j (.int .u8 (y : Int)), by rw [List.length_set]; exact hv, hg, hcell.set j _, by rw [List.length_set]; exact hc, hm, by rw [Array.size_setIfInBounds, hs, Nat.mul_one], ?_⟩
      rw [List.length_set, Nat.mul_one, Array.toList_setIfInBounds, List.take_set, ht]
      simp [ob]
    · rw [((Only.refl g w).setCell j _).size]; exact h.le
end
/-- The writer: its bytes z hold the bits bs, p noughts behind them. -/
structure Wz (w : World) (lo W : Nat) (v : Value) (z : List Nat) (bs : List Bool) (p : Nat) : Prop where
  fr : Cells w W #[v, .int .i64 (bs.length : Int)] 77
  ob : Ob w lo v z
  all : allb z = bs ++ List.replicate p false
  oct : ∀ x ∈ z, x < 256
  pad : p ≤ 8
section
variable {w : World} {lo W : Nat} {v : Value} {z : List Nat} {bs : List Bool} {p : Nat}
/-- Its own block is no row of bytes. -/
theorem Wz.other (h : Wz w lo W v z bs p) {g : Nat} {cs : Array Value} (hg : Cells w g cs 5) : g ≠ W := by
  intro e
  subst e
  have h1 := h.fr
  unfold Cells at hg h1
  rw [hg] at h1
  cases h1
theorem Ob.onW {v : Value} {l : List Nat} (h : Ob w lo v l) {u : World} (k : Only W w u) (hW : ∀ g cs, Cells w g cs 5 → g ≠ W) : Ob u lo v l := by
  refine ⟨⟨h.own.1, ?_⟩, by rw [k.size]; exact h.le⟩
  rcases h.own.2 with q | ⟨g, c, cur, hv, hg, hh, q⟩
  · exact Or.inl q
  · exact Or.inr ⟨g, c, cur, hv, hg, (k.block g (hW g cur hh)).trans hh, q⟩
/-- One more nought. -/
theorem Wz.nought (h : Wz w lo W v z bs (p + 1)) : Wz (w.setCell ⟨W, 1, none⟩ (.int .i64 ((bs.length + 1 : Nat) : Int))) lo W v z (bs ++ [false]) p := by
  refine ⟨?_, h.ob.onW ((Only.refl W w).setCell 1 _) (fun g cs hg => h.other hg), ?_, h.oct, by have := h.pad; omega⟩
  · have := h.fr.set 1 (.int .i64 ((bs.length + 1 : Nat) : Int))
    rw [List.length_append, List.length_singleton]
    exact this
  · rw [h.all, List.append_assoc, List.replicate_succ]
    rfl
/-- A one, once its byte is set. -/
theorem Wz.one (h : Wz w lo W v z bs (p + 1)) {g j y : Nat} {cur : Array Value} (hg : Cells w g cur 5) (hob : Ob (w.setCell ⟨g, j, none⟩ (.int .u8 (y : Int))) lo v (z.set j y)) (hy : y < 256) (ha : allb (z.set j y) = (bs ++ [true]) ++ List.replicate p false) :
    Wz ((w.setCell ⟨g, j, none⟩ (.int .u8 (y : Int))).setCell ⟨W, 1, none⟩ (.int .i64 ((bs.length + 1 : Nat) : Int))) lo W v (z.set j y) (bs ++ [true]) p := by
  have hgW := h.other hg
  have hf : Cells (w.setCell ⟨g, j, none⟩ (.int .u8 (y : Int))) W #[v, .int .i64 (bs.length : Int)] 77 := h.fr.only ((Only.refl g w).setCell j _) (Ne.symm hgW)
  refine ⟨?_, hob.onW ((Only.refl W _).setCell 1 _) (fun g' cs hg' => ?_), ha, fun x hx => ?_, by have := h.pad; omega⟩
  · have := hf.set 1 (.int .i64 ((bs.length + 1 : Nat) : Int))
    rw [List.length_append, List.length_singleton]
    exact this
  · intro e
    subst e
    unfold Cells at hg' hf
    rw [hg'] at hf
    cases hf
  · rcases List.mem_or_eq_of_mem_set hx with h1 | h1
    · exact h.oct x h1
    · rw [h1]; exact hy
end
end Go.Proofs.YtikdpnpkmmmacaaDoor

/-
  The document's Number: bits written.
-/
namespace Go.Proofs.YtikdpnpkmmmacaaDoor
open Go.RowKit
set_option linter.unusedVariables false
theorem i64_and1 (a : Nat) (ha : a < 4611686018427387904) : bits BinOp.and IntKind.i64 (a : Int) 1 = ((a % 2 : Nat) : Int) := by
  show IntKind.i64.wrap ((BitVec.ofInt 64 (a : Int) &&& BitVec.ofInt 64 1).toNat : Int) = _
  rw [BitVec.toNat_and, ofInt_u64 a (by omega), show (BitVec.ofInt 64 1).toNat = 1 by decide, Nat.and_one_is_mod, IntKind.wrap_i64]
  omega
theorem bit_i64 (x k : Nat) (h : x < 4611686018427387904) : (bits BinOp.and IntKind.i64 ((x : Int) / 2 ^ k) 1 == 1) = (x / 2 ^ k % 2 == 1) := by
  have e : (x : Int) / 2 ^ k = ((x / 2 ^ k : Nat) : Int) := by push_cast; rfl
  have hb : x / 2 ^ k < 4611686018427387904 := Nat.lt_of_le_of_lt (Nat.div_le_self _ _) h
  rw [e, i64_and1 _ hb]
  have h2 : x / 2 ^ k % 2 = 0 ∨ x / 2 ^ k % 2 = 1 := by omega
  rcases h2 with h | h <;> rw [h] <;> rfl
theorem or_u8 (y r : Nat) (hy : y < 2 ^ r) (hr : r < 8) : bits BinOp.or IntKind.u8 (y : Int) (IntKind.u8.wrap (2 ^ r)) = ((y + 2 ^ r : Nat) : Int) := by
  have hpr : 2 ^ r ≤ 2 ^ 7 := Nat.pow_le_pow_right (by decide) (by omega)
  rw [show 2 ^ 7 = 128 from rfl] at hpr
  have e : ((2 : Int) ^ r) = ((2 ^ r : Nat) : Int) := by push_cast; rfl
  have hw : IntKind.u8.wrap ((2 ^ r : Nat) : Int) = ((2 ^ r : Nat) : Int) := by
    rw [IntKind.wrap_u8]; omega
  rw [e, hw, u8_or_nat y _ (by omega) (by omega)]
  congr 1
  have := Nat.two_pow_add_eq_or_of_lt hy 1
  rw [Nat.mul_one] at this
  rw [Nat.or_comm, ← this]
  omega
theorem wrapj (j : Nat) (h : (j : Int) < 1099511627776) : wrap64 (j : Int) = (j : Int) ∧ IntKind.i64.wrap (j : Int) = (j : Int) := by
  have e : wrap64 (j : Int) = (j : Int) := by unfold wrap64; omega
  refine ⟨e, ?_⟩
  clear e
  rw [IntKind.wrap_i64]
  omega
section
variable {lo W : Nat}
theorem Wz.shape {w : World} {v : Value} {z : List Nat} {bs : List Bool} {p : Nat} (h : Wz w lo W v z bs p) : ∃ a c, v = .slice a z.length c := by
  obtain ⟨a, c, e, _⟩ := h.ob.shape
  exact ⟨a, c, e⟩
set_option maxHeartbeats 2000000 in
theorem wnumber_c (x n : Nat) (hx : x < 4611686018427387904) (hn : n ≤ 62) (w : World) {v : Value} {z : List Nat} {bs : List Bool} {p : Nat} (h : Wz w lo W v z bs p) (hp : p < 8) (hlo : 4 ≤ lo) (hbs : bs.length + n < 1099511627776) :
    Calls Tryd.prog 39 #[.pointer (some ⟨W, 0, none⟩), .int .i64 (x : Int), .int .i64 (n : Int)] w fun e w' => e = .returned (.tuple #[]) ∧ (∃ v' z' p', Wz w' lo W v' z' (bs ++ bitsOf n x) p' ∧ p' < 8) ∧ Wk lo W w w' := by
  have A : Aside (x < 4611686018427387904 ∧ n ≤ 62 ∧ Wz w lo W v z bs p ∧ 4 ≤ lo ∧ bs.length + n < 1099511627776 ∧ p < 8) := ⟨hx, hn, h, hlo, hbs, hp⟩
  have hnI : (n : Int) ≤ 62 := by omega
  have hxI : (x : Int) < 4611686018427387904 := by omega
  clear hx hn h hlo hbs hp
  go_enter Tryd.func39, Tryd.ntmps39
  go_wp2_with fail
  go_loopg [6] (n + 1) (fun gg s6 wr => ∃ i : Nat, s6 = .int .i64 (i : Int) ∧ Aside (i + gg = n + 1 ∧ i ≤ n) ∧ Aside (Wk lo W w wr ∧ ∃ v z p, Wz wr lo W v z (bs ++ bitsOf i x) p ∧ p < 8))
  case atStart => exact ⟨0, rfl, ⟨by omega, by omega⟩, Wk.refl _ _ _, v, z, p, by rw [show bitsOf 0 x = [] from rfl, List.append_nil]; exact A.out.2.2.1, A.out.2.2.2.2.2⟩
  case round =>
    obtain ⟨i, rfl, AG, hI⟩ := hrel
    by_cases hi : i < n
    · obtain ⟨hwk, v1, z1, p1, hz, hp1⟩ := hI.out
      have t1 : ((i : Int) < (n : Int)) = True := eq_true (by omega)
      have t1' : (i < n) = True := eq_true hi
      obtain ⟨m, hm⟩ : ∃ m, (bs ++ bitsOf i x).length = m := ⟨_, rfl⟩
      have hmb : m < 1099511627776 := by rw [← hm, List.length_append, bitsOf_length]; have := A.out; omega
      have hmI : (m : Int) < 1099511627776 := by omega
      obtain ⟨r, hr⟩ : ∃ r, m % 8 = r := ⟨_, rfl⟩
      have hrI : Int.tmod (m : Int) 8 = (r : Int) := by rw [← hr, Int.tmod_eq_emod_of_nonneg (by omega)]; omega
      have hiI : (i : Int) < 62 := by omega
      have hbit : (bits BinOp.and IntKind.i64 ((x : Int) / 2 ^ i) 1 == 1) = (x / 2 ^ i % 2 == 1) := bit_i64 x i (by omega)
      obtain ⟨bt, hbt⟩ : ∃ bt, (x / 2 ^ i % 2 == 1) = bt := ⟨_, rfl⟩
      rw [hbt] at hbit
      have AX : Aside (Wk lo W w wr ∧ Wz wr lo W v1 z1 (bs ++ bitsOf i x) p1 ∧ (bs ++ bitsOf i x).length = m ∧ m % 8 = r ∧ m < 1099511627776 ∧ i < n ∧ p1 < 8 ∧ bs ++ bitsOf (i + 1) x = (bs ++ bitsOf i x) ++ [bt]) := ⟨hwk, hz, hm, hr, hmb, hi, hp1, by rw [bitsOf_succ, hbt, List.append_assoc]⟩
      obtain ⟨va, vc, hv⟩ := hz.shape
      subst hv
      obtain ⟨zl, hzl⟩ : ∃ zl, z1.length = zl := ⟨_, rfl⟩
      have c0 := hz.fr.cell 0
      have c1 := hz.fr.cell 1
      have f0 := hz.fr.frozen 0
      have f1 := hz.fr.frozen 1
      rw [hm, hzl] at c0 c1
      have c0' : wr.cell? ⟨W, 0, none⟩ = some (.slice va zl vc) := c0
      have c1' : wr.cell? ⟨W, 1, none⟩ = some (.int .i64 (m : Int)) := c1
      have AZL : Aside (z1.length = zl) := hzl
      clear hI hwk hz hm hr hmb hi hp1 hbt hzl c0 c1
      obtain ⟨rb, hrb⟩ : ∃ rb, ((r : Int) == 0) = rb := ⟨_, rfl⟩
      have ARB : Aside (((r : Int) == 0) = rb) := hrb
      go_upto_region 3 with fail
      go_upto_if 17 with fail
      clear hrb
      go_cut [] from 7 to 59 (fun wx => Aside (∃ v2 z2 p2, Wz wx lo W v2 z2 (bs ++ bitsOf i x) (p2 + 1) ∧ Wk lo W wr wx))
      case first =>
        cases rb with
        | true =>
          have hr0 : r = 0 := by have h := ARB.out; rw [beq_iff_eq] at h; omega
          have AP0 : Aside (p1 = 0) := wr_pad0 AX.out.2.1.all AX.out.2.2.2.2.2.2.1 (by rw [AX.out.2.2.1, AX.out.2.2.2.1, hr0])
          obtain ⟨H, hH⟩ : ∃ H, wr.heap.size = H := ⟨_, rfl⟩
          have bal : Below wr.heap.size wr (wr.alloc (.cells #[.int .u8 0] 5)) := (Below.refl _ wr).alloc (Nat.le_refl _) _
          have hobA := AX.out.2.1.ob.below bal (Nat.le_refl _)
          rw [AZL.out] at hobA
          have hlA : Lies (wr.alloc (.cells #[.int .u8 0] 5)) (some ⟨H, 0, none⟩) [0] := Or.inr ⟨H, 0, rfl, fun k z hz => by
            have hk : k = 0 := by have := (List.getElem?_eq_some_iff.1 hz).1; simp at this; exact this
            subst hk
            cases hz
            rw [← hH, Nat.zero_add, (Cells.new wr #[.int .u8 0] 5).cell 0]
            rfl⟩
          have hfA : Cells (wr.alloc (.cells #[.int .u8 0] 5)) W #[.slice va z1.length vc, .int .i64 ((bs ++ bitsOf i x).length : Int)] 77 := AX.out.2.1.fr.alloc _
          have AL : Aside (z1.length + 1 ≤ 140737488355328) := (show z1.length + 1 ≤ 140737488355328 by
            have h1 := congrArg List.length AX.out.2.1.all
            rw [allb_len, List.length_append, List.length_replicate, AX.out.2.2.1] at h1
            have := AX.out
            omega)
          have ABA : Aside (Below wr.heap.size wr (wr.alloc (.cells #[.int .u8 0] 5)) ∧ Cells (wr.alloc (.cells #[.int .u8 0] 5)) W #[.slice va z1.length vc, .int .i64 ((bs ++ bitsOf i x).length : Int)] 77) := ⟨bal, hfA⟩
          clear hr0 bal hfA
          go_wp2_with (at_builtin; refine wpList_ob 0 _ rfl (.tmp 22) (.tmp 23) rfl lo (.slice va zl vc) z1 (by rfl) hobA A.out.2.2.2.1 (some ⟨H, 0, none⟩) [0] 1 1 rfl (by rfl) (by intro h; cases h) hlA AL.out ?_; intro v6 w6 hap; obtain ⟨va6, vc6, hv6, _⟩ := hap.ob_.shape; have hl6 : (z1 ++ [0]).length = zl + 1 := (by rw [List.length_append, List.length_singleton, AZL.out]); rw [hl6] at hv6; subst hv6; have g0 := (ABA.out.2.ap hap (by decide)).cell 0; have g1 := (ABA.out.2.ap hap (by decide)).frozen 0)
          have AZ : Aside (∃ v2 z2 p2, Wz (w6.setCell ⟨W, 0, none⟩ (.slice va6 (zl + 1) vc6)) lo W v2 z2 (bs ++ bitsOf i x) (p2 + 1) ∧ Wk lo W wr (w6.setCell ⟨W, 0, none⟩ (.slice va6 (zl + 1) vc6))) := by
            have hf6 := ABA.out.2.ap hap (by decide)
            refine ⟨.slice va6 (zl + 1) vc6, z1 ++ [0], 7, ⟨hf6.set 0 _, hap.ob_.onW ((Only.refl W w6).setCell 0 _) (fun g cs hg e => ?_), ?_, fun y hy => ?_, Nat.le_refl _⟩, ((Wk.of_below ABA.out.1).trans (Wk.of_ap hap)).trans (Wk.onW ((Only.refl W w6).setCell 0 _))⟩
            · subst e
              unfold Cells at hg hf6
              rw [hg] at hf6
              cases hf6
            · have h0 := AX.out.2.1.all
              rw [AP0.out, List.replicate_zero, List.append_nil] at h0
              exact wr_nought h0
            · rcases List.mem_append.1 hy with h | h
              · exact AX.out.2.1.oct y h
              · rw [List.mem_singleton] at h; rw [h]; decide
          clear hap g0 g1 hobA hlA
          go_meet
          case rel => exact AZ
        | false =>
          have hr0 : r ≠ 0 := by have h := ARB.out; rw [beq_eq_false_iff_ne] at h; omega
          have AZ : Aside (∃ v2 z2 p2, Wz wr lo W v2 z2 (bs ++ bitsOf i x) (p2 + 1) ∧ Wk lo W wr wr) := by
            have ax := AX.out
            have hl := congrArg List.length ax.2.1.all
            rw [allb_len, List.length_append, List.length_replicate, ax.2.2.1] at hl
            refine ⟨.slice va z1.length vc, z1, p1 - 1, ?_, Wk.refl _ _ _⟩
            rw [show p1 - 1 + 1 = p1 by omega]
            exact ax.2.1
          clear hr0
          go_wp2_with fail
          go_meet
          case rel => exact AZ
      case rest =>
        obtain ⟨v2, z2, p2, hz2, hk2⟩ := hcut.out
        clear hcut c0' c1' f0 f1
        obtain ⟨va2, vc2, hv2⟩ := hz2.shape
        subst hv2
        obtain ⟨zl2, hzl2⟩ : ∃ zl, z2.length = zl := ⟨_, rfl⟩
        have c0 := hz2.fr.cell 0
        have c1 := hz2.fr.cell 1
        have f1 := hz2.fr.frozen 1
        rw [AX.out.2.2.1, hzl2] at c0 c1
        have c0' : wc.cell? ⟨W, 0, none⟩ = some (.slice va2 zl2 vc2) := c0
        have c1' : wc.cell? ⟨W, 1, none⟩ = some (.int .i64 (m : Int)) := c1
        have A2 : Aside (Wz wc lo W (.slice va2 z2.length vc2) z2 (bs ++ bitsOf i x) (p2 + 1) ∧ Wk lo W wr wc ∧ z2.length = zl2) := ⟨hz2, hk2, hzl2⟩
        clear hz2 hk2 hzl2 c0 c1
        have hrem : ∀ u, Wk lo W w wr → Wk lo W wr u → Wk lo W w u := fun u h k => h.trans k
        cases bt with
        | false =>
          go_wp2_with fail
          have AZ : Aside (Wk lo W w (wc.setCell ⟨W, 1, none⟩ (.int .i64 ((m : Int) + 1))) ∧ ∃ v z p, Wz (wc.setCell ⟨W, 1, none⟩ (.int .i64 ((m : Int) + 1))) lo W v z (bs ++ bitsOf (i + 1) x) p ∧ p < 8) := by
            have ax := AX.out
            have h := A2.out.1.nought
            rw [ax.2.2.1, ← ax.2.2.2.2.2.2.2] at h
            exact ⟨(ax.1.trans A2.out.2.1).trans (Wk.onW ((Only.refl W wc).setCell 1 _)), _, z2, p2, h, by have := A2.out.1.pad; omega⟩
          go_roundg (n + 1 - (i + 1))
          case measure => have := AG.out; have := AX.out.2.2.2.2.2.1; omega
          case rel => exact ⟨i + 1, by go_num, ⟨by have := AX.out.2.2.2.2.2.1; omega, by have := AX.out.2.2.2.2.2.1; omega⟩, AZ⟩
        | true =>
          have hz3 := A2.out.1
          obtain ⟨y, hy1, hy2, hy3, hy4⟩ := wr_set (z := z2) (bs := bs ++ bitsOf i x) (p := p2) hz3.all (by have := hz3.pad; omega) hz3.oct
          rw [AX.out.2.2.1] at hy1 hy2 hy3 hy4
          rw [AX.out.2.2.2.1] at hy2 hy3 hy4
          obtain ⟨j, hj⟩ : ∃ j, m / 8 = j := ⟨_, rfl⟩
          rw [hj] at hy1 hy4
          have hjz : j < z2.length := (List.getElem?_eq_some_iff.1 hy1).1
          obtain ⟨g, gc, cur, hv, hlg, hlc, hcg, hcj, hob⟩ := hz3.ob.set hjz (y + 2 ^ r)
          rw [List.getD_eq_getElem?_getD, hy1] at hcj
          simp only [Value.slice.injEq] at hv
          obtain ⟨rfl, _, rfl⟩ := hv
          have hqI : Int.tdiv (m : Int) 8 = (j : Int) := by rw [← hj, Int.tdiv_eq_ediv_of_nonneg (by omega)]; omega
          rw [A2.out.2.2] at hjz
          have k1 : ((j : Int) < (zl2 : Int)) = True := eq_true (by omega)
          have k1' : (j < zl2) = True := eq_true hjz
          have hrb : (r : Int) < 8 := by have := AX.out.2.2.2.1; omega
          have AHOR : Aside (bits BinOp.or IntKind.u8 (y : Int) (2 ^ r % 256) = ((y + 2 ^ r : Nat) : Int)) := (by have h := or_u8 y r hy2 (by omega); rw [IntKind.wrap_u8] at h; exact h)
          have hcg0 : Cells wc g cur 5 := hcg
          have hcj3 : wc.cell? ⟨g, j, none⟩ = some (.int .u8 (y : Int)) := by rw [hcg0.cell]; exact hcj
          have hcf3 : wc.frozen? ⟨g, j, none⟩ = false := hcg0.frozen _
          have AZ : Aside (Wk lo W w ((wc.setCell ⟨g, j, none⟩ (.int .u8 ((y + 2 ^ r : Nat) : Int))).setCell ⟨W, 1, none⟩ (.int .i64 ((m : Int) + 1))).drew ∧ ∃ v z p, Wz ((wc.setCell ⟨g, j, none⟩ (.int .u8 ((y + 2 ^ r : Nat) : Int))).setCell ⟨W, 1, none⟩ (.int .i64 ((m : Int) + 1))).drew lo W v z (bs ++ bitsOf (i + 1) x) p ∧ p < 8) := by
            have ax := AX.out
            have h := hz3.one hcg hob hy3 hy4
            rw [ax.2.2.1, ← ax.2.2.2.2.2.2.2] at h
            exact ⟨(((ax.1.trans A2.out.2.1).trans (Wk.onRow ((Only.refl g wc).setCell j _) hlg hcg)).trans (Wk.onW ((Only.refl W _).setCell 1 _))).drew, _, _, p2, ⟨h.fr, h.ob.drew, h.all, h.oct, h.pad⟩, by have := A2.out.1.pad; omega⟩
          have hgW : g ≠ W := A2.out.1.other hcg0
          have hgW' : W ≠ g := Ne.symm hgW
          have hjb : (j : Int) < 1099511627776 := by have := AX.out.2.2.2.2.1; omega
          have hjj : wrap64 (j : Int) = (j : Int) ∧ IntKind.i64.wrap (j : Int) = (j : Int) := wrapj j hjb
          obtain ⟨hwj, hwj'⟩ := hjj
          clear hy1 hy2 hy3 hy4 hj hjz hlg hlc hcg hcg0 hcj hob hz3
          go_upto_region 6 with fail
          go_region
          all_goals
            go_wp2_with fail
            go_roundg (n + 1 - (i + 1))
            case measure => clear hwj hwj'; have := AG.out; have := AX.out.2.2.2.2.2.1; omega
            case rel => exact ⟨i + 1, by go_num, ⟨by clear hwj hwj'; have := AX.out.2.2.2.2.2.1; omega, by clear hwj hwj'; have := AX.out.2.2.2.2.2.1; omega⟩, by rw [AHOR.out]; exact AZ⟩
    · have hin : i = n := by have := AG.out; omega
      have t1 : ((i : Int) < (n : Int)) = False := eq_false (by omega)
      have t1' : (i < n) = False := eq_false hi
      have AZ : Aside ((∃ v' z' p', Wz wr lo W v' z' (bs ++ bitsOf n x) p' ∧ p' < 8) ∧ Wk lo W w wr) := by
        have h := hI.out
        rw [hin] at h
        exact ⟨h.2, h.1⟩
      clear hI hi hin
      go_wp2_with fail
      go_end0
      exact ⟨rfl, AZ.out.1, AZ.out.2⟩
end
end Go.Proofs.YtikdpnpkmmmacaaDoor

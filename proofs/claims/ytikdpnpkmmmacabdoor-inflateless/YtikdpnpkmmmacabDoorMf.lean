/-
  Own texts of this seat, one behind the other: what each says stands ahead of it.
-/
import Derived.Test.YtikdpnpkmmmacabDoorMe
import Derived.Deep.CutBlock
import Derived.Deep.DeepCutAuto
import Derived.Laws.IdiomStrings
/-
  What Whole comes to: what the machine of small steps stands at over all bytes, asked for so many.
-/
namespace Go.Proofs.YtikdpnpkmmmacabDoor
open Go.RowKit
set_option linter.unusedVariables false
/-- What Whole comes to. -/
def WhTo (Bb : List Nat) (L N : Nat) (w : World) (e : Ending) (w' : World) : Prop :=
  ∃ vo z, e = .returned (.tuple #[vo, .int .i64 ((min (atC L z + 1) L : Nat) : Int), .int .i64 (whyC z : Nat)]) ∧ Stands Bb N z ∧ Ob w' (w.heap.size + 4) vo z.out ∧ Below w.heap.size w w'
/-- Behind the loop: how many bytes were put in, what was told, how it stands. -/
def WhMid (Bb : List Nat) (L N M B D b R : Nat) (w : World) (vo v5 : Value) (wc : World) : Prop :=
  ∃ (i : Nat) (c : Cfg) (q : Md), v5 = .int .i64 (i : Int) ∧ Ob wc (B + 4) vo c.out ∧ c.out.length ≤ N ∧ Inf wc B D b R (Bb.take i) M c q ∧ Below B w wc ∧ i ≤ L ∧
    ((q = .want ∧ i = L) ∨ (q = .over ∧ 1 ≤ i ∧ 8 * (i - 1) < c.pos))
set_option maxHeartbeats 2000000 in
theorem whole_c (w : World) (ht : Tabs w) (a : Option Addr) (Bb : List Nat) (L C : Nat) (n : Int) (hB : Lies w a Bb) (hL : Bb.length = L) (hLb : L < 140737488355328) (ho : Oct Bb) (hn : n ≤ 1048576) :
    Calls Tryd.prog 4 #[.slice a L C, .int .i64 n] w fun e w' => WhTo Bb L n.toNat w e w' := by
  obtain ⟨N, hN⟩ : ∃ N, n.toNat = N := ⟨_, rfl⟩
  obtain ⟨M, hM⟩ : ∃ M, N + 3 = M := ⟨_, rfl⟩
  have hnew := new_i M w ht
  obtain ⟨B, hBe⟩ : ∃ B, w.heap.size = B := ⟨_, rfl⟩
  obtain ⟨D, hD⟩ : ∃ D, B + 3 = D := ⟨_, rfl⟩
  obtain ⟨b, hb⟩ : ∃ b, B + 2 = b := ⟨_, rfl⟩
  obtain ⟨R, hR⟩ : ∃ R, B + 1 = R := ⟨_, rfl⟩
  rw [hBe, hD, hb, hR] at hnew
  rw [hN]
  have A : Aside (Lies w a Bb ∧ Bb.length = L ∧ L < 140737488355328 ∧ Oct Bb ∧ n ≤ 1048576 ∧ n.toNat = N ∧ N + 3 = M ∧ w.heap.size = B) := ⟨hB, hL, hLb, ho, hn, hN, hM, hBe⟩
  clear hB hL hLb ho hn hN hM hBe hD hb hR ht
  go_enter Tryd.func4, Tryd.ntmps4
  go_upto_block 0 with (go_at_call 7; refine hnew.mono ?_; rintro e1 w1 ⟨rfl, hinf1, hb1⟩)
  have A1 : Aside (Inf w1 B D b R [] M c0 .want ∧ Below B w w1) := ⟨hinf1, hb1⟩
  clear hinf1 hb1 hnew
  go_cut [4, 5] (fun s4 s5 wc => WhMid Bb L N M B D b R w s4 s5 wc)
  case first =>
    go_wp2_with fail
    go_loopg [4, 5, 15] (L + 1) (fun gg s4 s5 s15 wr => ∃ i : Nat, s5 = .int .i64 (i : Int) ∧ s15 = .int .i64 (i : Int) ∧ Aside (i + gg = L + 1 ∧ ∃ c q, Ob wr (B + 4) s4 c.out ∧ c.out.length ≤ N ∧ Inf wr B D b R (Bb.take i) M c q ∧ Below B w wr ∧ i ≤ L ∧ (q = .want ∨ (q = .over ∧ 1 ≤ i ∧ 8 * (i - 1) < c.pos))))
    case atStart => exact ⟨0, rfl, rfl, by omega, c0, .want, Ob.nil A1.out.1.lt, Nat.zero_le _, A1.out.1, A1.out.2, Nat.zero_le _, Or.inl rfl⟩
    case round =>
      obtain ⟨i, rfl, rfl, hI⟩ := hrel
      obtain ⟨hig, c, q, hob, hcl, hinf, hbel, hiL, hq⟩ := hI.out
      by_cases hi : i < L
      · have a0 := A.out
        have t1 : ((i : Int) < (L : Int)) = True := eq_true (by omega)
        have t1' : (i < L) = True := eq_true hi
        have hiI : (i : Int) < 200000000000000 := by omega
        obtain ⟨x, hx⟩ : ∃ x, Bb[i]? = some x := ⟨_, List.getElem?_eq_getElem (by omega)⟩
        have hx256 : x < 256 := a0.2.2.2.1 x (List.mem_of_getElem? hx)
        obtain ⟨ab, ao, ha, hcB⟩ : ∃ ab ao, a = some ⟨ab, ao, none⟩ ∧ ∀ (j y : Nat), Bb[j]? = some y → w.cell? ⟨ab, ao + j, none⟩ = some (.int .u8 (y : Int)) := by
          rcases a0.1 with e | ⟨ab, ao, e, h⟩
          · rw [e] at hx; simp at hx
          · exact ⟨ab, ao, e, h⟩
        subst ha
        have cx0 := hcB i x hx
        have hlt := World.block_lt_of_cell? w ⟨ab, ao + i, none⟩ cx0
        have cx : wr.cell? ⟨ab, ao + i, none⟩ = some (.int .u8 (x : Int)) := (hbel.cell (p := ⟨ab, ao + i, none⟩) (by rw [← a0.2.2.2.2.2.2.2]; exact hlt)).trans cx0
        have htake : Bb.take (i + 1) = Bb.take i ++ [x] := by rw [List.take_add_one, hx]; rfl
        rcases hq with rfl | ⟨rfl, h1, h2⟩
        · obtain ⟨zi, hzi, hzo, hzn⟩ := hinf.stands (N := N) (by omega) hcl
          have hput := put_any x hx256 wr hinf (by omega)
          rw [← htake] at hput
          have AP : Aside (i + gk = L + 1 ∧ c.out.length ≤ N ∧ Below B w wr ∧ i < L ∧ Stands (Bb.take i) N zi ∧ ¬ Over zi ∧ Ob wr (B + 4) u4 c.out ∧ Bb.take (i + 1) = Bb.take i ++ [x] ∧ (Bb.take i).length = i) := ⟨hig, hcl, hbel, hi, hzi, hzn, hob, htake, by rw [List.length_take]; omega⟩
          clear hI hig hcl hbel hiL hi hob hinf htake hx256 hx hcB cx0 hlt hzi hzo hzn a0
          go_upto_region 7 with (go_at_call 8; refine hput.mono ?_; rintro e2 w2 ⟨rfl, hf2, c2, q2, hinf2, hpd2⟩)
          have hnx := next_any w2 hinf2 c.out hpd2 (by have := AP.out; have := A.out; omega)
          have A2 : Aside (Ob w2 (B + 4) u4 c.out ∧ Below B w w2) := ⟨AP.out.2.2.2.2.2.2.1.fm hf2 (Nat.le_refl _), AP.out.2.2.1.trans (hf2.below (by have := AP.out.2.2.1.size; have := A.out; omega))⟩
          clear hput hinf2 hpd2 hf2 cx t1 t1'
          go_wp2_with (go_at_call 9; refine hnx.mono ?_; rintro e3 w3 ⟨v10, v11, c3, q3, rfl, hf3, hinf3, hn3⟩)
          have A3 : Aside (Ob w3 (B + 4) u4 c.out ∧ Below B w w3 ∧ Inf w3 B D b R (Bb.take (i + 1)) M c3 q3 ∧ Nx c.out v10 v11 c3 q3) := ⟨A2.out.1.fm hf3 (Nat.le_refl _), A2.out.2.trans (hf3.below (by have := A2.out.2.size; have := A.out; omega)), hinf3, hn3⟩
          clear hnx hf3 hinf3 hn3
          go_loopg [4, 5, 10, 11] (N + 1 - c.out.length) (fun gg s4 s5 s10 s11 wr => s5 = .int .i64 ((i : Int) + 1) ∧ Aside (∃ o c q, Ob wr (B + 4) s4 o ∧ o.length ≤ N ∧ Inf wr B D b R (Bb.take (i + 1)) M c q ∧ Nx o s10 s11 c q ∧ Below B w wr ∧ o.length + gg = N + 1))
          case atStart => exact ⟨rfl, c.out, c3, q3, A3.out.1, AP.out.2.1, A3.out.2.2.1, A3.out.2.2.2, A3.out.2.1, by have := AP.out.2.1; omega⟩
          case round =>
            obtain ⟨rfl, hrel2⟩ := hrel
            obtain ⟨o, c5, q5, hob5, hol, hinf5, hn5, hbel5, hog⟩ := hrel2.out
            obtain ⟨va, vc, hv, hvc, hlies5, hvn⟩ := hob5.shape
            rcases hn5 with ⟨y, rfl, rfl, hpd⟩ | ⟨rfl, rfl, hq5, hc5⟩
            · obtain ⟨ln, hln⟩ : ∃ ln, o.length = ln := ⟨_, rfl⟩
              rw [hln] at hv
              subst hv
              have a0 := A.out
              by_cases hfull : n ≤ (ln : Int)
              · have t2 : (n ≤ (ln : Int)) = True := eq_true hfull
                have hlN : o.length = N := by omega
                have ap := AP.out
                have hc5o : c5.out.take N = o ∧ N < c5.out.length := by
                  rcases hpd with ⟨y2, _, e⟩ | ⟨_, e⟩
                  · rw [e, List.append_assoc, ← hlN]; simp
                  · rw [e, ← hlN]; simp
                have hr5 := hinf5.1
                rw [ap.2.2.2.2.2.2.2.1] at hr5
                obtain ⟨e, he1, he2, he3, he4⟩ := too_much hr5 (by omega) hc5o.2 ap.2.2.2.2.1 ap.2.2.2.2.2.1
                have hep := he1.pos
                rw [List.length_append, List.length_singleton, ap.2.2.2.2.2.2.2.2] at hep
                rw [ap.2.2.2.2.2.2.2.2] at he4
                have hat := over_at (L := L) (Or.inr ⟨62, he2⟩) he4 hep
                rw [← ap.2.2.2.2.2.2.2.1] at he1
                have hwy : whyC e = 62 := by unfold whyC; rw [he2]
                have AE : Aside (Stands Bb N e ∧ e.out = o ∧ atC L e = i ∧ whyC e = 62 ∧ Ob wr (B + 4) (.slice va ln vc) o ∧ Below B w wr ∧ w.heap.size = B ∧ i < L) := ⟨he1.of_take (Or.inr ⟨62, he2⟩), by rw [he3]; exact hc5o.1, hat, hwy, hob5, hbel5, a0.2.2.2.2.2.2.2, ap.2.2.2.1⟩
                clear hrel2 hob5 hol hinf5 hbel5 hog hlies5 hpd a0 ap hc5o hr5 he1 he2 he3 he4 hep hat hwy hlN hfull hvc hvn
                go_wp2_with fail
                go_ret3
                have ae := AE.out
                refine ⟨.slice va ln vc, e, ?_, ae.1, ?_, ?_⟩
                · rw [ae.2.2.1, ae.2.2.2.1, show min (i + 1) L = i + 1 by omega]
                  rfl
                · rw [ae.2.1, ae.2.2.2.2.2.2.1]; exact ae.2.2.2.2.1
                · rw [ae.2.2.2.2.2.2.1]; exact ae.2.2.2.2.2.1
              · have t2 : (n ≤ (ln : Int)) = False := eq_false hfull
                have hlN : o.length < N := by omega
                obtain ⟨H, hH⟩ : ∃ H, wr.heap.size = H := ⟨_, rfl⟩
                have bal : Below wr.heap.size wr (wr.alloc (.cells #[.int .u8 (y : Int)] 5)) := (Below.refl _ wr).alloc (Nat.le_refl _) _
                have hobA := hob5.below bal (Nat.le_refl _)
                have hlA : Lies (wr.alloc (.cells #[.int .u8 (y : Int)] 5)) (some ⟨H, 0, none⟩) [y] := Or.inr ⟨H, 0, rfl, fun k z hz => by
                  have hk : k = 0 := by have := (List.getElem?_eq_some_iff.1 hz).1; simp at this; exact this
                  subst hk
                  cases hz
                  rw [← hH, Nat.zero_add, (Cells.new wr #[.int .u8 (y : Int)] 5).cell 0]
                  rfl⟩
                have AQ : Aside (Inf wr B D b R (Bb.take (i + 1)) M c5 q5 ∧ Below B w wr ∧ o.length + gk = N + 1 ∧ Pd (o ++ [y]) c5 q5 ∧ o.length < N ∧ o.length = ln ∧ Kp B wr (wr.alloc (.cells #[.int .u8 (y : Int)] 5)) ∧ Below B wr (wr.alloc (.cells #[.int .u8 (y : Int)] 5))) := ⟨hinf5, hbel5, hog, hpd, hlN, hln, Kp.of_below bal (Nat.le_refl _), bal.mono (by have := hbel5.size; omega)⟩
                have hlnb : ln + 1 ≤ 140737488355328 := by omega
                have AL : Aside (o.length + 1 ≤ 140737488355328) := (show o.length + 1 ≤ 140737488355328 by omega)
                clear hrel2 hob5 hol hinf5 hbel5 hog hlies5 hpd a0 bal hlN hfull hvc hvn hlnb
                go_upto_region 9 with (at_builtin; refine wpList_ob B _ rfl (.tmp 42) (.tmp 44) rfl (B + 4) (.slice va ln vc) o (by rfl) hobA (Nat.le_refl _) (some ⟨H, 0, none⟩) [y] 1 1 rfl (by rfl) (by intro h; cases h) hlA AL.out ?_; intro v6 w6 hap)
                have aq := AQ.out
                have hinf6 := (aq.1.kp aq.2.2.2.2.2.2.1).kp hap.kp
                have hnx6 := next_any w6 hinf6 (o ++ [y]) aq.2.2.2.1 (by have := A.out; rw [List.length_append, List.length_singleton]; omega)
                have A6 : Aside (Ob w6 (B + 4) v6 (o ++ [y]) ∧ Below B w w6) := ⟨hap.ob_, (aq.2.1.trans aq.2.2.2.2.2.2.2).trans (hap.bel.mono (by omega))⟩
                clear aq hinf6 hap hobA hlA
                go_wp2_with (go_at_call 9; refine hnx6.mono ?_; rintro e7 w7 ⟨x10, x11, c7, q7, rfl, hf7, hinf7, hn7⟩)
                have aq := AQ.out
                have a6 := A6.out
                go_roundg (N + 1 - (ln + 1))
                case measure => omega
                case rel => exact ⟨rfl, o ++ [y], c7, q7, a6.1.fm hf7 (Nat.le_refl _), by rw [List.length_append, List.length_singleton]; omega, hinf7, hn7, a6.2.trans (hf7.below (by have := a6.2.size; have := A.out; omega)), by rw [List.length_append, List.length_singleton]; omega⟩
            · have ap := AP.out
              have hnx : q5 = .want ∨ (q5 = .over ∧ 1 ≤ i + 1 ∧ 8 * (i + 1 - 1) < c5.pos) := by
                rcases hq5 with rfl | rfl
                · refine Or.inr ⟨rfl, by omega, ?_⟩
                  have h1 := hinf5.stands_over (N := N) (by have := A.out; omega) (by rw [hc5]; exact hol)
                  rw [ap.2.2.2.2.2.2.2.1] at h1
                  have h2 := over_pos ap.2.2.2.2.1 ap.2.2.2.2.2.1 h1 hinf5.over_st
                  rw [ap.2.2.2.2.2.2.2.2] at h2
                  exact h2
                · exact Or.inl rfl
              have AZ : Aside (∃ c q, Ob wr (B + 4) u4 c.out ∧ c.out.length ≤ N ∧ Inf wr B D b R (Bb.take (i + 1)) M c q ∧ Below B w wr ∧ i + 1 ≤ L ∧ (q = .want ∨ (q = .over ∧ 1 ≤ i + 1 ∧ 8 * (i + 1 - 1) < c.pos))) := ⟨c5, q5, by rw [hc5]; exact hob5, by rw [hc5]; exact hol, hinf5, hbel5, ap.2.2.2.1, hnx⟩
              clear hrel2 hob5 hol hinf5 hbel5 hog hlies5 hvc hvn ap hnx hq5 hc5 hv
              go_wp2_with fail
              have ap := AP.out
              go_roundg (L + 1 - (i + 1))
              case measure => omega
              case rel => exact ⟨i + 1, by go_num, by go_num, by omega, AZ.out⟩
        · have hput := put_shut x wr hinf (by simp)
          have AP : Aside (WhMid Bb L N M B D b R w u4 (.int .i64 (i : Int)) wr) := ⟨i, c, .over, rfl, hob, hcl, hinf, hbel, hiL, Or.inr ⟨rfl, h1, h2⟩⟩
          clear hI hig hcl hbel hiL hi hob hinf htake hx256 hx hcB cx0 hlt a0 h1 h2
          go_wp2_with (go_at_call 8; refine hput.mono ?_; rintro e2 w2 ⟨rfl, rfl⟩)
          go_meet
          case rel => exact AP.out
      · have hiL' : i = L := by omega
        have AP : Aside (WhMid Bb L N M B D b R w u4 (.int .i64 (i : Int)) wr) := ⟨i, c, q, rfl, hob, hcl, hinf, hbel, hiL, by
          rcases hq with rfl | hq
          · exact Or.inl ⟨rfl, hiL'⟩
          · exact Or.inr hq⟩
        have t1 : ((i : Int) < (L : Int)) = False := eq_false (by omega)
        have t1' : (i < L) = False := eq_false hi
        clear hI hig hcl hbel hiL hi hob hinf hq hiL'
        go_wp2_with fail
        go_meet
        case rel => exact AP.out
  case rest =>
    obtain ⟨i, c, q, rfl, hob, hcl, hinf, hbel, hiL, hq⟩ := hcut
    have a0 := A.out
    rcases hq with ⟨rfl, rfl⟩ | ⟨rfl, h1, h2⟩
    · have hend := end_open wc hinf
      obtain ⟨z, hz1, hz2, hz3⟩ := hinf.stands (N := N) (by omega) hcl
      have hop := open_at (L := i) hz3
      rw [show Bb.take i = Bb by rw [List.take_of_length_le]; omega] at hz1
      have AE : Aside (Ob wc (B + 4) u4 c.out ∧ Below B w wc ∧ Stands Bb N z ∧ z.out = c.out ∧ atC i z = i ∧ whyC z = 1 ∧ w.heap.size = B ∧ B + 4 ≤ wc.heap.size) := ⟨hob, hbel, hz1, hz2, hop.1, hop.2.1, a0.2.2.2.2.2.2.2, hinf.lt⟩
      obtain ⟨va, vc, hv, _⟩ := hob.shape
      clear hob hcl hinf hbel hiL hz1 hz2 hz3 hop a0
      subst hv
      go_wp2_with (first
        | (go_at_call 10; refine hend.mono ?_; rintro e2 w2 ⟨rfl, hinf2, hf2⟩
           have hre := reason_c w2 hinf2)
        | (go_at_call 11; refine hre.mono ?_; rintro e3 w3 ⟨rfl, rfl⟩))
      go_ret3
      have ae := AE.out
      refine ⟨.slice va c.out.length vc, z, ?_, ae.2.2.1, ?_, ?_⟩
      · rw [ae.2.2.2.2.1, ae.2.2.2.2.2.1, show min (i + 1) i = i by omega]
        rfl
      · rw [ae.2.2.2.1, ae.2.2.2.2.2.2.1]; exact ae.1.fm hf2 (Nat.le_refl _)
      · rw [ae.2.2.2.2.2.2.1]; exact ae.2.1.trans (hf2.below (by omega))
    · have hend := end_shut wc hinf (by simp)
      have hre := reason_c wc hinf
      have hst := hinf.stands_over (N := N) (by omega) hcl
      have hov := hinf.over_st
      have hpos := hst.pos
      rw [List.length_take] at hpos
      obtain ⟨i', rfl⟩ : ∃ i', i = i' + 1 := ⟨i - 1, by omega⟩
      have hat := over_at (L := L) hov (i := i') (by omega) (by omega)
      have AE : Aside (Ob wc (B + 4) u4 c.out ∧ Below B w wc ∧ Stands Bb N c ∧ atC L c = i' ∧ w.heap.size = B ∧ i' + 1 ≤ L) := ⟨hob, hbel, hst.of_take hov, hat, a0.2.2.2.2.2.2.2, hiL⟩
      obtain ⟨va, vc, hv, _⟩ := hob.shape
      have hwy : whyM .over c = whyC c := rfl
      rw [hwy] at hre
      obtain ⟨y, hy⟩ : ∃ y, whyC c = y := ⟨_, rfl⟩
      rw [hy] at hre
      have AY : Aside (whyC c = y) := hy
      clear hob hcl hinf hbel hiL hst hov hpos hat a0 h1 h2 hwy hy
      subst hv
      go_wp2_with (first
        | (go_at_call 10; refine hend.mono ?_; rintro e2 w2 ⟨rfl, rfl⟩)
        | (go_at_call 11; refine hre.mono ?_; rintro e3 w3 ⟨rfl, rfl⟩))
      go_ret3
      have ae := AE.out
      refine ⟨.slice va c.out.length vc, c, ?_, ae.2.2.1, ?_, ?_⟩
      · rw [ae.2.2.2.1, AY.out, show min (i' + 1) L = i' + 1 by omega]
        rfl
      · rw [ae.2.2.2.2.1]; exact ae.1
      · rw [ae.2.2.2.2.1]; exact ae.2.1
end Go.Proofs.YtikdpnpkmmmacabDoor

/-
  What the law's first look comes to: the document's example.
-/
namespace Go.Proofs.YtikdpnpkmmmacabDoor
open Go.RowKit
set_option linter.unusedVariables false
def iter (bs : List Bool) (most : Nat) : Nat → Cfg → Cfg
  | 0, c => c
  | k + 1, c => match step bs most c with
    | some d => iter bs most k d
    | none => c
theorem runs_iter {bs : List Bool} {most : Nat} : ∀ (k : Nat) (c : Cfg), Runs bs most c (iter bs most k c)
  | 0, c => Runs.refl c
  | k + 1, c => by
    unfold iter
    cases e : step bs most c with
    | none => exact Runs.refl c
    | some d => exact Runs.cons e (runs_iter k d)
def exA : List Nat := [75, 76, 74, 6, 0, 9]
theorem exA_iter : iter (allb exA) 99 12 c0 = ⟨.done, 34, [97, 98, 99], [1, 2, 3]⟩ := by kernel_rfl
theorem exA_st : Stands exA 99 ⟨.done, 34, [97, 98, 99], [1, 2, 3]⟩ := ⟨by have := runs_iter (bs := allb exA) (most := 99) 12 c0; rwa [exA_iter] at this, rfl⟩
set_option maxHeartbeats 1000000 in
theorem awake_c (w : World) (ht : Tabs w) : Calls Tryd.prog 6 #[] w fun e w' => e = .returned (.bool true) ∧ Below w.heap.size w w' := by
  obtain ⟨w1, hw1⟩ : ∃ w1, w1 = w.alloc (.cells #[.int .u8 75, .int .u8 76, .int .u8 74, .int .u8 6, .int .u8 0, .int .u8 9] 5) := ⟨_, rfl⟩
  have b1 : Below w.heap.size w w1 := by rw [hw1]; exact (Below.refl _ w).alloc (Nat.le_refl _) _
  have hl : Lies w1 (some ⟨w.heap.size, 0, none⟩) exA := Or.inr ⟨w.heap.size, 0, rfl, fun i x hx => by
    rw [Nat.zero_add, hw1, (Cells.new w _ 5).cell]
    match i, hx with
    | 0, hx => cases hx; rfl
    | 1, hx => cases hx; rfl
    | 2, hx => cases hx; rfl
    | 3, hx => cases hx; rfl
    | 4, hx => cases hx; rfl
    | 5, hx => cases hx; rfl⟩
  have hwh := whole_c w1 (ht.below b1 (by have := ht.lt; omega)) (some ⟨w.heap.size, 0, none⟩) exA 6 6 99 hl rfl (by decide) (by unfold Oct exA; decide) (by decide)
  have A1 : Aside (Below w.heap.size w w1) := b1
  rw [hw1] at hwh
  clear b1 hl ht
  go_enter Tryd.func6, Tryd.ntmps6
  go_upto_region 2 with (go_at_call 4; refine hwh.mono ?_; rintro e2 w2 ⟨vo, z, he, hz, hob, hb2⟩
                         have hz2 := hz.one exA_st
                         subst hz2
                         obtain rfl := (show e2 = .returned (.tuple #[vo, .int .i64 5, .int .i64 0]) from he))
  rw [← hw1] at hob hb2
  obtain ⟨va, vc, hv, hvc, hlies, hvn⟩ := hob.shape
  obtain ⟨g, off, hva⟩ : ∃ g off, va = some ⟨g, off, none⟩ := by
    rcases hlies with e | ⟨g, off, e, _⟩
    · cases e
    · exact ⟨g, off, e⟩
  subst hva
  have hconv : (convert 22 9 (.slice (some ⟨g, off, none⟩) 3 vc)).run Tryd.prog w2 = .ok (.string ⟨#[97, 98, 99]⟩) w2 := by
    refine run_convert_bytes_back w2 22 9 5 ⟨g, off, none⟩ vc [97, 98, 99] Tryd.underlying22 Tryd.underlying5 Tryd.underlying9 fun j hj => ?_
    rcases hlies with e | ⟨g', off', e, hc⟩
    · cases e
    · cases e
      have hadd : (⟨g, off, none⟩ : Addr).add j = ⟨g, off + j, none⟩ := by unfold Addr.add; split <;> simp_all
      rw [hadd]
      match j, hj with
      | 0, _ => exact hc 0 97 rfl
      | 1, _ => exact hc 1 98 rfl
      | 2, _ => exact hc 2 99 rfl
  have A2 : Aside (Below w.heap.size w w2) := A1.out.trans (hb2.mono A1.out.size)
  have hv' : vo = .slice (some ⟨g, off, none⟩) 3 vc := hv
  subst hv'
  clear hob hb2 hvc hlies hvn hz hwh hw1
  go_wp2_with fail
  first | go_ret | go_ret2
  exact ⟨rfl, A2.out⟩
end Go.Proofs.YtikdpnpkmmmacabDoor

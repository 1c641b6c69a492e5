/-
  QuotedSoft's walk.
-/
import Derived.Test.YtapljkenmgdkmaaWholeCore
import Derived.Test.YtapljkenmgdkmaaSof
namespace Go.Proofs.Ytapljkenmgdkmaa
open Go.RowKit
set_option linter.unusedVariables false
set_option maxRecDepth 20000 in
set_option maxHeartbeats 2000000 in
theorem soft_core (w : World) (a a' : Option Addr) (l t : List Nat) (L C M C' : Nat) (hl : Lies w a l) (hL : l.length = L) (hLb : L ≤ 2000000) (ho : Oct l) (hm : Lies w a' t) (hM : t.length = M) (hMb : M ≤ 2000000) (ho' : Oct t) (hLC : L ≤ C) (haz : a = none → L = 0 ∧ C = 0) :
    Calls Try.prog 8 #[.slice a L C, .slice a' M C'] w fun e w' => e = .returned (.bool true) ∧ Below w.heap.size w w' := by
  obtain ⟨B, hB⟩ : ∃ B, w.heap.size = B := ⟨_, rfl⟩
  rw [hB]
  have hwr := write_c w a l L C 76 hl hL (by omega) hLC ho haz
  rw [show wid 76 = 76 by decide] at hwr
  have hrun := run_wri 76 l ho 0 [] (fun h => absurd rfl h)
  rw [List.nil_append] at hrun
  have hlen := wri_len 76 l 0
  have hoct := wri_oct 76 l ho 0
  obtain ⟨W, hW⟩ : ∃ W, wri 76 0 l = W := ⟨_, rfl⟩
  rw [hW] at hwr hrun hlen hoct
  obtain ⟨N, hN⟩ : ∃ N, W.length = N := ⟨_, rfl⟩
  have A : Aside (Lies w a l ∧ l.length = L ∧ L ≤ 2000000 ∧ w.heap.size = B ∧ Lies w a' t ∧ t.length = M ∧ M ≤ 2000000 ∧ Oct t) := ⟨hl, hL, hLb, hB, hm, hM, hMb, ho'⟩
  have AW : Aside (W.length = N ∧ N ≤ 6 * L ∧ Oct W ∧ run .no [] W = some (.no, [], l)) := ⟨hN, by omega, hoct, hrun⟩
  clear hl hL hLb ho hm hM hMb ho' hLC haz hrun hlen hoct hW hN
  go_enter Try.func8, Try.ntmps8
  go_upto_region 2 with (go_at_call 19; refine hwr.mono ?_; rintro e1 w1 ⟨v1, rfl, hob1, hb1⟩)
  clear hwr
  have aw := AW.out
  obtain ⟨va, vc, hv, hvc, hlies1, hvn⟩ := hob1.shape
  rw [aw.1] at hv
  subst hv
  rw [hB] at hb1
  obtain ⟨B2, hB2⟩ : ∃ B2, w1.heap.size = B2 := ⟨_, rfl⟩
  have A1 : Aside (Below B w w1 ∧ Lies w1 va W ∧ B ≤ B2 ∧ w1.heap.size = B2) := ⟨hb1, hlies1, by have := hob1.le; omega, hB2⟩
  clear aw hob1 hb1 hvc hlies1 hvn hB hB2
  go_wp2_with fail
  go_loopg [6, 7, 8] N (fun gg s6 s7 s8 wr => ∃ i : Nat, s7 = .int .i64 (i : Int) ∧ Aside (i + gg = N ∧ ∃ cc, Ob wr B2 s6 cc ∧ run .no [] cc = run .no [] (W.take i) ∧ Oct cc ∧ cc.length ≤ 4 * i ∧ Below B2 w1 wr))
  case atStart =>
    have a1 := A1.out
    exact ⟨0, rfl, by omega, [], Ow.nil (by omega), by simp, fun x hx => by simp at hx, by simp, Below.refl _ _⟩
  case round =>
    obtain ⟨i, rfl, hI⟩ := hrel
    obtain ⟨hig, cc, hob, hrun, hoc, hcl, hbel⟩ := hI.out
    have a0 := A.out
    have a1 := A1.out
    have aw := AW.out
    obtain ⟨ca, c9, hv, hvc, hlies, hvn⟩ := hob.shape
    obtain ⟨ln, hln⟩ : ∃ ln, cc.length = ln := ⟨_, rfl⟩
    rw [hln] at hv
    subst hv
    have hiI : (i : Int) < 100000000 := by omega
    by_cases hi : i < N
    · have t1 : ((i : Int) < (N : Int)) = True := eq_true (by omega)
      have t1' : (i < N) = True := eq_true hi
      obtain ⟨x, hx⟩ : ∃ x, W[i]? = some x := ⟨_, List.getElem?_eq_getElem (by omega)⟩
      have hx256 := aw.2.2.1 x (List.mem_of_getElem? hx)
      have hlW : Lies wr va W := a1.2.1.below (by rw [a1.2.2.2]; exact hbel)
      obtain ⟨ab, ao, ha⟩ := hlW.some' (by omega)
      subst ha
      have cx := hlW.at' hx
      obtain ⟨tb, htb⟩ : ∃ tb, inb W i = tb := ⟨_, rfl⟩
      obtain ⟨md, hmd⟩ : ∃ md : Nat, (M = 0 → md = 0) ∧ (0 < M → ∃ y, t[i % M]? = some y ∧ y % 3 = md) := by
        by_cases h0 : M = 0
        · exact ⟨0, fun _ => rfl, fun h => by omega⟩
        · have hlt : i % M < t.length := by rw [a0.2.2.2.2.2.1]; exact Nat.mod_lt _ (by omega)
          exact ⟨t[i % M] % 3, fun h => absurd h h0, fun _ => ⟨_, List.getElem?_eq_getElem hlt, rfl⟩⟩
      obtain ⟨q1, hq1⟩ : ∃ q1, decide (md = 1 ∧ tb = false ∧ 32 < x) = q1 := ⟨_, rfl⟩
      obtain ⟨q2, hq2⟩ : ∃ q2, decide (md = 2 ∧ tb = false ∧ 32 < x) = q2 := ⟨_, rfl⟩
      have hstep := run_soft_step aw.2.2.2 hx hrun q1 q2 (by
        rintro (h | h)
        · rw [← hq1] at h
          have := of_decide_eq_true h
          exact ⟨by rw [htb]; exact this.2.1, this.2.2⟩
        · rw [← hq2] at h
          have := of_decide_eq_true h
          exact ⟨by rw [htb]; exact this.2.1, this.2.2⟩)
      have AX : Aside (i + gk = N ∧ i < N ∧ W[i]? = some x ∧ x < 256 ∧ Ob wr B2 (.slice ca ln c9) cc ∧ run .no [] (cc ++ inz q1 q2 ++ [x]) = run .no [] (W.take (i + 1)) ∧ Oct cc ∧ cc.length ≤ 4 * i ∧ Below B2 w1 wr ∧ B2 ≤ wr.heap.size ∧ N ≤ 12000000 ∧ Lies wr (some ⟨ab, ao, none⟩) W) := ⟨hig, hi, hx, hx256, hob, hstep, hoc, hcl, hbel, hob.le, by omega, hlW⟩
      have AT : Aside (inb W i = tb) := htb
      have AM : Aside (((M = 0 → md = 0) ∧ (0 < M → ∃ y, t[i % M]? = some y ∧ y % 3 = md)) ∧ Lies wr a' t ∧ Oct t ∧ t.length = M ∧ M ≤ 2000000 ∧ md < 3) := ⟨hmd, a0.2.2.2.2.1.below (by rw [a0.2.2.2.1]; exact a1.1.trans (hbel.mono a1.2.2.1)), a0.2.2.2.2.2.2.2, a0.2.2.2.2.2.1, a0.2.2.2.2.2.2.1, by
        by_cases h0 : M = 0
        · rw [hmd.1 h0]; omega
        · obtain ⟨y, _, e⟩ := hmd.2 (by omega); omega⟩
      have AQ : Aside (decide (md = 1 ∧ tb = false ∧ 32 < x) = q1 ∧ decide (md = 2 ∧ tb = false ∧ 32 < x) = q2) := ⟨hq1, hq2⟩
      have ht : ∀ k : Nat, (k = 1 ∨ k = 2) → True := fun _ _ => trivial
      clear hI hig hob hrun hoc hcl hbel a0 a1 aw hvc hlies hvn hln hi hx hx256 hlW htb hmd hq1 hq2 hstep ht
      go_upto_region 6 with fail
      go_cut [8] from 14 to 112 (fun s8 wc => s8 = .bool tb ∧ wc = wr)
      case first =>
        have ax := AX.out
        have aw := AW.out
        have at' := AT.out
        have hlW := ax.2.2.2.2.2.2.2.2.2.2.2
        have hiN := ax.2.1
        by_cases h0 : i = 0
        · have e : tb = false := by rw [← at', h0]; simp [inb]
          subst e
          have s1 : ((1 : Int) ≤ (i : Int)) = False := eq_false (by omega)
          have s2 : ((2 : Int) ≤ (i : Int)) = False := eq_false (by omega)
          clear ax aw at' hlW h0 hiN
          go_wp2_with fail
          go_meet
          exact ⟨rfl, rfl⟩
        have s1 : ((1 : Int) ≤ (i : Int)) = True := eq_true (by omega)
        obtain ⟨j, hj⟩ : ∃ j, i - 1 = j := ⟨_, rfl⟩
        have hjI : (i : Int) - 1 = (j : Int) := by omega
        have hjb : (j : Int) < 100000000 := by omega
        have hjN : (j : Int) < (N : Int) := by omega
        have hjw : IntKind.i64.wrap (j : Int) = (j : Int) := wr_id _ (by omega) (by omega)
        obtain ⟨y, hy⟩ : ∃ y, W[j]? = some y := ⟨_, List.getElem?_eq_getElem (by omega)⟩
        have cy := hlW.at' hy
        by_cases hy61 : y = 61
        · subst hy61
          have e : tb = true := by rw [← at']; unfold inb; rw [hj, decide_eq_true ⟨by omega, hy⟩]; rfl
          subst e
          clear ax aw at' hlW h0 hiN hj hy hjw
          go_wp2_with fail
          go_meet
          exact ⟨rfl, rfl⟩
        have uy : ((y : Int) == 61) = false := by rw [beq_eq_false_iff_ne]; omega
        have e1 : decide (1 ≤ i ∧ W[i - 1]? = some 61) = false := decide_eq_false (by rw [hj, hy]; rintro ⟨_, h⟩; exact hy61 (by simpa using h))
        by_cases h1 : i = 1
        · have e : tb = false := by rw [← at']; unfold inb; rw [e1, decide_eq_false (by omega)]; rfl
          subst e
          have s2 : ((2 : Int) ≤ (i : Int)) = False := eq_false (by omega)
          clear ax aw at' hlW h0 hiN hj hy hjw h1 e1 hy61
          go_wp2_with fail
          go_meet
          exact ⟨rfl, rfl⟩
        have s2 : ((2 : Int) ≤ (i : Int)) = True := eq_true (by omega)
        obtain ⟨k, hk⟩ : ∃ k, i - 2 = k := ⟨_, rfl⟩
        have hkI : (i : Int) - 2 = (k : Int) := by omega
        have hkb : (k : Int) < 100000000 := by omega
        have hkN : (k : Int) < (N : Int) := by omega
        obtain ⟨v, hv⟩ : ∃ v, W[k]? = some v := ⟨_, List.getElem?_eq_getElem (by omega)⟩
        have cv := hlW.at' hv
        by_cases hv61 : v = 61
        · subst hv61
          by_cases hy13 : y = 13
          · subst hy13
            have e : tb = false := by rw [← at']; unfold inb; rw [e1, decide_eq_false (by rw [hk, hj, hy]; simp)]; rfl
            subst e
            clear ax aw at' hlW h0 hiN hj hy hjw h1 e1 hy61 hk hv
            go_wp2_with fail
            go_meet
            exact ⟨rfl, rfl⟩
          · have e : tb = true := by rw [← at']; unfold inb; rw [e1, decide_eq_true (by rw [hk, hj, hy, hv]; exact ⟨by omega, rfl, by simpa using hy13⟩)]; rfl
            subst e
            have uy2 : ((y : Int) != 13) = true := by rw [bne_iff_ne]; omega
            have uy3 : ((y : Int) == 13) = false := by rw [beq_eq_false_iff_ne]; omega
            clear ax aw at' hlW h0 hiN hj hy hjw h1 e1 hy61 hk hv hy13
            go_wp2_with fail
            go_meet
            exact ⟨rfl, rfl⟩
        · have e : tb = false := by rw [← at']; unfold inb; rw [e1, decide_eq_false (by rw [hk, hv]; rintro ⟨_, h, _⟩; exact hv61 (by simpa using h))]; rfl
          subst e
          have uv : ((v : Int) == 61) = false := by rw [beq_eq_false_iff_ne]; omega
          clear ax aw at' hlW h0 hiN hj hy hjw h1 e1 hy61 hk hv hv61
          go_wp2_with fail
          go_meet
          exact ⟨rfl, rfl⟩
      case rest =>
        obtain ⟨rfl, hw⟩ := hcut
        have hw := hw.symm
        subst hw
        clear AT
        go_upto_region 7 with fail
        go_cut [74] from 14 to 112 (fun s74 wc => s74 = .bool q1 ∧ wc = wr)
        case first =>
          by_cases hM0 : M = 0
          · have s1 : ((0 : Int) < (M : Int)) = False := eq_false (by omega)
            have s1' : (0 < M) = False := eq_false (by omega)
            have e : q1 = false := by rw [← AQ.out.1]; exact decide_eq_false (by rw [AM.out.1.1 hM0]; omega)
            clear hM0
            go_wp2_with fail
            go_meet
            exact ⟨by rw [e], rfl⟩
          have s1 : ((0 : Int) < (M : Int)) = True := eq_true (by omega)
          have s1' : (0 < M) = True := eq_true (by omega)
          have am := AM.out
          obtain ⟨y, hy, hymd⟩ := am.1.2 (by omega)
          obtain ⟨r, hr⟩ : ∃ r, i % M = r := ⟨_, rfl⟩
          rw [hr] at hy
          have hrM : r < M := by rw [← hr]; exact Nat.mod_lt _ (by omega)
          obtain ⟨tb2, to2, hta⟩ := am.2.1.some' (by omega)
          subst hta
          have cy := am.2.1.at' hy
          have hy256 := am.2.2.1 y (List.mem_of_getElem? hy)
          have hrI : (i : Int).tmod (M : Int) = (r : Int) := by rw [Int.tmod_eq_emod_of_nonneg (by omega), ← Int.natCast_emod, hr]
          have hrI2 : (r : Int) < (M : Int) := by omega
          have hrb : (r : Int) < 100000000 := by omega
          have hM0' : ((M : Int) == 0) = false := by rw [beq_eq_false_iff_ne]; omega
          have hM0'' : (M : Int) ≠ 0 := by omega
          have hMb : (M : Int) < 100000000 := by omega
          have hmI : (y : Int).tmod 3 = (md : Int) := by rw [Int.tmod_eq_emod_of_nonneg (by omega)]; omega
          have hmdb : (md : Int) < 3 := by omega
          by_cases hmk : md = 1
          · subst hmk
            cases tb with
            | true =>
              have e : q1 = false := by rw [← AQ.out.1]; exact decide_eq_false (by simp)
              clear am hy hymd hr hrM hy256 hM0
              go_wp2_with fail
              go_meet
              exact ⟨by rw [e], rfl⟩
            | false =>
              by_cases hx32 : 32 < x
              · have s5 : ((32 : Int) < (x : Int)) = True := eq_true (by omega)
                have e : q1 = true := by rw [← AQ.out.1]; exact decide_eq_true ⟨rfl, rfl, hx32⟩
                clear am hy hymd hr hrM hy256 hM0 hx32
                go_wp2_with fail
                go_meet
                exact ⟨by rw [e], rfl⟩
              · have s5 : ((32 : Int) < (x : Int)) = False := eq_false (by omega)
                have e : q1 = false := by rw [← AQ.out.1]; exact decide_eq_false (by omega)
                clear am hy hymd hr hrM hy256 hM0 hx32
                go_wp2_with fail
                go_meet
                exact ⟨by rw [e], rfl⟩
          · have s4 : ((md : Int) == 1) = false := by rw [beq_eq_false_iff_ne]; omega
            have e : q1 = false := by rw [← AQ.out.1]; exact decide_eq_false (by omega)
            clear am hy hymd hr hrM hy256 hM0 hmk
            go_wp2_with fail
            go_meet
            exact ⟨by rw [e], rfl⟩
        case rest =>
          obtain ⟨rfl, hw⟩ := hcut
          have hw := hw.symm
          subst hw
          go_upto_if 74 with fail
          go_cut [6] from 14 to 112 (fun s6 wc => ∃ (a6 : Option Addr) (l6 c6 : Nat), s6 = .slice a6 l6 c6 ∧ Aside (Ob wc B2 s6 (cc ++ inz q1 false) ∧ Below B2 w1 wc ∧ Below B2 wr wc))
          case first =>
            cases q1 with
            | true =>
              obtain ⟨H2, hH2⟩ : ∃ H2, wr.heap.size = H2 := ⟨_, rfl⟩
              have bal : Below wr.heap.size wr (wr.alloc (.cells #[.int .u8 61, .int .u8 13, .int .u8 10] 5)) := (Below.refl _ wr).alloc (Nat.le_refl _) _
              have hobA : Ob (wr.alloc (.cells #[.int .u8 61, .int .u8 13, .int .u8 10] 5)) B2 (.slice ca ln c9) cc := Ow.below AX.out.2.2.2.2.1 bal (Nat.le_refl _)
              have hlA : Lies (wr.alloc (.cells #[.int .u8 61, .int .u8 13, .int .u8 10] 5)) (some ⟨H2, 0, none⟩) [61, 13, 10] := lies_new wr H2 hH2 [61, 13, 10] (0, 0)
              have AL : Aside (cc.length + [61, 13, 10].length ≤ 140737488355328) := (show _ ≤ _ by have := AX.out; simp; omega)
              have AB : Aside (Below B2 w1 (wr.alloc (.cells #[.int .u8 61, .int .u8 13, .int .u8 10] 5))) := AX.out.2.2.2.2.2.2.2.2.1.trans (bal.mono AX.out.2.2.2.2.1.le)
              clear cx
              go_wp2_with (at_builtin; refine wpList_ob _ rfl (.tmp 75) (.tmp 76) rfl B2 (.slice ca ln c9) cc (by rfl) hobA (some ⟨H2, 0, none⟩) [61, 13, 10] 3 3 rfl (by rfl) (by intro h; cases h) hlA AL.out ?_; intro v6 w6 hap)
              go_meet
              obtain ⟨a6, c6, hv6, _⟩ := Ob.shape hap.ow
              exact ⟨a6, _, c6, hv6, hap.ow, AB.out.trans hap.ap.bel, (bal.mono AX.out.2.2.2.2.1.le).trans hap.ap.bel⟩
            | false =>
              go_wp2_with fail
              go_meet
              have ax := AX.out
              exact ⟨ca, ln, c9, rfl, by simpa [inz] using ax.2.2.2.2.1, ax.2.2.2.2.2.2.2.2.1, Below.refl _ _⟩
          case rest =>
            obtain ⟨a6, l6, c6, rfl, hC⟩ := hcut
            have am := AM.out
            have ax := AX.out
            have A6 : Aside (Ob wc B2 (.slice a6 l6 c6) (cc ++ inz q1 false) ∧ Below B2 w1 wc ∧ B2 ≤ wc.heap.size) := ⟨hC.out.1, hC.out.2.1, hC.out.1.le⟩
            have ALt : Aside (Lies wc a' t) := A.out.2.2.2.2.1.below (by rw [A.out.2.2.2.1]; exact A1.out.1.trans (hC.out.2.1.mono A1.out.2.2.1))
            have hlW : Lies wc (some ⟨ab, ao, none⟩) W := A1.out.2.1.below (by rw [A1.out.2.2.2]; exact hC.out.2.1)
            have cx2 := hlW.at' ax.2.2.1
            have hxx : True := trivial
            clear hC am ax cx hlW
            have cx := cx2
            clear cx2
            go_upto_region 9 with fail
            go_cut [102] from 14 to 112 (fun s102 wd => s102 = .bool q2 ∧ wd = wc)
            case first =>
              by_cases hM0 : M = 0
              · have s1 : ((0 : Int) < (M : Int)) = False := eq_false (by omega)
                have s1' : (0 < M) = False := eq_false (by omega)
                have e : q2 = false := by rw [← AQ.out.2]; exact decide_eq_false (by rw [AM.out.1.1 hM0]; omega)
                clear hM0
                go_wp2_with fail
                go_meet
                exact ⟨by rw [e], rfl⟩
              have s1 : ((0 : Int) < (M : Int)) = True := eq_true (by omega)
              have s1' : (0 < M) = True := eq_true (by omega)
              have am := AM.out
              obtain ⟨y, hy, hymd⟩ := am.1.2 (by omega)
              obtain ⟨r, hr⟩ : ∃ r, i % M = r := ⟨_, rfl⟩
              rw [hr] at hy
              have hrM : r < M := by rw [← hr]; exact Nat.mod_lt _ (by omega)
              obtain ⟨tb2, to2, hta⟩ := am.2.1.some' (by omega)
              subst hta
              have cy := (ALt.out).at' hy
              have hy256 := am.2.2.1 y (List.mem_of_getElem? hy)
              have hrI : (i : Int).tmod (M : Int) = (r : Int) := by rw [Int.tmod_eq_emod_of_nonneg (by omega), ← Int.natCast_emod, hr]
              have hrI2 : (r : Int) < (M : Int) := by omega
              have hrb : (r : Int) < 100000000 := by omega
              have hM0' : ((M : Int) == 0) = false := by rw [beq_eq_false_iff_ne]; omega
              have hM0'' : (M : Int) ≠ 0 := by omega
              have hMb : (M : Int) < 100000000 := by omega
              have hmI : (y : Int).tmod 3 = (md : Int) := by rw [Int.tmod_eq_emod_of_nonneg (by omega)]; omega
              have hmdb : (md : Int) < 3 := by omega
              by_cases hmk : md = 2
              · subst hmk
                cases tb with
                | true =>
                  have e : q2 = false := by rw [← AQ.out.2]; exact decide_eq_false (by simp)
                  clear am hy hymd hr hrM hy256 hM0
                  go_wp2_with fail
                  go_meet
                  exact ⟨by rw [e], rfl⟩
                | false =>
                  by_cases hx32 : 32 < x
                  · have s5 : ((32 : Int) < (x : Int)) = True := eq_true (by omega)
                    have e : q2 = true := by rw [← AQ.out.2]; exact decide_eq_true ⟨rfl, rfl, hx32⟩
                    clear am hy hymd hr hrM hy256 hM0 hx32
                    go_wp2_with fail
                    go_meet
                    exact ⟨by rw [e], rfl⟩
                  · have s5 : ((32 : Int) < (x : Int)) = False := eq_false (by omega)
                    have e : q2 = false := by rw [← AQ.out.2]; exact decide_eq_false (by omega)
                    clear am hy hymd hr hrM hy256 hM0 hx32
                    go_wp2_with fail
                    go_meet
                    exact ⟨by rw [e], rfl⟩
              · have s4 : ((md : Int) == 2) = false := by rw [beq_eq_false_iff_ne]; omega
                have e : q2 = false := by rw [← AQ.out.2]; exact decide_eq_false (by omega)
                clear am hy hymd hr hrM hy256 hM0 hmk
                go_wp2_with fail
                go_meet
                exact ⟨by rw [e], rfl⟩
            case rest =>
              obtain ⟨rfl, hw⟩ := hcut
              have hw := hw.symm
              subst hw
              go_upto_if 102 with fail
              go_cut [6] from 14 to 112 (fun s6 wd => ∃ (a7 : Option Addr) (l7 c7 : Nat), s6 = .slice a7 l7 c7 ∧ Aside (Ob wd B2 s6 (cc ++ inz q1 q2) ∧ Below B2 w1 wd))
              case first =>
                have hex : Aside (q2 = true → q1 = false) := by
                  intro h
                  rw [← AQ.out.2] at h
                  rw [← AQ.out.1]
                  have := of_decide_eq_true h
                  exact decide_eq_false (by omega)
                cases q2 with
                | true =>
                  have e1 : q1 = false := hex.out rfl
                  subst e1
                  obtain ⟨H2, hH2⟩ : ∃ H2, wc.heap.size = H2 := ⟨_, rfl⟩
                  have bal : Below wc.heap.size wc (wc.alloc (.cells #[.int .u8 61, .int .u8 10] 5)) := (Below.refl _ wc).alloc (Nat.le_refl _) _
                  have hobA : Ob (wc.alloc (.cells #[.int .u8 61, .int .u8 10] 5)) B2 (.slice a6 l6 c6) (cc ++ inz false false) := Ow.below A6.out.1 bal (Nat.le_refl _)
                  have hlA : Lies (wc.alloc (.cells #[.int .u8 61, .int .u8 10] 5)) (some ⟨H2, 0, none⟩) [61, 10] := lies_new wc H2 hH2 [61, 10] (0, 0)
                  have AL : Aside ((cc ++ inz false false).length + [61, 10].length ≤ 140737488355328) := (show _ ≤ _ by have := AX.out; simp [inz]; omega)
                  have AB : Aside (Below B2 w1 (wc.alloc (.cells #[.int .u8 61, .int .u8 10] 5))) := A6.out.2.1.trans (bal.mono A6.out.1.le)
                  clear cx
                  go_wp2_with (at_builtin; refine wpList_ob _ rfl (.tmp 103) (.tmp 104) rfl B2 (.slice a6 l6 c6) (cc ++ inz false false) (by rfl) hobA (some ⟨H2, 0, none⟩) [61, 10] 2 2 rfl (by rfl) (by intro h; cases h) hlA AL.out ?_; intro v6 w6 hap)
                  go_meet
                  obtain ⟨a8, c8, hv8, _⟩ := Ob.shape hap.ow
                  refine ⟨a8, _, c8, hv8, ?_, AB.out.trans hap.ap.bel⟩
                  have := hap.ow
                  rwa [show cc ++ inz false false ++ [61, 10] = cc ++ inz false true by simp [inz]] at this
                | false =>
                  go_wp2_with fail
                  go_meet
                  exact ⟨a6, l6, c6, rfl, A6.out.1, A6.out.2.1⟩
              case rest =>
                obtain ⟨a7, l7, c7, rfl, hC⟩ := hcut
                have ax := AX.out
                have hlW : Lies wc (some ⟨ab, ao, none⟩) W := A1.out.2.1.below (by rw [A1.out.2.2.2]; exact hC.out.2)
                have cx3 := hlW.at' ax.2.2.1
                obtain ⟨H2, hH2⟩ : ∃ H2, wc.heap.size = H2 := ⟨_, rfl⟩
                have bal : Below wc.heap.size wc (wc.alloc (.cells #[.int .u8 (x : Int)] 5)) := (Below.refl _ wc).alloc (Nat.le_refl _) _
                have hob := hC.out.1
                have hobA : Ob (wc.alloc (.cells #[.int .u8 (x : Int)] 5)) B2 (.slice a7 l7 c7) (cc ++ inz q1 q2) := Ow.below hob bal (Nat.le_refl _)
                have hlA := lies_one wc H2 x hH2
                have hlen2 := inz_len q1 q2
                have AL : Aside ((cc ++ inz q1 q2).length + [x].length ≤ 140737488355328) := by show _ ≤ _; simp; omega
                have AB : Aside (Below B2 w1 (wc.alloc (.cells #[.int .u8 (x : Int)] 5))) := hC.out.2.trans (bal.mono hob.le)
                clear ax hlW hC hob bal hlen2 A6 ALt AQ AM cx
                go_wp2_with (at_builtin; refine wpList_ob _ rfl (.tmp 106) (.tmp 111) rfl B2 (.slice a7 l7 c7) (cc ++ inz q1 q2) (by rfl) hobA (some ⟨H2, 0, none⟩) [x] 1 1 rfl (by rfl) (by intro h; cases h) hlA AL.out ?_; intro v6 w6 hap)
                have ax := AX.out
                have hlen2 := inz_len q1 q2
                go_roundg (gk - 1)
                case measure => omega
                case rel =>
                  refine ⟨i + 1, by go_num, by omega, cc ++ inz q1 q2 ++ [x], hap.ow, ax.2.2.2.2.2.1, ?_, by simp; omega, AB.out.trans hap.ap.bel⟩
                  intro z hz
                  simp only [List.mem_append, List.mem_cons, List.not_mem_nil, or_false] at hz
                  rcases hz with (hz | hz) | hz
                  · exact ax.2.2.2.2.2.2.1 z hz
                  · exact inz_oct q1 q2 z hz
                  · rw [hz]; exact ax.2.2.2.1
    · have t1 : ((i : Int) < (N : Int)) = False := eq_false (by omega)
      have t1' : (i < N) = False := eq_false hi
      have hiN : i = N := by omega
      have hfin : run .no [] cc = some (.no, [], l) := by rw [hrun, hiN, ← aw.1, List.take_length]; exact aw.2.2.2
      obtain ⟨r1, r2, r3⟩ := rn_run hfin 0
      have hwh := whole_c wr ca cc ln c9 hlies hln (by omega) hoc
      unfold WhTo at hwh
      have r1' : (rn 0 .no [] cc).out = l := by simpa [fin] using r1
      have r2' : (rn 0 .no [] cc).why = 0 := r2
      rw [r1', r2'] at hwh
      obtain ⟨tt, htt⟩ : ∃ tt, (rn 0 .no [] cc).at_ = tt := ⟨_, rfl⟩
      rw [htt] at hwh
      have AX : Aside (Below B w wr ∧ B ≤ wr.heap.size ∧ Lies wr a l ∧ l.length = L ∧ L ≤ 2000000) := ⟨a1.1.trans (hbel.mono a1.2.2.1), by have := hob.le; omega, a0.1.below (by rw [a0.2.2.2.1]; exact a1.1.trans (hbel.mono a1.2.2.1)), a0.2.1, a0.2.2.1⟩
      clear hI hig hob hrun hoc hcl hbel a0 a1 aw hvc hlies hvn hln hi hiN hfin r1 r2 r3 r1' r2' htt
      go_wp2_with (first
        | (go_at_call 9; refine hwh.mono ?_; rintro e1 w2 ⟨vo, he2, hob2, hb2⟩; obtain rfl := (show e1 = .returned (.tuple #[vo, .int .i64 0, .int .i64 (tt : Int)]) from he2); obtain ⟨oa, oc, hv2, _, hlies2, _⟩ := Ob.shape hob2; rw [AX.out.2.2.2.1] at hv2; subst hv2; have hs := same_c oa a l l L L oc C w2 AX.out.2.2.2.1 AX.out.2.2.2.1 (by have := AX.out; omega) hlies2 (AX.out.2.2.1.below hb2); rw [decide_eq_true rfl] at hs; have A2 : Aside (Below B w w2 ∧ B ≤ w2.heap.size) := ⟨AX.out.1.trans (hb2.mono AX.out.2.1), Nat.le_trans AX.out.2.1 hb2.size⟩; clear hob2 hb2 hlies2 hwh)
        | (go_at_call 11; refine hs.mono ?_; rintro e1 w6 ⟨rfl, n6, hw6⟩; have haw := awake_c w6; have A6 : Aside (Below B w w6 ∧ B ≤ w6.heap.size) := (by rw [hw6]; exact ⟨Below.drewN' A2.out.1 n6, A2.out.2⟩); clear hw6 hs)
        | (go_at_call 12; refine haw.mono ?_; rintro e1 w7 ⟨rfl, hb7⟩))
      first | go_ret | go_ret2
      exact ⟨rfl, A6.out.1.trans (hb7.mono A6.out.2)⟩
end Go.Proofs.Ytapljkenmgdkmaa

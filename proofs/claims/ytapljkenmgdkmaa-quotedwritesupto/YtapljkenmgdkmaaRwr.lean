/-
  The document's Write.
-/
import Derived.Test.YtapljkenmgdkmaaRof
import Derived.Test.YtapljkenmgdkmaaWrc
import Derived.Deep.RegionWith
import Derived.Deep.RegionHeld3
namespace Go.Proofs.Ytapljkenmgdkmaa
open Go.RowKit
set_option linter.unusedVariables false
/-- What is written of a byte, last or not. -/
def rst (b : Nat) (t : Bool) : Bool := if isB b = true then !t else decide (33 ≤ b ∧ b ≤ 126 ∧ b ≠ 61)
def rpc (b : Nat) (t : Bool) : List Nat := if rst b t = true then [b] else [61, hx (b / 16), hx (b % 16)]
theorem pc_rpc (b : Nat) (r : List Nat) : pc b r = rpc b (r.isEmpty || crlf r) := rfl
theorem rpiece_c (w : World) (b : Nat) (t : Bool) (hb : b < 256) : Calls Try.prog 38 #[.int .u8 b, .bool t] w fun e w' => PcTo (rpc b t) w e w' := by
  have hbl := rblank_c b hb w
  obtain ⟨q1, hq1⟩ : ∃ q1, b / 16 = q1 := ⟨_, rfl⟩
  obtain ⟨q2, hq2⟩ : ∃ q2, b % 16 = q2 := ⟨_, rfl⟩
  have hq1' : (b : Int).tdiv 16 = (q1 : Int) := by rw [Int.tdiv_eq_ediv_of_nonneg (by omega)]; omega
  have hq2' : (b : Int).tmod 16 = (q2 : Int) := by rw [Int.tmod_eq_emod_of_nonneg (by omega)]; omega
  have i1 : (q1 : Int) < 16 := by omega
  have i2 : (q2 : Int) < 16 := by omega
  have e1 := hx_at q1 (by omega)
  have e2 := hx_at q2 (by omega)
  have key : ∀ z : Bool, rst b t = z → rpc b t = if z = true then [b] else [61, hx q1, hx q2] := by
    intro z hz
    unfold rpc
    rw [hz, hq1, hq2]
  by_cases hB : isB b = true
  · have hb2 := (isB_iff b).1 hB
    rw [hB] at hbl
    have ez : rst b t = !t := by unfold rst; rw [if_pos hB]
    rw [key _ ez]
    have s1 : ((33 : Int) ≤ (b : Int)) = False := eq_false (by omega)
    clear key hq1 hq2 hb hB ez hb2
    cases t
    · go_enter Try.func38, Try.ntmps38
      go_wp2_with (go_at_call 26; refine hbl.mono ?_; rintro e7 w0 ⟨rfl, hw0⟩; subst hw0)
      go_ret
      exact ⟨w.heap.size, 1, rfl, lies_one w _ b rfl, Nat.le_refl _, (Below.refl _ w).alloc (Nat.le_refl _) _⟩
    · go_enter Try.func38, Try.ntmps38
      go_upto_region 3 with (go_at_call 26; refine hbl.mono ?_; rintro e7 w0 ⟨rfl, hw0⟩; subst hw0)
      go_region
      go_wp2_with fail
      go_ret
      refine ⟨w.heap.size, 3, rfl, ?_, Nat.le_refl _, ((Below.refl _ w).alloc (Nat.le_refl _) _).drew⟩
      exact (lies_new w _ rfl [61, hx q1, hx q2] (0, 0)).drewN 1
  · have hBf : isB b = false := by simpa using hB
    rw [hBf] at hbl
    have ez : rst b t = decide (33 ≤ b ∧ b ≤ 126 ∧ b ≠ 61) := by unfold rst; rw [if_neg hB]
    rw [key _ ez]
    clear key hq1 hq2 hB hBf ez
    by_cases h1 : 33 ≤ b
    · have s1 : ((33 : Int) ≤ (b : Int)) = True := eq_true (by omega)
      by_cases h2 : b ≤ 126
      · have s2 : ((b : Int) ≤ 126) = True := eq_true (by omega)
        by_cases h3 : b = 61
        · rw [decide_eq_false (by omega)]
          have s3 : ((b : Int) != 61) = false := by rw [h3]; rfl
          have s4 : ((b : Int) == 61) = true := by rw [h3]; rfl
          clear h1 h2 h3 hb
          go_enter Try.func38, Try.ntmps38
          go_upto_region 3 with (go_at_call 26; refine hbl.mono ?_; rintro e7 w0 ⟨rfl, hw0⟩; subst hw0)
          go_region
          go_wp2_with fail
          go_ret
          refine ⟨w.heap.size, 3, rfl, ?_, Nat.le_refl _, ((Below.refl _ w).alloc (Nat.le_refl _) _).drew⟩
          exact (lies_new w _ rfl [61, hx q1, hx q2] (0, 0)).drewN 1
        · rw [decide_eq_true ⟨h1, h2, h3⟩]
          have s3 : ((b : Int) != 61) = true := by rw [bne_iff_ne]; omega
          have s4 : ((b : Int) == 61) = false := by rw [beq_eq_false_iff_ne]; omega
          clear h1 h2 h3 hb
          go_enter Try.func38, Try.ntmps38
          go_wp2_with (go_at_call 26; refine hbl.mono ?_; rintro e7 w0 ⟨rfl, hw0⟩; subst hw0)
          go_ret
          exact ⟨w.heap.size, 1, rfl, lies_one w _ b rfl, Nat.le_refl _, (Below.refl _ w).alloc (Nat.le_refl _) _⟩
      · have s2 : ((b : Int) ≤ 126) = False := eq_false (by omega)
        rw [decide_eq_false (by omega)]
        clear h1 h2 hb
        go_enter Try.func38, Try.ntmps38
        go_upto_region 3 with (go_at_call 26; refine hbl.mono ?_; rintro e7 w0 ⟨rfl, hw0⟩; subst hw0)
        go_region
        go_wp2_with fail
        go_ret
        refine ⟨w.heap.size, 3, rfl, ?_, Nat.le_refl _, ((Below.refl _ w).alloc (Nat.le_refl _) _).drew⟩
        exact (lies_new w _ rfl [61, hx q1, hx q2] (0, 0)).drewN 1
    · have s1 : ((33 : Int) ≤ (b : Int)) = False := eq_false (by omega)
      rw [decide_eq_false (by omega)]
      clear h1 hb
      go_enter Try.func38, Try.ntmps38
      go_upto_region 3 with (go_at_call 26; refine hbl.mono ?_; rintro e7 w0 ⟨rfl, hw0⟩; subst hw0)
      go_region
      go_wp2_with fail
      go_ret
      refine ⟨w.heap.size, 3, rfl, ?_, Nat.le_refl _, ((Below.refl _ w).alloc (Nat.le_refl _) _).drew⟩
      exact (lies_new w _ rfl [61, hx q1, hx q2] (0, 0)).drewN 1
set_option maxHeartbeats 1000000 in
theorem rwrite_c (w : World) (a : Option Addr) (l : List Nat) (L C : Nat) (z : Int) (hl : Lies w a l) (hL : l.length = L) (hLb : L ≤ 20000000) (ho : Oct l) :
    Calls Try.prog 20 #[.slice a L C, .int .i64 z] w fun e w' => ∃ v, e = .returned v ∧ Ob w' w.heap.size v (wri (wid z) 0 l) ∧ Below w.heap.size w w' := by
  obtain ⟨B, hB⟩ : ∃ B, w.heap.size = B := ⟨_, rfl⟩
  rw [hB]
  obtain ⟨q, hq⟩ : ∃ q, decide (z < 4 ∨ 76 < z) = q := ⟨_, rfl⟩
  obtain ⟨m, hm⟩ : ∃ m, wid z = m := ⟨_, rfl⟩
  rw [hm]
  have hm4 := wid_le z
  rw [hm] at hm4
  have hmq : Aside ((q = true → m = 76) ∧ (q = false → z = (m : Int))) := by
    subst hq
    subst hm
    unfold wid
    by_cases h : z < 4 ∨ 76 < z
    · rw [decide_eq_true h, if_pos h]; exact ⟨fun _ => rfl, (fun h => by cases h)⟩
    · rw [decide_eq_false h, if_neg h]; exact ⟨(fun h => by cases h), fun _ => by omega⟩
  have AQ : Aside (decide (z < 4 ∨ 76 < z) = q) := hq
  have A : Aside (Lies w a l ∧ l.length = L ∧ L ≤ 20000000 ∧ Oct l ∧ w.heap.size = B ∧ 4 ≤ m ∧ m ≤ 76) := ⟨hl, hL, hLb, ho, hB, hm4.1, hm4.2⟩
  clear hl hL hLb ho hB hm hm4 hq
  go_enter Try.func20, Try.ntmps20
  go_upto_region 1 with fail
  go_cut [14] (fun s14 wc => wc = w ∧ s14 = .bool q)
  case first =>
    by_cases h1 : z < 4
    · have t1 : (z < 4) = True := eq_true h1
      have e : q = true := by rw [← AQ.out]; exact decide_eq_true (Or.inl h1)
      clear h1
      go_wp2_with fail
      go_meet
      exact ⟨rfl, by rw [e]⟩
    · have t1 : (z < 4) = False := eq_false h1
      by_cases h2 : 76 < z
      · have t2 : (76 < z) = True := eq_true h2
        have e : q = true := by rw [← AQ.out]; exact decide_eq_true (Or.inr h2)
        clear h1 h2
        go_wp2_with fail
        go_meet
        exact ⟨rfl, by rw [e]⟩
      · have t2 : (76 < z) = False := eq_false h2
        have e : q = false := by rw [← AQ.out]; exact decide_eq_false (by omega)
        clear h1 h2
        go_wp2_with fail
        go_meet
        exact ⟨rfl, by rw [e]⟩
  case rest =>
    obtain ⟨hw, rfl⟩ := hcut
    have hw := hw.symm
    subst hw
    go_upto_if 14 with fail
    go_cut [1] (fun s1 wc => wc = w ∧ s1 = .int .i64 (m : Int))
    case first =>
      cases q with
      | true =>
        have e : Aside (m = 76) := hmq.out.1 rfl
        go_wp2_with fail
        go_meet
        exact ⟨rfl, by rw [e.out]; rfl⟩
      | false =>
        have e : Aside (z = (m : Int)) := hmq.out.2 rfl
        go_wp2_with fail
        go_meet
        exact ⟨rfl, by rw [e.out]⟩
    case rest =>
      obtain ⟨hw, rfl⟩ := hcut
      have hw := hw.symm
      subst hw
      clear AQ hmq
      go_wp2_with fail
      go_loopg [5, 6, 7, 8] L (fun gg s5 s6 s7 s8 wr => ∃ (n i : Nat), s6 = .int .i64 (n : Int) ∧ s7 = .int .i64 (i : Int) ∧ Aside (i + gg = L ∧ n ≤ m - 1 ∧ ∃ acc, Ob wr B s5 acc ∧ acc ++ wri m n (l.drop i) = wri m 0 l ∧ Below B w wr))
      case atStart =>
        have a0 := A.out
        exact ⟨0, 0, rfl, rfl, by omega, by omega, [], Ow.nil (by omega), rfl, Below.refl _ _⟩
      case round =>
        obtain ⟨n, i, rfl, rfl, hI⟩ := hrel
        obtain ⟨hig, hnm, acc, hob, hacc, hbel⟩ := hI.out
        have a0 := A.out
        obtain ⟨va, vc, hv, hvc, hlies, hvn⟩ := hob.shape
        obtain ⟨ln, hln⟩ : ∃ ln, acc.length = ln := ⟨_, rfl⟩
        rw [hln] at hv
        subst hv
        have hsum : acc.length + (wri m n (l.drop i)).length ≤ 6 * L := by
          have h1 := congrArg List.length hacc
          rw [List.length_append] at h1
          have h2 := wri_len m l 0
          omega
        have hiI : (i : Int) < 100000000 := by omega
        cases hd : l.drop i with
        | nil =>
          have hiL : i = L := by have := congrArg List.length hd; simp at this; omega
          have t1 : ((i : Int) < (L : Int)) = False := eq_false (by omega)
          have t1' : (i < L) = False := eq_false (by omega)
          have AX : Aside (Ob wr B (.slice va ln vc) acc ∧ acc = wri m 0 l ∧ Below B w wr) := ⟨hob, by rw [hd, wri_nil] at hacc; simpa using hacc, hbel⟩
          clear hI hig hnm hob hacc hbel a0 hvc hlies hvn hln hsum hd hiL
          go_wp2_with fail
          go_ret
          have ax := AX.out
          exact ⟨_, rfl, by rw [← ax.2.1]; exact ax.1, ax.2.2⟩
        | cons b r =>
          obtain ⟨hx, hr, hlt⟩ := drop_cons hd
          have t1 : ((i : Int) < (L : Int)) = True := eq_true (by omega)
          have t1' : (i < L) = True := eq_true (by omega)
          have hl3 : Lies wr a l := a0.1.below (by rw [a0.2.2.2.2.1]; exact hbel)
          obtain ⟨ab, ao, ha2⟩ := hl3.some' (by omega)
          subst ha2
          have hb256 := a0.2.2.2.1 b (List.mem_of_getElem? hx)
          have hen := breaks_c wr (some ⟨ab, ao, none⟩) l L C i _ hl3 a0.2.1 (by omega) (by omega) hd
          rw [hd] at hacc hsum
          by_cases hc : crlf (b :: r) = true
          · rw [(brk_two _).2 hc] at hen
            have hen0 : Calls Try.prog 23 #[.slice (some ⟨ab, ao, none⟩) L C, .int .i64 (i : Int)] wr fun e w' => e = .returned (.int .i64 2) ∧ wr = w' := hen
            obtain ⟨r2, e⟩ := (crlf_iff _).1 hc
            rw [e] at hacc hsum hd
            rw [wri_crlf] at hacc hsum
            obtain ⟨_, hd1, _⟩ := drop_cons hd
            obtain ⟨_, hd2, hlt2⟩ := drop_cons hd1
            have AX : Aside (i + gk = L ∧ i + 2 ≤ L ∧ 4 ≤ m ∧ Ob wr B (.slice va ln vc) acc ∧ (acc ++ [13, 10]) ++ wri m 0 (l.drop (i + 1 + 1)) = wri m 0 l ∧ Below B w wr ∧ acc.length + [13, 10].length ≤ 140737488355328) := ⟨hig, by omega, a0.2.2.2.2.2.1, hob, by rw [hd2]; simpa using hacc, hbel, by simp at hsum ⊢; omega⟩
            obtain ⟨H, hH⟩ : ∃ H, wr.heap.size = H := ⟨_, rfl⟩
            have bal : Below wr.heap.size wr (wr.alloc (.cells #[.int .u8 13, .int .u8 10] 5)) := (Below.refl _ wr).alloc (Nat.le_refl _) _
            have hobA : Ob (wr.alloc (.cells #[.int .u8 13, .int .u8 10] 5)) B (.slice va ln vc) acc := Ow.below hob bal (Nat.le_refl _)
            have hlA : Lies (wr.alloc (.cells #[.int .u8 13, .int .u8 10] 5)) (some ⟨H, 0, none⟩) [13, 10] := lies_new wr H hH [13, 10] (0, 0)
            have AB : Aside (Below B w (wr.alloc (.cells #[.int .u8 13, .int .u8 10] 5))) := hbel.trans (bal.mono hob.le)
            clear hI hig hnm hob hacc hbel a0 hvc hlies hvn hln hsum hd hx hr hlt hl3 hb256 hen e hc hd1 hd2 hlt2 bal
            go_wp2_with (first
              | (go_at_call 23; refine hen0.mono ?_; rintro e1 w0 ⟨rfl, hw0⟩; subst hw0)
              | (at_builtin; refine wpList_ob _ rfl (.tmp 25) (.tmp 26) rfl B (.slice va ln vc) acc (by rfl) hobA (some ⟨H, 0, none⟩) [13, 10] 2 2 rfl (by rfl) (by intro h; cases h) hlA AX.out.2.2.2.2.2.2 ?_; intro v6 w6 hap))
            have ax := AX.out
            go_roundg (gk - 2)
            case measure => omega
            case rel => exact ⟨0, i + 2, rfl, by go_num, by omega, by omega, acc ++ [13, 10], hap.ow, ax.2.2.2.2.1, AB.out.trans hap.ap.bel⟩
          · have hcf : crlf (b :: r) = false := by simpa using hc
            have hb2 : brk (b :: r) ≠ 2 := fun h => hc ((brk_two _).1 h)
            obtain ⟨bq, hbq⟩ : ∃ bq, brk (b :: r) = bq := ⟨_, rfl⟩
            rw [hbq] at hen hb2
            have u2 : ((bq : Int) == 2) = false := by rw [beq_eq_false_iff_ne]; omega
            have cx := hl3.at' hx
            obtain ⟨j, hj⟩ : ∃ j, i + 1 = j := ⟨_, rfl⟩
            have hjI : (i : Int) + 1 = (j : Int) := by omega
            have hjb : (j : Int) < 100000001 := by omega
            obtain ⟨t, ht⟩ : ∃ t, (r.isEmpty || crlf r) = t := ⟨_, rfl⟩
            have hp0 := pc_rpc b r
            rw [ht] at hp0
            obtain ⟨p, hp⟩ : ∃ p, pc b r = p := ⟨_, rfl⟩
            have hpl := pc_len b r
            have hcut := fun (h : m - 1 < n + (pc b r).length) => wri_cut (m := m) hcf h
            have hon := fun (h : ¬ m - 1 < n + (pc b r).length) => wri_on (m := m) hcf h
            rw [hp] at hpl hcut hon hp0
            obtain ⟨pn, hpn⟩ : ∃ pn, p.length = pn := ⟨_, rfl⟩
            rw [hpn] at hpl hcut hon
            have hpc : ∀ W : World, Calls Try.prog 38 #[.int .u8 (b : Int), .bool t] W fun e w' => ∃ H c, e = .returned (.slice (some ⟨H, 0, none⟩) pn c) ∧ Lies w' (some ⟨H, 0, none⟩) p ∧ W.heap.size ≤ H ∧ Below W.heap.size W w' := by
              intro W
              have h := rpiece_c W b t hb256
              rw [← hp0] at h
              unfold PcTo at h
              rw [hpn] at h
              exact h
            obtain ⟨m1, hm1⟩ : ∃ m1, m - 1 = m1 := ⟨_, rfl⟩
            have hm1I : (m : Int) - 1 = (m1 : Int) := by omega
            obtain ⟨np, hnp⟩ : ∃ np, n + pn = np := ⟨_, rfl⟩
            have hnpI : (n : Int) + (pn : Int) = (np : Int) := by omega
            have hnpb : (np : Int) < 1000 := by omega
            have hm1b : (m1 : Int) < 1000 := by omega
            rw [hm1, hnp] at hcut hon
            have AX : Aside (i + gk = L ∧ i < L ∧ i + 1 = j ∧ 4 ≤ m ∧ Ob wr B (.slice va ln vc) acc ∧ acc ++ wri m n (b :: r) = wri m 0 l ∧ Below B w wr ∧ l.drop j = r ∧ Lies wr (some ⟨ab, ao, none⟩) l ∧ l.length = L ∧ (r.isEmpty || crlf r) = t) := ⟨hig, by omega, hj, a0.2.2.2.2.2.1, hob, hacc, hbel, by rw [← hj]; exact hr, hl3, a0.2.1, ht⟩
            have AW : Aside ((m1 < np → wri m n (b :: r) = [61, 13, 10] ++ (p ++ wri m pn r)) ∧ (¬ m1 < np → wri m n (b :: r) = p ++ wri m np r)) := ⟨hcut, hon⟩
            have AN : Aside (m - 1 = m1 ∧ n + pn = np ∧ p.length = pn ∧ pn ≤ 3 ∧ n ≤ m1 ∧ acc.length + (wri m n (b :: r)).length ≤ 6 * L ∧ L ≤ 20000000) := ⟨hm1, hnp, hpn, hpl.2, by omega, hsum, a0.2.2.1⟩
            clear hI hig hnm hob hacc hbel a0 hvc hlies hvn hln hsum hd hx hr hlt hl3 hb256 hc hcf hbq hb2 hp hp0 hpl hcut hon hpn hm1 hnp hj ht
            go_upto_region 12 with (go_at_call 23; refine hen.mono ?_; rintro e1 w0 ⟨rfl, hw0⟩; subst hw0)
            clear hen
            go_cut [8] from 15 to 63 (fun s8 wc => ∃ H c, s8 = .slice (some ⟨H, 0, none⟩) pn c ∧ Aside (Lies wc (some ⟨H, 0, none⟩) p ∧ wr.heap.size ≤ H ∧ Below wr.heap.size wr wc))
            case first =>
              have ax := AX.out
              have hwj : IntKind.i64.wrap (j : Int) = (j : Int) := wr_id _ (by omega) (by omega)
              cases r with
              | nil =>
                have hjL : j = L := by have := congrArg List.length ax.2.2.2.2.2.2.2.1; simp at this; omega
                have t2 : ((j : Int) == (L : Int)) = true := by rw [beq_iff_eq]; omega
                have et : t = true := by rw [← ax.2.2.2.2.2.2.2.2.2.2]; rfl
                subst et
                clear ax
                subst hjL
                refine wp_region_noPanic ?_
                refine wp_region_held_drew (S := fun w' => w'.cell? ⟨ab, ao + i, none⟩ = some (.int .u8 (b : Int))) (by kernel_rfl) cx (fun hHeld => ?_)
                refine wpAnyH_take (i := 0) (oi := ⟨_, _, _, _, _, _⟩) (v := ?_) rfl (by kernel_rfl) (by kernel_rfl) (by kernel_rfl) (fun _ _ _ h => h) (Or.inl ⟨by rfl, ?_⟩) hHeld ?_
                rotate_left
                · (intro w9 hSw; (try dsimp only at hSw); go_simp; try (with_reducible rfl))
                try simp only [Act.put, List.setIfInBounds_toArray, List.set_cons_zero, List.set_cons_succ]
                refine wpAnyH_take (i := 1) (oi := ⟨_, _, _, _, _, _⟩) (v := ?_) rfl (by kernel_rfl) (by kernel_rfl) (by kernel_rfl) (fun _ _ _ h => h) (Or.inl ⟨by rfl, ?_⟩) hHeld ?_
                rotate_left
                · (intro w9 hSw; (try dsimp only at hSw); go_simp; try (with_reducible rfl))
                try simp only [Act.put, List.setIfInBounds_toArray, List.set_cons_zero, List.set_cons_succ]
                refine wpAnyH_take (i := 2) (oi := ⟨_, _, _, _, _, _⟩) (v := ?_) rfl (by kernel_rfl) (by kernel_rfl) (by kernel_rfl) (fun _ _ _ h => h) (Or.inl ⟨by rfl, ?_⟩) hHeld ?_
                rotate_left
                · (intro w9 hSw; (try dsimp only at hSw); go_simp; try (with_reducible rfl))
                try simp only [Act.put, List.setIfInBounds_toArray, List.set_cons_zero, List.set_cons_succ]
                refine wpAnyH_take (i := 3) (oi := ⟨_, _, _, _, _, _⟩) (v := ?_) rfl (by kernel_rfl) (by kernel_rfl) (by kernel_rfl) (fun _ _ _ h => h) (Or.inl ⟨by rfl, ?_⟩) hHeld ?_
                rotate_left
                · (intro w9 hSw; (try dsimp only at hSw); go_simp; try (with_reducible rfl))
                try simp only [Act.put, List.setIfInBounds_toArray, List.set_cons_zero, List.set_cons_succ]
                refine wpAnyH_take (i := 4) (oi := ⟨_, _, _, _, _, _⟩) (v := ?_) rfl (by kernel_rfl) (by kernel_rfl) (by kernel_rfl) (fun _ _ _ h => h) (Or.inl ⟨by rfl, ?_⟩) hHeld ?_
                rotate_left
                · (intro w9 hSw; (try dsimp only at hSw); go_simp; try (with_reducible rfl))
                try simp only [Act.put, List.setIfInBounds_toArray, List.set_cons_zero, List.set_cons_succ]
                refine wpAnyH_take (i := 5) (oi := ⟨_, _, _, _, _, _⟩) (v := ?_) rfl (by kernel_rfl) (by kernel_rfl) (by kernel_rfl) (fun _ _ _ h => h) (Or.inl ⟨by rfl, ?_⟩) hHeld ?_
                rotate_left
                · (intro w9 hSw; (try dsimp only at hSw); go_simp; try (with_reducible rfl))
                try simp only [Act.put, List.setIfInBounds_toArray, List.set_cons_zero, List.set_cons_succ]
                refine wpAnyH_take (i := 6) (oi := ⟨_, _, _, _, _, _⟩) (v := ?_) rfl (by kernel_rfl) (by kernel_rfl) (by kernel_rfl) (fun _ _ _ h => h) (Or.inl ⟨by rfl, ?_⟩) hHeld ?_
                rotate_left
                · (intro w9 hSw; (try dsimp only at hSw); go_simp; try (with_reducible rfl))
                try simp only [Act.put, List.setIfInBounds_toArray, List.set_cons_zero, List.set_cons_succ]
                refine wpAnyH_take (i := 7) (oi := ⟨_, _, _, _, _, _⟩) (v := ?_) rfl (by kernel_rfl) (by kernel_rfl) (by kernel_rfl) (fun _ _ _ h => h) (Or.inl ⟨by rfl, ?_⟩) hHeld ?_
                rotate_left
                · (intro w9 hSw; (try dsimp only at hSw); go_simp; try (with_reducible rfl))
                try simp only [Act.put, List.setIfInBounds_toArray, List.set_cons_zero, List.set_cons_succ]
                refine wpAnyH_take (i := 8) (oi := ⟨_, _, _, _, _, _⟩) (v := ?_) rfl (by kernel_rfl) (by kernel_rfl) (by kernel_rfl) (fun _ _ _ h => h) (Or.inl ⟨by rfl, ?_⟩) hHeld ?_
                rotate_left
                · (intro w9 hSw; (try dsimp only at hSw); go_simp; try (with_reducible rfl))
                try simp only [Act.put, List.setIfInBounds_toArray, List.set_cons_zero, List.set_cons_succ]
                refine wpAnyH_take (i := 9) (oi := ⟨_, _, _, _, _, _⟩) (v := ?_) rfl (by kernel_rfl) (by kernel_rfl) (by kernel_rfl) (fun _ _ _ h => h) (Or.inl ⟨by rfl, ?_⟩) hHeld ?_
                rotate_left
                · (intro w9 hSw; (try dsimp only at hSw); go_simp; try (with_reducible rfl))
                try simp only [Act.put, List.setIfInBounds_toArray, List.set_cons_zero, List.set_cons_succ]
                refine wpAnyH_take (i := 10) (oi := ⟨_, _, _, _, _, _⟩) (v := undef) rfl (by kernel_rfl) (by kernel_rfl) (by kernel_rfl) (fun _ _ _ h => h) (Or.inr ⟨by rfl, rfl⟩) hHeld ?_
                try simp only [Act.put, List.setIfInBounds_toArray, List.set_cons_zero, List.set_cons_succ]
                refine wpAnyH_take (i := 11) (oi := ⟨_, _, _, _, _, _⟩) (v := undef) rfl (by kernel_rfl) (by kernel_rfl) (by kernel_rfl) (fun _ _ _ h => h) (Or.inr ⟨by rfl, rfl⟩) hHeld ?_
                try simp only [Act.put, List.setIfInBounds_toArray, List.set_cons_zero, List.set_cons_succ]
                refine wpAnyH_take (i := 12) (oi := ⟨_, _, _, _, _, _⟩) (v := undef) rfl (by kernel_rfl) (by kernel_rfl) (by kernel_rfl) (fun _ _ _ h => h) (Or.inr ⟨by rfl, rfl⟩) hHeld ?_
                try simp only [Act.put, List.setIfInBounds_toArray, List.set_cons_zero, List.set_cons_succ]
                refine wpAnyH_take (i := 13) (oi := ⟨_, _, _, _, _, _⟩) (v := undef) rfl (by kernel_rfl) (by kernel_rfl) (by kernel_rfl) (fun _ _ _ h => h) (Or.inr ⟨by rfl, rfl⟩) hHeld ?_
                try simp only [Act.put, List.setIfInBounds_toArray, List.set_cons_zero, List.set_cons_succ]
                refine wpAnyH_take (i := 14) (oi := ⟨_, _, _, _, _, _⟩) (v := undef) rfl (by kernel_rfl) (by kernel_rfl) (by kernel_rfl) (fun _ _ _ h => h) (Or.inr ⟨by rfl, rfl⟩) hHeld ?_
                try simp only [Act.put, List.setIfInBounds_toArray, List.set_cons_zero, List.set_cons_succ]
                refine wpAnyH_take (i := 15) (oi := ⟨_, _, _, _, _, _⟩) (v := ?_) rfl (by kernel_rfl) (by kernel_rfl) (by kernel_rfl) (fun _ _ _ h => h) (Or.inl ⟨by rfl, ?_⟩) hHeld ?_
                rotate_left
                · (intro w9 hSw; (try dsimp only at hSw); go_simp; try (with_reducible rfl))
                try simp only [Act.put, List.setIfInBounds_toArray, List.set_cons_zero, List.set_cons_succ]
                refine wpAnyH_ready (rs := [16]) (by kernel_rfl) (by simp) ?_
                refine AllReadyH.cons (o := ⟨_, _, _, _, _, _⟩) rfl (fun K hK => ?_) AllReadyH.nil
                go_simp
                with_reducible refine (hpc _).mono ?_
                rintro e1 w1 ⟨H, c, rfl, hlp, hH, hb1⟩
                try go_wp2_with fail
                have c5 : w1.cell? ⟨ab, ao + i, none⟩ = some (.int .u8 (b : Int)) := (Below.cell hb1 (World.block_lt_of_cell? _ _ cx)).trans cx
                refine hK.out _ _ c5 (fun hHeldA => ?_)
                clear hK K
                try simp only [Act.put, List.setIfInBounds_toArray, List.set_cons_zero, List.set_cons_succ]
                refine wpAnyH_take (i := 17) (oi := ⟨_, _, _, _, _, _⟩) (v := ?_) rfl (by kernel_rfl) (by kernel_rfl) (by kernel_rfl) (fun _ _ _ h => h) (Or.inl ⟨by rfl, ?_⟩) hHeldA ?_
                rotate_left
                · (intro w9 hSw; (try dsimp only at hSw); go_simp; try (with_reducible rfl))
                try simp only [Act.put, List.setIfInBounds_toArray, List.set_cons_zero, List.set_cons_succ]
                refine wpAnyH_done (by kernel_rfl) ?_ _
                refine NoPanic.normal ?_
                clear hHeld hHeldA
                all_goals (
                  go_wp2_with fail
                  go_meet
                  exact ⟨H, c, rfl, hlp, hH, (Below.refl wr.heap.size wr).drew.trans hb1⟩)
              | cons y q =>
                have hjL : j < L := by have := congrArg List.length ax.2.2.2.2.2.2.2.1; simp at this; omega
                have t2 : ((j : Int) == (L : Int)) = false := by rw [beq_eq_false_iff_ne]; omega
                have hbk2 := fun (W : World) (h : Lies W (some ⟨ab, ao, none⟩) l) => breaks_c W (some ⟨ab, ao, none⟩) l L C j (y :: q) h ax.2.2.2.2.2.2.2.2.2.1 (by have := AN.out; omega) (by omega) ax.2.2.2.2.2.2.2.1
                obtain ⟨b2, hb2⟩ : ∃ b2, brk (y :: q) = b2 := ⟨_, rfl⟩
                rw [hb2] at hbk2
                have et : ((b2 : Int) == 2) = t := by
                  rw [← ax.2.2.2.2.2.2.2.2.2.2, ← hb2]
                  have := brk_two (y :: q)
                  cases hcq : crlf (y :: q) with
                  | true => rw [this.2 hcq]; rfl
                  | false =>
                    have h3 : brk (y :: q) ≠ 2 := fun h => by rw [this.1 h] at hcq; cases hcq
                    simp
                    omega
                have AL : Aside (Lies wr (some ⟨ab, ao, none⟩) l) := ax.2.2.2.2.2.2.2.2.1
                clear ax hjL hb2
                go_region_held3 (fun w' => w'.cell? ⟨ab, ao + i, none⟩ = some (.int .u8 (b : Int))) (first | assumption | exact (Below.cell hb1 (World.block_lt_of_cell? _ _ cx)).trans cx)
                  (first
                    | (go_at_call 23; refine (hbk2 _ (by first | exact AL.out.drewN 1 | exact AL.out)).mono ?_; rintro e1 w0 ⟨rfl, hw0⟩; subst hw0)
                    | (go_at_call 38; refine (hpc _).mono ?_; rintro e1 w1 ⟨H, c, rfl, hlp, hH, hb1⟩))
                all_goals (
                  go_wp2_with fail
                  go_meet
                  exact ⟨H, c, rfl, hlp, hH, (Below.refl wr.heap.size wr).drew.trans hb1⟩)
            case rest =>
              obtain ⟨H, c, rfl, hC⟩ := hcut
              have A1 : Aside (Lies wc (some ⟨H, 0, none⟩) p ∧ wr.heap.size ≤ H ∧ Below wr.heap.size wr wc) := hC.out
              clear hC
              obtain ⟨w1, hw1⟩ : ∃ w1, wc = w1 := ⟨_, rfl⟩
              subst hw1
              go_upto_if 53 with fail
              obtain ⟨tb, htb⟩ : ∃ tb, decide (m1 < np) = tb := ⟨_, rfl⟩
              rw [htb]
              have AT : Aside (decide (m1 < np) = tb) := htb
              clear htb
              obtain ⟨w1, hw1⟩ : ∃ w1, w1 = wc := ⟨_, rfl⟩
              subst hw1
              go_cut [5, 6] from 15 to 63 (fun s5 s6 wc => ∃ (a5 : Option Addr) (l5 c5 n5 : Nat), s5 = .slice a5 l5 c5 ∧ s6 = .int .i64 (n5 : Int) ∧ Aside (∃ acc5, Ob wc B s5 acc5 ∧ Lies wc (some ⟨H, 0, none⟩) p ∧ Below B w wc ∧ n5 + pn ≤ m1 ∧ acc5 ++ (p ++ wri m (n5 + pn) r) = wri m 0 l ∧ acc5.length + p.length ≤ 140737488355328))
              case first =>
                cases tb with
                | true =>
                  have ax := AX.out
                  have a1 := A1.out
                  have hsz := a1.2.2.size
                  obtain ⟨H2, hH2⟩ : ∃ H2, w1.heap.size = H2 := ⟨_, rfl⟩
                  have bal : Below w1.heap.size w1 (w1.alloc (.cells #[.int .u8 61, .int .u8 13, .int .u8 10] 5)) := (Below.refl _ w1).alloc (Nat.le_refl _) _
                  have hob1 : Ob w1 B (.slice va ln vc) acc := Ow.below ax.2.2.2.2.1 a1.2.2 (Nat.le_refl _)
                  have hobA : Ob (w1.alloc (.cells #[.int .u8 61, .int .u8 13, .int .u8 10] 5)) B (.slice va ln vc) acc := Ow.below hob1 bal (Nat.le_refl _)
                  have hlA : Lies (w1.alloc (.cells #[.int .u8 61, .int .u8 13, .int .u8 10] 5)) (some ⟨H2, 0, none⟩) [61, 13, 10] := lies_new w1 H2 hH2 [61, 13, 10] (0, 0)
                  have A2 : Aside (Ob w1 B (.slice va ln vc) acc ∧ Lies (w1.alloc (.cells #[.int .u8 61, .int .u8 13, .int .u8 10] 5)) (some ⟨H, 0, none⟩) p ∧ Below B w (w1.alloc (.cells #[.int .u8 61, .int .u8 13, .int .u8 10] 5))) := ⟨hob1, a1.1.below bal, (ax.2.2.2.2.2.2.1.trans (a1.2.2.mono ax.2.2.2.2.1.le)).trans (bal.mono hob1.le)⟩
                  have AL : Aside (acc.length + [61, 13, 10].length ≤ 140737488355328) := by have := AN.out; show _ ≤ _; simp; omega
                  clear ax a1 hsz bal hob1
                  go_wp2_with (at_builtin; refine wpList_ob _ rfl (.tmp 54) (.tmp 55) rfl B (.slice va ln vc) acc (by rfl) hobA (some ⟨H2, 0, none⟩) [61, 13, 10] 3 3 rfl (by rfl) (by intro h; cases h) hlA AL.out ?_; intro v6 w6 hap)
                  go_meet
                  have ax := AX.out
                  have an := AN.out
                  have a2 := A2.out
                  obtain ⟨a6, c6, hv6, _⟩ := Ob.shape hap.ow
                  refine ⟨a6, _, c6, 0, hv6, rfl, acc ++ [61, 13, 10], hap.ow, hap.lies ax.2.2.2.2.1 A1.out.2.1 a2.2.1, a2.2.2.trans hap.ap.bel, by omega, ?_, by simp; omega⟩
                  rw [← ax.2.2.2.2.2.1, AW.out.1 (of_decide_eq_true AT.out), Nat.zero_add]
                  simp
                | false =>
                  go_wp2_with fail
                  go_meet
                  have ax := AX.out
                  have an := AN.out
                  have a1 := A1.out
                  have hgt := of_decide_eq_false AT.out
                  refine ⟨va, ln, vc, n, rfl, rfl, acc, Ow.below ax.2.2.2.2.1 a1.2.2 (Nat.le_refl _), a1.1, ax.2.2.2.2.2.2.1.trans (a1.2.2.mono ax.2.2.2.2.1.le), by omega, ?_, by omega⟩
                  rw [← ax.2.2.2.2.2.1, AW.out.2 (of_decide_eq_false AT.out), an.2.1]
              case rest =>
                obtain ⟨a5, l5, c5, n5, rfl, rfl, hC⟩ := hcut
                obtain ⟨acc5, hob5, hl5, hb5, hn5, hacc5, hlen5⟩ := hC.out
                obtain ⟨np5, hnp5⟩ : ∃ np5, n5 + pn = np5 := ⟨_, rfl⟩
                have hnp5I : (n5 : Int) + (pn : Int) = (np5 : Int) := by omega
                have hnp5b : (np5 : Int) < 1000 := by omega
                have AP : Aside (p.length = pn ∧ n5 + pn = np5) := ⟨AN.out.2.2.1, hnp5⟩
                have A5 : Aside (n5 + pn ≤ m1 ∧ acc5 ++ (p ++ wri m (n5 + pn) r) = wri m 0 l) := ⟨hn5, hacc5⟩
                have A7 : Aside (Below B w wc) := hb5
                clear hC hn5 hacc5 hnp5 hnpI hm1I hnpb hm1b t1 t1' hb5
                go_wp2_with (at_builtin; refine wpList_ob _ rfl (.tmp 57) (.tmp 58) rfl B (.slice a5 l5 c5) acc5 (by rfl) hob5 (some ⟨H, 0, none⟩) p pn c AP.out.1 (by rfl) (by intro h; cases h) hl5 hlen5 ?_; intro v6 w6 hap)
                have ax := AX.out
                have a5 := A5.out
                have ap := AP.out
                have an := AN.out
                go_roundg (gk - 1)
                case measure => omega
                case rel => exact ⟨np5, i + 1, rfl, by rw [ax.2.2.1], by omega, by omega, acc5 ++ p, hap.ow, by rw [List.append_assoc, ← ap.2, ax.2.2.1, ax.2.2.2.2.2.2.2.1]; exact a5.2, A7.out.trans hap.ap.bel⟩
end Go.Proofs.Ytapljkenmgdkmaa

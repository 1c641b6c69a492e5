/-
  What Write comes to.
-/
import Derived.Test.YtapljkenmgdkmabPce
import Derived.Deep.LoopGhost
namespace Go.Proofs.Ytapljkenmgdkmab
open Go.RowKit
set_option linter.unusedVariables false
set_option maxHeartbeats 1000000 in
theorem write_c (w : World) (a : Option Addr) (l : List Nat) (L C : Nat) (z : Int) (hl : Lies w a l) (hL : l.length = L) (hLb : L ≤ 20000000) (hLC : L ≤ C) (ho : Oct l) (haz : a = none → L = 0 ∧ C = 0) :
    Calls Try.prog 12 #[.slice a L C, .int .i64 z] w fun e w' => ∃ v, e = .returned v ∧ Ob w' w.heap.size v (wri (wid z) 0 l) ∧ Below w.heap.size w w' := by
  obtain ⟨B, hB⟩ : ∃ B, w.heap.size = B := ⟨_, rfl⟩
  rw [hB]
  obtain ⟨q, hq⟩ : ∃ q, decide (z < 4 ∨ 76 < z) = q := ⟨_, rfl⟩
  obtain ⟨m, hm⟩ : ∃ m, wid z = m := ⟨_, rfl⟩
  rw [hm]
  have hm4 := wid_le z
  rw [hm] at hm4
  have hmq : Aside ((q = true → m = 76) ∧ (q = false → z = (m : Int))) := by
    subst hq
    subst hm
    unfold wid
    by_cases h : z < 4 ∨ 76 < z
    · rw [decide_eq_true h, if_pos h]; exact ⟨fun _ => rfl, (fun h => by cases h)⟩
    · rw [decide_eq_false h, if_neg h]; exact ⟨(fun h => by cases h), fun _ => by omega⟩
  have AQ : Aside (decide (z < 4 ∨ 76 < z) = q) := hq
  have A : Aside (Lies w a l ∧ l.length = L ∧ L ≤ 20000000 ∧ L ≤ C ∧ Oct l ∧ w.heap.size = B ∧ (a = none → L = 0 ∧ C = 0) ∧ 4 ≤ m ∧ m ≤ 76) := ⟨hl, hL, hLb, hLC, ho, hB, haz, hm4.1, hm4.2⟩
  clear hl hL hLb hLC ho hB haz hm hm4 hq
  go_enter Try.func12, Try.ntmps12
  go_upto_region 1 with fail
  go_cut [13] (fun s13 wc => wc = w ∧ s13 = .bool q)
  case first =>
    by_cases h1 : z < 4
    · have t1 : (z < 4) = True := eq_true h1
      have e : q = true := by rw [← AQ.out]; exact decide_eq_true (Or.inl h1)
      clear h1
      go_wp2_with fail
      go_meet
      exact ⟨rfl, by rw [e]⟩
    · have t1 : (z < 4) = False := eq_false h1
      by_cases h2 : 76 < z
      · have t2 : (76 < z) = True := eq_true h2
        have e : q = true := by rw [← AQ.out]; exact decide_eq_true (Or.inr h2)
        clear h1 h2
        go_wp2_with fail
        go_meet
        exact ⟨rfl, by rw [e]⟩
      · have t2 : (76 < z) = False := eq_false h2
        have e : q = false := by rw [← AQ.out]; exact decide_eq_false (by omega)
        clear h1 h2
        go_wp2_with fail
        go_meet
        exact ⟨rfl, by rw [e]⟩
  case rest =>
    obtain ⟨hw, rfl⟩ := hcut
    have hw := hw.symm
    subst hw
    go_upto_if 13 with fail
    go_cut [1] (fun s1 wc => wc = w ∧ s1 = .int .i64 (m : Int))
    case first =>
      cases q with
      | true =>
        have e : Aside (m = 76) := hmq.out.1 rfl
        go_wp2_with fail
        go_meet
        exact ⟨rfl, by rw [e.out]; rfl⟩
      | false =>
        have e : Aside (z = (m : Int)) := hmq.out.2 rfl
        go_wp2_with fail
        go_meet
        exact ⟨rfl, by rw [e.out]⟩
    case rest =>
      obtain ⟨hw, rfl⟩ := hcut
      have hw := hw.symm
      subst hw
      clear AQ hmq
      go_wp2_with fail
      go_loopg [0, 5, 6, 7] L (fun gg s0 s5 s6 s7 wr => ∃ (n L2 C2 : Nat) (a2 : Option Addr), s0 = .slice a2 L2 C2 ∧ s6 = .int .i64 (n : Int) ∧ Aside (L2 = gg ∧ L2 ≤ C2 ∧ L2 ≤ L ∧ (a2 = none → L2 = 0 ∧ C2 = 0) ∧ n ≤ m - 1 ∧ ∃ l2 acc, l2.length = L2 ∧ Lies w a2 l2 ∧ Oct l2 ∧ Ob wr B s5 acc ∧ acc ++ wri m n l2 = wri m 0 l ∧ Below B w wr))
      case atStart =>
        have a0 := A.out
        exact ⟨0, L, C, a, rfl, rfl, rfl, a0.2.2.2.1, Nat.le_refl _, a0.2.2.2.2.2.2.1, by omega, l, [], a0.2.1, a0.1, a0.2.2.2.2.1, Ow.nil (by omega), rfl, Below.refl _ _⟩
      case round =>
        obtain ⟨n, L2, C2, a2, rfl, rfl, hI⟩ := hrel
        obtain ⟨hLg, hLC2, hL2, han, hnm, l2, acc, hll, hlies2, ho2, hob, hacc, hbel⟩ := hI.out
        have a0 := A.out
        obtain ⟨va, vc, hv, hvc, hlies, hvn⟩ := hob.shape
        obtain ⟨ln, hln⟩ : ∃ ln, acc.length = ln := ⟨_, rfl⟩
        rw [hln] at hv
        subst hv
        have hsum : acc.length + (wri m n l2).length ≤ 6 * L := by
          have h1 := congrArg List.length hacc
          rw [List.length_append] at h1
          have h2 := wri_len m l 0
          omega
        cases l2 with
        | nil =>
          simp at hll
          subst hll
          have AX : Aside (Ob wr B (.slice va ln vc) acc ∧ acc = wri m 0 l ∧ Below B w wr) := ⟨hob, by rw [wri_nil] at hacc; simpa using hacc, hbel⟩
          clear hI hLg hLC2 hL2 han hnm hlies2 ho2 hob hacc hbel a0 hvc hlies hvn hln hsum
          go_wp2_with fail
          go_ret
          have ax := AX.out
          exact ⟨_, rfl, by rw [← ax.2.1]; exact ax.1, ax.2.2⟩
        | cons b r =>
          have t1 : ((0 : Int) < (L2 : Int)) = True := eq_true (by simp at hll; omega)
          have t1' : (0 < L2) = True := eq_true (by simp at hll; omega)
          have hl3 : Lies wr a2 (b :: r) := hlies2.below (by rw [a0.2.2.2.2.2.1]; exact hbel)
          have hen := ends_c wr a2 (b :: r) L2 C2 hl3 hll
          obtain ⟨ab, ao, ha2, _⟩ := hl3.one
          subst ha2
          by_cases hc : crlf (b :: r) = true
          · rw [hc] at hen
            obtain ⟨r2, e⟩ := (crlf_iff _).1 hc
            rw [e] at hacc hlies2 hll ho2 hsum
            rw [wri_crlf] at hacc hsum
            clear e hc
            have h2 : 2 ≤ L2 := by simp at hll; omega
            obtain ⟨o2, hs1, hs2⟩ := slice_from ab ao L2 C2 2 h2 hLC2
            have hl4 : Lies w (some ⟨ab, o2, none⟩) r2 := hs2 w _ hll hlies2
            have hs3 : ∀ W : World, (Instr.slice 23 (.slice (some ⟨ab, ao, none⟩) L2 C2) (some (.int .i64 2)) none none).run Try.prog W = .ok (.slice (some ⟨ab, o2, none⟩) (L2 - 2) (C2 - 2)) W := hs1
            obtain ⟨L3, hL3⟩ : ∃ L3, L2 - 2 = L3 := ⟨_, rfl⟩
            obtain ⟨C3, hC3⟩ : ∃ C3, C2 - 2 = C3 := ⟨_, rfl⟩
            rw [hL3, hC3] at hs3
            have AX : Aside (L2 = gk ∧ L3 + 2 = L2 ∧ L3 ≤ C3 ∧ L2 ≤ L ∧ 4 ≤ m ∧ r2.length = L3 ∧ Lies w (some ⟨ab, o2, none⟩) r2 ∧ Oct r2 ∧ Ob wr B (.slice va ln vc) acc ∧ (acc ++ [13, 10]) ++ wri m 0 r2 = wri m 0 l ∧ Below B w wr) := ⟨hLg, by omega, by omega, hL2, a0.2.2.2.2.2.2.2.1, by simp at hll; omega, hl4, fun x hx => ho2 x (by simp [hx]), hob, by simpa using hacc, hbel⟩
            have AL : Aside (acc.length + [13, 10].length ≤ 140737488355328) := by
              show _ ≤ _
              simp at hsum ⊢
              omega
            clear hI hLg hLC2 hL2 han hnm hll hlies2 ho2 hob hacc hbel a0 hvc hlies hvn hln hsum hl3 h2 hs1 hs2 hl4 hL3 hC3
            obtain ⟨H, hH⟩ : ∃ H, wr.heap.size = H := ⟨_, rfl⟩
            go_upto_region 7 with (go_at_call 22; refine hen.mono ?_; rintro e1 w0 ⟨rfl, hw0⟩; subst hw0)
            go_region_law (refine step_ob _ (by rfl) _ _ (by rfl) B (.slice va ln vc) acc (by rfl) (by first | exact Ow.below AX.out.2.2.2.2.2.2.2.2.1 ((Below.refl _ wr).alloc (Nat.le_refl _) _) (Nat.le_refl _) | exact (Ow.below AX.out.2.2.2.2.2.2.2.2.1 ((Below.refl _ wr).alloc (Nat.le_refl _) _) (Nat.le_refl _)).drew | exact Ow.below AX.out.2.2.2.2.2.2.2.2.1.drew ((Below.refl _ wr.drew).alloc (Nat.le_refl _) _) (Nat.le_refl _)) ⟨H, 0, none⟩ [13, 10] 2 2 rfl (by rfl) (by first | exact lies_new wr H hH [13, 10] (0, 0) | exact (lies_new wr H hH [13, 10] (0, 0)).drewN 1 | exact lies_new wr.drew H hH [13, 10] (0, 0)) AL.out ?_; intro v6 w6 hap)
            have A6 : Aside (Ob w6 B v6 (acc ++ [13, 10]) ∧ Below B w w6) := ⟨hap.ow, (AX.out.2.2.2.2.2.2.2.2.2.2.trans (((Below.refl wr.heap.size wr).alloc (Nat.le_refl _) _).drew.mono AX.out.2.2.2.2.2.2.2.2.1.le)).trans hap.ap.bel⟩
            clear hap
            go_wp2_with fail
            have ax := AX.out
            have a6 := A6.out
            go_roundg (gk - 2)
            case measure => omega
            case rel => exact ⟨0, L3, C3, _, rfl, rfl, by omega, ax.2.2.1, by omega, (fun h => by cases h), by omega, r2, acc ++ [13, 10], ax.2.2.2.2.2.1, ax.2.2.2.2.2.2.1, ax.2.2.2.2.2.2.2.1, a6.1, ax.2.2.2.2.2.2.2.2.2.1, a6.2⟩
          · have hcf : crlf (b :: r) = false := by simpa using hc
            rw [hcf] at hen
            have hb : b < 256 := ho2 b (by simp)
            have hpc := piece_c wr (some ⟨ab, ao, none⟩) b r L2 C2 hl3 hll hLC2 hb
            unfold PcTo at hpc
            obtain ⟨p, hp⟩ : ∃ p, pc b r = p := ⟨_, rfl⟩
            have hpl := pc_len b r
            have hcut := fun (h : m - 1 < n + (pc b r).length) => wri_cut (m := m) hcf h
            have hon := fun (h : ¬ m - 1 < n + (pc b r).length) => wri_on (m := m) hcf h
            rw [hp] at hpc hpl hcut hon
            obtain ⟨pn, hpn⟩ : ∃ pn, p.length = pn := ⟨_, rfl⟩
            rw [hpn] at hpc hpl hcut hon
            have h1 : 1 ≤ L2 := by simp at hll; omega
            obtain ⟨o2, hs1, hs2⟩ := slice_from ab ao L2 C2 1 h1 hLC2
            have hl4 : Lies w (some ⟨ab, o2, none⟩) r := hs2 w _ hll hlies2
            have hs3 : ∀ W : World, (Instr.slice 23 (.slice (some ⟨ab, ao, none⟩) L2 C2) (some (.int .i64 1)) none none).run Try.prog W = .ok (.slice (some ⟨ab, o2, none⟩) (L2 - 1) (C2 - 1)) W := hs1
            obtain ⟨L3, hL3⟩ : ∃ L3, L2 - 1 = L3 := ⟨_, rfl⟩
            obtain ⟨C3, hC3⟩ : ∃ C3, C2 - 1 = C3 := ⟨_, rfl⟩
            rw [hL3, hC3] at hs3
            obtain ⟨m1, hm1⟩ : ∃ m1, m - 1 = m1 := ⟨_, rfl⟩
            have hm1I : (m : Int) - 1 = (m1 : Int) := by omega
            obtain ⟨np, hnp⟩ : ∃ np, n + pn = np := ⟨_, rfl⟩
            have hnpI : (n : Int) + (pn : Int) = (np : Int) := by omega
            have hnpb : (np : Int) < 1000 := by omega
            have hm1b : (m1 : Int) < 1000 := by omega
            rw [hm1, hnp] at hcut hon
            have AX : Aside (L2 = gk ∧ L3 + 1 = L2 ∧ L3 ≤ C3 ∧ L2 ≤ L ∧ 4 ≤ m ∧ r.length = L3 ∧ Lies w (some ⟨ab, o2, none⟩) r ∧ Oct r ∧ Ob wr B (.slice va ln vc) acc ∧ acc ++ wri m n (b :: r) = wri m 0 l ∧ Below B w wr) := ⟨hLg, by omega, by omega, hL2, a0.2.2.2.2.2.2.2.1, by simp at hll; omega, hl4, fun x hx => ho2 x (by simp [hx]), hob, hacc, hbel⟩
            have AW : Aside ((m1 < np → wri m n (b :: r) = [61, 13, 10] ++ (p ++ wri m pn r)) ∧ (¬ m1 < np → wri m n (b :: r) = p ++ wri m np r)) := ⟨hcut, hon⟩
            have AN : Aside (m - 1 = m1 ∧ n + pn = np ∧ p.length = pn ∧ pn ≤ 3 ∧ n ≤ m1 ∧ acc.length + (wri m n (b :: r)).length ≤ 6 * L ∧ L ≤ 20000000) := ⟨hm1, hnp, hpn, hpl.2, by omega, hsum, a0.2.2.1⟩
            clear hI hLg hLC2 hL2 han hnm hll hlies2 ho2 hob hacc hbel a0 hvc hlies hvn hln hsum hl3 h1 hs1 hs2 hl4 hL3 hC3 hc hcf hb hp hpl hcut hon hpn hm1 hnp
            go_upto_if 32 with (first
              | (go_at_call 22; refine hen.mono ?_; rintro e1 w0 ⟨rfl, hw0⟩; subst hw0)
              | (go_at_call 23; refine hpc.mono ?_; rintro e1 w1 ⟨H, c, rfl, hlp, hH, hb1⟩))
            clear hen hpc
            have A1 : Aside (Lies w1 (some ⟨H, 0, none⟩) p ∧ wr.heap.size ≤ H ∧ Below wr.heap.size wr w1) := ⟨hlp, hH, hb1⟩
            clear hlp hH hb1
            obtain ⟨tb, htb⟩ : ∃ tb, decide (m1 < np) = tb := ⟨_, rfl⟩
            rw [htb]
            have AT : Aside (decide (m1 < np) = tb) := htb
            clear htb
            go_cut [5, 6] from 14 to 44 (fun s5 s6 wc => ∃ (a5 : Option Addr) (l5 c5 n5 : Nat), s5 = .slice a5 l5 c5 ∧ s6 = .int .i64 (n5 : Int) ∧ Aside (∃ acc5, Ob wc B s5 acc5 ∧ Lies wc (some ⟨H, 0, none⟩) p ∧ Below B w wc ∧ n5 + pn ≤ m1 ∧ acc5 ++ (p ++ wri m (n5 + pn) r) = wri m 0 l ∧ acc5.length + p.length ≤ 140737488355328))
            case first =>
              cases tb with
              | true =>
                have ax := AX.out
                have a1 := A1.out
                have hsz := a1.2.2.size
                obtain ⟨H2, hH2⟩ : ∃ H2, w1.heap.size = H2 := ⟨_, rfl⟩
                have bal : Below w1.heap.size w1 (w1.alloc (.cells #[.int .u8 61, .int .u8 13, .int .u8 10] 5)) := (Below.refl _ w1).alloc (Nat.le_refl _) _
                have hob1 : Ob w1 B (.slice va ln vc) acc := Ow.below ax.2.2.2.2.2.2.2.2.1 a1.2.2 (Nat.le_refl _)
                have hobA : Ob (w1.alloc (.cells #[.int .u8 61, .int .u8 13, .int .u8 10] 5)) B (.slice va ln vc) acc := Ow.below hob1 bal (Nat.le_refl _)
                have hlA : Lies (w1.alloc (.cells #[.int .u8 61, .int .u8 13, .int .u8 10] 5)) (some ⟨H2, 0, none⟩) [61, 13, 10] := lies_new w1 H2 hH2 [61, 13, 10] (0, 0)
                have A2 : Aside (Ob w1 B (.slice va ln vc) acc ∧ Lies (w1.alloc (.cells #[.int .u8 61, .int .u8 13, .int .u8 10] 5)) (some ⟨H, 0, none⟩) p ∧ Below B w (w1.alloc (.cells #[.int .u8 61, .int .u8 13, .int .u8 10] 5))) := ⟨hob1, a1.1.below bal, (ax.2.2.2.2.2.2.2.2.2.2.trans (a1.2.2.mono ax.2.2.2.2.2.2.2.2.1.le)).trans (bal.mono hob1.le)⟩
                have AL : Aside (acc.length + [61, 13, 10].length ≤ 140737488355328) := by have := AN.out; show _ ≤ _; simp; omega
                clear ax a1 hsz bal hob1
                go_wp2_with (at_builtin; refine wpList_ob _ rfl (.tmp 33) (.tmp 34) rfl B (.slice va ln vc) acc (by rfl) hobA (some ⟨H2, 0, none⟩) [61, 13, 10] 3 3 rfl (by rfl) (by intro h; cases h) hlA AL.out ?_; intro v6 w6 hap)
                go_meet
                have ax := AX.out
                have an := AN.out
                have a2 := A2.out
                obtain ⟨a6, c6, hv6, _⟩ := Ob.shape hap.ow
                refine ⟨a6, _, c6, 0, hv6, rfl, acc ++ [61, 13, 10], hap.ow, hap.lies ax.2.2.2.2.2.2.2.2.1 A1.out.2.1 a2.2.1, a2.2.2.trans hap.ap.bel, by omega, ?_, by simp; omega⟩
                rw [← ax.2.2.2.2.2.2.2.2.2.1, AW.out.1 (of_decide_eq_true AT.out), Nat.zero_add]
                simp
              | false =>
                go_wp2_with fail
                go_meet
                have ax := AX.out
                have an := AN.out
                have a1 := A1.out
                have hgt := of_decide_eq_false AT.out
                refine ⟨va, ln, vc, n, rfl, rfl, acc, Ow.below ax.2.2.2.2.2.2.2.2.1 a1.2.2 (Nat.le_refl _), a1.1, ax.2.2.2.2.2.2.2.2.2.2.trans (a1.2.2.mono ax.2.2.2.2.2.2.2.2.1.le), by omega, ?_, by omega⟩
                rw [← ax.2.2.2.2.2.2.2.2.2.1, AW.out.2 (of_decide_eq_false AT.out), an.2.1]
            case rest =>
              obtain ⟨a5, l5, c5, n5, rfl, rfl, hC⟩ := hcut
              obtain ⟨acc5, hob5, hl5, hb5, hn5, hacc5, hlen5⟩ := hC.out
              obtain ⟨np5, hnp5⟩ : ∃ np5, n5 + pn = np5 := ⟨_, rfl⟩
              have hnp5I : (n5 : Int) + (pn : Int) = (np5 : Int) := by omega
              have hnp5b : (np5 : Int) < 1000 := by omega
              have AP : Aside (p.length = pn ∧ n5 + pn = np5) := ⟨AN.out.2.2.1, hnp5⟩
              have A5 : Aside (n5 + pn ≤ m1 ∧ acc5 ++ (p ++ wri m (n5 + pn) r) = wri m 0 l) := ⟨hn5, hacc5⟩
              clear hC hn5 hacc5 hnp5 hnpI hm1I hnpb hm1b t1 t1'
              go_upto_region 11 with fail
              have A7 : Aside (Below B w wc) := hb5
              clear hb5
              go_region_law (refine step_ob _ (by rfl) (.tmp 36) (.tmp 37) (by rfl) B (.slice a5 l5 c5) acc5 (by go_simp) (by first | exact hob5.drew | exact hob5) ⟨H, 0, none⟩ p pn c AP.out.1 (by go_simp) (by first | exact hl5.drewN 1 | exact hl5) hlen5 ?_; intro v6 w6 hap)
              have A6 : Aside (Ob w6 B v6 (acc5 ++ p) ∧ Below B w w6) := ⟨hap.ow, (A7.out.drew).trans hap.ap.bel⟩
              clear hap
              go_wp2_with fail
              have ax := AX.out
              have a6 := A6.out
              have a5 := A5.out
              have ap := AP.out
              have an := AN.out
              go_roundg (gk - 1)
              case measure => omega
              case rel => exact ⟨np5, L3, C3, _, rfl, by rw [wr_id _ (by omega) (by have := A.out.2.2.2.2.2.2.2; omega)], by omega, ax.2.2.1, by omega, (fun h => by cases h), by omega, r, acc5 ++ p, ax.2.2.2.2.2.1, ax.2.2.2.2.2.2.1, ax.2.2.2.2.2.2.2.1, a6.1, by rw [List.append_assoc, ← ap.2]; exact a5.2, a6.2⟩
end Go.Proofs.Ytapljkenmgdkmab

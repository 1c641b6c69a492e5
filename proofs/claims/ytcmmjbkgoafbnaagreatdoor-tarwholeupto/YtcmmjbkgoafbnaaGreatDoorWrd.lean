/-
  Records gone through: what read comes to.
-/
import Derived.Test.YtcmmjbkgoafbnaaGreatDoorWcu
import Derived.Test.YtcmmjbkgoafbnaaGreatDoorCut
import Derived.WalkMore
import Derived.Deep.RegionHeld3
namespace Go.Proofs.YtcmmjbkgoafbnaaGreatDoor
open Go.RowKit
set_option linter.unusedVariables false
set_option linter.unusedSimpArgs false
theorem slice_f (b o L C f : Nat) (h1 : f ≤ L) (h2 : L ≤ C) (h3 : f ≠ C) (W : World) : (Instr.slice 22 (.slice (some ⟨b, o, none⟩) L C) (some (.int .i64 (f : Int))) none none).run Tryz.prog W = .ok (.slice (some ⟨b, o + f, none⟩) (L - f) (C - f)) W := by
  have hk1 : (f : Int) ≤ (L : Int) := by omega
  have hk2 : (L : Int) ≤ (C : Int) := by omega
  have hk0 : (0 : Int) ≤ (f : Int) := by omega
  have hCk : ¬ C = f := by omega
  have hCk2 : ¬ (C : Int) = (f : Int) := by omega
  clear h1 h2 h3
  go_simp
theorem slice_fC (b o C : Nat) (W : World) : (Instr.slice 22 (.slice (some ⟨b, o, none⟩) C C) (some (.int .i64 (C : Int))) none none).run Tryz.prog W = .ok (.slice (some ⟨b, o, none⟩) 0 0) W := by
  have hk0 : (0 : Int) ≤ (C : Int) := by omega
  go_simp
theorem slice_t (b o L C e : Nat) (h1 : e ≤ L) (h2 : L ≤ C) (h3 : 0 < C) (W : World) : (Instr.slice 22 (.slice (some ⟨b, o, none⟩) L C) none (some (.int .i64 (e : Int))) none).run Tryz.prog W = .ok (.slice (some ⟨b, o, none⟩) e C) W := by
  have hk1 : (e : Int) ≤ (L : Int) := by omega
  have hk2 : (e : Int) ≤ (C : Int) := by omega
  have hk0 : (0 : Int) ≤ (e : Int) := by omega
  have hCk : ¬ C = 0 := by omega
  have hCk2 : ¬ (C : Int) = 0 := by omega
  clear h1 h2 h3
  go_simp
section
variable {W : Nat} {s : Ts} {v : Rv}
/-- Where the outer loop stands: k bytes are gone through, c is to come. -/
structure Rq (W : Nat) (s : Ts) (v : Rv) (w wr : World) (k : Nat) (c : Cm) : Prop where
  wm : Wm wr W (tcs s c) v
  bu : But W w wr
  er : Er wr
  le : k ≤ s.ln
  res : trr ((s.K.take s.ln).drop k) c = trr (s.K.take s.ln) (s.nm, s.sz)
set_option maxRecDepth 100000 in
set_option maxHeartbeats 4000000 in
theorem read_c (w : World) (h : Wm w W s v) (he : Er w) (hW : 3 ≤ W) : Calls Tryz.prog 59 #[.pointer (some ⟨W, 1541, none⟩), .slice (some ⟨W, 516, none⟩) s.ln 1024] w fun e w' => Cr W s v (trr (s.K.take s.ln) (s.nm, s.sz)) w e w' := by
  obtain ⟨N, hN⟩ : ∃ N, s.ln = N := ⟨_, rfl⟩
  obtain ⟨R, hR⟩ : ∃ R, trr (s.K.take s.ln) (s.nm, s.sz) = R := ⟨_, rfl⟩
  rw [hR, hN]
  have A : Aside (s.ln = N ∧ 3 ≤ W ∧ trr (s.K.take s.ln) (s.nm, s.sz) = R) := ⟨hN, hW, hR⟩
  have A0 : Aside (Rq W s v w w 0 (s.nm, s.sz)) := ⟨h, But.refl _ _, he, Nat.zero_le _, by simp⟩
  clear hN hR he hW h
  go_enter Tryz.func59, Tryz.ntmps59
  go_wp2_with fail
  go_step3
  go_wp2_with fail
  go_step3
  go_wp2_with fail
  go_loopg [1] (N + 1) (fun gg s1 wr => ∃ (o L C : Nat), s1 = .slice (some ⟨W, o, none⟩) L C ∧ Aside (∃ k c, Rq W s v w wr k c ∧ k + gg = N + 1 ∧ L = N - k ∧ C = 1024 - k ∧ (L = 0 ∨ o = 516 + k)))
  case atStart => exact ⟨516, N, 1024, rfl, ⟨0, _, A0.out, by omega, by omega, rfl, Or.inr rfl⟩⟩
  case round =>
    clear A0
    obtain ⟨o, L, C, rfl, AR⟩ := hrel
    obtain ⟨k, c, rq, hkg, hL, hC, ho⟩ := AR.out
    have a0 := A.out
    by_cases hL0 : L = 0
    · have t1 : ((0 : Int) < (L : Int)) = False := eq_false (by omega)
      have AX : Aside (Cr W s v R w (.returned (.int .i64 0)) wr) := by
        have hl : (s.K.take s.ln).drop k = [] := List.drop_of_length_le (by rw [List.length_take]; have := rq.le; omega)
        have hr := rq.res
        rw [hl, trr_nil, a0.2.2] at hr
        rw [← hr]
        exact ⟨rfl, rq.wm, rq.bu, rq.er⟩
      subst hL0
      clear AR rq hkg hL hC ho a0 A
      go_wp2_with fail
      (try rw [Exit.noGoto_ret])
      first | go_ret | go_ret2
      exact AX.out
    · obtain rfl : o = 516 + k := by rcases ho with e | e; exact absurd e hL0; exact e
      have hk9 := rq.wm.ok
      have hkl : s.K.length = 1024 := hk9.kl
      have hko : Oct s.K := hk9.ko
      have hln : s.ln ≤ 1024 := hk9.ln
      obtain ⟨l, hl⟩ : ∃ l, (s.K.take s.ln).drop k = l := ⟨_, rfl⟩
      have hll : l.length = L := by rw [← hl, List.length_drop, List.length_take]; omega
      have hlo : Oct l := by rw [← hl]; exact (hko.take _).drop _
      have hlx : ∀ (i x : Nat), l[i]? = some x → s.K[k + i]? = some x := fun i x hx => by
        rw [← hl, List.getElem?_drop, List.getElem?_take] at hx
        split at hx
        · exact hx
        · cases hx
      have hcx : ∀ (u : World) (c' : Cm), Wm u W (tcs s c') v → ∀ (i x : Nat), l[i]? = some x → u.cell? ⟨W, 516 + k + i, none⟩ = some (.int .u8 (x : Int)) := fun u c' hu i x hx => by
        rw [Nat.add_assoc]; exact hu.kk (hlx i x hx)
      have hcut := cut_c W (516 + k) l L C wr hll hlo (by omega) (by omega) (hcx wr c rq.wm)
      have t1 : ((0 : Int) < (L : Int)) = True := eq_true (by omega)
      have t1n : (0 < L) = True := eq_true (by omega)
      have AQ : Aside (Rq W s v w wr k c ∧ k + gk = N + 1 ∧ L = N - k ∧ C = 1024 - k ∧ (s.K.take s.ln).drop k = l ∧ l.length = L ∧ Oct l ∧ L ≠ 0 ∧ N ≤ 1024 ∧ trr l c = R) := ⟨rq, hkg, hL, hC, hl, hll, hlo, hL0, by omega, by rw [← a0.2.2, ← rq.res, hl]⟩
      have ACX : Aside (∀ (u : World) (c' : Cm), Wm u W (tcs s c') v → ∀ (i x : Nat), l[i]? = some x → u.cell? ⟨W, 516 + k + i, none⟩ = some (.int .u8 (x : Int))) := hcx
      clear AR rq hkg hL hC ho a0 hk9 hkl hko hln hl hll hlo hlx hcx hL0
      go_upto_region 3 with (go_at_call 65; refine hcut.mono ?_; rintro e1 w1 ⟨hx, rfl⟩; rcases hx with ⟨hz, rfl⟩ | ⟨x, n, m, c1, f, hz, hm, hmc, hc1, rfl, hxl⟩)
      · have aq := AQ.out
        have t2 : (0 : Int) ≤ (L : Int) := by omega
        have t3 : ¬ (C : Int) = 0 := by omega
        have t4 : ¬ C = 0 := by omega
        have t5 : (L : Int) ≤ (C : Int) := by omega
        have AX : Aside (Cr W s v R w (.returned (.int .i64 49)) w1) := by
          have hl0 : l ≠ [] := fun e => by rw [e] at aq; simp at aq; omega
          have hr := aq.2.2.2.2.2.2.2.2.2
          rw [trr_none hl0 (trc_cut hz)] at hr
          rw [← hr]
          exact ⟨rfl, aq.1.wm, aq.1.bu, aq.1.er⟩
        clear aq hz AQ ACX hcut t1 t1n
        go_wp2_with fail
        obtain ⟨G, hG⟩ : ∃ G, G = gk := ⟨_, rfl⟩
        subst hG
        go_loopg [23] 1 (fun gg s23 wq => s23 = .int .i64 0 ∧ wq = w1)
        case atStart => exact ⟨rfl, rfl⟩
        case round =>
          obtain ⟨rfl, rfl⟩ := hrel
          go_wp2_with fail
          (try rw [Exit.noGoto_ret])
          first | go_ret | go_ret2
          exact AX.out
      · have aq := AQ.out
        have hn : 2 ≤ n ∧ n ≤ L := by
          have := tcut_len hz
          omega
        obtain ⟨o2, ho2, ho3⟩ : ∃ o2, (∀ W1 : World, (Instr.slice 22 (.slice (some ⟨W, 516 + k, none⟩) L C) (some (.int .i64 (n : Int))) none none).run Tryz.prog W1 = .ok (.slice (some ⟨W, o2, none⟩) (L - n) (C - n)) W1) ∧ (L - n = 0 ∨ o2 = 516 + (k + n)) := by
          by_cases hcn : C = n
          · obtain rfl : L = C := by omega
            subst hcn
            exact ⟨516 + k, fun W1 => by rw [Nat.sub_self]; exact slice_fC W (516 + k) L W1, Or.inl (by omega)⟩
          · exact ⟨516 + k + n, fun W1 => slice_f W (516 + k) L C n hn.2 (by omega) (fun e => hcn e.symm) W1, Or.inr (by omega)⟩
        have AZ : Aside (tcut l = some (x, n) ∧ x.length = m ∧ m < c1 ∧ c1 < 1000000 ∧ (∀ (i z : Nat), x[i]? = some z → l[f + i]? = some z) ∧ 2 ≤ n ∧ n ≤ L ∧ (L - n = 0 ∨ o2 = 516 + (k + n)) ∧ Oct x) := ⟨hz, hm, hmc, hc1, hxl, hn.1, hn.2, ho3, fun y hy => aq.2.2.2.2.2.2.1 y ((tcut_len hz).2.2 y hy)⟩
        obtain ⟨Ln, hLn⟩ : ∃ Ln, L - n = Ln := ⟨_, rfl⟩
        obtain ⟨Cn, hCn⟩ : ∃ Cn, C - n = Cn := ⟨_, rfl⟩
        rw [hLn, hCn] at ho2
        have ALC : Aside (L - n = Ln ∧ C - n = Cn) := ⟨hLn, hCn⟩
        clear aq hz hm hmc hc1 hxl hn ho3 hcut t1 t1n hLn hCn
        go_upto_region 4 with fail
        clear ho2
        go_wp2_with fail
        obtain ⟨G, hG⟩ : ∃ G, G = gk := ⟨_, rfl⟩
        subst hG
        go_loopg [23] m (fun gg s23 wq => ∃ i : Nat, s23 = .int .i64 (i : Int) ∧ wq = w1 ∧ Aside (i + gg = m ∧ ∀ j y, j < i → x[j]? = some y → y ≠ 61))
        case atStart => exact ⟨0, rfl, rfl, ⟨by omega, fun j y hj => by omega⟩⟩
        case round =>
          obtain ⟨i, rfl, rfl, AI⟩ := hrel
          have az := AZ.out
          have ai := AI.out
          by_cases him : i < m
          · obtain ⟨y, hy⟩ : ∃ y, x[i]? = some y := ⟨_, List.getElem?_eq_getElem (by omega)⟩
            have hcell : wr.cell? ⟨W, 516 + k + f + i, none⟩ = some (.int .u8 (y : Int)) := by
              have := ACX.out wr c AQ.out.1.wm (f + i) y (az.2.2.2.2.1 i y hy)
              rw [← Nat.add_assoc] at this
              exact this
            have t1 : ((i : Int) < (m : Int)) = True := eq_true (by omega)
            have t2 : (i < m) = True := eq_true him
            have t3 : (i : Int) < 1000000 := by omega
            by_cases h61 : y = 61
            · subst h61
              have aq := AQ.out
              have hte : teq x = some (x.take i, x.drop (i + 1)) := teq_at hy ai.2
              have htr : trc l = some (x.take i, x.drop (i + 1), n) := by rw [trc_of az.1, hte]
              obtain ⟨i1, hi1⟩ : ∃ i1, i + 1 = i1 := ⟨_, rfl⟩
              rw [hi1] at htr hte
              have hko : Oct (x.take i) := az.2.2.2.2.2.2.2.2.take i
              have hvo : Oct (x.drop i1) := az.2.2.2.2.2.2.2.2.drop i1
              obtain ⟨ks, hks⟩ : ∃ ks, st (x.take i) = ks := ⟨_, rfl⟩
              obtain ⟨vs, hvs⟩ : ∃ vs, st (x.drop i1) = vs := ⟨_, rfl⟩
              have hlk : (x.take i).length = i := by rw [List.length_take]; omega
              have hlv : (x.drop i1).length = m - i1 := by rw [List.length_drop, az.2.1]
              obtain ⟨nv, hnv⟩ : ∃ nv, m - i1 = nv := ⟨_, rfl⟩
              rw [hnv] at hlv
              have SH : ∀ (u : World) (c' : Cm), Wm u W (tcs s c') v → (∀ C', (convert 22 9 (.slice (some ⟨W, 516 + k + f, none⟩) i C')).run Tryz.prog u = .ok (.string ks) u) ∧ (∀ C', (convert 22 9 (.slice (some ⟨W, 516 + k + f + i1, none⟩) nv C')).run Tryz.prog u = .ok (.string vs) u) := fun u c' hu => by
                have hcx := ACX.out u c' hu
                rw [← hks, ← hvs]
                refine ⟨fun C' => conv_st i C' hlk hko (Or.inr ⟨W, 516 + k + f, rfl, fun j z hz => ?_⟩), fun C' => conv_st nv C' hlv hvo (Or.inr ⟨W, 516 + k + f + i1, rfl, fun j z hz => ?_⟩)⟩
                · rw [List.getElem?_take] at hz
                  split at hz
                  · have := hcx (f + j) z (az.2.2.2.2.1 j z hz)
                    rw [← Nat.add_assoc] at this
                    exact this
                  · cases hz
                · rw [List.getElem?_drop] at hz
                  have := hcx (f + (i1 + j)) z (az.2.2.2.2.1 _ z hz)
                  rw [← Nat.add_assoc, ← Nat.add_assoc] at this
                  exact this
              have hset := set_c (s := tcs s c) (x.take i) (x.drop i1) hko hvo (by rw [hlv]; omega) wr.drew aq.1.wm.drew aq.1.er.drew A.out.2.1
              rw [hks, hvs] at hset
              have hs1 := fun W1 => slice_t W (516 + k + f) m c1 i (by omega) (by omega) (by omega) W1
              have hs2 := fun W1 => slice_f W (516 + k + f) m c1 i1 (by omega) (by omega) (by omega) W1
              rw [hnv] at hs2
              obtain ⟨cv, hcv⟩ : ∃ cv, c1 - i1 = cv := ⟨_, rfl⟩
              rw [hcv] at hs2
              have hwr : IntKind.i64.wrap ((i : Int) + 1) = (i1 : Int) := by rw [IntKind.wrap_i64]; omega
              have hS0 := SH wr.drew c aq.1.wm.drew
              obtain ⟨r, hr⟩ : ∃ r, tset (x.take i) (x.drop i1) c = r := ⟨_, rfl⟩
              rw [show tset (x.take i) (x.drop i1) ((tcs s c).nm, (tcs s c).sz) = r from hr] at hset
              have AT : Aside (trr l c = if r.2 ≠ 0 then r else trr (l.drop n) r.1) := by
                show trr l c = _
                rw [trr_some htr, hr]
              have ASH : Aside (∀ (u : World) (c' : Cm), Wm u W (tcs s c') v → (∀ C', (convert 22 9 (.slice (some ⟨W, 516 + k + f, none⟩) i C')).run Tryz.prog u = .ok (.string ks) u) ∧ (∀ C', (convert 22 9 (.slice (some ⟨W, 516 + k + f + i1, none⟩) nv C')).run Tryz.prog u = .ok (.string vs) u)) := SH
              clear aq az ai htr hte hko hvo hks hvs hlk hlv hnv hcv SH hr hi1 hy him AI
              go_upto_region 8 with fail
              clear hcell t1 t2
              go_region_held3 (fun u => (∀ C', (convert 22 9 (.slice (some ⟨W, 516 + k + f, none⟩) i C')).run Tryz.prog u = .ok (.string ks) u) ∧ (∀ C', (convert 22 9 (.slice (some ⟨W, 516 + k + f + i1, none⟩) nv C')).run Tryz.prog u = .ok (.string vs) u)) (first | exact hS0 | exact ASH.out _ _ k2) ((go_at_call 66; refine hset.mono ?_; rintro e2 w2 ⟨rfl, k2, b2, r2⟩))
              have aq := AQ.out
              have bu2 : But W w w2 := (aq.1.bu.trans (But.of_below (Below.drewN2 (Below.refl _ wr) 1))).trans b2
              by_cases hr2 : r.2 = 0
              · have hr2i : ((r.2 : Nat) : Int) = 0 := by omega
                have AG : Aside (Rq W s v w w2 (k + n) r.1 ∧ n ≤ L ∧ 2 ≤ n ∧ Ln = N - (k + n) ∧ Cn = 1024 - (k + n) ∧ (Ln = 0 ∨ o2 = 516 + (k + n)) ∧ k + n ≤ N ∧ k + G = N + 1) := by
                  have az := AZ.out
                  have al := ALC.out
                  refine ⟨⟨by rw [tcs_tcs] at k2; exact k2, bu2, r2, by have := A.out.1; omega, ?_⟩, az.2.2.2.2.2.2.1, az.2.2.2.2.2.1, by omega, by omega, by rcases az.2.2.2.2.2.2.2.1 with e | e; exact Or.inl (by omega); exact Or.inr e, by omega, aq.2.1⟩
                  have ht := AT.out
                  rw [if_neg (by rw [hr2]; simp)] at ht
                  rw [← List.drop_drop, aq.2.2.2.2.1, ← ht, aq.2.2.2.2.2.2.2.2.2, A.out.2.2]
                obtain ⟨rc, rw0⟩ := r
                simp only at hr2 hr2i AG
                subst hr2
                clear aq bu2 k2 b2 r2 hset hs1 hs2 hwr hS0 ASH AT AZ ALC AQ ACX hr2i
                go_wp2_with fail
                have ag := AG.out
                go_roundg (G - n)
                case measure => omega
                case rel => exact ⟨o2, Ln, Cn, rfl, ⟨k + n, rc, ag.1, by omega, ag.2.2.2.1, ag.2.2.2.2.1, ag.2.2.2.2.2.1⟩⟩
              · have t6 : (((r.2 : Nat) : Int) != 0) = true := by rw [bne_iff_ne]; omega
                have t7 : (((r.2 : Nat) : Int) == 0) = false := by rw [beq_eq_false_iff_ne]; omega
                have AX : Aside (Cr W s v R w (.returned (.int .i64 (r.2 : Int))) w2) := by
                  have ht := AT.out
                  rw [if_pos hr2, aq.2.2.2.2.2.2.2.2.2] at ht
                  rw [ht]
                  exact ⟨rfl, by rw [tcs_tcs] at k2; exact k2, bu2, r2⟩
                generalize ((r.2 : Nat) : Int) = rr at *
                clear aq bu2 k2 b2 r2 hset hs1 hs2 hwr hS0 ASH AT AZ ALC AQ ACX hr2
                go_wp2_with fail
                (try rw [Exit.noGoto_ret])
                first | go_ret | go_ret2
                exact AX.out
            · have t4 : ((y : Int) != 61) = true := by rw [bne_iff_ne]; omega
              have t5 : ((y : Int) == 61) = false := by rw [beq_eq_false_iff_ne]; omega
              have AG : Aside (i < m ∧ i + gk = m ∧ ∀ j z, j < i + 1 → x[j]? = some z → z ≠ 61) := ⟨him, ai.1, fun j z hj hz => by
                by_cases e : j = i
                · subst e; rw [hy] at hz; cases hz; exact h61
                · exact ai.2 j z (by omega) hz⟩
              clear az ai him hy h61 AI
              go_wp2_with fail
              have ag := AG.out
              go_roundg (gk - 1)
              case measure => omega
              case rel => exact ⟨i + 1, by go_num, rfl, ⟨by omega, ag.2.2⟩⟩
          · have t1 : ((i : Int) < (m : Int)) = False := eq_false (by omega)
            have t2 : (i < m) = False := eq_false him
            have AX : Aside (Cr W s v R w (.returned (.int .i64 49)) wr) := by
              have aq := AQ.out
              have hl0 : l ≠ [] := fun e => by rw [e] at aq; simp at aq; omega
              have hno : 61 ∉ x := fun hm => by
                obtain ⟨j, hj⟩ := List.getElem?_of_mem hm
                have := (List.getElem?_eq_some_iff.1 hj).1
                exact ai.2 j 61 (by omega) hj rfl
              have hr := aq.2.2.2.2.2.2.2.2.2
              have htr : trc l = none := by rw [trc_of az.1, teq_none hno]
              rw [trr_none hl0 htr] at hr
              rw [← hr]
              exact ⟨rfl, aq.1.wm, aq.1.bu, aq.1.er⟩
            clear az ai him AI AZ AQ ACX
            go_wp2_with fail
            (try rw [Exit.noGoto_ret])
            first | go_ret | go_ret2
            exact AX.out
end
end Go.Proofs.YtcmmjbkgoafbnaaGreatDoor

/-
  TarCuts' walk.
-/
import Derived.Test.YtcmmjbkgoafbnabDoorMm
import Derived.Test.YtcmmjbkgoafbnabDoorMh
import Derived.BigQuiet
import Derived.Deep.CutBlock
import Derived.Deep.DeepCutAuto
namespace Go.Proofs.YtcmmjbkgoafbnabDoor
open Go.RowKit
set_option linter.unusedVariables false
set_option maxRecDepth 100000 in
set_option maxHeartbeats 8000000 in
theorem cuts_core (w : World) (he : Er w) (a : Option Addr) (l : List Ent) (N C : Nat) (h : Ea w a l N) (at_ : Nat) (hat : at_ < 65536) : Calls Tryd.prog 3 #[.slice a N C, .int .u16 (at_ : Int)] w fun e w' => e = .returned (.bool true) ∧ Below w.heap.size w w' := by
  have hs := h.small (Below.refl _ w) C
  obtain ⟨lo, hlo⟩ : ∃ lo, w.heap.size = lo := ⟨_, rfl⟩
  have h3 := he.1
  have AW : Aside (∀ u, Below lo w u → Calls Tryd.prog 5 #[] u fun e w' => e = .returned (.bool true) ∧ Below u.heap.size u w') := fun u hu => by
    rw [← hlo] at hu
    exact awake_c u (he.below hu (by omega))
  have A : Aside (Ea w a l N ∧ (∀ u, Below lo w u → Er u) ∧ w.heap.size = lo ∧ 3 ≤ lo ∧ at_ < 65536) := ⟨h, fun u hu => he.below (show Below w.heap.size w u by rw [hlo]; exact hu) (by omega), hlo, by omega, hat⟩
  rw [hlo]
  clear h he hlo h3
  go_enter Tryd.func3, Tryd.ntmps3
  go_upto_if 15 with (go_at_call 4; refine hs.mono ?_; rintro e1 w1 ⟨⟨b, rfl, hb⟩, rfl⟩)
  clear hs
  cases b with
  | false =>
    have ha := AW.out w (Below.refl _ _)
    clear hb
    go_wp2_with (go_at_call 5; refine ha.mono ?_; rintro e2 w2 ⟨rfl, b2⟩)
    first | go_ret | go_ret2
    rw [A.out.2.2.1] at b2
    exact ⟨rfl, b2⟩
  | true =>
    have AS : Aside (N * 500 + sdt l < 20000) := hb rfl
    have hwr := A.out.1.write (Below.refl _ w) AS.out C
    clear hb
    go_upto_region 4 with (go_at_call 6; refine hwr.mono ?_; intro e3 w3 h3; obtain ⟨a3, n, c3, he3, hl3, hb3, hc3, li3, ow3, b3⟩ := h3.ex; subst he3)
    obtain ⟨g3, rfl⟩ : ∃ g3, a3 = some ⟨g3, 0, none⟩ := by
      obtain ⟨a9, c9, hv, _, hq, _⟩ := ow3.shape
      cases hv
      rcases hq with q | ⟨g, hg, _⟩
      · have : (wri l).length = (wal l).length + 1024 := by unfold wri; rw [List.length_append, List.length_replicate]
        omega
      · exact ⟨g, hg⟩
    obtain ⟨k, hk⟩ : ∃ k, at_ % (n + 1) = k := ⟨_, rfl⟩
    have hkn : k ≤ n := by have := Nat.mod_lt at_ (show 0 < n + 1 by omega); omega
    obtain ⟨ns, ls, y, cf⟩ := cf_at (A.out.1.eok AS.out) hl3 hkn
    have bl3 : Below lo w w3 := by rw [← A.out.2.2.1]; exact b3
    have A3 : Aside (Below lo w w3 ∧ lo ≤ w3.heap.size ∧ Cf l n k ns ls y ∧ n ≤ 300000000 ∧ k ≤ n ∧ 512 ≤ n) := ⟨bl3, by have := b3.size; have := A.out.2.2.1; omega, cf, hb3, hkn, by have : (wri l).length = (wal l).length + 1024 := (by unfold wri; rw [List.length_append, List.length_replicate]); omega⟩
    have hsl := slice_t g3 0 n c3 k hkn hc3 (by have : (wri l).length = (wal l).length + 1024 := (by unfold wri; rw [List.length_append, List.length_replicate]); omega)
    have hwh : Calls Tryd.prog 7 #[.slice (some ⟨g3, 0, none⟩) k c3] w3 fun e w' => Whl ns ls y w3 e w' := by
      obtain ⟨s, T, q1, q2, q3⟩ := cf.run
      refine whole_l (b := []) (A.out.2.1 w3 bl3) (lies_front li3 k) (by rw [List.length_take, hl3]; omega) (by omega) ((wri_oct (A.out.1.eok AS.out)).take k) q1 (Or.inr rfl) q2 q3
    have hm1 : ((at_ : Int)).tmod ((n : Int) + 1) = (k : Int) := by
      have : ((at_ : Int)).tmod ((n : Int) + 1) = ((at_ % (n + 1) : Nat) : Int) := by
        rw [Int.tmod_eq_emod_of_nonneg (by omega)]; push_cast; rfl
      rw [this, hk]
    have hm2 : ((at_ : Int)) % ((n : Int) + 1) = (k : Int) := by
      rw [← hk]; push_cast; rfl
    have bat : (at_ : Int) < 65536 := by have := A.out.2.2.2.2; omega
    have bn : (n : Int) ≤ 300000000 := by omega
    have bk : (k : Int) ≤ (n : Int) := by omega
    clear hwr h3 hl3 hb3 hc3 li3 ow3 b3 bl3 cf hkn hk
    go_upto_region 5 with fail
    clear hm1 hm2 bat
    go_upto_region 6 with (go_at_call 7; refine hwh.mono ?_; intro e4 w4 h4; obtain ⟨an, nn, cn, al, nl, cl, he4, hn4, hm4, nl4, rl4, b4⟩ := h4.ex; subst he4)
    have bl4 : Below lo w w4 := A3.out.1.trans (b4.mono A3.out.2.1)
    have htd := A.out.1.toldm (by rw [A.out.2.2.1]; exact bl4) AS.out C
    obtain rfl : nl = nn := by rw [← hm4, ← hn4]; exact A3.out.2.2.1.pre.len.symm
    have A4 : Aside (Below lo w w4 ∧ lo ≤ w4.heap.size ∧ ns.length = nl ∧ ls.length = nl ∧ Nl w4 an ns ∧ Rl w4 al ls) := ⟨bl4, by have := b4.size; have := A3.out.2.1; omega, hn4, hm4, nl4, rl4⟩
    clear hwh h4 hn4 hm4 nl4 rl4 b4 bl4 hsl
    go_upto_region 7 with (go_at_call 8; refine htd.mono ?_; intro e5 w5 h5; obtain ⟨bn_, mm, dn, bl_, dl, he5, hn5, hm5, hc5, hz5, nl5, rl5, b5⟩ := h5.ex; subst he5)
    have a4 := A4.out
    have hle : nl ≤ mm := by have := A3.out.2.2.1.pre.le; rw [a4.2.2.1, hn5] at this; exact this
    have few : mm ≤ 39 := by have := tdn_few A.out.1 AS.out; omega
    have hst := strings_c w5 an bn_ ns nl cn dn a4.2.2.1 (by omega) (a4.2.2.2.2.1.below b5) (nl5.pre A3.out.2.2.1.pre.nam)
    have hfr := fun W => front 28 bn_ mm dn nl hle hc5 hz5 W (Or.inr rfl)
    have f1 : ((mm : Int) < (nl : Int)) = False := eq_false (by omega)
    have f2 : (mm < nl) = False := eq_false (by omega)
    have f3 : ((nl : Int) != (nl : Int)) = false := by simp
    have bmm : (mm : Int) ≤ 39 := by omega
    have bnl : (nl : Int) ≤ (mm : Int) := by omega
    have A5 : Aside (Below lo w w5 ∧ lo ≤ w5.heap.size ∧ Rl w5 al ls ∧ Rl w5 bl_ (tdd l) ∧ (tdd l).length = mm ∧ nl ≤ mm ∧ mm ≤ 39) := ⟨a4.1.trans (b5.mono a4.2.1), by have := b5.size; have := a4.2.1; omega, a4.2.2.2.2.2.below b5, rl5, hm5, hle, few⟩
    clear htd h5 hn5 hm5 hc5 hz5 nl5 rl5 b5 a4 hle few
    go_upto_region 9 with (go_at_call 9; refine hst.mono ?_; rintro e6 w6 ⟨rfl, m6, hm6⟩)
    have A6 : Aside (Below lo w (w5.drewN m6) ∧ lo ≤ (w5.drewN m6).heap.size ∧ Rl (w5.drewN m6) al ls ∧ Rl (w5.drewN m6) bl_ (tdd l)) := ⟨Below.drewN2 A5.out.1 _, A5.out.2.1, A5.out.2.2.1.drewN _, A5.out.2.2.2.1.drewN _⟩
    clear hm6 hst hfr f1 f2 f3
    go_wp2_with fail
    go_loopg [12] nl (fun gg s12 wr => ∃ i : Nat, s12 = .int .i64 (i : Int) ∧ Aside (i + gg = nl ∧ Below lo w wr ∧ lo ≤ wr.heap.size ∧ Rl wr al ls ∧ Rl wr bl_ (tdd l)))
    case atStart => exact ⟨0, rfl, ⟨by omega, A6.out⟩⟩
    case round =>
      clear A6
      obtain ⟨i, rfl, hT⟩ := hrel
      obtain ⟨hig, hbw, hsz, hra, hrb⟩ := hT.out
      by_cases hi : i < nl
      · have t1 : ((i : Int) < (nl : Int)) = True := eq_true (by omega)
        have t2 : (i < nl) = True := eq_true hi
        have t3 : ((i : Int) < (mm : Int)) = True := eq_true (by omega)
        have t4 : (i < mm) = True := eq_true (by omega)
        have bi : (i : Int) ≤ 39 := by omega
        obtain ⟨e, he⟩ : ∃ e, ls[i]? = some e := ⟨_, List.getElem?_eq_getElem (by rw [A4.out.2.2.2.1]; exact hi)⟩
        obtain ⟨d, m, hd, hed, hlast⟩ := A3.out.2.2.1.pre.dat i e he
        rw [A4.out.2.2.2.1] at hlast
        have hlen : e.length ≤ d.length := by rw [hed, List.length_take]; exact Nat.min_le_right _ _
        have hod : Oct d := tdd_oct A.out.1 d (List.mem_of_getElem? hd)
        have hoe : Oct e := by rw [hed]; exact hod.take m
        rcases hra with q | ⟨g1, o1, rfl, h1⟩
        · rw [q] at he; simp at he
        rcases hrb with q | ⟨g2, o2, rfl, h2⟩
        · rw [q] at hd; simp at hd
        obtain ⟨a1, c1, k1, l1, _, _⟩ := h1 i e he
        obtain ⟨a2, c2, k2, l2, hc2, hz2⟩ := h2 i d hd
        have l2e : Lies wr a2 e := by rw [hed]; exact lies_front l2 m
        obtain ⟨vs, hvs⟩ : ∃ vs, st e = vs := ⟨_, rfl⟩
        have hcv1 : ∀ j, (convert 26 9 (.slice a2 e.length c2)).run Tryd.prog (wr.drewN j) = .ok (.string vs) (wr.drewN j) := fun j => by
          rw [← hvs]; exact conv_st e.length c2 rfl hoe (l2e.drewN j)
        have hcv2 : ∀ j, (convert 26 9 (.slice a1 e.length c1)).run Tryd.prog (wr.drewN j) = .ok (.string vs) (wr.drewN j) := fun j => by
          rw [← hvs]; exact conv_st e.length c1 rfl hoe (l1.drewN j)
        have hfr : ∀ W, _ := fun W => front 26 a2 d.length c2 e.length hlen hc2 hz2 W (Or.inl rfl)
        have hsm : d.length ≤ 20000 := by
          have := tdd_sdt l d (List.mem_of_getElem? hd)
          have := AS.out
          omega
        obtain ⟨ke, hke⟩ : ∃ ke, e.length = ke := ⟨_, rfl⟩
        obtain ⟨kd, hkd⟩ : ∃ kd, d.length = kd := ⟨_, rfl⟩
        have hl3 : i + 1 < nl → ke = kd := fun q => by rw [← hke, ← hkd, hlast q]
        rw [hke] at hcv1 hcv2 hfr k1 hlen
        rw [hkd] at hfr k2 hlen hsm
        have f1 : ((kd : Int) < (ke : Int)) = False := eq_false (by omega)
        have f2 : (kd < ke) = False := eq_false (by omega)
        have hss : (vs.toList != vs.toList) = false := by simp
        have bke : (ke : Int) ≤ (kd : Int) := by omega
        have bkd : (kd : Int) ≤ 20000 := by omega
        have AN : Aside (i + gk = nl ∧ i < nl ∧ Below lo w wr ∧ lo ≤ wr.heap.size ∧ Rl wr (some ⟨g1, o1, none⟩) ls ∧ Rl wr (some ⟨g2, o2, none⟩) (tdd l)) := ⟨hig, hi, hbw, hsz, Or.inr ⟨g1, o1, rfl, h1⟩, Or.inr ⟨g2, o2, rfl, h2⟩⟩
        by_cases hq : i + 1 < nl
        · have t5 : ((i : Int) + 1 < (nl : Int)) = True := eq_true (by omega)
          have t6 : (i + 1 < nl) = True := eq_true hq
          obtain rfl : ke = kd := hl3 hq
          have f3 : ((ke : Int) != (ke : Int)) = false := by simp
          clear hT hig hbw hsz h1 h2 he hd hed hlast hlen hod hoe l1 l2 hc2 hz2 l2e hvs hsm hke hkd hl3 hq hi
          go_upto_region 12 with fail
          go_quiet (fail)
          go_wp2_with fail
          have an := AN.out
          go_roundg (gk - 1)
          case measure => omega
          case rel => exact ⟨i + 1, by go_num, ⟨by omega, Below.drewN2 an.2.2.1 _, an.2.2.2.1, an.2.2.2.2.1.drewN _, an.2.2.2.2.2.drewN _⟩⟩
        · have t5 : ((i : Int) + 1 < (nl : Int)) = False := eq_false (by omega)
          have t6 : (i + 1 < nl) = False := eq_false hq
          clear hT hig hbw hsz h1 h2 he hd hed hlast hlen hod hoe l1 l2 hc2 hz2 l2e hvs hsm hke hkd hl3 hq hi
          go_upto_region 12 with fail
          go_quiet (fail)
          go_wp2_with fail
          have an := AN.out
          go_roundg (gk - 1)
          case measure => omega
          case rel => exact ⟨i + 1, by go_num, ⟨by omega, Below.drewN2 an.2.2.1 _, an.2.2.2.1, an.2.2.2.2.1.drewN _, an.2.2.2.2.2.drewN _⟩⟩
      · have t1 : ((i : Int) < (nl : Int)) = False := eq_false (by omega)
        have t2 : (i < nl) = False := eq_false hi
        have ha := AW.out wr hbw
        have AZ : Aside (Below lo w wr ∧ lo ≤ wr.heap.size) := ⟨hbw, hsz⟩
        obtain ⟨q, hq⟩ : ∃ q, k % 512 = q := ⟨_, rfl⟩
        have bq : q < 512 := by rw [← hq]; exact Nat.mod_lt _ (by decide)
        have hq1 : ((k : Int)).tmod 512 = (q : Int) := by
          rw [Int.tmod_eq_emod_of_nonneg (by omega), ← hq]; push_cast; rfl
        have hq2 : ((k : Int)) % 512 = (q : Int) := by rw [← hq]; push_cast; rfl
        have bq2 : (q : Int) < 512 := by omega
        obtain ⟨p, hp⟩ : ∃ p, n - 512 = p := ⟨_, rfl⟩
        have hnp := A3.out.2.2.2.2
        have hp1 : (n : Int) - 512 = (p : Int) := by omega
        have bp : (p : Int) ≤ 300000000 := by omega
        have hmid := A3.out.2.2.1.mid
        have hfin := A3.out.2.2.1.fin
        have hy := A3.out.2.2.1.y01
        rw [hq] at hmid
        clear hT hig hbw hsz hra hrb hi
        by_cases c1 : q = 0 <;> by_cases c2 : p < k <;> by_cases c3 : k < p <;> rcases hy with hy0 | hy0
        all_goals first
          | (exfalso; omega)
          | (
            first
              | have x1 : ((q : Int) == 0) = true := by rw [beq_iff_eq]; omega
              | have x1 : ((q : Int) == 0) = false := by rw [beq_eq_false_iff_ne]; omega
            first
              | have x2 : ((p : Int) < (k : Int)) = True := eq_true (by omega)
              | have x2 : ((p : Int) < (k : Int)) = False := eq_false (by omega)
            first
              | have x2n : (p < k) = True := eq_true (by omega)
              | have x2n : (p < k) = False := eq_false (by omega)
            first
              | have x3 : ((k : Int) < (p : Int)) = True := eq_true (by omega)
              | have x3 : ((k : Int) < (p : Int)) = False := eq_false (by omega)
            first
              | have x3n : (k < p) = True := eq_true (by omega)
              | have x3n : (k < p) = False := eq_false (by omega)
            first
              | have x4 : ((y : Int) == 0) = true := by rw [beq_iff_eq]; omega
              | have x4 : ((y : Int) == 0) = false := by rw [beq_eq_false_iff_ne]; omega
            first
              | have x5 : ((y : Int) == 1) = true := by rw [beq_iff_eq]; omega
              | have x5 : ((y : Int) == 1) = false := by rw [beq_eq_false_iff_ne]; omega
            clear hq hp hnp hmid hfin hy0 c1 c2 c3 bq
            go_wp2_with (go_at_call 5; refine ha.mono ?_; rintro e8 w8 ⟨rfl, b8⟩)
            first | go_ret | go_ret2
            exact ⟨rfl, AZ.out.1.trans (b8.mono AZ.out.2)⟩)
end Go.Proofs.YtcmmjbkgoafbnabDoor

/-
  What the document's Param comes to; are two lists of fields one?
-/
import Derived.Test.YtdndlegfalmkaaaPar
import Derived.Deep.RegionHeld3
namespace Go.Proofs.Ytdndlegfalmkaaa
open Go.RowKit
set_option linter.unusedVariables false
set_option maxHeartbeats 1000000 in
theorem rpar_c (w : World) (m s : ByteArray) (a : Option Addr) (L c : Nat) (T : List Fd) (nm : List Nat) (hv : FL w (.slice a L c) T) (hT : OctF T) (hn : Oct nm) (hnl : nm.length ≤ 140737488355328) (hb : L < 1000000000000000) : Calls Try.prog 20 #[.agg #[.string m, .string s, .slice a L c], .string (st nm)] w fun e w' => e = .returned (.tuple #[.string (st (pr T nm).1), .bool (pr T nm).2]) ∧ Below w.heap.size w w' := by
  obtain ⟨R, hR⟩ : ∃ R, pr T nm = R := ⟨_, rfl⟩
  rw [hR]
  obtain ⟨H, hH⟩ : ∃ H, w.heap.size = H := ⟨_, rfl⟩
  obtain ⟨w1, hw1⟩ : ∃ w1, w1 = w.alloc (.cells #[.string m, .string s, .slice a L c] 24) := ⟨_, rfl⟩
  have b1 : Below w.heap.size w w1 := by rw [hw1]; exact (Below.refl _ w).alloc (Nat.le_refl _) _
  have k1 : Cells w1 H #[.string m, .string s, .slice a L c] 24 := by rw [hw1, ← hH]; exact Cells.new w _ 24
  have hlo := fun W => rlower_c nm hn hnl W
  obtain ⟨N, hN⟩ : ∃ N, st (low nm) = N := ⟨_, rfl⟩
  rw [hN] at hlo
  rw [hH] at b1 ⊢
  have A : Aside (FL w (.slice a L c) T ∧ OctF T ∧ Oct nm ∧ L < 1000000000000000 ∧ pr T nm = R ∧ w.heap.size = H ∧ st (low nm) = N ∧ Below H w w1 ∧ Cells w1 H #[.string m, .string s, .slice a L c] 24) := ⟨hv, hT, hn, hb, hR, hH, hN, b1, k1⟩
  clear hv hT hn hb hR hH hN b1 k1 hnl
  go_enter Try.func20, Try.ntmps20
  go_upto_region 1 with fail
  (try simp only [A.out.2.2.2.2.2.1])
  rw [← hw1]
  clear hw1
  go_wp2_with fail
  go_loopg [6] L (fun gg s6 wr => ∃ k : Nat, s6 = .int .i64 k ∧ Aside (k + gg = L ∧ (∀ g ∈ T.take k, g.1 ≠ low nm) ∧ Below H w wr ∧ Cells wr H #[.string m, .string s, .slice a L c] 24))
  case atStart => exact ⟨0, rfl, by omega, by simp, A.out.2.2.2.2.2.2.2⟩
  case round =>
    obtain ⟨k, rfl, hI⟩ := hrel
    obtain ⟨hkg, hall, hbel, hk1⟩ := hI.out
    obtain ⟨hv, hT, hn, hb, hR, hH, hN, _, _⟩ := A.out
    have hTL := hv.len
    have c2 : wr.cell? ⟨H, 2, none⟩ = some (.slice a L c) := by rw [hk1.cell]; rfl
    by_cases hk : k < L
    · have hki : ((k : Int) < (L : Int)) = True := eq_true (by omega)
      have hkn : (k < L) = True := eq_true hk
      have hkb : (k : Int) < 1000000000000000 := by omega
      obtain ⟨f, hf⟩ : ∃ f, T[k]? = some f := ⟨_, List.getElem?_eq_getElem (by omega)⟩
      obtain ⟨g, o, ha, d1, d2⟩ := hv.pick hbel (by omega) hf
      have hfo := hT f (List.mem_of_getElem? hf)
      subst ha
      have q1 := st_beq hfo.1 hn.low
      obtain ⟨X, hX⟩ : ∃ X, st f.1 = X := ⟨_, rfl⟩
      obtain ⟨Y, hY⟩ : ∃ Y, st f.2 = Y := ⟨_, rfl⟩
      rw [hX] at d1 q1
      rw [hY] at d2
      rw [hN] at q1
      have hS : ∀ W, Below wr.heap.size wr W → W.cell? ⟨H, 2, none⟩ = some (.slice (some ⟨g, o, none⟩) L c) ∧ W.cell? ⟨g, o + k * 2, none⟩ = some (.string X) := fun W hW => ⟨(hW.cell (p := ⟨H, 2, none⟩) hk1.lt).trans c2, (hW.cell (p := ⟨g, o + k * 2, none⟩) (World.block_lt_of_cell? wr _ d1)).trans d1⟩
      have hY2 : ∀ W, Below wr.heap.size wr W → W.cell? ⟨g, o + k * 2 + 1, none⟩ = some (.string Y) := fun W hW => (hW.cell (p := ⟨g, o + k * 2 + 1, none⟩) (World.block_lt_of_cell? wr _ d2)).trans d2
      by_cases hs : f.1 = low nm
      · rw [decide_eq_true hs] at q1
        have A3 : Aside (R = (f.2, true) ∧ Below H w wr ∧ st f.2 = Y ∧ H ≤ wr.heap.size) := ⟨by rw [← hR]; exact pr_hit hall hf hs, hbel, hY, by rw [← hH]; exact hbel.size⟩
        clear hI hkg hall hbel hk1 hv hT hn hb hR hH hN hTL hk hf hfo hs hX hY d2
        go_upto_region 4 with fail
        go_region_held3 (fun w' => w'.cell? ⟨H, 2, none⟩ = some (.slice (some ⟨g, o, none⟩) L c) ∧ w'.cell? ⟨g, o + k * 2, none⟩ = some (.string X)) (first | exact ⟨c2, d1⟩ | exact hS _ hb3)
          (first | (go_at_call 15; (with_reducible refine (hlo _).mono ?_); rintro e2 w2 ⟨rfl, hb2⟩; have hb3 : Below wr.heap.size wr w2 := (Below.drewN2 (Below.refl _ wr) 1).trans hb2))
        obtain ⟨x1, x2⟩ := hS _ hb3
        have x3 := hY2 _ hb3
        clear c2 d1 hS hY2
        go_wp2_with fail
        go_ret2
        exact ⟨by rw [A3.out.1, A3.out.2.2.1]; rfl, A3.out.2.1.trans (hb3.mono A3.out.2.2.2)⟩
      · rw [decide_eq_false hs] at q1
        have A3 : Aside (k + gk = L ∧ k < L ∧ (∀ g ∈ T.take (k + 1), g.1 ≠ low nm) ∧ Below H w wr ∧ H ≤ wr.heap.size ∧ Cells wr H #[.string m, .string s, .slice (some ⟨g, o, none⟩) L c] 24) := by
          refine ⟨hkg, hk, fun g hg => ?_, hbel, by rw [← hH]; exact hbel.size, hk1⟩
          rw [List.take_add_one, hf] at hg
          rcases List.mem_append.1 hg with h | h
          · exact hall g h
          · simp at h; rw [h]; exact hs
        clear hI hkg hall hbel hk1 hv hT hn hb hR hH hN hTL hk hf hfo hs hX hY d2
        go_upto_region 4 with fail
        go_region_held3 (fun w' => w'.cell? ⟨H, 2, none⟩ = some (.slice (some ⟨g, o, none⟩) L c) ∧ w'.cell? ⟨g, o + k * 2, none⟩ = some (.string X)) (first | exact ⟨c2, d1⟩ | exact hS _ hb3)
          (first | (go_at_call 15; (with_reducible refine (hlo _).mono ?_); rintro e2 w2 ⟨rfl, hb2⟩; have hb3 : Below wr.heap.size wr w2 := (Below.drewN2 (Below.refl _ wr) 1).trans hb2))
        clear c2 d1 hS hY2
        go_wp2_with fail
        have a3 := A3.out
        go_roundg (gk - 1)
        case measure => omega
        case rel => exact ⟨k + 1, by go_num, by omega, a3.2.2.1, a3.2.2.2.1.trans (hb3.mono a3.2.2.2.2.1), a3.2.2.2.2.2.below hb3 a3.2.2.2.2.2.lt⟩
    · have hki : ((k : Int) < (L : Int)) = False := eq_false (by omega)
      have hkn : (k < L) = False := eq_false hk
      have A3 : Aside (R = ([], false) ∧ Below H w wr) := ⟨by rw [← hR]; exact pr_none (fun g hg => hall g (by rw [List.take_of_length_le (by omega)]; exact hg)), hbel⟩
      clear hI hkg hall hbel hk1 hv hT hn hb hR hH hN hTL hk
      go_wp2_with fail
      go_ret2
      exact ⟨by rw [A3.out.1]; rfl, A3.out.2⟩
set_option maxHeartbeats 1000000 in
theorem feq_c (w : World) (v u : Value) (T S : List Fd) (hv : FL w v T) (hu : FL w u S) (hT : OctF T) (hS : OctF S) (hb : T.length < 1000000000000000) : Calls Try.prog 21 #[v, u] w fun e w' => e = .returned (.bool (decide (T = S))) ∧ ∃ n, w' = w.drewN n := by
  obtain ⟨a, c, hv, hq⟩ := hv
  obtain ⟨b, d, hu, hr⟩ := hu
  subst hv
  subst hu
  obtain ⟨L, hL⟩ : ∃ L, T.length = L := ⟨_, rfl⟩
  obtain ⟨M, hM⟩ : ∃ M, S.length = M := ⟨_, rfl⟩
  rw [hL, hM]
  by_cases hLM : L = M
  · obtain ⟨q, hq2⟩ : ∃ q, decide (T = S) = q := ⟨_, rfl⟩
    rw [hq2]
    subst hLM
    have A : Aside (T.length = L ∧ S.length = L ∧ OctF T ∧ OctF S ∧ decide (T = S) = q ∧ L < 1000000000000000) := ⟨hL, hM, hT, hS, hq2, by omega⟩
    have AQ : Aside ((T = [] ∨ ∃ g o, a = some ⟨g, o, none⟩ ∧ ∀ (i : Nat) (f : Fd), T[i]? = some f → w.cell? ⟨g, o + i * 2, none⟩ = some (.string (st f.1)) ∧ w.cell? ⟨g, o + i * 2 + 1, none⟩ = some (.string (st f.2))) ∧ (S = [] ∨ ∃ g o, b = some ⟨g, o, none⟩ ∧ ∀ (i : Nat) (f : Fd), S[i]? = some f → w.cell? ⟨g, o + i * 2, none⟩ = some (.string (st f.1)) ∧ w.cell? ⟨g, o + i * 2 + 1, none⟩ = some (.string (st f.2)))) := ⟨hq, hr⟩
    clear hL hM hT hS hq2 hb hq hr
    have hlz : ((L : Int) != (L : Int)) = false := by simp
    go_enter Try.func21, Try.ntmps21
    go_wp2_with fail
    go_loopg [5] L (fun g s5 wr => ∃ k : Nat, s5 = .int .i64 k ∧ Aside (k + g = L ∧ T.take k = S.take k) ∧ Aside (∃ n, wr = w.drewN n))
    case atStart => exact ⟨0, rfl, ⟨by omega, by simp⟩, ⟨0, rfl⟩⟩
    case round =>
      obtain ⟨k, rfl, hK, hD⟩ := hrel
      have a0 := A.out
      by_cases hk : k < L
      · have hki : ((k : Int) < (L : Int)) = True := eq_true (by omega)
        have hkn : (k < L) = True := eq_true hk
        have hkb : (k : Int) < 1000000000000000 := by omega
        obtain ⟨x, hx⟩ : ∃ x, T[k]? = some x := ⟨_, List.getElem?_eq_getElem (by omega)⟩
        obtain ⟨y, hy⟩ : ∃ y, S[k]? = some y := ⟨_, List.getElem?_eq_getElem (by omega)⟩
        obtain ⟨g1, o1, e1, hc1⟩ : ∃ g o, a = some ⟨g, o, none⟩ ∧ wr.cell? ⟨g, o + k * 2, none⟩ = some (.string (st x.1)) ∧ wr.cell? ⟨g, o + k * 2 + 1, none⟩ = some (.string (st x.2)) := by
          rcases AQ.out.1 with e | ⟨g, o, e, h⟩
          · rw [e] at hx; simp at hx
          · obtain ⟨n, hn⟩ := hD.out
            exact ⟨g, o, e, by rw [hn]; exact h k x hx⟩
        obtain ⟨g2, o2, e2, hc2⟩ : ∃ g o, b = some ⟨g, o, none⟩ ∧ wr.cell? ⟨g, o + k * 2, none⟩ = some (.string (st y.1)) ∧ wr.cell? ⟨g, o + k * 2 + 1, none⟩ = some (.string (st y.2)) := by
          rcases AQ.out.2 with e | ⟨g, o, e, h⟩
          · rw [e] at hy; simp at hy
          · obtain ⟨n, hn⟩ := hD.out
            exact ⟨g, o, e, by rw [hn]; exact h k y hy⟩
        subst e1
        subst e2
        have hxo := a0.2.2.1 x (List.mem_of_getElem? hx)
        have hyo := a0.2.2.2.1 y (List.mem_of_getElem? hy)
        have k1 := hc1.1
        have k2 := hc1.2
        have k3 := hc2.1
        have k4 := hc2.2
        obtain ⟨s1, hs1⟩ : ∃ s1, st x.1 = s1 := ⟨_, rfl⟩
        obtain ⟨s2, hs2⟩ : ∃ s2, st x.2 = s2 := ⟨_, rfl⟩
        obtain ⟨s3, hs3⟩ : ∃ s3, st y.1 = s3 := ⟨_, rfl⟩
        obtain ⟨s4, hs4⟩ : ∃ s4, st y.2 = s4 := ⟨_, rfl⟩
        rw [hs1] at k1
        rw [hs2] at k2
        rw [hs3] at k3
        rw [hs4] at k4
        by_cases hxy : x = y
        · have A2 : Aside (T.take (k + 1) = S.take (k + 1) ∧ k + gk = L ∧ k < L) := ⟨by rw [List.take_add_one, List.take_add_one, hx, hy, hK.out.2, hxy], hK.out.1, hk⟩
          have e13 : s1 = s3 := by rw [← hs1, ← hs3, hxy]
          have e24 : s2 = s4 := by rw [← hs2, ← hs4, hxy]
          subst e13
          subst e24
          clear hK a0 hx hy hxo hyo hc1 hc2 hk hs1 hs2 hs3 hs4 hxy
          go_wp2_with fail
          go_quiet (fail)
          go_wp2_with fail
          have a2 := A2.out
          go_roundg (gk - 1)
          case measure => omega
          case rel => exact ⟨k + 1, by go_num, ⟨by omega, a2.1⟩, (by obtain ⟨n, hn⟩ := hD.out; exact ⟨_, (congrArg (World.drewN · _) hn).trans (World.drewN_drewN _ _ _)⟩)⟩
        · have A2 : Aside (false = q) := by
            show _ = _
            rw [← a0.2.2.2.2.1]
            refine (decide_eq_false fun e => hxy ?_).symm
            rw [e, hy] at hx
            exact (Option.some.inj hx).symm
          have q1 := st_beq hxo.1 hyo.1
          have q2 := st_beq hxo.2 hyo.2
          rw [hs1, hs3] at q1
          rw [hs2, hs4] at q2
          by_cases h1 : x.1 = y.1
          · have h2 : x.2 ≠ y.2 := fun e => hxy (by cases x; cases y; simp_all)
            have e13 : s1 = s3 := by rw [← hs1, ← hs3, h1]
            subst e13
            rw [decide_eq_false h2] at q2
            clear hK a0 hx hy hxo hyo hc1 hc2 hk hs1 hs2 hs3 hs4 hxy q1 h1 h2
            go_wp2_with fail
            go_quiet (fail)
            go_wp2_with fail
            go_ret
            obtain ⟨n, hn⟩ := hD.out
            exact ⟨by rw [← A2.out]; rfl, _, (congrArg (World.drewN · _) hn).trans (World.drewN_drewN _ _ _)⟩
          · rw [decide_eq_false h1] at q1
            clear hK a0 hx hy hxo hyo hc1 hc2 hk hs1 hs2 hs3 hs4 hxy q2 h1
            go_wp2_with fail
            go_quiet (fail)
            go_wp2_with fail
            go_ret
            obtain ⟨n, hn⟩ := hD.out
            exact ⟨by rw [← A2.out]; rfl, _, (congrArg (World.drewN · _) hn).trans (World.drewN_drewN _ _ _)⟩
      · have hki : ((k : Int) < (L : Int)) = False := eq_false (by omega)
        have hkn : (k < L) = False := eq_false hk
        have A2 : Aside (true = q) := by
          show _ = _
          rw [← a0.2.2.2.2.1]
          have h3 := hK.out.2
          rw [List.take_of_length_le (by omega), List.take_of_length_le (by omega)] at h3
          exact (decide_eq_true h3).symm
        clear hK a0 hk
        go_wp2_with fail
        go_ret
        exact ⟨by rw [← A2.out]; rfl, hD.out⟩
  · have hq2 : decide (T = S) = false := decide_eq_false (fun e => hLM (by rw [← hL, ← hM, e]))
    rw [hq2]
    have hz : ((L : Int) != (M : Int)) = true := by rw [bne_iff_ne]; omega
    have hz2 : ((L : Int) == (M : Int)) = false := by rw [beq_eq_false_iff_ne]; omega
    clear hq hr hL hM hLM hT hS hb hq2
    go_enter Try.func21, Try.ntmps21
    go_wp2_with fail
    go_ret
    exact ⟨rfl, 0, rfl⟩
end Go.Proofs.Ytdndlegfalmkaaa

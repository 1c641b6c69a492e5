/-
  What the document's Fields (are two lists of fields one?) and both Get come to.
-/
import Derived.Test.YtmlkdpoignimaaaWho
namespace Go.Proofs.Ytmlkdpoignimaaa
open Go.RowKit
set_option linter.unusedVariables false
theorem st_beq {l m : List Nat} (hl : Oct l) (hm : Oct m) : ((st l).toList == (st m).toList) = decide (l = m) := by
  rw [ByteArray.toList_eq, ByteArray.toList_eq, Bool.eq_iff_iff, beq_iff_eq, decide_eq_true_iff]
  refine ⟨fun e => st_inj hl hm ?_, fun e => by rw [e]⟩
  rw [ByteArray.ext_iff]
  exact Array.toList_inj.1 e
def OctF (T : List Fd) : Prop := ∀ f ∈ T, Oct f.1 ∧ Oct f.2
set_option maxHeartbeats 1000000 in
theorem feq_c (w : World) (v u : Value) (T S : List Fd) (hv : FL w v T) (hu : FL w u S) (hT : OctF T) (hS : OctF S) (hb : T.length < 1000000000000000) : Calls Try.prog 12 #[v, u] w fun e w' => e = .returned (.bool (decide (T = S))) ∧ ∃ n, w' = w.drewN n := by
  obtain ⟨a, c, hv, hq⟩ := hv
  obtain ⟨b, d, hu, hr⟩ := hu
  subst hv
  subst hu
  obtain ⟨L, hL⟩ : ∃ L, T.length = L := ⟨_, rfl⟩
  obtain ⟨M, hM⟩ : ∃ M, S.length = M := ⟨_, rfl⟩
  rw [hL, hM]
  by_cases hLM : L = M
  · obtain ⟨q, hq2⟩ : ∃ q, decide (T = S) = q := ⟨_, rfl⟩
    rw [hq2]
    subst hLM
    have A : Aside (T.length = L ∧ S.length = L ∧ OctF T ∧ OctF S ∧ decide (T = S) = q ∧ L < 1000000000000000) := ⟨hL, hM, hT, hS, hq2, by omega⟩
    have AQ : Aside ((T = [] ∨ ∃ g o, a = some ⟨g, o, none⟩ ∧ ∀ (i : Nat) (f : Fd), T[i]? = some f → w.cell? ⟨g, o + i * 2, none⟩ = some (.string (st f.1)) ∧ w.cell? ⟨g, o + i * 2 + 1, none⟩ = some (.string (st f.2))) ∧ (S = [] ∨ ∃ g o, b = some ⟨g, o, none⟩ ∧ ∀ (i : Nat) (f : Fd), S[i]? = some f → w.cell? ⟨g, o + i * 2, none⟩ = some (.string (st f.1)) ∧ w.cell? ⟨g, o + i * 2 + 1, none⟩ = some (.string (st f.2)))) := ⟨hq, hr⟩
    clear hL hM hT hS hq2 hb hq hr
    have hlz : ((L : Int) != (L : Int)) = false := by simp
    go_enter Try.func12, Try.ntmps12
    go_wp2_with fail
    go_loopg [5] L (fun g s5 wr => ∃ k : Nat, s5 = .int .i64 k ∧ Aside (k + g = L ∧ T.take k = S.take k) ∧ Aside (∃ n, wr = w.drewN n))
    case atStart => exact ⟨0, rfl, ⟨by omega, by simp⟩, ⟨0, rfl⟩⟩
    case round =>
      obtain ⟨k, rfl, hK, hD⟩ := hrel
      have a0 := A.out
      by_cases hk : k < L
      · have hki : ((k : Int) < (L : Int)) = True := eq_true (by omega)
        have hkn : (k < L) = True := eq_true hk
        have hkb : (k : Int) < 1000000000000000 := by omega
        obtain ⟨x, hx⟩ : ∃ x, T[k]? = some x := ⟨_, List.getElem?_eq_getElem (by omega)⟩
        obtain ⟨y, hy⟩ : ∃ y, S[k]? = some y := ⟨_, List.getElem?_eq_getElem (by omega)⟩
        obtain ⟨g1, o1, e1, hc1⟩ : ∃ g o, a = some ⟨g, o, none⟩ ∧ wr.cell? ⟨g, o + k * 2, none⟩ = some (.string (st x.1)) ∧ wr.cell? ⟨g, o + k * 2 + 1, none⟩ = some (.string (st x.2)) := by
          rcases AQ.out.1 with e | ⟨g, o, e, h⟩
          · rw [e] at hx; simp at hx
          · obtain ⟨n, hn⟩ := hD.out
            exact ⟨g, o, e, by rw [hn]; exact h k x hx⟩
        obtain ⟨g2, o2, e2, hc2⟩ : ∃ g o, b = some ⟨g, o, none⟩ ∧ wr.cell? ⟨g, o + k * 2, none⟩ = some (.string (st y.1)) ∧ wr.cell? ⟨g, o + k * 2 + 1, none⟩ = some (.string (st y.2)) := by
          rcases AQ.out.2 with e | ⟨g, o, e, h⟩
          · rw [e] at hy; simp at hy
          · obtain ⟨n, hn⟩ := hD.out
            exact ⟨g, o, e, by rw [hn]; exact h k y hy⟩
        subst e1
        subst e2
        have hxo := a0.2.2.1 x (List.mem_of_getElem? hx)
        have hyo := a0.2.2.2.1 y (List.mem_of_getElem? hy)
        have k1 := hc1.1
        have k2 := hc1.2
        have k3 := hc2.1
        have k4 := hc2.2
        obtain ⟨s1, hs1⟩ : ∃ s1, st x.1 = s1 := ⟨_, rfl⟩
        obtain ⟨s2, hs2⟩ : ∃ s2, st x.2 = s2 := ⟨_, rfl⟩
        obtain ⟨s3, hs3⟩ : ∃ s3, st y.1 = s3 := ⟨_, rfl⟩
        obtain ⟨s4, hs4⟩ : ∃ s4, st y.2 = s4 := ⟨_, rfl⟩
        rw [hs1] at k1
        rw [hs2] at k2
        rw [hs3] at k3
        rw [hs4] at k4
        by_cases hxy : x = y
        · have A2 : Aside (T.take (k + 1) = S.take (k + 1) ∧ k + gk = L ∧ k < L) := ⟨by rw [List.take_add_one, List.take_add_one, hx, hy, hK.out.2, hxy], hK.out.1, hk⟩
          have e13 : s1 = s3 := by rw [← hs1, ← hs3, hxy]
          have e24 : s2 = s4 := by rw [← hs2, ← hs4, hxy]
          subst e13
          subst e24
          clear hK a0 hx hy hxo hyo hc1 hc2 hk hs1 hs2 hs3 hs4 hxy
          go_wp2_with fail
          go_quiet (fail)
          go_wp2_with fail
          have a2 := A2.out
          go_roundg (gk - 1)
          case measure => omega
          case rel => exact ⟨k + 1, by go_num, ⟨by omega, a2.1⟩, (by obtain ⟨n, hn⟩ := hD.out; exact ⟨_, (congrArg (World.drewN · _) hn).trans (World.drewN_drewN _ _ _)⟩)⟩
        · have A2 : Aside (false = q) := by
            show _ = _
            rw [← a0.2.2.2.2.1]
            refine (decide_eq_false fun e => hxy ?_).symm
            rw [e, hy] at hx
            exact (Option.some.inj hx).symm
          have q1 := st_beq hxo.1 hyo.1
          have q2 := st_beq hxo.2 hyo.2
          rw [hs1, hs3] at q1
          rw [hs2, hs4] at q2
          by_cases h1 : x.1 = y.1
          · have h2 : x.2 ≠ y.2 := fun e => hxy (by cases x; cases y; simp_all)
            have e13 : s1 = s3 := by rw [← hs1, ← hs3, h1]
            subst e13
            rw [decide_eq_false h2] at q2
            clear hK a0 hx hy hxo hyo hc1 hc2 hk hs1 hs2 hs3 hs4 hxy q1 h1 h2
            go_wp2_with fail
            go_quiet (fail)
            go_wp2_with fail
            go_ret
            obtain ⟨n, hn⟩ := hD.out
            exact ⟨by rw [← A2.out]; rfl, _, (congrArg (World.drewN · _) hn).trans (World.drewN_drewN _ _ _)⟩
          · rw [decide_eq_false h1] at q1
            clear hK a0 hx hy hxo hyo hc1 hc2 hk hs1 hs2 hs3 hs4 hxy q2 h1
            go_wp2_with fail
            go_quiet (fail)
            go_wp2_with fail
            go_ret
            obtain ⟨n, hn⟩ := hD.out
            exact ⟨by rw [← A2.out]; rfl, _, (congrArg (World.drewN · _) hn).trans (World.drewN_drewN _ _ _)⟩
      · have hki : ((k : Int) < (L : Int)) = False := eq_false (by omega)
        have hkn : (k < L) = False := eq_false hk
        have A2 : Aside (true = q) := by
          show _ = _
          rw [← a0.2.2.2.2.1]
          have h3 := hK.out.2
          rw [List.take_of_length_le (by omega), List.take_of_length_le (by omega)] at h3
          exact (decide_eq_true h3).symm
        clear hK a0 hk
        go_wp2_with fail
        go_ret
        exact ⟨by rw [← A2.out]; rfl, hD.out⟩
  · have hq2 : decide (T = S) = false := decide_eq_false (fun e => hLM (by rw [← hL, ← hM, e]))
    rw [hq2]
    have hz : ((L : Int) != (M : Int)) = true := by rw [bne_iff_ne]; omega
    have hz2 : ((L : Int) == (M : Int)) = false := by rw [beq_eq_false_iff_ne]; omega
    clear hq hr hL hM hLM hT hS hb hq2
    go_enter Try.func12, Try.ntmps12
    go_wp2_with fail
    go_ret
    exact ⟨rfl, 0, rfl⟩
/-- What both Get answer. -/
def gt (T : List Fd) (nm : List Nat) : List Nat × Bool := match T.find? (fun f => smb f.1 nm) with | some f => (f.2, true) | none => ([], false)
theorem gt_hit {T : List Fd} {nm : List Nat} {k : Nat} {f : Fd} (hk : ∀ g ∈ T.take k, smb g.1 nm = false) (hf : T[k]? = some f) (h : smb f.1 nm = true) : gt T nm = (f.2, true) := by
  have e : T = T.take k ++ f :: T.drop (k + 1) := at_split hf
  unfold gt
  rw [e, List.find?_append, List.find?_eq_none.2 (fun g hg => by rw [hk g hg]; decide)]
  simp [h]
theorem gt_none {T : List Fd} {nm : List Nat} (h : ∀ g ∈ T, smb g.1 nm = false) : gt T nm = ([], false) := by
  unfold gt
  rw [List.find?_eq_none.2 (fun g hg => by rw [h g hg]; decide)]
theorem Below.drewN2 {B : Nat} {w u : World} (h : Below B w u) (n : Nat) : Below B w (u.drewN n) := ⟨h.1, h.2, h.3, h.size, h.block⟩
set_option maxHeartbeats 1000000 in
theorem get_c (w : World) (v : Value) (T : List Fd) (nm : List Nat) (hv : FL w v T) (hT : OctF T) (hn : Oct nm) (hb : T.length < 1000000000000000) (hTb : ∀ f ∈ T, f.1.length < 9223372036854775808) : Calls Try.prog 18 #[v, .string (st nm)] w fun e w' => e = .returned (.tuple #[.string (st (gt T nm).1), .bool (gt T nm).2]) ∧ Below w.heap.size w w' := by
  obtain ⟨a, c, hv, hq⟩ := hv
  subst hv
  obtain ⟨L, hL⟩ : ∃ L, T.length = L := ⟨_, rfl⟩
  rw [hL]
  obtain ⟨R, hR⟩ : ∃ R, gt T nm = R := ⟨_, rfl⟩
  rw [hR]
  have A : Aside (T.length = L ∧ OctF T ∧ Oct nm ∧ L < 1000000000000000 ∧ gt T nm = R ∧ ∀ f ∈ T, f.1.length < 9223372036854775808) := ⟨hL, hT, hn, by omega, hR, hTb⟩
  have AQ : Aside (T = [] ∨ ∃ g o, a = some ⟨g, o, none⟩ ∧ ∀ (i : Nat) (f : Fd), T[i]? = some f → w.cell? ⟨g, o + i * 2, none⟩ = some (.string (st f.1)) ∧ w.cell? ⟨g, o + i * 2 + 1, none⟩ = some (.string (st f.2))) := hq
  clear hL hT hn hb hR hTb hq
  go_enter Try.func18, Try.ntmps18
  go_wp2_with fail
  go_loopg [10] L (fun gg s10 wr => ∃ k : Nat, s10 = .int .i64 k ∧ Aside (k + gg = L ∧ (∀ g ∈ T.take k, smb g.1 nm = false) ∧ Below w.heap.size w wr))
  case atStart => exact ⟨0, rfl, by omega, by simp, Below.refl _ _⟩
  case round =>
    obtain ⟨k, rfl, hI⟩ := hrel
    obtain ⟨hkg, hall, hbel⟩ := hI.out
    have a0 := A.out
    by_cases hk : k < L
    · have hki : ((k : Int) < (L : Int)) = True := eq_true (by omega)
      have hkn : (k < L) = True := eq_true hk
      have hkb : (k : Int) < 1000000000000000 := by omega
      obtain ⟨f, hf⟩ : ∃ f, T[k]? = some f := ⟨_, List.getElem?_eq_getElem (by omega)⟩
      obtain ⟨g, o, ha, hc⟩ : ∃ g o, a = some ⟨g, o, none⟩ ∧ wr.cell? ⟨g, o + k * 2, none⟩ = some (.string (st f.1)) ∧ wr.cell? ⟨g, o + k * 2 + 1, none⟩ = some (.string (st f.2)) := by
        rcases AQ.out with e | ⟨g, o, e, h⟩
        · rw [e] at hf; simp at hf
        · obtain ⟨h1, h2⟩ := h k f hf
          exact ⟨g, o, e, (hbel.cell (p := ⟨g, o + k * 2, none⟩) (World.block_lt_of_cell? w _ h1)).trans h1, (hbel.cell (p := ⟨g, o + k * 2 + 1, none⟩) (World.block_lt_of_cell? w _ h2)).trans h2⟩
      subst ha
      have hfm := List.mem_of_getElem? hf
      have k1 := hc.1
      have k2 := hc.2
      obtain ⟨H, hH⟩ : ∃ H, wr.heap.size = H := ⟨_, rfl⟩
      obtain ⟨w1, hw1⟩ : ∃ w1, w1 = wr.alloc (.cells #[.string (st f.1), .string (st f.2)] 43) := ⟨_, rfl⟩
      have b1 : Below w.heap.size w w1 := by rw [hw1]; exact hbel.alloc hbel.size _
      have kH : Cells w1 H #[.string (st f.1), .string (st f.2)] 43 := by rw [hw1, ← hH]; exact Cells.new wr _ 43
      have hsm := fun W => same_c f.1 nm (a0.2.1 f hfm).1 a0.2.2.1 (a0.2.2.2.2.2 f hfm) W
      have d0 : w1.cell? ⟨H, 0, none⟩ = some (.string (st f.1)) := by rw [kH.cell]; rfl
      have d1 : w1.cell? ⟨H, 1, none⟩ = some (.string (st f.2)) := by rw [kH.cell]; rfl
      cases hs : smb f.1 nm with
      | true =>
        have A2 : Aside (R = (f.2, true) ∧ Below w.heap.size w w1) := ⟨by rw [← a0.2.2.2.2.1]; exact gt_hit hall hf hs, b1⟩
        rw [hs] at hsm
        clear hI hkg hall hbel a0 hf hc hfm hs b1 kH hk
        go_upto_region 4 with fail
        rw [← hw1]
        clear hw1
        go_wp2_with (go_at_call 20; refine (hsm _).mono ?_; rintro e1 w2 ⟨rfl, n2, hw2⟩; subst hw2)
        go_ret2
        have a2 := A2.out
        exact ⟨by rw [a2.1]; rfl, Below.drewN2 a2.2 _⟩
      | false =>
        have A2 : Aside (k + gk = L ∧ k < L ∧ (∀ g ∈ T.take (k + 1), smb g.1 nm = false) ∧ Below w.heap.size w w1) := by
          refine ⟨hkg, hk, fun g hg => ?_, b1⟩
          rw [List.take_add_one, hf] at hg
          rcases List.mem_append.1 hg with h | h
          · exact hall g h
          · simp at h; rw [h]; exact hs
        rw [hs] at hsm
        clear hI hkg hall hbel a0 hf hc hfm hs b1 kH hk
        go_upto_region 4 with fail
        rw [← hw1]
        clear hw1
        go_wp2_with (go_at_call 20; refine (hsm _).mono ?_; rintro e1 w2 ⟨rfl, n2, hw2⟩; subst hw2)
        have a2 := A2.out
        go_roundg (gk - 1)
        case measure => omega
        case rel => exact ⟨k + 1, by go_num, by omega, a2.2.2.1, Below.drewN2 a2.2.2.2 _⟩
    · have hki : ((k : Int) < (L : Int)) = False := eq_false (by omega)
      have hkn : (k < L) = False := eq_false hk
      have A2 : Aside (R = ([], false) ∧ Below w.heap.size w wr) := ⟨by rw [← a0.2.2.2.2.1]; exact gt_none (fun g hg => hall g (by rw [List.take_of_length_le (by omega)]; exact hg)), hbel⟩
      clear hI hkg hall hbel a0 hk
      go_wp2_with fail
      go_ret2
      exact ⟨by rw [A2.out.1]; rfl, A2.out.2⟩
set_option maxHeartbeats 1000000 in
theorem rget_c (w : World) (v : Value) (T : List Fd) (nm : List Nat) (hv : FL w v T) (hT : OctF T) (hn : Oct nm) (hb : T.length < 1000000000000000) (hTb : ∀ f ∈ T, f.1.length < 9223372036854775808) : Calls Try.prog 19 #[v, .string (st nm)] w fun e w' => e = .returned (.tuple #[.string (st (gt T nm).1), .bool (gt T nm).2]) ∧ ∃ n, w' = w.drewN n := by
  obtain ⟨a, c, hv, hq⟩ := hv
  subst hv
  obtain ⟨L, hL⟩ : ∃ L, T.length = L := ⟨_, rfl⟩
  rw [hL]
  obtain ⟨R, hR⟩ : ∃ R, gt T nm = R := ⟨_, rfl⟩
  rw [hR]
  have A : Aside (T.length = L ∧ OctF T ∧ Oct nm ∧ L < 1000000000000000 ∧ gt T nm = R ∧ ∀ f ∈ T, f.1.length < 9223372036854775808) := ⟨hL, hT, hn, by omega, hR, hTb⟩
  have AQ : Aside (T = [] ∨ ∃ g o, a = some ⟨g, o, none⟩ ∧ ∀ (i : Nat) (f : Fd), T[i]? = some f → w.cell? ⟨g, o + i * 2, none⟩ = some (.string (st f.1)) ∧ w.cell? ⟨g, o + i * 2 + 1, none⟩ = some (.string (st f.2))) := hq
  clear hL hT hn hb hR hTb hq
  go_enter Try.func19, Try.ntmps19
  go_wp2_with fail
  go_loopg [6] L (fun gg s6 wr => ∃ k : Nat, s6 = .int .i64 k ∧ Aside (k + gg = L ∧ (∀ g ∈ T.take k, smb g.1 nm = false) ∧ ∃ n, wr = w.drewN n))
  case atStart => exact ⟨0, rfl, by omega, by simp, 0, rfl⟩
  case round =>
    obtain ⟨k, rfl, hI⟩ := hrel
    obtain ⟨hkg, hall, hbel⟩ := hI.out
    have a0 := A.out
    by_cases hk : k < L
    · have hki : ((k : Int) < (L : Int)) = True := eq_true (by omega)
      have hkn : (k < L) = True := eq_true hk
      have hkb : (k : Int) < 1000000000000000 := by omega
      obtain ⟨f, hf⟩ : ∃ f, T[k]? = some f := ⟨_, List.getElem?_eq_getElem (by omega)⟩
      obtain ⟨g, o, ha, hc⟩ : ∃ g o, a = some ⟨g, o, none⟩ ∧ wr.cell? ⟨g, o + k * 2, none⟩ = some (.string (st f.1)) ∧ wr.cell? ⟨g, o + k * 2 + 1, none⟩ = some (.string (st f.2)) := by
        rcases AQ.out with e | ⟨g, o, e, h⟩
        · rw [e] at hf; simp at hf
        · obtain ⟨n, hn⟩ := hbel
          exact ⟨g, o, e, by rw [hn]; exact h k f hf⟩
      subst ha
      have hfm := List.mem_of_getElem? hf
      have k1 := hc.1
      have k2 := hc.2
      have hsm := fun W => rsame_c f.1 nm (a0.2.1 f hfm).1 a0.2.2.1 (a0.2.2.2.2.2 f hfm) W
      cases hs : smb f.1 nm with
      | true =>
        have A2 : Aside (R = (f.2, true) ∧ ∃ n, wr = w.drewN n) := ⟨by rw [← a0.2.2.2.2.1]; exact gt_hit hall hf hs, hbel⟩
        rw [hs] at hsm
        clear hI hkg hall hbel a0 hf hc hfm hs hk
        go_wp2_with (go_at_call 21; refine (hsm _).mono ?_; rintro e1 w2 ⟨rfl, n2, hw2⟩; subst hw2)
        go_ret2
        have a2 := A2.out
        obtain ⟨n, hn⟩ := a2.2
        exact ⟨by rw [a2.1]; rfl, _, (congrArg (World.drewN · _) hn).trans (World.drewN_drewN _ _ _)⟩
      | false =>
        have A2 : Aside (k + gk = L ∧ k < L ∧ (∀ g ∈ T.take (k + 1), smb g.1 nm = false) ∧ ∃ n, wr = w.drewN n) := by
          refine ⟨hkg, hk, fun g hg => ?_, hbel⟩
          rw [List.take_add_one, hf] at hg
          rcases List.mem_append.1 hg with h | h
          · exact hall g h
          · simp at h; rw [h]; exact hs
        rw [hs] at hsm
        clear hI hkg hall hbel a0 hf hc hfm hs hk
        go_wp2_with (go_at_call 21; refine (hsm _).mono ?_; rintro e1 w2 ⟨rfl, n2, hw2⟩; subst hw2)
        have a2 := A2.out
        go_roundg (gk - 1)
        case measure => omega
        case rel => exact ⟨k + 1, by go_num, by omega, a2.2.2.1, (by obtain ⟨n, hn⟩ := a2.2.2.2; exact ⟨_, (congrArg (World.drewN · _) hn).trans (World.drewN_drewN _ _ _)⟩)⟩
    · have hki : ((k : Int) < (L : Int)) = False := eq_false (by omega)
      have hkn : (k < L) = False := eq_false hk
      have A2 : Aside (R = ([], false) ∧ ∃ n, wr = w.drewN n) := ⟨by rw [← a0.2.2.2.2.1]; exact gt_none (fun g hg => hall g (by rw [List.take_of_length_le (by omega)]; exact hg)), hbel⟩
      clear hI hkg hall hbel a0 hk
      go_wp2_with fail
      go_ret2
      exact ⟨by rw [A2.out.1]; rfl, A2.out.2⟩
end Go.Proofs.Ytmlkdpoignimaaa

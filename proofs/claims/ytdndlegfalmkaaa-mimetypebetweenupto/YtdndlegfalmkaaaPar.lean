/-
  What both Param come to.
-/
import Derived.Test.YtdndlegfalmkaaaEnc
namespace Go.Proofs.Ytdndlegfalmkaaa
open Go.RowKit
set_option linter.unusedVariables false
theorem pr_hit {T : List Fd} {nm : List Nat} {k : Nat} {f : Fd} (hk : ∀ g ∈ T.take k, g.1 ≠ low nm) (hf : T[k]? = some f) (h : f.1 = low nm) : pr T nm = (f.2, true) := by
  have e : T = T.take k ++ f :: T.drop (k + 1) := at_split hf
  unfold pr
  rw [e, List.find?_append, List.find?_eq_none.2 (fun g hg => by simpa using hk g hg)]
  simp [h]
theorem pr_none {T : List Fd} {nm : List Nat} (h : ∀ g ∈ T, g.1 ≠ low nm) : pr T nm = ([], false) := by
  unfold pr
  rw [List.find?_eq_none.2 (fun g hg => by simpa using h g hg)]
theorem FL.pick {w u : World} {a : Option Addr} {L c k B : Nat} {T : List Fd} {f : Fd} (h : FL w (.slice a L c) T) (hb : Below B w u) (hB : w.heap.size ≤ B) (hf : T[k]? = some f) : ∃ g o, a = some ⟨g, o, none⟩ ∧ u.cell? ⟨g, o + k * 2, none⟩ = some (.string (st f.1)) ∧ u.cell? ⟨g, o + k * 2 + 1, none⟩ = some (.string (st f.2)) := by
  obtain ⟨a', c', hv, hq⟩ := h
  cases hv
  rcases hq with e | ⟨g, o, e, hx⟩
  · rw [e] at hf; simp at hf
  · obtain ⟨h1, h2⟩ := hx k f hf
    have b1 := World.block_lt_of_cell? w _ h1
    have b2 := World.block_lt_of_cell? w _ h2
    exact ⟨g, o, e, (hb.cell (p := ⟨g, o + k * 2, none⟩) (Nat.lt_of_lt_of_le b1 hB)).trans h1, (hb.cell (p := ⟨g, o + k * 2 + 1, none⟩) (Nat.lt_of_lt_of_le b2 hB)).trans h2⟩
theorem FL.len {w : World} {a : Option Addr} {L c : Nat} {T : List Fd} (h : FL w (.slice a L c) T) : T.length = L := by
  obtain ⟨a', c', hv, _⟩ := h
  injection hv with _ h2
  exact h2.symm
set_option maxHeartbeats 1000000 in
theorem par_c (w : World) (m s : ByteArray) (a : Option Addr) (L c : Nat) (T : List Fd) (nm : List Nat) (hv : FL w (.slice a L c) T) (hT : OctF T) (hn : Oct nm) (hnl : nm.length ≤ 140737488355328) (hb : L < 1000000000000000) : Calls Try.prog 19 #[.agg #[.string m, .string s, .slice a L c], .string (st nm)] w fun e w' => e = .returned (.tuple #[.string (st (pr T nm).1), .bool (pr T nm).2]) ∧ Below w.heap.size w w' := by
  obtain ⟨R, hR⟩ : ∃ R, pr T nm = R := ⟨_, rfl⟩
  rw [hR]
  obtain ⟨H, hH⟩ : ∃ H, w.heap.size = H := ⟨_, rfl⟩
  obtain ⟨w1, hw1⟩ : ∃ w1, w1 = w.alloc (.cells #[.string m, .string s, .slice a L c] 24) := ⟨_, rfl⟩
  have b1 : Below w.heap.size w w1 := by rw [hw1]; exact (Below.refl _ w).alloc (Nat.le_refl _) _
  have k1 : Cells w1 H #[.string m, .string s, .slice a L c] 24 := by rw [hw1, ← hH]; exact Cells.new w _ 24
  have hlo := lower_c nm hn (by omega) w1
  obtain ⟨N, hN⟩ : ∃ N, st (low nm) = N := ⟨_, rfl⟩
  rw [hN] at hlo
  rw [hH] at b1 ⊢
  have hf2 : ∀ w2, Below w1.heap.size w1 w2 → w2.cell? ⟨H, 2, none⟩ = some (.slice a L c) := fun w2 hb2 => by
    have := k1.below hb2 k1.lt
    rw [this.cell]; rfl
  have A : Aside (FL w (.slice a L c) T ∧ OctF T ∧ Oct nm ∧ L < 1000000000000000 ∧ pr T nm = R ∧ w.heap.size = H ∧ st (low nm) = N ∧ Below H w w1 ∧ H ≤ w1.heap.size) := ⟨hv, hT, hn, hb, hR, hH, hN, b1, by rw [← hH]; exact b1.size⟩
  clear hv hT hn hb hR hH hN b1 k1 hnl
  go_enter Try.func19, Try.ntmps19
  go_upto_region 1 with fail
  (try simp only [A.out.2.2.2.2.2.1])
  rw [← hw1]
  clear hw1
  go_wp2_with (go_at_call 14; (with_reducible refine hlo.mono ?_); rintro e1 w2 ⟨rfl, hb2⟩; have c2 := hf2 w2 hb2)
  have A2 : Aside (Below H w w2) := A.out.2.2.2.2.2.2.2.1.trans (hb2.mono A.out.2.2.2.2.2.2.2.2)
  clear hlo hf2 hb2 c2
  go_loopg [13] L (fun gg s13 wr => ∃ k : Nat, s13 = .int .i64 k ∧ Aside (k + gg = L ∧ (∀ g ∈ T.take k, g.1 ≠ low nm) ∧ Below H w wr))
  case atStart => exact ⟨0, rfl, by omega, by simp, A2.out⟩
  case round =>
    obtain ⟨k, rfl, hI⟩ := hrel
    obtain ⟨hkg, hall, hbel⟩ := hI.out
    obtain ⟨hv, hT, hn, hb, hR, hH, hN, _, _⟩ := A.out
    have hTL := hv.len
    clear A2
    by_cases hk : k < L
    · have hki : ((k : Int) < (L : Int)) = True := eq_true (by omega)
      have hkn : (k < L) = True := eq_true hk
      have hkb : (k : Int) < 1000000000000000 := by omega
      obtain ⟨f, hf⟩ : ∃ f, T[k]? = some f := ⟨_, List.getElem?_eq_getElem (by omega)⟩
      obtain ⟨g, o, ha, k1, k2⟩ := hv.pick hbel (by omega) hf
      have hfo := hT f (List.mem_of_getElem? hf)
      subst ha
      have q1 := st_beq hfo.1 hn.low
      obtain ⟨X, hX⟩ : ∃ X, st f.1 = X := ⟨_, rfl⟩
      obtain ⟨Y, hY⟩ : ∃ Y, st f.2 = Y := ⟨_, rfl⟩
      rw [hX] at k1 q1
      rw [hY] at k2
      rw [hN] at q1
      obtain ⟨K, hK⟩ : ∃ K, wr.heap.size = K := ⟨_, rfl⟩
      obtain ⟨w4, hw4⟩ : ∃ w4, w4 = wr.alloc (.cells #[.string X, .string Y] 29) := ⟨_, rfl⟩
      have b4 : Below H w w4 := by rw [hw4]; exact hbel.alloc (by rw [← hH]; exact hbel.size) _
      have kK : Cells w4 K #[.string X, .string Y] 29 := by rw [hw4, ← hK]; exact Cells.new wr _ 29
      have d0 : w4.cell? ⟨K, 0, none⟩ = some (.string X) := by rw [kK.cell]; rfl
      have d1 : w4.cell? ⟨K, 1, none⟩ = some (.string Y) := by rw [kK.cell]; rfl
      by_cases hs : f.1 = low nm
      · rw [decide_eq_true hs] at q1
        have A3 : Aside (R = (f.2, true) ∧ Below H w w4 ∧ st f.2 = Y) := ⟨by rw [← hR]; exact pr_hit hall hf hs, b4, hY⟩
        clear hI hkg hall hbel hv hT hn hb hR hH hN hTL hk hf hfo hs hX hY b4 kK
        go_upto_region 5 with fail
        rw [← hw4]
        clear hw4 k1 k2 hK
        go_wp2_with fail
        go_ret2
        exact ⟨by rw [A3.out.1, A3.out.2.2]; rfl, A3.out.2.1⟩
      · rw [decide_eq_false hs] at q1
        have A3 : Aside (k + gk = L ∧ k < L ∧ (∀ g ∈ T.take (k + 1), g.1 ≠ low nm) ∧ Below H w w4) := by
          refine ⟨hkg, hk, fun g hg => ?_, b4⟩
          rw [List.take_add_one, hf] at hg
          rcases List.mem_append.1 hg with h | h
          · exact hall g h
          · simp at h; rw [h]; exact hs
        clear hI hkg hall hbel hv hT hn hb hR hH hN hTL hk hf hfo hs hX hY b4 kK
        go_upto_region 5 with fail
        rw [← hw4]
        clear hw4 k1 k2 hK
        go_wp2_with fail
        have a3 := A3.out
        go_roundg (gk - 1)
        case measure => omega
        case rel => exact ⟨k + 1, by go_num, by omega, a3.2.2.1, a3.2.2.2⟩
    · have hki : ((k : Int) < (L : Int)) = False := eq_false (by omega)
      have hkn : (k < L) = False := eq_false hk
      have A3 : Aside (R = ([], false) ∧ Below H w wr) := ⟨by rw [← hR]; exact pr_none (fun g hg => hall g (by rw [List.take_of_length_le (by omega)]; exact hg)), hbel⟩
      clear hI hkg hall hbel hv hT hn hb hR hH hN hTL hk
      go_wp2_with fail
      go_ret2
      exact ⟨by rw [A3.out.1]; rfl, A3.out.2⟩
end Go.Proofs.Ytdndlegfalmkaaa

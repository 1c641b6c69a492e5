/-
  What the document's Check comes to: the error of some patterns.
  Conditions: the patterns lie in memory.
-/
import Derived.Test.YtbepbjbbhenphaaDoorEqs
namespace Go.Proofs.YtbepbjbbhenphaaDoor
open Go.RowKit
set_option linter.unusedVariables false
/-- A world behind some draws. -/
def Drawn (w u : World) : Prop := ∃ n, u = w.drewN n
theorem Drawn.refl (w : World) : Drawn w w := ⟨0, rfl⟩
theorem Drawn.drewN {w u : World} (h : Drawn w u) (n : Nat) : Drawn w (u.drewN n) := by
  obtain ⟨m, rfl⟩ := h
  exact ⟨_, World.drewN_drewN _ _ _⟩
theorem Drawn.cell {w u : World} (h : Drawn w u) {p : Addr} {v : Value} (hc : w.cell? p = some v) : u.cell? p = some v := by
  obtain ⟨m, rfl⟩ := h
  exact hc
theorem Drawn.lies {w u : World} (h : Drawn w u) {a : Option Addr} {l : List Nat} (hc : Lies w a l) : Lies u a l := by
  obtain ⟨m, rfl⟩ := h
  exact hc
theorem Drawn.trans {w u v : World} (h : Drawn w u) (k : Drawn u v) : Drawn w v := by
  obtain ⟨m, rfl⟩ := k
  exact h.drewN m
theorem Drawn.below {w u : World} (h : Drawn w u) (B : Nat) : Below B w u := by
  obtain ⟨m, rfl⟩ := h
  exact ⟨rfl, rfl, rfl, Nat.le_refl _, fun _ _ => rfl⟩
theorem oneErr_long {p : List Nat} {ahead : List (List Nat)} (h0 : p.length ≠ 0) (h1 : ¬ 32 < p.length) : oneErr p ahead = if p ∈ ahead then 63 else 0 := by unfold oneErr; rw [if_neg h0, if_neg h1]
set_option maxRecDepth 100000 in
set_option maxHeartbeats 4000000 in
theorem rcheck_c (a : Option Addr) (ps : List (List Nat)) (L C : Nat) (w : World) (hp : Rows2 w a ps) (hL : ps.length = L) (hLC : L ≤ C) (hC : L < 140737488355328) :
    Calls Tryd.prog 9 #[.slice a L C] w fun e w' => e = .returned (.int .i64 (chk ps : Nat)) ∧ ∃ n, w' = w.drewN n := by
  have AB : Aside (Rows2 w a ps ∧ ps.length = L ∧ L ≤ C ∧ L < 140737488355328) := ⟨hp, hL, hLC, hC⟩
  have hck : chk ps = if L = 0 ∨ 64 < L then 60 else chkFrom [] ps := by unfold chk; rw [hL]
  rw [hck]
  clear hck
  by_cases h0 : L = 0
  · rw [if_pos (Or.inl h0)]
    subst h0
    clear hp hL hLC hC
    go_enter Tryd.func9, Tryd.ntmps9
    go_wp2_with fail
    go_ret
    exact ⟨rfl, 0, rfl⟩
  · have h0i : ((L : Int) == 0) = false := by rw [beq_eq_false_iff_ne]; omega
    by_cases h1 : 64 < L
    · rw [if_pos (Or.inr h1)]
      have h1i : (64 : Int) < (L : Int) := by omega
      clear hp hL hLC hC h0 h1
      go_enter Tryd.func9, Tryd.ntmps9
      go_wp2_with fail
      go_ret
      exact ⟨rfl, 0, rfl⟩
    · rw [if_neg (by omega)]
      have h1i : ¬ (64 : Int) < (L : Int) := by omega
      have AL : Aside (L ≤ 64) := (show L ≤ 64 by omega)
      obtain ⟨z, hz'⟩ : ∃ z, chkFrom [] ps = z := ⟨_, rfl⟩
      rw [hz']
      have AZ : Aside (chkFrom [] ps = z) := hz'
      rcases hp with hp | ⟨pb, po, rfl, hc⟩
      · rw [hp] at hL; simp at hL; exact absurd hL.symm h0
      have HC : Aside (∀ (i : Nat) (l : List Nat), ps[i]? = some l → ∃ (ai : Option Addr) (ci : Nat), w.cell? ⟨pb, po + i, none⟩ = some (.slice ai l.length ci) ∧ Lies w ai l ∧ l.length ≤ ci ∧ l.length < 140737488355328 ∧ (ai = none → l.length = 0 ∧ ci = 0)) := hc
      clear hL hLC hC h0 h1 hz' hc
      go_enter Tryd.func9, Tryd.ntmps9
      go_wp2_with fail
      go_loopg [3] L (fun g si wr => ∃ i : Nat, si = .int .i64 i ∧ Aside (i + g = L ∧ chkFrom (ps.take i) (ps.drop i) = z ∧ Drawn w wr))
      case atStart => exact ⟨0, rfl, ⟨by omega, by simpa using AZ.out, Drawn.refl w⟩⟩
      case round =>
        obtain ⟨i, rfl, hA⟩ := hrel
        by_cases hiL : i < L
        · have hi : (i : Int) < (L : Int) := by omega
          have hil : i < ps.length := by have := AB.out; omega
          obtain ⟨q, hq⟩ : ∃ q, ps[i]? = some q := ⟨_, List.getElem?_eq_getElem hil⟩
          obtain ⟨ai, ci, c1, c2, c3, c4, c5⟩ := HC.out i q hq
          have hst : Aside (i < L ∧ chkFrom (ps.take i) (ps.drop i) = (if oneErr q (ps.take i) = 0 then chkFrom (ps.take (i + 1)) (ps.drop (i + 1)) else oneErr q (ps.take i)) ∧ ps[i]? = some q ∧ Lies w ai q ∧ q.length < 140737488355328) := by
            refine ⟨hiL, ?_, hq, c2, c4⟩
            rw [drop_more hq, chkFrom, List.take_add_one, hq]; rfl
          obtain ⟨k, hk⟩ : ∃ k, q.length = k := ⟨_, rfl⟩
          rw [hk] at c1 c4
          have AC : Aside (w.cell? ⟨pb, po + i, none⟩ = some (.slice ai k ci)) := c1
          have c1 := hA.out.2.2.cell AC.out
          have AK : Aside (q.length = k) := hk
          clear hq hil c2 c3 c5 hiL
          by_cases hk0 : k = 0
          · have AE : Aside (z = 61) := by
              have h1 := hst.out.2.1
              rw [show oneErr q (ps.take i) = 61 by unfold oneErr; rw [if_pos (by omega)], if_neg (by decide), hA.out.2.1] at h1
              exact h1
            subst hk0
            clear hk c4
            go_wp2_with fail
            go_ret
            exact ⟨by rw [AE.out]; rfl, hA.out.2.2⟩
          · have hk0i : ((k : Int) == 0) = false := by rw [beq_eq_false_iff_ne]; omega
            by_cases hk32 : 32 < k
            · have AE : Aside (z = 62) := by
                have h1 := hst.out.2.1
                rw [show oneErr q (ps.take i) = 62 by unfold oneErr; rw [if_neg (by omega), if_pos (by omega)], if_neg (by decide), hA.out.2.1] at h1
                exact h1
              have hk32i : (32 : Int) < (k : Int) := by omega
              clear hk c4 hk0 hk32
              go_wp2_with fail
              go_ret
              exact ⟨by rw [AE.out]; rfl, hA.out.2.2⟩
            · have hone : Aside (oneErr q (ps.take i) = if q ∈ ps.take i then 63 else 0) := oneErr_long (by omega) (by omega)
              have hk32i : ¬ (32 : Int) < (k : Int) := by omega
              clear hk c4 hk0 hk32
              go_wp2_with fail
              go_loopg [4] i (fun g sj wr => ∃ j : Nat, sj = .int .i64 j ∧ Aside (j + g = i ∧ q ∉ ps.take j ∧ Drawn w wr))
              case atStart => exact ⟨0, rfl, ⟨by omega, by simp, hA.out.2.2⟩⟩
              case round =>
                clear c1
                obtain ⟨j, rfl, hJ⟩ := hrel
                by_cases hji : j < i
                · have hj : (j : Int) < (i : Int) := by omega
                  have hjL : (j : Int) < (L : Int) := by have := hst.out.1; omega
                  obtain ⟨p, hp⟩ : ∃ p, ps[j]? = some p := ⟨_, List.getElem?_eq_getElem (by have := hst.out.1; have := AB.out; omega)⟩
                  obtain ⟨aj, cj, d1, d2, d3, d4, d5⟩ := HC.out j p hp
                  have hsame := fun W (hW : Lies W aj p) (hW2 : Lies W ai q) => same_c aj ai p q p.length k cj ci W rfl AK.out (by omega) hW hW2
                  have hmem : Aside (j < i ∧ (q ∈ ps.take (j + 1) ↔ q ∈ ps.take j ∨ q = p) ∧ (p = q → q ∈ ps.take i) ∧ Lies w aj p) := by
                    refine ⟨hji, by rw [List.take_add_one, hp]; simp, fun e => ?_, d2⟩
                    rw [← e]
                    exact List.mem_of_getElem? (i := j) (by rw [List.getElem?_take, if_pos hji]; exact hp)
                  obtain ⟨m, hm⟩ : ∃ m, p.length = m := ⟨_, rfl⟩
                  rw [hm] at hsame d1
                  have d1 := hJ.out.2.2.cell d1
                  have c1 := hJ.out.2.2.cell AC.out
                  have hs2 := fun (W : World) (hW : Drawn w W) => hsame W (hW.lies hmem.out.2.2.2) (hW.lies hst.out.2.2.2.1)
                  have hDw : Drawn w wr := hJ.out.2.2
                  clear hsame
                  clear hp d2 d3 d4 d5 hm hji
                  by_cases hpq : p = q
                  · have AE : Aside (z = 63) := by
                      have h1 := hst.out.2.1
                      rw [hone.out, if_pos (hmem.out.2.2.1 hpq), if_neg (by decide), hA.out.2.1] at h1
                      exact h1
                    rw [decide_eq_true hpq] at hs2
                    clear hpq
                    go_wp2_with fail
                    go_quiet (first | (go_at_call 20; refine Calls.quiet_of (hs2 _ ?_); exact hDw.drewN _))
                    go_wp2_with fail
                    go_ret
                    exact ⟨by rw [AE.out]; rfl, hDw.drewN _⟩
                  · rw [decide_eq_false hpq] at hs2
                    have ANE : Aside (¬ p = q) := hpq
                    clear hpq
                    go_wp2_with fail
                    go_quiet (first | (go_at_call 20; refine Calls.quiet_of (hs2 _ ?_); exact hDw.drewN _))
                    go_wp2_with fail
                    have hg := hJ.out; have hm := hmem.out; have hl := AL.out; have hs := hst.out
                    go_roundg (i - (j + 1))
                    case measure => omega
                    case rel => exact ⟨j + 1, by first | rfl | go_num, ⟨by omega, fun h => (hm.2.1.1 h).elim hg.2.1 (fun e => ANE.out e.symm), hDw.drewN _⟩⟩
                · have hj : ¬ (j : Int) < (i : Int) := by omega
                  have AE : Aside (chkFrom (ps.take (i + 1)) (ps.drop (i + 1)) = z) := by
                    have h1 := hst.out.2.1
                    have h2 := hJ.out.2.1
                    rw [show j = i by have := hJ.out; omega] at h2
                    rw [hone.out, if_neg h2, if_pos rfl, hA.out.2.1] at h1
                    exact h1.symm
                  clear hji
                  go_wp2_with fail
                  have hg := hA.out; have hi := hst.out; have hl := AL.out
                  go_roundg (L - (i + 1))
                  case measure => omega
                  case rel => exact ⟨i + 1, by first | rfl | go_num, ⟨by omega, AE.out, hJ.out.2.2⟩⟩
        · have hi : ¬ (i : Int) < (L : Int) := by omega
          have hz0 : Aside (z = 0) := by
            have := hA.out.2.1
            rw [List.drop_eq_nil_of_le (by have := AB.out; omega), chkFrom] at this
            exact this.symm
          clear hiL
          go_wp2_with fail
          go_ret
          exact ⟨by rw [hz0.out]; rfl, hA.out.2.2⟩
end Go.Proofs.YtbepbjbbhenphaaDoor

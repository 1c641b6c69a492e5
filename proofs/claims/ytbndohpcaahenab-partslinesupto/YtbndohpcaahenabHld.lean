/-
  What holdsDelimiter comes to; what Write says. 
-/
import Derived.Test.YtbndohpcaahenabLnw
import Derived.Test.YtbndohpcaahenabWho
namespace Go.Proofs.Ytbndohpcaahenab
open Go.RowKit
set_option linter.unusedVariables false
theorem po_some : ∀ (r : List Nat) (ls : List (List Nat)), ls ≠ [] → po ls r ≠ []
  | [], ls, h => h
  | g :: r, ls, h => by
    simp only [po]
    split
    · exact po_some r _ (by simp)
    · split
      · exact po_some r _ h
      · exact po_some r _ (by simp)
theorem po_open : ∀ (r : List Nat) (ls : List (List Nat)), 256 ∈ r → po ls r ≠ []
  | [], ls, h => by simp at h
  | g :: r, ls, h => by
    simp only [po]
    split
    · exact po_some r _ (by simp)
    · rename_i hg
      have hr : 256 ∈ r := by
        rcases List.mem_cons.1 h with e | e
        · exact absurd e.symm hg
        · exact e
      split
      · exact po_open r _ hr
      · exact po_open r _ hr
set_option maxHeartbeats 1000000 in
theorem holds_c (b : List Nat) (ho : Oct b) (hv : vd b = true) (a : Option Addr) (x : List Nat) (L c : Nat) (hL : x.length = L) (hLb : L ≤ 100000000) (hox : Oct x) (w : World) (hx : Lies w a x) : Calls Try.prog 9 #[.slice a L c, .string (st b)] w fun e w' => e = .returned (.bool (hs (dd b) [] x)) ∧ Below w.heap.size w w' := by
  have hwh := whole_c b ho hv a x L c hL hLb hox w hx
  have hi := holds_iff (vd_bd hv ho) x hox
  obtain ⟨LS, hLS⟩ : ∃ LS, po [] (tot (dd b) s0 x) = LS := ⟨_, rfl⟩
  obtain ⟨Y, hY⟩ : ∃ Y, why true 0 (cv (dd b) s0 x) = Y := ⟨_, rfl⟩
  rw [hLS, hY] at hwh
  obtain ⟨r, hr⟩ : ∃ r, hs (dd b) [] x = r := ⟨_, rfl⟩
  rw [hr] at hi ⊢
  have hq : r = (decide (0 < LS.length) || !decide (Y = 33)) := by
    cases r with
    | false =>
      obtain ⟨e1, e2⟩ := hi.1 rfl
      rw [← hLS, ← hY, e1, e2]
      rfl
    | true =>
      rcases hi.2 rfl with e | e
      · have := po_open _ [] e
        rw [hLS] at this
        have : 0 < LS.length := List.length_pos_iff.2 this
        simp [this]
      · rw [e] at hY
        rw [← hY]
        simp [why]
  obtain ⟨sb, hsb⟩ : ∃ sb, st b = sb := ⟨_, rfl⟩
  rw [hsb] at hwh ⊢
  obtain ⟨n, hn⟩ : ∃ n, LS.length = n := ⟨_, rfl⟩
  rw [hn] at hq
  have A : Aside (LS.length = n) := hn
  clear hi hLS hY hr hsb hn hx hL hox hLb hv ho
  go_enter Try.func9, Try.ntmps9
  go_upto_region 2 with (go_at_call 6; refine hwh.mono ?_; rintro e2 w2 ⟨a2, n2, c2, rfl, l2, hn2, b2⟩; have hn3 : n2 = n := hn2.trans A.out; clear hn2 l2; subst hn3)
  by_cases h0 : 0 < n2
  · have t1 : ((0 : Int) < (n2 : Int)) = True := eq_true (by omega)
    have t2 : (0 < n2) = True := eq_true h0
    simp only [h0, decide_true, Bool.true_or] at hq
    subst hq
    clear h0 hwh
    go_wp2_with fail
    first | go_ret | go_ret2
    exact ⟨rfl, b2⟩
  · have t1 : ((0 : Int) < (n2 : Int)) = False := eq_false (by omega)
    have t2 : (0 < n2) = False := eq_false h0
    simp only [h0, decide_false, Bool.false_or] at hq
    by_cases hy : Y = 33
    · subst hy
      simp only [decide_true, Bool.not_true] at hq
      subst hq
      clear h0 hwh
      go_wp2_with fail
      first | go_ret | go_ret2
      exact ⟨rfl, b2⟩
    · have t3 : (Y != 33) = true := by simpa using hy
      have t4 : (Y == 33) = false := by simpa using hy
      simp only [hy, decide_false, Bool.not_false] at hq
      subst hq
      clear h0 hwh hy
      go_wp2_with fail
      first | go_ret | go_ret2
      exact ⟨rfl, b2⟩
/-- What Write says of parts: whether they may be written, and the bytes. -/
def wpre (D : List Nat) (ps : List (List Nat)) : List Nat := ps.flatMap fun p => (D ++ [13, 10]) ++ (p ++ [13, 10])
theorem wri_pre (D : List Nat) : ∀ ps, wri D ps = wpre D ps ++ (D ++ [45, 45, 13, 10])
  | [] => rfl
  | p :: r => by simp [wri, wpre, wri_pre D r]
theorem wpre_append (D : List Nat) (a b : List (List Nat)) : wpre D (a ++ b) = wpre D a ++ wpre D b := by simp [wpre]
theorem wpre_one (D p : List Nat) : wpre D [p] = (D ++ [13, 10]) ++ (p ++ [13, 10]) := by simp [wpre]
theorem wpre_take {D : List Nat} {ps : List (List Nat)} {k : Nat} {p : List Nat} (h : ps[k]? = some p) : wpre D (ps.take (k + 1)) = ((wpre D (ps.take k) ++ (D ++ [13, 10])) ++ p) ++ [13, 10] := by
  rw [List.take_add_one, h]
  show wpre D (ps.take k ++ [p]) = _
  rw [wpre_append, wpre_one]
  simp
theorem wpre_le (D : List Nat) (ps : List (List Nat)) (k : Nat) : (wpre D (ps.take k)).length + (D.length + 4) ≤ (wri D ps).length := by
  rw [wri_pre, List.length_append]
  conv => rhs; rw [← List.take_append_drop k ps]
  rw [wpre_append]
  simp
def wv (b : List Nat) (ps : List (List Nat)) : Bool × List Nat := if vd b = true ∧ ∀ p ∈ ps, hs (dd b) [] p = false then (true, wri (dd b) ps) else (false, [])
theorem wv_bad {b : List Nat} {ps : List (List Nat)} {k : Nat} {p : List Nat} (h : ps[k]? = some p) (hb : hs (dd b) [] p = true) : wv b ps = (false, []) := by
  unfold wv
  rw [if_neg]
  intro h1
  have := h1.2 p (List.mem_of_getElem? h)
  rw [hb] at this
  cases this
theorem wv_no {b : List Nat} {ps : List (List Nat)} (h : vd b = false) : wv b ps = (false, []) := by
  unfold wv
  rw [if_neg]
  rw [h]
  simp
theorem wv_yes {b : List Nat} {ps : List (List Nat)} (h : vd b = true) (hk : ∀ k p, k < ps.length → ps[k]? = some p → hs (dd b) [] p = false) : wv b ps = (true, wri (dd b) ps) := by
  unfold wv
  rw [if_pos]
  refine ⟨h, fun p hp => ?_⟩
  obtain ⟨k, hk2, e⟩ := List.mem_iff_getElem.1 hp
  exact hk k p hk2 (by rw [List.getElem?_eq_getElem hk2, e])
/-- What Write answers. -/
structure Wx (lo : Nat) (w : World) (ok : Bool) (l : List Nat) (e : Ending) (w' : World) : Prop where
  ex : ∃ a n c, e = .returned (.tuple #[.slice a n c, .bool ok]) ∧ Ow w' lo 5 1 (.slice a n c) n (ob l) ∧ n = l.length ∧ Below lo w w'
end Go.Proofs.Ytbndohpcaahenab

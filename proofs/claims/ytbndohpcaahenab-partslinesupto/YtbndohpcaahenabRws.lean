/-
  What the document's Rows comes to.
-/
import Derived.Test.YtbndohpcaahenabAwk
namespace Go.Proofs.Ytbndohpcaahenab
open Go.RowKit
set_option linter.unusedVariables false
/-- A list of lists of bytes in memory. -/
def Rl (w : World) (a : Option Addr) (ls : List (List Nat)) : Prop := ls = [] ∨ ∃ g o, a = some ⟨g, o, none⟩ ∧ ∀ (i : Nat) (l : List Nat), ls[i]? = some l → ∃ a1 c1, w.cell? ⟨g, o + i, none⟩ = some (.slice a1 l.length c1) ∧ Lies w a1 l ∧ l.length ≤ c1 ∧ (a1 = none → l.length = 0 ∧ c1 = 0)
theorem Rl.below {w u : World} {a : Option Addr} {ls : List (List Nat)} (h : Rl w a ls) (k : Below w.heap.size w u) : Rl u a ls := by
  rcases h with h | ⟨g, o, ha, hx⟩
  · exact Or.inl h
  · refine Or.inr ⟨g, o, ha, fun i l hl => ?_⟩
    obtain ⟨a1, c1, h1, h2, h3⟩ := hx i l hl
    exact ⟨a1, c1, (k.cell (p := ⟨g, o + i, none⟩) (World.block_lt_of_cell? w _ h1)).trans h1, h2.below k, h3⟩
theorem Rl.drewN {w : World} {a : Option Addr} {ls : List (List Nat)} (h : Rl w a ls) (n : Nat) : Rl (w.drewN n) a ls := h
theorem Ll.rl {w : World} {lo : Nat} {a : Option Addr} {n c : Nat} {ls : List (List Nat)} (h : Ll w lo (.slice a n c) ls) (hn : n = ls.length) : Rl w a ls := by
  rcases Nat.eq_zero_or_pos ls.length with h0 | h0
  · exact Or.inl (List.eq_nil_of_length_eq_zero h0)
  · obtain ⟨l0, hl0⟩ : ∃ l0, ls[0]? = some l0 := ⟨_, List.getElem?_eq_getElem h0⟩
    obtain ⟨g, _, _, hg, _⟩ := h.at hn hl0
    refine Or.inr ⟨g, 0, hg, fun i l hl => ?_⟩
    obtain ⟨g', a1, c1, hg', h1, h2, h3, h4⟩ := h.at hn hl
    rw [hg] at hg'
    cases hg'
    exact ⟨a1, c1, by rw [Nat.zero_add]; exact h1, h2, h3, h4⟩
set_option maxHeartbeats 1000000 in
theorem rows_c (w : World) (a b : Option Addr) (ls : List (List Nat)) (n c d : Nat) (hn : ls.length = n) (hb : n < 1000000001) (ha : Rl w a ls) (hbb : Rl w b ls) (ho : ∀ l ∈ ls, Oct l) : Calls Try.prog 7 #[.slice a n c, .slice b n d] w fun e w' => e = .returned (.bool true) ∧ ∃ m, w' = w.drewN m := by
  have A : Aside (ls.length = n ∧ n < 1000000001 ∧ Rl w a ls ∧ Rl w b ls ∧ ∀ l ∈ ls, Oct l) := ⟨hn, hb, ha, hbb, ho⟩
  have hz : ((n : Int) != (n : Int)) = false := by simp
  clear hn hb ha hbb ho
  go_enter Try.func7, Try.ntmps7
  go_wp2_with fail
  go_loopg [5] n (fun g s5 wr => ∃ k : Nat, s5 = .int .i64 (k : Int) ∧ Aside (k + g = n ∧ Dn w wr))
  case atStart => exact ⟨0, rfl, ⟨by omega, Dn.refl _⟩⟩
  case round =>
    obtain ⟨k, rfl, hT⟩ := hrel
    obtain ⟨hkg, m0, hm0⟩ := hT.out
    have a0 := A.out
    by_cases hk : k < n
    · have t1 : ((k : Int) < (n : Int)) = True := eq_true (by omega)
      have t2 : (k < n) = True := eq_true hk
      obtain ⟨l, hl⟩ : ∃ l, ls[k]? = some l := ⟨_, List.getElem?_eq_getElem (by omega)⟩
      rcases a0.2.2.1 with e | ⟨g1, o1, rfl, h1⟩
      · rw [e] at hl; simp at hl
      rcases a0.2.2.2.1 with e | ⟨g2, o2, rfl, h2⟩
      · rw [e] at hl; simp at hl
      obtain ⟨a1, c1, k1, l1, _⟩ := h1 k l hl
      obtain ⟨a2, c2, k2, l2, _⟩ := h2 k l hl
      have hol := a0.2.2.2.2 l (List.mem_of_getElem? hl)
      obtain ⟨q, hq⟩ : ∃ q, l.length = q := ⟨_, rfl⟩
      obtain ⟨S, hS⟩ : ∃ S, st l = S := ⟨_, rfl⟩
      have kk1 : wr.cell? ⟨g1, o1 + k, none⟩ = some (.slice a1 q c1) := by rw [hm0, ← hq]; exact k1
      have kk2 : wr.cell? ⟨g2, o2 + k, none⟩ = some (.slice a2 q c2) := by rw [hm0, ← hq]; exact k2
      have e1 : ∀ n, (convert 23 9 (.slice a1 q c1)).run Try.prog (wr.drewN n) = .ok (.string S) (wr.drewN n) := fun n => by rw [← hS]; exact conv_st q c1 hq hol (by rw [hm0]; exact (l1.drewN _).drewN _)
      have e2 : ∀ n, (convert 23 9 (.slice a2 q c2)).run Try.prog (wr.drewN n) = .ok (.string S) (wr.drewN n) := fun n => by rw [← hS]; exact conv_st q c2 hq hol (by rw [hm0]; exact (l2.drewN _).drewN _)
      have bk : (k : Int) < 2000000000 := by omega
      have A2 : Aside (k + gk = n ∧ k < n ∧ Dn w wr) := ⟨hkg, hk, ⟨m0, hm0⟩⟩
      have hsz : (S.toList == S.toList) = true := by simp
      clear hT hkg hm0 a0 hk hl h1 h2 k1 k2 l1 l2 hol hq hS
      go_upto_region 6 with fail
      go_quiet (fail)
      go_wp2_with fail
      have a2 := A2.out
      go_roundg (gk - 1)
      case measure => omega
      case rel => exact ⟨k + 1, by go_num, ⟨by omega, a2.2.2.drewN _⟩⟩
    · have t1 : ((k : Int) < (n : Int)) = False := eq_false (by omega)
      have t2 : (k < n) = False := eq_false hk
      have A2 : Aside (∃ m, wr = w.drewN m) := ⟨m0, hm0⟩
      clear hT hkg hm0 a0 hk
      go_wp2_with fail
      first | go_ret | go_ret2
      exact ⟨rfl, A2.out⟩
end Go.Proofs.Ytbndohpcaahenab

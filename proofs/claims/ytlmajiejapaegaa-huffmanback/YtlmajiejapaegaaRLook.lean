/-
  What the document's Code, begins and Look come to.
  Conditions: the table and the bits lie in memory.
-/
import Derived.Test.YtlmajiejapaegaaRNew
import Derived.BigQuiet
namespace Go.Proofs.Ytlmajiejapaegaa
open Go.RowKit
set_option linter.unusedVariables false
/-- The world, some draws further on. -/
def Drawn (w u : World) : Prop := ∃ n, u = w.drewN n
theorem Drawn.refl (w : World) : Drawn w w := ⟨0, rfl⟩
theorem Drawn.drewN {w u : World} (h : Drawn w u) (n : Nat) : Drawn w (u.drewN n) := by
  obtain ⟨k, rfl⟩ := h
  exact ⟨k + n, by simp [World.drewN, Nat.add_assoc]⟩
theorem Drawn.trans {w u v : World} (h : Drawn w u) (k : Drawn u v) : Drawn w v := by
  obtain ⟨n, rfl⟩ := k
  exact h.drewN n
theorem Drawn.below {w u : World} (h : Drawn w u) (B : Nat) : Below B w u := by
  obtain ⟨n, rfl⟩ := h
  exact ⟨rfl, rfl, rfl, Nat.le_refl _, fun _ _ => rfl⟩
/-- Bits that lie side by side. -/
def Lb (w : World) (a : Option Addr) (l : List Bool) : Prop := l = [] ∨ ∃ (b o : Nat), a = some ⟨b, o, none⟩ ∧ ∀ (i : Nat) (x : Bool), l[i]? = some x → w.cell? ⟨b, o + i, none⟩ = some (.bool x)
theorem Lb.below {w u : World} {a : Option Addr} {l : List Bool} (h : Lb w a l) (k : Below w.heap.size w u) : Lb u a l := by
  rcases h with h | ⟨b, o, ha, hc⟩
  · exact Or.inl h
  · exact Or.inr ⟨b, o, ha, fun i x hx => (k.cell (p := ⟨b, o + i, none⟩) (World.block_lt_of_cell? w ⟨b, o + i, none⟩ (hc i x hx))).trans (hc i x hx)⟩
theorem Bb.lb {w : World} {b : Nat} {l : List Bool} (h : Bb w b l) : Lb w (some ⟨b, 0, none⟩) l := Or.inr ⟨b, 0, rfl, fun i x hx => by
  rw [Nat.zero_add, Cells.cell h]; simp [vb, hx]⟩
theorem pre_step {α : Type} {p q : List α} {k : Nat} {x y : α} (h : p.take k = q.take k) (hx : p[k]? = some x) (hy : q[k]? = some y) : p.take (k + 1) = q.take (k + 1) ↔ x = y := by
  rw [take_one hx, take_one hy, h]
  simp
set_option maxRecDepth 100000 in
set_option maxHeartbeats 2000000 in
theorem begins_c (a b : Option Addr) (p q : List Bool) (P Q C D : Nat) (r : Bool) (w : World) (h1 : Lb w a p) (h2 : Lb w b q) (hP : p.length = P) (hQ : q.length = Q) (hb : Q < 1048576) (hr : r = decide (q <+: p)) :
    Calls Try.prog 33 #[.slice a P C, .slice b Q D] w fun e w' => e = .returned (.bool r) ∧ Drawn w w' := by
  have AH : Aside (Lb w a p ∧ Lb w b q ∧ p.length = P ∧ q.length = Q ∧ Q < 1048576 ∧ r = decide (q <+: p)) := ⟨h1, h2, hP, hQ, hb, hr⟩
  clear h1 h2 hP hQ hb hr
  by_cases hlt : P < Q
  · have hi : (P : Int) < (Q : Int) := by omega
    have hf : r = false := by
      rw [AH.out.2.2.2.2.2]
      exact decide_eq_false fun h => by have := h.length_le; have := AH.out; omega
    subst hf
    clear hlt
    go_enter Try.func33, Try.ntmps33
    go_wp2_with fail
    go_ret
    exact ⟨rfl, Drawn.refl _⟩
  have hi : ¬ (P : Int) < (Q : Int) := by omega
  have AL : Aside (Q ≤ P) := by show _ ≤ _; omega
  clear hlt
  go_enter Try.func33, Try.ntmps33
  go_wp2_with fail
  clear hi
  go_loopg [5] Q (fun g si wr => ∃ i : Nat, si = .int .i64 i ∧ Aside (i + g = Q ∧ p.take i = q.take i ∧ Drawn w wr))
  case atStart => exact ⟨0, rfl, ⟨by omega, by simp, Drawn.refl _⟩⟩
  case round =>
    obtain ⟨i, rfl, hI⟩ := hrel
    by_cases hiQ : i < Q
    · have hi : (i : Int) < (Q : Int) := by omega
      have hi2 : (i : Int) < (P : Int) := by have := AL.out; omega
      obtain ⟨x, hx⟩ : ∃ x, p[i]? = some x := ⟨_, List.getElem?_eq_getElem (by have := AH.out; have := AL.out; omega)⟩
      obtain ⟨y, hy⟩ : ∃ y, q[i]? = some y := ⟨_, List.getElem?_eq_getElem (by have := AH.out; omega)⟩
      have hst := pre_step hI.out.2.1 hx hy
      have l1 := AH.out.1.below (Drawn.below hI.out.2.2 _)
      have l2 := AH.out.2.1.below (Drawn.below hI.out.2.2 _)
      rcases l1 with e | ⟨b1, o1, rfl, hc1⟩
      · rw [e] at hx; simp at hx
      rcases l2 with e | ⟨b2, o2, rfl, hc2⟩
      · rw [e] at hy; simp at hy
      have c1 := hc1 i x hx
      have c2 := hc2 i y hy
      have hib : (i : Int) < 1048576 := by have := AH.out; omega
      have AI : Aside (i < Q) := hiQ
      by_cases hxy : x = y
      · subst hxy
        have ht : Aside (p.take (i + 1) = q.take (i + 1)) := hst.2 rfl
        clear hx hy hst hc1 hc2 hiQ
        cases x
        all_goals (
          go_wp2_with fail
          go_quiet (fail)
          go_wp2_with fail
          have h1 := hI.out; have h2 := AI.out
          go_roundg (Q - (i + 1))
          case measure => omega
          case rel => exact ⟨i + 1, by go_num, ⟨by omega, ht.out, h1.2.2.drewN _⟩⟩)
      · have hf : r = false := by
          rw [AH.out.2.2.2.2.2]
          refine decide_eq_false fun h => hxy (hst.1 ?_)
          have h3 := List.prefix_iff_eq_take.1 h
          have h4 : q.take (i + 1) = p.take (i + 1) := by
            have hq := AH.out.2.2.2.1
            rw [h3, List.take_take, hq, Nat.min_eq_left (by have := AI.out; omega)]
          exact h4.symm
        subst hf
        clear hx hy hst hc1 hc2 hiQ
        cases x <;> cases y
        · exact absurd rfl hxy
        · clear hxy
          go_wp2_with fail
          go_quiet (fail)
          go_wp2_with fail
          go_ret
          exact ⟨rfl, hI.out.2.2.drewN _⟩
        · clear hxy
          go_wp2_with fail
          go_quiet (fail)
          go_wp2_with fail
          go_ret
          exact ⟨rfl, hI.out.2.2.drewN _⟩
        · exact absurd rfl hxy
    · have hi : ¬ (i : Int) < (Q : Int) := by omega
      have ht : r = true := by
        rw [AH.out.2.2.2.2.2]
        refine decide_eq_true ?_
        have h1 := hI.out.2.1
        rw [List.take_of_length_le (l := q) (by have := AH.out; omega)] at h1
        rw [← h1]; exact List.take_prefix _ _
      subst ht
      clear hiQ
      go_wp2_with fail
      go_ret
      exact ⟨rfl, hI.out.2.2⟩
end Go.Proofs.Ytlmajiejapaegaa

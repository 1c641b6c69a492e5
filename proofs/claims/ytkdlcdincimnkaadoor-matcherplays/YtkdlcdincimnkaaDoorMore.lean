/-
  More of the hits: those of a longer text; cuts of a list of hits; bytes behind bytes of the call's own.
-/
import Derived.Test.YtkdlcdincimnkaaDoorAllCore
namespace Go.Proofs.YtkdlcdincimnkaaDoor
open Go.RowKit
set_option linter.unusedVariables false
theorem slice_hits (a : Option Addr) (L c n : Nat) (w : World) (hn : n ≤ c) (ha : ∀ p : Addr, a = some p → p = ⟨p.block, 0, none⟩) : (Instr.slice 48 (.slice a L c) none (some (.int .i64 (n : Int))) none).run Tryd.prog w = .ok (.slice a n c) w := by
  have h1 : (n : Int) ≤ (c : Int) := by omega
  cases a with
  | none => clear ha; go_simp
  | some p =>
    obtain ⟨b, rfl⟩ : ∃ b, p = ⟨b, 0, none⟩ := ⟨_, ha p rfl⟩
    clear ha
    go_simp
theorem hitsTo_app (ps : List (List Nat)) (t m : List Nat) : ∀ n, n ≤ t.length → hitsTo ps (t ++ m) n = hitsTo ps t n
  | 0, _ => rfl
  | n + 1, h => by rw [hitsTo, hitsTo, hitsTo_app ps t m n (by omega), List.take_append_of_le_length (by omega)]
theorem hitsTo_late (ps : List (List Nat)) (u : List Nat) {j : Nat} : ∀ {n : Nat}, j ≤ n → n ≤ u.length → ∃ r, hitsTo ps u n = hitsTo ps u j ++ r ∧ ∀ h ∈ r, j < h.2 := by
  intro n
  induction n with
  | zero => intro h _; exact ⟨[], by rw [show j = 0 by omega]; simp, by simp⟩
  | succ n ih =>
    intro h hn
    by_cases e : j = n + 1
    · exact ⟨[], by rw [e]; simp, by simp⟩
    · obtain ⟨r, hr, hl⟩ := ih (by omega) (by omega)
      refine ⟨r ++ hitsAt ps (u.take (n + 1)), by rw [hitsTo, hr, List.append_assoc], ?_⟩
      intro x hx
      rcases List.mem_append.1 hx with hx | hx
      · exact hl x hx
      · unfold hitsAt at hx
        obtain ⟨k, _, rfl⟩ := List.mem_map.1 hx
        show j < (u.take (n + 1)).length
        rw [List.length_take]; omega
theorem hits_longer (ps : List (List Nat)) (t m : List Nat) : ∃ r, hitsOf ps (t ++ m) = hitsOf ps t ++ r ∧ ∀ h ∈ r, t.length < h.2 := by
  obtain ⟨r, hr, hl⟩ := hitsTo_late ps (t ++ m) (j := t.length) (n := (t ++ m).length) (by simp) (Nat.le_refl _)
  rw [hitsTo_app ps t m t.length (Nat.le_refl _)] at hr
  exact ⟨r, hr, hl⟩
/-- append of bytes to a list of the call's own. -/
theorem wpList_appm (w0 w : World) {ops : Array Oper} {rest : List Oper} {o : Oper} {a : Act} {Q : Exit → Act → World → Prop} (hgd : o.guard = none) (s x : Operand)
    (ho : o.op = .call { callee := .builtin .append, args := #[s, x], argTypes := #[47, 47] }) (base : Nat) (v : Value) (l : List Nat) (hs : a.eval s = v) (hown : Apd w0 w base v l)
    (ax : Option Addr) (m : List Nat) (n c : Nat) (hnm : m.length = n) (hx : a.eval x = .slice ax n c) (hz : ax = none → n = 0 ∧ c = 0) (hl : Lies w ax m) (hlen : l.length + m.length ≤ 140737488355328)
    (h : ∀ v' w', Apd w0 w' base v' (l ++ m) → wpList Tryd.prog ops Q rest (a.put o.dst v') w') : wpList Tryd.prog ops Q (o :: rest) a w := by
  subst hnm
  obtain ⟨i0, hi, hz0, hz1, hz2⟩ := info_parts info5
  cases ax with
  | none =>
    obtain ⟨h1, h2⟩ := hz rfl
    have hm : m = [] := List.eq_nil_of_length_eq_zero h1
    subst hm
    subst h2
    exact wpList_append_own_none hgd s x 47 ho base 5 i0 1 Tryd.underlying47 hi v _ _ hs hown.own hx (h _ _ (by rw [List.append_nil]; exact hown))
  | some ad =>
    refine wpList_append_own _ hgd s x 47 ho base 5 i0 (.int .u8 0) 1 1 Tryd.underlying47 hi hz0 hz1 hz2 rfl (by decide) v _ _ hs hown.own ad m.length c (vn m) hx (by rw [vn_length]; omega) ?_ vn_one (by unfold maxLen; omega) (by omega) hown.le ?_
    · intro j u hj
      rw [vn_get] at hj
      rcases hl with rfl | ⟨b, off, ha, hc⟩
      · simp at hj
      · cases ha
        cases hq : m[j]? with
        | none => simp [hq] at hj
        | some y =>
          simp [hq] at hj
          rw [← hj]
          have h1 := hc j y hq
          have hadd : (⟨b, off, none⟩ : Addr).add j = ⟨b, off + j, none⟩ := by unfold Addr.add; split <;> simp_all
          rw [hadd]
          exact h1
    · intro v' w' h2 h3 h4
      have hb : Below base w w' := (Below.refl _ _).grown h3 hown.le (fun k hk => by
        rcases hown.own.2 with ⟨rfl, _⟩ | ⟨g, c, cur, rfl, hg, _⟩
        · cases hk
        · cases hk; exact hg)
      refine h v' w' ⟨?_, hown.bel.trans hb, Nat.le_trans hown.le h3.size⟩
      rw [vn_append] at h2
      rw [List.length_append]
      exact h2
end Go.Proofs.YtkdlcdincimnkaaDoor

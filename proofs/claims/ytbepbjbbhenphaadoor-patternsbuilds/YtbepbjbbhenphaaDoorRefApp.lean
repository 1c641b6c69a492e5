/-
  append of bytes to a list of the call's own.
-/
import Derived.Test.YtbepbjbbhenphaaDoorCopy
namespace Go.Proofs.YtbepbjbbhenphaaDoor
open Go.RowKit
set_option linter.unusedVariables false
/-- append of bytes to a list of the call's own. -/
theorem wpList_appm (w0 w : World) {ops : Array Oper} {rest : List Oper} {o : Oper} {a : Act} {Q : Exit → Act → World → Prop} (hgd : o.guard = none) (s x : Operand)
    (ho : o.op = .call { callee := .builtin .append, args := #[s, x], argTypes := #[36, 36] }) (base : Nat) (v : Value) (l : List Nat) (hs : a.eval s = v) (hown : Apd w0 w base v l)
    (ax : Option Addr) (m : List Nat) (n c : Nat) (hnm : m.length = n) (hx : a.eval x = .slice ax n c) (hz : ax = none → n = 0 ∧ c = 0) (hl : Lies w ax m) (hlen : l.length + m.length ≤ 140737488355328)
    (h : ∀ v' w', Apd w0 w' base v' (l ++ m) → wpList Tryd.prog ops Q rest (a.put o.dst v') w') : wpList Tryd.prog ops Q (o :: rest) a w := by
  subst hnm
  obtain ⟨i0, hi, hz0, hz1, hz2⟩ := info_parts info5
  cases ax with
  | none =>
    obtain ⟨h1, h2⟩ := hz rfl
    have hm : m = [] := List.eq_nil_of_length_eq_zero h1
    subst hm
    subst h2
    exact wpList_append_own_none hgd s x 36 ho base 5 i0 1 Tryd.underlying36 hi v _ _ hs hown.own hx (h _ _ (by rw [List.append_nil]; exact hown))
  | some ad =>
    refine wpList_append_own _ hgd s x 36 ho base 5 i0 (.int .u8 0) 1 1 Tryd.underlying36 hi hz0 hz1 hz2 rfl (by decide) v _ _ hs hown.own ad m.length c (vn m) hx (by rw [vn_length]; omega) ?_ vn_one (by unfold maxLen; omega) (by omega) hown.le ?_
    · intro j u hj
      rw [vn_get] at hj
      rcases hl with rfl | ⟨b, off, ha, hc⟩
      · simp at hj
      · cases ha
        cases hq : m[j]? with
        | none => simp [hq] at hj
        | some y =>
          simp [hq] at hj
          rw [← hj]
          have h1 := hc j y hq
          have hadd : (⟨b, off, none⟩ : Addr).add j = ⟨b, off + j, none⟩ := by unfold Addr.add; split <;> simp_all
          rw [hadd]
          exact h1
    · intro v' w' h2 h3 h4
      have hb : Below base w w' := (Below.refl _ _).grown h3 hown.le (fun k hk => by
        rcases hown.own.2 with ⟨rfl, _⟩ | ⟨g, c, cur, rfl, hg, _⟩
        · cases hk
        · cases hk; exact hg)
      refine h v' w' ⟨?_, hown.bel.trans hb, Nat.le_trans hown.le h3.size⟩
      rw [vn_append] at h2
      rw [List.length_append]
      exact h2
end Go.Proofs.YtbepbjbbhenphaaDoor

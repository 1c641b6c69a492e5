/-
  One byte, and a string's bytes, appended to a list of bytes of the call's own; the document's Lower.
-/
import Derived.Test.YtdndlegfalmkaabLow
import Derived.Lib.AppendStr
import Derived.Laws.OwnMore
namespace Go.Proofs.Ytdndlegfalmkaab
open Go.RowKit
set_option linter.unusedVariables false
theorem strCells_st {l : List Nat} (ho : Oct l) : Lib.strCells (st l) = ob l := by
  have e : (st l).data.toList = l.map UInt8.ofNat := rfl
  unfold Lib.strCells
  rw [e, List.map_map]
  refine List.map_congr_left fun x hx => ?_
  have := ho x hx
  simp
  omega
theorem Ow.lit {w : World} {lo B sz n : Nat} {e : TypeId} {cs : Array Value} (hB : w.heap.size = B) (h : lo ≤ B) (hm : n ≤ maxLen) (hs : cs.size = n * sz) : Ow (w.alloc (.cells cs e)) lo e sz (.slice (some ⟨B, 0, none⟩) n n) n cs.toList := by
  rw [← hB] at h ⊢
  exact ⟨World.ownsRow_lit w cs n h hm hs, by show _ ≤ (w.heap.push _).size; simp; omega⟩
section
variable (w : World) {o : Oper} {a : Act}
theorem wpList_ob1 {ops : Array Oper} {rest : List Oper} {Q : Exit → Act → World → Prop} (hgd : o.guard = none) (s x : Operand)
    (ho : o.op = .call { callee := .builtin .append, args := #[s, x], argTypes := #[27, 27] }) (lo : Nat) (v : Value) (n : Nat) (l : List Nat) (hs : a.eval s = v) (hown : Ow w lo 5 1 v n (ob l))
    (H y c : Nat) (hx : a.eval x = .slice (some ⟨H, 0, none⟩) 1 c) (hc : w.cell? ⟨H, 0, none⟩ = some (.int .u8 (y : Int))) (hlen : n + 1 ≤ 140737488355328)
    (h : ∀ va c w', Got lo 5 1 w w' v (.slice va (n + 1) c) (n + 1) (ob (l ++ [y])) → wpList Try.prog ops Q rest (a.put o.dst (.slice va (n + 1) c)) w') : wpList Try.prog ops Q (o :: rest) a w := by
  obtain ⟨i0, hi, hz0, hz1, hz2⟩ := ginfo_parts ginfo5
  refine wpList_ow Try.prog w hgd s x 27 ho 5 i0 _ 1 1 Try.underlying27 hi hz0 hz1 hz2 rfl (by decide) lo v n _ hs hown (some ⟨H, 0, none⟩) (ob [y]) 1 c rfl hx (by intro h; cases h) (Or.inr ⟨H, 0, rfl, fun i u hu => ?_⟩) ob_one (by unfold maxLen; omega) (by omega) ?_
  · cases i with
    | zero =>
      simp [ob] at hu
      rw [← hu]
      exact hc
    | succ i => simp [ob] at hu
  · intro v' w' hg
    rw [ob_append] at hg
    obtain ⟨va, c', rfl, _⟩ := hg.ow.shape
    exact h va c' w' hg
theorem wpList_obs {ops : Array Oper} {rest : List Oper} {Q : Exit → Act → World → Prop} (hgd : o.guard = none) (s x : Operand)
    (ho : o.op = .call { callee := .builtin .append, args := #[s, x], argTypes := #[27, 9] }) (lo : Nat) (v : Value) (n : Nat) (l : List Nat) (hs : a.eval s = v) (hown : Ow w lo 5 1 v n (ob l))
    (m : List Nat) (M : Nat) (u : ByteArray) (hu : u = st m) (hM : m.length = M) (hm : Oct m) (hx : a.eval x = .string u) (hlen : n + M ≤ 140737488355328)
    (h : ∀ va c w', Got lo 5 1 w w' v (.slice va (n + M) c) (n + M) (ob (l ++ m)) → wpList Try.prog ops Q rest (a.put o.dst (.slice va (n + M) c)) w') : wpList Try.prog ops Q (o :: rest) a w := by
  subst hu
  subst hM
  obtain ⟨i0, hi, hz0, hz1, hz2⟩ := ginfo_parts ginfo5
  refine Lib.wpList_append_own_string w hgd s x 27 9 ho lo 5 i0 Try.underlying27 Try.underlying9 hi hz0 hz1 hz2 v n (ob l) hs hown.own (st m) hx (by rw [st_size]; unfold maxLen; omega) (by rw [st_size]; exact hlen) hown.le ?_
  intro v' w' h2 h3 _
  rw [st_size, strCells_st hm] at h2
  have hg := Got.mk' hown h2 h3
  rw [ob_append] at hg
  obtain ⟨va, c', rfl, _⟩ := hg.ow.shape
  exact h va c' w' hg
end
theorem small_c (l : List Nat) (ho : Oct l) (hl : l.length ≤ 281474976710656) (w : World) : Calls Try.prog 16 #[.string (st l)] w fun e w' => e = .returned (.bool (sm l)) ∧ Below w.heap.size w w' := by
  have htk := token_c l ho hl w
  have hlw := lower_c l ho hl w
  cases h : tok l with
  | false =>
    have e : sm l = false := by unfold sm; rw [h]; rfl
    rw [e]
    rw [h] at htk
    clear hlw h e
    go_enter Try.func16, Try.ntmps16
    go_wp2_with (go_at_call 4; refine htk.mono ?_; rintro e1 w1 ⟨rfl, rfl⟩)
    go_ret
    exact ⟨rfl, Below.refl _ _⟩
  | true =>
    have e : sm l = decide (low l = l) := by unfold sm; rw [h]; rfl
    rw [e]
    rw [h] at htk
    have hq := st_beq ho.low ho
    obtain ⟨q, hq2⟩ : ∃ q, decide (low l = l) = q := ⟨_, rfl⟩
    rw [hq2] at hq ⊢
    obtain ⟨s, hs⟩ : ∃ s, st l = s := ⟨_, rfl⟩
    obtain ⟨t, ht⟩ : ∃ t, st (low l) = t := ⟨_, rfl⟩
    rw [hs] at htk hlw hq ⊢
    rw [ht] at hlw hq
    clear hs ht h e hq2 hl ho
    go_enter Try.func16, Try.ntmps16
    go_wp2_with (first
      | (go_at_call 4; refine htk.mono ?_; rintro e1 w1 ⟨rfl, rfl⟩)
      | (go_at_call 5; refine hlw.mono ?_; rintro e2 w2 ⟨rfl, hb2⟩))
    go_ret
    exact ⟨by rw [← hq]; rfl, hb2⟩
end Go.Proofs.Ytdndlegfalmkaab

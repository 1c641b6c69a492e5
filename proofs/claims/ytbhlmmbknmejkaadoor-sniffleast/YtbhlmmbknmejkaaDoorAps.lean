/-
  A string's bytes behind an own list of bytes.
-/
import Derived.Test.YtbhlmmbknmejkaaDoorOwn
import Derived.Lib.AppendStr
namespace Go.Proofs.YtbhlmmbknmejkaaDoor
open Go.RowKit
set_option linter.unusedVariables false
theorem strCells_st {m : List Nat} (hm : Oct m) : Lib.strCells (st m) = ob m := by
  unfold Lib.strCells ob
  have e : (st m).data.toList = m.map UInt8.ofNat := rfl
  rw [e, List.map_map]
  refine List.map_congr_left fun x hx => ?_
  have := hm x hx
  simp
  omega
theorem own_string (P : Program) (w : World) (t u ty : TypeId) (i : TypeInfo) (ht : P.underlying t = some (.slice 5)) (hu : P.underlying u = some .string) (hi : P.info? 5 = some i) (hz0 : i.zero = some (.int .u8 0)) (hz1 : i.size = 1) (hz2 : i.bytes = 1)
    (lo : Nat) (v : Value) (n : Nat) (l : List Nat) (hown : Ow w lo 5 1 v n (ob l)) (m : List Nat) (M : Nat) (s : ByteArray) (hs : s = st m) (hM : m.length = M) (hm : Oct m) (hlen : n + M ≤ 140737488355328) :
    ∃ va c w', (Builtin.append_ #[t, u] ty #[v, .string s]).run P w = .ok (.slice va (n + M) c) w' ∧ Got lo 5 1 w w' v (.slice va (n + M) c) (n + M) (ob (l ++ m)) := by
  subst hs
  subst hM
  obtain ⟨v', w', hr, h2, h3, h4⟩ := Lib.run_append_own_string (P := P) w lo t u ty 5 i ht hu hi hz0 hz1 hz2 v n _ hown.own (st m) (by rw [st_size]; unfold maxLen; omega) (by rw [st_size]; omega) hown.le
  rw [st_size, strCells_st hm] at h2
  have hg := Got.mk' hown h2 h3
  rw [ob_append] at hg
  obtain ⟨a', c', hv, _⟩ := hg.ow.shape
  subst hv
  exact ⟨a', c', w', hr, hg⟩
section
variable (P : Program) (w : World) {o : Oper} {a : Act}
theorem wpList_ows {ops : Array Oper} {rest : List Oper} {Q : Exit → Act → World → Prop} (hgd : o.guard = none) (s x : Operand) (t u : TypeId)
    (ho : o.op = .call { callee := .builtin .append, args := #[s, x], argTypes := #[t, u] }) (i : TypeInfo) (ht : P.underlying t = some (.slice 5)) (hu : P.underlying u = some .string) (hi : P.info? 5 = some i) (hz0 : i.zero = some (.int .u8 0)) (hz1 : i.size = 1) (hz2 : i.bytes = 1)
    (lo : Nat) (v : Value) (n : Nat) (l : List Nat) (hs : a.eval s = v) (hown : Ow w lo 5 1 v n (ob l)) (m : List Nat) (M : Nat) (S : ByteArray) (hS : S = st m) (hM : m.length = M) (hm : Oct m) (hx : a.eval x = .string S) (hlen : n + M ≤ 140737488355328)
    (h : ∀ va c w', Got lo 5 1 w w' v (.slice va (n + M) c) (n + M) (ob (l ++ m)) → wpList P ops Q rest (a.put o.dst (.slice va (n + M) c)) w') : wpList P ops Q (o :: rest) a w := by
  obtain ⟨va, c, w', hr, hg⟩ := own_string P w t u o.type i ht hu hi hz0 hz1 hz2 lo v n l hown m M S hS hM hm hlen
  refine wpList_plain hgd fun K hK => ?_
  unfold Oper.wp execOp
  simp only [ho, resolve, invoke, builtin, Sem.run_bind, Sem.run_pure, Result.andThen_ok, List.map_toArray, List.map_cons, List.map_nil, hs, hx, hr]
  exact hK _ _ (h va c w' hg)
theorem step_owst {ops : Array Oper} {K : Act → World → Prop} {Q : Exit → Act → World → Prop} {E : Prop} (hgd : o.guard = none) (s x : Operand) (t u : TypeId)
    (ho : o.op = .call { callee := .builtin .append, args := #[s, x], argTypes := #[t, u] }) (i : TypeInfo) (ht : P.underlying t = some (.slice 5)) (hu : P.underlying u = some .string) (hi : P.info? 5 = some i) (hz0 : i.zero = some (.int .u8 0)) (hz1 : i.size = 1) (hz2 : i.bytes = 1)
    (lo : Nat) (v : Value) (n : Nat) (l : List Nat) (hs : a.eval s = v) (hown : Ow w lo 5 1 v n (ob l)) (m : List Nat) (M : Nat) (S : ByteArray) (hS : S = st m) (hM : m.length = M) (hm : Oct m) (hx : a.eval x = .string S) (hlen : n + M ≤ 140737488355328)
    (h : ∀ va c w', Got lo 5 1 w w' v (.slice va (n + M) c) (n + M) (ob (l ++ m)) → K (a.put o.dst (.slice va (n + M) c)) w') :
    if Region.wanted o (yielded ops a.tmps) = true then Oper.wp P o a w K Q else E := by
  have hw : Region.wanted o (yielded ops a.tmps) = true := by simp [Region.wanted, hgd]
  rw [if_pos hw]
  obtain ⟨va, c, w', hr, hg⟩ := own_string P w t u o.type i ht hu hi hz0 hz1 hz2 lo v n l hown m M S hS hM hm hlen
  unfold Oper.wp execOp
  simp only [ho, resolve, invoke, builtin, Sem.run_bind, Sem.run_pure, Result.andThen_ok, List.map_toArray, List.map_cons, List.map_nil, hs, hx, hr]
  exact h va c w' hg
/-- Any elements, at a step of a region that draws its order. -/
theorem step_ows {ops : Array Oper} {K : Act → World → Prop} {Q : Exit → Act → World → Prop} {E : Prop} (hgd : o.guard = none) (s x : Operand) (t : TypeId)
    (ho : o.op = .call { callee := .builtin .append, args := #[s, x], argTypes := #[t, t] }) (e : TypeId) (i : TypeInfo) (z : Value) (sz bytes : Nat) (ht : P.underlying t = some (.slice e)) (hi : P.info? e = some i) (hz0 : i.zero = some z) (hz1 : i.size = sz) (hz2 : i.bytes = bytes) (hz3 : z.cells.size = sz) (hsz : 0 < sz)
    (lo : Nat) (v : Value) (k : Nat) (l : List Value) (hs : a.eval s = v) (hown : Ow w lo e sz v k l)
    (ax : Option Addr) (m : List Value) (n c : Nat) (hnm : m.length = n * sz) (hx : a.eval x = .slice ax n c) (hz : ax = none → n = 0 ∧ c = 0) (hl : m = [] ∨ ∃ b o, ax = some ⟨b, o, none⟩ ∧ ∀ i u, m[i]? = some u → w.cell? ⟨b, o + i, none⟩ = some u) (h1 : ∀ u ∈ m, u.oneCell' = true) (h63 : k + n ≤ maxLen) (hlen : (k + n) * bytes ≤ 140737488355328)
    (h : ∀ va c' w', Got lo e sz w w' v (.slice va (k + n) c') (k + n) (l ++ m) → K (a.put o.dst (.slice va (k + n) c')) w') : if Region.wanted o (yielded ops a.tmps) = true then Oper.wp P o a w K Q else E := by
  have hw : Region.wanted o (yielded ops a.tmps) = true := by simp [Region.wanted, hgd]
  rw [if_pos hw]
  have h' : ∀ v' w', Got lo e sz w w' v v' (k + n) (l ++ m) → K (a.put o.dst v') w' := fun v' w' hg => by
    obtain ⟨a', c', hv, _⟩ := hg.ow.shape
    subst hv
    exact h a' c' w' hg
  cases ax with
  | none =>
    obtain ⟨h1, h2⟩ := hz rfl
    subst h1
    have hm : m = [] := List.eq_nil_of_length_eq_zero (by omega)
    subst hm
    subst h2
    have hrun := run_append_owned_none (P := P) (w := w) lo t o.type e i sz ht hi v _ _ hown.own
    unfold Oper.wp
    simp [execOp, ho, resolve, invoke, builtin, hs, hx, hrun, Result.andThen]
    refine h' v w ?_
    rw [List.append_nil]
    exact ⟨hown, Below.refl _ _, fun _ _ _ => rfl, fun k _ => Or.inl rfl⟩
  | some ad =>
    obtain ⟨v', w', hrun, r1, r2, _⟩ := run_append_own (P := P) w lo t o.type e i z sz bytes ht hi hz0 hz1 hz2 hz3 hsz v _ _ hown.own ad n c m hnm (fun j u hj => by
      rcases hl with rfl | ⟨b, off, ha, hc⟩
      · simp at hj
      · cases ha
        rw [addr_add]
        exact hc j u hj) h1 h63 hlen hown.le
    unfold Oper.wp
    simp [execOp, ho, resolve, invoke, builtin, hs, hx, hrun, Result.andThen]
    exact h' v' w' (Got.mk' hown r1 r2)
end
end Go.Proofs.YtbhlmmbknmejkaaDoor

/-
  Noughts behind a list of bytes of the call's own: append(x, make([]byte, k)...).
-/
import Derived.Test.YtcmmjbkgoafbnaaGreatDoorAps
namespace Go.Proofs.YtcmmjbkgoafbnaaGreatDoor
open Go.RowKit
set_option linter.unusedVariables false
set_option linter.unusedSimpArgs false
theorem zero_cells (k : Nat) : Builtin.zeroCells (Value.int .u8 0).cells k = (ob (List.replicate k 0)).toArray := by
  apply Array.ext'
  unfold Builtin.zeroCells ob
  have e : (Value.int IntKind.u8 0).cells = #[.int .u8 0] := rfl
  rw [e]
  simp only [Array.toList_map, Array.toList_range, List.toList_toArray, List.map_replicate]
  have h1 : (#[Value.int IntKind.u8 0] : Array Value).size = 1 := rfl
  rw [h1, Nat.mul_one]
  apply List.ext_getElem
  · simp
  · intro i h1 h2
    simp [Nat.mod_one]
section
variable {P : Program} {w : World} {t u ty e : TypeId} {i : TypeInfo}
theorem app0_room (ht : P.underlying t = some (.slice e)) (hu : P.underlying u = some (.int .i64)) (hi : P.info? e = some i) (hz : i.zero = some (.int .u8 0)) (hs1 : i.size = 1) (hb1 : i.bytes = 1)
    (g n cap k : Nat) (cur : Array Value) (hg : w.heap[g]? = some (.cells cur e (0, 0))) (hk : k < 100000) (hk0 : k ≠ 0) (hroom : n + k ≤ cap) (hfit : n + k ≤ cur.size) :
    (Builtin.append_ #[t, u] ty #[.slice (some ⟨g, 0, none⟩) n cap, .int .i64 (k : Int)]).run P w = .ok (.slice (some ⟨g, 0, none⟩) (n + k) cap) (w.setRow g (cur.toList.take n ++ ob (List.replicate k 0) ++ cur.toList.drop (n + k)).toArray) := by
  have hst := run_storeCells_at P g n e (ob (List.replicate k 0)) 0 cur w hg (by rw [ob_length, List.length_replicate]; omega) ob_one
  simp only [Nat.add_zero, ob_length, List.length_replicate] at hst
  have hw : IntKind.i64.wrap (k : Int) = (k : Int) := by rw [IntKind.wrap_i64]; omega
  have h1 : ¬ (k : Int) < 0 := by omega
  have h2 : ¬ (281474976710656 : Int) < (k : Int) := by omega
  simp [Builtin.append_, run_underlying ht, run_underlying hu, asInt, asIntOf, sizeOf, typeInfo, zeroValue, hi, hs1, hz, hb1, hw, h1, h2, hk0, hroom, zero_cells, Addr.add_lit, hst]
theorem app0_grow (ht : P.underlying t = some (.slice e)) (hu : P.underlying u = some (.int .i64)) (hi : P.info? e = some i) (hz : i.zero = some (.int .u8 0)) (hs1 : i.size = 1) (hb1 : i.bytes = 1)
    (b : Addr) (n cap k : Nat) (olds : List Value) (hlo : olds.length = n) (holds : ∀ j v, olds[j]? = some v → w.cell? (b.add j) = some v) (hk : k < 100000) (hk0 : k ≠ 0) (hg : cap < n + k) (hn : n ≤ 100000000000000) :
    (Builtin.append_ #[t, u] ty #[.slice (some b) n cap, .int .i64 (k : Int)]).run P w = .ok (.slice (some ⟨w.heap.size, 0, none⟩) (n + k) (grownCap w (n + k) cap e)) (w.drew.alloc (.cells (olds.toArray ++ (ob (List.replicate k 0)).toArray ++ Builtin.zeroCells (Value.int .u8 0).cells (grownCap w (n + k) cap e - (n + k))) e)) := by
  have hn2 : ¬ (n + k ≤ cap) := by omega
  have hw : IntKind.i64.wrap (k : Int) = (k : Int) := by rw [IntKind.wrap_i64]; omega
  have h1 : ¬ (k : Int) < 0 := by omega
  have h2 : ¬ (281474976710656 : Int) < (k : Int) := by omega
  have h63' : ¬ (9223372036854775807 < ((n : Int) + (k : Int))) := by omega
  have hfit : Builtin.nextslicecap (n + k) cap * 1 ≤ 281474976710656 := growslice_fits (by omega) (by omega)
  have h48' : ¬ (281474976710656 < Builtin.nextslicecap (n + k) cap) := by omega
  have hfo := run_firstCells_some (P := P) w.drew i.size n b n cap olds (by rw [hs1]; omega) (by simpa using holds)
  rw [hs1] at hfo
  simp [Builtin.append_, run_underlying ht, run_underlying hu, asInt, asIntOf, sizeOf, typeInfo, zeroValue, hi, hs1, hz, hb1, hw, h1, h2, hk0, hn2, h63', h48', Question.forced, zero_cells, hfo, newRow, grownCap]
theorem app0_nil (ht : P.underlying t = some (.slice e)) (hu : P.underlying u = some (.int .i64)) (hi : P.info? e = some i) (hz : i.zero = some (.int .u8 0)) (hs1 : i.size = 1) (hb1 : i.bytes = 1) (k : Nat) (hk : k < 100000) (hk0 : k ≠ 0) :
    (Builtin.append_ #[t, u] ty #[.slice none 0 0, .int .i64 (k : Int)]).run P w = .ok (.slice (some ⟨w.heap.size, 0, none⟩) k (grownCap w k 0 e)) (w.drew.alloc (.cells ((ob (List.replicate k 0)).toArray ++ Builtin.zeroCells (Value.int .u8 0).cells (grownCap w k 0 e - k)) e)) := by
  have hn2 : ¬ (k ≤ 0) := by omega
  have hw : IntKind.i64.wrap (k : Int) = (k : Int) := by rw [IntKind.wrap_i64]; omega
  have h1 : ¬ (k : Int) < 0 := by omega
  have h2 : ¬ (281474976710656 : Int) < (k : Int) := by omega
  have h63' : ¬ (9223372036854775807 < (k : Int)) := by omega
  have hfit : Builtin.nextslicecap k 0 * 1 ≤ 281474976710656 := growslice_fits (by omega) (by omega)
  have h48' : ¬ (281474976710656 < Builtin.nextslicecap k 0) := by omega
  simp [Builtin.append_, run_underlying ht, run_underlying hu, asInt, asIntOf, sizeOf, typeInfo, zeroValue, hi, hs1, hz, hb1, hw, h1, h2, hk0, hn2, h63', h48', Question.forced, zero_cells, newRow, grownCap, Builtin.firstCells]
/-- The law. -/
theorem own_zeros (ht : P.underlying t = some (.slice 5)) (hu : P.underlying u = some (.int .i64)) (hi : P.info? 5 = some i) (hz : i.zero = some (.int .u8 0)) (hs1 : i.size = 1) (hb1 : i.bytes = 1)
    (lo : Nat) (v : Value) (n : Nat) (l : List Nat) (hown : Ow w lo 5 1 v n (ob l)) (hl : l.length = n) (hn : n ≤ 100000000000000) (k : Nat) (hk : k < 100000) :
    ∃ va c w', (Builtin.append_ #[t, u] ty #[v, .int .i64 (k : Int)]).run P w = .ok (.slice va (n + k) c) w' ∧ Got lo 5 1 w w' v (.slice va (n + k) c) (n + k) (ob (l ++ List.replicate k 0)) := by
  have hxl : (ob l).length = n := by rw [ob_length]; exact hl
  rcases hown.own.2 with ⟨hv, h0⟩ | ⟨g, cap, cur, hv, hbg, hg, hnc, hcm, hcs, htake⟩
  · subst hv
    obtain rfl : n = 0 := h0
    obtain rfl : l = [] := List.length_eq_zero_iff.1 hl
    by_cases hk0 : k = 0
    · subst hk0
      refine ⟨none, 0, w, ?_, ?_⟩
      · have hw : IntKind.i64.wrap (0 : Int) = 0 := by decide
        simp [Builtin.append_, run_underlying ht, run_underlying hu, asInt, asIntOf, sizeOf, typeInfo, hi, hs1, hb1, hw]
      · rw [List.replicate_zero, List.append_nil]
        exact ⟨hown, Below.refl _ _, fun _ _ _ => rfl, fun _ _ => Or.inl rfl⟩
    · have hr := app0_nil (P := P) (w := w) (t := t) (u := u) (ty := ty) (e := 5) ht hu hi hz hs1 hb1 k hk hk0
      rw [Nat.zero_add]
      refine ⟨_, _, _, hr, ?_⟩
      have hge := grownCap_ge w k 0 5
      have hcm2 : grownCap w k 0 5 ≤ maxLen := grownCap_le_maxLen w k 0 5 (by unfold maxLen; omega)
      have := Got.mk' (n := 0) (m := k) (xs := ob []) (news := ob (List.replicate k 0)) hown (w' := w.drew.alloc (.cells ((ob (List.replicate k 0)).toArray ++ Builtin.zeroCells (Value.int .u8 0).cells (grownCap w k 0 5 - k)) 5)) (v' := .slice (some ⟨w.heap.size, 0, none⟩) (0 + k) (grownCap w k 0 5)) ⟨by simp [ob_length], .inr ⟨w.heap.size, _, _, rfl, hown.le, heap_alloc_new w.drew _, by omega, hcm2, ?_, ?_⟩⟩ ⟨rfl, rfl, rfl, by simp, fun k' hk' _ => heap_alloc_old w.drew _ hk'⟩
      · rw [ob_append, Nat.zero_add] at this; exact this
      · rw [zero_cells]
        simp only [Array.size_append, List.size_toArray, ob_length, List.length_replicate]
        omega
      · simp only [Array.toList_append]
        have e : (0 + k) * 1 = (ob (List.replicate k 0)).length := by rw [ob_length, List.length_replicate]; omega
        rw [e]
        show List.take _ (ob (List.replicate k 0) ++ _) = ob [] ++ ob (List.replicate k 0)
        rw [List.take_left]; rfl
  · subst hv
    have hcs' : cur.size = cap := by simpa using hcs
    by_cases hk0 : k = 0
    · subst hk0
      refine ⟨some ⟨g, 0, none⟩, cap, w, ?_, ?_⟩
      · have hst := run_storeCells_at P g n 5 [] 0 cur w hg (by simp; omega) (by simp)
        have hw : IntKind.i64.wrap (0 : Int) = 0 := by decide
        simp [Builtin.append_, run_underlying ht, run_underlying hu, asInt, asIntOf, sizeOf, typeInfo, hi, hs1, hb1, hw, hnc, storeCells]
      · rw [List.replicate_zero, List.append_nil]
        exact ⟨hown, Below.refl _ _, fun _ _ _ => rfl, fun _ _ => Or.inl rfl⟩
    · by_cases hroom : n + k ≤ cap
      · have hr := app0_room (P := P) (w := w) (t := t) (u := u) (ty := ty) (e := 5) ht hu hi hz hs1 hb1 g n cap k cur hg hk hk0 hroom (by omega)
        refine ⟨_, _, _, hr, ?_⟩
        have := Got.mk' (m := k) (news := ob (List.replicate k 0)) hown (w' := w.setRow g (cur.toList.take n ++ ob (List.replicate k 0) ++ cur.toList.drop (n + k)).toArray) (v' := .slice (some ⟨g, 0, none⟩) (n + k) cap) ⟨by simp [ob_length, hl], .inr ⟨g, cap, _, rfl, hbg, setRow_heap w g cur _ 5 _ hg, hroom, hcm, ?_, ?_⟩⟩ ⟨rfl, rfl, rfl, by simp, fun k' _ hk' => setRow_other w g k' _ (fun e => hk' (by simp [Value.ownBlock, e]))⟩
        · rw [ob_append] at this; exact this
        · simp only [List.size_toArray, List.length_append, List.length_take, List.length_drop, Array.length_toList, ob_length, List.length_replicate]
          omega
        · have ht' : cur.toList.take n = ob l := by simpa using htake
          rw [ht']
          have e : (n + k) * 1 = (ob l ++ ob (List.replicate k 0)).length := by rw [List.length_append, hxl, ob_length, List.length_replicate, Nat.mul_one]
          rw [e]
          exact List.take_left
      · have holds : ∀ j u, (ob l)[j]? = some u → w.cell? ((⟨g, 0, none⟩ : Addr).add j) = some u := hown.own.cells (g := g) rfl
        have hr := app0_grow (P := P) (w := w) (t := t) (u := u) (ty := ty) (e := 5) ht hu hi hz hs1 hb1 ⟨g, 0, none⟩ n cap k (ob l) hxl holds hk hk0 (by omega) hn
        refine ⟨_, _, _, hr, ?_⟩
        have hge := grownCap_ge w (n + k) cap 5
        have hcm2 : grownCap w (n + k) cap 5 ≤ maxLen := grownCap_le_maxLen w (n + k) cap 5 (by unfold maxLen; omega)
        have := Got.mk' (m := k) (news := ob (List.replicate k 0)) hown (w' := w.drew.alloc (.cells ((ob l).toArray ++ (ob (List.replicate k 0)).toArray ++ Builtin.zeroCells (Value.int .u8 0).cells (grownCap w (n + k) cap 5 - (n + k))) 5)) (v' := .slice (some ⟨w.heap.size, 0, none⟩) (n + k) (grownCap w (n + k) cap 5)) ⟨by simp [ob_length, hl], .inr ⟨w.heap.size, _, _, rfl, hown.le, heap_alloc_new w.drew _, hge, hcm2, ?_, ?_⟩⟩ ⟨rfl, rfl, rfl, by simp, fun k' hk' _ => heap_alloc_old w.drew _ hk'⟩
        · rw [ob_append] at this; exact this
        · rw [zero_cells]
          simp only [Array.size_append, List.size_toArray, ob_length, List.length_replicate, hl]
          omega
        · simp only [Array.toList_append, List.append_assoc]
          rw [← List.append_assoc]
          have e : (n + k) * 1 = (ob l ++ ob (List.replicate k 0)).length := by rw [List.length_append, hxl, ob_length, List.length_replicate, Nat.mul_one]
          rw [e]
          exact List.take_left
theorem wpList_owz {ops : Array Oper} {rest : List Oper} {o : Oper} {a : Act} {Q : Exit → Act → World → Prop} (hgd : o.guard = none) (s x : Operand) (t u : TypeId)
    (ho : o.op = .call { callee := .builtin .append, args := #[s, x], argTypes := #[t, u] }) (i : TypeInfo) (ht : P.underlying t = some (.slice 5)) (hu : P.underlying u = some (.int .i64)) (hi : P.info? 5 = some i) (hz0 : i.zero = some (.int .u8 0)) (hz1 : i.size = 1) (hz2 : i.bytes = 1)
    (lo : Nat) (v : Value) (n : Nat) (l : List Nat) (hs : a.eval s = v) (hown : Ow w lo 5 1 v n (ob l)) (hl : l.length = n) (hn : n ≤ 100000000000000) (k : Nat) (hk : k < 100000) (hx : a.eval x = .int .i64 (k : Int))
    (h : ∀ va c w', Got lo 5 1 w w' v (.slice va (n + k) c) (n + k) (ob (l ++ List.replicate k 0)) → wpList P ops Q rest (a.put o.dst (.slice va (n + k) c)) w') : wpList P ops Q (o :: rest) a w := by
  obtain ⟨va, c, w', hr, hg⟩ := own_zeros (P := P) (w := w) (t := t) (u := u) (ty := o.type) ht hu hi hz0 hz1 hz2 lo v n l hown hl hn k hk
  refine wpList_plain hgd fun K hK => ?_
  unfold Oper.wp execOp
  simp only [ho, resolve, invoke, builtin, Sem.run_bind, Sem.run_pure, Result.andThen_ok, List.map_toArray, List.map_cons, List.map_nil, hs, hx, hr]
  exact hK _ _ (h va c w' hg)
end
end Go.Proofs.YtcmmjbkgoafbnaaGreatDoor

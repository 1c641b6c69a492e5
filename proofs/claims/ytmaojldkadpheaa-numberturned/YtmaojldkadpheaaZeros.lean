/-
  What 'append(list, make([]byte, 512)...)' makes of a list of the call's own, as a law for the walk: 512 noughts stand behind it.
  Conditions: the list is one of the call's own that is not nil; with the noughts it has at most 2^47 bytes.
-/
import Derived.Test.YtmaojldkadpheaaApp
namespace Go.Proofs.Ytmaojldkadpheaa
open Go.RowKit
set_option linter.unusedVariables false
theorem zeroCells_one (v : Value) (n : Nat) : Builtin.zeroCells #[v] n = (List.replicate n v).toArray := by
  apply Array.ext
  · simp [Builtin.zeroCells]
  · intro i h1 h2
    simp [Builtin.zeroCells, Nat.mod_one]
theorem und3 : Try.prog.underlying 3 = some (.int .i64) := by kernel_rfl
set_option maxHeartbeats 1000000 in
theorem run_zeros (w : World) (base : Nat) (ty : TypeId) (g n cap : Nat) (cur : Array Value) (xs : List Value) (hxs : xs.length = n)
    (hbg : base ≤ g) (hg : w.heap[g]? = some (.cells cur 5 (0, 0))) (hnc : n ≤ cap) (hcm : cap ≤ maxLen) (hcs : cur.size = cap) (htake : cur.toList.take n = xs) (h1 : ∀ u ∈ xs, u.oneCell' = true)
    (hfit : n + 512 ≤ 140737488355328) (hbase : base ≤ w.heap.size) :
    ∃ v' w', (Builtin.append_ #[22, 3] ty #[.slice (some ⟨g, 0, none⟩) n cap, .int .i64 512]).run Try.prog w = .ok v' w' ∧ w'.ownsRow base 5 1 v' (n + 512) (xs ++ List.replicate 512 (.int .u8 0)) ∧ w.grownBy w' (some g) := by
  obtain ⟨i, hi, hz, hs, hb⟩ := info_parts info5
  have hzc : Builtin.zeroCells (Value.int .u8 0).cells 512 = (List.replicate 512 (Value.int .u8 0)).toArray := zeroCells_one _ _
  generalize hnews : List.replicate 512 (Value.int .u8 0) = news at *
  have hnl : news.length = 512 := by rw [← hnews]; exact List.length_replicate
  have hn1 : ∀ u ∈ news, u.oneCell' = true := by
    intro u hu; rw [← hnews] at hu; rw [(List.mem_replicate.1 hu).2]; rfl
  clear hnews
  by_cases hroom : n + 512 ≤ cap
  · have hst := run_storeCells_at Try.prog g n 5 news 0 cur w hg (by omega) hn1
    simp only [Nat.add_zero] at hst
    refine ⟨.slice (some ⟨g, 0, none⟩) (n + 512) cap, w.setRow g (cur.toList.take n ++ news ++ cur.toList.drop (n + news.length)).toArray, ?_, ?_, ?_⟩
    · simp [Builtin.append_, run_underlying Try.underlying22, run_underlying und3, sizeOf, typeInfo, zeroValue, hi, hz, hs, hb, asInt, asIntOf, IntKind.wrap_i64, hroom, hzc, Addr.add_lit, hst]
    · refine ⟨by simp [hxs, hnl], .inr ⟨g, cap, _, rfl, hbg, setRow_heap w g cur _ 5 _ hg, hroom, hcm, ?_, ?_⟩⟩
      · simp only [List.size_toArray, List.length_append, List.length_take, List.length_drop, Array.length_toList]
        omega
      · rw [htake, Nat.mul_one]
        have hl : (xs ++ news).length = n + 512 := by rw [List.length_append, hxs, hnl]
        rw [← hl]
        exact List.take_left
    · exact ⟨rfl, rfl, rfl, by simp, fun k _ hk => setRow_other w g k _ (fun e => hk (by rw [e]))⟩
  · have hold : ∀ j u, xs[j]? = some u → w.cell? ((⟨g, 0, none⟩ : Addr).add j) = some u := by
      intro j u hu
      have hadd : (⟨g, 0, none⟩ : Addr).add j = ⟨g, j, none⟩ := by unfold Addr.add; split <;> simp_all
      rw [hadd, cell_of_row w g j cur 5 (0, 0) hg]
      rw [← htake, List.getElem?_take] at hu
      split at hu
      · simpa using hu
      · cases hu
    have hfo := run_firstCells_some (P := Try.prog) w.drew 1 n ⟨g, 0, none⟩ n cap xs (by omega) (by simpa using hold)
    have hge := grownCap_ge w (n + 512) cap 5
    have hcm2 : grownCap w (n + 512) cap 5 ≤ maxLen := grownCap_le_maxLen w (n + 512) cap 5 (by simp only [maxLen]; omega)
    have h48 := growslice_fits (need := n + 512) (old := cap) (bytes := 1) (Nat.lt_of_not_le hroom) (by rw [Nat.mul_one]; exact hfit)
    rw [Nat.mul_one] at h48
    have h48' : ¬ (281474976710656 < Builtin.nextslicecap (n + 512) cap) := Nat.not_lt.2 h48
    have h63' : ¬ (9223372036854775807 < (n : Int) + max 512 0) := by omega
    refine ⟨.slice (some ⟨w.heap.size, 0, none⟩) (n + 512) (grownCap w (n + 512) cap 5), w.drew.alloc (.cells (xs.toArray ++ news.toArray ++ Builtin.zeroCells (Value.int .u8 0).cells (grownCap w (n + 512) cap 5 - (n + 512))) 5), ?_, ?_, ?_⟩
    · simp [Builtin.append_, run_underlying Try.underlying22, run_underlying und3, sizeOf, typeInfo, zeroValue, hi, hz, hs, hb, asInt, asIntOf, IntKind.wrap_i64, hroom, h63', h48', Question.forced, hfo, newRow, grownCap, hzc]
      congr 2
      apply Array.ext'
      simp [List.append_assoc]
    · refine ⟨by simp [hxs, hnl], .inr ⟨w.heap.size, _, _, rfl, hbase, heap_alloc_new w.drew _, hge, hcm2, ?_, ?_⟩⟩
      · simp only [Array.size_append, List.size_toArray, size_zeroCells, hxs, hnl]
        show n + 512 + (_ - _) * 1 = _
        omega
      · have hl : (xs ++ news).length = n + 512 := by rw [List.length_append, hxs, hnl]
        simp only [Array.toList_append, List.append_assoc]
        rw [← List.append_assoc, Nat.mul_one, ← hl]
        exact List.take_left
    · exact ⟨rfl, rfl, rfl, by simp, fun k hk _ => heap_alloc_old w.drew _ hk⟩
set_option maxHeartbeats 1000000 in
theorem run_zeros_nil (w : World) (base : Nat) (ty : TypeId) (hbase : base ≤ w.heap.size) :
    ∃ v' w', (Builtin.append_ #[22, 3] ty #[.slice none 0 0, .int .i64 512]).run Try.prog w = .ok v' w' ∧ w'.ownsRow base 5 1 v' 512 (List.replicate 512 (.int .u8 0)) ∧ w.grownBy w' none := by
  obtain ⟨i, hi, hz, hs, hb⟩ := info_parts info5
  have hzc : Builtin.zeroCells (Value.int .u8 0).cells 512 = (List.replicate 512 (Value.int .u8 0)).toArray := zeroCells_one _ _
  generalize hnews : List.replicate 512 (Value.int .u8 0) = news at *
  have hnl : news.length = 512 := by rw [← hnews]; exact List.length_replicate
  clear hnews
  have hge := grownCap_ge w 512 0 5
  have hcm2 : grownCap w 512 0 5 ≤ maxLen := grownCap_le_maxLen w 512 0 5 (by simp only [maxLen]; omega)
  have h48' : ¬ (281474976710656 < Builtin.nextslicecap 512 0) := by rw [nextslicecap_zero (by decide)]; decide
  refine ⟨.slice (some ⟨w.heap.size, 0, none⟩) 512 (grownCap w 512 0 5), w.drew.alloc (.cells (news.toArray ++ Builtin.zeroCells (Value.int .u8 0).cells (grownCap w 512 0 5 - 512)) 5), ?_, ?_, ?_⟩
  · simp [Builtin.append_, run_underlying Try.underlying22, run_underlying und3, sizeOf, typeInfo, zeroValue, hi, hz, hs, hb, asInt, asIntOf, IntKind.wrap_i64, h48', Question.forced, run_firstCells_none, newRow, grownCap, hzc]
    intro h
    exact absurd h (by omega)
  · refine ⟨by rw [hnl], .inr ⟨w.heap.size, _, _, rfl, hbase, heap_alloc_new w.drew _, hge, hcm2, ?_, ?_⟩⟩
    · simp only [Array.size_append, List.size_toArray, size_zeroCells, hnl]
      show 512 + (_ - _) * 1 = _
      omega
    · simp only [Array.toList_append]
      rw [Nat.mul_one, ← hnl]
      exact List.take_left
  · exact ⟨rfl, rfl, rfl, by simp, fun k hk _ => heap_alloc_old w.drew _ hk⟩
theorem vn_zeros (l : List Nat) (n : Nat) : vn l ++ List.replicate n (.int .u8 0) = vn (l ++ List.replicate n 0) := by simp [vn]
theorem wpList_zeros (w0 w : World) {ops : Array Oper} {rest : List Oper} {o : Oper} {a : Act} {Q : Exit → Act → World → Prop} (hgd : o.guard = none) (s : Operand)
    (ho : o.op = .call { callee := .builtin .append, args := #[s, .const (.int .i64 512)], argTypes := #[22, 3] }) (base : Nat) (v : Value) (l : List Nat) (hs : a.eval s = v) (hown : Apd w0 w base v l)
    (hlen : l.length + 512 ≤ 140737488355328)
    (h : ∀ v' w', Apd w0 w' base v' (l ++ List.replicate 512 0) → wpList Try.prog ops Q rest (a.put o.dst v') w') : wpList Try.prog ops Q (o :: rest) a w := by
  refine wpList_plain hgd fun K hK => ?_
  have key : ∃ v' w', (Builtin.append_ #[22, 3] o.type #[v, .int .i64 512]).run Try.prog w = .ok v' w' ∧ Apd w0 w' base v' (l ++ List.replicate 512 0) := by
    rcases hown.own.2 with ⟨rfl, h0⟩ | ⟨g, c, cur, rfl, hg, hh, hc, hm, hs, ht⟩
    · have hl : l = [] := List.eq_nil_of_length_eq_zero h0
      obtain ⟨v', w', hr, h2, h3⟩ := run_zeros_nil w base o.type hown.le
      have hb : Below base w w' := (Below.refl base w).grown h3 hown.le (fun k hk => by cases hk)
      refine ⟨v', w', hr, ?_, hown.bel.trans hb, Nat.le_trans hown.le h3.size⟩
      rw [hl, List.nil_append, List.length_replicate]
      have e := vn_zeros [] 512
      rw [List.nil_append] at e
      rw [← e]; exact h2
    · obtain ⟨v', w', hr, h2, h3⟩ := run_zeros w base o.type g l.length c cur (vn l) (vn_length l) hg hh hc hm (by rw [hs, Nat.mul_one]) (by rw [Nat.mul_one] at ht; exact ht) vn_one hlen hown.le
      have hb : Below base w w' := (Below.refl base w).grown h3 hown.le (fun k hk => by cases hk; exact hg)
      refine ⟨v', w', hr, ?_, hown.bel.trans hb, Nat.le_trans hown.le h3.size⟩
      rw [List.length_append, List.length_replicate, ← vn_zeros]; exact h2
  obtain ⟨v', w', hr, hap⟩ := key
  unfold Oper.wp execOp
  simp only [ho, resolve, invoke, builtin, Sem.run_bind, Sem.run_pure, Result.andThen_ok, List.map_toArray, List.map_cons, List.map_nil, hs, show a.eval (.const (.int .i64 512)) = .int .i64 512 from rfl, hr]
  exact hK _ _ (h v' w' hap)
end Go.Proofs.Ytmaojldkadpheaa

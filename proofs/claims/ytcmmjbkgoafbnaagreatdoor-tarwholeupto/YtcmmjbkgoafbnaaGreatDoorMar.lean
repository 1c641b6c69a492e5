/-
  A list of bytes of the call's own that a conversion may have laid: appends to it.
-/
import Derived.Test.YtcmmjbkgoafbnaaGreatDoorCnv
import Derived.Test.YtcmmjbkgoafbnaaGreatDoorAps
import Derived.Deep.OwnRows
import Derived.Laws.CopyOwn
import Derived.Lib.FrozenHead
namespace Go.Proofs.YtcmmjbkgoafbnaaGreatDoor
open Go.RowKit
set_option linter.unusedVariables false
/-- Cells of a row, none of them frozen, are written. -/
theorem store_m (P : Program) (g o : Nat) (t : TypeId) (fz : Nat × Nat) : ∀ (vs : List Value) (i : Nat) (cur : Array Value) (w : World), w.heap[g]? = some (.cells cur t fz) → (fz.2 = 0 ∨ cur.size ≤ fz.1) → o + i + vs.length ≤ cur.size → (∀ v ∈ vs, v.oneCell' = true) →
    (storeCells ⟨g, o, none⟩ vs i).run P w = .ok () (w.setRow g (cur.toList.take (o + i) ++ vs ++ cur.toList.drop (o + i + vs.length)).toArray)
  | [], i, cur, w, hg, _, _, _ => by
    simp only [storeCells, List.append_nil, List.length_nil, Nat.add_zero, List.take_append_drop, Array.toArray_toList]
    rw [setRow_self w g cur t fz hg]
    rfl
  | v :: rest, i, cur, w, hg, hfz, hl, h1 => by
    have hi : o + i < cur.size := by simp at hl; omega
    have hadd : (⟨g, o, none⟩ : Addr).add i = ⟨g, o + i, none⟩ := addr_add g o i
    have hcell : w.cell? ⟨g, o + i, none⟩ = some cur[o + i] := by simp [World.cell?, hg, hi]
    have hfro : w.frozen? ⟨g, o + i, none⟩ = false := by
      obtain ⟨lo, hi'⟩ := fz
      simp only [World.frozen?, hg, Bool.and_eq_false_iff, decide_eq_false_iff_not]
      simp only at hfz
      omega
    have hst : (store ((⟨g, o, none⟩ : Addr).add i) v).run P w = .ok () (w.setRow g (cur.setIfInBounds (o + i) v)) := by
      rw [hadd, run_store P w _ v _ (h1 v (by simp)), hcell]
      simp [hfro, setCell_eq_setRow w g (o + i) cur t fz v hg]
    have ih := store_m P g o t fz rest (i + 1) (cur.setIfInBounds (o + i) v) (w.setRow g (cur.setIfInBounds (o + i) v)) (setRow_heap w g cur _ t _ hg) (by simpa using hfz) (by simp at hl ⊢; omega) (fun x hx => h1 x (by simp [hx]))
    simp only [storeCells, Sem.run_bind, hst, Result.andThen_ok, ih, setRow_setRow]
    congr 3
    have e := list_seg_step cur.toList (o + i) v rest (by simp at hl ⊢; omega)
    simpa [Array.toList_setIfInBounds, Nat.add_assoc] using e
/-- Bytes of the call's own, in a row that may bear a conversion's mark. -/
structure Om (w : World) (lo : Nat) (v : Value) (n : Nat) (l : List Nat) : Prop where
  ex : ∃ g cap cur fz, v = .slice (some ⟨g, 0, none⟩) n cap ∧ lo ≤ g ∧ w.heap[g]? = some (.cells cur 5 fz) ∧ (fz.2 = 0 ∨ cur.size ≤ fz.1) ∧ n ≤ cap ∧ cap ≤ maxLen ∧ cur.size = cap ∧ cur.toList.take n = ob l
  len : l.length = n
  le : lo ≤ w.heap.size
theorem Om.below {w u : World} {lo n C : Nat} {v : Value} {l : List Nat} (h : Om w lo v n l) (k : Below C w u) (hC : w.heap.size ≤ C) : Om u lo v n l := by
  obtain ⟨g, cap, cur, fz, h1, h2, h3, h4⟩ := h.ex
  have hlt : g < w.heap.size := (Array.getElem?_eq_some_iff.1 h3).1
  exact ⟨⟨g, cap, cur, fz, h1, h2, by rw [k.block g (by omega)]; exact h3, h4⟩, h.len, Nat.le_trans h.le k.size⟩
theorem Om.lies {w : World} {lo n : Nat} {v : Value} {l : List Nat} (h : Om w lo v n l) : ∃ a c, v = .slice a n c ∧ Lies w a l := by
  obtain ⟨g, cap, cur, fz, h1, h2, h3, h4, h5, h6, h7, h8⟩ := h.ex
  refine ⟨_, cap, h1, Or.inr ⟨g, 0, rfl, fun i x hx => ?_⟩⟩
  rw [Nat.zero_add]
  have hi := (List.getElem?_eq_some_iff.1 hx).1
  have e : (cur.toList.take n)[i]? = some (.int .u8 (x : Int)) := by rw [h8, ob_get, hx]; rfl
  rw [List.getElem?_take, if_pos (by rw [← h.len]; exact hi)] at e
  simp [World.cell?, h3]
  simpa using e
theorem bytes_om {l : List Nat} (ho : Oct l) (hl : l.length ≤ 140737488355328) (w : World) : ∃ w1 a c, (convert 9 22 (.string (st l))).run Tryz.prog w = .ok (.slice a l.length c) w1 ∧ Om w1 w.heap.size (.slice a l.length c) l.length l ∧ Below w.heap.size w w1 := by
  have h := run_bytes_of_string (P := Tryz.prog) w 9 22 5 (st l) Tryz.underlying9 Tryz.underlying22 Tryz.underlying5
  have hge := grownCap_ge w (st l).size 0 5
  have hle := grownCap_le_maxLen w (st l).size 0 5 (by rw [st_size]; unfold maxLen; omega)
  rw [st_size] at h hge hle
  generalize grownCap w l.length 0 5 = c at h hge hle
  have hsz : (bytesRow (st l) c).size = c := by
    have h1 : (st l).data.size = l.length := st_size l
    simp only [bytesRow, Array.size_append, Array.size_map, Array.size_replicate, st_size, h1]
    omega
  refine ⟨_, _, c, h, ⟨⟨w.heap.size, c, bytesRow (st l) c, (c, c + 1), rfl, Nat.le_refl _, ?_, Or.inr (by omega), hge, hle, hsz, ?_⟩, rfl, ?_⟩, ?_⟩
  · rw [hsz]
    show (w.heap.push _)[_]? = _
    simp
  · have e : (st l).data.toList = l.map UInt8.ofNat := rfl
    simp only [bytesRow, Array.toList_append, Array.toList_map, Array.toList_replicate, e, List.map_map]
    have hl : l.length = (l.map ((fun b : UInt8 => Value.int .u8 (b.toNat : Int)) ∘ UInt8.ofNat)).length := by simp
    rw [hl, List.take_left]
    refine List.map_congr_left fun x hx => ?_
    have := ho x hx
    simp
    omega
  · simp
  · exact (Below.drewN2 (Below.refl _ w) 1).alloc (Nat.le_refl _) _
/-- What an append comes to. -/
structure Gom (lo : Nat) (w w' : World) (v' : Value) (n : Nat) (l : List Nat) : Prop where
  om : Om w' lo v' n l
  bel : Below lo w w'
  kp : ∀ k, k < w.heap.size → w'.heap[k]? = w.heap[k]? ∨ (∃ cs fz, w.heap[k]? = some (.cells cs 5 fz))
theorem Cells.gom {lo n b : Nat} {t : TypeId} {w w' : World} {v' : Value} {l : List Nat} {cs : Array Value} (h : Cells w b cs t) (k : Gom lo w w' v' n l) (ht : t ≠ 5) : Cells w' b cs t := by
  unfold Cells at *
  have hlt : b < w.heap.size := (Array.getElem?_eq_some_iff.1 h).1
  rcases k.kp b hlt with e1 | ⟨cs', fz, e1⟩
  · rw [e1]; exact h
  · rw [h] at e1; cases e1; exact absurd rfl ht
theorem Gom.ofRoom {lo g n cap m : Nat} {w : World} {cur : Array Value} {fz : Nat × Nat} {l x : List Nat} (hg : w.heap[g]? = some (.cells cur 5 fz)) (hlo : lo ≤ g) (hfz : fz.2 = 0 ∨ cur.size ≤ fz.1) (hcm : cap ≤ maxLen) (hcs : cur.size = cap) (ht : cur.toList.take n = ob l) (hl : l.length = n) (hx : x.length = m) (hroom : n + m ≤ cap) (hle : lo ≤ w.heap.size) :
    Gom lo w (w.setRow g (cur.toList.take n ++ ob x ++ cur.toList.drop (n + m)).toArray) (.slice (some ⟨g, 0, none⟩) (n + m) cap) (n + m) (l ++ x) := by
  have hxo : (ob x).length = m := by rw [ob_length]; exact hx
  refine ⟨⟨⟨g, cap, _, fz, rfl, hlo, setRow_heap w g cur _ 5 _ hg, ?_, hroom, hcm, ?_, ?_⟩, by rw [List.length_append, hl, hx], by simpa using hle⟩, ?_, fun k hk => ?_⟩
  · simp only [List.size_toArray, List.length_append, List.length_take, List.length_drop, Array.length_toList, hxo]
    omega
  · simp only [List.size_toArray, List.length_append, List.length_take, List.length_drop, Array.length_toList, hxo]
    omega
  · rw [ht]
    have e : n + m = (ob l ++ ob x).length := by rw [List.length_append, ob_length, hl, hxo]
    rw [e, List.take_left, ob_append]
  · exact below_setRow (Below.refl lo w) hlo _
  · by_cases e : k = g
    · subst e; exact Or.inr ⟨_, _, hg⟩
    · exact Or.inl (setRow_other w g k _ e)
section
variable (w : World) {o : Oper} {a : Act}
theorem wpList_om1 {ops : Array Oper} {rest : List Oper} {Q : Exit → Act → World → Prop} (hgd : o.guard = none) (s x : Operand)
    (ho : o.op = .call { callee := .builtin .append, args := #[s, x], argTypes := #[22, 22] }) (lo : Nat) (v : Value) (n : Nat) (l : List Nat) (hs : a.eval s = v) (hown : Om w lo v n l)
    (H y c : Nat) (hx : a.eval x = .slice (some ⟨H, 0, none⟩) 1 c) (hc : w.cell? ⟨H, 0, none⟩ = some (.int .u8 (y : Int))) (hlen : n + 1 ≤ 140737488355328)
    (h : ∀ va c w', Gom lo w w' (.slice va (n + 1) c) (n + 1) (l ++ [y]) → wpList Tryz.prog ops Q rest (a.put o.dst (.slice va (n + 1) c)) w') : wpList Tryz.prog ops Q (o :: rest) a w := by
  obtain ⟨i, hi, hz0, hz1, hz2⟩ := ginfo_parts ginfo5
  obtain ⟨g, cap, cur, fz, rfl, hlo, hg, hfz, hnc, hcm, hcs, ht⟩ := hown.ex
  have hnews : ∀ (j : Nat) u, (ob [y])[j]? = some u → w.cell? ((⟨H, 0, none⟩ : Addr).add j) = some u := fun j u hj => by
    cases j with
    | zero => simp [ob] at hj; rw [← hj, addr_add]; exact hc
    | succ j => simp [ob] at hj
  have hr : ∃ va cp w', (Builtin.append_ #[22, 22] o.type #[.slice (some ⟨g, 0, none⟩) n cap, .slice (some ⟨H, 0, none⟩) 1 c]).run Tryz.prog w = .ok (.slice va (n + 1) cp) w' ∧ Gom lo w w' (.slice va (n + 1) cp) (n + 1) (l ++ [y]) := by
    by_cases hroom : n + 1 ≤ cap
    · have hf := run_firstCells_some (P := Tryz.prog) w i.size 1 ⟨H, 0, none⟩ 1 c (ob [y]) (by rw [hz1]; rfl) hnews
      have hst := store_m Tryz.prog g n 5 fz (ob [y]) 0 cur w hg hfz (by rw [ob_length]; simp; omega) ob_one
      simp only [Nat.add_zero, ob_length, List.length_singleton] at hst
      have hgm := Gom.ofRoom (x := [y]) (m := 1) hg hlo hfz hcm hcs ht hown.len rfl hroom hown.le
      refine ⟨_, cap, _, ?_, hgm⟩
      simp [Builtin.append_, run_underlying Tryz.underlying22, sizeOf, typeInfo, hi, hz1, Builtin.lenOf, hroom, Addr.add_lit]
      rw [hz1] at hf
      rw [hf]
      simp [hst]
    · have holds : ∀ (j : Nat) u, (ob l)[j]? = some u → w.cell? ((⟨g, 0, none⟩ : Addr).add j) = some u := fun j u hj => by
        rw [addr_add, Nat.zero_add]
        have hj' : j < n := by have := (List.getElem?_eq_some_iff.1 hj).1; rw [ob_length, hown.len] at this; exact this
        rw [← ht, List.getElem?_take, if_pos hj'] at hj
        simp [World.cell?, hg]
        simpa using hj
      have hr := run_append_grow (P := Tryz.prog) w 22 o.type 5 i (.int .u8 0) Tryz.underlying22 hi hz0 ⟨g, 0, none⟩ n cap (ob l) (by rw [ob_length, hz1, hown.len]; omega) holds ⟨H, 0, none⟩ 1 c (ob [y]) (by rw [hz1]; rfl) hnews (by omega) (by omega) (by rw [hz2]; exact growslice_fits (by omega) (by omega))
      have hge := grownCap_ge w (n + 1) cap 5
      have hcm2 : grownCap w (n + 1) cap 5 ≤ maxLen := grownCap_le_maxLen w (n + 1) cap 5 (by unfold maxLen; omega)
      refine ⟨_, _, _, hr, ⟨⟨w.heap.size, _, _, (0, 0), rfl, hown.le, heap_alloc_new w.drew _, Or.inl rfl, hge, hcm2, ?_, ?_⟩, by rw [List.length_append, hown.len]; rfl, by simp; have := hown.le; omega⟩, (Below.drewN2 (Below.refl lo w) 1).alloc hown.le _, fun k hk => Or.inl (Below.heap_alloc w.drew _ k hk)⟩
      · have hzz : (Value.int IntKind.u8 0).cells.size = 1 := rfl
        simp only [Array.size_append, List.size_toArray, size_zeroCells, hzz, ob_length, hown.len, List.length_singleton]
        omega
      · simp only [Array.toList_append, List.append_assoc]
        rw [← List.append_assoc]
        have e : n + 1 = (ob l ++ ob [y]).length := by rw [List.length_append, ob_length, ob_length, hown.len]; rfl
        conv => lhs; rw [e]
        rw [List.take_left, ob_append]
  obtain ⟨va, cp, w', hr, hgm⟩ := hr
  refine wpList_plain hgd fun K hK => ?_
  unfold Oper.wp execOp
  simp only [ho, resolve, invoke, builtin, Sem.run_bind, Sem.run_pure, Result.andThen_ok, List.map_toArray, List.map_cons, List.map_nil, hs, hx, hr]
  exact hK _ _ (h va cp w' hgm)
theorem wpList_oms {ops : Array Oper} {rest : List Oper} {Q : Exit → Act → World → Prop} (hgd : o.guard = none) (s x : Operand)
    (ho : o.op = .call { callee := .builtin .append, args := #[s, x], argTypes := #[22, 9] }) (lo : Nat) (v : Value) (n : Nat) (l : List Nat) (hs : a.eval s = v) (hown : Om w lo v n l)
    (m : List Nat) (M : Nat) (u : ByteArray) (hu : u = st m) (hM : m.length = M) (hm : Oct m) (hx : a.eval x = .string u) (hlen : n + M ≤ 140737488355328)
    (h : ∀ va c w', Gom lo w w' (.slice va (n + M) c) (n + M) (l ++ m) → wpList Tryz.prog ops Q rest (a.put o.dst (.slice va (n + M) c)) w') : wpList Tryz.prog ops Q (o :: rest) a w := by
  subst hu
  subst hM
  obtain ⟨i, hi, hz0, hz1, hz2⟩ := ginfo_parts ginfo5
  obtain ⟨g, cap, cur, fz, rfl, hlo, hg, hfz, hnc, hcm, hcs, ht⟩ := hown.ex
  have hsz : (st m).size = m.length := st_size m
  have hr : ∃ va cp w', (Builtin.append_ #[22, 9] o.type #[.slice (some ⟨g, 0, none⟩) n cap, .string (st m)]).run Tryz.prog w = .ok (.slice va (n + m.length) cp) w' ∧ Gom lo w w' (.slice va (n + m.length) cp) (n + m.length) (l ++ m) := by
    by_cases hroom : n + m.length ≤ cap
    · have hf := Lib.run_firstCells_string (P := Tryz.prog) w 1 (st m)
      have hst := store_m Tryz.prog g n 5 fz (ob m) 0 cur w hg hfz (by rw [ob_length]; simp; omega) ob_one
      simp only [Nat.add_zero, ob_length] at hst
      have hgm := Gom.ofRoom (x := m) (m := m.length) hg hlo hfz hcm hcs ht hown.len rfl hroom hown.le
      refine ⟨_, cap, _, ?_, hgm⟩
      rw [strCells_st hm] at hf
      simp [Builtin.append_, run_underlying Tryz.underlying22, run_underlying Tryz.underlying9, sizeOf, typeInfo, hi, hz1, Builtin.lenOf, hsz, hroom, Addr.add_lit]
      rw [hsz] at hf
      rw [hf]
      simp [hst]
    · have holds : ∀ (j : Nat) u, (ob l)[j]? = some u → w.cell? ((⟨g, 0, none⟩ : Addr).add j) = some u := fun j u hj => by
        rw [addr_add, Nat.zero_add]
        have hj' : j < n := by have := (List.getElem?_eq_some_iff.1 hj).1; rw [ob_length, hown.len] at this; exact this
        rw [← ht, List.getElem?_take, if_pos hj'] at hj
        simp [World.cell?, hg]
        simpa using hj
      have hr := Lib.run_append_grow_string (P := Tryz.prog) w 22 9 o.type 5 i (.int .u8 0) Tryz.underlying22 Tryz.underlying9 hi hz0 ⟨g, 0, none⟩ n cap (ob l) (by rw [ob_length, hz1, hown.len]; omega) holds (st m) (by omega) (by omega) (by rw [hz2, hsz]; exact growslice_fits (by omega) (by omega))
      rw [hsz, strCells_st hm] at hr
      have hge := grownCap_ge w (n + m.length) cap 5
      have hcm2 : grownCap w (n + m.length) cap 5 ≤ maxLen := grownCap_le_maxLen w (n + m.length) cap 5 (by unfold maxLen; omega)
      refine ⟨_, _, _, hr, ⟨⟨w.heap.size, _, _, (0, 0), rfl, hown.le, heap_alloc_new w.drew _, Or.inl rfl, hge, hcm2, ?_, ?_⟩, by rw [List.length_append, hown.len], by simp; have := hown.le; omega⟩, (Below.drewN2 (Below.refl lo w) 1).alloc hown.le _, fun k hk => Or.inl (Below.heap_alloc w.drew _ k hk)⟩
      · have hzz : (Value.int IntKind.u8 0).cells.size = 1 := rfl
        simp only [Array.size_append, List.size_toArray, size_zeroCells, hzz, ob_length, hown.len]
        omega
      · simp only [Array.toList_append, List.append_assoc]
        rw [← List.append_assoc]
        have e : n + m.length = (ob l ++ ob m).length := by rw [List.length_append, ob_length, ob_length, hown.len]
        conv => lhs; rw [e]
        rw [List.take_left, ob_append]
  obtain ⟨va, cp, w', hr, hgm⟩ := hr
  refine wpList_plain hgd fun K hK => ?_
  unfold Oper.wp execOp
  simp only [ho, resolve, invoke, builtin, Sem.run_bind, Sem.run_pure, Result.andThen_ok, List.map_toArray, List.map_cons, List.map_nil, hs, hx, hr]
  exact hK _ _ (h va cp w' hgm)
end
end Go.Proofs.YtcmmjbkgoafbnaaGreatDoor

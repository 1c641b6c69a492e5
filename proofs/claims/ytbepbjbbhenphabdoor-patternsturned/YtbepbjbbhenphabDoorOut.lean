/-
  What Out comes to: the numbers of the patterns that are an end of a state's word, rising, in a new list.
  Conditions: the machine is that of the patterns; the library's table holds what its text lays there.
-/
import Derived.Test.YtbepbjbbhenphabDoorAsk
import Derived.ArgAppend
import Derived.Laws.AppendOwnNone
namespace Go.Proofs.YtbepbjbbhenphabDoor
open Go.RowKit
set_option linter.unusedVariables false
/-- The places of a number's bits. -/
def outsOf (x : Nat) : List Nat := (List.range 64).filter x.testBit
theorem filter_gap (p : Nat → Bool) {k : Nat} : ∀ {t : Nat}, k ≤ t → (∀ i, k ≤ i → i < t → p i = false) → (List.range t).filter p = (List.range k).filter p := by
  intro t hkt h
  induction t with
  | zero => have : k = 0 := by omega
            subst this; rfl
  | succ t ih =>
    by_cases e : k = t + 1
    · rw [e]
    · rw [List.range_succ, List.filter_append, ih (by omega) (fun i h1 h2 => h i h1 (by omega))]
      simp [h t (by omega) (by omega)]
/-- A list of numbers of the call's own. -/
structure Own (w w' : World) (base : Nat) (v : Value) (l : List Nat) : Prop where
  own : w'.ownsRow base 3 1 v l.length (vi l)
  bel : Below base w w'
  le : base ≤ w'.heap.size
/-- Numbers that lie side by side. -/
def Nums (w : World) (a : Option Addr) (l : List Nat) : Prop := l = [] ∨ ∃ (b o : Nat), a = some ⟨b, o, none⟩ ∧ ∀ (i x : Nat), l[i]? = some x → w.cell? ⟨b, o + i, none⟩ = some (.int .i64 (x : Int))
theorem Nums.below {w u : World} {a : Option Addr} {l : List Nat} (h : Nums w a l) (k : Below w.heap.size w u) : Nums u a l := by
  rcases h with h | ⟨b, o, ha, hc⟩
  · exact Or.inl h
  · refine Or.inr ⟨b, o, ha, fun i x hx => ?_⟩
    exact (k.cell (p := ⟨b, o + i, none⟩) (World.block_lt_of_cell? w ⟨b, o + i, none⟩ (hc i x hx))).trans (hc i x hx)
theorem Own.shape {w w' : World} {base : Nat} {v : Value} {l : List Nat} (h : Own w w' base v l) : ∃ a c, v = .slice a l.length c ∧ Nums w' a l ∧ l.length ≤ c ∧ (a = none → c = 0) ∧ (∀ b o s, a = some ⟨b, o, s⟩ → o = 0 ∧ s = none ∧ base ≤ b ∧ ∃ cur, w'.heap[b]? = some (.cells cur 3) ∧ l.length ≤ cur.size) := by
  rcases h.own.2 with ⟨hv, h0⟩ | ⟨g, c, cur, hv, hg, hh, hc, hm, hs, ht⟩
  · refine ⟨none, 0, by rw [hv, h0], Or.inl (List.eq_nil_of_length_eq_zero h0), by omega, fun _ => rfl, fun b o s e => by cases e⟩
  · refine ⟨_, c, hv, Or.inr ⟨g, 0, rfl, fun i x hx => ?_⟩, hc, fun h => (by cases h), fun b o s e => by cases e; exact ⟨rfl, rfl, hg, cur, hh, by omega⟩⟩
    rw [Nat.zero_add, Cells.cell (cs := cur) (t := 3) hh]
    have hi : i < l.length := (List.getElem?_eq_some_iff.1 hx).1
    have e : (cur.toList.take (l.length * 1))[i]? = some (.int .i64 (x : Int)) := by rw [ht, vi_get, hx]; rfl
    rw [List.getElem?_take, if_pos (by omega)] at e
    simpa using e
theorem vi_one {l : List Nat} : ∀ u ∈ vi l, u.oneCell' = true := by
  intro u hu
  obtain ⟨x, _, rfl⟩ := List.mem_map.1 hu
  rfl
theorem wpList_appi (w0 w : World) {ops : Array Oper} {rest : List Oper} {o : Oper} {a : Act} {Q : Exit → Act → World → Prop} (hgd : o.guard = none) (s x : Operand)
    (ho : o.op = .call { callee := .builtin .append, args := #[s, x], argTypes := #[32, 32] }) (base : Nat) (v : Value) (l : List Nat) (hs : a.eval s = v) (hown : Own w0 w base v l)
    (b y : Nat) (hx : a.eval x = .slice (some ⟨b, 0, none⟩) 1 1) (hl : w.cell? ⟨b, 0, none⟩ = some (.int .i64 (y : Int))) (hlen : l.length < 1048576)
    (h : ∀ v' w', Own w0 w' base v' (l ++ [y]) → wpList Tryd.prog ops Q rest (a.put o.dst v') w') : wpList Tryd.prog ops Q (o :: rest) a w := by
  obtain ⟨i0, hi, hz0, hz1, hz2⟩ := info_parts info3
  refine wpList_append_own w hgd s x 32 ho base 3 i0 (.int .i64 0) 1 8 Tryd.underlying32 hi hz0 hz1 hz2 rfl (by decide) v _ _ hs hown.own ⟨b, 0, none⟩ 1 1 (vi [y]) hx (by simp [vi]) ?_ vi_one (by unfold maxLen; omega) (by omega) hown.le ?_
  · intro j u hj
    match j, hj with
    | 0, hj =>
      have e : Value.int .i64 (y : Int) = u := by simpa [vi] using hj
      rw [← e]; exact hl
  · intro v' w' h2 h3 h4
    have hb : Below base w w' := (Below.refl base w).grown h3 hown.le (fun k hk => by
      rcases hown.own.2 with ⟨rfl, _⟩ | ⟨g, c, cur, rfl, hg, _⟩
      · cases hk
      · cases hk; exact hg)
    refine h v' w' ⟨?_, hown.bel.trans hb, Nat.le_trans hown.le h3.size⟩
    have e : vi l ++ vi [y] = vi (l ++ [y]) := by simp [vi]
    rw [e] at h2
    rw [List.length_append]; exact h2
theorem made_room (c : Nat) (hc : c ≤ 127) (w : World) : ∃ cur : Array Value, (Instr.makeSlice 32 (.int .i64 0) (.int .i64 (c : Int))).run Tryd.prog w = .ok (.slice (some ⟨w.heap.size, 0, none⟩) 0 c) (w.alloc (.cells cur 3)) ∧ cur.size = c := by
  obtain ⟨i, hi, hz, hs, hb⟩ := info_parts info3
  have := run_make (P := Tryd.prog) w 32 3 i _ Tryd.underlying32 hi hz .i64 .i64 0 c (by omega) (by omega) (by rw [hb]; omega) (by omega)
  refine ⟨madeCells (Value.int .i64 0).cells ((c : Int).toNat * 1), ?_, ?_⟩
  · rw [hs] at this
    simpa using this
  · show (madeCells #[Value.int .i64 0] _).size = _
    rw [← Array.length_toList, toList_madeCells_one]
    simp
set_option maxHeartbeats 2000000 in
theorem out_c {base A pn lg : Nat} {nd : List Nd} {G : Nat → Nat → Option Nat} (s : Nat) (n : Nd) (w : World) (h : Mach w base A pn lg nd G) (hn : nd[s]? = some n) (hou : n.ou < 18446744073709551616) (hT : Tab w) :
    Calls Tryd.prog 10 #[.pointer (some ⟨A, 0, none⟩), .int .i64 (s : Int)] w fun e w' => ∃ v, e = .returned v ∧ Own w w' w.heap.size v (outsOf n.ou) := by
  have hlt := at_lt hn
  have hh := has_c (s : Int) w h nd.length rfl
  rw [decide_eq_true (show 0 ≤ (s : Int) ∧ (s : Int) < (nd.length : Int) by omega)] at hh
  obtain ⟨g, cap, M, k, c0, c1, c2, c3, h1, h2, h3, h4⟩ := h.parts
  have hc := (h4 s n hn).2.2.2.2
  obtain ⟨N, hN⟩ : ∃ N, nd.length = N := ⟨_, rfl⟩
  rw [hN] at c2
  have hsN : (s : Int) < (N : Int) := by omega
  obtain ⟨X, hX⟩ : ∃ X, n.ou = X := ⟨_, rfl⟩
  rw [hX] at hc hou ⊢
  obtain ⟨H, hH⟩ : ∃ H, w.heap.size = H := ⟨_, rfl⟩
  have AB : Aside (X < 18446744073709551616 ∧ Tab w ∧ w.heap.size = H) := ⟨hou, hT, hH⟩
  rw [hH]
  clear h1 h2 h3 h4 c0 c1 c3 h hN hlt hn hX hou hT hH
  go_enter Tryd.func10, Tryd.ntmps10
  go_upto_region 4 with (go_at_call 19; refine hh.mono ?_; rintro e2 w2 ⟨rfl, rfl⟩)
  go_wp2_with fail
  refine (ones_c X w).mono ?_
  rintro e1 w1 ⟨⟨c, hc127, rfl⟩, rfl⟩
  obtain ⟨cur, hmk, hcs⟩ := made_room c hc127 w
  rw [AB.out.2.2] at hmk
  have hown : Own w (w.alloc (.cells cur 3)) H (.slice (some ⟨H, 0, none⟩) 0 c) [] := by
    refine ⟨⟨rfl, Or.inr ⟨H, c, cur, rfl, Nat.le_refl _, ?_, Nat.zero_le _, by unfold maxLen; omega, by omega, by simp [vi]⟩⟩, ?_, ?_⟩
    · rw [← AB.out.2.2]; exact Cells.new w cur 3
    · exact (Below.refl H w).alloc (by have := AB.out; omega) _
    · show _ ≤ (w.heap.push _).size; simp; have := AB.out; omega
  have AO : Aside (Own w (w.alloc (.cells cur 3)) H (.slice (some ⟨H, 0, none⟩) 0 c) []) := hown
  have hci : (c : Int) ≤ 127 := by omega
  generalize w.alloc (.cells cur 3) = w1 at *
  clear hown hcs hc127 hh c2 hc
  go_wp2_with fail
  clear hmk
  go_loopg [5, 6] 64 (fun gg sx sv wr => ∃ (x k : Nat) (v : Value), sx = .int .u64 x ∧ sv = v ∧ Aside (k + gg = 64 ∧ x < 18446744073709551616 ∧ (∀ i, x.testBit i = (decide (k ≤ i) && X.testBit i)) ∧ Own w wr H v ((List.range k).filter X.testBit)))
  case atStart => exact ⟨X, 0, _, rfl, rfl, ⟨by omega, AB.out.1, fun i => by simp, AO.out⟩⟩
  case round =>
    clear AO
    obtain ⟨x, k, v, rfl, hv, hK⟩ := hrel
    have hv2 := hv.symm
    clear hv
    subst hv2
    by_cases hx0 : x = 0
    · subst hx0
      have hf : Aside (Own w wr H v (outsOf X)) := by
        have : outsOf X = (List.range k).filter X.testBit := filter_gap _ (by have := hK.out; omega) (fun i h1 h2 => by
          have := hK.out.2.2.1 i
          rw [decide_eq_true h1, Nat.zero_testBit] at this
          simpa using this.symm)
        rw [this]; exact hK.out.2.2.2
      clear hK
      go_wp2_with fail
      go_ret
      exact ⟨_, rfl, hf.out⟩
    · obtain ⟨t, q, hx⟩ := low_bit x hx0
      have ht64 : t < 64 := low_lt (q := q) (by rw [← hx]; exact hK.out.2.1)
      have hbt : x.testBit t = true := by rw [hx, bits_of, if_neg (by omega), if_pos rfl]
      have hkt : k ≤ t := by
        have := hK.out.2.2.1 t
        rw [hbt] at this
        exact of_decide_eq_true (Bool.and_eq_true_iff.1 this.symm).1
      have hXt : X.testBit t = true := by
        have := hK.out.2.2.1 t
        rw [hbt] at this
        exact (Bool.and_eq_true_iff.1 this.symm).2
      have hgap : ∀ i, k ≤ i → i < t → X.testBit i = false := fun i h1 h2 => by
        have := hK.out.2.2.1 i
        rw [decide_eq_true h1, Bool.true_and, hx, bits_of, if_pos h2] at this
        exact this.symm
      have hlist : (List.range (t + 1)).filter X.testBit = (List.range k).filter X.testBit ++ [t] := by
        rw [List.range_succ, List.filter_append, filter_gap _ hkt hgap]
        congr 1
        simp [hXt]
      have hbel : Below w.heap.size w wr := by rw [AB.out.2.2]; exact hK.out.2.2.2.bel
      have htz := tz_c x t q hx hK.out.2.1 wr (AB.out.2.1.below hbel)
      have hsub : IntKind.u64.wrap ((x : Int) - 1) = ((x - 1 : Nat) : Int) := by have := hK.out.2.1; rw [IntKind.wrap_u64]; omega
      have hand := u64_and_nat x (x - 1) hK.out.2.1 (by have := hK.out.2.1; omega)
      have hnew : Aside (k ≤ t ∧ t < 64 ∧ (x &&& (x - 1)) < 18446744073709551616 ∧ (∀ i, (x &&& (x - 1)).testBit i = (decide (t + 1 ≤ i) && X.testBit i)) ∧ (List.range (t + 1)).filter X.testBit = (List.range k).filter X.testBit ++ [t]) := by
        refine ⟨hkt, ht64, Nat.lt_of_le_of_lt Nat.and_le_left hK.out.2.1, fun i => ?_, hlist⟩
        have := and_pred t q i
        rw [← hx, hK.out.2.2.1 i] at this
        rw [this]
        by_cases h1 : t < i
        · rw [decide_eq_true h1, decide_eq_true (show k ≤ i by omega), decide_eq_true (show t + 1 ≤ i by omega), Bool.true_and]
        · rw [decide_eq_false h1, decide_eq_false (show ¬ t + 1 ≤ i by omega)]; rfl
      have hxi : ((x : Int) == 0) = false := by rw [beq_eq_false_iff_ne]; omega
      have hxn : ¬ (x : Int) = 0 := by omega
      have hown := hK.out.2.2.2
      have hll : ((List.range k).filter X.testBit).length < 1048576 := by
        have := List.length_filter_le X.testBit (List.range k)
        rw [List.length_range] at this
        have := hK.out; omega
      have hownA : Own w (wr.alloc (.cells #[.int .i64 (t : Int)] 3)) H v ((List.range k).filter X.testBit) := ⟨hown.own.alloc _, hown.bel.alloc hown.le _, by have := hown.le; show _ ≤ (wr.heap.push _).size; simp; omega⟩
      have hcn : (wr.alloc (.cells #[.int .i64 (t : Int)] 3)).cell? ⟨wr.heap.size, 0, none⟩ = some (.int .i64 (t : Int)) := by rw [(Cells.new wr _ 3).cell]; rfl
      have AN : Aside (Own w (wr.alloc (.cells #[.int .i64 (t : Int)] 3)) H v ((List.range k).filter X.testBit) ∧ ((List.range k).filter X.testBit).length < 1048576 ∧ (wr.alloc (.cells #[.int .i64 (t : Int)] 3)).cell? ⟨wr.heap.size, 0, none⟩ = some (.int .i64 (t : Int))) := ⟨hownA, hll, hcn⟩
      obtain ⟨y, hy⟩ : ∃ y, x - 1 = y := ⟨_, rfl⟩
      obtain ⟨z, hz⟩ : ∃ z, x &&& y = z := ⟨_, rfl⟩
      rw [hy] at hsub hand hnew
      rw [hz] at hand hnew
      clear hx0 hx ht64 hbt hkt hXt hgap hlist hbel hown hll hownA hcn hy hz
      go_wp2_with (first | (go_at_call 21; refine htz.mono ?_; rintro e2 w2 ⟨rfl, rfl⟩) | (at_builtin; refine wpList_appi w _ rfl _ _ rfl H v _ rfl AN.out.1 wr.heap.size t rfl AN.out.2.2 AN.out.2.1 ?_; intro v1 w1 hp1))
      have hk := hK.out; have hn := hnew.out
      clear hsub hand
      go_roundg (64 - (t + 1))
      case measure => omega
      case rel => exact ⟨z, t + 1, v1, rfl, rfl, ⟨by omega, hn.2.2.1, hn.2.2.2.1, by rw [hn.2.2.2.2]; exact hp1⟩⟩
end Go.Proofs.YtbepbjbbhenphabDoor

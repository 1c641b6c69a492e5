/-
  What the document's Copy comes to: the same lists of bytes in new memory.
  Conditions: the lists lie in memory; they are fewer than 2^47/24, each shorter than 2^47.
-/
import Derived.Test.YtbepbjbbhenphabDoorAsk
import Derived.Test.YtbepbjbbhenphabDoorChecks
import Derived.ArgAppend
import Derived.Laws.AppendOwnNone
import Derived.Maps.AppendAt
namespace Go.Proofs.YtbepbjbbhenphabDoor
open Go.RowKit
set_option linter.unusedVariables false
theorem vn_append (l m : List Nat) : vn l ++ vn m = vn (l ++ m) := by simp [vn]
theorem vn_one {l : List Nat} : ∀ u ∈ vn l, u.oneCell' = true := by
  intro u hu
  obtain ⟨x, _, rfl⟩ := List.mem_map.1 hu
  rfl
theorem info36 : (Tryd.prog.info? 23).map (fun i => (i.zero, i.size, i.bytes)) = some (some (.slice none 0 0), 1, 24) := by kernel_rfl
/-- A list of bytes of the call's own. -/
structure Apd (w w' : World) (base : Nat) (v' : Value) (l : List Nat) : Prop where
  own : w'.ownsRow base 5 1 v' l.length (vn l)
  bel : Below base w w'
  le : base ≤ w'.heap.size
theorem Apd.shape {w w' : World} {base : Nat} {v' : Value} {l : List Nat} (h : Apd w w' base v' l) : ∃ a c, v' = .slice a l.length c ∧ Lies w' a l ∧ l.length ≤ c ∧ (a = none → l.length = 0 ∧ c = 0) := by
  rcases h.own.2 with ⟨hv, h0⟩ | ⟨g, c, cur, hv, hg, hh, hc, hm, hs, ht⟩
  · refine ⟨none, 0, by rw [hv, h0], Or.inl (List.eq_nil_of_length_eq_zero h0), by omega, fun _ => ⟨h0, rfl⟩⟩
  · refine ⟨_, c, hv, Or.inr ⟨g, 0, rfl, fun i x hx => ?_⟩, hc, fun h => by cases h⟩
    rw [Nat.zero_add, Cells.cell (cs := cur) (t := 5) hh]
    have hi : i < l.length := (List.getElem?_eq_some_iff.1 hx).1
    have e : (cur.toList.take (l.length * 1))[i]? = some (.int .u8 (x : Int)) := by rw [ht, vn_get, hx]; rfl
    rw [List.getElem?_take, if_pos (by omega)] at e
    simpa using e
/-- append of bytes to an empty list of the call's own. -/
theorem wpList_app0 (w : World) {ops : Array Oper} {rest : List Oper} {o : Oper} {a : Act} {Q : Exit → Act → World → Prop} (hgd : o.guard = none) (s x : Operand)
    (ho : o.op = .call { callee := .builtin .append, args := #[s, x], argTypes := #[23, 23] }) (w0 : World) (hw : w = w0.alloc (.cells #[] 5)) (B : Nat) (hB : B = w0.heap.size) (hs : a.eval s = .slice (some ⟨B, 0, none⟩) 0 0)
    (ax : Option Addr) (m : List Nat) (n c : Nat) (hnm : m.length = n) (hx : a.eval x = .slice ax n c) (hz : ax = none → n = 0 ∧ c = 0) (hl : Lies w0 ax m) (hlen : m.length ≤ 140737488355328)
    (h : ∀ v' w', Apd w0 w' w0.heap.size v' m → wpList Tryd.prog ops Q rest (a.put o.dst v') w') : wpList Tryd.prog ops Q (o :: rest) a w := by
  subst hnm
  subst hB
  subst hw
  obtain ⟨i0, hi, hz0, hz1, hz2⟩ := info_parts info5
  have hown : (w0.alloc (.cells #[] 5)).ownsRow w0.heap.size 5 1 (.slice (some ⟨w0.heap.size, 0, none⟩) 0 0) 0 [] := World.ownsRow_made (base := w0.heap.size) (e := 5) (size := 1) w0 #[] 0 (Nat.le_refl _) (by decide) rfl
  have b0 : Below w0.heap.size w0 (w0.alloc (.cells #[] 5)) := (Below.refl _ w0).alloc (Nat.le_refl _) _
  have le0 : w0.heap.size ≤ (w0.alloc (.cells #[] 5)).heap.size := by show _ ≤ (w0.heap.push _).size; simp
  cases ax with
  | none =>
    obtain ⟨h1, h2⟩ := hz rfl
    have hm : m = [] := List.eq_nil_of_length_eq_zero h1
    subst hm
    subst h2
    exact wpList_append_own_none hgd s x 23 ho w0.heap.size 5 i0 1 Tryd.underlying23 hi _ 0 [] hs hown hx (h _ _ ⟨hown, b0, le0⟩)
  | some ad =>
    refine wpList_append_own _ hgd s x 23 ho w0.heap.size 5 i0 (.int .u8 0) 1 1 Tryd.underlying23 hi hz0 hz1 hz2 rfl (by decide) _ 0 [] hs hown ad m.length c (vn m) hx (by rw [vn_length]; omega) ?_ vn_one (by unfold maxLen; omega) (by omega) le0 ?_
    · intro j u hj
      rw [vn_get] at hj
      rcases hl with rfl | ⟨b, off, ha, hc⟩
      · simp at hj
      · cases ha
        cases hq : m[j]? with
        | none => simp [hq] at hj
        | some y =>
          simp [hq] at hj
          rw [← hj]
          have h1 := hc j y hq
          have hadd : (⟨b, off, none⟩ : Addr).add j = ⟨b, off + j, none⟩ := by unfold Addr.add; split <;> simp_all
          rw [hadd]
          exact (b0.cell (p := ⟨b, off + j, none⟩) (World.block_lt_of_cell? w0 ⟨b, off + j, none⟩ h1)).trans h1
    · intro v' w' h2 h3 h4
      have hb : Below w0.heap.size (w0.alloc (.cells #[] 5)) w' := (Below.refl _ _).grown h3 le0 (fun k hk => by cases hk; exact Nat.le_refl _)
      refine h v' w' ⟨?_, b0.trans hb, Nat.le_trans le0 h3.size⟩
      rw [Nat.zero_add, List.nil_append] at h2
      exact h2
/-- Lists of bytes of the call's own: the row, and each list in it. -/
structure Cop (w w' : World) (v : Value) (ll : List (List Nat)) : Prop where
  vals : ∃ vs : List Value, w'.ownsRow w.heap.size 23 1 v ll.length vs ∧ ∀ (i : Nat) (l : List Nat), ll[i]? = some l → ∃ (ai : Option Addr) (ci : Nat), vs[i]? = some (.slice ai l.length ci) ∧ Lies w' ai l ∧ l.length ≤ ci ∧ l.length < 140737488355328 ∧ (ai = none → l.length = 0 ∧ ci = 0) ∧ (l ≠ [] → ∀ g, v.ownBlock = some g → ∀ b o s, ai = some ⟨b, o, s⟩ → b ≠ g)
  bel : Below w.heap.size w w'
theorem Cop.nil (w : World) : Cop w w (.slice none 0 0) [] := ⟨⟨[], ⟨rfl, Or.inl ⟨rfl, rfl⟩⟩, fun i l h => by simp at h⟩, Below.refl _ _⟩
theorem Cop.rows {w w' : World} {v : Value} {ll : List (List Nat)} (h : Cop w w' v ll) : ∃ a C, v = .slice a ll.length C ∧ ll.length ≤ C ∧ Rows2 w' a ll ∧ (a = none → C = 0) := by
  obtain ⟨vs, ho, hv⟩ := h.vals
  rcases ho.2 with ⟨hv0, h0⟩ | ⟨g, c, cur, hv0, hg, hh, hc, hm, hs, ht⟩
  · exact ⟨none, 0, by rw [hv0, h0], by omega, Or.inl (List.eq_nil_of_length_eq_zero h0), fun _ => rfl⟩
  · refine ⟨_, c, hv0, hc, Or.inr ⟨g, 0, rfl, fun i l hl => ?_⟩, fun h => by cases h⟩
    obtain ⟨ai, ci, h1, h2, h3, h4, h5, _⟩ := hv i l hl
    refine ⟨ai, ci, ?_, h2, h3, h4, h5⟩
    have hi := (List.getElem?_eq_some_iff.1 hl).1
    rw [Nat.zero_add, Cells.cell (cs := cur) (t := 23) hh]
    rw [← ht, List.getElem?_take, if_pos (by omega)] at h1
    simpa using h1
theorem Lies.grown {w u : World} {a : Option Addr} {l : List Nat} {row : Option Nat} (h : Lies w a l) (k : w.grownBy u row) (hne : l ≠ [] → ∀ b o s, a = some ⟨b, o, s⟩ → row ≠ some b) : Lies u a l := by
  by_cases h0 : l = []
  · exact Or.inl h0
  rcases h with h | ⟨b, o, ha, hc⟩
  · exact Or.inl h
  · refine Or.inr ⟨b, o, ha, fun i x hx => ?_⟩
    have hlt := World.block_lt_of_cell? w ⟨b, o + i, none⟩ (hc i x hx)
    exact (World.cell?_of_block (k.block b hlt (fun e => hne h0 b o none ha e.symm))).trans (hc i x hx)
/-- append of one list to a list of lists of the call's own. -/
theorem wpList_appl (w0 w : World) {ops : Array Oper} {rest : List Oper} {o : Oper} {a : Act} {Q : Exit → Act → World → Prop} (hgd : o.guard = none) (s x : Operand)
    (ho : o.op = .call { callee := .builtin .append, args := #[s, x], argTypes := #[22, 22] }) (v : Value) (ll : List (List Nat)) (hs : a.eval s = v) (hc0 : Cop w0 w v ll)
    (v1 : Value) (l : List Nat) (w1 w2 : World) (h1 : Apd w w1 w.heap.size v1 l) (hw2 : w2 = w1.alloc (.cells #[v1] 23)) (B : Nat) (hB : B = w1.heap.size) (hx : a.eval x = .slice (some ⟨B, 0, none⟩) 1 1) (hl : l.length < 140737488355328) (hlen : (ll.length + 1) * 24 ≤ 140737488355328)
    (h : ∀ v' w', Cop w0 w' v' (ll ++ [l]) → wpList Tryd.prog ops Q rest (a.put o.dst v') w') : wpList Tryd.prog ops Q (o :: rest) a w2 := by
  subst hw2
  subst hB
  obtain ⟨i0, hi, hz0, hz1, hz2⟩ := info_parts info36
  obtain ⟨vs, hown, hv⟩ := hc0.vals
  obtain ⟨a1, c1, e1, l1, n1, z1⟩ := h1.shape
  have hlt : ∀ g, v.ownBlock = some g → g < w.heap.size := by
    intro g hg
    rcases hown.2 with ⟨hv0, _⟩ | ⟨g', c, cur, hv0, _, hh, _⟩
    · rw [hv0] at hg; cases hg
    · rw [hv0] at hg; cases hg; exact (Array.getElem?_eq_some_iff.1 hh).1
  have hbw : Below w.heap.size w (w1.alloc (.cells #[v1] 23)) := h1.bel.alloc h1.le _
  have own2 : (w1.alloc (.cells #[v1] 23)).ownsRow w0.heap.size 23 1 v ll.length vs := by
    refine ⟨hown.1, ?_⟩
    rcases hown.2 with hn | ⟨g', c, cur, hv0, hg, hh, rest⟩
    · exact Or.inl hn
    · exact Or.inr ⟨g', c, cur, hv0, hg, (hbw.block g' (Array.getElem?_eq_some_iff.1 hh).1).trans hh, rest⟩
  have hs1 : w.heap.size ≤ w1.heap.size := h1.le
  have hs2 : (w1.alloc (.cells #[v1] 23)).heap.size = w1.heap.size + 1 := by show (w1.heap.push _).size = _; simp
  have hs0 := hc0.bel.size
  refine wpList_append_own_at (P := Tryd.prog) _ hgd s x 22 ho w0.heap.size 23 i0 (.slice none 0 0) 1 24 Tryd.underlying22 hi hz0 hz1 hz2 rfl (by decide) v ll.length vs hs own2 ⟨w1.heap.size, 0, none⟩ 1 1 [v1] hx rfl ?_ ?_ (by unfold maxLen; omega) hlen (by omega) ?_
  · intro j u hj
    match j, hj with
    | 0, hj =>
      have e : v1 = u := by simpa using hj
      rw [← e]
      show World.cell? _ ⟨w1.heap.size, 0, none⟩ = _
      rw [(Cells.new w1 _ 23).cell]; rfl
  · intro u hu
    rw [List.mem_singleton.1 hu, e1]; rfl
  · intro v' w' h2 h3 _ h5
    have hbel : Below w0.heap.size (w1.alloc (.cells #[v1] 23)) w' := (Below.refl _ _).grown h3 (by omega) (fun k hk => by
      rcases hown.2 with ⟨hv0, _⟩ | ⟨g', c, cur, hv0, hg, _⟩
      · rw [hv0] at hk; cases hk
      · rw [hv0] at hk; cases hk; exact hg)
    have hnew : ∀ g, v'.ownBlock = some g → v.ownBlock = some g ∨ g = w1.heap.size + 1 := by
      intro g hg
      rcases h5 with h5 | h5
      · left; rw [← h5]; exact hg
      · right; rw [h5] at hg; cases hg; exact hs2
    refine h v' w' ⟨⟨vs ++ [v1], by rw [List.length_append]; exact h2, ?_⟩, (hc0.bel.trans (hbw.mono hs0)).trans hbel⟩
    have hvl : vs.length = ll.length := by rw [hown.1]; omega
    intro i m hm
    rcases at_app_iff.1 hm with hm | ⟨rfl, rfl⟩
    · obtain ⟨ai, ci, k1, k2, k3, k4, k5, k6⟩ := hv i m hm
      refine ⟨ai, ci, by rw [List.getElem?_append_left (by rw [hvl]; exact (List.getElem?_eq_some_iff.1 hm).1)]; exact k1, ?_, k3, k4, k5, ?_⟩
      · exact (k2.below hbw).grown h3 (fun h0 b o s e1 e2 => k6 h0 b e2 b o s e1 rfl)
      · intro h0 g hg b o s e
        rcases hnew g hg with hg | hg
        · exact k6 h0 g hg b o s e
        · rcases k2 with k2 | ⟨b', o', e', hc⟩
          · exact absurd k2 h0
          · rw [e] at e'; cases e'
            have h00 : 0 < m.length := List.length_pos_iff.2 h0
            have := World.block_lt_of_cell? w ⟨b, o + 0, none⟩ (hc 0 m[0] (List.getElem?_eq_getElem h00))
            have : b < w.heap.size := this
            omega
    · have ha1 : ∀ b o s, a1 = some ⟨b, o, s⟩ → w.heap.size ≤ b ∧ b < w1.heap.size := by
        intro b o s e
        rcases h1.own.2 with ⟨hv0, _⟩ | ⟨g', c, cur, hv0, hg, hh, _⟩
        · rw [e1, e] at hv0; cases hv0
        · rw [e1, e] at hv0; cases hv0
          exact ⟨hg, (Array.getElem?_eq_some_iff.1 hh).1⟩
      refine ⟨a1, c1, by rw [← hvl, at_new, e1], ?_, n1, hl, z1, ?_⟩
      · refine (l1.below ((Below.refl _ w1).alloc (Nat.le_refl _) _)).grown h3 (fun _ b o s ea eb => ?_)
        have := hlt b eb
        have := ha1 b o s ea
        omega
      · intro _ g hg b o s ea
        have := ha1 b o s ea
        rcases hnew g hg with hg | hg
        · have := hlt g hg; omega
        · omega
set_option maxHeartbeats 2000000 in
theorem copy_c (a : Option Addr) (ll : List (List Nat)) (L C : Nat) (w : World) (hp : Rows2 w a ll) (hL : ll.length = L) (hLC : L ≤ C) (hLb : L * 24 < 140737488355328) :
    Calls Tryd.prog 5 #[.slice a L C] w fun e w' => ∃ v, e = .returned v ∧ Cop w w' v ll := by
  have AB : Aside (Rows2 w a ll ∧ ll.length = L ∧ L ≤ C ∧ L * 24 < 140737488355328) := ⟨hp, hL, hLC, hLb⟩
  clear hp hL hLC hLb
  go_enter Tryd.func5, Tryd.ntmps5
  go_wp2_with fail
  go_loopg [3, 4] L (fun g sv si wr => ∃ (v : Value) (i : Nat), sv = v ∧ si = .int .i64 i ∧ Aside (i + g = L ∧ Cop w wr v (ll.take i)))
  case atStart => exact ⟨_, 0, rfl, rfl, ⟨by omega, Cop.nil w⟩⟩
  case round =>
    obtain ⟨v, i, hv, rfl, hA⟩ := hrel
    have hv2 := hv.symm
    clear hv
    subst hv2
    by_cases hiL : i < L
    · have hi : (i : Int) < (L : Int) := by omega
      have hil : i < ll.length := by have := AB.out; omega
      obtain ⟨q, hq⟩ : ∃ q, ll[i]? = some q := ⟨_, List.getElem?_eq_getElem hil⟩
      rcases AB.out.1 with e | ⟨pb, po, rfl, hc⟩
      · rw [e] at hil; simp at hil
      obtain ⟨ai, ci, c1, c2, c3, c4, c5⟩ := hc i q hq
      have c1' : wr.cell? ⟨pb, po + i, none⟩ = some (.slice ai q.length ci) := (hA.out.2.bel.cell (p := ⟨pb, po + i, none⟩) (World.block_lt_of_cell? w ⟨pb, po + i, none⟩ c1)).trans c1
      have c1n : (wr.alloc (.cells #[] 5)).cell? ⟨pb, po + i, none⟩ = some (.slice ai q.length ci) := (((Below.refl _ wr).alloc (Nat.le_refl _) _).cell (p := ⟨pb, po + i, none⟩) (World.block_lt_of_cell? wr ⟨pb, po + i, none⟩ c1')).trans c1'
      have hib : (i : Int) + 1 < 9223372036854775808 := by have := AB.out; omega
      have hli := c2.below hA.out.2.bel
      have AI : Aside (i < L ∧ ll.take (i + 1) = ll.take i ++ [q] ∧ Lies wr ai q ∧ q.length < 140737488355328 ∧ (ai = none → q.length = 0 ∧ ci = 0) ∧ ((ll.take i).length + 1) * 24 ≤ 140737488355328) := ⟨hiL, by rw [List.take_add_one, hq]; rfl, hli, c4, c5, by rw [List.length_take]; have := AB.out; omega⟩
      obtain ⟨k, hk⟩ : ∃ k, q.length = k := ⟨_, rfl⟩
      have AK : Aside (q.length = k) := hk
      rw [hk] at c1' c1n
      have hbi : decide ((i : Int) < (L : Int)) = true := decide_eq_true hi
      clear hc hq hil c1 c2 c3 c4 c5 hk hiL hli
      have hiw : wrap64 ((i : Int) + 1) = (i : Int) + 1 := by unfold wrap64; omega
      have hiw2 : IntKind.i64.wrap ((i : Int) + 1) = (i : Int) + 1 := by rw [IntKind.wrap_i64]; omega
      clear hib
      go_wp2_with (first
        | (at_builtin; refine wpList_app0 _ rfl (.tmp 12) (.tmp 16) rfl wr rfl _ rfl rfl ai q k ci AK.out rfl (by rw [← AK.out]; exact AI.out.2.2.2.2.1) AI.out.2.2.1 (Nat.le_of_lt AI.out.2.2.2.1) ?_; intro v1 w1 hp1; obtain ⟨a1, cc1, hv1, _⟩ := hp1.shape; rw [AK.out] at hv1; subst hv1; have AP : Aside (Apd wr w1 wr.heap.size (.slice a1 k cc1) q) := hp1; clear hp1)
        | (at_builtin; refine wpList_appl w wr rfl (.tmp 11) (.tmp 18) rfl v (ll.take i) rfl hA.out.2 (.slice a1 k cc1) q w1 _ AP.out rfl _ rfl rfl AI.out.2.2.2.1 AI.out.2.2.2.2.2 ?_; intro v2 w2 hp2))
      clear hiw hiw2
      have hg := hA.out; have hi := AI.out
      go_roundg (L - (i + 1))
      case measure => omega
      case rel => exact ⟨v2, i + 1, rfl, by first | rfl | go_num, ⟨by omega, by rw [hi.2.1]; exact hp2⟩⟩
    · have hi : ¬ (i : Int) < (L : Int) := by omega
      have hf : Aside (Cop w wr v ll) := by
        have := hA.out.2
        rwa [List.take_of_length_le (by have := AB.out; omega)] at this
      clear hA hiL
      go_wp2_with fail
      go_ret
      exact ⟨_, rfl, hf.out⟩
end Go.Proofs.YtbepbjbbhenphabDoor

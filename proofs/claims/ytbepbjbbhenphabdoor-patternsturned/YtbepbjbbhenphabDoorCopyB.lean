/-
  Copy again: its rows are the call's own, each in a block of bytes; and what it is to write into them.
-/
import Derived.Test.YtbepbjbbhenphabDoorCopy
import Derived.Test.YtbepbjbbhenphabDoorMach
namespace Go.Proofs.YtbepbjbbhenphabDoor
open Go.RowKit
set_option linter.unusedVariables false
/-- Lists of bytes of the call's own, each in a block of its own call. -/
structure Cop2 (w w' : World) (v : Value) (ll : List (List Nat)) : Prop where
  vals : ∃ vs : List Value, w'.ownsRow w.heap.size 23 1 v ll.length vs ∧ ∀ (i : Nat) (l : List Nat), ll[i]? = some l → ∃ (ai : Option Addr) (ci : Nat), vs[i]? = some (.slice ai l.length ci) ∧ Lies w' ai l ∧ l.length ≤ ci ∧ l.length < 140737488355328 ∧ (ai = none → l.length = 0 ∧ ci = 0) ∧ (l ≠ [] → ∀ g, v.ownBlock = some g → ∀ b o s, ai = some ⟨b, o, s⟩ → b ≠ g) ∧ (l ≠ [] → ∃ b cur, ai = some ⟨b, 0, none⟩ ∧ w.heap.size ≤ b ∧ w'.heap[b]? = some (.cells cur 5))
  bel : Below w.heap.size w w'
theorem Cop2.nil (w : World) : Cop2 w w (.slice none 0 0) [] := ⟨⟨[], ⟨rfl, Or.inl ⟨rfl, rfl⟩⟩, fun i l h => by simp at h⟩, Below.refl _ _⟩
theorem Cop2.cop {w w' : World} {v : Value} {ll : List (List Nat)} (h : Cop2 w w' v ll) : Cop w w' v ll := by
  obtain ⟨vs, h1, h2⟩ := h.vals
  refine ⟨⟨vs, h1, fun i l hl => ?_⟩, h.bel⟩
  obtain ⟨ai, ci, k1, k2, k3, k4, k5, k6, _⟩ := h2 i l hl
  exact ⟨ai, ci, k1, k2, k3, k4, k5, k6⟩
/-- append of one list to a list of lists of the call's own. -/
theorem wpList_apl2 (w0 w : World) {ops : Array Oper} {rest : List Oper} {o : Oper} {a : Act} {Q : Exit → Act → World → Prop} (hgd : o.guard = none) (s x : Operand)
    (ho : o.op = .call { callee := .builtin .append, args := #[s, x], argTypes := #[22, 22] }) (v : Value) (ll : List (List Nat)) (hs : a.eval s = v) (hc0 : Cop2 w0 w v ll)
    (v1 : Value) (l : List Nat) (w1 w2 : World) (h1 : Apd w w1 w.heap.size v1 l) (hw2 : w2 = w1.alloc (.cells #[v1] 23)) (B : Nat) (hB : B = w1.heap.size) (hx : a.eval x = .slice (some ⟨B, 0, none⟩) 1 1) (hl : l.length < 140737488355328) (hlen : (ll.length + 1) * 24 ≤ 140737488355328)
    (h : ∀ v' w', Cop2 w0 w' v' (ll ++ [l]) → wpList Tryd.prog ops Q rest (a.put o.dst v') w') : wpList Tryd.prog ops Q (o :: rest) a w2 := by
  subst hw2
  subst hB
  obtain ⟨i0, hi, hz0, hz1, hz2⟩ := info_parts info36
  obtain ⟨vs, hown, hv⟩ := hc0.vals
  obtain ⟨a1, c1, e1, l1, n1, z1⟩ := h1.shape
  have hlt : ∀ g, v.ownBlock = some g → g < w.heap.size := by
    intro g hg
    rcases hown.2 with ⟨hv0, _⟩ | ⟨g', c, cur, hv0, _, hh, _⟩
    · rw [hv0] at hg; cases hg
    · rw [hv0] at hg; cases hg; exact (Array.getElem?_eq_some_iff.1 hh).1
  have hbw : Below w.heap.size w (w1.alloc (.cells #[v1] 23)) := h1.bel.alloc h1.le _
  have own2 : (w1.alloc (.cells #[v1] 23)).ownsRow w0.heap.size 23 1 v ll.length vs := by
    refine ⟨hown.1, ?_⟩
    rcases hown.2 with hn | ⟨g', c, cur, hv0, hg, hh, rest⟩
    · exact Or.inl hn
    · exact Or.inr ⟨g', c, cur, hv0, hg, (hbw.block g' (Array.getElem?_eq_some_iff.1 hh).1).trans hh, rest⟩
  have hs1 : w.heap.size ≤ w1.heap.size := h1.le
  have hs2 : (w1.alloc (.cells #[v1] 23)).heap.size = w1.heap.size + 1 := by show (w1.heap.push _).size = _; simp
  have hs0 := hc0.bel.size
  refine wpList_append_own_at (P := Tryd.prog) _ hgd s x 22 ho w0.heap.size 23 i0 (.slice none 0 0) 1 24 Tryd.underlying22 hi hz0 hz1 hz2 rfl (by decide) v ll.length vs hs own2 ⟨w1.heap.size, 0, none⟩ 1 1 [v1] hx rfl ?_ ?_ (by unfold maxLen; omega) hlen (by omega) ?_
  · intro j u hj
    match j, hj with
    | 0, hj =>
      have e : v1 = u := by simpa using hj
      rw [← e]
      show World.cell? _ ⟨w1.heap.size, 0, none⟩ = _
      rw [(Cells.new w1 _ 23).cell]; rfl
  · intro u hu
    rw [List.mem_singleton.1 hu, e1]; rfl
  · intro v' w' h2 h3 _ h5
    have hbel : Below w0.heap.size (w1.alloc (.cells #[v1] 23)) w' := (Below.refl _ _).grown h3 (by omega) (fun k hk => by
      rcases hown.2 with ⟨hv0, _⟩ | ⟨g', c, cur, hv0, hg, _⟩
      · rw [hv0] at hk; cases hk
      · rw [hv0] at hk; cases hk; exact hg)
    have hnew : ∀ g, v'.ownBlock = some g → v.ownBlock = some g ∨ g = w1.heap.size + 1 := by
      intro g hg
      rcases h5 with h5 | h5
      · left; rw [← h5]; exact hg
      · right; rw [h5] at hg; cases hg; exact hs2
    refine h v' w' ⟨⟨vs ++ [v1], by rw [List.length_append]; exact h2, ?_⟩, (hc0.bel.trans (hbw.mono hs0)).trans hbel⟩
    have hvl : vs.length = ll.length := by rw [hown.1]; omega
    intro i m hm
    rcases at_app_iff.1 hm with hm | ⟨rfl, rfl⟩
    · obtain ⟨ai, ci, k1, k2, k3, k4, k5, k6, k7⟩ := hv i m hm
      refine ⟨ai, ci, by rw [List.getElem?_append_left (by rw [hvl]; exact (List.getElem?_eq_some_iff.1 hm).1)]; exact k1, ?_, k3, k4, k5, ?_, ?_⟩
      · exact (k2.below hbw).grown h3 (fun h0 b o s e1 e2 => k6 h0 b e2 b o s e1 rfl)
      · intro h0 g hg b o s e
        rcases hnew g hg with hg | hg
        · exact k6 h0 g hg b o s e
        · rcases k2 with k2 | ⟨b', o', e', hc⟩
          · exact absurd k2 h0
          · rw [e] at e'; cases e'
            have h00 : 0 < m.length := List.length_pos_iff.2 h0
            have := World.block_lt_of_cell? w ⟨b, o + 0, none⟩ (hc 0 m[0] (List.getElem?_eq_getElem h00))
            have : b < w.heap.size := this
            omega
      · intro h0
        obtain ⟨b, cur, e, hb, hh⟩ := k7 h0
        have hbl := (Array.getElem?_eq_some_iff.1 hh).1
        refine ⟨b, cur, e, hb, ?_⟩
        rw [h3.block b (by omega) (fun e2 => k6 h0 b e2.symm b 0 none e rfl), hbw.block b hbl]
        exact hh
    · have ha1 : ∀ b o s, a1 = some ⟨b, o, s⟩ → w.heap.size ≤ b ∧ b < w1.heap.size := by
        intro b o s e
        rcases h1.own.2 with ⟨hv0, _⟩ | ⟨g', c, cur, hv0, hg, hh, _⟩
        · rw [e1, e] at hv0; cases hv0
        · rw [e1, e] at hv0; cases hv0
          exact ⟨hg, (Array.getElem?_eq_some_iff.1 hh).1⟩
      refine ⟨a1, c1, by rw [← hvl, at_new, e1], ?_, n1, hl, z1, ?_, ?_⟩
      · refine (l1.below ((Below.refl _ w1).alloc (Nat.le_refl _) _)).grown h3 (fun _ b o s ea eb => ?_)
        have := hlt b eb
        have := ha1 b o s ea
        omega
      · intro _ g hg b o s ea
        have := ha1 b o s ea
        rcases hnew g hg with hg | hg
        · have := hlt g hg; omega
        · omega
      · intro h0
        rcases h1.own.2 with ⟨hv0, hz0⟩ | ⟨g', c, cur, hv0, hg, hh, _⟩
        · exact absurd (List.eq_nil_of_length_eq_zero hz0) h0
        · rw [e1] at hv0; cases hv0
          have hgl := (Array.getElem?_eq_some_iff.1 hh).1
          refine ⟨g', cur, rfl, by omega, ?_⟩
          rw [h3.block g' (by omega) (fun e2 => by have := hlt g' e2.symm; omega), Below.heap_alloc w1 _ g' hgl]
          exact hh
set_option maxHeartbeats 2000000 in
theorem copy2_c (a : Option Addr) (ll : List (List Nat)) (L C : Nat) (w : World) (hp : Rows2 w a ll) (hL : ll.length = L) (hLC : L ≤ C) (hLb : L * 24 < 140737488355328) :
    Calls Tryd.prog 5 #[.slice a L C] w fun e w' => ∃ v, e = .returned v ∧ Cop2 w w' v ll := by
  have AB : Aside (Rows2 w a ll ∧ ll.length = L ∧ L ≤ C ∧ L * 24 < 140737488355328) := ⟨hp, hL, hLC, hLb⟩
  clear hp hL hLC hLb
  go_enter Tryd.func5, Tryd.ntmps5
  go_wp2_with fail
  go_loopg [3, 4] L (fun g sv si wr => ∃ (v : Value) (i : Nat), sv = v ∧ si = .int .i64 i ∧ Aside (i + g = L ∧ Cop2 w wr v (ll.take i)))
  case atStart => exact ⟨_, 0, rfl, rfl, ⟨by omega, Cop2.nil w⟩⟩
  case round =>
    obtain ⟨v, i, hv, rfl, hA⟩ := hrel
    have hv2 := hv.symm
    clear hv
    subst hv2
    by_cases hiL : i < L
    · have hi : (i : Int) < (L : Int) := by omega
      have hil : i < ll.length := by have := AB.out; omega
      obtain ⟨q, hq⟩ : ∃ q, ll[i]? = some q := ⟨_, List.getElem?_eq_getElem hil⟩
      rcases AB.out.1 with e | ⟨pb, po, rfl, hc⟩
      · rw [e] at hil; simp at hil
      obtain ⟨ai, ci, c1, c2, c3, c4, c5⟩ := hc i q hq
      have c1' : wr.cell? ⟨pb, po + i, none⟩ = some (.slice ai q.length ci) := (hA.out.2.bel.cell (p := ⟨pb, po + i, none⟩) (World.block_lt_of_cell? w ⟨pb, po + i, none⟩ c1)).trans c1
      have c1n : (wr.alloc (.cells #[] 5)).cell? ⟨pb, po + i, none⟩ = some (.slice ai q.length ci) := (((Below.refl _ wr).alloc (Nat.le_refl _) _).cell (p := ⟨pb, po + i, none⟩) (World.block_lt_of_cell? wr ⟨pb, po + i, none⟩ c1')).trans c1'
      have hib : (i : Int) + 1 < 9223372036854775808 := by have := AB.out; omega
      have hli := c2.below hA.out.2.bel
      have AI : Aside (i < L ∧ ll.take (i + 1) = ll.take i ++ [q] ∧ Lies wr ai q ∧ q.length < 140737488355328 ∧ (ai = none → q.length = 0 ∧ ci = 0) ∧ ((ll.take i).length + 1) * 24 ≤ 140737488355328) := ⟨hiL, by rw [List.take_add_one, hq]; rfl, hli, c4, c5, by rw [List.length_take]; have := AB.out; omega⟩
      obtain ⟨k, hk⟩ : ∃ k, q.length = k := ⟨_, rfl⟩
      have AK : Aside (q.length = k) := hk
      rw [hk] at c1' c1n
      have hbi : decide ((i : Int) < (L : Int)) = true := decide_eq_true hi
      clear hc hq hil c1 c2 c3 c4 c5 hk hiL hli
      have hiw : wrap64 ((i : Int) + 1) = (i : Int) + 1 := by unfold wrap64; omega
      have hiw2 : IntKind.i64.wrap ((i : Int) + 1) = (i : Int) + 1 := by rw [IntKind.wrap_i64]; omega
      clear hib
      go_wp2_with (first
        | (at_builtin; refine wpList_app0 _ rfl (.tmp 12) (.tmp 16) rfl wr rfl _ rfl rfl ai q k ci AK.out rfl (by rw [← AK.out]; exact AI.out.2.2.2.2.1) AI.out.2.2.1 (Nat.le_of_lt AI.out.2.2.2.1) ?_; intro v1 w1 hp1; obtain ⟨a1, cc1, hv1, _⟩ := hp1.shape; rw [AK.out] at hv1; subst hv1; have AP : Aside (Apd wr w1 wr.heap.size (.slice a1 k cc1) q) := hp1; clear hp1)
        | (at_builtin; refine wpList_apl2 w wr rfl (.tmp 11) (.tmp 18) rfl v (ll.take i) rfl hA.out.2 (.slice a1 k cc1) q w1 _ AP.out rfl _ rfl rfl AI.out.2.2.2.1 AI.out.2.2.2.2.2 ?_; intro v2 w2 hp2))
      clear hiw hiw2
      have hg := hA.out; have hi := AI.out
      go_roundg (L - (i + 1))
      case measure => omega
      case rel => exact ⟨v2, i + 1, rfl, by first | rfl | go_num, ⟨by omega, by rw [hi.2.1]; exact hp2⟩⟩
    · have hi : ¬ (i : Int) < (L : Int) := by omega
      have hf : Aside (Cop2 w wr v ll) := by
        have := hA.out.2
        rwa [List.take_of_length_le (by have := AB.out; omega)] at this
      clear hA hiL
      go_wp2_with fail
      go_ret
      exact ⟨_, rfl, hf.out⟩
/-- Rows of bytes, one block each, in blocks from lo to hi: what may be written. -/
def Copies (w : World) (lo hi g : Nat) (ps : List (List Nat)) : Prop := ∀ (i : Nat) (p : List Nat), ps[i]? = some p → ∃ (b ci : Nat) (cur : Array Value), w.cell? ⟨g, i, none⟩ = some (.slice (some ⟨b, 0, none⟩) p.length ci) ∧ lo ≤ b ∧ b < hi ∧ b ≠ g ∧ Cells w b cur 5 ∧ ∀ k, k < p.length → ∃ z : Int, cur[k]? = some (.int .u8 z)
theorem Cop2.copies {w w' : World} {v : Value} {ll : List (List Nat)} (h : Cop2 w w' v ll) (hp : 0 < ll.length) (hne : [] ∉ ll) : ∃ g C, v = .slice (some ⟨g, 0, none⟩) ll.length C ∧ ll.length ≤ C ∧ Copies w' w.heap.size w'.heap.size g ll ∧ g < w'.heap.size := by
  obtain ⟨vs, ho, hv⟩ := h.vals
  rcases ho.2 with ⟨_, h0⟩ | ⟨g, c, cur, hv0, hg, hh, hc, hm, hs, ht⟩
  · omega
  · refine ⟨g, c, hv0, hc, fun i l hl => ?_, (Array.getElem?_eq_some_iff.1 hh).1⟩
    have hl0 : l ≠ [] := fun e => hne (e ▸ List.mem_of_getElem? hl)
    obtain ⟨ai, ci, k1, k2, k3, k4, k5, k6, k7⟩ := hv i l hl
    obtain ⟨b, bc, e, hb, hbh⟩ := k7 hl0
    have hi := (List.getElem?_eq_some_iff.1 hl).1
    refine ⟨b, ci, bc, ?_, hb, (Array.getElem?_eq_some_iff.1 hbh).1, k6 hl0 g (by rw [hv0]; rfl) b 0 none e, hbh, fun k hk => ?_⟩
    · rw [Cells.cell (cs := cur) (t := 23) hh]
      rw [← ht, List.getElem?_take, if_pos (by omega), e] at k1
      simpa using k1
    · rcases k2 with k2 | ⟨b', o', e', hcc⟩
      · exact absurd k2 hl0
      · rw [e] at e'; cases e'
        have := hcc k l[k] (List.getElem?_eq_getElem hk)
        rw [Nat.zero_add, Cells.cell (cs := bc) (t := 5) hbh] at this
        exact ⟨_, this⟩
/-- Blocks from lo to hi alone may have turned. -/
structure Mid (lo hi : Nat) (w w' : World) : Prop where
  os : w'.os = w.os
  tape : w'.tape = w.tape
  output : w'.output = w.output
  size : w'.heap.size = w.heap.size
  block : ∀ k, k < lo ∨ hi ≤ k → w'.heap[k]? = w.heap[k]?
theorem Mid.refl (lo hi : Nat) (w : World) : Mid lo hi w w := ⟨rfl, rfl, rfl, rfl, fun _ _ => rfl⟩
theorem Mid.set {lo hi : Nat} {w u : World} (h : Mid lo hi w u) {b : Nat} (h1 : lo ≤ b) (h2 : b < hi) (k : Nat) (v : Value) : Mid lo hi w (u.setCell ⟨b, k, none⟩ v) := by
  refine ⟨h.os, h.tape, h.output, ?_, fun j hj => ?_⟩
  · rw [← h.size]; simp [World.setCell]
  · rw [Below.heap_setCell _ _ _ _ (show j ≠ b by omega)]; exact h.block j hj
theorem Mid.below {lo hi : Nat} {w u : World} (h : Mid lo hi w u) : Below lo w u := ⟨h.os, h.tape, h.output, Nat.le_of_eq h.size.symm, fun k hk => h.block k (Or.inl hk)⟩
theorem Mid.mach {lo hi : Nat} {w u : World} (h : Mid lo hi w u) {A pn lg : Nat} {nd : List Nd} {G : Nat → Nat → Option Nat} (hm : Mach w hi A pn lg nd G) : Mach u hi A pn lg nd G := by
  obtain ⟨g, cap, M, k, cur, hA, hg, h1, h2, h3, h4, h5, h6, h7, h8, h9⟩ := hm
  exact ⟨g, cap, M, k, cur, (h.block A (Or.inr h7)).trans hA, (h.block g (Or.inr h8)).trans hg, h1, h2, h3, h4, h5.heap (h.block M (Or.inr h9)), h6, h7, h8, h9⟩
theorem Copies.below {w u : World} {lo hi g B : Nat} {ps : List (List Nat)} (h : Copies w lo hi g ps) (k : Below B w u) (hg : g < B) (hh : hi ≤ B) : Copies u lo hi g ps := by
  intro i p hp
  obtain ⟨b, ci, cur, c1, c2, c3, c4, c5, c6⟩ := h i p hp
  exact ⟨b, ci, cur, (k.cell (p := ⟨g, i, none⟩) hg).trans c1, c2, c3, c4, c5.below k (by omega), c6⟩
theorem Copies.set {w : World} {lo hi g : Nat} {ps : List (List Nat)} (h : Copies w lo hi g ps) {b : Nat} (hb : b ≠ g) (k : Nat) (z : Int) : Copies (w.setCell ⟨b, k, none⟩ (.int .u8 z)) lo hi g ps := by
  intro i p hp
  obtain ⟨b', ci, cur, c1, c2, c3, c4, c5, c6⟩ := h i p hp
  have e1 : (w.setCell ⟨b, k, none⟩ (.int .u8 z)).cell? ⟨g, i, none⟩ = w.cell? ⟨g, i, none⟩ := World.cell?_of_block (Below.heap_setCell _ _ _ _ (fun e => hb e.symm))
  by_cases e : b' = b
  · subst e
    refine ⟨b', ci, _, e1.trans c1, c2, c3, c4, c5.set k _, fun j hj => ?_⟩
    obtain ⟨y, hy⟩ := c6 j hj
    rw [Array.getElem?_setIfInBounds]
    by_cases e2 : k = j
    · subst e2
      have := (Array.getElem?_eq_some_iff.1 hy).1
      rw [if_pos rfl, if_pos this]
      exact ⟨z, rfl⟩
    · rw [if_neg e2]; exact ⟨y, hy⟩
  · refine ⟨b', ci, cur, e1.trans c1, c2, c3, c4, ?_, c6⟩
    unfold Cells at *
    rw [Below.heap_setCell _ _ _ _ e]; exact c5
end Go.Proofs.YtbepbjbbhenphabDoor

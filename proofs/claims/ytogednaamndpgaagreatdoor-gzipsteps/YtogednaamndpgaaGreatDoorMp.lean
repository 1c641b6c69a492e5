/-
  Own texts of this seat, one behind the other: what each says stands ahead of it.
-/
import Derived.Test.YtogednaamndpgaaGreatDoorMo
import Derived.Test.YtogednaamndpgaaGreatDoorMn
import Derived.Test.YtogednaamndpgaaGreatDoorMa
import Derived.Laws.IdiomStrings
import Derived.Deep.LoopGhost
import Derived.BigQuiet
import Derived.OwnWalk
import Derived.Laws.AppendOwn
import Derived.Laws.AppendOwnNone
import Derived.Deep.AppendLies
import Derived.Lib.SliceRun
import Derived.Deep.RegionLaw
import Derived.Test.YtogednaamndpgaaGreatDoorProg
import Derived.WalkSpells
import Derived.OpenShut
import Derived.Below
import Derived.Laws.BitsAllLaws
import Derived.Laws.Bits64
/-
  Lists of a call's own, of cells of any type and width; append, clear, and what is kept by them.
-/
namespace Go.Proofs.YtogednaamndpgaaGreatDoor
open Go.RowKit
set_option linter.unusedVariables false
/-- A list of the call's own, n elements of sz cells, in a block from lo on, of cells of type e. -/
structure Ow (w : World) (lo : Nat) (e : TypeId) (sz : Nat) (v : Value) (n : Nat) (xs : List Value) : Prop where
  own : w.ownsRow lo e sz v n xs
  le : lo ≤ w.heap.size
theorem Ow.nil {w : World} {lo sz : Nat} {e : TypeId} (h : lo ≤ w.heap.size) : Ow w lo e sz (.slice none 0 0) 0 [] := ⟨⟨by simp, Or.inl ⟨rfl, rfl⟩⟩, h⟩
section
variable {w u : World} {lo sz n : Nat} {e : TypeId} {v : Value} {l : List Value}
theorem Ow.keep (h : Ow w lo e sz v n l) (hs : w.heap.size ≤ u.heap.size) (k : ∀ g, lo ≤ g → g < w.heap.size → (∃ cs fr, w.heap[g]? = some (.cells cs e fr)) → u.heap[g]? = w.heap[g]?) : Ow u lo e sz v n l := by
  refine ⟨⟨h.own.1, ?_⟩, Nat.le_trans h.le hs⟩
  rcases h.own.2 with q | ⟨g, c, cur, hv, hg, hh, q⟩
  · exact Or.inl q
  · have hlt : g < w.heap.size := (Array.getElem?_eq_some_iff.1 hh).1
    exact Or.inr ⟨g, c, cur, hv, hg, (k g hg hlt ⟨_, _, hh⟩).trans hh, q⟩
theorem Ow.below {C : Nat} (h : Ow w lo e sz v n l) (k : Below C w u) (hC : w.heap.size ≤ C) : Ow u lo e sz v n l := h.keep k.size fun g h1 h2 _ => k.block g (by omega)
theorem Ow.drewN (h : Ow w lo e sz v n l) (m : Nat) : Ow (w.drewN m) lo e sz v n l := ⟨h.own, h.le⟩
theorem Ow.drew (h : Ow w lo e sz v n l) : Ow w.drew lo e sz v n l := ⟨h.own, h.le⟩
theorem Ow.set {b i : Nat} {x : Value} {cs : Array Value} {t : TypeId} (h : Ow w lo e sz v n l) (hb : Cells w b cs t) (ht : t ≠ e) : Ow (w.setCell ⟨b, i, none⟩ x) lo e sz v n l :=
  h.keep (by simp [World.setCell]) fun g h1 h2 ⟨cs', fr, hx⟩ => Below.heap_setCell _ _ _ _ (fun hg => by
    subst hg
    unfold Cells at hb
    rw [hb] at hx
    cases hx
    exact ht rfl)
theorem Ow.lt_block (h : Ow w lo e sz v n l) {g : Nat} (hg : v.ownBlock = some g) : lo ≤ g ∧ g < w.heap.size := h.own.lt g hg
theorem Ow.shape (h : Ow w lo e sz v n l) : ∃ a c, v = .slice a n c ∧ n ≤ c ∧ (n = 0 ∨ ∃ g, a = some ⟨g, 0, none⟩ ∧ lo ≤ g ∧ (∃ cs, w.heap[g]? = some (.cells cs e (0, 0))) ∧ (∀ i x, l[i]? = some x → w.cell? ⟨g, i, none⟩ = some x) ∧ ∀ i, w.frozen? ⟨g, i, none⟩ = false) ∧ (a = none → n = 0 ∧ c = 0) := by
  rcases h.own.2 with ⟨hv, h0⟩ | ⟨g, c, cur, hv, hg, hh, hc, hm, hs, ht⟩
  · refine ⟨none, 0, by rw [hv, h0], by omega, Or.inl h0, fun _ => ⟨h0, rfl⟩⟩
  · refine ⟨_, c, hv, hc, Or.inr ⟨g, rfl, hg, ⟨_, hh⟩, fun i x hx => ?_, fun i => Cells.frozen (cs := cur) (t := e) hh i⟩, fun h => by cases h⟩
    rw [Cells.cell (cs := cur) (t := e) hh]
    have hi : i < l.length := (List.getElem?_eq_some_iff.1 hx).1
    have e : (cur.toList.take (n * sz))[i]? = some x := by rw [ht, hx]
    rw [List.getElem?_take, if_pos (by have := h.own.1; omega)] at e
    simpa using e
end
/-- What an append comes to: the longer list, and that of all blocks that were there the list's own alone may have turned. -/
structure Got (lo : Nat) (e : TypeId) (sz : Nat) (w w' : World) (v v' : Value) (n : Nat) (xs : List Value) : Prop where
  ow : Ow w' lo e sz v' n xs
  bel : Below lo w w'
  kb : ∀ k, k < w.heap.size → some k ≠ v.ownBlock → w'.heap[k]? = w.heap[k]?
  kp : ∀ k, k < w.heap.size → w'.heap[k]? = w.heap[k]? ∨ (lo ≤ k ∧ ∃ cs, w.heap[k]? = some (.cells cs e (0, 0)))
theorem Got.size {lo sz n : Nat} {e : TypeId} {w w' : World} {v v' : Value} {xs : List Value} (h : Got lo e sz w w' v v' n xs) : w.heap.size ≤ w'.heap.size := h.bel.size
theorem Cells.got {lo sz n b : Nat} {e t : TypeId} {w w' : World} {v v' : Value} {xs : List Value} {cs : Array Value} (h : Cells w b cs t) (k : Got lo e sz w w' v v' n xs) (ht : t ≠ e) : Cells w' b cs t := by
  unfold Cells at *
  have hlt : b < w.heap.size := (Array.getElem?_eq_some_iff.1 h).1
  rcases k.kp b hlt with e1 | ⟨_, cs', e1⟩
  · rw [e1]; exact h
  · rw [h] at e1; cases e1; exact absurd rfl ht
theorem Ow.got {lo lo2 sz sz2 n n2 : Nat} {e t : TypeId} {w w' : World} {v v' v2 : Value} {xs ys : List Value} (h : Ow w lo2 t sz2 v2 n2 ys) (k : Got lo e sz w w' v v' n xs) (ht : t ≠ e) : Ow w' lo2 t sz2 v2 n2 ys :=
  h.keep k.size fun g h1 h2 ⟨cs, fr, hx⟩ => by
    rcases k.kp g h2 with e1 | ⟨_, cs', e1⟩
    · exact e1
    · rw [hx] at e1; cases e1; exact absurd rfl ht
theorem Got.mk' {lo sz n m : Nat} {e : TypeId} {w w' : World} {v v' : Value} {xs news : List Value} (hown : Ow w lo e sz v n xs) (h2 : w'.ownsRow lo e sz v' (n + m) (xs ++ news)) (h3 : w.grownBy w' v.ownBlock) : Got lo e sz w w' v v' (n + m) (xs ++ news) := by
  have hos : v.ownBlock = none ∨ ∃ g cur, v.ownBlock = some g ∧ lo ≤ g ∧ w.heap[g]? = some (.cells cur e (0, 0)) := by
    rcases hown.own.2 with ⟨rfl, h0⟩ | ⟨g, c, cur, rfl, hg, hh, _⟩
    · left; rfl
    · right; exact ⟨g, cur, rfl, hg, hh⟩
  have hb : Below lo w w' := (Below.refl lo w).grown h3 hown.le (fun k hk => by
    rcases hos with h5 | ⟨g, cur, h5, hg, _⟩
    · rw [h5] at hk; cases hk
    · rw [h5] at hk; cases hk; exact hg)
  refine ⟨⟨h2, Nat.le_trans hown.le h3.size⟩, hb, fun k hk e => h3.block k hk e, fun k hk => ?_⟩
  by_cases e : some k = v.ownBlock
  · rcases hos with h5 | ⟨g, cur, h5, hg, hh⟩
    · rw [h5] at e; cases e
    · rw [h5] at e
      cases e
      exact Or.inr ⟨hg, cur, hh⟩
  · exact Or.inl (h3.block k hk e)
section
variable (P : Program) (w : World) {o : Oper} {a : Act}
theorem wpList_ow {ops : Array Oper} {rest : List Oper} {Q : Exit → Act → World → Prop} (hgd : o.guard = none) (s x : Operand) (t : TypeId)
    (ho : o.op = .call { callee := .builtin .append, args := #[s, x], argTypes := #[t, t] }) (e : TypeId) (i : TypeInfo) (z : Value) (sz bytes : Nat) (ht : P.underlying t = some (.slice e)) (hi : P.info? e = some i) (hz0 : i.zero = some z) (hz1 : i.size = sz) (hz2 : i.bytes = bytes) (hz3 : z.cells.size = sz) (hsz : 0 < sz)
    (lo : Nat) (v : Value) (k : Nat) (l : List Value) (hs : a.eval s = v) (hown : Ow w lo e sz v k l)
    (ax : Option Addr) (m : List Value) (n c : Nat) (hnm : m.length = n * sz) (hx : a.eval x = .slice ax n c) (hz : ax = none → n = 0 ∧ c = 0) (hl : m = [] ∨ ∃ b o, ax = some ⟨b, o, none⟩ ∧ ∀ i u, m[i]? = some u → w.cell? ⟨b, o + i, none⟩ = some u) (h1 : ∀ u ∈ m, u.oneCell' = true) (h63 : k + n ≤ maxLen) (hlen : (k + n) * bytes ≤ 140737488355328)
    (h : ∀ v' w', Got lo e sz w w' v v' (k + n) (l ++ m) → wpList P ops Q rest (a.put o.dst v') w') : wpList P ops Q (o :: rest) a w := by
  cases ax with
  | none =>
    obtain ⟨h1, h2⟩ := hz rfl
    subst h1
    have hm : m = [] := List.eq_nil_of_length_eq_zero (by omega)
    subst hm
    subst h2
    refine wpList_append_own_none hgd s x t ho lo e i sz ht hi v _ _ hs hown.own hx (h v w ?_)
    rw [List.append_nil]
    exact ⟨hown, Below.refl _ _, fun _ _ _ => rfl, fun k _ => Or.inl rfl⟩
  | some ad =>
    refine wpList_append_own w hgd s x t ho lo e i z sz bytes ht hi hz0 hz1 hz2 hz3 hsz v _ _ hs hown.own ad n c m hx hnm ?_ h1 h63 hlen hown.le ?_
    · intro j u hj
      rcases hl with rfl | ⟨b, off, ha, hc⟩
      · simp at hj
      · cases ha
        rw [addr_add]
        exact hc j u hj
    · intro v' w' h2 h3 h4
      exact h v' w' (Got.mk' hown h2 h3)
/-- One element, at a step of a region that draws its order. -/
theorem step_ow {ops : Array Oper} {K : Act → World → Prop} {Q : Exit → Act → World → Prop} {E : Prop} (hgd : o.guard = none) (s x : Operand) (t : TypeId)
    (ho : o.op = .call { callee := .builtin .append, args := #[s, x], argTypes := #[t, t] }) (e : TypeId) (i : TypeInfo) (z : Value) (sz bytes : Nat) (ht : P.underlying t = some (.slice e)) (hi : P.info? e = some i) (hz0 : i.zero = some z) (hz1 : i.size = sz) (hz2 : i.bytes = bytes) (hz3 : z.cells.size = sz) (hsz : 0 < sz)
    (lo : Nat) (v : Value) (k : Nat) (l : List Value) (hs : a.eval s = v) (hown : Ow w lo e sz v k l)
    (b off c : Nat) (m : List Value) (hnm : m.length = sz) (hx : a.eval x = .slice (some ⟨b, off, none⟩) 1 c) (hl : ∀ i u, m[i]? = some u → w.cell? ⟨b, off + i, none⟩ = some u) (h1 : ∀ u ∈ m, u.oneCell' = true) (h63 : k + 1 ≤ maxLen) (hlen : (k + 1) * bytes ≤ 140737488355328)
    (h : ∀ g cap w', Got lo e sz w w' v (.slice (some ⟨g, 0, none⟩) (k + 1) cap) (k + 1) (l ++ m) → K (a.put o.dst (.slice (some ⟨g, 0, none⟩) (k + 1) cap)) w') :
    if Region.wanted o (yielded ops a.tmps) = true then Oper.wp P o a w K Q else E :=
  step_append_lies w hgd s x t ho lo e i z sz bytes ht hi hz0 hz1 hz2 hz3 hsz v _ _ hs hown.own ⟨b, off, none⟩ 1 c m hx (by omega) (fun j u hj => by rw [addr_add]; exact hl j u hj) h1 (by decide) h63 hlen hown.le _ rfl fun g cap w' h2 h3 _ _ => h g cap w' (Got.mk' hown h2 h3)
end
theorem Ow.lies {w : World} {lo n : Nat} {v : Value} {l : List Nat} (h : Ow w lo 5 1 v n (ob l)) : ∃ a c, v = .slice a n c ∧ l.length = n ∧ n ≤ c ∧ Lies w a l ∧ (a = none → n = 0 ∧ c = 0) := by
  obtain ⟨a, c, hv, hc, hq, hz⟩ := h.shape
  have hn : l.length = n := by have := h.own.1; rw [ob_length] at this; omega
  refine ⟨a, c, hv, hn, hc, ?_, hz⟩
  rcases hq with h0 | ⟨g, ha, hg, _, hx, _⟩
  · exact Or.inl (List.eq_nil_of_length_eq_zero (by omega))
  · refine Or.inr ⟨g, 0, ha, fun i x hi => ?_⟩
    rw [Nat.zero_add]
    exact hx i _ (by rw [ob_get, hi]; rfl)
theorem drop_more {l : List Nat} {k x : Nat} (hx : l[k]? = some x) : l.drop k = x :: l.drop (k + 1) := by
  obtain ⟨h1, h2⟩ := List.getElem?_eq_some_iff.1 hx
  rw [← h2]
  exact List.drop_eq_getElem_cons h1
theorem Below.drewN2 {B : Nat} {w u : World} (h : Below B w u) (n : Nat) : Below B w (u.drewN n) := ⟨h.1, h.2, h.3, h.size, h.block⟩
end Go.Proofs.YtogednaamndpgaaGreatDoor

/-
  What the document's text comes to.
-/
namespace Go.Proofs.YtogednaamndpgaaGreatDoor
open Go.RowKit
set_option linter.unusedVariables false
section
variable {base R L C : Nat} {a : Option Addr} {r : Gr} {vE : Value}
theorem gz_succ (b : List Nat) (k f m : Nat) (r : Gr) : gz b (k + 1) f m r = if (gnum b 1 r).why ≠ 0 then (gnum b 1 r, []) else if gval b 1 r = 0 then (gnum b 1 r, (b.take ((gnum b 1 r).pos - 1)).drop f) else if 256 < (gnum b 1 r).pos - f then (gstop 46 ((gnum b 1 r).pos - 1) (gnum b 1 r), []) else gz b k f (m + 1) (gnum b 1 r) := rfl
/-- What text answers. -/
structure Gt (res : Gr × List Nat) (base R : Nat) (a : Option Addr) (L C : Nat) (vE : Value) (w : World) (e : Ending) (w' : World) : Prop where
  str : e = .returned (.string (st res.2))
  gm : Gm w' base R a L C res.1 vE
  only : Only R w w'
set_option maxRecDepth 20000 in
set_option maxHeartbeats 4000000 in
theorem gtext_c (b : List Nat) (ho : Oct b) (hL : b.length = L) (hLb : L ≤ 100000000000) (hLC : L ≤ C) (hnil : a = none → L = 0 ∧ C = 0) (hp : r.pos ≤ L) (w : World) (haR : ∀ g o, a = some ⟨g, o, none⟩ → b ≠ [] → g ≠ R) (hx : Lies w a b) (h : Gm w base R a L C r vE) : Calls Tryz.prog 57 #[.pointer (some ⟨R, 0, none⟩)] w fun e w' => Gt (gtext b r) base R a L C vE w e w' := by
  have c4 := h.c4
  obtain ⟨f, hf⟩ : ∃ f, r.pos = f := ⟨_, rfl⟩
  rw [hf] at c4
  obtain ⟨res, hres⟩ : ∃ res, gtext b r = res := ⟨_, rfl⟩
  rw [hres]
  have hlies : ∀ u, Only R w u → Lies u a b := fun u o => by
    rcases hx with e | ⟨g, of, e, hc⟩
    · exact Or.inl e
    · by_cases hb : b = []
      · exact Or.inl hb
      · exact Or.inr ⟨g, of, e, fun i x hi => (o.cell (p := ⟨g, of + i, none⟩) (haR g of e hb)).trans (hc i x hi)⟩
  have AX : Aside (Oct b ∧ b.length = L ∧ L ≤ 100000000000 ∧ L ≤ C ∧ (a = none → L = 0 ∧ C = 0) ∧ f ≤ L ∧ Lies w a b ∧ Gm w base R a L C r vE ∧ ∀ u, Only R w u → Lies u a b) := ⟨ho, hL, hLb, hLC, hnil, by omega, hx, h, hlies⟩
  have hst : (r.why = 0 ∧ gz b 258 f 0 r = res) ∨ (r.why ≠ 0 ∧ res = (r, [])) := by
    unfold gtext at hres
    by_cases h0 : r.why = 0
    · rw [if_pos h0, hf] at hres; exact Or.inl ⟨h0, hres⟩
    · rw [if_neg h0] at hres; exact Or.inr ⟨h0, hres.symm⟩
  have AS : Aside (((r.why = 0 ∧ gz b 258 f 0 r = res) ∨ (r.why ≠ 0 ∧ res = (r, []))) ∧ r.pos = f) := ⟨hst, hf⟩
  clear ho hL hLb hLC hnil hp haR hx h hf hres hlies hst
  go_enter Tryz.func57, Tryz.ntmps57
  go_wp2_with fail
  go_loopg [2, 4] 258 (fun gg s2 s4 wr => s2 = .string ⟨#[]⟩ ∧ Aside (∃ r' m, Gm wr base R a L C r' vE ∧ Only R w wr ∧ ((r'.why = 0 ∧ gz b gg f m r' = res ∧ r'.pos = f + m ∧ m + gg = 258 ∧ m ≤ 256 ∧ r'.pos ≤ L) ∨ (r'.why ≠ 0 ∧ res = (r', [])))))
  case atStart =>
    have ax := AX.out
    have hs := AS.out
    refine ⟨rfl, r, 0, ax.2.2.2.2.2.2.2.1, Only.refl _ _, ?_⟩
    rcases hs.1 with e | e
    · exact Or.inl ⟨e.1, e.2, by omega, by omega, by omega, by omega⟩
    · exact Or.inr e
  case round =>
    obtain ⟨rfl, hT⟩ := hrel
    obtain ⟨r', m, hg, ho1, hcase⟩ := hT.out
    have ax := AX.out
    have hop := gopen_c wr hg
    have hop' : Calls Tryz.prog 25 #[.pointer (some ⟨R, 0, none⟩)] wr fun e w' => e = .returned (.bool (decide (r'.why = 0))) ∧ wr = w' := hop.mono fun e w' k => ⟨k.1, k.2.symm⟩
    rcases hcase with ⟨h0, hgz, hpos, hmg, hm, hpL⟩ | ⟨h0, hres⟩
    · rw [decide_eq_true h0] at hop'
      have hn := gnum_c b 1 (by decide) ax.1 ax.2.1 ax.2.2.1 hpL wr (ax.2.2.2.2.2.2.2.2 wr ho1) hg
      obtain ⟨x, hxv⟩ : ∃ x, gval b 1 r' = x := ⟨_, rfl⟩
      obtain ⟨r1, hr1⟩ : ∃ r1, gnum b 1 r' = r1 := ⟨_, rfl⟩
      have hn' : Calls Tryz.prog 38 #[.pointer (some ⟨R, 0, none⟩), .int .i64 1] wr fun e w' => e = .returned (.int .i64 (x : Int)) ∧ Gm w' base R a L C r1 vE ∧ Only R wr w' := hn.mono fun e w' k => by
        obtain ⟨v', k1, k2, k3, k4⟩ := k.ex
        rw [k2 (by decide), hxv] at k1
        rw [hr1] at k3
        exact ⟨k1, k3, k4⟩
      obtain ⟨k, hk⟩ : ∃ k, gk = k + 1 := ⟨gk - 1, by omega⟩
      rw [hk, gz_succ, hr1, hxv] at hgz
      have hop1 : ∀ w1, Gm w1 base R a L C r1 vE → Calls Tryz.prog 25 #[.pointer (some ⟨R, 0, none⟩)] w1 fun e w' => e = .returned (.bool (decide (r1.why = 0))) ∧ w1 = w' := fun w1 h1 => (gopen_c w1 h1).mono fun e w' k => ⟨k.1, k.2.symm⟩
      have h1p : r1.why = 0 → r1.pos = f + m + 1 ∧ f + m < L := fun e => by
        rw [← hr1] at e ⊢
        have := gnum_one h0 e
        rw [ax.2.1] at this
        omega
      by_cases h1 : r1.why = 0
      · have hpp := h1p h1
        rw [if_neg (by rw [h1]; decide)] at hgz
        have AO : Aside (∀ w1, Gm w1 base R a L C r1 vE → Calls Tryz.prog 25 #[.pointer (some ⟨R, 0, none⟩)] w1 fun e w' => e = .returned (.bool true) ∧ w1 = w') := fun w1 k => by have := hop1 w1 k; rwa [decide_eq_true h1] at this
        obtain ⟨p1, hp1⟩ : ∃ p1, r1.pos = p1 := ⟨_, rfl⟩
        rw [hp1] at hpp hgz
        by_cases hx0 : x = 0
        · rw [if_pos hx0] at hgz
          subst hx0
          obtain ⟨q1, hq1⟩ : ∃ q1, p1 - 1 = q1 := ⟨_, rfl⟩
          have w1' : (p1 : Int) - 1 = (q1 : Int) := by omega
          have bq : (q1 : Int) < 300000000000 := by omega
          rw [hq1] at hgz
          obtain ⟨a2, hsl, hli, _⟩ := cut_of a b L C f q1 ax.2.1 ax.2.2.2.1 (by omega) (by omega) ax.2.2.2.2.1 w ax.2.2.2.2.2.2.1
          have hsg : ((b.take q1).drop f).length = q1 - f := by rw [List.length_drop, List.length_take]; omega
          obtain ⟨X, hX⟩ : ∃ X, q1 - f = X := ⟨_, rfl⟩
          obtain ⟨cx, hcx⟩ : ∃ cx, C - f = cx := ⟨_, rfl⟩
          rw [hX] at hsl hsg
          rw [hcx] at hsl
          obtain ⟨S, hS⟩ : ∃ S, st ((b.take q1).drop f) = S := ⟨_, rfl⟩
          have AC : Aside (∀ u n, Only R w u → (convert 22 9 (.slice a2 X cx)).run Tryz.prog (u.drewN n) = .ok (.string S) (u.drewN n)) := fun u n o => by
            rw [← hS]
            exact conv_st X cx hsg ((ax.1.take q1).drop f) (hli _ (by exact ax.2.2.2.2.2.2.2.2 u o))
          have A3 : Aside (res = (r1, (b.take q1).drop f) ∧ Only R w wr ∧ st ((b.take q1).drop f) = S ∧ r1.pos = p1) := ⟨hgz.symm, ho1, hS, hp1⟩
          clear hT hg ho1 ax hop h0 hgz hpos hmg hm hpL hn hxv hr1 hop1 h1p h1 hpp hp1 hq1 hli hsg hX hcx hS hk
          go_upto_region 5 with (first | (go_at_call 25; refine hop'.mono ?_; rintro e1 w1 ⟨rfl, rfl⟩) | (go_at_call 38; refine hn'.mono ?_; rintro e2 w2 ⟨rfl, g2, o2⟩; clear hop' hn'; have hop' := AO.out w2 g2))
          have d4 : w2.cell? ⟨R, 4, none⟩ = some (.int .i64 (p1 : Int)) := by rw [← A3.out.2.2.2]; exact g2.c4
          have d3 := g2.c3
          have hcv := fun n => AC.out w2 n (A3.out.2.1.trans o2)
          have A4 : Aside (Gm w2 base R a L C r1 vE ∧ Only R w w2) := ⟨g2, A3.out.2.1.trans o2⟩
          clear g2 o2 hop'
          go_quiet (fail)
          go_wp2_with fail
          first | go_ret | go_ret2
          have a3 := A3.out
          have := a3.1
          subst this
          exact ⟨by rw [a3.2.2.1]; rfl, A4.out.1.drewN _, A4.out.2.drewN _⟩
        · rw [if_neg hx0] at hgz
          have t1 : ((x : Int) == 0) = false := by rw [beq_eq_false_iff_ne]; omega
          obtain ⟨d1, hd1⟩ : ∃ d1, p1 - f = d1 := ⟨_, rfl⟩
          have w2' : (p1 : Int) - (f : Int) = (d1 : Int) := by omega
          have bd : (d1 : Int) < 300000000000 := by omega
          rw [hd1] at hgz
          by_cases hbig : 256 < d1
          · rw [if_pos hbig] at hgz
            have t2 : ((256 : Int) < (d1 : Int)) = True := eq_true (by omega)
            have t3 : (256 < d1) = True := eq_true hbig
            obtain ⟨q1, hq1⟩ : ∃ q1, p1 - 1 = q1 := ⟨_, rfl⟩
            have w1' : (p1 : Int) - 1 = (q1 : Int) := by omega
            have bq : (q1 : Int) < 300000000000 := by omega
            rw [hq1] at hgz
            have A3 : Aside (res = (gstop 46 q1 r1, []) ∧ Only R w wr ∧ r1.pos = p1 ∧ gk = k + 1) := ⟨hgz.symm, ho1, hp1, hk⟩
            clear hT hg ho1 ax hop h0 hgz hpos hmg hm hpL hn hxv hr1 hop1 h1p h1 hpp hp1 hq1 hk hd1 hbig hx0
            go_upto_region 6 with (first | (go_at_call 25; refine hop'.mono ?_; rintro e1 w1 ⟨rfl, rfl⟩) | (go_at_call 38; refine hn'.mono ?_; rintro e2 w2 ⟨rfl, g2, o2⟩; clear hop' hn'; have hop' := AO.out w2 g2))
            have d4 : w2.cell? ⟨R, 4, none⟩ = some (.int .i64 (p1 : Int)) := by rw [← A3.out.2.2.1]; exact g2.c4
            have hs2 := gstop_c 46 q1 w2 g2
            go_wp2_with (first | (go_at_call 25; refine hop'.mono ?_; rintro e1 w1 ⟨rfl, rfl⟩) | (go_at_call 26; refine hs2.mono ?_; rintro e4 w4 ⟨rfl, g4, o4⟩))
            have a3 := A3.out
            go_roundg k
            case measure => omega
            case rel => exact ⟨rfl, gstop 46 q1 r1, m, g4, (a3.2.1.trans o2).trans o4, Or.inr ⟨by show (46 : Nat) ≠ 0; decide, a3.1⟩⟩
          · rw [if_neg hbig] at hgz
            have t2 : ((256 : Int) < (d1 : Int)) = False := eq_false (by omega)
            have t3 : (256 < d1) = False := eq_false hbig
            have A3 : Aside (gz b k f (m + 1) r1 = res ∧ Only R w wr ∧ r1.pos = p1 ∧ gk = k + 1 ∧ r1.why = 0 ∧ p1 = f + m + 1 ∧ m + gk = 258 ∧ m + 1 ≤ 256 ∧ p1 ≤ L) := ⟨hgz, ho1, hp1, hk, h1, hpp.1, hmg, by omega, by omega⟩
            clear hT hg ho1 ax hop h0 hgz hpos hmg hm hpL hn hxv hr1 hop1 h1p h1 hpp hp1 hk hd1 hbig hx0
            go_upto_region 6 with (first | (go_at_call 25; refine hop'.mono ?_; rintro e1 w1 ⟨rfl, rfl⟩) | (go_at_call 38; refine hn'.mono ?_; rintro e2 w2 ⟨rfl, g2, o2⟩; clear hop' hn'; have hop' := AO.out w2 g2))
            have d4 : w2.cell? ⟨R, 4, none⟩ = some (.int .i64 (p1 : Int)) := by rw [← A3.out.2.2.1]; exact g2.c4
            go_wp2_with (go_at_call 25; refine hop'.mono ?_; rintro e1 w1 ⟨rfl, rfl⟩)
            have a3 := A3.out
            go_roundg k
            case measure => omega
            case rel => exact ⟨rfl, r1, m + 1, g2, a3.2.1.trans o2, Or.inl ⟨a3.2.2.2.2.1, a3.1, by omega, by omega, by omega, by omega⟩⟩
      · rw [if_pos h1] at hgz
        have AO : Aside (∀ w1, Gm w1 base R a L C r1 vE → Calls Tryz.prog 25 #[.pointer (some ⟨R, 0, none⟩)] w1 fun e w' => e = .returned (.bool false) ∧ w1 = w') := fun w1 k => by have := hop1 w1 k; rwa [decide_eq_false h1] at this
        have A3 : Aside (res = (r1, []) ∧ Only R w wr ∧ gk = k + 1 ∧ r1.why ≠ 0) := ⟨hgz.symm, ho1, hk, h1⟩
        clear hT hg ho1 ax hop h0 hgz hpos hmg hm hpL hn hxv hr1 hop1 h1p h1 hk
        go_upto_region 6 with (first | (go_at_call 25; refine hop'.mono ?_; rintro e1 w1 ⟨rfl, rfl⟩) | (go_at_call 38; refine hn'.mono ?_; rintro e2 w2 ⟨rfl, g2, o2⟩; clear hop' hn'; have hop' := AO.out w2 g2))
        go_wp2_with (go_at_call 25; refine hop'.mono ?_; rintro e1 w1 ⟨rfl, rfl⟩)
        have a3 := A3.out
        go_roundg k
        case measure => omega
        case rel => exact ⟨rfl, r1, m, g2, a3.2.1.trans o2, Or.inr ⟨a3.2.2.2, a3.1⟩⟩
    · rw [decide_eq_false h0] at hop'
      have A3 : Aside (res = (r', []) ∧ Gm wr base R a L C r' vE ∧ Only R w wr) := ⟨hres, hg, ho1⟩
      clear hT hg ho1 ax hop h0 hres
      go_wp2_with (go_at_call 25; refine hop'.mono ?_; rintro e1 w1 ⟨rfl, rfl⟩)
      first | go_ret | go_ret2
      have a3 := A3.out
      have := a3.1
      subst this
      exact ⟨rfl, a3.2.1, a3.2.2⟩
end
end Go.Proofs.YtogednaamndpgaaGreatDoor

/-
  What the document's tell comes to.
-/
namespace Go.Proofs.YtogednaamndpgaaGreatDoor
open Go.RowKit
set_option linter.unusedVariables false
def gk1 (g : Nat) : Int := if g = 256 then 1 else if g = 257 then 3 else 2
def gk2 (g : Nat) : Int := if g < 256 then (g : Int) else 0
def gk3 (g : Nat) : Int := if g = 256 then 2 else 0
/-- An event's cells. -/
def gevv (g : Nat) (nm : List Nat) : Array Value := #[.int .i64 (gk1 g), .int .u8 (gk2 g), .int .i64 (gk3 g), .int .i64 0, .string (st nm)]
theorem gcs_app (M N : List Gev) : gcs (M ++ N) = gcs M ++ gcs N := by simp [gcs]
theorem gcs_length (T : List Gev) : (gcs T).length = T.length * 6 := by
  induction T with
  | nil => rfl
  | cons p M ih => simp only [gcs, List.flatMap_cons, List.length_append, List.length_cons] at *; rw [ih]; simp [gcel]; omega
theorem gcs_one : ∀ (T : List Gev), ∀ u ∈ gcs T, u.oneCell' = true := by
  intro T u hu
  obtain ⟨p, _, hp⟩ := List.mem_flatMap.1 hu
  simp [gcel] at hp
  rcases hp with rfl | rfl | rfl | rfl | rfl | rfl <;> rfl
theorem ginfo59 : (Tryz.prog.info? 59).map (fun i => (i.zero, i.size, i.bytes)) = some (some (.agg #[.int .i64 0, .int .i64 0, .int .u8 0, .int .i64 0, .int .i64 0, .string ⟨#[]⟩]), 6, 56) := by kernel_rfl
/-- What may turn while it is worked on: R, rows of events from lo on; blocks may come. -/
structure Fr (lo R : Nat) (w w' : World) : Prop where
  bel : Below lo w w'
  size : w.heap.size ≤ w'.heap.size
  kp : ∀ k, k < w.heap.size → k ≠ R → (∀ cs, w.heap[k]? ≠ some (.cells cs 59 (0, 0))) → w'.heap[k]? = w.heap[k]?
theorem Fr.refl (lo R : Nat) (w : World) : Fr lo R w w := ⟨Below.refl _ _, Nat.le_refl _, fun _ _ _ _ => rfl⟩
theorem Fr.trans {lo R : Nat} {w u v : World} (h : Fr lo R w u) (k : Fr lo R u v) : Fr lo R w v := ⟨h.bel.trans k.bel, Nat.le_trans h.size k.size, fun i h1 h2 h3 => by
  have e := h.kp i h1 h2 h3
  exact (k.kp i (Nat.lt_of_lt_of_le h1 h.size) h2 (by rw [e]; exact h3)).trans e⟩
theorem Fr.of_only {lo R : Nat} {w u : World} (h : Only R w u) (hR : lo ≤ R) : Fr lo R w u := ⟨h.below hR, Nat.le_of_eq h.size.symm, fun k _ hk _ => h.block k hk⟩
theorem Fr.of_got {lo R n : Nat} {w u : World} {v v' : Value} {xs : List Value} (h : Got lo 59 6 w u v v' n xs) : Fr lo R w u := ⟨h.bel, h.size, fun k hk _ hn => by
  rcases h.kp k hk with e | ⟨_, cs, e⟩
  · exact e
  · exact absurd e (hn cs)⟩
theorem Fr.of_below {lo R : Nat} {w u : World} (h : Below w.heap.size w u) (hlo : lo ≤ w.heap.size) : Fr lo R w u := ⟨h.mono hlo, h.size, fun k hk _ _ => h.block k hk⟩
theorem Fr.drewN {lo R : Nat} (w : World) (n : Nat) : Fr lo R w (w.drewN n) := ⟨Below.drewN2 (Below.refl _ w) n, Nat.le_refl _, fun k _ _ _ => rfl⟩
section
variable {w : World} {lo R L C : Nat} {aB : Option Addr} {r : Gr} {v : Value}
theorem Gm.ow (h : Gm w lo R aB L C r v) : Ow w lo 59 6 v r.ev.length (gcs r.ev) := ⟨h.own, h.le⟩
theorem Gm.c0 (h : Gm w lo R aB L C r v) : w.cell? ⟨R, 0, none⟩ = some v := (h.cells.cell 0).trans rfl
theorem Gm.below {u : World} (h : Gm w lo R aB L C r v) (k : Below w.heap.size w u) : Gm u lo R aB L C r v := ⟨h.cells.below k h.cells.lt, (h.ow.below k (Nat.le_refl _)).own, (h.ow.below k (Nat.le_refl _)).le⟩
set_option maxHeartbeats 2000000 in
theorem gtell_c (t g : Nat) (nm : List Nat) (hlo : lo ≤ R) (h : Gm w lo R aB L C r v) (hT : r.ev.length < 1000000000000) : Calls Tryz.prog 36 #[.pointer (some ⟨R, 0, none⟩), .int .i64 (t : Int), .agg (gevv g nm)] w fun e w' => e = .returned (.tuple #[]) ∧ (∃ v', Gm w' lo R aB L C { r with ev := r.ev ++ [(t, g, nm)] } v') ∧ Fr lo R w w' := by
  obtain ⟨a, c, hv, hc, _, _⟩ := h.ow.shape
  obtain ⟨N, hN⟩ : ∃ N, r.ev.length = N := ⟨_, rfl⟩
  obtain ⟨H, hH⟩ : ∃ H, w.heap.size = H := ⟨_, rfl⟩
  obtain ⟨ek, hek⟩ : ∃ z : Int, gk1 g = z := ⟨_, rfl⟩
  obtain ⟨eb, heb⟩ : ∃ z : Int, gk2 g = z := ⟨_, rfl⟩
  obtain ⟨en', hen⟩ : ∃ z : Int, gk3 g = z := ⟨_, rfl⟩
  obtain ⟨S, hSS⟩ : ∃ S, st nm = S := ⟨_, rfl⟩
  have hevv : gevv g nm = #[.int .i64 ek, .int .u8 eb, .int .i64 en', .int .i64 0, .string S] := by rw [← hek, ← heb, ← hen, ← hSS]; rfl
  have htc : gcs [(t, g, nm)] = [.int .i64 (t : Int), .int .i64 ek, .int .u8 eb, .int .i64 en', .int .i64 0, .string S] := by rw [← hek, ← heb, ← hen, ← hSS]; rfl
  rw [hevv]
  rw [hN] at hv hT
  obtain ⟨w1, hw1⟩ : ∃ w1, w.alloc (.cells #[.int .i64 ek, .int .u8 eb, .int .i64 en', .int .i64 0, .string S] 43) = w1 := ⟨_, rfl⟩
  have b1 : Below w.heap.size w w1 := by rw [← hw1]; exact (Below.refl _ w).alloc (Nat.le_refl _) _
  have r1 := h.below b1
  have hz1 : w1.heap.size = H + 1 := by rw [← hw1, ← hH]; simp
  have k50 : Cells w1 H #[.int .i64 ek, .int .u8 eb, .int .i64 en', .int .i64 0, .string S] 43 := by rw [← hw1, ← hH]; exact Cells.new w _ 43
  obtain ⟨w2, hw2⟩ : ∃ w2, (w1.alloc (.cells #[.int .i64 (t : Int), .int .i64 ek, .int .u8 eb, .int .i64 en', .int .i64 0, .string S] 59)).drew = w2 := ⟨_, rfl⟩
  have b2 : Below w1.heap.size w1 w2 := by rw [← hw2]; exact ((Below.refl _ w1).alloc (Nat.le_refl _) _).drew
  have r2 := r1.below b2
  have k69 : Cells w2 (H + 1) #[.int .i64 (t : Int), .int .i64 ek, .int .u8 eb, .int .i64 en', .int .i64 0, .string S] 59 := by rw [← hw2, ← hz1]; exact (Cells.new w1 _ 59).drew
  have hnews : ∀ (j : Nat) x, (gcs [(t, g, nm)])[j]? = some x → w2.cell? ⟨H + 1, 0 + j, none⟩ = some x := fun j x hj => by
    rw [Nat.zero_add, k69.cell, ← hj, htc]; simp
  have d0 := k50.cell 0
  have d1 := k50.cell 1
  have d2 := k50.cell 2
  have d3 := k50.cell 3
  have d4 := k50.cell 4
  have c0 := r1.c0
  rw [hv] at c0
  have k50' := k50.alloc (.cells #[.int .i64 (t : Int), .int .i64 ek, .int .u8 eb, .int .i64 en', .int .i64 0, .string S] 59)
  have a0 : (w1.alloc (.cells #[.int .i64 (t : Int), .int .i64 ek, .int .u8 eb, .int .i64 en', .int .i64 0, .string S] 59)).cell? ⟨R, 0, none⟩ = some (.slice a N c) := by rw [(r1.cells.alloc _).cell, ← hv]; rfl
  obtain ⟨i0, hi, hz0, hz1', hz2⟩ := ginfo_parts ginfo59
  have how := r2.ow
  rw [hN, hv] at how
  have hk2 : ∀ (v2 : Value) (w3 : World) (n2 : Nat) (xs : List Value), Got lo 59 6 w2 w3 (.slice a N c) v2 n2 xs → w3.cell? ⟨R, 0, none⟩ = some (.slice a N c) ∧ w3.frozen? ⟨R, 0, none⟩ = false := fun v2 w3 n2 xs hg => by
    have k2 := r2.cells.got hg (by decide)
    refine ⟨?_, k2.frozen 0⟩
    rw [k2.cell, ← hv]; rfl
  have A : Aside (Gm w2 lo R aB L C r v ∧ Fr lo R w w2 ∧ lo ≤ R ∧ (w1.alloc (.cells #[.int .i64 (t : Int), .int .i64 ek, .int .u8 eb, .int .i64 en', .int .i64 0, .string S] 59)).drew = w2 ∧ r.ev.length = N) := ⟨r2, (Fr.of_below b1 h.le).trans (Fr.of_below b2 r1.le), hlo, hw2, hN⟩
  have AN : Aside (N + 1 ≤ maxLen ∧ (N + 1) * 56 ≤ 140737488355328) := ⟨by unfold maxLen; omega, by omega⟩
  rw [← hw2] at how hnews hk2
  have h1c := gcs_one [(t, g, nm)]
  clear h b1 r1 k50 b2 r2 k69 hw2 hN hc hT hlo hek heb hen hevv htc k50' hSS
  go_enter Tryz.func36, Tryz.ntmps36
  go_upto_region 1 with fail
  go_region_law (refine step_ow Tryz.prog _ rfl (.tmp 10) (.tmp 14) 27 rfl 59 i0 _ 6 56 Tryz.underlying27 hi hz0 hz1' hz2 rfl (by decide) lo (.slice a N c) N _ (by go_simp) how (H + 1) 0 1 _ rfl (by go_simp) hnews h1c AN.out.1 AN.out.2 ?_; intro gg cap w3 hgot; have e4 := (hk2 _ _ _ _ hgot).1; have f4 := (hk2 _ _ _ _ hgot).2)
  all_goals
    go_wp2_with fail
    first | go_end0 | (refine bodyPost_ret (results_none rfl _ _ _) rfl ?_)
    have ae := A.out
    rw [ae.2.2.2.1] at hgot
    have k2 := ae.1.cells.got hgot (by decide)
    refine ⟨rfl, ⟨.slice (some ⟨gg, 0, none⟩) (N + 1) cap, ?_, ?_, ?_⟩, (ae.2.1.trans (Fr.of_got hgot)).trans (Fr.of_only ((Only.refl R w3).setCell 0 _) ae.2.2.1)⟩
    · have := k2.set 0 (.slice (some ⟨gg, 0, none⟩) (N + 1) cap)
      simpa using this
    · have := hgot.ow.set (i := 0) (x := .slice (some ⟨gg, 0, none⟩) (N + 1) cap) k2 (by decide)
      show World.ownsRow _ lo 59 6 _ (r.ev ++ [(t, g, nm)]).length (gcs (r.ev ++ [(t, g, nm)]))
      rw [List.length_append, ae.2.2.2.2, gcs_app]
      exact this.own
    · have := hgot.ow.le
      simpa [World.setCell] using this
end
end Go.Proofs.YtogednaamndpgaaGreatDoor

/-
  What oneBit, product and the function that squares come to: a move, a product of registers, the power that was told last and its square laid by.
  Conditions: registers are numbers of 32 bits; the cell that holds the power can be written.
-/
namespace Go.Proofs.YtogednaamndpgaaGreatDoor
open Go.RowKit
set_option linter.unusedVariables false
theorem x32 (a b : Nat) (ha : a < 4294967296) (hb : b < 4294967296) : bits .xor .u32 (a : Int) (b : Int) = ((a ^^^ b : Nat) : Int) := u32_xor_nat a b ha hb
theorem xpoly (a : Nat) (ha : a < 4294967296) : bits .xor .u32 (a : Int) 3988292384 = ((a ^^^ 3988292384 : Nat) : Int) := by
  rw [show (3988292384 : Int) = ((3988292384 : Nat) : Int) from rfl, x32 a _ ha (by decide)]

end Go.Proofs.YtogednaamndpgaaGreatDoor

/-
  What Step and Sum come to, where the table holds its 16 numbers: the sum with one byte more, the sum of a list of bytes.
  Conditions: the sum is a number of 32 bits, the bytes lie side by side.
-/
namespace Go.Proofs.YtogednaamndpgaaGreatDoor
open Go.RowKit
set_option linter.unusedVariables false

/-- The table holds its 16 numbers. -/
def Ctab (w : World) : Prop := ∀ i, i < 16 → w.cell? ⟨0, i, none⟩ = some (.int .u32 (tb.getD i 0 : Nat))
theorem Ctab.lt {w : World} (h : Ctab w) : 0 < w.heap.size := World.block_lt_of_cell? w ⟨0, 0, none⟩ (h 0 (by decide))
theorem Ctab.below {w u : World} {B : Nat} (h : Ctab w) (k : Below B w u) (hB : 0 < B) : Ctab u := fun i hi => (k.cell (p := ⟨0, i, none⟩) hB).trans (h i hi)
theorem Ctab.drew {w : World} (h : Ctab w) : Ctab w.drew := h
theorem tb_lt : ∀ i : _root_.Fin 16, tb.getD i.val 0 < 4294967296 := by decide +kernel
theorem and15 (x : Nat) (hx : x < 256) : bits .and .u8 (x : Int) 15 = ((x % 16 : Nat) : Int) := by
  rw [show (15 : Int) = ((15 : Nat) : Int) from rfl, u8_and_nat x 15 hx (by decide), show (15 : Nat) = 2 ^ 4 - 1 from rfl, Nat.and_two_pow_sub_one_eq_mod]
set_option maxHeartbeats 1000000 in
theorem four_c (x : Nat) (hx : x < 4294967296) (w : World) (hT : Ctab w) :
    Calls Tryz.prog 75 #[.int .u32 x] w fun e w' => e = .returned (.int .u32 (mvs 4 x : Nat)) ∧ w = w' := by
  have h1 := and15 (x % 256) (Nat.mod_lt _ (by decide))
  have hc := hT (x % 16) (Nat.mod_lt _ (by decide))
  have hl := tb_lt ⟨x % 16, Nat.mod_lt _ (by decide)⟩
  have h4 := four_eq x
  dsimp only at hl
  obtain ⟨t, ht⟩ : ∃ t, tb.getD (x % 16) 0 = t := ⟨_, rfl⟩
  rw [ht] at hc hl h4
  have hx2 := x32 (x / 16) t (by omega) hl
  rw [show x % 256 % 16 = x % 16 by omega] at h1
  have h16 : x % 16 < 16 := Nat.mod_lt _ (by decide)
  obtain ⟨y, hy⟩ : ∃ y, x % 16 = y := ⟨_, rfl⟩
  rw [hy] at hc h1 h16
  go_enter Tryz.func75, Tryz.ntmps75
  go_wp2_with fail
  go_ret
  exact ⟨by rw [← h4, ← hx2]; push_cast; rfl, rfl⟩
/-- All bits turned. -/
theorem not32 (x : Nat) (hx : x < 4294967296) : bits .xor .u32 IntKind.u32.max (x : Int) = ((x ^^^ 4294967295 : Nat) : Int) := by
  rw [show IntKind.u32.max = ((4294967295 : Nat) : Int) from rfl, x32 _ x (by decide) hx, Nat.xor_comm]
set_option maxHeartbeats 1000000 in
theorem step_c (s b : Nat) (hs : s < 4294967296) (hb : b < 256) (w : World) (hT : Ctab w) :
    Calls Tryz.prog 44 #[.int .u32 s, .int .u8 b] w fun e w' => e = .returned (.int .u32 (stp s b : Nat)) ∧ w = w' := by
  have hsg : IntKind.u32.signed = false := rfl
  have h1 := not32 s hs
  have e : stp s b = mvs 4 (mvs 4 (s ^^^ 4294967295 ^^^ b)) ^^^ 4294967295 := by rw [← mvs_add]; rfl
  rw [e]
  clear e
  obtain ⟨n, hn⟩ : ∃ n, s ^^^ 4294967295 = n := ⟨_, rfl⟩
  have hnl : n < 4294967296 := by rw [← hn]; exact xor_lt32 hs (by decide)
  rw [hn] at h1 ⊢
  have h2 := x32 n b hnl (by omega)
  obtain ⟨x, hx⟩ : ∃ x, n ^^^ b = x := ⟨_, rfl⟩
  have hxl : x < 4294967296 := by rw [← hx]; exact xor_lt32 hnl (by omega)
  rw [hx] at h2 ⊢
  clear hn hx
  have hyl := mvs_lt 4 hxl
  have hzl := mvs_lt 4 hyl
  have h3 := not32 _ hzl
  go_enter Tryz.func44, Tryz.ntmps44
  go_wp2_with fail
  refine (four_c x hxl w hT).mono ?_
  rintro e w' ⟨rfl, rfl⟩
  go_wp2_with fail
  refine (four_c (mvs 4 x) hyl w hT).mono ?_
  rintro e w' ⟨rfl, rfl⟩
  go_wp2_with fail
  go_ret
  exact ⟨by rw [← h3]; rfl, rfl⟩
theorem moved_c (x : Nat) (hx : x < 4294967296) (w : World) :
    Calls Tryz.prog 78 #[.int .u32 x] w fun e w' => e = .returned (.int .u32 (mv x : Nat)) ∧ w = w' := by
  have h2 := xpoly (x / 2) (by omega)
  go_enter Tryz.func78, Tryz.ntmps78
  rcases Nat.mod_two_eq_zero_or_one x with hm | hm
  · have e : mv x = x / 2 := by unfold mv; rw [if_neg (by omega)]
    have h1 : (x : Int) % 2 = 0 := by omega
    go_wp2
    all_goals go_ret
    all_goals exact ⟨by rw [e]; go_num, rfl⟩
  · have e : mv x = x / 2 ^^^ 3988292384 := by unfold mv; rw [if_pos hm]
    have h1 : (x : Int) % 2 = 1 := by omega
    go_wp2
    all_goals go_ret
    all_goals exact ⟨by rw [e, ← h2]; go_num, rfl⟩
set_option maxHeartbeats 1000000 in
theorem rstep_c (s b : Nat) (hs : s < 4294967296) (hb : b < 256) (w : World) :
    Calls Tryz.prog 49 #[.int .u32 s, .int .u8 b] w fun e w' => e = .returned (.int .u32 (stp s b : Nat)) ∧ w = w' := by
  have hsg : IntKind.u32.signed = false := rfl
  have h1 := not32 s hs
  have e : stp s b = mvs 8 (s ^^^ 4294967295 ^^^ b) ^^^ 4294967295 := rfl
  rw [e]
  clear e
  obtain ⟨n, hn⟩ : ∃ n, s ^^^ 4294967295 = n := ⟨_, rfl⟩
  have hnl : n < 4294967296 := by rw [← hn]; exact xor_lt32 hs (by decide)
  rw [hn] at h1 ⊢
  have h2 := x32 n b hnl (by omega)
  obtain ⟨x, hx⟩ : ∃ x, n ^^^ b = x := ⟨_, rfl⟩
  have hxl : x < 4294967296 := by rw [← hx]; exact xor_lt32 hnl (by omega)
  rw [hx] at h2 ⊢
  clear hn hx
  go_enter Tryz.func49, Tryz.ntmps49
  go_wp2_with fail
  go_loopg [5, 6] 8 (fun g sx si wr => ∃ i : Nat, i + g = 8 ∧ si = .int .i64 i ∧ sx = .int .u32 (mvs i x : Nat) ∧ w = wr)
  case atStart => exact ⟨0, rfl, rfl, rfl, rfl⟩
  case round =>
    obtain ⟨i, hi, rfl, rfl, rfl⟩ := hrel
    have hml := mvs_lt i hxl
    by_cases hl : i < 8
    · go_wp2_with (go_at_call 78; refine (moved_c (mvs i x) hml _).mono ?_; rintro e3 w3 ⟨rfl, rfl⟩)
      go_roundg (7 - i)
      case measure => omega
      case rel => exact ⟨i + 1, by omega, by go_num, by rw [mv_mvs]; rfl, rfl⟩
    · have hi2 : i = 8 := by omega
      rw [hi2] at hml ⊢
      have h3 := not32 _ hml
      go_wp2_with fail
      go_ret
      exact ⟨by rw [← h3]; rfl, rfl⟩
theorem Lies.drew {w : World} {a : Option Addr} {l : List Nat} (h : Lies w a l) : Lies w.drew a l := h
theorem Lies.drewN {w : World} {a : Option Addr} {l : List Nat} (h : Lies w a l) (n : Nat) : Lies (w.drewN n) a l := h
theorem sm_take (l : List Nat) (k x : Nat) (h : l[k]? = some x) : sm 0 (l.take (k + 1)) = stp (sm 0 (l.take k)) x := by
  obtain ⟨hk, he⟩ := List.getElem?_eq_some_iff.1 h
  rw [List.take_succ_eq_append_getElem hk, sm_append, he]; rfl
theorem Oct.sm_lt {l : List Nat} (h : Oct l) : sm 0 l < 4294967296 := YtogednaamndpgaaGreatDoor.sm_lt l (by decide) h
set_option maxHeartbeats 1000000 in
theorem rsum_c (a : Option Addr) (l : List Nat) (cap : Nat) (w : World) (hb : Oct l) (hl : l.length < 9223372036854775808) (h : Lies w a l) :
    Calls Tryz.prog 33 #[.slice a l.length cap] w fun e w' => e = .returned (.int .u32 (sm 0 l : Nat)) ∧ w = w' := by
  obtain ⟨L, hL⟩ : ∃ L, l.length = L := ⟨_, rfl⟩
  have AL : Aside (l.length = L ∧ L < 9223372036854775808) := ⟨hL, by omega⟩
  rw [hL]
  clear hL hl
  go_enter Tryz.func33, Tryz.ntmps33
  go_wp2_with fail
  go_loopg [3, 4] L (fun g sx si wr => ∃ k : Nat, k + g = L ∧ si = .int .i64 k ∧ sx = .int .u32 (sm 0 (l.take k) : Nat) ∧ w = wr)
  case atStart => exact ⟨0, by omega, rfl, by rw [List.take_zero]; rfl, rfl⟩
  case round =>
    obtain ⟨k, hk, rfl, rfl, rfl⟩ := hrel
    have hsl := (hb.take k).sm_lt
    by_cases hlt : k < L
    · have hki : (k : Int) < (L : Int) := by omega
      have hkl : k < l.length := by rw [AL.out.1]; exact hlt
      have hx := List.getElem?_eq_getElem hkl
      have hx2 := hb _ (List.getElem_mem hkl)
      obtain ⟨x, hxx⟩ : ∃ x, l[k] = x := ⟨_, rfl⟩
      rw [hxx] at hx hx2
      have AX : Aside (sm 0 (l.take (k + 1)) = stp (sm 0 (l.take k)) x) := sm_take l k x hx
      have AK : Aside (k + gk = L) := hk
      have hkb : (k : Int) + 1 < 9223372036854775808 := by have := AL.out; omega
      rcases h with rfl | ⟨b, o, rfl, hc⟩
      · simp at hkl
      have hcell := hc k x hx
      clear hc hx hxx hkl hk
      obtain ⟨s, hs⟩ : ∃ s, sm 0 (l.take k) = s := ⟨_, rfl⟩
      rw [hs] at hsl AX ⊢
      clear hs
      go_wp2_with (go_at_call 49; refine (rstep_c s x hsl hx2 _).mono ?_; rintro e3 w3 ⟨rfl, rfl⟩)
      have hk := AK.out
      go_roundg (gk - 1)
      case measure => omega
      case rel => exact ⟨k + 1, by omega, by go_num, by rw [AX.out], rfl⟩
    · have hki : ¬ (k : Int) < (L : Int) := by omega
      have hk2 : l.take k = l := List.take_of_length_le (by have := AL.out; omega)
      rw [hk2]
      clear hk2
      go_wp2_with fail
      go_ret
      exact ⟨rfl, rfl⟩
end Go.Proofs.YtogednaamndpgaaGreatDoor

/-
  What the document says of a member's header. No walk.
-/
namespace Go.Proofs.YtogednaamndpgaaGreatDoor
open Go.RowKit
set_option linter.unusedVariables false
def hflag (fl : Nat) (r : Gr) : Gr := if r.why = 0 ∧ 32 ≤ fl then gstop 42 (r.pos - 1) r else r
def hoth (b : List Nat) (r : Gr) : Gr := if r.why = 0 then gnum b 6 r else r
def hxb (n : Nat) (r : Gr) : Gr := if r.why = 0 ∧ 1024 < n then gstop 46 (r.pos - 1) r else r
def hxt (b : List Nat) (n : Nat) (r : Gr) : Gr := if r.why = 0 then gnum b n r else r
def hext (b : List Nat) (fl : Nat) (r : Gr) : Gr := if r.why = 0 ∧ fl / 4 % 2 = 1 then hxt b (gval b 2 r) (hxb (gval b 2 r) (gnum b 2 r)) else r
def hnam (b : List Nat) (fl : Nat) (r : Gr) : Gr × List Nat := if r.why = 0 ∧ fl / 8 % 2 = 1 then gtext b r else (r, [])
def hcom (b : List Nat) (fl : Nat) (r : Gr) : Gr := if r.why = 0 ∧ fl / 16 % 2 = 1 then (gtext b r).1 else r
def hsb (x s : Nat) (r : Gr) : Gr := if r.why = 0 ∧ x ≠ s % 65536 then gstop 43 (r.pos - 1) r else r
def hsum (b : List Nat) (fl f : Nat) (r : Gr) : Gr := if r.why = 0 ∧ fl / 2 % 2 = 1 then hsb (gval b 2 r) (sm 0 ((b.take r.pos).drop f)) (gnum b 2 r) else r
def hmag (b : List Nat) (r : Gr) : Gr := gis b 8 41 (gis b 139 40 (gis b 31 40 r))
def hres (b : List Nat) (fl f : Nat) (r : Gr) : Gr × List Nat := (hsum b fl f (hcom b fl (hnam b fl (hext b fl (hoth b (hflag fl r)))).1), (hnam b fl (hext b fl (hoth b (hflag fl r)))).2)
def ghead (b : List Nat) (r : Gr) : Gr × List Nat := if (hmag b r).why = 0 then hres b (gval b 1 (hmag b r)) r.pos (gnum b 1 (hmag b r)) else (hmag b r, [])
section
variable {b : List Nat} {r : Gr}
theorem gis_pos (v y : Nat) (h : r.pos ≤ b.length) : (gis b v y r).pos ≤ b.length := by
  unfold gis
  split
  · split
    · exact gnum_pos b 1 r h
    · exact gnum_pos b 1 r h
  · exact h
theorem gz_pos (f : Nat) : ∀ (k m : Nat) (r : Gr), r.pos ≤ b.length → (gz b k f m r).1.pos ≤ b.length
  | 0, m, r, h => h
  | k + 1, m, r, h => by
    rw [gz_succ]
    have := gnum_pos b 1 r h
    split
    · exact this
    · split
      · exact this
      · split
        · exact this
        · exact gz_pos f k (m + 1) _ this
theorem gtext_pos (h : r.pos ≤ b.length) : (gtext b r).1.pos ≤ b.length := by
  unfold gtext
  split
  · exact gz_pos _ _ _ _ h
  · exact h
theorem hflag_pos (fl : Nat) (h : r.pos ≤ b.length) : (hflag fl r).pos ≤ b.length := by unfold hflag; split <;> exact h
theorem hoth_pos (h : r.pos ≤ b.length) : (hoth b r).pos ≤ b.length := by
  unfold hoth; split
  · exact gnum_pos _ _ _ h
  · exact h
theorem hxb_pos (n : Nat) (h : r.pos ≤ b.length) : (hxb n r).pos ≤ b.length := by unfold hxb; split <;> exact h
theorem hxt_pos (n : Nat) (h : r.pos ≤ b.length) : (hxt b n r).pos ≤ b.length := by
  unfold hxt; split
  · exact gnum_pos _ _ _ h
  · exact h
theorem hext_pos (fl : Nat) (h : r.pos ≤ b.length) : (hext b fl r).pos ≤ b.length := by
  unfold hext; split
  · exact hxt_pos _ (hxb_pos _ (gnum_pos _ _ _ h))
  · exact h
theorem hnam_pos (fl : Nat) (h : r.pos ≤ b.length) : (hnam b fl r).1.pos ≤ b.length := by
  unfold hnam; split
  · exact gtext_pos h
  · exact h
theorem hcom_pos (fl : Nat) (h : r.pos ≤ b.length) : (hcom b fl r).pos ≤ b.length := by
  unfold hcom; split
  · exact gtext_pos h
  · exact h
end
theorem gnum_mono (b : List Nat) (n : Nat) (r : Gr) : r.pos ≤ (gnum b n r).pos := by
  unfold gnum; split
  · exact Nat.le_refl _
  · show r.pos ≤ r.pos + n; omega
theorem gis_mono (b : List Nat) (v y : Nat) (r : Gr) : r.pos ≤ (gis b v y r).pos := by
  unfold gis; split
  · split
    · exact gnum_mono b 1 r
    · exact gnum_mono b 1 r
  · exact Nat.le_refl _
theorem gz_mono (b : List Nat) (f : Nat) : ∀ (k m : Nat) (r : Gr), r.pos ≤ (gz b k f m r).1.pos
  | 0, m, r => Nat.le_refl _
  | k + 1, m, r => by
    rw [gz_succ]
    have h := gnum_mono b 1 r
    split
    · exact h
    · split
      · exact h
      · split
        · exact h
        · exact Nat.le_trans h (gz_mono b f k (m + 1) _)
theorem gtext_mono (b : List Nat) (r : Gr) : r.pos ≤ (gtext b r).1.pos := by
  unfold gtext; split
  · exact gz_mono _ _ _ _ _
  · exact Nat.le_refl _
theorem ghead_mono {b : List Nat} {r r4 r5 r6 r7 r8 r9 : Gr} {fl f : Nat} {nm : List Nat} (hf : r.pos = f) (h4 : gnum b 1 (hmag b r) = r4) (h5 : hflag fl r4 = r5) (h6 : hoth b r5 = r6) (h7 : hext b fl r6 = r7) (h8 : hnam b fl r7 = (r8, nm)) (h9 : hcom b fl r8 = r9) (h0 : r9.why = 0) : f ≤ r9.pos := by
  have a1 : r.pos ≤ (hmag b r).pos := Nat.le_trans (Nat.le_trans (gis_mono b 31 40 r) (gis_mono b 139 40 _)) (gis_mono b 8 41 _)
  have a2 : (hmag b r).pos ≤ r4.pos := by rw [← h4]; exact gnum_mono _ _ _
  have a3 : r4.pos ≤ r5.pos := by rw [← h5]; unfold hflag; split <;> exact Nat.le_refl _
  have a4 : r5.pos ≤ r6.pos := by
    rw [← h6]; unfold hoth; split
    · exact gnum_mono _ _ _
    · exact Nat.le_refl _
  have a5 : r6.pos ≤ r7.pos := by
    rw [← h7]; unfold hext; split
    · have b1 := gnum_mono b 2 r6
      have b2 : (gnum b 2 r6).pos ≤ (hxb (gval b 2 r6) (gnum b 2 r6)).pos := by unfold hxb; split <;> exact Nat.le_refl _
      refine Nat.le_trans b1 (Nat.le_trans b2 ?_)
      unfold hxt; split
      · exact gnum_mono _ _ _
      · exact Nat.le_refl _
    · exact Nat.le_refl _
  have a6 : r7.pos ≤ r8.pos := by
    have : (hnam b fl r7).1 = r8 := by rw [h8]
    rw [← this]; unfold hnam; split
    · exact gtext_mono _ _
    · exact Nat.le_refl _
  have a7 : r8.pos ≤ r9.pos := by
    rw [← h9]; unfold hcom; split
    · exact gtext_mono _ _
    · exact Nat.le_refl _
  omega
theorem gval_two {b : List Nat} {r : Gr} (ho : Oct b) : gval b 2 r < 65536 := by
  unfold gval
  split
  · decide
  · have := le_lt ((b.drop r.pos).take 2) (fun x hx => ho x (List.mem_of_mem_drop (List.mem_of_mem_take hx)))
    have h2 : ((b.drop r.pos).take 2).length ≤ 2 := by rw [List.length_take]; omega
    have h3 : 256 ^ ((b.drop r.pos).take 2).length ≤ 256 ^ 2 := Nat.pow_le_pow_right (by decide) h2
    omega
theorem gnum_two {b : List Nat} {r : Gr} (h : r.why = 0) (h0 : (gnum b 2 r).why = 0) : 1 ≤ (gnum b 2 r).pos := by
  unfold gnum at h0 ⊢
  split
  · rename_i hc
    rw [if_pos hc] at h0
    simp [gstop] at h0
  · show 1 ≤ r.pos + 2; omega
/-- What the run's small calls come to while the run alone is worked on. -/
structure Ge (w : World) (base R : Nat) (a : Option Addr) (L C : Nat) (vE : Value) (b : List Nat) : Prop where
  oct : Oct b
  len : b.length = L
  big : L ≤ 100000000000
  cap : L ≤ C
  nil : a = none → L = 0 ∧ C = 0
  apart : ∀ g o, a = some ⟨g, o, none⟩ → b ≠ [] → g ≠ R
  lies : Lies w a b
section
variable {w u : World} {base R L C : Nat} {a : Option Addr} {vE : Value} {b : List Nat} {r : Gr}
theorem Ge.at (h : Ge w base R a L C vE b) (o : Only R w u) : Lies u a b := by
  rcases h.lies with e | ⟨g, of, e, hc⟩
  · exact Or.inl e
  · by_cases hb : b = []
    · exact Or.inl hb
    · exact Or.inr ⟨g, of, e, fun i x hi => (o.cell (p := ⟨g, of + i, none⟩) (h.apart g of e hb)).trans (hc i x hi)⟩
theorem Ge.open_ (h : Ge w base R a L C vE b) (g : Gm u base R a L C r vE) : Calls Tryz.prog 25 #[.pointer (some ⟨R, 0, none⟩)] u fun e w' => e = .returned (.bool (decide (r.why = 0))) ∧ u = w' := (gopen_c u g).mono fun e w' k => ⟨k.1, k.2.symm⟩
theorem Ge.open_yes (h : Ge w base R a L C vE b) (g : Gm u base R a L C r vE) (h0 : r.why = 0) : Calls Tryz.prog 25 #[.pointer (some ⟨R, 0, none⟩)] u fun e w' => e = .returned (.bool true) ∧ u = w' := by have := h.open_ g; rwa [decide_eq_true h0] at this
theorem Ge.open_no (h : Ge w base R a L C vE b) (g : Gm u base R a L C r vE) (h0 : ¬ r.why = 0) : Calls Tryz.prog 25 #[.pointer (some ⟨R, 0, none⟩)] u fun e w' => e = .returned (.bool false) ∧ u = w' := by have := h.open_ g; rwa [decide_eq_false h0] at this
theorem Ge.is_ (h : Ge w base R a L C vE b) (g : Gm u base R a L C r vE) (o : Only R w u) (hp : r.pos ≤ L) (v y : Nat) (hv : v < 1000) : Calls Tryz.prog 56 #[.pointer (some ⟨R, 0, none⟩), .int .i64 (v : Int), .int .i64 (y : Int)] u fun e w' => e = .returned (.tuple #[]) ∧ Gm w' base R a L C (gis b v y r) vE ∧ Only R w w' := (gis_c b v y hv h.oct h.len h.big hp u (h.at o) g).mono fun e w' k => ⟨k.1, k.2.1, o.trans k.2.2⟩
theorem Ge.stop (h : Ge w base R a L C vE b) (g : Gm u base R a L C r vE) (o : Only R w u) (y p : Nat) : Calls Tryz.prog 26 #[.pointer (some ⟨R, 0, none⟩), .int .i64 (y : Int), .int .i64 (p : Int)] u fun e w' => e = .returned (.tuple #[]) ∧ Gm w' base R a L C (gstop y p r) vE ∧ Only R w w' := (gstop_c y p u g).mono fun e w' k => ⟨k.1, k.2.1, o.trans k.2.2⟩
theorem Ge.num (h : Ge w base R a L C vE b) (g : Gm u base R a L C r vE) (o : Only R w u) (hp : r.pos ≤ L) (n : Nat) (hn : n ≤ 70000) : Calls Tryz.prog 38 #[.pointer (some ⟨R, 0, none⟩), .int .i64 (n : Int)] u fun e w' => ∃ v : Int, e = .returned (.int .i64 v) ∧ Aside (n ≤ 6 → v = (gval b n r : Int)) ∧ Gm w' base R a L C (gnum b n r) vE ∧ Only R w w' := (gnum_c b n hn h.oct h.len h.big hp u (h.at o) g).mono fun e w' k => by
  obtain ⟨v, k1, k2, k3, k4⟩ := k.ex
  exact ⟨v, k1, k2, k3, o.trans k4⟩
theorem Ge.text (h : Ge w base R a L C vE b) (g : Gm u base R a L C r vE) (o : Only R w u) (hp : r.pos ≤ L) : Calls Tryz.prog 57 #[.pointer (some ⟨R, 0, none⟩)] u fun e w' => e = .returned (.string (st (gtext b r).2)) ∧ Gm w' base R a L C (gtext b r).1 vE ∧ Only R w w' := (gtext_c b h.oct h.len h.big h.cap h.nil hp u h.apart (h.at o) g).mono fun e w' k => ⟨k.str, k.gm, o.trans k.only⟩
end
end Go.Proofs.YtogednaamndpgaaGreatDoor

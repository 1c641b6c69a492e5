/-
  Own texts of this seat, one behind the other: what each says stands ahead of it.
-/
import Derived.Test.YtpihipbeagpgpaaGreatDoorMj
import Derived.Test.YtpihipbeagpgpaaGreatDoorMr
import Derived.Deep.AppendLies
import Derived.Deep.RegionLaw
/-
 Lists of lists of bytes, of the call's own: the members as they are gathered.
-/
namespace Go.Proofs.YtpihipbeagpgpaaGreatDoor
open Go.RowKit
set_option linter.unusedVariables false
theorem ginfo22 : (Tryz.prog.info? 22).map (fun i => (i.zero, i.size, i.bytes)) = some (some (.slice none 0 0), 1, 24) := by kernel_rfl
structure Ll (w : World) (lo : Nat) (v : Value) (ls : List (List Nat)) : Prop where
 ex : ∃ vs : List Value, vs.length = ls.length ∧ Ow w lo 22 1 v ls.length vs ∧ (∀ (i : Nat) (a : Value) (l : List Nat), vs[i]? = some a → ls[i]? = some l → Ow w lo 5 1 a l.length (ob l)) ∧ ∀ (i : Nat) (a z : Value), vs[i]? = some a → i + 1 < vs.length → vs.getLast? = some z → ∀ g, a.ownBlock = some g → z.ownBlock ≠ some g
theorem Ll.nil {w : World} {lo : Nat} (h : lo ≤ w.heap.size) : Ll w lo (.slice none 0 0) [] := ⟨[], rfl, Ow.nil h, fun i a l h => by simp at h, fun i a z h => by simp at h⟩
theorem Ll.keep {w u : World} {lo : Nat} {v : Value} {ls : List (List Nat)} (h : Ll w lo v ls) (hs : w.heap.size ≤ u.heap.size) (k : ∀ g, lo ≤ g → g < w.heap.size → (∃ cs e fr, w.heap[g]? = some (.cells cs e fr) ∧ (e = 5 ∨ e = 22)) → u.heap[g]? = w.heap[g]?) : Ll u lo v ls := by
 obtain ⟨vs, h1, h2, h3, h4⟩ := h.ex
 exact ⟨vs, h1, h2.keep hs (fun g a b ⟨cs, fr, c⟩ => k g a b ⟨cs, 22, fr, c, Or.inr rfl⟩), fun i a l ha hl => (h3 i a l ha hl).keep hs (fun g a b ⟨cs, fr, c⟩ => k g a b ⟨cs, 5, fr, c, Or.inl rfl⟩), h4⟩
theorem Ll.below {w u : World} {lo C : Nat} {v : Value} {ls : List (List Nat)} (h : Ll w lo v ls) (k : Below C w u) (hC : w.heap.size ≤ C) : Ll u lo v ls := h.keep k.size fun g _ h2 _ => k.block g (by omega)
theorem Ll.but {w u : World} {lo M : Nat} {v : Value} {ls : List (List Nat)} {cs : Array Value} {t : TypeId} (h : Ll w lo v ls) (k : But M w u) (hM : Cells w M cs t) (ht : t ≠ 5 ∧ t ≠ 22) : Ll u lo v ls := h.keep k.size fun g _ h2 ⟨cs', e, fr, hc, he⟩ => k.block g h2 (fun e2 => by
 subst e2
 unfold Cells at hM
 rw [hM] at hc
 cases hc
 rcases he with rfl | rfl
 ·exact ht.1 rfl
 ·exact ht.2 rfl)
theorem Ll.le {w : World} {lo : Nat} {v : Value} {ls : List (List Nat)} (h : Ll w lo v ls) : lo ≤ w.heap.size := by obtain ⟨vs, _, h2, _⟩ := h.ex; exact h2.le
theorem Ll.shape {w : World} {lo : Nat} {v : Value} {ls : List (List Nat)} (h : Ll w lo v ls) : ∃ a c, v = .slice a ls.length c ∧ ls.length ≤ c := by
 obtain ⟨vs, _, h2, _⟩ := h.ex
 obtain ⟨a, c, hv, hc, _⟩ := h2.shape
 exact ⟨a, c, hv, hc⟩
theorem Ll.open_ {w u : World} {lo : Nat} {v v' : Value} {ls : List (List Nat)} (h : Ll w lo v ls) (vs : List Value) (k : Got lo 22 1 w u v v' (ls.length + 1) (vs ++ [.slice none 0 0])) (hvs : vs.length = ls.length) (h3 : ∀ (i : Nat) (a : Value) (l : List Nat), vs[i]? = some a → ls[i]? = some l → Ow w lo 5 1 a l.length (ob l)) : Ll u lo v' (ls ++ [[]]) := by
 refine ⟨vs ++ [.slice none 0 0], by simp [hvs], by simpa using k.ow, fun i a l ha hl => ?_, fun i a z ha hi hz g hg => ?_⟩
 ·by_cases hlt : i < vs.length
  ·rw [List.getElem?_append_left hlt] at ha
   rw [List.getElem?_append_left (by omega)] at hl
   exact (h3 i a l ha hl).got k (by decide)
  ·have hi : i = vs.length := by
    have := (List.getElem?_eq_some_iff.1 ha).1
    simp at this
    omega
   subst hi
   rw [List.getElem?_append_right (by omega)] at ha
   rw [List.getElem?_append_right (by omega)] at hl
   simp [hvs] at ha hl
   subst hl
   rw [← ha]
   exact Ow.nil k.ow.le
 ·rw [List.getLast?_append] at hz
  simp at hz
  rw [← hz]
  simp [Value.ownBlock]
theorem Ow.keep1 {w u : World} {lo sz n : Nat} {e : TypeId} {v : Value} {l : List Value} (h : Ow w lo e sz v n l) (hs : w.heap.size ≤ u.heap.size) (k : ∀ g, v.ownBlock = some g → u.heap[g]? = w.heap[g]?) : Ow u lo e sz v n l := by
 refine ⟨⟨h.own.1, ?_⟩, Nat.le_trans h.le hs⟩
 rcases h.own.2 with q | ⟨g, c, cur, hv, hg, hh, q⟩
 ·exact Or.inl q
 ·exact Or.inr ⟨g, c, cur, hv, hg, (k g (by rw [hv]; rfl)).trans hh, q⟩
structure Gob (lo : Nat) (w w' : World) (a a' : Value) (n : Nat) (l : List Nat) : Prop where
 got : Got lo 5 1 w w' a a' n (ob l)
 blk : ∀ g, a'.ownBlock = some g → a.ownBlock = some g ∨ g = w.heap.size
theorem Ow.set_at {w : World} {lo n i g : Nat} {e : TypeId} {a : Option Addr} {c : Nat} {xs : List Value} (h : Ow w lo e 1 (.slice (some ⟨g, 0, none⟩) n c) n xs) (x : Value) (hi : i < n) (h1 : x.oneCell' = true) : Ow (w.setCell ⟨g, i, none⟩ x) lo e 1 (.slice (some ⟨g, 0, none⟩) n c) n (xs.set i x) := by
 have hl := h.own.1
 refine ⟨⟨by simpa using hl, ?_⟩, by simpa [World.setCell] using h.le⟩
 rcases h.own.2 with ⟨hv, h0⟩ | ⟨g', c', cur, hv, hg, hh, hc, hm, hs, ht⟩
 ·cases hv
 ·cases hv
  refine Or.inr ⟨g, c, cur.setIfInBounds i x, rfl, hg, ?_, hc, hm, by simpa using hs, ?_⟩
  ·simp [World.setCell, Array.getElem?_modify, hh]
  ·rw [Array.toList_setIfInBounds, List.take_set, ht]
theorem Ll.byte {w u : World} {lo n g c x : Nat} {ls : List (List Nat)} {l : List Nat} {vs : List Value} {a a' : Value} (h : Ll w lo (.slice (some ⟨g, 0, none⟩) (n + 1) c) ls) (hls : ls.length = n + 1) (hvs : vs.length = n + 1) (hl : ls[n]? = some l)
  (h2 : Ow w lo 22 1 (.slice (some ⟨g, 0, none⟩) (n + 1) c) (n + 1) vs) (h3 : ∀ (i : Nat) (a : Value) (l : List Nat), vs[i]? = some a → ls[i]? = some l → Ow w lo 5 1 a l.length (ob l)) (h4 : ∀ (i : Nat) (a z : Value), vs[i]? = some a → i + 1 < vs.length → vs.getLast? = some z → ∀ g, a.ownBlock = some g → z.ownBlock ≠ some g)
  (ha : vs[n]? = some a) (k : Gob lo w u a a' (l.length + 1) (l ++ [x])) (h1 : a'.oneCell' = true) : Ll (u.setCell ⟨g, n, none⟩ a') lo (.slice (some ⟨g, 0, none⟩) (n + 1) c) (ls.dropLast ++ [l ++ [x]]) := by
 have hlast : vs.getLast? = some a := by rw [List.getLast?_eq_getElem?, hvs, Nat.add_sub_cancel, ha]
 have hu := h2.got k.got (by decide)
 have hset := Ow.set_at (a := none) hu a' (i := n) (by omega) h1
 have kg : ∃ cs, u.heap[g]? = some (.cells cs 22 (0, 0)) := by
  rcases hu.own.2 with ⟨hv, h0⟩ | ⟨g', c', cur, hv, hg, hh, _⟩
  ·cases hv
  ·cases hv; exact ⟨_, hh⟩
 obtain ⟨cg, hcg⟩ := kg
 have hdl : ls.dropLast.length = n := by simp [hls]
 refine ⟨vs.set n a', by simp [hvs, hls], by simpa [hls] using hset, fun i b m hb hm => ?_, fun i b z hb hi hz gb hgb => ?_⟩
 ·by_cases hin : i = n
  ·rw [hin, List.getElem?_set_self (by omega)] at hb
   rw [hin, List.getElem?_append_right (by omega), hdl] at hm
   simp at hb hm
   subst hb hm
   have := k.got.ow.set (i := n) (x := a') (b := g) (cs := cg) (t := 22) hcg (by decide)
   simpa using this
  ·rw [List.getElem?_set_ne (Ne.symm hin)] at hb
   have hilt : i < n := by have := (List.getElem?_eq_some_iff.1 hb).1; omega
   rw [List.getElem?_append_left (by omega), List.getElem?_dropLast, if_pos (by omega)] at hm
   have ho := h3 i b m hb hm
   refine (ho.keep1 k.got.size (fun gg hgg => ?_)).set (b := g) (cs := cg) (t := 22) hcg (by decide)
   exact k.got.kb gg (ho.lt_block hgg).2 (fun e => h4 i b a hb (by omega) hlast gg hgg e.symm)
 ·rw [List.length_set] at hi
  have hin : i ≠ n := by omega
  rw [List.getElem?_set_ne (Ne.symm hin)] at hb
  have hz2 : z = a' := by
   rw [List.getLast?_eq_getElem?, List.length_set, hvs, Nat.add_sub_cancel, List.getElem?_set_self (by omega)] at hz
   simpa using hz.symm
  rw [hz2]
  intro e
  have hilt : i < n := by omega
  obtain ⟨m, hm⟩ : ∃ m, ls[i]? = some m := ⟨_, List.getElem?_eq_getElem (by omega)⟩
  rcases k.blk gb e with h5 | h5
  ·exact h4 i b a hb (by omega) hlast gb hgb h5
  ·have := ((h3 i b m hb hm).lt_block hgb).2
   omega
theorem step_gob {w : World} {ops : Array Oper} {o : Oper} {a : Act} {K : Act → World → Prop} {Q : Exit → Act → World → Prop} {E : Prop} (hgd : o.guard = none) (s x : Operand)
  (ho : o.op = .call { callee := .builtin .append, args := #[s, x], argTypes := #[22, 22] }) (lo : Nat) (v : Value) (k : Nat) (l : List Nat) (hs : a.eval s = v) (hown : Ow w lo 5 1 v k (ob l)) (hk : l.length = k)
  (b c y : Nat) (hx : a.eval x = .slice (some ⟨b, 0, none⟩) 1 c) (hl : w.cell? ⟨b, 0, none⟩ = some (.int .u8 (y : Int))) (hlen : k + 1 ≤ 140737488355328)
  (h : ∀ g cap w', Gob lo w w' v (.slice (some ⟨g, 0, none⟩) (k + 1) cap) (k + 1) (l ++ [y]) → K (a.put o.dst (.slice (some ⟨g, 0, none⟩) (k + 1) cap)) w') :
  if Region.wanted o (yielded ops a.tmps) = true then Oper.wp Tryz.prog o a w K Q else E := by
 obtain ⟨i, hi, hz0, hz1, hz2⟩ := ginfo_parts ginfo5
 refine step_append_lies w hgd s x 22 ho lo 5 i _ 1 1 Tryz.underlying22 hi hz0 hz1 hz2 rfl (by decide) v _ _ hs hown.own ⟨b, 0, none⟩ 1 c (ob [y]) hx (by rfl) (fun j u hj => ?_) ob_one (by decide) (by unfold maxLen; omega) (by omega) hown.le _ rfl fun g cap w' h2 h3 h4 _ => h g cap w' ⟨?_, ?_⟩
 ·cases j with
  | zero => simp [ob] at hj; rw [← hj, addr_add]; exact hl
  | succ j => simp [ob] at hj
 ·have := Got.mk' hown h2 h3
  rw [ob_append] at this
  exact this
 ·intro g' hg'
  simp [Value.ownBlock] at hg'
  subst hg'
  exact h4
end Go.Proofs.YtpihipbeagpgpaaGreatDoor

/-
 What Whole's loops stand at. No walk.
-/
namespace Go.Proofs.YtpihipbeagpgpaaGreatDoor
open Go.RowKit
set_option linter.unusedVariables false
structure Ms (ns ls : List (List Nat)) (gv N L y : Nat) (fut : List Evn) (R0 : Ans) : Prop where
 res : rs2 (N - gv) y ns ls fut = R0
 gd : Gd2 (decide (ls ≠ [])) fut
 lt : ∀ e ∈ fut, e.1 < 258
 no : ls.length + nop fut ≤ L
 each : ∀ l ∈ ls, l.length ≤ gv
 gn : gv ≤ N
 eqn : ns.length = ls.length
section
variable {ns ls : List (List Nat)} {gv N L y : Nat} {e : Evn} {fut : List Evn} {R0 : Ans}
theorem Ms.open_ (h : Ms ns ls gv N L y (e :: fut) R0) (he : e.1 = 256) : Ms (ns ++ [e.2]) (ls ++ [[]]) gv N L y fut R0 := by
 refine ⟨by rw [← rs2_open he]; exact h.res, ?_, fun c hc => h.lt c (List.mem_cons_of_mem _ hc), ?_, fun l hl => ?_, h.gn, by simp [h.eqn]⟩
 ·have : decide (ls ++ [[]] ≠ []) = true := by simp
  rw [this]; exact gd2_true _
 ·have := h.no
  simp only [nop, he, if_true, List.length_append, List.length_singleton] at this ⊢
  omega
 ·rcases List.mem_append.1 hl with q | q
  ·exact h.each l q
  ·rw [List.mem_singleton.1 q]; exact Nat.zero_le _
theorem Ms.close (h : Ms ns ls gv N L y (e :: fut) R0) (he : e.1 = 257) : Ms ns ls gv N L y fut R0 := by
 have hn : nop (e :: fut) = nop fut := by simp only [nop]; rw [if_neg (by omega)]; omega
 refine ⟨by rw [← rs2_close he]; exact h.res, ?_, fun c hc => h.lt c (List.mem_cons_of_mem _ hc), by have := h.no; rw [hn] at this; exact this, h.each, h.gn, h.eqn⟩
 have := h.gd
 unfold Gd2 at this
 rw [if_neg (by omega), if_pos he] at this
 exact this
theorem Ms.ne (h : Ms ns ls gv N L y (e :: fut) R0) (hg : e.1 < 256) : ls ≠ [] := by
 have := h.gd
 unfold Gd2 at this
 rw [if_neg (by omega), if_neg (by omega)] at this
 simpa using this.1
theorem Ms.byte (h : Ms ns ls gv N L y (e :: fut) R0) (hg : e.1 < 256) (hN : gv < N) {l : List Nat} (hl : ls.getLastD [] = l) (hm : l ∈ ls) : Ms ns (ls.dropLast ++ [l ++ [e.1]]) (gv + 1) N L y fut R0 := by
 have hne := h.ne hg
 have hn : nop (e :: fut) = nop fut := by simp only [nop]; rw [if_neg (by omega)]; omega
 have hp := List.length_pos_iff.2 hne
 refine ⟨?_, ?_, fun c hc => h.lt c (List.mem_cons_of_mem _ hc), ?_, fun m hm' => ?_, hN, ?_⟩
 ·have q := h.res
  rw [show N - gv = (N - (gv + 1)) + 1 by omega, rs2_byte hg, hl] at q
  exact q
 ·have : decide (ls.dropLast ++ [l ++ [e.1]] ≠ []) = true := by simp
  rw [this]; exact gd2_true _
 ·have := h.no
  simp only [List.length_append, List.length_singleton, List.length_dropLast] at this ⊢
  omega
 ·rcases List.mem_append.1 hm' with q | q
  ·have := h.each m (List.dropLast_subset _ q); omega
  ·rw [List.mem_singleton.1 q, List.length_append, List.length_singleton]
   have := h.each l hm
   omega
 ·have := h.eqn
  simp only [List.length_append, List.length_singleton, List.length_dropLast]
  omega
theorem Ms.over (h : Ms ns ls gv N L y (e :: fut) R0) (hg : e.1 < 256) (hN : ¬ gv < N) : R0 = ((ns, ls), 62) := by
 have q := h.res
 rw [show N - gv = 0 by omega, rs2_over hg] at q
 exact q.symm
theorem Ms.nil (h : Ms ns ls gv N L y [] R0) : R0 = ((ns, ls), y) := by
 have q := h.res
 rw [rs2_nil] at q
 exact q.symm
end
def sv (ns : List (List Nat)) : List Value := ns.map fun n => .string (st n)
theorem sv_append (a b : List (List Nat)) : sv (a ++ b) = sv a ++ sv b := by simp [sv]
def Ns (w : World) (lo : Nat) (v : Value) (ns : List (List Nat)) : Prop := Ow w lo 9 1 v ns.length (sv ns)
theorem Ns.nil {w : World} {lo : Nat} (h : lo ≤ w.heap.size) : Ns w lo (.slice none 0 0) [] := Ow.nil h
theorem Ns.keep {w u : World} {lo : Nat} {v : Value} {ns : List (List Nat)} (h : Ns w lo v ns) (hs : w.heap.size ≤ u.heap.size) (k : ∀ g, lo ≤ g → g < w.heap.size → (∃ cs fr, w.heap[g]? = some (.cells cs 9 fr)) → u.heap[g]? = w.heap[g]?) : Ns u lo v ns := Ow.keep h hs k
theorem Ns.below {w u : World} {lo C : Nat} {v : Value} {ns : List (List Nat)} (h : Ns w lo v ns) (k : Below C w u) (hC : w.heap.size ≤ C) : Ns u lo v ns := h.keep k.size fun g _ h2 _ => k.block g (by omega)
theorem Ns.only {w u : World} {lo M : Nat} {v : Value} {ns : List (List Nat)} {cs : Array Value} {t : TypeId} (h : Ns w lo v ns) (k : Only M w u) (hM : Cells w M cs t) (ht : t ≠ 9) : Ns u lo v ns := h.keep (Nat.le_of_eq k.size.symm) fun g _ h2 ⟨cs', fr, hc⟩ => k.block g fun e2 => by
 subst e2
 unfold Cells at hM
 rw [hM] at hc
 cases hc
 exact ht rfl
theorem but_of_only {c : Nat} {w u : World} (h : Only c w u) : But c w u := ⟨h.os, h.tape, h.output, Nat.le_of_eq h.size.symm, fun k _ hm => h.block k hm⟩
theorem Ll.only {w u : World} {lo M : Nat} {v : Value} {ls : List (List Nat)} {cs : Array Value} {t : TypeId} (h : Ll w lo v ls) (k : Only M w u) (hM : Cells w M cs t) (ht : t ≠ 5 ∧ t ≠ 22) : Ll u lo v ls := h.but (but_of_only k) hM ht
theorem Bt.not2 {w : World} {k : Nat} {cs : Array Value} {t : TypeId} {fr : Nat × Nat} (h : w.heap[k]? = some (.cells cs t fr)) (h1 : t ≠ 66 ∧ t ≠ 3 ∧ t ≠ 98) : ¬ Bt w k := by
 rintro ⟨cs', ty, fr', e, f⟩
 rw [h] at e
 cases e
 rcases f with f | f | f
 ·exact h1.1 f
 ·exact h1.2.1 f
 ·exact h1.2.2 f
theorem Ns.fz {lo hi lo2 : Nat} {w u : World} {v : Value} {ns : List (List Nat)} (h : Ns w lo2 v ns) (k : Fz lo hi w u) (hl : hi ≤ lo2) : Ns u lo2 v ns := h.keep k.size fun g h1 h2 ⟨cs, fr, hc⟩ => k.stay h2 (Or.inr (by omega)) (Bt.not2 hc (by decide))
theorem Ll.fz {lo hi lo2 : Nat} {w u : World} {v : Value} {ls : List (List Nat)} (h : Ll w lo2 v ls) (k : Fz lo hi w u) (hl : hi ≤ lo2) : Ll u lo2 v ls := h.keep k.size fun g h1 h2 ⟨cs, e, fr, hc, he⟩ => k.stay h2 (Or.inr (by omega)) (Bt.not2 hc (by rcases he with q | q <;> rw [q] <;> decide))
theorem Ns.got {w u : World} {lo lo2 n : Nat} {e : TypeId} {v a a' : Value} {ns : List (List Nat)} {xs : List Value} (h : Ns w lo v ns) (k : Got lo2 e 1 w u a a' n xs) (he : e ≠ 9) : Ns u lo v ns := Ow.got h k (Ne.symm he)
theorem Ll.got9 {w u : World} {lo lo2 n : Nat} {v a a' : Value} {ls : List (List Nat)} {xs : List Value} (h : Ll w lo v ls) (k : Got lo2 9 1 w u a a' n xs) : Ll u lo v ls := by
 obtain ⟨vs, h1, h2, h3, h4⟩ := h.ex
 exact ⟨vs, h1, h2.got k (by decide), fun i a l ha hl => (h3 i a l ha hl).got k (by decide), h4⟩
structure Wr0 (R0 : Ans) (w : World) (e : Ending) (w' : World) : Prop where
 ex : ∃ vn vl lo2, e = .returned (.tuple #[vn, vl, .int .i64 (R0.2 : Int)]) ∧ w.heap.size ≤ lo2 ∧ Ns w' lo2 vn R0.1.1 ∧ Ll w' lo2 vl R0.1.2 ∧ Below w.heap.size w w'
theorem Fz.bel {lo hi : Nat} {w u x : World} (h : Fz lo hi u x) (k : Below w.heap.size w u) (hl : w.heap.size ≤ lo) : Below w.heap.size w x := k.trans ⟨h.os, h.tape, h.output, h.size, fun i hi => (h.block i (by have := k.size; omega)).resolve_right (by omega)⟩
section
variable {lo hi B D b R W lo2 E E2 : Nat} {w wr wx w7 : World} {ek eb en ek2 eb2 en2 : Int} {nm nm2 : List Nat} {ok ok2 : Bool} {vn vl : Value} {ns ls : List (List Nat)} {s1 : Zs} {rem rem2 : List Evn} {gv N L y G1 : Nat} {fut : List Evn} {R0 : Ans}
structure Gq (lo hi B D b R W lo2 E : Nat) (w wr : World) (ek eb en : Int) (nm : List Nat) (ok : Bool) (vn vl : Value) (ns ls : List (List Nat)) (s1 : Zs) (rem : List Evn) (gv N L y G1 : Nat) (fut : List Evn) (R0 : Ans) : Prop where
 wz : Wz wr lo hi B D b R W s1 rem
 nn : Ns wr lo2 vn ns
 ll : Ll wr lo2 vl ls
 ev : Cells wr E #[.int .i64 ek, .int .u8 eb, .int .i64 en, .int .i64 0, .string (st nm)] 46
 bel : Below w.heap.size w wr
 le : lo2 ≤ E
 geo : w.heap.size ≤ lo ∧ hi ≤ lo2 ∧ w.heap.size ≤ lo2
 yl : s1.y.out.length ≤ G1
 st : (ok = false ∧ rem = [] ∧ Ms ns ls gv N L y fut R0 ∧ gv = G1) ∨ (ok = true ∧ ∃ g : Evn, ek = gk1 g.1 ∧ eb = gk2 g.1 ∧ nm = g.2 ∧ Ms ns ls gv N L y (g :: (rem ++ fut)) R0 ∧ gv + nbz (g :: rem) = G1)
structure Gu (lo hi B D b R W lo2 : Nat) (w wr : World) (vn vl : Value) (ns ls : List (List Nat)) (s1 : Zs) (rem : List Evn) (gv N L y G1 : Nat) (fut : List Evn) (R0 : Ans) : Prop where
 wz : Wz wr lo hi B D b R W s1 rem
 nn : Ns wr lo2 vn ns
 ll : Ll wr lo2 vl ls
 bel : Below w.heap.size w wr
 geo : w.heap.size ≤ lo ∧ hi ≤ lo2 ∧ w.heap.size ≤ lo2
 yl : s1.y.out.length ≤ G1
 ms : Ms ns ls gv N L y (rem ++ fut) R0
 g1 : gv + nbz rem = G1
def NxC (lo hi B D b R W : Nat) (s1 : Zs) (rem : List Evn) (u : World) (ek eb en : Int) (nm : List Nat) (ok : Bool) (rem2 : List Evn) : Prop := (Calls Tryz.prog 23 #[.pointer (some ⟨W, 0, none⟩)] u fun e w' => e = .returned (.tuple #[.agg #[.int .i64 ek, .int .u8 eb, .int .i64 en, .int .i64 0, .string (st nm)], .bool ok]) ∧ Wz w' lo hi B D b R W s1 rem2 ∧ Fz lo hi u w') ∧ ((ok = false ∧ rem = [] ∧ rem2 = []) ∨ (ok = true ∧ ∃ g : Evn, ek = gk1 g.1 ∧ eb = gk2 g.1 ∧ nm = g.2 ∧ rem = g :: rem2))
theorem next_all {u : World} (hz : Wz u lo hi B D b R W s1 rem) (hb : s1.y.out.length + 2 < MM + nbz rem) : ∃ ek eb en nm ok rem2, NxC lo hi B D b R W s1 rem u ek eb en nm ok rem2 := by
 cases rem with
 | nil => exact ⟨0, 0, 0, [], false, [], (wz_next_no u hz).mono fun e w' k => ⟨k.1, k.2.1, Fz.of_below k.2.2 (Nat.le_refl _)⟩, Or.inl ⟨rfl, rfl, rfl⟩⟩
 | cons e r =>
  rw [nbz_cons] at hb
  refine ⟨gk1 e.1, gk2 e.1, gk3 e.1, e.2, true, r, wz_next e u hz ?_, Or.inr ⟨rfl, e, rfl, rfl, rfl, rfl⟩⟩
  split at hb <;> omega
theorem Gu.next (h : Gu lo hi B D b R W lo2 w wx vn vl ns ls s1 rem gv N L y G1 fut R0) (hE : wx.heap.size = E2) (hz : Wz w7 lo hi B D b R W s1 rem2) (hf : Fz lo hi (wx.alloc (.cells #[.int .i64 ek, .int .u8 eb, .int .i64 en, .int .i64 0, .string (st nm)] 46)) w7) (hc : (ok2 = false ∧ rem = [] ∧ rem2 = []) ∨ (ok2 = true ∧ ∃ g : Evn, ek2 = gk1 g.1 ∧ eb2 = gk2 g.1 ∧ nm2 = g.2 ∧ rem = g :: rem2)) :
  Cells w7 E2 #[.int .i64 ek, .int .u8 eb, .int .i64 en, .int .i64 0, .string (st nm)] 46 ∧ Gq lo hi B D b R W lo2 E2 w (((((w7.setCell ⟨E2, 0, none⟩ (.int .i64 ek2)).setCell ⟨E2, 1, none⟩ (.int .u8 eb2)).setCell ⟨E2, 2, none⟩ (.int .i64 en2)).setCell ⟨E2, 3, none⟩ (.int .i64 0)).setCell ⟨E2, 4, none⟩ (.string (st nm2))) ek2 eb2 en2 nm2 ok2 vn vl ns ls s1 rem2 gv N L y G1 fut R0 := by
 have bA : Below wx.heap.size wx (wx.alloc (.cells #[.int .i64 ek, .int .u8 eb, .int .i64 en, .int .i64 0, .string (st nm)] 46)) := (Below.refl _ wx).alloc (Nat.le_refl _) _
 have kA : Cells (wx.alloc (.cells #[.int .i64 ek, .int .u8 eb, .int .i64 en, .int .i64 0, .string (st nm)] 46)) E2 #[.int .i64 ek, .int .u8 eb, .int .i64 en, .int .i64 0, .string (st nm)] 46 := by rw [← hE]; exact Cells.new wx _ 46
 have hle := h.ll.le
 have geo := h.geo
 have k7 := kA.fz hf (by omega) (by decide)
 have l7 := (h.ll.below bA (Nat.le_refl _)).fz hf geo.2.1
 have n7 := (h.nn.below bA (Nat.le_refl _)).fz hf geo.2.1
 have o8 := zonly_five E2 w7 (.int .i64 ek2) (.int .u8 eb2) (.int .i64 en2) (.int .i64 0) (.string (st nm2))
 refine ⟨k7, ⟨hz.var (by omega) k7 o8, n7.only o8 k7 (by decide), l7.only o8 k7 ⟨by decide, by decide⟩, zset5 k7 _ _ _ _ _, ?_, by omega, geo, h.yl, ?_⟩⟩
 ·exact (hf.bel (h.bel.trans (bA.mono h.bel.size)) geo.1).trans (o8.below (by omega))
 ·rcases hc with ⟨h1, h2, h3⟩ | ⟨h1, g, h2, h3, h4, h5⟩
  ·left
   have ms := h.ms
   have g1 := h.g1
   rw [h2] at ms g1
   exact ⟨h1, h3, ms, g1⟩
  ·right
   have ms := h.ms
   have g1 := h.g1
   rw [h5] at ms g1
   exact ⟨h1, g, h2, h3, h4, ms, g1⟩
end
end Go.Proofs.YtpihipbeagpgpaaGreatDoor

/-
 What zip.Whole comes to.
-/
namespace Go.Proofs.YtpihipbeagpgpaaGreatDoor
open Go.RowKit
set_option linter.unusedVariables false
theorem ginfo9 : (Tryz.prog.info? 9).map (fun i => (i.zero, i.size, i.bytes)) = some (some (.string ⟨#[]⟩), 1, 16) := by kernel_rfl
theorem gotw {lo hi B D b R W lo2 n : Nat} {e : TypeId} {w u : World} {v v' : Value} {xs : List Value} {s : Zs} {E : List Evn} (h : Wz w lo hi B D b R W s E) (k : Got lo2 e 1 w u v v' n xs) (hl : hi ≤ lo2) (he : e = 5 ∨ e = 22 ∨ e = 9) : Wz u lo hi B D b R W s E :=
 h.out ⟨k.bel.os, k.bel.tape, k.bel.output, k.bel.size, fun i hi' => k.bel.block i (by omega)⟩ fun i hi' => by
  rcases k.kp i hi' with e1 | ⟨_, cs, e1⟩
  ·exact Or.inl e1
  ·exact Or.inr ⟨cs, e, _, e1, by rcases he with q | q | q <;> simp [q]⟩
theorem wr0_end {lo hi lo2 : Nat} {w wr w3 : World} {vn vl : Value} {ns ls : List (List Nat)} {y : Nat} {R0 : Ans} (hn : Ns wr lo2 vn ns) (h1 : Ll wr lo2 vl ls) (h2 : Below w.heap.size w wr) (h3 : R0 = ((ns, ls), y)) (hg : w.heap.size ≤ lo ∧ hi ≤ lo2 ∧ w.heap.size ≤ lo2) (f : Fz lo hi wr w3) : Wr0 R0 w (.returned (.tuple #[vn, vl, .int .i64 (y : Int)])) w3 := by
 subst h3
 exact ⟨vn, vl, lo2, rfl, hg.2.2, hn.fz f hg.2.1, h1.fz f hg.2.1, f.bel h2 hg.1⟩
set_option maxRecDepth 100000 in
set_option maxHeartbeats 8000000 in
theorem zwhole_c (w : World) (ht : Tabs w) (hct : Ctab w) (hmt : Mtab w) (h9 : 9 ≤ w.heap.size) (aB : Option Addr) (bb : List Nat) (L C : Nat) (n0 : Int) (N : Nat) (hN : n0.toNat = N) (hNb : N ≤ 100000000) (hB : Lies w aB bb) (hL : bb.length = L) (hLb : L ≤ 1000000000000) (ho : Oct bb) (k : Nat) (s : Zs) (T : List Gev) (hr : Rch bb k s T) (hk : s.why ≠ 0 ∨ k = L) (R0 : Ans) (hR : rs2 N (zfin s) [] [] (evx T) = R0) : Calls Tryz.prog 9 #[.slice aB L C, .int .i64 n0] w fun e w' => Wr0 R0 w e w' := by
 have kn := znew_c w ht hct hmt h9
 have hf := rch_facts ho k s T hr
 have hkL : k ≤ L := by rw [← hL]; exact hr.1
 obtain ⟨y, hy⟩ : ∃ y, zfin s = y := ⟨_, rfl⟩
 rw [hy] at hR
 have AN : Aside (N ≤ 100000000 ∧ Rch bb k s T ∧ (s.why ≠ 0 ∨ k = L) ∧ zfin s = y ∧ Oct bb ∧ bb.length = L ∧ L ≤ 1000000000000 ∧ Lies w aB bb ∧ n0.toNat = N ∧ k ≤ L) := ⟨hNb, hr, hk, hy, ho, hL, hLb, hB, hN, hkL⟩
 have AM0 : Aside (Ms [] [] 0 N L y (evx T) R0) := ⟨by rw [Nat.sub_zero]; exact hR, by simpa using hf.gd, fun e he => (hf.lt e he).1, by have := hf.no; simp; omega, fun l hl => by simp at hl, Nat.zero_le _, rfl⟩
 clear ht hct hmt h9 hNb hr hk hy ho hL hLb hB hf hR hN hkL
 go_enter Tryz.func9, Tryz.ntmps9
 go_upto_region 2 with (go_at_call 17; refine kn.mono ?_; rintro e1 w1 ⟨hi, B, W, rfl, hz1, hb1⟩)
 obtain ⟨D, hD⟩ : ∃ D, B + 3 = D := ⟨_, rfl⟩
 obtain ⟨b, hbb⟩ : ∃ b, B + 2 = b := ⟨_, rfl⟩
 obtain ⟨R, hRR⟩ : ∃ R, B + 1 = R := ⟨_, rfl⟩
 obtain ⟨lo, hlo⟩ : ∃ lo, w.heap.size = lo := ⟨_, rfl⟩
 obtain ⟨lo2, hlo2⟩ : ∃ lo2, w1.heap.size = lo2 := ⟨_, rfl⟩
 rw [hD, hbb, hRR, hlo] at hz1
 have hgeo : w.heap.size ≤ lo ∧ hi ≤ lo2 ∧ w.heap.size ≤ lo2 := by
  obtain ⟨_, _, _, _, hk⟩ := hz1.wk
  exact ⟨by omega, by rw [← hlo2]; exact hk.hs, by rw [← hlo2]; exact hb1.size⟩
 have A1 : Aside (Wz w1 lo hi B D b R W s0 [] ∧ Below w.heap.size w w1 ∧ w1.heap.size = lo2) := ⟨hz1, hb1, hlo2⟩
 have AG : Aside (w.heap.size ≤ lo ∧ hi ≤ lo2 ∧ w.heap.size ≤ lo2) := hgeo
 clear kn hz1 hb1 hD hbb hRR hlo hlo2 hgeo
 go_upto_block 1 with fail
 go_loopg [4, 5, 8, 17] L (fun gg s4 s5 s8 s17 wr => ∃ (i gv n c c' : Nat) (ax ay : Option Addr), s4 = .slice ax n c ∧ s5 = .slice ay n c' ∧ s8 = .int .i64 (gv : Int) ∧ s17 = .int .i64 (i : Int) ∧ Aside (∃ ns ls si Ti fut, Wz wr lo hi B D b R W si [] ∧ Ns wr lo2 (.slice ax n c) ns ∧ Ll wr lo2 (.slice ay n c') ls ∧ Below w.heap.size w wr ∧ Rch bb i si Ti ∧ evx T = evx Ti ++ fut ∧ Ms ns ls gv N L y fut R0 ∧ i ≤ k ∧ n = ls.length ∧ gg = L - i ∧ gv = nbz (evx Ti)))
 case atStart =>
  exact ⟨0, 0, 0, 0, 0, none, none, rfl, rfl, rfl, rfl, ⟨[], [], s0, [], evx T, A1.out.1, Ns.nil (by rw [A1.out.2.2]; exact Nat.le_refl _), Ll.nil (by rw [A1.out.2.2]; exact Nat.le_refl _), A1.out.2.1, rch_zero bb, rfl, AM0.out, Nat.zero_le _, rfl, by simp, rfl⟩⟩
 case round =>
  clear A1 AM0
  obtain ⟨i, gv, n, c, c', ax, ay, rfl, rfl, rfl, rfl, hT⟩ := hrel
  obtain ⟨ns, ls, si, Ti, fut, hz, hnn, hll, hbel, hri, hTf, hms, hik, hnl, hgk, hgvn⟩ := hT.out
  have an := AN.out
  by_cases hiL : i < L
  ·have t1 : decide ((i : Int) < (L : Int)) = true := decide_eq_true (by omega)
   obtain ⟨x, hx⟩ : ∃ x, bb[i]? = some x := ⟨_, List.getElem?_eq_getElem (by rw [an.2.2.2.2.2.1]; exact hiL)⟩
   have hxb := an.2.2.2.2.1 x (List.mem_of_getElem? hx)
   have hlies := an.2.2.2.2.2.2.2.1.below hbel
   obtain ⟨g0, o0, haB, hcell⟩ : ∃ g0 o0, aB = some ⟨g0, o0, none⟩ ∧ wr.cell? ⟨g0, o0 + i, none⟩ = some (.int .u8 (x : Int)) := by
    rcases hlies with h5 | ⟨g0, o0, h5, h6⟩
    ·rw [h5] at hx; simp at hx
    ·exact ⟨g0, o0, h5, h6 i x hx⟩
   subst haB
   have bi : (i : Int) < (L : Int) := by omega
   by_cases hikk : i = k
   ·-- it was stopped
    subst hikk
    obtain ⟨rfl, rfl⟩ := an.2.1.det hri
    have hfut : fut = [] := by
     have := congrArg List.length hTf
     rw [List.length_append] at this
     exact List.eq_nil_of_length_eq_zero (by omega)
    subst hfut
    have hw0 : s.why ≠ 0 := by rcases an.2.2.1 with q | q; exact q; omega
    have kp := wz_put_no x wr hz (Or.inr hw0)
    have kE := wz_end wr hz
    rw [an.2.2.2.1] at kE
    have A9 : Aside (Ns wr lo2 (.slice ax n c) ns ∧ Ll wr lo2 (.slice ay n c') ls ∧ Below w.heap.size w wr ∧ R0 = ((ns, ls), y)) := ⟨hnn, hll, hbel, hms.nil⟩
    clear hT hz hnn hll hbel hri hTf hms hik hnl hgk hgvn an hx hxb hlies hw0 hiL
    go_wp2_with (first
     | (go_at_call 18; refine kp.mono ?_; rintro e2 w2 ⟨rfl, rfl⟩)
     | (go_at_call 22; refine kE.mono ?_; rintro e3 w3 ⟨rfl, h3, f3⟩)
     | (go_at_call 21; refine (we_reason _ h3).mono ?_; rintro e4 w4 ⟨rfl, rfl⟩))
    first | go_ret3 | go_ret | go_ret2
    obtain ⟨a0, a1, a2, a3⟩ := A9.out
    exact wr0_end a0 a1 a2 a3 AG.out f3
   ·obtain ⟨h0, x', s1, E, T2, hx', hsp, hr1, hTT, _⟩ := an.2.1.at hri (by omega)
    obtain rfl : x = x' := Option.some.inj (hx.symm.trans hx')
    have hfi := rch_facts an.2.2.2.2.1 i si Ti hri
    obtain ⟨q1, q2, q3, q4, q5, q6⟩ := sp_tells hfi.ok h0 hxb hsp
    have hlen := hfi.len
    have hipl := hfi.ip
    have hfut : fut = E ++ evx T2 := by
     rw [hTT, evx_append, evx_append, evx_evs, List.append_assoc] at hTf
     exact (List.append_cancel_left hTf).symm
    have kp := wz_put x hxb wr hz hfi.ok h0 hsp (fun _ => by have := hms.gn; have := an.1; have := an.2.2.2.2.2.2.1; unfold MM; omega)
    obtain ⟨fut2, hfut2⟩ : ∃ fut2, evx T2 = fut2 := ⟨_, rfl⟩
    obtain ⟨G1, hG1⟩ : ∃ G1, gv + nbz E = G1 := ⟨_, rfl⟩
    have A5 : Aside (Ns wr lo2 (.slice ax n c) ns ∧ Ll wr lo2 (.slice ay n c') ls ∧ Below w.heap.size w wr ∧ Ms ns ls gv N L y (E ++ fut2) R0 ∧ n = ls.length ∧ gk = L - i ∧ gv + nbz E = G1 ∧ s1.y.out.length ≤ G1 ∧ Rch bb (i + 1) s1 (Ti ++ evs i E) ∧ evx T = evx (Ti ++ evs i E) ++ fut2 ∧ i < k ∧ gv = nbz (evx Ti) ∧ gv ≤ N ∧ i < L) := ⟨hnn, hll, hbel, by rw [← hfut2, ← hfut]; exact hms, hnl, hgk, hG1, by rw [← hG1]; omega, hr1, by rw [hTT, evx_append, hfut2], by omega, hgvn, hms.gn, hiL⟩
    clear hT hz hnn hll hbel hri hTf hms hik hnl hgk hgvn an hx hx' hxb hlies hikk h0 hsp hr1 hTT hfi q1 q2 q3 q4 q5 q6 hlen hipl hfut hfut2 hG1 hiL
    go_upto_region 7 with (go_at_call 18; refine kp.mono ?_; rintro e2 w2 ⟨rfl, hz2, f2⟩)
    clear kp hcell
    obtain ⟨ek, eb, en, nm, ok, rem, hn, hc⟩ := next_all hz2 (by
     obtain ⟨_, _, _, _, _, _, h3, h1, _, _, _, _, h4, _⟩ := A5.out
     have h5 := AN.out.1
     unfold MM
     omega)
    have A6 : Aside (Fz lo hi wr w2 ∧ ((ok = false ∧ E = [] ∧ rem = []) ∨ (ok = true ∧ ∃ g : Evn, ek = gk1 g.1 ∧ eb = gk2 g.1 ∧ nm = g.2 ∧ E = g :: rem))) := ⟨f2, hc⟩
    clear hz2 f2 hc
    go_upto_region 8 with (go_at_call 23; refine hn.mono ?_; rintro e3 w3 ⟨rfl, hz3, f3⟩)
    clear hn
    obtain ⟨E0, hE0⟩ : ∃ E0, w3.heap.size = E0 := ⟨_, rfl⟩
    obtain ⟨w4, hw4⟩ : ∃ w4, w3.alloc (.cells #[.int .i64 ek, .int .u8 eb, .int .i64 en, .int .i64 0, .string (st nm)] 46) = w4 := ⟨_, rfl⟩
    rw [hw4, hE0]
    have gq : Gq lo hi B D b R W lo2 E0 w w4 ek eb en nm ok (.slice ax n c) (.slice ay n c') ns ls s1 rem gv N L y G1 fut2 R0 := by
     obtain ⟨b0, b1, b2, b3, b4, b5, b6, b7, b8, b9, b10, b11, b12, b13⟩ := A5.out
     have fw3 := A6.out.1.trans f3
     have geo := AG.out
     have bA : Below w3.heap.size w3 w4 := by rw [← hw4]; exact (Below.refl _ w3).alloc (Nat.le_refl _) _
     have l3 := b1.fz fw3 geo.2.1
     have bel3 := fw3.bel b2 geo.1
     refine ⟨hz3.below bA (Nat.le_refl _), (b0.fz fw3 geo.2.1).below bA (Nat.le_refl _), l3.below bA (Nat.le_refl _), by rw [← hw4, ← hE0]; exact Cells.new w3 _ 46, bel3.trans (bA.mono bel3.size), by rw [← hE0]; exact l3.le, geo, b7, ?_⟩
     rcases A6.out.2 with ⟨h1, h2, h3⟩ | ⟨h1, g, h2, h3, h4, h5⟩
     ·rw [h2] at b3 b6
      exact Or.inl ⟨h1, h3, b3, b6⟩
     ·rw [h5] at b3 b6
      exact Or.inr ⟨h1, g, h2, h3, h4, b3, b6⟩
    have AQ : Aside (Gq lo hi B D b R W lo2 E0 w w4 ek eb en nm ok (.slice ax n c) (.slice ay n c') ns ls s1 rem gv N L y G1 fut2 R0 ∧ n = ls.length) := ⟨gq, A5.out.2.2.2.2.1⟩
    have A7 : Aside (gk = L - i ∧ gv + nbz E = G1 ∧ Rch bb (i + 1) s1 (Ti ++ evs i E) ∧ evx T = evx (Ti ++ evs i E) ++ fut2 ∧ i < k ∧ gv = nbz (evx Ti) ∧ i < L) := by
     obtain ⟨_, _, _, _, _, h1, h2, _, h3, h4, h5, h6, _, h7⟩ := A5.out
     exact ⟨h1, h2, h3, h4, h5, h6, h7⟩
    obtain ⟨gv0, hgv0⟩ : ∃ gv0, gv = gv0 := ⟨_, rfl⟩
    obtain ⟨gk0, hgk0⟩ : ∃ gk0, gk = gk0 := ⟨_, rfl⟩
    have AK : Aside (gk = gk0) := hgk0
    clear gq hz3 f3 hE0 hw4 A5 A6
    go_loopg [4, 5, 8, 11, 12] (rem.length + ok.toNat) (fun gg s4 s5 s8 s11 s12 wr => ∃ (E : Nat) (ok : Bool) (n c c' gv : Nat) (ax ay : Option Addr), s4 = .slice ax n c ∧ s5 = .slice ay n c' ∧ s8 = .int .i64 (gv : Int) ∧ s11 = .pointer (some ⟨E, 0, none⟩) ∧ s12 = .bool ok ∧ Aside (∃ ek eb en nm ns ls rem, Gq lo hi B D b R W lo2 E w wr ek eb en nm ok (.slice ax n c) (.slice ay n c') ns ls s1 rem gv N L y G1 fut2 R0 ∧ gg = rem.length + ok.toNat ∧ n = ls.length))
    case atStart => exact ⟨E0, ok, n, c, c', gv, ax, ay, rfl, rfl, rfl, rfl, rfl, ⟨ek, eb, en, nm, ns, ls, rem, AQ.out.1, rfl, AQ.out.2⟩⟩
    case round =>
     have A8 : Aside (gk0 = L - i ∧ gv0 + nbz E = G1 ∧ Rch bb (i + 1) s1 (Ti ++ evs i E) ∧ evx T = evx (Ti ++ evs i E) ++ fut2 ∧ i < k ∧ gv0 = nbz (evx Ti) ∧ i < L) := by rw [← hgv0, ← hgk0]; exact A7.out
     clear AQ A7 hgv0 hgk0
     obtain ⟨E1, ok, n, c, c', gv, ax, ay, rfl, rfl, rfl, rfl, rfl, hT⟩ := hrel
     obtain ⟨ek, eb, en, nm, ns, ls, rem, gs, hgk, hnl⟩ := hT.out
     cases ok with
     | false =>
      have hst : rem = [] ∧ Ms ns ls gv N L y fut2 R0 ∧ gv = G1 := by
       rcases gs.st with ⟨_, h⟩ | ⟨h1, _⟩
       ·exact h
       ·cases h1
      have A9 : Aside (Wz wr lo hi B D b R W s1 [] ∧ Ns wr lo2 (.slice ax n c) ns ∧ Ll wr lo2 (.slice ay n c') ls ∧ Below w.heap.size w wr ∧ Ms ns ls gv N L y fut2 R0 ∧ gv = G1 ∧ n = ls.length) := ⟨by rw [← hst.1]; exact gs.wz, gs.nn, gs.ll, gs.bel, hst.2.1, hst.2.2, hnl⟩
      clear hT gs hgk hnl hst
      have bi2 : (i : Int) + 1 < 9000000000000 := by have := A8.out.2.2.2.2.2.2; have := AN.out.2.2.2.2.2.2.1; omega
      go_wp2_with fail
      obtain ⟨a1, a0, a2, a3, a4, a5, a6⟩ := A9.out
      obtain ⟨c1, c2, c3, c4, c5, c6, c7⟩ := A8.out
      have ak := AK.out
      go_roundg (L - (i + 1))
      case measure => omega
      case rel => exact ⟨i + 1, gv, n, c, c', ax, ay, rfl, rfl, rfl, by push_cast; rfl, ⟨ns, ls, s1, Ti ++ evs i E, fut2, a1, a0, a2, a3, c3, c4, a4, by omega, a6, rfl, by rw [evx_append, evx_evs, nbz_append]; omega⟩⟩
     | true =>
      obtain ⟨g, hek, heb, hnm, hMs, hG⟩ : ∃ g : Evn, ek = gk1 g.1 ∧ eb = gk2 g.1 ∧ nm = g.2 ∧ Ms ns ls gv N L y (g :: (rem ++ fut2)) R0 ∧ gv + nbz (g :: rem) = G1 := by
       rcases gs.st with ⟨h1, _⟩ | ⟨_, h⟩
       ·cases h1
       ·exact h
      rw [nbz_cons] at hG
      have hg258 := hMs.lt g (by simp)
      have hLb : L ≤ 1000000000000 := AN.out.2.2.2.2.2.2.1
      have c0' := gs.ev.cell 0
      have c1' := gs.ev.cell 1
      have c4' := gs.ev.cell 4
      by_cases h256 : g.1 = 256
      ·have ek1 : ek = 1 := by rw [hek, h256]; rfl
       subst ek1
       rw [if_neg (by omega)] at hG
       have hn2 : ns.length = n := by rw [hMs.eqn, hnl]
       obtain ⟨H, hH⟩ : ∃ H, wr.heap.size = H := ⟨_, rfl⟩
       have bA : Below wr.heap.size wr (wr.alloc (.cells #[.string (st nm)] 9)) := (Below.refl _ wr).alloc (Nat.le_refl _) _
       have howN : Ow (wr.alloc (.cells #[.string (st nm)] 9)) lo2 9 1 (.slice ax n c) n (sv ns) := by
        have := gs.nn.below bA (Nat.le_refl _)
        unfold Ns at this
        rw [hn2] at this
        exact this
       have hcN : (wr.alloc (.cells #[.string (st nm)] 9)).cell? ⟨H, 0, none⟩ = some (.string (st nm)) := by rw [← hH, (Cells.new wr #[.string (st nm)] 9).cell 0]; rfl
       have hlN : ([.string (st nm)] : List Value) = [] ∨ ∃ b o, (some ⟨H, 0, none⟩ : Option Addr) = some ⟨b, o, none⟩ ∧ ∀ i u, ([.string (st nm)] : List Value)[i]? = some u → (wr.alloc (.cells #[.string (st nm)] 9)).cell? ⟨b, o + i, none⟩ = some u := Or.inr ⟨H, 0, rfl, fun i u hu => by
        cases i with
        | zero => simp at hu; rw [← hu]; exact hcN
        | succ i => simp at hu⟩
       have h1N : ∀ u ∈ ([.string (st nm)] : List Value), u.oneCell' = true := fun u hu => by simp at hu; subst hu; rfl
       obtain ⟨i9, hi9, hy0, hy1, hy2⟩ := ginfo_parts ginfo9
       have hnb : n + 1 ≤ L := by have := hMs.no; simp only [nop, h256, if_true] at this; omega
       have hAm : Aside (n + 1 ≤ maxLen ∧ (n + 1) * 16 ≤ 140737488355328 ∧ (n + 1) * 24 ≤ 140737488355328) := ⟨by unfold maxLen; omega, by omega, by omega⟩
       have AS : Aside (Gq lo hi B D b R W lo2 E1 w wr 1 eb en nm true (.slice ax n c) (.slice ay n c') ns ls s1 rem gv N L y G1 fut2 R0 ∧ Ms (ns ++ [g.2]) (ls ++ [[]]) gv N L y (rem ++ fut2) R0 ∧ gk = rem.length + true.toNat ∧ n = ls.length ∧ nm = g.2 ∧ ns.length = n ∧ wr.heap.size = H ∧ gv + nbz rem = G1) := ⟨gs, hMs.open_ h256, hgk, hnl, hnm, hn2, hH, by omega⟩
       clear hT gs hgk hMs hG hek heb hg258 bA hcN hnl hnm hn2 hnb h256
       go_upto_region 13 with (at_builtin; refine wpList_ow Tryz.prog _ rfl (.tmp 40) (.tmp 43) 23 rfl 9 i9 _ 1 16 Tryz.underlying23 hi9 hy0 hy1 hy2 rfl (by decide) lo2 (.slice ax n c) n _ (by rfl) howN (some ⟨H, 0, none⟩) [.string (st nm)] 1 1 rfl (by rfl) (by intro h; cases h) hlN h1N hAm.out.1 hAm.out.2.1 ?_; intro v4 w4 hg4; obtain ⟨a4, c4, hv4, _⟩ := hg4.ow.shape; subst hv4)
       have ax0 := AS.out
       have gs := ax0.1
       have bA : Below wr.heap.size wr (wr.alloc (.cells #[.string (st nm)] 9)) := (Below.refl _ wr).alloc (Nat.le_refl _) _
       have geo := gs.geo
       have ll4 : Ll w4 lo2 (.slice ay n c') ls := (gs.ll.below bA (Nat.le_refl _)).got9 hg4
       have wz4 : Wz w4 lo hi B D b R W s1 rem := gotw (gs.wz.below bA (Nat.le_refl _)) hg4 geo.2.1 (by simp)
       have ev4 : Cells w4 E1 #[.int .i64 1, .int .u8 eb, .int .i64 en, .int .i64 0, .string (st nm)] 46 := (gs.ev.alloc _).got hg4 (by decide)
       have bel4 : Below w.heap.size w w4 := (gs.bel.trans (bA.mono gs.bel.size)).trans (hg4.bel.mono geo.2.2)
       have nn4 : Ns w4 lo2 (.slice a4 (n + 1) c4) (ns ++ [nm]) := by
        unfold Ns
        rw [List.length_append, List.length_singleton, ax0.2.2.2.2.2.1, sv_append]
        exact hg4.ow
       obtain ⟨vs, hv1, hv2, hv3, hv4⟩ := ll4.ex
       obtain ⟨H4, hH4⟩ : ∃ H4, w4.heap.size = H4 := ⟨_, rfl⟩
       have bB : Below w4.heap.size w4 (w4.alloc (.cells #[.slice none 0 0] 22)) := (Below.refl _ w4).alloc (Nat.le_refl _) _
       have howA := hv2.below bB (Nat.le_refl _)
       rw [← ax0.2.2.2.1] at howA
       have hlA := ll4.below bB (Nat.le_refl _)
       have hcA : (w4.alloc (.cells #[.slice none 0 0] 22)).cell? ⟨H4, 0, none⟩ = some (.slice none 0 0) := by rw [← hH4, (Cells.new w4 #[.slice none 0 0] 22).cell 0]; rfl
       have hlz : ([.slice none 0 0] : List Value) = [] ∨ ∃ b o, (some ⟨H4, 0, none⟩ : Option Addr) = some ⟨b, o, none⟩ ∧ ∀ i u, ([.slice none 0 0] : List Value)[i]? = some u → (w4.alloc (.cells #[.slice none 0 0] 22)).cell? ⟨b, o + i, none⟩ = some u := Or.inr ⟨H4, 0, rfl, fun i u hu => by
        cases i with
        | zero => simp at hu; rw [← hu]; exact hcA
        | succ i => simp at hu⟩
       have h1c : ∀ u ∈ ([.slice none 0 0] : List Value), u.oneCell' = true := fun u hu => by simp at hu; subst hu; rfl
       obtain ⟨i0, hi0, hz0, hz1, hz2⟩ := ginfo_parts ginfo22
       obtain ⟨lsx, hlsx⟩ : ∃ lsx, lsx = ls ++ [[]] := ⟨_, rfl⟩
       obtain ⟨nsx, hnsx⟩ : ∃ nsx, nsx = ns ++ [nm] := ⟨_, rfl⟩
       have hT0 : ∀ (a5 : Option Addr) (c5 : Nat) (w5 : World), Got lo2 22 1 (w4.alloc (.cells #[.slice none 0 0] 22)) w5 (.slice ay n c') (.slice a5 (n + 1) c5) (n + 1) (vs ++ [.slice none 0 0]) → Aside (Gu lo hi B D b R W lo2 w w5 (.slice a4 (n + 1) c4) (.slice a5 (n + 1) c5) nsx lsx s1 rem gv N L y G1 fut2 R0 ∧ Cells w5 E1 #[.int .i64 1, .int .u8 eb, .int .i64 en, .int .i64 0, .string (st nm)] 46 ∧ gk = rem.length + true.toNat ∧ (n + 1) = lsx.length) := fun a5 c5 w5 hgot => by
        refine ⟨⟨gotw (wz4.below bB (Nat.le_refl _)) hgot geo.2.1 (by simp), ?_, ?_, (bel4.trans (bB.mono bel4.size)).trans (hgot.bel.mono geo.2.2), geo, gs.yl, ?_, ax0.2.2.2.2.2.2.2⟩, (ev4.alloc _).got hgot (by decide), ax0.2.2.1, ?_⟩
        ·rw [hnsx]; exact (nn4.below bB (Nat.le_refl _)).got hgot (by decide)
        ·rw [hlsx]
         have hlA2 := hlA
         rw [ax0.2.2.2.1] at hgot hlA2 ⊢
         exact hlA2.open_ vs hgot hv1 (fun i a l h5 h6 => (hv3 i a l h5 h6).below bB (Nat.le_refl _))
        ·rw [hnsx, hlsx, ax0.2.2.2.2.1]; exact ax0.2.1
        ·rw [hlsx, ax0.2.2.2.1]; simp
       have AT : Aside _ := hT0
       clear hg4 howN hlN h1N hi9 hy0 hy1 hy2 hv1 hv2 hv3 hv4 bA bB hlA hcA hlsx hnsx hT0 ax0 gs geo ll4 wz4 ev4 bel4 nn4 AS
       go_upto_region 20 with (at_builtin; refine wpList_ow Tryz.prog _ rfl (.tmp 45) (.tmp 46) 24 rfl 22 i0 _ 1 24 Tryz.underlying24 hi0 hz0 hz1 hz2 rfl (by decide) lo2 (.slice ay n c') n _ (by rfl) howA (some ⟨H4, 0, none⟩) [.slice none 0 0] 1 1 rfl (by rfl) (by intro h; cases h) hlz h1c hAm.out.1 hAm.out.2.2 ?_; intro v5 w5 hgot; obtain ⟨a5, c5, hv5, _⟩ := hgot.ow.shape; subst hv5)
       have T0 := AT.out a5 c5 w5 hgot
       clear hgot howA hlz h1c hi0 hz0 hz1 hz2 hH hH4 c0' c1' c4'
       have t0 := T0.out
       obtain ⟨E2, hE2⟩ : ∃ E2, w5.heap.size = E2 := ⟨_, rfl⟩
       obtain ⟨wa, hwa⟩ : ∃ wa, w5.alloc (.cells #[.int .i64 1, .int .u8 eb, .int .i64 en, .int .i64 0, .string (st nm)] 46) = wa := ⟨_, rfl⟩
       have d0 := t0.2.1.cell 0
       have d1 := t0.2.1.cell 1
       have d2 := t0.2.1.cell 2
       have d3 := t0.2.1.cell 3
       have d4 := t0.2.1.cell 4
       obtain ⟨ek2, eb2, en2, nm2, ok2, rem2, hn2, hc2⟩ := next_all (t0.1.wz.below (u := wa) (by rw [← hwa]; exact (Below.refl _ w5).alloc (Nat.le_refl _) _) (Nat.le_refl _)) (by
        have h1 := t0.1.yl
        have h2 := t0.1.g1
        have h4 := t0.1.ms.gn
        have h5 := AN.out.1
        unfold MM
        omega)
       have hfin : ∀ w7, Wz w7 lo hi B D b R W s1 rem2 → Fz lo hi wa w7 → Cells w7 E2 #[.int .i64 1, .int .u8 eb, .int .i64 en, .int .i64 0, .string (st nm)] 46 ∧ Gq lo hi B D b R W lo2 E2 w (((((w7.setCell ⟨E2, 0, none⟩ (.int .i64 ek2)).setCell ⟨E2, 1, none⟩ (.int .u8 eb2)).setCell ⟨E2, 2, none⟩ (.int .i64 en2)).setCell ⟨E2, 3, none⟩ (.int .i64 0)).setCell ⟨E2, 4, none⟩ (.string (st nm2))) ek2 eb2 en2 nm2 ok2 (.slice a4 (n + 1) c4) (.slice a5 (n + 1) c5) nsx lsx s1 rem2 gv N L y G1 fut2 R0 := fun w7 k7 b7 => by
        rw [← hwa] at b7
        exact t0.1.next hE2 k7 b7 hc2
       have AF : Aside _ := hfin
       have hmeas : rem2.length + ok2.toNat < gk := by
        rw [t0.2.2.1]
        rcases hc2 with ⟨h1, h2, h3⟩ | ⟨h1, g', _, _, _, h4⟩
        ·rw [h1, h3]; simp
        ·rw [h1, h4]; simp
       have AM : Aside (rem2.length + ok2.toNat < gk ∧ (n + 1) = (lsx).length) := ⟨hmeas, t0.2.2.2⟩
       have AWa : Aside _ := hwa
       clear t0 hc2 hfin hmeas hwa
       go_upto_region 9 with fail
       rw [AWa.out]
       clear hE2 d0 d1 d2 d3 d4
       go_wp2_with (go_at_call 23; refine hn2.mono ?_; rintro e7 w7 ⟨rfl, k7, b7⟩; have kk := (AF.out w7 k7 b7).1; have g0 := kk.cell 0; have g1 := kk.cell 1; have g2 := kk.cell 2; have g3 := kk.cell 3; have g4 := kk.cell 4; have z0 := kk.frozen 0; have z1 := kk.frozen 1; have z2 := kk.frozen 2; have z3 := kk.frozen 3; have z4 := kk.frozen 4)
       have am := AM.out
       go_roundg (rem2.length + ok2.toNat)
       case measure => exact am.1
       case rel => exact ⟨E2, ok2, (n + 1), _, _, gv, _, _, rfl, rfl, rfl, rfl, rfl, ⟨ek2, eb2, en2, nm2, nsx, lsx, rem2, (AF.out w7 k7 b7).2, rfl, am.2⟩⟩
      ·by_cases h257 : g.1 = 257
       ·have ek3 : ek = 3 := by rw [hek, h257]; rfl
        subst ek3
        rw [if_neg (by omega)] at hG
        obtain ⟨lsx, hlsx⟩ : ∃ lsx, lsx = ls := ⟨_, rfl⟩
        subst hlsx
        obtain ⟨nsx, hnsx⟩ : ∃ nsx, nsx = ns := ⟨_, rfl⟩
        subst hnsx
        have T0 : Aside (Gu lo hi B D b R W lo2 w wr (.slice ax n c) (.slice ay n c') nsx lsx s1 rem gv N L y G1 fut2 R0 ∧ Cells wr E1 #[.int .i64 3, .int .u8 eb, .int .i64 en, .int .i64 0, .string (st nm)] 46 ∧ gk = rem.length + true.toNat ∧ n = lsx.length) := ⟨⟨gs.wz, gs.nn, gs.ll, gs.bel, gs.geo, gs.yl, hMs.close h257, by omega⟩, gs.ev, hgk, hnl⟩
        clear hT gs hgk hnl hMs hG hek heb hg258 h256 h257 hnm
        go_upto_region 20 with fail
        clear c0' c1' c4'
        have t0 := T0.out
        obtain ⟨E2, hE2⟩ : ∃ E2, wr.heap.size = E2 := ⟨_, rfl⟩
        obtain ⟨wa, hwa⟩ : ∃ wa, wr.alloc (.cells #[.int .i64 3, .int .u8 eb, .int .i64 en, .int .i64 0, .string (st nm)] 46) = wa := ⟨_, rfl⟩
        have d0 := t0.2.1.cell 0
        have d1 := t0.2.1.cell 1
        have d2 := t0.2.1.cell 2
        have d3 := t0.2.1.cell 3
        have d4 := t0.2.1.cell 4
        obtain ⟨ek2, eb2, en2, nm2, ok2, rem2, hn2, hc2⟩ := next_all (t0.1.wz.below (u := wa) (by rw [← hwa]; exact (Below.refl _ wr).alloc (Nat.le_refl _) _) (Nat.le_refl _)) (by
         have h1 := t0.1.yl
         have h2 := t0.1.g1
         have h4 := t0.1.ms.gn
         have h5 := AN.out.1
         unfold MM
         omega)
        have hfin : ∀ w7, Wz w7 lo hi B D b R W s1 rem2 → Fz lo hi wa w7 → Cells w7 E2 #[.int .i64 3, .int .u8 eb, .int .i64 en, .int .i64 0, .string (st nm)] 46 ∧ Gq lo hi B D b R W lo2 E2 w (((((w7.setCell ⟨E2, 0, none⟩ (.int .i64 ek2)).setCell ⟨E2, 1, none⟩ (.int .u8 eb2)).setCell ⟨E2, 2, none⟩ (.int .i64 en2)).setCell ⟨E2, 3, none⟩ (.int .i64 0)).setCell ⟨E2, 4, none⟩ (.string (st nm2))) ek2 eb2 en2 nm2 ok2 (.slice ax n c) (.slice ay n c') nsx lsx s1 rem2 gv N L y G1 fut2 R0 := fun w7 k7 b7 => by
         rw [← hwa] at b7
         exact t0.1.next hE2 k7 b7 hc2
        have AF : Aside _ := hfin
        have hmeas : rem2.length + ok2.toNat < gk := by
         rw [t0.2.2.1]
         rcases hc2 with ⟨h1, h2, h3⟩ | ⟨h1, g', _, _, _, h4⟩
         ·rw [h1, h3]; simp
         ·rw [h1, h4]; simp
        have AM : Aside (rem2.length + ok2.toNat < gk ∧ n = (lsx).length) := ⟨hmeas, t0.2.2.2⟩
        have AWa : Aside _ := hwa
        clear t0 hc2 hfin hmeas hwa
        go_upto_region 9 with fail
        rw [AWa.out]
        clear hE2 d0 d1 d2 d3 d4
        go_wp2_with (go_at_call 23; refine hn2.mono ?_; rintro e7 w7 ⟨rfl, k7, b7⟩; have kk := (AF.out w7 k7 b7).1; have g0 := kk.cell 0; have g1 := kk.cell 1; have g2 := kk.cell 2; have g3 := kk.cell 3; have g4 := kk.cell 4; have z0 := kk.frozen 0; have z1 := kk.frozen 1; have z2 := kk.frozen 2; have z3 := kk.frozen 3; have z4 := kk.frozen 4)
        have am := AM.out
        go_roundg (rem2.length + ok2.toNat)
        case measure => exact am.1
        case rel => exact ⟨E2, ok2, n, _, _, gv, _, _, rfl, rfl, rfl, rfl, rfl, ⟨ek2, eb2, en2, nm2, nsx, lsx, rem2, (AF.out w7 k7 b7).2, rfl, am.2⟩⟩
       ·have hgb : g.1 < 256 := by omega
        obtain ⟨gg, hgg⟩ : ∃ gg, g.1 = gg := ⟨_, rfl⟩
        have ekk : ek = 2 := by rw [hek]; unfold gk1; rw [if_neg h256, if_neg h257]
        have ebb : eb = (gg : Int) := by rw [heb, ← hgg]; unfold gk2; rw [if_pos hgb]
        subst ekk
        subst ebb
        rw [if_pos hgb] at hG
        by_cases hgN : gv < N
        ·have tg : decide ((gv : Int) ≥ n0) = false := decide_eq_false (by have := AN.out.2.2.2.2.2.2.2.2.1; omega)
         have hne := hMs.ne hgb
         obtain ⟨m, hm⟩ : ∃ m, n = m + 1 := ⟨n - 1, by have := List.length_pos_iff.2 hne; omega⟩
         subst hm
         obtain ⟨l, hl⟩ : ∃ l, ls[m]? = some l := ⟨_, List.getElem?_eq_getElem (by omega)⟩
         obtain ⟨vs, hv1, hv2, hv3, hv4⟩ := gs.ll.ex
         rw [← hnl] at hv1 hv2
         obtain ⟨av, hav⟩ : ∃ av, vs[m]? = some av := ⟨_, List.getElem?_eq_getElem (by omega)⟩
         have hsh := hv2.shape
         obtain ⟨a9, c9, h9, _, h10 | ⟨gb, h10, hgblo, ⟨cgb, hcgb⟩, h11, h12⟩, _⟩ := hsh
         ·omega
         cases h9
         subst h10
         have cel := h11 m av hav
         have fel := h12 m
         have hoi := hv3 m av l hav hl
         obtain ⟨a6, c6, hv6, _⟩ := hoi.shape
         obtain ⟨k6, hk6⟩ : ∃ k6, l.length = k6 := ⟨_, rfl⟩
         rw [hk6] at hv6 hoi
         subst hv6
         obtain ⟨H, hH⟩ : ∃ H, wr.heap.size = H := ⟨_, rfl⟩
         obtain ⟨wA, hwA⟩ : ∃ wA, (wr.alloc (.cells #[.int .u8 (gg : Int)] 5)).drew = wA := ⟨_, rfl⟩
         have bA : Below wr.heap.size wr wA := by rw [← hwA]; exact ((Below.refl _ wr).alloc (Nat.le_refl _) _).drew
         have hoiA := hoi.below bA (Nat.le_refl _)
         have hbyteA : wA.cell? ⟨H, 0, none⟩ = some (.int .u8 (gg : Int)) := by rw [← hwA, ← hH]; exact ((Cells.new wr #[.int .u8 (gg : Int)] 5).drew).cell 0
         have celA : (wr.alloc (.cells #[.int .u8 (gg : Int)] 5)).cell? ⟨gb, m, none⟩ = some (.slice a6 k6 c6) := by
          have hlt : gb < wr.heap.size := (Array.getElem?_eq_some_iff.1 hcgb).1
          have := (((Below.refl _ wr).alloc (Nat.le_refl _) (.cells #[.int .u8 (gg : Int)] 5)).cell (p := ⟨gb, m, none⟩) hlt)
          rw [this]; exact cel
         have c1A : (wr.alloc (.cells #[.int .u8 (gg : Int)] 5)).cell? ⟨E1, 1, none⟩ = some (.int .u8 (gg : Int)) := by rw [(gs.ev.alloc _).cell]; rfl
         have hlen9 := hMs.each l (List.mem_of_getElem? hl)
         have hAm : Aside (k6 + 1 ≤ 140737488355328 ∧ l.length = k6) := by
          have := hMs.gn
          have := AN.out.1
          exact ⟨by omega, hk6⟩
         obtain ⟨lsx, hlsx⟩ : ∃ lsx, lsx = ls.dropLast ++ [l ++ [gg]] := ⟨_, rfl⟩
         obtain ⟨nsx, hnsx⟩ : ∃ nsx, nsx = ns := ⟨_, rfl⟩
         subst hnsx
         have hlastl : ls.getLastD [] = l := by
          rw [List.getLastD_eq_getLast?, List.getLast?_eq_getElem?, ← hnl, Nat.add_sub_cancel, hl]; rfl
         have hT0 : ∀ (g5 c5 : Nat) (w5 : World), Gob lo2 wA w5 (.slice a6 k6 c6) (.slice (some ⟨g5, 0, none⟩) (k6 + 1) c5) (k6 + 1) (l ++ [gg]) → (w5.cell? ⟨gb, m, none⟩ = some (.slice a6 k6 c6) ∧ w5.frozen? ⟨gb, m, none⟩ = false) ∧ Aside (Gu lo hi B D b R W lo2 w (w5.setCell ⟨gb, m, none⟩ (.slice (some ⟨g5, 0, none⟩) (k6 + 1) c5)) (.slice ax (m + 1) c) (.slice (some ⟨gb, 0, none⟩) (m + 1) c') nsx lsx s1 rem (gv + 1) N L y G1 fut2 R0 ∧ Cells (w5.setCell ⟨gb, m, none⟩ (.slice (some ⟨g5, 0, none⟩) (k6 + 1) c5)) E1 #[.int .i64 2, .int .u8 (gg : Int), .int .i64 en, .int .i64 0, .string (st nm)] 46 ∧ gk = rem.length + true.toNat ∧ (m + 1) = lsx.length) := fun g5 c5 w5 hgob => by
          have hv2A := hv2.below bA (Nat.le_refl _)
          have hv2u := hv2A.got hgob.got (by decide)
          have hcg5 : ∃ cs, w5.heap[gb]? = some (.cells cs 22 (0, 0)) := by
           rcases hv2u.own.2 with ⟨hv, h0⟩ | ⟨g', c', cur, hv, hg, hh, _⟩
           ·cases hv
           ·cases hv; exact ⟨_, hh⟩
          obtain ⟨cg, hcg⟩ := hcg5
          obtain ⟨a9, c9, h9, _, h10 | ⟨gb', h10, _, _, h11', h12'⟩, _⟩ := hv2u.shape
          ·omega
          cases h9
          cases h10
          have geo := gs.geo
          have o6 : Only gb w5 (w5.setCell ⟨gb, m, none⟩ (.slice (some ⟨g5, 0, none⟩) (k6 + 1) c5)) := (Only.refl gb w5).setCell _ _
          have wz5 := gotw (gs.wz.below bA (Nat.le_refl _)) hgob.got geo.2.1 (Or.inl rfl)
          have hE5 := (gs.ev.below bA gs.ev.lt).got hgob.got (by decide)
          have hEne : E1 ≠ gb := fun e => by subst e; unfold Cells at hE5; rw [hE5] at hcg; cases hcg
          refine ⟨⟨h11' m _ hav, h12' m⟩, ⟨?_, ?_, ?_, ((gs.bel.trans (bA.mono gs.bel.size)).trans (hgob.got.bel.mono geo.2.2)).trans (o6.below (by omega)), geo, gs.yl, ?_, ?_⟩, hE5.only o6 hEne, hgk, ?_⟩
          ·refine wz5.out ⟨o6.os, o6.tape, o6.output, Nat.le_of_eq o6.size.symm, fun k hk => o6.block k (by omega)⟩ fun i hi' => ?_
           by_cases e : i = gb
           ·subst e; exact Or.inr ⟨cg, 22, _, hcg, Or.inr (Or.inl rfl)⟩
           ·exact Or.inl (o6.block i e)
          ·exact ((gs.nn.below bA (Nat.le_refl _)).got hgob.got (by decide)).only o6 (cs := cg) (t := 22) hcg (by decide)
          ·rw [hlsx]
           have hllA := gs.ll.below bA (Nat.le_refl _)
           have hg2 : Gob lo2 wA w5 (.slice a6 k6 c6) (.slice (some ⟨g5, 0, none⟩) (k6 + 1) c5) (l.length + 1) (l ++ [gg]) := by rw [hk6]; exact hgob
           exact Ll.byte hllA hnl.symm hv1 hl hv2A (fun i a l' h5 h6 => (hv3 i a l' h5 h6).below bA (Nat.le_refl _)) hv4 hav hg2 rfl
          ·rw [hlsx, ← hgg]; exact hMs.byte hgb hgN hlastl (List.mem_of_getElem? hl)
          ·omega
          ·rw [hlsx]; simp; omega
         have AT : Aside _ := hT0
         have hm1 : ((m : Int) + 1) - 1 = (m : Int) := by omega
         have bm : (m : Int) < 2000000000000 := by have := hMs.no; omega
         have bgv : (gv : Int) < 2000000000000 := by have := hMs.gn; have := AN.out.1; omega
         rw [← hwA] at hoiA hbyteA AT
         have b1 : ((m : Int) < (m : Int) + 1) = True := eq_true (by omega)
         have tgn : ¬ ((gv : Int) ≥ n0) := by have := AN.out.2.2.2.2.2.2.2.2.1; omega
         clear hT gs hgk hMs hG hek heb hg258 hv1 hv2 hv3 hv4 bA hlsx hT0 hnl hlen9 hlastl h11 h12 hoi hne hl hav hcgb hwA hk6 h256 h257 hgb hgN hgblo hLb hnm hgg
         go_upto_region 19 with fail
         go_region_law (refine step_gob rfl (.tmp 65) (.tmp 68) rfl lo2 (.slice a6 k6 c6) k6 l (by go_simp) hoiA hAm.out.2 H 1 gg (by go_simp) hbyteA hAm.out.1 ?_; intro g5 c5 w5 hgob; have e4 := (AT.out g5 c5 w5 hgob).1.1; have f4 := (AT.out g5 c5 w5 hgob).1.2)
         all_goals
          have T0 := (AT.out g5 c5 w5 hgob).2
          obtain ⟨wx, hwx⟩ : ∃ wx, w5.setCell ⟨gb, m, none⟩ (.slice (some ⟨g5, 0, none⟩) (k6 + 1) c5) = wx := ⟨_, rfl⟩
          go_upto_region 20 with fail
          (try rw [hwx])
          rw [hwx] at T0
          clear hgob hoiA hbyteA hH c0' c1' c4' cel fel celA c1A e4 f4 hwx
          have t0 := T0.out
          obtain ⟨E2, hE2⟩ : ∃ E2, wx.heap.size = E2 := ⟨_, rfl⟩
          obtain ⟨wa, hwa⟩ : ∃ wa, wx.alloc (.cells #[.int .i64 2, .int .u8 (gg : Int), .int .i64 en, .int .i64 0, .string (st nm)] 46) = wa := ⟨_, rfl⟩
          have d0 := t0.2.1.cell 0
          have d1 := t0.2.1.cell 1
          have d2 := t0.2.1.cell 2
          have d3 := t0.2.1.cell 3
          have d4 := t0.2.1.cell 4
          obtain ⟨ek2, eb2, en2, nm2, ok2, rem2, hn2, hc2⟩ := next_all (t0.1.wz.below (u := wa) (by rw [← hwa]; exact (Below.refl _ wx).alloc (Nat.le_refl _) _) (Nat.le_refl _)) (by
           have h1 := t0.1.yl
           have h2 := t0.1.g1
           have h4 := t0.1.ms.gn
           have h5 := AN.out.1
           unfold MM
           omega)
          have hfin : ∀ w7, Wz w7 lo hi B D b R W s1 rem2 → Fz lo hi wa w7 → Cells w7 E2 #[.int .i64 2, .int .u8 (gg : Int), .int .i64 en, .int .i64 0, .string (st nm)] 46 ∧ Gq lo hi B D b R W lo2 E2 w (((((w7.setCell ⟨E2, 0, none⟩ (.int .i64 ek2)).setCell ⟨E2, 1, none⟩ (.int .u8 eb2)).setCell ⟨E2, 2, none⟩ (.int .i64 en2)).setCell ⟨E2, 3, none⟩ (.int .i64 0)).setCell ⟨E2, 4, none⟩ (.string (st nm2))) ek2 eb2 en2 nm2 ok2 (.slice ax (m + 1) c) (.slice (some ⟨gb, 0, none⟩) (m + 1) c') nsx lsx s1 rem2 (gv + 1) N L y G1 fut2 R0 := fun w7 k7 b7 => by
           rw [← hwa] at b7
           exact t0.1.next hE2 k7 b7 hc2
          have AF : Aside _ := hfin
          have hmeas : rem2.length + ok2.toNat < gk := by
           rw [t0.2.2.1]
           rcases hc2 with ⟨h1, h2, h3⟩ | ⟨h1, g', _, _, _, h4⟩
           ·rw [h1, h3]; simp
           ·rw [h1, h4]; simp
          have AM : Aside (rem2.length + ok2.toNat < gk ∧ (m + 1) = (lsx).length) := ⟨hmeas, t0.2.2.2⟩
          have AWa : Aside _ := hwa
          clear t0 hc2 hfin hmeas hwa
          go_upto_region 9 with fail
          rw [AWa.out]
          clear hE2 d0 d1 d2 d3 d4
          go_wp2_with (go_at_call 23; refine hn2.mono ?_; rintro e7 w7 ⟨rfl, k7, b7⟩; have kk := (AF.out w7 k7 b7).1; have g0 := kk.cell 0; have g1 := kk.cell 1; have g2 := kk.cell 2; have g3 := kk.cell 3; have g4 := kk.cell 4; have z0 := kk.frozen 0; have z1 := kk.frozen 1; have z2 := kk.frozen 2; have z3 := kk.frozen 3; have z4 := kk.frozen 4)
          have am := AM.out
          go_roundg (rem2.length + ok2.toNat)
          case measure => exact am.1
          case rel => exact ⟨E2, ok2, (m + 1), _, _, (gv + 1), _, _, rfl, rfl, rfl, rfl, rfl, ⟨ek2, eb2, en2, nm2, nsx, lsx, rem2, (AF.out w7 k7 b7).2, rfl, am.2⟩⟩
        ·have tg : decide ((gv : Int) ≥ n0) = true := decide_eq_true (by have := AN.out.2.2.2.2.2.2.2.2.1; omega)
         have A9 : Aside (Ns wr lo2 (.slice ax n c) ns ∧ Ll wr lo2 (.slice ay n c') ls ∧ Below w.heap.size w wr ∧ R0 = ((ns, ls), 62)) := ⟨gs.nn, gs.ll, gs.bel, hMs.over hgb hgN⟩
         clear hT gs hgk hnl hMs hG hek heb hg258 h256 h257 hgb hgN hgg hnm hLb
         go_wp2_with fail
         first | go_ret3 | go_ret | go_ret2
         obtain ⟨a0, a1, a2, a3⟩ := A9.out
         exact wr0_end a0 a1 a2 a3 AG.out (Fz.refl _ _ _)
  ·have t1 : decide ((i : Int) < (L : Int)) = false := decide_eq_false (by omega)
   have bn : ¬ ((i : Int) < (L : Int)) := by omega
   obtain rfl : i = k := by have := an.2.2.2.2.2.2.2.2.2; omega
   obtain ⟨rfl, rfl⟩ := an.2.1.det hri
   have hfut : fut = [] := by
    have := congrArg List.length hTf
    rw [List.length_append] at this
    exact List.eq_nil_of_length_eq_zero (by omega)
   subst hfut
   have kE := wz_end wr hz
   rw [an.2.2.2.1] at kE
   have A9 : Aside (Ns wr lo2 (.slice ax n c) ns ∧ Ll wr lo2 (.slice ay n c') ls ∧ Below w.heap.size w wr ∧ R0 = ((ns, ls), y)) := ⟨hnn, hll, hbel, hms.nil⟩
   clear hT hz hnn hll hbel hri hTf hms hik hnl hgk hgvn an hiL
   go_wp2_with (first
    | (go_at_call 22; refine kE.mono ?_; rintro e3 w3 ⟨rfl, h3, f3⟩)
    | (go_at_call 21; refine (we_reason _ h3).mono ?_; rintro e4 w4 ⟨rfl, rfl⟩))
   first | go_ret3 | go_ret | go_ret2
   obtain ⟨a0, a1, a2, a3⟩ := A9.out
   exact wr0_end a0 a1 a2 a3 AG.out f3
end Go.Proofs.YtpihipbeagpgpaaGreatDoor

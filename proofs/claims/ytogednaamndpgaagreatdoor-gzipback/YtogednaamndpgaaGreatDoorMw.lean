/-
  Own texts of this seat, one behind the other: what each says stands ahead of it.
-/
import Derived.Test.YtogednaamndpgaaGreatDoorMk
import Derived.Test.YtogednaamndpgaaGreatDoorMv
import Derived.Deep.AppendLies
import Derived.Deep.RegionLaw
/-
 Lists of lists of bytes, of the call's own: the members as they are gathered.
-/
namespace Go.Proofs.YtogednaamndpgaaGreatDoor
open Go.RowKit
set_option linter.unusedVariables false
theorem ginfo22 : (Tryz.prog.info? 22).map (fun i => (i.zero, i.size, i.bytes)) = some (some (.slice none 0 0), 1, 24) := by kernel_rfl
def po : List (List Nat) → List Nat → List (List Nat)
 | ls, [] => ls
 | ls, g :: r => if g = 256 then po (ls ++ [[]]) r else if g = 257 then po ls r else po (ls.dropLast ++ [ls.getLastD [] ++ [g]]) r
def Gd : Bool → List Nat → Prop
 | _, [] => True
 | i, g :: r => if g = 256 then Gd true r else if g = 257 then Gd i r else i = true ∧ Gd i r
structure Ll (w : World) (lo : Nat) (v : Value) (ls : List (List Nat)) : Prop where
 ex : ∃ vs : List Value, vs.length = ls.length ∧ Ow w lo 22 1 v ls.length vs ∧ (∀ (i : Nat) (a : Value) (l : List Nat), vs[i]? = some a → ls[i]? = some l → Ow w lo 5 1 a l.length (ob l)) ∧ ∀ (i : Nat) (a z : Value), vs[i]? = some a → i + 1 < vs.length → vs.getLast? = some z → ∀ g, a.ownBlock = some g → z.ownBlock ≠ some g
theorem Ll.nil {w : World} {lo : Nat} (h : lo ≤ w.heap.size) : Ll w lo (.slice none 0 0) [] := ⟨[], rfl, Ow.nil h, fun i a l h => by simp at h, fun i a z h => by simp at h⟩
theorem Ll.keep {w u : World} {lo : Nat} {v : Value} {ls : List (List Nat)} (h : Ll w lo v ls) (hs : w.heap.size ≤ u.heap.size) (k : ∀ g, lo ≤ g → g < w.heap.size → (∃ cs e fr, w.heap[g]? = some (.cells cs e fr) ∧ (e = 5 ∨ e = 22)) → u.heap[g]? = w.heap[g]?) : Ll u lo v ls := by
 obtain ⟨vs, h1, h2, h3, h4⟩ := h.ex
 exact ⟨vs, h1, h2.keep hs (fun g a b ⟨cs, fr, c⟩ => k g a b ⟨cs, 22, fr, c, Or.inr rfl⟩), fun i a l ha hl => (h3 i a l ha hl).keep hs (fun g a b ⟨cs, fr, c⟩ => k g a b ⟨cs, 5, fr, c, Or.inl rfl⟩), h4⟩
theorem Ll.below {w u : World} {lo C : Nat} {v : Value} {ls : List (List Nat)} (h : Ll w lo v ls) (k : Below C w u) (hC : w.heap.size ≤ C) : Ll u lo v ls := h.keep k.size fun g _ h2 _ => k.block g (by omega)
theorem Ll.drewN {w : World} {lo : Nat} {v : Value} {ls : List (List Nat)} (h : Ll w lo v ls) (n : Nat) : Ll (w.drewN n) lo v ls := h.keep (Nat.le_refl _) fun _ _ _ _ => rfl
theorem Ll.but {w u : World} {lo M : Nat} {v : Value} {ls : List (List Nat)} {cs : Array Value} {t : TypeId} (h : Ll w lo v ls) (k : But M w u) (hM : Cells w M cs t) (ht : t ≠ 5 ∧ t ≠ 22) : Ll u lo v ls := h.keep k.size fun g _ h2 ⟨cs', e, fr, hc, he⟩ => k.block g h2 (fun e2 => by
 subst e2
 unfold Cells at hM
 rw [hM] at hc
 cases hc
 rcases he with rfl | rfl
 ·exact ht.1 rfl
 ·exact ht.2 rfl)
theorem Ll.le {w : World} {lo : Nat} {v : Value} {ls : List (List Nat)} (h : Ll w lo v ls) : lo ≤ w.heap.size := by obtain ⟨vs, _, h2, _⟩ := h.ex; exact h2.le
theorem Ll.shape {w : World} {lo : Nat} {v : Value} {ls : List (List Nat)} (h : Ll w lo v ls) : ∃ a c, v = .slice a ls.length c ∧ ls.length ≤ c := by
 obtain ⟨vs, _, h2, _⟩ := h.ex
 obtain ⟨a, c, hv, hc, _⟩ := h2.shape
 exact ⟨a, c, hv, hc⟩
theorem Ll.open_ {w u : World} {lo : Nat} {v v' : Value} {ls : List (List Nat)} (h : Ll w lo v ls) (vs : List Value) (k : Got lo 22 1 w u v v' (ls.length + 1) (vs ++ [.slice none 0 0])) (hvs : vs.length = ls.length) (h3 : ∀ (i : Nat) (a : Value) (l : List Nat), vs[i]? = some a → ls[i]? = some l → Ow w lo 5 1 a l.length (ob l)) : Ll u lo v' (ls ++ [[]]) := by
 refine ⟨vs ++ [.slice none 0 0], by simp [hvs], by simpa using k.ow, fun i a l ha hl => ?_, fun i a z ha hi hz g hg => ?_⟩
 ·by_cases hlt : i < vs.length
  ·rw [List.getElem?_append_left hlt] at ha
   rw [List.getElem?_append_left (by omega)] at hl
   exact (h3 i a l ha hl).got k (by decide)
  ·have hi : i = vs.length := by
    have := (List.getElem?_eq_some_iff.1 ha).1
    simp at this
    omega
   subst hi
   rw [List.getElem?_append_right (by omega)] at ha
   rw [List.getElem?_append_right (by omega)] at hl
   simp [hvs] at ha hl
   subst hl
   rw [← ha]
   exact Ow.nil k.ow.le
 ·rw [List.getLast?_append] at hz
  simp at hz
  rw [← hz]
  simp [Value.ownBlock]
theorem Ow.keep1 {w u : World} {lo sz n : Nat} {e : TypeId} {v : Value} {l : List Value} (h : Ow w lo e sz v n l) (hs : w.heap.size ≤ u.heap.size) (k : ∀ g, v.ownBlock = some g → u.heap[g]? = w.heap[g]?) : Ow u lo e sz v n l := by
 refine ⟨⟨h.own.1, ?_⟩, Nat.le_trans h.le hs⟩
 rcases h.own.2 with q | ⟨g, c, cur, hv, hg, hh, q⟩
 ·exact Or.inl q
 ·exact Or.inr ⟨g, c, cur, hv, hg, (k g (by rw [hv]; rfl)).trans hh, q⟩
structure Gob (lo : Nat) (w w' : World) (a a' : Value) (n : Nat) (l : List Nat) : Prop where
 got : Got lo 5 1 w w' a a' n (ob l)
 blk : ∀ g, a'.ownBlock = some g → a.ownBlock = some g ∨ g = w.heap.size
theorem Ow.set_at {w : World} {lo n i g : Nat} {e : TypeId} {a : Option Addr} {c : Nat} {xs : List Value} (h : Ow w lo e 1 (.slice (some ⟨g, 0, none⟩) n c) n xs) (x : Value) (hi : i < n) (h1 : x.oneCell' = true) : Ow (w.setCell ⟨g, i, none⟩ x) lo e 1 (.slice (some ⟨g, 0, none⟩) n c) n (xs.set i x) := by
 have hl := h.own.1
 refine ⟨⟨by simpa using hl, ?_⟩, by simpa [World.setCell] using h.le⟩
 rcases h.own.2 with ⟨hv, h0⟩ | ⟨g', c', cur, hv, hg, hh, hc, hm, hs, ht⟩
 ·cases hv
 ·cases hv
  refine Or.inr ⟨g, c, cur.setIfInBounds i x, rfl, hg, ?_, hc, hm, by simpa using hs, ?_⟩
  ·simp [World.setCell, Array.getElem?_modify, hh]
  ·rw [Array.toList_setIfInBounds, List.take_set, ht]
theorem Ll.byte {w u : World} {lo n g c x : Nat} {ls : List (List Nat)} {l : List Nat} {vs : List Value} {a a' : Value} (h : Ll w lo (.slice (some ⟨g, 0, none⟩) (n + 1) c) ls) (hls : ls.length = n + 1) (hvs : vs.length = n + 1) (hl : ls[n]? = some l)
  (h2 : Ow w lo 22 1 (.slice (some ⟨g, 0, none⟩) (n + 1) c) (n + 1) vs) (h3 : ∀ (i : Nat) (a : Value) (l : List Nat), vs[i]? = some a → ls[i]? = some l → Ow w lo 5 1 a l.length (ob l)) (h4 : ∀ (i : Nat) (a z : Value), vs[i]? = some a → i + 1 < vs.length → vs.getLast? = some z → ∀ g, a.ownBlock = some g → z.ownBlock ≠ some g)
  (ha : vs[n]? = some a) (k : Gob lo w u a a' (l.length + 1) (l ++ [x])) (h1 : a'.oneCell' = true) : Ll (u.setCell ⟨g, n, none⟩ a') lo (.slice (some ⟨g, 0, none⟩) (n + 1) c) (ls.dropLast ++ [l ++ [x]]) := by
 have hlast : vs.getLast? = some a := by rw [List.getLast?_eq_getElem?, hvs, Nat.add_sub_cancel, ha]
 have hu := h2.got k.got (by decide)
 have hset := Ow.set_at (a := none) hu a' (i := n) (by omega) h1
 have kg : ∃ cs, u.heap[g]? = some (.cells cs 22 (0, 0)) := by
  rcases hu.own.2 with ⟨hv, h0⟩ | ⟨g', c', cur, hv, hg, hh, _⟩
  ·cases hv
  ·cases hv; exact ⟨_, hh⟩
 obtain ⟨cg, hcg⟩ := kg
 have hdl : ls.dropLast.length = n := by simp [hls]
 refine ⟨vs.set n a', by simp [hvs, hls], by simpa [hls] using hset, fun i b m hb hm => ?_, fun i b z hb hi hz gb hgb => ?_⟩
 ·by_cases hin : i = n
  ·rw [hin, List.getElem?_set_self (by omega)] at hb
   rw [hin, List.getElem?_append_right (by omega), hdl] at hm
   simp at hb hm
   subst hb hm
   have := k.got.ow.set (i := n) (x := a') (b := g) (cs := cg) (t := 22) hcg (by decide)
   simpa using this
  ·rw [List.getElem?_set_ne (Ne.symm hin)] at hb
   have hilt : i < n := by have := (List.getElem?_eq_some_iff.1 hb).1; omega
   rw [List.getElem?_append_left (by omega), List.getElem?_dropLast, if_pos (by omega)] at hm
   have ho := h3 i b m hb hm
   refine (ho.keep1 k.got.size (fun gg hgg => ?_)).set (b := g) (cs := cg) (t := 22) hcg (by decide)
   exact k.got.kb gg (ho.lt_block hgg).2 (fun e => h4 i b a hb (by omega) hlast gg hgg e.symm)
 ·rw [List.length_set] at hi
  have hin : i ≠ n := by omega
  rw [List.getElem?_set_ne (Ne.symm hin)] at hb
  have hz2 : z = a' := by
   rw [List.getLast?_eq_getElem?, List.length_set, hvs, Nat.add_sub_cancel, List.getElem?_set_self (by omega)] at hz
   simpa using hz.symm
  rw [hz2]
  intro e
  have hilt : i < n := by omega
  obtain ⟨m, hm⟩ : ∃ m, ls[i]? = some m := ⟨_, List.getElem?_eq_getElem (by omega)⟩
  rcases k.blk gb e with h5 | h5
  ·exact h4 i b a hb (by omega) hlast gb hgb h5
  ·have := ((h3 i b m hb hm).lt_block hgb).2
   omega
theorem step_gob {w : World} {ops : Array Oper} {o : Oper} {a : Act} {K : Act → World → Prop} {Q : Exit → Act → World → Prop} {E : Prop} (hgd : o.guard = none) (s x : Operand)
  (ho : o.op = .call { callee := .builtin .append, args := #[s, x], argTypes := #[22, 22] }) (lo : Nat) (v : Value) (k : Nat) (l : List Nat) (hs : a.eval s = v) (hown : Ow w lo 5 1 v k (ob l)) (hk : l.length = k)
  (b c y : Nat) (hx : a.eval x = .slice (some ⟨b, 0, none⟩) 1 c) (hl : w.cell? ⟨b, 0, none⟩ = some (.int .u8 (y : Int))) (hlen : k + 1 ≤ 140737488355328)
  (h : ∀ g cap w', Gob lo w w' v (.slice (some ⟨g, 0, none⟩) (k + 1) cap) (k + 1) (l ++ [y]) → K (a.put o.dst (.slice (some ⟨g, 0, none⟩) (k + 1) cap)) w') :
  if Region.wanted o (yielded ops a.tmps) = true then Oper.wp Tryz.prog o a w K Q else E := by
 obtain ⟨i, hi, hz0, hz1, hz2⟩ := ginfo_parts ginfo5
 refine step_append_lies w hgd s x 22 ho lo 5 i _ 1 1 Tryz.underlying22 hi hz0 hz1 hz2 rfl (by decide) v _ _ hs hown.own ⟨b, 0, none⟩ 1 c (ob [y]) hx (by rfl) (fun j u hj => ?_) ob_one (by decide) (by unfold maxLen; omega) (by omega) hown.le _ rfl fun g cap w' h2 h3 h4 _ => h g cap w' ⟨?_, ?_⟩
 ·cases j with
  | zero => simp [ob] at hj; rw [← hj, addr_add]; exact hl
  | succ j => simp [ob] at hj
 ·have := Got.mk' hown h2 h3
  rw [ob_append] at this
  exact this
 ·intro g' hg'
  simp [Value.ownBlock] at hg'
  subst hg'
  exact h4
end Go.Proofs.YtogednaamndpgaaGreatDoor

/-
 What is told of a file, counted; what Whole makes of it. No walk.
-/
namespace Go.Proofs.YtogednaamndpgaaGreatDoor
open Go.RowKit
set_option linter.unusedVariables false
def cds (T : List Gev) : List Nat := T.map fun e => e.2.1
def cde (E : List Evn) : List Nat := E.map fun e => e.1
theorem cds_append (T U : List Gev) : cds (T ++ U) = cds T ++ cds U := by simp [cds]
theorem cds_evs (t : Nat) (E : List Evn) : cds (evs t E) = cde E := by simp [cds, cde, evs]
def ct : Nat → List Nat → List Nat × Bool
 | _, [] => ([], false)
 | 0, g :: r => if g < 256 then ([], true) else (g :: (ct 0 r).1, (ct 0 r).2)
 | m + 1, g :: r => if g < 256 then (g :: (ct m r).1, (ct m r).2) else (g :: (ct (m + 1) r).1, (ct (m + 1) r).2)
def rs (m y : Nat) (ls : List (List Nat)) (cs : List Nat) : List (List Nat) × Nat := (po ls (ct m cs).1, if (ct m cs).2 then 62 else y)
section
variable {m y g : Nat} {ls : List (List Nat)} {r : List Nat}
theorem rs_nil : rs m y ls [] = (ls, y) := by cases m <;> rfl
theorem ct_big (h : ¬ g < 256) : ct m (g :: r) = (g :: (ct m r).1, (ct m r).2) := by
 cases m <;> simp [ct, h]
theorem rs_open : rs m y ls (256 :: r) = rs m y (ls ++ [[]]) r := by
 unfold rs
 rw [ct_big (by omega)]
 simp [po]
theorem rs_close : rs m y ls (257 :: r) = rs m y ls r := by
 unfold rs
 rw [ct_big (by omega)]
 simp [po]
theorem rs_byte (h : g < 256) : rs (m + 1) y ls (g :: r) = rs m y (ls.dropLast ++ [ls.getLastD [] ++ [g]]) r := by
 unfold rs
 have e : ct (m + 1) (g :: r) = (g :: (ct m r).1, (ct m r).2) := by simp [ct, h]
 rw [e]
 simp [po, show g ≠ 256 by omega, show g ≠ 257 by omega]
theorem rs_over (h : g < 256) : rs 0 y ls (g :: r) = (ls, 62) := by
 unfold rs
 have e : ct 0 (g :: r) = ([], true) := by simp [ct, h]
 rw [e]
 simp [po]
end
def nop : List Nat → Nat
 | [] => 0
 | g :: r => (if g = 256 then 1 else 0) + nop r
theorem nop_append (a b : List Nat) : nop (a ++ b) = nop a + nop b := by
 induction a with
 | nil => simp [nop]
 | cons g r ih => simp only [List.cons_append, nop, ih]; omega
def nbe : List Nat → Nat
 | [] => 0
 | g :: r => (if g < 256 then 1 else 0) + nbe r
theorem nbe_append (a b : List Nat) : nbe (a ++ b) = nbe a + nbe b := by
 induction a with
 | nil => simp [nbe]
 | cons g r ih => simp only [List.cons_append, nbe, ih]; omega
theorem gd_true : ∀ r : List Nat, Gd true r
 | [] => trivial
 | g :: r => by
  unfold Gd
  split
  ·exact gd_true r
  ·split
   ·exact gd_true r
   ·exact ⟨rfl, gd_true r⟩
theorem gd_append : ∀ (i : Bool) (a b : List Nat), Gd i a → (Gd (i || decide (256 ∈ a)) b) → Gd i (a ++ b)
 | i, [], b, _, h => by simpa using h
 | i, g :: a, b, h1, h2 => by
  unfold Gd at h1
  rw [List.cons_append]
  unfold Gd
  split at h1
  ·rename_i e; rw [if_pos e]; exact gd_append true a b h1 (by simpa using gd_true b)
  ·rename_i e
   rw [if_neg e]
   have h2' : Gd (i || decide (256 ∈ a)) b := by
    have : (256 ∈ g :: a) ↔ 256 ∈ a := by simp [Ne.symm e]
    simpa [this] using h2
   split at h1
   ·rename_i e7; rw [if_pos e7]; exact gd_append i a b h1 h2'
   ·rename_i e7; rw [if_neg e7]; exact ⟨h1.1, gd_append i a b h1.2 h2'⟩
theorem gst_y (s : Gs) (x : Nat) (h9 : s.nx ≠ 9) (hn : s.nx ≤ 13) : (gst s x).1.y.out.length ≤ s.y.out.length := by
 have fo : ∀ t : Gs, (gfield t).1.y.out.length ≤ t.y.out.length := fun t => by
  unfold gfield
  split
  ·exact Nat.le_refl _
  ·split
   ·exact Nat.le_refl _
   ·split
    ·exact Nat.le_refl _
    ·split
     ·exact Nat.le_refl _
     ·exact Nat.zero_le _
 have tx : ∀ t : Gs, t.y = s.y → (gtxt x t).1.y.out.length ≤ s.y.out.length := fun t e => by
  unfold gtxt
  split
  ·exact Nat.le_trans (fo (gcnt x t)) (by show t.y.out.length ≤ _; rw [e]; exact Nat.le_refl _)
  ·split <;> (show t.y.out.length ≤ _; rw [e]; exact Nat.le_refl _)
 have nu : (gnou x s).y = s.y := by unfold gnou; split <;> rfl
 unfold gst
 split
 ·show (if x = 31 then gbgn x s else gbad 40 s).y.out.length ≤ _
  split <;> exact Nat.le_refl _
 ·show (if x = 139 then { gcnt x s with nx := 2 } else gbad 40 s).y.out.length ≤ _
  split <;> exact Nat.le_refl _
 ·show (if x = 8 then { gcnt x s with nx := 3 } else gbad 41 s).y.out.length ≤ _
  split <;> exact Nat.le_refl _
 ·show (if x < 32 then { gcnt x s with fl := x, nx := 4, lf := 6 } else gbad 42 s).y.out.length ≤ _
  split <;> exact Nat.le_refl _
 ·unfold gany
  split
  ·exact fo { gcnt x s with lf := s.lf - 1 }
  ·exact Nat.le_refl _
 ·unfold gext
  split
  ·split
   ·exact Nat.le_refl _
   ·split
    ·exact fo (gath x (gcnt x s))
    ·exact Nat.le_refl _
  ·exact Nat.le_refl _
 ·exact tx _ (by unfold gnam; split <;> rfl)
 ·exact tx _ rfl
 ·unfold ghsm
  split
  ·split
   ·exact Nat.zero_le _
   ·exact Nat.le_refl _
  ·exact Nat.le_refl _
 ·unfold gdsm
  split
  ·split <;> exact Nat.le_refl _
  ·exact Nat.le_refl _
 ·unfold gdsz
  split
  ·split <;> exact Nat.le_refl _
  ·exact Nat.le_refl _
 ·show (if x = 31 then gbgn x s else { gnou x s with nx := 13 }).y.out.length ≤ _
  split
  ·exact Nat.le_refl _
  ·show (gnou x s).y.out.length ≤ _; rw [nu]; exact Nat.le_refl _
 ·show (gnou x s).y.out.length ≤ _; rw [nu]; exact Nat.le_refl _
theorem oct_counts : ∀ o : List Nat, Oct o → nop o = 0 ∧ nbe o = o.length
 | [], _ => ⟨rfl, rfl⟩
 | a :: o, hoc => by
  have h1 := oct_counts o (fun z hz => hoc z (List.mem_cons_of_mem _ hz))
  have h2 := hoc a (List.mem_cons_self ..)
  refine ⟨?_, ?_⟩
  ·simp only [nop, if_neg (show ¬ a = 256 by omega), h1.1]
  ·simp only [nbe, if_pos h2, h1.2, List.length_cons]; omega
theorem sp_tells {s s1 : Gs} {x : Nat} {E : List Evn} (hok : Gok s) (h0 : s.why = 0) (hs : Sp s x s1 E) : (∀ c ∈ cde E, c < 258) ∧ nop (cde E) ≤ 1 ∧ s1.y.out.length ≤ s.y.out.length + nbe (cde E) ∧ (Gd (decide (s.nx = 9)) (cde E)) ∧ (s1.nx = 9 → s.nx = 9 ∨ 256 ∈ cde E) := by
 rcases hs with ⟨h9, y, hy, rfl, rfl⟩ | ⟨h9, rfl, rfl⟩
 ·obtain ⟨d1, d2, d3, d4⟩ := hok.d9 h0 h9
  obtain ⟨o, q1, _, _⟩ := d1.next hy
  have hoc : Oct o := fun z hz => hy.oct z (by rw [q1]; exact List.mem_append_right _ hz)
  have e1 : cde ((y.out.drop s.y.out.length).map fun b => (b, [])) = o := by
   rw [q1, List.drop_left]
   unfold cde
   rw [List.map_map]
   exact List.map_id o
  rw [e1]
  have e2 := oct_counts o hoc
  refine ⟨fun c hc => by have := hoc c hc; omega, by rw [e2.1]; decide, ?_, ?_, fun _ => Or.inl h9⟩
  ·show y.out.length ≤ _
   rw [q1, e2.2, List.length_append]; exact Nat.le_refl _
  ·rw [decide_eq_true h9]; exact gd_true _
 ·have hf := gst_form (x := x) hok.nx h9
  rcases hf with ⟨e1, e2⟩ | ⟨m, e1, e2, e3, e4, e5⟩ | ⟨e1, e2, e3⟩
  ·rw [e1]
   refine ⟨fun c hc => by simp [cde] at hc, by decide, ?_, trivial, fun q => absurd q e2⟩
   exact Nat.le_trans (gst_y s x h9 hok.nx) (Nat.le_add_right _ _)
  ·rw [e1]
   refine ⟨fun c hc => by simp [cde] at hc; omega, by simp [cde, nop], ?_, ?_, fun _ => Or.inr (by simp [cde])⟩
   ·rw [e4]; exact Nat.zero_le _
   ·simp [cde, Gd]
  ·rw [e1]
   refine ⟨fun c hc => by simp [cde] at hc; omega, by decide, ?_, ?_, fun q => by rw [e2] at q; cases q⟩
   ·exact Nat.le_trans (gst_y s x h9 hok.nx) (Nat.le_add_right _ _)
   ·simp [cde, Gd]
theorem Rch.last {b : List Nat} {k : Nat} {s : Gs} {T : List Gev} (h : Rch b (k + 1) s T) : ∃ s' T' x E, Rch b k s' T' ∧ s'.why = 0 ∧ b[k]? = some x ∧ Sp s' x s E ∧ T = T' ++ evs k E := by
 obtain ⟨s1, T1, T2, q1, _, _⟩ := h.back (Nat.le_succ k)
 obtain ⟨h0, x, s2, E, T3, a1, a2, a3, a4, a5⟩ := h.at q1 (Nat.lt_succ_self k)
 have hl := h.1
 have e : (b.take (k + 1)).drop (k + 1) = [] := by rw [List.drop_eq_nil_iff, List.length_take]; omega
 rw [e] at a5
 obtain ⟨rfl, rfl⟩ := a5
 exact ⟨s1, T1, x, E, q1, h0, a1, a2, by rw [a4, List.append_nil]⟩
structure Rfc (b : List Nat) (k : Nat) (s : Gs) (T : List Gev) : Prop where
 ok : Gok s
 len : s.y.out.length ≤ nbe (cds T)
 gd : Gd false (cds T)
 op : s.nx = 9 → 256 ∈ cds T
 lt : ∀ c ∈ cds T, c < 258
 no : nop (cds T) ≤ k
theorem rch_facts {b : List Nat} (ho : Oct b) : ∀ (k : Nat) (s : Gs) (T : List Gev), Rch b k s T → Rfc b k s T
 | 0, s, T, h => by
  have h2 := h.2
  rw [List.take_zero] at h2
  obtain ⟨rfl, rfl⟩ := h2
  exact ⟨gok0, Nat.zero_le _, trivial, fun e => (by cases e), fun c hc => (by cases hc), Nat.le_refl _⟩
 | k + 1, s, T, h => by
  obtain ⟨s', T', x, E, h1, h2, h3, h4, rfl⟩ := h.last
  have f := rch_facts ho k s' T' h1
  have hx := ho x (List.mem_of_getElem? h3)
  obtain ⟨q1, q2, q3, q4, q5⟩ := sp_tells f.ok h2 h4
  have fl := f.len
  have fn := f.no
  refine ⟨f.ok.sp h2 hx h4, ?_, ?_, ?_, ?_, ?_⟩
  ·rw [cds_append, cds_evs, nbe_append]; omega
  ·rw [cds_append, cds_evs]
   refine gd_append false _ _ f.gd ?_
   by_cases h9 : s'.nx = 9
   ·have : decide (256 ∈ cds T') = true := decide_eq_true (f.op h9)
    rw [this]; exact gd_true _
   ·rw [decide_eq_false h9] at q4
    by_cases h6 : 256 ∈ cds T'
    ·rw [decide_eq_true h6]; exact gd_true _
    ·rw [decide_eq_false h6]; exact q4
  ·intro e
   rw [cds_append, cds_evs]
   rcases q5 e with h9 | h6
   ·exact List.mem_append_left _ (f.op h9)
   ·exact List.mem_append_right _ h6
  ·intro c hc
   rw [cds_append, cds_evs] at hc
   rcases List.mem_append.1 hc with h6 | h6
   ·exact f.lt c h6
   ·exact q1 c h6
  ·rw [cds_append, cds_evs, nop_append]; omega
end Go.Proofs.YtogednaamndpgaaGreatDoor

/-
 What Whole's loops stand at. No walk.
-/
namespace Go.Proofs.YtogednaamndpgaaGreatDoor
open Go.RowKit
set_option linter.unusedVariables false
structure Ms (ls : List (List Nat)) (gv N L y : Nat) (cs : List Nat) (R0 : List (List Nat) × Nat) : Prop where
 res : rs (N - gv) y ls cs = R0
 gd : Gd (decide (ls ≠ [])) cs
 lt : ∀ c ∈ cs, c < 258
 no : ls.length + nop cs ≤ L
 each : ∀ l ∈ ls, l.length ≤ gv
 gn : gv ≤ N
section
variable {ls : List (List Nat)} {gv N L y g : Nat} {cs : List Nat} {R0 : List (List Nat) × Nat}
theorem Ms.open_ (h : Ms ls gv N L y (256 :: cs) R0) : Ms (ls ++ [[]]) gv N L y cs R0 := by
 refine ⟨by rw [← rs_open]; exact h.res, ?_, fun c hc => h.lt c (List.mem_cons_of_mem _ hc), ?_, fun l hl => ?_, h.gn⟩
 ·have : decide (ls ++ [[]] ≠ []) = true := by simp
  rw [this]; exact gd_true _
 ·have := h.no
  simp only [nop, if_true, List.length_append, List.length_singleton] at this ⊢
  omega
 ·rcases List.mem_append.1 hl with e | e
  ·exact h.each l e
  ·rw [List.mem_singleton.1 e]; exact Nat.zero_le _
theorem Ms.close (h : Ms ls gv N L y (257 :: cs) R0) : Ms ls gv N L y cs R0 := by
 refine ⟨by rw [← rs_close]; exact h.res, ?_, fun c hc => h.lt c (List.mem_cons_of_mem _ hc), ?_, h.each, h.gn⟩
 ·have := h.gd
  simpa [Gd] using this
 ·have := h.no
  simpa [nop] using this
theorem Ms.ne (h : Ms ls gv N L y (g :: cs) R0) (hg : g < 256) : ls ≠ [] := by
 have := h.gd
 unfold Gd at this
 rw [if_neg (by omega), if_neg (by omega)] at this
 simpa using this.1
theorem Ms.byte (h : Ms ls gv N L y (g :: cs) R0) (hg : g < 256) (hN : gv < N) {l : List Nat} (hl : ls.getLastD [] = l) (hm : l ∈ ls) : Ms (ls.dropLast ++ [l ++ [g]]) (gv + 1) N L y cs R0 := by
 have hne := h.ne hg
 refine ⟨?_, ?_, fun c hc => h.lt c (List.mem_cons_of_mem _ hc), ?_, fun m hm' => ?_, hN⟩
 ·have e := h.res
  rw [show N - gv = (N - (gv + 1)) + 1 by omega, rs_byte hg, hl] at e
  exact e
 ·have : decide (ls.dropLast ++ [l ++ [g]] ≠ []) = true := by simp
  rw [this]; exact gd_true _
 ·have := h.no
  simp only [nop, if_neg (show ¬ g = 256 by omega), List.length_append, List.length_singleton, List.length_dropLast] at this ⊢
  have := List.length_pos_iff.2 hne
  omega
 ·rcases List.mem_append.1 hm' with e | e
  ·have := h.each m (List.dropLast_subset _ e); omega
  ·rw [List.mem_singleton.1 e, List.length_append, List.length_singleton]
   have := h.each l hm
   omega
theorem Ms.over (h : Ms ls gv N L y (g :: cs) R0) (hg : g < 256) (hN : ¬ gv < N) : R0 = (ls, 62) := by
 have e := h.res
 rw [show N - gv = 0 by omega, rs_over hg] at e
 exact e.symm
theorem Ms.nil (h : Ms ls gv N L y [] R0) : R0 = (ls, y) := by
 have e := h.res
 rw [rs_nil] at e
 exact e.symm
end
structure Wr0 (R0 : List (List Nat) × Nat) (w : World) (e : Ending) (w' : World) : Prop where
 ex : ∃ v lo2, e = .returned (.tuple #[v, .int .i64 (R0.2 : Int)]) ∧ w.heap.size ≤ lo2 ∧ Ll w' lo2 v R0.1 ∧ Below w.heap.size w w'
theorem but_of_only {c : Nat} {w u : World} (h : Only c w u) : But c w u := ⟨h.os, h.tape, h.output, Nat.le_of_eq h.size.symm, fun k _ hm => h.block k hm⟩
section
variable {lo hi B D b R W A lo2 E E2 : Nat} {w wr wx w7 : World} {ek eb en ek2 eb2 en2 : Int} {nm nm2 : List Nat} {ok ok2 : Bool} {v : Value} {ls : List (List Nat)} {s1 : Gs} {rem rem2 : List Evn} {gv N L y G1 : Nat} {fut : List Nat} {R0 : List (List Nat) × Nat}
theorem Wz.var {u : World} {H : Nat} {cs : Array Value} (h : Wz wr lo hi B D b R W A s1 rem) (hH : hi ≤ H) (hc : Cells wr H cs 43) (o : Only H wr u) : Wz u lo hi B D b R W A s1 rem :=
 h.out ⟨o.os, o.tape, o.output, Nat.le_of_eq o.size.symm, fun k hk => o.block k (by omega)⟩ fun i hi' => by
  by_cases e : i = H
  ·subst e; exact Or.inr ⟨_, 43, _, hc, Or.inr (Or.inr rfl)⟩
  ·exact Or.inl (o.block i e)
theorem Ll.fw {u : World} (h : Ll wr lo2 v ls) (k : Fw lo hi wr u) (hl : hi ≤ lo2) : Ll u lo2 v ls := h.keep k.size fun g h1 h2 _ => k.block g h2 (Or.inr (by omega))
structure Gq (lo hi B D b R W A lo2 E : Nat) (w wr : World) (ek eb en : Int) (nm : List Nat) (ok : Bool) (v : Value) (ls : List (List Nat)) (s1 : Gs) (rem : List Evn) (gv N L y G1 : Nat) (fut : List Nat) (R0 : List (List Nat) × Nat) : Prop where
 wz : Wz wr lo hi B D b R W A s1 rem
 ll : Ll wr lo2 v ls
 ev : Cells wr E #[.int .i64 ek, .int .u8 eb, .int .i64 en, .int .i64 0, .string (st nm)] 43
 bel : Below w.heap.size w wr
 le : lo2 ≤ E
 geo : w.heap.size ≤ lo ∧ hi ≤ lo2 ∧ w.heap.size ≤ lo2
 yl : s1.y.out.length ≤ G1
 st : (ok = false ∧ rem = [] ∧ Ms ls gv N L y fut R0 ∧ gv = G1) ∨ (ok = true ∧ ∃ g, ek = gk1 g ∧ eb = gk2 g ∧ Ms ls gv N L y (g :: (cde rem ++ fut)) R0 ∧ gv + nbe (g :: cde rem) = G1)
structure Gu (lo hi B D b R W A lo2 : Nat) (w wr : World) (v : Value) (ls : List (List Nat)) (s1 : Gs) (rem : List Evn) (gv N L y G1 : Nat) (fut : List Nat) (R0 : List (List Nat) × Nat) : Prop where
 wz : Wz wr lo hi B D b R W A s1 rem
 ll : Ll wr lo2 v ls
 bel : Below w.heap.size w wr
 geo : w.heap.size ≤ lo ∧ hi ≤ lo2 ∧ w.heap.size ≤ lo2
 yl : s1.y.out.length ≤ G1
 ms : Ms ls gv N L y (cde rem ++ fut) R0
 g1 : gv + nbe (cde rem) = G1
def NxC (lo hi B D b R W A : Nat) (s1 : Gs) (rem : List Evn) (u : World) (ek eb en : Int) (nm : List Nat) (ok : Bool) (rem2 : List Evn) : Prop := (Calls Tryz.prog 20 #[.pointer (some ⟨W, 0, none⟩)] u fun e w' => e = .returned (.tuple #[.agg #[.int .i64 ek, .int .u8 eb, .int .i64 en, .int .i64 0, .string (st nm)], .bool ok]) ∧ Wz w' lo hi B D b R W A s1 rem2 ∧ Fw lo hi u w') ∧ ((ok = false ∧ rem = [] ∧ rem2 = []) ∨ (ok = true ∧ ∃ g m, ek = gk1 g ∧ eb = gk2 g ∧ rem = (g, m) :: rem2))
theorem next_all {u : World} (hz : Wz u lo hi B D b R W A s1 rem) (hb : rem ≠ [] → s1.y.out.length + 2 < MM + rem.length) : ∃ ek eb en nm ok rem2, NxC lo hi B D b R W A s1 rem u ek eb en nm ok rem2 := by
 cases rem with
 | nil => exact ⟨0, 0, 0, [], false, [], (wz_next_no u hz).mono fun e w' k => ⟨k.1, k.2.1, Fw.of_below k.2.2 (Nat.le_refl _)⟩, Or.inl ⟨rfl, rfl, rfl⟩⟩
 | cons e r =>
  have := hb (by simp)
  rw [List.length_cons] at this
  exact ⟨gk1 e.1, gk2 e.1, gk3 e.1, e.2, true, r, wz_next e u hz (by omega), Or.inr ⟨rfl, e.1, e.2, rfl, rfl, rfl⟩⟩
theorem nbe_le : ∀ l : List Evn, nbe (cde l) ≤ l.length
 | [] => Nat.zero_le _
 | e :: l => by
  have := nbe_le l
  simp only [cde, List.map_cons, nbe, List.length_cons] at this ⊢
  split <;> omega
theorem Gu.next (h : Gu lo hi B D b R W A lo2 w wx v ls s1 rem gv N L y G1 fut R0) (hE : wx.heap.size = E2) (hz : Wz w7 lo hi B D b R W A s1 rem2) (hf : Fw lo hi (wx.alloc (.cells #[.int .i64 ek, .int .u8 eb, .int .i64 en, .int .i64 0, .string (st nm)] 43)) w7) (hc : (ok2 = false ∧ rem = [] ∧ rem2 = []) ∨ (ok2 = true ∧ ∃ g m, ek2 = gk1 g ∧ eb2 = gk2 g ∧ rem = (g, m) :: rem2)) :
  Cells w7 E2 #[.int .i64 ek, .int .u8 eb, .int .i64 en, .int .i64 0, .string (st nm)] 43 ∧ Gq lo hi B D b R W A lo2 E2 w (((((w7.setCell ⟨E2, 0, none⟩ (.int .i64 ek2)).setCell ⟨E2, 1, none⟩ (.int .u8 eb2)).setCell ⟨E2, 2, none⟩ (.int .i64 en2)).setCell ⟨E2, 3, none⟩ (.int .i64 0)).setCell ⟨E2, 4, none⟩ (.string (st nm2))) ek2 eb2 en2 nm2 ok2 v ls s1 rem2 gv N L y G1 fut R0 := by
 have bA : Below wx.heap.size wx (wx.alloc (.cells #[.int .i64 ek, .int .u8 eb, .int .i64 en, .int .i64 0, .string (st nm)] 43)) := (Below.refl _ wx).alloc (Nat.le_refl _) _
 have kA : Cells (wx.alloc (.cells #[.int .i64 ek, .int .u8 eb, .int .i64 en, .int .i64 0, .string (st nm)] 43)) E2 #[.int .i64 ek, .int .u8 eb, .int .i64 en, .int .i64 0, .string (st nm)] 43 := by rw [← hE]; exact Cells.new wx _ 43
 have hle := h.ll.le
 have geo := h.geo
 have k7 := kA.fw hf (by omega)
 have l7 := (h.ll.below bA (Nat.le_refl _)).fw hf geo.2.1
 have o8 := only_five E2 w7 (.int .i64 ek2) (.int .u8 eb2) (.int .i64 en2) (.int .i64 0) (.string (st nm2))
 refine ⟨k7, ⟨hz.var (by omega) k7 o8, l7.but (but_of_only o8) k7 ⟨by decide, by decide⟩, set5 k7 _ _ _ _ _, ?_, by omega, geo, h.yl, ?_⟩⟩
 ·have b7 : Below w.heap.size (wx.alloc (.cells #[.int .i64 ek, .int .u8 eb, .int .i64 en, .int .i64 0, .string (st nm)] 43)) w7 := ⟨hf.os, hf.tape, hf.output, hf.size, fun k hk => hf.block k (by have := bA.size; omega) (Or.inl (by omega))⟩
  exact ((h.bel.trans (bA.mono (by omega))).trans b7).trans (o8.below (by omega))
 ·rcases hc with ⟨h1, h2, h3⟩ | ⟨h1, g, m, h2, h3, h4⟩
  ·left
   have ms := h.ms
   have g1 := h.g1
   rw [h2] at ms g1
   exact ⟨h1, h3, ms, g1⟩
  ·right
   have ms := h.ms
   have g1 := h.g1
   rw [h4] at ms g1
   exact ⟨h1, g, h2, h3, ms, g1⟩
end
end Go.Proofs.YtogednaamndpgaaGreatDoor

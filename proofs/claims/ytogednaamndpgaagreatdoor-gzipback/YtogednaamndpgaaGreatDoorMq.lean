/-
  Own texts of this seat, one behind the other: what each says stands ahead of it.
-/
import Derived.Test.YtogednaamndpgaaGreatDoorMn
import Derived.Test.YtogednaamndpgaaGreatDoorMo
import Derived.Test.YtogednaamndpgaaGreatDoorMp
import Derived.Test.YtogednaamndpgaaGreatDoorMe
import Derived.BigRegion
/-
 What the document's dynamic needs: marks in a row, says as they lie, numbers behind one another, a table made.
-/
namespace Go.Proofs.YtogednaamndpgaaGreatDoor
open Go.RowKit
set_option linter.unusedVariables false
theorem new_ok (w : World) (la : Option Addr) (l : List Nat) (ll lc : Nat) (hl : Lens w la (iz l)) (hll : l.length = ll) (hm : mays l = true) :
  Calls Tryz.prog 51 #[.slice la ll lc] w fun e w' => ∃ T, e = .returned (.tuple #[.pointer (some ⟨T, 0, none⟩), .int .i64 0]) ∧ Tb w' T l ∧ Below w.heap.size w w' := by
 have h1 := nerr_ok (mays_iff.1 hm)
 rw [lens_iz] at h1
 have hc := rnew_rest la (iz l) ll lc w hl (by simp [iz, hll]) h1.1 (by rw [lens_iz]; exact h1.2.1)
 rw [lens_iz] at hc
 refine hc.mono ?_
 rintro e w' (⟨hu, _⟩ | ⟨_, T, he, ht, hb, _⟩)
 ·exact absurd hu h1.2.2
 ·exact ⟨T, he, ht, hb⟩
theorem lens_cells {w : World} {g : Nat} {l : List Nat} (h : Cells w g (vi (iz l)).toArray 3) : Lens w (some ⟨g, 0, none⟩) (iz l) := Or.inr ⟨g, 0, rfl, fun i z hz => by rw [Nat.zero_add]; exact h.int hz⟩
theorem int_at {w : World} {g : Nat} {l : List Nat} (h : Cells w g (vi (iz l)).toArray 3) {i x : Nat} (hx : l[i]? = some x) : w.cell? ⟨g, i, none⟩ = some (.int .i64 (x : Int)) := h.int (by unfold iz; rw [List.getElem?_map, hx]; rfl)
theorem mark {w : World} {b : Nat} {us : List Bool} (h : Cells w b (vb us).toArray 4) (i : Nat) : Cells (w.setCell ⟨b, i, none⟩ (.bool true)) b (vb (us.set i true)).toArray 4 := by
 have := h.set i (.bool true)
 simpa [vb, List.map_set] using this
theorem mark_cell {w : World} {b : Nat} {us : List Bool} (h : Cells w b (vb us).toArray 4) {i : Nat} (hi : i < us.length) : ∃ q, w.cell? ⟨b, i, none⟩ = some (.bool q) := by
 refine ⟨us[i], ?_⟩
 rw [h.cell]
 simp [vb, hi]
theorem set_true {us : List Bool} {i j : Nat} (h : us[j]? = some true) : (us.set i true)[j]? = some true := by
 by_cases e : i = j
 ·subst e
  rw [List.getElem?_set_self (List.getElem?_eq_some_iff.1 h).1]
 ·rw [List.getElem?_set_ne e]; exact h
theorem set_self {us : List Bool} {i : Nat} (h : i < us.length) : (us.set i true)[i]? = some true := List.getElem?_set_self h
theorem addUp_true (least : Nat) : ∀ (us : List Bool) (n j : Nat), us[j]? = some true → (addUp least us n)[j]? = some true
 | [], n, j, h => by simp at h
 | u :: r, n, 0, h => by
  have hu : u = true := by simpa using h
  subst hu
  unfold addUp
  rw [if_neg (by simp)]
  rfl
 | u :: r, n, j + 1, h => by
  have h2 : r[j]? = some true := by simpa using h
  unfold addUp
  split
  ·exact addUp_true least r _ j h2
  ·exact addUp_true least r _ j h2
theorem addUp_least (least : Nat) : ∀ (us : List Bool) (c n : Nat), c = n + us.count true → least ≤ c + (us.count false) → least ≤ n + (addUp least us c).count true ∨ least ≤ c
 | us, c, n, hc, h => by
  by_cases hlc : least ≤ c
  ·exact Or.inr hlc
  ·left
   have key : ∀ (us : List Bool) (c n : Nat), least ≤ c + us.count false → n + us.count true ≤ c → c - (n + us.count true) + (n + (addUp least us c).count true) ≥ min least (c + us.count false) := by
    intro us
    induction us with
    | nil => intro c n h1 h2; simp [addUp] at *; omega
    | cons u r ih =>
     intro c n h1 h2
     unfold addUp
     cases u with
     | true =>
      rw [if_neg (by simp)]
      simp only [List.count_cons_self, List.count_cons_of_ne (by decide : (true : Bool) ≠ false)] at *
      have := ih c (n + 1) (by omega) (by omega)
      omega
     | false =>
      simp only [List.count_cons_self, List.count_cons_of_ne (by decide : (false : Bool) ≠ true)] at *
      by_cases hl : c < least
      ·rw [if_pos (by simp [hl])]
       simp only [List.count_cons_self]
       have := ih (c + 1) (n + 1) (by omega) (by omega)
       omega
      ·rw [if_neg (by rintro ⟨h, _⟩; exact hl h)]
       simp only [List.count_cons_of_ne (by decide : (false : Bool) ≠ true)]
       have := ih c n (by omega) (by omega)
       omega
   have := key us c n h (by omega)
   omega
def SayAt (w : World) (a : Option Addr) (ss : List Say) : Prop := ss = [] ∨ ∃ g cs, a = some ⟨g, 0, none⟩ ∧ Cells w g cs 142 ∧ ∀ i x, ss[i]? = some x → cs[i * 3]? = some (.int .i64 (x.s : Int)) ∧ cs[i * 3 + 1]? = some (.int .i64 (x.v : Int)) ∧ cs[i * 3 + 2]? = some (.int .i64 (x.n : Int))
theorem O3.says {w : World} {lo : Nat} {v : Value} {ss : List Say} (h : O3 w lo 142 v (ss.map sayV)) : ∃ a c, v = .slice a ss.length c ∧ SayAt w a ss := by
 obtain ⟨a, c, hv, hc, hl, _⟩ := h.shape
 rw [List.length_map] at hv
 refine ⟨a, c, hv, ?_⟩
 rcases hl with e | ⟨g, cs, ha, _, hcs, hh⟩
 ·left; simpa using e
 ·refine Or.inr ⟨g, cs, ha, hcs, fun i x hx => ?_⟩
  obtain ⟨h1, h2, h3⟩ := hh i (sayV x) (by rw [List.getElem?_map, hx]; rfl)
  rw [hcs.cell] at h1 h2 h3
  exact ⟨h1, h2, h3⟩
theorem SayAt.keep {w u : World} {a : Option Addr} {ss : List Say} (h : SayAt w a ss) (k : ∀ g cs, Cells w g cs 142 → Cells u g cs 142) : SayAt u a ss := by
 rcases h with e | ⟨g, cs, ha, hc, hh⟩
 ·exact Or.inl e
 ·exact Or.inr ⟨g, cs, ha, k g cs hc, hh⟩
theorem SayAt.get {w : World} {a : Option Addr} {ss : List Say} (h : SayAt w a ss) {i : Nat} {x : Say} (hx : ss[i]? = some x) : ∃ g, a = some ⟨g, 0, none⟩ ∧ w.cell? ⟨g, i * 3, none⟩ = some (.int .i64 (x.s : Int)) ∧ w.cell? ⟨g, i * 3 + 1, none⟩ = some (.int .i64 (x.v : Int)) ∧ w.cell? ⟨g, i * 3 + 2, none⟩ = some (.int .i64 (x.n : Int)) := by
 rcases h with e | ⟨g, cs, ha, hc, hh⟩
 ·rw [e] at hx; simp at hx
 ·obtain ⟨h1, h2, h3⟩ := hh i x hx
  exact ⟨g, ha, by rw [hc.cell]; exact h1, by rw [hc.cell]; exact h2, by rw [hc.cell]; exact h3⟩
structure Own3 (w : World) (lo : Nat) (v : Value) (l : List Nat) : Prop where
 own : w.ownsRow lo 3 1 v l.length (vi (iz l))
 le : lo ≤ w.heap.size
theorem viz_len (l : List Nat) : (vi (iz l)).length = l.length := by simp [vi, iz]
theorem Own3.made {w : World} {lo : Nat} (h : lo ≤ w.heap.size) : Own3 (w.alloc (.cells #[] 3)) lo (.slice (some ⟨w.heap.size, 0, none⟩) 0 0) [] :=
 ⟨World.ownsRow_made (base := lo) (e := 3) (size := 1) w #[] 0 h (by decide) rfl, by show _ ≤ (w.heap.push _).size; simp; omega⟩
theorem Own3.lies {w : World} {lo : Nat} {v : Value} {l : List Nat} (h : Own3 w lo v l) : ∃ a c, v = .slice a l.length c ∧ l.length ≤ c ∧ ILies w a l := by
 rcases h.own.2 with ⟨hv, h0⟩ | ⟨g, c, cur, hv, hg, hh, hc, hm, hs, ht⟩
 ·exact ⟨none, 0, by rw [hv, h0], by omega, Or.inl (List.eq_nil_of_length_eq_zero h0)⟩
 ·refine ⟨_, c, hv, hc, Or.inr ⟨g, 0, rfl, fun i x hx => ?_⟩⟩
  rw [Nat.zero_add, Cells.cell (cs := cur) (t := 3) hh]
  have hi : i < l.length := (List.getElem?_eq_some_iff.1 hx).1
  have e : (cur.toList.take (l.length * 1))[i]? = some (.int .i64 (x : Int)) := by rw [ht]; simp [vi, iz, hx]
  rw [List.getElem?_take, if_pos (by omega)] at e
  simpa using e
theorem wpList_own3 (w : World) {ops : Array Oper} {rest : List Oper} {o : Oper} {a : Act} {Q : Exit → Act → World → Prop} (hgd : o.guard = none) (s x : Operand)
  (ho : o.op = .call { callee := .builtin .append, args := #[s, x], argTypes := #[74, 74] }) (lo : Nat) (v : Value) (l : List Nat) (hs : a.eval s = v) (hown : Own3 w lo v l)
  (g n c : Nat) (m : List Nat) (hnm : m.length = n) (hx : a.eval x = .slice (some ⟨g, 0, none⟩) n c) (hl : Cells w g (vi (iz m)).toArray 3) (hlen : l.length + m.length ≤ 1000)
  (h : ∀ v' w', Own3 w' lo v' (l ++ m) → Below lo w w' → wpList Tryz.prog ops Q rest (a.put o.dst v') w') : wpList Tryz.prog ops Q (o :: rest) a w := by
 subst hnm
 obtain ⟨i0, hi, hz0, hz1, hz2⟩ := ginfo_parts info3
 refine wpList_append_own w hgd s x 74 ho lo 3 i0 (.int .i64 0) 1 8 Tryz.underlying74 hi hz0 hz1 hz2 rfl (by decide) v _ _ hs hown.own ⟨g, 0, none⟩ m.length c (vi (iz m)) hx (by rw [viz_len]; omega) ?_ ?_ (by unfold maxLen; omega) (by omega) hown.le ?_
 ·intro j u hj
  have hadd : (⟨g, 0, none⟩ : Addr).add j = ⟨g, j, none⟩ := by unfold Addr.add; split <;> simp_all
  rw [hadd, hl.cell]
  simpa using hj
 ·intro u hu
  obtain ⟨y, _, rfl⟩ := List.mem_map.1 hu
  rfl
 ·intro v' w' h4 h5 h6
  have hos : v.ownBlock = none ∨ ∃ g, v.ownBlock = some g ∧ lo ≤ g := by
   rcases hown.own.2 with ⟨rfl, _⟩ | ⟨g, c, cur, rfl, hg, hh, _⟩
   ·left; rfl
   ·right; exact ⟨g, rfl, hg⟩
  have hbl : Below lo w w' := (Below.refl lo w).grown h5 hown.le (fun k hk => by
   rcases hos with h7 | ⟨g, h7, hg⟩
   ·rw [h7] at hk; cases hk
   ·rw [h7] at hk; cases hk; exact hg)
  refine h v' w' ⟨?_, Nat.le_trans hown.le h5.size⟩ hbl
  have e : vi (iz l) ++ vi (iz m) = vi (iz (l ++ m)) := by simp [vi, iz]
  rw [List.length_append, ← e]
  exact h4
end Go.Proofs.YtogednaamndpgaaGreatDoor

/-
 What the document's dynamic comes to.
-/
namespace Go.Proofs.YtogednaamndpgaaGreatDoor
open Go.RowKit
set_option linter.unusedVariables false
def Tok0 : Tok → Prop
 | .inl y => y < 256
 | .inr (n, d) => 3 ≤ n ∧ n ≤ 258 ∧ 1 ≤ d ∧ d ≤ 200
def Marked (u1 u2 : List Bool) : Tok → Prop
 | .inl y => u1[y]? = some true
 | .inr (n, d) => u1[lsym n]? = some true ∧ u2[dsym d]? = some true
theorem Marked.set1 {u1 u2 : List Bool} {t : Tok} (h : Marked u1 u2 t) (i : Nat) : Marked (u1.set i true) u2 t := by
 cases t using Tok.el with
 | lit y => exact set_true h
 | cp n d => exact ⟨set_true h.1, h.2⟩
theorem Marked.set2 {u1 u2 : List Bool} {t : Tok} (h : Marked u1 u2 t) (i : Nat) : Marked u1 (u2.set i true) t := by
 cases t using Tok.el with
 | lit y => exact h
 | cp n d => exact ⟨h.1, set_true h.2⟩
structure Mk2 (w : World) (lb db B : Nat) (u1 u2 : List Bool) : Prop where
 c1 : Cells w lb (vb u1).toArray 4
 c2 : Cells w db (vb u2).toArray 4
 ne : lb ≠ db
 b1 : B ≤ lb
 b2 : B ≤ db
 l1 : u1.length = 286
 l2 : u2.length = 30
 e256 : u1[256]? = some true
theorem Toks.below {w u : World} {a : Option Addr} {l : List Tok} (h : Toks w a l) (k : Below w.heap.size w u) : Toks u a l := by
 rcases h with e | ⟨b, o, ds, e, h1, h2⟩
 ·exact Or.inl e
 ·have h3 := h1.below k h1.lt
  exact Or.inr ⟨b, o, ds, e, h3, fun i t ht => (h2 i t ht).same h1 h3⟩
theorem wnumber0 (x : Int) (W : Nat) (w : World) : Calls Tryz.prog 52 #[.pointer (some ⟨W, 0, none⟩), .int .i64 x, .int .i64 0] w fun e w' => e = .returned (.tuple #[]) ∧ w' = w := by
 go_enter Tryz.func52, Tryz.ntmps52
 go_wp2_with fail
 go_loopg [6] 0 (fun gg s4 wr => s4 = .int .i64 0 ∧ wr = w)
 case atStart => exact ⟨rfl, rfl⟩
 case round =>
  obtain ⟨rfl, rfl⟩ := hrel
  go_wp2_with fail
  first | go_end0 | (refine bodyPost_ret (results_none rfl _ _ _) rfl ?_)
  exact ⟨rfl, rfl⟩
theorem Vz.below {w u : World} {lo W : Nat} {v : Value} {z : List Nat} {bs : List Bool} {p : Nat} (h : Vz w lo W v z bs p) (k : Below w.heap.size w u) : Vz u lo W v z bs p := ⟨h.fr.below k h.fr.lt, h.ob.below k (Nat.le_refl _), h.all, h.oct, h.pad⟩
theorem Vz.drew {w : World} {lo W : Nat} {v : Value} {z : List Nat} {bs : List Bool} {p : Nat} (h : Vz w lo W v z bs p) : Vz w.drew lo W v z bs p := ⟨h.fr, h.ob.drew, h.all, h.oct, h.pad⟩
theorem Vk.undrew {w u : World} {lo W : Nat} (h : Vk lo W w.drew u) : Vk lo W w u := ⟨h.os, h.tape, h.output, h.size, h.block⟩
theorem says_bound {row : List Nat} : ∀ {l : List Say} {i : Nat}, Says row i l → ∀ x ∈ l, x.s ≤ 18 ∧ x.n ≤ 7 ∧ (x.n = 0 ∨ x.v < 128)
 | [], _, _, x, hx => by cases hx
 | y :: r, i, h, x, hx => by
  rcases h with ⟨h1, h2, h3, h4⟩ | ⟨h1, h2, h3, h4, h5, h6, h7⟩ | ⟨h1, h2, h3, h4, h5, h6⟩ | ⟨h1, h2, h3, h4, h5, h6⟩
  all_goals rcases List.mem_cons.1 hx with rfl | hx
  ·exact ⟨by omega, by omega, Or.inl h2⟩
  ·exact says_bound h4 x hx
  ·exact ⟨by omega, by omega, Or.inr (by omega)⟩
  ·exact says_bound h7 x hx
  ·exact ⟨by omega, by omega, Or.inr (by omega)⟩
  ·exact says_bound h6 x hx
  ·exact ⟨by omega, by omega, Or.inr (by omega)⟩
  ·exact says_bound h6 x hx
theorem bkeep {M b : Nat} {w u : World} {cs : Array Value} {t : TypeId} (h : But M w u) (k : Cells w b cs t) (hb : b ≠ M) : Cells u b cs t := by
 have := k.lt
 unfold Cells at *
 rw [h.block b this hb]; exact k
theorem bbel {M B : Nat} {w u : World} (h : But M w u) (hM : B ≤ M) (hB : B ≤ w.heap.size) : Below B w u := ⟨h.os, h.tape, h.output, h.size, fun k hk => h.block k (by omega) (by omega)⟩
theorem two_new (w : World) (B : Nat) (hB : w.heap.size = B) (c d : Array Value) (s t : TypeId) : Cells ((w.alloc (.cells c s)).alloc (.cells d t)) B c s ∧ Cells ((w.alloc (.cells c s)).alloc (.cells d t)) (B + 1) d t ∧ Below B w ((w.alloc (.cells c s)).alloc (.cells d t)) := by
 have hz : (w.alloc (.cells c s)).heap.size = B + 1 := by rw [← hB]; show (w.heap.push _).size = _; simp
 have b1 : Below B w (w.alloc (.cells c s)) := by rw [← hB]; exact (Below.refl _ w).alloc (Nat.le_refl _) _
 have b2 : Below B (w.alloc (.cells c s)) ((w.alloc (.cells c s)).alloc (.cells d t)) := (Below.refl _ _).alloc (by omega) _
 refine ⟨Cells.alloc (by rw [← hB]; exact Cells.new w c s) _, by rw [← hz]; exact Cells.new _ d t, b1.trans b2⟩
def dynBits (f lit di : List Nat) (says : List Say) (l : List Tok) : List Bool := (bitsOf 5 29 ++ (bitsOf 5 29 ++ bitsOf 4 15)) ++ (firstBits f ordr ++ (says.flatMap (sayBits f) ++ (l.flatMap (tokBits lit di) ++ cbits lit 256)))
structure DynW (f lit di : List Nat) (says : List Say) (l : List Tok) : Prop where
 fl : f.length = 19
 f8 : ∀ x ∈ f, x < 8
 fk : kr f = 32768
 ff : Fits f
 ll : lit.length = 286
 ld : di.length = 30
 sy : Says (lit ++ di) 0 says
 sh : ∀ x ∈ says, Has f x.s
 m1 : mays lit = true
 m2 : mays di = true
 f1 : Fits lit
 f2 : Fits di
 h256 : Has lit 256
 us : ∀ x ∈ l, Uses lit di x
set_option maxRecDepth 100000 in
set_option maxHeartbeats 8000000 in
theorem wdynamic_c (l : List Tok) (a : Option Addr) (L C : Nat) (runs : Bool) (w : World) {lo W : Nat} {v : Value} {z : List Nat} {bs : List Bool} {p : Nat} (h : Vz w lo W v z bs p) (hp : p < 8) (hlo : 4 ≤ lo) (ht : Toks w a l) (hL : l.length = L) (hLb : L ≤ 10000) (hm : ∀ t ∈ l, Tok0 t) (hbs : bs.length < 50000000000) :
  Calls Tryz.prog 55 #[.pointer (some ⟨W, 0, none⟩), .slice a L C, .bool runs] w fun e w' => e = .returned (.tuple #[]) ∧ (∃ f lit di says, DynW f lit di says l ∧ ∃ v' z' p', Vz w' lo W v' z' (bs ++ dynBits f lit di says l) p' ∧ p' < 8 ∧ (dynBits f lit di says l).length ≤ 8000 + 60 * L) ∧ Vk lo W w w' := by
 obtain ⟨B, hB⟩ : ∃ B, w.heap.size = B := ⟨_, rfl⟩
 obtain ⟨R1, hR1⟩ : ∃ R1, List.replicate 286 false = R1 := ⟨_, rfl⟩
 obtain ⟨R2, hR2⟩ : ∃ R2, List.replicate 30 false = R2 := ⟨_, rfl⟩
 have AR : Aside (R1.length = 286 ∧ R2.length = 30) := ⟨by rw [← hR1]; simp, by rw [← hR2]; simp⟩
 have hm1 : ∀ X : World, (Instr.makeSlice 131 (.int .i64 286) (.int .i64 286)).run Tryz.prog X = .ok (.slice (some ⟨X.heap.size, 0, none⟩) 286 286) (X.alloc (.cells (vb R1).toArray 4)) := fun X => by rw [← hR1]; exact made_bools 286 (by decide) X
 have hm2 : ∀ X : World, (Instr.makeSlice 131 (.int .i64 30) (.int .i64 30)).run Tryz.prog X = .ok (.slice (some ⟨X.heap.size, 0, none⟩) 30 30) (X.alloc (.cells (vb R2).toArray 4)) := fun X => by rw [← hR2]; exact made_bools 30 (by decide) X
 clear hR1 hR2
 have A : Aside (Vz w lo W v z bs p ∧ p < 8 ∧ 4 ≤ lo ∧ Toks w a l ∧ l.length = L ∧ L ≤ 10000 ∧ (∀ t ∈ l, Tok0 t) ∧ bs.length < 50000000000 ∧ w.heap.size = B) := ⟨h, hp, hlo, ht, hL, hLb, hm, hbs, hB⟩
 have hLi : (L : Int) ≤ 10000 := by omega
 clear h hp hlo ht hL hLb hm hbs
 go_enter Tryz.func55, Tryz.ntmps55
 go_upto_region 0 with fail
 go_cut [6, 7] (fun s6 s7 wc => ∃ lb db : Nat, s6 = .slice (some ⟨lb, 0, none⟩) 286 286 ∧ s7 = .slice (some ⟨db, 0, none⟩) 30 30 ∧ Aside (Cells wc lb (vb R1).toArray 4 ∧ Cells wc db (vb R2).toArray 4 ∧ lb ≠ db ∧ B ≤ lb ∧ B ≤ db ∧ Below B w wc))
 case first =>
  go_region
  ·go_wp2_with fail
   go_meet
   case rel =>
    have q := two_new w B hB (vb R1).toArray (vb R2).toArray 4 4
    exact ⟨B, B + 1, rfl, rfl, Cells.drew q.1, Cells.drew q.2.1, by omega, by omega, by omega, q.2.2.trans (((Only.refl B _).drew).below (Nat.le_refl _))⟩
  ·go_wp2_with fail
   go_meet
   case rel =>
    have q := two_new w B hB (vb R2).toArray (vb R1).toArray 4 4
    exact ⟨B + 1, B, rfl, rfl, Cells.drew q.2.1, Cells.drew q.1, by omega, by omega, by omega, q.2.2.trans (((Only.refl B _).drew).below (Nat.le_refl _))⟩
 case rest =>
  obtain ⟨lb, db, rfl, rfl, hI⟩ := hcut
  obtain ⟨k1, k2, hne, hb1, hb2, hbel⟩ := hI.out
  have f256 := k1.frozen 256
  obtain ⟨q256, c256⟩ := mark_cell k1 (i := 256) (by have := AR.out; omega)
  have k1' := mark k1 256
  have o1 : Only lb wc (wc.setCell ⟨lb, 256, none⟩ (.bool true)) := (Only.refl lb wc).setCell 256 _
  have A1 : Aside (Mk2 (wc.setCell ⟨lb, 256, none⟩ (.bool true)) lb db B (R1.set 256 true) R2 ∧ Below B w (wc.setCell ⟨lb, 256, none⟩ (.bool true))) := ⟨⟨k1', k2.only o1 (Ne.symm hne), hne, hb1, hb2, by rw [List.length_set]; exact AR.out.1, AR.out.2, set_self (by have := AR.out; omega)⟩, hbel.trans (o1.below hb1)⟩
  clear hI k1 k2 hne hb1 hb2 hbel k1' o1 hm1 hm2
  go_wp2_with fail
  go_loopg [8] L (fun gg s8 wr => ∃ i : Nat, s8 = .int .i64 (i : Int) ∧ Aside (i + gg = L ∧ ∃ u1 u2, Mk2 wr lb db B u1 u2 ∧ Below B w wr ∧ ∀ t ∈ l.take i, Marked u1 u2 t))
  case atStart => exact ⟨0, rfl, by omega, _, _, A1.out.1, A1.out.2, by simp⟩
  case round =>
   obtain ⟨i, rfl, hJ⟩ := hrel
   obtain ⟨hig, u1, u2, hmk, hbel, hmar⟩ := hJ.out
   have a0 := A.out
   by_cases hi : i < L
   ·have t1 : ((i : Int) < (L : Int)) = True := eq_true (by omega)
    have t1' : (i < L) = True := eq_true hi
    have hiI : (i : Int) < 10000 := by omega
    obtain ⟨t, ht⟩ : ∃ t, l[i]? = some t := ⟨_, List.getElem?_eq_getElem (by omega)⟩
    have htk : l.take (i + 1) = l.take i ++ [t] := by rw [List.take_add_one, ht]; rfl
    have ht0 := a0.2.2.2.2.2.2.1 t (List.mem_of_getElem? ht)
    obtain ⟨tb, tof, hta, hat⟩ : ∃ tb tof, a = some ⟨tb, tof, none⟩ ∧ tokAt wr tb tof i t := by
     rcases a0.2.2.2.1.below (by rw [a0.2.2.2.2.2.2.2.2]; exact hbel) with e | ⟨tb, tof, cs, e, _, h2⟩
     ·rw [e] at ht; simp at ht
     ·exact ⟨tb, tof, e, h2 i t ht⟩
    subst hta
    cases t using Tok.el with
    | lit y =>
     have hy : y < 256 := ht0
     obtain ⟨c0, c1⟩ := hat
     obtain ⟨q, cq⟩ := mark_cell hmk.c1 (i := y) (by have := hmk.l1; omega)
     have fq := hmk.c1.frozen y
     have hyI : (y : Int) < 256 := by omega
     have o2 : Only lb wr (wr.setCell ⟨lb, y, none⟩ (.bool true)) := (Only.refl lb wr).setCell y _
     have AX : Aside (i + gk = L ∧ i < L ∧ Mk2 (wr.setCell ⟨lb, y, none⟩ (.bool true)) lb db B (u1.set y true) u2 ∧ Below B w (wr.setCell ⟨lb, y, none⟩ (.bool true)) ∧ ∀ t ∈ l.take (i + 1), Marked (u1.set y true) u2 t) := by
      refine ⟨hig, hi, ⟨mark hmk.c1 y, hmk.c2.only o2 (Ne.symm hmk.ne), hmk.ne, hmk.b1, hmk.b2, by rw [List.length_set]; exact hmk.l1, hmk.l2, set_true hmk.e256⟩, hbel.trans (o2.below hmk.b1), ?_⟩
      intro t ht
      rw [htk, List.mem_append] at ht
      rcases ht with ht | ht
      ·exact (hmar t ht).set1 y
      ·obtain rfl : t = .lit y := by simpa using ht
       exact set_self (by have := hmk.l1; omega)
     clear hJ hig hmk hbel hmar a0 hi ht htk ht0 hy o2
     go_wp2_with fail
     have ax := AX.out
     go_roundg (gk - 1)
     case measure => omega
     case rel => exact ⟨i + 1, by go_num, by omega, _, _, ax.2.2.1, ax.2.2.2.1, ax.2.2.2.2⟩
    | cp n d =>
     obtain ⟨h1, h2, h3, h4⟩ : 3 ≤ n ∧ n ≤ 258 ∧ 1 ≤ d ∧ d ≤ 200 := ht0
     obtain ⟨c1, c2⟩ := hat
     obtain ⟨l1, l2, _, _⟩ := lsym_ok h1 h2
     obtain ⟨d1, _, _⟩ := dsym_ok h3 h4
     have hls := lsym_c n h1 h2 wr
     obtain ⟨sl, hsl⟩ : ∃ sl, lsym n = sl := ⟨_, rfl⟩
     obtain ⟨sd, hsd⟩ : ∃ sd, dsym d = sd := ⟨_, rfl⟩
     rw [hsl] at hls l1 l2
     rw [hsd] at d1
     obtain ⟨q, cq⟩ := mark_cell hmk.c1 (i := sl) (by have := hmk.l1; omega)
     have fq := hmk.c1.frozen sl
     have o2 : Only lb wr (wr.setCell ⟨lb, sl, none⟩ (.bool true)) := (Only.refl lb wr).setCell sl _
     have k2 : Cells (wr.setCell ⟨lb, sl, none⟩ (.bool true)) db (vb u2).toArray 4 := hmk.c2.only o2 (Ne.symm hmk.ne)
     obtain ⟨w7, hw7⟩ : ∃ w7, w7 = wr.setCell ⟨lb, sl, none⟩ (.bool true) := ⟨_, rfl⟩
     have hds := dsym_c d h3 h4 w7
     rw [hsd] at hds
     have c2' : w7.cell? ⟨tb, tof + i * 3 + 2, none⟩ = some (.int .i64 (d : Int)) := by
      rcases a0.2.2.2.1 with e | ⟨tb', tof', cs, e, hcs, _⟩
      ·rw [e] at ht; simp at ht
      ·cases e
       have hcw := hcs.below (u := wr) (B := B) hbel (by rw [← a0.2.2.2.2.2.2.2.2]; exact hcs.lt)
       have hcw7 := hcw.only (u := w7) (c := lb) (by rw [hw7]; exact o2) (kinds_ne hcw hmk.c1 (by decide))
       rw [hcw7.cell, ← hcw.cell]; exact c2
     obtain ⟨q2, cq2⟩ := mark_cell (w := w7) (b := db) (us := u2) (by rw [hw7]; exact k2) (i := sd) (by have := hmk.l2; omega)
     have fq2 : w7.frozen? ⟨db, sd, none⟩ = false := by rw [hw7]; exact k2.frozen sd
     have hslI : (sl : Int) ≤ 285 := by omega
     have hsdI : (sd : Int) ≤ 29 := by omega
     have hn0 : ((n : Int) == 0) = false := by rw [beq_eq_false_iff_ne]; omega
     have hn0' : ((n : Int) = 0) = False := eq_false (by omega)
     have o3 : Only db w7 (w7.setCell ⟨db, sd, none⟩ (.bool true)) := (Only.refl db w7).setCell sd _
     have AX : Aside (i + gk = L ∧ i < L ∧ Mk2 (w7.setCell ⟨db, sd, none⟩ (.bool true)) lb db B (u1.set sl true) (u2.set sd true) ∧ Below B w (w7.setCell ⟨db, sd, none⟩ (.bool true)) ∧ ∀ t ∈ l.take (i + 1), Marked (u1.set sl true) (u2.set sd true) t) := by
      refine ⟨hig, hi, ⟨Cells.only (by rw [hw7]; exact mark hmk.c1 sl) o3 hmk.ne, mark (by rw [hw7]; exact k2) sd, hmk.ne, hmk.b1, hmk.b2, by rw [List.length_set]; exact hmk.l1, by rw [List.length_set]; exact hmk.l2, set_true hmk.e256⟩, (hbel.trans (by rw [hw7]; exact o2.below hmk.b1)).trans (o3.below hmk.b2), ?_⟩
      intro t ht
      rw [htk, List.mem_append] at ht
      rcases ht with ht | ht
      ·exact ((hmar t ht).set1 sl).set2 sd
      ·obtain rfl : t = .cp n d := by simpa using ht
       exact ⟨by rw [hsl]; exact set_self (by have := hmk.l1; omega), by rw [hsd]; exact set_self (by have := hmk.l2; omega)⟩
     obtain ⟨xv, hxv⟩ : ∃ xv, n - lbase sl = xv := ⟨_, rfl⟩
     obtain ⟨xm, hxm⟩ : ∃ xm, lmore sl = xm := ⟨_, rfl⟩
     obtain ⟨yv, hyv⟩ : ∃ yv, d - dbase sd = yv := ⟨_, rfl⟩
     obtain ⟨ym, hym⟩ : ∃ ym, dmore sd = ym := ⟨_, rfl⟩
     rw [hxv, hxm] at hls
     rw [hyv, hym] at hds
     clear hJ hig hmk hbel hmar a0 hi ht htk h1 h2 h3 h4 l1 l2 d1 o2 k2 o3 hsl hsd hxv hxm hyv hym
     go_upto_region 9 with (go_at_call 81; refine hls.mono ?_; rintro e2 w6 ⟨rfl, hw6⟩; subst hw6)
     rw [← hw7]
     clear hw7 hls cq fq c1 c2
     go_wp2_with (go_at_call 82; refine hds.mono ?_; rintro e2 w6 ⟨rfl, hw6⟩; subst hw6)
     have ax := AX.out
     go_roundg (gk - 1)
     case measure => omega
     case rel => exact ⟨i + 1, by go_num, by omega, _, _, ax.2.2.1, ax.2.2.2.1, ax.2.2.2.2⟩
   ·have t1 : ((i : Int) < (L : Int)) = False := eq_false (by omega)
    have t1' : (i < L) = False := eq_false hi
    rw [List.take_of_length_le (by omega)] at hmar
    obtain ⟨w5, hw5⟩ : ∃ w5, w5 = wr := ⟨_, rfl⟩
    subst hw5
    obtain ⟨lt, hlt⟩ : ∃ lt, fullOf (addUp 1 u1 (u1.count true)) = lt := ⟨_, rfl⟩
    obtain ⟨dt, hdt⟩ : ∃ dt, fullOf (addUp 0 u2 (u2.count true)) = dt := ⟨_, rfl⟩
    have llt : lt.length = 286 := by rw [← hlt, full_len, addUp_len]; exact hmk.l1
    have ldt : dt.length = 30 := by rw [← hdt, full_len, addUp_len]; exact hmk.l2
    obtain ⟨m1, fi1⟩ := full_mays (U := addUp 1 u1 (u1.count true)) (by rw [addUp_len, hmk.l1]; omega)
    obtain ⟨m2, fi2⟩ := full_mays (U := addUp 0 u2 (u2.count true)) (by rw [addUp_len, hmk.l2]; omega)
    rw [hlt] at m1 fi1
    rw [hdt] at m2 fi2
    have h256 : Has lt 256 := by rw [← hlt]; exact full_has (addUp_true _ _ _ _ hmk.e256)
    have huse : ∀ t ∈ l, Uses lt dt t := fun t ht => by
     have q := hmar t ht
     cases t using Tok.el with
     | lit y => show Has lt y; rw [← hlt]; exact full_has (addUp_true _ _ _ _ q)
     | cp n d => exact ⟨by rw [← hlt]; exact full_has (addUp_true _ _ _ _ q.1), by rw [← hdt]; exact full_has (addUp_true _ _ _ _ q.2)⟩
    obtain ⟨H1, hH1⟩ : ∃ H1, w5.heap.size = H1 := ⟨_, rfl⟩
    have hf1 : Calls Tryz.prog 84 #[.slice (some ⟨lb, 0, none⟩) 286 286, .int .i64 1] w5 fun e w' => e = .returned (.slice (some ⟨H1, 0, none⟩) 286 286) ∧ Cells w' H1 (vi (iz lt)).toArray 3 ∧ But lb w5 w' := by
     have := wfull_c u1 1 (by omega) lb 286 w5 hmk.c1 hmk.l1 (by omega)
     rw [hlt, hH1] at this
     exact this
    have AF : Aside (lt.length = 286 ∧ dt.length = 30 ∧ mays lt = true ∧ Fits lt ∧ mays dt = true ∧ Fits dt ∧ Has lt 256 ∧ (∀ t ∈ l, Uses lt dt t)) := ⟨llt, ldt, m1, fi1, m2, fi2, h256, huse⟩
    have A5 : Aside (Mk2 w5 lb db B u1 u2 ∧ Below B w w5 ∧ fullOf (addUp 0 u2 (u2.count true)) = dt ∧ w5.heap.size = H1 ∧ B ≤ w5.heap.size) := ⟨hmk, hbel, hdt, hH1, by have := hbel.size; omega⟩
    clear hJ hig hmk hbel hmar a0 hi llt ldt m1 fi1 m2 fi2 h256 huse hlt hdt hH1
    go_upto_region 12 with (first
     | (go_at_call 84; (fail_if_success (have hh := hb6)); refine hf1.mono ?_; rintro e2 w6 ⟨rfl, k6, hb6⟩; obtain ⟨H2, hH2⟩ : ∃ H2, w6.heap.size = H2 := ⟨_, rfl⟩; have hf2 : Calls Tryz.prog 84 #[.slice (some ⟨db, 0, none⟩) 30 30, .int .i64 0] w6 (fun e w' => e = .returned (.slice (some ⟨H2, 0, none⟩) 30 30) ∧ Cells w' H2 (vi (iz dt)).toArray 3 ∧ But db w6 w') := (by have := wfull_c u2 0 (by omega) db 30 w6 (bkeep hb6 A5.out.1.c2 (Ne.symm A5.out.1.ne)) A5.out.1.l2 (by omega); rw [A5.out.2.2.1, hH2] at this; exact this))
     | (go_at_call 84; refine hf2.mono ?_; rintro e2 w7 ⟨rfl, k7, hb7⟩))
    have a5 := A5.out
    have hb5 := a5.1.b1
    have hb5' := a5.1.b2
    have bel6 : Below B w w6 := a5.2.1.trans (bbel hb6 a5.1.b1 a5.2.2.2.2)
    have bel7 : Below B w w7 := bel6.trans (bbel hb7 a5.1.b2 (by have := hb6.size; omega))
    have k6' : Cells w7 H1 (vi (iz lt)).toArray 3 := bkeep hb7 k6 (by have := kinds_ne k6 (bkeep hb6 a5.1.c2 (Ne.symm a5.1.ne)) (by decide); exact this)
    have hob0 : Own3 (w7.alloc (.cells #[] 3)) w7.heap.size (.slice (some ⟨w7.heap.size, 0, none⟩) 0 0) [] := Own3.made (Nat.le_refl _)
    have bal : Below w7.heap.size w7 (w7.alloc (.cells #[] 3)) := (Below.refl _ w7).alloc (Nat.le_refl _) _
    have k61 := k6'.below bal k6'.lt
    have k71 := k7.below bal k7.lt
    obtain ⟨B7, hB7⟩ : ∃ B7, w7.heap.size = B7 := ⟨_, rfl⟩
    rw [hB7] at hob0 bal
    have hB7b : B ≤ B7 := by have := bel7.size; have := A.out.2.2.2.2.2.2.2.2; omega
    have hlt1 : H1 < B7 := by rw [← hB7]; exact k6'.lt
    have hlt2 : H2 < B7 := by rw [← hB7]; exact k7.lt
    have A7 : Aside (Below B w (w7.alloc (.cells #[] 3)) ∧ B ≤ B7 ∧ H1 < B7 ∧ H2 < B7) := ⟨bel7.trans (bal.mono hB7b), hB7b, hlt1, hlt2⟩
    clear a5 hb5 hb5' bel6 bel7 k6 k6' k7 hb6 hb7 bal hB7b hlt1 hlt2 hf1 hf2
    have AL : Aside (lt.length = 286 ∧ dt.length = 30) := ⟨AF.out.1, AF.out.2.1⟩
    go_upto_region 13 with (first
     | (at_builtin; (fail_if_success (have hh := hob8)); refine wpList_own3 _ rfl (.tmp 81) (.tmp 82) rfl B7 (.slice (some ⟨B7, 0, none⟩) 0 0) [] (by rfl) hob0 H1 286 286 lt AL.out.1 (by rfl) k61 (by have := AL.out; simp; omega) ?_; intro v8 w8 hob8 hb8; have k62 := Cells.below k61 hb8 A7.out.2.2.1; have k72 := Cells.below k71 hb8 A7.out.2.2.2)
     | (at_builtin; refine wpList_own3 _ rfl (.tmp 83) (.tmp 84) rfl B7 v8 ([] ++ lt) (by rfl) hob8 H2 30 30 dt AL.out.2 (by rfl) k72 (by have := AL.out; simp; omega) ?_; intro v9 w9 hob9 hb9))
    have af := AF.out
    obtain ⟨ra, rc, hrv, hrc, hrl⟩ := hob9.lies
    rw [List.nil_append] at hrv hrl
    have hrow : (lt ++ dt).length = 316 := by rw [List.length_append, af.1, af.2.1]
    rw [hrow] at hrv
    subst hrv
    have h16 : ∀ x ∈ lt ++ dt, x < 16 := fun x hx => by
     rcases List.mem_append.1 hx with hx | hx
     ·have := af.2.2.2.1.2 x hx; omega
     ·have := af.2.2.2.2.2.1.2 x hx; omega
    have hsd := said_c w9 ra (lt ++ dt) 316 rc runs hrl hrow (by omega) h16
    have k63 := Cells.below k62 hb9 A7.out.2.2.1
    have k73 := Cells.below k72 hb9 A7.out.2.2.2
    have bel9 : Below B w w9 := (A7.out.1.trans (hb8.mono A7.out.2.1)).trans (hb9.mono A7.out.2.1)
    have A9 : Aside (Cells w9 H1 (vi (iz lt)).toArray 3 ∧ Cells w9 H2 (vi (iz dt)).toArray 3 ∧ Below B w w9 ∧ B ≤ w9.heap.size) := ⟨k63, k73, bel9, by have := bel9.size; have := A.out.2.2.2.2.2.2.2.2; omega⟩
    clear af hrc hrl hrow h16 k61 k62 k63 k71 k72 k73 bel9 hob0 hob8 hob9 hb8 hb9 hB7
    go_upto_region 14 with (go_at_call 85; refine hsd.mono ?_; rintro e2 w10 ⟨v10, ss, rfl, ho10, hsy, hsl, hb10⟩)
    obtain ⟨sa, sc, hv10, hsat⟩ := ho10.says
    obtain ⟨sn, hsn⟩ : ∃ sn, ss.length = sn := ⟨_, rfl⟩
    rw [hsn] at hv10
    subst hv10
    have hsni : (sn : Int) ≤ 316 := by omega
    have hbnd := says_bound hsy
    obtain ⟨ub, hub⟩ : ∃ ub, w10.heap.size = ub := ⟨_, rfl⟩
    have hmu : (Instr.makeSlice 131 (.int .i64 19) (.int .i64 19)).run Tryz.prog w10 = .ok (.slice (some ⟨ub, 0, none⟩) 19 19) (w10.alloc (.cells (vb (List.replicate 19 false)).toArray 4)) := by rw [← hub]; exact made_bools 19 (by decide) w10
    have kub : Cells (w10.alloc (.cells (vb (List.replicate 19 false)).toArray 4)) ub (vb (List.replicate 19 false)).toArray 4 := by rw [← hub]; exact Cells.new w10 _ 4
    have bal10 : Below w10.heap.size w10 (w10.alloc (.cells (vb (List.replicate 19 false)).toArray 4)) := (Below.refl _ w10).alloc (Nat.le_refl _) _
    obtain ⟨w11, hw11⟩ : ∃ w11, w10.alloc (.cells (vb (List.replicate 19 false)).toArray 4) = w11 := ⟨_, rfl⟩
    rw [hw11] at hmu kub bal10
    have A11 : Aside (Cells w11 H1 (vi (iz lt)).toArray 3 ∧ Cells w11 H2 (vi (iz dt)).toArray 3 ∧ Below B w w11 ∧ SayAt w11 sa ss ∧ Cells w11 ub (vb (List.replicate 19 false)).toArray 4 ∧ B ≤ ub ∧ B ≤ w11.heap.size ∧ Says (lt ++ dt) 0 ss ∧ ss.length = sn ∧ sn ≤ 316 ∧ (∀ x ∈ ss, x.s ≤ 18 ∧ x.n ≤ 7 ∧ (x.n = 0 ∨ x.v < 128))) := by
     have a9 := A9.out
     refine ⟨(a9.1.below hb10 a9.1.lt).below bal10 (Nat.lt_of_lt_of_le a9.1.lt hb10.size), (a9.2.1.below hb10 a9.2.1.lt).below bal10 (Nat.lt_of_lt_of_le a9.2.1.lt hb10.size), (a9.2.2.1.trans (hb10.mono a9.2.2.2)).trans (bal10.mono (Nat.le_trans a9.2.2.2 hb10.size)), hsat.keep (fun g cs hc => hc.below bal10 hc.lt), kub, ?_, ?_, hsy, hsn, by omega, hbnd⟩
     ·rw [← hub]; exact Nat.le_trans a9.2.2.2 hb10.size
     ·exact Nat.le_trans (Nat.le_trans a9.2.2.2 hb10.size) bal10.size
    clear hsd ho10 hsy hsl hb10 hsat hsn hbnd hub kub bal10 hw11
    go_wp2_with fail
    clear hmu
    go_loopg [17] sn (fun gg s17 wr => ∃ j : Nat, s17 = .int .i64 (j : Int) ∧ Aside (j + gg = sn ∧ ∃ us, Cells wr ub (vb us).toArray 4 ∧ us.length = 19 ∧ But ub w11 wr ∧ ∀ x ∈ ss.take j, us[x.s]? = some true))
    case atStart => exact ⟨0, rfl, by omega, _, A11.out.2.2.2.2.1, by simp, ⟨rfl, rfl, rfl, Nat.le_refl _, fun _ _ _ => rfl⟩, by simp⟩
    case round =>
     obtain ⟨j, rfl, hJ⟩ := hrel
     obtain ⟨hjg, us, hus, hul, hbt, hmr⟩ := hJ.out
     have a11 := A11.out
     by_cases hj : j < sn
     ·have t1 : ((j : Int) < (sn : Int)) = True := eq_true (by omega)
      have t1' : (j < sn) = True := eq_true hj
      obtain ⟨x, hx⟩ : ∃ x, ss[j]? = some x := ⟨_, List.getElem?_eq_getElem (by omega)⟩
      have hxb := a11.2.2.2.2.2.2.2.2.2.2 x (List.mem_of_getElem? hx)
      have hsr : SayAt wr sa ss := a11.2.2.2.1.keep (fun g cs hc => bkeep hbt hc (kinds_ne hc a11.2.2.2.2.1 (by decide)))
      obtain ⟨sg, hsg, cs0, _, _⟩ := hsr.get hx
      subst hsg
      obtain ⟨xs, hxs⟩ : ∃ xs, x.s = xs := ⟨_, rfl⟩
      rw [hxs] at cs0
      obtain ⟨q, cq⟩ := mark_cell hus (i := xs) (by omega)
      have fq := hus.frozen xs
      have hxsI : (xs : Int) ≤ 18 := by omega
      have hjI : (j : Int) < 316 := by omega
      have o2 : Only ub wr (wr.setCell ⟨ub, xs, none⟩ (.bool true)) := (Only.refl ub wr).setCell xs _
      have AX : Aside (j + gk = sn ∧ j < sn ∧ Cells (wr.setCell ⟨ub, xs, none⟩ (.bool true)) ub (vb (us.set xs true)).toArray 4 ∧ (us.set xs true).length = 19 ∧ But ub w11 (wr.setCell ⟨ub, xs, none⟩ (.bool true)) ∧ ∀ x ∈ ss.take (j + 1), (us.set xs true)[x.s]? = some true) := by
       refine ⟨hjg, hj, mark hus xs, by rw [List.length_set]; exact hul, ⟨o2.os.trans hbt.os, o2.tape.trans hbt.tape, o2.output.trans hbt.output, by rw [o2.size]; exact hbt.size, fun k hk hm => (o2.block k hm).trans (hbt.block k hk hm)⟩, ?_⟩
       intro y hy
       rw [List.take_add_one, hx, List.mem_append] at hy
       rcases hy with hy | hy
       ·exact set_true (hmr y hy)
       ·obtain rfl : y = x := by simpa using hy
        rw [hxs]; exact set_self (by omega)
      clear hJ hjg hus hul hbt hmr a11 hj hx hxb hsr hxs o2
      go_wp2_with fail
      have ax := AX.out
      go_roundg (gk - 1)
      case measure => omega
      case rel => exact ⟨j + 1, by go_num, by omega, _, ax.2.2.1, ax.2.2.2.1, ax.2.2.2.2.1, ax.2.2.2.2.2⟩
     ·have t1 : ((j : Int) < (sn : Int)) = False := eq_false (by omega)
      have t1' : (j < sn) = False := eq_false hj
      rw [List.take_of_length_le (by omega)] at hmr
      obtain ⟨w12, hw12⟩ : ∃ w12, w12 = wr := ⟨_, rfl⟩
      subst hw12
      obtain ⟨U, hU⟩ : ∃ U, addUp 2 us (us.count true) = U := ⟨_, rfl⟩
      obtain ⟨f, hf⟩ : ∃ f, fullOf U = f := ⟨_, rfl⟩
      have hUl : U.length = 19 := by rw [← hU, addUp_len]; exact hul
      have hUc : 1 < U.count true := by
       have e : us.count true + us.count false = 19 := by
        have := List.length_eq_countP_add_countP (p := (· == true)) (l := us)
        rw [hul] at this
        have h2 : us.countP (fun a => decide ¬(a == true) = true) = us.count false := by
         unfold List.count
         congr 1
         funext b
         cases b <;> rfl
        unfold List.count at *
        omega
       rcases addUp_least 2 us (us.count true) 0 (by omega) (by omega) with h | h
       ·rw [hU] at h; omega
       ·rw [← hU, addUp_ge us h]; omega
      have hUn : U.count true ≤ 19 := by rw [← hUl]; exact List.count_le_length
      have hfl : f.length = 19 := by rw [← hf, full_len]; exact hUl
      have hf8 : ∀ x ∈ f, x < 8 := fun x hx => by
       rw [← hf] at hx
       have := full_le (U := U) (m := 4) (by omega) x hx
       omega
      have hfk : kr f = 32768 := by rw [← hf]; exact full_kr hUc (by omega)
      obtain ⟨hfm, hff⟩ := full_mays (U := U) (by omega)
      rw [hf] at hfm hff
      have hfh : ∀ x ∈ ss, Has f x.s := fun x hx => by
       rw [← hf]
       refine full_has ?_
       rw [← hU]
       exact addUp_true _ _ _ _ (hmr x hx)
      obtain ⟨Hf, hHf⟩ : ∃ Hf, w12.heap.size = Hf := ⟨_, rfl⟩
      have hfc : Calls Tryz.prog 84 #[.slice (some ⟨ub, 0, none⟩) 19 19, .int .i64 2] w12 fun e w' => e = .returned (.slice (some ⟨Hf, 0, none⟩) 19 19) ∧ Cells w' Hf (vi (iz f)).toArray 3 ∧ But ub w12 w' := by
       have := wfull_c us 2 (by omega) ub 19 w12 hus hul (by omega)
       rw [hU, hf, hHf] at this
       exact this
      have AG : Aside (f.length = 19 ∧ (∀ x ∈ f, x < 8) ∧ kr f = 32768 ∧ mays f = true ∧ Fits f ∧ (∀ x ∈ ss, Has f x.s)) := ⟨hfl, hf8, hfk, hfm, hff, hfh⟩
      have A12 : Aside (But ub w11 w12) := hbt
      clear hJ hjg hus hul hbt hmr a11 hj hU hf hUl hUc hUn hfl hf8 hfk hfm hff hfh hHf
      go_upto_region 20 with (go_at_call 84; refine hfc.mono ?_; rintro e2 w13 ⟨rfl, k13, hb13⟩)
      have bt13 : But ub w11 w13 := ⟨hb13.os.trans A12.out.os, hb13.tape.trans A12.out.tape, hb13.output.trans A12.out.output, Nat.le_trans A12.out.size hb13.size, fun k hk hm => (hb13.block k (Nat.lt_of_lt_of_le hk A12.out.size) hm).trans (A12.out.block k hk hm)⟩
      have a11 := A11.out
      have bel13 : Below B w w13 := a11.2.2.1.trans (bbel bt13 a11.2.2.2.2.2.1 a11.2.2.2.2.2.2.1)
      have a0 := A.out
      have wz13 : Vz w13 lo W v z bs p := a0.1.below (by rw [a0.2.2.2.2.2.2.2.2]; exact bel13)
      have tk13 : Toks w13 a l := a0.2.2.2.1.below (by rw [a0.2.2.2.2.2.2.2.2]; exact bel13)
      have k113 : Cells w13 H1 (vi (iz lt)).toArray 3 := bkeep bt13 a11.1 (kinds_ne a11.1 a11.2.2.2.2.1 (by decide))
      have k213 : Cells w13 H2 (vi (iz dt)).toArray 3 := bkeep bt13 a11.2.1 (kinds_ne a11.2.1 a11.2.2.2.2.1 (by decide))
      have sa13 : SayAt w13 sa ss := a11.2.2.2.1.keep (fun g cs hc => bkeep bt13 hc (kinds_ne hc a11.2.2.2.2.1 (by decide)))
      have hn1 := wnumber_c 29 5 (by decide) (by decide) w13 wz13 a0.2.1 a0.2.2.1 (by omega)
      have A13 : Aside (Below B w w13 ∧ Toks w13 a l ∧ Cells w13 H1 (vi (iz lt)).toArray 3 ∧ Cells w13 H2 (vi (iz dt)).toArray 3 ∧ SayAt w13 sa ss ∧ Cells w13 Hf (vi (iz f)).toArray 3 ∧ 4 ≤ lo ∧ bs.length < 50000000000 ∧ (∃ cs, Cells w13 W cs 99) ∧ w.heap.size = B) := ⟨bel13, tk13, k113, k213, sa13, k13, a0.2.2.1, a0.2.2.2.2.2.2.2.1, ⟨_, wz13.fr⟩, a0.2.2.2.2.2.2.2.2⟩
      clear bt13 a11 bel13 a0 wz13 tk13 k113 k213 sa13 k13 hb13 hfc
      go_upto_region 21 with (go_at_call 52; refine hn1.mono ?_; rintro e2 w14 ⟨rfl, ⟨v1, z1, p1, wz14, hp1⟩, hk14⟩)
      have hn2 := wnumber_c 29 5 (by decide) (by decide) w14 wz14 hp1 A13.out.2.2.2.2.2.2.1 (by have := A13.out.2.2.2.2.2.2.2.1; rw [List.length_append, bitsOf_length]; omega)
      clear hn1 wz14
      go_upto_region 22 with (go_at_call 52; refine hn2.mono ?_; rintro e2 w15 ⟨rfl, ⟨v2, z2, p2, wz15, hp2⟩, hk15⟩)
      have hn3 := wnumber_c 15 4 (by decide) (by decide) w15 wz15 hp2 A13.out.2.2.2.2.2.2.1 (by have := A13.out.2.2.2.2.2.2.2.1; simp only [List.length_append, bitsOf_length]; omega)
      clear hn2 wz15
      go_upto_region 23 with (go_at_call 52; refine hn3.mono ?_; rintro e2 w16 ⟨rfl, ⟨v3, z3, p3, wz16, hp3⟩, hk16⟩)
      obtain ⟨b3, hb3⟩ : ∃ b3, bs ++ bitsOf 5 29 ++ bitsOf 5 29 ++ bitsOf 4 15 = b3 := ⟨_, rfl⟩
      rw [hb3] at wz16
      have hb3l : b3.length = bs.length + 14 := by rw [← hb3]; simp only [List.length_append, bitsOf_length]
      have hk : Vk lo W w13 w16 := (hk14.trans hk15).trans hk16
      have hord := order_c w16
      obtain ⟨Ho, hHo⟩ : ∃ Ho, w16.heap.size = Ho := ⟨_, rfl⟩
      rw [hHo] at hord
      have A16 : Aside (Vz w16 lo W v3 z3 b3 p3 ∧ p3 < 8 ∧ Vk lo W w13 w16 ∧ bs ++ bitsOf 5 29 ++ bitsOf 5 29 ++ bitsOf 4 15 = b3 ∧ b3.length = bs.length + 14 ∧ w16.heap.size = Ho) := ⟨wz16, hp3, hk, hb3, hb3l, hHo⟩
      clear hn3 wz16 hp1 hp2 hp3 hk14 hk15 hk16 hk hb3 hb3l hHo
      go_upto_region 24 with (go_at_call 86; refine hord.mono ?_; rintro e2 w17 ⟨rfl, k17, hb17⟩)
      have A17 : Aside (Vz w17 lo W v3 z3 b3 p3 ∧ Vk lo W w13 w17 ∧ Cells w17 Ho (vt ordr).toArray 3) := ⟨A16.out.1.below (by rw [A16.out.2.2.2.2.2]; exact hb17), A16.out.2.2.1.trans (Vk.of_below (by rw [A16.out.2.2.2.2.2]; exact hb17)), k17⟩
      clear hord k17 hb17
      go_wp2_with fail
      go_loopg [20] 19 (fun gg s20 wr => ∃ j : Nat, s20 = .int .i64 (j : Int) ∧ Aside (j + gg = 19 ∧ (∃ v z p, Vz wr lo W v z (b3 ++ firstBits f (ordr.take j)) p ∧ p < 8) ∧ Vk lo W w17 wr))
      case atStart => exact ⟨0, rfl, by omega, ⟨v3, z3, p3, by simpa [firstBits] using A17.out.1, A16.out.2.1⟩, Vk.refl _ _ _⟩
      case round =>
       obtain ⟨j, rfl, hJ⟩ := hrel
       obtain ⟨hjg, ⟨v4, z4, p4, hz4, hp4⟩, hk4⟩ := hJ.out
       have a17 := A17.out
       have a13 := A13.out
       have ag := AG.out
       have k17r : Cells wr Ho (vt ordr).toArray 3 := a17.2.2.wk hk4 (kinds_ne a17.2.2 a17.1.fr (by decide)) (by decide)
       have kfr : Cells wr Hf (vi (iz f)).toArray 3 := by
        obtain ⟨cs, hcs⟩ := a13.2.2.2.2.2.2.2.2.1
        exact a13.2.2.2.2.2.1.wk (a17.2.1.trans hk4) (kinds_ne a13.2.2.2.2.2.1 hcs (by decide)) (by decide)
       have hfbl : (firstBits f (ordr.take j)).length ≤ 57 := by
        have : ∀ l : List Nat, (firstBits f l).length = 3 * l.length := fun l => by
         induction l with
         | nil => rfl
         | cons y l ih => unfold firstBits at *; rw [List.flatMap_cons, List.length_append, ih, bitsOf_length, List.length_cons]; omega
        rw [this, List.length_take]
        have : ordr.length = 19 := by decide
        omega
       by_cases hj : j < 19
       ·have t1 : ((j : Int) < 19) = True := eq_true (by omega)
        have t1' : (j < 19) = True := eq_true hj
        obtain ⟨q, hq, hq19⟩ : ∃ q, ordr[j]? = some q ∧ q < 19 := by
         have : ∀ k : _root_.Fin 19, ∃ q, ordr[k.1]? = some q ∧ q < 19 := by decide
         exact this ⟨j, hj⟩
        obtain ⟨x, hx⟩ : ∃ x, f[q]? = some x := ⟨_, List.getElem?_eq_getElem (by have := ag.1; omega)⟩
        have hx8 := ag.2.1 x (List.mem_of_getElem? hx)
        have cq : wr.cell? ⟨Ho, j, none⟩ = some (.int .i64 (q : Int)) := by rw [k17r.cell]; simp [vt, hq]
        have cx := int_at kfr hx
        have hqI : (q : Int) < 19 := by omega
        have hjI : (j : Int) < 19 := by omega
        have hqd : f.getD q 0 = x := by rw [List.getD_eq_getElem?_getD, hx]; rfl
        have hnm := wnumber_c x 3 (by omega) (by decide) wr hz4 hp4 a13.2.2.2.2.2.2.1 (by have := A16.out.2.2.2.2.1; rw [List.length_append]; omega)
        have AX : Aside (j + gk = 19 ∧ j < 19 ∧ Vk lo W w17 wr ∧ b3 ++ firstBits f (ordr.take j) ++ bitsOf 3 x = b3 ++ firstBits f (ordr.take (j + 1))) := ⟨hjg, hj, hk4, by rw [List.append_assoc, show ordr.take (j + 1) = ordr.take j ++ [q] by rw [List.take_add_one, hq]; rfl, show firstBits f (ordr.take j ++ [q]) = firstBits f (ordr.take j) ++ bitsOf 3 (f.getD q 0) by simp [firstBits], hqd]⟩
        clear hJ hjg hz4 hp4 hk4 a17 a13 ag k17r kfr hfbl hj hq hq19 hx hx8 hqd
        go_wp2_with (go_at_call 52; refine hnm.mono ?_; rintro e2 w18 ⟨rfl, ⟨v5, z5, p5, wz18, hp5⟩, hk18⟩)
        have ax := AX.out
        have ax1 := ax.1
        have ax2 := ax.2.1
        rw [ax.2.2.2] at wz18
        go_roundg (gk - 1)
        case measure => omega
        case rel => exact ⟨j + 1, by go_num, by omega, ⟨v5, z5, p5, wz18, hp5⟩, ax.2.2.1.trans hk18⟩
       ·have t1 : ((j : Int) < 19) = False := eq_false (by omega)
        have t1' : (j < 19) = False := eq_false hj
        have hj19 : j = 19 := by omega
        rw [hj19, show ordr.take 19 = ordr by decide] at hz4
        obtain ⟨w19, hw19⟩ : ∃ w19, w19 = wr := ⟨_, rfl⟩
        subst hw19
        obtain ⟨b4, hb4⟩ : ∃ b4, b3 ++ firstBits f ordr = b4 := ⟨_, rfl⟩
        rw [hb4] at hz4
        have hb4l : b4.length ≤ b3.length + 57 := by
         rw [hj19, show ordr.take 19 = ordr by decide] at hfbl
         rw [← hb4, List.length_append]; omega
        have hnw := new_ok w19 (some ⟨Hf, 0, none⟩) f 19 19 (lens_cells kfr) ag.1 ag.2.2.2.1
        have A19 : Aside (Vz w19 lo W v4 z4 b4 p4 ∧ p4 < 8 ∧ Vk lo W w13 w19 ∧ b3 ++ firstBits f ordr = b4 ∧ b4.length ≤ b3.length + 57) := ⟨hz4, hp4, a17.2.1.trans hk4, hb4, hb4l⟩
        clear hJ hjg hz4 hp4 hk4 a17 a13 ag k17r kfr hfbl hj hj19 hb4 hb4l
        go_upto_region 29 with (go_at_call 51; refine hnw.mono ?_; rintro e2 w20 ⟨T0, rfl, tb20, hb20⟩)
        have A20 : Aside (Vz w20 lo W v4 z4 b4 p4 ∧ Vk lo W w13 w20 ∧ Tb w20 T0 f) := ⟨A19.out.1.below hb20, A19.out.2.2.1.trans (Vk.of_below hb20), tb20⟩
        clear hnw tb20 hb20 t1 t1'
        go_wp2_with fail
        go_loopg [23] sn (fun gg s23 wr => ∃ j : Nat, s23 = .int .i64 (j : Int) ∧ Aside (j + gg = sn ∧ (∃ v z p, Vz wr lo W v z (b4 ++ (ss.take j).flatMap (sayBits f)) p ∧ p < 8) ∧ Vk lo W w20 wr))
        case atStart => exact ⟨0, rfl, by omega, ⟨v4, z4, p4, by simpa using A20.out.1, A19.out.2.1⟩, Vk.refl _ _ _⟩
        case round =>
         obtain ⟨j, rfl, hJ⟩ := hrel
         obtain ⟨hjg, ⟨v5, z5, p5, hz5, hp5⟩, hk5⟩ := hJ.out
         have a11 := A11.out
         have a13 := A13.out
         have a20 := A20.out
         have ag := AG.out
         have hfb : ((ss.take j).flatMap (sayBits f)).length ≤ 22 * j := by
          have key : ∀ l : List Say, (∀ x ∈ l, x ∈ ss) → (l.flatMap (sayBits f)).length ≤ 22 * l.length := by
           intro l
           induction l with
           | nil => intro _; simp
           | cons y l ih =>
            intro h
            have h1 := ih (fun x hx => h x (by simp [hx]))
            have h2 := a11.2.2.2.2.2.2.2.2.2.2 y (h y (by simp))
            have h3 : (cbits f y.s).length ≤ 15 := by
             unfold cbits
             cases e : f[y.s]? with
             | none => simp
             | some n => simp only [bitsB_len]; exact ag.2.2.2.2.1.2 n (List.mem_of_getElem? e)
            rw [List.flatMap_cons, List.length_append, List.length_cons]
            unfold sayBits at *
            rw [List.length_append, bitsOf_length]
            omega
          have := key (ss.take j) (fun x hx => List.mem_of_mem_take hx)
          rw [List.length_take] at this
          omega
         by_cases hj : j < sn
         ·have t1 : ((j : Int) < (sn : Int)) = True := eq_true (by omega)
          have t1' : (j < sn) = True := eq_true hj
          obtain ⟨x, hx⟩ : ∃ x, ss[j]? = some x := ⟨_, List.getElem?_eq_getElem (by omega)⟩
          have hxb := a11.2.2.2.2.2.2.2.2.2.2 x (List.mem_of_getElem? hx)
          obtain ⟨m, hm, hm0⟩ := ag.2.2.2.2.2 x (List.mem_of_getElem? hx)
          have hm15 := ag.2.2.2.2.1.2 m (List.mem_of_getElem? hm)
          have tbr : Tb wr T0 f := a20.2.2.wk hk5 a20.1.fr
          have hW13 : ∃ cs, Cells w13 W cs 99 := a13.2.2.2.2.2.2.2.2.1
          have sar : SayAt wr sa ss := a13.2.2.2.2.1.keep (fun g cs hc => by obtain ⟨ds, hds⟩ := hW13; exact hc.wk (a20.2.1.trans hk5) (kinds_ne hc hds (by decide)) (by decide))
          obtain ⟨sg, hsg, c0, c1, c2⟩ := sar.get hx
          subst hsg
          have hbl := A19.out.2.2.2.2
          have hb3l := A16.out.2.2.2.2.1
          have hbsl := a13.2.2.2.2.2.2.2.1
          have hsym := wsymbol_c T0 x.s m f wr hz5 hp5 a13.2.2.2.2.2.2.1 (by rw [List.length_append]; omega) tbr hm hm0 hm15 (by have := ag.1; omega)
          obtain ⟨xs, hxs⟩ : ∃ xs, x.s = xs := ⟨_, rfl⟩
          rw [hxs] at c0 hsym
          have hjI : (j : Int) < 316 := by omega
          have AX : Aside (j + gk = sn ∧ j < sn ∧ Vk lo W w20 wr ∧ ss[j]? = some x ∧ x.s = xs ∧ x.s ≤ 18 ∧ x.n ≤ 7 ∧ (x.n = 0 ∨ x.v < 128) ∧ (b4 ++ (ss.take j).flatMap (sayBits f)).length + 15 + 8 < 1099511627776 ∧ SayAt wr (some ⟨sg, 0, none⟩) ss ∧ (cbits f xs).length ≤ 15) := ⟨hjg, hj, hk5, hx, hxs, hxb.1, hxb.2.1, hxb.2.2, by rw [List.length_append]; omega, sar, by
           unfold cbits
           cases e : f[xs]? with
           | none => simp
           | some n => simp only [bitsB_len]; exact ag.2.2.2.2.1.2 n (List.mem_of_getElem? e)⟩
          have AWz : Aside (Vz wr lo W v5 z5 (b4 ++ (ss.take j).flatMap (sayBits f)) p5) := hz5
          clear hJ hjg hz5 hp5 hk5 a11 a13 a20 ag hfb hj hx hxb hm hm0 hm15 tbr hW13 sar hbl hb3l hbsl hxs c1 c2
          go_upto_region 33 with (go_at_call 80; refine hsym.mono ?_; rintro e2 w21 ⟨rfl, ⟨v6, z6, p6, wz21, hp6⟩, hk21⟩)
          have ax := AX.out
          have sa21 : SayAt w21 (some ⟨sg, 0, none⟩) ss := ax.2.2.2.2.2.2.2.2.2.1.keep (fun g cs hc => hc.wk hk21 (kinds_ne hc AWz.out.fr (by decide)) (by decide))
          obtain ⟨sg', hsg', c0', c1, c2⟩ := sa21.get ax.2.2.2.1
          cases hsg'
          obtain ⟨xv, hxv⟩ : ∃ xv, x.v = xv := ⟨_, rfl⟩
          obtain ⟨xn, hxn⟩ : ∃ xn, x.n = xn := ⟨_, rfl⟩
          rw [hxv] at c1
          rw [hxn] at c2
          have hnum : ∀ X : World, Vz X lo W v6 z6 (b4 ++ (ss.take j).flatMap (sayBits f) ++ cbits f xs) p6 → Calls Tryz.prog 52 #[.pointer (some ⟨W, 0, none⟩), .int .i64 (xv : Int), .int .i64 (xn : Int)] X fun e w' => e = .returned (.tuple #[]) ∧ (∃ v' z' p', Vz w' lo W v' z' (b4 ++ (ss.take j).flatMap (sayBits f) ++ cbits f xs ++ bitsOf xn xv) p' ∧ p' < 8) ∧ Vk lo W X w' := by
           intro X hX
           by_cases h0 : xn = 0
           ·subst h0
            refine (wnumber0 xv W X).mono ?_
            rintro e w' ⟨he, rfl⟩
            exact ⟨he, ⟨v6, z6, p6, by simpa [bitsOf] using hX, hp6⟩, Vk.refl _ _ _⟩
           ·have hv : xv < 128 := by rcases ax.2.2.2.2.2.2.2.1 with h | h <;> omega
            exact wnumber_c xv xn (by omega) (by omega) X hX hp6 A13.out.2.2.2.2.2.2.1 (by have := ax.2.2.2.2.2.2.2.2.1; have := ax.2.2.2.2.2.2.2.2.2.2; rw [List.length_append]; omega)
          have AY : Aside (Vk lo W w20 w21 ∧ b4 ++ (ss.take j).flatMap (sayBits f) ++ cbits f xs ++ bitsOf xn xv = b4 ++ (ss.take (j + 1)).flatMap (sayBits f)) := ⟨ax.2.2.1.trans hk21, by
           rw [List.append_assoc, List.append_assoc, show ss.take (j + 1) = ss.take j ++ [x] by rw [List.take_add_one, ax.2.2.2.1]; rfl, List.flatMap_append]
           simp [sayBits, ax.2.2.2.2.1, hxv, hxn]⟩
          have A21 : Aside (SayAt w21 (some ⟨sg, 0, none⟩) ss ∧ ss[j]? = some x ∧ x.v = xv ∧ x.n = xn ∧ ∃ cs, Cells w21 W cs 99) := ⟨sa21, ax.2.2.2.1, hxv, hxn, ⟨_, wz21.fr⟩⟩
          clear ax sa21 hxv hxn hsym c0 c0'
          go_region_held3 (fun u => u.cell? ⟨sg, j * 3 + 1, none⟩ = some (.int .i64 (xv : Int)) ∧ u.cell? ⟨sg, j * 3 + 2, none⟩ = some (.int .i64 (xn : Int))) (first | assumption | exact ⟨c1, c2⟩ | exact d22)
           (first | (go_at_call 52; refine (hnum _ wz21.drew).mono ?_; rintro e2 w22 ⟨rfl, ⟨v7, z7, p7, wz22, hp7⟩, hk22⟩; have d22 : w22.cell? ⟨sg, j * 3 + 1, none⟩ = some (.int .i64 (xv : Int)) ∧ w22.cell? ⟨sg, j * 3 + 2, none⟩ = some (.int .i64 (xn : Int)) := (by have a21 := A21.out; obtain ⟨ds, hds⟩ := a21.2.2.2.2; obtain ⟨g', hg', _, e1, e2'⟩ := SayAt.get (a21.1.keep (u := w22) (fun g cs hc => hc.wk hk22.undrew (kinds_ne hc hds (by decide)) (by decide))) a21.2.1; cases hg'; rw [a21.2.2.1] at e1; rw [a21.2.2.2.1] at e2'; exact ⟨e1, e2'⟩)))
          go_wp2_with fail
          have ax := AX.out
          have ay := AY.out
          have ax1 := ax.1
          have ax2 := ax.2.1
          rw [ay.2] at wz22
          go_roundg (gk - 1)
          case measure => omega
          case rel => exact ⟨j + 1, by go_num, by omega, ⟨v7, z7, p7, wz22, hp7⟩, ay.1.trans hk22.undrew⟩
         ·have t1 : ((j : Int) < (sn : Int)) = False := eq_false (by omega)
          have t1' : (j < sn) = False := eq_false hj
          rw [List.take_of_length_le (by omega)] at hz5 hfb
          obtain ⟨w23, hw23⟩ : ∃ w23, w23 = wr := ⟨_, rfl⟩
          subst hw23
          obtain ⟨b5, hb5⟩ : ∃ b5, b4 ++ ss.flatMap (sayBits f) = b5 := ⟨_, rfl⟩
          rw [hb5] at hz5
          have hb5l : b5.length ≤ b4.length + 7000 := by rw [← hb5, List.length_append]; omega
          have af := AF.out
          obtain ⟨ds, hds⟩ := a13.2.2.2.2.2.2.2.2.1
          have hkk := a20.2.1.trans hk5
          have k123 : Cells w23 H1 (vi (iz lt)).toArray 3 := a13.2.2.1.wk hkk (kinds_ne a13.2.2.1 hds (by decide)) (by decide)
          have k223 : Cells w23 H2 (vi (iz dt)).toArray 3 := a13.2.2.2.1.wk hkk (kinds_ne a13.2.2.2.1 hds (by decide)) (by decide)
          have tk23 : Toks w23 a l := a13.2.1.wk hkk hds
          have hnw1 := new_ok w23 (some ⟨H1, 0, none⟩) lt 286 286 (lens_cells k123) af.1 af.2.2.1
          have A23 : Aside (Vz w23 lo W v5 z5 b5 p5 ∧ p5 < 8 ∧ Vk lo W w13 w23 ∧ b4 ++ ss.flatMap (sayBits f) = b5 ∧ b5.length ≤ b4.length + 7000 ∧ Cells w23 H2 (vi (iz dt)).toArray 3 ∧ Toks w23 a l) := ⟨hz5, hp5, hkk, hb5, hb5l, k223, tk23⟩
          clear hJ hjg hz5 hp5 hk5 a11 a13 a20 ag hfb hj hb5 hb5l af hds hkk k123 k223 tk23
          go_upto_region 35 with (go_at_call 51; refine hnw1.mono ?_; rintro e2 w24 ⟨T1, rfl, tb24, hb24⟩)
          have a23 := A23.out
          have hnw2 := new_ok w24 (some ⟨H2, 0, none⟩) dt 30 30 (lens_cells (a23.2.2.2.2.2.1.below hb24 a23.2.2.2.2.2.1.lt)) AF.out.2.1 AF.out.2.2.2.2.1
          have A24 : Aside (Vz w24 lo W v5 z5 b5 p5 ∧ Vk lo W w13 w24 ∧ Toks w24 a l ∧ Tb w24 T1 lt) := ⟨a23.1.below hb24, a23.2.2.1.trans (Vk.of_below hb24), a23.2.2.2.2.2.2.below hb24, tb24⟩
          clear a23 hnw1 tb24 hb24 t1 t1'
          go_upto_region 36 with (go_at_call 51; refine hnw2.mono ?_; rintro e2 w25 ⟨T2, rfl, tb25, hb25⟩)
          have a24 := A24.out
          have af := AF.out
          have a0 := A.out
          have tb25' : Tb w25 T1 lt := a24.2.2.2.wk (lo := lo) (W := W) (Vk.of_below hb25) a24.1.fr
          have hbd := wbody_c l lt dt T1 T2 a L C w25 (a24.1.below hb25) A23.out.2.1 a0.2.2.1 (a24.2.2.1.below hb25) a0.2.2.2.2.1 (by omega) tb25' tb25 af.2.2.2.1.2 af.2.2.2.2.2.1.2 (by omega) (by omega) (fun t ht => ⟨af.2.2.2.2.2.2.2 t ht, by have := a0.2.2.2.2.2.2.1 t ht; cases t using Tok.el <;> exact this⟩) af.2.2.2.2.2.2.1 (by have := A23.out.2.2.2.2.1; have := A19.out.2.2.2.2; have := A16.out.2.2.2.2.1; omega)
          have A25 : Aside (Vk lo W w13 w25) := a24.2.1.trans (Vk.of_below hb25)
          clear a24 af a0 tb25' tb25 hb25 hnw2
          go_wp2_with (go_at_call 53; refine hbd.mono ?_; rintro e2 w26 ⟨rfl, ⟨v8, z8, p8, wz26, hp8⟩, hk26⟩)
          first | go_end0 | (refine bodyPost_ret (results_none rfl _ _ _) rfl ?_)
          have a13 := A13.out
          have af := AF.out
          have ag := AG.out
          have hW13 : Vk lo W w w13 := Vk.of_below (by rw [a13.2.2.2.2.2.2.2.2.2]; exact a13.1)
          have e : bs ++ dynBits f lt dt ss l = b5 ++ (l.flatMap (tokBits lt dt) ++ cbits lt 256) := by
           rw [← A23.out.2.2.2.1, ← A19.out.2.2.2.1, ← A16.out.2.2.2.1]
           simp [dynBits]
          refine ⟨rfl, ⟨f, lt, dt, ss, ⟨ag.1, ag.2.1, ag.2.2.1, ag.2.2.2.2.1, af.1, af.2.1, A11.out.2.2.2.2.2.2.2.1, ag.2.2.2.2.2, af.2.2.1, af.2.2.2.2.1, af.2.2.2.1, af.2.2.2.2.2.1, af.2.2.2.2.2.2.1, af.2.2.2.2.2.2.2⟩, v8, z8, p8, ?_, hp8, ?_⟩, (hW13.trans A25.out).trans hk26⟩
          ·rw [e]
           exact wz26
          ·have hl := congrArg List.length e
           have a0 := A.out
           have h1 := toks_len af.2.2.2.1.2 af.2.2.2.2.2.1.2 (l := l) (fun t ht => ⟨af.2.2.2.2.2.2.2 t ht, by have := a0.2.2.2.2.2.2.1 t ht; cases t using Tok.el <;> exact this⟩)
           have h2 : (cbits lt 256).length ≤ 15 := by
            unfold cbits
            cases e : lt[256]? with
            | none => simp
            | some n => simp only [bitsB_len]; exact af.2.2.2.1.2 n (List.mem_of_getElem? e)
           simp only [List.length_append] at hl
           have := A23.out.2.2.2.2.1
           have := A19.out.2.2.2.2
           have := A16.out.2.2.2.2.1
           have := a0.2.2.2.2.1
           omega
end Go.Proofs.YtogednaamndpgaaGreatDoor

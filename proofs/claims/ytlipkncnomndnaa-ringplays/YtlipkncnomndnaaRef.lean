/-
  What New, Put, Back and Repeat of the document's own window come to, at a window in memory whose list is the call's own.
  Conditions: the size is from 1 to 32768, and the list is not longer; each method keeps that.
-/
import Derived.Test.YtlipkncnomndnaaBag
namespace Go.Proofs.Ytlipkncnomndnaa
open Go.RowKit
set_option linter.unusedVariables false

/-- Block C holds the document's window of size N; its list is l, and lies in a block of the call's own, from 'base' on. -/
structure Qf (w : World) (C base N : Nat) (v : Value) (l : List Int) : Prop where
  hd : Cells w C #[.int .i64 (N : Int), v] 41
  bag : Bag w base v l
  lt : C < base
  le : base ≤ w.heap.size
section
variable {w u : World} {C base N : Nat} {v : Value} {l : List Int}
theorem Qf.drewN (q : Qf w C base N v l) (n : Nat) : Qf (w.drewN n) C base N v l := ⟨q.hd, q.bag, q.lt, q.le⟩
theorem Qf.drew (q : Qf w C base N v l) : Qf w.drew C base N v l := ⟨q.hd, q.bag, q.lt, q.le⟩
theorem Qf.c0 (q : Qf w C base N v l) : w.cell? ⟨C, 0, none⟩ = some (.int .i64 (N : Int)) := (q.hd.cell 0).trans rfl
theorem Qf.c1 (q : Qf w C base N v l) : w.cell? ⟨C, 1, none⟩ = some v := (q.hd.cell 1).trans rfl
/-- It stays where its blocks have not turned. -/
theorem Qf.kept (q : Qf w C base N v l) (hs : w.heap.size ≤ u.heap.size) (h1 : u.heap[C]? = w.heap[C]?) (h2 : ∀ g, v.ownBlock = some g → u.heap[g]? = w.heap[g]?) : Qf u C base N v l := by
  refine ⟨?_, q.bag.kept h2, q.lt, Nat.le_trans q.le hs⟩
  have := q.hd
  unfold Cells at *
  rw [h1]; exact this
theorem Qf.alloc (q : Qf w C base N v l) (o : Obj) : Qf (w.alloc o) C base N v l :=
  q.kept (by simp) (Below.heap_alloc w o C q.hd.lt) (fun g hg => Below.heap_alloc w o g (q.bag.lt g hg).2)
theorem Qf.below {B : Nat} (q : Qf w C base N v l) (k : Below B w u) (h1 : C < B) (h2 : w.heap.size ≤ B) : Qf u C base N v l :=
  q.kept k.size (k.block C h1) (fun g hg => k.block g (by have := (q.bag.lt g hg).2; omega))
theorem Qf.only {c : Nat} (q : Qf w C base N v l) (k : Only c w u) (h1 : C ≠ c) (h2 : c < base) : Qf u C base N v l :=
  q.kept (Nat.le_of_eq k.size.symm) (k.block C h1) (fun g hg => k.block g (by have := (q.bag.lt g hg).1; omega))
theorem Qf.grw {a b : Nat} (q : Qf w C base N v l) (k : Grw a b w u) (h1 : C ≠ a) (h2 : C ≠ b) (h3 : a < base) (h4 : b < base) : Qf u C base N v l :=
  q.kept k.size (k.block C q.hd.lt h1 h2) (fun g hg => k.block g (q.bag.lt g hg).2 (by have := (q.bag.lt g hg).1; omega) (by have := (q.bag.lt g hg).1; omega))
end
theorem Bag.drop1 {w : World} {base g o n c : Nat} {l : List Int} (h : Bag w base (.slice (some ⟨g, o, none⟩) (n + 1) c) l) (hl : l.length = n + 1) : Bag w base (.slice (some ⟨g, o + 1, none⟩) n (c - 1)) (l.drop 1) := by
  rcases h with ⟨h0, _⟩ | ⟨g', o', c', cur, hv, hg, hc, hoc, hlc, hz⟩
  · simp at h0
  · simp at hv
    obtain ⟨⟨rfl, rfl⟩, _, rfl⟩ := hv
    refine Or.inr ⟨g, o + 1, c - 1, cur, by rw [List.length_drop, hl]; simp, hg, hc, by omega, by rw [List.length_drop]; omega, fun i z hi => ?_⟩
    rw [List.getElem?_drop] at hi
    rw [show o + 1 + i = o + (1 + i) by omega]
    exact hz _ _ hi
/-- What a method of the document's window leaves: of the elder blocks its own and its list's alone may have turned; its list lies where it lay, or nowhere, or in a new block. -/
structure Kp (C : Nat) (v v' : Value) (w w' : World) : Prop where
  os : w'.os = w.os
  tape : w'.tape = w.tape
  output : w'.output = w.output
  size : w.heap.size ≤ w'.heap.size
  block : ∀ k, k < w.heap.size → k ≠ C → some k ≠ v.ownBlock → w'.heap[k]? = w.heap[k]?
  own : ∀ g, v'.ownBlock = some g → v.ownBlock = some g ∨ w.heap.size ≤ g
theorem Kp.refl (C : Nat) (v : Value) (w : World) : Kp C v v w w := ⟨rfl, rfl, rfl, Nat.le_refl _, fun _ _ _ _ => rfl, fun g h => Or.inl h⟩
theorem Kp.trans {C : Nat} {v v' v'' : Value} {w u x : World} (h : Kp C v v' w u) (k : Kp C v' v'' u x) : Kp C v v'' w x :=
  ⟨k.os.trans h.os, k.tape.trans h.tape, k.output.trans h.output, Nat.le_trans h.size k.size,
    fun i hi h1 h2 => (k.block i (Nat.lt_of_lt_of_le hi h.size) h1 (fun e => by rcases h.own i e.symm with h3 | h3; exact h2 h3.symm; omega)).trans (h.block i hi h1 h2),
    fun g hg => by
      rcases k.own g hg with h3 | h3
      · exact h.own g h3
      · exact Or.inr (Nat.le_trans h.size h3)⟩
theorem Kp.below {C B : Nat} {v v' : Value} {w u : World} (h : Kp C v v' w u) (hC : B ≤ C) (hv : ∀ g, v.ownBlock = some g → B ≤ g) (hB : B ≤ w.heap.size) : Below B w u :=
  ⟨h.os, h.tape, h.output, h.size, fun k hk => h.block k (by omega) (by omega) (fun e => by have := hv k e.symm; omega)⟩

theorem rnew_no (s : Int) (w : World) (h : s < 1 ∨ 32768 < s) : Calls Try.prog 9 #[.int .i64 s] w fun e w' => e = .returned (.tuple #[.pointer none, .int .i64 2]) ∧ w = w' := by
  go_enter Try.func9, Try.ntmps9
  by_cases h1 : s < 1
  · go_wp2
    go_ret2
    exact ⟨rfl, rfl⟩
  · have h2 : 32768 < s := by omega
    go_wp2
    go_ret2
    exact ⟨rfl, rfl⟩
theorem rnew_yes (n : Nat) (w : World) (h1 : 1 ≤ n) (h2 : n ≤ 32768) : Calls Try.prog 9 #[.int .i64 n] w fun e w' => e = .returned (.tuple #[.pointer (some ⟨w.heap.size, 0, none⟩), .int .i64 0]) ∧
    Qf w' w.heap.size (w.heap.size + 1) n (.slice none 0 0) [] ∧ Below w.heap.size w w' ∧ w'.heap.size = w.heap.size + 1 := by
  have e1 : ¬ (n : Int) < 1 := by omega
  have e2 : ¬ (32768 : Int) < n := by omega
  go_enter Try.func9, Try.ntmps9
  go_wp2
  go_ret2
  refine ⟨rfl, ⟨Cells.new _ _ _, Bag.nil _ _, by omega, by simp⟩, (Below.refl _ _).alloc (Nat.le_refl _) _, by simp⟩

set_option maxHeartbeats 1000000 in
theorem rput {C base N : Nat} {v : Value} {l : List Int} (z : Int) (w : World) (q : Qf w C base N v l) (hl : l.length ≤ N) (hN1 : 1 ≤ N) (hN : N ≤ 32768) :
    Calls Try.prog 11 #[.pointer (some ⟨C, 0, none⟩), .int .u8 z] w fun e w' => e = .returned (.tuple #[]) ∧ ∃ v', Qf w' C base N v' (lastN N (l ++ [z])) ∧ Kp C v v' w w' := by
  have hd := q.hd
  have hClt := hd.lt
  have hlt := q.lt
  have hle := q.le
  have c1 := q.c1
  have hbag2 := q.bag.alloc (Obj.cells #[.int .u8 z] 5)
  have hown := q.bag.lt
  have hda := hd.alloc (Obj.cells #[.int .u8 z] 5)
  have hcl : (w.alloc (Obj.cells #[.int .u8 z] 5)).cell? ⟨w.heap.size, 0, none⟩ = some (.int .u8 z) := ((Cells.new w #[.int .u8 z] 5).cell 0).trans rfl
  have hsz2 : base ≤ (w.alloc (Obj.cells #[.int .u8 z] 5)).heap.size := by simp; omega
  have hszp : (w.alloc (Obj.cells #[.int .u8 z] 5)).heap.size = w.heap.size + 1 := by simp
  have hall : ∀ k, k < w.heap.size → (w.alloc (Obj.cells #[.int .u8 z] 5)).heap[k]? = w.heap[k]? := fun k hk => Below.heap_alloc w _ k hk
  obtain ⟨a0, c0, hv0⟩ := q.bag.shape
  have AV : Aside (v = .slice a0 l.length c0) := hv0
  have AW : Aside (hcl = hcl ∧ (w.alloc (Obj.cells #[.int .u8 z] 5)).os = w.os ∧ (w.alloc (Obj.cells #[.int .u8 z] 5)).tape = w.tape ∧ (w.alloc (Obj.cells #[.int .u8 z] 5)).output = w.output ∧ (w.alloc (Obj.cells #[.int .u8 z] 5)).heap.size = w.heap.size + 1 ∧ ∀ k, k < w.heap.size → (w.alloc (Obj.cells #[.int .u8 z] 5)).heap[k]? = w.heap[k]?) := ⟨rfl, rfl, rfl, rfl, hszp, hall⟩
  clear hv0 hszp hall
  go_enter Try.func11, Try.ntmps11
  go_wp2_with (at_builtin; refine wpList_append_bag _ rfl (.tmp 8) (.tmp 10) rfl base v l rfl hbag2 w.heap.size z rfl hcl (by omega) hsz2 ?_)
  intro v1 w1 hA1
  obtain ⟨⟨g1, o1, cc1, cur1, rfl, hg1, hcur1, hoc1, hlc1, hor1⟩, hbag1, hgr1⟩ := hA1
  have hCv : some C ≠ v.ownBlock := fun e => by have := (hown C e.symm).1; omega
  have hd1 : Cells w1 C #[.int .i64 (N : Int), v] 41 := by
    have := hda
    unfold Cells at *
    rw [hgr1.block C (by have := AW.out.2.2.2.2.1; omega) hCv]; exact this
  have AK : Aside (∃ v1 : Value, v1 = .slice (some ⟨g1, o1, none⟩) (l.length + 1) cc1 ∧ Bag w1 base v1 (l ++ [z]) ∧ (w.alloc (Obj.cells #[.int .u8 z] 5)).grownBy w1 v.ownBlock ∧ (v.ownBlock = some g1 ∨ (w.alloc (Obj.cells #[.int .u8 z] 5)).heap.size ≤ g1)) := ⟨_, rfl, hbag1, hgr1, hor1⟩
  have c11 := (hd1.cell 1).trans rfl
  have f11 := hd1.frozen 1
  have c10 := (hd1.cell 0).trans rfl
  have AD : Aside (Cells w1 C #[.int .i64 (N : Int), v] 41) := hd1
  have AO : Aside (l.length = l.length ∧ o1 + cc1 ≤ cur1.size ∧ l.length + 1 ≤ cc1) := ⟨rfl, hoc1, hlc1⟩
  have hCg : C ≠ g1 := by omega
  have AB : Aside (l.length ≤ N ∧ 1 ≤ N ∧ N ≤ 32768) := ⟨hl, hN1, hN⟩
  clear hbag2 hcl hda c1 hd hgr1 hbag1 hor1 hoc1 hcur1 hsz2 hd1 q
  have fin : ∀ (w2 : World) (v2 : Value) (m : Nat), Cells w2 C #[.int .i64 (N : Int), v2] 41 → Only C w1 w2 → Bag w1 base v2 (lastN N (l ++ [z])) → (∀ g, v2.ownBlock = some g → g = g1) → ∃ v', Qf (w2.drewN m) C base N v' (lastN N (l ++ [z])) ∧ Kp C v v' w (w2.drewN m) := by
    intro w2 v2 m hc2 ho2 hb2 hg2
    obtain ⟨v1, hv1, hb1, hgr, hor⟩ := AK.out
    obtain ⟨_, e1, e2, e3, e4, e5⟩ := AW.out
    have hg1s := hgr.size
    refine ⟨v2, ⟨hc2, (hb2.kept (u := w2) fun g hg => ho2.block g (by rw [hg2 g hg]; exact Ne.symm hCg)).drewN m, hlt, ?_⟩, ?_⟩
    · have := ho2.size
      show base ≤ w2.heap.size
      omega
    · refine ⟨(ho2.os.trans hgr.os).trans e1, (ho2.tape.trans hgr.tape).trans e2, (ho2.output.trans hgr.output).trans e3, ?_, ?_, ?_⟩
      · have := ho2.size
        show w.heap.size ≤ w2.heap.size
        omega
      · intro k hk h1 h2
        exact ((ho2.block k h1).trans (hgr.block k (by omega) h2)).trans (e5 k hk)
      · intro g hg
        rw [hg2 g hg]
        rcases hor with h3 | h3
        · exact Or.inl h3
        · exact Or.inr (by omega)
  have AFin : Aside (∀ (w2 : World) (v2 : Value) (m : Nat), Cells w2 C #[.int .i64 (N : Int), v2] 41 → Only C w1 w2 → Bag w1 base v2 (lastN N (l ++ [z])) → (∀ g, v2.ownBlock = some g → g = g1) → ∃ v', Qf (w2.drewN m) C base N v' (lastN N (l ++ [z])) ∧ Kp C v v' w (w2.drewN m)) := fin
  clear fin hown hCv AW
  obtain ⟨L, hL⟩ : ∃ L, l.length = L := ⟨_, rfl⟩
  have ALL : Aside (l.length = L) := hL
  rw [hL] at hl hlc1 ⊢
  clear hL
  by_cases hov : N < L + 1
  · have hovi : (N : Int) < (L : Int) + 1 := by omega
    have hcc : ¬ cc1 = 1 := by omega
    go_wp2_with fail
    go_quiet (fail)
    go_wp2_with fail
    go_end0
    refine ⟨rfl, AFin.out ((w1.setCell ⟨C, 1, none⟩ _).setCell ⟨C, 1, none⟩ _) (.slice (some ⟨g1, o1 + 1, none⟩) L (cc1 - 1)) nq ((AD.out.set 1 _).set 1 _) (((Only.refl C w1).setCell 1 _).setCell 1 _) ?_ (fun g hg => by simp [Value.ownBlock] at hg; exact hg.symm)⟩
    obtain ⟨v1, hv1, hb1, _, _⟩ := AK.out
    have hb := AB.out
    have hLL := ALL.out
    rw [hv1, hLL] at hb1
    have e : lastN N (l ++ [z]) = (l ++ [z]).drop 1 := by
      unfold lastN
      rw [List.length_append, List.length_singleton, hLL, show L + 1 - N = 1 by omega]
    rw [e]
    exact hb1.drop1 (by rw [List.length_append, List.length_singleton, hLL])
  · have hovi : ¬ (N : Int) < (L : Int) + 1 := by omega
    go_wp2_with fail
    go_quiet (fail)
    go_wp2_with fail
    first | go_end0 | (refine bodyPost_ret (results_none rfl _ _ _) rfl ?_)
    refine ⟨rfl, AFin.out (w1.setCell ⟨C, 1, none⟩ _) (.slice (some ⟨g1, o1, none⟩) (L + 1) cc1) nq (AD.out.set 1 _) ((Only.refl C w1).setCell 1 _) ?_ (fun g hg => by simp [Value.ownBlock] at hg; exact hg.symm)⟩
    obtain ⟨v1, hv1, hb1, _, _⟩ := AK.out
    have hLL := ALL.out
    rw [hv1, hLL] at hb1
    rw [lastN_all (by rw [List.length_append, List.length_singleton, hLL]; omega)]
    exact hb1
theorem rback_no {C base N : Nat} {v : Value} {l : List Int} (d : Int) (w : World) (q : Qf w C base N v l) (hd : d < 1 ∨ (l.length : Int) < d) : Calls Try.prog 13 #[.pointer (some ⟨C, 0, none⟩), .int .i64 d] w fun e w' => e = .returned (.tuple #[.int .u8 0, .bool false]) ∧ w = w' := by
  obtain ⟨a, c, rfl⟩ := q.bag.shape
  have c1 := q.c1
  clear q
  generalize l.length = L at *
  go_enter Try.func13, Try.ntmps13
  by_cases h1 : d < 1
  · go_wp2_with fail
    go_ret2
    exact ⟨rfl, rfl⟩
  · have h0 : (L : Int) < d := by omega
    go_wp2_with fail
    go_ret2
    exact ⟨rfl, rfl⟩
theorem rback_yes {C base N : Nat} {v : Value} {l : List Int} (d : Nat) (z : Int) (w : World) (q : Qf w C base N v l) (h1 : 1 ≤ d) (h2 : d ≤ l.length) (hl : l.length ≤ 65536) (hz : l[l.length - d]? = some z) :
    Calls Try.prog 13 #[.pointer (some ⟨C, 0, none⟩), .int .i64 (d : Int)] w fun e w' => e = .returned (.tuple #[.int .u8 z, .bool true]) ∧ ∃ n, w' = w.drewN n := by
  have c1 := q.c1
  rcases q.bag with ⟨_, h0⟩ | ⟨g, o, c, cur, rfl, hg, hc, hoc, hlc, hcz⟩
  · subst h0; simp at h2; omega
  have g0 : w.cell? ⟨g, o + (l.length - d), none⟩ = some (.int .u8 z) := by rw [hc.cell]; exact hcz _ _ hz
  clear q hc hcz hz
  generalize l.length = L at *
  obtain ⟨p, hp⟩ : ∃ p, L - d = p := ⟨_, rfl⟩
  rw [hp] at g0
  have e1 : ¬ (d : Int) < 1 := by omega
  have e2 : ¬ (L : Int) < (d : Int) := by omega
  have e3 : (L : Int) - (d : Int) = (p : Int) := by omega
  have e4 : (p : Int) < (L : Int) := by omega
  clear hp
  go_enter Try.func13, Try.ntmps13
  go_wp2_with fail
  go_quiet (fail)
  go_wp2_with fail
  go_ret2
  exact ⟨rfl, _, rfl⟩
theorem rrep_no {C base N : Nat} {v : Value} {l : List Int} (d n : Int) (w : World) (q : Qf w C base N v l) (hd : d < 1 ∨ (l.length : Int) < d ∨ n < 0 ∨ 65536 < n) :
    Calls Try.prog 15 #[.pointer (some ⟨C, 0, none⟩), .int .i64 d, .int .i64 n] w fun e w' => e = .returned (.tuple #[.slice none 0 0, .bool false]) ∧ w = w' := by
  obtain ⟨a, c, rfl⟩ := q.bag.shape
  have c1 := q.c1
  clear q
  generalize l.length = L at *
  go_enter Try.func15, Try.ntmps15
  by_cases h : d < 1
  · go_wp2_with fail
    go_ret2
    exact ⟨rfl, rfl⟩
  · by_cases h1 : (L : Int) < d
    · go_wp2_with fail
      go_ret2
      exact ⟨rfl, rfl⟩
    · by_cases h2 : n < 0
      · go_wp2_with fail
        go_ret2
        exact ⟨rfl, rfl⟩
      · have h3 : 65536 < n := by omega
        go_wp2_with fail
        go_ret2
        exact ⟨rfl, rfl⟩
theorem cyc_back {N : Nat} {l : List Int} (d n k : Nat) (hl : l.length ≤ N) (h1 : 1 ≤ d) (hd : d ≤ l.length) (hk : k < n) :
    d ≤ (lastN N (l ++ (cyc l d n).take k)).length ∧ (lastN N (l ++ (cyc l d n).take k))[(lastN N (l ++ (cyc l d n).take k)).length - d]? = (cyc l d n)[k]? := by
  have hcl : ((cyc l d n).take k).length = k := by rw [List.length_take, cyc_length]; omega
  have hll := lastN_length N (l ++ (cyc l d n).take k)
  rw [List.length_append, hcl] at hll
  refine ⟨by omega, ?_⟩
  rw [hll]
  unfold lastN
  rw [List.getElem?_drop, List.length_append, hcl, show l.length + k - N + (min (l.length + k) N - d) = l.length + k - d by omega, List.getElem?_append, cyc_get _ _ _ _ hk]
  by_cases hkd : k < d
  · rw [if_pos (by omega), Nat.mod_eq_of_lt hkd, show l.length + k - d = l.length - d + k by omega, List.getElem?_eq_getElem (by omega)]
    simp [List.getElem?_eq_getElem (show l.length - d + k < l.length by omega)]
  · rw [if_neg (by omega), List.getElem?_take, if_pos (by omega), show l.length + k - d - l.length = k - d by omega, cyc_get _ _ _ _ (by omega), Nat.mod_eq_sub_mod (by omega : k ≥ d)]
theorem cyc_put {N : Nat} {l : List Int} (d n k : Nat) (z : Int) (hz : (cyc l d n)[k]? = some z) : lastN N (lastN N (l ++ (cyc l d n).take k) ++ [z]) = lastN N (l ++ (cyc l d n).take (k + 1)) ∧ (cyc l d n).take k ++ [z] = (cyc l d n).take (k + 1) := by
  obtain ⟨hk, hz⟩ := List.getElem?_eq_some_iff.1 hz
  have e : (cyc l d n).take k ++ [z] = (cyc l d n).take (k + 1) := by rw [List.take_succ_eq_append_getElem hk, hz]
  exact ⟨by rw [lastN_two, List.append_assoc, e], e⟩
end Go.Proofs.Ytlipkncnomndnaa

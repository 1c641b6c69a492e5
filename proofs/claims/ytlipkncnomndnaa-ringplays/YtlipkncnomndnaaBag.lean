/-
  A list of bytes of the call's own, at any place of its block, and what append of one byte makes of it; and spoil of the statements, which writes over such a list and behind it.
  Conditions: the list is not longer than 1048576.
-/
import Derived.Test.YtlipkncnomndnaaRep
import Derived.ArgAppend
import Derived.Laws.AppendOwn
namespace Go.Proofs.Ytlipkncnomndnaa
open Go.RowKit
set_option linter.unusedVariables false

/-- A list of bytes that is none, or lies in a block of the call's own, not below 'base', with room for its capacity. -/
def Bag (w : World) (base : Nat) (v : Value) (l : List Int) : Prop := (v = .slice none 0 0 ∧ l = []) ∨
  ∃ g o c cur, v = .slice (some ⟨g, o, none⟩) l.length c ∧ base ≤ g ∧ Cells w g cur 5 ∧ o + c ≤ cur.size ∧ l.length ≤ c ∧ ∀ i z, l[i]? = some z → cur[o + i]? = some (.int .u8 z)
theorem Bag.nil (w : World) (base : Nat) : Bag w base (.slice none 0 0) [] := Or.inl ⟨rfl, rfl⟩
theorem Bag.of_ans {w : World} {B : Nat} {v : Value} {l : List Int} (h : Ans w B v l) : Bag w B v l := by
  rcases h with ⟨rfl, rfl⟩ | ⟨g, rfl, hg, hc⟩
  · exact Or.inl ⟨rfl, rfl⟩
  · exact Or.inr ⟨g, 0, _, _, rfl, hg, hc, by simp [vb_length], Nat.le_refl _, fun i z hz => by rw [Nat.zero_add, List.getElem?_toArray, vb_get, hz]; rfl⟩
theorem Bag.lst {w : World} {B : Nat} {v : Value} {l : List Int} (h : Bag w B v l) : Lst w v l := by
  rcases h with ⟨rfl, rfl⟩ | ⟨g, o, c, cur, rfl, hg, hc, ho, hl, hz⟩
  · exact ⟨_, _, rfl, Nat.le_refl _, Or.inl rfl⟩
  · exact ⟨_, _, rfl, hl, Or.inr ⟨g, o, rfl, fun i z h => by rw [hc.cell]; exact hz i z h⟩⟩
theorem Bag.drewN {w : World} {B : Nat} {v : Value} {l : List Int} (h : Bag w B v l) (n : Nat) : Bag (w.drewN n) B v l := h
theorem Bag.lt {w : World} {B : Nat} {v : Value} {l : List Int} (h : Bag w B v l) : ∀ g, v.ownBlock = some g → B ≤ g ∧ g < w.heap.size := by
  intro g' hg'
  rcases h with ⟨rfl, rfl⟩ | ⟨g, o, c, cur, rfl, hg, hc, ho, hl, hz⟩
  · simp [Value.ownBlock] at hg'
  · simp [Value.ownBlock] at hg'
    subst hg'
    exact ⟨hg, hc.lt⟩
theorem Bag.shape {w : World} {B : Nat} {v : Value} {l : List Int} (h : Bag w B v l) : ∃ a c, v = .slice a l.length c := by
  rcases h with ⟨rfl, rfl⟩ | ⟨g, o, c, cur, rfl, hg, hc, ho, hl, hz⟩
  · exact ⟨_, _, rfl⟩
  · exact ⟨_, _, rfl⟩
/-- The list stays where its own block has not turned. -/
theorem Bag.kept {w u : World} {B : Nat} {v : Value} {l : List Int} (h : Bag w B v l) (hk : ∀ g, v.ownBlock = some g → u.heap[g]? = w.heap[g]?) : Bag u B v l := by
  rcases h with h | ⟨g, o, c, cur, rfl, hg, hc, ho, hl, hz⟩
  · exact Or.inl h
  · refine Or.inr ⟨g, o, c, cur, rfl, hg, ?_, ho, hl, hz⟩
    unfold Cells at *
    rw [hk g rfl]; exact hc
theorem Bag.alloc {w : World} {B : Nat} {v : Value} {l : List Int} (h : Bag w B v l) (o : Obj) : Bag (w.alloc o) B v l :=
  h.kept fun g hg => Below.heap_alloc w o g (h.lt g hg).2
theorem Bag.mono {w : World} {B B' : Nat} {v : Value} {l : List Int} (h : Bag w B v l) (hB : B' ≤ B) : Bag w B' v l := by
  rcases h with h | ⟨g, o, c, cur, rfl, hg, hc, ho, hl, hz⟩
  · exact Or.inl h
  · exact Or.inr ⟨g, o, c, cur, rfl, Nat.le_trans hB hg, hc, ho, hl, hz⟩
theorem Bag.of_own {w : World} {base n : Nat} {v : Value} {l : List Int} (h : w.ownsRow base 5 1 v n (vb l)) : Bag w base v l := by
  have hn : l.length = n := by have := h.1; rw [vb_length] at this; omega
  rcases h.2 with ⟨hv, h0⟩ | ⟨g, c, cur, hv, hg, hh, hc, hm, hs, ht⟩
  · exact Or.inl ⟨hv, List.eq_nil_of_length_eq_zero (by omega)⟩
  · refine Or.inr ⟨g, 0, c, cur, by rw [hn]; exact hv, hg, hh, by omega, by omega, fun i z hz => ?_⟩
    rw [Nat.zero_add]
    have hi : i < l.length := by
      obtain ⟨hi, _⟩ := List.getElem?_eq_some_iff.1 hz
      exact hi
    have e : (cur.toList.take (n * 1))[i]? = some (.int .u8 z) := by rw [ht, vb_get, hz]; rfl
    rw [List.getElem?_take, if_pos (by omega)] at e
    simpa using e
theorem own_none {w w' : World} (h : w.grownBy w' none) (r : Option Nat) : w.grownBy w' r := ⟨h.os, h.tape, h.output, h.size, fun k hk _ => h.block k hk (by simp)⟩

/-- What append of one byte leaves. -/
structure Got (w w' : World) (base : Nat) (v v' : Value) (l : List Int) (z : Int) : Prop where
  ex : ∃ g' o' c' cur', v' = .slice (some ⟨g', o', none⟩) (l.length + 1) c' ∧ base ≤ g' ∧ Cells w' g' cur' 5 ∧ o' + c' ≤ cur'.size ∧ l.length + 1 ≤ c' ∧ (v.ownBlock = some g' ∨ w.heap.size ≤ g')
  bag : Bag w' base v' (l ++ [z])
  grew : w.grownBy w' v.ownBlock
/-- append of one byte, as a law for the walk. -/
theorem wpList_append_bag (w : World) {ops : Array Oper} {rest : List Oper} {o : Oper} {a : Act} {Q : Exit → Act → World → Prop} (hgd : o.guard = none) (s x : Operand)
    (ho : o.op = .call { callee := .builtin .append, args := #[s, x], argTypes := #[35, 35] }) (base : Nat) (v : Value) (l : List Int) (hs : a.eval s = v) (hbag : Bag w base v l)
    (P : Nat) (z : Int) (hx : a.eval x = .slice (some ⟨P, 0, none⟩) 1 1) (hc : w.cell? ⟨P, 0, none⟩ = some (.int .u8 z)) (hlen : l.length ≤ 1048576) (hbase : base ≤ w.heap.size)
    (h : ∀ v' w', Got w w' base v v' l z → wpList Try.prog ops Q rest (a.put o.dst v') w') :
    wpList Try.prog ops Q (o :: rest) a w := by
  obtain ⟨i0, hi, hz0, hz1, hz2⟩ := info_parts info5
  have hnews : ∀ j u, ([Value.int .u8 z] : List Value)[j]? = some u → w.cell? ((⟨P, 0, none⟩ : Addr).add j) = some u := by
    intro j u hj
    match j, hj with
    | 0, hj => simp at hj; subst hj; rw [add_lit]; exact hc
  have h1c : ∀ u ∈ ([Value.int .u8 z] : List Value), u.oneCell' = true := by intro u hu; simp at hu; subst hu; rfl
  have hb1 : l.length + 1 ≤ maxLen := by unfold maxLen; omega
  have fromOwn : ∀ (v' : Value) (w' : World), w'.ownsRow w.heap.size 5 1 v' (l.length + 1) (vb l ++ [Value.int .u8 z]) → w.grownBy w' none → wpList Try.prog ops Q rest (a.put o.dst v') w' := by
    intro v' w' hown hg
    have e : vb l ++ [Value.int .u8 z] = vb (l ++ [z]) := by simp [vb]
    rw [e] at hown
    have hbg := Bag.of_own hown
    refine h v' w' ⟨?_, hbg.mono hbase, own_none hg _⟩
    rcases hbg with ⟨_, h2⟩ | ⟨g, oo, c, cur, hv, hgg, hcc, hoc, hlc, _⟩
    · simp at h2
    · rw [List.length_append, List.length_singleton] at hv hlc
      exact ⟨g, oo, c, cur, hv, Nat.le_trans hbase hgg, hcc, hoc, hlc, Or.inr hgg⟩
  rcases hbag with ⟨rfl, rfl⟩ | ⟨g, off, c, cur, rfl, hg, hcur, hoc, hlc, hz⟩
  · exact wpList_append_grows (P := Try.prog) w hgd s x 35 ho 5 i0 (.int .u8 0) 1 1 Try.underlying35 hi hz0 hz1 hz2 rfl (by decide) none 0 0 [] hs (fun _ => ⟨rfl, rfl⟩) rfl (by simp) ⟨P, 0, none⟩ 1 1 [.int .u8 z] hx rfl hnews h1c (by omega) hb1 (by omega) fromOwn
  · refine wpList_append_arg (P := Try.prog) w hgd s x 35 ho 5 i0 (.int .u8 0) 1 1 Try.underlying35 hi hz0 hz1 hz2 rfl (by decide) g off l.length c (vb l) hs (by rw [vb_length]; omega) ?_ ⟨P, 0, none⟩ 1 1 [.int .u8 z] hx rfl hnews h1c ?_ hb1 (by omega) ?_ (fun _ => fromOwn)
    · intro j u hu
      rw [vb_get] at hu
      cases hq : l[j]? with
      | none => simp [hq] at hu
      | some y => simp [hq] at hu; rw [← hu, hcur.cell]; exact hz j y hq
    · intro hr j hj
      simp at hj
      subst hj
      rw [Nat.mul_one, Nat.add_zero, hcur.cell, hcur.frozen]
      exact ⟨by rw [Array.getElem?_eq_getElem (by omega)]; rfl, rfl⟩
    · intro hr
      rw [Nat.mul_one]
      show wpList Try.prog ops Q rest (a.put o.dst (.slice (some ⟨g, off, none⟩) (l.length + 1) c)) (w.setCell ⟨g, off + l.length, none⟩ (.int .u8 z))
      have hcells := hcur.set (off + l.length) (.int .u8 z)
      refine h _ _ ⟨⟨g, off, c, _, rfl, hg, hcells, by simpa using hoc, hr, Or.inl rfl⟩, Or.inr ⟨g, off, c, _, by rw [List.length_append, List.length_singleton], hg, hcells, by simpa using hoc, by rw [List.length_append, List.length_singleton]; exact hr, ?_⟩, ?_⟩
      · intro i y hi
        rw [List.getElem?_append] at hi
        rw [Array.getElem?_setIfInBounds]
        split at hi
        · rename_i hil
          rw [if_neg (by omega)]
          exact hz i y hi
        · rename_i hil
          have hi0 : i = l.length := by
            obtain ⟨hh, _⟩ := List.getElem?_eq_some_iff.1 hi
            simp at hh; omega
          subst hi0
          simp at hi
          subst hi
          rw [if_pos rfl, if_pos (by omega)]
      · exact ⟨rfl, rfl, rfl, by simp [World.setCell], fun k hk hne => Below.heap_setCell _ _ _ _ (fun e => hne (by rw [e]; rfl))⟩

theorem grown_refl (w : World) (r : Option Nat) : w.grownBy w r := ⟨rfl, rfl, rfl, Nat.le_refl _, fun _ _ _ => rfl⟩
theorem grown_trans {a b c : World} {r : Option Nat} (h : a.grownBy b r) (k : b.grownBy c r) : a.grownBy c r :=
  ⟨k.os.trans h.os, k.tape.trans h.tape, k.output.trans h.output, Nat.le_trans h.size k.size, fun i hi hr => (k.block i (Nat.lt_of_lt_of_le hi h.size) hr).trans (h.block i hi hr)⟩
theorem grown_set {a b : World} {g : Nat} (h : a.grownBy b (some g)) (o : Nat) (v : Value) : a.grownBy (b.setCell ⟨g, o, none⟩ v) (some g) :=
  ⟨h.os, h.tape, h.output, by have := h.size; simp [World.setCell]; omega, fun k hk hne => (Below.heap_setCell _ _ _ _ (fun e => hne (by rw [e]))).trans (h.block k hk hne)⟩
theorem grown_new {a b : World} {r : Option Nat} (h : a.grownBy b r) {g : Nat} (hg : a.heap.size ≤ g) (o : Nat) (v : Value) : a.grownBy (b.setCell ⟨g, o, none⟩ v) r :=
  ⟨h.os, h.tape, h.output, by have := h.size; simp [World.setCell]; omega, fun k hk hne => (Below.heap_setCell _ _ _ _ (fun e => by have : k = g := e; omega)).trans (h.block k hk hne)⟩
set_option maxHeartbeats 1000000 in
theorem spoil_c (B : Nat) (v : Value) (l : List Int) (y : Int) (w : World) (h : Ans w B v l) (hl : l.length ≤ 65536) :
    Calls Try.prog 17 #[v, .int .u8 y] w fun e w' => e = .returned (.tuple #[]) ∧ w.grownBy w' v.ownBlock := by
  have hshape : ∃ a, v = .slice a l.length l.length := by
    rcases h with ⟨rfl, rfl⟩ | ⟨g, rfl, _, _⟩
    · exact ⟨_, rfl⟩
    · exact ⟨_, rfl⟩
  obtain ⟨a, rfl⟩ := hshape
  obtain ⟨L, hL⟩ : ∃ L, l.length = L := ⟨_, rfl⟩
  have AL : Aside (l.length = L) := hL
  rw [hL] at hl h ⊢
  clear hL
  obtain ⟨own, hown⟩ : ∃ own, (Value.slice a L L).ownBlock = own := ⟨_, rfl⟩
  rw [hown]
  have AO : Aside ((Value.slice a L L).ownBlock = own) := hown
  clear hown
  go_enter Try.func17, Try.ntmps17
  go_wp2_with fail
  go_loopg [4] L (fun g si wr => ∃ k : Nat, k + g = L ∧ si = .int .i64 k ∧ (∃ l' : List Int, l'.length = L ∧ Ans wr B (.slice a L L) l') ∧ w.grownBy wr own)
  case atStart => exact ⟨0, by omega, rfl, ⟨l, AL.out, h⟩, grown_refl _ _⟩
  case round =>
    clear h AL l
    obtain ⟨k, hkg, rfl, ⟨l', hl', hans⟩, hgr⟩ := hrel
    have AK : Aside (k + gk = L) := hkg
    by_cases hk : k < L
    · have hki : (k : Int) < (L : Int) := by omega
      rcases hans with ⟨h0, _⟩ | ⟨g, hv, hBg, hc⟩
      · subst h0; simp at hl'; omega
      obtain rfl : a = some ⟨g, 0, none⟩ := by simp at hv; exact hv.1
      have hown : own = some g := AO.out.symm
      have hkl : k < l'.length := by omega
      have g0 := hc.byte (List.getElem?_eq_getElem hkl)
      have g1 := hc.frozen k
      have AC : Aside (Cells wr g (vb l').toArray 5 ∧ w.grownBy wr (some g)) := ⟨hc, by rw [← hown]; exact hgr⟩
      have ALl : Aside (l'.length = L) := hl'
      have AOw : Aside (own = some g) := hown
      generalize l'[k] = z at *
      clear hkl hc hv hkg hl' hown hgr
      go_wp2_with fail
      have AK := AK.out
      go_roundg (gk - 1)
      case measure => omega
      case rel =>
        have hs : Cells (wr.setCell ⟨g, k, none⟩ (.int .u8 ((z + y) % 256))) g (vb (l'.set k ((z + y) % 256))).toArray 5 := by
          have := AC.out.1.set k (.int .u8 ((z + y) % 256))
          rwa [vb_set] at this
        exact ⟨k + 1, by omega, by go_num, ⟨_, by rw [List.length_set]; exact ALl.out, Or.inr ⟨g, by rw [List.length_set, ALl.out], hBg, hs⟩⟩, by rw [AOw.out]; exact grown_set AC.out.2 _ _⟩
    · have hki : ¬ (k : Int) < (L : Int) := by omega
      have hbag := Bag.mono (Bag.of_ans hans) (Nat.zero_le _)
      have hbag2 := hbag.alloc (Obj.cells #[.int .u8 y] 5)
      have hlt := hbag.lt
      have hcl : (wr.alloc (Obj.cells #[.int .u8 y] 5)).cell? ⟨wr.heap.size, 0, none⟩ = some (.int .u8 y) := ((Cells.new wr #[.int .u8 y] 5).cell 0).trans rfl
      have hgr2 : w.grownBy (wr.alloc (Obj.cells #[.int .u8 y] 5)) own := grown_trans hgr (World.grownBy_alloc wr _ own)
      have ALl : Aside (l'.length = L) := hl'
      have AG : Aside (w.grownBy (wr.alloc (Obj.cells #[.int .u8 y] 5)) own) := hgr2
      clear hkg AK hk hans hbag hgr hgr2
      go_wp2_with (at_builtin; refine wpList_append_bag _ rfl (.tmp 21) (.tmp 23) rfl 0 _ l' rfl hbag2 wr.heap.size y rfl hcl (by rw [ALl.out]; omega) (Nat.zero_le _) ?_)
      intro v4 w4 hA4
      obtain ⟨⟨g4, o4, c4, cur4, rfl, hg4, hc4, hoc4, hlc4, hor4⟩, _, hgr⟩ := hA4
      rw [ALl.out] at hlc4 ⊢
      have hgr4 : w.grownBy w4 own := grown_trans AG.out (by rw [← AO.out]; exact hgr)
      have AF : Aside (∀ vv, w.grownBy (w4.setCell ⟨g4, o4 + L, none⟩ vv) own) := fun vv => by
        rcases hor4 with h3 | h3
        · have e : own = some g4 := AO.out.symm.trans h3
          rw [e] at hgr4 ⊢
          exact grown_set hgr4 _ _
        · exact grown_new hgr4 (Nat.le_trans AG.out.size h3) _ _
      have hLi : (L : Int) < ((L : Nat) : Int) + 1 := by omega
      have hs : ∃ u, w4.cell? ⟨g4, o4 + L, none⟩ = some u := ⟨_, by rw [hc4.cell, Array.getElem?_eq_getElem (by omega)]⟩
      obtain ⟨u, hu⟩ := hs
      have hf := hc4.frozen (o4 + L)
      clear hbag2 hgr hcl hgr4 hor4
      go_wp2_with fail
      first | go_end0 | (refine bodyPost_ret (results_none rfl _ _ _) rfl ?_)
      exact ⟨rfl, AF.out _⟩
end Go.Proofs.Ytlipkncnomndnaa

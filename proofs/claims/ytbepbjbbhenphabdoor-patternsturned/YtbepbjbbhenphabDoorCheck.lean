/-
  What Check comes to: the error of some patterns, by the chapter's first promise.
  Conditions: the patterns lie in memory.
-/
import Derived.Test.YtbepbjbbhenphabDoorProg
import Derived.Test.YtbepbjbbhenphabDoorLies
import Derived.Laws.BytesArg
import Derived.Lib.Bytes
import Derived.WalkSpells
import Derived.Deep.LoopGhost
import Derived.WalkMore
import Derived.BigQuiet
import Derived.Deep.CutBlock
import Derived.Deep.DeepCutAuto
namespace Go.Proofs.YtbepbjbbhenphabDoor
open Go.RowKit
set_option linter.unusedVariables false
/-- Bytes as a string. -/
def strN (l : List Nat) : ByteArray := strOfNums (l.map fun x : Nat => (x : Int))
theorem strN_inj {l m : List Nat} (hl : Oct l) (hm : Oct m) (h : (strN l).toList = (strN m).toList) : l = m := by
  have h1 := h
  rw [strN, strN, Lib.strOfNums_toList, Lib.strOfNums_toList] at h1
  simp only [Lib.bytesOf, List.map_map] at h1
  have key : ∀ (l m : List Nat), Oct l → Oct m → l.map ((fun n : Int => UInt8.ofNat n.toNat) ∘ fun x : Nat => (x : Int)) = m.map ((fun n : Int => UInt8.ofNat n.toNat) ∘ fun x : Nat => (x : Int)) → l = m := by
    intro l
    induction l with
    | nil => intro m _ _ h; cases m with
      | nil => rfl
      | cons y m => simp at h
    | cons x l ih =>
      intro m hl hm h
      cases m with
      | nil => simp at h
      | cons y m =>
        simp only [List.map_cons, List.cons.injEq, Function.comp_apply, Int.toNat_natCast] at h
        have hx := hl x (by simp)
        have hy := hm y (by simp)
        have e : x = y := by
          have := congrArg UInt8.toNat h.1
          simp at this
          omega
        rw [e, ih m (fun z hz => hl z (by simp [hz])) (fun z hz => hm z (by simp [hz])) h.2]
  exact key l m hl hm h1
theorem conv_c {w : World} {a : Option Addr} {l : List Nat} (h : Lies w a l) (n c : Nat) (hn : l.length = n) : (convert 23 9 (.slice a n c)).run Tryd.prog w = .ok (.string (strN l)) w := by
  rcases h with rfl | ⟨b, o, rfl, hc⟩
  · have h0 : n = 0 := by simpa using hn.symm
    subst h0
    rw [run_convert_bytes_string w 23 9 5 _ 0 c Tryd.underlying23 Tryd.underlying5 Tryd.underlying9]
    cases a <;> simp [Conv.bytesToString, loadCells, strN, strOfNums]
    all_goals rfl
  · refine run_convert_bytes_arg w 23 5 Tryd.underlying23 Tryd.underlying5 b o n c (l.map fun x : Nat => (x : Int)) (by simpa using hn) (fun i hi => ?_) 9 Tryd.underlying9
    have hil : i < l.length := by omega
    rw [hc i l[i] (List.getElem?_eq_getElem hil)]
    simp [List.getD, hil]
theorem equal_c (a b : Option Addr) (l m : List Nat) (n c k d : Nat) (w : World) (hl : Lies w a l) (hm : Lies w b m) (hn : l.length = n) (hk : m.length = k) (ol : Oct l) (om : Oct m) :
    Calls Tryd.prog 29 #[.slice a n c, .slice b k d] w fun e w' => e = .returned (.bool (decide (l = m))) ∧ w = w' := by
  have h1 := conv_c hl n c hn
  have h2 := conv_c hm k d hk
  have he : ((strN l).toList == (strN m).toList) = decide (l = m) := by
    by_cases e : l = m
    · rw [e, decide_eq_true rfl]; exact beq_self_eq_true _
    · rw [decide_eq_false e, beq_eq_false_iff_ne]; exact fun h => e (strN_inj ol om h)
  generalize strN l = s1 at *
  generalize strN m = s2 at *
  generalize decide (l = m) = q at *
  clear hl hm hn hk ol om
  go_enter Tryd.func29, Tryd.ntmps29
  go_wp2_with fail
  go_ret
  exact ⟨by rw [← he]; rfl, rfl⟩
/-- Lists of bytes that lie in memory, one behind the other. -/
def Rows2 (w : World) (a : Option Addr) (ll : List (List Nat)) : Prop := ll = [] ∨ ∃ (b o : Nat), a = some ⟨b, o, none⟩ ∧ ∀ (i : Nat) (l : List Nat), ll[i]? = some l → ∃ (ai : Option Addr) (ci : Nat), w.cell? ⟨b, o + i, none⟩ = some (.slice ai l.length ci) ∧ Lies w ai l ∧ l.length ≤ ci ∧ l.length < 140737488355328 ∧ (ai = none → l.length = 0 ∧ ci = 0)
theorem Rows2.below {w u : World} {a : Option Addr} {ll : List (List Nat)} (h : Rows2 w a ll) (k : Below w.heap.size w u) : Rows2 u a ll := by
  rcases h with h | ⟨b, o, ha, hc⟩
  · exact Or.inl h
  · refine Or.inr ⟨b, o, ha, fun i l hl => ?_⟩
    obtain ⟨ai, ci, h1, h2, h3⟩ := hc i l hl
    exact ⟨ai, ci, (k.cell (p := ⟨b, o + i, none⟩) (World.block_lt_of_cell? w ⟨b, o + i, none⟩ h1)).trans h1, h2.below k, h3⟩
theorem Rows2.take {w : World} {a : Option Addr} {ll : List (List Nat)} (h : Rows2 w a ll) (k : Nat) : Rows2 w a (ll.take k) := by
  rcases h with rfl | ⟨b, o, ha, hc⟩
  · left; simp
  · refine Or.inr ⟨b, o, ha, fun i l hl => hc i l ?_⟩
    rw [List.getElem?_take] at hl
    split at hl
    · exact hl
    · cases hl
/-- Lists of bytes. -/
def Octs (ll : List (List Nat)) : Prop := ∀ l ∈ ll, Oct l
theorem box_c (bx : Nat) (a b : Option Addr) (p q : List Nat) (n c k d : Nat) (w : World) (hb : w.cell? ⟨bx, 0, none⟩ = some (.slice a n c)) (hp : Lies w a p) (hq : Lies w b q) (hn : p.length = n) (hk : q.length = k) (op : Oct p) (oq : Oct q) :
    Calls Tryd.prog 28 #[.slice b k d, .pointer (some ⟨bx, 0, none⟩)] w fun e w' => e = .returned (.bool (decide (p = q))) ∧ w = w' := by
  have hc := equal_c a b p q n c k d w hp hq hn hk op oq
  generalize decide (p = q) = r at *
  clear hp hq hn hk op oq
  go_enter Tryd.func28, Tryd.ntmps28
  go_wp2_with (go_at_call 29; refine hc.mono ?_; rintro e2 w2 ⟨rfl, rfl⟩)
  go_ret
  exact ⟨rfl, rfl⟩
set_option maxHeartbeats 1000000 in
theorem index_c (bx : Nat) (a s : Option Addr) (p : List Nat) (ll : List (List Nat)) (n c L C : Nat) (w : World) (hb : w.cell? ⟨bx, 0, none⟩ = some (.slice a n c)) (hp : Lies w a p) (hn : p.length = n) (op : Oct p) (hll : Rows2 w s ll) (hL : ll.length = L) (hLC : L ≤ C) (hLb : L < 140737488355328) (ol : Octs ll) :
    Calls Tryd.prog 33 #[.slice s L C, .func (.func 28) #[] #[.pointer (some ⟨bx, 0, none⟩)]] w fun e w' => (∃ r : Int, e = .returned (.int .i64 r) ∧ decide (r ≥ 0) = decide (p ∈ ll)) ∧ w = w' := by
  have AB : Aside (Lies w a p ∧ p.length = n ∧ Oct p ∧ Rows2 w s ll ∧ ll.length = L ∧ L ≤ C ∧ L < 140737488355328 ∧ Octs ll) := ⟨hp, hn, op, hll, hL, hLC, hLb, ol⟩
  clear hp hn op hll hL hLC hLb ol
  go_enter Tryd.func33, Tryd.ntmps33
  go_wp2_with fail
  go_loopg [8] L (fun g si wr => ∃ i : Nat, si = .int .i64 i ∧ Aside (i + g = L ∧ p ∉ ll.take i) ∧ w = wr)
  case atStart => exact ⟨0, rfl, ⟨by omega, by simp⟩, rfl⟩
  case round =>
    obtain ⟨i, rfl, hA, rfl⟩ := hrel
    by_cases hiL : i < L
    · have hi : (i : Int) < (L : Int) := by omega
      have hil : i < ll.length := by have := AB.out; omega
      obtain ⟨q, hq⟩ : ∃ q, ll[i]? = some q := ⟨_, List.getElem?_eq_getElem hil⟩
      have hib : (i : Int) + 1 < 9223372036854775808 := by have := AB.out; omega
      rcases AB.out.2.2.2.1 with e | ⟨pb, po, rfl, hc⟩
      · rw [e] at hil; simp at hil
      obtain ⟨ai, ci, c1, c2, c3, c4, c5⟩ := hc i q hq
      have hbox := box_c bx a ai p q n c q.length ci w hb AB.out.1 c2 AB.out.2.1 rfl AB.out.2.2.1 (AB.out.2.2.2.2.2.2.2 q (List.mem_of_getElem? hq))
      have hmem : Aside (i < L ∧ (p ∈ ll.take (i + 1) ↔ p ∈ ll.take i ∨ p = q) ∧ q ∈ ll) := ⟨hiL, by rw [List.take_add_one, hq]; simp, List.mem_of_getElem? hq⟩
      obtain ⟨k, hk⟩ : ∃ k, q.length = k := ⟨_, rfl⟩
      rw [hk] at hbox c1
      clear hc hq hil c2 c3 c4 c5 hk hiL
      by_cases hpq : p = q
      · rw [decide_eq_true hpq] at hbox
        have hmp : Aside (p ∈ ll) := by show p ∈ ll; rw [hpq]; exact hmem.out.2.2
        clear hpq
        go_wp2_with (go_at_call 28; refine hbox.mono ?_; rintro e2 w2 ⟨rfl, rfl⟩)
        go_ret
        exact ⟨⟨i, rfl, by rw [decide_eq_true hmp.out, decide_eq_true (by omega)]⟩, rfl⟩
      · rw [decide_eq_false hpq] at hbox
        have hnp : Aside (¬ p = q) := hpq
        clear hpq
        go_wp2_with (go_at_call 28; refine hbox.mono ?_; rintro e2 w2 ⟨rfl, rfl⟩)
        have hg := hA.out; have hm := hmem.out
        go_roundg (L - (i + 1))
        case measure => omega
        case rel => exact ⟨i + 1, by go_num, ⟨by omega, fun h => (hm.2.1.1 h).elim hg.2 hnp.out⟩, rfl⟩
    · have hi : ¬ (i : Int) < (L : Int) := by omega
      have hnm : Aside (p ∉ ll) := by
        show p ∉ ll
        have := hA.out.2
        rwa [List.take_of_length_le (by have := AB.out; omega)] at this
      clear hiL
      go_wp2_with fail
      go_ret
      exact ⟨⟨-1, rfl, by have := hnm.out; simp [this]⟩, rfl⟩
theorem contains_c (bx : Nat) (a s : Option Addr) (p : List Nat) (ll : List (List Nat)) (n c L C : Nat) (w : World) (hb : w.cell? ⟨bx, 0, none⟩ = some (.slice a n c)) (hp : Lies w a p) (hn : p.length = n) (op : Oct p) (hll : Rows2 w s ll) (hL : ll.length = L) (hLC : L ≤ C) (hLb : L < 140737488355328) (ol : Octs ll) :
    Calls Tryd.prog 30 #[.slice s L C, .func (.func 28) #[] #[.pointer (some ⟨bx, 0, none⟩)]] w fun e w' => e = .returned (.bool (decide (p ∈ ll))) ∧ w = w' := by
  have hc := index_c bx a s p ll n c L C w hb hp hn op hll hL hLC hLb ol
  generalize decide (p ∈ ll) = q at *
  clear hp hn op hll hL hLC hLb ol hb
  go_enter Tryd.func30, Tryd.ntmps30
  go_wp2_with (go_at_call 33; refine hc.mono ?_; rintro e2 w2 ⟨⟨r, rfl, hr⟩, rfl⟩)
  go_ret
  exact ⟨by rw [← hr]; rfl, rfl⟩
/-- The error of one pattern behind others. -/
def oneErr (p : List Nat) (ahead : List (List Nat)) : Nat := if p.length = 0 then 61 else if 32 < p.length then 62 else if p ∈ ahead then 63 else 0
set_option maxHeartbeats 1000000 in
theorem one_c (a s : Option Addr) (p : List Nat) (ll : List (List Nat)) (n c L C : Nat) (w : World) (hp : Lies w a p) (hn : p.length = n) (op : Oct p) (hll : Rows2 w s ll) (hL : ll.length = L) (hLC : L ≤ C) (hLb : L < 140737488355328) (ol : Octs ll) (hnb : n < 140737488355328) :
    Calls Tryd.prog 23 #[.slice a n c, .slice s L C] w fun e w' => e = .returned (.int .i64 (oneErr p ll : Nat)) ∧ Below w.heap.size w w' := by
  obtain ⟨w1, hw1⟩ : ∃ w1, w1 = w.alloc (.cells #[.slice a n c] 23) := ⟨_, rfl⟩
  have b1 : Below w.heap.size w w1 := by rw [hw1]; exact (Below.refl _ w).alloc (Nat.le_refl _) _
  have hb : w1.cell? ⟨w.heap.size, 0, none⟩ = some (.slice a n c) := by rw [hw1, (Cells.new w _ 23).cell]; rfl
  have hc := contains_c w.heap.size a s p ll n c L C w1 hb (hp.below b1) hn op (hll.below b1) hL hLC hLb ol
  have AB : Aside (Below w.heap.size w w1) := b1
  have he : oneErr p ll = if n = 0 then 61 else if 32 < n then 62 else if p ∈ ll then 63 else 0 := by unfold oneErr; rw [hn]
  obtain ⟨H, hH⟩ : ∃ H, w.heap.size = H := ⟨_, rfl⟩
  rw [hH] at hb hc AB
  rw [hH, he]
  clear he
  have hni : (n : Int) < 140737488355328 := by omega
  clear hp hn op hll hL hLC hLb ol b1 hnb
  by_cases h0 : n = 0
  · subst h0
    rw [if_pos rfl]
    clear hc
    go_enter Tryd.func23, Tryd.ntmps23
    go_upto_region 1 with fail
    rw [← hw1]
    clear hw1
    go_wp2_with fail
    go_ret
    exact ⟨rfl, AB.out⟩
  · rw [if_neg h0]
    have h0i : ((n : Int) == 0) = false := by rw [beq_eq_false_iff_ne]; omega
    by_cases h1 : 32 < n
    · rw [if_pos h1]
      have h1i : (32 : Int) < (n : Int) := by omega
      clear hc h0 h1
      go_enter Tryd.func23, Tryd.ntmps23
      go_upto_region 1 with fail
      rw [← hw1]
      clear hw1
      go_wp2_with fail
      go_ret
      exact ⟨rfl, AB.out⟩
    · rw [if_neg h1]
      have h1i : ¬ (32 : Int) < (n : Int) := by omega
      clear h0 h1
      by_cases hm : p ∈ ll
      · rw [if_pos hm]
        rw [decide_eq_true hm] at hc
        clear hm
        go_enter Tryd.func23, Tryd.ntmps23
        go_upto_region 1 with fail
        rw [← hw1]
        clear hw1
        go_wp2_with (go_at_call 30; refine hc.mono ?_; rintro e2 w2 ⟨rfl, rfl⟩)
        go_ret
        exact ⟨rfl, AB.out⟩
      · rw [if_neg hm]
        rw [decide_eq_false hm] at hc
        clear hm
        go_enter Tryd.func23, Tryd.ntmps23
        go_upto_region 1 with fail
        rw [← hw1]
        clear hw1
        go_wp2_with (go_at_call 30; refine hc.mono ?_; rintro e2 w2 ⟨rfl, rfl⟩)
        go_ret
        exact ⟨rfl, AB.out⟩
end Go.Proofs.YtbepbjbbhenphabDoor

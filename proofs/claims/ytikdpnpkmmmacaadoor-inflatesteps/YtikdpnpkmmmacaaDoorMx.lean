/-
  Own texts of this seat, one behind the other: what each says stands ahead of it.
-/
import Derived.Test.YtikdpnpkmmmacaaDoorMu
import Derived.Test.YtikdpnpkmmmacaaDoorMv
import Derived.Test.YtikdpnpkmmmacaaDoorMw
import Derived.Test.YtikdpnpkmmmacaaDoorMt
import Derived.Test.YtikdpnpkmmmacaaDoorMk
/-
  What the document's dynamic needs: marks in a row, says as they lie, numbers behind one another, a table made.
-/
namespace Go.Proofs.YtikdpnpkmmmacaaDoor
open Go.RowKit
set_option linter.unusedVariables false
/-- A table that may be made. -/
theorem new_ok (w : World) (la : Option Addr) (l : List Nat) (ll lc : Nat) (hl : Lens w la (iz l)) (hll : l.length = ll) (hm : mays l = true) :
    Calls Tryd.prog 26 #[.slice la ll lc] w fun e w' => ∃ T, e = .returned (.tuple #[.pointer (some ⟨T, 0, none⟩), .int .i64 0]) ∧ Tb w' T l ∧ Below w.heap.size w w' := by
  have h1 := nerr_ok (mays_iff.1 hm)
  rw [lens_iz] at h1
  have hc := rnew_rest la (iz l) ll lc w hl (by simp [iz, hll]) h1.1 (by rw [lens_iz]; exact h1.2.1)
  rw [lens_iz] at hc
  refine hc.mono ?_
  rintro e w' (⟨hu, _⟩ | ⟨_, T, he, ht, hb, _⟩)
  · exact absurd hu h1.2.2
  · exact ⟨T, he, ht, hb⟩
theorem lens_cells {w : World} {g : Nat} {l : List Nat} (h : Cells w g (vi (iz l)).toArray 3) : Lens w (some ⟨g, 0, none⟩) (iz l) := Or.inr ⟨g, 0, rfl, fun i z hz => by rw [Nat.zero_add]; exact h.int hz⟩
theorem int_at {w : World} {g : Nat} {l : List Nat} (h : Cells w g (vi (iz l)).toArray 3) {i x : Nat} (hx : l[i]? = some x) : w.cell? ⟨g, i, none⟩ = some (.int .i64 (x : Int)) := h.int (by unfold iz; rw [List.getElem?_map, hx]; rfl)
/-- A mark is set. -/
theorem mark {w : World} {b : Nat} {us : List Bool} (h : Cells w b (vb us).toArray 4) (i : Nat) : Cells (w.setCell ⟨b, i, none⟩ (.bool true)) b (vb (us.set i true)).toArray 4 := by
  have := h.set i (.bool true)
  simpa [vb, List.map_set] using this
theorem mark_cell {w : World} {b : Nat} {us : List Bool} (h : Cells w b (vb us).toArray 4) {i : Nat} (hi : i < us.length) : ∃ q, w.cell? ⟨b, i, none⟩ = some (.bool q) := by
  refine ⟨us[i], ?_⟩
  rw [h.cell]
  simp [vb, hi]
theorem set_true {us : List Bool} {i j : Nat} (h : us[j]? = some true) : (us.set i true)[j]? = some true := by
  by_cases e : i = j
  · subst e
    rw [List.getElem?_set_self (List.getElem?_eq_some_iff.1 h).1]
  · rw [List.getElem?_set_ne e]; exact h
theorem set_self {us : List Bool} {i : Nat} (h : i < us.length) : (us.set i true)[i]? = some true := List.getElem?_set_self h
theorem addUp_true (least : Nat) : ∀ (us : List Bool) (n j : Nat), us[j]? = some true → (addUp least us n)[j]? = some true
  | [], n, j, h => by simp at h
  | u :: r, n, 0, h => by
    have hu : u = true := by simpa using h
    subst hu
    unfold addUp
    rw [if_neg (by simp)]
    rfl
  | u :: r, n, j + 1, h => by
    have h2 : r[j]? = some true := by simpa using h
    unfold addUp
    split
    · exact addUp_true least r _ j h2
    · exact addUp_true least r _ j h2
/-- At least so many marks, where there is room. -/
theorem addUp_least (least : Nat) : ∀ (us : List Bool) (c n : Nat), c = n + us.count true → least ≤ c + (us.count false) → least ≤ n + (addUp least us c).count true ∨ least ≤ c
  | us, c, n, hc, h => by
    by_cases hlc : least ≤ c
    · exact Or.inr hlc
    · left
      have key : ∀ (us : List Bool) (c n : Nat), least ≤ c + us.count false → n + us.count true ≤ c → c - (n + us.count true) + (n + (addUp least us c).count true) ≥ min least (c + us.count false) := by
        intro us
        induction us with
        | nil => intro c n h1 h2; simp [addUp] at *; omega
        | cons u r ih =>
          intro c n h1 h2
          unfold addUp
          cases u with
          | true =>
            rw [if_neg (by simp)]
            simp only [List.count_cons_self, List.count_cons_of_ne (by decide : (true : Bool) ≠ false)] at *
            have := ih c (n + 1) (by omega) (by omega)
            omega
          | false =>
            simp only [List.count_cons_self, List.count_cons_of_ne (by decide : (false : Bool) ≠ true)] at *
            by_cases hl : c < least
            · rw [if_pos (by simp [hl])]
              simp only [List.count_cons_self]
              have := ih (c + 1) (n + 1) (by omega) (by omega)
              omega
            · rw [if_neg (by rintro ⟨h, _⟩; exact hl h)]
              simp only [List.count_cons_of_ne (by decide : (false : Bool) ≠ true)]
              have := ih c n (by omega) (by omega)
              omega
      have := key us c n h (by omega)
      omega
/-- Says as they lie. -/
def SayAt (w : World) (a : Option Addr) (ss : List Say) : Prop := ss = [] ∨ ∃ g cs, a = some ⟨g, 0, none⟩ ∧ Cells w g cs 119 ∧ ∀ i x, ss[i]? = some x → cs[i * 3]? = some (.int .i64 (x.s : Int)) ∧ cs[i * 3 + 1]? = some (.int .i64 (x.v : Int)) ∧ cs[i * 3 + 2]? = some (.int .i64 (x.n : Int))
theorem O3.says {w : World} {lo : Nat} {v : Value} {ss : List Say} (h : O3 w lo 119 v (ss.map sayV)) : ∃ a c, v = .slice a ss.length c ∧ SayAt w a ss := by
  obtain ⟨a, c, hv, hc, hl, _⟩ := h.shape
  rw [List.length_map] at hv
  refine ⟨a, c, hv, ?_⟩
  rcases hl with e | ⟨g, cs, ha, _, hcs, hh⟩
  · left; simpa using e
  · refine Or.inr ⟨g, cs, ha, hcs, fun i x hx => ?_⟩
    obtain ⟨h1, h2, h3⟩ := hh i (sayV x) (by rw [List.getElem?_map, hx]; rfl)
    rw [hcs.cell] at h1 h2 h3
    exact ⟨h1, h2, h3⟩
theorem SayAt.keep {w u : World} {a : Option Addr} {ss : List Say} (h : SayAt w a ss) (k : ∀ g cs, Cells w g cs 119 → Cells u g cs 119) : SayAt u a ss := by
  rcases h with e | ⟨g, cs, ha, hc, hh⟩
  · exact Or.inl e
  · exact Or.inr ⟨g, cs, ha, k g cs hc, hh⟩
theorem SayAt.get {w : World} {a : Option Addr} {ss : List Say} (h : SayAt w a ss) {i : Nat} {x : Say} (hx : ss[i]? = some x) : ∃ g, a = some ⟨g, 0, none⟩ ∧ w.cell? ⟨g, i * 3, none⟩ = some (.int .i64 (x.s : Int)) ∧ w.cell? ⟨g, i * 3 + 1, none⟩ = some (.int .i64 (x.v : Int)) ∧ w.cell? ⟨g, i * 3 + 2, none⟩ = some (.int .i64 (x.n : Int)) := by
  rcases h with e | ⟨g, cs, ha, hc, hh⟩
  · rw [e] at hx; simp at hx
  · obtain ⟨h1, h2, h3⟩ := hh i x hx
    exact ⟨g, ha, by rw [hc.cell]; exact h1, by rw [hc.cell]; exact h2, by rw [hc.cell]; exact h3⟩
/-- Numbers of a list of the call's own. -/
structure Own3 (w : World) (lo : Nat) (v : Value) (l : List Nat) : Prop where
  own : w.ownsRow lo 3 1 v l.length (vi (iz l))
  le : lo ≤ w.heap.size
theorem viz_len (l : List Nat) : (vi (iz l)).length = l.length := by simp [vi, iz]
theorem Own3.made {w : World} {lo : Nat} (h : lo ≤ w.heap.size) : Own3 (w.alloc (.cells #[] 3)) lo (.slice (some ⟨w.heap.size, 0, none⟩) 0 0) [] :=
  ⟨World.ownsRow_made (base := lo) (e := 3) (size := 1) w #[] 0 h (by decide) rfl, by show _ ≤ (w.heap.push _).size; simp; omega⟩
theorem Own3.lies {w : World} {lo : Nat} {v : Value} {l : List Nat} (h : Own3 w lo v l) : ∃ a c, v = .slice a l.length c ∧ l.length ≤ c ∧ ILies w a l := by
  rcases h.own.2 with ⟨hv, h0⟩ | ⟨g, c, cur, hv, hg, hh, hc, hm, hs, ht⟩
  · exact ⟨none, 0, by rw [hv, h0], by omega, Or.inl (List.eq_nil_of_length_eq_zero h0)⟩
  · refine ⟨_, c, hv, hc, Or.inr ⟨g, 0, rfl, fun i x hx => ?_⟩⟩
    rw [Nat.zero_add, Cells.cell (cs := cur) (t := 3) hh]
    have hi : i < l.length := (List.getElem?_eq_some_iff.1 hx).1
    have e : (cur.toList.take (l.length * 1))[i]? = some (.int .i64 (x : Int)) := by rw [ht]; simp [vi, iz, hx]
    rw [List.getElem?_take, if_pos (by omega)] at e
    simpa using e
theorem wpList_own3 (w : World) {ops : Array Oper} {rest : List Oper} {o : Oper} {a : Act} {Q : Exit → Act → World → Prop} (hgd : o.guard = none) (s x : Operand)
    (ho : o.op = .call { callee := .builtin .append, args := #[s, x], argTypes := #[29, 29] }) (lo : Nat) (v : Value) (l : List Nat) (hs : a.eval s = v) (hown : Own3 w lo v l)
    (g n c : Nat) (m : List Nat) (hnm : m.length = n) (hx : a.eval x = .slice (some ⟨g, 0, none⟩) n c) (hl : Cells w g (vi (iz m)).toArray 3) (hlen : l.length + m.length ≤ 1000)
    (h : ∀ v' w', Own3 w' lo v' (l ++ m) → Below lo w w' → wpList Tryd.prog ops Q rest (a.put o.dst v') w') : wpList Tryd.prog ops Q (o :: rest) a w := by
  subst hnm
  obtain ⟨i0, hi, hz0, hz1, hz2⟩ := ginfo_parts info3
  refine wpList_append_own w hgd s x 29 ho lo 3 i0 (.int .i64 0) 1 8 Tryd.underlying29 hi hz0 hz1 hz2 rfl (by decide) v _ _ hs hown.own ⟨g, 0, none⟩ m.length c (vi (iz m)) hx (by rw [viz_len]; omega) ?_ ?_ (by unfold maxLen; omega) (by omega) hown.le ?_
  · intro j u hj
    have hadd : (⟨g, 0, none⟩ : Addr).add j = ⟨g, j, none⟩ := by unfold Addr.add; split <;> simp_all
    rw [hadd, hl.cell]
    simpa using hj
  · intro u hu
    obtain ⟨y, _, rfl⟩ := List.mem_map.1 hu
    rfl
  · intro v' w' h4 h5 h6
    have hos : v.ownBlock = none ∨ ∃ g, v.ownBlock = some g ∧ lo ≤ g := by
      rcases hown.own.2 with ⟨rfl, _⟩ | ⟨g, c, cur, rfl, hg, hh, _⟩
      · left; rfl
      · right; exact ⟨g, rfl, hg⟩
    have hbl : Below lo w w' := (Below.refl lo w).grown h5 hown.le (fun k hk => by
      rcases hos with h7 | ⟨g, h7, hg⟩
      · rw [h7] at hk; cases hk
      · rw [h7] at hk; cases hk; exact hg)
    refine h v' w' ⟨?_, Nat.le_trans hown.le h5.size⟩ hbl
    have e : vi (iz l) ++ vi (iz m) = vi (iz (l ++ m)) := by simp [vi, iz]
    rw [List.length_append, ← e]
    exact h4
end Go.Proofs.YtikdpnpkmmmacaaDoor

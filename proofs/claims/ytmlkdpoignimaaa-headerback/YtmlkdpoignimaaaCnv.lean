/-
  Bytes as a string; a reader beside stores into other blocks. No walk.
-/
import Derived.Test.YtmlkdpoignimaaaNew
import Derived.Laws.IdiomStrings
namespace Go.Proofs.Ytmlkdpoignimaaa
open Go.RowKit
set_option linter.unusedVariables false
theorem conv_st {w : World} {a : Option Addr} {l : List Nat} (L : Nat) (cap : Nat) (hL : l.length = L) (ho : Oct l) (h : Lies w a l) : (convert 22 9 (.slice a L cap)).run Try.prog w = .ok (.string (st l)) w := by
  subst hL
  rcases h with rfl | ⟨b, o, rfl, hc⟩
  · cases a with
    | none =>
      simp [convert, run_underlying Try.underlying22, run_underlying Try.underlying9, run_underlying Try.underlying5, st, Conv.bytesToString]
      rfl
    | some ad =>
      have := run_convert_bytes_back (P := Try.prog) w 22 9 5 ad cap [] Try.underlying22 Try.underlying5 Try.underlying9 (by simp)
      exact this
  · have := run_convert_bytes_back (P := Try.prog) w 22 9 5 ⟨b, o, none⟩ cap (l.map UInt8.ofNat) Try.underlying22 Try.underlying5 Try.underlying9 (fun j hj => by
      rw [addr_add]
      have hj' : j < l.length := by simpa using hj
      rw [hc j l[j] (List.getElem?_eq_getElem hj')]
      have := ho l[j] (List.getElem_mem hj')
      simp
      omega)
    rw [List.length_map] at this
    exact this
section
variable {w u : World} {lo B most k bg y : Nat} {vl vm : Value} {l : List Nat} {M : List (Nat × Nat)} {dn : Bool}
/-- A store into a block of another kind. -/
theorem Rm.setOther {g i : Nat} {x : Value} {cs : Array Value} {t : TypeId} (h : Rm w lo B most k vl l bg vm M dn y) (hg : Cells w g cs t) (ht : t ≠ 59 ∧ t ≠ 5 ∧ t ≠ 63) : Rm (w.setCell ⟨g, i, none⟩ x) lo B most k vl l bg vm M dn y :=
  ⟨h.cells.only ((Only.refl g w).setCell i x) (fun e => by
    subst e
    have h1 := h.cells
    unfold Cells at h1 hg
    rw [h1] at hg
    cases hg
    exact ht.1 rfl), h.lines.set hg ht.2.1, h.marks.set hg ht.2.2, h.le⟩
end
/-- A piece of bytes that lie side by side. -/
theorem Lies.piece {w : World} {g o : Nat} {l : List Nat} (h : Lies w (some ⟨g, o, none⟩) l) (i j : Nat) (ad : Option Addr) (hj : j ≤ l.length) (hne : i < j → ad = some ⟨g, o + i, none⟩) : Lies w ad ((l.take j).drop i) := by
  by_cases hij : i < j
  · rcases h with rfl | ⟨b, o', e, hc⟩
    · left; simp
    · cases e
      rw [hne hij]
      refine Or.inr ⟨g, o + i, rfl, fun m x hx => ?_⟩
      rw [List.getElem?_drop, List.getElem?_take] at hx
      split at hx
      · rw [Nat.add_assoc]; exact hc _ _ hx
      · cases hx
  · left
    apply List.eq_nil_of_length_eq_zero
    simp; omega
/-- Where a field begins. -/
def fl (F : List Fd) (j : Nat) : Nat := (flat (F.take j)).length
section
variable {F : List Fd} {i : Nat} {f : Fd}
theorem at_split (h : F[i]? = some f) : F = F.take i ++ f :: F.drop (i + 1) := by
  obtain ⟨h1, h2⟩ := List.getElem?_eq_some_iff.1 h
  rw [← h2, ← List.drop_eq_getElem_cons h1, List.take_append_drop]
theorem flat_at (h : F[i]? = some f) : flat F = flat (F.take i) ++ (f.1 ++ 58 :: f.2) ++ flat (F.drop (i + 1)) := by
  conv => lhs; rw [at_split h]
  simp [flat]
theorem take_one (h : F[i]? = some f) : F.take (i + 1) = F.take i ++ [f] := by rw [List.take_add_one, h]; rfl
theorem fl_succ (h : F[i]? = some f) : fl F (i + 1) = fl F i + f.1.length + 1 + f.2.length := by
  unfold fl
  rw [take_one h, flat_snoc]
  simp; omega
theorem fl_le (h : F[i]? = some f) : fl F (i + 1) ≤ (flat F).length := by
  have := flat_at h
  rw [this, fl_succ h]
  unfold fl
  simp; omega
theorem fl_end (F : List Fd) : fl F F.length = (flat F).length := by unfold fl; rw [List.take_length]
theorem mid (a b c : List Nat) : ((a ++ (b ++ c)).take (a.length + b.length)).drop a.length = b := by
  rw [List.take_append, List.drop_append]
  simp
theorem name_at (h : F[i]? = some f) : ((flat F).take (fl F i + f.1.length)).drop (fl F i) = f.1 := by
  have e : flat F = flat (F.take i) ++ (f.1 ++ (58 :: f.2 ++ flat (F.drop (i + 1)))) := by rw [flat_at h]; simp
  rw [e]
  exact mid _ _ _
theorem value_at (h : F[i]? = some f) : ((flat F).take (fl F (i + 1))).drop (fl F i + f.1.length + 1) = f.2 := by
  rw [fl_succ h]
  have e : flat F = (flat (F.take i) ++ f.1 ++ [58]) ++ (f.2 ++ flat (F.drop (i + 1))) := by rw [flat_at h]; simp
  have hl : fl F i + f.1.length + 1 = (flat (F.take i) ++ f.1 ++ [58]).length := by unfold fl; simp; omega
  rw [hl]
  conv => lhs; rw [e]
  exact mid _ _ _
end
/-- The row that Fields fills, from its end. -/
def row (F : List Fd) (j : Nat) : List Value := List.replicate (j * 2) (.string ⟨#[]⟩) ++ fc (told (F.drop j))
theorem row_length {F : List Fd} {j : Nat} (h : j ≤ F.length) : (row F j).length = F.length * 2 := by
  simp [row, fc_length, told]; omega
theorem row_set {F : List Fd} {i : Nat} {f : Fd} (h : F[i]? = some f) : ((row F (i + 1)).toArray.setIfInBounds (i * 2) (.string (st f.1))).setIfInBounds (i * 2 + 1) (.string (st (trm f.2))) = (row F i).toArray := by
  have e1 : row F (i + 1) = List.replicate (i * 2) (.string ⟨#[]⟩) ++ (.string ⟨#[]⟩ :: .string ⟨#[]⟩ :: fc (told (F.drop (i + 1)))) := by
    unfold row
    rw [show (i + 1) * 2 = i * 2 + 2 by omega, ← List.replicate_append_replicate]
    simp [List.replicate]
  have e2 : row F i = List.replicate (i * 2) (.string ⟨#[]⟩) ++ (.string (st f.1) :: .string (st (trm f.2)) :: fc (told (F.drop (i + 1)))) := by
    unfold row
    obtain ⟨h1, h2⟩ := List.getElem?_eq_some_iff.1 h
    rw [List.drop_eq_getElem_cons h1, h2]
    simp [fc, told]
  rw [e1, e2]
  simp only [List.setIfInBounds_toArray]
  congr 1
  rw [List.set_append_right _ _ (by simp), List.length_replicate, Nat.sub_self, List.set_cons_zero, List.set_append_right _ _ (by simp)]
  simp
theorem row_zero (F : List Fd) : row F 0 = fc (told F) := by simp [row]
end Go.Proofs.Ytmlkdpoignimaaa

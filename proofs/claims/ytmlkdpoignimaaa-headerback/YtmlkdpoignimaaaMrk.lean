/-
  Marks: where the fields stand in the lines (no walk); an append of one element as an equation.
-/
import Derived.Test.YtmlkdpoignimaaaRdr
namespace Go.Proofs.Ytmlkdpoignimaaa
open Go.RowKit
set_option linter.unusedVariables false
/-- Where the fields stand. -/
def mk (F : List Fd) : List (Nat × Nat) := (List.range F.length).map fun i => ((flat (F.take i)).length, (flat (F.take i)).length + (F[i]?.getD ([], [])).1.length)
theorem mk_length (F : List Fd) : (mk F).length = F.length := by simp [mk]
theorem mk_snoc (F : List Fd) (f : Fd) : mk (F ++ [f]) = mk F ++ [((flat F).length, (flat F).length + f.1.length)] := by
  unfold mk
  rw [List.length_append, List.length_singleton, List.range_succ, List.map_append]
  congr 1
  · refine List.map_congr_left fun i hi => ?_
    have hi := List.mem_range.1 hi
    rw [List.take_append_of_le_length (by omega), List.getElem?_append_left hi]
  · simp
theorem mk_get {F : List Fd} {i : Nat} {f : Fd} (h : F[i]? = some f) : (mk F)[i]? = some ((flat (F.take i)).length, (flat (F.take i)).length + f.1.length) := by
  have hi := (List.getElem?_eq_some_iff.1 h).1
  unfold mk
  rw [List.getElem?_map, List.getElem?_range hi]
  simp [h]
theorem mk_lin_b {F : List Fd} {s : List Nat} (hb : isB (s.headD 0) = true) (hF : F ≠ []) : (lin F s).1 = 0 ∧ mk (lin F s).2 = mk F := by
  obtain ⟨ys, f, rfl⟩ : ∃ ys f, F = ys ++ [f] := by
    rcases List.eq_nil_or_concat F with h | ⟨ys, f, h⟩
    · exact absurd h hF
    · exact ⟨ys, f, by simpa using h⟩
  unfold lin
  rw [if_pos hb]
  have e : (ys ++ [f]).getLast? = some f := by simp
  rw [e, List.dropLast_concat]
  refine ⟨rfl, ?_⟩
  rw [mk_snoc, mk_snoc]
theorem lin_none {s : List Nat} (hb : isB (s.headD 0) = true) : lin [] s = (30, []) := by
  unfold lin; rw [if_pos hb]; rfl
theorem lin_bad {F : List Fd} {s : List Nat} (hb : isB (s.headD 0) = false) (hn : nm s = 0) : lin F s = (30, []) := by
  unfold lin; rw [if_neg (by rw [hb]; decide), if_pos hn]
theorem lin_many {F : List Fd} {s : List Nat} (hb : isB (s.headD 0) = false) (hn : nm s ≠ 0) (h64 : F.length = 64) : lin F s = (31, []) := by
  unfold lin; rw [if_neg (by rw [hb]; decide), if_neg hn, if_pos h64]
theorem lin_new {F : List Fd} {s : List Nat} (hb : isB (s.headD 0) = false) (hn : nm s ≠ 0) (h64 : F.length ≠ 64) : lin F s = (0, F ++ [(s.take (nm s), s.drop (nm s + 1))]) := by
  unfold lin; rw [if_neg (by rw [hb]; decide), if_neg hn, if_neg h64]
theorem mk_new {F : List Fd} {s : List Nat} (hn : nm s ≠ 0) : mk (F ++ [(s.take (nm s), s.drop (nm s + 1))]) = mk F ++ [((flat F).length, (flat F).length + nm s)] := by
  rw [mk_snoc]
  have := nm_lt s hn
  simp [List.length_take]; omega
/-- An append of one element, as an equation. -/
theorem append_one {w : World} {lo sz bytes n b off c : Nat} {t e : TypeId} {i : TypeInfo} {z v : Value} {xs news : List Value} (ht : Try.prog.underlying t = some (.slice e)) (hi : Try.prog.info? e = some i) (hz0 : i.zero = some z) (hz1 : i.size = sz) (hz2 : i.bytes = bytes) (hz3 : z.cells.size = sz) (hsz : 0 < sz)
    (hown : Ow w lo e sz v n xs) (hl : news.length = sz) (hnews : ∀ j u, news[j]? = some u → w.cell? ⟨b, off + j, none⟩ = some u) (h1 : ∀ u ∈ news, u.oneCell' = true) (h63 : n + 1 ≤ maxLen) (hb : (n + 1) * bytes ≤ 140737488355328) :
    ∃ g cap w', (∀ ty, (Builtin.append_ #[t, t] ty #[v, .slice (some ⟨b, off, none⟩) 1 c]).run Try.prog w = .ok (.slice (some ⟨g, 0, none⟩) (n + 1) cap) w') ∧ Got lo e sz w w' v (.slice (some ⟨g, 0, none⟩) (n + 1) cap) (n + 1) (xs ++ news) := by
  obtain ⟨g, cap, w', hr, h2, h3, h4, h5⟩ := run_append_lies (P := Try.prog) w t 0 lo e i z sz bytes ht hi hz0 hz1 hz2 hz3 hsz v n xs hown.own ⟨b, off, none⟩ 1 c news (by omega) (fun j u hj => by rw [addr_add]; exact hnews j u hj) h1 (by decide) h63 hb hown.le _ rfl
  exact ⟨g, cap, w', fun ty => hr, Got.mk' hown h2 h3⟩
end Go.Proofs.Ytmlkdpoignimaaa

/-
  What the document's Of comes to.
-/
import Derived.Test.YtbndohpcaahenaaRby
import Derived.Test.YtbndohpcaahenaaLok
namespace Go.Proofs.Ytbndohpcaahenaa
open Go.RowKit
set_option linter.unusedVariables false
/-- Where the document's run stands, behind i bytes. -/
def Sd (D x : List Nat) (L i : Nat) (f o ov : Bool) (T TT : List (Nat × Nat)) (C : Bool) : Prop :=
  (∃ s, Rs s f o ov ∧ T ++ tv D i s (x.drop i) = TT ∧ cv D s (x.drop i) = C) ∨ (i = L ∧ T ++ tm L (iff' o [257]) = TT ∧ ov = C)
theorem Sd.at_end {D x : List Nat} {L i : Nat} {f o ov C : Bool} {T TT : List (Nat × Nat)} (hD : Bd D) (hL : x.length = L) (h : Sd D x L i f o ov T TT C) (he : L ≤ i ∨ ov = true) (hi : i ≤ L) : T ++ tm L (iff' o [257]) = TT ∧ ov = C := by
  rcases h with ⟨s, hs, h1, h2⟩ | ⟨_, h1, h2⟩
  · cases ov with
    | true =>
      have := tv_over (D := D) hs i (x.drop i)
      rw [this.1] at h1
      rw [this.2] at h2
      have ho := (hs.m7 rfl).2
      subst ho
      exact ⟨by simpa [iff', tm] using h1, h2⟩
    | false =>
      have hi2 : L ≤ i := by simpa using he
      obtain rfl : i = L := by omega
      rw [List.drop_eq_nil_of_le (by omega)] at h1 h2
      have := tv_end hD hs i
      rw [this.1] at h1
      rw [this.2] at h2
      exact ⟨h1, h2⟩
  · exact ⟨h1, h2⟩
theorem take_snoc {z : List Nat} {n g : Nat} (h : z[n]? = some g) : z.take (n + 1) = z.take n ++ [g] := by rw [List.take_add_one, h]; rfl
theorem drop_split {x : List Nat} {i n g : Nat} (h : (x.drop i)[n]? = some g) : x.drop i = (x.drop i).take n ++ g :: x.drop (i + n + 1) := by
  have h1 := (List.getElem?_eq_some_iff.1 h)
  conv => lhs; rw [← List.take_append_drop n (x.drop i)]
  congr 1
  rw [List.drop_eq_getElem_cons h1.1, h1.2, List.drop_drop]
  rfl
section
variable {D x : List Nat} {L i : Nat} {f o C : Bool} {T TT : List (Nat × Nat)}
theorem Sd.within (hL : x.length = L) (h : Sd D x L i false o false T TT C) (hi : i < L) {g : Nat} (hg : x[i]? = some g) (h10 : g ≠ 10) (h13 : g ≠ 13) (h256 : g < 256) : Sd D x L (i + 1) false o false (T ++ tm i (iff' o [g])) TT C := by
  rcases h with ⟨s, hs, h1, h2⟩ | ⟨h0, _⟩
  · obtain ⟨s', hs', e1, e2⟩ := tv_within (D := D) hs i g (x.drop (i + 1)) h10 h13 h256
    rw [drop_more hg] at h1 h2
    rw [e1] at h1
    rw [e2] at h2
    exact Or.inl ⟨s', hs', by rw [← h1, List.append_assoc], h2⟩
  · omega
theorem Sd.whole (hD : Bd D) (hL : x.length = L) (h : Sd D x L i f o false T TT C) (hi : i < L) {n g : Nat} {l : Bool} (hg : (x.drop i)[n]? = some g) (h256 : g < 256) (hy : (look D f ((x.drop i).take n)).1 = 1 ∨ (look D f ((x.drop i).take n)).1 = 2) (hl : look D f ((x.drop i).take (n + 1)) = (3, l)) : Sd D x L (i + n + 1) true (!l) l (T ++ tm (i + n) (iff' o [257] ++ iff' (!l) [256])) TT C := by
  have hn := (List.getElem?_eq_some_iff.1 hg).1
  have hlen : ((x.drop i).take n).length = n := by rw [List.length_take]; omega
  rw [take_snoc hg] at hl
  rcases h with ⟨s, hs, h1, h2⟩ | ⟨h0, _⟩
  · obtain ⟨s', hs', e1, e2⟩ := tv_whole hD hs i g ((x.drop i).take n) (x.drop (i + n + 1)) h256 hy l hl
    rw [← drop_split hg, hlen] at e1
    rw [← drop_split hg] at e2
    rw [e1] at h1
    rw [e2] at h2
    exact Or.inl ⟨s', hs', by rw [← h1, List.append_assoc], h2⟩
  · omega
theorem Sd.no (hD : Bd D) (hL : x.length = L) (h : Sd D x L i f o false T TT C) (hi : i < L) {n g : Nat} (hg : (x.drop i)[n]? = some g) (h256 : g < 256) (hy : (look D f ((x.drop i).take n)).1 = 1 ∨ (look D f ((x.drop i).take n)).1 = 2) (hl : (look D f ((x.drop i).take (n + 1))).1 = 0) : Sd D x L (i + n) false o false (T ++ tm (i + n) (iff' o ((x.drop i).take n))) TT C := by
  have hn := (List.getElem?_eq_some_iff.1 hg).1
  have hlen : ((x.drop i).take n).length = n := by rw [List.length_take]; omega
  rw [take_snoc hg] at hl
  have hd : x.drop (i + n) = g :: x.drop (i + n + 1) := by
    have h2 : x[i + n]? = some g := by rw [List.getElem?_drop] at hg; exact hg
    exact drop_more h2
  rcases h with ⟨s, hs, h1, h2⟩ | ⟨h0, _⟩
  · obtain ⟨s', hs', e1, e2⟩ := tv_no hD hs i g ((x.drop i).take n) (x.drop (i + n + 1)) h256 hy hl
    rw [← drop_split hg, hlen, ← hd] at e1
    rw [← drop_split hg, ← hd] at e2
    rw [e1] at h1
    rw [e2] at h2
    exact Or.inl ⟨s', hs', by rw [← h1, List.append_assoc], h2⟩
  · omega
theorem Sd.ends (hD : Bd D) (hL : x.length = L) (h : Sd D x L i f o false T TT C) (hi : i < L) {l : Bool} (hl : look D f (x.drop i) = (2, l)) (f' : Bool) : Sd D x L L f' (!l) l (T ++ tm L (iff' o [257] ++ iff' (!l) [256])) TT C := by
  rcases h with ⟨s, hs, h1, h2⟩ | ⟨h0, _⟩
  · have e := tv_ends hD hs i (x.drop i) l hl
    rw [List.length_drop, show i + (x.length - i) = L by omega] at e
    rw [e.1] at h1
    rw [e.2] at h2
    exact Or.inr ⟨rfl, by rw [← h1]; simp [tm], h2⟩
  · omega
theorem Sd.begins (hD : Bd D) (hL : x.length = L) (h : Sd D x L i f o false T TT C) (hi : i < L) (hl : (look D f (x.drop i)).1 = 1) (f' : Bool) : Sd D x L L f' o false (T ++ tm L (iff' o (x.drop i))) TT C := by
  rcases h with ⟨s, hs, h1, h2⟩ | ⟨h0, _⟩
  · have e := tv_begins hD hs i (x.drop i) hl
    rw [List.length_drop, show i + (x.length - i) = L by omega] at e
    rw [e.1] at h1
    rw [e.2] at h2
    exact Or.inr ⟨rfl, by rw [← h1]; simp [tm], h2⟩
  · omega
end
theorem tm_len (t : Nat) (l : List Nat) : (tm t l).length = l.length := by simp [tm]
theorem iff_len (b : Bool) (l : List Nat) : (iff' b l).length ≤ l.length := by cases b <;> simp [iff']
end Go.Proofs.Ytbndohpcaahenaa

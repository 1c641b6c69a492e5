/-
  The decoder beside the document's run.
-/
import Derived.Test.YtapljkenmgdkmaaTel
import Derived.Deep.RegionHeld3
namespace Go.Proofs.Ytapljkenmgdkmaa
open Go.RowKit
set_option linter.unusedVariables false
/-- A decoder, however it stands. -/
def Ds (w : World) (B : Nat) : Prop := (∃ s K W, Du w B s K W) ∨ ∃ K y, Dv w B K y
theorem Ds.lt {w : World} {B : Nat} (h : Ds w B) : B < w.heap.size := by
  rcases h with ⟨s, K, W, h⟩ | ⟨K, y, h⟩
  · exact h.lt
  · exact h.lt
theorem put_any (w : World) (B x : Nat) (hx : x < 256) (h : Ds w B) : Calls Try.prog 14 #[.pointer (some ⟨B, 0, none⟩), .int .u8 x] w fun e w' => (∃ t : Bool, e = .returned (.bool t)) ∧ Ds w' B ∧ But B w w' := by
  rcases h with ⟨s, K, W, h⟩ | ⟨K, y, h⟩
  · by_cases hK : K = []
    · subst hK
      cases e : ev s W x using Ev.el with
      | stop =>
        refine (put_stop x hx w h e).mono ?_
        rintro e1 w1 ⟨rfl, h1, h2⟩
        exact ⟨⟨true, rfl⟩, Or.inr ⟨[], 22, h1⟩, h2⟩
      | go s' W' K' =>
        refine (put_go x hx w h e).mono ?_
        rintro e1 w1 ⟨rfl, h1, h2⟩
        exact ⟨⟨true, rfl⟩, Or.inl ⟨s', K', W', h1⟩, h2⟩
    · refine (put_full x w h hK).mono ?_
      rintro e1 w1 ⟨rfl, rfl⟩
      exact ⟨⟨false, rfl⟩, Or.inl ⟨s, K, W, h⟩, But.refl _ _⟩
  · refine (put_over x w h).mono ?_
    rintro e1 w1 ⟨rfl, rfl⟩
    exact ⟨⟨false, rfl⟩, Or.inr ⟨K, y, h⟩, But.refl _ _⟩
theorem reset_any (w : World) (B : Nat) (h : Ds w B) : Calls Try.prog 15 #[.pointer (some ⟨B, 0, none⟩)] w fun e w' => e = .returned (.tuple #[]) ∧ Du w' B .no [] [] ∧ But B w w' := by
  rcases h with ⟨s, K, W, h⟩ | ⟨K, y, h⟩
  · exact reset_du w h
  · exact reset_dv w h
/-- What was said so far, and what the rest says, from any state. -/
def Sk (l : List Nat) (k : Nat) (s : St) (W acc tms : List Nat) : Prop := rn 0 .no [] l = cat acc tms (rn k s W (l.drop k))
/-- A decoder beside the document's run, behind k bytes, told of them told. -/
def Sx (l : List Nat) (w : World) (B k told : Nat) : Prop := (∃ (s : St) (W acc tms : List Nat), Du w B s [] W ∧ Sk l k s W acc tms ∧ acc.length = told ∧ tms.length = told) ∨ (Dv w B [] 22 ∧ (rn 0 .no [] l).why = 22 ∧ (rn 0 .no [] l).at_ < k ∧ (rn 0 .no [] l).out.length = told)
theorem Sx.run {l : List Nat} {w : World} {B k told : Nat} (s : St) (W acc tms : List Nat) (d : Du w B s [] W) (h : Sk l k s W acc tms) (ht : acc.length = told) (hk : tms.length = told) : Sx l w B k told := Or.inl ⟨s, W, acc, tms, d, h, ht, hk⟩
theorem Sx.stop {l : List Nat} {w : World} {B k told : Nat} (d : Dv w B [] 22) (hy : (rn 0 .no [] l).why = 22) (ha : (rn 0 .no [] l).at_ < k) (ht : (rn 0 .no [] l).out.length = told) : Sx l w B k told := Or.inr ⟨d, hy, ha, ht⟩
theorem Sx.el {l : List Nat} {w : World} {B k told : Nat} {motive : Sx l w B k told → Prop} (x : Sx l w B k told) (run : ∀ (s : St) (W acc tms : List Nat) (d : Du w B s [] W) (h : Sk l k s W acc tms) (ht : acc.length = told) (hk : tms.length = told), motive (.run s W acc tms d h ht hk)) (stop : ∀ (d : Dv w B [] 22) (hy : (rn 0 .no [] l).why = 22) (ha : (rn 0 .no [] l).at_ < k) (ht : (rn 0 .no [] l).out.length = told), motive (.stop d hy ha ht)) : motive x := by
  rcases x with ⟨s, W, acc, tms, d, h, ht, hk⟩ | ⟨d, hy, ha, ht⟩
  · exact run s W acc tms d h ht hk
  · exact stop d hy ha ht
theorem Sx.lt {l : List Nat} {w : World} {B k told : Nat} (h : Sx l w B k told) : B < w.heap.size := by
  cases h using Sx.el with
  | run s W acc tms d _ _ _ => exact d.lt
  | stop d _ _ _ => exact d.lt
/-- What a byte comes to: what Put answers, and what is known then. -/
def Px (l : List Nat) (w : World) (B k told : Nat) (q : Bool) : Prop := (q = true ∧ ∃ (sn hi y : Nat) (K V : List Nat), (Dl w B sn hi (K ++ V) K.length y) ∧ (y = 0) ∧ (told + K.length ≤ (rn 0 .no [] l).out.length) ∧ (∀ j x, K[j]? = some x → (rn 0 .no [] l).out[told + j]? = some x ∧ (rn 0 .no [] l).tm[told + j]? = some k) ∧ (∀ t, (rn 0 .no [] l).tm[told + K.length]? = some t → t ≠ k) ∧ (¬ ((rn 0 .no [] l).why = 22 ∧ (rn 0 .no [] l).at_ ≤ k)) ∧ (∀ u, Dl u B sn hi V 0 y → Sx l u B (k + 1) (told + K.length))) ∨ ((Dv w B [] 22) ∧ ((rn 0 .no [] l).why = 22) ∧ ((rn 0 .no [] l).at_ ≤ k) ∧ ((rn 0 .no [] l).out.length = told) ∧ q = decide (¬ (rn 0 .no [] l).at_ < k))
theorem Px.go {l : List Nat} {w : World} {B k told : Nat} (sn hi y : Nat) (K V : List Nat) (d : Dl w B sn hi (K ++ V) K.length y) (hy : y = 0) (hl : told + K.length ≤ (rn 0 .no [] l).out.length)
    (hk : ∀ j x, K[j]? = some x → (rn 0 .no [] l).out[told + j]? = some x ∧ (rn 0 .no [] l).tm[told + j]? = some k)
    (he : ∀ t, (rn 0 .no [] l).tm[told + K.length]? = some t → t ≠ k) (hs : ¬ ((rn 0 .no [] l).why = 22 ∧ (rn 0 .no [] l).at_ ≤ k)) (nx : ∀ u, Dl u B sn hi V 0 y → Sx l u B (k + 1) (told + K.length)) : Px l w B k told true := Or.inl ⟨rfl, sn, hi, y, K, V, d, hy, hl, hk, he, hs, nx⟩
theorem Px.stop {l : List Nat} {w : World} {B k told : Nat} (d : Dv w B [] 22) (hy : (rn 0 .no [] l).why = 22) (ha : (rn 0 .no [] l).at_ ≤ k) (ht : (rn 0 .no [] l).out.length = told) (q : Bool) (hq : q = decide (¬ (rn 0 .no [] l).at_ < k)) : Px l w B k told q := Or.inr ⟨d, hy, ha, ht, hq⟩
theorem Px.el {l : List Nat} {w : World} {B k told : Nat} {q : Bool} {motive : Px l w B k told q → Prop} (p : Px l w B k told q)
    (go : ∀ (hq : q = true) (sn hi y : Nat) (K V : List Nat) (d : Dl w B sn hi (K ++ V) K.length y) (hy : y = 0) (hl : told + K.length ≤ (rn 0 .no [] l).out.length)
    (hk : ∀ j x, K[j]? = some x → (rn 0 .no [] l).out[told + j]? = some x ∧ (rn 0 .no [] l).tm[told + j]? = some k)
    (he : ∀ t, (rn 0 .no [] l).tm[told + K.length]? = some t → t ≠ k) (hs : ¬ ((rn 0 .no [] l).why = 22 ∧ (rn 0 .no [] l).at_ ≤ k)) (nx : ∀ u, Dl u B sn hi V 0 y → Sx l u B (k + 1) (told + K.length)), motive (Or.inl ⟨hq, sn, hi, y, K, V, d, hy, hl, hk, he, hs, nx⟩))
    (stop : ∀ (d : Dv w B [] 22) (hy : (rn 0 .no [] l).why = 22) (ha : (rn 0 .no [] l).at_ ≤ k) (ht : (rn 0 .no [] l).out.length = told) (hq : q = decide (¬ (rn 0 .no [] l).at_ < k)), motive (Or.inr ⟨d, hy, ha, ht, hq⟩)) : motive p := by
  rcases p with ⟨hq, sn, hi, y, K, V, d, hy, hl, hk, he, hs, nx⟩ | ⟨d, hy, ha, ht, hq⟩
  · exact go hq sn hi y K V d hy hl hk he hs nx
  · exact stop d hy ha ht hq
theorem rn_late (l : List Nat) (i : Nat) (s : St) (W : List Nat) (j : Nat) {t : Nat} (h : (rn i s W l).tm[j]? = some t) : i ≤ t := (rn_times l i s W t (List.mem_of_getElem? h)).1
theorem put_sx (l : List Nat) (w : World) (B k told x : Nat) (hx : l[k]? = some x) (ho : Oct l) (h : Sx l w B k told) : Calls Try.prog 14 #[.pointer (some ⟨B, 0, none⟩), .int .u8 x] w fun e w' => ∃ q : Bool, e = .returned (.bool q) ∧ q = !decide ((rn 0 .no [] l).why = 22 ∧ (rn 0 .no [] l).at_ < k) ∧ Px l w' B k told q ∧ But B w w' := by
  have hx256 := ho x (List.mem_of_getElem? hx)
  cases h using Sx.el with
  | stop d hy ha ht =>
    refine (put_over x w d).mono ?_
    rintro e1 w1 ⟨rfl, rfl⟩
    exact ⟨false, rfl, by rw [decide_eq_true ⟨hy, ha⟩]; rfl, .stop d hy (by omega) ht false (by rw [decide_eq_false (by omega)]), But.refl _ _⟩
  | run s W acc tms d h ht hk =>
    have hat := (rn_at (l.drop k) k s W).1
    have hn : ¬ ((rn 0 .no [] l).why = 22 ∧ (rn 0 .no [] l).at_ < k) := by
      rw [h]
      simp only [cat]
      omega
    cases e : ev s W x using Ev.el with
    | stop =>
      refine (put_stop x hx256 w d e).mono ?_
      rintro e1 w1 ⟨rfl, h1, h2⟩
      have hh : rn 0 .no [] l = ⟨acc, tms, 22, k⟩ := by
        rw [h, drop_more hx, rn_stop e]; simp [cat]
      exact ⟨true, rfl, by rw [decide_eq_false hn]; rfl, .stop h1 (by rw [hh]) (by rw [hh]; exact Nat.le_refl _) (by rw [hh]; exact ht) true (by rw [hh]; simp), h2⟩
    | go s' W' K =>
      refine (put_go x hx256 w d e).mono ?_
      rintro e1 w1 ⟨rfl, h1, h2⟩
      obtain ⟨hi, hh, hd⟩ := h1.ex
      obtain ⟨r, hr⟩ : ∃ r, rn (k + 1) s' W' (l.drop (k + 1)) = r := ⟨_, rfl⟩
      have hall : rn 0 .no [] l = cat (acc ++ K) (tms ++ List.replicate K.length k) r := by
        rw [h, drop_more hx, rn_go e, hr, cat_addk, cat_cat]
      have hat2 := (rn_at (l.drop (k + 1)) (k + 1) s' W').1
      rw [hr] at hat2
      refine ⟨true, rfl, by rw [decide_eq_false hn]; rfl, .go s'.num hi 0 K W' hd rfl ?_ ?_ ?_ ?_ ?_, h2⟩
      · rw [hall]; simp [cat]; omega
      · intro j y hj
        have hjl : j < K.length := (List.getElem?_eq_some_iff.1 hj).1
        rw [hall]
        simp only [cat]
        refine ⟨?_, ?_⟩
        · rw [List.append_assoc, List.getElem?_append_right (by omega), show told + j - acc.length = j by omega, List.getElem?_append_left hjl]; exact hj
        · rw [List.append_assoc, List.getElem?_append_right (by omega), show told + j - tms.length = j by omega, List.getElem?_append_left (by simp; exact hjl)]
          simp [hjl]
      · intro t ht2
        rw [hall] at ht2
        simp only [cat] at ht2
        rw [List.append_assoc, List.getElem?_append_right (by omega), List.getElem?_append_right (by simp; omega)] at ht2
        rw [← hr] at ht2
        have := rn_late _ _ _ _ _ ht2
        omega
      · rw [hall]
        simp only [cat]
        omega
      · intro u hu
        exact .run s' W' (acc ++ K) (tms ++ List.replicate K.length k) ⟨⟨hi, hh, by simpa using hu⟩, h1.wf⟩ (by rw [Sk, hall, hr]) (by simp; omega) (by simp; omega)
/-- What End comes to. -/
structure Ex (l : List Nat) (w : World) (B told : Nat) (K : List Nat) (y : Nat) : Prop where
  d : Dv w B K y
  y0 : K ≠ [] → y = 0
  w : (rn 0 .no [] l).why = y
  n : told + K.length = (rn 0 .no [] l).out.length
  k : ∀ j x, K[j]? = some x → (rn 0 .no [] l).out[told + j]? = some x ∧ (rn 0 .no [] l).tm[told + j]? = some l.length
theorem end_sx (l : List Nat) (w : World) (B told : Nat) (h : Sx l w B l.length told) : ∃ K y, Calls Try.prog 18 #[.pointer (some ⟨B, 0, none⟩)] w fun e w' => e = .returned (.tuple #[]) ∧ Ex l w' B told K y ∧ But B w w' := by
  cases h using Sx.el with
  | stop d hy ha ht =>
    refine ⟨[], 22, ?_⟩
    obtain ⟨hi, hd⟩ := d.ex
    refine (end_shut _ w (open_over w hd)).mono ?_
    rintro e1 w1 ⟨rfl, rfl⟩
    exact ⟨rfl, ⟨d, fun h => absurd rfl h, hy, by simpa using ht.symm, fun j x hj => by simp at hj⟩, But.refl _ _⟩
  | run s W acc tms d h ht hk =>
    have hd : l.drop l.length = [] := List.drop_eq_nil_of_le (Nat.le_refl _)
    have hall : rn 0 .no [] l = ⟨acc ++ fin s W, tms ++ List.replicate (fin s W).length l.length, finy s, l.length⟩ := by
      rw [h, hd, rn]; rfl
    refine ⟨fin s W, finy s, ?_⟩
    refine (end_c w d).mono ?_
    rintro e1 w1 ⟨rfl, h1, h2⟩
    refine ⟨rfl, ⟨h1, fun hne => ?_, by rw [hall], by rw [hall]; simp; omega, fun j x hj => ?_⟩, h2⟩
    · cases s using St.el <;> simp [fin] at hne
      rfl
    · have hjl : j < (fin s W).length := (List.getElem?_eq_some_iff.1 hj).1
      rw [hall]
      refine ⟨?_, ?_⟩
      · simp only
        rw [List.getElem?_append_right (by omega), show told + j - acc.length = j by omega]; exact hj
      · simp only
        rw [List.getElem?_append_right (by omega), show told + j - tms.length = j by omega]
        simp [hjl]
end Go.Proofs.Ytapljkenmgdkmaa

/-
  What the document's Ends comes to: whether one text is an end of the other; and Build of a copy of the patterns.
  Conditions: both lie in memory.
-/
import Derived.Test.YtbepbjbbhenphaaDoorChecksCore
namespace Go.Proofs.YtbepbjbbhenphaaDoor
open Go.RowKit
set_option linter.unusedVariables false
theorem suffix_iff_drop {e t : List Nat} (h : e.length ≤ t.length) : t.drop (t.length - e.length) = e ↔ e <:+ t := by
  constructor
  · intro h1; rw [← h1]; exact List.drop_suffix _ _
  · intro h1; exact (List.suffix_iff_eq_drop.1 h1).symm
set_option maxHeartbeats 1000000 in
theorem ends_c (a b : Option Addr) (t e : List Nat) (n c m d : Nat) (w : World) (ht : Lies w a t) (he : Lies w b e) (hn : t.length = n) (hm : e.length = m) (hnc : n ≤ c) (hc : n < 9223372036854775808) (hz : a = none → n = 0) (hm0 : 0 < m) :
    Calls Tryd.prog 30 #[.slice a n c, .slice b m d] w fun r w' => r = .returned (.bool (e.isSuffixOf t)) ∧ Drawn w w' := by
  obtain ⟨q, hq⟩ : ∃ q, e.isSuffixOf t = q := ⟨_, rfl⟩
  rw [hq]
  by_cases hmn : m ≤ n
  · have hmi : (m : Int) ≤ (n : Int) := by omega
    obtain ⟨k, hk⟩ : ∃ k, k + m = n := ⟨n - m, by omega⟩
    have hdl : (t.drop k).length = m := by rw [List.length_drop]; omega
    have hqd : decide (t.drop k = e) = q := by
      rw [← hq]
      have : t.drop k = e ↔ e <:+ t := by
        rw [← suffix_iff_drop (by omega), show t.length - e.length = k by omega]
      by_cases h1 : t.drop k = e
      · rw [decide_eq_true h1]; exact (List.isSuffixOf_iff_suffix.2 (this.1 h1)).symm
      · rw [decide_eq_false h1]
        cases hb : e.isSuffixOf t with
        | true => exact absurd (this.2 (List.isSuffixOf_iff_suffix.1 hb)) h1
        | false => rfl
    have hki : (n : Int) - (m : Int) = (k : Int) := by omega
    have hkn : (k : Int) ≤ (n : Int) := by omega
    have hnci : (n : Int) ≤ (c : Int) := by omega
    cases a with
    | none => exfalso; have := hz rfl; omega
    | some ad =>
      obtain ⟨ab, ao, sp⟩ := ad
      by_cases h0 : n = 0
      · exfalso; omega
      · rcases ht with ht | ⟨b0, o0, hadd, hcell⟩
        · rw [ht] at hn; simp at hn; omega
        cases hadd
        have hs := fun (cc : Nat) => same_c (some ⟨ab, ao + k, none⟩) b (t.drop k) e m m cc d w hdl hm (by omega) (lies_drop hcell k) he
        rw [hqd] at hs
        have hnk : (n : Int) - (k : Int) = (m : Int) := by omega
        have hkm : n - k = m := by omega
        have hck2 : ¬ (c : Int) = (k : Int) := by omega
        have hmw : wrap64 ((n : Int) - (m : Int)) = (k : Int) := by unfold wrap64; omega
        have hmw2 : IntKind.i64.wrap ((n : Int) - (m : Int)) = (k : Int) := by rw [IntKind.wrap_i64]; clear hmw; omega
        clear hq hqd he hn hm hdl hk hz hc h0 hcell hmn hki hm0
        go_enter Tryd.func30, Tryd.ntmps30
        go_wp2_with (go_at_call 20; refine (hs _).mono ?_; rintro e2 w2 ⟨rfl, hd2⟩)
        go_ret
        exact ⟨rfl, hd2⟩
  · have hmi : ¬ (m : Int) ≤ (n : Int) := by omega
    have hqf : q = false := by
      rw [← hq]
      cases hb : e.isSuffixOf t with
      | true => exact absurd (List.isSuffixOf_iff_suffix.1 hb).length_le (by omega)
      | false => rfl
    subst hqf
    clear hq ht he hn hm hz hc hmn hm0
    go_enter Tryd.func30, Tryd.ntmps30
    go_wp2_with fail
    go_ret
    exact ⟨rfl, Drawn.refl w⟩
theorem filter_at (p : Nat → Bool) {k P : Nat} (hk : k < P) (hp : p k = true) : ((List.range P).filter p)[((List.range k).filter p).length]? = some k := by
  have h1 : List.range P = List.range (k + 1) ++ (List.range (P - (k + 1))).map (fun i => k + 1 + i) := by
    rw [← List.range_add]; congr 1; omega
  rw [h1, List.filter_append, List.range_succ, List.filter_append]
  have h2 : [k].filter p = [k] := by simp [hp]
  rw [h2, List.append_assoc, List.getElem?_append_right (Nat.le_refl _), Nat.sub_self]
  simp
theorem filter_succ_len (p : Nat → Bool) (k : Nat) : ((List.range (k + 1)).filter p).length = ((List.range k).filter p).length + (if p k = true then 1 else 0) := by
  rw [List.range_succ, List.filter_append, List.length_append]
  by_cases h : p k = true <;> simp [h]
theorem filter_le (p : Nat → Bool) {k P : Nat} (hk : k ≤ P) : ((List.range k).filter p).length ≤ ((List.range P).filter p).length := by
  have h1 : List.range P = List.range k ++ (List.range (P - k)).map (fun i => k + i) := by
    rw [← List.range_add]; congr 1; omega
  rw [h1, List.filter_append, List.length_append]; omega
theorem endsOf_text {ps ws : List (List Nat)} (hsub : ∀ p ∈ ps, p ∈ ws) (t : List Nat) : endsOf ps (lsf ws t) = endsOf ps t := by
  unfold endsOf
  apply List.filter_congr
  intro i _
  rw [← ends_eq, ← ends_eq]
  congr 1
  apply propext
  constructor
  · rintro ⟨p, hp, h⟩; exact ⟨p, hp, (ends_text (hsub p (List.mem_of_getElem? hp))).1 h⟩
  · rintro ⟨p, hp, h⟩; exact ⟨p, hp, (ends_text (hsub p (List.mem_of_getElem? hp))).2 h⟩
theorem words_sub {ps : List (List Nat)} : ∀ p ∈ ps, p ∈ words ps := fun p hp => words_mem_iff.2 (Or.inr ⟨p, hp, List.prefix_refl _⟩)
end Go.Proofs.YtbepbjbbhenphaaDoor

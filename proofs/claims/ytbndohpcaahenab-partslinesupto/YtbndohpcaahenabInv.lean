/-
  What holds of a splitter between calls: how much it holds, and which steps come. No walk.
-/
import Derived.Test.YtbndohpcaahenabMth
namespace Go.Proofs.Ytbndohpcaahenab
set_option linter.unusedVariables false
set_option linter.unusedSimpArgs false
/-- How much may be held. -/
def bnd (D : List Nat) (m seen pads : Nat) : Nat := if m = 0 then 2 + seen else if m = 1 then 2 + D.length else if m = 2 then 3 + D.length else if m = 3 then 4 + D.length + pads else if m = 4 then 5 + D.length + pads else if m = 6 then 1 else 0
structure Okm (D : List Nat) (s : Sp) : Prop where
  kn : s.kn = 0
  out : s.ins = false → s.hl = []
  cl : s.cl = decide (s.md = 7)
  pads : s.pads ≤ 16
  md : s.md ≤ 7
  seen : s.md = 0 → s.seen < D.length
  p12 : s.md ≤ 2 → s.pads = 0
  m7 : s.md = 7 → s.ins = false
  len : s.hl.length ≤ bnd D s.md s.seen s.pads
theorem Okm.lt {D : List Nat} {s : Sp} (h : Okm D s) (hD : D.length ≤ 72) : s.hl.length < 94 := by
  have h1 := h.len
  have h2 := h.pads
  have h3 := h.seen
  unfold bnd at h1
  split at h1
  · have := h3 ‹_›; omega
  · repeat' split at h1
    all_goals omega
theorem Okm.s0 {D : List Nat} (hD : D ≠ []) : Okm D s0 := ⟨rfl, fun _ => rfl, rfl, by decide, by decide, fun _ => List.length_pos_iff.2 hD, fun _ => rfl, fun h => by simp [Ytbndohpcaahenab.s0] at h, by simp [Ytbndohpcaahenab.s0]⟩
theorem ok_miss {D : List Nat} (hD : D ≠ []) (g : Nat) (s : Sp) (ho : s.ins = false → s.hl = []) (hc : s.cl = false) (hp : s.pads ≤ 16) : Okm D (tk (miss g s)) := by
  have hpos : 0 < D.length := List.length_pos_iff.2 hD
  obtain ⟨md, seen, pads, last, hl, kn, ins, cl⟩ := s
  simp only at ho hc hp
  subst hc
  cases ins with
  | true =>
    by_cases h13 : g = 13
    · subst h13
      refine ⟨rfl, ?_, rfl, hp, ?_, ?_, ?_, ?_, ?_⟩ <;> simp [tk, miss, within, hold, add, know, bnd]
    · by_cases h10 : g = 10
      · subst h10
        refine ⟨rfl, ?_, rfl, Nat.zero_le _, ?_, ?_, ?_, ?_, ?_⟩ <;> simp [tk, miss, within, line, add, know, bnd, hpos]
      · by_cases h258 : g = 258
        · subst h258
          refine ⟨rfl, ?_, rfl, hp, ?_, ?_, ?_, ?_, ?_⟩ <;> simp [tk, miss, within, line, add, know, bnd]
        · refine ⟨rfl, ?_, ?_, ?_, ?_, ?_, ?_, ?_, ?_⟩ <;> simp [tk, miss, within, line, add, know, bnd, h13, h10, h258, hp]
  | false =>
    have hh := ho rfl
    subst hh
    by_cases h13 : g = 13
    · subst h13
      refine ⟨rfl, ?_, rfl, hp, ?_, ?_, ?_, ?_, ?_⟩ <;> simp [tk, miss, within, hold, add, know, bnd]
    · by_cases h10 : g = 10
      · subst h10
        refine ⟨rfl, ?_, rfl, Nat.zero_le _, ?_, ?_, ?_, ?_, ?_⟩ <;> simp [tk, miss, within, line, add, know, bnd, hpos]
      · by_cases h258 : g = 258
        · subst h258
          refine ⟨rfl, ?_, rfl, hp, ?_, ?_, ?_, ?_, ?_⟩ <;> simp [tk, miss, within, line, add, know, bnd]
        · refine ⟨rfl, ?_, ?_, ?_, ?_, ?_, ?_, ?_, ?_⟩ <;> simp [tk, miss, within, line, add, know, bnd, h13, h10, h258, hp]
theorem ok_delim {D : List Nat} (hD : D ≠ []) (s : Sp) (hp : s.pads ≤ 16) : Okm D (tk (delim s)) := by
  have hpos : 0 < D.length := List.length_pos_iff.2 hD
  obtain ⟨md, seen, pads, last, hl, kn, ins, cl⟩ := s
  simp only at hp
  cases last <;> cases ins <;> refine ⟨rfl, ?_, rfl, ?_, ?_, ?_, ?_, ?_, ?_⟩ <;> simp [tk, delim, delim0, swap, line, add, know, bnd, hpos, hp]
theorem ok_hold {D : List Nat} (g m : Nat) (s : Sp) (hk : s.kn = 0) (ho : s.ins = false → s.hl = []) (hc : s.cl = false) (hp : s.pads ≤ 16) (hm : m ≤ 6) (hs : m = 0 → s.seen < D.length) (h12 : m ≤ 2 → s.pads = 0) (hb : s.ins = true → s.hl.length + 1 ≤ bnd D m s.seen s.pads) : Okm D (tk (hold g m s)) := by
  rw [tk_id (by rw [hold_kn]; exact hk)]
  refine ⟨by rw [hold_kn]; exact hk, ?_, ?_, by rw [hold_pads]; exact hp, by rw [hold_md]; omega, ?_, ?_, ?_, ?_⟩
  · rw [hold_ins, hold_hl]; intro h; simp [h, ho h]
  · rw [hold_cl, hold_md, hc]; simp; omega
  · rw [hold_md, hold_seen]; exact hs
  · rw [hold_md, hold_pads]; exact h12
  · rw [hold_md]; omega
  · rw [hold_hl, hold_md, hold_seen, hold_pads]
    cases hi : s.ins with
    | true => simpa using hb hi
    | false => simp [ho hi]
theorem within_miss {D : List Nat} {s : Sp} (h : Okm D s) (hm : s.md = 5) (g : Nat) : within g s = miss g s := by
  have h1 := h.len
  rw [hm] at h1
  have h2 : s.hl = [] := List.eq_nil_of_length_eq_zero (by simpa [bnd] using h1)
  unfold miss
  rw [know_id h2 h.kn hm]
/-- A step comes to a miss, a delimiter, or one byte more that is held. -/
theorem ok_step {D : List Nat} (hD : D ≠ []) {s : Sp} (h : Okm D s) (g : Nat) : Okm D (tk (stp D g s)) := by
  have hlen := h.len
  unfold bnd at hlen
  have hc : s.md ≠ 7 → s.cl = false := fun e => by rw [h.cl]; simp [e]
  unfold stp
  by_cases m0 : s.md = 0
  · rw [if_pos m0]
    rw [if_pos m0] at hlen
    have hp := h.p12 (by omega)
    have hs := h.seen m0
    unfold start
    split
    · exact ok_miss hD g s h.out (hc (by omega)) h.pads
    · split
      · exact ok_hold g 0 _ h.kn h.out (hc (by omega)) h.pads (by omega) (fun _ => by assumption) (fun _ => hp) (fun _ => by simp [bnd]; omega)
      · exact ok_hold g 1 { s with seen := s.seen + 1 } h.kn h.out (hc (by omega)) h.pads (by omega) (by omega) (fun _ => hp) (fun _ => by simp [bnd]; omega)
  · rw [if_neg m0]
    rw [if_neg m0] at hlen
    have hpad : ∀ (l : s.hl.length ≤ 3 + D.length + s.pads) (hm : s.md ≠ 7), Okm D (tk (pad g s)) := by
      intro l hm
      unfold pad
      split
      · exact ok_delim hD s h.pads
      · split
        · exact ok_hold g 4 s h.kn h.out (hc hm) h.pads (by omega) (by omega) (by omega) (fun _ => by simp [bnd]; omega)
        · split
          · rename_i h1
            exact ok_hold g 3 { s with pads := s.pads + 1 } h.kn h.out (hc hm) (by show s.pads + 1 ≤ 16; omega) (by omega) (by omega) (by omega) (fun _ => by simp [bnd]; omega)
          · exact ok_miss hD g s h.out (hc hm) h.pads
    by_cases m1 : s.md = 1
    · rw [if_pos m1]
      rw [if_pos m1] at hlen
      have hp := h.p12 (by omega)
      unfold bBorder
      split
      · exact ok_hold g 2 s h.kn h.out (hc (by omega)) h.pads (by omega) (by omega) (fun _ => hp) (fun _ => by simp [bnd]; omega)
      · exact hpad (by omega) (by omega)
    · rw [if_neg m1]
      rw [if_neg m1] at hlen
      by_cases m2 : s.md = 2
      · rw [if_pos m2]
        rw [if_pos m2] at hlen
        have hp := h.p12 (by omega)
        unfold bDash
        split
        · exact ok_miss hD g s h.out (hc (by omega)) h.pads
        · exact ok_hold g 3 { s with last := true } h.kn h.out (hc (by omega)) h.pads (by omega) (by omega) (by omega) (fun _ => by simp [bnd]; omega)
      · rw [if_neg m2]
        rw [if_neg m2] at hlen
        by_cases m3 : s.md = 3
        · rw [if_pos m3]
          rw [if_pos m3] at hlen
          unfold pad
          split
          · exact ok_delim hD s h.pads
          · split
            · exact ok_hold g 4 s h.kn h.out (hc (by omega)) h.pads (by omega) (by omega) (by omega) (fun _ => by simp [bnd]; omega)
            · split
              · rename_i h1
                exact ok_hold g 3 { s with pads := s.pads + 1 } h.kn h.out (hc (by omega)) (by show s.pads + 1 ≤ 16; omega) (by omega) (by omega) (by omega) (fun _ => by simp [bnd]; omega)
              · exact ok_miss hD g s h.out (hc (by omega)) h.pads
        · rw [if_neg m3]
          rw [if_neg m3] at hlen
          by_cases m4 : s.md = 4
          · rw [if_pos m4]
            unfold bPad
            split
            · exact ok_miss hD g s h.out (hc (by omega)) h.pads
            · exact ok_delim hD s h.pads
          · rw [if_neg m4]
            rw [if_neg m4] at hlen
            by_cases m5 : s.md = 5
            · rw [if_pos m5, within_miss h m5]
              exact ok_miss hD g s h.out (hc (by omega)) h.pads
            · rw [if_neg m5]
              by_cases m6 : s.md = 6
              · rw [if_pos m6]
                rw [if_pos m6] at hlen
                unfold bRet
                split
                · exact ok_miss hD g s h.out (hc (by omega)) h.pads
                · rename_i h10
                  have hg : g = 10 := by omega
                  subst hg
                  have e : within 10 s = line (add 10 s) := by simp [within]
                  rw [e, tk_id (add_ls h.kn).kn]
                  have hpos : 0 < D.length := List.length_pos_iff.2 hD
                  refine ⟨(add_ls h.kn).kn, ?_, ?_, Nat.zero_le _, Nat.zero_le _, fun _ => hpos, fun _ => rfl, fun e => (by cases e), ?_⟩
                  · rw [line_add_ins, line_add_hl]; intro e; simp [e, h.out e]
                  · rw [line_add_cl]; exact hc (by omega)
                  · rw [line_add_hl]
                    show _ ≤ 2 + 0
                    split <;> simp <;> omega
              · rw [if_neg m6, tk_id h.kn]
                exact h
/-- What is held at most while a step is done. -/
theorem len_miss (g : Nat) (s : Sp) : (miss g s).hl.length ≤ s.hl.length + 1 ∧ (miss g s).kn ≤ (miss g s).hl.length := by
  obtain ⟨md, seen, pads, last, hl, kn, ins, cl⟩ := s
  simp only [miss, within, hold, line, know, add]
  cases ins <;> simp <;> repeat' split
  all_goals simp
theorem len_hold (g m : Nat) (s : Sp) : (hold g m s).hl.length ≤ s.hl.length + 1 := by rw [hold_hl]; split <;> simp
theorem len_delim (s : Sp) : (delim s).hl.length ≤ 2 ∧ (delim s).kn = (delim s).hl.length := by
  obtain ⟨md, seen, pads, last, hl, kn, ins, cl⟩ := s
  cases ins <;> cases last <;> simp [delim, delim0, swap, line, know, add]
theorem len_step {D : List Nat} {s : Sp} (h : Okm D s) (g : Nat) : (stp D g s).hl.length ≤ max 2 (s.hl.length + 1) ∧ (stp D g s).kn ≤ (stp D g s).hl.length := by
  have hm := len_miss g s
  have hd := len_delim s
  have hh : ∀ m (t : Sp), t.kn = 0 → t.hl = s.hl → (hold g m t).hl.length ≤ max 2 (s.hl.length + 1) ∧ (hold g m t).kn ≤ (hold g m t).hl.length := by
    intro m t h0 h1
    have := len_hold g m t
    rw [hold_kn, h0]
    rw [h1] at this
    omega
  unfold stp
  split
  · unfold start
    split
    · omega
    · split
      · exact hh _ _ h.kn rfl
      · exact hh _ _ h.kn rfl
  · have hpad : (pad g s).hl.length ≤ max 2 (s.hl.length + 1) ∧ (pad g s).kn ≤ (pad g s).hl.length := by
      unfold pad
      split
      · omega
      · split
        · exact hh _ _ h.kn rfl
        · split
          · exact hh _ _ h.kn rfl
          · omega
    split
    · unfold bBorder
      split
      · exact hh _ _ h.kn rfl
      · exact hpad
    · split
      · unfold bDash
        split
        · omega
        · exact hh _ _ h.kn rfl
      · split
        · exact hpad
        · split
          · unfold bPad
            split <;> omega
          · split
            · rename_i m5
              rw [within_miss h m5]
              omega
            · split
              · unfold bRet
                split
                · omega
                · have hg : g = 10 := by omega
                  subst hg
                  have e : within 10 s = line (add 10 s) := by simp [within]
                  rw [e, (add_ls h.kn).kn, line_add_hl]
                  split <;> simp <;> omega
              · rw [h.kn]; omega
end Go.Proofs.Ytbndohpcaahenab

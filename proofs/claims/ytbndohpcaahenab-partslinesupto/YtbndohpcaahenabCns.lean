/-
  What a step tells and keeps: nothing is lost but by a delimiter. No walk.
-/
import Derived.Test.YtbndohpcaahenabTvm
import Derived.Test.YtbndohpcaahenabGat
namespace Go.Proofs.Ytbndohpcaahenab
set_option linter.unusedVariables false
set_option linter.unusedSimpArgs false
/-- What a step comes to: told and held together are what was held, and perhaps the byte; or a delimiter. -/
def Cs (s s' : Sp) (g : Nat) : Prop := (s'.ins = s.ins ∧ ∃ c, out s' ++ (tk s').hl = iff' s.ins (s.hl ++ c) ∧ (c = [] ∨ (c = [g] ∧ g ≠ 258))) ∨ ∃ l, out s' = iff' s.ins [257] ++ iff' (!l) [256] ∧ s'.ins = !l ∧ (tk s').hl = []
theorem cs_hold (g m : Nat) (s t : Sp) (hk : t.kn = 0) (hh : t.hl = s.hl) (hi : t.ins = s.ins) (ho : s.ins = false → s.hl = []) (hg : g ≠ 258) : Cs s (hold g m t) g := by
  refine Or.inl ⟨by rw [hold_ins, hi], [g], ?_, Or.inr ⟨rfl, hg⟩⟩
  rw [out_nil (by rw [hold_kn]; exact hk), tk_id (by rw [hold_kn]; exact hk), hold_hl, hi, hh]
  cases h : s.ins with
  | true => rfl
  | false => simp [iff', ho h]
theorem cs_miss (g : Nat) (s : Sp) (ho : s.ins = false → s.hl = []) : Cs s (miss g s) g := by
  obtain ⟨md, seen, pads, last, hl, kn, ins, cl⟩ := s
  simp only at ho
  by_cases h13 : g = 13
  · subst h13
    refine Or.inl ⟨by cases ins <;> rfl, [13], ?_, Or.inr ⟨rfl, by decide⟩⟩
    cases ins with
    | true => simp [miss, within, hold, know, add, out, tk, iff']
    | false => have := ho rfl; subst this; simp [miss, within, hold, know, add, out, tk, iff']
  · by_cases h10 : g = 10
    · subst h10
      refine Or.inl ⟨by cases ins <;> rfl, [10], ?_, Or.inr ⟨rfl, by decide⟩⟩
      cases ins with
      | true => simp [miss, within, line, know, add, out, tk, iff']
      | false => have := ho rfl; subst this; simp [miss, within, line, know, add, out, tk, iff']
    · by_cases h258 : g = 258
      · subst h258
        refine Or.inl ⟨by cases ins <;> rfl, [], ?_, Or.inl rfl⟩
        cases ins with
        | true => simp [miss, within, know, out, tk, iff']
        | false => have := ho rfl; subst this; simp [miss, within, know, out, tk, iff']
      · refine Or.inl ⟨by cases ins <;> simp [miss, within, h13, h10, h258, know, add], [g], ?_, Or.inr ⟨rfl, h258⟩⟩
        cases ins with
        | true => simp [miss, within, h13, h10, h258, know, add, out, tk, iff']; exact List.take_of_length_le (by simp)
        | false => have := ho rfl; subst this; simp [miss, within, h13, h10, h258, know, add, out, tk, iff']
theorem cs_delim (g : Nat) (s : Sp) : Cs s (delim s) g := by
  refine Or.inr ⟨s.last, out_delim s, ?_, ?_⟩
  · exact (rs_delim s true (fun _ => rfl)).ins
  · exact (rs_delim s true (fun _ => rfl)).hl
theorem cs_step {D : List Nat} (hD : ∀ d ∈ D, d < 256) {s : Sp} (h : Okm D s) (g : Nat) : Cs s (stp D g s) g := by
  have ho := h.out
  have hpad : Cs s (pad g s) g := by
    unfold pad
    split
    · exact cs_delim g s
    · split
      · rename_i h1 h2; exact cs_hold g 4 s s h.kn rfl rfl ho (by omega)
      · split
        · rename_i h1 h2 h3; exact cs_hold g 3 s _ h.kn rfl rfl ho (by omega)
        · exact cs_miss g s ho
  unfold stp
  split
  · unfold start
    split
    · exact cs_miss g s ho
    · rename_i h1
      have h2 : D[s.seen]? = some g := Classical.not_not.1 h1
      have := hD g (List.mem_of_getElem? h2)
      split
      · exact cs_hold g 0 s _ h.kn rfl rfl ho (by omega)
      · exact cs_hold g 1 s _ h.kn rfl rfl ho (by omega)
  · split
    · unfold bBorder
      split
      · exact cs_hold g 2 s s h.kn rfl rfl ho (by omega)
      · exact hpad
    · split
      · unfold bDash
        split
        · exact cs_miss g s ho
        · exact cs_hold g 3 s _ h.kn rfl rfl ho (by omega)
      · split
        · exact hpad
        · split
          · unfold bPad
            split
            · exact cs_miss g s ho
            · exact cs_delim g s
          · split
            · rename_i m5; rw [within_miss h m5]; exact cs_miss g s ho
            · split
              · unfold bRet
                split
                · exact cs_miss g s ho
                · have hg : g = 10 := by omega
                  subst hg
                  have e : within 10 s = line (add 10 s) := by simp [within]
                  rw [e]
                  refine Or.inl ⟨line_add_ins _ _, [10], ?_, Or.inr ⟨rfl, by decide⟩⟩
                  rw [out_nil (add_ls h.kn).kn, tk_id (add_ls h.kn).kn, line_add_hl]
                  cases hi : s.ins with
                  | true => rfl
                  | false => simp [iff', ho hi]
              · refine Or.inl ⟨rfl, [], ?_, Or.inl rfl⟩
                rw [out_nil h.kn, tk_id h.kn]
                cases hi : s.ins with
                | true => simp [iff']
                | false => simp [iff', ho hi]
/-- Gd of bytes. -/
theorem gd_bytes {l : List Nat} (h : ∀ x ∈ l, x < 256) : Gd true l := by
  induction l with
  | nil => trivial
  | cons g r ih =>
    have := h g (by simp)
    simp only [Gd, if_neg (show ¬ g = 256 by omega), if_neg (show ¬ g = 257 by omega)]
    exact ⟨trivial, ih fun x hx => h x (by simp [hx])⟩
theorem gd_append {i : Bool} {a b : List Nat} (h : Gd i a) (k : Gd true b) (k2 : Gd i b) : Gd i (a ++ b) := by
  induction a generalizing i with
  | nil => exact k2
  | cons g r ih =>
    simp only [List.cons_append, Gd] at h ⊢
    split
    · rename_i h1; rw [if_pos h1] at h; exact ih h k
    · rename_i h1; rw [if_neg h1] at h
      split
      · rename_i h2; rw [if_pos h2] at h; exact ih h k2
      · rename_i h2; rw [if_neg h2] at h; exact ⟨h.1, ih h.2 k2⟩
def wt (ls : List (List Nat)) : Nat := ls.length + (ls.map List.length).sum
theorem wt_po (ls : List (List Nat)) (o : List Nat) (h : Gd (decide (ls ≠ [])) o) : wt (po ls o) ≤ wt ls + o.length ∧ (ls ≠ [] → po ls o ≠ []) := by
  induction o generalizing ls with
  | nil => simp [po]
  | cons g r ih =>
    simp only [po, Gd] at *
    by_cases h1 : g = 256
    · rw [if_pos h1] at h ⊢
      have := ih (ls ++ [[]]) (by simpa using h)
      refine ⟨?_, fun _ => this.2 (by simp)⟩
      have h2 : wt (ls ++ [[]]) = wt ls + 1 := by simp [wt]; omega
      rw [h2] at this
      simp; omega
    · rw [if_neg h1] at h ⊢
      by_cases h3 : g = 257
      · rw [if_pos h3] at h ⊢
        have := ih ls h
        exact ⟨by simp; omega, this.2⟩
      · rw [if_neg h3] at h ⊢
        have hne : ls ≠ [] := by simpa using h.1
        obtain ⟨a, b, rfl⟩ : ∃ a b, ls = a ++ [b] := ⟨ls.dropLast, ls.getLast hne, (List.dropLast_concat_getLast hne).symm⟩
        have h5 := h.2
        rw [h.1] at h5
        have := ih (a ++ [b ++ [g]]) (by simpa using h5)
        simp only [List.dropLast_concat, List.getLastD_concat] at *
        refine ⟨?_, fun _ => this.2 (by simp)⟩
        have h2 : wt (a ++ [b ++ [g]]) = wt (a ++ [b]) + 1 := by simp [wt]; omega
        rw [h2] at this
        simp; omega
theorem le_sum {l : List Nat} {x : Nat} (h : x ∈ l) : x ≤ l.sum := by
  induction l with
  | nil => simp at h
  | cons a r ih =>
    rcases List.mem_cons.1 h with e | e
    · subst e; simp
    · have := ih e; simp; omega
theorem bn_wt {ls : List (List Nat)} {o : List Nat} {N : Nat} (h : wt ls + o.length ≤ N) : Bn N ls o := by
  refine ⟨by unfold wt at h; omega, fun l hl => ?_⟩
  have : l.length ≤ (ls.map List.length).sum := le_sum (List.mem_map.2 ⟨l, hl, rfl⟩)
  unfold wt at h
  omega
theorem iff_len' (b : Bool) (l : List Nat) : (iff' b l).length ≤ l.length := by cases b <;> simp [iff']
/-- What holds between the bytes of Whole. -/
structure Wi (D : List Nat) (s : Sp) (ls : List (List Nat)) (i : Nat) : Prop where
  ok : Okm D s
  oct : ∀ x ∈ s.hl, x < 256
  ins : s.ins = true → ls ≠ []
  wt : wt ls + s.hl.length ≤ 2 * i
/-- What is told with a byte, or at the end: each a sign, behind an open part, few. -/
structure Tl (ls : List (List Nat)) (o : List Nat) : Prop where
  sg : ∀ x ∈ o, x < 258
  gd : Gd (decide (ls ≠ [])) o
theorem tl_bytes {ls : List (List Nat)} {l : List Nat} {i : Bool} (hi : i = true → ls ≠ []) (h : ∀ x ∈ l, x < 256) : Tl ls (iff' i l) := by
  cases i with
  | false => exact ⟨fun x hx => by simp [iff'] at hx, trivial⟩
  | true =>
    have : decide (ls ≠ []) = true := by simpa using hi rfl
    exact ⟨fun x hx => by have := h x hx; omega, by rw [this]; exact gd_bytes h⟩
theorem tl_delim {ls : List (List Nat)} (i l : Bool) : Tl ls (iff' i [257] ++ iff' (!l) [256]) := by
  constructor
  · intro x hx
    cases i <;> cases l <;> simp [iff'] at hx <;> omega
  · cases i <;> cases l <;> simp [iff', Gd]
theorem tl_delim2 {ls : List (List Nat)} (i l : Bool) : Tl ls (iff' i [257] ++ iff' (!l) [256] ++ iff' (!l) [257]) := by
  constructor
  · intro x hx
    cases i <;> cases l <;> simp [iff'] at hx <;> omega
  · cases i <;> cases l <;> simp [iff', Gd]
theorem po_delim_ne {ls : List (List Nat)} (i l : Bool) (h : (!l) = true) : po ls (iff' i [257] ++ iff' (!l) [256]) ≠ [] := by
  cases i <;> cases l <;> simp [iff', po] at h ⊢
theorem Wi.s0 {D : List Nat} (hD : D ≠ []) : Wi D s0 [] 0 := ⟨Okm.s0 hD, fun x hx => by simp [Ytbndohpcaahenab.s0] at hx, fun h => by simp [Ytbndohpcaahenab.s0] at h, by simp [Ytbndohpcaahenab.wt, Ytbndohpcaahenab.s0]⟩
theorem Wi.step {D : List Nat} (hD : D ≠ []) (ho : ∀ d ∈ D, d < 256) {s : Sp} {ls : List (List Nat)} {i g : Nat} (h : Wi D s ls i) (hg : g < 256) : Tl ls (out (stp D g s)) ∧ (out (stp D g s)).length + Ytbndohpcaahenab.wt ls ≤ 2 * (i + 1) ∧ Wi D (tk (stp D g s)) (po ls (out (stp D g s))) (i + 1) := by
  have hok := ok_step hD h.ok g
  rcases cs_step ho h.ok g with ⟨h1, c, h2, h3⟩ | ⟨l, h1, h2, h3⟩
  · have hc : ∀ x ∈ s.hl ++ c, x < 256 := by
      intro x hx
      rcases List.mem_append.1 hx with e | e
      · exact h.oct x e
      · rcases h3 with e3 | ⟨e3, _⟩
        · rw [e3] at e; simp at e
        · rw [e3] at e; simp at e; omega
    have hcl : c.length ≤ 1 := by rcases h3 with e3 | ⟨e3, _⟩ <;> rw [e3] <;> simp
    have hlen := congrArg List.length h2
    rw [List.length_append] at hlen
    have hil := iff_len' s.ins (s.hl ++ c)
    rw [List.length_append] at hil
    have hw := h.wt
    have hout : ∀ x ∈ out (stp D g s) ++ (tk (stp D g s)).hl, x < 256 := by
      intro x hx
      rw [h2] at hx
      cases hi : s.ins with
      | true => rw [hi] at hx; exact hc x hx
      | false => rw [hi] at hx; simp [iff'] at hx
    have htl : Tl ls (out (stp D g s)) := by
      cases hi : s.ins with
      | true =>
        have hd : decide (ls ≠ []) = true := by simpa using h.ins hi
        exact ⟨fun x hx => by have := hout x (List.mem_append.2 (Or.inl hx)); omega, by rw [hd]; exact gd_bytes fun x hx => hout x (List.mem_append.2 (Or.inl hx))⟩
      | false =>
        rw [hi] at h2
        simp [iff'] at h2
        rw [h2.1]
        exact ⟨fun x hx => by simp at hx, trivial⟩
    have hwp := wt_po ls _ htl.gd
    refine ⟨htl, by omega, ⟨hok, fun x hx => hout x (List.mem_append.2 (Or.inr hx)), fun hi => ?_, by omega⟩⟩
    have : s.ins = true := by rw [← h1]; exact hi
    exact hwp.2 (h.ins this)
  · rw [h1]
    have htl := tl_delim (ls := ls) s.ins l
    have hwp := wt_po ls _ htl.gd
    have hlen : (iff' s.ins [257] ++ iff' (!l) [256]).length ≤ 2 := by cases s.ins <;> cases l <;> simp [iff']
    have hw := h.wt
    refine ⟨htl, by omega, ⟨hok, fun x hx => by rw [h3] at hx; simp at hx, fun hi => ?_, by rw [h3]; simp; omega⟩⟩
    have hi2 : (!l) = true := by rw [← h2]; exact hi
    exact po_delim_ne _ _ hi2
theorem Wi.fin {D : List Nat} (ho : ∀ d ∈ D, d < 256) {s : Sp} {ls : List (List Nat)} {i : Nat} (h : Wi D s ls i) : Tl ls (out (en D s)) ∧ (out (en D s)).length + Ytbndohpcaahenab.wt ls ≤ 2 * i + 3 ∧ (en D s).kn = (en D s).hl.length := by
  have hsplit : (stp D 258 s).hl = out (stp D 258 s) ++ (tk (stp D 258 s)).hl := by simp [out, tk]
  have e : out (en D s) = out (stp D 258 s) ++ (tk (stp D 258 s)).hl ++ iff' (stp D 258 s).ins [257] := by
    unfold en
    rw [out_know]
    unfold add
    cases hi : (stp D 258 s).ins with
    | true => simp only [if_true]; rw [hsplit]; rfl
    | false => simp only [Bool.false_eq_true, if_false]; rw [hsplit]; simp [iff']
  have hw := h.wt
  refine ⟨?_, ?_, rfl⟩
  · rw [e]
    rcases cs_step ho h.ok 258 with ⟨h1, c, h2, h3⟩ | ⟨l, h1, h2, h3⟩
    · have hc : c = [] := h3.elim id (fun k => absurd rfl k.2)
      rw [h2, h1, hc, List.append_nil]
      have t1 := tl_bytes (ls := ls) h.ins h.oct
      constructor
      · intro x hx
        rcases List.mem_append.1 hx with e3 | e3
        · exact t1.sg x e3
        · cases hi : s.ins <;> rw [hi] at e3 <;> simp [iff'] at e3; omega
      · refine gd_append t1.gd ?_ ?_ <;> cases s.ins <;> simp [iff', Gd]
    · rw [h1, h2, h3, List.append_nil]
      exact tl_delim2 s.ins l
  · rw [e]
    rcases cs_step ho h.ok 258 with ⟨h1, c, h2, h3⟩ | ⟨l, h1, h2, h3⟩
    · have hc : c = [] := h3.elim id (fun k => absurd rfl k.2)
      rw [h2, hc, List.append_nil]
      have h5 := iff_len' s.ins s.hl
      have h6 := iff_len' (stp D 258 s).ins [257]
      simp at h6 ⊢
      omega
    · rw [h1, h3]
      have h5 := iff_len' s.ins [257]
      have h6 := iff_len' (!l) [256]
      have h7 := iff_len' (stp D 258 s).ins [257]
      simp at h5 h6 h7 ⊢
      omega
end Go.Proofs.Ytbndohpcaahenab

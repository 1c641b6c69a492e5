/-
  What is read out of bytes is bytes; no walk.
-/
import Derived.Test.YtdndlegfalmkaaaStr
namespace Go.Proofs.Ytdndlegfalmkaaa
set_option linter.unusedVariables false
theorem tkn_oct {r m q : List Nat} (ho : Oct r) (h : tkn r = some (m, q)) : Oct m ∧ Oct q := by
  refine ⟨?_, ho.suf (tkn_out h).2.2.1⟩
  unfold tkn at h
  split at h
  · cases h
  · cases h3 : bt 0 (r.drop (rn r)) with
    | none => rw [h3] at h; cases h
    | some u =>
      rw [h3] at h
      simp only [Option.map_some, Option.some.injEq, Prod.mk.injEq] at h
      rw [← h.1]
      exact ho.take _
theorem qt_oct : ∀ (n : Nat) (a l v r : List Nat), l.length ≤ n → Oct a → Oct l → qt a l = some (v, r) → Oct v
  | 0, a, [], v, r, _, _, _, h => by simp [qt] at h
  | n + 1, a, [], v, r, _, _, _, h => by simp [qt] at h
  | n + 1, a, x :: l, v, r, hn, ha, hl, h => by
    have hn' : l.length ≤ n := by simp at hn; omega
    have hl' : Oct l := fun y hy => hl y (List.mem_cons_of_mem _ hy)
    have hx : x < 256 := hl x (by simp)
    rw [qt.eq_def] at h
    simp only at h
    split at h
    · cases h; exact ha
    · split at h
      · cases l with
        | nil => cases h
        | cons y q =>
          exact qt_oct n (a ++ [y]) q v r (by simp at hn'; omega) (ha.append (Oct.cons (hl' y (by simp)) Oct.nil)) (fun z hz => hl' z (List.mem_cons_of_mem _ hz)) h
      · exact qt_oct n (a ++ [x]) l v r hn' (ha.append (Oct.cons hx Oct.nil)) hl' h
theorem vl_oct {r v q : List Nat} (ho : Oct r) (h : vl r = some (v, q)) : Oct v ∧ Oct q := by
  refine ⟨?_, ho.suf (vl_out h).2.1⟩
  cases r with
  | nil => cases h
  | cons x s =>
    simp only [vl] at h
    split at h
    · cases hq : qt [] s with
      | none => rw [hq] at h; cases h
      | some p =>
        obtain ⟨p1, p2⟩ := p
        rw [hq] at h
        simp only [Option.bind_some] at h
        cases hb : bt 0 p2 with
        | none => rw [hb] at h; cases h
        | some t =>
          rw [hb] at h
          simp only [Option.map_some, Option.some.injEq, Prod.mk.injEq] at h
          rw [← h.1]
          exact qt_oct _ [] s p1 p2 (Nat.le_refl _) Oct.nil (fun y hy => ho y (List.mem_cons_of_mem _ hy)) hq
    · exact (tkn_oct ho h).1
theorem pm_oct {r q : List Nat} {f : Fd} (ho : Oct r) (h : pm r = some (f, q)) : (Oct f.1 ∧ Oct f.2) ∧ Oct q := by
  refine ⟨?_, ho.suf (pm_out h).2.2.1⟩
  unfold pm at h
  cases h1 : tkn r with
  | none => rw [h1] at h; cases h
  | some a =>
    obtain ⟨a1, a2⟩ := a
    rw [h1] at h
    simp only [Option.bind_some] at h
    cases h2 : sg 61 a2 with
    | none => rw [h2] at h; cases h
    | some r3 =>
      rw [h2] at h
      simp only [Option.bind_some] at h
      cases h3 : vl r3 with
      | none => rw [h3] at h; cases h
      | some v =>
        obtain ⟨v1, v2⟩ := v
        rw [h3] at h
        simp only [Option.map_some, Option.some.injEq, Prod.mk.injEq] at h
        obtain ⟨rfl, rfl⟩ := h
        have k1 := tkn_oct ho h1
        have k2 := k1.2.suf (sg_out h2).2.1
        exact ⟨k1.1.low, (vl_oct k2 h3).1⟩
theorem ps_oct : ∀ (n : Nat) (r : List Nat) (F : List Fd), Oct r → ps n r = some F → OctF F
  | 0, r, F, ho, h => by
    simp only [ps] at h
    split at h
    · cases h; simp [OctF]
    · cases h
  | n + 1, r, F, ho, h => by
    simp only [ps] at h
    split at h
    · cases h; simp [OctF]
    · cases h1 : sg 59 r with
      | none => rw [h1] at h; cases h
      | some r1 =>
        rw [h1] at h
        simp only [Option.bind_some] at h
        cases h2 : pm r1 with
        | none => rw [h2] at h; cases h
        | some p =>
          obtain ⟨f, q⟩ := p
          rw [h2] at h
          simp only [Option.bind_some] at h
          cases h3 : ps n q with
          | none => rw [h3] at h; cases h
          | some G =>
            rw [h3] at h
            simp only [Option.map_some, Option.some.injEq] at h
            subst h
            have k1 := ho.suf (sg_out h1).2.1
            have k2 := pm_oct k1 h2
            have k3 := ps_oct n q G k2.2 h3
            intro g hg
            rcases List.mem_cons.1 hg with e | e
            · rw [e]; exact k2.1
            · exact k3 g e
theorem ty_oct {l : List Nat} {t : Ty} (ho : Oct l) (h : ty l = some t) : Oct t.1 ∧ Oct t.2.1 ∧ OctF t.2.2 := by
  unfold ty at h
  cases h0 : bt 0 l with
  | none => rw [h0] at h; cases h
  | some r0 =>
    rw [h0] at h
    simp only [Option.bind_some] at h
    have o0 := ho.suf (bt_suf h0)
    cases h1 : tkn r0 with
    | none => rw [h1] at h; cases h
    | some a =>
      obtain ⟨a1, a2⟩ := a
      rw [h1] at h
      simp only [Option.bind_some] at h
      have o1 := tkn_oct o0 h1
      cases h2 : sg 47 a2 with
      | none => rw [h2] at h; cases h
      | some r1 =>
        rw [h2] at h
        simp only [Option.bind_some] at h
        have o2 := o1.2.suf (sg_out h2).2.1
        cases h3 : tkn r1 with
        | none => rw [h3] at h; cases h
        | some b =>
          obtain ⟨b1, b2⟩ := b
          rw [h3] at h
          simp only [Option.bind_some] at h
          have o3 := tkn_oct o2 h3
          cases h4 : ps b2.length b2 with
          | none => rw [h4] at h; cases h
          | some F =>
            rw [h4] at h
            simp only [Option.map_some, Option.some.injEq] at h
            subst h
            exact ⟨o1.1.low, o3.1.low, ps_oct _ _ _ o3.2 h4⟩
end Go.Proofs.Ytdndlegfalmkaaa

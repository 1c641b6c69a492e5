/-
  What gather comes to.
-/
import Derived.Test.YtbndohpcaahenabLls
namespace Go.Proofs.Ytbndohpcaahenab
open Go.RowKit
set_option linter.unusedVariables false
structure Bn (N : Nat) (ls : List (List Nat)) (rem : List Nat) : Prop where
  all : ls.length + rem.length ≤ N
  each : ∀ l ∈ ls, l.length + rem.length ≤ N
theorem Bn.open_ {N : Nat} {ls : List (List Nat)} {r : List Nat} {g : Nat} (h : Bn N ls (g :: r)) : Bn N (ls ++ [[]]) r := by
  have h1 := h.all
  simp at h1
  refine ⟨by simp; omega, fun l hl => ?_⟩
  rcases List.mem_append.1 hl with e | e
  · have := h.each l e; simp at this; omega
  · simp at e; subst e; simp; omega
theorem Bn.close {N : Nat} {ls : List (List Nat)} {r : List Nat} {g : Nat} (h : Bn N ls (g :: r)) : Bn N ls r := by
  have h1 := h.all
  simp at h1
  refine ⟨by omega, fun l hl => ?_⟩
  have := h.each l hl; simp at this; omega
theorem Bn.byte {N : Nat} {ls : List (List Nat)} {l : List Nat} {r : List Nat} {g : Nat} (h : Bn N ls (g :: r)) (hl : l ∈ ls) : Bn N (ls.dropLast ++ [l ++ [g]]) r := by
  have h1 := h.all
  simp at h1
  have hne : ls ≠ [] := List.ne_nil_of_mem hl
  have hd : ls.dropLast.length + 1 = ls.length := by have := List.length_pos_iff.2 hne; simp; omega
  refine ⟨by simp at hd ⊢; omega, fun m hm => ?_⟩
  rcases List.mem_append.1 hm with e | e
  · have := h.each m (List.dropLast_subset _ e); simp at this; omega
  · simp at e; subst e; have := h.each l hl; simp at this ⊢; omega
/-- What gather answers. -/
structure Gr (lo B : Nat) (D : List Nat) (q : Sp) (ed : Bool) (LS : List (List Nat)) (w : World) (e : Ending) (w' : World) : Prop where
  ex : ∃ v', e = .returned v' ∧ Ll w' lo v' LS ∧ Sm w' B D q 0 ed ∧ Below lo w w'
/-- What the loop stands at. -/
structure Gs (lo B E : Nat) (D : List Nat) (q : Sp) (ed : Bool) (w wr : World) (ek eb en' : Int) (ok : Bool) (v : Value) (ls : List (List Nat)) (rem : List Nat) (LS : List (List Nat)) : Prop where
  kn : Kn wr B D q ed rem
  ll : Ll wr lo v ls
  ev : Cells wr E #[.int .i64 ek, .int .u8 eb, .int .i64 en', .int .i64 0, .string ⟨#[]⟩] 50
  bel : Below lo w wr
  le : lo ≤ E
  st : (ok = false ∧ rem = [] ∧ ls = LS) ∨ (ok = true ∧ ∃ g, ek = (evk g : Nat) ∧ eb = (evb g : Nat) ∧ g < 258 ∧ po ls (g :: rem) = LS ∧ Gd (decide (ls ≠ [])) (g :: rem) ∧ Bn 1000000000 ls (g :: rem))
/-- The next event is laid into its place. -/
theorem Gs.next {lo B E2 : Nat} {D : List Nat} {q : Sp} {ed : Bool} {w wx w7 : World} {ek eb en' ek2 eb2 en2 : Int} {ok2 : Bool} {vx : Value} {lsx : List (List Nat)} {rem rem2 : List Nat} {LS : List (List Nat)} {cB : Array Value} (hl : Ll wx lo vx lsx) (hB : Cells wx B cB 48) (hlo : lo ≤ B) (bel : Below lo w wx) (hE : wx.heap.size = E2) (k7 : Kn w7 B D q ed rem2) (b7 : But B (wx.alloc (.cells #[.int .i64 ek, .int .u8 eb, .int .i64 en', .int .i64 0, .string ⟨#[]⟩] 50)) w7)
    (hp : po lsx rem = LS) (hg : Gd (decide (lsx ≠ [])) rem) (hbn : Bn 1000000000 lsx rem) (hs : ∀ g ∈ rem, g < 258) (hc : (ok2 = false ∧ rem = [] ∧ rem2 = []) ∨ (ok2 = true ∧ ∃ g, ek2 = (evk g : Nat) ∧ eb2 = (evb g : Nat) ∧ rem = g :: rem2)) :
    Cells w7 E2 #[.int .i64 ek, .int .u8 eb, .int .i64 en', .int .i64 0, .string ⟨#[]⟩] 50 ∧ Gs lo B E2 D q ed w (((((w7.setCell ⟨E2, 0, none⟩ (.int .i64 ek2)).setCell ⟨E2, 1, none⟩ (.int .u8 eb2)).setCell ⟨E2, 2, none⟩ (.int .i64 en2)).setCell ⟨E2, 3, none⟩ (.int .i64 0)).setCell ⟨E2, 4, none⟩ (.string ⟨#[]⟩)) ek2 eb2 en2 ok2 vx lsx rem2 LS := by
  have hBlt := hB.lt
  have kA : Cells (wx.alloc (.cells #[.int .i64 ek, .int .u8 eb, .int .i64 en', .int .i64 0, .string ⟨#[]⟩] 50)) E2 #[.int .i64 ek, .int .u8 eb, .int .i64 en', .int .i64 0, .string ⟨#[]⟩] 50 := by rw [← hE]; exact Cells.new wx _ 50
  have k2 := b7.cells kA (by omega)
  have bA : Below wx.heap.size wx (wx.alloc (.cells #[.int .i64 ek, .int .u8 eb, .int .i64 en', .int .i64 0, .string ⟨#[]⟩] 50)) := (Below.refl _ wx).alloc (Nat.le_refl _) _
  have lA := hl.below bA (Nat.le_refl _)
  have l7 := lA.but b7 (hB.alloc _) ⟨by decide, by decide⟩
  have o8 : Only E2 w7 (((((w7.setCell ⟨E2, 0, none⟩ (.int .i64 ek2)).setCell ⟨E2, 1, none⟩ (.int .u8 eb2)).setCell ⟨E2, 2, none⟩ (.int .i64 en2)).setCell ⟨E2, 3, none⟩ (.int .i64 0)).setCell ⟨E2, 4, none⟩ (.string ⟨#[]⟩)) := (((((Only.refl E2 w7).setCell _ _).setCell _ _).setCell _ _).setCell _ _).setCell _ _
  have hle := hl.le
  refine ⟨k2, ⟨k7.keep (o8.block B (by omega)), l7.but (But.of_only o8) k2 ⟨by decide, by decide⟩, set5 k2 _ _ _ _ _, ?_, by omega, ?_⟩⟩
  · exact ((bel.trans (bA.mono hle)).trans (b7.below hlo (by simp; omega))).trans (o8.below (by omega))
  · rcases hc with ⟨h1, h2, h3⟩ | ⟨h1, g, h2, h3, h4⟩
    · left
      refine ⟨h1, h3, ?_⟩
      rw [h2] at hp
      exact hp
    · right
      rw [h4] at hp hg hbn hs
      exact ⟨h1, g, h2, h3, hs g (by simp), hp, hg, hbn⟩
set_option maxHeartbeats 4000000 in
theorem gather_c {B : Nat} {D : List Nat} {q : Sp} {ed : Bool} (lo : Nat) (v : Value) (ls : List (List Nat)) (rem : List Nat) (hkq : q.kn = 0) (hsg : ∀ g ∈ rem, g < 258) (hgd : Gd (decide (ls ≠ [])) rem) (hbn : Bn 1000000000 ls rem) (hlo : lo ≤ B) (w : World) (hK : Kn w B D q ed rem) (hL : Ll w lo v ls) : Calls Try.prog 12 #[.pointer (some ⟨B, 0, none⟩), v] w fun e w' => Gr lo B D q ed (po ls rem) w e w' := by
  obtain ⟨LS, hLS⟩ : ∃ LS, po ls rem = LS := ⟨_, rfl⟩
  rw [hLS]
  have hnext : ∀ (u : World) (rem : List Nat), (∀ g ∈ rem, g < 258) → Kn u B D q ed rem → ∃ (ek eb en' : Int) (ok : Bool) (rem' : List Nat), (Calls Try.prog 19 #[.pointer (some ⟨B, 0, none⟩)] u fun e w' => e = .returned (.tuple #[.agg #[.int .i64 ek, .int .u8 eb, .int .i64 en', .int .i64 0, .string ⟨#[]⟩], .bool ok]) ∧ Kn w' B D q ed rem' ∧ But B u w') ∧ ((ok = false ∧ rem = [] ∧ rem' = []) ∨ (ok = true ∧ ∃ g, ek = (evk g : Nat) ∧ eb = (evb g : Nat) ∧ rem = g :: rem')) := by
    intro u rem hs hk
    cases rem with
    | nil => exact ⟨0, 0, 0, false, [], (nx_no hk hkq).mono fun e w' k => ⟨k.1, hk.below k.2, But.of_below k.2⟩, Or.inl ⟨rfl, rfl, rfl⟩⟩
    | cons g r => exact ⟨_, _, _, true, r, nx_yes hk (hs g (by simp)), Or.inr ⟨rfl, g, rfl, rfl, rfl⟩⟩
  have AN : Aside _ := hnext
  obtain ⟨ek, eb, en', ok, rem', hn, hcase⟩ := hnext w rem hsg hK
  have hBlt := hK.lt
  obtain ⟨vs0, hvs0⟩ := hL.ex
  obtain ⟨cB, hcB⟩ := hK.cells
  obtain ⟨a0, c0, hv0, _⟩ := hL.shape
  have A : Aside (Ll w lo v ls ∧ lo ≤ B ∧ Cells w B cB 48 ∧ po ls rem = LS ∧ (∀ g ∈ rem, g < 258) ∧ Gd (decide (ls ≠ [])) rem ∧ Bn 1000000000 ls rem) := ⟨hL, hlo, hcB, hLS, hsg, hgd, hbn⟩
  have AC : Aside ((ok = false ∧ rem = [] ∧ rem' = []) ∨ (ok = true ∧ ∃ g, ek = (evk g : Nat) ∧ eb = (evb g : Nat) ∧ rem = g :: rem')) := hcase
  clear hnext hcase hL hlo hcB hLS hsg hgd hbn hK hvs0 hBlt
  obtain ⟨n0, hn0⟩ : ∃ n0, ls.length = n0 := ⟨_, rfl⟩
  rw [hn0] at hv0
  have AV : Aside (v = .slice a0 n0 c0) := hv0
  rw [hv0]
  clear hv0 hn0
  go_enter Try.func12, Try.ntmps12
  go_upto_region 2 with (go_at_call 19; refine hn.mono ?_; rintro e1 w1 ⟨rfl, k1, b1⟩)
  obtain ⟨E, hE⟩ : ∃ E, w1.heap.size = E := ⟨_, rfl⟩
  obtain ⟨w2, hw2⟩ : ∃ w2, w1.alloc (.cells #[.int .i64 ek, .int .u8 eb, .int .i64 en', .int .i64 0, .string ⟨#[]⟩] 50) = w2 := ⟨_, rfl⟩
  rw [hw2, hE]
  have bA : Below w1.heap.size w1 w2 := by rw [← hw2]; exact (Below.refl _ w1).alloc (Nat.le_refl _) _
  have a := A.out
  have l1 := a.1.but b1 a.2.2.1 ⟨by decide, by decide⟩
  have bel1 : Below lo w w1 := b1.below a.2.1 a.1.le
  have gs : Gs lo B E D q ed w w2 ek eb en' ok v ls rem' LS := by
    refine ⟨k1.below bA, l1.below bA (Nat.le_refl _), by rw [← hw2, ← hE]; exact Cells.new w1 _ 50, bel1.trans (bA.mono l1.le), by rw [← hE]; exact l1.le, ?_⟩
    have ac := AC.out
    rcases ac with ⟨h1, h2, h3⟩ | ⟨h1, g, h2, h3, h4⟩
    · refine Or.inl ⟨h1, h3, ?_⟩
      have := a.2.2.2.1
      rw [h2] at this
      exact this
    · rw [h4] at a
      exact Or.inr ⟨h1, g, h2, h3, a.2.2.2.2.1 g (by simp), a.2.2.2.1, a.2.2.2.2.2.1, a.2.2.2.2.2.2⟩
  have hsr : ∀ g ∈ rem', g < 258 := by
    intro g hg
    rcases AC.out with ⟨h1, h2, h3⟩ | ⟨h1, g2, h2, h3, h4⟩
    · rw [h3] at hg; simp at hg
    · exact a.2.2.2.2.1 g (by rw [h4]; simp [hg])
  have hn0 : n0 = ls.length := by
    obtain ⟨a9, c9, h9, _⟩ := a.1.shape
    rw [AV.out] at h9
    injection h9
  have AG : Aside (Gs lo B E D q ed w w2 ek eb en' ok v ls rem' LS ∧ (∀ g ∈ rem', g < 258) ∧ n0 = ls.length) := ⟨gs, hsr, hn0⟩
  clear gs hsr l1 bel1 bA hE hw2 a k1 b1 hn hn0
  go_loopg [1, 5, 6] (rem'.length + ok.toNat) (fun gg s1 s5 s6 wr => ∃ (E : Nat) (ok : Bool) (a : Option Addr) (n c : Nat), s1 = .slice a n c ∧ s5 = .pointer (some ⟨E, 0, none⟩) ∧ s6 = .bool ok ∧ Aside (∃ ek eb en' ls rem, Gs lo B E D q ed w wr ek eb en' ok (.slice a n c) ls rem LS ∧ (∀ g ∈ rem, g < 258) ∧ gg = rem.length + ok.toNat ∧ n = ls.length))
  case atStart => exact ⟨E, ok, a0, n0, c0, rfl, rfl, rfl, ⟨ek, eb, en', ls, rem', by rw [← AV.out]; exact AG.out.1, AG.out.2.1, rfl, AG.out.2.2⟩⟩
  case round =>
    clear AG AV AC
    obtain ⟨E, ok, ax, n, c, rfl, rfl, rfl, hT⟩ := hrel
    obtain ⟨ek, eb, en', ls, rem, gs, hsr, hgk, hnl⟩ := hT.out
    cases ok with
    | false =>
      have hst : rem = [] ∧ ls = LS := by
        rcases gs.st with ⟨_, h1, h2⟩ | ⟨h1, _⟩
        · exact ⟨h1, h2⟩
        · cases h1
      obtain ⟨rfl, rfl⟩ := hst
      have A3 : Aside (Ll wr lo (.slice ax n c) ls ∧ Sm wr B D q 0 ed ∧ Below lo w wr) := ⟨gs.ll, gs.kn.done, gs.bel⟩
      clear hT gs hsr hgk hnl
      go_wp2_with fail
      first | go_ret | go_ret2
      exact ⟨⟨_, rfl, A3.out.1, A3.out.2.1, A3.out.2.2⟩⟩
    | true =>
      obtain ⟨g, hek, heb, hg258, hpo, hGd, hBn⟩ : ∃ g, ek = (evk g : Nat) ∧ eb = (evb g : Nat) ∧ g < 258 ∧ po ls (g :: rem) = LS ∧ Gd (decide (ls ≠ [])) (g :: rem) ∧ Bn 1000000000 ls (g :: rem) := by
        rcases gs.st with ⟨h1, _⟩ | ⟨_, h⟩
        · cases h1
        · exact h
      have c0 := gs.ev.cell 0
      have c1 := gs.ev.cell 1
      obtain ⟨cB, hcB⟩ := gs.kn.cells
      by_cases h256 : g = 256
      · subst h256
        have ek1 : ek = 1 := by rw [hek]; rfl
        subst ek1
        obtain ⟨vs, hv1, hv2, hv3, hv4⟩ := gs.ll.ex
        obtain ⟨H, hH⟩ : ∃ H, wr.heap.size = H := ⟨_, rfl⟩
        have bA : Below wr.heap.size wr (wr.alloc (.cells #[.slice none 0 0] 23)) := (Below.refl _ wr).alloc (Nat.le_refl _) _
        have howA := hv2.below bA (Nat.le_refl _)
        rw [← hnl] at howA
        have hlA := gs.ll.below bA (Nat.le_refl _)
        have hcA : (wr.alloc (.cells #[.slice none 0 0] 23)).cell? ⟨H, 0, none⟩ = some (.slice none 0 0) := by rw [← hH, (Cells.new wr #[.slice none 0 0] 23).cell 0]; rfl
        have hlz : ([.slice none 0 0] : List Value) = [] ∨ ∃ b o, (some ⟨H, 0, none⟩ : Option Addr) = some ⟨b, o, none⟩ ∧ ∀ i u, ([.slice none 0 0] : List Value)[i]? = some u → (wr.alloc (.cells #[.slice none 0 0] 23)).cell? ⟨b, o + i, none⟩ = some u := Or.inr ⟨H, 0, rfl, fun i u hu => by
          cases i with
          | zero => simp at hu; rw [← hu]; exact hcA
          | succ i => simp at hu⟩
        have h1c : ∀ u ∈ ([.slice none 0 0] : List Value), u.oneCell' = true := fun u hu => by simp at hu; subst hu; rfl
        obtain ⟨i0, hi, hz0, hz1, hz2⟩ := ginfo_parts ginfo22
        have hAm : Aside (n + 1 ≤ maxLen ∧ (n + 1) * 24 ≤ 140737488355328) := by
          have h9 := hBn.all
          simp at h9
          exact ⟨by unfold maxLen; omega, by omega⟩
        obtain ⟨lsx, hlsx⟩ : ∃ lsx, lsx = ls ++ [[]] := ⟨_, rfl⟩
        have hT0 : ∀ (a5 : Option Addr) (c5 : Nat) (w5 : World), Got lo 23 1 (wr.alloc (.cells #[.slice none 0 0] 23)) w5 (.slice ax n c) (.slice a5 (n + 1) c5) (n + 1) (vs ++ [.slice none 0 0]) → Aside (Ll w5 lo (.slice a5 (n + 1) c5) lsx ∧ Kn w5 B D q ed rem ∧ Cells w5 B cB 48 ∧ Cells w5 E #[.int .i64 1, .int .u8 eb, .int .i64 en', .int .i64 0, .string ⟨#[]⟩] 50 ∧ Below lo w w5 ∧ po lsx rem = LS ∧ Gd (decide (lsx ≠ [])) rem ∧ Bn 1000000000 lsx rem ∧ (∀ g ∈ rem, g < 258) ∧ gk = rem.length + true.toNat ∧ (n + 1) = lsx.length) := fun a5 c5 w5 hgot => by
          refine ⟨?_, (gs.kn.below bA).got hgot (by decide), (hcB.alloc _).got hgot (by decide), (gs.ev.alloc _).got hgot (by decide), (gs.bel.trans (bA.mono gs.ll.le)).trans hgot.bel, ?_, ?_, ?_, hsr, hgk, ?_⟩
          · rw [hlsx]
            have hlA2 := hlA
            rw [hnl] at hgot hlA2 ⊢
            exact hlA2.open_ vs hgot hv1 (fun i a l h5 h6 => (hv3 i a l h5 h6).below bA (Nat.le_refl _))
          · rw [hlsx]; simpa [po] using hpo
          · rw [hlsx]; simpa [Gd] using hGd
          · rw [hlsx]; exact hBn.open_
          · rw [hlsx, hnl]; simp
        have AT : Aside _ := hT0
        clear hT gs hsr hgk hpo hGd hBn hcB hek heb hg258 hv1 hv2 hv3 hv4 bA hlA hcA hlsx hT0 hnl
        go_upto_region 10 with (at_builtin; refine wpList_ow Try.prog _ rfl (.tmp 23) (.tmp 24) 22 rfl 23 i0 _ 1 24 Try.underlying22 hi hz0 hz1 hz2 rfl (by decide) lo (.slice ax n c) n _ (by rfl) howA (some ⟨H, 0, none⟩) [.slice none 0 0] 1 1 rfl (by rfl) (by intro h; cases h) hlz h1c hAm.out.1 hAm.out.2 ?_; intro v5 w5 hgot; obtain ⟨a5, c5, hv5, _⟩ := hgot.ow.shape; subst hv5)
        have T0 := AT.out a5 c5 w5 hgot
        clear hgot howA hlz h1c hi hz0 hz1 hz2 hH c0 c1
        obtain ⟨E2, hE2⟩ : ∃ E2, w5.heap.size = E2 := ⟨_, rfl⟩
        obtain ⟨wa, hwa⟩ : ∃ wa, w5.alloc (.cells #[.int .i64 1, .int .u8 eb, .int .i64 en', .int .i64 0, .string ⟨#[]⟩] 50) = wa := ⟨_, rfl⟩
        have t0 := T0.out
        have d0 := t0.2.2.2.1.cell 0
        have d1 := t0.2.2.2.1.cell 1
        have d2 := t0.2.2.2.1.cell 2
        have d3 := t0.2.2.2.1.cell 3
        have d4 := t0.2.2.2.1.cell 4
        obtain ⟨ek2, eb2, en2, ok2, rem2, hn2, hc2⟩ := AN.out wa rem t0.2.2.2.2.2.2.2.2.1 (t0.2.1.below (by rw [← hwa]; exact (Below.refl _ w5).alloc (Nat.le_refl _) _))
        have hfin : ∀ w7, Kn w7 B D q ed rem2 → But B wa w7 → Cells w7 E2 #[.int .i64 1, .int .u8 eb, .int .i64 en', .int .i64 0, .string ⟨#[]⟩] 50 ∧ Gs lo B E2 D q ed w (((((w7.setCell ⟨E2, 0, none⟩ (.int .i64 ek2)).setCell ⟨E2, 1, none⟩ (.int .u8 eb2)).setCell ⟨E2, 2, none⟩ (.int .i64 en2)).setCell ⟨E2, 3, none⟩ (.int .i64 0)).setCell ⟨E2, 4, none⟩ (.string ⟨#[]⟩)) ek2 eb2 en2 ok2 (.slice a5 (n + 1) c5) lsx rem2 LS := fun w7 k7 b7 => by
          rw [← hwa] at b7
          exact Gs.next t0.1 t0.2.2.1 A.out.2.1 t0.2.2.2.2.1 hE2 k7 b7 t0.2.2.2.2.2.1 t0.2.2.2.2.2.2.1 t0.2.2.2.2.2.2.2.1 t0.2.2.2.2.2.2.2.2.1 hc2
        have AF : Aside _ := hfin
        have hmeas : rem2.length + ok2.toNat < gk := by
          rw [t0.2.2.2.2.2.2.2.2.2.1]
          rcases hc2 with ⟨h1, h2, h3⟩ | ⟨h1, g', _, _, h4⟩
          · rw [h1, h3]; simp
          · rw [h1, h4]; simp
        have hs2 : ∀ g ∈ rem2, g < 258 := by
          intro g' hg'
          rcases hc2 with ⟨h1, h2, h3⟩ | ⟨h1, g'', _, _, h4⟩
          · rw [h3] at hg'; simp at hg'
          · exact t0.2.2.2.2.2.2.2.2.1 g' (by rw [h4]; simp [hg'])
        have AM : Aside (rem2.length + ok2.toNat < gk ∧ (∀ g ∈ rem2, g < 258) ∧ (n + 1) = lsx.length) := ⟨hmeas, hs2, t0.2.2.2.2.2.2.2.2.2.2⟩
        have AWa : Aside _ := hwa
        clear t0 hc2 hfin hmeas hs2 hwa
        go_upto_region 3 with fail
        rw [AWa.out]
        clear hE2 d0 d1 d2 d3 d4
        go_wp2_with (go_at_call 19; refine hn2.mono ?_; rintro e7 w7 ⟨rfl, k7, b7⟩; have kk := (AF.out w7 k7 b7).1; have g0 := kk.cell 0; have g1 := kk.cell 1; have g2 := kk.cell 2; have g3 := kk.cell 3; have g4 := kk.cell 4; have z0 := kk.frozen 0; have z1 := kk.frozen 1; have z2 := kk.frozen 2; have z3 := kk.frozen 3; have z4 := kk.frozen 4)
        have am := AM.out
        go_roundg (rem2.length + ok2.toNat)
        case measure => exact am.1
        case rel => exact ⟨E2, ok2, a5, (n + 1), c5, rfl, rfl, rfl, ⟨ek2, eb2, en2, lsx, rem2, (AF.out w7 k7 b7).2, am.2.1, rfl, am.2.2⟩⟩
      · by_cases h257 : g = 257
        · subst h257
          have ek3 : ek = 3 := by rw [hek]; rfl
          subst ek3
          obtain ⟨lsx, hlsx⟩ : ∃ lsx, lsx = ls := ⟨_, rfl⟩
          subst hlsx
          obtain ⟨ek, hek'⟩ : ∃ ek : Int, ek = 3 := ⟨_, rfl⟩
          have T0 : Aside (Ll wr lo (.slice ax n c) lsx ∧ Kn wr B D q ed rem ∧ Cells wr B cB 48 ∧ Cells wr E #[.int .i64 3, .int .u8 eb, .int .i64 en', .int .i64 0, .string ⟨#[]⟩] 50 ∧ Below lo w wr ∧ po lsx rem = LS ∧ Gd (decide (lsx ≠ [])) rem ∧ Bn 1000000000 lsx rem ∧ (∀ g ∈ rem, g < 258) ∧ gk = rem.length + true.toNat ∧ n = lsx.length) := ⟨gs.ll, gs.kn, hcB, gs.ev, gs.bel, by simpa [po] using hpo, by simpa [Gd] using hGd, hBn.close, hsr, hgk, hnl⟩
          clear hT gs hsr hgk hnl hpo hGd hBn hcB hek heb hg258 h256 hek'
          obtain ⟨E2, hE2⟩ : ∃ E2, wr.heap.size = E2 := ⟨_, rfl⟩
          obtain ⟨wa, hwa⟩ : ∃ wa, wr.alloc (.cells #[.int .i64 3, .int .u8 eb, .int .i64 en', .int .i64 0, .string ⟨#[]⟩] 50) = wa := ⟨_, rfl⟩
          have t0 := T0.out
          have d0 := t0.2.2.2.1.cell 0
          have d1 := t0.2.2.2.1.cell 1
          have d2 := t0.2.2.2.1.cell 2
          have d3 := t0.2.2.2.1.cell 3
          have d4 := t0.2.2.2.1.cell 4
          obtain ⟨ek2, eb2, en2, ok2, rem2, hn2, hc2⟩ := AN.out wa rem t0.2.2.2.2.2.2.2.2.1 (t0.2.1.below (by rw [← hwa]; exact (Below.refl _ wr).alloc (Nat.le_refl _) _))
          have hfin : ∀ w7, Kn w7 B D q ed rem2 → But B wa w7 → Cells w7 E2 #[.int .i64 3, .int .u8 eb, .int .i64 en', .int .i64 0, .string ⟨#[]⟩] 50 ∧ Gs lo B E2 D q ed w (((((w7.setCell ⟨E2, 0, none⟩ (.int .i64 ek2)).setCell ⟨E2, 1, none⟩ (.int .u8 eb2)).setCell ⟨E2, 2, none⟩ (.int .i64 en2)).setCell ⟨E2, 3, none⟩ (.int .i64 0)).setCell ⟨E2, 4, none⟩ (.string ⟨#[]⟩)) ek2 eb2 en2 ok2 (.slice ax n c) lsx rem2 LS := fun w7 k7 b7 => by
            rw [← hwa] at b7
            exact Gs.next t0.1 t0.2.2.1 A.out.2.1 t0.2.2.2.2.1 hE2 k7 b7 t0.2.2.2.2.2.1 t0.2.2.2.2.2.2.1 t0.2.2.2.2.2.2.2.1 t0.2.2.2.2.2.2.2.2.1 hc2
          have AF : Aside _ := hfin
          have hmeas : rem2.length + ok2.toNat < gk := by
            rw [t0.2.2.2.2.2.2.2.2.2.1]
            rcases hc2 with ⟨h1, h2, h3⟩ | ⟨h1, g', _, _, h4⟩
            · rw [h1, h3]; simp
            · rw [h1, h4]; simp
          have hs2 : ∀ g ∈ rem2, g < 258 := by
            intro g' hg'
            rcases hc2 with ⟨h1, h2, h3⟩ | ⟨h1, g'', _, _, h4⟩
            · rw [h3] at hg'; simp at hg'
            · exact t0.2.2.2.2.2.2.2.2.1 g' (by rw [h4]; simp [hg'])
          have AM : Aside (rem2.length + ok2.toNat < gk ∧ (∀ g ∈ rem2, g < 258) ∧ n = lsx.length) := ⟨hmeas, hs2, t0.2.2.2.2.2.2.2.2.2.2⟩
          have AWa : Aside _ := hwa
          clear t0 hc2 hfin hmeas hs2 hwa
          go_upto_region 3 with fail
          rw [AWa.out]
          clear hE2 d0 d1 d2 d3 d4
          go_wp2_with (go_at_call 19; refine hn2.mono ?_; rintro e7 w7 ⟨rfl, k7, b7⟩; have kk := (AF.out w7 k7 b7).1; have g0 := kk.cell 0; have g1 := kk.cell 1; have g2 := kk.cell 2; have g3 := kk.cell 3; have g4 := kk.cell 4; have z0 := kk.frozen 0; have z1 := kk.frozen 1; have z2 := kk.frozen 2; have z3 := kk.frozen 3; have z4 := kk.frozen 4)
          have am := AM.out
          go_roundg (rem2.length + ok2.toNat)
          case measure => exact am.1
          case rel => exact ⟨E2, ok2, ax, n, c, rfl, rfl, rfl, ⟨ek2, eb2, en2, lsx, rem2, (AF.out w7 k7 b7).2, am.2.1, rfl, am.2.2⟩⟩
        · have hkk : evk g = 2 := by simp [evk, h256, h257]
          have hbb : evb g = g := by simp [evb, h256, h257]
          rw [hkk] at hek
          rw [hbb] at heb
          have ek2' : ek = 2 := hek
          subst ek2'
          subst heb
          have hGd2 : decide (ls ≠ []) = true ∧ Gd (decide (ls ≠ [])) rem := by simpa only [Gd, if_neg h256, if_neg h257] using hGd
          have hne : ls ≠ [] := by simpa using hGd2.1
          obtain ⟨m, hm⟩ : ∃ m, n = m + 1 := ⟨n - 1, by have := List.length_pos_iff.2 hne; omega⟩
          subst hm
          obtain ⟨l, hl⟩ : ∃ l, ls[m]? = some l := ⟨_, List.getElem?_eq_getElem (by omega)⟩
          obtain ⟨vs, hv1, hv2, hv3, hv4⟩ := gs.ll.ex
          rw [← hnl] at hv1 hv2
          obtain ⟨av, hav⟩ : ∃ av, vs[m]? = some av := ⟨_, List.getElem?_eq_getElem (by omega)⟩
          have hsh := hv2.shape
          obtain ⟨a9, c9, h9, _, h10 | ⟨gb, h10, _, ⟨cgb, hcgb⟩, h11, h12⟩, _⟩ := hsh
          · omega
          cases h9
          subst h10
          have cel := h11 m av hav
          have fel := h12 m
          have hoi := hv3 m av l hav hl
          obtain ⟨a6, c6, hv6, _⟩ := hoi.shape
          obtain ⟨k6, hk6⟩ : ∃ k6, l.length = k6 := ⟨_, rfl⟩
          rw [hk6] at hv6 hoi
          subst hv6
          obtain ⟨H, hH⟩ : ∃ H, wr.heap.size = H := ⟨_, rfl⟩
          obtain ⟨wA, hwA⟩ : ∃ wA, (wr.alloc (.cells #[.int .u8 (g : Int)] 5)).drew = wA := ⟨_, rfl⟩
          have bA : Below wr.heap.size wr wA := by rw [← hwA]; exact ((Below.refl _ wr).alloc (Nat.le_refl _) _).drew
          have hoiA := hoi.below bA (Nat.le_refl _)
          have hbyteA : wA.cell? ⟨H, 0, none⟩ = some (.int .u8 (g : Int)) := by rw [← hwA, ← hH]; exact ((Cells.new wr #[.int .u8 (g : Int)] 5).drew).cell 0
          have celA : (wr.alloc (.cells #[.int .u8 (g : Int)] 5)).cell? ⟨gb, m, none⟩ = some (.slice a6 k6 c6) := by
            have hlt : gb < wr.heap.size := (Array.getElem?_eq_some_iff.1 hcgb).1
            have := (((Below.refl _ wr).alloc (Nat.le_refl _) (.cells #[.int .u8 (g : Int)] 5)).cell (p := ⟨gb, m, none⟩) hlt)
            rw [this]; exact cel
          have c1A : (wr.alloc (.cells #[.int .u8 (g : Int)] 5)).cell? ⟨E, 1, none⟩ = some (.int .u8 (g : Int)) := by rw [(gs.ev.alloc _).cell]; rfl
          have hlen9 := hBn.each l (List.mem_of_getElem? hl)
          have hAm : Aside (k6 + 1 ≤ 140737488355328 ∧ l.length = k6) := by
            simp at hlen9
            exact ⟨by omega, hk6⟩
          obtain ⟨lsx, hlsx⟩ : ∃ lsx, lsx = ls.dropLast ++ [l ++ [g]] := ⟨_, rfl⟩
          have hlastl : ls.getLastD [] = l := by
            rw [List.getLastD_eq_getLast?, List.getLast?_eq_getElem?, ← hnl, Nat.add_sub_cancel, hl]; rfl
          have hT0 : ∀ (g5 c5 : Nat) (w5 : World), Gob lo wA w5 (.slice a6 k6 c6) (.slice (some ⟨g5, 0, none⟩) (k6 + 1) c5) (k6 + 1) (l ++ [g]) → (w5.cell? ⟨gb, m, none⟩ = some (.slice a6 k6 c6) ∧ w5.frozen? ⟨gb, m, none⟩ = false) ∧ Aside (Ll (w5.setCell ⟨gb, m, none⟩ (.slice (some ⟨g5, 0, none⟩) (k6 + 1) c5)) lo (.slice (some ⟨gb, 0, none⟩) (m + 1) c) lsx ∧ Kn (w5.setCell ⟨gb, m, none⟩ (.slice (some ⟨g5, 0, none⟩) (k6 + 1) c5)) B D q ed rem ∧ Cells (w5.setCell ⟨gb, m, none⟩ (.slice (some ⟨g5, 0, none⟩) (k6 + 1) c5)) B cB 48 ∧ Cells (w5.setCell ⟨gb, m, none⟩ (.slice (some ⟨g5, 0, none⟩) (k6 + 1) c5)) E #[.int .i64 2, .int .u8 (g : Int), .int .i64 en', .int .i64 0, .string ⟨#[]⟩] 50 ∧ Below lo w (w5.setCell ⟨gb, m, none⟩ (.slice (some ⟨g5, 0, none⟩) (k6 + 1) c5)) ∧ po lsx rem = LS ∧ Gd (decide (lsx ≠ [])) rem ∧ Bn 1000000000 lsx rem ∧ (∀ g ∈ rem, g < 258) ∧ gk = rem.length + true.toNat ∧ (m + 1) = lsx.length) := fun g5 c5 w5 hgob => by
            have hv2A := hv2.below bA (Nat.le_refl _)
            have hv2u := hv2A.got hgob.got (by decide)
            have hcg5 : ∃ cs, w5.heap[gb]? = some (.cells cs 23 (0, 0)) := by
              rcases hv2u.own.2 with ⟨hv, h0⟩ | ⟨g', c', cur, hv, hg, hh, _⟩
              · cases hv
              · cases hv; exact ⟨_, hh⟩
            obtain ⟨cg, hcg⟩ := hcg5
            obtain ⟨a9, c9, h9, _, h10 | ⟨gb', h10, _, _, h11', h12'⟩, _⟩ := hv2u.shape
            · omega
            cases h9
            cases h10
            have o6 : Only gb w5 (w5.setCell ⟨gb, m, none⟩ (.slice (some ⟨g5, 0, none⟩) (k6 + 1) c5)) := (Only.refl gb w5).setCell _ _
            have kn5 := (gs.kn.below bA).got hgob.got (by decide)
            have hB5 := (hcB.below bA hcB.lt).got hgob.got (by decide)
            have hE5 := (gs.ev.below bA gs.ev.lt).got hgob.got (by decide)
            have hBne : B ≠ gb := fun e => by subst e; unfold Cells at hB5; rw [hB5] at hcg; cases hcg
            have hEne : E ≠ gb := fun e => by subst e; unfold Cells at hE5; rw [hE5] at hcg; cases hcg
            have hlogb : lo ≤ gb := by
              rcases hv2u.own.2 with ⟨hv, h0⟩ | ⟨g', c', cur, hv, hg, hh, _⟩
              · cases hv
              · cases hv; exact hg
            refine ⟨⟨h11' m _ hav, h12' m⟩, ?_, kn5.keep (o6.block B hBne), hB5.only o6 hBne, hE5.only o6 hEne, ((gs.bel.trans (bA.mono gs.ll.le)).trans hgob.got.bel).trans (o6.below hlogb), ?_, ?_, ?_, hsr, hgk, ?_⟩
            · rw [hlsx]
              have hllA := gs.ll.below bA (Nat.le_refl _)
              have hg2 : Gob lo wA w5 (.slice a6 k6 c6) (.slice (some ⟨g5, 0, none⟩) (k6 + 1) c5) (l.length + 1) (l ++ [g]) := by rw [hk6]; exact hgob
              exact Ll.byte hllA hnl.symm hv1 hl hv2A (fun i a l' h5 h6 => (hv3 i a l' h5 h6).below bA (Nat.le_refl _)) hv4 hav hg2 rfl
            · rw [hlsx, ← hpo]; simp only [po, if_neg h256, if_neg h257, hlastl]
            · rw [hlsx]
              have : decide (ls.dropLast ++ [l ++ [g]] ≠ []) = true := by simp
              rw [this]
              have h5 := hGd2.2
              rw [hGd2.1] at h5
              exact h5
            · rw [hlsx]; exact hBn.byte (List.mem_of_getElem? hl)
            · rw [hlsx]; simp; omega
          have AT : Aside _ := hT0
          have hm1 : ((m : Int) + 1) - 1 = (m : Int) := by omega
          have bm : (m : Int) < 2000000000 := by have := hBn.all; simp at this; omega
          rw [← hwA] at hoiA hbyteA AT
          have b1 : ((m : Int) < (m : Int) + 1) = True := eq_true (by omega)
          clear hT gs hsr hgk hpo hGd hBn hcB hek hg258 hv1 hv2 hv3 hv4 bA hlsx hT0 hnl hlen9 hlastl h11 h12 hoi hGd2 hne hl hav hkk hbb hcgb hwA hk6
          go_upto_region 9 with fail
          go_region_law (refine step_gob rfl (.tmp 36) (.tmp 39) rfl lo (.slice a6 k6 c6) k6 l (by go_simp) hoiA hAm.out.2 H 1 g (by go_simp) hbyteA hAm.out.1 ?_; intro g5 c5 w5 hgob; have e4 := (AT.out g5 c5 w5 hgob).1.1; have f4 := (AT.out g5 c5 w5 hgob).1.2)
          all_goals
            have T0 := (AT.out g5 c5 w5 hgob).2
            obtain ⟨wx, hwx⟩ : ∃ wx, w5.setCell ⟨gb, m, none⟩ (.slice (some ⟨g5, 0, none⟩) (k6 + 1) c5) = wx := ⟨_, rfl⟩
            go_upto_region 10 with fail
            (try rw [hwx])
            rw [hwx] at T0
            clear hgob hoiA hbyteA hH c0 c1 cel fel celA c1A e4 f4 hwx
            obtain ⟨E2, hE2⟩ : ∃ E2, wx.heap.size = E2 := ⟨_, rfl⟩
            obtain ⟨wa, hwa⟩ : ∃ wa, wx.alloc (.cells #[.int .i64 2, .int .u8 (g : Int), .int .i64 en', .int .i64 0, .string ⟨#[]⟩] 50) = wa := ⟨_, rfl⟩
            have t0 := T0.out
            have d0 := t0.2.2.2.1.cell 0
            have d1 := t0.2.2.2.1.cell 1
            have d2 := t0.2.2.2.1.cell 2
            have d3 := t0.2.2.2.1.cell 3
            have d4 := t0.2.2.2.1.cell 4
            obtain ⟨ek2, eb2, en2, ok2, rem2, hn2, hc2⟩ := AN.out wa rem t0.2.2.2.2.2.2.2.2.1 (t0.2.1.below (by rw [← hwa]; exact (Below.refl _ wx).alloc (Nat.le_refl _) _))
            have hfin : ∀ w7, Kn w7 B D q ed rem2 → But B wa w7 → Cells w7 E2 #[.int .i64 2, .int .u8 (g : Int), .int .i64 en', .int .i64 0, .string ⟨#[]⟩] 50 ∧ Gs lo B E2 D q ed w (((((w7.setCell ⟨E2, 0, none⟩ (.int .i64 ek2)).setCell ⟨E2, 1, none⟩ (.int .u8 eb2)).setCell ⟨E2, 2, none⟩ (.int .i64 en2)).setCell ⟨E2, 3, none⟩ (.int .i64 0)).setCell ⟨E2, 4, none⟩ (.string ⟨#[]⟩)) ek2 eb2 en2 ok2 (.slice (some ⟨gb, 0, none⟩) (m + 1) c) lsx rem2 LS := fun w7 k7 b7 => by
              rw [← hwa] at b7
              exact Gs.next t0.1 t0.2.2.1 A.out.2.1 t0.2.2.2.2.1 hE2 k7 b7 t0.2.2.2.2.2.1 t0.2.2.2.2.2.2.1 t0.2.2.2.2.2.2.2.1 t0.2.2.2.2.2.2.2.2.1 hc2
            have AF : Aside _ := hfin
            have hmeas : rem2.length + ok2.toNat < gk := by
              rw [t0.2.2.2.2.2.2.2.2.2.1]
              rcases hc2 with ⟨h1, h2, h3⟩ | ⟨h1, g', _, _, h4⟩
              · rw [h1, h3]; simp
              · rw [h1, h4]; simp
            have hs2 : ∀ g ∈ rem2, g < 258 := by
              intro g' hg'
              rcases hc2 with ⟨h1, h2, h3⟩ | ⟨h1, g'', _, _, h4⟩
              · rw [h3] at hg'; simp at hg'
              · exact t0.2.2.2.2.2.2.2.2.1 g' (by rw [h4]; simp [hg'])
            have AM : Aside (rem2.length + ok2.toNat < gk ∧ (∀ g ∈ rem2, g < 258) ∧ (m + 1) = lsx.length) := ⟨hmeas, hs2, t0.2.2.2.2.2.2.2.2.2.2⟩
            have AWa : Aside _ := hwa
            clear t0 hc2 hfin hmeas hs2 hwa
            go_upto_region 3 with fail
            rw [AWa.out]
            clear hE2 d0 d1 d2 d3 d4
            go_wp2_with (go_at_call 19; refine hn2.mono ?_; rintro e7 w7 ⟨rfl, k7, b7⟩; have kk := (AF.out w7 k7 b7).1; have g0 := kk.cell 0; have g1 := kk.cell 1; have g2 := kk.cell 2; have g3 := kk.cell 3; have g4 := kk.cell 4; have z0 := kk.frozen 0; have z1 := kk.frozen 1; have z2 := kk.frozen 2; have z3 := kk.frozen 3; have z4 := kk.frozen 4)
            have am := AM.out
            go_roundg (rem2.length + ok2.toNat)
            case measure => exact am.1
            case rel => exact ⟨E2, ok2, (some ⟨gb, 0, none⟩), (m + 1), c, rfl, rfl, rfl, ⟨ek2, eb2, en2, lsx, rem2, (AF.out w7 k7 b7).2, am.2.1, rfl, am.2.2⟩⟩
end Go.Proofs.Ytbndohpcaahenab

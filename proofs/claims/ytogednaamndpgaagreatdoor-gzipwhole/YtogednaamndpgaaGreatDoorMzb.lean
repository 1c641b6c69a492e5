/-
  Own texts of this seat, one behind the other: what each says stands ahead of it.
-/
import Derived.Test.YtogednaamndpgaaGreatDoorMza
import Derived.Test.YtogednaamndpgaaGreatDoorMt
import Derived.Test.YtogednaamndpgaaGreatDoorMy
/-
  What the document's Parts comes to.
-/
namespace Go.Proofs.YtogednaamndpgaaGreatDoor
open Go.RowKit
set_option linter.unusedVariables false
/-- Timed events in memory. -/
def Te (w : World) (a : Option Addr) (T : List Gev) : Prop := T = [] ∨ ∃ g o, a = some ⟨g, o, none⟩ ∧ ∀ (i : Nat) (p : Gev), T[i]? = some p → w.cell? ⟨g, o + i * 6, none⟩ = some (.int .i64 (p.1 : Nat)) ∧ w.cell? ⟨g, o + i * 6 + 1, none⟩ = some (.int .i64 (gk1 p.2.1)) ∧ w.cell? ⟨g, o + i * 6 + 2, none⟩ = some (.int .u8 (gk2 p.2.1)) ∧ w.cell? ⟨g, o + i * 6 + 3, none⟩ = some (.int .i64 (gk3 p.2.1)) ∧ w.cell? ⟨g, o + i * 6 + 4, none⟩ = some (.int .i64 0) ∧ w.cell? ⟨g, o + i * 6 + 5, none⟩ = some (.string (st p.2.2))
theorem Te.below {w u : World} {a : Option Addr} {T : List Gev} (h : Te w a T) (k : Below w.heap.size w u) : Te u a T := by
  rcases h with h | ⟨g, o, ha, hx⟩
  · exact Or.inl h
  · refine Or.inr ⟨g, o, ha, fun i p hp => ?_⟩
    obtain ⟨h0, h1, h2, h3, h4, h5⟩ := hx i p hp
    have f : ∀ {q : Addr} {v : Value}, w.cell? q = some v → u.cell? q = some v := fun {q v} hq => (k.cell (p := q) (World.block_lt_of_cell? w _ hq)).trans hq
    exact ⟨f h0, f h1, f h2, f h3, f h4, f h5⟩
theorem gcs_at {T : List Gev} {i : Nat} {p : Gev} (hp : T[i]? = some p) (j : Nat) (hj : j < 6) : (gcs T)[i * 6 + j]? = (gcs [p])[j]? := by
  have e : T = T.take i ++ p :: T.drop (i + 1) := by
    have h := (List.getElem?_eq_some_iff.1 hp)
    obtain ⟨h1, h2⟩ := h
    rw [← h2, ← List.drop_eq_getElem_cons h1, List.take_append_drop]
  have hl : (T.take i).length = i := by rw [List.length_take]; have := (List.getElem?_eq_some_iff.1 hp).1; omega
  rw [e, gcs_app, List.getElem?_append_right (by rw [gcs_length, hl]; omega), gcs_length, hl, show p :: T.drop (i + 1) = [p] ++ T.drop (i + 1) from rfl, gcs_app, List.getElem?_append_left (by rw [gcs_length]; simp; omega)]
  congr 1
  omega
theorem te_of {w : World} {lo : Nat} {v : Value} {T : List Gev} (h : Ow w lo 59 6 v T.length (gcs T)) : ∃ a c, v = .slice a T.length c ∧ Te w a T ∧ T.length ≤ c := by
  obtain ⟨a, c, hv, hc, h0 | ⟨g, hg, _, _, hx, _⟩, _⟩ := h.shape
  · exact ⟨a, c, hv, Or.inl (List.eq_nil_of_length_eq_zero h0), hc⟩
  · refine ⟨a, c, hv, Or.inr ⟨g, 0, hg, fun i p hp => ?_⟩, hc⟩
    have f : ∀ j, j < 6 → ∀ u, (gcs [p])[j]? = some u → w.cell? ⟨g, 0 + i * 6 + j, none⟩ = some u := fun j hj u hu => by
      rw [Nat.zero_add]
      exact hx _ _ (by rw [gcs_at hp j hj]; exact hu)
    exact ⟨f 0 (by decide) _ rfl, f 1 (by decide) _ rfl, f 2 (by decide) _ rfl, f 3 (by decide) _ rfl, f 4 (by decide) _ rfl, f 5 (by decide) _ rfl⟩
/-- What Parts answers. -/
structure Pr (lo : Nat) (w : World) (LS : List (List Nat)) (e : Ending) (w' : World) : Prop where
  ex : ∃ a n c, e = .returned (.slice a n c) ∧ Ll w' lo (.slice a n c) LS ∧ n = LS.length ∧ Below lo w w'
/-- Where the loop stands. -/
structure Pq (lo : Nat) (w wr : World) (v : Value) (ls : List (List Nat)) (rem : List Nat) (LS : List (List Nat)) : Prop where
  ll : Ll wr lo v ls
  bel : Below lo w wr
  po' : po ls rem = LS
  gd : Gd (decide (ls ≠ [])) rem
  bn : Bn 200000000000 ls rem
set_option maxHeartbeats 2000000 in
theorem parts_c (w : World) (a : Option Addr) (T : List Gev) (N c : Nat) (hN : T.length = N) (hT : Te w a T) (hsg : ∀ g ∈ cds T, g < 258) (hgd : Gd false (cds T)) (hbn : Bn 200000000000 [] (cds T)) : Calls Tryz.prog 11 #[.slice a N c] w fun e w' => Pr w.heap.size w (po [] (cds T)) e w' := by
  obtain ⟨LS, hLS⟩ : ∃ LS, po [] (cds T) = LS := ⟨_, rfl⟩
  rw [hLS]
  obtain ⟨lo, hlo⟩ : ∃ lo, w.heap.size = lo := ⟨_, rfl⟩
  rw [hlo]
  have hTT : ∀ u, Below lo w u → Te u a T := fun u hu => hT.below (by rw [hlo]; exact hu)
  have hNb : N ≤ 200000000000 := by have := hbn.all; simp [cds] at this; omega
  have A : Aside (T.length = N ∧ (∀ u, Below lo w u → Te u a T) ∧ (∀ g ∈ cds T, g < 258) ∧ N ≤ 200000000000) := ⟨hN, hTT, hsg, hNb⟩
  have A0 : Aside (Pq lo w w (.slice none 0 0) [] (cds T) LS) := ⟨Ll.nil (by omega), Below.refl _ _, hLS, hgd, hbn⟩
  clear hN hTT hsg hgd hbn hT hLS hlo hNb
  go_enter Tryz.func11, Tryz.ntmps11
  go_wp2_with fail
  go_loopg [3, 4] N (fun gg s3 s4 wr => ∃ (i : Nat) (ax : Option Addr) (n cx : Nat), s3 = .slice ax n cx ∧ s4 = .int .i64 (i : Int) ∧ Aside (i + gg = N ∧ ∃ ls, Pq lo w wr (.slice ax n cx) ls ((cds T).drop i) LS ∧ n = ls.length))
  case atStart => exact ⟨0, none, 0, 0, rfl, rfl, ⟨by omega, [], by simpa using A0.out, rfl⟩⟩
  case round =>
    obtain ⟨i, ax, n, cx, rfl, rfl, hT⟩ := hrel
    obtain ⟨hig, ls, pq, hnl⟩ := hT.out
    have a0 := A.out
    by_cases hi : i < N
    · have t1 : ((i : Int) < (N : Int)) = True := eq_true (by omega)
      have t2 : (i < N) = True := eq_true hi
      have bi : (i : Int) < 400000000000 := by omega
      obtain ⟨p, hp⟩ : ∃ p, T[i]? = some p := ⟨_, List.getElem?_eq_getElem (by omega)⟩
      obtain ⟨tt, g, nm⟩ := p
      have hdrop : (cds T).drop i = g :: (cds T).drop (i + 1) := by
        have : (cds T)[i]? = some g := by unfold cds; rw [List.getElem?_map, hp]; rfl
        exact drop_more this
      obtain ⟨rem, hrem⟩ : ∃ rem, (cds T).drop (i + 1) = rem := ⟨_, rfl⟩
      rw [hrem] at hdrop
      rw [hdrop] at pq
      have hg258 : g < 258 := a0.2.2.1 g (by have := List.mem_of_getElem? hp; exact List.mem_map.2 ⟨_, this, rfl⟩)
      rcases a0.2.1 wr pq.bel with e | ⟨ge, oe, rfl, hce⟩
      · rw [e] at hp; simp at hp
      obtain ⟨_, ce1, ce2, _⟩ := hce i _ hp
      have AR : Aside ((cds T).drop (i + 1) = rem ∧ i + gk = N ∧ i < N) := ⟨hrem, hig, hi⟩
      have hpo := pq.po'
      have hGd := pq.gd
      have hBn := pq.bn
      by_cases h256 : g = 256
      · subst h256
        have ce1' : wr.cell? ⟨ge, oe + i * 6 + 1, none⟩ = some (.int .i64 1) := ce1
        obtain ⟨vs, hv1, hv2, hv3, hv4⟩ := pq.ll.ex
        obtain ⟨H, hH⟩ : ∃ H, wr.heap.size = H := ⟨_, rfl⟩
        have bA : Below wr.heap.size wr (wr.alloc (.cells #[.slice none 0 0] 22)) := (Below.refl _ wr).alloc (Nat.le_refl _) _
        have howA := hv2.below bA (Nat.le_refl _)
        rw [← hnl] at howA
        have hlA := pq.ll.below bA (Nat.le_refl _)
        have hcA : (wr.alloc (.cells #[.slice none 0 0] 22)).cell? ⟨H, 0, none⟩ = some (.slice none 0 0) := by rw [← hH, (Cells.new wr #[.slice none 0 0] 22).cell 0]; rfl
        have hlz : ([.slice none 0 0] : List Value) = [] ∨ ∃ b o, (some ⟨H, 0, none⟩ : Option Addr) = some ⟨b, o, none⟩ ∧ ∀ i u, ([.slice none 0 0] : List Value)[i]? = some u → (wr.alloc (.cells #[.slice none 0 0] 22)).cell? ⟨b, o + i, none⟩ = some u := Or.inr ⟨H, 0, rfl, fun i u hu => by
          cases i with
          | zero => simp at hu; rw [← hu]; exact hcA
          | succ i => simp at hu⟩
        have h1c : ∀ u ∈ ([.slice none 0 0] : List Value), u.oneCell' = true := fun u hu => by simp at hu; subst hu; rfl
        obtain ⟨i0, hii, hz0, hz1, hz2⟩ := ginfo_parts ginfo22
        have hAm : Aside (n + 1 ≤ maxLen ∧ (n + 1) * 24 ≤ 140737488355328) := by
          have h9 := hBn.all
          simp at h9
          exact ⟨by unfold maxLen; omega, by omega⟩
        have hT0 : ∀ (a5 : Option Addr) (c5 : Nat) (w5 : World), Got lo 22 1 (wr.alloc (.cells #[.slice none 0 0] 22)) w5 (.slice ax n cx) (.slice a5 (n + 1) c5) (n + 1) (vs ++ [.slice none 0 0]) → Pq lo w w5 (.slice a5 (n + 1) c5) (ls ++ [[]]) rem LS ∧ n + 1 = (ls ++ [[]]).length := fun a5 c5 w5 hgot => by
          refine ⟨⟨?_, (pq.bel.trans (bA.mono pq.ll.le)).trans hgot.bel, by simpa [po] using hpo, by simpa [Gd] using hGd, hBn.open_⟩, by simp; omega⟩
          have hlA2 := hlA
          rw [hnl] at hgot hlA2 ⊢
          exact hlA2.open_ vs hgot hv1 (fun i a l h5 h6 => (hv3 i a l h5 h6).below bA (Nat.le_refl _))
        have AT : Aside _ := hT0
        clear hT pq hpo hGd hBn hg258 hv1 hv2 hv3 hv4 bA hlA hcA hT0 hnl hce hp hdrop hrem hig hi a0 ce1 ce2
        go_upto_region 4 with (at_builtin; refine wpList_ow Tryz.prog _ rfl (.tmp 19) (.tmp 20) 23 rfl 22 i0 _ 1 24 Tryz.underlying23 hii hz0 hz1 hz2 rfl (by decide) lo (.slice ax n cx) n _ (by rfl) howA (some ⟨H, 0, none⟩) [.slice none 0 0] 1 1 rfl (by rfl) (by intro h; cases h) hlz h1c hAm.out.1 hAm.out.2 ?_; intro v5 w5 hgot; obtain ⟨a5, c5, hv5, _⟩ := hgot.ow.shape; subst hv5)
        have T0 : Aside _ := AT.out a5 c5 w5 hgot
        clear hgot howA hlz h1c hii hz0 hz1 hz2 hH
        go_wp2_with fail
        have ar := AR.out
        go_roundg (gk - 1)
        case measure => omega
        case rel => exact ⟨i + 1, a5, n + 1, c5, rfl, by go_num, ⟨by omega, ls ++ [[]], by rw [ar.1]; exact T0.out.1, T0.out.2⟩⟩
      · by_cases h257 : g = 257
        · subst h257
          have ce1' : wr.cell? ⟨ge, oe + i * 6 + 1, none⟩ = some (.int .i64 3) := ce1
          have A3 : Aside (Pq lo w wr (.slice ax n cx) ls rem LS ∧ n = ls.length) := ⟨⟨pq.ll, pq.bel, by simpa [po] using hpo, by simpa [Gd] using hGd, hBn.close⟩, hnl⟩
          clear hT pq hpo hGd hBn hg258 hnl hce hp hdrop hrem hig hi a0 ce1 ce2 h256
          go_wp2_with fail
          have ar := AR.out
          go_roundg (gk - 1)
          case measure => omega
          case rel => exact ⟨i + 1, ax, n, cx, rfl, by go_num, ⟨by omega, ls, by rw [ar.1]; exact A3.out.1, A3.out.2⟩⟩
        · have hkk : gk1 g = 2 := by simp [gk1, h256, h257]
          have hbb : gk2 g = g := by unfold gk2; rw [if_pos (by omega)]
          have ce1' : wr.cell? ⟨ge, oe + i * 6 + 1, none⟩ = some (.int .i64 2) := by rw [ce1, hkk]
          have ce2' : wr.cell? ⟨ge, oe + i * 6 + 1 + 1, none⟩ = some (.int .u8 (g : Int)) := by have := ce2; rw [hbb] at this; exact this
          have hGd2 : decide (ls ≠ []) = true ∧ Gd (decide (ls ≠ [])) rem := by simpa only [Gd, if_neg h256, if_neg h257] using hGd
          have hne : ls ≠ [] := by simpa using hGd2.1
          obtain ⟨m, hm⟩ : ∃ m, n = m + 1 := ⟨n - 1, by have := List.length_pos_iff.2 hne; omega⟩
          subst hm
          obtain ⟨l, hl⟩ : ∃ l, ls[m]? = some l := ⟨_, List.getElem?_eq_getElem (by omega)⟩
          obtain ⟨vs, hv1, hv2, hv3, hv4⟩ := pq.ll.ex
          rw [← hnl] at hv1 hv2
          obtain ⟨av, hav⟩ : ∃ av, vs[m]? = some av := ⟨_, List.getElem?_eq_getElem (by omega)⟩
          obtain ⟨a9, c9, h9, _, h10 | ⟨gb, h10, _, ⟨cgb, hcgb⟩, h11, h12⟩, _⟩ := hv2.shape
          · omega
          cases h9
          subst h10
          have cel := h11 m av hav
          have fel := h12 m
          have hoi := hv3 m av l hav hl
          obtain ⟨a6, c6, hv6, _⟩ := hoi.shape
          obtain ⟨k6, hk6⟩ : ∃ k6, l.length = k6 := ⟨_, rfl⟩
          rw [hk6] at hv6 hoi
          subst hv6
          obtain ⟨H, hH⟩ : ∃ H, wr.heap.size = H := ⟨_, rfl⟩
          obtain ⟨wA, hwA⟩ : ∃ wA, (wr.alloc (.cells #[.int .u8 (g : Int)] 5)).drew = wA := ⟨_, rfl⟩
          have bA : Below wr.heap.size wr wA := by rw [← hwA]; exact ((Below.refl _ wr).alloc (Nat.le_refl _) _).drew
          have hoiA := hoi.below bA (Nat.le_refl _)
          have hbyteA : wA.cell? ⟨H, 0, none⟩ = some (.int .u8 (g : Int)) := by rw [← hwA, ← hH]; exact ((Cells.new wr #[.int .u8 (g : Int)] 5).drew).cell 0
          have celA : (wr.alloc (.cells #[.int .u8 (g : Int)] 5)).cell? ⟨gb, m, none⟩ = some (.slice a6 k6 c6) := by
            have hlt : gb < wr.heap.size := (Array.getElem?_eq_some_iff.1 hcgb).1
            have := (((Below.refl _ wr).alloc (Nat.le_refl _) (.cells #[.int .u8 (g : Int)] 5)).cell (p := ⟨gb, m, none⟩) hlt)
            rw [this]; exact cel
          have c2A : (wr.alloc (.cells #[.int .u8 (g : Int)] 5)).cell? ⟨ge, oe + i * 6 + 1 + 1, none⟩ = some (.int .u8 (g : Int)) := by
            have := (((Below.refl _ wr).alloc (Nat.le_refl _) (.cells #[.int .u8 (g : Int)] 5)).cell (p := ⟨ge, oe + i * 6 + 1 + 1, none⟩) (World.block_lt_of_cell? wr _ ce2'))
            rw [this]; exact ce2'
          have hlen9 := hBn.each l (List.mem_of_getElem? hl)
          have hAm : Aside (k6 + 1 ≤ 140737488355328 ∧ l.length = k6) := by
            simp at hlen9
            exact ⟨by omega, hk6⟩
          obtain ⟨lsx, hlsx⟩ : ∃ lsx, lsx = ls.dropLast ++ [l ++ [g]] := ⟨_, rfl⟩
          have hlastl : ls.getLastD [] = l := by
            rw [List.getLastD_eq_getLast?, List.getLast?_eq_getElem?, ← hnl, Nat.add_sub_cancel, hl]; rfl
          have hT0 : ∀ (g5 c5 : Nat) (w5 : World), Gob lo wA w5 (.slice a6 k6 c6) (.slice (some ⟨g5, 0, none⟩) (k6 + 1) c5) (k6 + 1) (l ++ [g]) → (w5.cell? ⟨gb, m, none⟩ = some (.slice a6 k6 c6) ∧ w5.frozen? ⟨gb, m, none⟩ = false) ∧ Pq lo w (w5.setCell ⟨gb, m, none⟩ (.slice (some ⟨g5, 0, none⟩) (k6 + 1) c5)) (.slice (some ⟨gb, 0, none⟩) (m + 1) cx) lsx rem LS ∧ m + 1 = lsx.length := fun g5 c5 w5 hgob => by
            have hv2A := hv2.below bA (Nat.le_refl _)
            have hv2u := hv2A.got hgob.got (by decide)
            obtain ⟨a9, c9, h9, _, h10 | ⟨gb', h10, _, _, h11', h12'⟩, _⟩ := hv2u.shape
            · omega
            cases h9
            cases h10
            have o6 : Only gb w5 (w5.setCell ⟨gb, m, none⟩ (.slice (some ⟨g5, 0, none⟩) (k6 + 1) c5)) := (Only.refl gb w5).setCell _ _
            have hlogb : lo ≤ gb := by
              rcases hv2u.own.2 with ⟨hv, h0⟩ | ⟨g', c', cur, hv, hg, hh, _⟩
              · cases hv
              · cases hv; exact hg
            refine ⟨⟨h11' m _ hav, h12' m⟩, ⟨?_, ((pq.bel.trans (bA.mono pq.ll.le)).trans hgob.got.bel).trans (o6.below hlogb), ?_, ?_, ?_⟩, ?_⟩
            · rw [hlsx]
              have hllA := pq.ll.below bA (Nat.le_refl _)
              have hg2 : Gob lo wA w5 (.slice a6 k6 c6) (.slice (some ⟨g5, 0, none⟩) (k6 + 1) c5) (l.length + 1) (l ++ [g]) := by rw [hk6]; exact hgob
              exact Ll.byte hllA hnl.symm hv1 hl hv2A (fun i a l' h5 h6 => (hv3 i a l' h5 h6).below bA (Nat.le_refl _)) hv4 hav hg2 rfl
            · rw [hlsx, ← hpo]; simp only [po, if_neg h256, if_neg h257, hlastl]
            · rw [hlsx]
              have : decide (ls.dropLast ++ [l ++ [g]] ≠ []) = true := by simp
              rw [this]
              have h5 := hGd2.2
              rw [hGd2.1] at h5
              exact h5
            · rw [hlsx]; exact hBn.byte (List.mem_of_getElem? hl)
            · rw [hlsx]; simp; omega
          have AT : Aside _ := hT0
          have hm1 : ((m : Int) + 1) - 1 = (m : Int) := by omega
          have bm : (m : Int) < 400000000000 := by have := hBn.all; simp at this; omega
          rw [← hwA] at hoiA hbyteA AT
          have b1 : ((m : Int) < (m : Int) + 1) = True := eq_true (by omega)
          clear hT pq hpo hGd hBn hg258 hv1 hv2 hv3 hv4 bA hlsx hT0 hnl hlen9 hlastl h11 h12 hoi hGd2 hne hl hav hkk hbb hcgb hwA hk6 hce hp hdrop hrem hig hi a0 ce1 ce2 h256 h257
          have hwA9 : Aside (IntKind.i64.wrap (m : Int) = (m : Int)) := wr_id _ (by omega) (by omega)
          go_upto_region 9 with fail
          have hwm := hwA9.out
          go_region_law (refine step_gob rfl (.tmp 33) (.tmp 40) rfl lo (.slice a6 k6 c6) k6 l (by go_simp) hoiA hAm.out.2 H 1 g (by go_simp) hbyteA hAm.out.1 ?_; intro g5 c5 w5 hgob; have e4 := (AT.out g5 c5 w5 hgob).1.1; have f4 := (AT.out g5 c5 w5 hgob).1.2)
          all_goals
            have T0 : Aside _ := (AT.out g5 c5 w5 hgob).2
            clear hgob hoiA hbyteA hH cel fel celA c2A ce1' ce2' hwm
            go_wp2_with fail
            have ar := AR.out
            go_roundg (gk - 1)
            case measure => omega
            case rel => exact ⟨i + 1, some ⟨gb, 0, none⟩, m + 1, cx, rfl, by go_num, ⟨by omega, lsx, by rw [ar.1]; exact T0.out.1, T0.out.2⟩⟩
    · have t1 : ((i : Int) < (N : Int)) = False := eq_false (by omega)
      have t2 : (i < N) = False := eq_false hi
      have hnil : (cds T).drop i = [] := List.drop_eq_nil_of_le (by unfold cds; rw [List.length_map]; omega)
      rw [hnil] at pq
      have e : ls = LS := pq.po'
      have A3 : Aside (Ll wr lo (.slice ax n cx) LS ∧ n = LS.length ∧ Below lo w wr) := ⟨by rw [← e]; exact pq.ll, by rw [← e]; exact hnl, pq.bel⟩
      clear hT pq hnl hig hi a0 hnil e
      go_wp2_with fail
      first | go_ret | go_ret2
      exact ⟨⟨_, _, _, rfl, A3.out.1, A3.out.2.1, A3.out.2.2⟩⟩
end Go.Proofs.YtogednaamndpgaaGreatDoor

/-
  What the document's run gives Parts and Rows: the codes, bytes behind an open member alone, how many. No walk.
-/
namespace Go.Proofs.YtogednaamndpgaaGreatDoor
open Go.RowKit
set_option linter.unusedVariables false
theorem po_oct (ls : List (List Nat)) (o : List Nat) (ho : ∀ g ∈ o, g < 258) (h : ∀ l ∈ ls, ∀ y ∈ l, y < 256) : ∀ l ∈ po ls o, ∀ y ∈ l, y < 256 := by
  induction o generalizing ls with
  | nil => exact h
  | cons g r ih =>
    have hr := fun y hy => ho y (List.mem_cons_of_mem g hy)
    simp only [po]
    split
    · exact ih _ hr (fun l hl => by
        rcases List.mem_append.1 hl with e | e
        · exact h l e
        · simp at e; subst e; simp)
    · split
      · exact ih _ hr h
      · rename_i h1 h2
        refine ih _ hr (fun l hl => ?_)
        rcases List.mem_append.1 hl with e | e
        · exact h l (List.dropLast_subset _ e)
        · simp at e
          subst e
          intro y hy
          rcases List.mem_append.1 hy with e | e
          · cases hq : ls.getLast? with
            | none => rw [hq] at e; simp at e
            | some z => rw [hq] at e; exact h z (List.mem_of_getLast? hq) y e
          · simp at e; have := ho g (by simp); omega
theorem po_len (ls : List (List Nat)) (o : List Nat) : (po ls o).length ≤ ls.length + o.length := by
  induction o generalizing ls with
  | nil => exact Nat.le_refl _
  | cons g r ih =>
    simp only [po]
    split
    · have := ih (ls ++ [[]]); simp at this ⊢; omega
    · split
      · have := ih ls; simp; omega
      · have := ih (ls.dropLast ++ [ls.getLastD [] ++ [g]]); simp only [List.length_append, List.length_dropLast, List.length_cons, List.length_nil] at this ⊢; omega
theorem gd_front : ∀ (i : Bool) (a b : List Nat), Gd i (a ++ b) → Gd i a
  | i, [], b, _ => trivial
  | i, g :: a, b, h => by
    rw [List.cons_append] at h
    unfold Gd at h ⊢
    split at h
    · rename_i e; rw [if_pos e]; exact gd_front true a b h
    · rename_i e
      rw [if_neg e]
      split at h
      · rename_i e7; rw [if_pos e7]; exact gd_front i a b h
      · rename_i e7; rw [if_neg e7]; exact ⟨h.1, gd_front i a b h.2⟩
structure Fof (b : List Nat) (M : Nat) (r : Gr) : Prop where
  lt : ∀ c ∈ cds r.ev, c < 258
  gd : Gd false (cds r.ev)
  len : r.ev.length ≤ 2 * b.length + M + 2
theorem Fo.facts {b : List Nat} {M : Nat} {r : Gr} (ho : Oct b) (h : Fo b M r) : Fof b M r := by
  obtain ⟨_, h2, h3⟩ := h
  have f : ∀ k s, Rch b k s r.ev → Fof b M r := fun k s q => ⟨(rch_facts ho k s _ q).lt, (rch_facts ho k s _ q).gd, h2⟩
  rcases h3 with ⟨_, s, q, _⟩ | ⟨_, k, s, q, _⟩ | ⟨_, _, k, s, T, x, U, q, e, _⟩
  · exact f _ _ q
  · exact f _ _ q
  · have g := rch_facts ho k s T q
    have e2 : cds T = cds r.ev ++ x :: U.map Prod.fst := by
      have := congrArg (List.map Prod.fst) e
      rw [List.map_map, List.map_append, List.map_map] at this
      exact this
    exact ⟨fun c hc => g.lt c (by rw [e2]; exact List.mem_append_left _ hc), gd_front _ _ (x :: U.map Prod.fst) (by rw [← e2]; exact g.gd), h2⟩
theorem fin_one {b : List Nat} {k k' : Nat} {s s' : Gs} {T T' : List Gev} (h : Rch b k s T) (h0 : s.why ≠ 0 ∨ k = b.length) (q : Rch b k' s' T') (q0 : s'.why ≠ 0 ∨ k' = b.length) : k = k' ∧ s = s' ∧ T = T' := by
  have e : k = k' := by
    rcases Nat.lt_trichotomy k k' with l | l | l
    · have := (q.at h l).1
      have := q.1
      rcases h0 with h0 | h0
      · contradiction
      · omega
    · exact l
    · have := (h.at q l).1
      have := h.1
      rcases q0 with q0 | q0
      · contradiction
      · omega
  subst e
  exact ⟨rfl, h.det q⟩
end Go.Proofs.YtogednaamndpgaaGreatDoor

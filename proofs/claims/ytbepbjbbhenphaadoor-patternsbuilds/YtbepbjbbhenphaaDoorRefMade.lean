/-
  What the document's Build comes to, where the patterns may be.
  Conditions: the patterns lie in memory.
-/
import Derived.Test.YtbepbjbbhenphaaDoorRefBuild
import Derived.Deep.RegionHeld3
import Derived.Deep.CutBlock
import Derived.Deep.DeepCutAuto
namespace Go.Proofs.YtbepbjbbhenphaaDoor
open Go.RowKit
set_option linter.unusedVariables false
/-- The document's machine of some words, while it is built. -/
structure St (w0 w : World) (Q : Nat) (pa : Option Addr) (PL PC : Nat) (ws : List (List Nat)) : Prop where
  ex : ∃ kids vW vK wv kl, RB w0 w Q pa PL PC ws kids vW vK wv kl ∧ kids.length = ws.length ∧ Kin ws kids ∧ ∀ l ∈ kids, l.length ≤ ws.length
  tri : Tri ws
theorem St.rm {w0 w : World} {Q N : Nat} {pa : Option Addr} {PL PC : Nat} {ws : List (List Nat)} (h : St w0 w Q pa PL PC ws) (hN : ws.length = N) (hb : N < 1048576) : ∃ kids, Rm w Q N pa PL PC ws kids := by
  obtain ⟨kids, vW, vK, wv, kl, h1, h2, h3, h4⟩ := h.ex
  exact ⟨kids, h1.rm hN (by omega) h.tri (fun l hl => by have := h4 l hl; omega) h3⟩
theorem lw_len (p : List Nat) (ws : List (List Nat)) (u : List Nat) : ws.length ≤ (lw ws u p).length := by
  obtain ⟨r, hr, _⟩ := lw_le p ws u
  rw [hr, List.length_append]; omega
theorem lw_some {ws : List (List Nat)} {u p : List Nat} {b : Nat} (h : u ++ [b] ∈ ws) : lw ws u (b :: p) = lw ws (u ++ [b]) p := by
  rw [lw, ins, if_pos h]
theorem lw_none {ws : List (List Nat)} {u p : List Nat} {b : Nat} (h : u ++ [b] ∉ ws) : lw ws u (b :: p) = lw (ws ++ [u ++ [b]]) (u ++ [b]) p := by
  rw [lw, ins, if_neg h]
theorem words_few {ps : List (List Nat)} (hg : Good ps) (i : Nat) : (words (ps.take i)).length ≤ 2049 := by
  have h1 := words_len (B := 32) (ps := ps.take i) (fun p hp => (hg.len p (List.mem_of_mem_take hp)).2)
  have h2 := hg.few
  have h3 : (ps.take i).length ≤ 64 := by rw [List.length_take]; omega
  omega
/-- A slice's value that is owned is a slice. -/
theorem owns_slice {w : World} {B e k n : Nat} {v : Value} {xs : List Value} (h : w.ownsRow B e k v n xs) : ∃ va vc, v = .slice va n vc := by
  rcases h.2 with ⟨hv, h0⟩ | ⟨g, c, cur, hv, _⟩
  · exact ⟨none, 0, by rw [hv, h0]⟩
  · exact ⟨_, c, hv⟩
set_option maxRecDepth 100000 in
set_option maxHeartbeats 16000000 in
theorem rbuild_ok (a : Option Addr) (ps : List (List Nat)) (L C : Nat) (w : World) (hp : Rows2 w a ps) (hL : ps.length = L) (hLC : L ≤ C) (hC : L < 140737488355328) (ho : Octs ps) (he : chk ps = 0) :
    Calls Tryd.prog 14 #[.slice a L C] w fun e w' => ∃ Q kids, e = .returned (.tuple #[.pointer (some ⟨Q, 0, none⟩), .int .i64 0]) ∧ Rm w' Q (words ps).length a L C (words ps) kids ∧ Below w.heap.size w w' := by
  have hc := rcheck_c a ps L C w hp hL hLC hC
  rw [he] at hc
  have hg := chk_good he
  have AB : Aside (Rows2 w a ps ∧ ps.length = L ∧ Octs ps ∧ Good ps) := ⟨hp, hL, ho, hg⟩
  have hLb : (L : Int) ≤ 64 := by have := hg.few; omega
  clear hp hL hLC hC ho he hg
  go_enter Tryd.func14, Tryd.ntmps14
  go_upto_region 4 with (go_at_call 9; refine hc.mono ?_; rintro e2 w2 ⟨rfl, hd2⟩)
  have hz := rb_zero w w2 a L C (Drawn.below hd2 _)
  obtain ⟨H2, hH2⟩ : ∃ H2, w2.heap.size = H2 := ⟨_, rfl⟩
  rw [hH2] at hz
  have AD : Aside (∀ u, u = _ → RB w u _ a L C _ _ _ _ _ _) := hz
  clear hc hd2 hz
  go_upto_region 5 with fail
  go_cut [6] (fun s6 wc => s6 = .int .i64 0 ∧ Aside (St w wc (H2 + 1 + 1 + 1 + 1) a L C [[]]))
  case first =>
    go_wp2_with fail
    go_meet
    exact ⟨rfl, ⟨⟨_, _, _, _, _, AD.out _ rfl, rfl, kin_zero, by simp⟩, tri_one⟩⟩
  case rest =>
    obtain ⟨rfl, hS0⟩ := hcut
    clear AD hH2
    generalize H2 + 1 + 1 + 1 + 1 = Q at hS0 ⊢
    go_wp2_with fail
    go_loopg [6] L (fun g si wr => ∃ i : Nat, si = .int .i64 i ∧ Aside (i + g = L ∧ St w wr Q a L C (words (ps.take i))))
    case atStart => exact ⟨0, rfl, ⟨by omega, hS0.out⟩⟩
    case round =>
      obtain ⟨i, rfl, hI⟩ := hrel
      by_cases hiL : i < L
      · have hi : (i : Int) < (L : Int) := by omega
        obtain ⟨p, hp⟩ : ∃ p, ps[i]? = some p := ⟨_, List.getElem?_eq_getElem (by have := AB.out; omega)⟩
        obtain ⟨n, hn⟩ : ∃ n, p.length = n := ⟨_, rfl⟩
        rcases AB.out.1 with e | ⟨pb, po, rfl, hc⟩
        · rw [e] at hp; simp at hp
        obtain ⟨ai, ci, c1, c2, c3, c4, c5⟩ := hc i p hp
        rw [hn] at c1 c3 c4 c5
        have hpg := AB.out.2.2.2.len p (List.mem_of_getElem? hp)
        rcases c2 with e | ⟨xb, xo, rfl, hx⟩
        · rw [e] at hpg; simp at hpg
        have hw1 : words (ps.take (i + 1)) = lw (words (ps.take i)) [] p := by rw [take_snoc hp, words_snoc]
        have AP : Aside (p.length = n ∧ n ≤ 32 ∧ n ≤ ci ∧ i < L ∧ w.cell? ⟨pb, po + i, none⟩ = some (.slice (some ⟨xb, xo, none⟩) n ci) ∧ (∀ (j x : Nat), p[j]? = some x → w.cell? ⟨xb, xo + j, none⟩ = some (.int .u8 (x : Int))) ∧ words (ps.take (i + 1)) = lw (words (ps.take i)) [] p ∧ (words (ps.take (i + 1))).length ≤ 2049 ∧ ps[i]? = some p) := ⟨hn, by omega, c3, hiL, c1, hx, hw1, words_few AB.out.2.2.2 _, hp⟩
        clear hp hn hc c1 c3 c4 c5 hpg hx hw1 hiL
        go_wp2_with fail
        go_loopg [7, 8] n (fun g ss sk wr => ∃ (s k : Nat), ss = .int .i64 s ∧ sk = .int .i64 k ∧ Aside (k + g = n ∧ ∃ ws, St w wr Q (some ⟨pb, po, none⟩) L C ws ∧ ws[s]? = some (p.take k) ∧ lw (words (ps.take i)) [] p = lw ws (p.take k) (p.drop k)))
        case atStart => exact ⟨0, 0, rfl, rfl, ⟨by omega, _, hI.out.2, by simpa using hI.out.2.tri.zero, by simp⟩⟩
        case round =>
          obtain ⟨s, k, rfl, rfl, hK⟩ := hrel
          obtain ⟨ws, hS, hs, hlw⟩ := hK.out.2
          have hbel : Below w.heap.size w wr := by obtain ⟨_, _, _, _, _, h1, _⟩ := hS.ex; exact h1.bel
          have cp : wr.cell? ⟨pb, po + i, none⟩ = some (.slice (some ⟨xb, xo, none⟩) n ci) := (hbel.cell (p := ⟨pb, po + i, none⟩) (World.block_lt_of_cell? w ⟨pb, po + i, none⟩ AP.out.2.2.2.2.1)).trans AP.out.2.2.2.2.1
          obtain ⟨N, hN⟩ : ∃ N, ws.length = N := ⟨_, rfl⟩
          have hNb : N ≤ 2049 := by
            have h1 := AP.out.2.2.2.2.2.2.2.1
            rw [AP.out.2.2.2.2.2.2.1, hlw] at h1
            have := lw_len (p.drop k) ws (p.take k)
            omega
          by_cases hkn : k < n
          · have hk : (k : Int) < (n : Int) := by omega
            obtain ⟨b, hb⟩ : ∃ b, p[k]? = some b := ⟨_, List.getElem?_eq_getElem (by have := AP.out; omega)⟩
            have cb0 := AP.out.2.2.2.2.2.1 k b hb
            have cb : wr.cell? ⟨xb, xo + k, none⟩ = some (.int .u8 (b : Int)) := (hbel.cell (p := ⟨xb, xo + k, none⟩) (World.block_lt_of_cell? w ⟨xb, xo + k, none⟩ cb0)).trans cb0
            have htk : p.take (k + 1) = p.take k ++ [b] := take_snoc hb
            have hdr : p.drop k = b :: p.drop (k + 1) := drop_more hb
            obtain ⟨u, hu⟩ : ∃ u, p.take k = u := ⟨_, rfl⟩
            rw [hu] at hs hlw htk
            rw [hdr] at hlw
            obtain ⟨kids, vW, vK, wv, kl, hR, hkl, hkin, hfew⟩ := hS.ex
            obtain ⟨l, hl⟩ : ∃ l, kids[s]? = some l := ⟨_, List.getElem?_eq_getElem (by have := at_lt hs; omega)⟩
            have hkid := kid_c s b l wr (hR.rm hN (by omega) hS.tri (fun l hl => by have := hfew l hl; omega) hkin) hl
            have hkb := hkin s u l hs hl b
            by_cases hm : u ++ [b] ∈ ws
            · obtain ⟨t, ht⟩ := mem_at hm
              rw [hkb.1 t ht] at hkid
              have ht0 : (0 : Int) ≤ (t : Int) := by omega
              have hnx : Aside (k < n ∧ ws[t]? = some (p.take (k + 1)) ∧ lw (words (ps.take i)) [] p = lw ws (p.take (k + 1)) (p.drop (k + 1)) ∧ St w wr Q (some ⟨pb, po, none⟩) L C ws) := ⟨hkn, by rw [htk]; exact ht, by rw [htk, hlw, lw_some hm], hS⟩
              have hkb32 : (k : Int) < 32 := by have := AP.out; omega
              clear hb cb0 htk hdr hu hs hlw hR hkl hkin hfew hl hkb hm ht hkn hS hN hNb hbel
              go_wp2_with (go_at_call 35; refine hkid.mono ?_; rintro e3 w3 ⟨rfl, rfl⟩)
              have h1 := hnx.out; have h2 := hK.out.1
              go_roundg (n - (k + 1))
              case measure => omega
              case rel => exact ⟨t, k + 1, rfl, by go_num, ⟨by omega, ws, h1.2.2.2, h1.2.1, h1.2.2.1⟩⟩
            · rw [hkb.2 hm] at hkid
              have hsl := at_lt hs
              have hsi : (s : Int) < (N : Int) := by omega
              have hb256 : b < 256 := AB.out.2.2.1 p (List.mem_of_getElem? AP.out.2.2.2.2.2.2.2.2) b (List.mem_of_getElem? hb)
              obtain ⟨H, hH⟩ : ∃ H, wr.heap.size = H := ⟨_, rfl⟩
              rcases id hR.kown.2 with ⟨_, h0⟩ | ⟨kg, kc, kcur, hvK, hkgB, hkh, hkc1, hkc2, hkc3, hkt⟩
              · omega
              rcases id hR.wown.2 with ⟨_, h0⟩ | ⟨wg, wc', wcur, hvW, hwgB, hwh, _, _, _, _⟩
              · omega
              rw [hkl, hN] at hvK
              rw [hN] at hvW
              obtain ⟨v, hv, hvo⟩ := hR.klies s l hl
              obtain ⟨va, vc, hvs⟩ := owns_slice hvo
              obtain ⟨ln, hln⟩ : ∃ ln, l.length = ln := ⟨_, rfl⟩
              rw [hln] at hvs hvo
              subst hvK
              subst hvW
              subst hvs
              have cQ1 : wr.cell? ⟨Q, 1, none⟩ = some (.slice (some ⟨wg, 0, none⟩) N wc') := Cells.cell hR.q 1
              have cQ2 : wr.cell? ⟨Q, 2, none⟩ = some (.slice (some ⟨kg, 0, none⟩) N kc) := Cells.cell hR.q 2
              have ck : wr.cell? ⟨kg, s, none⟩ = some (.slice va ln vc) := by
                rw [Cells.cell (cs := kcur) (t := 63) hkh]
                have e1 := hv
                rw [← hkt, List.getElem?_take, if_pos (by omega)] at e1
                simpa using e1
              have fk : wr.frozen? ⟨kg, s, none⟩ = false := Cells.frozen (cs := kcur) (t := 63) hkh s
              have hkgH : kg < H := by rw [← hH]; exact lt_of_heap hkh
              have hQH : Q < H := by rw [← hH]; exact lt_of_heap hR.q
              have hpbw : pb < w.heap.size := World.block_lt_of_cell? w ⟨pb, po + i, none⟩ AP.out.2.2.2.2.1
              have hxbw : xb < w.heap.size := World.block_lt_of_cell? w ⟨xb, xo + k, none⟩ cb0
              have hwH : w.heap.size ≤ H := by rw [← hH]; exact hbel.size
              have nQ : kg ≠ Q := fun e => by have := hR.q; unfold Cells at this; rw [← e, hkh] at this; cases this
              have nP : kg ≠ pb := by omega
              have nX : kg ≠ xb := by omega
              have oQ : some Q ≠ (Value.slice va ln vc).ownBlock := fun e => by
                obtain ⟨_, cur, hh⟩ := owns_type hvo e.symm
                have := hR.q; unfold Cells at this; rw [hh] at this; cases this
              have oK : some kg ≠ (Value.slice va ln vc).ownBlock := fun e => by
                obtain ⟨_, cur, hh⟩ := owns_type hvo e.symm
                rw [hh] at hkh; cases hkh
              have oP : some pb ≠ (Value.slice va ln vc).ownBlock := fun e => by have := (owns_type hvo e.symm).1; omega
              have oX : some xb ≠ (Value.slice va ln vc).ownBlock := fun e => by have := (owns_type hvo e.symm).1; omega
              obtain ⟨i0, hi0, hz0, hz1, hz2⟩ := info_parts info68
              obtain ⟨wD, hwD⟩ : ∃ wD, wD = (wr.alloc (.cells #[.int .u8 (b : Int), .int .i64 (N : Int)] 65)).drew := ⟨_, rfl⟩
              have bD : Below H wr wD := by
                rw [hwD, ← hH]
                have h0 := (Below.refl wr.heap.size wr).alloc (Nat.le_refl _) (.cells #[.int .u8 (b : Int), .int .i64 (N : Int)] 65)
                exact ⟨h0.os, h0.tape, h0.output, h0.size, h0.block⟩
              have sD : wD.heap.size = H + 1 := by rw [hwD, ← hH]; show (wr.heap.push _).size = _; simp
              have hownD : wD.ownsRow w.heap.size 65 2 (.slice va ln vc) ln (kvs l) := by rw [hwD]; exact hvo.alloc _
              have hnewsD : ∀ j u, (kv (b, N))[j]? = some u → wD.cell? ((⟨wr.heap.size, 0, none⟩ : Addr).add j) = some u := by
                rw [hwD]
                exact World.news_of_block (cs := #[.int .u8 (b : Int), .int .i64 (N : Int)]) (Cells.new wr _ 65)
              have dQ2 := (bD.cell (p := ⟨Q, 2, none⟩) hQH).trans cQ2
              have dK := (bD.cell (p := ⟨kg, s, none⟩) hkgH).trans ck
              have dP := (bD.cell (p := ⟨pb, po + i, none⟩) (by show pb < H; omega)).trans cp
              have dX := (bD.cell (p := ⟨xb, xo + k, none⟩) (by show xb < H; omega)).trans cb
              subst hwD
              have AN : Aside (w.heap.size ≤ H ∧ (wr.alloc (.cells #[.int .u8 (b : Int), .int .i64 (N : Int)] 65)).drew.heap.size = H + 1 ∧ ln ≤ 2049 ∧ Q < H ∧ kg < H ∧ pb < H ∧ xb < H ∧ (wr.alloc (.cells #[.int .u8 (b : Int), .int .i64 (N : Int)] 65)).drew.frozen? ⟨kg, s, none⟩ = false ∧ (wr.alloc (.cells #[.int .u8 (b : Int), .int .i64 (N : Int)] 65)).drew.cell? ⟨kg, s, none⟩ = some (.slice va ln vc)) := ⟨hwH, sD, by have := hfew l (List.mem_of_getElem? hl); omega, hQH, hkgH, by omega, by omega, (bD.frozen (p := ⟨kg, s, none⟩) hkgH).trans fk, dK⟩
              have AR : Aside (RB w wr Q (some ⟨pb, po, none⟩) L C ws kids (.slice (some ⟨wg, 0, none⟩) N wc') (.slice (some ⟨kg, 0, none⟩) N kc) wv kl ∧ kids[s]? = some l ∧ kl[s]? = some (.slice va ln vc) ∧ Below wr.heap.size wr (wr.alloc (.cells #[.int .u8 (b : Int), .int .i64 (N : Int)] 65)).drew ∧ wr.heap.size = H ∧ l.length = ln ∧ (wr.alloc (.cells #[.int .u8 (b : Int), .int .i64 (N : Int)] 65)).drew.ownsRow w.heap.size 65 2 (.slice va ln vc) ln (kvs l)) := ⟨hR, hl, hv, by rw [hH]; exact bD, hH, hln, hownD⟩
              have AL : Aside (True ∧ kids[s]? = some l ∧ True) := ⟨trivial, hl, trivial⟩
              have AK : Aside (k < n ∧ ws.length = N ∧ N ≤ 2049 ∧ ws[s]? = some u ∧ u ++ [b] ∉ ws ∧ p.take (k + 1) = u ++ [b] ∧ lw (words (ps.take i)) [] p = lw ws u (b :: p.drop (k + 1)) ∧ kids.length = ws.length ∧ Kin ws kids ∧ (∀ l ∈ kids, l.length ≤ ws.length) ∧ Tri ws ∧ p.take k = u ∧ b < 256) := ⟨hkn, hN, hNb, hs, hm, htk, hlw, hkl, hkin, hfew, hS.tri, hu, hb256⟩
              clear hb cb0 htk hdr hu hs hlw hR hkl hkin hfew hl hkb hm hkn hS hN hNb hbel hv hvo hln hkt hkc1 hkc2 hkc3 hkh hwh hkgB hwgB hsl hkgH hQH hpbw hxbw hwH hH sD hownD hb256
              go_upto_region 15 with (go_at_call 35; refine hkid.mono ?_; rintro e3 w3 ⟨rfl, rfl⟩)
              clear hkid
              go_cut [] from 28 to 103 (fun wc => Aside (∃ kl2, RB w wc Q (some ⟨pb, po, none⟩) L C ws (kids.set s (l ++ [(b, N)])) (.slice (some ⟨wg, 0, none⟩) N wc') (.slice (some ⟨kg, 0, none⟩) N kc) wv kl2))
              case first =>
                have R15 : ∀ (gg cap' : Nat) (w2 : World), w2.ownsRow w.heap.size 65 2 (.slice (some ⟨gg, 0, none⟩) (ln + 1) cap') (ln + 1) (kvs l ++ kv (b, N)) → (wr.alloc (.cells #[.int .u8 (b : Int), .int .i64 (N : Int)] 65)).drew.grownBy w2 (Value.slice va ln vc).ownBlock → ((Value.slice va ln vc).ownBlock = some gg ∨ gg = (wr.alloc (.cells #[.int .u8 (b : Int), .int .i64 (N : Int)] 65)).drew.heap.size) → Aside (∃ kl2, RB w (w2.setCell ⟨kg, s, none⟩ (.slice (some ⟨gg, 0, none⟩) (ln + 1) cap')) Q (some ⟨pb, po, none⟩) L C ws (kids.set s (l ++ [(b, N)])) (.slice (some ⟨wg, 0, none⟩) N wc') (.slice (some ⟨kg, 0, none⟩) N kc) wv kl2) := by
                  intro gg cap' w2 h1 h2 h3
                  obtain ⟨hR, hl, hv, hb, _, hln, _⟩ := AR.out
                  subst hln
                  exact ⟨_, hR.addKid rfl hl hv hb h2 h1 h3⟩
                refine wp_region_noPanic ?_
                refine wp_region_held_drew (S := fun w' => w'.cell? ⟨Q, 2, none⟩ = some (.slice (some ⟨kg, 0, none⟩) N kc) ∧ w'.cell? ⟨pb, po + i, none⟩ = some (.slice (some ⟨xb, xo, none⟩) n ci) ∧ w'.cell? ⟨xb, xo + k, none⟩ = some (.int .u8 (b : Int))) (by kernel_rfl) ⟨cQ2, cp, cb⟩ (fun hHeld => ?_)
                refine wpAnyH_take (i := 0) (oi := ⟨_, _, _, _, _, _⟩) (v := ?_) rfl (by kernel_rfl) (by kernel_rfl) (by kernel_rfl) (fun _ _ _ h => h) (Or.inl ⟨by rfl, ?_⟩) hHeld ?_
                rotate_left
                · (intro w9 hSw; (try dsimp only at hSw); go_simp; try (with_reducible rfl))
                try simp only [Act.put, List.setIfInBounds_toArray, List.set_cons_zero, List.set_cons_succ]
                refine wpAnyH_take (i := 1) (oi := ⟨_, _, _, _, _, _⟩) (v := ?_) rfl (by kernel_rfl) (by kernel_rfl) (by kernel_rfl) (fun _ _ _ h => h) (Or.inl ⟨by rfl, ?_⟩) hHeld ?_
                rotate_left
                · (intro w9 hSw; (try dsimp only at hSw); go_simp; try (with_reducible rfl))
                try simp only [Act.put, List.setIfInBounds_toArray, List.set_cons_zero, List.set_cons_succ]
                refine wpAnyH_take (i := 2) (oi := ⟨_, _, _, _, _, _⟩) (v := ?_) rfl (by kernel_rfl) (by kernel_rfl) (by kernel_rfl) (fun _ _ _ h => h) (Or.inl ⟨by rfl, ?_⟩) hHeld ?_
                rotate_left
                · (intro w9 hSw; (try dsimp only at hSw); go_simp; try (with_reducible rfl))
                try simp only [Act.put, List.setIfInBounds_toArray, List.set_cons_zero, List.set_cons_succ]
                refine wpAnyH_take (i := 3) (oi := ⟨_, _, _, _, _, _⟩) (v := ?_) rfl (by kernel_rfl) (by kernel_rfl) (by kernel_rfl) (fun _ _ _ h => h) (Or.inl ⟨by rfl, ?_⟩) hHeld ?_
                rotate_left
                · (intro w9 hSw; (try dsimp only at hSw); go_simp; try (with_reducible rfl))
                try simp only [Act.put, List.setIfInBounds_toArray, List.set_cons_zero, List.set_cons_succ]
                refine wpAnyH_take (i := 4) (oi := ⟨_, _, _, _, _, _⟩) (v := ?_) rfl (by kernel_rfl) (by kernel_rfl) (by kernel_rfl) (fun _ _ _ h => h) (Or.inl ⟨by rfl, ?_⟩) hHeld ?_
                rotate_left
                · (intro w9 hSw; (try dsimp only at hSw); go_simp; try (with_reducible rfl))
                try simp only [Act.put, List.setIfInBounds_toArray, List.set_cons_zero, List.set_cons_succ]
                refine wpAnyH_take (i := 5) (oi := ⟨_, _, _, _, _, _⟩) (v := ?_) rfl (by kernel_rfl) (by kernel_rfl) (by kernel_rfl) (fun _ _ _ h => h) (Or.inl ⟨by rfl, ?_⟩) hHeld ?_
                rotate_left
                · (intro w9 hSw; (try dsimp only at hSw); go_simp; try (with_reducible rfl))
                try simp only [Act.put, List.setIfInBounds_toArray, List.set_cons_zero, List.set_cons_succ]
                refine wpAnyH_take (i := 6) (oi := ⟨_, _, _, _, _, _⟩) (v := ?_) rfl (by kernel_rfl) (by kernel_rfl) (by kernel_rfl) (fun _ _ _ h => h) (Or.inl ⟨by rfl, ?_⟩) hHeld ?_
                rotate_left
                · (intro w9 hSw; (try dsimp only at hSw); go_simp; try (with_reducible rfl))
                try simp only [Act.put, List.setIfInBounds_toArray, List.set_cons_zero, List.set_cons_succ]
                refine wpAnyH_take (i := 7) (oi := ⟨_, _, _, _, _, _⟩) (v := ?_) rfl (by kernel_rfl) (by kernel_rfl) (by kernel_rfl) (fun _ _ _ h => h) (Or.inl ⟨by rfl, ?_⟩) hHeld ?_
                rotate_left
                · (intro w9 hSw; (try dsimp only at hSw); go_simp; try (with_reducible rfl))
                try simp only [Act.put, List.setIfInBounds_toArray, List.set_cons_zero, List.set_cons_succ]
                refine wpAnyH_take (i := 8) (oi := ⟨_, _, _, _, _, _⟩) (v := ?_) rfl (by kernel_rfl) (by kernel_rfl) (by kernel_rfl) (fun _ _ _ h => h) (Or.inl ⟨by rfl, ?_⟩) hHeld ?_
                rotate_left
                · (intro w9 hSw; (try dsimp only at hSw); go_simp; try (with_reducible rfl))
                try simp only [Act.put, List.setIfInBounds_toArray, List.set_cons_zero, List.set_cons_succ]
                refine wpAnyH_take (i := 9) (oi := ⟨_, _, _, _, _, _⟩) (v := ?_) rfl (by kernel_rfl) (by kernel_rfl) (by kernel_rfl) (fun _ _ _ h => h) (Or.inl ⟨by rfl, ?_⟩) hHeld ?_
                rotate_left
                · (intro w9 hSw; (try dsimp only at hSw); go_simp; try (with_reducible rfl))
                try simp only [Act.put, List.setIfInBounds_toArray, List.set_cons_zero, List.set_cons_succ]
                refine wpAnyH_take (i := 10) (oi := ⟨_, _, _, _, _, _⟩) (v := ?_) rfl (by kernel_rfl) (by kernel_rfl) (by kernel_rfl) (fun _ _ _ h => h) (Or.inl ⟨by rfl, ?_⟩) hHeld ?_
                rotate_left
                · (intro w9 hSw; (try dsimp only at hSw); go_simp; try (with_reducible rfl))
                try simp only [Act.put, List.setIfInBounds_toArray, List.set_cons_zero, List.set_cons_succ]
                refine wpAnyH_take (i := 12) (oi := ⟨_, _, _, _, _, _⟩) (v := ?_) rfl (by kernel_rfl) (by kernel_rfl) (by kernel_rfl) (fun _ _ _ h => h) (Or.inl ⟨by rfl, ?_⟩) hHeld ?_
                rotate_left
                · (intro w9 hSw; (try dsimp only at hSw); go_simp; try (with_reducible rfl))
                try simp only [Act.put, List.setIfInBounds_toArray, List.set_cons_zero, List.set_cons_succ]
                refine wpAnyH_take (i := 13) (oi := ⟨_, _, _, _, _, _⟩) (v := ?_) rfl (by kernel_rfl) (by kernel_rfl) (by kernel_rfl) (fun _ _ _ h => h) (Or.inl ⟨by rfl, ?_⟩) hHeld ?_
                rotate_left
                · (intro w9 hSw; (try dsimp only at hSw); go_simp; try (with_reducible rfl))
                try simp only [Act.put, List.setIfInBounds_toArray, List.set_cons_zero, List.set_cons_succ]
                refine wpAnyH_take (i := 14) (oi := ⟨_, _, _, _, _, _⟩) (v := ?_) rfl (by kernel_rfl) (by kernel_rfl) (by kernel_rfl) (fun _ _ _ h => h) (Or.inl ⟨by rfl, ?_⟩) hHeld ?_
                rotate_left
                · (intro w9 hSw; (try dsimp only at hSw); go_simp; try (with_reducible rfl))
                try simp only [Act.put, List.setIfInBounds_toArray, List.set_cons_zero, List.set_cons_succ]
                refine wpAnyH_take (i := 15) (oi := ⟨_, _, _, _, _, _⟩) (v := ?_) rfl (by kernel_rfl) (by kernel_rfl) (by kernel_rfl) (fun _ _ _ h => h) (Or.inl ⟨by rfl, ?_⟩) hHeld ?_
                rotate_left
                · (intro w9 hSw; (try dsimp only at hSw); go_simp; try (with_reducible rfl))
                try simp only [Act.put, List.setIfInBounds_toArray, List.set_cons_zero, List.set_cons_succ]
                refine wpAnyH_take (i := 16) (oi := ⟨_, _, _, _, _, _⟩) (v := ?_) rfl (by kernel_rfl) (by kernel_rfl) (by kernel_rfl) (fun _ _ _ h => h) (Or.inl ⟨by rfl, ?_⟩) hHeld ?_
                rotate_left
                · (intro w9 hSw; (try dsimp only at hSw); go_simp; try (with_reducible rfl))
                try simp only [Act.put, List.setIfInBounds_toArray, List.set_cons_zero, List.set_cons_succ]
                refine wpAnyH_take (i := 17) (oi := ⟨_, _, _, _, _, _⟩) (v := ?_) rfl (by kernel_rfl) (by kernel_rfl) (by kernel_rfl) (fun _ _ _ h => h) (Or.inl ⟨by rfl, ?_⟩) hHeld ?_
                rotate_left
                · (intro w9 hSw; (try dsimp only at hSw); go_simp; try (with_reducible rfl))
                try simp only [Act.put, List.setIfInBounds_toArray, List.set_cons_zero, List.set_cons_succ]
                refine wpAnyH_take (i := 18) (oi := ⟨_, _, _, _, _, _⟩) (v := ?_) rfl (by kernel_rfl) (by kernel_rfl) (by kernel_rfl) (fun _ _ _ h => h) (Or.inl ⟨by rfl, ?_⟩) hHeld ?_
                rotate_left
                · (intro w9 hSw; (try dsimp only at hSw); go_simp; try (with_reducible rfl))
                try simp only [Act.put, List.setIfInBounds_toArray, List.set_cons_zero, List.set_cons_succ]
                refine wpAnyH_take (i := 19) (oi := ⟨_, _, _, _, _, _⟩) (v := ?_) rfl (by kernel_rfl) (by kernel_rfl) (by kernel_rfl) (fun _ _ _ h => h) (Or.inl ⟨by rfl, ?_⟩) hHeld ?_
                rotate_left
                · (intro w9 hSw; (try dsimp only at hSw); go_simp; try (with_reducible rfl))
                try simp only [Act.put, List.setIfInBounds_toArray, List.set_cons_zero, List.set_cons_succ]
                refine wpAnyH_take (i := 20) (oi := ⟨_, _, _, _, _, _⟩) (v := ?_) rfl (by kernel_rfl) (by kernel_rfl) (by kernel_rfl) (fun _ _ _ h => h) (Or.inl ⟨by rfl, ?_⟩) hHeld ?_
                rotate_left
                · (intro w9 hSw; (try dsimp only at hSw); go_simp; try (with_reducible rfl))
                try simp only [Act.put, List.setIfInBounds_toArray, List.set_cons_zero, List.set_cons_succ]
                refine wpAnyH_ready (rs := [11, 21]) (by kernel_rfl) (by simp) ?_
                refine AllReadyH.cons (o := ⟨_, _, _, _, _, _⟩) rfl (fun K hK => ?_) ?_
                · go_simp
                  refine hK.out _ _ hHeld (fun hHeldA => ?_)
                  clear hK K
                  try simp only [Act.put, List.setIfInBounds_toArray, List.set_cons_zero, List.set_cons_succ]
                  refine wpAnyH_ready (rs := [21]) (by kernel_rfl) (by simp) ?_
                  refine AllReadyH.cons (o := ⟨_, _, _, _, _, _⟩) rfl (fun K hK => ?_) AllReadyH.nil
                  go_simp
                  refine hK.out _ _ ⟨dQ2, dP, dX⟩ (fun hHeld1 => ?_)
                  clear hK K
                  try simp only [Act.put, List.setIfInBounds_toArray, List.set_cons_zero, List.set_cons_succ]
                  refine wpAnyH_ready (rs := [22]) (by kernel_rfl) (by simp) ?_
                  refine AllReadyH.cons (o := ⟨_, _, _, _, _, _⟩) rfl (fun K hK => ?_) AllReadyH.nil
                  refine step_append_lies _ (by rfl) _ _ _ (by rfl) w.heap.size 65 i0 (.agg #[.int .u8 0, .int .i64 0]) 2 16 Tryd.underlying63 hi0 hz0 hz1 hz2 rfl (by decide) (.slice va ln vc) ln (kvs l) (by rfl) AR.out.2.2.2.2.2.2 ⟨wr.heap.size, 0, none⟩ 1 1 (kv (b, N)) (by rfl) (by rfl) hnewsD (kv_one _) (by decide) (by unfold maxLen; have := AN.out; omega) (by have := AN.out; omega) (by show _ ≤ (wr.alloc (.cells #[.int .u8 (b : Int), .int .i64 (N : Int)] 65)).drew.heap.size; have := AN.out; omega) _ rfl ?_
                  intro gg cap' w2 hown2 hgrow hat hlt2
                  have q2 : w2.cell? ⟨Q, 2, none⟩ = some (.slice (some ⟨kg, 0, none⟩) N kc) := (hgrow.cell_far ⟨Q, 2, none⟩ (by show Q < (wr.alloc (.cells #[.int .u8 (b : Int), .int .i64 (N : Int)] 65)).drew.heap.size; have := AN.out; omega) oQ).trans dQ2
                  have p2 : w2.cell? ⟨pb, po + i, none⟩ = some (.slice (some ⟨xb, xo, none⟩) n ci) := (hgrow.cell_far ⟨pb, po + i, none⟩ (by show pb < (wr.alloc (.cells #[.int .u8 (b : Int), .int .i64 (N : Int)] 65)).drew.heap.size; have := AN.out; omega) oP).trans dP
                  have x2 : w2.cell? ⟨xb, xo + k, none⟩ = some (.int .u8 (b : Int)) := (hgrow.cell_far ⟨xb, xo + k, none⟩ (by show xb < (wr.alloc (.cells #[.int .u8 (b : Int), .int .i64 (N : Int)] 65)).drew.heap.size; have := AN.out; omega) oX).trans dX
                  have k2 : w2.cell? ⟨kg, s, none⟩ = some (.slice va ln vc) := (hgrow.cell_far ⟨kg, s, none⟩ (by show kg < (wr.alloc (.cells #[.int .u8 (b : Int), .int .i64 (N : Int)] 65)).drew.heap.size; have := AN.out; omega) oK).trans AN.out.2.2.2.2.2.2.2.2
                  have f2 : w2.frozen? ⟨kg, s, none⟩ = false := (hgrow.frozen_far ⟨kg, s, none⟩ (by show kg < (wr.alloc (.cells #[.int .u8 (b : Int), .int .i64 (N : Int)] 65)).drew.heap.size; have := AN.out; omega) oK).trans AN.out.2.2.2.2.2.2.2.1
                  refine hK.out _ _ ⟨q2, p2, x2⟩ (fun hHeldB => ?_)
                  clear hK K
                  try simp only [Act.put, List.setIfInBounds_toArray, List.set_cons_zero, List.set_cons_succ]
                  refine wpAnyH_take (i := 23) (oi := ⟨_, _, _, _, _, _⟩) (v := ?_) rfl (by kernel_rfl) (by kernel_rfl) (by kernel_rfl) (fun _ _ _ h => h) (Or.inl ⟨by rfl, ?_⟩) hHeldB ?_
                  rotate_left
                  · (intro w9 hSw; (try dsimp only at hSw); go_simp; try (with_reducible rfl))
                  try simp only [Act.put, List.setIfInBounds_toArray, List.set_cons_zero, List.set_cons_succ]
                  refine wpAnyH_ready (rs := [24]) (by kernel_rfl) (by simp) ?_
                  refine AllReadyH.cons (o := ⟨_, _, _, _, _, _⟩) rfl (fun K hK => ?_) AllReadyH.nil
                  go_simp
                  refine hK.out _ _ (by refine ⟨?_, ?_, ?_⟩ <;> simp [q2, p2, x2, World.cell?_setCell_far, nQ, nP, nX]) (fun hHeldC => ?_)
                  clear hK K
                  try simp only [Act.put, List.setIfInBounds_toArray, List.set_cons_zero, List.set_cons_succ]
                  refine wpAnyH_done (by kernel_rfl) ?_ _
                  refine NoPanic.normal ?_
                  go_wp2_with fail
                  go_meet
                  exact R15 gg cap' w2 hown2 hgrow hat
                refine AllReadyH.cons (o := ⟨_, _, _, _, _, _⟩) rfl (fun K hK => ?_) ?_
                · go_simp
                  refine hK.out _ _ ⟨dQ2, dP, dX⟩ (fun hHeldA => ?_)
                  clear hK K
                  try simp only [Act.put, List.setIfInBounds_toArray, List.set_cons_zero, List.set_cons_succ]
                  refine wpAnyH_ready (rs := [11]) (by kernel_rfl) (by simp) ?_
                  refine AllReadyH.cons (o := ⟨_, _, _, _, _, _⟩) rfl (fun K hK => ?_) AllReadyH.nil
                  go_simp
                  refine hK.out _ _ ⟨dQ2, dP, dX⟩ (fun hHeld1 => ?_)
                  clear hK K
                  try simp only [Act.put, List.setIfInBounds_toArray, List.set_cons_zero, List.set_cons_succ]
                  refine wpAnyH_ready (rs := [22]) (by kernel_rfl) (by simp) ?_
                  refine AllReadyH.cons (o := ⟨_, _, _, _, _, _⟩) rfl (fun K hK => ?_) AllReadyH.nil
                  refine step_append_lies _ (by rfl) _ _ _ (by rfl) w.heap.size 65 i0 (.agg #[.int .u8 0, .int .i64 0]) 2 16 Tryd.underlying63 hi0 hz0 hz1 hz2 rfl (by decide) (.slice va ln vc) ln (kvs l) (by rfl) AR.out.2.2.2.2.2.2 ⟨wr.heap.size, 0, none⟩ 1 1 (kv (b, N)) (by rfl) (by rfl) hnewsD (kv_one _) (by decide) (by unfold maxLen; have := AN.out; omega) (by have := AN.out; omega) (by show _ ≤ (wr.alloc (.cells #[.int .u8 (b : Int), .int .i64 (N : Int)] 65)).drew.heap.size; have := AN.out; omega) _ rfl ?_
                  intro gg cap' w2 hown2 hgrow hat hlt2
                  have q2 : w2.cell? ⟨Q, 2, none⟩ = some (.slice (some ⟨kg, 0, none⟩) N kc) := (hgrow.cell_far ⟨Q, 2, none⟩ (by show Q < (wr.alloc (.cells #[.int .u8 (b : Int), .int .i64 (N : Int)] 65)).drew.heap.size; have := AN.out; omega) oQ).trans dQ2
                  have p2 : w2.cell? ⟨pb, po + i, none⟩ = some (.slice (some ⟨xb, xo, none⟩) n ci) := (hgrow.cell_far ⟨pb, po + i, none⟩ (by show pb < (wr.alloc (.cells #[.int .u8 (b : Int), .int .i64 (N : Int)] 65)).drew.heap.size; have := AN.out; omega) oP).trans dP
                  have x2 : w2.cell? ⟨xb, xo + k, none⟩ = some (.int .u8 (b : Int)) := (hgrow.cell_far ⟨xb, xo + k, none⟩ (by show xb < (wr.alloc (.cells #[.int .u8 (b : Int), .int .i64 (N : Int)] 65)).drew.heap.size; have := AN.out; omega) oX).trans dX
                  have k2 : w2.cell? ⟨kg, s, none⟩ = some (.slice va ln vc) := (hgrow.cell_far ⟨kg, s, none⟩ (by show kg < (wr.alloc (.cells #[.int .u8 (b : Int), .int .i64 (N : Int)] 65)).drew.heap.size; have := AN.out; omega) oK).trans AN.out.2.2.2.2.2.2.2.2
                  have f2 : w2.frozen? ⟨kg, s, none⟩ = false := (hgrow.frozen_far ⟨kg, s, none⟩ (by show kg < (wr.alloc (.cells #[.int .u8 (b : Int), .int .i64 (N : Int)] 65)).drew.heap.size; have := AN.out; omega) oK).trans AN.out.2.2.2.2.2.2.2.1
                  refine hK.out _ _ ⟨q2, p2, x2⟩ (fun hHeldB => ?_)
                  clear hK K
                  try simp only [Act.put, List.setIfInBounds_toArray, List.set_cons_zero, List.set_cons_succ]
                  refine wpAnyH_take (i := 23) (oi := ⟨_, _, _, _, _, _⟩) (v := ?_) rfl (by kernel_rfl) (by kernel_rfl) (by kernel_rfl) (fun _ _ _ h => h) (Or.inl ⟨by rfl, ?_⟩) hHeldB ?_
                  rotate_left
                  · (intro w9 hSw; (try dsimp only at hSw); go_simp; try (with_reducible rfl))
                  try simp only [Act.put, List.setIfInBounds_toArray, List.set_cons_zero, List.set_cons_succ]
                  refine wpAnyH_ready (rs := [24]) (by kernel_rfl) (by simp) ?_
                  refine AllReadyH.cons (o := ⟨_, _, _, _, _, _⟩) rfl (fun K hK => ?_) AllReadyH.nil
                  go_simp
                  refine hK.out _ _ (by refine ⟨?_, ?_, ?_⟩ <;> simp [q2, p2, x2, World.cell?_setCell_far, nQ, nP, nX]) (fun hHeldC => ?_)
                  clear hK K
                  try simp only [Act.put, List.setIfInBounds_toArray, List.set_cons_zero, List.set_cons_succ]
                  refine wpAnyH_done (by kernel_rfl) ?_ _
                  refine NoPanic.normal ?_
                  go_wp2_with fail
                  go_meet
                  exact R15 gg cap' w2 hown2 hgrow hat
                exact AllReadyH.nil
              case rest =>
                obtain ⟨kl2, h3⟩ := hcut.out
                clear hcut hnewsD dQ2 dK dP dX cQ1 cQ2 ck fk cp cb nQ nP nX oQ oK oP oX bD AN AR hz0 hz1 hz2 hi0
                obtain ⟨j0, hj0, jz0, jz1, jz2⟩ := info_parts info47
                have cW : wc.cell? ⟨Q, 1, none⟩ = some (.slice (some ⟨wg, 0, none⟩) N wc') := Cells.cell h3.q 1
                have fW : wc.frozen? ⟨Q, 1, none⟩ = false := Cells.frozen h3.q 1
                have cP : wc.cell? ⟨pb, po + i, none⟩ = some (.slice (some ⟨xb, xo, none⟩) n ci) := (h3.bel.cell (p := ⟨pb, po + i, none⟩) (World.block_lt_of_cell? w ⟨pb, po + i, none⟩ AP.out.2.2.2.2.1)).trans AP.out.2.2.2.2.1
                have hQc : Q < wc.heap.size := lt_of_heap h3.q
                have hpw : pb < w.heap.size := World.block_lt_of_cell? w ⟨pb, po + i, none⟩ AP.out.2.2.2.2.1
                have hwc : w.heap.size ≤ wc.heap.size := h3.bel.size
                have hqb := h3.qb
                have nP : Q ≠ pb := by omega
                have hwo := h3.wown
                rw [AK.out.2.1] at hwo
                have oQ : some Q ≠ (Value.slice (some ⟨wg, 0, none⟩) N wc').ownBlock := fun e => by
                  obtain ⟨_, cur, hh⟩ := owns_type hwo e.symm
                  have := h3.q; unfold Cells at this; rw [hh] at this; cases this
                have oP : some pb ≠ (Value.slice (some ⟨wg, 0, none⟩) N wc').ownBlock := fun e => by have := (owns_type hwo e.symm).1; omega
                have b0 : Below wc.heap.size wc (wc.alloc (.cells #[.slice (some ⟨xb, xo, none⟩) (k + 1) ci] 36)).drew := by
                  have h0 := (Below.refl wc.heap.size wc).alloc (Nat.le_refl _) (.cells #[.slice (some ⟨xb, xo, none⟩) (k + 1) ci] 36)
                  exact ⟨h0.os, h0.tape, h0.output, h0.size, h0.block⟩
                have s0 : (wc.alloc (.cells #[.slice (some ⟨xb, xo, none⟩) (k + 1) ci] 36)).drew.heap.size = wc.heap.size + 1 := by show (wc.heap.push _).size = _; simp
                have own0 : (wc.alloc (.cells #[.slice (some ⟨xb, xo, none⟩) (k + 1) ci] 36)).drew.ownsRow w.heap.size 36 1 (.slice (some ⟨wg, 0, none⟩) N wc') N wv := hwo.alloc _
                have news0 : ∀ j u, [Value.slice (some ⟨xb, xo, none⟩) (k + 1) ci][j]? = some u → (wc.alloc (.cells #[.slice (some ⟨xb, xo, none⟩) (k + 1) ci] 36)).drew.cell? ((⟨wc.heap.size, 0, none⟩ : Addr).add j) = some u :=
                  World.news_of_block (cs := #[.slice (some ⟨xb, xo, none⟩) (k + 1) ci]) (Cells.new wc _ 36)
                have dW := (b0.cell (p := ⟨Q, 1, none⟩) hQc).trans cW
                have dF := (b0.frozen (p := ⟨Q, 1, none⟩) hQc).trans fW
                have dP := (b0.cell (p := ⟨pb, po + i, none⟩) (by show pb < _; omega)).trans cP
                have k1 : (k : Int) + 1 ≤ (ci : Int) := by have := AP.out; have := AK.out; omega
                have k0 : (0 : Int) ≤ (k : Int) + 1 := by omega
                have kw : IntKind.i64.wrap ((k : Int) + 1) = (k : Int) + 1 := by rw [IntKind.wrap_i64]; have := AP.out; have := AK.out; omega
                have kt : ((k : Int) + 1).toNat = k + 1 := by omega
                have hsl : ∀ W : World, (Instr.slice 36 (.slice (some ⟨xb, xo, none⟩) n ci) none (some (.int .i64 ((k : Int) + 1))) none).run Tryd.prog W = .ok (.slice (some ⟨xb, xo, none⟩) (k + 1) ci) W := by
                  intro W
                  clear kw AK AP h3 cW fW cP hwo oQ oP b0 s0 own0 news0 dW dF dP hsi hqb hwc hpw hQc nP
                  go_simp
                have AM : Aside (w.heap.size ≤ wc.heap.size ∧ (wc.alloc (.cells #[.slice (some ⟨xb, xo, none⟩) (k + 1) ci] 36)).drew.heap.size = wc.heap.size + 1 ∧ Q < wc.heap.size ∧ pb < wc.heap.size ∧ N ≤ 2049) := ⟨hwc, s0, hQc, by omega, AK.out.2.2.1⟩
                have AR : Aside (RB w wc Q (some ⟨pb, po, none⟩) L C ws (kids.set s (l ++ [(b, N)])) (.slice (some ⟨wg, 0, none⟩) N wc') (.slice (some ⟨kg, 0, none⟩) N kc) wv kl2 ∧ Below wc.heap.size wc (wc.alloc (.cells #[.slice (some ⟨xb, xo, none⟩) (k + 1) ci] 36)).drew) := ⟨h3, b0⟩
                clear h3 hwo b0 s0 hQc hpw hwc hqb k0 kt k1
                go_upto_region 16 with fail
                go_cut [] from 28 to 103 (fun wc => Aside (∃ vW2 wv2, RB w wc Q (some ⟨pb, po, none⟩) L C (ws ++ [u ++ [b]]) (kids.set s (l ++ [(b, N)])) vW2 (.slice (some ⟨kg, 0, none⟩) N kc) wv2 kl2))
                case first =>
                  have R16 : ∀ (gg cap' : Nat) (w2 : World), w2.ownsRow w.heap.size 36 1 (.slice (some ⟨gg, 0, none⟩) (N + 1) cap') (N + 1) (wv ++ [.slice (some ⟨xb, xo, none⟩) (k + 1) ci]) → (wc.alloc (.cells #[.slice (some ⟨xb, xo, none⟩) (k + 1) ci] 36)).drew.grownBy w2 (Value.slice (some ⟨wg, 0, none⟩) N wc').ownBlock → Aside (∃ vW2 wv2, RB w (w2.setCell ⟨Q, 1, none⟩ (.slice (some ⟨gg, 0, none⟩) (N + 1) cap')) Q (some ⟨pb, po, none⟩) L C (ws ++ [u ++ [b]]) (kids.set s (l ++ [(b, N)])) vW2 (.slice (some ⟨kg, 0, none⟩) N kc) wv2 kl2) := by
                    intro gg cap' w2 h1 h2
                    have hlu : (u ++ [b]).length = k + 1 := by rw [← AK.out.2.2.2.2.2.1, List.length_take]; have := AP.out; have := AK.out; omega
                    have hN := AK.out.2.1
                    have hlies : Lies w (some ⟨xb, xo, none⟩) (u ++ [b]) := by
                      rw [← AK.out.2.2.2.2.2.1]
                      exact Lies.take (Or.inr ⟨xb, xo, rfl, AP.out.2.2.2.2.2.1⟩) (k + 1)
                    rw [← hlu, ← hN] at h1
                    have := AR.out.1.addWord (u := u ++ [b]) (ai := some ⟨xb, xo, none⟩) (ci := ci) hlies (by rw [hlu]; have := AP.out; have := AK.out; omega) (by rw [hlu]; have := AP.out; have := AK.out; omega) (fun e => by cases e) AR.out.2 h2 h1
                    rw [hN] at this
                    exact ⟨_, _, this⟩
                  refine wp_region_noPanic ?_
                  refine wp_region_held_drew (S := fun w' => w'.cell? ⟨pb, po + i, none⟩ = some (.slice (some ⟨xb, xo, none⟩) n ci)) (by kernel_rfl) cP (fun hHeld => ?_)
                  refine wpAnyH_take (i := 0) (oi := ⟨_, _, _, _, _, _⟩) (v := ?_) rfl (by kernel_rfl) (by kernel_rfl) (by kernel_rfl) (fun _ _ _ h => h) (Or.inl ⟨by rfl, ?_⟩) hHeld ?_
                  rotate_left
                  · (intro w9 hSw; (try dsimp only at hSw); go_simp; try (with_reducible rfl))
                  try simp only [Act.put, List.setIfInBounds_toArray, List.set_cons_zero, List.set_cons_succ]
                  refine wpAnyH_take (i := 1) (oi := ⟨_, _, _, _, _, _⟩) (v := ?_) rfl (by kernel_rfl) (by kernel_rfl) (by kernel_rfl) (fun _ _ _ h => h) (Or.inl ⟨by rfl, ?_⟩) hHeld ?_
                  rotate_left
                  · (intro w9 hSw; (try dsimp only at hSw); go_simp; try (with_reducible rfl))
                  try simp only [Act.put, List.setIfInBounds_toArray, List.set_cons_zero, List.set_cons_succ]
                  refine wpAnyH_take (i := 2) (oi := ⟨_, _, _, _, _, _⟩) (v := ?_) rfl (by kernel_rfl) (by kernel_rfl) (by kernel_rfl) (fun _ _ _ h => h) (Or.inl ⟨by rfl, ?_⟩) hHeld ?_
                  rotate_left
                  · (intro w9 hSw; (try dsimp only at hSw); go_simp; try (with_reducible rfl))
                  try simp only [Act.put, List.setIfInBounds_toArray, List.set_cons_zero, List.set_cons_succ]
                  refine wpAnyH_take (i := 3) (oi := ⟨_, _, _, _, _, _⟩) (v := ?_) rfl (by kernel_rfl) (by kernel_rfl) (by kernel_rfl) (fun _ _ _ h => h) (Or.inl ⟨by rfl, ?_⟩) hHeld ?_
                  rotate_left
                  · (intro w9 hSw; (try dsimp only at hSw); go_simp; try (with_reducible rfl))
                  try simp only [Act.put, List.setIfInBounds_toArray, List.set_cons_zero, List.set_cons_succ]
                  refine wpAnyH_take (i := 5) (oi := ⟨_, _, _, _, _, _⟩) (v := ?_) rfl (by kernel_rfl) (by kernel_rfl) (by kernel_rfl) (fun _ _ _ h => h) (Or.inl ⟨by rfl, ?_⟩) hHeld ?_
                  rotate_left
                  · (intro w9 hSw; (try dsimp only at hSw); go_simp; try (with_reducible rfl))
                  try simp only [Act.put, List.setIfInBounds_toArray, List.set_cons_zero, List.set_cons_succ]
                  refine wpAnyH_take (i := 6) (oi := ⟨_, _, _, _, _, _⟩) (v := ?_) rfl (by kernel_rfl) (by kernel_rfl) (by kernel_rfl) (fun _ _ _ h => h) (Or.inl ⟨by rfl, ?_⟩) hHeld ?_
                  rotate_left
                  · (intro w9 hSw; (try dsimp only at hSw); go_simp; try (with_reducible rfl))
                  try simp only [Act.put, List.setIfInBounds_toArray, List.set_cons_zero, List.set_cons_succ]
                  refine wpAnyH_take (i := 7) (oi := ⟨_, _, _, _, _, _⟩) (v := ?_) rfl (by kernel_rfl) (by kernel_rfl) (by kernel_rfl) (fun _ _ _ h => h) (Or.inl ⟨by rfl, ?_⟩) hHeld ?_
                  rotate_left
                  · (intro w9 hSw; (try dsimp only at hSw); go_simp; try (with_reducible rfl))
                  try simp only [Act.put, List.setIfInBounds_toArray, List.set_cons_zero, List.set_cons_succ]
                  refine wpAnyH_take (i := 8) (oi := ⟨_, _, _, _, _, _⟩) (v := ?_) rfl (by kernel_rfl) (by kernel_rfl) (by kernel_rfl) (fun _ _ _ h => h) (Or.inl ⟨by rfl, ?_⟩) hHeld ?_
                  rotate_left
                  · (intro w9 hSw; (try dsimp only at hSw); go_simp; try (with_reducible rfl))
                  try simp only [Act.put, List.setIfInBounds_toArray, List.set_cons_zero, List.set_cons_succ]
                  refine wpAnyH_take (i := 9) (oi := ⟨_, _, _, _, _, _⟩) (v := ?_) rfl (by kernel_rfl) (by kernel_rfl) (by kernel_rfl) (fun _ _ _ h => h) (Or.inl ⟨by rfl, ?_⟩) hHeld ?_
                  rotate_left
                  · (intro w9 hSw; (try dsimp only at hSw); go_simp; try (with_reducible rfl))
                  try simp only [Act.put, List.setIfInBounds_toArray, List.set_cons_zero, List.set_cons_succ]
                  refine wpAnyH_take (i := 10) (oi := ⟨_, _, _, _, _, _⟩) (v := ?_) rfl (by kernel_rfl) (by kernel_rfl) (by kernel_rfl) (fun _ _ _ h => h) (Or.inl ⟨by rfl, ?_⟩) hHeld ?_
                  rotate_left
                  · (intro w9 hSw; (try dsimp only at hSw); go_simp; try (with_reducible rfl))
                  try simp only [Act.put, List.setIfInBounds_toArray, List.set_cons_zero, List.set_cons_succ]
                  refine wpAnyH_take (i := 11) (oi := ⟨_, _, _, _, _, _⟩) (v := ?_) rfl (by kernel_rfl) (by kernel_rfl) (by kernel_rfl) (fun _ _ _ h => h) (Or.inl ⟨by rfl, ?_⟩) hHeld ?_
                  rotate_left
                  · (intro w9 hSw; (try dsimp only at hSw); go_simp; try (with_reducible rfl))
                  try simp only [Act.put, List.setIfInBounds_toArray, List.set_cons_zero, List.set_cons_succ]
                  refine wpAnyH_ready (rs := [4, 12]) (by kernel_rfl) (by simp) ?_
                  refine AllReadyH.cons (o := ⟨_, _, _, _, _, _⟩) rfl (fun K hK => ?_) ?_
                  · go_simp
                    refine hK.out _ _ hHeld (fun hHeldA => ?_)
                    clear hK K
                    try simp only [Act.put, List.setIfInBounds_toArray, List.set_cons_zero, List.set_cons_succ]
                    refine wpAnyH_ready (rs := [12]) (by kernel_rfl) (by simp) ?_
                    refine AllReadyH.cons (o := ⟨_, _, _, _, _, _⟩) rfl (fun K hK => ?_) AllReadyH.nil
                    go_simp
                    refine hK.out _ _ dP (fun hHeld1 => ?_)
                    clear hK K
                    try simp only [Act.put, List.setIfInBounds_toArray, List.set_cons_zero, List.set_cons_succ]
                    refine wpAnyH_ready (rs := [13]) (by kernel_rfl) (by simp) ?_
                    refine AllReadyH.cons (o := ⟨_, _, _, _, _, _⟩) rfl (fun K hK => ?_) AllReadyH.nil
                    refine step_append_lies _ (by rfl) _ _ _ (by rfl) w.heap.size 36 j0 (.slice none 0 0) 1 24 Tryd.underlying22 hj0 jz0 jz1 jz2 rfl (by decide) (.slice (some ⟨wg, 0, none⟩) N wc') N wv (by rfl) own0 ⟨wc.heap.size, 0, none⟩ 1 1 [.slice (some ⟨xb, xo, none⟩) (k + 1) ci] (by rfl) (by rfl) news0 (fun v hv => by rw [List.mem_singleton.1 hv]; rfl) (by decide) (by unfold maxLen; have := AM.out; omega) (by have := AM.out; omega) (by show _ ≤ (wc.alloc (.cells #[.slice (some ⟨xb, xo, none⟩) (k + 1) ci] 36)).drew.heap.size; have := AM.out; omega) _ rfl ?_
                    intro gg cap' w2 hown2 hgrow hat hlt2
                    have p2 : w2.cell? ⟨pb, po + i, none⟩ = some (.slice (some ⟨xb, xo, none⟩) n ci) := (hgrow.cell_far ⟨pb, po + i, none⟩ (by show pb < (wc.alloc (.cells #[.slice (some ⟨xb, xo, none⟩) (k + 1) ci] 36)).drew.heap.size; have := AM.out; omega) oP).trans dP
                    have k2 : w2.cell? ⟨Q, 1, none⟩ = some (.slice (some ⟨wg, 0, none⟩) N wc') := (hgrow.cell_far ⟨Q, 1, none⟩ (by show Q < (wc.alloc (.cells #[.slice (some ⟨xb, xo, none⟩) (k + 1) ci] 36)).drew.heap.size; have := AM.out; omega) oQ).trans dW
                    have f2 : w2.frozen? ⟨Q, 1, none⟩ = false := (hgrow.frozen_far ⟨Q, 1, none⟩ (by show Q < (wc.alloc (.cells #[.slice (some ⟨xb, xo, none⟩) (k + 1) ci] 36)).drew.heap.size; have := AM.out; omega) oQ).trans dF
                    refine hK.out _ _ p2 (fun hHeldB => ?_)
                    clear hK K
                    try simp only [Act.put, List.setIfInBounds_toArray, List.set_cons_zero, List.set_cons_succ]
                    refine wpAnyH_take (i := 14) (oi := ⟨_, _, _, _, _, _⟩) (v := ?_) rfl (by kernel_rfl) (by kernel_rfl) (by kernel_rfl) (fun _ _ _ h => h) (Or.inl ⟨by rfl, ?_⟩) hHeldB ?_
                    rotate_left
                    · (intro w9 hSw; (try dsimp only at hSw); go_simp; try (with_reducible rfl))
                    try simp only [Act.put, List.setIfInBounds_toArray, List.set_cons_zero, List.set_cons_succ]
                    refine wpAnyH_take (i := 15) (oi := ⟨_, _, _, _, _, _⟩) (v := ?_) rfl (by kernel_rfl) (by kernel_rfl) (by kernel_rfl) (fun _ _ _ h => h) (Or.inl ⟨by rfl, ?_⟩) hHeldB ?_
                    rotate_left
                    · (intro w9 hSw; (try dsimp only at hSw); go_simp; try (with_reducible rfl))
                    try simp only [Act.put, List.setIfInBounds_toArray, List.set_cons_zero, List.set_cons_succ]
                    refine wpAnyH_ready (rs := [16]) (by kernel_rfl) (by simp) ?_
                    refine AllReadyH.cons (o := ⟨_, _, _, _, _, _⟩) rfl (fun K hK => ?_) AllReadyH.nil
                    go_simp
                    refine hK.out _ _ (by simp [p2, World.cell?_setCell_far, nP]) (fun hHeldC => ?_)
                    clear hK K
                    try simp only [Act.put, List.setIfInBounds_toArray, List.set_cons_zero, List.set_cons_succ]
                    refine wpAnyH_done (by kernel_rfl) ?_ _
                    refine NoPanic.normal ?_
                    go_wp2_with fail
                    go_meet
                    exact R16 gg cap' w2 hown2 hgrow
                  refine AllReadyH.cons (o := ⟨_, _, _, _, _, _⟩) rfl (fun K hK => ?_) ?_
                  · go_simp
                    refine hK.out _ _ dP (fun hHeldA => ?_)
                    clear hK K
                    try simp only [Act.put, List.setIfInBounds_toArray, List.set_cons_zero, List.set_cons_succ]
                    refine wpAnyH_ready (rs := [4]) (by kernel_rfl) (by simp) ?_
                    refine AllReadyH.cons (o := ⟨_, _, _, _, _, _⟩) rfl (fun K hK => ?_) AllReadyH.nil
                    go_simp
                    refine hK.out _ _ dP (fun hHeld1 => ?_)
                    clear hK K
                    try simp only [Act.put, List.setIfInBounds_toArray, List.set_cons_zero, List.set_cons_succ]
                    refine wpAnyH_ready (rs := [13]) (by kernel_rfl) (by simp) ?_
                    refine AllReadyH.cons (o := ⟨_, _, _, _, _, _⟩) rfl (fun K hK => ?_) AllReadyH.nil
                    refine step_append_lies _ (by rfl) _ _ _ (by rfl) w.heap.size 36 j0 (.slice none 0 0) 1 24 Tryd.underlying22 hj0 jz0 jz1 jz2 rfl (by decide) (.slice (some ⟨wg, 0, none⟩) N wc') N wv (by rfl) own0 ⟨wc.heap.size, 0, none⟩ 1 1 [.slice (some ⟨xb, xo, none⟩) (k + 1) ci] (by rfl) (by rfl) news0 (fun v hv => by rw [List.mem_singleton.1 hv]; rfl) (by decide) (by unfold maxLen; have := AM.out; omega) (by have := AM.out; omega) (by show _ ≤ (wc.alloc (.cells #[.slice (some ⟨xb, xo, none⟩) (k + 1) ci] 36)).drew.heap.size; have := AM.out; omega) _ rfl ?_
                    intro gg cap' w2 hown2 hgrow hat hlt2
                    have p2 : w2.cell? ⟨pb, po + i, none⟩ = some (.slice (some ⟨xb, xo, none⟩) n ci) := (hgrow.cell_far ⟨pb, po + i, none⟩ (by show pb < (wc.alloc (.cells #[.slice (some ⟨xb, xo, none⟩) (k + 1) ci] 36)).drew.heap.size; have := AM.out; omega) oP).trans dP
                    have k2 : w2.cell? ⟨Q, 1, none⟩ = some (.slice (some ⟨wg, 0, none⟩) N wc') := (hgrow.cell_far ⟨Q, 1, none⟩ (by show Q < (wc.alloc (.cells #[.slice (some ⟨xb, xo, none⟩) (k + 1) ci] 36)).drew.heap.size; have := AM.out; omega) oQ).trans dW
                    have f2 : w2.frozen? ⟨Q, 1, none⟩ = false := (hgrow.frozen_far ⟨Q, 1, none⟩ (by show Q < (wc.alloc (.cells #[.slice (some ⟨xb, xo, none⟩) (k + 1) ci] 36)).drew.heap.size; have := AM.out; omega) oQ).trans dF
                    refine hK.out _ _ p2 (fun hHeldB => ?_)
                    clear hK K
                    try simp only [Act.put, List.setIfInBounds_toArray, List.set_cons_zero, List.set_cons_succ]
                    refine wpAnyH_take (i := 14) (oi := ⟨_, _, _, _, _, _⟩) (v := ?_) rfl (by kernel_rfl) (by kernel_rfl) (by kernel_rfl) (fun _ _ _ h => h) (Or.inl ⟨by rfl, ?_⟩) hHeldB ?_
                    rotate_left
                    · (intro w9 hSw; (try dsimp only at hSw); go_simp; try (with_reducible rfl))
                    try simp only [Act.put, List.setIfInBounds_toArray, List.set_cons_zero, List.set_cons_succ]
                    refine wpAnyH_take (i := 15) (oi := ⟨_, _, _, _, _, _⟩) (v := ?_) rfl (by kernel_rfl) (by kernel_rfl) (by kernel_rfl) (fun _ _ _ h => h) (Or.inl ⟨by rfl, ?_⟩) hHeldB ?_
                    rotate_left
                    · (intro w9 hSw; (try dsimp only at hSw); go_simp; try (with_reducible rfl))
                    try simp only [Act.put, List.setIfInBounds_toArray, List.set_cons_zero, List.set_cons_succ]
                    refine wpAnyH_ready (rs := [16]) (by kernel_rfl) (by simp) ?_
                    refine AllReadyH.cons (o := ⟨_, _, _, _, _, _⟩) rfl (fun K hK => ?_) AllReadyH.nil
                    go_simp
                    refine hK.out _ _ (by simp [p2, World.cell?_setCell_far, nP]) (fun hHeldC => ?_)
                    clear hK K
                    try simp only [Act.put, List.setIfInBounds_toArray, List.set_cons_zero, List.set_cons_succ]
                    refine wpAnyH_done (by kernel_rfl) ?_ _
                    refine NoPanic.normal ?_
                    go_wp2_with fail
                    go_meet
                    exact R16 gg cap' w2 hown2 hgrow
                  exact AllReadyH.nil
                case rest =>
                  obtain ⟨vW2, wv2, h4⟩ := hcut.out
                  clear hcut news0 dW dF dP cW fW cP oQ oP own0 AR AM nP hsl kw jz0 jz1 jz2 hj0
                  obtain ⟨m0, hm0, mz0, mz1, mz2⟩ := info_parts info63
                  have hkl0 : (kids.set s (l ++ [(b, N)])).length = N := by rw [List.length_set]; have := AK.out; omega
                  have hko := h4.kown
                  rw [hkl0] at hko
                  have hQc : Q < wc.heap.size := lt_of_heap h4.q
                  have cK : wc.cell? ⟨Q, 2, none⟩ = some (.slice (some ⟨kg, 0, none⟩) N kc) := Cells.cell h4.q 2
                  have fK : wc.frozen? ⟨Q, 2, none⟩ = false := Cells.frozen h4.q 2
                  have oQ : some Q ≠ (Value.slice (some ⟨kg, 0, none⟩) N kc).ownBlock := fun e => by
                    obtain ⟨_, cur, hh⟩ := owns_type hko e.symm
                    have := h4.q; unfold Cells at this; rw [hh] at this; cases this
                  have b0 : Below wc.heap.size wc (wc.alloc (.cells #[.slice none 0 0] 63)) := (Below.refl wc.heap.size wc).alloc (Nat.le_refl _) _
                  have s0 : (wc.alloc (.cells #[.slice none 0 0] 63)).heap.size = wc.heap.size + 1 := by show (wc.heap.push _).size = _; simp
                  have own0 : (wc.alloc (.cells #[.slice none 0 0] 63)).ownsRow w.heap.size 63 1 (.slice (some ⟨kg, 0, none⟩) N kc) N kl2 := hko.alloc _
                  have news0 : ∀ j u, [Value.slice none 0 0][j]? = some u → (wc.alloc (.cells #[.slice none 0 0] 63)).cell? ((⟨wc.heap.size, 0, none⟩ : Addr).add j) = some u :=
                    World.news_of_block (cs := #[.slice none 0 0]) (Cells.new wc _ 63)
                  have AM : Aside (w.heap.size ≤ wc.heap.size ∧ (wc.alloc (.cells #[.slice none 0 0] 63)).heap.size = wc.heap.size + 1 ∧ Q < wc.heap.size ∧ N ≤ 2049 ∧ (wc.alloc (.cells #[.slice none 0 0] 63)).frozen? ⟨Q, 2, none⟩ = false ∧ (wc.alloc (.cells #[.slice none 0 0] 63)).cell? ⟨Q, 2, none⟩ = some (.slice (some ⟨kg, 0, none⟩) N kc)) := ⟨h4.bel.size, s0, hQc, AK.out.2.2.1, (b0.frozen (p := ⟨Q, 2, none⟩) hQc).trans fK, (b0.cell (p := ⟨Q, 2, none⟩) hQc).trans cK⟩
                  have AR : Aside (RB w wc Q (some ⟨pb, po, none⟩) L C (ws ++ [u ++ [b]]) (kids.set s (l ++ [(b, N)])) vW2 (.slice (some ⟨kg, 0, none⟩) N kc) wv2 kl2 ∧ Below wc.heap.size wc (wc.alloc (.cells #[.slice none 0 0] 63)) ∧ (kids.set s (l ++ [(b, N)])).length = N) := ⟨h4, b0, hkl0⟩
                  have hk32 : (k : Int) < 32 := by have := AP.out; have := AK.out; omega
                  clear h4 hko b0 s0 hQc hkl0 hsi
                  go_upto_region 18 with (first
                    | (at_builtin; refine wpList_plain rfl (fun KK hKK => wp_append_lies _ (.tmp 98) (.tmp 99) 38 rfl w.heap.size 63 m0 (.slice none 0 0) 1 24 Tryd.underlying38 hm0 mz0 mz1 mz2 rfl (by decide) (.slice (some ⟨kg, 0, none⟩) N kc) N kl2 rfl own0 ⟨wc.heap.size, 0, none⟩ 1 1 [.slice none 0 0] rfl rfl news0 (fun v hv => by rw [List.mem_singleton.1 hv]; rfl) (by decide) (by unfold maxLen; have := AM.out; omega) (by have := AM.out; omega) (by show _ ≤ (wc.alloc (.cells #[.slice none 0 0] 63)).heap.size; have := AM.out; omega) _ rfl (fun gg cap' w2 hown2 hgrow hat hlt2 => hKK _ _ ?_))
                       have k2 : w2.cell? ⟨Q, 2, none⟩ = some (.slice (some ⟨kg, 0, none⟩) N kc) := (hgrow.cell_far ⟨Q, 2, none⟩ (by show Q < (wc.alloc (.cells #[.slice none 0 0] 63)).heap.size; have := AM.out; omega) oQ).trans AM.out.2.2.2.2.2
                       have f2 : w2.frozen? ⟨Q, 2, none⟩ = false := (hgrow.frozen_far ⟨Q, 2, none⟩ (by show Q < (wc.alloc (.cells #[.slice none 0 0] 63)).heap.size; have := AM.out; omega) oQ).trans AM.out.2.2.2.2.1))
                  have hfin : Aside (St w (w2.setCell ⟨Q, 2, none⟩ (.slice (some ⟨gg, 0, none⟩) (N + 1) cap')) Q (some ⟨pb, po, none⟩) L C (ws ++ [u ++ [b]])) := by
                    obtain ⟨hR, hb, hkl0⟩ := AR.out
                    obtain ⟨_, hN, _, hs, hm, _, _, hkl, hkin, hfew, htri, _, _⟩ := AK.out
                    rw [← hkl0] at hown2
                    have hR2 := hR.addRow hb hgrow hown2
                    rw [hkl0] at hR2
                    obtain ⟨hR0, hl, _⟩ := AL.out
                    refine ⟨⟨_, _, _, _, _, hR2, ?_, ?_, ?_⟩, htri.add (List.mem_of_getElem? hs) hm⟩
                    · rw [List.length_append, List.length_append, hkl0, hN]; rfl
                    · have := kin_add htri hkin hkl hs hl hm
                      rw [hN] at this; exact this
                    · have := few_add (u := u) (b := b) hfew hl
                      rw [hN] at this; exact this
                  clear hown2 hgrow hat hlt2 k2 f2 cK fK oQ own0 news0 AM AR mz0 mz1 mz2 hm0
                  generalize w2.setCell ⟨Q, 2, none⟩ (.slice (some ⟨gg, 0, none⟩) (N + 1) cap') = w5 at hfin ⊢
                  go_wp2_with fail
                  have h1 := AK.out; have h2 := hK.out.1
                  go_roundg (n - (k + 1))
                  case measure => omega
                  case rel => exact ⟨N, k + 1, rfl, by go_num, ⟨by omega, _, hfin.out, by rw [h1.2.2.2.2.2.1, ← h1.2.1]; exact at_new _ _, by rw [h1.2.2.2.2.2.1, h1.2.2.2.2.2.2.1, lw_none h1.2.2.2.2.1]⟩⟩
          · have hk : ¬ (k : Int) < (n : Int) := by omega
            have hkN : k = n := by have := hK.out.1; omega
            have hib : (i : Int) < 64 := by omega
            have hfin : Aside (St w wr Q (some ⟨pb, po, none⟩) L C (words (ps.take (i + 1)))) := by
              have e1 : p.drop k = [] := List.drop_eq_nil_of_le (by have := AP.out; omega)
              rw [e1, lw] at hlw
              show St _ _ _ _ _ _ _
              rw [AP.out.2.2.2.2.2.2.1, hlw]; exact hS
            clear hkn hkN hS hs hlw hbel hN hNb
            go_wp2_with fail
            have h1 := hI.out.1; have h2 := AP.out.2.2.2.1
            go_roundg (L - (i + 1))
            case measure => omega
            case rel => exact ⟨i + 1, by go_num, ⟨by omega, hfin.out⟩⟩
      · have hi : ¬ (i : Int) < (L : Int) := by omega
        have hfin : Aside (∃ kids, Rm wr Q (words ps).length a L C (words ps) kids ∧ Below w.heap.size w wr) := by
          have e1 : ps.take i = ps := List.take_of_length_le (by have := AB.out; omega)
          have h1 := hI.out.2
          rw [e1] at h1
          have hb : Below w.heap.size w wr := by obtain ⟨_, _, _, _, _, h2, _⟩ := h1.ex; exact h2.bel
          have h2 := words_few AB.out.2.2.2 i
          rw [e1] at h2
          obtain ⟨kids, hk⟩ := h1.rm rfl (by omega)
          exact ⟨kids, hk, hb⟩
        clear hiL
        go_wp2_with fail
        first | go_ret | go_ret2
        obtain ⟨kids, h1, h2⟩ := hfin.out
        exact ⟨_, rfl, ⟨kids, h1⟩, h2⟩
end Go.Proofs.YtbepbjbbhenphaaDoor

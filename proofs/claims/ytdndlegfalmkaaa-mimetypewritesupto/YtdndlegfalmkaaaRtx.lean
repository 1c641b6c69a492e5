/-
  The document's Text.
-/
import Derived.Test.YtdndlegfalmkaaaMar
namespace Go.Proofs.Ytdndlegfalmkaaa
open Go.RowKit
set_option linter.unusedVariables false
theorem pt_tok {f : Fd} (h : tok f.2 = true) : pt f = ([59, 32] ++ f.1 ++ [61]) ++ f.2 := by
  unfold pt wr
  rw [h]
  simp
theorem pt_quo {f : Fd} (h : tok f.2 = false) : pt f = ([59, 32] ++ f.1 ++ [61]) ++ [34] ++ es f.2 ++ [34] := by
  unfold pt wr
  rw [h]
  simp
set_option maxRecDepth 20000 in
set_option maxHeartbeats 16000000 in
theorem rtext_c (w : World) (m s : List Nat) (a : Option Addr) (L c : Nat) (T : List Fd) (hv : FL w (.slice a L c) T) (hT : OctF T) (hm : Oct m) (hs : Oct s) (hb : m.length + s.length + wt T ≤ 1099511627776) : Calls Try.prog 18 #[.agg #[.string (st m), .string (st s), .slice a L c]] w fun e w' => e = .returned (.tuple #[.string (st ((tx (m, s, T)).getD [])), .bool (tx (m, s, T)).isSome]) ∧ Below w.heap.size w w' := by
  obtain ⟨R, hR⟩ : ∃ R, tx (m, s, T) = R := ⟨_, rfl⟩
  rw [hR]
  obtain ⟨H, hH⟩ : ∃ H, w.heap.size = H := ⟨_, rfl⟩
  obtain ⟨w1, hw1⟩ : ∃ w1, w1 = w.alloc (.cells #[.string (st m), .string (st s), .slice a L c] 24) := ⟨_, rfl⟩
  have b1 : Below w.heap.size w w1 := by rw [hw1]; exact (Below.refl _ w).alloc (Nat.le_refl _) _
  have k1 : Cells w1 H #[.string (st m), .string (st s), .slice a L c] 24 := by rw [hw1, ← hH]; exact Cells.new w _ 24
  have hsm := fun W => rsmall_c m hm (by omega) W
  have hss := fun W => rsmall_c s hs (by omega) W
  rw [hH] at b1 ⊢
  have zm : (st m).size = m.length := st_size m
  have zs : (st s).size = s.length := st_size s
  have e1 : st m ++ ⟨#[47]⟩ = st (m ++ [47]) := st_append m [47]
  have e2 : st (m ++ [47]) ++ st s = st (sofar m s T 0) := by rw [st_append]; simp [sofar]
  have hso0 : Oct (sofar m s T 0) := by
    unfold sofar
    exact hm.append (Oct.cons (by omega) (hs.append (by simp [Oct])))
  have hsl0 := sofar_len (m := m) (s := s) (T := T) (k := 0)
  obtain ⟨M, hM⟩ : ∃ M, st m = M := ⟨_, rfl⟩
  obtain ⟨S, hS⟩ : ∃ S, st s = S := ⟨_, rfl⟩
  obtain ⟨M1, hM1⟩ : ∃ M1, st (m ++ [47]) = M1 := ⟨_, rfl⟩
  obtain ⟨M2, hM2⟩ : ∃ M2, st (sofar m s T 0) = M2 := ⟨_, rfl⟩
  have z1 : M1.size = m.length + 1 := by rw [← hM1, st_size]; simp
  rw [hM] at hsm k1 hw1 zm e1 ⊢
  rw [hS] at hss k1 hw1 zs e2 ⊢
  rw [hM1] at e1 e2
  rw [hM2] at e2
  have hbo := fun W => bytes_om hso0 (by omega) W
  obtain ⟨n0, hn0⟩ : ∃ n0, (sofar m s T 0).length = n0 := ⟨_, rfl⟩
  simp only [hM2, hn0] at hbo
  obtain ⟨lm, hlm⟩ : ∃ lm, m.length = lm := ⟨_, rfl⟩
  obtain ⟨ls, hls⟩ : ∃ ls, s.length = ls := ⟨_, rfl⟩
  rw [hlm] at zm z1
  rw [hls] at zs
  have u1 : (9223372036854775807 < lm + 1) = False := eq_false (by omega)
  have u2 : (9223372036854775807 < lm + 1 + ls) = False := eq_false (by omega)
  have hF2 : ∀ W, Below w1.heap.size w1 W → W.cell? ⟨H, 0, none⟩ = some (.string M) ∧ W.cell? ⟨H, 1, none⟩ = some (.string S) := fun W hW => by
    have k := k1.below hW k1.lt
    exact ⟨by rw [k.cell]; rfl, by rw [k.cell]; rfl⟩
  have hF1 : w1.cell? ⟨H, 0, none⟩ = some (.string M) := by rw [k1.cell]; rfl
  have A : Aside (FL w (.slice a L c) T ∧ OctF T ∧ Oct m ∧ Oct s ∧ m.length + s.length + wt T ≤ 1099511627776 ∧ tx (m, s, T) = R ∧ w.heap.size = H ∧ Below H w w1 ∧ Cells w1 H #[.string M, .string S, .slice a L c] 24) := ⟨hv, hT, hm, hs, hb, hR, hH, b1, k1⟩
  clear hv hT hm hs hb hR hH b1 k1 hM hS hM1 hM2 hlm hls hso0 hsl0 hn0
  cases h1 : sm m with
  | false =>
    rw [h1] at hsm
    have A2 : Aside (R = none) := by rw [← A.out.2.2.2.2.2.1]; exact tx_m h1
    clear h1 hss hbo hF2 e1 e2 zm zs z1 u1 u2
    go_enter Try.func18, Try.ntmps18
    go_upto_region 1 with fail
    (try simp only [A.out.2.2.2.2.2.2.1])
    rw [← hw1]
    clear hw1
    go_wp2_with (go_at_call 40; (with_reducible refine (hsm _).mono ?_); rintro e1 w2 ⟨rfl, hb2⟩)
    go_ret2
    exact ⟨by rw [A2.out]; rfl, A.out.2.2.2.2.2.2.2.1.trans (hb2.mono (by have := A.out.2.2.2.2.2.2.2.2.lt; omega))⟩
  | true =>
    rw [h1] at hsm
    cases h2 : sm s with
    | false =>
      rw [h2] at hss
      have A2 : Aside (R = none) := by rw [← A.out.2.2.2.2.2.1]; exact tx_s h2
      clear h1 h2 hbo e1 e2 zm zs z1 u1 u2
      go_enter Try.func18, Try.ntmps18
      go_upto_region 1 with fail
      (try simp only [A.out.2.2.2.2.2.2.1])
      rw [← hw1]
      clear hw1
      go_wp2_with (first
        | (go_at_call 40; (with_reducible refine (hsm w1).mono ?_); rintro e1 w2 ⟨rfl, hb2⟩; have x1 := (hF2 w2 hb2).2)
        | (go_at_call 40; (with_reducible refine (hss w2).mono ?_); rintro e2 w3 ⟨rfl, hb3⟩))
      go_ret2
      have hlt := A.out.2.2.2.2.2.2.2.2.lt
      have hsz := hb2.size
      exact ⟨by rw [A2.out]; rfl, (A.out.2.2.2.2.2.2.2.1.trans (hb2.mono (by omega))).trans (hb3.mono (by omega))⟩
    | true =>
      rw [h2] at hss
      have A0 : Aside (sm m = true ∧ sm s = true) := ⟨h1, h2⟩
      clear h1 h2
      go_enter Try.func18, Try.ntmps18
      go_upto_region 1 with fail
      (try simp only [A.out.2.2.2.2.2.2.1])
      rw [← hw1]
      clear hw1
      go_upto_region 3 with (first
        | (go_at_call 40; (with_reducible refine (hsm w1).mono ?_); rintro e1 w2 ⟨rfl, hb2⟩; have x1 := (hF2 w2 hb2).2)
        | (go_at_call 40; (with_reducible refine (hss w2).mono ?_); rintro e2 w3 ⟨rfl, hb3⟩))
      have hlt := A.out.2.2.2.2.2.2.2.2.lt
      have hsz := hb2.size
      have b3 : Below H w w3 := (A.out.2.2.2.2.2.2.2.1.trans (hb2.mono (by omega))).trans (hb3.mono (by omega))
      have k3 := (A.out.2.2.2.2.2.2.2.2.below hb2 hlt).below hb3 (by omega)
      obtain ⟨y0, y1⟩ := hF2 w3 (hb2.trans (hb3.mono hb2.size))
      obtain ⟨w4, va4, c4, hcv, hom, hb4⟩ := hbo w3
      have k4 := k3.below hb4 k3.lt
      have A4 : Aside (Cells w4 H #[.string M, .string S, .slice a L c] 24 ∧ Below H w w4 ∧ Om w4 w3.heap.size (.slice va4 n0 c4) n0 (sofar m s T 0) ∧ H < w3.heap.size) := ⟨k4, b3.trans (hb4.mono (by have := k3.lt; omega)), hom, k3.lt⟩
      obtain ⟨lo, hlo⟩ : ∃ lo, w3.heap.size = lo := ⟨_, rfl⟩
      rw [hlo] at A4
      clear hlt hsz b3 k3 k4 hom hb4 hb2 hb3 x1 hsm hss hF1 hF2 hbo
      go_wp2_with fail
      clear hcv y0 y1 e1 e2 zm zs z1 u1 u2 hlo
      go_loopg [4, 5] L (fun gg s4 s5 wr => ∃ (k : Nat) (va : Option Addr) (n cc : Nat), s4 = .slice va n cc ∧ s5 = .int .i64 k ∧ Aside (k + gg = L ∧ Cells wr H #[.string M, .string S, .slice a L c] 24 ∧ Below H w wr ∧ Om wr lo (.slice va n cc) n (sofar m s T k) ∧ ∀ f ∈ T.take k, sm f.1 = true))
      case atStart => exact ⟨0, va4, n0, c4, rfl, rfl, by omega, A4.out.1, A4.out.2.1, A4.out.2.2.1, by simp⟩
      case round =>
        obtain ⟨k, va, n, cc, rfl, rfl, hI⟩ := hrel
        obtain ⟨hkg, hkH, hbel, hom, hall⟩ := hI.out
        obtain ⟨hv, hT, hm, hs, hbd, hR, hH, _, _⟩ := A.out
        have hHlo := A4.out.2.2.2
        have hTL := hv.len
        have hwtT := wt_len T
        have c2 : wr.cell? ⟨H, 2, none⟩ = some (.slice a L c) := by rw [hkH.cell]; rfl
        obtain ⟨G, hG⟩ : ∃ G, G = gk := ⟨_, rfl⟩
        subst hG
        by_cases hk : k < L
        · have hki : ((k : Int) < (L : Int)) = True := eq_true (by omega)
          have hkn : (k < L) = True := eq_true hk
          have hkb : (k : Int) < 1000000000000000 := by omega
          obtain ⟨f, hf⟩ : ∃ f, T[k]? = some f := ⟨_, List.getElem?_eq_getElem (by omega)⟩
          have hfm := List.mem_of_getElem? hf
          obtain ⟨g, o, ha, d1, d2⟩ := hv.pick hbel (by omega) hf
          have hfo := hT f hfm
          have hfw := wt_mem hfm
          subst ha
          have hsm := fun W => rsmall_c f.1 hfo.1 (by omega) W
          have htk := fun W => rtoken_c f.2 hfo.2 (by omega) W
          obtain ⟨K, hK⟩ : ∃ K, wr.heap.size = K := ⟨_, rfl⟩
          have ex1 : (⟨#[59, 32]⟩ : ByteArray) ++ st f.1 = st ([59, 32] ++ f.1) := st_append [59, 32] f.1
          have ex2 : st ([59, 32] ++ f.1) ++ (⟨#[61]⟩ : ByteArray) = st ([59, 32] ++ f.1 ++ [61]) := st_append ([59, 32] ++ f.1) [61]
          have zx : (st f.1).size = f.1.length := st_size _
          have zx1 : (st ([59, 32] ++ f.1)).size = f.1.length + 2 := by rw [st_size]; simp
          have zy : (st f.2).size = f.2.length := st_size _
          have oX2 : Oct ([59, 32] ++ f.1 ++ [61]) := ((Oct.cons (by omega) (Oct.cons (by omega) Oct.nil)).append hfo.1).append (Oct.cons (by omega) Oct.nil)
          have lX2 : ([59, 32] ++ f.1 ++ [61]).length = f.1.length + 3 := by simp
          obtain ⟨X, hX⟩ : ∃ X, st f.1 = X := ⟨_, rfl⟩
          obtain ⟨Y, hY⟩ : ∃ Y, st f.2 = Y := ⟨_, rfl⟩
          obtain ⟨X1, hX1⟩ : ∃ X1, st ([59, 32] ++ f.1) = X1 := ⟨_, rfl⟩
          obtain ⟨X2, hX2⟩ : ∃ X2, st ([59, 32] ++ f.1 ++ [61]) = X2 := ⟨_, rfl⟩
          obtain ⟨nx, hnx⟩ : ∃ nx, f.1.length = nx := ⟨_, rfl⟩
          obtain ⟨ny, hny⟩ : ∃ ny, f.2.length = ny := ⟨_, rfl⟩
          rw [hX] at d1 hsm ex1 zx
          rw [hY] at d2 htk zy
          rw [hX1] at ex1 ex2 zx1
          rw [hX2] at ex2
          rw [hnx] at zx zx1 lX2
          rw [hny] at zy
          have u1 : (9223372036854775807 < 2 + nx) = False := eq_false (by omega)
          have u1' : (9223372036854775807 < nx + 2) = False := eq_false (by omega)
          have u2 : (9223372036854775807 < nx + 2 + 1) = False := eq_false (by omega)
          obtain ⟨w6, hw6⟩ : ∃ w6, w6 = wr.alloc (.cells #[.string X, .string Y] 29) := ⟨_, rfl⟩
          have b6 : Below wr.heap.size wr w6 := by rw [hw6]; exact (Below.refl _ wr).alloc (Nat.le_refl _) _
          have kK : Cells w6 K #[.string X, .string Y] 29 := by rw [hw6, ← hK]; exact Cells.new wr _ 29
          have c0 : w6.cell? ⟨K, 0, none⟩ = some (.string X) := by rw [kK.cell]; rfl
          have om6 := hom.below b6 (Nat.le_refl _)
          have kH6 := hkH.below b6 hkH.lt
          have hsz : H ≤ wr.heap.size := by rw [← hH]; exact hbel.size
          have bel6 : Below H w w6 := hbel.trans (b6.mono hsz)
          have hsl := sofar_len (m := m) (s := s) (T := T) (k := k)
          have hsl2 := sofar_len (m := m) (s := s) (T := T) (k := k + 1)
          have hnl := hom.len
          cases h1 : sm f.1 with
          | false =>
            rw [h1] at hsm
            have A6 : Aside (R = none ∧ Below H w w6 ∧ H ≤ w6.heap.size) := ⟨by rw [← hR]; exact tx_f hfm h1, bel6, by have := b6.size; omega⟩
            clear hI hkg hkH hbel hom hall hv hT hm hs hbd hR hH hHlo hTL hwtT hk hf hfm hfo hfw htk ex1 ex2 zx zx1 zy oX2 lX2 hX hY hX1 hX2 hnx hny u1 u1' u2 b6 kK om6 kH6 hsz bel6 hsl hsl2 hnl h1
            go_upto_region 8 with fail
            rw [← hw6]
            clear hw6 hK d1 d2 c2
            go_wp2_with (go_at_call 40; (with_reducible refine (hsm _).mono ?_); rintro e7 w7 ⟨rfl, hb7⟩)
            go_ret2
            exact ⟨by rw [A6.out.1]; rfl, A6.out.2.1.trans (hb7.mono A6.out.2.2)⟩
          | true =>
            rw [h1] at hsm
            rw [sofar_next hf] at hsl2
            have hC : ∀ W, Cells W K #[.string X, .string Y] 29 → W.cell? ⟨K, 0, none⟩ = some (.string X) ∧ W.cell? ⟨K, 1, none⟩ = some (.string Y) := fun W hW => ⟨by rw [hW.cell]; rfl, by rw [hW.cell]; rfl⟩
            have A6 : Aside (k + G = L ∧ k < L ∧ Below H w w6 ∧ H ≤ w6.heap.size ∧ H < lo ∧ Cells w6 K #[.string X, .string Y] 29 ∧ Cells w6 H #[.string M, .string S, .slice (some ⟨g, o, none⟩) L c] 24 ∧ Om w6 lo (.slice va n cc) n (sofar m s T k) ∧ (∀ f ∈ T.take (k + 1), sm f.1 = true) ∧ sofar m s T (k + 1) = sofar m s T k ++ pt f ∧ Oct ([59, 32] ++ f.1 ++ [61]) ∧ ([59, 32] ++ f.1 ++ [61]).length = nx + 3 ∧ n + (nx + 3) ≤ 140737488355328 ∧ st ([59, 32] ++ f.1 ++ [61]) = X2 ∧ st f.2 = Y ∧ Oct f.2 ∧ f.2.length = ny ∧ n + nx + 2 * ny + 100 ≤ 140737488355328) := by
              refine ⟨hkg, hk, bel6, by have := b6.size; omega, hHlo, kK, kH6, om6, fun q hq => ?_, sofar_next hf, oX2, lX2, by omega, hX2, hY, hfo.2, hny, by omega⟩
              rw [List.take_add_one, hf] at hq
              rcases List.mem_append.1 hq with h | h
              · exact hall q h
              · simp at h; rw [h]; exact h1
            clear hI hkg hkH hbel hom hall hv hT hm hs hbd hR hH hHlo hTL hwtT hk hf hfm hfo hfw oX2 lX2 hX hY hX1 hX2 hnx b6 kK om6 kH6 hsz bel6 hsl hsl2 hnl h1
            go_upto_region 8 with fail
            rw [← hw6]
            clear hw6 hK d1 d2 c2
            go_upto_region 10 with (go_at_call 40; (with_reducible refine (hsm _).mono ?_); rintro e7 w7 ⟨rfl, hb7⟩)
            have kK7 := A6.out.2.2.2.2.2.1.below hb7 A6.out.2.2.2.2.2.1.lt
            have kH7 := A6.out.2.2.2.2.2.2.1.below hb7 A6.out.2.2.2.2.2.2.1.lt
            have om7 := A6.out.2.2.2.2.2.2.2.1.below hb7 (Nat.le_refl _)
            have b7 : Below H w w7 := A6.out.2.2.1.trans (hb7.mono A6.out.2.2.2.1)
            obtain ⟨p0, p1⟩ := hC w7 kK7
            have A7 : Aside (Cells w7 K #[.string X, .string Y] 29 ∧ Cells w7 H #[.string M, .string S, .slice (some ⟨g, o, none⟩) L c] 24 ∧ Below H w w7) := ⟨kK7, kH7, b7⟩
            clear hsm c0 hb7 kK7 kH7 b7 p1
            go_upto_region 11 with (at_builtin; refine wpList_oms _ rfl (.tmp 41) (.tmp 45) rfl lo (.slice va n cc) n (sofar m s T k) (by rfl) om7 ([59, 32] ++ f.1 ++ [61]) (nx + 3) X2 A6.out.2.2.2.2.2.2.2.2.2.2.2.2.2.1.symm A6.out.2.2.2.2.2.2.2.2.2.2.2.1 A6.out.2.2.2.2.2.2.2.2.2.2.1 (by rfl) A6.out.2.2.2.2.2.2.2.2.2.2.2.2.1 ?_; intro va8 c8 w8 hg8)
            have kK8 := A7.out.1.gom hg8 (by decide)
            have kH8 := A7.out.2.1.gom hg8 (by decide)
            have b8 : Below H w w8 := A7.out.2.2.trans (hg8.bel.mono (by have := A6.out.2.2.2.2.1; omega))
            have om8 := hg8.om
            obtain ⟨p0', p1'⟩ := hC w8 kK8
            obtain ⟨n8, hn8⟩ : ∃ n8, n + (nx + 3) = n8 := ⟨_, rfl⟩
            rw [hn8] at om8 ⊢
            have A8 : Aside (Cells w8 K #[.string X, .string Y] 29 ∧ Cells w8 H #[.string M, .string S, .slice (some ⟨g, o, none⟩) L c] 24 ∧ Below H w w8 ∧ n + (nx + 3) = n8 ∧ H < lo) := ⟨kK8, kH8, b8, hn8, A6.out.2.2.2.2.1⟩
            clear om7 p0 hg8 kK8 kH8 b8 hn8 A7 ex1 ex2 zx zx1 u1 u1' u2 p0'
            cases ht : tok f.2 with
            | true =>
              rw [ht] at htk
              have A9 : Aside (pt f = ([59, 32] ++ f.1 ++ [61]) ++ f.2 ∧ n8 + ny ≤ 140737488355328) := ⟨pt_tok ht, by have h1 := A6.out.2.2.2.2.2.2.2.2.2.2.2.2.2.2.2.2.2; have h2 := A8.out.2.2.2.1; omega⟩
              clear ht
              go_wp2_with (first
                | (go_at_call 13; (with_reducible refine (htk _).mono ?_); rintro e9 w9 ⟨rfl, hw9⟩; have hw9' := hw9.symm; subst hw9')
                | (at_builtin; refine wpList_oms _ rfl (.tmp 50) (.tmp 52) rfl lo (.slice va8 n8 c8) n8 _ (by rfl) om8 f.2 ny Y A6.out.2.2.2.2.2.2.2.2.2.2.2.2.2.2.1.symm A6.out.2.2.2.2.2.2.2.2.2.2.2.2.2.2.2.2.1 A6.out.2.2.2.2.2.2.2.2.2.2.2.2.2.2.2.1 (by rfl) A9.out.2 ?_; intro va9 c9 w9 hg9))
              have kH9 := A8.out.2.1.gom hg9 (by decide)
              have b9 : Below H w w9 := A8.out.2.2.1.trans (hg9.bel.mono (by have := A8.out.2.2.2.2; omega))
              have om9 := hg9.om
              have a6 := A6.out
              go_roundg (G - 1)
              case measure => omega
              case rel => exact ⟨k + 1, va9, n8 + ny, c9, rfl, by go_num, by omega, kH9, b9, by rw [a6.2.2.2.2.2.2.2.2.2.1, A9.out.1, ← List.append_assoc]; exact om9, a6.2.2.2.2.2.2.2.2.1⟩
            | false =>
              rw [ht] at htk
              obtain ⟨K9, hK9⟩ : ∃ K9, w8.heap.size = K9 := ⟨_, rfl⟩
              have bal : Below w8.heap.size w8 (w8.alloc (.cells #[.int .u8 34] 5)) := (Below.refl _ w8).alloc (Nat.le_refl _) _
              have om8b := om8.below bal (Nat.le_refl _)
              have hcy : (w8.alloc (.cells #[.int .u8 34] 5)).cell? ⟨K9, 0, none⟩ = some (.int .u8 ((34 : Nat) : Int)) := by rw [← hK9, (Cells.new w8 _ 5).cell]; rfl
              have A9 : Aside (pt f = ([59, 32] ++ f.1 ++ [61]) ++ [34] ++ es f.2 ++ [34] ∧ n8 + 1 ≤ 140737488355328 ∧ Cells (w8.alloc (.cells #[.int .u8 34] 5)) K #[.string X, .string Y] 29 ∧ Cells (w8.alloc (.cells #[.int .u8 34] 5)) H #[.string M, .string S, .slice (some ⟨g, o, none⟩) L c] 24 ∧ Below H w (w8.alloc (.cells #[.int .u8 34] 5))) := ⟨pt_quo ht, by have h1 := A6.out.2.2.2.2.2.2.2.2.2.2.2.2.2.2.2.2.2; have h2 := A8.out.2.2.2.1; omega, A8.out.1.alloc _, A8.out.2.1.alloc _, A8.out.2.2.1.trans (bal.mono (Nat.le_of_lt A8.out.2.1.lt))⟩
              clear ht bal om8
              go_upto_region 14 with (first
                | (go_at_call 13; (with_reducible refine (htk _).mono ?_); rintro e9 w9 ⟨rfl, hw9⟩; have hw9' := hw9.symm; subst hw9')
                | (at_builtin; refine wpList_om1 _ rfl (.tmp 54) (.tmp 55) rfl lo (.slice va8 n8 c8) n8 _ (by rfl) om8b K9 34 1 (by rfl) hcy A9.out.2.1 ?_; intro va9 c9 w9 hg9))
              have kK9 := A9.out.2.2.1.gom hg9 (by decide)
              have kH9 := A9.out.2.2.2.1.gom hg9 (by decide)
              have b9 : Below H w w9 := A9.out.2.2.2.2.trans (hg9.bel.mono (by have := A8.out.2.2.2.2; omega))
              have om9 := hg9.om
              obtain ⟨pre, hpre⟩ : ∃ pre, sofar m s T k ++ ([59, 32] ++ f.1 ++ [61]) ++ [34] = pre := ⟨_, rfl⟩
              rw [hpre] at om9
              have A10 : Aside (Cells w9 K #[.string X, .string Y] 29 ∧ Cells w9 H #[.string M, .string S, .slice (some ⟨g, o, none⟩) L c] 24 ∧ Below H w w9 ∧ Om w9 lo (.slice va9 (n8 + 1) c9) (n8 + 1) pre ∧ sofar m s T (k + 1) = pre ++ es f.2 ++ [34] ∧ H < lo ∧ n8 + 2 * ny + 50 ≤ 140737488355328 ∧ Oct f.2 ∧ f.2.length = ny ∧ st f.2 = Y) := ⟨kK9, kH9, b9, om9, by rw [A6.out.2.2.2.2.2.2.2.2.2.1, A9.out.1, ← hpre]; simp, A8.out.2.2.2.2, by have h1 := A6.out.2.2.2.2.2.2.2.2.2.2.2.2.2.2.2.2.2; have h2 := A8.out.2.2.2.1; omega, A6.out.2.2.2.2.2.2.2.2.2.2.2.2.2.2.2.1, A6.out.2.2.2.2.2.2.2.2.2.2.2.2.2.2.2.2.1, A6.out.2.2.2.2.2.2.2.2.2.2.2.2.2.2.1⟩
              clear om8b hcy hK9 hg9 kK9 kH9 b9 om9 hpre A8 A9 htk p1'
              go_wp2_with fail
              go_loopg [4, 7] ny (fun g2 s4 s7 wr => ∃ (j : Nat) (vb : Option Addr) (q cb : Nat), s4 = .slice vb q cb ∧ s7 = .int .i64 j ∧ Aside (j + g2 = ny ∧ Cells wr K #[.string X, .string Y] 29 ∧ Cells wr H #[.string M, .string S, .slice (some ⟨g, o, none⟩) L c] 24 ∧ Below H w wr ∧ Om wr lo (.slice vb q cb) q (pre ++ es (f.2.take j)) ∧ q ≤ n8 + 1 + 2 * j))
              case atStart =>
                obtain ⟨a1, a2, a3, a4, _⟩ := A10.out
                exact ⟨0, va9, n8 + 1, c9, rfl, rfl, by omega, a1, a2, a3, by simpa [es] using a4, by omega⟩
              case round =>
                obtain ⟨j, vb, q, cb, rfl, rfl, hJ⟩ := hrel
                obtain ⟨hjg, jK, jH, jB, jO, jq⟩ := hJ.out
                obtain ⟨_, _, _, _, a5, a6, a7, a8, a9, a10⟩ := A10.out
                obtain ⟨x0, x1⟩ := hC wr jK
                by_cases hj : j < ny
                · have hji : ((j : Int) < (ny : Int)) = True := eq_true (by omega)
                  have hjn : (j < ny) = True := eq_true hj
                  have hjb : (j : Int) < 1000000000000000 := by omega
                  obtain ⟨y, hy⟩ : ∃ y, f.2[j]? = some y := ⟨_, List.getElem?_eq_getElem (by omega)⟩
                  have hy0 : ∀ h : j < Y.size, (Y[j]'h).toNat = y := by rw [← a10]; exact fun h => st_get a8 hy h
                  have hsn : es (f.2.take (j + 1)) = es (f.2.take j) ++ (if y = 34 ∨ y = 92 then [92, y] else [y]) := by rw [take_more hy, es_snoc]
                  by_cases hq : y = 34 ∨ y = 92
                  · rw [if_pos hq] at hsn
                    obtain ⟨P, hP⟩ : ∃ P, wr.heap.size = P := ⟨_, rfl⟩
                    have bal : Below wr.heap.size wr (wr.alloc (.cells #[.int .u8 92] 5)) := (Below.refl _ wr).alloc (Nat.le_refl _) _
                    have om2 := jO.below bal (Nat.le_refl _)
                    have hcy : (wr.alloc (.cells #[.int .u8 92] 5)).cell? ⟨P, 0, none⟩ = some (.int .u8 ((92 : Nat) : Int)) := by rw [← hP, (Cells.new wr _ 5).cell]; rfl
                    have A11 : Aside (j + gk = ny ∧ j < ny ∧ es (f.2.take (j + 1)) = es (f.2.take j) ++ [92, y] ∧ Cells (wr.alloc (.cells #[.int .u8 92] 5)) K #[.string X, .string Y] 29 ∧ Cells (wr.alloc (.cells #[.int .u8 92] 5)) H #[.string M, .string S, .slice (some ⟨g, o, none⟩) L c] 24 ∧ Below H w (wr.alloc (.cells #[.int .u8 92] 5)) ∧ q + 1 ≤ 140737488355328 ∧ q + 1 + 1 ≤ 140737488355328 ∧ q ≤ n8 + 1 + 2 * j ∧ H < lo) := ⟨hjg, hj, hsn, jK.alloc _, jH.alloc _, jB.trans (bal.mono (Nat.le_of_lt jH.lt)), by omega, by omega, jq, a6⟩
                    have t2 : ((y : Int) == 34) = true ∨ (((y : Int) == 34) = false ∧ ((y : Int) == 92) = true) := by
                      rcases hq with rfl | rfl
                      · exact Or.inl (by decide)
                      · exact Or.inr ⟨by decide, by decide⟩
                    clear hJ hjg jK jH jB jO jq a5 a6 a7 a8 a9 a10 hj hy hsn hq bal
                    rcases t2 with t2 | ⟨t2, t3⟩
                    all_goals
                      go_upto_region 19 with (at_builtin; refine wpList_om1 _ rfl (.tmp 76) (.tmp 77) rfl lo (.slice vb q cb) q _ (by rfl) om2 P 92 1 (by rfl) hcy A11.out.2.2.2.2.2.2.1 ?_; intro v11 c11 w11 hg11)
                      obtain ⟨b1, b2, b3, b4, b5, b6, b7, b8, b9, b10⟩ := A11.out
                      have K11 := b4.gom hg11 (by decide)
                      have H11 := b5.gom hg11 (by decide)
                      have B11 : Below H w w11 := b6.trans (hg11.bel.mono (by omega))
                      have om11 := hg11.om
                      obtain ⟨P2, hP2⟩ : ∃ P2, w11.heap.size = P2 := ⟨_, rfl⟩
                      have bal2 : Below w11.heap.size w11 (w11.alloc (.cells #[.int .u8 (y : Int)] 5)) := (Below.refl _ w11).alloc (Nat.le_refl _) _
                      have om12 := om11.below bal2 (Nat.le_refl _)
                      have hcz : (w11.alloc (.cells #[.int .u8 (y : Int)] 5)).cell? ⟨P2, 0, none⟩ = some (.int .u8 (y : Int)) := by rw [← hP2, (Cells.new w11 _ 5).cell]; rfl
                      obtain ⟨x2, x3⟩ := hC w11 K11
                      have A12 : Aside (Cells (w11.alloc (.cells #[.int .u8 (y : Int)] 5)) K #[.string X, .string Y] 29 ∧ Cells (w11.alloc (.cells #[.int .u8 (y : Int)] 5)) H #[.string M, .string S, .slice (some ⟨g, o, none⟩) L c] 24 ∧ Below H w (w11.alloc (.cells #[.int .u8 (y : Int)] 5))) := ⟨K11.alloc _, H11.alloc _, B11.trans (bal2.mono (Nat.le_of_lt H11.lt))⟩
                      clear b1 b2 b3 b4 b5 b6 b7 b9 b10 K11 H11 B11 om11 bal2 hg11 om2 hcy hP x0 x1
                      go_wp2_with (at_builtin; refine wpList_om1 _ rfl (.tmp 79) (.tmp 84) rfl lo (.slice v11 (q + 1) c11) (q + 1) _ (by rfl) om12 P2 y 1 (by rfl) hcz b8 ?_; intro v13 c13 w13 hg13)
                      obtain ⟨b1, b2, b3, b4, b5, b6, b7, b8', b9, b10⟩ := A11.out
                      go_roundg (gk - 1)
                      case measure => omega
                      case rel => exact ⟨j + 1, v13, q + 1 + 1, c13, rfl, by go_num, by omega, A12.out.1.gom hg13 (by decide), A12.out.2.1.gom hg13 (by decide), A12.out.2.2.trans (hg13.bel.mono (by omega)), by rw [b3]; have hh := hg13.om; simpa using hh, by omega⟩
                  · rw [if_neg hq] at hsn
                    have t2 : ((y : Int) == 34) = false := by rw [beq_eq_false_iff_ne]; omega
                    have t3 : ((y : Int) == 92) = false := by rw [beq_eq_false_iff_ne]; omega
                    obtain ⟨P, hP⟩ : ∃ P, wr.heap.size = P := ⟨_, rfl⟩
                    have bal : Below wr.heap.size wr (wr.alloc (.cells #[.int .u8 (y : Int)] 5)) := (Below.refl _ wr).alloc (Nat.le_refl _) _
                    have om2 := jO.below bal (Nat.le_refl _)
                    have hcy : (wr.alloc (.cells #[.int .u8 (y : Int)] 5)).cell? ⟨P, 0, none⟩ = some (.int .u8 (y : Int)) := by rw [← hP, (Cells.new wr _ 5).cell]; rfl
                    have A11 : Aside (j + gk = ny ∧ j < ny ∧ es (f.2.take (j + 1)) = es (f.2.take j) ++ [y] ∧ Cells (wr.alloc (.cells #[.int .u8 (y : Int)] 5)) K #[.string X, .string Y] 29 ∧ Cells (wr.alloc (.cells #[.int .u8 (y : Int)] 5)) H #[.string M, .string S, .slice (some ⟨g, o, none⟩) L c] 24 ∧ Below H w (wr.alloc (.cells #[.int .u8 (y : Int)] 5)) ∧ q + 1 ≤ 140737488355328 ∧ q ≤ n8 + 1 + 2 * j ∧ H < lo) := ⟨hjg, hj, hsn, jK.alloc _, jH.alloc _, jB.trans (bal.mono (Nat.le_of_lt jH.lt)), by omega, jq, a6⟩
                    clear hJ hjg jK jH jB jO jq a5 a6 a7 a8 a9 a10 hj hy hsn hq bal
                    go_wp2_with (at_builtin; refine wpList_om1 _ rfl (.tmp 79) (.tmp 84) rfl lo (.slice vb q cb) q _ (by rfl) om2 P y 1 (by rfl) hcy A11.out.2.2.2.2.2.2.1 ?_; intro v13 c13 w13 hg13)
                    obtain ⟨b1, b2, b3, b4, b5, b6, b7, b9, b10⟩ := A11.out
                    go_roundg (gk - 1)
                    case measure => omega
                    case rel => exact ⟨j + 1, v13, q + 1, c13, rfl, by go_num, by omega, b4.gom hg13 (by decide), b5.gom hg13 (by decide), b6.trans (hg13.bel.mono (by omega)), by rw [b3]; have hh := hg13.om; simpa using hh, by omega⟩
                · have hji : ((j : Int) < (ny : Int)) = False := eq_false (by omega)
                  have hjn : (j < ny) = False := eq_false hj
                  have e : f.2.take j = f.2 := List.take_of_length_le (by omega)
                  rw [e] at jO
                  obtain ⟨P, hP⟩ : ∃ P, wr.heap.size = P := ⟨_, rfl⟩
                  have bal : Below wr.heap.size wr (wr.alloc (.cells #[.int .u8 34] 5)) := (Below.refl _ wr).alloc (Nat.le_refl _) _
                  have om2 := jO.below bal (Nat.le_refl _)
                  have hcy : (wr.alloc (.cells #[.int .u8 34] 5)).cell? ⟨P, 0, none⟩ = some (.int .u8 ((34 : Nat) : Int)) := by rw [← hP, (Cells.new wr _ 5).cell]; rfl
                  have A11 : Aside (sofar m s T (k + 1) = pre ++ es f.2 ++ [34] ∧ Cells (wr.alloc (.cells #[.int .u8 34] 5)) H #[.string M, .string S, .slice (some ⟨g, o, none⟩) L c] 24 ∧ Below H w (wr.alloc (.cells #[.int .u8 34] 5)) ∧ q + 1 ≤ 140737488355328 ∧ H < lo) := ⟨a5, jH.alloc _, jB.trans (bal.mono (Nat.le_of_lt jH.lt)), by omega, a6⟩
                  clear hJ hjg jK jH jB jO jq a5 a6 a7 a8 a9 a10 hj e bal
                  go_wp2_with (at_builtin; refine wpList_om1 _ rfl (.tmp 86) (.tmp 87) rfl lo (.slice vb q cb) q _ (by rfl) om2 P 34 1 (by rfl) hcy A11.out.2.2.2.1 ?_; intro v13 c13 w13 hg13)
                  obtain ⟨b1, b2, b3, b4, b5⟩ := A11.out
                  have a6 := A6.out
                  go_roundg (G - 1)
                  case measure => omega
                  case rel => exact ⟨k + 1, v13, q + 1, c13, rfl, by go_num, by omega, b2.gom hg13 (by decide), b3.trans (hg13.bel.mono (by omega)), by rw [b1]; exact hg13.om, a6.2.2.2.2.2.2.2.2.1⟩
        · have hki : ((k : Int) < (L : Int)) = False := eq_false (by omega)
          have hkn : (k < L) = False := eq_false hk
          have e : T.take k = T := List.take_of_length_le (by omega)
          have hso : Oct (sofar m s T k) := by
            unfold sofar
            rw [e]
            exact hm.append (Oct.cons (by omega) (hs.append (pts_oct hT)))
          have hcv : (convert 40 9 (.slice va n cc)).run Try.prog wr = .ok (.string (st (sofar m s T k))) wr := by
            obtain ⟨a', c', hv', hlies⟩ := hom.lies
            cases hv'
            exact conv_st n cc hom.len hso hlies
          rw [e] at hall
          have hR2 : R = some (sofar m s T k) := by
            rw [← hR, tx_some A0.out.1 A0.out.2 (List.all_eq_true.2 hall)]
            unfold sofar
            rw [e]
          have A6 : Aside (R = some (sofar m s T k) ∧ Below H w wr) := ⟨hR2, hbel⟩
          clear hI hkg hkH hbel hom hall hv hT hm hs hbd hR hH hHlo hTL hwtT hk e hso hR2
          go_wp2_with fail
          go_ret2
          exact ⟨by rw [A6.out.1]; rfl, A6.out.2⟩
end Go.Proofs.Ytdndlegfalmkaaa

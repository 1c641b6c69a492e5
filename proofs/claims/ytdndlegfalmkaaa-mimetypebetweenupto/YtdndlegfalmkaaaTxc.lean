/-
  What Text comes to.
-/
import Derived.Test.YtdndlegfalmkaaaBld
namespace Go.Proofs.Ytdndlegfalmkaaa
open Go.RowKit
set_option linter.unusedVariables false
theorem tx_m {t : Ty} (h : sm t.1 = false) : tx t = none := by unfold tx; rw [h]; rfl
theorem tx_s {t : Ty} (h : sm t.2.1 = false) : tx t = none := by
  unfold tx
  rw [h]
  cases sm t.1 <;> rfl
theorem tx_f {t : Ty} {f : Fd} (hf : f ∈ t.2.2) (h : sm f.1 = false) : tx t = none := by
  unfold tx
  have : t.2.2.all (fun f => sm f.1) = false := by
    rw [← Bool.not_eq_true, List.all_eq_true]
    intro k
    rw [k f hf] at h
    cases h
  rw [this]
  cases sm t.1 <;> cases sm t.2.1 <;> rfl
theorem pt_oct {f : Fd} (h : Oct f.1 ∧ Oct f.2) : Oct (pt f) := Oct.cons (by omega) (Oct.cons (by omega) (h.1.append (Oct.cons (by omega) (wr_oct h.2))))
theorem pts_oct {T : List Fd} (h : OctF T) : Oct (T.flatMap pt) := by
  intro x hx
  simp only [List.mem_flatMap] at hx
  obtain ⟨f, hf, hx⟩ := hx
  exact pt_oct (h f hf) x hx
/-- written, by another name where 'wr' is a world. -/
abbrev wr_ (v : List Nat) : List Nat := wr v
/-- So much is written behind k fields. -/
def sofar (m s : List Nat) (T : List Fd) (k : Nat) : List Nat := m ++ 47 :: (s ++ (T.take k).flatMap pt)
theorem sofar_next {m s : List Nat} {T : List Fd} {k : Nat} {f : Fd} (hf : T[k]? = some f) : sofar m s T (k + 1) = sofar m s T k ++ pt f := by
  unfold sofar
  rw [List.take_add_one, hf]
  simp
theorem sofar_len {m s : List Nat} {T : List Fd} {k : Nat} : (sofar m s T k).length ≤ m.length + s.length + 1 + 5 * wt T := by
  have h1 := pts_len (T.take k)
  have h2 : wt (T.take k) ≤ wt T := by
    have := wt_append (T.take k) (T.drop k)
    rw [List.take_append_drop] at this
    omega
  unfold sofar
  rw [List.length_append, List.length_cons, List.length_append]
  omega
set_option maxHeartbeats 2000000 in
theorem text_c (w : World) (m s : List Nat) (a : Option Addr) (L c : Nat) (T : List Fd) (hv : FL w (.slice a L c) T) (hT : OctF T) (hm : Oct m) (hs : Oct s) (hb : m.length + s.length + wt T ≤ 1099511627776) : Calls Try.prog 17 #[.agg #[.string (st m), .string (st s), .slice a L c]] w fun e w' => e = .returned (.tuple #[.string (st ((tx (m, s, T)).getD [])), .bool (tx (m, s, T)).isSome]) ∧ Below w.heap.size w w' := by
  obtain ⟨R, hR⟩ : ∃ R, tx (m, s, T) = R := ⟨_, rfl⟩
  rw [hR]
  obtain ⟨H, hH⟩ : ∃ H, w.heap.size = H := ⟨_, rfl⟩
  obtain ⟨w1, hw1⟩ : ∃ w1, w1 = w.alloc (.cells #[.string (st m), .string (st s), .slice a L c] 24) := ⟨_, rfl⟩
  have b1 : Below w.heap.size w w1 := by rw [hw1]; exact (Below.refl _ w).alloc (Nat.le_refl _) _
  have k1 : Cells w1 H #[.string (st m), .string (st s), .slice a L c] 24 := by rw [hw1, ← hH]; exact Cells.new w _ 24
  have hsm := fun W => small_c m hm (by omega) W
  have hss := fun W => small_c s hs (by omega) W
  rw [hH] at b1 ⊢
  have zm : (st m).size = m.length := st_size m
  have zs : (st s).size = s.length := st_size s
  have e1 : st m ++ ⟨#[47]⟩ = st (m ++ [47]) := st_append m [47]
  have e2 : st (m ++ [47]) ++ st s = st (sofar m s T 0) := by rw [st_append]; simp [sofar]
  obtain ⟨M, hM⟩ : ∃ M, st m = M := ⟨_, rfl⟩
  obtain ⟨S, hS⟩ : ∃ S, st s = S := ⟨_, rfl⟩
  obtain ⟨M1, hM1⟩ : ∃ M1, st (m ++ [47]) = M1 := ⟨_, rfl⟩
  obtain ⟨M2, hM2⟩ : ∃ M2, st (sofar m s T 0) = M2 := ⟨_, rfl⟩
  have z1 : M1.size = m.length + 1 := by rw [← hM1, st_size]; simp
  have hw0 := fun W p v (hW : Bd W W.heap.size p v []) => True
  have hws : ∀ W b, Bd W b (.pointer none) (.slice none 0 0) [] → Calls Try.prog 37 #[.pointer (some ⟨b, 0, none⟩), .string M2] W fun e w' => (∃ n : Nat, e = .returned (.tuple #[.int .i64 (n : Int), .nilIface])) ∧ (∃ p' v', Bd w' b p' v' (sofar m s T 0)) ∧ Below b W w' := fun W b hW => by
    rw [← hM2]
    refine (ws_c hW (sofar m s T 0) ?_ ?_).mono ?_
    · unfold sofar
      exact hm.append (Oct.cons (by omega) (hs.append (by simp [Oct])))
    · have := sofar_len (m := m) (s := s) (T := T) (k := 0)
      simp only [List.length_nil]
      omega
    · rintro e w' ⟨rfl, h2, h3, _⟩
      exact ⟨⟨_, rfl⟩, h2, h3⟩
  rw [hM] at hsm k1 hw1 zm e1 ⊢
  rw [hS] at hss k1 hw1 zs e2 ⊢
  rw [hM1] at e1 e2
  rw [hM2] at e2
  obtain ⟨lm, hlm⟩ : ∃ lm, m.length = lm := ⟨_, rfl⟩
  obtain ⟨ls, hls⟩ : ∃ ls, s.length = ls := ⟨_, rfl⟩
  rw [hlm] at zm z1
  rw [hls] at zs
  have u1 : (9223372036854775807 < lm + 1) = False := eq_false (by omega)
  have u2 : (9223372036854775807 < lm + 1 + ls) = False := eq_false (by omega)
  have hF2 : ∀ W, Below w1.heap.size w1 W → W.cell? ⟨H, 1, none⟩ = some (.string S) := fun W hW => by
    rw [(k1.below hW k1.lt).cell]; rfl
  have hF1 : w1.cell? ⟨H, 0, none⟩ = some (.string M) := by rw [k1.cell]; rfl
  have A : Aside (FL w (.slice a L c) T ∧ OctF T ∧ Oct m ∧ Oct s ∧ m.length + s.length + wt T ≤ 1099511627776 ∧ tx (m, s, T) = R ∧ w.heap.size = H ∧ Below H w w1 ∧ Cells w1 H #[.string M, .string S, .slice a L c] 24) := ⟨hv, hT, hm, hs, hb, hR, hH, b1, k1⟩
  clear hv hT hm hs hb hR hH b1 k1 hw0 hM hS hM1 hM2 hlm hls
  cases h1 : sm m with
  | false =>
    rw [h1] at hsm
    have A2 : Aside (R = none) := by rw [← A.out.2.2.2.2.2.1]; exact tx_m h1
    clear h1 hss hws hF2 e1 e2 zm zs z1 u1 u2
    go_enter Try.func17, Try.ntmps17
    go_upto_region 1 with fail
    (try simp only [A.out.2.2.2.2.2.2.1])
    rw [← hw1]
    clear hw1
    go_wp2_with (go_at_call 36; (with_reducible refine (hsm _).mono ?_); rintro e1 w2 ⟨rfl, hb2⟩)
    go_ret2
    exact ⟨by rw [A2.out]; rfl, A.out.2.2.2.2.2.2.2.1.trans (hb2.mono (by have := A.out.2.2.2.2.2.2.2.2.lt; omega))⟩
  | true =>
    rw [h1] at hsm
    cases h2 : sm s with
    | false =>
      rw [h2] at hss
      have A2 : Aside (R = none) := by rw [← A.out.2.2.2.2.2.1]; exact tx_s h2
      clear h1 h2 hws e1 e2 zm zs z1 u1 u2
      go_enter Try.func17, Try.ntmps17
      go_upto_region 1 with fail
      (try simp only [A.out.2.2.2.2.2.2.1])
      rw [← hw1]
      clear hw1
      go_wp2_with (first
        | (go_at_call 36; (with_reducible refine (hsm w1).mono ?_); rintro e1 w2 ⟨rfl, hb2⟩; have x1 := hF2 w2 hb2)
        | (go_at_call 36; (with_reducible refine (hss w2).mono ?_); rintro e2 w3 ⟨rfl, hb3⟩))
      go_ret2
      have hlt := A.out.2.2.2.2.2.2.2.2.lt
      have hsz := hb2.size
      exact ⟨by rw [A2.out]; rfl, (A.out.2.2.2.2.2.2.2.1.trans (hb2.mono (by omega))).trans (hb3.mono (by omega))⟩
    | true =>
      rw [h2] at hss
      have A0 : Aside (sm m = true ∧ sm s = true) := ⟨h1, h2⟩
      clear h1 h2
      go_enter Try.func17, Try.ntmps17
      go_upto_region 1 with fail
      (try simp only [A.out.2.2.2.2.2.2.1])
      rw [← hw1]
      clear hw1
      go_upto_region 3 with (first
        | (go_at_call 36; (with_reducible refine (hsm w1).mono ?_); rintro e1 w2 ⟨rfl, hb2⟩; have x1 := hF2 w2 hb2)
        | (go_at_call 36; (with_reducible refine (hss w2).mono ?_); rintro e2 w3 ⟨rfl, hb3⟩))
      have hlt := A.out.2.2.2.2.2.2.2.2.lt
      have hsz := hb2.size
      have b3 : Below H w w3 := (A.out.2.2.2.2.2.2.2.1.trans (hb2.mono (by omega))).trans (hb3.mono (by omega))
      have k3 := (A.out.2.2.2.2.2.2.2.2.below hb2 hlt).below hb3 (by omega)
      obtain ⟨b, hb⟩ : ∃ b, w3.heap.size = b := ⟨_, rfl⟩
      obtain ⟨w4, hw4⟩ : ∃ w4, w4 = w3.alloc (.cells #[.pointer none, .slice none 0 0] 58) := ⟨_, rfl⟩
      have B4 : Bd w4 b (.pointer none) (.slice none 0 0) [] := by rw [hw4]; exact Bd.new w3 b hb
      have k4 : Cells w4 H #[.string M, .string S, .slice a L c] 24 := by rw [hw4]; exact k3.alloc _
      have b4 : Below H w w4 := by rw [hw4]; exact b3.alloc (by have := k3.lt; omega) _
      have hHb : H < b := by rw [← hb]; exact k3.lt
      have y0 : w4.cell? ⟨H, 0, none⟩ = some (.string M) := by rw [k4.cell]; rfl
      have y1 : w4.cell? ⟨H, 1, none⟩ = some (.string S) := by rw [k4.cell]; rfl
      have hF3 : ∀ W, Below b w4 W → W.cell? ⟨H, 2, none⟩ = some (.slice a L c) := fun W hW => by
        rw [(k4.below hW hHb).cell]; rfl
      replace hws := hws w4 b B4
      have A4 : Aside (Below H w w4 ∧ H < b) := ⟨b4, hHb⟩
      clear hlt hsz b3 k3 B4 k4 b4 hHb hb2 hb3 x1 hsm hss hF1 hF2
      go_upto_region 4 with fail
      (try simp only [hb])
      rw [← hw4]
      clear hw4 hb
      go_wp2_with (go_at_call 37; (with_reducible refine hws.mono ?_); rintro e5 w5 ⟨⟨n5, rfl⟩, hB5, hb5⟩; have y2 := hF3 w5 hb5)
      have A5 : Aside ((∃ p' v', Bd w5 b p' v' (sofar m s T 0)) ∧ Below H w w5 ∧ H < b) := ⟨hB5, A4.out.1.trans (hb5.mono (by have := A4.out.2; omega)), A4.out.2⟩
      clear hws hF3 y0 y1 y2 hb5 hB5 e1 e2 zm zs z1 u1 u2
      go_loopg [27] L (fun gg s27 wr => ∃ k : Nat, s27 = .int .i64 k ∧ Aside (k + gg = L ∧ (∃ p' v', Bd wr b p' v' (sofar m s T k)) ∧ Below H w wr ∧ ∀ f ∈ T.take k, sm f.1 = true))
      case atStart => exact ⟨0, rfl, by omega, A5.out.1, A5.out.2.1, by simp⟩
      case round =>
        obtain ⟨k, rfl, hI⟩ := hrel
        obtain ⟨hkg, ⟨p', v', hB⟩, hbel, hall⟩ := hI.out
        obtain ⟨hv, hT, hm, hs, hbd, hR, hH, _, _⟩ := A.out
        have hHb := A5.out.2.2
        have hTL := hv.len
        have hwtT := wt_len T
        clear A5 A4
        by_cases hk : k < L
        · have hki : ((k : Int) < (L : Int)) = True := eq_true (by omega)
          have hkn : (k < L) = True := eq_true hk
          have hkb : (k : Int) < 1000000000000000 := by omega
          obtain ⟨f, hf⟩ : ∃ f, T[k]? = some f := ⟨_, List.getElem?_eq_getElem (by omega)⟩
          have hfm := List.mem_of_getElem? hf
          obtain ⟨g, o, ha, d1, d2⟩ := hv.pick hbel (by omega) hf
          have hfo := hT f hfm
          have hfw := wt_mem hfm
          subst ha
          have hsm := fun W => small_c f.1 hfo.1 (by omega) W
          obtain ⟨K, hK⟩ : ∃ K, wr.heap.size = K := ⟨_, rfl⟩
          have hwt := fun W => written_c f.2 hfo.2 (by omega) W
          have ex1 : (⟨#[59, 32]⟩ : ByteArray) ++ st f.1 = st ([59, 32] ++ f.1) := st_append [59, 32] f.1
          have ex2 : st ([59, 32] ++ f.1) ++ (⟨#[61]⟩ : ByteArray) = st ([59, 32] ++ f.1 ++ [61]) := st_append ([59, 32] ++ f.1) [61]
          have ex3 : st ([59, 32] ++ f.1 ++ [61]) ++ st (wr_ f.2) = st (pt f) := by rw [st_append]; simp [pt, wr_]
          have zx : (st f.1).size = f.1.length := st_size _
          have zx1 : (st ([59, 32] ++ f.1)).size = f.1.length + 2 := by rw [st_size]; simp
          have zx2 : (st ([59, 32] ++ f.1 ++ [61])).size = f.1.length + 3 := by rw [st_size]; simp
          have zv : (st (wr_ f.2)).size = (wr_ f.2).length := st_size _
          have hwl : (wr_ f.2).length ≤ 2 * f.2.length + 2 := wr_len f.2
          obtain ⟨X, hX⟩ : ∃ X, st f.1 = X := ⟨_, rfl⟩
          obtain ⟨Y, hY⟩ : ∃ Y, st f.2 = Y := ⟨_, rfl⟩
          obtain ⟨X1, hX1⟩ : ∃ X1, st ([59, 32] ++ f.1) = X1 := ⟨_, rfl⟩
          obtain ⟨X2, hX2⟩ : ∃ X2, st ([59, 32] ++ f.1 ++ [61]) = X2 := ⟨_, rfl⟩
          obtain ⟨X3, hX3⟩ : ∃ X3, st (pt f) = X3 := ⟨_, rfl⟩
          obtain ⟨V, hV⟩ : ∃ V, st (wr_ f.2) = V := ⟨_, rfl⟩
          obtain ⟨nx, hnx⟩ : ∃ nx, f.1.length = nx := ⟨_, rfl⟩
          obtain ⟨nv, hnv⟩ : ∃ nv, (wr_ f.2).length = nv := ⟨_, rfl⟩
          rw [hX] at d1 hsm ex1 zx
          rw [hY] at d2 hwt
          rw [hX1] at ex1 ex2 zx1
          rw [hX2] at ex2 ex3 zx2
          rw [hX3] at ex3
          replace hwt : ∀ W, Calls Try.prog 38 #[.string Y] W fun e w' => e = .returned (.string V) ∧ Below W.heap.size W w' := fun W => by rw [← hV]; exact hwt W
          rw [hV] at ex3 zv
          rw [hnx] at zx zx1 zx2
          rw [hnv] at zv
          have u1 : (9223372036854775807 < 2 + nx) = False := eq_false (by omega)
          have u1' : (9223372036854775807 < nx + 2) = False := eq_false (by omega)
          have u2 : (9223372036854775807 < nx + 2 + 1) = False := eq_false (by omega)
          have u3 : (9223372036854775807 < nx + 3 + nv) = False := eq_false (by omega)
          obtain ⟨w6, hw6⟩ : ∃ w6, w6 = wr.alloc (.cells #[.string X, .string Y] 29) := ⟨_, rfl⟩
          have b6 : Below wr.heap.size wr w6 := by rw [hw6]; exact (Below.refl _ wr).alloc (Nat.le_refl _) _
          have kK : Cells w6 K #[.string X, .string Y] 29 := by rw [hw6, ← hK]; exact Cells.new wr _ 29
          have c0 : w6.cell? ⟨K, 0, none⟩ = some (.string X) := by rw [kK.cell]; rfl
          have B6 := hB.below b6
          have hsz : H ≤ wr.heap.size := by rw [← hH]; exact hbel.size
          have bel6 : Below H w w6 := hbel.trans (b6.mono hsz)
          have hsl := sofar_len (m := m) (s := s) (T := T) (k := k)
          have hsl2 := sofar_len (m := m) (s := s) (T := T) (k := k + 1)
          rw [sofar_next hf, List.length_append] at hsl2
          cases h1 : sm f.1 with
          | false =>
            rw [h1] at hsm
            have A6 : Aside (R = none ∧ Below H w w6 ∧ H ≤ w6.heap.size) := ⟨by rw [← hR]; exact tx_f hfm h1, bel6, by have := b6.size; omega⟩
            clear hI hkg hB hbel hall hv hT hm hs hbd hR hH hHb hTL hwtT hk hf hfm hfo hfw hwt ex1 ex2 ex3 zx zx1 zx2 zv hwl hX hY hX1 hX2 hX3 hV hnx hnv u1 u1' u2 u3 b6 kK B6 hsz bel6 hsl hsl2 h1
            go_upto_region 8 with fail
            rw [← hw6]
            clear hw6 hK d1 d2
            go_wp2_with (go_at_call 36; (with_reducible refine (hsm _).mono ?_); rintro e7 w7 ⟨rfl, hb7⟩)
            go_ret2
            exact ⟨by rw [A6.out.1]; rfl, A6.out.2.1.trans (hb7.mono A6.out.2.2)⟩
          | true =>
            rw [h1] at hsm
            have hws : ∀ W, Below w6.heap.size w6 W → Calls Try.prog 37 #[.pointer (some ⟨b, 0, none⟩), .string X3] W fun e w' => (∃ n : Nat, e = .returned (.tuple #[.int .i64 (n : Int), .nilIface])) ∧ (∃ p' v', Bd w' b p' v' (sofar m s T (k + 1))) ∧ Below b W w' ∧ Cells w' K #[.string X, .string Y] 29 := fun W hW => by
              rw [← hX3, sofar_next hf]
              refine (ws_c (B6.below hW) (pt f) (pt_oct hfo) (by omega)).mono ?_
              rintro e w' ⟨rfl, h2, h3, h4⟩
              exact ⟨⟨_, rfl⟩, h2, h3, h4 K _ 29 (kK.below hW kK.lt) (by decide) (by decide)⟩
            have hC : ∀ W, Cells W K #[.string X, .string Y] 29 → W.cell? ⟨K, 0, none⟩ = some (.string X) ∧ W.cell? ⟨K, 1, none⟩ = some (.string Y) := fun W hW => ⟨by rw [hW.cell]; rfl, by rw [hW.cell]; rfl⟩
            have A6 : Aside (k + gk = L ∧ k < L ∧ Below H w w6 ∧ H ≤ w6.heap.size ∧ H < b ∧ Cells w6 K #[.string X, .string Y] 29 ∧ ∀ f ∈ T.take (k + 1), sm f.1 = true) := by
              refine ⟨hkg, hk, bel6, by have := b6.size; omega, hHb, kK, fun q hq => ?_⟩
              rw [List.take_add_one, hf] at hq
              rcases List.mem_append.1 hq with h | h
              · exact hall q h
              · simp at h; rw [h]; exact h1
            clear hI hkg hB hbel hall hv hT hm hs hbd hR hH hHb hTL hwtT hk hf hfm hfo hfw hwl hX hY hX1 hX2 hX3 hV hnx hnv b6 kK B6 hsz bel6 hsl hsl2 h1
            go_upto_region 8 with fail
            rw [← hw6]
            clear hw6 hK d1 d2
            go_upto_region 10 with (go_at_call 36; (with_reducible refine (hsm _).mono ?_); rintro e7 w7 ⟨rfl, hb7⟩)
            clear hsm c0
            have kK7 := A6.out.2.2.2.2.2.1.below hb7 A6.out.2.2.2.2.2.1.lt
            have hS7 := hC w7 kK7
            have hb7' : Below w6.heap.size w6 w7.drew := Below.drewN2 hb7 1
            go_region_held3 (fun w' => w'.cell? ⟨K, 0, none⟩ = some (.string X) ∧ w'.cell? ⟨K, 1, none⟩ = some (.string Y)) (first | exact hS7 | exact hC _ (kK7.below hb8' kK7.lt) | exact hC _ hk9)
              (first | (go_at_call 38; (with_reducible refine (hwt _).mono ?_); rintro e8 w8 ⟨rfl, hb8⟩; have hb8' : Below w7.heap.size w7 w8 := (Below.drewN2 (Below.refl _ w7) 1).trans hb8) | (go_at_call 37; (with_reducible refine (hws _ (hb7.trans (hb8'.mono hb7.size))).mono ?_); rintro e9 w9 ⟨⟨n9, rfl⟩, hB9, hb9, hk9⟩))
            go_wp2_with fail
            have a6 := A6.out
            have hs7 := hb7.size
            have hs8 := hb8'.size
            go_roundg (gk - 1)
            case measure => omega
            case rel => exact ⟨k + 1, by go_num, by omega, hB9, ((a6.2.2.1.trans (hb7.mono a6.2.2.2.1)).trans (hb8'.mono (by omega))).trans (hb9.mono (by omega)), a6.2.2.2.2.2.2⟩
        · have hki : ((k : Int) < (L : Int)) = False := eq_false (by omega)
          have hkn : (k < L) = False := eq_false hk
          have e : T.take k = T := List.take_of_length_le (by omega)
          have hso : Oct (sofar m s T k) := by
            unfold sofar
            rw [e]
            exact hm.append (Oct.cons (by omega) (hs.append (pts_oct hT)))
          have hst := str_c hB hso (by unfold sofar; simp)
          rw [e] at hall
          have hR2 : R = some (sofar m s T k) := by
            rw [← hR, tx_some A0.out.1 A0.out.2 (List.all_eq_true.2 hall)]
            unfold sofar
            rw [e]
          have A6 : Aside (R = some (sofar m s T k) ∧ Below H w wr ∧ H ≤ b) := ⟨hR2, hbel, by omega⟩
          clear hI hkg hB hbel hall hv hT hm hs hbd hR hH hHb hTL hwtT hk e hso hR2
          go_wp2_with (go_at_call 39; (with_reducible refine hst.mono ?_); rintro e7 w7 ⟨rfl, hb7⟩)
          go_ret2
          exact ⟨by rw [A6.out.1]; rfl, A6.out.2.1.trans (hb7.mono A6.out.2.2)⟩
end Go.Proofs.Ytdndlegfalmkaaa

/-
  What the program's Write comes to.
-/
import Derived.Test.YtbndohpcaahenabHld
import Derived.Test.YtbndohpcaahenabAps
import Derived.Test.YtbndohpcaahenabRws
namespace Go.Proofs.Ytbndohpcaahenab
open Go.RowKit
set_option linter.unusedVariables false
theorem lies_ob {w : World} {a : Option Addr} {l : List Nat} (h : Lies w a l) : ob l = [] ∨ ∃ b o, a = some ⟨b, o, none⟩ ∧ ∀ i u, (ob l)[i]? = some u → w.cell? ⟨b, o + i, none⟩ = some u := by
  rcases h with rfl | ⟨b, o, ha, hc⟩
  · exact Or.inl rfl
  · refine Or.inr ⟨b, o, ha, fun i u hu => ?_⟩
    rw [ob_get] at hu
    cases hx : l[i]? with
    | none => rw [hx] at hu; simp at hu
    | some x => rw [hx] at hu; simp at hu; rw [← hu]; exact hc i x hx
theorem oct2 : Oct [13, 10] := show ∀ x ∈ [13, 10], x < 256 by decide
theorem oct4 : Oct [45, 45, 13, 10] := show ∀ x ∈ [45, 45, 13, 10], x < 256 by decide
/-- The strings that are laid between parts. -/
structure Sb (b : List Nat) (sb S S2 S4 : ByteArray) (M0 M2 M4 : Nat) : Prop where
  c1 : (⟨#[45, 45]⟩ : ByteArray) ++ sb = S
  c2 : S ++ ⟨#[13, 10]⟩ = S2
  c4 : S ++ ⟨#[45, 45, 13, 10]⟩ = S4
  z0 : sb.size = M0
  z1 : S.size = M0 + 2
  e2 : S2 = st (dd b ++ [13, 10])
  e4 : S4 = st (dd b ++ [45, 45, 13, 10])
  m2 : (dd b ++ [13, 10]).length = M2
  m4 : (dd b ++ [45, 45, 13, 10]).length = M4
  n0 : b.length = M0
theorem sb_of (b : List Nat) : ∃ S S2 S4 M0 M2 M4, Sb b (st b) S S2 S4 M0 M2 M4 :=
  ⟨_, _, _, _, _, _, ⟨rfl, rfl, rfl, rfl, by rw [dd_st, st_size, st_size]; rfl, by rw [dd_st, ← st_append]; rfl, by rw [dd_st, ← st_append]; rfl, rfl, rfl, by rw [st_size]⟩⟩
set_option maxRecDepth 20000 in
set_option maxHeartbeats 2000000 in
theorem write_no (b : List Nat) (ho : Oct b) (hb : b.length < 1000000000000) (hv : vd b = false) (a : Option Addr) (ls : List (List Nat)) (N c : Nat) (w : World) : Calls Try.prog 4 #[.slice a N c, .string (st b)] w fun e w' => Wx w.heap.size w (wv b ls).1 (wv b ls).2 e w' := by
  rw [wv_no hv]
  have hvl := valid_c b ho hb w
  rw [hv] at hvl
  clear hv ho hb
  go_enter Try.func4, Try.ntmps4
  go_wp2_with (go_at_call 8; refine hvl.mono ?_; rintro e1 w1 ⟨rfl, b1⟩)
  first | go_ret | go_ret2
  exact ⟨none, 0, 0, rfl, Ow.nil b1.size, rfl, b1⟩
set_option maxRecDepth 20000 in
set_option maxHeartbeats 4000000 in
theorem write_yes (b : List Nat) (ho : Oct b) (hv : vd b = true) (a : Option Addr) (ls : List (List Nat)) (N c : Nat) (hN : ls.length = N) (w : World) (hx : Rl w a ls) (hol : ∀ l ∈ ls, Oct l) (hW : (wri (dd b) ls).length ≤ 100000000) : Calls Try.prog 4 #[.slice a N c, .string (st b)] w fun e w' => Wx w.heap.size w (wv b ls).1 (wv b ls).2 e w' := by
  have hlen := vd_len hv
  have hvl := valid_c b ho (by omega) w
  rw [hv] at hvl
  obtain ⟨S, S2, S4, M0, M2, M4, hS⟩ := sb_of b
  have hh : ∀ (u : World) (a1 : Option Addr) (p : List Nat) (q c1 : Nat), p.length = q → q ≤ 100000000 → Oct p → Lies u a1 p → Calls Try.prog 9 #[.slice a1 q c1, .string (st b)] u fun e w' => e = .returned (.bool (hs (dd b) [] p)) ∧ Below u.heap.size u w' := fun u a1 p q c1 h1 h2 h3 h4 => holds_c b ho hv a1 p q c1 h1 h2 h3 u h4
  obtain ⟨sb, hsb⟩ : ∃ sb, st b = sb := ⟨_, rfl⟩
  rw [hsb] at hvl hS hh ⊢
  obtain ⟨lo, hlo⟩ : ∃ lo, w.heap.size = lo := ⟨_, rfl⟩
  rw [hlo] at hvl ⊢
  obtain ⟨D, hD⟩ : ∃ D, dd b = D := ⟨_, rfl⟩
  obtain ⟨r, hr⟩ : ∃ r, wv b ls = r := ⟨_, rfl⟩
  rw [hr]
  have hNW : N * 4 ≤ (wri D ls).length := by
    rw [← hN, ← hD]
    clear hN hx hol hW hh hr hv
    induction ls with
    | nil => simp
    | cons p r ih => simp [wri]; omega
  have hll : ∀ u, Below lo w u → ∀ (i : Nat) l, ls[i]? = some l → ∃ g o a1 c1, a = some ⟨g, o, none⟩ ∧ u.cell? ⟨g, o + i, none⟩ = some (.slice a1 l.length c1) ∧ Lies u a1 l ∧ l.length ≤ c1 ∧ (a1 = none → l.length = 0 ∧ c1 = 0) := fun u hu i l hl => by
    rcases hx.below (u := u) (by rw [hlo]; exact hu) with e | ⟨g, o, ha, hc⟩
    · rw [e] at hl; simp at hl
    · obtain ⟨a1, c1, k⟩ := hc i l hl
      exact ⟨g, o, a1, c1, ha, k⟩
  have AX : Aside (ls.length = N ∧ N ≤ 100000000 ∧ (∀ l ∈ ls, Oct l) ∧ (wri D ls).length ≤ 100000000 ∧ Oct D ∧ (∀ (k : Nat) p, ls[k]? = some p → hs D [] p = true → r = (false, [])) ∧ ((∀ (k : Nat) p, k < ls.length → ls[k]? = some p → hs D [] p = false) → r = (true, wri D ls)) ∧ (D ++ [13, 10]).length = M2 ∧ (D ++ [45, 45, 13, 10]).length = M4 ∧ S2 = st (D ++ [13, 10]) ∧ S4 = st (D ++ [45, 45, 13, 10])) := by
    rw [hD] at hW
    refine ⟨hN, by omega, hol, hW, by rw [← hD]; exact dd_oct ho, fun k p h1 h2 => ?_, fun h1 => ?_, by rw [← hD]; exact hS.m2, by rw [← hD]; exact hS.m4, by rw [← hD]; exact hS.e2, by rw [← hD]; exact hS.e4⟩
    · rw [← hr]; exact wv_bad h1 (by rw [hD]; exact h2)
    · rw [← hr, ← hD]; exact wv_yes hv (fun k p h2 h3 => by rw [hD]; exact h1 k p h2 h3)
  have AL : Aside (∀ u, Below lo w u → ∀ (i : Nat) l, ls[i]? = some l → ∃ g o a1 c1, a = some ⟨g, o, none⟩ ∧ u.cell? ⟨g, o + i, none⟩ = some (.slice a1 l.length c1) ∧ Lies u a1 l ∧ l.length ≤ c1 ∧ (a1 = none → l.length = 0 ∧ c1 = 0)) := hll
  rw [hD] at hh
  have AH : Aside (∀ (u : World) (a1 : Option Addr) (p : List Nat) (q c1 : Nat), p.length = q → q ≤ 100000000 → Oct p → Lies u a1 p → Calls Try.prog 9 #[.slice a1 q c1, .string sb] u fun e w' => e = .returned (.bool (hs D [] p)) ∧ Below u.heap.size u w') := hh
  obtain ⟨k1, k2, k4, z0, z1⟩ : _ ∧ _ ∧ _ ∧ _ ∧ _ := ⟨hS.c1, hS.c2, hS.c4, hS.z0, hS.z1⟩
  have hM0 : M0 ≤ 70 := by have := hS.n0; omega
  have t1 : (9223372036854775807 < 2 + M0) = False := eq_false (by omega)
  have t2 : (9223372036854775807 < M0 + 2 + 2) = False := eq_false (by omega)
  have t4 : (9223372036854775807 < M0 + 2 + 4) = False := eq_false (by omega)
  have hle : Aside (w.heap.size = lo) := hlo
  obtain ⟨i0, hi, hz0, hz1, hz2⟩ := ginfo_parts ginfo5
  have AI : Aside (Try.prog.info? 5 = some i0 ∧ i0.zero = some (.int .u8 0) ∧ i0.size = 1 ∧ i0.bytes = 1) := ⟨hi, hz0, hz1, hz2⟩
  clear hh hll hS hx hol hW hNW hN hv ho hlen hr hD hsb hlo hM0 hi hz0 hz1 hz2
  go_enter Try.func4, Try.ntmps4
  go_upto_region 4 with (go_at_call 8; refine hvl.mono ?_; rintro e1 w1 ⟨rfl, b1⟩)
  have A1 : Aside (Below lo w w1 ∧ lo ≤ w1.heap.size) := ⟨b1, by have := b1.size; have := hle.out; omega⟩
  clear b1 hvl
  go_wp2_with fail
  go_loopg [6, 14] N (fun gg s6 s14 wr => ∃ (i : Nat) (va : Option Addr) (n cv' : Nat), s6 = .slice va n cv' ∧ s14 = .int .i64 (i : Int) ∧ Aside (i + gg = N ∧ (wpre D (ls.take i)).length = n ∧ Ow wr lo 5 1 (.slice va n cv') n (ob (wpre D (ls.take i))) ∧ Below lo w wr ∧ ∀ (k : Nat) p, k < i → ls[k]? = some p → hs D [] p = false))
  case atStart => exact ⟨0, none, 0, 0, rfl, rfl, ⟨by omega, rfl, Ow.nil A1.out.2, A1.out.1, fun k p h => by omega⟩⟩
  case round =>
    obtain ⟨i, va, n, cv', rfl, rfl, hT⟩ := hrel
    obtain ⟨hig, hn, how, hbel, hall⟩ := hT.out
    have ax := AX.out
    by_cases hi : i < N
    · have t5 : ((i : Int) < (N : Int)) = True := eq_true (by omega)
      have t6 : (i < N) = True := eq_true hi
      have bi : (i : Int) < 200000000 := by omega
      obtain ⟨p, hp⟩ : ∃ p, ls[i]? = some p := ⟨_, List.getElem?_eq_getElem (by omega)⟩
      obtain ⟨g, o, a1, c1, rfl, cp, lp, hc1, hnil⟩ := AL.out wr hbel i p hp
      obtain ⟨q, hq⟩ : ∃ q, p.length = q := ⟨_, rfl⟩
      rw [hq] at cp hc1 hnil
      have hop := ax.2.2.1 p (List.mem_of_getElem? hp)
      have htk := wpre_take (D := D) hp
      have hle2 := wpre_le D ls (i + 1)
      have hlen2 := congrArg List.length htk
      simp only [List.length_append, List.length_cons, List.length_nil] at hlen2
      have hM2 := ax.2.2.2.2.2.2.2.1
      simp only [List.length_append, List.length_cons, List.length_nil] at hM2
      have hW := ax.2.2.2.1
      have hhc := AH.out wr a1 p q c1 hq (by omega) hop lp
      obtain ⟨rb, hrb⟩ : ∃ rb, hs D [] p = rb := ⟨_, rfl⟩
      rw [hrb] at hhc
      have A2 : Aside (i + gk = N ∧ i < N ∧ (wpre D (ls.take i)).length = n ∧ Ow wr lo 5 1 (.slice va n cv') n (ob (wpre D (ls.take i))) ∧ Below lo w wr ∧ (∀ (k : Nat) p, k < i → ls[k]? = some p → hs D [] p = false) ∧ ls[i]? = some p ∧ hs D [] p = rb ∧ p.length = q ∧ n + M2 + q + 2 ≤ 100000000 ∧ wpre D (ls.take (i + 1)) = ((wpre D (ls.take i) ++ (D ++ [13, 10])) ++ p) ++ [13, 10] ∧ lo ≤ wr.heap.size) := ⟨hig, hi, hn, how, hbel, hall, hp, hrb, hq, by omega, htk, how.le⟩
      have A3 : Aside (a1 = none → q = 0 ∧ c1 = 0) := hnil
      clear hT ax hi hp lp hc1 hnil hop htk hle2 hlen2 hM2 hW hig hn how hbel hall hrb hq
      cases rb with
      | true =>
        go_wp2_with (go_at_call 9; refine hhc.mono ?_; rintro e2 w2 ⟨rfl, b2⟩)
        first | go_ret | go_ret2
        have a2 := A2.out
        have := AX.out.2.2.2.2.2.1 i p a2.2.2.2.2.2.2.1 a2.2.2.2.2.2.2.2.1
        subst this
        have b3 := a2.2.2.2.2.1.trans (b2.mono a2.2.2.2.2.2.2.2.2.2.2.2)
        exact ⟨none, 0, 0, rfl, Ow.nil (by have := b3.size; have := hle.out; omega), rfl, b3⟩
      | false =>
        go_upto_region 9 with (go_at_call 9; refine hhc.mono ?_; rintro e2 w2 ⟨rfl, b2⟩)
        have how2 := A2.out.2.2.2.1.below b2 (Nat.le_refl _)
        have bel2 : Below lo w w2 := A2.out.2.2.2.2.1.trans (b2.mono A2.out.2.2.2.2.2.2.2.2.2.2.2)
        have AB2 : Aside (Below lo w w2) := bel2
        clear hhc b2 bel2
        go_upto_region 10 with (at_builtin; refine wpList_ows Try.prog _ rfl (.tmp 21) (.tmp 24) 23 9 rfl i0 Try.underlying23 Try.underlying9 AI.out.1 AI.out.2.1 AI.out.2.2.1 AI.out.2.2.2 lo (.slice va n cv') n _ (by rfl) how2 (D ++ [13, 10]) M2 S2 AX.out.2.2.2.2.2.2.2.2.2.1 AX.out.2.2.2.2.2.2.2.1 (AX.out.2.2.2.2.1.append oct2) (by rfl) (by have := A2.out.2.2.2.2.2.2.2.2.2.1; omega) ?_; intro v3 c3 w3 hg3; obtain ⟨n3, hn3⟩ : ∃ n3, n + M2 = n3 := ⟨_, rfl⟩; rw [hn3] at hg3 ⊢; have hn3A : Aside (n + M2 = n3) := hn3; clear hn3)
        have how3 := hg3.ow
        have bel3 : Below lo w w3 := AB2.out.trans hg3.bel
        have AB3 : Aside (Below lo w w3) := bel3
        obtain ⟨_, _, a1', c1', h5, cp3, lp3, _⟩ := AL.out w3 bel3 i p A2.out.2.2.2.2.2.2.1
        have hlx : ob p = [] ∨ ∃ b o, a1 = some ⟨b, o, none⟩ ∧ ∀ i u, (ob p)[i]? = some u → w3.cell? ⟨b, o + i, none⟩ = some u := by
          obtain ⟨_, _, a0', c0', h6, cp0, lp0, _⟩ := AL.out wr A2.out.2.2.2.2.1 i p A2.out.2.2.2.2.2.2.1
          cases h6
          cases h5
          have e1 : some (Value.slice a0' p.length c0') = some (Value.slice a1 q c1) := cp0.symm.trans cp
          cases e1
          have hlt : g < w.heap.size := by
            obtain ⟨_, _, _, _, h7, cpw, _⟩ := AL.out w (Below.refl _ w) i p A2.out.2.2.2.2.2.2.1
            cases h7
            exact World.block_lt_of_cell? w _ cpw
          have e2 : w3.cell? ⟨g, o + i, none⟩ = wr.cell? ⟨g, o + i, none⟩ := by
            rw [bel3.cell (p := ⟨g, o + i, none⟩) (by have := hle.out; show g < lo; omega), A2.out.2.2.2.2.1.cell (p := ⟨g, o + i, none⟩) (by have := hle.out; show g < lo; omega)]
          have e3 : some (Value.slice a1' p.length c1') = some (Value.slice a1 p.length c1) := cp3.symm.trans (e2.trans cp)
          cases e3
          exact lies_ob lp3
        clear hg3 how2 bel3 h5 cp3 lp3
        go_upto_region 11 with (at_builtin; refine wpList_ow Try.prog _ rfl (.tmp 26) (.tmp 27) 23 rfl 5 i0 _ 1 1 Try.underlying23 AI.out.1 AI.out.2.1 AI.out.2.2.1 AI.out.2.2.2 rfl (by decide) lo (.slice v3 n3 c3) n3 _ (by rfl) how3 a1 (ob p) q c1 (by rw [ob_length]; have := A2.out.2.2.2.2.2.2.2.2.1; omega) (by rfl) A3.out hlx ob_one (by have := A2.out.2.2.2.2.2.2.2.2.2.1; have := hn3A.out; unfold maxLen; omega) (by have := A2.out.2.2.2.2.2.2.2.2.2.1; have := hn3A.out; omega) ?_; intro v4 w4 hg4; obtain ⟨a4, c4, hv4, _⟩ := hg4.ow.shape; obtain ⟨n4, hn4⟩ : ∃ n4, n3 + q = n4 := ⟨_, rfl⟩; rw [hn4] at hg4 hv4; subst hv4; have hn4A : Aside (n3 + q = n4) := hn4; clear hn4)
        have how4 := hg4.ow
        rw [ob_append] at how4
        have AB4 : Aside (Below lo w w4) := AB3.out.trans hg4.bel
        clear hg4 how3 hlx
        go_upto_region 12 with (at_builtin; refine wpList_ows Try.prog _ rfl (.tmp 29) (.const (.string ⟨#[13, 10]⟩)) 23 9 rfl i0 Try.underlying23 Try.underlying9 AI.out.1 AI.out.2.1 AI.out.2.2.1 AI.out.2.2.2 lo (.slice a4 n4 c4) n4 _ (by rfl) how4 [13, 10] 2 ⟨#[13, 10]⟩ rfl rfl oct2 (by rfl) (by have := A2.out.2.2.2.2.2.2.2.2.2.1; have := hn3A.out; have := hn4A.out; omega) ?_; intro v5 c5 w5 hg5; obtain ⟨n5, hn5⟩ : ∃ n5, n4 + 2 = n5 := ⟨_, rfl⟩; rw [hn5] at hg5 ⊢; have hn5A : Aside (n4 + 2 = n5) := hn5; clear hn5)
        have AG5 : Aside (Ow w5 lo 5 1 (.slice v5 n5 c5) n5 (ob (wpre D (ls.take i) ++ (D ++ [13, 10]) ++ p ++ [13, 10])) ∧ Below lo w w5) := ⟨hg5.ow, AB4.out.trans hg5.bel⟩
        clear hg5 how4
        go_wp2_with fail
        have a2 := A2.out
        go_roundg (gk - 1)
        case measure => omega
        case rel =>
          have hw5 := AG5.out
          rw [← a2.2.2.2.2.2.2.2.2.2.2.1] at hw5
          refine ⟨i + 1, v5, n5, c5, rfl, by go_num, ⟨by omega, ?_, hw5.1, hw5.2, fun k p' hk hp' => ?_⟩⟩
          · have := hw5.1.own.1
            rw [ob_length] at this
            omega
          · by_cases hki : k = i
            · subst hki
              rw [a2.2.2.2.2.2.2.1] at hp'
              cases hp'
              exact a2.2.2.2.2.2.2.2.1
            · exact a2.2.2.2.2.2.1 k p' (by omega) hp'
    · have t5 : ((i : Int) < (N : Int)) = False := eq_false (by omega)
      have t6 : (i < N) = False := eq_false hi
      have htk : ls.take i = ls := List.take_of_length_le (by omega)
      rw [htk] at hn how
      have hr : r = (true, wri D ls) := ax.2.2.2.2.2.2.1 (fun k p hk hp => hall k p (by omega) hp)
      have hle2 := wri_pre D ls
      have hl4 := ax.2.2.2.2.2.2.2.2.1
      have hW := ax.2.2.2.1
      rw [hle2, List.length_append, hl4] at hW
      have A2 : Aside (r = (true, wri D ls) ∧ Below lo w wr ∧ wri D ls = wpre D ls ++ (D ++ [45, 45, 13, 10]) ∧ n + M4 ≤ 100000000) := ⟨hr, hbel, hle2, by omega⟩
      clear hT ax hi hig hn hbel hall htk hr hle2 hl4 hW
      go_wp2_with (at_builtin; refine wpList_ows Try.prog _ rfl (.tmp 32) (.tmp 35) 23 9 rfl i0 Try.underlying23 Try.underlying9 AI.out.1 AI.out.2.1 AI.out.2.2.1 AI.out.2.2.2 lo (.slice va n cv') n _ (by rfl) how (D ++ [45, 45, 13, 10]) M4 S4 AX.out.2.2.2.2.2.2.2.2.2.2 AX.out.2.2.2.2.2.2.2.2.1 (AX.out.2.2.2.2.1.append oct4) (by rfl) (by have := A2.out.2.2.2; omega) ?_; intro v3 c3 w3 hg3; obtain ⟨n3, hn3⟩ : ∃ n3, n + M4 = n3 := ⟨_, rfl⟩; rw [hn3] at hg3 ⊢; clear hn3)
      first | go_ret | go_ret2
      have a2 := A2.out
      have := a2.1
      subst this
      have h5 := hg3.ow
      rw [← a2.2.2.1] at h5
      exact ⟨v3, n3, c3, rfl, h5, (by have := h5.own.1; rw [ob_length] at this; show n3 = (wri D ls).length; omega), a2.2.1.trans hg3.bel⟩
theorem write_c (b : List Nat) (ho : Oct b) (hb : b.length < 1000000000000) (a : Option Addr) (ls : List (List Nat)) (N c : Nat) (hN : ls.length = N) (w : World) (hx : Rl w a ls) (hol : ∀ l ∈ ls, Oct l) (hW : vd b = true → (wri (dd b) ls).length ≤ 100000000) : Calls Try.prog 4 #[.slice a N c, .string (st b)] w fun e w' => Wx w.heap.size w (wv b ls).1 (wv b ls).2 e w' := by
  cases hv : vd b with
  | false => exact write_no b ho hb hv a ls N c w
  | true => exact write_yes b ho hv a ls N c hN w hx hol (hW hv)
end Go.Proofs.Ytbndohpcaahenab

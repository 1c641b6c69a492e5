/-
  GzipMany's walk.
-/
import Derived.Test.YtogednaamndpgaaGreatDoorMzb
namespace Go.Proofs.YtogednaamndpgaaGreatDoor
open Go.RowKit
set_option linter.unusedVariables false
/-- Members that came in. -/
structure Ma (w : World) (a : Option Addr) (ms : List Mb) (N : Nat) : Prop where
  len : ms.length = N
  big : N ≤ 9223372036854775807
  lm : Lm w a ms
  ok : ∀ m ∈ ms, Mo0 m
theorem Ma.small {w u : World} {a : Option Addr} {ms : List Mb} {N : Nat} (h : Ma w a ms N) (hu : Below w.heap.size w u) (C : Nat) (t : Bool) (ht : decide (N + msz ms < 3000) = t) : Calls Tryz.prog 21 #[.slice a N C] u fun e w' => e = .returned (.bool t) ∧ Below u.heap.size u w' := by
  rw [← ht]
  exact (small_c u a ms N C h.len (by have := h.big; omega) (h.lm.below hu) (fun m hm => ⟨by have := (h.ok m hm).dl; omega, by have := (h.ok m hm).pl; omega⟩)).mono fun e w' ⟨k1, n, k2⟩ => ⟨k1, by rw [k2]; exact Below.drewN2 (Below.refl _ u) n⟩
/-- What Write answers, with letters. -/
structure Wl (ms : List Mb) (u : World) (e : Ending) (u' : World) : Prop where
  ex : ∃ a n c ws, e = .returned (.slice a n c) ∧ Wok ms ws ∧ ws ≠ [] ∧ Ow u' u.heap.size 5 1 (.slice a n c) n (ob (wal ws)) ∧ (wal ws).length = n ∧ n ≤ 300006000000 ∧ Below u.heap.size u u'
theorem Ma.write {w u : World} {a : Option Addr} {ms : List Mb} {N : Nat} (h : Ma w a ms N) (hu : Below w.heap.size w u) (h8 : 8 ≤ w.heap.size) (hs : N + msz ms < 3000) (hne : N ≠ 0) (C : Nat) : Calls Tryz.prog 22 #[.slice a N C] u fun e w' => Wl ms u e w' := by
  have hl := h.len
  have hok := mok_all h.ok (by omega)
  refine (write_c u a ms N C hl (by omega) (h.lm.below hu) hok (by have := hu.size; omega)).mono fun e w' q => ?_
  obtain ⟨a', n, c, zs, q1, q2, q3, q4, q5, q6⟩ := q.ex
  exact ⟨a', n, c, _, q1, wms_ok ms zs q2 hok, wms_ne q2 (by intro e; rw [e] at hl; simp at hl; omega), q3, q4, by omega, q6⟩
theorem Ma.given {w u : World} {a : Option Addr} {ms : List Mb} {N : Nat} (h : Ma w a ms N) (hu : Below w.heap.size w u) (hs : N ≤ 3000) (C : Nat) : Calls Tryz.prog 23 #[.slice a N C] u fun e w' => Gvn w ms N u e w' := given_c w u a ms N C h.len hs h.lm hu
theorem dts_oct {ms : List Mb} (h : ∀ m ∈ ms, Mo0 m) : ∀ l ∈ ms.map Mb.dt, Oct l := fun l hl => by
  obtain ⟨m, hm, rfl⟩ := List.mem_map.1 hl
  exact (h m hm).dt
theorem own_lies {w : World} {lo n c : Nat} {a : Option Addr} {l : List Nat} (h : Ow w lo 5 1 (.slice a n c) n (ob l)) : Lies w a l := by
  obtain ⟨a2, c2, hv, _, _, hl, _⟩ := h.lies
  cases hv
  exact hl
set_option maxRecDepth 100000 in
set_option maxHeartbeats 8000000 in
theorem many_core (w : World) (ht : Tabs w) (hct : Ctab w) (h8 : 8 ≤ w.heap.size) (a1 : Option Addr) (ms : List Mb) (N1 C1 : Nat) (m1 : Ma w a1 ms N1) (a2 : Option Addr) (ns : List Mb) (N2 C2 : Nat) (m2 : Ma w a2 ns N2) :
    Calls Tryz.prog 6 #[.slice a1 N1 C1, .slice a2 N2 C2] w fun e w' => e = .returned (.bool true) ∧ Below w.heap.size w w' := by
  obtain ⟨lo, hlo⟩ : ∃ lo, w.heap.size = lo := ⟨_, rfl⟩
  have AW : Aside (∀ u : World, Below lo w u → Calls Tryz.prog 13 #[] u fun e w' => e = .returned (.bool true) ∧ Below u.heap.size u w') := fun u hu => by
    rw [← hlo] at hu
    exact wawake_c u (ht.below hu h8) (hct.below hu (by omega)) (by have := hu.size; omega)
  obtain ⟨t1, ht1⟩ : ∃ t, decide (N1 + msz ms < 3000) = t := ⟨_, rfl⟩
  obtain ⟨t2, ht2⟩ : ∃ t, decide (N2 + msz ns < 3000) = t := ⟨_, rfl⟩
  have AS1 : Aside (∀ u, Below lo w u → Calls Tryz.prog 21 #[.slice a1 N1 C1] u fun e w' => e = .returned (.bool t1) ∧ Below u.heap.size u w') := fun u hu => m1.small (by rw [hlo]; exact hu) C1 t1 ht1
  have AS2 : Aside (∀ u, Below lo w u → Calls Tryz.prog 21 #[.slice a2 N2 C2] u fun e w' => e = .returned (.bool t2) ∧ Below u.heap.size u w') := fun u hu => m2.small (by rw [hlo]; exact hu) C2 t2 ht2
  have A : Aside (Tabs w ∧ Ctab w ∧ 8 ≤ lo ∧ w.heap.size = lo ∧ Ma w a1 ms N1 ∧ Ma w a2 ns N2 ∧ decide (N1 + msz ms < 3000) = t1 ∧ decide (N2 + msz ns < 3000) = t2) := ⟨ht, hct, by omega, hlo, m1, m2, ht1, ht2⟩
  have bN1 : (N1 : Int) ≤ 9223372036854775807 := by have := m1.big; omega
  have bN2 : (N2 : Int) ≤ 9223372036854775807 := by have := m2.big; omega
  rw [hlo]
  clear ht hct h8 m1 m2 ht1 ht2 hlo
  by_cases hz1 : N1 = 0
  · have e1 : ((N1 : Int) == 0) = true := by rw [hz1]; rfl
    have ha := AW.out w (Below.refl _ _)
    clear hz1
    go_enter Tryz.func6, Tryz.ntmps6
    go_wp2_with (go_at_call 13; refine ha.mono ?_; rintro e2 w2 ⟨rfl, b2⟩)
    first | go_ret | go_ret2
    exact ⟨rfl, by rw [← A.out.2.2.2.1]; exact b2⟩
  have e1 : ((N1 : Int) == 0) = false := by rw [beq_eq_false_iff_ne]; omega
  by_cases hz2 : N2 = 0
  · have e2 : ((N2 : Int) == 0) = true := by rw [hz2]; rfl
    have ha := AW.out w (Below.refl _ _)
    clear hz1 hz2
    go_enter Tryz.func6, Tryz.ntmps6
    go_wp2_with (go_at_call 13; refine ha.mono ?_; rintro e2 w2 ⟨rfl, b2⟩)
    first | go_ret | go_ret2
    exact ⟨rfl, by rw [← A.out.2.2.2.1]; exact b2⟩
  have e2 : ((N2 : Int) == 0) = false := by rw [beq_eq_false_iff_ne]; omega
  have AZ : Aside (N1 ≠ 0 ∧ N2 ≠ 0) := ⟨hz1, hz2⟩
  clear hz1 hz2
  have hs1 := AS1.out w (Below.refl _ _)
  cases t1 with
  | false =>
    go_enter Tryz.func6, Tryz.ntmps6
    go_wp2_with (first
      | (go_at_call 21; refine hs1.mono ?_; rintro e3 w3 ⟨rfl, b3⟩; rw [A.out.2.2.2.1] at b3; have ha := AW.out w3 b3)
      | (go_at_call 13; refine ha.mono ?_; rintro e4 w4 ⟨rfl, b4⟩))
    first | go_ret | go_ret2
    exact ⟨rfl, b3.trans (b4.mono (by have := b3.size; have := A.out.2.2.2.1; omega))⟩
  | true =>
  cases t2 with
  | false =>
    go_enter Tryz.func6, Tryz.ntmps6
    go_wp2_with (first
      | (go_at_call 21; with_reducible refine hs1.mono ?_; rintro e3 w3 ⟨rfl, b3⟩; rw [A.out.2.2.2.1] at b3; have hs2 := AS2.out w3 b3)
      | (go_at_call 21; with_reducible refine hs2.mono ?_; rintro e5 w5 ⟨rfl, b5⟩; have b35 : Below lo w w5 := b3.trans (b5.mono (by have := b3.size; have := A.out.2.2.2.1; omega)); have ha := AW.out w5 b35)
      | (go_at_call 13; refine ha.mono ?_; rintro e4 w4 ⟨rfl, b4⟩))
    first | go_ret | go_ret2
    exact ⟨rfl, b35.trans (b4.mono (by have := b35.size; have := A.out.2.2.2.1; omega))⟩
  | true =>
  have s1 : N1 + msz ms < 3000 := of_decide_eq_true A.out.2.2.2.2.2.2.1
  have s2 : N2 + msz ns < 3000 := of_decide_eq_true A.out.2.2.2.2.2.2.2
  have AM : Aside (N1 + msz ms < 3000 ∧ N2 + msz ns < 3000) := ⟨s1, s2⟩
  have AWr1 : Aside (∀ u, Below lo w u → Calls Tryz.prog 22 #[.slice a1 N1 C1] u fun e w' => Wl ms u e w') := fun u hu => A.out.2.2.2.2.1.write (by rw [A.out.2.2.2.1]; exact hu) (by rw [A.out.2.2.2.1]; exact A.out.2.2.1) s1 AZ.out.1 C1
  have AWr2 : Aside (∀ u, Below lo w u → Calls Tryz.prog 22 #[.slice a2 N2 C2] u fun e w' => Wl ns u e w') := fun u hu => A.out.2.2.2.2.2.1.write (by rw [A.out.2.2.2.1]; exact hu) (by rw [A.out.2.2.2.1]; exact A.out.2.2.1) s2 AZ.out.2 C2
  have AG1 : Aside (∀ u, Below lo w u → Calls Tryz.prog 23 #[.slice a1 N1 C1] u fun e w' => Gvn w ms N1 u e w') := fun u hu => A.out.2.2.2.2.1.given (by rw [A.out.2.2.2.1]; exact hu) (by omega) C1
  have AG2 : Aside (∀ u, Below lo w u → Calls Tryz.prog 23 #[.slice a2 N2 C2] u fun e w' => Gvn w ns N2 u e w') := fun u hu => A.out.2.2.2.2.2.1.given (by rw [A.out.2.2.2.1]; exact hu) (by omega) C2
  clear s1 s2
  obtain ⟨i0, hii, hz0, hz1, hz2⟩ := ginfo_parts ginfo5
  go_enter Tryz.func6, Tryz.ntmps6
  go_upto_region 4 with (first
    | (go_at_call 21; with_reducible refine hs1.mono ?_; rintro e3 w3 ⟨rfl, b3⟩; rw [A.out.2.2.2.1] at b3; have hs2 := AS2.out w3 b3)
    | (go_at_call 21; with_reducible refine hs2.mono ?_; rintro e5 w5 ⟨rfl, b5⟩; have b35 : Below lo w w5 := b3.trans (b5.mono (by have := b3.size; have := A.out.2.2.2.1; omega)); have hw1 := AWr1.out w5 b35)
    | (go_at_call 22; with_reducible refine hw1.mono ?_; intro e6 w6 h6; obtain ⟨xa, xn, xc, ws, he6, hk1, hne1, ho1, hl1, hb1, bb1⟩ := h6.ex; subst he6; have b56 : Below lo w w6 := b35.trans (bb1.mono (by have := b35.size; have := A.out.2.2.2.1; omega)); have hw2 := AWr2.out w6 b56)
    | (go_at_call 22; with_reducible refine hw2.mono ?_; intro e7 w7 h7; obtain ⟨ya, yn, yc, vs, he7, hk2, hne2, ho2, hl2, hb2, bb2⟩ := h7.ex; subst he7; have b67 : Below lo w w7 := b56.trans (bb2.mono (by have := b56.size; have := A.out.2.2.2.1; omega))))
  obtain ⟨X, hX⟩ : ∃ X, wal ws = X := ⟨_, rfl⟩
  obtain ⟨Y, hY⟩ : ∃ Y, wal vs = Y := ⟨_, rfl⟩
  rw [hX] at ho1 hl1
  rw [hY] at ho2 hl2
  have hxz := ow_nil ho1
  have hyz := ow_nil ho2
  have AX : Aside (wal ws = X ∧ wal vs = Y ∧ Wok ms ws ∧ Wok ns vs ∧ ws ≠ [] ∧ vs ≠ [] ∧ X.length = xn ∧ Y.length = yn ∧ xn ≤ 300006000000 ∧ yn ≤ 300006000000 ∧ Below lo w w7 ∧ lo ≤ w7.heap.size) := ⟨hX, hY, hk1, hk2, hne1, hne2, hl1, hl2, hb1, hb2, b67, by have := b67.size; have := A.out.2.2.2.1; omega⟩
  have ALx : Aside (∀ u, Below w7.heap.size w7 u → Lies u xa X) := fun u hu => ((own_lies ho1).below bb2).below hu
  have ALy : Aside (∀ u, Below w7.heap.size w7 u → Lies u ya Y) := fun u hu => (own_lies ho2).below hu
  have ATb : Aside (∀ u, Below lo w u → Tabs u ∧ Ctab u ∧ 8 ≤ u.heap.size) := fun u hu => by
    rw [← A.out.2.2.2.1] at hu
    exact ⟨A.out.1.below hu (by rw [A.out.2.2.2.1]; exact A.out.2.2.1), A.out.2.1.below hu (by have := A.out.2.2.1; have := A.out.2.2.2.1; omega), by have := hu.size; have := A.out.2.2.1; have := A.out.2.2.2.1; omega⟩
  clear ho1 ho2 hX hY hk1 hk2 hne1 hne2 hl1 hl2 hb1 hb2 bb1 bb2 b67 b56 b35 b3 b5 hs1 hs2 hw1 hw2 h6 h7
  obtain ⟨H4, hH4⟩ : ∃ H4, w7.heap.size = H4 := ⟨_, rfl⟩
  have b4 : Below w7.heap.size w7 (w7.alloc (.cells #[] 5)) := (Below.refl _ w7).alloc (Nat.le_refl _) _
  have ho4 := ow_empty (w := w7) (Nat.le_refl _)
  have hl4 := lies_oc (ALx.out _ b4)
  rw [hH4] at ho4
  have AQ : Aside ((ob X).length = xn * 1 ∧ 0 + xn ≤ maxLen ∧ (0 + xn) * 1 ≤ 140737488355328 ∧ (ob Y).length = yn * 1 ∧ xn + yn ≤ maxLen ∧ (xn + yn) * 1 ≤ 140737488355328 ∧ xn + 1 ≤ maxLen ∧ (xn + 1) * 1 ≤ 140737488355328 ∧ xn + 1 + yn ≤ maxLen ∧ (xn + 1 + yn) * 1 ≤ 140737488355328) := by
    have ax := AX.out
    refine ⟨by rw [ob_length]; omega, ?_, ?_, by rw [ob_length]; omega, ?_, ?_, ?_, ?_, ?_, ?_⟩ <;> (try unfold maxLen) <;> omega
  obtain ⟨LS, hLS⟩ : ∃ LS, (ms ++ ns).map Mb.dt = LS := ⟨_, rfl⟩
  have hLl : LS.length = N1 + N2 := by rw [← hLS, List.length_map, List.length_append, A.out.2.2.2.2.1.len, A.out.2.2.2.2.2.1.len]
  have AL : Aside ((ms ++ ns).map Mb.dt = LS ∧ LS.length = N1 + N2) := ⟨hLS, hLl⟩
  have AW8 : Aside (∀ (u : World) (a9 : Option Addr) (c9 : Nat), Below w7.heap.size w7 u → Lies u a9 (X ++ Y) → Calls Tryz.prog 8 #[.slice a9 (xn + yn) c9, .int .i64 6000] u fun e w' => ∃ ra rc, e = .returned (.tuple #[.slice ra (N1 + N2) rc, .int .i64 0]) ∧ Rl w' ra LS ∧ Below u.heap.size u w') := fun u a9 c9 hu hl => by
    have ax := AX.out
    obtain ⟨q1, q2, q3⟩ := ATb.out u (ax.2.2.2.2.2.2.2.2.2.2.1.trans (hu.mono ax.2.2.2.2.2.2.2.2.2.2.2))
    have := whole_file (C := c9) (N := 6000) q1 q2 q3 hl (by rw [List.length_append, ax.2.2.2.2.2.2.1, ax.2.2.2.2.2.2.2.1]) (by omega) (ax.2.2.1.append ax.2.2.2.1) (by simp [ax.2.2.2.2.1]) 0 (by rw [wal_app, ax.1, ax.2.1]; simp) (by
      have e2 : ∀ l m : List Mb, msz (l ++ m) = msz l + msz m := fun l m => by
        induction l with
        | nil => simp [msz]
        | cons x l ih => simp only [List.cons_append, msz, ih]; omega
      rw [e2]; have := AM.out; omega) (by omega)
    refine this.mono fun e w' q => ?_
    obtain ⟨ra, rc, q1, q2, q3⟩ := q.ex
    rw [hLS] at q1 q2
    rw [hLl] at q1
    exact ⟨ra, rc, q1, q2, q3⟩
  have AW9 : Aside (∀ (u : World) (a9 : Option Addr) (c9 : Nat), Below w7.heap.size w7 u → Lies u a9 (X ++ [0] ++ Y) → Calls Tryz.prog 8 #[.slice a9 (xn + 1 + yn) c9, .int .i64 6000] u fun e w' => ∃ ra rc, e = .returned (.tuple #[.slice ra N1 rc, .int .i64 47]) ∧ Rl w' ra (ms.map Mb.dt) ∧ Below u.heap.size u w') := fun u a9 c9 hu hl => by
    have ax := AX.out
    obtain ⟨q1, q2, q3⟩ := ATb.out u (ax.2.2.2.2.2.2.2.2.2.2.1.trans (hu.mono ax.2.2.2.2.2.2.2.2.2.2.2))
    obtain ⟨v0, vt, hv0⟩ := List.exists_cons_of_ne_nil ax.2.2.2.2.2.1
    obtain ⟨yt, hyt⟩ := wm_31 v0 (wal vt)
    have hYe : Y = 31 :: yt := by rw [← ax.2.1, hv0, ← hyt]; simp [wal]
    have hO : Oct (X ++ [0] ++ Y) := by rw [← ax.1, ← ax.2.1]; exact (ax.2.2.1.wal.append (Oct.cons (by omega) Oct.nil)).append ax.2.2.2.1.wal
    have := whole_bad (C := c9) (N := 6000) (L := xn + 1 + yn) q1 q2 q3 hl (by rw [List.length_append, List.length_append, ax.2.2.2.2.2.2.1, ax.2.2.2.2.2.2.2.1]; rfl) (by omega) ax.2.2.1 ax.2.2.2.2.1 (x := 31) (rest := yt) (by decide) hO (by rw [ax.1, hYe]; simp) (by have := AM.out; omega) (by omega)
    refine this.mono fun e w' q => ?_
    obtain ⟨ra, rc, q1, q2, q3⟩ := q.ex
    rw [List.length_map, A.out.2.2.2.2.1.len] at q1
    exact ⟨ra, rc, q1, q2, q3⟩
  clear hLS hLl b4
  go_upto_region 5 with (first
    | (at_builtin; refine wpList_ow Tryz.prog _ rfl (.tmp 35) (.tmp 36) 22 rfl 5 i0 _ 1 1 Tryz.underlying22 hii hz0 hz1 hz2 rfl (by decide) H4 (.slice (some ⟨H4, 0, none⟩) 0 0) 0 _ (by rfl) ho4 xa (ob X) xn xc AQ.out.1 (by rfl) hxz hl4 ob_one AQ.out.2.1 AQ.out.2.2.1 ?_; intro v8 w8 hg8; obtain ⟨a8, c8, hv8, _⟩ := hg8.ow.shape; rw [Nat.zero_add] at hv8; subst hv8; have ho8 := hg8.ow; rw [ob_append, List.nil_append, Nat.zero_add] at ho8; have bb8 : Below w7.heap.size w7 w8 := ((Below.refl _ w7).alloc (Nat.le_refl _) _).trans (hg8.bel.mono (by rw [hH4]; exact Nat.le_refl _)); have hl8 := lies_oc (ALy.out w8 bb8))
    | (at_builtin; refine wpList_ow Tryz.prog _ rfl (.tmp 37) (.tmp 38) 22 rfl 5 i0 _ 1 1 Tryz.underlying22 hii hz0 hz1 hz2 rfl (by decide) H4 (.slice a8 xn c8) xn _ (by rfl) ho8 ya (ob Y) yn yc AQ.out.2.2.2.1 (by rfl) hyz hl8 ob_one AQ.out.2.2.2.2.1 AQ.out.2.2.2.2.2.1 ?_; intro v9 w9 hg9; obtain ⟨a9, c9, hv9, _⟩ := hg9.ow.shape; subst hv9; have ho9 := hg9.ow; rw [ob_append] at ho9; have bb9 : Below w7.heap.size w7 w9 := bb8.trans (hg9.bel.mono (by rw [hH4]; exact Nat.le_refl _)); have hwh := AW8.out w9 a9 c9 bb9 (own_lies ho9))
    | (go_at_call 8; refine hwh.mono ?_; rintro e10 w10 ⟨ra, rc, rfl, rl10, b10⟩))
  have A10 : Aside (Below w7.heap.size w7 w10 ∧ Rl w10 ra LS ∧ w7.heap.size ≤ w10.heap.size) := ⟨bb9.trans (b10.mono bb9.size), rl10, by have := bb9.size; have := b10.size; omega⟩
  clear hg8 hg9 ho8 ho9 bb8 bb9 b10 rl10 hwh hl8 ho4 hl4 hH4
  obtain ⟨H5, hH5⟩ : ∃ H5, w10.heap.size = H5 := ⟨_, rfl⟩
  have ho5 := ow_empty (w := w10) (Nat.le_refl _)
  have hl5 := lies_oc (ALx.out _ (A10.out.1.trans (((Below.refl _ w10).alloc (Nat.le_refl _) (.cells #[] 5)).mono A10.out.2.2)))
  rw [hH5] at ho5
  go_upto_region 6 with (first
    | (at_builtin; refine wpList_ow Tryz.prog _ rfl (.tmp 44) (.tmp 45) 22 rfl 5 i0 _ 1 1 Tryz.underlying22 hii hz0 hz1 hz2 rfl (by decide) H5 (.slice (some ⟨H5, 0, none⟩) 0 0) 0 _ (by rfl) ho5 xa (ob X) xn xc AQ.out.1 (by rfl) hxz hl5 ob_one AQ.out.2.1 AQ.out.2.2.1 ?_; intro v11 w11 hg11; obtain ⟨a11, c11, hv11, _⟩ := hg11.ow.shape; rw [Nat.zero_add] at hv11; subst hv11; have ho11 := hg11.ow; rw [ob_append, List.nil_append, Nat.zero_add] at ho11; have bb11 : Below w10.heap.size w10 w11 := ((Below.refl _ w10).alloc (Nat.le_refl _) _).trans (hg11.bel.mono (by rw [hH5]; exact Nat.le_refl _)); obtain ⟨H6, hH6⟩ : ∃ H6, w11.heap.size = H6 := ⟨_, rfl⟩; have hzc := zero_cell hH6; have b12 : Below w11.heap.size w11 (w11.alloc (.cells #[.int .u8 0] 5)) := (Below.refl _ w11).alloc (Nat.le_refl _) _; have ho12 := ho11.below b12 (Nat.le_refl _))
    | (at_builtin; refine wpList_ow Tryz.prog _ rfl (.tmp 46) (.tmp 47) 22 rfl 5 i0 _ 1 1 Tryz.underlying22 hii hz0 hz1 hz2 rfl (by decide) H5 (.slice a11 xn c11) xn _ (by rfl) ho12 (some ⟨H6, 0, none⟩) (ob [0]) 1 1 rfl (by rfl) (by intro h; cases h) hzc ob_one AQ.out.2.2.2.2.2.2.1 AQ.out.2.2.2.2.2.2.2.1 ?_; intro v13 w13 hg13; obtain ⟨a13, c13, hv13, _⟩ := hg13.ow.shape; subst hv13; have ho13 := hg13.ow; rw [ob_append] at ho13; have bb13 : Below w10.heap.size w10 w13 := (bb11.trans (b12.mono bb11.size)).trans (hg13.bel.mono (by rw [hH5]; exact Nat.le_refl _)); have hl13 := lies_oc (ALy.out w13 (A10.out.1.trans (bb13.mono A10.out.2.2))))
    | (at_builtin; refine wpList_ow Tryz.prog _ rfl (.tmp 48) (.tmp 49) 22 rfl 5 i0 _ 1 1 Tryz.underlying22 hii hz0 hz1 hz2 rfl (by decide) H5 (.slice a13 (xn + 1) c13) (xn + 1) _ (by rfl) ho13 ya (ob Y) yn yc AQ.out.2.2.2.1 (by rfl) hyz hl13 ob_one AQ.out.2.2.2.2.2.2.2.2.1 AQ.out.2.2.2.2.2.2.2.2.2 ?_; intro v14 w14 hg14; obtain ⟨a14, c14, hv14, _⟩ := hg14.ow.shape; subst hv14; have ho14 := hg14.ow; rw [ob_append] at ho14; have bb14 : Below w10.heap.size w10 w14 := bb13.trans (hg14.bel.mono (by rw [hH5]; exact Nat.le_refl _)); have hwh := AW9.out w14 a14 c14 (A10.out.1.trans (bb14.mono A10.out.2.2)) (own_lies ho14))
    | (go_at_call 8; refine hwh.mono ?_; rintro e15 w15 ⟨sa, sc, rfl, rl15, b15⟩))
  have hb1015 : Below w10.heap.size w10 w15 := bb14.trans (b15.mono bb14.size)
  have ax := AX.out
  have b715 : Below w7.heap.size w7 w15 := A10.out.1.trans (hb1015.mono A10.out.2.2)
  have bl15 : Below lo w w15 := ax.2.2.2.2.2.2.2.2.2.2.1.trans (b715.mono ax.2.2.2.2.2.2.2.2.2.2.2)
  have A15 : Aside (Below lo w w15 ∧ Rl w15 ra LS ∧ Rl w15 sa (ms.map Mb.dt) ∧ lo ≤ w15.heap.size) := ⟨bl15, A10.out.2.1.below hb1015, rl15, by have := b715.size; have := ax.2.2.2.2.2.2.2.2.2.2.2; omega⟩
  have hg1 := AG1.out w15 bl15
  obtain ⟨j0, hjj, hy0, hy1, hy2⟩ := ginfo_parts ginfo22
  have AN : Aside (N1 + N2 ≤ maxLen ∧ (N1 + N2) * 24 ≤ 140737488355328 ∧ N1 + N2 < 200000000001 ∧ N1 < 200000000001) := by
    have := AM.out
    refine ⟨by unfold maxLen; omega, by omega, by omega, by omega⟩
  have AO : Aside ((∀ l ∈ LS, Oct l) ∧ ∀ l ∈ ms.map Mb.dt, Oct l) := by
    refine ⟨?_, dts_oct A.out.2.2.2.2.1.ok⟩
    rw [← AL.out.1]
    exact dts_oct fun m hm => by
      rcases List.mem_append.1 hm with q | q
      · exact A.out.2.2.2.2.1.ok m q
      · exact A.out.2.2.2.2.2.1.ok m q
  clear hg11 hg13 hg14 ho11 ho12 ho13 ho14 bb11 bb13 bb14 b12 b15 rl15 hwh hl13 ho5 hl5 hH5 hH6 hzc hb1015 ax b715 bl15 hxz hyz hii hz0 hz1 hz2
  go_wp2_with (first
    | (go_at_call 23; with_reducible refine hg1.mono ?_; intro e16 w16 h16; obtain ⟨ga, gc, gs, he16, hgl, hgo, hgv, b16⟩ := h16.ex; subst he16; have bl16 : Below lo w w16 := A15.out.1.trans (b16.mono A15.out.2.2.2); have hg2 := AG2.out w16 bl16)
    | (go_at_call 23; with_reducible refine hg2.mono ?_; intro e17 w17 h17; obtain ⟨gb, gd, gt, he17, hgl2, hgo2, hgv2, b17⟩ := h17.ex; subst he17; have hgo1 := hgo.below b17 (Nat.le_refl _); have hz17 := (own22 hgo2).2; have hl17 := (own22 hgo2).1; have h1c := hgv2.one (hgl2.trans A.out.2.2.2.2.2.1.len.symm); have hgl3 : gt.length = N2 * 1 := hgl2.trans (Nat.mul_one _).symm)
    | (at_builtin; refine wpList_wanted (by first | rfl | go_simp) ?_; refine wpList_ow Tryz.prog _ rfl (.tmp 59) (.tmp 61) 23 rfl 22 j0 _ 1 24 Tryz.underlying23 hjj hy0 hy1 hy2 rfl (by decide) w15.heap.size (.slice ga N1 gc) N1 gs (by first | rfl | go_simp) hgo1 gb gt N2 gd hgl3 (by first | rfl | go_simp) hz17 hl17 h1c AN.out.1 AN.out.2.1 ?_; intro v18 w18 hg18; obtain ⟨a18, c18, hv18, _⟩ := hg18.ow.shape; subst hv18; have b1518 : Below w15.heap.size w15 w18 := (b16.trans (b17.mono b16.size)).trans hg18.bel; have bl18 : Below lo w w18 := A15.out.1.trans (b1518.mono A15.out.2.2.2); have hrl18 := Vd.rl ((Vd.app hgv hgv2 (hgl.trans A.out.2.2.2.2.1.len.symm)).below (show Below w.heap.size w w18 by rw [A.out.2.2.2.1]; exact bl18)) hg18.ow (by rw [List.length_append, List.length_append, hgl, hgl2, A.out.2.2.2.2.1.len, A.out.2.2.2.2.2.1.len]); rw [AL.out.1] at hrl18; have hrw := rows_c w18 ra a18 LS (N1 + N2) rc c18 AL.out.2 AN.out.2.2.1 (A15.out.2.1.below b1518) hrl18 AO.out.1)
    | (go_at_call 10; with_reducible refine hrw.mono ?_; rintro e19 w19 ⟨rfl, k19, hm19⟩; have bl19 : Below lo w w19 := (by rw [hm19]; exact Below.drewN2 bl18 _); have b1519 : Below w15.heap.size w15 w19 := (by rw [hm19]; exact Below.drewN2 b1518 _); clear hm19; have hg3 := AG1.out w19 bl19)
    | (go_at_call 23; with_reducible refine hg3.mono ?_; intro e20 w20 h20; obtain ⟨gq, gr, gz, he20, hgl4, hgo4, hgv4, b20⟩ := h20.ex; subst he20; have bl20 : Below lo w w20 := bl19.trans (b20.mono (by have := b1519.size; have := A15.out.2.2.2; omega)); have hrl20 := Vd.rl (hgv4.below (show Below w.heap.size w w20 by rw [A.out.2.2.2.1]; exact bl20)) hgo4 (hgl4.trans A.out.2.2.2.2.1.len.symm); have hrw2 := rows_c w20 sa gq (ms.map Mb.dt) N1 sc gr (by rw [List.length_map]; exact A.out.2.2.2.2.1.len) AN.out.2.2.2 ((A15.out.2.2.1.below b1519).below b20) hrl20 AO.out.2)
    | (go_at_call 10; with_reducible refine hrw2.mono ?_; rintro e21 w21 ⟨rfl, k21, hm21⟩; have bl21 : Below lo w w21 := (by rw [hm21]; exact Below.drewN2 bl20 _); clear hm21; have ha := AW.out w21 bl21; have hsz : lo ≤ w21.heap.size := (by have := bl21.size; have := A.out.2.2.2.1; omega))
    | (go_at_call 13; refine ha.mono ?_; rintro e22 w22 ⟨rfl, b22⟩))
  first | go_ret | go_ret2
  exact ⟨rfl, bl21.trans (b22.mono hsz)⟩
end Go.Proofs.YtogednaamndpgaaGreatDoor

/-
  What tells comes to.
-/
import Derived.Test.YtogednaamndpgaaGreatDoorWsm
namespace Go.Proofs.YtogednaamndpgaaGreatDoor
open Go.RowKit
set_option linter.unusedVariables false
set_option linter.unusedSimpArgs false
/-- What tells answers. -/
structure Tla (lo hi B D b R W A : Nat) (s : Gs) (n : Nat) (w : World) (e : Ending) (w' : World) : Prop where
  ex : e = .returned (.tuple #[.int .i64 (n : Int), .bool true]) ∧ Wz w' lo hi B D b R W A s [] ∧ Fw lo hi w w'
section
variable {lo hi B D b R W A : Nat} {s : Gs}
/-- Where the loop stands. -/
structure Tkq (lo hi B D b R W A : Nat) (s : Gs) (T : List Gev) (t i n : Nat) (w wr : World) (E : List Evn) : Prop where
  wz : Wz wr lo hi B D b R W A s E
  fw : Fw lo hi w wr
  tn : Tn T t i E
  sum : i + E.length = n
theorem Tkq.next {T : List Gev} {t i n : Nat} {w wr w2 : World} {e : Evn} {E : List Evn} (h : Tkq lo hi B D b R W A s T t i n w wr (e :: E)) (k : Wz w2 lo hi B D b R W A s E) (f : Fw lo hi wr w2) : Tkq lo hi B D b R W A s T t (i + 1) n w w2 E := by
  have h1 := h.sum
  simp at h1
  exact ⟨k, h.fw.trans f, h.tn.next, by omega⟩
set_option maxRecDepth 20000 in
set_option maxHeartbeats 2000000 in
theorem tells_c (a : Option Addr) (T : List Gev) (N c t i n : Nat) (E : List Evn) (w : World) (hN : T.length = N) (hNb : N ≤ 1000000000000) (htb : t ≤ 1000000000000) (hyb : s.y.out.length + 1 < MM) (hT : ∀ u, Fw lo hi w u → Te u a T) (h : Tkq lo hi B D b R W A s T t i n w w E) : Calls Tryz.prog 17 #[.pointer (some ⟨W, 0, none⟩), .slice a N c, .int .i64 (i : Int), .int .i64 (t : Int)] w fun e w' => Tla lo hi B D b R W A s n w e w' := by
  have AQ : Aside (T.length = N ∧ (∀ u, Fw lo hi w u → Te u a T) ∧ N ≤ 1000000000000 ∧ t ≤ 1000000000000 ∧ s.y.out.length + 1 < MM) := ⟨hN, hT, hNb, htb, hyb⟩
  have A0 : Aside (Tkq lo hi B D b R W A s T t i n w w E) := h
  clear hN hT hNb htb hyb h
  go_enter Tryz.func17, Tryz.ntmps17
  go_wp2_with fail
  go_loopg [2] E.length (fun gg s2 wr => ∃ (i : Nat), s2 = .int .i64 (i : Int) ∧ Aside (∃ E, Tkq lo hi B D b R W A s T t i n w wr E ∧ gg = E.length))
  case atStart => exact ⟨i, rfl, ⟨E, A0.out, rfl⟩⟩
  case round =>
    clear A0
    obtain ⟨i, rfl, hR⟩ := hrel
    obtain ⟨E, tq, hgk⟩ := hR.out
    have a0 := AQ.out
    cases E with
    | nil =>
      have hno := wz_next_no wr tq.wz
      have hsum := tq.sum
      simp at hsum
      subst hsum
      have A3 : Aside (Wz wr lo hi B D b R W A s [] ∧ Fw lo hi w wr) := ⟨tq.wz, tq.fw⟩
      have hno' : Calls Tryz.prog 20 #[.pointer (some ⟨W, 0, none⟩)] wr fun e w' => e = .returned (.tuple #[.agg #[.int .i64 0, .int .u8 0, .int .i64 0, .int .i64 0, .string ⟨#[]⟩], .bool false]) ∧ Wz w' lo hi B D b R W A s [] ∧ Below wr.heap.size wr w' := hno
      by_cases hi' : i < N
      · have t1 : ((i : Int) < (N : Int)) = True := eq_true (by omega)
        have t2 : (i < N) = True := eq_true hi'
        obtain ⟨p, hp⟩ : ∃ p, T[i]? = some p := ⟨_, List.getElem?_eq_getElem (by omega)⟩
        rcases a0.2.1 wr tq.fw with e | ⟨ge, oe, rfl, hce⟩
        · rw [e] at hp; simp at hp
        obtain ⟨ce0, _⟩ := hce i p hp
        have hne := tq.tn.there p (by simpa using hp)
        obtain ⟨pt, pg⟩ := p
        have hx : ((pt : Int) == (t : Int)) = false := by simp; intro h; exact hne (by show pt = t; omega)
        simp only at ce0
        clear hR tq hgk a0 hno hce hp hne hi'
        go_upto_region 9 with (go_at_call 20; refine hno'.mono ?_; rintro e1 w1 ⟨rfl, z1, b1⟩)
        obtain ⟨E1, hE⟩ : ∃ E1, w1.heap.size = E1 := ⟨_, rfl⟩
        obtain ⟨w3, hw3⟩ : ∃ w3, w1.alloc (.cells #[.int .i64 0, .int .u8 0, .int .i64 0, .int .i64 0, .string ⟨#[]⟩] 43) = w3 := ⟨_, rfl⟩
        rw [hw3, hE]
        have kE : Cells w3 E1 #[.int .i64 0, .int .u8 0, .int .i64 0, .int .i64 0, .string ⟨#[]⟩] 43 := by rw [← hw3, ← hE]; exact Cells.new w1 _ 43
        have b3 : Below w1.heap.size w1 w3 := by rw [← hw3]; exact (Below.refl _ w1).alloc (Nat.le_refl _) _
        have A4 : Aside (Wz w3 lo hi B D b R W A s [] ∧ Fw lo hi w w3) := ⟨z1.below b3 (Nat.le_refl _), (A3.out.2.trans (Fw.of_below b1 (Nat.le_refl _))).trans (Fw.of_below b3 (Nat.le_refl _))⟩
        have d0 := kE.cell 0
        have d1 := kE.cell 1
        have d2 := kE.cell 2
        have d3 := kE.cell 3
        have d4 := kE.cell 4
        clear b1 b3 kE hE hw3 hno' A3 ce0 hx t1 t2 z1
        go_quiet (fail)
        go_wp2_with fail
        first | go_ret | go_ret2
        exact ⟨rfl, A4.out.1.below (Below.drewN2 (Below.refl _ w3) _) (Nat.le_refl _), A4.out.2.trans (Fw.drewN _ _)⟩
      · have t1 : ((i : Int) < (N : Int)) = False := eq_false (by omega)
        have t2 : (i < N) = False := eq_false hi'
        clear hR tq hgk a0 hno hi'
        go_upto_region 9 with (go_at_call 20; refine hno'.mono ?_; rintro e1 w1 ⟨rfl, z1, b1⟩)
        obtain ⟨E1, hE⟩ : ∃ E1, w1.heap.size = E1 := ⟨_, rfl⟩
        obtain ⟨w3, hw3⟩ : ∃ w3, w1.alloc (.cells #[.int .i64 0, .int .u8 0, .int .i64 0, .int .i64 0, .string ⟨#[]⟩] 43) = w3 := ⟨_, rfl⟩
        rw [hw3, hE]
        have kE : Cells w3 E1 #[.int .i64 0, .int .u8 0, .int .i64 0, .int .i64 0, .string ⟨#[]⟩] 43 := by rw [← hw3, ← hE]; exact Cells.new w1 _ 43
        have b3 : Below w1.heap.size w1 w3 := by rw [← hw3]; exact (Below.refl _ w1).alloc (Nat.le_refl _) _
        have A4 : Aside (Wz w3 lo hi B D b R W A s [] ∧ Fw lo hi w w3) := ⟨z1.below b3 (Nat.le_refl _), (A3.out.2.trans (Fw.of_below b1 (Nat.le_refl _))).trans (Fw.of_below b3 (Nat.le_refl _))⟩
        have d0 := kE.cell 0
        have d1 := kE.cell 1
        have d2 := kE.cell 2
        have d3 := kE.cell 3
        have d4 := kE.cell 4
        clear b1 b3 kE hE hw3 hno' A3 t1 t2 z1
        go_quiet (fail)
        go_wp2_with fail
        first | go_ret | go_ret2
        exact ⟨rfl, A4.out.1.below (Below.drewN2 (Below.refl _ w3) _) (Nat.le_refl _), A4.out.2.trans (Fw.drewN _ _)⟩
    | cons e E =>
      have hp := tq.tn.here 0 e rfl
      rw [Nat.add_zero] at hp
      have hi' : i < N := by
        have := (List.getElem?_eq_some_iff.1 hp).1
        omega
      have t1 : ((i : Int) < (N : Int)) = True := eq_true (by omega)
      have t2 : (i < N) = True := eq_true hi'
      rcases a0.2.1 wr tq.fw with q | ⟨ge, oe, rfl, hce⟩
      · rw [q] at hp; simp at hp
      obtain ⟨g, nm⟩ := e
      obtain ⟨ce0, ce1, ce2, ce3, ce4, ce5⟩ := hce i _ hp
      simp only at ce0
      have hx : ((t : Int) == (t : Int)) = true := by simp
      have hput : Calls Tryz.prog 15 #[.pointer (some ⟨W, 0, none⟩), .int .u8 120] wr fun e w' => e = .returned (.bool false) ∧ wr = w' := wz_put_no 120 wr tq.wz (Or.inl (by simp))
      have hrea : Calls Tryz.prog 18 #[.pointer (some ⟨W, 0, none⟩)] wr fun e w' => e = .returned (.int .i64 0) ∧ wr = w' := wz_reason wr tq.wz
      obtain ⟨vk, hvk⟩ : ∃ vk : Int, gk1 g = vk := ⟨_, rfl⟩
      obtain ⟨vb, hvb⟩ : ∃ vb : Int, gk2 g = vb := ⟨_, rfl⟩
      obtain ⟨vn, hvn⟩ : ∃ vn : Int, gk3 g = vn := ⟨_, rfl⟩
      obtain ⟨vs, hvs⟩ : ∃ vs, st nm = vs := ⟨_, rfl⟩
      have hnx : Calls Tryz.prog 20 #[.pointer (some ⟨W, 0, none⟩)] wr fun e w' => e = .returned (.tuple #[.agg #[.int .i64 vk, .int .u8 vb, .int .i64 vn, .int .i64 0, .string vs], .bool true]) ∧ Wz w' lo hi B D b R W A s E ∧ Fw lo hi wr w' := by
        have := wz_next (g, nm) wr tq.wz (by omega)
        rw [show gevv (g, nm).1 (g, nm).2 = #[.int .i64 vk, .int .u8 vb, .int .i64 vn, .int .i64 0, .string vs] by unfold gevv; rw [hvk, hvb, hvn, hvs]] at this
        exact this
      have AR : Aside (Tkq lo hi B D b R W A s T t i n w wr ((g, nm) :: E) ∧ gk = ((g, nm) :: E).length ∧ i < N ∧ T[i]? = some (t, g, nm) ∧ gk1 g = vk ∧ gk2 g = vb ∧ gk3 g = vn ∧ st nm = vs) := ⟨tq, hgk, hi', hp, hvk, hvb, hvn, hvs⟩
      clear hR tq hgk a0 hce hp hi' ce1 ce2 ce3 ce4 ce5 hvk hvb hvn hvs
      go_upto_region 5 with (first | (go_at_call 15; refine hput.mono ?_; rintro e1 w1 ⟨rfl, rfl⟩) | (go_at_call 18; refine hrea.mono ?_; rintro e1 w1 ⟨rfl, rfl⟩) | (go_at_call 20; refine hnx.mono ?_; rintro e1 w1 ⟨rfl, k1, b1⟩))
      obtain ⟨E1, hE⟩ : ∃ E1, w1.heap.size = E1 := ⟨_, rfl⟩
      obtain ⟨w3, hw3⟩ : ∃ w3, w1.alloc (.cells #[.int .i64 vk, .int .u8 vb, .int .i64 vn, .int .i64 0, .string vs] 43) = w3 := ⟨_, rfl⟩
      rw [hw3, hE]
      have kE : Cells w3 E1 #[.int .i64 vk, .int .u8 vb, .int .i64 vn, .int .i64 0, .string vs] 43 := by rw [← hw3, ← hE]; exact Cells.new w1 _ 43
      have b3 : Below w1.heap.size w1 w3 := by rw [← hw3]; exact (Below.refl _ w1).alloc (Nat.le_refl _) _
      have ar := AR.out
      have bw3 : Fw lo hi wr w3 := b1.trans (Fw.of_below b3 (Nat.le_refl _))
      have kw3 : Wz w3 lo hi B D b R W A s E := k1.below b3 (Nat.le_refl _)
      have A4 : Aside (Tkq lo hi B D b R W A s T t (i + 1) n w w3 E) := ar.1.next kw3 bw3
      have d0 := kE.cell 0
      have d1 := kE.cell 1
      have d2 := kE.cell 2
      have d3 := kE.cell 3
      have d4 := kE.cell 4
      rcases AQ.out.2.1 w3 (ar.1.fw.trans bw3) with q | ⟨ge2, oe2, he2, hce⟩
      · have := ar.2.2.2.1; rw [q] at this; simp at this
      injection he2 with he2
      injection he2 with he2 ho2
      subst he2 ho2
      obtain ⟨_, ce1, ce2, ce3, ce4, ce5⟩ := hce i _ ar.2.2.2.1
      simp only at ce1 ce2 ce3 ce4 ce5
      rw [ar.2.2.2.2.1] at ce1
      rw [ar.2.2.2.2.2.1] at ce2
      rw [ar.2.2.2.2.2.2.1] at ce3
      rw [ar.2.2.2.2.2.2.2] at ce5
      have hN : i < N := ar.2.2.1
      have hN9 : N ≤ 1000000000000 := AQ.out.2.2.1
      have bi : (i : Int) < 2000000000000 := by omega
      have hss : (vs.toList == vs.toList) = true := by simp
      clear b1 b3 kE hE hw3 hput hrea hnx k1 bw3 kw3 hce ar ce0
      go_quiet (fail)
      go_wp2_with fail
      have ar := AR.out
      have hgl := ar.2.1
      simp at hgl
      go_roundg (gk - 1)
      case measure => omega
      case rel => exact ⟨i + 1, by go_num, ⟨E, ⟨A4.out.wz.below (Below.drewN2 (Below.refl _ w3) _) (Nat.le_refl _), A4.out.fw.trans (Fw.drewN _ _), A4.out.tn, A4.out.sum⟩, by omega⟩⟩
end
end Go.Proofs.YtogednaamndpgaaGreatDoor

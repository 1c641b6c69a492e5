/-
  What tells comes to.
-/
import Derived.Test.YtbndohpcaahenaaRpt
import Derived.Test.YtbndohpcaahenaaNobodyCore
namespace Go.Proofs.Ytbndohpcaahenaa
open Go.RowKit
set_option linter.unusedVariables false
set_option linter.unusedSimpArgs false
section
variable {w u : World} {B : Nat} {D : List Nat} {q : Sp} {ed : Bool} {rem : List Nat}
theorem kn_put {g : Nat} {r : List Nat} (h : Kn w B D q ed (g :: r)) (x : Nat) : Calls Try.prog 18 #[.pointer (some ⟨B, 0, none⟩), .int .u8 (x : Int)] w fun e w' => e = .returned (.bool false) ∧ w = w' := by
  obtain ⟨s, td, h1, h2, ⟨_, _, h3, _⟩ | ⟨h3, h4, h5⟩⟩ := h.ex
  · cases h3
  · exact (put_no x w h1 (Or.inr (by omega))).mono fun e w' k => ⟨k.1, k.2.symm⟩
theorem kn_reason {g : Nat} {r : List Nat} (h : Kn w B D q ed (g :: r)) : Calls Try.prog 20 #[.pointer (some ⟨B, 0, none⟩)] w fun e w' => e = .returned (.int .i64 0) ∧ w = w' := by
  obtain ⟨s, td, h1, h2, ⟨_, _, h3, _⟩ | ⟨h3, h4, h5⟩⟩ := h.ex
  · cases h3
  · refine (reason_c w h1).mono fun e w' k => ⟨?_, k.2.symm⟩
    rw [k.1]
    have : ¬ s.kn = 0 := by omega
    simp [why, this]
end
/-- What tells answers. -/
structure Tla (B : Nat) (D : List Nat) (q : Sp) (ed : Bool) (n : Nat) (w : World) (e : Ending) (w' : World) : Prop where
  ex : e = .returned (.tuple #[.int .i64 (n : Int), .bool true]) ∧ Sm w' B D q 0 ed ∧ But B w w'
/-- Where the loop stands. -/
structure Tq (B : Nat) (D : List Nat) (q : Sp) (ed : Bool) (T : List (Nat × Nat)) (t i n : Nat) (w wr : World) (rem : List Nat) : Prop where
  kn : Kn wr B D q ed rem
  but : But B w wr
  here : ∀ (j g : Nat), rem[j]? = some g → T[i + j]? = some (t, g)
  there : ∀ p, T[i + rem.length]? = some p → p.1 ≠ t
  sum : i + rem.length = n
theorem Tq.next {B : Nat} {D : List Nat} {q : Sp} {ed : Bool} {T : List (Nat × Nat)} {t i n g : Nat} {w wr w2 : World} {rem : List Nat} (h : Tq B D q ed T t i n w wr (g :: rem)) (k : Kn w2 B D q ed rem) (b : But B wr w2) : Tq B D q ed T t (i + 1) n w w2 rem := by
  have h1 := h.sum
  simp at h1
  refine ⟨k, h.but.trans b, fun j x hj => ?_, fun p hp => h.there p ?_, by omega⟩
  · have := h.here (j + 1) x (by simpa using hj)
    rw [← this]; congr 1; omega
  · rw [← hp]; congr 1; simp; omega
set_option maxHeartbeats 2000000 in
theorem tells_c {B : Nat} {D : List Nat} {q : Sp} {ed : Bool} (hkq : q.kn = 0) (a : Option Addr) (T : List (Nat × Nat)) (N c t i n : Nat) (rem : List Nat) (w : World) (hN : T.length = N) (hNb : N ≤ 1000000000) (htb : t ≤ 1000000000) (hsg : ∀ g ∈ rem, g < 258) (hT : ∀ u, But B w u → Te u a T) (h : Tq B D q ed T t i n w w rem) : Calls Try.prog 19 #[.pointer (some ⟨B, 0, none⟩), .slice a N c, .int .i64 (i : Int), .int .i64 (t : Int)] w fun e w' => Tla B D q ed n w e w' := by
  have A : Aside (T.length = N ∧ (∀ u, But B w u → Te u a T) ∧ N ≤ 1000000000 ∧ t ≤ 1000000000) := ⟨hN, hT, hNb, htb⟩
  have A0 : Aside (Tq B D q ed T t i n w w rem ∧ ∀ g ∈ rem, g < 258) := ⟨h, hsg⟩
  have AK : Aside (q.kn = 0) := hkq
  clear hN hT hNb htb hsg h hkq
  go_enter Try.func19, Try.ntmps19
  go_wp2_with fail
  go_loopg [2] rem.length (fun gg s2 wr => ∃ (i : Nat), s2 = .int .i64 (i : Int) ∧ Aside (∃ rem, Tq B D q ed T t i n w wr rem ∧ (∀ g ∈ rem, g < 258) ∧ gg = rem.length))
  case atStart => exact ⟨i, rfl, ⟨rem, A0.out.1, A0.out.2, rfl⟩⟩
  case round =>
    clear A0
    obtain ⟨i, rfl, hR⟩ := hrel
    obtain ⟨rem, tq, hs, hgk⟩ := hR.out
    have a0 := A.out
    cases rem with
    | nil =>
      have hno := nx_no tq.kn AK.out
      have hsm := tq.kn.done
      have hbut := tq.but
      have hsum := tq.sum
      simp at hsum
      subst hsum
      have A3 : Aside (Kn wr B D q ed [] ∧ But B w wr) := ⟨tq.kn, hbut⟩
      by_cases hi : i < N
      · have t1 : ((i : Int) < (N : Int)) = True := eq_true (by omega)
        have t2 : (i < N) = True := eq_true hi
        obtain ⟨p, hp⟩ : ∃ p, T[i]? = some p := ⟨_, List.getElem?_eq_getElem (by omega)⟩
        rcases a0.2.1 wr tq.but with e | ⟨ge, oe, rfl, hce⟩
        · rw [e] at hp; simp at hp
        obtain ⟨ce0, _⟩ := hce i p hp
        have hne := tq.there p (by simpa using hp)
        obtain ⟨pt, pg⟩ := p
        have hx : ((pt : Int) == (t : Int)) = false := by simp; intro h; exact hne (by show pt = t; omega)
        have hno' : Calls Try.prog 25 #[.pointer (some ⟨B, 0, none⟩)] wr fun e w' => e = .returned (.tuple #[.agg #[.int .i64 0, .int .u8 0, .int .i64 0, .int .i64 0, .string ⟨#[]⟩], .bool false]) ∧ Below wr.heap.size wr w' := hno
        simp only at ce0
        clear hR tq hs hgk a0 hno hsm hbut hce hp hne hi
        go_upto_region 9 with (go_at_call 25; refine hno'.mono ?_; rintro e1 w1 ⟨rfl, b1⟩)
        obtain ⟨E, hE⟩ : ∃ E, w1.heap.size = E := ⟨_, rfl⟩
        obtain ⟨w3, hw3⟩ : ∃ w3, w1.alloc (.cells #[.int .i64 0, .int .u8 0, .int .i64 0, .int .i64 0, .string ⟨#[]⟩] 50) = w3 := ⟨_, rfl⟩
        rw [hw3, hE]
        have kE : Cells w3 E #[.int .i64 0, .int .u8 0, .int .i64 0, .int .i64 0, .string ⟨#[]⟩] 50 := by rw [← hw3, ← hE]; exact Cells.new w1 _ 50
        have b3 : Below w1.heap.size w1 w3 := by rw [← hw3]; exact (Below.refl _ w1).alloc (Nat.le_refl _) _
        have A4 : Aside (Kn w3 B D q ed [] ∧ But B w w3) := by
          have a3 := A3.out
          have k1 := a3.1.below b1
          exact ⟨k1.below b3, (a3.2.trans (But.of_below b1)).trans (But.of_below b3)⟩
        have d0 := kE.cell 0
        have d1 := kE.cell 1
        have d2 := kE.cell 2
        have d3 := kE.cell 3
        have d4 := kE.cell 4
        clear b1 b3 kE hE hw3 hno' A3 ce0 hx t1 t2
        go_quiet (fail)
        go_wp2_with fail
        first | go_ret | go_ret2
        exact ⟨rfl, A4.out.1.done.keep rfl, ⟨A4.out.2.os, A4.out.2.tape, A4.out.2.output, A4.out.2.size, A4.out.2.block⟩⟩
      · have t1 : ((i : Int) < (N : Int)) = False := eq_false (by omega)
        have t2 : (i < N) = False := eq_false hi
        have hno' : Calls Try.prog 25 #[.pointer (some ⟨B, 0, none⟩)] wr fun e w' => e = .returned (.tuple #[.agg #[.int .i64 0, .int .u8 0, .int .i64 0, .int .i64 0, .string ⟨#[]⟩], .bool false]) ∧ Below wr.heap.size wr w' := hno
        clear hR tq hs hgk a0 hno hsm hbut hi
        go_upto_region 9 with (go_at_call 25; refine hno'.mono ?_; rintro e1 w1 ⟨rfl, b1⟩)
        obtain ⟨E, hE⟩ : ∃ E, w1.heap.size = E := ⟨_, rfl⟩
        obtain ⟨w3, hw3⟩ : ∃ w3, w1.alloc (.cells #[.int .i64 0, .int .u8 0, .int .i64 0, .int .i64 0, .string ⟨#[]⟩] 50) = w3 := ⟨_, rfl⟩
        rw [hw3, hE]
        have kE : Cells w3 E #[.int .i64 0, .int .u8 0, .int .i64 0, .int .i64 0, .string ⟨#[]⟩] 50 := by rw [← hw3, ← hE]; exact Cells.new w1 _ 50
        have b3 : Below w1.heap.size w1 w3 := by rw [← hw3]; exact (Below.refl _ w1).alloc (Nat.le_refl _) _
        have A4 : Aside (Kn w3 B D q ed [] ∧ But B w w3) := by
          have a3 := A3.out
          have k1 := a3.1.below b1
          exact ⟨k1.below b3, (a3.2.trans (But.of_below b1)).trans (But.of_below b3)⟩
        have d0 := kE.cell 0
        have d1 := kE.cell 1
        have d2 := kE.cell 2
        have d3 := kE.cell 3
        have d4 := kE.cell 4
        clear b1 b3 kE hE hw3 hno' A3 t1 t2
        go_quiet (fail)
        go_wp2_with fail
        first | go_ret | go_ret2
        exact ⟨rfl, A4.out.1.done.keep rfl, ⟨A4.out.2.os, A4.out.2.tape, A4.out.2.output, A4.out.2.size, A4.out.2.block⟩⟩
    | cons g r =>
      have hi : i < N := by
        have := tq.here 0 g rfl
        have := List.getElem?_eq_some_iff.1 this
        obtain ⟨h, _⟩ := this
        omega
      have t1 : ((i : Int) < (N : Int)) = True := eq_true (by omega)
      have t2 : (i < N) = True := eq_true hi
      have hp := tq.here 0 g rfl
      rw [Nat.add_zero] at hp
      rcases a0.2.1 wr tq.but with e | ⟨ge, oe, rfl, hce⟩
      · rw [e] at hp; simp at hp
      obtain ⟨ce0, ce1, ce2, ce3, ce4, ce5⟩ := hce i _ hp
      simp only at ce0 ce1 ce2 ce3 ce4 ce5
      have hx : ((t : Int) == (t : Int)) = true := by simp
      have hput := kn_put tq.kn 120
      have hput' : Calls Try.prog 18 #[.pointer (some ⟨B, 0, none⟩), .int .u8 120] wr fun e w' => e = .returned (.bool false) ∧ wr = w' := hput
      have hrea := kn_reason tq.kn
      have hg : g < 258 := hs g (by simp)
      have hnx : Calls Try.prog 25 #[.pointer (some ⟨B, 0, none⟩)] wr fun e w' => e = .returned (.tuple #[.agg #[.int .i64 (evk g : Nat), .int .u8 (evb g : Nat), .int .i64 (evn g : Nat), .int .i64 0, .string ⟨#[]⟩], .bool true]) ∧ Kn w' B D q ed r ∧ But B wr w' := nx_yes tq.kn hg
      have AR : Aside (Tq B D q ed T t i n w wr (g :: r) ∧ (∀ x ∈ r, x < 258) ∧ gk = (g :: r).length ∧ i < N ∧ T[i]? = some (t, g)) := ⟨tq, fun x hx => hs x (by simp [hx]), hgk, hi, hp⟩
      clear hR tq hs hgk a0 hce hp hput hi ce1 ce2 ce3 ce4 ce5
      go_upto_region 5 with (first | (go_at_call 18; refine hput'.mono ?_; rintro e1 w1 ⟨rfl, rfl⟩) | (go_at_call 20; refine hrea.mono ?_; rintro e1 w1 ⟨rfl, rfl⟩) | (go_at_call 25; refine hnx.mono ?_; rintro e1 w1 ⟨rfl, k1, b1⟩))
      obtain ⟨E, hE⟩ : ∃ E, w1.heap.size = E := ⟨_, rfl⟩
      obtain ⟨w3, hw3⟩ : ∃ w3, w1.alloc (.cells #[.int .i64 (evk g : Nat), .int .u8 (evb g : Nat), .int .i64 (evn g : Nat), .int .i64 0, .string ⟨#[]⟩] 50) = w3 := ⟨_, rfl⟩
      rw [hw3, hE]
      have kE : Cells w3 E #[.int .i64 (evk g : Nat), .int .u8 (evb g : Nat), .int .i64 (evn g : Nat), .int .i64 0, .string ⟨#[]⟩] 50 := by rw [← hw3, ← hE]; exact Cells.new w1 _ 50
      have b3 : Below w1.heap.size w1 w3 := by rw [← hw3]; exact (Below.refl _ w1).alloc (Nat.le_refl _) _
      have ar := AR.out
      have bw3 : But B wr w3 := b1.trans (But.of_below b3)
      have kw3 : Kn w3 B D q ed r := k1.below b3
      have A4 : Aside (Tq B D q ed T t (i + 1) n w w3 r) := ar.1.next kw3 bw3
      have d0 := kE.cell 0
      have d1 := kE.cell 1
      have d2 := kE.cell 2
      have d3 := kE.cell 3
      have d4 := kE.cell 4
      rcases A.out.2.1 w3 (ar.1.but.trans bw3) with e | ⟨ge2, oe2, he2, hce⟩
      · have := ar.2.2.2.2; rw [e] at this; simp at this
      injection he2 with he2
      injection he2 with he2 ho2
      subst he2 ho2
      obtain ⟨_, ce1, ce2, ce3, ce4, ce5⟩ := hce i _ ar.2.2.2.2
      simp only at ce1 ce2 ce3 ce4 ce5
      obtain ⟨vk, hvk⟩ : ∃ vk : Int, ((evk g : Nat) : Int) = vk := ⟨_, rfl⟩
      obtain ⟨vb, hvb⟩ : ∃ vb : Int, ((evb g : Nat) : Int) = vb := ⟨_, rfl⟩
      obtain ⟨vn, hvn⟩ : ∃ vn : Int, ((evn g : Nat) : Int) = vn := ⟨_, rfl⟩
      rw [hvk] at d0 ce1
      rw [hvb] at d1 ce2
      rw [hvn] at d2 ce3
      have hN : i < N := ar.2.2.2.1
      have hN9 : N ≤ 1000000000 := A.out.2.2.1
      have bi : (i : Int) < 2000000000 := by omega
      clear b1 b3 kE hE hw3 hput' hrea hnx hvk hvb hvn k1 bw3 kw3 hce ar ce0 hg
      go_quiet (fail)
      go_wp2_with fail
      have ar := AR.out
      have hgl := ar.2.2.1
      simp at hgl
      go_roundg (gk - 1)
      case measure => omega
      case rel => exact ⟨i + 1, by go_num, ⟨r, ⟨A4.out.kn.keep rfl, ⟨A4.out.but.os, A4.out.but.tape, A4.out.but.output, A4.out.but.size, A4.out.but.block⟩, A4.out.here, A4.out.there, A4.out.sum⟩, ar.2.1, by omega⟩⟩
end Go.Proofs.Ytbndohpcaahenaa

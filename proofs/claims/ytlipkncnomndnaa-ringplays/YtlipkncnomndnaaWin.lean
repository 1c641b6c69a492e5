/-
  What Put, Back, Clear, Len, Size and Tail of the ring come to, at a window in memory that holds a list of bytes; and Same of two lists that are one.
  Conditions: the window has a size from 1 to 32768, and the list is not longer; each method keeps that.
-/
import Derived.Test.YtlipkncnomndnaaOut
namespace Go.Proofs.Ytlipkncnomndnaa
open Go.RowKit
set_option linter.unusedVariables false

/-- Block H holds a window of N cells, which lie in block K; l is what is in it. -/
structure Rg (w : World) (H K N : Nat) (l : List Int) : Prop where
  ex : ∃ x cs, Lo w H K N x l.length cs ∧ Holds N x cs l
section
variable {w u : World} {H K N : Nat} {l : List Int}
theorem Rg.drewN (r : Rg w H K N l) (n : Nat) : Rg (w.drewN n) H K N l := by obtain ⟨x, cs, lo, hh⟩ := r.ex; exact ⟨x, cs, lo.drewN n, hh⟩
theorem Rg.drew (r : Rg w H K N l) : Rg w.drew H K N l := by obtain ⟨x, cs, lo, hh⟩ := r.ex; exact ⟨x, cs, lo.drew, hh⟩
theorem Rg.only {c : Nat} (r : Rg w H K N l) (k : Only c w u) (h1 : H ≠ c) (h2 : K ≠ c) : Rg u H K N l := by obtain ⟨x, cs, lo, hh⟩ := r.ex; exact ⟨x, cs, lo.only k h1 h2, hh⟩
theorem Rg.below {B : Nat} (r : Rg w H K N l) (k : Below B w u) (h1 : H < B) (h2 : K < B) : Rg u H K N l := by obtain ⟨x, cs, lo, hh⟩ := r.ex; exact ⟨x, cs, lo.below k h1 h2, hh⟩
theorem Rg.alloc (r : Rg w H K N l) (o : Obj) : Rg (w.alloc o) H K N l := by obtain ⟨x, cs, lo, hh⟩ := r.ex; exact ⟨x, cs, lo.alloc o, hh⟩
theorem Rg.two {a b : Nat} (r : Rg w H K N l) (k : Two a b w u) (h1 : H ≠ a) (h2 : K ≠ a) (h3 : H ≠ b) (h4 : K ≠ b) : Rg u H K N l := by
  obtain ⟨x, cs, lo, hh⟩ := r.ex
  refine ⟨x, cs, ⟨?_, ?_, lo.len, lo.n1, lo.n2, lo.xlt, lo.hle, lo.ne⟩, hh⟩
  · have := lo.hd; unfold Cells at *; rw [k.block H h1 h3]; exact this
  · have := lo.row; unfold Cells at *; rw [k.block K h2 h4]; exact this
theorem Rg.lt (r : Rg w H K N l) : H < w.heap.size ∧ K < w.heap.size := by obtain ⟨x, cs, lo, hh⟩ := r.ex; exact ⟨lo.hd.lt, lo.row.lt⟩
theorem Rg.le (r : Rg w H K N l) : l.length ≤ N ∧ N ≤ 32768 ∧ 1 ≤ N := by obtain ⟨x, cs, lo, hh⟩ := r.ex; exact ⟨lo.hle, lo.n2, lo.n1⟩
end
theorem new_r (n : Nat) (w : World) (h1 : 1 ≤ n) (h2 : n ≤ 32768) : Calls Try.prog 8 #[.int .i64 n] w fun e w' => e = .returned (.tuple #[.pointer (some ⟨w.heap.size + 1, 0, none⟩), .int .i64 0]) ∧
    Rg w' (w.heap.size + 1) w.heap.size n [] ∧ Below w.heap.size w w' ∧ w'.heap.size = w.heap.size + 2 :=
  (new_yes n w h1 h2).mono fun _ _ h => ⟨h.1, ⟨0, _, h.2.1, holds_nil _ _ _⟩, h.2.2⟩
section
variable {H K N : Nat} {l : List Int}
theorem len_r (w : World) (r : Rg w H K N l) : Calls Try.prog 20 #[.pointer (some ⟨H, 0, none⟩)] w fun e w' => e = .returned (.int .i64 (l.length : Int)) ∧ w = w' := by
  obtain ⟨x, cs, lo, hh⟩ := r.ex; exact len_c w lo
theorem size_r (w : World) (r : Rg w H K N l) : Calls Try.prog 21 #[.pointer (some ⟨H, 0, none⟩)] w fun e w' => e = .returned (.int .i64 (N : Int)) ∧ w = w' := by
  obtain ⟨x, cs, lo, hh⟩ := r.ex; exact size_c w lo
theorem clear_r (w : World) (r : Rg w H K N l) : Calls Try.prog 18 #[.pointer (some ⟨H, 0, none⟩)] w fun e w' => e = .returned (.tuple #[]) ∧ Rg w' H K N [] ∧ Only H w w' := by
  obtain ⟨x, cs, lo, hh⟩ := r.ex
  exact (clear_c w lo).mono fun _ _ h => ⟨h.1, ⟨0, cs, h.2.1, holds_nil _ _ _⟩, h.2.2⟩
theorem put_r (z : Int) (w : World) (r : Rg w H K N l) : Calls Try.prog 10 #[.pointer (some ⟨H, 0, none⟩), .int .u8 z] w fun e w' => e = .returned (.tuple #[]) ∧ Rg w' H K N (lastN N (l ++ [z])) ∧ Two H K w w' := by
  obtain ⟨x, cs, lo, hh⟩ := r.ex
  refine (put_c z w lo).mono fun _ _ h => ⟨h.1, ⟨_, _, ?_, put_holds hh lo.len lo.xlt lo.hle z⟩, h.2.2⟩
  rw [lastN_length, List.length_append, List.length_singleton]
  exact h.2.1
theorem back_r_no (d : Int) (w : World) (r : Rg w H K N l) (hd : d < 1 ∨ (l.length : Int) < d) : Calls Try.prog 12 #[.pointer (some ⟨H, 0, none⟩), .int .i64 d] w fun e w' => e = .returned (.tuple #[.int .u8 0, .bool false]) ∧ w = w' := by
  obtain ⟨x, cs, lo, hh⟩ := r.ex; exact back_no d w lo hd
theorem back_r (d : Nat) (z : Int) (w : World) (r : Rg w H K N l) (h1 : 1 ≤ d) (h2 : d ≤ l.length) (hz : l[l.length - d]? = some z) :
    Calls Try.prog 12 #[.pointer (some ⟨H, 0, none⟩), .int .i64 (d : Int)] w fun e w' => e = .returned (.tuple #[.int .u8 z, .bool true]) ∧ ∃ n, w' = w.drewN n := by
  obtain ⟨x, cs, lo, hh⟩ := r.ex
  exact back_yes d z w lo h1 h2 ((hh d h1 h2).trans hz)
/-- moveOut, whatever lies where. -/
theorem moveOut_r {ys : List Int} (g n c d : Nat) (w : World) (r : Rg w H K N l) (hg : Cells w g (vb ys).toArray 5) (hn : n ≤ ys.length) (hc : n ≤ c) (hcm : c ≤ 65536) (h1 : 1 ≤ d) (hd : d ≤ l.length) (hnd : n ≤ d) (hH : H ≠ g) (hK : K ≠ g) :
    Calls Try.prog 24 #[.pointer (some ⟨H, 0, none⟩), .slice (some ⟨g, 0, none⟩) n c, .int .i64 (d : Int)] w fun e w' => e = .returned (.tuple #[]) ∧ Cells w' g (vb (splice ys 0 ((l.drop (l.length - d)).take n))).toArray 5 ∧ Only g w w' := by
  obtain ⟨x, cs, lo, hh⟩ := r.ex
  have hdN : d ≤ N := Nat.le_trans hd lo.hle
  by_cases h0 : n = 0
  · subst h0
    rw [List.take_zero, splice_nil]
    exact moveOut_0 g c d w lo hg h1 hdN hH hK
  · by_cases hA : bck N x d + n ≤ N
    · rw [← out_a hh d n lo.xlt lo.hle h1 hd hnd hA]
      exact moveOut_a g n c d w lo hg hn hc hcm h1 hdN hnd hH hK hA (by omega)
    · have hb := bck_lt lo.xlt h1 hdN
      obtain ⟨m, hm⟩ : ∃ m, bck N x d + m = N := ⟨N - bck N x d, by omega⟩
      obtain ⟨q, hq⟩ : ∃ q, m + q = n := ⟨n - m, by omega⟩
      have e := out_b hh d n m q lo.xlt lo.hle lo.len h1 hd hnd hm hq
      have l1 : (cs.drop (bck N x d)).length = m := by rw [List.length_drop, lo.len]; omega
      have l2 : (cs.take q).length = q := by rw [List.length_take, lo.len]; have := lo.hle; omega
      rw [← e, ← splice_app _ _ _ (by omega), l1]
      exact moveOut_b g n c d m q w lo hg hn hc hcm h1 hdN hnd hH hK hm hq (by omega) (by omega)
end

/-- A list of bytes that a call answered: none, or in a block of its own, not below B, all of it. -/
def Ans (w : World) (B : Nat) (v : Value) (l : List Int) : Prop := (l = [] ∧ v = .slice none 0 0) ∨ ∃ g, v = .slice (some ⟨g, 0, none⟩) l.length l.length ∧ B ≤ g ∧ Cells w g (vb l).toArray 5
/-- A list of bytes, wherever it lies. -/
def Lst (w : World) (v : Value) (l : List Int) : Prop := ∃ a c, v = .slice a l.length c ∧ l.length ≤ c ∧ (l = [] ∨ ∃ b o, a = some ⟨b, o, none⟩ ∧ ∀ i z, l[i]? = some z → w.cell? ⟨b, o + i, none⟩ = some (.int .u8 z))
theorem Ans.lst {w : World} {B : Nat} {v : Value} {l : List Int} (h : Ans w B v l) : Lst w v l := by
  rcases h with ⟨rfl, rfl⟩ | ⟨g, rfl, _, hc⟩
  · exact ⟨_, _, rfl, Nat.le_refl _, Or.inl rfl⟩
  · exact ⟨_, _, rfl, Nat.le_refl _, Or.inr ⟨g, 0, rfl, fun i z hz => by rw [Nat.zero_add]; exact hc.byte hz⟩⟩
theorem Ans.drewN {w : World} {B : Nat} {v : Value} {l : List Int} (h : Ans w B v l) (n : Nat) : Ans (w.drewN n) B v l := h
theorem Lst.drewN {w : World} {v : Value} {l : List Int} (h : Lst w v l) (n : Nat) : Lst (w.drewN n) v l := h
theorem Lst.drew {w : World} {v : Value} {l : List Int} (h : Lst w v l) : Lst w.drew v l := h
theorem tail_r {H K N : Nat} {l : List Int} (w : World) (r : Rg w H K N l) : Calls Try.prog 19 #[.pointer (some ⟨H, 0, none⟩)] w fun e w' => (∃ v, e = .returned v ∧ Ans w' w.heap.size v l) ∧ Below w.heap.size w w' := by
  have hlt := r.lt
  have hle := r.le
  by_cases h0 : l = []
  · subst h0
    go_enter Try.func19, Try.ntmps19
    go_wp2_with fail
    refine (len_r _ r).mono ?_
    rintro e w' ⟨rfl, rfl⟩
    go_wp2_with fail
    go_ret
    exact ⟨⟨_, rfl, Or.inl ⟨rfl, rfl⟩⟩, Below.refl _ _⟩
  · have hl0 : 1 ≤ l.length := by cases l with | nil => exact absurd rfl h0 | cons a t => simp
    have hm := made l.length (by omega) w
    have hlen := len_r w r
    have hcell := Cells.new w (vb (List.replicate l.length 0)).toArray 5
    have hal := r.alloc (.cells (vb (List.replicate l.length 0)).toArray 5)
    have hmo := moveOut_r w.heap.size l.length l.length l.length _ hal hcell (by simp) (Nat.le_refl _) (by omega) hl0 (Nat.le_refl _) (Nat.le_refl _) (by omega) (by omega)
    rw [Nat.sub_self, List.drop_zero, List.take_length, splice_all _ _ (by simp)] at hmo
    generalize (vb (List.replicate l.length 0)).toArray = zs at *
    have AR : Aside (l.length ≤ 32768) := by show _ ≤ _; omega
    generalize hn : l.length = n at *
    have hn0 : ((n : Int) == 0) = false := by simp; omega
    clear hcell hal hle h0
    go_enter Try.func19, Try.ntmps19
    go_wp2_with fail
    refine hlen.mono ?_
    rintro e w' ⟨rfl, rfl⟩
    go_wp2_with fail
    refine hmo.mono ?_
    rintro e w2 ⟨rfl, hc2, ho2⟩
    go_wp2_with fail
    go_ret
    refine ⟨⟨_, rfl, Or.inr ⟨w.heap.size, ?_, Nat.le_refl _, hc2⟩⟩, ?_⟩
    · rw [hn]; rfl
    · exact ((Below.refl _ _).alloc (Nat.le_refl _) _).trans (ho2.below (Nat.le_refl _))
set_option maxHeartbeats 1000000 in
theorem same_c (va vc : Value) (l : List Int) (w : World) (ha : Lst w va l) (hb : Lst w vc l) (hl : l.length ≤ 1048576) : Calls Try.prog 16 #[va, vc] w fun e w' => e = .returned (.bool true) ∧ ∃ n, w' = w.drewN n := by
  obtain ⟨a1, c1, rfl, hc1, h1⟩ := ha
  obtain ⟨a2, c2, rfl, hc2, h2⟩ := hb
  have hlz : ((l.length : Int) != (l.length : Int)) = false := by simp
  go_enter Try.func16, Try.ntmps16
  go_wp2_with fail
  go_loopg [5] l.length (fun g si wr => ∃ k : Nat, k + g = l.length ∧ si = .int .i64 k ∧ ∃ n, wr = w.drewN n)
  case atStart => exact ⟨0, by omega, rfl, 0, rfl⟩
  case round =>
    obtain ⟨k, hkg, rfl, n, rfl⟩ := hrel
    have AK : Aside (k + gk = l.length) := hkg
    by_cases hk : k < l.length
    · have hki : (k : Int) < (l.length : Int) := by omega
      rcases h1 with rfl | ⟨b1, o1, rfl, h1⟩
      · simp at hk
      rcases h2 with rfl | ⟨b2, o2, rfl, h2⟩
      · simp at hk
      have g1 := h1 k _ (List.getElem?_eq_getElem hk)
      have g2 := h2 k _ (List.getElem?_eq_getElem hk)
      have hzz : (l[k] != l[k]) = false := by simp
      generalize l[k] = z at *
      clear h1 h2 hkg
      generalize l.length = L at *
      go_wp2_with fail
      go_quiet (fail)
      go_wp2_with fail
      have AK := AK.out
      go_roundg (gk - 1)
      case measure => omega
      case rel => exact ⟨k + 1, by omega, by go_num, _, rfl⟩
    · have hki : ¬ (k : Int) < (l.length : Int) := by omega
      go_wp2_with fail
      go_ret
      exact ⟨rfl, _, rfl⟩
end Go.Proofs.Ytlipkncnomndnaa

/-
  The queue as a list; the small functions; what a byte comes to where nothing but blanks was begun.
-/
import Derived.Test.YtapljkenmgdkmabDec
namespace Go.Proofs.Ytapljkenmgdkmab
open Go.RowKit
set_option linter.unusedVariables false
/-- The row of 66, gone round, holds l from fi on. -/
def Rg (g : Nat → Nat) (fi : Nat) (l : List Nat) : Prop := ∀ j x, l[j]? = some x → g ((fi + j) % 66) = x
theorem Rg.add {g : Nat → Nat} {fi : Nat} {l : List Nat} (h : Rg g fi l) (hl : l.length < 66) (x : Nat) : Rg (updn g ((fi + l.length) % 66) x) fi (l ++ [x]) := by
  intro j y hy
  by_cases hj : j < l.length
  · rw [List.getElem?_append_left hj] at hy
    rw [updn_ne _ _ (by omega)]
    exact h j y hy
  · have h1 : j < (l ++ [x]).length := (List.getElem?_eq_some_iff.1 hy).1
    simp at h1
    obtain rfl : j = l.length := by omega
    simp at hy
    rw [updn_same, hy]
theorem Rg.take {g : Nat → Nat} {fi : Nat} {l : List Nat} (h : Rg g fi l) (n : Nat) : Rg g fi (l.take n) := by
  intro j y hy
  rw [List.getElem?_take] at hy
  split at hy
  · exact h j y hy
  · cases hy
theorem Rg.tail {g : Nat → Nat} {fi x : Nat} {l : List Nat} (h : Rg g fi (x :: l)) : Rg g ((fi + 1) % 66) l := by
  intro j y hy
  have := h (j + 1) y (by simpa using hy)
  rw [← this]
  congr 1
  omega
theorem Rg.head {g : Nat → Nat} {fi x : Nat} {l : List Nat} (hf : fi < 66) (h : Rg g fi (x :: l)) : g fi = x := by
  have := h 0 x rfl
  rw [Nat.add_zero, Nat.mod_eq_of_lt hf] at this
  exact this
/-- The decoder's cells, the queue as a list, kn of them known. -/
structure Dl (w : World) (B s hi : Nat) (l : List Nat) (kn y : Nat) : Prop where
  ex : ∃ fi g, fi < 66 ∧ Dm w B s hi fi l.length kn y g ∧ Rg g fi l
  le : l.length ≤ 66
  kl : kn ≤ l.length
section
variable {w u : World} {B s hi kn y : Nat} {l : List Nat}
theorem Dl.lt (h : Dl w B s hi l kn y) : B < w.heap.size := by obtain ⟨fi, g, _, hd, _⟩ := h.ex; exact hd.lt
theorem Dl.cells (h : Dl w B s hi l kn y) : ∃ cs, Cells w B cs 41 := by obtain ⟨fi, g, _, hd, _⟩ := h.ex; exact hd.cells
theorem Dl.keep (h : Dl w B s hi l kn y) (k : u.heap[B]? = w.heap[B]?) : Dl u B s hi l kn y := by obtain ⟨fi, g, h1, hd, h2⟩ := h.ex; exact ⟨⟨fi, g, h1, hd.keep k, h2⟩, h.le, h.kl⟩
theorem Dl.drewN (h : Dl w B s hi l kn y) (n : Nat) : Dl (w.drewN n) B s hi l kn y := h.keep rfl
theorem Dl.drew (h : Dl w B s hi l kn y) : Dl w.drew B s hi l kn y := h.keep rfl
theorem Dl.below (h : Dl w B s hi l kn y) {C : Nat} (k : Below C w u) (hC : B < C) : Dl u B s hi l kn y := h.keep (k.block B hC)
theorem Dl.alloc (h : Dl w B s hi l kn y) (o : Obj) : Dl (w.alloc o) B s hi l kn y := h.keep (Below.heap_alloc w o B h.lt)
theorem Dl.ap (h : Dl w B s hi l kn y) {lo : Nat} {e : TypeId} (k : Ap lo e w u) (he : 41 ≠ e) : Dl u B s hi l kn y := by obtain ⟨fi, g, h1, hd, h2⟩ := h.ex; exact ⟨⟨fi, g, h1, hd.ap k he, h2⟩, h.le, h.kl⟩
theorem Dl.set0 (h : Dl w B s hi l kn y) (x : Nat) : Dl (w.setCell ⟨B, 0, none⟩ (.int .u8 (x : Int))) B x hi l kn y := by obtain ⟨fi, g, h1, hd, h2⟩ := h.ex; exact ⟨⟨fi, g, h1, hd.set0 x, h2⟩, h.le, h.kl⟩
theorem Dl.set1 (h : Dl w B s hi l kn y) (x : Nat) : Dl (w.setCell ⟨B, 1, none⟩ (.int .u8 (x : Int))) B s x l kn y := by obtain ⟨fi, g, h1, hd, h2⟩ := h.ex; exact ⟨⟨fi, g, h1, hd.set1 x, h2⟩, h.le, h.kl⟩
theorem Dl.set71 (h : Dl w B s hi l kn y) (x : Nat) : Dl (w.setCell ⟨B, 71, none⟩ (.int .i64 (x : Int))) B s hi l kn x := by obtain ⟨fi, g, h1, hd, h2⟩ := h.ex; exact ⟨⟨fi, g, h1, hd.set71 x, h2⟩, h.le, h.kl⟩
theorem Dl.fz (h : Dl w B s hi l kn y) (i : Nat) : w.frozen? ⟨B, i, none⟩ = false := by obtain ⟨fi, g, h1, hd, h2⟩ := h.ex; exact hd.fz i
theorem Dl.c0 (h : Dl w B s hi l kn y) : w.cell? ⟨B, 0, none⟩ = some (.int .u8 (s : Int)) := by obtain ⟨fi, g, h1, hd, h2⟩ := h.ex; exact hd.c0
theorem Dl.c1 (h : Dl w B s hi l kn y) : w.cell? ⟨B, 1, none⟩ = some (.int .u8 (hi : Int)) := by obtain ⟨fi, g, h1, hd, h2⟩ := h.ex; exact hd.c1
theorem Dl.c70 (h : Dl w B s hi l kn y) : w.cell? ⟨B, 70, none⟩ = some (.int .i64 (kn : Int)) := by obtain ⟨fi, g, h1, hd, h2⟩ := h.ex; exact hd.c70
theorem Dl.c71 (h : Dl w B s hi l kn y) : w.cell? ⟨B, 71, none⟩ = some (.int .i64 (y : Int)) := by obtain ⟨fi, g, h1, hd, h2⟩ := h.ex; exact hd.c71
end
section
variable {B s hi kn y : Nat} {l : List Nat}
theorem wait_l (x : Nat) (w : World) (h : Dl w B s hi l kn y) (hl : l.length < 66) : Calls Try.prog 27 #[.pointer (some ⟨B, 2, none⟩), .int .u8 x] w fun e w' => e = .returned (.tuple #[]) ∧ Dl w' B s hi (l ++ [x]) (if 64 < l.length + 1 - kn then kn + 1 else kn) y ∧ Only B w w' := by
  obtain ⟨fi, g, h1, hd, h2⟩ := h.ex
  refine (wait_c x h1 hl h.kl w hd).mono ?_
  rintro e1 w1 ⟨he, hd1, ho⟩
  refine ⟨he, ⟨⟨fi, _, h1, by simpa using hd1, h2.add hl x⟩, by simp; omega, ?_⟩, ho⟩
  have := h.kl
  simp only [List.length_append, List.length_cons, List.length_nil]
  split <;> omega
theorem know0_l (w : World) (h : Dl w B s hi l kn y) : Calls Try.prog 20 #[.pointer (some ⟨B, 2, none⟩), .slice none 0 0] w fun e w' => e = .returned (.tuple #[]) ∧ Dl w' B s hi l l.length y ∧ Only B w w' := by
  obtain ⟨fi, g, h1, hd, h2⟩ := h.ex
  refine (know0_c w hd).mono ?_
  rintro e1 w1 ⟨he, hd1, ho⟩
  exact ⟨he, ⟨⟨fi, g, h1, hd1, h2⟩, h.le, Nat.le_refl _⟩, ho⟩
theorem know1_l (x F : Nat) (w : World) (h : Dl w B s hi l kn y) (hl : l.length < 66) (hx : w.cell? ⟨F, 0, none⟩ = some (.int .u8 x)) (hF : F ≠ B) : Calls Try.prog 20 #[.pointer (some ⟨B, 2, none⟩), .slice (some ⟨F, 0, none⟩) 1 1] w fun e w' => e = .returned (.tuple #[]) ∧ Dl w' B s hi (l ++ [x]) (l.length + 1) y ∧ Only B w w' := by
  obtain ⟨fi, g, h1, hd, h2⟩ := h.ex
  refine (know1_c x F h1 hl w hx hF hd).mono ?_
  rintro e1 w1 ⟨he, hd1, ho⟩
  exact ⟨he, ⟨⟨fi, _, h1, by simpa using hd1, h2.add hl x⟩, by simp; omega, by simp⟩, ho⟩
/-- know of a byte that was laid into a block of its own. -/
theorem know_new (x : Nat) (w : World) (h : Dl w B s hi l kn y) (hl : l.length < 66) : Calls Try.prog 20 #[.pointer (some ⟨B, 2, none⟩), .slice (some ⟨w.heap.size, 0, none⟩) 1 1] (w.alloc (.cells #[.int .u8 (x : Int)] 5)) fun e w' => e = .returned (.tuple #[]) ∧ Dl w' B s hi (l ++ [x]) (l.length + 1) y ∧ But B w w' := by
  refine (know1_l x w.heap.size _ (h.alloc _) hl ?_ (by have := h.lt; omega)).mono ?_
  · rw [(Cells.new w #[.int .u8 (x : Int)] 5).cell 0]; rfl
  · rintro e1 w1 ⟨he, hd1, ho⟩
    exact ⟨he, hd1, (But.of_below ((Below.refl _ w).alloc (Nat.le_refl _) _)).trans (But.of_only ho)⟩
theorem drop_l (w : World) (h : Dl w B s hi l kn y) : Calls Try.prog 21 #[.pointer (some ⟨B, 2, none⟩)] w fun e w' => e = .returned (.tuple #[]) ∧ Dl w' B s hi (l.take kn) kn y ∧ Only B w w' := by
  obtain ⟨fi, g, h1, hd, h2⟩ := h.ex
  refine (drop_c w hd).mono ?_
  rintro e1 w1 ⟨he, hd1, ho⟩
  have := h.kl
  have hlen : (l.take kn).length = kn := by rw [List.length_take]; omega
  exact ⟨he, ⟨⟨fi, g, h1, by rw [hlen]; exact hd1, h2.take kn⟩, by have := h.le; omega, by omega⟩, ho⟩
theorem take_l (x : Nat) (w : World) (h : Dl w B s hi (x :: l) kn y) (hk : 0 < kn) : Calls Try.prog 28 #[.pointer (some ⟨B, 2, none⟩)] w fun e w' => e = .returned (.int .u8 (x : Int)) ∧ Dl w' B s hi l (kn - 1) y ∧ Only B w w' := by
  obtain ⟨fi, g, h1, hd, h2⟩ := h.ex
  have := h.kl
  have := h.le
  refine (take_c h1 (by omega) hk h.kl w hd).mono ?_
  rintro e1 w1 ⟨he, hd1, ho⟩
  simp at this
  exact ⟨by rw [he, h2.head h1], ⟨⟨_, g, Nat.mod_lt _ (by omega), by simpa using hd1, h2.tail⟩, by omega, by have := h.kl; simp at this; omega⟩, ho⟩
theorem blank_c (x : Nat) (hx : x < 256) (w : World) : Calls Try.prog 26 #[.int .u8 x] w fun e w' => e = .returned (.bool (isB x)) ∧ w = w' := by
  by_cases h9 : x = 9
  · subst h9
    go_enter Try.func26, Try.ntmps26
    go_wp2_with fail
    go_ret
    exact ⟨rfl, rfl⟩
  by_cases h32 : x = 32
  · subst h32
    go_enter Try.func26, Try.ntmps26
    go_wp2_with fail
    go_ret
    exact ⟨rfl, rfl⟩
  have e : isB x = false := by simp [isB, h9, h32]
  rw [e]
  have t1 : ((x : Int) == 9) = false := by rw [beq_eq_false_iff_ne]; omega
  have t2 : ((x : Int) == 32) = false := by rw [beq_eq_false_iff_ne]; omega
  clear h9 h32 e
  go_enter Try.func26, Try.ntmps26
  go_wp2_with fail
  go_ret
  exact ⟨rfl, rfl⟩
theorem stop_l (w : World) (h : Dl w B s hi l kn y) : Calls Try.prog 25 #[.pointer (some ⟨B, 0, none⟩), .int .i64 22] w fun e w' => e = .returned (.tuple #[]) ∧ Dl w' B 5 hi l kn 22 ∧ But B w w' := by
  have c0 := h.c0
  have c1 := h.c71
  have z0 := h.fz 0
  have z1 := h.fz 71
  have hA : Aside (Dl w B s hi l kn y) := h
  clear h
  go_enter Try.func25, Try.ntmps25
  go_wp2_with fail
  first | go_end0 | (refine bodyPost_ret (results_none rfl _ _ _) rfl ?_)
  exact ⟨rfl, (hA.out.set0 5).set71 22, But.of_only (((Only.refl B w).setCell _ _).setCell _ _)⟩
end
section
variable {B s hi y : Nat} {K W : List Nat}
theorem plain_c (x : Nat) (hx : x < 256) (w : World) (h : Dl w B s hi (K ++ W) K.length y) (hl : K.length + W.length < 66) (hW : W.length ≤ 64) {s' : St} {W' K' : List Nat} (e : pl K W x = .go s' W' K') :
    Calls Try.prog 18 #[.pointer (some ⟨B, 0, none⟩), .int .u8 x] w fun e w' => e = .returned (.tuple #[]) ∧ Dl w' B s'.num hi (K' ++ W') K'.length y ∧ But B w w' := by
  have hbl := blank_c x hx (w.setCell ⟨B, 0, none⟩ (.int .u8 0))
  have c0 := h.c0
  have z0 := h.fz 0
  have h1 := h.set0 0
  have o1 : But B w (w.setCell ⟨B, 0, none⟩ (.int .u8 0)) := But.of_only ((Only.refl B w).setCell 0 _)
  obtain ⟨w1, hw1⟩ : ∃ w1, w.setCell ⟨B, 0, none⟩ (.int .u8 0) = w1 := ⟨_, rfl⟩
  have hw1' : w.setCell ⟨B, 0, none⟩ (.int .u8 ((0 : Nat) : Int)) = w1 := hw1
  rw [hw1'] at h1
  rw [hw1] at hbl o1
  have hl2 : (K ++ W).length < 66 := by simpa using hl
  have A : Aside (But B w w1) := o1
  clear h o1
  unfold pl at e
  split at e
  · rename_i hb
    have hwt := wait_l x w1 h1 hl2
    rw [hb] at hbl
    have hres : Dl w1 B 0 hi (K ++ W) K.length y → ∀ w2, Dl w2 B 0 hi (K ++ W ++ [x]) (if 64 < (K ++ W).length + 1 - K.length then K.length + 1 else K.length) y → Dl w2 B s'.num hi (K' ++ W') K'.length y := by
      intro _ w2 h2
      split at e
      · rename_i h64
        cases e
        rw [if_pos (by simp; omega)] at h2
        have e1 : K ++ W.take 1 ++ (W.drop 1 ++ [x]) = K ++ W ++ [x] := by
          rw [← List.append_assoc, List.append_assoc K, List.take_append_drop]
        have e2 : (K ++ W.take 1).length = K.length + 1 := by simp; omega
        rw [e1, e2]
        exact h2
      · rename_i h64
        cases e
        rw [if_neg (by simp; omega)] at h2
        rw [← List.append_assoc]
        exact h2
    have AR : Aside (∀ w2, Dl w2 B 0 hi (K ++ W ++ [x]) (if 64 < (K ++ W).length + 1 - K.length then K.length + 1 else K.length) y → Dl w2 B s'.num hi (K' ++ W') K'.length y) := hres h1
    obtain ⟨k2, hk2⟩ : ∃ k2, (if 64 < (K ++ W).length + 1 - K.length then K.length + 1 else K.length) = k2 := ⟨_, rfl⟩
    rw [hk2] at hwt AR
    clear hres e hb h1 hl hl2 hW hk2 hx hw1'
    go_enter Try.func18, Try.ntmps18
    go_upto_region 2 with fail
    (try rw [hw1])
    clear c0 z0 hw1
    go_wp2_with (first
      | (go_at_call 26; refine hbl.mono ?_; rintro e1 w0 ⟨rfl, hw0⟩; subst hw0)
      | (go_at_call 27; refine hwt.mono ?_; rintro e1 w2 ⟨rfl, h2, o2⟩))
    first | go_end0 | (refine bodyPost_ret (results_none rfl _ _ _) rfl ?_)
    exact ⟨rfl, AR.out _ h2, A.out.trans (But.of_only o2)⟩
  rename_i hb
  have hb : isB x = false := by simpa using hb
  rw [hb] at hbl
  split at e
  · rename_i h61
    subst h61
    cases e
    have hkn := know0_l w1 h1
    clear hb h1 hl hl2 hW hx hw1'
    go_enter Try.func18, Try.ntmps18
    go_upto_region 2 with fail
    (try rw [hw1])
    clear c0 z0 hw1
    go_upto_region 6 with (first
      | (go_at_call 26; refine hbl.mono ?_; rintro e1 w0 ⟨rfl, hw0⟩; subst hw0)
      | (go_at_call 20; refine hkn.mono ?_; rintro e1 w2 ⟨rfl, h2, o2⟩))
    have c0 := h2.c0
    have z0 := h2.fz 0
    have A2 : Aside (Dl w2 B 0 hi (K ++ W) (K ++ W).length y ∧ Only B w1 w2) := ⟨h2, o2⟩
    clear h2 o2 hkn
    go_wp2_with fail
    first | go_end0 | (refine bodyPost_ret (results_none rfl _ _ _) rfl ?_)
    exact ⟨rfl, by rw [List.append_nil]; exact A2.out.1.set0 1, A.out.trans (But.of_only (A2.out.2.setCell _ _))⟩
  rename_i h61
  have t61 : ((x : Int) == 61) = false := by rw [beq_eq_false_iff_ne]; omega
  split at e
  · rename_i h13
    subst h13
    cases e
    have d0 := h1.c0
    have y0 := h1.fz 0
    have A1 : Aside (Dl w1 B 0 hi (K ++ W) K.length y) := h1
    clear hb h1 hl hl2 hW hx hw1' h61
    go_enter Try.func18, Try.ntmps18
    go_upto_region 2 with fail
    (try rw [hw1])
    clear c0 z0 hw1
    go_wp2_with (go_at_call 26; refine hbl.mono ?_; rintro e1 w0 ⟨rfl, hw0⟩; subst hw0)
    first | go_end0 | (refine bodyPost_ret (results_none rfl _ _ _) rfl ?_)
    exact ⟨rfl, A1.out.set0 4, A.out.trans (But.of_only ((Only.refl B _).setCell _ _))⟩
  rename_i h13
  have t13 : ((x : Int) == 13) = false := by rw [beq_eq_false_iff_ne]; omega
  split at e
  · rename_i h10
    subst h10
    cases e
    have hdr := drop_l w1 h1
    rw [List.take_left' rfl] at hdr
    have AL : Aside (K.length < 66) := by show _ < _; omega
    clear hb h1 hl hl2 hW hx hw1' h61 h13
    go_enter Try.func18, Try.ntmps18
    go_upto_region 2 with fail
    (try rw [hw1])
    clear c0 z0 hw1
    go_wp2_with (first
      | (go_at_call 26; refine hbl.mono ?_; rintro e1 w0 ⟨rfl, hw0⟩; subst hw0)
      | (go_at_call 21; refine hdr.mono ?_; rintro e1 w2 ⟨rfl, h2, o2⟩; have hkn := know_new 10 w2 h2 AL.out; have A2 : Aside (Only B w1 w2) := o2; clear o2 h2)
      | (go_at_call 20; refine hkn.mono ?_; rintro e1 w3 ⟨rfl, h3, o3⟩))
    first | go_end0 | (refine bodyPost_ret (results_none rfl _ _ _) rfl ?_)
    exact ⟨rfl, by rw [List.append_nil, List.length_append]; exact h3, (A.out.trans (But.of_only A2.out)).trans o3⟩
  rename_i h10
  have t10 : ((x : Int) == 10) = false := by rw [beq_eq_false_iff_ne]; omega
  cases e
  have hkn := know_new x w1 h1 hl2
  clear hb h1 hl hl2 hW hx hw1' h61 h13 h10
  go_enter Try.func18, Try.ntmps18
  go_upto_region 2 with fail
  (try rw [hw1])
  clear c0 z0 hw1
  go_wp2_with (first
    | (go_at_call 26; refine hbl.mono ?_; rintro e1 w0 ⟨rfl, hw0⟩; subst hw0)
    | (go_at_call 20; refine hkn.mono ?_; rintro e1 w3 ⟨rfl, h3, o3⟩))
  first | go_end0 | (refine bodyPost_ret (results_none rfl _ _ _) rfl ?_)
  exact ⟨rfl, by rw [List.append_nil, List.length_append]; exact h3, A.out.trans o3⟩
end
end Go.Proofs.Ytapljkenmgdkmab

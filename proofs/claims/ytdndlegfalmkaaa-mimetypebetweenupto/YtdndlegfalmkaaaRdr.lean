/-
  The reader in memory: ended, ahead, next.
-/
import Derived.Test.YtdndlegfalmkaaaApp
import Derived.WalkLawsBesides
import Derived.Deep.CutBlock
import Derived.Deep.DeepCutAuto
namespace Go.Proofs.Ytdndlegfalmkaaa
open Go.RowKit
set_option linter.unusedVariables false
/-- What a reader that gives up panics with. -/
abbrev pz : List PanicEntry := [{ v := .iface 66 (.agg #[]), recovered := false }]
theorem But.drewN {M : Nat} {w u : World} (h : But M w u) (n : Nat) : But M w (u.drewN n) := ⟨h.os, h.tape, h.output, h.size, h.block⟩
/-- A reader at block B, of the text l, with r left to be read. -/
def Rd (w : World) (B : Nat) (l r : List Nat) : Prop := ∃ p : Nat, Cells w B #[.string (st l), .int .i64 (p : Int)] 46 ∧ p ≤ l.length ∧ l.drop p = r
theorem Rd.drewN {w : World} {B : Nat} {l r : List Nat} (h : Rd w B l r) (n : Nat) : Rd (w.drewN n) B l r := h
theorem Rd.lt {w : World} {B : Nat} {l r : List Nat} (h : Rd w B l r) : B < w.heap.size := by obtain ⟨p, h, _⟩ := h; exact h.lt
theorem Rd.below {w u : World} {B C : Nat} {l r : List Nat} (h : Rd w B l r) (k : Below C w u) (hC : B < C) : Rd u B l r := by
  obtain ⟨p, h, h2⟩ := h
  exact ⟨p, h.below k hC, h2⟩
theorem Rd.suf {w : World} {B : Nat} {l r : List Nat} (h : Rd w B l r) : r <:+ l := by
  obtain ⟨p, _, _, rfl⟩ := h
  exact List.drop_suffix _ _
theorem ended_c {w : World} {B : Nat} {l r : List Nat} (h : Rd w B l r) (hl : l.length ≤ 140737488355328) : Calls Try.prog 47 #[.pointer (some ⟨B, 0, none⟩)] w fun e w' => e = .returned (.bool r.isEmpty) ∧ ∃ n, w' = w.drewN n := by
  obtain ⟨p, hc, hp, hr⟩ := h
  have c0 : w.cell? ⟨B, 0, none⟩ = some (.string (st l)) := by rw [hc.cell]; rfl
  have c1 : w.cell? ⟨B, 1, none⟩ = some (.int .i64 (p : Int)) := by rw [hc.cell]; rfl
  have z1 : (st l).size = l.length := st_size l
  obtain ⟨q, hq⟩ : ∃ q, r.isEmpty = q := ⟨_, rfl⟩
  obtain ⟨L, hL⟩ : ∃ L, l.length = L := ⟨_, rfl⟩
  have he : ((p : Int) == (L : Int)) = q := by
    rw [← hq, ← hr, Bool.eq_iff_iff, beq_iff_eq, List.isEmpty_iff, List.drop_eq_nil_iff]
    omega
  obtain ⟨s, hs⟩ : ∃ s, s = st l := ⟨_, rfl⟩
  rw [hL, ← hs] at z1
  rw [← hs] at c0
  rw [hq]
  clear hc hp hr hq hL hs hl
  go_enter Try.func47, Try.ntmps47
  go_wp2_with fail
  go_quiet (fail)
  go_wp2_with fail
  go_ret
  exact ⟨by rw [← he]; rfl, _, rfl⟩
set_option maxHeartbeats 1000000 in
theorem ahead_c {w : World} {B : Nat} {l r : List Nat} (h : Rd w B l r) (hl : l.length ≤ 140737488355328) (ho : Oct l) (c : Nat) : Calls Try.prog 53 #[.pointer (some ⟨B, 0, none⟩), .int .u8 (c : Int)] w fun e w' => e = .returned (.bool (decide (r.head? = some c))) ∧ ∃ n, w' = w.drewN n := by
  have hen := fun n => ended_c (h.drewN n) hl
  obtain ⟨p, hc, hp, hr⟩ := h
  have c0 : w.cell? ⟨B, 0, none⟩ = some (.string (st l)) := by rw [hc.cell]; rfl
  have c1 : w.cell? ⟨B, 1, none⟩ = some (.int .i64 (p : Int)) := by rw [hc.cell]; rfl
  have z1 : (st l).size = l.length := st_size l
  obtain ⟨L, hL⟩ : ∃ L, l.length = L := ⟨_, rfl⟩
  obtain ⟨s, hs⟩ : ∃ s, s = st l := ⟨_, rfl⟩
  rw [hL, ← hs] at z1
  rw [← hs] at c0
  cases r with
  | nil =>
    have e : decide (([] : List Nat).head? = some c) = false := rfl
    rw [e]
    replace hen : ∀ n, Calls Try.prog 47 #[.pointer (some ⟨B, 0, none⟩)] (w.drewN n) fun e w' => e = .returned (.bool true) ∧ ∃ m, w' = (w.drewN n).drewN m := hen
    clear hc hp hr hL hs hl e
    go_enter Try.func53, Try.ntmps53
    go_wp2_with fail
    go_quiet ((go_at_call 47; exact Calls.quiet_of (hen _)))
    go_wp2_with fail
    go_ret
    exact ⟨rfl, _, rfl⟩
  | cons x r =>
    have hx : l[p]? = some x := by
      have := congrArg (·[0]?) hr
      simpa using this
    have hx0 : ∀ h : p < s.size, (s[p]'h).toNat = x := by rw [hs]; exact fun h => st_get ho hx h
    have hpl : p < L := by rw [← hL]; exact (List.getElem?_eq_some_iff.1 hx).1
    have b1 : (p : Int) < (L : Int) := by omega
    obtain ⟨q, hq⟩ : ∃ q, decide ((x :: r).head? = some c) = q := ⟨_, rfl⟩
    have he : ((x : Int) == (c : Int)) = q := by
      rw [← hq, Bool.eq_iff_iff, beq_iff_eq, decide_eq_true_iff]
      simp
      omega
    rw [hq]
    replace hen : ∀ n, Calls Try.prog 47 #[.pointer (some ⟨B, 0, none⟩)] (w.drewN n) fun e w' => e = .returned (.bool false) ∧ ∃ m, w' = (w.drewN n).drewN m := hen
    clear hc hp hr hL hs hl hq hx
    go_enter Try.func53, Try.ntmps53
    go_wp2_with fail
    go_quiet ((go_at_call 47; exact Calls.quiet_of (hen _)))
    go_wp2_with fail
    go_ret
    exact ⟨by rw [← he]; rfl, _, rfl⟩
theorem next_no {w : World} {B : Nat} {l : List Nat} (h : Rd w B l []) (hl : l.length ≤ 140737488355328) : Calls Try.prog 55 #[.pointer (some ⟨B, 0, none⟩)] w fun e w' => e = .panicked pz ∧ ∃ n, w' = w.drewN n := by
  have hen : Calls Try.prog 47 #[.pointer (some ⟨B, 0, none⟩)] w fun e w' => e = .returned (.bool true) ∧ ∃ n, w' = w.drewN n := ended_c h hl
  clear h hl
  go_enter Try.func55, Try.ntmps55
  go_wp2_with (go_at_call 47; refine hen.mono ?_; rintro e1 w1 ⟨rfl, n1, hw1⟩)
  exact ⟨rfl, rfl, n1, rfl⟩
set_option maxHeartbeats 1000000 in
theorem next_ok {w : World} {B x : Nat} {l r : List Nat} (h : Rd w B l (x :: r)) (hl : l.length ≤ 140737488355328) (ho : Oct l) : Calls Try.prog 55 #[.pointer (some ⟨B, 0, none⟩)] w fun e w' => e = .returned (.int .u8 (x : Int)) ∧ Rd w' B l r ∧ But B w w' := by
  have hen : Calls Try.prog 47 #[.pointer (some ⟨B, 0, none⟩)] w fun e w' => e = .returned (.bool false) ∧ ∃ n, w' = w.drewN n := ended_c h hl
  obtain ⟨p, hc, hp, hr⟩ := h
  have hx : l[p]? = some x := by
    have := congrArg (·[0]?) hr
    simpa using this
  have hr2 : l.drop (p + 1) = r := by
    have := drop_more hx
    rw [hr] at this
    exact (List.cons.inj this).2.symm
  obtain ⟨s, hs⟩ : ∃ s, s = st l := ⟨_, rfl⟩
  have hx0 : ∀ h : p < s.size, (s[p]'h).toNat = x := by rw [hs]; exact fun h => st_get ho hx h
  have z1 : (st l).size = l.length := st_size l
  obtain ⟨L, hL⟩ : ∃ L, l.length = L := ⟨_, rfl⟩
  rw [hL, ← hs] at z1
  have hpl : p < L := by rw [← hL]; exact (List.getElem?_eq_some_iff.1 hx).1
  have b1 : (p : Int) < (L : Int) := by omega
  have b2 : (p : Int) < 1000000000000000 := by omega
  have A : Aside (Cells w B #[.string s, .int .i64 (p : Int)] 46 ∧ s = st l ∧ p + 1 ≤ l.length ∧ l.drop (p + 1) = r) := ⟨by rw [hs]; exact hc, hs, by omega, hr2⟩
  clear hc hp hr hr2 hL hs hl ho hx
  go_enter Try.func55, Try.ntmps55
  go_upto_region 3 with (go_at_call 47; refine hen.mono ?_; rintro e1 w1 ⟨rfl, hw0⟩)
  obtain ⟨n1, hw1⟩ := hw0
  have k1 : Cells w1 B #[.string s, .int .i64 (p : Int)] 46 := by rw [hw1]; exact A.out.1
  have c0 : w1.cell? ⟨B, 0, none⟩ = some (.string s) := by rw [k1.cell]; rfl
  have c1 : w1.cell? ⟨B, 1, none⟩ = some (.int .i64 (p : Int)) := by rw [k1.cell]; rfl
  have f1 := k1.frozen 1
  have k2 := k1.set 1 (.int .i64 ((p : Int) + 1))
  have kb : But B w w1 := by rw [hw1]; exact (But.refl B w).drewN n1
  obtain ⟨w2, hw2⟩ : ∃ w2, w2 = w1.setCell ⟨B, 1, none⟩ (.int .i64 ((p : Int) + 1)) := ⟨_, rfl⟩
  have A3 : Aside (But B w w2) := by rw [hw2]; exact kb.trans (But.of_only ((Only.refl B w1).setCell 1 _))
  obtain ⟨q, hq⟩ : ∃ q : Nat, q = p + 1 := ⟨_, rfl⟩
  have hqi : (p : Int) + 1 = (q : Int) := by omega
  have AQ : Aside ((q : Int) - 1 = (p : Int)) := by show _ = _; omega
  have AB : Aside ((p : Int) < 1000000000000000 ∧ (p : Int) < (L : Int) ∧ p < L) := ⟨b2, b1, hpl⟩
  rw [← hw2, hqi] at k2
  have A4 : Aside (Cells w2 B #[.string s, .int .i64 (q : Int)] 46 ∧ q = p + 1) := ⟨k2, hq⟩
  have d0 : w2.cell? ⟨B, 0, none⟩ = some (.string s) := by rw [A4.out.1.cell]; rfl
  have d1 : w2.cell? ⟨B, 1, none⟩ = some (.int .i64 (q : Int)) := by rw [A4.out.1.cell]; rfl
  clear k1 k2 hw1 hen hq hqi kb b1 hpl
  go_upto_region 4 with fail
  rw [← hw2]
  clear c0 c1 f1 hw2
  have hqp := AQ.out
  have b1 := AB.out.2.1
  have hpl := AB.out.2.2
  have b3 : (q : Int) < 1000000000000001 := by omega
  go_quiet (fail)
  go_wp2_with fail
  go_ret
  obtain ⟨_, h2, h3, h4⟩ := A.out
  have h5 := A4.out.2
  exact ⟨rfl, ⟨q, by rw [← h2]; exact A4.out.1, by omega, by rw [h5]; exact h4⟩, A3.out.drewN _⟩
end Go.Proofs.Ytdndlegfalmkaaa

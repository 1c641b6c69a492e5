/-
  The library's Clone of a string; the reader's paramValue.
-/
import Derived.Test.YtdndlegfalmkaaaQuo
import Derived.Lib.BufferWrite
import Derived.Lib.UnsafeStr
import Derived.Deep.OwnRows
import Derived.Laws.CopyOwn
namespace Go.Proofs.Ytdndlegfalmkaaa
open Go.RowKit
set_option linter.unusedVariables false
theorem byteCells_st {l : List Nat} (ho : Oct l) : Lib.byteCells (st l).data.toList = ob l := strCells_st ho
set_option maxHeartbeats 1000000 in
theorem clone_c (l : List Nat) (ho : Oct l) (hl : l.length ≤ 140737488355328) (w : World) : Calls Try.prog 60 #[.string (st l)] w fun e w' => e = .returned (.string (st l)) ∧ Below w.heap.size w w' := by
  have z1 : (st l).size = l.length := st_size l
  by_cases h0 : l = []
  · subst h0
    obtain ⟨s, hs⟩ : ∃ s, s = st [] := ⟨_, rfl⟩
    have z2 : s.size = 0 := by rw [hs]; rfl
    have A : Aside (s = ⟨#[]⟩) := hs
    rw [← hs]
    clear hs hl ho z1
    go_enter Try.func60, Try.ntmps60
    go_wp2
    go_ret
    exact ⟨by rw [A.out]; rfl, Below.refl _ _⟩
  · have hpos : 0 < l.length := by
      cases l with
      | nil => exact absurd rfl h0
      | cons _ _ => simp
    obtain ⟨w1, hw1⟩ : ∃ w1, w1 = w.alloc (.cells (madeCells #[.int .u8 0] l.length) 5) := ⟨_, rfl⟩
    obtain ⟨H, hH⟩ : ∃ H, w.heap.size = H := ⟨_, rfl⟩
    have hmk := run_make_row' (P := Try.prog) 40 5 (.int .u8 0) 1 Try.underlying40 ginfo5 rfl .i64 .i64 l.length (by omega) (by omega) w
    rw [← hw1, hH] at hmk
    have k1 : w1.heap[H]? = some (.cells (madeCells #[.int .u8 0] l.length) 5 (0, 0)) := by
      rw [hw1, ← hH]
      exact Cells.new w _ 5
    have hsz : (madeCells #[.int .u8 0] l.length).size = l.length := by simp [madeCells]
    have hcp := fun ty => Lib.run_copy_row_string (P := Try.prog) w1 40 9 ty 5 H 0 l.length l.length (st l) _ 5 Try.underlying40 (by kernel_rfl) k1 (by rw [z1]; exact Nat.le_refl _) (by rw [z1, hsz]; omega)
    have e2 : ((madeCells #[.int .u8 0] l.length).toList.take 0 ++ Lib.byteCells (st l).data.toList ++ (madeCells #[.int .u8 0] l.length).toList.drop (0 + (st l).size)) = ob l := by
      rw [byteCells_st ho, z1, List.drop_of_length_le (by rw [Array.length_toList, hsz]; omega)]
      simp
    rw [e2] at hcp
    obtain ⟨w2, hw2⟩ : ∃ w2, w2 = w1.setRow H (ob l).toArray := ⟨_, rfl⟩
    have k2 : w2.heap[H]? = some (.cells (ob l).toArray 5 (0, 0)) := by rw [hw2]; exact setRow_heap w1 H _ _ 5 (0, 0) k1
    rw [← hw2] at hcp
    rw [z1] at hcp
    have hus := fun ty => Lib.run_unsafeString_row (P := Try.prog) w2 72 3 ty 5 Try.underlying72 (by kernel_rfl) H l.length (by
      unfold World.shape?
      rw [k2]
      simp [ob]) (l.map UInt8.ofNat) (by simpa using h0) (by simp) (by simp; omega) (fun j x hx => by
        rw [addr_add, Nat.zero_add, Cells.cell (cs := (ob l).toArray) (t := 5) k2]
        rw [List.getElem?_map] at hx
        cases hy : l[j]? with
        | none => rw [hy] at hx; simp at hx
        | some y =>
          rw [hy] at hx
          simp at hx
          have := ho y (List.mem_of_getElem? hy)
          rw [List.getElem?_toArray, ob_get, hy, ← hx]
          simp
          omega)
    obtain ⟨w3, hw3⟩ : ∃ w3, w3 = w2.freeze ⟨H, 0, none⟩ (l.map UInt8.ofNat).length := ⟨_, rfl⟩
    have hb3 : Below H w w3 := by
      have b1 : Below H w w1 := by rw [hw1, ← hH]; exact (Below.refl _ w).alloc (Nat.le_refl _) _
      have b2 : Below H w w2 := by rw [hw2]; exact below_setRow b1 (Nat.le_refl _) _
      rw [hw3]
      exact Lib.below_freeze b2 (Nat.le_refl _) _
    rw [← hw3, List.length_map] at hus
    have est : (⟨(l.map UInt8.ofNat).toArray⟩ : ByteArray) = st l := rfl
    rw [est] at hus
    have c0 : (w2.cell? ⟨H, 0, none⟩).isSome = true := by
      rw [Cells.cell (cs := (ob l).toArray) (t := 5) k2]
      simp [ob]; exact hpos
    obtain ⟨s, hs⟩ : ∃ s, s = st l := ⟨_, rfl⟩
    obtain ⟨L, hL⟩ : ∃ L, l.length = L := ⟨_, rfl⟩
    rw [← hs, hL] at z1 hcp hus
    rw [hL] at hmk
    rw [hH, ← hs]
    have t1 : ((L : Int) == 0) = false := by rw [beq_eq_false_iff_ne]; omega
    have t2 : (0 : Int) < (L : Int) := by omega
    have t3 : 0 < L := by omega
    have A3 : Aside (Below H w w3) := hb3
    clear hl ho hpos h0 hw1 k1 hsz e2 hw2 k2 hw3 hb3 est hs hL hH
    go_enter Try.func60, Try.ntmps60
    go_wp2
    go_ret
    exact ⟨rfl, A3.out⟩
/-- A value alone. -/
def vl1 : List Nat → Option (List Nat × List Nat)
  | [] => none
  | x :: q => if x = 34 then qt [] q else tk1 (x :: q)
theorem vl_eq (r : List Nat) : vl r = (vl1 r).bind fun a => (bt 0 a.2).map fun q => (a.1, q) := by
  cases r with
  | nil => rfl
  | cons x q =>
    simp only [vl, vl1]
    split
    · rfl
    · exact tkn_eq _
theorem tk1_out {r v q : List Nat} (h : tk1 r = some (v, q)) : v = r.take (rn r) ∧ q = r.drop (rn r) ∧ rn r ≠ 0 := by
  unfold tk1 at h
  split at h
  · cases h
  · rename_i h0
    cases h
    exact ⟨rfl, rfl, h0⟩
theorem But.bel {M : Nat} {w u v : World} (h : But M w u) (k : Below u.heap.size u v) : But M w v := h.then_below (k.mono h.size)
set_option maxHeartbeats 1000000 in
theorem value_c {w : World} {B : Nat} {l r : List Nat} (h : Rd w B l r) (hl : l.length ≤ 140737488355328) (ho : Oct l) : Calls Try.prog 56 #[.pointer (some ⟨B, 0, none⟩)] w (Go1 w B l (vl1 r)) := by
  have hro : Oct r := ho.suf h.suf
  have hrl : r.length ≤ l.length := h.suf.length_le
  by_cases hq : ∃ q, r = 34 :: q
  · obtain ⟨q, rfl⟩ := hq
    have h1 := ahead_b h hl ho 34 34 rfl true rfl
    have h2 := fun W (hW : Rd W B l (34 :: q)) => quoted_c hW hl ho
    have A : Aside (vl1 (34 :: q) = qt [] q) := by show vl1 _ = _; simp [vl1]
    cases h3 : qt [] q with
    | none =>
      rw [h3] at h2 A
      clear h hl ho hro hrl h3
      go_enter Try.func56, Try.ntmps56
      go_wp2_with (first
        | (go_at_call 53; (with_reducible refine h1.mono ?_); rintro e1 w1 ⟨rfl, hr1, hb1⟩)
        | (go_at_call 59; (with_reducible refine (h2 _ hr1).mono ?_); intro e2 w2 h2'; obtain ⟨rfl, hb2⟩ := h2'.no))
      exact ⟨rfl, hb1.trans hb2, Or.inr ⟨A.out, rfl⟩⟩
    | some p =>
      obtain ⟨v, q'⟩ := p
      rw [h3] at h2 A
      clear h hl ho hro hrl h3
      go_enter Try.func56, Try.ntmps56
      go_wp2_with (first
        | (go_at_call 53; (with_reducible refine h1.mono ?_); rintro e1 w1 ⟨rfl, hr1, hb1⟩)
        | (go_at_call 59; (with_reducible refine (h2 _ hr1).mono ?_); intro e2 w2 h2'; obtain ⟨rfl, hr2, hb2⟩ := h2'.ok))
      go_ret
      exact ⟨hb1.trans hb2, Or.inl ⟨v, q', A.out, rfl, hr2⟩⟩
  · have h1 := ahead_b h hl ho 34 34 rfl false (by
      rw [decide_eq_false_iff_not]
      intro e
      cases r with
      | nil => cases e
      | cons x q =>
        simp at e
        exact hq ⟨q, by rw [e]⟩)
    have A : Aside (vl1 r = tk1 r) := by
      show vl1 _ = _
      cases r with
      | nil => rfl
      | cons x q =>
        simp only [vl1]
        rw [if_neg]
        rintro rfl
        exact hq ⟨q, rfl⟩
    have h2 := fun W (hW : Rd W B l r) => rtok_c hW hl ho
    cases h3 : tk1 r with
    | none =>
      rw [h3] at h2 A
      clear h hl ho hro hrl h3 hq
      go_enter Try.func56, Try.ntmps56
      go_wp2_with (first
        | (go_at_call 53; (with_reducible refine h1.mono ?_); rintro e1 w1 ⟨rfl, hr1, hb1⟩)
        | (go_at_call 45; (with_reducible refine (h2 _ hr1).mono ?_); intro e2 w2 h2'; obtain ⟨rfl, hb2⟩ := h2'.no))
      exact ⟨rfl, hb1.trans hb2, Or.inr ⟨A.out, rfl⟩⟩
    | some p =>
      obtain ⟨v, q'⟩ := p
      rw [h3] at h2 A
      obtain ⟨hv, _, _⟩ := tk1_out h3
      have hcl := fun W => clone_c v (by rw [hv]; exact hro.take _) (by rw [hv]; simp; omega) W
      clear h hl ho hro hrl h3 hq hv
      go_enter Try.func56, Try.ntmps56
      go_wp2_with (first
        | (go_at_call 53; (with_reducible refine h1.mono ?_); rintro e1 w1 ⟨rfl, hr1, hb1⟩)
        | (go_at_call 45; (with_reducible refine (h2 _ hr1).mono ?_); intro e2 w2 h2'; obtain ⟨rfl, hr2, hb2⟩ := h2'.ok)
        | (go_at_call 60; (with_reducible refine (hcl _).mono ?_); rintro e3 w3 ⟨rfl, hb3⟩))
      go_ret
      exact ⟨(hb1.trans hb2).bel hb3, Or.inl ⟨v, q', A.out, rfl, hr2.below hb3 hr2.lt⟩⟩
end Go.Proofs.Ytdndlegfalmkaaa

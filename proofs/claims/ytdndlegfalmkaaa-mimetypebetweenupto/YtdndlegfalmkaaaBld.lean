/-
  The library's builder of strings: copyCheck, WriteString, String.
-/
import Derived.Test.YtdndlegfalmkaaaWrt
import Derived.Lib.Builder
import Derived.Laws.Externs
namespace Go.Proofs.Ytdndlegfalmkaaa
open Go.RowKit
set_option linter.unusedVariables false
theorem size58 : (Try.prog.info? 58).map (·.size) = some 2 := by kernel_rfl
theorem lies58 : liesAt Try.prog Try.prog.depth 58 (2 / Try.prog.cellsOf 58) 0 58 1 = true := by kernel_rfl
/-- A builder at block b that holds the bytes l. -/
structure Bd (w : World) (b : Nat) (p v : Value) (l : List Nat) : Prop where
  cells : Cells w b #[p, v] 58
  ptr : p = .pointer none ∨ p = .pointer (some ⟨b, 0, none⟩)
  own : Ow w b 5 1 v l.length (ob l)
theorem Bd.below {w u : World} {b : Nat} {p v : Value} {l : List Nat} (h : Bd w b p v l) (k : Below w.heap.size w u) : Bd u b p v l := ⟨h.cells.below k h.cells.lt, h.ptr, h.own.below k (Nat.le_refl _)⟩
theorem Bd.new (w : World) (b : Nat) (hb : w.heap.size = b) : Bd (w.alloc (.cells #[.pointer none, .slice none 0 0] 58)) b (.pointer none) (.slice none 0 0) [] := by
  subst hb
  exact ⟨Cells.new w _ 58, Or.inl rfl, Ow.nil (by simp)⟩
set_option maxHeartbeats 1000000 in
set_option maxRecDepth 100000 in
theorem ccheck_used (b : Nat) (w : World) (h0 : w.cell? ⟨b, 0, none⟩ = some (.pointer (some ⟨b, 0, none⟩))) : Calls Try.prog 52 #[.pointer (some ⟨b, 0, none⟩)] w fun e w' => e = .returned (.tuple #[]) ∧ w' = w := by
  obtain ⟨j, hj, _⟩ := Option.map_eq_some_iff.1 size58
  go_enter Try.func52, Try.ntmps52
  go_wp2
  rw [Lib.run_neq_ptr_same w _ Try.underlying56 hj]
  go_wp2
  go_end0
  exact ⟨rfl, rfl⟩
set_option maxHeartbeats 1000000 in
set_option maxRecDepth 100000 in
theorem ccheck_fresh (b : Nat) (w : World) (h0 : w.cell? ⟨b, 0, none⟩ = some (.pointer none)) (hsh : w.shape? b = some (58, 2)) (hfz : w.frozen? ⟨b, 0, none⟩ = false) : Calls Try.prog 52 #[.pointer (some ⟨b, 0, none⟩)] w fun e w' => e = .returned (.tuple #[]) ∧ w' = w.setCell ⟨b, 0, none⟩ (.pointer (some ⟨b, 0, none⟩)) := by
  obtain ⟨j, hj, hjs⟩ := Option.map_eq_some_iff.1 size58
  go_enter Try.func52, Try.ntmps52
  go_wp2
  rw [Lib.run_to_unsafe w ⟨b, 0, none⟩ Try.underlying56 Try.underlying74 hj (by rw [hjs]; decide) hsh (Nat.zero_lt_succ 1)]
  simp only [Result.andThen]
  rw [Oper.upon_value]
  go_wp2
  rw [run_callFunc_extern Try.func58 (by kernel_rfl) (by kernel_rfl) (by kernel_rfl) (e := Extern.AbiNoEscape.same) (by kernel_rfl)]
  rw [Lib.run_noEscape]
  simp only [Result.andThen]
  rw [Oper.upon_value]
  go_wp2
  rw [Lib.run_from_unsafe w ⟨b, 0, none⟩ Try.underlying74 Try.underlying56 hj hsh lies58]
  simp only [Result.andThen]
  rw [Oper.upon_value]
  go_wp2
  go_end0
  exact ⟨rfl, rfl⟩
theorem ccheck_c {w : World} {b : Nat} {p v : Value} {l : List Nat} (h : Bd w b p v l) : Calls Try.prog 52 #[.pointer (some ⟨b, 0, none⟩)] w fun e w' => e = .returned (.tuple #[]) ∧ Bd w' b (.pointer (some ⟨b, 0, none⟩)) v l ∧ Below b w w' ∧ Only b w w' := by
  have c0 : w.cell? ⟨b, 0, none⟩ = some p := by rw [h.cells.cell]; rfl
  rcases h.ptr with hp | hp
  · have hsh : w.shape? b = some (58, 2) := by
      have := h.cells
      unfold Cells at this
      unfold World.shape?
      rw [this]
      rfl
    refine (ccheck_fresh b w (by rw [c0, hp]) hsh (h.cells.frozen 0)).mono ?_
    rintro e w' ⟨rfl, rfl⟩
    exact ⟨rfl, ⟨h.cells.set 0 _, Or.inr rfl, h.own.set h.cells (by decide)⟩, (Below.refl b w).setCell (p := ⟨b, 0, none⟩) (Nat.le_refl _) _, (Only.refl b w).setCell 0 _⟩
  · refine (ccheck_used b w (by rw [c0, hp])).mono ?_
    rintro e w' ⟨rfl, rfl⟩
    exact ⟨rfl, ⟨by rw [← hp]; exact h.cells, Or.inr rfl, h.own⟩, Below.refl _ _, Only.refl _ _⟩
set_option maxHeartbeats 1000000 in
theorem ws_c {w : World} {b : Nat} {p v : Value} {l : List Nat} (h : Bd w b p v l) (m : List Nat) (hm : Oct m) (hl : l.length + m.length ≤ 140737488355328) : Calls Try.prog 37 #[.pointer (some ⟨b, 0, none⟩), .string (st m)] w fun e w' => e = .returned (.tuple #[.int .i64 (m.length : Int), .nilIface]) ∧ (∃ p' v', Bd w' b p' v' (l ++ m)) ∧ Below b w w' ∧ ∀ k cs t, Cells w k cs t → t ≠ 58 → t ≠ 5 → Cells w' k cs t := by
  have hcc := ccheck_c h
  obtain ⟨a, c, hv, _⟩ := h.own.shape
  subst hv
  obtain ⟨L, hL⟩ : ∃ L, l.length = L := ⟨_, rfl⟩
  obtain ⟨M, hM⟩ : ∃ M, m.length = M := ⟨_, rfl⟩
  obtain ⟨s, hs⟩ : ∃ s, s = st m := ⟨_, rfl⟩
  have z1 : s.size = M := by rw [hs, st_size, hM]
  rw [hL] at hcc
  rw [← hs, hM]
  have A : Aside (l.length = L ∧ m.length = M ∧ Oct m ∧ L + M ≤ 140737488355328 ∧ s = st m) := ⟨hL, hM, hm, by omega, hs⟩
  have hf : ∀ w1, Bd w1 b (.pointer (some ⟨b, 0, none⟩)) (.slice a L c) l → w1.cell? ⟨b, 1, none⟩ = some (.slice a L c) ∧ Ow w1 b 5 1 (.slice a L c) L (ob l) := fun w1 h1 => ⟨by rw [h1.cells.cell]; rfl, by have := h1.own; rw [hL] at this; exact this⟩
  have hf2 : ∀ w1 w2 va n vc xs, Bd w1 b (.pointer (some ⟨b, 0, none⟩)) (.slice a L c) l → Got b 5 1 w1 w2 (.slice a L c) (.slice va n vc) n xs → w2.cell? ⟨b, 1, none⟩ = some (.slice a L c) ∧ w2.frozen? ⟨b, 1, none⟩ = false := fun w1 w2 va n vc xs h1 hg => by
    have k2 := h1.cells.got hg (by decide)
    exact ⟨by rw [k2.cell]; rfl, k2.frozen 1⟩
  have AB : Aside (Cells w b #[p, .slice a l.length c] 58) := h.cells
  clear h hL hM hs hm hl
  go_enter Try.func37, Try.ntmps37
  go_wp2_with (first
    | (go_at_call 52; (with_reducible refine hcc.mono ?_); rintro e1 w1 ⟨rfl, hB1, hb1, ho1⟩; have c1 := (hf w1 hB1).1)
    | (at_builtin; refine wpList_obs _ rfl (.tmp 12) (.tmp 13) rfl b (.slice a L c) L l (by rfl) (hf w1 hB1).2 m M s A.out.2.2.2.2 A.out.2.1 A.out.2.2.1 (by rfl) A.out.2.2.2.1 ?_; intro va vc w2 hgot; have d1 := (hf2 _ _ _ _ _ _ hB1 hgot).1; have f1 := (hf2 _ _ _ _ _ _ hB1 hgot).2))
  go_ret2
  have k2 := hB1.cells.got hgot (by decide)
  refine ⟨rfl, ⟨_, _, k2.set 1 _, Or.inr rfl, ?_⟩, (hb1.trans hgot.bel).setCell (p := ⟨b, 1, none⟩) (Nat.le_refl _) _, fun k cs t hk h58 h5 => ?_⟩
  rotate_left
  · have hkb : k ≠ b := fun e => by
      subst e
      have h1 := AB.out
      unfold Cells at h1 hk
      rw [hk] at h1
      cases h1
      exact h58 rfl
    exact ((hk.only ho1 hkb).got hgot h5).only ((Only.refl b w2).setCell 1 _) hkb
  rw [List.length_append, A.out.1, A.out.2.1]
  exact hgot.ow.set k2 (by decide)
set_option maxHeartbeats 1000000 in
theorem str_c {w : World} {b : Nat} {p v : Value} {l : List Nat} (h : Bd w b p v l) (ho : Oct l) (h0 : l ≠ []) : Calls Try.prog 39 #[.pointer (some ⟨b, 0, none⟩)] w fun e w' => e = .returned (.string (st l)) ∧ Below b w w' := by
  rcases h.own.own.2 with ⟨_, hz⟩ | ⟨g, cap, cur, hv, hg, hh, hc, hm, hs, ht⟩
  · exact absurd (List.eq_nil_of_length_eq_zero hz) h0
  · subst hv
    have hpos : 0 < l.length := by
      cases l with
      | nil => exact absurd rfl h0
      | cons _ _ => simp
    have c1 : w.drew.cell? ⟨b, 1, none⟩ = some (.slice (some ⟨g, 0, none⟩) l.length cap) := by rw [h.cells.drew.cell]; rfl
    have hSD : ∀ ty, (Builtin.unsafeSliceData_ #[40] ty #[.slice (some ⟨g, 0, none⟩) l.length cap]).run Try.prog w.drew = .ok (.pointer (some ⟨g, 0, none⟩)) w.drew := fun ty => Lib.run_unsafeSliceData_row _ _ _ _ _ _ (by omega)
    have hUS := fun ty => Lib.run_unsafeString_row (P := Try.prog) w.drew 72 3 ty 5 Try.underlying72 (by kernel_rfl) g cur.size (by
      unfold World.shape?
      have : w.drew.heap[g]? = some (.cells cur 5 (0, 0)) := hh
      rw [this]) (l.map UInt8.ofNat) (by simpa using h0) (by simp; omega) (by simp; unfold maxLen at hm; omega) (fun j x hx => by
        rw [List.getElem?_map] at hx
        cases hy : l[j]? with
        | none => rw [hy] at hx; simp at hx
        | some y =>
          rw [hy] at hx
          simp at hx
          have hyo := ho y (List.mem_of_getElem? hy)
          have := h.own.own.cells (g := g) rfl j (.int .u8 (y : Int)) (by rw [ob_get, hy]; rfl)
          have e2 : (x.toNat : Int) = (y : Int) := by rw [← hx]; simp; omega
          rw [e2]
          exact this)
    rw [List.length_map] at hUS
    have est : (⟨(l.map UInt8.ofNat).toArray⟩ : ByteArray) = st l := rfl
    rw [est] at hUS
    obtain ⟨s, hss⟩ : ∃ s, s = st l := ⟨_, rfl⟩
    obtain ⟨L, hL⟩ : ∃ L, l.length = L := ⟨_, rfl⟩
    rw [← hss, hL] at hUS
    rw [hL] at c1 hSD
    rw [← hss]
    obtain ⟨w3, hw3⟩ : ∃ w3, w3 = w.drew.freeze ⟨g, 0, none⟩ L := ⟨_, rfl⟩
    rw [← hw3] at hUS
    have A : Aside (Below b w w3) := by rw [hw3]; exact Lib.below_freeze (Below.drew (Below.refl b w)) (p := ⟨g, 0, none⟩) hg _
    clear h ho h0 hh hc hm hs ht hpos est hss hL hw3
    go_enter Try.func39, Try.ntmps39
    go_wp2
    go_region
    all_goals (go_wp2; go_ret; exact ⟨rfl, A.out⟩)
end Go.Proofs.Ytdndlegfalmkaaa

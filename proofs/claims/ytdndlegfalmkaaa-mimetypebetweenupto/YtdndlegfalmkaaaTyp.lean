/-
  What Type comes to.
-/
import Derived.Test.YtdndlegfalmkaaaRec
import Derived.Deep.Onto
namespace Go.Proofs.Ytdndlegfalmkaaa
open Go.RowKit
set_option linter.unusedVariables false
/-- The worlds of Type's beginning. -/
theorem type_w (w : World) (l : List Nat) : ∃ w3, w3 = ((w.alloc (.cells #[.string ⟨#[]⟩, .string ⟨#[]⟩, .slice none 0 0] 24)).alloc (.cells #[.bool false] 4)).alloc (.cells #[.string (st l), .int .i64 0] 46) ∧ Cells w3 w.heap.size #[.string ⟨#[]⟩, .string ⟨#[]⟩, .slice none 0 0] 24 ∧ Cells w3 (w.heap.size + 1) #[.bool false] 4 ∧ Rd w3 (w.heap.size + 1 + 1) l l ∧ Below w.heap.size w w3 := by
  refine ⟨_, rfl, ?_, ?_, ?_, ?_⟩
  · exact ((Cells.new w _ 24).alloc _).alloc _
  · have := (Cells.new (w.alloc (.cells #[.string ⟨#[]⟩, .string ⟨#[]⟩, .slice none 0 0] 24)) #[.bool false] 4).alloc (.cells #[.string (st l), .int .i64 0] 46)
    simpa using this
  · have := Cells.new ((w.alloc (.cells #[.string ⟨#[]⟩, .string ⟨#[]⟩, .slice none 0 0] 24)).alloc (.cells #[.bool false] 4)) #[.string (st l), .int .i64 0] 46
    refine ⟨0, ?_, by omega, by simp⟩
    simpa using this
  · exact (((Below.refl _ w).alloc (Nat.le_refl _) _).alloc (by simp) _).alloc (by simp; omega) _
set_option maxHeartbeats 1000000 in
theorem type_no (l : List Nat) (ho : Oct l) (hl : l.length ≤ 1099511627776) (w : World) (h : ty l = none) : Calls Try.prog 9 #[.string (st l)] w fun e w' => e = .returned (.tuple #[.agg #[.string ⟨#[]⟩, .string ⟨#[]⟩, .slice none 0 0], .bool false]) ∧ Below w.heap.size w w' := by
  have hmf : ∀ (fn : Fn) (first cap : Array Value) (w : World), (Instr.makeFunc fn first cap).run Try.prog w = .ok (.func fn first cap) w := fun _ _ _ _ => rfl
  obtain ⟨w3, hw3, kH, kK, hrd, hb⟩ := type_w w l
  have hwt := wty_c hrd hl ho
  rw [h] at hwt
  have hwt2 : Calls Try.prog 28 #[.pointer (some ⟨w.heap.size + 1 + 1, 0, none⟩)] w3 fun e w' => e = .panicked pz ∧ But (w.heap.size + 1 + 1) w3 w' := hwt.mono fun e w' hh => by
    obtain ⟨hb, ⟨t, v, n, h1, h2, h3⟩ | ⟨h1, h2⟩⟩ := hh
    · cases h1
    · exact ⟨h2, hb⟩
  have A : Aside (Cells w3 w.heap.size #[.string ⟨#[]⟩, .string ⟨#[]⟩, .slice none 0 0] 24 ∧ Cells w3 (w.heap.size + 1) #[.bool false] 4 ∧ Below w.heap.size w w3) := ⟨kH, kK, hb⟩
  clear kH kK hrd hb hwt h hl ho
  go_enter_defers Try.func9, Try.ntmps9
  go_upto_region 3 with fail
  rw [← hw3]
  clear hw3
  go_wp2_with (go_at_call 28; (with_reducible refine hwt2.mono ?_); rintro e1 w4 ⟨rfl, hb4⟩)
  obtain ⟨kH, kK, hb⟩ := A.out
  have kH4 := hb4.cells kH (by omega)
  have kK4 := hb4.cells kK (by omega)
  refine leaves_cons (f := 26) (args := #[.pointer (some ⟨w.heap.size, 0, none⟩), .pointer (some ⟨w.heap.size + 1, 0, none⟩)]) (by simp) (by simp [go_sem]) ?_
  refine (catch_t w.heap.size (w.heap.size + 1) [] w4 _ _ _ _ kH4 kK4).mono ?_
  rintro e2 u2 w5 ⟨rfl, rfl, w6, hb6, hw5⟩
  have kH6 := kH4.below hb6 kH4.lt
  have kK6 := kK4.below hb6 kK4.lt
  have oH : Only w.heap.size w6 (((w6.setCell ⟨w.heap.size, 0, none⟩ (.string ⟨#[]⟩)).setCell ⟨w.heap.size, 1, none⟩ (.string ⟨#[]⟩)).setCell ⟨w.heap.size, 2, none⟩ (.slice none 0 0)) := (((Only.refl w.heap.size w6).setCell 0 (.string ⟨#[]⟩)).setCell 1 (.string ⟨#[]⟩)).setCell 2 (.slice none 0 0)
  have kH7 := (((kH6.set 0 (.string ⟨#[]⟩)).set 1 (.string ⟨#[]⟩)).set 2 (.slice none 0 0)).only ((Only.refl (w.heap.size + 1) _).setCell 0 (.bool false)) (by omega)
  have kK7 := (kK6.only oH (by omega)).set 0 (.bool false)
  rw [← hw5] at kH7 kK7
  have b5 : Below w.heap.size w6 w5 := by rw [hw5]; exact (oH.below (Nat.le_refl _)).setCell (p := ⟨w.heap.size + 1, 0, none⟩) (Nat.le_succ _) _
  have bel : Below w.heap.size w w5 := by
    have h1 := hb.trans (hb4.below (B := w.heap.size) (by omega) hb.size)
    have h2 := h1.trans (hb6.mono h1.size)
    exact h2.trans b5
  have c0 : w5.cell? ⟨w.heap.size, 0, none⟩ = some (.string ⟨#[]⟩) := by rw [kH7.cell]; rfl
  have c1 : w5.cell? ⟨w.heap.size, 1, none⟩ = some (.string ⟨#[]⟩) := by rw [kH7.cell]; rfl
  have c2 : w5.cell? ⟨w.heap.size, 2, none⟩ = some (.slice none 0 0) := by rw [kH7.cell]; rfl
  have d0 : w5.cell? ⟨w.heap.size + 1, 0, none⟩ = some (.bool false) := by rw [kK7.cell]; rfl
  simp [Leaves, settle, results, Try.results9, go_sem, c0, c1, c2, d0]
  exact bel
set_option maxHeartbeats 1000000 in
theorem type_ok (l : List Nat) (ho : Oct l) (hl : l.length ≤ 1099511627776) (w : World) (t : Ty) (h : ty l = some t) : Calls Try.prog 9 #[.string (st l)] w fun e w' => ∃ v n, e = .returned (.tuple #[.agg #[.string (st t.1), .string (st t.2.1), v], .bool true]) ∧ Ow w' w.heap.size 29 2 v n (fc t.2.2) ∧ Below w.heap.size w w' := by
  have hmf : ∀ (fn : Fn) (first cap : Array Value) (w : World), (Instr.makeFunc fn first cap).run Try.prog w = .ok (.func fn first cap) w := fun _ _ _ _ => rfl
  obtain ⟨w3, hw3, kH, kK, hrd, hb⟩ := type_w w l
  have hwt := wty_c hrd hl ho
  rw [h] at hwt
  have hwt2 : Calls Try.prog 28 #[.pointer (some ⟨w.heap.size + 1 + 1, 0, none⟩)] w3 fun e w' => ∃ va n c, e = .returned (.agg #[.string (st t.1), .string (st t.2.1), .slice va n c]) ∧ Ow w' w3.heap.size 29 2 (.slice va n c) n (fc t.2.2) ∧ But (w.heap.size + 1 + 1) w3 w' := hwt.mono fun e w' hh => by
    obtain ⟨hb, ⟨t', v, n, h1, h2, h3⟩ | ⟨h1, h2⟩⟩ := hh
    · cases h1
      obtain ⟨va, c, hv, _⟩ := h3.shape
      subst hv
      exact ⟨va, n, c, h2, h3, hb⟩
    · cases h1
  have A : Aside (Cells w3 w.heap.size #[.string ⟨#[]⟩, .string ⟨#[]⟩, .slice none 0 0] 24 ∧ Cells w3 (w.heap.size + 1) #[.bool false] 4 ∧ Below w.heap.size w w3) := ⟨kH, kK, hb⟩
  obtain ⟨M, hM⟩ : ∃ M, st t.1 = M := ⟨_, rfl⟩
  obtain ⟨S, hS⟩ : ∃ S, st t.2.1 = S := ⟨_, rfl⟩
  rw [hM, hS] at hwt2 ⊢
  clear kH kK hrd hb hwt h hl ho hM hS
  go_enter_defers Try.func9, Try.ntmps9
  go_upto_region 3 with fail
  rw [← hw3]
  clear hw3
  obtain ⟨H, hH⟩ : ∃ H, w.heap.size = H := ⟨_, rfl⟩
  rw [hH] at hwt2 A ⊢
  have hf : ∀ w4, But (H + 1 + 1) w3 w4 → Cells w4 H #[.string ⟨#[]⟩, .string ⟨#[]⟩, .slice none 0 0] 24 ∧ Cells w4 (H + 1) #[.bool false] 4 := fun w4 hb => ⟨hb.cells A.out.1 (by omega), hb.cells A.out.2.1 (by omega)⟩
  go_wp2_with (go_at_call 28; (with_reducible refine hwt2.mono ?_); rintro e1 w4 ⟨va, n, c, rfl, how, hb4⟩; have k4 := (hf w4 hb4).1; have j4 := (hf w4 hb4).2; have f0 := k4.frozen 0; have f1 := k4.frozen 1; have f2 := k4.frozen 2; have g0 := j4.frozen 0; have c0 := k4.cell 0; have c1 := k4.cell 1; have c2 := k4.cell 2; have d0 := j4.cell 0)
  obtain ⟨w5, hw5⟩ : ∃ w5, w5 = (((w4.setCell ⟨H, 0, none⟩ (.string M)).setCell ⟨H, 1, none⟩ (.string S)).setCell ⟨H, 2, none⟩ (.slice va n c)).setCell ⟨H + 1, 0, none⟩ (.bool true) := ⟨_, rfl⟩
  rw [← hw5]
  have oH : Only H w4 (((w4.setCell ⟨H, 0, none⟩ (.string M)).setCell ⟨H, 1, none⟩ (.string S)).setCell ⟨H, 2, none⟩ (.slice va n c)) := (((Only.refl H w4).setCell 0 (.string M)).setCell 1 (.string S)).setCell 2 (.slice va n c)
  have k3 := ((k4.set 0 (.string M)).set 1 (.string S)).set 2 (.slice va n c)
  have j3 := j4.only oH (by omega)
  have kH7 := k3.only ((Only.refl (H + 1) _).setCell 0 (.bool true)) (by omega)
  have kK7 := j3.set 0 (.bool true)
  have o3 := ((how.set (i := 0) (x := .string M) k4 (by decide)).set (i := 1) (x := .string S) (k4.set 0 (.string M)) (by decide)).set (i := 2) (x := .slice va n c) ((k4.set 0 (.string M)).set 1 (.string S)) (by decide)
  have o5 := o3.set (i := 0) (x := .bool true) j3 (by decide)
  rw [← hw5] at kH7 kK7 o5
  have b5 : Below H w4 w5 := by rw [hw5]; exact (oH.below (Nat.le_refl _)).setCell (p := ⟨H + 1, 0, none⟩) (Nat.le_succ _) _
  have h1 := A.out.2.2.trans (hb4.below (B := H) (by omega) (by rw [← hH]; exact A.out.2.2.size))
  have bel : Below H w w5 := h1.trans b5
  have e0 : w5.cell? ⟨H, 0, none⟩ = some (.string M) := by rw [kH7.cell]; rfl
  have e1 : w5.cell? ⟨H, 1, none⟩ = some (.string S) := by rw [kH7.cell]; rfl
  have e2 : w5.cell? ⟨H, 2, none⟩ = some (.slice va n c) := by rw [kH7.cell]; rfl
  have e3 : w5.cell? ⟨H + 1, 0, none⟩ = some (.bool true) := by rw [kK7.cell]; rfl
  have hle : H ≤ w3.heap.size := by rw [← hH]; exact A.out.2.2.size
  have o6 : Ow w5 H 29 2 (.slice va n c) n (fc t.2.2) := ⟨o5.own.mono hle, Nat.le_trans hle o5.le⟩
  clear hw5 oH k3 j3 kH7 kK7 o3 b5 h1 k4 j4 f0 f1 f2 g0 c0 c1 c2 d0 hf how hb4 hwt2 o5 hle
  refine leaves_cons (f := 26) (args := #[.pointer (some ⟨H, 0, none⟩), .pointer (some ⟨H + 1, 0, none⟩)]) (by simp) (by simp [go_sem]) ?_
  refine (idle_t H (H + 1) w5).mono ?_
  rintro e4 u2 w6 ⟨rfl, rfl, rfl⟩
  simp [Leaves, settle, results, Try.results9, go_sem, e0, e1, e2, e3]
  exact ⟨⟨n, by rw [hH]; exact o6⟩, by rw [hH]; exact bel⟩
end Go.Proofs.Ytdndlegfalmkaaa

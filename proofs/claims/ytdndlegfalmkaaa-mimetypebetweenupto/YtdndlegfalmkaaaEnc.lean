/-
  What encodingOf, wholeWord, Encoding come to.
-/
import Derived.Test.YtdndlegfalmkaaaTyp
namespace Go.Proofs.Ytdndlegfalmkaaa
open Go.RowKit
set_option linter.unusedVariables false
theorem st_lit {l : List Nat} (ho : Oct l) (c : List UInt8) : ((st l).toList == c) = decide (l = c.map UInt8.toNat) := by
  have e : c = (st (c.map UInt8.toNat)).toList := by
    rw [ByteArray.toList_eq]
    show c = (List.map UInt8.ofNat (List.map UInt8.toNat c))
    rw [List.map_map]
    simp [Function.comp_def]
  conv => lhs; rw [e]
  exact st_beq ho (fun x hx => by
    obtain ⟨y, _, rfl⟩ := List.mem_map.1 hx
    exact y.toNat_lt)
theorem st_none {l : List Nat} : (st l).toList.isEmpty = decide (l = []) := by
  rw [ByteArray.toList_eq]
  cases l with
  | nil => rfl
  | cons x r => simp [st]
set_option maxHeartbeats 1000000 in
theorem encof_c (m : List Nat) (ho : Oct m) (hl : m.length ≤ 140737488355328) (w : World) : Calls Try.prog 42 #[.string (st m)] w fun e w' => e = .returned (.int .i64 (enk (low m) : Nat)) ∧ Below w.heap.size w w' := by
  have hlo := lower_c m ho (by omega) w
  have q0 := st_none (l := low m)
  have q1 : ((st (low m)).toList == [55, 98, 105, 116]) = decide (low m = [55, 98, 105, 116]) := st_lit ho.low [55, 98, 105, 116]
  have q2 : ((st (low m)).toList == [56, 98, 105, 116]) = decide (low m = [56, 98, 105, 116]) := st_lit ho.low [56, 98, 105, 116]
  have q3 : ((st (low m)).toList == [98, 105, 110, 97, 114, 121]) = decide (low m = [98, 105, 110, 97, 114, 121]) := st_lit ho.low [98, 105, 110, 97, 114, 121]
  have q4 : ((st (low m)).toList == [98, 97, 115, 101, 54, 52]) = decide (low m = [98, 97, 115, 101, 54, 52]) := st_lit ho.low [98, 97, 115, 101, 54, 52]
  have q5 : ((st (low m)).toList == [113, 117, 111, 116, 101, 100, 45, 112, 114, 105, 110, 116, 97, 98, 108, 101]) = decide (low m = [113, 117, 111, 116, 101, 100, 45, 112, 114, 105, 110, 116, 97, 98, 108, 101]) := st_lit ho.low [113, 117, 111, 116, 101, 100, 45, 112, 114, 105, 110, 116, 97, 98, 108, 101]
  obtain ⟨s, hs⟩ : ∃ s, s = st m := ⟨_, rfl⟩
  obtain ⟨t, ht⟩ : ∃ t, t = st (low m) := ⟨_, rfl⟩
  rw [← hs, ← ht] at hlo
  rw [← ht] at q0 q1 q2 q3 q4 q5
  rw [← hs]
  obtain ⟨E, hE⟩ : ∃ E, enk (low m) = E := ⟨_, rfl⟩
  rw [hE]
  unfold enk at hE
  clear hs ht ho hl
  by_cases h0 : low m = []
  · rw [decide_eq_true h0] at q0
    have A : Aside ((0 : Nat) = E) := by show _ = _; rw [← hE, h0]; rfl
    clear hE h0 q1 q2 q3 q4 q5
    go_enter Try.func42, Try.ntmps42
    go_wp2_with (go_at_call 14; (with_reducible refine hlo.mono ?_); rintro e1 w1 ⟨rfl, hb1⟩)
    go_ret
    exact ⟨by rw [← A.out]; rfl, hb1⟩
  rw [decide_eq_false h0] at q0
  by_cases h1 : low m = [55, 98, 105, 116]
  · rw [decide_eq_true h1] at q1
    have A : Aside ((0 : Nat) = E) := by show _ = _; rw [← hE, h1]; rfl
    clear hE h1 h0 q2 q3 q4 q5
    go_enter Try.func42, Try.ntmps42
    go_wp2_with (go_at_call 14; (with_reducible refine hlo.mono ?_); rintro e1 w1 ⟨rfl, hb1⟩)
    go_ret
    exact ⟨by rw [← A.out]; rfl, hb1⟩
  rw [decide_eq_false h1] at q1
  by_cases h2 : low m = [56, 98, 105, 116]
  · rw [decide_eq_true h2] at q2
    have A : Aside ((0 : Nat) = E) := by show _ = _; rw [← hE, h2]; rfl
    clear hE h2 h0 h1 q3 q4 q5
    go_enter Try.func42, Try.ntmps42
    go_wp2_with (go_at_call 14; (with_reducible refine hlo.mono ?_); rintro e1 w1 ⟨rfl, hb1⟩)
    go_ret
    exact ⟨by rw [← A.out]; rfl, hb1⟩
  rw [decide_eq_false h2] at q2
  by_cases h3 : low m = [98, 105, 110, 97, 114, 121]
  · rw [decide_eq_true h3] at q3
    have A : Aside ((0 : Nat) = E) := by show _ = _; rw [← hE, h3]; rfl
    clear hE h3 h0 h1 h2 q4 q5
    go_enter Try.func42, Try.ntmps42
    go_wp2_with (go_at_call 14; (with_reducible refine hlo.mono ?_); rintro e1 w1 ⟨rfl, hb1⟩)
    go_ret
    exact ⟨by rw [← A.out]; rfl, hb1⟩
  rw [decide_eq_false h3] at q3
  by_cases h4 : low m = [98, 97, 115, 101, 54, 52]
  · rw [decide_eq_true h4] at q4
    have A : Aside ((1 : Nat) = E) := by show _ = _; rw [← hE, h4]; rfl
    clear hE h4 h0 h1 h2 h3 q5
    go_enter Try.func42, Try.ntmps42
    go_wp2_with (go_at_call 14; (with_reducible refine hlo.mono ?_); rintro e1 w1 ⟨rfl, hb1⟩)
    go_ret
    exact ⟨by rw [← A.out]; rfl, hb1⟩
  rw [decide_eq_false h4] at q4
  by_cases h5 : low m = [113, 117, 111, 116, 101, 100, 45, 112, 114, 105, 110, 116, 97, 98, 108, 101]
  · rw [decide_eq_true h5] at q5
    have A : Aside ((2 : Nat) = E) := by show _ = _; rw [← hE, h5]; rfl
    clear hE h5 h0 h1 h2 h3 h4
    go_enter Try.func42, Try.ntmps42
    go_wp2_with (go_at_call 14; (with_reducible refine hlo.mono ?_); rintro e1 w1 ⟨rfl, hb1⟩)
    go_ret
    exact ⟨by rw [← A.out]; rfl, hb1⟩
  rw [decide_eq_false h5] at q5
  have A : Aside ((3 : Nat) = E) := by
    show _ = _
    rw [← hE, if_neg (by rintro (h | h | h | h); exact h0 h; exact h1 h; exact h2 h; exact h3 h), if_neg h4, if_neg h5]
  clear hE h0 h1 h2 h3 h4 h5
  go_enter Try.func42, Try.ntmps42
  go_wp2_with (go_at_call 14; (with_reducible refine hlo.mono ?_); rintro e1 w1 ⟨rfl, hb1⟩)
  go_ret
  exact ⟨by rw [← A.out]; rfl, hb1⟩
/-- One word, as the reader goes. -/
def wd0 (r : List Nat) : Option (List Nat) := (bt 0 r).bind fun q => if q = [] then some [] else (tk1 q).bind fun a => (bt 0 a.2).bind fun s => if s = [] then some a.1 else none
theorem wd0_eq (r : List Nat) : wd0 r = wd r := by
  unfold wd0 wd
  congr 1
  funext q
  rw [tkn_eq]
  split
  · rfl
  · cases tk1 q with
    | none => rfl
    | some a =>
      simp only [Option.bind_some]
      cases bt 0 a.2 <;> rfl
def GoW (w : World) (B : Nat) (R : Option (List Nat)) (e : Ending) (w' : World) : Prop := But B w w' ∧ ((∃ v, R = some v ∧ e = .returned (.string (st v))) ∨ (R = none ∧ e = .panicked pz))
set_option maxHeartbeats 1000000 in
theorem word_c {w : World} {B : Nat} {l r : List Nat} (h : Rd w B l r) (hl : l.length ≤ 140737488355328) (ho : Oct l) : Calls Try.prog 43 #[.pointer (some ⟨B, 0, none⟩)] w (GoW w B (wd r)) := by
  rw [← wd0_eq]
  have hb0 := between_c h hl ho
  obtain ⟨R, hR⟩ : ∃ R, wd0 r = R := ⟨_, rfl⟩
  rw [hR]
  unfold wd0 at hR
  cases h1 : bt 0 r with
  | none =>
    rw [h1] at hR hb0
    have A : Aside (R = none) := hR.symm
    clear h hl ho hR h1
    go_enter Try.func43, Try.ntmps43
    go_wp2_with (go_at_call 44; (with_reducible refine hb0.mono ?_); intro e1 w1 h1; obtain ⟨rfl, hb1⟩ := h1.no)
    exact ⟨rfl, hb1, Or.inr ⟨A.out, rfl⟩⟩
  | some q =>
    rw [h1] at hR hb0
    simp only [Option.bind_some] at hR
    cases q with
    | nil =>
      have hen := fun W (hW : Rd W B l []) => ended_b hW hl true rfl
      have A : Aside (R = some []) := hR.symm
      clear h hl ho hR h1
      go_enter Try.func43, Try.ntmps43
      go_wp2_with (first
        | (go_at_call 44; (with_reducible refine hb0.mono ?_); intro e1 w1 h1; obtain ⟨rfl, hr1, hb1⟩ := h1.ok)
        | (go_at_call 47; (with_reducible refine (hen _ hr1).mono ?_); rintro e2 w2 ⟨rfl, hr2, hb2⟩))
      go_ret
      exact ⟨hb1.trans hb2, Or.inl ⟨[], A.out, rfl⟩⟩
    | cons x q =>
      have hen := fun W (hW : Rd W B l (x :: q)) => ended_b hW hl false rfl
      have htk := fun W (hW : Rd W B l (x :: q)) => rtok_c hW hl ho
      rw [if_neg (by simp)] at hR
      cases h2 : tk1 (x :: q) with
      | none =>
        rw [h2] at hR htk
        have A : Aside (R = none) := hR.symm
        clear h hl ho hR h1 h2
        go_enter Try.func43, Try.ntmps43
        go_wp2_with (first
          | (go_at_call 44; (with_reducible refine hb0.mono ?_); intro e1 w1 h1; obtain ⟨rfl, hr1, hb1⟩ := h1.ok)
          | (go_at_call 47; (with_reducible refine (hen _ hr1).mono ?_); rintro e2 w2 ⟨rfl, hr2, hb2⟩)
          | (go_at_call 45; (with_reducible refine (htk _ hr2).mono ?_); intro e3 w3 h3; obtain ⟨rfl, hb3⟩ := h3.no))
        exact ⟨rfl, (hb1.trans hb2).trans hb3, Or.inr ⟨A.out, rfl⟩⟩
      | some a =>
        obtain ⟨a1, a2⟩ := a
        rw [h2] at hR htk
        simp only [Option.bind_some] at hR
        have hbw := fun W (hW : Rd W B l a2) => between_c hW hl ho
        cases h3 : bt 0 a2 with
        | none =>
          rw [h3] at hR hbw
          have A : Aside (R = none) := hR.symm
          clear h hl ho hR h1 h2 h3
          go_enter Try.func43, Try.ntmps43
          go_wp2_with (first
            | (go_at_call 44; (with_reducible refine hb0.mono ?_); intro e1 w1 h1; obtain ⟨rfl, hr1, hb1⟩ := h1.ok)
            | (go_at_call 47; (with_reducible refine (hen _ hr1).mono ?_); rintro e2 w2 ⟨rfl, hr2, hb2⟩)
            | (go_at_call 45; (with_reducible refine (htk _ hr2).mono ?_); intro e3 w3 h3; obtain ⟨rfl, hr3, hb3⟩ := h3.ok)
            | (go_at_call 44; (with_reducible refine (hbw _ hr3).mono ?_); intro e4 w4 h4; obtain ⟨rfl, hb4⟩ := h4.no))
          exact ⟨rfl, ((hb1.trans hb2).trans hb3).trans hb4, Or.inr ⟨A.out, rfl⟩⟩
        | some u =>
          rw [h3] at hR hbw
          simp only [Option.bind_some] at hR
          cases u with
          | nil =>
            have hen2 := fun W (hW : Rd W B l []) => ended_b hW hl true rfl
            have A : Aside (R = some a1) := by rw [if_pos rfl] at hR; exact hR.symm
            clear h hl ho hR h1 h2 h3
            go_enter Try.func43, Try.ntmps43
            go_wp2_with (first
              | (go_at_call 44; (with_reducible refine hb0.mono ?_); intro e1 w1 h1; obtain ⟨rfl, hr1, hb1⟩ := h1.ok)
              | (go_at_call 47; (with_reducible refine (hen _ hr1).mono ?_); rintro e2 w2 ⟨rfl, hr2, hb2⟩)
              | (go_at_call 45; (with_reducible refine (htk _ hr2).mono ?_); intro e3 w3 h3; obtain ⟨rfl, hr3, hb3⟩ := h3.ok)
              | (go_at_call 44; (with_reducible refine (hbw _ hr3).mono ?_); intro e4 w4 h4; obtain ⟨rfl, hr4, hb4⟩ := h4.ok)
              | (go_at_call 47; (with_reducible refine (hen2 _ hr4).mono ?_); rintro e5 w5 ⟨rfl, hr5, hb5⟩))
            go_ret
            exact ⟨(((hb1.trans hb2).trans hb3).trans hb4).trans hb5, Or.inl ⟨a1, A.out, rfl⟩⟩
          | cons y u =>
            have hen2 := fun W (hW : Rd W B l (y :: u)) => ended_b hW hl false rfl
            have A : Aside (R = none) := by rw [if_neg (by simp)] at hR; exact hR.symm
            clear h hl ho hR h1 h2 h3
            go_enter Try.func43, Try.ntmps43
            go_wp2_with (first
              | (go_at_call 44; (with_reducible refine hb0.mono ?_); intro e1 w1 h1; obtain ⟨rfl, hr1, hb1⟩ := h1.ok)
              | (go_at_call 47; (with_reducible refine (hen _ hr1).mono ?_); rintro e2 w2 ⟨rfl, hr2, hb2⟩)
              | (go_at_call 45; (with_reducible refine (htk _ hr2).mono ?_); intro e3 w3 h3; obtain ⟨rfl, hr3, hb3⟩ := h3.ok)
              | (go_at_call 44; (with_reducible refine (hbw _ hr3).mono ?_); intro e4 w4 h4; obtain ⟨rfl, hr4, hb4⟩ := h4.ok)
              | (go_at_call 47; (with_reducible refine (hen2 _ hr4).mono ?_); rintro e5 w5 ⟨rfl, hr5, hb5⟩))
            exact ⟨rfl, (((hb1.trans hb2).trans hb3).trans hb4).trans hb5, Or.inr ⟨A.out, rfl⟩⟩
theorem wd_out {l n : List Nat} (h : wd l = some n) : n.length ≤ l.length ∧ (∀ x ∈ n, x ∈ l) := by
  unfold wd at h
  cases h1 : bt 0 l with
  | none => rw [h1] at h; cases h
  | some q =>
    rw [h1] at h
    simp only [Option.bind_some] at h
    split at h
    · cases h; simp
    · cases h2 : tkn q with
      | none => rw [h2] at h; cases h
      | some a =>
        obtain ⟨a1, a2⟩ := a
        rw [h2] at h
        simp only [Option.bind_some] at h
        split at h
        · cases h
          have k1 := bt_le h1
          have k2 := tkn_out h2
          refine ⟨by omega, fun x hx => (bt_suf h1).subset ?_⟩
          unfold tkn at h2
          split at h2
          · cases h2
          · cases h3 : bt 0 (q.drop (rn q)) with
            | none => rw [h3] at h2; cases h2
            | some u =>
              rw [h3] at h2
              simp only [Option.map_some, Option.some.injEq, Prod.mk.injEq] at h2
              rw [← h2.1] at hx
              exact List.mem_of_mem_take hx
        · cases h
theorem enc_w (w : World) (l : List Nat) : ∃ w3, w3 = (w.alloc (.cells #[.int .i64 0] 3)).alloc (.cells #[.string (st l), .int .i64 0] 46) ∧ Cells w3 w.heap.size #[.int .i64 0] 3 ∧ Rd w3 (w.heap.size + 1) l l ∧ Below w.heap.size w w3 := by
  refine ⟨_, rfl, ?_, ?_, ?_⟩
  · exact (Cells.new w _ 3).alloc _
  · have := Cells.new (w.alloc (.cells #[.int .i64 0] 3)) #[.string (st l), .int .i64 0] 46
    refine ⟨0, ?_, by omega, by simp⟩
    simpa using this
  · exact ((Below.refl _ w).alloc (Nat.le_refl _) _).alloc (by simp) _
set_option maxHeartbeats 1000000 in
theorem enc_c (l : List Nat) (ho : Oct l) (hl : l.length ≤ 140737488355328) (w : World) : Calls Try.prog 22 #[.string (st l)] w fun e w' => e = .returned (.int .i64 (ec l : Nat)) ∧ Below w.heap.size w w' := by
  have hmf : ∀ (fn : Fn) (first cap : Array Value) (w : World), (Instr.makeFunc fn first cap).run Try.prog w = .ok (.func fn first cap) w := fun _ _ _ _ => rfl
  obtain ⟨w3, hw3, kH, hrd, hb⟩ := enc_w w l
  have hwt := word_c hrd hl ho
  cases h : wd l with
  | none =>
    have hec : ec l = 3 := by unfold ec; rw [h]
    rw [hec]
    rw [h] at hwt
    have hwt2 : Calls Try.prog 43 #[.pointer (some ⟨w.heap.size + 1, 0, none⟩)] w3 fun e w' => e = .panicked pz ∧ But (w.heap.size + 1) w3 w' := hwt.mono fun e w' hh => by
      obtain ⟨hb, ⟨v, h1, h2⟩ | ⟨h1, h2⟩⟩ := hh
      · cases h1
      · exact ⟨h2, hb⟩
    have A : Aside (Cells w3 w.heap.size #[.int .i64 0] 3 ∧ Below w.heap.size w w3) := ⟨kH, hb⟩
    clear kH hrd hb hwt h hl ho hec
    go_enter_defers Try.func22, Try.ntmps22
    go_upto_region 3 with fail
    rw [← hw3]
    clear hw3
    go_wp2_with (go_at_call 43; (with_reducible refine hwt2.mono ?_); rintro e1 w4 ⟨rfl, hb4⟩)
    obtain ⟨kH, hb⟩ := A.out
    have kH4 := hb4.cells kH (by omega)
    refine leaves_cons (f := 41) (args := #[.pointer (some ⟨w.heap.size, 0, none⟩)]) (by simp) (by simp [go_sem]) ?_
    refine (catch_e w.heap.size [] w4 _ kH4).mono ?_
    rintro e2 u2 w5 ⟨rfl, rfl, w6, hb6, hw5⟩
    have kH7 := (kH4.below hb6 kH4.lt).set 0 (.int .i64 3)
    rw [← hw5] at kH7
    have bel : Below w.heap.size w w5 := by
      have h1 := hb.trans (hb4.below (B := w.heap.size) (by omega) hb.size)
      have h2 := h1.trans (hb6.mono h1.size)
      rw [hw5]
      exact h2.setCell (p := ⟨w.heap.size, 0, none⟩) (Nat.le_refl _) _
    have c0 : w5.cell? ⟨w.heap.size, 0, none⟩ = some (.int .i64 3) := by rw [kH7.cell]; rfl
    simp [Leaves, settle, results, Try.results22, go_sem, c0]
    exact bel
  | some n =>
    obtain ⟨E, hE⟩ : ∃ E, enk (low n) = E := ⟨_, rfl⟩
    have hec : ec l = E := by unfold ec; rw [h]; exact hE
    rw [hec]
    rw [h] at hwt
    have hn := wd_out h
    have hef := fun W => encof_c n (fun x hx => ho x (hn.2 x hx)) (by omega) W
    rw [hE] at hef
    have hwt2 : Calls Try.prog 43 #[.pointer (some ⟨w.heap.size + 1, 0, none⟩)] w3 fun e w' => e = .returned (.string (st n)) ∧ But (w.heap.size + 1) w3 w' := hwt.mono fun e w' hh => by
      obtain ⟨hb, ⟨v, h1, h2⟩ | ⟨h1, h2⟩⟩ := hh
      · cases h1
        exact ⟨h2, hb⟩
      · cases h1
    have A : Aside (Cells w3 w.heap.size #[.int .i64 0] 3 ∧ Below w.heap.size w w3) := ⟨kH, hb⟩
    clear kH hrd hb hwt h hl ho hec hn hE
    go_enter_defers Try.func22, Try.ntmps22
    go_upto_region 3 with fail
    rw [← hw3]
    clear hw3
    obtain ⟨H, hH⟩ : ∃ H, w.heap.size = H := ⟨_, rfl⟩
    rw [hH] at hwt2 A ⊢
    have hf : ∀ w4 w5, But (H + 1) w3 w4 → Below w4.heap.size w4 w5 → Cells w5 H #[.int .i64 0] 3 := fun w4 w5 hb h5 => (hb.cells A.out.1 (by omega)).below h5 (hb.cells A.out.1 (by omega)).lt
    go_wp2_with (first
      | (go_at_call 43; (with_reducible refine hwt2.mono ?_); rintro e1 w4 ⟨rfl, hb4⟩)
      | (go_at_call 42; (with_reducible refine (hef _).mono ?_); rintro e2 w5 ⟨rfl, hb5⟩; have k5 := hf w4 w5 hb4 hb5; have f0 := k5.frozen 0; have c0 := k5.cell 0))
    obtain ⟨w6, hw6⟩ : ∃ w6, w6 = w5.setCell ⟨H, 0, none⟩ (.int .i64 (E : Int)) := ⟨_, rfl⟩
    rw [← hw6]
    have k6 := k5.set 0 (.int .i64 (E : Int))
    rw [← hw6] at k6
    have h1 := A.out.2.trans (hb4.below (B := H) (by omega) (by rw [← hH]; exact A.out.2.size))
    have h2 := h1.trans (hb5.mono (by rw [← hH]; exact h1.size))
    have bel : Below H w w6 := by rw [hw6]; exact h2.setCell (p := ⟨H, 0, none⟩) (Nat.le_refl _) _
    have e0 : w6.cell? ⟨H, 0, none⟩ = some (.int .i64 (E : Int)) := by rw [k6.cell]; rfl
    clear hw6 k6 k5 f0 c0 h1 h2 hf hb4 hb5 hwt2 hef
    refine leaves_cons (f := 41) (args := #[.pointer (some ⟨H, 0, none⟩)]) (by simp) (by simp [go_sem]) ?_
    refine (idle_e H w6).mono ?_
    rintro e4 u2 w7 ⟨rfl, rfl, rfl⟩
    simp [Leaves, settle, results, Try.results22, go_sem, e0]
    rw [hH]
    exact bel
end Go.Proofs.Ytdndlegfalmkaaa

/-
  Own texts of this seat, one behind the other: what each says stands ahead of it.
-/
import Derived.Test.YtpihipbeagpgpaaGreatDoorMk
import Derived.OwnWalk
import Derived.Test.YtpihipbeagpgpaaGreatDoorMj
import Derived.BigQuiet
import Derived.BigRegion
import Derived.Test.YtpihipbeagpgpaaGreatDoorMb
/-
 The walker's small functions: place, gather and take where something is still to come, pass.
-/
namespace Go.Proofs.YtpihipbeagpgpaaGreatDoor
open Go.RowKit
set_option linter.unusedVariables false
section
variable {w : World} {cs : Array Value} {t : TypeId} {o o1 o2 o3 o4 : Obj}
theorem cn1 : Cells ((w.alloc o).alloc (.cells cs t)) (w.heap.size + 1) cs t := by simpa using Cells.new (w.alloc o) cs t
theorem cn2 : Cells (((w.alloc o).alloc o1).alloc (.cells cs t)) (w.heap.size + 1 + 1) cs t := by simpa using Cells.new ((w.alloc o).alloc o1) cs t
theorem cn3 : Cells ((((w.alloc o).alloc o1).alloc o2).alloc (.cells cs t)) (w.heap.size + 1 + 1 + 1) cs t := by simpa using Cells.new (((w.alloc o).alloc o1).alloc o2) cs t
theorem cn4 : Cells (((((w.alloc o).alloc o1).alloc o2).alloc o3).alloc (.cells cs t)) (w.heap.size + 1 + 1 + 1 + 1) cs t := by simpa using Cells.new ((((w.alloc o).alloc o1).alloc o2).alloc o3) cs t
theorem below_alloc (w : World) (o : Obj) : Below w.heap.size w (w.alloc o) := (Below.refl _ w).alloc (Nat.le_refl _) o
end
section
variable {lo hi B D b R W : Nat} {I : List Nat} {cf : Cfg} {q : Md} {c : Zc} {s : Zs}
theorem place_c (w : World) (h : Wk w lo hi B D b R W c I cf q) : Calls Tryz.prog 31 #[.pointer (some ⟨W, 0, none⟩)] w fun e w' => e = .returned (.tuple #[]) ∧ (∃ v, Wk w' lo hi B D b R W { c with nx := v } I cf q ∧ ∀ s : Zs, s.ph = 0 → s.bs = [] → Nz w' hi W s v) ∧ Fz lo hi w w' := by
 have k3 := ((h.alloc (.cells #[.pointer (some ⟨W, 0, none⟩)] 39)).alloc (.cells #[.int .u8 0, .int .u8 0, .int .u8 0, .int .u8 0] 98)).alloc (.cells #[.int .i64 0] 3)
 have c1 := k3.wc.a1
 have z1 := k3.wc.fz 1
 have b3 := ((below_alloc w (.cells #[.pointer (some ⟨W, 0, none⟩)] 39)).alloc (by simp) (.cells #[.int .u8 0, .int .u8 0, .int .u8 0, .int .u8 0] 98)).alloc (by simp; omega) (.cells #[.int .i64 0] 3)
 have AH : Aside (Wk _ lo hi B D b R W c I cf q ∧ Below w.heap.size w _ ∧ hi ≤ w.heap.size) := ⟨k3, b3, h.hs⟩
 clear h k3 b3
 go_enter Tryz.func31, Tryz.ntmps31
 go_wp2_with fail
 first | go_end0 | (refine bodyPost_ret (results_none rfl _ _ _) rfl ?_)
 obtain ⟨k, b3, hs⟩ := AH.out
 have oW := (Only.refl W (((w.alloc (.cells #[.pointer (some ⟨W, 0, none⟩)] 39)).alloc (.cells #[.int .u8 0, .int .u8 0, .int .u8 0, .int .u8 0] 98)).alloc (.cells #[.int .i64 0] 3))).setCell 1 (cl 46 #[ptr (w.heap.size + 1) 0, ptr (w.heap.size + 1 + 1) 0, ptr w.heap.size 0])
 have hW := k.g.hW
 refine ⟨rfl, ⟨_, k.set oW (k.wc.s1 _), fun s h0 hb => Or.inl ⟨h0, w.heap.size + 1, w.heap.size + 1 + 1, w.heap.size, _, rfl, ⟨by omega, (cn1.alloc _).only oW (by omega)⟩, rfl, fun j x hx => by rw [hb] at hx; simp at hx, ⟨by omega, ?_⟩, ⟨hs, ((((Cells.new w _ _).alloc _).alloc _)).only oW (by omega)⟩⟩⟩, (Fz.of_below b3 (Nat.le_refl _)).trans (k.fw oW)⟩
 rw [hb]
 exact cn2.only oW (by omega)
theorem gath_c (P Q A o C : Nat) (F : Fn) (fb fc : Array Value) (fs : List (Nat × Nat)) (hfs : fs ≠ []) (hC : fs.length ≤ C) (hC2 : C ≤ 9223372036854775807) (w : World) (h : Wk w lo hi B D b R W c I cf q) (hl : Fls w hi W P Q A o fs) : Calls Tryz.prog 66 #[.pointer (some ⟨W, 0, none⟩), .func F fb fc, .slice (some ⟨A, o, none⟩) fs.length C] w fun e w' => e = .returned (.tuple #[]) ∧ (∃ v, Wk w' lo hi B D b R W { c with nx := v } I cf q ∧ ∀ s : Zs, s.ph = 2 → s.bs = [] → s.fs = fs → Th w hi W P Q w.heap.size s (.func F fb fc) → Nz w' hi W s v) ∧ Fz lo hi w w' := by
 obtain ⟨n, hn⟩ : ∃ n, fs.length = n := ⟨_, rfl⟩
 have hn0 : n ≠ 0 := by rw [← hn]; simpa using hfs
 have ht : ((n : Int) == 0) = false := by rw [beq_eq_false_iff_ne]; omega
 have hs := h.hs
 rw [hn]
 have k3 := ((((h.alloc (.cells #[.pointer (some ⟨W, 0, none⟩)] 39)).alloc (.cells #[.func F fb fc] 1)).alloc (.cells #[.slice (some ⟨A, o, none⟩) n C] 155)).alloc (.cells #[.int .u64 0] 66)).alloc (.cells #[.int .i64 0] 3)
 have c1 := k3.wc.a1
 have z1 := k3.wc.fz 1
 have b3 := ((((below_alloc w (.cells #[.pointer (some ⟨W, 0, none⟩)] 39)).alloc (by simp) (.cells #[.func F fb fc] 1)).alloc (by simp; omega) (.cells #[.slice (some ⟨A, o, none⟩) n C] 155)).alloc (by simp; omega) (.cells #[.int .u64 0] 66)).alloc (by simp; omega) (.cells #[.int .i64 0] 3)
 have AH : Aside (Wk _ lo hi B D b R W c I cf q ∧ Below w.heap.size w _ ∧ hi ≤ w.heap.size ∧ Fls w hi W P Q A o fs ∧ fs.length = n ∧ fs.length ≤ C ∧ C ≤ 9223372036854775807) := ⟨k3, b3, hs, hl, hn, hC, hC2⟩
 clear h k3 b3 hl hn hC hC2
 go_enter Tryz.func66, Tryz.ntmps66
 go_wp2_with fail
 first | go_end0 | (refine bodyPost_ret (results_none rfl _ _ _) rfl ?_)
 obtain ⟨k, b3, hs, hl, hn, hC, hC2⟩ := AH.out
 obtain ⟨w5, hw5⟩ : ∃ w5, w5 = (((((w.alloc (.cells #[.pointer (some ⟨W, 0, none⟩)] 39)).alloc (.cells #[.func F fb fc] 1)).alloc (.cells #[.slice (some ⟨A, o, none⟩) n C] 155)).alloc (.cells #[.int .u64 0] 66)).alloc (.cells #[.int .i64 0] 3)) := ⟨_, rfl⟩
 have oW := (Only.refl W w5).setCell 1 (cl 94 #[ptr (w.heap.size + 1 + 1 + 1) 0, ptr (w.heap.size + 1 + 1 + 1 + 1) 0, ptr (w.heap.size + 1 + 1) 0, ptr w.heap.size 0, ptr (w.heap.size + 1) 0])
 have hW := k.g.hW
 have q0 : Cells w5 w.heap.size #[.pointer (some ⟨W, 0, none⟩)] 39 := by rw [hw5]; exact ((((Cells.new w _ _).alloc _).alloc _).alloc _).alloc _
 have q1 : Cells w5 (w.heap.size + 1) #[.func F fb fc] 1 := by rw [hw5]; exact ((cn1.alloc _).alloc _).alloc _
 have q2 : Cells w5 (w.heap.size + 1 + 1) #[.slice (some ⟨A, o, none⟩) n C] 155 := by rw [hw5]; exact (cn2.alloc _).alloc _
 have q3 : Cells w5 (w.heap.size + 1 + 1 + 1) #[.int .u64 0] 66 := by rw [hw5]; exact cn3.alloc _
 have q4 : Cells w5 (w.heap.size + 1 + 1 + 1 + 1) #[.int .i64 0] 3 := by rw [hw5]; exact cn4
 rw [← hw5] at k b3 ⊢
 have kz : Kz hi w (w5.setCell ⟨W, 1, none⟩ (cl 94 #[ptr (w.heap.size + 1 + 1 + 1) 0, ptr (w.heap.size + 1 + 1 + 1 + 1) 0, ptr (w.heap.size + 1 + 1) 0, ptr w.heap.size 0, ptr (w.heap.size + 1) 0])) := (Kz.of_below b3 (Nat.le_refl _)).trans b3.size (Kz.of_only oW hW)
 refine ⟨rfl, ⟨_, k.set oW (k.wc.s1 _), fun s h0 hb hf hT => Or.inr (Or.inr (Or.inl ⟨h0, w.heap.size + 1 + 1 + 1, w.heap.size + 1 + 1 + 1 + 1, w.heap.size + 1 + 1, w.heap.size, w.heap.size + 1, P, Q, A, o, C, .func F fb fc, rfl, ⟨by omega, ?_⟩, ⟨by omega, ?_⟩, ⟨by omega, ?_⟩, ⟨hs, q0.only oW (by omega)⟩, ⟨by omega, q1.only oW (by omega)⟩, by rw [hf]; exact hC, hC2, ?_, ?_⟩))⟩, (Fz.of_below b3 (Nat.le_refl _)).trans (k.fw oW)⟩
 ·rw [hb]; exact q3.only oW (by omega)
 ·rw [hb]; exact q4.only oW (by omega)
 ·rw [hf, hn]; exact q2.only oW (by omega)
 ·rw [hf]; exact hl.kz kz
 ·exact (hT.kz kz).mono (by omega)
theorem take_c (m : Nat) (F : Fn) (fb fc : Array Value) (k : Nat) (hm : m ≠ 0) (w : World) (h : Wk w lo hi B D b R W c I cf q) : Calls Tryz.prog 95 #[.pointer (some ⟨W, 0, none⟩), .int .u64 (m : Int), .func F fb fc, t3 W k] w fun e w' => e = .returned (.tuple #[]) ∧ (∃ v, Wk w' lo hi B D b R W { c with nx := v } I cf q ∧ ∀ s : Zs, s.ph = 3 → s.mn = m → s.k = k → ((s.k = 0 ∧ ∃ be pa, (.func F fb fc : Value) = cl 96 #[ptr be 0, ptr pa 0] ∧ Bx w hi be 122 #[ptr W 2] ∧ Bx w hi pa 3 #[.int .i64 (s.nm.length : Int)]) ∨ (s.k ≠ 0 ∧ (.func F fb fc : Value) = .func (.func 139) #[] #[])) → Nz w' hi W s v) ∧ Fz lo hi w w' := by
 have ht : ((m : Int) == 0) = false := by rw [beq_eq_false_iff_ne]; omega
 have hs := h.hs
 obtain ⟨G, gb, hT⟩ : ∃ G gb, t3 W k = .func G gb #[] := by unfold t3; split; exact ⟨_, _, rfl⟩; split; exact ⟨_, _, rfl⟩; exact ⟨_, _, rfl⟩
 rw [hT]
 have k3 := ((h.alloc (.cells #[.int .u64 (m : Int)] 66)).alloc (.cells #[.func F fb fc] 65)).alloc (.cells #[.func G gb #[]] 1)
 have c1 := k3.wc.a1
 have z1 := k3.wc.fz 1
 have b3 := ((below_alloc w (.cells #[.int .u64 (m : Int)] 66)).alloc (by simp) (.cells #[.func F fb fc] 65)).alloc (by simp; omega) (.cells #[.func G gb #[]] 1)
 have AH : Aside (Wk _ lo hi B D b R W c I cf q ∧ Below w.heap.size w _ ∧ hi ≤ w.heap.size ∧ t3 W k = .func G gb #[]) := ⟨k3, b3, hs, hT⟩
 clear h k3 b3 hT
 go_enter Tryz.func95, Tryz.ntmps95
 go_wp2_with fail
 first | go_end0 | (refine bodyPost_ret (results_none rfl _ _ _) rfl ?_)
 obtain ⟨k3, b3, hs, hT⟩ := AH.out
 obtain ⟨w5, hw5⟩ : ∃ w5, w5 = (((w.alloc (.cells #[.int .u64 (m : Int)] 66)).alloc (.cells #[.func F fb fc] 65)).alloc (.cells #[.func G gb #[]] 1)) := ⟨_, rfl⟩
 have oW := (Only.refl W w5).setCell 1 (cl 123 #[ptr (w.heap.size + 1) 0, ptr w.heap.size 0, ptr (w.heap.size + 1 + 1) 0])
 have hW := k3.g.hW
 have q0 : Cells w5 w.heap.size #[.int .u64 (m : Int)] 66 := by rw [hw5]; exact ((Cells.new w _ _).alloc _).alloc _
 have q1 : Cells w5 (w.heap.size + 1) #[.func F fb fc] 65 := by rw [hw5]; exact cn1.alloc _
 have q2 : Cells w5 (w.heap.size + 1 + 1) #[.func G gb #[]] 1 := by rw [hw5]; exact cn2
 rw [← hw5] at k3 b3 ⊢
 have kz : Kz hi w (w5.setCell ⟨W, 1, none⟩ (cl 123 #[ptr (w.heap.size + 1) 0, ptr w.heap.size 0, ptr (w.heap.size + 1 + 1) 0])) := (Kz.of_below b3 (Nat.le_refl _)).trans b3.size (Kz.of_only oW hW)
 refine ⟨rfl, ⟨_, k3.set oW (k3.wc.s1 _), fun s h0 hb hk hU => Or.inr (Or.inr (Or.inr (Or.inl ⟨h0, w.heap.size + 1, w.heap.size, w.heap.size + 1 + 1, .func F fb fc, rfl, ⟨by omega, q1.only oW (by omega)⟩, ⟨hs, ?_⟩, ⟨by omega, ?_⟩, ?_⟩)))⟩, (Fz.of_below b3 (Nat.le_refl _)).trans (k3.fw oW)⟩
 ·rw [hb]; exact q0.only oW (by omega)
 ·rw [hk, hT]; exact q2.only oW (by omega)
 ·rcases hU with ⟨a, be, pa, d, e, f⟩ | hU
  ·exact Or.inl ⟨a, be, pa, d, e.kz kz (by simp [Bq]), f.kz kz (by simp [Bq])⟩
  ·exact Or.inr hU
end
end Go.Proofs.YtpihipbeagpgpaaGreatDoor

/-
 What may stand in the place of an entry: HasPrefix, beginsMagic.
-/
namespace Go.Proofs.YtpihipbeagpgpaaGreatDoor
open Go.RowKit
set_option linter.unusedVariables false
theorem pref_take (b a : List Nat) : b.isPrefixOf a = decide (b.length ≤ a.length ∧ a.take b.length = b) := by
 rw [Bool.eq_iff_iff, List.isPrefixOf_iff_prefix, decide_eq_true_iff]
 constructor
 ·rintro ⟨t, rfl⟩
  exact ⟨by simp, by simp⟩
 ·rintro ⟨h1, h2⟩
  exact ⟨a.drop b.length, by have := List.take_append_drop b.length a; rw [h2] at this; exact this⟩
theorem hp99_c (a b : List Nat) (ha : Oct a) (hb : Oct b) (la : a.length < 1000) (lb : b.length < 1000) (w : World) : Calls Tryz.prog 99 #[.string (st a), .string (st b)] w fun e w' => e = .returned (.bool (b.isPrefixOf a)) ∧ w = w' := by
 have sa := st_size a
 have sb := st_size b
 have hex := st_extract a 0 b.length
 rw [List.drop_zero] at hex
 have heq := st_beq (ha.take b.length) hb
 rw [pref_take]
 obtain ⟨n, hn⟩ : ∃ n, a.length = n := ⟨_, rfl⟩
 obtain ⟨m, hm⟩ : ∃ n, b.length = n := ⟨_, rfl⟩
 obtain ⟨A, hA⟩ : ∃ A, st a = A := ⟨_, rfl⟩
 obtain ⟨Bs, hB⟩ : ∃ A, st b = A := ⟨_, rfl⟩
 rw [hm] at heq hex
 obtain ⟨E, hE⟩ : ∃ E, st (a.take m) = E := ⟨_, rfl⟩
 rw [hE] at hex heq
 rw [hA] at sa hex
 rw [hB] at sb heq
 rw [hn, hm] at *
 rw [hA, hB]
 by_cases hle : m ≤ n
 ·have h1 : (m : Int) ≤ (n : Int) := by omega
  have h2 : decide ((m : Int) ≤ (n : Int)) = true := decide_eq_true h1
  by_cases he : a.take m = b
  ·rw [decide_eq_true he] at heq
   rw [decide_eq_true ⟨hle, he⟩]
   clear ha hb la lb hA hB hn hm hE he
   go_enter Tryz.func99, Tryz.ntmps99
   go_wp2_with fail
   first | go_ret | go_ret2
   exact ⟨rfl, rfl⟩
  ·rw [decide_eq_false he] at heq
   rw [decide_eq_false (fun q => he q.2)]
   clear ha hb la lb hA hB hn hm hE he
   go_enter Tryz.func99, Tryz.ntmps99
   go_wp2_with fail
   first | go_ret | go_ret2
   exact ⟨rfl, rfl⟩
 ·have h1 : ¬ (m : Int) ≤ (n : Int) := by omega
  have h2 : decide ((m : Int) ≤ (n : Int)) = false := decide_eq_false h1
  rw [decide_eq_false (fun q => hle q.1)]
  clear ha hb la lb hA hB hn hm hE hle heq hex
  go_enter Tryz.func99, Tryz.ntmps99
  go_wp2_with fail
  first | go_ret | go_ret2
  exact ⟨rfl, rfl⟩
theorem hp_c (a b : List Nat) (ha : Oct a) (hb : Oct b) (la : a.length < 1000) (lb : b.length < 1000) (w : World) : Calls Tryz.prog 70 #[.string (st a), .string (st b)] w fun e w' => e = .returned (.bool (b.isPrefixOf a)) ∧ w = w' := by
 have k := hp99_c a b ha hb la lb w
 obtain ⟨t, ht⟩ : ∃ t, b.isPrefixOf a = t := ⟨_, rfl⟩
 rw [ht] at k ⊢
 obtain ⟨A, hA⟩ : ∃ A, st a = A := ⟨_, rfl⟩
 obtain ⟨Bs, hB⟩ : ∃ A, st b = A := ⟨_, rfl⟩
 rw [hA, hB] at k ⊢
 clear ha hb la lb ht hA hB
 go_enter Tryz.func70, Tryz.ntmps70
 go_wp2_with (go_at_call 99; refine k.mono ?_; rintro e1 w1 ⟨rfl, rfl⟩)
 first | go_ret | go_ret2
 exact ⟨rfl, rfl⟩
def mags : List (List Nat) := [[80, 75, 1, 2], [80, 75, 5, 6], [80, 75, 6, 6], [80, 75, 6, 7]]
theorem zmag_eq (l : List Nat) : zmag l = (l.isPrefixOf [80, 75, 3, 4] || mags.any fun m => l.isPrefixOf m) := by
 unfold zmag mags
 simp [Bool.or_assoc]
theorem idx129 (A0 A1 A2 A3 : ByteArray) (W : World) : (Instr.index 129 (.agg #[.string A0, .string A1, .string A2, .string A3]) (.int .i64 0)).run Tryz.prog W = .ok (.string A0) W ∧ (Instr.index 129 (.agg #[.string A0, .string A1, .string A2, .string A3]) (.int .i64 1)).run Tryz.prog W = .ok (.string A1) W ∧ (Instr.index 129 (.agg #[.string A0, .string A1, .string A2, .string A3]) (.int .i64 2)).run Tryz.prog W = .ok (.string A2) W ∧ (Instr.index 129 (.agg #[.string A0, .string A1, .string A2, .string A3]) (.int .i64 3)).run Tryz.prog W = .ok (.string A3) W := by
 refine ⟨?_, ?_, ?_, ?_⟩ <;> kernel_rfl
set_option maxRecDepth 20000 in
set_option maxHeartbeats 1000000 in
theorem zbegins_c (l : List Nat) (hl : Oct l) (ll : l.length < 1000) (w : World) (h : Mtab w) : Calls Tryz.prog 48 #[.string (st l)] w fun e w' => e = .returned (.bool (zmag l)) ∧ w = w' := by
 have g0 := h.m0
 have g1 := h.m1
 have g2 := h.m2
 have g3 := h.m3
 have kh : ∀ i m, mags[i]? = some m → Calls Tryz.prog 70 #[.string (st m), .string (st l)] w fun e w' => e = .returned (.bool (l.isPrefixOf m)) ∧ w = w' := fun i m hm => by
  have hlt : i < 4 := (List.getElem?_eq_some_iff.1 hm).1
  refine hp_c m l ?_ hl ?_ ll w
  ·obtain rfl | rfl | rfl | rfl : i = 0 ∨ i = 1 ∨ i = 2 ∨ i = 3 := by omega
   all_goals (simp [mags] at hm; subst hm; intro x hx; simp at hx; omega)
  ·obtain rfl | rfl | rfl | rfl : i = 0 ∨ i = 1 ∨ i = 2 ∨ i = 3 := by omega
   all_goals (simp [mags] at hm; subst hm; decide)
 have kp : Calls Tryz.prog 70 #[.string ⟨#[80, 75, 3, 4]⟩, .string (st l)] w fun e w' => e = .returned (.bool (l.isPrefixOf [80, 75, 3, 4])) ∧ w = w' := hp_c [80, 75, 3, 4] l (by intro x hx; simp at hx; omega) hl (by decide) ll w
 have hz0 := zmag_eq l
 obtain ⟨z, hz⟩ : ∃ z, zmag l = z := ⟨_, rfl⟩
 rw [hz] at hz0 ⊢
 have AE : Aside (z = (l.isPrefixOf [80, 75, 3, 4] || mags.any fun m => l.isPrefixOf m)) := hz0
 clear hz0
 obtain ⟨Ls, hL⟩ : ∃ A, st l = A := ⟨_, rfl⟩
 rw [hL] at kh kp ⊢
 have kk0 := kh 0 [80, 75, 1, 2] rfl
 have kk1 := kh 1 [80, 75, 5, 6] rfl
 have kk2 := kh 2 [80, 75, 6, 6] rfl
 have kk3 := kh 3 [80, 75, 6, 7] rfl
 obtain ⟨M0, hM0⟩ : ∃ M, st [80, 75, 1, 2] = M := ⟨_, rfl⟩
 rw [hM0] at kk0 g0
 clear hM0
 obtain ⟨M1, hM1⟩ : ∃ M, st [80, 75, 5, 6] = M := ⟨_, rfl⟩
 rw [hM1] at kk1 g1
 clear hM1
 obtain ⟨M2, hM2⟩ : ∃ M, st [80, 75, 6, 6] = M := ⟨_, rfl⟩
 rw [hM2] at kk2 g2
 clear hM2
 obtain ⟨M3, hM3⟩ : ∃ M, st [80, 75, 6, 7] = M := ⟨_, rfl⟩
 rw [hM3] at kk3 g3
 clear hM3
 obtain ⟨ix0, ix1, ix2, ix3⟩ := idx129 M0 M1 M2 M3 w
 have AK0 : Aside (Calls Tryz.prog 70 #[.string M0, .string Ls] w fun e w' => e = .returned (.bool (l.isPrefixOf [80, 75, 1, 2])) ∧ w = w') := kk0
 have AK1 : Aside (Calls Tryz.prog 70 #[.string M1, .string Ls] w fun e w' => e = .returned (.bool (l.isPrefixOf [80, 75, 5, 6])) ∧ w = w') := kk1
 have AK2 : Aside (Calls Tryz.prog 70 #[.string M2, .string Ls] w fun e w' => e = .returned (.bool (l.isPrefixOf [80, 75, 6, 6])) ∧ w = w') := kk2
 have AK3 : Aside (Calls Tryz.prog 70 #[.string M3, .string Ls] w fun e w' => e = .returned (.bool (l.isPrefixOf [80, 75, 6, 7])) ∧ w = w') := kk3
 have AKP : Aside (Calls Tryz.prog 70 #[.string ⟨#[80, 75, 3, 4]⟩, .string Ls] w fun e w' => e = .returned (.bool (l.isPrefixOf [80, 75, 3, 4])) ∧ w = w') := kp
 clear h hl ll hz hL kh kp kk0 kk1 kk2 kk3
 go_enter Tryz.func48, Tryz.ntmps48
 go_wp2_with fail
 clear g0 g1 g2 g3
 go_loopg [6] 4 (fun g s6 wr => ∃ i : Nat, s6 = .int .i64 (i : Int) ∧ w = wr ∧ Aside (i + g = 4 ∧ ∀ j m, j < i → mags[j]? = some m → l.isPrefixOf m = false))
 case atStart => exact ⟨0, rfl, rfl, rfl, fun j m hj => absurd hj (Nat.not_lt_zero _)⟩
 case round =>
  obtain ⟨i, rfl, rfl, AR⟩ := hrel
  by_cases hi4 : i < 4
  ·have h4 : i = 0 ∨ i = 1 ∨ i = 2 ∨ i = 3 := by omega
   rcases h4 with rfl | rfl | rfl | rfl
   ·have kk := AK0.out
    clear AK0 AK1 AK2 AK3 AKP
    by_cases hp : l.isPrefixOf [80, 75, 1, 2] = true
    ·have ez : z = true := by rw [AE.out]; simp [mags, hp]
     subst ez
     rw [hp] at kk
     clear AR AE hp
     go_wp2_with (go_at_call 70; refine kk.mono ?_; rintro e1 w1 ⟨rfl, rfl⟩)
     first | go_ret | go_ret2
     exact ⟨rfl, rfl⟩
    ·have hpf : l.isPrefixOf [80, 75, 1, 2] = false := (Bool.not_eq_true _).mp hp
     rw [hpf] at kk
     have A2 : Aside (l.isPrefixOf [80, 75, 1, 2] = false) := hpf
     clear hp hpf
     go_wp2_with (go_at_call 70; refine kk.mono ?_; rintro e1 w1 ⟨rfl, rfl⟩)
     have ar := AR.out
     go_roundg (3)
     case measure => omega
     case rel =>
      refine ⟨1, rfl, rfl, by omega, fun j m hj hm => ?_⟩
      by_cases hjk : j < 0
      ·exact ar.2 j m hjk hm
      ·obtain rfl : j = 0 := by omega
       simp [mags] at hm
       subst hm
       exact A2.out
   ·have kk := AK1.out
    clear AK0 AK1 AK2 AK3 AKP
    by_cases hp : l.isPrefixOf [80, 75, 5, 6] = true
    ·have ez : z = true := by rw [AE.out]; simp [mags, hp]
     subst ez
     rw [hp] at kk
     clear AR AE hp
     go_wp2_with (go_at_call 70; refine kk.mono ?_; rintro e1 w1 ⟨rfl, rfl⟩)
     first | go_ret | go_ret2
     exact ⟨rfl, rfl⟩
    ·have hpf : l.isPrefixOf [80, 75, 5, 6] = false := (Bool.not_eq_true _).mp hp
     rw [hpf] at kk
     have A2 : Aside (l.isPrefixOf [80, 75, 5, 6] = false) := hpf
     clear hp hpf
     go_wp2_with (go_at_call 70; refine kk.mono ?_; rintro e1 w1 ⟨rfl, rfl⟩)
     have ar := AR.out
     go_roundg (2)
     case measure => omega
     case rel =>
      refine ⟨2, rfl, rfl, by omega, fun j m hj hm => ?_⟩
      by_cases hjk : j < 1
      ·exact ar.2 j m hjk hm
      ·obtain rfl : j = 1 := by omega
       simp [mags] at hm
       subst hm
       exact A2.out
   ·have kk := AK2.out
    clear AK0 AK1 AK2 AK3 AKP
    by_cases hp : l.isPrefixOf [80, 75, 6, 6] = true
    ·have ez : z = true := by rw [AE.out]; simp [mags, hp]
     subst ez
     rw [hp] at kk
     clear AR AE hp
     go_wp2_with (go_at_call 70; refine kk.mono ?_; rintro e1 w1 ⟨rfl, rfl⟩)
     first | go_ret | go_ret2
     exact ⟨rfl, rfl⟩
    ·have hpf : l.isPrefixOf [80, 75, 6, 6] = false := (Bool.not_eq_true _).mp hp
     rw [hpf] at kk
     have A2 : Aside (l.isPrefixOf [80, 75, 6, 6] = false) := hpf
     clear hp hpf
     go_wp2_with (go_at_call 70; refine kk.mono ?_; rintro e1 w1 ⟨rfl, rfl⟩)
     have ar := AR.out
     go_roundg (1)
     case measure => omega
     case rel =>
      refine ⟨3, rfl, rfl, by omega, fun j m hj hm => ?_⟩
      by_cases hjk : j < 2
      ·exact ar.2 j m hjk hm
      ·obtain rfl : j = 2 := by omega
       simp [mags] at hm
       subst hm
       exact A2.out
   ·have kk := AK3.out
    clear AK0 AK1 AK2 AK3 AKP
    by_cases hp : l.isPrefixOf [80, 75, 6, 7] = true
    ·have ez : z = true := by rw [AE.out]; simp [mags, hp]
     subst ez
     rw [hp] at kk
     clear AR AE hp
     go_wp2_with (go_at_call 70; refine kk.mono ?_; rintro e1 w1 ⟨rfl, rfl⟩)
     first | go_ret | go_ret2
     exact ⟨rfl, rfl⟩
    ·have hpf : l.isPrefixOf [80, 75, 6, 7] = false := (Bool.not_eq_true _).mp hp
     rw [hpf] at kk
     have A2 : Aside (l.isPrefixOf [80, 75, 6, 7] = false) := hpf
     clear hp hpf
     go_wp2_with (go_at_call 70; refine kk.mono ?_; rintro e1 w1 ⟨rfl, rfl⟩)
     have ar := AR.out
     go_roundg (0)
     case measure => omega
     case rel =>
      refine ⟨4, rfl, rfl, by omega, fun j m hj hm => ?_⟩
      by_cases hjk : j < 3
      ·exact ar.2 j m hjk hm
      ·obtain rfl : j = 3 := by omega
       simp [mags] at hm
       subst hm
       exact A2.out
  ·have ar4 := AR.out.1
   obtain rfl : i = 4 := by omega
   clear ar4
   obtain ⟨t, ht⟩ : ∃ t, l.isPrefixOf [80, 75, 3, 4] = t := ⟨_, rfl⟩
   have hany : mags.any (fun m => l.isPrefixOf m) = false := by
    rw [List.any_eq_false]
    intro m hm
    obtain ⟨j, hj, rfl⟩ := List.mem_iff_getElem.1 hm
    have := AR.out.2 j _ (by simpa [mags] using hj) (List.getElem?_eq_getElem hj)
    rw [this]; decide
   have ez : z = t := by rw [AE.out, hany, ht, Bool.or_false]
   subst ez
   have kp := AKP.out
   rw [ht] at kp
   clear AR AE hi4 ht hany AK0 AK1 AK2 AK3 AKP
   go_wp2_with (go_at_call 70; refine kp.mono ?_; rintro e1 w1 ⟨rfl, rfl⟩)
   first | go_ret | go_ret2
   exact ⟨rfl, rfl⟩
end Go.Proofs.YtpihipbeagpgpaaGreatDoor

/-
 Runs of the walker over many bytes: numbers, names, bytes that are passed over, stored ones. No walk.
-/
namespace Go.Proofs.YtpihipbeagpgpaaGreatDoor
open Go.RowKit
set_option linter.unusedVariables false
section
variable {s s1 : Zs} {t : Nat} {E : List Evn}
theorem mr_one {x : Nat} (h0 : s.why = 0) (h : Sp s x s1 E) : Mr t s [x] s1 (evs t E) := ⟨h0, s1, E, [], h, ⟨rfl, rfl⟩, by rw [List.append_nil]⟩
theorem mr_st {x : Nat} (h0 : s.why = 0) (h5 : s.ph ≠ 5) : Mr t s [x] (zst s x).1 (evs t (zst s x).2) := mr_one h0 (Or.inr ⟨h5, rfl, rfl⟩)
theorem Mr.seq {l m : List Nat} {s2 : Zs} {T : List Gev} (h : Mr t s l s1 []) (k : Mr (t + l.length) s1 m s2 T) : Mr t s (l ++ m) s2 T := (mr_append _ _ _ _ _ _).2 ⟨s1, [], T, h, k, rfl⟩
theorem Mr.seq2 {l m : List Nat} {s2 : Zs} {T U : List Gev} (h : Mr t s l s1 T) (k : Mr (t + l.length) s1 m s2 U) : Mr t s (l ++ m) s2 (T ++ U) := (mr_append _ _ _ _ _ _).2 ⟨s1, T, U, h, k, rfl⟩
end
theorem snoc_ex {l : List Nat} (h : l ≠ []) : ∃ p x, l = p ++ [x] := by
 rcases List.eq_nil_or_concat l with e | ⟨p, x, e⟩
 ·exact absurd e h
 ·exact ⟨p, x, by simpa using e⟩
theorem zst0 {s : Zs} (x : Nat) (h : s.ph = 0) : zst s x = (zpla x s, []) := by
 unfold zst; rw [h]; rfl
theorem zst1 {s : Zs} (x : Nat) (h : s.ph = 1) : zst s x = (s, []) := by
 unfold zst; rw [h]; rfl
theorem zst2 {s : Zs} (x : Nat) (h : s.ph = 2) : zst s x = zgat x s := by
 unfold zst; rw [h]; rfl
theorem zst3 {s : Zs} (x : Nat) (h : s.ph = 3) : zst s x = ztak x s := by
 unfold zst; rw [h]; rfl
theorem zst4 {s : Zs} (x : Nat) (h : s.ph = 4) : zst s x = zsto x s := by
 unfold zst; rw [h]; rfl
theorem zgat_no {s : Zs} {n c : Nat} {r : List (Nat × Nat)} (x : Nat) (h : s.fs = (n, c) :: r) (hn : s.bs.length + 1 ≠ n) : zgat x s = ({ s with bs := s.bs ++ [x] }, []) := by
 unfold zgat
 split
 ·rename_i e; rw [h] at e; cases e
 ·rename_i e
  rw [h] at e
  cases e
  rw [if_neg hn]
theorem zgat_last {s : Zs} {n c : Nat} (x : Nat) (h : s.fs = [(n, c)]) (hn : s.bs.length + 1 = n) : zgat x s = zthen (zset c (lev (s.bs ++ [x])) { s with fs := [], bs := [] }) := by
 unfold zgat
 split
 ·rename_i e; rw [h] at e; cases e
 ·rename_i e
  rw [h] at e
  cases e
  rw [if_pos hn]
theorem zgat_more {s : Zs} {n c : Nat} {r : List (Nat × Nat)} (x : Nat) (h : s.fs = (n, c) :: r) (hr : r ≠ []) (hn : s.bs.length + 1 = n) : zgat x s = (zset c (lev (s.bs ++ [x])) { s with fs := r, bs := [] }, []) := by
 unfold zgat
 split
 ·rename_i e; rw [h] at e; cases e
 ·rename_i e
  rw [h] at e
  cases e
  rw [if_pos hn]
  cases r with
  | nil => exact absurd rfl hr
  | cons a r => rfl
theorem gat_part : ∀ (l : List Nat) (t n c : Nat) (r : List (Nat × Nat)) (s : Zs), s.why = 0 → s.ph = 2 → s.fs = (n, c) :: r → s.bs.length + l.length < n → Mr t s l { s with bs := s.bs ++ l } []
 | [], t, n, c, r, s, h0, hp, hf, hl => ⟨by rw [List.append_nil], rfl⟩
 | x :: l, t, n, c, r, s, h0, hp, hf, hl => by
  rw [List.length_cons] at hl
  have e : zst s x = ({ s with bs := s.bs ++ [x] }, []) := (zst2 x hp).trans (zgat_no x hf (by omega))
  have h1 := mr_st (t := t) (x := x) h0 (by rw [hp]; decide)
  rw [e] at h1
  have ih := gat_part l (t + 1) n c r { s with bs := s.bs ++ [x] } h0 hp hf (by show (s.bs ++ [x]).length + l.length < n; rw [List.length_append, List.length_singleton]; omega)
  have := h1.seq2 ih
  simpa [evs] using this
theorem gat_one {l : List Nat} {t n c : Nat} {r : List (Nat × Nat)} {s : Zs} (h0 : s.why = 0) (hp : s.ph = 2) (hf : s.fs = (n, c) :: r) (hb : s.bs = []) (hn : 1 ≤ n) (hl : l.length = n) :
  (r = [] → Mr t s l (zthen (zset c (lev l) { s with fs := [], bs := [] })).1 (evs (t + (n - 1)) (zthen (zset c (lev l) { s with fs := [], bs := [] })).2)) ∧ (r ≠ [] → Mr t s l (zset c (lev l) { s with fs := r, bs := [] }) []) := by
 have hne : l ≠ [] := fun e => by rw [e] at hl; simp at hl; omega
 obtain ⟨p, x, rfl⟩ : ∃ p x, l = p ++ [x] := snoc_ex hne
 rw [List.length_append, List.length_singleton] at hl
 have h1 := gat_part p t n c r s h0 hp hf (by rw [hb]; simp; omega)
 rw [hb, List.nil_append] at h1
 have h2 := mr_st (s := { s with bs := p }) (t := t + p.length) (x := x) h0 (by rw [hp]; decide)
 have hn2 : p.length + 1 = n := by omega
 rw [zst2 (s := { s with bs := p }) x hp] at h2
 have et : t + p.length = t + (n - 1) := by omega
 constructor
 ·rintro rfl
  rw [zgat_last (s := { s with bs := p }) x hf hn2] at h2
  have hk := h1.seq h2
  rw [et] at hk
  exact hk
 ·intro hr
  rw [zgat_more (s := { s with bs := p }) x hf hr hn2] at h2
  exact h1.seq h2
def tot : List (Nat × Nat) → Nat
 | [] => 0
 | a :: r => a.1 + tot r
def zfill : List (Nat × Nat) → List Nat → Zs → Zs
 | [], _, s => s
 | (n, c) :: r, l, s => zfill r (l.drop n) (zset c (lev (l.take n)) { s with fs := r, bs := [] })
theorem zset_keep (c v : Nat) (s : Zs) : (zset c v s).why = s.why ∧ (zset c v s).ph = s.ph ∧ (zset c v s).fs = s.fs ∧ (zset c v s).bs = s.bs ∧ (zset c v s).k = s.k := by
 unfold zset; split <;> exact ⟨rfl, rfl, rfl, rfl, rfl⟩
theorem gat_all : ∀ (fs : List (Nat × Nat)) (l : List Nat) (t : Nat) (s : Zs), s.why = 0 → s.ph = 2 → s.fs = fs → s.bs = [] → fs ≠ [] → (∀ a ∈ fs, 1 ≤ a.1) → l.length = tot fs → Mr t s l (zthen (zfill fs l s)).1 (evs (t + (tot fs - 1)) (zthen (zfill fs l s)).2)
 | [], l, t, s, _, _, _, _, hne, _, _ => absurd rfl hne
 | (n, c) :: [], l, t, s, h0, hp, hf, hb, _, hn, hl => by
  have hl' : l.length = n := by simpa [tot] using hl
  have h1 := (gat_one (t := t) h0 hp hf hb (hn (n, c) (List.mem_cons_self ..)) hl').1 rfl
  have e : zfill [(n, c)] l s = zset c (lev l) { s with fs := [], bs := [] } := by
   show zset c (lev (l.take n)) { s with fs := [], bs := [] } = _
   rw [← hl', List.take_length]
  rw [e]
  simpa [tot] using h1
 | (n, c) :: a :: r, l, t, s, h0, hp, hf, hb, _, hn, hl => by
  have hn1 := hn (n, c) (List.mem_cons_self ..)
  have hl2 : l.length = n + tot (a :: r) := hl
  have h1 := (gat_one (l := l.take n) (t := t) h0 hp hf hb hn1 (by rw [List.length_take]; omega)).2 (by simp)
  obtain ⟨k1, k2, k3, k4, k5⟩ := zset_keep c (lev (l.take n)) { s with fs := a :: r, bs := [] }
  have ih := gat_all (a :: r) (l.drop n) (t + (l.take n).length) (zset c (lev (l.take n)) { s with fs := a :: r, bs := [] }) (k1.trans h0) (k2.trans hp) k3 k4 (by simp) (fun b hb => hn b (List.mem_cons_of_mem _ hb)) (by rw [List.length_drop]; omega)
  have h2 := h1.seq ih
  rw [List.take_append_drop] at h2
  have ha := hn a (by simp)
  have et : t + (l.take n).length + (tot (a :: r) - 1) = t + (tot ((n, c) :: a :: r) - 1) := by
   rw [List.length_take]
   show _ = t + (n + tot (a :: r) - 1)
   have : 1 ≤ tot (a :: r) := by show 1 ≤ a.1 + _; omega
   omega
  rw [et] at h2
  exact h2
theorem tak_part : ∀ (l : List Nat) (t : Nat) (s : Zs), s.why = 0 → s.ph = 3 → l.length < s.mn → Mr t s l { s with nm := if s.k = 0 then s.nm ++ l else s.nm, mn := s.mn - l.length } []
 | [], t, s, h0, hp, hl => ⟨by
   have e : (if s.k = 0 then s.nm ++ [] else s.nm) = s.nm := by split <;> simp
   rw [e]
   rfl, rfl⟩
 | x :: l, t, s, h0, hp, hl => by
  rw [List.length_cons] at hl
  have e : zst s x = (zbyt x s, []) := by
   rw [zst3 x hp]
   unfold ztak
   rw [if_neg (by omega)]
  have h1 := mr_st (t := t) (x := x) h0 (by rw [hp]; decide)
  rw [e] at h1
  have ih := tak_part l (t + 1) (zbyt x s) h0 hp (by show l.length < s.mn - 1; omega)
  have h2 := h1.seq2 ih
  have e2 : ({ zbyt x s with nm := if (zbyt x s).k = 0 then (zbyt x s).nm ++ l else (zbyt x s).nm, mn := (zbyt x s).mn - l.length } : Zs) = { s with nm := if s.k = 0 then s.nm ++ (x :: l) else s.nm, mn := s.mn - (x :: l).length } := by
   unfold zbyt
   by_cases hk : s.k = 0
   ·simp only [if_pos hk, List.append_assoc, List.singleton_append, List.length_cons, show s.mn - 1 - l.length = s.mn - (l.length + 1) by omega]
   ·simp only [if_neg hk, List.length_cons, show s.mn - 1 - l.length = s.mn - (l.length + 1) by omega]
  rw [e2] at h2
  simpa [evs] using h2
theorem tak_all {l : List Nat} {t : Nat} {s : Zs} (h0 : s.why = 0) (hp : s.ph = 3) (h1 : 1 ≤ s.mn) (hl : l.length = s.mn) : Mr t s l (zthn { s with nm := if s.k = 0 then s.nm ++ l else s.nm, mn := 0 }).1 (evs (t + (s.mn - 1)) (zthn { s with nm := if s.k = 0 then s.nm ++ l else s.nm, mn := 0 }).2) := by
 have hne : l ≠ [] := fun e => by rw [e] at hl; simp at hl; omega
 obtain ⟨p, x, rfl⟩ : ∃ p x, l = p ++ [x] := snoc_ex hne
 rw [List.length_append, List.length_singleton] at hl
 have k1 := tak_part p t s h0 hp (by omega)
 obtain ⟨s1, hs1⟩ : ∃ s1, s1 = ({ s with nm := if s.k = 0 then s.nm ++ p else s.nm, mn := s.mn - p.length } : Zs) := ⟨_, rfl⟩
 rw [← hs1] at k1
 have hm1 : s1.mn = 1 := by rw [hs1]; show s.mn - p.length = 1; omega
 have hp1 : s1.ph = 3 := by rw [hs1]; exact hp
 have h01 : s1.why = 0 := by rw [hs1]; exact h0
 have e : zst s1 x = zthn (zbyt x s1) := by
  rw [zst3 x hp1]
  unfold ztak
  rw [if_pos hm1]
 have k2 := mr_st (t := t + p.length) (x := x) h01 (by rw [hp1]; decide)
 rw [e] at k2
 have e2 : zbyt x s1 = { s with nm := if s.k = 0 then s.nm ++ (p ++ [x]) else s.nm, mn := 0 } := by
  rw [hs1]
  unfold zbyt
  have hz : s.mn - p.length - 1 = 0 := by omega
  by_cases hk : s.k = 0
  ·simp only [if_pos hk, List.append_assoc, hz]
  ·simp only [if_neg hk, hz]
 rw [e2] at k2
 have := k1.seq k2
 rwa [show t + p.length = t + (s.mn - 1) by omega] at this
def zgvs (l : List Nat) (s : Zs) : Zs := { s with tk := s.tk + l.length, gv := s.gv + l.length, sg := sm s.sg l }
def byts (t : Nat) : List Nat → List Gev
 | [] => []
 | x :: l => (t, x, []) :: byts (t + 1) l
theorem byts_append : ∀ (l m : List Nat) (t : Nat), byts t (l ++ m) = byts t l ++ byts (t + l.length) m
 | [], m, t => rfl
 | x :: l, m, t => by
  show (t, x, []) :: byts (t + 1) (l ++ m) = (t, x, []) :: (byts (t + 1) l ++ _)
  rw [byts_append l m (t + 1), List.length_cons, show t + (l.length + 1) = t + 1 + l.length by omega]
theorem zgvs_cons (x : Nat) (l : List Nat) (s : Zs) : zgvs l (zgiv x s) = zgvs (x :: l) s := by
 unfold zgvs zgiv
 simp only [List.length_cons, show s.tk + 1 + l.length = s.tk + (l.length + 1) by omega, show s.gv + 1 + l.length = s.gv + (l.length + 1) by omega]
 rfl
theorem sto_part : ∀ (l : List Nat) (t : Nat) (s : Zs), s.why = 0 → s.ph = 4 → s.tk + l.length < s.pk → Mr t s l (zgvs l s) (byts t l)
 | [], t, s, h0, hp, hl => ⟨rfl, rfl⟩
 | x :: l, t, s, h0, hp, hl => by
  rw [List.length_cons] at hl
  have e : zst s x = (zgiv x s, [(x, [])]) := by
   rw [zst4 x hp]
   unfold zsto zsen
   rw [if_neg (by show ¬ s.tk + 1 = s.pk; omega)]
  have h1 := mr_st (t := t) (x := x) h0 (by rw [hp]; decide)
  rw [e] at h1
  have ih := sto_part l (t + 1) (zgiv x s) h0 hp (by show s.tk + 1 + l.length < s.pk; omega)
  have h2 := h1.seq2 ih
  rw [zgvs_cons] at h2
  exact h2
theorem sto_all {l : List Nat} {t : Nat} {s : Zs} (h0 : s.why = 0) (hp : s.ph = 4) (hne : l ≠ []) (hl : s.tk + l.length = s.pk) : Mr t s l (zend (zgvs l s)).1 (byts t l ++ evs (t + (l.length - 1)) (zend (zgvs l s)).2) := by
 obtain ⟨p, x, rfl⟩ : ∃ p x, l = p ++ [x] := snoc_ex hne
 rw [List.length_append, List.length_singleton] at hl
 have k1 := sto_part p t s h0 hp (by omega)
 have h01 : (zgvs p s).why = 0 := h0
 have hp1 : (zgvs p s).ph = 4 := hp
 have k2 := mr_st (t := t + p.length) (x := x) h01 (by rw [hp1]; decide)
 have e3 : zgiv x (zgvs p s) = zgvs (p ++ [x]) s := by
  unfold zgvs zgiv
  simp only [List.length_append, List.length_singleton, show s.tk + p.length + 1 = s.tk + (p.length + 1) by omega, show s.gv + p.length + 1 = s.gv + (p.length + 1) by omega, sm_append]
  rfl
 have e : zst (zgvs p s) x = ((zend (zgvs (p ++ [x]) s)).1, (x, []) :: (zend (zgvs (p ++ [x]) s)).2) := by
  rw [zst4 x hp1]
  unfold zsto zsen
  rw [e3, if_pos (by show s.tk + (p ++ [x]).length = s.pk; rw [List.length_append, List.length_singleton]; omega)]
 rw [e] at k2
 have k3 := k1.seq2 k2
 rw [byts_append, List.length_append, List.length_singleton, Nat.add_sub_cancel, List.append_assoc]
 exact k3
end Go.Proofs.YtpihipbeagpgpaaGreatDoor

/-
 The walker's end of an entry, and a byte that is given; how it stands with an event that is told next.
-/
namespace Go.Proofs.YtpihipbeagpgpaaGreatDoor
open Go.RowKit
set_option linter.unusedVariables false
section
variable (w : World) (lo hi B D b R W : Nat)
def Wz (s : Zs) (E : List Evn) : Prop :=
 (E = [] ∧ ∃ v td I cf q, Wk w lo hi B D b R W (zc s v td none) I cf q ∧ (s.why = 0 → Nz w hi W s v) ∧ ((s.ph = 4 ∨ s.ph = 5) → s.why = 0 → td = (if s.ph = 4 then bm 148 W else bm 151 W) ∧ (s.ph = 5 → I = s.ip ∧ q = .want ∧ cf.out = s.y.out))) ∨
 (∃ s1 v I cf q, (s, E) = zopen s1 ∧ s1.why = 0 ∧ s1.ph ≠ 1 ∧ (s1.sg = 0 ∧ s1.gv = 0 ∧ s1.fl < 18446744073709551616) ∧ Wk w lo hi B D b R W (zc s1 v (bm 142 W) (some (256, s1.nm))) I cf q) ∨
 (∃ s1 v I cf q, E = [(257, [])] ∧ s = zplace s1 ∧ s1.why = 0 ∧ s1.ph ≠ 1 ∧ Wk w lo hi B D b R W (zc s1 v (bm 31 W) (some (257, []))) I cf q) ∨
 (∃ s1 x I cf q, E = (x, []) :: (zsen s1).2 ∧ s = (zsen s1).1 ∧ x < 256 ∧ s1.why = 0 ∧ s1.ph = 4 ∧ s1.sg < 4294967296 ∧ Wk w lo hi B D b R W (zc s1 (bm 147 W) (bm 148 W) (some (x, []))) I cf q) ∨
 (∃ s1 x rest o cf q, E = (x, []) :: (rest.map (fun b => (b, []))) ++ (zask s1).2 ∧ s = (zask s1).1 ∧ s1.why = 0 ∧ (s1.ph = 5 ∧ s1.fl < 18446744073709551616) ∧ s1.y.out = o ++ x :: rest ∧ Stands s1.ip MM s1.y ∧ s1.sg = sm 0 s1.y.out ∧ s1.gv = s1.y.out.length ∧ Wk w lo hi B D b R W (zc { s1 with sg := sm 0 (o ++ [x]), gv := (o ++ [x]).length } (bm 150 W) (bm 151 W) (some (x, []))) s1.ip cf q ∧ Pd (o ++ [x]) cf q)
end
section
variable {lo hi B D b R W : Nat} {I : List Nat} {cf : Cfg} {q : Md} {c : Zc} {s : Zs} {v td : Value}
theorem zend_eq (s : Zs) : zend s = if s.tk = s.pk ∧ s.gv = s.sz then (if s.su = s.sg then (zplace s, [(257, [])]) else (zbad 44 s, [])) else (zbad 45 s, []) := rfl
set_option maxHeartbeats 1000000 in
theorem end_c (w : World) (h : Wk w lo hi B D b R W (zc s v td none) I cf q) (h0 : s.why = 0) (hp : s.ph ≠ 1) (hsg : s.sg < 4294967296) : Calls Tryz.prog 154 #[.pointer (some ⟨W, 0, none⟩)] w fun e w' => e = .returned (.tuple #[]) ∧ Wz w' lo hi B D b R W (zend s).1 (zend s).2 ∧ Fz lo hi w w' := by
 have d4 : w.cell? ⟨W, 4, none⟩ = some (.int .u64 (s.su : Int)) := h.wc.a4
 have d5 : w.cell? ⟨W, 5, none⟩ = some (.int .u64 (s.pk : Int)) := h.wc.a5
 have d6 : w.cell? ⟨W, 6, none⟩ = some (.int .u64 (s.sz : Int)) := h.wc.a6
 have d266 : w.cell? ⟨W, 266, none⟩ = some (.int .u64 (s.tk : Int)) := h.wc.a266
 have d267 : w.cell? ⟨W, 267, none⟩ = some (.int .u64 (s.gv : Int)) := h.wc.a267
 have d268 : w.cell? ⟨W, 268, none⟩ = some (.int .u32 (s.sg : Int)) := h.wc.a268
 have c269 := h.wc.a269
 have c270 := h.wc.a270
 have c271 := h.wc.a271
 have c272 := h.wc.a272
 have c273 := h.wc.a273
 have c274 := h.wc.a274
 have c277 := h.wc.a277
 have z269 := h.wc.fz 269
 have z270 := h.wc.fz 270
 have z271 := h.wc.fz 271
 have z272 := h.wc.fz 272
 have z273 := h.wc.fz 273
 have z274 := h.wc.fz 274
 have z277 := h.wc.fz 277
 have AH : Aside (Wk w lo hi B D b R W (zc s v td none) I cf q ∧ s.why = 0 ∧ s.ph ≠ 1) := ⟨h, h0, hp⟩
 obtain ⟨su, hsu⟩ : ∃ n, s.su = n := ⟨_, rfl⟩
 obtain ⟨pk, hpk⟩ : ∃ n, s.pk = n := ⟨_, rfl⟩
 obtain ⟨sz, hsz⟩ : ∃ n, s.sz = n := ⟨_, rfl⟩
 obtain ⟨tk, htk⟩ : ∃ n, s.tk = n := ⟨_, rfl⟩
 obtain ⟨gv, hgv⟩ : ∃ n, s.gv = n := ⟨_, rfl⟩
 obtain ⟨sg, hsg2⟩ : ∃ n, s.sg = n := ⟨_, rfl⟩
 rw [hsu] at d4
 rw [hpk] at d5
 rw [hsz] at d6
 rw [htk] at d266
 rw [hgv] at d267
 rw [hsg2] at d268 hsg
 have ez : zend s = if tk = pk ∧ gv = sz then (if su = sg then (zplace s, [(257, [])]) else (zbad 44 s, [])) else (zbad 45 s, []) := by rw [zend_eq, htk, hpk, hgv, hsz, hsu, hsg2]
 have EZ : Aside (zend s = if tk = pk ∧ gv = sz then (if su = sg then (zplace s, [(257, [])]) else (zbad 44 s, [])) else (zbad 45 s, [])) := ez
 have hmod : (sg : Int) % 18446744073709551616 = sg := by omega
 clear h h0 hp ez hsu hpk hsz htk hgv hsg2
 by_cases h1 : tk = pk
 ·subst h1
  by_cases h2 : gv = sz
  ·subst h2
   by_cases h3 : su = sg
   ·subst h3
    have EZ1 : Aside (zend s = (zplace s, [(257, [])])) := by have e := EZ.out; rw [if_pos ⟨rfl, rfl⟩, if_pos rfl] at e; exact e
    clear EZ
    go_enter Tryz.func154, Tryz.ntmps154
    go_wp2_with fail
    go_quiet (fail)
    go_wp2_with fail
    go_quiet (fail)
    go_wp2_with fail
    first | go_end0 | (refine bodyPost_ret (results_none rfl _ _ _) rfl ?_)
    obtain ⟨h, h0, hp⟩ := AH.out
    have ez := EZ1.out
    rw [ez]
    exact ⟨rfl, Or.inr (Or.inr (Or.inl ⟨s, v, I, cf, q, rfl, rfl, h0, hp, (h.drewN _).set ((only5 W _ _ _ _ _ _).setCell 274 _) (((h.drewN _).wc.sev (some (257, []))).s274 (bm 31 W))⟩)), (Fz.drewN w _).trans ((h.drewN _).fw ((only5 W _ _ _ _ _ _).setCell 274 _))⟩
   ·have t3 : ((su : Int) == (sg : Int)) = false := by rw [beq_eq_false_iff_ne]; omega
    have t3b : ¬ ((su : Int) = (sg : Int)) := by omega
    have EZ1 : Aside (zend s = (zbad 44 s, [])) := by have e := EZ.out; rw [if_pos ⟨rfl, rfl⟩, if_neg h3] at e; exact e
    clear EZ
    go_enter Tryz.func154, Tryz.ntmps154
    go_wp2_with fail
    go_quiet (fail)
    go_wp2_with fail
    go_quiet (fail)
    go_wp2_with fail
    first | go_end0 | (refine bodyPost_ret (results_none rfl _ _ _) rfl ?_)
    obtain ⟨h, h0, hp⟩ := AH.out
    have ez := EZ1.out
    rw [ez]
    exact ⟨rfl, Or.inl ⟨rfl, v, td, I, cf, q, (h.drewN _).set ((Only.refl W _).setCell 277 _) ((h.drewN _).wc.s277 44), fun e => absurd e (by show ¬ (44 : Nat) = 0; decide), fun _ e => absurd e (by show ¬ (44 : Nat) = 0; decide)⟩, (Fz.drewN w _).trans ((h.drewN _).fw ((Only.refl W _).setCell 277 _))⟩
  ·have t2 : ((gv : Int) == (sz : Int)) = false := by rw [beq_eq_false_iff_ne]; omega
   have t2b : ¬ ((gv : Int) = (sz : Int)) := by omega
   have EZ1 : Aside (zend s = (zbad 45 s, [])) := by have e := EZ.out; rw [if_neg (fun e => h2 e.2)] at e; exact e
   clear EZ
   go_enter Tryz.func154, Tryz.ntmps154
   go_wp2_with fail
   go_quiet (fail)
   go_wp2_with fail
   first | go_end0 | (refine bodyPost_ret (results_none rfl _ _ _) rfl ?_)
   obtain ⟨h, h0, hp⟩ := AH.out
   have ez := EZ1.out
   rw [ez]
   exact ⟨rfl, Or.inl ⟨rfl, v, td, I, cf, q, (h.drewN _).set ((Only.refl W _).setCell 277 _) ((h.drewN _).wc.s277 45), fun e => absurd e (by show ¬ (45 : Nat) = 0; decide), fun _ e => absurd e (by show ¬ (45 : Nat) = 0; decide)⟩, (Fz.drewN w _).trans ((h.drewN _).fw ((Only.refl W _).setCell 277 _))⟩
 ·have t1 : ((tk : Int) == (pk : Int)) = false := by rw [beq_eq_false_iff_ne]; omega
  have t1b : ¬ ((tk : Int) = (pk : Int)) := by omega
  have EZ1 : Aside (zend s = (zbad 45 s, [])) := by have e := EZ.out; rw [if_neg (fun e => h1 e.1)] at e; exact e
  clear EZ
  go_enter Tryz.func154, Tryz.ntmps154
  go_wp2_with fail
  go_quiet (fail)
  go_wp2_with fail
  first | go_end0 | (refine bodyPost_ret (results_none rfl _ _ _) rfl ?_)
  obtain ⟨h, h0, hp⟩ := AH.out
  have ez := EZ1.out
  rw [ez]
  exact ⟨rfl, Or.inl ⟨rfl, v, td, I, cf, q, (h.drewN _).set ((Only.refl W _).setCell 277 _) ((h.drewN _).wc.s277 45), fun e => absurd e (by show ¬ (45 : Nat) = 0; decide), fun _ e => absurd e (by show ¬ (45 : Nat) = 0; decide)⟩, (Fz.drewN w _).trans ((h.drewN _).fw ((Only.refl W _).setCell 277 _))⟩
theorem give_c (x : Nat) (hx : x < 256) (w : World) (h : Wk w lo hi B D b R W c I cf q) (hev : c.ev = none) (hsg : c.sg < 4294967296) (hgv : c.gv < 18446744073709551615) : Calls Tryz.prog 153 #[.pointer (some ⟨W, 0, none⟩), .int .u8 (x : Int)] w fun e w' => e = .returned (.tuple #[]) ∧ Wk w' lo hi B D b R W { c with gv := c.gv + 1, sg := stp c.sg x, ev := some (x, []) } I cf q ∧ Fz lo hi w w' := by
 have ks := step_c c.sg x hsg hx
 have d267 := h.wc.a267
 have d268 := h.wc.a268
 have z267 := h.wc.fz 267
 have z268 := h.wc.fz 268
 have c269 := h.wc.a269
 have c270 := h.wc.a270
 have c271 := h.wc.a271
 have c272 := h.wc.a272
 have c273 := h.wc.a273
 have z269 := h.wc.fz 269
 have z270 := h.wc.fz 270
 have z271 := h.wc.fz 271
 have z272 := h.wc.fz 272
 have z273 := h.wc.fz 273
 have h1 := h.set ((Only.refl W w).setCell 267 _) (h.wc.s267 (c.gv + 1))
 have kt := ks _ h1.tab
 have e1 : ((c.gv + 1 : Nat) : Int) = (c.gv : Int) + 1 := by omega
 rw [e1] at kt
 have hmod : ((c.gv : Int) + 1) % 18446744073709551616 = (c.gv : Int) + 1 := by omega
 have AH : Aside (Wk w lo hi B D b R W c I cf q ∧ x < 256 ∧ ((c.gv + 1 : Nat) : Int) = (c.gv : Int) + 1) := ⟨h, hx, e1⟩
 obtain ⟨gv, hgv2⟩ : ∃ n, c.gv = n := ⟨_, rfl⟩
 obtain ⟨sg, hsg2⟩ : ∃ n, c.sg = n := ⟨_, rfl⟩
 obtain ⟨sg2, hsg3⟩ : ∃ n, stp c.sg x = n := ⟨_, rfl⟩
 rw [hsg3] at kt
 rw [hgv2] at d267 hmod kt
 rw [hsg2] at d268 kt
 have AG : Aside (c.gv = gv ∧ stp c.sg x = sg2) := ⟨hgv2, hsg3⟩
 clear h ks h1 hev hsg hgv hgv2 hsg2 hsg3 e1 hx
 go_enter Tryz.func153, Tryz.ntmps153
 go_wp2_with (go_at_call 163; refine kt.mono ?_; rintro e4 w4 ⟨rfl, rfl⟩)
 first | go_end0 | (refine bodyPost_ret (results_none rfl _ _ _) rfl ?_)
 obtain ⟨h, hx, e1⟩ := AH.out
 obtain ⟨eg, es⟩ := AG.out
 have e0 : gk1 x = 2 := by unfold gk1; rw [if_neg (by omega), if_neg (by omega)]
 have e1' : gk2 x = (x : Int) := by unfold gk2; rw [if_pos hx]
 have e2 : gk3 x = 0 := by unfold gk3; rw [if_neg (by omega)]
 have hc := ((h.wc.s267 (c.gv + 1)).s268 (stp c.sg x)).sev (some (x, []))
 have q0 : ev0 (some (x, [])) = 2 := e0
 have q1 : ev1 (some (x, [])) = (x : Int) := e1'
 have q2 : ev2 (some (x, [])) = 0 := e2
 rw [q0, q1, q2, e1] at hc
 subst eg es
 have o7 := (((((((Only.refl W w).setCell 267 (.int .u64 ((c.gv : Int) + 1))).setCell 268 (.int .u32 ((stp c.sg x : Nat) : Int))).setCell 269 (.int .i64 2)).setCell 270 (.int .u8 (x : Int))).setCell 271 (.int .i64 0)).setCell 272 (.int .i64 0)).setCell 273 (.string ⟨#[]⟩)
 exact ⟨rfl, h.set o7 hc, h.fw o7⟩
end
end Go.Proofs.YtpihipbeagpgpaaGreatDoor

/-
 What the flags say; the bytes that are passed over; an entry's body.
-/
namespace Go.Proofs.YtpihipbeagpgpaaGreatDoor
open Go.RowKit
set_option linter.unusedVariables false
theorem and8f : ∀ r : _root_.Fin 16, r.val &&& 8 = if r.val / 8 % 2 = 1 then 8 else 0 := by decide
theorem and8 (f : Nat) (hf : f < 18446744073709551616) : bits .and .u64 (f : Int) 8 = if f / 8 % 2 = 1 then 8 else 0 := by
 have e : f &&& 8 = (f % 16) &&& 8 := by
  rw [show f % 16 = f &&& 15 from (Nat.and_two_pow_sub_one_eq_mod f 4).symm, Nat.and_assoc]
  rfl
 rw [show (8 : Int) = ((8 : Nat) : Int) from rfl, u64_and_nat f 8 hf (by decide), e, and8f ⟨f % 16, Nat.mod_lt _ (by decide)⟩]
 show ((if f % 16 / 8 % 2 = 1 then 8 else 0 : Nat) : Int) = _
 rw [show f % 16 / 8 % 2 = f / 8 % 2 by omega]
 split <;> rfl
theorem and1 (f : Nat) (hf : f < 18446744073709551616) : bits .and .u64 (f : Int) 1 = if f % 2 = 1 then 1 else 0 := by
 rw [show (1 : Int) = ((1 : Nat) : Int) from rfl, u64_and_nat f 1 hf (by decide), Nat.and_one_is_mod]
 split <;> omega
section
variable {lo hi B D b R W : Nat} {I : List Nat} {cf : Cfg} {q : Md} {c : Zc} {s : Zs} {v td : Value}
theorem sizes_c (f : Nat) (w : World) (h : w.cell? ⟨W, 2, none⟩ = some (.int .u64 (f : Int))) (hf : f < 18446744073709551616) : Calls Tryz.prog 140 #[.pointer (some ⟨W, 2, none⟩)] w fun e w' => e = .returned (.bool (decide (f / 8 % 2 = 1))) ∧ w = w' := by
 have h8 := and8 f hf
 by_cases h1 : f / 8 % 2 = 1
 ·rw [if_pos h1] at h8
  rw [decide_eq_true h1]
  clear h1 hf
  go_enter Tryz.func140, Tryz.ntmps140
  go_wp2_with fail
  first | go_ret | go_ret2
  exact ⟨rfl, rfl⟩
 ·rw [if_neg h1] at h8
  rw [decide_eq_false h1]
  clear h1 hf
  go_enter Tryz.func140, Tryz.ntmps140
  go_wp2_with fail
  first | go_ret | go_ret2
  exact ⟨rfl, rfl⟩
theorem unread_c (f m : Nat) (w : World) (h : w.cell? ⟨W, 2, none⟩ = some (.int .u64 (f : Int))) (h3 : w.cell? ⟨W, 3, none⟩ = some (.int .u64 (m : Int))) (hf : f < 18446744073709551616) : Calls Tryz.prog 141 #[.pointer (some ⟨W, 2, none⟩)] w fun e w' => e = .returned (.bool (decide (f % 2 = 1 ∨ (m ≠ 0 ∧ m ≠ 8)))) ∧ w = w' := by
 have h1 := and1 f hf
 by_cases hq : f % 2 = 1
 ·rw [if_pos hq] at h1
  rw [decide_eq_true (Or.inl hq)]
  clear hq hf
  go_enter Tryz.func141, Tryz.ntmps141
  go_wp2_with fail
  first | go_ret | go_ret2
  exact ⟨rfl, rfl⟩
 ·rw [if_neg hq] at h1
  by_cases h0 : m = 0
  ·subst h0
   rw [decide_eq_false (by rintro (e | ⟨e, _⟩); exact hq e; exact e rfl)]
   clear hq hf
   go_enter Tryz.func141, Tryz.ntmps141
   go_wp2_with fail
   first | go_ret | go_ret2
   exact ⟨rfl, rfl⟩
  ·by_cases h8 : m = 8
   ·subst h8
    rw [decide_eq_false (by rintro (e | ⟨_, e⟩); exact hq e; exact e rfl)]
    clear hq hf
    go_enter Tryz.func141, Tryz.ntmps141
    go_wp2_with fail
    first | go_ret | go_ret2
    exact ⟨rfl, rfl⟩
   ·rw [decide_eq_true (Or.inr ⟨h0, h8⟩)]
    have t0 : ((m : Int) != 0) = true := by rw [bne_iff_ne]; omega
    have t8 : ((m : Int) != 8) = true := by rw [bne_iff_ne]; omega
    clear hq hf h0 h8
    go_enter Tryz.func141, Tryz.ntmps141
    go_wp2_with fail
    first | go_ret | go_ret2
    exact ⟨rfl, rfl⟩
theorem pass_c (m k : Nat) (hm : m ≠ 0) (hk : k ≠ 0) (w : World) (h : Wk w lo hi B D b R W c I cf q) : Calls Tryz.prog 124 #[.pointer (some ⟨W, 0, none⟩), .int .u64 (m : Int), t3 W k] w fun e w' => e = .returned (.tuple #[]) ∧ (∃ v, Wk w' lo hi B D b R W { c with nx := v } I cf q ∧ ∀ s : Zs, s.ph = 3 → s.mn = m → s.k = k → Nz w' hi W s v) ∧ Fz lo hi w w' := by
 have kt := take_c m (.func 139) #[] #[] k hm w h
 clear h hm
 have AK : Aside (k ≠ 0) := hk
 clear hk
 obtain ⟨T, hT⟩ : ∃ T, t3 W k = T := ⟨_, rfl⟩
 rw [hT] at kt ⊢
 clear hT
 go_enter Tryz.func124, Tryz.ntmps124
 go_wp2_with (go_at_call 95; refine kt.mono ?_; rintro e2 w2 ⟨rfl, h2, f2⟩)
 first | go_end0 | (refine bodyPost_ret (results_none rfl _ _ _) rfl ?_)
 obtain ⟨v, h3, h4⟩ := h2
 exact ⟨rfl, ⟨v, h3, fun s a1 a2 a3 => h4 s a1 a2 a3 (Or.inr ⟨by rw [a3]; exact AK.out, by simp⟩)⟩, f2⟩
theorem pass0_c (k n : Nat) (hk : t3 W k = bm n W) (hn : n = 125 ∨ n = 97 ∨ n = 31) (P : World → Prop) (w : World) (U : Fn) (ub uc : Array Value) (hc : ∀ w1, w1.heap.size = w.heap.size + 3 → Below w.heap.size w w1 → Calls Tryz.prog n #[.pointer (some ⟨W, 0, none⟩)] w1 fun e w' => e = .returned (.tuple #[]) ∧ P w') : Calls Tryz.prog 95 #[.pointer (some ⟨W, 0, none⟩), .int .u64 0, .func U ub uc, t3 W k] w fun e w' => e = .returned (.tuple #[]) ∧ P w' := by
 have b3 := ((below_alloc w (.cells #[.int .u64 0] 66)).alloc (by simp) (.cells #[.func U ub uc] 65)).alloc (by simp; omega) (.cells #[bm n W] 1)
 have kc := hc _ (by simp) b3
 rw [hk]
 clear hk b3 hc
 unfold bm at *
 rcases hn with rfl | rfl | rfl
 all_goals
  go_enter Tryz.func95, Tryz.ntmps95
  go_wp2_with (first
   | (go_at_call 125; refine kc.mono ?_; rintro e2 w2 ⟨rfl, h2⟩)
   | (go_at_call 97; refine kc.mono ?_; rintro e2 w2 ⟨rfl, h2⟩)
   | (go_at_call 31; refine kc.mono ?_; rintro e2 w2 ⟨rfl, h2⟩))
  first | go_end0 | (refine bodyPost_ret (results_none rfl _ _ _) rfl ?_)
  exact ⟨rfl, h2⟩
theorem passz_c (k n : Nat) (hk : t3 W k = bm n W) (hn : n = 125 ∨ n = 97 ∨ n = 31) (P : World → Prop) (w : World) (hc : ∀ w1, w1.heap.size = w.heap.size + 3 → Below w.heap.size w w1 → Calls Tryz.prog n #[.pointer (some ⟨W, 0, none⟩)] w1 fun e w' => e = .returned (.tuple #[]) ∧ P w') : Calls Tryz.prog 124 #[.pointer (some ⟨W, 0, none⟩), .int .u64 0, t3 W k] w fun e w' => e = .returned (.tuple #[]) ∧ P w' := by
 have kt := pass0_c k n hk hn P w (.func 139) #[] #[] hc
 obtain ⟨T, hT⟩ : ∃ T, t3 W k = T := ⟨_, rfl⟩
 rw [hT] at kt ⊢
 clear hT hk hn hc
 go_enter Tryz.func124, Tryz.ntmps124
 go_wp2_with (go_at_call 95; refine kt.mono ?_; rintro e2 w2 ⟨rfl, h2⟩)
 first | go_end0 | (refine bodyPost_ret (results_none rfl _ _ _) rfl ?_)
 exact ⟨rfl, h2⟩
end
end Go.Proofs.YtpihipbeagpgpaaGreatDoor

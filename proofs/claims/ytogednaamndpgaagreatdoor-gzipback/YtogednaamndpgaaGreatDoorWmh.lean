/-
 Members that came in: what small, Write and given say of them.
-/
import Derived.Test.YtogednaamndpgaaGreatDoorMzb
namespace Go.Proofs.YtogednaamndpgaaGreatDoor
open Go.RowKit
set_option linter.unusedVariables false
structure Ma (w : World) (a : Option Addr) (ms : List Mb) (N : Nat) : Prop where
 len : ms.length = N
 big : N ≤ 9223372036854775807
 lm : Lm w a ms
 ok : ∀ m ∈ ms, Mo0 m
theorem Ma.small {w u : World} {a : Option Addr} {ms : List Mb} {N : Nat} (h : Ma w a ms N) (hu : Below w.heap.size w u) (C : Nat) (t : Bool) (ht : decide (N + msz ms < 3000) = t) : Calls Tryz.prog 21 #[.slice a N C] u fun e w' => e = .returned (.bool t) ∧ Below u.heap.size u w' := by
 rw [← ht]
 exact (small_c u a ms N C h.len (by have := h.big; omega) (h.lm.below hu) (fun m hm => ⟨by have := (h.ok m hm).dl; omega, by have := (h.ok m hm).pl; omega⟩)).mono fun e w' ⟨k1, n, k2⟩ => ⟨k1, by rw [k2]; exact Below.drewN2 (Below.refl _ u) n⟩
structure Wl (ms : List Mb) (u : World) (e : Ending) (u' : World) : Prop where
 ex : ∃ a n c ws, e = .returned (.slice a n c) ∧ Wok ms ws ∧ ws ≠ [] ∧ Ow u' u.heap.size 5 1 (.slice a n c) n (ob (wal ws)) ∧ (wal ws).length = n ∧ n ≤ 300006000000 ∧ Below u.heap.size u u'
theorem Ma.write {w u : World} {a : Option Addr} {ms : List Mb} {N : Nat} (h : Ma w a ms N) (hu : Below w.heap.size w u) (h8 : 8 ≤ w.heap.size) (hs : N + msz ms < 3000) (hne : N ≠ 0) (C : Nat) : Calls Tryz.prog 22 #[.slice a N C] u fun e w' => Wl ms u e w' := by
 have hl := h.len
 have hok := mok_all h.ok (by omega)
 refine (write_c u a ms N C hl (by omega) (h.lm.below hu) hok (by have := hu.size; omega)).mono fun e w' q => ?_
 obtain ⟨a', n, c, zs, q1, q2, q3, q4, q5, q6⟩ := q.ex
 exact ⟨a', n, c, _, q1, wms_ok ms zs q2 hok, wms_ne q2 (by intro e; rw [e] at hl; simp at hl; omega), q3, q4, by omega, q6⟩
theorem Ma.given {w u : World} {a : Option Addr} {ms : List Mb} {N : Nat} (h : Ma w a ms N) (hu : Below w.heap.size w u) (hs : N ≤ 3000) (C : Nat) : Calls Tryz.prog 23 #[.slice a N C] u fun e w' => Gvn w ms N u e w' := given_c w u a ms N C h.len hs h.lm hu
theorem dts_oct {ms : List Mb} (h : ∀ m ∈ ms, Mo0 m) : ∀ l ∈ ms.map Mb.dt, Oct l := fun l hl => by
 obtain ⟨m, hm, rfl⟩ := List.mem_map.1 hl
 exact (h m hm).dt
theorem own_lies {w : World} {lo n c : Nat} {a : Option Addr} {l : List Nat} (h : Ow w lo 5 1 (.slice a n c) n (ob l)) : Lies w a l := by
 obtain ⟨a2, c2, hv, _, _, hl, _⟩ := h.lies
 cases hv
 exact hl
end Go.Proofs.YtogednaamndpgaaGreatDoor

/-
  What Whole answers, in letters.
-/
import Derived.Test.YtmlkdpoignimaabEnd
import Derived.Lib.AppendStr
namespace Go.Proofs.Ytmlkdpoignimaab
open Go.RowKit
set_option linter.unusedVariables false
/-- What Whole answers, in letters. -/
def WhA (w : World) (T : List Fd) (u y : Nat) (e : Ending) (w' : World) : Prop := ∃ a n c, e = .returned (.tuple #[.slice a n c, .int .i64 (u : Int), .int .i64 (y : Int), .int .i64 0]) ∧ FL w' (.slice a n c) T ∧ Below w.heap.size w w'
theorem whole_a (w : World) (a : Option Addr) (l : List Nat) (L C most : Nat) (R : Out) (hR : rn most 0 [] [] l = R) (u : Nat) (hu : min (R.at_ + 1) L = u) (y : Nat) (hy : R.why = y) (T : List Fd) (hT : told R.fs = T) (hlz : Lies w a l) (hL : l.length = L) (hLb : L < 1000000000000000) (ho : Oct l) (h1 : 1 ≤ most) (h2 : most ≤ 65536) : Calls Try.prog 4 #[.slice a L C, .int .i64 (most : Int)] w fun e w' => WhA w T u y e w' := by
  refine (whole_c w a l L C most hlz hL hLb ho h1 h2).mono ?_
  rintro e w' ⟨v, he, hfl, hb⟩
  rw [hR] at he hfl
  rw [hL, hu, hy] at he
  rw [hT] at hfl
  obtain ⟨av, cv, hv, hq⟩ := id hfl
  rw [hv] at he hfl
  exact ⟨av, _, cv, he, hfl, hb⟩
/-- Bytes that came in, behind an empty list: what the first append comes to. -/
theorem ow_first {w : World} {B : Nat} {v v' : Value} {w' : World} {l : List Nat} {L : Nat} (h : Got B 5 1 w w' v v' (0 + L) (ob [] ++ ob l)) : Ow w' B 5 1 v' L (ob l) := by
  have := h.ow
  rw [Nat.zero_add, ob_append, List.nil_append] at this
  exact this
theorem ow_next {w : World} {B : Nat} {v v' : Value} {w' : World} {l m : List Nat} {L M : Nat} (h : Got B 5 1 w w' v v' (L + M) (ob l ++ ob m)) : Ow w' B 5 1 v' (L + M) (ob (l ++ m)) := by
  have := h.ow
  rw [ob_append] at this
  exact this
theorem ob_bytes (s : ByteArray) : (List.map (fun b => Value.int .u8 ((b : UInt8).toNat : Int)) s.data.toList) = ob (bl s) := by
  simp [ob, bl]
end Go.Proofs.Ytmlkdpoignimaab

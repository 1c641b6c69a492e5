/-
  NumberReads, behind the opening of its argument: the call answers true, and what lay in memory is as it was.
  Conditions: the bytes lie side by side, and are no more than the slice's room.
-/
import Derived.Test.YtmaojldkadpheaaRefReadB
import Derived.Test.YtmaojldkadpheaaOpen
import Derived.Lib.SlBytesConst
namespace Go.Proofs.Ytmaojldkadpheaa
open Go.RowKit
set_option linter.unusedVariables false
theorem lies_const (w : World) (x : Nat) (m : Nat × Nat) : Lies (w.alloc (.cells #[.int .u8 (x : Int)] 5 m)) (some ⟨w.heap.size, 0, none⟩) [x] := by
  refine Or.inr ⟨_, _, rfl, fun i y hy => ?_⟩
  match i, hy with
  | 0, hy =>
    have : x = y := by simpa using hy
    subst this
    have hh : (w.alloc (.cells #[.int .u8 (x : Int)] 5 m)).heap[w.heap.size]? = some (.cells #[.int .u8 (x : Int)] 5 m) := by
      show (w.heap.push _)[_]? = _
      simp
    show (match (w.alloc (.cells #[.int .u8 (x : Int)] 5 m)).heap[w.heap.size]? with | some (.cells c _ _) => c[0 + 0]? | _ => none) = _
    rw [hh]; rfl
/-- Field of one byte, the digit 1, in memory that the call made. -/
theorem field_one (w : World) : Calls Try.prog 13 #[.slice (some ⟨w.heap.size, 0, none⟩) 1 1] (w.alloc (.cells #[.int .u8 49] 5 (1, 2))) fun e w' => e = .returned (.tuple #[.int .u64 1, .bool true]) ∧ w.alloc (.cells #[.int .u8 49] 5 (1, 2)) = w' :=
  field_c (some ⟨w.heap.size, 0, none⟩) [49] 1 1 _ rfl (by intro x hx; simp at hx; omega) (Nat.le_refl _) (by decide) (lies_const w 49 (1, 2))
set_option maxRecDepth 100000 in
set_option maxHeartbeats 2000000 in
theorem reads_core (w : World) (a : Option Addr) (l : List Nat) (L cap : Nat) (hL : l.length = L) (hb : Oct l) (hlc : L ≤ cap) (hcap : cap < 9223372036854775808) (h : Lies w a l) :
    Calls Try.prog 3 #[.slice a L cap] w fun e w' => e = .returned (.bool true) ∧ Below w.heap.size w w' := by
  have c1 := octal_c a l L cap w hL hb hlc hcap h
  have c2 := roctal_c a l L cap w hL hb hlc hcap h
  have c3 := binary_c a l L cap w hL hb hlc hcap h
  have c4 := rbinary_c a l L cap w hL hb hlc hcap h
  have c5 := field_c a l L cap w hL hb hlc hcap h
  have c6 := rfield_c a l L cap w hL hb hlc hcap h
  have c7 := field_one w
  unfold ans at *
  generalize (oct l).isSome = q1 at *
  generalize (bin l).isSome = q2 at *
  generalize (fld l).isSome = q3 at *
  generalize (oct l).getD 0 = v1 at *
  generalize (bin l).getD 0 = v2 at *
  generalize (fld l).getD 0 = v3 at *
  have e1 : ((v1 : Int) == (v1 : Int)) = true := by simp
  have e2 : ((v2 : Int) == (v2 : Int)) = true := by simp
  have e3 : ((v3 : Int) == (v3 : Int)) = true := by simp
  have f1 : (q1 == q1) = true := by simp
  have f2 : (q2 == q2) = true := by simp
  have f3 : (q3 == q3) = true := by simp
  have kc := fun (w : World) (C : Array Value) (n c : Nat) => Lib.run_convert_bytes_const (P := Try.prog) w 22 5 C n c Try.underlying22 Try.underlying5
  clear hL hb hlc hcap h
  go_enter Try.func3, Try.ntmps3
  go_wp2_with fail
  refine c1.mono ?_
  rintro e u ⟨rfl, rfl⟩
  go_wp2_with fail
  refine c2.mono ?_
  rintro e u ⟨rfl, rfl⟩
  go_wp2_with fail
  refine c3.mono ?_
  rintro e u ⟨rfl, rfl⟩
  go_wp2_with fail
  refine c4.mono ?_
  rintro e u ⟨rfl, rfl⟩
  go_wp2_with fail
  refine c5.mono ?_
  rintro e u ⟨rfl, rfl⟩
  go_wp2_with fail
  refine c6.mono ?_
  rintro e u ⟨rfl, rfl⟩
  go_wp2_with fail
  refine c7.mono ?_
  rintro e u ⟨rfl, rfl⟩
  go_wp2_with fail
  go_ret
  exact ⟨rfl, (Below.refl _ _).alloc (Nat.le_refl _) _⟩
end Go.Proofs.Ytmaojldkadpheaa

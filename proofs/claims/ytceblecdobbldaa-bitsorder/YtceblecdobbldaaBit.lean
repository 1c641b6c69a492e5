/-
  What the law's own 'bit' comes to: that bit of the bytes; and how a slice of bytes is opened of which the bytes are counted.
  Conditions: the bit lies within the bytes.
-/
import Derived.Test.YtceblecdobbldaaReader
import Derived.Test.YtceblecdobbldaaBytes
import Derived.Test.YtceblecdobbldaaOpen
import Derived.SizedLaws
namespace Go.Proofs.Ytceblecdobbldaa
open Go.ChangeShapes Go.WideShapes Go.ChangeAt Go.RowKit
theorem and_one (v k : Nat) (hv : v < 18446744073709551616) : bits .and .u64 ((v : Int) / 2 ^ k) 1 = ((v / 2 ^ k % 2 : Nat) : Int) := by
  have h : v / 2 ^ k ≤ v := Nat.div_le_self _ _
  rw [div_nat, show (1 : Int) = ((1 : Nat) : Int) from rfl, u64_and_nat _ 1 (by omega) (by decide), Nat.and_one_is_mod]
theorem bit_c (b off len cap t x : Nat) (w : World) (hc : w.cell? ⟨b, off + t / 8, none⟩ = some (.int .u8 (x : Int))) (hx : x < 256) (ht : t < 8 * len) (hl : len < 1152921504606846976) :
    Calls Try.prog 22 #[.slice (some ⟨b, off, none⟩) len cap, .int .i64 t] w fun e w' => e = .returned (.int .u64 ((x / 2 ^ (t % 8) % 2 : Nat) : Int)) ∧ w = w' := by
  obtain ⟨q, hq⟩ : ∃ q, t / 8 = q := ⟨_, rfl⟩
  obtain ⟨r, hr⟩ : ∃ r, t % 8 = r := ⟨_, rfl⟩
  have hqi : (t : Int) / 8 = (q : Int) := by omega
  have hri : (t : Int) % 8 = (r : Int) := by omega
  have hq0 : (0 : Int) ≤ q := Int.natCast_nonneg _
  have hql : (q : Int) < (len : Int) := by omega
  have hr8 : r < 8 := by omega
  rw [hq] at hc
  rw [hr]
  clear hq hr ht
  go_enter Try.func22, Try.ntmps22
  go_wp2
  go_ret
  refine ⟨?_, rfl⟩
  rw [← and_one x r (by omega)]
  rfl

section
variable {H : Type} {enc : TypeId × Value → H} {P : Program} {w : World} {held : Bool}
/-- A slice of bytes whose places are counted. -/
theorem open_bytes_sized {t e : TypeId} {b0 : Nat} {r : Reach} {v : Value} {d : DataW H} {p : List MemPlace} (ht : P.underlying t = some (.slice e)) (he : P.underlying e = some (.int .u8)) (hc : P.cellsOf e = 1) (hbe : P.bytesOf e = 1)
    (hv : Value.okWide P w r b0 t v) (h : DataW.Trod enc P w 0 (fun _ => true) held t v d p)
    (hz : ∀ elems spare, d = .slice elems spare → (elems.length + spare.length) * P.bytesOf e ≤ reachBytes) :
    ∃ (a : Option Addr) (len cap : Nat) (X : Nat → Nat), v = .slice a len cap ∧ len ≤ cap ∧ cap < 140737488355328 ∧ Row w a len X := by
  obtain ⟨a, len, cap, X, rfl, hl, hm, hr⟩ := open_bytes ht he hc hv h
  refine ⟨a, len, cap, X, rfl, hl, ?_, hr⟩
  obtain ⟨fuel, hf⟩ := h
  rcases Deep.open_slice1 ht hc hf with ⟨hcs, _⟩ | ⟨a', len', cap', m, n, V, D, Pl, hcs, _, hl, hm, hmm, hxe, hx⟩
  · simp [Value.cells] at hcs
    omega
  · simp [Value.cells] at hcs
    obtain ⟨rfl, rfl, rfl⟩ := hcs
    have := hz _ _ (Prod.mk.inj hxe).1
    simp only [if_true] at hmm
    subst hmm
    rw [hbe] at this
    simp only [List.length_map, List.length_range] at this
    have h2 := reachBytes_lt
    omega
end
end Go.Proofs.Ytceblecdobbldaa

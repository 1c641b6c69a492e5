/-
  How an argument that is one member is opened, where what came in is small.
-/
import Derived.Test.YtogednaamndpgaaGreatDoorOpenM
import Derived.Test.YtogednaamndpgaaGreatDoorTurnedCore
namespace Go.Proofs.YtogednaamndpgaaGreatDoor
open Go.ChangeShapes Go.WideShapes Go.ChangeAt Go.RowKit
set_option linter.unusedVariables false
set_option maxRecDepth 100000 in
theorem open_mb {H : Type} {enc : TypeId × Value → H} {w : World} {held : Bool} {b0 : Nat} {r : Reach} {v : Value} {d : DataW H} {p : List MemPlace} (hv : Value.okWide Tryz.prog w r b0 53 v) (h : DataW.Trod enc Tryz.prog w 0 (fun _ => true) held 53 v d p) (hz : ∀ n ∈ d.weights Tryz.prog 53, n ≤ reachBytes) : ∃ m S ea el ec sb da dl dc pa pl pc, v = .agg #[.string S, .slice ea el ec, .bool sb, .slice da dl dc, .slice pa pl pc] ∧ Fv w m S ea el ec sb da dl dc pa pl pc := by
  obtain ⟨cs, rfl, hsz⟩ := okWide_struct Tryz.underlying53 hv
  rw [cells53m] at hsz
  obtain ⟨fuel, hf⟩ := h
  obtain ⟨m, v0, v1, v2, v3, v4, hcs, h5⟩ := open_member (cs := cs.toList) hf (by simpa using hsz) hz
  obtain ⟨ea, ec, da, dc, pa, pc, rfl, rfl, rfl, rfl, rfl, q1, q2, q3⟩ := h5.ex
  have hc : cs = #[.string (st m.nm), .slice ea m.ex.length ec, .bool m.sb, .slice da m.dt.length dc, .slice pa m.ps.length pc] := by
    cases cs
    simp at hcs
    rw [hcs]
  exact ⟨m, _, ea, _, ec, _, da, _, dc, pa, _, pc, by rw [hc], rfl, rfl, rfl, rfl, rfl, q1, q2, q3, h5.ok⟩
theorem byte_nat {z : Int} (h : (Lit.int .u8 z).wf = true) : ∃ x : Nat, z = (x : Int) ∧ x < 256 := byte_of_wf' h
end Go.Proofs.YtogednaamndpgaaGreatDoor

/-
  How an argument that is a list of bytes is opened.
-/
import Derived.Test.YtikdpnpkmmmacabDoorOpen
import Derived.Test.YtikdpnpkmmmacabDoorMe
namespace Go.Proofs.YtikdpnpkmmmacabDoor
open Go.ChangeShapes Go.WideShapes Go.ChangeAt Go.RowKit
theorem cells5o : Tryd.prog.cellsOf 5 = 1 := by kernel_rfl
theorem bytes5o : Tryd.prog.bytesOf 5 = 1 := by kernel_rfl
theorem octs {zs : List Int} (h : ∀ z ∈ zs, (Lit.int .u8 z).wf = true) : ∃ xs : List Nat, zs = xs.map (fun x : Nat => (x : Int)) ∧ Oct xs := by
  obtain ⟨xs, rfl⟩ := nats_of (l := zs) (fun z hz => by have := bounds_u8 (h z hz); omega)
  refine ⟨xs, rfl, fun x hx => ?_⟩
  have := bounds_u8 (h (x : Int) (List.mem_map.2 ⟨x, hx, rfl⟩))
  omega
set_option maxRecDepth 100000 in
theorem obytes9 {H : Type} {enc : TypeId × Value → H} {w : World} {base : Nat} {v : Value} {d : DataW H} {p : List MemPlace} (o : Value.okWide Tryd.prog w .any base 22 v) (h : DataW.Trod enc Tryd.prog w 0 (fun _ => true) true 22 v d p)
    (z : ∀ elems spare, d = .slice elems spare → (elems.length + spare.length) * Tryd.prog.bytesOf 5 ≤ reachBytes) :
    ∃ (a : Option Addr) (xs : List Nat) (cap : Nat), v = .slice a xs.length cap ∧ xs.length ≤ cap ∧ cap ≤ reachBytes ∧ Oct xs ∧ Lies w a xs ∧ (a = none → xs.length = 0 ∧ cap = 0) := by
  obtain ⟨a, zs, cap, hv, hl, hcap, hw, hr, hn⟩ := open_ints (P := Tryd.prog) (t := 22) (e := 5) (k := .u8) Tryd.underlying22 Tryd.underlying5 cells5o o h z
  rw [bytes5o, Nat.mul_one] at hcap
  obtain ⟨xs, rfl, ho⟩ := octs hw
  have hlen : (xs.map (fun x : Nat => (x : Int))).length = xs.length := by simp
  rw [hlen] at hl hn hv
  exact ⟨a, xs, cap, hv, hl, hcap, ho, hr.nats, hn⟩
end Go.Proofs.YtikdpnpkmmmacabDoor

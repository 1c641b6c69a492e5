/-
  The machine in memory: its block, its nodes' row, its map; and the methods that read one field of a node.
  Conditions: the machine lies as said, or is nil.
-/
import Derived.Test.YtbepbjbbhenphabDoorMapk
import Derived.WalkSpells
import Derived.Deep.LoopGhost
import Derived.WalkMore
import Derived.Laws.AppendOwn
import Derived.Deep.AppendLies
import Derived.Laws.BitsAllLaws
import Derived.Laws.Bits64
import Derived.Laws.Bits64b
import Derived.BigRegion
namespace Go.Proofs.YtbepbjbbhenphabDoor
open Go.RowKit
set_option linter.unusedVariables false
/-- A node: the state ahead of it, the last byte, how long its word is, its fail, its outs. -/
structure Nd where
  bf : Nat
  la : Nat
  dp : Nat
  fa : Nat
  ou : Nat
def Nd.vs (n : Nd) : List Value := [.int .i64 (n.bf : Int), .int .u8 (n.la : Int), .int .i64 (n.dp : Int), .int .i64 (n.fa : Int), .int .u64 (n.ou : Int)]
def nvs (nd : List Nd) : List Value := nd.flatMap Nd.vs
theorem nvs_len : ∀ nd : List Nd, (nvs nd).length = nd.length * 5
  | [] => rfl
  | n :: nd => by
    have := nvs_len nd
    unfold nvs at *
    rw [List.flatMap_cons, List.length_append, this, List.length_cons, Nat.add_mul]
    show 5 + _ = _
    omega
theorem nvs_at : ∀ (nd : List Nd) (s j : Nat) (n : Nd), nd[s]? = some n → j < 5 → (nvs nd)[s * 5 + j]? = n.vs[j]?
  | [], s, j, n, h, hj => by simp at h
  | m :: nd, 0, j, n, h, hj => by
    simp at h
    subst h
    unfold nvs
    rw [List.flatMap_cons, Nat.zero_mul, Nat.zero_add, List.getElem?_append_left (by show j < 5; exact hj)]
  | m :: nd, s + 1, j, n, h, hj => by
    have := nvs_at nd s j n (by simpa using h) hj
    unfold nvs at *
    rw [List.flatMap_cons, List.getElem?_append_right (by show 5 ≤ _; omega), ← this]
    congr 1
    show (s + 1) * 5 + j - 5 = _
    omega
theorem nvs_app (nd : List Nd) (n : Nd) : nvs nd ++ n.vs = nvs (nd ++ [n]) := by simp [nvs]
/-- The machine lies at block A; base: where its memory begins. -/
def Mach (w : World) (base A pn lg : Nat) (nd : List Nd) (G : Nat → Nat → Option Nat) : Prop :=
  ∃ g cap M k cur, w.heap[A]? = some (.cells #[.int .i64 (pn : Int), .int .i64 (lg : Int), .slice (some ⟨g, 0, none⟩) nd.length cap, .map (some M)] 46) ∧
    w.heap[g]? = some (.cells cur 42) ∧ nd.length ≤ cap ∧ cap ≤ maxLen ∧ cur.size = cap * 5 ∧ cur.toList.take (nd.length * 5) = nvs nd ∧ Mp w M k G ∧ k ≤ nd.length ∧ base ≤ A ∧ base ≤ g ∧ base ≤ M
/-- What a reader of a node needs. -/
theorem Mach.parts {w : World} {base A pn lg : Nat} {nd : List Nd} {G : Nat → Nat → Option Nat} (h : Mach w base A pn lg nd G) :
    ∃ g cap M k, w.cell? ⟨A, 0, none⟩ = some (.int .i64 (pn : Int)) ∧ w.cell? ⟨A, 1, none⟩ = some (.int .i64 (lg : Int)) ∧ w.cell? ⟨A, 2, none⟩ = some (.slice (some ⟨g, 0, none⟩) nd.length cap) ∧ w.cell? ⟨A, 3, none⟩ = some (.map (some M)) ∧ nd.length ≤ cap ∧ cap ≤ maxLen ∧ Mp w M k G ∧
      (∀ (s : Nat) (n : Nd), nd[s]? = some n → w.cell? ⟨g, s * 5, none⟩ = some (.int .i64 (n.bf : Int)) ∧ w.cell? ⟨g, s * 5 + 1, none⟩ = some (.int .u8 (n.la : Int)) ∧ w.cell? ⟨g, s * 5 + 2, none⟩ = some (.int .i64 (n.dp : Int)) ∧ w.cell? ⟨g, s * 5 + 3, none⟩ = some (.int .i64 (n.fa : Int)) ∧ w.cell? ⟨g, s * 5 + 4, none⟩ = some (.int .u64 (n.ou : Int))) := by
  obtain ⟨g, cap, M, k, cur, hA, hg, h1, h2, h3, h4, h5, _⟩ := h
  have cA := fun i => Cells.cell (w := w) (b := A) hA i
  refine ⟨g, cap, M, k, cA 0, cA 1, cA 2, cA 3, h1, h2, h5, ?_⟩
  intro s n hs
  have hsl := (List.getElem?_eq_some_iff.1 hs).1
  have each : ∀ j, j < 5 → w.cell? ⟨g, s * 5 + j, none⟩ = n.vs[j]? := by
    intro j hj
    rw [Cells.cell (cs := cur) (t := 42) hg, ← nvs_at nd s j n hs hj, ← h4, List.getElem?_take, if_pos (by omega)]
    simp
  exact ⟨each 0 (by decide), each 1 (by decide), each 2 (by decide), each 3 (by decide), each 4 (by decide)⟩
theorem Mach.lt {w : World} {base A pn lg : Nat} {nd : List Nd} {G : Nat → Nat → Option Nat} (h : Mach w base A pn lg nd G) : A < w.heap.size := by
  obtain ⟨g, cap, M, k, cur, hA, _⟩ := h
  exact (Array.getElem?_eq_some_iff.1 hA).1
theorem Mach.below {w u : World} {base A pn lg : Nat} {nd : List Nd} {G : Nat → Nat → Option Nat} (h : Mach w base A pn lg nd G) (hb : Below w.heap.size w u) : Mach u base A pn lg nd G := by
  obtain ⟨g, cap, M, k, cur, hA, hg, h1, h2, h3, h4, h5, h6⟩ := h
  have lA := (Array.getElem?_eq_some_iff.1 hA).1
  have lg := (Array.getElem?_eq_some_iff.1 hg).1
  exact ⟨g, cap, M, k, cur, (hb.block A lA).trans hA, (hb.block g lg).trans hg, h1, h2, h3, h4, h5.below hb, h6⟩
theorem Mach.drewN {w : World} {base A pn lg : Nat} {nd : List Nd} {G : Nat → Nat → Option Nat} (h : Mach w base A pn lg nd G) (n : Nat) : Mach (w.drewN n) base A pn lg nd G := h
theorem Mach.drew {w : World} {base A pn lg : Nat} {nd : List Nd} {G : Nat → Nat → Option Nat} (h : Mach w base A pn lg nd G) : Mach w.drew base A pn lg nd G := h
/-- The nil machine. -/
theorem has_nil (s : Int) (w : World) : Calls Tryd.prog 19 #[.pointer none, .int .i64 s] w fun e w' => e = .returned (.bool false) ∧ w = w' := by
  go_enter Tryd.func19, Tryd.ntmps19
  go_wp2_with fail
  go_ret
  exact ⟨rfl, rfl⟩
theorem has_c {base A pn lg : Nat} {nd : List Nd} {G : Nat → Nat → Option Nat} (s : Int) (w : World) (h : Mach w base A pn lg nd G) (L : Nat) (hL : nd.length = L) : Calls Tryd.prog 19 #[.pointer (some ⟨A, 0, none⟩), .int .i64 s] w fun e w' => e = .returned (.bool (decide (0 ≤ s ∧ s < (L : Int)))) ∧ w = w' := by
  obtain ⟨g, cap, M, k, c0, c1, c2, c3, h1, h2, h3, h4⟩ := h.parts
  rw [hL] at c2
  clear h1 h2 h3 h4 hL c0 c1 c3 h
  by_cases p : 0 ≤ s
  · by_cases q : s < (L : Int)
    · have e : decide (0 ≤ s ∧ s < (L : Int)) = true := decide_eq_true ⟨p, q⟩
      rw [e]; clear e
      go_enter Tryd.func19, Tryd.ntmps19
      go_wp2_with fail
      go_ret
      exact ⟨rfl, rfl⟩
    · have e : decide (0 ≤ s ∧ s < (L : Int)) = false := decide_eq_false (fun h => q h.2)
      rw [e]; clear e
      go_enter Tryd.func19, Tryd.ntmps19
      go_wp2_with fail
      go_ret
      exact ⟨rfl, rfl⟩
  · have e : decide (0 ≤ s ∧ s < (L : Int)) = false := decide_eq_false (fun h => p h.1)
    rw [e]; clear e
    go_enter Tryd.func19, Tryd.ntmps19
    go_wp2_with fail
    go_ret
    exact ⟨rfl, rfl⟩
end Go.Proofs.YtbepbjbbhenphabDoor

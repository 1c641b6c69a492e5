/-
  The table's map: its keys, a look-up and a store, told by a function of a length and a number.
-/
import Derived.Test.YtlmajiejapaegaaProg
import Derived.Test.YtlmajiejapaegaaMem
import Derived.WideKeyArgs2
import Derived.DeepKeys4
import Derived.Maps.OwnSet
import Derived.KernelRfl
namespace Go.Proofs.Ytlmajiejapaegaa
open Go.RowKit Go.WideMaps Go.Maps
set_option linter.unusedVariables false
theorem laidOutK : laidOutB Try.prog = true := by kernel_rfl
theorem row70 : (70 : TypeId) < Try.prog.types.size := of_decide_eq_true (by kernel_rfl)
theorem cells70 : Try.prog.cellsOf 70 = 2 := by kernel_rfl
theorem cells34 : Try.prog.cellsOf 34 = 1 := by kernel_rfl
theorem key70 : Try.prog.keyType 70 = true := by kernel_rfl
theorem wide70 : (match Try.prog.underlying 70 with | some (.array _ _) | some (.struct _) => true | _ => false) = true := by kernel_rfl
set_option maxRecDepth 100000 in
theorem law70 : Keyed Try.prog 70 := Keyed.of_law (deep_law_laid laidOutK (m := 2) (by omega) row70 (by kernel_rfl) wide70)
/-- A length and a number, as a key. -/
def way (s c : Nat) : Value := .agg #[.int .u32 (s : Int), .int .u32 (c : Int)]
theorem zero3 (w : World) : (zeroValue 3).run Try.prog w = .ok (.int .i64 0) w := by kernel_rfl
theorem wf_u32 {n : Nat} (h : n < 4294967296) : (Lit.int .u32 (n : Int)).wf = true := WalkArith.wf_u32 (by omega)
theorem key_way {s c : Nat} (hs : s < 4294967296) (hc : c < 4294967296) : ∃ kl, keyOf Try.prog 70 (way s c) = some kl := by
  have h1 : (Lit.int .u32 (s : Int)).wf = true := wf_u32 hs
  have h2 : (Lit.int .u32 (c : Int)).wf = true := wf_u32 hc
  obtain ⟨T, hT⟩ : ∃ T, Try.prog.types.size = T + 2 := ⟨Try.prog.types.size - 2, by have : 2 ≤ Try.prog.types.size := of_decide_eq_true (by kernel_rfl); omega⟩
  have hf : (way s c).formed Try.prog 70 = true := by simp [way, Value.formed, Try.underlying70, cells70]
  unfold keyOf
  rw [Try.underlying70, key70, hf, hT]
  have e1 : Try.prog.keyLits (T + 1 + 1) 34 [.int .u32 (s : Int)] = some [.int .u32 (s : Int)] := by
    unfold Program.keyLits; rw [Try.underlying34]; simp only [h1, and_self, if_true]
  have e2 : Try.prog.keyLits (T + 1 + 1) 34 [.int .u32 (c : Int)] = some [.int .u32 (c : Int)] := by
    unfold Program.keyLits; rw [Try.underlying34]; simp only [h2, and_self, if_true]
  have e3 : ∃ ls, Try.prog.keyLits (T + 2 + 1) 70 (way s c).cells.toList = some ls := by
    unfold Program.keyLits
    rw [Try.underlying70, cells70]
    refine ⟨[.int .u32 (s : Int), .int .u32 (c : Int)], ?_⟩
    simp [way, Value.cells, cells34, e1, e2]
  obtain ⟨ls, hls⟩ := e3
  exact ⟨.string (keyBytes ls), by simp only [Bool.and_self, if_true, hls, Option.map_some]⟩
theorem way_inj {s c s' c' : Nat} (h : way s c = way s' c') : s = s' ∧ c = c' := by
  unfold way at h
  simp at h
  omega
/-- Block M is a map that has, at a length and a number, what G says. -/
def Mp (w : World) (M k : Nat) (G : Nat → Nat → Option Int) : Prop :=
  ∃ D : DataW Unit, w.ownsMap Try.prog 70 (plainElem Try.prog 3) M k D ∧ ∀ (s c : Nat) (kl : Lit), keyOf Try.prog 70 (way s c) = some kl → Maps.has D kl = (G s c).isSome ∧ D.atKey kl (.lit (.int .i64 0)) = .lit (.int .i64 ((G s c).getD 0))
theorem Mp.made (w : World) : Mp (w.alloc (.map #[] 0)) w.heap.size 0 (fun _ _ => none) :=
  ⟨_, World.ownsMap_made w _ _ _, fun s c kl _ => ⟨rfl, rfl⟩⟩
theorem Mp.lt {w : World} {M k : Nat} {G : Nat → Nat → Option Int} (h : Mp w M k G) : M < w.heap.size := by
  obtain ⟨D, h, _⟩ := h; exact h.lt
theorem Mp.heap {w u : World} {M k : Nat} {G : Nat → Nat → Option Int} (h : Mp w M k G) (e : u.heap[M]? = w.heap[M]?) : Mp u M k G := by
  obtain ⟨D, ⟨es, cl, hb, h2⟩, h3⟩ := h
  exact ⟨D, ⟨es, cl, e.trans hb, h2⟩, h3⟩
theorem Mp.isMap {w : World} {M k : Nat} {G : Nat → Nat → Option Int} (h : Mp w M k G) : ∃ es cl, w.heap[M]? = some (.map es cl) := by
  obtain ⟨D, ⟨es, cl, hb, h2⟩, h3⟩ := h
  exact ⟨es, cl, hb⟩
theorem Mp.below {w u : World} {M k : Nat} {G : Nat → Nat → Option Int} (h : Mp w M k G) (hb : Below w.heap.size w u) : Mp u M k G := h.heap (hb.block M h.lt)
theorem Mp.only {w u : World} {M k b : Nat} {G : Nat → Nat → Option Int} (h : Mp w M k G) (hb : Only b w u) (hne : M ≠ b) : Mp u M k G := h.heap (hb.block M hne)
theorem Mp.drew {w : World} {M k : Nat} {G : Nat → Nat → Option Int} (h : Mp w M k G) : Mp w.drew M k G := h
theorem Mp.congr {w : World} {M k : Nat} {G G' : Nat → Nat → Option Int} (h : Mp w M k G) (e : ∀ s c, G s c = G' s c) : Mp w M k G' := by
  have : G = G' := by funext s c; exact e s c
  rw [← this]; exact h
/-- A look-up. -/
theorem run_look (w : World) (M k s c : Nat) (G : Nat → Nat → Option Int) (hown : Mp w M k G) (hs : s < 4294967296) (hc : c < 4294967296) (r : Option Int) (hr : G s c = r) :
    (Instr.lookup 64 (.map (some M)) (.agg #[.int .u32 (s : Int), .int .u32 (c : Int)]) true).run Try.prog w = .ok (.tuple #[.int .i64 (r.getD 0), .bool r.isSome]) w := by
  obtain ⟨D, hD, hG⟩ := hown
  obtain ⟨kl, hk⟩ := key_way hs hc
  obtain ⟨g1, g2⟩ := hG s c kl hk
  subst hr
  obtain ⟨v, ps, hrun, hv⟩ := hD.look_ok law70 Try.underlying64 (zero3 w) (plainElem_int Try.underlying3 (by decide)) hk
  obtain ⟨z, rfl, hz, _⟩ := plainElem_int_inv Try.underlying3 hv
  have hz2 := congrArg Prod.fst hz
  simp only [] at hz2
  rw [g2] at hz2
  cases hz2
  rw [g1] at hrun
  exact hrun
/-- A store. -/
theorem run_put (w : World) (M k s c : Nat) (n : Int) (G : Nat → Nat → Option Int) (hown : Mp w M k G) (hk : k < 140737488355328) (hs : s < 4294967296) (hc : c < 4294967296) (hn : (Lit.int .i64 n).wf = true) :
    ∃ w', (Instr.mapUpdate 64 (.map (some M)) (.agg #[.int .u32 (s : Int), .int .u32 (c : Int)]) (.int .i64 n)).run Try.prog w = .ok () w' ∧ Mp w' M (k + 1) (fun s' c' => if s' = s ∧ c' = c then some n else G s' c') ∧ w.grownBy w' (some M) := by
  obtain ⟨D, hD, hG⟩ := hown
  obtain ⟨kl, hkl⟩ := key_way hs hc
  obtain ⟨w', hrun, h1, h2⟩ := hD.update law70 Try.underlying64 (by unfold maxLen; omega) hkl (plainElem_int Try.underlying3 hn)
  refine ⟨w', hrun, ⟨_, h1, ?_⟩, h2⟩
  intro s' c' kl' hkl'
  by_cases e : s' = s ∧ c' = c
  · obtain ⟨rfl, rfl⟩ := e
    rw [hkl] at hkl'
    cases hkl'
    simp only []
    rw [if_pos ⟨trivial, trivial⟩]
    exact ⟨has_put_same hD.isMap (law70.key hkl) _, atKey_put_same hD.isMap (law70.key hkl) _ _⟩
  · have hne : kl' ≠ kl := fun e' => e (way_inj (law70.inj (e' ▸ hkl') hkl))
    simp only []
    rw [if_neg e, has_put_other hne, atKey_put_other hne]
    exact hG s' c' kl' hkl'
end Go.Proofs.Ytlmajiejapaegaa

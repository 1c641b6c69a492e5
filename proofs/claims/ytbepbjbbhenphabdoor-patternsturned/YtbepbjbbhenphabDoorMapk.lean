/-
  The machine's map: its keys, a look-up and a store, told by a function of a state and a byte.
-/
import Derived.Test.YtbepbjbbhenphabDoorProg
import Derived.Test.YtbepbjbbhenphabDoorMem
import Derived.WideKeyArgs2
import Derived.DeepKeys4
import Derived.Maps.OwnSet
import Derived.KernelRfl
namespace Go.Proofs.YtbepbjbbhenphabDoor
open Go.RowKit Go.WideMaps Go.Maps
set_option linter.unusedVariables false
theorem laidOut : laidOutB Tryd.prog = true := by kernel_rfl
theorem row71 : (53 : TypeId) < Tryd.prog.types.size := of_decide_eq_true (by kernel_rfl)
theorem cells71 : Tryd.prog.cellsOf 53 = 2 := by kernel_rfl
theorem cells3 : Tryd.prog.cellsOf 3 = 1 := by kernel_rfl
theorem cells5 : Tryd.prog.cellsOf 5 = 1 := by kernel_rfl
theorem key71 : Tryd.prog.keyType 53 = true := by kernel_rfl
theorem wide71 : (match Tryd.prog.underlying 53 with | some (.array _ _) | some (.struct _) => true | _ => false) = true := by kernel_rfl
set_option maxRecDepth 100000 in
theorem law71 : Keyed Tryd.prog 53 := Keyed.of_law (deep_law_laid laidOut (m := 2) (by omega) row71 (by kernel_rfl) wide71)
/-- A state and a byte, as a key. -/
def way (s c : Nat) : Value := .agg #[.int .i64 (s : Int), .int .u8 (c : Int)]
theorem zero3 (w : World) : (zeroValue 3).run Tryd.prog w = .ok (.int .i64 0) w := by kernel_rfl
theorem key_way {s c : Nat} (hs : s < 9223372036854775808) (hc : c < 256) : ∃ kl, keyOf Tryd.prog 53 (way s c) = some kl := by
  have h1 : (Lit.int .i64 (s : Int)).wf = true := WalkArith.wf_i64 (by omega)
  have h2 : (Lit.int .u8 (c : Int)).wf = true := WalkArith.wf_u8 (by omega)
  obtain ⟨T, hT⟩ : ∃ T, Tryd.prog.types.size = T + 2 := ⟨Tryd.prog.types.size - 2, by have : 2 ≤ Tryd.prog.types.size := of_decide_eq_true (by kernel_rfl); omega⟩
  have hf : (way s c).formed Tryd.prog 53 = true := by simp [way, Value.formed, Tryd.underlying53, cells71]
  unfold keyOf
  rw [Tryd.underlying53, key71, hf, hT]
  have e1 : Tryd.prog.keyLits (T + 1 + 1) 3 [.int .i64 (s : Int)] = some [.int .i64 (s : Int)] := by
    unfold Program.keyLits; rw [Tryd.underlying3]; simp only [h1, and_self, if_true]
  have e2 : Tryd.prog.keyLits (T + 1 + 1) 5 [.int .u8 (c : Int)] = some [.int .u8 (c : Int)] := by
    unfold Program.keyLits; rw [Tryd.underlying5]; simp only [h2, and_self, if_true]
  have e3 : ∃ ls, Tryd.prog.keyLits (T + 2 + 1) 53 (way s c).cells.toList = some ls := by
    unfold Program.keyLits
    rw [Tryd.underlying53, cells71]
    refine ⟨[.int .i64 (s : Int), .int .u8 (c : Int)], ?_⟩
    simp [way, Value.cells, cells3, cells5, e1, e2]
  obtain ⟨ls, hls⟩ := e3
  exact ⟨.string (keyBytes ls), by simp only [Bool.and_self, if_true, hls, Option.map_some]⟩
theorem way_inj {s c s' c' : Nat} (h : way s c = way s' c') : s = s' ∧ c = c' := by
  unfold way at h
  simp at h
  omega
/-- Block M is a map that has, at a state and a byte, what G says. -/
def Mp (w : World) (M k : Nat) (G : Nat → Nat → Option Nat) : Prop :=
  ∃ D : DataW Unit, w.ownsMap Tryd.prog 53 (plainElem Tryd.prog 3) M k D ∧ ∀ (s c : Nat) (kl : Lit), keyOf Tryd.prog 53 (way s c) = some kl → Maps.has D kl = (G s c).isSome ∧ D.atKey kl (.lit (.int .i64 0)) = .lit (.int .i64 (((G s c).getD 0 : Nat) : Int))
theorem Mp.made (w : World) : Mp (w.alloc (.map #[] 0)) w.heap.size 0 (fun _ _ => none) :=
  ⟨_, World.ownsMap_made w _ _ _, fun s c kl _ => ⟨rfl, rfl⟩⟩
theorem Mp.lt {w : World} {M k : Nat} {G : Nat → Nat → Option Nat} (h : Mp w M k G) : M < w.heap.size := by
  obtain ⟨D, h, _⟩ := h; exact h.lt
theorem Mp.heap {w u : World} {M k : Nat} {G : Nat → Nat → Option Nat} (h : Mp w M k G) (e : u.heap[M]? = w.heap[M]?) : Mp u M k G := by
  obtain ⟨D, ⟨es, cl, hb, h2⟩, h3⟩ := h
  exact ⟨D, ⟨es, cl, e.trans hb, h2⟩, h3⟩
theorem Mp.isMap {w : World} {M k : Nat} {G : Nat → Nat → Option Nat} (h : Mp w M k G) : ∃ es cl, w.heap[M]? = some (.map es cl) := by
  obtain ⟨D, ⟨es, cl, hb, h2⟩, h3⟩ := h
  exact ⟨es, cl, hb⟩
theorem Mp.below {w u : World} {M k : Nat} {G : Nat → Nat → Option Nat} (h : Mp w M k G) (hb : Below w.heap.size w u) : Mp u M k G := h.heap (hb.block M h.lt)
theorem Mp.only {w u : World} {M k b : Nat} {G : Nat → Nat → Option Nat} (h : Mp w M k G) (hb : Only b w u) (hne : M ≠ b) : Mp u M k G := h.heap (hb.block M hne)
/-- A look-up. -/
theorem wpList_look (w : World) {ops : Array Oper} {rest : List Oper} {o : Oper} {a : Act} {Q : Exit → Act → World → Prop} (hg : o.guard = none) (m x : Operand) (hop : o.op = Op.lookup 44 m x true)
    (M k s c : Nat) (G : Nat → Nat → Option Nat) (hm : a.eval m = .map (some M)) (hown : Mp w M k G) (hx : a.eval x = .agg #[.int .i64 (s : Int), .int .u8 (c : Int)]) (hs : s < 9223372036854775808) (hc : c < 256) (r : Option Nat) (hr : G s c = r)
    (h : wpList Tryd.prog ops Q rest (a.put o.dst (.tuple #[.int .i64 ((r.getD 0 : Nat) : Int), .bool r.isSome])) w) : wpList Tryd.prog ops Q (o :: rest) a w := by
  obtain ⟨D, hD, hG⟩ := hown
  obtain ⟨kl, hk⟩ := key_way hs hc
  obtain ⟨g1, g2⟩ := hG s c kl hk
  subst hr
  refine wpList_lookup_own_ok_int w hg m x 44 hop 53 3 .i64 law71 Tryd.underlying44 Tryd.underlying3 (zero3 w) M k D hm hD (way s c) kl hx hk ?_
  intro v hv _
  rw [g2] at hv
  cases hv
  rw [g1]
  exact h
/-- A store. -/
theorem wpList_put (w : World) {ops : Array Oper} {rest : List Oper} {o : Oper} {a : Act} {Q : Exit → Act → World → Prop} (hg : o.guard = none) (m x v : Operand) (hop : o.op = Op.mapUpdate 44 m x v)
    (M k s c n : Nat) (G : Nat → Nat → Option Nat) (hm : a.eval m = .map (some M)) (hown : Mp w M k G) (hk : k < 140737488355328) (hx : a.eval x = .agg #[.int .i64 (s : Int), .int .u8 (c : Int)]) (hv : a.eval v = .int .i64 (n : Int)) (hs : s < 9223372036854775808) (hn : n < 9223372036854775808) (hc : c < 256)
    (h : ∀ w', Mp w' M (k + 1) (fun s' c' => if s' = s ∧ c' = c then some n else G s' c') → w.grownBy w' (some M) → wpList Tryd.prog ops Q rest (a.put o.dst undef) w') : wpList Tryd.prog ops Q (o :: rest) a w := by
  obtain ⟨D, hD, hG⟩ := hown
  obtain ⟨kl, hkl⟩ := key_way hs hc
  refine wpList_mapUpdate_own w hg m x v 44 hop 53 3 law71 Tryd.underlying44 _ M k D hm hD (by unfold maxLen; omega) (way s c) (.int .i64 (n : Int)) kl hx hv hkl _ [] (plainElem_int Tryd.underlying3 (WalkArith.wf_i64 (by omega))) ?_
  intro w' h1 h2
  refine h w' ⟨_, h1, ?_⟩ h2
  intro s' c' kl' hkl'
  by_cases e : s' = s ∧ c' = c
  · obtain ⟨rfl, rfl⟩ := e
    rw [hkl] at hkl'
    cases hkl'
    simp only []
    rw [if_pos ⟨trivial, trivial⟩]
    exact ⟨has_put_same hD.isMap (law71.key hkl) _, atKey_put_same hD.isMap (law71.key hkl) _ _⟩
  · have hne : kl' ≠ kl := fun e' => e (way_inj (law71.inj (e' ▸ hkl') hkl))
    simp only []
    rw [if_neg e, has_put_other hne, atKey_put_other hne]
    exact hG s' c' kl' hkl'
end Go.Proofs.YtbepbjbbhenphabDoor

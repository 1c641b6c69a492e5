/-
  Own texts of this seat, one behind the other: what each says stands ahead of it.
-/
import Derived.WalkKit
import Derived.WalkSmall
import Derived.Below
import Derived.Deep.Draws
import Derived.Test.YtpihipbeagpgpaaGreatDoorProg
import Derived.WideKeyArgs2
import Derived.DeepKeys4
import Derived.Maps.OwnSet
import Derived.KernelRfl
import Derived.Deep.LoopGhost
import Derived.BigQuiet
import Derived.Deep.CutBlock
import Derived.Deep.DeepCutAuto
import Derived.WalkMore
import Derived.WalkSpells
/-
 A block of cells that is known whole, and a world in which one block alone has turned: small laws, over any program.
-/
namespace Go.Proofs.YtpihipbeagpgpaaGreatDoor
open Go.RowKit

def Cells (w : World) (b : Nat) (cs : Array Value) (t : TypeId) : Prop := w.heap[b]? = some (.cells cs t)

structure Only (b : Nat) (w w' : World) : Prop where
 os : w'.os = w.os
 tape : w'.tape = w.tape
 output : w'.output = w.output
 size : w'.heap.size = w.heap.size
 block : ∀ k, k ≠ b → w'.heap[k]? = w.heap[k]?

theorem Only.refl (b : Nat) (w : World) : Only b w w := ⟨rfl, rfl, rfl, rfl, fun _ _ => rfl⟩
theorem Only.trans {b : Nat} {w u v : World} (h : Only b w u) (k : Only b u v) : Only b w v :=
 ⟨k.os.trans h.os, k.tape.trans h.tape, k.output.trans h.output, k.size.trans h.size, fun i hi => (k.block i hi).trans (h.block i hi)⟩
theorem Only.drewN {b : Nat} {w u : World} (h : Only b w u) (n : Nat) : Only b w (u.drewN n) := ⟨h.os, h.tape, h.output, h.size, h.block⟩
theorem Only.drew {b : Nat} {w u : World} (h : Only b w u) : Only b w u.drew := ⟨h.os, h.tape, h.output, h.size, h.block⟩
theorem Only.setCell {b : Nat} {w u : World} (h : Only b w u) (i : Nat) (v : Value) : Only b w (u.setCell ⟨b, i, none⟩ v) :=
 h.trans ⟨rfl, rfl, rfl, by simp [World.setCell], fun k hk => Below.heap_setCell _ _ _ _ hk⟩
theorem Only.below {b B : Nat} {w u : World} (h : Only b w u) (hB : B ≤ b) : Below B w u :=
 ⟨h.os, h.tape, h.output, Nat.le_of_eq h.size.symm, fun k hk => h.block k (by omega)⟩

theorem Cells.cell {w : World} {b : Nat} {cs : Array Value} {t : TypeId} (h : Cells w b cs t) (i : Nat) : w.cell? ⟨b, i, none⟩ = cs[i]? := by
 unfold Cells at h
 simp [World.cell?, h]
theorem Cells.frozen {w : World} {b : Nat} {cs : Array Value} {t : TypeId} (h : Cells w b cs t) (i : Nat) : w.frozen? ⟨b, i, none⟩ = false := by
 unfold Cells at h
 simp [World.frozen?, h]
theorem Cells.set {w : World} {b : Nat} {cs : Array Value} {t : TypeId} (h : Cells w b cs t) (i : Nat) (v : Value) : Cells (w.setCell ⟨b, i, none⟩ v) b (cs.setIfInBounds i v) t := by
 unfold Cells at *
 simp [World.setCell, Array.getElem?_modify, h]
theorem Cells.drewN {w : World} {b : Nat} {cs : Array Value} {t : TypeId} (h : Cells w b cs t) (n : Nat) : Cells (w.drewN n) b cs t := h
theorem Cells.drew {w : World} {b : Nat} {cs : Array Value} {t : TypeId} (h : Cells w b cs t) : Cells w.drew b cs t := h
theorem Cells.only {w u : World} {b c : Nat} {cs : Array Value} {t : TypeId} (h : Cells w b cs t) (k : Only c w u) (hb : b ≠ c) : Cells u b cs t := by
 unfold Cells at *
 rw [k.block b hb]; exact h
theorem Cells.below {w u : World} {b B : Nat} {cs : Array Value} {t : TypeId} (h : Cells w b cs t) (k : Below B w u) (hb : b < B) : Cells u b cs t := by
 unfold Cells at *
 rw [k.block b hb]; exact h
theorem Cells.lt {w : World} {b : Nat} {cs : Array Value} {t : TypeId} (h : Cells w b cs t) : b < w.heap.size := by
 unfold Cells at h
 exact (Array.getElem?_eq_some_iff.1 h).1
theorem Cells.new (w : World) (cs : Array Value) (t : TypeId) : Cells (w.alloc (.cells cs t)) w.heap.size cs t := by
 show (w.heap.push _)[_]? = _
 simp
theorem Cells.alloc {w : World} {b : Nat} {cs : Array Value} {t : TypeId} (h : Cells w b cs t) (o : Obj) : Cells (w.alloc o) b cs t := by
 have := h.lt
 unfold Cells at *
 rw [Below.heap_alloc w o b this]; exact h
end Go.Proofs.YtpihipbeagpgpaaGreatDoor

/-
 The table's map: its keys, a look-up and a store, told by a function of a length and a number.
-/
namespace Go.Proofs.YtpihipbeagpgpaaGreatDoor
open Go.RowKit Go.WideMaps Go.Maps
set_option linter.unusedVariables false
theorem laidOutK : laidOutB Tryz.prog = true := by kernel_rfl
theorem row70 : (191 : TypeId) < Tryz.prog.types.size := of_decide_eq_true (by kernel_rfl)
theorem cells70 : Tryz.prog.cellsOf 191 = 2 := by kernel_rfl
theorem cells34 : Tryz.prog.cellsOf 68 = 1 := by kernel_rfl
theorem key70 : Tryz.prog.keyType 191 = true := by kernel_rfl
theorem wide70 : (match Tryz.prog.underlying 191 with | some (.array _ _) | some (.struct _) => true | _ => false) = true := by kernel_rfl
set_option maxRecDepth 100000 in
theorem law70 : Keyed Tryz.prog 191 := Keyed.of_law (deep_law_laid laidOutK (m := 2) (by omega) row70 (by kernel_rfl) wide70)
def way (s c : Nat) : Value := .agg #[.int .u32 (s : Int), .int .u32 (c : Int)]
theorem zero3 (w : World) : (zeroValue 3).run Tryz.prog w = .ok (.int .i64 0) w := by kernel_rfl
theorem wf_u32 {n : Nat} (h : n < 4294967296) : (Lit.int .u32 (n : Int)).wf = true := WalkArith.wf_u32 (by omega)
theorem key_way {s c : Nat} (hs : s < 4294967296) (hc : c < 4294967296) : ∃ kl, keyOf Tryz.prog 191 (way s c) = some kl := by
 have h1 : (Lit.int .u32 (s : Int)).wf = true := wf_u32 hs
 have h2 : (Lit.int .u32 (c : Int)).wf = true := wf_u32 hc
 obtain ⟨T, hT⟩ : ∃ T, Tryz.prog.types.size = T + 2 := ⟨Tryz.prog.types.size - 2, by have : 2 ≤ Tryz.prog.types.size := of_decide_eq_true (by kernel_rfl); omega⟩
 have hf : (way s c).formed Tryz.prog 191 = true := by simp [way, Value.formed, Tryz.underlying191, cells70]
 unfold keyOf
 rw [Tryz.underlying191, key70, hf, hT]
 have e1 : Tryz.prog.keyLits (T + 1 + 1) 68 [.int .u32 (s : Int)] = some [.int .u32 (s : Int)] := by
  unfold Program.keyLits; rw [Tryz.underlying68]; simp only [h1, and_self, if_true]
 have e2 : Tryz.prog.keyLits (T + 1 + 1) 68 [.int .u32 (c : Int)] = some [.int .u32 (c : Int)] := by
  unfold Program.keyLits; rw [Tryz.underlying68]; simp only [h2, and_self, if_true]
 have e3 : ∃ ls, Tryz.prog.keyLits (T + 2 + 1) 191 (way s c).cells.toList = some ls := by
  unfold Program.keyLits
  rw [Tryz.underlying191, cells70]
  refine ⟨[.int .u32 (s : Int), .int .u32 (c : Int)], ?_⟩
  simp [way, Value.cells, cells34, e1, e2]
 obtain ⟨ls, hls⟩ := e3
 exact ⟨.string (keyBytes ls), by simp only [Bool.and_self, if_true, hls, Option.map_some]⟩
theorem way_inj {s c s' c' : Nat} (h : way s c = way s' c') : s = s' ∧ c = c' := by
 unfold way at h
 simp at h
 omega
def Mp (w : World) (M k : Nat) (G : Nat → Nat → Option Int) : Prop :=
 ∃ D : DataW Unit, w.ownsMap Tryz.prog 191 (plainElem Tryz.prog 3) M k D ∧ ∀ (s c : Nat) (kl : Lit), keyOf Tryz.prog 191 (way s c) = some kl → Maps.has D kl = (G s c).isSome ∧ D.atKey kl (.lit (.int .i64 0)) = .lit (.int .i64 ((G s c).getD 0))
theorem Mp.made (w : World) : Mp (w.alloc (.map #[] 0)) w.heap.size 0 (fun _ _ => none) :=
 ⟨_, World.ownsMap_made w _ _ _, fun s c kl _ => ⟨rfl, rfl⟩⟩
theorem Mp.lt {w : World} {M k : Nat} {G : Nat → Nat → Option Int} (h : Mp w M k G) : M < w.heap.size := by
 obtain ⟨D, h, _⟩ := h; exact h.lt
theorem Mp.heap {w u : World} {M k : Nat} {G : Nat → Nat → Option Int} (h : Mp w M k G) (e : u.heap[M]? = w.heap[M]?) : Mp u M k G := by
 obtain ⟨D, ⟨es, cl, hb, h2⟩, h3⟩ := h
 exact ⟨D, ⟨es, cl, e.trans hb, h2⟩, h3⟩
theorem Mp.only {w u : World} {M k b : Nat} {G : Nat → Nat → Option Int} (h : Mp w M k G) (hb : Only b w u) (hne : M ≠ b) : Mp u M k G := h.heap (hb.block M hne)
theorem Mp.drew {w : World} {M k : Nat} {G : Nat → Nat → Option Int} (h : Mp w M k G) : Mp w.drew M k G := h
theorem Mp.congr {w : World} {M k : Nat} {G G' : Nat → Nat → Option Int} (h : Mp w M k G) (e : ∀ s c, G s c = G' s c) : Mp w M k G' := by
 have : G = G' := by funext s c; exact e s c
 rw [← this]; exact h
theorem run_look (w : World) (M k s c : Nat) (G : Nat → Nat → Option Int) (hown : Mp w M k G) (hs : s < 4294967296) (hc : c < 4294967296) (r : Option Int) (hr : G s c = r) :
  (Instr.lookup 185 (.map (some M)) (.agg #[.int .u32 (s : Int), .int .u32 (c : Int)]) true).run Tryz.prog w = .ok (.tuple #[.int .i64 (r.getD 0), .bool r.isSome]) w := by
 obtain ⟨D, hD, hG⟩ := hown
 obtain ⟨kl, hk⟩ := key_way hs hc
 obtain ⟨g1, g2⟩ := hG s c kl hk
 subst hr
 obtain ⟨v, ps, hrun, hv⟩ := hD.look_ok law70 Tryz.underlying185 (zero3 w) (plainElem_int Tryz.underlying3 (by decide)) hk
 obtain ⟨z, rfl, hz, _⟩ := plainElem_int_inv Tryz.underlying3 hv
 have hz2 := congrArg Prod.fst hz
 simp only [] at hz2
 rw [g2] at hz2
 cases hz2
 rw [g1] at hrun
 exact hrun
theorem run_put (w : World) (M k s c : Nat) (n : Int) (G : Nat → Nat → Option Int) (hown : Mp w M k G) (hk : k < 140737488355328) (hs : s < 4294967296) (hc : c < 4294967296) (hn : (Lit.int .i64 n).wf = true) :
  ∃ w', (Instr.mapUpdate 185 (.map (some M)) (.agg #[.int .u32 (s : Int), .int .u32 (c : Int)]) (.int .i64 n)).run Tryz.prog w = .ok () w' ∧ Mp w' M (k + 1) (fun s' c' => if s' = s ∧ c' = c then some n else G s' c') ∧ w.grownBy w' (some M) := by
 obtain ⟨D, hD, hG⟩ := hown
 obtain ⟨kl, hkl⟩ := key_way hs hc
 obtain ⟨w', hrun, h1, h2⟩ := hD.update law70 Tryz.underlying185 (by unfold maxLen; omega) hkl (plainElem_int Tryz.underlying3 hn)
 refine ⟨w', hrun, ⟨_, h1, ?_⟩, h2⟩
 intro s' c' kl' hkl'
 by_cases e : s' = s ∧ c' = c
 ·obtain ⟨rfl, rfl⟩ := e
  rw [hkl] at hkl'
  cases hkl'
  simp only []
  rw [if_pos ⟨trivial, trivial⟩]
  exact ⟨has_put_same hD.isMap (law70.key hkl) _, atKey_put_same hD.isMap (law70.key hkl) _ _⟩
 ·have hne : kl' ≠ kl := fun e' => e (way_inj (law70.inj (e' ▸ hkl') hkl))
  simp only []
  rw [if_neg e, has_put_other hne, atKey_put_other hne]
  exact hG s' c' kl' hkl'
end Go.Proofs.YtpihipbeagpgpaaGreatDoor

/-
 The mathematics of the chapter on codes, no walk in it: the first codes of each length, a symbol's code, that no code begins another one, and that full lengths leave no gap.
-/
namespace Go.Proofs.YtpihipbeagpgpaaGreatDoor
set_option linter.unusedVariables false
def part (ls : List Nat) : Nat → Nat
 | 0 => 0
 | n + 1 => 2 * part ls n + ls.count (n + 1)
def first (ls : List Nat) : Nat → Nat
 | 0 => 0
 | n + 1 => 2 * part ls n
def code (ls : List Nat) (i n : Nat) : Nat := first ls n + (ls.take i).count n
def kr : List Nat → Nat
 | [] => 0
 | l :: ls => (if l = 0 then 0 else 2 ^ (15 - l)) + kr ls
theorem first_le (ls : List Nat) : ∀ n, 0 < n → part ls n = first ls n + ls.count n
 | 0, h => by omega
 | n + 1, _ => rfl
theorem part_cons (l : Nat) (ls : List Nat) : ∀ n, part (l :: ls) n = part ls n + (if 0 < l ∧ l ≤ n then 2 ^ (n - l) else 0)
 | 0 => by
  rw [if_neg (by omega)]; rfl
 | n + 1 => by
  have ih := part_cons l ls n
  rw [part, part, ih, List.count_cons]
  by_cases h : l = n + 1
  ·have e1 : (if 0 < l ∧ l ≤ n then 2 ^ (n - l) else 0) = 0 := if_neg (by omega)
   have e2 : (if 0 < l ∧ l ≤ n + 1 then 2 ^ (n + 1 - l) else 0) = 1 := by rw [if_pos (by omega), h, Nat.sub_self, Nat.pow_zero]
   have e3 : (if (l == n + 1) = true then 1 else 0) = 1 := if_pos (by rw [beq_iff_eq]; exact h)
   rw [e1, e2, e3]; omega
  ·have e3 : (if (l == n + 1) = true then 1 else 0) = 0 := if_neg (by rw [beq_iff_eq]; exact h)
   by_cases h2 : 0 < l ∧ l ≤ n
   ·have e1 : (if 0 < l ∧ l ≤ n then 2 ^ (n - l) else 0) = 2 ^ (n - l) := if_pos h2
    have e2 : (if 0 < l ∧ l ≤ n + 1 then 2 ^ (n + 1 - l) else 0) = 2 ^ (n - l) * 2 := by rw [if_pos (by omega), show n + 1 - l = (n - l) + 1 by omega, Nat.pow_succ]
    rw [e1, e2, e3]; omega
   ·have e1 : (if 0 < l ∧ l ≤ n then 2 ^ (n - l) else 0) = 0 := if_neg h2
    have e2 : (if 0 < l ∧ l ≤ n + 1 then 2 ^ (n + 1 - l) else 0) = 0 := if_neg (by omega)
    rw [e1, e2, e3]; omega
theorem part_nil : ∀ n, part [] n = 0
 | 0 => rfl
 | n + 1 => by rw [part, part_nil n]; rfl
theorem kr_part : ∀ {ls : List Nat}, (∀ l ∈ ls, l ≤ 15) → kr ls = part ls 15
 | [], _ => (part_nil 15).symm
 | l :: ls, h => by
  have ih := kr_part (ls := ls) (fun x hx => h x (by simp [hx]))
  have hl := h l (by simp)
  rw [part_cons, kr, ih]
  by_cases h0 : l = 0
  ·rw [if_pos h0, if_neg (by omega)]; omega
  ·rw [if_neg h0, if_pos (by omega)]; omega
theorem part_up (ls : List Nat) (n : Nat) : ∀ d, part ls n * 2 ^ d ≤ part ls (n + d)
 | 0 => by simp
 | d + 1 => by
  have ih := part_up ls n d
  have : n + (d + 1) = (n + d) + 1 := by omega
  rw [this, part, Nat.pow_succ, ← Nat.mul_assoc]
  omega
theorem part_fits {ls : List Nat} (h : part ls 15 ≤ 32768) {n : Nat} (hn : n ≤ 15) : part ls n ≤ 2 ^ n := by
 have h1 := part_up ls n (15 - n)
 rw [show n + (15 - n) = 15 by omega] at h1
 have h2 : (2 : Nat) ^ n * 2 ^ (15 - n) = 32768 := by rw [← Nat.pow_add, show n + (15 - n) = 15 by omega]
 have h3 : 0 < (2 : Nat) ^ (15 - n) := Nat.pow_pos (by decide)
 apply Decidable.byContradiction
 intro hc
 have h4 : (2 ^ n + 1) * 2 ^ (15 - n) ≤ part ls n * 2 ^ (15 - n) := Nat.mul_le_mul_right _ (by omega)
 rw [Nat.add_mul, h2] at h4
 omega
theorem rank_lt {ls : List Nat} {i n : Nat} (h : ls[i]? = some n) : (ls.take i).count n < ls.count n := by
 have hi := (List.getElem?_eq_some_iff.1 h).1
 have e : ls = ls.take i ++ n :: ls.drop (i + 1) := by
  have h1 : ls.drop i = n :: ls.drop (i + 1) := by
   rw [List.drop_eq_getElem_cons hi]
   have := (List.getElem?_eq_some_iff.1 h).2
   rw [this]
  rw [← h1, List.take_append_drop]
 have h2 : ls.count n = (ls.take i).count n + (n :: ls.drop (i + 1)).count n := by
  rw [← List.count_append, ← e]
 rw [h2, List.count_cons_self]
 omega
theorem rank_step {ls : List Nat} {i n : Nat} (h : ls[i]? = some n) (m : Nat) : (ls.take (i + 1)).count m = (ls.take i).count m + (if n = m then 1 else 0) := by
 rw [List.take_add_one, h]
 simp only [Option.toList_some, List.count_append, List.count_cons, List.count_nil, Nat.zero_add]
 by_cases e : n = m
 ·subst e; simp
 ·simp [e]
theorem rank_mono {ls : List Nat} {i j : Nat} (m : Nat) (h : i ≤ j) : (ls.take i).count m ≤ (ls.take j).count m := by
 have e : ls.take i = (ls.take j).take i := by rw [List.take_take, Nat.min_eq_left h]
 rw [e]
 exact List.Sublist.count_le _ (List.take_sublist _ _)
theorem rank_inj {ls : List Nat} {i j n : Nat} (hi : ls[i]? = some n) (hj : ls[j]? = some n) (h : (ls.take i).count n = (ls.take j).count n) : i = j := by
 rcases Nat.lt_trichotomy i j with hlt | e | hlt
 ·have h1 := rank_step hi n
  have h2 := rank_mono (ls := ls) n (show i + 1 ≤ j by omega)
  rw [if_pos rfl] at h1
  omega
 ·exact e
 ·have h1 := rank_step hj n
  have h2 := rank_mono (ls := ls) n (show j + 1 ≤ i by omega)
  rw [if_pos rfl] at h1
  omega
theorem code_lt {ls : List Nat} {i n : Nat} (h : ls[i]? = some n) (h0 : 0 < n) : first ls n ≤ code ls i n ∧ code ls i n < part ls n := by
 have h1 := rank_lt h
 have h2 := first_le ls n h0
 unfold code
 omega
theorem code_fits {ls : List Nat} {i n : Nat} (hk : part ls 15 ≤ 32768) (h : ls[i]? = some n) (h0 : 0 < n) (hn : n ≤ 15) : code ls i n < 2 ^ n := by
 have h1 := code_lt h h0
 have h2 := part_fits hk hn
 omega
theorem div_pow_le {a b d : Nat} (h : a * 2 ^ d ≤ b) : a ≤ b / 2 ^ d := (Nat.le_div_iff_mul_le (Nat.pow_pos (by decide))).2 h
theorem code_apart {ls : List Nat} {i j n m : Nat} (hi : ls[i]? = some n) (hj : ls[j]? = some m) (hn : 0 < n) (hnm : n ≤ m) (h : code ls j m / 2 ^ (m - n) = code ls i n) : i = j := by
 rcases Nat.lt_or_ge n m with hlt | hge
 ·exfalso
  have h1 := (code_lt hi hn).2
  have h2 := (code_lt hj (by omega)).1
  obtain ⟨d, rfl⟩ : ∃ d, m = n + d + 1 := ⟨m - n - 1, by omega⟩
  have h3 := part_up ls n d
  have h4 : part ls n * 2 ^ (d + 1) ≤ code ls j (n + d + 1) := by
   have : first ls (n + d + 1) = 2 * part ls (n + d) := rfl
   rw [Nat.pow_succ, ← Nat.mul_assoc]
   omega
  have h5 := div_pow_le h4
  rw [show n + d + 1 - n = d + 1 by omega] at h
  omega
 ·have e : n = m := by omega
  subst e
  rw [Nat.sub_self, Nat.pow_zero, Nat.div_one] at h
  unfold code at h
  exact (rank_inj hj hi (by omega)).symm
end Go.Proofs.YtpihipbeagpgpaaGreatDoor

/-
 Codes as lists of bits, first bit first; what a run of bits begins with. No walk in this text.
-/
namespace Go.Proofs.YtpihipbeagpgpaaGreatDoor
set_option linter.unusedVariables false
def num : List Bool → Nat
 | [] => 0
 | b :: l => (if b then 2 ^ l.length else 0) + num l
def bitsB : Nat → Nat → List Bool
 | 0, _ => []
 | n + 1, x => (x / 2 ^ n % 2 == 1) :: bitsB n x
theorem bitsB_len : ∀ n x, (bitsB n x).length = n
 | 0, _ => rfl
 | n + 1, x => by rw [bitsB, List.length_cons, bitsB_len n x]
theorem num_lt : ∀ l : List Bool, num l < 2 ^ l.length
 | [] => by simp [num]
 | b :: l => by
  have := num_lt l
  rw [num, List.length_cons, Nat.pow_succ]
  cases b <;> simp <;> omega
theorem num_bits : ∀ n x, num (bitsB n x) = x % 2 ^ n
 | 0, x => by simp [bitsB, num, Nat.mod_one]
 | n + 1, x => by
  rw [bitsB, num, bitsB_len, num_bits n x, Nat.pow_succ, Nat.mod_mul]
  have h2 : x / 2 ^ n % 2 = 0 ∨ x / 2 ^ n % 2 = 1 := by omega
  rcases h2 with h | h
  ·rw [h]; simp
  ·rw [h]; simp; omega
theorem num_app : ∀ (l m : List Bool), num (l ++ m) = num l * 2 ^ m.length + num m
 | [], m => by simp [num]
 | b :: l, m => by
  rw [List.cons_append, num, num, num_app l m, List.length_append, Nat.pow_add]
  cases b
  ·simp
  ·simp [Nat.add_mul]; omega
theorem num_inj : ∀ {l m : List Bool}, l.length = m.length → num l = num m → l = m
 | [], [], _, _ => rfl
 | [], _ :: _, h, _ => by simp at h
 | _ :: _, [], h, _ => by simp at h
 | b :: l, c :: m, h, e => by
  have hl : l.length = m.length := by simpa using h
  have h1 := num_lt l
  have h2 := num_lt m
  rw [num, num, hl] at e
  rw [hl] at h1
  have hbc : b = c := by cases b <;> cases c <;> simp at e ⊢ <;> omega
  subst hbc
  rw [num_inj hl (by omega)]
theorem bits_num {l : List Bool} {n : Nat} (h : l.length = n) : bitsB n (num l) = l := by
 apply num_inj
 ·rw [bitsB_len, h]
 ·rw [num_bits, ← h, Nat.mod_eq_of_lt (num_lt l)]
theorem bits_prefix {n x : Nat} {h : List Bool} (hx : x < 2 ^ n) : bitsB n x <+: h ↔ n ≤ h.length ∧ num (h.take n) = x := by
 constructor
 ·rintro ⟨r, rfl⟩
  refine ⟨by rw [List.length_append, bitsB_len]; omega, ?_⟩
  rw [List.take_left' (bitsB_len n x), num_bits, Nat.mod_eq_of_lt hx]
 ·rintro ⟨h1, h2⟩
  have : bitsB n x = h.take n := by rw [← h2]; exact bits_num (by rw [List.length_take]; omega)
  rw [this]; exact List.take_prefix _ _
theorem prefix_bits {m y : Nat} {h : List Bool} (hy : y < 2 ^ m) : h <+: bitsB m y ↔ h.length ≤ m ∧ y / 2 ^ (m - h.length) = num h := by
 constructor
 ·rintro ⟨r, hr⟩
  have hlen : h.length + r.length = m := by have := congrArg List.length hr; rw [List.length_append, bitsB_len] at this; exact this
  refine ⟨by omega, ?_⟩
  have hn : num (h ++ r) = y := by rw [hr, num_bits, Nat.mod_eq_of_lt hy]
  rw [num_app] at hn
  rw [← hn, show m - h.length = r.length by omega, Nat.mul_comm, Nat.mul_add_div (Nat.pow_pos (by decide)), Nat.div_eq_of_lt (num_lt r)]
  omega
 ·rintro ⟨h1, h2⟩
  refine ⟨bitsB (m - h.length) y, num_inj ?_ ?_⟩
  ·rw [List.length_append, bitsB_len, bitsB_len]; omega
  ·rw [num_app, bitsB_len, num_bits, num_bits, Nat.mod_eq_of_lt hy, ← h2, Nat.mul_comm]
   exact Nat.div_add_mod y (2 ^ (m - h.length))
def cbits (ls : List Nat) (i : Nat) : List Bool := match ls[i]? with
 | some n => bitsB n (code ls i n)
 | none => []
def Hit (ls : List Nat) (h : List Bool) (i n : Nat) : Prop := ls[i]? = some n ∧ 0 < n ∧ n ≤ h.length ∧ num (h.take n) = code ls i n
def May (ls : List Nat) (h : List Bool) : Prop := ∃ i n, ls[i]? = some n ∧ 0 < n ∧ h.length ≤ n ∧ code ls i n / 2 ^ (n - h.length) = num h
theorem take_num {h : List Bool} {n m : Nat} (hnm : n ≤ m) (hm : m ≤ h.length) : num (h.take n) = num (h.take m) / 2 ^ (m - n) := by
 have e : h.take m = h.take n ++ (h.take m).drop n := by
  have h1 : (h.take m).take n = h.take n := by rw [List.take_take, Nat.min_eq_left hnm]
  rw [← h1, List.take_append_drop]
 have hl : ((h.take m).drop n).length = m - n := by rw [List.length_drop, List.length_take]; omega
 have h2 := num_app (h.take n) ((h.take m).drop n)
 rw [← e, hl] at h2
 have h3 := num_lt ((h.take m).drop n)
 rw [hl] at h3
 rw [h2, Nat.mul_comm, Nat.mul_add_div (Nat.pow_pos (by decide)), Nat.div_eq_of_lt h3]
 omega
theorem hit_one {ls : List Nat} {h : List Bool} {i j n m : Nat} (hi : Hit ls h i n) (hj : Hit ls h j m) : i = j ∧ n = m := by
 obtain ⟨a1, a2, a3, a4⟩ := hi
 obtain ⟨b1, b2, b3, b4⟩ := hj
 have key : i = j := by
  rcases Nat.le_total n m with hnm | hnm
  ·exact code_apart a1 b1 a2 hnm (by rw [← b4, ← a4]; exact (take_num hnm b3).symm)
  ·exact (code_apart b1 a1 b2 hnm (by rw [← a4, ← b4]; exact (take_num hnm a3).symm)).symm
 subst key
 rw [a1] at b1
 exact ⟨rfl, Option.some.inj b1⟩
theorem hit_prefix {ls : List Nat} {h : List Bool} {i n : Nat} (hk : part ls 15 ≤ 32768) (h15 : ∀ l ∈ ls, l ≤ 15) (hi : ls[i]? = some n) (h0 : 0 < n) : cbits ls i <+: h ↔ Hit ls h i n := by
 unfold cbits
 rw [hi]
 show bitsB n (code ls i n) <+: h ↔ _
 rw [bits_prefix (code_fits hk hi h0 (h15 n (List.mem_of_getElem? hi)))]
 exact ⟨fun ⟨a, b⟩ => ⟨hi, h0, a, b⟩, fun ⟨_, _, a, b⟩ => ⟨a, b⟩⟩
theorem may_prefix {ls : List Nat} {h : List Bool} {i n : Nat} (hk : part ls 15 ≤ 32768) (h15 : ∀ l ∈ ls, l ≤ 15) (hi : ls[i]? = some n) (h0 : 0 < n) : h <+: cbits ls i ↔ h.length ≤ n ∧ code ls i n / 2 ^ (n - h.length) = num h := by
 unfold cbits
 rw [hi]
 show h <+: bitsB n (code ls i n) ↔ _
 exact prefix_bits (code_fits hk hi h0 (h15 n (List.mem_of_getElem? hi)))
end Go.Proofs.YtpihipbeagpgpaaGreatDoor

/-
 What the program's map holds when the codes of the first symbols have been laid: each code's symbol, and -1 at all beginnings of codes. No walk in this text.
-/
namespace Go.Proofs.YtpihipbeagpgpaaGreatDoor
set_option linter.unusedVariables false
structure Laidm (ls : List Nat) (i : Nat) (G : Nat → Nat → Option Int) : Prop where
 sym : ∀ (s n : Nat), s < i → ls[s]? = some n → 0 < n → G n (code ls s n) = some (s : Int)
 beg : ∀ (j m n : Nat), j < i → ls[j]? = some m → n < m → G n (code ls j m / 2 ^ (m - n)) = some (-1)
 all : ∀ (n x : Nat) (v : Int), G n x = some v → (∃ s : Nat, s < i ∧ ls[s]? = some n ∧ 0 < n ∧ code ls s n = x ∧ v = (s : Int)) ∨ (∃ j m : Nat, j < i ∧ ls[j]? = some m ∧ n < m ∧ code ls j m / 2 ^ (m - n) = x ∧ v = -1)
theorem Laidm.none (ls : List Nat) : Laidm ls 0 (fun _ _ => Option.none) :=
 ⟨fun s n h => by omega, fun j m n h => by omega, fun n x v h => by cases h⟩
theorem Laidm.skip {ls : List Nat} {i : Nat} {G : Nat → Nat → Option Int} (h : Laidm ls i G) (hi : ls[i]? = some 0) : Laidm ls (i + 1) G := by
 refine ⟨fun s n hs hn h0 => ?_, fun j m n hj hm hnm => ?_, fun n x v hv => ?_⟩
 ·rcases (show s < i ∨ s = i by omega) with h1 | rfl
  ·exact h.sym s n h1 hn h0
  ·rw [hi] at hn; cases hn; omega
 ·rcases (show j < i ∨ j = i by omega) with h1 | rfl
  ·exact h.beg j m n h1 hm hnm
  ·rw [hi] at hm; cases hm; omega
 ·rcases h.all n x v hv with ⟨s, h1, h2⟩ | ⟨j, m, h1, h2⟩
  ·exact Or.inl ⟨s, by omega, h2⟩
  ·exact Or.inr ⟨j, m, by omega, h2⟩
def lp (i m c p : Nat) (G : Nat → Nat → Option Int) (n x : Nat) : Option Int :=
 if n = m ∧ x = c then some (i : Int) else if p ≤ n ∧ n < m ∧ x = c / 2 ^ (m - n) then some (-1) else G n x
theorem lp_first (i m c : Nat) (G : Nat → Nat → Option Int) (n x : Nat) : (if n = m ∧ x = c then some (i : Int) else G n x) = lp i m c m G n x := by
 unfold lp
 by_cases h : n = m ∧ x = c
 ·rw [if_pos h, if_pos h]
 ·rw [if_neg h, if_neg h, if_neg (by omega)]
theorem lp_next {i m c p : Nat} (G : Nat → Nat → Option Int) (hp : p < m) (n x : Nat) : (if n = p ∧ x = c / 2 ^ (m - p) then some (-1) else lp i m c (p + 1) G n x) = lp i m c p G n x := by
 unfold lp
 by_cases h1 : n = p ∧ x = c / 2 ^ (m - p)
 ·obtain ⟨rfl, rfl⟩ := h1
  rw [if_pos ⟨rfl, rfl⟩, if_neg (by omega), if_pos ⟨Nat.le_refl _, hp, rfl⟩]
 ·rw [if_neg h1]
  by_cases h2 : n = m ∧ x = c
  ·rw [if_pos h2, if_pos h2]
  ·rw [if_neg h2, if_neg h2]
   by_cases h3 : p + 1 ≤ n ∧ n < m ∧ x = c / 2 ^ (m - n)
   ·rw [if_pos h3, if_pos ⟨by omega, h3.2⟩]
   ·rw [if_neg h3, if_neg]
    rintro ⟨a, b, d⟩
    rcases (show p + 1 ≤ n ∨ n = p by omega) with e | rfl
    ·exact h3 ⟨e, b, d⟩
    ·exact h1 ⟨rfl, d⟩
theorem lp_below {i m c p n x : Nat} (G : Nat → Nat → Option Int) (hn : n < p) (hp : p ≤ m) : lp i m c p G n x = G n x := by
 unfold lp; rw [if_neg (by omega), if_neg (by omega)]
theorem Laidm.put {ls : List Nat} {i m c p : Nat} {G : Nat → Nat → Option Int} (h : Laidm ls i G) (hi : ls[i]? = some m) (hm : 0 < m) (hc : code ls i m = c) (hp : p ≤ m)
  (hend : 0 < p → (G (p - 1) (c / 2 ^ (m - (p - 1)))).isSome = true) : Laidm ls (i + 1) (lp i m c p G) := by
 subst hc
 refine ⟨fun s n hs hn h0 => ?_, fun j m' n hj hm' hnm => ?_, fun n x v hv => ?_⟩
 ·rcases (show s < i ∨ s = i by omega) with h1 | rfl
  ·unfold lp
   rw [if_neg, if_neg, h.sym s n h1 hn h0]
   ·rintro ⟨a, b, d⟩
    have := code_apart hn hi h0 (by omega) d.symm
    omega
   ·rintro ⟨rfl, d⟩
    have := code_apart hn hi h0 (Nat.le_refl _) (by rw [Nat.sub_self, Nat.pow_zero, Nat.div_one]; exact d.symm)
    omega
  ·rw [hi] at hn; cases hn
   unfold lp
   rw [if_pos ⟨rfl, rfl⟩]
 ·rcases (show j < i ∨ j = i by omega) with h1 | rfl
  ·unfold lp
   rw [if_neg]
   ·split
    ·rfl
    ·exact h.beg j m' n h1 hm' hnm
   ·rintro ⟨rfl, d⟩
    have := code_apart hi hm' hm (by omega) d
    omega
  ·rw [hi] at hm'; cases hm'
   unfold lp
   rw [if_neg (by omega)]
   by_cases hpn : p ≤ n
   ·rw [if_pos ⟨hpn, hnm, rfl⟩]
   ·rw [if_neg (by omega)]
    have hs := hend (by omega)
    obtain ⟨v, hv⟩ := Option.isSome_iff_exists.1 hs
    rcases h.all _ _ v hv with ⟨s, h1, h2, h3, h4, h5⟩ | ⟨j', m', h1, h2, h3, h4, h5⟩
    ·have := code_apart h2 hi h3 (by omega) h4.symm
     omega
    ·have hb := h.beg j' m' n h1 h2 (by omega)
     have e1 : code ls j' m' / 2 ^ (m' - n) = code ls j' m' / 2 ^ (m' - (p - 1)) / 2 ^ (p - 1 - n) := by
      rw [Nat.div_div_eq_div_mul, ← Nat.pow_add, show m' - (p - 1) + (p - 1 - n) = m' - n by omega]
     have e2 : code ls j m / 2 ^ (m - n) = code ls j m / 2 ^ (m - (p - 1)) / 2 ^ (p - 1 - n) := by
      rw [Nat.div_div_eq_div_mul, ← Nat.pow_add, show m - (p - 1) + (p - 1 - n) = m - n by omega]
     rw [e2, ← h4, ← e1]
     exact hb
 ·unfold lp at hv
  split at hv
  ·rename_i e
   obtain ⟨rfl, rfl⟩ := e
   cases hv
   exact Or.inl ⟨i, by omega, hi, hm, rfl, rfl⟩
  ·split at hv
   ·rename_i e
    cases hv
    exact Or.inr ⟨i, m, by omega, hi, e.2.1, e.2.2.symm, rfl⟩
   ·rcases h.all n x v hv with ⟨s, h1, h2⟩ | ⟨j, m', h1, h2⟩
    ·exact Or.inl ⟨s, by omega, h2⟩
    ·exact Or.inr ⟨j, m', by omega, h2⟩
theorem Laidm.hit {ls : List Nat} {G : Nat → Nat → Option Int} (h : Laidm ls ls.length G) {l : List Bool} {n : Nat} {v : Int} (hn : n ≤ l.length) (hv : G n (num (l.take n)) = some v) (h1 : v ≠ -1) : ∃ s : Nat, v = (s : Int) ∧ Hit ls l s n := by
 rcases h.all _ _ v hv with ⟨s, a1, a2, a3, a4, a5⟩ | ⟨j, m, a1, a2, a3, a4, a5⟩
 ·exact ⟨s, a5, a2, a3, hn, a4.symm⟩
 ·exact absurd a5 h1
theorem lt_of_at {ls : List Nat} {s n : Nat} (h : ls[s]? = some n) : s < ls.length := (List.getElem?_eq_some_iff.1 h).1
theorem Laidm.of_hit {ls : List Nat} {G : Nat → Nat → Option Int} (h : Laidm ls ls.length G) {l : List Bool} {s k : Nat} (hh : Hit ls l s k) : G k (num (l.take k)) = some (s : Int) := by
 obtain ⟨a1, a2, a3, a4⟩ := hh
 rw [a4]
 exact h.sym s k (lt_of_at a1) a1 a2
theorem Laidm.bad {ls : List Nat} {G : Nat → Nat → Option Int} (h : Laidm ls ls.length G) {l : List Bool} {n : Nat} (hn : n ≤ l.length) (hb : ∀ k, k < n → G k (num (l.take k)) = some (-1)) (hno : G n (num (l.take n)) = Option.none) :
  (∀ i k, ¬ Hit ls l i k) ∧ ¬ May ls l := by
 refine ⟨fun s k hh => ?_, ?_⟩
 ·have hs := h.of_hit hh
  rcases Nat.lt_trichotomy k n with hlt | rfl | hgt
  ·rw [hb k hlt] at hs; injection hs with hs; omega
  ·rw [hno] at hs; cases hs
  ·have := h.beg s k n (lt_of_at hh.1) hh.1 hgt
   rw [← hh.2.2.2, ← take_num (by omega) hh.2.2.1, hno] at this
   cases this
 ·rintro ⟨j, m, h1, h2, h3, h4⟩
  rcases (show n < m ∨ n = m by omega) with hlt | rfl
  ·have := h.beg j m n (lt_of_at h1) h1 hlt
   have e : code ls j m / 2 ^ (m - n) = num (l.take n) := by
    have e1 := take_num (h := l) hn (Nat.le_refl _)
    rw [List.take_length, ← h4, Nat.div_div_eq_div_mul, ← Nat.pow_add, show m - l.length + (l.length - n) = m - n by omega] at e1
    exact e1.symm
   rw [e, hno] at this
   cases this
  ·have e : n = l.length := by omega
   have := h.sym j n (lt_of_at h1) h1 h2
   rw [e, Nat.sub_self, Nat.pow_zero, Nat.div_one] at h4
   rw [e] at this hno
   rw [List.take_length] at hno
   rw [h4, hno] at this
   cases this
theorem Laidm.more {ls : List Nat} {G : Nat → Nat → Option Int} (h : Laidm ls ls.length G) (h15 : ∀ x ∈ ls, x ≤ 15) {l : List Bool} {n : Nat} (hn : n = min l.length 15) (hb : ∀ k, k ≤ n → G k (num (l.take k)) = some (-1)) :
  n = l.length ∧ (∀ i k, ¬ Hit ls l i k) ∧ May ls l := by
 rcases h.all _ _ _ (hb n (Nat.le_refl _)) with ⟨s, a1, a2, a3, a4, a5⟩ | ⟨j, m, a1, a2, a3, a4, a5⟩
 ·omega
 ·have := h15 m (List.mem_of_getElem? a2)
  have e : n = l.length := by omega
  refine ⟨e, fun s k hh => ?_, j, m, a2, by omega, by omega, ?_⟩
  ·have hs := h.of_hit hh
   rw [hb k (by have := hh.2.2.1; omega)] at hs
   injection hs with hs; omega
  ·rw [← e, a4, e, List.take_length]
end Go.Proofs.YtpihipbeagpgpaaGreatDoor

/-
 The program's table while it is laid, and what laying a symbol's code comes to.
-/
namespace Go.Proofs.YtpihipbeagpgpaaGreatDoor
open Go.RowKit
set_option linter.unusedVariables false
structure Two (g M : Nat) (w w' : World) : Prop where
 os : w'.os = w.os
 tape : w'.tape = w.tape
 output : w'.output = w.output
 size : w.heap.size ≤ w'.heap.size
 block : ∀ k, k < w.heap.size → k ≠ g → k ≠ M → w'.heap[k]? = w.heap[k]?
theorem Two.refl (g M : Nat) (w : World) : Two g M w w := ⟨rfl, rfl, rfl, Nat.le_refl _, fun _ _ _ _ => rfl⟩
theorem Two.trans {g M : Nat} {w u v : World} (h : Two g M w u) (k : Two g M u v) : Two g M w v :=
 ⟨k.os.trans h.os, k.tape.trans h.tape, k.output.trans h.output, Nat.le_trans h.size k.size, fun i hi h1 h2 => (k.block i (Nat.lt_of_lt_of_le hi h.size) h1 h2).trans (h.block i hi h1 h2)⟩
theorem Two.drew {g M : Nat} {w u : World} (h : Two g M w u) : Two g M w u.drew := ⟨h.os, h.tape, h.output, h.size, h.block⟩
theorem Two.alloc {g M : Nat} {w u : World} (h : Two g M w u) (o : Obj) : Two g M w (u.alloc o) :=
 ⟨h.os, h.tape, h.output, Nat.le_trans h.size (by show u.heap.size ≤ (u.heap.push o).size; rw [Array.size_push]; omega), fun k hk h1 h2 => (Below.heap_alloc u o k (Nat.lt_of_lt_of_le hk h.size)).trans (h.block k hk h1 h2)⟩
theorem Two.setG {g M : Nat} {w u : World} (h : Two g M w u) (i : Nat) (v : Value) : Two g M w (u.setCell ⟨g, i, none⟩ v) :=
 h.trans ⟨rfl, rfl, rfl, by simp [World.setCell], fun k _ hk _ => Below.heap_setCell _ _ _ _ hk⟩
theorem Two.setNew {g M X : Nat} {w u : World} (h : Two g M w u) (hX : w.heap.size ≤ X) (i : Nat) (v : Value) : Two g M w (u.setCell ⟨X, i, none⟩ v) :=
 ⟨h.os, h.tape, h.output, by have := h.size; simp [World.setCell]; exact this, fun k hk h1 h2 => (Below.heap_setCell _ _ _ _ (by show k ≠ X; omega)).trans (h.block k hk h1 h2)⟩
theorem Two.grown {g M : Nat} {w u v : World} (h : Two g M w u) (k : u.grownBy v (some M)) : Two g M w v :=
 h.trans ⟨k.os, k.tape, k.output, k.size, fun i hi _ h2 => k.block i hi (fun e => h2 (by injection e))⟩
theorem Two.below {g M B : Nat} {w u : World} (h : Two g M w u) (hg : B ≤ g) (hM : B ≤ M) (hB : B ≤ w.heap.size) : Below B w u :=
 ⟨h.os, h.tape, h.output, h.size, fun k hk => h.block k (by omega) (by omega) (by omega)⟩
theorem Cells.two {g M b : Nat} {w u : World} {cs : Array Value} {t : TypeId} (h : Cells w b cs t) (k : Two g M w u) (h1 : b ≠ g) (h2 : b ≠ M) : Cells u b cs t := (k.block b h.lt h1 h2).trans h
def Cc (w : World) (g : Nat) (ls : List Nat) (i : Nat) : Prop := ∃ cs, Cells w g cs 191 ∧ cs.size = 2 * ls.length ∧ ∀ (j m : Nat), ls[j]? = some m →
 (j < i ∧ 0 < m → cs[j * 2]? = some (.int .u32 (m : Int)) ∧ cs[j * 2 + 1]? = some (.int .u32 (code ls j m : Int))) ∧ (¬ (j < i ∧ 0 < m) → cs[j * 2]? = some (.int .u32 0) ∧ cs[j * 2 + 1]? = some (.int .u32 0))
structure Tq (w : World) (T g M k : Nat) (ls : List Nat) (i : Nat) : Prop where
 t : Cells w T #[.slice (some ⟨g, 0, none⟩) ls.length ls.length, .map (some M)] 187
 c : Cc w g ls i
 m : ∃ G, Mp w M k G ∧ Laidm ls i G
theorem Cc.skip {w : World} {g : Nat} {ls : List Nat} {i : Nat} (h : Cc w g ls i) (hi : ls[i]? = some 0) : Cc w g ls (i + 1) := by
 obtain ⟨cs, h1, h2, h3⟩ := h
 refine ⟨cs, h1, h2, fun j m hj => ⟨fun hc => (h3 j m hj).1 ⟨?_, hc.2⟩, fun hc => (h3 j m hj).2 fun hc2 => hc ⟨by omega, hc2.2⟩⟩⟩
 rcases (show j < i ∨ j = i by omega) with h4 | rfl
 ·exact h4
 ·rw [hi] at hj; cases hj; omega
theorem Cc.put {w : World} {g : Nat} {ls : List Nat} {i m : Nat} (h : Cc w g ls i) (hi : ls[i]? = some m) (hm : 0 < m) :
  Cc ((w.setCell ⟨g, i * 2, none⟩ (.int .u32 (m : Int))).setCell ⟨g, i * 2 + 1, none⟩ (.int .u32 (code ls i m : Int))) g ls (i + 1) := by
 obtain ⟨cs, h1, h2, h3⟩ := h
 have hil := lt_of_at hi
 refine ⟨_, (h1.set (i * 2) _).set (i * 2 + 1) _, by rw [Array.size_setIfInBounds, Array.size_setIfInBounds]; exact h2, fun j n hj => ?_⟩
 have hjl := lt_of_at hj
 by_cases e : j = i
 ·subst e
  rw [hi] at hj; cases hj
  refine ⟨fun _ => ?_, fun hc => absurd ⟨by omega, hm⟩ hc⟩
  constructor
  ·rw [Array.getElem?_setIfInBounds, if_neg (by omega), Array.getElem?_setIfInBounds, if_pos rfl, if_pos (by omega)]
  ·rw [Array.getElem?_setIfInBounds, if_pos rfl, if_pos (by rw [Array.size_setIfInBounds]; omega)]
 ·have e1 : ∀ q, q < 2 → ((cs.setIfInBounds (i * 2) (.int .u32 (m : Int))).setIfInBounds (i * 2 + 1) (.int .u32 (code ls i m : Int)))[j * 2 + q]? = cs[j * 2 + q]? := by
   intro q hq
   rw [Array.getElem?_setIfInBounds, if_neg (by omega), Array.getElem?_setIfInBounds, if_neg (by omega)]
  have e10 := e1 0 (by omega)
  have e11 := e1 1 (by omega)
  have e10' : ((cs.setIfInBounds (i * 2) (.int .u32 (m : Int))).setIfInBounds (i * 2 + 1) (.int .u32 (code ls i m : Int)))[j * 2]? = cs[j * 2]? := e10
  rw [e10', e11]
  exact ⟨fun hc => (h3 j n hj).1 ⟨by omega, hc.2⟩, fun hc => (h3 j n hj).2 fun hc2 => hc ⟨by omega, hc2.2⟩⟩
theorem Mp.mono {w : World} {M k k' : Nat} {G : Nat → Nat → Option Int} (h : Mp w M k G) (hk : k ≤ k') : Mp w M k' G := by
 obtain ⟨D, h1, h2⟩ := h
 exact ⟨D, h1.mono hk, h2⟩
theorem Cc.heap {w u : World} {g : Nat} {ls : List Nat} {i : Nat} (h : Cc w g ls i) (e : u.heap[g]? = w.heap[g]?) : Cc u g ls i := by
 obtain ⟨cs, h1, h2, h3⟩ := h
 exact ⟨cs, e.trans h1, h2, h3⟩
theorem Cc.lt {w : World} {g : Nat} {ls : List Nat} {i : Nat} (h : Cc w g ls i) : g < w.heap.size := by obtain ⟨cs, h1, _⟩ := h; exact h1.lt
structure Ly (w0 w : World) (T g M X k i m c p : Nat) (ls : List Nat) (G : Nat → Nat → Option Int) : Prop where
 cx : Cells w X #[.int .u32 (p : Int), .int .u32 ((c / 2 ^ (m - p) : Nat) : Int)] 191
 ct : Cells w T #[.slice (some ⟨g, 0, none⟩) ls.length ls.length, .map (some M)] 187
 cc : Cc w g ls (i + 1)
 cm : Mp w M k (lp i m c p G)
 two : Two g M w0 w
theorem Ly.tq {w0 w : World} {T g M X k i m c p K : Nat} {ls : List Nat} {G : Nat → Nat → Option Int} (h : Ly w0 w T g M X k i m c p ls G) (hl : Laidm ls i G) (hi : ls[i]? = some m) (hm : 0 < m) (hc : code ls i m = c) (hp : p ≤ m) (hk : k ≤ K)
  (hend : 0 < p → (G (p - 1) (c / 2 ^ (m - (p - 1)))).isSome = true) : Tq w T g M K ls (i + 1) := ⟨h.ct, h.cc, _, h.cm.mono hk, hl.put hi hm hc hp hend⟩
set_option maxRecDepth 100000 in
set_option maxHeartbeats 4000000 in
theorem lay_c (T g M k i m c : Nat) (ls : List Nat) (w : World) (ht : Tq w T g M k ls i) (hL : ls.length ≤ 320) (hi : ls[i]? = some m) (hm : 0 < m) (hm15 : m ≤ 15) (hc : code ls i m = c) (hcb : c < 2 ^ m) (hk : k ≤ 1000000) (hTg : T ≠ g) (hTM : T ≠ M) (hgM : g ≠ M) :
  Calls Tryz.prog 117 #[.pointer (some ⟨T, 0, none⟩), .int .i64 (i : Int), .agg #[.int .u32 (m : Int), .int .u32 (c : Int)]] w fun e w' => e = .returned (.tuple #[]) ∧ Tq w' T g M (k + 16) ls (i + 1) ∧ Two g M w w' := by
 obtain ⟨tc, ⟨cs, cc1, cc2, cc3⟩, G, hG, hLd⟩ := ht
 have hil := lt_of_at hi
 obtain ⟨X, hX⟩ : ∃ X, w.heap.size = X := ⟨_, rfl⟩
 obtain ⟨L, hLe⟩ : ∃ L, ls.length = L := ⟨_, rfl⟩
 obtain ⟨w1, hw1⟩ : ∃ w1, w1 = w.alloc (.cells #[.int .u32 (m : Int), .int .u32 (c : Int)] 191) := ⟨_, rfl⟩
 have x1 : Cells w1 X #[.int .u32 (m : Int), .int .u32 (c : Int)] 191 := by rw [hw1, ← hX]; exact Cells.new w _ 191
 have g1 : Cells w1 g cs 191 := by rw [hw1]; exact cc1.alloc _
 have t1 : Cells w1 T #[.slice (some ⟨g, 0, none⟩) ls.length ls.length, .map (some M)] 187 := by rw [hw1]; exact tc.alloc _
 have m1 : Mp w1 M k G := by rw [hw1]; exact hG.heap (Below.heap_alloc w _ M hG.lt)
 have tw1 : Two g M w w1 := by rw [hw1]; exact (Two.refl g M w).alloc _
 have hTX : T < X := by rw [← hX]; exact tc.lt
 have hgX : g < X := by rw [← hX]; exact cc1.lt
 have hMX : M < X := by rw [← hX]; exact hG.lt
 have cT0 := t1.cell 0
 have cT1 := t1.cell 1
 have cX0 := x1.cell 0
 have cX1 := x1.cell 1
 have cg0 : ∃ v, w1.cell? ⟨g, i * 2, none⟩ = some v := ⟨_, by rw [g1.cell]; exact Array.getElem?_eq_getElem (by omega)⟩
 have cg1 : ∃ v, w1.cell? ⟨g, i * 2 + 1, none⟩ = some v := ⟨_, by rw [g1.cell]; exact Array.getElem?_eq_getElem (by omega)⟩
 obtain ⟨y0, cg0⟩ := cg0
 obtain ⟨y1, cg1⟩ := cg1
 have fg0 := g1.frozen (i * 2)
 have fg1 := g1.frozen (i * 2 + 1)
 have cg1' : (w1.setCell ⟨g, i * 2, none⟩ (.int .u32 (m : Int))).cell? ⟨g, i * 2 + 1, none⟩ = some y1 := by
  rw [(g1.set (i * 2) _).cell, Array.getElem?_setIfInBounds, if_neg (by omega), ← g1.cell]; exact cg1
 have fg1' := (g1.set (i * 2) (.int .u32 (m : Int))).frozen (i * 2 + 1)
 rw [hLe] at cT0
 simp only [List.getElem?_toArray, List.getElem?_cons_zero, List.getElem?_cons_succ] at cT0 cT1 cX0 cX1
 have hiL : (i : Int) < (L : Int) := by omega
 have AH : Aside (Cells w1 X #[.int .u32 (m : Int), .int .u32 (c : Int)] 191 ∧ Cc w1 g ls i ∧ Cells w1 g cs 191 ∧ Cells w1 T #[.slice (some ⟨g, 0, none⟩) ls.length ls.length, .map (some M)] 187 ∧ Mp w1 M k G ∧ Two g M w w1) := ⟨x1, ⟨cs, g1, cc2, cc3⟩, g1, t1, m1, tw1⟩
 have AF : Aside (T < X ∧ g < X ∧ M < X ∧ T ≠ g ∧ T ≠ M ∧ g ≠ M ∧ i < ls.length ∧ ls.length ≤ 320 ∧ ls[i]? = some m ∧ 0 < m ∧ code ls i m = c ∧ Laidm ls i G ∧ c < 2 ^ m ∧ k ≤ 1000000 ∧ w.heap.size = X) := ⟨hTX, hgX, hMX, hTg, hTM, hgM, hil, hL, hi, hm, hc, hLd, hcb, hk, hX⟩
 clear x1 g1 t1 m1 tw1 hTX hgX hMX hTg hTM hgM hil hL hi hc hLd hcb hk hX tc cc1 cc2 cc3 hG hLe
 go_enter Tryz.func117, Tryz.ntmps117
 have hwX := AF.out.2.2.2.2.2.2.2.2.2.2.2.2.2.2
 go_upto_region 1 with fail
 rw [← hw1]
 clear hw1 hwX
 go_region
 obtain ⟨w2, hw2⟩ : ∃ w2, w2 = ((w1.setCell ⟨g, i * 2, none⟩ (.int .u32 (m : Int))).setCell ⟨g, i * 2 + 1, none⟩ (.int .u32 (c : Int))).drew := ⟨_, rfl⟩
 rw [← hw2]
 have o2 : Only g w1 w2 := by rw [hw2]; exact (((Only.refl g w1).setCell _ _).setCell _ _).drew
 have x2 : Cells w2 X #[.int .u32 (m : Int), .int .u32 (c : Int)] 191 := AH.out.1.only o2 (by have := AF.out.2.1; omega)
 have t2 : Cells w2 T #[.slice (some ⟨g, 0, none⟩) ls.length ls.length, .map (some M)] 187 := AH.out.2.2.2.1.only o2 AF.out.2.2.2.1
 have m2 : Mp w2 M k G := AH.out.2.2.2.2.1.only o2 (fun e => AF.out.2.2.2.2.2.1 e.symm)
 have g2 : Cc w2 g ls (i + 1) := by
  have hc1 := AH.out.2.1
  have := hc1.put AF.out.2.2.2.2.2.2.2.2.1 hm
  rw [AF.out.2.2.2.2.2.2.2.2.2.2.1] at this
  rw [hw2]; exact this
 have tw2 : Two g M w w2 := by rw [hw2]; exact ((AH.out.2.2.2.2.2.setG _ _).setG _ _).drew
 have hcb32 : c < 4294967296 := by have := AF.out.2.2.2.2.2.2.2.2.2.2.2.2.1; have h2 : 2 ^ m ≤ 2 ^ 15 := Nat.pow_le_pow_right (by decide) hm15; omega
 have hiw : (Lit.int .i64 (i : Int)).wf = true := WalkArith.wf_i64 (by have := AF.out.2.2.2.2.2.2.1; have := AF.out.2.2.2.2.2.2.2.1; omega)
 obtain ⟨w3, hrun, m3, gr3⟩ := run_put w2.drew M k m c (i : Int) G m2 (by have := AF.out; omega) (by omega) hcb32 hiw
 have cT1 := t2.cell 1
 have cX0 := x2.cell 0
 have cX1 := x2.cell 1
 simp only [List.getElem?_toArray, List.getElem?_cons_zero, List.getElem?_cons_succ] at cT1 cX0 cX1
 have A2 : Aside (Cells w2 X #[.int .u32 (m : Int), .int .u32 (c : Int)] 191 ∧ Cells w2 T #[.slice (some ⟨g, 0, none⟩) ls.length ls.length, .map (some M)] 187 ∧ Cc w2 g ls (i + 1) ∧ Two g M w w2) := ⟨x2, t2, g2, tw2⟩
 have A3 : Aside (Mp w3 M (k + 1) (lp i m c m G) ∧ w2.drew.grownBy w3 (some M)) := ⟨m3.congr fun n x => lp_first i m c G n x, gr3⟩
 clear hw2 o2 x2 t2 m2 g2 tw2 m3 gr3 hiw cg0 cg1 cg1' fg0 fg1 fg1' cT0 AH
 go_upto_region 2 with fail
 go_region
 have hly : Ly w w3 T g M X (k + 1) i m c m ls G := by
  have hsz := A2.out.2.2.2.size
  refine ⟨?_, ?_, ?_, A3.out.1, A2.out.2.2.2.drew.grown A3.out.2⟩
  ·have := (A3.out.2.block X A2.out.1.lt (by intro e; injection e with e; have := AF.out.2.2.1; omega)).trans A2.out.1
   rw [Nat.sub_self, Nat.pow_zero, Nat.div_one]
   exact this
  ·exact (A3.out.2.block T A2.out.2.1.lt (by intro e; injection e with e; exact AF.out.2.2.2.2.1 e)).trans A2.out.2.1
  ·exact A2.out.2.2.1.heap (A3.out.2.block g A2.out.2.2.1.lt (by intro e; injection e with e; exact AF.out.2.2.2.2.2.1 e))
 have AY : Aside (Ly w w3 T g M X (k + 1) i m c m ls G) := hly
 clear hly A2 A3 hrun cT1 cX0 cX1
 go_wp2_with fail
 go_loopg [] m (fun gg wr => ∃ (p kp : Nat), Aside (p = gg ∧ p ≤ m ∧ kp + p ≤ k + 1 + m ∧ Ly w wr T g M X kp i m c p ls G))
 case atStart => exact ⟨m, k + 1, ⟨rfl, Nat.le_refl _, Nat.le_refl _, AY.out⟩⟩
 case round =>
  obtain ⟨p, kp, hI⟩ := hrel
  have cX0 := hI.out.2.2.2.cx.cell 0
  have cX1 := hI.out.2.2.2.cx.cell 1
  simp only [List.getElem?_toArray, List.getElem?_cons_zero, List.getElem?_cons_succ] at cX0 cX1
  by_cases hp : p = 0
  ·subst hp
   go_wp2_with fail
   first | go_end0 | go_ret | go_ret2
   have F := AF.out
   exact ⟨rfl, hI.out.2.2.2.tq F.2.2.2.2.2.2.2.2.2.2.2.1 F.2.2.2.2.2.2.2.2.1 hm F.2.2.2.2.2.2.2.2.2.2.1 (Nat.zero_le _) (by have := hI.out.2.2.1; omega) (fun h => absurd h (by omega)), hI.out.2.2.2.two⟩
  ·obtain ⟨q, rfl⟩ : ∃ q, p = q + 1 := ⟨p - 1, by omega⟩
   obtain ⟨y, hy⟩ : ∃ y, c / 2 ^ (m - (q + 1)) = y := ⟨_, rfl⟩
   rw [hy] at cX1
   have hyb : y < 4294967296 := by rw [← hy]; exact Nat.lt_of_le_of_lt (Nat.div_le_self _ _) hcb32
   have hq15 : q + 1 ≤ 15 := by have := hI.out.2.1; omega
   have fX0 := hI.out.2.2.2.cx.frozen 0
   have fX1 := hI.out.2.2.2.cx.frozen 1
   have hy2 : c / 2 ^ (m - q) = y / 2 := by
    rw [← hy, Nat.div_div_eq_div_mul, ← Nat.pow_succ, show (m - (q + 1)).succ = m - q by have := hI.out.2.1; omega]
   have hXs := hI.out.2.2.2.cx.set 0 (.int .u32 (q : Int))
   have fX1' := hXs.frozen 1
   have cX1' : (wr.setCell ⟨X, 0, none⟩ (.int .u32 (q : Int))).cell? ⟨X, 1, none⟩ = some (.int .u32 (y : Int)) := by
    rw [hXs.cell 1, ← hy]; rfl
   have AYY : Aside (c / 2 ^ (m - q) = y / 2 ∧ c / 2 ^ (m - (q + 1)) = y ∧ q + 1 ≤ m) := ⟨hy2, hy, hI.out.2.1⟩
   clear hp hy hy2 hXs
   go_upto_region 5 with fail
   obtain ⟨w5, hw5⟩ : ∃ w5, w5 = (wr.setCell ⟨X, 0, none⟩ (.int .u32 (q : Int))).setCell ⟨X, 1, none⟩ (.int .u32 ((y : Int) / 2)) := ⟨_, rfl⟩
   rw [← hw5]
   have o5 : Only X wr w5 := by rw [hw5]; exact ((Only.refl X wr).setCell _ _).setCell _ _
   have eY : ((y : Int) / 2) = ((y / 2 : Nat) : Int) := by omega
   have x5 : Cells w5 X #[.int .u32 (q : Int), .int .u32 ((y / 2 : Nat) : Int)] 191 := by
    rw [hw5, eY]; exact (hI.out.2.2.2.cx.set 0 _).set 1 _
   have t5 : Cells w5 T #[.slice (some ⟨g, 0, none⟩) ls.length ls.length, .map (some M)] 187 := hI.out.2.2.2.ct.only o5 (by have := AF.out.1; omega)
   have g5 : Cc w5 g ls (i + 1) := hI.out.2.2.2.cc.heap (o5.block g (by have := AF.out.2.1; omega))
   have m5 : Mp w5 M kp (lp i m c (q + 1) G) := hI.out.2.2.2.cm.only o5 (by have := AF.out.2.2.1; omega)
   have tw5 : Two g M w w5 := by
    rw [hw5]; exact (hI.out.2.2.2.two.setNew (by rw [AF.out.2.2.2.2.2.2.2.2.2.2.2.2.2.2]; exact Nat.le_refl _) _ _).setNew (by rw [AF.out.2.2.2.2.2.2.2.2.2.2.2.2.2.2]; exact Nat.le_refl _) _ _
   have hyb2 : y / 2 < 4294967296 := by omega
   obtain ⟨r, hr⟩ : ∃ r, G q (y / 2) = r := ⟨_, rfl⟩
   have hlook := run_look w5.drew M kp q (y / 2) _ m5 (by omega) hyb2 r (by rw [lp_below G (by omega) AYY.out.2.2]; exact hr)
   have cT1 := t5.cell 1
   have cX0 := x5.cell 0
   have cX1 := x5.cell 1
   simp only [List.getElem?_toArray, List.getElem?_cons_zero, List.getElem?_cons_succ] at cT1 cX0 cX1
   have A5 : Aside (Cells w5 X #[.int .u32 (q : Int), .int .u32 ((y / 2 : Nat) : Int)] 191 ∧ Cells w5 T #[.slice (some ⟨g, 0, none⟩) ls.length ls.length, .map (some M)] 187 ∧ Cc w5 g ls (i + 1) ∧ Mp w5 M kp (lp i m c (q + 1) G) ∧ Two g M w w5 ∧ G q (y / 2) = r) := ⟨x5, t5, g5, m5, tw5, hr⟩
   rw [eY]
   clear hw5 o5 x5 t5 g5 m5 tw5 hr fX0 fX1 fX1' cX1' eY
   obtain ⟨z, hz⟩ : ∃ z, y / 2 = z := ⟨_, rfl⟩
   rw [hz] at hlook cX1 A5 hyb2 ⊢
   have AYZ : Aside (c / 2 ^ (m - q) = z ∧ c / 2 ^ (m - (q + 1)) = y ∧ q + 1 ≤ m) := by have := AYY.out; rw [hz] at this; exact this
   clear AYY hz
   go_region
   have F := AF.out
   cases r with
   | some v =>
    clear hlook
    go_wp2_with fail
    first | (refine bodyPost_ret (results_none rfl _ _ _) rfl ?_) | go_end0 | go_ret | go_ret2
    refine ⟨rfl, ⟨A5.out.2.1, A5.out.2.2.1, _, A5.out.2.2.2.1.mono (by have := hI.out.2.2.1; omega), F.2.2.2.2.2.2.2.2.2.2.2.1.put F.2.2.2.2.2.2.2.2.1 hm F.2.2.2.2.2.2.2.2.2.2.1 hI.out.2.1 (fun _ => ?_)⟩, A5.out.2.2.2.2.1.drew⟩
    rw [show q + 1 - 1 = q by omega, AYZ.out.1, A5.out.2.2.2.2.2]
    rfl
   | none =>
    clear hlook
    obtain ⟨w7, hrun7, m7, gr7⟩ := run_put w5.drew.drew M kp q z (-1) _ A5.out.2.2.2.1 (by have := F.2.2.2.2.2.2.2.2.2.2.2.2.2.1; have := hI.out.2.2.1; omega) (by omega) hyb2 (by decide)
    have A7 : Aside (Mp w7 M (kp + 1) (lp i m c q G) ∧ w5.drew.drew.grownBy w7 (some M)) := ⟨m7.congr fun n x => by rw [← AYZ.out.1]; exact lp_next G (by have := AYZ.out.2.2; omega) n x, gr7⟩
    clear m7 gr7 F
    go_upto_region 7 with fail
    go_region
    go_wp2_with fail
    go_roundg q
    case measure => have := hI.out.1; omega
    case rel =>
     refine ⟨q, kp + 1, ⟨rfl, by have := hI.out.2.1; omega, by have := hI.out.2.2.1; omega, ?_, ?_, ?_, A7.out.1, A5.out.2.2.2.2.1.drew.drew.grown A7.out.2⟩⟩
     ·have := (A7.out.2.block X A5.out.1.lt (by intro e; injection e with e; have := AF.out.2.2.1; omega)).trans A5.out.1
      rw [AYZ.out.1]
      exact this
     ·exact (A7.out.2.block T A5.out.2.1.lt (by intro e; injection e with e; exact AF.out.2.2.2.2.1 e)).trans A5.out.2.1
     ·exact A5.out.2.2.1.heap (A7.out.2.block g A5.out.2.2.1.lt (by intro e; injection e with e; exact AF.out.2.2.2.2.2.1 e))
end Go.Proofs.YtpihipbeagpgpaaGreatDoor

/-
 What the document's Kraft comes to: the sum of lengths, or none.
 Conditions: the lengths lie in memory.
-/
namespace Go.Proofs.YtpihipbeagpgpaaGreatDoor
open Go.RowKit
set_option linter.unusedVariables false
def Lens (w : World) (a : Option Addr) (zs : List Int) : Prop := zs = [] ∨ ∃ (b o : Nat), a = some ⟨b, o, none⟩ ∧ ∀ (i : Nat) (z : Int), zs[i]? = some z → w.cell? ⟨b, o + i, none⟩ = some (.int .i64 z)
theorem Lens.below {w u : World} {a : Option Addr} {zs : List Int} (h : Lens w a zs) (k : Below w.heap.size w u) : Lens u a zs := by
 rcases h with h | ⟨b, o, ha, hc⟩
 ·exact Or.inl h
 ·exact Or.inr ⟨b, o, ha, fun i z hz => (k.cell (p := ⟨b, o + i, none⟩) (World.block_lt_of_cell? w ⟨b, o + i, none⟩ (hc i z hz))).trans (hc i z hz)⟩
abbrev Okl (zs : List Int) : Prop := zs.length ≤ 320 ∧ ∀ z ∈ zs, 0 ≤ z ∧ z ≤ 15
def lens (zs : List Int) : List Nat := zs.map Int.toNat
theorem kr_snoc : ∀ (ls : List Nat) (l : Nat), kr (ls ++ [l]) = kr ls + (if l = 0 then 0 else 2 ^ (15 - l))
 | [], l => by simp [kr]
 | x :: ls, l => by rw [List.cons_append, kr, kr, kr_snoc ls l]; omega
theorem take_one {α : Type} {l : List α} {k : Nat} {x : α} (h : l[k]? = some x) : l.take (k + 1) = l.take k ++ [x] := by rw [List.take_add_one, h]; rfl
theorem kr_le : ∀ (ls : List Nat), kr ls ≤ ls.length * 32768
 | [] => by simp [kr]
 | x :: ls => by
  have := kr_le ls
  rw [kr, List.length_cons, Nat.add_mul]
  by_cases h : x = 0
  ·rw [if_pos h]; omega
  ·rw [if_neg h]
   have : 2 ^ (15 - x) ≤ 2 ^ 15 := Nat.pow_le_pow_right (by decide) (by omega)
   omega
set_option maxRecDepth 100000 in
set_option maxHeartbeats 2000000 in
theorem rkraft_c (a : Option Addr) (zs : List Int) (L C r : Nat) (ok : Bool) (w : World) (h : Lens w a zs) (hL : zs.length = L) (hLb : L < 140737488355328) (hr : (Okl zs ∧ r = kr (lens zs) ∧ ok = true) ∨ (¬ Okl zs ∧ r = 0 ∧ ok = false)) :
  Calls Tryz.prog 101 #[.slice a L C] w fun e w' => e = .returned (.tuple #[.int .i64 (r : Int), .bool ok]) ∧ w = w' := by
 have AH : Aside (Lens w a zs ∧ zs.length = L ∧ L < 140737488355328) := ⟨h, hL, hLb⟩
 have AR : Aside ((Okl zs ∧ r = kr (lens zs) ∧ ok = true) ∨ (¬ Okl zs ∧ r = 0 ∧ ok = false)) := hr
 clear h hL hLb hr
 by_cases h320 : 320 < L
 ·have h1 : (320 : Int) < (L : Int) := by omega
  have hno : Aside (r = 0 ∧ ok = false) := by
   rcases AR.out with ⟨h, _⟩ | h
   ·have := h.1; have := AH.out; omega
   ·exact h.2
  clear h320
  go_enter Tryz.func101, Tryz.ntmps101
  go_wp2_with fail
  first | go_ret | go_ret2
  obtain ⟨rfl, rfl⟩ := hno.out
  exact ⟨rfl, rfl⟩
 have h1 : ¬ (320 : Int) < (L : Int) := by omega
 have hLs : (L : Int) ≤ 320 := by omega
 go_enter Tryz.func101, Tryz.ntmps101
 go_wp2_with fail
 clear h1 h320
 go_loopg [4, 5] L (fun g ss si wr => ∃ (s i : Nat), ss = .int .i64 s ∧ si = .int .i64 i ∧ Aside (i + g = L ∧ s = kr (lens (zs.take i)) ∧ ∀ z ∈ zs.take i, 0 ≤ z ∧ z ≤ 15) ∧ w = wr)
 case atStart => exact ⟨0, 0, rfl, rfl, ⟨by omega, rfl, by simp⟩, rfl⟩
 case round =>
  obtain ⟨s, i, rfl, rfl, hI, hw⟩ := hrel
  subst hw
  by_cases hiL : i < L
  ·have hi : (i : Int) < (L : Int) := by omega
   obtain ⟨z, hz⟩ : ∃ z, zs[i]? = some z := ⟨_, List.getElem?_eq_getElem (by have := AH.out; omega)⟩
   rcases AH.out.1 with e | ⟨b, o, rfl, hc⟩
   ·rw [e] at hz; simp at hz
   have cz := hc i z hz
   have AZ : Aside (zs[i]? = some z ∧ i < L) := ⟨hz, hiL⟩
   clear hc hz hiL
   by_cases hbad : z < 0 ∨ 15 < z
   ·have hno : Aside (r = 0 ∧ ok = false) := by
     rcases AR.out with ⟨h, _⟩ | h
     ·have := h.2 z (List.mem_of_getElem? AZ.out.1); omega
     ·exact h.2
    by_cases hneg : z < 0
    ·clear hbad
     go_wp2_with fail
     first | go_ret | go_ret2
     obtain ⟨rfl, rfl⟩ := hno.out
     exact ⟨rfl, rfl⟩
    ·have hgt : 15 < z := by omega
     clear hbad
     go_wp2_with fail
     first | go_ret | go_ret2
     obtain ⟨rfl, rfl⟩ := hno.out
     exact ⟨rfl, rfl⟩
   ·have hz0 : ¬ z < 0 := by omega
    have hz15 : ¬ 15 < z := by omega
    obtain ⟨l, rfl⟩ : ∃ l : Nat, z = (l : Int) := ⟨z.toNat, by omega⟩
    have hnx : Aside (lens (zs.take (i + 1)) = lens (zs.take i) ++ [l] ∧ (∀ z ∈ zs.take (i + 1), 0 ≤ z ∧ z ≤ 15) ∧ s + (if l = 0 then 0 else 2 ^ (15 - l)) = kr (lens (zs.take (i + 1)))) := by
     have e1 : lens (zs.take (i + 1)) = lens (zs.take i) ++ [l] := by rw [take_one AZ.out.1]; simp [lens]
     refine ⟨e1, ?_, ?_⟩
     ·intro y hy
      rw [take_one AZ.out.1] at hy
      rcases List.mem_append.1 hy with hy | hy
      ·exact hI.out.2.2 y hy
      ·rw [List.mem_singleton.1 hy]; omega
     ·rw [e1, kr_snoc, hI.out.2.1]
    have hsb : s ≤ 10485760 := by
     rw [hI.out.2.1]
     have h2 := kr_le (lens (zs.take i))
     have h3 : (lens (zs.take i)).length ≤ 320 := by unfold lens; rw [List.length_map, List.length_take]; omega
     have := Nat.mul_le_mul_right 32768 h3
     omega
    have hib : (i : Int) < 320 := by have := AZ.out; omega
    by_cases hl0 : l = 0
    ·subst hl0
     clear hbad hz0 hz15 hsb
     go_wp2_with fail
     have h1 := hnx.out; have h2 := hI.out; have h3 := AZ.out
     go_roundg (L - (i + 1))
     case measure => omega
     case rel => exact ⟨s, i + 1, rfl, by go_num, ⟨by omega, by have := h1.2.2; simpa using this, h1.2.1⟩, rfl⟩
    ·have hlp : (0 : Int) < (l : Int) := by omega
     clear hbad
     go_upto_region 6 with fail
     obtain ⟨q, hq⟩ : ∃ q : Nat, 2 ^ (15 - l) = q := ⟨_, rfl⟩
     have hqi : (2 : Int) ^ (15 - l) = (q : Int) := by rw [← hq]; push_cast; rfl
     have hqb : q ≤ 32768 := by rw [← hq]; exact Nat.pow_le_pow_right (n := 2) (by decide) (show 15 - l ≤ 15 by omega)
     have hw : wrap64 ((s : Int) + wrap64 (q : Int)) = ((s + q : Nat) : Int) := by unfold wrap64; omega
     rw [hqi, hw]
     have hs2 : Aside (s + q = kr (lens (zs.take (i + 1)))) := by
      have := hnx.out.2.2
      rw [if_neg hl0, hq] at this
      exact this
     obtain ⟨s2, hs2e⟩ : ∃ s2, s + q = s2 := ⟨_, rfl⟩
     rw [hs2e] at hs2 ⊢
     clear hw hqi hqb hq hs2e hl0 hlp hz0 hz15 cz
     go_wp2_with fail
     have h1 := hnx.out; have h2 := hI.out; have h3 := AZ.out
     go_roundg (L - (i + 1))
     case measure => omega
     case rel => exact ⟨s2, i + 1, rfl, by go_num, ⟨by omega, hs2.out, h1.2.1⟩, rfl⟩
  ·have hi : ¬ (i : Int) < (L : Int) := by omega
   have hyes : Aside (s = r ∧ ok = true) := by
    have e : zs.take i = zs := List.take_of_length_le (by have := AH.out; omega)
    have h1 := hI.out
    rw [e] at h1
    rcases AR.out with ⟨_, h2, h3⟩ | ⟨h2, _⟩
    ·exact ⟨by rw [h1.2.1, h2], h3⟩
    ·exact absurd ⟨by have := AH.out; omega, h1.2.2⟩ h2
   clear hiL
   go_wp2_with fail
   first | go_ret | go_ret2
   obtain ⟨rfl, rfl⟩ := hyes.out
   exact ⟨rfl, rfl⟩
end Go.Proofs.YtpihipbeagpgpaaGreatDoor

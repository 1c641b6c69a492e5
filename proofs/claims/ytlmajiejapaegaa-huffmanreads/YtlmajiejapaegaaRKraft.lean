/-
  What the document's Kraft comes to: the sum of lengths, or none.
  Conditions: the lengths lie in memory.
-/
import Derived.Test.YtlmajiejapaegaaProg
import Derived.Test.YtlmajiejapaegaaMem
import Derived.WalkSpells
import Derived.Deep.CutBlock
import Derived.Deep.DeepCutAuto
import Derived.BigQuiet
import Derived.Test.YtlmajiejapaegaaHuffB
import Derived.Deep.LoopGhost
namespace Go.Proofs.Ytlmajiejapaegaa
open Go.RowKit
set_option linter.unusedVariables false
/-- Numbers that lie side by side. -/
def Lens (w : World) (a : Option Addr) (zs : List Int) : Prop := zs = [] ∨ ∃ (b o : Nat), a = some ⟨b, o, none⟩ ∧ ∀ (i : Nat) (z : Int), zs[i]? = some z → w.cell? ⟨b, o + i, none⟩ = some (.int .i64 z)
theorem Lens.below {w u : World} {a : Option Addr} {zs : List Int} (h : Lens w a zs) (k : Below w.heap.size w u) : Lens u a zs := by
  rcases h with h | ⟨b, o, ha, hc⟩
  · exact Or.inl h
  · exact Or.inr ⟨b, o, ha, fun i z hz => (k.cell (p := ⟨b, o + i, none⟩) (World.block_lt_of_cell? w ⟨b, o + i, none⟩ (hc i z hz))).trans (hc i z hz)⟩
/-- Lengths that may be. -/
abbrev Okl (zs : List Int) : Prop := zs.length ≤ 320 ∧ ∀ z ∈ zs, 0 ≤ z ∧ z ≤ 15
def lens (zs : List Int) : List Nat := zs.map Int.toNat
theorem kr_snoc : ∀ (ls : List Nat) (l : Nat), kr (ls ++ [l]) = kr ls + (if l = 0 then 0 else 2 ^ (15 - l))
  | [], l => by simp [kr]
  | x :: ls, l => by rw [List.cons_append, kr, kr, kr_snoc ls l]; omega
theorem take_one {α : Type} {l : List α} {k : Nat} {x : α} (h : l[k]? = some x) : l.take (k + 1) = l.take k ++ [x] := by rw [List.take_add_one, h]; rfl
theorem kr_le : ∀ (ls : List Nat), kr ls ≤ ls.length * 32768
  | [] => by simp [kr]
  | x :: ls => by
    have := kr_le ls
    rw [kr, List.length_cons, Nat.add_mul]
    by_cases h : x = 0
    · rw [if_pos h]; omega
    · rw [if_neg h]
      have : 2 ^ (15 - x) ≤ 2 ^ 15 := Nat.pow_le_pow_right (by decide) (by omega)
      omega
set_option maxRecDepth 100000 in
set_option maxHeartbeats 2000000 in
theorem rkraft_c (a : Option Addr) (zs : List Int) (L C r : Nat) (ok : Bool) (w : World) (h : Lens w a zs) (hL : zs.length = L) (hLb : L < 140737488355328) (hr : (Okl zs ∧ r = kr (lens zs) ∧ ok = true) ∨ (¬ Okl zs ∧ r = 0 ∧ ok = false)) :
    Calls Try.prog 9 #[.slice a L C] w fun e w' => e = .returned (.tuple #[.int .i64 (r : Int), .bool ok]) ∧ w = w' := by
  have AH : Aside (Lens w a zs ∧ zs.length = L ∧ L < 140737488355328) := ⟨h, hL, hLb⟩
  have AR : Aside ((Okl zs ∧ r = kr (lens zs) ∧ ok = true) ∨ (¬ Okl zs ∧ r = 0 ∧ ok = false)) := hr
  clear h hL hLb hr
  by_cases h320 : 320 < L
  · have h1 : (320 : Int) < (L : Int) := by omega
    have hno : Aside (r = 0 ∧ ok = false) := by
      rcases AR.out with ⟨h, _⟩ | h
      · have := h.1; have := AH.out; omega
      · exact h.2
    clear h320
    go_enter Try.func9, Try.ntmps9
    go_wp2_with fail
    first | go_ret | go_ret2
    obtain ⟨rfl, rfl⟩ := hno.out
    exact ⟨rfl, rfl⟩
  have h1 : ¬ (320 : Int) < (L : Int) := by omega
  have hLs : (L : Int) ≤ 320 := by omega
  go_enter Try.func9, Try.ntmps9
  go_wp2_with fail
  clear h1 h320
  go_loopg [4, 5] L (fun g ss si wr => ∃ (s i : Nat), ss = .int .i64 s ∧ si = .int .i64 i ∧ Aside (i + g = L ∧ s = kr (lens (zs.take i)) ∧ ∀ z ∈ zs.take i, 0 ≤ z ∧ z ≤ 15) ∧ w = wr)
  case atStart => exact ⟨0, 0, rfl, rfl, ⟨by omega, rfl, by simp⟩, rfl⟩
  case round =>
    obtain ⟨s, i, rfl, rfl, hI, hw⟩ := hrel
    subst hw
    by_cases hiL : i < L
    · have hi : (i : Int) < (L : Int) := by omega
      obtain ⟨z, hz⟩ : ∃ z, zs[i]? = some z := ⟨_, List.getElem?_eq_getElem (by have := AH.out; omega)⟩
      rcases AH.out.1 with e | ⟨b, o, rfl, hc⟩
      · rw [e] at hz; simp at hz
      have cz := hc i z hz
      have AZ : Aside (zs[i]? = some z ∧ i < L) := ⟨hz, hiL⟩
      clear hc hz hiL
      by_cases hbad : z < 0 ∨ 15 < z
      · have hno : Aside (r = 0 ∧ ok = false) := by
          rcases AR.out with ⟨h, _⟩ | h
          · have := h.2 z (List.mem_of_getElem? AZ.out.1); omega
          · exact h.2
        by_cases hneg : z < 0
        · clear hbad
          go_wp2_with fail
          first | go_ret | go_ret2
          obtain ⟨rfl, rfl⟩ := hno.out
          exact ⟨rfl, rfl⟩
        · have hgt : 15 < z := by omega
          clear hbad
          go_wp2_with fail
          first | go_ret | go_ret2
          obtain ⟨rfl, rfl⟩ := hno.out
          exact ⟨rfl, rfl⟩
      · have hz0 : ¬ z < 0 := by omega
        have hz15 : ¬ 15 < z := by omega
        obtain ⟨l, rfl⟩ : ∃ l : Nat, z = (l : Int) := ⟨z.toNat, by omega⟩
        have hnx : Aside (lens (zs.take (i + 1)) = lens (zs.take i) ++ [l] ∧ (∀ z ∈ zs.take (i + 1), 0 ≤ z ∧ z ≤ 15) ∧ s + (if l = 0 then 0 else 2 ^ (15 - l)) = kr (lens (zs.take (i + 1)))) := by
          have e1 : lens (zs.take (i + 1)) = lens (zs.take i) ++ [l] := by rw [take_one AZ.out.1]; simp [lens]
          refine ⟨e1, ?_, ?_⟩
          · intro y hy
            rw [take_one AZ.out.1] at hy
            rcases List.mem_append.1 hy with hy | hy
            · exact hI.out.2.2 y hy
            · rw [List.mem_singleton.1 hy]; omega
          · rw [e1, kr_snoc, hI.out.2.1]
        have hsb : s ≤ 10485760 := by
          rw [hI.out.2.1]
          have h2 := kr_le (lens (zs.take i))
          have h3 : (lens (zs.take i)).length ≤ 320 := by unfold lens; rw [List.length_map, List.length_take]; omega
          have := Nat.mul_le_mul_right 32768 h3
          omega
        have hib : (i : Int) < 320 := by have := AZ.out; omega
        by_cases hl0 : l = 0
        · subst hl0
          clear hbad hz0 hz15 hsb
          go_wp2_with fail
          have h1 := hnx.out; have h2 := hI.out; have h3 := AZ.out
          go_roundg (L - (i + 1))
          case measure => omega
          case rel => exact ⟨s, i + 1, rfl, by go_num, ⟨by omega, by have := h1.2.2; simpa using this, h1.2.1⟩, rfl⟩
        · have hlp : (0 : Int) < (l : Int) := by omega
          clear hbad
          go_upto_region 6 with fail
          obtain ⟨q, hq⟩ : ∃ q : Nat, 2 ^ (15 - l) = q := ⟨_, rfl⟩
          have hqi : (2 : Int) ^ (15 - l) = (q : Int) := by rw [← hq]; push_cast; rfl
          have hqb : q ≤ 32768 := by rw [← hq]; exact Nat.pow_le_pow_right (n := 2) (by decide) (show 15 - l ≤ 15 by omega)
          have hw : wrap64 ((s : Int) + wrap64 (q : Int)) = ((s + q : Nat) : Int) := by unfold wrap64; omega
          rw [hqi, hw]
          have hs2 : Aside (s + q = kr (lens (zs.take (i + 1)))) := by
            have := hnx.out.2.2
            rw [if_neg hl0, hq] at this
            exact this
          obtain ⟨s2, hs2e⟩ : ∃ s2, s + q = s2 := ⟨_, rfl⟩
          rw [hs2e] at hs2 ⊢
          clear hw hqi hqb hq hs2e hl0 hlp hz0 hz15 cz
          go_wp2_with fail
          have h1 := hnx.out; have h2 := hI.out; have h3 := AZ.out
          go_roundg (L - (i + 1))
          case measure => omega
          case rel => exact ⟨s2, i + 1, rfl, by go_num, ⟨by omega, hs2.out, h1.2.1⟩, rfl⟩
    · have hi : ¬ (i : Int) < (L : Int) := by omega
      have hyes : Aside (s = r ∧ ok = true) := by
        have e : zs.take i = zs := List.take_of_length_le (by have := AH.out; omega)
        have h1 := hI.out
        rw [e] at h1
        rcases AR.out with ⟨_, h2, h3⟩ | ⟨h2, _⟩
        · exact ⟨by rw [h1.2.1, h2], h3⟩
        · exact absurd ⟨by have := AH.out; omega, h1.2.2⟩ h2
      clear hiL
      go_wp2_with fail
      first | go_ret | go_ret2
      obtain ⟨rfl, rfl⟩ := hyes.out
      exact ⟨rfl, rfl⟩
end Go.Proofs.Ytlmajiejapaegaa

/-
  What the document's own Bits and Number come to: a byte's bits as a list that is the call's own, and the number of a list of bits.
  Conditions: the byte is one; the list has at most 64 bits.
-/
import Derived.Test.YtlmajiejapaegaaProg
import Derived.Test.YtlmajiejapaegaaMem
import Derived.Test.YtlmajiejapaegaaLists
import Derived.WalkSpells
import Derived.OwnWalk
import Derived.Laws.AppendOwn
import Derived.Deep.LoopGhost
namespace Go.Proofs.Ytlmajiejapaegaa
open Go.RowKit
theorem info4 : (Try.prog.info? 4).map (fun i => (i.zero, i.size, i.bytes)) = some (some (.bool false), 1, 1) := by kernel_rfl
/-- The values of some bits. -/
def vb (l : List Bool) : List Value := l.map Value.bool
theorem vb_length (l : List Bool) : (vb l).length = l.length := by simp [vb]
theorem vb_one {l : List Bool} : ∀ u ∈ vb l, u.oneCell' = true := by
  intro u hu
  obtain ⟨b, _, rfl⟩ := List.mem_map.1 hu
  rfl

set_option maxHeartbeats 1000000 in
theorem bits_c (x : Nat) (hx : x < 256) (w : World) : Calls Try.prog 31 #[.int .u8 x] w fun e w' => ∃ v, e = .returned v ∧ w'.ownsRow w.heap.size 4 1 v 8 (vb (bitsOf 8 x)) ∧ Below w.heap.size w w' := by
  obtain ⟨i0, hi, hz0, hz1, hz2⟩ := info_parts info4
  go_enter Try.func31, Try.ntmps31
  go_wp2_with fail
  go_loopg [0, 3, 4] 8 (fun g sb so si wr => ∃ k : Nat, k + g = 8 ∧ si = .int .i64 k ∧ sb = .int .u8 ((x / 2 ^ k : Nat) : Int) ∧ wr.ownsRow w.heap.size 4 1 so k (vb (bitsOf k x)) ∧ Below w.heap.size w wr)
  case atStart => exact ⟨0, rfl, rfl, by simp, World.ownsRow_nil _ _ _ _, Below.refl _ _⟩
  case round =>
    obtain ⟨k, hkg, rfl, rfl, hown, hbel⟩ := hrel
    have AK : Aside (k + gk = 8) := hkg
    have hk8 : k ≤ 8 := by omega
    clear hkg
    by_cases hlt : k < 8
    · have hki : (k : Int) < 8 := by omega
      obtain ⟨y, hy⟩ : ∃ y, x / 2 ^ k = y := ⟨_, rfl⟩
      have hy256 : y < 256 := by have := Nat.div_le_self x (2 ^ k); omega
      rw [hy]
      have AY : Aside (x / 2 ^ k = y) := hy
      clear hy
      obtain ⟨c, hc⟩ : ∃ c : Bool, ((y : Int) % 2 == 1) = c := ⟨_, rfl⟩
      have hsz := hbel.size
      have ABel : Aside (Below w.heap.size w wr) := hbel
      clear hbel
      go_wp2_with (at_builtin; refine wpList_append_own _ rfl (.tmp 9) (.tmp 13) 42 rfl w.heap.size 4 i0 (.bool false) 1 1 Try.underlying42 hi hz0 hz1 hz2 rfl (by decide) _ _ _ rfl (hown.alloc _) ⟨wr.heap.size, 0, none⟩ 1 1 [.bool c] rfl rfl ?c1 ?c2 ?c3 ?c4 ?c5 ?_)
      case c1 =>
        intro j u hj
        match j, hj with
        | 0, hj => simp at hj; subst hj; simp [Addr.add]
      case c2 => intro u hu; simp at hu; subst hu; rfl
      case c3 => unfold maxLen; omega
      case c4 => omega
      case c5 => simp; omega
      intro v' w1 hown' hgrow _
      have hbel1 : Below w.heap.size w w1 := (ABel.out.alloc hsz _).grown hgrow (by simp; omega) (fun g hg => (hown.lt g hg).1)
      have hown1 : w1.ownsRow w.heap.size 4 1 v' (k + 1) (vb (bitsOf (k + 1) x)) := by
        have hcb : (x / 2 ^ k % 2 == 1) = c := by
          rw [AY.out, ← hc, Bool.eq_iff_iff]
          simp only [beq_iff_eq]
          omega
        rw [bitsOf_succ, hcb, vb, List.map_append]
        exact hown'
      clear hown' hgrow hown hsz ABel
      go_wp2_with fail
      have AK := AK.out
      have AY := AY.out
      go_roundg (gk - 1)
      case measure => omega
      case rel =>
        refine ⟨k + 1, by omega, by go_num, ?_, hown1, hbel1⟩
        rw [Nat.pow_succ, ← Nat.div_div_eq_div_mul, AY]
        go_num
    · have hki : ¬ (k : Int) < 8 := by omega
      have hk : k = 8 := by omega
      subst hk
      go_wp2_with fail
      go_ret
      exact ⟨_, rfl, hown, hbel⟩

/-- Where the bits of a list lie: nowhere, if it has none; else cell by cell. -/
def Lie (w : World) (a : Option Addr) (l : List Bool) : Prop := l = [] ∨ ∃ g off, a = some ⟨g, off, none⟩ ∧ ∀ i (h : i < l.length), w.cell? ⟨g, off + i, none⟩ = some (.bool l[i])

end Go.Proofs.Ytlmajiejapaegaa

/-
  What the document's own Bits and Number come to: a byte's bits as a list that is the call's own, and the number of a list of bits.
  Conditions: the byte is one; the list has at most 64 bits.
-/
import Derived.Test.YtceblecdobbldaaRows
import Derived.Test.YtceblecdobbldaaMem
import Derived.Test.YtceblecdobbldaaLists
import Derived.WalkSpells
import Derived.OwnWalk
import Derived.Laws.AppendOwn
import Derived.Deep.LoopGhost
namespace Go.Proofs.Ytceblecdobbldaa
open Go.RowKit
theorem info4 : (Try.prog.info? 4).map (fun i => (i.zero, i.size, i.bytes)) = some (some (.bool false), 1, 1) := by kernel_rfl
/-- The values of some bits. -/
def vb (l : List Bool) : List Value := l.map Value.bool
theorem vb_length (l : List Bool) : (vb l).length = l.length := by simp [vb]
theorem vb_one {l : List Bool} : ∀ u ∈ vb l, u.oneCell' = true := by
  intro u hu
  obtain ⟨b, _, rfl⟩ := List.mem_map.1 hu
  rfl

set_option maxHeartbeats 1000000 in
theorem bits_c (x : Nat) (hx : x < 256) (w : World) : Calls Try.prog 23 #[.int .u8 x] w fun e w' => ∃ v, e = .returned v ∧ w'.ownsRow w.heap.size 4 1 v 8 (vb (bitsOf 8 x)) ∧ Below w.heap.size w w' := by
  obtain ⟨i0, hi, hz0, hz1, hz2⟩ := info_parts info4
  go_enter Try.func23, Try.ntmps23
  go_wp2_with fail
  go_loopg [0, 3, 4] 8 (fun g sb so si wr => ∃ k : Nat, k + g = 8 ∧ si = .int .i64 k ∧ sb = .int .u8 ((x / 2 ^ k : Nat) : Int) ∧ wr.ownsRow w.heap.size 4 1 so k (vb (bitsOf k x)) ∧ Below w.heap.size w wr)
  case atStart => exact ⟨0, rfl, rfl, by simp, World.ownsRow_nil _ _ _ _, Below.refl _ _⟩
  case round =>
    obtain ⟨k, hkg, rfl, rfl, hown, hbel⟩ := hrel
    have AK : Aside (k + gk = 8) := hkg
    have hk8 : k ≤ 8 := by omega
    clear hkg
    by_cases hlt : k < 8
    · have hki : (k : Int) < 8 := by omega
      obtain ⟨y, hy⟩ : ∃ y, x / 2 ^ k = y := ⟨_, rfl⟩
      have hy256 : y < 256 := by have := Nat.div_le_self x (2 ^ k); omega
      rw [hy]
      have AY : Aside (x / 2 ^ k = y) := hy
      clear hy
      obtain ⟨c, hc⟩ : ∃ c : Bool, ((y : Int) % 2 == 1) = c := ⟨_, rfl⟩
      have hsz := hbel.size
      have ABel : Aside (Below w.heap.size w wr) := hbel
      clear hbel
      go_wp2_with (at_builtin; refine wpList_append_own _ rfl (.tmp 9) (.tmp 13) 26 rfl w.heap.size 4 i0 (.bool false) 1 1 Try.underlying26 hi hz0 hz1 hz2 rfl (by decide) _ _ _ rfl (hown.alloc _) ⟨wr.heap.size, 0, none⟩ 1 1 [.bool c] rfl rfl ?c1 ?c2 ?c3 ?c4 ?c5 ?_)
      case c1 =>
        intro j u hj
        match j, hj with
        | 0, hj => simp at hj; subst hj; simp [Addr.add]
      case c2 => intro u hu; simp at hu; subst hu; rfl
      case c3 => unfold maxLen; omega
      case c4 => omega
      case c5 => simp; omega
      intro v' w1 hown' hgrow _
      have hbel1 : Below w.heap.size w w1 := (ABel.out.alloc hsz _).grown hgrow (by simp; omega) (fun g hg => (hown.lt g hg).1)
      have hown1 : w1.ownsRow w.heap.size 4 1 v' (k + 1) (vb (bitsOf (k + 1) x)) := by
        have hcb : (x / 2 ^ k % 2 == 1) = c := by
          rw [AY.out, ← hc, Bool.eq_iff_iff]
          simp only [beq_iff_eq]
          omega
        rw [bitsOf_succ, hcb, vb, List.map_append]
        exact hown'
      clear hown' hgrow hown hsz ABel
      go_wp2_with fail
      have AK := AK.out
      have AY := AY.out
      go_roundg (gk - 1)
      case measure => omega
      case rel =>
        refine ⟨k + 1, by omega, by go_num, ?_, hown1, hbel1⟩
        rw [Nat.pow_succ, ← Nat.div_div_eq_div_mul, AY]
        go_num
    · have hki : ¬ (k : Int) < 8 := by omega
      have hk : k = 8 := by omega
      subst hk
      go_wp2_with fail
      go_ret
      exact ⟨_, rfl, hown, hbel⟩

/-- Where the bits of a list lie: nowhere, if it has none; else cell by cell. -/
def Lie (w : World) (a : Option Addr) (l : List Bool) : Prop := l = [] ∨ ∃ g off, a = some ⟨g, off, none⟩ ∧ ∀ i (h : i < l.length), w.cell? ⟨g, off + i, none⟩ = some (.bool l[i])

set_option maxHeartbeats 1000000 in
theorem number_c (l : List Bool) (hl : l.length ≤ 64) (a : Option Addr) (cap : Nat) (w : World) (hc : Lie w a l) :
    Calls Try.prog 25 #[.slice a l.length cap] w fun e w' => e = .returned (.int .u64 (nm l : Nat)) ∧ w = w' := by
  obtain ⟨n, hn⟩ : ∃ n, l.length = n := ⟨_, rfl⟩
  rw [hn]
  have hn64 : n ≤ 64 := by omega
  have ALn : Aside (l.length = n) := hn
  clear hn hl
  go_enter Try.func25, Try.ntmps25
  go_wp2_with fail
  go_loopg [3, 4] n (fun g sv si wr => wr = w ∧ g ≤ n ∧ si = .int .i64 ((g : Int) - 1) ∧ sv = .int .u64 (nm (l.drop g) : Nat))
  case atStart =>
    refine ⟨rfl, Nat.le_refl _, rfl, ?_⟩
    rw [← ALn.out, List.drop_length]; rfl
  case round =>
    obtain ⟨rfl, hgn, rfl, rfl⟩ := hrel
    rcases gk with _ | j
    · go_wp2_with fail
      go_ret
      exact ⟨by simp [List.drop_zero], rfl⟩
    · have hjl : j < l.length := by have := ALn.out; omega
      have hah := nm_ahead l j hjl
      have hlt := nm_lt (l.drop (j + 1))
      have hb63 : nm (l.drop (j + 1)) < 9223372036854775808 := by
        have h2 : 2 ^ (l.drop (j + 1)).length ≤ 9223372036854775808 := pow_le64 (m := 63) (by rw [List.length_drop, ALn.out]; omega)
        omega
      obtain ⟨z, hz⟩ : ∃ z, nm (l.drop (j + 1)) = z := ⟨_, rfl⟩
      rw [hz] at hah hb63 ⊢
      clear hlt hz
      rcases hc with rfl | ⟨g, off, rfl, hc⟩
      · simp at hjl
      have hcj := hc j hjl
      obtain ⟨c, hcc⟩ : ∃ c, l[j] = c := ⟨_, rfl⟩
      rw [hcc] at hcj hah
      have AH : Aside (nm (l.drop j) = c.toNat + 2 * z) := hah
      have hji : (j : Int) < (n : Int) := by have := ALn.out; omega
      have hj0 : (0 : Int) ≤ j := Int.natCast_nonneg _
      have ej : ((j + 1 : Nat) : Int) - 1 = (j : Int) := by omega
      rw [ej]
      clear hah hc hcc ej ALn
      cases c
      · go_wp2_with fail
        have AH := AH.out
        go_roundg j
        case measure => omega
        case rel =>
          refine ⟨rfl, by omega, by go_num, ?_⟩
          rw [AH, Bool.toNat_false, Nat.zero_add]; push_cast; rfl
      · go_wp2_with fail
        have AH := AH.out
        go_roundg j
        case measure => omega
        case rel =>
          refine ⟨rfl, by omega, by go_num, ?_⟩
          rw [AH, Bool.toNat_true, Nat.add_comm]; push_cast; rfl
end Go.Proofs.Ytceblecdobbldaa

/-
  Own texts of this seat, one behind the other: what each says stands ahead of it.
-/
import Derived.Test.YtogednaamndpgaaGreatDoorMc
import Derived.Test.YtogednaamndpgaaGreatDoorProg
import Derived.Test.YtogednaamndpgaaGreatDoorMb
import Derived.WalkSpells
import Derived.OpenShut
import Derived.Test.YtogednaamndpgaaGreatDoorMa
import Derived.WalkMore
import Derived.ScopeJumps
import Derived.Deep.QuietTactic
import Derived.BigQuiet
import Derived.Laws.CopyOwn
import Derived.Deep.LoopGhost
import Derived.Laws.MakeOwn
import Derived.Laws.OwnMore
/-
  What the document's Look and Code come to.
  Conditions: the table and the bits lie in memory; the lengths make codes.
-/
namespace Go.Proofs.YtogednaamndpgaaGreatDoor
open Go.RowKit
set_option linter.unusedVariables false
/-- What a look at some bits tells: the symbol, what came, how many bits. -/
def Told (ls : List Nat) (h : List Bool) (s how k : Nat) : Prop :=
  (Hit ls h s k ∧ how = 0) ∨ ((∀ i n, ¬ Hit ls h i n) ∧ (∃ j n, ls[j]? = some n ∧ 0 < n ∧ h <+: cbits ls j) ∧ s = 0 ∧ how = 1 ∧ k = 0) ∨ ((∀ i n, ¬ Hit ls h i n) ∧ (¬ ∃ j n, ls[j]? = some n ∧ 0 < n ∧ h <+: cbits ls j) ∧ s = 0 ∧ how = 2 ∧ k = 0)
theorem cbits_at {ls : List Nat} {i n : Nat} (h : ls[i]? = some n) : cbits ls i = bitsB n (code ls i n) := by unfold cbits; rw [h]
set_option maxRecDepth 100000 in
set_option maxHeartbeats 4000000 in
theorem rlook_c (T : Nat) (ls : List Nat) (a : Option Addr) (h : List Bool) (H C L s how k : Nat) (w : World) (ht : Tb w T ls) (hl : Lb w a h) (hH : h.length = H) (hHb : H < 1048576) (hL : ls.length = L) (hLb : L ≤ 320) (hk : part ls 15 ≤ 32768) (h15 : ∀ l ∈ ls, l ≤ 15) (hr : Told ls h s how k) :
    Calls Tryz.prog 106 #[.pointer (some ⟨T, 0, none⟩), .slice a H C] w fun e w' => e = .returned (.tuple #[.int .i64 (s : Int), .int .i64 (how : Int), .int .i64 (k : Int)]) ∧ Drawn w w' := by
  have AH : Aside (Tb w T ls ∧ Lb w a h ∧ h.length = H ∧ H < 1048576 ∧ ls.length = L ∧ L ≤ 320 ∧ part ls 15 ≤ 32768 ∧ (∀ l ∈ ls, l ≤ 15)) := ⟨ht, hl, hH, hHb, hL, hLb, hk, h15⟩
  have AR : Aside (Told ls h s how k) := hr
  clear ht hl hH hHb hL hLb hk h15 hr
  obtain ⟨g, rows, cT, cR, hrow⟩ := AH.out.1.cells
  rw [AH.out.2.2.2.2.1] at cT
  have hTl := World.block_lt_of_cell? w ⟨T, 0, none⟩ cT
  have AT : Aside (w.cell? ⟨T, 0, none⟩ = some (.slice (some ⟨g, 0, none⟩) L L) ∧ T < w.heap.size ∧ Cells w g rows 131) := ⟨cT, hTl, cR⟩
  have AW : Aside (∀ (j m : Nat), ls[j]? = some m → (0 < m → ∃ b, rows[j]? = some (.slice (some ⟨b, 0, none⟩) m m) ∧ Bb w b (bitsB m (code ls j m))) ∧ (m = 0 → rows[j]? = some (.slice none 0 0))) := hrow
  clear cT cR hrow hTl
  go_enter Tryz.func106, Tryz.ntmps106
  go_wp2_with fail
  go_loopg [7, 8] L (fun gg sm si wr => ∃ (mo : Bool) (i : Nat), sm = .bool mo ∧ si = .int .i64 i ∧ Aside (i + gg = L ∧ (∀ j n, j < i → ¬ Hit ls h j n) ∧ (mo = true ↔ ∃ j n, j < i ∧ ls[j]? = some n ∧ 0 < n ∧ h <+: cbits ls j) ∧ Drawn w wr))
  case atStart => exact ⟨false, 0, rfl, rfl, ⟨by omega, fun j n h => by omega, ⟨fun h => (by cases h), fun ⟨j, n, h, _⟩ => by omega⟩, Drawn.refl _⟩⟩
  case round =>
    obtain ⟨mo, i, rfl, rfl, hI⟩ := hrel
    have bd := Drawn.below hI.out.2.2.2 w.heap.size
    have cT : wr.cell? ⟨T, 0, none⟩ = some (.slice (some ⟨g, 0, none⟩) L L) := (bd.cell (p := ⟨T, 0, none⟩) AT.out.2.1).trans AT.out.1
    by_cases hiL : i < L
    · have hi : (i : Int) < (L : Int) := by omega
      obtain ⟨l, hl⟩ : ∃ l, ls[i]? = some l := ⟨_, List.getElem?_eq_getElem (by have := AH.out; omega)⟩
      have hr := AW.out i l hl
      have cg : ∀ {v : Value}, rows[i]? = some v → wr.cell? ⟨g, i, none⟩ = some v := fun {v} hv => (bd.cell (p := ⟨g, i, none⟩) AT.out.2.2.lt).trans ((AT.out.2.2.cell i).trans hv)
      have hib : (i : Int) < 320 := by have := AH.out; omega
      have AI : Aside (i < L ∧ ls[i]? = some l) := ⟨hiL, hl⟩
      clear hiL hl
      by_cases hl0 : l = 0
      · subst hl0
        have cz := cg (hr.2 rfl)
        have A2 : Aside ((∀ j n, j < i + 1 → ¬ Hit ls h j n) ∧ (mo = true ↔ ∃ j n, j < i + 1 ∧ ls[j]? = some n ∧ 0 < n ∧ h <+: cbits ls j)) := by
          refine ⟨fun j n hj hh => ?_, ?_⟩
          · by_cases e : j = i
            · subst e; have := hh.1; rw [AI.out.2] at this; cases this; exact absurd hh.2.1 (by omega)
            · exact hI.out.2.1 j n (by omega) hh
          · rw [hI.out.2.2.1]
            constructor
            · rintro ⟨j, n, h1, h2⟩; exact ⟨j, n, by omega, h2⟩
            · rintro ⟨j, n, h1, h2, h3, h4⟩
              by_cases e : j = i
              · subst e; rw [AI.out.2] at h2; cases h2; omega
              · exact ⟨j, n, by omega, h2, h3, h4⟩
        clear hr cg bd
        go_wp2_with fail
        have h1 := hI.out; have h2 := AI.out
        go_roundg (L - (i + 1))
        case measure => omega
        case rel => exact ⟨mo, i + 1, rfl, by go_num, ⟨by omega, A2.out.1, A2.out.2, h1.2.2.2⟩⟩
      · obtain ⟨b, hb1, hb2⟩ := hr.1 (by omega)
        have cz := cg hb1
        have hlp : (l : Int) ≠ 0 := by omega
        have hle : ((l : Int) == 0) = false := by rw [beq_eq_false_iff_ne]; exact hlp
        have l15 := AH.out.2.2.2.2.2.2.2 l (List.mem_of_getElem? AI.out.2)
        have hlb : Lb w (some ⟨b, 0, none⟩) (cbits ls i) := by rw [cbits_at AI.out.2]; exact hb2.lb
        have hcl : (cbits ls i).length = l := by rw [cbits_at AI.out.2, bitsB_len]
        have hhit := hit_prefix (h := h) AH.out.2.2.2.2.2.2.1 AH.out.2.2.2.2.2.2.2 AI.out.2 (by omega)
        have A3 : Aside (l ≠ 0 ∧ l ≤ 15 ∧ Lb w (some ⟨b, 0, none⟩) (cbits ls i) ∧ (cbits ls i).length = l ∧ (cbits ls i <+: h ↔ Hit ls h i l)) := ⟨hl0, l15, hlb, hcl, hhit⟩
        have hbeg := begins_c a (some ⟨b, 0, none⟩) h (cbits ls i) H l C l (decide (cbits ls i <+: h)) wr (AH.out.2.1.below (Drawn.below hI.out.2.2.2 _)) (hlb.below (Drawn.below hI.out.2.2.2 _)) AH.out.2.2.1 hcl (by omega) rfl
        clear hr cg bd hb1 hb2 hl0 l15 hlb hcl hhit
        by_cases hp : cbits ls i <+: h
        · rw [decide_eq_true hp] at hbeg
          have A4 : Aside (i = s ∧ how = 0 ∧ l = k) := by
            have hh := A3.out.2.2.2.2.1 hp
            rcases AR.out with ⟨h1, h2⟩ | ⟨h1, _⟩ | ⟨h1, _⟩
            · obtain ⟨e1, e2⟩ := hit_one hh h1
              exact ⟨e1, h2, e2⟩
            · exact absurd hh (h1 i l)
            · exact absurd hh (h1 i l)
          clear hp
          go_wp2_with (go_at_call 118; refine hbeg.mono ?_; rintro e5 w5 ⟨rfl, hd5⟩)
          go_ret3
          obtain ⟨rfl, rfl, rfl⟩ := A4.out
          exact ⟨rfl, hI.out.2.2.2.trans hd5⟩
        · rw [decide_eq_false hp] at hbeg
          have A2 : Aside (∀ j n, j < i + 1 → ¬ Hit ls h j n) := by
            intro j n hj hh
            by_cases e : j = i
            · subst e
              have e2 := hh.1; rw [AI.out.2] at e2; cases e2
              exact hp (A3.out.2.2.2.2.2 hh)
            · exact hI.out.2.1 j n (by omega) hh
          clear hp
          cases mo with
          | true =>
            have A5 : Aside (∃ j n, j < i + 1 ∧ ls[j]? = some n ∧ 0 < n ∧ h <+: cbits ls j) := by
              obtain ⟨j, n, h1, h2⟩ := hI.out.2.2.1.1 rfl
              exact ⟨j, n, by omega, h2⟩
            go_wp2_with (go_at_call 118; refine hbeg.mono ?_; rintro e5 w5 ⟨rfl, hd5⟩)
            have h1 := hI.out; have h2 := AI.out
            go_roundg (L - (i + 1))
            case measure => omega
            case rel => exact ⟨true, i + 1, rfl, by go_num, ⟨by omega, A2.out, ⟨fun _ => A5.out, fun _ => rfl⟩, h1.2.2.2.trans hd5⟩⟩
          | false =>
            obtain ⟨q, hq⟩ : ∃ q, decide (h <+: cbits ls i) = q := ⟨_, rfl⟩
            have A5 : Aside (q = true ↔ ∃ j n, j < i + 1 ∧ ls[j]? = some n ∧ 0 < n ∧ h <+: cbits ls j) := by
              rw [← hq, decide_eq_true_iff]
              constructor
              · intro hh; exact ⟨i, l, by omega, AI.out.2, by have := A3.out; omega, hh⟩
              · rintro ⟨j, n, h1, h2, h3, h4⟩
                by_cases e : j = i
                · subst e; exact h4
                · exact absurd (hI.out.2.2.1.2 ⟨j, n, by omega, h2, h3, h4⟩) (by simp)
            have hbeg2 := fun (W : World) (hW : Drawn w W) => begins_c (some ⟨b, 0, none⟩) a (cbits ls i) h l H l C q W (A3.out.2.2.1.below (Drawn.below hW _)) (AH.out.2.1.below (Drawn.below hW _)) A3.out.2.2.2.1 AH.out.2.2.1 AH.out.2.2.2.1 hq.symm
            have BG : Aside (∀ W, Drawn w W → _) := hbeg2
            clear hbeg2 hq
            go_wp2_with (first
              | (go_at_call 118; with_reducible refine hbeg.mono ?_; rintro e5 w5 ⟨rfl, hd5⟩
                 have hdd : Drawn w w5 := hI.out.2.2.2.trans hd5
                 have hb2 := BG.out w5 hdd
                 have A6 : Aside (Drawn w w5) := hdd
                 clear hdd hd5)
              | (go_at_call 118; with_reducible refine hb2.mono ?_; rintro e6 w6 ⟨rfl, hd6⟩))
            have h1 := hI.out; have h2 := AI.out
            go_roundg (L - (i + 1))
            case measure => omega
            case rel => exact ⟨q, i + 1, rfl, by go_num, ⟨by omega, A2.out, A5.out, A6.out.trans hd6⟩⟩
    · have hi : ¬ (i : Int) < (L : Int) := by omega
      have hno : ∀ j n, ¬ Hit ls h j n := fun j n hh => hI.out.2.1 j n (by have := (List.getElem?_eq_some_iff.1 hh.1).1; have := AH.out; omega) hh
      have hmo : mo = true ↔ ∃ j n, ls[j]? = some n ∧ 0 < n ∧ h <+: cbits ls j := by
        rw [hI.out.2.2.1]
        constructor
        · rintro ⟨j, n, _, h2⟩; exact ⟨j, n, h2⟩
        · rintro ⟨j, n, h2⟩; exact ⟨j, n, by have := (List.getElem?_eq_some_iff.1 h2.1).1; have := AH.out; omega, h2⟩
      have A7 : Aside ((mo = true ∧ s = 0 ∧ how = 1 ∧ k = 0) ∨ (mo = false ∧ s = 0 ∧ how = 2 ∧ k = 0)) := by
        rcases AR.out with ⟨h1, _⟩ | ⟨_, h1, h2⟩ | ⟨_, h1, h2⟩
        · exact absurd h1 (hno s k)
        · exact Or.inl ⟨hmo.2 h1, h2⟩
        · refine Or.inr ⟨?_, h2⟩
          cases hm : mo with
          | false => rfl
          | true => exact absurd (hmo.1 hm) h1
      clear hiL hno hmo bd
      rcases A7.out with ⟨rfl, rfl, rfl, rfl⟩ | ⟨rfl, rfl, rfl, rfl⟩
      · go_wp2_with fail
        go_ret3
        exact ⟨rfl, hI.out.2.2.2⟩
      · go_wp2_with fail
        go_ret3
        exact ⟨rfl, hI.out.2.2.2⟩
theorem num_take_snoc {l : List Bool} {k : Nat} {x : Bool} (h : l[k]? = some x) : num (l.take (k + 1)) = 2 * num (l.take k) + (if x then 1 else 0) := by
  rw [take_one h, num_app]
  cases x <;> simp [num] <;> omega
end Go.Proofs.YtogednaamndpgaaGreatDoor

/-
  What Reverse comes to, the program's and the document's: the lowest m bits of v, the lowest one first, gathered as a number; m is n between 0 and 32.
  Conditions: v is a number of 32 bits.
-/
namespace Go.Proofs.YtogednaamndpgaaGreatDoor
open Go.RowKit
/-- k bits of v, the lowest one first, behind those of o. -/
def revl : Nat → Nat → Nat → Nat
  | 0, _, o => o
  | k + 1, v, o => revl k (v / 2) (2 * o + v % 2)
theorem revl_add : ∀ (k v o : Nat), revl k v o = o * 2 ^ k + revl k v 0
  | 0, _, o => by simp [revl]
  | k + 1, v, o => by
    rw [revl, revl, revl_add k (v / 2) (2 * o + v % 2), revl_add k (v / 2) (2 * 0 + v % 2), Nat.pow_succ, Nat.add_mul, Nat.mul_zero, Nat.zero_add]
    rw [show 2 * o * 2 ^ k = o * (2 ^ k * 2) by rw [Nat.mul_comm 2 o, Nat.mul_assoc, Nat.mul_comm 2]]
    omega
/-- The highest bit comes last. -/
theorem revl_last : ∀ (k v : Nat), revl (k + 1) v 0 = 2 * revl k v 0 + v / 2 ^ k % 2
  | 0, v => by simp [revl]
  | k + 1, v => by
    rw [revl, revl_add (k + 1), revl_last k (v / 2), revl, revl_add k (v / 2) (2 * 0 + v % 2), Nat.div_div_eq_div_mul, ← Nat.pow_succ']
    rw [Nat.mul_zero, Nat.zero_add, Nat.pow_succ, ← Nat.mul_assoc]
    omega
/-- Bits above the first k do not matter. -/
theorem revl_high : ∀ (k v o c : Nat), revl k (v + c * 2 ^ k) o = revl k v o
  | 0, _, _, _ => rfl
  | k + 1, v, o, c => by
    rw [revl, revl]
    have e : c * 2 ^ (k + 1) = 2 * (c * 2 ^ k) := by rw [Nat.pow_succ, ← Nat.mul_assoc, Nat.mul_comm]
    rw [e, show (v + 2 * (c * 2 ^ k)) % 2 = v % 2 by omega, show (v + 2 * (c * 2 ^ k)) / 2 = v / 2 + c * 2 ^ k by omega]
    exact revl_high k _ _ _
/-- A bit more at the low end of a number of at most 31 bits. -/
theorem or_bit (o v i : Nat) (ho : o < 2 ^ i) (hi : i < 32) (hv : v < 4294967296) : bits .or .u32 ((o : Int) * 2 % 4294967296) (bits .and .u32 (v : Int) 1) = ((2 * o + v % 2 : Nat) : Int) := by
  have h1 : 2 ^ i ≤ 2147483648 := pow_le64 (show i ≤ 31 by omega)
  have e : (o : Int) * 2 % 4294967296 = ((2 * o : Nat) : Int) := by omega
  rw [e, show (1 : Int) = ((1 : Nat) : Int) from rfl, u32_and_nat v 1 hv (by decide), Nat.and_one_is_mod, u32_or_nat _ _ (by omega) (by omega)]
  congr 1
  exact (Nat.two_pow_add_eq_or_of_lt (i := 1) (b := v % 2) (by omega) o).symm

/-- n between 0 and 32. -/
def clamp (n : Int) : Nat := (max 0 (min n 32)).toNat
set_option maxHeartbeats 1000000 in
theorem rev_c (v : Nat) (hv : v < 4294967296) (n : Int) (w : World) :
    Calls Tryz.prog 121 #[.int .u32 v, .int .i64 n] w fun e w' => e = .returned (.int .u32 (revl (clamp n) v 0 : Nat)) ∧ w = w' := by
  obtain ⟨m, hm⟩ : ∃ m, clamp n = m := ⟨_, rfl⟩
  have hm2 : (m : Int) = max 0 (min n 32) := by unfold clamp at hm; omega
  rw [hm]
  go_enter Tryz.func121, Tryz.ntmps121
  go_wp2
  all_goals
    go_loop [0, 5, 9] (fun a o i => ∃ k v' o' : Nat, k ≤ m ∧ i = .int .i64 k ∧ a = .int .u32 v' ∧ o = .int .u32 o' ∧ v' < 4294967296 ∧ o' < 2 ^ k ∧ revl (m - k) v' o' = revl m v 0) (fun _ _ i => m - (intOf i).toNat)
    case atStart => exact ⟨0, v, 0, Nat.zero_le _, rfl, rfl, rfl, hv, by decide, rfl⟩
    case round =>
      obtain ⟨k, v', o', hk, rfl, rfl, rfl, hv', ho', hr⟩ := hrel
      go_wp2
      all_goals first
        | (have hlt : k < m := by omega
           obtain ⟨j, hj⟩ : ∃ j, m - k = j + 1 := ⟨m - k - 1, by omega⟩
           rw [hj, revl] at hr
           have hp : 2 ^ k ≤ 2147483648 := pow_le64 (show k ≤ 31 by omega)
           go_round
           case rel =>
             refine ⟨k + 1, v' / 2, 2 * o' + v' % 2, by omega, by go_num, by go_num, ?_, by omega, by rw [Nat.pow_succ]; omega, by rw [show m - (k + 1) = j by omega]; exact hr⟩
             rw [← or_bit o' v' k ho' (by omega) hv']
           case measure => simp [intOf]; omega)
        | (have hke : k = m := by omega
           subst hke
           rw [Nat.sub_self, revl] at hr
           go_ret
           exact ⟨by rw [← hr]; rfl, rfl⟩)
end Go.Proofs.YtogednaamndpgaaGreatDoor

/-
  Bits that a reader holds, as a number and turned round: the number of the first ones, the first one highest. No walk in this text.
-/
namespace Go.Proofs.YtogednaamndpgaaGreatDoor
open Go.RowKit
set_option linter.unusedVariables false
theorem Told.le {ls : List Nat} {h : List Bool} {s how k : Nat} (t : Told ls h s how k) : k ≤ h.length := by
  rcases t with ⟨h1, _⟩ | ⟨_, _, _, _, rfl⟩ | ⟨_, _, _, _, rfl⟩
  · exact h1.2.2.1
  · omega
  · omega
theorem nm_bit {l : List Bool} {k : Nat} {x : Bool} (h : l[k]? = some x) : nm l / 2 ^ k % 2 = if x then 1 else 0 := by
  obtain ⟨hk, e⟩ := List.getElem?_eq_some_iff.1 h
  rw [← nm_drop, nm_ahead l k hk, e]
  cases x <;> simp <;> omega
theorem rev_num {l : List Bool} : ∀ k, k ≤ l.length → revl k (nm l) 0 = num (l.take k)
  | 0, _ => by simp [revl, num]
  | k + 1, h => by
    obtain ⟨x, hx⟩ : ∃ x, l[k]? = some x := ⟨_, List.getElem?_eq_getElem (by omega)⟩
    rw [revl_last, rev_num k (by omega), nm_bit hx, num_take_snoc hx]
/-- Of a number's lowest bits alone. -/
theorem rev_mod (n m v : Nat) (h : n ≤ m) : revl n (v % 2 ^ m) 0 = revl n v 0 := by
  have e : v = v % 2 ^ m % 2 ^ n + v / 2 ^ n * 2 ^ n := by
    rw [Nat.mod_mod_of_dvd _ (Nat.pow_dvd_pow 2 h), Nat.mul_comm]; exact (Nat.mod_add_div v (2 ^ n)).symm
  have e2 : v % 2 ^ m = v % 2 ^ m % 2 ^ n + v % 2 ^ m / 2 ^ n * 2 ^ n := by rw [Nat.mul_comm]; exact (Nat.mod_add_div _ _).symm
  rw [e2, revl_high, e, revl_high, ← e]
end Go.Proofs.YtogednaamndpgaaGreatDoor

/-
  Worlds in which of all blocks that were there one alone may have turned.
-/
namespace Go.Proofs.YtogednaamndpgaaGreatDoor
open Go.RowKit
set_option linter.unusedVariables false
/-- Of all blocks that are there M alone may have turned. -/
structure But (M : Nat) (w w' : World) : Prop where
  os : w'.os = w.os
  tape : w'.tape = w.tape
  output : w'.output = w.output
  size : w.heap.size ≤ w'.heap.size
  block : ∀ k, k < w.heap.size → k ≠ M → w'.heap[k]? = w.heap[k]?
end Go.Proofs.YtogednaamndpgaaGreatDoor

/-
  What each method of bits' Reader comes to: at a nil reader, and at one that lies in memory, whose wide number is v and whose count is n.
  Conditions: n is at most 64, and v is below 2 to the n.
-/
namespace Go.Proofs.YtogednaamndpgaaGreatDoor
open Go.RowKit

/-- A scope whose one label is jumped to, forward: what stands behind the label is gone through from there. -/
theorem wp_scope_forward {P : Program} {a : Act} {w : World} {Q : Exit → Act → World → Prop} {c rest : Code} (l : Nat) (hf : findLabel c l = some rest)
    (first : c.wp P (Exit.jump l (fun a w => rest.wp P (Exit.noGoto Q) a w) Q) a w) : (Code.scope c).wp P Q a w := by
  refine wp_scope_jumps l _ (fun _ _ => 0) hf first ?_
  intro a w h
  refine wp_mono h ?_
  intro e a w hq
  cases e with
  | goto l => exact hq.elim
  | _ => exact hq
section
variable {Q : Exit → Act → World → Prop} {a : Act} {w : World} {l : Nat} {J : Act → World → Prop}
theorem jump_ret : Exit.jump l J Q .ret a w = Q .ret a w := rfl
end

/-! ### nil -/
/-! ### a reader that is there -/
/-- Block b holds a reader: its wide number, and its count. -/
def Rd (w : World) (b : Nat) (v n : Int) : Prop := ∃ t, Cells w b #[.int .u64 v, .int .u64 n] t
section
variable {w u : World} {b c : Nat} {v n : Int}
theorem Rd.c0 (h : Rd w b v n) : w.cell? ⟨b, 0, none⟩ = some (.int .u64 v) := by obtain ⟨t, h⟩ := h; rw [h.cell 0]; rfl
theorem Rd.c1 (h : Rd w b v n) : w.cell? ⟨b, 1, none⟩ = some (.int .u64 n) := by obtain ⟨t, h⟩ := h; rw [h.cell 1]; rfl
theorem Rd.fz (h : Rd w b v n) (i : Nat) : w.frozen? ⟨b, i, none⟩ = false := by obtain ⟨t, h⟩ := h; exact h.frozen i
theorem Rd.set0 (h : Rd w b v n) (v' : Int) : Rd (w.setCell ⟨b, 0, none⟩ (.int .u64 v')) b v' n := by obtain ⟨t, h⟩ := h; exact ⟨t, h.set 0 _⟩
theorem Rd.set1 (h : Rd w b v n) (n' : Int) : Rd (w.setCell ⟨b, 1, none⟩ (.int .u64 n')) b v n' := by obtain ⟨t, h⟩ := h; exact ⟨t, h.set 1 _⟩
theorem Rd.drewN (h : Rd w b v n) (k : Nat) : Rd (w.drewN k) b v n := h
theorem Rd.drew (h : Rd w b v n) : Rd w.drew b v n := h
theorem Rd.only (h : Rd w b v n) (k : Only c w u) (hb : b ≠ c) : Rd u b v n := by obtain ⟨t, h⟩ := h; exact ⟨t, h.only k hb⟩
theorem Rd.below {B : Nat} (h : Rd w b v n) (k : Below B w u) (hb : b < B) : Rd u b v n := by obtain ⟨t, h⟩ := h; exact ⟨t, h.below k hb⟩
theorem Rd.alloc (h : Rd w b v n) (o : Obj) : Rd (w.alloc o) b v n := by obtain ⟨t, h⟩ := h; exact ⟨t, h.alloc o⟩
theorem Rd.lt (h : Rd w b v n) : b < w.heap.size := by obtain ⟨t, h⟩ := h; exact h.lt
end
theorem Rd.new (w : World) (t : TypeId) : Rd (w.alloc (.cells #[.int .u64 0, .int .u64 0] t)) w.heap.size 0 0 := ⟨t, Cells.new w _ t⟩

theorem new_any (w : World) : Calls Tryz.prog 40 #[] w fun e w' => e = .returned (.pointer (some ⟨w.heap.size, 0, none⟩)) ∧ w' = w.alloc (.cells #[.int .u64 0, .int .u64 0] 119) := by
  go_enter Tryz.func40, Tryz.ntmps40
  go_wp2
  go_ret
  exact ⟨rfl, rfl⟩
theorem new_c (w : World) : Calls Tryz.prog 40 #[] w fun e w' => e = .returned (.pointer (some ⟨w.heap.size, 0, none⟩)) ∧ Rd w' w.heap.size 0 0 ∧ Below w.heap.size w w' ∧ w'.heap.size = w.heap.size + 1 :=
  (new_any w).mono fun _ _ h => ⟨h.1, by rw [h.2]; exact Rd.new _ _, by rw [h.2]; exact (Below.refl _ _).alloc (Nat.le_refl _) _, by rw [h.2]; simp⟩
theorem held_c (b : Nat) (v n : Int) (w : World) (h : Rd w b v n) (h0 : 0 ≤ n) (h64 : n ≤ 64) :
    Calls Tryz.prog 120 #[.pointer (some ⟨b, 0, none⟩)] w fun e w' => e = .returned (.int .i64 n) ∧ w = w' := by
  have h1 := h.c1
  go_enter Tryz.func120, Tryz.ntmps120
  go_wp2
  go_ret
  exact ⟨rfl, rfl⟩
end Go.Proofs.YtogednaamndpgaaGreatDoor

/-
  What each method of bits' Reader comes to, at a reader in memory that holds n bits, their number v.
  Conditions: n is at most 64, and v is below 2 to the n; each method keeps that.
-/
namespace Go.Proofs.YtogednaamndpgaaGreatDoor
open Go.RowKit

/-- Block b holds a reader of n bits, whose number is v. -/
structure Br (w : World) (b v n : Nat) : Prop where
  rd : Rd w b v n
  lt : v < 2 ^ n
  le : n ≤ 64
section
variable {w u : World} {b c v n : Nat}
theorem Br.drewN (h : Br w b v n) (k : Nat) : Br (w.drewN k) b v n := ⟨h.rd, h.lt, h.le⟩
theorem Br.drew (h : Br w b v n) : Br w.drew b v n := ⟨h.rd, h.lt, h.le⟩
theorem Br.only (h : Br w b v n) (k : Only c w u) (hb : b ≠ c) : Br u b v n := ⟨h.rd.only k hb, h.lt, h.le⟩
theorem Br.below {B : Nat} (h : Br w b v n) (k : Below B w u) (hb : b < B) : Br u b v n := ⟨h.rd.below k hb, h.lt, h.le⟩
theorem Br.alloc (h : Br w b v n) (o : Obj) : Br (w.alloc o) b v n := ⟨h.rd.alloc o, h.lt, h.le⟩
end
theorem new_b (w : World) : Calls Tryz.prog 40 #[] w fun e w' => e = .returned (.pointer (some ⟨w.heap.size, 0, none⟩)) ∧ Br w' w.heap.size 0 0 ∧ Below w.heap.size w w' ∧ w'.heap.size = w.heap.size + 1 :=
  (new_c w).mono fun _ _ h => ⟨h.1, ⟨h.2.1, by decide, by decide⟩, h.2.2⟩
theorem held_b (b v n : Nat) (w : World) (h : Br w b v n) : Calls Tryz.prog 120 #[.pointer (some ⟨b, 0, none⟩)] w fun e w' => e = .returned (.int .i64 n) ∧ w = w' :=
  held_c b v n w h.rd (by omega) (by have := h.le; omega)
theorem drop_b (b v n k : Nat) (w : World) (h : Br w b v n) (hk : k ≤ n) :
    Calls Tryz.prog 93 #[.pointer (some ⟨b, 0, none⟩), .int .u64 k] w fun e w' => e = .returned (.tuple #[]) ∧ Br w' b (v / 2 ^ k) (n - k) ∧ Only b w w' := by
  have h1 := h.rd.c0
  have h2 := h.rd.c1
  have h3 := h.rd.fz 0
  have h4 := h.rd.fz 1
  have h64 := h.le
  have hv := lt_word h.lt h.le
  go_enter Tryz.func93, Tryz.ntmps93
  go_wp2
  go_end0
  refine ⟨rfl, ⟨?_, div_lt v n k h.lt hk, by omega⟩, ?_⟩
  · have := (h.rd.set0 ((v : Int) / 2 ^ k)).set1 ((n : Int) - k)
    rw [div_nat] at this
    rw [show ((n - k : Nat) : Int) = (n : Int) - k by omega]
    simpa only [Int.toNat_natCast, div_nat] using this
  · exact ((Only.refl _ _).setCell _ _).setCell _ _
theorem put_yes (b v n x : Nat) (w : World) (h : Br w b v n) (hn : n ≤ 56) (hx : x < 256) :
    Calls Tryz.prog 146 #[.pointer (some ⟨b, 0, none⟩), .int .u8 x] w fun e w' => e = .returned (.bool true) ∧ Br w' b (v + x * 2 ^ n) (n + 8) ∧ Only b w w' := by
  have h1 := h.rd.c0
  have h2 := h.rd.c1
  have h3 := h.rd.fz 0
  have h4 := h.rd.fz 1
  have hn' : ¬ (56 : Int) < n := by omega
  have hv := lt_word h.lt h.le
  go_enter Tryz.func146, Tryz.ntmps146
  go_wp2
  refine wp_scope_forward 0 rfl ?_
  go_wp2
  go_region
  go_wp2
  rw [jump_ret]
  go_ret
  refine ⟨rfl, ⟨?_, put_lt v n x h.lt hx, by omega⟩, ?_⟩
  · rw [or_put v n x h.lt hn hx]
    have := ((h.rd.set0 ((v + x * 2 ^ n : Nat) : Int)).set1 ((n : Int) + 8)).drew
    rw [show ((n + 8 : Nat) : Int) = (n : Int) + 8 by omega]
    exact this
  · exact (((Only.refl _ _).setCell _ _).setCell _ _).drew
/-- So many bits can be told: not below 0, not above 32, not above what is held. -/
def Can (k : Int) (n : Nat) : Prop := 0 ≤ k ∧ k ≤ 32 ∧ k ≤ n
theorem peek_no (b v n : Nat) (k : Int) (w : World) (h : Br w b v n) (hk : ¬ Can k n) :
    Calls Tryz.prog 92 #[.pointer (some ⟨b, 0, none⟩), .int .i64 k] w fun e w' => e = .returned (.tuple #[.int .u32 0, .bool false]) ∧ w = w' := by
  have h2 := h.rd.c1
  have h64 := h.le
  go_enter Tryz.func92, Tryz.ntmps92
  go_wp2
  refine wp_scope_forward 0 rfl ?_
  unfold Can at hk
  by_cases c1 : k < 0
  · go_wp2
    go_step3
    refine ⟨rfl, ?_⟩
    go_wp2
    rw [Exit.noGoto_ret]
    go_ret2
    exact ⟨rfl, rfl⟩
  · by_cases c2 : 32 < k
    · go_wp2
      go_step3
      refine ⟨rfl, ?_⟩
      go_wp2
      rw [Exit.noGoto_ret]
      go_ret2
      exact ⟨rfl, rfl⟩
    · have c3 : (n : Int) < k := by omega
      go_wp2
      go_step3
      refine ⟨rfl, ?_⟩
      go_wp2
      rw [Exit.noGoto_ret]
      go_ret2
      exact ⟨rfl, rfl⟩
theorem peek_yes (b v n k : Nat) (w : World) (h : Br w b v n) (hk : k ≤ 32) (hkn : k ≤ n) :
    Calls Tryz.prog 92 #[.pointer (some ⟨b, 0, none⟩), .int .i64 k] w fun e w' => e = .returned (.tuple #[.int .u32 ((v % 2 ^ k : Nat) : Int), .bool true]) ∧ w = w' := by
  have h1 := h.rd.c0
  have h2 := h.rd.c1
  have h64 := h.le
  have e1 : ¬ (k : Int) < 0 := by omega
  have e2 : ¬ (32 : Int) < k := by omega
  have e3 : ¬ (n : Int) < k := by omega
  have hv := lt_word h.lt h.le
  have hm := and_mask v k hv hk
  go_enter Tryz.func92, Tryz.ntmps92
  go_wp2
  refine wp_scope_forward 0 rfl ?_
  go_wp2
  rw [jump_ret]
  go_ret2
  refine ⟨?_, rfl⟩
  simp only [hm, Array.getD]
  rfl
theorem take_no (b v n : Nat) (k : Int) (w : World) (h : Br w b v n) (hk : ¬ Can k n) :
    Calls Tryz.prog 64 #[.pointer (some ⟨b, 0, none⟩), .int .i64 k] w fun e w' => e = .returned (.tuple #[.int .u32 0, .bool false]) ∧ w = w' := by
  go_enter Tryz.func64, Tryz.ntmps64
  go_wp2_with fail
  refine wp_scope_forward 0 rfl ?_
  go_wp2_with fail
  refine (peek_no b v n k _ h hk).mono ?_
  rintro e w' ⟨rfl, rfl⟩
  go_wp2_with fail
  go_step3
  refine ⟨rfl, ?_⟩
  go_wp2
  rw [Exit.noGoto_ret]
  go_ret2
  exact ⟨rfl, rfl⟩
theorem take_yes (b v n k : Nat) (w : World) (h : Br w b v n) (hk : k ≤ 32) (hkn : k ≤ n) :
    Calls Tryz.prog 64 #[.pointer (some ⟨b, 0, none⟩), .int .i64 k] w fun e w' => e = .returned (.tuple #[.int .u32 ((v % 2 ^ k : Nat) : Int), .bool true]) ∧ Br w' b (v / 2 ^ k) (n - k) ∧ Only b w w' := by
  have h64 := h.le
  go_enter Tryz.func64, Tryz.ntmps64
  go_wp2_with fail
  refine wp_scope_forward 0 rfl ?_
  go_wp2_with fail
  refine (peek_yes b v n k _ h hk hkn).mono ?_
  rintro e w' ⟨rfl, rfl⟩
  go_wp2_with fail
  refine (drop_b b v n k _ h hkn).mono ?_
  rintro e w' ⟨rfl, hb, ho⟩
  go_wp2_with fail
  rw [jump_ret]
  go_ret2
  exact ⟨rfl, hb, ho⟩
theorem align_b (b v n : Nat) (w : World) (h : Br w b v n) :
    Calls Tryz.prog 65 #[.pointer (some ⟨b, 0, none⟩)] w fun e w' => e = .returned (.int .i64 ((n % 8 : Nat) : Int)) ∧ Br w' b (v / 2 ^ (n % 8)) (n - n % 8) ∧ Only b w w' := by
  have h2 := h.rd.c1
  have h64 := h.le
  have e : ((n % 8 : Nat) : Int) = (n : Int) % 8 := by omega
  go_enter Tryz.func65, Tryz.ntmps65
  go_wp2_with fail
  rw [← e]
  refine (drop_b b v n (n % 8) _ h (Nat.mod_le _ _)).mono ?_
  rintro e w' ⟨rfl, hb, ho⟩
  go_wp2_with fail
  go_ret
  exact ⟨rfl, hb, ho⟩
theorem clear_b (b v n : Nat) (w : World) (h : Br w b v n) :
    Calls Tryz.prog 142 #[.pointer (some ⟨b, 0, none⟩)] w fun e w' => e = .returned (.tuple #[]) ∧ Br w' b 0 0 ∧ Only b w w' := by
  have h2 := h.rd.c1
  have h64 := h.le
  go_enter Tryz.func142, Tryz.ntmps142
  go_wp2_with fail
  refine (drop_b b v n n _ h (Nat.le_refl _)).mono ?_
  rintro e w' ⟨rfl, hb, ho⟩
  rw [Nat.div_eq_of_lt h.lt, Nat.sub_self] at hb
  go_wp2_with fail
  go_end0
  exact ⟨rfl, hb, ho⟩
end Go.Proofs.YtogednaamndpgaaGreatDoor

/-
  What the program's Read comes to.
-/
namespace Go.Proofs.YtogednaamndpgaaGreatDoor
open Go.RowKit
set_option linter.unusedVariables false
theorem may_of {ls : List Nat} {l : List Bool} (hk : part ls 15 ≤ 32768) (h15 : ∀ x ∈ ls, x ≤ 15) : (∃ j n, ls[j]? = some n ∧ 0 < n ∧ l <+: cbits ls j) ↔ May ls l := by
  constructor
  · rintro ⟨j, n, h1, h2, h3⟩
    have := (may_prefix hk h15 h1 h2).1 h3
    exact ⟨j, n, h1, h2, this.1, this.2⟩
  · rintro ⟨j, n, h1, h2, h3, h4⟩
    exact ⟨j, n, h1, h2, (may_prefix hk h15 h1 h2).2 ⟨h3, h4⟩⟩
theorem told_bad {ls : List Nat} {l : List Bool} {s how k : Nat} (hk : part ls 15 ≤ 32768) (h15 : ∀ x ∈ ls, x ≤ 15) (ht : Told ls l s how k) (h1 : ∀ i n, ¬ Hit ls l i n) (h2 : ¬ May ls l) : s = 0 ∧ how = 2 ∧ k = 0 := by
  rcases ht with ⟨h, _⟩ | ⟨_, h, _⟩ | ⟨_, _, h⟩
  · exact absurd h (h1 _ _)
  · exact absurd ((may_of hk h15).1 h) h2
  · exact h
theorem told_more {ls : List Nat} {l : List Bool} {s how k : Nat} (hk : part ls 15 ≤ 32768) (h15 : ∀ x ∈ ls, x ≤ 15) (ht : Told ls l s how k) (h1 : ∀ i n, ¬ Hit ls l i n) (h2 : May ls l) : s = 0 ∧ how = 1 ∧ k = 0 := by
  rcases ht with ⟨h, _⟩ | ⟨_, _, h⟩ | ⟨_, h, _⟩
  · exact absurd h (h1 _ _)
  · exact h
  · exact absurd ((may_of hk h15).2 h2) h
theorem told_hit {ls : List Nat} {l : List Bool} {s how k s0 n : Nat} (ht : Told ls l s how k) (hh : Hit ls l s0 n) : s = s0 ∧ how = 0 ∧ k = n := by
  rcases ht with ⟨h, h0⟩ | ⟨h, _⟩ | ⟨h, _⟩
  · have := hit_one h hh
    exact ⟨this.1, h0, this.2⟩
  · exact absurd hh (h _ _)
  · exact absurd hh (h _ _)
theorem But.drawn {b : Nat} {w u : World} (h : Drawn w u) : But b w u := by
  obtain ⟨n, rfl⟩ := h
  exact ⟨rfl, rfl, rfl, Nat.le_refl _, fun _ _ _ => rfl⟩
theorem But.only {b : Nat} {w u v : World} (h : But b w u) (k : Only b u v) : But b w v :=
  ⟨k.os.trans h.os, k.tape.trans h.tape, k.output.trans h.output, by rw [k.size]; exact h.size, fun i hi hne => (k.block i hne).trans (h.block i hi hne)⟩
set_option maxRecDepth 100000 in
set_option maxHeartbeats 4000000 in
theorem read_c (lo hi T : Nat) (ls : List Nat) (b s how k : Nat) (l : List Bool) (w : World) (hp : PT w lo hi T ls) (hk : part ls 15 ≤ 32768) (h15 : ∀ x ∈ ls, x ≤ 15) (hb : Br w b (nm l) l.length) (ht : Told ls l s how k) :
    Calls Tryz.prog 111 #[.pointer (some ⟨T, 0, none⟩), .pointer (some ⟨b, 0, none⟩)] w fun e w' => e = .returned (.tuple #[.int .i64 (s : Int), .int .i64 (how : Int)]) ∧ Br w' b (nm (l.drop k)) (l.drop k).length ∧ But b w w' := by
  obtain ⟨g, M, kk, ht2, _⟩ := hp
  obtain ⟨G, hG, hLd⟩ := ht2.m
  have cT1 := ht2.t.cell 1
  simp only [List.getElem?_toArray, List.getElem?_cons_zero, List.getElem?_cons_succ] at cT1
  have hheld := held_b b (nm l) l.length w hb
  obtain ⟨H, hH⟩ : ∃ H, min l.length 15 = H := ⟨_, rfl⟩
  have hpeek := peek_yes b (nm l) l.length H w hb (by omega) (by omega)
  have hvb : nm l % 2 ^ H < 4294967296 := by
    have h1 := Nat.mod_lt (nm l) (show 0 < 2 ^ H from Nat.pow_pos (by decide))
    have h2 : 2 ^ H ≤ 2 ^ 15 := Nat.pow_le_pow_right (by decide) (by omega)
    omega
  have hrev := rev_c (nm l % 2 ^ H) hvb (H : Int) w
  have hcl : clamp (H : Int) = H := by unfold clamp; omega
  rw [hcl, rev_mod H H _ (Nat.le_refl _), rev_num H (by omega)] at hrev
  obtain ⟨v, hv⟩ : ∃ v, num (l.take H) = v := ⟨_, rfl⟩
  rw [hv] at hrev
  obtain ⟨x, hx⟩ : ∃ x, nm l % 2 ^ H = x := ⟨_, rfl⟩
  rw [hx] at hrev hpeek
  obtain ⟨Ln, hLn⟩ : ∃ Ln, l.length = Ln := ⟨_, rfl⟩
  have htk : ∀ n, n ≤ H → num (l.take n) = v / 2 ^ (H - n) := fun n hn => by rw [← hv]; exact take_num hn (by omega)
  have AH : Aside (Mp w M kk G ∧ Laidm ls ls.length G ∧ Br w b (nm l) l.length ∧ Told ls l s how k ∧ (∀ x ∈ ls, x ≤ 15) ∧ min l.length 15 = H ∧ (∀ n, n ≤ H → num (l.take n) = v / 2 ^ (H - n)) ∧ v < 2 ^ H ∧ l.length = Ln) := ⟨hG, hLd, hb, ht, h15, hH, htk, by rw [← hv]; have := num_lt (l.take H); rw [List.length_take, show min H l.length = H by omega] at this; exact this, hLn⟩
  rw [hLn] at hheld
  have hH15 : H ≤ 15 := by omega
  have hmin : (if (15 : Int) < (Ln : Int) then (15 : Int) else (Ln : Int)) = (H : Int) := by split <;> omega
  have hmin2 : (if (Ln : Int) < (15 : Int) then (Ln : Int) else (15 : Int)) = (H : Int) := by split <;> omega
  have AK : Aside (part ls 15 ≤ 32768) := hk
  clear ht2 hG hLd hb ht h15 hH htk hv hx hLn hcl hvb hk
  go_enter Tryz.func111, Tryz.ntmps111
  go_upto_region 6 with (go_at_call 120; refine hheld.mono ?_; rintro e2 w2 ⟨rfl, rfl⟩)
  clear hheld hmin hmin2
  go_upto_region 9 with (first
    | (go_at_call 92; refine hpeek.mono ?_; rintro e3 w3 ⟨rfl, rfl⟩)
    | (go_at_call 121; refine hrev.mono ?_; rintro e4 w4 ⟨rfl, rfl⟩))
  clear hpeek hrev
  go_loopg [30] (H + 1) (fun gg si wr => ∃ n : Nat, si = .int .i64 (n : Int) ∧ Aside (n + gg = H + 1 ∧ Drawn w wr ∧ ∀ j, j < n → G j (num (l.take j)) = some (-1)))
  case atStart => exact ⟨0, rfl, by omega, Drawn.refl _, fun j hj => by omega⟩
  case round =>
    obtain ⟨n, rfl, hI⟩ := hrel
    by_cases hn : n ≤ H
    · have hnI : (n : Int) < (H : Int) + 1 := by omega
      have hnH : (n : Int) ≤ (H : Int) := by omega
      obtain ⟨y, hy⟩ : ∃ y, v / 2 ^ (H - n) = y := ⟨_, rfl⟩
      have hvb : v < 4294967296 := by have := AH.out.2.2.2.2.2.2.2.1; have h2 : 2 ^ H ≤ 2 ^ 15 := Nat.pow_le_pow_right (by decide) hH15; omega
      have hyb : y < 4294967296 := by rw [← hy]; exact Nat.lt_of_le_of_lt (Nat.div_le_self _ _) hvb
      have hyI : (v : Int) / 2 ^ (H - n) = (y : Int) := by rw [← hy]; push_cast; rfl
      obtain ⟨r, hr⟩ : ∃ r, G n y = r := ⟨_, rfl⟩
      obtain ⟨q, hq⟩ := hI.out.2.1
      have hlook : ∀ j, (Instr.lookup 160 (.map (some M)) (.agg #[.int .u32 (n : Int), .int .u32 (y : Int)]) true).run Tryz.prog (wr.drewN j) = .ok (.tuple #[.int .i64 (r.getD 0), .bool r.isSome]) (wr.drewN j) := fun j =>
        run_look (wr.drewN j) M kk n y G (by rw [hq]; exact AH.out.1) (by omega) hyb r hr
      have cT1r : wr.cell? ⟨T, 1, none⟩ = some (.map (some M)) := by rw [hq]; exact cT1
      have htn : num (l.take n) = y := by rw [← hy]; exact AH.out.2.2.2.2.2.2.1 n hn
      have AY : Aside (G n y = r ∧ num (l.take n) = y ∧ n ≤ H) := ⟨hr, htn, hn⟩
      clear hq hr hy htn hn
      go_upto_region 11 with fail
      go_quiet (fail)
      have hdr : Aside (Drawn w (wr.drewN nq)) := hI.out.2.1.drewN nq
      obtain ⟨w5, hw5⟩ : ∃ w5, wr.drewN nq = w5 := ⟨_, rfl⟩
      rw [hw5] at hdr ⊢
      clear hw5 cT1r hlook
      cases r with
      | none =>
        go_wp2_with fail
        first | go_ret | go_ret2
        have a := AH.out
        have y := AY.out
        have hbd := a.2.1.bad (l := l) (n := n) (by omega) hI.out.2.2 (by rw [y.2.1]; exact y.1)
        obtain ⟨rfl, rfl, rfl⟩ := told_bad AK.out a.2.2.2.2.1 a.2.2.2.1 hbd.1 hbd.2
        refine ⟨rfl, ?_, But.drawn hdr.out⟩
        obtain ⟨q, hq⟩ := hdr.out
        rw [hq]
        exact a.2.2.1.drewN q
      | some z =>
        by_cases hz : z = -1
        · subst hz
          go_wp2_with fail
          go_roundg (H - n)
          case measure => have := hI.out.1; have := AY.out.2.2; omega
          case rel =>
            refine ⟨n + 1, by go_num, by have := AY.out.2.2; omega, hdr.out, fun j hj => ?_⟩
            rcases (show j < n ∨ j = n by omega) with h | rfl
            · exact hI.out.2.2 j h
            · rw [AY.out.2.1]; exact AY.out.1
        · have hzb : (z == -1) = false := beq_eq_false_iff_ne.2 hz
          have a := AH.out
          have y1 := AY.out
          obtain ⟨s0, rfl, hh⟩ := a.2.1.hit (l := l) (n := n) (v := z) (by omega) (by rw [y1.2.1]; exact y1.1) hz
          obtain ⟨rfl, rfl, rfl⟩ := told_hit a.2.2.2.1 hh
          have hbr : Br w5 b (nm l) l.length := by obtain ⟨q, hq⟩ := hdr.out; rw [hq]; exact a.2.2.1.drewN q
          have htake := take_yes b (nm l) l.length k w5 hbr (by omega) (by omega)
          clear a y1 hh hbr hz
          go_wp2_with (go_at_call 64; refine htake.mono ?_; rintro e6 w6 ⟨rfl, hb6, ho6⟩)
          first | go_ret | go_ret2
          refine ⟨rfl, ?_, (But.drawn hdr.out).only ho6⟩
          rw [nm_drop, List.length_drop]
          exact hb6
    · have hn1 : n = H + 1 := by have := hI.out.1; omega
      subst hn1
      have hni : ¬ ((H + 1 : Nat) : Int) < (H : Int) + 1 := by omega
      clear hn
      go_wp2_with fail
      first | go_ret | go_ret2
      have a := AH.out
      have hm := a.2.1.more a.2.2.2.2.1 (l := l) (n := H) a.2.2.2.2.2.1.symm (fun j hj => hI.out.2.2 j (by omega))
      obtain ⟨rfl, rfl, rfl⟩ := told_more AK.out a.2.2.2.2.1 a.2.2.2.1 hm.2.1 hm.2.2
      refine ⟨rfl, ?_, But.drawn hI.out.2.1⟩
      obtain ⟨q, hq⟩ := hI.out.2.1
      rw [hq]
      exact a.2.2.1.drewN q
theorem new_err (a : Option Addr) (zs : List Int) (L C e0 : Nat) (w : World) (h : Lens w a zs) (hL : zs.length = L) (hLb : L < 140737488355328) (he : nerr zs = e0) (h0 : e0 ≠ 0) :
    Calls Tryz.prog 96 #[.slice a L C] w fun e w' => e = .returned (.tuple #[.pointer none, .int .i64 (e0 : Int)]) ∧ Below w.heap.size w w' := by
  by_cases hok : Okl zs
  · exact new_room a zs L C e0 w h hL hLb hok he h0
  · have : e0 = 2 := by rw [← he]; unfold nerr; rw [if_pos hok]
    subst this
    exact new_arg a zs L C w h hL hLb hok
end Go.Proofs.YtogednaamndpgaaGreatDoor

/-
  Lists of bytes: the last ones of a list, what a copy does to a row, a row that goes round, and the bytes at the end again and again.
-/
namespace Go.Proofs.YtogednaamndpgaaGreatDoor
set_option linter.unusedVariables false
/-- The cell n behind the next one. -/
def gfwd (N x n : Nat) : Nat := if x + n < N then x + n else x + n - N
/-- The cell d ahead of the next one. -/
def gbck (N x d : Nat) : Nat := if d ≤ x then x - d else x + N - d
theorem gfwd_spec (N x n : Nat) : (x + n < N ∧ gfwd N x n = x + n) ∨ (N ≤ x + n ∧ gfwd N x n = x + n - N) := by unfold gfwd; split <;> omega
theorem gbck_spec (N x d : Nat) : (d ≤ x ∧ gbck N x d = x - d) ∨ (x < d ∧ gbck N x d = x + N - d) := by unfold gbck; split <;> omega
theorem gfwd_lt {N x n : Nat} (h : x < N) (h2 : n ≤ N) : gfwd N x n < N := by unfold gfwd; split <;> omega
theorem gbck_lt {N x d : Nat} (h1 : x < N) (h2 : 1 ≤ d) (h3 : d ≤ N) : gbck N x d < N := by unfold gbck; split <;> omega
/-- The last ones, at most N. -/
def glastN (N : Nat) (l : List Int) : List Int := l.drop (l.length - N)
theorem glastN_length (N : Nat) (l : List Int) : (glastN N l).length = min l.length N := by simp [glastN]; omega
theorem glastN_two (N : Nat) (l xs ys : List Int) : glastN N (glastN N (l ++ xs) ++ ys) = glastN N (l ++ xs ++ ys) := by
  apply List.ext_getElem?
  intro i
  simp only [glastN, List.getElem?_drop, List.getElem?_append, List.length_append, List.length_drop]
  by_cases h : l.length + xs.length ≤ N
  · simp only [show l.length + xs.length - N = 0 by omega, Nat.sub_zero, Nat.zero_add]
  · have e0 : l.length + xs.length - (l.length + xs.length - N) = N := by omega
    simp only [e0]
    have e1 : N + ys.length - N + i = ys.length + i := by omega
    have e2 : l.length + xs.length + ys.length - N + i = l.length + xs.length - N + (ys.length + i) := by omega
    simp only [e1, e2]
    by_cases c : ys.length + i < N
    · have c2 : l.length + xs.length - N + (ys.length + i) < l.length + xs.length := by omega
      rw [if_pos c, if_pos c2]
    · have c2 : ¬ l.length + xs.length - N + (ys.length + i) < l.length + xs.length := by omega
      rw [if_neg c, if_neg c2]
      congr 1; omega
theorem gsplice_get {α : Type} (l cs : List α) (off i : Nat) (h : off + cs.length ≤ l.length) : (splice l off cs)[i]? = if off ≤ i ∧ i < off + cs.length then cs[i - off]? else l[i]? := by
  unfold splice
  rw [List.getElem?_append, List.length_take, Nat.min_eq_left (by omega), List.getElem?_append, List.getElem?_take, List.getElem?_drop]
  by_cases c1 : i < off
  · rw [if_pos c1, if_pos c1, if_neg (by omega)]
  · rw [if_neg c1]
    by_cases c2 : i < off + cs.length
    · rw [if_pos (by omega), if_pos (by omega)]
    · rw [if_neg (by omega), if_neg (by omega)]
      congr 1; omega
/-- The row cs of N cells, whose next one is x, holds the list l. -/
def GHolds (N x : Nat) (cs l : List Int) : Prop := ∀ d, 1 ≤ d → d ≤ l.length → cs[gbck N x d]? = l[l.length - d]?
theorem gholds_nil (N x : Nat) (cs : List Int) : GHolds N x cs [] := fun d h1 h2 => by simp at h2; omega
/-- What is laid in goes round the end. -/
theorem gin_get {N x : Nat} {cs ys : List Int} (hc : cs.length = N) (hx : x < N) (hm : ys.length ≤ N) (q : Nat) (hq : q = min ys.length (N - x)) (p : Nat) (hp : p < N) :
    (splice (splice cs x (ys.take q)) 0 (ys.drop q))[p]? = if x ≤ p ∧ p < x + ys.length then ys[p - x]? else if p + N < x + ys.length then ys[p + N - x]? else cs[p]? := by
  have l1 : (ys.take q).length = q := by rw [List.length_take]; omega
  have l2 : (ys.drop q).length = ys.length - q := List.length_drop
  rw [gsplice_get _ _ _ _ (by rw [length_splice _ _ _ (by omega)]; omega), gsplice_get _ _ _ _ (by omega), l1, l2, List.getElem?_take, List.getElem?_drop]
  by_cases c1 : x ≤ p ∧ p < x + ys.length
  · rw [if_pos c1, if_neg (by omega), if_pos (by omega), if_pos (by omega)]
  · rw [if_neg c1]
    by_cases c2 : p + N < x + ys.length
    · rw [if_pos c2, if_pos (by omega)]
      congr 1; omega
    · rw [if_neg c2, if_neg (by omega), if_neg (by omega)]
theorem gin_holds {N x : Nat} {cs l ys : List Int} (hh : GHolds N x cs l) (hc : cs.length = N) (hx : x < N) (hl : l.length ≤ N) (hm : ys.length ≤ N) (q : Nat) (hq : q = min ys.length (N - x)) :
    GHolds N (gfwd N x ys.length) (splice (splice cs x (ys.take q)) 0 (ys.drop q)) (glastN N (l ++ ys)) := by
  intro d h1 h2
  have hlen := glastN_length N (l ++ ys)
  rw [List.length_append] at hlen
  have hp := gbck_lt (gfwd_lt hx hm) h1 (by omega : d ≤ N)
  rw [gin_get hc hx hm q hq _ hp, hlen]
  have e : (glastN N (l ++ ys))[min (l.length + ys.length) N - d]? = (l ++ ys)[l.length + ys.length - d]? := by
    unfold glastN
    rw [List.getElem?_drop, List.length_append]
    congr 1; omega
  rw [e, List.getElem?_append]
  have s1 := gfwd_spec N x ys.length
  have s2 := gbck_spec N (gfwd N x ys.length) d
  by_cases c : d ≤ ys.length
  · have c0 : ¬ l.length + ys.length - d < l.length := by omega
    rw [if_neg c0]
    by_cases c1 : x + (ys.length - d) < N
    · have c2 : x ≤ gbck N (gfwd N x ys.length) d ∧ gbck N (gfwd N x ys.length) d < x + ys.length := by omega
      rw [if_pos c2]
      congr 1; omega
    · have c2 : ¬ (x ≤ gbck N (gfwd N x ys.length) d ∧ gbck N (gfwd N x ys.length) d < x + ys.length) := by omega
      have c3 : gbck N (gfwd N x ys.length) d + N < x + ys.length := by omega
      rw [if_neg c2, if_pos c3]
      congr 1; omega
  · have s3 := gbck_spec N x (d - ys.length)
    have := hh (d - ys.length) (by omega) (by omega)
    have c0 : l.length + ys.length - d < l.length := by omega
    have hb : gbck N (gfwd N x ys.length) d = gbck N x (d - ys.length) := by omega
    have c2 : ¬ (x ≤ gbck N x (d - ys.length) ∧ gbck N x (d - ys.length) < x + ys.length) := by omega
    have c3 : ¬ gbck N x (d - ys.length) + N < x + ys.length := by omega
    rw [if_pos c0, hb, if_neg c2, if_neg c3, this]
    congr 1; omega
theorem gset_splice (cs : List Int) (x : Nat) (z : Int) (h : x < cs.length) : cs.set x z = splice cs x [z] := by
  apply List.ext_getElem?
  intro i
  rw [gsplice_get cs [z] x i (by simp; omega)]
  by_cases c : x = i
  · subst c
    rw [if_pos (by simp)]
    simp [h]
  · rw [if_neg (by simp; omega), List.getElem?_set_ne c]
theorem gput_holds {N x : Nat} {cs l : List Int} (hh : GHolds N x cs l) (hc : cs.length = N) (hx : x < N) (hl : l.length ≤ N) (z : Int) : GHolds N (gfwd N x 1) (cs.set x z) (glastN N (l ++ [z])) := by
  have := gin_holds (ys := [z]) hh hc hx hl (by simp; omega) 1 (by simp; omega)
  rw [gset_splice _ _ _ (by omega)]
  simpa [splice] using this
/-- The bytes at the end, d of them, again and again, n in all. -/
def gcyc (l : List Int) (d n : Nat) : List Int := (List.range n).map fun i => l.getD (l.length - d + i % d) 0
end Go.Proofs.YtogednaamndpgaaGreatDoor

/-
  What New, Len, Size, Clear, move, cell, Put and Back of the ring come to: at a window that is nil, and at one in memory.
  Conditions: none at a nil window; a window in memory has a size from 1 to 32768, its next cell and its count fit the size, and each method keeps that.
-/
namespace Go.Proofs.YtogednaamndpgaaGreatDoor
open Go.RowKit

/-- Numbers as bytes in memory. -/
def gvb (l : List Int) : List Value := l.map (Value.int .u8)
theorem gvb_get (l : List Int) (i : Nat) : (gvb l)[i]? = l[i]?.map (Value.int .u8) := by simp [gvb]
theorem ginfo5 : (Tryz.prog.info? 5).map (fun i => (i.zero, i.size, i.bytes)) = some (some (.int .u8 0), 1, 1) := by kernel_rfl
theorem ginfo_parts {P : Program} {t : TypeId} {z : Value} {n m : Nat} (h : (P.info? t).map (fun i => (i.zero, i.size, i.bytes)) = some (some z, n, m)) :
    ∃ i, P.info? t = some i ∧ i.zero = some z ∧ i.size = n ∧ i.bytes = m := by
  cases hq : P.info? t with
  | none => simp [hq] at h
  | some i => simp [hq] at h; exact ⟨i, rfl, h.1, h.2.1, h.2.2⟩
/-- make of a list of n bytes. -/
theorem gmade (n : Nat) (hn : n ≤ 1048576) (w : World) : (Instr.makeSlice 22 (.int .i64 (n : Int)) (.int .i64 (n : Int))).run Tryz.prog w = .ok (.slice (some ⟨w.heap.size, 0, none⟩) n n) (w.alloc (.cells (gvb (List.replicate n 0)).toArray 5)) := by
  obtain ⟨i, hi, hz, hs, hb⟩ := ginfo_parts ginfo5
  have := run_make (P := Tryz.prog) w 22 5 i _ Tryz.underlying22 hi hz .i64 .i64 n n (by omega) (by omega) (by rw [hb]; omega) (by omega)
  rw [this, hs]
  have e : madeCells (Value.int .u8 0).cells ((n : Int).toNat * 1) = (gvb (List.replicate n 0)).toArray := by
    apply Array.toList_inj.1
    show (madeCells #[Value.int .u8 0] _).toList = _
    rw [toList_madeCells_one]
    simp [gvb]
  rw [e]
  simp

/-- GTwo blocks alone may have turned; none has come. -/
structure GTwo (a b : Nat) (w w' : World) : Prop where
  os : w'.os = w.os
  tape : w'.tape = w.tape
  output : w'.output = w.output
  size : w'.heap.size = w.heap.size
  block : ∀ k, k ≠ a → k ≠ b → w'.heap[k]? = w.heap[k]?
section
variable {a b : Nat} {w u v : World}
theorem GTwo.refl (a b : Nat) (w : World) : GTwo a b w w := ⟨rfl, rfl, rfl, rfl, fun _ _ _ => rfl⟩
theorem GTwo.trans (h : GTwo a b w u) (k : GTwo a b u v) : GTwo a b w v :=
  ⟨k.os.trans h.os, k.tape.trans h.tape, k.output.trans h.output, k.size.trans h.size, fun i h1 h2 => (k.block i h1 h2).trans (h.block i h1 h2)⟩
theorem GTwo.fst (h : Only a w u) : GTwo a b w u := ⟨h.os, h.tape, h.output, h.size, fun i h1 _ => h.block i h1⟩
theorem GTwo.snd (h : Only b w u) : GTwo a b w u := ⟨h.os, h.tape, h.output, h.size, fun i _ h2 => h.block i h2⟩
theorem GTwo.below {B : Nat} (h : GTwo a b w u) (ha : B ≤ a) (hb : B ≤ b) : Below B w u :=
  ⟨h.os, h.tape, h.output, Nat.le_of_eq h.size.symm, fun k hk => h.block k (by omega) (by omega)⟩
theorem GTwo.drewN (h : GTwo a b w u) (n : Nat) : GTwo a b w (u.drewN n) := ⟨h.os, h.tape, h.output, h.size, h.block⟩
theorem GTwo.drew (h : GTwo a b w u) : GTwo a b w u.drew := ⟨h.os, h.tape, h.output, h.size, h.block⟩
end

/-- A window in memory: block H holds it, block K its N cells; x is the next cell, h the count. -/
structure GLo (w : World) (H K N x h : Nat) (cs : List Int) : Prop where
  hd : Cells w H #[.slice (some ⟨K, 0, none⟩) N N, .int .i64 (x : Int), .int .i64 (h : Int)] 115
  row : Cells w K (gvb cs).toArray 5
  len : cs.length = N
  n1 : 1 ≤ N
  n2 : N ≤ 32768
  xlt : x < N
  hle : h ≤ N
  ne : H ≠ K
section
variable {w u : World} {H K N x h : Nat} {cs : List Int}
theorem GLo.drewN (l : GLo w H K N x h cs) (n : Nat) : GLo (w.drewN n) H K N x h cs := ⟨l.hd, l.row, l.len, l.n1, l.n2, l.xlt, l.hle, l.ne⟩
theorem GLo.drew (l : GLo w H K N x h cs) : GLo w.drew H K N x h cs := ⟨l.hd, l.row, l.len, l.n1, l.n2, l.xlt, l.hle, l.ne⟩
theorem GLo.only {c : Nat} (l : GLo w H K N x h cs) (k : Only c w u) (h1 : H ≠ c) (h2 : K ≠ c) : GLo u H K N x h cs := ⟨l.hd.only k h1, l.row.only k h2, l.len, l.n1, l.n2, l.xlt, l.hle, l.ne⟩
theorem GLo.below {B : Nat} (l : GLo w H K N x h cs) (k : Below B w u) (h1 : H < B) (h2 : K < B) : GLo u H K N x h cs := ⟨l.hd.below k h1, l.row.below k h2, l.len, l.n1, l.n2, l.xlt, l.hle, l.ne⟩
theorem GLo.alloc (l : GLo w H K N x h cs) (o : Obj) : GLo (w.alloc o) H K N x h cs := ⟨l.hd.alloc o, l.row.alloc o, l.len, l.n1, l.n2, l.xlt, l.hle, l.ne⟩
theorem GLo.c0 (l : GLo w H K N x h cs) : w.cell? ⟨H, 0, none⟩ = some (.slice (some ⟨K, 0, none⟩) N N) := (l.hd.cell 0).trans rfl
theorem GLo.c1 (l : GLo w H K N x h cs) : w.cell? ⟨H, 1, none⟩ = some (.int .i64 (x : Int)) := (l.hd.cell 1).trans rfl
theorem GLo.c2 (l : GLo w H K N x h cs) : w.cell? ⟨H, 2, none⟩ = some (.int .i64 (h : Int)) := (l.hd.cell 2).trans rfl
theorem GLo.set (l : GLo w H K N x h cs) (x' h' : Nat) (hx : x' < N) (hh : h' ≤ N) : GLo ((w.setCell ⟨H, 1, none⟩ (.int .i64 (x' : Int))).setCell ⟨H, 2, none⟩ (.int .i64 (h' : Int))) H K N x' h' cs := by
  refine ⟨?_, ?_, l.len, l.n1, l.n2, hx, hh, l.ne⟩
  · exact ((l.hd.set 1 _).set 2 _)
  · exact l.row.only (((Only.refl H w).setCell 1 _).setCell 2 _) l.ne.symm
end

theorem gnew_yes (n : Nat) (w : World) (h1 : 1 ≤ n) (h2 : n ≤ 32768) : Calls Tryz.prog 39 #[.int .i64 n] w fun e w' => e = .returned (.tuple #[.pointer (some ⟨w.heap.size + 1, 0, none⟩), .int .i64 0]) ∧
    GLo w' (w.heap.size + 1) w.heap.size n 0 0 (List.replicate n 0) ∧ Below w.heap.size w w' ∧ w'.heap.size = w.heap.size + 2 := by
  have e1 : ¬ (n : Int) < 1 := by omega
  have e2 : ¬ (32768 : Int) < n := by omega
  have hm := gmade n (by omega) w
  generalize hcs : (gvb (List.replicate n 0)).toArray = cs at hm
  go_enter Tryz.func39, Tryz.ntmps39
  go_wp2
  go_ret2
  refine ⟨rfl, ⟨?_, ?_, by simp, h1, h2, h1, Nat.zero_le _, by omega⟩, ?_, ?_⟩
  · have := Cells.new (w.alloc (.cells cs 5)) #[.slice (some ⟨w.heap.size, 0, none⟩) n n, .int .i64 0, .int .i64 0] 115
    simpa using this
  · rw [hcs]
    exact (Cells.new w cs 5).alloc _
  · exact ((Below.refl _ _).alloc (Nat.le_refl _) _).alloc (by simp) _
  · simp
theorem glen_c {H K N x h : Nat} {cs : List Int} (w : World) (l : GLo w H K N x h cs) : Calls Tryz.prog 128 #[.pointer (some ⟨H, 0, none⟩)] w fun e w' => e = .returned (.int .i64 (h : Int)) ∧ w = w' := by
  have h2 := l.c2
  go_enter Tryz.func128, Tryz.ntmps128
  go_wp2
  go_ret
  exact ⟨rfl, rfl⟩
theorem gsize_c {H K N x h : Nat} {cs : List Int} (w : World) (l : GLo w H K N x h cs) : Calls Tryz.prog 122 #[.pointer (some ⟨H, 0, none⟩)] w fun e w' => e = .returned (.int .i64 (N : Int)) ∧ w = w' := by
  have h2 := l.c0
  go_enter Tryz.func122, Tryz.ntmps122
  go_wp2
  go_ret
  exact ⟨rfl, rfl⟩
theorem gclear_c {H K N x h : Nat} {cs : List Int} (w : World) (l : GLo w H K N x h cs) : Calls Tryz.prog 143 #[.pointer (some ⟨H, 0, none⟩)] w fun e w' => e = .returned (.tuple #[]) ∧ GLo w' H K N 0 0 cs ∧ Only H w w' := by
  have h1 := l.c1
  have h2 := l.c2
  have h3 := l.hd.frozen 1
  have h4 := l.hd.frozen 2
  go_enter Tryz.func143, Tryz.ntmps143
  go_wp2
  first | go_end0 | (refine bodyPost_ret (results_none rfl _ _ _) rfl ?_)
  exact ⟨rfl, l.set 0 0 l.n1 (Nat.zero_le _), ((Only.refl _ _).setCell _ _).setCell _ _⟩
theorem gmin_i (h n N : Nat) : (if (N : Int) < (h : Int) + n then (N : Int) else (h : Int) + n) = ((min (h + n) N : Nat) : Int) := by
  split <;> omega
theorem gmove_c {H K N x h : Nat} {cs : List Int} (n : Nat) (w : World) (l : GLo w H K N x h cs) (hn : n ≤ N) : Calls Tryz.prog 123 #[.pointer (some ⟨H, 0, none⟩), .int .i64 (n : Int)] w fun e w' => e = .returned (.tuple #[]) ∧ GLo w' H K N (gfwd N x n) (min (h + n) N) cs ∧ Only H w w' := by
  have h0 := l.c0
  have h1 := l.c1
  have h2 := l.c2
  have h3 := l.hd.frozen 1
  have h4 := l.hd.frozen 2
  have n2 := l.n2
  have xlt := l.xlt
  have hle := l.hle
  have hfl := gfwd_lt xlt hn
  go_enter Tryz.func123, Tryz.ntmps123
  by_cases hf : x + n < N
  · have hf1 : ¬ (N : Int) ≤ (x : Int) + n := by omega
    have hfw : gfwd N x n = x + n := by unfold gfwd; rw [if_pos hf]
    go_wp2_with fail
    go_quiet (fail)
    go_wp2_with fail
    go_region
    go_end0
    rw [gmin_i]
    refine ⟨rfl, ⟨?_, l.row.only ((((Only.refl H w).setCell 1 _).drewN _).setCell 2 _) l.ne.symm, l.len, l.n1, l.n2, hfl, Nat.min_le_right _ _, l.ne⟩, (((Only.refl H w).setCell 1 _).drewN _).setCell 2 _⟩
    rw [hfw]
    exact (((l.hd.set 1 (.int .i64 ((x : Int) + n))).drewN _).set 2 _)
  · have hf1 : (N : Int) ≤ (x : Int) + n := by omega
    have hfw : ((gfwd N x n : Nat) : Int) = (x : Int) + n - N := by unfold gfwd; rw [if_neg hf]; omega
    go_wp2_with fail
    go_quiet (fail)
    go_wp2_with fail
    go_region
    go_wp2_with fail
    go_region
    go_end0
    rw [gmin_i]
    refine ⟨rfl, ⟨?_, l.row.only ((((((Only.refl H w).setCell 1 _).drewN _).setCell 1 _).drewN _).setCell 2 _) l.ne.symm, l.len, l.n1, l.n2, hfl, Nat.min_le_right _ _, l.ne⟩, (((((Only.refl H w).setCell 1 _).drewN _).setCell 1 _).drewN _).setCell 2 _⟩
    rw [hfw]
    exact (((((l.hd.set 1 (.int .i64 ((x : Int) + n))).drewN _).set 1 (.int .i64 ((x : Int) + n - N))).drewN _).set 2 _)
theorem gcell_c {H K N x h : Nat} {cs : List Int} (d : Nat) (w : World) (l : GLo w H K N x h cs) (hd : d ≤ N) : Calls Tryz.prog 138 #[.pointer (some ⟨H, 0, none⟩), .int .i64 (d : Int)] w fun e w' => e = .returned (.int .i64 ((gbck N x d : Nat) : Int)) ∧ w' = w := by
  have h0 := l.c0
  have h1 := l.c1
  have n2 := l.n2
  have xlt := l.xlt
  go_enter Tryz.func138, Tryz.ntmps138
  by_cases hf : d ≤ x
  · have hf1 : ¬ (x : Int) - d < 0 := by omega
    have hb : ((gbck N x d : Nat) : Int) = (x : Int) - d := by unfold gbck; rw [if_pos hf]; omega
    go_wp2_with fail
    go_ret
    exact ⟨by first | rfl | (rw [hb]; rfl), rfl⟩
  · have hf1 : (x : Int) - d < 0 := by omega
    have hb : ((gbck N x d : Nat) : Int) = (x : Int) - d + N := by unfold gbck; rw [if_neg hf]; omega
    go_wp2_with fail
    go_ret
    exact ⟨by first | rfl | (rw [hb]; rfl), rfl⟩
theorem Cells.gbyte {w : World} {b : Nat} {cs : List Int} (h : Cells w b (gvb cs).toArray 5) {i : Nat} {z : Int} (hi : cs[i]? = some z) : w.cell? ⟨b, i, none⟩ = some (.int .u8 z) := by
  rw [h.cell i, List.getElem?_toArray, gvb_get, hi]; rfl
theorem gvb_set (cs : List Int) (i : Nat) (z : Int) : (gvb cs).toArray.setIfInBounds i (.int .u8 z) = (gvb (cs.set i z)).toArray := by
  simp [gvb, List.map_set]
theorem gput_c {H K N x h : Nat} {cs : List Int} (z : Int) (w : World) (l : GLo w H K N x h cs) : Calls Tryz.prog 112 #[.pointer (some ⟨H, 0, none⟩), .int .u8 z] w fun e w' => e = .returned (.tuple #[]) ∧ GLo w' H K N (gfwd N x 1) (min (h + 1) N) (cs.set x z) ∧ GTwo H K w w' := by
  have h0 := l.c0
  have h1 := l.c1
  have n1 := l.n1
  have xlt := l.xlt
  have hx : x < cs.length := by rw [l.len]; exact xlt
  have hxi : (x : Int) < (N : Int) := by omega
  have hr := l.row.gbyte (List.getElem?_eq_getElem hx)
  have hrf := l.row.frozen x
  have hN0 : ((N : Int) == 0) = false := by simp; omega
  go_enter Tryz.func112, Tryz.ntmps112
  go_wp2_with fail
  refine (gsize_c _ l).mono ?_
  rintro e w' ⟨rfl, rfl⟩
  go_wp2_with fail
  go_region
  have ho : Only K w ((w.setCell ⟨K, x, none⟩ (.int .u8 z)).drewN 1) := ((Only.refl K w).setCell x _).drewN 1
  have l2 : GLo ((w.setCell ⟨K, x, none⟩ (.int .u8 z)).drewN 1) H K N x h (cs.set x z) := by
    refine ⟨l.hd.only ho l.ne, ?_, by rw [List.length_set]; exact l.len, l.n1, l.n2, l.xlt, l.hle, l.ne⟩
    have := (l.row.set x (.int .u8 z)).drewN 1
    rwa [gvb_set] at this
  clear h0 h1 hr hrf hN0
  go_wp2_with fail
  refine (gmove_c 1 _ l2 n1).mono ?_
  rintro e w' ⟨rfl, l3, ho3⟩
  go_wp2_with fail
  first | go_end0 | (refine bodyPost_ret (results_none rfl _ _ _) rfl ?_)
  exact ⟨rfl, l3, (GTwo.snd ho).trans (GTwo.fst ho3)⟩
theorem gback_yes {H K N x h : Nat} {cs : List Int} (d : Nat) (z : Int) (w : World) (l : GLo w H K N x h cs) (h1 : 1 ≤ d) (h2 : d ≤ h) (hz : cs[gbck N x d]? = some z) :
    Calls Tryz.prog 131 #[.pointer (some ⟨H, 0, none⟩), .int .i64 (d : Int)] w fun e w' => e = .returned (.tuple #[.int .u8 z, .bool true]) ∧ ∃ n, w' = w.drewN n := by
  have hle := l.hle
  have hd : d ≤ N := Nat.le_trans h2 hle
  have e1 : ¬ (d : Int) < 1 := by omega
  have e2 : ¬ (h : Int) < (d : Int) := by omega
  have hb := gbck_lt l.xlt h1 hd
  have hr := l.row.gbyte hz
  have hc := fun w' (l' : GLo w' H K N x h cs) => gcell_c d w' l' hd
  clear hz
  generalize gbck N x d = p at *
  have hpi : (p : Int) < (N : Int) := by omega
  have h0 := l.c0
  go_enter Tryz.func131, Tryz.ntmps131
  go_wp2_with fail
  refine (glen_c _ l).mono ?_
  rintro e w' ⟨rfl, rfl⟩
  go_wp2_with fail
  go_quiet ((first | (go_at_call 138; refine Calls.quiet_of_same (hc _ ?_); first | exact l.drewN _ | exact l | exact l.drew)))
  go_wp2_with fail
  go_ret2
  exact ⟨rfl, _, rfl⟩
end Go.Proofs.YtogednaamndpgaaGreatDoor

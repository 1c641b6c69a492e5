/-
  Names as they are written; bytes filled up to whole blocks; digits; kinds.
-/
import Derived.Test.YtcmmjbkgoafbnaaGreatDoorWz0
import Derived.Test.YtcmmjbkgoafbnaaGreatDoorCnv
import Derived.Deep.CutBlock
import Derived.Deep.DeepCutAuto
namespace Go.Proofs.YtcmmjbkgoafbnaaGreatDoor
open Go.RowKit
set_option linter.unusedVariables false
theorem one_cell {w : World} {H x : Nat} (hH : w.heap.size = H) : ob [x] = [] ∨ ∃ b o, (some ⟨H, 0, none⟩ : Option Addr) = some ⟨b, o, none⟩ ∧ ∀ i u, (ob [x])[i]? = some u → (w.alloc (.cells #[.int .u8 (x : Int)] 5)).cell? ⟨b, o + i, none⟩ = some u := Or.inr ⟨H, 0, rfl, fun i u hu => by
  cases i with
  | zero => simp [ob] at hu; rw [← hu, ← hH, (Cells.new w #[.int .u8 (x : Int)] 5).cell]; rfl
  | succ i => simp [ob] at hu⟩
theorem Ow.made {w : World} {lo : Nat} (h : lo ≤ w.heap.size) : Ow (w.alloc (.cells #[] 5)) lo 5 1 (.slice (some ⟨w.heap.size, 0, none⟩) 0 0) 0 (ob []) :=
  ⟨World.ownsRow_made (base := lo) (e := 5) (size := 1) w #[] 0 h (by decide) rfl, by show _ ≤ (w.heap.push _).size; simp; omega⟩
theorem lies_ob {w : World} {a : Option Addr} {l : List Nat} (h : Lies w a l) : ob l = [] ∨ ∃ b o, a = some ⟨b, o, none⟩ ∧ ∀ (i : Nat) u, (ob l)[i]? = some u → w.cell? ⟨b, o + i, none⟩ = some u := by
  rcases h with rfl | ⟨b, o, ha, hc⟩
  · exact Or.inl rfl
  · refine Or.inr ⟨b, o, ha, fun i u hu => ?_⟩
    rw [ob_get] at hu
    cases hx : l[i]? with
    | none => rw [hx] at hu; simp at hu
    | some x =>
      rw [hx] at hu
      simp at hu
      rw [← hu]; exact hc i x hx
/-- A name as it is written. -/
def nmd (l : List Nat) : List Nat := (l.filter fun c => c != 0).take 256
theorem nmd_len (l : List Nat) : (nmd l).length ≤ 256 := by unfold nmd; rw [List.length_take]; omega
theorem nmd_nz (l : List Nat) : ∀ c ∈ nmd l, c ≠ 0 := fun c hc => by
  have := List.mem_of_mem_take hc
  have := (List.mem_filter.1 this).2
  simpa using this
theorem nmd_oct {l : List Nat} (h : Oct l) : Oct (nmd l) := fun c hc => h c (List.mem_filter.1 (List.mem_of_mem_take hc)).1
set_option maxRecDepth 20000 in
set_option maxHeartbeats 1000000 in
theorem named_c (l : List Nat) (ho : Oct l) (hl : l.length ≤ 9223372036854775807) (w : World) : Calls Tryz.prog 35 #[.string (st l)] w fun e w' => e = .returned (.string (st (nmd l))) ∧ Below w.heap.size w w' := by
  obtain ⟨lo, hlo⟩ : ∃ lo, w.heap.size = lo := ⟨_, rfl⟩
  obtain ⟨s, hs⟩ : ∃ s, s = st l := ⟨_, rfl⟩
  obtain ⟨L, hL⟩ : ∃ L, l.length = L := ⟨_, rfl⟩
  obtain ⟨ans, hans⟩ : ∃ ans, nmd l = ans := ⟨_, rfl⟩
  have z1 : s.size = L := by rw [hs, st_size, hL]
  rw [hans, ← hs, hlo]
  have A : Aside (s = st l ∧ l.length = L ∧ L ≤ 9223372036854775807 ∧ Oct l ∧ w.heap.size = lo ∧ nmd l = ans) := ⟨hs, hL, by omega, ho, hlo, hans⟩
  clear hs hL hl ho hlo hans
  go_enter Tryz.func35, Tryz.ntmps35
  go_wp2_with fail
  go_loopg [3, 4] L (fun gg s3 s4 wr => ∃ (k : Nat) (va : Option Addr) (n c : Nat), s3 = .slice va n c ∧ s4 = .int .i64 (k : Int) ∧ Aside (k + gg = L ∧ ∃ p, Ow wr lo 5 1 (.slice va n c) n (ob p) ∧ p.length = n ∧ n ≤ 256 ∧ (p ++ (l.drop k).filter fun c => c != 0).take 256 = ans ∧ Oct p ∧ Below lo w wr))
  case atStart => exact ⟨0, none, 0, 0, rfl, rfl, ⟨by omega, [], Ow.nil (by rw [A.out.2.2.2.2.1]; exact Nat.le_refl _), rfl, by omega, A.out.2.2.2.2.2, fun x hx => (by cases hx), Below.refl _ _⟩⟩
  case round =>
    obtain ⟨k, va, n, c, rfl, rfl, hI⟩ := hrel
    obtain ⟨hkg, p, how, hpl, hn, hpa, hop, hbel⟩ := hI.out
    have a0 := A.out
    have fin : (k = L ∨ n = 256) → p = ans := fun h => by
      rw [← hpa]
      rcases h with h | h
      · rw [List.drop_eq_nil_of_le (by omega), List.filter_nil, List.append_nil, List.take_of_length_le (by omega)]
      · rw [← h, ← hpl, List.take_left]
    by_cases hk : k < L
    · have hki : ((k : Int) < (L : Int)) = True := eq_true (by omega)
      have hkn : (k < L) = True := eq_true hk
      have hkb : (k : Int) + 1 ≤ 9223372036854775807 := by omega
      by_cases hn6 : n < 256
      · have hni : ((n : Int) < 256) = True := eq_true (by omega)
        have hnn : (n < 256) = True := eq_true hn6
        obtain ⟨x, hx⟩ : ∃ x, l[k]? = some x := ⟨_, List.getElem?_eq_getElem (by omega)⟩
        have hx0 : ∀ h : k < s.size, (s[k]'h).toNat = x := by rw [a0.1]; exact fun h => st_get a0.2.2.2.1 hx h
        have hxo := a0.2.2.2.1 x (List.mem_of_getElem? hx)
        rw [drop_more hx] at hpa
        by_cases hz : x = 0
        · have t3 : ((x : Int) != 0) = false := by rw [hz]; rfl
          have A2 : Aside (k + gk = L ∧ k < L ∧ Ow wr lo 5 1 (.slice va n c) n (ob p) ∧ p.length = n ∧ n ≤ 256 ∧ (p ++ (l.drop (k + 1)).filter fun c => c != 0).take 256 = ans ∧ Oct p ∧ Below lo w wr) := ⟨hkg, hk, how, hpl, hn, by rw [← hpa, hz]; simp, hop, hbel⟩
          clear hI hkg how hpl hn hpa hop hbel a0 hk hx hz hn6 fin
          go_wp2_with fail
          obtain ⟨q1, q2, q3⟩ := A2.out
          go_roundg (gk - 1)
          case measure => omega
          case rel => exact ⟨k + 1, va, n, c, rfl, by go_num, ⟨by omega, p, q3⟩⟩
        · have t3 : ((x : Int) != 0) = true := by rw [bne_iff_ne]; omega
          obtain ⟨H, hH⟩ : ∃ H, wr.heap.size = H := ⟨_, rfl⟩
          have bA : Below wr.heap.size wr (wr.alloc (.cells #[.int .u8 (x : Int)] 5)) := (Below.refl _ wr).alloc (Nat.le_refl _) _
          have howA := how.below bA (Nat.le_refl _)
          have hlz := one_cell (x := x) hH
          have h1c : ∀ u ∈ ob [x], u.oneCell' = true := ob_one
          obtain ⟨i0, hii, hz0, hz1, hz2⟩ := ginfo_parts ginfo5
          have hAm : Aside (n + 1 ≤ maxLen ∧ (n + 1) * 1 ≤ 140737488355328) := ⟨by unfold maxLen; omega, by omega⟩
          have hle := how.le
          have hT0 : ∀ (v5 : Value) (w5 : World), Got lo 5 1 (wr.alloc (.cells #[.int .u8 (x : Int)] 5)) w5 (.slice va n c) v5 (n + 1) (ob p ++ ob [x]) → ∃ a5 c5, v5 = .slice a5 (n + 1) c5 ∧ Aside (Ow w5 lo 5 1 (.slice a5 (n + 1) c5) (n + 1) (ob (p ++ [x])) ∧ (p ++ [x]).length = n + 1 ∧ n + 1 ≤ 256 ∧ ((p ++ [x]) ++ (l.drop (k + 1)).filter fun c => c != 0).take 256 = ans ∧ Oct (p ++ [x]) ∧ Below lo w w5) := fun v5 w5 hgot => by
            obtain ⟨a5, c5, hv5, _⟩ := hgot.ow.shape
            subst hv5
            have h5 := hgot.ow
            rw [ob_append] at h5
            refine ⟨a5, c5, rfl, h5, by simp [hpl], by omega, ?_, hop.append (Oct.cons hxo Oct.nil), (hbel.trans (bA.mono hle)).trans hgot.bel⟩
            rw [← hpa, List.append_assoc]
            simp [hz]
          have AT : Aside _ := hT0
          have AG : Aside (k + gk = L ∧ k < L) := ⟨hkg, hk⟩
          clear hI hkg how hpl hn hpa hop hbel a0 hk hx hz hn6 fin bA hT0 hle
          go_wp2_with (at_builtin; refine wpList_ow Tryz.prog _ rfl (.tmp 20) (.tmp 24) 22 rfl 5 i0 _ 1 1 Tryz.underlying22 hii hz0 hz1 hz2 rfl (by decide) lo (.slice va n c) n _ (by rfl) howA (some ⟨H, 0, none⟩) (ob [x]) 1 1 rfl (by rfl) (by intro h; cases h) hlz h1c hAm.out.1 hAm.out.2 ?_; intro v5 w5 hgot; obtain ⟨a5, c5, hv5, T5⟩ := AT.out v5 w5 hgot; subst hv5)
          have ag := AG.out
          go_roundg (gk - 1)
          case measure => omega
          case rel => exact ⟨k + 1, a5, n + 1, c5, rfl, by go_num, ⟨by omega, p ++ [x], T5.out⟩⟩
      · have hni : ((n : Int) < 256) = False := eq_false (by omega)
        have hnn : (n < 256) = False := eq_false hn6
        have e := fin (Or.inr (by omega))
        subst e
        obtain ⟨a, c', hv, hn2, _, hlies, _⟩ := how.lies
        cases hv
        have hcv := conv_st (w := wr) n c hn2 hop hlies
        have AE : Aside (Below lo w wr) := hbel
        clear hI hkg how hpl hn hpa hop hbel a0 hk hn6 fin hn2 hlies
        go_wp2_with fail
        first | go_ret | go_ret2
        exact ⟨rfl, AE.out⟩
    · have hki : ((k : Int) < (L : Int)) = False := eq_false (by omega)
      have hkn : (k < L) = False := eq_false hk
      have e := fin (Or.inl (by omega))
      subst e
      obtain ⟨a, c', hv, hn2, _, hlies, _⟩ := how.lies
      cases hv
      have hcv := conv_st (w := wr) n c hn2 hop hlies
      have AE : Aside (Below lo w wr) := hbel
      clear hI hkg how hpl hn hpa hop hbel a0 hk fin hn2 hlies
      go_wp2_with fail
      first | go_ret | go_ret2
      exact ⟨rfl, AE.out⟩
/-- How many noughts fill bytes up to whole blocks. -/
def fil (L : Nat) : Nat := (512 - L % 512) % 512
/-- Bytes, filled up to whole blocks. -/
def wh512 (l : List Nat) : List Nat := l ++ List.replicate (fil l.length) 0
set_option maxRecDepth 20000 in
theorem whole38 (a : Option Addr) (l : List Nat) (L C : Nat) (w : World) (hL : l.length = L) (hLb : L ≤ 1000000000) (haz : a = none → L = 0 ∧ C = 0) (h : Lies w a l) : Calls Tryz.prog 38 #[.slice a L C] w fun e w' => ∃ v, e = .returned v ∧ Ow w' w.heap.size 5 1 v (wh512 l).length (ob (wh512 l)) ∧ Below w.heap.size w w' := by
  obtain ⟨lo, hlo⟩ : ∃ lo, w.heap.size = lo := ⟨_, rfl⟩
  obtain ⟨K, hK⟩ : ∃ K, fil L = K := ⟨_, rfl⟩
  obtain ⟨r, hr⟩ : ∃ r, L % 512 = r := ⟨_, rfl⟩
  have hKb : K < 512 := by unfold fil at hK; omega
  have hrb : r < 512 := by omega
  have q1 : (L : Int) % 512 = (r : Int) := by omega
  have q2 : Int.tmod (L : Int) 512 = (r : Int) := by rw [Int.tmod_eq_emod_of_nonneg (by omega)]; omega
  have hKr : (512 - r) % 512 = K := by rw [← hK, ← hr]; rfl
  have q3 : (512 - (r : Int)) % 512 = (K : Int) := by omega
  have q4 : Int.tmod (512 - (r : Int)) 512 = (K : Int) := by rw [Int.tmod_eq_emod_of_nonneg (by omega)]; omega
  have q5 : (r : Int) < 512 := by omega
  have bA : Below w.heap.size w (w.alloc (.cells #[] 5)) := (Below.refl _ w).alloc (Nat.le_refl _) _
  have how : Ow (w.alloc (.cells #[] 5)) lo 5 1 (.slice (some ⟨lo, 0, none⟩) 0 0) 0 (ob []) := by rw [← hlo]; exact Ow.made (Nat.le_refl _)
  have hli := lies_ob (h.below bA)
  obtain ⟨i0, hii, hz0, hz1, hz2⟩ := ginfo_parts ginfo5
  have hAm : Aside (0 + L ≤ maxLen ∧ (0 + L) * 1 ≤ 140737488355328 ∧ L ≤ 100000000000000 ∧ K < 100000 ∧ (ob l).length = L * 1 ∧ l.length = L) := ⟨by unfold maxLen; omega, by omega, by omega, by omega, by rw [ob_length]; omega, hL⟩
  have AQ : Aside (wh512 l = l ++ List.replicate K 0 ∧ (wh512 l).length = L + K ∧ Below w.heap.size w (w.alloc (.cells #[] 5)) ∧ w.heap.size = lo) := by
    refine ⟨?_, ?_, bA, hlo⟩
    · unfold wh512; rw [hL, hK]
    · unfold wh512; rw [List.length_append, List.length_replicate, hL, hK]
  have u3 : Tryz.prog.underlying 3 = some (.int .i64) := by kernel_rfl
  rw [hlo]
  clear bA h hK hr hKb hrb hKr hL hLb
  go_enter Tryz.func38, Tryz.ntmps38
  go_wp2_with (first
    | (at_builtin; go_loud (refine wpList_ow Tryz.prog _ rfl (.tmp 3) (.tmp 4) 22 rfl 5 i0 _ 1 1 Tryz.underlying22 hii hz0 hz1 hz2 rfl (by decide) lo (.slice (some ⟨lo, 0, none⟩) 0 0) 0 _ (by rfl) how a (ob l) L C hAm.out.2.2.2.2.1 (by rfl) haz hli ob_one hAm.out.1 hAm.out.2.1 ?_; intro v5 w5 hg5; obtain ⟨a5, c5, hv5, _⟩ := hg5.ow.shape; rw [Nat.zero_add] at hv5; subst hv5; have ho5 := hg5.ow; rw [ob_append, Nat.zero_add, List.nil_append] at ho5))
    | (at_builtin; go_loud (refine wpList_owz rfl (.tmp 5) (.tmp 10) 22 3 rfl i0 Tryz.underlying22 u3 hii hz0 hz1 hz2 lo _ L l (by rfl) ho5 hAm.out.2.2.2.2.2 hAm.out.2.2.1 K hAm.out.2.2.2.1 (by first | rfl | go_simp) ?_; intro v6 c6 w6 hg6)))
  go_ret
  have aq := AQ.out
  refine ⟨_, rfl, ?_, ?_⟩
  · have := hg6.ow
    rw [aq.2.1, aq.1]
    exact this
  · rw [aq.2.2.2] at aq
    exact (aq.2.2.1.trans hg5.bel).trans hg6.bel
end Go.Proofs.YtcmmjbkgoafbnaaGreatDoor

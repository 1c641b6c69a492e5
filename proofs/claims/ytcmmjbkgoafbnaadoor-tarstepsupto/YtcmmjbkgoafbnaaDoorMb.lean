/-
  Own texts of this seat, one behind the other: what each says stands ahead of it.
-/
import Derived.Test.YtcmmjbkgoafbnaaDoorMa
import Derived.Deep.CutBlock
import Derived.Deep.DeepCutAuto
/-
  Names as they are written; bytes filled up to whole blocks; digits; kinds.
-/
namespace Go.Proofs.YtcmmjbkgoafbnaaDoor
open Go.RowKit
set_option linter.unusedVariables false
theorem one_cell {w : World} {H x : Nat} (hH : w.heap.size = H) : ob [x] = [] ∨ ∃ b o, (some ⟨H, 0, none⟩ : Option Addr) = some ⟨b, o, none⟩ ∧ ∀ i u, (ob [x])[i]? = some u → (w.alloc (.cells #[.int .u8 (x : Int)] 5)).cell? ⟨b, o + i, none⟩ = some u := Or.inr ⟨H, 0, rfl, fun i u hu => by
  cases i with
  | zero => simp [ob] at hu; rw [← hu, ← hH, (Cells.new w #[.int .u8 (x : Int)] 5).cell]; rfl
  | succ i => simp [ob] at hu⟩
theorem Ow.made {w : World} {lo : Nat} (h : lo ≤ w.heap.size) : Ow (w.alloc (.cells #[] 5)) lo 5 1 (.slice (some ⟨w.heap.size, 0, none⟩) 0 0) 0 (ob []) :=
  ⟨World.ownsRow_made (base := lo) (e := 5) (size := 1) w #[] 0 h (by decide) rfl, by show _ ≤ (w.heap.push _).size; simp; omega⟩
theorem lies_ob {w : World} {a : Option Addr} {l : List Nat} (h : Lies w a l) : ob l = [] ∨ ∃ b o, a = some ⟨b, o, none⟩ ∧ ∀ (i : Nat) u, (ob l)[i]? = some u → w.cell? ⟨b, o + i, none⟩ = some u := by
  rcases h with rfl | ⟨b, o, ha, hc⟩
  · exact Or.inl rfl
  · refine Or.inr ⟨b, o, ha, fun i u hu => ?_⟩
    rw [ob_get] at hu
    cases hx : l[i]? with
    | none => rw [hx] at hu; simp at hu
    | some x =>
      rw [hx] at hu
      simp at hu
      rw [← hu]; exact hc i x hx
/-- A name as it is written. -/
def nmd (l : List Nat) : List Nat := (l.filter fun c => c != 0).take 256
theorem nmd_len (l : List Nat) : (nmd l).length ≤ 256 := by unfold nmd; rw [List.length_take]; omega
theorem nmd_nz (l : List Nat) : ∀ c ∈ nmd l, c ≠ 0 := fun c hc => by
  have := List.mem_of_mem_take hc
  have := (List.mem_filter.1 this).2
  simpa using this
theorem nmd_oct {l : List Nat} (h : Oct l) : Oct (nmd l) := fun c hc => h c (List.mem_filter.1 (List.mem_of_mem_take hc)).1
set_option maxRecDepth 20000 in
set_option maxHeartbeats 1000000 in
theorem named_c (l : List Nat) (ho : Oct l) (hl : l.length ≤ 9223372036854775807) (w : World) : Calls Tryd.prog 23 #[.string (st l)] w fun e w' => e = .returned (.string (st (nmd l))) ∧ Below w.heap.size w w' := by
  obtain ⟨lo, hlo⟩ : ∃ lo, w.heap.size = lo := ⟨_, rfl⟩
  obtain ⟨s, hs⟩ : ∃ s, s = st l := ⟨_, rfl⟩
  obtain ⟨L, hL⟩ : ∃ L, l.length = L := ⟨_, rfl⟩
  obtain ⟨ans, hans⟩ : ∃ ans, nmd l = ans := ⟨_, rfl⟩
  have z1 : s.size = L := by rw [hs, st_size, hL]
  rw [hans, ← hs, hlo]
  have A : Aside (s = st l ∧ l.length = L ∧ L ≤ 9223372036854775807 ∧ Oct l ∧ w.heap.size = lo ∧ nmd l = ans) := ⟨hs, hL, by omega, ho, hlo, hans⟩
  clear hs hL hl ho hlo hans
  go_enter Tryd.func23, Tryd.ntmps23
  go_wp2_with fail
  go_loopg [3, 4] L (fun gg s3 s4 wr => ∃ (k : Nat) (va : Option Addr) (n c : Nat), s3 = .slice va n c ∧ s4 = .int .i64 (k : Int) ∧ Aside (k + gg = L ∧ ∃ p, Ow wr lo 5 1 (.slice va n c) n (ob p) ∧ p.length = n ∧ n ≤ 256 ∧ (p ++ (l.drop k).filter fun c => c != 0).take 256 = ans ∧ Oct p ∧ Below lo w wr))
  case atStart => exact ⟨0, none, 0, 0, rfl, rfl, ⟨by omega, [], Ow.nil (by rw [A.out.2.2.2.2.1]; exact Nat.le_refl _), rfl, by omega, A.out.2.2.2.2.2, fun x hx => (by cases hx), Below.refl _ _⟩⟩
  case round =>
    obtain ⟨k, va, n, c, rfl, rfl, hI⟩ := hrel
    obtain ⟨hkg, p, how, hpl, hn, hpa, hop, hbel⟩ := hI.out
    have a0 := A.out
    have fin : (k = L ∨ n = 256) → p = ans := fun h => by
      rw [← hpa]
      rcases h with h | h
      · rw [List.drop_eq_nil_of_le (by omega), List.filter_nil, List.append_nil, List.take_of_length_le (by omega)]
      · rw [← h, ← hpl, List.take_left]
    by_cases hk : k < L
    · have hki : ((k : Int) < (L : Int)) = True := eq_true (by omega)
      have hkn : (k < L) = True := eq_true hk
      have hkb : (k : Int) + 1 ≤ 9223372036854775807 := by omega
      by_cases hn6 : n < 256
      · have hni : ((n : Int) < 256) = True := eq_true (by omega)
        have hnn : (n < 256) = True := eq_true hn6
        obtain ⟨x, hx⟩ : ∃ x, l[k]? = some x := ⟨_, List.getElem?_eq_getElem (by omega)⟩
        have hx0 : ∀ h : k < s.size, (s[k]'h).toNat = x := by rw [a0.1]; exact fun h => st_get a0.2.2.2.1 hx h
        have hxo := a0.2.2.2.1 x (List.mem_of_getElem? hx)
        rw [drop_more hx] at hpa
        by_cases hz : x = 0
        · have t3 : ((x : Int) != 0) = false := by rw [hz]; rfl
          have A2 : Aside (k + gk = L ∧ k < L ∧ Ow wr lo 5 1 (.slice va n c) n (ob p) ∧ p.length = n ∧ n ≤ 256 ∧ (p ++ (l.drop (k + 1)).filter fun c => c != 0).take 256 = ans ∧ Oct p ∧ Below lo w wr) := ⟨hkg, hk, how, hpl, hn, by rw [← hpa, hz]; simp, hop, hbel⟩
          clear hI hkg how hpl hn hpa hop hbel a0 hk hx hz hn6 fin
          go_wp2_with fail
          obtain ⟨q1, q2, q3⟩ := A2.out
          go_roundg (gk - 1)
          case measure => omega
          case rel => exact ⟨k + 1, va, n, c, rfl, by go_num, ⟨by omega, p, q3⟩⟩
        · have t3 : ((x : Int) != 0) = true := by rw [bne_iff_ne]; omega
          obtain ⟨H, hH⟩ : ∃ H, wr.heap.size = H := ⟨_, rfl⟩
          have bA : Below wr.heap.size wr (wr.alloc (.cells #[.int .u8 (x : Int)] 5)) := (Below.refl _ wr).alloc (Nat.le_refl _) _
          have howA := how.below bA (Nat.le_refl _)
          have hlz := one_cell (x := x) hH
          have h1c : ∀ u ∈ ob [x], u.oneCell' = true := ob_one
          obtain ⟨i0, hii, hz0, hz1, hz2⟩ := ginfo_parts ginfo5
          have hAm : Aside (n + 1 ≤ maxLen ∧ (n + 1) * 1 ≤ 140737488355328) := ⟨by unfold maxLen; omega, by omega⟩
          have hle := how.le
          have hT0 : ∀ (v5 : Value) (w5 : World), Got lo 5 1 (wr.alloc (.cells #[.int .u8 (x : Int)] 5)) w5 (.slice va n c) v5 (n + 1) (ob p ++ ob [x]) → ∃ a5 c5, v5 = .slice a5 (n + 1) c5 ∧ Aside (Ow w5 lo 5 1 (.slice a5 (n + 1) c5) (n + 1) (ob (p ++ [x])) ∧ (p ++ [x]).length = n + 1 ∧ n + 1 ≤ 256 ∧ ((p ++ [x]) ++ (l.drop (k + 1)).filter fun c => c != 0).take 256 = ans ∧ Oct (p ++ [x]) ∧ Below lo w w5) := fun v5 w5 hgot => by
            obtain ⟨a5, c5, hv5, _⟩ := hgot.ow.shape
            subst hv5
            have h5 := hgot.ow
            rw [ob_append] at h5
            refine ⟨a5, c5, rfl, h5, by simp [hpl], by omega, ?_, hop.append (Oct.cons hxo Oct.nil), (hbel.trans (bA.mono hle)).trans hgot.bel⟩
            rw [← hpa, List.append_assoc]
            simp [hz]
          have AT : Aside _ := hT0
          have AG : Aside (k + gk = L ∧ k < L) := ⟨hkg, hk⟩
          clear hI hkg how hpl hn hpa hop hbel a0 hk hx hz hn6 fin bA hT0 hle
          go_wp2_with (at_builtin; refine wpList_ow Tryd.prog _ rfl (.tmp 20) (.tmp 24) 22 rfl 5 i0 _ 1 1 Tryd.underlying22 hii hz0 hz1 hz2 rfl (by decide) lo (.slice va n c) n _ (by rfl) howA (some ⟨H, 0, none⟩) (ob [x]) 1 1 rfl (by rfl) (by intro h; cases h) hlz h1c hAm.out.1 hAm.out.2 ?_; intro v5 w5 hgot; obtain ⟨a5, c5, hv5, T5⟩ := AT.out v5 w5 hgot; subst hv5)
          have ag := AG.out
          go_roundg (gk - 1)
          case measure => omega
          case rel => exact ⟨k + 1, a5, n + 1, c5, rfl, by go_num, ⟨by omega, p ++ [x], T5.out⟩⟩
      · have hni : ((n : Int) < 256) = False := eq_false (by omega)
        have hnn : (n < 256) = False := eq_false hn6
        have e := fin (Or.inr (by omega))
        subst e
        obtain ⟨a, c', hv, hn2, _, hlies, _⟩ := how.lies
        cases hv
        have hcv := conv_st (w := wr) n c hn2 hop hlies
        have AE : Aside (Below lo w wr) := hbel
        clear hI hkg how hpl hn hpa hop hbel a0 hk hn6 fin hn2 hlies
        go_wp2_with fail
        first | go_ret | go_ret2
        exact ⟨rfl, AE.out⟩
    · have hki : ((k : Int) < (L : Int)) = False := eq_false (by omega)
      have hkn : (k < L) = False := eq_false hk
      have e := fin (Or.inl (by omega))
      subst e
      obtain ⟨a, c', hv, hn2, _, hlies, _⟩ := how.lies
      cases hv
      have hcv := conv_st (w := wr) n c hn2 hop hlies
      have AE : Aside (Below lo w wr) := hbel
      clear hI hkg how hpl hn hpa hop hbel a0 hk fin hn2 hlies
      go_wp2_with fail
      first | go_ret | go_ret2
      exact ⟨rfl, AE.out⟩
/-- How many noughts fill bytes up to whole blocks. -/
def fil (L : Nat) : Nat := (512 - L % 512) % 512
/-- Bytes, filled up to whole blocks. -/
def wh512 (l : List Nat) : List Nat := l ++ List.replicate (fil l.length) 0
set_option maxRecDepth 20000 in
theorem whole38 (a : Option Addr) (l : List Nat) (L C : Nat) (w : World) (hL : l.length = L) (hLb : L ≤ 1000000000) (haz : a = none → L = 0 ∧ C = 0) (h : Lies w a l) : Calls Tryd.prog 38 #[.slice a L C] w fun e w' => ∃ v, e = .returned v ∧ Ow w' w.heap.size 5 1 v (wh512 l).length (ob (wh512 l)) ∧ Below w.heap.size w w' := by
  obtain ⟨lo, hlo⟩ : ∃ lo, w.heap.size = lo := ⟨_, rfl⟩
  obtain ⟨K, hK⟩ : ∃ K, fil L = K := ⟨_, rfl⟩
  obtain ⟨r, hr⟩ : ∃ r, L % 512 = r := ⟨_, rfl⟩
  have hKb : K < 512 := by unfold fil at hK; omega
  have hrb : r < 512 := by omega
  have q1 : (L : Int) % 512 = (r : Int) := by omega
  have q2 : Int.tmod (L : Int) 512 = (r : Int) := by rw [Int.tmod_eq_emod_of_nonneg (by omega)]; omega
  have hKr : (512 - r) % 512 = K := by rw [← hK, ← hr]; rfl
  have q3 : (512 - (r : Int)) % 512 = (K : Int) := by omega
  have q4 : Int.tmod (512 - (r : Int)) 512 = (K : Int) := by rw [Int.tmod_eq_emod_of_nonneg (by omega)]; omega
  have q5 : (r : Int) < 512 := by omega
  have bA : Below w.heap.size w (w.alloc (.cells #[] 5)) := (Below.refl _ w).alloc (Nat.le_refl _) _
  have how : Ow (w.alloc (.cells #[] 5)) lo 5 1 (.slice (some ⟨lo, 0, none⟩) 0 0) 0 (ob []) := by rw [← hlo]; exact Ow.made (Nat.le_refl _)
  have hli := lies_ob (h.below bA)
  obtain ⟨i0, hii, hz0, hz1, hz2⟩ := ginfo_parts ginfo5
  have hAm : Aside (0 + L ≤ maxLen ∧ (0 + L) * 1 ≤ 140737488355328 ∧ L ≤ 100000000000000 ∧ K < 100000 ∧ (ob l).length = L * 1 ∧ l.length = L) := ⟨by unfold maxLen; omega, by omega, by omega, by omega, by rw [ob_length]; omega, hL⟩
  have AQ : Aside (wh512 l = l ++ List.replicate K 0 ∧ (wh512 l).length = L + K ∧ Below w.heap.size w (w.alloc (.cells #[] 5)) ∧ w.heap.size = lo) := by
    refine ⟨?_, ?_, bA, hlo⟩
    · unfold wh512; rw [hL, hK]
    · unfold wh512; rw [List.length_append, List.length_replicate, hL, hK]
  have u3 : Tryd.prog.underlying 3 = some (.int .i64) := by kernel_rfl
  rw [hlo]
  clear bA h hK hr hKb hrb hKr hL hLb
  go_enter Tryd.func38, Tryd.ntmps38
  go_wp2_with (first
    | (at_builtin; go_loud (refine wpList_ow Tryd.prog _ rfl (.tmp 3) (.tmp 4) 22 rfl 5 i0 _ 1 1 Tryd.underlying22 hii hz0 hz1 hz2 rfl (by decide) lo (.slice (some ⟨lo, 0, none⟩) 0 0) 0 _ (by rfl) how a (ob l) L C hAm.out.2.2.2.2.1 (by rfl) haz hli ob_one hAm.out.1 hAm.out.2.1 ?_; intro v5 w5 hg5; obtain ⟨a5, c5, hv5, _⟩ := hg5.ow.shape; rw [Nat.zero_add] at hv5; subst hv5; have ho5 := hg5.ow; rw [ob_append, Nat.zero_add, List.nil_append] at ho5))
    | (at_builtin; go_loud (refine wpList_owz rfl (.tmp 5) (.tmp 10) 22 3 rfl i0 Tryd.underlying22 u3 hii hz0 hz1 hz2 lo _ L l (by rfl) ho5 hAm.out.2.2.2.2.2 hAm.out.2.2.1 K hAm.out.2.2.2.1 (by first | rfl | go_simp) ?_; intro v6 c6 w6 hg6)))
  go_ret
  have aq := AQ.out
  refine ⟨_, rfl, ?_, ?_⟩
  · have := hg6.ow
    rw [aq.2.1, aq.1]
    exact this
  · rw [aq.2.2.2] at aq
    exact (aq.2.2.1.trans hg5.bel).trans hg6.bel
end Go.Proofs.YtcmmjbkgoafbnaaDoor

/-
  The walker as a machine over bytes: its states, what a byte makes of them, what is told with it. No walk.
-/
namespace Go.Proofs.YtcmmjbkgoafbnaaDoor
set_option linter.unusedVariables false
/-- Where the walker stands: 0 in a header, 1 in data, 2 behind data, 3 behind all; the place in the block; the block; what the data is for (0 nothing, 1 a file, 2 a name, 3 records); how many bytes are left; what is kept, how much of it; the name and the size to come; why it was stopped. -/
structure Ts where
  wh : Nat
  ps : Nat
  B : List Nat
  us : Nat
  lf : Nat
  K : List Nat
  ln : Nat
  nm : Option (List Nat)
  sz : Option Nat
  why : Nat
abbrev Evn := Nat × List Nat
abbrev Gev := Nat × Evn
def t0 : Ts := ⟨0, 0, List.replicate 512 0, 0, 0, List.replicate 1024 0, 0, none, none, 0⟩
/-- A field's text. -/
def ttx (l : List Nat) : List Nat := l.takeWhile fun x => x != 0
def isd (x : Nat) : Bool := decide (48 ≤ x ∧ x ≤ 57)
/-- Decimal digits behind a number. -/
def tdc : Nat → List Nat → Option Nat
  | v, [] => some v
  | v, x :: r => if isd x = false then none else if 9223372036854775807 < 10 * v + (x - 48) then none else tdc (10 * v + (x - 48)) r
def tdec (l : List Nat) : Option Nat := if l = [] then none else tdc 0 l
/-- The number of digits that are few. -/
def num : Nat → List Nat → Nat
  | v, [] => v
  | v, x :: r => num (10 * v + (x - 48)) r
/-- What stands ahead of the first =, and behind it. -/
def teq (x : List Nat) : Option (List Nat × List Nat) := if 61 ∈ x then some (x.takeWhile (fun y => y != 61), x.drop ((x.takeWhile (fun y => y != 61)).length + 1)) else none
/-- The first record: what stands between its blank and its end, and how long it is. -/
def tcut (b : List Nat) : Option (List Nat × Nat) :=
  let d := (b.takeWhile isd).length
  let n := num 0 (b.take d)
  if d = 0 ∨ 4 < d ∨ n < d + 2 ∨ b.length < n ∨ b[d]? ≠ some 32 ∨ b[n - 1]? ≠ some 10 then none else some ((b.take (n - 1)).drop (d + 1), n)
def trc (b : List Nat) : Option (List Nat × List Nat × Nat) := match tcut b with
  | none => none
  | some (x, n) => match teq x with
    | none => none
    | some (k, v) => some (k, v, n)
def kpath : List Nat := [112, 97, 116, 104]
def ksize : List Nat := [115, 105, 122, 101]
abbrev Cm := Option (List Nat) × Option Nat
/-- What a name makes of what is to come. -/
def tnam (v : List Nat) (c : Cm) : Cm × Nat := if 256 < v.length then (c, 46) else ((some v, c.2), 0)
def tsiz (v : List Nat) (c : Cm) : Cm × Nat := match tdec v with
  | none => (c, 48)
  | some z => ((c.1, some z), 0)
def tset (k v : List Nat) (c : Cm) : Cm × Nat := if k = kpath then tnam v c else if k = ksize then tsiz v c else (c, 0)
def trs : Nat → List Nat → Cm → Cm × Nat
  | 0, _, c => (c, 0)
  | f + 1, b, c => if b = [] then (c, 0) else match trc b with
    | none => (c, 49)
    | some (k, v, n) => if (tset k v c).2 ≠ 0 then tset k v c else trs f (b.drop n) (tset k v c).1
def trr (b : List Nat) (c : Cm) : Cm × Nat := trs b.length b c
/-- What data that is all there makes of what is to come. -/
def tfin (us : Nat) (d : List Nat) (c : Cm) : Cm × Nat := if us = 2 then tnam (ttx d) c else if us = 3 then trr d c else (c, 0)
def tend (s : Ts) : Ts := { s with nm := (tfin s.us (s.K.take s.ln) (s.nm, s.sz)).1.1, sz := (tfin s.us (s.K.take s.ln) (s.nm, s.sz)).1.2, why := (tfin s.us (s.K.take s.ln) (s.nm, s.sz)).2 }
/-- What is told as all data is there. -/
def tcl (us : Nat) : List Evn := if us = 1 then [(257, [])] else []
def tbeg (us z : Nat) (s : Ts) : Ts × List Evn := if z = 0 then (tend { s with us := us, lf := z }, tcl us) else ({ s with us := us, lf := z, wh := 1 }, [])
/-- A header's own name. -/
def tnm (B : List Nat) : List Nat := if (B.drop 257).take 5 = [117, 115, 116, 97, 114] ∧ ttx ((B.drop 345).take 155) ≠ [] then ttx ((B.drop 345).take 155) ++ [47] ++ ttx (B.take 100) else ttx (B.take 100)
def tkd (B : List Nat) : Nat := B.getD 156 0
/-- Is a header one that says nothing of another one? -/
def town (k : Nat) : Bool := k != 76 && k != 120 && k != 75 && k != 103
def tisf (k : Nat) : Bool := k == 48 || k == 0 || k == 55
/-- What a header's data is for. -/
def tus (k : Nat) : Nat := if k = 76 then 2 else if k = 120 then 3 else if tisf k then 1 else 0
/-- Too much to be kept. -/
def tmuch (k z : Nat) : Bool := (k == 76 && decide (257 < z)) || (k == 120 && decide (1024 < z))
/-- How many bytes of data there are. -/
def tsz (k z : Nat) (sz : Option Nat) : Nat := if town k then sz.getD z else z
def topn (B : List Nat) (nm : Option (List Nat)) : List Evn := if tisf (tkd B) then [(256, nm.getD (tnm B))] else []
/-- What is to come behind a header. -/
def tcm (k : Nat) (c : Cm) : Cm := if town k then (none, none) else c
/-- A header that is all there. -/
def thead (s : Ts) : Ts × List Evn :=
  if noughts s.B then ({ s with wh := 3 }, [])
  else if rgt s.B = false then ({ s with why := 44 }, [])
  else match fld ((s.B.drop 124).take 12) with
    | none => ({ s with why := 48 }, [])
    | some z => if tmuch (tkd s.B) z then ({ s with why := 46 }, [])
      else
        ((tbeg (tus (tkd s.B)) (tsz (tkd s.B) z s.sz) { s with ln := if town (tkd s.B) || tus (tkd s.B) == 0 then s.ln else 0, nm := (tcm (tkd s.B) (s.nm, s.sz)).1, sz := (tcm (tkd s.B) (s.nm, s.sz)).2 }).1,
         topn s.B s.nm ++ (tbeg (tus (tkd s.B)) (tsz (tkd s.B) z s.sz) s).2)
/-- A byte of data. -/
def tkp (x : Nat) (s : Ts) : Ts := if s.us = 2 ∨ s.us = 3 then { s with K := s.K.set s.ln x, ln := s.ln + 1, lf := s.lf - 1 } else { s with lf := s.lf - 1 }
def tbt (us x : Nat) : List Evn := if us = 1 then [(x, [])] else []
def tdat (x : Nat) (s : Ts) : Ts × List Evn := if s.lf = 1 then (tend { tkp x s with wh := 2 }, tbt s.us x ++ tcl s.us) else (tkp x s, tbt s.us x)
def tnx (s : Ts) : Ts := if s.wh = 2 ∧ s.ps = 0 then { s with wh := 0 } else s
/-- One byte: how it stands behind it, and what is told. -/
def tput (s : Ts) (x : Nat) : Ts × List Evn :=
  if s.wh = 0 then (if (s.ps + 1) % 512 = 0 then (tnx (thead { s with B := s.B.set s.ps x, ps := 0 }).1, (thead { s with B := s.B.set s.ps x, ps := 0 }).2) else ({ s with B := s.B.set s.ps x, ps := (s.ps + 1) % 512 }, []))
  else if s.wh = 1 then (tnx (tdat x { s with ps := (s.ps + 1) % 512 }).1, (tdat x { s with ps := (s.ps + 1) % 512 }).2)
  else (tnx { s with ps := (s.ps + 1) % 512 }, [])
def Sp (s : Ts) (x : Nat) (s1 : Ts) (E : List Evn) : Prop := s1 = (tput s x).1 ∧ E = (tput s x).2
def evs (t : Nat) (E : List Evn) : List Gev := E.map fun e => (t, e)
/-- Bytes from a time on, all of them taken. -/
def Mr : Nat → Ts → List Nat → Ts → List Gev → Prop
  | _, s, [], s', T => s' = s ∧ T = []
  | t, s, x :: l, s', T => s.why = 0 ∧ ∃ s1 E T1, Sp s x s1 E ∧ Mr (t + 1) s1 l s' T1 ∧ T = evs t E ++ T1
theorem mr_append : ∀ (l m : List Nat) (t : Nat) (s s' : Ts) (T : List Gev), Mr t s (l ++ m) s' T ↔ ∃ s1 T1 T2, Mr t s l s1 T1 ∧ Mr (t + l.length) s1 m s' T2 ∧ T = T1 ++ T2
  | [], m, t, s, s', T => by
    constructor
    · intro h; exact ⟨s, [], T, ⟨rfl, rfl⟩, h, rfl⟩
    · rintro ⟨s1, T1, T2, ⟨rfl, rfl⟩, h, rfl⟩; exact h
  | x :: l, m, t, s, s', T => by
    have ih := mr_append l m (t + 1)
    constructor
    · rintro ⟨h0, s1, E, T1, h1, h2, rfl⟩
      obtain ⟨s2, T2, T3, h3, h4, rfl⟩ := (ih s1 s' T1).1 h2
      exact ⟨s2, evs t E ++ T2, T3, ⟨h0, s1, E, T2, h1, h3, rfl⟩, by rw [List.length_cons, show t + (l.length + 1) = t + 1 + l.length by omega]; exact h4, by rw [List.append_assoc]⟩
    · rintro ⟨s2, T2, T3, ⟨h0, s1, E, T1, h1, h3, rfl⟩, h4, rfl⟩
      rw [List.length_cons, show t + (l.length + 1) = t + 1 + l.length by omega] at h4
      exact ⟨h0, s1, E, T1 ++ T3, h1, (ih s1 s' _).2 ⟨s2, T1, T3, h3, h4, rfl⟩, by rw [List.append_assoc]⟩
theorem Sp.det {s s1 s2 : Ts} {x : Nat} {E F : List Evn} (h : Sp s x s1 E) (k : Sp s x s2 F) : s1 = s2 ∧ E = F := ⟨h.1.trans k.1.symm, h.2.trans k.2.symm⟩
theorem mr_det : ∀ (l : List Nat) (t : Nat) (s s1 s2 : Ts) (T U : List Gev), Mr t s l s1 T → Mr t s l s2 U → s1 = s2 ∧ T = U
  | [], t, s, s1, s2, T, U, ⟨h1, h2⟩, ⟨k1, k2⟩ => ⟨h1.trans k1.symm, h2.trans k2.symm⟩
  | x :: l, t, s, s1, s2, T, U, ⟨_, a, E, T1, h1, h2, h3⟩, ⟨_, b, F, U1, k1, k2, k3⟩ => by
    obtain ⟨rfl, rfl⟩ := h1.det k1
    obtain ⟨e1, rfl⟩ := mr_det l (t + 1) a s1 s2 T1 U1 h2 k2
    exact ⟨e1, h3.trans k3.symm⟩
/-- The first k bytes of b were taken. -/
def Rch (b : List Nat) (k : Nat) (s : Ts) (T : List Gev) : Prop := k ≤ b.length ∧ Mr 0 t0 (b.take k) s T
theorem rch_zero (b : List Nat) : Rch b 0 t0 [] := ⟨Nat.zero_le _, by rw [List.take_zero]; exact ⟨rfl, rfl⟩⟩
theorem Rch.step {b : List Nat} {k x : Nat} {s s1 : Ts} {T : List Gev} {E : List Evn} (h : Rch b k s T) (h0 : s.why = 0) (hx : b[k]? = some x) (hs : Sp s x s1 E) : Rch b (k + 1) s1 (T ++ evs k E) := by
  obtain ⟨hk, he⟩ := List.getElem?_eq_some_iff.1 hx
  refine ⟨hk, ?_⟩
  rw [List.take_succ_eq_append_getElem hk, he]
  refine (mr_append _ _ _ _ _ _).2 ⟨s, T, _, h.2, ⟨h0, s1, E, [], hs, ⟨rfl, rfl⟩, rfl⟩, ?_⟩
  rw [List.length_take, Nat.min_eq_left h.1, List.append_nil, Nat.zero_add]
theorem Rch.det {b : List Nat} {k : Nat} {s s1 : Ts} {T U : List Gev} (h : Rch b k s T) (q : Rch b k s1 U) : s = s1 ∧ T = U := mr_det _ _ _ _ _ _ _ h.2 q.2
/-- A run more. -/
theorem Rch.run {b m : List Nat} {k : Nat} {s s1 : Ts} {T U : List Gev} (h : Rch b k s T) (hm : m = (b.drop k).take m.length) (hr : Mr k s m s1 U) : Rch b (k + m.length) s1 (T ++ U) := by
  have hl : m.length ≤ b.length - k := by
    have e := congrArg List.length hm
    rw [List.length_take, List.length_drop] at e
    omega
  have hk := h.1
  refine ⟨by omega, ?_⟩
  rw [List.take_add, ← hm]
  refine (mr_append _ _ _ _ _ _).2 ⟨s, T, U, h.2, ?_, rfl⟩
  rw [List.length_take, Nat.min_eq_left hk, Nat.zero_add]
  exact hr
/-- What was taken ahead. -/
theorem Rch.back {b : List Nat} {k j : Nat} {s : Ts} {T : List Gev} (h : Rch b k s T) (hj : j ≤ k) : ∃ s1 T1 T2, Rch b j s1 T1 ∧ Mr j s1 ((b.take k).drop j) s T2 ∧ T = T1 ++ T2 := by
  have e : b.take k = b.take j ++ (b.take k).drop j := by
    conv => lhs; rw [← List.take_append_drop j (b.take k)]
    rw [List.take_take, Nat.min_eq_left hj]
  have h2 := h.2
  rw [e] at h2
  obtain ⟨s1, T1, T2, q1, q2, q3⟩ := (mr_append _ _ _ _ _ _).1 h2
  have hl := h.1
  rw [List.length_take, Nat.min_eq_left (by omega), Nat.zero_add] at q2
  exact ⟨s1, T1, T2, ⟨by omega, q1⟩, q2, q3⟩
/-- The next byte that was taken. -/
theorem Rch.at {b : List Nat} {k i : Nat} {s si : Ts} {T Ti : List Gev} (h : Rch b k s T) (hi : Rch b i si Ti) (hik : i < k) : si.why = 0 ∧ ∃ x s1 E T2, b[i]? = some x ∧ Sp si x s1 E ∧ Rch b (i + 1) s1 (Ti ++ evs i E) ∧ T = Ti ++ evs i E ++ T2 ∧ Mr (i + 1) s1 ((b.take k).drop (i + 1)) s T2 := by
  obtain ⟨s1, T1, T2, q1, q2, rfl⟩ := h.back (Nat.le_of_lt hik)
  obtain ⟨rfl, rfl⟩ := hi.det q1
  have hl := h.1
  have hlt : i < (b.take k).length := by rw [List.length_take]; omega
  rw [List.drop_eq_getElem_cons hlt] at q2
  obtain ⟨h0, s2, E, T3, q3, q4, rfl⟩ := q2
  have hx : b[i]? = some (b.take k)[i] := by
    rw [List.getElem_take, List.getElem?_eq_getElem (by omega)]
  exact ⟨h0, _, s2, E, T3, hx, q3, hi.step h0 hx q3, by rw [List.append_assoc], q4⟩
end Go.Proofs.YtcmmjbkgoafbnaaDoor

/-
  What holds of the walker's states; what bytes of a header, of data and behind it make of them. No walk.
-/
namespace Go.Proofs.YtcmmjbkgoafbnaaDoor
set_option linter.unusedVariables false
theorem Oct.app {l m : List Nat} (h : Oct l) (k : Oct m) : Oct (l ++ m) := fun x hx => by
  rcases List.mem_append.1 hx with e | e
  · exact h x e
  · exact k x e
theorem Oct.set {l : List Nat} (h : Oct l) (i : Nat) {x : Nat} (hx : x < 256) : Oct (l.set i x) := fun y hy => by
  rcases List.mem_or_eq_of_mem_set hy with e | e
  · exact h y e
  · rw [e]; exact hx
theorem Oct.sub {l m : List Nat} (h : Oct l) (k : ∀ x ∈ m, x ∈ l) : Oct m := fun x hx => h x (k x hx)
theorem oct_ttx {l : List Nat} (h : Oct l) : Oct (ttx l) := h.sub fun x hx => (List.takeWhile_subset _) hx
theorem ttx_len (l : List Nat) : (ttx l).length ≤ l.length := (List.takeWhile_sublist _).length_le
/-- What is to come is bytes, and not too many. -/
def Okc (c : Cm) : Prop := (∀ n, c.1 = some n → Oct n ∧ n.length ≤ 256) ∧ ∀ z, c.2 = some z → z < 9223372036854775808
theorem tdc_lt : ∀ (l : List Nat) (v z : Nat), v < 9223372036854775808 → tdc v l = some z → z < 9223372036854775808
  | [], v, z, hv, h => by simp only [tdc, Option.some.injEq] at h; omega
  | x :: r, v, z, hv, h => by
    unfold tdc at h
    split at h
    · cases h
    · split at h
      · cases h
      · exact tdc_lt r _ z (by omega) h
theorem tdec_lt {l : List Nat} {z : Nat} (h : tdec l = some z) : z < 9223372036854775808 := by
  unfold tdec at h
  split at h
  · cases h
  · exact tdc_lt l 0 z (by decide) h
theorem tnam_ok {v : List Nat} {c : Cm} (hv : Oct v) (h : Okc c) : Okc (tnam v c).1 := by
  unfold tnam
  split
  · exact h
  · exact ⟨fun n hn => by simp only [Option.some.injEq] at hn; subst hn; exact ⟨hv, by omega⟩, h.2⟩
theorem tsiz_ok {v : List Nat} {c : Cm} (h : Okc c) : Okc (tsiz v c).1 := by
  unfold tsiz
  split
  · exact h
  · rename_i z hz
    exact ⟨h.1, fun n hn => by simp only [Option.some.injEq] at hn; subst hn; exact tdec_lt hz⟩
theorem tset_ok {k v : List Nat} {c : Cm} (hv : Oct v) (h : Okc c) : Okc (tset k v c).1 := by
  unfold tset
  split
  · exact tnam_ok hv h
  · split
    · exact tsiz_ok h
    · exact h
theorem trc_mem {b k v : List Nat} {n : Nat} (h : trc b = some (k, v, n)) : (∀ x ∈ v, x ∈ b) ∧ (∀ x ∈ k, x ∈ b) ∧ 2 ≤ n ∧ n ≤ b.length := by
  unfold trc at h
  split at h
  · cases h
  · rename_i x m hc
    split at h
    · cases h
    · rename_i k' v' ht
      simp only [Option.some.injEq, Prod.mk.injEq] at h
      obtain ⟨rfl, rfl, rfl⟩ := h
      unfold tcut at hc
      simp only at hc
      split at hc
      · cases hc
      · rename_i hn
        simp only [not_or] at hn
        simp only [Option.some.injEq, Prod.mk.injEq] at hc
        obtain ⟨rfl, rfl⟩ := hc
        unfold teq at ht
        split at ht
        · simp only [Option.some.injEq, Prod.mk.injEq] at ht
          obtain ⟨rfl, rfl⟩ := ht
          refine ⟨fun x hx => List.mem_of_mem_take (List.mem_of_mem_drop (List.mem_of_mem_drop hx)), fun x hx => List.mem_of_mem_take (List.mem_of_mem_drop ((List.takeWhile_subset _) hx)), by omega, by omega⟩
        · cases ht
theorem trs_ok : ∀ (f : Nat) (b : List Nat) (c : Cm), Oct b → Okc c → Okc (trs f b c).1
  | 0, b, c, _, h => h
  | f + 1, b, c, hb, h => by
    unfold trs
    split
    · exact h
    · split
      · exact h
      · rename_i k v n hr
        have hv := hb.sub (trc_mem hr).1
        split
        · exact tset_ok hv h
        · exact trs_ok f _ _ (hb.drop n) (tset_ok hv h)
theorem tfin_ok {us : Nat} {d : List Nat} {c : Cm} (hd : Oct d) (h : Okc c) : Okc (tfin us d c).1 := by
  unfold tfin
  split
  · exact tnam_ok (oct_ttx hd) h
  · split
    · exact trs_ok _ _ _ hd h
    · exact h
theorem okc_none : Okc (none, none) := by
  constructor
  · intro n h; cases h
  · intro n h; cases h
theorem tcm_ok {k : Nat} {c : Cm} (h : Okc c) : Okc (tcm k c) := by
  unfold tcm; split
  · exact okc_none
  · exact h
/-- What holds of a state. -/
structure Tok (s : Ts) : Prop where
  bl : s.B.length = 512
  bo : Oct s.B
  kl : s.K.length = 1024
  ko : Oct s.K
  ps : s.ps < 512
  wh : s.wh ≤ 3
  us : s.us ≤ 3
  lf : s.lf < 9223372036854775808
  ln : s.ln ≤ 1024
  cm : Okc (s.nm, s.sz)
/-- And of one that waits for a byte. -/
structure Tod (s : Ts) : Prop where
  ok : Tok s
  da : s.wh = 1 → 1 ≤ s.lf ∧ (2 ≤ s.us → s.ln + s.lf ≤ 1024)
theorem tok0 : Tok t0 := ⟨List.length_replicate, fun x hx => by rw [(List.mem_replicate.1 hx).2]; decide, List.length_replicate, fun x hx => by rw [(List.mem_replicate.1 hx).2]; decide, by decide, by decide, by decide, by decide, by decide, okc_none⟩
theorem tod0 : Tod t0 := ⟨tok0, fun h => by exact absurd (show (0 : Nat) = 1 from h) (by decide)⟩
theorem Tok.fin {s : Ts} (h : Tok s) : Tok (tend s) := ⟨h.bl, h.bo, h.kl, h.ko, h.ps, h.wh, h.us, h.lf, h.ln, tfin_ok (h.ko.take _) h.cm⟩
theorem Tod.of {s : Ts} (h : Tok s) (h1 : s.wh ≠ 1) : Tod s := ⟨h, fun e => absurd e h1⟩
theorem tus_le (k : Nat) : tus k ≤ 3 := by unfold tus; split <;> (try split) <;> (try split) <;> omega
theorem fld_lt {l : List Nat} {z : Nat} (ho : Oct l) (hz : fld l = some z) : z < 9223372036854775808 := by
  unfold fld at hz
  split at hz
  · unfold bin at hz
    split at hz
    · cases hz
    · split at hz
      · have bl : ∀ (l : List Nat) (v u : Nat), v < 9223372036854775808 → (∀ x ∈ l, x < 256) → bins v l = some u → u < 9223372036854775808 := by
          intro l
          induction l with
          | nil => intro v u hv _ h; simp only [bins, Option.some.injEq] at h; omega
          | cons x r ih =>
            intro v u hv hx h
            unfold bins at h
            split at h
            · cases h
            · have := hx x (by simp)
              exact ih _ u (by omega) (fun y hy => hx y (List.mem_cons_of_mem _ hy)) h
        rename_i x r e hx
        have hm : ∀ y ∈ x :: r, y < 256 := fun y hy => ho y hy
        have := hm x (by simp)
        exact bl r _ z (by omega) (fun y hy => hm y (List.mem_cons_of_mem _ hy)) hz
      · cases hz
  · exact oct_lt hz
theorem Tok.head {s : Ts} (h : Tok s) (h0 : s.wh = 0) : Tod (thead s).1 := by
  unfold thead
  split
  · exact Tod.of ⟨h.bl, h.bo, h.kl, h.ko, h.ps, Nat.le_refl _, h.us, h.lf, h.ln, h.cm⟩ (by show (3 : Nat) ≠ 1; decide)
  · split
    · exact Tod.of ⟨h.bl, h.bo, h.kl, h.ko, h.ps, h.wh, h.us, h.lf, h.ln, h.cm⟩ (by show s.wh ≠ 1; rw [h0]; decide)
    · split
      · exact Tod.of ⟨h.bl, h.bo, h.kl, h.ko, h.ps, h.wh, h.us, h.lf, h.ln, h.cm⟩ (by show s.wh ≠ 1; rw [h0]; decide)
      · rename_i z hz
        have hz1 : z < 9223372036854775808 := fld_lt ((h.bo.drop 124).take 12) hz
        split
        · exact Tod.of ⟨h.bl, h.bo, h.kl, h.ko, h.ps, h.wh, h.us, h.lf, h.ln, h.cm⟩ (by show s.wh ≠ 1; rw [h0]; decide)
        · rename_i hm
          have hs : tsz (tkd s.B) z s.sz < 9223372036854775808 := by
            unfold tsz
            split
            · cases e : s.sz with
              | none => exact hz1
              | some q => exact h.cm.2 q e
            · exact hz1
          have hln : (if (town (tkd s.B) || tus (tkd s.B) == 0) = true then s.ln else 0) ≤ 1024 := by
            have := h.ln
            split <;> omega
          have hda : 2 ≤ tus (tkd s.B) → (if (town (tkd s.B) || tus (tkd s.B) == 0) = true then s.ln else 0) + tsz (tkd s.B) z s.sz ≤ 1024 := by
            intro hu
            have hk : tkd s.B = 76 ∨ tkd s.B = 120 := by
              by_cases e1 : tkd s.B = 76
              · exact Or.inl e1
              · by_cases e2 : tkd s.B = 120
                · exact Or.inr e2
                · exfalso
                  unfold tus at hu
                  rw [if_neg e1, if_neg e2] at hu
                  split at hu <;> omega
            rcases hk with e | e
            · rw [e] at hm ⊢
              simp [tmuch] at hm
              simp [town, tus, tsz]
              omega
            · rw [e] at hm ⊢
              simp [tmuch] at hm
              simp [town, tus, tsz]
              omega
          unfold tbeg
          split
          · exact Tod.of (Tok.fin ⟨h.bl, h.bo, h.kl, h.ko, h.ps, h.wh, tus_le _, hs, hln, tcm_ok h.cm⟩) (by show s.wh ≠ 1; rw [h0]; decide)
          · exact ⟨⟨h.bl, h.bo, h.kl, h.ko, h.ps, by show (1 : Nat) ≤ 3; decide, tus_le _, hs, hln, tcm_ok h.cm⟩, fun e => ⟨by show 1 ≤ tsz (tkd s.B) z s.sz; omega, hda⟩⟩
theorem Tod.kp {s : Ts} (hh : Tod s) (h1 : s.wh = 1) {x : Nat} (hx : x < 256) : (tkp x s).B.length = 512 ∧ Oct (tkp x s).B ∧ (tkp x s).K.length = 1024 ∧ Oct (tkp x s).K ∧ (tkp x s).ps < 512 ∧ (tkp x s).us ≤ 3 ∧ (tkp x s).lf < 9223372036854775808 ∧ (tkp x s).ln ≤ 1024 ∧ (s.lf ≠ 1 → 1 ≤ (tkp x s).lf ∧ (2 ≤ (tkp x s).us → (tkp x s).ln + (tkp x s).lf ≤ 1024)) ∧ Okc ((tkp x s).nm, (tkp x s).sz) ∧ (tkp x s).wh = s.wh := by
  have hd := hh.da h1
  have h := hh.ok
  have hl := h.lf
  have hn := h.ln
  have hu := h.us
  unfold tkp
  split
  · rename_i e
    exact ⟨h.bl, h.bo, by simp [h.kl], h.ko.set _ hx, h.ps, h.us, by simp; omega, by simp; omega, fun e1 => by simp; omega, h.cm, rfl⟩
  · rename_i e
    exact ⟨h.bl, h.bo, h.kl, h.ko, h.ps, h.us, by simp; omega, h.ln, fun e1 => by simp; omega, h.cm, rfl⟩
theorem Tod.dat {s : Ts} (h : Tod s) (h1 : s.wh = 1) {x : Nat} (hx : x < 256) : Tod (tdat x s).1 := by
  obtain ⟨q1, q2, q3, q4, q5, q6, q7, q8, q9, q10, q11⟩ := h.kp h1 hx
  unfold tdat
  split
  · exact Tod.of (Tok.fin ⟨q1, q2, q3, q4, q5, by show (2 : Nat) ≤ 3; decide, q6, q7, q8, q10⟩) (by show (2 : Nat) ≠ 1; decide)
  · rename_i e
    exact ⟨⟨q1, q2, q3, q4, q5, by rw [q11]; exact h.ok.wh, q6, q7, q8, q10⟩, fun _ => q9 e⟩
theorem Tod.nx {s : Ts} (h : Tod s) : Tod (tnx s) := by
  unfold tnx
  split
  · exact Tod.of ⟨h.ok.bl, h.ok.bo, h.ok.kl, h.ok.ko, h.ok.ps, by show (0 : Nat) ≤ 3; decide, h.ok.us, h.ok.lf, h.ok.ln, h.ok.cm⟩ (by show (0 : Nat) ≠ 1; decide)
  · exact h
theorem Tod.put {s : Ts} (hh : Tod s) {x : Nat} (hx : x < 256) : Tod (tput s x).1 := by
  have hm := Nat.mod_lt (s.ps + 1) (show 0 < 512 by decide)
  have h := hh.ok
  unfold tput
  split
  · rename_i e
    split
    · exact (Tok.head (s := { s with B := s.B.set s.ps x, ps := 0 }) ⟨by simp [h.bl], h.bo.set _ hx, h.kl, h.ko, by show (0 : Nat) < 512; decide, h.wh, h.us, h.lf, h.ln, h.cm⟩ e).nx
    · exact Tod.of ⟨by simp [h.bl], h.bo.set _ hx, h.kl, h.ko, hm, h.wh, h.us, h.lf, h.ln, h.cm⟩ (by show s.wh ≠ 1; rw [e]; decide)
  · split
    · rename_i e
      exact (Tod.dat (s := { s with ps := (s.ps + 1) % 512 }) ⟨⟨h.bl, h.bo, h.kl, h.ko, hm, h.wh, h.us, h.lf, h.ln, h.cm⟩, hh.da⟩ e hx).nx
    · rename_i e
      exact Tod.nx (Tod.of ⟨h.bl, h.bo, h.kl, h.ko, hm, h.wh, h.us, h.lf, h.ln, h.cm⟩ e)
theorem Mr.ok : ∀ {l : List Nat} {t : Nat} {s s' : Ts} {T : List Gev}, Mr t s l s' T → Tod s → Oct l → Tod s'
  | [], t, s, s', T, h, k, _ => by rw [h.1]; exact k
  | x :: l, t, s, s', T, ⟨_, s1, E, T1, h1, h2, _⟩, k, ho => by
    have := k.put (ho x (by simp))
    rw [← h1.1] at this
    exact Mr.ok h2 this fun y hy => ho y (List.mem_cons_of_mem _ hy)
theorem Rch.ok {b : List Nat} {k : Nat} {s : Ts} {T : List Gev} (h : Rch b k s T) (ho : Oct b) : Tod s := h.2.ok tod0 (ho.take k)
/-- Bytes that tell nothing, one behind the other. -/
theorem mr_cons {t x : Nat} {l : List Nat} {s s1 s' : Ts} {E : List Evn} {T : List Gev} (h0 : s.why = 0) (h1 : tput s x = (s1, E)) (h2 : Mr (t + 1) s1 l s' T) : Mr t s (x :: l) s' (evs t E ++ T) := ⟨h0, s1, E, T, ⟨by rw [h1], by rw [h1]⟩, h2, rfl⟩
theorem mr_one {t x : Nat} {s s1 : Ts} {E : List Evn} (h0 : s.why = 0) (h1 : tput s x = (s1, E)) : Mr t s [x] s1 (evs t E) := by
  have := mr_cons (t := t) (l := []) h0 h1 ⟨rfl, rfl⟩
  simpa using this
theorem set_block {P q : List Nat} {x y : Nat} {l : List Nat} : (P ++ y :: l).set P.length x = P ++ x :: l := by
  rw [List.set_append_right _ _ (Nat.le_refl _), Nat.sub_self, List.set_cons_zero]
/-- A header's bytes, but the last one. -/
theorem run_head : ∀ (l P q : List Nat) (t : Nat) (s : Ts), s.why = 0 → s.wh = 0 → s.ps = P.length → s.B = P ++ q → q.length = 512 - P.length → P.length + l.length < 512 → Mr t s l { s with B := P ++ l ++ q.drop l.length, ps := P.length + l.length } []
  | [], P, q, t, s, h0, h1, h2, h3, h4, h5 => by
    refine ⟨?_, rfl⟩
    simp only [List.append_nil, List.length_nil, List.drop_zero, Nat.add_zero]
    rw [← h3, ← h2]
  | x :: l, P, q, t, s, h0, h1, h2, h3, h4, h5 => by
    rw [List.length_cons] at h5
    cases q with
    | nil => rw [List.length_nil] at h4; omega
    | cons y q =>
      rw [List.length_cons] at h4
      have e : tput s x = ({ s with B := P ++ x :: q, ps := P.length + 1 }, []) := by
        unfold tput
        rw [if_pos h1, if_neg (by rw [h2, Nat.mod_eq_of_lt (by omega)]; omega), h2, Nat.mod_eq_of_lt (by omega), h3, set_block (q := [])]
      have ih := run_head l (P ++ [x]) q (t + 1) { s with B := P ++ x :: q, ps := P.length + 1 } h0 h1 (by simp) (by simp) (by simp; omega) (by simp; omega)
      have := mr_cons (t := t) h0 e ih
      simp only [evs, List.map_nil, List.nil_append] at this
      have e2 : P ++ [x] ++ l ++ q.drop l.length = P ++ x :: l ++ (y :: q).drop (x :: l).length := by simp
      rw [e2] at this
      rw [show P.length + (x :: l).length = (P ++ [x]).length + l.length by simp; omega]
      exact this
/-- A header as a whole. -/
theorem run_block {h : List Nat} {t : Nat} {s : Ts} (h0 : s.why = 0) (h1 : s.wh = 0) (h2 : s.ps = 0) (h3 : s.B.length = 512) (h4 : h.length = 512) : Mr t s h (tnx (thead { s with B := h, ps := 0 }).1) (evs (t + 511) (thead { s with B := h, ps := 0 }).2) := by
  obtain ⟨x, hx⟩ : ∃ x, h = h.take 511 ++ [x] := ⟨h[511]'(by omega), by
    rw [← List.take_succ_eq_append_getElem (by omega), List.take_of_length_le (by omega)]⟩
  have hl : (h.take 511).length = 511 := by rw [List.length_take]; omega
  have r := run_head (h.take 511) [] s.B t s h0 h1 h2 rfl (by simp [h3]) (by simp; omega)
  have e : tput { s with B := [] ++ h.take 511 ++ s.B.drop (h.take 511).length, ps := ([] : List Nat).length + (h.take 511).length } x = (tnx (thead { s with B := h, ps := 0 }).1, (thead { s with B := h, ps := 0 }).2) := by
    have e2 : ([] ++ h.take 511 ++ s.B.drop (h.take 511).length).set (([] : List Nat).length + (h.take 511).length) x = h := by
      rw [hl]
      obtain ⟨y, hy⟩ : ∃ y, s.B.drop 511 = [y] := List.length_eq_one_iff.1 (by rw [List.length_drop]; omega)
      rw [hy, List.nil_append, List.length_nil, Nat.zero_add]
      conv => rhs; rw [hx]
      have := set_block (q := []) (P := h.take 511) (x := x) (y := y) (l := [])
      rw [hl] at this
      exact this
    unfold tput
    simp only [e2]
    rw [if_pos h1, if_pos (by rw [hl]; rfl)]
  have m := mr_one (t := t + 511) (s := { s with B := [] ++ h.take 511 ++ s.B.drop (h.take 511).length, ps := ([] : List Nat).length + (h.take 511).length }) h0 e
  have q : Mr t s (h.take 511 ++ [x]) (tnx (thead { s with B := h, ps := 0 }).1) (evs (t + 511) (thead { s with B := h, ps := 0 }).2) := by
    refine (mr_append _ _ _ _ _ _).2 ⟨_, _, _, r, ?_, rfl⟩
    have m2 := m
    rw [show t + 511 = t + (h.take 511).length by rw [hl]] at m2
    rw [show t + 511 = t + (h.take 511).length by rw [hl]]
    exact m2
  rw [← hx] at q
  exact q
/-- What a file's bytes tell. -/
def bts (us t : Nat) (l : List Nat) : List Gev := if us = 1 then l.mapIdx fun i x => (t + i, x, []) else []
theorem bts_cons (us t x : Nat) (l : List Nat) : bts us t (x :: l) = evs t (tbt us x) ++ bts us (t + 1) l := by
  unfold bts tbt
  split
  · have e : (fun (i x : Nat) => ((t + (i + 1), x, []) : Gev)) = fun i x => (t + 1 + i, x, []) := by
      funext i x
      rw [show t + (i + 1) = t + 1 + i by omega]
    simp [evs, List.mapIdx_cons, e]
  · simp [evs]
/-- What bytes of data make of it, but the last one. -/
def tdt (l : List Nat) (s : Ts) : Ts := if s.us = 2 ∨ s.us = 3 then { s with K := s.K.take s.ln ++ l ++ s.K.drop (s.ln + l.length), ln := s.ln + l.length, lf := s.lf - l.length, ps := (s.ps + l.length) % 512 } else { s with lf := s.lf - l.length, ps := (s.ps + l.length) % 512 }
theorem tdt_nil (s : Ts) (hp : s.ps < 512) : tdt [] s = s := by
  unfold tdt
  split
  · simp [Nat.mod_eq_of_lt hp]
  · simp [Nat.mod_eq_of_lt hp]
theorem tdt_cons (x : Nat) (l : List Nat) (s : Ts) (hk : 2 ≤ s.us → s.ln + l.length < s.K.length) : tdt (x :: l) s = tdt l (tkp x { s with ps := (s.ps + 1) % 512 }) := by
  unfold tdt tkp
  by_cases e : s.us = 2 ∨ s.us = 3
  · have hk := hk (by omega)
    simp only [if_pos e]
    have e1 : s.K.take s.ln ++ x :: l ++ s.K.drop (s.ln + (x :: l).length) = (s.K.set s.ln x).take (s.ln + 1) ++ l ++ (s.K.set s.ln x).drop (s.ln + 1 + l.length) := by
      rw [List.drop_set_of_lt (by omega), List.take_succ_eq_append_getElem (by rw [List.length_set]; omega), List.take_set_of_le (Nat.le_refl _)]
      simp
      rw [show s.ln + (l.length + 1) = s.ln + 1 + l.length by omega]
    have e2 : s.ln + (x :: l).length = s.ln + 1 + l.length := by rw [List.length_cons]; omega
    have e3 : s.lf - (x :: l).length = s.lf - 1 - l.length := by rw [List.length_cons]; omega
    have e4 : (s.ps + (x :: l).length) % 512 = ((s.ps + 1) % 512 + l.length) % 512 := by rw [List.length_cons]; omega
    rw [e1, e2, e3, e4]
  · have e3 : s.lf - (x :: l).length = s.lf - 1 - l.length := by rw [List.length_cons]; omega
    have e4 : (s.ps + (x :: l).length) % 512 = ((s.ps + 1) % 512 + l.length) % 512 := by rw [List.length_cons]; omega
    simp only [if_neg e]
    rw [e3, e4]
theorem tnx_wh {s : Ts} (h : s.wh = 1) : tnx s = s := by unfold tnx; rw [if_neg (by rw [h]; omega)]
theorem tkp_us (x : Nat) (s : Ts) : (tkp x s).us = s.us ∧ (tkp x s).wh = s.wh ∧ (tkp x s).why = s.why ∧ (tkp x s).lf = s.lf - 1 ∧ (tkp x s).ps = s.ps ∧ (tkp x s).K.length = s.K.length ∧ (2 ≤ s.us → s.us ≤ 3 → (tkp x s).ln = s.ln + 1) := by
  unfold tkp
  split
  · exact ⟨rfl, rfl, rfl, rfl, rfl, by simp, fun _ _ => rfl⟩
  · exact ⟨rfl, rfl, rfl, rfl, rfl, rfl, fun _ _ => by omega⟩
theorem run_data : ∀ (l : List Nat) (t : Nat) (s : Ts), s.why = 0 → s.wh = 1 → l.length < s.lf → s.ps < 512 → s.us ≤ 3 → (2 ≤ s.us → s.ln + s.lf ≤ s.K.length) → Mr t s l (tdt l s) (bts s.us t l)
  | [], t, s, h0, h1, h2, h3, h4, h5 => ⟨tdt_nil s h3, by unfold bts; split <;> rfl⟩
  | x :: l, t, s, h0, h1, h2, h3, h4, h5 => by
    rw [List.length_cons] at h2
    obtain ⟨u1, u2, u3, u4, u5, u6, u7⟩ := tkp_us x { s with ps := (s.ps + 1) % 512 }
    have e : tput s x = (tkp x { s with ps := (s.ps + 1) % 512 }, tbt s.us x) := by
      unfold tput
      rw [if_neg (by omega), if_pos h1]
      unfold tdat
      simp only
      rw [if_neg (by omega), tnx_wh (by rw [u2]; exact h1)]
    have hm := Nat.mod_lt (s.ps + 1) (show 0 < 512 by decide)
    have ih := run_data l (t + 1) (tkp x { s with ps := (s.ps + 1) % 512 }) (by rw [u3]; exact h0) (by rw [u2]; exact h1) (by rw [u4]; show _ < s.lf - 1; omega) (by rw [u5]; exact hm) (by rw [u1]; exact h4) (fun q => by
      rw [u1] at q
      have q' : 2 ≤ s.us := q
      have := u7 q' h4
      have h6 := h5 q'
      rw [this, u4, u6]
      show s.ln + 1 + (s.lf - 1) ≤ s.K.length
      omega)
    have := mr_cons (t := t) h0 e ih
    rw [tdt_cons x l s (fun q => by have := h5 q; omega), bts_cons]
    have u1' : (tkp x { s with ps := (s.ps + 1) % 512 }).us = s.us := u1
    rw [u1'] at this
    exact this
theorem tput_last {s : Ts} {x : Nat} (h1 : s.wh = 1) (h2 : s.lf = 1) : tput s x = (tnx (tend { tkp x { s with ps := (s.ps + 1) % 512 } with wh := 2 }), tbt s.us x ++ tcl s.us) := by
  unfold tput
  rw [if_neg (by omega), if_pos h1]
  unfold tdat
  simp only
  rw [if_pos h2]
/-- All data, at least one byte of it. -/
theorem run_all {l : List Nat} {t : Nat} {s : Ts} (h0 : s.why = 0) (h1 : s.wh = 1) (h2 : l.length = s.lf) (hp : 0 < l.length) (h3 : s.ps < 512) (h4 : s.us ≤ 3) (h5 : 2 ≤ s.us → s.ln + s.lf ≤ s.K.length) : Mr t s l (tnx (tend { tdt l s with wh := 2 })) (bts s.us t l ++ evs (t + l.length - 1) (tcl s.us)) := by
  obtain ⟨m, x, rfl⟩ : ∃ m x, l = m ++ [x] := by
    rcases List.eq_nil_or_concat l with e | ⟨m, x, e⟩
    · rw [e] at hp; simp at hp
    · exact ⟨m, x, by rw [e]; simp⟩
  have hlen : (m ++ [x]).length = m.length + 1 := by simp
  rw [hlen] at h2 hp
  have r := run_data m t s h0 h1 (by omega) h3 h4 h5
  have hw : (tdt m s).why = 0 ∧ (tdt m s).wh = 1 ∧ (tdt m s).us = s.us ∧ (tdt m s).lf = s.lf - m.length ∧ (tdt m s).K.length = s.K.length ∧ (2 ≤ s.us → (tdt m s).ln = s.ln + m.length) := by
    unfold tdt
    split
    · rename_i e
      have := h5 (by omega)
      exact ⟨h0, h1, rfl, rfl, by simp; omega, fun _ => rfl⟩
    · exact ⟨h0, h1, rfl, rfl, rfl, fun _ => by omega⟩
  have e : tput (tdt m s) x = (tnx (tend { tdt (m ++ [x]) s with wh := 2 }), tbt s.us x ++ tcl s.us) := by
    have e1 : { tdt (m ++ [x]) s with wh := 2 } = { tkp x { tdt m s with ps := ((tdt m s).ps + 1) % 512 } with wh := 2 } := by
      have e4 : (s.ps + (m ++ [x]).length) % 512 = ((s.ps + m.length) % 512 + 1) % 512 := by rw [hlen]; omega
      have e3 : s.lf - (m ++ [x]).length = s.lf - m.length - 1 := by rw [hlen]; omega
      by_cases e : s.us = 2 ∨ s.us = 3
      · have h6 := h5 (by omega)
        unfold tdt tkp
        simp only [if_pos e]
        rw [e3, e4]
        have e5 : s.K.take s.ln ++ (m ++ [x]) ++ s.K.drop (s.ln + (m ++ [x]).length) = (s.K.take s.ln ++ m ++ s.K.drop (s.ln + m.length)).set (s.ln + m.length) x := by
          have hk : s.ln + m.length < s.K.length := by omega
          rw [List.drop_eq_getElem_cons hk]
          have := set_block (q := []) (P := s.K.take s.ln ++ m) (x := x) (y := s.K[s.ln + m.length]) (l := s.K.drop (s.ln + m.length + 1))
          rw [List.length_append, List.length_take, Nat.min_eq_left (by omega)] at this
          rw [this, hlen]
          simp
          rw [show s.ln + (m.length + 1) = s.ln + m.length + 1 by omega]
        rw [e5, hlen]
        rfl
      · unfold tdt tkp
        simp only [if_neg e]
        rw [e3, e4]
    have e6 := tput_last (s := tdt m s) (x := x) hw.2.1 (by omega)
    rw [e6, show tbt (tdt m s).us x ++ tcl (tdt m s).us = tbt s.us x ++ tcl s.us by rw [hw.2.2.1]]
    exact congrArg (fun z => (tnx (tend z), tbt s.us x ++ tcl s.us)) e1.symm
  have q := mr_one (t := t + m.length) hw.1 e
  refine (mr_append _ _ _ _ _ _).2 ⟨_, _, _, r, q, ?_⟩
  have : bts s.us t (m ++ [x]) = bts s.us t m ++ evs (t + m.length) (tbt s.us x) := by
    unfold bts tbt
    split
    · simp [evs]
    · simp [evs]
  rw [this, List.append_assoc, hlen, show t + (m.length + 1) - 1 = t + m.length by omega]
  simp [evs]
/-- What stands behind data. -/
theorem run_pad : ∀ (l : List Nat) (t : Nat) (s : Ts), s.why = 0 → s.wh = 2 → 0 < s.ps → s.ps + l.length < 512 → Mr t s l { s with ps := s.ps + l.length } []
  | [], t, s, h0, h1, h2, h3 => ⟨rfl, rfl⟩
  | x :: l, t, s, h0, h1, h2, h3 => by
    rw [List.length_cons] at h3
    have e : tput s x = ({ s with ps := s.ps + 1 }, []) := by
      unfold tput
      rw [if_neg (by omega), if_neg (by omega), Nat.mod_eq_of_lt (by omega)]
      unfold tnx
      simp only
      rw [if_neg (by omega)]
    have ih := run_pad l (t + 1) { s with ps := s.ps + 1 } h0 h1 (by show 0 < s.ps + 1; omega) (by show s.ps + 1 + l.length < 512; omega)
    have := mr_cons (t := t) h0 e ih
    rw [show s.ps + (x :: l).length = s.ps + 1 + l.length by rw [List.length_cons]; omega]
    simpa [evs] using this
theorem run_rest {l : List Nat} {t : Nat} {s : Ts} (h0 : s.why = 0) (h1 : s.wh = 2) (h2 : 0 < s.ps) (h3 : s.ps + l.length = 512) (h4 : s.ps < 512) : Mr t s l { s with ps := 0, wh := 0 } [] := by
  obtain ⟨m, x, rfl⟩ : ∃ m x, l = m ++ [x] := by
    rcases List.eq_nil_or_concat l with e | ⟨m, x, e⟩
    · rw [e] at h3; simp at h3; omega
    · exact ⟨m, x, by rw [e]; simp⟩
  have hlen : (m ++ [x]).length = m.length + 1 := by simp
  rw [hlen] at h3
  have r := run_pad m t s h0 h1 h2 (by omega)
  have e : tput { s with ps := s.ps + m.length } x = ({ s with ps := 0, wh := 0 }, []) := by
    unfold tput
    simp only
    rw [if_neg (by omega), if_neg (by omega), show (s.ps + m.length + 1) % 512 = 0 by omega]
    unfold tnx
    simp only
    simp [h1]
  exact (mr_append _ _ _ _ _ _).2 ⟨_, _, _, r, mr_one (t := t + m.length) h0 e, by simp [evs]⟩
/-- Behind the end nothing is looked at. -/
theorem run_over : ∀ (l : List Nat) (t : Nat) (s : Ts), s.why = 0 → s.wh = 3 → s.ps < 512 → Mr t s l { s with ps := (s.ps + l.length) % 512 } []
  | [], t, s, h0, h1, h2 => ⟨by simp [Nat.mod_eq_of_lt h2], rfl⟩
  | x :: l, t, s, h0, h1, h2 => by
    have e : tput s x = ({ s with ps := (s.ps + 1) % 512 }, []) := by
      unfold tput
      rw [if_neg (by omega), if_neg (by omega)]
      unfold tnx
      simp only
      rw [if_neg (by omega)]
    have ih := run_over l (t + 1) { s with ps := (s.ps + 1) % 512 } h0 h1 (Nat.mod_lt _ (by decide))
    have := mr_cons (t := t) h0 e ih
    rw [show (s.ps + (x :: l).length) % 512 = ((s.ps + 1) % 512 + l.length) % 512 by rw [List.length_cons]; omega]
    simpa [evs] using this
end Go.Proofs.YtcmmjbkgoafbnaaDoor

/-
  Records: their digits, what is cut. No walk.
-/
namespace Go.Proofs.YtcmmjbkgoafbnaaDoor
set_option linter.unusedVariables false
theorem num_append (v : Nat) (l m : List Nat) : num v (l ++ m) = num (num v l) m := by
  induction l generalizing v with
  | nil => rfl
  | cons x r ih => exact ih _
theorem take_more2 {b : List Nat} {d x : Nat} (hx : b[d]? = some x) : b.take (d + 1) = b.take d ++ [x] := by
  obtain ⟨h1, h2⟩ := List.getElem?_eq_some_iff.1 hx
  rw [List.take_succ_eq_append_getElem h1, h2]
theorem num_more {b : List Nat} {d x : Nat} (hx : b[d]? = some x) : num 0 (b.take (d + 1)) = 10 * num 0 (b.take d) + (x - 48) := by
  rw [take_more2 hx, num_append]; rfl
theorem num_lt (l : List Nat) : ∀ (v : Nat), (∀ x ∈ l, x ≤ 57) → num v l < (v + 1) * 10 ^ l.length := by
  induction l with
  | nil => intro v _; show v < (v + 1) * 10 ^ 0; simp
  | cons x r ih =>
    intro v h
    have hx := h x (by simp)
    have ih := ih (10 * v + (x - 48)) fun y hy => h y (List.mem_cons_of_mem _ hy)
    show num (10 * v + (x - 48)) r < _
    rw [List.length_cons, Nat.pow_succ]
    have h2 : (10 * v + (x - 48) + 1) * 10 ^ r.length ≤ ((v + 1) * 10) * 10 ^ r.length := Nat.mul_le_mul_right _ (by omega)
    rw [Nat.mul_comm (10 ^ r.length) 10, ← Nat.mul_assoc]
    omega
theorem isd_true {x : Nat} : isd x = true ↔ 48 ≤ x ∧ x ≤ 57 := by simp [isd]
theorem isd_false {x : Nat} : isd x = false ↔ ¬ (48 ≤ x ∧ x ≤ 57) := by simp only [isd, decide_eq_false_iff_not]
/-- The first d bytes are digits, and no more are, or no more are looked at. -/
def Dg (b : List Nat) (d : Nat) : Prop := d ≤ b.length ∧ ∀ (i x : Nat), i < d → b[i]? = some x → isd x = true
theorem dg_zero (b : List Nat) : Dg b 0 := ⟨Nat.zero_le _, fun i x h => by omega⟩
theorem Dg.more {b : List Nat} {d x : Nat} (h : Dg b d) (hx : b[d]? = some x) (hd : isd x = true) : Dg b (d + 1) := by
  refine ⟨(List.getElem?_eq_some_iff.1 hx).1, fun i y hi hy => ?_⟩
  by_cases e : i = d
  · subst e; rw [hx] at hy; cases hy; exact hd
  · exact h.2 i y (by omega) hy
theorem Dg.le : ∀ {b : List Nat} {d : Nat}, Dg b d → d ≤ (b.takeWhile isd).length
  | b, 0, _ => Nat.zero_le _
  | [], d + 1, h => by have := h.1; simp at this
  | x :: r, d + 1, h => by
    have h0 := h.2 0 x (by omega) rfl
    have h1 : Dg r d := ⟨by have := h.1; simp at this; omega, fun i y hi hy => h.2 (i + 1) y (by omega) (by simpa using hy)⟩
    rw [List.takeWhile_cons, if_pos h0, List.length_cons]
    have := Dg.le h1
    omega
theorem Dg.stop : ∀ {b : List Nat} {d : Nat}, Dg b d → (∀ x, b[d]? = some x → isd x = false) → (b.takeWhile isd).length = d
  | [], d, h, _ => by have := h.1; simp at this; subst this; rfl
  | x :: r, 0, h, k => by rw [List.takeWhile_cons, if_neg (by rw [k x rfl]; decide)]; rfl
  | x :: r, d + 1, h, k => by
    have h0 := h.2 0 x (by omega) rfl
    have h1 : Dg r d := ⟨by have := h.1; simp at this; omega, fun i y hi hy => h.2 (i + 1) y (by omega) (by simpa using hy)⟩
    rw [List.takeWhile_cons, if_pos h0, List.length_cons, Dg.stop h1 (fun y hy => k y (by simpa using hy))]
theorem Dg.bound {b : List Nat} {d : Nat} (h : Dg b d) : num 0 (b.take d) < 10 ^ d := by
  have := num_lt (b.take d) 0 fun x hx => by
    obtain ⟨i, hi⟩ := List.getElem?_of_mem hx
    rw [List.getElem?_take] at hi
    split at hi
    · rename_i hid
      exact (isd_true.1 (h.2 i x hid hi)).2
    · cases hi
  rw [List.length_take, Nat.min_eq_left h.1] at this
  simpa using this
theorem Dg.digit {b : List Nat} {d i x : Nat} (h : Dg b d) (hi : i < d) (hx : b[i]? = some x) : 48 ≤ x ∧ x ≤ 57 := isd_true.1 (h.2 i x hi hx)
/-- What is cut, by the digits that are looked at (four at most). -/
theorem tcut_eq {b : List Nat} {d : Nat} (h : Dg b d) (h4 : d ≤ 4) (hs : d = 4 ∨ d = b.length ∨ ∃ x, b[d]? = some x ∧ isd x = false) :
    tcut b = if num 0 (b.take d) < d + 2 ∨ b.length < num 0 (b.take d) ∨ b[d]? ≠ some 32 ∨ b[num 0 (b.take d) - 1]? ≠ some 10 then none else some ((b.take (num 0 (b.take d) - 1)).drop (d + 1), num 0 (b.take d)) := by
  unfold tcut
  simp only
  by_cases hq : ∀ x, b[d]? = some x → isd x = false
  · rw [h.stop hq]
    by_cases h0 : d = 0
    · subst h0
      have hz : num 0 (b.take 0) < 0 + 2 := by rw [List.take_zero]; show 0 < 2; decide
      rw [if_pos (Or.inl rfl), if_pos (Or.inl hz)]
    · have e : (d = 0 ∨ 4 < d ∨ num 0 (b.take d) < d + 2 ∨ b.length < num 0 (b.take d) ∨ b[d]? ≠ some 32 ∨ b[num 0 (b.take d) - 1]? ≠ some 10) ↔ (num 0 (b.take d) < d + 2 ∨ b.length < num 0 (b.take d) ∨ b[d]? ≠ some 32 ∨ b[num 0 (b.take d) - 1]? ≠ some 10) := by
        constructor
        · rintro (q | q | q)
          · omega
          · omega
          · exact q
        · intro q; exact Or.inr (Or.inr q)
      simp only [e]
  · obtain ⟨x, hx⟩ : ∃ x, b[d]? = some x ∧ isd x = true := by
      refine Classical.byContradiction fun hc => hq fun x hx => ?_
      cases e : isd x with
      | false => rfl
      | true => exact absurd ⟨x, hx, e⟩ hc
    have h5 := (h.more hx.1 hx.2).le
    have hd4 : d = 4 := by
      rcases hs with q | q | ⟨y, q1, q2⟩
      · exact q
      · have := (List.getElem?_eq_some_iff.1 hx.1).1; omega
      · rw [hx.1] at q1; cases q1; rw [hx.2] at q2; cases q2
    rw [if_pos (Or.inr (Or.inl (by omega)))]
    have hne : b[d]? ≠ some 32 := by
      rw [hx.1]
      intro e
      cases e
      have := isd_true.1 hx.2
      omega
    rw [if_pos (Or.inr (Or.inr (Or.inl hne)))]
theorem tcut_len {b x : List Nat} {n : Nat} (h : tcut b = some (x, n)) : 2 ≤ n ∧ n ≤ b.length ∧ ∀ y ∈ x, y ∈ b := by
  unfold tcut at h
  simp only at h
  split at h
  · cases h
  · rename_i hn
    simp only [not_or] at hn
    simp only [Option.some.injEq, Prod.mk.injEq] at h
    obtain ⟨rfl, rfl⟩ := h
    exact ⟨by omega, by omega, fun y hy => List.mem_of_mem_take (List.mem_of_mem_drop hy)⟩
/-- The records, one more of them. -/
theorem trs_fuel : ∀ (f g : Nat) (b : List Nat) (c : Cm), b.length ≤ f → b.length ≤ g → trs f b c = trs g b c
  | 0, 0, b, c, _, _ => rfl
  | 0, g + 1, b, c, h, _ => by
    have : b = [] := List.length_eq_zero_iff.1 (by omega)
    subst this; simp [trs]
  | f + 1, 0, b, c, _, h => by
    have : b = [] := List.length_eq_zero_iff.1 (by omega)
    subst this; simp [trs]
  | f + 1, g + 1, b, c, h1, h2 => by
    unfold trs
    split
    · rfl
    · split
      · rfl
      · rename_i k v n hr
        have := (trc_mem hr).2.2
        split
        · rfl
        · exact trs_fuel f g _ _ (by rw [List.length_drop]; omega) (by rw [List.length_drop]; omega)
theorem trr_nil (c : Cm) : trr [] c = (c, 0) := rfl
theorem trr_none {b : List Nat} {c : Cm} (h0 : b ≠ []) (h : trc b = none) : trr b c = (c, 49) := by
  unfold trr
  obtain ⟨f, hf⟩ : ∃ f, b.length = f + 1 := ⟨b.length - 1, by have := List.length_pos_iff.2 h0; omega⟩
  rw [hf, trs, if_neg h0, h]
theorem trr_some {b k v : List Nat} {n : Nat} {c : Cm} (h : trc b = some (k, v, n)) : trr b c = if (tset k v c).2 ≠ 0 then tset k v c else trr (b.drop n) (tset k v c).1 := by
  have hm := (trc_mem h).2.2
  have h0 : b ≠ [] := fun e => by rw [e] at hm; simp at hm; omega
  unfold trr
  obtain ⟨f, hf⟩ : ∃ f, b.length = f + 1 := ⟨b.length - 1, by omega⟩
  rw [hf, trs, if_neg h0, h]
  simp only
  rw [trs_fuel f (b.drop n).length (b.drop n) _ (by rw [List.length_drop]; omega) (Nat.le_refl _)]
theorem trc_of {b x : List Nat} {n : Nat} (h : tcut b = some (x, n)) : trc b = match teq x with
    | none => none
    | some (k, v) => some (k, v, n) := by unfold trc; rw [h] <;> rfl
theorem trc_cut {b : List Nat} (h : tcut b = none) : trc b = none := by unfold trc; rw [h]
theorem teq_none {x : List Nat} (h : 61 ∉ x) : teq x = none := by unfold teq; rw [if_neg h]
theorem teq_at {x : List Nat} {i : Nat} (h : x[i]? = some 61) (hp : ∀ j y, j < i → x[j]? = some y → y ≠ 61) : teq x = some (x.take i, x.drop (i + 1)) := by
  have hi := (List.getElem?_eq_some_iff.1 h).1
  have e : x = x.take i ++ 61 :: x.drop (i + 1) := by
    conv => lhs; rw [← List.take_append_drop i x]
    rw [List.drop_eq_getElem_cons hi, (List.getElem?_eq_some_iff.1 h).2]
  have tw : x.takeWhile (fun y => y != 61) = x.take i := by
    rw [e]
    rw [List.takeWhile_append_of_pos (fun y hy => by
      obtain ⟨j, hj⟩ := List.getElem?_of_mem hy
      rw [List.getElem?_take] at hj
      split at hj
      · rename_i hji; have := hp j y hji hj; simpa using this
      · cases hj)]
    rw [← e]
    simp
  unfold teq
  rw [if_pos (by rw [e]; simp), tw, List.length_take, Nat.min_eq_left (by omega)]
end Go.Proofs.YtcmmjbkgoafbnaaDoor

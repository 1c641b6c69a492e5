/-
  CrcSees, behind the opening of its arguments: the call answers true, and what lay in memory is as it was.
  Conditions: the table holds its numbers; the list is shorter than 2^47.
-/
import Derived.Test.YtopaekcbopoeaaaDoorApp
import Derived.Deep.Cut
namespace Go.Proofs.YtopaekcbopoeaaaDoor
open Go.RowKit
set_option linter.unusedVariables false
theorem sum_one : sm 0 [1] = 2768625435 := by decide +kernel
theorem call_byte (w : World) (hT : Tab w) (x s : Nat) (hx : x < 256) (hs : sm 0 [x] = s) :
    Calls Tryd.prog 8 #[.slice (some ⟨w.heap.size, 0, none⟩) 1 1] (w.alloc (.cells #[.int .u8 (x : Int)] 5)) fun e w' => e = .returned (.int .u32 s) ∧ w.alloc (.cells #[.int .u8 (x : Int)] 5) = w' := by
  have := sum_c (some ⟨w.heap.size, 0, none⟩) [x] 1 _ (hT.below ((Below.refl w.heap.size w).alloc (Nat.le_refl _) (.cells #[.int .u8 (x : Int)] 5)) hT.lt) (by intro y hy; simp at hy; omega) (by simp) (lies_new w x)
  rw [hs] at this
  exact this
set_option maxRecDepth 100000 in
set_option maxHeartbeats 2000000 in
theorem sees_none (w : World) (hT : Tab w) (a : Option Addr) (L cap n y : Nat) (h0 : L = 0 ∨ y = 0) :
    Calls Tryd.prog 7 #[.slice a L cap, .int .u16 n, .int .u32 y] w fun e w' => e = .returned (.bool true) ∧ Below w.heap.size w w' := by
  have c0 := call_byte w hT 0 3523407757 (by decide) sum_nought
  have b1 := (Below.refl w.heap.size w).alloc (Nat.le_refl _) (.cells #[.int .u8 0] 5)
  have hT1 := hT.below b1 hT.lt
  have c1 := call_byte _ hT1 1 2768625435 (by decide) sum_one
  have b2 := b1.alloc b1.size (.cells #[.int .u8 1] 5)
  have hs : (w.alloc (.cells #[.int .u8 0] 5)).heap.size = w.heap.size + 1 := by show (w.heap.push _).size = _; simp
  rw [hs] at c1
  clear hs hT1
  have hor : ((L : Int) == 0) = true ∨ (((L : Int) == 0) = false ∧ ((y : Int) == 0) = true) := by
    by_cases h : L = 0
    · left; subst h; rfl
    · right
      have : y = 0 := by omega
      subst this
      exact ⟨by simp; omega, rfl⟩
  clear h0
  rcases hor with h | ⟨h, h'⟩
  all_goals
    go_enter Tryd.func7, Tryd.ntmps7
    go_wp2_with fail
    refine c0.mono ?_
    rintro x u ⟨rfl, rfl⟩
    go_wp2_with fail
    refine c1.mono ?_
    rintro x u ⟨rfl, rfl⟩
    go_wp2_with fail
    go_ret
    exact ⟨rfl, b2⟩
/-- The copy: block G holds the bytes cs first. -/
structure Cp (w u : World) (G L : Nat) (cs : List Nat) : Prop where
  bel : Below w.heap.size w u
  ge : w.heap.size ≤ G
  row : ∃ cur, Cells u G cur 5 ∧ L ≤ cur.size ∧ ∀ (i x : Nat), cs[i]? = some x → cur[i]? = some (.int .u8 (x : Int))
  len : cs.length = L
  oct : Oct cs
theorem Cp.cell {w u : World} {G L : Nat} {cs : List Nat} (h : Cp w u G L cs) {i x : Nat} (hx : cs[i]? = some x) : u.cell? ⟨G, i, none⟩ = some (.int .u8 (x : Int)) ∧ u.frozen? ⟨G, i, none⟩ = false := by
  obtain ⟨cur, hc, _, hr⟩ := h.row
  exact ⟨by rw [hc.cell]; exact hr i x hx, hc.frozen i⟩
theorem Cp.lies {w u : World} {G L : Nat} {cs : List Nat} (h : Cp w u G L cs) : Lies u (some ⟨G, 0, none⟩) cs := Or.inr ⟨G, 0, rfl, fun i x hx => by rw [Nat.zero_add]; exact (h.cell hx).1⟩
theorem Cp.set {w u : World} {G L : Nat} {cs : List Nat} (h : Cp w u G L cs) (j y : Nat) (hj : j < L) (hy : y < 256) : Cp w (u.setCell ⟨G, j, none⟩ (.int .u8 (y : Int))) G L (cs.set j y) := by
  obtain ⟨cur, hc, hl, hr⟩ := h.row
  refine ⟨h.bel.setCell (p := ⟨G, j, none⟩) h.ge _, h.ge, ⟨_, hc.set j _, by simpa using hl, fun i x hx => ?_⟩, by rw [List.length_set]; exact h.len, fun x hx => ?_⟩
  · rw [List.getElem?_set] at hx
    rw [Array.getElem?_setIfInBounds]
    by_cases e : j = i
    · subst e
      rw [if_pos rfl, if_pos (by rw [h.len]; exact hj)] at hx
      rw [if_pos rfl, if_pos (by omega)]
      cases hx; rfl
    · rw [if_neg e] at hx ⊢
      exact hr i x hx
  · rcases List.mem_or_eq_of_mem_set hx with h1 | h1
    · exact h.oct x h1
    · rw [h1]; exact hy
theorem Cp.of_apd {w u : World} {v : Value} {l : List Nat} (h : Apd w u w.heap.size v l) (h0 : l.length ≠ 0) (ol : Oct l) : ∃ G c, v = .slice (some ⟨G, 0, none⟩) l.length c ∧ l.length ≤ c ∧ c ≤ maxLen ∧ Cp w u G l.length l := by
  rcases h.own.2 with ⟨hv, hn⟩ | ⟨g, c, cur, hv, hg, hh, hc, hm, hs, ht⟩
  · exact absurd hn h0
  · refine ⟨g, c, hv, hc, hm, h.bel, hg, ⟨cur, hh, by omega, fun i x hx => ?_⟩, rfl, ol⟩
    have hi : i < l.length := by
      obtain ⟨hi, _⟩ := List.getElem?_eq_some_iff.1 hx
      exact hi
    have e : (cur.toList.take (l.length * 1))[i]? = some (.int .u8 (x : Int)) := by rw [ht, vn_get, hx]; rfl
    rw [List.getElem?_take, if_pos (by omega)] at e
    simpa using e
theorem shr_and (x i : Nat) (hx : x < 4294967296) : bits .and .u32 ((x : Int) / 2 ^ i) 1 = ((x / 2 ^ i % 2 : Nat) : Int) := by
  have e : (x : Int) / 2 ^ i = ((x / 2 ^ i : Nat) : Int) := by push_cast; rfl
  rw [e]
  exact and_one32 _ (Nat.lt_of_le_of_lt (Nat.div_le_self ..) hx)
theorem xor8 (x k : Nat) (hx : x < 256) (hk : k < 8) : bits .xor .u8 (x : Int) ((2 ^ k : Nat) : Int) = ((x ^^^ 2 ^ k : Nat) : Int) ∧ x ^^^ 2 ^ k < 256 := by
  have hp : 2 ^ k < 256 := Nat.pow_lt_pow_right (a := 2) (n := 8) (m := k) (by decide) hk
  exact ⟨u8_xor_nat x _ hx hp, Nat.xor_lt_two_pow (n := 8) hx hp⟩
/-- What the loop keeps: the bits that were turned so far, as they stand behind 'from' moves. -/
theorem turn_more {l cs : List Nat} {f i y j k x : Nat} (ho : Oct cs) (hx : cs[j]? = some x) (hk : k < 8) (hj : f + i = 8 * j + k) (h : mvs f (nb l ^^^ nb cs) = y % 2 ^ i) (hb : y / 2 ^ i % 2 = 1) :
    mvs f (nb l ^^^ nb (cs.set j (x ^^^ 2 ^ k))) = y % 2 ^ (i + 1) := by
  rw [nb_set cs j x k ho hx hk, ← Nat.xor_assoc, mvs_xor, h, mod_more, if_pos hb, ← hj, Nat.pow_add, mvs_pow]
theorem sees_end {l cs : List Nat} {L f v : Nat} (hl : l.length = L) (hc : cs.length = L) (ol : Oct l) (oc : Oct cs) (hf : f ≤ 8 * L) (hv : v < 4294967296) (h : mvs f (nb l ^^^ nb cs) = v) : sm 0 l = sm 0 cs ↔ v = 0 := by
  rw [sm_same l cs ol oc (by rw [hl, hc]), hl, show 8 * L = f + (8 * L - f) by omega, mvs_add, h]
  constructor
  · intro e
    by_cases h0 : v = 0
    · exact h0
    · exact absurd e (mvs_ne _ hv h0)
  · intro e; rw [e, mvs_zero]
set_option maxRecDepth 100000 in
set_option maxHeartbeats 2000000 in
theorem sees_core (w : World) (hT : Tab w) (a : Option Addr) (l : List Nat) (cap n y : Nat) (hn : n < 65536) (hy : y < 4294967296) (h0 : l.length ≠ 0) (hy0 : y ≠ 0) (hlc : l.length ≤ cap) (hcap : cap < 140737488355328) (ol : Oct l) (hl : Lies w a l) (za : a = none → l.length = 0 ∧ cap = 0) :
    Calls Tryd.prog 7 #[.slice a l.length cap, .int .u16 n, .int .u32 y] w fun e w' => e = .returned (.bool true) ∧ Below w.heap.size w w' := by
  obtain ⟨L, hL⟩ : ∃ L, l.length = L := ⟨_, rfl⟩
  obtain ⟨f, hf⟩ : ∃ f, n % (8 * L) = f := ⟨_, rfl⟩
  have AL : Aside (l.length = L ∧ 0 < L ∧ L < 140737488355328 ∧ f < 8 * L ∧ (a = none → L = 0 ∧ cap = 0)) := ⟨hL, by omega, by omega, by rw [← hf]; exact Nat.mod_lt _ (by omega), by rw [← hL]; exact za⟩
  have AY : Aside (y < 4294967296) := hy
  have hmod : (n : Int).tmod (8 * (L : Int)) = (f : Int) := by
    rw [← hf, Int.tmod_eq_emod_of_nonneg (by omega)]; push_cast; rfl
  rw [hL]
  have e1 : ((L : Int) == 0) = false := by simp; omega
  have e2 : ((y : Int) == 0) = false := by simp; omega
  have hL8 : 8 * (L : Int) < 9223372036854775808 := by omega
  have hL0 : ¬ (8 * (L : Int) = 0) := by omega
  have hm1 := Apd.made w w.heap.size (Nat.le_refl _)
  clear hf hL h0 hy0 hlc hcap za
  go_enter Tryd.func7, Tryd.ntmps7
  go_upto_region 4 with (first
    | (at_builtin; refine wpList_app w _ rfl (.tmp 23) (.tmp 24) rfl w.heap.size _ [] rfl hm1 a l L cap AL.out.1 rfl AL.out.2.2.2.2 (hl.below ((Below.refl w.heap.size w).alloc (Nat.le_refl _) _)) (by have := AL.out; simp only [List.length_nil]; omega) ?_; intro v1 w1 hp1 hb1))
  rw [List.nil_append] at hp1
  obtain ⟨G, c1, rfl, hlc1, hc1m, cp1⟩ := Cp.of_apd hp1 (by have := AL.out; omega) ol
  rw [AL.out.1] at hlc1 cp1 ⊢
  have AC : Aside (L ≤ c1 ∧ c1 ≤ maxLen) := ⟨hlc1, hc1m⟩
  clear hp1 hb1 hm1 hlc1 hc1m hy
  go_wp2_with fail
  clear e1 e2 hmod hn hL0
  go_loopg [9, 10] 32 (fun g st si wr => ∃ (i : Nat) (t : Bool) (cs : List Nat), i + g = 32 ∧ si = .int .i64 i ∧ st = .bool t ∧ t = decide (y % 2 ^ i ≠ 0) ∧ Cp w wr G L cs ∧ mvs f (nb l ^^^ nb cs) = y % 2 ^ i)
  case atStart => exact ⟨0, false, l, rfl, rfl, rfl, by rw [Nat.pow_zero, Nat.mod_one]; rfl, cp1, by rw [Nat.xor_self, mvs_zero, Nat.pow_zero, Nat.mod_one]⟩
  case round =>
    clear cp1
    obtain ⟨i, t, cs, hi, rfl, rfl, ht, cp, hm⟩ := hrel
    have AI : Aside (i + gk = 32) := hi
    have AT : Aside (t = decide (y % 2 ^ i ≠ 0) ∧ mvs f (nb l ^^^ nb cs) = y % 2 ^ i) := ⟨ht, hm⟩
    have AP : Aside (Cp w wr G L cs) := cp
    clear hi ht hm
    by_cases hin : i < 32 ∧ f + i < 8 * L
    · obtain ⟨h1, h2⟩ := hin
      have h1' : (i : Int) < 32 := by omega
      have h2' : (f : Int) + (i : Int) < 8 * (L : Int) := by omega
      have hsh := shr_and y i AY.out
      obtain ⟨J, hJ⟩ : ∃ J, (f + i) / 8 = J := ⟨_, rfl⟩
      obtain ⟨k, hk⟩ : ∃ k, (f + i) % 8 = k := ⟨_, rfl⟩
      have hJL : J < L := by omega
      have hk8 : k < 8 := by omega
      have hJi : ((f : Int) + (i : Int)) / 8 = (J : Int) := by omega
      have hki : ((f : Int) + (i : Int)) % 8 = (k : Int) := by omega
      have AJ : Aside (f + i = 8 * J + k ∧ J < L ∧ k < 8) := ⟨by omega, hJL, hk8⟩
      rcases Nat.mod_two_eq_zero_or_one (y / 2 ^ i) with hb | hb
      · rw [hb] at hsh
        have AB : Aside (y % 2 ^ (i + 1) = y % 2 ^ i) := by show _ = _; rw [mod_more, if_neg (by omega)]
        clear hb hJ hk
        go_wp2_with fail
        have hi := AI.out
        go_roundg (gk - 1)
        case measure => omega
        case rel => exact ⟨i + 1, t, cs, by omega, by go_num, rfl, by rw [AB.out]; exact AT.out.1, cp, by rw [AB.out]; exact AT.out.2⟩
      · rw [hb] at hsh
        have hJc : J < cs.length := by rw [cp.len]; exact hJL
        have hx := List.getElem?_eq_getElem hJc
        obtain ⟨x, hxx⟩ : ∃ x, cs[J] = x := ⟨_, rfl⟩
        have hx8 : x < 256 := by rw [← hxx]; exact cp.oct _ (List.getElem_mem hJc)
        rw [hxx] at hx
        obtain ⟨g1, g2⟩ := cp.cell hx
        obtain ⟨q1, q2⟩ := xor8 x k hx8 hk8
        have AN : Aside (Cp w (wr.setCell ⟨G, J, none⟩ (.int .u8 (x ^^^ 2 ^ k : Nat))) G L (cs.set J (x ^^^ 2 ^ k)) ∧ mvs f (nb l ^^^ nb (cs.set J (x ^^^ 2 ^ k))) = y % 2 ^ (i + 1) ∧ true = decide (y % 2 ^ (i + 1) ≠ 0)) := by
          refine ⟨cp.set J _ hJL q2, turn_more cp.oct hx hk8 AJ.out.1 AT.out.2 hb, ?_⟩
          have hp := Nat.two_pow_pos i
          rw [mod_more, if_pos hb, xor_pow _ _ (Nat.mod_lt _ hp), decide_eq_true (by omega)]
        have hp8 : 2 ^ k < 256 := Nat.pow_lt_pow_right (a := 2) (n := 8) (m := k) (by decide) hk8
        have hJ2 : (J : Int) < (L : Int) := by omega
        obtain ⟨r, hr⟩ : ∃ r, x ^^^ 2 ^ k = r := ⟨_, rfl⟩
        have e2k : ((2 : Int) ^ k) % 256 = ((2 ^ k : Nat) : Int) := by
          have e : (2 : Int) ^ k = ((2 ^ k : Nat) : Int) := by push_cast; rfl
          rw [e]
          obtain ⟨X, hX⟩ : ∃ X : Nat, 2 ^ k = X := ⟨_, rfl⟩
          rw [hX] at hp8 ⊢
          omega
        rw [hr] at q1 AN
        obtain ⟨X, hX⟩ : ∃ X : Nat, 2 ^ k = X := ⟨_, rfl⟩
        rw [hX] at q1 e2k
        clear hb hJ hk hJc hx hxx q2 hp8 hr hX cp
        go_wp2_with fail
        have hi := AI.out
        go_roundg (gk - 1)
        case measure => omega
        case rel => exact ⟨i + 1, true, cs.set J r, by omega, by go_num, rfl, AN.out.2.2, AN.out.1, AN.out.2.1⟩
    · have hout : (i : Int) < 32 ∧ ¬ (f : Int) + (i : Int) < 8 * (L : Int) ∨ ¬ (i : Int) < 32 := by omega
      have hv : y % 2 ^ i < 4294967296 := Nat.lt_of_le_of_lt (Nat.mod_le ..) AY.out
      have hend := sees_end AL.out.1 cp.len ol cp.oct (Nat.le_of_lt AL.out.2.2.2.1) hv AT.out.2
      have hT2 := hT.below cp.bel hT.lt
      have cC := sum_c (some ⟨G, 0, none⟩) cs c1 wr hT2 cp.oct (by rw [cp.len]; have := AL.out; omega) cp.lies
      have cB := sum_c a l cap wr hT2 ol (by have := AL.out; omega) (hl.below cp.bel)
      rw [cp.len] at cC
      rw [AL.out.1] at cB
      have hne : (((sm 0 cs : Nat) : Int) != ((sm 0 l : Nat) : Int)) = t := by
        rw [AT.out.1]
        by_cases h0 : y % 2 ^ i = 0
        · have e := hend.2 h0
          rw [h0, e]; simp
        · have e : ¬ sm 0 l = sm 0 cs := fun e => h0 (hend.1 e)
          rw [decide_eq_true h0, bne_iff_ne]
          intro e'
          exact e (by omega)
      have hbel := cp.bel
      have hfi : (f : Int) + (i : Int) < 9223372036854775808 := by have := AL.out; have := AI.out; omega
      clear hin hend hv hT2 AT AP cp
      generalize sm 0 cs = sc at *
      generalize sm 0 l = sl at *
      rcases hout with ⟨h1, h2⟩ | h1
      all_goals
        cases t
        all_goals
          go_wp2_with fail
          refine cC.mono ?_
          rintro x u ⟨rfl, rfl⟩
          go_wp2_with fail
          refine cB.mono ?_
          rintro x u ⟨rfl, rfl⟩
          go_wp2_with fail
          go_ret
          exact ⟨rfl, hbel⟩
end Go.Proofs.YtopaekcbopoeaaaDoor

/-
  Own texts of this seat, one behind the other: what each says stands ahead of it.
-/
import Derived.Test.YtikdpnpkmmmacaaDoorMb
import Derived.Laws.CopyOwn
import Derived.Test.YtikdpnpkmmmacaaDoorProg
import Derived.Test.YtikdpnpkmmmacaaDoorMa
import Derived.BigQuiet
import Derived.Deep.LoopGhost
import Derived.Laws.MakeOwn
import Derived.Laws.OwnMore
import Derived.Laws.EntriesVeiled
import Derived.OwnWalk
import Derived.WalkMore
import Derived.Deep.CutBlock
import Derived.Deep.DeepCutAuto
/-
  What the program's Read comes to.
-/
namespace Go.Proofs.YtikdpnpkmmmacaaDoor
open Go.RowKit
set_option linter.unusedVariables false
theorem read_none (T : Nat) (w : World) : Calls Tryd.prog 81 #[.pointer (some ⟨T, 0, none⟩), .pointer none] w fun e w' => e = .returned (.tuple #[.int .i64 0, .int .i64 2]) ∧ w = w' := by
  go_enter Tryd.func81, Tryd.ntmps81
  go_wp2_with fail
  first | go_ret | go_ret2
  exact ⟨rfl, rfl⟩
theorem may_of {ls : List Nat} {l : List Bool} (hk : part ls 15 ≤ 32768) (h15 : ∀ x ∈ ls, x ≤ 15) : (∃ j n, ls[j]? = some n ∧ 0 < n ∧ l <+: cbits ls j) ↔ May ls l := by
  constructor
  · rintro ⟨j, n, h1, h2, h3⟩
    have := (may_prefix hk h15 h1 h2).1 h3
    exact ⟨j, n, h1, h2, this.1, this.2⟩
  · rintro ⟨j, n, h1, h2, h3, h4⟩
    exact ⟨j, n, h1, h2, (may_prefix hk h15 h1 h2).2 ⟨h3, h4⟩⟩
theorem told_bad {ls : List Nat} {l : List Bool} {s how k : Nat} (hk : part ls 15 ≤ 32768) (h15 : ∀ x ∈ ls, x ≤ 15) (ht : Told ls l s how k) (h1 : ∀ i n, ¬ Hit ls l i n) (h2 : ¬ May ls l) : s = 0 ∧ how = 2 ∧ k = 0 := by
  rcases ht with ⟨h, _⟩ | ⟨_, h, _⟩ | ⟨_, _, h⟩
  · exact absurd h (h1 _ _)
  · exact absurd ((may_of hk h15).1 h) h2
  · exact h
theorem told_more {ls : List Nat} {l : List Bool} {s how k : Nat} (hk : part ls 15 ≤ 32768) (h15 : ∀ x ∈ ls, x ≤ 15) (ht : Told ls l s how k) (h1 : ∀ i n, ¬ Hit ls l i n) (h2 : May ls l) : s = 0 ∧ how = 1 ∧ k = 0 := by
  rcases ht with ⟨h, _⟩ | ⟨_, _, h⟩ | ⟨_, h, _⟩
  · exact absurd h (h1 _ _)
  · exact h
  · exact absurd ((may_of hk h15).2 h2) h
theorem told_hit {ls : List Nat} {l : List Bool} {s how k s0 n : Nat} (ht : Told ls l s how k) (hh : Hit ls l s0 n) : s = s0 ∧ how = 0 ∧ k = n := by
  rcases ht with ⟨h, h0⟩ | ⟨h, _⟩ | ⟨h, _⟩
  · have := hit_one h hh
    exact ⟨this.1, h0, this.2⟩
  · exact absurd hh (h _ _)
  · exact absurd hh (h _ _)
theorem But.drawn {b : Nat} {w u : World} (h : Drawn w u) : But b w u := by
  obtain ⟨n, rfl⟩ := h
  exact ⟨rfl, rfl, rfl, Nat.le_refl _, fun _ _ _ => rfl⟩
theorem But.only {b : Nat} {w u v : World} (h : But b w u) (k : Only b u v) : But b w v :=
  ⟨k.os.trans h.os, k.tape.trans h.tape, k.output.trans h.output, by rw [k.size]; exact h.size, fun i hi hne => (k.block i hne).trans (h.block i hi hne)⟩
set_option maxRecDepth 100000 in
set_option maxHeartbeats 4000000 in
theorem read_c (lo hi T : Nat) (ls : List Nat) (b s how k : Nat) (l : List Bool) (w : World) (hp : PT w lo hi T ls) (hk : part ls 15 ≤ 32768) (h15 : ∀ x ∈ ls, x ≤ 15) (hb : Br w b (nm l) l.length) (ht : Told ls l s how k) :
    Calls Tryd.prog 81 #[.pointer (some ⟨T, 0, none⟩), .pointer (some ⟨b, 0, none⟩)] w fun e w' => e = .returned (.tuple #[.int .i64 (s : Int), .int .i64 (how : Int)]) ∧ Br w' b (nm (l.drop k)) (l.drop k).length ∧ But b w w' := by
  obtain ⟨g, M, kk, ht2, _⟩ := hp
  obtain ⟨G, hG, hLd⟩ := ht2.m
  have cT1 := ht2.t.cell 1
  simp only [List.getElem?_toArray, List.getElem?_cons_zero, List.getElem?_cons_succ] at cT1
  have hheld := held_b b (nm l) l.length w hb
  obtain ⟨H, hH⟩ : ∃ H, min l.length 15 = H := ⟨_, rfl⟩
  have hpeek := peek_yes b (nm l) l.length H w hb (by omega) (by omega)
  have hvb : nm l % 2 ^ H < 4294967296 := by
    have h1 := Nat.mod_lt (nm l) (show 0 < 2 ^ H from Nat.pow_pos (by decide))
    have h2 : 2 ^ H ≤ 2 ^ 15 := Nat.pow_le_pow_right (by decide) (by omega)
    omega
  have hrev := rev_c (nm l % 2 ^ H) hvb (H : Int) w
  have hcl : clamp (H : Int) = H := by unfold clamp; omega
  rw [hcl, rev_mod H H _ (Nat.le_refl _), rev_num H (by omega)] at hrev
  obtain ⟨v, hv⟩ : ∃ v, num (l.take H) = v := ⟨_, rfl⟩
  rw [hv] at hrev
  obtain ⟨x, hx⟩ : ∃ x, nm l % 2 ^ H = x := ⟨_, rfl⟩
  rw [hx] at hrev hpeek
  obtain ⟨Ln, hLn⟩ : ∃ Ln, l.length = Ln := ⟨_, rfl⟩
  have htk : ∀ n, n ≤ H → num (l.take n) = v / 2 ^ (H - n) := fun n hn => by rw [← hv]; exact take_num hn (by omega)
  have AH : Aside (Mp w M kk G ∧ Laidm ls ls.length G ∧ Br w b (nm l) l.length ∧ Told ls l s how k ∧ (∀ x ∈ ls, x ≤ 15) ∧ min l.length 15 = H ∧ (∀ n, n ≤ H → num (l.take n) = v / 2 ^ (H - n)) ∧ v < 2 ^ H ∧ l.length = Ln) := ⟨hG, hLd, hb, ht, h15, hH, htk, by rw [← hv]; have := num_lt (l.take H); rw [List.length_take, show min H l.length = H by omega] at this; exact this, hLn⟩
  rw [hLn] at hheld
  have hH15 : H ≤ 15 := by omega
  have hmin : (if (15 : Int) < (Ln : Int) then (15 : Int) else (Ln : Int)) = (H : Int) := by split <;> omega
  have hmin2 : (if (Ln : Int) < (15 : Int) then (Ln : Int) else (15 : Int)) = (H : Int) := by split <;> omega
  have AK : Aside (part ls 15 ≤ 32768) := hk
  clear ht2 hG hLd hb ht h15 hH htk hv hx hLn hcl hvb hk
  go_enter Tryd.func81, Tryd.ntmps81
  go_upto_region 6 with (go_at_call 87; refine hheld.mono ?_; rintro e2 w2 ⟨rfl, rfl⟩)
  clear hheld hmin hmin2
  go_upto_region 9 with (first
    | (go_at_call 67; refine hpeek.mono ?_; rintro e3 w3 ⟨rfl, rfl⟩)
    | (go_at_call 88; refine hrev.mono ?_; rintro e4 w4 ⟨rfl, rfl⟩))
  clear hpeek hrev
  go_loopg [30] (H + 1) (fun gg si wr => ∃ n : Nat, si = .int .i64 (n : Int) ∧ Aside (n + gg = H + 1 ∧ Drawn w wr ∧ ∀ j, j < n → G j (num (l.take j)) = some (-1)))
  case atStart => exact ⟨0, rfl, by omega, Drawn.refl _, fun j hj => by omega⟩
  case round =>
    obtain ⟨n, rfl, hI⟩ := hrel
    by_cases hn : n ≤ H
    · have hnI : (n : Int) < (H : Int) + 1 := by omega
      have hnH : (n : Int) ≤ (H : Int) := by omega
      obtain ⟨y, hy⟩ : ∃ y, v / 2 ^ (H - n) = y := ⟨_, rfl⟩
      have hvb : v < 4294967296 := by have := AH.out.2.2.2.2.2.2.2.1; have h2 : 2 ^ H ≤ 2 ^ 15 := Nat.pow_le_pow_right (by decide) hH15; omega
      have hyb : y < 4294967296 := by rw [← hy]; exact Nat.lt_of_le_of_lt (Nat.div_le_self _ _) hvb
      have hyI : (v : Int) / 2 ^ (H - n) = (y : Int) := by rw [← hy]; push_cast; rfl
      obtain ⟨r, hr⟩ : ∃ r, G n y = r := ⟨_, rfl⟩
      obtain ⟨q, hq⟩ := hI.out.2.1
      have hlook : ∀ j, (Instr.lookup 132 (.map (some M)) (.agg #[.int .u32 (n : Int), .int .u32 (y : Int)]) true).run Tryd.prog (wr.drewN j) = .ok (.tuple #[.int .i64 (r.getD 0), .bool r.isSome]) (wr.drewN j) := fun j =>
        run_look (wr.drewN j) M kk n y G (by rw [hq]; exact AH.out.1) (by omega) hyb r hr
      have cT1r : wr.cell? ⟨T, 1, none⟩ = some (.map (some M)) := by rw [hq]; exact cT1
      have htn : num (l.take n) = y := by rw [← hy]; exact AH.out.2.2.2.2.2.2.1 n hn
      have AY : Aside (G n y = r ∧ num (l.take n) = y ∧ n ≤ H) := ⟨hr, htn, hn⟩
      clear hq hr hy htn hn
      go_upto_region 11 with fail
      go_quiet (fail)
      have hdr : Aside (Drawn w (wr.drewN nq)) := hI.out.2.1.drewN nq
      obtain ⟨w5, hw5⟩ : ∃ w5, wr.drewN nq = w5 := ⟨_, rfl⟩
      rw [hw5] at hdr ⊢
      clear hw5 cT1r hlook
      cases r with
      | none =>
        go_wp2_with fail
        first | go_ret | go_ret2
        have a := AH.out
        have y := AY.out
        have hbd := a.2.1.bad (l := l) (n := n) (by omega) hI.out.2.2 (by rw [y.2.1]; exact y.1)
        obtain ⟨rfl, rfl, rfl⟩ := told_bad AK.out a.2.2.2.2.1 a.2.2.2.1 hbd.1 hbd.2
        refine ⟨rfl, ?_, But.drawn hdr.out⟩
        obtain ⟨q, hq⟩ := hdr.out
        rw [hq]
        exact a.2.2.1.drewN q
      | some z =>
        by_cases hz : z = -1
        · subst hz
          go_wp2_with fail
          go_roundg (H - n)
          case measure => have := hI.out.1; have := AY.out.2.2; omega
          case rel =>
            refine ⟨n + 1, by go_num, by have := AY.out.2.2; omega, hdr.out, fun j hj => ?_⟩
            rcases (show j < n ∨ j = n by omega) with h | rfl
            · exact hI.out.2.2 j h
            · rw [AY.out.2.1]; exact AY.out.1
        · have hzb : (z == -1) = false := beq_eq_false_iff_ne.2 hz
          have a := AH.out
          have y1 := AY.out
          obtain ⟨s0, rfl, hh⟩ := a.2.1.hit (l := l) (n := n) (v := z) (by omega) (by rw [y1.2.1]; exact y1.1) hz
          obtain ⟨rfl, rfl, rfl⟩ := told_hit a.2.2.2.1 hh
          have hbr : Br w5 b (nm l) l.length := by obtain ⟨q, hq⟩ := hdr.out; rw [hq]; exact a.2.2.1.drewN q
          have htake := take_yes b (nm l) l.length k w5 hbr (by omega) (by omega)
          clear a y1 hh hbr hz
          go_wp2_with (go_at_call 50; refine htake.mono ?_; rintro e6 w6 ⟨rfl, hb6, ho6⟩)
          first | go_ret | go_ret2
          refine ⟨rfl, ?_, (But.drawn hdr.out).only ho6⟩
          rw [nm_drop, List.length_drop]
          exact hb6
    · have hn1 : n = H + 1 := by have := hI.out.1; omega
      subst hn1
      have hni : ¬ ((H + 1 : Nat) : Int) < (H : Int) + 1 := by omega
      clear hn
      go_wp2_with fail
      first | go_ret | go_ret2
      have a := AH.out
      have hm := a.2.1.more a.2.2.2.2.1 (l := l) (n := H) a.2.2.2.2.2.1.symm (fun j hj => hI.out.2.2 j (by omega))
      obtain ⟨rfl, rfl, rfl⟩ := told_more AK.out a.2.2.2.2.1 a.2.2.2.1 hm.2.1 hm.2.2
      refine ⟨rfl, ?_, But.drawn hI.out.2.1⟩
      obtain ⟨q, hq⟩ := hI.out.2.1
      rw [hq]
      exact a.2.2.1.drewN q
theorem new_err (a : Option Addr) (zs : List Int) (L C e0 : Nat) (w : World) (h : Lens w a zs) (hL : zs.length = L) (hLb : L < 140737488355328) (he : nerr zs = e0) (h0 : e0 ≠ 0) :
    Calls Tryd.prog 70 #[.slice a L C] w fun e w' => e = .returned (.tuple #[.pointer none, .int .i64 (e0 : Int)]) ∧ Below w.heap.size w w' := by
  by_cases hok : Okl zs
  · exact new_room a zs L C e0 w h hL hLb hok he h0
  · have : e0 = 2 := by rw [← he]; unfold nerr; rw [if_pos hok]
    subst this
    exact new_arg a zs L C w h hL hLb hok
end Go.Proofs.YtikdpnpkmmmacaaDoor

/-
  Lists of bytes: the last ones of a list, what a copy does to a row, a row that goes round, and the bytes at the end again and again.
-/
namespace Go.Proofs.YtikdpnpkmmmacaaDoor
set_option linter.unusedVariables false
/-- The cell n behind the next one. -/
def gfwd (N x n : Nat) : Nat := if x + n < N then x + n else x + n - N
/-- The cell d ahead of the next one. -/
def gbck (N x d : Nat) : Nat := if d ≤ x then x - d else x + N - d
theorem gfwd_spec (N x n : Nat) : (x + n < N ∧ gfwd N x n = x + n) ∨ (N ≤ x + n ∧ gfwd N x n = x + n - N) := by unfold gfwd; split <;> omega
theorem gbck_spec (N x d : Nat) : (d ≤ x ∧ gbck N x d = x - d) ∨ (x < d ∧ gbck N x d = x + N - d) := by unfold gbck; split <;> omega
theorem gfwd_lt {N x n : Nat} (h : x < N) (h2 : n ≤ N) : gfwd N x n < N := by unfold gfwd; split <;> omega
theorem gbck_lt {N x d : Nat} (h1 : x < N) (h2 : 1 ≤ d) (h3 : d ≤ N) : gbck N x d < N := by unfold gbck; split <;> omega
/-- The last ones, at most N. -/
def glastN (N : Nat) (l : List Int) : List Int := l.drop (l.length - N)
theorem glastN_length (N : Nat) (l : List Int) : (glastN N l).length = min l.length N := by simp [glastN]; omega
theorem glastN_all {N : Nat} {l : List Int} (h : l.length ≤ N) : glastN N l = l := by
  unfold glastN; rw [show l.length - N = 0 by omega, List.drop_zero]
theorem glastN_app (N : Nat) (l xs : List Int) : glastN N (l ++ glastN N xs) = glastN N (l ++ xs) := by
  apply List.ext_getElem?
  intro i
  simp only [glastN, List.getElem?_drop, List.getElem?_append, List.length_append, List.length_drop]
  by_cases h : xs.length ≤ N
  · simp only [show xs.length - N = 0 by omega, Nat.sub_zero, Nat.zero_add]
  · have e1 : l.length + (xs.length - (xs.length - N)) - N + i = l.length + i := by omega
    have e2 : ¬ l.length + (xs.length - (xs.length - N)) - N + i < l.length := by omega
    have e3 : ¬ l.length + xs.length - N + i < l.length := by omega
    rw [if_neg e2, if_neg e3]
    congr 1; omega
theorem glastN_two (N : Nat) (l xs ys : List Int) : glastN N (glastN N (l ++ xs) ++ ys) = glastN N (l ++ xs ++ ys) := by
  apply List.ext_getElem?
  intro i
  simp only [glastN, List.getElem?_drop, List.getElem?_append, List.length_append, List.length_drop]
  by_cases h : l.length + xs.length ≤ N
  · simp only [show l.length + xs.length - N = 0 by omega, Nat.sub_zero, Nat.zero_add]
  · have e0 : l.length + xs.length - (l.length + xs.length - N) = N := by omega
    simp only [e0]
    have e1 : N + ys.length - N + i = ys.length + i := by omega
    have e2 : l.length + xs.length + ys.length - N + i = l.length + xs.length - N + (ys.length + i) := by omega
    simp only [e1, e2]
    by_cases c : ys.length + i < N
    · have c2 : l.length + xs.length - N + (ys.length + i) < l.length + xs.length := by omega
      rw [if_pos c, if_pos c2]
    · have c2 : ¬ l.length + xs.length - N + (ys.length + i) < l.length + xs.length := by omega
      rw [if_neg c, if_neg c2]
      congr 1; omega
theorem gsplice_get {α : Type} (l cs : List α) (off i : Nat) (h : off + cs.length ≤ l.length) : (splice l off cs)[i]? = if off ≤ i ∧ i < off + cs.length then cs[i - off]? else l[i]? := by
  unfold splice
  rw [List.getElem?_append, List.length_take, Nat.min_eq_left (by omega), List.getElem?_append, List.getElem?_take, List.getElem?_drop]
  by_cases c1 : i < off
  · rw [if_pos c1, if_pos c1, if_neg (by omega)]
  · rw [if_neg c1]
    by_cases c2 : i < off + cs.length
    · rw [if_pos (by omega), if_pos (by omega)]
    · rw [if_neg (by omega), if_neg (by omega)]
      congr 1; omega
theorem gsplice_app (ys A B : List Int) (h : A.length + B.length ≤ ys.length) : splice (splice ys 0 A) A.length B = splice ys 0 (A ++ B) := by
  apply List.ext_getElem?
  intro i
  rw [gsplice_get _ _ _ _ (by rw [length_splice _ _ _ (by omega)]; omega), gsplice_get _ _ _ _ (by omega), gsplice_get _ _ _ _ (by rw [List.length_append]; omega), List.length_append, List.getElem?_append]
  by_cases c1 : i < A.length
  · rw [if_neg (by omega), if_pos (by omega), if_pos (by omega), if_pos (by omega)]
  · by_cases c2 : i < A.length + B.length
    · rw [if_pos (by omega), if_pos (by omega), if_neg (by omega)]; simp
    · rw [if_neg (by omega), if_neg (by omega), if_neg (by omega)]
theorem gsplice_all (ys A : List Int) (h : A.length = ys.length) : splice ys 0 A = A := by
  unfold splice
  simp [h]
/-- The row cs of N cells, whose next one is x, holds the list l. -/
def GHolds (N x : Nat) (cs l : List Int) : Prop := ∀ d, 1 ≤ d → d ≤ l.length → cs[gbck N x d]? = l[l.length - d]?
theorem gholds_nil (N x : Nat) (cs : List Int) : GHolds N x cs [] := fun d h1 h2 => by simp at h2; omega
/-- What is moved out, in one piece. -/
theorem gout_a {N x : Nat} {cs l : List Int} (hh : GHolds N x cs l) (d n : Nat) (hx : x < N) (hl : l.length ≤ N) (h1 : 1 ≤ d) (hd : d ≤ l.length) (hn : n ≤ d) (hA : gbck N x d + n ≤ N) :
    (cs.drop (gbck N x d)).take n = (l.drop (l.length - d)).take n := by
  apply List.ext_getElem?
  intro i
  rw [List.getElem?_take, List.getElem?_take, List.getElem?_drop, List.getElem?_drop]
  by_cases c : i < n
  · rw [if_pos c, if_pos c]
    have := hh (d - i) (by omega) (by omega)
    rw [show l.length - d + i = l.length - (d - i) by omega, ← this]
    congr 1
    have s1 := gbck_spec N x d
    have s2 := gbck_spec N x (d - i)
    omega
  · rw [if_neg c, if_neg c]
/-- What is moved out, in two pieces. -/
theorem gout_b {N x : Nat} {cs l : List Int} (hh : GHolds N x cs l) (d n m r : Nat) (hx : x < N) (hl : l.length ≤ N) (hc : cs.length = N) (h1 : 1 ≤ d) (hd : d ≤ l.length) (hn : n ≤ d) (hm : gbck N x d + m = N) (hr : m + r = n) :
    cs.drop (gbck N x d) ++ cs.take r = (l.drop (l.length - d)).take n := by
  apply List.ext_getElem?
  intro i
  rw [List.getElem?_append, List.length_drop, hc, List.getElem?_take, List.getElem?_take, List.getElem?_drop, List.getElem?_drop]
  have e : N - gbck N x d = m := by omega
  rw [e]
  by_cases c : i < n
  · rw [if_pos c]
    have := hh (d - i) (by omega) (by omega)
    rw [show l.length - d + i = l.length - (d - i) by omega, ← this]
    by_cases c2 : i < m
    · rw [if_pos c2]
      congr 1
      have s1 := gbck_spec N x d
      have s2 := gbck_spec N x (d - i)
      omega
    · rw [if_neg c2, if_pos (by omega)]
      congr 1
      have s1 := gbck_spec N x d
      have s2 := gbck_spec N x (d - i)
      omega
  · rw [if_neg c, if_neg (by omega), if_neg (by omega)]
/-- What is laid in goes round the end. -/
theorem gin_get {N x : Nat} {cs ys : List Int} (hc : cs.length = N) (hx : x < N) (hm : ys.length ≤ N) (q : Nat) (hq : q = min ys.length (N - x)) (p : Nat) (hp : p < N) :
    (splice (splice cs x (ys.take q)) 0 (ys.drop q))[p]? = if x ≤ p ∧ p < x + ys.length then ys[p - x]? else if p + N < x + ys.length then ys[p + N - x]? else cs[p]? := by
  have l1 : (ys.take q).length = q := by rw [List.length_take]; omega
  have l2 : (ys.drop q).length = ys.length - q := List.length_drop
  rw [gsplice_get _ _ _ _ (by rw [length_splice _ _ _ (by omega)]; omega), gsplice_get _ _ _ _ (by omega), l1, l2, List.getElem?_take, List.getElem?_drop]
  by_cases c1 : x ≤ p ∧ p < x + ys.length
  · rw [if_pos c1, if_neg (by omega), if_pos (by omega), if_pos (by omega)]
  · rw [if_neg c1]
    by_cases c2 : p + N < x + ys.length
    · rw [if_pos c2, if_pos (by omega)]
      congr 1; omega
    · rw [if_neg c2, if_neg (by omega), if_neg (by omega)]
theorem gin_holds {N x : Nat} {cs l ys : List Int} (hh : GHolds N x cs l) (hc : cs.length = N) (hx : x < N) (hl : l.length ≤ N) (hm : ys.length ≤ N) (q : Nat) (hq : q = min ys.length (N - x)) :
    GHolds N (gfwd N x ys.length) (splice (splice cs x (ys.take q)) 0 (ys.drop q)) (glastN N (l ++ ys)) := by
  intro d h1 h2
  have hlen := glastN_length N (l ++ ys)
  rw [List.length_append] at hlen
  have hp := gbck_lt (gfwd_lt hx hm) h1 (by omega : d ≤ N)
  rw [gin_get hc hx hm q hq _ hp, hlen]
  have e : (glastN N (l ++ ys))[min (l.length + ys.length) N - d]? = (l ++ ys)[l.length + ys.length - d]? := by
    unfold glastN
    rw [List.getElem?_drop, List.length_append]
    congr 1; omega
  rw [e, List.getElem?_append]
  have s1 := gfwd_spec N x ys.length
  have s2 := gbck_spec N (gfwd N x ys.length) d
  by_cases c : d ≤ ys.length
  · have c0 : ¬ l.length + ys.length - d < l.length := by omega
    rw [if_neg c0]
    by_cases c1 : x + (ys.length - d) < N
    · have c2 : x ≤ gbck N (gfwd N x ys.length) d ∧ gbck N (gfwd N x ys.length) d < x + ys.length := by omega
      rw [if_pos c2]
      congr 1; omega
    · have c2 : ¬ (x ≤ gbck N (gfwd N x ys.length) d ∧ gbck N (gfwd N x ys.length) d < x + ys.length) := by omega
      have c3 : gbck N (gfwd N x ys.length) d + N < x + ys.length := by omega
      rw [if_neg c2, if_pos c3]
      congr 1; omega
  · have s3 := gbck_spec N x (d - ys.length)
    have := hh (d - ys.length) (by omega) (by omega)
    have c0 : l.length + ys.length - d < l.length := by omega
    have hb : gbck N (gfwd N x ys.length) d = gbck N x (d - ys.length) := by omega
    have c2 : ¬ (x ≤ gbck N x (d - ys.length) ∧ gbck N x (d - ys.length) < x + ys.length) := by omega
    have c3 : ¬ gbck N x (d - ys.length) + N < x + ys.length := by omega
    rw [if_pos c0, hb, if_neg c2, if_neg c3, this]
    congr 1; omega
theorem gset_splice (cs : List Int) (x : Nat) (z : Int) (h : x < cs.length) : cs.set x z = splice cs x [z] := by
  apply List.ext_getElem?
  intro i
  rw [gsplice_get cs [z] x i (by simp; omega)]
  by_cases c : x = i
  · subst c
    rw [if_pos (by simp)]
    simp [h]
  · rw [if_neg (by simp; omega), List.getElem?_set_ne c]
theorem gput_holds {N x : Nat} {cs l : List Int} (hh : GHolds N x cs l) (hc : cs.length = N) (hx : x < N) (hl : l.length ≤ N) (z : Int) : GHolds N (gfwd N x 1) (cs.set x z) (glastN N (l ++ [z])) := by
  have := gin_holds (ys := [z]) hh hc hx hl (by simp; omega) 1 (by simp; omega)
  rw [gset_splice _ _ _ (by omega)]
  simpa [splice] using this
/-- The bytes at the end, d of them, again and again, n in all. -/
def gcyc (l : List Int) (d n : Nat) : List Int := (List.range n).map fun i => l.getD (l.length - d + i % d) 0
theorem gcyc_length (l : List Int) (d n : Nat) : (gcyc l d n).length = n := by simp [gcyc]
theorem gcyc_get (l : List Int) (d n i : Nat) (h : i < n) : (gcyc l d n)[i]? = some (l.getD (l.length - d + i % d) 0) := by simp [gcyc, h]
theorem gcyc_take (l : List Int) (d n k : Nat) (h : k ≤ n) : (gcyc l d n).take k = gcyc l d k := by
  apply List.ext_getElem?
  intro i
  rw [List.getElem?_take]
  by_cases c : i < k
  · rw [if_pos c, gcyc_get _ _ _ _ (by omega), gcyc_get _ _ _ _ c]
  · rw [if_neg c, List.getElem?_eq_none (by rw [gcyc_length]; omega)]
theorem gcyc_first (l : List Int) (d n : Nat) (h1 : 1 ≤ d) (hd : d ≤ l.length) (hn : n ≤ d) : (l.drop (l.length - d)).take n = gcyc l d n := by
  apply List.ext_getElem?
  intro i
  rw [List.getElem?_take, List.getElem?_drop]
  by_cases c : i < n
  · rw [if_pos c, gcyc_get _ _ _ _ c, Nat.mod_eq_of_lt (by omega), List.getElem?_eq_getElem (by omega)]
    simp [List.getElem?_eq_getElem (show l.length - d + i < l.length by omega)]
  · rw [if_neg c, List.getElem?_eq_none (by rw [gcyc_length]; omega)]
theorem gcyc_app (l : List Int) (d k m : Nat) (hk : d ∣ k) (hm : m ≤ k) : gcyc l d k ++ (gcyc l d k).take m = gcyc l d (k + m) := by
  obtain ⟨j, rfl⟩ := hk
  apply List.ext_getElem?
  intro i
  rw [List.getElem?_append, gcyc_length, List.getElem?_take]
  by_cases c : i < d * j
  · rw [if_pos c, gcyc_get _ _ _ _ c, gcyc_get _ _ _ _ (by omega)]
  · rw [if_neg c]
    by_cases c2 : i - d * j < m
    · rw [if_pos c2, gcyc_get _ _ _ _ (by omega), gcyc_get _ _ _ _ (by omega)]
      congr 3
      conv => rhs; rw [show i = (i - d * j) + d * j by omega, Nat.add_mul_mod_self_left]
    · rw [if_neg c2, List.getElem?_eq_none (by rw [gcyc_length]; omega)]
end Go.Proofs.YtikdpnpkmmmacaaDoor

/-
  What New, Len, Size, Clear, move, cell, Put and Back of the ring come to: at a window that is nil, and at one in memory.
  Conditions: none at a nil window; a window in memory has a size from 1 to 32768, its next cell and its count fit the size, and each method keeps that.
-/
namespace Go.Proofs.YtikdpnpkmmmacaaDoor
open Go.RowKit

theorem glen_nil (w : World) : Calls Tryd.prog 94 #[.pointer none] w fun e w' => e = .returned (.int .i64 0) ∧ w = w' := by
  go_enter Tryd.func94, Tryd.ntmps94
  go_wp2
  go_ret
  exact ⟨rfl, rfl⟩
theorem gsize_nil (w : World) : Calls Tryd.prog 89 #[.pointer none] w fun e w' => e = .returned (.int .i64 0) ∧ w = w' := by
  go_enter Tryd.func89, Tryd.ntmps89
  go_wp2
  go_ret
  exact ⟨rfl, rfl⟩
theorem gclear_nil (w : World) : Calls Tryd.prog 38 #[.pointer none] w fun e w' => e = .returned (.tuple #[]) ∧ w = w' := by
  go_enter Tryd.func38, Tryd.ntmps38
  go_wp2
  first | go_end0 | (refine bodyPost_ret (results_none rfl _ _ _) rfl ?_)
  exact ⟨rfl, rfl⟩
theorem gput_nil (x : Int) (w : World) : Calls Tryd.prog 82 #[.pointer none, .int .u8 x] w fun e w' => e = .returned (.tuple #[]) ∧ w = w' := by
  go_enter Tryd.func82, Tryd.ntmps82
  go_wp2_with fail
  refine (gsize_nil _).mono ?_
  rintro e w' ⟨rfl, rfl⟩
  go_wp2_with fail
  first | go_end0 | (refine bodyPost_ret (results_none rfl _ _ _) rfl ?_)
  exact ⟨rfl, rfl⟩
theorem gback_nil (d : Int) (w : World) : Calls Tryd.prog 96 #[.pointer none, .int .i64 d] w fun e w' => e = .returned (.tuple #[.int .u8 0, .bool false]) ∧ w = w' := by
  go_enter Tryd.func96, Tryd.ntmps96
  by_cases h : d < 1
  · go_wp2_with fail
    go_ret2
    exact ⟨rfl, rfl⟩
  · have h0 : (0 : Int) < d := by omega
    go_wp2_with fail
    refine (glen_nil _).mono ?_
    rintro e w' ⟨rfl, rfl⟩
    go_wp2_with fail
    go_ret2
    exact ⟨rfl, rfl⟩
theorem gnew_no (s : Int) (w : World) (h : s < 1 ∨ 32768 < s) : Calls Tryd.prog 30 #[.int .i64 s] w fun e w' => e = .returned (.tuple #[.pointer none, .int .i64 2]) ∧ w = w' := by
  go_enter Tryd.func30, Tryd.ntmps30
  by_cases h1 : s < 1
  · go_wp2
    go_ret2
    exact ⟨rfl, rfl⟩
  · have h2 : 32768 < s := by omega
    go_wp2
    go_ret2
    exact ⟨rfl, rfl⟩

/-- Numbers as bytes in memory. -/
def gvb (l : List Int) : List Value := l.map (Value.int .u8)
theorem gvb_length (l : List Int) : (gvb l).length = l.length := by simp [gvb]
theorem gvb_get (l : List Int) (i : Nat) : (gvb l)[i]? = l[i]?.map (Value.int .u8) := by simp [gvb]
theorem gvb_one {l : List Int} : ∀ v ∈ gvb l, v.oneCell' = true := by
  intro v hv
  simp only [gvb, List.mem_map] at hv
  obtain ⟨x, _, rfl⟩ := hv
  rfl
theorem ginfo5 : (Tryd.prog.info? 5).map (fun i => (i.zero, i.size, i.bytes)) = some (some (.int .u8 0), 1, 1) := by kernel_rfl
theorem ginfo_parts {P : Program} {t : TypeId} {z : Value} {n m : Nat} (h : (P.info? t).map (fun i => (i.zero, i.size, i.bytes)) = some (some z, n, m)) :
    ∃ i, P.info? t = some i ∧ i.zero = some z ∧ i.size = n ∧ i.bytes = m := by
  cases hq : P.info? t with
  | none => simp [hq] at h
  | some i => simp [hq] at h; exact ⟨i, rfl, h.1, h.2.1, h.2.2⟩
theorem gsize5 : (Tryd.prog.info? 5).map (·.size) = some 1 := by kernel_rfl
/-- make of a list of n bytes. -/
theorem gmade (n : Nat) (hn : n ≤ 1048576) (w : World) : (Instr.makeSlice 22 (.int .i64 (n : Int)) (.int .i64 (n : Int))).run Tryd.prog w = .ok (.slice (some ⟨w.heap.size, 0, none⟩) n n) (w.alloc (.cells (gvb (List.replicate n 0)).toArray 5)) := by
  obtain ⟨i, hi, hz, hs, hb⟩ := ginfo_parts ginfo5
  have := run_make (P := Tryd.prog) w 22 5 i _ Tryd.underlying22 hi hz .i64 .i64 n n (by omega) (by omega) (by rw [hb]; omega) (by omega)
  rw [this, hs]
  have e : madeCells (Value.int .u8 0).cells ((n : Int).toNat * 1) = (gvb (List.replicate n 0)).toArray := by
    apply Array.toList_inj.1
    show (madeCells #[Value.int .u8 0] _).toList = _
    rw [toList_madeCells_one]
    simp [gvb]
  rw [e]
  simp

/-- GTwo blocks alone may have turned; none has come. -/
structure GTwo (a b : Nat) (w w' : World) : Prop where
  os : w'.os = w.os
  tape : w'.tape = w.tape
  output : w'.output = w.output
  size : w'.heap.size = w.heap.size
  block : ∀ k, k ≠ a → k ≠ b → w'.heap[k]? = w.heap[k]?
section
variable {a b : Nat} {w u v : World}
theorem GTwo.refl (a b : Nat) (w : World) : GTwo a b w w := ⟨rfl, rfl, rfl, rfl, fun _ _ _ => rfl⟩
theorem GTwo.trans (h : GTwo a b w u) (k : GTwo a b u v) : GTwo a b w v :=
  ⟨k.os.trans h.os, k.tape.trans h.tape, k.output.trans h.output, k.size.trans h.size, fun i h1 h2 => (k.block i h1 h2).trans (h.block i h1 h2)⟩
theorem GTwo.fst (h : Only a w u) : GTwo a b w u := ⟨h.os, h.tape, h.output, h.size, fun i h1 _ => h.block i h1⟩
theorem GTwo.snd (h : Only b w u) : GTwo a b w u := ⟨h.os, h.tape, h.output, h.size, fun i _ h2 => h.block i h2⟩
theorem GTwo.below {B : Nat} (h : GTwo a b w u) (ha : B ≤ a) (hb : B ≤ b) : Below B w u :=
  ⟨h.os, h.tape, h.output, Nat.le_of_eq h.size.symm, fun k hk => h.block k (by omega) (by omega)⟩
theorem GTwo.drewN (h : GTwo a b w u) (n : Nat) : GTwo a b w (u.drewN n) := ⟨h.os, h.tape, h.output, h.size, h.block⟩
theorem GTwo.drew (h : GTwo a b w u) : GTwo a b w u.drew := ⟨h.os, h.tape, h.output, h.size, h.block⟩
end

/-- A window in memory: block H holds it, block K its N cells; x is the next cell, h the count. -/
structure GLo (w : World) (H K N x h : Nat) (cs : List Int) : Prop where
  hd : Cells w H #[.slice (some ⟨K, 0, none⟩) N N, .int .i64 (x : Int), .int .i64 (h : Int)] 99
  row : Cells w K (gvb cs).toArray 5
  len : cs.length = N
  n1 : 1 ≤ N
  n2 : N ≤ 32768
  xlt : x < N
  hle : h ≤ N
  ne : H ≠ K
section
variable {w u : World} {H K N x h : Nat} {cs : List Int}
theorem GLo.drewN (l : GLo w H K N x h cs) (n : Nat) : GLo (w.drewN n) H K N x h cs := ⟨l.hd, l.row, l.len, l.n1, l.n2, l.xlt, l.hle, l.ne⟩
theorem GLo.drew (l : GLo w H K N x h cs) : GLo w.drew H K N x h cs := ⟨l.hd, l.row, l.len, l.n1, l.n2, l.xlt, l.hle, l.ne⟩
theorem GLo.only {c : Nat} (l : GLo w H K N x h cs) (k : Only c w u) (h1 : H ≠ c) (h2 : K ≠ c) : GLo u H K N x h cs := ⟨l.hd.only k h1, l.row.only k h2, l.len, l.n1, l.n2, l.xlt, l.hle, l.ne⟩
theorem GLo.below {B : Nat} (l : GLo w H K N x h cs) (k : Below B w u) (h1 : H < B) (h2 : K < B) : GLo u H K N x h cs := ⟨l.hd.below k h1, l.row.below k h2, l.len, l.n1, l.n2, l.xlt, l.hle, l.ne⟩
theorem GLo.alloc (l : GLo w H K N x h cs) (o : Obj) : GLo (w.alloc o) H K N x h cs := ⟨l.hd.alloc o, l.row.alloc o, l.len, l.n1, l.n2, l.xlt, l.hle, l.ne⟩
theorem GLo.c0 (l : GLo w H K N x h cs) : w.cell? ⟨H, 0, none⟩ = some (.slice (some ⟨K, 0, none⟩) N N) := (l.hd.cell 0).trans rfl
theorem GLo.c1 (l : GLo w H K N x h cs) : w.cell? ⟨H, 1, none⟩ = some (.int .i64 (x : Int)) := (l.hd.cell 1).trans rfl
theorem GLo.c2 (l : GLo w H K N x h cs) : w.cell? ⟨H, 2, none⟩ = some (.int .i64 (h : Int)) := (l.hd.cell 2).trans rfl
theorem GLo.set (l : GLo w H K N x h cs) (x' h' : Nat) (hx : x' < N) (hh : h' ≤ N) : GLo ((w.setCell ⟨H, 1, none⟩ (.int .i64 (x' : Int))).setCell ⟨H, 2, none⟩ (.int .i64 (h' : Int))) H K N x' h' cs := by
  refine ⟨?_, ?_, l.len, l.n1, l.n2, hx, hh, l.ne⟩
  · exact ((l.hd.set 1 _).set 2 _)
  · exact l.row.only (((Only.refl H w).setCell 1 _).setCell 2 _) l.ne.symm
end

theorem gnew_yes (n : Nat) (w : World) (h1 : 1 ≤ n) (h2 : n ≤ 32768) : Calls Tryd.prog 30 #[.int .i64 n] w fun e w' => e = .returned (.tuple #[.pointer (some ⟨w.heap.size + 1, 0, none⟩), .int .i64 0]) ∧
    GLo w' (w.heap.size + 1) w.heap.size n 0 0 (List.replicate n 0) ∧ Below w.heap.size w w' ∧ w'.heap.size = w.heap.size + 2 := by
  have e1 : ¬ (n : Int) < 1 := by omega
  have e2 : ¬ (32768 : Int) < n := by omega
  have hm := gmade n (by omega) w
  generalize hcs : (gvb (List.replicate n 0)).toArray = cs at hm
  go_enter Tryd.func30, Tryd.ntmps30
  go_wp2
  go_ret2
  refine ⟨rfl, ⟨?_, ?_, by simp, h1, h2, h1, Nat.zero_le _, by omega⟩, ?_, ?_⟩
  · have := Cells.new (w.alloc (.cells cs 5)) #[.slice (some ⟨w.heap.size, 0, none⟩) n n, .int .i64 0, .int .i64 0] 99
    simpa using this
  · rw [hcs]
    exact (Cells.new w cs 5).alloc _
  · exact ((Below.refl _ _).alloc (Nat.le_refl _) _).alloc (by simp) _
  · simp
theorem glen_c {H K N x h : Nat} {cs : List Int} (w : World) (l : GLo w H K N x h cs) : Calls Tryd.prog 94 #[.pointer (some ⟨H, 0, none⟩)] w fun e w' => e = .returned (.int .i64 (h : Int)) ∧ w = w' := by
  have h2 := l.c2
  go_enter Tryd.func94, Tryd.ntmps94
  go_wp2
  go_ret
  exact ⟨rfl, rfl⟩
theorem gsize_c {H K N x h : Nat} {cs : List Int} (w : World) (l : GLo w H K N x h cs) : Calls Tryd.prog 89 #[.pointer (some ⟨H, 0, none⟩)] w fun e w' => e = .returned (.int .i64 (N : Int)) ∧ w = w' := by
  have h2 := l.c0
  go_enter Tryd.func89, Tryd.ntmps89
  go_wp2
  go_ret
  exact ⟨rfl, rfl⟩
theorem gclear_c {H K N x h : Nat} {cs : List Int} (w : World) (l : GLo w H K N x h cs) : Calls Tryd.prog 38 #[.pointer (some ⟨H, 0, none⟩)] w fun e w' => e = .returned (.tuple #[]) ∧ GLo w' H K N 0 0 cs ∧ Only H w w' := by
  have h1 := l.c1
  have h2 := l.c2
  have h3 := l.hd.frozen 1
  have h4 := l.hd.frozen 2
  go_enter Tryd.func38, Tryd.ntmps38
  go_wp2
  first | go_end0 | (refine bodyPost_ret (results_none rfl _ _ _) rfl ?_)
  exact ⟨rfl, l.set 0 0 l.n1 (Nat.zero_le _), ((Only.refl _ _).setCell _ _).setCell _ _⟩
theorem gmin_i (h n N : Nat) : (if (N : Int) < (h : Int) + n then (N : Int) else (h : Int) + n) = ((min (h + n) N : Nat) : Int) := by
  split <;> omega
theorem gmove_c {H K N x h : Nat} {cs : List Int} (n : Nat) (w : World) (l : GLo w H K N x h cs) (hn : n ≤ N) : Calls Tryd.prog 90 #[.pointer (some ⟨H, 0, none⟩), .int .i64 (n : Int)] w fun e w' => e = .returned (.tuple #[]) ∧ GLo w' H K N (gfwd N x n) (min (h + n) N) cs ∧ Only H w w' := by
  have h0 := l.c0
  have h1 := l.c1
  have h2 := l.c2
  have h3 := l.hd.frozen 1
  have h4 := l.hd.frozen 2
  have n2 := l.n2
  have xlt := l.xlt
  have hle := l.hle
  have hfl := gfwd_lt xlt hn
  go_enter Tryd.func90, Tryd.ntmps90
  by_cases hf : x + n < N
  · have hf1 : ¬ (N : Int) ≤ (x : Int) + n := by omega
    have hfw : gfwd N x n = x + n := by unfold gfwd; rw [if_pos hf]
    go_wp2_with fail
    go_quiet (fail)
    go_wp2_with fail
    go_region
    go_end0
    rw [gmin_i]
    refine ⟨rfl, ⟨?_, l.row.only ((((Only.refl H w).setCell 1 _).drewN _).setCell 2 _) l.ne.symm, l.len, l.n1, l.n2, hfl, Nat.min_le_right _ _, l.ne⟩, (((Only.refl H w).setCell 1 _).drewN _).setCell 2 _⟩
    rw [hfw]
    exact (((l.hd.set 1 (.int .i64 ((x : Int) + n))).drewN _).set 2 _)
  · have hf1 : (N : Int) ≤ (x : Int) + n := by omega
    have hfw : ((gfwd N x n : Nat) : Int) = (x : Int) + n - N := by unfold gfwd; rw [if_neg hf]; omega
    go_wp2_with fail
    go_quiet (fail)
    go_wp2_with fail
    go_region
    go_wp2_with fail
    go_region
    go_end0
    rw [gmin_i]
    refine ⟨rfl, ⟨?_, l.row.only ((((((Only.refl H w).setCell 1 _).drewN _).setCell 1 _).drewN _).setCell 2 _) l.ne.symm, l.len, l.n1, l.n2, hfl, Nat.min_le_right _ _, l.ne⟩, (((((Only.refl H w).setCell 1 _).drewN _).setCell 1 _).drewN _).setCell 2 _⟩
    rw [hfw]
    exact (((((l.hd.set 1 (.int .i64 ((x : Int) + n))).drewN _).set 1 (.int .i64 ((x : Int) + n - N))).drewN _).set 2 _)
theorem gcell_c {H K N x h : Nat} {cs : List Int} (d : Nat) (w : World) (l : GLo w H K N x h cs) (hd : d ≤ N) : Calls Tryd.prog 97 #[.pointer (some ⟨H, 0, none⟩), .int .i64 (d : Int)] w fun e w' => e = .returned (.int .i64 ((gbck N x d : Nat) : Int)) ∧ w' = w := by
  have h0 := l.c0
  have h1 := l.c1
  have n2 := l.n2
  have xlt := l.xlt
  go_enter Tryd.func97, Tryd.ntmps97
  by_cases hf : d ≤ x
  · have hf1 : ¬ (x : Int) - d < 0 := by omega
    have hb : ((gbck N x d : Nat) : Int) = (x : Int) - d := by unfold gbck; rw [if_pos hf]; omega
    go_wp2_with fail
    go_ret
    exact ⟨by first | rfl | (rw [hb]; rfl), rfl⟩
  · have hf1 : (x : Int) - d < 0 := by omega
    have hb : ((gbck N x d : Nat) : Int) = (x : Int) - d + N := by unfold gbck; rw [if_neg hf]; omega
    go_wp2_with fail
    go_ret
    exact ⟨by first | rfl | (rw [hb]; rfl), rfl⟩
theorem Cells.gbyte {w : World} {b : Nat} {cs : List Int} (h : Cells w b (gvb cs).toArray 5) {i : Nat} {z : Int} (hi : cs[i]? = some z) : w.cell? ⟨b, i, none⟩ = some (.int .u8 z) := by
  rw [h.cell i, List.getElem?_toArray, gvb_get, hi]; rfl
theorem gvb_set (cs : List Int) (i : Nat) (z : Int) : (gvb cs).toArray.setIfInBounds i (.int .u8 z) = (gvb (cs.set i z)).toArray := by
  simp [gvb, List.map_set]
theorem gput_c {H K N x h : Nat} {cs : List Int} (z : Int) (w : World) (l : GLo w H K N x h cs) : Calls Tryd.prog 82 #[.pointer (some ⟨H, 0, none⟩), .int .u8 z] w fun e w' => e = .returned (.tuple #[]) ∧ GLo w' H K N (gfwd N x 1) (min (h + 1) N) (cs.set x z) ∧ GTwo H K w w' := by
  have h0 := l.c0
  have h1 := l.c1
  have n1 := l.n1
  have xlt := l.xlt
  have hx : x < cs.length := by rw [l.len]; exact xlt
  have hxi : (x : Int) < (N : Int) := by omega
  have hr := l.row.gbyte (List.getElem?_eq_getElem hx)
  have hrf := l.row.frozen x
  have hN0 : ((N : Int) == 0) = false := by simp; omega
  go_enter Tryd.func82, Tryd.ntmps82
  go_wp2_with fail
  refine (gsize_c _ l).mono ?_
  rintro e w' ⟨rfl, rfl⟩
  go_wp2_with fail
  go_region
  have ho : Only K w ((w.setCell ⟨K, x, none⟩ (.int .u8 z)).drewN 1) := ((Only.refl K w).setCell x _).drewN 1
  have l2 : GLo ((w.setCell ⟨K, x, none⟩ (.int .u8 z)).drewN 1) H K N x h (cs.set x z) := by
    refine ⟨l.hd.only ho l.ne, ?_, by rw [List.length_set]; exact l.len, l.n1, l.n2, l.xlt, l.hle, l.ne⟩
    have := (l.row.set x (.int .u8 z)).drewN 1
    rwa [gvb_set] at this
  clear h0 h1 hr hrf hN0
  go_wp2_with fail
  refine (gmove_c 1 _ l2 n1).mono ?_
  rintro e w' ⟨rfl, l3, ho3⟩
  go_wp2_with fail
  first | go_end0 | (refine bodyPost_ret (results_none rfl _ _ _) rfl ?_)
  exact ⟨rfl, l3, (GTwo.snd ho).trans (GTwo.fst ho3)⟩
theorem gback_no {H K N x h : Nat} {cs : List Int} (d : Int) (w : World) (l : GLo w H K N x h cs) (hd : d < 1 ∨ (h : Int) < d) : Calls Tryd.prog 96 #[.pointer (some ⟨H, 0, none⟩), .int .i64 d] w fun e w' => e = .returned (.tuple #[.int .u8 0, .bool false]) ∧ w = w' := by
  go_enter Tryd.func96, Tryd.ntmps96
  by_cases h1 : d < 1
  · go_wp2_with fail
    go_ret2
    exact ⟨rfl, rfl⟩
  · have h0 : (h : Int) < d := by omega
    go_wp2_with fail
    refine (glen_c _ l).mono ?_
    rintro e w' ⟨rfl, rfl⟩
    go_wp2_with fail
    go_ret2
    exact ⟨rfl, rfl⟩
theorem gback_yes {H K N x h : Nat} {cs : List Int} (d : Nat) (z : Int) (w : World) (l : GLo w H K N x h cs) (h1 : 1 ≤ d) (h2 : d ≤ h) (hz : cs[gbck N x d]? = some z) :
    Calls Tryd.prog 96 #[.pointer (some ⟨H, 0, none⟩), .int .i64 (d : Int)] w fun e w' => e = .returned (.tuple #[.int .u8 z, .bool true]) ∧ ∃ n, w' = w.drewN n := by
  have hle := l.hle
  have hd : d ≤ N := Nat.le_trans h2 hle
  have e1 : ¬ (d : Int) < 1 := by omega
  have e2 : ¬ (h : Int) < (d : Int) := by omega
  have hb := gbck_lt l.xlt h1 hd
  have hr := l.row.gbyte hz
  have hc := fun w' (l' : GLo w' H K N x h cs) => gcell_c d w' l' hd
  clear hz
  generalize gbck N x d = p at *
  have hpi : (p : Int) < (N : Int) := by omega
  have h0 := l.c0
  go_enter Tryd.func96, Tryd.ntmps96
  go_wp2_with fail
  refine (glen_c _ l).mono ?_
  rintro e w' ⟨rfl, rfl⟩
  go_wp2_with fail
  go_quiet ((first | (go_at_call 97; refine Calls.quiet_of_same (hc _ ?_); first | exact l.drewN _ | exact l | exact l.drew)))
  go_wp2_with fail
  go_ret2
  exact ⟨rfl, _, rfl⟩
end Go.Proofs.YtikdpnpkmmmacaaDoor

/-
  What Put, Back, Clear, Len, Size and Tail of the ring come to, at a window in memory that holds a list of bytes; and Same of two lists that are one.
  Conditions: the window has a size from 1 to 32768, and the list is not longer; each method keeps that.
-/
namespace Go.Proofs.YtikdpnpkmmmacaaDoor
open Go.RowKit
set_option linter.unusedVariables false

/-- Block H holds a window of N cells, which lie in block K; l is what is in it. -/
structure GRg (w : World) (H K N : Nat) (l : List Int) : Prop where
  ex : ∃ x cs, GLo w H K N x l.length cs ∧ GHolds N x cs l
section
variable {w u : World} {H K N : Nat} {l : List Int}
theorem GRg.drewN (r : GRg w H K N l) (n : Nat) : GRg (w.drewN n) H K N l := by obtain ⟨x, cs, lo, hh⟩ := r.ex; exact ⟨x, cs, lo.drewN n, hh⟩
theorem GRg.drew (r : GRg w H K N l) : GRg w.drew H K N l := by obtain ⟨x, cs, lo, hh⟩ := r.ex; exact ⟨x, cs, lo.drew, hh⟩
theorem GRg.only {c : Nat} (r : GRg w H K N l) (k : Only c w u) (h1 : H ≠ c) (h2 : K ≠ c) : GRg u H K N l := by obtain ⟨x, cs, lo, hh⟩ := r.ex; exact ⟨x, cs, lo.only k h1 h2, hh⟩
theorem GRg.below {B : Nat} (r : GRg w H K N l) (k : Below B w u) (h1 : H < B) (h2 : K < B) : GRg u H K N l := by obtain ⟨x, cs, lo, hh⟩ := r.ex; exact ⟨x, cs, lo.below k h1 h2, hh⟩
theorem GRg.alloc (r : GRg w H K N l) (o : Obj) : GRg (w.alloc o) H K N l := by obtain ⟨x, cs, lo, hh⟩ := r.ex; exact ⟨x, cs, lo.alloc o, hh⟩
theorem GRg.two {a b : Nat} (r : GRg w H K N l) (k : GTwo a b w u) (h1 : H ≠ a) (h2 : K ≠ a) (h3 : H ≠ b) (h4 : K ≠ b) : GRg u H K N l := by
  obtain ⟨x, cs, lo, hh⟩ := r.ex
  refine ⟨x, cs, ⟨?_, ?_, lo.len, lo.n1, lo.n2, lo.xlt, lo.hle, lo.ne⟩, hh⟩
  · have := lo.hd; unfold Cells at *; rw [k.block H h1 h3]; exact this
  · have := lo.row; unfold Cells at *; rw [k.block K h2 h4]; exact this
theorem GRg.lt (r : GRg w H K N l) : H < w.heap.size ∧ K < w.heap.size := by obtain ⟨x, cs, lo, hh⟩ := r.ex; exact ⟨lo.hd.lt, lo.row.lt⟩
theorem GRg.le (r : GRg w H K N l) : l.length ≤ N ∧ N ≤ 32768 ∧ 1 ≤ N := by obtain ⟨x, cs, lo, hh⟩ := r.ex; exact ⟨lo.hle, lo.n2, lo.n1⟩
end
theorem gnew_r (n : Nat) (w : World) (h1 : 1 ≤ n) (h2 : n ≤ 32768) : Calls Tryd.prog 30 #[.int .i64 n] w fun e w' => e = .returned (.tuple #[.pointer (some ⟨w.heap.size + 1, 0, none⟩), .int .i64 0]) ∧
    GRg w' (w.heap.size + 1) w.heap.size n [] ∧ Below w.heap.size w w' ∧ w'.heap.size = w.heap.size + 2 :=
  (gnew_yes n w h1 h2).mono fun _ _ h => ⟨h.1, ⟨0, _, h.2.1, gholds_nil _ _ _⟩, h.2.2⟩
section
variable {H K N : Nat} {l : List Int}
theorem glen_r (w : World) (r : GRg w H K N l) : Calls Tryd.prog 94 #[.pointer (some ⟨H, 0, none⟩)] w fun e w' => e = .returned (.int .i64 (l.length : Int)) ∧ w = w' := by
  obtain ⟨x, cs, lo, hh⟩ := r.ex; exact glen_c w lo
theorem gsize_r (w : World) (r : GRg w H K N l) : Calls Tryd.prog 89 #[.pointer (some ⟨H, 0, none⟩)] w fun e w' => e = .returned (.int .i64 (N : Int)) ∧ w = w' := by
  obtain ⟨x, cs, lo, hh⟩ := r.ex; exact gsize_c w lo
theorem gclear_r (w : World) (r : GRg w H K N l) : Calls Tryd.prog 38 #[.pointer (some ⟨H, 0, none⟩)] w fun e w' => e = .returned (.tuple #[]) ∧ GRg w' H K N [] ∧ Only H w w' := by
  obtain ⟨x, cs, lo, hh⟩ := r.ex
  exact (gclear_c w lo).mono fun _ _ h => ⟨h.1, ⟨0, cs, h.2.1, gholds_nil _ _ _⟩, h.2.2⟩
theorem gput_r (z : Int) (w : World) (r : GRg w H K N l) : Calls Tryd.prog 82 #[.pointer (some ⟨H, 0, none⟩), .int .u8 z] w fun e w' => e = .returned (.tuple #[]) ∧ GRg w' H K N (glastN N (l ++ [z])) ∧ GTwo H K w w' := by
  obtain ⟨x, cs, lo, hh⟩ := r.ex
  refine (gput_c z w lo).mono fun _ _ h => ⟨h.1, ⟨_, _, ?_, gput_holds hh lo.len lo.xlt lo.hle z⟩, h.2.2⟩
  rw [glastN_length, List.length_append, List.length_singleton]
  exact h.2.1
theorem gback_r_no (d : Int) (w : World) (r : GRg w H K N l) (hd : d < 1 ∨ (l.length : Int) < d) : Calls Tryd.prog 96 #[.pointer (some ⟨H, 0, none⟩), .int .i64 d] w fun e w' => e = .returned (.tuple #[.int .u8 0, .bool false]) ∧ w = w' := by
  obtain ⟨x, cs, lo, hh⟩ := r.ex; exact gback_no d w lo hd
theorem gback_r (d : Nat) (z : Int) (w : World) (r : GRg w H K N l) (h1 : 1 ≤ d) (h2 : d ≤ l.length) (hz : l[l.length - d]? = some z) :
    Calls Tryd.prog 96 #[.pointer (some ⟨H, 0, none⟩), .int .i64 (d : Int)] w fun e w' => e = .returned (.tuple #[.int .u8 z, .bool true]) ∧ ∃ n, w' = w.drewN n := by
  obtain ⟨x, cs, lo, hh⟩ := r.ex
  exact gback_yes d z w lo h1 h2 ((hh d h1 h2).trans hz)
end

end Go.Proofs.YtikdpnpkmmmacaaDoor

/-
  What deflated bytes give, as a machine of small steps over their bits: each step is done as soon as its last bit is there. No walk in this text.
-/
namespace Go.Proofs.YtikdpnpkmmmacaaDoor
set_option linter.unusedVariables false
/-- All bits of some bytes. -/
def allb (B : List Nat) : List Bool := B.flatMap (bitsOf 8)
/-- A number of n bits from place p on, if they are there. -/
def num? (bs : List Bool) (p n : Nat) : Option Nat := if p + n ≤ bs.length then some (nm ((bs.drop p).take n)) else none
/-- What reading a symbol comes to. -/
inductive SR where
  | got (s n : Nat)
  | bad (j : Nat)
  | cut
def hitb (ls : List Nat) (h : List Bool) (s : Nat) : Bool := match ls[s]? with
  | some n => decide (0 < n ∧ n ≤ h.length ∧ num (h.take n) = code ls s n)
  | none => false
def mayb (ls : List Nat) (h : List Bool) : Bool := (List.range ls.length).any fun s => match ls[s]? with
  | some n => decide (0 < n ∧ h.length ≤ n ∧ code ls s n / 2 ^ (n - h.length) = num h)
  | none => false
def sread (ls : List Nat) (h : List Bool) : SR := match (List.range ls.length).find? (hitb ls h) with
  | some s => .got s (ls.getD s 0)
  | none => match (List.range (h.length + 1)).find? (fun j => !mayb ls (h.take j)) with
    | some j => .bad j
    | none => .cut
theorem hitb_iff {ls : List Nat} {h : List Bool} {s : Nat} : hitb ls h s = true ↔ ∃ n, Hit ls h s n := by
  unfold hitb Hit
  cases e : ls[s]? with
  | none => simp
  | some n => simp
theorem mayb_iff {ls : List Nat} {h : List Bool} : mayb ls h = true ↔ May ls h := by
  unfold mayb May
  rw [List.any_eq_true]
  constructor
  · rintro ⟨s, _, hs⟩
    cases e : ls[s]? with
    | none => rw [e] at hs; cases hs
    | some n => rw [e] at hs; have := of_decide_eq_true hs; exact ⟨s, n, e, this.1, this.2.1, this.2.2⟩
  · rintro ⟨s, n, h1, h2, h3, h4⟩
    exact ⟨s, List.mem_range.2 (List.getElem?_eq_some_iff.1 h1).1, by rw [h1]; exact decide_eq_true ⟨h2, h3, h4⟩⟩
theorem sread_got {ls : List Nat} {h : List Bool} {s n : Nat} (hh : Hit ls h s n) : sread ls h = .got s n := by
  have hs := (List.getElem?_eq_some_iff.1 hh.1).1
  unfold sread
  cases e : (List.range ls.length).find? (hitb ls h) with
  | none =>
    have := List.find?_eq_none.1 e s (List.mem_range.2 hs)
    exact absurd (hitb_iff.2 ⟨n, hh⟩) this
  | some s' =>
    obtain ⟨n', h'⟩ := hitb_iff.1 (List.find?_some e)
    obtain ⟨rfl, rfl⟩ := hit_one h' hh
    simp only []
    rw [List.getD_eq_getElem?_getD, hh.1]; rfl
theorem find_range {p : Nat → Bool} {n j : Nat} (hj : j < n) (h1 : p j = true) (h2 : ∀ k, k < j → p k = false) : (List.range n).find? p = some j := by
  rw [List.find?_eq_some_iff_append]
  refine ⟨h1, List.range j, (List.range (n - (j + 1))).map (fun x => j + 1 + x), ?_, fun a ha => by rw [h2 a (List.mem_range.1 ha)]; rfl⟩
  have e : n = j + 1 + (n - (j + 1)) := by omega
  rw [e, List.range_add, List.range_succ]
  simp
theorem may_less {ls : List Nat} {h : List Bool} {k : Nat} (hm : May ls h) (hk : k ≤ h.length) : May ls (h.take k) := by
  obtain ⟨s, n, h1, h2, h3, h4⟩ := hm
  have hl : (h.take k).length = k := by rw [List.length_take]; omega
  refine ⟨s, n, h1, h2, by omega, ?_⟩
  have e := take_num (h := h) hk (Nat.le_refl _)
  rw [List.take_length] at e
  rw [hl, e, ← h4, Nat.div_div_eq_div_mul, ← Nat.pow_add, show n - h.length + (h.length - k) = n - k by omega]
theorem hit_may {ls : List Nat} {h : List Bool} {s n k : Nat} (hh : Hit ls h s n) (hk : k ≤ n) : May ls (h.take k) := by
  obtain ⟨h1, h2, h3, h4⟩ := hh
  have hl : (h.take k).length = k := by rw [List.length_take]; omega
  refine ⟨s, n, h1, h2, by omega, ?_⟩
  rw [hl, ← h4]
  exact (take_num hk h3).symm
theorem hit_take {ls : List Nat} {h : List Bool} {s n j : Nat} (hh : Hit ls h s n) (hj : n ≤ j) : Hit ls (h.take j) s n := by
  obtain ⟨h1, h2, h3, h4⟩ := hh
  exact ⟨h1, h2, by rw [List.length_take]; omega, by rw [List.take_take, Nat.min_eq_left hj]; exact h4⟩
theorem hit_of_take {ls : List Nat} {h : List Bool} {s n j : Nat} (hh : Hit ls (h.take j) s n) : Hit ls h s n := by
  obtain ⟨h1, h2, h3, h4⟩ := hh
  rw [List.length_take] at h3
  exact ⟨h1, h2, by omega, by rw [List.take_take, Nat.min_eq_left (by omega)] at h4; exact h4⟩
theorem sread_no {ls : List Nat} {h : List Bool} (hn : ∀ s n, ¬ Hit ls h s n) : (List.range ls.length).find? (hitb ls h) = none := by
  rw [List.find?_eq_none]
  intro s _ hs
  obtain ⟨n, hh⟩ := hitb_iff.1 hs
  exact hn s n hh
theorem sread_bad {ls : List Nat} {h : List Bool} {j : Nat} (hj : j ≤ h.length) (h1 : ∀ s n, ¬ Hit ls (h.take j) s n) (h2 : ¬ May ls (h.take j)) (h3 : ∀ k, k < j → May ls (h.take k)) : sread ls h = .bad j := by
  have hn : ∀ s n, ¬ Hit ls h s n := by
    intro s n hh
    rcases Nat.lt_or_ge j n with hlt | hge
    · exact h2 (hit_may hh (by omega))
    · exact h1 s n (hit_take hh hge)
  unfold sread
  rw [sread_no hn]
  have : (List.range (h.length + 1)).find? (fun j => !mayb ls (h.take j)) = some j := find_range (by omega) (by
    cases e : mayb ls (h.take j)
    · rfl
    · exact absurd (mayb_iff.1 e) h2) (fun k hk => by rw [mayb_iff.2 (h3 k hk)]; rfl)
  simp only [this]
theorem sread_cut {ls : List Nat} {h : List Bool} (h1 : ∀ s n, ¬ Hit ls h s n) (h2 : May ls h) : sread ls h = .cut := by
  unfold sread
  rw [sread_no h1]
  have : (List.range (h.length + 1)).find? (fun j => !mayb ls (h.take j)) = none := by
    rw [List.find?_eq_none]
    intro j hj
    rw [mayb_iff.2 (may_less h2 (by have := List.mem_range.1 hj; omega))]
    simp
  simp only [this]
/-- A length symbol's least length, and how many bits stand behind it. -/
def lbase (s : Nat) : Nat := if s = 285 then 258 else (List.range (s - 257)).foldl (fun a i => a + 2 ^ (if 265 ≤ i + 257 then (i + 257 - 261) / 4 else 0)) 3
def lmore (s : Nat) : Nat := if s = 285 then 0 else if 265 ≤ s then (s - 261) / 4 else 0
def dbase (x : Nat) : Nat := (List.range x).foldl (fun a i => a + 2 ^ (if 4 ≤ i then (i - 2) / 2 else 0)) 1
def dmore (x : Nat) : Nat := if 4 ≤ x then (x - 2) / 2 else 0
def fixL : List Nat := (List.range 288).map fun i => if 256 ≤ i ∧ i < 280 then 7 else if 144 ≤ i ∧ i < 256 then 9 else 8
def fixD : List Nat := List.replicate 32 5
def ordr : List Nat := [16, 17, 18, 0, 8, 7, 9, 6, 10, 5, 11, 4, 12, 3, 13, 2, 14, 1, 15]
/-- What comes next. -/
inductive St where
  | head (last : Bool)
  | slen (last : Bool)
  | snot (last : Bool) (l : Nat)
  | sraw (last : Bool) (n : Nat)
  | dnum (last : Bool)
  | dfst (last : Bool) (a b c i : Nat) (first : List Nat)
  | dsym (last : Bool) (a b : Nat) (code l : List Nat)
  | drep (last : Bool) (a b : Nat) (code l : List Nat) (s : Nat)
  | sym (last : Bool) (lit dist : List Nat)
  | lext (last : Bool) (lit dist : List Nat) (s : Nat)
  | dist (last : Bool) (lit dist : List Nat) (n : Nat)
  | dext (last : Bool) (lit dist : List Nat) (n x : Nat)
  | copy (last : Bool) (lit dist : List Nat) (n d : Nat)
  | done
  | bad (why : Nat)
structure Cfg where
  st : St
  pos : Nat
  out : List Nat
  times : List Nat
/-- A byte is known, with the bits up to p; most: how many may be. -/
def give (most : Nat) (k : St) (b p : Nat) (c : Cfg) : Cfg := if c.out.length < most then ⟨k, p, c.out ++ [b], c.times ++ [(p - 1) / 8]⟩ else ⟨.bad 62, p, c.out, c.times⟩
/-- May lengths be those of codes? -/
def mays (ls : List Nat) : Bool := decide (ls.length ≤ 320 ∧ (∀ l ∈ ls, l ≤ 15) ∧ kr ls ≤ 32768 ∧ ¬ Under ls)
/-- One step; none: more bits are wanted, or it is over. -/
def step (bs : List Bool) (most : Nat) (c : Cfg) : Option Cfg := match c.st with
  | .head true => some ⟨.done, c.pos, c.out, c.times⟩
  | .head false => (num? bs c.pos 3).map fun v => ⟨match v / 2 with
      | 0 => .slen (v % 2 == 1)
      | 1 => .sym (v % 2 == 1) fixL fixD
      | 2 => .dnum (v % 2 == 1)
      | _ => .bad 10, c.pos + 3, c.out, c.times⟩
  | .slen last => (num? bs ((c.pos + 7) / 8 * 8) 16).map fun v => ⟨.snot last v, (c.pos + 7) / 8 * 8 + 16, c.out, c.times⟩
  | .snot last l => (num? bs c.pos 16).map fun m => ⟨if l + m = 65535 then .sraw last l else .bad 11, c.pos + 16, c.out, c.times⟩
  | .sraw last 0 => some ⟨.head last, c.pos, c.out, c.times⟩
  | .sraw last (n + 1) => (num? bs c.pos 8).map fun v => give most (.sraw last n) v (c.pos + 8) c
  | .dnum last => (num? bs c.pos 14).map fun v => ⟨if 286 < 257 + v % 32 ∨ 30 < 1 + v / 32 % 32 then .bad 12 else .dfst last (257 + v % 32) (1 + v / 32 % 32) (4 + v / 1024) 0 (List.replicate 19 0), c.pos + 14, c.out, c.times⟩
  | .dfst last a b k i first => if i < k then (num? bs c.pos 3).map fun v => ⟨.dfst last a b k (i + 1) (first.set (ordr.getD i 0) v), c.pos + 3, c.out, c.times⟩
      else some ⟨if kr first = 32768 then .dsym last a b first [] else .bad 12, c.pos, c.out, c.times⟩
  | .dsym last a b code l => if l.length < a + b then match sread code (bs.drop c.pos) with
        | .cut => none
        | .bad j => some ⟨.bad 13, c.pos + j, c.out, c.times⟩
        | .got s n => some ⟨if s < 16 then .dsym last a b code (l ++ [s]) else if s = 16 ∧ l = [] then .bad 12 else .drep last a b code l s, c.pos + n, c.out, c.times⟩
      else some ⟨if l.getD 256 0 = 0 ∨ mays (l.take a) = false ∨ mays (l.drop a) = false then .bad 12 else .sym last (l.take a) (l.drop a), c.pos, c.out, c.times⟩
  | .drep last a b code l s => (num? bs c.pos (if s = 16 then 2 else if s = 17 then 3 else 7)).map fun v =>
      ⟨if a + b < l.length + ((if s = 18 then 11 else 3) + v) then .bad 12 else .dsym last a b code (l ++ List.replicate ((if s = 18 then 11 else 3) + v) (if s = 16 then l.getD (l.length - 1) 0 else 0)), c.pos + (if s = 16 then 2 else if s = 17 then 3 else 7), c.out, c.times⟩
  | .sym last lit di => match sread lit (bs.drop c.pos) with
      | .cut => none
      | .bad j => some ⟨.bad 13, c.pos + j, c.out, c.times⟩
      | .got s n => if s < 256 then some (give most (.sym last lit di) s (c.pos + n) c)
          else some ⟨if s = 256 then .head last else if 285 < s then .bad 13 else .lext last lit di s, c.pos + n, c.out, c.times⟩
  | .lext last lit di s => (num? bs c.pos (lmore s)).map fun v => ⟨.dist last lit di (lbase s + v), c.pos + lmore s, c.out, c.times⟩
  | .dist last lit di n => match sread di (bs.drop c.pos) with
      | .cut => none
      | .bad j => some ⟨.bad 13, c.pos + j, c.out, c.times⟩
      | .got x k => some ⟨if 29 < x then .bad 13 else .dext last lit di n x, c.pos + k, c.out, c.times⟩
  | .dext last lit di n x => (num? bs c.pos (dmore x)).map fun v => ⟨if c.out.length < dbase x + v then .bad 14 else .copy last lit di n (dbase x + v), c.pos + dmore x, c.out, c.times⟩
  | .copy last lit di 0 d => some ⟨.sym last lit di, c.pos, c.out, c.times⟩
  | .copy last lit di (n + 1) d => some (give most (.copy last lit di n d) (c.out.getD (c.out.length - d) 0) c.pos c)
  | .done => none
  | .bad _ => none
/-- Some steps. -/
inductive Runs (bs : List Bool) (most : Nat) : Cfg → Cfg → Prop where
  | refl (c : Cfg) : Runs bs most c c
  | cons {c d e : Cfg} (h : step bs most c = some d) (r : Runs bs most d e) : Runs bs most c e
theorem Runs.trans {bs : List Bool} {most : Nat} {c d e : Cfg} (h : Runs bs most c d) (k : Runs bs most d e) : Runs bs most c e := by
  induction h with
  | refl => exact k
  | cons h1 _ ih => exact .cons h1 (ih k)
theorem Runs.one {bs : List Bool} {most : Nat} {c d : Cfg} (h : step bs most c = some d) : Runs bs most c d := .cons h (.refl d)
/-- There is one end. -/
theorem Runs.det {bs : List Bool} {most : Nat} {c d e : Cfg} (h : Runs bs most c d) (k : Runs bs most c e) (hd : step bs most d = none) (he : step bs most e = none) : d = e := by
  induction h with
  | refl =>
    cases k with
    | refl => rfl
    | cons h1 _ => rw [hd] at h1; cases h1
  | cons h1 _ ih =>
    cases k with
    | refl => rw [he] at h1; cases h1
    | cons h2 k2 =>
      rw [h1] at h2; cases h2
      exact ih k2 hd
end Go.Proofs.YtikdpnpkmmmacaaDoor

/-
  The inflater in memory: 355 cells by a function of their place, its reader, its window; what may turn while it works.
-/
namespace Go.Proofs.YtikdpnpkmmmacaaDoor
open Go.RowKit
set_option linter.unusedVariables false
/-- 355 cells by a function. -/
def cz (f : Nat → Value) : Array Value := ((List.range 355).map f).toArray
def upd (f : Nat → Value) (i : Nat) (v : Value) : Nat → Value := fun j => if j = i then v else f j
theorem upd_same (f : Nat → Value) (i : Nat) (v : Value) : upd f i v i = v := by simp [upd]
theorem upd_ne (f : Nat → Value) {i j : Nat} (v : Value) (h : j ≠ i) : upd f i v j = f j := by simp [upd, h]
theorem cz_size (f : Nat → Value) : (cz f).size = 355 := by simp [cz]
theorem cz_at (f : Nat → Value) {i : Nat} (h : i < 355) : (cz f)[i]? = some (f i) := by simp [cz, h]
theorem cz_congr {f g : Nat → Value} (h : ∀ i, i < 355 → f i = g i) : cz f = cz g := by
  unfold cz
  rw [List.map_congr_left (fun i hi => h i (List.mem_range.1 hi))]
theorem cz_set (f : Nat → Value) (i : Nat) (v : Value) : (cz f).setIfInBounds i v = cz (upd f i v) := by
  apply Array.ext
  · simp [cz]
  · intro j h1 h2
    have hj : j < 355 := by simpa [cz] using h2
    simp only [cz, List.setIfInBounds_toArray, List.getElem_toArray, List.getElem_set, List.getElem_map, List.getElem_range, upd]
    by_cases e : i = j
    · simp [e]
    · simp [e, Ne.symm e]
/-- What may have turned while the inflater worked: its own four blocks, from B on; memory may have come. -/
structure Fm (B : Nat) (w w' : World) : Prop where
  os : w'.os = w.os
  tape : w'.tape = w.tape
  output : w'.output = w.output
  size : w.heap.size ≤ w'.heap.size
  block : ∀ k, k < w.heap.size → (k < B ∨ B + 4 ≤ k) → w'.heap[k]? = w.heap[k]?
section
variable {B : Nat} {w u v : World}
theorem Fm.refl (B : Nat) (w : World) : Fm B w w := ⟨rfl, rfl, rfl, Nat.le_refl _, fun _ _ _ => rfl⟩
theorem Fm.trans (h : Fm B w u) (k : Fm B u v) : Fm B w v := ⟨k.os.trans h.os, k.tape.trans h.tape, k.output.trans h.output, Nat.le_trans h.size k.size, fun i hi hk => (k.block i (Nat.lt_of_lt_of_le hi h.size) hk).trans (h.block i hi hk)⟩
theorem Fm.drewN (h : Fm B w u) (n : Nat) : Fm B w (u.drewN n) := ⟨h.os, h.tape, h.output, h.size, h.block⟩
theorem Fm.drew (h : Fm B w u) : Fm B w u.drew := ⟨h.os, h.tape, h.output, h.size, h.block⟩
theorem Fm.of_only {c : Nat} (h : Only c w u) (h1 : B ≤ c) (h2 : c < B + 4) : Fm B w u := ⟨h.os, h.tape, h.output, Nat.le_of_eq h.size.symm, fun k _ hk => h.block k (by omega)⟩
theorem Fm.of_but {c : Nat} (h : But c w u) (h1 : B ≤ c) (h2 : c < B + 4) : Fm B w u := ⟨h.os, h.tape, h.output, h.size, fun k hk hh => h.block k hk (by omega)⟩
theorem Fm.of_two {c d : Nat} (h : GTwo c d w u) (h1 : B ≤ c) (h2 : c < B + 4) (h3 : B ≤ d) (h4 : d < B + 4) : Fm B w u := ⟨h.os, h.tape, h.output, Nat.le_of_eq h.size.symm, fun k _ hk => h.block k (by omega) (by omega)⟩
theorem Fm.of_below {C : Nat} (h : Below C w u) (hC : w.heap.size ≤ C) : Fm B w u := ⟨h.os, h.tape, h.output, h.size, fun k hk _ => h.block k (by omega)⟩
theorem Fm.below (h : Fm B w u) (hB : B ≤ w.heap.size) : Below B w u := ⟨h.os, h.tape, h.output, h.size, fun k hk => h.block k (by omega) (Or.inl hk)⟩
end
/-- The inflater in memory: D itself, b its reader, R its window, whose cells lie in block B; h what bits are held, l what the window has. -/
structure Bs (w : World) (B D b R : Nat) (f : Nat → Value) (h : List Bool) (l : List Int) : Prop where
  fr : Cells w D (cz f) 73
  c0 : f 0 = .pointer (some ⟨b, 0, none⟩)
  c1 : f 1 = .pointer (some ⟨R, 0, none⟩)
  br : Br w b (nm h) h.length
  rg : GRg w R B 32768 l
  eD : D = B + 3
  eb : b = B + 2
  eR : R = B + 1
section
variable {w u : World} {B D b R : Nat} {f : Nat → Value} {h : List Bool} {l : List Int}
theorem Bs.cell (s : Bs w B D b R f h l) {i : Nat} (hi : i < 355) : w.cell? ⟨D, i, none⟩ = some (f i) := (s.fr.cell i).trans (cz_at f hi)
theorem Bs.fz (s : Bs w B D b R f h l) (i : Nat) : w.frozen? ⟨D, i, none⟩ = false := s.fr.frozen i
theorem Bs.drewN (s : Bs w B D b R f h l) (n : Nat) : Bs (w.drewN n) B D b R f h l := ⟨s.fr, s.c0, s.c1, s.br.drewN n, s.rg.drewN n, s.eD, s.eb, s.eR⟩
theorem Bs.drew (s : Bs w B D b R f h l) : Bs w.drew B D b R f h l := ⟨s.fr, s.c0, s.c1, s.br.drew, s.rg.drew, s.eD, s.eb, s.eR⟩
theorem Bs.lt (s : Bs w B D b R f h l) : B + 4 ≤ w.heap.size := by have := s.fr.lt; have := s.eD; omega
theorem Bs.onD (s : Bs w B D b R f h l) (k : Only D w u) {f' : Nat → Value} (hf : Cells u D (cz f') 73) (h0 : f' 0 = f 0) (h1 : f' 1 = f 1) : Bs u B D b R f' h l :=
  ⟨hf, h0.trans s.c0, h1.trans s.c1, s.br.only k (by have := s.eD; have := s.eb; omega), s.rg.only k (by have := s.eD; have := s.eR; omega) (by have := s.eD; omega), s.eD, s.eb, s.eR⟩
theorem Bs.set (s : Bs w B D b R f h l) (i : Nat) (v : Value) (hi : 2 ≤ i) : Bs (w.setCell ⟨D, i, none⟩ v) B D b R (upd f i v) h l :=
  s.onD ((Only.refl D w).setCell i v) (by have := s.fr.set i v; rwa [cz_set] at this) (upd_ne f v (by omega)) (upd_ne f v (by omega))
theorem Bs.onb (s : Bs w B D b R f h l) (k : Only b w u) {h' : List Bool} (hb : Br u b (nm h') h'.length) : Bs u B D b R f h' l :=
  ⟨s.fr.only k (by have := s.eD; have := s.eb; omega), s.c0, s.c1, hb, s.rg.only k (by have := s.eb; have := s.eR; omega) (by have := s.eb; omega), s.eD, s.eb, s.eR⟩
theorem Cells.but {w u : World} {c k : Nat} {cs : Array Value} {t : TypeId} (h : Cells w c cs t) (q : But k w u) (hc : c ≠ k) : Cells u c cs t := by
  have := h.lt
  unfold Cells at *
  rw [q.block c this hc]; exact h
theorem Bs.onbut (s : Bs w B D b R f h l) (k : But b w u) {h' : List Bool} (hb : Br u b (nm h') h'.length) : Bs u B D b R f h' l := by
  refine ⟨s.fr.but k (by have := s.eD; have := s.eb; omega), s.c0, s.c1, hb, ?_, s.eD, s.eb, s.eR⟩
  obtain ⟨x, cs, lo, hh⟩ := s.rg.ex
  exact ⟨x, cs, ⟨lo.hd.but k (by have := s.eb; have := s.eR; omega), lo.row.but k (by have := s.eb; omega), lo.len, lo.n1, lo.n2, lo.xlt, lo.hle, lo.ne⟩, hh⟩
theorem Bs.below (s : Bs w B D b R f h l) {C : Nat} (k : Below C w u) (hC : w.heap.size ≤ C) : Bs u B D b R f h l := by
  have := s.lt
  exact ⟨s.fr.below k (by have := s.eD; omega), s.c0, s.c1, s.br.below k (by have := s.eb; omega), s.rg.below k (by have := s.eR; omega) (by omega), s.eD, s.eb, s.eR⟩
theorem Bs.onR (s : Bs w B D b R f h l) (k : GTwo R B w u) {l' : List Int} (hr : GRg u R B 32768 l') : Bs u B D b R f h l' := by
  have e1 := s.eD; have e2 := s.eb; have e3 := s.eR
  refine ⟨?_, s.c0, s.c1, ⟨?_, s.br.lt, s.br.le⟩, hr, s.eD, s.eb, s.eR⟩
  · have := s.fr; unfold Cells at *; rw [k.block D (by omega) (by omega)]; exact this
  · obtain ⟨t, ht⟩ := s.br.rd
    exact ⟨t, by unfold Cells at *; rw [k.block b (by omega) (by omega)]; exact ht⟩
end
/-- A table that the inflater made. -/
def Tbl (w : World) (B : Nat) (v : Value) (ls : List Nat) : Prop := ∃ lo hi T, v = .pointer (some ⟨T, 0, none⟩) ∧ B + 4 ≤ lo ∧ hi ≤ w.heap.size ∧ PT w lo hi T ls ∧ ls.length ≤ 320
theorem Tbl.fm {w u : World} {B : Nat} {v : Value} {ls : List Nat} (h : Tbl w B v ls) (k : Fm B w u) : Tbl u B v ls := by
  obtain ⟨lo, hi, T, h1, h2, h3, h4, h5⟩ := h
  exact ⟨lo, hi, T, h1, h2, Nat.le_trans h3 k.size, h4.keep fun j hj1 hj2 => k.block j (by omega) (Or.inr (by omega)), h5⟩
/-- What the window has behind one byte more. -/
def wput (l : List Int) (z : Int) : List Int := glastN 32768 (l ++ [z])
/-- A step, as a value. -/
def fnv (D k : Nat) : Value := .func (.func k) #[.pointer (some ⟨D, 0, none⟩)] #[]
section
variable {w : World} {B D b R : Nat} {f : Nat → Value} {h : List Bool} {l : List Int}
theorem pthen_c (k : Nat) (w : World) (s : Bs w B D b R f h l) : Calls Tryd.prog 52 #[.pointer (some ⟨D, 0, none⟩), .func (.func k) #[.pointer (some ⟨D, 0, none⟩)] #[]] w fun e w' => e = .returned (.bool true) ∧ Bs w' B D b R (upd f 2 (fnv D k)) h l ∧ Fm B w w' := by
  have c2 := s.cell (show 2 < 355 by decide)
  have z2 := s.fz 2
  go_enter Tryd.func52, Tryd.ntmps52
  go_wp2_with fail
  go_ret
  exact ⟨rfl, s.set 2 _ (by decide), Fm.of_only ((Only.refl D w).setCell 2 _) (by have := s.eD; omega) (by have := s.eD; omega)⟩
theorem pstop_c (y : Int) (w : World) (s : Bs w B D b R f h l) : Calls Tryd.prog 36 #[.pointer (some ⟨D, 0, none⟩), .int .i64 y] w fun e w' => e = .returned (.bool false) ∧ Bs w' B D b R (upd f 354 (.int .i64 y)) h l ∧ Fm B w w' := by
  have c2 := s.cell (show 354 < 355 by decide)
  have z2 := s.fz 354
  go_enter Tryd.func36, Tryd.ntmps36
  go_wp2_with fail
  go_ret
  exact ⟨rfl, s.set 354 _ (by decide), Fm.of_only ((Only.refl D w).setCell 354 _) (by have := s.eD; omega) (by have := s.eD; omega)⟩
theorem pgive_c (z : Int) (w : World) (s : Bs w B D b R f h l) : Calls Tryd.prog 72 #[.pointer (some ⟨D, 0, none⟩), .int .u8 z] w fun e w' => e = .returned (.bool false) ∧ Bs w' B D b R (upd (upd f 351 (.int .u8 z)) 352 (.bool true)) h (wput l z) ∧ Fm B w w' := by
  have c1 := (s.cell (show 1 < 355 by decide)).trans (congrArg some s.c1)
  have hput := gput_r z w s.rg
  have AS : Aside (Bs w B D b R f h l) := s
  clear s
  go_enter Tryd.func72, Tryd.ntmps72
  go_upto_region 2 with (go_at_call 82; refine hput.mono ?_; rintro e2 w2 ⟨rfl, hr2, ht2⟩)
  have s2 := AS.out.onR ht2 hr2
  have c3 := s2.cell (show 351 < 355 by decide)
  have c4 := s2.cell (show 352 < 355 by decide)
  have z3 := s2.fz 351
  have z4 := s2.fz 352
  clear hput c1
  go_wp2_with fail
  go_ret
  refine ⟨rfl, (s2.set 351 _ (by decide)).set 352 _ (by decide), (Fm.of_two ht2 ?_ ?_ ?_ ?_).trans (Fm.of_only (((Only.refl D w2).setCell 351 _).setCell 352 _) ?_ ?_)⟩ <;> have := s2.eD <;> have := s2.eR <;> omega
end
end Go.Proofs.YtikdpnpkmmmacaaDoor

/-
  The document's run in memory, and what its small calls (open, stop, cut) come to.
-/
namespace Go.Proofs.YtikdpnpkmmmacaaDoor
open Go.RowKit
set_option linter.unusedVariables false
/-- Bytes that lie side by side. -/
def Lies (w : World) (a : Option Addr) (l : List Nat) : Prop := l = [] ∨ ∃ (b o : Nat), a = some ⟨b, o, none⟩ ∧ ∀ (i x : Nat), l[i]? = some x → w.cell? ⟨b, o + i, none⟩ = some (.int .u8 (x : Int))
def Oct (l : List Nat) : Prop := ∀ x ∈ l, x < 256
theorem Lies.below {w u : World} {a : Option Addr} {l : List Nat} (h : Lies w a l) (k : Below w.heap.size w u) : Lies u a l := by
  rcases h with h | ⟨b, o, ha, hc⟩
  · exact Or.inl h
  · exact Or.inr ⟨b, o, ha, fun i x hx => (k.cell (p := ⟨b, o + i, none⟩) (World.block_lt_of_cell? w ⟨b, o + i, none⟩ (hc i x hx))).trans (hc i x hx)⟩
def vn (l : List Nat) : List Value := l.map fun x : Nat => Value.int .u8 (x : Int)
def vt (l : List Nat) : List Value := l.map fun x : Nat => Value.int .i64 (x : Int)
/-- What a run knows. -/
structure Rs where
  pos : Nat
  out : List Nat
  times : List Nat
  why : Nat
  at_ : Nat
  ended : Bool
/-- The document's run, in block R. -/
structure Rn (w : World) (base R : Nat) (a : Option Addr) (L C most : Nat) (s : Rs) (vO vT : Value) : Prop where
  cells : ∃ full : Bool, Cells w R #[.slice a L C, .int .i64 (most : Int), vO, vT, .int .i64 (s.why : Int), .int .i64 (s.at_ : Int), .bool s.ended, .int .i64 (s.pos : Int), .bool full] 31
  oo : w.ownsRow base 5 1 vO s.out.length (vn s.out)
  ot : w.ownsRow base 3 1 vT s.times.length (vt s.times)
  rb : base ≤ R
  tl : s.times.length = s.out.length
variable {w u : World} {base R L C most : Nat} {a : Option Addr} {s : Rs} {vO vT : Value}
theorem Rn.lt (h : Rn w base R a L C most s vO vT) : R < w.heap.size := by obtain ⟨f, h⟩ := h.cells; exact h.lt
theorem Rn.drewN (h : Rn w base R a L C most s vO vT) (n : Nat) : Rn (w.drewN n) base R a L C most s vO vT := ⟨h.cells, h.oo, h.ot, h.rb, h.tl⟩
theorem Rn.drew (h : Rn w base R a L C most s vO vT) : Rn w.drew base R a L C most s vO vT := ⟨h.cells, h.oo, h.ot, h.rb, h.tl⟩
theorem Rn.aO (h : Rn w base R a L C most s vO vT) : vO.ownBlock ≠ some R := by
  obtain ⟨f, hc⟩ := h.cells
  rcases h.oo.2 with ⟨rfl, _⟩ | ⟨g, c, cur, rfl, _, hg, _⟩
  · intro e; cases e
  · intro e
    have : g = R := by simpa [Value.ownBlock] using e
    subst this
    unfold Cells at hc; rw [hg] at hc; cases hc
theorem Rn.aT (h : Rn w base R a L C most s vO vT) : vT.ownBlock ≠ some R := by
  obtain ⟨f, hc⟩ := h.cells
  rcases h.ot.2 with ⟨rfl, _⟩ | ⟨g, c, cur, rfl, _, hg, _⟩
  · intro e; cases e
  · intro e
    have : g = R := by simpa [Value.ownBlock] using e
    subst this
    unfold Cells at hc; rw [hg] at hc; cases hc
theorem Rn.aOT (h : Rn w base R a L C most s vO vT) : vO.ownBlock = none ∨ vO.ownBlock ≠ vT.ownBlock := by
  rcases h.oo.2 with ⟨rfl, _⟩ | ⟨g, c, cur, rfl, _, hg, _⟩
  · exact Or.inl rfl
  · right
    rcases h.ot.2 with ⟨rfl, _⟩ | ⟨g', c', cur', rfl, _, hg', _⟩
    · intro e; cases e
    · intro e
      have : g = g' := by simpa [Value.ownBlock] using e
      subst this
      rw [hg] at hg'
      cases hg'
theorem own_only {X e size n : Nat} {v : Value} {xs : List Value} (h : w.ownsRow base e size v n xs) (k : Only X w u) (hne : v.ownBlock ≠ some X) : u.ownsRow base e size v n xs :=
  h.kept (row := some X) ⟨k.os, k.tape, k.output, Nat.le_of_eq k.size.symm, fun i hi hx => k.block i (fun e => hx (by rw [e]))⟩ (Or.inr hne)
/-- Something in the run's own block has turned. -/
theorem Rn.only (h : Rn w base R a L C most s vO vT) (k : Only R w u) {s' : Rs} (hc : ∃ full : Bool, Cells u R #[.slice a L C, .int .i64 (most : Int), vO, vT, .int .i64 (s'.why : Int), .int .i64 (s'.at_ : Int), .bool s'.ended, .int .i64 (s'.pos : Int), .bool full] 31) (h1 : s'.out = s.out) (h2 : s'.times = s.times) : Rn u base R a L C most s' vO vT :=
  ⟨hc, by rw [h1]; exact own_only h.oo k h.aO, by rw [h2]; exact own_only h.ot k h.aT, h.rb, by rw [h1, h2]; exact h.tl⟩
theorem Rn.c0 (h : Rn w base R a L C most s vO vT) : w.cell? ⟨R, 0, none⟩ = some (.slice a L C) := by obtain ⟨f, h⟩ := h.cells; rw [h.cell]; rfl
theorem Rn.c1 (h : Rn w base R a L C most s vO vT) : w.cell? ⟨R, 1, none⟩ = some (.int .i64 (most : Int)) := by obtain ⟨f, h⟩ := h.cells; rw [h.cell]; rfl
theorem Rn.c2 (h : Rn w base R a L C most s vO vT) : w.cell? ⟨R, 2, none⟩ = some vO := by obtain ⟨f, h⟩ := h.cells; rw [h.cell]; rfl
theorem Rn.c3 (h : Rn w base R a L C most s vO vT) : w.cell? ⟨R, 3, none⟩ = some vT := by obtain ⟨f, h⟩ := h.cells; rw [h.cell]; rfl
theorem Rn.c4 (h : Rn w base R a L C most s vO vT) : w.cell? ⟨R, 4, none⟩ = some (.int .i64 (s.why : Int)) := by obtain ⟨f, h⟩ := h.cells; rw [h.cell]; rfl
theorem Rn.c5 (h : Rn w base R a L C most s vO vT) : w.cell? ⟨R, 5, none⟩ = some (.int .i64 (s.at_ : Int)) := by obtain ⟨f, h⟩ := h.cells; rw [h.cell]; rfl
theorem Rn.c6 (h : Rn w base R a L C most s vO vT) : w.cell? ⟨R, 6, none⟩ = some (.bool s.ended) := by obtain ⟨f, h⟩ := h.cells; rw [h.cell]; rfl
theorem Rn.c7 (h : Rn w base R a L C most s vO vT) : w.cell? ⟨R, 7, none⟩ = some (.int .i64 (s.pos : Int)) := by obtain ⟨f, h⟩ := h.cells; rw [h.cell]; rfl
theorem Rn.fz (h : Rn w base R a L C most s vO vT) (i : Nat) : w.frozen? ⟨R, i, none⟩ = false := by obtain ⟨f, h⟩ := h.cells; exact h.frozen i
/-- Is it neither stopped nor ended? -/
def Rs.opn (s : Rs) : Bool := s.why == 0 && !s.ended
theorem open_c (h : Rn w base R a L C most s vO vT) : Calls Tryd.prog 22 #[.pointer (some ⟨R, 0, none⟩)] w fun e w' => e = .returned (.bool s.opn) ∧ w = w' := by
  have c4 := h.c4
  have c6 := h.c6
  obtain ⟨y, hy⟩ : ∃ y, s.why = y := ⟨_, rfl⟩
  obtain ⟨e, he⟩ : ∃ e, s.ended = e := ⟨_, rfl⟩
  unfold Rs.opn
  rw [hy] at c4 ⊢
  rw [he] at c6 ⊢
  by_cases h0 : y = 0
  · have t0 : ((y : Int) == 0) = true := beq_iff_eq.2 (by omega)
    rw [h0]
    rw [h0] at c4
    go_enter Tryd.func22, Tryd.ntmps22
    go_wp2_with fail
    first | go_ret | go_ret2
    exact ⟨rfl, rfl⟩
  · have t0 : ((y : Int) == 0) = false := beq_eq_false_iff_ne.2 (by omega)
    have t1 : (y == 0) = false := beq_eq_false_iff_ne.2 h0
    rw [t1]
    clear h0
    go_enter Tryd.func22, Tryd.ntmps22
    go_wp2_with fail
    first | go_ret | go_ret2
    exact ⟨rfl, rfl⟩
theorem tdiv8 (p : Nat) : ((p : Int) - 1).tdiv 8 = (((p - 1) / 8 : Nat) : Int) := by
  cases p with
  | zero => rfl
  | succ p =>
    rw [show ((p + 1 : Nat) : Int) - 1 = ((p : Nat) : Int) by omega, Int.tdiv_eq_ediv_of_nonneg (by omega)]
    simp
theorem stop_c (h : Rn w base R a L C most s vO vT) (y : Nat) (hp : s.pos < 1000000000000000000) : Calls Tryd.prog 29 #[.pointer (some ⟨R, 0, none⟩), .int .i64 (y : Int)] w fun e w' => e = .returned (.tuple #[]) ∧ Rn w' base R a L C most { s with why := y, at_ := (s.pos - 1) / 8 } vO vT ∧ Only R w w' := by
  have c7 := h.c7
  have c4 := h.c4
  have c5 := h.c5
  have f4 := h.fz 4
  have f5 := h.fz 5
  obtain ⟨f, hc⟩ := h.cells
  have k1 := hc.set 4 (.int .i64 (y : Int))
  have c5' : (w.setCell ⟨R, 4, none⟩ (.int .i64 (y : Int))).cell? ⟨R, 5, none⟩ = some (.int .i64 (s.at_ : Int)) := by rw [k1.cell]; rfl
  have c7' : (w.setCell ⟨R, 4, none⟩ (.int .i64 (y : Int))).cell? ⟨R, 7, none⟩ = some (.int .i64 (s.pos : Int)) := by rw [k1.cell]; rfl
  have f5' := k1.frozen 5
  obtain ⟨p, hpp⟩ : ∃ p, s.pos = p := ⟨_, rfl⟩
  rw [hpp] at c7 c7' hp
  go_enter Tryd.func29, Tryd.ntmps29
  go_wp2_with fail
  rw [tdiv8]
  go_end0
  have o : Only R w ((w.setCell ⟨R, 4, none⟩ (.int .i64 (y : Int))).setCell ⟨R, 5, none⟩ (.int .i64 (((p - 1) / 8 : Nat) : Int))) := ((Only.refl R w).setCell _ _).setCell _ _
  refine ⟨rfl, h.only o ⟨f, ?_⟩ rfl rfl, o⟩
  subst hpp
  exact k1.set 5 (.int .i64 (((s.pos - 1) / 8 : Nat) : Int))
theorem cut_c (h : Rn w base R a L C most s vO vT) : Calls Tryd.prog 43 #[.pointer (some ⟨R, 0, none⟩)] w fun e w' => e = .returned (.tuple #[]) ∧ Rn w' base R a L C most { s with why := 1, at_ := L } vO vT ∧ Only R w w' := by
  have c4 := h.c4
  have f4 := h.fz 4
  obtain ⟨f, hc⟩ := h.cells
  have k1 := hc.set 4 (.int .i64 1)
  have c5' : (w.setCell ⟨R, 4, none⟩ (.int .i64 1)).cell? ⟨R, 5, none⟩ = some (.int .i64 (s.at_ : Int)) := by rw [k1.cell]; rfl
  have c0' : (w.setCell ⟨R, 4, none⟩ (.int .i64 1)).cell? ⟨R, 0, none⟩ = some (.slice a L C) := by rw [k1.cell]; rfl
  have f5' := k1.frozen 5
  go_enter Tryd.func43, Tryd.ntmps43
  go_wp2_with fail
  go_end0
  have o : Only R w ((w.setCell ⟨R, 4, none⟩ (.int .i64 1)).setCell ⟨R, 5, none⟩ (.int .i64 (L : Int))) := ((Only.refl R w).setCell _ _).setCell _ _
  refine ⟨rfl, h.only o ⟨f, ?_⟩ rfl rfl, o⟩
  exact k1.set 5 (.int .i64 (L : Int))
/-- The bits of bytes, one by one. -/
theorem allb_len : ∀ B : List Nat, (allb B).length = 8 * B.length
  | [] => rfl
  | x :: B => by
    have ih := allb_len B
    show (bitsOf 8 x ++ allb B).length = _
    rw [List.length_append, bitsOf_length, ih, List.length_cons]; omega
theorem allb_at : ∀ (B : List Nat) (k x : Nat), B[k / 8]? = some x → (allb B)[k]? = some (x / 2 ^ (k % 8) % 2 == 1)
  | [], k, x, h => by simp at h
  | y :: B, k, x, h => by
    show (bitsOf 8 y ++ allb B)[k]? = _
    by_cases hk : k < 8
    · have e : k / 8 = 0 := by omega
      rw [e] at h
      have : y = x := by simpa using h
      subst this
      rw [List.getElem?_append_left (by rw [bitsOf_length]; exact hk), show k % 8 = k by omega]
      simp [bitsOf, hk]
    · have e : k / 8 = (k - 8) / 8 + 1 := by omega
      rw [e, List.getElem?_cons_succ] at h
      rw [List.getElem?_append_right (by rw [bitsOf_length]; omega), bitsOf_length, allb_at B (k - 8) x h, show (k - 8) % 8 = k % 8 by omega]
theorem nm_next {bs : List Bool} {p i : Nat} {x : Bool} (h : bs[p + i]? = some x) : nm ((bs.drop p).take (i + 1)) = nm ((bs.drop p).take i) + (if x then 2 ^ i else 0) := by
  have hl : p + i < bs.length := (List.getElem?_eq_some_iff.1 h).1
  have e : (bs.drop p)[i]? = some x := by rw [List.getElem?_drop]; exact h
  rw [List.take_add_one, e]
  show nm (_ ++ [x]) = _
  rw [nm_append, List.length_take, List.length_drop, show min i (bs.length - p) = i by omega]
  cases x <;> simp [nm]
theorem bit_u8 (x k : Nat) (h : x < 256) : (bits .and .u8 ((x : Int) / 2 ^ k) 1 == 1) = (x / 2 ^ k % 2 == 1) := by
  have e : (x : Int) / 2 ^ k = ((x / 2 ^ k : Nat) : Int) := by push_cast; rfl
  have hb : x / 2 ^ k < 256 := Nat.lt_of_le_of_lt (Nat.div_le_self _ _) h
  rw [e, show (1 : Int) = ((1 : Nat) : Int) from rfl, u8_and_nat _ 1 hb (by decide), Nat.and_one_is_mod]
  have h2 : x / 2 ^ k % 2 = 0 ∨ x / 2 ^ k % 2 = 1 := by omega
  rcases h2 with h | h <;> rw [h] <;> rfl
set_option maxRecDepth 100000 in
set_option maxHeartbeats 2000000 in
theorem number_no (B : List Nat) (h : Rn w base R a L C most s vO vT) (hL : B.length = L) (hLb : L < 140737488355328) (n : Nat) (hn : n ≤ 16) (hp : s.pos < 1000000000000000000) (hx : num? (allb B) s.pos n = none) :
    Calls Tryd.prog 23 #[.pointer (some ⟨R, 0, none⟩), .int .i64 (n : Int)] w fun e w' => e = .returned (.int .i64 0) ∧ Rn w' base R a L C most { s with why := 1, at_ := L } vO vT ∧ Only R w w' := by
  have hgt : 8 * L < s.pos + n := by
    unfold num? at hx
    split at hx
    · cases hx
    · rename_i h2
      rw [allb_len, hL] at h2
      omega
  have c0 := h.c0
  have c7 := h.c7
  have hcut : ∀ q, Calls Tryd.prog 43 #[.pointer (some ⟨R, 0, none⟩)] (w.drewN q) fun e w' => e = .returned (.tuple #[]) ∧ Rn w' base R a L C most { s with why := 1, at_ := L } vO vT ∧ Only R (w.drewN q) w' := fun q => cut_c (h.drewN q)
  obtain ⟨p, hpp⟩ : ∃ p, s.pos = p := ⟨_, rfl⟩
  have AP : Aside (s.pos = p) := hpp
  rw [hpp] at c7 hp hgt
  have hgI : (8 : Int) * (L : Int) < (p : Int) + (n : Int) := by omega
  clear hgt hx hpp
  go_enter Tryd.func23, Tryd.ntmps23
  go_upto_region 1 with fail
  go_quiet (fail)
  go_wp2_with (go_at_call 43; refine (hcut _).mono ?_; rintro e2 w2 ⟨rfl, hr2, ho2⟩)
  first | go_ret | go_ret2
  exact ⟨rfl, hr2, ⟨ho2.os, ho2.tape, ho2.output, ho2.size, ho2.block⟩⟩
theorem w64_cast {n : Nat} (h : n < 9223372036854775808) : wrap64 (n : Int) = (n : Int) := by unfold wrap64; omega
theorem w64_pow (v i : Nat) (hv : v < 2 ^ i) (hi : i < 40) : wrap64 ((v : Int) + wrap64 (2 ^ i)) = ((v + 2 ^ i : Nat) : Int) := by
  have h1 : 2 ^ i ≤ 2 ^ 40 := Nat.pow_le_pow_right (by decide) (by omega)
  have e : (2 : Int) ^ i = ((2 ^ i : Nat) : Int) := by push_cast; rfl
  rw [e, w64_cast (by omega), ← Int.natCast_add, w64_cast (by omega)]
set_option maxRecDepth 100000 in
set_option maxHeartbeats 4000000 in
theorem number_yes (B : List Nat) (h : Rn w base R a L C most s vO vT) (hB : Lies w a B) (hL : B.length = L) (hLb : L < 140737488355328) (ho : Oct B) (n x : Nat) (hn : n ≤ 16) (hx : num? (allb B) s.pos n = some x) :
    Calls Tryd.prog 23 #[.pointer (some ⟨R, 0, none⟩), .int .i64 (n : Int)] w fun e w' => e = .returned (.int .i64 (x : Int)) ∧ Rn w' base R a L C most { s with pos := s.pos + n } vO vT ∧ Only R w w' := by
  have hle : s.pos + n ≤ 8 * L ∧ nm (((allb B).drop s.pos).take n) = x := by
    unfold num? at hx
    split at hx
    · rename_i h2
      rw [allb_len, hL] at h2
      exact ⟨h2, Option.some.inj hx⟩
    · cases hx
  have c0 := h.c0
  have c7 := h.c7
  obtain ⟨p, hpp⟩ : ∃ p, s.pos = p := ⟨_, rfl⟩
  rw [hpp] at c7 hle
  have hgI : ¬ (8 : Int) * (L : Int) < (p : Int) + (n : Int) := by omega
  have AP : Aside (s.pos = p ∧ p + n ≤ 8 * L ∧ nm (((allb B).drop p).take n) = x ∧ Rn w base R a L C most s vO vT ∧ Lies w a B ∧ B.length = L ∧ Oct B) := ⟨hpp, hle.1, hle.2, h, hB, hL, ho⟩
  have hpb : (p : Int) + (n : Int) < 9223372036854775807 := by omega
  have hL8 : (8 : Int) * (L : Int) < 9223372036854775807 := by omega
  clear hx hpp hle hB hL ho
  go_enter Tryd.func23, Tryd.ntmps23
  go_upto_region 1 with fail
  go_quiet (fail)
  have hr : Rn (w.drewN nq) base R a L C most s vO vT := h.drewN nq
  obtain ⟨w1, hw1⟩ : ∃ w1, w.drewN nq = w1 := ⟨_, rfl⟩
  have A1 : Aside (w.drewN nq = w1 ∧ Rn w1 base R a L C most s vO vT) := ⟨hw1, by rw [← hw1]; exact hr⟩
  rw [hw1]
  clear hw1 hr h c0 c7
  go_wp2_with fail
  go_loopg [5, 6, 7] n (fun g sv si s7 wr => ∃ i v : Nat, sv = .int .i64 (v : Int) ∧ si = .int .i64 (i : Int) ∧ Aside (i + g = n ∧ nm (((allb B).drop p).take i) = v) ∧ w1 = wr)
  case atStart => exact ⟨0, 0, rfl, rfl, ⟨by omega, by simp [nm]⟩, rfl⟩
  case round =>
    obtain ⟨i, v, rfl, rfl, hI, hw⟩ := hrel
    subst hw
    have hr := A1.out.2
    have c0 := hr.c0
    have c7 := hr.c7
    rw [AP.out.1] at c7
    by_cases hin : i < n
    · have hi1 : (i : Int) < (n : Int) := by omega
      obtain ⟨q, hq⟩ : ∃ q, p + i = q := ⟨_, rfl⟩
      have hqI : (p : Int) + (i : Int) = (q : Int) := by omega
      have hqL : q / 8 < L := by have := AP.out; omega
      obtain ⟨y, hy⟩ : ∃ y, B[q / 8]? = some y := ⟨_, List.getElem?_eq_getElem (by have := AP.out; omega)⟩
      have hy256 := AP.out.2.2.2.2.2.2 y (List.mem_of_getElem? hy)
      rcases AP.out.2.2.2.2.1 with e | ⟨b0, o0, rfl, hc⟩
      · rw [e] at hy; simp at hy
      have cy0 : w1.cell? ⟨b0, o0 + q / 8, none⟩ = some (.int .u8 (y : Int)) := by rw [← A1.out.1]; exact hc _ y hy
      obtain ⟨m, hm⟩ : ∃ m, q / 8 = m := ⟨_, rfl⟩
      obtain ⟨k, hk⟩ : ∃ k, q % 8 = k := ⟨_, rfl⟩
      have hmI : (q : Int).tdiv 8 = (m : Int) := by rw [Int.tdiv_eq_ediv_of_nonneg (by omega)]; omega
      have hkI : (q : Int).tmod 8 = (k : Int) := by rw [Int.tmod_eq_emod_of_nonneg (by omega)]; omega
      rw [hm] at cy0 hqL
      have hmL : (m : Int) < (L : Int) := by omega
      have hk8 : (k : Int) < 8 := by omega
      have hv : v < 2 ^ i := by
        have h1 := nm_lt (((allb B).drop p).take i)
        rw [hI.out.2, List.length_take, List.length_drop, allb_len] at h1
        have h2 := AP.out
        rw [show min i (8 * B.length - p) = i by omega] at h1
        exact h1
      have h216 : 2 ^ i ≤ 2 ^ 16 := Nat.pow_le_pow_right (by decide) (by omega)
      have hnx : nm (((allb B).drop p).take (i + 1)) = v + (if (y / 2 ^ k % 2 == 1) then 2 ^ i else 0) := by
        rw [← hI.out.2, nm_next (x := (y / 2 ^ k % 2 == 1))]
        rw [hq, allb_at B q y hy, hk]
      obtain ⟨z, hz⟩ : ∃ z, (y / 2 ^ k % 2 == 1) = z := ⟨_, rfl⟩
      have hzb : (bits .and .u8 ((y : Int) / 2 ^ k) 1 == 1) = z := by rw [bit_u8 y k hy256]; exact hz
      rw [hz] at hnx
      have AK : Aside (i < n ∧ nm (((allb B).drop p).take (i + 1)) = v + (if z then 2 ^ i else 0) ∧ v < 2 ^ i ∧ 2 ^ i ≤ 2 ^ 16 ∧ i < 16) := ⟨hin, hnx, hv, h216, by omega⟩
      have hi16 : (i : Int) < 16 := by omega
      clear hc hy hm hk hz hnx hv h216 hin hq
      cases z with
      | false =>
        go_wp2_with fail
        go_roundg (n - (i + 1))
        case measure => have := hI.out.1; have := AK.out; omega
        case rel =>
          have kk := AK.out
          exact ⟨i + 1, v, rfl, by go_num, ⟨by omega, by rw [kk.2.1]; rfl⟩, rfl⟩
      | true =>
        go_wp2_with fail
        rw [w64_pow v i AK.out.2.2.1 (by have := AK.out; omega)]
        go_roundg (n - (i + 1))
        case measure => have := hI.out.1; have := AK.out; omega
        case rel =>
          have kk := AK.out
          exact ⟨i + 1, v + 2 ^ i, rfl, by go_num, ⟨by omega, by rw [kk.2.1]; rfl⟩, rfl⟩
    · have hie : i = n := by have := hI.out.1; omega
      subst hie
      have hvx : v = x := by rw [← hI.out.2]; exact AP.out.2.2.1
      subst hvx
      have hni : ¬ (i : Int) < (i : Int) := by omega
      have f7 := hr.fz 7
      clear hin hI
      go_wp2_with fail
      first | go_ret | go_ret2
      have o : Only R w1 (w1.setCell ⟨R, 7, none⟩ (.int .i64 ((p : Int) + (i : Int)))) := (Only.refl R w1).setCell _ _
      obtain ⟨f, hc⟩ := hr.cells
      have k1 := hc.set 7 (.int .i64 ((p : Int) + (i : Int)))
      refine ⟨rfl, hr.only o ⟨f, ?_⟩ rfl rfl, ?_⟩
      · rw [AP.out.1]
        show Cells _ _ #[_, _, _, _, _, _, _, .int .i64 ((p + i : Nat) : Int), _] _
        rw [Int.natCast_add]
        rw [AP.out.1] at k1
        exact k1
      · have := A1.out.1
        rw [← this] at o ⊢
        exact ⟨o.os, o.tape, o.output, o.size, o.block⟩
end Go.Proofs.YtikdpnpkmmmacaaDoor

/-
  What the document's lengthBase and distanceBase come to.
-/
namespace Go.Proofs.YtikdpnpkmmmacaaDoor
open Go.RowKit
set_option linter.unusedVariables false
def lmo (i : Nat) : Nat := if 265 ≤ i + 257 then (i + 257 - 261) / 4 else 0
def lbs (i : Nat) : Nat := (List.range i).foldl (fun a i => a + 2 ^ (if 265 ≤ i + 257 then (i + 257 - 261) / 4 else 0)) 3
theorem lbs_next (i : Nat) : lbs (i + 1) = lbs i + 2 ^ lmo i := by unfold lbs lmo; rw [List.range_succ, List.foldl_append]; rfl
theorem lbase_lbs {s : Nat} (h : s ≠ 285) : lbase s = lbs (s - 257) := by unfold lbase; rw [if_neg h]; rfl
theorem lbs_le : ∀ i, i ≤ 28 → lbs i ≤ 1000 := by decide
def dmo (i : Nat) : Nat := if 4 ≤ i then (i - 2) / 2 else 0
def dbs (i : Nat) : Nat := (List.range i).foldl (fun a i => a + 2 ^ (if 4 ≤ i then (i - 2) / 2 else 0)) 1
theorem dbs_next (i : Nat) : dbs (i + 1) = dbs i + 2 ^ dmo i := by unfold dbs dmo; rw [List.range_succ, List.foldl_append]; rfl
theorem dbs_le : ∀ i, i ≤ 30 → dbs i ≤ 40000 := by decide
theorem w64_add (v i : Nat) (hv : v ≤ 100000) (hi : i < 40) : wrap64 ((v : Int) + wrap64 (2 ^ i)) = ((v + 2 ^ i : Nat) : Int) := by
  have h1 : 2 ^ i ≤ 2 ^ 40 := Nat.pow_le_pow_right (by decide) (by omega)
  have e : (2 : Int) ^ i = ((2 ^ i : Nat) : Int) := by push_cast; rfl
  rw [e, w64_cast (by omega), ← Int.natCast_add, w64_cast (by omega)]
set_option maxRecDepth 100000 in
set_option maxHeartbeats 2000000 in
theorem lbase_c (s : Nat) (h1 : 257 ≤ s) (h2 : s ≤ 285) (w : World) : Calls Tryd.prog 65 #[.int .i64 (s : Int)] w fun e w' => e = .returned (.tuple #[.int .i64 (lbase s : Nat), .int .i64 (lmore s : Nat)]) ∧ w = w' := by
  by_cases h : s = 285
  · subst h
    go_enter Tryd.func65, Tryd.ntmps65
    go_wp2_with fail
    first | go_ret | go_ret2
    exact ⟨rfl, rfl⟩
  have hne : ((s : Int) == 285) = false := beq_eq_false_iff_ne.2 (by omega)
  obtain ⟨A, hA⟩ : ∃ A, lbase s = A := ⟨_, rfl⟩
  obtain ⟨D, hD⟩ : ∃ D, lmore s = D := ⟨_, rfl⟩
  have AR : Aside (lbs (s - 257) = A ∧ lmo (s - 257) = D ∧ 257 ≤ s ∧ s < 285) := ⟨by rw [← hA, lbase_lbs h], by rw [← hD]; unfold lmo lmore; rw [if_neg h, show s - 257 + 257 = s by omega], h1, by omega⟩
  rw [hA, hD]
  clear hA hD h h1 h2
  go_enter Tryd.func65, Tryd.ntmps65
  go_wp2_with fail
  go_loopg [4, 5] 29 (fun g sa si wr => ∃ i v : Nat, sa = .int .i64 (v : Int) ∧ si = .int .i64 ((257 + i : Nat) : Int) ∧ Aside (i + g = 29 ∧ 257 + i ≤ s ∧ v = lbs i) ∧ w = wr)
  case atStart => exact ⟨0, 3, rfl, rfl, ⟨by omega, by have := AR.out; omega, rfl⟩, rfl⟩
  case round =>
    obtain ⟨i, v, rfl, rfl, hI, hw⟩ := hrel
    subst hw
    have hI1 := hI.out
    have hs := AR.out
    have hvb := lbs_le i (by omega)
    obtain ⟨m, hm⟩ : ∃ m, lmo i = m := ⟨_, rfl⟩
    obtain ⟨q, hq⟩ : ∃ q, 257 + i = q := ⟨_, rfl⟩
    have hmm : m ≤ 5 := by rw [← hm]; unfold lmo; split <;> omega
    rw [hq]
    have AI : Aside (i + gk = 29 ∧ q ≤ s ∧ v = lbs i ∧ v ≤ 1000 ∧ lmo i = m ∧ 257 + i = q ∧ m ≤ 5) := ⟨hI1.1, by omega, hI1.2.2, by rw [hI1.2.2]; exact hvb, hm, hq, hmm⟩
    have hqb : (q : Int) ≤ 285 := by omega
    go_upto_if 12 with fail
    go_cut [6] (fun s6 wc => s6 = .int .i64 (m : Int) ∧ w = wc)
    case first =>
      by_cases h265 : 265 ≤ q
      · have t1 : (265 : Int) ≤ (q : Int) := by omega
        have hmI : ((q : Int) - 261) / 4 = (m : Int) := by rw [← hm]; unfold lmo; rw [if_pos (by omega)]; omega
        have AM : Aside (((q : Int) - 261) / 4 = (m : Int)) := hmI
        clear hI hI1 hs hvb hm hq hmm h265 hmI
        go_wp2_with fail
        go_meet
        exact ⟨by rw [AM.out], rfl⟩
      · have t1 : ¬ (265 : Int) ≤ (q : Int) := by omega
        have hm0 : m = 0 := by rw [← hm]; unfold lmo; rw [if_neg (by omega)]
        clear hI hI1 hs hvb hm hq hmm h265
        go_wp2_with fail
        go_meet
        exact ⟨by rw [hm0]; rfl, rfl⟩
    case rest =>
      obtain ⟨rfl, rfl⟩ := hcut
      have hmI : (m : Int) ≤ 13 := by omega
      by_cases hqs : q = s
      · have t2 : ((q : Int) == (s : Int)) = true := beq_iff_eq.2 (by omega)
        have AF : Aside (v = A ∧ m = D) := by
          have a := AI.out; have r := AR.out
          exact ⟨by rw [← r.1, a.2.2.1]; congr 1; omega, by rw [← r.2.1, ← a.2.2.2.2.1]; congr 1; omega⟩
        clear hI hI1 hs hvb hm hq hmm hqs
        go_wp2_with fail
        first | go_ret | go_ret2
        obtain ⟨rfl, rfl⟩ := AF.out
        exact ⟨rfl, rfl⟩
      · have t2 : ((q : Int) == (s : Int)) = false := beq_eq_false_iff_ne.2 (by omega)
        have AL : Aside (q < s) := (by omega : q < s)
        clear hI hI1 hs hvb hm hq hmm hqs
        go_wp2_with fail
        rw [w64_add v m (by have := AI.out; omega) (by have := AI.out; omega)]
        go_roundg (28 - i)
        case measure => have := AI.out; have := AL.out; have := AR.out; omega
        case rel =>
          have a := AI.out
          have l := AL.out
          have r := AR.out
          refine ⟨i + 1, v + 2 ^ m, rfl, ?_, ⟨by omega, by omega, by rw [lbs_next, a.2.2.2.2.1, a.2.2.1]⟩, rfl⟩
          rw [show 257 + (i + 1) = q + 1 by omega]
          go_num
set_option maxRecDepth 100000 in
set_option maxHeartbeats 2000000 in
theorem dbase_c (s : Nat) (h2 : s ≤ 29) (w : World) : Calls Tryd.prog 66 #[.int .i64 (s : Int)] w fun e w' => e = .returned (.tuple #[.int .i64 (dbase s : Nat), .int .i64 (dmore s : Nat)]) ∧ w = w' := by
  obtain ⟨A, hA⟩ : ∃ A, dbase s = A := ⟨_, rfl⟩
  obtain ⟨D, hD⟩ : ∃ D, dmore s = D := ⟨_, rfl⟩
  have AR : Aside (dbs s = A ∧ dmo s = D ∧ s ≤ 29) := ⟨hA, hD, h2⟩
  rw [hA, hD]
  clear hA hD h2
  go_enter Tryd.func66, Tryd.ntmps66
  go_wp2_with fail
  go_loopg [4, 5] 30 (fun g sa si wr => ∃ i v : Nat, sa = .int .i64 (v : Int) ∧ si = .int .i64 ((0 + i : Nat) : Int) ∧ Aside (i + g = 30 ∧ 0 + i ≤ s ∧ v = dbs i) ∧ w = wr)
  case atStart => exact ⟨0, 1, rfl, rfl, ⟨by omega, by omega, rfl⟩, rfl⟩
  case round =>
    obtain ⟨i, v, rfl, rfl, hI, hw⟩ := hrel
    subst hw
    have hI1 := hI.out
    have hs := AR.out
    have hvb := dbs_le i (by omega)
    obtain ⟨m, hm⟩ : ∃ m, dmo i = m := ⟨_, rfl⟩
    obtain ⟨q, hq⟩ : ∃ q, 0 + i = q := ⟨_, rfl⟩
    have hmm : m ≤ 13 := by rw [← hm]; unfold dmo; split <;> omega
    rw [hq]
    have AI : Aside (i + gk = 30 ∧ q ≤ s ∧ v = dbs i ∧ v ≤ 40000 ∧ dmo i = m ∧ 0 + i = q ∧ m ≤ 13) := ⟨hI1.1, by omega, hI1.2.2, by rw [hI1.2.2]; exact hvb, hm, hq, hmm⟩
    have hqb : (q : Int) ≤ 29 := by omega
    go_upto_if 10 with fail
    go_cut [6] (fun s6 wc => s6 = .int .i64 (m : Int) ∧ w = wc)
    case first =>
      by_cases h265 : 4 ≤ q
      · have t1 : (4 : Int) ≤ (q : Int) := by omega
        have hmI : ((q : Int) - 2) / 2 = (m : Int) := by rw [← hm]; unfold dmo; rw [if_pos (by omega)]; omega
        have AM : Aside (((q : Int) - 2) / 2 = (m : Int)) := hmI
        clear hI hI1 hs hvb hm hq hmm h265 hmI
        go_wp2_with fail
        go_meet
        exact ⟨by rw [AM.out], rfl⟩
      · have t1 : ¬ (4 : Int) ≤ (q : Int) := by omega
        have hm0 : m = 0 := by rw [← hm]; unfold dmo; rw [if_neg (by omega)]
        clear hI hI1 hs hvb hm hq hmm h265
        go_wp2_with fail
        go_meet
        exact ⟨by rw [hm0]; rfl, rfl⟩
    case rest =>
      obtain ⟨rfl, rfl⟩ := hcut
      have hmI : (m : Int) ≤ 13 := by omega
      by_cases hqs : q = s
      · have t2 : ((q : Int) == (s : Int)) = true := beq_iff_eq.2 (by omega)
        have AF : Aside (v = A ∧ m = D) := by
          have a := AI.out; have r := AR.out
          exact ⟨by rw [← r.1, a.2.2.1]; congr 1; omega, by rw [← r.2.1, ← a.2.2.2.2.1]; congr 1; omega⟩
        clear hI hI1 hs hvb hm hq hmm hqs
        go_wp2_with fail
        first | go_ret | go_ret2
        obtain ⟨rfl, rfl⟩ := AF.out
        exact ⟨rfl, rfl⟩
      · have t2 : ((q : Int) == (s : Int)) = false := beq_eq_false_iff_ne.2 (by omega)
        have AL : Aside (q < s) := (by omega : q < s)
        clear hI hI1 hs hvb hm hq hmm hqs
        go_wp2_with fail
        rw [w64_add v m (by have := AI.out; omega) (by have := AI.out; omega)]
        go_roundg (29 - i)
        case measure => have := AI.out; have := AL.out; have := AR.out; omega
        case rel =>
          have a := AI.out
          have l := AL.out
          have r := AR.out
          refine ⟨i + 1, v + 2 ^ m, rfl, ?_, ⟨by omega, by omega, by rw [dbs_next, a.2.2.2.2.1, a.2.2.1]⟩, rfl⟩
          rw [show 0 + (i + 1) = q + 1 by omega]
          go_num
end Go.Proofs.YtikdpnpkmmmacaaDoor

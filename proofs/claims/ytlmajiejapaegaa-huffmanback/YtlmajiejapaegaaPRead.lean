/-
  What the program's Read comes to.
-/
import Derived.Test.YtlmajiejapaegaaAsk
import Derived.Test.YtlmajiejapaegaaHu
namespace Go.Proofs.Ytlmajiejapaegaa
open Go.RowKit
set_option linter.unusedVariables false
theorem read_none (T : Nat) (w : World) : Calls Try.prog 17 #[.pointer (some ⟨T, 0, none⟩), .pointer none] w fun e w' => e = .returned (.tuple #[.int .i64 0, .int .i64 2]) ∧ w = w' := by
  go_enter Try.func17, Try.ntmps17
  go_wp2_with fail
  first | go_ret | go_ret2
  exact ⟨rfl, rfl⟩
theorem may_of {ls : List Nat} {l : List Bool} (hk : part ls 15 ≤ 32768) (h15 : ∀ x ∈ ls, x ≤ 15) : (∃ j n, ls[j]? = some n ∧ 0 < n ∧ l <+: cbits ls j) ↔ May ls l := by
  constructor
  · rintro ⟨j, n, h1, h2, h3⟩
    have := (may_prefix hk h15 h1 h2).1 h3
    exact ⟨j, n, h1, h2, this.1, this.2⟩
  · rintro ⟨j, n, h1, h2, h3, h4⟩
    exact ⟨j, n, h1, h2, (may_prefix hk h15 h1 h2).2 ⟨h3, h4⟩⟩
theorem told_bad {ls : List Nat} {l : List Bool} {s how k : Nat} (hk : part ls 15 ≤ 32768) (h15 : ∀ x ∈ ls, x ≤ 15) (ht : Told ls l s how k) (h1 : ∀ i n, ¬ Hit ls l i n) (h2 : ¬ May ls l) : s = 0 ∧ how = 2 ∧ k = 0 := by
  rcases ht with ⟨h, _⟩ | ⟨_, h, _⟩ | ⟨_, _, h⟩
  · exact absurd h (h1 _ _)
  · exact absurd ((may_of hk h15).1 h) h2
  · exact h
theorem told_more {ls : List Nat} {l : List Bool} {s how k : Nat} (hk : part ls 15 ≤ 32768) (h15 : ∀ x ∈ ls, x ≤ 15) (ht : Told ls l s how k) (h1 : ∀ i n, ¬ Hit ls l i n) (h2 : May ls l) : s = 0 ∧ how = 1 ∧ k = 0 := by
  rcases ht with ⟨h, _⟩ | ⟨_, _, h⟩ | ⟨_, h, _⟩
  · exact absurd h (h1 _ _)
  · exact h
  · exact absurd ((may_of hk h15).2 h2) h
theorem told_hit {ls : List Nat} {l : List Bool} {s how k s0 n : Nat} (ht : Told ls l s how k) (hh : Hit ls l s0 n) : s = s0 ∧ how = 0 ∧ k = n := by
  rcases ht with ⟨h, h0⟩ | ⟨h, _⟩ | ⟨h, _⟩
  · have := hit_one h hh
    exact ⟨this.1, h0, this.2⟩
  · exact absurd hh (h _ _)
  · exact absurd hh (h _ _)
theorem But.drawn {b : Nat} {w u : World} (h : Drawn w u) : But b w u := by
  obtain ⟨n, rfl⟩ := h
  exact ⟨rfl, rfl, rfl, Nat.le_refl _, fun _ _ _ => rfl⟩
theorem But.only {b : Nat} {w u v : World} (h : But b w u) (k : Only b u v) : But b w v :=
  ⟨k.os.trans h.os, k.tape.trans h.tape, k.output.trans h.output, by rw [k.size]; exact h.size, fun i hi hne => (k.block i hne).trans (h.block i hi hne)⟩
set_option maxRecDepth 100000 in
set_option maxHeartbeats 4000000 in
theorem read_c (lo hi T : Nat) (ls : List Nat) (b s how k : Nat) (l : List Bool) (w : World) (hp : PT w lo hi T ls) (hk : part ls 15 ≤ 32768) (h15 : ∀ x ∈ ls, x ≤ 15) (hb : Br w b (nm l) l.length) (ht : Told ls l s how k) :
    Calls Try.prog 17 #[.pointer (some ⟨T, 0, none⟩), .pointer (some ⟨b, 0, none⟩)] w fun e w' => e = .returned (.tuple #[.int .i64 (s : Int), .int .i64 (how : Int)]) ∧ Br w' b (nm (l.drop k)) (l.drop k).length ∧ But b w w' := by
  obtain ⟨g, M, kk, ht2, _⟩ := hp
  obtain ⟨G, hG, hLd⟩ := ht2.m
  have cT1 := ht2.t.cell 1
  simp only [List.getElem?_toArray, List.getElem?_cons_zero, List.getElem?_cons_succ] at cT1
  have hheld := held_b b (nm l) l.length w hb
  obtain ⟨H, hH⟩ : ∃ H, min l.length 15 = H := ⟨_, rfl⟩
  have hpeek := peek_yes b (nm l) l.length H w hb (by omega) (by omega)
  have hvb : nm l % 2 ^ H < 4294967296 := by
    have h1 := Nat.mod_lt (nm l) (show 0 < 2 ^ H from Nat.pow_pos (by decide))
    have h2 : 2 ^ H ≤ 2 ^ 15 := Nat.pow_le_pow_right (by decide) (by omega)
    omega
  have hrev := rev_c (nm l % 2 ^ H) hvb (H : Int) w
  have hcl : clamp (H : Int) = H := by unfold clamp; omega
  rw [hcl, rev_mod H H _ (Nat.le_refl _), rev_num H (by omega)] at hrev
  obtain ⟨v, hv⟩ : ∃ v, num (l.take H) = v := ⟨_, rfl⟩
  rw [hv] at hrev
  obtain ⟨x, hx⟩ : ∃ x, nm l % 2 ^ H = x := ⟨_, rfl⟩
  rw [hx] at hrev hpeek
  obtain ⟨Ln, hLn⟩ : ∃ Ln, l.length = Ln := ⟨_, rfl⟩
  have htk : ∀ n, n ≤ H → num (l.take n) = v / 2 ^ (H - n) := fun n hn => by rw [← hv]; exact take_num hn (by omega)
  have AH : Aside (Mp w M kk G ∧ Laidm ls ls.length G ∧ Br w b (nm l) l.length ∧ Told ls l s how k ∧ (∀ x ∈ ls, x ≤ 15) ∧ min l.length 15 = H ∧ (∀ n, n ≤ H → num (l.take n) = v / 2 ^ (H - n)) ∧ v < 2 ^ H ∧ l.length = Ln) := ⟨hG, hLd, hb, ht, h15, hH, htk, by rw [← hv]; have := num_lt (l.take H); rw [List.length_take, show min H l.length = H by omega] at this; exact this, hLn⟩
  rw [hLn] at hheld
  have hH15 : H ≤ 15 := by omega
  have hmin : (if (15 : Int) < (Ln : Int) then (15 : Int) else (Ln : Int)) = (H : Int) := by split <;> omega
  have hmin2 : (if (Ln : Int) < (15 : Int) then (Ln : Int) else (15 : Int)) = (H : Int) := by split <;> omega
  have AK : Aside (part ls 15 ≤ 32768) := hk
  clear ht2 hG hLd hb ht h15 hH htk hv hx hLn hcl hvb hk
  go_enter Try.func17, Try.ntmps17
  go_upto_region 6 with (go_at_call 19; refine hheld.mono ?_; rintro e2 w2 ⟨rfl, rfl⟩)
  clear hheld hmin hmin2
  go_upto_region 9 with (first
    | (go_at_call 28; refine hpeek.mono ?_; rintro e3 w3 ⟨rfl, rfl⟩)
    | (go_at_call 22; refine hrev.mono ?_; rintro e4 w4 ⟨rfl, rfl⟩))
  clear hpeek hrev
  go_loopg [30] (H + 1) (fun gg si wr => ∃ n : Nat, si = .int .i64 (n : Int) ∧ Aside (n + gg = H + 1 ∧ Drawn w wr ∧ ∀ j, j < n → G j (num (l.take j)) = some (-1)))
  case atStart => exact ⟨0, rfl, by omega, Drawn.refl _, fun j hj => by omega⟩
  case round =>
    obtain ⟨n, rfl, hI⟩ := hrel
    by_cases hn : n ≤ H
    · have hnI : (n : Int) < (H : Int) + 1 := by omega
      have hnH : (n : Int) ≤ (H : Int) := by omega
      obtain ⟨y, hy⟩ : ∃ y, v / 2 ^ (H - n) = y := ⟨_, rfl⟩
      have hvb : v < 4294967296 := by have := AH.out.2.2.2.2.2.2.2.1; have h2 : 2 ^ H ≤ 2 ^ 15 := Nat.pow_le_pow_right (by decide) hH15; omega
      have hyb : y < 4294967296 := by rw [← hy]; exact Nat.lt_of_le_of_lt (Nat.div_le_self _ _) hvb
      have hyI : (v : Int) / 2 ^ (H - n) = (y : Int) := by rw [← hy]; push_cast; rfl
      obtain ⟨r, hr⟩ : ∃ r, G n y = r := ⟨_, rfl⟩
      obtain ⟨q, hq⟩ := hI.out.2.1
      have hlook : ∀ j, (Instr.lookup 64 (.map (some M)) (.agg #[.int .u32 (n : Int), .int .u32 (y : Int)]) true).run Try.prog (wr.drewN j) = .ok (.tuple #[.int .i64 (r.getD 0), .bool r.isSome]) (wr.drewN j) := fun j =>
        run_look (wr.drewN j) M kk n y G (by rw [hq]; exact AH.out.1) (by omega) hyb r hr
      have cT1r : wr.cell? ⟨T, 1, none⟩ = some (.map (some M)) := by rw [hq]; exact cT1
      have htn : num (l.take n) = y := by rw [← hy]; exact AH.out.2.2.2.2.2.2.1 n hn
      have AY : Aside (G n y = r ∧ num (l.take n) = y ∧ n ≤ H) := ⟨hr, htn, hn⟩
      clear hq hr hy htn hn
      go_upto_region 11 with fail
      go_quiet (fail)
      have hdr : Aside (Drawn w (wr.drewN nq)) := hI.out.2.1.drewN nq
      obtain ⟨w5, hw5⟩ : ∃ w5, wr.drewN nq = w5 := ⟨_, rfl⟩
      rw [hw5] at hdr ⊢
      clear hw5 cT1r hlook
      cases r with
      | none =>
        go_wp2_with fail
        first | go_ret | go_ret2
        have a := AH.out
        have y := AY.out
        have hbd := a.2.1.bad (l := l) (n := n) (by omega) hI.out.2.2 (by rw [y.2.1]; exact y.1)
        obtain ⟨rfl, rfl, rfl⟩ := told_bad AK.out a.2.2.2.2.1 a.2.2.2.1 hbd.1 hbd.2
        refine ⟨rfl, ?_, But.drawn hdr.out⟩
        obtain ⟨q, hq⟩ := hdr.out
        rw [hq]
        exact a.2.2.1.drewN q
      | some z =>
        by_cases hz : z = -1
        · subst hz
          go_wp2_with fail
          go_roundg (H - n)
          case measure => have := hI.out.1; have := AY.out.2.2; omega
          case rel =>
            refine ⟨n + 1, by go_num, by have := AY.out.2.2; omega, hdr.out, fun j hj => ?_⟩
            rcases (show j < n ∨ j = n by omega) with h | rfl
            · exact hI.out.2.2 j h
            · rw [AY.out.2.1]; exact AY.out.1
        · have hzb : (z == -1) = false := beq_eq_false_iff_ne.2 hz
          have a := AH.out
          have y1 := AY.out
          obtain ⟨s0, rfl, hh⟩ := a.2.1.hit (l := l) (n := n) (v := z) (by omega) (by rw [y1.2.1]; exact y1.1) hz
          obtain ⟨rfl, rfl, rfl⟩ := told_hit a.2.2.2.1 hh
          have hbr : Br w5 b (nm l) l.length := by obtain ⟨q, hq⟩ := hdr.out; rw [hq]; exact a.2.2.1.drewN q
          have htake := take_yes b (nm l) l.length k w5 hbr (by omega) (by omega)
          clear a y1 hh hbr hz
          go_wp2_with (go_at_call 29; refine htake.mono ?_; rintro e6 w6 ⟨rfl, hb6, ho6⟩)
          first | go_ret | go_ret2
          refine ⟨rfl, ?_, (But.drawn hdr.out).only ho6⟩
          rw [nm_drop, List.length_drop]
          exact hb6
    · have hn1 : n = H + 1 := by have := hI.out.1; omega
      subst hn1
      have hni : ¬ ((H + 1 : Nat) : Int) < (H : Int) + 1 := by omega
      clear hn
      go_wp2_with fail
      first | go_ret | go_ret2
      have a := AH.out
      have hm := a.2.1.more a.2.2.2.2.1 (l := l) (n := H) a.2.2.2.2.2.1.symm (fun j hj => hI.out.2.2 j (by omega))
      obtain ⟨rfl, rfl, rfl⟩ := told_more AK.out a.2.2.2.2.1 a.2.2.2.1 hm.2.1 hm.2.2
      refine ⟨rfl, ?_, But.drawn hI.out.2.1⟩
      obtain ⟨q, hq⟩ := hI.out.2.1
      rw [hq]
      exact a.2.2.1.drewN q
/-- The program keeps its contracts. -/
theorem hu : Hu PT where
  keep := fun h k => h.keep k
  kraft := fun a zs L C r ok w h hL hC hLb hr => kraft_c a zs L C r ok w h hL hLb hr
  new_err := fun a zs L C e0 w h hL hC hLb he h0 => by
    by_cases hok : Okl zs
    · exact new_room a zs L C e0 w h hL hLb hok he h0
    · have : e0 = 2 := by rw [← he]; unfold nerr; rw [if_pos hok]
      subst this
      exact new_arg a zs L C w h hL hLb hok
  new_ok := fun a zs L C w h hL hC hLb he => new_yes a zs L C w h hL hLb he
  symbols_nil := fun w => (symbols_nil w).mono fun e w' h => ⟨h.1, by rw [← h.2]; exact Below.refl _ _⟩
  symbols := fun lo hi T L ls w h hL => (symbols_c lo hi T L ls w h hL).mono fun e w' h => ⟨h.1, by rw [← h.2]; exact Below.refl _ _⟩
  code_nil := fun s w => (code_nil s w).mono fun e w' h => ⟨h.1, by rw [← h.2]; exact Below.refl _ _⟩
  code_no := fun lo hi T ls s w h hno => code_no h hno
  code_yes := fun lo hi T ls i n c w h hi h0 hc => by
    have h2 := h
    obtain ⟨_, _, _, _, _, _, _, _, _, _, hk, h15⟩ := h2
    exact code_yes h hk h15 hi h0 hc
  read := fun lo hi T ls b s how k l w hp hk h15 hb ht => read_c lo hi T ls b s how k l w hp hk h15 hb ht
  read_none := fun lo hi T ls w h => (read_none T w).mono fun e w' h => ⟨h.1, by rw [← h.2]; exact Below.refl _ _⟩
end Go.Proofs.Ytlmajiejapaegaa

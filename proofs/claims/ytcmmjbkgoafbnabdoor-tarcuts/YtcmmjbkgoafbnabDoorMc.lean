/-
  Own texts of this seat, one behind the other: what each says stands ahead of it.
-/
import Derived.Test.YtcmmjbkgoafbnabDoorMb
import Derived.Test.YtcmmjbkgoafbnabDoorMa
import Derived.Test.YtcmmjbkgoafbnabDoorProg
import Derived.WalkSpells
import Derived.Laws.BitsAllLaws
import Derived.Laws.Bits64
import Derived.Laws.Bits64b
import Derived.Deep.LoopGhost
import Derived.WalkMore
import Derived.Laws.MakeOwn
import Derived.Laws.OwnMore
import Derived.BigQuiet
/-
  Digits of a number; records as they are written; kinds that say nothing.
-/
namespace Go.Proofs.YtcmmjbkgoafbnabDoor
open Go.RowKit
set_option linter.unusedVariables false
set_option linter.unusedSimpArgs false
/-- A number's digits. -/
def dgf : Nat → Nat → List Nat
  | 0, n => [48 + n]
  | f + 1, n => if n ≤ 9 then [48 + n] else dgf f (n / 10) ++ [48 + n % 10]
def dgs (n : Nat) : List Nat := dgf n n
theorem dgf_fuel : ∀ (f g n : Nat), n ≤ f → n ≤ g → dgf f n = dgf g n
  | 0, 0, n, _, _ => rfl
  | 0, g + 1, n, h, _ => by
    have : n = 0 := by omega
    subst this; rfl
  | f + 1, 0, n, _, h => by
    have : n = 0 := by omega
    subst this; rfl
  | f + 1, g + 1, n, h1, h2 => by
    show (if n ≤ 9 then [48 + n] else dgf f (n / 10) ++ [48 + n % 10]) = (if n ≤ 9 then [48 + n] else dgf g (n / 10) ++ [48 + n % 10])
    split
    · rfl
    · rw [dgf_fuel f g (n / 10) (by omega) (by omega)]
theorem dgs_small {n : Nat} (h : n ≤ 9) : dgs n = [48 + n] := by
  unfold dgs
  cases n with
  | zero => rfl
  | succ n => show (if n + 1 ≤ 9 then [48 + (n + 1)] else _) = _; rw [if_pos h]
theorem dgs_more {n : Nat} (h : 9 < n) : dgs n = dgs (n / 10) ++ [48 + n % 10] := by
  unfold dgs
  obtain ⟨m, rfl⟩ : ∃ m, n = m + 1 := ⟨n - 1, by omega⟩
  show (if m + 1 ≤ 9 then [48 + (m + 1)] else dgf m ((m + 1) / 10) ++ [48 + (m + 1) % 10]) = _
  rw [if_neg (by omega), dgf_fuel m ((m + 1) / 10) ((m + 1) / 10) (by omega) (Nat.le_refl _)]
theorem dgs_oct : ∀ (f n : Nat), n ≤ f → Oct (dgs n)
  | 0, n, h => by
    have : n = 0 := by omega
    subst this
    intro x hx
    rw [dgs_small (by omega)] at hx
    simp at hx; omega
  | f + 1, n, h => by
    by_cases h9 : n ≤ 9
    · intro x hx
      rw [dgs_small h9] at hx
      simp at hx; omega
    · rw [dgs_more (by omega)]
      intro x hx
      rcases List.mem_append.1 hx with q | q
      · exact dgs_oct f (n / 10) (by omega) x q
      · simp at q; omega
theorem dgs_len {n : Nat} (h : n < 1000000000000) : (dgs n).length ≤ 12 := by
  have key : ∀ (k m : Nat), m < 10 ^ (k + 1) → (dgs m).length ≤ k + 1 := by
    intro k
    induction k with
    | zero => intro m hm; rw [dgs_small (by omega)]; simp
    | succ k ih =>
      intro m hm
      by_cases h9 : m ≤ 9
      · rw [dgs_small h9]; simp
      · rw [dgs_more (by omega), List.length_append, List.length_singleton]
        have := ih (m / 10) (by rw [Nat.pow_succ] at hm; omega)
        omega
  exact key 11 n h
theorem st_one (x : Nat) : (st [x]).size = 1 := st_size _
set_option maxRecDepth 20000 in
set_option maxHeartbeats 1000000 in
theorem digits_c (n : Nat) (hn : n < 1000000000000) (w : World) : Calls Tryd.prog 15 #[.int .i64 (n : Int)] w fun e w' => e = .returned (.string (st (dgs n))) ∧ Below w.heap.size w w' := by
  obtain ⟨D, hD⟩ : ∃ D, dgs n = D := ⟨_, rfl⟩
  have hDl : D.length ≤ 12 := by rw [← hD]; exact dgs_len hn
  rw [hD]
  have A : Aside (dgs n = D ∧ D.length ≤ 12) := ⟨hD, hDl⟩
  have A0 : Aside (n < 1000000000000 ∧ dgs n ++ [] = D) := ⟨hn, by simp [hD]⟩
  clear hD hDl hn
  go_enter Tryd.func15, Tryd.ntmps15
  go_wp2_with fail
  go_loopg [0, 3] (n + 1) (fun gg s0 s3 wr => ∃ (m : Nat) (sp : ByteArray), s0 = .int .i64 (m : Int) ∧ s3 = .string sp ∧ Aside (∃ p, sp = st p ∧ dgs m ++ p = D ∧ m < 1000000000000 ∧ m < gg ∧ Below w.heap.size w wr))
  case atStart => exact ⟨n, ⟨#[]⟩, rfl, rfl, ⟨[], rfl, A0.out.2, A0.out.1, by omega, Below.refl _ _⟩⟩
  case round =>
    clear A0
    obtain ⟨m, sp, rfl, rfl, hI⟩ := hrel
    obtain ⟨p, hsp, hpD, hmb, hmg, hbel⟩ := hI.out
    have hpl : p.length ≤ 12 := by have := congrArg List.length hpD; rw [List.length_append] at this; have := A.out.2; omega
    have z2 : sp.size = p.length := by rw [hsp]; exact st_size p
    obtain ⟨np, hnp⟩ : ∃ np, p.length = np := ⟨_, rfl⟩
    rw [hnp] at z2 hpl
    have u1 : (9223372036854775807 < 1 + np) = False := eq_false (by omega)
    obtain ⟨H, hH⟩ : ∃ H, wr.heap.size = H := ⟨_, rfl⟩
    by_cases h9 : 9 < m
    · obtain ⟨d, hd⟩ : ∃ d, m % 10 = d := ⟨_, rfl⟩
      obtain ⟨x, hx⟩ : ∃ x, 48 + d = x := ⟨_, rfl⟩
      obtain ⟨m1, hm1⟩ : ∃ m1, m / 10 = m1 := ⟨_, rfl⟩
      have q1 : (m : Int) % 10 = (d : Int) := by omega
      have q2 : Int.tmod (m : Int) 10 = (d : Int) := by rw [Int.tmod_eq_emod_of_nonneg (by omega)]; omega
      have q3 : (m : Int) / 10 = (m1 : Int) := by omega
      have q4 : Int.tdiv (m : Int) 10 = (m1 : Int) := by rw [Int.tdiv_eq_ediv_of_nonneg (by omega)]; omega
      have q5 : IntKind.u8.wrap (48 + (d : Int)) = (x : Int) := by rw [IntKind.wrap_u8]; omega
      have q6 : (d : Int) < 10 := by omega
      have q7 : (m1 : Int) < 1000000000000 := by omega
      have t1 : ((9 : Int) < (m : Int)) = True := eq_true (by omega)
      have kA := Cells.new wr #[.int .u8 (x : Int)] 5
      have hcv : (convert 26 9 (.slice (some ⟨H, 0, none⟩) 1 1)).run Tryd.prog (wr.alloc (.cells #[.int .u8 (x : Int)] 5)) = .ok (.string (st [x])) (wr.alloc (.cells #[.int .u8 (x : Int)] 5)) := conv_st 1 1 rfl (fun y hy => by simp at hy; omega) (Or.inr ⟨H, 0, rfl, fun i z hz => by
        cases i with
        | zero => simp at hz; rw [← hz, ← hH]; exact kA.cell 0
        | succ i => simp at hz⟩)
      have z1 := st_one x
      obtain ⟨sx, hsx⟩ : ∃ sx, st [x] = sx := ⟨_, rfl⟩
      rw [hsx] at hcv z1
      obtain ⟨sq, hsq⟩ : ∃ sq, sx ++ sp = sq := ⟨_, rfl⟩
      have AG : Aside (sq = st (x :: p) ∧ dgs m1 ++ (x :: p) = D ∧ m1 < 1000000000000 ∧ m1 < m ∧ m < gk ∧ Below w.heap.size w (wr.alloc (.cells #[.int .u8 (x : Int)] 5))) := by
        refine ⟨?_, ?_, by omega, by omega, hmg, hbel.trans (((Below.refl _ wr).alloc (Nat.le_refl _) _).mono hbel.size)⟩
        · rw [← hsq, ← hsx, hsp, st_append]; rfl
        · rw [← hpD, dgs_more h9, hm1, hd, hx]; simp
      clear hI hsp hpD hmb hmg hbel hpl hnp h9 hd hx hm1 kA hsx
      go_wp2_with fail
      have ag := AG.out
      go_roundg m
      case measure => omega
      case rel => exact ⟨m1, sq, rfl, rfl, ⟨x :: p, ag.1, ag.2.1, ag.2.2.1, ag.2.2.2.1, ag.2.2.2.2.2⟩⟩
    · obtain ⟨x, hx⟩ : ∃ x, 48 + m = x := ⟨_, rfl⟩
      have q5 : IntKind.u8.wrap (48 + (m : Int)) = (x : Int) := by rw [IntKind.wrap_u8]; omega
      have q6 : (m : Int) < 10 := by omega
      have t1 : ((9 : Int) < (m : Int)) = False := eq_false (by omega)
      have kA := Cells.new wr #[.int .u8 (x : Int)] 5
      have hcv : (convert 26 9 (.slice (some ⟨H, 0, none⟩) 1 1)).run Tryd.prog (wr.alloc (.cells #[.int .u8 (x : Int)] 5)) = .ok (.string (st [x])) (wr.alloc (.cells #[.int .u8 (x : Int)] 5)) := conv_st 1 1 rfl (fun y hy => by simp at hy; omega) (Or.inr ⟨H, 0, rfl, fun i z hz => by
        cases i with
        | zero => simp at hz; rw [← hz, ← hH]; exact kA.cell 0
        | succ i => simp at hz⟩)
      have z1 := st_one x
      obtain ⟨sx, hsx⟩ : ∃ sx, st [x] = sx := ⟨_, rfl⟩
      rw [hsx] at hcv z1
      obtain ⟨sq, hsq⟩ : ∃ sq, sx ++ sp = sq := ⟨_, rfl⟩
      have AG : Aside (sq = st D ∧ Below w.heap.size w (wr.alloc (.cells #[.int .u8 (x : Int)] 5))) := by
        refine ⟨?_, hbel.trans (((Below.refl _ wr).alloc (Nat.le_refl _) _).mono hbel.size)⟩
        rw [← hsq, ← hsx, hsp, st_append, ← hpD, dgs_small (by omega), hx]
      clear hI hsp hpD hmb hmg hbel hpl hnp h9 hx kA hsx
      go_wp2_with fail
      go_ret
      exact ⟨by rw [← AG.out.1]; rfl, AG.out.2⟩
theorem dgs_mono : ∀ (f n : Nat), n ≤ f → (dgs n).length ≤ (dgs (n + 1)).length
  | 0, n, h => by
    have : n = 0 := by omega
    subst this; decide
  | f + 1, n, h => by
    by_cases h9 : n ≤ 9
    · rw [dgs_small h9]
      by_cases h8 : n + 1 ≤ 9
      · rw [dgs_small h8]; exact Nat.le_refl _
      · rw [dgs_more (by omega), List.length_append]; simp
    · rw [dgs_more (n := n) (by omega), dgs_more (n := n + 1) (by omega), List.length_append, List.length_append]
      have : (n + 1) / 10 = n / 10 ∨ (n + 1) / 10 = n / 10 + 1 := by omega
      rcases this with e | e
      · rw [e]; simp
      · rw [e]
        have := dgs_mono f (n / 10) (by omega)
        simp; omega
/-- How long a record is. -/
def fnd : Nat → Nat → Nat → Nat
  | 0, _, n => n
  | f + 1, s, n => if n = s + (dgs n).length then n else fnd f s (n + 1)
theorem fnd_ok : ∀ (f s n : Nat), n ≤ s + (dgs n).length → s + 14 ≤ n + f → n + f < 1000000000000 → fnd f s n = s + (dgs (fnd f s n)).length ∧ fnd f s n ≤ s + 12
  | 0, s, n, h1, h2, h3 => by have := dgs_len (n := n) (by omega); omega
  | f + 1, s, n, h1, h2, h3 => by
    have hl := dgs_len (n := n) (by omega)
    unfold fnd
    split
    · rename_i e; exact ⟨e, by omega⟩
    · have := dgs_mono n n (Nat.le_refl _)
      exact fnd_ok f s (n + 1) (by omega) (by omega) (by omega)
def sdl (s : Nat) : Nat := fnd 20 s s
theorem sdl_ok {s : Nat} (h : s < 1000000) : sdl s = s + (dgs (sdl s)).length ∧ sdl s ≤ s + 12 := fnd_ok 20 s s (by omega) (by omega) (by omega)
/-- A record as it is written. -/
def sad (k v : List Nat) : List Nat := dgs (sdl (k.length + v.length + 3)) ++ [32] ++ k ++ [61] ++ v ++ [10]
theorem sad_len {k v : List Nat} (h : k.length + v.length + 3 < 1000000) : (sad k v).length = sdl (k.length + v.length + 3) := by
  unfold sad
  have := (sdl_ok h).1
  simp only [List.length_append, List.length_singleton]
  omega
set_option maxRecDepth 20000 in
set_option maxHeartbeats 1000000 in
theorem said_c (k v : List Nat) (hl : k.length + v.length + 3 < 1000000) (w : World) : Calls Tryd.prog 14 #[.string (st k), .string (st v)] w fun e w' => e = .returned (.string (st (sad k v))) ∧ Below w.heap.size w w' := by
  obtain ⟨s0, hs0⟩ : ∃ s0, k.length + v.length + 3 = s0 := ⟨_, rfl⟩
  have hok := sdl_ok hl
  rw [hs0] at hok hl
  obtain ⟨sk, hsk⟩ : ∃ sk, st k = sk := ⟨_, rfl⟩
  obtain ⟨sv0, hsv⟩ : ∃ sv0, st v = sv0 := ⟨_, rfl⟩
  obtain ⟨nk, hnk⟩ : ∃ nk, k.length = nk := ⟨_, rfl⟩
  obtain ⟨nv, hnv⟩ : ∃ nv, v.length = nv := ⟨_, rfl⟩
  have zk : sk.size = nk := by rw [← hsk, st_size, hnk]
  have zv : sv0.size = nv := by rw [← hsv, st_size, hnv]
  obtain ⟨ans, hans⟩ : ∃ ans, st (sad k v) = ans := ⟨_, rfl⟩
  rw [hans, hsk, hsv]
  have A : Aside (k.length + v.length + 3 = s0 ∧ sdl s0 = s0 + (dgs (sdl s0)).length ∧ sdl s0 ≤ s0 + 12 ∧ s0 < 1000000 ∧ st k = sk ∧ st v = sv0 ∧ k.length = nk ∧ v.length = nv ∧ st (sad k v) = ans) := ⟨hs0, hok.1, hok.2, hl, hsk, hsv, hnk, hnv, hans⟩
  have b1 : (nk : Int) < 1000000 := by omega
  have b2 : (nv : Int) < 1000000 := by omega
  have hs0i : (nk : Int) + (nv : Int) + 3 = (s0 : Int) := by omega
  clear hs0 hok hl hsk hsv hnk hnv hans
  go_enter Tryd.func14, Tryd.ntmps14
  go_wp2_with fail
  go_loopg [5] 21 (fun gg s5 wr => ∃ n : Nat, s5 = .int .i64 (n : Int) ∧ Aside (∃ f, f + 1 = gg ∧ fnd f s0 n = sdl s0 ∧ n ≤ s0 + (dgs n).length ∧ n + f = s0 + 20 ∧ Below w.heap.size w wr))
  case atStart => exact ⟨s0, rfl, ⟨20, rfl, rfl, by omega, rfl, Below.refl _ _⟩⟩
  case round =>
    obtain ⟨n, rfl, hI⟩ := hrel
    obtain ⟨f, hfg, hfd, hle, hnf, hbel⟩ := hI.out
    have a0 := A.out
    have hnb : n < 1000000000000 := by omega
    have hdl := dgs_len hnb
    have hdg := fun u => digits_c n hnb u
    obtain ⟨sd, hsd⟩ : ∃ sd, st (dgs n) = sd := ⟨_, rfl⟩
    obtain ⟨nd, hnd⟩ : ∃ nd, (dgs n).length = nd := ⟨_, rfl⟩
    have zd : sd.size = nd := by rw [← hsd, st_size, hnd]
    simp only [hsd] at hdg
    have hd1 := hdg wr
    have b3 : (nd : Int) < 100 := by omega
    have b4 : (n : Int) < 2000000 := by omega
    by_cases he : n = s0 + nd
    · have t1 : ((n : Int) != (nd : Int) + (nk : Int) + (nv : Int) + 3) = false := by
        have : (n : Int) = (nd : Int) + (nk : Int) + (nv : Int) + 3 := by omega
        rw [this]; simp
      have t2 : ((n : Int) == (nd : Int) + (nk : Int) + (nv : Int) + 3) = true := by rw [beq_iff_eq]; omega
      have hfin : n = sdl s0 := by
        rw [← hfd]
        cases f with
        | zero => rfl
        | succ f => unfold fnd; rw [if_pos (by omega)]
      obtain ⟨x1, hx1⟩ : ∃ x, sd ++ (⟨#[32]⟩ : ByteArray) = x := ⟨_, rfl⟩
      obtain ⟨x2, hx2⟩ : ∃ x, x1 ++ sk = x := ⟨_, rfl⟩
      obtain ⟨x3, hx3⟩ : ∃ x, x2 ++ (⟨#[61]⟩ : ByteArray) = x := ⟨_, rfl⟩
      obtain ⟨x4, hx4⟩ : ∃ x, x3 ++ sv0 = x := ⟨_, rfl⟩
      obtain ⟨x5, hx5⟩ : ∃ x, x4 ++ (⟨#[10]⟩ : ByteArray) = x := ⟨_, rfl⟩
      have y1 : x1.size = nd + 1 := by rw [← hx1, ByteArray.size_append, zd]; rfl
      have y2 : x2.size = nd + 1 + nk := by rw [← hx2, ByteArray.size_append, y1, zk]
      have y3 : x3.size = nd + 1 + nk + 1 := by rw [← hx3, ByteArray.size_append, y2]; rfl
      have y4 : x4.size = nd + 1 + nk + 1 + nv := by rw [← hx4, ByteArray.size_append, y3, zv]
      have v1 : (9223372036854775807 < nd + 1) = False := eq_false (by omega)
      have v2 : (9223372036854775807 < nd + 1 + nk) = False := eq_false (by omega)
      have v3 : (9223372036854775807 < nd + 1 + nk + 1) = False := eq_false (by omega)
      have v4 : (9223372036854775807 < nd + 1 + nk + 1 + nv) = False := eq_false (by omega)
      have v5 : (9223372036854775807 < nd + 1 + nk + 1 + nv + 1) = False := eq_false (by omega)
      have z32 : (⟨#[32]⟩ : ByteArray).size = 1 := rfl
      have z61 : (⟨#[61]⟩ : ByteArray).size = 1 := rfl
      have z10 : (⟨#[10]⟩ : ByteArray).size = 1 := rfl
      have AX : Aside (x5 = ans ∧ Below w.heap.size w wr ∧ ∀ u, Calls Tryd.prog 15 #[.int .i64 (n : Int)] u fun e w' => e = .returned (.string sd) ∧ Below u.heap.size u w') := by
        refine ⟨?_, hbel, hdg⟩
        rw [← a0.2.2.2.2.2.2.2.2, ← hx5, ← hx4, ← hx3, ← hx2, ← hx1, ← hsd, ← a0.2.2.2.2.1, ← a0.2.2.2.2.2.1]
        unfold sad
        rw [a0.1, ← hfin, ← st_append, ← st_append, ← st_append, ← st_append, ← st_append]
        rfl
      clear hI hfg hfd hle hnf hbel a0 hnb hdl hdg hsd hnd he hfin
      go_upto_region 4 with (go_at_call 15; refine hd1.mono ?_; rintro e1 w1 ⟨rfl, b1⟩)
      have hd2 := AX.out.2.2 w1
      clear hd1 t1 t2
      go_wp2_with (go_at_call 15; refine hd2.mono ?_; rintro e2 w2 ⟨rfl, b2⟩)
      go_ret
      have ax := AX.out
      exact ⟨by rw [← ax.1]; rfl, (ax.2.1.trans (b1.mono ax.2.1.size)).trans (b2.mono (by have := b1.size; have := ax.2.1.size; omega))⟩
    · have t1 : ((n : Int) != (nd : Int) + (nk : Int) + (nv : Int) + 3) = true := by rw [bne_iff_ne]; omega
      have t2 : ((n : Int) == (nd : Int) + (nk : Int) + (nv : Int) + 3) = false := by rw [beq_eq_false_iff_ne]; omega
      have AG : Aside (∃ f', f' + 1 = gk - 1 ∧ 0 < gk ∧ fnd f' s0 (n + 1) = sdl s0 ∧ n + 1 ≤ s0 + (dgs (n + 1)).length ∧ n + 1 + f' = s0 + 20 ∧ Below w.heap.size w wr) := by
        have hm := dgs_mono n n (Nat.le_refl _)
        cases f with
        | zero => exfalso; omega
        | succ f =>
          refine ⟨f, by omega, by omega, ?_, by omega, by omega, hbel⟩
          rw [← hfd]
          conv => rhs; unfold fnd
          rw [if_neg (by omega)]
      clear hI hfg hfd hle hnf hbel a0 hnb hdl hdg hsd hnd he
      go_wp2_with (go_at_call 15; refine hd1.mono ?_; rintro e1 w1 ⟨rfl, b1⟩)
      obtain ⟨f', g1, g2, g3, g4, g5, g6⟩ := AG.out
      go_roundg (gk - 1)
      case measure => omega
      case rel => exact ⟨n + 1, by go_num, ⟨f', g1, g3, g4, g5, g6.trans (b1.mono g6.size)⟩⟩
theorem other_c (k : Nat) (hk : k < 256) (w : World) : Calls Tryd.prog 12 #[.int .u8 (k : Int)] w fun e w' => e = .returned (.int .u8 (((if k % 2 = 0 then 75 else 103) : Nat) : Int)) ∧ Below w.heap.size w w' := by
  obtain ⟨r, hr⟩ : ∃ r, k % 2 = r := ⟨_, rfl⟩
  have q1 : (k : Int) % 2 = (r : Int) := by omega
  have q2 : Int.tmod (k : Int) 2 = (r : Int) := by rw [Int.tmod_eq_emod_of_nonneg (by omega)]; omega
  have b1 : Below w.heap.size w (w.alloc (.cells #[.int .u8 75, .int .u8 103] 5)) := (Below.refl _ w).alloc (Nat.le_refl _) _
  rw [hr]
  have hc : r = 0 ∨ r = 1 := by omega
  have AB : Aside (Below w.heap.size w (w.alloc (.cells #[.int .u8 75, .int .u8 103] 5))) := b1
  clear hk hr b1
  rcases hc with rfl | rfl
  all_goals
    go_enter Tryd.func12, Tryd.ntmps12
    go_wp2_with fail
    go_ret
    exact ⟨rfl, AB.out⟩
end Go.Proofs.YtcmmjbkgoafbnabDoor

/-
  What Octal, Binary and Field come to, the program's: the number of a field of bytes that lie side by side, or none.
  Conditions: the bytes lie side by side, and are no more than the slice's room.
-/
namespace Go.Proofs.YtcmmjbkgoafbnabDoor
open Go.RowKit
set_option linter.unusedVariables false
theorem Lies.drew {w : World} {a : Option Addr} {l : List Nat} (h : Lies w a l) : Lies w.drew a l := h
theorem Oct.skip {l : List Nat} (h : Oct l) : Oct (skip l) := fun x hx => h x (skip_mem l x hx)
theorem lies_drop {w : World} {b o : Nat} {l : List Nat} (h : ∀ (i x : Nat), l[i]? = some x → w.cell? ⟨b, o + i, none⟩ = some (.int .u8 (x : Int))) (k : Nat) : Lies w (some ⟨b, o + k, none⟩) (l.drop k) :=
  Or.inr ⟨b, o + k, rfl, fun i x hx => by rw [List.getElem?_drop] at hx; rw [Nat.add_assoc]; exact h _ _ hx⟩
theorem beq_int (x c : Nat) : ((x : Int) == (c : Int)) = decide (x = c) := by
  by_cases h : x = c
  · simp [h]
  · rw [decide_eq_false h, beq_eq_false_iff_ne]; omega
theorem shr_min (v n : Nat) (hv : v < 18446744073709551616) : v / 2 ^ min n 64 = 0 ↔ v / 2 ^ n = 0 := by
  by_cases h : n ≤ 64
  · rw [Nat.min_eq_left h]
  · rw [Nat.min_eq_right (by omega)]
    have h2 : 2 ^ 64 ≤ 2 ^ n := Nat.pow_le_pow_right (by decide) (by omega)
    constructor
    · intro _; exact Nat.div_eq_of_lt (by omega)
    · intro _; exact Nat.div_eq_of_lt (by omega)
theorem fits_c (v n : Nat) (w : World) (hv : v < 18446744073709551616) (hn : n < 1000) :
    Calls Tryd.prog 46 #[.int .u64 v, .int .i64 n] w fun e w' => e = .returned (.bool (decide (v / 2 ^ n = 0))) ∧ w = w' := by
  have e : ((v : Int) / 2 ^ min n 64 == 0) = decide (v / 2 ^ n = 0) := by
    rw [show (v : Int) / 2 ^ min n 64 = ((v / 2 ^ min n 64 : Nat) : Int) by push_cast; rfl, show (0 : Int) = ((0 : Nat) : Int) from rfl, beq_int]
    exact decide_eq_decide.2 (shr_min v n hv)
  generalize decide (v / 2 ^ n = 0) = q at *
  go_enter Tryd.func46, Tryd.ntmps46
  go_wp2
  go_ret
  exact ⟨rfl, rfl⟩
theorem pad_c (x : Nat) (w : World) :
    Calls Tryd.prog 44 #[.int .u8 x] w fun e w' => e = .returned (.bool (pad x)) ∧ w = w' := by
  obtain ⟨p, hp⟩ : ∃ p, pad x = p := ⟨_, rfl⟩
  rw [hp]
  have hp' : ((x : Int) == 0 || (x : Int) == 32) = p := by
    rw [← hp]; unfold pad
    have h1 := beq_int x 0
    have h2 := beq_int x 32
    have h3 : (x == 0) = decide (x = 0) := rfl
    have h4 : (x == 32) = decide (x = 32) := rfl
    rw [h3, h4, ← h1, ← h2]; rfl
  by_cases h0 : x = 0
  · have h1 : ((x : Int) == 0) = true := by subst h0; rfl
    rw [h1, Bool.true_or] at hp'
    clear hp h0
    go_enter Tryd.func44, Tryd.ntmps44
    go_wp2
    go_ret
    exact ⟨by rw [← hp']; rfl, rfl⟩
  · have h1 : ((x : Int) == 0) = false := by rw [beq_eq_false_iff_ne]; omega
    rw [h1, Bool.false_or] at hp'
    clear hp h0
    go_enter Tryd.func44, Tryd.ntmps44
    go_wp2
    go_ret
    exact ⟨by rw [← hp']; rfl, rfl⟩
set_option maxHeartbeats 1000000 in
theorem allpad_c (a : Option Addr) (l : List Nat) (L cap : Nat) (w : World) (hL : l.length = L) (hcap : L < 9223372036854775808) (h : Lies w a l) :
    Calls Tryd.prog 45 #[.slice a L cap] w fun e w' => e = .returned (.bool (pads l)) ∧ w = w' := by
  have AL : Aside (l.length = L ∧ L < 9223372036854775808) := ⟨hL, hcap⟩
  clear hL hcap
  go_enter Tryd.func45, Tryd.ntmps45
  go_wp2_with fail
  go_loopg [7] L (fun g si wr => ∃ k : Nat, k + g = L ∧ si = .int .i64 k ∧ pads (l.drop k) = pads l ∧ w = wr)
  case atStart => exact ⟨0, by omega, rfl, by rw [List.drop_zero], rfl⟩
  case round =>
    obtain ⟨k, hk, rfl, hp, rfl⟩ := hrel
    have AK : Aside (k + gk = L) := hk
    clear hk
    by_cases hlt : k < L
    · have hki : (k : Int) < (L : Int) := by omega
      have hkl : k < l.length := by rw [AL.out.1]; exact hlt
      have hx := List.getElem?_eq_getElem hkl
      have hd := List.drop_eq_getElem_cons hkl
      obtain ⟨x, hxx⟩ : ∃ x, l[k] = x := ⟨_, rfl⟩
      rw [hxx] at hx hd
      rw [hd, pads, List.all_cons] at hp
      have hkb : (k : Int) + 1 < 9223372036854775808 := by have := AL.out; omega
      rcases h with rfl | ⟨b, o, rfl, hc⟩
      · simp at hkl
      have hcell := hc k x hx
      clear hc hx hxx hkl hd
      cases hpx : pad x with
      | false =>
        rw [hpx, Bool.false_and] at hp
        have AP : Aside (false = pads l) := hp
        have cx := pad_c x w
        rw [hpx] at cx
        clear hp hpx
        go_wp2_with (go_at_call 44; refine cx.mono ?_; rintro e3 w3 ⟨rfl, rfl⟩)
        go_ret
        exact ⟨by rw [← AP.out]; rfl, rfl⟩
      | true =>
        rw [hpx, Bool.true_and] at hp
        have AP : Aside (pads (l.drop (k + 1)) = pads l) := hp
        have cx := pad_c x w
        rw [hpx] at cx
        clear hp hpx
        go_wp2_with (go_at_call 44; refine cx.mono ?_; rintro e3 w3 ⟨rfl, rfl⟩)
        have hk := AK.out
        go_roundg (gk - 1)
        case measure => omega
        case rel => exact ⟨k + 1, by omega, by go_num, AP.out, rfl⟩
    · have hki : ¬ (k : Int) < (L : Int) := by omega
      have hk2 : l.drop k = [] := List.drop_eq_nil_of_le (by have := AL.out; omega)
      rw [hk2] at hp
      have AP : Aside (pads [] = pads l) := hp
      clear hp hk2
      go_wp2_with fail
      go_ret
      exact ⟨by rw [← AP.out]; rfl, rfl⟩
set_option maxHeartbeats 1000000 in
theorem behind_c (a : Option Addr) (l : List Nat) (L cap : Nat) (w : World) (hL : l.length = L) (hlc : L ≤ cap) (hcap : cap < 9223372036854775808) (h : Lies w a l) :
    Calls Tryd.prog 43 #[.slice a L cap] w fun e w' => ∃ a' K c', e = .returned (.slice a' K c') ∧ (skip l).length = K ∧ K ≤ c' ∧ c' ≤ cap ∧ Lies w a' (skip l) ∧ w = w' := by
  go_enter Tryd.func43, Tryd.ntmps43
  go_wp2_with fail
  go_loopg [0] L (fun g s0 wr => ∃ (a' : Option Addr) (c' M : Nat) (m : List Nat), s0 = .slice a' M c' ∧ M = g ∧ m.length = M ∧ M ≤ c' ∧ c' ≤ cap ∧ Lies w a' m ∧ skip m = skip l ∧ w = wr)
  case atStart => exact ⟨a, cap, L, l, rfl, rfl, hL, by omega, Nat.le_refl _, h, rfl, rfl⟩
  case round =>
    obtain ⟨a', c', M, m, rfl, hg, hM, hMc, hcc, hl', hs, rfl⟩ := hrel
    have AG : Aside (M = gk ∧ m.length = M) := ⟨hg, hM⟩
    clear hg
    cases m with
    | nil =>
      have hM0 : M = 0 := by simpa using hM.symm
      subst hM0
      rw [skip] at hs
      have AS : Aside ([] = skip l) := hs
      clear hs hM
      go_wp2_with fail
      go_ret
      exact ⟨a', 0, c', rfl, by rw [← AS.out]; rfl, Nat.zero_le _, hcc, by rw [← AS.out]; exact Or.inl rfl, rfl⟩
    | cons x r =>
      have hM1 : M = r.length + 1 := by simpa using hM.symm
      have hp : (0 : Int) < (M : Int) := by omega
      rcases hl' with hl' | ⟨b, o, rfl, hc⟩
      · cases hl'
      have hc0 := hc 0 x rfl
      rw [Nat.add_zero] at hc0
      have AR : Aside (M = r.length + 1) := hM1
      have hM2 : 0 < M := by omega
      clear hM hM1
      by_cases hx : x = 32
      · have hx2 : ((x : Int) == 32) = true := by simp; omega
        have AS : Aside (skip r = skip l) := by show _ = _; rw [← hs, skip, if_pos hx]
        have AC : Aside (Lies w (some ⟨b, o + 1, none⟩) r) := lies_drop hc 1
        clear hs hc hx
        go_wp2_with fail
        · have h1 := AG.out.1
          have h2 := AR.out
          have h3 : r = [] := List.eq_nil_of_length_eq_zero (by omega)
          go_roundg (gk - 1)
          case measure => omega
          case rel => exact ⟨_, _, _, r, rfl, by omega, by omega, by omega, by omega, Or.inl h3, AS.out, rfl⟩
        · have h1 := AG.out.1
          have h2 := AR.out
          go_roundg (gk - 1)
          case measure => omega
          case rel => exact ⟨_, _, _, r, rfl, by omega, by omega, by omega, by omega, AC.out, AS.out, rfl⟩
      · have hx2 : ((x : Int) == 32) = false := by rw [beq_eq_false_iff_ne]; omega
        rw [skip, if_neg hx] at hs
        have AS : Aside (x :: r = skip l ∧ Lies w (some ⟨b, o, none⟩) (x :: r)) := ⟨hs, Or.inr ⟨b, o, rfl, hc⟩⟩
        clear hs hc hx
        go_wp2_with fail
        go_ret
        exact ⟨_, M, c', rfl, by rw [← AS.out.1]; exact AG.out.2, hMc, hcc, by rw [← AS.out.1]; exact AS.out.2, rfl⟩
theorem or_dig (v x : Nat) (hv : v < 1152921504606846976) (h1 : 48 ≤ x) (h2 : x ≤ 55) : bits .or .u64 (IntKind.u64.wrap ((v : Int) * 8)) ((x : Int) - 48) = ((8 * v + (x - 48) : Nat) : Int) := by
  have e : IntKind.u64.wrap ((v : Int) * 8) = ((8 * v : Nat) : Int) := by rw [IntKind.wrap_u64]; omega
  have e2 : (x : Int) - 48 = ((x - 48 : Nat) : Int) := by omega
  rw [e, e2, u64_or_nat _ _ (by omega) (by omega)]
  congr 1
  exact (Nat.two_pow_add_eq_or_of_lt (i := 3) (b := x - 48) (by omega) v).symm
/-- A reader's answer. -/
def ans (o : Option Nat) : Value := .tuple #[.int .u64 (o.getD 0 : Nat), .bool o.isSome]
set_option maxRecDepth 100000 in
set_option maxHeartbeats 1000000 in
theorem octal_c (a : Option Addr) (l : List Nat) (L cap : Nat) (w : World) (hL : l.length = L) (hb : Oct l) (hlc : L ≤ cap) (hcap : cap < 9223372036854775808) (h : Lies w a l) :
    Calls Tryd.prog 35 #[.slice a L cap] w fun e w' => e = .returned (ans (oct l)) ∧ w = w' := by
  have cb := behind_c a l L cap w hL hlc hcap h
  have hbm := hb.skip
  obtain ⟨m, hmm⟩ : ∃ m, skip l = m := ⟨_, rfl⟩
  have ho : oct l = digs 0 m := by unfold oct; rw [hmm]
  rw [hmm] at hbm cb
  rw [ho]
  clear ho hmm hb h hL hlc
  go_enter Tryd.func35, Tryd.ntmps35
  go_wp2_with fail
  go_step3
  go_wp2_with fail
  refine cb.mono ?_
  rintro e w' ⟨a', K, c', rfl, hK, hKc, hcc, hm, rfl⟩
  clear cb
  have AM : Aside (m.length = K ∧ K ≤ c' ∧ c' ≤ cap ∧ cap < 9223372036854775808) := ⟨hK, hKc, hcc, hcap⟩
  clear hK hKc hcc hcap
  go_wp2_with fail
  go_step3
  go_wp2_with fail
  go_loopg [4, 11] K (fun g sv si wr => ∃ k v : Nat, k + g = K ∧ si = .int .i64 k ∧ sv = .int .u64 v ∧ v < 9223372036854775808 ∧ digs v (m.drop k) = digs 0 m ∧ w = wr)
  case atStart => exact ⟨0, 0, by omega, rfl, rfl, by decide, by rw [List.drop_zero], rfl⟩
  case round =>
    obtain ⟨k, v, hk, rfl, rfl, hv, hd, rfl⟩ := hrel
    have AK : Aside (k + gk = K) := hk
    clear hk
    by_cases hlt : k < K
    · have hki : (k : Int) < (K : Int) := by omega
      have hkl : k < m.length := by rw [AM.out.1]; exact hlt
      have hx := List.getElem?_eq_getElem hkl
      have hx2 := hbm _ (List.getElem_mem hkl)
      have hdm := List.drop_eq_getElem_cons hkl
      obtain ⟨x, hxx⟩ : ∃ x, m[k] = x := ⟨_, rfl⟩
      rw [hxx] at hx hdm hx2
      have hkb : (k : Int) + 1 < 9223372036854775808 := by have := AM.out; omega
      have hkc : k ≤ c' := by have := AM.out; omega
      have hkn : ¬ c' = k := by have := AM.out; omega
      rcases hm with rfl | ⟨b, o, rfl, hc⟩
      · simp at hkl
      have hcell := hc k x hx
      have hall := allpad_c (some ⟨b, o + k, none⟩) (m.drop k) (K - k) (c' - k) w (by rw [List.length_drop, AM.out.1]) (by have := AM.out; omega) (lies_drop hc k)
      rw [hdm] at hd hall
      rw [digs] at hd
      rw [pads, List.all_cons] at hall
      clear hc hx hxx hkl hdm
      have cx := pad_c x w
      cases hpx : pad x with
      | true =>
        rw [hpx] at cx hd hall
        rw [Bool.true_and] at hall
        rw [if_pos rfl] at hd
        cases hpr : pads (m.drop (k + 1)) with
        | true =>
          rw [hpr] at hd
          rw [if_pos rfl] at hd
          rw [show (m.drop (k + 1)).all pad = true from hpr] at hall
          have AD : Aside (some v = digs 0 m) := hd
          clear hd hpr hpx
          go_wp2_with fail
          refine cx.mono ?_
          rintro e3 w3 ⟨rfl, rfl⟩
          go_wp2_with fail
          refine hall.mono ?_
          rintro e3 w3 ⟨rfl, rfl⟩
          go_wp2_with fail
          (try rw [Exit.noGoto_ret]); go_ret2
          exact ⟨by rw [← AD.out]; rfl, rfl⟩
        | false =>
          rw [hpr] at hd
          rw [if_neg (by decide)] at hd
          rw [show (m.drop (k + 1)).all pad = false from hpr] at hall
          have AD : Aside (none = digs 0 m) := hd
          clear hd hpr hpx
          go_wp2_with fail
          refine cx.mono ?_
          rintro e3 w3 ⟨rfl, rfl⟩
          go_wp2_with fail
          refine hall.mono ?_
          rintro e3 w3 ⟨rfl, rfl⟩
          go_wp2_with fail
          (try rw [Exit.noGoto_ret]); go_ret2
          exact ⟨by rw [← AD.out]; rfl, rfl⟩
      | false =>
        rw [hpx] at cx hd
        rw [if_neg (by decide)] at hd
        clear hall hpx
        by_cases hdig : x < 48 ∨ 55 < x
        · rw [if_pos hdig] at hd
          have AD : Aside (none = digs 0 m) := hd
          clear hd
          rcases hdig with hdig | hdig
          · have h1 : (x : Int) < 48 := by omega
            go_wp2_with fail
            refine cx.mono ?_
            rintro e3 w3 ⟨rfl, rfl⟩
            go_wp2_with fail
            (try rw [Exit.noGoto_ret]); go_ret2
            exact ⟨by rw [← AD.out]; rfl, rfl⟩
          · have h1 : ¬ (x : Int) < 48 := by omega
            have h2 : (55 : Int) < x := by omega
            go_wp2_with fail
            refine cx.mono ?_
            rintro e3 w3 ⟨rfl, rfl⟩
            go_wp2_with fail
            (try rw [Exit.noGoto_ret]); go_ret2
            exact ⟨by rw [← AD.out]; rfl, rfl⟩
        · rw [if_neg hdig] at hd
          have h1 : ¬ (x : Int) < 48 := by omega
          have h2 : ¬ (55 : Int) < x := by omega
          have cf := fits_c v 60 w (by omega) (by decide)
          by_cases hgr : 1152921504606846976 ≤ v
          · rw [if_pos hgr] at hd
            rw [decide_eq_false (by omega)] at cf
            have AD : Aside (none = digs 0 m) := hd
            clear hd hdig hgr hv hkb
            go_wp2_with fail
            refine cx.mono ?_
            rintro e3 w3 ⟨rfl, rfl⟩
            go_wp2_with fail
            refine cf.mono ?_
            rintro e3 w3 ⟨rfl, rfl⟩
            go_wp2_with fail
            (try rw [Exit.noGoto_ret]); go_ret2
            exact ⟨by rw [← AD.out]; rfl, rfl⟩
          · rw [if_neg hgr] at hd
            rw [decide_eq_true (by omega)] at cf
            have hod := or_dig v x (by omega) (by omega) (by omega)
            have AD : Aside (digs (8 * v + (x - 48)) (m.drop (k + 1)) = digs 0 m ∧ 8 * v + (x - 48) < 9223372036854775808) := ⟨hd, by omega⟩
            obtain ⟨y, hy⟩ : ∃ y, 8 * v + (x - 48) = y := ⟨_, rfl⟩
            rw [hy] at hod AD
            have AO : Aside (bits .or .u64 (IntKind.u64.wrap ((v : Int) * 8)) ((x : Int) - 48) = (y : Int)) := hod
            clear hd hdig hy hgr hv hkb hod
            go_wp2_with fail
            refine cx.mono ?_
            rintro e3 w3 ⟨rfl, rfl⟩
            go_wp2_with fail
            refine cf.mono ?_
            rintro e3 w3 ⟨rfl, rfl⟩
            have hkb : (k : Int) + 1 < 9223372036854775808 := by have := AM.out; omega
            have hod := AO.out
            go_wp2_with fail
            have hk := AK.out
            go_roundg (gk - 1)
            case measure => omega
            case rel => exact ⟨k + 1, y, by omega, by go_num, rfl, AD.out.2, AD.out.1, rfl⟩
    · have hki : ¬ (k : Int) < (K : Int) := by omega
      have hk2 : m.drop k = [] := List.drop_eq_nil_of_le (by have := AM.out; omega)
      rw [hk2, digs] at hd
      have AD : Aside (some v = digs 0 m) := hd
      clear hd hk2
      go_wp2_with fail
      (try rw [Exit.noGoto_ret]); go_ret2
      exact ⟨by rw [← AD.out]; rfl, rfl⟩
end Go.Proofs.YtcmmjbkgoafbnabDoor

/-
  What Binary and Field come to, the program's: the number of a field of bytes that lie side by side, or none.
  Conditions: the bytes lie side by side, and are no more than the slice's room.
-/
namespace Go.Proofs.YtcmmjbkgoafbnabDoor
open Go.RowKit
set_option linter.unusedVariables false
theorem and128 : ∀ x : Fin 256, (x.val &&& 128 = 0) = (x.val < 128) := by decide +kernel
theorem and64 : ∀ x : Fin 256, (x.val &&& 64 = 0) = (x.val % 128 < 64) := by decide +kernel
theorem not128 : ∀ x : Fin 256, x.val &&& 127 = x.val % 128 := by decide +kernel
theorem top_bit (x : Nat) (hx : x < 256) : (bits .and .u8 (x : Int) 128 != 0) = decide (128 ≤ x) := by
  have h := and128 ⟨x, hx⟩
  rw [show (128 : Int) = ((128 : Nat) : Int) from rfl, u8_and_nat x 128 hx (by decide)]
  dsimp only at h
  by_cases h2 : 128 ≤ x
  · have h3 : ¬ (x &&& 128 = 0) := by rw [h]; omega
    rw [decide_eq_true h2, bne_iff_ne]; omega
  · have h3 : x &&& 128 = 0 := by rw [h]; omega
    rw [decide_eq_false h2, h3]; rfl
theorem next_bit (x : Nat) (hx : x < 256) (h2 : 128 ≤ x) : (bits .and .u8 (x : Int) 64 != 0) = decide (192 ≤ x) := by
  have h := and64 ⟨x, hx⟩
  rw [show (64 : Int) = ((64 : Nat) : Int) from rfl, u8_and_nat x 64 hx (by decide)]
  dsimp only at h
  by_cases h2 : 192 ≤ x
  · have h3 : ¬ (x &&& 64 = 0) := by rw [h]; omega
    rw [decide_eq_true h2, bne_iff_ne]; omega
  · have h3 : x &&& 64 = 0 := by rw [h]; omega
    rw [decide_eq_false h2, h3]; rfl
theorem low_bits (x : Nat) (hx : x < 256) (h2 : 128 ≤ x) : bits .andNot .u8 (x : Int) 128 = ((x - 128 : Nat) : Int) := by
  rw [show (128 : Int) = ((128 : Nat) : Int) from rfl, u8_andNot_nat x 128 hx (by decide)]
  have h := not128 ⟨x, hx⟩
  dsimp only at h
  rw [show 255 - 128 = 127 from rfl, h]
  omega
theorem or_byte (v x : Nat) (hv : v < 36028797018963968) (hx : x < 256) : bits .or .u64 (IntKind.u64.wrap ((v : Int) * 256)) (x : Int) = ((256 * v + x : Nat) : Int) := by
  have e : IntKind.u64.wrap ((v : Int) * 256) = ((256 * v : Nat) : Int) := by rw [IntKind.wrap_u64]; omega
  rw [e, u64_or_nat _ _ (by omega) (by omega)]
  congr 1
  exact (Nat.two_pow_add_eq_or_of_lt (i := 8) (b := x) hx v).symm
theorem marked_c (a : Option Addr) (l : List Nat) (L cap : Nat) (w : World) (hL : l.length = L) (hb : Oct l) (h : Lies w a l) :
    Calls Tryd.prog 36 #[.slice a L cap] w fun e w' => e = .returned (.bool (marked l)) ∧ w = w' := by
  cases l with
  | nil =>
    have hL0 : L = 0 := by simpa using hL.symm
    subst hL0
    go_enter Tryd.func36, Tryd.ntmps36
    go_wp2
    go_ret
    exact ⟨rfl, rfl⟩
  | cons x r =>
    rcases h with h | ⟨b, o, rfl, hc⟩
    · cases h
    have hL0 : 0 < L := by rw [← hL]; simp
    have hp : (0 : Int) < (L : Int) := by omega
    have hc0 := hc 0 x rfl
    rw [Nat.add_zero] at hc0
    have ht := top_bit x (hb x (by simp))
    have e : marked (x :: r) = decide (128 ≤ x) := rfl
    rw [e]
    generalize decide (128 ≤ x) = q at *
    clear hL hc e hb
    go_enter Tryd.func36, Tryd.ntmps36
    go_wp2
    go_ret
    exact ⟨rfl, rfl⟩
set_option maxRecDepth 100000 in
set_option maxHeartbeats 1000000 in
theorem binary_c (a : Option Addr) (l : List Nat) (L cap : Nat) (w : World) (hL : l.length = L) (hb : Oct l) (hlc : L ≤ cap) (hcap : cap < 9223372036854775808) (h : Lies w a l) :
    Calls Tryd.prog 37 #[.slice a L cap] w fun e w' => e = .returned (ans (bin l)) ∧ w = w' := by
  have cm := marked_c a l L cap w hL hb h
  cases l with
  | nil =>
    have hL0 : L = 0 := by simpa using hL.symm
    subst hL0
    go_enter Tryd.func37, Tryd.ntmps37
    go_wp2_with fail
    refine cm.mono ?_
    rintro e w' ⟨rfl, rfl⟩
    go_wp2_with fail
    go_ret2
    exact ⟨rfl, rfl⟩
  | cons x r =>
    rcases h with h | ⟨b, o, rfl, hc⟩
    · cases h
    have hL1 : L = r.length + 1 := by simpa using hL.symm
    have hL0 : 0 < L := by omega
    have hp : (0 : Int) < (L : Int) := by omega
    have hc0 := hc 0 x rfl
    rw [Nat.add_zero] at hc0
    have hx := hb x (by simp)
    have e : marked (x :: r) = decide (128 ≤ x) := rfl
    rw [e] at cm
    clear e
    by_cases h1 : 128 ≤ x
    · have hn := next_bit x hx h1
      rw [decide_eq_true h1] at cm
      by_cases h2 : 192 ≤ x
      · have e : bin (x :: r) = none := by rw [bin, if_neg (by omega)]
        rw [e]
        rw [decide_eq_true h2] at hn
        clear e hL hb hL1 hcap hlc
        go_enter Tryd.func37, Tryd.ntmps37
        go_wp2_with fail
        refine cm.mono ?_
        rintro e w' ⟨rfl, rfl⟩
        go_wp2_with fail
        go_ret2
        exact ⟨rfl, rfl⟩
      · have e : bin (x :: r) = bins (x - 128) r := by rw [bin, if_pos (by omega)]
        rw [e]
        rw [decide_eq_false h2] at hn
        have hlow := low_bits x hx h1
        obtain ⟨R, hR⟩ : ∃ R, r.length = R := ⟨_, rfl⟩
        have hLR : L - 1 = R := by omega
        have AM : Aside (r.length = R ∧ L = R + 1 ∧ L ≤ cap ∧ cap < 9223372036854775808) := ⟨hR, by omega, hlc, hcap⟩
        have hlies := lies_drop hc 1
        rw [List.drop_succ_cons, List.drop_zero] at hlies
        have hor : Oct r := fun y hy => hb y (List.mem_cons_of_mem _ hy)
        obtain ⟨v0, hv0⟩ : ∃ v0, x - 128 = v0 := ⟨_, rfl⟩
        have hv1 : v0 < 128 := by omega
        rw [hv0] at hlow ⊢
        clear e hL hb hL1 hcap hR hc h1 h2 hv0
        go_enter Tryd.func37, Tryd.ntmps37
        go_wp2_with fail
        refine cm.mono ?_
        rintro e w' ⟨rfl, rfl⟩
        go_wp2_with fail
        all_goals
          clear hlow hn hc0 cm
          go_loopg [4, 25] R (fun g sv si wr => ∃ k v : Nat, k + g = R ∧ si = .int .i64 k ∧ sv = .int .u64 v ∧ v < 9223372036854775808 ∧ bins v (r.drop k) = bins v0 r ∧ w = wr)
          case atStart => exact ⟨0, v0, by omega, rfl, rfl, by omega, by rw [List.drop_zero], rfl⟩
          case round =>
            obtain ⟨k, v, hk, rfl, rfl, hv, hd, rfl⟩ := hrel
            have AK : Aside (k + gk = R) := hk
            clear hk
            by_cases hlt : k < R
            · have hki : (k : Int) < (R : Int) := by omega
              have hkl : k < r.length := by rw [AM.out.1]; exact hlt
              have hx := List.getElem?_eq_getElem hkl
              have hx2 := hor _ (List.getElem_mem hkl)
              have hdm := List.drop_eq_getElem_cons hkl
              obtain ⟨y, hxx⟩ : ∃ y, r[k] = y := ⟨_, rfl⟩
              rw [hxx] at hx hdm hx2
              first
                | (exfalso; have := AM.out; omega)
                | (rcases hlies with hlies | ⟨b2, o2, hb2, hc⟩
                   · rw [hlies] at hkl; simp at hkl
                   cases hb2
                   have hcell := hc k y hx
                   rw [hdm, bins] at hd
                   clear hc hx hxx hkl hdm
                   have cf := fits_c v 55 w (by omega) (by decide)
                   by_cases hgr : 36028797018963968 ≤ v
                   · rw [if_pos hgr] at hd
                     rw [decide_eq_false (by omega)] at cf
                     have AD : Aside (none = bins v0 r) := hd
                     clear hd hgr hv
                     go_wp2_with fail
                     refine cf.mono ?_
                     rintro e3 w3 ⟨rfl, rfl⟩
                     go_wp2_with fail
                     go_ret2
                     exact ⟨by rw [← AD.out]; rfl, rfl⟩
                   · rw [if_neg hgr] at hd
                     rw [decide_eq_true (by omega)] at cf
                     have hod := or_byte v y (by omega) hx2
                     have AD : Aside (bins (256 * v + y) (r.drop (k + 1)) = bins v0 r ∧ 256 * v + y < 9223372036854775808) := ⟨hd, by omega⟩
                     obtain ⟨z, hz⟩ : ∃ z, 256 * v + y = z := ⟨_, rfl⟩
                     rw [hz] at hod AD
                     clear hd hz hgr hv
                     go_wp2_with fail
                     refine cf.mono ?_
                     rintro e3 w3 ⟨rfl, rfl⟩
                     have hkb : (k : Int) + 1 < 9223372036854775808 := by have := AM.out; omega
                     go_wp2_with fail
                     have hk := AK.out
                     go_roundg (gk - 1)
                     case measure => omega
                     case rel => exact ⟨k + 1, z, by omega, by go_num, rfl, AD.out.2, AD.out.1, rfl⟩)
            · have hki : ¬ (k : Int) < (R : Int) := by omega
              have hk2 : r.drop k = [] := List.drop_eq_nil_of_le (by have := AM.out; omega)
              rw [hk2, bins] at hd
              have AD : Aside (some v = bins v0 r) := hd
              clear hd hk2
              go_wp2_with fail
              go_ret2
              exact ⟨by rw [← AD.out]; rfl, rfl⟩
    · have e : bin (x :: r) = none := by rw [bin, if_neg (by omega)]
      rw [e]
      rw [decide_eq_false h1] at cm
      clear e hL hb hL1 hcap hlc
      go_enter Tryd.func37, Tryd.ntmps37
      go_wp2_with fail
      refine cm.mono ?_
      rintro e w' ⟨rfl, rfl⟩
      go_wp2_with fail
      go_ret2
      exact ⟨rfl, rfl⟩
theorem field_c (a : Option Addr) (l : List Nat) (L cap : Nat) (w : World) (hL : l.length = L) (hb : Oct l) (hlc : L ≤ cap) (hcap : cap < 9223372036854775808) (h : Lies w a l) :
    Calls Tryd.prog 29 #[.slice a L cap] w fun e w' => e = .returned (ans (fld l)) ∧ w = w' := by
  have cm := marked_c a l L cap w hL hb h
  have co := octal_c a l L cap w hL hb hlc hcap h
  have cb := binary_c a l L cap w hL hb hlc hcap h
  unfold fld
  cases hm : marked l with
  | true =>
    rw [hm] at cm
    rw [if_pos rfl]
    unfold ans at *
    generalize bin l = q at *
    clear hm co hL hb h hlc hcap
    go_enter Tryd.func29, Tryd.ntmps29
    go_wp2_with fail
    refine cm.mono ?_
    rintro e w' ⟨rfl, rfl⟩
    go_wp2_with fail
    refine cb.mono ?_
    rintro e w' ⟨rfl, rfl⟩
    go_wp2_with fail
    go_ret2
    exact ⟨rfl, rfl⟩
  | false =>
    rw [hm] at cm
    rw [if_neg (by decide)]
    unfold ans at *
    generalize oct l = q at *
    clear hm cb hL hb h hlc hcap
    go_enter Tryd.func29, Tryd.ntmps29
    go_wp2_with fail
    refine cm.mono ?_
    rintro e w' ⟨rfl, rfl⟩
    go_wp2_with fail
    refine co.mono ?_
    rintro e w' ⟨rfl, rfl⟩
    go_wp2_with fail
    go_ret2
    exact ⟨rfl, rfl⟩
end Go.Proofs.YtcmmjbkgoafbnabDoor

/-
  What putOctal and putBinary come to: a new row of bytes, the digits or the bytes of a number.
  Conditions: a width from 2 to 64.
-/
namespace Go.Proofs.YtcmmjbkgoafbnabDoor
open Go.RowKit
set_option linter.unusedVariables false
/-- Bytes as cells. -/
def vn (l : List Nat) : List Value := l.map fun x : Nat => Value.int .u8 (x : Int)
theorem vn_length (l : List Nat) : (vn l).length = l.length := by simp [vn]
theorem vn_get (l : List Nat) (j : Nat) : (vn l)[j]? = (l[j]?).map fun x : Nat => Value.int .u8 (x : Int) := by simp [vn]
theorem info5 : (Tryd.prog.info? 5).map (fun i => (i.zero, i.size, i.bytes)) = some (some (.int .u8 0), 1, 1) := by kernel_rfl
/-- make of a list of n bytes. -/
theorem made (n : Nat) (hn : n ≤ 1048576) (w : World) : (Instr.makeSlice 26 (.int .i64 (n : Int)) (.int .i64 (n : Int))).run Tryd.prog w = .ok (.slice (some ⟨w.heap.size, 0, none⟩) n n) (w.alloc (.cells (vn (List.replicate n 0)).toArray 5)) := by
  obtain ⟨i, hi, hz, hs, hb⟩ := info_parts info5
  have := run_make (P := Tryd.prog) w 26 5 i _ Tryd.underlying26 hi hz .i64 .i64 n n (by omega) (by omega) (by rw [hb]; omega) (by omega)
  rw [this, hs]
  have e : madeCells (Value.int .u8 0).cells ((n : Int).toNat * 1) = (vn (List.replicate n 0)).toArray := by
    apply Array.toList_inj.1
    show (madeCells #[Value.int .u8 0] _).toList = _
    rw [toList_madeCells_one]
    simp [vn]
  rw [e]
  simp
/-- A row that the call made: block G holds just these bytes. -/
structure Bk (w u : World) (G n : Nat) (cs : List Nat) : Prop where
  bel : Below w.heap.size w u
  ge : w.heap.size ≤ G
  cells : Cells u G (vn cs).toArray 5
  len : cs.length = n
theorem Bk.new (w : World) (n : Nat) : Bk w (w.alloc (.cells (vn (List.replicate n 0)).toArray 5)) w.heap.size n (List.replicate n 0) :=
  ⟨(Below.refl _ _).alloc (Nat.le_refl _) _, Nat.le_refl _, Cells.new _ _ _, List.length_replicate⟩
theorem Bk.cell {w u : World} {G n : Nat} {cs : List Nat} (h : Bk w u G n cs) {i x : Nat} (hx : cs[i]? = some x) : u.cell? ⟨G, i, none⟩ = some (.int .u8 (x : Int)) := by
  rw [h.cells.cell]
  rw [List.getElem?_toArray, vn_get, hx]; rfl
theorem Bk.there {w u : World} {G n : Nat} {cs : List Nat} (h : Bk w u G n cs) {i : Nat} (hi : i < n) : (∃ x, u.cell? ⟨G, i, none⟩ = some x) ∧ u.frozen? ⟨G, i, none⟩ = false :=
  ⟨⟨_, h.cell (List.getElem?_eq_getElem (by rw [h.len]; exact hi))⟩, h.cells.frozen i⟩
theorem Bk.set {w u : World} {G n : Nat} {cs : List Nat} (h : Bk w u G n cs) (j y : Nat) : Bk w (u.setCell ⟨G, j, none⟩ (.int .u8 (y : Int))) G n (cs.set j y) := by
  refine ⟨h.bel.setCell (p := ⟨G, j, none⟩) h.ge _, h.ge, ?_, by rw [List.length_set]; exact h.len⟩
  have := h.cells.set j (.int .u8 (y : Int))
  have e : (vn cs).toArray.setIfInBounds j (.int .u8 (y : Int)) = (vn (cs.set j y)).toArray := by
    rw [List.setIfInBounds_toArray]; congr 1; unfold vn; rw [List.map_set]
  rw [e] at this; exact this
theorem Bk.lies {w u : World} {G n : Nat} {cs : List Nat} (h : Bk w u G n cs) : Lies u (some ⟨G, 0, none⟩) cs := Or.inr ⟨G, 0, rfl, fun i x hx => by rw [Nat.zero_add]; exact h.cell hx⟩
theorem set_mid (q X : List Nat) (z y : Nat) : (q ++ [z] ++ X).set q.length y = q ++ (y :: X) := by
  rw [List.append_assoc, List.set_append_right _ _ (Nat.le_refl _), Nat.sub_self]; rfl
theorem or48 : ∀ x : Fin 8, 48 ||| x.val = 48 + x.val := by decide +kernel
theorem dig_of (v : Nat) : bits .or .u8 48 ((v : Int) % 8) = ((48 + v % 8 : Nat) : Int) := by
  have h : v % 8 < 8 := Nat.mod_lt _ (by decide)
  have e : (v : Int) % 8 = ((v % 8 : Nat) : Int) := by omega
  have h3 := or48 ⟨v % 8, h⟩
  dsimp only at h3
  rw [e, show (48 : Int) = ((48 : Nat) : Int) from rfl, u8_or_nat 48 _ (by decide) (by omega), h3]
end Go.Proofs.YtcmmjbkgoafbnabDoor

/-
  What Put comes to, the program's and the document's: a new row of bytes, or none; and Same of two lists that are one.
  Conditions: none.
-/
namespace Go.Proofs.YtcmmjbkgoafbnabDoor
open Go.RowKit
set_option linter.unusedVariables false
/-- What Put answers. -/
def Made (w : World) (o : Option (List Nat)) (e : Ending) (w' : World) : Prop :=
  ∃ (a : Option Addr) (l : List Nat) (L c : Nat), e = .returned (.tuple #[.slice a L c, .bool o.isSome]) ∧ o.getD [] = l ∧ l.length = L ∧ L ≤ c ∧ c ≤ 64 ∧ Lies w' a l ∧ Below w.heap.size w w' ∧ ∀ p, a = some p → w.heap.size ≤ p.block
theorem Made.none (w : World) : Made w Option.none (.returned (.tuple #[.slice Option.none 0 0, .bool false])) w :=
  ⟨Option.none, [], 0, 0, rfl, rfl, rfl, Nat.le_refl _, by decide, Or.inl rfl, Below.refl _ _, fun p hp => by cases hp⟩
theorem Made.row {w u : World} {G n : Nat} {l : List Nat} (h : Bk w u G n l) (hn : n ≤ 64) : Made w (some l) (.returned (.tuple #[.slice (some ⟨G, 0, Option.none⟩) n n, .bool true])) u :=
  ⟨_, l, n, n, rfl, rfl, h.len, Nat.le_refl _, hn, h.lies, h.bel, fun p hp => by cases hp; exact h.ge⟩
theorem oput_no {v : Nat} {n : Int} (h : n < 2 ∨ 64 < n ∨ 9223372036854775808 ≤ v) : put v n = none := by unfold put; rw [if_pos h]
theorem oput_yes {v : Nat} {n : Nat} (h1 : 2 ≤ n) (h2 : n ≤ 64) (h3 : v < 9223372036854775808) : put v (n : Int) =
    if v / 8 ^ (n - 1) = 0 then some (hi 8 48 v (n - 1) ++ [0]) else if v / 256 ^ (n - 1) = 0 then some (128 :: hi 256 0 v (n - 1)) else none := by
  unfold put; rw [if_neg (by omega), Int.toNat_natCast]
set_option maxRecDepth 100000 in
set_option maxHeartbeats 2000000 in
theorem rput_c (v : Nat) (n : Int) (w : World) (hv : v < 18446744073709551616) : Calls Tryd.prog 21 #[.int .u64 v, .int .i64 n] w fun e w' => Made w (put v n) e w' := by
  by_cases h1 : n < 2
  · rw [oput_no (Or.inl h1)]
    go_enter Tryd.func21, Tryd.ntmps21
    go_wp2_with fail
    go_ret2
    exact Made.none w
  by_cases h2 : 64 < n
  · rw [oput_no (Or.inr (Or.inl h2))]
    go_enter Tryd.func21, Tryd.ntmps21
    go_wp2_with fail
    go_ret2
    exact Made.none w
  by_cases h3 : 9223372036854775808 ≤ v
  · rw [oput_no (Or.inr (Or.inr h3))]
    have h3i : (9223372036854775808 : Int) ≤ (v : Int) := by omega
    go_enter Tryd.func21, Tryd.ntmps21
    go_wp2_with fail
    go_ret2
    exact Made.none w
  have h3i : ¬ (9223372036854775808 : Int) ≤ (v : Int) := by omega
  obtain ⟨N, rfl⟩ : ∃ N : Nat, n = (N : Int) := ⟨n.toNat, by omega⟩
  obtain ⟨m, hm1⟩ : ∃ m, N = m + 1 := ⟨N - 1, by omega⟩
  have hm := made N (by omega) w
  have hbk := Bk.new w N
  generalize (vn (List.replicate N 0)).toArray = cs at *
  have hrep : List.replicate N 0 = List.replicate m 0 ++ [0] := by rw [hm1, List.replicate_succ']
  rw [hrep] at hbk
  have hi1 : (N : Int) - 2 = (m : Int) - 1 := by omega
  have hi2 : (N : Int) - 1 = (m : Int) := by omega
  have AP : Aside (put v (N : Int) = if v / 8 ^ m = 0 then some (hi 8 48 v m ++ [0]) else if v / 256 ^ m = 0 then some (128 :: hi 256 0 v m) else none) := by
    have := oput_yes (v := v) (n := N) (by omega) (by omega) (by omega)
    rw [show N - 1 = m by omega] at this; exact this
  have AN : Aside (N = m + 1 ∧ N ≤ 64 ∧ v < 9223372036854775808) := ⟨hm1, by omega, by omega⟩
  generalize put v (N : Int) = res at *
  clear hrep hm1 hv h3
  go_enter Tryd.func21, Tryd.ntmps21
  go_wp2_with fail
  clear h3i
  go_loopg [7, 8] m (fun g sv si wr => ∃ (k : Nat) (p : List Nat), k + g = m ∧ p.length = g ∧ si = .int .i64 ((g : Int) - 1) ∧ sv = .int .u64 (v / 8 ^ k : Nat) ∧ Bk w wr w.heap.size N (p ++ (hi 8 48 v k ++ [0])))
  case atStart => exact ⟨0, List.replicate m 0, by omega, List.length_replicate, rfl, by rw [Nat.pow_zero, Nat.div_one], hbk⟩
  case round =>
    clear hbk hm
    obtain ⟨k, p, hk, hp, rfl, rfl, bk⟩ := hrel
    obtain ⟨V, hV⟩ : ∃ V, v / 8 ^ k = V := ⟨_, rfl⟩
    rw [hV]
    rcases List.eq_nil_or_concat p with rfl | ⟨q, z, rfl⟩
    · have hg0 : gk = 0 := by simpa using hp.symm
      subst hg0
      have hkm : k = m := by omega
      subst hkm
      have hlen := bk.len
      rw [List.nil_append] at bk hlen
      by_cases hz : V = 0
      · have hz2 : ((V : Int) == 0) = true := by rw [hz]; rfl
        have AR : Aside (res = some (hi 8 48 v k ++ [0])) := by show _ = _; rw [AP.out, hV, if_pos hz]
        clear hz hV
        go_wp2_with fail
        go_ret2
        rw [AR.out]
        exact Made.row bk AN.out.2.1
      · have hz2 : ((V : Int) == 0) = false := by rw [beq_eq_false_iff_ne]; omega
        have AR : Aside (res = if v / 256 ^ k = 0 then some (128 :: hi 256 0 v k) else none) := by show _ = _; rw [AP.out, hV, if_neg hz]
        clear hz hV
        go_wp2_with fail
        clear hz2
        go_loopg [7, 9] k (fun g sv si wr => ∃ (j : Nat) (p : List Nat), j + g = k ∧ p.length = g + 1 ∧ si = .int .i64 (g : Int) ∧ sv = .int .u64 (v / 256 ^ j : Nat) ∧ Bk w wr w.heap.size N (p ++ hi 256 0 v j))
        case atStart => exact ⟨0, hi 8 48 v k ++ [0], by omega, by rw [List.length_append, hi_length]; rfl, rfl, by rw [Nat.pow_zero, Nat.div_one], by rw [hi, List.append_nil]; exact bk⟩
        case round =>
          clear bk hlen
          obtain ⟨j, p, hj, hp, rfl, rfl, bk⟩ := hrel
          obtain ⟨V, hV⟩ : ∃ V, v / 256 ^ j = V := ⟨_, rfl⟩
          rw [hV]
          by_cases hg0 : gk = 0
          · subst hg0
            have hjk : j = k := by omega
            subst hjk
            obtain ⟨z, rfl⟩ : ∃ z, p = [z] := by
              match p, hp with
              | [z], _ => exact ⟨z, rfl⟩
            have hn0 : 0 < N := by have := AN.out; omega
            obtain ⟨⟨c0, hc0⟩, hf0⟩ := bk.there hn0
            have hset := bk.set 0 128
            have AS : Aside (Bk w (wr.setCell ⟨w.heap.size, 0, none⟩ (.int .u8 128)) w.heap.size N (128 :: hi 256 0 v j)) := hset
            by_cases hz : V = 0
            · have hz2 : ((V : Int) != 0) = false := by rw [hz]; rfl
              have AT : Aside (res = some (128 :: hi 256 0 v j)) := by show _ = _; rw [AR.out, hV, if_pos hz]
              clear hset bk hV hz
              go_wp2_with fail
              go_ret2
              rw [AT.out]
              exact Made.row AS.out AN.out.2.1
            · have hz2 : ((V : Int) != 0) = true := by rw [bne_iff_ne]; omega
              have AT : Aside (res = none) := by show _ = _; rw [AR.out, hV, if_neg hz]
              clear hset bk hV hz
              go_wp2_with fail
              go_ret2
              rw [AT.out]
              exact ⟨none, [], 0, 0, rfl, rfl, rfl, Nat.le_refl _, by decide, Or.inl rfl, AS.out.bel, fun p hp => by cases hp⟩
          · rcases List.eq_nil_or_concat p with rfl | ⟨q, z, rfl⟩
            · simp at hp
            rw [List.concat_eq_append] at bk hp
            have hq : q.length = gk := by simpa using hp
            have hMn : gk < N := by have := AN.out; omega
            obtain ⟨⟨c0, hc0⟩, hf0⟩ := bk.there hMn
            have hwr : IntKind.u64.wrap ((V : Int) / 256) = (V : Int) / 256 := by
              have h1 : V ≤ v := by rw [← hV]; exact Nat.div_le_self ..
              have h2 := AN.out
              rw [IntKind.wrap_u64]; omega
            have hgi : (1 : Int) ≤ (gk : Int) := by omega
            have hMi : (gk : Int) < (N : Int) := by omega
            have hset := bk.set gk (0 + V % 256)
            have hset2 : Bk w (wr.setCell ⟨w.heap.size, gk, none⟩ (.int .u8 (V % 256 : Nat))) w.heap.size N (q ++ hi 256 0 v (j + 1)) := by
              rw [← hq, set_mid, ← hV] at hset
              rw [← hq, ← hV, hi]
              rw [Nat.zero_add] at hset ⊢; exact hset
            have AS : Aside (Bk w (wr.setCell ⟨w.heap.size, gk, none⟩ (.int .u8 (V % 256 : Nat))) w.heap.size N (q ++ hi 256 0 v (j + 1)) ∧ v / 256 ^ (j + 1) = V / 256 ∧ j + gk = k ∧ 1 ≤ gk ∧ q.length = gk) := ⟨hset2, by rw [down, hV], hj, by omega, hq⟩
            clear hset hset2 hV hj hp hq bk hg0
            go_wp2_with fail
            have hk := AS.out.2.2
            go_roundg (gk - 1)
            case measure => omega
            case rel => exact ⟨j + 1, q, by omega, by omega, by go_num, by rw [AS.out.2.1]; go_num, AS.out.1⟩
    · rw [List.concat_eq_append] at bk hp
      have hq : gk = q.length + 1 := by simpa using hp.symm
      obtain ⟨M, hM⟩ : ∃ M, q.length = M := ⟨_, rfl⟩
      have hMn : M < N := by have := AN.out; omega
      obtain ⟨⟨c0, hc0⟩, hf0⟩ := bk.there hMn
      have hwr : IntKind.u64.wrap ((V : Int) / 8) = (V : Int) / 8 := by
        have h1 : V ≤ v := by rw [← hV]; exact Nat.div_le_self ..
        have h2 := AN.out
        rw [IntKind.wrap_u64]; omega
      have hgi : (gk : Int) - 1 = (M : Int) := by omega
      have hMi : (M : Int) < (N : Int) := by omega
      have hset := bk.set M (48 + V % 8)
      have hset2 : Bk w (wr.setCell ⟨w.heap.size, M, none⟩ (.int .u8 (48 + V % 8 : Nat))) w.heap.size N (q ++ (hi 8 48 v (k + 1) ++ [0])) := by
        rw [← hM, set_mid, ← hV] at hset
        rw [← hM, ← hV]; exact hset
      have AS : Aside (Bk w (wr.setCell ⟨w.heap.size, M, none⟩ (.int .u8 (48 + V % 8 : Nat))) w.heap.size N (q ++ (hi 8 48 v (k + 1) ++ [0])) ∧ v / 8 ^ (k + 1) = V / 8 ∧ k + gk = m ∧ gk = M + 1 ∧ q.length = M) := ⟨hset2, by rw [down, hV], hk, by omega, hM⟩
      clear hset hset2 hV hk hp hq hM bk
      go_wp2_with fail
      have hk := AS.out.2.2
      go_roundg (gk - 1)
      case measure => omega
      case rel => exact ⟨k + 1, q, by omega, by omega, by go_num, by rw [AS.out.2.1]; go_num, AS.out.1⟩
end Go.Proofs.YtcmmjbkgoafbnabDoor

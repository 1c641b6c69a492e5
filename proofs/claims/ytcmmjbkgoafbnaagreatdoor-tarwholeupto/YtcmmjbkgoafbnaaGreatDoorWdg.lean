/-
  Digits of a number; records as they are written; kinds that say nothing.
-/
import Derived.Test.YtcmmjbkgoafbnaaGreatDoorWnd
import Derived.Test.YtcmmjbkgoafbnaaGreatDoorTrm
namespace Go.Proofs.YtcmmjbkgoafbnaaGreatDoor
open Go.RowKit
set_option linter.unusedVariables false
set_option linter.unusedSimpArgs false
/-- A number's digits. -/
def dgf : Nat → Nat → List Nat
  | 0, n => [48 + n]
  | f + 1, n => if n ≤ 9 then [48 + n] else dgf f (n / 10) ++ [48 + n % 10]
def dgs (n : Nat) : List Nat := dgf n n
theorem dgf_fuel : ∀ (f g n : Nat), n ≤ f → n ≤ g → dgf f n = dgf g n
  | 0, 0, n, _, _ => rfl
  | 0, g + 1, n, h, _ => by
    have : n = 0 := by omega
    subst this; rfl
  | f + 1, 0, n, _, h => by
    have : n = 0 := by omega
    subst this; rfl
  | f + 1, g + 1, n, h1, h2 => by
    show (if n ≤ 9 then [48 + n] else dgf f (n / 10) ++ [48 + n % 10]) = (if n ≤ 9 then [48 + n] else dgf g (n / 10) ++ [48 + n % 10])
    split
    · rfl
    · rw [dgf_fuel f g (n / 10) (by omega) (by omega)]
theorem dgs_small {n : Nat} (h : n ≤ 9) : dgs n = [48 + n] := by
  unfold dgs
  cases n with
  | zero => rfl
  | succ n => show (if n + 1 ≤ 9 then [48 + (n + 1)] else _) = _; rw [if_pos h]
theorem dgs_more {n : Nat} (h : 9 < n) : dgs n = dgs (n / 10) ++ [48 + n % 10] := by
  unfold dgs
  obtain ⟨m, rfl⟩ : ∃ m, n = m + 1 := ⟨n - 1, by omega⟩
  show (if m + 1 ≤ 9 then [48 + (m + 1)] else dgf m ((m + 1) / 10) ++ [48 + (m + 1) % 10]) = _
  rw [if_neg (by omega), dgf_fuel m ((m + 1) / 10) ((m + 1) / 10) (by omega) (Nat.le_refl _)]
theorem dgs_oct : ∀ (f n : Nat), n ≤ f → Oct (dgs n)
  | 0, n, h => by
    have : n = 0 := by omega
    subst this
    intro x hx
    rw [dgs_small (by omega)] at hx
    simp at hx; omega
  | f + 1, n, h => by
    by_cases h9 : n ≤ 9
    · intro x hx
      rw [dgs_small h9] at hx
      simp at hx; omega
    · rw [dgs_more (by omega)]
      intro x hx
      rcases List.mem_append.1 hx with q | q
      · exact dgs_oct f (n / 10) (by omega) x q
      · simp at q; omega
theorem dgs_len {n : Nat} (h : n < 1000000000000) : (dgs n).length ≤ 12 := by
  have key : ∀ (k m : Nat), m < 10 ^ (k + 1) → (dgs m).length ≤ k + 1 := by
    intro k
    induction k with
    | zero => intro m hm; rw [dgs_small (by omega)]; simp
    | succ k ih =>
      intro m hm
      by_cases h9 : m ≤ 9
      · rw [dgs_small h9]; simp
      · rw [dgs_more (by omega), List.length_append, List.length_singleton]
        have := ih (m / 10) (by rw [Nat.pow_succ] at hm; omega)
        omega
  exact key 11 n h
theorem st_one (x : Nat) : (st [x]).size = 1 := st_size _
set_option maxRecDepth 20000 in
set_option maxHeartbeats 1000000 in
theorem digits_c (n : Nat) (hn : n < 1000000000000) (w : World) : Calls Tryz.prog 40 #[.int .i64 (n : Int)] w fun e w' => e = .returned (.string (st (dgs n))) ∧ Below w.heap.size w w' := by
  obtain ⟨D, hD⟩ : ∃ D, dgs n = D := ⟨_, rfl⟩
  have hDl : D.length ≤ 12 := by rw [← hD]; exact dgs_len hn
  rw [hD]
  have A : Aside (dgs n = D ∧ D.length ≤ 12) := ⟨hD, hDl⟩
  have A0 : Aside (n < 1000000000000 ∧ dgs n ++ [] = D) := ⟨hn, by simp [hD]⟩
  clear hD hDl hn
  go_enter Tryz.func40, Tryz.ntmps40
  go_wp2_with fail
  go_loopg [0, 3] (n + 1) (fun gg s0 s3 wr => ∃ (m : Nat) (sp : ByteArray), s0 = .int .i64 (m : Int) ∧ s3 = .string sp ∧ Aside (∃ p, sp = st p ∧ dgs m ++ p = D ∧ m < 1000000000000 ∧ m < gg ∧ Below w.heap.size w wr))
  case atStart => exact ⟨n, ⟨#[]⟩, rfl, rfl, ⟨[], rfl, A0.out.2, A0.out.1, by omega, Below.refl _ _⟩⟩
  case round =>
    clear A0
    obtain ⟨m, sp, rfl, rfl, hI⟩ := hrel
    obtain ⟨p, hsp, hpD, hmb, hmg, hbel⟩ := hI.out
    have hpl : p.length ≤ 12 := by have := congrArg List.length hpD; rw [List.length_append] at this; have := A.out.2; omega
    have z2 : sp.size = p.length := by rw [hsp]; exact st_size p
    obtain ⟨np, hnp⟩ : ∃ np, p.length = np := ⟨_, rfl⟩
    rw [hnp] at z2 hpl
    have u1 : (9223372036854775807 < 1 + np) = False := eq_false (by omega)
    obtain ⟨H, hH⟩ : ∃ H, wr.heap.size = H := ⟨_, rfl⟩
    by_cases h9 : 9 < m
    · obtain ⟨d, hd⟩ : ∃ d, m % 10 = d := ⟨_, rfl⟩
      obtain ⟨x, hx⟩ : ∃ x, 48 + d = x := ⟨_, rfl⟩
      obtain ⟨m1, hm1⟩ : ∃ m1, m / 10 = m1 := ⟨_, rfl⟩
      have q1 : (m : Int) % 10 = (d : Int) := by omega
      have q2 : Int.tmod (m : Int) 10 = (d : Int) := by rw [Int.tmod_eq_emod_of_nonneg (by omega)]; omega
      have q3 : (m : Int) / 10 = (m1 : Int) := by omega
      have q4 : Int.tdiv (m : Int) 10 = (m1 : Int) := by rw [Int.tdiv_eq_ediv_of_nonneg (by omega)]; omega
      have q5 : IntKind.u8.wrap (48 + (d : Int)) = (x : Int) := by rw [IntKind.wrap_u8]; omega
      have q6 : (d : Int) < 10 := by omega
      have q7 : (m1 : Int) < 1000000000000 := by omega
      have t1 : ((9 : Int) < (m : Int)) = True := eq_true (by omega)
      have kA := Cells.new wr #[.int .u8 (x : Int)] 5
      have hcv : (convert 22 9 (.slice (some ⟨H, 0, none⟩) 1 1)).run Tryz.prog (wr.alloc (.cells #[.int .u8 (x : Int)] 5)) = .ok (.string (st [x])) (wr.alloc (.cells #[.int .u8 (x : Int)] 5)) := conv_st 1 1 rfl (fun y hy => by simp at hy; omega) (Or.inr ⟨H, 0, rfl, fun i z hz => by
        cases i with
        | zero => simp at hz; rw [← hz, ← hH]; exact kA.cell 0
        | succ i => simp at hz⟩)
      have z1 := st_one x
      obtain ⟨sx, hsx⟩ : ∃ sx, st [x] = sx := ⟨_, rfl⟩
      rw [hsx] at hcv z1
      obtain ⟨sq, hsq⟩ : ∃ sq, sx ++ sp = sq := ⟨_, rfl⟩
      have AG : Aside (sq = st (x :: p) ∧ dgs m1 ++ (x :: p) = D ∧ m1 < 1000000000000 ∧ m1 < m ∧ m < gk ∧ Below w.heap.size w (wr.alloc (.cells #[.int .u8 (x : Int)] 5))) := by
        refine ⟨?_, ?_, by omega, by omega, hmg, hbel.trans (((Below.refl _ wr).alloc (Nat.le_refl _) _).mono hbel.size)⟩
        · rw [← hsq, ← hsx, hsp, st_append]; rfl
        · rw [← hpD, dgs_more h9, hm1, hd, hx]; simp
      clear hI hsp hpD hmb hmg hbel hpl hnp h9 hd hx hm1 kA hsx
      go_wp2_with fail
      have ag := AG.out
      go_roundg m
      case measure => omega
      case rel => exact ⟨m1, sq, rfl, rfl, ⟨x :: p, ag.1, ag.2.1, ag.2.2.1, ag.2.2.2.1, ag.2.2.2.2.2⟩⟩
    · obtain ⟨x, hx⟩ : ∃ x, 48 + m = x := ⟨_, rfl⟩
      have q5 : IntKind.u8.wrap (48 + (m : Int)) = (x : Int) := by rw [IntKind.wrap_u8]; omega
      have q6 : (m : Int) < 10 := by omega
      have t1 : ((9 : Int) < (m : Int)) = False := eq_false (by omega)
      have kA := Cells.new wr #[.int .u8 (x : Int)] 5
      have hcv : (convert 22 9 (.slice (some ⟨H, 0, none⟩) 1 1)).run Tryz.prog (wr.alloc (.cells #[.int .u8 (x : Int)] 5)) = .ok (.string (st [x])) (wr.alloc (.cells #[.int .u8 (x : Int)] 5)) := conv_st 1 1 rfl (fun y hy => by simp at hy; omega) (Or.inr ⟨H, 0, rfl, fun i z hz => by
        cases i with
        | zero => simp at hz; rw [← hz, ← hH]; exact kA.cell 0
        | succ i => simp at hz⟩)
      have z1 := st_one x
      obtain ⟨sx, hsx⟩ : ∃ sx, st [x] = sx := ⟨_, rfl⟩
      rw [hsx] at hcv z1
      obtain ⟨sq, hsq⟩ : ∃ sq, sx ++ sp = sq := ⟨_, rfl⟩
      have AG : Aside (sq = st D ∧ Below w.heap.size w (wr.alloc (.cells #[.int .u8 (x : Int)] 5))) := by
        refine ⟨?_, hbel.trans (((Below.refl _ wr).alloc (Nat.le_refl _) _).mono hbel.size)⟩
        rw [← hsq, ← hsx, hsp, st_append, ← hpD, dgs_small (by omega), hx]
      clear hI hsp hpD hmb hmg hbel hpl hnp h9 hx kA hsx
      go_wp2_with fail
      go_ret
      exact ⟨by rw [← AG.out.1]; rfl, AG.out.2⟩
theorem dgs_mono : ∀ (f n : Nat), n ≤ f → (dgs n).length ≤ (dgs (n + 1)).length
  | 0, n, h => by
    have : n = 0 := by omega
    subst this; decide
  | f + 1, n, h => by
    by_cases h9 : n ≤ 9
    · rw [dgs_small h9]
      by_cases h8 : n + 1 ≤ 9
      · rw [dgs_small h8]; exact Nat.le_refl _
      · rw [dgs_more (by omega), List.length_append]; simp
    · rw [dgs_more (n := n) (by omega), dgs_more (n := n + 1) (by omega), List.length_append, List.length_append]
      have : (n + 1) / 10 = n / 10 ∨ (n + 1) / 10 = n / 10 + 1 := by omega
      rcases this with e | e
      · rw [e]; simp
      · rw [e]
        have := dgs_mono f (n / 10) (by omega)
        simp; omega
/-- How long a record is. -/
def fnd : Nat → Nat → Nat → Nat
  | 0, _, n => n
  | f + 1, s, n => if n = s + (dgs n).length then n else fnd f s (n + 1)
theorem fnd_ok : ∀ (f s n : Nat), n ≤ s + (dgs n).length → s + 14 ≤ n + f → n + f < 1000000000000 → fnd f s n = s + (dgs (fnd f s n)).length ∧ fnd f s n ≤ s + 12
  | 0, s, n, h1, h2, h3 => by have := dgs_len (n := n) (by omega); omega
  | f + 1, s, n, h1, h2, h3 => by
    have hl := dgs_len (n := n) (by omega)
    unfold fnd
    split
    · rename_i e; exact ⟨e, by omega⟩
    · have := dgs_mono n n (Nat.le_refl _)
      exact fnd_ok f s (n + 1) (by omega) (by omega) (by omega)
def sdl (s : Nat) : Nat := fnd 20 s s
theorem sdl_ok {s : Nat} (h : s < 1000000) : sdl s = s + (dgs (sdl s)).length ∧ sdl s ≤ s + 12 := fnd_ok 20 s s (by omega) (by omega) (by omega)
/-- A record as it is written. -/
def sad (k v : List Nat) : List Nat := dgs (sdl (k.length + v.length + 3)) ++ [32] ++ k ++ [61] ++ v ++ [10]
theorem sad_len {k v : List Nat} (h : k.length + v.length + 3 < 1000000) : (sad k v).length = sdl (k.length + v.length + 3) := by
  unfold sad
  have := (sdl_ok h).1
  simp only [List.length_append, List.length_singleton]
  omega
set_option maxRecDepth 20000 in
set_option maxHeartbeats 1000000 in
theorem said_c (k v : List Nat) (hl : k.length + v.length + 3 < 1000000) (w : World) : Calls Tryz.prog 39 #[.string (st k), .string (st v)] w fun e w' => e = .returned (.string (st (sad k v))) ∧ Below w.heap.size w w' := by
  obtain ⟨s0, hs0⟩ : ∃ s0, k.length + v.length + 3 = s0 := ⟨_, rfl⟩
  have hok := sdl_ok hl
  rw [hs0] at hok hl
  obtain ⟨sk, hsk⟩ : ∃ sk, st k = sk := ⟨_, rfl⟩
  obtain ⟨sv0, hsv⟩ : ∃ sv0, st v = sv0 := ⟨_, rfl⟩
  obtain ⟨nk, hnk⟩ : ∃ nk, k.length = nk := ⟨_, rfl⟩
  obtain ⟨nv, hnv⟩ : ∃ nv, v.length = nv := ⟨_, rfl⟩
  have zk : sk.size = nk := by rw [← hsk, st_size, hnk]
  have zv : sv0.size = nv := by rw [← hsv, st_size, hnv]
  obtain ⟨ans, hans⟩ : ∃ ans, st (sad k v) = ans := ⟨_, rfl⟩
  rw [hans, hsk, hsv]
  have A : Aside (k.length + v.length + 3 = s0 ∧ sdl s0 = s0 + (dgs (sdl s0)).length ∧ sdl s0 ≤ s0 + 12 ∧ s0 < 1000000 ∧ st k = sk ∧ st v = sv0 ∧ k.length = nk ∧ v.length = nv ∧ st (sad k v) = ans) := ⟨hs0, hok.1, hok.2, hl, hsk, hsv, hnk, hnv, hans⟩
  have b1 : (nk : Int) < 1000000 := by omega
  have b2 : (nv : Int) < 1000000 := by omega
  have hs0i : (nk : Int) + (nv : Int) + 3 = (s0 : Int) := by omega
  clear hs0 hok hl hsk hsv hnk hnv hans
  go_enter Tryz.func39, Tryz.ntmps39
  go_wp2_with fail
  go_loopg [5] 21 (fun gg s5 wr => ∃ n : Nat, s5 = .int .i64 (n : Int) ∧ Aside (∃ f, f + 1 = gg ∧ fnd f s0 n = sdl s0 ∧ n ≤ s0 + (dgs n).length ∧ n + f = s0 + 20 ∧ Below w.heap.size w wr))
  case atStart => exact ⟨s0, rfl, ⟨20, rfl, rfl, by omega, rfl, Below.refl _ _⟩⟩
  case round =>
    obtain ⟨n, rfl, hI⟩ := hrel
    obtain ⟨f, hfg, hfd, hle, hnf, hbel⟩ := hI.out
    have a0 := A.out
    have hnb : n < 1000000000000 := by omega
    have hdl := dgs_len hnb
    have hdg := fun u => digits_c n hnb u
    obtain ⟨sd, hsd⟩ : ∃ sd, st (dgs n) = sd := ⟨_, rfl⟩
    obtain ⟨nd, hnd⟩ : ∃ nd, (dgs n).length = nd := ⟨_, rfl⟩
    have zd : sd.size = nd := by rw [← hsd, st_size, hnd]
    simp only [hsd] at hdg
    have hd1 := hdg wr
    have b3 : (nd : Int) < 100 := by omega
    have b4 : (n : Int) < 2000000 := by omega
    by_cases he : n = s0 + nd
    · have t1 : ((n : Int) != (nd : Int) + (nk : Int) + (nv : Int) + 3) = false := by
        have : (n : Int) = (nd : Int) + (nk : Int) + (nv : Int) + 3 := by omega
        rw [this]; simp
      have t2 : ((n : Int) == (nd : Int) + (nk : Int) + (nv : Int) + 3) = true := by rw [beq_iff_eq]; omega
      have hfin : n = sdl s0 := by
        rw [← hfd]
        cases f with
        | zero => rfl
        | succ f => unfold fnd; rw [if_pos (by omega)]
      obtain ⟨x1, hx1⟩ : ∃ x, sd ++ (⟨#[32]⟩ : ByteArray) = x := ⟨_, rfl⟩
      obtain ⟨x2, hx2⟩ : ∃ x, x1 ++ sk = x := ⟨_, rfl⟩
      obtain ⟨x3, hx3⟩ : ∃ x, x2 ++ (⟨#[61]⟩ : ByteArray) = x := ⟨_, rfl⟩
      obtain ⟨x4, hx4⟩ : ∃ x, x3 ++ sv0 = x := ⟨_, rfl⟩
      obtain ⟨x5, hx5⟩ : ∃ x, x4 ++ (⟨#[10]⟩ : ByteArray) = x := ⟨_, rfl⟩
      have y1 : x1.size = nd + 1 := by rw [← hx1, ByteArray.size_append, zd]; rfl
      have y2 : x2.size = nd + 1 + nk := by rw [← hx2, ByteArray.size_append, y1, zk]
      have y3 : x3.size = nd + 1 + nk + 1 := by rw [← hx3, ByteArray.size_append, y2]; rfl
      have y4 : x4.size = nd + 1 + nk + 1 + nv := by rw [← hx4, ByteArray.size_append, y3, zv]
      have v1 : (9223372036854775807 < nd + 1) = False := eq_false (by omega)
      have v2 : (9223372036854775807 < nd + 1 + nk) = False := eq_false (by omega)
      have v3 : (9223372036854775807 < nd + 1 + nk + 1) = False := eq_false (by omega)
      have v4 : (9223372036854775807 < nd + 1 + nk + 1 + nv) = False := eq_false (by omega)
      have v5 : (9223372036854775807 < nd + 1 + nk + 1 + nv + 1) = False := eq_false (by omega)
      have z32 : (⟨#[32]⟩ : ByteArray).size = 1 := rfl
      have z61 : (⟨#[61]⟩ : ByteArray).size = 1 := rfl
      have z10 : (⟨#[10]⟩ : ByteArray).size = 1 := rfl
      have AX : Aside (x5 = ans ∧ Below w.heap.size w wr ∧ ∀ u, Calls Tryz.prog 40 #[.int .i64 (n : Int)] u fun e w' => e = .returned (.string sd) ∧ Below u.heap.size u w') := by
        refine ⟨?_, hbel, hdg⟩
        rw [← a0.2.2.2.2.2.2.2.2, ← hx5, ← hx4, ← hx3, ← hx2, ← hx1, ← hsd, ← a0.2.2.2.2.1, ← a0.2.2.2.2.2.1]
        unfold sad
        rw [a0.1, ← hfin, ← st_append, ← st_append, ← st_append, ← st_append, ← st_append]
        rfl
      clear hI hfg hfd hle hnf hbel a0 hnb hdl hdg hsd hnd he hfin
      go_upto_region 4 with (go_at_call 40; refine hd1.mono ?_; rintro e1 w1 ⟨rfl, b1⟩)
      have hd2 := AX.out.2.2 w1
      clear hd1 t1 t2
      go_wp2_with (go_at_call 40; refine hd2.mono ?_; rintro e2 w2 ⟨rfl, b2⟩)
      go_ret
      have ax := AX.out
      exact ⟨by rw [← ax.1]; rfl, (ax.2.1.trans (b1.mono ax.2.1.size)).trans (b2.mono (by have := b1.size; have := ax.2.1.size; omega))⟩
    · have t1 : ((n : Int) != (nd : Int) + (nk : Int) + (nv : Int) + 3) = true := by rw [bne_iff_ne]; omega
      have t2 : ((n : Int) == (nd : Int) + (nk : Int) + (nv : Int) + 3) = false := by rw [beq_eq_false_iff_ne]; omega
      have AG : Aside (∃ f', f' + 1 = gk - 1 ∧ 0 < gk ∧ fnd f' s0 (n + 1) = sdl s0 ∧ n + 1 ≤ s0 + (dgs (n + 1)).length ∧ n + 1 + f' = s0 + 20 ∧ Below w.heap.size w wr) := by
        have hm := dgs_mono n n (Nat.le_refl _)
        cases f with
        | zero => exfalso; omega
        | succ f =>
          refine ⟨f, by omega, by omega, ?_, by omega, by omega, hbel⟩
          rw [← hfd]
          conv => rhs; unfold fnd
          rw [if_neg (by omega)]
      clear hI hfg hfd hle hnf hbel a0 hnb hdl hdg hsd hnd he
      go_wp2_with (go_at_call 40; refine hd1.mono ?_; rintro e1 w1 ⟨rfl, b1⟩)
      obtain ⟨f', g1, g2, g3, g4, g5, g6⟩ := AG.out
      go_roundg (gk - 1)
      case measure => omega
      case rel => exact ⟨n + 1, by go_num, ⟨f', g1, g3, g4, g5, g6.trans (b1.mono g6.size)⟩⟩
theorem other_c (k : Nat) (hk : k < 256) (w : World) : Calls Tryz.prog 37 #[.int .u8 (k : Int)] w fun e w' => e = .returned (.int .u8 (((if k % 2 = 0 then 75 else 103) : Nat) : Int)) ∧ Below w.heap.size w w' := by
  obtain ⟨r, hr⟩ : ∃ r, k % 2 = r := ⟨_, rfl⟩
  have q1 : (k : Int) % 2 = (r : Int) := by omega
  have q2 : Int.tmod (k : Int) 2 = (r : Int) := by rw [Int.tmod_eq_emod_of_nonneg (by omega)]; omega
  have b1 : Below w.heap.size w (w.alloc (.cells #[.int .u8 75, .int .u8 103] 5)) := (Below.refl _ w).alloc (Nat.le_refl _) _
  rw [hr]
  have hc : r = 0 ∨ r = 1 := by omega
  have AB : Aside (Below w.heap.size w (w.alloc (.cells #[.int .u8 75, .int .u8 103] 5))) := b1
  clear hk hr b1
  rcases hc with rfl | rfl
  all_goals
    go_enter Tryz.func37, Tryz.ntmps37
    go_wp2_with fail
    go_ret
    exact ⟨rfl, AB.out⟩
end Go.Proofs.YtcmmjbkgoafbnaaGreatDoor

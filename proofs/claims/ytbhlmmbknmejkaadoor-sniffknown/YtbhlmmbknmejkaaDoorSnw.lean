/-
  Sniff: the marks gone through.
-/
import Derived.Test.YtbhlmmbknmejkaaDoorAps
import Derived.Test.YtbhlmmbknmejkaaDoorSnm
import Derived.Deep.CutBlock
import Derived.Deep.DeepCutAuto
import Derived.WalkLawsBesides
import Derived.WalkMore
import Derived.BigQuiet
namespace Go.Proofs.YtbhlmmbknmejkaaDoor
open Go.RowKit
set_option linter.unusedVariables false
/-- The marks where they are laid. -/
structure Mk (w : World) : Prop where
  a0 : w.cell? ⟨0, 0, none⟩ = some (.int .i64 7)
  a1 : w.cell? ⟨0, 1, none⟩ = some (.int .i64 0)
  a2 : w.cell? ⟨0, 2, none⟩ = some (.string (st gz))
  b0 : w.cell? ⟨0, 3, none⟩ = some (.int .i64 9)
  b1 : w.cell? ⟨0, 4, none⟩ = some (.int .i64 0)
  b2 : w.cell? ⟨0, 5, none⟩ = some (.string (st pk))
  c0 : w.cell? ⟨0, 6, none⟩ = some (.int .i64 8)
  c1 : w.cell? ⟨0, 7, none⟩ = some (.int .i64 257)
  c2 : w.cell? ⟨0, 8, none⟩ = some (.string (st us))
theorem Mk.keep {w u : World} (h : Mk w) (k : u.heap[0]? = w.heap[0]?) : Mk u := by
  have e : ∀ i, u.cell? ⟨0, i, none⟩ = w.cell? ⟨0, i, none⟩ := fun i => World.cell?_of_block (w := w) k
  exact ⟨(e 0).trans h.a0, (e 1).trans h.a1, (e 2).trans h.a2, (e 3).trans h.b0, (e 4).trans h.b1, (e 5).trans h.b2, (e 6).trans h.c0, (e 7).trans h.c1, (e 8).trans h.c2⟩
theorem Mk.lt {w : World} (h : Mk w) : 0 < w.heap.size := World.block_lt_of_cell? w ⟨0, 0, none⟩ h.a0
theorem Mk.below {w u : World} {B : Nat} (h : Mk w) (k : Below B w u) (hB : 0 < B) : Mk u := h.keep (k.block 0 hB)
theorem Mk.drewN {w : World} (h : Mk w) (n : Nat) : Mk (w.drewN n) := h.keep rfl
/-- A mark as a value. -/
def mv (m : Nat × Nat × List Nat) : Value := .agg #[.int .i64 (m.1 : Int), .int .i64 (m.2.1 : Int), .string (st m.2.2)]
def agg3 : Value := .agg #[.int .i64 7, .int .i64 0, .string (st gz), .int .i64 9, .int .i64 0, .string (st pk), .int .i64 8, .int .i64 257, .string (st us)]
theorem idx32 (A B C : ByteArray) (W : World) (V : Value) (hV : V = .agg #[.int .i64 7, .int .i64 0, .string A, .int .i64 9, .int .i64 0, .string B, .int .i64 8, .int .i64 257, .string C]) : (Instr.index 32 V (.int .i64 0)).run Tryd.prog W = .ok (.agg #[.int .i64 7, .int .i64 0, .string A]) W ∧ (Instr.index 32 V (.int .i64 1)).run Tryd.prog W = .ok (.agg #[.int .i64 9, .int .i64 0, .string B]) W ∧ (Instr.index 32 V (.int .i64 2)).run Tryd.prog W = .ok (.agg #[.int .i64 8, .int .i64 257, .string C]) W := by
  subst hV
  refine ⟨?_, ?_, ?_⟩ <;> kernel_rfl
theorem idx_mk (i : Nat) (m : Nat × Nat × List Nat) (hm : mks[i]? = some m) (W : World) : (Instr.index 32 agg3 (.int .i64 (i : Int))).run Tryd.prog W = .ok (mv m) W := by
  have hi : i < 3 := (List.getElem?_eq_some_iff.1 hm).1
  obtain ⟨h0, h1, h2⟩ := idx32 (st gz) (st pk) (st us) W agg3 rfl
  obtain rfl | rfl | rfl : i = 0 ∨ i = 1 ∨ i = 2 := by omega
  all_goals (simp [mks] at hm; subst hm)
  · exact h0
  · exact h1
  · exact h2
theorem mk_facts (i : Nat) (m : Nat × Nat × List Nat) (hm : mks[i]? = some m) : m.1 < 10 ∧ m.2.1 < 300 ∧ m.2.2.length < 10 ∧ Oct m.2.2 := by
  have hi : i < 3 := (List.getElem?_eq_some_iff.1 hm).1
  obtain rfl | rfl | rfl : i = 0 ∨ i = 1 ∨ i = 2 := by omega
  all_goals (simp [mks] at hm; subst hm; refine ⟨by decide, by decide, by decide, ?_⟩; intro x hx; simp [gz, pk, us] at hx; omega)
set_option maxRecDepth 20000 in
set_option maxHeartbeats 1000000 in
theorem sniff_c (w : World) (h : Mk w) (a : Option Addr) (l : List Nat) (L c : Nat) (hl : Lies w a l) (hL : l.length = L) (ho : Oct l) (hb : L ≤ 281474976710656) (e : Bool) : Calls Tryd.prog 7 #[.slice a L c, .bool e] w fun ex w' => ex = .returned (.tuple #[.int .i64 ((sn l e).1 : Int), .bool (sn l e).2]) ∧ Below w.heap.size w w' := by
  obtain ⟨a0, a1, a2, b0, b1, b2, c0, c1, c2⟩ := h
  have hag : agg3 = .agg #[.int .i64 7, .int .i64 0, .string (st gz), .int .i64 9, .int .i64 0, .string (st pk), .int .i64 8, .int .i64 257, .string (st us)] := rfl
  obtain ⟨S0, hS0⟩ : ∃ S, st gz = S := ⟨_, rfl⟩
  obtain ⟨S1, hS1⟩ : ∃ S, st pk = S := ⟨_, rfl⟩
  obtain ⟨S2, hS2⟩ : ∃ S, st us = S := ⟨_, rfl⟩
  rw [hS0, hS1, hS2] at hag
  rw [hS0] at a2
  rw [hS1] at b2
  rw [hS2] at c2
  obtain ⟨R, hR⟩ : ∃ R, sn l e = R := ⟨_, rfl⟩
  obtain ⟨K, hK⟩ : ∃ K, R.1 = K := ⟨_, rfl⟩
  obtain ⟨F, hF⟩ : ∃ F, R.2 = F := ⟨_, rfl⟩
  obtain ⟨B, hB⟩ : ∃ B, w.heap.size = B := ⟨_, rfl⟩
  rw [hR, hK, hF, hB]
  have A : Aside (kn mks l e = (K, F) ∧ w.heap.size = B ∧ Lies w a l ∧ l.length = L ∧ Oct l ∧ L ≤ 281474976710656) := ⟨by rw [← hK, ← hF]; exact hR, hB, hl, hL, ho, hb⟩
  clear hS0 hS1 hS2 hR hK hF hB hl hL ho hb
  go_enter Tryd.func7, Tryd.ntmps7
  go_wp2_with fail
  go_step3
  go_wp2_with fail
  go_step3
  go_wp2_with fail
  rw [← hag]
  clear a0 a1 a2 b0 b1 b2 c0 c1 c2 hag
  have hidx : ∀ (i : Nat) (m : Nat × Nat × List Nat), mks[i]? = some m → ∀ W : World, (Instr.index 32 agg3 (.int .i64 (i : Int))).run Tryd.prog W = .ok (mv m) W := fun i m hm W => idx_mk i m hm W
  obtain ⟨AG, hAG⟩ : ∃ AG, agg3 = AG := ⟨_, rfl⟩
  rw [hAG] at hidx ⊢
  clear hAG
  have AIX : Aside (∀ (i : Nat) (m : Nat × Nat × List Nat), mks[i]? = some m → ∀ W : World, (Instr.index 32 AG (.int .i64 (i : Int))).run Tryd.prog W = .ok (mv m) W) := hidx
  clear hidx
  go_loopg [11] 3 (fun gg s11 wr => ∃ i : Nat, s11 = .int .i64 (i : Int) ∧ Aside (i + gg = 3 ∧ kn (mks.drop i) l e = (K, F) ∧ Below B w wr))
  case atStart => exact ⟨0, rfl, ⟨rfl, A.out.1, Below.refl _ _⟩⟩
  case round =>
    obtain ⟨i, rfl, AR⟩ := hrel
    have ar := AR.out
    have aa := A.out
    by_cases hi : i < 3
    · obtain ⟨m, hm⟩ : ∃ m, mks[i]? = some m := ⟨_, List.getElem?_eq_getElem hi⟩
      have hix := AIX.out i m hm
      obtain ⟨mf1, mf2, mf3, mf4⟩ := mk_facts i m hm
      have t1 : ((i : Int) < 3) = True := eq_true (by omega)
      have hkn := ar.2.1
      have hdr : mks.drop i = m :: mks.drop (i + 1) := by
        obtain ⟨h1, h2⟩ := List.getElem?_eq_some_iff.1 hm
        rw [← h2]
        exact List.drop_eq_getElem_cons h1
      rw [hdr] at hkn
      obtain ⟨k, p, t⟩ := m
      simp only at mf1 mf2 mf3 mf4
      simp only [mv] at hix
      obtain ⟨S, hS⟩ : ∃ S, st t = S := ⟨_, rfl⟩
      obtain ⟨n, hn⟩ : ∃ n, t.length = n := ⟨_, rfl⟩
      have zS : S.size = n := by rw [← hS, st_size, hn]
      rw [hS] at hix
      obtain ⟨H, hH⟩ : ∃ H, wr.heap.size = H := ⟨_, rfl⟩
      have A2 : Aside (st t = S ∧ t.length = n ∧ k < 10 ∧ p < 300 ∧ n < 10 ∧ Oct t ∧ wr.heap.size = H ∧ kn ((k, p, t) :: mks.drop (i + 1)) l e = (K, F) ∧ i < 3 ∧ i + gk = 3 ∧ Below B w wr) := ⟨hS, hn, mf1, mf2, by omega, mf4, hH, hkn, hi, ar.1, ar.2.2⟩
      clear AR ar aa hm mf1 mf2 mf3 mf4 hi hkn hdr hS hn
      go_upto_region 4 with fail
      have hc0 : Cells (wr.alloc (.cells #[.int .i64 (k : Int), .int .i64 (p : Int), .string S] 31)) H #[.int .i64 (k : Int), .int .i64 (p : Int), .string S] 31 := by rw [← A2.out.2.2.2.2.2.2.1]; exact Cells.new _ _ _
      have hbw : Below B w (wr.alloc (.cells #[.int .i64 (k : Int), .int .i64 (p : Int), .string S] 31)) := by
        have h9 := A2.out.2.2.2.2.2.2.2.2.2.2
        exact h9.trans ((Below.refl _ wr).alloc (by have := h9.size; have := A.out.2.1; omega) _)
      obtain ⟨w1, hw1⟩ : ∃ w1, wr.alloc (.cells #[.int .i64 (k : Int), .int .i64 (p : Int), .string S] 31) = w1 := ⟨_, rfl⟩
      rw [hw1] at hc0 hbw ⊢
      have k0 : w1.cell? ⟨H, 0, none⟩ = some (.int .i64 (k : Int)) := by rw [hc0.cell]; rfl
      have k1 : w1.cell? ⟨H, 1, none⟩ = some (.int .i64 (p : Int)) := by rw [hc0.cell]; rfl
      have k2 : w1.cell? ⟨H, 2, none⟩ = some (.string S) := by rw [hc0.cell]; rfl
      have A1 : Aside (Cells w1 H #[.int .i64 (k : Int), .int .i64 (p : Int), .string S] 31 ∧ Below B w w1) := ⟨hc0, hbw⟩
      clear hw1 hc0 hbw hix t1
      go_wp2_with fail
      clear k0 k1 k2
      obtain ⟨G, hG⟩ : ∃ G, G = gk := ⟨_, rfl⟩
      subst hG
      go_loopg [17] n (fun gg s17 wq => ∃ j : Nat, s17 = .int .i64 (j : Int) ∧ Aside (j + gg = n ∧ Cells wq H #[.int .i64 (k : Int), .int .i64 (p : Int), .string S] 31 ∧ Below B w wq ∧ scan (t.drop j) (l.drop (p + j)) e = scan t (l.drop p) e))
      case atStart => exact ⟨0, rfl, ⟨by omega, A1.out.1, A1.out.2, by simp⟩⟩
      case round =>
        obtain ⟨j, rfl, AI⟩ := hrel
        have ai := AI.out
        have a2 := A2.out
        have aa := A.out
        have k0 : wr.cell? ⟨H, 0, none⟩ = some (.int .i64 (k : Int)) := by rw [ai.2.1.cell]; rfl
        have k1 : wr.cell? ⟨H, 1, none⟩ = some (.int .i64 (p : Int)) := by rw [ai.2.1.cell]; rfl
        have k2 : wr.cell? ⟨H, 2, none⟩ = some (.string S) := by rw [ai.2.1.cell]; rfl
        have c0 : (p : Int) < 300 := by omega
        have c1 : (j : Int) < 10 := by omega
        have c2 : (L : Int) ≤ 281474976710656 := by omega
        have c5 : (i : Int) < 3 := by omega
        have gone : ∀ (u : World), Below B w u → scan t (l.drop p) e = some false → Aside ((i + 1) + (G - 1) = 3 ∧ kn (mks.drop (i + 1)) l e = (K, F) ∧ Below B w u ∧ G ≠ 0) := fun u hu hs => by
          have hk := a2.2.2.2.2.2.2.2.1
          simp only [kn] at hk
          rw [hs] at hk
          exact ⟨by omega, hk, hu, by omega⟩
        by_cases hj : j < n
        · have t1 : ((j : Int) < (n : Int)) = True := eq_true (by omega)
          have t1n : (j < n) = True := eq_true hj
          obtain ⟨y, hy⟩ : ∃ y, t[j]? = some y := ⟨_, List.getElem?_eq_getElem (by omega)⟩
          have hsc := ai.2.2.2
          rw [drop_more hy] at hsc
          by_cases hpl : p + j < L
          · obtain ⟨x, hx⟩ : ∃ x, l[p + j]? = some x := ⟨_, List.getElem?_eq_getElem (by omega)⟩
            rw [drop_more hx] at hsc
            have hcell : ∃ b o, a = some ⟨b, o, none⟩ ∧ wr.cell? ⟨b, o + (p + j), none⟩ = some (.int .u8 (x : Int)) := by
              have hb := aa.2.1
              have hlie : Lies wr a l := aa.2.2.1.below (hb ▸ ai.2.2.1)
              rcases hlie with h0 | ⟨b, o, h1, h2⟩
              · rw [h0] at hx; cases hx
              · exact ⟨b, o, h1, h2 _ _ hx⟩
            obtain ⟨b, o, rfl, hcell⟩ := hcell
            have hy0 : ∀ h : j < S.size, (S[j]'h).toNat = y := by rw [← a2.1]; exact fun h => st_get a2.2.2.2.2.2.1 hy h
            obtain ⟨q, hq⟩ : ∃ q, p + j = q := ⟨_, rfl⟩
            have hwq : IntKind.i64.wrap ((p : Int) + (j : Int)) = (q : Int) := by rw [IntKind.wrap_i64]; omega
            rw [hq] at hcell
            have c3 : (q : Int) < (L : Int) := by omega
            have c4 : ¬ (L : Int) ≤ (q : Int) := by omega
            have hx8 : x < 256 := aa.2.2.2.2.1 x (List.mem_of_getElem? hx)
            have hy8 : y < 256 := a2.2.2.2.2.2.1 y (List.mem_of_getElem? hy)
            by_cases hxy : x = y
            · subst hxy
              rw [show scan (x :: t.drop (j + 1)) (x :: l.drop (p + j + 1)) e = scan (t.drop (j + 1)) (l.drop (p + j + 1)) e by simp [scan]] at hsc
              have AZ : Aside ((j + 1) + (gk - 1) = n ∧ gk ≠ 0 ∧ Cells wr H #[.int .i64 (k : Int), .int .i64 (p : Int), .string S] 31 ∧ Below B w wr ∧ scan (t.drop (j + 1)) (l.drop (p + (j + 1))) e = scan t (l.drop p) e) := ⟨by omega, by omega, ai.2.1, ai.2.2.1, hsc⟩
              clear AI ai a2 aa gone hj hy hsc hpl hx hq c0
              go_upto_region 10 with fail
              go_quiet (fail)
              go_wp2_with fail
              have az := AZ.out
              go_roundg (gk - 1)
              case measure => omega
              case rel => exact ⟨j + 1, by go_num, az.1, az.2.2.1, Below.drewN2 az.2.2.2.1 _, az.2.2.2.2⟩
            · rw [show scan (y :: t.drop (j + 1)) (x :: l.drop (p + j + 1)) e = some false by simp [scan, hxy]] at hsc
              have hxy2 : ((x : Int) != (y : Int)) = true := by simp; omega
              have AZ := gone wr ai.2.2.1 hsc.symm
              clear AI ai a2 aa gone hj hy hsc hpl hx hq c0
              go_upto_region 10 with fail
              go_quiet (fail)
              go_wp2_with fail
              have az := AZ.out
              go_roundg (G - 1)
              case measure => omega
              case rel => exact ⟨i + 1, by go_num, az.1, az.2.1, Below.drewN2 az.2.2.1 _⟩
          · rw [List.drop_eq_nil_of_le (by omega : l.length ≤ p + j)] at hsc
            obtain ⟨q, hq⟩ : ∃ q, p + j = q := ⟨_, rfl⟩
            have hwq : IntKind.i64.wrap ((p : Int) + (j : Int)) = (q : Int) := by rw [IntKind.wrap_i64]; omega
            have c3 : (L : Int) ≤ (q : Int) := by omega
            cases e with
            | false =>
              rw [show scan (y :: t.drop (j + 1)) [] false = none from rfl] at hsc
              have hk := a2.2.2.2.2.2.2.2.1
              simp only [kn] at hk
              rw [← hsc] at hk
              obtain ⟨rfl, rfl⟩ := Prod.mk.inj hk
              have AZ : Aside (Below B w wr) := ai.2.2.1
              clear AI ai a2 aa gone hj hy hsc hpl hq c0 hk A A1 A2
              go_wp2_with fail
              (try rw [Exit.noGoto_ret])
              first | go_ret | go_ret2
              exact ⟨rfl, AZ.out⟩
            | true =>
              rw [show scan (y :: t.drop (j + 1)) [] true = some false from rfl] at hsc
              have AZ := gone wr ai.2.2.1 hsc.symm
              clear AI ai a2 aa gone hj hy hsc hpl hq c0
              go_upto_region 10 with fail
              go_quiet (fail)
              go_wp2_with fail
              have az := AZ.out
              go_roundg (G - 1)
              case measure => omega
              case rel => exact ⟨i + 1, by go_num, az.1, az.2.1, Below.drewN2 az.2.2.1 _⟩
        · have t1 : ((j : Int) < (n : Int)) = False := eq_false (by omega)
          have t1n : (j < n) = False := eq_false hj
          have hsc := ai.2.2.2
          rw [List.drop_eq_nil_of_le (by omega : t.length ≤ j)] at hsc
          have hk := a2.2.2.2.2.2.2.2.1
          simp only [kn] at hk
          rw [← hsc] at hk
          simp only [scan] at hk
          obtain ⟨rfl, rfl⟩ := Prod.mk.inj hk
          have AZ : Aside (Below B w wr) := ai.2.2.1
          clear AI ai a2 aa gone hj hsc c0 hk A A1 A2
          go_wp2_with fail
          (try rw [Exit.noGoto_ret])
          first | go_ret | go_ret2
          exact ⟨rfl, AZ.out⟩
    · have t1 : ((i : Int) < 3) = False := eq_false (by omega)
      have hk := ar.2.1
      have hi3 : i = 3 := by omega
      rw [hi3] at hk
      simp only [mks, List.drop, kn] at hk
      obtain ⟨rfl, rfl⟩ := Prod.mk.inj hk
      have AZ : Aside (Below B w wr) := ar.2.2
      clear AR ar aa hk hi A
      subst hi3
      clear t1
      go_wp2_with fail
      (try rw [Exit.noGoto_ret])
      first | go_ret | go_ret2
      exact ⟨rfl, AZ.out⟩
end Go.Proofs.YtbhlmmbknmejkaaDoor

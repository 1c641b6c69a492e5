/-
  The document's run in memory: say, stop; its small functions.
-/
import Derived.Test.YtapljkenmgdkmaaWrt
import Derived.Laws.Rows
namespace Go.Proofs.Ytapljkenmgdkmaa
open Go.RowKit
set_option linter.unusedVariables false
/-- The document's run in block R, its lists in blocks from lo on. -/
structure Rr (w : World) (lo R : Nat) (out tm : List Nat) (y t : Nat) : Prop where
  ex : ∃ vO vT, Cells w R #[vO, vT, .int .i64 (y : Int), .int .i64 (t : Int)] 28 ∧ Ob w lo vO out ∧ Oi w lo vT tm
/-- What may turn while it is worked on. -/
structure Fr (lo R : Nat) (w w' : World) : Prop where
  bel : Below lo w w'
  kp : ∀ b cs, b ≠ R → Cells w b cs 28 → Cells w' b cs 28
theorem Fr.refl (lo R : Nat) (w : World) : Fr lo R w w := ⟨Below.refl _ _, fun _ _ _ h => h⟩
theorem Fr.trans {lo R : Nat} {w u v : World} (h : Fr lo R w u) (k : Fr lo R u v) : Fr lo R w v := ⟨h.bel.trans k.bel, fun b cs hb hc => k.kp b cs hb (h.kp b cs hb hc)⟩
theorem Fr.of_only {lo R : Nat} {w u : World} (h : Only R w u) (hR : lo ≤ R) : Fr lo R w u := ⟨h.below hR, fun b cs hb hc => hc.only h hb⟩
theorem Fr.of_ap {lo R : Nat} {e : TypeId} {w u : World} (h : Ap lo e w u) (he : 28 ≠ e) : Fr lo R w u := ⟨h.bel, fun b cs hb hc => hc.ap h he⟩
theorem Fr.alloc {lo R : Nat} (w : World) (hlo : lo ≤ w.heap.size) (o : Obj) : Fr lo R w (w.alloc o) := ⟨(Below.refl _ w).alloc hlo o, fun b cs hb hc => hc.alloc o⟩
theorem Below.drewN' {B : Nat} {w u : World} (h : Below B w u) (n : Nat) : Below B w (u.drewN n) := h.trans (((Only.refl B u).drewN n).below (Nat.le_refl _))
theorem Fr.drewN {lo R : Nat} (w : World) (n : Nat) : Fr lo R w (w.drewN n) := ⟨Below.drewN' (Below.refl _ w) n, fun b cs hb hc => hc⟩
theorem Rr.lt {w : World} {lo R : Nat} {out tm : List Nat} {y t : Nat} (h : Rr w lo R out tm y t) : R < w.heap.size := by obtain ⟨vO, vT, hc, _⟩ := h.ex; exact hc.lt
theorem Rr.drewN {w : World} {lo R : Nat} {out tm : List Nat} {y t : Nat} (h : Rr w lo R out tm y t) (n : Nat) : Rr (w.drewN n) lo R out tm y t := by obtain ⟨vO, vT, hc, h1, h2⟩ := h.ex; exact ⟨vO, vT, hc, Ow.drewN h1 n, Ow.drewN h2 n⟩
theorem four {w : World} {B : Nat} {v0 v1 v2 v3 : Value} {t : TypeId} (h : Cells w B #[v0, v1, v2, v3] t) : w.cell? ⟨B, 0, none⟩ = some v0 ∧ w.cell? ⟨B, 1, none⟩ = some v1 ∧ w.cell? ⟨B, 2, none⟩ = some v2 ∧ w.cell? ⟨B, 3, none⟩ = some v3 :=
  ⟨h.cell 0, h.cell 1, h.cell 2, h.cell 3⟩
theorem set0q {w : World} {B : Nat} {v0 v1 v2 v3 : Value} {t : TypeId} (h : Cells w B #[v0, v1, v2, v3] t) (u : Value) : Cells (w.setCell ⟨B, 0, none⟩ u) B #[u, v1, v2, v3] t := by have := h.set 0 u; simpa using this
theorem set1q {w : World} {B : Nat} {v0 v1 v2 v3 : Value} {t : TypeId} (h : Cells w B #[v0, v1, v2, v3] t) (u : Value) : Cells (w.setCell ⟨B, 1, none⟩ u) B #[v0, u, v2, v3] t := by have := h.set 1 u; simpa using this
theorem set23 {w : World} {B : Nat} {v0 v1 v2 v3 : Value} {t : TypeId} (h : Cells w B #[v0, v1, v2, v3] t) (u x : Value) : Cells ((w.setCell ⟨B, 2, none⟩ u).setCell ⟨B, 3, none⟩ x) B #[v0, v1, u, x] t := by have := (h.set 2 u).set 3 x; simpa using this
theorem ow_only {w u : World} {lo M : Nat} {e t : TypeId} {v : Value} {xs : List Value} {cs : Array Value} (h : Ow w lo e v xs) (k : Only M w u) (hM : Cells w M cs t) (ht : t ≠ e) : Ow u lo e v xs := h.but (But.of_only k) hM ht
set_option maxHeartbeats 1000000 in
theorem say_c (w : World) (lo R : Nat) (out tm : List Nat) (y t x s : Nat) (hlo : lo ≤ R) (h : Rr w lo R out tm y t) (h1 : out.length < 1000000000000) (h2 : tm.length < 1000000000000) : Calls Try.prog 24 #[.pointer (some ⟨R, 0, none⟩), .int .u8 (x : Int), .int .i64 (s : Int)] w fun e w' => e = .returned (.tuple #[]) ∧ Rr w' lo R (out ++ [x]) (tm ++ [s]) y t ∧ Fr lo R w w' := by
  obtain ⟨vO, vT, hc, hO, hT⟩ := h.ex
  obtain ⟨c0, c1, c2, c3⟩ := four hc
  have z0 := hc.frozen 0
  obtain ⟨aO, cO, hvO, _⟩ := Ow.shape hO
  obtain ⟨aT, cT, hvT, _⟩ := Ow.shape hT
  obtain ⟨nO, hnO⟩ : ∃ n, (ob out).length = n := ⟨_, rfl⟩
  obtain ⟨nT, hnT⟩ : ∃ n, (oi tm).length = n := ⟨_, rfl⟩
  rw [hnO] at hvO
  rw [hnT] at hvT
  subst hvO
  subst hvT
  obtain ⟨H, hH⟩ : ∃ H, w.heap.size = H := ⟨_, rfl⟩
  have bal : Below w.heap.size w (w.alloc (.cells #[.int .u8 (x : Int)] 5)) := (Below.refl _ w).alloc (Nat.le_refl _) _
  have hobA : Ob (w.alloc (.cells #[.int .u8 (x : Int)] 5)) lo (.slice aO nO cO) out := Ow.below hO bal (Nat.le_refl _)
  have hlA := lies_one w H x hH
  have A : Aside (Cells w R #[.slice aO nO cO, .slice aT nT cT, .int .i64 (y : Int), .int .i64 (t : Int)] 28 ∧ Oi w lo (.slice aT nT cT) tm ∧ Below w.heap.size w (w.alloc (.cells #[.int .u8 (x : Int)] 5)) ∧ lo ≤ R ∧ lo ≤ w.heap.size) := ⟨hc, hT, bal, hlo, hO.le⟩
  have AL : Aside (out.length + [x].length ≤ 140737488355328 ∧ tm.length < 1000000000000) := ⟨by simp; omega, h2⟩
  have hkA : Cells (w.alloc (.cells #[.int .u8 (x : Int)] 5)) R #[.slice aO nO cO, .slice aT nT cT, .int .i64 (y : Int), .int .i64 (t : Int)] 28 := hc.alloc _
  clear h hc hO hT hlo h1 h2 bal hnO hnT c1 c2 c3
  go_enter Try.func24, Try.ntmps24
  go_upto_region 1 with (at_builtin; refine wpList_ob _ rfl (.tmp 10) (.tmp 12) rfl lo (.slice aO nO cO) out (by rfl) hobA (some ⟨H, 0, none⟩) [x] 1 1 rfl (by rfl) (by intro h; cases h) hlA AL.out.1 ?_; intro v6 w6 hap; obtain ⟨a6, n6, c6, hv6⟩ : ∃ a6 n6 c6, v6 = .slice a6 n6 c6 := (by obtain ⟨a7, c7, h6, _⟩ := Ow.shape hap.ow; exact ⟨_, _, _, h6⟩); subst hv6; have k6 := hkA.ap hap.ap (by decide); have e0 := (four k6).1; have f0 := k6.frozen 0; clear c0 z0)
  obtain ⟨v6, hv6⟩ : ∃ v6, Value.slice a6 n6 c6 = v6 := ⟨_, rfl⟩
  rw [hv6] at hap ⊢
  have a0 := A.out
  have k7 := set0q k6 v6
  have o7 : Only R w6 (w6.setCell ⟨R, 0, none⟩ v6) := (Only.refl R w6).setCell 0 _
  have hO7 : Ob (w6.setCell ⟨R, 0, none⟩ v6) lo v6 (out ++ [x]) := ow_only hap.ow o7 k6 (by decide)
  have hT7 : Oi (w6.setCell ⟨R, 0, none⟩ v6) lo (.slice aT nT cT) tm := ow_only (Ow.ap (Ow.below a0.2.1 a0.2.2.1 (Nat.le_refl _)) hap.ap (by decide)) o7 k6 (by decide)
  have fr7 : Fr lo R w (w6.setCell ⟨R, 0, none⟩ v6) := ((Fr.alloc w a0.2.2.2.2 _).trans (Fr.of_ap hap.ap (by decide))).trans (Fr.of_only o7 a0.2.2.2.1)
  obtain ⟨w7, hw7⟩ : ∃ w7, w6.setCell ⟨R, 0, none⟩ v6 = w7 := ⟨_, rfl⟩
  rw [hw7] at k7 hO7 hT7 fr7 ⊢
  obtain ⟨H7, hH7⟩ : ∃ H7, w7.heap.size = H7 := ⟨_, rfl⟩
  have bal7 : Below w7.heap.size w7 (w7.alloc (.cells #[.int .i64 (s : Int)] 3)) := (Below.refl _ w7).alloc (Nat.le_refl _) _
  have hoiA : Oi (w7.alloc (.cells #[.int .i64 (s : Int)] 3)) lo (.slice aT nT cT) tm := Ow.below hT7 bal7 (Nat.le_refl _)
  have hcA : (w7.alloc (.cells #[.int .i64 (s : Int)] 3)).cell? ⟨H7, 0, none⟩ = some (.int .i64 (s : Int)) := by rw [← hH7, (Cells.new w7 #[.int .i64 (s : Int)] 3).cell 0]; rfl
  have A7 : Aside (Cells w7 R #[v6, .slice aT nT cT, .int .i64 (y : Int), .int .i64 (t : Int)] 28 ∧ Ob w7 lo v6 (out ++ [x]) ∧ Fr lo R w w7 ∧ Below w7.heap.size w7 (w7.alloc (.cells #[.int .i64 (s : Int)] 3)) ∧ lo ≤ w7.heap.size) := ⟨k7, hO7, fr7, bal7, hO7.le⟩
  have g1 : w7.cell? ⟨R, 1, none⟩ = some (.slice aT nT cT) := by rw [k7.cell]; rfl
  have g1' : (w7.alloc (.cells #[.int .i64 (s : Int)] 3)).cell? ⟨R, 1, none⟩ = some (.slice aT nT cT) := by rw [(k7.alloc _).cell]; rfl
  have y1 := k7.frozen 1
  have hkB : Cells (w7.alloc (.cells #[.int .i64 (s : Int)] 3)) R #[v6, .slice aT nT cT, .int .i64 (y : Int), .int .i64 (t : Int)] 28 := k7.alloc _
  clear a0 k7 o7 hO7 hT7 fr7 hw7 bal7 hap hobA hlA k6 e0 f0 hkA hv6 g1'
  go_wp2_with (at_builtin; refine wpList_oi _ rfl (.tmp 20) (.tmp 22) rfl lo (.slice aT nT cT) tm (by rfl) hoiA H7 1 s (by rfl) hcA AL.out.2 ?_; intro v8 w8 hap8; obtain ⟨a8, n8, c8, hv8⟩ : ∃ a8 n8 c8, v8 = .slice a8 n8 c8 := (by obtain ⟨a9, c9, h9, _⟩ := Ow.shape hap8.ow; exact ⟨_, _, _, h9⟩); subst hv8; have k8 := hkB.ap hap8.ap (by decide); have e0 := (four k8).2.1; have f0 := k8.frozen 1; clear g1 y1)
  first | go_end0 | (refine bodyPost_ret (results_none rfl _ _ _) rfl ?_)
  have a7 := A7.out
  have a0 := A.out
  have o9 : Only R w8 (w8.setCell ⟨R, 1, none⟩ (.slice a8 n8 c8)) := (Only.refl R w8).setCell 1 _
  refine ⟨rfl, ⟨v6, .slice a8 n8 c8, set1q k8 _, ?_, ow_only hap8.ow o9 k8 (by decide)⟩, ((a7.2.2.1.trans (Fr.alloc w7 a7.2.2.2.2 _)).trans (Fr.of_ap hap8.ap (by decide))).trans (Fr.of_only o9 a0.2.2.2.1)⟩
  exact ow_only (Ow.ap (Ow.below a7.2.1 a7.2.2.2.1 (Nat.le_refl _)) hap8.ap (by decide)) o9 k8 (by decide)
theorem stop_c (w : World) (lo R : Nat) (out tm : List Nat) (y t y' t' : Nat) (hlo : lo ≤ R) (h : Rr w lo R out tm y t) : Calls Try.prog 40 #[.pointer (some ⟨R, 0, none⟩), .int .i64 (y' : Int), .int .i64 (t' : Int)] w fun e w' => e = .returned (.tuple #[]) ∧ Rr w' lo R out tm y' t' ∧ Fr lo R w w' := by
  obtain ⟨vO, vT, hc, hO, hT⟩ := h.ex
  obtain ⟨c0, c1, c2, c3⟩ := four hc
  have z2 := hc.frozen 2
  have z3 := hc.frozen 3
  have A : Aside (Cells w R #[vO, vT, .int .i64 (y : Int), .int .i64 (t : Int)] 28 ∧ Ob w lo vO out ∧ Oi w lo vT tm ∧ lo ≤ R) := ⟨hc, hO, hT, hlo⟩
  clear h hc hO hT hlo
  go_enter Try.func40, Try.ntmps40
  go_wp2_with fail
  first | go_end0 | (refine bodyPost_ret (results_none rfl _ _ _) rfl ?_)
  have a := A.out
  have o : Only R w ((w.setCell ⟨R, 2, none⟩ (.int .i64 (y' : Int))).setCell ⟨R, 3, none⟩ (.int .i64 (t' : Int))) := ((Only.refl R w).setCell _ _).setCell _ _
  exact ⟨rfl, ⟨vO, vT, set23 a.1 _ _, ow_only a.2.1 o a.1 (by decide), ow_only a.2.2.1 o a.1 (by decide)⟩, Fr.of_only o a.2.2.2⟩
theorem rblank_c (x : Nat) (hx : x < 256) (w : World) : Calls Try.prog 26 #[.int .u8 x] w fun e w' => e = .returned (.bool (isB x)) ∧ w = w' := by
  by_cases h9 : x = 9
  · subst h9
    go_enter Try.func26, Try.ntmps26
    go_wp2_with fail
    go_ret
    exact ⟨rfl, rfl⟩
  by_cases h32 : x = 32
  · subst h32
    go_enter Try.func26, Try.ntmps26
    go_wp2_with fail
    go_ret
    exact ⟨rfl, rfl⟩
  have e : isB x = false := by simp [isB, h9, h32]
  rw [e]
  have t1 : ((x : Int) == 9) = false := by rw [beq_eq_false_iff_ne]; omega
  have t2 : ((x : Int) == 32) = false := by rw [beq_eq_false_iff_ne]; omega
  clear h9 h32 e
  go_enter Try.func26, Try.ntmps26
  go_wp2_with fail
  go_ret
  exact ⟨rfl, rfl⟩
theorem digit_c (x : Nat) (hx : x < 256) (r : Int) (hr : Aside ((vl x = 16 ∧ r = -1) ∨ (vl x < 16 ∧ r = vl x))) (w : World) : Calls Try.prog 41 #[.int .u8 x] w fun e w' => e = .returned (.int .i64 r) ∧ w = w' := by
  by_cases h1 : 48 ≤ x ∧ x ≤ 57
  · have e : vl x = x - 48 := by unfold vl; rw [if_pos h1]
    have A : r = (x : Int) - 48 := by have := hr.out; rw [e] at this; omega
    have i1 : (48 : Int) ≤ (x : Int) := by omega
    have i2 : (x : Int) ≤ 57 := by omega
    have i3 : (x : Int) - 48 = r := A.symm
    have i4 : (0 : Int) ≤ r := by omega
    have i5 : r < 10 := by omega
    clear hr e h1 A
    go_enter Try.func41, Try.ntmps41
    go_wp2_with fail
    go_ret
    exact ⟨rfl, rfl⟩
  by_cases h2 : 65 ≤ x ∧ x ≤ 70
  · have e : vl x = x - 55 := by unfold vl; rw [if_neg h1, if_pos h2]
    have A : r = (x : Int) - 55 := by have := hr.out; rw [e] at this; omega
    have hs2 : x = 65 ∨ x = 66 ∨ x = 67 ∨ x = 68 ∨ x = 69 ∨ x = 70 := by omega
    clear hr e h1 h2
    rcases hs2 with rfl | rfl | rfl | rfl | rfl | rfl
    all_goals
      subst A
      go_enter Try.func41, Try.ntmps41
      go_wp2_with fail
      go_ret
      exact ⟨rfl, rfl⟩
  by_cases h3 : 97 ≤ x ∧ x ≤ 102
  · have e : vl x = x - 87 := by unfold vl; rw [if_neg h1, if_neg h2, if_pos h3]
    have A : r = (x : Int) - 87 := by have := hr.out; rw [e] at this; omega
    have hs2 : x = 97 ∨ x = 98 ∨ x = 99 ∨ x = 100 ∨ x = 101 ∨ x = 102 := by omega
    clear hr e h1 h2 h3
    rcases hs2 with rfl | rfl | rfl | rfl | rfl | rfl
    all_goals
      subst A
      go_enter Try.func41, Try.ntmps41
      go_wp2_with fail
      go_ret
      exact ⟨rfl, rfl⟩
  have e : vl x = 16 := by unfold vl; rw [if_neg h1, if_neg h2, if_neg h3]
  have A : r = -1 := by have := hr.out; rw [e] at this; omega
  subst A
  clear hr e
  have g1 : ((48 : Int) ≤ (x : Int)) = True ∧ ((x : Int) ≤ 57) = False ∨ ((48 : Int) ≤ (x : Int)) = False := by
    by_cases h : 48 ≤ x
    · exact Or.inl ⟨eq_true (by omega), eq_false (by omega)⟩
    · exact Or.inr (eq_false (by omega))
  have g2 : ((65 : Int) ≤ (x : Int)) = True ∧ ((x : Int) ≤ 70) = False ∨ ((65 : Int) ≤ (x : Int)) = False := by
    by_cases h : 65 ≤ x
    · exact Or.inl ⟨eq_true (by omega), eq_false (by omega)⟩
    · exact Or.inr (eq_false (by omega))
  have g3 : ((97 : Int) ≤ (x : Int)) = True ∧ ((x : Int) ≤ 102) = False ∨ ((97 : Int) ≤ (x : Int)) = False := by
    by_cases h : 97 ≤ x
    · exact Or.inl ⟨eq_true (by omega), eq_false (by omega)⟩
    · exact Or.inr (eq_false (by omega))
  clear h1 h2 h3 hx
  rcases g1 with ⟨a1, a2⟩ | a1 <;> rcases g2 with ⟨b1, b2⟩ | b1 <;> rcases g3 with ⟨c1, c2⟩ | c1
  all_goals
    go_enter Try.func41, Try.ntmps41
    go_wp2_with fail
    go_ret
    exact ⟨rfl, rfl⟩
/-- How many bytes a line's end has. -/
def brk : List Nat → Nat
  | 10 :: _ => 1
  | 13 :: 10 :: _ => 2
  | _ => 0
theorem brk_two (l : List Nat) : (brk l = 2) ↔ crlf l = true := by
  unfold brk
  split
  · rename_i q
    simp
    cases q <;> simp [crlf]
  · simp [crlf]
  · rename_i h1 h2
    simp
    cases hc : crlf l with
    | false => rfl
    | true => obtain ⟨r, e⟩ := (crlf_iff l).1 hc; exact absurd e (h2 r)
theorem Lies.at' {w : World} {b o : Nat} {l : List Nat} (h : Lies w (some ⟨b, o, none⟩) l) {i x : Nat} (hx : l[i]? = some x) : w.cell? ⟨b, o + i, none⟩ = some (.int .u8 (x : Int)) := by
  rcases h with rfl | ⟨b', o', ha, hc⟩
  · simp at hx
  · cases ha; exact hc i x hx
theorem Lies.some' {w : World} {a : Option Addr} {l : List Nat} (h : Lies w a l) (hl : 0 < l.length) : ∃ b o, a = some ⟨b, o, none⟩ := by
  rcases h with rfl | ⟨b, o, ha, _⟩
  · simp at hl
  · exact ⟨b, o, ha⟩
theorem drop_cons {l : List Nat} {i x : Nat} {r : List Nat} (h : l.drop i = x :: r) : l[i]? = some x ∧ l.drop (i + 1) = r ∧ i < l.length := by
  have h1 : i < l.length := by
    have := congrArg List.length h
    simp at this
    omega
  rw [List.drop_eq_getElem_cons h1] at h
  injection h with h2 h3
  exact ⟨by rw [List.getElem?_eq_getElem h1, h2], h3, h1⟩
theorem brk_x {x : Nat} {r : List Nat} (h10 : x ≠ 10) (h : x ≠ 13 ∨ ∀ q, r ≠ 10 :: q) : brk (x :: r) = 0 := by
  unfold brk
  split
  · rename_i e; injection e with e1 e2; exact absurd e1 h10
  · rename_i e
    injection e with e1 e2
    rcases h with h | h
    · exact absurd e1 h
    · exact absurd e2 (h _)
  · rfl
set_option maxHeartbeats 1000000 in
theorem breaks_c (w : World) (a : Option Addr) (l : List Nat) (L C i : Nat) (m : List Nat) (hl : Lies w a l) (hL : l.length = L) (hLb : L < 1000000000000) (hi : i ≤ L) (hm : l.drop i = m) : Calls Try.prog 23 #[.slice a L C, .int .i64 (i : Int)] w fun e w' => e = .returned (.int .i64 (brk m : Nat)) ∧ w = w' := by
  have hiI : (i : Int) < 2000000000000 := by omega
  cases m with
  | nil =>
    have hiL : i = L := by
      have := congrArg List.length hm
      simp at this
      omega
    have t1 : ((i : Int) < (L : Int)) = False := eq_false (by omega)
    have t1' : (i < L) = False := eq_false (by omega)
    have t2 : ((i : Int) + 1 < (L : Int)) = False := eq_false (by omega)
    have t2' : (i + 1 < L) = False := eq_false (by omega)
    clear hl hL hLb hi hm hiL
    go_enter Try.func23, Try.ntmps23
    go_wp2_with fail
    go_ret
    exact ⟨rfl, rfl⟩
  | cons x r =>
    obtain ⟨hx, hr, hlt⟩ := drop_cons hm
    obtain ⟨b, o, rfl⟩ := hl.some' (by omega)
    have c0 := hl.at' hx
    have t1 : ((i : Int) < (L : Int)) = True := eq_true (by omega)
    have t1' : (i < L) = True := eq_true (by omega)
    by_cases h10 : x = 10
    · subst h10
      clear hl hL hLb hi hm hr hlt hx
      go_enter Try.func23, Try.ntmps23
      go_wp2_with fail
      go_ret
      exact ⟨rfl, rfl⟩
    have u10 : ((x : Int) == 10) = false := by rw [beq_eq_false_iff_ne]; omega
    by_cases h13 : x = 13
    · subst h13
      cases r with
      | nil =>
        have hiL : i + 1 = L := by
          have := congrArg List.length hr
          simp at this
          omega
        have t2 : ((i : Int) + 1 < (L : Int)) = False := eq_false (by omega)
        have t2' : (i + 1 < L) = False := eq_false (by omega)
        clear hl hL hLb hi hm hr hlt hx hiL h10
        go_enter Try.func23, Try.ntmps23
        go_wp2_with fail
        go_ret
        exact ⟨rfl, rfl⟩
      | cons z q =>
        obtain ⟨hz, _, hlt2⟩ := drop_cons hr
        obtain ⟨j, hj⟩ : ∃ j, i + 1 = j := ⟨_, rfl⟩
        have hjI : (i : Int) + 1 = (j : Int) := by omega
        rw [hj] at hz hlt2
        have c1 := hl.at' hz
        have t2 : ((j : Int) < (L : Int)) = True := eq_true (by omega)
        have t2' : (j < L) = True := eq_true (by omega)
        have hjb : (j : Int) < 2000000000000 := by omega
        clear hj
        by_cases hz10 : z = 10
        · subst hz10
          clear hl hL hLb hi hm hr hlt hx hlt2 hz h10
          go_enter Try.func23, Try.ntmps23
          go_wp2_with fail
          go_ret
          exact ⟨rfl, rfl⟩
        · have e : brk (13 :: z :: q) = 0 := brk_x (by omega) (Or.inr (fun q' h => by injection h with h1; exact hz10 h1))
          rw [e]
          have u11 : ((z : Int) == 10) = false := by rw [beq_eq_false_iff_ne]; omega
          clear hl hL hLb hi hm hr hlt hx hlt2 hz h10 hz10 e
          go_enter Try.func23, Try.ntmps23
          go_wp2_with fail
          go_ret
          exact ⟨rfl, rfl⟩
    · have e : brk (x :: r) = 0 := brk_x h10 (Or.inl h13)
      rw [e]
      have u13 : ((x : Int) == 13) = false := by rw [beq_eq_false_iff_ne]; omega
      by_cases h2 : i + 1 < L
      · have t2 : ((i : Int) + 1 < (L : Int)) = True := eq_true (by omega)
        have t2' : (i + 1 < L) = True := eq_true (by omega)
        clear hl hL hLb hi hm hr hlt hx h10 h13 e h2
        go_enter Try.func23, Try.ntmps23
        go_wp2_with fail
        go_ret
        exact ⟨rfl, rfl⟩
      · have t2 : ((i : Int) + 1 < (L : Int)) = False := eq_false (by omega)
        have t2' : (i + 1 < L) = False := eq_false (by omega)
        clear hl hL hLb hi hm hr hlt hx h10 h13 e h2
        go_enter Try.func23, Try.ntmps23
        go_wp2_with fail
        go_ret
        exact ⟨rfl, rfl⟩
end Go.Proofs.Ytapljkenmgdkmaa

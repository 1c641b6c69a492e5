/-
  One, two or three bytes written as a group.
-/
import Derived.Test.YtmijpocfichfpabWhole
import Derived.Laws.Rows
import Derived.Laws.CopyOwn
import Derived.Laws.BitsLemmas
namespace Go.Proofs.Ytmijpocfichfpab
open Go.RowKit
set_option linter.unusedVariables false
theorem size49 : (Try.prog.info? 31).map (·.size) = some 4 := by kernel_rfl
theorem gsize5 : (Try.prog.info? 5).map (·.size) = some 1 := by kernel_rfl
theorem Only.setRow {b : Nat} {w u : World} (h : Only b w u) (cs : Array Value) : Only b w (u.setRow b cs) :=
  h.trans ⟨rfl, rfl, rfl, by simp, fun k hk => setRow_other u b k cs hk⟩
/-- The second and the third byte, or noughts. -/
def b1 (l : List Nat) : Nat := l[1]?.getD 0
def b2 (l : List Nat) : Nat := l[2]?.getD 0
def b0 (l : List Nat) : Nat := l[0]?.getD 0
theorem g3_eq {l : List Nat} (h : 0 < l.length) (h3 : l.length ≤ 3) : g3 l = grp (b0 l) (b1 l) (b2 l) l.length := by
  match l, h, h3 with
  | [a], _, _ => rfl
  | [a, b], _, _ => rfl
  | [a, b, c], _, _ => rfl
theorem b_lt {l : List Nat} (h : Oct l) : b0 l < 256 ∧ b1 l < 256 ∧ b2 l < 256 := by
  have aux : ∀ i : Nat, (l[i]?.getD 0) < 256 := fun i => by
    cases e : l[i]? with
    | none => simp
    | some x => simpa using h x (List.mem_of_getElem? e)
  exact ⟨aux 0, aux 1, aux 2⟩
theorem wpList_copy3 {w : World} {ops : Array Oper} {rest : List Oper} {o : Oper} {a : Act} {Q : Exit → Act → World → Prop} (hgd : o.guard = none) (d s : Operand)
    (ho : o.op = .call { callee := .builtin .copy, args := #[d, s], argTypes := #[22, 22] })
    (R : Nat) (sp : Option Addr) (n c : Nat) (l : List Nat) (hd : a.eval d = .slice (some ⟨R, 0, none⟩) 3 3) (hs : a.eval s = .slice sp n c) (hn : l.length = n) (h0 : 0 < n) (h3 : n ≤ 3)
    (hg : Cells w R #[.int .u8 0, .int .u8 0, .int .u8 0] 38) (hl : Lies w sp l)
    (h : ∀ w', Cells w' R #[.int .u8 (b0 l : Nat), .int .u8 (b1 l : Nat), .int .u8 (b2 l : Nat)] 38 → Only R w w' → wpList Try.prog ops Q rest (a.put o.dst (.int .i64 (n : Int))) w') : wpList Try.prog ops Q (o :: rest) a w := by
  obtain ⟨b, off, hsp, hc⟩ : ∃ b off, sp = some ⟨b, off, none⟩ ∧ ∀ (i x : Nat), l[i]? = some x → w.cell? ⟨b, off + i, none⟩ = some (.int .u8 (x : Int)) := by
    rcases hl with rfl | ⟨b, off, e, h⟩
    · simp at hn; omega
    · exact ⟨b, off, e, h⟩
  subst hsp
  have hr := run_copy_row (P := Try.prog) w 22 22 o.type 5 R 0 3 3 ⟨b, off, none⟩ n c #[.int .u8 0, .int .u8 0, .int .u8 0] 38 (ob l) Try.underlying22 gsize5 hg (by rw [ob_length]; show l.length = min n 3; omega)
    (fun j v hv => by
      rw [ob_get] at hv
      cases hz : l[j]? with
      | none => simp [hz] at hv
      | some z => simp [hz] at hv; rw [← hv, addr_add]; exact hc j z hz) (by simp [ob_length]; omega) ob_one
  rw [ob_length, hn] at hr
  have hcell := setRow_heap w R #[.int .u8 0, .int .u8 0, .int .u8 0] ((#[Value.int .u8 0, .int .u8 0, .int .u8 0] : Array Value).toList.take 0 ++ ob l ++ (#[Value.int .u8 0, .int .u8 0, .int .u8 0] : Array Value).toList.drop (0 + n)).toArray 38 (0, 0) hg
  refine wpList_plain hgd fun K hK => ?_
  unfold Oper.wp
  simp [execOp, ho, resolve, invoke, builtin, hd, hs, Result.andThen]
  rw [hr]
  refine hK _ _ (h _ ?_ ((Only.refl R w).setRow _))
  unfold Cells
  rw [hcell]
  congr 2
  match l, hn with
  | [x], hn => subst hn; rfl
  | [x, y], hn => subst hn; rfl
  | [x, y, z], hn => subst hn; rfl
  | [], hn => simp at hn; omega
  | x :: y :: z :: u :: l, hn => simp at hn; omega
theorem wraps_i64 (n : Int) (h₀ : 0 ≤ n) (h₁ : n < 2 ^ 62) : IntKind.i64.wrap n = n := by rw [IntKind.wrap_i64]; omega
theorem i64_and63 (x : Int) (h₀ : 0 ≤ x) (h₁ : x < 2 ^ 62) : bits .and .i64 x 63 = x % 64 := bits_mask .i64 62 (by decide) wraps_i64 6 (by decide) x h₀ h₁
theorem i64_or8 (x y : Int) (h : x % 256 = 0) (h0 : 0 ≤ x) (h1 : x < 2 ^ 62) (h2 : 0 ≤ y) (h3 : y < 256) : bits .or .i64 x y = x + y := bits_join .i64 62 (by decide) wraps_i64 8 x y h0 (by omega) h1 h2 (by omega) (by omega)
theorem i64_or16 (x y : Int) (h : x % 65536 = 0) (h0 : 0 ≤ x) (h1 : x < 2 ^ 62) (h2 : 0 ≤ y) (h3 : y < 65536) : bits .or .i64 x y = x + y := bits_join .i64 62 (by decide) wraps_i64 16 x y h0 (by omega) h1 h2 (by omega) (by omega)
theorem let_fin : ∀ ix : Fin 64, ((ByteArray.mk #[65, 66, 67, 68, 69, 70, 71, 72, 73, 74, 75, 76, 77, 78, 79, 80, 81, 82, 83, 84, 85, 86, 87, 88, 89, 90, 97, 98, 99, 100, 101, 102, 103, 104, 105, 106, 107, 108, 109, 110, 111, 112, 113, 114, 115, 116, 117, 118, 119, 120, 121, 122, 48, 49, 50, 51, 52, 53, 54, 55, 56, 57, 43, 47])[ix.val]'(by have := ix.isLt; exact this)).toNat = lt ix.val := by decide
theorem let_at (ix : Nat) (h : ix < 64) (p : ix < (ByteArray.mk #[65, 66, 67, 68, 69, 70, 71, 72, 73, 74, 75, 76, 77, 78, 79, 80, 81, 82, 83, 84, 85, 86, 87, 88, 89, 90, 97, 98, 99, 100, 101, 102, 103, 104, 105, 106, 107, 108, 109, 110, 111, 112, 113, 114, 115, 116, 117, 118, 119, 120, 121, 122, 48, 49, 50, 51, 52, 53, 54, 55, 56, 57, 43, 47]).size) : ((ByteArray.mk #[65, 66, 67, 68, 69, 70, 71, 72, 73, 74, 75, 76, 77, 78, 79, 80, 81, 82, 83, 84, 85, 86, 87, 88, 89, 90, 97, 98, 99, 100, 101, 102, 103, 104, 105, 106, 107, 108, 109, 110, 111, 112, 113, 114, 115, 116, 117, 118, 119, 120, 121, 122, 48, 49, 50, 51, 52, 53, 54, 55, 56, 57, 43, 47])[ix]'p).toNat = lt ix := let_fin ⟨ix, h⟩
/-- The group while it is written: the first k letters. -/
def grpTo (a b c k : Nat) : Array Value := #[.int .u8 ((if k < 1 then 61 else lt (a / 4) : Nat) : Int), .int .u8 ((if k < 2 then 61 else lt (a % 4 * 16 + b / 16) : Nat) : Int), .int .u8 ((if k < 3 then 61 else lt (b % 16 * 4 + c / 64) : Nat) : Int), .int .u8 ((if k < 4 then 61 else lt (c % 64) : Nat) : Int)]
theorem grp_step (x y z : Nat) : (grpTo x y z 0).setIfInBounds 0 (.int .u8 (lt (x / 4) : Nat)) = grpTo x y z 1 ∧ (grpTo x y z 1).setIfInBounds 1 (.int .u8 (lt (x % 4 * 16 + y / 16) : Nat)) = grpTo x y z 2 ∧ (grpTo x y z 2).setIfInBounds 2 (.int .u8 (lt (y % 16 * 4 + z / 64) : Nat)) = grpTo x y z 3 ∧ (grpTo x y z 3).setIfInBounds 3 (.int .u8 (lt (z % 64) : Nat)) = grpTo x y z 4 := ⟨rfl, rfl, rfl, rfl⟩
theorem grp_done (x y z n : Nat) (h0 : 0 < n) (h3 : n ≤ 3) : grpTo x y z (n + 1) = (ob (grp x y z n)).toArray := by
  rcases (show n = 1 ∨ n = 2 ∨ n = 3 by omega) with rfl | rfl | rfl <;> rfl
theorem setq {w : World} {B : Nat} {v0 v1 v2 v3 : Value} {t : TypeId} (h : Cells w B #[v0, v1, v2, v3] t) (u0 u1 u2 u3 : Value) : Cells ((((w.setCell ⟨B, 0, none⟩ u0).setCell ⟨B, 1, none⟩ u1).setCell ⟨B, 2, none⟩ u2).setCell ⟨B, 3, none⟩ u3) B #[u0, u1, u2, u3] t := by
  have := (((h.set 0 u0).set 1 u1).set 2 u2).set 3 u3
  simpa using this
theorem four' {w : World} {B : Nat} {v0 v1 v2 v3 : Value} {t : TypeId} (h : Cells w B #[v0, v1, v2, v3] t) : w.cell? ⟨B, 0, none⟩ = some v0 ∧ w.cell? ⟨B, 1, none⟩ = some v1 ∧ w.cell? ⟨B, 2, none⟩ = some v2 ∧ w.cell? ⟨B, 3, none⟩ = some v3 :=
  ⟨h.cell 0, h.cell 1, h.cell 2, h.cell 3⟩
set_option maxRecDepth 20000 in
set_option maxHeartbeats 2000000 in
theorem write_c (w : World) (sp : Option Addr) (l : List Nat) (n C : Nat) (hl : Lies w sp l) (hn : l.length = n) (h0 : 0 < n) (h3 : n ≤ 3) (ho : Oct l) : Calls Try.prog 8 #[.slice sp n C] w fun e w' => e = .returned (.agg (ob (g3 l)).toArray) ∧ Below w.heap.size w w' := by
  obtain ⟨w1, hw1⟩ : ∃ w1, w1 = w.alloc (.cells #[.int .u8 0, .int .u8 0, .int .u8 0, .int .u8 0] 31) := ⟨_, rfl⟩
  obtain ⟨w2, hw2⟩ : ∃ w2, w2 = w1.alloc (.cells #[.int .u8 0, .int .u8 0, .int .u8 0] 38) := ⟨_, rfl⟩
  obtain ⟨Q, hQ⟩ : ∃ Q, w.heap.size = Q := ⟨_, rfl⟩
  have hz1 : w1.heap.size = Q + 1 := by rw [hw1, ← hQ]; show (w.heap.push _).size = _; simp
  have k1 : Cells w1 Q #[.int .u8 0, .int .u8 0, .int .u8 0, .int .u8 0] 31 := by rw [hw1, ← hQ]; exact Cells.new w _ 31
  have k2 : Cells w2 (Q + 1) #[.int .u8 0, .int .u8 0, .int .u8 0] 38 := by rw [hw2, ← hz1]; exact Cells.new w1 _ 38
  have k3 : Cells w2 Q #[.int .u8 0, .int .u8 0, .int .u8 0, .int .u8 0] 31 := by rw [hw2]; exact k1.alloc _
  have bb1 : Below Q w w1 := by rw [hw1, ← hQ]; exact (Below.refl _ w).alloc (Nat.le_refl _) _
  have bb2 : Below Q w1 w2 := by rw [hw2]; exact (Below.refl _ w1).alloc (by omega) _
  have hl2 : Lies w2 sp l := hl.below (by rw [hQ]; exact bb1.trans bb2)
  have A : Aside (Cells w2 Q #[.int .u8 0, .int .u8 0, .int .u8 0, .int .u8 0] 31 ∧ Below Q w w2 ∧ Oct l ∧ l.length = n ∧ 0 < n ∧ n ≤ 3 ∧ w.heap.size = Q) := ⟨k3, bb1.trans bb2, ho, hn, h0, h3, hQ⟩
  clear k1 bb1 bb2 hl ho
  go_enter Try.func8, Try.ntmps8
  go_upto_region 2 with fail
  rw [← hw1, ← hw2]
  clear hw1 hw2 hz1 hQ k3
  go_upto_region 3 with (refine wpList_copy3 rfl (.tmp 7) (.tmp 8) rfl (Q + 1) sp n C l (by rfl) (by rfl) hn h0 h3 k2 hl2 ?_; intro w3 k4 o3)
  have a0 := A.out
  obtain ⟨hb0, hb1, hb2⟩ := b_lt a0.2.2.1
  obtain ⟨x, hx⟩ : ∃ x, b0 l = x := ⟨_, rfl⟩
  obtain ⟨y, hy⟩ : ∃ y, b1 l = y := ⟨_, rfl⟩
  obtain ⟨z, hz⟩ : ∃ z, b2 l = z := ⟨_, rfl⟩
  rw [hx] at hb0 k4
  rw [hy] at hb1 k4
  rw [hz] at hb2 k4
  have c0 := k4.cell 0
  have c1 := k4.cell 1
  have c2 := k4.cell 2
  simp only [List.getElem?_toArray, List.getElem?_cons_zero, List.getElem?_cons_succ] at c0 c1 c2
  have hor1 : bits .or .i64 ((x : Int) * 65536) ((y : Int) * 256) = (x : Int) * 65536 + (y : Int) * 256 := i64_or16 _ _ (by omega) (by omega) (by omega) (by omega) (by omega)
  have hor2 : bits .or .i64 ((x : Int) * 65536 + (y : Int) * 256) (z : Int) = (x : Int) * 65536 + (y : Int) * 256 + (z : Int) := i64_or8 _ _ (by omega) (by omega) (by omega) (by omega) (by omega)
  have hx2 : (x : Int) < 256 := by omega
  have hy2 : (y : Int) < 256 := by omega
  have hz2 : (z : Int) < 256 := by omega
  obtain ⟨al, hal⟩ : ∃ al : Nat, x * 65536 + y * 256 + z = al := ⟨_, rfl⟩
  have hal2 : (x : Int) * 65536 + (y : Int) * 256 + (z : Int) = (al : Int) := by omega
  have A3 : Aside (g3 l = grp x y z n ∧ Below Q w w3 ∧ Cells w3 Q #[.int .u8 0, .int .u8 0, .int .u8 0, .int .u8 0] 31 ∧ x * 65536 + y * 256 + z = al ∧ x < 256 ∧ y < 256 ∧ z < 256) := ⟨by rw [g3_eq (by omega) (by omega), hx, hy, hz, a0.2.2.2.1], a0.2.1.trans (o3.below (by omega)), a0.1.only o3 (by omega), hal, hb0, hb1, hb2⟩
  clear a0 hb0 hb1 hb2 hx hy hz hal k2 hl2 hn h0 h3 o3
  go_upto_region 4 with fail
  obtain ⟨F, hF⟩ : ∃ F, w3.heap.size = F := ⟨_, rfl⟩
  have kF := Cells.new w3 #[.int .u8 61, .int .u8 61, .int .u8 61, .int .u8 61] 31
  have bF : Below w3.heap.size w3 (w3.alloc (.cells #[.int .u8 61, .int .u8 61, .int .u8 61, .int .u8 61] 31)) := (Below.refl _ w3).alloc (Nat.le_refl _) _
  rw [hF] at kF bF
  have hQF : Q < F := by rw [← hF]; exact A3.out.2.2.1.lt
  have hQF2 : Q + 1 < F := by rw [← hF]; exact k4.lt
  have hal3 : (al : Int) < 16777216 := by have := A3.out; omega
  have hn3 : (n : Int) < 4 := by have := A.out; omega
  go_upto_region 5 with fail
  obtain ⟨w4, hw4⟩ : ∃ w4, w4 = w3.alloc (.cells #[.int .u8 61, .int .u8 61, .int .u8 61, .int .u8 61] 31) := ⟨_, rfl⟩
  rw [← hw4] at kF bF ⊢
  have A4 : Aside (Cells w4 F (grpTo x y z 0) 31 ∧ Cells w4 Q #[.int .u8 0, .int .u8 0, .int .u8 0, .int .u8 0] 31 ∧ Below Q w w4 ∧ Q < F) := ⟨kF, A3.out.2.2.1.below bF hQF, A3.out.2.1.trans (bF.mono (by omega)), hQF⟩
  clear kF bF hw4 k4 c0 c1 c2 hor1 hor2 hal2 hx2 hy2 hz2 hF hQF hQF2
  go_wp2_with fail
  go_loopg [27] (n + 1) (fun gg s27 wr => ∃ k : Nat, s27 = .int .i64 (k : Int) ∧ Aside (k + gg = n + 1 ∧ Cells wr F (grpTo x y z k) 31 ∧ Cells wr Q #[.int .u8 0, .int .u8 0, .int .u8 0, .int .u8 0] 31 ∧ Below Q w wr))
  case atStart => exact ⟨0, rfl, by omega, A4.out.1, A4.out.2.1, A4.out.2.2.1⟩
  case round =>
    obtain ⟨k, rfl, hI⟩ := hrel
    obtain ⟨hkg, kF, kQ, hbel⟩ := hI.out
    have a0 := A.out
    obtain ⟨p0, p1, p2, p3, hg⟩ : ∃ p0 p1 p2 p3 : Nat, grpTo x y z k = #[.int .u8 (p0 : Int), .int .u8 (p1 : Int), .int .u8 (p2 : Int), .int .u8 (p3 : Int)] := ⟨_, _, _, _, rfl⟩
    have AG : Aside (grpTo x y z k = #[.int .u8 (p0 : Int), .int .u8 (p1 : Int), .int .u8 (p2 : Int), .int .u8 (p3 : Int)]) := hg
    have kG := kF
    rw [hg] at kG
    have f0 := kG.frozen 0
    have f1 := kG.frozen 1
    have f2 := kG.frozen 2
    have f3 := kG.frozen 3
    have c0 := kG.cell 0
    have c1 := kG.cell 1
    have c2 := kG.cell 2
    have c3 := kG.cell 3
    simp only [List.getElem?_toArray, List.getElem?_cons_zero, List.getElem?_cons_succ] at c0 c1 c2 c3
    have hn1 := a0.2.2.2.2.1
    have hn3' := a0.2.2.2.2.2.1
    have AY : Aside (k + gk = n + 1 ∧ Cells wr F (grpTo x y z k) 31 ∧ Cells wr Q #[.int .u8 0, .int .u8 0, .int .u8 0, .int .u8 0] 31 ∧ Below Q w wr ∧ x * 65536 + y * 256 + z = al ∧ x < 256 ∧ y < 256 ∧ z < 256 ∧ Q < F ∧ g3 l = grp x y z n ∧ w.heap.size = Q) := ⟨hkg, kF, kQ, hbel, A3.out.2.2.2.1, A3.out.2.2.2.2.1, A3.out.2.2.2.2.2.1, A3.out.2.2.2.2.2.2, A4.out.2.2.2, A3.out.1, a0.2.2.2.2.2.2⟩
    have hks : k ≤ n + 1 := by omega
    clear hI hkg kF kQ hbel hg kG a0 A3 A4
    rcases (show n = 1 ∨ n = 2 ∨ n = 3 by omega) with rfl | rfl | rfl
    · rcases (show k = 0 ∨ k = 1 ∨ k = 2 by omega) with rfl | rfl | rfl
      · obtain ⟨ix, hix⟩ : ∃ ix : Nat, x / 4 = ix := ⟨_, rfl⟩
        have hib : ix < 64 := by have := AY.out; omega
        have hd : bits .and .i64 ((al : Int) / 262144) 63 = (ix : Int) := by rw [i64_and63 _ (by omega) (by omega)]; have := AY.out; omega
        have AI : Aside (x / 4 = ix ∧ ix < 64) := ⟨hix, hib⟩
        clear hix hks hn1 hn3' hn3
        have hib2 : (ix : Int) < 64 := by omega
        go_wp2_with fail
        have ay := AY.out
        have ai := AI.out
        go_roundg (gk - 1)
        case measure => omega
        case rel =>
          refine ⟨1, by first | rfl | go_num, by omega, ?_, ay.2.2.1.only ((Only.refl F wr).setCell 0 _) (by omega), ay.2.2.2.1.trans (((Only.refl F wr).setCell 0 _).below (by omega))⟩
          have h := ay.2.1.set 0 (.int .u8 (lt ix : Nat))
          rw [← ai.1, (grp_step x y z).1] at h
          rw [let_at ix ai.2, ← ai.1]
          exact h
      · obtain ⟨ix, hix⟩ : ∃ ix : Nat, x % 4 * 16 + y / 16 = ix := ⟨_, rfl⟩
        have hib : ix < 64 := by have := AY.out; omega
        have hd : bits .and .i64 ((al : Int) / 4096) 63 = (ix : Int) := by rw [i64_and63 _ (by omega) (by omega)]; have := AY.out; omega
        have AI : Aside (x % 4 * 16 + y / 16 = ix ∧ ix < 64) := ⟨hix, hib⟩
        clear hix hks hn1 hn3' hn3
        have hib2 : (ix : Int) < 64 := by omega
        go_wp2_with fail
        have ay := AY.out
        have ai := AI.out
        go_roundg (gk - 1)
        case measure => omega
        case rel =>
          refine ⟨2, by first | rfl | go_num, by omega, ?_, ay.2.2.1.only ((Only.refl F wr).setCell 1 _) (by omega), ay.2.2.2.1.trans (((Only.refl F wr).setCell 1 _).below (by omega))⟩
          have h := ay.2.1.set 1 (.int .u8 (lt ix : Nat))
          rw [← ai.1, (grp_step x y z).2.1] at h
          rw [let_at ix ai.2, ← ai.1]
          exact h
      · clear hks hn1 hn3' hn3
        have ay := AY.out
        obtain ⟨g0, g1, g2, g3'⟩ := four' ay.2.2.1
        have z0 := ay.2.2.1.frozen 0
        have z1 := ay.2.2.1.frozen 1
        have z2 := ay.2.2.1.frozen 2
        have z3 := ay.2.2.1.frozen 3
        clear ay
        go_wp2_with fail
        have ay := AY.out
        have o2 : Only Q wr ((((wr.setCell ⟨Q, 0, none⟩ (.int .u8 (p0 : Int))).setCell ⟨Q, 1, none⟩ (.int .u8 (p1 : Int))).setCell ⟨Q, 2, none⟩ (.int .u8 (p2 : Int))).setCell ⟨Q, 3, none⟩ (.int .u8 (p3 : Int))) := (((Only.refl Q wr).setCell 0 _).setCell 1 _).setCell 2 _ |>.setCell 3 _
        have m3 := setq ay.2.2.1 (.int .u8 (p0 : Int)) (.int .u8 (p1 : Int)) (.int .u8 (p2 : Int)) (.int .u8 (p3 : Int))
        rw [← AG.out] at m3
        (try simp only [Exit.inBlock, Exit.then])
        refine bodyPost_ret (v := .agg (grpTo x y z 2)) ?_ rfl ?_
        · exact results_cell_row rfl _ _ Q 31 _ (0, 0) _ rfl m3 Try.underlying31 rfl size49
        · refine ⟨by rw [ay.2.2.2.2.2.2.2.2.2.1, grp_done x y z 1 (by omega) (by omega)], ?_⟩
          rw [ay.2.2.2.2.2.2.2.2.2.2]
          exact ay.2.2.2.1.trans (o2.below (by omega))
    · rcases (show k = 0 ∨ k = 1 ∨ k = 2 ∨ k = 3 by omega) with rfl | rfl | rfl | rfl
      · obtain ⟨ix, hix⟩ : ∃ ix : Nat, x / 4 = ix := ⟨_, rfl⟩
        have hib : ix < 64 := by have := AY.out; omega
        have hd : bits .and .i64 ((al : Int) / 262144) 63 = (ix : Int) := by rw [i64_and63 _ (by omega) (by omega)]; have := AY.out; omega
        have AI : Aside (x / 4 = ix ∧ ix < 64) := ⟨hix, hib⟩
        clear hix hks hn1 hn3' hn3
        have hib2 : (ix : Int) < 64 := by omega
        go_wp2_with fail
        have ay := AY.out
        have ai := AI.out
        go_roundg (gk - 1)
        case measure => omega
        case rel =>
          refine ⟨1, by first | rfl | go_num, by omega, ?_, ay.2.2.1.only ((Only.refl F wr).setCell 0 _) (by omega), ay.2.2.2.1.trans (((Only.refl F wr).setCell 0 _).below (by omega))⟩
          have h := ay.2.1.set 0 (.int .u8 (lt ix : Nat))
          rw [← ai.1, (grp_step x y z).1] at h
          rw [let_at ix ai.2, ← ai.1]
          exact h
      · obtain ⟨ix, hix⟩ : ∃ ix : Nat, x % 4 * 16 + y / 16 = ix := ⟨_, rfl⟩
        have hib : ix < 64 := by have := AY.out; omega
        have hd : bits .and .i64 ((al : Int) / 4096) 63 = (ix : Int) := by rw [i64_and63 _ (by omega) (by omega)]; have := AY.out; omega
        have AI : Aside (x % 4 * 16 + y / 16 = ix ∧ ix < 64) := ⟨hix, hib⟩
        clear hix hks hn1 hn3' hn3
        have hib2 : (ix : Int) < 64 := by omega
        go_wp2_with fail
        have ay := AY.out
        have ai := AI.out
        go_roundg (gk - 1)
        case measure => omega
        case rel =>
          refine ⟨2, by first | rfl | go_num, by omega, ?_, ay.2.2.1.only ((Only.refl F wr).setCell 1 _) (by omega), ay.2.2.2.1.trans (((Only.refl F wr).setCell 1 _).below (by omega))⟩
          have h := ay.2.1.set 1 (.int .u8 (lt ix : Nat))
          rw [← ai.1, (grp_step x y z).2.1] at h
          rw [let_at ix ai.2, ← ai.1]
          exact h
      · obtain ⟨ix, hix⟩ : ∃ ix : Nat, y % 16 * 4 + z / 64 = ix := ⟨_, rfl⟩
        have hib : ix < 64 := by have := AY.out; omega
        have hd : bits .and .i64 ((al : Int) / 64) 63 = (ix : Int) := by rw [i64_and63 _ (by omega) (by omega)]; have := AY.out; omega
        have AI : Aside (y % 16 * 4 + z / 64 = ix ∧ ix < 64) := ⟨hix, hib⟩
        clear hix hks hn1 hn3' hn3
        have hib2 : (ix : Int) < 64 := by omega
        go_wp2_with fail
        have ay := AY.out
        have ai := AI.out
        go_roundg (gk - 1)
        case measure => omega
        case rel =>
          refine ⟨3, by first | rfl | go_num, by omega, ?_, ay.2.2.1.only ((Only.refl F wr).setCell 2 _) (by omega), ay.2.2.2.1.trans (((Only.refl F wr).setCell 2 _).below (by omega))⟩
          have h := ay.2.1.set 2 (.int .u8 (lt ix : Nat))
          rw [← ai.1, (grp_step x y z).2.2.1] at h
          rw [let_at ix ai.2, ← ai.1]
          exact h
      · clear hks hn1 hn3' hn3
        have ay := AY.out
        obtain ⟨g0, g1, g2, g3'⟩ := four' ay.2.2.1
        have z0 := ay.2.2.1.frozen 0
        have z1 := ay.2.2.1.frozen 1
        have z2 := ay.2.2.1.frozen 2
        have z3 := ay.2.2.1.frozen 3
        clear ay
        go_wp2_with fail
        have ay := AY.out
        have o2 : Only Q wr ((((wr.setCell ⟨Q, 0, none⟩ (.int .u8 (p0 : Int))).setCell ⟨Q, 1, none⟩ (.int .u8 (p1 : Int))).setCell ⟨Q, 2, none⟩ (.int .u8 (p2 : Int))).setCell ⟨Q, 3, none⟩ (.int .u8 (p3 : Int))) := (((Only.refl Q wr).setCell 0 _).setCell 1 _).setCell 2 _ |>.setCell 3 _
        have m3 := setq ay.2.2.1 (.int .u8 (p0 : Int)) (.int .u8 (p1 : Int)) (.int .u8 (p2 : Int)) (.int .u8 (p3 : Int))
        rw [← AG.out] at m3
        (try simp only [Exit.inBlock, Exit.then])
        refine bodyPost_ret (v := .agg (grpTo x y z 3)) ?_ rfl ?_
        · exact results_cell_row rfl _ _ Q 31 _ (0, 0) _ rfl m3 Try.underlying31 rfl size49
        · refine ⟨by rw [ay.2.2.2.2.2.2.2.2.2.1, grp_done x y z 2 (by omega) (by omega)], ?_⟩
          rw [ay.2.2.2.2.2.2.2.2.2.2]
          exact ay.2.2.2.1.trans (o2.below (by omega))
    · rcases (show k = 0 ∨ k = 1 ∨ k = 2 ∨ k = 3 ∨ k = 4 by omega) with rfl | rfl | rfl | rfl | rfl
      · obtain ⟨ix, hix⟩ : ∃ ix : Nat, x / 4 = ix := ⟨_, rfl⟩
        have hib : ix < 64 := by have := AY.out; omega
        have hd : bits .and .i64 ((al : Int) / 262144) 63 = (ix : Int) := by rw [i64_and63 _ (by omega) (by omega)]; have := AY.out; omega
        have AI : Aside (x / 4 = ix ∧ ix < 64) := ⟨hix, hib⟩
        clear hix hks hn1 hn3' hn3
        have hib2 : (ix : Int) < 64 := by omega
        go_wp2_with fail
        have ay := AY.out
        have ai := AI.out
        go_roundg (gk - 1)
        case measure => omega
        case rel =>
          refine ⟨1, by first | rfl | go_num, by omega, ?_, ay.2.2.1.only ((Only.refl F wr).setCell 0 _) (by omega), ay.2.2.2.1.trans (((Only.refl F wr).setCell 0 _).below (by omega))⟩
          have h := ay.2.1.set 0 (.int .u8 (lt ix : Nat))
          rw [← ai.1, (grp_step x y z).1] at h
          rw [let_at ix ai.2, ← ai.1]
          exact h
      · obtain ⟨ix, hix⟩ : ∃ ix : Nat, x % 4 * 16 + y / 16 = ix := ⟨_, rfl⟩
        have hib : ix < 64 := by have := AY.out; omega
        have hd : bits .and .i64 ((al : Int) / 4096) 63 = (ix : Int) := by rw [i64_and63 _ (by omega) (by omega)]; have := AY.out; omega
        have AI : Aside (x % 4 * 16 + y / 16 = ix ∧ ix < 64) := ⟨hix, hib⟩
        clear hix hks hn1 hn3' hn3
        have hib2 : (ix : Int) < 64 := by omega
        go_wp2_with fail
        have ay := AY.out
        have ai := AI.out
        go_roundg (gk - 1)
        case measure => omega
        case rel =>
          refine ⟨2, by first | rfl | go_num, by omega, ?_, ay.2.2.1.only ((Only.refl F wr).setCell 1 _) (by omega), ay.2.2.2.1.trans (((Only.refl F wr).setCell 1 _).below (by omega))⟩
          have h := ay.2.1.set 1 (.int .u8 (lt ix : Nat))
          rw [← ai.1, (grp_step x y z).2.1] at h
          rw [let_at ix ai.2, ← ai.1]
          exact h
      · obtain ⟨ix, hix⟩ : ∃ ix : Nat, y % 16 * 4 + z / 64 = ix := ⟨_, rfl⟩
        have hib : ix < 64 := by have := AY.out; omega
        have hd : bits .and .i64 ((al : Int) / 64) 63 = (ix : Int) := by rw [i64_and63 _ (by omega) (by omega)]; have := AY.out; omega
        have AI : Aside (y % 16 * 4 + z / 64 = ix ∧ ix < 64) := ⟨hix, hib⟩
        clear hix hks hn1 hn3' hn3
        have hib2 : (ix : Int) < 64 := by omega
        go_wp2_with fail
        have ay := AY.out
        have ai := AI.out
        go_roundg (gk - 1)
        case measure => omega
        case rel =>
          refine ⟨3, by first | rfl | go_num, by omega, ?_, ay.2.2.1.only ((Only.refl F wr).setCell 2 _) (by omega), ay.2.2.2.1.trans (((Only.refl F wr).setCell 2 _).below (by omega))⟩
          have h := ay.2.1.set 2 (.int .u8 (lt ix : Nat))
          rw [← ai.1, (grp_step x y z).2.2.1] at h
          rw [let_at ix ai.2, ← ai.1]
          exact h
      · obtain ⟨ix, hix⟩ : ∃ ix : Nat, z % 64 = ix := ⟨_, rfl⟩
        have hib : ix < 64 := by have := AY.out; omega
        have hd : bits .and .i64 ((al : Int)) 63 = (ix : Int) := by rw [i64_and63 _ (by omega) (by omega)]; have := AY.out; omega
        have AI : Aside (z % 64 = ix ∧ ix < 64) := ⟨hix, hib⟩
        clear hix hks hn1 hn3' hn3
        have hib2 : (ix : Int) < 64 := by omega
        go_wp2_with fail
        have ay := AY.out
        have ai := AI.out
        go_roundg (gk - 1)
        case measure => omega
        case rel =>
          refine ⟨4, by first | rfl | go_num, by omega, ?_, ay.2.2.1.only ((Only.refl F wr).setCell 3 _) (by omega), ay.2.2.2.1.trans (((Only.refl F wr).setCell 3 _).below (by omega))⟩
          have h := ay.2.1.set 3 (.int .u8 (lt ix : Nat))
          rw [← ai.1, (grp_step x y z).2.2.2] at h
          rw [let_at ix ai.2, ← ai.1]
          exact h
      · clear hks hn1 hn3' hn3
        have ay := AY.out
        obtain ⟨g0, g1, g2, g3'⟩ := four' ay.2.2.1
        have z0 := ay.2.2.1.frozen 0
        have z1 := ay.2.2.1.frozen 1
        have z2 := ay.2.2.1.frozen 2
        have z3 := ay.2.2.1.frozen 3
        clear ay
        go_wp2_with fail
        have ay := AY.out
        have o2 : Only Q wr ((((wr.setCell ⟨Q, 0, none⟩ (.int .u8 (p0 : Int))).setCell ⟨Q, 1, none⟩ (.int .u8 (p1 : Int))).setCell ⟨Q, 2, none⟩ (.int .u8 (p2 : Int))).setCell ⟨Q, 3, none⟩ (.int .u8 (p3 : Int))) := (((Only.refl Q wr).setCell 0 _).setCell 1 _).setCell 2 _ |>.setCell 3 _
        have m3 := setq ay.2.2.1 (.int .u8 (p0 : Int)) (.int .u8 (p1 : Int)) (.int .u8 (p2 : Int)) (.int .u8 (p3 : Int))
        rw [← AG.out] at m3
        (try simp only [Exit.inBlock, Exit.then])
        refine bodyPost_ret (v := .agg (grpTo x y z 4)) ?_ rfl ?_
        · exact results_cell_row rfl _ _ Q 31 _ (0, 0) _ rfl m3 Try.underlying31 rfl size49
        · refine ⟨by rw [ay.2.2.2.2.2.2.2.2.2.1, grp_done x y z 3 (by omega) (by omega)], ?_⟩
          rw [ay.2.2.2.2.2.2.2.2.2.2]
          exact ay.2.2.2.1.trans (o2.below (by omega))
end Go.Proofs.Ytmijpocfichfpab

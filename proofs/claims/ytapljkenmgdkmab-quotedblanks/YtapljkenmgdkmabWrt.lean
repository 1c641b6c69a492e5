/-
  The program's writer.
-/
import Derived.Test.YtapljkenmgdkmabWhole
import Derived.Test.YtapljkenmgdkmabWmt
import Derived.Deep.RegionLaw
import Derived.Deep.RegionHeld3
namespace Go.Proofs.Ytapljkenmgdkmab
open Go.RowKit
set_option linter.unusedVariables false
/-- append of bytes to a list of bytes of the call's own, in a region that draws its order. -/
theorem step_ob (w : World) {ops : Array Oper} {o : Oper} {a : Act} {K : Act → World → Prop} {Q : Exit → Act → World → Prop} {E : Prop} (hgd : o.guard = none) (s x : Operand)
    (ho : o.op = .call { callee := .builtin .append, args := #[s, x], argTypes := #[23, 23] }) (lo : Nat) (v : Value) (l : List Nat) (hs : a.eval s = v) (hown : Ob w lo v l)
    (ad : Addr) (m : List Nat) (n c : Nat) (hnm : m.length = n) (hx : a.eval x = .slice (some ad) n c) (hl : Lies w (some ad) m) (hlen : l.length + m.length ≤ 140737488355328)
    (h : ∀ v' w', Got lo 5 w w' v v' (ob (l ++ m)) → K (a.put o.dst v') w') : if Region.wanted o (yielded ops a.tmps) = true then Oper.wp Try.prog o a w K Q else E := by
  have hw : Region.wanted o (yielded ops a.tmps) = true := by simp [Region.wanted, hgd]
  rw [if_pos hw]
  obtain ⟨i0, hi, hz0, hz1, hz2⟩ := ginfo_parts ginfo5
  subst hnm
  refine wp_append_own w s x 23 ho lo 5 i0 _ 1 1 Try.underlying23 hi hz0 hz1 hz2 rfl (by decide) v _ _ hs hown.own ad m.length c (ob m) hx (by rw [ob_length, Nat.mul_one]) ?_ ob_one (by rw [ob_length]; unfold maxLen; omega) (by rw [ob_length]; omega) hown.le ?_
  · intro j u hj
    rcases hl with rfl | ⟨b, off, ha, hc⟩
    · simp [ob] at hj
    · cases ha
      rw [addr_add]
      rw [ob_get] at hj
      cases hq : m[j]? with
      | none => simp [hq] at hj
      | some y =>
        simp [hq] at hj
        rw [← hj]
        exact hc j y hq
  · intro v' w' h2 h3 h4
    have hos : v.ownBlock = none ∨ ∃ g cur, v.ownBlock = some g ∧ lo ≤ g ∧ w.heap[g]? = some (.cells cur 5 (0, 0)) := by
      rcases hown.own.2 with ⟨rfl, h0⟩ | ⟨g, c, cur, rfl, hg, hh, _⟩
      · left; rfl
      · right; exact ⟨g, cur, rfl, hg, hh⟩
    have hb : Below lo w w' := (Below.refl lo w).grown h3 hown.le (fun k hk => by
      rcases hos with h5 | ⟨g, cur, h5, hg, _⟩
      · rw [h5] at hk; cases hk
      · rw [h5] at hk; cases hk; exact hg)
    refine h v' w' ⟨⟨?_, Nat.le_trans hown.le h3.size⟩, ⟨h3.size, fun k hk => ?_, hb⟩, fun k hk e => h3.block k hk e⟩
    · rw [← ob_append, List.length_append, ob_length m]; exact h2
    · by_cases e : some k = v.ownBlock
      · rcases hos with h5 | ⟨g, cur, h5, hg, hh⟩
        · rw [h5] at e; cases e
        · rw [h5] at e
          cases e
          exact Or.inr ⟨hg, cur, (0, 0), hh⟩
      · exact Or.inl (h3.block k hk e)
/-- A part of bytes that lie side by side. -/
theorem Lies.drop {w : World} {b o : Nat} {l : List Nat} (h : Lies w (some ⟨b, o, none⟩) l) (n : Nat) : Lies w (some ⟨b, o + n, none⟩) (l.drop n) := by
  rcases h with rfl | ⟨b', o', ha, hc⟩
  · left; simp
  · cases ha
    refine Or.inr ⟨b, o + n, rfl, fun i x hx => ?_⟩
    rw [List.getElem?_drop] at hx
    have := hc _ _ hx
    rw [← Nat.add_assoc] at this
    exact this
theorem slice_fr (b o L C k : Nat) (h1 : k ≤ L) (h2 : L ≤ C) (h3 : k ≠ C) (W : World) : (Instr.slice 23 (.slice (some ⟨b, o, none⟩) L C) (some (.int .i64 (k : Int))) none none).run Try.prog W = .ok (.slice (some ⟨b, o + k, none⟩) (L - k) (C - k)) W := by
  have hk1 : (k : Int) ≤ (C : Int) := by omega
  have hk2 : (k : Int) ≤ (L : Int) := by omega
  have hk0 : (0 : Int) ≤ (k : Int) := by omega
  have hCk : ¬ C = k := by omega
  have hCk2 : ¬ (C : Int) = (k : Int) := by omega
  clear h1 h2 h3
  go_simp
theorem slice_end (b o C : Nat) (W : World) : (Instr.slice 23 (.slice (some ⟨b, o, none⟩) C C) (some (.int .i64 (C : Int))) none none).run Try.prog W = .ok (.slice (some ⟨b, o, none⟩) 0 0) W := by
  have hk0 : (0 : Int) ≤ (C : Int) := by omega
  go_simp
/-- A slice from k on. -/
theorem slice_from (b o L C k : Nat) (h1 : k ≤ L) (h2 : L ≤ C) : ∃ o2, (∀ W : World, (Instr.slice 23 (.slice (some ⟨b, o, none⟩) L C) (some (.int .i64 (k : Int))) none none).run Try.prog W = .ok (.slice (some ⟨b, o2, none⟩) (L - k) (C - k)) W) ∧ ∀ (w : World) (l : List Nat), l.length = L → Lies w (some ⟨b, o, none⟩) l → Lies w (some ⟨b, o2, none⟩) (l.drop k) := by
  by_cases h3 : k = C
  · obtain rfl : L = C := by omega
    subst h3
    refine ⟨o, fun W => ?_, fun w l hl _ => Or.inl (List.drop_eq_nil_of_le (by omega))⟩
    rw [slice_end, Nat.sub_self]
  · exact ⟨o + k, fun W => slice_fr b o L C k h1 h2 h3 W, fun w l hl h => h.drop k⟩
/-- A new row of bytes, whatever of it is marked. -/
theorem lies_new (w : World) (B : Nat) (hB : w.heap.size = B) (l : List Nat) (fr : Nat × Nat) : Lies (w.alloc (.cells (ob l).toArray 5 fr)) (some ⟨B, 0, none⟩) l := Or.inr ⟨B, 0, rfl, fun i x hx => by
  have : (w.alloc (.cells (ob l).toArray 5 fr)).heap[B]? = some (.cells (ob l).toArray 5 fr) := by
    show (w.heap.push _)[_]? = _
    rw [← hB]
    simp
  simp [World.cell?, this, ob_get, hx]⟩
theorem Lies.two {w : World} {a : Option Addr} {x y : Nat} {r : List Nat} (h : Lies w a (x :: y :: r)) : ∃ b o, a = some ⟨b, o, none⟩ ∧ w.cell? ⟨b, o, none⟩ = some (.int .u8 (x : Int)) ∧ w.cell? ⟨b, o + 1, none⟩ = some (.int .u8 (y : Int)) := by
  rcases h with h | ⟨b, o, ha, hc⟩
  · cases h
  · exact ⟨b, o, ha, hc 0 x rfl, hc 1 y rfl⟩
theorem Lies.one {w : World} {a : Option Addr} {x : Nat} {r : List Nat} (h : Lies w a (x :: r)) : ∃ b o, a = some ⟨b, o, none⟩ ∧ w.cell? ⟨b, o, none⟩ = some (.int .u8 (x : Int)) := by
  rcases h with h | ⟨b, o, ha, hc⟩
  · cases h
  · exact ⟨b, o, ha, hc 0 x rfl⟩
theorem ends_c (w : World) (a : Option Addr) (l : List Nat) (L C : Nat) (hl : Lies w a l) (hL : l.length = L) : Calls Try.prog 22 #[.slice a L C] w fun e w' => e = .returned (.bool (crlf l)) ∧ w = w' := by
  match l, hl, hL with
  | [], hl, hL =>
    simp at hL
    subst hL
    go_enter Try.func22, Try.ntmps22
    go_wp2_with fail
    go_ret
    exact ⟨rfl, rfl⟩
  | [x], hl, hL =>
    simp at hL
    subst hL
    go_enter Try.func22, Try.ntmps22
    go_wp2_with fail
    go_ret
    exact ⟨rfl, rfl⟩
  | x :: y :: r, hl, hL =>
    obtain ⟨b, o, rfl, c0, c1⟩ := hl.two
    simp at hL
    obtain ⟨n, hn⟩ : ∃ n, r.length = n := ⟨_, rfl⟩
    rw [hn] at hL
    have t0 : ((1 : Int) < (L : Int)) = True := eq_true (by omega)
    have t1 : (1 < L) = True := eq_true (by omega)
    have t2 : (0 : Int) < (L : Int) := by omega
    clear hl hL hn
    by_cases hx : x = 13
    · subst hx
      by_cases hy : y = 10
      · subst hy
        go_enter Try.func22, Try.ntmps22
        go_wp2_with fail
        go_ret
        exact ⟨rfl, rfl⟩
      · have e : crlf (13 :: y :: r) = false := by simp [crlf, hy]
        rw [e]
        have t3 : ((y : Int) == 10) = false := by rw [beq_eq_false_iff_ne]; omega
        clear hy e
        go_enter Try.func22, Try.ntmps22
        go_wp2_with fail
        go_ret
        exact ⟨rfl, rfl⟩
    · have e : crlf (x :: y :: r) = false := by simp [crlf, hx]
      rw [e]
      have t3 : ((x : Int) == 13) = false := by rw [beq_eq_false_iff_ne]; omega
      clear hx e
      go_enter Try.func22, Try.ntmps22
      go_wp2_with fail
      go_ret
      exact ⟨rfl, rfl⟩
theorem stands_c (w : World) (a : Option Addr) (b : Nat) (r : List Nat) (L C : Nat) (hl : Lies w a (b :: r)) (hL : (b :: r).length = L) (hLC : L ≤ C) (hb : b < 256) : Calls Try.prog 30 #[.slice a L C] w fun e w' => e = .returned (.bool (stn b r)) ∧ w = w' := by
  obtain ⟨A, o, rfl, c0⟩ := hl.one
  have hbl := blank_c b hb w
  have t2 : (0 : Int) < (L : Int) := by simp at hL; omega
  by_cases hB : isB b = true
  · rw [hB] at hbl
    have e : stn b r = !(r.isEmpty || crlf r) := by unfold stn; rw [if_pos hB]
    rw [e]
    clear e hB
    cases r with
    | nil =>
      simp at hL
      subst hL
      clear hl hLC
      go_enter Try.func30, Try.ntmps30
      go_wp2_with (go_at_call 26; refine hbl.mono ?_; rintro e1 w0 ⟨rfl, hw0⟩; subst hw0)
      go_ret
      exact ⟨rfl, rfl⟩
    | cons y q =>
      have h1 : 1 ≤ L := by simp at hL; omega
      obtain ⟨o2, hs1, hs2⟩ := slice_from A o L C 1 h1 hLC
      have hl2 := hs2 w (b :: y :: q) hL hl
      have hen := ends_c w _ _ (L - 1) (C - 1) hl2 (by simp at hL ⊢; omega)
      have hs3 : ∀ W : World, (Instr.slice 23 (.slice (some ⟨A, o, none⟩) L C) (some (.int .i64 1)) none none).run Try.prog W = .ok (.slice (some ⟨A, o2, none⟩) (L - 1) (C - 1)) W := hs1
      have t0 : ((1 : Int) < (L : Int)) = True := eq_true (by simp at hL; omega)
      have t1 : (1 < L) = True := eq_true (by simp at hL; omega)
      obtain ⟨z, hz⟩ : ∃ z, crlf (y :: q) = z := ⟨_, rfl⟩
      have hz2 : crlf ((b :: y :: q).drop 1) = z := hz
      rw [hz2] at hen
      have e : (!((y :: q).isEmpty || crlf (y :: q))) = !z := by rw [hz]; rfl
      rw [e]
      obtain ⟨L1, hL1⟩ : ∃ L1, L - 1 = L1 := ⟨_, rfl⟩
      obtain ⟨C1, hC1⟩ : ∃ C1, C - 1 = C1 := ⟨_, rfl⟩
      rw [hL1, hC1] at hen hs3
      clear hl hL hLC h1 hs1 hs2 hl2 hz hz2 e hL1 hC1
      go_enter Try.func30, Try.ntmps30
      go_wp2_with (first
        | (go_at_call 26; refine hbl.mono ?_; rintro e1 w0 ⟨rfl, hw0⟩; subst hw0)
        | (go_at_call 22; refine hen.mono ?_; rintro e1 w0 ⟨rfl, hw0⟩; subst hw0))
      go_ret
      exact ⟨rfl, rfl⟩
  · have hBf : isB b = false := by simpa using hB
    rw [hBf] at hbl
    have e : stn b r = decide (33 ≤ b ∧ b ≤ 126 ∧ b ≠ 61) := by unfold stn; rw [if_neg hB]
    rw [e]
    clear hl hL hLC hB hBf e
    by_cases h1 : 33 ≤ b
    · have i1 : ((33 : Int) ≤ (b : Int)) = True := eq_true (by omega)
      by_cases h2 : b ≤ 126
      · have i2 : ((b : Int) ≤ 126) = True := eq_true (by omega)
        by_cases h3 : b = 61
        · subst h3
          clear i1 i2 h1 h2
          go_enter Try.func30, Try.ntmps30
          go_wp2_with (go_at_call 26; refine hbl.mono ?_; rintro e1 w0 ⟨rfl, hw0⟩; subst hw0)
          go_ret
          exact ⟨rfl, rfl⟩
        · have i3 : ((b : Int) == 61) = false := by rw [beq_eq_false_iff_ne]; omega
          have i4 : ((b : Int) != 61) = true := by rw [bne_iff_ne]; omega
          rw [decide_eq_true ⟨h1, h2, h3⟩]
          clear h1 h2 h3
          go_enter Try.func30, Try.ntmps30
          go_wp2_with (go_at_call 26; refine hbl.mono ?_; rintro e1 w0 ⟨rfl, hw0⟩; subst hw0)
          go_ret
          exact ⟨rfl, rfl⟩
      · have i2 : ((b : Int) ≤ 126) = False := eq_false (by omega)
        rw [decide_eq_false (by omega)]
        clear h1 h2
        go_enter Try.func30, Try.ntmps30
        go_wp2_with (go_at_call 26; refine hbl.mono ?_; rintro e1 w0 ⟨rfl, hw0⟩; subst hw0)
        go_ret
        exact ⟨rfl, rfl⟩
    · have i1 : ((33 : Int) ≤ (b : Int)) = False := eq_false (by omega)
      rw [decide_eq_false (by omega)]
      clear h1
      go_enter Try.func30, Try.ntmps30
      go_wp2_with (go_at_call 26; refine hbl.mono ?_; rintro e1 w0 ⟨rfl, hw0⟩; subst hw0)
      go_ret
      exact ⟨rfl, rfl⟩
end Go.Proofs.Ytapljkenmgdkmab

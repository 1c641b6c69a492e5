/-
  Own texts of this seat, one behind the other: what each says stands ahead of it.
-/
import Derived.Test.YtikdpnpkmmmacaaDoorMd
import Derived.Laws.AppendOwnNone
import Derived.Deep.RegionHeld3
/-
  What the document's Fixed and Order come to: lists of numbers.
-/
namespace Go.Proofs.YtikdpnpkmmmacaaDoor
open Go.RowKit
set_option linter.unusedVariables false
def iz (l : List Nat) : List Int := l.map fun x : Nat => (x : Int)
theorem lens_iz (l : List Nat) : lens (iz l) = l := by
  unfold lens iz
  rw [List.map_map]
  conv => rhs; rw [← List.map_id l]
  exact List.map_congr_left fun x _ => by simp
theorem fixL_len : fixL.length = 288 := by simp [fixL]
theorem fixL_at {i n : Nat} (h : i < 288) (hn : (if 256 ≤ i ∧ i < 280 then 7 else if 144 ≤ i ∧ i < 256 then 9 else 8) = n) : fixL[i]? = some n := by
  rw [← hn]; simp [fixL, h]
theorem own_lens {w : World} {base n : Nat} {v : Value} {l : List Nat} (h : w.ownsRow base 3 1 v n (vt l)) (hn : l.length = n) : ∃ a c, v = .slice a n c ∧ Lens w a (iz l) ∧ n ≤ c ∧ (a = none → n = 0 ∧ c = 0) ∧ (∀ b o s, a = some ⟨b, o, s⟩ → base ≤ b) := by
  rcases h.2 with ⟨hv, h0⟩ | ⟨g, c, cur, hv, hg, hh, hc, hm, hs, ht⟩
  · exact ⟨none, 0, by rw [hv, h0], Or.inl (by rw [List.eq_nil_of_length_eq_zero (by omega : l.length = 0)]; rfl), by omega, (fun _ => ⟨h0, rfl⟩), (fun b o s e => by cases e)⟩
  · refine ⟨_, c, hv, Or.inr ⟨g, 0, rfl, fun i z hz => ?_⟩, hc, (fun e => by cases e), (fun b o s e => by cases e; exact hg)⟩
    rw [Nat.zero_add, Cells.cell (cs := cur) (t := 3) hh]
    unfold iz at hz
    rw [List.getElem?_map] at hz
    cases e1 : l[i]? with
    | none => rw [e1] at hz; cases hz
    | some x =>
      rw [e1] at hz
      have hz' : (x : Int) = z := by simpa using hz
      have hi : i < l.length := (List.getElem?_eq_some_iff.1 e1).1
      have e : (cur.toList.take (n * 1))[i]? = some (.int .i64 (x : Int)) := by rw [ht]; simp [vt, e1]
      rw [List.getElem?_take, if_pos (by omega)] at e
      rw [← hz']
      simpa using e
def FixedTo (w : World) (e : Ending) (w' : World) : Prop := ∃ la lc da dc, e = .returned (.tuple #[.slice la 288 lc, .slice da 32 dc]) ∧ Lens w' la (iz fixL) ∧ Lens w' da (iz fixD) ∧ Below w.heap.size w w'
set_option maxRecDepth 100000 in
set_option maxHeartbeats 4000000 in
theorem fixed_c (w : World) : Calls Tryd.prog 25 #[] w fun e w' => FixedTo w e w' := by
  obtain ⟨i3, hi3, hz30, hz31, hz32⟩ := info_parts info3'
  obtain ⟨W, hW⟩ : ∃ W, w.heap.size = W := ⟨_, rfl⟩
  have AW : Aside (w.heap.size = W) := hW
  clear hW
  go_enter Tryd.func25, Tryd.ntmps25
  go_wp2_with fail
  go_loopg [2, 4] 288 (fun g vl si wr => ∃ i : Nat, si = .int .i64 (i : Int) ∧ Aside (i + g = 288 ∧ wr.ownsRow W 3 1 vl i (vt (fixL.take i)) ∧ Below W w wr))
  case atStart => exact ⟨0, rfl, by omega, World.ownsRow_nil _ _ _ _, Below.refl _ _⟩
  case round =>
    obtain ⟨i, rfl, hI⟩ := hrel
    by_cases hi8 : i < 288
    · have ti : (i : Int) < 288 := by omega
      by_cases h0 : i < 144
      · have _z0 : True := trivial
        have t0 : ¬ ((144 : Int) ≤ (i : Int)) := by omega
        have t1 : ¬ ((256 : Int) ≤ (i : Int)) := by omega
        have hv : fixL[i]? = some 8 := fixL_at (by omega) (by rw [if_neg (by omega), if_neg (by omega)])
        have AV : Aside (i < 288 ∧ i + gk = 288 ∧ fixL.take (i + 1) = fixL.take i ++ [8] ∧ wr.ownsRow W 3 1 u2 i (vt (fixL.take i)) ∧ Below W w wr ∧ W ≤ wr.heap.size) := ⟨hi8, hI.out.1, by rw [List.take_add_one, hv]; rfl, hI.out.2.1, hI.out.2.2, by rw [← AW.out]; exact hI.out.2.2.size⟩
        clear hI hi8 h0 hv
        obtain ⟨H, hH⟩ : ∃ H, wr.heap.size = H := ⟨_, rfl⟩
        go_wp2_with (at_builtin; refine wpList_append_own _ rfl (.tmp 23) (.tmp 25) 29 rfl W 3 i3 (.int .i64 0) 1 8 Tryd.underlying29 hi3 hz30 hz31 hz32 rfl (by decide) u2 i (vt (fixL.take i)) (by rfl) (own_alloc AV.out.2.2.2.1 _) ⟨H, 0, none⟩ 1 1 [.int .i64 8] (by rfl) rfl (fun j u hu => by rw [add_off, Nat.zero_add, ← hH, (Cells.new wr #[.int .i64 8] 3).cell]; simpa using hu) (by simp [Value.oneCell']) (by unfold maxLen; have := AV.out; omega) (by have := AV.out; omega) (by have := AV.out; have := size_al' wr (.cells #[.int .i64 8] 3); omega) ?_; intro v3 w3 hown3 hgrow3 hnil3)
        have A3 : Aside (w3.ownsRow W 3 1 v3 (i + 1) (vt (fixL.take (i + 1))) ∧ Below W w w3) := by
          have q := AV.out
          refine ⟨by rw [q.2.2.1]; simpa [vt] using hown3, ?_⟩
          have h2 : Below W w (wr.alloc (.cells #[.int .i64 8] 3)) := q.2.2.2.2.1.alloc q.2.2.2.2.2 _
          exact h2.trans ((Below.refl _ _).grown hgrow3 (by have := size_al' wr (.cells #[.int .i64 8] 3); omega) (fun g hg => (q.2.2.2.1.lt g hg).1))
        clear hown3 hgrow3 hnil3 hH
        go_roundg (288 - (i + 1))
        case measure => have := AV.out; omega
        case rel => exact ⟨i + 1, by go_num, by have := AV.out; omega, A3.out.1, A3.out.2⟩
      by_cases h1 : i < 256
      · have _z1 : True := trivial
        have t0 : (144 : Int) ≤ (i : Int) := by omega
        have t1 : (i : Int) < 256 := by omega
        have t2 : ¬ ((256 : Int) ≤ (i : Int)) := by omega
        have hv : fixL[i]? = some 9 := fixL_at (by omega) (by rw [if_neg (by omega), if_pos (by omega)])
        have AV : Aside (i < 288 ∧ i + gk = 288 ∧ fixL.take (i + 1) = fixL.take i ++ [9] ∧ wr.ownsRow W 3 1 u2 i (vt (fixL.take i)) ∧ Below W w wr ∧ W ≤ wr.heap.size) := ⟨hi8, hI.out.1, by rw [List.take_add_one, hv]; rfl, hI.out.2.1, hI.out.2.2, by rw [← AW.out]; exact hI.out.2.2.size⟩
        clear hI hi8 h0 h1 hv
        obtain ⟨H, hH⟩ : ∃ H, wr.heap.size = H := ⟨_, rfl⟩
        go_wp2_with (at_builtin; refine wpList_append_own _ rfl (.tmp 23) (.tmp 25) 29 rfl W 3 i3 (.int .i64 0) 1 8 Tryd.underlying29 hi3 hz30 hz31 hz32 rfl (by decide) u2 i (vt (fixL.take i)) (by rfl) (own_alloc AV.out.2.2.2.1 _) ⟨H, 0, none⟩ 1 1 [.int .i64 9] (by rfl) rfl (fun j u hu => by rw [add_off, Nat.zero_add, ← hH, (Cells.new wr #[.int .i64 9] 3).cell]; simpa using hu) (by simp [Value.oneCell']) (by unfold maxLen; have := AV.out; omega) (by have := AV.out; omega) (by have := AV.out; have := size_al' wr (.cells #[.int .i64 9] 3); omega) ?_; intro v3 w3 hown3 hgrow3 hnil3)
        have A3 : Aside (w3.ownsRow W 3 1 v3 (i + 1) (vt (fixL.take (i + 1))) ∧ Below W w w3) := by
          have q := AV.out
          refine ⟨by rw [q.2.2.1]; simpa [vt] using hown3, ?_⟩
          have h2 : Below W w (wr.alloc (.cells #[.int .i64 9] 3)) := q.2.2.2.2.1.alloc q.2.2.2.2.2 _
          exact h2.trans ((Below.refl _ _).grown hgrow3 (by have := size_al' wr (.cells #[.int .i64 9] 3); omega) (fun g hg => (q.2.2.2.1.lt g hg).1))
        clear hown3 hgrow3 hnil3 hH
        go_roundg (288 - (i + 1))
        case measure => have := AV.out; omega
        case rel => exact ⟨i + 1, by go_num, by have := AV.out; omega, A3.out.1, A3.out.2⟩
      by_cases h2 : i < 280
      · have _z2 : True := trivial
        have t0 : (144 : Int) ≤ (i : Int) := by omega
        have t1 : ¬ ((i : Int) < 256) := by omega
        have t2 : (256 : Int) ≤ (i : Int) := by omega
        have t3 : (i : Int) < 280 := by omega
        have hv : fixL[i]? = some 7 := fixL_at (by omega) (by rw [if_pos (by omega)])
        have AV : Aside (i < 288 ∧ i + gk = 288 ∧ fixL.take (i + 1) = fixL.take i ++ [7] ∧ wr.ownsRow W 3 1 u2 i (vt (fixL.take i)) ∧ Below W w wr ∧ W ≤ wr.heap.size) := ⟨hi8, hI.out.1, by rw [List.take_add_one, hv]; rfl, hI.out.2.1, hI.out.2.2, by rw [← AW.out]; exact hI.out.2.2.size⟩
        clear hI hi8 h0 h1 h2 hv
        obtain ⟨H, hH⟩ : ∃ H, wr.heap.size = H := ⟨_, rfl⟩
        go_wp2_with (at_builtin; refine wpList_append_own _ rfl (.tmp 23) (.tmp 25) 29 rfl W 3 i3 (.int .i64 0) 1 8 Tryd.underlying29 hi3 hz30 hz31 hz32 rfl (by decide) u2 i (vt (fixL.take i)) (by rfl) (own_alloc AV.out.2.2.2.1 _) ⟨H, 0, none⟩ 1 1 [.int .i64 7] (by rfl) rfl (fun j u hu => by rw [add_off, Nat.zero_add, ← hH, (Cells.new wr #[.int .i64 7] 3).cell]; simpa using hu) (by simp [Value.oneCell']) (by unfold maxLen; have := AV.out; omega) (by have := AV.out; omega) (by have := AV.out; have := size_al' wr (.cells #[.int .i64 7] 3); omega) ?_; intro v3 w3 hown3 hgrow3 hnil3)
        have A3 : Aside (w3.ownsRow W 3 1 v3 (i + 1) (vt (fixL.take (i + 1))) ∧ Below W w w3) := by
          have q := AV.out
          refine ⟨by rw [q.2.2.1]; simpa [vt] using hown3, ?_⟩
          have h2 : Below W w (wr.alloc (.cells #[.int .i64 7] 3)) := q.2.2.2.2.1.alloc q.2.2.2.2.2 _
          exact h2.trans ((Below.refl _ _).grown hgrow3 (by have := size_al' wr (.cells #[.int .i64 7] 3); omega) (fun g hg => (q.2.2.2.1.lt g hg).1))
        clear hown3 hgrow3 hnil3 hH
        go_roundg (288 - (i + 1))
        case measure => have := AV.out; omega
        case rel => exact ⟨i + 1, by go_num, by have := AV.out; omega, A3.out.1, A3.out.2⟩
      have t0 : (144 : Int) ≤ (i : Int) := by omega
      have t1 : ¬ ((i : Int) < 256) := by omega
      have t2 : (256 : Int) ≤ (i : Int) := by omega
      have t3 : ¬ ((i : Int) < 280) := by omega
      have hv : fixL[i]? = some 8 := fixL_at (by omega) (by rw [if_neg (by omega), if_neg (by omega)])
      have AV : Aside (i < 288 ∧ i + gk = 288 ∧ fixL.take (i + 1) = fixL.take i ++ [8] ∧ wr.ownsRow W 3 1 u2 i (vt (fixL.take i)) ∧ Below W w wr ∧ W ≤ wr.heap.size) := ⟨hi8, hI.out.1, by rw [List.take_add_one, hv]; rfl, hI.out.2.1, hI.out.2.2, by rw [← AW.out]; exact hI.out.2.2.size⟩
      clear hI hi8 h0 h1 h2 hv
      obtain ⟨H, hH⟩ : ∃ H, wr.heap.size = H := ⟨_, rfl⟩
      go_wp2_with (at_builtin; refine wpList_append_own _ rfl (.tmp 23) (.tmp 25) 29 rfl W 3 i3 (.int .i64 0) 1 8 Tryd.underlying29 hi3 hz30 hz31 hz32 rfl (by decide) u2 i (vt (fixL.take i)) (by rfl) (own_alloc AV.out.2.2.2.1 _) ⟨H, 0, none⟩ 1 1 [.int .i64 8] (by rfl) rfl (fun j u hu => by rw [add_off, Nat.zero_add, ← hH, (Cells.new wr #[.int .i64 8] 3).cell]; simpa using hu) (by simp [Value.oneCell']) (by unfold maxLen; have := AV.out; omega) (by have := AV.out; omega) (by have := AV.out; have := size_al' wr (.cells #[.int .i64 8] 3); omega) ?_; intro v3 w3 hown3 hgrow3 hnil3)
      have A3 : Aside (w3.ownsRow W 3 1 v3 (i + 1) (vt (fixL.take (i + 1))) ∧ Below W w w3) := by
        have q := AV.out
        refine ⟨by rw [q.2.2.1]; simpa [vt] using hown3, ?_⟩
        have h2 : Below W w (wr.alloc (.cells #[.int .i64 8] 3)) := q.2.2.2.2.1.alloc q.2.2.2.2.2 _
        exact h2.trans ((Below.refl _ _).grown hgrow3 (by have := size_al' wr (.cells #[.int .i64 8] 3); omega) (fun g hg => (q.2.2.2.1.lt g hg).1))
      clear hown3 hgrow3 hnil3 hH
      go_roundg (288 - (i + 1))
      case measure => have := AV.out; omega
      case rel => exact ⟨i + 1, by go_num, by have := AV.out; omega, A3.out.1, A3.out.2⟩
    · have hi2 : i = 288 := by have := hI.out.1; omega
      subst hi2
      have ti : ¬ ((288 : Nat) : Int) < 288 := by omega
      have hw1 : wr.ownsRow W 3 1 u2 288 (vt fixL) := by have := hI.out.2.1; rw [List.take_of_length_le (by rw [fixL_len]; omega)] at this; exact this
      obtain ⟨la, lc, hvl, hll, _, _, hlb⟩ := own_lens hw1 fixL_len
      obtain ⟨w1, hww⟩ : ∃ w1, w1 = wr := ⟨_, rfl⟩
      obtain ⟨W2, hW2⟩ : ∃ W2, wr.heap.size = W2 := ⟨_, rfl⟩
      have A1 : Aside (Lens w1 la (iz fixL) ∧ Below W w w1 ∧ w1.heap.size = W2) := by rw [hww]; exact ⟨hll, hI.out.2.2, hW2⟩
      subst hww
      subst hvl
      clear hI hi8 hw1 hll hlb hW2
      go_wp2_with fail
      go_loopg [3, 6] 32 (fun g vd si wr => ∃ k : Nat, si = .int .i64 (k : Int) ∧ Aside (k + g = 32 ∧ wr.ownsRow W2 3 1 vd k (vt (List.replicate k 5)) ∧ Below W2 w1 wr))
      case atStart => exact ⟨0, rfl, by omega, World.ownsRow_nil _ _ _ _, Below.refl _ _⟩
      case round =>
        obtain ⟨k, rfl, hK⟩ := hrel
        by_cases hk : k < 32
        · have tk : (k : Int) < 32 := by omega
          have AV : Aside (k < 32 ∧ k + gk = 32 ∧ wr.ownsRow W2 3 1 u3 k (vt (List.replicate k 5)) ∧ Below W2 w1 wr ∧ W2 ≤ wr.heap.size) := ⟨hk, hK.out.1, hK.out.2.1, hK.out.2.2, by rw [← A1.out.2.2]; exact hK.out.2.2.size⟩
          clear hK hk
          obtain ⟨H, hH⟩ : ∃ H, wr.heap.size = H := ⟨_, rfl⟩
          go_wp2_with (at_builtin; refine wpList_append_own _ rfl (.tmp 31) (.tmp 32) 29 rfl W2 3 i3 (.int .i64 0) 1 8 Tryd.underlying29 hi3 hz30 hz31 hz32 rfl (by decide) u3 k (vt (List.replicate k 5)) (by rfl) (own_alloc AV.out.2.2.1 _) ⟨H, 0, none⟩ 1 1 [.int .i64 5] (by rfl) rfl (fun j u hu => by rw [add_off, Nat.zero_add, ← hH, (Cells.new wr #[.int .i64 5] 3).cell]; simpa using hu) (by simp [Value.oneCell']) (by unfold maxLen; have := AV.out; omega) (by have := AV.out; omega) (by have := AV.out; have := size_al' wr (.cells #[.int .i64 5] 3); omega) ?_; intro v3 w3 hown3 hgrow3 hnil3)
          have A3 : Aside (w3.ownsRow W2 3 1 v3 (k + 1) (vt (List.replicate (k + 1) 5)) ∧ Below W2 w1 w3) := by
            have q := AV.out
            refine ⟨by rw [List.replicate_succ']; simpa [vt] using hown3, ?_⟩
            have h2 : Below W2 w1 (wr.alloc (.cells #[.int .i64 5] 3)) := q.2.2.2.1.alloc q.2.2.2.2 _
            exact h2.trans ((Below.refl _ _).grown hgrow3 (by have := size_al' wr (.cells #[.int .i64 5] 3); omega) (fun g hg => (q.2.2.1.lt g hg).1))
          clear hown3 hgrow3 hnil3 hH
          go_roundg (32 - (k + 1))
          case measure => have := AV.out; omega
          case rel => exact ⟨k + 1, by go_num, by have := AV.out; omega, A3.out.1, A3.out.2⟩
        · have hk2 : k = 32 := by have := hK.out.1; omega
          subst hk2
          have tk : ¬ ((32 : Nat) : Int) < 32 := by omega
          obtain ⟨da, dc, hvd, hdl, _, _, hdb⟩ := own_lens hK.out.2.1 (by simp)
          have A4 : Aside (Lens wr da (iz fixD) ∧ Lens wr la (iz fixL) ∧ Below w.heap.size w wr) := by
            have q := A1.out
            have hb : Below w1.heap.size w1 wr := by rw [q.2.2]; exact hK.out.2.2
            refine ⟨hdl, q.1.below hb, ?_⟩
            have h2 : Below W w wr := q.2.1.trans (hb.mono (by rw [← AW.out]; exact q.2.1.size))
            rw [AW.out]; exact h2
          subst hvd
          clear hK hk hdl hdb
          go_wp2_with fail
          first | go_ret | go_ret2
          exact ⟨la, lc, da, dc, rfl, A4.out.2.1, A4.out.1, A4.out.2.2⟩
/-- The order of the lengths of lengths. -/
theorem order_c (w : World) : Calls Tryd.prog 48 #[] w fun e w' => e = .returned (.slice (some ⟨w.heap.size, 0, none⟩) 19 19) ∧ Cells w' w.heap.size (vt ordr).toArray 3 ∧ Below w.heap.size w w' := by
  go_enter Tryd.func48, Tryd.ntmps48
  go_wp2_with fail
  first | go_ret | go_ret2
  exact ⟨rfl, Cells.new w _ 3, (Below.refl _ w).alloc (Nat.le_refl _) _⟩
end Go.Proofs.YtikdpnpkmmmacaaDoor

/-
  What the document's repeated comes to: how often a length is said.
-/
namespace Go.Proofs.YtikdpnpkmmmacaaDoor
open Go.RowKit
set_option linter.unusedVariables false
variable {w u : World} {base R L C most : Nat} {a : Option Addr} {s : Rs} {vO vT : Value} {B : List Nat}
set_option maxRecDepth 100000 in
set_option maxHeartbeats 4000000 in
theorem rep_len (h : Ctx B base R a L C most w s vO vT) (x : Nat) (hx : x < 16) (la : Option Addr) (ll lc : Nat) : Calls Tryd.prog 49 #[.pointer (some ⟨R, 0, none⟩), .int .i64 (x : Int), .slice la ll lc] w fun e w' => e = .returned (.tuple #[.int .i64 1, .int .i64 (x : Int)]) ∧ w = w' := by
  have t1 : ((x : Int) == 16) = false := beq_eq_false_iff_ne.2 (by omega)
  have t2 : ((x : Int) == 17) = false := beq_eq_false_iff_ne.2 (by omega)
  have t3 : ((x : Int) == 18) = false := beq_eq_false_iff_ne.2 (by omega)
  clear h
  go_enter Tryd.func49, Tryd.ntmps49
  go_wp2_with fail
  first | go_ret | go_ret2
  exact ⟨rfl, rfl⟩
set_option maxRecDepth 100000 in
set_option maxHeartbeats 4000000 in
theorem rep_first (h : Ctx B base R a L C most w s vO vT) (la : Option Addr) (lc : Nat) : Calls Tryd.prog 49 #[.pointer (some ⟨R, 0, none⟩), .int .i64 16, .slice la 0 lc] w fun e w' => e = .returned (.tuple #[.int .i64 0, .int .i64 0]) ∧ Ctx B base R a L C most w' { s with why := 12, at_ := (s.pos - 1) / 8 } vO vT ∧ Chg R vO vT vO vT w w' := by
  have hst := h.stop 12
  clear h
  go_enter Tryd.func49, Tryd.ntmps49
  go_wp2_with (go_at_call 29; refine hst.mono ?_; rintro e2 w2 ⟨rfl, hc2, hg2⟩)
  first | go_ret | go_ret2
  exact ⟨rfl, hc2, hg2⟩
set_option maxRecDepth 100000 in
set_option maxHeartbeats 4000000 in
theorem rep_nought (h : Ctx B base R a L C most w s vO vT) (x : Nat) (hx : x = 17 ∨ x = 18) (la : Option Addr) (ll lc : Nat) (v : Nat) (s' : Rs) (hv : (num? (allb B) s.pos (if x = 17 then 3 else 7) = some v ∧ s' = { s with pos := s.pos + (if x = 17 then 3 else 7) }) ∨ (num? (allb B) s.pos (if x = 17 then 3 else 7) = none ∧ v = 0 ∧ s' = { s with why := 1, at_ := L })) :
    Calls Tryd.prog 49 #[.pointer (some ⟨R, 0, none⟩), .int .i64 (x : Int), .slice la ll lc] w fun e w' => e = .returned (.tuple #[.int .i64 (((if x = 18 then 11 else 3) + v : Nat) : Int), .int .i64 0]) ∧ Ctx B base R a L C most w' s' vO vT ∧ Chg R vO vT vO vT w w' := by
  rcases hx with rfl | rfl
  · have hn : Calls Tryd.prog 23 #[.pointer (some ⟨R, 0, none⟩), .int .i64 3] w fun e w' => e = .returned (.int .i64 (v : Int)) ∧ Ctx B base R a L C most w' s' vO vT ∧ Chg R vO vT vO vT w w' := by
      rcases hv with ⟨h1, h2⟩ | ⟨h1, h2, h3⟩
      · rw [h2]; exact h.number_some 3 v (by omega) h1
      · rw [h3, h2]; exact h.number_none 3 (by omega) h1
    have hvb : v < 8 := by
      rcases hv with ⟨h1, _⟩ | ⟨_, h2, _⟩
      · exact numb_lt h1
      · omega
    clear h hv
    go_enter Tryd.func49, Tryd.ntmps49
    go_wp2_with (go_at_call 23; refine hn.mono ?_; rintro e2 w2 ⟨rfl, hc2, hg2⟩)
    first | go_ret | go_ret2
    exact ⟨by simp, hc2, hg2⟩
  · have hn : Calls Tryd.prog 23 #[.pointer (some ⟨R, 0, none⟩), .int .i64 7] w fun e w' => e = .returned (.int .i64 (v : Int)) ∧ Ctx B base R a L C most w' s' vO vT ∧ Chg R vO vT vO vT w w' := by
      rcases hv with ⟨h1, h2⟩ | ⟨h1, h2, h3⟩
      · rw [h2]; exact h.number_some 7 v (by omega) h1
      · rw [h3, h2]; exact h.number_none 7 (by omega) h1
    have hvb : v < 128 := by
      rcases hv with ⟨h1, _⟩ | ⟨_, h2, _⟩
      · exact numb_lt h1
      · omega
    clear h hv
    go_enter Tryd.func49, Tryd.ntmps49
    go_wp2_with (go_at_call 23; refine hn.mono ?_; rintro e2 w2 ⟨rfl, hc2, hg2⟩)
    first | go_ret | go_ret2
    exact ⟨by simp, hc2, hg2⟩
set_option maxRecDepth 100000 in
set_option maxHeartbeats 4000000 in
theorem rep_again (h : Ctx B base R a L C most w s vO vT) (la : Option Addr) (l : List Nat) (ll lc : Nat) (hll : l.length = ll) (hl0 : 0 < ll) (hlb : ll ≤ 1000) (hl : Kept (fun u => Lens u la (iz l)) R vO vT w) (z : Nat) (hz : l.getD (ll - 1) 0 = z) (v : Nat) (s' : Rs) (hv : (num? (allb B) s.pos 2 = some v ∧ s' = { s with pos := s.pos + 2 }) ∨ (num? (allb B) s.pos 2 = none ∧ v = 0 ∧ s' = { s with why := 1, at_ := L })) :
    Calls Tryd.prog 49 #[.pointer (some ⟨R, 0, none⟩), .int .i64 16, .slice la ll lc] w fun e w' => e = .returned (.tuple #[.int .i64 ((3 + v : Nat) : Int), .int .i64 (z : Int)]) ∧ Ctx B base R a L C most w' s' vO vT ∧ Chg R vO vT vO vT w w' := by
  have hn : Calls Tryd.prog 23 #[.pointer (some ⟨R, 0, none⟩), .int .i64 2] w.drew fun e w' => e = .returned (.int .i64 (v : Int)) ∧ Ctx B base R a L C most w' s' vO vT ∧ Chg R vO vT vO vT w.drew w' := by
    rcases hv with ⟨h1, h2⟩ | ⟨h1, h2, h3⟩
    · rw [h2]; exact h.drew.number_some 2 v (by omega) h1
    · rw [h3, h2]; exact h.drew.number_none 2 (by omega) h1
  have hvb : v < 4 := by
    rcases hv with ⟨h1, _⟩ | ⟨_, h2, _⟩
    · exact numb_lt h1
    · omega
  have hge : l[ll - 1]? = some z := by rw [← hz, List.getD_eq_getElem?_getD, List.getElem?_eq_getElem (by omega)]; rfl
  have hcell : ∀ u vO' vT', Chg R vO vT vO' vT' w u → ∀ b o, la = some ⟨b, o, none⟩ → u.cell? ⟨b, o + (ll - 1), none⟩ = some (.int .i64 (z : Int)) := by
    intro u vO' vT' hu b o hla
    rcases hl u vO' vT' hu with e | ⟨b', o', hla', hc⟩
    · have : l = [] := by unfold iz at e; simpa using e
      rw [this] at hll; simp at hll; omega
    · rw [hla] at hla'; cases hla'
      exact hc (ll - 1) z (by unfold iz; rw [List.getElem?_map, hge]; rfl)
  obtain ⟨b0, o0, rfl⟩ : ∃ b0 o0, la = some ⟨b0, o0, none⟩ := by
    rcases hl.now with e | ⟨b', o', hla', hc⟩
    · have : l = [] := by unfold iz at e; simpa using e
      rw [this] at hll; simp at hll; omega
    · exact ⟨b', o', hla'⟩
  obtain ⟨q, hq⟩ : ∃ q, ll - 1 = q := ⟨_, rfl⟩
  rw [hq] at hcell
  have c0 := hcell w vO vT (Chg.refl _ _ _ _) b0 o0 rfl
  have hc2' : Aside (∀ u, Chg R vO vT vO vT w.drew u → u.cell? ⟨b0, o0 + q, none⟩ = some (.int .i64 (z : Int))) := fun u hu => hcell u vO vT ((Chg.drawn ⟨1, rfl⟩).trans hu) b0 o0 rfl
  have hwr : ∀ x : Int, x = (ll : Int) - 1 → IntKind.i64.wrap x = (q : Int) := by intro x hx; rw [IntKind.wrap_i64, hx]; omega
  have hwr2 : ∀ x : Int, x = 3 + (v : Int) → IntKind.i64.wrap x = 3 + (v : Int) := by intro x hx; rw [IntKind.wrap_i64, hx]; omega
  have hqI : (q : Int) < (ll : Int) := by omega
  have tl0 : ((ll : Int) == 0) = false := beq_eq_false_iff_ne.2 (by omega)
  clear h hv hl hz hge hcell hll hl0 hq
  go_enter Tryd.func49, Tryd.ntmps49
  go_upto_region 6 with fail
  go_region_held3 (fun w' => w'.cell? ⟨b0, o0 + q, none⟩ = some (.int .i64 (z : Int))) (first | assumption | exact hc2'.out _ hg2)
    (first | (go_at_call 23; refine hn.mono ?_; rintro e2 w2 ⟨rfl, hc2, hg2⟩))
  all_goals
    have A2 : Aside (Ctx B base R a L C most w2 s' vO vT ∧ Chg R vO vT vO vT w w2) := ⟨hc2, (Chg.drawn ⟨1, rfl⟩).trans hg2⟩
    clear hc2 hg2 hc2' hn
    go_wp2_with fail
    first | go_ret | go_ret2
    exact ⟨by simp, A2.out.1, A2.out.2⟩
end Go.Proofs.YtikdpnpkmmmacaaDoor

/-
  The document's New within a run, and what its Of comes to, told by the machine's steps; of dynamic blocks by a contract that is handed in.
-/
namespace Go.Proofs.YtikdpnpkmmmacaaDoor
open Go.RowKit
set_option linter.unusedVariables false
theorem iz_len (l : List Nat) : (iz l).length = l.length := by simp [iz]
theorem okl_iz {l : List Nat} : Okl (iz l) ↔ l.length ≤ 320 ∧ ∀ x ∈ l, x ≤ 15 := by
  unfold Okl
  rw [iz_len]
  constructor
  · rintro ⟨h1, h2⟩
    exact ⟨h1, fun x hx => by have := h2 (x : Int) (List.mem_map.2 ⟨x, hx, rfl⟩); omega⟩
  · rintro ⟨h1, h2⟩
    refine ⟨h1, fun z hz => ?_⟩
    obtain ⟨x, hx, rfl⟩ := List.mem_map.1 hz
    have := h2 x hx
    constructor
    · show (0 : Int) ≤ (x : Int); omega
    · show (x : Int) ≤ 15; omega
theorem mays_iff {l : List Nat} : mays l = true ↔ nerr (iz l) = 0 := by
  unfold mays nerr
  rw [lens_iz, decide_eq_true_iff]
  constructor
  · rintro ⟨h1, h2, h3, h4⟩
    rw [if_neg (by rw [Decidable.not_not]; exact okl_iz.2 ⟨h1, h2⟩), if_neg (by omega), if_neg h4]
  · intro h
    split at h
    · omega
    · rename_i h1
      split at h
      · omega
      · rename_i h2
        split at h
        · omega
        · rename_i h3
          have := okl_iz.1 (Decidable.not_not.1 h1)
          exact ⟨this.1, this.2, by omega, h3⟩
variable {w u : World} {base R L C most : Nat} {a : Option Addr} {s : Rs} {vO vT : Value} {B : List Nat}
/-- What is new stays, whatever the run does. -/
theorem Ctx.away (h : Ctx B base R a L C most w s vO vT) {w' : World} (hb : Below w.heap.size w w') {u : World} {vO' vT' : Value} (k : Chg R vO vT vO' vT' w' u) {i : Nat} (h1 : w.heap.size ≤ i) (h2 : i < w'.heap.size) : u.heap[i]? = w'.heap[i]? :=
  k.block i h2 (by have := h.run.lt; omega) (fun e => by have := (h.run.oo.lt i e.symm).2; omega) (fun e => by have := (h.run.ot.lt i e.symm).2; omega)
theorem Ctx.grow (h : Ctx B base R a L C most w s vO vT) {w' : World} (hb : Below w.heap.size w w') : Ctx B base R a L C most w' s vO vT := h.on (h.run.below hb) (Chg.of_below hb) h.pos h.og
theorem Ctx.table (h : Ctx B base R a L C most w s vO vT) (la : Option Addr) (l : List Nat) (ll lc : Nat) (hl : Lens w la (iz l)) (hll : l.length = ll) (hm : mays l = true) :
    Calls Tryd.prog 26 #[.slice la ll lc] w fun e w' => ∃ T, e = .returned (.tuple #[.pointer (some ⟨T, 0, none⟩), .int .i64 0]) ∧ Ctx B base R a L C most w' s vO vT ∧ Below w.heap.size w w' ∧ Tab R vO vT w' T l := by
  have he := mays_iff.1 hm
  obtain ⟨h1, h2, h3⟩ := nerr_ok he
  refine (rnew_rest la (iz l) ll lc w hl (by rw [iz_len]; exact hll) h1 h2).mono fun e w' hh => ?_
  rcases hh with ⟨h4, _⟩ | ⟨_, T, h5, h6, h7, h8⟩
  · exact absurd h4 h3
  · rw [lens_iz] at h6 h8 h2
    have ho := okl_iz.1 h1
    exact ⟨T, h5, h.grow h7, h7, ⟨fun u x y hu => h8 u fun k hk1 hk2 => h.away h7 hu hk1 hk2, ho.1, by rw [← kr_part ho.2]; exact h2, ho.2⟩⟩
theorem notable (la : Option Addr) (l : List Nat) (ll lc : Nat) (w : World) (hl : Lens w la (iz l)) (hll : l.length = ll) (hb : ll < 140737488355328) (hm : mays l = false) :
    ∃ er : Nat, er ≠ 0 ∧ Calls Tryd.prog 26 #[.slice la ll lc] w fun e w' => e = .returned (.tuple #[.pointer none, .int .i64 (er : Int)]) ∧ w = w' := by
  have hne : nerr (iz l) ≠ 0 := fun e => by rw [mays_iff.2 e] at hm; cases hm
  by_cases ho : Okl (iz l)
  · by_cases h2 : 32768 < kr (lens (iz l))
    · exact ⟨80, by decide, rnew_over la (iz l) ll lc w hl (by rw [iz_len]; exact hll) hb ho h2⟩
    · have hu : Under (lens (iz l)) := by
        apply Decidable.byContradiction
        intro h3
        apply hne
        unfold nerr
        rw [if_neg (by rw [Decidable.not_not]; exact ho), if_neg h2, if_neg h3]
      refine ⟨81, by decide, (rnew_rest la (iz l) ll lc w hl (by rw [iz_len]; exact hll) ho (by omega)).mono fun e w' hh => ?_⟩
      rcases hh with ⟨_, h4⟩ | ⟨h4, _⟩
      · exact h4
      · exact absurd hu h4
  · exact ⟨2, by decide, rnew_arg la (iz l) ll lc w hl (by rw [iz_len]; exact hll) hb ho⟩
theorem fixD_len : fixD.length = 32 := by simp [fixD]
theorem mays_fixL : mays fixL = true := by decide +kernel
theorem mays_fixD : mays fixD = true := by decide +kernel
/-- What comes behind a block's head. -/
def kindSt (kd : Nat) (lb : Bool) : St := match kd with
  | 0 => .slen lb
  | 1 => .sym lb fixL fixD
  | 2 => .dnum lb
  | _ => .bad 10
/-- What is asked of dynamic blocks. -/
def DynOk (B : List Nat) (base R : Nat) (a : Option Addr) (L C most : Nat) : Prop := ∀ (w : World) (s : Rs) (vO vT : Value) (last : Bool), Ctx B base R a L C most w s vO vT → Opn s →
  Calls Tryd.prog 28 #[.pointer (some ⟨R, 0, none⟩)] w fun e w' => e = .returned (.tuple #[]) ∧ Left B base R a L C most vO vT w w' ⟨.dnum last, s.pos, s.out, s.times⟩ (.head last)
/-- The machine has come to c, and it is over, or more bytes are wanted: so the run knows it. -/
def Endc (bs : List Bool) (most L : Nat) (c : Cfg) (s : Rs) : Prop := Fin bs most L c s ∨ (c.st = .done ∧ s.ended = true ∧ s.why = 0 ∧ s.at_ = (c.pos - 1) / 8 ∧ s.out = c.out ∧ s.times = c.times)
def OfTo (B : List Nat) (a : Option Addr) (L C : Nat) (most : Nat) (w : World) (e : Ending) (w' : World) : Prop :=
  ∃ R s vO vT c, e = .returned (.pointer (some ⟨R, 0, none⟩)) ∧ Rn w' w.heap.size R a L C most s vO vT ∧ Below w.heap.size w w' ∧ Runs (allb B) most ⟨.head false, 0, [], []⟩ c ∧ Endc (allb B) most L c s
set_option maxRecDepth 100000 in
set_option maxHeartbeats 8000000 in
theorem of_c (n : Int) (hn : n ≤ 1048576) (hB : Lies w a B) (hL : B.length = L) (hLb : L < 140737488355328) (ho : Oct B) (hdyn : ∀ R, DynOk B w.heap.size R a L C n.toNat) :
    Calls Tryd.prog 10 #[.slice a L C, .int .i64 n] w fun e w' => OfTo B a L C n.toNat w e w' := by
  obtain ⟨M, hM⟩ : ∃ M, n.toNat = M := ⟨_, rfl⟩
  rw [hM] at hdyn ⊢
  obtain ⟨W, hW⟩ : ∃ W, w.heap.size = W := ⟨_, rfl⟩
  obtain ⟨w1, hw1⟩ : ∃ w1, w1 = w.alloc (.cells #[.slice a L C, .int .i64 (M : Int), .slice none 0 0, .slice none 0 0, .int .i64 0, .int .i64 0, .bool false, .int .i64 0, .bool false] 31) := ⟨_, rfl⟩
  have b1 : Below w.heap.size w w1 := by rw [hw1]; exact (Below.refl _ w).alloc (Nat.le_refl _) _
  have k1 : Cells w1 W #[.slice a L C, .int .i64 (M : Int), .slice none 0 0, .slice none 0 0, .int .i64 0, .int .i64 0, .bool false, .int .i64 0, .bool false] 31 := by rw [hw1, ← hW]; exact Cells.new w _ 31
  have hc1 : Ctx B W W a L C M w1 ⟨0, [], [], 0, 0, false⟩ (.slice none 0 0) (.slice none 0 0) := by
    refine ⟨⟨⟨false, k1⟩, World.ownsRow_nil _ _ _ _, World.ownsRow_nil _ _ _ _, Nat.le_refl _, rfl⟩, fun u x y hu => ?_, hL, hLb, ho, by show 0 ≤ _; omega, by omega, by rw [← hW]; exact b1.size, fun y hy => by cases hy⟩
    have hb : Below w.heap.size w u := b1.trans ⟨hu.os, hu.tape, hu.output, hu.size, fun k hk => hu.block k (Nat.lt_of_lt_of_le hk b1.size) (by omega) (by intro e; cases e) (by intro e; cases e)⟩
    exact hB.below hb
  have A1 : Aside (Ctx B W W a L C M w1 ⟨0, [], [], 0, 0, false⟩ (.slice none 0 0) (.slice none 0 0) ∧ Below w.heap.size w w1 ∧ w.heap.size = W ∧ DynOk B W W a L C M) := ⟨hc1, b1, hW, by rw [← hW]; exact hdyn _⟩
  clear hB hL hLb ho b1 k1 hc1 hdyn
  have hmax : (if n < 0 then (0 : Int) else n) = (M : Int) := by split <;> omega
  have hmax2 : (if (0 : Int) < n then n else 0) = (M : Int) := by split <;> omega
  have hmax3 : max n 0 = (M : Int) := by omega
  go_enter Tryd.func10, Tryd.ntmps10
  go_upto_region 2 with fail
  rw [← hw1]
  clear hw1 hmax hmax2 hmax3 hM hn
  have AE : Aside (∀ (wr : World) (s1 : Rs) (vO1 vT1 : Value) (c1 : Cfg), Rn wr W W a L C M s1 vO1 vT1 → Chg W (.slice none 0 0) (.slice none 0 0) vO1 vT1 w1 wr → Runs (allb B) M ⟨.head false, 0, [], []⟩ c1 → Endc (allb B) M L c1 s1 → OfTo B a L C M w (.returned (.pointer (some ⟨W, 0, none⟩))) wr) := by
    intro wr s1 vO1 vT1 c1 h1 h2 h3 h4
    have q := A1.out
    have hb : Below W w1 wr := h2.below q.1.run q.1.base_
    refine ⟨W, s1, vO1, vT1, c1, rfl, by rw [q.2.2.1]; exact h1, ?_, h3, h4⟩
    exact q.2.1.trans (by rw [q.2.2.1]; exact hb)
  clear hW
  go_wp2_with fail
  go_loopg [6] (8 * L + 2) (fun g sl wr => ∃ last : Bool, sl = .bool last ∧ Aside (∃ s1 vO1 vT1 c1, Ctx B W W a L C M wr s1 vO1 vT1 ∧ Chg W (.slice none 0 0) (.slice none 0 0) vO1 vT1 w1 wr ∧ Runs (allb B) M ⟨.head false, 0, [], []⟩ c1 ∧ ((Opn s1 ∧ c1 = ⟨.head last, s1.pos, s1.out, s1.times⟩ ∧ 8 * L + 2 ≤ s1.pos + g) ∨ Fin (allb B) M L c1 s1)))
  case atStart => exact ⟨false, rfl, ⟨0, [], [], 0, 0, false⟩, _, _, _, A1.out.1, Chg.refl _ _ _ _, Runs.refl _, Or.inl ⟨⟨rfl, rfl⟩, rfl, by omega⟩⟩
  case round =>
    obtain ⟨last, rfl, hrel2⟩ := hrel
    obtain ⟨s1, vO1, vT1, c1, hc1, hg1, hr1, hcase⟩ := hrel2.out
    rcases hcase with ⟨ho1, he1, hm1⟩ | hfin
    · have hop := hc1.open_ true ho1.opn
      cases last with
      | true =>
        have hr2 : Runs (allb B) M ⟨.head false, 0, [], []⟩ ⟨.done, s1.pos, s1.out, s1.times⟩ := hr1.trans (Runs.one (by rw [he1]; rfl))
        have c6 := hc1.run.c6
        have f6 := hc1.run.fz 6
        obtain ⟨f, hcc⟩ := hc1.run.cells
        have k6 := hcc.set 6 (.bool true)
        have c57 : (wr.setCell ⟨W, 6, none⟩ (.bool true)).cell? ⟨W, 7, none⟩ = some (.int .i64 (s1.pos : Int)) := by rw [k6.cell]; rfl
        have c55 : (wr.setCell ⟨W, 6, none⟩ (.bool true)).cell? ⟨W, 5, none⟩ = some (.int .i64 (s1.at_ : Int)) := by rw [k6.cell]; rfl
        have f55 := k6.frozen 5
        obtain ⟨p, hp⟩ : ∃ p, s1.pos = p := ⟨_, rfl⟩
        have hpb : (p : Int) < 9000000000000000000 := by have := hc1.pos; have := hc1.lb; omega
        rw [hp] at c57
        have k7 := k6.set 5 (.int .i64 (((p - 1) / 8 : Nat) : Int))
        have o7 : Only W wr ((wr.setCell ⟨W, 6, none⟩ (.bool true)).setCell ⟨W, 5, none⟩ (.int .i64 (((p - 1) / 8 : Nat) : Int))) := ((Only.refl W wr).setCell _ _).setCell _ _
        have hrn : Rn ((wr.setCell ⟨W, 6, none⟩ (.bool true)).setCell ⟨W, 5, none⟩ (.int .i64 (((p - 1) / 8 : Nat) : Int))) W W a L C M { s1 with ended := true, at_ := (p - 1) / 8 } vO1 vT1 := hc1.run.only o7 ⟨f, k7⟩ rfl rfl
        have AR : Aside (OfTo B a L C M w (.returned (.pointer (some ⟨W, 0, none⟩))) ((wr.setCell ⟨W, 6, none⟩ (.bool true)).setCell ⟨W, 5, none⟩ (.int .i64 (((p - 1) / 8 : Nat) : Int)))) := AE.out _ _ _ _ _ hrn (hg1.trans (Chg.of_only o7)) hr2 (Or.inr ⟨rfl, rfl, ho1.1, by rw [hp], rfl, rfl⟩)
        clear hrel2 hc1 hg1 hr1 ho1 he1 hm1 hr2 hcc k6 k7 o7 hrn hp
        go_wp2_with (go_at_call 22; refine hop.mono ?_; rintro e2 w2 ⟨rfl, rfl⟩)
        rw [tdiv8]
        first | go_ret | go_ret2
        exact AR.out
      | false =>
        cases hnum : num? (allb B) s1.pos 3 with
        | none =>
          have hno := hc1.number_none 3 (by omega) hnum
          have hfin : Fin (allb B) M L c1 { s1 with why := 1, at_ := L } := by
            rw [he1]
            exact Fin.cut (by unfold step; simp only [hnum]; rfl) rfl rfl ho1.2 (by intro y e; cases e) (by intro e; cases e)
          have hop2 : ∀ X, Ctx B W W a L C M X { s1 with why := 1, at_ := L } vO1 vT1 → Calls Tryd.prog 22 #[.pointer (some ⟨W, 0, none⟩)] X fun e w' => e = .returned (.bool false) ∧ X = w' := fun X hX => hX.open_ false hfin.opn
          have AF : Aside (Fin (allb B) M L c1 { s1 with why := 1, at_ := L } ∧ Chg W (.slice none 0 0) (.slice none 0 0) vO1 vT1 w1 wr ∧ Runs (allb B) M ⟨.head false, 0, [], []⟩ c1) := ⟨hfin, hg1, hr1⟩
          clear hrel2 hc1 hg1 hr1 ho1 he1 hm1 hfin hnum
          go_wp2_with (first
            | (go_at_call 22; (fail_if_success (have hh := hg3)); refine hop.mono ?_; rintro e2 w2 ⟨rfl, rfl⟩)
            | (go_at_call 23; refine hno.mono ?_; rintro e3 w3 ⟨rfl, hc3, hg3⟩)
            | (go_at_call 22; refine (hop2 _ hc3).mono ?_; rintro e4 w4 ⟨rfl, rfl⟩))
          first | go_ret | go_ret2
          exact AE.out _ _ _ _ _ hc3.run (AF.out.2.1.trans hg3) AF.out.2.2 (Or.inl AF.out.1)
        | some v =>
          have hyes := hc1.number_some 3 v (by omega) hnum
          have hv8 : v < 8 := numb_lt hnum
          obtain ⟨s2, hs2⟩ : ∃ s2 : Rs, { s1 with pos := s1.pos + 3 } = s2 := ⟨_, rfl⟩
          rw [hs2] at hyes
          have ho2 : Opn s2 := by rw [← hs2]; exact ho1
          obtain ⟨lb, hlb⟩ : ∃ lb, (v % 2 == 1) = lb := ⟨_, rfl⟩
          obtain ⟨kd, hkd⟩ : ∃ kd, v / 2 = kd := ⟨_, rfl⟩
          have hst : Runs (allb B) M ⟨.head false, 0, [], []⟩ ⟨kindSt kd lb, s2.pos, s2.out, s2.times⟩ := by
            refine hr1.trans (Runs.one ?_)
            rw [he1, ← hs2, ← hkd, ← hlb]
            unfold step
            simp only [hnum]
            rfl
          have hop2 : ∀ X, Ctx B W W a L C M X s2 vO1 vT1 → Calls Tryd.prog 22 #[.pointer (some ⟨W, 0, none⟩)] X fun e w' => e = .returned (.bool true) ∧ X = w' := fun X hX => hX.open_ true ho2.opn
          have hlbI : ((v : Int) % 2 == 1) = lb := by
            rw [← hlb]
            have h2 : v % 2 = 0 ∨ v % 2 = 1 := by omega
            have e : (v : Int) % 2 = ((v % 2 : Nat) : Int) := by omega
            rw [e]
            rcases h2 with h | h <;> rw [h] <;> rfl
          have hkdI : (v : Int) / 2 = (kd : Int) := by omega
          have hkd4 : kd < 4 := by omega
          have A2 : Aside (Chg W (.slice none 0 0) (.slice none 0 0) vO1 vT1 w1 wr ∧ Opn s2 ∧ 8 * L + 5 ≤ s2.pos + gk ∧ 2 ≤ gk ∧ Runs (allb B) M ⟨.head false, 0, [], []⟩ ⟨kindSt kd lb, s2.pos, s2.out, s2.times⟩) := ⟨hg1, ho2, by rw [← hs2]; show 8 * L + 5 ≤ s1.pos + 3 + gk; omega, by have := hc1.pos; omega, hst⟩
          have hvI : (v : Int) < 8 := by omega
          clear hrel2 hc1 hg1 hr1 ho1 he1 hm1 hnum hs2 ho2 hlb hkd hst hv8
          go_upto_region 14 with (first
            | (go_at_call 22; (fail_if_success (have hh := hg3)); refine hop.mono ?_; rintro e2 w2 ⟨rfl, rfl⟩)
            | (go_at_call 23; refine hyes.mono ?_; rintro e3 w3 ⟨rfl, hc3, hg3⟩)
            | (go_at_call 22; refine (hop2 _ hc3).mono ?_; rintro e4 w4 ⟨rfl, rfl⟩))
          have A3 : Aside (Ctx B W W a L C M w3 s2 vO1 vT1 ∧ Chg W (.slice none 0 0) (.slice none 0 0) vO1 vT1 w1 w3 ∧ Opn s2 ∧ 8 * L + 5 ≤ s2.pos + gk ∧ 2 ≤ gk) := ⟨hc3, A2.out.1.trans hg3, A2.out.2.1, A2.out.2.2.1, A2.out.2.2.2.1⟩
          have AK : Aside (Runs (allb B) M ⟨.head false, 0, [], []⟩ ⟨kindSt kd lb, s2.pos, s2.out, s2.times⟩) := A2.out.2.2.2.2
          clear hc3 hg3 A2 hop hop2 hyes hlbI hkdI hvI
          match kd, hkd4 with
          | 0, _ =>
            have hsto := stored_c A3.out.1 A3.out.2.2.1 lb
            have AF : Aside (Runs (allb B) M ⟨.head false, 0, [], []⟩ ⟨.slen lb, s2.pos, s2.out, s2.times⟩) := AK.out
            clear AK
            go_wp2_with (go_at_call 24; refine hsto.mono ?_; rintro e5 w5 ⟨rfl, hleft⟩)
            have A6 : Aside (∃ s1 vO1 vT1 c1, Ctx B W W a L C M w5 s1 vO1 vT1 ∧ Chg W (.slice none 0 0) (.slice none 0 0) vO1 vT1 w1 w5 ∧ Runs (allb B) M ⟨.head false, 0, [], []⟩ c1 ∧ ((Opn s1 ∧ c1 = ⟨.head lb, s1.pos, s1.out, s1.times⟩ ∧ 8 * L + 2 ≤ s1.pos + (gk - 1)) ∨ Fin (allb B) M L c1 s1)) := by
              obtain ⟨s5, vO5, vT5, c5, q1, q2, q3, q4⟩ := hleft
              refine ⟨s5, vO5, vT5, c5, q1, A3.out.2.1.trans q2, AF.out.trans q3, ?_⟩
              rcases q4 with ⟨k1, k2⟩ | k1
              · refine Or.inl ⟨k1, k2, ?_⟩
                have := q3.pos
                rw [k2] at this
                have h5 : s2.pos ≤ s5.pos := this
                have := A3.out
                omega
              · exact Or.inr k1
            clear hsto hleft
            go_roundg (gk - 1)
            case measure => have := A3.out; omega
            case rel => exact ⟨lb, rfl, A6.out⟩
          | 1, _ =>
            have AF : Aside (Runs (allb B) M ⟨.head false, 0, [], []⟩ ⟨.sym lb fixL fixD, s2.pos, s2.out, s2.times⟩) := AK.out
            clear AK
            have hfx := fixed_c w3
            go_upto_region 18 with (go_at_call 25; refine hfx.mono ?_; rintro e5 w5 ⟨la, lc, da, dc, rfl, hll, hdl, hb5⟩)
            have hc5 := A3.out.1.grow hb5
            have t1 := hc5.table la fixL 288 lc hll fixL_len mays_fixL
            go_wp2_with (first
              | (go_at_call 26; (fail_if_success (have hh := hc6)); refine t1.mono ?_; rintro e6 w6 ⟨T, rfl, hc6, hb6, tab6⟩)
              | (go_at_call 26; refine (hc6.table da fixD 32 dc (hdl.below hb6) fixD_len mays_fixD).mono ?_; rintro e7 w7 ⟨D, rfl, hc7, hb7, tab7⟩)
              | (go_at_call 27; refine (symbols_c hc7 A3.out.2.2.1 T D fixL fixD lb (tab6.on (Chg.of_below hb7)) tab7).mono ?_; rintro e8 w8 ⟨rfl, hleft⟩))
            have A6 : Aside (∃ s1 vO1 vT1 c1, Ctx B W W a L C M w8 s1 vO1 vT1 ∧ Chg W (.slice none 0 0) (.slice none 0 0) vO1 vT1 w1 w8 ∧ Runs (allb B) M ⟨.head false, 0, [], []⟩ c1 ∧ ((Opn s1 ∧ c1 = ⟨.head lb, s1.pos, s1.out, s1.times⟩ ∧ 8 * L + 2 ≤ s1.pos + (gk - 1)) ∨ Fin (allb B) M L c1 s1)) := by
              obtain ⟨s5, vO5, vT5, c5, q1, q2, q3, q4⟩ := hleft
              refine ⟨s5, vO5, vT5, c5, q1, (A3.out.2.1.trans (Chg.of_below hb5)).trans ((Chg.of_below hb6).trans ((Chg.of_below hb7).trans q2)), AF.out.trans q3, ?_⟩
              rcases q4 with ⟨k1, k2⟩ | k1
              · refine Or.inl ⟨k1, k2, ?_⟩
                have := q3.pos
                rw [k2] at this
                have h5 : s2.pos ≤ s5.pos := this
                have := A3.out
                omega
              · exact Or.inr k1
            clear hfx hleft t1 hc5 hc6 hc7 hb5 hb6 hb7 tab6 tab7 hll hdl
            go_roundg (gk - 1)
            case measure => have := A3.out; omega
            case rel => exact ⟨lb, rfl, A6.out⟩
          | 2, _ =>
            have hdy := A1.out.2.2.2 w3 s2 vO1 vT1 lb A3.out.1 A3.out.2.2.1
            have AF : Aside (Runs (allb B) M ⟨.head false, 0, [], []⟩ ⟨.dnum lb, s2.pos, s2.out, s2.times⟩) := AK.out
            clear AK
            go_wp2_with (go_at_call 28; refine hdy.mono ?_; rintro e5 w5 ⟨rfl, hleft⟩)
            have A6 : Aside (∃ s1 vO1 vT1 c1, Ctx B W W a L C M w5 s1 vO1 vT1 ∧ Chg W (.slice none 0 0) (.slice none 0 0) vO1 vT1 w1 w5 ∧ Runs (allb B) M ⟨.head false, 0, [], []⟩ c1 ∧ ((Opn s1 ∧ c1 = ⟨.head lb, s1.pos, s1.out, s1.times⟩ ∧ 8 * L + 2 ≤ s1.pos + (gk - 1)) ∨ Fin (allb B) M L c1 s1)) := by
              obtain ⟨s5, vO5, vT5, c5, q1, q2, q3, q4⟩ := hleft
              refine ⟨s5, vO5, vT5, c5, q1, A3.out.2.1.trans q2, AF.out.trans q3, ?_⟩
              rcases q4 with ⟨k1, k2⟩ | k1
              · refine Or.inl ⟨k1, k2, ?_⟩
                have := q3.pos
                rw [k2] at this
                have h5 : s2.pos ≤ s5.pos := this
                have := A3.out
                omega
              · exact Or.inr k1
            clear hdy hleft
            go_roundg (gk - 1)
            case measure => have := A3.out; omega
            case rel => exact ⟨lb, rfl, A6.out⟩
          | 3, _ =>
            have hst := A3.out.1.stop 10
            have AF : Aside (Runs (allb B) M ⟨.head false, 0, [], []⟩ ⟨.bad 10, s2.pos, s2.out, s2.times⟩) := AK.out
            clear AK
            go_wp2_with (go_at_call 29; refine hst.mono ?_; rintro e5 w5 ⟨rfl, hc5, hg5⟩)
            have A6 : Aside (∃ s1 vO1 vT1 c1, Ctx B W W a L C M w5 s1 vO1 vT1 ∧ Chg W (.slice none 0 0) (.slice none 0 0) vO1 vT1 w1 w5 ∧ Runs (allb B) M ⟨.head false, 0, [], []⟩ c1 ∧ ((Opn s1 ∧ c1 = ⟨.head lb, s1.pos, s1.out, s1.times⟩ ∧ 8 * L + 2 ≤ s1.pos + (gk - 1)) ∨ Fin (allb B) M L c1 s1)) := ⟨_, vO1, vT1, _, hc5, A3.out.2.1.trans hg5, AF.out, Or.inr (Fin.bad 10 rfl rfl rfl A3.out.2.2.1.2 (by decide) rfl)⟩
            clear hst hc5 hg5
            go_roundg (gk - 1)
            case measure => have := A3.out; omega
            case rel => exact ⟨lb, rfl, A6.out⟩
    · have hop := hc1.open_ false hfin.opn
      have AR : Aside (OfTo B a L C M w (.returned (.pointer (some ⟨W, 0, none⟩))) wr) := AE.out _ _ _ _ _ hc1.run hg1 hr1 (Or.inl hfin)
      clear hrel2 hc1 hg1 hr1 hfin
      go_wp2_with (go_at_call 22; refine hop.mono ?_; rintro e3 w3 ⟨rfl, rfl⟩)
      first | go_ret | go_ret2
      exact AR.out
end Go.Proofs.YtikdpnpkmmmacaaDoor

/-
  What is done beside a run that once stood whole: the run's own memory stays, and so does what is done.
-/
namespace Go.Proofs.YtikdpnpkmmmacaaDoor
open Go.RowKit
set_option linter.unusedVariables false
theorem own_at {w u : World} {base e size n : Nat} {v : Value} {xs : List Value} (h : w.ownsRow base e size v n xs) (hk : ∀ g, v.ownBlock = some g → u.heap[g]? = w.heap[g]?) : u.ownsRow base e size v n xs := by
  refine ⟨h.1, ?_⟩
  rcases h.2 with hn | ⟨g, cap, cur, rfl, hb, hgg, rest⟩
  · exact .inl hn
  · exact .inr ⟨g, cap, cur, rfl, hb, by rw [hk g rfl]; exact hgg, rest⟩
/-- The run stood whole at w1; since then it read on, and new memory was worked on. -/
structure Beside (B : List Nat) (base R : Nat) (a : Option Addr) (L C most : Nat) (w1 w : World) (s : Rs) (vO vT : Value) : Prop where
  at1 : ∃ s1, Ctx B base R a L C most w1 s1 vO vT
  now : Ctx B base R a L C most w s vO vT
  chg : Chg R vO vT vO vT w1 w
variable {w1 w u : World} {base R L C most : Nat} {a : Option Addr} {s : Rs} {vO vT : Value} {B : List Nat}
theorem Ctx.beside (h : Ctx B base R a L C most w s vO vT) : Beside B base R a L C most w w s vO vT := ⟨⟨s, h⟩, h, Chg.refl _ _ _ _⟩
theorem Beside.run (h : Beside B base R a L C most w1 w s vO vT) {s' : Rs} (k : Ctx B base R a L C most u s' vO vT) (g : Chg R vO vT vO vT w u) : Beside B base R a L C most w1 u s' vO vT := ⟨h.at1, k, h.chg.trans g⟩
theorem Beside.rlt (h : Beside B base R a L C most w1 w s vO vT) : R < w1.heap.size := by obtain ⟨s1, k⟩ := h.at1; exact k.run.lt
theorem Beside.olt (h : Beside B base R a L C most w1 w s vO vT) (g : Nat) (hg : vO.ownBlock = some g) : g < w1.heap.size := by obtain ⟨s1, k⟩ := h.at1; exact (k.run.oo.lt g hg).2
theorem Beside.tlt (h : Beside B base R a L C most w1 w s vO vT) (g : Nat) (hg : vT.ownBlock = some g) : g < w1.heap.size := by obtain ⟨s1, k⟩ := h.at1; exact (k.run.ot.lt g hg).2
theorem Beside.new (h : Beside B base R a L C most w1 w s vO vT) (k : Below w1.heap.size w u) : Beside B base R a L C most w1 u s vO vT := by
  have hc : Chg R vO vT vO vT w1 u := ⟨k.os.trans h.chg.os, k.tape.trans h.chg.tape, k.output.trans h.chg.output, Nat.le_trans h.chg.size k.size, fun i hi h1 h2 h3 => (k.block i hi).trans (h.chg.block i hi h1 h2 h3), fun _ h => Or.inl h, fun _ h => Or.inl h⟩
  have hr : Rn u base R a L C most s vO vT := by
    have r := h.now.run
    obtain ⟨f, hcl⟩ := r.cells
    exact ⟨⟨f, hcl.below k h.rlt⟩, own_at r.oo (fun g hg => k.block g (h.olt g hg)), own_at r.ot (fun g hg => k.block g (h.tlt g hg)), r.rb, r.tl⟩
  refine ⟨h.at1, ?_, hc⟩
  obtain ⟨s1, k1⟩ := h.at1
  exact k1.on hr hc h.now.pos h.now.og
/-- What is new stays while the run reads on. -/
theorem Beside.stay (h : Beside B base R a L C most w1 w s vO vT) {vO' vT' : Value} (g : Chg R vO vT vO' vT' w u) {k : Nat} (h1 : w1.heap.size ≤ k) (h2 : k < w.heap.size) : u.heap[k]? = w.heap[k]? :=
  g.block k h2 (by have := h.rlt; omega) (fun e => by have := h.olt k e.symm; omega) (fun e => by have := h.tlt k e.symm; omega)
theorem Beside.cells (h : Beside B base R a L C most w1 w s vO vT) {vO' vT' : Value} (g : Chg R vO vT vO' vT' w u) {k : Nat} {cs : Array Value} {t : TypeId} (h1 : w1.heap.size ≤ k) (hc : Cells w k cs t) : Cells u k cs t := (h.stay g h1 hc.lt).trans hc
theorem Beside.own (h : Beside B base R a L C most w1 w s vO vT) {vO' vT' : Value} (g : Chg R vO vT vO' vT' w u) {b e size n : Nat} {v : Value} {xs : List Value} (h1 : w1.heap.size ≤ b) (ho : w.ownsRow b e size v n xs) : u.ownsRow b e size v n xs :=
  own_at ho fun k hk => by have := ho.lt k hk; exact h.stay g (by omega) this.2
end Go.Proofs.YtikdpnpkmmmacaaDoor

/-
  What repeated comes to behind a symbol of the lengths' code, told by the machine's steps; New within a run, whichever way it goes.
-/
namespace Go.Proofs.YtikdpnpkmmmacaaDoor
open Go.RowKit
set_option linter.unusedVariables false
variable {w1 w u : World} {base R L C most : Nat} {a : Option Addr} {s : Rs} {vO vT : Value} {B : List Nat}
/-- What comes behind a symbol of the lengths' code. -/
def afterSym (last : Bool) (A D : Nat) (code l : List Nat) (x : Nat) : St := if x < 16 then .dsym last A D code (l ++ [x]) else if x = 16 ∧ l = [] then .bad 12 else .drep last A D code l x
theorem rep_c (base R : Nat) (a : Option Addr) (L C : Nat) (vO vT : Value) (ho : Opn s) (x : Nat) (hx : x < 19) (last : Bool) (A D : Nat) (code l : List Nat) (la : Option Addr) (ll lc : Nat) (hll : l.length = ll) (hlb : ll ≤ 1000) (hlt : ll < A + D) (h16 : ∀ y ∈ l, y < 16) :
    ∃ (n z : Nat) (s5 : Rs), (∀ X, Ctx B base R a L C most X s vO vT → Kept (fun u => Lens u la (iz l)) R vO vT X → Calls Tryd.prog 49 #[.pointer (some ⟨R, 0, none⟩), .int .i64 (x : Int), .slice la ll lc] X fun e w' => e = .returned (.tuple #[.int .i64 (n : Int), .int .i64 (z : Int)]) ∧ Ctx B base R a L C most w' s5 vO vT ∧ Chg R vO vT vO vT X w') ∧ n ≤ 138 ∧ z < 16 ∧
      ((Opn s5 ∧ 1 ≤ n ∧ Runs (allb B) most ⟨afterSym last A D code l x, s.pos, s.out, s.times⟩ ⟨if A + D < ll + n then .bad 12 else .dsym last A D code (l ++ List.replicate n z), s5.pos, s5.out, s5.times⟩) ∨ ∃ c', Runs (allb B) most ⟨afterSym last A D code l x, s.pos, s.out, s.times⟩ c' ∧ Fin (allb B) most L c' s5) := by
  by_cases h1 : x < 16
  · refine ⟨1, x, s, fun X hX hk => (rep_len hX x h1 la ll lc).mono fun e w' ⟨q1, q2⟩ => ⟨q1, by rw [← q2]; exact hX, by rw [← q2]; exact Chg.refl _ _ _ _⟩, by omega, h1, Or.inl ⟨ho, by omega, ?_⟩⟩
    unfold afterSym
    rw [if_pos h1, if_neg (by omega)]
    exact Runs.refl _
  · by_cases h2 : x = 16 ∧ l = []
    · obtain ⟨rfl, rfl⟩ := h2
      have : ll = 0 := by rw [← hll]; rfl
      subst this
      refine ⟨0, 0, _, fun X hX hk => rep_first hX la lc, by omega, by omega, Or.inr ⟨_, Runs.refl _, ?_⟩⟩
      exact Fin.bad 12 rfl rfl rfl ho.2 (by decide) rfl
    · have e0 : afterSym last A D code l x = .drep last A D code l x := by unfold afterSym; rw [if_neg h1, if_neg h2]
      rw [e0]
      by_cases h3 : x = 16
      · subst h3
        have hl0 : 0 < ll := by
          rw [← hll]
          apply List.length_pos_iff.2
          intro e; exact h2 ⟨rfl, e⟩
        have hz16 : l.getD (ll - 1) 0 < 16 := by
          rw [List.getD_eq_getElem?_getD, List.getElem?_eq_getElem (by omega)]
          exact h16 _ (List.getElem_mem _)
        cases hn : num? (allb B) s.pos 2 with
        | none =>
          refine ⟨3 + 0, _, _, fun X hX hk => rep_again hX la l ll lc hll hl0 hlb hk _ rfl 0 _ (Or.inr ⟨hn, rfl, rfl⟩), by omega, hz16, Or.inr ⟨_, Runs.refl _, ?_⟩⟩
          exact Fin.cut (by unfold step; simp only [if_true, hn]; rfl) rfl rfl ho.2 (by intro y e; cases e) (by intro e; cases e)
        | some v =>
          have hv : v < 4 := numb_lt hn
          refine ⟨3 + v, _, _, fun X hX hk => rep_again hX la l ll lc hll hl0 hlb hk _ rfl v _ (Or.inl ⟨hn, rfl⟩), by omega, hz16, Or.inl ⟨ho, by omega, Runs.one ?_⟩⟩
          unfold step
          simp only [if_true, hn]
          rw [← hll]
          rfl
      · have hx78 : x = 17 ∨ x = 18 := by omega
        have hw : (if x = 16 then 2 else if x = 17 then 3 else 7) = (if x = 17 then 3 else 7) := if_neg h3
        cases hn : num? (allb B) s.pos (if x = 17 then 3 else 7) with
        | none =>
          refine ⟨_, 0, _, fun X hX hk => rep_nought hX x hx78 la ll lc 0 _ (Or.inr ⟨hn, rfl, rfl⟩), by split <;> omega, by omega, Or.inr ⟨_, Runs.refl _, ?_⟩⟩
          exact Fin.cut (by unfold step; simp only [hw, hn]; rfl) rfl rfl ho.2 (by intro y e; cases e) (by intro e; cases e)
        | some v =>
          have hv : v < 2 ^ (if x = 17 then 3 else 7) := numb_lt hn
          have hn3 : (if x = 18 then 11 else 3) + v ≤ 138 := by
            rcases hx78 with rfl | rfl
            · have hv' : v < 8 := hv
              show 3 + v ≤ 138; omega
            · have hv' : v < 128 := hv
              show 11 + v ≤ 138; omega
          refine ⟨_, 0, _, fun X hX hk => rep_nought hX x hx78 la ll lc v _ (Or.inl ⟨hn, rfl⟩), hn3, by omega, Or.inl ⟨ho, by split <;> omega, Runs.one ?_⟩⟩
          unfold step
          simp only [hw, hn, if_neg h3]
          rw [← hll]
          rfl
/-- New within a run. -/
theorem Ctx.new_ (h : Ctx B base R a L C most w s vO vT) (la : Option Addr) (l : List Nat) (ll lc : Nat) (hl : Lens w la (iz l)) (hll : l.length = ll) (hb : ll < 140737488355328) :
    Calls Tryd.prog 26 #[.slice la ll lc] w fun e w' => ∃ (p : Value) (er : Nat), e = .returned (.tuple #[p, .int .i64 (er : Int)]) ∧ Ctx B base R a L C most w' s vO vT ∧ Below w.heap.size w w' ∧ ((mays l = true ∧ er = 0 ∧ ∃ T, p = .pointer (some ⟨T, 0, none⟩) ∧ Tab R vO vT w' T l) ∨ (mays l = false ∧ er ≠ 0)) := by
  cases hm : mays l with
  | true => exact (h.table la l ll lc hl hll hm).mono fun e w' ⟨T, q1, q2, q3, q4⟩ => ⟨_, 0, q1, q2, q3, Or.inl ⟨rfl, rfl, T, rfl, q4⟩⟩
  | false =>
    obtain ⟨er, q0, q⟩ := notable la l ll lc w hl hll hb hm
    exact q.mono fun e w' ⟨q1, q2⟩ => ⟨_, er, q1, by rw [← q2]; exact h, by rw [← q2]; exact Below.refl _ _, Or.inr ⟨rfl, q0⟩⟩
theorem Lens.take {w : World} {la : Option Addr} {l : List Nat} (h : Lens w la (iz l)) (A : Nat) : Lens w la (iz (l.take A)) := by
  rcases h with h | ⟨b, o, ha, hc⟩
  · left
    have : l = [] := by unfold iz at h; simpa using h
    rw [this]; simp [iz]
  · refine Or.inr ⟨b, o, ha, fun i z hz => hc i z ?_⟩
    unfold iz at hz ⊢
    rw [List.map_take, List.getElem?_take] at hz
    split at hz
    · exact hz
    · cases hz
theorem Lens.drop {w : World} {b o : Nat} {l : List Nat} (h : Lens w (some ⟨b, o, none⟩) (iz l)) (A : Nat) : Lens w (some ⟨b, o + A, none⟩) (iz (l.drop A)) := by
  rcases h with h | ⟨b', o', ha, hc⟩
  · left
    have : l = [] := by unfold iz at h; simpa using h
    rw [this]; simp [iz]
  · cases ha
    refine Or.inr ⟨b, o + A, rfl, fun i z hz => ?_⟩
    unfold iz at hz
    rw [List.map_drop, List.getElem?_drop] at hz
    rw [Nat.add_assoc]
    exact hc (A + i) z hz
/-- A whole code of lengths of lengths. -/
theorem mays_full {l : List Nat} (h1 : l.length = 19) (h2 : ∀ x ∈ l, x < 8) (h3 : kr l = 32768) : mays l = true := by
  unfold mays
  refine decide_eq_true ⟨by omega, fun x hx => by have := h2 x hx; omega, by omega, ?_⟩
  unfold Under
  omega
/-- The lengths lie, whatever the run does. -/
theorem Beside.lens {la : Option Addr} {ll lc b : Nat} {l : List Nat} (h : Beside B base R a L C most w1 w s vO vT) (hb : w1.heap.size ≤ b) (ho : w.ownsRow b 3 1 (.slice la ll lc) ll (vt l)) (hll : l.length = ll) : Kept (fun u => Lens u la (iz l)) R vO vT w := by
  intro u x y g
  have ho2 := h.own g hb ho
  obtain ⟨a', c', e, q, _⟩ := own_lens ho2 hll
  cases e
  exact q
theorem cells_lens {F : Nat} {l : List Nat} (h : Cells w F (vt l).toArray 3) : Lens w (some ⟨F, 0, none⟩) (iz l) := by
  refine Or.inr ⟨F, 0, rfl, fun i z hz => ?_⟩
  rw [Nat.zero_add, h.cell]
  unfold iz at hz
  rw [List.getElem?_map] at hz
  cases e : l[i]? with
  | none => rw [e] at hz; cases hz
  | some x =>
    rw [e] at hz
    have hz' : (x : Int) = z := by simpa using hz
    rw [← hz']
    simp [vt, e]
end Go.Proofs.YtikdpnpkmmmacaaDoor

/-
  What the document's dynamic comes to, told by the machine's steps.
-/
namespace Go.Proofs.YtikdpnpkmmmacaaDoor
open Go.RowKit
set_option linter.unusedVariables false
variable {w1 w u : World} {base R L C most : Nat} {a : Option Addr} {s : Rs} {vO vT : Value} {B : List Nat}
def n19 : List Nat := List.replicate 19 0
theorem made_first (w : World) : (Instr.makeSlice 29 (.int .i64 19) (.int .i64 19)).run Tryd.prog w = .ok (.slice (some ⟨w.heap.size, 0, none⟩) 19 19) (w.alloc (.cells (vt n19).toArray 3)) := by kernel_rfl
theorem vt_set {l : List Nat} {i x : Nat} : (vt l).toArray.setIfInBounds i (.int .i64 (x : Int)) = (vt (l.set i x)).toArray := by
  unfold vt
  rw [List.map_set]
  simp
theorem ordr_at {i : Nat} (h : i < 19) : ordr[i]? = some (ordr.getD i 0) ∧ ordr.getD i 0 < 19 := by
  have : ∀ j : _root_.Fin 19, ordr[j.1]? = some (ordr.getD j.1 0) ∧ ordr.getD j.1 0 < 19 := by decide
  exact this ⟨i, h⟩
theorem set_lt {l : List Nat} {i x n : Nat} (h : ∀ y ∈ l, y < n) (hx : x < n) : ∀ y ∈ l.set i x, y < n := by
  intro y hy
  rcases List.mem_or_eq_of_mem_set hy with h1 | h1
  · exact h y h1
  · rw [h1]; exact hx
/-- One of the lengths of lengths is put down. -/
theorem Aft.of {w3 wr w7 : World} {s1 s7 : Rs} {O F : Nat} {first : List Nat} (h : Beside B base R a L C most w3 wr s1 vO vT) (g : Chg R vO vT vO vT wr w7) (hc : Ctx B base R a L C most w7 s7 vO vT) (ho : Cells w7 O (vt ordr).toArray 3) (hf : Cells w7 F (vt first).toArray 3) (hO : w3.heap.size = O) (hOF : O < F) (o x : Nat) :
    Aside (Beside B base R a L C most w3 (w7.setCell ⟨F, o, none⟩ (.int .i64 (x : Int))) s7 vO vT ∧ Cells (w7.setCell ⟨F, o, none⟩ (.int .i64 (x : Int))) O (vt ordr).toArray 3 ∧ Cells (w7.setCell ⟨F, o, none⟩ (.int .i64 (x : Int))) F (vt (first.set o x)).toArray 3) := by
  have on : Only F w7 (w7.setCell ⟨F, o, none⟩ (.int .i64 (x : Int))) := (Only.refl F w7).setCell _ _
  exact ⟨(h.run hc g).new (on.below (by omega)), ho.only on (by omega), by rw [← vt_set]; exact hf.set _ _⟩
set_option maxRecDepth 100000 in
set_option maxHeartbeats 8000000 in
theorem dynamic_c (h : Ctx B base R a L C most w s vO vT) (ho : Opn s) (last : Bool) :
    Calls Tryd.prog 28 #[.pointer (some ⟨R, 0, none⟩)] w fun e w' => e = .returned (.tuple #[]) ∧ Left B base R a L C most vO vT w w' ⟨.dnum last, s.pos, s.out, s.times⟩ (.head last) := by
  obtain ⟨i3, hi3, hz30, hz31, hz32⟩ := info_parts info3'
  obtain ⟨c0, hc0⟩ : ∃ c0, (⟨.dnum last, s.pos, s.out, s.times⟩ : Cfg) = c0 := ⟨_, rfl⟩
  rw [hc0]
  cases hnum : num? (allb B) s.pos 14 with
  | none =>
    have hno := h.number_none 14 (by omega) hnum
    have hfin : Fin (allb B) most L c0 { s with why := 1, at_ := L } := by
      rw [← hc0]
      exact Fin.cut (by unfold step; simp only [hnum]; rfl) rfl rfl ho.2 (by intro y e; cases e) (by intro e; cases e)
    have hop2 : ∀ X, Ctx B base R a L C most X { s with why := 1, at_ := L } vO vT → Calls Tryd.prog 22 #[.pointer (some ⟨R, 0, none⟩)] X fun e w' => e = .returned (.bool false) ∧ X = w' := fun X hX => hX.open_ false hfin.opn
    have AF : Aside (Fin (allb B) most L c0 { s with why := 1, at_ := L }) := hfin
    clear h ho hc0 hnum hfin
    go_enter Tryd.func28, Tryd.ntmps28
    go_wp2_with (first
      | (go_at_call 23; refine hno.mono ?_; rintro e3 w3 ⟨rfl, hc3, hg3⟩)
      | (go_at_call 22; refine (hop2 _ hc3).mono ?_; rintro e4 w4 ⟨rfl, rfl⟩))
    first | (refine bodyPost_ret (results_none rfl _ _ _) rfl ?_) | go_end0
    exact ⟨rfl, Left.of hc3 hg3 (Runs.refl _) (Or.inr AF.out)⟩
  | some v =>
    have hyes := h.number_some 14 v (by omega) hnum
    have hv8 : v < 16384 := numb_lt hnum
    obtain ⟨s2, hs2⟩ : ∃ s2 : Rs, { s with pos := s.pos + 14 } = s2 := ⟨_, rfl⟩
    rw [hs2] at hyes
    have ho2 : Opn s2 := by rw [← hs2]; exact ho
    have hop2 : ∀ X, Ctx B base R a L C most X s2 vO vT → Calls Tryd.prog 22 #[.pointer (some ⟨R, 0, none⟩)] X fun e w' => e = .returned (.bool true) ∧ X = w' := fun X hX => hX.open_ true ho2.opn
    obtain ⟨A, hA⟩ : ∃ A, 257 + v % 32 = A := ⟨_, rfl⟩
    obtain ⟨D, hD⟩ : ∃ D, 1 + v / 32 % 32 = D := ⟨_, rfl⟩
    obtain ⟨K, hK⟩ : ∃ K, 4 + v / 1024 = K := ⟨_, rfl⟩
    have hAI : 257 + (v : Int) % 32 = (A : Int) := by omega
    have hDI : 1 + (v : Int) / 32 % 32 = (D : Int) := by omega
    have hKI : 4 + (v : Int) / 1024 = (K : Int) := by omega
    have hst : step (allb B) most c0 = some ⟨if 286 < A ∨ 30 < D then .bad 12 else .dfst last A D K 0 (List.replicate 19 0), s2.pos, s2.out, s2.times⟩ := by
      rw [← hc0, ← hs2, ← hA, ← hD, ← hK]
      unfold step
      simp only [hnum]
      rfl
    have hvI : (v : Int) < 16384 := by omega
    have hA1 : 257 ≤ A ∧ A ≤ 288 := by omega
    have hD1 : 1 ≤ D ∧ D ≤ 32 := by omega
    have hK1 : 4 ≤ K ∧ K ≤ 19 := by omega
    clear h ho hc0 hnum hs2 hA hD hK hv8
    by_cases hbad : 286 < A ∨ 30 < D
    · have hstp : ∀ X, Ctx B base R a L C most X s2 vO vT → Calls Tryd.prog 29 #[.pointer (some ⟨R, 0, none⟩), .int .i64 12] X fun e w' => e = .returned (.tuple #[]) ∧ Ctx B base R a L C most w' { s2 with why := 12, at_ := (s2.pos - 1) / 8 } vO vT ∧ Chg R vO vT vO vT X w' := fun X hX => hX.stop 12
      rw [if_pos hbad] at hst
      have AF : Aside (Runs (allb B) most c0 ⟨.bad 12, s2.pos, s2.out, s2.times⟩ ∧ Fin (allb B) most L ⟨.bad 12, s2.pos, s2.out, s2.times⟩ { s2 with why := 12, at_ := (s2.pos - 1) / 8 }) := ⟨Runs.one hst, Fin.bad 12 rfl rfl rfl ho2.2 (by decide) rfl⟩
      clear hst ho2
      go_enter Tryd.func28, Tryd.ntmps28
      go_upto_region 3 with (first
        | (go_at_call 23; refine hyes.mono ?_; rintro e3 w3 ⟨rfl, hc3, hg3⟩)
        | (go_at_call 22; refine (hop2 _ hc3).mono ?_; rintro e4 w4 ⟨rfl, rfl⟩))
      rcases hbad with hb | hb
      · have tA : (286 : Int) < (A : Int) := by omega
        go_wp2_with (go_at_call 29; refine (hstp _ hc3).mono ?_; rintro e6 w6 ⟨rfl, hc5, hg5⟩)
        first | (refine bodyPost_ret (results_none rfl _ _ _) rfl ?_) | go_end0
        exact ⟨rfl, Left.of hc5 (hg3.trans hg5) AF.out.1 (Or.inr AF.out.2)⟩
      · have tD : (30 : Int) < (D : Int) := by omega
        have tA : (286 : Int) < (A : Int) ∨ ¬ (286 : Int) < (A : Int) := Classical.em _
        rcases tA with tA | tA
        all_goals
          go_wp2_with (go_at_call 29; refine (hstp _ hc3).mono ?_; rintro e6 w6 ⟨rfl, hc5, hg5⟩)
          first | (refine bodyPost_ret (results_none rfl _ _ _) rfl ?_) | go_end0
          exact ⟨rfl, Left.of hc5 (hg3.trans hg5) AF.out.1 (Or.inr AF.out.2)⟩
    · have tA : ¬ (286 : Int) < (A : Int) := by omega
      have tD : ¬ (30 : Int) < (D : Int) := by omega
      rw [if_neg hbad] at hst
      have hord := order_c
      have AF : Aside (Runs (allb B) most c0 ⟨.dfst last A D K 0 (List.replicate 19 0), s2.pos, s2.out, s2.times⟩ ∧ Opn s2) := ⟨Runs.one hst, ho2⟩
      clear hst ho2 hbad
      go_enter Tryd.func28, Tryd.ntmps28
      have hmk := made_first
      go_upto_region 7 with (first
        | (go_at_call 23; refine hyes.mono ?_; rintro e3 w3 ⟨rfl, hc3, hg3⟩)
        | (go_at_call 22; refine (hop2 _ hc3).mono ?_; rintro e4 w4 ⟨rfl, rfl⟩)
        | (go_at_call 48; refine (hord _).mono ?_; rintro e5 w5 ⟨rfl, hco, hbo⟩))
      obtain ⟨O, hO⟩ : ∃ O, w3.heap.size = O := ⟨_, rfl⟩
      obtain ⟨F, hF⟩ : ∃ F, w5.heap.size = F := ⟨_, rfl⟩
      rw [hO] at hco hbo
      have hb6 : Below O w3 (w5.alloc (.cells (vt n19).toArray 3)) := hbo.alloc (by rw [← hO]; exact hbo.size) _
      have A6 : Aside (Beside B base R a L C most w3 (w5.alloc (.cells (vt n19).toArray 3)) s2 vO vT ∧ Cells (w5.alloc (.cells (vt n19).toArray 3)) O (vt ordr).toArray 3 ∧ Cells (w5.alloc (.cells (vt n19).toArray 3)) F (vt n19).toArray 3 ∧ w3.heap.size = O ∧ O < F ∧ Chg R vO vT vO vT w w3) := ⟨hc3.beside.new (by rw [hO]; exact hb6), hco.alloc _, by rw [← hF]; exact Cells.new w5 _ 3, hO, by rw [← hF]; exact hco.lt, hg3⟩
      rw [hO, hF]
      generalize (w5.alloc (.cells (vt n19).toArray 3)) = w6 at A6 ⊢
      clear hc3 hg3 hco hbo hO hF hb6 hmk hord hyes hop2 hvI hAI hDI hKI
      go_wp2_with fail
      go_loopg [8] K (fun g si wr => ∃ i : Nat, si = .int .i64 (i : Int) ∧ Aside (∃ s1 c1 first, Beside B base R a L C most w3 wr s1 vO vT ∧ Cells wr O (vt ordr).toArray 3 ∧ Cells wr F (vt first).toArray 3 ∧ first.length = 19 ∧ (∀ x ∈ first, x < 8) ∧ i ≤ K ∧ Runs (allb B) most c0 c1 ∧ ((Opn s1 ∧ c1 = ⟨.dfst last A D K i first, s1.pos, s1.out, s1.times⟩ ∧ i + g = K) ∨ Fin (allb B) most L c1 s1)))
      case atStart => exact ⟨0, rfl, s2, _, n19, A6.out.1, A6.out.2.1, A6.out.2.2.1, by simp [n19], by intro x hx; rw [List.eq_of_mem_replicate hx]; omega, by omega, AF.out.1, Or.inl ⟨AF.out.2, rfl, by omega⟩⟩
      case round =>
        obtain ⟨i, rfl, hI⟩ := hrel
        obtain ⟨s1, c1, first, hb1, ho1, hf1, hfl, hf8, hiK, hr1, hcase⟩ := hI.out
        rcases hcase with ⟨hop1, hc1, hig⟩ | hfin
        · by_cases hik : i < K
          · have ti : (i : Int) < (K : Int) := by omega
            have hop := hb1.now.open_ true hop1.opn
            have ⟨hoi, hoi2⟩ := ordr_at (i := i) (by omega)
            obtain ⟨o, hoo⟩ : ∃ o, ordr.getD i 0 = o := ⟨_, rfl⟩
            rw [hoo] at hoi hoi2
            have hcell : ∀ X, Cells X O (vt ordr).toArray 3 → X.cell? ⟨O, i, none⟩ = some (.int .i64 (o : Int)) := by
              intro X hX
              rw [hX.cell]
              simp [vt, hoi]
            have hc0i := hcell wr ho1
            have toI : (o : Int) < 19 := by omega
            have tiI : (i : Int) < 19 := by omega
            have hOF : O ≠ F := by have := A6.out; omega
            have hsetc : ∀ X y, Cells X O (vt ordr).toArray 3 → (X.setCell ⟨F, o, none⟩ y).cell? ⟨O, i, none⟩ = some (.int .i64 (o : Int)) := fun X y hX => hcell _ (hX.only ((Only.refl F X).setCell o y) hOF)
            cases hnum : num? (allb B) s1.pos 3 with
            | none =>
              have hno := hb1.now.drew.number_none 3 (by omega) hnum
              have hfin : Fin (allb B) most L c1 { s1 with why := 1, at_ := L } := by
                rw [hc1]
                exact Fin.cut (by unfold step; simp only [if_pos hik, hnum]; rfl) rfl rfl hop1.2 (by intro y e; cases e) (by intro e; cases e)
              have AL : Aside (∀ X, Chg R vO vT vO vT wr.drew X → Cells X O (vt ordr).toArray 3 ∧ Cells X F (vt first).toArray 3) := fun X hX => ⟨hb1.cells ((Chg.drawn ⟨1, rfl⟩).trans hX) (by have := A6.out; omega) ho1, hb1.cells ((Chg.drawn ⟨1, rfl⟩).trans hX) (by have := A6.out; omega) hf1⟩
              have AG : Aside (Beside B base R a L C most w3 wr s1 vO vT ∧ Fin (allb B) most L c1 { s1 with why := 1, at_ := L } ∧ Runs (allb B) most c0 c1 ∧ i < K ∧ i + gk = K ∧ first.length = 19 ∧ (∀ x ∈ first, x < 8)) := ⟨hb1, hfin, hr1, hik, hig, hfl, hf8⟩
              have hfc : ∀ X, Cells X F (vt first).toArray 3 → ∃ z, X.cell? ⟨F, o, none⟩ = some (.int .i64 z) := by
                intro X hX
                rw [hX.cell]
                exact ⟨((first[o]'(by omega) : Nat) : Int), by simp [vt, hfl, hoi2]⟩
              clear hI hb1 ho1 hf1 hfl hf8 hiK hr1 hop1 hc1 hig hoi hoi2 hoo hfin hnum hik
              go_upto_region 10 with (go_at_call 22; refine hop.mono ?_; rintro e2 w2 ⟨rfl, rfl⟩)
              go_region_held3 (fun w' => w'.cell? ⟨O, i, none⟩ = some (.int .i64 (o : Int))) (first | assumption | exact hcell _ (AL.out _ hg7).1 | exact hsetc _ _ (AL.out _ hg7).1)
                (first | (go_at_call 23; refine hno.mono ?_; rintro e7 w7 ⟨rfl, hc7, hg7⟩; have hf7 := (AL.out _ hg7).2; have fz7 := hf7.frozen o; obtain ⟨z, hz7⟩ := hfc _ hf7))
              have hAft := Aft.of AG.out.1 ((Chg.drawn ⟨1, rfl⟩).trans hg7) hc7 (AL.out _ hg7).1 hf7 A6.out.2.2.2.1 A6.out.2.2.2.2.1 o 0 
              have A9 := AG.out
              clear hc7 hg7 hf7 fz7 hz7 hno hop hcell hsetc hfc
              go_wp2_with fail
              go_roundg (gk - 1)
              case measure => have := AG.out; omega
              case rel => exact ⟨i + 1, by go_num, _, _, first.set o 0, hAft.out.1, hAft.out.2.1, hAft.out.2.2, by rw [List.length_set]; exact AG.out.2.2.2.2.2.1, set_lt AG.out.2.2.2.2.2.2 (by omega), by have := AG.out; omega, AG.out.2.2.1, Or.inr AG.out.2.1⟩
            | some v =>
              have hyes := hb1.now.drew.number_some 3 v (by omega) hnum
              have hv8 : v < 8 := numb_lt hnum
              obtain ⟨s4, hs4⟩ : ∃ s4 : Rs, { s1 with pos := s1.pos + 3 } = s4 := ⟨_, rfl⟩
              rw [hs4] at hyes
              have hop4 : Opn s4 := by rw [← hs4]; exact hop1
              have hst : step (allb B) most c1 = some ⟨.dfst last A D K (i + 1) (first.set o v), s4.pos, s4.out, s4.times⟩ := by
                rw [hc1, ← hs4, ← hoo]
                unfold step
                simp only [if_pos hik, hnum]
                rfl
              have AL : Aside (∀ X, Chg R vO vT vO vT wr.drew X → Cells X O (vt ordr).toArray 3 ∧ Cells X F (vt first).toArray 3) := fun X hX => ⟨hb1.cells ((Chg.drawn ⟨1, rfl⟩).trans hX) (by have := A6.out; omega) ho1, hb1.cells ((Chg.drawn ⟨1, rfl⟩).trans hX) (by have := A6.out; omega) hf1⟩
              have AG : Aside (Beside B base R a L C most w3 wr s1 vO vT ∧ Opn s4 ∧ Runs (allb B) most c0 ⟨.dfst last A D K (i + 1) (first.set o v), s4.pos, s4.out, s4.times⟩ ∧ i < K ∧ i + gk = K ∧ first.length = 19 ∧ (∀ x ∈ first, x < 8) ∧ v < 8) := ⟨hb1, hop4, hr1.trans (Runs.one hst), hik, hig, hfl, hf8, hv8⟩
              have hfc : ∀ X, Cells X F (vt first).toArray 3 → ∃ z, X.cell? ⟨F, o, none⟩ = some (.int .i64 z) := by
                intro X hX
                rw [hX.cell]
                exact ⟨((first[o]'(by omega) : Nat) : Int), by simp [vt, hfl, hoi2]⟩
              clear hI hb1 ho1 hf1 hfl hf8 hiK hr1 hop1 hc1 hig hoi hoi2 hoo hnum hik hst hop4 hs4 hv8
              go_upto_region 10 with (go_at_call 22; refine hop.mono ?_; rintro e2 w2 ⟨rfl, rfl⟩)
              go_region_held3 (fun w' => w'.cell? ⟨O, i, none⟩ = some (.int .i64 (o : Int))) (first | assumption | exact hcell _ (AL.out _ hg7).1 | exact hsetc _ _ (AL.out _ hg7).1)
                (first | (go_at_call 23; refine hyes.mono ?_; rintro e7 w7 ⟨rfl, hc7, hg7⟩; have hf7 := (AL.out _ hg7).2; have fz7 := hf7.frozen o; obtain ⟨z, hz7⟩ := hfc _ hf7))
              have hAft := Aft.of AG.out.1 ((Chg.drawn ⟨1, rfl⟩).trans hg7) hc7 (AL.out _ hg7).1 hf7 A6.out.2.2.2.1 A6.out.2.2.2.2.1 o v
              clear hc7 hg7 hf7 fz7 hz7 hyes hop hcell hsetc hfc
              go_wp2_with fail
              go_roundg (gk - 1)
              case measure => have := AG.out; omega
              case rel => exact ⟨i + 1, by go_num, _, _, first.set o v, hAft.out.1, hAft.out.2.1, hAft.out.2.2, by rw [List.length_set]; exact AG.out.2.2.2.2.2.1, set_lt AG.out.2.2.2.2.2.2.1 AG.out.2.2.2.2.2.2.2, by have := AG.out; omega, AG.out.2.2.1, Or.inl ⟨AG.out.2.1, rfl, by have := AG.out; omega⟩⟩
          · have hiK2 : i = K := by omega
            subst hiK2
            have ti : ¬ (i : Int) < (i : Int) := by omega
            have hop := hb1.now.open_ true hop1.opn
            have hlf := cells_lens hf1
            have hkr := rkraft_c (some ⟨F, 0, none⟩) (iz first) 19 19 (kr first) true wr hlf (by rw [iz_len]; exact hfl) (by omega) (Or.inl ⟨okl_iz.2 ⟨by omega, fun x hx => by have := hf8 x hx; omega⟩, by rw [lens_iz], rfl⟩)
            have hst : step (allb B) most c1 = some ⟨if kr first = 32768 then .dsym last A D first [] else .bad 12, s1.pos, s1.out, s1.times⟩ := by
              rw [hc1]
              unfold step
              simp only [if_neg (Nat.lt_irrefl i)]
            by_cases hfull : kr first = 32768
            · rw [if_pos hfull] at hst
              rw [hfull] at hkr
              have htb := hb1.now.table (some ⟨F, 0, none⟩) first 19 19 hlf hfl (mays_full hfl hf8 hfull)
              have AG : Aside (Opn s1 ∧ Runs (allb B) most c0 ⟨.dsym last A D first [], s1.pos, s1.out, s1.times⟩ ∧ Chg R vO vT vO vT w wr ∧ first.length = 19) := ⟨hop1, hr1.trans (Runs.one hst), A6.out.2.2.2.2.2.trans hb1.chg, hfl⟩
              clear hI hb1 ho1 hf1 hfl hf8 hiK hr1 hop1 hc1 hig hik hst hlf hfull A6 AF
              go_upto_region 16 with (first
                | (go_at_call 22; refine hop.mono ?_; rintro e2 w2 ⟨rfl, rfl⟩)
                | (go_at_call 45; refine hkr.mono ?_; rintro e7 w7 ⟨rfl, rfl⟩)
                | (go_at_call 26; refine htb.mono ?_; rintro e8 w8 ⟨T, rfl, hc8, hb8, tab8⟩))
              obtain ⟨W2, hW2⟩ : ∃ W2, w8.heap.size = W2 := ⟨_, rfl⟩
              have A8 : Aside (Ctx B base R a L C most w8 s1 vO vT ∧ Tab R vO vT w8 T first ∧ Chg R vO vT vO vT w w8 ∧ w8.heap.size = W2) := ⟨hc8, tab8, AG.out.2.2.1.trans (Chg.of_below hb8), hW2⟩
              clear hc8 hb8 tab8 hop hkr htb hW2
              go_wp2_with fail
              go_loopg [13] (A + D) (fun g vl wx => Aside (∃ (l : List Nat) (s4 : Rs), Beside B base R a L C most w8 wx s4 vO vT ∧ wx.ownsRow W2 3 1 vl l.length (vt l) ∧ (∀ x ∈ l, x < 16) ∧ l.length ≤ A + D ∧ A + D ≤ l.length + g ∧ Opn s4 ∧ Runs (allb B) most c0 ⟨.dsym last A D first l, s4.pos, s4.out, s4.times⟩))
              case atStart => exact ⟨[], s1, A8.out.1.beside, World.ownsRow_nil _ _ _ _, by (intro x hx; cases hx), Nat.zero_le _, by simp, AG.out.1, AG.out.2.1⟩
              case round =>
                obtain ⟨l, s4, hb4, how, h16, hlA, hlg, hop4, hr4⟩ := hrel.out
                obtain ⟨la, lc, hvl, hll, hlc, _, hlb⟩ := own_lens how rfl
                obtain ⟨ll, hl'⟩ : ∃ ll, l.length = ll := ⟨_, rfl⟩
                rw [hl'] at how hlA hlg hlc hvl
                subst hvl
                have hKl : Kept (fun u => Lens u la (iz l)) R vO vT wr := hb4.lens (by rw [A8.out.2.2.2]; exact Nat.le_refl _) how hl'
                by_cases hlt : ll < A + D
                · have tl : (ll : Int) < (A : Int) + (D : Int) := by omega
                  obtain ⟨r, hr⟩ : ∃ r, sread first ((allb B).drop s4.pos) = r := ⟨_, rfl⟩
                  have hsym := hb4.now.symbol T first (A8.out.2.1.on hb4.chg) r hr
                  cases r with
                  | cut =>
                    have hfin : Fin (allb B) most L ⟨.dsym last A D first l, s4.pos, s4.out, s4.times⟩ (symS .cut L s4) := Fin.cut (by unfold step; simp only [hl', if_pos hlt, hr]) rfl rfl hop4.2 (by intro y e; cases e) (by intro e; cases e)
                    have hop2 : ∀ X, Ctx B base R a L C most X (symS .cut L s4) vO vT → Calls Tryd.prog 22 #[.pointer (some ⟨R, 0, none⟩)] X fun e w' => e = .returned (.bool false) ∧ X = w' := fun X hX => hX.open_ false hfin.opn
                    have AH : Aside (Fin (allb B) most L ⟨.dsym last A D first l, s4.pos, s4.out, s4.times⟩ (symS .cut L s4) ∧ Chg R vO vT vO vT w wr ∧ Runs (allb B) most c0 ⟨.dsym last A D first l, s4.pos, s4.out, s4.times⟩) := ⟨hfin, A8.out.2.2.1.trans hb4.chg, hr4⟩
                    clear hrel hb4 how h16 hlA hlg hop4 hr4 hll hlc hlb hKl hlt hr hfin
                    go_wp2_with (first
                      | (go_at_call 46; refine hsym.mono ?_; rintro e9 w9 ⟨rfl, hc9, hg9⟩)
                      | (go_at_call 22; refine (hop2 _ hc9).mono ?_; rintro e5 w5 ⟨rfl, rfl⟩))
                    first | (refine bodyPost_ret (results_none rfl _ _ _) rfl ?_) | go_end0
                    exact ⟨rfl, Left.of hc9 (AH.out.2.1.trans hg9) AH.out.2.2 (Or.inr AH.out.1)⟩
                  | bad j =>
                    have hfin : Fin (allb B) most L ⟨.bad 13, s4.pos + j, s4.out, s4.times⟩ (symS (.bad j) L s4) := Fin.bad (s := { s4 with pos := s4.pos + j }) 13 rfl rfl rfl hop4.2 (by decide) rfl
                    have hop2 : ∀ X, Ctx B base R a L C most X (symS (.bad j) L s4) vO vT → Calls Tryd.prog 22 #[.pointer (some ⟨R, 0, none⟩)] X fun e w' => e = .returned (.bool false) ∧ X = w' := fun X hX => hX.open_ false hfin.opn
                    have AH : Aside (Fin (allb B) most L ⟨.bad 13, s4.pos + j, s4.out, s4.times⟩ (symS (.bad j) L s4) ∧ Chg R vO vT vO vT w wr ∧ Runs (allb B) most c0 ⟨.bad 13, s4.pos + j, s4.out, s4.times⟩) := ⟨hfin, A8.out.2.2.1.trans hb4.chg, hr4.trans (Runs.one (by unfold step; simp only [hl', if_pos hlt, hr]))⟩
                    clear hrel hb4 how h16 hlA hlg hop4 hr4 hll hlc hlb hKl hlt hr hfin
                    go_wp2_with (first
                      | (go_at_call 46; refine hsym.mono ?_; rintro e9 w9 ⟨rfl, hc9, hg9⟩)
                      | (go_at_call 22; refine (hop2 _ hc9).mono ?_; rintro e5 w5 ⟨rfl, rfl⟩))
                    first | (refine bodyPost_ret (results_none rfl _ _ _) rfl ?_) | go_end0
                    exact ⟨rfl, Left.of hc9 (AH.out.2.1.trans hg9) AH.out.2.2 (Or.inr AH.out.1)⟩
                  | got x n =>
                    have hx19 : x < 19 := by
                      have q := sread_le (ls := first) (h := (allb B).drop s4.pos)
                      rw [hr] at q
                      have h1 := (List.getElem?_eq_some_iff.1 q.1).1
                      have := AG.out.2.2.2
                      omega
                    obtain ⟨s5, hs5⟩ : ∃ s5 : Rs, symS (.got x n) L s4 = s5 := ⟨_, rfl⟩
                    rw [hs5] at hsym
                    have hsym' : Calls Tryd.prog 46 #[.pointer (some ⟨R, 0, none⟩), .pointer (some ⟨T, 0, none⟩)] wr fun e w' => e = .returned (.int .i64 (x : Int)) ∧ Ctx B base R a L C most w' s5 vO vT ∧ Chg R vO vT vO vT wr w' := hsym
                    clear hsym
                    have hop5 : Opn s5 := by rw [← hs5]; exact hop4
                    have hop2 : ∀ X, Ctx B base R a L C most X s5 vO vT → Calls Tryd.prog 22 #[.pointer (some ⟨R, 0, none⟩)] X fun e w' => e = .returned (.bool true) ∧ X = w' := fun X hX => hX.open_ true hop5.opn
                    have hst : step (allb B) most ⟨.dsym last A D first l, s4.pos, s4.out, s4.times⟩ = some ⟨afterSym last A D first l x, s5.pos, s5.out, s5.times⟩ := by
                      rw [← hs5]
                      unfold step
                      simp only [hl', if_pos hlt, hr]
                      rfl
                    obtain ⟨m, z, s6, hrep, hm138, hz16, hcase⟩ := rep_c (B := B) (most := most) base R a L C vO vT hop5 x hx19 last A D first l la ll lc hl' (by omega) hlt h16
                    have AK : Aside (∀ X, Chg R vO vT vO vT wr X → Kept (fun u => Lens u la (iz l)) R vO vT X) := fun X hX => hKl.on hX
                    rcases hcase with ⟨hop6, hm1, hr6⟩ | ⟨c6, hr6, hf6⟩
                    · have hop3 : ∀ X, Ctx B base R a L C most X s6 vO vT → Calls Tryd.prog 22 #[.pointer (some ⟨R, 0, none⟩)] X fun e w' => e = .returned (.bool true) ∧ X = w' := fun X hX => hX.open_ true hop6.opn
                      by_cases hmany : A + D < ll + m
                      · have tm : (A : Int) + (D : Int) < (ll : Int) + (m : Int) := by omega
                        rw [if_pos hmany] at hr6
                        have hstp : ∀ X, Ctx B base R a L C most X s6 vO vT → Calls Tryd.prog 29 #[.pointer (some ⟨R, 0, none⟩), .int .i64 12] X fun e w' => e = .returned (.tuple #[]) ∧ Ctx B base R a L C most w' { s6 with why := 12, at_ := (s6.pos - 1) / 8 } vO vT ∧ Chg R vO vT vO vT X w' := fun X hX => hX.stop 12
                        have AH : Aside (Fin (allb B) most L ⟨.bad 12, s6.pos, s6.out, s6.times⟩ { s6 with why := 12, at_ := (s6.pos - 1) / 8 } ∧ Chg R vO vT vO vT w wr ∧ Runs (allb B) most c0 ⟨.bad 12, s6.pos, s6.out, s6.times⟩) := ⟨Fin.bad 12 rfl rfl rfl hop6.2 (by decide) rfl, A8.out.2.2.1.trans hb4.chg, (hr4.trans (Runs.one hst)).trans hr6⟩
                        clear hrel hb4 how h16 hlA hlg hop4 hr4 hll hlc hlb hKl hr hst hop5 hs5 hop6 hr6 hx19
                        go_wp2_with (first
                          | (go_at_call 46; refine hsym'.mono ?_; rintro e9 w9 ⟨rfl, hc9, hg9⟩)
                          | (go_at_call 22; (fail_if_success (have hh := hc10)); refine (hop2 _ hc9).mono ?_; rintro e5 w5 ⟨rfl, rfl⟩)
                          | (go_at_call 49; refine (hrep _ hc9 (AK.out _ hg9)).mono ?_; rintro e10 w10 ⟨rfl, hc10, hg10⟩)
                          | (go_at_call 22; refine (hop3 _ hc10).mono ?_; rintro e11 w11 ⟨rfl, rfl⟩)
                          | (go_at_call 29; refine (hstp _ hc10).mono ?_; rintro e12 w12 ⟨rfl, hc12, hg12⟩))
                        first | (refine bodyPost_ret (results_none rfl _ _ _) rfl ?_) | go_end0
                        exact ⟨rfl, Left.of hc12 (AH.out.2.1.trans (hg9.trans (hg10.trans hg12))) AH.out.2.2 (Or.inr AH.out.1)⟩
                      · have tm : ¬ ((A : Int) + (D : Int) < (ll : Int) + (m : Int)) := by omega
                        rw [if_neg hmany] at hr6
                        obtain ⟨G, hG⟩ : ∃ G, G = gk := ⟨_, rfl⟩
                        have AH : Aside (Beside B base R a L C most w8 wr s4 vO vT ∧ wr.ownsRow W2 3 1 (.slice la ll lc) ll (vt l) ∧ Runs (allb B) most c0 ⟨.dsym last A D first (l ++ List.replicate m z), s6.pos, s6.out, s6.times⟩ ∧ Opn s6 ∧ l.length = ll ∧ ll + m ≤ A + D ∧ A + D ≤ ll + gk ∧ 1 ≤ m ∧ (∀ x ∈ l, x < 16) ∧ z < 16 ∧ m ≤ 138 ∧ ll < A + D) := ⟨hb4, how, (hr4.trans (Runs.one hst)).trans hr6, hop6, hl', by omega, hlg, hm1, h16, hz16, hm138, hlt⟩
                        clear hrel hb4 how h16 hlA hlg hop4 hr4 hll hlc hlb hKl hr hst hop5 hs5 hop6 hr6 hx19 hmany hz16 hm138
                        go_upto_region 24 with (first
                          | (go_at_call 46; refine hsym'.mono ?_; rintro e9 w9 ⟨rfl, hc9, hg9⟩)
                          | (go_at_call 22; (fail_if_success (have hh := hc10)); refine (hop2 _ hc9).mono ?_; rintro e5 w5 ⟨rfl, rfl⟩)
                          | (go_at_call 49; refine (hrep _ hc9 (AK.out _ hg9)).mono ?_; rintro e10 w10 ⟨rfl, hc10, hg10⟩)
                          | (go_at_call 22; refine (hop3 _ hc10).mono ?_; rintro e11 w11 ⟨rfl, rfl⟩))
                        have A10 : Aside (Beside B base R a L C most w8 w10 s6 vO vT ∧ w10.ownsRow W2 3 1 (.slice la ll lc) ll (vt l)) := ⟨(AH.out.1.run hc9 hg9).run hc10 hg10, AH.out.1.own (hg9.trans hg10) (by rw [A8.out.2.2.2]; exact Nat.le_refl _) AH.out.2.1⟩
                        clear hc9 hg9 hc10 hg10 hsym' hop2 hop3 hrep AK
                        go_wp2_with fail
                        go_loopg [13, 17] m (fun g vl si wy => ∃ i : Nat, si = .int .i64 (i : Int) ∧ Aside (i + g = m ∧ Beside B base R a L C most w8 wy s6 vO vT ∧ wy.ownsRow W2 3 1 vl (ll + i) (vt (l ++ List.replicate i z))))
                        case atStart => exact ⟨0, rfl, by omega, A10.out.1, by simpa using A10.out.2⟩
                        case round =>
                          obtain ⟨i, rfl, hI⟩ := hrel
                          by_cases him : i < m
                          · have ti : (i : Int) < (m : Int) := by omega
                            have AV : Aside (i < m ∧ i + gk = m ∧ Beside B base R a L C most w8 wr s6 vO vT ∧ wr.ownsRow W2 3 1 u13 (ll + i) (vt (l ++ List.replicate i z)) ∧ W2 ≤ wr.heap.size ∧ m ≤ 138 ∧ ll ≤ 320) := ⟨him, hI.out.1, hI.out.2.1, hI.out.2.2, by rw [← A8.out.2.2.2]; exact hI.out.2.1.chg.size, AH.out.2.2.2.2.2.2.2.2.2.2.1, by have := AH.out.2.2.2.2.2.2.2.2.2.2.2; omega⟩
                            have hm9 : (m : Int) < 1000 := by have := AV.out; omega
                            clear hI him
                            obtain ⟨H, hH⟩ : ∃ H, wr.heap.size = H := ⟨_, rfl⟩
                            go_wp2_with (at_builtin; refine wpList_append_own _ rfl (.tmp 118) (.tmp 120) 29 rfl W2 3 i3 (.int .i64 0) 1 8 Tryd.underlying29 hi3 hz30 hz31 hz32 rfl (by decide) u13 (ll + i) (vt (l ++ List.replicate i z)) (by rfl) (own_alloc AV.out.2.2.2.1 _) ⟨H, 0, none⟩ 1 1 [.int .i64 (z : Int)] (by rfl) rfl (fun j u hu => by rw [add_off, Nat.zero_add, ← hH, (Cells.new wr #[.int .i64 (z : Int)] 3).cell]; simpa using hu) (by simp [Value.oneCell']) (by unfold maxLen; have := AV.out; omega) (by have := AV.out; omega) (by have := AV.out; have := size_al' wr (.cells #[.int .i64 (z : Int)] 3); omega) ?_; intro v11 w11 hown11 hgrow11 hnil11)
                            have A11 : Aside (w11.ownsRow W2 3 1 v11 (ll + (i + 1)) (vt (l ++ List.replicate (i + 1) z)) ∧ Beside B base R a L C most w8 w11 s6 vO vT) := by
                              have q := AV.out
                              refine ⟨by rw [List.replicate_succ', ← List.append_assoc, ← Nat.add_assoc]; simpa [vt] using hown11, ?_⟩
                              have h2 : Below W2 wr (wr.alloc (.cells #[.int .i64 (z : Int)] 3)) := (Below.refl _ wr).alloc q.2.2.2.2.1 _
                              have h3 : Below W2 wr w11 := h2.trans ((Below.refl _ _).grown hgrow11 (by have := size_al' wr (.cells #[.int .i64 (z : Int)] 3); omega) (fun g hg => (q.2.2.2.1.lt g hg).1))
                              exact q.2.2.1.new (by rw [A8.out.2.2.2]; exact h3)
                            clear hown11 hgrow11 hnil11 hH
                            go_roundg (m - (i + 1))
                            case measure => have := AV.out; omega
                            case rel => exact ⟨i + 1, by go_num, by have := AV.out; omega, A11.out.2, A11.out.1⟩
                          · have him2 : i = m := by have := hI.out.1; omega
                            subst him2
                            have ti : ¬ (i : Int) < (i : Int) := by omega
                            have AZ : Aside (Beside B base R a L C most w8 wr s6 vO vT ∧ wr.ownsRow W2 3 1 u13 (ll + i) (vt (l ++ List.replicate i z))) := hI.out.2
                            clear hI him
                            go_wp2_with fail
                            go_roundg (G - 1)
                            case measure => have := AH.out; omega
                            case rel =>
                              have q := AH.out
                              refine ⟨l ++ List.replicate i z, s6, AZ.out.1, ?_, ?_, ?_, ?_, q.2.2.2.1, q.2.2.1⟩
                              · have e : (l ++ List.replicate i z).length = ll + i := by rw [List.length_append, List.length_replicate, q.2.2.2.2.1]
                                rw [e]; exact AZ.out.2
                              · intro y hy
                                rcases List.mem_append.1 hy with h5 | h5
                                · exact q.2.2.2.2.2.2.2.2.1 y h5
                                · rw [List.eq_of_mem_replicate h5]; exact q.2.2.2.2.2.2.2.2.2.1
                              · rw [List.length_append, List.length_replicate]; omega
                              · rw [List.length_append, List.length_replicate]; omega
                    · have hop3 : ∀ X, Ctx B base R a L C most X s6 vO vT → Calls Tryd.prog 22 #[.pointer (some ⟨R, 0, none⟩)] X fun e w' => e = .returned (.bool false) ∧ X = w' := fun X hX => hX.open_ false hf6.opn
                      have AH : Aside (Fin (allb B) most L c6 s6 ∧ Chg R vO vT vO vT w wr ∧ Runs (allb B) most c0 c6) := ⟨hf6, A8.out.2.2.1.trans hb4.chg, (hr4.trans (Runs.one hst)).trans hr6⟩
                      clear hrel hb4 how h16 hlA hlg hop4 hr4 hll hlc hlb hKl hlt hr hst hop5 hs5 hf6 hr6 hx19
                      go_wp2_with (first
                        | (go_at_call 46; refine hsym'.mono ?_; rintro e9 w9 ⟨rfl, hc9, hg9⟩)
                        | (go_at_call 22; (fail_if_success (have hh := hc10)); refine (hop2 _ hc9).mono ?_; rintro e5 w5 ⟨rfl, rfl⟩)
                        | (go_at_call 49; refine (hrep _ hc9 (AK.out _ hg9)).mono ?_; rintro e10 w10 ⟨rfl, hc10, hg10⟩)
                        | (go_at_call 22; refine (hop3 _ hc10).mono ?_; rintro e11 w11 ⟨rfl, rfl⟩))
                      first | (refine bodyPost_ret (results_none rfl _ _ _) rfl ?_) | go_end0
                      exact ⟨rfl, Left.of hc10 (AH.out.2.1.trans (hg9.trans hg10)) AH.out.2.2 (Or.inr AH.out.1)⟩
                · have hlD : ll = A + D := by omega
                  have tl : ¬ ((ll : Int) < (A : Int) + (D : Int)) := by omega
                  obtain ⟨b, o, rfl, hcl⟩ : ∃ b o, la = some ⟨b, o, none⟩ ∧ ∀ (i : Nat) (y : Int), (iz l)[i]? = some y → wr.cell? ⟨b, o + i, none⟩ = some (.int .i64 y) := by
                    rcases hll with e | e
                    · have : l = [] := by unfold iz at e; simpa using e
                      rw [this] at hl'; simp at hl'; omega
                    · exact e
                  obtain ⟨y, hy⟩ : ∃ y, l.getD 256 0 = y := ⟨_, rfl⟩
                  have hy2 : (iz l)[256]? = some (y : Int) := by
                    unfold iz
                    rw [List.getElem?_map, ← hy, List.getD_eq_getElem?_getD, List.getElem?_eq_getElem (by omega)]
                    rfl
                  have hca : ∀ X, Chg R vO vT vO vT wr X → X.cell? ⟨b, o + 256, none⟩ = some (.int .i64 (y : Int)) := by
                    intro X hX
                    rcases hKl X vO vT hX with e | ⟨b', o', e, q⟩
                    · have : l = [] := by unfold iz at e; simpa using e
                      rw [this] at hl'; simp at hl'; omega
                    · cases e; exact q 256 y hy2
                  have hlt' : (l.take A).length = A := by rw [List.length_take]; omega
                  have hld' : (l.drop A).length = D := by rw [List.length_drop]; omega
                  have hn1 := hb4.now.new_ (some ⟨b, o, none⟩) (l.take A) A lc (hll.take A) hlt' (by omega)
                  have hn2 : ∀ X, Ctx B base R a L C most X s4 vO vT → Chg R vO vT vO vT wr X → Calls Tryd.prog 26 #[.slice (some ⟨b, o + A, none⟩) D (lc - A : Nat)] X fun e w' => ∃ (p : Value) (er : Nat), e = .returned (.tuple #[p, .int .i64 (er : Int)]) ∧ Ctx B base R a L C most w' s4 vO vT ∧ Below X.heap.size X w' ∧ ((mays (l.drop A) = true ∧ er = 0 ∧ ∃ T, p = .pointer (some ⟨T, 0, none⟩) ∧ Tab R vO vT w' T (l.drop A)) ∨ (mays (l.drop A) = false ∧ er ≠ 0)) := fun X hX hg => hX.new_ _ (l.drop A) D _ ((hKl X vO vT hg).drop A) hld' (by omega)
                  have hst : step (allb B) most ⟨.dsym last A D first l, s4.pos, s4.out, s4.times⟩ = some ⟨if y = 0 ∨ mays (l.take A) = false ∨ mays (l.drop A) = false then .bad 12 else .sym last (l.take A) (l.drop A), s4.pos, s4.out, s4.times⟩ := by
                    unfold step
                    simp only [hl', if_neg hlt, hy]
                  have hAl : (A : Int) ≤ (lc : Int) := by omega
                  have hAl2 : (A : Int) ≤ (ll : Int) := by omega
                  have h256l : (256 : Int) < (ll : Int) := by omega
                  have hdd : ll - A = D := by omega
                  have AH : Aside (Opn s4 ∧ Runs (allb B) most c0 ⟨.dsym last A D first l, s4.pos, s4.out, s4.times⟩ ∧ step (allb B) most ⟨.dsym last A D first l, s4.pos, s4.out, s4.times⟩ = some ⟨if y = 0 ∨ mays (l.take A) = false ∨ mays (l.drop A) = false then .bad 12 else .sym last (l.take A) (l.drop A), s4.pos, s4.out, s4.times⟩ ∧ Chg R vO vT vO vT w wr) := ⟨hop4, hr4, hst, A8.out.2.2.1.trans hb4.chg⟩
                  clear hrel hb4 how h16 hlA hlg hop4 hr4 hll hlb hKl hlt hst hcl hy hy2 hlt' hld' 
                  go_upto_region 28 with fail
                  go_upto_region 30 with (first
                    | (go_at_call 26; (fail_if_success (have hh := hc9)); refine hn1.mono ?_; rintro e9 w9 ⟨p1, er1, rfl, hc9, hb9, hcase9⟩)
                    | (go_at_call 26; refine (hn2 _ hc9 (Chg.of_below hb9)).mono ?_; rintro e10 w10 ⟨p2, er2, rfl, hc10, hb10, hcase10⟩))
                  have c256 := hca _ ((Chg.of_below hb9).trans (Chg.of_below hb10))
                  have A10 : Aside (Ctx B base R a L C most w10 s4 vO vT ∧ Chg R vO vT vO vT w w10 ∧ Chg R vO vT vO vT w9 w10) := ⟨hc10, AH.out.2.2.2.trans ((Chg.of_below hb9).trans (Chg.of_below hb10)), Chg.of_below hb10⟩
                  have hstp := hc10.stop 12
                  clear hc9 hb9 hc10 hb10 hn1 hn2 hca
                  have bad : y = 0 ∨ mays (l.take A) = false ∨ mays (l.drop A) = false → Aside (Runs (allb B) most c0 ⟨.bad 12, s4.pos, s4.out, s4.times⟩ ∧ Fin (allb B) most L ⟨.bad 12, s4.pos, s4.out, s4.times⟩ { s4 with why := 12, at_ := (s4.pos - 1) / 8 }) := by
                    intro hh
                    have q := AH.out
                    exact ⟨q.2.1.trans (Runs.one (by rw [q.2.2.1, if_pos hh])), Fin.bad 12 rfl rfl rfl q.1.2 (by decide) rfl⟩
                  by_cases hy0 : y = 0
                  · have ab := bad (Or.inl hy0)
                    subst hy0
                    clear bad hcase9 hcase10
                    go_wp2_with (go_at_call 29; refine hstp.mono ?_; rintro e12 w12 ⟨rfl, hc12, hg12⟩)
                    first | (refine bodyPost_ret (results_none rfl _ _ _) rfl ?_) | go_end0
                    exact ⟨rfl, Left.of hc12 (A10.out.2.1.trans hg12) ab.out.1 (Or.inr ab.out.2)⟩
                  have ty : ((y : Int) == 0) = false := beq_eq_false_iff_ne.2 (by omega)
                  rcases hcase9 with ⟨hm9, rfl, T1, rfl, tab9⟩ | ⟨hm9, he9⟩
                  · rcases hcase10 with ⟨hm10, rfl, T2, rfl, tab10⟩ | ⟨hm10, he10⟩
                    · have hsy := symbols_c A10.out.1 AH.out.1 T1 T2 (l.take A) (l.drop A) last (tab9.on A10.out.2.2) tab10
                      have AR : Aside (Runs (allb B) most c0 ⟨.sym last (l.take A) (l.drop A), s4.pos, s4.out, s4.times⟩) := by
                        have q := AH.out
                        exact q.2.1.trans (Runs.one (by rw [q.2.2.1, if_neg (by rw [hm9, hm10]; rintro (e | e | e); exact hy0 e; cases e; cases e)]))
                      clear bad tab9 tab10 hm9 hm10 hstp hy0
                      go_wp2_with (go_at_call 27; refine hsy.mono ?_; rintro e12 w12 ⟨rfl, hleft⟩)
                      first | (refine bodyPost_ret (results_none rfl _ _ _) rfl ?_) | go_end0
                      obtain ⟨s7, vO7, vT7, c7, q1, q2, q3, q4⟩ := hleft
                      exact ⟨rfl, Left.of q1 (A10.out.2.1.trans q2) (AR.out.trans q3) q4⟩
                    · have ab := bad (Or.inr (Or.inr hm10))
                      have te : ((er2 : Int) == 0) = false := beq_eq_false_iff_ne.2 (by omega)
                      clear bad tab9 hm9 hm10 he10 hy0
                      go_wp2_with (go_at_call 29; refine hstp.mono ?_; rintro e12 w12 ⟨rfl, hc12, hg12⟩)
                      first | (refine bodyPost_ret (results_none rfl _ _ _) rfl ?_) | go_end0
                      exact ⟨rfl, Left.of hc12 (A10.out.2.1.trans hg12) ab.out.1 (Or.inr ab.out.2)⟩
                  · have ab := bad (Or.inr (Or.inl hm9))
                    have te : ((er1 : Int) == 0) = false := beq_eq_false_iff_ne.2 (by omega)
                    clear bad hcase10 hm9 he9 hy0
                    go_wp2_with (go_at_call 29; refine hstp.mono ?_; rintro e12 w12 ⟨rfl, hc12, hg12⟩)
                    first | (refine bodyPost_ret (results_none rfl _ _ _) rfl ?_) | go_end0
                    exact ⟨rfl, Left.of hc12 (A10.out.2.1.trans hg12) ab.out.1 (Or.inr ab.out.2)⟩
            · rw [if_neg hfull] at hst
              have hst2 := hb1.now.stop 12
              have tF : ((kr first : Int) == 32768) = false := beq_eq_false_iff_ne.2 (by omega)
              have AG : Aside (Left B base R a L C most vO vT w wr c0 (.head last) ∨ True) := Or.inr trivial
              have AH : Aside (Runs (allb B) most c0 ⟨.bad 12, s1.pos, s1.out, s1.times⟩ ∧ Fin (allb B) most L ⟨.bad 12, s1.pos, s1.out, s1.times⟩ { s1 with why := 12, at_ := (s1.pos - 1) / 8 } ∧ Chg R vO vT vO vT w wr) := ⟨hr1.trans (Runs.one hst), Fin.bad 12 rfl rfl rfl hop1.2 (by decide) rfl, A6.out.2.2.2.2.2.trans hb1.chg⟩
              clear hI hb1 ho1 hf1 hfl hf8 hiK hr1 hop1 hc1 hig hik hst hlf hfull A6 AF AG
              go_wp2_with (first
                | (go_at_call 22; refine hop.mono ?_; rintro e2 w2 ⟨rfl, rfl⟩)
                | (go_at_call 45; refine hkr.mono ?_; rintro e7 w7 ⟨rfl, rfl⟩)
                | (go_at_call 29; refine hst2.mono ?_; rintro e8 w8 ⟨rfl, hc8, hg8⟩))
              first | (refine bodyPost_ret (results_none rfl _ _ _) rfl ?_) | go_end0
              exact ⟨rfl, Left.of hc8 (AH.out.2.2.trans hg8) AH.out.1 (Or.inr AH.out.2.1)⟩
        · have hop := hb1.now.open_ false hfin.opn
          have AH : Aside (Left B base R a L C most vO vT w wr c0 (.head last)) := Left.of hb1.now (A6.out.2.2.2.2.2.trans hb1.chg) hr1 (Or.inr hfin)
          clear hI hb1 ho1 hf1 hfl hf8 hiK hr1 hfin A6 AF
          by_cases hik : i < K
          · have ti : (i : Int) < (K : Int) := by omega
            go_wp2_with (first
              | (go_at_call 22; refine hop.mono ?_; rintro e2 w2 ⟨rfl, rfl⟩))
            first | (refine bodyPost_ret (results_none rfl _ _ _) rfl ?_) | go_end0
            exact ⟨rfl, AH.out⟩
          · have ti : ¬ (i : Int) < (K : Int) := by omega
            go_wp2_with (first
              | (go_at_call 22; refine hop.mono ?_; rintro e2 w2 ⟨rfl, rfl⟩))
            first | (refine bodyPost_ret (results_none rfl _ _ _) rfl ?_) | go_end0
            exact ⟨rfl, AH.out⟩
/-- What the document's Of comes to. -/
theorem of_all {w : World} {L C : Nat} {a : Option Addr} {B : List Nat} (n : Int) (hn : n ≤ 1048576) (hB : Lies w a B) (hL : B.length = L) (hLb : L < 140737488355328) (ho : Oct B) :
    Calls Tryd.prog 10 #[.slice a L C, .int .i64 n] w fun e w' => OfTo B a L C n.toNat w e w' := of_c n hn hB hL hLb ho fun R w s vO vT last h ho => dynamic_c h ho last
end Go.Proofs.YtikdpnpkmmmacaaDoor

/-
  The machine looks at no bit before its time: a step asks for the bits up to its end, no more. No walk in this text.
-/
namespace Go.Proofs.YtikdpnpkmmmacaaDoor
set_option linter.unusedVariables false
/-- The first p bits are there, and the same. -/
def Agree (bs cs : List Bool) (p : Nat) : Prop := p ≤ bs.length ∧ p ≤ cs.length ∧ bs.take p = cs.take p
variable {bs cs : List Bool} {most : Nat}
theorem Agree.less {p q : Nat} (h : Agree bs cs q) (hp : p ≤ q) : Agree bs cs p := by
  refine ⟨Nat.le_trans hp h.1, Nat.le_trans hp h.2.1, ?_⟩
  have : (bs.take q).take p = (cs.take q).take p := by rw [h.2.2]
  rwa [List.take_take, List.take_take, Nat.min_eq_left hp] at this
theorem Agree.seg {p n : Nat} (h : Agree bs cs (p + n)) : (bs.drop p).take n = (cs.drop p).take n := by
  have : (bs.take (p + n)).drop p = (cs.take (p + n)).drop p := by rw [h.2.2]
  rwa [List.drop_take, List.drop_take, Nat.add_sub_cancel_left] at this
theorem Agree.symm {p : Nat} (h : Agree bs cs p) : Agree cs bs p := ⟨h.2.1, h.1, h.2.2.symm⟩
theorem Agree.append (bs t : List Bool) {p : Nat} (h : p ≤ bs.length) : Agree bs (bs ++ t) p := ⟨h, by rw [List.length_append]; omega, by rw [List.take_append_of_le_length h]⟩
theorem num_agree {p n v : Nat} (h : num? bs p n = some v) (k : Agree bs cs (p + n)) : num? cs p n = some v := by
  unfold num? at *
  rw [if_pos k.1] at h
  rw [if_pos k.2.1, ← k.seg]
  exact h
theorem map_agree {p n : Nat} {f : Nat → Cfg} {d : Cfg} (h : (num? bs p n).map f = some d) (hf : ∀ v, (f v).pos = p + n) (k : Agree bs cs d.pos) : (num? cs p n).map f = some d := by
  rw [Option.map_eq_some_iff] at *
  obtain ⟨v, hv, rfl⟩ := h
  rw [hf] at k
  exact ⟨v, num_agree hv k, rfl⟩
theorem hit_agree {ls : List Nat} {h g : List Bool} {s n : Nat} (hh : Hit ls h s n) (hg : n ≤ g.length) (e : h.take n = g.take n) : Hit ls g s n := ⟨hh.1, hh.2.1, hg, by rw [← e]; exact hh.2.2.2⟩
theorem sread_got_agree {ls : List Nat} {p s n : Nat} (h : sread ls (bs.drop p) = .got s n) (k : Agree bs cs (p + n)) : sread ls (cs.drop p) = .got s n := by
  have hh := sread_le (ls := ls) (h := bs.drop p)
  rw [h] at hh
  exact sread_got (hit_agree hh (by rw [List.length_drop]; have := k.2.1; omega) k.seg)
theorem sread_bad_facts {ls : List Nat} {h : List Bool} {j : Nat} (e : sread ls h = .bad j) : j ≤ h.length ∧ (∀ s n, ¬ Hit ls (h.take j) s n) ∧ ¬ May ls (h.take j) ∧ ∀ k, k < j → May ls (h.take k) := by
  unfold sread at e
  cases e1 : (List.range ls.length).find? (hitb ls h) with
  | some x => rw [e1] at e; cases e
  | none =>
    rw [e1] at e
    cases e2 : (List.range (h.length + 1)).find? (fun j => !mayb ls (h.take j)) with
    | none => rw [e2] at e; cases e
    | some i =>
      rw [e2] at e
      have hij : i = j := by simpa using e
      subst hij
      have hi := List.mem_range.1 (List.mem_of_find?_eq_some e2)
      have hno : ∀ s n, ¬ Hit ls h s n := fun s n hh => by
        have := List.find?_eq_none.1 e1 s (List.mem_range.2 (List.getElem?_eq_some_iff.1 hh.1).1)
        exact this (hitb_iff.2 ⟨n, hh⟩)
      refine ⟨by omega, fun s n hh => ?_, ?_, fun k hk => ?_⟩
      · have hn : n ≤ i := by have := hh.2.2.1; rw [List.length_take] at this; omega
        exact hno s n ⟨hh.1, hh.2.1, by omega, by have := hh.2.2.2; rwa [List.take_take, Nat.min_eq_left hn] at this⟩
      · intro hm
        have := List.find?_some e2
        rw [mayb_iff.2 hm] at this
        cases this
      · apply mayb_iff.1
        obtain ⟨_, xs, ys, happ, has⟩ := List.find?_eq_some_iff_append.1 e2
        have hk2 : k ∈ xs := by
          have hlen : xs.length = i := by
            have h5 : (List.range (h.length + 1))[xs.length]? = some i := by rw [happ]; simp
            rw [List.getElem?_eq_some_iff] at h5
            obtain ⟨q1, q2⟩ := h5
            simpa using q2
          have h6 : (List.range (h.length + 1))[k]? = some k := by rw [List.getElem?_range (by omega)]
          rw [happ, List.getElem?_append_left (by omega)] at h6
          exact List.mem_of_getElem? h6
        have := has k hk2
        simpa using this
theorem sread_bad_agree {ls : List Nat} {p j : Nat} (h : sread ls (bs.drop p) = .bad j) (k : Agree bs cs (p + j)) : sread ls (cs.drop p) = .bad j := by
  obtain ⟨h1, h2, h3, h4⟩ := sread_bad_facts h
  have e := k.seg
  refine sread_bad (by rw [List.length_drop]; have := k.2.1; omega) (by rw [← e]; exact h2) (by rw [← e]; exact h3) (fun i hi => ?_)
  have e2 : (cs.drop p).take i = (bs.drop p).take i := ((k.less (by omega : p + i ≤ p + j)).seg).symm
  rw [e2]
  exact h4 i hi
/-- A step asks for the bits up to its end, no more. -/
theorem step_agree {c d : Cfg} (h : step bs most c = some d) (k : Agree bs cs d.pos) : step cs most c = some d := by
  obtain ⟨st, pos, out, times⟩ := c
  unfold step at *
  cases st with
  | head last =>
    cases last with
    | true => exact h
    | false => exact map_agree h (fun _ => rfl) k
  | slen last => exact map_agree h (fun _ => rfl) k
  | snot last l => exact map_agree h (fun _ => rfl) k
  | sraw last n =>
    cases n with
    | zero => exact h
    | succ n => exact map_agree h (fun _ => give_pos) k
  | dnum last => exact map_agree h (fun _ => rfl) k
  | dfst last a b i j first =>
    simp only [] at *
    split at h
    · rename_i hlt; rw [if_pos hlt]; exact map_agree h (fun _ => rfl) k
    · rename_i hlt; rw [if_neg hlt]; exact h
  | dsym last a b code l =>
    simp only [] at *
    split at h
    · rename_i hlt
      rw [if_pos hlt]
      cases e : sread code (bs.drop pos) with
      | cut => rw [e] at h; cases h
      | bad j => rw [e] at h; simp only [Option.some.injEq] at h; subst h; rw [sread_bad_agree e k]
      | got s n => rw [e] at h; simp only [Option.some.injEq] at h; subst h; rw [sread_got_agree e k]
    · rename_i hlt; rw [if_neg hlt]; exact h
  | drep last a b code l s => exact map_agree h (fun _ => rfl) k
  | sym last lit di =>
    simp only [] at *
    cases e : sread lit (bs.drop pos) with
    | cut => rw [e] at h; cases h
    | bad j => rw [e] at h; simp only [Option.some.injEq] at h; subst h; rw [sread_bad_agree e k]
    | got s n =>
      rw [e] at h
      simp only [] at h
      split at h
      · rename_i hlt
        simp only [Option.some.injEq] at h
        subst h
        rw [give_pos] at k
        rw [sread_got_agree e k]
        simp only [if_pos hlt]
      · rename_i hlt
        simp only [Option.some.injEq] at h
        subst h
        rw [sread_got_agree e k]
        simp only [if_neg hlt]
  | lext last lit di s => exact map_agree h (fun _ => rfl) k
  | dist last lit di n =>
    simp only [] at *
    cases e : sread di (bs.drop pos) with
    | cut => rw [e] at h; cases h
    | bad j => rw [e] at h; simp only [Option.some.injEq] at h; subst h; rw [sread_bad_agree e k]
    | got s n => rw [e] at h; simp only [Option.some.injEq] at h; subst h; rw [sread_got_agree e k]
  | dext last lit di n x => exact map_agree h (fun _ => rfl) k
  | copy last lit di n d => cases n <;> exact h
  | done => cases h
  | bad y => cases h
theorem runs_agree {c d : Cfg} (h : Runs bs most c d) (k : Agree bs cs d.pos) : Runs cs most c d := by
  induction h with
  | refl => exact Runs.refl _
  | cons h1 r ih => exact Runs.cons (step_agree h1 (k.less r.pos)) (ih k)
end Go.Proofs.YtikdpnpkmmmacaaDoor

/-
  Lines, and Write.
-/
import Derived.Test.YtmijpocfichfpabWrt
namespace Go.Proofs.Ytmijpocfichfpab
open Go.RowKit
set_option linter.unusedVariables false
/-- A part of bytes that lie side by side. -/
theorem Lies.drop {w : World} {b o : Nat} {l : List Nat} (h : Lies w (some ⟨b, o, none⟩) l) (n : Nat) : Lies w (some ⟨b, o + n, none⟩) (l.drop n) := by
  rcases h with rfl | ⟨b', o', ha, hc⟩
  · left; simp
  · cases ha
    refine Or.inr ⟨b, o + n, rfl, fun i x hx => ?_⟩
    rw [List.getElem?_drop] at hx
    have := hc _ _ hx
    rw [← Nat.add_assoc] at this
    exact this
theorem Lies.take {w : World} {a : Option Addr} {l : List Nat} (h : Lies w a l) (n : Nat) : Lies w a (l.take n) := by
  rcases h with rfl | ⟨b', o', ha, hc⟩
  · left; simp
  · refine Or.inr ⟨b', o', ha, fun i x hx => ?_⟩
    rw [List.getElem?_take] at hx
    split at hx
    · exact hc _ _ hx
    · cases hx
theorem lies_two (w : World) (H x y : Nat) (hH : w.heap.size = H) : Lies (w.alloc (.cells #[.int .u8 (x : Int), .int .u8 (y : Int)] 5)) (some ⟨H, 0, none⟩) [x, y] := Or.inr ⟨H, 0, rfl, fun k z hz => by
  have hk : k < 2 := by have := (List.getElem?_eq_some_iff.1 hz).1; simpa using this
  rw [← hH, Nat.zero_add, (Cells.new w #[.int .u8 (x : Int), .int .u8 (y : Int)] 5).cell k]
  match k, hk, hz with
  | 0, _, hz => cases hz; rfl
  | 1, _, hz => cases hz; rfl⟩
theorem slice_to (b o L C k : Nat) (h1 : k ≤ C) (W : World) : (Instr.slice 22 (.slice (some ⟨b, o, none⟩) L C) none (some (.int .i64 (k : Int))) none).run Try.prog W = .ok (.slice (some ⟨b, o, none⟩) k C) W := by
  have hk1 : (k : Int) ≤ (C : Int) := by omega
  have hk0 : (0 : Int) ≤ (k : Int) := by omega
  clear h1
  go_simp
theorem slice_fr (b o L C k : Nat) (h1 : k ≤ L) (h2 : L ≤ C) (h3 : k ≠ C) (W : World) : (Instr.slice 22 (.slice (some ⟨b, o, none⟩) L C) (some (.int .i64 (k : Int))) none none).run Try.prog W = .ok (.slice (some ⟨b, o + k, none⟩) (L - k) (C - k)) W := by
  have hk1 : (k : Int) ≤ (C : Int) := by omega
  have hk2 : (k : Int) ≤ (L : Int) := by omega
  have hk0 : (0 : Int) ≤ (k : Int) := by omega
  have hCk : ¬ C = k := by omega
  have hCk2 : ¬ (C : Int) = (k : Int) := by omega
  clear h1 h2 h3
  go_simp
theorem slice_end (b o C : Nat) (W : World) : (Instr.slice 22 (.slice (some ⟨b, o, none⟩) C C) (some (.int .i64 (C : Int))) none none).run Try.prog W = .ok (.slice (some ⟨b, o, none⟩) 0 0) W := by
  have hk0 : (0 : Int) ≤ (C : Int) := by omega
  go_simp
/-- A slice from k on. -/
theorem slice_from (b o L C k : Nat) (h1 : k ≤ L) (h2 : L ≤ C) : ∃ o2, (∀ W : World, (Instr.slice 22 (.slice (some ⟨b, o, none⟩) L C) (some (.int .i64 (k : Int))) none none).run Try.prog W = .ok (.slice (some ⟨b, o2, none⟩) (L - k) (C - k)) W) ∧ ∀ (w : World) (l : List Nat), l.length = L → Lies w (some ⟨b, o, none⟩) l → Lies w (some ⟨b, o2, none⟩) (l.drop k) := by
  by_cases h3 : k = C
  · obtain rfl : L = C := by omega
    subst h3
    refine ⟨o, fun W => ?_, fun w l hl _ => Or.inl (List.drop_eq_nil_of_le (by omega))⟩
    rw [slice_end, Nat.sub_self]
  · exact ⟨o + k, fun W => slice_fr b o L C k h1 h2 h3 W, fun w l hl h => h.drop k⟩
set_option maxRecDepth 20000 in
set_option maxHeartbeats 1000000 in
theorem lines_c (w : World) (a : Option Addr) (l : List Nat) (L C n : Nat) (hl : Lies w a l) (hL : l.length = L) (hLb : L ≤ 10000000) (hLC : L ≤ C) (hn : 0 < n) (hnb : n < 9223372036854775808) (haz : a = none → L = 0 ∧ C = 0) :
    Calls Try.prog 9 #[.slice a L C, .int .i64 (n : Int)] w fun e w' => ∃ v, e = .returned v ∧ Ob w' w.heap.size v (dbrk n 0 l) ∧ Below w.heap.size w w' := by
  obtain ⟨B, hB⟩ : ∃ B, w.heap.size = B := ⟨_, rfl⟩
  rw [hB]
  have A : Aside (Lies w a l ∧ l.length = L ∧ L ≤ 10000000 ∧ L ≤ C ∧ 0 < n ∧ n < 9223372036854775808 ∧ w.heap.size = B ∧ (a = none → L = 0 ∧ C = 0)) := ⟨hl, hL, hLb, hLC, hn, hnb, hB, haz⟩
  clear hl hL hLb hLC hn hnb hB haz
  go_enter Try.func9, Try.ntmps9
  go_wp2_with fail
  go_loopg [0, 5] L (fun gg s0 s5 wr => ∃ (k m c : Nat) (a2 : Option Addr), s0 = .slice a2 m c ∧ Aside (m = gg ∧ m ≤ c ∧ (a2 = none → m = 0 ∧ c = 0) ∧ m ≤ L ∧ Lies w a2 (l.drop k) ∧ (l.drop k).length = m ∧ ∃ acc, Ob wr B s5 acc ∧ acc ++ dbrk n 0 (l.drop k) = dbrk n 0 l ∧ Below B w wr ∧ acc.length ≤ 3 * L))
  case atStart => 
    have a0 := A.out
    exact ⟨0, L, C, a, rfl, rfl, a0.2.2.2.1, a0.2.2.2.2.2.2.2, Nat.le_refl _, a0.1, by simpa using a0.2.1, [], Ow.nil (by omega), rfl, Below.refl _ _, by simp⟩
  case round =>
    obtain ⟨k, m, c, a2, rfl, hI⟩ := hrel
    obtain ⟨hmg, hmc, han, hmL, hlk, hlen, acc, hob, hacc, hbel, hal⟩ := hI.out
    have a0 := A.out
    obtain ⟨va, vc, hv, hvc, hlies, hvn⟩ := hob.shape
    obtain ⟨ln, hln⟩ : ∃ ln, acc.length = ln := ⟨_, rfl⟩
    rw [hln] at hv
    subst hv
    have hle : dbrk n 0 (l.drop k) = (dbrk n 0 l).drop acc.length := by rw [← hacc, List.drop_left]
    have hdl := dbrk_len n l 0
    have hsum : acc.length + (dbrk n 0 (l.drop k)).length ≤ 3 * L := by
      have := congrArg List.length hacc
      rw [List.length_append] at this
      omega
    by_cases hk : n < m
    · have t1 : ((n : Int) < (m : Int)) = True := eq_true (by omega)
      have t1' : (n < m) = True := eq_true hk
      obtain ⟨b, o, ha2⟩ : ∃ b o, a2 = some ⟨b, o, none⟩ := by
        rcases hlk with e | ⟨b, o, e, _⟩
        · rw [e] at hlen; simp at hlen; omega
        · exact ⟨b, o, e⟩
      subst ha2
      have hln2 := dbrk_line n (by omega) (l := l.drop k) (by omega)
      rw [List.drop_drop] at hln2
      have hl1 : Lies wr (some ⟨b, o, none⟩) ((l.drop k).take n) := (hlk.take n).below (by rw [a0.2.2.2.2.2.2.1]; exact hbel)
      have hl1n : ((l.drop k).take n).length = n := by rw [List.length_take]; omega
      have hsl := congrArg List.length hln2
      rw [List.length_append, List.length_append, hl1n] at hsl
      simp only [List.length_cons, List.length_nil] at hsl
      have hmc2 : (m : Int) ≤ (c : Int) := by omega
      have hmb : (m : Int) < 100000000 := by omega
      have hnm : (n : Int) ≤ (m : Int) := by omega
      have hnc : (n : Int) ≤ (c : Int) := by omega
      have AX : Aside (m = gk ∧ m ≤ c ∧ m ≤ L ∧ L ≤ 10000000 ∧ Lies w (some ⟨b, o, none⟩) (l.drop k) ∧ (l.drop k).length = m ∧ acc ++ dbrk n 0 (l.drop k) = dbrk n 0 l ∧ Below B w wr ∧ dbrk n 0 (l.drop k) = (l.drop k).take n ++ ([13, 10] ++ dbrk n 0 (l.drop (k + n))) ∧ n < m ∧ 0 < n ∧ acc.length + n + 2 ≤ 3 * L) := ⟨hmg, hmc, hmL, a0.2.2.1, hlk, hlen, hacc, hbel, hln2, hk, a0.2.2.2.2.1, by omega⟩
      have AL : Aside (acc.length + ((l.drop k).take n).length ≤ 140737488355328 ∧ ((l.drop k).take n).length = n) := ⟨by omega, hl1n⟩
      clear hI hmg hmc han hmL hlk hlen hacc hbel hal a0 hvc hlies hvn hln hle hdl hsum hln2 hsl hl1n hk
      go_upto_region 4 with (at_builtin; refine wpList_ob _ rfl (.tmp 10) (.tmp 13) rfl B (.slice va ln vc) acc (by rfl) hob (some ⟨b, o, none⟩) ((l.drop k).take n) n c AL.out.2 (by rfl) (by intro h; cases h) hl1 AL.out.1 ?_; intro v6 w6 hap)
      have ax := AX.out
      obtain ⟨va6, vc6, hv6, hvc6, hlies6, hvn6⟩ := Ob.shape hap.ow
      obtain ⟨ln6, hln6⟩ : ∃ ln6, (acc ++ (l.drop k).take n).length = ln6 := ⟨_, rfl⟩
      rw [hln6] at hv6
      subst hv6
      obtain ⟨H, hH⟩ : ∃ H, w6.heap.size = H := ⟨_, rfl⟩
      have bal : Below w6.heap.size w6 (w6.alloc (.cells #[.int .u8 13, .int .u8 10] 5)) := (Below.refl _ w6).alloc (Nat.le_refl _) _
      have hobA : Ob (w6.alloc (.cells #[.int .u8 13, .int .u8 10] 5)) B (.slice va6 ln6 vc6) (acc ++ (l.drop k).take n) := Ow.below hap.ow bal (Nat.le_refl _)
      have hlA : Lies (w6.alloc (.cells #[.int .u8 13, .int .u8 10] 5)) (some ⟨H, 0, none⟩) [13, 10] := lies_two w6 H 13 10 hH
      have A6 : Aside (Below B w (w6.alloc (.cells #[.int .u8 13, .int .u8 10] 5)) ∧ (acc ++ (l.drop k).take n).length + 2 ≤ 140737488355328) := ⟨(ax.2.2.2.2.2.2.2.1.trans hap.ap.bel).trans (bal.mono hap.ow.le), by rw [List.length_append, AL.out.2]; omega⟩
      clear ax hob hl1 hap bal hvc6 hlies6 hvn6 hln6
      go_upto_region 5 with (at_builtin; refine wpList_ob _ rfl (.tmp 15) (.tmp 16) rfl B (.slice va6 ln6 vc6) (acc ++ (l.drop k).take n) (by rfl) hobA (some ⟨H, 0, none⟩) [13, 10] 2 2 rfl (by rfl) (by intro h; cases h) hlA A6.out.2 ?_; intro v7 w7 hap7)
      have A7 : Aside (Ob w7 B v7 (acc ++ (l.drop k).take n ++ [13, 10]) ∧ Below B w w7) := ⟨hap7.ow, A6.out.1.trans hap7.ap.bel⟩
      clear hobA hlA hap7 hH
      have sl := slice_fr b o m c n (by have := AX.out; omega) (by have := AX.out; omega) (by have := AX.out; omega)
      clear hmc2 hmb hnm hnc t1 t1'
      go_wp2_with fail
      have ax := AX.out
      have a7 := A7.out
      go_roundg (gk - n)
      case measure => omega
      case rel =>
        refine ⟨k + n, m - n, c - n, _, rfl, by omega, by omega, (fun h => by cases h), by omega, ?_, by rw [List.length_drop] at ax ⊢; omega, acc ++ (l.drop k).take n ++ [13, 10], a7.1, ?_, a7.2, ?_⟩
        · have := Lies.drop ax.2.2.2.2.1 n
          rw [List.drop_drop] at this
          exact this
        · rw [← ax.2.2.2.2.2.2.1, ax.2.2.2.2.2.2.2.2.1]
          simp
        · rw [List.length_append, List.length_append, AL.out.2]
          simp
          omega
    · have t1 : ((n : Int) < (m : Int)) = False := eq_false (by omega)
      have t1' : (n < m) = False := eq_false hk
      have hfew : dbrk n 0 (l.drop k) = l.drop k := dbrk_few n _ 0 (Or.inl rfl) (by rw [hlen]; simp; omega)
      have hl1 : Lies wr a2 (l.drop k) := hlk.below (by rw [a0.2.2.2.2.2.2.1]; exact hbel)
      have AX : Aside (acc ++ l.drop k = dbrk n 0 l ∧ Below B w wr ∧ (l.drop k).length = m ∧ acc.length + (l.drop k).length ≤ 140737488355328 ∧ (a2 = none → m = 0 ∧ c = 0)) := ⟨by rw [← hfew]; exact hacc, hbel, hlen, by omega, han⟩
      clear hI hmg hmc han hmL hlk hlen hacc hbel hal a0 hvc hlies hvn hln hle hdl hsum hfew hk
      go_wp2_with (at_builtin; refine wpList_ob _ rfl (.tmp 21) (.tmp 22) rfl B (.slice va ln vc) acc (by rfl) hob a2 (l.drop k) m c AX.out.2.2.1 (by rfl) AX.out.2.2.2.2 hl1 AX.out.2.2.2.1 ?_; intro v6 w6 hap)
      go_ret
      have ax := AX.out
      exact ⟨v6, rfl, by rw [← ax.1]; exact hap.ow, ax.2.1.trans hap.ap.bel⟩
end Go.Proofs.Ytmijpocfichfpab

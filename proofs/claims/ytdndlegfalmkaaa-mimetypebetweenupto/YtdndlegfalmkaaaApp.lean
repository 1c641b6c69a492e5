/-
  One byte, and a string's bytes, appended to a list of bytes of the call's own; the document's Lower.
-/
import Derived.Test.YtdndlegfalmkaaaLow
import Derived.Lib.AppendStr
import Derived.Laws.OwnMore
namespace Go.Proofs.Ytdndlegfalmkaaa
open Go.RowKit
set_option linter.unusedVariables false
theorem strCells_st {l : List Nat} (ho : Oct l) : Lib.strCells (st l) = ob l := by
  have e : (st l).data.toList = l.map UInt8.ofNat := rfl
  unfold Lib.strCells
  rw [e, List.map_map]
  refine List.map_congr_left fun x hx => ?_
  have := ho x hx
  simp
  omega
theorem Ow.lit {w : World} {lo B sz n : Nat} {e : TypeId} {cs : Array Value} (hB : w.heap.size = B) (h : lo ≤ B) (hm : n ≤ maxLen) (hs : cs.size = n * sz) : Ow (w.alloc (.cells cs e)) lo e sz (.slice (some ⟨B, 0, none⟩) n n) n cs.toList := by
  rw [← hB] at h ⊢
  exact ⟨World.ownsRow_lit w cs n h hm hs, by show _ ≤ (w.heap.push _).size; simp; omega⟩
section
variable (w : World) {o : Oper} {a : Act}
theorem wpList_ob1 {ops : Array Oper} {rest : List Oper} {Q : Exit → Act → World → Prop} (hgd : o.guard = none) (s x : Operand)
    (ho : o.op = .call { callee := .builtin .append, args := #[s, x], argTypes := #[40, 40] }) (lo : Nat) (v : Value) (n : Nat) (l : List Nat) (hs : a.eval s = v) (hown : Ow w lo 5 1 v n (ob l))
    (H y c : Nat) (hx : a.eval x = .slice (some ⟨H, 0, none⟩) 1 c) (hc : w.cell? ⟨H, 0, none⟩ = some (.int .u8 (y : Int))) (hlen : n + 1 ≤ 140737488355328)
    (h : ∀ va c w', Got lo 5 1 w w' v (.slice va (n + 1) c) (n + 1) (ob (l ++ [y])) → wpList Try.prog ops Q rest (a.put o.dst (.slice va (n + 1) c)) w') : wpList Try.prog ops Q (o :: rest) a w := by
  obtain ⟨i0, hi, hz0, hz1, hz2⟩ := ginfo_parts ginfo5
  refine wpList_ow Try.prog w hgd s x 40 ho 5 i0 _ 1 1 Try.underlying40 hi hz0 hz1 hz2 rfl (by decide) lo v n _ hs hown (some ⟨H, 0, none⟩) (ob [y]) 1 c rfl hx (by intro h; cases h) (Or.inr ⟨H, 0, rfl, fun i u hu => ?_⟩) ob_one (by unfold maxLen; omega) (by omega) ?_
  · cases i with
    | zero =>
      simp [ob] at hu
      rw [← hu]
      exact hc
    | succ i => simp [ob] at hu
  · intro v' w' hg
    rw [ob_append] at hg
    obtain ⟨va, c', rfl, _⟩ := hg.ow.shape
    exact h va c' w' hg
theorem wpList_obs {ops : Array Oper} {rest : List Oper} {Q : Exit → Act → World → Prop} (hgd : o.guard = none) (s x : Operand)
    (ho : o.op = .call { callee := .builtin .append, args := #[s, x], argTypes := #[40, 9] }) (lo : Nat) (v : Value) (n : Nat) (l : List Nat) (hs : a.eval s = v) (hown : Ow w lo 5 1 v n (ob l))
    (m : List Nat) (M : Nat) (u : ByteArray) (hu : u = st m) (hM : m.length = M) (hm : Oct m) (hx : a.eval x = .string u) (hlen : n + M ≤ 140737488355328)
    (h : ∀ va c w', Got lo 5 1 w w' v (.slice va (n + M) c) (n + M) (ob (l ++ m)) → wpList Try.prog ops Q rest (a.put o.dst (.slice va (n + M) c)) w') : wpList Try.prog ops Q (o :: rest) a w := by
  subst hu
  subst hM
  obtain ⟨i0, hi, hz0, hz1, hz2⟩ := ginfo_parts ginfo5
  refine Lib.wpList_append_own_string w hgd s x 40 9 ho lo 5 i0 Try.underlying40 Try.underlying9 hi hz0 hz1 hz2 v n (ob l) hs hown.own (st m) hx (by rw [st_size]; unfold maxLen; omega) (by rw [st_size]; exact hlen) hown.le ?_
  intro v' w' h2 h3 _
  rw [st_size, strCells_st hm] at h2
  have hg := Got.mk' hown h2 h3
  rw [ob_append] at hg
  obtain ⟨va, c', rfl, _⟩ := hg.ow.shape
  exact h va c' w' hg
end
set_option maxHeartbeats 1000000 in
theorem rlower_c (l : List Nat) (ho : Oct l) (hl : l.length ≤ 140737488355328) (w : World) : Calls Try.prog 15 #[.string (st l)] w fun e w' => e = .returned (.string (st (low l))) ∧ Below w.heap.size w w' := by
  have z1 : (st l).size = l.length := st_size l
  obtain ⟨B, hB⟩ : ∃ B, w.heap.size = B := ⟨_, rfl⟩
  obtain ⟨L, hL⟩ : ∃ L, l.length = L := ⟨_, rfl⟩
  obtain ⟨s, hs⟩ : ∃ s, s = st l := ⟨_, rfl⟩
  rw [← hs, hL] at z1
  rw [← hs, hB]
  have A : Aside (s = st l ∧ l.length = L ∧ L ≤ 140737488355328 ∧ Oct l ∧ w.heap.size = B) := ⟨hs, hL, by omega, ho, hB⟩
  clear hs hL hl ho hB
  go_enter Try.func15, Try.ntmps15
  go_wp2_with fail
  go_loopg [3, 4] L (fun g s3 s4 wr => ∃ (k : Nat) (va : Option Addr) (n c : Nat), s3 = .slice va n c ∧ s4 = .int .i64 k ∧ Aside (n = k ∧ k + g = L ∧ Ow wr B 5 1 (.slice va n c) n (ob (low (l.take k))) ∧ Below B w wr))
  case atStart => exact ⟨0, none, 0, 0, rfl, rfl, rfl, by omega, Ow.nil (by rw [A.out.2.2.2.2]; exact Nat.le_refl _), Below.refl _ _⟩
  case round =>
    obtain ⟨k, va, n, c, rfl, rfl, hI⟩ := hrel
    obtain ⟨hn, hkg, how, hbel⟩ := hI.out
    have a0 := A.out
    by_cases hk : k < L
    · have hki : ((k : Int) < (L : Int)) = True := eq_true (by omega)
      have hkn : (k < L) = True := eq_true hk
      have hkb : (k : Int) < 1000000000000000 := by omega
      obtain ⟨x, hx⟩ : ∃ x, l[k]? = some x := ⟨_, List.getElem?_eq_getElem (by omega)⟩
      have hx0 : ∀ h : k < s.size, (s[k]'h).toNat = x := by rw [a0.1]; exact fun h => st_get a0.2.2.2.1 hx h
      have hlw := rlow_c x (a0.2.2.2.1 x (List.mem_of_getElem? hx)) wr
      obtain ⟨y, hy⟩ : ∃ y, lo x = y := ⟨_, rfl⟩
      rw [hy] at hlw
      obtain ⟨H, hH⟩ : ∃ H, wr.heap.size = H := ⟨_, rfl⟩
      have bal : Below wr.heap.size wr (wr.alloc (.cells #[.int .u8 (y : Int)] 5)) := (Below.refl _ wr).alloc (Nat.le_refl _) _
      have how2 := how.below bal (Nat.le_refl _)
      have hcy : (wr.alloc (.cells #[.int .u8 (y : Int)] 5)).cell? ⟨H, 0, none⟩ = some (.int .u8 (y : Int)) := by rw [← hH, (Cells.new wr _ 5).cell]; rfl
      have A2 : Aside (n = k ∧ k + gk = L ∧ k < L ∧ low (l.take (k + 1)) = low (l.take k) ++ [y] ∧ Below B w (wr.alloc (.cells #[.int .u8 (y : Int)] 5)) ∧ n + 1 ≤ 140737488355328) := ⟨hn, hkg, hk, by rw [take_more hx, low_append, ← hy]; rfl, hbel.trans (bal.mono how.le), by omega⟩
      clear hI hn hkg how hbel a0 hk hx hy bal
      go_wp2_with (first
        | (go_at_call 35; refine hlw.mono ?_; rintro e1 w1 ⟨rfl, rfl⟩)
        | (at_builtin; refine wpList_ob1 _ rfl (.tmp 11) (.tmp 16) rfl B (.slice va n c) n _ (by rfl) how2 H y 1 (by rfl) hcy A2.out.2.2.2.2.2 ?_; intro va3 vc3 w3 hgot))
      have a2 := A2.out
      go_roundg (gk - 1)
      case measure => omega
      case rel => exact ⟨k + 1, va3, n + 1, vc3, rfl, by go_num, by omega, by omega, by rw [a2.2.2.2.1]; exact hgot.ow, a2.2.2.2.2.1.trans hgot.bel⟩
    · have hki : ((k : Int) < (L : Int)) = False := eq_false (by omega)
      have hkn : (k < L) = False := eq_false hk
      have e : l.take k = l := List.take_of_length_le (by omega)
      rw [e] at how
      obtain ⟨a, c', hv, hn2, _, hlies, _⟩ := how.lies
      cases hv
      have hcv := conv_st (w := wr) n c hn2 a0.2.2.2.1.low hlies
      have AE : Aside (Below B w wr) := hbel
      clear hI hn hkg how hbel a0 hk e hn2 hlies
      go_wp2_with fail
      go_ret
      exact ⟨rfl, AE.out⟩
theorem small_c (l : List Nat) (ho : Oct l) (hl : l.length ≤ 281474976710656) (w : World) : Calls Try.prog 36 #[.string (st l)] w fun e w' => e = .returned (.bool (sm l)) ∧ Below w.heap.size w w' := by
  have htk := token_c l ho hl w
  have hlw := lower_c l ho hl w
  cases h : tok l with
  | false =>
    have e : sm l = false := by unfold sm; rw [h]; rfl
    rw [e]
    rw [h] at htk
    clear hlw h e
    go_enter Try.func36, Try.ntmps36
    go_wp2_with (go_at_call 12; refine htk.mono ?_; rintro e1 w1 ⟨rfl, rfl⟩)
    go_ret
    exact ⟨rfl, Below.refl _ _⟩
  | true =>
    have e : sm l = decide (low l = l) := by unfold sm; rw [h]; rfl
    rw [e]
    rw [h] at htk
    have hq := st_beq ho.low ho
    obtain ⟨q, hq2⟩ : ∃ q, decide (low l = l) = q := ⟨_, rfl⟩
    rw [hq2] at hq ⊢
    obtain ⟨s, hs⟩ : ∃ s, st l = s := ⟨_, rfl⟩
    obtain ⟨t, ht⟩ : ∃ t, st (low l) = t := ⟨_, rfl⟩
    rw [hs] at htk hlw hq ⊢
    rw [ht] at hlw hq
    clear hs ht h e hq2 hl ho
    go_enter Try.func36, Try.ntmps36
    go_wp2_with (first
      | (go_at_call 12; refine htk.mono ?_; rintro e1 w1 ⟨rfl, rfl⟩)
      | (go_at_call 14; refine hlw.mono ?_; rintro e2 w2 ⟨rfl, hb2⟩))
    go_ret
    exact ⟨by rw [← hq]; rfl, hb2⟩
theorem rsmall_c (l : List Nat) (ho : Oct l) (hl : l.length ≤ 140737488355328) (w : World) : Calls Try.prog 40 #[.string (st l)] w fun e w' => e = .returned (.bool (sm l)) ∧ Below w.heap.size w w' := by
  have htk := rtoken_c l ho (by omega) w
  have hlw := rlower_c l ho hl w
  cases h : tok l with
  | false =>
    have e : sm l = false := by unfold sm; rw [h]; rfl
    rw [e]
    rw [h] at htk
    clear hlw h e
    go_enter Try.func40, Try.ntmps40
    go_wp2_with (go_at_call 13; refine htk.mono ?_; rintro e1 w1 ⟨rfl, rfl⟩)
    go_ret
    exact ⟨rfl, Below.refl _ _⟩
  | true =>
    have e : sm l = decide (low l = l) := by unfold sm; rw [h]; rfl
    rw [e]
    rw [h] at htk
    have hq := st_beq ho.low ho
    obtain ⟨q, hq2⟩ : ∃ q, decide (low l = l) = q := ⟨_, rfl⟩
    rw [hq2] at hq ⊢
    obtain ⟨s, hs⟩ : ∃ s, st l = s := ⟨_, rfl⟩
    obtain ⟨t, ht⟩ : ∃ t, st (low l) = t := ⟨_, rfl⟩
    rw [hs] at htk hlw hq ⊢
    rw [ht] at hlw hq
    clear hs ht h e hq2 hl ho
    go_enter Try.func40, Try.ntmps40
    go_wp2_with (first
      | (go_at_call 13; refine htk.mono ?_; rintro e1 w1 ⟨rfl, rfl⟩)
      | (go_at_call 15; refine hlw.mono ?_; rintro e2 w2 ⟨rfl, hb2⟩))
    go_ret
    exact ⟨by rw [← hq]; rfl, hb2⟩
end Go.Proofs.Ytdndlegfalmkaaa

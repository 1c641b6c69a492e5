/-
  What Next and End of the splitter come to.
-/
import Derived.Test.YtbndohpcaahenabNxt
import Derived.Laws.Rows
namespace Go.Proofs.Ytbndohpcaahenab
open Go.RowKit
set_option linter.unusedVariables false
/-- An event by its sign. -/
def evk (g : Nat) : Nat := if g = 256 then 1 else if g = 257 then 3 else 2
def evb (g : Nat) : Nat := if g = 256 then 0 else if g = 257 then 0 else g
def evn (g : Nat) : Nat := if g = 256 then 3 else 0
def evv (g : Nat) : Array Value := #[.int .i64 (evk g : Nat), .int .u8 (evb g : Nat), .int .i64 (evn g : Nat), .int .i64 0, .string ⟨#[]⟩]
def ev0 : Array Value := #[.int .i64 0, .int .u8 0, .int .i64 0, .int .i64 0, .string ⟨#[]⟩]
theorem size50 : (Try.prog.info? 50).map (·.size) = some 5 := by kernel_rfl
theorem ret50 {w : World} {g : Nat} {cs : Array Value} (h : Cells w g cs 50) (hc : cs.size = 5) : (loadVar 50 ⟨g, 0, none⟩).run Try.prog w = .ok (.agg cs) w := by
  exact run_loadVar_row (P := Try.prog) w g 50 50 cs (0, 0) _ h Try.underlying50 rfl (by rw [hc]; exact size50)
theorem set5 {w : World} {H : Nat} {a0 b0 c0 d0 e0 : Value} (h : Cells w H #[a0, b0, c0, d0, e0] 50) (a b c d e : Value) : Cells (((((w.setCell ⟨H, 0, none⟩ a).setCell ⟨H, 1, none⟩ b).setCell ⟨H, 2, none⟩ c).setCell ⟨H, 3, none⟩ d).setCell ⟨H, 4, none⟩ e) H #[a, b, c, d, e] 50 := by
  have := ((((h.set 0 a).set 1 b).set 2 c).set 3 d).set 4 e
  simpa using this
theorem len_end {D : List Nat} (ho : Oct D) (s : Sp) (h : s.hl.length < 94) : (stp D 258 s).hl.length < 94 := by
  have hm : (miss 258 s).hl = s.hl := by simp [miss, within, know]
  have hd := (len_delim s).1
  have hp : pad 258 s = delim s := by simp [pad]
  unfold stp
  split
  · unfold start
    split
    · rw [hm]; exact h
    · rename_i h1
      have h2 : D[s.seen]? = some 258 := Classical.not_not.1 h1
      have := ho 258 (List.mem_of_getElem? h2)
      omega
  · split
    · simp only [bBorder, hp]; rw [if_neg (by decide)]; omega
    · split
      · simp only [bDash]; rw [if_pos (by decide), hm]; exact h
      · split
        · rw [hp]; omega
        · split
          · simp only [bPad]; rw [if_pos (by decide), hm]; exact h
          · split
            · simp only [within]; rw [if_neg (by decide), if_neg (by decide), if_pos (by decide)]; exact h
            · split
              · simp only [bRet]; rw [if_pos (by decide), hm]; exact h
              · exact h
section
variable {B td : Nat} {D : List Nat} {s : Sp} {ed : Bool}
set_option maxHeartbeats 1000000 in
theorem next_no (w : World) (h : Sm w B D s td ed) (hk : s.kn = 0) : Calls Try.prog 19 #[.pointer (some ⟨B, 0, none⟩)] w fun e w' => e = .returned (.tuple #[.agg ev0, .bool false]) ∧ Below w.heap.size w w' := by
  obtain ⟨H, hH⟩ : ∃ H, w.heap.size = H := ⟨_, rfl⟩
  have hB := h.lt
  have h1 := h.alloc (.cells ev0 50)
  have hC := Cells.new w ev0 50
  have c2 := h1.k100
  rw [hk] at c2
  rw [hH] at hC hB ⊢
  have hbel : Below H w (w.alloc (.cells ev0 50)) := by rw [← hH]; exact (Below.refl _ w).alloc (Nat.le_refl _) _
  obtain ⟨w1, hw1⟩ : ∃ w1, w.alloc (.cells ev0 50) = w1 := ⟨_, rfl⟩
  rw [hw1] at hC c2 hbel
  have d0 : w1.cell? ⟨H, 0, none⟩ = some (.int .i64 0) := by rw [hC.cell]; rfl
  have d1 : w1.cell? ⟨H, 1, none⟩ = some (.int .u8 0) := by rw [hC.cell]; rfl
  have d2 : w1.cell? ⟨H, 2, none⟩ = some (.int .i64 0) := by rw [hC.cell]; rfl
  have d3 : w1.cell? ⟨H, 3, none⟩ = some (.int .i64 0) := by rw [hC.cell]; rfl
  have d4 : w1.cell? ⟨H, 4, none⟩ = some (.string ⟨#[]⟩) := by rw [hC.cell]; rfl
  have z0 := hC.frozen 0
  have z1 := hC.frozen 1
  have z2 := hC.frozen 2
  have z3 := hC.frozen 3
  have z4 := hC.frozen 4
  have A : Aside (Cells w1 H ev0 50 ∧ Below H w w1) := ⟨hC, hbel⟩
  clear h1 hC hbel h hB hk
  unfold ev0 at hw1
  go_enter Try.func19, Try.ntmps19
  go_upto_region 1 with fail
  clear hw1
  go_wp2_with fail
  (try simp only [Exit.inBlock, Exit.then])
  have hC2 := set5 A.out.1 (.int .i64 0) (.int .u8 0) (.int .i64 0) (.int .i64 0) (.string ⟨#[]⟩)
  have o2 : Only H w1 (((((w1.setCell ⟨H, 0, none⟩ (.int .i64 0)).setCell ⟨H, 1, none⟩ (.int .u8 0)).setCell ⟨H, 2, none⟩ (.int .i64 0)).setCell ⟨H, 3, none⟩ (.int .i64 0)).setCell ⟨H, 4, none⟩ (.string ⟨#[]⟩)) := (((((Only.refl H w1).setCell _ _).setCell _ _).setCell _ _).setCell _ _).setCell _ _
  refine bodyPost_ret (v := .tuple #[.agg ev0, .bool false]) ?_ rfl ?_
  · rw [results_cell_tmp rfl]
    simp [asAddr, Result.andThen, ret50 hC2 rfl, ev0]
  · exact ⟨rfl, A.out.2.trans (o2.below (Nat.le_refl _))⟩
set_option maxHeartbeats 1000000 in
theorem next_yes (g : Nat) (hg : s.hl[td]? = some g) (hg2 : g < 258) (hk : s.kn ≤ s.hl.length) (ht : td < s.kn) (w : World) (h : Sm w B D s td ed) : Calls Try.prog 19 #[.pointer (some ⟨B, 0, none⟩)] w fun e w' => e = .returned (.tuple #[.agg (evv g), .bool true]) ∧ Sm w' B D (if td + 1 = s.kn then tk s else s) (if td + 1 = s.kn then 0 else td + 1) ed ∧ But B w w' := by
  obtain ⟨H, hH⟩ : ∃ H, w.heap.size = H := ⟨_, rfl⟩
  have hB := h.lt
  have h1 := h.alloc (.cells ev0 50)
  have hC := Cells.new w ev0 50
  have htk := take_c g hg hk ht _ h1
  obtain ⟨s2, hs2⟩ : ∃ s2, (if td + 1 = s.kn then tk s else s) = s2 := ⟨_, rfl⟩
  obtain ⟨t2, ht2⟩ : ∃ t2, (if td + 1 = s.kn then 0 else td + 1) = t2 := ⟨_, rfl⟩
  rw [hs2, ht2] at htk ⊢
  have AH : Aside (w.heap.size = H) := hH
  have c2 := h1.k100
  obtain ⟨n, hn⟩ : ∃ n, s.kn = n := ⟨_, rfl⟩
  rw [hn] at c2
  have tn : ((n : Int) == 0) = false := by rw [beq_eq_false_iff_ne]; omega
  rw [hH] at hC hB
  have hbel : But B w (w.alloc (.cells ev0 50)) := But.of_below ((Below.refl _ w).alloc (Nat.le_refl _) _)
  have hsz : (w.alloc (.cells ev0 50)).heap.size = H + 1 := by rw [← hH]; simp
  obtain ⟨w1, hw1⟩ : ∃ w1, w.alloc (.cells ev0 50) = w1 := ⟨_, rfl⟩
  rw [hw1] at hC c2 hbel htk hsz
  have hk0 : evk g = if g = 256 then 1 else if g = 257 then 3 else 2 := rfl
  have hb0 : evb g = if g = 256 then 0 else if g = 257 then 0 else g := rfl
  have hn0 : evn g = if g = 256 then 3 else 0 := rfl
  have A : Aside (Cells w1 H ev0 50 ∧ But B w w1 ∧ B < H ∧ w1.heap.size = H + 1) := ⟨hC, hbel, hB, hsz⟩
  clear h1 hC hbel h hB hk ht hg hs2 ht2 hn hsz
  unfold ev0 at hw1
  go_enter Try.func19, Try.ntmps19
  go_upto_region 1 with fail
  clear hw1
  go_upto_region 4 with (go_at_call 25; refine htk.mono ?_; rintro e1 w2 ⟨rfl, h2, o2⟩)
  have hC := A.out.1.only o2 (by have := A.out; omega)
  have A2 : Aside (Cells w2 H ev0 50 ∧ But B w w2 ∧ B < H ∧ Sm w2 B D s2 t2 ed ∧ w.heap.size ≤ H) := ⟨hC, A.out.2.1.trans (But.of_only o2), A.out.2.2.1, h2, by have := AH.out; omega⟩
  have d0 : w2.cell? ⟨H, 0, none⟩ = some (.int .i64 0) := by rw [hC.cell]; rfl
  have d1 : w2.cell? ⟨H, 1, none⟩ = some (.int .u8 0) := by rw [hC.cell]; rfl
  have d2 : w2.cell? ⟨H, 2, none⟩ = some (.int .i64 0) := by rw [hC.cell]; rfl
  have d3 : w2.cell? ⟨H, 3, none⟩ = some (.int .i64 0) := by rw [hC.cell]; rfl
  have d4 : w2.cell? ⟨H, 4, none⟩ = some (.string ⟨#[]⟩) := by rw [hC.cell]; rfl
  have z0 := hC.frozen 0
  have z1 := hC.frozen 1
  have z2 := hC.frozen 2
  have z3 := hC.frozen 3
  have z4 := hC.frozen 4
  clear hC h2 o2 htk A c2 tn
  have fin : ∀ a b c : Value, Sm (((((w2.setCell ⟨H, 0, none⟩ a).setCell ⟨H, 1, none⟩ b).setCell ⟨H, 2, none⟩ c).setCell ⟨H, 3, none⟩ (.int .i64 0)).setCell ⟨H, 4, none⟩ (.string ⟨#[]⟩)) B D s2 t2 ed ∧ But B w (((((w2.setCell ⟨H, 0, none⟩ a).setCell ⟨H, 1, none⟩ b).setCell ⟨H, 2, none⟩ c).setCell ⟨H, 3, none⟩ (.int .i64 0)).setCell ⟨H, 4, none⟩ (.string ⟨#[]⟩)) := by
    intro a b c
    have a2 := A2.out
    have o3 : Only H w2 (((((w2.setCell ⟨H, 0, none⟩ a).setCell ⟨H, 1, none⟩ b).setCell ⟨H, 2, none⟩ c).setCell ⟨H, 3, none⟩ (.int .i64 0)).setCell ⟨H, 4, none⟩ (.string ⟨#[]⟩)) := (((((Only.refl H w2).setCell _ _).setCell _ _).setCell _ _).setCell _ _).setCell _ _
    refine ⟨a2.2.2.2.1.keep (o3.block B (by omega)), ⟨o3.os.trans a2.2.1.os, o3.tape.trans a2.2.1.tape, o3.output.trans a2.2.1.output, by rw [o3.size]; exact a2.2.1.size, fun k hk hm => ?_⟩⟩
    rw [o3.block k (by have := a2.2.2.2.2; omega)]
    exact a2.2.1.block k hk hm
  have AF : Aside _ := fin
  clear fin
  by_cases h256 : g = 256
  · subst h256
    clear hk0 hb0 hn0 hg2
    go_wp2_with fail
    (try simp only [Exit.inBlock, Exit.then])
    have hC2 := set5 A2.out.1 (.int .i64 1) (.int .u8 0) (.int .i64 3) (.int .i64 0) (.string ⟨#[]⟩)
    refine bodyPost_ret (v := .tuple #[.agg (evv 256), .bool true]) ?_ rfl ?_
    · rw [results_cell_tmp rfl]
      simp [asAddr, Result.andThen, ret50 hC2 rfl, evv, evk, evb, evn]
    · exact ⟨rfl, (AF.out _ _ _).1, (AF.out _ _ _).2⟩
  · by_cases h257 : g = 257
    · subst h257
      clear hk0 hb0 hn0 hg2 h256
      go_wp2_with fail
      (try simp only [Exit.inBlock, Exit.then])
      have hC2 := set5 A2.out.1 (.int .i64 3) (.int .u8 0) (.int .i64 0) (.int .i64 0) (.string ⟨#[]⟩)
      refine bodyPost_ret (v := .tuple #[.agg (evv 257), .bool true]) ?_ rfl ?_
      · rw [results_cell_tmp rfl]
        simp [asAddr, Result.andThen, ret50 hC2 rfl, evv, evk, evb, evn]
      · exact ⟨rfl, (AF.out _ _ _).1, (AF.out _ _ _).2⟩
    · have hv : evv g = #[.int .i64 2, .int .u8 (g : Int), .int .i64 0, .int .i64 0, .string ⟨#[]⟩] := by simp [evv, evk, evb, evn, h256, h257]
      have t1 : ((g : Int) == 256) = false := by rw [beq_eq_false_iff_ne]; omega
      have t2' : ((g : Int) == 257) = false := by rw [beq_eq_false_iff_ne]; omega
      have hw : IntKind.u8.wrap (g : Int) = (g : Int) := by rw [IntKind.wrap_u8]; omega
      have hmod : (g : Int) % 256 = (g : Int) := by omega
      have AV : Aside (evv g = #[.int .i64 2, .int .u8 (g : Int), .int .i64 0, .int .i64 0, .string ⟨#[]⟩]) := hv
      clear hk0 hb0 hn0 hg2 h256 h257 hv
      go_wp2_with fail
      (try simp only [Exit.inBlock, Exit.then])
      have hC2 := set5 A2.out.1 (.int .i64 2) (.int .u8 (g : Int)) (.int .i64 0) (.int .i64 0) (.string ⟨#[]⟩)
      refine bodyPost_ret (v := .tuple #[.agg (evv g), .bool true]) ?_ rfl ?_
      · rw [results_cell_tmp rfl, AV.out]
        simp [asAddr, Result.andThen, ret50 hC2 rfl]
      · exact ⟨rfl, (AF.out _ _ _).1, (AF.out _ _ _).2⟩
theorem end_no (w : World) (h : Sm w B D s td ed) (hn : ed = true ∨ s.kn ≠ 0) : Calls Try.prog 13 #[.pointer (some ⟨B, 0, none⟩)] w fun e w' => e = .returned (.tuple #[]) ∧ w' = w := by
  have hop : Calls Try.prog 18 #[.pointer (some ⟨B, 0, none⟩)] w fun e w' => e = .returned (.bool false) ∧ w = w' := (open_c w h).mono fun e w' k => ⟨by
    rw [k.1]
    rcases hn with rfl | hn
    · rfl
    · simp [hn], k.2.symm⟩
  clear h hn
  go_enter Try.func13, Try.ntmps13
  go_wp2_with (go_at_call 18; refine hop.mono ?_; rintro e1 w1 ⟨rfl, rfl⟩)
  first | go_end0 | (refine bodyPost_ret (results_none rfl _ _ _) rfl ?_) | (rw [Exit.noGoto_ret]; refine bodyPost_ret (results_none rfl _ _ _) rfl ?_)
  exact ⟨rfl, rfl⟩
end
end Go.Proofs.Ytbndohpcaahenab

/-
  A field's text: what bytes.Cut and text come to.
-/
import Derived.Test.YtcmmjbkgoafbnaaGreatDoorWme
import Derived.Test.YtcmmjbkgoafbnaaGreatDoorCut
import Derived.Lib.BytesEntry
namespace Go.Proofs.YtcmmjbkgoafbnaaGreatDoor
open Go.RowKit
set_option linter.unusedVariables false
/-- Where the first nought stands. -/
def idx (l : List Nat) : Int := if 0 ∈ l then ((ttx l).length : Int) else -1
theorem ix_cons (x : Nat) (l : List Nat) : idx (x :: l) = if x = 0 then 0 else if idx l = -1 then -1 else idx l + 1 := by
  unfold idx ttx
  by_cases h : x = 0
  · subst h; simp
  · rw [if_neg h]
    have h2 : (x != 0) = true := by simpa using h
    have h3 : (0 ∈ x :: l) ↔ 0 ∈ l := by simp [Ne.symm h]
    simp only [List.takeWhile_cons, h2, if_true, List.length_cons, h3]
    by_cases h4 : 0 ∈ l
    · rw [if_pos h4, if_pos h4, if_neg (by omega)]; omega
    · rw [if_neg h4, if_neg h4, if_pos rfl]
theorem ix_lib : ∀ (l : List Nat), Oct l → Lib.indexByte (Lib.bytesOf (l.map fun x : Nat => (x : Int))) (0 : Int).toNat.toUInt8 = idx l
  | [], _ => rfl
  | x :: l, h => by
    have ih := ix_lib l fun y hy => h y (List.mem_cons_of_mem _ hy)
    have hx := h x (by simp)
    rw [ix_cons]
    simp only [List.map_cons, Lib.bytesOf, List.map_cons, Lib.indexByte] at ih ⊢
    rw [ih]
    have e : ((UInt8.ofNat ((x : Int)).toNat == (0 : Int).toNat.toUInt8) = true) ↔ x = 0 := by
      have : ∀ y : Fin 256, ((UInt8.ofNat ((y.val : Int)).toNat == (0 : Int).toNat.toUInt8) = true) ↔ y.val = 0 := by decide +kernel
      exact this ⟨x, hx⟩
    by_cases h0 : x = 0
    · rw [if_pos (e.2 h0), if_pos h0]
    · rw [if_neg (fun q => h0 (e.1 q)), if_neg h0]
      simp
theorem idx_facts (l : List Nat) : (idx l = -1 ∧ ttx l = l) ∨ (∃ n : Nat, idx l = (n : Int) ∧ n < l.length ∧ ttx l = l.take n) := by
  unfold idx
  by_cases h : 0 ∈ l
  · right
    rw [if_pos h]
    refine ⟨(ttx l).length, rfl, ?_, ?_⟩
    · have h1 := ttx_len l
      rcases Nat.lt_or_eq_of_le h1 with q | q
      · exact q
      · exfalso
        have e : ttx l = l := (List.takeWhile_sublist _).eq_of_length q
        have := h
        rw [← e] at this
        have h2 := List.all_takeWhile (p := fun x : Nat => x != 0) (l := l)
        rw [List.all_eq_true] at h2
        have := h2 0 this
        simp at this
    · obtain ⟨t, ht⟩ := List.takeWhile_prefix (p := fun x : Nat => x != 0) (l := l)
      have e : l = ttx l ++ t := ht.symm
      have : (ttx l ++ t).take (ttx l).length = ttx l := List.take_left' rfl
      rw [← e] at this
      exact this.symm
  · left
    rw [if_neg h]
    refine ⟨rfl, ?_⟩
    have tw : ∀ m : List Nat, 0 ∉ m → ttx m = m := by
      intro m
      induction m with
      | nil => intro _; rfl
      | cons x r ih =>
        intro hm
        have h1 : x ≠ 0 := fun e => hm (by rw [e]; simp)
        have h2 : 0 ∉ r := fun e => hm (List.mem_cons_of_mem _ e)
        have := ih h2
        unfold ttx at this ⊢
        rw [List.takeWhile_cons, if_pos (by simpa using h1), this]
    exact tw l h
section
variable {b o : Nat} {l : List Nat} {L C : Nat}
theorem index80 (w : World) (hL : l.length = L) (ho : Oct l) (hc : ∀ (i x : Nat), l[i]? = some x → w.cell? ⟨b, o + i, none⟩ = some (.int .u8 (x : Int))) :
    (callFunc 75 #[.slice (some ⟨b, o, none⟩) L C, .int .u8 0]).run Tryz.prog w = .ok (.value (.int .i64 (idx l))) w := by
  rw [run_callFunc_extern Tryz.func75 (by kernel_rfl) (by kernel_rfl) (by kernel_rfl) (e := Extern.BytealgIndexByte.indexByte) (by kernel_rfl), Lib.run_indexByteSlice w b o L C (l.map fun x : Nat => (x : Int)) (by simp [hL]) (fun i hi => by
    have hi2 : i < l.length := by omega
    rw [hc i l[i] (List.getElem?_eq_getElem hi2)]
    simp [List.getD_eq_getElem?_getD, hi2]), ix_lib l ho]
  rfl
theorem index74 (w : World) (hL : l.length = L) (ho : Oct l) (hc : ∀ (i x : Nat), l[i]? = some x → w.cell? ⟨b, o + i, none⟩ = some (.int .u8 (x : Int))) : Calls Tryz.prog 69 #[.slice (some ⟨b, o, none⟩) L C, .int .u8 0] w fun e w' => e = .returned (.int .i64 (idx l)) ∧ w' = w := by
  have h := index80 (C := C) w hL ho hc
  generalize idx l = i at *
  clear hL ho hc
  go_enter Tryz.func69, Tryz.ntmps69
  go_wp2
  go_ret
  exact ⟨rfl, rfl⟩
set_option maxRecDepth 20000 in
theorem index72 (g c1 : Nat) (w : World) (hL : l.length = L) (ho : Oct l) (hc : ∀ (i x : Nat), l[i]? = some x → w.cell? ⟨b, o + i, none⟩ = some (.int .u8 (x : Int))) (hg : w.cell? ⟨g, 0, none⟩ = some (.int .u8 0)) : Calls Tryz.prog 67 #[.slice (some ⟨b, o, none⟩) L C, .slice (some ⟨g, 0, none⟩) 1 c1] w fun e w' => e = .returned (.int .i64 (idx l)) ∧ w' = w := by
  have h := index74 (C := C) w hL ho hc
  generalize idx l = i at *
  clear hL ho hc
  go_enter Tryz.func67, Tryz.ntmps67
  go_wp2_with (go_at_call 69; refine h.mono ?_; rintro e1 w1 ⟨rfl, rfl⟩)
  first | go_ret | go_ret2
  exact ⟨rfl, rfl⟩
set_option maxRecDepth 20000 in
theorem cut69 (g c1 : Nat) (w : World) (hL : l.length = L) (ho : Oct l) (hLC : L ≤ C) (hC : C < 1000000000000) (hc : ∀ (i x : Nat), l[i]? = some x → w.cell? ⟨b, o + i, none⟩ = some (.int .u8 (x : Int))) (hg : w.cell? ⟨g, 0, none⟩ = some (.int .u8 0)) : Calls Tryz.prog 64 #[.slice (some ⟨b, o, none⟩) L C, .slice (some ⟨g, 0, none⟩) 1 c1] w fun e w' => ∃ x y n c, e = .returned (.tuple #[.slice (some ⟨b, o, none⟩) n c, x, y]) ∧ n = (ttx l).length ∧ Below w.heap.size w w' := by
  have h := index72 (C := C) g c1 w hL ho hc hg
  rcases idx_facts l with ⟨h1, h2⟩ | ⟨n, h1, h2, h3⟩
  · rw [h1] at h
    have A : Aside (L = (ttx l).length) := by show L = _; rw [h2, hL]
    clear hL ho hc hg h1 h2 hLC hC
    go_enter Tryz.func64, Tryz.ntmps64
    go_wp2_with (go_at_call 67; refine h.mono ?_; rintro e1 w1 ⟨rfl, rfl⟩)
    go_ret3
    exact ⟨_, _, _, _, rfl, A.out, Below.refl _ _⟩
  · rw [h1] at h
    have A : Aside (n = (ttx l).length) := by show n = _; rw [h3, List.length_take]; omega
    have hn : n + 1 ≤ L := by omega
    by_cases hC2 : C = n + 1
    · subst hC2
      have q1 : ((n : Int) + 1) ≤ (L : Int) := by omega
      have q2 : (L : Int) ≤ (n : Int) + 1 := by omega
      have q3 : (n : Int) < 1000000000000 := by omega
      have q4 : (0 : Int) ≤ (n : Int) := by omega
      have e5 : L = n + 1 := by omega
      subst e5
      clear hL ho hc hg h1 h2 h3 hLC hC hn
      go_enter Tryz.func64, Tryz.ntmps64
      go_upto_region 3 with (go_at_call 67; refine h.mono ?_; rintro e1 w1 ⟨rfl, rfl⟩)
      go_region
      all_goals go_wp2_with fail
      all_goals go_ret3
      all_goals exact ⟨_, _, _, _, rfl, A.out, Below.drewN2 (Below.refl _ _) _⟩
    · have q1 : ((n : Int) + 1) ≤ (L : Int) := by omega
      have q2 : (L : Int) ≤ (C : Int) := by omega
      have q3 : (C : Int) < 1000000000000 := by omega
      have q4 : (0 : Int) ≤ (n : Int) := by omega
      have q5 : ¬ ((C : Int) = (n : Int) + 1) := by omega
      clear hL ho hc hg h1 h2 h3 hLC hC hn
      go_enter Tryz.func64, Tryz.ntmps64
      go_upto_region 3 with (go_at_call 67; refine h.mono ?_; rintro e1 w1 ⟨rfl, rfl⟩)
      go_region
      all_goals go_wp2_with fail
      all_goals go_ret3
      all_goals exact ⟨_, _, _, _, rfl, A.out, Below.drewN2 (Below.refl _ _) _⟩
theorem ttx_take (l : List Nat) : ttx l = l.take (ttx l).length := by
  rcases idx_facts l with ⟨_, h⟩ | ⟨n, _, h2, h⟩
  · rw [h, List.take_length]
  · rw [h, List.length_take, Nat.min_eq_left (by omega)]
theorem lies_ttx {w : World} (hc : ∀ (i x : Nat), l[i]? = some x → w.cell? ⟨b, o + i, none⟩ = some (.int .u8 (x : Int))) : Lies w (some ⟨b, o, none⟩) (ttx l) := Or.inr ⟨b, o, rfl, fun i x hx => by
  rw [ttx_take] at hx
  rw [List.getElem?_take] at hx
  split at hx
  · exact hc i x hx
  · cases hx⟩
set_option maxRecDepth 20000 in
theorem text_c (w : World) (hL : l.length = L) (ho : Oct l) (hLC : L ≤ C) (hC : C < 1000000000000) (hb : b < w.heap.size) (hc : ∀ (i x : Nat), l[i]? = some x → w.cell? ⟨b, o + i, none⟩ = some (.int .u8 (x : Int))) : Calls Tryz.prog 58 #[.slice (some ⟨b, o, none⟩) L C] w fun e w' => e = .returned (.string (st (ttx l))) ∧ Below w.heap.size w w' := by
  have A : Aside (l.length = L ∧ Oct l ∧ L ≤ C ∧ C < 1000000000000 ∧ b < w.heap.size ∧ ∀ (i x : Nat), l[i]? = some x → w.cell? ⟨b, o + i, none⟩ = some (.int .u8 (x : Int))) := ⟨hL, ho, hLC, hC, hb, hc⟩
  obtain ⟨g, hg⟩ : ∃ g, w.heap.size = g := ⟨_, rfl⟩
  obtain ⟨w1, hw1⟩ : ∃ w1, w.alloc (.cells #[.int .u8 0] 5) = w1 := ⟨_, rfl⟩
  have b1 : Below w.heap.size w w1 := by rw [← hw1]; exact (Below.refl _ w).alloc (Nat.le_refl _) _
  have k1 : Cells w1 g #[.int .u8 0] 5 := by rw [← hw1, ← hg]; exact Cells.new w _ 5
  have hc1 : ∀ (i x : Nat), l[i]? = some x → w1.cell? ⟨b, o + i, none⟩ = some (.int .u8 (x : Int)) := fun i x hx => by
    rw [World.cell?_of_block (w := w) (b1.block b hb)]; exact hc i x hx
  have h := cut69 (C := C) g 1 w1 hL ho hLC hC hc1 (k1.cell 0)
  have A2 : Aside (w.alloc (.cells #[.int .u8 0] 5) = w1 ∧ w.heap.size = g ∧ Below w.heap.size w w1) := ⟨hw1, hg, b1⟩
  clear hL ho hLC hC hb hc hc1 k1 b1 hw1 hg
  go_enter Tryz.func58, Tryz.ntmps58
  go_upto_region 2 with (go_at_call 64; rw [A2.out.1, A2.out.2.1]; refine h.mono ?_; rintro e1 w2 ⟨x, y, n, c, rfl, hn, b2⟩)
  have a1 := A.out
  have bb : Below w.heap.size w w2 := A2.out.2.2.trans (b2.mono A2.out.2.2.size)
  have hcv : (convert 22 9 (.slice (some ⟨b, o, none⟩) (ttx l).length c)).run Tryz.prog w2 = .ok (.string (st (ttx l))) w2 := conv_st (ttx l).length c rfl (oct_ttx a1.2.1) (lies_ttx (fun i x hx => by rw [World.cell?_of_block (w := w) (bb.block b a1.2.2.2.2.1)]; exact a1.2.2.2.2.2 i x hx))
  have AB : Aside (Below w.heap.size w w2) := bb
  clear a1 bb hn b2 h A
  go_wp2_with fail
  first | go_ret | go_ret2
  exact ⟨rfl, AB.out⟩
end
end Go.Proofs.YtcmmjbkgoafbnaaGreatDoor

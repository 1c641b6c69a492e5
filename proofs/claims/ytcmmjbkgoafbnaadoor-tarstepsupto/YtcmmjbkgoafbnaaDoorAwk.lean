/-
  What awake comes to.
-/
import Derived.Test.YtcmmjbkgoafbnaaDoorMl
import Derived.Test.YtcmmjbkgoafbnaaDoorWwl
import Derived.Test.YtcmmjbkgoafbnaaDoorMk
import Derived.Lib.SlBytesConst
namespace Go.Proofs.YtcmmjbkgoafbnaaDoor
open Go.RowKit
set_option linter.unusedVariables false
/-- The archive that awake asks of. -/
def exl : List Ent := [([97], [97, 98, 99], 0, 0), ([98], [], 1, 0)]
theorem exl_ok : ∀ e ∈ exl, Eok e := fun e he => by
  unfold exl at he
  simp only [List.mem_cons, List.not_mem_nil, or_false] at he
  rcases he with rfl | rfl
  · exact ⟨by unfold Oct; decide, by decide, by unfold Oct; decide, by decide, by decide, by decide⟩
  · exact ⟨by unfold Oct; decide, by decide, by unfold Oct; decide, by decide, by decide, by decide⟩
theorem exl_n : tdn exl = [[97], [98]] := by decide
theorem exl_d : tdd exl = [[97, 98, 99], []] := by decide
set_option maxRecDepth 100000 in
set_option maxHeartbeats 1000000 in
theorem awake_c (w : World) (he : Er w) : Calls Tryd.prog 16 #[] w fun e w' => e = .returned (.bool true) ∧ Below w.heap.size w w' := by
  obtain ⟨H, hH⟩ : ∃ H, w.heap.size = H := ⟨_, rfl⟩
  obtain ⟨w1, hw1⟩ : ∃ w1, w1 = w.alloc (.cells #[.int .u8 97, .int .u8 98, .int .u8 99] 5 (3, 4)) := ⟨_, rfl⟩
  have b1 : Below w.heap.size w w1 := by rw [hw1]; exact (Below.refl _ w).alloc (Nat.le_refl _) _
  have hz1 : w1.heap.size = H + 1 := by rw [hw1, ← hH]; simp
  have hc1 : ∀ i x, (#[.int .u8 97, .int .u8 98, .int .u8 99] : Array Value)[i]? = some x → w1.cell? ⟨H, i, none⟩ = some x := fun i x hx => by
    rw [hw1, ← hH]
    simp only [World.cell?, World.alloc]
    simp [hx]
  obtain ⟨w2, hw2⟩ : ∃ w2, w2 = w1.alloc (.cells #[.string ⟨#[97]⟩, .slice (some ⟨H, 0, none⟩) 3 3, .int .u8 0, .int .u8 0, .string ⟨#[98]⟩, .slice none 0 0, .int .u8 1, .int .u8 0] 54) := ⟨_, rfl⟩
  have b2 : Below w1.heap.size w1 w2 := by rw [hw2]; exact (Below.refl _ w1).alloc (Nat.le_refl _) _
  have hz2 : w2.heap.size = H + 2 := by rw [hw2]; simp [hz1]
  have hc2 : Cells w2 (H + 1) #[.string ⟨#[97]⟩, .slice (some ⟨H, 0, none⟩) 3 3, .int .u8 0, .int .u8 0, .string ⟨#[98]⟩, .slice none 0 0, .int .u8 1, .int .u8 0] 54 := by rw [hw2, ← hz1]; exact Cells.new w1 _ 54
  have hc12 : ∀ i x, (#[.int .u8 97, .int .u8 98, .int .u8 99] : Array Value)[i]? = some x → w2.cell? ⟨H, i, none⟩ = some x := fun i x hx => (b2.cell (p := ⟨H, i, none⟩) (World.block_lt_of_cell? w1 _ (hc1 i x hx))).trans (hc1 i x hx)
  have hEm : Em w2 (some ⟨H + 1, 0, none⟩) exl := Or.inr ⟨H + 1, 0, rfl, fun i e hi => by
    cases i with
    | zero =>
      have : e = ([97], [97, 98, 99], 0, 0) := by simpa [exl] using hi.symm
      subst this
      refine ⟨⟨some ⟨H, 0, none⟩, 3, 3, ?_, ?_, ?_, ?_, ?_, rfl, Nat.le_refl _, fun q => by cases q⟩⟩
      · rw [hc2.cell]; rfl
      · rw [hc2.cell]; rfl
      · rw [hc2.cell]; rfl
      · rw [hc2.cell]; rfl
      · refine Or.inr ⟨H, 0, rfl, fun j x hx => ?_⟩
        rw [Nat.zero_add]
        refine hc12 j _ ?_
        match j, hx with
        | 0, hx => simp at hx; subst hx; rfl
        | 1, hx => simp at hx; subst hx; rfl
        | 2, hx => simp at hx; subst hx; rfl
        | j + 3, hx => simp at hx
    | succ i =>
      cases i with
      | zero =>
        have : e = ([98], [], 1, 0) := by simpa [exl] using hi.symm
        subst this
        refine ⟨⟨none, 0, 0, ?_, ?_, ?_, ?_, ?_, rfl, Nat.le_refl _, fun _ => ⟨rfl, rfl⟩⟩⟩
        · rw [hc2.cell]; rfl
        · rw [hc2.cell]; rfl
        · rw [hc2.cell]; rfl
        · rw [hc2.cell]; rfl
        · exact Or.inl rfl
      | succ i => simp [exl] at hi⟩
  have hwr := write_c (some ⟨H + 1, 0, none⟩) exl 2 2 w2 rfl (by decide) hEm exl_ok
  have A : Aside (Below w.heap.size w w2 ∧ w.heap.size = H ∧ w2.heap.size = H + 2 ∧ Er w ∧ 3 ≤ w.heap.size) := ⟨b1.trans (b2.mono b1.size), hH, hz2, he, he.1⟩
  have hw2' : w1.alloc (.cells #[.string ⟨#[97]⟩, .slice (some ⟨H, 0, none⟩) 3 3, .int .u8 0, .int .u8 0, .string ⟨#[98]⟩, .slice none 0 0, .int .u8 1, .int .u8 0] 54) = w2 := hw2.symm
  have hcv : (convert 22 22 (.slice (some ⟨H, 0, none⟩) 3 3)).run Tryd.prog (w.alloc (.cells #[.int .u8 97, .int .u8 98, .int .u8 99] 5)) = .ok (.slice (some ⟨H, 0, none⟩) 3 3) w1 := by
    rw [hw1, ← hH]
    exact Lib.run_convert_bytes_const w 22 5 _ 3 3 Tryd.underlying22 Tryd.underlying5
  clear b1 b2 hz2 hc1 hc2 hc12 hEm hw1 hw2 he
  go_enter Tryd.func16, Tryd.ntmps16
  go_upto_region 2 with (first
    | (go_at_call 19; refine hwr.mono ?_; rintro e3 w3 ⟨v3, rfl, ow3, b3⟩; obtain ⟨a3, c3, hv3, hl3, hc3, hli3, hn3⟩ := ow3.lies; subst hv3; obtain ⟨sx, Tx, hrx, hzx, hpx⟩ := back_run exl_ok; have hwh := wwhole_c w3 (A.out.2.2.2.1.below (A.out.1.trans (b3.mono A.out.1.size)) (by have := A.out.2.2.2.2; omega)) a3 (wri exl) (wri exl).length c3 hli3 rfl (by have := wri_len exl_ok (by decide); omega) (wri_oct exl_ok) _ sx Tx hrx (Or.inr rfl) _ hpx 0 hzx)
    | (go_at_call 18; refine hwh.mono ?_; rintro e4 w4 ⟨vn, vl, lo2, rfl, hlo2, nn4, ll4, bel4⟩))
  rw [exl_n] at nn4
  rw [exl_d] at ll4
  obtain ⟨an, cn, hvn, hcn, nl4, _⟩ := nn4.nl
  subst hvn
  obtain ⟨al, cl, hvl, _⟩ := ll4.shape
  subst hvl
  obtain ⟨g, a5, c5, hg, k0, li0, _, _⟩ := ll4.at rfl (i := 0) (l := [97, 98, 99]) rfl
  subst hg
  obtain ⟨g2, a6, c6, hg2, k1, li1, _, _⟩ := ll4.at rfl (i := 1) (l := []) rfl
  cases hg2
  obtain ⟨H4, hH4⟩ : ∃ H4, w4.heap.size = H4 := ⟨_, rfl⟩
  obtain ⟨w5, hw5⟩ : ∃ w5, w5 = w4.alloc (.cells #[.string ⟨#[97]⟩, .string ⟨#[98]⟩] 9) := ⟨_, rfl⟩
  have b5 : Below w4.heap.size w4 w5 := by rw [hw5]; exact (Below.refl _ w4).alloc (Nat.le_refl _) _
  have hc5 : Cells w5 H4 #[.string ⟨#[97]⟩, .string ⟨#[98]⟩] 9 := by rw [hw5, ← hH4]; exact Cells.new w4 _ 9
  have nl5 : Nl w5 (some ⟨H4, 0, none⟩) [[97], [98]] := Or.inr ⟨H4, 0, rfl, fun i x hx => by
    rw [Nat.zero_add, hc5.cell]
    match i, hx with
    | 0, hx => simp at hx; subst hx; rfl
    | 1, hx => simp at hx; subst hx; rfl
    | i + 2, hx => simp at hx⟩
  have hstr : Calls Tryd.prog 21 #[.slice an 2 cn, .slice (some ⟨H4, 0, none⟩) 2 2] w5 fun e w' => e = .returned (.bool true) ∧ ∃ m, w' = w5.drewN m := strings_c w5 an (some ⟨H4, 0, none⟩) [[97], [98]] 2 cn 2 rfl (by decide) (nl4.below b5) nl5
  have k05 : ∀ m, (w5.drewN m).cell? ⟨g, 0, none⟩ = some (.slice a5 3 c5) := fun m => (b5.cell (p := ⟨g, 0, none⟩) (World.block_lt_of_cell? w4 _ k0)).trans k0
  have k15 : ∀ m, (w5.drewN m).cell? ⟨g, 1, none⟩ = some (.slice a6 0 c6) := fun m => (b5.cell (p := ⟨g, 1, none⟩) (World.block_lt_of_cell? w4 _ k1)).trans k1
  have hcs : ∀ m, (convert 22 9 (.slice a5 3 c5)).run Tryd.prog (w5.drewN m) = .ok (.string ⟨#[97, 98, 99]⟩) (w5.drewN m) := fun m => conv_st 3 c5 rfl (show ∀ x ∈ [97, 98, 99], x < 256 by decide) ((li0.below b5).drewN m)
  have A5 : Aside (Below w.heap.size w w5) := (A.out.1.trans (b3.mono A.out.1.size)).trans ((bel4.trans (b5.mono bel4.size)).mono (by have := A.out.1.size; have := b3.size; omega))
  have hw5' : w4.alloc (.cells #[.string ⟨#[97]⟩, .string ⟨#[98]⟩] 9) = w5 := hw5.symm
  clear hwr hwh hrx hzx hpx ow3 hli3 hc3 hn3 hl3 nn4 ll4 nl4 k0 k1 li0 li1 b5 hc5 nl5 hw5 hw2' hcv hz1 hH bel4 b3 hlo2
  go_wp2_with (go_at_call 21; refine hstr.mono ?_; rintro e6 w6 ⟨rfl, m6, rfl⟩; have k06 := k05 m6; have k16 := k15 m6; have hc6 := hcs m6)
  first | go_ret | go_ret2
  exact ⟨rfl, Below.drewN2 A5.out _⟩
end Go.Proofs.YtcmmjbkgoafbnaaDoor

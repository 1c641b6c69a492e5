/-
  Own texts of this seat, one behind the other: what each says stands ahead of it.
-/
import Derived.Test.YtpihipbeagpgpaaGreatDoorMw
import Derived.Deep.RegionWith
import Derived.Test.YtpihipbeagpgpaaGreatDoorMr
import Derived.Test.YtpihipbeagpgpaaGreatDoorMs
import Derived.Test.YtpihipbeagpgpaaGreatDoorMt
import Derived.Lib.SlBytesConst
/-
 What the document's one comes to, at the deflated entry of awake.
-/
namespace Go.Proofs.YtpihipbeagpgpaaGreatDoor
open Go.RowKit
set_option linter.unusedVariables false
def enB : Ent := ⟨[98], [97, 98, 99, 97, 98, 99, 97, 98, 99], [], 3⟩
structure Ona (w : World) (e : Ending) (w' : World) : Prop where
 ex : ∃ z n, Holds MM z enB.da ∧ Oct z ∧ z.length ≤ 100000000 ∧ (Ent.one enB z).length = n ∧ Oa (Ent.one enB z) n w e w'
structure Dfa (g : Nat) (u : World) (e : Ending) (w' : World) : Prop where
 ex : ∃ za zl zc z, e = .returned (.slice za zl zc) ∧ z.length = zl ∧ zl ≤ 100000000 ∧ Oct z ∧ Holds MM z [97, 98, 99, 97, 98, 99, 97, 98, 99] ∧ Lies w' za z ∧ (za = none → zl = 0 ∧ zc = 0) ∧ Below u.heap.size u w'
theorem dfl_b (u : World) (g : Nat) (hl : Lies u (some ⟨g, 0, none⟩) [97, 98, 99, 97, 98, 99, 97, 98, 99]) (h4 : 4 ≤ u.heap.size) : Calls Tryz.prog 51 #[.slice (some ⟨g, 0, none⟩) 9 9, .slice none 0 0] u fun e w' => Dfa g u e w' := by
 have := deflate0_c MM u (some ⟨g, 0, none⟩) [97, 98, 99, 97, 98, 99, 97, 98, 99] 9 9 hl rfl (by decide) (oct_dec rfl) none [] 0 0 (Or.inl rfl) rfl rfl (by decide) (fun p hp => by cases hp) h4 (by unfold MM; decide)
 refine this.mono fun e w' ⟨v, z, he, ho, hh, hz, hb, bel⟩ => ?_
 obtain ⟨za, zc, hv, h1, h2, h3⟩ := ho.shape
 exact ⟨za, z.length, zc, z, by rw [he, hv], rfl, hb, hz, hh, h2, h3, bel⟩
set_option maxRecDepth 100000 in
set_option maxHeartbeats 8000000 in
theorem oneB_c (w : World) (hct : Ctab w) (h9 : 9 ≤ w.heap.size) (g : Nat) (hli : Lies w (some ⟨g, 0, none⟩) [97, 98, 99, 97, 98, 99, 97, 98, 99]) : Calls Tryz.prog 33 #[.agg #[.string ⟨#[98]⟩, .slice (some ⟨g, 0, none⟩) 9 9, .slice none 0 0, .int .u8 3]] w fun e w' => Ona w e w' := by
 obtain ⟨H, hH⟩ : ∃ H, w.heap.size = H := ⟨_, rfl⟩
 obtain ⟨w1, hw1⟩ : ∃ w1, w.alloc (.cells #[.string ⟨#[98]⟩, .slice (some ⟨g, 0, none⟩) 9 9, .slice none 0 0, .int .u8 3] 57) = w1 := ⟨_, rfl⟩
 have kH : Cells w1 H #[.string ⟨#[98]⟩, .slice (some ⟨g, 0, none⟩) 9 9, .slice none 0 0, .int .u8 3] 57 := by rw [← hw1, ← hH]; exact Cells.new w _ 57
 have b1 : Below H w w1 := by rw [← hw1, ← hH]; exact (Below.refl _ w).alloc (Nat.le_refl _) _
 have d0 : w1.cell? ⟨H, 0, none⟩ = some (.string ⟨#[98]⟩) := (kH.cell 0).trans rfl
 have d1 : w1.cell? ⟨H, 1, none⟩ = some (.slice (some ⟨g, 0, none⟩) 9 9) := (kH.cell 1).trans rfl
 have d2 : w1.cell? ⟨H, 2, none⟩ = some (.slice none 0 0) := (kH.cell 2).trans rfl
 have d3 : w1.cell? ⟨H, 3, none⟩ = some (.int .u8 3) := (kH.cell 3).trans rfl
 have li1 : Lies w1 (some ⟨g, 0, none⟩) [97, 98, 99, 97, 98, 99, 97, 98, 99] := hli.below (by rw [hH]; exact b1)
 obtain ⟨su, hsu⟩ : ∃ su, sm 0 [97, 98, 99, 97, 98, 99, 97, 98, 99] = su := ⟨_, rfl⟩
 have hsb : su < 4294967296 := by rw [← hsu]; exact (show Oct [97, 98, 99, 97, 98, 99, 97, 98, 99] from oct_dec rfl).sm_lt
 have hmu : (su : Int) % 18446744073709551616 = (su : Int) := by omega
 have kSu : ∀ u, Lies u (some ⟨g, 0, none⟩) [97, 98, 99, 97, 98, 99, 97, 98, 99] → Calls Tryz.prog 50 #[.slice (some ⟨g, 0, none⟩) 9 9] u fun e w' => e = .returned (.int .u32 (su : Int)) ∧ w' = u := fun u hu => by
  have := rsum_c (some ⟨g, 0, none⟩) [97, 98, 99, 97, 98, 99, 97, 98, 99] 9 u (oct_dec rfl) (by decide) hu
  rw [hsu] at this
  exact this.mono fun e w' ⟨x, y⟩ => ⟨x, y.symm⟩
 have ksu := kSu w1 li1
 have AkS : Aside (∀ u, Lies u (some ⟨g, 0, none⟩) [97, 98, 99, 97, 98, 99, 97, 98, 99] → Calls Tryz.prog 50 #[.slice (some ⟨g, 0, none⟩) 9 9] u fun e w' => e = .returned (.int .u32 (su : Int)) ∧ w' = u) := kSu
 have A9 : Aside (9 ≤ H) := by rw [← hH]; exact h9
 have kt : ∀ u, Calls Tryz.prog 34 #[.agg #[.string ⟨#[98]⟩, .slice (some ⟨g, 0, none⟩) 9 9, .slice none 0 0, .int .u8 3]] u fun e w' => e = .returned (.bool true) ∧ Below u.heap.size u w' := fun u => told34_c _ _ _ 3 (by decide) u
 have A1 : Aside (w.heap.size = H ∧ Below H w w1 ∧ Cells w1 H #[.string ⟨#[98]⟩, .slice (some ⟨g, 0, none⟩) 9 9, .slice none 0 0, .int .u8 3] 57 ∧ Lies w1 (some ⟨g, 0, none⟩) [97, 98, 99, 97, 98, 99, 97, 98, 99]) := ⟨hH, b1, kH, li1⟩
 have A8 : Aside (w.heap.size = H ∧ sm 0 [97, 98, 99, 97, 98, 99, 97, 98, 99] = su) := ⟨hH, hsu⟩
 clear kH b1 li1 hli hct h9 hsu kSu
 go_enter Tryz.func33, Tryz.ntmps33
 go_upto_region 1 with fail
 (try rw [hH])
 (try rw [hw1])
 clear hw1 hH
 go_upto_region 4 with (go_at_call 50; refine ksu.mono ?_; rintro e2 w2 ⟨rfl, h2⟩; subst h2)
 rw [show (⟨#[98]⟩ : ByteArray).extract 0 1 = ⟨#[98]⟩ from rfl]
 have AF : Aside (∀ u, Below w2.heap.size w2 u → (u.cell? ⟨H, 0, none⟩ = some (.string ⟨#[98]⟩) ∧ u.cell? ⟨H, 1, none⟩ = some (.slice (some ⟨g, 0, none⟩) 9 9) ∧ u.cell? ⟨H, 2, none⟩ = some (.slice none 0 0) ∧ u.cell? ⟨H, 3, none⟩ = some (.int .u8 3)) ∧ Cells u H #[.string ⟨#[98]⟩, .slice (some ⟨g, 0, none⟩) 9 9, .slice none 0 0, .int .u8 3] 57 ∧ Lies u (some ⟨g, 0, none⟩) [97, 98, 99, 97, 98, 99, 97, 98, 99] ∧ Below H w u) := fun u k => by
  obtain ⟨x1, x2, x3, x4⟩ := A1.out
  have c := x3.below k x3.lt
  exact ⟨⟨(c.cell 0).trans rfl, (c.cell 1).trans rfl, (c.cell 2).trans rfl, (c.cell 3).trans rfl⟩, c, x4.below k, x2.trans (k.mono (by have := x2.size; omega))⟩
 clear ksu
 go_upto_region 10 with (first
  | (have q := AF; go_at_call 34; refine (kt _).mono ?_; rintro e3 w3 ⟨rfl, b3⟩; have hq := AF.out w3 b3; obtain ⟨d0, d1, d2, d3⟩ := hq.1; have AF3 : Aside (∀ u, Below w3.heap.size w3 u → _) := (fun u k => AF.out u (b3.trans (k.mono b3.size))); have kd := dfl_b w3 g hq.2.2.1 (by have := A9.out; have := hq.2.1.lt; omega); clear AF A1 hq q)
  | (have q := AF3; go_at_call 51; refine kd.mono ?_; intro e4 w4 hd4; obtain ⟨za, zl, zc, z, he4, hz1, hz2, hz3, hz4, hz5, hz6, b4⟩ := hd4.ex; subst he4; have hq := AF3.out w4 b4; obtain ⟨d0, d1, d2, d3⟩ := hq.1; have AF4 : Aside (∀ u, Below w4.heap.size w4 u → _) := (fun u k => AF3.out u (b4.trans (k.mono b4.size))); have AZ0 : Aside (z.length = zl ∧ zl ≤ 100000000 ∧ Oct z ∧ Holds MM z [97, 98, 99, 97, 98, 99, 97, 98, 99] ∧ Lies w4 za z ∧ (za = none → zl = 0 ∧ zc = 0)) := ⟨hz1, hz2, hz3, hz4, hz5, hz6⟩; clear AF3 kd hd4 hz1 hz3 hz4 hz5 hz6 hq q)
  | (have q := AF4; go_at_call 34; refine (kt _).mono ?_; rintro e3 w3 ⟨rfl, b5⟩; have hq := AF4.out w3 b5; obtain ⟨d0, d1, d2, d3⟩ := hq.1; have AG : Aside _ := hq.2; have AZl : Aside (Lies w3 za z) := AZ0.out.2.2.2.2.1.below b5; clear AF4 hq q))
 have hmz : (zl : Int) % 18446744073709551616 = (zl : Int) := by omega
 have bzl : (zl : Int) ≤ 100000000 := by omega
 clear kt
 go_quiet (fail)
 go_upto_region 11 with fail
 generalize hwy : World.drewN w3 _ = wy
 have AH : Aside (Cells wy H #[.string ⟨#[98]⟩, .slice (some ⟨g, 0, none⟩) 9 9, .slice none 0 0, .int .u8 3] 57 ∧ Lies wy (some ⟨g, 0, none⟩) [97, 98, 99, 97, 98, 99, 97, 98, 99] ∧ Below H w wy) := by
  rw [← hwy]
  exact ⟨AG.out.1.drewN _, AG.out.2.1.drewN _, below_drewN AG.out.2.2 _⟩
 have AZ4 : Aside (Lies wy za z) := by rw [← hwy]; exact AZl.out.drewN _
 have d0 : wy.cell? ⟨H, 0, none⟩ = some (.string ⟨#[98]⟩) := (AH.out.1.cell 0).trans rfl
 have d1 : wy.cell? ⟨H, 1, none⟩ = some (.slice (some ⟨g, 0, none⟩) 9 9) := (AH.out.1.cell 1).trans rfl
 have d2 : wy.cell? ⟨H, 2, none⟩ = some (.slice none 0 0) := (AH.out.1.cell 2).trans rfl
 have d3 : wy.cell? ⟨H, 3, none⟩ = some (.int .u8 3) := (AH.out.1.cell 3).trans rfl
 clear hwy AG AZl
 refine wp_region_held_drew (S := fun u => u.cell? ⟨H, 3, none⟩ = some (.int .u8 3)) (by kernel_rfl) d3 (fun hHeld => ?_)
 refine wpAnyH_take (i := 6) (oi := ⟨_, _, _, _, _, _⟩) (v := ?_) rfl (by kernel_rfl) (by kernel_rfl) (by kernel_rfl) (fun _ _ _ h => h) (Or.inl ⟨by rfl, ?_⟩) hHeld ?_
 rotate_left
 ·(intro w9 hSw; (try dsimp only at hSw); go_simp; try (with_reducible rfl))
 try simp only [Act.put, List.setIfInBounds_toArray, List.set_cons_zero, List.set_cons_succ]
 refine wpAnyH_take (i := 0) (oi := ⟨_, _, _, _, _, _⟩) (v := ?_) rfl (by kernel_rfl) (by kernel_rfl) (by kernel_rfl) (fun _ _ _ h => h) (Or.inl ⟨by rfl, ?_⟩) hHeld ?_
 rotate_left
 ·(intro w9 hSw; (try dsimp only at hSw); go_simp; try (with_reducible rfl))
 try simp only [Act.put, List.setIfInBounds_toArray, List.set_cons_zero, List.set_cons_succ]
 refine wpAnyH_take (i := 1) (oi := ⟨_, _, _, _, _, _⟩) (v := ?_) rfl (by kernel_rfl) (by kernel_rfl) (by kernel_rfl) (fun _ _ _ h => h) (Or.inl ⟨by rfl, ?_⟩) hHeld ?_
 rotate_left
 ·(intro w9 hSw; (try dsimp only at hSw); go_simp; try (with_reducible rfl))
 try simp only [Act.put, List.setIfInBounds_toArray, List.set_cons_zero, List.set_cons_succ]
 refine wpAnyH_take (i := 2) (oi := ⟨_, _, _, _, _, _⟩) (v := ?_) rfl (by kernel_rfl) (by kernel_rfl) (by kernel_rfl) (fun _ _ _ h => h) (Or.inl ⟨by rfl, ?_⟩) hHeld ?_
 rotate_left
 ·(intro w9 hSw; (try dsimp only at hSw); go_simp; try (with_reducible rfl))
 try simp only [Act.put, List.setIfInBounds_toArray, List.set_cons_zero, List.set_cons_succ]
 refine wpAnyH_take (i := 3) (oi := ⟨_, _, _, _, _, _⟩) (v := ?_) rfl (by kernel_rfl) (by kernel_rfl) (by kernel_rfl) (fun _ _ _ h => h) (Or.inl ⟨by rfl, ?_⟩) hHeld ?_
 rotate_left
 ·(intro w9 hSw; (try dsimp only at hSw); go_simp; try (with_reducible rfl))
 try simp only [Act.put, List.setIfInBounds_toArray, List.set_cons_zero, List.set_cons_succ]
 refine wpAnyH_take (i := 4) (oi := ⟨_, _, _, _, _, _⟩) (v := ?_) rfl (by kernel_rfl) (by kernel_rfl) (by kernel_rfl) (fun _ _ _ h => h) (Or.inl ⟨by rfl, ?_⟩) hHeld ?_
 rotate_left
 ·(intro w9 hSw; (try dsimp only at hSw); go_simp; try (with_reducible rfl))
 try simp only [Act.put, List.setIfInBounds_toArray, List.set_cons_zero, List.set_cons_succ]
 refine wpAnyH_take (i := 7) (oi := ⟨_, _, _, _, _, _⟩) (v := ?_) rfl (by kernel_rfl) (by kernel_rfl) (by kernel_rfl) (fun _ _ _ h => h) (Or.inl ⟨by rfl, ?_⟩) hHeld ?_
 rotate_left
 ·(intro w9 hSw; (try dsimp only at hSw); go_simp; try (with_reducible rfl))
 try simp only [Act.put, List.setIfInBounds_toArray, List.set_cons_zero, List.set_cons_succ]
 refine wpAnyH_ready (rs := [5]) (by kernel_rfl) (by simp) ?_
 refine AllReadyH.cons (o := ⟨_, _, _, _, _, _⟩) rfl (fun K hK => ?_) AllReadyH.nil
 go_simp
 have kA := AH.out.1.alloc (.cells #[.int .u8 9, .int .u8 0, .int .u8 1, .int .u8 0, .int .u8 7] 5)
 have k3 : (wy.alloc (.cells #[.int .u8 9, .int .u8 0, .int .u8 1, .int .u8 0, .int .u8 7] 5)).cell? ⟨H, 3, none⟩ = some (.int .u8 3) := (kA.cell 3).trans rfl
 have hl5 : Lies (wy.alloc (.cells (ob [9, 0, 1, 0, 7]).toArray 5)) (some ⟨wy.heap.size, 0, none⟩) [9, 0, 1, 0, 7] := Or.inr ⟨_, 0, rfl, fun i x hx => by rw [Nat.zero_add, (Cells.new wy (ob [9, 0, 1, 0, 7]).toArray 5).cell]; simp [ob_get, hx]⟩
 have hb5 : Below wy.heap.size wy (wy.alloc (.cells #[.int .u8 9, .int .u8 0, .int .u8 1, .int .u8 0, .int .u8 7] 5)) := (Below.refl _ wy).alloc (Nat.le_refl _) _
 obtain ⟨wz, hwz⟩ : ∃ wz, wy.alloc (.cells #[.int .u8 9, .int .u8 0, .int .u8 1, .int .u8 0, .int .u8 7] 5) = wz := ⟨_, rfl⟩
 have hwz' : wy.alloc (.cells (ob [9, 0, 1, 0, 7]).toArray 5) = wz := hwz
 rw [hwz'] at hl5
 rw [hwz] at k3 hb5 ⊢
 have A5 : Aside (Lies (wz.drewN 1) (some ⟨wy.heap.size, 0, none⟩) [9, 0, 1, 0, 7] ∧ Below wy.heap.size wy (wz.drewN 1)) := ⟨hl5.drewN 1, below_drewN hb5 1⟩
 clear kA hl5 hb5 hwz hwz'
 obtain ⟨w5, hw5⟩ : ∃ w5, wz.drew = w5 := ⟨_, rfl⟩
 have hw5' : wz.drewN 1 = w5 := hw5
 rw [hw5'] at A5
 have D5 : w5.cell? ⟨H, 3, none⟩ = some (.int .u8 3) := by rw [← hw5]; exact k3
 rw [hw5]
 clear k3 hw5 hw5'
 refine hK.out _ _ D5 (fun hH3 => ?_)
 clear hK K
 try simp only [Act.put, List.setIfInBounds_toArray, List.set_cons_zero, List.set_cons_succ]
 refine wpAnyH_take (i := 8) (oi := ⟨_, _, _, _, _, _⟩) (v := ?_) rfl (by kernel_rfl) (by kernel_rfl) (by kernel_rfl) (fun _ _ _ h => h) (Or.inl ⟨by rfl, ?_⟩) hH3 ?_
 rotate_left
 ·(intro w9 hSw; (try dsimp only at hSw); go_simp; try (with_reducible rfl))
 try simp only [Act.put, List.setIfInBounds_toArray, List.set_cons_zero, List.set_cons_succ]
 refine wpAnyH_done (by kernel_rfl) ?_ _
 (try dsimp only [Exit.then])
 rw [show ((IntKind.u8.wrap 0).tmod 2 == 1) = false from rfl]
 have A6 : Aside (Cells w5 H #[.string ⟨#[98]⟩, .slice (some ⟨g, 0, none⟩) 9 9, .slice none 0 0, .int .u8 3] 57 ∧ Lies w5 (some ⟨g, 0, none⟩) [97, 98, 99, 97, 98, 99, 97, 98, 99] ∧ Below H w w5 ∧ Lies w5 (some ⟨wy.heap.size, 0, none⟩) [9, 0, 1, 0, 7]) := by
  obtain ⟨x1, x2, x3⟩ := AH.out
  obtain ⟨x4, x5⟩ := A5.out
  exact ⟨x1.below x5 x1.lt, x2.below x5, x3.trans (x5.mono (Nat.le_of_lt x1.lt)), x4⟩
 obtain ⟨H4, hH4⟩ : ∃ H4, wy.heap.size = H4 := ⟨_, rfl⟩
 rw [hH4] at A6 ⊢
 have AZ5 : Aside (Lies w5 za z) := AZ4.out.below A5.out.2
 clear hHeld hH3 A5 AH hH4 d0 d1 d2 d3 AZ4
 go_upto_region 21 with fail
 obtain ⟨lo2, hlo2⟩ : ∃ lo2, w5.heap.size = lo2 := ⟨_, rfl⟩
 have hzb := AZ0.out.2.1
 have A7 : Aside (Cells w5 H #[.string ⟨#[98]⟩, .slice (some ⟨g, 0, none⟩) 9 9, .slice none 0 0, .int .u8 3] 57 ∧ Lies w5 (some ⟨g, 0, none⟩) [97, 98, 99, 97, 98, 99, 97, 98, 99] ∧ Below H w w5 ∧ Lies w5 (some ⟨H4, 0, none⟩) [9, 0, 1, 0, 7] ∧ w5.heap.size = lo2 ∧ H ≤ lo2) := ⟨A6.out.1, A6.out.2.1, A6.out.2.2.1, A6.out.2.2.2, hlo2, by have := A6.out.1.lt; omega⟩
 have R0 : Zwt lo2 H #[.string ⟨#[98]⟩, .slice (some ⟨g, 0, none⟩) 9 9, .slice none 0 0, .int .u8 3] w5 (w5.alloc (.cells #[.int .u8 80, .int .u8 75, .int .u8 3, .int .u8 4, .int .u8 20, .int .u8 0] 5)) (.slice (some ⟨lo2, 0, none⟩) 6 6) 6 [80, 75, 3, 4, 20, 0] := by
  have := Zwt.start A6.out.1 [80, 75, 3, 4, 20, 0] (by decide) (by decide)
  rw [hlo2] at this
  exact this
 have k8 : ∀ u, Calls Tryz.prog 52 #[.int .u64 8, .int .i64 2] u fun e w' => Oa (nbs 2 8) 2 u e w' := fun u => put52_c 8 2 (by decide) (by decide) u
 have k0 : ∀ u, Calls Tryz.prog 52 #[.int .u64 0, .int .i64 4] u fun e w' => Oa (nbs 4 0) 4 u e w' := fun u => put52_c 0 4 (by decide) (by decide) u
 have k1 : ∀ u, Calls Tryz.prog 52 #[.int .u64 1, .int .i64 2] u fun e w' => Oa (nbs 2 1) 2 u e w' := fun u => put52_c 1 2 (by decide) (by decide) u
 have k5 : ∀ u, Calls Tryz.prog 52 #[.int .u64 5, .int .i64 2] u fun e w' => Oa (nbs 2 5) 2 u e w' := fun u => put52_c 5 2 (by decide) (by decide) u
 have kS : ∀ u, Calls Tryz.prog 52 #[.int .u64 (su : Int), .int .i64 4] u fun e w' => Oa (nbs 4 su) 4 u e w' := fun u => put52_c su 4 (by omega) (by decide) u
 have kz : ∀ u, Calls Tryz.prog 52 #[.int .u64 (zl : Int), .int .i64 4] u fun e w' => Oa (nbs 4 zl) 4 u e w' := fun u => put52_c zl 4 (by omega) (by decide) u
 have k9 : ∀ u, Calls Tryz.prog 52 #[.int .u64 9, .int .i64 4] u fun e w' => Oa (nbs 4 9) 4 u e w' := fun u => put52_c 9 4 (by decide) (by decide) u
 clear A6 D5
 go_upto_region 22 with (first
  | (have q := R0; go_at_call_of 52 (Value.int IntKind.u64 8); refine (k8 _).mono ?_; intro e1 u1 h1; obtain ⟨a1, c1, he1, ho1, hb1⟩ := h1.ex; subst he1; have R1 := R0.step hb1; have X1 := R0.fresh ho1 (nbs_length _ _); clear h1 q R0 hb1 ho1)
  | (have q := R1; at_builtin; refine zw_app rfl (.tmp 80) (.tmp 82) rfl (by rfl) R1 a1 (nbs 2 8) 2 c1 (by rfl) X1 (by decide) ?_; intro a2 c2 u2 R2 L2; clear L2 q R1 X1))
 go_upto_region 23 with (first
  | (have q := R2; go_at_call_of 52 (Value.int IntKind.u64 8); refine (k8 _).mono ?_; intro e3 u3 h3; obtain ⟨a3, c3, he3, ho3, hb3⟩ := h3.ex; subst he3; have R3 := R2.step hb3; have X3 := R2.fresh ho3 (nbs_length _ _); clear h3 q R2 hb3 ho3)
  | (have q := R3; at_builtin; refine zw_app rfl (.tmp 84) (.tmp 86) rfl (by rfl) R3 a3 (nbs 2 8) 2 c3 (by rfl) X3 (by decide) ?_; intro a4 c4 u4 R4 L4; clear L4 q R3 X3; have RX4 := R4.l1234; clear R4)
  | (have q := RX4.1; at_builtin; refine zw_app rfl (.tmp 87) (.tmp 88) rfl (by rfl) RX4.1 (some ⟨_, 0, none⟩) ([1, 2, 3, 4]) 4 4 (by rfl) RX4.2 (by decide) ?_; intro a5 c5 u5 R5 L5; clear L5 q RX4))
 go_upto_region 24 with (first
  | (have q := R5; go_at_call_of 52 (Value.int IntKind.u64 0); refine (k0 _).mono ?_; intro e6 u6 h6; obtain ⟨a6, c6, he6, ho6, hb6⟩ := h6.ex; subst he6; have R6 := R5.step hb6; have X6 := R5.fresh ho6 (nbs_length _ _); clear h6 q R5 hb6 ho6)
  | (have q := R6; at_builtin; refine zw_app rfl (.tmp 90) (.tmp 92) rfl (by rfl) R6 a6 (nbs 4 0) 4 c6 (by rfl) X6 (by decide) ?_; intro a7 c7 u7 R7 L7; clear L7 q R6 X6)
  | (have q := R7; go_at_call_of 52 (Value.int IntKind.u64 0); refine (k0 _).mono ?_; intro e8 u8 h8; obtain ⟨a8, c8, he8, ho8, hb8⟩ := h8.ex; subst he8; have R8 := R7.step hb8; have X8 := R7.fresh ho8 (nbs_length _ _); clear h8 q R7 hb8 ho8)
  | (have q := R8; at_builtin; refine zw_app rfl (.tmp 93) (.tmp 95) rfl (by rfl) R8 a8 (nbs 4 0) 4 c8 (by rfl) X8 (by decide) ?_; intro a9 c9 u9 R9 L9; clear L9 q R8 X8)
  | (have q := R9; go_at_call_of 52 (Value.int IntKind.u64 0); refine (k0 _).mono ?_; intro e10 u10 h10; obtain ⟨a10, c10, he10, ho10, hb10⟩ := h10.ex; subst he10; have R10 := R9.step hb10; have X10 := R9.fresh ho10 (nbs_length _ _); clear h10 q R9 hb10 ho10)
  | (have q := R10; at_builtin; refine zw_app rfl (.tmp 96) (.tmp 98) rfl (by rfl) R10 a10 (nbs 4 0) 4 c10 (by rfl) X10 (by decide) ?_; intro a11 c11 u11 R11 L11; clear L11 q R10 X10))
 go_upto_region 25 with (first
  | (have q := R11; go_at_call_of 52 (Value.int IntKind.u64 1); refine (k1 _).mono ?_; intro e12 u12 h12; obtain ⟨a12, c12, he12, ho12, hb12⟩ := h12.ex; subst he12; have R12 := R11.step hb12; have X12 := R11.fresh ho12 (nbs_length _ _); clear h12 q R11 hb12 ho12)
  | (have q := R12; at_builtin; refine zw_app rfl (.tmp 100) (.tmp 104) rfl (by rfl) R12 a12 (nbs 2 1) 2 c12 (by rfl) X12 (by decide) ?_; intro a13 c13 u13 R13 L13; clear L13 q R12 X12)
  | (have q := R13; go_at_call_of 52 (Value.int IntKind.u64 5); refine (k5 _).mono ?_; intro e14 u14 h14; obtain ⟨a14, c14, he14, ho14, hb14⟩ := h14.ex; subst he14; have R14 := R13.step hb14; have X14 := R13.fresh ho14 (nbs_length _ _); clear h14 q R13 hb14 ho14)
  | (have q := R14; at_builtin; refine zw_app rfl (.tmp 105) (.tmp 109) rfl (by rfl) R14 a14 (nbs 2 5) 2 c14 (by rfl) X14 (by decide) ?_; intro a15 c15 u15 R15 L15; clear L15 q R14 X14))
 go_upto_region 26 with (first
  | (have q := R15; at_builtin; refine zw_str rfl (.tmp 111) (.tmp 112) rfl (by rfl) R15 [98] 1 ⟨#[98]⟩ rfl rfl (oct_dec rfl) (by rfl) (by decide) ?_; intro a16 c16 u16 R16 L16; clear L16 q R15; have X16 := R16.old A7.out.2.2.2.2.1 A7.out.2.2.2.1 (m := 5) (c := 5) rfl (fun h => by cases h))
  | (have q := R16; at_builtin; refine zw_app rfl (.tmp 113) (.tmp 114) rfl (by rfl) R16 (some ⟨H4, 0, none⟩) [9, 0, 1, 0, 7] 5 5 (by rfl) X16 (by decide) ?_; intro a17 c17 u17 R17 L17; clear L17 q R16 X16; have X17 := R17.old A7.out.2.2.2.2.1 AZ5.out (m := zl) (c := zc) AZ0.out.1 AZ0.out.2.2.2.2.2)
  | (have q := R17; at_builtin; refine zw_app rfl (.tmp 115) (.tmp 116) rfl (by rfl) R17 za z zl zc (by rfl) X17 (by omega) ?_; intro a18 c18 u18 R18 L18; clear L18 q R17 X17; have d3 : u18.cell? ⟨H, 3, none⟩ = some (.int .u8 3) := (R18.cel.cell 3).trans rfl; have d1 : u18.cell? ⟨H, 1, none⟩ = some (.slice (some ⟨g, 0, none⟩) 9 9) := (R18.cel.cell 1).trans rfl; have Xd := R18.old A7.out.2.2.2.2.1 A7.out.2.1 (m := 9) (c := 9) rfl (fun h => by cases h); have kSd := AkS.out u18 Xd.li; clear Xd))
 go_upto_region 30 with fail
 go_upto_region 31 with (first
  | (have q := kSd; go_at_call 50; refine kSd.mono ?_; rintro e19 u19 ⟨rfl, h19⟩; subst h19; clear q kSd)
  | (have q := R18; go_at_call_of 52 (Value.int IntKind.u64 (su : Int)); refine (kS _).mono ?_; intro e20 u20 h20; obtain ⟨a20, c20, he20, ho20, hb20⟩ := h20.ex; subst he20; have R20 := R18.step hb20; have X20 := R18.fresh ho20 (nbs_length _ _); clear h20 q R18 hb20 ho20)
  | (have q := R20; at_builtin; refine zw_app rfl (.tmp 129) (.tmp 134) rfl (by rfl) R20 a20 (nbs 4 su) 4 c20 (by rfl) X20 (by omega) ?_; intro a21 c21 u21 R21 L21; clear L21 q R20 X20))
 go_wp2_with (first
  | (have q := R21; go_at_call_of 52 (Value.int IntKind.u64 (zl : Int)); refine (kz _).mono ?_; intro e22 u22 h22; obtain ⟨a22, c22, he22, ho22, hb22⟩ := h22.ex; subst he22; have R22 := R21.step hb22; have X22 := R21.fresh ho22 (nbs_length _ _); clear h22 q R21 hb22 ho22)
  | (have q := R22; at_builtin; refine zw_app rfl (.tmp 136) (.tmp 139) rfl (by rfl) R22 a22 (nbs 4 zl) 4 c22 (by rfl) X22 (by omega) ?_; intro a23 c23 u23 R23 L23; clear L23 q R22 X22)
  | (have q := R23; go_at_call_of 52 (Value.int IntKind.u64 9); refine (k9 _).mono ?_; intro e25 u25 h25; obtain ⟨a25, c25, he25, ho25, hb25⟩ := h25.ex; subst he25; have R25 := R23.step hb25; have X25 := R23.fresh ho25 (nbs_length _ _); clear h25 q R23 hb25 ho25)
  | (have q := R25; at_builtin; refine zw_app rfl (.tmp 140) (.tmp 143) rfl (by rfl) R25 a25 (nbs 4 9) 4 c25 (by rfl) X25 (by omega) ?_; intro a24 c24 u24 R24 L24; clear L24 q R25 X25))
 first | go_ret | go_ret2
 obtain ⟨x1, x2, x3, x4, x5, x6⟩ := A7.out
 obtain ⟨z1, z2, z3, z4, z5, z6⟩ := AZ0.out
 obtain ⟨q1, q2, q3⟩ := R24
 obtain ⟨hH, hS⟩ := A8.out
 have eo : [80, 75, 3, 4, 20, 0] ++ nbs 2 8 ++ nbs 2 8 ++ [1, 2, 3, 4] ++ nbs 4 0 ++ nbs 4 0 ++ nbs 4 0 ++ nbs 2 1 ++ nbs 2 5 ++ [98] ++ [9, 0, 1, 0, 7] ++ z ++ nbs 4 su ++ nbs 4 zl ++ nbs 4 9 = Ent.one enB z := by
  have e1 : Ent.one enB z = ([80, 75, 3, 4, 20, 0] ++ nbs 2 8 ++ nbs 2 8 ++ [1, 2, 3, 4] ++ nbs 4 0 ++ nbs 4 0 ++ nbs 4 0 ++ nbs 2 1 ++ nbs 2 5 ++ [98] ++ [9, 0, 1, 0, 7]) ++ z ++ (nbs 4 (sm 0 [97, 98, 99, 97, 98, 99, 97, 98, 99]) ++ nbs 4 z.length ++ nbs 4 9) := rfl
  rw [e1, hS, z1]
  simp only [List.append_assoc]
 rw [eo] at q1
 have hlen : (Ent.one enB z).length = 48 + zl := by
  have := q1.own.1
  rw [ob_length] at this
  omega
 exact ⟨z, 36 + zl + 4 + 4 + 4, z4, z3, by omega, by omega, a24, c24, rfl, by rw [hH]; exact q1.lower x6, by rw [hH]; exact x3.trans (q2.mono (by omega))⟩
end Go.Proofs.YtpihipbeagpgpaaGreatDoor

/-
 What the document's Write comes to, at the two entries of awake.
-/
namespace Go.Proofs.YtpihipbeagpgpaaGreatDoor
open Go.RowKit
set_option linter.unusedVariables false
structure Tw2 (w : World) (g gA gB : Nat) : Prop where
 a0 : w.cell? ⟨g, 0, none⟩ = some (.string ⟨#[97]⟩)
 a1 : w.cell? ⟨g, 1, none⟩ = some (.slice (some ⟨gA, 0, none⟩) 3 3)
 a2 : w.cell? ⟨g, 2, none⟩ = some (.slice none 0 0)
 a3 : w.cell? ⟨g, 3, none⟩ = some (.int .u8 0)
 b0 : w.cell? ⟨g, 4, none⟩ = some (.string ⟨#[98]⟩)
 b1 : w.cell? ⟨g, 5, none⟩ = some (.slice (some ⟨gB, 0, none⟩) 9 9)
 b2 : w.cell? ⟨g, 6, none⟩ = some (.slice none 0 0)
 b3 : w.cell? ⟨g, 7, none⟩ = some (.int .u8 3)
 la : Lies w (some ⟨gA, 0, none⟩) [97, 98, 99]
 lb : Lies w (some ⟨gB, 0, none⟩) [97, 98, 99, 97, 98, 99, 97, 98, 99]
theorem Tw2.below {w u : World} {g gA gB : Nat} (h : Tw2 w g gA gB) (k : Below w.heap.size w u) : Tw2 u g gA gB := by
 have key : ∀ (j : Nat) (x : Value), w.cell? ⟨g, j, none⟩ = some x → u.cell? ⟨g, j, none⟩ = some x := fun j x hx => (k.cell (p := ⟨g, j, none⟩) (World.block_lt_of_cell? w ⟨g, j, none⟩ hx)).trans hx
 exact ⟨key _ _ h.a0, key _ _ h.a1, key _ _ h.a2, key _ _ h.a3, key _ _ h.b0, key _ _ h.b1, key _ _ h.b2, key _ _ h.b3, h.la.below k, h.lb.below k⟩
theorem enB_len (z : List Nat) : (Ent.one enB z).length ≤ z.length + 320 := by
 have h1 := enB.one_length z
 have h2 := enB.nam_length
 have h3 := enB.ext_length z
 have h4 := enB.tal_length z
 have h5 : (if enB.wid then 25 else 5) = 5 := rfl
 have h6 : enB.nam.length = 1 := rfl
 omega
structure Wra (w : World) (e : Ending) (w' : World) : Prop where
 ex : ∃ a n c z, e = .returned (.slice a n c) ∧ Holds MM z enB.da ∧ Oct z ∧ z.length ≤ 100000000 ∧ Ow w' w.heap.size 5 1 (.slice a n c) n (ob (Ent.one enA [97, 98, 99] ++ Ent.one enB z ++ [80, 75, 5, 6, 0, 0])) ∧ Below w.heap.size w w'
structure Wst (lo : Nat) (w wr : World) (i : Nat) (va : Option Addr) (n c : Nat) : Prop where
 bel : Below lo w wr
 st : (i = 0 ∧ va = none ∧ n = 0 ∧ c = 0) ∨ (i = 1 ∧ n = 39 ∧ Ow wr lo 5 1 (.slice va n c) n (ob (Ent.one enA [97, 98, 99]))) ∨ (i = 2 ∧ ∃ z, Holds MM z enB.da ∧ Oct z ∧ z.length ≤ 100000000 ∧ n ≤ 200000000 ∧ Ow wr lo 5 1 (.slice va n c) n (ob (Ent.one enA [97, 98, 99] ++ Ent.one enB z)))
set_option maxRecDepth 20000 in
set_option maxHeartbeats 4000000 in
theorem write_a (w : World) (hct : Ctab w) (h9 : 9 ≤ w.heap.size) (g gA gB : Nat) (ht : Tw2 w g gA gB) : Calls Tryz.prog 25 #[.slice (some ⟨g, 0, none⟩) 2 2] w fun e w' => Wra w e w' := by
 obtain ⟨lo, hlo⟩ : ∃ lo, w.heap.size = lo := ⟨_, rfl⟩
 have A : Aside (w.heap.size = lo ∧ Ctab w ∧ 9 ≤ lo ∧ Tw2 w g gA gB) := ⟨hlo, hct, by omega, ht⟩
 clear hlo hct h9 ht
 obtain ⟨i0, hii, hz0, hz1, hz2⟩ := ginfo_parts ginfo5
 go_enter Tryz.func25, Tryz.ntmps25
 go_wp2_with fail
 go_loopg [3, 4] 2 (fun gg s3 s4 wr => ∃ (va : Option Addr) (n c i : Nat), s3 = .slice va n c ∧ s4 = .int .i64 (i : Int) ∧ Aside (i + gg = 2 ∧ Wst lo w wr i va n c))
 case atStart => exact ⟨none, 0, 0, 0, rfl, rfl, ⟨rfl, Below.refl _ _, Or.inl ⟨rfl, rfl, rfl, rfl⟩⟩⟩
 case round =>
  obtain ⟨va, n, c, i, rfl, rfl, hT⟩ := hrel
  obtain ⟨hig, hbel, hst⟩ := hT.out
  clear hT
  obtain ⟨al, act, a9, atw⟩ := A.out
  have h9 : 9 ≤ wr.heap.size := by have := hbel.size; omega
  have htw := atw.below (by rw [al]; exact hbel)
  have hct := act.below hbel (by omega)
  rcases hst with ⟨rfl, rfl, rfl, rfl⟩ | ⟨rfl, rfl, how⟩ | ⟨rfl, z, hz, ho, hzb, hnb, how⟩
  ·obtain rfl : gk = 2 := by omega
   have k := oneA_c wr hct h9 gA htw.la
   have d0 := htw.a0
   have d1 := htw.a1
   have d2 := htw.a2
   have d3 := htw.a3
   have A2 : Aside (Below lo w wr ∧ lo ≤ wr.heap.size) := ⟨hbel, by have := hbel.size; omega⟩
   clear htw hct h9 hbel al act a9 atw hig
   go_wp2_with (first
    | (go_at_call 33; refine k.mono ?_; intro e5 w5 h5; obtain ⟨a5, c5, he5, ho5, hb5⟩ := h5.ex; subst he5; have how5 : Ow w5 lo 5 1 (.slice none 0 0) 0 (ob []) := Ow.nil (by have := hb5.size; have := A2.out.2; omega); obtain ⟨xa, xc, hvx, hxl, _, hlx, hzx⟩ := ho5.lies; cases hvx; have hl5 := lies_oc hlx; have hnx := hxl; have hzz := ow_nil ho5; clear h5 k)
    | (at_builtin; refine wpList_ow Tryz.prog _ rfl (.tmp 11) (.tmp 16) 22 rfl 5 i0 _ 1 1 Tryz.underlying22 hii hz0 hz1 hz2 rfl (by decide) lo (.slice none 0 0) 0 _ (by rfl) how5 a5 (ob (Ent.one enA [97, 98, 99])) 39 c5 (by rw [ob_length, hnx, Nat.mul_one]) (by rfl) hzz hl5 ob_one (by unfold maxLen; omega) (by omega) ?_; intro v6 w6 hg6; obtain ⟨a6, c6, hv6, _⟩ := hg6.ow.shape; subst hv6))
   have hb6 := (A2.out.1.trans (hb5.mono A2.out.2)).trans hg6.bel
   have ho6 := hg6.ow
   rw [ob_append, List.nil_append] at ho6
   go_roundg 1
   case measure => omega
   case rel => exact ⟨a6, 0 + 39, c6, 1, rfl, rfl, ⟨rfl, hb6, Or.inr (Or.inl ⟨rfl, rfl, ho6⟩)⟩⟩
  ·obtain rfl : gk = 1 := by omega
   have k := oneB_c wr hct h9 gB htw.lb
   have d0 := htw.b0
   have d1 := htw.b1
   have d2 := htw.b2
   have d3 := htw.b3
   have A2 : Aside (Below lo w wr ∧ lo ≤ wr.heap.size) := ⟨hbel, by have := hbel.size; omega⟩
   clear htw hct h9 hbel al act a9 atw hig
   go_wp2_with (first
    | (go_at_call 33; refine k.mono ?_; intro e5 w5 h5; obtain ⟨z, nB, hh5, hz5, hzl5, hn5, a5, c5, he5, ho5, hb5⟩ := h5.ex; subst he5; have how5 : Ow w5 lo 5 1 (.slice va 39 c) 39 (ob (Ent.one enA [97, 98, 99])) := how.below hb5 (Nat.le_refl _); obtain ⟨xa, xc, hvx, hxl, _, hlx, hzx⟩ := ho5.lies; cases hvx; have hl5 := lies_oc hlx; have hnx := hxl; have hzz := ow_nil ho5; have hnB : nB ≤ 100000320 := (by have := enB_len z; omega); clear h5 k)
    | (at_builtin; refine wpList_ow Tryz.prog _ rfl (.tmp 11) (.tmp 16) 22 rfl 5 i0 _ 1 1 Tryz.underlying22 hii hz0 hz1 hz2 rfl (by decide) lo (.slice va 39 c) 39 _ (by rfl) how5 a5 (ob (Ent.one enB z)) nB c5 (by rw [ob_length, hnx, Nat.mul_one]) (by rfl) hzz hl5 ob_one (by unfold maxLen; omega) (by omega) ?_; intro v6 w6 hg6; obtain ⟨a6, c6, hv6, _⟩ := hg6.ow.shape; subst hv6))
   have hb6 := (A2.out.1.trans (hb5.mono A2.out.2)).trans hg6.bel
   have ho6 := hg6.ow
   rw [ob_append] at ho6
   go_roundg 0
   case measure => omega
   case rel => exact ⟨a6, 39 + nB, c6, 2, rfl, rfl, ⟨rfl, hb6, Or.inr (Or.inr ⟨rfl, z, hh5, hz5, hzl5, by omega, ho6⟩)⟩⟩
  ·have A2 : Aside (Below lo w wr ∧ lo ≤ wr.heap.size ∧ w.heap.size = lo ∧ Holds MM z enB.da ∧ Oct z ∧ z.length ≤ 100000000) := ⟨hbel, by have := hbel.size; omega, al, hz, ho, hzb⟩
   obtain ⟨wz, hwz⟩ : ∃ wz, wr.alloc (.cells #[.int .u8 80, .int .u8 75, .int .u8 5, .int .u8 6, .int .u8 0, .int .u8 0] 5) = wz := ⟨_, rfl⟩
   have bz : Below wr.heap.size wr wz := by rw [← hwz]; exact (Below.refl _ wr).alloc (Nat.le_refl _) _
   have hlz : Lies wz (some ⟨wr.heap.size, 0, none⟩) [80, 75, 5, 6, 0, 0] := by
    have := (ow_lit [80, 75, 5, 6, 0, 0] (by decide) wr wr.heap.size (Nat.le_refl _) (by decide)).lies
    obtain ⟨xa, xc, hvx, _, _, hlx, _⟩ := this
    cases hvx
    rw [← hwz]
    exact hlx
   have hl5 := lies_oc hlz
   have how5 := how.below bz (Nat.le_refl _)
   obtain ⟨H5, hH5⟩ : ∃ H5, wr.heap.size = H5 := ⟨_, rfl⟩
   rw [hH5] at hl5
   have A3 : Aside (Below wr.heap.size wr wz) := bz
   clear htw hct h9 hbel al act a9 atw hig hlz bz hz ho hzb how
   go_wp2_with (at_builtin; (try rw [hH5]); (try rw [hwz]); refine wpList_ow Tryz.prog _ rfl (.tmp 18) (.tmp 19) 22 rfl 5 i0 _ 1 1 Tryz.underlying22 hii hz0 hz1 hz2 rfl (by decide) lo (.slice va n c) n _ (by rfl) how5 (some ⟨H5, 0, none⟩) (ob [80, 75, 5, 6, 0, 0]) 6 6 rfl (by rfl) (fun h => by cases h) hl5 ob_one (by unfold maxLen; omega) (by omega) ?_; intro v6 w6 hg6; obtain ⟨a6, c6, hv6, _⟩ := hg6.ow.shape; subst hv6)
   first | go_ret | go_ret2
   obtain ⟨x1, x2, x3, x4, x5, x6⟩ := A2.out
   have ho6 := hg6.ow
   rw [ob_append] at ho6
   exact ⟨a6, n + 6, c6, z, rfl, x4, x5, x6, by rw [x3]; exact ho6, by rw [x3]; exact (x1.trans (A3.out.mono x2)).trans hg6.bel⟩
end Go.Proofs.YtpihipbeagpgpaaGreatDoor

/-
 What Whole says of awake's two entries. No walk.
-/
namespace Go.Proofs.YtpihipbeagpgpaaGreatDoor
open Go.RowKit
set_option linter.unusedVariables false
section
variable {s : Zs} {z : List Nat}
theorem end_run (h : Pz s) (t : Nat) : ∃ s', Mr t s [80, 75, 5, 6, 0, 0] s' [] ∧ s'.why = 0 ∧ s'.ph = 1 := by
 have e1 : zst s 80 = ({ s with bs := [80] }, []) := by
  rw [zst0 80 h.ph]
  unfold zpla
  rw [h.bs]
  rfl
 have e2 : zst { s with bs := [80] } 75 = ({ s with bs := [80, 75] }, []) := by
  exact (zst0 (s := { s with bs := [80] }) 75 h.ph).trans rfl
 have e3 : zst { s with bs := [80, 75] } 5 = ({ s with bs := [80, 75, 5] }, []) := by
  exact (zst0 (s := { s with bs := [80, 75] }) 5 h.ph).trans rfl
 have e4 : zst { s with bs := [80, 75, 5] } 6 = ({ s with bs := [80, 75, 5], ph := 1 }, []) := by
  exact (zst0 (s := { s with bs := [80, 75, 5] }) 6 h.ph).trans rfl
 have e5 : ∀ x, zst { s with bs := [80, 75, 5], ph := 1 } x = ({ s with bs := [80, 75, 5], ph := 1 }, []) := fun x => zst1 x rfl
 have n0 : ¬ s.ph = 5 := by rw [h.ph]; decide
 refine ⟨{ s with bs := [80, 75, 5], ph := 1 }, ?_, h.why, rfl⟩
 have n1 : ¬ (1 : Nat) = 5 := by decide
 exact ⟨h.why, { s with bs := [80] }, [], [], Or.inr ⟨n0, by rw [e1], by rw [e1]⟩, ⟨h.why, { s with bs := [80, 75] }, [], [], Or.inr ⟨n0, by rw [e2], by rw [e2]⟩, ⟨h.why, { s with bs := [80, 75, 5] }, [], [], Or.inr ⟨n0, by rw [e3], by rw [e3]⟩, ⟨h.why, { s with bs := [80, 75, 5], ph := 1 }, [], [], Or.inr ⟨n0, by rw [e4], by rw [e4]⟩, ⟨h.why, { s with bs := [80, 75, 5], ph := 1 }, [], [], Or.inr ⟨n1, by rw [e5 0], by rw [e5 0]⟩, ⟨h.why, { s with bs := [80, 75, 5], ph := 1 }, [], [], Or.inr ⟨n1, by rw [e5 0], by rw [e5 0]⟩, ⟨rfl, rfl⟩, rfl⟩, rfl⟩, rfl⟩, rfl⟩, rfl⟩, rfl⟩
theorem enB_sum : enB.sum ≠ 134695760 := by
 have : enB.sum = 1177372696 := by kernel_rfl
 rw [this]
 decide
def awX (z : List Nat) : List Nat := Ent.one enA [97, 98, 99] ++ Ent.one enB z ++ [80, 75, 5, 6, 0, 0]
theorem aw_run (hz : Holds MM z enB.da) (ho : Oct z) (hl : z.length ≤ 100000000) : ∃ s T, Rch (awX z) (awX z).length s T ∧ rs2 99 (zfin s) [] [] (evx T) = (([[97], [98]], [[97, 98, 99], [97, 98, 99, 97, 98, 99, 97, 98, 99]]), 0) := by
 have fA : enA.Fit [97, 98, 99] := ⟨oct_dec rfl, oct_dec rfl, oct_dec rfl, by decide, by decide⟩
 have fB : enB.Fit z := ⟨oct_dec rfl, oct_dec rfl, ho, by decide, by unfold U32; omega⟩
 obtain ⟨s3, hb3, m1⟩ := Ent.front_run fA pz0 0
 obtain ⟨s4, T4, p4, m2, e2⟩ := hb3.stor rfl rfl rfl (0 + (29 + enA.nam.length + (enA.ext [97, 98, 99]).length))
 have m3 : Mr 0 s0 (Ent.one enA [97, 98, 99]) s4 (evs (0 + (29 + enA.nam.length + (enA.ext [97, 98, 99]).length)) (zbody s3).2 ++ T4) := by
  have e : Ent.one enA [97, 98, 99] = (enA.hdr [97, 98, 99] ++ enA.nam ++ enA.ext [97, 98, 99]) ++ [97, 98, 99] := by kernel_rfl
  rw [e]
  exact m1.seq2 m2
 rw [e2] at m3
 obtain ⟨s5, hb5, m5⟩ := Ent.front_run fB p4 39
 obtain ⟨s6, T6, p6, m6, e6⟩ := hb5.dsc fB rfl rfl rfl rfl hz enB_sum (39 + (29 + enB.nam.length + (enB.ext z).length))
 have hel : (enB.ext z).length = 5 := enB.ext_length z
 have hnl : enB.nam.length = 1 := rfl
 have hhl := enB.hdr_length z
 have m7 : Mr 39 s4 (Ent.one enB z) s6 (evs (39 + (29 + enB.nam.length + (enB.ext z).length)) (zbody s5).2 ++ T6) := by
  have e : Ent.one enB z = (enB.hdr z ++ enB.nam ++ enB.ext z) ++ (z ++ enB.tal z) := by unfold Ent.one; rw [List.append_assoc]
  rw [e]
  refine m5.seq2 ?_
  have : 39 + (enB.hdr z ++ enB.nam ++ enB.ext z).length = 39 + (29 + enB.nam.length + (enB.ext z).length) + 1 := by
   rw [List.length_append, List.length_append, hhl, hel, hnl]
  rw [this]
  exact m6
 obtain ⟨s8, m8, q1, q2⟩ := end_run p6 (39 + (Ent.one enB z).length)
 have hA : (Ent.one enA [97, 98, 99]).length = 39 := by kernel_rfl
 have m9 := m3.seq2 (m := Ent.one enB z) (by rw [hA]; exact m7)
 have m10 := m9.seq2 (m := [80, 75, 5, 6, 0, 0]) (by rw [List.length_append, hA, Nat.zero_add]; exact m8)
 refine ⟨s8, _, ⟨Nat.le_refl _, by rw [List.take_length]; exact m10⟩, ?_⟩
 have hf : zfin s8 = 0 := by unfold zfin; rw [if_neg (fun q => q q1), if_pos q2]
 rw [hf, List.append_nil, evx_append, e6]
 rfl
end
end Go.Proofs.YtpihipbeagpgpaaGreatDoor

/-
 What awake comes to.
-/
namespace Go.Proofs.YtpihipbeagpgpaaGreatDoor
open Go.RowKit
set_option linter.unusedVariables false
theorem lies_fr {w : World} {cs : Array Value} {fr : Nat × Nat} {l : List Nat} (hc : ∀ (i x : Nat), l[i]? = some x → cs[i]? = some (Value.int .u8 (x : Int))) : Lies (w.alloc (.cells cs 5 fr)) (some ⟨w.heap.size, 0, none⟩) l := by
 refine Or.inr ⟨w.heap.size, 0, rfl, fun i x hx => ?_⟩
 rw [Nat.zero_add]
 have := hc i x hx
 simp only [World.cell?, World.alloc]
 simp [this]
set_option maxRecDepth 100000 in
set_option maxHeartbeats 1000000 in
theorem awake_c (w : World) (ht : Tabs w) (hct : Ctab w) (hmt : Mtab w) (h9 : 9 ≤ w.heap.size) : Calls Tryz.prog 16 #[] w fun e w' => e = .returned (.bool true) ∧ Below w.heap.size w w' := by
 obtain ⟨H, hH⟩ : ∃ H, w.heap.size = H := ⟨_, rfl⟩
 obtain ⟨w1, hw1⟩ : ∃ w1, w1 = w.alloc (.cells #[.int .u8 97, .int .u8 98, .int .u8 99] 5 (3, 4)) := ⟨_, rfl⟩
 have b1 : Below w.heap.size w w1 := by rw [hw1]; exact (Below.refl _ w).alloc (Nat.le_refl _) _
 have hz1 : w1.heap.size = H + 1 := by rw [hw1, ← hH]; simp
 have l1 : Lies w1 (some ⟨H, 0, none⟩) [97, 98, 99] := by
  rw [hw1, ← hH]
  refine lies_fr fun i x hx => ?_
  match i, hx with
  | 0, hx => simp at hx; subst hx; rfl
  | 1, hx => simp at hx; subst hx; rfl
  | 2, hx => simp at hx; subst hx; rfl
  | i + 3, hx => simp at hx
 obtain ⟨w2, hw2⟩ : ∃ w2, w2 = w1.alloc (.cells #[.int .u8 97, .int .u8 98, .int .u8 99, .int .u8 97, .int .u8 98, .int .u8 99, .int .u8 97, .int .u8 98, .int .u8 99] 5 (9, 10)) := ⟨_, rfl⟩
 have b2 : Below w1.heap.size w1 w2 := by rw [hw2]; exact (Below.refl _ w1).alloc (Nat.le_refl _) _
 have hz2 : w2.heap.size = H + 2 := by rw [hw2]; simp [hz1]
 have l2 : Lies w2 (some ⟨H + 1, 0, none⟩) [97, 98, 99, 97, 98, 99, 97, 98, 99] := by
  rw [hw2, ← hz1]
  refine lies_fr fun i x hx => ?_
  match i, hx with
  | 0, hx => simp at hx; subst hx; rfl
  | 1, hx => simp at hx; subst hx; rfl
  | 2, hx => simp at hx; subst hx; rfl
  | 3, hx => simp at hx; subst hx; rfl
  | 4, hx => simp at hx; subst hx; rfl
  | 5, hx => simp at hx; subst hx; rfl
  | 6, hx => simp at hx; subst hx; rfl
  | 7, hx => simp at hx; subst hx; rfl
  | 8, hx => simp at hx; subst hx; rfl
  | i + 9, hx => simp at hx
 obtain ⟨w3, hw3⟩ : ∃ w3, w3 = w2.alloc (.cells #[.string ⟨#[97]⟩, .slice (some ⟨H, 0, none⟩) 3 3, .slice none 0 0, .int .u8 0, .string ⟨#[98]⟩, .slice (some ⟨H + 1, 0, none⟩) 9 9, .slice none 0 0, .int .u8 3] 57) := ⟨_, rfl⟩
 have b3 : Below w2.heap.size w2 w3 := by rw [hw3]; exact (Below.refl _ w2).alloc (Nat.le_refl _) _
 have hc3 : Cells w3 (H + 2) #[.string ⟨#[97]⟩, .slice (some ⟨H, 0, none⟩) 3 3, .slice none 0 0, .int .u8 0, .string ⟨#[98]⟩, .slice (some ⟨H + 1, 0, none⟩) 9 9, .slice none 0 0, .int .u8 3] 57 := by rw [hw3, ← hz2]; exact Cells.new w2 _ 57
 have ht2 : Tw2 w3 (H + 2) H (H + 1) := ⟨(hc3.cell 0).trans rfl, (hc3.cell 1).trans rfl, (hc3.cell 2).trans rfl, (hc3.cell 3).trans rfl, (hc3.cell 4).trans rfl, (hc3.cell 5).trans rfl, (hc3.cell 6).trans rfl, (hc3.cell 7).trans rfl, (l1.below b2).below b3, l2.below b3⟩
 have b123 : Below w.heap.size w w3 := (b1.trans (b2.mono b1.size)).trans (b3.mono (by have := b1.size; have := b2.size; omega))
 have hwr := write_a w3 (hct.below b123 (by omega)) (by have := b123.size; omega) (H + 2) H (H + 1) ht2
 have A : Aside (Below w.heap.size w w3 ∧ Tabs w ∧ Ctab w ∧ Mtab w ∧ 9 ≤ w.heap.size) := ⟨b123, ht, hct, hmt, h9⟩
 have hw3' : w2.alloc (.cells #[.string ⟨#[97]⟩, .slice (some ⟨H, 0, none⟩) 3 3, .slice none 0 0, .int .u8 0, .string ⟨#[98]⟩, .slice (some ⟨H + 1, 0, none⟩) 9 9, .slice none 0 0, .int .u8 3] 57) = w3 := hw3.symm
 have hcv : (convert 22 22 (.slice (some ⟨H, 0, none⟩) 3 3)).run Tryz.prog (w.alloc (.cells #[.int .u8 97, .int .u8 98, .int .u8 99] 5)) = .ok (.slice (some ⟨H, 0, none⟩) 3 3) w1 := by
  rw [hw1, ← hH]
  exact Lib.run_convert_bytes_const w 22 5 _ 3 3 Tryz.underlying22 Tryz.underlying5
 have hcv2 : (convert 22 22 (.slice (some ⟨H + 1, 0, none⟩) 9 9)).run Tryz.prog (w1.alloc (.cells #[.int .u8 97, .int .u8 98, .int .u8 99, .int .u8 97, .int .u8 98, .int .u8 99, .int .u8 97, .int .u8 98, .int .u8 99] 5)) = .ok (.slice (some ⟨H + 1, 0, none⟩) 9 9) w2 := by
  rw [hw2, ← hz1]
  exact Lib.run_convert_bytes_const w1 22 5 _ 9 9 Tryz.underlying22 Tryz.underlying5
 clear b1 b2 b3 l1 l2 hc3 ht2 b123 hw1 hw2 hw3 ht hct hmt h9
 go_enter Tryz.func16, Tryz.ntmps16
 go_upto_region 2 with (first
  | (go_at_call 25; go_loud (refine hwr.mono ?_; intro e4 w4 h4; obtain ⟨a4, n4, c4, z, rfl, hz4, ho4, hzl4, ow4, b4⟩ := h4.ex; obtain ⟨a5, c5, hv5, hl5, hc5, hli5, hn5⟩ := ow4.lies; cases hv5; obtain ⟨sx, Tx, hrx, hrs⟩ := aw_run hz4 ho4 hzl4; have bb : Below w.heap.size w w4 := A.out.1.trans (b4.mono A.out.1.size); have hwh := zwhole_c w4 (A.out.2.1.below bb (by have := A.out.2.2.2.2; omega)) (A.out.2.2.1.below bb (by have := A.out.2.2.2.2; omega)) (A.out.2.2.2.1.keep (bb.block 0 (by have := A.out.2.2.2.2; omega))) (by have := A.out.2.2.2.2; have := bb.size; omega) a4 (awX z) n4 c4 99 99 rfl (by decide) hli5 hl5 (by have := enB_len z; have h39 : (Ent.one enA [97, 98, 99]).length = 39 := rfl; simp only [List.length_append, h39, List.length_cons, List.length_nil] at hl5; omega) (((enA.one_oct (z := [97, 98, 99]) (oct_dec rfl) (oct_dec rfl)).app (enB.one_oct (z := z) (oct_dec rfl) ho4)).app (oct_dec rfl)) _ sx Tx hrx (Or.inr hl5) _ hrs; have AB : Aside (Below w.heap.size w w4) := bb))
  | (go_at_call 9; refine hwh.mono ?_; intro e6 w6 h6; obtain ⟨vn, vl, lo2, rfl, hlo2, nn4, ll4, bel4⟩ := h6.ex))
 obtain ⟨an, cn, hvn, hcn, nl4, _⟩ := nn4.nl
 subst hvn
 obtain ⟨al, cl, hvl, _⟩ := ll4.shape
 subst hvl
 obtain ⟨g, a7, c7, hg, k0, li0, _, _⟩ := ll4.at rfl (i := 0) (l := [97, 98, 99]) rfl
 subst hg
 obtain ⟨g2, a8, c8, hg2, k1, li1, _, _⟩ := ll4.at rfl (i := 1) (l := [97, 98, 99, 97, 98, 99, 97, 98, 99]) rfl
 cases hg2
 obtain ⟨H6, hH6⟩ : ∃ H6, w6.heap.size = H6 := ⟨_, rfl⟩
 obtain ⟨w7, hw7⟩ : ∃ w7, w7 = w6.alloc (.cells #[.string ⟨#[97]⟩, .string ⟨#[98]⟩] 9) := ⟨_, rfl⟩
 have b7 : Below w6.heap.size w6 w7 := by rw [hw7]; exact (Below.refl _ w6).alloc (Nat.le_refl _) _
 have hc7 : Cells w7 H6 #[.string ⟨#[97]⟩, .string ⟨#[98]⟩] 9 := by rw [hw7, ← hH6]; exact Cells.new w6 _ 9
 have nl7 : Nl w7 (some ⟨H6, 0, none⟩) [[97], [98]] := Or.inr ⟨H6, 0, rfl, fun i x hx => by
  rw [Nat.zero_add, hc7.cell]
  match i, hx with
  | 0, hx => simp at hx; subst hx; rfl
  | 1, hx => simp at hx; subst hx; rfl
  | i + 2, hx => simp at hx⟩
 have hstr : Calls Tryz.prog 11 #[.slice an 2 cn, .slice (some ⟨H6, 0, none⟩) 2 2] w7 fun e w' => e = .returned (.bool true) ∧ ∃ m, w' = w7.drewN m := strings_c w7 an (some ⟨H6, 0, none⟩) [[97], [98]] 2 cn 2 rfl (by decide) (nl4.below b7) nl7
 have k07 : ∀ m, (w7.drewN m).cell? ⟨g, 0, none⟩ = some (.slice a7 3 c7) := fun m => (b7.cell (p := ⟨g, 0, none⟩) (World.block_lt_of_cell? w6 _ k0)).trans k0
 have k17 : ∀ m, (w7.drewN m).cell? ⟨g, 1, none⟩ = some (.slice a8 9 c8) := fun m => (b7.cell (p := ⟨g, 1, none⟩) (World.block_lt_of_cell? w6 _ k1)).trans k1
 have hcs : ∀ m, (convert 22 9 (.slice a7 3 c7)).run Tryz.prog (w7.drewN m) = .ok (.string ⟨#[97, 98, 99]⟩) (w7.drewN m) := fun m => conv_st 3 c7 rfl (show ∀ x ∈ [97, 98, 99], x < 256 by decide) ((li0.below b7).drewN m)
 have hct : ∀ m, (convert 22 9 (.slice a8 9 c8)).run Tryz.prog (w7.drewN m) = .ok (.string ⟨#[97, 98, 99, 97, 98, 99, 97, 98, 99]⟩) (w7.drewN m) := fun m => conv_st 9 c8 rfl (show ∀ x ∈ [97, 98, 99, 97, 98, 99, 97, 98, 99], x < 256 by decide) ((li1.below b7).drewN m)
 have A7 : Aside (Below w.heap.size w w7) := AB.out.trans ((bel4.trans (b7.mono bel4.size)).mono AB.out.size)
 have hw7' : w6.alloc (.cells #[.string ⟨#[97]⟩, .string ⟨#[98]⟩] 9) = w7 := hw7.symm
 clear hwr hwh hrx hrs ow4 hli5 hc5 hn5 hl5 nn4 ll4 nl4 k0 k1 li0 li1 b7 hc7 nl7 hw7 hw3' hcv hcv2 hz1 hz2 hH bel4 b4 hlo2 h4 h6 ho4 hz4 hzl4
 go_wp2_with (go_at_call 11; refine hstr.mono ?_; rintro e8 w8 ⟨rfl, m8, rfl⟩; have k08 := k07 m8; have k18 := k17 m8; have hc8 := hcs m8; have hd8 := hct m8)
 first | go_ret | go_ret2
 exact ⟨rfl, below_drewN A7.out _⟩
end Go.Proofs.YtpihipbeagpgpaaGreatDoor

/-
  Own texts of this seat, one behind the other: what each says stands ahead of it.
-/
import Derived.Test.YtikdpnpkmmmacabDoorMa
import Derived.OwnWalk
import Derived.BigQuiet
import Derived.Test.YtikdpnpkmmmacabDoorProg
import Derived.WalkSpells
import Derived.OpenShut
import Derived.WalkMore
import Derived.ScopeJumps
import Derived.Deep.QuietTactic
import Derived.Laws.CopyOwn
import Derived.Deep.LoopGhost
import Derived.Laws.MakeOwn
import Derived.Laws.OwnMore
/-
  What the program's New comes to.
-/
namespace Go.Proofs.YtikdpnpkmmmacabDoor
open Go.RowKit
set_option linter.unusedVariables false
/-- The program's table in memory, in blocks from lo to hi. -/
def PT (w : World) (lo hi T : Nat) (ls : List Nat) : Prop := ∃ g M k, Tq w T g M k ls ls.length ∧ lo ≤ T ∧ T < hi ∧ lo ≤ g ∧ g < hi ∧ lo ≤ M ∧ M < hi ∧ part ls 15 ≤ 32768 ∧ ∀ x ∈ ls, x ≤ 15
theorem Tq.heap {w u : World} {T g M k : Nat} {ls : List Nat} {i : Nat} (h : Tq w T g M k ls i) (e1 : u.heap[T]? = w.heap[T]?) (e2 : u.heap[g]? = w.heap[g]?) (e3 : u.heap[M]? = w.heap[M]?) : Tq u T g M k ls i := by
  obtain ⟨h1, h2, G, h3, h4⟩ := h
  exact ⟨e1.trans h1, h2.heap e2, G, h3.heap e3, h4⟩
theorem PT.keep {w u : World} {lo hi T : Nat} {ls : List Nat} (h : PT w lo hi T ls) (k : ∀ k, lo ≤ k → k < hi → u.heap[k]? = w.heap[k]?) : PT u lo hi T ls := by
  obtain ⟨g, M, k', h1, a, b, c, d, e, f, q⟩ := h
  exact ⟨g, M, k', h1.heap (k T a b) (k g c d) (k M e f), a, b, c, d, e, f, q⟩
theorem Okl.le15 {zs : List Int} (h : Okl zs) : ∀ l ∈ lens zs, l ≤ 15 := by
  intro l hl
  unfold lens at hl
  obtain ⟨z, hz, rfl⟩ := List.mem_map.1 hl
  have := h.2 z hz
  omega
theorem Okl.cast {zs : List Int} (h : Okl zs) {i : Nat} {z : Int} (hz : zs[i]? = some z) : ∃ m : Nat, z = (m : Int) ∧ (lens zs)[i]? = some m := by
  have := h.2 z (List.mem_of_getElem? hz)
  exact ⟨z.toNat, by omega, by unfold lens; rw [List.getElem?_map, hz]; rfl⟩
theorem kr_parts : ∀ {ls : List Nat}, (∀ l ∈ ls, l ≤ 15) → ∃ o r, kr ls = 16384 * ls.count 1 + r ∧ used ls = ls.count 1 + o ∧ (r = 0 ↔ o = 0)
  | [], _ => ⟨0, 0, rfl, rfl, Iff.rfl⟩
  | l :: ls, h => by
    obtain ⟨o, r, h1, h2, h3⟩ := kr_parts (ls := ls) (fun x hx => h x (by simp [hx]))
    have hl := h l (by simp)
    have hu : used (l :: ls) = used ls + (if l = 0 then 0 else 1) := by
      unfold used
      simp only [List.countP_cons]
      by_cases e : l = 0
      · simp [e]
      · have : 0 < l := by omega
        simp [e, this]
    rw [hu, kr, List.count_cons]
    by_cases e0 : l = 0
    · subst e0
      exact ⟨o, r, by simp [h1], by simp [h2], h3⟩
    · by_cases e1 : l = 1
      · subst e1
        exact ⟨o, r, by simp [h1]; omega, by simp [h2]; omega, h3⟩
      · have hp : 0 < 2 ^ (15 - l) := Nat.pow_pos (by decide)
        have hb : (l == 1) = false := by rw [beq_eq_false_iff_ne]; exact e1
        refine ⟨o + 1, 2 ^ (15 - l) + r, ?_, ?_, ?_⟩
        · rw [if_neg e0, hb, h1]; simp; omega
        · rw [if_neg e0, hb, h2]; simp; omega
        · omega
/-- What is asked of the sums, in the document's words. -/
theorem under_row {ls : List Nat} (h15 : ∀ l ∈ ls, l ≤ 15) (h : kr ls ≤ 32768) : cerr (fun j => ls.count j) = if Under ls then 81 else 0 := by
  unfold cerr
  rw [psum_part, ← kr_part h15, if_neg (by omega)]
  obtain ⟨o, r, h1, h2, h3⟩ := kr_parts h15
  by_cases hu : Under ls
  · rw [if_pos hu, if_neg]
    unfold Under at hu
    obtain ⟨a, b, c⟩ := hu
    rintro (e | e | ⟨e1, e2⟩)
    · omega
    · omega
    · have e2' : ls.count 1 = 1 := e2
      omega
  · rw [if_neg hu, if_pos]
    unfold Under at hu
    by_cases a : kr ls = 32768
    · exact Or.inl a
    · by_cases b : used ls = 0
      · exact Or.inr (Or.inl (by omega))
      · have c : ls.count 1 = 1 := by omega
        exact Or.inr (Or.inr ⟨by omega, c⟩)
theorem over_row {ls : List Nat} (h15 : ∀ l ∈ ls, l ≤ 15) (h : 32768 < kr ls) : cerr (fun j => ls.count j) = 80 := by
  unfold cerr
  rw [psum_part, ← kr_part h15, if_pos h]
theorem nerr_cerr {zs : List Int} (h : Okl zs) : cerr (fun j => (lens zs).count j) = nerr zs := by
  unfold nerr
  rw [if_neg (by simpa using h)]
  by_cases h2 : 32768 < kr (lens zs)
  · rw [if_pos h2]; exact over_row h.le15 h2
  · rw [if_neg h2]; exact under_row h.le15 (by omega)
theorem count_le {zs : List Int} (h : Okl zs) (j : Nat) : (lens zs).count j ≤ 320 := by
  have e1 := List.count_le_length (a := j) (l := lens zs)
  have e2 : (lens zs).length ≤ 320 := by unfold lens; rw [List.length_map]; exact h.1
  exact Nat.le_trans e1 e2
set_option maxRecDepth 100000 in
set_option maxHeartbeats 2000000 in
/-- Lengths that may not be. -/
theorem new_arg (a : Option Addr) (zs : List Int) (L C : Nat) (w : World) (h : Lens w a zs) (hL : zs.length = L) (hLb : L < 140737488355328) (hno : ¬ Okl zs) :
    Calls Tryd.prog 30 #[.slice a L C] w fun e w' => e = .returned (.tuple #[.pointer none, .int .i64 2]) ∧ Below w.heap.size w w' := by
  have hcount := count_c a zs L C (fun _ => 0) false w h hL hLb (Or.inr ⟨hno, rfl, rfl⟩)
  obtain ⟨R, hR⟩ : ∃ R, (rw16 fun _ => 0) = R := ⟨_, rfl⟩
  rw [hR] at hcount
  have hRs : R.size = 16 := by rw [← hR]; exact rw16_size _
  have hR1 : R.all (·.oneCell') = true := by rw [← hR]; exact rw16_one _
  have hz : ∀ w', (zeroValue 72).run Tryd.prog w' = .ok (.agg R) w' := fun w' => by rw [← hR]; kernel_rfl
  clear h hL hLb hno hR
  go_enter Tryd.func30, Tryd.ntmps30
  go_wp2_with (first
    | (go_at_call 36; refine hcount.mono ?_; rintro e2 w2 ⟨rfl, hb2⟩
       have c2 := Cells.new w2 R 72
       have b2 : Aside (Below w.heap.size w w2) := hb2
       clear hb2)
    | (refine wpList_store_row rfl 72 (.tmp 4) (.tmp 14) rfl w2.heap.size R rfl rfl 72 R c2 (by rw [hRs]; exact size59) rfl hR1 ?_))
  first | go_ret | go_ret2
  exact ⟨rfl, (b2.out.alloc b2.out.size _).trans ((only_row c2 R).below b2.out.size)⟩
set_option maxRecDepth 100000 in
set_option maxHeartbeats 2000000 in
/-- Lengths that may be, but whose codes take too much or too little room. -/
theorem new_room (a : Option Addr) (zs : List Int) (L C e0 : Nat) (w : World) (h : Lens w a zs) (hL : zs.length = L) (hLb : L < 140737488355328) (hok : Okl zs) (he : nerr zs = e0) (he0 : e0 ≠ 0) :
    Calls Tryd.prog 30 #[.slice a L C] w fun e w' => e = .returned (.tuple #[.pointer none, .int .i64 (e0 : Int)]) ∧ Below w.heap.size w w' := by
  have hcount := count_c a zs L C (fun j => (lens zs).count j) true w h hL hLb (Or.inl ⟨hok, rfl, rfl⟩)
  have hcheck := check_c (fun j => (lens zs).count j) (count_le hok) e0 (by rw [nerr_cerr hok]; exact he)
  obtain ⟨R, hR⟩ : ∃ R, (rw16 fun j => (lens zs).count j) = R := ⟨_, rfl⟩
  rw [hR] at hcount hcheck
  have hRs : R.size = 16 := by rw [← hR]; exact rw16_size _
  have hR1 : R.all (·.oneCell') = true := by rw [← hR]; exact rw16_one _
  have hz : ∀ w', (zeroValue 72).run Tryd.prog w' = .ok (.agg (rw16 fun _ => 0)) w' := fun w' => by kernel_rfl
  have hne : ((e0 : Int) == 0) = false := beq_eq_false_iff_ne.2 (by omega)
  clear h hL hLb hok hR he he0
  go_enter Tryd.func30, Tryd.ntmps30
  go_upto_region 4 with (first
    | (go_at_call 36; refine hcount.mono ?_; rintro e2 w2 ⟨rfl, hb2⟩
       have c2 := Cells.new w2 (rw16 fun _ => 0) 72
       have b2 : Aside (Below w.heap.size w w2) := hb2
       clear hb2)
    | (refine wpList_store_row rfl 72 (.tmp 4) (.tmp 14) rfl w2.heap.size R rfl rfl 72 (rw16 fun _ => 0) c2 (by rw [hRs]; exact size59) (by rw [hRs]; rfl) hR1 ?_))
  have c3 := set_row c2 R
  have b3 : Aside (Below w.heap.size w ((w2.alloc (.cells (rw16 fun _ => 0) 72)).setRow w2.heap.size R)) := (b2.out.alloc b2.out.size _).trans ((only_row c2 R).below b2.out.size)
  obtain ⟨w3, hw3⟩ : ∃ w3, w3 = (w2.alloc (.cells (rw16 fun _ => 0) 72)).setRow w2.heap.size R := ⟨_, rfl⟩
  rw [← hw3] at c3 b3 ⊢
  obtain ⟨D, hD⟩ : ∃ D, w2.heap.size = D := ⟨_, rfl⟩
  rw [hD] at c3 ⊢
  clear c2 hw3 hD b2
  go_wp2_with (first
    | (refine wpList_load_row rfl 72 (.tmp 4) rfl D rfl 72 _ (0, 0) _ c3 Tryd.underlying72 rfl (by rw [hRs]; exact size59) ?_)
    | (go_at_call 37; refine (hcheck _).mono ?_; rintro e4 w4 ⟨rfl, hb4⟩))
  first | go_ret | go_ret2
  exact ⟨rfl, b3.out.trans (hb4.mono b3.out.size)⟩
theorem info70 : (Tryd.prog.info? 83).map (fun i => (i.zero, i.size, i.bytes)) = some (some (.agg #[.int .u32 0, .int .u32 0]), 2, 8) := by kernel_rfl
theorem made_codes (n : Nat) (hn : n ≤ 1048576) (w : World) : (Instr.makeSlice 76 (.int .i64 (n : Int)) (.int .i64 (n : Int))).run Tryd.prog w = .ok (.slice (some ⟨w.heap.size, 0, none⟩) n n) (w.alloc (.cells (Array.replicate (n * 2) (Value.int .u32 0)) 83)) := by
  obtain ⟨i, hi, hz, hs, hb⟩ := info_parts info70
  have := run_make (P := Tryd.prog) w 76 83 i _ Tryd.underlying76 hi hz .i64 .i64 n n (by omega) (by omega) (by rw [hb]; omega) (by omega)
  rw [this, hs]
  have e : madeCells (Value.agg #[.int .u32 0, .int .u32 0]).cells ((n : Int).toNat * 2) = (Array.replicate (n * 2) (Value.int .u32 0)) := by
    apply Array.ext_getElem?
    intro j
    by_cases hj : j < n * 2
    · rcases Nat.mod_two_eq_zero_or_one j with h | h <;> simp [madeCells, Value.cells, hj, h]
    · simp [madeCells, hj]
  rw [e]
  simp
theorem run_makeMap_hint (n : Int) (w : World) : (Instr.makeMap 77 (some (.int .i64 n))).run Tryd.prog w = .ok (.map (some w.heap.size)) (w.alloc (.map #[] 0)) := by
  simp [Instr.makeMap, run_underlying Tryd.underlying77, asInt, asIntOf, Result.andThen]
theorem Tq.new {w : World} {T g M : Nat} {ls : List Nat} (ht : Cells w T #[.slice (some ⟨g, 0, none⟩) ls.length ls.length, .map (some M)] 79) (hg : Cells w g (Array.replicate (ls.length * 2) (Value.int .u32 0)) 83) (hm : Mp w M 0 (fun _ _ => none)) : Tq w T g M 0 ls 0 := by
  refine ⟨ht, ⟨_, hg, by simp; omega, fun j m hj => ⟨fun h => by omega, fun _ => ?_⟩⟩, _, hm, Laidm.none ls⟩
  have := lt_of_at hj
  constructor
  · rw [Array.getElem?_replicate, if_pos (by omega)]
  · rw [Array.getElem?_replicate, if_pos (by omega)]
theorem size_al (w : World) (o : Obj) : (w.alloc o).heap.size = w.heap.size + 1 := Array.size_push _
theorem Mp.al {w : World} {M k : Nat} {G : Nat → Nat → Option Int} (h : Mp w M k G) (o : Obj) : Mp (w.alloc o) M k G := h.heap (Below.heap_alloc w o M h.lt)
/-- What lies in memory behind the table's making. -/
def Made (w4 wc : World) (N T : Nat) (ls : List Nat) : Prop := ∃ g M, Tq wc T g M 0 ls 0 ∧ N ≤ T ∧ N ≤ g ∧ N ≤ M ∧ T ≠ g ∧ T ≠ M ∧ g ≠ M ∧ T < wc.heap.size ∧ g < wc.heap.size ∧ M < wc.heap.size ∧ Below N w4 wc
theorem made_ab (w4 : World) (N L : Nat) (ls : List Nat) (hN : w4.heap.size = N) (hL : ls.length = L) :
    Made w4 (((w4.alloc (.cells (Array.replicate (L * 2) (Value.int .u32 0)) 83)).alloc (.map #[] 0)).alloc (.cells #[.slice (some ⟨N, 0, none⟩) L L, .map (some (N + 1))] 79)).drew N (N + 1 + 1) ls := by
  subst hN hL
  have s1 := size_al w4 (.cells (Array.replicate (ls.length * 2) (Value.int .u32 0)) 83)
  have c1 := Cells.new w4 (Array.replicate (ls.length * 2) (Value.int .u32 0)) 83
  have b1 := (Below.refl w4.heap.size w4).alloc (Nat.le_refl _) (.cells (Array.replicate (ls.length * 2) (Value.int .u32 0)) 83)
  generalize (w4.alloc (.cells (Array.replicate (ls.length * 2) (Value.int .u32 0)) 83)) = w5 at *
  have s2 := size_al w5 (.map #[] 0)
  have c2 := c1.alloc (.map #[] 0)
  have m2 := Mp.made w5
  have b2 := b1.alloc (by omega) (.map #[] 0)
  generalize (w5.alloc (.map #[] 0)) = w6 at *
  rw [s1] at s2 m2
  have s3 := size_al w6 (.cells #[.slice (some ⟨w4.heap.size, 0, none⟩) ls.length ls.length, .map (some (w4.heap.size + 1))] 79)
  have t3 := Cells.new w6 #[.slice (some ⟨w4.heap.size, 0, none⟩) ls.length ls.length, .map (some (w4.heap.size + 1))] 79
  rw [s2] at s3 t3
  have sd : ((w6.alloc (.cells #[.slice (some ⟨w4.heap.size, 0, none⟩) ls.length ls.length, .map (some (w4.heap.size + 1))] 79)).drew).heap.size = w4.heap.size + 1 + 1 + 1 := s3
  exact ⟨w4.heap.size, w4.heap.size + 1, Tq.new t3.drew (c2.alloc _).drew (m2.al _).drew, by omega, by omega, by omega, by omega, by omega, by omega, by omega, by omega, by omega, (b2.alloc (by omega) _).drew⟩
theorem made_ba (w4 : World) (N L : Nat) (ls : List Nat) (hN : w4.heap.size = N) (hL : ls.length = L) :
    Made w4 (((w4.alloc (.map #[] 0)).alloc (.cells (Array.replicate (L * 2) (Value.int .u32 0)) 83)).alloc (.cells #[.slice (some ⟨N + 1, 0, none⟩) L L, .map (some N)] 79)).drew N (N + 1 + 1) ls := by
  subst hN hL
  have s1 := size_al w4 (.map #[] 0)
  have m1 := Mp.made w4
  have b1 := (Below.refl w4.heap.size w4).alloc (Nat.le_refl _) (.map #[] 0)
  generalize (w4.alloc (.map #[] 0)) = w5 at *
  have s2 := size_al w5 (.cells (Array.replicate (ls.length * 2) (Value.int .u32 0)) 83)
  have c2 := Cells.new w5 (Array.replicate (ls.length * 2) (Value.int .u32 0)) 83
  have m2 := m1.al (.cells (Array.replicate (ls.length * 2) (Value.int .u32 0)) 83)
  have b2 := b1.alloc (by omega) (.cells (Array.replicate (ls.length * 2) (Value.int .u32 0)) 83)
  generalize (w5.alloc (.cells (Array.replicate (ls.length * 2) (Value.int .u32 0)) 83)) = w6 at *
  rw [s1] at s2 c2
  have s3 := size_al w6 (.cells #[.slice (some ⟨w4.heap.size + 1, 0, none⟩) ls.length ls.length, .map (some w4.heap.size)] 79)
  have t3 := Cells.new w6 #[.slice (some ⟨w4.heap.size + 1, 0, none⟩) ls.length ls.length, .map (some w4.heap.size)] 79
  rw [s2] at s3 t3
  have sd : ((w6.alloc (.cells #[.slice (some ⟨w4.heap.size + 1, 0, none⟩) ls.length ls.length, .map (some w4.heap.size)] 79)).drew).heap.size = w4.heap.size + 1 + 1 + 1 := s3
  exact ⟨w4.heap.size + 1, w4.heap.size, Tq.new t3.drew (c2.alloc _).drew (m2.al _).drew, by omega, by omega, by omega, by omega, by omega, by omega, by omega, by omega, by omega, (b2.alloc (by omega) _).drew⟩
/-- The next code of each length. -/
def nx (ls : List Nat) (i j : Nat) : Nat := if j = 0 then 0 else code ls i j
theorem nx_start (ls : List Nat) (j : Nat) : nx ls 0 j = first ls j := by
  unfold nx code
  by_cases h : j = 0
  · subst h; rfl
  · rw [if_neg h]; simp
theorem nx_skip {ls : List Nat} {i : Nat} (h : ls[i]? = some 0) (j : Nat) : nx ls (i + 1) j = nx ls i j := by
  unfold nx code
  by_cases e : j = 0
  · rw [if_pos e, if_pos e]
  · rw [if_neg e, if_neg e, rank_step h j, if_neg (fun h => e h.symm)]; rfl
theorem nx_step {ls : List Nat} {i m : Nat} (h : ls[i]? = some m) (hm : 0 < m) (j : Nat) : nx ls (i + 1) j = if j = m then code ls i m + 1 else nx ls i j := by
  unfold nx code
  by_cases e : j = 0
  · rw [if_pos e, if_pos e, if_neg (by omega)]
  · rw [if_neg e, if_neg e, rank_step h j]
    by_cases e2 : j = m
    · subst e2; rw [if_pos rfl, if_pos rfl]; omega
    · rw [if_neg e2, if_neg (fun h => e2 h.symm)]; omega
set_option maxRecDepth 100000 in
set_option maxHeartbeats 4000000 in
theorem new_yes (a : Option Addr) (zs : List Int) (L C : Nat) (w : World) (h : Lens w a zs) (hL : zs.length = L) (hLb : L < 140737488355328) (he : nerr zs = 0) :
    Calls Tryd.prog 30 #[.slice a L C] w fun e w' => ∃ T, e = .returned (.tuple #[.pointer (some ⟨T, 0, none⟩), .int .i64 0]) ∧ PT w' w.heap.size w'.heap.size T (lens zs) ∧ Below w.heap.size w w' := by
  obtain ⟨hok, hkr, _⟩ := nerr_ok he
  have hcount := count_c a zs L C (fun j => (lens zs).count j) true w h hL hLb (Or.inl ⟨hok, rfl, rfl⟩)
  have hcheck := check_c (fun j => (lens zs).count j) (count_le hok) 0 (by rw [nerr_cerr hok]; exact he)
  have hfirsts := firsts_c (fun j => (lens zs).count j) (count_le hok)
  have efr : rw16 (frs fun j => (lens zs).count j) = rw16 (first (lens zs)) := rw16_congr fun j _ => frs_first _ j
  rw [efr] at hfirsts
  obtain ⟨R, hR⟩ : ∃ R, (rw16 fun j => (lens zs).count j) = R := ⟨_, rfl⟩
  rw [hR] at hcount hcheck hfirsts
  have hRs : R.size = 16 := by rw [← hR]; exact rw16_size _
  have hR1 : R.all (·.oneCell') = true := by rw [← hR]; exact rw16_one _
  have hz : ∀ w', (zeroValue 72).run Tryd.prog w' = .ok (.agg (rw16 fun _ => 0)) w' := fun w' => by kernel_rfl
  have hL320 : L ≤ 320 := by have := hok.1; omega
  have hlL : (lens zs).length = L := by unfold lens; rw [List.length_map]; exact hL
  have AH : Aside (Lens w a zs ∧ zs.length = L ∧ Okl zs ∧ kr (lens zs) ≤ 32768 ∧ (lens zs).length = L) := ⟨h, hL, hok, hkr, hlL⟩
  clear h hL hLb hok hR he efr hkr hlL
  go_enter Tryd.func30, Tryd.ntmps30
  go_upto_region 4 with (first
    | (go_at_call 36; refine hcount.mono ?_; rintro e2 w2 ⟨rfl, hb2⟩
       have c2 := Cells.new w2 (rw16 fun _ => 0) 72
       have b2 : Aside (Below w.heap.size w w2) := hb2
       clear hb2)
    | (refine wpList_store_row rfl 72 (.tmp 4) (.tmp 14) rfl w2.heap.size R rfl rfl 72 (rw16 fun _ => 0) c2 (by rw [hRs]; exact size59) (by rw [hRs]; rfl) hR1 ?_))
  have c3 := set_row c2 R
  have b3 : Aside (Below w.heap.size w ((w2.alloc (.cells (rw16 fun _ => 0) 72)).setRow w2.heap.size R)) := (b2.out.alloc b2.out.size _).trans ((only_row c2 R).below b2.out.size)
  obtain ⟨w3, hw3⟩ : ∃ w3, w3 = (w2.alloc (.cells (rw16 fun _ => 0) 72)).setRow w2.heap.size R := ⟨_, rfl⟩
  rw [← hw3] at c3 b3 ⊢
  obtain ⟨D, hD⟩ : ∃ D, w2.heap.size = D := ⟨_, rfl⟩
  rw [hD] at c3 ⊢
  clear c2 hw3 hD b2
  go_upto_region 7 with (first
    | (refine wpList_load_row rfl 72 (.tmp 4) rfl D rfl 72 _ (0, 0) _ c3 Tryd.underlying72 rfl (by rw [hRs]; exact size59) ?_)
    | (go_at_call 37; refine (hcheck _).mono ?_; rintro e4 w4 ⟨rfl, hb4⟩))
  have b4 : Aside (Below w.heap.size w w4 ∧ Cells w4 D R 72) := ⟨b3.out.trans (hb4.mono b3.out.size), c3.below hb4 c3.lt⟩
  clear hb4 b3 c3 hcheck hcount
  obtain ⟨N, hN⟩ : ∃ N, w4.heap.size = N := ⟨_, rfl⟩
  have AN : Aside (w4.heap.size = N) := hN
  have hms := made_codes L (by omega)
  have hmm := run_makeMap_hint
  go_cut [7] (fun s7 wc => ∃ T, s7 = .pointer (some ⟨T, 0, none⟩) ∧ Aside (Made w4 wc N T (lens zs)))
  case first =>
    go_region
    · go_wp2_with fail
      go_meet
      exact ⟨_, rfl, made_ab w4 N L (lens zs) AN.out AH.out.2.2.2.2⟩
    · go_wp2_with fail
      go_meet
      exact ⟨_, rfl, made_ba w4 N L (lens zs) AN.out AH.out.2.2.2.2⟩
  case rest =>
    obtain ⟨T, rfl, hM⟩ := hcut
    obtain ⟨g, M, hM⟩ := hM.out
    have AM : Aside (Tq wc T g M 0 (lens zs) 0 ∧ N ≤ T ∧ N ≤ g ∧ N ≤ M ∧ T ≠ g ∧ T ≠ M ∧ g ≠ M ∧ T < wc.heap.size ∧ g < wc.heap.size ∧ M < wc.heap.size ∧ Below N w4 wc) := hM
    have c5 : Cells wc D R 72 := b4.out.2.below hM.2.2.2.2.2.2.2.2.2.2 (by rw [← AN.out]; exact b4.out.2.lt)
    have b5 : Aside (Below w.heap.size w wc) := b4.out.1.trans (hM.2.2.2.2.2.2.2.2.2.2.mono (by have := b4.out.1.size; rw [AN.out] at this; exact this))
    clear hM hms hmm hN
    go_upto_region 9 with (first
      | (refine wpList_load_row rfl 72 (.tmp 4) rfl D rfl 72 _ (0, 0) _ c5 Tryd.underlying72 rfl (by rw [hRs]; exact size59) ?_)
      | (go_at_call 38; refine (hfirsts _).mono ?_; rintro e6 w6 ⟨rfl, hb6⟩
         have c6 := Cells.new w6 (rw16 fun _ => 0) 72
         have b6 : Aside (Below wc.heap.size wc w6) := hb6
         clear hb6)
      | (refine wpList_store_row rfl 72 (.tmp 8) (.tmp 33) rfl w6.heap.size (rw16 (first (lens zs))) rfl rfl 72 (rw16 fun _ => 0) c6 (by rw [rw16_size]; exact size59) rfl (rw16_one _) ?_))
    have c7 := set_row c6 (rw16 (first (lens zs)))
    have o7 := only_row c6 (rw16 (first (lens zs)))
    have s7 : ((w6.alloc (.cells (rw16 fun _ => 0) 72)).setRow w6.heap.size (rw16 (first (lens zs)))).heap.size = w6.heap.size + 1 := by rw [o7.size]; exact size_al _ _
    have b7 : Below wc.heap.size wc ((w6.alloc (.cells (rw16 fun _ => 0) 72)).setRow w6.heap.size (rw16 (first (lens zs)))) := (b6.out.alloc b6.out.size _).trans (o7.below b6.out.size)
    obtain ⟨w7, hw7⟩ : ∃ w7, w7 = (w6.alloc (.cells (rw16 fun _ => 0) 72)).setRow w6.heap.size (rw16 (first (lens zs))) := ⟨_, rfl⟩
    rw [← hw7] at c7 s7 b7 ⊢
    obtain ⟨F, hF⟩ : ∃ F, w6.heap.size = F := ⟨_, rfl⟩
    have hFw : wc.heap.size ≤ F := by rw [← hF]; exact b6.out.size
    rw [hF] at c7 s7 ⊢
    have A7 : Aside (Cells w7 F (rw16 (first (lens zs))) 72 ∧ Below w.heap.size w w7 ∧ Tq w7 T g M 0 (lens zs) 0 ∧ w.heap.size ≤ N ∧ N ≤ T ∧ N ≤ g ∧ N ≤ M ∧ T ≠ g ∧ T ≠ M ∧ g ≠ M ∧ T < F ∧ g < F ∧ M < F) := by
      have m := AM.out
      refine ⟨c7, b5.out.trans (b7.mono b5.out.size), m.1.heap (b7.block T (by omega)) (b7.block g (by omega)) (b7.block M (by omega)), ?_, m.2.1, m.2.2.1, m.2.2.2.1, m.2.2.2.2.1, m.2.2.2.2.2.1, m.2.2.2.2.2.2.1, by omega, by omega, by omega⟩
      have := b4.out.1.size; rw [AN.out] at this; exact this
    clear c5 c6 o7 s7 b7 hw7 hF hFw b6 AM b5 c7 b4 AN
    obtain ⟨B, hB⟩ : ∃ B, w.heap.size = B := ⟨_, rfl⟩
    have AB : Aside (w.heap.size = B) := hB
    clear hB
    go_wp2_with fail
    go_loopg [36] L (fun gg si wr => ∃ (i k : Nat), si = .int .i64 (i : Int) ∧ Aside (i + gg = L ∧ k ≤ 16 * i ∧ Tq wr T g M k (lens zs) i ∧ Cells wr F (rw16 (nx (lens zs) i)) 72 ∧ Below w.heap.size w wr))
    case atStart =>
      have e : rw16 (nx (lens zs) 0) = rw16 (first (lens zs)) := rw16_congr fun j _ => nx_start _ j
      exact ⟨0, 0, rfl, by omega, by omega, A7.out.2.2.1, by rw [e]; exact A7.out.1, A7.out.2.1⟩
    case round =>
      obtain ⟨i, k, rfl, hI⟩ := hrel
      by_cases hiL : i < L
      · have hi : (i : Int) < (L : Int) := by omega
        obtain ⟨z, hz1⟩ : ∃ z, zs[i]? = some z := ⟨_, List.getElem?_eq_getElem (by have := AH.out; omega)⟩
        obtain ⟨m, rfl, hm⟩ := AH.out.2.2.1.cast hz1
        have hm15 := AH.out.2.2.1.le15 m (List.mem_of_getElem? hm)
        rcases AH.out.1 with e | ⟨b, o, rfl, hc⟩
        · rw [e] at hz1; simp at hz1
        have hcw := hc i m hz1
        have cz : wr.cell? ⟨b, o + i, none⟩ = some (.int .i64 (m : Int)) := (hI.out.2.2.2.2.cell (p := ⟨b, o + i, none⟩) (World.block_lt_of_cell? w ⟨b, o + i, none⟩ hcw)).trans hcw
        have AZ : Aside (zs[i]? = some (m : Int) ∧ i < L ∧ (lens zs)[i]? = some m) := ⟨hz1, hiL, hm⟩
        clear hc hz1 hiL hcw hm
        by_cases hm0 : m = 0
        · subst hm0
          go_wp2_with fail
          go_roundg (L - (i + 1))
          case measure => have := hI.out.1; have := AZ.out.2.1; omega
          case rel =>
            refine ⟨i + 1, k, by go_num, by have := AZ.out.2.1; omega, by have := hI.out.2.1; omega, ⟨hI.out.2.2.1.t, hI.out.2.2.1.c.skip AZ.out.2.2, ?_⟩, ?_, hI.out.2.2.2.2⟩
            · obtain ⟨G, h1, h2⟩ := hI.out.2.2.1.m
              exact ⟨G, h1, h2.skip AZ.out.2.2⟩
            · have e : rw16 (nx (lens zs) (i + 1)) = rw16 (nx (lens zs) i) := rw16_congr fun j _ => nx_skip AZ.out.2.2 j
              rw [e]; exact hI.out.2.2.2.1
        · have hmp : (0 : Int) < (m : Int) := by omega
          have hmpN : 0 < m := by omega
          obtain ⟨c, hc⟩ : ∃ c, code (lens zs) i m = c := ⟨_, rfl⟩
          have hpart : part (lens zs) 15 ≤ 32768 := by rw [← kr_part AH.out.2.2.1.le15]; exact AH.out.2.2.2.1
          have hcb : c < 2 ^ m := by rw [← hc]; exact code_fits hpart AZ.out.2.2 hmpN hm15
          have hcb2 : c < 32768 := Nat.lt_of_lt_of_le hcb (show 2 ^ m ≤ 2 ^ 15 from Nat.pow_le_pow_right (by decide) hm15)
          have cq : wr.cell? ⟨F, m, none⟩ = some (.int .u32 (c : Int)) := by rw [hI.out.2.2.2.1.cell, rw16_at _ _ (by omega), nx, if_neg hm0, hc]
          have hmI : (m : Int) ≤ 15 := by omega
          have a7 := A7.out
          have hlay := lay_c T g M k i m c (lens zs) wr hI.out.2.2.1 (by rw [AH.out.2.2.2.2]; exact hL320) AZ.out.2.2 hmpN hm15 hc hcb (by have := hI.out.2.1; have := AZ.out.2.1; omega) a7.2.2.2.2.2.2.2.1 a7.2.2.2.2.2.2.2.2.1 a7.2.2.2.2.2.2.2.2.2.1
          have AQ : Aside (code (lens zs) i m = c ∧ 0 < m) := ⟨hc, hmpN⟩
          clear hc hcb hm0 hpart a7 hmpN
          go_upto_region 14 with (go_at_call 39; refine hlay.mono ?_; rintro e8 w8 ⟨rfl, hq8, ht8⟩)
          have a7 := A7.out
          have c8 : Cells w8 F (rw16 (nx (lens zs) i)) 72 := hI.out.2.2.2.1.two ht8 (by omega) (by omega)
          have b8 : Below w.heap.size w w8 := hI.out.2.2.2.2.trans (ht8.below (by omega) (by omega) hI.out.2.2.2.2.size)
          have cq8 : w8.cell? ⟨F, m, none⟩ = some (.int .u32 (c : Int)) := by rw [c8.cell, rw16_at _ _ (by omega), nx, if_neg (by have := AQ.out.2; omega), AQ.out.1]
          have fq8 := c8.frozen m
          have A8 : Aside (Cells w8 F (rw16 (nx (lens zs) i)) 72 ∧ Below w.heap.size w w8 ∧ Tq w8 T g M (k + 16) (lens zs) (i + 1)) := ⟨c8, b8, hq8⟩
          clear c8 b8 hq8 ht8 hlay cq a7
          go_wp2_with fail
          go_roundg (L - (i + 1))
          case measure => have := hI.out.1; have := AZ.out.2.1; omega
          case rel =>
            have a7 := A7.out
            have o9 : Only F w8 (w8.setCell ⟨F, m, none⟩ (.int .u32 ((c : Int) + 1))) := (Only.refl F w8).setCell _ _
            refine ⟨i + 1, k + 16, by go_num, by have := AZ.out.2.1; omega, by have := hI.out.2.1; omega, A8.out.2.2.heap (o9.block T (by omega)) (o9.block g (by omega)) (o9.block M (by omega)), ?_, A8.out.2.1.trans (o9.below (by omega))⟩
            have := A8.out.1.set m (.int .u32 ((c + 1 : Nat) : Int))
            rw [rw16_set] at this
            have e : (rw16 fun j => if j = m then c + 1 else nx (lens zs) i j) = rw16 (nx (lens zs) (i + 1)) := rw16_congr fun j _ => by
              rw [nx_step AZ.out.2.2 AQ.out.2 j, AQ.out.1]
            rw [e] at this
            exact this
      · have hieq : i = L := by have := hI.out.1; omega
        have hni : ¬ (i : Int) < (L : Int) := by omega
        clear hiL
        go_wp2_with fail
        first | go_ret | go_ret2
        have a7 := A7.out
        have hI2 := hI.out
        rw [hieq] at hI2
        have hl := hI2.2.2.2.1.lt
        exact ⟨T, rfl, ⟨g, M, k, by rw [AH.out.2.2.2.2]; exact hI2.2.2.1, by omega, by omega, by omega, by omega, by omega, by omega, by rw [← kr_part AH.out.2.2.1.le15]; exact AH.out.2.2.2.1, AH.out.2.2.1.le15⟩, hI2.2.2.2.2⟩
end Go.Proofs.YtikdpnpkmmmacabDoor

/-
  What the program's Symbols and Code come to.
-/
namespace Go.Proofs.YtikdpnpkmmmacabDoor
open Go.RowKit
set_option linter.unusedVariables false
end Go.Proofs.YtikdpnpkmmmacabDoor

/-
  What the document's Code, begins and Look come to.
  Conditions: the table and the bits lie in memory.
-/
namespace Go.Proofs.YtikdpnpkmmmacabDoor
open Go.RowKit
set_option linter.unusedVariables false
/-- The world, some draws further on. -/
def Drawn (w u : World) : Prop := ∃ n, u = w.drewN n
theorem Drawn.refl (w : World) : Drawn w w := ⟨0, rfl⟩
theorem Drawn.drewN {w u : World} (h : Drawn w u) (n : Nat) : Drawn w (u.drewN n) := by
  obtain ⟨k, rfl⟩ := h
  exact ⟨k + n, by simp [World.drewN, Nat.add_assoc]⟩
theorem Drawn.trans {w u v : World} (h : Drawn w u) (k : Drawn u v) : Drawn w v := by
  obtain ⟨n, rfl⟩ := k
  exact h.drewN n
theorem Drawn.below {w u : World} (h : Drawn w u) (B : Nat) : Below B w u := by
  obtain ⟨n, rfl⟩ := h
  exact ⟨rfl, rfl, rfl, Nat.le_refl _, fun _ _ => rfl⟩
/-- Bits that lie side by side. -/
def Lb (w : World) (a : Option Addr) (l : List Bool) : Prop := l = [] ∨ ∃ (b o : Nat), a = some ⟨b, o, none⟩ ∧ ∀ (i : Nat) (x : Bool), l[i]? = some x → w.cell? ⟨b, o + i, none⟩ = some (.bool x)
theorem Lb.below {w u : World} {a : Option Addr} {l : List Bool} (h : Lb w a l) (k : Below w.heap.size w u) : Lb u a l := by
  rcases h with h | ⟨b, o, ha, hc⟩
  · exact Or.inl h
  · exact Or.inr ⟨b, o, ha, fun i x hx => (k.cell (p := ⟨b, o + i, none⟩) (World.block_lt_of_cell? w ⟨b, o + i, none⟩ (hc i x hx))).trans (hc i x hx)⟩
theorem Bb.lb {w : World} {b : Nat} {l : List Bool} (h : Bb w b l) : Lb w (some ⟨b, 0, none⟩) l := Or.inr ⟨b, 0, rfl, fun i x hx => by
  rw [Nat.zero_add, Cells.cell h]; simp [vb, hx]⟩
theorem pre_step {α : Type} {p q : List α} {k : Nat} {x y : α} (h : p.take k = q.take k) (hx : p[k]? = some x) (hy : q[k]? = some y) : p.take (k + 1) = q.take (k + 1) ↔ x = y := by
  rw [take_one hx, take_one hy, h]
  simp
end Go.Proofs.YtikdpnpkmmmacabDoor

/-
  What the document's Look and Code come to.
  Conditions: the table and the bits lie in memory; the lengths make codes.
-/
namespace Go.Proofs.YtikdpnpkmmmacabDoor
open Go.RowKit
set_option linter.unusedVariables false
/-- What a look at some bits tells: the symbol, what came, how many bits. -/
def Told (ls : List Nat) (h : List Bool) (s how k : Nat) : Prop :=
  (Hit ls h s k ∧ how = 0) ∨ ((∀ i n, ¬ Hit ls h i n) ∧ (∃ j n, ls[j]? = some n ∧ 0 < n ∧ h <+: cbits ls j) ∧ s = 0 ∧ how = 1 ∧ k = 0) ∨ ((∀ i n, ¬ Hit ls h i n) ∧ (¬ ∃ j n, ls[j]? = some n ∧ 0 < n ∧ h <+: cbits ls j) ∧ s = 0 ∧ how = 2 ∧ k = 0)
theorem cbits_at {ls : List Nat} {i n : Nat} (h : ls[i]? = some n) : cbits ls i = bitsB n (code ls i n) := by unfold cbits; rw [h]
theorem num_take_snoc {l : List Bool} {k : Nat} {x : Bool} (h : l[k]? = some x) : num (l.take (k + 1)) = 2 * num (l.take k) + (if x then 1 else 0) := by
  rw [take_one h, num_app]
  cases x <;> simp [num] <;> omega
end Go.Proofs.YtikdpnpkmmmacabDoor

/-
  What Reverse comes to, the program's and the document's: the lowest m bits of v, the lowest one first, gathered as a number; m is n between 0 and 32.
  Conditions: v is a number of 32 bits.
-/
namespace Go.Proofs.YtikdpnpkmmmacabDoor
open Go.RowKit
/-- k bits of v, the lowest one first, behind those of o. -/
def revl : Nat → Nat → Nat → Nat
  | 0, _, o => o
  | k + 1, v, o => revl k (v / 2) (2 * o + v % 2)
theorem revl_lt : ∀ (k v o i : Nat), o < 2 ^ i → revl k v o < 2 ^ (i + k)
  | 0, _, _, _, h => h
  | k + 1, v, o, i, h => by
    have := revl_lt k (v / 2) (2 * o + v % 2) (i + 1) (by rw [Nat.pow_succ]; omega)
    rw [show i + (k + 1) = i + 1 + k by omega]; exact this
theorem revl_add : ∀ (k v o : Nat), revl k v o = o * 2 ^ k + revl k v 0
  | 0, _, o => by simp [revl]
  | k + 1, v, o => by
    rw [revl, revl, revl_add k (v / 2) (2 * o + v % 2), revl_add k (v / 2) (2 * 0 + v % 2), Nat.pow_succ, Nat.add_mul, Nat.mul_zero, Nat.zero_add]
    rw [show 2 * o * 2 ^ k = o * (2 ^ k * 2) by rw [Nat.mul_comm 2 o, Nat.mul_assoc, Nat.mul_comm 2]]
    omega
/-- The highest bit comes last. -/
theorem revl_last : ∀ (k v : Nat), revl (k + 1) v 0 = 2 * revl k v 0 + v / 2 ^ k % 2
  | 0, v => by simp [revl]
  | k + 1, v => by
    rw [revl, revl_add (k + 1), revl_last k (v / 2), revl, revl_add k (v / 2) (2 * 0 + v % 2), Nat.div_div_eq_div_mul, ← Nat.pow_succ']
    rw [Nat.mul_zero, Nat.zero_add, Nat.pow_succ, ← Nat.mul_assoc]
    omega
theorem revl_div (k v : Nat) : revl k v 0 / 2 ^ k = 0 := Nat.div_eq_of_lt (by have := revl_lt k v 0 0 (by decide); rwa [Nat.zero_add] at this)
/-- Bits above the first k do not matter. -/
theorem revl_high : ∀ (k v o c : Nat), revl k (v + c * 2 ^ k) o = revl k v o
  | 0, _, _, _ => rfl
  | k + 1, v, o, c => by
    rw [revl, revl]
    have e : c * 2 ^ (k + 1) = 2 * (c * 2 ^ k) := by rw [Nat.pow_succ, ← Nat.mul_assoc, Nat.mul_comm]
    rw [e, show (v + 2 * (c * 2 ^ k)) % 2 = v % 2 by omega, show (v + 2 * (c * 2 ^ k)) / 2 = v / 2 + c * 2 ^ k by omega]
    exact revl_high k _ _ _
/-- Turned round again they are as they were. -/
theorem revl_twice : ∀ (k v : Nat), revl k (revl k v 0) 0 = v % 2 ^ k
  | 0, v => by simp [revl, Nat.mod_one]
  | k + 1, v => by
    rw [revl_last k (revl (k + 1) v 0)]
    have e1 : revl (k + 1) v 0 = revl k (v / 2) 0 + v % 2 * 2 ^ k := by rw [revl, revl_add, Nat.mul_zero, Nat.zero_add]; omega
    rw [e1, revl_high, revl_twice k (v / 2)]
    have h0 : 0 < 2 ^ k := Nat.two_pow_pos k
    have e2 : (revl k (v / 2) 0 + v % 2 * 2 ^ k) / 2 ^ k = v % 2 := by
      rw [Nat.add_mul_div_right _ _ h0, revl_div, Nat.zero_add]
    rw [e2]
    have e3 : v % 2 ^ (k + 1) = v % 2 + 2 * (v / 2 % 2 ^ k) := by rw [Nat.pow_succ', Nat.mod_mul]
    omega
/-- A bit more at the low end of a number of at most 31 bits. -/
theorem or_bit (o v i : Nat) (ho : o < 2 ^ i) (hi : i < 32) (hv : v < 4294967296) : bits .or .u32 ((o : Int) * 2 % 4294967296) (bits .and .u32 (v : Int) 1) = ((2 * o + v % 2 : Nat) : Int) := by
  have h1 : 2 ^ i ≤ 2147483648 := pow_le64 (show i ≤ 31 by omega)
  have e : (o : Int) * 2 % 4294967296 = ((2 * o : Nat) : Int) := by omega
  rw [e, show (1 : Int) = ((1 : Nat) : Int) from rfl, u32_and_nat v 1 hv (by decide), Nat.and_one_is_mod, u32_or_nat _ _ (by omega) (by omega)]
  congr 1
  exact (Nat.two_pow_add_eq_or_of_lt (i := 1) (b := v % 2) (by omega) o).symm

/-- n between 0 and 32. -/
def clamp (n : Int) : Nat := (max 0 (min n 32)).toNat
theorem clamp_le (n : Int) : clamp n ≤ 32 := by unfold clamp; omega

set_option maxHeartbeats 1000000 in
theorem rev_c (v : Nat) (hv : v < 4294967296) (n : Int) (w : World) :
    Calls Tryd.prog 47 #[.int .u32 v, .int .i64 n] w fun e w' => e = .returned (.int .u32 (revl (clamp n) v 0 : Nat)) ∧ w = w' := by
  obtain ⟨m, hm⟩ : ∃ m, clamp n = m := ⟨_, rfl⟩
  have hm2 : (m : Int) = max 0 (min n 32) := by unfold clamp at hm; omega
  rw [hm]
  go_enter Tryd.func47, Tryd.ntmps47
  go_wp2
  all_goals
    go_loop [0, 5, 9] (fun a o i => ∃ k v' o' : Nat, k ≤ m ∧ i = .int .i64 k ∧ a = .int .u32 v' ∧ o = .int .u32 o' ∧ v' < 4294967296 ∧ o' < 2 ^ k ∧ revl (m - k) v' o' = revl m v 0) (fun _ _ i => m - (intOf i).toNat)
    case atStart => exact ⟨0, v, 0, Nat.zero_le _, rfl, rfl, rfl, hv, by decide, rfl⟩
    case round =>
      obtain ⟨k, v', o', hk, rfl, rfl, rfl, hv', ho', hr⟩ := hrel
      go_wp2
      all_goals first
        | (have hlt : k < m := by omega
           obtain ⟨j, hj⟩ : ∃ j, m - k = j + 1 := ⟨m - k - 1, by omega⟩
           rw [hj, revl] at hr
           have hp : 2 ^ k ≤ 2147483648 := pow_le64 (show k ≤ 31 by omega)
           go_round
           case rel =>
             refine ⟨k + 1, v' / 2, 2 * o' + v' % 2, by omega, by go_num, by go_num, ?_, by omega, by rw [Nat.pow_succ]; omega, by rw [show m - (k + 1) = j by omega]; exact hr⟩
             rw [← or_bit o' v' k ho' (by omega) hv']
           case measure => simp [intOf]; omega)
        | (have hke : k = m := by omega
           subst hke
           rw [Nat.sub_self, revl] at hr
           go_ret
           exact ⟨by rw [← hr]; rfl, rfl⟩)
end Go.Proofs.YtikdpnpkmmmacabDoor

/-
  Bits that a reader holds, as a number and turned round: the number of the first ones, the first one highest. No walk in this text.
-/
namespace Go.Proofs.YtikdpnpkmmmacabDoor
open Go.RowKit
set_option linter.unusedVariables false
theorem radd_off (g o j : Nat) : (⟨g, o, none⟩ : Addr).add j = ⟨g, o + j, none⟩ := by unfold Addr.add; split <;> simp_all
theorem Told.le {ls : List Nat} {h : List Bool} {s how k : Nat} (t : Told ls h s how k) : k ≤ h.length := by
  rcases t with ⟨h1, _⟩ | ⟨_, _, _, _, rfl⟩ | ⟨_, _, _, _, rfl⟩
  · exact h1.2.2.1
  · omega
  · omega
theorem nm_bit {l : List Bool} {k : Nat} {x : Bool} (h : l[k]? = some x) : nm l / 2 ^ k % 2 = if x then 1 else 0 := by
  obtain ⟨hk, e⟩ := List.getElem?_eq_some_iff.1 h
  rw [← nm_drop, nm_ahead l k hk, e]
  cases x <;> simp <;> omega
theorem rev_num {l : List Bool} : ∀ k, k ≤ l.length → revl k (nm l) 0 = num (l.take k)
  | 0, _ => by simp [revl, num]
  | k + 1, h => by
    obtain ⟨x, hx⟩ : ∃ x, l[k]? = some x := ⟨_, List.getElem?_eq_getElem (by omega)⟩
    rw [revl_last, rev_num k (by omega), nm_bit hx, num_take_snoc hx]
/-- Of a number's lowest bits alone. -/
theorem rev_mod (n m v : Nat) (h : n ≤ m) : revl n (v % 2 ^ m) 0 = revl n v 0 := by
  have e : v = v % 2 ^ m % 2 ^ n + v / 2 ^ n * 2 ^ n := by
    rw [Nat.mod_mod_of_dvd _ (Nat.pow_dvd_pow 2 h), Nat.mul_comm]; exact (Nat.mod_add_div v (2 ^ n)).symm
  have e2 : v % 2 ^ m = v % 2 ^ m % 2 ^ n + v % 2 ^ m / 2 ^ n * 2 ^ n := by rw [Nat.mul_comm]; exact (Nat.mod_add_div _ _).symm
  rw [e2, revl_high, e, revl_high, ← e]
end Go.Proofs.YtikdpnpkmmmacabDoor

/-
  Worlds in which of all blocks that were there one alone may have turned.
-/
namespace Go.Proofs.YtikdpnpkmmmacabDoor
open Go.RowKit
set_option linter.unusedVariables false
/-- Of all blocks that are there M alone may have turned. -/
structure But (M : Nat) (w w' : World) : Prop where
  os : w'.os = w.os
  tape : w'.tape = w.tape
  output : w'.output = w.output
  size : w.heap.size ≤ w'.heap.size
  block : ∀ k, k < w.heap.size → k ≠ M → w'.heap[k]? = w.heap[k]?
end Go.Proofs.YtikdpnpkmmmacabDoor

/-
  What each method of bits' Reader comes to: at a nil reader, and at one that lies in memory, whose wide number is v and whose count is n.
  Conditions: n is at most 64, and v is below 2 to the n.
-/
namespace Go.Proofs.YtikdpnpkmmmacabDoor
open Go.RowKit

/-- A scope whose one label is jumped to, forward: what stands behind the label is gone through from there. -/
theorem wp_scope_forward {P : Program} {a : Act} {w : World} {Q : Exit → Act → World → Prop} {c rest : Code} (l : Nat) (hf : findLabel c l = some rest)
    (first : c.wp P (Exit.jump l (fun a w => rest.wp P (Exit.noGoto Q) a w) Q) a w) : (Code.scope c).wp P Q a w := by
  refine wp_scope_jumps l _ (fun _ _ => 0) hf first ?_
  intro a w h
  refine wp_mono h ?_
  intro e a w hq
  cases e with
  | goto l => exact hq.elim
  | _ => exact hq
section
variable {Q : Exit → Act → World → Prop} {a : Act} {w : World} {l : Nat} {J : Act → World → Prop}
theorem jump_ret : Exit.jump l J Q .ret a w = Q .ret a w := rfl
end

/-! ### nil -/
theorem held_nil (w : World) : Calls Tryd.prog 46 #[.pointer none] w fun e w' => e = .returned (.int .i64 0) ∧ w' = w := by
  go_enter Tryd.func46, Tryd.ntmps46
  go_wp2
  go_ret
  exact ⟨rfl, rfl⟩
theorem put_nil (b : Int) (w : World) : Calls Tryd.prog 16 #[.pointer none, .int .u8 b] w fun e w' => e = .returned (.bool false) ∧ w' = w := by
  go_enter Tryd.func16, Tryd.ntmps16
  go_wp2
  refine wp_scope_forward 0 rfl ?_
  go_wp2
  go_step3
  refine ⟨rfl, ?_⟩
  go_wp2
  rw [Exit.noGoto_ret]
  go_ret
  exact ⟨rfl, rfl⟩
theorem peek_nil (n : Int) (w : World) : Calls Tryd.prog 26 #[.pointer none, .int .i64 n] w fun e w' => e = .returned (.tuple #[.int .u32 0, .bool false]) ∧ w' = w := by
  go_enter Tryd.func26, Tryd.ntmps26
  go_wp2
  refine wp_scope_forward 0 rfl ?_
  go_wp2
  go_step3
  refine ⟨rfl, ?_⟩
  go_wp2
  rw [Exit.noGoto_ret]
  go_ret2
  exact ⟨rfl, rfl⟩
theorem take_nil (n : Int) (w : World) : Calls Tryd.prog 19 #[.pointer none, .int .i64 n] w fun e w' => e = .returned (.tuple #[.int .u32 0, .bool false]) ∧ w' = w := by
  go_enter Tryd.func19, Tryd.ntmps19
  go_wp2_with fail
  refine wp_scope_forward 0 rfl ?_
  go_wp2_with fail
  refine (peek_nil n _).mono ?_
  rintro e w' ⟨rfl, rfl⟩
  go_wp2_with fail
  go_step3
  refine ⟨rfl, ?_⟩
  go_wp2
  rw [Exit.noGoto_ret]
  go_ret2
  exact ⟨rfl, rfl⟩
/-! ### a reader that is there -/
/-- Block b holds a reader: its wide number, and its count. -/
def Rd (w : World) (b : Nat) (v n : Int) : Prop := ∃ t, Cells w b #[.int .u64 v, .int .u64 n] t
section
variable {w u : World} {b c : Nat} {v n : Int}
theorem Rd.c0 (h : Rd w b v n) : w.cell? ⟨b, 0, none⟩ = some (.int .u64 v) := by obtain ⟨t, h⟩ := h; rw [h.cell 0]; rfl
theorem Rd.c1 (h : Rd w b v n) : w.cell? ⟨b, 1, none⟩ = some (.int .u64 n) := by obtain ⟨t, h⟩ := h; rw [h.cell 1]; rfl
theorem Rd.fz (h : Rd w b v n) (i : Nat) : w.frozen? ⟨b, i, none⟩ = false := by obtain ⟨t, h⟩ := h; exact h.frozen i
theorem Rd.set0 (h : Rd w b v n) (v' : Int) : Rd (w.setCell ⟨b, 0, none⟩ (.int .u64 v')) b v' n := by obtain ⟨t, h⟩ := h; exact ⟨t, h.set 0 _⟩
theorem Rd.set1 (h : Rd w b v n) (n' : Int) : Rd (w.setCell ⟨b, 1, none⟩ (.int .u64 n')) b v n' := by obtain ⟨t, h⟩ := h; exact ⟨t, h.set 1 _⟩
theorem Rd.drewN (h : Rd w b v n) (k : Nat) : Rd (w.drewN k) b v n := h
theorem Rd.drew (h : Rd w b v n) : Rd w.drew b v n := h
theorem Rd.only (h : Rd w b v n) (k : Only c w u) (hb : b ≠ c) : Rd u b v n := by obtain ⟨t, h⟩ := h; exact ⟨t, h.only k hb⟩
theorem Rd.below {B : Nat} (h : Rd w b v n) (k : Below B w u) (hb : b < B) : Rd u b v n := by obtain ⟨t, h⟩ := h; exact ⟨t, h.below k hb⟩
theorem Rd.alloc (h : Rd w b v n) (o : Obj) : Rd (w.alloc o) b v n := by obtain ⟨t, h⟩ := h; exact ⟨t, h.alloc o⟩
theorem Rd.lt (h : Rd w b v n) : b < w.heap.size := by obtain ⟨t, h⟩ := h; exact h.lt
end
theorem Rd.new (w : World) (t : TypeId) : Rd (w.alloc (.cells #[.int .u64 0, .int .u64 0] t)) w.heap.size 0 0 := ⟨t, Cells.new w _ t⟩

theorem new_any (w : World) : Calls Tryd.prog 13 #[] w fun e w' => e = .returned (.pointer (some ⟨w.heap.size, 0, none⟩)) ∧ w' = w.alloc (.cells #[.int .u64 0, .int .u64 0] 57) := by
  go_enter Tryd.func13, Tryd.ntmps13
  go_wp2
  go_ret
  exact ⟨rfl, rfl⟩
theorem new_c (w : World) : Calls Tryd.prog 13 #[] w fun e w' => e = .returned (.pointer (some ⟨w.heap.size, 0, none⟩)) ∧ Rd w' w.heap.size 0 0 ∧ Below w.heap.size w w' ∧ w'.heap.size = w.heap.size + 1 :=
  (new_any w).mono fun _ _ h => ⟨h.1, by rw [h.2]; exact Rd.new _ _, by rw [h.2]; exact (Below.refl _ _).alloc (Nat.le_refl _) _, by rw [h.2]; simp⟩
theorem held_c (b : Nat) (v n : Int) (w : World) (h : Rd w b v n) (h0 : 0 ≤ n) (h64 : n ≤ 64) :
    Calls Tryd.prog 46 #[.pointer (some ⟨b, 0, none⟩)] w fun e w' => e = .returned (.int .i64 n) ∧ w = w' := by
  have h1 := h.c1
  go_enter Tryd.func46, Tryd.ntmps46
  go_wp2
  go_ret
  exact ⟨rfl, rfl⟩
end Go.Proofs.YtikdpnpkmmmacabDoor

/-
  What each method of bits' Reader comes to, at a reader in memory that holds n bits, their number v.
  Conditions: n is at most 64, and v is below 2 to the n; each method keeps that.
-/
namespace Go.Proofs.YtikdpnpkmmmacabDoor
open Go.RowKit

/-- Block b holds a reader of n bits, whose number is v. -/
structure Br (w : World) (b v n : Nat) : Prop where
  rd : Rd w b v n
  lt : v < 2 ^ n
  le : n ≤ 64
section
variable {w u : World} {b c v n : Nat}
theorem Br.drewN (h : Br w b v n) (k : Nat) : Br (w.drewN k) b v n := ⟨h.rd, h.lt, h.le⟩
theorem Br.drew (h : Br w b v n) : Br w.drew b v n := ⟨h.rd, h.lt, h.le⟩
theorem Br.only (h : Br w b v n) (k : Only c w u) (hb : b ≠ c) : Br u b v n := ⟨h.rd.only k hb, h.lt, h.le⟩
theorem Br.below {B : Nat} (h : Br w b v n) (k : Below B w u) (hb : b < B) : Br u b v n := ⟨h.rd.below k hb, h.lt, h.le⟩
theorem Br.alloc (h : Br w b v n) (o : Obj) : Br (w.alloc o) b v n := ⟨h.rd.alloc o, h.lt, h.le⟩
theorem Br.blt (h : Br w b v n) : b < w.heap.size := h.rd.lt
end
theorem new_b (w : World) : Calls Tryd.prog 13 #[] w fun e w' => e = .returned (.pointer (some ⟨w.heap.size, 0, none⟩)) ∧ Br w' w.heap.size 0 0 ∧ Below w.heap.size w w' ∧ w'.heap.size = w.heap.size + 1 :=
  (new_c w).mono fun _ _ h => ⟨h.1, ⟨h.2.1, by decide, by decide⟩, h.2.2⟩
theorem held_b (b v n : Nat) (w : World) (h : Br w b v n) : Calls Tryd.prog 46 #[.pointer (some ⟨b, 0, none⟩)] w fun e w' => e = .returned (.int .i64 n) ∧ w = w' :=
  held_c b v n w h.rd (by omega) (by have := h.le; omega)
theorem drop_b (b v n k : Nat) (w : World) (h : Br w b v n) (hk : k ≤ n) :
    Calls Tryd.prog 27 #[.pointer (some ⟨b, 0, none⟩), .int .u64 k] w fun e w' => e = .returned (.tuple #[]) ∧ Br w' b (v / 2 ^ k) (n - k) ∧ Only b w w' := by
  have h1 := h.rd.c0
  have h2 := h.rd.c1
  have h3 := h.rd.fz 0
  have h4 := h.rd.fz 1
  have h64 := h.le
  have hv := lt_word h.lt h.le
  go_enter Tryd.func27, Tryd.ntmps27
  go_wp2
  go_end0
  refine ⟨rfl, ⟨?_, div_lt v n k h.lt hk, by omega⟩, ?_⟩
  · have := (h.rd.set0 ((v : Int) / 2 ^ k)).set1 ((n : Int) - k)
    rw [div_nat] at this
    rw [show ((n - k : Nat) : Int) = (n : Int) - k by omega]
    simpa only [Int.toNat_natCast, div_nat] using this
  · exact ((Only.refl _ _).setCell _ _).setCell _ _
theorem put_no (b v n x : Nat) (w : World) (h : Br w b v n) (hn : 56 < n) :
    Calls Tryd.prog 16 #[.pointer (some ⟨b, 0, none⟩), .int .u8 x] w fun e w' => e = .returned (.bool false) ∧ w = w' := by
  have h2 := h.rd.c1
  have hn' : (56 : Int) < n := by omega
  go_enter Tryd.func16, Tryd.ntmps16
  go_wp2
  refine wp_scope_forward 0 rfl ?_
  go_wp2
  go_step3
  refine ⟨rfl, ?_⟩
  go_wp2
  rw [Exit.noGoto_ret]
  go_ret
  exact ⟨rfl, rfl⟩
theorem put_yes (b v n x : Nat) (w : World) (h : Br w b v n) (hn : n ≤ 56) (hx : x < 256) :
    Calls Tryd.prog 16 #[.pointer (some ⟨b, 0, none⟩), .int .u8 x] w fun e w' => e = .returned (.bool true) ∧ Br w' b (v + x * 2 ^ n) (n + 8) ∧ Only b w w' := by
  have h1 := h.rd.c0
  have h2 := h.rd.c1
  have h3 := h.rd.fz 0
  have h4 := h.rd.fz 1
  have hn' : ¬ (56 : Int) < n := by omega
  have hv := lt_word h.lt h.le
  go_enter Tryd.func16, Tryd.ntmps16
  go_wp2
  refine wp_scope_forward 0 rfl ?_
  go_wp2
  go_region
  go_wp2
  rw [jump_ret]
  go_ret
  refine ⟨rfl, ⟨?_, put_lt v n x h.lt hx, by omega⟩, ?_⟩
  · rw [or_put v n x h.lt hn hx]
    have := ((h.rd.set0 ((v + x * 2 ^ n : Nat) : Int)).set1 ((n : Int) + 8)).drew
    rw [show ((n + 8 : Nat) : Int) = (n : Int) + 8 by omega]
    exact this
  · exact (((Only.refl _ _).setCell _ _).setCell _ _).drew
/-- So many bits can be told: not below 0, not above 32, not above what is held. -/
def Can (k : Int) (n : Nat) : Prop := 0 ≤ k ∧ k ≤ 32 ∧ k ≤ n
theorem peek_no (b v n : Nat) (k : Int) (w : World) (h : Br w b v n) (hk : ¬ Can k n) :
    Calls Tryd.prog 26 #[.pointer (some ⟨b, 0, none⟩), .int .i64 k] w fun e w' => e = .returned (.tuple #[.int .u32 0, .bool false]) ∧ w = w' := by
  have h2 := h.rd.c1
  have h64 := h.le
  go_enter Tryd.func26, Tryd.ntmps26
  go_wp2
  refine wp_scope_forward 0 rfl ?_
  unfold Can at hk
  by_cases c1 : k < 0
  · go_wp2
    go_step3
    refine ⟨rfl, ?_⟩
    go_wp2
    rw [Exit.noGoto_ret]
    go_ret2
    exact ⟨rfl, rfl⟩
  · by_cases c2 : 32 < k
    · go_wp2
      go_step3
      refine ⟨rfl, ?_⟩
      go_wp2
      rw [Exit.noGoto_ret]
      go_ret2
      exact ⟨rfl, rfl⟩
    · have c3 : (n : Int) < k := by omega
      go_wp2
      go_step3
      refine ⟨rfl, ?_⟩
      go_wp2
      rw [Exit.noGoto_ret]
      go_ret2
      exact ⟨rfl, rfl⟩
theorem peek_yes (b v n k : Nat) (w : World) (h : Br w b v n) (hk : k ≤ 32) (hkn : k ≤ n) :
    Calls Tryd.prog 26 #[.pointer (some ⟨b, 0, none⟩), .int .i64 k] w fun e w' => e = .returned (.tuple #[.int .u32 ((v % 2 ^ k : Nat) : Int), .bool true]) ∧ w = w' := by
  have h1 := h.rd.c0
  have h2 := h.rd.c1
  have h64 := h.le
  have e1 : ¬ (k : Int) < 0 := by omega
  have e2 : ¬ (32 : Int) < k := by omega
  have e3 : ¬ (n : Int) < k := by omega
  have hv := lt_word h.lt h.le
  have hm := and_mask v k hv hk
  go_enter Tryd.func26, Tryd.ntmps26
  go_wp2
  refine wp_scope_forward 0 rfl ?_
  go_wp2
  rw [jump_ret]
  go_ret2
  refine ⟨?_, rfl⟩
  simp only [hm, Array.getD]
  rfl
theorem take_no (b v n : Nat) (k : Int) (w : World) (h : Br w b v n) (hk : ¬ Can k n) :
    Calls Tryd.prog 19 #[.pointer (some ⟨b, 0, none⟩), .int .i64 k] w fun e w' => e = .returned (.tuple #[.int .u32 0, .bool false]) ∧ w = w' := by
  go_enter Tryd.func19, Tryd.ntmps19
  go_wp2_with fail
  refine wp_scope_forward 0 rfl ?_
  go_wp2_with fail
  refine (peek_no b v n k _ h hk).mono ?_
  rintro e w' ⟨rfl, rfl⟩
  go_wp2_with fail
  go_step3
  refine ⟨rfl, ?_⟩
  go_wp2
  rw [Exit.noGoto_ret]
  go_ret2
  exact ⟨rfl, rfl⟩
theorem take_yes (b v n k : Nat) (w : World) (h : Br w b v n) (hk : k ≤ 32) (hkn : k ≤ n) :
    Calls Tryd.prog 19 #[.pointer (some ⟨b, 0, none⟩), .int .i64 k] w fun e w' => e = .returned (.tuple #[.int .u32 ((v % 2 ^ k : Nat) : Int), .bool true]) ∧ Br w' b (v / 2 ^ k) (n - k) ∧ Only b w w' := by
  have h64 := h.le
  go_enter Tryd.func19, Tryd.ntmps19
  go_wp2_with fail
  refine wp_scope_forward 0 rfl ?_
  go_wp2_with fail
  refine (peek_yes b v n k _ h hk hkn).mono ?_
  rintro e w' ⟨rfl, rfl⟩
  go_wp2_with fail
  refine (drop_b b v n k _ h hkn).mono ?_
  rintro e w' ⟨rfl, hb, ho⟩
  go_wp2_with fail
  rw [jump_ret]
  go_ret2
  exact ⟨rfl, hb, ho⟩
theorem align_b (b v n : Nat) (w : World) (h : Br w b v n) :
    Calls Tryd.prog 20 #[.pointer (some ⟨b, 0, none⟩)] w fun e w' => e = .returned (.int .i64 ((n % 8 : Nat) : Int)) ∧ Br w' b (v / 2 ^ (n % 8)) (n - n % 8) ∧ Only b w w' := by
  have h2 := h.rd.c1
  have h64 := h.le
  have e : ((n % 8 : Nat) : Int) = (n : Int) % 8 := by omega
  go_enter Tryd.func20, Tryd.ntmps20
  go_wp2_with fail
  rw [← e]
  refine (drop_b b v n (n % 8) _ h (Nat.mod_le _ _)).mono ?_
  rintro e w' ⟨rfl, hb, ho⟩
  go_wp2_with fail
  go_ret
  exact ⟨rfl, hb, ho⟩
end Go.Proofs.YtikdpnpkmmmacabDoor

/-
  What the program's Read comes to.
-/
namespace Go.Proofs.YtikdpnpkmmmacabDoor
open Go.RowKit
set_option linter.unusedVariables false
theorem read_none (T : Nat) (w : World) : Calls Tryd.prog 40 #[.pointer (some ⟨T, 0, none⟩), .pointer none] w fun e w' => e = .returned (.tuple #[.int .i64 0, .int .i64 2]) ∧ w = w' := by
  go_enter Tryd.func40, Tryd.ntmps40
  go_wp2_with fail
  first | go_ret | go_ret2
  exact ⟨rfl, rfl⟩
theorem may_of {ls : List Nat} {l : List Bool} (hk : part ls 15 ≤ 32768) (h15 : ∀ x ∈ ls, x ≤ 15) : (∃ j n, ls[j]? = some n ∧ 0 < n ∧ l <+: cbits ls j) ↔ May ls l := by
  constructor
  · rintro ⟨j, n, h1, h2, h3⟩
    have := (may_prefix hk h15 h1 h2).1 h3
    exact ⟨j, n, h1, h2, this.1, this.2⟩
  · rintro ⟨j, n, h1, h2, h3, h4⟩
    exact ⟨j, n, h1, h2, (may_prefix hk h15 h1 h2).2 ⟨h3, h4⟩⟩
theorem told_bad {ls : List Nat} {l : List Bool} {s how k : Nat} (hk : part ls 15 ≤ 32768) (h15 : ∀ x ∈ ls, x ≤ 15) (ht : Told ls l s how k) (h1 : ∀ i n, ¬ Hit ls l i n) (h2 : ¬ May ls l) : s = 0 ∧ how = 2 ∧ k = 0 := by
  rcases ht with ⟨h, _⟩ | ⟨_, h, _⟩ | ⟨_, _, h⟩
  · exact absurd h (h1 _ _)
  · exact absurd ((may_of hk h15).1 h) h2
  · exact h
theorem told_more {ls : List Nat} {l : List Bool} {s how k : Nat} (hk : part ls 15 ≤ 32768) (h15 : ∀ x ∈ ls, x ≤ 15) (ht : Told ls l s how k) (h1 : ∀ i n, ¬ Hit ls l i n) (h2 : May ls l) : s = 0 ∧ how = 1 ∧ k = 0 := by
  rcases ht with ⟨h, _⟩ | ⟨_, _, h⟩ | ⟨_, h, _⟩
  · exact absurd h (h1 _ _)
  · exact h
  · exact absurd ((may_of hk h15).2 h2) h
theorem told_hit {ls : List Nat} {l : List Bool} {s how k s0 n : Nat} (ht : Told ls l s how k) (hh : Hit ls l s0 n) : s = s0 ∧ how = 0 ∧ k = n := by
  rcases ht with ⟨h, h0⟩ | ⟨h, _⟩ | ⟨h, _⟩
  · have := hit_one h hh
    exact ⟨this.1, h0, this.2⟩
  · exact absurd hh (h _ _)
  · exact absurd hh (h _ _)
theorem But.drawn {b : Nat} {w u : World} (h : Drawn w u) : But b w u := by
  obtain ⟨n, rfl⟩ := h
  exact ⟨rfl, rfl, rfl, Nat.le_refl _, fun _ _ _ => rfl⟩
theorem But.only {b : Nat} {w u v : World} (h : But b w u) (k : Only b u v) : But b w v :=
  ⟨k.os.trans h.os, k.tape.trans h.tape, k.output.trans h.output, by rw [k.size]; exact h.size, fun i hi hne => (k.block i hne).trans (h.block i hi hne)⟩
set_option maxRecDepth 100000 in
set_option maxHeartbeats 4000000 in
theorem read_c (lo hi T : Nat) (ls : List Nat) (b s how k : Nat) (l : List Bool) (w : World) (hp : PT w lo hi T ls) (hk : part ls 15 ≤ 32768) (h15 : ∀ x ∈ ls, x ≤ 15) (hb : Br w b (nm l) l.length) (ht : Told ls l s how k) :
    Calls Tryd.prog 40 #[.pointer (some ⟨T, 0, none⟩), .pointer (some ⟨b, 0, none⟩)] w fun e w' => e = .returned (.tuple #[.int .i64 (s : Int), .int .i64 (how : Int)]) ∧ Br w' b (nm (l.drop k)) (l.drop k).length ∧ But b w w' := by
  obtain ⟨g, M, kk, ht2, _⟩ := hp
  obtain ⟨G, hG, hLd⟩ := ht2.m
  have cT1 := ht2.t.cell 1
  simp only [List.getElem?_toArray, List.getElem?_cons_zero, List.getElem?_cons_succ] at cT1
  have hheld := held_b b (nm l) l.length w hb
  obtain ⟨H, hH⟩ : ∃ H, min l.length 15 = H := ⟨_, rfl⟩
  have hpeek := peek_yes b (nm l) l.length H w hb (by omega) (by omega)
  have hvb : nm l % 2 ^ H < 4294967296 := by
    have h1 := Nat.mod_lt (nm l) (show 0 < 2 ^ H from Nat.pow_pos (by decide))
    have h2 : 2 ^ H ≤ 2 ^ 15 := Nat.pow_le_pow_right (by decide) (by omega)
    omega
  have hrev := rev_c (nm l % 2 ^ H) hvb (H : Int) w
  have hcl : clamp (H : Int) = H := by unfold clamp; omega
  rw [hcl, rev_mod H H _ (Nat.le_refl _), rev_num H (by omega)] at hrev
  obtain ⟨v, hv⟩ : ∃ v, num (l.take H) = v := ⟨_, rfl⟩
  rw [hv] at hrev
  obtain ⟨x, hx⟩ : ∃ x, nm l % 2 ^ H = x := ⟨_, rfl⟩
  rw [hx] at hrev hpeek
  obtain ⟨Ln, hLn⟩ : ∃ Ln, l.length = Ln := ⟨_, rfl⟩
  have htk : ∀ n, n ≤ H → num (l.take n) = v / 2 ^ (H - n) := fun n hn => by rw [← hv]; exact take_num hn (by omega)
  have AH : Aside (Mp w M kk G ∧ Laidm ls ls.length G ∧ Br w b (nm l) l.length ∧ Told ls l s how k ∧ (∀ x ∈ ls, x ≤ 15) ∧ min l.length 15 = H ∧ (∀ n, n ≤ H → num (l.take n) = v / 2 ^ (H - n)) ∧ v < 2 ^ H ∧ l.length = Ln) := ⟨hG, hLd, hb, ht, h15, hH, htk, by rw [← hv]; have := num_lt (l.take H); rw [List.length_take, show min H l.length = H by omega] at this; exact this, hLn⟩
  rw [hLn] at hheld
  have hH15 : H ≤ 15 := by omega
  have hmin : (if (15 : Int) < (Ln : Int) then (15 : Int) else (Ln : Int)) = (H : Int) := by split <;> omega
  have hmin2 : (if (Ln : Int) < (15 : Int) then (Ln : Int) else (15 : Int)) = (H : Int) := by split <;> omega
  have AK : Aside (part ls 15 ≤ 32768) := hk
  clear ht2 hG hLd hb ht h15 hH htk hv hx hLn hcl hvb hk
  go_enter Tryd.func40, Tryd.ntmps40
  go_upto_region 6 with (go_at_call 46; refine hheld.mono ?_; rintro e2 w2 ⟨rfl, rfl⟩)
  clear hheld hmin hmin2
  go_upto_region 9 with (first
    | (go_at_call 26; refine hpeek.mono ?_; rintro e3 w3 ⟨rfl, rfl⟩)
    | (go_at_call 47; refine hrev.mono ?_; rintro e4 w4 ⟨rfl, rfl⟩))
  clear hpeek hrev
  go_loopg [30] (H + 1) (fun gg si wr => ∃ n : Nat, si = .int .i64 (n : Int) ∧ Aside (n + gg = H + 1 ∧ Drawn w wr ∧ ∀ j, j < n → G j (num (l.take j)) = some (-1)))
  case atStart => exact ⟨0, rfl, by omega, Drawn.refl _, fun j hj => by omega⟩
  case round =>
    obtain ⟨n, rfl, hI⟩ := hrel
    by_cases hn : n ≤ H
    · have hnI : (n : Int) < (H : Int) + 1 := by omega
      have hnH : (n : Int) ≤ (H : Int) := by omega
      obtain ⟨y, hy⟩ : ∃ y, v / 2 ^ (H - n) = y := ⟨_, rfl⟩
      have hvb : v < 4294967296 := by have := AH.out.2.2.2.2.2.2.2.1; have h2 : 2 ^ H ≤ 2 ^ 15 := Nat.pow_le_pow_right (by decide) hH15; omega
      have hyb : y < 4294967296 := by rw [← hy]; exact Nat.lt_of_le_of_lt (Nat.div_le_self _ _) hvb
      have hyI : (v : Int) / 2 ^ (H - n) = (y : Int) := by rw [← hy]; push_cast; rfl
      obtain ⟨r, hr⟩ : ∃ r, G n y = r := ⟨_, rfl⟩
      obtain ⟨q, hq⟩ := hI.out.2.1
      have hlook : ∀ j, (Instr.lookup 77 (.map (some M)) (.agg #[.int .u32 (n : Int), .int .u32 (y : Int)]) true).run Tryd.prog (wr.drewN j) = .ok (.tuple #[.int .i64 (r.getD 0), .bool r.isSome]) (wr.drewN j) := fun j =>
        run_look (wr.drewN j) M kk n y G (by rw [hq]; exact AH.out.1) (by omega) hyb r hr
      have cT1r : wr.cell? ⟨T, 1, none⟩ = some (.map (some M)) := by rw [hq]; exact cT1
      have htn : num (l.take n) = y := by rw [← hy]; exact AH.out.2.2.2.2.2.2.1 n hn
      have AY : Aside (G n y = r ∧ num (l.take n) = y ∧ n ≤ H) := ⟨hr, htn, hn⟩
      clear hq hr hy htn hn
      go_upto_region 11 with fail
      go_quiet (fail)
      have hdr : Aside (Drawn w (wr.drewN nq)) := hI.out.2.1.drewN nq
      obtain ⟨w5, hw5⟩ : ∃ w5, wr.drewN nq = w5 := ⟨_, rfl⟩
      rw [hw5] at hdr ⊢
      clear hw5 cT1r hlook
      cases r with
      | none =>
        go_wp2_with fail
        first | go_ret | go_ret2
        have a := AH.out
        have y := AY.out
        have hbd := a.2.1.bad (l := l) (n := n) (by omega) hI.out.2.2 (by rw [y.2.1]; exact y.1)
        obtain ⟨rfl, rfl, rfl⟩ := told_bad AK.out a.2.2.2.2.1 a.2.2.2.1 hbd.1 hbd.2
        refine ⟨rfl, ?_, But.drawn hdr.out⟩
        obtain ⟨q, hq⟩ := hdr.out
        rw [hq]
        exact a.2.2.1.drewN q
      | some z =>
        by_cases hz : z = -1
        · subst hz
          go_wp2_with fail
          go_roundg (H - n)
          case measure => have := hI.out.1; have := AY.out.2.2; omega
          case rel =>
            refine ⟨n + 1, by go_num, by have := AY.out.2.2; omega, hdr.out, fun j hj => ?_⟩
            rcases (show j < n ∨ j = n by omega) with h | rfl
            · exact hI.out.2.2 j h
            · rw [AY.out.2.1]; exact AY.out.1
        · have hzb : (z == -1) = false := beq_eq_false_iff_ne.2 hz
          have a := AH.out
          have y1 := AY.out
          obtain ⟨s0, rfl, hh⟩ := a.2.1.hit (l := l) (n := n) (v := z) (by omega) (by rw [y1.2.1]; exact y1.1) hz
          obtain ⟨rfl, rfl, rfl⟩ := told_hit a.2.2.2.1 hh
          have hbr : Br w5 b (nm l) l.length := by obtain ⟨q, hq⟩ := hdr.out; rw [hq]; exact a.2.2.1.drewN q
          have htake := take_yes b (nm l) l.length k w5 hbr (by omega) (by omega)
          clear a y1 hh hbr hz
          go_wp2_with (go_at_call 19; refine htake.mono ?_; rintro e6 w6 ⟨rfl, hb6, ho6⟩)
          first | go_ret | go_ret2
          refine ⟨rfl, ?_, (But.drawn hdr.out).only ho6⟩
          rw [nm_drop, List.length_drop]
          exact hb6
    · have hn1 : n = H + 1 := by have := hI.out.1; omega
      subst hn1
      have hni : ¬ ((H + 1 : Nat) : Int) < (H : Int) + 1 := by omega
      clear hn
      go_wp2_with fail
      first | go_ret | go_ret2
      have a := AH.out
      have hm := a.2.1.more a.2.2.2.2.1 (l := l) (n := H) a.2.2.2.2.2.1.symm (fun j hj => hI.out.2.2 j (by omega))
      obtain ⟨rfl, rfl, rfl⟩ := told_more AK.out a.2.2.2.2.1 a.2.2.2.1 hm.2.1 hm.2.2
      refine ⟨rfl, ?_, But.drawn hI.out.2.1⟩
      obtain ⟨q, hq⟩ := hI.out.2.1
      rw [hq]
      exact a.2.2.1.drewN q
theorem new_err (a : Option Addr) (zs : List Int) (L C e0 : Nat) (w : World) (h : Lens w a zs) (hL : zs.length = L) (hLb : L < 140737488355328) (he : nerr zs = e0) (h0 : e0 ≠ 0) :
    Calls Tryd.prog 30 #[.slice a L C] w fun e w' => e = .returned (.tuple #[.pointer none, .int .i64 (e0 : Int)]) ∧ Below w.heap.size w w' := by
  by_cases hok : Okl zs
  · exact new_room a zs L C e0 w h hL hLb hok he h0
  · have : e0 = 2 := by rw [← he]; unfold nerr; rw [if_pos hok]
    subst this
    exact new_arg a zs L C w h hL hLb hok
end Go.Proofs.YtikdpnpkmmmacabDoor

/-
  Lists of bytes: the last ones of a list, what a copy does to a row, a row that goes round, and the bytes at the end again and again.
-/
namespace Go.Proofs.YtikdpnpkmmmacabDoor
set_option linter.unusedVariables false
/-- The cell n behind the next one. -/
def gfwd (N x n : Nat) : Nat := if x + n < N then x + n else x + n - N
/-- The cell d ahead of the next one. -/
def gbck (N x d : Nat) : Nat := if d ≤ x then x - d else x + N - d
theorem gfwd_spec (N x n : Nat) : (x + n < N ∧ gfwd N x n = x + n) ∨ (N ≤ x + n ∧ gfwd N x n = x + n - N) := by unfold gfwd; split <;> omega
theorem gbck_spec (N x d : Nat) : (d ≤ x ∧ gbck N x d = x - d) ∨ (x < d ∧ gbck N x d = x + N - d) := by unfold gbck; split <;> omega
theorem gfwd_lt {N x n : Nat} (h : x < N) (h2 : n ≤ N) : gfwd N x n < N := by unfold gfwd; split <;> omega
theorem gbck_lt {N x d : Nat} (h1 : x < N) (h2 : 1 ≤ d) (h3 : d ≤ N) : gbck N x d < N := by unfold gbck; split <;> omega
/-- The last ones, at most N. -/
def glastN (N : Nat) (l : List Int) : List Int := l.drop (l.length - N)
theorem glastN_length (N : Nat) (l : List Int) : (glastN N l).length = min l.length N := by simp [glastN]; omega
theorem glastN_all {N : Nat} {l : List Int} (h : l.length ≤ N) : glastN N l = l := by
  unfold glastN; rw [show l.length - N = 0 by omega, List.drop_zero]
theorem glastN_app (N : Nat) (l xs : List Int) : glastN N (l ++ glastN N xs) = glastN N (l ++ xs) := by
  apply List.ext_getElem?
  intro i
  simp only [glastN, List.getElem?_drop, List.getElem?_append, List.length_append, List.length_drop]
  by_cases h : xs.length ≤ N
  · simp only [show xs.length - N = 0 by omega, Nat.sub_zero, Nat.zero_add]
  · have e1 : l.length + (xs.length - (xs.length - N)) - N + i = l.length + i := by omega
    have e2 : ¬ l.length + (xs.length - (xs.length - N)) - N + i < l.length := by omega
    have e3 : ¬ l.length + xs.length - N + i < l.length := by omega
    rw [if_neg e2, if_neg e3]
    congr 1; omega
theorem glastN_two (N : Nat) (l xs ys : List Int) : glastN N (glastN N (l ++ xs) ++ ys) = glastN N (l ++ xs ++ ys) := by
  apply List.ext_getElem?
  intro i
  simp only [glastN, List.getElem?_drop, List.getElem?_append, List.length_append, List.length_drop]
  by_cases h : l.length + xs.length ≤ N
  · simp only [show l.length + xs.length - N = 0 by omega, Nat.sub_zero, Nat.zero_add]
  · have e0 : l.length + xs.length - (l.length + xs.length - N) = N := by omega
    simp only [e0]
    have e1 : N + ys.length - N + i = ys.length + i := by omega
    have e2 : l.length + xs.length + ys.length - N + i = l.length + xs.length - N + (ys.length + i) := by omega
    simp only [e1, e2]
    by_cases c : ys.length + i < N
    · have c2 : l.length + xs.length - N + (ys.length + i) < l.length + xs.length := by omega
      rw [if_pos c, if_pos c2]
    · have c2 : ¬ l.length + xs.length - N + (ys.length + i) < l.length + xs.length := by omega
      rw [if_neg c, if_neg c2]
      congr 1; omega
theorem gsplice_get {α : Type} (l cs : List α) (off i : Nat) (h : off + cs.length ≤ l.length) : (splice l off cs)[i]? = if off ≤ i ∧ i < off + cs.length then cs[i - off]? else l[i]? := by
  unfold splice
  rw [List.getElem?_append, List.length_take, Nat.min_eq_left (by omega), List.getElem?_append, List.getElem?_take, List.getElem?_drop]
  by_cases c1 : i < off
  · rw [if_pos c1, if_pos c1, if_neg (by omega)]
  · rw [if_neg c1]
    by_cases c2 : i < off + cs.length
    · rw [if_pos (by omega), if_pos (by omega)]
    · rw [if_neg (by omega), if_neg (by omega)]
      congr 1; omega
theorem gsplice_app (ys A B : List Int) (h : A.length + B.length ≤ ys.length) : splice (splice ys 0 A) A.length B = splice ys 0 (A ++ B) := by
  apply List.ext_getElem?
  intro i
  rw [gsplice_get _ _ _ _ (by rw [length_splice _ _ _ (by omega)]; omega), gsplice_get _ _ _ _ (by omega), gsplice_get _ _ _ _ (by rw [List.length_append]; omega), List.length_append, List.getElem?_append]
  by_cases c1 : i < A.length
  · rw [if_neg (by omega), if_pos (by omega), if_pos (by omega), if_pos (by omega)]
  · by_cases c2 : i < A.length + B.length
    · rw [if_pos (by omega), if_pos (by omega), if_neg (by omega)]; simp
    · rw [if_neg (by omega), if_neg (by omega), if_neg (by omega)]
theorem gsplice_all (ys A : List Int) (h : A.length = ys.length) : splice ys 0 A = A := by
  unfold splice
  simp [h]
/-- The row cs of N cells, whose next one is x, holds the list l. -/
def GHolds (N x : Nat) (cs l : List Int) : Prop := ∀ d, 1 ≤ d → d ≤ l.length → cs[gbck N x d]? = l[l.length - d]?
theorem gholds_nil (N x : Nat) (cs : List Int) : GHolds N x cs [] := fun d h1 h2 => by simp at h2; omega
/-- What is moved out, in one piece. -/
theorem gout_a {N x : Nat} {cs l : List Int} (hh : GHolds N x cs l) (d n : Nat) (hx : x < N) (hl : l.length ≤ N) (h1 : 1 ≤ d) (hd : d ≤ l.length) (hn : n ≤ d) (hA : gbck N x d + n ≤ N) :
    (cs.drop (gbck N x d)).take n = (l.drop (l.length - d)).take n := by
  apply List.ext_getElem?
  intro i
  rw [List.getElem?_take, List.getElem?_take, List.getElem?_drop, List.getElem?_drop]
  by_cases c : i < n
  · rw [if_pos c, if_pos c]
    have := hh (d - i) (by omega) (by omega)
    rw [show l.length - d + i = l.length - (d - i) by omega, ← this]
    congr 1
    have s1 := gbck_spec N x d
    have s2 := gbck_spec N x (d - i)
    omega
  · rw [if_neg c, if_neg c]
/-- What is moved out, in two pieces. -/
theorem gout_b {N x : Nat} {cs l : List Int} (hh : GHolds N x cs l) (d n m r : Nat) (hx : x < N) (hl : l.length ≤ N) (hc : cs.length = N) (h1 : 1 ≤ d) (hd : d ≤ l.length) (hn : n ≤ d) (hm : gbck N x d + m = N) (hr : m + r = n) :
    cs.drop (gbck N x d) ++ cs.take r = (l.drop (l.length - d)).take n := by
  apply List.ext_getElem?
  intro i
  rw [List.getElem?_append, List.length_drop, hc, List.getElem?_take, List.getElem?_take, List.getElem?_drop, List.getElem?_drop]
  have e : N - gbck N x d = m := by omega
  rw [e]
  by_cases c : i < n
  · rw [if_pos c]
    have := hh (d - i) (by omega) (by omega)
    rw [show l.length - d + i = l.length - (d - i) by omega, ← this]
    by_cases c2 : i < m
    · rw [if_pos c2]
      congr 1
      have s1 := gbck_spec N x d
      have s2 := gbck_spec N x (d - i)
      omega
    · rw [if_neg c2, if_pos (by omega)]
      congr 1
      have s1 := gbck_spec N x d
      have s2 := gbck_spec N x (d - i)
      omega
  · rw [if_neg c, if_neg (by omega), if_neg (by omega)]
/-- What is laid in goes round the end. -/
theorem gin_get {N x : Nat} {cs ys : List Int} (hc : cs.length = N) (hx : x < N) (hm : ys.length ≤ N) (q : Nat) (hq : q = min ys.length (N - x)) (p : Nat) (hp : p < N) :
    (splice (splice cs x (ys.take q)) 0 (ys.drop q))[p]? = if x ≤ p ∧ p < x + ys.length then ys[p - x]? else if p + N < x + ys.length then ys[p + N - x]? else cs[p]? := by
  have l1 : (ys.take q).length = q := by rw [List.length_take]; omega
  have l2 : (ys.drop q).length = ys.length - q := List.length_drop
  rw [gsplice_get _ _ _ _ (by rw [length_splice _ _ _ (by omega)]; omega), gsplice_get _ _ _ _ (by omega), l1, l2, List.getElem?_take, List.getElem?_drop]
  by_cases c1 : x ≤ p ∧ p < x + ys.length
  · rw [if_pos c1, if_neg (by omega), if_pos (by omega), if_pos (by omega)]
  · rw [if_neg c1]
    by_cases c2 : p + N < x + ys.length
    · rw [if_pos c2, if_pos (by omega)]
      congr 1; omega
    · rw [if_neg c2, if_neg (by omega), if_neg (by omega)]
theorem gin_holds {N x : Nat} {cs l ys : List Int} (hh : GHolds N x cs l) (hc : cs.length = N) (hx : x < N) (hl : l.length ≤ N) (hm : ys.length ≤ N) (q : Nat) (hq : q = min ys.length (N - x)) :
    GHolds N (gfwd N x ys.length) (splice (splice cs x (ys.take q)) 0 (ys.drop q)) (glastN N (l ++ ys)) := by
  intro d h1 h2
  have hlen := glastN_length N (l ++ ys)
  rw [List.length_append] at hlen
  have hp := gbck_lt (gfwd_lt hx hm) h1 (by omega : d ≤ N)
  rw [gin_get hc hx hm q hq _ hp, hlen]
  have e : (glastN N (l ++ ys))[min (l.length + ys.length) N - d]? = (l ++ ys)[l.length + ys.length - d]? := by
    unfold glastN
    rw [List.getElem?_drop, List.length_append]
    congr 1; omega
  rw [e, List.getElem?_append]
  have s1 := gfwd_spec N x ys.length
  have s2 := gbck_spec N (gfwd N x ys.length) d
  by_cases c : d ≤ ys.length
  · have c0 : ¬ l.length + ys.length - d < l.length := by omega
    rw [if_neg c0]
    by_cases c1 : x + (ys.length - d) < N
    · have c2 : x ≤ gbck N (gfwd N x ys.length) d ∧ gbck N (gfwd N x ys.length) d < x + ys.length := by omega
      rw [if_pos c2]
      congr 1; omega
    · have c2 : ¬ (x ≤ gbck N (gfwd N x ys.length) d ∧ gbck N (gfwd N x ys.length) d < x + ys.length) := by omega
      have c3 : gbck N (gfwd N x ys.length) d + N < x + ys.length := by omega
      rw [if_neg c2, if_pos c3]
      congr 1; omega
  · have s3 := gbck_spec N x (d - ys.length)
    have := hh (d - ys.length) (by omega) (by omega)
    have c0 : l.length + ys.length - d < l.length := by omega
    have hb : gbck N (gfwd N x ys.length) d = gbck N x (d - ys.length) := by omega
    have c2 : ¬ (x ≤ gbck N x (d - ys.length) ∧ gbck N x (d - ys.length) < x + ys.length) := by omega
    have c3 : ¬ gbck N x (d - ys.length) + N < x + ys.length := by omega
    rw [if_pos c0, hb, if_neg c2, if_neg c3, this]
    congr 1; omega
theorem gset_splice (cs : List Int) (x : Nat) (z : Int) (h : x < cs.length) : cs.set x z = splice cs x [z] := by
  apply List.ext_getElem?
  intro i
  rw [gsplice_get cs [z] x i (by simp; omega)]
  by_cases c : x = i
  · subst c
    rw [if_pos (by simp)]
    simp [h]
  · rw [if_neg (by simp; omega), List.getElem?_set_ne c]
theorem gput_holds {N x : Nat} {cs l : List Int} (hh : GHolds N x cs l) (hc : cs.length = N) (hx : x < N) (hl : l.length ≤ N) (z : Int) : GHolds N (gfwd N x 1) (cs.set x z) (glastN N (l ++ [z])) := by
  have := gin_holds (ys := [z]) hh hc hx hl (by simp; omega) 1 (by simp; omega)
  rw [gset_splice _ _ _ (by omega)]
  simpa [splice] using this
/-- The bytes at the end, d of them, again and again, n in all. -/
def gcyc (l : List Int) (d n : Nat) : List Int := (List.range n).map fun i => l.getD (l.length - d + i % d) 0
theorem gcyc_length (l : List Int) (d n : Nat) : (gcyc l d n).length = n := by simp [gcyc]
theorem gcyc_get (l : List Int) (d n i : Nat) (h : i < n) : (gcyc l d n)[i]? = some (l.getD (l.length - d + i % d) 0) := by simp [gcyc, h]
theorem gcyc_take (l : List Int) (d n k : Nat) (h : k ≤ n) : (gcyc l d n).take k = gcyc l d k := by
  apply List.ext_getElem?
  intro i
  rw [List.getElem?_take]
  by_cases c : i < k
  · rw [if_pos c, gcyc_get _ _ _ _ (by omega), gcyc_get _ _ _ _ c]
  · rw [if_neg c, List.getElem?_eq_none (by rw [gcyc_length]; omega)]
theorem gcyc_first (l : List Int) (d n : Nat) (h1 : 1 ≤ d) (hd : d ≤ l.length) (hn : n ≤ d) : (l.drop (l.length - d)).take n = gcyc l d n := by
  apply List.ext_getElem?
  intro i
  rw [List.getElem?_take, List.getElem?_drop]
  by_cases c : i < n
  · rw [if_pos c, gcyc_get _ _ _ _ c, Nat.mod_eq_of_lt (by omega), List.getElem?_eq_getElem (by omega)]
    simp [List.getElem?_eq_getElem (show l.length - d + i < l.length by omega)]
  · rw [if_neg c, List.getElem?_eq_none (by rw [gcyc_length]; omega)]
theorem gcyc_app (l : List Int) (d k m : Nat) (hk : d ∣ k) (hm : m ≤ k) : gcyc l d k ++ (gcyc l d k).take m = gcyc l d (k + m) := by
  obtain ⟨j, rfl⟩ := hk
  apply List.ext_getElem?
  intro i
  rw [List.getElem?_append, gcyc_length, List.getElem?_take]
  by_cases c : i < d * j
  · rw [if_pos c, gcyc_get _ _ _ _ c, gcyc_get _ _ _ _ (by omega)]
  · rw [if_neg c]
    by_cases c2 : i - d * j < m
    · rw [if_pos c2, gcyc_get _ _ _ _ (by omega), gcyc_get _ _ _ _ (by omega)]
      congr 3
      conv => rhs; rw [show i = (i - d * j) + d * j by omega, Nat.add_mul_mod_self_left]
    · rw [if_neg c2, List.getElem?_eq_none (by rw [gcyc_length]; omega)]
end Go.Proofs.YtikdpnpkmmmacabDoor

/-
  What New, Len, Size, Clear, move, cell, Put and Back of the ring come to: at a window that is nil, and at one in memory.
  Conditions: none at a nil window; a window in memory has a size from 1 to 32768, its next cell and its count fit the size, and each method keeps that.
-/
namespace Go.Proofs.YtikdpnpkmmmacabDoor
open Go.RowKit

theorem glen_nil (w : World) : Calls Tryd.prog 53 #[.pointer none] w fun e w' => e = .returned (.int .i64 0) ∧ w = w' := by
  go_enter Tryd.func53, Tryd.ntmps53
  go_wp2
  go_ret
  exact ⟨rfl, rfl⟩
theorem gsize_nil (w : World) : Calls Tryd.prog 48 #[.pointer none] w fun e w' => e = .returned (.int .i64 0) ∧ w = w' := by
  go_enter Tryd.func48, Tryd.ntmps48
  go_wp2
  go_ret
  exact ⟨rfl, rfl⟩
theorem gput_nil (x : Int) (w : World) : Calls Tryd.prog 41 #[.pointer none, .int .u8 x] w fun e w' => e = .returned (.tuple #[]) ∧ w = w' := by
  go_enter Tryd.func41, Tryd.ntmps41
  go_wp2_with fail
  refine (gsize_nil _).mono ?_
  rintro e w' ⟨rfl, rfl⟩
  go_wp2_with fail
  first | go_end0 | (refine bodyPost_ret (results_none rfl _ _ _) rfl ?_)
  exact ⟨rfl, rfl⟩
theorem gback_nil (d : Int) (w : World) : Calls Tryd.prog 55 #[.pointer none, .int .i64 d] w fun e w' => e = .returned (.tuple #[.int .u8 0, .bool false]) ∧ w = w' := by
  go_enter Tryd.func55, Tryd.ntmps55
  by_cases h : d < 1
  · go_wp2_with fail
    go_ret2
    exact ⟨rfl, rfl⟩
  · have h0 : (0 : Int) < d := by omega
    go_wp2_with fail
    refine (glen_nil _).mono ?_
    rintro e w' ⟨rfl, rfl⟩
    go_wp2_with fail
    go_ret2
    exact ⟨rfl, rfl⟩
theorem gnew_no (s : Int) (w : World) (h : s < 1 ∨ 32768 < s) : Calls Tryd.prog 12 #[.int .i64 s] w fun e w' => e = .returned (.tuple #[.pointer none, .int .i64 2]) ∧ w = w' := by
  go_enter Tryd.func12, Tryd.ntmps12
  by_cases h1 : s < 1
  · go_wp2
    go_ret2
    exact ⟨rfl, rfl⟩
  · have h2 : 32768 < s := by omega
    go_wp2
    go_ret2
    exact ⟨rfl, rfl⟩

/-- Numbers as bytes in memory. -/
def gvb (l : List Int) : List Value := l.map (Value.int .u8)
theorem gvb_length (l : List Int) : (gvb l).length = l.length := by simp [gvb]
theorem gvb_get (l : List Int) (i : Nat) : (gvb l)[i]? = l[i]?.map (Value.int .u8) := by simp [gvb]
theorem gvb_one {l : List Int} : ∀ v ∈ gvb l, v.oneCell' = true := by
  intro v hv
  simp only [gvb, List.mem_map] at hv
  obtain ⟨x, _, rfl⟩ := hv
  rfl
theorem ginfo5 : (Tryd.prog.info? 5).map (fun i => (i.zero, i.size, i.bytes)) = some (some (.int .u8 0), 1, 1) := by kernel_rfl
theorem ginfo_parts {P : Program} {t : TypeId} {z : Value} {n m : Nat} (h : (P.info? t).map (fun i => (i.zero, i.size, i.bytes)) = some (some z, n, m)) :
    ∃ i, P.info? t = some i ∧ i.zero = some z ∧ i.size = n ∧ i.bytes = m := by
  cases hq : P.info? t with
  | none => simp [hq] at h
  | some i => simp [hq] at h; exact ⟨i, rfl, h.1, h.2.1, h.2.2⟩
theorem gsize5 : (Tryd.prog.info? 5).map (·.size) = some 1 := by kernel_rfl
/-- make of a list of n bytes. -/
theorem gmade (n : Nat) (hn : n ≤ 1048576) (w : World) : (Instr.makeSlice 22 (.int .i64 (n : Int)) (.int .i64 (n : Int))).run Tryd.prog w = .ok (.slice (some ⟨w.heap.size, 0, none⟩) n n) (w.alloc (.cells (gvb (List.replicate n 0)).toArray 5)) := by
  obtain ⟨i, hi, hz, hs, hb⟩ := ginfo_parts ginfo5
  have := run_make (P := Tryd.prog) w 22 5 i _ Tryd.underlying22 hi hz .i64 .i64 n n (by omega) (by omega) (by rw [hb]; omega) (by omega)
  rw [this, hs]
  have e : madeCells (Value.int .u8 0).cells ((n : Int).toNat * 1) = (gvb (List.replicate n 0)).toArray := by
    apply Array.toList_inj.1
    show (madeCells #[Value.int .u8 0] _).toList = _
    rw [toList_madeCells_one]
    simp [gvb]
  rw [e]
  simp

/-- GTwo blocks alone may have turned; none has come. -/
structure GTwo (a b : Nat) (w w' : World) : Prop where
  os : w'.os = w.os
  tape : w'.tape = w.tape
  output : w'.output = w.output
  size : w'.heap.size = w.heap.size
  block : ∀ k, k ≠ a → k ≠ b → w'.heap[k]? = w.heap[k]?
section
variable {a b : Nat} {w u v : World}
theorem GTwo.refl (a b : Nat) (w : World) : GTwo a b w w := ⟨rfl, rfl, rfl, rfl, fun _ _ _ => rfl⟩
theorem GTwo.trans (h : GTwo a b w u) (k : GTwo a b u v) : GTwo a b w v :=
  ⟨k.os.trans h.os, k.tape.trans h.tape, k.output.trans h.output, k.size.trans h.size, fun i h1 h2 => (k.block i h1 h2).trans (h.block i h1 h2)⟩
theorem GTwo.fst (h : Only a w u) : GTwo a b w u := ⟨h.os, h.tape, h.output, h.size, fun i h1 _ => h.block i h1⟩
theorem GTwo.snd (h : Only b w u) : GTwo a b w u := ⟨h.os, h.tape, h.output, h.size, fun i _ h2 => h.block i h2⟩
theorem GTwo.below {B : Nat} (h : GTwo a b w u) (ha : B ≤ a) (hb : B ≤ b) : Below B w u :=
  ⟨h.os, h.tape, h.output, Nat.le_of_eq h.size.symm, fun k hk => h.block k (by omega) (by omega)⟩
theorem GTwo.drewN (h : GTwo a b w u) (n : Nat) : GTwo a b w (u.drewN n) := ⟨h.os, h.tape, h.output, h.size, h.block⟩
theorem GTwo.drew (h : GTwo a b w u) : GTwo a b w u.drew := ⟨h.os, h.tape, h.output, h.size, h.block⟩
end

/-- A window in memory: block H holds it, block K its N cells; x is the next cell, h the count. -/
structure GLo (w : World) (H K N x h : Nat) (cs : List Int) : Prop where
  hd : Cells w H #[.slice (some ⟨K, 0, none⟩) N N, .int .i64 (x : Int), .int .i64 (h : Int)] 53
  row : Cells w K (gvb cs).toArray 5
  len : cs.length = N
  n1 : 1 ≤ N
  n2 : N ≤ 32768
  xlt : x < N
  hle : h ≤ N
  ne : H ≠ K
section
variable {w u : World} {H K N x h : Nat} {cs : List Int}
theorem GLo.drewN (l : GLo w H K N x h cs) (n : Nat) : GLo (w.drewN n) H K N x h cs := ⟨l.hd, l.row, l.len, l.n1, l.n2, l.xlt, l.hle, l.ne⟩
theorem GLo.drew (l : GLo w H K N x h cs) : GLo w.drew H K N x h cs := ⟨l.hd, l.row, l.len, l.n1, l.n2, l.xlt, l.hle, l.ne⟩
theorem GLo.only {c : Nat} (l : GLo w H K N x h cs) (k : Only c w u) (h1 : H ≠ c) (h2 : K ≠ c) : GLo u H K N x h cs := ⟨l.hd.only k h1, l.row.only k h2, l.len, l.n1, l.n2, l.xlt, l.hle, l.ne⟩
theorem GLo.below {B : Nat} (l : GLo w H K N x h cs) (k : Below B w u) (h1 : H < B) (h2 : K < B) : GLo u H K N x h cs := ⟨l.hd.below k h1, l.row.below k h2, l.len, l.n1, l.n2, l.xlt, l.hle, l.ne⟩
theorem GLo.alloc (l : GLo w H K N x h cs) (o : Obj) : GLo (w.alloc o) H K N x h cs := ⟨l.hd.alloc o, l.row.alloc o, l.len, l.n1, l.n2, l.xlt, l.hle, l.ne⟩
theorem GLo.c0 (l : GLo w H K N x h cs) : w.cell? ⟨H, 0, none⟩ = some (.slice (some ⟨K, 0, none⟩) N N) := (l.hd.cell 0).trans rfl
theorem GLo.c1 (l : GLo w H K N x h cs) : w.cell? ⟨H, 1, none⟩ = some (.int .i64 (x : Int)) := (l.hd.cell 1).trans rfl
theorem GLo.c2 (l : GLo w H K N x h cs) : w.cell? ⟨H, 2, none⟩ = some (.int .i64 (h : Int)) := (l.hd.cell 2).trans rfl
theorem GLo.set (l : GLo w H K N x h cs) (x' h' : Nat) (hx : x' < N) (hh : h' ≤ N) : GLo ((w.setCell ⟨H, 1, none⟩ (.int .i64 (x' : Int))).setCell ⟨H, 2, none⟩ (.int .i64 (h' : Int))) H K N x' h' cs := by
  refine ⟨?_, ?_, l.len, l.n1, l.n2, hx, hh, l.ne⟩
  · exact ((l.hd.set 1 _).set 2 _)
  · exact l.row.only (((Only.refl H w).setCell 1 _).setCell 2 _) l.ne.symm
end

theorem gnew_yes (n : Nat) (w : World) (h1 : 1 ≤ n) (h2 : n ≤ 32768) : Calls Tryd.prog 12 #[.int .i64 n] w fun e w' => e = .returned (.tuple #[.pointer (some ⟨w.heap.size + 1, 0, none⟩), .int .i64 0]) ∧
    GLo w' (w.heap.size + 1) w.heap.size n 0 0 (List.replicate n 0) ∧ Below w.heap.size w w' ∧ w'.heap.size = w.heap.size + 2 := by
  have e1 : ¬ (n : Int) < 1 := by omega
  have e2 : ¬ (32768 : Int) < n := by omega
  have hm := gmade n (by omega) w
  generalize hcs : (gvb (List.replicate n 0)).toArray = cs at hm
  go_enter Tryd.func12, Tryd.ntmps12
  go_wp2
  go_ret2
  refine ⟨rfl, ⟨?_, ?_, by simp, h1, h2, h1, Nat.zero_le _, by omega⟩, ?_, ?_⟩
  · have := Cells.new (w.alloc (.cells cs 5)) #[.slice (some ⟨w.heap.size, 0, none⟩) n n, .int .i64 0, .int .i64 0] 53
    simpa using this
  · rw [hcs]
    exact (Cells.new w cs 5).alloc _
  · exact ((Below.refl _ _).alloc (Nat.le_refl _) _).alloc (by simp) _
  · simp
theorem glen_c {H K N x h : Nat} {cs : List Int} (w : World) (l : GLo w H K N x h cs) : Calls Tryd.prog 53 #[.pointer (some ⟨H, 0, none⟩)] w fun e w' => e = .returned (.int .i64 (h : Int)) ∧ w = w' := by
  have h2 := l.c2
  go_enter Tryd.func53, Tryd.ntmps53
  go_wp2
  go_ret
  exact ⟨rfl, rfl⟩
theorem gsize_c {H K N x h : Nat} {cs : List Int} (w : World) (l : GLo w H K N x h cs) : Calls Tryd.prog 48 #[.pointer (some ⟨H, 0, none⟩)] w fun e w' => e = .returned (.int .i64 (N : Int)) ∧ w = w' := by
  have h2 := l.c0
  go_enter Tryd.func48, Tryd.ntmps48
  go_wp2
  go_ret
  exact ⟨rfl, rfl⟩
theorem gmin_i (h n N : Nat) : (if (N : Int) < (h : Int) + n then (N : Int) else (h : Int) + n) = ((min (h + n) N : Nat) : Int) := by
  split <;> omega
theorem gmove_c {H K N x h : Nat} {cs : List Int} (n : Nat) (w : World) (l : GLo w H K N x h cs) (hn : n ≤ N) : Calls Tryd.prog 49 #[.pointer (some ⟨H, 0, none⟩), .int .i64 (n : Int)] w fun e w' => e = .returned (.tuple #[]) ∧ GLo w' H K N (gfwd N x n) (min (h + n) N) cs ∧ Only H w w' := by
  have h0 := l.c0
  have h1 := l.c1
  have h2 := l.c2
  have h3 := l.hd.frozen 1
  have h4 := l.hd.frozen 2
  have n2 := l.n2
  have xlt := l.xlt
  have hle := l.hle
  have hfl := gfwd_lt xlt hn
  go_enter Tryd.func49, Tryd.ntmps49
  by_cases hf : x + n < N
  · have hf1 : ¬ (N : Int) ≤ (x : Int) + n := by omega
    have hfw : gfwd N x n = x + n := by unfold gfwd; rw [if_pos hf]
    go_wp2_with fail
    go_quiet (fail)
    go_wp2_with fail
    go_region
    go_end0
    rw [gmin_i]
    refine ⟨rfl, ⟨?_, l.row.only ((((Only.refl H w).setCell 1 _).drewN _).setCell 2 _) l.ne.symm, l.len, l.n1, l.n2, hfl, Nat.min_le_right _ _, l.ne⟩, (((Only.refl H w).setCell 1 _).drewN _).setCell 2 _⟩
    rw [hfw]
    exact (((l.hd.set 1 (.int .i64 ((x : Int) + n))).drewN _).set 2 _)
  · have hf1 : (N : Int) ≤ (x : Int) + n := by omega
    have hfw : ((gfwd N x n : Nat) : Int) = (x : Int) + n - N := by unfold gfwd; rw [if_neg hf]; omega
    go_wp2_with fail
    go_quiet (fail)
    go_wp2_with fail
    go_region
    go_wp2_with fail
    go_region
    go_end0
    rw [gmin_i]
    refine ⟨rfl, ⟨?_, l.row.only ((((((Only.refl H w).setCell 1 _).drewN _).setCell 1 _).drewN _).setCell 2 _) l.ne.symm, l.len, l.n1, l.n2, hfl, Nat.min_le_right _ _, l.ne⟩, (((((Only.refl H w).setCell 1 _).drewN _).setCell 1 _).drewN _).setCell 2 _⟩
    rw [hfw]
    exact (((((l.hd.set 1 (.int .i64 ((x : Int) + n))).drewN _).set 1 (.int .i64 ((x : Int) + n - N))).drewN _).set 2 _)
theorem gcell_c {H K N x h : Nat} {cs : List Int} (d : Nat) (w : World) (l : GLo w H K N x h cs) (hd : d ≤ N) : Calls Tryd.prog 56 #[.pointer (some ⟨H, 0, none⟩), .int .i64 (d : Int)] w fun e w' => e = .returned (.int .i64 ((gbck N x d : Nat) : Int)) ∧ w' = w := by
  have h0 := l.c0
  have h1 := l.c1
  have n2 := l.n2
  have xlt := l.xlt
  go_enter Tryd.func56, Tryd.ntmps56
  by_cases hf : d ≤ x
  · have hf1 : ¬ (x : Int) - d < 0 := by omega
    have hb : ((gbck N x d : Nat) : Int) = (x : Int) - d := by unfold gbck; rw [if_pos hf]; omega
    go_wp2_with fail
    go_ret
    exact ⟨by first | rfl | (rw [hb]; rfl), rfl⟩
  · have hf1 : (x : Int) - d < 0 := by omega
    have hb : ((gbck N x d : Nat) : Int) = (x : Int) - d + N := by unfold gbck; rw [if_neg hf]; omega
    go_wp2_with fail
    go_ret
    exact ⟨by first | rfl | (rw [hb]; rfl), rfl⟩
theorem Cells.gbyte {w : World} {b : Nat} {cs : List Int} (h : Cells w b (gvb cs).toArray 5) {i : Nat} {z : Int} (hi : cs[i]? = some z) : w.cell? ⟨b, i, none⟩ = some (.int .u8 z) := by
  rw [h.cell i, List.getElem?_toArray, gvb_get, hi]; rfl
theorem gvb_set (cs : List Int) (i : Nat) (z : Int) : (gvb cs).toArray.setIfInBounds i (.int .u8 z) = (gvb (cs.set i z)).toArray := by
  simp [gvb, List.map_set]
theorem gput_c {H K N x h : Nat} {cs : List Int} (z : Int) (w : World) (l : GLo w H K N x h cs) : Calls Tryd.prog 41 #[.pointer (some ⟨H, 0, none⟩), .int .u8 z] w fun e w' => e = .returned (.tuple #[]) ∧ GLo w' H K N (gfwd N x 1) (min (h + 1) N) (cs.set x z) ∧ GTwo H K w w' := by
  have h0 := l.c0
  have h1 := l.c1
  have n1 := l.n1
  have xlt := l.xlt
  have hx : x < cs.length := by rw [l.len]; exact xlt
  have hxi : (x : Int) < (N : Int) := by omega
  have hr := l.row.gbyte (List.getElem?_eq_getElem hx)
  have hrf := l.row.frozen x
  have hN0 : ((N : Int) == 0) = false := by simp; omega
  go_enter Tryd.func41, Tryd.ntmps41
  go_wp2_with fail
  refine (gsize_c _ l).mono ?_
  rintro e w' ⟨rfl, rfl⟩
  go_wp2_with fail
  go_region
  have ho : Only K w ((w.setCell ⟨K, x, none⟩ (.int .u8 z)).drewN 1) := ((Only.refl K w).setCell x _).drewN 1
  have l2 : GLo ((w.setCell ⟨K, x, none⟩ (.int .u8 z)).drewN 1) H K N x h (cs.set x z) := by
    refine ⟨l.hd.only ho l.ne, ?_, by rw [List.length_set]; exact l.len, l.n1, l.n2, l.xlt, l.hle, l.ne⟩
    have := (l.row.set x (.int .u8 z)).drewN 1
    rwa [gvb_set] at this
  clear h0 h1 hr hrf hN0
  go_wp2_with fail
  refine (gmove_c 1 _ l2 n1).mono ?_
  rintro e w' ⟨rfl, l3, ho3⟩
  go_wp2_with fail
  first | go_end0 | (refine bodyPost_ret (results_none rfl _ _ _) rfl ?_)
  exact ⟨rfl, l3, (GTwo.snd ho).trans (GTwo.fst ho3)⟩
theorem gback_no {H K N x h : Nat} {cs : List Int} (d : Int) (w : World) (l : GLo w H K N x h cs) (hd : d < 1 ∨ (h : Int) < d) : Calls Tryd.prog 55 #[.pointer (some ⟨H, 0, none⟩), .int .i64 d] w fun e w' => e = .returned (.tuple #[.int .u8 0, .bool false]) ∧ w = w' := by
  go_enter Tryd.func55, Tryd.ntmps55
  by_cases h1 : d < 1
  · go_wp2_with fail
    go_ret2
    exact ⟨rfl, rfl⟩
  · have h0 : (h : Int) < d := by omega
    go_wp2_with fail
    refine (glen_c _ l).mono ?_
    rintro e w' ⟨rfl, rfl⟩
    go_wp2_with fail
    go_ret2
    exact ⟨rfl, rfl⟩
theorem gback_yes {H K N x h : Nat} {cs : List Int} (d : Nat) (z : Int) (w : World) (l : GLo w H K N x h cs) (h1 : 1 ≤ d) (h2 : d ≤ h) (hz : cs[gbck N x d]? = some z) :
    Calls Tryd.prog 55 #[.pointer (some ⟨H, 0, none⟩), .int .i64 (d : Int)] w fun e w' => e = .returned (.tuple #[.int .u8 z, .bool true]) ∧ ∃ n, w' = w.drewN n := by
  have hle := l.hle
  have hd : d ≤ N := Nat.le_trans h2 hle
  have e1 : ¬ (d : Int) < 1 := by omega
  have e2 : ¬ (h : Int) < (d : Int) := by omega
  have hb := gbck_lt l.xlt h1 hd
  have hr := l.row.gbyte hz
  have hc := fun w' (l' : GLo w' H K N x h cs) => gcell_c d w' l' hd
  clear hz
  generalize gbck N x d = p at *
  have hpi : (p : Int) < (N : Int) := by omega
  have h0 := l.c0
  go_enter Tryd.func55, Tryd.ntmps55
  go_wp2_with fail
  refine (glen_c _ l).mono ?_
  rintro e w' ⟨rfl, rfl⟩
  go_wp2_with fail
  go_quiet ((first | (go_at_call 56; refine Calls.quiet_of_same (hc _ ?_); first | exact l.drewN _ | exact l | exact l.drew)))
  go_wp2_with fail
  go_ret2
  exact ⟨rfl, _, rfl⟩
end Go.Proofs.YtikdpnpkmmmacabDoor

/-
  What Put, Back, Clear, Len, Size and Tail of the ring come to, at a window in memory that holds a list of bytes; and Same of two lists that are one.
  Conditions: the window has a size from 1 to 32768, and the list is not longer; each method keeps that.
-/
namespace Go.Proofs.YtikdpnpkmmmacabDoor
open Go.RowKit
set_option linter.unusedVariables false

/-- Block H holds a window of N cells, which lie in block K; l is what is in it. -/
structure GRg (w : World) (H K N : Nat) (l : List Int) : Prop where
  ex : ∃ x cs, GLo w H K N x l.length cs ∧ GHolds N x cs l
section
variable {w u : World} {H K N : Nat} {l : List Int}
theorem GRg.drewN (r : GRg w H K N l) (n : Nat) : GRg (w.drewN n) H K N l := by obtain ⟨x, cs, lo, hh⟩ := r.ex; exact ⟨x, cs, lo.drewN n, hh⟩
theorem GRg.drew (r : GRg w H K N l) : GRg w.drew H K N l := by obtain ⟨x, cs, lo, hh⟩ := r.ex; exact ⟨x, cs, lo.drew, hh⟩
theorem GRg.only {c : Nat} (r : GRg w H K N l) (k : Only c w u) (h1 : H ≠ c) (h2 : K ≠ c) : GRg u H K N l := by obtain ⟨x, cs, lo, hh⟩ := r.ex; exact ⟨x, cs, lo.only k h1 h2, hh⟩
theorem GRg.below {B : Nat} (r : GRg w H K N l) (k : Below B w u) (h1 : H < B) (h2 : K < B) : GRg u H K N l := by obtain ⟨x, cs, lo, hh⟩ := r.ex; exact ⟨x, cs, lo.below k h1 h2, hh⟩
theorem GRg.alloc (r : GRg w H K N l) (o : Obj) : GRg (w.alloc o) H K N l := by obtain ⟨x, cs, lo, hh⟩ := r.ex; exact ⟨x, cs, lo.alloc o, hh⟩
theorem GRg.two {a b : Nat} (r : GRg w H K N l) (k : GTwo a b w u) (h1 : H ≠ a) (h2 : K ≠ a) (h3 : H ≠ b) (h4 : K ≠ b) : GRg u H K N l := by
  obtain ⟨x, cs, lo, hh⟩ := r.ex
  refine ⟨x, cs, ⟨?_, ?_, lo.len, lo.n1, lo.n2, lo.xlt, lo.hle, lo.ne⟩, hh⟩
  · have := lo.hd; unfold Cells at *; rw [k.block H h1 h3]; exact this
  · have := lo.row; unfold Cells at *; rw [k.block K h2 h4]; exact this
theorem GRg.lt (r : GRg w H K N l) : H < w.heap.size ∧ K < w.heap.size := by obtain ⟨x, cs, lo, hh⟩ := r.ex; exact ⟨lo.hd.lt, lo.row.lt⟩
theorem GRg.le (r : GRg w H K N l) : l.length ≤ N ∧ N ≤ 32768 ∧ 1 ≤ N := by obtain ⟨x, cs, lo, hh⟩ := r.ex; exact ⟨lo.hle, lo.n2, lo.n1⟩
end
theorem gnew_r (n : Nat) (w : World) (h1 : 1 ≤ n) (h2 : n ≤ 32768) : Calls Tryd.prog 12 #[.int .i64 n] w fun e w' => e = .returned (.tuple #[.pointer (some ⟨w.heap.size + 1, 0, none⟩), .int .i64 0]) ∧
    GRg w' (w.heap.size + 1) w.heap.size n [] ∧ Below w.heap.size w w' ∧ w'.heap.size = w.heap.size + 2 :=
  (gnew_yes n w h1 h2).mono fun _ _ h => ⟨h.1, ⟨0, _, h.2.1, gholds_nil _ _ _⟩, h.2.2⟩
section
variable {H K N : Nat} {l : List Int}
theorem glen_r (w : World) (r : GRg w H K N l) : Calls Tryd.prog 53 #[.pointer (some ⟨H, 0, none⟩)] w fun e w' => e = .returned (.int .i64 (l.length : Int)) ∧ w = w' := by
  obtain ⟨x, cs, lo, hh⟩ := r.ex; exact glen_c w lo
theorem gsize_r (w : World) (r : GRg w H K N l) : Calls Tryd.prog 48 #[.pointer (some ⟨H, 0, none⟩)] w fun e w' => e = .returned (.int .i64 (N : Int)) ∧ w = w' := by
  obtain ⟨x, cs, lo, hh⟩ := r.ex; exact gsize_c w lo
theorem gput_r (z : Int) (w : World) (r : GRg w H K N l) : Calls Tryd.prog 41 #[.pointer (some ⟨H, 0, none⟩), .int .u8 z] w fun e w' => e = .returned (.tuple #[]) ∧ GRg w' H K N (glastN N (l ++ [z])) ∧ GTwo H K w w' := by
  obtain ⟨x, cs, lo, hh⟩ := r.ex
  refine (gput_c z w lo).mono fun _ _ h => ⟨h.1, ⟨_, _, ?_, gput_holds hh lo.len lo.xlt lo.hle z⟩, h.2.2⟩
  rw [glastN_length, List.length_append, List.length_singleton]
  exact h.2.1
theorem gback_r_no (d : Int) (w : World) (r : GRg w H K N l) (hd : d < 1 ∨ (l.length : Int) < d) : Calls Tryd.prog 55 #[.pointer (some ⟨H, 0, none⟩), .int .i64 d] w fun e w' => e = .returned (.tuple #[.int .u8 0, .bool false]) ∧ w = w' := by
  obtain ⟨x, cs, lo, hh⟩ := r.ex; exact gback_no d w lo hd
theorem gback_r (d : Nat) (z : Int) (w : World) (r : GRg w H K N l) (h1 : 1 ≤ d) (h2 : d ≤ l.length) (hz : l[l.length - d]? = some z) :
    Calls Tryd.prog 55 #[.pointer (some ⟨H, 0, none⟩), .int .i64 (d : Int)] w fun e w' => e = .returned (.tuple #[.int .u8 z, .bool true]) ∧ ∃ n, w' = w.drewN n := by
  obtain ⟨x, cs, lo, hh⟩ := r.ex
  exact gback_yes d z w lo h1 h2 ((hh d h1 h2).trans hz)
end

end Go.Proofs.YtikdpnpkmmmacabDoor

/-
  What deflated bytes give, as a machine of small steps over their bits: each step is done as soon as its last bit is there. No walk in this text.
-/
namespace Go.Proofs.YtikdpnpkmmmacabDoor
set_option linter.unusedVariables false
/-- All bits of some bytes. -/
def allb (B : List Nat) : List Bool := B.flatMap (bitsOf 8)
/-- A number of n bits from place p on, if they are there. -/
def num? (bs : List Bool) (p n : Nat) : Option Nat := if p + n ≤ bs.length then some (nm ((bs.drop p).take n)) else none
/-- What reading a symbol comes to. -/
inductive SR where
  | got (s n : Nat)
  | bad (j : Nat)
  | cut
def hitb (ls : List Nat) (h : List Bool) (s : Nat) : Bool := match ls[s]? with
  | some n => decide (0 < n ∧ n ≤ h.length ∧ num (h.take n) = code ls s n)
  | none => false
def mayb (ls : List Nat) (h : List Bool) : Bool := (List.range ls.length).any fun s => match ls[s]? with
  | some n => decide (0 < n ∧ h.length ≤ n ∧ code ls s n / 2 ^ (n - h.length) = num h)
  | none => false
def sread (ls : List Nat) (h : List Bool) : SR := match (List.range ls.length).find? (hitb ls h) with
  | some s => .got s (ls.getD s 0)
  | none => match (List.range (h.length + 1)).find? (fun j => !mayb ls (h.take j)) with
    | some j => .bad j
    | none => .cut
theorem hitb_iff {ls : List Nat} {h : List Bool} {s : Nat} : hitb ls h s = true ↔ ∃ n, Hit ls h s n := by
  unfold hitb Hit
  cases e : ls[s]? with
  | none => simp
  | some n => simp
theorem mayb_iff {ls : List Nat} {h : List Bool} : mayb ls h = true ↔ May ls h := by
  unfold mayb May
  rw [List.any_eq_true]
  constructor
  · rintro ⟨s, _, hs⟩
    cases e : ls[s]? with
    | none => rw [e] at hs; cases hs
    | some n => rw [e] at hs; have := of_decide_eq_true hs; exact ⟨s, n, e, this.1, this.2.1, this.2.2⟩
  · rintro ⟨s, n, h1, h2, h3, h4⟩
    exact ⟨s, List.mem_range.2 (List.getElem?_eq_some_iff.1 h1).1, by rw [h1]; exact decide_eq_true ⟨h2, h3, h4⟩⟩
theorem sread_got {ls : List Nat} {h : List Bool} {s n : Nat} (hh : Hit ls h s n) : sread ls h = .got s n := by
  have hs := (List.getElem?_eq_some_iff.1 hh.1).1
  unfold sread
  cases e : (List.range ls.length).find? (hitb ls h) with
  | none =>
    have := List.find?_eq_none.1 e s (List.mem_range.2 hs)
    exact absurd (hitb_iff.2 ⟨n, hh⟩) this
  | some s' =>
    obtain ⟨n', h'⟩ := hitb_iff.1 (List.find?_some e)
    obtain ⟨rfl, rfl⟩ := hit_one h' hh
    simp only []
    rw [List.getD_eq_getElem?_getD, hh.1]; rfl
theorem find_range {p : Nat → Bool} {n j : Nat} (hj : j < n) (h1 : p j = true) (h2 : ∀ k, k < j → p k = false) : (List.range n).find? p = some j := by
  rw [List.find?_eq_some_iff_append]
  refine ⟨h1, List.range j, (List.range (n - (j + 1))).map (fun x => j + 1 + x), ?_, fun a ha => by rw [h2 a (List.mem_range.1 ha)]; rfl⟩
  have e : n = j + 1 + (n - (j + 1)) := by omega
  rw [e, List.range_add, List.range_succ]
  simp
theorem may_less {ls : List Nat} {h : List Bool} {k : Nat} (hm : May ls h) (hk : k ≤ h.length) : May ls (h.take k) := by
  obtain ⟨s, n, h1, h2, h3, h4⟩ := hm
  have hl : (h.take k).length = k := by rw [List.length_take]; omega
  refine ⟨s, n, h1, h2, by omega, ?_⟩
  have e := take_num (h := h) hk (Nat.le_refl _)
  rw [List.take_length] at e
  rw [hl, e, ← h4, Nat.div_div_eq_div_mul, ← Nat.pow_add, show n - h.length + (h.length - k) = n - k by omega]
theorem hit_may {ls : List Nat} {h : List Bool} {s n k : Nat} (hh : Hit ls h s n) (hk : k ≤ n) : May ls (h.take k) := by
  obtain ⟨h1, h2, h3, h4⟩ := hh
  have hl : (h.take k).length = k := by rw [List.length_take]; omega
  refine ⟨s, n, h1, h2, by omega, ?_⟩
  rw [hl, ← h4]
  exact (take_num hk h3).symm
theorem hit_take {ls : List Nat} {h : List Bool} {s n j : Nat} (hh : Hit ls h s n) (hj : n ≤ j) : Hit ls (h.take j) s n := by
  obtain ⟨h1, h2, h3, h4⟩ := hh
  exact ⟨h1, h2, by rw [List.length_take]; omega, by rw [List.take_take, Nat.min_eq_left hj]; exact h4⟩
theorem hit_of_take {ls : List Nat} {h : List Bool} {s n j : Nat} (hh : Hit ls (h.take j) s n) : Hit ls h s n := by
  obtain ⟨h1, h2, h3, h4⟩ := hh
  rw [List.length_take] at h3
  exact ⟨h1, h2, by omega, by rw [List.take_take, Nat.min_eq_left (by omega)] at h4; exact h4⟩
theorem sread_no {ls : List Nat} {h : List Bool} (hn : ∀ s n, ¬ Hit ls h s n) : (List.range ls.length).find? (hitb ls h) = none := by
  rw [List.find?_eq_none]
  intro s _ hs
  obtain ⟨n, hh⟩ := hitb_iff.1 hs
  exact hn s n hh
theorem sread_bad {ls : List Nat} {h : List Bool} {j : Nat} (hj : j ≤ h.length) (h1 : ∀ s n, ¬ Hit ls (h.take j) s n) (h2 : ¬ May ls (h.take j)) (h3 : ∀ k, k < j → May ls (h.take k)) : sread ls h = .bad j := by
  have hn : ∀ s n, ¬ Hit ls h s n := by
    intro s n hh
    rcases Nat.lt_or_ge j n with hlt | hge
    · exact h2 (hit_may hh (by omega))
    · exact h1 s n (hit_take hh hge)
  unfold sread
  rw [sread_no hn]
  have : (List.range (h.length + 1)).find? (fun j => !mayb ls (h.take j)) = some j := find_range (by omega) (by
    cases e : mayb ls (h.take j)
    · rfl
    · exact absurd (mayb_iff.1 e) h2) (fun k hk => by rw [mayb_iff.2 (h3 k hk)]; rfl)
  simp only [this]
theorem sread_cut {ls : List Nat} {h : List Bool} (h1 : ∀ s n, ¬ Hit ls h s n) (h2 : May ls h) : sread ls h = .cut := by
  unfold sread
  rw [sread_no h1]
  have : (List.range (h.length + 1)).find? (fun j => !mayb ls (h.take j)) = none := by
    rw [List.find?_eq_none]
    intro j hj
    rw [mayb_iff.2 (may_less h2 (by have := List.mem_range.1 hj; omega))]
    simp
  simp only [this]
/-- A length symbol's least length, and how many bits stand behind it. -/
def lbase (s : Nat) : Nat := if s = 285 then 258 else (List.range (s - 257)).foldl (fun a i => a + 2 ^ (if 265 ≤ i + 257 then (i + 257 - 261) / 4 else 0)) 3
def lmore (s : Nat) : Nat := if s = 285 then 0 else if 265 ≤ s then (s - 261) / 4 else 0
def dbase (x : Nat) : Nat := (List.range x).foldl (fun a i => a + 2 ^ (if 4 ≤ i then (i - 2) / 2 else 0)) 1
def dmore (x : Nat) : Nat := if 4 ≤ x then (x - 2) / 2 else 0
def fixL : List Nat := (List.range 288).map fun i => if 256 ≤ i ∧ i < 280 then 7 else if 144 ≤ i ∧ i < 256 then 9 else 8
def fixD : List Nat := List.replicate 32 5
def ordr : List Nat := [16, 17, 18, 0, 8, 7, 9, 6, 10, 5, 11, 4, 12, 3, 13, 2, 14, 1, 15]
/-- What comes next. -/
inductive St where
  | head (last : Bool)
  | slen (last : Bool)
  | snot (last : Bool) (l : Nat)
  | sraw (last : Bool) (n : Nat)
  | dnum (last : Bool)
  | dfst (last : Bool) (a b c i : Nat) (first : List Nat)
  | dsym (last : Bool) (a b : Nat) (code l : List Nat)
  | drep (last : Bool) (a b : Nat) (code l : List Nat) (s : Nat)
  | sym (last : Bool) (lit dist : List Nat)
  | lext (last : Bool) (lit dist : List Nat) (s : Nat)
  | dist (last : Bool) (lit dist : List Nat) (n : Nat)
  | dext (last : Bool) (lit dist : List Nat) (n x : Nat)
  | copy (last : Bool) (lit dist : List Nat) (n d : Nat)
  | done
  | bad (why : Nat)
structure Cfg where
  st : St
  pos : Nat
  out : List Nat
  times : List Nat
/-- A byte is known, with the bits up to p; most: how many may be. -/
def give (most : Nat) (k : St) (b p : Nat) (c : Cfg) : Cfg := if c.out.length < most then ⟨k, p, c.out ++ [b], c.times ++ [(p - 1) / 8]⟩ else ⟨.bad 62, p, c.out, c.times⟩
/-- May lengths be those of codes? -/
def mays (ls : List Nat) : Bool := decide (ls.length ≤ 320 ∧ (∀ l ∈ ls, l ≤ 15) ∧ kr ls ≤ 32768 ∧ ¬ Under ls)
/-- One step; none: more bits are wanted, or it is over. -/
def step (bs : List Bool) (most : Nat) (c : Cfg) : Option Cfg := match c.st with
  | .head true => some ⟨.done, c.pos, c.out, c.times⟩
  | .head false => (num? bs c.pos 3).map fun v => ⟨match v / 2 with
      | 0 => .slen (v % 2 == 1)
      | 1 => .sym (v % 2 == 1) fixL fixD
      | 2 => .dnum (v % 2 == 1)
      | _ => .bad 10, c.pos + 3, c.out, c.times⟩
  | .slen last => (num? bs ((c.pos + 7) / 8 * 8) 16).map fun v => ⟨.snot last v, (c.pos + 7) / 8 * 8 + 16, c.out, c.times⟩
  | .snot last l => (num? bs c.pos 16).map fun m => ⟨if l + m = 65535 then .sraw last l else .bad 11, c.pos + 16, c.out, c.times⟩
  | .sraw last 0 => some ⟨.head last, c.pos, c.out, c.times⟩
  | .sraw last (n + 1) => (num? bs c.pos 8).map fun v => give most (.sraw last n) v (c.pos + 8) c
  | .dnum last => (num? bs c.pos 14).map fun v => ⟨if 286 < 257 + v % 32 ∨ 30 < 1 + v / 32 % 32 then .bad 12 else .dfst last (257 + v % 32) (1 + v / 32 % 32) (4 + v / 1024) 0 (List.replicate 19 0), c.pos + 14, c.out, c.times⟩
  | .dfst last a b k i first => if i < k then (num? bs c.pos 3).map fun v => ⟨.dfst last a b k (i + 1) (first.set (ordr.getD i 0) v), c.pos + 3, c.out, c.times⟩
      else some ⟨if kr first = 32768 then .dsym last a b first [] else .bad 12, c.pos, c.out, c.times⟩
  | .dsym last a b code l => if l.length < a + b then match sread code (bs.drop c.pos) with
        | .cut => none
        | .bad j => some ⟨.bad 13, c.pos + j, c.out, c.times⟩
        | .got s n => some ⟨if s < 16 then .dsym last a b code (l ++ [s]) else if s = 16 ∧ l = [] then .bad 12 else .drep last a b code l s, c.pos + n, c.out, c.times⟩
      else some ⟨if l.getD 256 0 = 0 ∨ mays (l.take a) = false ∨ mays (l.drop a) = false then .bad 12 else .sym last (l.take a) (l.drop a), c.pos, c.out, c.times⟩
  | .drep last a b code l s => (num? bs c.pos (if s = 16 then 2 else if s = 17 then 3 else 7)).map fun v =>
      ⟨if a + b < l.length + ((if s = 18 then 11 else 3) + v) then .bad 12 else .dsym last a b code (l ++ List.replicate ((if s = 18 then 11 else 3) + v) (if s = 16 then l.getD (l.length - 1) 0 else 0)), c.pos + (if s = 16 then 2 else if s = 17 then 3 else 7), c.out, c.times⟩
  | .sym last lit di => match sread lit (bs.drop c.pos) with
      | .cut => none
      | .bad j => some ⟨.bad 13, c.pos + j, c.out, c.times⟩
      | .got s n => if s < 256 then some (give most (.sym last lit di) s (c.pos + n) c)
          else some ⟨if s = 256 then .head last else if 285 < s then .bad 13 else .lext last lit di s, c.pos + n, c.out, c.times⟩
  | .lext last lit di s => (num? bs c.pos (lmore s)).map fun v => ⟨.dist last lit di (lbase s + v), c.pos + lmore s, c.out, c.times⟩
  | .dist last lit di n => match sread di (bs.drop c.pos) with
      | .cut => none
      | .bad j => some ⟨.bad 13, c.pos + j, c.out, c.times⟩
      | .got x k => some ⟨if 29 < x then .bad 13 else .dext last lit di n x, c.pos + k, c.out, c.times⟩
  | .dext last lit di n x => (num? bs c.pos (dmore x)).map fun v => ⟨if c.out.length < dbase x + v then .bad 14 else .copy last lit di n (dbase x + v), c.pos + dmore x, c.out, c.times⟩
  | .copy last lit di 0 d => some ⟨.sym last lit di, c.pos, c.out, c.times⟩
  | .copy last lit di (n + 1) d => some (give most (.copy last lit di n d) (c.out.getD (c.out.length - d) 0) c.pos c)
  | .done => none
  | .bad _ => none
/-- Some steps. -/
inductive Runs (bs : List Bool) (most : Nat) : Cfg → Cfg → Prop where
  | refl (c : Cfg) : Runs bs most c c
  | cons {c d e : Cfg} (h : step bs most c = some d) (r : Runs bs most d e) : Runs bs most c e
theorem Runs.trans {bs : List Bool} {most : Nat} {c d e : Cfg} (h : Runs bs most c d) (k : Runs bs most d e) : Runs bs most c e := by
  induction h with
  | refl => exact k
  | cons h1 _ ih => exact .cons h1 (ih k)
theorem Runs.one {bs : List Bool} {most : Nat} {c d : Cfg} (h : step bs most c = some d) : Runs bs most c d := .cons h (.refl d)
/-- There is one end. -/
theorem Runs.det {bs : List Bool} {most : Nat} {c d e : Cfg} (h : Runs bs most c d) (k : Runs bs most c e) (hd : step bs most d = none) (he : step bs most e = none) : d = e := by
  induction h with
  | refl =>
    cases k with
    | refl => rfl
    | cons h1 _ => rw [hd] at h1; cases h1
  | cons h1 _ ih =>
    cases k with
    | refl => rw [he] at h1; cases h1
    | cons h2 k2 =>
      rw [h1] at h2; cases h2
      exact ih k2 hd
end Go.Proofs.YtikdpnpkmmmacabDoor

/-
  Own texts of this seat, one behind the other: what each says stands ahead of it.
-/
import Derived.Test.YtogednaamndpgaaDoorMd
import Derived.OwnWalk
import Derived.Test.YtogednaamndpgaaDoorProg
import Derived.Test.YtogednaamndpgaaDoorMa
import Derived.WalkSpells
import Derived.OpenShut
import Derived.WalkMore
import Derived.ScopeJumps
import Derived.Deep.QuietTactic
import Derived.BigQuiet
/-
  What the program's New comes to.
-/
namespace Go.Proofs.YtogednaamndpgaaDoor
open Go.RowKit
set_option linter.unusedVariables false
/-- The program's table in memory, in blocks from lo to hi. -/
def PT (w : World) (lo hi T : Nat) (ls : List Nat) : Prop := ∃ g M k, Tq w T g M k ls ls.length ∧ lo ≤ T ∧ T < hi ∧ lo ≤ g ∧ g < hi ∧ lo ≤ M ∧ M < hi ∧ part ls 15 ≤ 32768 ∧ ∀ x ∈ ls, x ≤ 15
theorem Tq.heap {w u : World} {T g M k : Nat} {ls : List Nat} {i : Nat} (h : Tq w T g M k ls i) (e1 : u.heap[T]? = w.heap[T]?) (e2 : u.heap[g]? = w.heap[g]?) (e3 : u.heap[M]? = w.heap[M]?) : Tq u T g M k ls i := by
  obtain ⟨h1, h2, G, h3, h4⟩ := h
  exact ⟨e1.trans h1, h2.heap e2, G, h3.heap e3, h4⟩
theorem PT.keep {w u : World} {lo hi T : Nat} {ls : List Nat} (h : PT w lo hi T ls) (k : ∀ k, lo ≤ k → k < hi → u.heap[k]? = w.heap[k]?) : PT u lo hi T ls := by
  obtain ⟨g, M, k', h1, a, b, c, d, e, f, q⟩ := h
  exact ⟨g, M, k', h1.heap (k T a b) (k g c d) (k M e f), a, b, c, d, e, f, q⟩
theorem Okl.le15 {zs : List Int} (h : Okl zs) : ∀ l ∈ lens zs, l ≤ 15 := by
  intro l hl
  unfold lens at hl
  obtain ⟨z, hz, rfl⟩ := List.mem_map.1 hl
  have := h.2 z hz
  omega
theorem Okl.cast {zs : List Int} (h : Okl zs) {i : Nat} {z : Int} (hz : zs[i]? = some z) : ∃ m : Nat, z = (m : Int) ∧ (lens zs)[i]? = some m := by
  have := h.2 z (List.mem_of_getElem? hz)
  exact ⟨z.toNat, by omega, by unfold lens; rw [List.getElem?_map, hz]; rfl⟩
theorem kr_parts : ∀ {ls : List Nat}, (∀ l ∈ ls, l ≤ 15) → ∃ o r, kr ls = 16384 * ls.count 1 + r ∧ used ls = ls.count 1 + o ∧ (r = 0 ↔ o = 0)
  | [], _ => ⟨0, 0, rfl, rfl, Iff.rfl⟩
  | l :: ls, h => by
    obtain ⟨o, r, h1, h2, h3⟩ := kr_parts (ls := ls) (fun x hx => h x (by simp [hx]))
    have hl := h l (by simp)
    have hu : used (l :: ls) = used ls + (if l = 0 then 0 else 1) := by
      unfold used
      simp only [List.countP_cons]
      by_cases e : l = 0
      · simp [e]
      · have : 0 < l := by omega
        simp [e, this]
    rw [hu, kr, List.count_cons]
    by_cases e0 : l = 0
    · subst e0
      exact ⟨o, r, by simp [h1], by simp [h2], h3⟩
    · by_cases e1 : l = 1
      · subst e1
        exact ⟨o, r, by simp [h1]; omega, by simp [h2]; omega, h3⟩
      · have hp : 0 < 2 ^ (15 - l) := Nat.pow_pos (by decide)
        have hb : (l == 1) = false := by rw [beq_eq_false_iff_ne]; exact e1
        refine ⟨o + 1, 2 ^ (15 - l) + r, ?_, ?_, ?_⟩
        · rw [if_neg e0, hb, h1]; simp; omega
        · rw [if_neg e0, hb, h2]; simp; omega
        · omega
/-- What is asked of the sums, in the document's words. -/
theorem under_row {ls : List Nat} (h15 : ∀ l ∈ ls, l ≤ 15) (h : kr ls ≤ 32768) : cerr (fun j => ls.count j) = if Under ls then 81 else 0 := by
  unfold cerr
  rw [psum_part, ← kr_part h15, if_neg (by omega)]
  obtain ⟨o, r, h1, h2, h3⟩ := kr_parts h15
  by_cases hu : Under ls
  · rw [if_pos hu, if_neg]
    unfold Under at hu
    obtain ⟨a, b, c⟩ := hu
    rintro (e | e | ⟨e1, e2⟩)
    · omega
    · omega
    · have e2' : ls.count 1 = 1 := e2
      omega
  · rw [if_neg hu, if_pos]
    unfold Under at hu
    by_cases a : kr ls = 32768
    · exact Or.inl a
    · by_cases b : used ls = 0
      · exact Or.inr (Or.inl (by omega))
      · have c : ls.count 1 = 1 := by omega
        exact Or.inr (Or.inr ⟨by omega, c⟩)
theorem over_row {ls : List Nat} (h15 : ∀ l ∈ ls, l ≤ 15) (h : 32768 < kr ls) : cerr (fun j => ls.count j) = 80 := by
  unfold cerr
  rw [psum_part, ← kr_part h15, if_pos h]
theorem nerr_cerr {zs : List Int} (h : Okl zs) : cerr (fun j => (lens zs).count j) = nerr zs := by
  unfold nerr
  rw [if_neg (by simpa using h)]
  by_cases h2 : 32768 < kr (lens zs)
  · rw [if_pos h2]; exact over_row h.le15 h2
  · rw [if_neg h2]; exact under_row h.le15 (by omega)
theorem count_le {zs : List Int} (h : Okl zs) (j : Nat) : (lens zs).count j ≤ 320 := by
  have e1 := List.count_le_length (a := j) (l := lens zs)
  have e2 : (lens zs).length ≤ 320 := by unfold lens; rw [List.length_map]; exact h.1
  exact Nat.le_trans e1 e2
set_option maxRecDepth 100000 in
set_option maxHeartbeats 2000000 in
/-- Lengths that may not be. -/
theorem new_arg (a : Option Addr) (zs : List Int) (L C : Nat) (w : World) (h : Lens w a zs) (hL : zs.length = L) (hLb : L < 140737488355328) (hno : ¬ Okl zs) :
    Calls Tryd.prog 49 #[.slice a L C] w fun e w' => e = .returned (.tuple #[.pointer none, .int .i64 2]) ∧ Below w.heap.size w w' := by
  have hcount := count_c a zs L C (fun _ => 0) false w h hL hLb (Or.inr ⟨hno, rfl, rfl⟩)
  obtain ⟨R, hR⟩ : ∃ R, (rw16 fun _ => 0) = R := ⟨_, rfl⟩
  rw [hR] at hcount
  have hRs : R.size = 16 := by rw [← hR]; exact rw16_size _
  have hR1 : R.all (·.oneCell') = true := by rw [← hR]; exact rw16_one _
  have hz : ∀ w', (zeroValue 82).run Tryd.prog w' = .ok (.agg R) w' := fun w' => by rw [← hR]; kernel_rfl
  clear h hL hLb hno hR
  go_enter Tryd.func49, Tryd.ntmps49
  go_wp2_with (first
    | (go_at_call 56; refine hcount.mono ?_; rintro e2 w2 ⟨rfl, hb2⟩
       have c2 := Cells.new w2 R 82
       have b2 : Aside (Below w.heap.size w w2) := hb2
       clear hb2)
    | (refine wpList_store_row rfl 82 (.tmp 4) (.tmp 14) rfl w2.heap.size R rfl rfl 82 R c2 (by rw [hRs]; exact size59) rfl hR1 ?_))
  first | go_ret | go_ret2
  exact ⟨rfl, (b2.out.alloc b2.out.size _).trans ((only_row c2 R).below b2.out.size)⟩
set_option maxRecDepth 100000 in
set_option maxHeartbeats 2000000 in
/-- Lengths that may be, but whose codes take too much or too little room. -/
theorem new_room (a : Option Addr) (zs : List Int) (L C e0 : Nat) (w : World) (h : Lens w a zs) (hL : zs.length = L) (hLb : L < 140737488355328) (hok : Okl zs) (he : nerr zs = e0) (he0 : e0 ≠ 0) :
    Calls Tryd.prog 49 #[.slice a L C] w fun e w' => e = .returned (.tuple #[.pointer none, .int .i64 (e0 : Int)]) ∧ Below w.heap.size w w' := by
  have hcount := count_c a zs L C (fun j => (lens zs).count j) true w h hL hLb (Or.inl ⟨hok, rfl, rfl⟩)
  have hcheck := check_c (fun j => (lens zs).count j) (count_le hok) e0 (by rw [nerr_cerr hok]; exact he)
  obtain ⟨R, hR⟩ : ∃ R, (rw16 fun j => (lens zs).count j) = R := ⟨_, rfl⟩
  rw [hR] at hcount hcheck
  have hRs : R.size = 16 := by rw [← hR]; exact rw16_size _
  have hR1 : R.all (·.oneCell') = true := by rw [← hR]; exact rw16_one _
  have hz : ∀ w', (zeroValue 82).run Tryd.prog w' = .ok (.agg (rw16 fun _ => 0)) w' := fun w' => by kernel_rfl
  have hne : ((e0 : Int) == 0) = false := beq_eq_false_iff_ne.2 (by omega)
  clear h hL hLb hok hR he he0
  go_enter Tryd.func49, Tryd.ntmps49
  go_upto_region 4 with (first
    | (go_at_call 56; refine hcount.mono ?_; rintro e2 w2 ⟨rfl, hb2⟩
       have c2 := Cells.new w2 (rw16 fun _ => 0) 82
       have b2 : Aside (Below w.heap.size w w2) := hb2
       clear hb2)
    | (refine wpList_store_row rfl 82 (.tmp 4) (.tmp 14) rfl w2.heap.size R rfl rfl 82 (rw16 fun _ => 0) c2 (by rw [hRs]; exact size59) (by rw [hRs]; rfl) hR1 ?_))
  have c3 := set_row c2 R
  have b3 : Aside (Below w.heap.size w ((w2.alloc (.cells (rw16 fun _ => 0) 82)).setRow w2.heap.size R)) := (b2.out.alloc b2.out.size _).trans ((only_row c2 R).below b2.out.size)
  obtain ⟨w3, hw3⟩ : ∃ w3, w3 = (w2.alloc (.cells (rw16 fun _ => 0) 82)).setRow w2.heap.size R := ⟨_, rfl⟩
  rw [← hw3] at c3 b3 ⊢
  obtain ⟨D, hD⟩ : ∃ D, w2.heap.size = D := ⟨_, rfl⟩
  rw [hD] at c3 ⊢
  clear c2 hw3 hD b2
  go_wp2_with (first
    | (refine wpList_load_row rfl 82 (.tmp 4) rfl D rfl 82 _ (0, 0) _ c3 Tryd.underlying82 rfl (by rw [hRs]; exact size59) ?_)
    | (go_at_call 57; refine (hcheck _).mono ?_; rintro e4 w4 ⟨rfl, hb4⟩))
  first | go_ret | go_ret2
  exact ⟨rfl, b3.out.trans (hb4.mono b3.out.size)⟩
theorem info70 : (Tryd.prog.info? 93).map (fun i => (i.zero, i.size, i.bytes)) = some (some (.agg #[.int .u32 0, .int .u32 0]), 2, 8) := by kernel_rfl
theorem made_codes (n : Nat) (hn : n ≤ 1048576) (w : World) : (Instr.makeSlice 86 (.int .i64 (n : Int)) (.int .i64 (n : Int))).run Tryd.prog w = .ok (.slice (some ⟨w.heap.size, 0, none⟩) n n) (w.alloc (.cells (Array.replicate (n * 2) (Value.int .u32 0)) 93)) := by
  obtain ⟨i, hi, hz, hs, hb⟩ := info_parts info70
  have := run_make (P := Tryd.prog) w 86 93 i _ Tryd.underlying86 hi hz .i64 .i64 n n (by omega) (by omega) (by rw [hb]; omega) (by omega)
  rw [this, hs]
  have e : madeCells (Value.agg #[.int .u32 0, .int .u32 0]).cells ((n : Int).toNat * 2) = (Array.replicate (n * 2) (Value.int .u32 0)) := by
    apply Array.ext_getElem?
    intro j
    by_cases hj : j < n * 2
    · rcases Nat.mod_two_eq_zero_or_one j with h | h <;> simp [madeCells, Value.cells, hj, h]
    · simp [madeCells, hj]
  rw [e]
  simp
theorem run_makeMap_hint (n : Int) (w : World) : (Instr.makeMap 87 (some (.int .i64 n))).run Tryd.prog w = .ok (.map (some w.heap.size)) (w.alloc (.map #[] 0)) := by
  simp [Instr.makeMap, run_underlying Tryd.underlying87, asInt, asIntOf, Result.andThen]
theorem Tq.new {w : World} {T g M : Nat} {ls : List Nat} (ht : Cells w T #[.slice (some ⟨g, 0, none⟩) ls.length ls.length, .map (some M)] 89) (hg : Cells w g (Array.replicate (ls.length * 2) (Value.int .u32 0)) 93) (hm : Mp w M 0 (fun _ _ => none)) : Tq w T g M 0 ls 0 := by
  refine ⟨ht, ⟨_, hg, by simp; omega, fun j m hj => ⟨fun h => by omega, fun _ => ?_⟩⟩, _, hm, Laidm.none ls⟩
  have := lt_of_at hj
  constructor
  · rw [Array.getElem?_replicate, if_pos (by omega)]
  · rw [Array.getElem?_replicate, if_pos (by omega)]
theorem size_al (w : World) (o : Obj) : (w.alloc o).heap.size = w.heap.size + 1 := Array.size_push _
theorem Mp.al {w : World} {M k : Nat} {G : Nat → Nat → Option Int} (h : Mp w M k G) (o : Obj) : Mp (w.alloc o) M k G := h.heap (Below.heap_alloc w o M h.lt)
/-- What lies in memory behind the table's making. -/
def Made (w4 wc : World) (N T : Nat) (ls : List Nat) : Prop := ∃ g M, Tq wc T g M 0 ls 0 ∧ N ≤ T ∧ N ≤ g ∧ N ≤ M ∧ T ≠ g ∧ T ≠ M ∧ g ≠ M ∧ T < wc.heap.size ∧ g < wc.heap.size ∧ M < wc.heap.size ∧ Below N w4 wc
theorem made_ab (w4 : World) (N L : Nat) (ls : List Nat) (hN : w4.heap.size = N) (hL : ls.length = L) :
    Made w4 (((w4.alloc (.cells (Array.replicate (L * 2) (Value.int .u32 0)) 93)).alloc (.map #[] 0)).alloc (.cells #[.slice (some ⟨N, 0, none⟩) L L, .map (some (N + 1))] 89)).drew N (N + 1 + 1) ls := by
  subst hN hL
  have s1 := size_al w4 (.cells (Array.replicate (ls.length * 2) (Value.int .u32 0)) 93)
  have c1 := Cells.new w4 (Array.replicate (ls.length * 2) (Value.int .u32 0)) 93
  have b1 := (Below.refl w4.heap.size w4).alloc (Nat.le_refl _) (.cells (Array.replicate (ls.length * 2) (Value.int .u32 0)) 93)
  generalize (w4.alloc (.cells (Array.replicate (ls.length * 2) (Value.int .u32 0)) 93)) = w5 at *
  have s2 := size_al w5 (.map #[] 0)
  have c2 := c1.alloc (.map #[] 0)
  have m2 := Mp.made w5
  have b2 := b1.alloc (by omega) (.map #[] 0)
  generalize (w5.alloc (.map #[] 0)) = w6 at *
  rw [s1] at s2 m2
  have s3 := size_al w6 (.cells #[.slice (some ⟨w4.heap.size, 0, none⟩) ls.length ls.length, .map (some (w4.heap.size + 1))] 89)
  have t3 := Cells.new w6 #[.slice (some ⟨w4.heap.size, 0, none⟩) ls.length ls.length, .map (some (w4.heap.size + 1))] 89
  rw [s2] at s3 t3
  have sd : ((w6.alloc (.cells #[.slice (some ⟨w4.heap.size, 0, none⟩) ls.length ls.length, .map (some (w4.heap.size + 1))] 89)).drew).heap.size = w4.heap.size + 1 + 1 + 1 := s3
  exact ⟨w4.heap.size, w4.heap.size + 1, Tq.new t3.drew (c2.alloc _).drew (m2.al _).drew, by omega, by omega, by omega, by omega, by omega, by omega, by omega, by omega, by omega, (b2.alloc (by omega) _).drew⟩
theorem made_ba (w4 : World) (N L : Nat) (ls : List Nat) (hN : w4.heap.size = N) (hL : ls.length = L) :
    Made w4 (((w4.alloc (.map #[] 0)).alloc (.cells (Array.replicate (L * 2) (Value.int .u32 0)) 93)).alloc (.cells #[.slice (some ⟨N + 1, 0, none⟩) L L, .map (some N)] 89)).drew N (N + 1 + 1) ls := by
  subst hN hL
  have s1 := size_al w4 (.map #[] 0)
  have m1 := Mp.made w4
  have b1 := (Below.refl w4.heap.size w4).alloc (Nat.le_refl _) (.map #[] 0)
  generalize (w4.alloc (.map #[] 0)) = w5 at *
  have s2 := size_al w5 (.cells (Array.replicate (ls.length * 2) (Value.int .u32 0)) 93)
  have c2 := Cells.new w5 (Array.replicate (ls.length * 2) (Value.int .u32 0)) 93
  have m2 := m1.al (.cells (Array.replicate (ls.length * 2) (Value.int .u32 0)) 93)
  have b2 := b1.alloc (by omega) (.cells (Array.replicate (ls.length * 2) (Value.int .u32 0)) 93)
  generalize (w5.alloc (.cells (Array.replicate (ls.length * 2) (Value.int .u32 0)) 93)) = w6 at *
  rw [s1] at s2 c2
  have s3 := size_al w6 (.cells #[.slice (some ⟨w4.heap.size + 1, 0, none⟩) ls.length ls.length, .map (some w4.heap.size)] 89)
  have t3 := Cells.new w6 #[.slice (some ⟨w4.heap.size + 1, 0, none⟩) ls.length ls.length, .map (some w4.heap.size)] 89
  rw [s2] at s3 t3
  have sd : ((w6.alloc (.cells #[.slice (some ⟨w4.heap.size + 1, 0, none⟩) ls.length ls.length, .map (some w4.heap.size)] 89)).drew).heap.size = w4.heap.size + 1 + 1 + 1 := s3
  exact ⟨w4.heap.size + 1, w4.heap.size, Tq.new t3.drew (c2.alloc _).drew (m2.al _).drew, by omega, by omega, by omega, by omega, by omega, by omega, by omega, by omega, by omega, (b2.alloc (by omega) _).drew⟩
/-- The next code of each length. -/
def nx (ls : List Nat) (i j : Nat) : Nat := if j = 0 then 0 else code ls i j
theorem nx_start (ls : List Nat) (j : Nat) : nx ls 0 j = first ls j := by
  unfold nx code
  by_cases h : j = 0
  · subst h; rfl
  · rw [if_neg h]; simp
theorem nx_skip {ls : List Nat} {i : Nat} (h : ls[i]? = some 0) (j : Nat) : nx ls (i + 1) j = nx ls i j := by
  unfold nx code
  by_cases e : j = 0
  · rw [if_pos e, if_pos e]
  · rw [if_neg e, if_neg e, rank_step h j, if_neg (fun h => e h.symm)]; rfl
theorem nx_step {ls : List Nat} {i m : Nat} (h : ls[i]? = some m) (hm : 0 < m) (j : Nat) : nx ls (i + 1) j = if j = m then code ls i m + 1 else nx ls i j := by
  unfold nx code
  by_cases e : j = 0
  · rw [if_pos e, if_pos e, if_neg (by omega)]
  · rw [if_neg e, if_neg e, rank_step h j]
    by_cases e2 : j = m
    · subst e2; rw [if_pos rfl, if_pos rfl]; omega
    · rw [if_neg e2, if_neg (fun h => e2 h.symm)]; omega
set_option maxRecDepth 100000 in
set_option maxHeartbeats 4000000 in
theorem new_yes (a : Option Addr) (zs : List Int) (L C : Nat) (w : World) (h : Lens w a zs) (hL : zs.length = L) (hLb : L < 140737488355328) (he : nerr zs = 0) :
    Calls Tryd.prog 49 #[.slice a L C] w fun e w' => ∃ T, e = .returned (.tuple #[.pointer (some ⟨T, 0, none⟩), .int .i64 0]) ∧ PT w' w.heap.size w'.heap.size T (lens zs) ∧ Below w.heap.size w w' := by
  obtain ⟨hok, hkr, _⟩ := nerr_ok he
  have hcount := count_c a zs L C (fun j => (lens zs).count j) true w h hL hLb (Or.inl ⟨hok, rfl, rfl⟩)
  have hcheck := check_c (fun j => (lens zs).count j) (count_le hok) 0 (by rw [nerr_cerr hok]; exact he)
  have hfirsts := firsts_c (fun j => (lens zs).count j) (count_le hok)
  have efr : rw16 (frs fun j => (lens zs).count j) = rw16 (first (lens zs)) := rw16_congr fun j _ => frs_first _ j
  rw [efr] at hfirsts
  obtain ⟨R, hR⟩ : ∃ R, (rw16 fun j => (lens zs).count j) = R := ⟨_, rfl⟩
  rw [hR] at hcount hcheck hfirsts
  have hRs : R.size = 16 := by rw [← hR]; exact rw16_size _
  have hR1 : R.all (·.oneCell') = true := by rw [← hR]; exact rw16_one _
  have hz : ∀ w', (zeroValue 82).run Tryd.prog w' = .ok (.agg (rw16 fun _ => 0)) w' := fun w' => by kernel_rfl
  have hL320 : L ≤ 320 := by have := hok.1; omega
  have hlL : (lens zs).length = L := by unfold lens; rw [List.length_map]; exact hL
  have AH : Aside (Lens w a zs ∧ zs.length = L ∧ Okl zs ∧ kr (lens zs) ≤ 32768 ∧ (lens zs).length = L) := ⟨h, hL, hok, hkr, hlL⟩
  clear h hL hLb hok hR he efr hkr hlL
  go_enter Tryd.func49, Tryd.ntmps49
  go_upto_region 4 with (first
    | (go_at_call 56; refine hcount.mono ?_; rintro e2 w2 ⟨rfl, hb2⟩
       have c2 := Cells.new w2 (rw16 fun _ => 0) 82
       have b2 : Aside (Below w.heap.size w w2) := hb2
       clear hb2)
    | (refine wpList_store_row rfl 82 (.tmp 4) (.tmp 14) rfl w2.heap.size R rfl rfl 82 (rw16 fun _ => 0) c2 (by rw [hRs]; exact size59) (by rw [hRs]; rfl) hR1 ?_))
  have c3 := set_row c2 R
  have b3 : Aside (Below w.heap.size w ((w2.alloc (.cells (rw16 fun _ => 0) 82)).setRow w2.heap.size R)) := (b2.out.alloc b2.out.size _).trans ((only_row c2 R).below b2.out.size)
  obtain ⟨w3, hw3⟩ : ∃ w3, w3 = (w2.alloc (.cells (rw16 fun _ => 0) 82)).setRow w2.heap.size R := ⟨_, rfl⟩
  rw [← hw3] at c3 b3 ⊢
  obtain ⟨D, hD⟩ : ∃ D, w2.heap.size = D := ⟨_, rfl⟩
  rw [hD] at c3 ⊢
  clear c2 hw3 hD b2
  go_upto_region 7 with (first
    | (refine wpList_load_row rfl 82 (.tmp 4) rfl D rfl 82 _ (0, 0) _ c3 Tryd.underlying82 rfl (by rw [hRs]; exact size59) ?_)
    | (go_at_call 57; refine (hcheck _).mono ?_; rintro e4 w4 ⟨rfl, hb4⟩))
  have b4 : Aside (Below w.heap.size w w4 ∧ Cells w4 D R 82) := ⟨b3.out.trans (hb4.mono b3.out.size), c3.below hb4 c3.lt⟩
  clear hb4 b3 c3 hcheck hcount
  obtain ⟨N, hN⟩ : ∃ N, w4.heap.size = N := ⟨_, rfl⟩
  have AN : Aside (w4.heap.size = N) := hN
  have hms := made_codes L (by omega)
  have hmm := run_makeMap_hint
  go_cut [7] (fun s7 wc => ∃ T, s7 = .pointer (some ⟨T, 0, none⟩) ∧ Aside (Made w4 wc N T (lens zs)))
  case first =>
    go_region
    · go_wp2_with fail
      go_meet
      exact ⟨_, rfl, made_ab w4 N L (lens zs) AN.out AH.out.2.2.2.2⟩
    · go_wp2_with fail
      go_meet
      exact ⟨_, rfl, made_ba w4 N L (lens zs) AN.out AH.out.2.2.2.2⟩
  case rest =>
    obtain ⟨T, rfl, hM⟩ := hcut
    obtain ⟨g, M, hM⟩ := hM.out
    have AM : Aside (Tq wc T g M 0 (lens zs) 0 ∧ N ≤ T ∧ N ≤ g ∧ N ≤ M ∧ T ≠ g ∧ T ≠ M ∧ g ≠ M ∧ T < wc.heap.size ∧ g < wc.heap.size ∧ M < wc.heap.size ∧ Below N w4 wc) := hM
    have c5 : Cells wc D R 82 := b4.out.2.below hM.2.2.2.2.2.2.2.2.2.2 (by rw [← AN.out]; exact b4.out.2.lt)
    have b5 : Aside (Below w.heap.size w wc) := b4.out.1.trans (hM.2.2.2.2.2.2.2.2.2.2.mono (by have := b4.out.1.size; rw [AN.out] at this; exact this))
    clear hM hms hmm hN
    go_upto_region 9 with (first
      | (refine wpList_load_row rfl 82 (.tmp 4) rfl D rfl 82 _ (0, 0) _ c5 Tryd.underlying82 rfl (by rw [hRs]; exact size59) ?_)
      | (go_at_call 58; refine (hfirsts _).mono ?_; rintro e6 w6 ⟨rfl, hb6⟩
         have c6 := Cells.new w6 (rw16 fun _ => 0) 82
         have b6 : Aside (Below wc.heap.size wc w6) := hb6
         clear hb6)
      | (refine wpList_store_row rfl 82 (.tmp 8) (.tmp 33) rfl w6.heap.size (rw16 (first (lens zs))) rfl rfl 82 (rw16 fun _ => 0) c6 (by rw [rw16_size]; exact size59) rfl (rw16_one _) ?_))
    have c7 := set_row c6 (rw16 (first (lens zs)))
    have o7 := only_row c6 (rw16 (first (lens zs)))
    have s7 : ((w6.alloc (.cells (rw16 fun _ => 0) 82)).setRow w6.heap.size (rw16 (first (lens zs)))).heap.size = w6.heap.size + 1 := by rw [o7.size]; exact size_al _ _
    have b7 : Below wc.heap.size wc ((w6.alloc (.cells (rw16 fun _ => 0) 82)).setRow w6.heap.size (rw16 (first (lens zs)))) := (b6.out.alloc b6.out.size _).trans (o7.below b6.out.size)
    obtain ⟨w7, hw7⟩ : ∃ w7, w7 = (w6.alloc (.cells (rw16 fun _ => 0) 82)).setRow w6.heap.size (rw16 (first (lens zs))) := ⟨_, rfl⟩
    rw [← hw7] at c7 s7 b7 ⊢
    obtain ⟨F, hF⟩ : ∃ F, w6.heap.size = F := ⟨_, rfl⟩
    have hFw : wc.heap.size ≤ F := by rw [← hF]; exact b6.out.size
    rw [hF] at c7 s7 ⊢
    have A7 : Aside (Cells w7 F (rw16 (first (lens zs))) 82 ∧ Below w.heap.size w w7 ∧ Tq w7 T g M 0 (lens zs) 0 ∧ w.heap.size ≤ N ∧ N ≤ T ∧ N ≤ g ∧ N ≤ M ∧ T ≠ g ∧ T ≠ M ∧ g ≠ M ∧ T < F ∧ g < F ∧ M < F) := by
      have m := AM.out
      refine ⟨c7, b5.out.trans (b7.mono b5.out.size), m.1.heap (b7.block T (by omega)) (b7.block g (by omega)) (b7.block M (by omega)), ?_, m.2.1, m.2.2.1, m.2.2.2.1, m.2.2.2.2.1, m.2.2.2.2.2.1, m.2.2.2.2.2.2.1, by omega, by omega, by omega⟩
      have := b4.out.1.size; rw [AN.out] at this; exact this
    clear c5 c6 o7 s7 b7 hw7 hF hFw b6 AM b5 c7 b4 AN
    obtain ⟨B, hB⟩ : ∃ B, w.heap.size = B := ⟨_, rfl⟩
    have AB : Aside (w.heap.size = B) := hB
    clear hB
    go_wp2_with fail
    go_loopg [36] L (fun gg si wr => ∃ (i k : Nat), si = .int .i64 (i : Int) ∧ Aside (i + gg = L ∧ k ≤ 16 * i ∧ Tq wr T g M k (lens zs) i ∧ Cells wr F (rw16 (nx (lens zs) i)) 82 ∧ Below w.heap.size w wr))
    case atStart =>
      have e : rw16 (nx (lens zs) 0) = rw16 (first (lens zs)) := rw16_congr fun j _ => nx_start _ j
      exact ⟨0, 0, rfl, by omega, by omega, A7.out.2.2.1, by rw [e]; exact A7.out.1, A7.out.2.1⟩
    case round =>
      obtain ⟨i, k, rfl, hI⟩ := hrel
      by_cases hiL : i < L
      · have hi : (i : Int) < (L : Int) := by omega
        obtain ⟨z, hz1⟩ : ∃ z, zs[i]? = some z := ⟨_, List.getElem?_eq_getElem (by have := AH.out; omega)⟩
        obtain ⟨m, rfl, hm⟩ := AH.out.2.2.1.cast hz1
        have hm15 := AH.out.2.2.1.le15 m (List.mem_of_getElem? hm)
        rcases AH.out.1 with e | ⟨b, o, rfl, hc⟩
        · rw [e] at hz1; simp at hz1
        have hcw := hc i m hz1
        have cz : wr.cell? ⟨b, o + i, none⟩ = some (.int .i64 (m : Int)) := (hI.out.2.2.2.2.cell (p := ⟨b, o + i, none⟩) (World.block_lt_of_cell? w ⟨b, o + i, none⟩ hcw)).trans hcw
        have AZ : Aside (zs[i]? = some (m : Int) ∧ i < L ∧ (lens zs)[i]? = some m) := ⟨hz1, hiL, hm⟩
        clear hc hz1 hiL hcw hm
        by_cases hm0 : m = 0
        · subst hm0
          go_wp2_with fail
          go_roundg (L - (i + 1))
          case measure => have := hI.out.1; have := AZ.out.2.1; omega
          case rel =>
            refine ⟨i + 1, k, by go_num, by have := AZ.out.2.1; omega, by have := hI.out.2.1; omega, ⟨hI.out.2.2.1.t, hI.out.2.2.1.c.skip AZ.out.2.2, ?_⟩, ?_, hI.out.2.2.2.2⟩
            · obtain ⟨G, h1, h2⟩ := hI.out.2.2.1.m
              exact ⟨G, h1, h2.skip AZ.out.2.2⟩
            · have e : rw16 (nx (lens zs) (i + 1)) = rw16 (nx (lens zs) i) := rw16_congr fun j _ => nx_skip AZ.out.2.2 j
              rw [e]; exact hI.out.2.2.2.1
        · have hmp : (0 : Int) < (m : Int) := by omega
          have hmpN : 0 < m := by omega
          obtain ⟨c, hc⟩ : ∃ c, code (lens zs) i m = c := ⟨_, rfl⟩
          have hpart : part (lens zs) 15 ≤ 32768 := by rw [← kr_part AH.out.2.2.1.le15]; exact AH.out.2.2.2.1
          have hcb : c < 2 ^ m := by rw [← hc]; exact code_fits hpart AZ.out.2.2 hmpN hm15
          have hcb2 : c < 32768 := Nat.lt_of_lt_of_le hcb (show 2 ^ m ≤ 2 ^ 15 from Nat.pow_le_pow_right (by decide) hm15)
          have cq : wr.cell? ⟨F, m, none⟩ = some (.int .u32 (c : Int)) := by rw [hI.out.2.2.2.1.cell, rw16_at _ _ (by omega), nx, if_neg hm0, hc]
          have hmI : (m : Int) ≤ 15 := by omega
          have a7 := A7.out
          have hlay := lay_c T g M k i m c (lens zs) wr hI.out.2.2.1 (by rw [AH.out.2.2.2.2]; exact hL320) AZ.out.2.2 hmpN hm15 hc hcb (by have := hI.out.2.1; have := AZ.out.2.1; omega) a7.2.2.2.2.2.2.2.1 a7.2.2.2.2.2.2.2.2.1 a7.2.2.2.2.2.2.2.2.2.1
          have AQ : Aside (code (lens zs) i m = c ∧ 0 < m) := ⟨hc, hmpN⟩
          clear hc hcb hm0 hpart a7 hmpN
          go_upto_region 14 with (go_at_call 59; refine hlay.mono ?_; rintro e8 w8 ⟨rfl, hq8, ht8⟩)
          have a7 := A7.out
          have c8 : Cells w8 F (rw16 (nx (lens zs) i)) 82 := hI.out.2.2.2.1.two ht8 (by omega) (by omega)
          have b8 : Below w.heap.size w w8 := hI.out.2.2.2.2.trans (ht8.below (by omega) (by omega) hI.out.2.2.2.2.size)
          have cq8 : w8.cell? ⟨F, m, none⟩ = some (.int .u32 (c : Int)) := by rw [c8.cell, rw16_at _ _ (by omega), nx, if_neg (by have := AQ.out.2; omega), AQ.out.1]
          have fq8 := c8.frozen m
          have A8 : Aside (Cells w8 F (rw16 (nx (lens zs) i)) 82 ∧ Below w.heap.size w w8 ∧ Tq w8 T g M (k + 16) (lens zs) (i + 1)) := ⟨c8, b8, hq8⟩
          clear c8 b8 hq8 ht8 hlay cq a7
          go_wp2_with fail
          go_roundg (L - (i + 1))
          case measure => have := hI.out.1; have := AZ.out.2.1; omega
          case rel =>
            have a7 := A7.out
            have o9 : Only F w8 (w8.setCell ⟨F, m, none⟩ (.int .u32 ((c : Int) + 1))) := (Only.refl F w8).setCell _ _
            refine ⟨i + 1, k + 16, by go_num, by have := AZ.out.2.1; omega, by have := hI.out.2.1; omega, A8.out.2.2.heap (o9.block T (by omega)) (o9.block g (by omega)) (o9.block M (by omega)), ?_, A8.out.2.1.trans (o9.below (by omega))⟩
            have := A8.out.1.set m (.int .u32 ((c + 1 : Nat) : Int))
            rw [rw16_set] at this
            have e : (rw16 fun j => if j = m then c + 1 else nx (lens zs) i j) = rw16 (nx (lens zs) (i + 1)) := rw16_congr fun j _ => by
              rw [nx_step AZ.out.2.2 AQ.out.2 j, AQ.out.1]
            rw [e] at this
            exact this
      · have hieq : i = L := by have := hI.out.1; omega
        have hni : ¬ (i : Int) < (L : Int) := by omega
        clear hiL
        go_wp2_with fail
        first | go_ret | go_ret2
        have a7 := A7.out
        have hI2 := hI.out
        rw [hieq] at hI2
        have hl := hI2.2.2.2.1.lt
        exact ⟨T, rfl, ⟨g, M, k, by rw [AH.out.2.2.2.2]; exact hI2.2.2.1, by omega, by omega, by omega, by omega, by omega, by omega, by rw [← kr_part AH.out.2.2.1.le15]; exact AH.out.2.2.2.1, AH.out.2.2.1.le15⟩, hI2.2.2.2.2⟩
end Go.Proofs.YtogednaamndpgaaDoor

/-
  What the program's Symbols and Code come to.
-/
namespace Go.Proofs.YtogednaamndpgaaDoor
open Go.RowKit
set_option linter.unusedVariables false
end Go.Proofs.YtogednaamndpgaaDoor

/-
  What Reverse comes to, the program's and the document's: the lowest m bits of v, the lowest one first, gathered as a number; m is n between 0 and 32.
  Conditions: v is a number of 32 bits.
-/
namespace Go.Proofs.YtogednaamndpgaaDoor
open Go.RowKit
/-- k bits of v, the lowest one first, behind those of o. -/
def revl : Nat → Nat → Nat → Nat
  | 0, _, o => o
  | k + 1, v, o => revl k (v / 2) (2 * o + v % 2)
theorem revl_lt : ∀ (k v o i : Nat), o < 2 ^ i → revl k v o < 2 ^ (i + k)
  | 0, _, _, _, h => h
  | k + 1, v, o, i, h => by
    have := revl_lt k (v / 2) (2 * o + v % 2) (i + 1) (by rw [Nat.pow_succ]; omega)
    rw [show i + (k + 1) = i + 1 + k by omega]; exact this
theorem revl_add : ∀ (k v o : Nat), revl k v o = o * 2 ^ k + revl k v 0
  | 0, _, o => by simp [revl]
  | k + 1, v, o => by
    rw [revl, revl, revl_add k (v / 2) (2 * o + v % 2), revl_add k (v / 2) (2 * 0 + v % 2), Nat.pow_succ, Nat.add_mul, Nat.mul_zero, Nat.zero_add]
    rw [show 2 * o * 2 ^ k = o * (2 ^ k * 2) by rw [Nat.mul_comm 2 o, Nat.mul_assoc, Nat.mul_comm 2]]
    omega
/-- The highest bit comes last. -/
theorem revl_last : ∀ (k v : Nat), revl (k + 1) v 0 = 2 * revl k v 0 + v / 2 ^ k % 2
  | 0, v => by simp [revl]
  | k + 1, v => by
    rw [revl, revl_add (k + 1), revl_last k (v / 2), revl, revl_add k (v / 2) (2 * 0 + v % 2), Nat.div_div_eq_div_mul, ← Nat.pow_succ']
    rw [Nat.mul_zero, Nat.zero_add, Nat.pow_succ, ← Nat.mul_assoc]
    omega
theorem revl_div (k v : Nat) : revl k v 0 / 2 ^ k = 0 := Nat.div_eq_of_lt (by have := revl_lt k v 0 0 (by decide); rwa [Nat.zero_add] at this)
/-- Bits above the first k do not matter. -/
theorem revl_high : ∀ (k v o c : Nat), revl k (v + c * 2 ^ k) o = revl k v o
  | 0, _, _, _ => rfl
  | k + 1, v, o, c => by
    rw [revl, revl]
    have e : c * 2 ^ (k + 1) = 2 * (c * 2 ^ k) := by rw [Nat.pow_succ, ← Nat.mul_assoc, Nat.mul_comm]
    rw [e, show (v + 2 * (c * 2 ^ k)) % 2 = v % 2 by omega, show (v + 2 * (c * 2 ^ k)) / 2 = v / 2 + c * 2 ^ k by omega]
    exact revl_high k _ _ _
/-- Turned round again they are as they were. -/
theorem revl_twice : ∀ (k v : Nat), revl k (revl k v 0) 0 = v % 2 ^ k
  | 0, v => by simp [revl, Nat.mod_one]
  | k + 1, v => by
    rw [revl_last k (revl (k + 1) v 0)]
    have e1 : revl (k + 1) v 0 = revl k (v / 2) 0 + v % 2 * 2 ^ k := by rw [revl, revl_add, Nat.mul_zero, Nat.zero_add]; omega
    rw [e1, revl_high, revl_twice k (v / 2)]
    have h0 : 0 < 2 ^ k := Nat.two_pow_pos k
    have e2 : (revl k (v / 2) 0 + v % 2 * 2 ^ k) / 2 ^ k = v % 2 := by
      rw [Nat.add_mul_div_right _ _ h0, revl_div, Nat.zero_add]
    rw [e2]
    have e3 : v % 2 ^ (k + 1) = v % 2 + 2 * (v / 2 % 2 ^ k) := by rw [Nat.pow_succ', Nat.mod_mul]
    omega
/-- A bit more at the low end of a number of at most 31 bits. -/
theorem or_bit (o v i : Nat) (ho : o < 2 ^ i) (hi : i < 32) (hv : v < 4294967296) : bits .or .u32 ((o : Int) * 2 % 4294967296) (bits .and .u32 (v : Int) 1) = ((2 * o + v % 2 : Nat) : Int) := by
  have h1 : 2 ^ i ≤ 2147483648 := pow_le64 (show i ≤ 31 by omega)
  have e : (o : Int) * 2 % 4294967296 = ((2 * o : Nat) : Int) := by omega
  rw [e, show (1 : Int) = ((1 : Nat) : Int) from rfl, u32_and_nat v 1 hv (by decide), Nat.and_one_is_mod, u32_or_nat _ _ (by omega) (by omega)]
  congr 1
  exact (Nat.two_pow_add_eq_or_of_lt (i := 1) (b := v % 2) (by omega) o).symm

/-- n between 0 and 32. -/
def clamp (n : Int) : Nat := (max 0 (min n 32)).toNat
theorem clamp_le (n : Int) : clamp n ≤ 32 := by unfold clamp; omega

set_option maxHeartbeats 1000000 in
theorem rev_c (v : Nat) (hv : v < 4294967296) (n : Int) (w : World) :
    Calls Tryd.prog 73 #[.int .u32 v, .int .i64 n] w fun e w' => e = .returned (.int .u32 (revl (clamp n) v 0 : Nat)) ∧ w = w' := by
  obtain ⟨m, hm⟩ : ∃ m, clamp n = m := ⟨_, rfl⟩
  have hm2 : (m : Int) = max 0 (min n 32) := by unfold clamp at hm; omega
  rw [hm]
  go_enter Tryd.func73, Tryd.ntmps73
  go_wp2
  all_goals
    go_loop [0, 5, 9] (fun a o i => ∃ k v' o' : Nat, k ≤ m ∧ i = .int .i64 k ∧ a = .int .u32 v' ∧ o = .int .u32 o' ∧ v' < 4294967296 ∧ o' < 2 ^ k ∧ revl (m - k) v' o' = revl m v 0) (fun _ _ i => m - (intOf i).toNat)
    case atStart => exact ⟨0, v, 0, Nat.zero_le _, rfl, rfl, rfl, hv, by decide, rfl⟩
    case round =>
      obtain ⟨k, v', o', hk, rfl, rfl, rfl, hv', ho', hr⟩ := hrel
      go_wp2
      all_goals first
        | (have hlt : k < m := by omega
           obtain ⟨j, hj⟩ : ∃ j, m - k = j + 1 := ⟨m - k - 1, by omega⟩
           rw [hj, revl] at hr
           have hp : 2 ^ k ≤ 2147483648 := pow_le64 (show k ≤ 31 by omega)
           go_round
           case rel =>
             refine ⟨k + 1, v' / 2, 2 * o' + v' % 2, by omega, by go_num, by go_num, ?_, by omega, by rw [Nat.pow_succ]; omega, by rw [show m - (k + 1) = j by omega]; exact hr⟩
             rw [← or_bit o' v' k ho' (by omega) hv']
           case measure => simp [intOf]; omega)
        | (have hke : k = m := by omega
           subst hke
           rw [Nat.sub_self, revl] at hr
           go_ret
           exact ⟨by rw [← hr]; rfl, rfl⟩)
end Go.Proofs.YtogednaamndpgaaDoor

/-
  Bits that a reader holds, as a number and turned round: the number of the first ones, the first one highest. No walk in this text.
-/
namespace Go.Proofs.YtogednaamndpgaaDoor
open Go.RowKit
set_option linter.unusedVariables false
theorem radd_off (g o j : Nat) : (⟨g, o, none⟩ : Addr).add j = ⟨g, o + j, none⟩ := by unfold Addr.add; split <;> simp_all
theorem Told.le {ls : List Nat} {h : List Bool} {s how k : Nat} (t : Told ls h s how k) : k ≤ h.length := by
  rcases t with ⟨h1, _⟩ | ⟨_, _, _, _, rfl⟩ | ⟨_, _, _, _, rfl⟩
  · exact h1.2.2.1
  · omega
  · omega
theorem nm_bit {l : List Bool} {k : Nat} {x : Bool} (h : l[k]? = some x) : nm l / 2 ^ k % 2 = if x then 1 else 0 := by
  obtain ⟨hk, e⟩ := List.getElem?_eq_some_iff.1 h
  rw [← nm_drop, nm_ahead l k hk, e]
  cases x <;> simp <;> omega
theorem rev_num {l : List Bool} : ∀ k, k ≤ l.length → revl k (nm l) 0 = num (l.take k)
  | 0, _ => by simp [revl, num]
  | k + 1, h => by
    obtain ⟨x, hx⟩ : ∃ x, l[k]? = some x := ⟨_, List.getElem?_eq_getElem (by omega)⟩
    rw [revl_last, rev_num k (by omega), nm_bit hx, num_take_snoc hx]
/-- Of a number's lowest bits alone. -/
theorem rev_mod (n m v : Nat) (h : n ≤ m) : revl n (v % 2 ^ m) 0 = revl n v 0 := by
  have e : v = v % 2 ^ m % 2 ^ n + v / 2 ^ n * 2 ^ n := by
    rw [Nat.mod_mod_of_dvd _ (Nat.pow_dvd_pow 2 h), Nat.mul_comm]; exact (Nat.mod_add_div v (2 ^ n)).symm
  have e2 : v % 2 ^ m = v % 2 ^ m % 2 ^ n + v % 2 ^ m / 2 ^ n * 2 ^ n := by rw [Nat.mul_comm]; exact (Nat.mod_add_div _ _).symm
  rw [e2, revl_high, e, revl_high, ← e]
end Go.Proofs.YtogednaamndpgaaDoor

/-
  Worlds in which of all blocks that were there one alone may have turned.
-/
namespace Go.Proofs.YtogednaamndpgaaDoor
open Go.RowKit
set_option linter.unusedVariables false
/-- Of all blocks that are there M alone may have turned. -/
structure But (M : Nat) (w w' : World) : Prop where
  os : w'.os = w.os
  tape : w'.tape = w.tape
  output : w'.output = w.output
  size : w.heap.size ≤ w'.heap.size
  block : ∀ k, k < w.heap.size → k ≠ M → w'.heap[k]? = w.heap[k]?
end Go.Proofs.YtogednaamndpgaaDoor

/-
  What each method of bits' Reader comes to: at a nil reader, and at one that lies in memory, whose wide number is v and whose count is n.
  Conditions: n is at most 64, and v is below 2 to the n.
-/
namespace Go.Proofs.YtogednaamndpgaaDoor
open Go.RowKit

/-- A scope whose one label is jumped to, forward: what stands behind the label is gone through from there. -/
theorem wp_scope_forward {P : Program} {a : Act} {w : World} {Q : Exit → Act → World → Prop} {c rest : Code} (l : Nat) (hf : findLabel c l = some rest)
    (first : c.wp P (Exit.jump l (fun a w => rest.wp P (Exit.noGoto Q) a w) Q) a w) : (Code.scope c).wp P Q a w := by
  refine wp_scope_jumps l _ (fun _ _ => 0) hf first ?_
  intro a w h
  refine wp_mono h ?_
  intro e a w hq
  cases e with
  | goto l => exact hq.elim
  | _ => exact hq
section
variable {Q : Exit → Act → World → Prop} {a : Act} {w : World} {l : Nat} {J : Act → World → Prop}
theorem jump_ret : Exit.jump l J Q .ret a w = Q .ret a w := rfl
end

/-! ### nil -/
theorem held_nil (w : World) : Calls Tryd.prog 72 #[.pointer none] w fun e w' => e = .returned (.int .i64 0) ∧ w' = w := by
  go_enter Tryd.func72, Tryd.ntmps72
  go_wp2
  go_ret
  exact ⟨rfl, rfl⟩
theorem put_nil (b : Int) (w : World) : Calls Tryd.prog 89 #[.pointer none, .int .u8 b] w fun e w' => e = .returned (.bool false) ∧ w' = w := by
  go_enter Tryd.func89, Tryd.ntmps89
  go_wp2
  refine wp_scope_forward 0 rfl ?_
  go_wp2
  go_step3
  refine ⟨rfl, ?_⟩
  go_wp2
  rw [Exit.noGoto_ret]
  go_ret
  exact ⟨rfl, rfl⟩
theorem peek_nil (n : Int) (w : World) : Calls Tryd.prog 45 #[.pointer none, .int .i64 n] w fun e w' => e = .returned (.tuple #[.int .u32 0, .bool false]) ∧ w' = w := by
  go_enter Tryd.func45, Tryd.ntmps45
  go_wp2
  refine wp_scope_forward 0 rfl ?_
  go_wp2
  go_step3
  refine ⟨rfl, ?_⟩
  go_wp2
  rw [Exit.noGoto_ret]
  go_ret2
  exact ⟨rfl, rfl⟩
theorem take_nil (n : Int) (w : World) : Calls Tryd.prog 36 #[.pointer none, .int .i64 n] w fun e w' => e = .returned (.tuple #[.int .u32 0, .bool false]) ∧ w' = w := by
  go_enter Tryd.func36, Tryd.ntmps36
  go_wp2_with fail
  refine wp_scope_forward 0 rfl ?_
  go_wp2_with fail
  refine (peek_nil n _).mono ?_
  rintro e w' ⟨rfl, rfl⟩
  go_wp2_with fail
  go_step3
  refine ⟨rfl, ?_⟩
  go_wp2
  rw [Exit.noGoto_ret]
  go_ret2
  exact ⟨rfl, rfl⟩
/-! ### a reader that is there -/
/-- Block b holds a reader: its wide number, and its count. -/
def Rd (w : World) (b : Nat) (v n : Int) : Prop := ∃ t, Cells w b #[.int .u64 v, .int .u64 n] t
section
variable {w u : World} {b c : Nat} {v n : Int}
theorem Rd.c0 (h : Rd w b v n) : w.cell? ⟨b, 0, none⟩ = some (.int .u64 v) := by obtain ⟨t, h⟩ := h; rw [h.cell 0]; rfl
theorem Rd.c1 (h : Rd w b v n) : w.cell? ⟨b, 1, none⟩ = some (.int .u64 n) := by obtain ⟨t, h⟩ := h; rw [h.cell 1]; rfl
theorem Rd.fz (h : Rd w b v n) (i : Nat) : w.frozen? ⟨b, i, none⟩ = false := by obtain ⟨t, h⟩ := h; exact h.frozen i
theorem Rd.set0 (h : Rd w b v n) (v' : Int) : Rd (w.setCell ⟨b, 0, none⟩ (.int .u64 v')) b v' n := by obtain ⟨t, h⟩ := h; exact ⟨t, h.set 0 _⟩
theorem Rd.set1 (h : Rd w b v n) (n' : Int) : Rd (w.setCell ⟨b, 1, none⟩ (.int .u64 n')) b v n' := by obtain ⟨t, h⟩ := h; exact ⟨t, h.set 1 _⟩
theorem Rd.drewN (h : Rd w b v n) (k : Nat) : Rd (w.drewN k) b v n := h
theorem Rd.drew (h : Rd w b v n) : Rd w.drew b v n := h
theorem Rd.only (h : Rd w b v n) (k : Only c w u) (hb : b ≠ c) : Rd u b v n := by obtain ⟨t, h⟩ := h; exact ⟨t, h.only k hb⟩
theorem Rd.below {B : Nat} (h : Rd w b v n) (k : Below B w u) (hb : b < B) : Rd u b v n := by obtain ⟨t, h⟩ := h; exact ⟨t, h.below k hb⟩
theorem Rd.alloc (h : Rd w b v n) (o : Obj) : Rd (w.alloc o) b v n := by obtain ⟨t, h⟩ := h; exact ⟨t, h.alloc o⟩
theorem Rd.lt (h : Rd w b v n) : b < w.heap.size := by obtain ⟨t, h⟩ := h; exact h.lt
end
theorem Rd.new (w : World) (t : TypeId) : Rd (w.alloc (.cells #[.int .u64 0, .int .u64 0] t)) w.heap.size 0 0 := ⟨t, Cells.new w _ t⟩

theorem new_any (w : World) : Calls Tryd.prog 32 #[] w fun e w' => e = .returned (.pointer (some ⟨w.heap.size, 0, none⟩)) ∧ w' = w.alloc (.cells #[.int .u64 0, .int .u64 0] 68) := by
  go_enter Tryd.func32, Tryd.ntmps32
  go_wp2
  go_ret
  exact ⟨rfl, rfl⟩
theorem new_c (w : World) : Calls Tryd.prog 32 #[] w fun e w' => e = .returned (.pointer (some ⟨w.heap.size, 0, none⟩)) ∧ Rd w' w.heap.size 0 0 ∧ Below w.heap.size w w' ∧ w'.heap.size = w.heap.size + 1 :=
  (new_any w).mono fun _ _ h => ⟨h.1, by rw [h.2]; exact Rd.new _ _, by rw [h.2]; exact (Below.refl _ _).alloc (Nat.le_refl _) _, by rw [h.2]; simp⟩
theorem held_c (b : Nat) (v n : Int) (w : World) (h : Rd w b v n) (h0 : 0 ≤ n) (h64 : n ≤ 64) :
    Calls Tryd.prog 72 #[.pointer (some ⟨b, 0, none⟩)] w fun e w' => e = .returned (.int .i64 n) ∧ w = w' := by
  have h1 := h.c1
  go_enter Tryd.func72, Tryd.ntmps72
  go_wp2
  go_ret
  exact ⟨rfl, rfl⟩
end Go.Proofs.YtogednaamndpgaaDoor

/-
  What each method of bits' Reader comes to, at a reader in memory that holds n bits, their number v.
  Conditions: n is at most 64, and v is below 2 to the n; each method keeps that.
-/
namespace Go.Proofs.YtogednaamndpgaaDoor
open Go.RowKit

/-- Block b holds a reader of n bits, whose number is v. -/
structure Br (w : World) (b v n : Nat) : Prop where
  rd : Rd w b v n
  lt : v < 2 ^ n
  le : n ≤ 64
section
variable {w u : World} {b c v n : Nat}
theorem Br.drewN (h : Br w b v n) (k : Nat) : Br (w.drewN k) b v n := ⟨h.rd, h.lt, h.le⟩
theorem Br.drew (h : Br w b v n) : Br w.drew b v n := ⟨h.rd, h.lt, h.le⟩
theorem Br.only (h : Br w b v n) (k : Only c w u) (hb : b ≠ c) : Br u b v n := ⟨h.rd.only k hb, h.lt, h.le⟩
theorem Br.below {B : Nat} (h : Br w b v n) (k : Below B w u) (hb : b < B) : Br u b v n := ⟨h.rd.below k hb, h.lt, h.le⟩
theorem Br.alloc (h : Br w b v n) (o : Obj) : Br (w.alloc o) b v n := ⟨h.rd.alloc o, h.lt, h.le⟩
theorem Br.blt (h : Br w b v n) : b < w.heap.size := h.rd.lt
end
theorem new_b (w : World) : Calls Tryd.prog 32 #[] w fun e w' => e = .returned (.pointer (some ⟨w.heap.size, 0, none⟩)) ∧ Br w' w.heap.size 0 0 ∧ Below w.heap.size w w' ∧ w'.heap.size = w.heap.size + 1 :=
  (new_c w).mono fun _ _ h => ⟨h.1, ⟨h.2.1, by decide, by decide⟩, h.2.2⟩
theorem held_b (b v n : Nat) (w : World) (h : Br w b v n) : Calls Tryd.prog 72 #[.pointer (some ⟨b, 0, none⟩)] w fun e w' => e = .returned (.int .i64 n) ∧ w = w' :=
  held_c b v n w h.rd (by omega) (by have := h.le; omega)
theorem drop_b (b v n k : Nat) (w : World) (h : Br w b v n) (hk : k ≤ n) :
    Calls Tryd.prog 46 #[.pointer (some ⟨b, 0, none⟩), .int .u64 k] w fun e w' => e = .returned (.tuple #[]) ∧ Br w' b (v / 2 ^ k) (n - k) ∧ Only b w w' := by
  have h1 := h.rd.c0
  have h2 := h.rd.c1
  have h3 := h.rd.fz 0
  have h4 := h.rd.fz 1
  have h64 := h.le
  have hv := lt_word h.lt h.le
  go_enter Tryd.func46, Tryd.ntmps46
  go_wp2
  go_end0
  refine ⟨rfl, ⟨?_, div_lt v n k h.lt hk, by omega⟩, ?_⟩
  · have := (h.rd.set0 ((v : Int) / 2 ^ k)).set1 ((n : Int) - k)
    rw [div_nat] at this
    rw [show ((n - k : Nat) : Int) = (n : Int) - k by omega]
    simpa only [Int.toNat_natCast, div_nat] using this
  · exact ((Only.refl _ _).setCell _ _).setCell _ _
theorem put_no (b v n x : Nat) (w : World) (h : Br w b v n) (hn : 56 < n) :
    Calls Tryd.prog 89 #[.pointer (some ⟨b, 0, none⟩), .int .u8 x] w fun e w' => e = .returned (.bool false) ∧ w = w' := by
  have h2 := h.rd.c1
  have hn' : (56 : Int) < n := by omega
  go_enter Tryd.func89, Tryd.ntmps89
  go_wp2
  refine wp_scope_forward 0 rfl ?_
  go_wp2
  go_step3
  refine ⟨rfl, ?_⟩
  go_wp2
  rw [Exit.noGoto_ret]
  go_ret
  exact ⟨rfl, rfl⟩
theorem put_yes (b v n x : Nat) (w : World) (h : Br w b v n) (hn : n ≤ 56) (hx : x < 256) :
    Calls Tryd.prog 89 #[.pointer (some ⟨b, 0, none⟩), .int .u8 x] w fun e w' => e = .returned (.bool true) ∧ Br w' b (v + x * 2 ^ n) (n + 8) ∧ Only b w w' := by
  have h1 := h.rd.c0
  have h2 := h.rd.c1
  have h3 := h.rd.fz 0
  have h4 := h.rd.fz 1
  have hn' : ¬ (56 : Int) < n := by omega
  have hv := lt_word h.lt h.le
  go_enter Tryd.func89, Tryd.ntmps89
  go_wp2
  refine wp_scope_forward 0 rfl ?_
  go_wp2
  go_region
  go_wp2
  rw [jump_ret]
  go_ret
  refine ⟨rfl, ⟨?_, put_lt v n x h.lt hx, by omega⟩, ?_⟩
  · rw [or_put v n x h.lt hn hx]
    have := ((h.rd.set0 ((v + x * 2 ^ n : Nat) : Int)).set1 ((n : Int) + 8)).drew
    rw [show ((n + 8 : Nat) : Int) = (n : Int) + 8 by omega]
    exact this
  · exact (((Only.refl _ _).setCell _ _).setCell _ _).drew
/-- So many bits can be told: not below 0, not above 32, not above what is held. -/
def Can (k : Int) (n : Nat) : Prop := 0 ≤ k ∧ k ≤ 32 ∧ k ≤ n
theorem peek_no (b v n : Nat) (k : Int) (w : World) (h : Br w b v n) (hk : ¬ Can k n) :
    Calls Tryd.prog 45 #[.pointer (some ⟨b, 0, none⟩), .int .i64 k] w fun e w' => e = .returned (.tuple #[.int .u32 0, .bool false]) ∧ w = w' := by
  have h2 := h.rd.c1
  have h64 := h.le
  go_enter Tryd.func45, Tryd.ntmps45
  go_wp2
  refine wp_scope_forward 0 rfl ?_
  unfold Can at hk
  by_cases c1 : k < 0
  · go_wp2
    go_step3
    refine ⟨rfl, ?_⟩
    go_wp2
    rw [Exit.noGoto_ret]
    go_ret2
    exact ⟨rfl, rfl⟩
  · by_cases c2 : 32 < k
    · go_wp2
      go_step3
      refine ⟨rfl, ?_⟩
      go_wp2
      rw [Exit.noGoto_ret]
      go_ret2
      exact ⟨rfl, rfl⟩
    · have c3 : (n : Int) < k := by omega
      go_wp2
      go_step3
      refine ⟨rfl, ?_⟩
      go_wp2
      rw [Exit.noGoto_ret]
      go_ret2
      exact ⟨rfl, rfl⟩
theorem peek_yes (b v n k : Nat) (w : World) (h : Br w b v n) (hk : k ≤ 32) (hkn : k ≤ n) :
    Calls Tryd.prog 45 #[.pointer (some ⟨b, 0, none⟩), .int .i64 k] w fun e w' => e = .returned (.tuple #[.int .u32 ((v % 2 ^ k : Nat) : Int), .bool true]) ∧ w = w' := by
  have h1 := h.rd.c0
  have h2 := h.rd.c1
  have h64 := h.le
  have e1 : ¬ (k : Int) < 0 := by omega
  have e2 : ¬ (32 : Int) < k := by omega
  have e3 : ¬ (n : Int) < k := by omega
  have hv := lt_word h.lt h.le
  have hm := and_mask v k hv hk
  go_enter Tryd.func45, Tryd.ntmps45
  go_wp2
  refine wp_scope_forward 0 rfl ?_
  go_wp2
  rw [jump_ret]
  go_ret2
  refine ⟨?_, rfl⟩
  simp only [hm, Array.getD]
  rfl
theorem take_no (b v n : Nat) (k : Int) (w : World) (h : Br w b v n) (hk : ¬ Can k n) :
    Calls Tryd.prog 36 #[.pointer (some ⟨b, 0, none⟩), .int .i64 k] w fun e w' => e = .returned (.tuple #[.int .u32 0, .bool false]) ∧ w = w' := by
  go_enter Tryd.func36, Tryd.ntmps36
  go_wp2_with fail
  refine wp_scope_forward 0 rfl ?_
  go_wp2_with fail
  refine (peek_no b v n k _ h hk).mono ?_
  rintro e w' ⟨rfl, rfl⟩
  go_wp2_with fail
  go_step3
  refine ⟨rfl, ?_⟩
  go_wp2
  rw [Exit.noGoto_ret]
  go_ret2
  exact ⟨rfl, rfl⟩
theorem take_yes (b v n k : Nat) (w : World) (h : Br w b v n) (hk : k ≤ 32) (hkn : k ≤ n) :
    Calls Tryd.prog 36 #[.pointer (some ⟨b, 0, none⟩), .int .i64 k] w fun e w' => e = .returned (.tuple #[.int .u32 ((v % 2 ^ k : Nat) : Int), .bool true]) ∧ Br w' b (v / 2 ^ k) (n - k) ∧ Only b w w' := by
  have h64 := h.le
  go_enter Tryd.func36, Tryd.ntmps36
  go_wp2_with fail
  refine wp_scope_forward 0 rfl ?_
  go_wp2_with fail
  refine (peek_yes b v n k _ h hk hkn).mono ?_
  rintro e w' ⟨rfl, rfl⟩
  go_wp2_with fail
  refine (drop_b b v n k _ h hkn).mono ?_
  rintro e w' ⟨rfl, hb, ho⟩
  go_wp2_with fail
  rw [jump_ret]
  go_ret2
  exact ⟨rfl, hb, ho⟩
theorem align_b (b v n : Nat) (w : World) (h : Br w b v n) :
    Calls Tryd.prog 37 #[.pointer (some ⟨b, 0, none⟩)] w fun e w' => e = .returned (.int .i64 ((n % 8 : Nat) : Int)) ∧ Br w' b (v / 2 ^ (n % 8)) (n - n % 8) ∧ Only b w w' := by
  have h2 := h.rd.c1
  have h64 := h.le
  have e : ((n % 8 : Nat) : Int) = (n : Int) % 8 := by omega
  go_enter Tryd.func37, Tryd.ntmps37
  go_wp2_with fail
  rw [← e]
  refine (drop_b b v n (n % 8) _ h (Nat.mod_le _ _)).mono ?_
  rintro e w' ⟨rfl, hb, ho⟩
  go_wp2_with fail
  go_ret
  exact ⟨rfl, hb, ho⟩
theorem clear_b (b v n : Nat) (w : World) (h : Br w b v n) :
    Calls Tryd.prog 84 #[.pointer (some ⟨b, 0, none⟩)] w fun e w' => e = .returned (.tuple #[]) ∧ Br w' b 0 0 ∧ Only b w w' := by
  have h2 := h.rd.c1
  have h64 := h.le
  go_enter Tryd.func84, Tryd.ntmps84
  go_wp2_with fail
  refine (drop_b b v n n _ h (Nat.le_refl _)).mono ?_
  rintro e w' ⟨rfl, hb, ho⟩
  rw [Nat.div_eq_of_lt h.lt, Nat.sub_self] at hb
  go_wp2_with fail
  go_end0
  exact ⟨rfl, hb, ho⟩
end Go.Proofs.YtogednaamndpgaaDoor

/-
  What the program's Read comes to.
-/
namespace Go.Proofs.YtogednaamndpgaaDoor
open Go.RowKit
set_option linter.unusedVariables false
theorem read_none (T : Nat) (w : World) : Calls Tryd.prog 60 #[.pointer (some ⟨T, 0, none⟩), .pointer none] w fun e w' => e = .returned (.tuple #[.int .i64 0, .int .i64 2]) ∧ w = w' := by
  go_enter Tryd.func60, Tryd.ntmps60
  go_wp2_with fail
  first | go_ret | go_ret2
  exact ⟨rfl, rfl⟩
theorem may_of {ls : List Nat} {l : List Bool} (hk : part ls 15 ≤ 32768) (h15 : ∀ x ∈ ls, x ≤ 15) : (∃ j n, ls[j]? = some n ∧ 0 < n ∧ l <+: cbits ls j) ↔ May ls l := by
  constructor
  · rintro ⟨j, n, h1, h2, h3⟩
    have := (may_prefix hk h15 h1 h2).1 h3
    exact ⟨j, n, h1, h2, this.1, this.2⟩
  · rintro ⟨j, n, h1, h2, h3, h4⟩
    exact ⟨j, n, h1, h2, (may_prefix hk h15 h1 h2).2 ⟨h3, h4⟩⟩
theorem told_bad {ls : List Nat} {l : List Bool} {s how k : Nat} (hk : part ls 15 ≤ 32768) (h15 : ∀ x ∈ ls, x ≤ 15) (ht : Told ls l s how k) (h1 : ∀ i n, ¬ Hit ls l i n) (h2 : ¬ May ls l) : s = 0 ∧ how = 2 ∧ k = 0 := by
  rcases ht with ⟨h, _⟩ | ⟨_, h, _⟩ | ⟨_, _, h⟩
  · exact absurd h (h1 _ _)
  · exact absurd ((may_of hk h15).1 h) h2
  · exact h
theorem told_more {ls : List Nat} {l : List Bool} {s how k : Nat} (hk : part ls 15 ≤ 32768) (h15 : ∀ x ∈ ls, x ≤ 15) (ht : Told ls l s how k) (h1 : ∀ i n, ¬ Hit ls l i n) (h2 : May ls l) : s = 0 ∧ how = 1 ∧ k = 0 := by
  rcases ht with ⟨h, _⟩ | ⟨_, _, h⟩ | ⟨_, h, _⟩
  · exact absurd h (h1 _ _)
  · exact h
  · exact absurd ((may_of hk h15).2 h2) h
theorem told_hit {ls : List Nat} {l : List Bool} {s how k s0 n : Nat} (ht : Told ls l s how k) (hh : Hit ls l s0 n) : s = s0 ∧ how = 0 ∧ k = n := by
  rcases ht with ⟨h, h0⟩ | ⟨h, _⟩ | ⟨h, _⟩
  · have := hit_one h hh
    exact ⟨this.1, h0, this.2⟩
  · exact absurd hh (h _ _)
  · exact absurd hh (h _ _)
theorem But.drawn {b : Nat} {w u : World} (h : Drawn w u) : But b w u := by
  obtain ⟨n, rfl⟩ := h
  exact ⟨rfl, rfl, rfl, Nat.le_refl _, fun _ _ _ => rfl⟩
theorem But.only {b : Nat} {w u v : World} (h : But b w u) (k : Only b u v) : But b w v :=
  ⟨k.os.trans h.os, k.tape.trans h.tape, k.output.trans h.output, by rw [k.size]; exact h.size, fun i hi hne => (k.block i hne).trans (h.block i hi hne)⟩
set_option maxRecDepth 100000 in
set_option maxHeartbeats 4000000 in
theorem read_c (lo hi T : Nat) (ls : List Nat) (b s how k : Nat) (l : List Bool) (w : World) (hp : PT w lo hi T ls) (hk : part ls 15 ≤ 32768) (h15 : ∀ x ∈ ls, x ≤ 15) (hb : Br w b (nm l) l.length) (ht : Told ls l s how k) :
    Calls Tryd.prog 60 #[.pointer (some ⟨T, 0, none⟩), .pointer (some ⟨b, 0, none⟩)] w fun e w' => e = .returned (.tuple #[.int .i64 (s : Int), .int .i64 (how : Int)]) ∧ Br w' b (nm (l.drop k)) (l.drop k).length ∧ But b w w' := by
  obtain ⟨g, M, kk, ht2, _⟩ := hp
  obtain ⟨G, hG, hLd⟩ := ht2.m
  have cT1 := ht2.t.cell 1
  simp only [List.getElem?_toArray, List.getElem?_cons_zero, List.getElem?_cons_succ] at cT1
  have hheld := held_b b (nm l) l.length w hb
  obtain ⟨H, hH⟩ : ∃ H, min l.length 15 = H := ⟨_, rfl⟩
  have hpeek := peek_yes b (nm l) l.length H w hb (by omega) (by omega)
  have hvb : nm l % 2 ^ H < 4294967296 := by
    have h1 := Nat.mod_lt (nm l) (show 0 < 2 ^ H from Nat.pow_pos (by decide))
    have h2 : 2 ^ H ≤ 2 ^ 15 := Nat.pow_le_pow_right (by decide) (by omega)
    omega
  have hrev := rev_c (nm l % 2 ^ H) hvb (H : Int) w
  have hcl : clamp (H : Int) = H := by unfold clamp; omega
  rw [hcl, rev_mod H H _ (Nat.le_refl _), rev_num H (by omega)] at hrev
  obtain ⟨v, hv⟩ : ∃ v, num (l.take H) = v := ⟨_, rfl⟩
  rw [hv] at hrev
  obtain ⟨x, hx⟩ : ∃ x, nm l % 2 ^ H = x := ⟨_, rfl⟩
  rw [hx] at hrev hpeek
  obtain ⟨Ln, hLn⟩ : ∃ Ln, l.length = Ln := ⟨_, rfl⟩
  have htk : ∀ n, n ≤ H → num (l.take n) = v / 2 ^ (H - n) := fun n hn => by rw [← hv]; exact take_num hn (by omega)
  have AH : Aside (Mp w M kk G ∧ Laidm ls ls.length G ∧ Br w b (nm l) l.length ∧ Told ls l s how k ∧ (∀ x ∈ ls, x ≤ 15) ∧ min l.length 15 = H ∧ (∀ n, n ≤ H → num (l.take n) = v / 2 ^ (H - n)) ∧ v < 2 ^ H ∧ l.length = Ln) := ⟨hG, hLd, hb, ht, h15, hH, htk, by rw [← hv]; have := num_lt (l.take H); rw [List.length_take, show min H l.length = H by omega] at this; exact this, hLn⟩
  rw [hLn] at hheld
  have hH15 : H ≤ 15 := by omega
  have hmin : (if (15 : Int) < (Ln : Int) then (15 : Int) else (Ln : Int)) = (H : Int) := by split <;> omega
  have hmin2 : (if (Ln : Int) < (15 : Int) then (Ln : Int) else (15 : Int)) = (H : Int) := by split <;> omega
  have AK : Aside (part ls 15 ≤ 32768) := hk
  clear ht2 hG hLd hb ht h15 hH htk hv hx hLn hcl hvb hk
  go_enter Tryd.func60, Tryd.ntmps60
  go_upto_region 6 with (go_at_call 72; refine hheld.mono ?_; rintro e2 w2 ⟨rfl, rfl⟩)
  clear hheld hmin hmin2
  go_upto_region 9 with (first
    | (go_at_call 45; refine hpeek.mono ?_; rintro e3 w3 ⟨rfl, rfl⟩)
    | (go_at_call 73; refine hrev.mono ?_; rintro e4 w4 ⟨rfl, rfl⟩))
  clear hpeek hrev
  go_loopg [30] (H + 1) (fun gg si wr => ∃ n : Nat, si = .int .i64 (n : Int) ∧ Aside (n + gg = H + 1 ∧ Drawn w wr ∧ ∀ j, j < n → G j (num (l.take j)) = some (-1)))
  case atStart => exact ⟨0, rfl, by omega, Drawn.refl _, fun j hj => by omega⟩
  case round =>
    obtain ⟨n, rfl, hI⟩ := hrel
    by_cases hn : n ≤ H
    · have hnI : (n : Int) < (H : Int) + 1 := by omega
      have hnH : (n : Int) ≤ (H : Int) := by omega
      obtain ⟨y, hy⟩ : ∃ y, v / 2 ^ (H - n) = y := ⟨_, rfl⟩
      have hvb : v < 4294967296 := by have := AH.out.2.2.2.2.2.2.2.1; have h2 : 2 ^ H ≤ 2 ^ 15 := Nat.pow_le_pow_right (by decide) hH15; omega
      have hyb : y < 4294967296 := by rw [← hy]; exact Nat.lt_of_le_of_lt (Nat.div_le_self _ _) hvb
      have hyI : (v : Int) / 2 ^ (H - n) = (y : Int) := by rw [← hy]; push_cast; rfl
      obtain ⟨r, hr⟩ : ∃ r, G n y = r := ⟨_, rfl⟩
      obtain ⟨q, hq⟩ := hI.out.2.1
      have hlook : ∀ j, (Instr.lookup 87 (.map (some M)) (.agg #[.int .u32 (n : Int), .int .u32 (y : Int)]) true).run Tryd.prog (wr.drewN j) = .ok (.tuple #[.int .i64 (r.getD 0), .bool r.isSome]) (wr.drewN j) := fun j =>
        run_look (wr.drewN j) M kk n y G (by rw [hq]; exact AH.out.1) (by omega) hyb r hr
      have cT1r : wr.cell? ⟨T, 1, none⟩ = some (.map (some M)) := by rw [hq]; exact cT1
      have htn : num (l.take n) = y := by rw [← hy]; exact AH.out.2.2.2.2.2.2.1 n hn
      have AY : Aside (G n y = r ∧ num (l.take n) = y ∧ n ≤ H) := ⟨hr, htn, hn⟩
      clear hq hr hy htn hn
      go_upto_region 11 with fail
      go_quiet (fail)
      have hdr : Aside (Drawn w (wr.drewN nq)) := hI.out.2.1.drewN nq
      obtain ⟨w5, hw5⟩ : ∃ w5, wr.drewN nq = w5 := ⟨_, rfl⟩
      rw [hw5] at hdr ⊢
      clear hw5 cT1r hlook
      cases r with
      | none =>
        go_wp2_with fail
        first | go_ret | go_ret2
        have a := AH.out
        have y := AY.out
        have hbd := a.2.1.bad (l := l) (n := n) (by omega) hI.out.2.2 (by rw [y.2.1]; exact y.1)
        obtain ⟨rfl, rfl, rfl⟩ := told_bad AK.out a.2.2.2.2.1 a.2.2.2.1 hbd.1 hbd.2
        refine ⟨rfl, ?_, But.drawn hdr.out⟩
        obtain ⟨q, hq⟩ := hdr.out
        rw [hq]
        exact a.2.2.1.drewN q
      | some z =>
        by_cases hz : z = -1
        · subst hz
          go_wp2_with fail
          go_roundg (H - n)
          case measure => have := hI.out.1; have := AY.out.2.2; omega
          case rel =>
            refine ⟨n + 1, by go_num, by have := AY.out.2.2; omega, hdr.out, fun j hj => ?_⟩
            rcases (show j < n ∨ j = n by omega) with h | rfl
            · exact hI.out.2.2 j h
            · rw [AY.out.2.1]; exact AY.out.1
        · have hzb : (z == -1) = false := beq_eq_false_iff_ne.2 hz
          have a := AH.out
          have y1 := AY.out
          obtain ⟨s0, rfl, hh⟩ := a.2.1.hit (l := l) (n := n) (v := z) (by omega) (by rw [y1.2.1]; exact y1.1) hz
          obtain ⟨rfl, rfl, rfl⟩ := told_hit a.2.2.2.1 hh
          have hbr : Br w5 b (nm l) l.length := by obtain ⟨q, hq⟩ := hdr.out; rw [hq]; exact a.2.2.1.drewN q
          have htake := take_yes b (nm l) l.length k w5 hbr (by omega) (by omega)
          clear a y1 hh hbr hz
          go_wp2_with (go_at_call 36; refine htake.mono ?_; rintro e6 w6 ⟨rfl, hb6, ho6⟩)
          first | go_ret | go_ret2
          refine ⟨rfl, ?_, (But.drawn hdr.out).only ho6⟩
          rw [nm_drop, List.length_drop]
          exact hb6
    · have hn1 : n = H + 1 := by have := hI.out.1; omega
      subst hn1
      have hni : ¬ ((H + 1 : Nat) : Int) < (H : Int) + 1 := by omega
      clear hn
      go_wp2_with fail
      first | go_ret | go_ret2
      have a := AH.out
      have hm := a.2.1.more a.2.2.2.2.1 (l := l) (n := H) a.2.2.2.2.2.1.symm (fun j hj => hI.out.2.2 j (by omega))
      obtain ⟨rfl, rfl, rfl⟩ := told_more AK.out a.2.2.2.2.1 a.2.2.2.1 hm.2.1 hm.2.2
      refine ⟨rfl, ?_, But.drawn hI.out.2.1⟩
      obtain ⟨q, hq⟩ := hI.out.2.1
      rw [hq]
      exact a.2.2.1.drewN q
theorem new_err (a : Option Addr) (zs : List Int) (L C e0 : Nat) (w : World) (h : Lens w a zs) (hL : zs.length = L) (hLb : L < 140737488355328) (he : nerr zs = e0) (h0 : e0 ≠ 0) :
    Calls Tryd.prog 49 #[.slice a L C] w fun e w' => e = .returned (.tuple #[.pointer none, .int .i64 (e0 : Int)]) ∧ Below w.heap.size w w' := by
  by_cases hok : Okl zs
  · exact new_room a zs L C e0 w h hL hLb hok he h0
  · have : e0 = 2 := by rw [← he]; unfold nerr; rw [if_pos hok]
    subst this
    exact new_arg a zs L C w h hL hLb hok
end Go.Proofs.YtogednaamndpgaaDoor

/-
  Own texts of this seat, one behind the other: what each says stands ahead of it.
-/
import Derived.Test.YtogednaamndpgaaGreatDoorMb
/-
  What the document's New comes to: an error, or the table of the lengths' codes.
  Conditions: the lengths lie in memory.
-/
namespace Go.Proofs.YtogednaamndpgaaGreatDoor
open Go.RowKit
set_option linter.unusedVariables false
def used (ls : List Nat) : Nat := ls.countP fun l => decide (0 < l)
/-- Codes that leave room, and more than one, or not of one bit. -/
abbrev Under (ls : List Nat) : Prop := kr ls < 32768 ∧ 0 < used ls ∧ (1 < used ls ∨ ls.count 1 ≠ 1)
/-- New's error. -/
def nerr (zs : List Int) : Nat := if ¬ Okl zs then 2 else if 32768 < kr (lens zs) then 80 else if Under (lens zs) then 81 else 0
theorem nerr_ok {zs : List Int} (h : nerr zs = 0) : Okl zs ∧ kr (lens zs) ≤ 32768 ∧ ¬ Under (lens zs) := by
  unfold nerr at h
  split at h
  · omega
  · rename_i h1
    split at h
    · omega
    · rename_i h2
      split at h
      · omega
      · rename_i h3
        exact ⟨Decidable.not_not.1 h1, by omega, h3⟩
theorem lens_15 {zs : List Int} (h : Okl zs) : ∀ l ∈ lens zs, l ≤ 15 := by
  intro l hl
  obtain ⟨z, hz, rfl⟩ := List.mem_map.1 hl
  have := h.2 z hz; omega
theorem lens_at {zs : List Int} (h : Okl zs) {i l : Nat} (hl : (lens zs)[i]? = some l) : zs[i]? = some (l : Int) := by
  unfold lens at hl
  rw [List.getElem?_map] at hl
  cases hz : zs[i]? with
  | none => rw [hz] at hl; simp at hl
  | some z =>
    rw [hz] at hl
    have e : z.toNat = l := by simpa using hl
    have := h.2 z (List.mem_of_getElem? hz)
    congr 1; omega
theorem lens_len (zs : List Int) : (lens zs).length = zs.length := by simp [lens]
set_option maxRecDepth 100000 in
set_option maxHeartbeats 2000000 in
theorem rnew_arg (a : Option Addr) (zs : List Int) (L C : Nat) (w : World) (h : Lens w a zs) (hL : zs.length = L) (hLb : L < 140737488355328) (he : ¬ Okl zs) :
    Calls Tryz.prog 51 #[.slice a L C] w fun e w' => e = .returned (.tuple #[.pointer none, .int .i64 2]) ∧ w = w' := by
  have hk := rkraft_c a zs L C 0 false w h hL hLb (Or.inr ⟨he, rfl, rfl⟩)
  clear h hL hLb he
  go_enter Tryz.func51, Tryz.ntmps51
  go_wp2_with (go_at_call 79; refine hk.mono ?_; rintro e2 w2 ⟨rfl, rfl⟩)
  first | go_ret | go_ret2
  exact ⟨rfl, rfl⟩
set_option maxRecDepth 100000 in
set_option maxHeartbeats 2000000 in
theorem rnew_over (a : Option Addr) (zs : List Int) (L C : Nat) (w : World) (h : Lens w a zs) (hL : zs.length = L) (hLb : L < 140737488355328) (ho : Okl zs) (he : 32768 < kr (lens zs)) :
    Calls Tryz.prog 51 #[.slice a L C] w fun e w' => e = .returned (.tuple #[.pointer none, .int .i64 80]) ∧ w = w' := by
  obtain ⟨r, hr⟩ : ∃ r, kr (lens zs) = r := ⟨_, rfl⟩
  have hk := rkraft_c a zs L C r true w h hL hLb (Or.inl ⟨ho, hr.symm, rfl⟩)
  have h1 : (32768 : Int) < (r : Int) := by omega
  clear h hL hLb he ho hr
  go_enter Tryz.func51, Tryz.ntmps51
  go_wp2_with (go_at_call 79; refine hk.mono ?_; rintro e2 w2 ⟨rfl, rfl⟩)
  first | go_ret | go_ret2
  exact ⟨rfl, rfl⟩
theorem used_snoc (ls : List Nat) (l : Nat) : used (ls ++ [l]) = used ls + (if 0 < l then 1 else 0) := by
  unfold used
  rw [List.countP_append, List.countP_cons, List.countP_nil]
  by_cases h : 0 < l <;> simp [h]
theorem count_snoc (ls : List Nat) (l m : Nat) : (ls ++ [l]).count m = ls.count m + (if l = m then 1 else 0) := by
  rw [List.count_append, List.count_cons, List.count_nil]
  by_cases h : l = m <;> simp [h]
theorem used_le (ls : List Nat) : used ls ≤ ls.length := List.countP_le_length
set_option maxRecDepth 100000 in
set_option maxHeartbeats 8000000 in
theorem rnew_rest (a : Option Addr) (zs : List Int) (L C : Nat) (w : World) (h : Lens w a zs) (hL : zs.length = L) (ho : Okl zs) (hk0 : kr (lens zs) ≤ 32768) :
    Calls Tryz.prog 51 #[.slice a L C] w fun e w' => (Under (lens zs) ∧ e = .returned (.tuple #[.pointer none, .int .i64 81]) ∧ w = w') ∨ (¬ Under (lens zs) ∧ ∃ T, e = .returned (.tuple #[.pointer (some ⟨T, 0, none⟩), .int .i64 0]) ∧ Tb w' T (lens zs) ∧ Below w.heap.size w w' ∧ ∀ u, (∀ k, w.heap.size ≤ k → k < w'.heap.size → u.heap[k]? = w'.heap[k]?) → Tb u T (lens zs)) := by
  obtain ⟨r, hr⟩ : ∃ r, kr (lens zs) = r := ⟨_, rfl⟩
  have hk := rkraft_c a zs L C r true w h hL (by have := ho.1; omega) (Or.inl ⟨ho, hr.symm, rfl⟩)
  have h1 : ¬ (32768 : Int) < (r : Int) := by omega
  have AH : Aside (Lens w a zs ∧ zs.length = L ∧ Okl zs ∧ kr (lens zs) ≤ 32768 ∧ kr (lens zs) = r ∧ L ≤ 320 ∧ (lens zs).length = L ∧ part (lens zs) 15 ≤ 32768) := ⟨h, hL, ho, hk0, hr, by have := ho.1; omega, by rw [lens_len]; exact hL, by rw [← kr_part (lens_15 ho)]; exact hk0⟩
  have hLs : (L : Int) ≤ 320 := by have := AH.out; omega
  clear h hL ho hk0 hr
  go_enter Tryz.func51, Tryz.ntmps51
  go_upto_region 7 with (go_at_call 79; refine hk.mono ?_; rintro e2 w2 ⟨rfl, rfl⟩)
  clear hk h1
  go_wp2_with fail
  go_loopg [6, 7, 8] L (fun g su so si wr => ∃ (u o i : Nat), su = .int .i64 u ∧ so = .int .i64 o ∧ si = .int .i64 i ∧ Aside (i + g = L ∧ u = used ((lens zs).take i) ∧ o = ((lens zs).take i).count 1) ∧ w = wr)
  case atStart => exact ⟨0, 0, 0, rfl, rfl, rfl, ⟨by omega, rfl, rfl⟩, rfl⟩
  case round =>
    obtain ⟨u, o, i, rfl, rfl, rfl, hI, hw⟩ := hrel
    subst hw
    by_cases hiL : i < L
    · have hi : (i : Int) < (L : Int) := by omega
      obtain ⟨l, hl⟩ : ∃ l, (lens zs)[i]? = some l := ⟨_, List.getElem?_eq_getElem (by have := AH.out; omega)⟩
      have hz := lens_at AH.out.2.2.1 hl
      rcases AH.out.1 with e | ⟨b, o1, rfl, hc⟩
      · rw [e] at hz; simp at hz
      have cz := hc i _ hz
      have hub : u ≤ 320 ∧ o ≤ 320 := by
        have h2 := used_le ((lens zs).take i)
        have h3 := List.count_le_length (a := 1) (l := (lens zs).take i)
        have h4 : ((lens zs).take i).length ≤ 320 := by rw [List.length_take]; have := AH.out; omega
        have := hI.out
        omega
      have AZ : Aside (i < L ∧ (lens zs).take (i + 1) = (lens zs).take i ++ [l] ∧ u ≤ 320 ∧ o ≤ 320) := ⟨hiL, take_one hl, hub⟩
      have hub1 : (u : Int) ≤ 320 := by omega
      have hub2 : (o : Int) ≤ 320 := by omega
      clear hc hz hl hiL hub
      by_cases hl1 : l = 1
      · subst hl1
        go_wp2_with fail
        have h1 := hI.out; have h2 := AZ.out
        go_roundg (L - (i + 1))
        case measure => omega
        case rel => exact ⟨u + 1, o + 1, i + 1, by go_num, by go_num, by go_num, ⟨by omega, by rw [h2.2.1, used_snoc, h1.2.1]; rfl, by rw [h2.2.1, count_snoc, h1.2.2]; rfl⟩, rfl⟩
      · by_cases hl0 : l = 0
        · subst hl0
          go_wp2_with fail
          have h1 := hI.out; have h2 := AZ.out
          go_roundg (L - (i + 1))
          case measure => omega
          case rel => exact ⟨u, o, i + 1, rfl, rfl, by go_num, ⟨by omega, by rw [h2.2.1, used_snoc, h1.2.1]; rfl, by rw [h2.2.1, count_snoc, h1.2.2]; rfl⟩, rfl⟩
        · have t1 : (0 : Int) < (l : Int) := by omega
          have t2 : ¬ (l : Int) = 1 := by omega
          have t3 : ((l : Int) == 1) = false := by rw [beq_eq_false_iff_ne]; exact t2
          have AL : Aside (0 < l ∧ l ≠ 1) := ⟨by omega, hl1⟩
          clear hl0 hl1
          go_wp2_with fail
          have h1 := hI.out; have h2 := AZ.out; have h3 := AL.out
          go_roundg (L - (i + 1))
          case measure => omega
          case rel => exact ⟨u + 1, o, i + 1, by go_num, rfl, by go_num, ⟨by omega, by rw [h2.2.1, used_snoc, h1.2.1, if_pos h3.1], by rw [h2.2.1, count_snoc, h1.2.2, if_neg h3.2]; rfl⟩, rfl⟩
    · have hi : ¬ (i : Int) < (L : Int) := by omega
      have AF : Aside (u = used (lens zs) ∧ o = (lens zs).count 1) := by
        have e : (lens zs).take i = lens zs := List.take_of_length_le (by have := AH.out; omega)
        have := hI.out; rw [e] at this
        exact this.2
      clear hiL hI
      obtain ⟨U, hU⟩ : ∃ U : Bool, decide (Under (lens zs)) = U := ⟨_, rfl⟩
      have AU : Aside (decide (Under (lens zs)) = U) := hU
      have hUr : U = decide (r < 32768 ∧ 0 < u ∧ (1 < u ∨ o ≠ 1)) := by
        rw [← hU]
        apply decide_eq_decide.2
        unfold Under
        rw [AH.out.2.2.2.2.1, AF.out.1, AF.out.2]
      clear hU
      go_upto_region 14 with fail
      go_cut [58] (fun s58 wc => s58 = .bool U ∧ w = wc)
      case first =>
        by_cases hr : r < 32768
        · obtain ⟨lim, hlim⟩ : ∃ lim : Int, lim = 32768 := ⟨_, rfl⟩
          have r1 : ((r : Int) < 32768) = True := eq_true (by omega)
          have r2 : (r < 32768) = True := eq_true hr
          clear hlim
          by_cases hu0 : 0 < u
          · have u0 : (0 : Int) < (u : Int) := by omega
            by_cases hu1 : 1 < u
            · have u1 : (1 : Int) < (u : Int) := by omega
              have e : U = true := by rw [hUr]; exact decide_eq_true ⟨hr, hu0, Or.inl hu1⟩
              subst e
              clear hUr hr hu0 hu1
              go_wp2_with fail
              go_meet
              exact ⟨rfl, rfl⟩
            · have u1 : ¬ (1 : Int) < (u : Int) := by omega
              by_cases ho : o = 1
              · have e : U = false := by rw [hUr]; exact decide_eq_false (by omega)
                subst e
                subst ho
                clear hUr hr hu0 hu1
                go_wp2_with fail
                go_meet
                exact ⟨rfl, rfl⟩
              · have o1 : ¬ (o : Int) = 1 := by omega
                have o2 : ((o : Int) != 1) = true := by rw [bne_iff_ne]; exact o1
                have e : U = true := by rw [hUr]; exact decide_eq_true ⟨hr, hu0, Or.inr ho⟩
                subst e
                clear hUr hr hu0 hu1 ho
                go_wp2_with fail
                go_meet
                exact ⟨rfl, rfl⟩
          · have u0 : ¬ (0 : Int) < (u : Int) := by omega
            have e : U = false := by rw [hUr]; exact decide_eq_false (by omega)
            subst e
            clear hUr hr hu0
            go_wp2_with fail
            go_meet
            exact ⟨rfl, rfl⟩
        · have r1 : ¬ (r : Int) < 32768 := by omega
          have e : U = false := by rw [hUr]; exact decide_eq_false (by omega)
          subst e
          clear hUr hr
          go_wp2_with fail
          go_meet
          exact ⟨rfl, rfl⟩
      case rest =>
        obtain ⟨rfl, rfl⟩ := hcut
        clear hUr
        cases U with
        | true =>
          go_wp2_with fail
          first | go_ret | go_ret2
          exact Or.inl ⟨of_decide_eq_true AU.out, rfl, rfl⟩
        | false =>
          obtain ⟨g, hg⟩ : ∃ g, w.heap.size = g := ⟨_, rfl⟩
          have hmk := made_rows L (by have := AH.out; omega) w
          rw [hg] at hmk
          obtain ⟨wa, hwa⟩ : ∃ wa, wa = w.alloc (.cells (Array.replicate L (Value.slice none 0 0)) 131) := ⟨_, rfl⟩
          have hsa : wa.heap.size = g + 1 := by rw [hwa, ← hg]; show (w.heap.push _).size = _; simp
          obtain ⟨wb, hwb⟩ : ∃ wb, wb = wa.alloc (.cells #[.slice (some ⟨g, 0, none⟩) L L] 130) := ⟨_, rfl⟩
          have A0 : Aside (Tl w wb (g + 1) g (lens zs) 1 0) := by
            have ba : Below w.heap.size w wa := by rw [hwa]; exact (Below.refl _ w).alloc (Nat.le_refl _) _
            have bb : Below wa.heap.size wa wb := by rw [hwb]; exact (Below.refl _ wa).alloc (Nat.le_refl _) _
            refine ⟨?_, ⟨_, Cells.below (w := wa) (by rw [hwa, ← hg]; exact Cells.new w _ 131) bb (by omega), by simp [AH.out.2.2.2.2.2.2.1], fun j m hj => ⟨fun hc => by omega, fun _ => ?_⟩⟩, ba.trans (bb.mono ba.size), by omega, by omega⟩
            · rw [hwb, ← hsa, AH.out.2.2.2.2.2.2.1]; exact Cells.new wa _ 130
            · have := (List.getElem?_eq_some_iff.1 hj).1
              rw [AH.out.2.2.2.2.2.2.1] at this
              simp [this]
          go_upto_region 17 with fail
          rw [← hwa, ← hwb]
          clear hwb hmk hwa hsa hg AF
          go_wp2_with fail
          go_loopg [10, 11] 15 (fun gg sx sn wr => ∃ (nx n : Nat), sx = .int .i64 nx ∧ sn = .int .i64 n ∧ Aside (n + gg = 16 ∧ 1 ≤ n ∧ nx = part (lens zs) (n - 1) ∧ Tl w wr (g + 1) g (lens zs) n 0))
          case atStart => exact ⟨0, 1, rfl, rfl, ⟨by omega, by omega, rfl, A0.out⟩⟩
          case round =>
            obtain ⟨nx, n, rfl, rfl, hN⟩ := hrel
            by_cases hn15 : n ≤ 15
            · have hn : (n : Int) ≤ 15 := by omega
              have hnb : nx ≤ 32768 := by
                have h2 := part_fits (ls := lens zs) AH.out.2.2.2.2.2.2.2 (n := n - 1) (by omega)
                have h3 : (2 : Nat) ^ (n - 1) ≤ 2 ^ 15 := Nat.pow_le_pow_right (by decide) (by omega)
                have := hN.out.2.2.1
                omega
              have hnb1 : (nx : Int) ≤ 32768 := by omega
              have AN : Aside (n ≤ 15 ∧ 1 ≤ n ∧ nx + nx = first (lens zs) n) := ⟨hn15, hN.out.2.1, by
                obtain ⟨q, rfl⟩ : ∃ q, n = q + 1 := ⟨n - 1, by have := hN.out; omega⟩
                have := hN.out.2.2.1
                rw [show q + 1 - 1 = q by omega] at this
                show _ = 2 * part (lens zs) q
                omega⟩
              clear hnb hn15
              go_upto_region 22 with fail
              obtain ⟨f0, hf0⟩ : ∃ f0, nx + nx = f0 := ⟨_, rfl⟩
              rw [show (2 * (nx : Int)) = (f0 : Int) by omega]
              have AF : Aside (f0 = first (lens zs) n ∧ f0 ≤ 65536) := ⟨by rw [← hf0]; exact AN.out.2.2, by omega⟩
              clear hf0 hnb1
              go_wp2_with fail
              go_loopg [10, 12] L (fun gg sx si wr => ∃ (x i : Nat), sx = .int .i64 x ∧ si = .int .i64 i ∧ Aside (i + gg = L ∧ x = f0 + ((lens zs).take i).count n ∧ Tl w wr (g + 1) g (lens zs) n i))
              case atStart => exact ⟨f0, 0, rfl, rfl, ⟨by omega, by simp, hN.out.2.2.2⟩⟩
              case round =>
                obtain ⟨x, i, rfl, rfl, hI⟩ := hrel
                by_cases hiL : i < L
                · have hi : (i : Int) < (L : Int) := by omega
                  obtain ⟨l, hl⟩ : ∃ l, (lens zs)[i]? = some l := ⟨_, List.getElem?_eq_getElem (by have := AH.out; omega)⟩
                  have hz := lens_at AH.out.2.2.1 hl
                  rcases AH.out.1 with e | ⟨b0, o0, rfl, hc⟩
                  · rw [e] at hz; simp at hz
                  have cz0 := hc i _ hz
                  have cz : wr.cell? ⟨b0, o0 + i, none⟩ = some (.int .i64 (l : Int)) := (hI.out.2.2.bel.cell (p := ⟨b0, o0 + i, none⟩) (World.block_lt_of_cell? w ⟨b0, o0 + i, none⟩ cz0)).trans cz0
                  have AZ : Aside (i < L ∧ (lens zs)[i]? = some l) := ⟨hiL, hl⟩
                  have hib : (i : Int) < 320 := by omega
                  clear hc hz hl hiL cz0
                  by_cases hln : l = n
                  · subst hln
                    obtain ⟨c, hcx⟩ : ∃ c, code (lens zs) i l = c := ⟨_, rfl⟩
                    have hxc : x = c := by rw [hI.out.2.1, ← hcx, AF.out.1]; rfl
                    subst hxc
                    have hxb : x < 32768 := by
                      have h2 := code_fits AH.out.2.2.2.2.2.2.2 AZ.out.2 (by have := AN.out; omega) AN.out.1
                      have h3 : (2 : Nat) ^ l ≤ 2 ^ 15 := Nat.pow_le_pow_right (by decide) AN.out.1
                      omega
                    have hxb1 : (x : Int) ≤ 32768 := by omega
                    obtain ⟨b, hb⟩ : ∃ b, wr.heap.size = b := ⟨_, rfl⟩
                    obtain ⟨wc, hwc⟩ : ∃ wc, wc = wr.alloc (.cells (vb (List.replicate l false)).toArray 4) := ⟨_, rfl⟩
                    have AC : Aside (code (lens zs) i l = x ∧ x < 32768 ∧ (∀ u, Only b wc u → Tl w u (g + 1) g (lens zs) l i) ∧ Bb wc b (List.replicate l false) ∧ w.heap.size ≤ b) := by
                      refine ⟨hcx, hxb, fun u hu => hI.out.2.2.below (((Below.refl _ wr).alloc (Nat.le_refl _) _).trans (hwc ▸ hu.below (Nat.le_of_eq hb))), ?_, by rw [← hb]; exact hI.out.2.2.bel.size⟩
                      unfold Bb
                      rw [hwc, ← hb]; exact Cells.new wr _ 4
                    have hmk := made_bools l (by have := AN.out; omega) wr
                    rw [hb] at hmk
                    have hn0 : (0 : Int) ≤ (l : Int) := by omega
                    clear hcx hxb
                    go_upto_region 28 with fail
                    rw [← hwc]
                    clear hmk hwc hb
                    go_wp2_with fail
                    go_loopg [14, 15] l (fun gg sx sk wr => ∃ (y j : Nat), sx = .int .i64 y ∧ sk = .int .i64 ((j : Int) - 1) ∧ Aside (j = gg ∧ j ≤ l ∧ y = x / 2 ^ (l - j) ∧ Bb wr b (List.replicate j false ++ (bitsB l x).drop j) ∧ Only b wc wr))
                    case atStart => exact ⟨x, l, rfl, rfl, ⟨rfl, Nat.le_refl _, by rw [Nat.sub_self, Nat.pow_zero, Nat.div_one], by rw [List.drop_eq_nil_of_le (by rw [bitsB_len]; exact Nat.le_refl _), List.append_nil]; exact AC.out.2.2.2.1, Only.refl _ _⟩⟩
                    case round =>
                      obtain ⟨y, j, rfl, hsk, hJ⟩ := hrel
                      by_cases hj0 : 0 < j
                      · obtain ⟨q, rfl⟩ : ∃ q, j = q + 1 := ⟨j - 1, by omega⟩
                        rw [show ((q + 1 : Nat) : Int) - 1 = (q : Int) by omega] at hsk
                        subst hsk
                        have hq : (q : Int) < (l : Int) := by have := hJ.out; omega
                        have hyx : y ≤ x := by rw [hJ.out.2.2.1]; exact Nat.div_le_self _ _
                        have hyb : (y : Int) ≤ 32768 := by have := AC.out; omega
                        clear hyx
                        have hq0 : (0 : Int) ≤ (q : Int) := by omega
                        have hlen : q < (List.replicate (q + 1) false ++ (bitsB l x).drop (q + 1)).length := by rw [List.length_append, List.length_replicate]; omega
                        have cq : wr.cell? ⟨b, q, none⟩ = some (.bool false) := by
                          have h1 := Cells.cell hJ.out.2.2.2.1 q
                          rw [h1, List.getElem?_toArray, vb, List.getElem?_map, List.getElem?_append_left (by rw [List.length_replicate]; omega), List.getElem?_replicate, if_pos (by omega)]
                          rfl
                        have fq : wr.frozen? ⟨b, q, none⟩ = false := Cells.frozen hJ.out.2.2.2.1 q
                        obtain ⟨bt, hbt⟩ : ∃ bt : Bool, (y % 2 == 1) = bt := ⟨_, rfl⟩
                        have hbti : ((y : Int) % 2 == 1) = bt := by
                          rw [← hbt]
                          by_cases h : y % 2 = 1
                          · rw [h, beq_iff_eq.2 (show (y : Int) % 2 = 1 by omega)]; rfl
                          · rw [beq_eq_false_iff_ne.2 (show ¬ (y : Int) % 2 = 1 by omega), beq_eq_false_iff_ne.2 h]
                        have A5 : Aside (Bb (wr.setCell ⟨b, q, none⟩ (.bool bt)) b (List.replicate q false ++ (bitsB l x).drop q) ∧ Only b wc (wr.setCell ⟨b, q, none⟩ (.bool bt)) ∧ y / 2 = x / 2 ^ (l - q)) := by
                          have h1 := hJ.out
                          refine ⟨?_, h1.2.2.2.2.setCell q _, ?_⟩
                          · have h2 := h1.2.2.2.1.set q bt
                            have h3 := bits_row (n := l) (j := q + 1) (c := x) (by omega) h1.2.1
                            rw [← h1.2.2.1, show q + 1 - 1 = q by omega, hbt] at h3
                            rw [h3] at h2
                            exact h2
                          · rw [h1.2.2.1, Nat.div_div_eq_div_mul, show (2 : Nat) ^ (l - (q + 1)) * 2 = 2 ^ (l - q) by rw [← Nat.pow_succ]; congr 1; omega]
                        clear hlen hj0
                        go_upto_region 32 with fail
                        obtain ⟨wd, hwd⟩ : ∃ wd, wd = wr.setCell ⟨b, q, none⟩ (.bool bt) := ⟨_, rfl⟩
                        rw [← hwd] at A5 ⊢
                        clear cq fq hbt hbti hwd
                        go_wp2_with fail
                        have h1 := hJ.out; have h2 := A5.out
                        go_roundg q
                        case measure => omega
                        case rel => exact ⟨y / 2, q, by go_num, by go_num, ⟨rfl, by omega, h2.2.2, h2.1, h2.2.1⟩⟩
                      · have hj : j = 0 := by omega
                        subst hj
                        rw [show (((0 : Nat) : Int) - 1) = -1 by rfl] at hsk
                        subst hsk
                        have h2 := hJ.out.2.2.2.1
                        rw [List.replicate_zero, List.nil_append, List.drop_zero] at h2
                        have hT := AC.out.2.2.1 wr hJ.out.2.2.2.2
                        have hput := hT.put AZ.out.2 (by have := AN.out; omega) AC.out.2.2.2.2 (by rw [AC.out.1]; exact h2)
                        obtain ⟨rows, r1, r2, r3⟩ := hT.row
                        have cT : wr.cell? ⟨g + 1, 0, none⟩ = some (.slice (some ⟨g, 0, none⟩) L L) := by
                          have := Cells.cell hT.t 0
                          rw [AH.out.2.2.2.2.2.2.1] at this
                          exact this
                        have cR : wr.cell? ⟨g, i, none⟩ = some (.slice none 0 0) := by
                          rw [Cells.cell r1 i]
                          exact (r3 i l AZ.out.2).2 (by omega)
                        have fR : wr.frozen? ⟨g, i, none⟩ = false := Cells.frozen r1 i
                        have A7 : Aside (Tl w (wr.setCell ⟨g, i, none⟩ (.slice (some ⟨b, 0, none⟩) l l)) (g + 1) g (lens zs) l (i + 1)) := hput
                        have hxb2 : (x : Int) ≤ 32768 := by have := AC.out; omega
                        clear hput hT r1 r2 r3 h2 hj0
                        go_upto_region 34 with fail
                        obtain ⟨wd, hwd⟩ : ∃ wd, wd = wr.setCell ⟨g, i, none⟩ (.slice (some ⟨b, 0, none⟩) l l) := ⟨_, rfl⟩
                        rw [← hwd] at A7 ⊢
                        clear hwd cT cR fR
                        go_wp2_with fail
                        have h1 := hI.out; have h2 := AZ.out
                        go_roundg (L - (i + 1))
                        case measure => omega
                        case rel => exact ⟨x + 1, i + 1, by go_num, by go_num, ⟨by omega, by rw [rank_step h2.2 l, if_pos rfl]; omega, A7.out⟩⟩
                  · have t1 : ¬ (l : Int) = (n : Int) := by omega
                    have t2 : ((l : Int) != (n : Int)) = true := by rw [bne_iff_ne]; exact t1
                    have AL : Aside (l ≠ n) := hln
                    clear hln
                    go_wp2_with fail
                    have h1 := hI.out; have h2 := AZ.out; have h3 := AL.out
                    go_roundg (L - (i + 1))
                    case measure => omega
                    case rel => exact ⟨x, i + 1, rfl, by go_num, ⟨by omega, by rw [rank_step h2.2 n, if_neg h3]; exact h1.2.1, h1.2.2.skip h2.2 h3⟩⟩
                · have hi : ¬ (i : Int) < (L : Int) := by omega
                  have A8 : Aside (x = part (lens zs) n ∧ Tl w wr (g + 1) g (lens zs) (n + 1) 0) := by
                    have e : (lens zs).take i = lens zs := List.take_of_length_le (by have := AH.out; omega)
                    have h1 := hI.out
                    rw [e] at h1
                    refine ⟨?_, h1.2.2.next (by have := AH.out; omega)⟩
                    rw [h1.2.1, AF.out.1, first_le (lens zs) n (by have := AN.out; omega)]
                  have hnb2 : (n : Int) ≤ 15 := hn
                  clear hiL hI
                  go_wp2_with fail
                  have h1 := hN.out; have h2 := AN.out; have h3 := A8.out
                  go_roundg (16 - (n + 1))
                  case measure => omega
                  case rel => exact ⟨x, n + 1, rfl, by go_num, ⟨by omega, by omega, by rw [show n + 1 - 1 = n by omega]; exact h3.1, h3.2⟩⟩
            · have hn : ¬ (n : Int) ≤ 15 := by omega
              have A9 : Aside (Tb wr (g + 1) (lens zs) ∧ Below w.heap.size w wr ∧ ∀ u, (∀ k, w.heap.size ≤ k → k < wr.heap.size → u.heap[k]? = wr.heap[k]?) → Tb u (g + 1) (lens zs)) := by
                have e : n = 16 := by have := hN.out; omega
                have h4 := hN.out.2.2.2
                rw [e] at h4
                exact ⟨(h4.tb_ (lens_15 AH.out.2.2.1)).1, h4.bel, (h4.tb_ (lens_15 AH.out.2.2.1)).2⟩
              clear hn15
              go_wp2_with fail
              first | go_ret | go_ret2
              exact Or.inr ⟨(by intro k1 k2; have h0 := of_decide_eq_false AU.out; unfold Under at h0; omega), _, rfl, A9.out⟩
end Go.Proofs.YtogednaamndpgaaGreatDoor

/-
  What the program's sum, check, firsts and Kraft come to, over rows of sixteen counts.
-/
namespace Go.Proofs.YtogednaamndpgaaGreatDoor
open Go.RowKit
set_option linter.unusedVariables false
/-- The sum of a row: what the codes of n bits or fewer take. -/
def psum (f : Nat → Nat) : Nat → Nat
  | 0 => 0
  | n + 1 => psum f n * 2 + f (n + 1)
theorem psum_part (ls : List Nat) : ∀ n, psum (fun j => ls.count j) n = part ls n
  | 0 => rfl
  | n + 1 => by rw [psum, part, psum_part ls n]; omega
theorem psum_zero : ∀ n, psum (fun _ => 0) n = 0
  | 0 => rfl
  | n + 1 => by rw [psum, psum_zero n]
theorem psum_le {f : Nat → Nat} (h : ∀ j, f j ≤ 320) : ∀ n, psum f n + 320 ≤ 320 * 2 ^ n
  | 0 => by simp [psum]
  | n + 1 => by
    have h1 := psum_le h n
    have h2 := h (n + 1)
    rw [psum, Nat.pow_succ]
    omega
theorem psum_step (f : Nat → Nat) (n : Nat) (h : n < 15) : psum f n * 2 ^ (15 - n) + f (n + 1) * 2 ^ (15 - (n + 1)) = psum f (n + 1) * 2 ^ (15 - (n + 1)) := by
  rw [psum, Nat.add_mul, show 15 - n = (15 - (n + 1)) + 1 by omega, Nat.pow_succ, Nat.mul_assoc, Nat.mul_comm 2]
theorem sw64_cast {n : Nat} (h : n < 9223372036854775808) : wrap64 (n : Int) = (n : Int) := by unfold wrap64; omega
theorem w64_nat {q d : Nat} (h : q * 2 ^ d < 9223372036854775808) : wrap64 ((q : Int) * 2 ^ d) = (q : Int) * 2 ^ d := by
  have e : (q : Int) * 2 ^ d = ((q * 2 ^ d : Nat) : Int) := by push_cast; rfl
  rw [e, sw64_cast h]
set_option maxRecDepth 100000 in
set_option maxHeartbeats 2000000 in
theorem sum_c (f : Nat → Nat) (hf : ∀ j, f j ≤ 320) (w : World) :
    Calls Tryz.prog 119 #[.agg (rw16 f)] w fun e w' => e = .returned (.int .i64 (psum f 15 : Nat)) ∧ Below w.heap.size w w' := by
  obtain ⟨B, hB⟩ : ∃ B, w.heap.size = B := ⟨_, rfl⟩
  obtain ⟨w1, hw1⟩ : ∃ w1, w1 = w.alloc (.cells (rw16 f) 155) := ⟨_, rfl⟩
  have c0 : Cells w1 B (rw16 f) 155 := by rw [hw1, ← hB]; exact Cells.new w _ 155
  have bel : Below B w w1 := by rw [hw1, ← hB]; exact (Below.refl _ w).alloc (Nat.le_refl _) _
  obtain ⟨R, hR⟩ : ∃ R, rw16 f = R := ⟨_, rfl⟩
  rw [hR] at hw1 ⊢
  have hRs : R.size = 16 := by rw [← hR]; exact rw16_size _
  have AW : Aside (Cells w1 B (rw16 f) 155 ∧ Below B w w1 ∧ w.heap.size = B ∧ rw16 f = R) := ⟨c0, bel, hB, hR⟩
  clear c0 bel hR
  go_enter Tryz.func119, Tryz.ntmps119
  go_upto_region 2 with fail
  rw [← hw1]
  clear hw1 hB
  go_wp2_with fail
  go_loopg [3, 4] 15 (fun g st sl wr => ∃ (n s : Nat), st = .int .i64 (s : Int) ∧ sl = .int .i64 ((n + 1 : Nat) : Int) ∧ Aside (n + g = 15 ∧ s = psum f n * 2 ^ (15 - n)) ∧ w1 = wr)
  case atStart => exact ⟨0, 0, rfl, rfl, ⟨by omega, by simp [psum]⟩, rfl⟩
  case round =>
    obtain ⟨n, s, rfl, rfl, hI, hw⟩ := hrel
    subst hw
    by_cases hn : n < 15
    · obtain ⟨q, hq⟩ : ∃ q, f (n + 1) = q := ⟨_, rfl⟩
      have hqb : q ≤ 320 := by rw [← hq]; exact hf _
      obtain ⟨l, hl⟩ : ∃ l, n + 1 = l := ⟨_, rfl⟩
      rw [hl]
      have hl15 : (l : Int) ≤ 15 := by omega
      have hl0 : (0 : Int) ≤ l := by omega
      have cq : w1.cell? ⟨B, l, none⟩ = some (.int .u32 (q : Int)) := by rw [AW.out.1.cell, rw16_at _ _ (by omega), ← hl, hq]
      have hbig : s + q * 2 ^ (15 - l) ≤ 320 * 2 ^ 15 := by
        have e1 := psum_step f n hn
        rw [hq, ← hI.out.2, hl] at e1
        rw [e1]
        have h2 := psum_le hf l
        have h3 : psum f l * 2 ^ (15 - l) ≤ (320 * 2 ^ l) * 2 ^ (15 - l) := Nat.mul_le_mul_right _ (by omega)
        rw [Nat.mul_assoc, ← Nat.pow_add, show l + (15 - l) = 15 by omega] at h3
        exact h3
      have hnx : Aside (s + q * 2 ^ (15 - l) = psum f l * 2 ^ (15 - l) ∧ n < 15 ∧ n + 1 = l) := by
        refine ⟨?_, hn, hl⟩
        have e1 := psum_step f n hn
        rw [hq, ← hI.out.2, hl] at e1
        exact e1
      obtain ⟨P, hP⟩ : ∃ P, 2 ^ (15 - l) = P := ⟨_, rfl⟩
      have hPI : (2 : Int) ^ (15 - (l : Int)).toNat = (P : Int) := by rw [← hP, show (15 - (l : Int)).toNat = 15 - l by omega]; push_cast; rfl
      clear hq
      go_wp2_with fail
      have e1 : wrap64 ((q : Int) * 2 ^ (15 - l)) = ((q * 2 ^ (15 - l) : Nat) : Int) := by
        rw [w64_nat (by omega)]
        · push_cast; rfl
      have e2 : wrap64 ((s : Int) + ((q * 2 ^ (15 - l) : Nat) : Int)) = ((s + q * 2 ^ (15 - l) : Nat) : Int) := by
        rw [← Int.natCast_add, sw64_cast (by omega)]
      rw [e1, e2]
      go_roundg (15 - (n + 1))
      case measure => have := hI.out.1; have := hnx.out.2.1; omega
      case rel =>
        refine ⟨n + 1, s + q * 2 ^ (15 - l), rfl, by have := hnx.out.2.2; subst this; go_num, ⟨by have := hnx.out.2.1; omega, ?_⟩, rfl⟩
        rw [hnx.out.1, hnx.out.2.2]
    · have hn15 : n = 15 := by have := hI.out.1; omega
      subst hn15
      have hs : s = psum f 15 := by have := hI.out.2; simpa using this
      clear hn hI
      go_wp2_with fail
      first | go_ret | go_ret2
      exact ⟨by rw [hs]; rfl, by rw [AW.out.2.2.1]; exact AW.out.2.1⟩
/-- What the check comes to. -/
def cerr (f : Nat → Nat) : Nat := if 32768 < psum f 15 then 80 else if psum f 15 = 32768 ∨ psum f 15 = 0 ∨ (psum f 15 = 16384 ∧ f 1 = 1) then 0 else 81
set_option maxRecDepth 100000 in
set_option maxHeartbeats 2000000 in
theorem check_c (f : Nat → Nat) (hf : ∀ j, f j ≤ 320) (e0 : Nat) (he : cerr f = e0) (w : World) :
    Calls Tryz.prog 108 #[.agg (rw16 f)] w fun e w' => e = .returned (.int .i64 (e0 : Int)) ∧ Below w.heap.size w w' := by
  obtain ⟨B, hB⟩ : ∃ B, w.heap.size = B := ⟨_, rfl⟩
  obtain ⟨w1, hw1⟩ : ∃ w1, w1 = w.alloc (.cells (rw16 f) 155) := ⟨_, rfl⟩
  have c0 : Cells w1 B (rw16 f) 155 := by rw [hw1, ← hB]; exact Cells.new w _ 155
  have bel : Below B w w1 := by rw [hw1, ← hB]; exact (Below.refl _ w).alloc (Nat.le_refl _) _
  have hB1 : w1.heap.size = B + 1 := by rw [hw1, ← hB]; exact Array.size_push _
  have hsum := sum_c f hf w1
  obtain ⟨s, hs⟩ : ∃ s, psum f 15 = s := ⟨_, rfl⟩
  obtain ⟨q, hq⟩ : ∃ q, f 1 = q := ⟨_, rfl⟩
  have hqb : q ≤ 320 := by rw [← hq]; exact hf 1
  have cq : (rw16 f)[1]? = some (.int .u32 (q : Int)) := by rw [rw16_at _ _ (by omega), hq]
  unfold cerr at he
  rw [hs, hq] at he
  rw [hs] at hsum
  obtain ⟨R, hR⟩ : ∃ R, rw16 f = R := ⟨_, rfl⟩
  rw [hR] at hw1 hsum c0 cq ⊢
  have hRs : R.size = 16 := by rw [← hR]; exact rw16_size _
  have AW : Aside (Cells w1 B R 155 ∧ Below B w w1 ∧ w.heap.size = B ∧ w1.heap.size = B + 1) := ⟨c0, bel, hB, hB1⟩
  have AE : Aside ((if 32768 < s then 80 else if s = 32768 ∨ s = 0 ∨ (s = 16384 ∧ q = 1) then 0 else 81) = e0) := he
  clear bel hR hB1 he hs hq
  go_enter Tryz.func108, Tryz.ntmps108
  go_upto_region 1 with fail
  rw [← hw1]
  clear hw1 hB
  go_upto_region 2 with (first
    | (refine wpList_load_row rfl 155 (.tmp 1) rfl B rfl 155 _ (0, 0) _ c0 Tryz.underlying155 rfl (by rw [hRs]; exact size59) ?_)
    | (go_at_call 119; refine hsum.mono ?_; rintro e2 w2 ⟨rfl, hb2⟩))
  have c1 : w2.cell? ⟨B, 1, none⟩ = some (.int .u32 (q : Int)) := ((AW.out.1.below hb2 (by rw [AW.out.2.2.2]; omega)).cell 1).trans cq
  have AB : Aside (Below B w w2) := AW.out.2.1.trans (hb2.mono (by rw [AW.out.2.2.2]; omega))
  clear c0 hb2 hsum cq
  by_cases h1 : 32768 < s
  · have t1 : ((32768 : Int) < (s : Int)) = True := eq_true (by omega)
    have he2 : e0 = 80 := by have := AE.out; rw [if_pos h1] at this; exact this.symm
    clear h1
    go_wp2_with fail
    first | go_ret | go_ret2
    exact ⟨by rw [he2]; rfl, by rw [AW.out.2.2.1]; exact AB.out⟩
  have t1 : ((32768 : Int) < (s : Int)) = False := eq_false (by omega)
  have AE2 : Aside ((if s = 32768 ∨ s = 0 ∨ (s = 16384 ∧ q = 1) then 0 else 81) = e0) := by have := AE.out; rw [if_neg h1] at this; exact this
  clear AE h1
  by_cases h2 : s = 32768
  · have he2 : e0 = 0 := by have := AE2.out; rw [if_pos (Or.inl h2)] at this; exact this.symm
    have t2 : ((s : Int) == 32768) = true := beq_iff_eq.2 (by omega)
    clear h2
    go_wp2_with fail
    first | go_ret | go_ret2
    exact ⟨by rw [he2]; rfl, by rw [AW.out.2.2.1]; exact AB.out⟩
  by_cases h3 : s = 0
  · have he2 : e0 = 0 := by have := AE2.out; rw [if_pos (Or.inr (Or.inl h3))] at this; exact this.symm
    have t2 : ((s : Int) == 32768) = false := beq_eq_false_iff_ne.2 (by omega)
    have t3 : ((s : Int) == 0) = true := beq_iff_eq.2 (by omega)
    clear h2 h3
    go_wp2_with fail
    first | go_ret | go_ret2
    exact ⟨by rw [he2]; rfl, by rw [AW.out.2.2.1]; exact AB.out⟩
  have t2 : ((s : Int) == 32768) = false := beq_eq_false_iff_ne.2 (by omega)
  have t3 : ((s : Int) == 0) = false := beq_eq_false_iff_ne.2 (by omega)
  by_cases h4 : s = 16384
  · have t4 : ((s : Int) == 16384) = true := beq_iff_eq.2 (by omega)
    by_cases h5 : q = 1
    · have he2 : e0 = 0 := by have := AE2.out; rw [if_pos (Or.inr (Or.inr ⟨h4, h5⟩))] at this; exact this.symm
      have t5 : ((q : Int) == 1) = true := beq_iff_eq.2 (by omega)
      clear h2 h3 h4 h5
      go_wp2_with fail
      first | go_ret | go_ret2
      exact ⟨by rw [he2]; rfl, by rw [AW.out.2.2.1]; exact AB.out⟩
    · have he2 : e0 = 81 := by have := AE2.out; rw [if_neg (by omega)] at this; exact this.symm
      have t5 : ((q : Int) == 1) = false := beq_eq_false_iff_ne.2 (by omega)
      clear h2 h3 h4 h5
      go_wp2_with fail
      first | go_ret | go_ret2
      exact ⟨by rw [he2]; rfl, by rw [AW.out.2.2.1]; exact AB.out⟩
  · have he2 : e0 = 81 := by have := AE2.out; rw [if_neg (by omega)] at this; exact this.symm
    have t4 : ((s : Int) == 16384) = false := beq_eq_false_iff_ne.2 (by omega)
    clear h2 h3 h4
    go_wp2_with fail
    first | go_ret | go_ret2
    exact ⟨by rw [he2]; rfl, by rw [AW.out.2.2.1]; exact AB.out⟩
theorem psum_cell {f : Nat → Nat} (hf : ∀ j, f j ≤ 320) (n : Nat) (h : n ≤ 15) : psum f n ≤ 10485760 := by
  have h1 := psum_le hf n
  have h2 : 2 ^ n ≤ 2 ^ 15 := Nat.pow_le_pow_right (by decide) h
  omega
/-- The first code of each length. -/
def frs (f : Nat → Nat) (j : Nat) : Nat := if j = 0 then 0 else 2 * psum f (j - 1)
theorem frs_first (ls : List Nat) : ∀ j, frs (fun j => ls.count j) j = first ls j
  | 0 => rfl
  | n + 1 => by unfold frs first; rw [if_neg (by omega), show n + 1 - 1 = n by omega, psum_part]
set_option maxRecDepth 100000 in
set_option maxHeartbeats 2000000 in
theorem firsts_c (f : Nat → Nat) (hf : ∀ j, f j ≤ 320) (w : World) :
    Calls Tryz.prog 109 #[.agg (rw16 f)] w fun e w' => e = .returned (.agg (rw16 (frs f))) ∧ Below w.heap.size w w' := by
  obtain ⟨B, hB⟩ : ∃ B, w.heap.size = B := ⟨_, rfl⟩
  obtain ⟨w1, hw1⟩ : ∃ w1, w1 = w.alloc (.cells (rw16 f) 155) := ⟨_, rfl⟩
  obtain ⟨w2, hw2⟩ : ∃ w2, w2 = w1.alloc (.cells (rw16 fun _ => 0) 155) := ⟨_, rfl⟩
  obtain ⟨w3, hw3⟩ : ∃ w3, w3 = w2.alloc (.cells (rw16 fun _ => 0) 155) := ⟨_, rfl⟩
  have hB1 : w1.heap.size = B + 1 := by rw [hw1, ← hB]; exact Array.size_push _
  have hB2 : w2.heap.size = B + 2 := by rw [hw2, show B + 2 = B + 1 + 1 from rfl, ← hB1]; exact Array.size_push _
  have c0 : Cells w3 B (rw16 f) 155 := by rw [hw3, hw2]; refine Cells.alloc (Cells.alloc ?_ _) _; rw [hw1, ← hB]; exact Cells.new w _ 155
  have c1 : Cells w3 (B + 1) (rw16 fun _ => 0) 155 := by rw [hw3]; refine Cells.alloc ?_ _; rw [hw2, ← hB1]; exact Cells.new w1 _ 155
  have c2 : Cells w3 (B + 2) (rw16 fun _ => 0) 155 := by rw [hw3, ← hB2]; exact Cells.new w2 _ 155
  have bel : Below B w w3 := by
    rw [hw3, hw2]
    refine Below.alloc (Below.alloc ?_ (by rw [hB1]; omega) _) (by rw [← hw2, hB2]; omega) _
    rw [hw1, ← hB]; exact (Below.refl _ w).alloc (Nat.le_refl _) _
  obtain ⟨R, hR⟩ : ∃ R, rw16 f = R := ⟨_, rfl⟩
  rw [hR] at hw1 ⊢
  have hRs : R.size = 16 := by rw [← hR]; exact rw16_size _
  have AW : Aside (Cells w3 B (rw16 f) 155 ∧ Cells w3 (B + 1) (rw16 fun _ => 0) 155 ∧ Cells w3 (B + 2) (rw16 fun _ => 0) 155 ∧ Below B w w3 ∧ w.heap.size = B) := ⟨c0, c1, c2, bel, hB⟩
  clear c0 c1 c2 bel hR
  have hz : ∀ w', (zeroValue 155).run Tryz.prog w' = .ok (.agg (rw16 fun _ => 0)) w' := fun w' => by kernel_rfl
  go_enter Tryz.func109, Tryz.ntmps109
  go_upto_region 2 with fail
  rw [← hw1, ← hw2, ← hw3]
  clear hw1 hw2 hw3 hB hB1 hB2
  go_wp2_with fail
  go_loopg [4] 14 (fun g sl wr => ∃ (n : Nat), sl = .int .i64 ((n + 2 : Nat) : Int) ∧ Aside (n + g = 14 ∧ Cells wr B (rw16 f) 155 ∧ Cells wr (B + 1) (rw16 fun _ => 0) 155 ∧ Cells wr (B + 2) (rw16 fun j => if j < n + 2 then frs f j else 0) 155 ∧ Below B w wr))
  case atStart =>
    refine ⟨0, rfl, ⟨by omega, AW.out.1, AW.out.2.1, ?_, AW.out.2.2.2.1⟩⟩
    have e : (rw16 fun j => if j < 0 + 2 then frs f j else 0) = rw16 fun _ => 0 := rw16_congr fun j _ => by
      split
      · unfold frs
        rcases (show j = 0 ∨ j = 1 by omega) with rfl | rfl <;> rfl
      · rfl
    rw [e]; exact AW.out.2.2.1
  case round =>
    obtain ⟨n, rfl, hI⟩ := hrel
    by_cases hn : n < 14
    · obtain ⟨l, hl⟩ : ∃ l, n + 2 = l := ⟨_, rfl⟩
      rw [hl]
      have hl15 : (l : Int) ≤ 15 := by omega
      have hl2 : (2 : Int) ≤ l := by omega
      obtain ⟨k, hk⟩ : ∃ k, n + 1 = k := ⟨_, rfl⟩
      have elk : (l : Int) - 1 = (k : Int) := by omega
      obtain ⟨q, hq⟩ : ∃ q, f k = q := ⟨_, rfl⟩
      obtain ⟨r, hr⟩ : ∃ r, frs f k = r := ⟨_, rfl⟩
      have hqb : q ≤ 320 := by rw [← hq]; exact hf _
      have hrb : r ≤ 20971520 := by rw [← hr]; unfold frs; rw [if_neg (by omega)]; have := psum_cell hf (k - 1) (by omega); omega
      have cq : wr.cell? ⟨B, k, none⟩ = some (.int .u32 (q : Int)) := by rw [hI.out.2.1.cell, rw16_at _ _ (by omega), hq]
      have cr : wr.cell? ⟨B + 2, k, none⟩ = some (.int .u32 (r : Int)) := by rw [hI.out.2.2.2.1.cell, rw16_at _ _ (by omega), if_pos (by omega), hr]
      have fq := hI.out.2.2.2.1.frozen l
      have hnx : Aside (frs f l = 2 * (r + q) ∧ n < 14 ∧ n + 2 = l) := by
        refine ⟨?_, hn, hl⟩
        rw [← hr, ← hq, ← hl, ← hk]
        unfold frs
        rw [if_neg (by omega), if_neg (by omega), show n + 2 - 1 = n + 1 by omega, psum, show n + 1 - 1 = n by omega]
        omega
      have hcell : ∃ v, wr.cell? ⟨B + 2, l, none⟩ = some v := ⟨_, by rw [hI.out.2.2.2.1.cell, rw16_at _ _ (by omega)]⟩
      obtain ⟨v, hv⟩ := hcell
      clear hq hr hl hk
      have hwr : ∀ z : Int, (z = (l : Int) - 1) → IntKind.i64.wrap z = (k : Int) := by
        intro z hz
        rw [hz, elk, IntKind.wrap_i64]; omega
      go_upto_region 5 with fail
      go_region
      go_wp2_with fail
      go_roundg (14 - (n + 1))
      case measure => have := hI.out.1; have := hnx.out.2.1; omega
      case rel =>
        refine ⟨n + 1, by have := hnx.out.2.2; subst this; go_num, ⟨by have := hnx.out.2.1; omega, ?_, ?_, ?_, ?_⟩⟩
        · exact (hI.out.2.1.only ((Only.refl (B + 2) wr).setCell l _) (by omega)).drew
        · exact (hI.out.2.2.1.only ((Only.refl (B + 2) wr).setCell l _) (by omega)).drew
        · have := hI.out.2.2.2.1.set l (.int .u32 ((2 * (r + q) : Nat) : Int))
          rw [rw16_set] at this
          have e : (rw16 fun j => if j = l then 2 * (r + q) else if j < n + 2 then frs f j else 0) = rw16 fun j => if j < n + 1 + 2 then frs f j else 0 := rw16_congr fun j _ => by
            have := hnx.out.2.2
            by_cases e : j = l
            · rw [if_pos e, if_pos (by omega), e, hnx.out.1]
            · rw [if_neg e]
              by_cases h2 : j < n + 2
              · rw [if_pos h2, if_pos (by omega)]
              · rw [if_neg h2, if_neg (by omega)]
          rw [e] at this
          have := this.drew
          push_cast at this
          exact this
        · exact (hI.out.2.2.2.2.setCell (p := ⟨B + 2, l, none⟩) (by show B ≤ B + 2; omega) _).drew
    · have hn14 : n = 14 := by have := hI.out.1; omega
      subst hn14
      have hc0 := hI.out.2.2.1
      have hc1 := hI.out.2.2.2.1
      have e : (rw16 fun j => if j < 14 + 2 then frs f j else 0) = rw16 (frs f) := rw16_congr fun j hj => if_pos (by omega)
      rw [e] at hc1
      have hc := set_row hc0 (rw16 (frs f))
      have hbel := hI.out.2.2.2.2.trans ((only_row hc0 (rw16 (frs f))).below (by omega))
      have AC : Aside (Cells (wr.setRow (B + 1) (rw16 (frs f))) (B + 1) (rw16 (frs f)) 155 ∧ Below B w (wr.setRow (B + 1) (rw16 (frs f)))) := ⟨hc, hbel⟩
      clear hI hc hbel e hn
      go_wp2_with (first
        | (refine wpList_load_row rfl 155 (.tmp 3) rfl (B + 2) rfl 155 _ (0, 0) _ hc1 Tryz.underlying155 rfl (by rw [rw16_size]; exact size59) ?_)
        | (refine wpList_store_row rfl 155 (.tmp 2) (.tmp 21) rfl (B + 1) (rw16 (frs f)) rfl rfl 155 (rw16 fun _ => 0) hc0 (by rw [rw16_size]; exact size59) rfl (rw16_one _) ?_))
      (try simp only [Exit.inBlock, Exit.then])
      refine bodyPost_ret (v := .agg (rw16 (frs f))) ?_ rfl ?_
      · exact results_cell_row rfl _ _ (B + 1) 155 _ (0, 0) _ rfl AC.out.1 Tryz.underlying155 rfl (by rw [rw16_size]; exact size59)
      · exact ⟨rfl, by rw [AW.out.2.2.2.2]; exact AC.out.2⟩
set_option maxRecDepth 100000 in
set_option maxHeartbeats 2000000 in
theorem kraft_c (a : Option Addr) (zs : List Int) (L C r : Nat) (ok : Bool) (w : World) (h : Lens w a zs) (hL : zs.length = L) (hLb : L < 140737488355328) (hr : (Okl zs ∧ r = kr (lens zs) ∧ ok = true) ∨ (¬ Okl zs ∧ r = 0 ∧ ok = false)) :
    Calls Tryz.prog 114 #[.slice a L C] w fun e w' => e = .returned (.tuple #[.int .i64 (r : Int), .bool ok]) ∧ Below w.heap.size w w' := by
  obtain ⟨f, hf, hfb, hfs⟩ : ∃ f : Nat → Nat, ((Okl zs ∧ (f = fun j => (lens zs).count j) ∧ ok = true) ∨ (¬ Okl zs ∧ (f = fun _ => 0) ∧ ok = false)) ∧ (∀ j, f j ≤ 320) ∧ psum f 15 = r := by
    rcases hr with ⟨h1, h2, h3⟩ | ⟨h1, h2, h3⟩
    · refine ⟨fun j => (lens zs).count j, Or.inl ⟨h1, rfl, h3⟩, fun j => ?_, ?_⟩
      · have e1 := List.count_le_length (a := j) (l := lens zs)
        have e2 : (lens zs).length ≤ 320 := by unfold lens; rw [List.length_map]; exact h1.1
        exact Nat.le_trans e1 e2
      · rw [psum_part, h2, kr_part]
        intro l hl
        unfold lens at hl
        obtain ⟨z, hz, rfl⟩ := List.mem_map.1 hl
        have := h1.2 z hz
        omega
    · exact ⟨fun _ => 0, Or.inr ⟨h1, rfl, h3⟩, fun _ => Nat.zero_le _, by rw [psum_zero, h2]⟩
  have hcount := count_c a zs L C f ok w h hL hLb hf
  have hsum : ∀ u, Calls Tryz.prog 119 #[.agg (rw16 f)] u fun e w' => e = .returned (.int .i64 (r : Int)) ∧ Below u.heap.size u w' := fun u => by have := sum_c f hfb u; rw [hfs] at this; exact this
  obtain ⟨R, hR⟩ : ∃ R, rw16 f = R := ⟨_, rfl⟩
  rw [hR] at hcount hsum
  have hRs : R.size = 16 := by rw [← hR]; exact rw16_size _
  have hR1 : R.all (·.oneCell') = true := by rw [← hR]; exact rw16_one _
  have hz : ∀ w', (zeroValue 155).run Tryz.prog w' = .ok (.agg (rw16 fun _ => 0)) w' := fun w' => by kernel_rfl
  clear h hL hLb hr hf hfb hfs hR
  go_enter Tryz.func114, Tryz.ntmps114
  go_upto_region 2 with (first
    | (go_at_call 107; refine hcount.mono ?_; rintro e2 w2 ⟨rfl, hb2⟩
       have c2 := Cells.new w2 (rw16 fun _ => 0) 155
       have b2 : Aside (Below w.heap.size w w2) := hb2
       clear hb2)
    | (refine wpList_store_row rfl 155 (.tmp 4) (.tmp 9) rfl w2.heap.size R rfl rfl 155 (rw16 fun _ => 0) c2 (by rw [hRs]; exact size59) (by rw [hRs]; rfl) hR1 ?_))
  have c3 := set_row c2 R
  have b3 : Aside (Below w.heap.size w ((w2.alloc (.cells (rw16 fun _ => 0) 155)).setRow w2.heap.size R)) := (b2.out.alloc b2.out.size _).trans ((only_row c2 R).below b2.out.size)
  obtain ⟨w3, hw3⟩ : ∃ w3, w3 = (w2.alloc (.cells (rw16 fun _ => 0) 155)).setRow w2.heap.size R := ⟨_, rfl⟩
  rw [← hw3] at c3 b3 ⊢
  obtain ⟨D, hD⟩ : ∃ D, w2.heap.size = D := ⟨_, rfl⟩
  rw [hD] at c3 ⊢
  clear c2 hw3 hD b2
  go_wp2_with (first
    | (refine wpList_load_row rfl 155 (.tmp 4) rfl D rfl 155 _ (0, 0) _ c3 Tryz.underlying155 rfl (by rw [hRs]; exact size59) ?_)
    | (go_at_call 119; refine (hsum _).mono ?_; rintro e4 w4 ⟨rfl, hb4⟩))
  first | go_ret | go_ret2
  exact ⟨rfl, b3.out.trans (hb4.mono b3.out.size)⟩
end Go.Proofs.YtogednaamndpgaaGreatDoor

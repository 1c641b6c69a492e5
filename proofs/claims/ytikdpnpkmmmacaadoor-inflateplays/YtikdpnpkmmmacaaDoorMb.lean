/-
  Own texts of this seat, one behind the other: what each says stands ahead of it.
-/
import Derived.Test.YtikdpnpkmmmacaaDoorMa
import Derived.OwnWalk
import Derived.BigQuiet
import Derived.Test.YtikdpnpkmmmacaaDoorProg
import Derived.WalkSpells
import Derived.OpenShut
import Derived.WalkMore
import Derived.ScopeJumps
import Derived.Deep.QuietTactic
/-
  What the document's New comes to: an error, or the table of the lengths' codes.
  Conditions: the lengths lie in memory.
-/
namespace Go.Proofs.YtikdpnpkmmmacaaDoor
open Go.RowKit
set_option linter.unusedVariables false
def used (ls : List Nat) : Nat := ls.countP fun l => decide (0 < l)
/-- Codes that leave room, and more than one, or not of one bit. -/
def Under (ls : List Nat) : Prop := kr ls < 32768 ∧ 0 < used ls ∧ (1 < used ls ∨ ls.count 1 ≠ 1)
instance (ls : List Nat) : Decidable (Under ls) := by unfold Under; infer_instance
instance (zs : List Int) : Decidable (Okl zs) := by unfold Okl; infer_instance
/-- New's error. -/
def nerr (zs : List Int) : Nat := if ¬ Okl zs then 2 else if 32768 < kr (lens zs) then 80 else if Under (lens zs) then 81 else 0
theorem nerr_ok {zs : List Int} (h : nerr zs = 0) : Okl zs ∧ kr (lens zs) ≤ 32768 ∧ ¬ Under (lens zs) := by
  unfold nerr at h
  split at h
  · omega
  · rename_i h1
    split at h
    · omega
    · rename_i h2
      split at h
      · omega
      · rename_i h3
        exact ⟨Decidable.not_not.1 h1, by omega, h3⟩
theorem lens_15 {zs : List Int} (h : Okl zs) : ∀ l ∈ lens zs, l ≤ 15 := by
  intro l hl
  obtain ⟨z, hz, rfl⟩ := List.mem_map.1 hl
  have := h.2 z hz; omega
theorem lens_at {zs : List Int} (h : Okl zs) {i l : Nat} (hl : (lens zs)[i]? = some l) : zs[i]? = some (l : Int) := by
  unfold lens at hl
  rw [List.getElem?_map] at hl
  cases hz : zs[i]? with
  | none => rw [hz] at hl; simp at hl
  | some z =>
    rw [hz] at hl
    have e : z.toNat = l := by simpa using hl
    have := h.2 z (List.mem_of_getElem? hz)
    congr 1; omega
theorem lens_len (zs : List Int) : (lens zs).length = zs.length := by simp [lens]
set_option maxRecDepth 100000 in
set_option maxHeartbeats 2000000 in
theorem rnew_arg (a : Option Addr) (zs : List Int) (L C : Nat) (w : World) (h : Lens w a zs) (hL : zs.length = L) (hLb : L < 140737488355328) (he : ¬ Okl zs) :
    Calls Tryd.prog 26 #[.slice a L C] w fun e w' => e = .returned (.tuple #[.pointer none, .int .i64 2]) ∧ w = w' := by
  have hk := rkraft_c a zs L C 0 false w h hL hLb (Or.inr ⟨he, rfl, rfl⟩)
  clear h hL hLb he
  go_enter Tryd.func26, Tryd.ntmps26
  go_wp2_with (go_at_call 45; refine hk.mono ?_; rintro e2 w2 ⟨rfl, rfl⟩)
  first | go_ret | go_ret2
  exact ⟨rfl, rfl⟩
set_option maxRecDepth 100000 in
set_option maxHeartbeats 2000000 in
theorem rnew_over (a : Option Addr) (zs : List Int) (L C : Nat) (w : World) (h : Lens w a zs) (hL : zs.length = L) (hLb : L < 140737488355328) (ho : Okl zs) (he : 32768 < kr (lens zs)) :
    Calls Tryd.prog 26 #[.slice a L C] w fun e w' => e = .returned (.tuple #[.pointer none, .int .i64 80]) ∧ w = w' := by
  obtain ⟨r, hr⟩ : ∃ r, kr (lens zs) = r := ⟨_, rfl⟩
  have hk := rkraft_c a zs L C r true w h hL hLb (Or.inl ⟨ho, hr.symm, rfl⟩)
  have h1 : (32768 : Int) < (r : Int) := by omega
  clear h hL hLb he ho hr
  go_enter Tryd.func26, Tryd.ntmps26
  go_wp2_with (go_at_call 45; refine hk.mono ?_; rintro e2 w2 ⟨rfl, rfl⟩)
  first | go_ret | go_ret2
  exact ⟨rfl, rfl⟩
theorem used_snoc (ls : List Nat) (l : Nat) : used (ls ++ [l]) = used ls + (if 0 < l then 1 else 0) := by
  unfold used
  rw [List.countP_append, List.countP_cons, List.countP_nil]
  by_cases h : 0 < l <;> simp [h]
theorem count_snoc (ls : List Nat) (l m : Nat) : (ls ++ [l]).count m = ls.count m + (if l = m then 1 else 0) := by
  rw [List.count_append, List.count_cons, List.count_nil]
  by_cases h : l = m <;> simp [h]
theorem used_le (ls : List Nat) : used ls ≤ ls.length := List.countP_le_length
set_option maxRecDepth 100000 in
set_option maxHeartbeats 8000000 in
theorem rnew_rest (a : Option Addr) (zs : List Int) (L C : Nat) (w : World) (h : Lens w a zs) (hL : zs.length = L) (ho : Okl zs) (hk0 : kr (lens zs) ≤ 32768) :
    Calls Tryd.prog 26 #[.slice a L C] w fun e w' => (Under (lens zs) ∧ e = .returned (.tuple #[.pointer none, .int .i64 81]) ∧ w = w') ∨ (¬ Under (lens zs) ∧ ∃ T, e = .returned (.tuple #[.pointer (some ⟨T, 0, none⟩), .int .i64 0]) ∧ Tb w' T (lens zs) ∧ Below w.heap.size w w' ∧ ∀ u, (∀ k, w.heap.size ≤ k → k < w'.heap.size → u.heap[k]? = w'.heap[k]?) → Tb u T (lens zs)) := by
  obtain ⟨r, hr⟩ : ∃ r, kr (lens zs) = r := ⟨_, rfl⟩
  have hk := rkraft_c a zs L C r true w h hL (by have := ho.1; omega) (Or.inl ⟨ho, hr.symm, rfl⟩)
  have h1 : ¬ (32768 : Int) < (r : Int) := by omega
  have AH : Aside (Lens w a zs ∧ zs.length = L ∧ Okl zs ∧ kr (lens zs) ≤ 32768 ∧ kr (lens zs) = r ∧ L ≤ 320 ∧ (lens zs).length = L ∧ part (lens zs) 15 ≤ 32768) := ⟨h, hL, ho, hk0, hr, by have := ho.1; omega, by rw [lens_len]; exact hL, by rw [← kr_part (lens_15 ho)]; exact hk0⟩
  have hLs : (L : Int) ≤ 320 := by have := AH.out; omega
  clear h hL ho hk0 hr
  go_enter Tryd.func26, Tryd.ntmps26
  go_upto_region 7 with (go_at_call 45; refine hk.mono ?_; rintro e2 w2 ⟨rfl, rfl⟩)
  clear hk h1
  go_wp2_with fail
  go_loopg [6, 7, 8] L (fun g su so si wr => ∃ (u o i : Nat), su = .int .i64 u ∧ so = .int .i64 o ∧ si = .int .i64 i ∧ Aside (i + g = L ∧ u = used ((lens zs).take i) ∧ o = ((lens zs).take i).count 1) ∧ w = wr)
  case atStart => exact ⟨0, 0, 0, rfl, rfl, rfl, ⟨by omega, rfl, rfl⟩, rfl⟩
  case round =>
    obtain ⟨u, o, i, rfl, rfl, rfl, hI, hw⟩ := hrel
    subst hw
    by_cases hiL : i < L
    · have hi : (i : Int) < (L : Int) := by omega
      obtain ⟨l, hl⟩ : ∃ l, (lens zs)[i]? = some l := ⟨_, List.getElem?_eq_getElem (by have := AH.out; omega)⟩
      have hz := lens_at AH.out.2.2.1 hl
      rcases AH.out.1 with e | ⟨b, o1, rfl, hc⟩
      · rw [e] at hz; simp at hz
      have cz := hc i _ hz
      have hub : u ≤ 320 ∧ o ≤ 320 := by
        have h2 := used_le ((lens zs).take i)
        have h3 := List.count_le_length (a := 1) (l := (lens zs).take i)
        have h4 : ((lens zs).take i).length ≤ 320 := by rw [List.length_take]; have := AH.out; omega
        have := hI.out
        omega
      have AZ : Aside (i < L ∧ (lens zs).take (i + 1) = (lens zs).take i ++ [l] ∧ u ≤ 320 ∧ o ≤ 320) := ⟨hiL, take_one hl, hub⟩
      have hub1 : (u : Int) ≤ 320 := by omega
      have hub2 : (o : Int) ≤ 320 := by omega
      clear hc hz hl hiL hub
      by_cases hl1 : l = 1
      · subst hl1
        go_wp2_with fail
        have h1 := hI.out; have h2 := AZ.out
        go_roundg (L - (i + 1))
        case measure => omega
        case rel => exact ⟨u + 1, o + 1, i + 1, by go_num, by go_num, by go_num, ⟨by omega, by rw [h2.2.1, used_snoc, h1.2.1]; rfl, by rw [h2.2.1, count_snoc, h1.2.2]; rfl⟩, rfl⟩
      · by_cases hl0 : l = 0
        · subst hl0
          go_wp2_with fail
          have h1 := hI.out; have h2 := AZ.out
          go_roundg (L - (i + 1))
          case measure => omega
          case rel => exact ⟨u, o, i + 1, rfl, rfl, by go_num, ⟨by omega, by rw [h2.2.1, used_snoc, h1.2.1]; rfl, by rw [h2.2.1, count_snoc, h1.2.2]; rfl⟩, rfl⟩
        · have t1 : (0 : Int) < (l : Int) := by omega
          have t2 : ¬ (l : Int) = 1 := by omega
          have t3 : ((l : Int) == 1) = false := by rw [beq_eq_false_iff_ne]; exact t2
          have AL : Aside (0 < l ∧ l ≠ 1) := ⟨by omega, hl1⟩
          clear hl0 hl1
          go_wp2_with fail
          have h1 := hI.out; have h2 := AZ.out; have h3 := AL.out
          go_roundg (L - (i + 1))
          case measure => omega
          case rel => exact ⟨u + 1, o, i + 1, by go_num, rfl, by go_num, ⟨by omega, by rw [h2.2.1, used_snoc, h1.2.1, if_pos h3.1], by rw [h2.2.1, count_snoc, h1.2.2, if_neg h3.2]; rfl⟩, rfl⟩
    · have hi : ¬ (i : Int) < (L : Int) := by omega
      have AF : Aside (u = used (lens zs) ∧ o = (lens zs).count 1) := by
        have e : (lens zs).take i = lens zs := List.take_of_length_le (by have := AH.out; omega)
        have := hI.out; rw [e] at this
        exact this.2
      clear hiL hI
      obtain ⟨U, hU⟩ : ∃ U : Bool, decide (Under (lens zs)) = U := ⟨_, rfl⟩
      have AU : Aside (decide (Under (lens zs)) = U) := hU
      have hUr : U = decide (r < 32768 ∧ 0 < u ∧ (1 < u ∨ o ≠ 1)) := by
        rw [← hU]
        apply decide_eq_decide.2
        unfold Under
        rw [AH.out.2.2.2.2.1, AF.out.1, AF.out.2]
      clear hU
      go_upto_region 14 with fail
      go_cut [58] (fun s58 wc => s58 = .bool U ∧ w = wc)
      case first =>
        by_cases hr : r < 32768
        · obtain ⟨lim, hlim⟩ : ∃ lim : Int, lim = 32768 := ⟨_, rfl⟩
          have r1 : ((r : Int) < 32768) = True := eq_true (by omega)
          have r2 : (r < 32768) = True := eq_true hr
          clear hlim
          by_cases hu0 : 0 < u
          · have u0 : (0 : Int) < (u : Int) := by omega
            by_cases hu1 : 1 < u
            · have u1 : (1 : Int) < (u : Int) := by omega
              have e : U = true := by rw [hUr]; exact decide_eq_true ⟨hr, hu0, Or.inl hu1⟩
              subst e
              clear hUr hr hu0 hu1
              go_wp2_with fail
              go_meet
              exact ⟨rfl, rfl⟩
            · have u1 : ¬ (1 : Int) < (u : Int) := by omega
              by_cases ho : o = 1
              · have e : U = false := by rw [hUr]; exact decide_eq_false (by omega)
                subst e
                subst ho
                clear hUr hr hu0 hu1
                go_wp2_with fail
                go_meet
                exact ⟨rfl, rfl⟩
              · have o1 : ¬ (o : Int) = 1 := by omega
                have o2 : ((o : Int) != 1) = true := by rw [bne_iff_ne]; exact o1
                have e : U = true := by rw [hUr]; exact decide_eq_true ⟨hr, hu0, Or.inr ho⟩
                subst e
                clear hUr hr hu0 hu1 ho
                go_wp2_with fail
                go_meet
                exact ⟨rfl, rfl⟩
          · have u0 : ¬ (0 : Int) < (u : Int) := by omega
            have e : U = false := by rw [hUr]; exact decide_eq_false (by omega)
            subst e
            clear hUr hr hu0
            go_wp2_with fail
            go_meet
            exact ⟨rfl, rfl⟩
        · have r1 : ¬ (r : Int) < 32768 := by omega
          have e : U = false := by rw [hUr]; exact decide_eq_false (by omega)
          subst e
          clear hUr hr
          go_wp2_with fail
          go_meet
          exact ⟨rfl, rfl⟩
      case rest =>
        obtain ⟨rfl, rfl⟩ := hcut
        clear hUr
        cases U with
        | true =>
          go_wp2_with fail
          first | go_ret | go_ret2
          exact Or.inl ⟨of_decide_eq_true AU.out, rfl, rfl⟩
        | false =>
          obtain ⟨g, hg⟩ : ∃ g, w.heap.size = g := ⟨_, rfl⟩
          have hmk := made_rows L (by have := AH.out; omega) w
          rw [hg] at hmk
          obtain ⟨wa, hwa⟩ : ∃ wa, wa = w.alloc (.cells (Array.replicate L (Value.slice none 0 0)) 92) := ⟨_, rfl⟩
          have hsa : wa.heap.size = g + 1 := by rw [hwa, ← hg]; show (w.heap.push _).size = _; simp
          obtain ⟨wb, hwb⟩ : ∃ wb, wb = wa.alloc (.cells #[.slice (some ⟨g, 0, none⟩) L L] 91) := ⟨_, rfl⟩
          have A0 : Aside (Tl w wb (g + 1) g (lens zs) 1 0) := by
            have ba : Below w.heap.size w wa := by rw [hwa]; exact (Below.refl _ w).alloc (Nat.le_refl _) _
            have bb : Below wa.heap.size wa wb := by rw [hwb]; exact (Below.refl _ wa).alloc (Nat.le_refl _) _
            refine ⟨?_, ⟨_, Cells.below (w := wa) (by rw [hwa, ← hg]; exact Cells.new w _ 92) bb (by omega), by simp [AH.out.2.2.2.2.2.2.1], fun j m hj => ⟨fun hc => by omega, fun _ => ?_⟩⟩, ba.trans (bb.mono ba.size), by omega, by omega⟩
            · rw [hwb, ← hsa, AH.out.2.2.2.2.2.2.1]; exact Cells.new wa _ 91
            · have := (List.getElem?_eq_some_iff.1 hj).1
              rw [AH.out.2.2.2.2.2.2.1] at this
              simp [this]
          go_upto_region 17 with fail
          rw [← hwa, ← hwb]
          clear hwb hmk hwa hsa hg AF
          go_wp2_with fail
          go_loopg [10, 11] 15 (fun gg sx sn wr => ∃ (nx n : Nat), sx = .int .i64 nx ∧ sn = .int .i64 n ∧ Aside (n + gg = 16 ∧ 1 ≤ n ∧ nx = part (lens zs) (n - 1) ∧ Tl w wr (g + 1) g (lens zs) n 0))
          case atStart => exact ⟨0, 1, rfl, rfl, ⟨by omega, by omega, rfl, A0.out⟩⟩
          case round =>
            obtain ⟨nx, n, rfl, rfl, hN⟩ := hrel
            by_cases hn15 : n ≤ 15
            · have hn : (n : Int) ≤ 15 := by omega
              have hnb : nx ≤ 32768 := by
                have h2 := part_fits (ls := lens zs) AH.out.2.2.2.2.2.2.2 (n := n - 1) (by omega)
                have h3 : (2 : Nat) ^ (n - 1) ≤ 2 ^ 15 := Nat.pow_le_pow_right (by decide) (by omega)
                have := hN.out.2.2.1
                omega
              have hnb1 : (nx : Int) ≤ 32768 := by omega
              have AN : Aside (n ≤ 15 ∧ 1 ≤ n ∧ nx + nx = first (lens zs) n) := ⟨hn15, hN.out.2.1, by
                obtain ⟨q, rfl⟩ : ∃ q, n = q + 1 := ⟨n - 1, by have := hN.out; omega⟩
                have := hN.out.2.2.1
                rw [show q + 1 - 1 = q by omega] at this
                show _ = 2 * part (lens zs) q
                omega⟩
              clear hnb hn15
              go_upto_region 22 with fail
              obtain ⟨f0, hf0⟩ : ∃ f0, nx + nx = f0 := ⟨_, rfl⟩
              rw [show (2 * (nx : Int)) = (f0 : Int) by omega]
              have AF : Aside (f0 = first (lens zs) n ∧ f0 ≤ 65536) := ⟨by rw [← hf0]; exact AN.out.2.2, by omega⟩
              clear hf0 hnb1
              go_wp2_with fail
              go_loopg [10, 12] L (fun gg sx si wr => ∃ (x i : Nat), sx = .int .i64 x ∧ si = .int .i64 i ∧ Aside (i + gg = L ∧ x = f0 + ((lens zs).take i).count n ∧ Tl w wr (g + 1) g (lens zs) n i))
              case atStart => exact ⟨f0, 0, rfl, rfl, ⟨by omega, by simp, hN.out.2.2.2⟩⟩
              case round =>
                obtain ⟨x, i, rfl, rfl, hI⟩ := hrel
                by_cases hiL : i < L
                · have hi : (i : Int) < (L : Int) := by omega
                  obtain ⟨l, hl⟩ : ∃ l, (lens zs)[i]? = some l := ⟨_, List.getElem?_eq_getElem (by have := AH.out; omega)⟩
                  have hz := lens_at AH.out.2.2.1 hl
                  rcases AH.out.1 with e | ⟨b0, o0, rfl, hc⟩
                  · rw [e] at hz; simp at hz
                  have cz0 := hc i _ hz
                  have cz : wr.cell? ⟨b0, o0 + i, none⟩ = some (.int .i64 (l : Int)) := (hI.out.2.2.bel.cell (p := ⟨b0, o0 + i, none⟩) (World.block_lt_of_cell? w ⟨b0, o0 + i, none⟩ cz0)).trans cz0
                  have AZ : Aside (i < L ∧ (lens zs)[i]? = some l) := ⟨hiL, hl⟩
                  have hib : (i : Int) < 320 := by omega
                  clear hc hz hl hiL cz0
                  by_cases hln : l = n
                  · subst hln
                    obtain ⟨c, hcx⟩ : ∃ c, code (lens zs) i l = c := ⟨_, rfl⟩
                    have hxc : x = c := by rw [hI.out.2.1, ← hcx, AF.out.1]; rfl
                    subst hxc
                    have hxb : x < 32768 := by
                      have h2 := code_fits AH.out.2.2.2.2.2.2.2 AZ.out.2 (by have := AN.out; omega) AN.out.1
                      have h3 : (2 : Nat) ^ l ≤ 2 ^ 15 := Nat.pow_le_pow_right (by decide) AN.out.1
                      omega
                    have hxb1 : (x : Int) ≤ 32768 := by omega
                    obtain ⟨b, hb⟩ : ∃ b, wr.heap.size = b := ⟨_, rfl⟩
                    obtain ⟨wc, hwc⟩ : ∃ wc, wc = wr.alloc (.cells (vb (List.replicate l false)).toArray 4) := ⟨_, rfl⟩
                    have AC : Aside (code (lens zs) i l = x ∧ x < 32768 ∧ (∀ u, Only b wc u → Tl w u (g + 1) g (lens zs) l i) ∧ Bb wc b (List.replicate l false) ∧ w.heap.size ≤ b) := by
                      refine ⟨hcx, hxb, fun u hu => hI.out.2.2.below (((Below.refl _ wr).alloc (Nat.le_refl _) _).trans (hwc ▸ hu.below (Nat.le_of_eq hb))), ?_, by rw [← hb]; exact hI.out.2.2.bel.size⟩
                      unfold Bb
                      rw [hwc, ← hb]; exact Cells.new wr _ 4
                    have hmk := made_bools l (by have := AN.out; omega) wr
                    rw [hb] at hmk
                    have hn0 : (0 : Int) ≤ (l : Int) := by omega
                    clear hcx hxb
                    go_upto_region 28 with fail
                    rw [← hwc]
                    clear hmk hwc hb
                    go_wp2_with fail
                    go_loopg [14, 15] l (fun gg sx sk wr => ∃ (y j : Nat), sx = .int .i64 y ∧ sk = .int .i64 ((j : Int) - 1) ∧ Aside (j = gg ∧ j ≤ l ∧ y = x / 2 ^ (l - j) ∧ Bb wr b (List.replicate j false ++ (bitsB l x).drop j) ∧ Only b wc wr))
                    case atStart => exact ⟨x, l, rfl, rfl, ⟨rfl, Nat.le_refl _, by rw [Nat.sub_self, Nat.pow_zero, Nat.div_one], by rw [List.drop_eq_nil_of_le (by rw [bitsB_len]; exact Nat.le_refl _), List.append_nil]; exact AC.out.2.2.2.1, Only.refl _ _⟩⟩
                    case round =>
                      obtain ⟨y, j, rfl, hsk, hJ⟩ := hrel
                      by_cases hj0 : 0 < j
                      · obtain ⟨q, rfl⟩ : ∃ q, j = q + 1 := ⟨j - 1, by omega⟩
                        rw [show ((q + 1 : Nat) : Int) - 1 = (q : Int) by omega] at hsk
                        subst hsk
                        have hq : (q : Int) < (l : Int) := by have := hJ.out; omega
                        have hyx : y ≤ x := by rw [hJ.out.2.2.1]; exact Nat.div_le_self _ _
                        have hyb : (y : Int) ≤ 32768 := by have := AC.out; omega
                        clear hyx
                        have hq0 : (0 : Int) ≤ (q : Int) := by omega
                        have hlen : q < (List.replicate (q + 1) false ++ (bitsB l x).drop (q + 1)).length := by rw [List.length_append, List.length_replicate]; omega
                        have cq : wr.cell? ⟨b, q, none⟩ = some (.bool false) := by
                          have h1 := Cells.cell hJ.out.2.2.2.1 q
                          rw [h1, List.getElem?_toArray, vb, List.getElem?_map, List.getElem?_append_left (by rw [List.length_replicate]; omega), List.getElem?_replicate, if_pos (by omega)]
                          rfl
                        have fq : wr.frozen? ⟨b, q, none⟩ = false := Cells.frozen hJ.out.2.2.2.1 q
                        obtain ⟨bt, hbt⟩ : ∃ bt : Bool, (y % 2 == 1) = bt := ⟨_, rfl⟩
                        have hbti : ((y : Int) % 2 == 1) = bt := by
                          rw [← hbt]
                          by_cases h : y % 2 = 1
                          · rw [h, beq_iff_eq.2 (show (y : Int) % 2 = 1 by omega)]; rfl
                          · rw [beq_eq_false_iff_ne.2 (show ¬ (y : Int) % 2 = 1 by omega), beq_eq_false_iff_ne.2 h]
                        have A5 : Aside (Bb (wr.setCell ⟨b, q, none⟩ (.bool bt)) b (List.replicate q false ++ (bitsB l x).drop q) ∧ Only b wc (wr.setCell ⟨b, q, none⟩ (.bool bt)) ∧ y / 2 = x / 2 ^ (l - q)) := by
                          have h1 := hJ.out
                          refine ⟨?_, h1.2.2.2.2.setCell q _, ?_⟩
                          · have h2 := h1.2.2.2.1.set q bt
                            have h3 := bits_row (n := l) (j := q + 1) (c := x) (by omega) h1.2.1
                            rw [← h1.2.2.1, show q + 1 - 1 = q by omega, hbt] at h3
                            rw [h3] at h2
                            exact h2
                          · rw [h1.2.2.1, Nat.div_div_eq_div_mul, show (2 : Nat) ^ (l - (q + 1)) * 2 = 2 ^ (l - q) by rw [← Nat.pow_succ]; congr 1; omega]
                        clear hlen hj0
                        go_upto_region 32 with fail
                        obtain ⟨wd, hwd⟩ : ∃ wd, wd = wr.setCell ⟨b, q, none⟩ (.bool bt) := ⟨_, rfl⟩
                        rw [← hwd] at A5 ⊢
                        clear cq fq hbt hbti hwd
                        go_wp2_with fail
                        have h1 := hJ.out; have h2 := A5.out
                        go_roundg q
                        case measure => omega
                        case rel => exact ⟨y / 2, q, by go_num, by go_num, ⟨rfl, by omega, h2.2.2, h2.1, h2.2.1⟩⟩
                      · have hj : j = 0 := by omega
                        subst hj
                        rw [show (((0 : Nat) : Int) - 1) = -1 by rfl] at hsk
                        subst hsk
                        have h2 := hJ.out.2.2.2.1
                        rw [List.replicate_zero, List.nil_append, List.drop_zero] at h2
                        have hT := AC.out.2.2.1 wr hJ.out.2.2.2.2
                        have hput := hT.put AZ.out.2 (by have := AN.out; omega) AC.out.2.2.2.2 (by rw [AC.out.1]; exact h2)
                        obtain ⟨rows, r1, r2, r3⟩ := hT.row
                        have cT : wr.cell? ⟨g + 1, 0, none⟩ = some (.slice (some ⟨g, 0, none⟩) L L) := by
                          have := Cells.cell hT.t 0
                          rw [AH.out.2.2.2.2.2.2.1] at this
                          exact this
                        have cR : wr.cell? ⟨g, i, none⟩ = some (.slice none 0 0) := by
                          rw [Cells.cell r1 i]
                          exact (r3 i l AZ.out.2).2 (by omega)
                        have fR : wr.frozen? ⟨g, i, none⟩ = false := Cells.frozen r1 i
                        have A7 : Aside (Tl w (wr.setCell ⟨g, i, none⟩ (.slice (some ⟨b, 0, none⟩) l l)) (g + 1) g (lens zs) l (i + 1)) := hput
                        have hxb2 : (x : Int) ≤ 32768 := by have := AC.out; omega
                        clear hput hT r1 r2 r3 h2 hj0
                        go_upto_region 34 with fail
                        obtain ⟨wd, hwd⟩ : ∃ wd, wd = wr.setCell ⟨g, i, none⟩ (.slice (some ⟨b, 0, none⟩) l l) := ⟨_, rfl⟩
                        rw [← hwd] at A7 ⊢
                        clear hwd cT cR fR
                        go_wp2_with fail
                        have h1 := hI.out; have h2 := AZ.out
                        go_roundg (L - (i + 1))
                        case measure => omega
                        case rel => exact ⟨x + 1, i + 1, by go_num, by go_num, ⟨by omega, by rw [rank_step h2.2 l, if_pos rfl]; omega, A7.out⟩⟩
                  · have t1 : ¬ (l : Int) = (n : Int) := by omega
                    have t2 : ((l : Int) != (n : Int)) = true := by rw [bne_iff_ne]; exact t1
                    have AL : Aside (l ≠ n) := hln
                    clear hln
                    go_wp2_with fail
                    have h1 := hI.out; have h2 := AZ.out; have h3 := AL.out
                    go_roundg (L - (i + 1))
                    case measure => omega
                    case rel => exact ⟨x, i + 1, rfl, by go_num, ⟨by omega, by rw [rank_step h2.2 n, if_neg h3]; exact h1.2.1, h1.2.2.skip h2.2 h3⟩⟩
                · have hi : ¬ (i : Int) < (L : Int) := by omega
                  have A8 : Aside (x = part (lens zs) n ∧ Tl w wr (g + 1) g (lens zs) (n + 1) 0) := by
                    have e : (lens zs).take i = lens zs := List.take_of_length_le (by have := AH.out; omega)
                    have h1 := hI.out
                    rw [e] at h1
                    refine ⟨?_, h1.2.2.next (by have := AH.out; omega)⟩
                    rw [h1.2.1, AF.out.1, first_le (lens zs) n (by have := AN.out; omega)]
                  have hnb2 : (n : Int) ≤ 15 := hn
                  clear hiL hI
                  go_wp2_with fail
                  have h1 := hN.out; have h2 := AN.out; have h3 := A8.out
                  go_roundg (16 - (n + 1))
                  case measure => omega
                  case rel => exact ⟨x, n + 1, rfl, by go_num, ⟨by omega, by omega, by rw [show n + 1 - 1 = n by omega]; exact h3.1, h3.2⟩⟩
            · have hn : ¬ (n : Int) ≤ 15 := by omega
              have A9 : Aside (Tb wr (g + 1) (lens zs) ∧ Below w.heap.size w wr ∧ ∀ u, (∀ k, w.heap.size ≤ k → k < wr.heap.size → u.heap[k]? = wr.heap[k]?) → Tb u (g + 1) (lens zs)) := by
                have e : n = 16 := by have := hN.out; omega
                have h4 := hN.out.2.2.2
                rw [e] at h4
                exact ⟨(h4.tb_ (lens_15 AH.out.2.2.1)).1, h4.bel, (h4.tb_ (lens_15 AH.out.2.2.1)).2⟩
              clear hn15
              go_wp2_with fail
              first | go_ret | go_ret2
              exact Or.inr ⟨of_decide_eq_false AU.out, _, rfl, A9.out⟩
end Go.Proofs.YtikdpnpkmmmacaaDoor

/-
  What the program's sum, check, firsts and Kraft come to, over rows of sixteen counts.
-/
namespace Go.Proofs.YtikdpnpkmmmacaaDoor
open Go.RowKit
set_option linter.unusedVariables false
/-- The sum of a row: what the codes of n bits or fewer take. -/
def psum (f : Nat → Nat) : Nat → Nat
  | 0 => 0
  | n + 1 => psum f n * 2 + f (n + 1)
theorem psum_part (ls : List Nat) : ∀ n, psum (fun j => ls.count j) n = part ls n
  | 0 => rfl
  | n + 1 => by rw [psum, part, psum_part ls n]; omega
theorem psum_zero : ∀ n, psum (fun _ => 0) n = 0
  | 0 => rfl
  | n + 1 => by rw [psum, psum_zero n]
theorem psum_le {f : Nat → Nat} (h : ∀ j, f j ≤ 320) : ∀ n, psum f n + 320 ≤ 320 * 2 ^ n
  | 0 => by simp [psum]
  | n + 1 => by
    have h1 := psum_le h n
    have h2 := h (n + 1)
    rw [psum, Nat.pow_succ]
    omega
theorem psum_step (f : Nat → Nat) (n : Nat) (h : n < 15) : psum f n * 2 ^ (15 - n) + f (n + 1) * 2 ^ (15 - (n + 1)) = psum f (n + 1) * 2 ^ (15 - (n + 1)) := by
  rw [psum, Nat.add_mul, show 15 - n = (15 - (n + 1)) + 1 by omega, Nat.pow_succ, Nat.mul_assoc, Nat.mul_comm 2]
theorem sw64_cast {n : Nat} (h : n < 9223372036854775808) : wrap64 (n : Int) = (n : Int) := by unfold wrap64; omega
theorem w64_nat {q d : Nat} (h : q * 2 ^ d < 9223372036854775808) : wrap64 ((q : Int) * 2 ^ d) = (q : Int) * 2 ^ d := by
  have e : (q : Int) * 2 ^ d = ((q * 2 ^ d : Nat) : Int) := by push_cast; rfl
  rw [e, sw64_cast h]
set_option maxRecDepth 100000 in
set_option maxHeartbeats 2000000 in
theorem sum_c (f : Nat → Nat) (hf : ∀ j, f j ≤ 320) (w : World) :
    Calls Tryd.prog 86 #[.agg (rw16 f)] w fun e w' => e = .returned (.int .i64 (psum f 15 : Nat)) ∧ Below w.heap.size w w' := by
  obtain ⟨B, hB⟩ : ∃ B, w.heap.size = B := ⟨_, rfl⟩
  obtain ⟨w1, hw1⟩ : ∃ w1, w1 = w.alloc (.cells (rw16 f) 127) := ⟨_, rfl⟩
  have c0 : Cells w1 B (rw16 f) 127 := by rw [hw1, ← hB]; exact Cells.new w _ 127
  have bel : Below B w w1 := by rw [hw1, ← hB]; exact (Below.refl _ w).alloc (Nat.le_refl _) _
  obtain ⟨R, hR⟩ : ∃ R, rw16 f = R := ⟨_, rfl⟩
  rw [hR] at hw1 ⊢
  have hRs : R.size = 16 := by rw [← hR]; exact rw16_size _
  have AW : Aside (Cells w1 B (rw16 f) 127 ∧ Below B w w1 ∧ w.heap.size = B ∧ rw16 f = R) := ⟨c0, bel, hB, hR⟩
  clear c0 bel hR
  go_enter Tryd.func86, Tryd.ntmps86
  go_upto_region 2 with fail
  rw [← hw1]
  clear hw1 hB
  go_wp2_with fail
  go_loopg [3, 4] 15 (fun g st sl wr => ∃ (n s : Nat), st = .int .i64 (s : Int) ∧ sl = .int .i64 ((n + 1 : Nat) : Int) ∧ Aside (n + g = 15 ∧ s = psum f n * 2 ^ (15 - n)) ∧ w1 = wr)
  case atStart => exact ⟨0, 0, rfl, rfl, ⟨by omega, by simp [psum]⟩, rfl⟩
  case round =>
    obtain ⟨n, s, rfl, rfl, hI, hw⟩ := hrel
    subst hw
    by_cases hn : n < 15
    · obtain ⟨q, hq⟩ : ∃ q, f (n + 1) = q := ⟨_, rfl⟩
      have hqb : q ≤ 320 := by rw [← hq]; exact hf _
      obtain ⟨l, hl⟩ : ∃ l, n + 1 = l := ⟨_, rfl⟩
      rw [hl]
      have hl15 : (l : Int) ≤ 15 := by omega
      have hl0 : (0 : Int) ≤ l := by omega
      have cq : w1.cell? ⟨B, l, none⟩ = some (.int .u32 (q : Int)) := by rw [AW.out.1.cell, rw16_at _ _ (by omega), ← hl, hq]
      have hbig : s + q * 2 ^ (15 - l) ≤ 320 * 2 ^ 15 := by
        have e1 := psum_step f n hn
        rw [hq, ← hI.out.2, hl] at e1
        rw [e1]
        have h2 := psum_le hf l
        have h3 : psum f l * 2 ^ (15 - l) ≤ (320 * 2 ^ l) * 2 ^ (15 - l) := Nat.mul_le_mul_right _ (by omega)
        rw [Nat.mul_assoc, ← Nat.pow_add, show l + (15 - l) = 15 by omega] at h3
        exact h3
      have hnx : Aside (s + q * 2 ^ (15 - l) = psum f l * 2 ^ (15 - l) ∧ n < 15 ∧ n + 1 = l) := by
        refine ⟨?_, hn, hl⟩
        have e1 := psum_step f n hn
        rw [hq, ← hI.out.2, hl] at e1
        exact e1
      obtain ⟨P, hP⟩ : ∃ P, 2 ^ (15 - l) = P := ⟨_, rfl⟩
      have hPI : (2 : Int) ^ (15 - (l : Int)).toNat = (P : Int) := by rw [← hP, show (15 - (l : Int)).toNat = 15 - l by omega]; push_cast; rfl
      clear hq
      go_wp2_with fail
      have e1 : wrap64 ((q : Int) * 2 ^ (15 - l)) = ((q * 2 ^ (15 - l) : Nat) : Int) := by
        rw [w64_nat (by omega)]
        · push_cast; rfl
      have e2 : wrap64 ((s : Int) + ((q * 2 ^ (15 - l) : Nat) : Int)) = ((s + q * 2 ^ (15 - l) : Nat) : Int) := by
        rw [← Int.natCast_add, sw64_cast (by omega)]
      rw [e1, e2]
      go_roundg (15 - (n + 1))
      case measure => have := hI.out.1; have := hnx.out.2.1; omega
      case rel =>
        refine ⟨n + 1, s + q * 2 ^ (15 - l), rfl, by have := hnx.out.2.2; subst this; go_num, ⟨by have := hnx.out.2.1; omega, ?_⟩, rfl⟩
        rw [hnx.out.1, hnx.out.2.2]
    · have hn15 : n = 15 := by have := hI.out.1; omega
      subst hn15
      have hs : s = psum f 15 := by have := hI.out.2; simpa using this
      clear hn hI
      go_wp2_with fail
      first | go_ret | go_ret2
      exact ⟨by rw [hs]; rfl, by rw [AW.out.2.2.1]; exact AW.out.2.1⟩
/-- What the check comes to. -/
def cerr (f : Nat → Nat) : Nat := if 32768 < psum f 15 then 80 else if psum f 15 = 32768 ∨ psum f 15 = 0 ∨ (psum f 15 = 16384 ∧ f 1 = 1) then 0 else 81
set_option maxRecDepth 100000 in
set_option maxHeartbeats 2000000 in
theorem check_c (f : Nat → Nat) (hf : ∀ j, f j ≤ 320) (e0 : Nat) (he : cerr f = e0) (w : World) :
    Calls Tryd.prog 78 #[.agg (rw16 f)] w fun e w' => e = .returned (.int .i64 (e0 : Int)) ∧ Below w.heap.size w w' := by
  obtain ⟨B, hB⟩ : ∃ B, w.heap.size = B := ⟨_, rfl⟩
  obtain ⟨w1, hw1⟩ : ∃ w1, w1 = w.alloc (.cells (rw16 f) 127) := ⟨_, rfl⟩
  have c0 : Cells w1 B (rw16 f) 127 := by rw [hw1, ← hB]; exact Cells.new w _ 127
  have bel : Below B w w1 := by rw [hw1, ← hB]; exact (Below.refl _ w).alloc (Nat.le_refl _) _
  have hB1 : w1.heap.size = B + 1 := by rw [hw1, ← hB]; exact Array.size_push _
  have hsum := sum_c f hf w1
  obtain ⟨s, hs⟩ : ∃ s, psum f 15 = s := ⟨_, rfl⟩
  obtain ⟨q, hq⟩ : ∃ q, f 1 = q := ⟨_, rfl⟩
  have hqb : q ≤ 320 := by rw [← hq]; exact hf 1
  have cq : (rw16 f)[1]? = some (.int .u32 (q : Int)) := by rw [rw16_at _ _ (by omega), hq]
  unfold cerr at he
  rw [hs, hq] at he
  rw [hs] at hsum
  obtain ⟨R, hR⟩ : ∃ R, rw16 f = R := ⟨_, rfl⟩
  rw [hR] at hw1 hsum c0 cq ⊢
  have hRs : R.size = 16 := by rw [← hR]; exact rw16_size _
  have AW : Aside (Cells w1 B R 127 ∧ Below B w w1 ∧ w.heap.size = B ∧ w1.heap.size = B + 1) := ⟨c0, bel, hB, hB1⟩
  have AE : Aside ((if 32768 < s then 80 else if s = 32768 ∨ s = 0 ∨ (s = 16384 ∧ q = 1) then 0 else 81) = e0) := he
  clear bel hR hB1 he hs hq
  go_enter Tryd.func78, Tryd.ntmps78
  go_upto_region 1 with fail
  rw [← hw1]
  clear hw1 hB
  go_upto_region 2 with (first
    | (refine wpList_load_row rfl 127 (.tmp 1) rfl B rfl 127 _ (0, 0) _ c0 Tryd.underlying127 rfl (by rw [hRs]; exact size59) ?_)
    | (go_at_call 86; refine hsum.mono ?_; rintro e2 w2 ⟨rfl, hb2⟩))
  have c1 : w2.cell? ⟨B, 1, none⟩ = some (.int .u32 (q : Int)) := ((AW.out.1.below hb2 (by rw [AW.out.2.2.2]; omega)).cell 1).trans cq
  have AB : Aside (Below B w w2) := AW.out.2.1.trans (hb2.mono (by rw [AW.out.2.2.2]; omega))
  clear c0 hb2 hsum cq
  by_cases h1 : 32768 < s
  · have t1 : ((32768 : Int) < (s : Int)) = True := eq_true (by omega)
    have he2 : e0 = 80 := by have := AE.out; rw [if_pos h1] at this; exact this.symm
    clear h1
    go_wp2_with fail
    first | go_ret | go_ret2
    exact ⟨by rw [he2]; rfl, by rw [AW.out.2.2.1]; exact AB.out⟩
  have t1 : ((32768 : Int) < (s : Int)) = False := eq_false (by omega)
  have AE2 : Aside ((if s = 32768 ∨ s = 0 ∨ (s = 16384 ∧ q = 1) then 0 else 81) = e0) := by have := AE.out; rw [if_neg h1] at this; exact this
  clear AE h1
  by_cases h2 : s = 32768
  · have he2 : e0 = 0 := by have := AE2.out; rw [if_pos (Or.inl h2)] at this; exact this.symm
    have t2 : ((s : Int) == 32768) = true := beq_iff_eq.2 (by omega)
    clear h2
    go_wp2_with fail
    first | go_ret | go_ret2
    exact ⟨by rw [he2]; rfl, by rw [AW.out.2.2.1]; exact AB.out⟩
  by_cases h3 : s = 0
  · have he2 : e0 = 0 := by have := AE2.out; rw [if_pos (Or.inr (Or.inl h3))] at this; exact this.symm
    have t2 : ((s : Int) == 32768) = false := beq_eq_false_iff_ne.2 (by omega)
    have t3 : ((s : Int) == 0) = true := beq_iff_eq.2 (by omega)
    clear h2 h3
    go_wp2_with fail
    first | go_ret | go_ret2
    exact ⟨by rw [he2]; rfl, by rw [AW.out.2.2.1]; exact AB.out⟩
  have t2 : ((s : Int) == 32768) = false := beq_eq_false_iff_ne.2 (by omega)
  have t3 : ((s : Int) == 0) = false := beq_eq_false_iff_ne.2 (by omega)
  by_cases h4 : s = 16384
  · have t4 : ((s : Int) == 16384) = true := beq_iff_eq.2 (by omega)
    by_cases h5 : q = 1
    · have he2 : e0 = 0 := by have := AE2.out; rw [if_pos (Or.inr (Or.inr ⟨h4, h5⟩))] at this; exact this.symm
      have t5 : ((q : Int) == 1) = true := beq_iff_eq.2 (by omega)
      clear h2 h3 h4 h5
      go_wp2_with fail
      first | go_ret | go_ret2
      exact ⟨by rw [he2]; rfl, by rw [AW.out.2.2.1]; exact AB.out⟩
    · have he2 : e0 = 81 := by have := AE2.out; rw [if_neg (by omega)] at this; exact this.symm
      have t5 : ((q : Int) == 1) = false := beq_eq_false_iff_ne.2 (by omega)
      clear h2 h3 h4 h5
      go_wp2_with fail
      first | go_ret | go_ret2
      exact ⟨by rw [he2]; rfl, by rw [AW.out.2.2.1]; exact AB.out⟩
  · have he2 : e0 = 81 := by have := AE2.out; rw [if_neg (by omega)] at this; exact this.symm
    have t4 : ((s : Int) == 16384) = false := beq_eq_false_iff_ne.2 (by omega)
    clear h2 h3 h4
    go_wp2_with fail
    first | go_ret | go_ret2
    exact ⟨by rw [he2]; rfl, by rw [AW.out.2.2.1]; exact AB.out⟩
theorem psum_cell {f : Nat → Nat} (hf : ∀ j, f j ≤ 320) (n : Nat) (h : n ≤ 15) : psum f n ≤ 10485760 := by
  have h1 := psum_le hf n
  have h2 : 2 ^ n ≤ 2 ^ 15 := Nat.pow_le_pow_right (by decide) h
  omega
/-- The first code of each length. -/
def frs (f : Nat → Nat) (j : Nat) : Nat := if j = 0 then 0 else 2 * psum f (j - 1)
theorem frs_first (ls : List Nat) : ∀ j, frs (fun j => ls.count j) j = first ls j
  | 0 => rfl
  | n + 1 => by unfold frs first; rw [if_neg (by omega), show n + 1 - 1 = n by omega, psum_part]
set_option maxRecDepth 100000 in
set_option maxHeartbeats 2000000 in
theorem firsts_c (f : Nat → Nat) (hf : ∀ j, f j ≤ 320) (w : World) :
    Calls Tryd.prog 79 #[.agg (rw16 f)] w fun e w' => e = .returned (.agg (rw16 (frs f))) ∧ Below w.heap.size w w' := by
  obtain ⟨B, hB⟩ : ∃ B, w.heap.size = B := ⟨_, rfl⟩
  obtain ⟨w1, hw1⟩ : ∃ w1, w1 = w.alloc (.cells (rw16 f) 127) := ⟨_, rfl⟩
  obtain ⟨w2, hw2⟩ : ∃ w2, w2 = w1.alloc (.cells (rw16 fun _ => 0) 127) := ⟨_, rfl⟩
  obtain ⟨w3, hw3⟩ : ∃ w3, w3 = w2.alloc (.cells (rw16 fun _ => 0) 127) := ⟨_, rfl⟩
  have hB1 : w1.heap.size = B + 1 := by rw [hw1, ← hB]; exact Array.size_push _
  have hB2 : w2.heap.size = B + 2 := by rw [hw2, show B + 2 = B + 1 + 1 from rfl, ← hB1]; exact Array.size_push _
  have c0 : Cells w3 B (rw16 f) 127 := by rw [hw3, hw2]; refine Cells.alloc (Cells.alloc ?_ _) _; rw [hw1, ← hB]; exact Cells.new w _ 127
  have c1 : Cells w3 (B + 1) (rw16 fun _ => 0) 127 := by rw [hw3]; refine Cells.alloc ?_ _; rw [hw2, ← hB1]; exact Cells.new w1 _ 127
  have c2 : Cells w3 (B + 2) (rw16 fun _ => 0) 127 := by rw [hw3, ← hB2]; exact Cells.new w2 _ 127
  have bel : Below B w w3 := by
    rw [hw3, hw2]
    refine Below.alloc (Below.alloc ?_ (by rw [hB1]; omega) _) (by rw [← hw2, hB2]; omega) _
    rw [hw1, ← hB]; exact (Below.refl _ w).alloc (Nat.le_refl _) _
  obtain ⟨R, hR⟩ : ∃ R, rw16 f = R := ⟨_, rfl⟩
  rw [hR] at hw1 ⊢
  have hRs : R.size = 16 := by rw [← hR]; exact rw16_size _
  have AW : Aside (Cells w3 B (rw16 f) 127 ∧ Cells w3 (B + 1) (rw16 fun _ => 0) 127 ∧ Cells w3 (B + 2) (rw16 fun _ => 0) 127 ∧ Below B w w3 ∧ w.heap.size = B) := ⟨c0, c1, c2, bel, hB⟩
  clear c0 c1 c2 bel hR
  have hz : ∀ w', (zeroValue 127).run Tryd.prog w' = .ok (.agg (rw16 fun _ => 0)) w' := fun w' => by kernel_rfl
  go_enter Tryd.func79, Tryd.ntmps79
  go_upto_region 2 with fail
  rw [← hw1, ← hw2, ← hw3]
  clear hw1 hw2 hw3 hB hB1 hB2
  go_wp2_with fail
  go_loopg [4] 14 (fun g sl wr => ∃ (n : Nat), sl = .int .i64 ((n + 2 : Nat) : Int) ∧ Aside (n + g = 14 ∧ Cells wr B (rw16 f) 127 ∧ Cells wr (B + 1) (rw16 fun _ => 0) 127 ∧ Cells wr (B + 2) (rw16 fun j => if j < n + 2 then frs f j else 0) 127 ∧ Below B w wr))
  case atStart =>
    refine ⟨0, rfl, ⟨by omega, AW.out.1, AW.out.2.1, ?_, AW.out.2.2.2.1⟩⟩
    have e : (rw16 fun j => if j < 0 + 2 then frs f j else 0) = rw16 fun _ => 0 := rw16_congr fun j _ => by
      split
      · unfold frs
        rcases (show j = 0 ∨ j = 1 by omega) with rfl | rfl <;> rfl
      · rfl
    rw [e]; exact AW.out.2.2.1
  case round =>
    obtain ⟨n, rfl, hI⟩ := hrel
    by_cases hn : n < 14
    · obtain ⟨l, hl⟩ : ∃ l, n + 2 = l := ⟨_, rfl⟩
      rw [hl]
      have hl15 : (l : Int) ≤ 15 := by omega
      have hl2 : (2 : Int) ≤ l := by omega
      obtain ⟨k, hk⟩ : ∃ k, n + 1 = k := ⟨_, rfl⟩
      have elk : (l : Int) - 1 = (k : Int) := by omega
      obtain ⟨q, hq⟩ : ∃ q, f k = q := ⟨_, rfl⟩
      obtain ⟨r, hr⟩ : ∃ r, frs f k = r := ⟨_, rfl⟩
      have hqb : q ≤ 320 := by rw [← hq]; exact hf _
      have hrb : r ≤ 20971520 := by rw [← hr]; unfold frs; rw [if_neg (by omega)]; have := psum_cell hf (k - 1) (by omega); omega
      have cq : wr.cell? ⟨B, k, none⟩ = some (.int .u32 (q : Int)) := by rw [hI.out.2.1.cell, rw16_at _ _ (by omega), hq]
      have cr : wr.cell? ⟨B + 2, k, none⟩ = some (.int .u32 (r : Int)) := by rw [hI.out.2.2.2.1.cell, rw16_at _ _ (by omega), if_pos (by omega), hr]
      have fq := hI.out.2.2.2.1.frozen l
      have hnx : Aside (frs f l = 2 * (r + q) ∧ n < 14 ∧ n + 2 = l) := by
        refine ⟨?_, hn, hl⟩
        rw [← hr, ← hq, ← hl, ← hk]
        unfold frs
        rw [if_neg (by omega), if_neg (by omega), show n + 2 - 1 = n + 1 by omega, psum, show n + 1 - 1 = n by omega]
        omega
      have hcell : ∃ v, wr.cell? ⟨B + 2, l, none⟩ = some v := ⟨_, by rw [hI.out.2.2.2.1.cell, rw16_at _ _ (by omega)]⟩
      obtain ⟨v, hv⟩ := hcell
      clear hq hr hl hk
      have hwr : ∀ z : Int, (z = (l : Int) - 1) → IntKind.i64.wrap z = (k : Int) := by
        intro z hz
        rw [hz, elk, IntKind.wrap_i64]; omega
      go_upto_region 5 with fail
      go_region
      go_wp2_with fail
      go_roundg (14 - (n + 1))
      case measure => have := hI.out.1; have := hnx.out.2.1; omega
      case rel =>
        refine ⟨n + 1, by have := hnx.out.2.2; subst this; go_num, ⟨by have := hnx.out.2.1; omega, ?_, ?_, ?_, ?_⟩⟩
        · exact (hI.out.2.1.only ((Only.refl (B + 2) wr).setCell l _) (by omega)).drew
        · exact (hI.out.2.2.1.only ((Only.refl (B + 2) wr).setCell l _) (by omega)).drew
        · have := hI.out.2.2.2.1.set l (.int .u32 ((2 * (r + q) : Nat) : Int))
          rw [rw16_set] at this
          have e : (rw16 fun j => if j = l then 2 * (r + q) else if j < n + 2 then frs f j else 0) = rw16 fun j => if j < n + 1 + 2 then frs f j else 0 := rw16_congr fun j _ => by
            have := hnx.out.2.2
            by_cases e : j = l
            · rw [if_pos e, if_pos (by omega), e, hnx.out.1]
            · rw [if_neg e]
              by_cases h2 : j < n + 2
              · rw [if_pos h2, if_pos (by omega)]
              · rw [if_neg h2, if_neg (by omega)]
          rw [e] at this
          have := this.drew
          push_cast at this
          exact this
        · exact (hI.out.2.2.2.2.setCell (p := ⟨B + 2, l, none⟩) (by show B ≤ B + 2; omega) _).drew
    · have hn14 : n = 14 := by have := hI.out.1; omega
      subst hn14
      have hc0 := hI.out.2.2.1
      have hc1 := hI.out.2.2.2.1
      have e : (rw16 fun j => if j < 14 + 2 then frs f j else 0) = rw16 (frs f) := rw16_congr fun j hj => if_pos (by omega)
      rw [e] at hc1
      have hc := set_row hc0 (rw16 (frs f))
      have hbel := hI.out.2.2.2.2.trans ((only_row hc0 (rw16 (frs f))).below (by omega))
      have AC : Aside (Cells (wr.setRow (B + 1) (rw16 (frs f))) (B + 1) (rw16 (frs f)) 127 ∧ Below B w (wr.setRow (B + 1) (rw16 (frs f)))) := ⟨hc, hbel⟩
      clear hI hc hbel e hn
      go_wp2_with (first
        | (refine wpList_load_row rfl 127 (.tmp 3) rfl (B + 2) rfl 127 _ (0, 0) _ hc1 Tryd.underlying127 rfl (by rw [rw16_size]; exact size59) ?_)
        | (refine wpList_store_row rfl 127 (.tmp 2) (.tmp 21) rfl (B + 1) (rw16 (frs f)) rfl rfl 127 (rw16 fun _ => 0) hc0 (by rw [rw16_size]; exact size59) rfl (rw16_one _) ?_))
      (try simp only [Exit.inBlock, Exit.then])
      refine bodyPost_ret (v := .agg (rw16 (frs f))) ?_ rfl ?_
      · exact results_cell_row rfl _ _ (B + 1) 127 _ (0, 0) _ rfl AC.out.1 Tryd.underlying127 rfl (by rw [rw16_size]; exact size59)
      · exact ⟨rfl, by rw [AW.out.2.2.2.2]; exact AC.out.2⟩
set_option maxRecDepth 100000 in
set_option maxHeartbeats 2000000 in
theorem kraft_c (a : Option Addr) (zs : List Int) (L C r : Nat) (ok : Bool) (w : World) (h : Lens w a zs) (hL : zs.length = L) (hLb : L < 140737488355328) (hr : (Okl zs ∧ r = kr (lens zs) ∧ ok = true) ∨ (¬ Okl zs ∧ r = 0 ∧ ok = false)) :
    Calls Tryd.prog 84 #[.slice a L C] w fun e w' => e = .returned (.tuple #[.int .i64 (r : Int), .bool ok]) ∧ Below w.heap.size w w' := by
  obtain ⟨f, hf, hfb, hfs⟩ : ∃ f : Nat → Nat, ((Okl zs ∧ (f = fun j => (lens zs).count j) ∧ ok = true) ∨ (¬ Okl zs ∧ (f = fun _ => 0) ∧ ok = false)) ∧ (∀ j, f j ≤ 320) ∧ psum f 15 = r := by
    rcases hr with ⟨h1, h2, h3⟩ | ⟨h1, h2, h3⟩
    · refine ⟨fun j => (lens zs).count j, Or.inl ⟨h1, rfl, h3⟩, fun j => ?_, ?_⟩
      · have e1 := List.count_le_length (a := j) (l := lens zs)
        have e2 : (lens zs).length ≤ 320 := by unfold lens; rw [List.length_map]; exact h1.1
        exact Nat.le_trans e1 e2
      · rw [psum_part, h2, kr_part]
        intro l hl
        unfold lens at hl
        obtain ⟨z, hz, rfl⟩ := List.mem_map.1 hl
        have := h1.2 z hz
        omega
    · exact ⟨fun _ => 0, Or.inr ⟨h1, rfl, h3⟩, fun _ => Nat.zero_le _, by rw [psum_zero, h2]⟩
  have hcount := count_c a zs L C f ok w h hL hLb hf
  have hsum : ∀ u, Calls Tryd.prog 86 #[.agg (rw16 f)] u fun e w' => e = .returned (.int .i64 (r : Int)) ∧ Below u.heap.size u w' := fun u => by have := sum_c f hfb u; rw [hfs] at this; exact this
  obtain ⟨R, hR⟩ : ∃ R, rw16 f = R := ⟨_, rfl⟩
  rw [hR] at hcount hsum
  have hRs : R.size = 16 := by rw [← hR]; exact rw16_size _
  have hR1 : R.all (·.oneCell') = true := by rw [← hR]; exact rw16_one _
  have hz : ∀ w', (zeroValue 127).run Tryd.prog w' = .ok (.agg (rw16 fun _ => 0)) w' := fun w' => by kernel_rfl
  clear h hL hLb hr hf hfb hfs hR
  go_enter Tryd.func84, Tryd.ntmps84
  go_upto_region 2 with (first
    | (go_at_call 77; refine hcount.mono ?_; rintro e2 w2 ⟨rfl, hb2⟩
       have c2 := Cells.new w2 (rw16 fun _ => 0) 127
       have b2 : Aside (Below w.heap.size w w2) := hb2
       clear hb2)
    | (refine wpList_store_row rfl 127 (.tmp 4) (.tmp 9) rfl w2.heap.size R rfl rfl 127 (rw16 fun _ => 0) c2 (by rw [hRs]; exact size59) (by rw [hRs]; rfl) hR1 ?_))
  have c3 := set_row c2 R
  have b3 : Aside (Below w.heap.size w ((w2.alloc (.cells (rw16 fun _ => 0) 127)).setRow w2.heap.size R)) := (b2.out.alloc b2.out.size _).trans ((only_row c2 R).below b2.out.size)
  obtain ⟨w3, hw3⟩ : ∃ w3, w3 = (w2.alloc (.cells (rw16 fun _ => 0) 127)).setRow w2.heap.size R := ⟨_, rfl⟩
  rw [← hw3] at c3 b3 ⊢
  obtain ⟨D, hD⟩ : ∃ D, w2.heap.size = D := ⟨_, rfl⟩
  rw [hD] at c3 ⊢
  clear c2 hw3 hD b2
  go_wp2_with (first
    | (refine wpList_load_row rfl 127 (.tmp 4) rfl D rfl 127 _ (0, 0) _ c3 Tryd.underlying127 rfl (by rw [hRs]; exact size59) ?_)
    | (go_at_call 86; refine (hsum _).mono ?_; rintro e4 w4 ⟨rfl, hb4⟩))
  first | go_ret | go_ret2
  exact ⟨rfl, b3.out.trans (hb4.mono b3.out.size)⟩
end Go.Proofs.YtikdpnpkmmmacaaDoor

/-
  What the program's New comes to.
-/
namespace Go.Proofs.YtikdpnpkmmmacaaDoor
open Go.RowKit
set_option linter.unusedVariables false
/-- The program's table in memory, in blocks from lo to hi. -/
def PT (w : World) (lo hi T : Nat) (ls : List Nat) : Prop := ∃ g M k, Tq w T g M k ls ls.length ∧ lo ≤ T ∧ T < hi ∧ lo ≤ g ∧ g < hi ∧ lo ≤ M ∧ M < hi ∧ part ls 15 ≤ 32768 ∧ ∀ x ∈ ls, x ≤ 15
theorem Tq.heap {w u : World} {T g M k : Nat} {ls : List Nat} {i : Nat} (h : Tq w T g M k ls i) (e1 : u.heap[T]? = w.heap[T]?) (e2 : u.heap[g]? = w.heap[g]?) (e3 : u.heap[M]? = w.heap[M]?) : Tq u T g M k ls i := by
  obtain ⟨h1, h2, G, h3, h4⟩ := h
  exact ⟨e1.trans h1, h2.heap e2, G, h3.heap e3, h4⟩
theorem PT.keep {w u : World} {lo hi T : Nat} {ls : List Nat} (h : PT w lo hi T ls) (k : ∀ k, lo ≤ k → k < hi → u.heap[k]? = w.heap[k]?) : PT u lo hi T ls := by
  obtain ⟨g, M, k', h1, a, b, c, d, e, f, q⟩ := h
  exact ⟨g, M, k', h1.heap (k T a b) (k g c d) (k M e f), a, b, c, d, e, f, q⟩
theorem Okl.le15 {zs : List Int} (h : Okl zs) : ∀ l ∈ lens zs, l ≤ 15 := by
  intro l hl
  unfold lens at hl
  obtain ⟨z, hz, rfl⟩ := List.mem_map.1 hl
  have := h.2 z hz
  omega
theorem Okl.cast {zs : List Int} (h : Okl zs) {i : Nat} {z : Int} (hz : zs[i]? = some z) : ∃ m : Nat, z = (m : Int) ∧ (lens zs)[i]? = some m := by
  have := h.2 z (List.mem_of_getElem? hz)
  exact ⟨z.toNat, by omega, by unfold lens; rw [List.getElem?_map, hz]; rfl⟩
theorem kr_parts : ∀ {ls : List Nat}, (∀ l ∈ ls, l ≤ 15) → ∃ o r, kr ls = 16384 * ls.count 1 + r ∧ used ls = ls.count 1 + o ∧ (r = 0 ↔ o = 0)
  | [], _ => ⟨0, 0, rfl, rfl, Iff.rfl⟩
  | l :: ls, h => by
    obtain ⟨o, r, h1, h2, h3⟩ := kr_parts (ls := ls) (fun x hx => h x (by simp [hx]))
    have hl := h l (by simp)
    have hu : used (l :: ls) = used ls + (if l = 0 then 0 else 1) := by
      unfold used
      simp only [List.countP_cons]
      by_cases e : l = 0
      · simp [e]
      · have : 0 < l := by omega
        simp [e, this]
    rw [hu, kr, List.count_cons]
    by_cases e0 : l = 0
    · subst e0
      exact ⟨o, r, by simp [h1], by simp [h2], h3⟩
    · by_cases e1 : l = 1
      · subst e1
        exact ⟨o, r, by simp [h1]; omega, by simp [h2]; omega, h3⟩
      · have hp : 0 < 2 ^ (15 - l) := Nat.pow_pos (by decide)
        have hb : (l == 1) = false := by rw [beq_eq_false_iff_ne]; exact e1
        refine ⟨o + 1, 2 ^ (15 - l) + r, ?_, ?_, ?_⟩
        · rw [if_neg e0, hb, h1]; simp; omega
        · rw [if_neg e0, hb, h2]; simp; omega
        · omega
/-- What is asked of the sums, in the document's words. -/
theorem under_row {ls : List Nat} (h15 : ∀ l ∈ ls, l ≤ 15) (h : kr ls ≤ 32768) : cerr (fun j => ls.count j) = if Under ls then 81 else 0 := by
  unfold cerr
  rw [psum_part, ← kr_part h15, if_neg (by omega)]
  obtain ⟨o, r, h1, h2, h3⟩ := kr_parts h15
  by_cases hu : Under ls
  · rw [if_pos hu, if_neg]
    unfold Under at hu
    obtain ⟨a, b, c⟩ := hu
    rintro (e | e | ⟨e1, e2⟩)
    · omega
    · omega
    · have e2' : ls.count 1 = 1 := e2
      omega
  · rw [if_neg hu, if_pos]
    unfold Under at hu
    by_cases a : kr ls = 32768
    · exact Or.inl a
    · by_cases b : used ls = 0
      · exact Or.inr (Or.inl (by omega))
      · have c : ls.count 1 = 1 := by omega
        exact Or.inr (Or.inr ⟨by omega, c⟩)
theorem over_row {ls : List Nat} (h15 : ∀ l ∈ ls, l ≤ 15) (h : 32768 < kr ls) : cerr (fun j => ls.count j) = 80 := by
  unfold cerr
  rw [psum_part, ← kr_part h15, if_pos h]
theorem nerr_cerr {zs : List Int} (h : Okl zs) : cerr (fun j => (lens zs).count j) = nerr zs := by
  unfold nerr
  rw [if_neg (by simpa using h)]
  by_cases h2 : 32768 < kr (lens zs)
  · rw [if_pos h2]; exact over_row h.le15 h2
  · rw [if_neg h2]; exact under_row h.le15 (by omega)
theorem count_le {zs : List Int} (h : Okl zs) (j : Nat) : (lens zs).count j ≤ 320 := by
  have e1 := List.count_le_length (a := j) (l := lens zs)
  have e2 : (lens zs).length ≤ 320 := by unfold lens; rw [List.length_map]; exact h.1
  exact Nat.le_trans e1 e2
set_option maxRecDepth 100000 in
set_option maxHeartbeats 2000000 in
/-- Lengths that may not be. -/
theorem new_arg (a : Option Addr) (zs : List Int) (L C : Nat) (w : World) (h : Lens w a zs) (hL : zs.length = L) (hLb : L < 140737488355328) (hno : ¬ Okl zs) :
    Calls Tryd.prog 70 #[.slice a L C] w fun e w' => e = .returned (.tuple #[.pointer none, .int .i64 2]) ∧ Below w.heap.size w w' := by
  have hcount := count_c a zs L C (fun _ => 0) false w h hL hLb (Or.inr ⟨hno, rfl, rfl⟩)
  obtain ⟨R, hR⟩ : ∃ R, (rw16 fun _ => 0) = R := ⟨_, rfl⟩
  rw [hR] at hcount
  have hRs : R.size = 16 := by rw [← hR]; exact rw16_size _
  have hR1 : R.all (·.oneCell') = true := by rw [← hR]; exact rw16_one _
  have hz : ∀ w', (zeroValue 127).run Tryd.prog w' = .ok (.agg R) w' := fun w' => by rw [← hR]; kernel_rfl
  clear h hL hLb hno hR
  go_enter Tryd.func70, Tryd.ntmps70
  go_wp2_with (first
    | (go_at_call 77; refine hcount.mono ?_; rintro e2 w2 ⟨rfl, hb2⟩
       have c2 := Cells.new w2 R 127
       have b2 : Aside (Below w.heap.size w w2) := hb2
       clear hb2)
    | (refine wpList_store_row rfl 127 (.tmp 4) (.tmp 14) rfl w2.heap.size R rfl rfl 127 R c2 (by rw [hRs]; exact size59) rfl hR1 ?_))
  first | go_ret | go_ret2
  exact ⟨rfl, (b2.out.alloc b2.out.size _).trans ((only_row c2 R).below b2.out.size)⟩
set_option maxRecDepth 100000 in
set_option maxHeartbeats 2000000 in
/-- Lengths that may be, but whose codes take too much or too little room. -/
theorem new_room (a : Option Addr) (zs : List Int) (L C e0 : Nat) (w : World) (h : Lens w a zs) (hL : zs.length = L) (hLb : L < 140737488355328) (hok : Okl zs) (he : nerr zs = e0) (he0 : e0 ≠ 0) :
    Calls Tryd.prog 70 #[.slice a L C] w fun e w' => e = .returned (.tuple #[.pointer none, .int .i64 (e0 : Int)]) ∧ Below w.heap.size w w' := by
  have hcount := count_c a zs L C (fun j => (lens zs).count j) true w h hL hLb (Or.inl ⟨hok, rfl, rfl⟩)
  have hcheck := check_c (fun j => (lens zs).count j) (count_le hok) e0 (by rw [nerr_cerr hok]; exact he)
  obtain ⟨R, hR⟩ : ∃ R, (rw16 fun j => (lens zs).count j) = R := ⟨_, rfl⟩
  rw [hR] at hcount hcheck
  have hRs : R.size = 16 := by rw [← hR]; exact rw16_size _
  have hR1 : R.all (·.oneCell') = true := by rw [← hR]; exact rw16_one _
  have hz : ∀ w', (zeroValue 127).run Tryd.prog w' = .ok (.agg (rw16 fun _ => 0)) w' := fun w' => by kernel_rfl
  have hne : ((e0 : Int) == 0) = false := beq_eq_false_iff_ne.2 (by omega)
  clear h hL hLb hok hR he he0
  go_enter Tryd.func70, Tryd.ntmps70
  go_upto_region 4 with (first
    | (go_at_call 77; refine hcount.mono ?_; rintro e2 w2 ⟨rfl, hb2⟩
       have c2 := Cells.new w2 (rw16 fun _ => 0) 127
       have b2 : Aside (Below w.heap.size w w2) := hb2
       clear hb2)
    | (refine wpList_store_row rfl 127 (.tmp 4) (.tmp 14) rfl w2.heap.size R rfl rfl 127 (rw16 fun _ => 0) c2 (by rw [hRs]; exact size59) (by rw [hRs]; rfl) hR1 ?_))
  have c3 := set_row c2 R
  have b3 : Aside (Below w.heap.size w ((w2.alloc (.cells (rw16 fun _ => 0) 127)).setRow w2.heap.size R)) := (b2.out.alloc b2.out.size _).trans ((only_row c2 R).below b2.out.size)
  obtain ⟨w3, hw3⟩ : ∃ w3, w3 = (w2.alloc (.cells (rw16 fun _ => 0) 127)).setRow w2.heap.size R := ⟨_, rfl⟩
  rw [← hw3] at c3 b3 ⊢
  obtain ⟨D, hD⟩ : ∃ D, w2.heap.size = D := ⟨_, rfl⟩
  rw [hD] at c3 ⊢
  clear c2 hw3 hD b2
  go_wp2_with (first
    | (refine wpList_load_row rfl 127 (.tmp 4) rfl D rfl 127 _ (0, 0) _ c3 Tryd.underlying127 rfl (by rw [hRs]; exact size59) ?_)
    | (go_at_call 78; refine (hcheck _).mono ?_; rintro e4 w4 ⟨rfl, hb4⟩))
  first | go_ret | go_ret2
  exact ⟨rfl, b3.out.trans (hb4.mono b3.out.size)⟩
theorem info70 : (Tryd.prog.info? 138).map (fun i => (i.zero, i.size, i.bytes)) = some (some (.agg #[.int .u32 0, .int .u32 0]), 2, 8) := by kernel_rfl
theorem made_codes (n : Nat) (hn : n ≤ 1048576) (w : World) : (Instr.makeSlice 131 (.int .i64 (n : Int)) (.int .i64 (n : Int))).run Tryd.prog w = .ok (.slice (some ⟨w.heap.size, 0, none⟩) n n) (w.alloc (.cells (Array.replicate (n * 2) (Value.int .u32 0)) 138)) := by
  obtain ⟨i, hi, hz, hs, hb⟩ := info_parts info70
  have := run_make (P := Tryd.prog) w 131 138 i _ Tryd.underlying131 hi hz .i64 .i64 n n (by omega) (by omega) (by rw [hb]; omega) (by omega)
  rw [this, hs]
  have e : madeCells (Value.agg #[.int .u32 0, .int .u32 0]).cells ((n : Int).toNat * 2) = (Array.replicate (n * 2) (Value.int .u32 0)) := by
    apply Array.ext_getElem?
    intro j
    by_cases hj : j < n * 2
    · rcases Nat.mod_two_eq_zero_or_one j with h | h <;> simp [madeCells, Value.cells, hj, h]
    · simp [madeCells, hj]
  rw [e]
  simp
theorem run_makeMap_hint (n : Int) (w : World) : (Instr.makeMap 132 (some (.int .i64 n))).run Tryd.prog w = .ok (.map (some w.heap.size)) (w.alloc (.map #[] 0)) := by
  simp [Instr.makeMap, run_underlying Tryd.underlying132, asInt, asIntOf, Result.andThen]
theorem Tq.new {w : World} {T g M : Nat} {ls : List Nat} (ht : Cells w T #[.slice (some ⟨g, 0, none⟩) ls.length ls.length, .map (some M)] 134) (hg : Cells w g (Array.replicate (ls.length * 2) (Value.int .u32 0)) 138) (hm : Mp w M 0 (fun _ _ => none)) : Tq w T g M 0 ls 0 := by
  refine ⟨ht, ⟨_, hg, by simp; omega, fun j m hj => ⟨fun h => by omega, fun _ => ?_⟩⟩, _, hm, Laidm.none ls⟩
  have := lt_of_at hj
  constructor
  · rw [Array.getElem?_replicate, if_pos (by omega)]
  · rw [Array.getElem?_replicate, if_pos (by omega)]
theorem size_al (w : World) (o : Obj) : (w.alloc o).heap.size = w.heap.size + 1 := Array.size_push _
theorem Mp.al {w : World} {M k : Nat} {G : Nat → Nat → Option Int} (h : Mp w M k G) (o : Obj) : Mp (w.alloc o) M k G := h.heap (Below.heap_alloc w o M h.lt)
/-- What lies in memory behind the table's making. -/
def Made (w4 wc : World) (N T : Nat) (ls : List Nat) : Prop := ∃ g M, Tq wc T g M 0 ls 0 ∧ N ≤ T ∧ N ≤ g ∧ N ≤ M ∧ T ≠ g ∧ T ≠ M ∧ g ≠ M ∧ T < wc.heap.size ∧ g < wc.heap.size ∧ M < wc.heap.size ∧ Below N w4 wc
theorem made_ab (w4 : World) (N L : Nat) (ls : List Nat) (hN : w4.heap.size = N) (hL : ls.length = L) :
    Made w4 (((w4.alloc (.cells (Array.replicate (L * 2) (Value.int .u32 0)) 138)).alloc (.map #[] 0)).alloc (.cells #[.slice (some ⟨N, 0, none⟩) L L, .map (some (N + 1))] 134)).drew N (N + 1 + 1) ls := by
  subst hN hL
  have s1 := size_al w4 (.cells (Array.replicate (ls.length * 2) (Value.int .u32 0)) 138)
  have c1 := Cells.new w4 (Array.replicate (ls.length * 2) (Value.int .u32 0)) 138
  have b1 := (Below.refl w4.heap.size w4).alloc (Nat.le_refl _) (.cells (Array.replicate (ls.length * 2) (Value.int .u32 0)) 138)
  generalize (w4.alloc (.cells (Array.replicate (ls.length * 2) (Value.int .u32 0)) 138)) = w5 at *
  have s2 := size_al w5 (.map #[] 0)
  have c2 := c1.alloc (.map #[] 0)
  have m2 := Mp.made w5
  have b2 := b1.alloc (by omega) (.map #[] 0)
  generalize (w5.alloc (.map #[] 0)) = w6 at *
  rw [s1] at s2 m2
  have s3 := size_al w6 (.cells #[.slice (some ⟨w4.heap.size, 0, none⟩) ls.length ls.length, .map (some (w4.heap.size + 1))] 134)
  have t3 := Cells.new w6 #[.slice (some ⟨w4.heap.size, 0, none⟩) ls.length ls.length, .map (some (w4.heap.size + 1))] 134
  rw [s2] at s3 t3
  have sd : ((w6.alloc (.cells #[.slice (some ⟨w4.heap.size, 0, none⟩) ls.length ls.length, .map (some (w4.heap.size + 1))] 134)).drew).heap.size = w4.heap.size + 1 + 1 + 1 := s3
  exact ⟨w4.heap.size, w4.heap.size + 1, Tq.new t3.drew (c2.alloc _).drew (m2.al _).drew, by omega, by omega, by omega, by omega, by omega, by omega, by omega, by omega, by omega, (b2.alloc (by omega) _).drew⟩
theorem made_ba (w4 : World) (N L : Nat) (ls : List Nat) (hN : w4.heap.size = N) (hL : ls.length = L) :
    Made w4 (((w4.alloc (.map #[] 0)).alloc (.cells (Array.replicate (L * 2) (Value.int .u32 0)) 138)).alloc (.cells #[.slice (some ⟨N + 1, 0, none⟩) L L, .map (some N)] 134)).drew N (N + 1 + 1) ls := by
  subst hN hL
  have s1 := size_al w4 (.map #[] 0)
  have m1 := Mp.made w4
  have b1 := (Below.refl w4.heap.size w4).alloc (Nat.le_refl _) (.map #[] 0)
  generalize (w4.alloc (.map #[] 0)) = w5 at *
  have s2 := size_al w5 (.cells (Array.replicate (ls.length * 2) (Value.int .u32 0)) 138)
  have c2 := Cells.new w5 (Array.replicate (ls.length * 2) (Value.int .u32 0)) 138
  have m2 := m1.al (.cells (Array.replicate (ls.length * 2) (Value.int .u32 0)) 138)
  have b2 := b1.alloc (by omega) (.cells (Array.replicate (ls.length * 2) (Value.int .u32 0)) 138)
  generalize (w5.alloc (.cells (Array.replicate (ls.length * 2) (Value.int .u32 0)) 138)) = w6 at *
  rw [s1] at s2 c2
  have s3 := size_al w6 (.cells #[.slice (some ⟨w4.heap.size + 1, 0, none⟩) ls.length ls.length, .map (some w4.heap.size)] 134)
  have t3 := Cells.new w6 #[.slice (some ⟨w4.heap.size + 1, 0, none⟩) ls.length ls.length, .map (some w4.heap.size)] 134
  rw [s2] at s3 t3
  have sd : ((w6.alloc (.cells #[.slice (some ⟨w4.heap.size + 1, 0, none⟩) ls.length ls.length, .map (some w4.heap.size)] 134)).drew).heap.size = w4.heap.size + 1 + 1 + 1 := s3
  exact ⟨w4.heap.size + 1, w4.heap.size, Tq.new t3.drew (c2.alloc _).drew (m2.al _).drew, by omega, by omega, by omega, by omega, by omega, by omega, by omega, by omega, by omega, (b2.alloc (by omega) _).drew⟩
/-- The next code of each length. -/
def nx (ls : List Nat) (i j : Nat) : Nat := if j = 0 then 0 else code ls i j
theorem nx_start (ls : List Nat) (j : Nat) : nx ls 0 j = first ls j := by
  unfold nx code
  by_cases h : j = 0
  · subst h; rfl
  · rw [if_neg h]; simp
theorem nx_skip {ls : List Nat} {i : Nat} (h : ls[i]? = some 0) (j : Nat) : nx ls (i + 1) j = nx ls i j := by
  unfold nx code
  by_cases e : j = 0
  · rw [if_pos e, if_pos e]
  · rw [if_neg e, if_neg e, rank_step h j, if_neg (fun h => e h.symm)]; rfl
theorem nx_step {ls : List Nat} {i m : Nat} (h : ls[i]? = some m) (hm : 0 < m) (j : Nat) : nx ls (i + 1) j = if j = m then code ls i m + 1 else nx ls i j := by
  unfold nx code
  by_cases e : j = 0
  · rw [if_pos e, if_pos e, if_neg (by omega)]
  · rw [if_neg e, if_neg e, rank_step h j]
    by_cases e2 : j = m
    · subst e2; rw [if_pos rfl, if_pos rfl]; omega
    · rw [if_neg e2, if_neg (fun h => e2 h.symm)]; omega
set_option maxRecDepth 100000 in
set_option maxHeartbeats 4000000 in
theorem new_yes (a : Option Addr) (zs : List Int) (L C : Nat) (w : World) (h : Lens w a zs) (hL : zs.length = L) (hLb : L < 140737488355328) (he : nerr zs = 0) :
    Calls Tryd.prog 70 #[.slice a L C] w fun e w' => ∃ T, e = .returned (.tuple #[.pointer (some ⟨T, 0, none⟩), .int .i64 0]) ∧ PT w' w.heap.size w'.heap.size T (lens zs) ∧ Below w.heap.size w w' := by
  obtain ⟨hok, hkr, _⟩ := nerr_ok he
  have hcount := count_c a zs L C (fun j => (lens zs).count j) true w h hL hLb (Or.inl ⟨hok, rfl, rfl⟩)
  have hcheck := check_c (fun j => (lens zs).count j) (count_le hok) 0 (by rw [nerr_cerr hok]; exact he)
  have hfirsts := firsts_c (fun j => (lens zs).count j) (count_le hok)
  have efr : rw16 (frs fun j => (lens zs).count j) = rw16 (first (lens zs)) := rw16_congr fun j _ => frs_first _ j
  rw [efr] at hfirsts
  obtain ⟨R, hR⟩ : ∃ R, (rw16 fun j => (lens zs).count j) = R := ⟨_, rfl⟩
  rw [hR] at hcount hcheck hfirsts
  have hRs : R.size = 16 := by rw [← hR]; exact rw16_size _
  have hR1 : R.all (·.oneCell') = true := by rw [← hR]; exact rw16_one _
  have hz : ∀ w', (zeroValue 127).run Tryd.prog w' = .ok (.agg (rw16 fun _ => 0)) w' := fun w' => by kernel_rfl
  have hL320 : L ≤ 320 := by have := hok.1; omega
  have hlL : (lens zs).length = L := by unfold lens; rw [List.length_map]; exact hL
  have AH : Aside (Lens w a zs ∧ zs.length = L ∧ Okl zs ∧ kr (lens zs) ≤ 32768 ∧ (lens zs).length = L) := ⟨h, hL, hok, hkr, hlL⟩
  clear h hL hLb hok hR he efr hkr hlL
  go_enter Tryd.func70, Tryd.ntmps70
  go_upto_region 4 with (first
    | (go_at_call 77; refine hcount.mono ?_; rintro e2 w2 ⟨rfl, hb2⟩
       have c2 := Cells.new w2 (rw16 fun _ => 0) 127
       have b2 : Aside (Below w.heap.size w w2) := hb2
       clear hb2)
    | (refine wpList_store_row rfl 127 (.tmp 4) (.tmp 14) rfl w2.heap.size R rfl rfl 127 (rw16 fun _ => 0) c2 (by rw [hRs]; exact size59) (by rw [hRs]; rfl) hR1 ?_))
  have c3 := set_row c2 R
  have b3 : Aside (Below w.heap.size w ((w2.alloc (.cells (rw16 fun _ => 0) 127)).setRow w2.heap.size R)) := (b2.out.alloc b2.out.size _).trans ((only_row c2 R).below b2.out.size)
  obtain ⟨w3, hw3⟩ : ∃ w3, w3 = (w2.alloc (.cells (rw16 fun _ => 0) 127)).setRow w2.heap.size R := ⟨_, rfl⟩
  rw [← hw3] at c3 b3 ⊢
  obtain ⟨D, hD⟩ : ∃ D, w2.heap.size = D := ⟨_, rfl⟩
  rw [hD] at c3 ⊢
  clear c2 hw3 hD b2
  go_upto_region 7 with (first
    | (refine wpList_load_row rfl 127 (.tmp 4) rfl D rfl 127 _ (0, 0) _ c3 Tryd.underlying127 rfl (by rw [hRs]; exact size59) ?_)
    | (go_at_call 78; refine (hcheck _).mono ?_; rintro e4 w4 ⟨rfl, hb4⟩))
  have b4 : Aside (Below w.heap.size w w4 ∧ Cells w4 D R 127) := ⟨b3.out.trans (hb4.mono b3.out.size), c3.below hb4 c3.lt⟩
  clear hb4 b3 c3 hcheck hcount
  obtain ⟨N, hN⟩ : ∃ N, w4.heap.size = N := ⟨_, rfl⟩
  have AN : Aside (w4.heap.size = N) := hN
  have hms := made_codes L (by omega)
  have hmm := run_makeMap_hint
  go_cut [7] (fun s7 wc => ∃ T, s7 = .pointer (some ⟨T, 0, none⟩) ∧ Aside (Made w4 wc N T (lens zs)))
  case first =>
    go_region
    · go_wp2_with fail
      go_meet
      exact ⟨_, rfl, made_ab w4 N L (lens zs) AN.out AH.out.2.2.2.2⟩
    · go_wp2_with fail
      go_meet
      exact ⟨_, rfl, made_ba w4 N L (lens zs) AN.out AH.out.2.2.2.2⟩
  case rest =>
    obtain ⟨T, rfl, hM⟩ := hcut
    obtain ⟨g, M, hM⟩ := hM.out
    have AM : Aside (Tq wc T g M 0 (lens zs) 0 ∧ N ≤ T ∧ N ≤ g ∧ N ≤ M ∧ T ≠ g ∧ T ≠ M ∧ g ≠ M ∧ T < wc.heap.size ∧ g < wc.heap.size ∧ M < wc.heap.size ∧ Below N w4 wc) := hM
    have c5 : Cells wc D R 127 := b4.out.2.below hM.2.2.2.2.2.2.2.2.2.2 (by rw [← AN.out]; exact b4.out.2.lt)
    have b5 : Aside (Below w.heap.size w wc) := b4.out.1.trans (hM.2.2.2.2.2.2.2.2.2.2.mono (by have := b4.out.1.size; rw [AN.out] at this; exact this))
    clear hM hms hmm hN
    go_upto_region 9 with (first
      | (refine wpList_load_row rfl 127 (.tmp 4) rfl D rfl 127 _ (0, 0) _ c5 Tryd.underlying127 rfl (by rw [hRs]; exact size59) ?_)
      | (go_at_call 79; refine (hfirsts _).mono ?_; rintro e6 w6 ⟨rfl, hb6⟩
         have c6 := Cells.new w6 (rw16 fun _ => 0) 127
         have b6 : Aside (Below wc.heap.size wc w6) := hb6
         clear hb6)
      | (refine wpList_store_row rfl 127 (.tmp 8) (.tmp 33) rfl w6.heap.size (rw16 (first (lens zs))) rfl rfl 127 (rw16 fun _ => 0) c6 (by rw [rw16_size]; exact size59) rfl (rw16_one _) ?_))
    have c7 := set_row c6 (rw16 (first (lens zs)))
    have o7 := only_row c6 (rw16 (first (lens zs)))
    have s7 : ((w6.alloc (.cells (rw16 fun _ => 0) 127)).setRow w6.heap.size (rw16 (first (lens zs)))).heap.size = w6.heap.size + 1 := by rw [o7.size]; exact size_al _ _
    have b7 : Below wc.heap.size wc ((w6.alloc (.cells (rw16 fun _ => 0) 127)).setRow w6.heap.size (rw16 (first (lens zs)))) := (b6.out.alloc b6.out.size _).trans (o7.below b6.out.size)
    obtain ⟨w7, hw7⟩ : ∃ w7, w7 = (w6.alloc (.cells (rw16 fun _ => 0) 127)).setRow w6.heap.size (rw16 (first (lens zs))) := ⟨_, rfl⟩
    rw [← hw7] at c7 s7 b7 ⊢
    obtain ⟨F, hF⟩ : ∃ F, w6.heap.size = F := ⟨_, rfl⟩
    have hFw : wc.heap.size ≤ F := by rw [← hF]; exact b6.out.size
    rw [hF] at c7 s7 ⊢
    have A7 : Aside (Cells w7 F (rw16 (first (lens zs))) 127 ∧ Below w.heap.size w w7 ∧ Tq w7 T g M 0 (lens zs) 0 ∧ w.heap.size ≤ N ∧ N ≤ T ∧ N ≤ g ∧ N ≤ M ∧ T ≠ g ∧ T ≠ M ∧ g ≠ M ∧ T < F ∧ g < F ∧ M < F) := by
      have m := AM.out
      refine ⟨c7, b5.out.trans (b7.mono b5.out.size), m.1.heap (b7.block T (by omega)) (b7.block g (by omega)) (b7.block M (by omega)), ?_, m.2.1, m.2.2.1, m.2.2.2.1, m.2.2.2.2.1, m.2.2.2.2.2.1, m.2.2.2.2.2.2.1, by omega, by omega, by omega⟩
      have := b4.out.1.size; rw [AN.out] at this; exact this
    clear c5 c6 o7 s7 b7 hw7 hF hFw b6 AM b5 c7 b4 AN
    obtain ⟨B, hB⟩ : ∃ B, w.heap.size = B := ⟨_, rfl⟩
    have AB : Aside (w.heap.size = B) := hB
    clear hB
    go_wp2_with fail
    go_loopg [36] L (fun gg si wr => ∃ (i k : Nat), si = .int .i64 (i : Int) ∧ Aside (i + gg = L ∧ k ≤ 16 * i ∧ Tq wr T g M k (lens zs) i ∧ Cells wr F (rw16 (nx (lens zs) i)) 127 ∧ Below w.heap.size w wr))
    case atStart =>
      have e : rw16 (nx (lens zs) 0) = rw16 (first (lens zs)) := rw16_congr fun j _ => nx_start _ j
      exact ⟨0, 0, rfl, by omega, by omega, A7.out.2.2.1, by rw [e]; exact A7.out.1, A7.out.2.1⟩
    case round =>
      obtain ⟨i, k, rfl, hI⟩ := hrel
      by_cases hiL : i < L
      · have hi : (i : Int) < (L : Int) := by omega
        obtain ⟨z, hz1⟩ : ∃ z, zs[i]? = some z := ⟨_, List.getElem?_eq_getElem (by have := AH.out; omega)⟩
        obtain ⟨m, rfl, hm⟩ := AH.out.2.2.1.cast hz1
        have hm15 := AH.out.2.2.1.le15 m (List.mem_of_getElem? hm)
        rcases AH.out.1 with e | ⟨b, o, rfl, hc⟩
        · rw [e] at hz1; simp at hz1
        have hcw := hc i m hz1
        have cz : wr.cell? ⟨b, o + i, none⟩ = some (.int .i64 (m : Int)) := (hI.out.2.2.2.2.cell (p := ⟨b, o + i, none⟩) (World.block_lt_of_cell? w ⟨b, o + i, none⟩ hcw)).trans hcw
        have AZ : Aside (zs[i]? = some (m : Int) ∧ i < L ∧ (lens zs)[i]? = some m) := ⟨hz1, hiL, hm⟩
        clear hc hz1 hiL hcw hm
        by_cases hm0 : m = 0
        · subst hm0
          go_wp2_with fail
          go_roundg (L - (i + 1))
          case measure => have := hI.out.1; have := AZ.out.2.1; omega
          case rel =>
            refine ⟨i + 1, k, by go_num, by have := AZ.out.2.1; omega, by have := hI.out.2.1; omega, ⟨hI.out.2.2.1.t, hI.out.2.2.1.c.skip AZ.out.2.2, ?_⟩, ?_, hI.out.2.2.2.2⟩
            · obtain ⟨G, h1, h2⟩ := hI.out.2.2.1.m
              exact ⟨G, h1, h2.skip AZ.out.2.2⟩
            · have e : rw16 (nx (lens zs) (i + 1)) = rw16 (nx (lens zs) i) := rw16_congr fun j _ => nx_skip AZ.out.2.2 j
              rw [e]; exact hI.out.2.2.2.1
        · have hmp : (0 : Int) < (m : Int) := by omega
          have hmpN : 0 < m := by omega
          obtain ⟨c, hc⟩ : ∃ c, code (lens zs) i m = c := ⟨_, rfl⟩
          have hpart : part (lens zs) 15 ≤ 32768 := by rw [← kr_part AH.out.2.2.1.le15]; exact AH.out.2.2.2.1
          have hcb : c < 2 ^ m := by rw [← hc]; exact code_fits hpart AZ.out.2.2 hmpN hm15
          have hcb2 : c < 32768 := Nat.lt_of_lt_of_le hcb (show 2 ^ m ≤ 2 ^ 15 from Nat.pow_le_pow_right (by decide) hm15)
          have cq : wr.cell? ⟨F, m, none⟩ = some (.int .u32 (c : Int)) := by rw [hI.out.2.2.2.1.cell, rw16_at _ _ (by omega), nx, if_neg hm0, hc]
          have hmI : (m : Int) ≤ 15 := by omega
          have a7 := A7.out
          have hlay := lay_c T g M k i m c (lens zs) wr hI.out.2.2.1 (by rw [AH.out.2.2.2.2]; exact hL320) AZ.out.2.2 hmpN hm15 hc hcb (by have := hI.out.2.1; have := AZ.out.2.1; omega) a7.2.2.2.2.2.2.2.1 a7.2.2.2.2.2.2.2.2.1 a7.2.2.2.2.2.2.2.2.2.1
          have AQ : Aside (code (lens zs) i m = c ∧ 0 < m) := ⟨hc, hmpN⟩
          clear hc hcb hm0 hpart a7 hmpN
          go_upto_region 14 with (go_at_call 80; refine hlay.mono ?_; rintro e8 w8 ⟨rfl, hq8, ht8⟩)
          have a7 := A7.out
          have c8 : Cells w8 F (rw16 (nx (lens zs) i)) 127 := hI.out.2.2.2.1.two ht8 (by omega) (by omega)
          have b8 : Below w.heap.size w w8 := hI.out.2.2.2.2.trans (ht8.below (by omega) (by omega) hI.out.2.2.2.2.size)
          have cq8 : w8.cell? ⟨F, m, none⟩ = some (.int .u32 (c : Int)) := by rw [c8.cell, rw16_at _ _ (by omega), nx, if_neg (by have := AQ.out.2; omega), AQ.out.1]
          have fq8 := c8.frozen m
          have A8 : Aside (Cells w8 F (rw16 (nx (lens zs) i)) 127 ∧ Below w.heap.size w w8 ∧ Tq w8 T g M (k + 16) (lens zs) (i + 1)) := ⟨c8, b8, hq8⟩
          clear c8 b8 hq8 ht8 hlay cq a7
          go_wp2_with fail
          go_roundg (L - (i + 1))
          case measure => have := hI.out.1; have := AZ.out.2.1; omega
          case rel =>
            have a7 := A7.out
            have o9 : Only F w8 (w8.setCell ⟨F, m, none⟩ (.int .u32 ((c : Int) + 1))) := (Only.refl F w8).setCell _ _
            refine ⟨i + 1, k + 16, by go_num, by have := AZ.out.2.1; omega, by have := hI.out.2.1; omega, A8.out.2.2.heap (o9.block T (by omega)) (o9.block g (by omega)) (o9.block M (by omega)), ?_, A8.out.2.1.trans (o9.below (by omega))⟩
            have := A8.out.1.set m (.int .u32 ((c + 1 : Nat) : Int))
            rw [rw16_set] at this
            have e : (rw16 fun j => if j = m then c + 1 else nx (lens zs) i j) = rw16 (nx (lens zs) (i + 1)) := rw16_congr fun j _ => by
              rw [nx_step AZ.out.2.2 AQ.out.2 j, AQ.out.1]
            rw [e] at this
            exact this
      · have hieq : i = L := by have := hI.out.1; omega
        have hni : ¬ (i : Int) < (L : Int) := by omega
        clear hiL
        go_wp2_with fail
        first | go_ret | go_ret2
        have a7 := A7.out
        have hI2 := hI.out
        rw [hieq] at hI2
        have hl := hI2.2.2.2.1.lt
        exact ⟨T, rfl, ⟨g, M, k, by rw [AH.out.2.2.2.2]; exact hI2.2.2.1, by omega, by omega, by omega, by omega, by omega, by omega, by rw [← kr_part AH.out.2.2.1.le15]; exact AH.out.2.2.2.1, AH.out.2.2.1.le15⟩, hI2.2.2.2.2⟩
end Go.Proofs.YtikdpnpkmmmacaaDoor

/-
  What the program's Symbols and Code come to.
-/
namespace Go.Proofs.YtikdpnpkmmmacaaDoor
open Go.RowKit
set_option linter.unusedVariables false
end Go.Proofs.YtikdpnpkmmmacaaDoor

/-
  What the document's Code, begins and Look come to.
  Conditions: the table and the bits lie in memory.
-/
namespace Go.Proofs.YtikdpnpkmmmacaaDoor
open Go.RowKit
set_option linter.unusedVariables false
/-- The world, some draws further on. -/
def Drawn (w u : World) : Prop := ∃ n, u = w.drewN n
theorem Drawn.refl (w : World) : Drawn w w := ⟨0, rfl⟩
theorem Drawn.drewN {w u : World} (h : Drawn w u) (n : Nat) : Drawn w (u.drewN n) := by
  obtain ⟨k, rfl⟩ := h
  exact ⟨k + n, by simp [World.drewN, Nat.add_assoc]⟩
theorem Drawn.trans {w u v : World} (h : Drawn w u) (k : Drawn u v) : Drawn w v := by
  obtain ⟨n, rfl⟩ := k
  exact h.drewN n
theorem Drawn.below {w u : World} (h : Drawn w u) (B : Nat) : Below B w u := by
  obtain ⟨n, rfl⟩ := h
  exact ⟨rfl, rfl, rfl, Nat.le_refl _, fun _ _ => rfl⟩
/-- Bits that lie side by side. -/
def Lb (w : World) (a : Option Addr) (l : List Bool) : Prop := l = [] ∨ ∃ (b o : Nat), a = some ⟨b, o, none⟩ ∧ ∀ (i : Nat) (x : Bool), l[i]? = some x → w.cell? ⟨b, o + i, none⟩ = some (.bool x)
theorem Lb.below {w u : World} {a : Option Addr} {l : List Bool} (h : Lb w a l) (k : Below w.heap.size w u) : Lb u a l := by
  rcases h with h | ⟨b, o, ha, hc⟩
  · exact Or.inl h
  · exact Or.inr ⟨b, o, ha, fun i x hx => (k.cell (p := ⟨b, o + i, none⟩) (World.block_lt_of_cell? w ⟨b, o + i, none⟩ (hc i x hx))).trans (hc i x hx)⟩
theorem Bb.lb {w : World} {b : Nat} {l : List Bool} (h : Bb w b l) : Lb w (some ⟨b, 0, none⟩) l := Or.inr ⟨b, 0, rfl, fun i x hx => by
  rw [Nat.zero_add, Cells.cell h]; simp [vb, hx]⟩
theorem pre_step {α : Type} {p q : List α} {k : Nat} {x y : α} (h : p.take k = q.take k) (hx : p[k]? = some x) (hy : q[k]? = some y) : p.take (k + 1) = q.take (k + 1) ↔ x = y := by
  rw [take_one hx, take_one hy, h]
  simp
set_option maxRecDepth 100000 in
set_option maxHeartbeats 2000000 in
theorem begins_c (a b : Option Addr) (p q : List Bool) (P Q C D : Nat) (r : Bool) (w : World) (h1 : Lb w a p) (h2 : Lb w b q) (hP : p.length = P) (hQ : q.length = Q) (hb : Q < 1048576) (hr : r = decide (q <+: p)) :
    Calls Tryd.prog 76 #[.slice a P C, .slice b Q D] w fun e w' => e = .returned (.bool r) ∧ Drawn w w' := by
  have AH : Aside (Lb w a p ∧ Lb w b q ∧ p.length = P ∧ q.length = Q ∧ Q < 1048576 ∧ r = decide (q <+: p)) := ⟨h1, h2, hP, hQ, hb, hr⟩
  clear h1 h2 hP hQ hb hr
  by_cases hlt : P < Q
  · have hi : (P : Int) < (Q : Int) := by omega
    have hf : r = false := by
      rw [AH.out.2.2.2.2.2]
      exact decide_eq_false fun h => by have := h.length_le; have := AH.out; omega
    subst hf
    clear hlt
    go_enter Tryd.func76, Tryd.ntmps76
    go_wp2_with fail
    go_ret
    exact ⟨rfl, Drawn.refl _⟩
  have hi : ¬ (P : Int) < (Q : Int) := by omega
  have AL : Aside (Q ≤ P) := by show _ ≤ _; omega
  clear hlt
  go_enter Tryd.func76, Tryd.ntmps76
  go_wp2_with fail
  clear hi
  go_loopg [5] Q (fun g si wr => ∃ i : Nat, si = .int .i64 i ∧ Aside (i + g = Q ∧ p.take i = q.take i ∧ Drawn w wr))
  case atStart => exact ⟨0, rfl, ⟨by omega, by simp, Drawn.refl _⟩⟩
  case round =>
    obtain ⟨i, rfl, hI⟩ := hrel
    by_cases hiQ : i < Q
    · have hi : (i : Int) < (Q : Int) := by omega
      have hi2 : (i : Int) < (P : Int) := by have := AL.out; omega
      obtain ⟨x, hx⟩ : ∃ x, p[i]? = some x := ⟨_, List.getElem?_eq_getElem (by have := AH.out; have := AL.out; omega)⟩
      obtain ⟨y, hy⟩ : ∃ y, q[i]? = some y := ⟨_, List.getElem?_eq_getElem (by have := AH.out; omega)⟩
      have hst := pre_step hI.out.2.1 hx hy
      have l1 := AH.out.1.below (Drawn.below hI.out.2.2 _)
      have l2 := AH.out.2.1.below (Drawn.below hI.out.2.2 _)
      rcases l1 with e | ⟨b1, o1, rfl, hc1⟩
      · rw [e] at hx; simp at hx
      rcases l2 with e | ⟨b2, o2, rfl, hc2⟩
      · rw [e] at hy; simp at hy
      have c1 := hc1 i x hx
      have c2 := hc2 i y hy
      have hib : (i : Int) < 1048576 := by have := AH.out; omega
      have AI : Aside (i < Q) := hiQ
      by_cases hxy : x = y
      · subst hxy
        have ht : Aside (p.take (i + 1) = q.take (i + 1)) := hst.2 rfl
        clear hx hy hst hc1 hc2 hiQ
        cases x
        all_goals (
          go_wp2_with fail
          go_quiet (fail)
          go_wp2_with fail
          have h1 := hI.out; have h2 := AI.out
          go_roundg (Q - (i + 1))
          case measure => omega
          case rel => exact ⟨i + 1, by go_num, ⟨by omega, ht.out, h1.2.2.drewN _⟩⟩)
      · have hf : r = false := by
          rw [AH.out.2.2.2.2.2]
          refine decide_eq_false fun h => hxy (hst.1 ?_)
          have h3 := List.prefix_iff_eq_take.1 h
          have h4 : q.take (i + 1) = p.take (i + 1) := by
            have hq := AH.out.2.2.2.1
            rw [h3, List.take_take, hq, Nat.min_eq_left (by have := AI.out; omega)]
          exact h4.symm
        subst hf
        clear hx hy hst hc1 hc2 hiQ
        cases x <;> cases y
        · exact absurd rfl hxy
        · clear hxy
          go_wp2_with fail
          go_quiet (fail)
          go_wp2_with fail
          go_ret
          exact ⟨rfl, hI.out.2.2.drewN _⟩
        · clear hxy
          go_wp2_with fail
          go_quiet (fail)
          go_wp2_with fail
          go_ret
          exact ⟨rfl, hI.out.2.2.drewN _⟩
        · exact absurd rfl hxy
    · have hi : ¬ (i : Int) < (Q : Int) := by omega
      have ht : r = true := by
        rw [AH.out.2.2.2.2.2]
        refine decide_eq_true ?_
        have h1 := hI.out.2.1
        rw [List.take_of_length_le (l := q) (by have := AH.out; omega)] at h1
        rw [← h1]; exact List.take_prefix _ _
      subst ht
      clear hiQ
      go_wp2_with fail
      go_ret
      exact ⟨rfl, hI.out.2.2⟩
end Go.Proofs.YtikdpnpkmmmacaaDoor

/-
  What the document's Look and Code come to.
  Conditions: the table and the bits lie in memory; the lengths make codes.
-/
namespace Go.Proofs.YtikdpnpkmmmacaaDoor
open Go.RowKit
set_option linter.unusedVariables false
/-- What a look at some bits tells: the symbol, what came, how many bits. -/
def Told (ls : List Nat) (h : List Bool) (s how k : Nat) : Prop :=
  (Hit ls h s k ∧ how = 0) ∨ ((∀ i n, ¬ Hit ls h i n) ∧ (∃ j n, ls[j]? = some n ∧ 0 < n ∧ h <+: cbits ls j) ∧ s = 0 ∧ how = 1 ∧ k = 0) ∨ ((∀ i n, ¬ Hit ls h i n) ∧ (¬ ∃ j n, ls[j]? = some n ∧ 0 < n ∧ h <+: cbits ls j) ∧ s = 0 ∧ how = 2 ∧ k = 0)
theorem cbits_at {ls : List Nat} {i n : Nat} (h : ls[i]? = some n) : cbits ls i = bitsB n (code ls i n) := by unfold cbits; rw [h]
set_option maxRecDepth 100000 in
set_option maxHeartbeats 4000000 in
theorem rlook_c (T : Nat) (ls : List Nat) (a : Option Addr) (h : List Bool) (H C L s how k : Nat) (w : World) (ht : Tb w T ls) (hl : Lb w a h) (hH : h.length = H) (hHb : H < 1048576) (hL : ls.length = L) (hLb : L ≤ 320) (hk : part ls 15 ≤ 32768) (h15 : ∀ l ∈ ls, l ≤ 15) (hr : Told ls h s how k) :
    Calls Tryd.prog 64 #[.pointer (some ⟨T, 0, none⟩), .slice a H C] w fun e w' => e = .returned (.tuple #[.int .i64 (s : Int), .int .i64 (how : Int), .int .i64 (k : Int)]) ∧ Drawn w w' := by
  have AH : Aside (Tb w T ls ∧ Lb w a h ∧ h.length = H ∧ H < 1048576 ∧ ls.length = L ∧ L ≤ 320 ∧ part ls 15 ≤ 32768 ∧ (∀ l ∈ ls, l ≤ 15)) := ⟨ht, hl, hH, hHb, hL, hLb, hk, h15⟩
  have AR : Aside (Told ls h s how k) := hr
  clear ht hl hH hHb hL hLb hk h15 hr
  obtain ⟨g, rows, cT, cR, hrow⟩ := AH.out.1.cells
  rw [AH.out.2.2.2.2.1] at cT
  have hTl := World.block_lt_of_cell? w ⟨T, 0, none⟩ cT
  have AT : Aside (w.cell? ⟨T, 0, none⟩ = some (.slice (some ⟨g, 0, none⟩) L L) ∧ T < w.heap.size ∧ Cells w g rows 92) := ⟨cT, hTl, cR⟩
  have AW : Aside (∀ (j m : Nat), ls[j]? = some m → (0 < m → ∃ b, rows[j]? = some (.slice (some ⟨b, 0, none⟩) m m) ∧ Bb w b (bitsB m (code ls j m))) ∧ (m = 0 → rows[j]? = some (.slice none 0 0))) := hrow
  clear cT cR hrow hTl
  go_enter Tryd.func64, Tryd.ntmps64
  go_wp2_with fail
  go_loopg [7, 8] L (fun gg sm si wr => ∃ (mo : Bool) (i : Nat), sm = .bool mo ∧ si = .int .i64 i ∧ Aside (i + gg = L ∧ (∀ j n, j < i → ¬ Hit ls h j n) ∧ (mo = true ↔ ∃ j n, j < i ∧ ls[j]? = some n ∧ 0 < n ∧ h <+: cbits ls j) ∧ Drawn w wr))
  case atStart => exact ⟨false, 0, rfl, rfl, ⟨by omega, fun j n h => by omega, ⟨fun h => (by cases h), fun ⟨j, n, h, _⟩ => by omega⟩, Drawn.refl _⟩⟩
  case round =>
    obtain ⟨mo, i, rfl, rfl, hI⟩ := hrel
    have bd := Drawn.below hI.out.2.2.2 w.heap.size
    have cT : wr.cell? ⟨T, 0, none⟩ = some (.slice (some ⟨g, 0, none⟩) L L) := (bd.cell (p := ⟨T, 0, none⟩) AT.out.2.1).trans AT.out.1
    by_cases hiL : i < L
    · have hi : (i : Int) < (L : Int) := by omega
      obtain ⟨l, hl⟩ : ∃ l, ls[i]? = some l := ⟨_, List.getElem?_eq_getElem (by have := AH.out; omega)⟩
      have hr := AW.out i l hl
      have cg : ∀ {v : Value}, rows[i]? = some v → wr.cell? ⟨g, i, none⟩ = some v := fun {v} hv => (bd.cell (p := ⟨g, i, none⟩) AT.out.2.2.lt).trans ((AT.out.2.2.cell i).trans hv)
      have hib : (i : Int) < 320 := by have := AH.out; omega
      have AI : Aside (i < L ∧ ls[i]? = some l) := ⟨hiL, hl⟩
      clear hiL hl
      by_cases hl0 : l = 0
      · subst hl0
        have cz := cg (hr.2 rfl)
        have A2 : Aside ((∀ j n, j < i + 1 → ¬ Hit ls h j n) ∧ (mo = true ↔ ∃ j n, j < i + 1 ∧ ls[j]? = some n ∧ 0 < n ∧ h <+: cbits ls j)) := by
          refine ⟨fun j n hj hh => ?_, ?_⟩
          · by_cases e : j = i
            · subst e; have := hh.1; rw [AI.out.2] at this; cases this; exact absurd hh.2.1 (by omega)
            · exact hI.out.2.1 j n (by omega) hh
          · rw [hI.out.2.2.1]
            constructor
            · rintro ⟨j, n, h1, h2⟩; exact ⟨j, n, by omega, h2⟩
            · rintro ⟨j, n, h1, h2, h3, h4⟩
              by_cases e : j = i
              · subst e; rw [AI.out.2] at h2; cases h2; omega
              · exact ⟨j, n, by omega, h2, h3, h4⟩
        clear hr cg bd
        go_wp2_with fail
        have h1 := hI.out; have h2 := AI.out
        go_roundg (L - (i + 1))
        case measure => omega
        case rel => exact ⟨mo, i + 1, rfl, by go_num, ⟨by omega, A2.out.1, A2.out.2, h1.2.2.2⟩⟩
      · obtain ⟨b, hb1, hb2⟩ := hr.1 (by omega)
        have cz := cg hb1
        have hlp : (l : Int) ≠ 0 := by omega
        have hle : ((l : Int) == 0) = false := by rw [beq_eq_false_iff_ne]; exact hlp
        have l15 := AH.out.2.2.2.2.2.2.2 l (List.mem_of_getElem? AI.out.2)
        have hlb : Lb w (some ⟨b, 0, none⟩) (cbits ls i) := by rw [cbits_at AI.out.2]; exact hb2.lb
        have hcl : (cbits ls i).length = l := by rw [cbits_at AI.out.2, bitsB_len]
        have hhit := hit_prefix (h := h) AH.out.2.2.2.2.2.2.1 AH.out.2.2.2.2.2.2.2 AI.out.2 (by omega)
        have A3 : Aside (l ≠ 0 ∧ l ≤ 15 ∧ Lb w (some ⟨b, 0, none⟩) (cbits ls i) ∧ (cbits ls i).length = l ∧ (cbits ls i <+: h ↔ Hit ls h i l)) := ⟨hl0, l15, hlb, hcl, hhit⟩
        have hbeg := begins_c a (some ⟨b, 0, none⟩) h (cbits ls i) H l C l (decide (cbits ls i <+: h)) wr (AH.out.2.1.below (Drawn.below hI.out.2.2.2 _)) (hlb.below (Drawn.below hI.out.2.2.2 _)) AH.out.2.2.1 hcl (by omega) rfl
        clear hr cg bd hb1 hb2 hl0 l15 hlb hcl hhit
        by_cases hp : cbits ls i <+: h
        · rw [decide_eq_true hp] at hbeg
          have A4 : Aside (i = s ∧ how = 0 ∧ l = k) := by
            have hh := A3.out.2.2.2.2.1 hp
            rcases AR.out with ⟨h1, h2⟩ | ⟨h1, _⟩ | ⟨h1, _⟩
            · obtain ⟨e1, e2⟩ := hit_one hh h1
              exact ⟨e1, h2, e2⟩
            · exact absurd hh (h1 i l)
            · exact absurd hh (h1 i l)
          clear hp
          go_wp2_with (go_at_call 76; refine hbeg.mono ?_; rintro e5 w5 ⟨rfl, hd5⟩)
          go_ret3
          obtain ⟨rfl, rfl, rfl⟩ := A4.out
          exact ⟨rfl, hI.out.2.2.2.trans hd5⟩
        · rw [decide_eq_false hp] at hbeg
          have A2 : Aside (∀ j n, j < i + 1 → ¬ Hit ls h j n) := by
            intro j n hj hh
            by_cases e : j = i
            · subst e
              have e2 := hh.1; rw [AI.out.2] at e2; cases e2
              exact hp (A3.out.2.2.2.2.2 hh)
            · exact hI.out.2.1 j n (by omega) hh
          clear hp
          cases mo with
          | true =>
            have A5 : Aside (∃ j n, j < i + 1 ∧ ls[j]? = some n ∧ 0 < n ∧ h <+: cbits ls j) := by
              obtain ⟨j, n, h1, h2⟩ := hI.out.2.2.1.1 rfl
              exact ⟨j, n, by omega, h2⟩
            go_wp2_with (go_at_call 76; refine hbeg.mono ?_; rintro e5 w5 ⟨rfl, hd5⟩)
            have h1 := hI.out; have h2 := AI.out
            go_roundg (L - (i + 1))
            case measure => omega
            case rel => exact ⟨true, i + 1, rfl, by go_num, ⟨by omega, A2.out, ⟨fun _ => A5.out, fun _ => rfl⟩, h1.2.2.2.trans hd5⟩⟩
          | false =>
            obtain ⟨q, hq⟩ : ∃ q, decide (h <+: cbits ls i) = q := ⟨_, rfl⟩
            have A5 : Aside (q = true ↔ ∃ j n, j < i + 1 ∧ ls[j]? = some n ∧ 0 < n ∧ h <+: cbits ls j) := by
              rw [← hq, decide_eq_true_iff]
              constructor
              · intro hh; exact ⟨i, l, by omega, AI.out.2, by have := A3.out; omega, hh⟩
              · rintro ⟨j, n, h1, h2, h3, h4⟩
                by_cases e : j = i
                · subst e; exact h4
                · exact absurd (hI.out.2.2.1.2 ⟨j, n, by omega, h2, h3, h4⟩) (by simp)
            have hbeg2 := fun (W : World) (hW : Drawn w W) => begins_c (some ⟨b, 0, none⟩) a (cbits ls i) h l H l C q W (A3.out.2.2.1.below (Drawn.below hW _)) (AH.out.2.1.below (Drawn.below hW _)) A3.out.2.2.2.1 AH.out.2.2.1 AH.out.2.2.2.1 hq.symm
            have BG : Aside (∀ W, Drawn w W → _) := hbeg2
            clear hbeg2 hq
            go_wp2_with (first
              | (go_at_call 76; with_reducible refine hbeg.mono ?_; rintro e5 w5 ⟨rfl, hd5⟩
                 have hdd : Drawn w w5 := hI.out.2.2.2.trans hd5
                 have hb2 := BG.out w5 hdd
                 have A6 : Aside (Drawn w w5) := hdd
                 clear hdd hd5)
              | (go_at_call 76; with_reducible refine hb2.mono ?_; rintro e6 w6 ⟨rfl, hd6⟩))
            have h1 := hI.out; have h2 := AI.out
            go_roundg (L - (i + 1))
            case measure => omega
            case rel => exact ⟨q, i + 1, rfl, by go_num, ⟨by omega, A2.out, A5.out, A6.out.trans hd6⟩⟩
    · have hi : ¬ (i : Int) < (L : Int) := by omega
      have hno : ∀ j n, ¬ Hit ls h j n := fun j n hh => hI.out.2.1 j n (by have := (List.getElem?_eq_some_iff.1 hh.1).1; have := AH.out; omega) hh
      have hmo : mo = true ↔ ∃ j n, ls[j]? = some n ∧ 0 < n ∧ h <+: cbits ls j := by
        rw [hI.out.2.2.1]
        constructor
        · rintro ⟨j, n, _, h2⟩; exact ⟨j, n, h2⟩
        · rintro ⟨j, n, h2⟩; exact ⟨j, n, by have := (List.getElem?_eq_some_iff.1 h2.1).1; have := AH.out; omega, h2⟩
      have A7 : Aside ((mo = true ∧ s = 0 ∧ how = 1 ∧ k = 0) ∨ (mo = false ∧ s = 0 ∧ how = 2 ∧ k = 0)) := by
        rcases AR.out with ⟨h1, _⟩ | ⟨_, h1, h2⟩ | ⟨_, h1, h2⟩
        · exact absurd h1 (hno s k)
        · exact Or.inl ⟨hmo.2 h1, h2⟩
        · refine Or.inr ⟨?_, h2⟩
          cases hm : mo with
          | false => rfl
          | true => exact absurd (hmo.1 hm) h1
      clear hiL hno hmo bd
      rcases A7.out with ⟨rfl, rfl, rfl, rfl⟩ | ⟨rfl, rfl, rfl, rfl⟩
      · go_wp2_with fail
        go_ret3
        exact ⟨rfl, hI.out.2.2.2⟩
      · go_wp2_with fail
        go_ret3
        exact ⟨rfl, hI.out.2.2.2⟩
theorem num_take_snoc {l : List Bool} {k : Nat} {x : Bool} (h : l[k]? = some x) : num (l.take (k + 1)) = 2 * num (l.take k) + (if x then 1 else 0) := by
  rw [take_one h, num_app]
  cases x <;> simp [num] <;> omega
end Go.Proofs.YtikdpnpkmmmacaaDoor

/-
  What Reverse comes to, the program's and the document's: the lowest m bits of v, the lowest one first, gathered as a number; m is n between 0 and 32.
  Conditions: v is a number of 32 bits.
-/
namespace Go.Proofs.YtikdpnpkmmmacaaDoor
open Go.RowKit
/-- k bits of v, the lowest one first, behind those of o. -/
def revl : Nat → Nat → Nat → Nat
  | 0, _, o => o
  | k + 1, v, o => revl k (v / 2) (2 * o + v % 2)
theorem revl_lt : ∀ (k v o i : Nat), o < 2 ^ i → revl k v o < 2 ^ (i + k)
  | 0, _, _, _, h => h
  | k + 1, v, o, i, h => by
    have := revl_lt k (v / 2) (2 * o + v % 2) (i + 1) (by rw [Nat.pow_succ]; omega)
    rw [show i + (k + 1) = i + 1 + k by omega]; exact this
theorem revl_add : ∀ (k v o : Nat), revl k v o = o * 2 ^ k + revl k v 0
  | 0, _, o => by simp [revl]
  | k + 1, v, o => by
    rw [revl, revl, revl_add k (v / 2) (2 * o + v % 2), revl_add k (v / 2) (2 * 0 + v % 2), Nat.pow_succ, Nat.add_mul, Nat.mul_zero, Nat.zero_add]
    rw [show 2 * o * 2 ^ k = o * (2 ^ k * 2) by rw [Nat.mul_comm 2 o, Nat.mul_assoc, Nat.mul_comm 2]]
    omega
/-- The highest bit comes last. -/
theorem revl_last : ∀ (k v : Nat), revl (k + 1) v 0 = 2 * revl k v 0 + v / 2 ^ k % 2
  | 0, v => by simp [revl]
  | k + 1, v => by
    rw [revl, revl_add (k + 1), revl_last k (v / 2), revl, revl_add k (v / 2) (2 * 0 + v % 2), Nat.div_div_eq_div_mul, ← Nat.pow_succ']
    rw [Nat.mul_zero, Nat.zero_add, Nat.pow_succ, ← Nat.mul_assoc]
    omega
theorem revl_div (k v : Nat) : revl k v 0 / 2 ^ k = 0 := Nat.div_eq_of_lt (by have := revl_lt k v 0 0 (by decide); rwa [Nat.zero_add] at this)
/-- Bits above the first k do not matter. -/
theorem revl_high : ∀ (k v o c : Nat), revl k (v + c * 2 ^ k) o = revl k v o
  | 0, _, _, _ => rfl
  | k + 1, v, o, c => by
    rw [revl, revl]
    have e : c * 2 ^ (k + 1) = 2 * (c * 2 ^ k) := by rw [Nat.pow_succ, ← Nat.mul_assoc, Nat.mul_comm]
    rw [e, show (v + 2 * (c * 2 ^ k)) % 2 = v % 2 by omega, show (v + 2 * (c * 2 ^ k)) / 2 = v / 2 + c * 2 ^ k by omega]
    exact revl_high k _ _ _
/-- Turned round again they are as they were. -/
theorem revl_twice : ∀ (k v : Nat), revl k (revl k v 0) 0 = v % 2 ^ k
  | 0, v => by simp [revl, Nat.mod_one]
  | k + 1, v => by
    rw [revl_last k (revl (k + 1) v 0)]
    have e1 : revl (k + 1) v 0 = revl k (v / 2) 0 + v % 2 * 2 ^ k := by rw [revl, revl_add, Nat.mul_zero, Nat.zero_add]; omega
    rw [e1, revl_high, revl_twice k (v / 2)]
    have h0 : 0 < 2 ^ k := Nat.two_pow_pos k
    have e2 : (revl k (v / 2) 0 + v % 2 * 2 ^ k) / 2 ^ k = v % 2 := by
      rw [Nat.add_mul_div_right _ _ h0, revl_div, Nat.zero_add]
    rw [e2]
    have e3 : v % 2 ^ (k + 1) = v % 2 + 2 * (v / 2 % 2 ^ k) := by rw [Nat.pow_succ', Nat.mod_mul]
    omega
/-- A bit more at the low end of a number of at most 31 bits. -/
theorem or_bit (o v i : Nat) (ho : o < 2 ^ i) (hi : i < 32) (hv : v < 4294967296) : bits .or .u32 ((o : Int) * 2 % 4294967296) (bits .and .u32 (v : Int) 1) = ((2 * o + v % 2 : Nat) : Int) := by
  have h1 : 2 ^ i ≤ 2147483648 := pow_le64 (show i ≤ 31 by omega)
  have e : (o : Int) * 2 % 4294967296 = ((2 * o : Nat) : Int) := by omega
  rw [e, show (1 : Int) = ((1 : Nat) : Int) from rfl, u32_and_nat v 1 hv (by decide), Nat.and_one_is_mod, u32_or_nat _ _ (by omega) (by omega)]
  congr 1
  exact (Nat.two_pow_add_eq_or_of_lt (i := 1) (b := v % 2) (by omega) o).symm

/-- n between 0 and 32. -/
def clamp (n : Int) : Nat := (max 0 (min n 32)).toNat
theorem clamp_le (n : Int) : clamp n ≤ 32 := by unfold clamp; omega

set_option maxHeartbeats 1000000 in
theorem rev_c (v : Nat) (hv : v < 4294967296) (n : Int) (w : World) :
    Calls Tryd.prog 88 #[.int .u32 v, .int .i64 n] w fun e w' => e = .returned (.int .u32 (revl (clamp n) v 0 : Nat)) ∧ w = w' := by
  obtain ⟨m, hm⟩ : ∃ m, clamp n = m := ⟨_, rfl⟩
  have hm2 : (m : Int) = max 0 (min n 32) := by unfold clamp at hm; omega
  rw [hm]
  go_enter Tryd.func88, Tryd.ntmps88
  go_wp2
  all_goals
    go_loop [0, 5, 9] (fun a o i => ∃ k v' o' : Nat, k ≤ m ∧ i = .int .i64 k ∧ a = .int .u32 v' ∧ o = .int .u32 o' ∧ v' < 4294967296 ∧ o' < 2 ^ k ∧ revl (m - k) v' o' = revl m v 0) (fun _ _ i => m - (intOf i).toNat)
    case atStart => exact ⟨0, v, 0, Nat.zero_le _, rfl, rfl, rfl, hv, by decide, rfl⟩
    case round =>
      obtain ⟨k, v', o', hk, rfl, rfl, rfl, hv', ho', hr⟩ := hrel
      go_wp2
      all_goals first
        | (have hlt : k < m := by omega
           obtain ⟨j, hj⟩ : ∃ j, m - k = j + 1 := ⟨m - k - 1, by omega⟩
           rw [hj, revl] at hr
           have hp : 2 ^ k ≤ 2147483648 := pow_le64 (show k ≤ 31 by omega)
           go_round
           case rel =>
             refine ⟨k + 1, v' / 2, 2 * o' + v' % 2, by omega, by go_num, by go_num, ?_, by omega, by rw [Nat.pow_succ]; omega, by rw [show m - (k + 1) = j by omega]; exact hr⟩
             rw [← or_bit o' v' k ho' (by omega) hv']
           case measure => simp [intOf]; omega)
        | (have hke : k = m := by omega
           subst hke
           rw [Nat.sub_self, revl] at hr
           go_ret
           exact ⟨by rw [← hr]; rfl, rfl⟩)
end Go.Proofs.YtikdpnpkmmmacaaDoor

/-
  Bits that a reader holds, as a number and turned round: the number of the first ones, the first one highest. No walk in this text.
-/
namespace Go.Proofs.YtikdpnpkmmmacaaDoor
open Go.RowKit
set_option linter.unusedVariables false
theorem radd_off (g o j : Nat) : (⟨g, o, none⟩ : Addr).add j = ⟨g, o + j, none⟩ := by unfold Addr.add; split <;> simp_all
theorem Told.le {ls : List Nat} {h : List Bool} {s how k : Nat} (t : Told ls h s how k) : k ≤ h.length := by
  rcases t with ⟨h1, _⟩ | ⟨_, _, _, _, rfl⟩ | ⟨_, _, _, _, rfl⟩
  · exact h1.2.2.1
  · omega
  · omega
theorem nm_bit {l : List Bool} {k : Nat} {x : Bool} (h : l[k]? = some x) : nm l / 2 ^ k % 2 = if x then 1 else 0 := by
  obtain ⟨hk, e⟩ := List.getElem?_eq_some_iff.1 h
  rw [← nm_drop, nm_ahead l k hk, e]
  cases x <;> simp <;> omega
theorem rev_num {l : List Bool} : ∀ k, k ≤ l.length → revl k (nm l) 0 = num (l.take k)
  | 0, _ => by simp [revl, num]
  | k + 1, h => by
    obtain ⟨x, hx⟩ : ∃ x, l[k]? = some x := ⟨_, List.getElem?_eq_getElem (by omega)⟩
    rw [revl_last, rev_num k (by omega), nm_bit hx, num_take_snoc hx]
/-- Of a number's lowest bits alone. -/
theorem rev_mod (n m v : Nat) (h : n ≤ m) : revl n (v % 2 ^ m) 0 = revl n v 0 := by
  have e : v = v % 2 ^ m % 2 ^ n + v / 2 ^ n * 2 ^ n := by
    rw [Nat.mod_mod_of_dvd _ (Nat.pow_dvd_pow 2 h), Nat.mul_comm]; exact (Nat.mod_add_div v (2 ^ n)).symm
  have e2 : v % 2 ^ m = v % 2 ^ m % 2 ^ n + v % 2 ^ m / 2 ^ n * 2 ^ n := by rw [Nat.mul_comm]; exact (Nat.mod_add_div _ _).symm
  rw [e2, revl_high, e, revl_high, ← e]
end Go.Proofs.YtikdpnpkmmmacaaDoor

/-
  Worlds in which of all blocks that were there one alone may have turned.
-/
namespace Go.Proofs.YtikdpnpkmmmacaaDoor
open Go.RowKit
set_option linter.unusedVariables false
/-- Of all blocks that are there M alone may have turned. -/
structure But (M : Nat) (w w' : World) : Prop where
  os : w'.os = w.os
  tape : w'.tape = w.tape
  output : w'.output = w.output
  size : w.heap.size ≤ w'.heap.size
  block : ∀ k, k < w.heap.size → k ≠ M → w'.heap[k]? = w.heap[k]?
end Go.Proofs.YtikdpnpkmmmacaaDoor

/-
  What each method of bits' Reader comes to: at a nil reader, and at one that lies in memory, whose wide number is v and whose count is n.
  Conditions: n is at most 64, and v is below 2 to the n.
-/
namespace Go.Proofs.YtikdpnpkmmmacaaDoor
open Go.RowKit

/-- A scope whose one label is jumped to, forward: what stands behind the label is gone through from there. -/
theorem wp_scope_forward {P : Program} {a : Act} {w : World} {Q : Exit → Act → World → Prop} {c rest : Code} (l : Nat) (hf : findLabel c l = some rest)
    (first : c.wp P (Exit.jump l (fun a w => rest.wp P (Exit.noGoto Q) a w) Q) a w) : (Code.scope c).wp P Q a w := by
  refine wp_scope_jumps l _ (fun _ _ => 0) hf first ?_
  intro a w h
  refine wp_mono h ?_
  intro e a w hq
  cases e with
  | goto l => exact hq.elim
  | _ => exact hq
section
variable {Q : Exit → Act → World → Prop} {a : Act} {w : World} {l : Nat} {J : Act → World → Prop}
theorem jump_ret : Exit.jump l J Q .ret a w = Q .ret a w := rfl
end

/-! ### nil -/
theorem held_nil (w : World) : Calls Tryd.prog 87 #[.pointer none] w fun e w' => e = .returned (.int .i64 0) ∧ w' = w := by
  go_enter Tryd.func87, Tryd.ntmps87
  go_wp2
  go_ret
  exact ⟨rfl, rfl⟩
theorem put_nil (b : Int) (w : World) : Calls Tryd.prog 34 #[.pointer none, .int .u8 b] w fun e w' => e = .returned (.bool false) ∧ w' = w := by
  go_enter Tryd.func34, Tryd.ntmps34
  go_wp2
  refine wp_scope_forward 0 rfl ?_
  go_wp2
  go_step3
  refine ⟨rfl, ?_⟩
  go_wp2
  rw [Exit.noGoto_ret]
  go_ret
  exact ⟨rfl, rfl⟩
theorem peek_nil (n : Int) (w : World) : Calls Tryd.prog 67 #[.pointer none, .int .i64 n] w fun e w' => e = .returned (.tuple #[.int .u32 0, .bool false]) ∧ w' = w := by
  go_enter Tryd.func67, Tryd.ntmps67
  go_wp2
  refine wp_scope_forward 0 rfl ?_
  go_wp2
  go_step3
  refine ⟨rfl, ?_⟩
  go_wp2
  rw [Exit.noGoto_ret]
  go_ret2
  exact ⟨rfl, rfl⟩
theorem take_nil (n : Int) (w : World) : Calls Tryd.prog 50 #[.pointer none, .int .i64 n] w fun e w' => e = .returned (.tuple #[.int .u32 0, .bool false]) ∧ w' = w := by
  go_enter Tryd.func50, Tryd.ntmps50
  go_wp2_with fail
  refine wp_scope_forward 0 rfl ?_
  go_wp2_with fail
  refine (peek_nil n _).mono ?_
  rintro e w' ⟨rfl, rfl⟩
  go_wp2_with fail
  go_step3
  refine ⟨rfl, ?_⟩
  go_wp2
  rw [Exit.noGoto_ret]
  go_ret2
  exact ⟨rfl, rfl⟩
/-! ### a reader that is there -/
/-- Block b holds a reader: its wide number, and its count. -/
def Rd (w : World) (b : Nat) (v n : Int) : Prop := ∃ t, Cells w b #[.int .u64 v, .int .u64 n] t
section
variable {w u : World} {b c : Nat} {v n : Int}
theorem Rd.c0 (h : Rd w b v n) : w.cell? ⟨b, 0, none⟩ = some (.int .u64 v) := by obtain ⟨t, h⟩ := h; rw [h.cell 0]; rfl
theorem Rd.c1 (h : Rd w b v n) : w.cell? ⟨b, 1, none⟩ = some (.int .u64 n) := by obtain ⟨t, h⟩ := h; rw [h.cell 1]; rfl
theorem Rd.fz (h : Rd w b v n) (i : Nat) : w.frozen? ⟨b, i, none⟩ = false := by obtain ⟨t, h⟩ := h; exact h.frozen i
theorem Rd.set0 (h : Rd w b v n) (v' : Int) : Rd (w.setCell ⟨b, 0, none⟩ (.int .u64 v')) b v' n := by obtain ⟨t, h⟩ := h; exact ⟨t, h.set 0 _⟩
theorem Rd.set1 (h : Rd w b v n) (n' : Int) : Rd (w.setCell ⟨b, 1, none⟩ (.int .u64 n')) b v n' := by obtain ⟨t, h⟩ := h; exact ⟨t, h.set 1 _⟩
theorem Rd.drewN (h : Rd w b v n) (k : Nat) : Rd (w.drewN k) b v n := h
theorem Rd.drew (h : Rd w b v n) : Rd w.drew b v n := h
theorem Rd.only (h : Rd w b v n) (k : Only c w u) (hb : b ≠ c) : Rd u b v n := by obtain ⟨t, h⟩ := h; exact ⟨t, h.only k hb⟩
theorem Rd.below {B : Nat} (h : Rd w b v n) (k : Below B w u) (hb : b < B) : Rd u b v n := by obtain ⟨t, h⟩ := h; exact ⟨t, h.below k hb⟩
theorem Rd.alloc (h : Rd w b v n) (o : Obj) : Rd (w.alloc o) b v n := by obtain ⟨t, h⟩ := h; exact ⟨t, h.alloc o⟩
theorem Rd.lt (h : Rd w b v n) : b < w.heap.size := by obtain ⟨t, h⟩ := h; exact h.lt
end
theorem Rd.new (w : World) (t : TypeId) : Rd (w.alloc (.cells #[.int .u64 0, .int .u64 0] t)) w.heap.size 0 0 := ⟨t, Cells.new w _ t⟩

theorem new_any (w : World) : Calls Tryd.prog 31 #[] w fun e w' => e = .returned (.pointer (some ⟨w.heap.size, 0, none⟩)) ∧ w' = w.alloc (.cells #[.int .u64 0, .int .u64 0] 102) := by
  go_enter Tryd.func31, Tryd.ntmps31
  go_wp2
  go_ret
  exact ⟨rfl, rfl⟩
theorem new_c (w : World) : Calls Tryd.prog 31 #[] w fun e w' => e = .returned (.pointer (some ⟨w.heap.size, 0, none⟩)) ∧ Rd w' w.heap.size 0 0 ∧ Below w.heap.size w w' ∧ w'.heap.size = w.heap.size + 1 :=
  (new_any w).mono fun _ _ h => ⟨h.1, by rw [h.2]; exact Rd.new _ _, by rw [h.2]; exact (Below.refl _ _).alloc (Nat.le_refl _) _, by rw [h.2]; simp⟩
theorem held_c (b : Nat) (v n : Int) (w : World) (h : Rd w b v n) (h0 : 0 ≤ n) (h64 : n ≤ 64) :
    Calls Tryd.prog 87 #[.pointer (some ⟨b, 0, none⟩)] w fun e w' => e = .returned (.int .i64 n) ∧ w = w' := by
  have h1 := h.c1
  go_enter Tryd.func87, Tryd.ntmps87
  go_wp2
  go_ret
  exact ⟨rfl, rfl⟩
end Go.Proofs.YtikdpnpkmmmacaaDoor

/-
  What each method of bits' Reader comes to, at a reader in memory that holds n bits, their number v.
  Conditions: n is at most 64, and v is below 2 to the n; each method keeps that.
-/
namespace Go.Proofs.YtikdpnpkmmmacaaDoor
open Go.RowKit

/-- Block b holds a reader of n bits, whose number is v. -/
structure Br (w : World) (b v n : Nat) : Prop where
  rd : Rd w b v n
  lt : v < 2 ^ n
  le : n ≤ 64
section
variable {w u : World} {b c v n : Nat}
theorem Br.drewN (h : Br w b v n) (k : Nat) : Br (w.drewN k) b v n := ⟨h.rd, h.lt, h.le⟩
theorem Br.drew (h : Br w b v n) : Br w.drew b v n := ⟨h.rd, h.lt, h.le⟩
theorem Br.only (h : Br w b v n) (k : Only c w u) (hb : b ≠ c) : Br u b v n := ⟨h.rd.only k hb, h.lt, h.le⟩
theorem Br.below {B : Nat} (h : Br w b v n) (k : Below B w u) (hb : b < B) : Br u b v n := ⟨h.rd.below k hb, h.lt, h.le⟩
theorem Br.alloc (h : Br w b v n) (o : Obj) : Br (w.alloc o) b v n := ⟨h.rd.alloc o, h.lt, h.le⟩
theorem Br.blt (h : Br w b v n) : b < w.heap.size := h.rd.lt
end
theorem new_b (w : World) : Calls Tryd.prog 31 #[] w fun e w' => e = .returned (.pointer (some ⟨w.heap.size, 0, none⟩)) ∧ Br w' w.heap.size 0 0 ∧ Below w.heap.size w w' ∧ w'.heap.size = w.heap.size + 1 :=
  (new_c w).mono fun _ _ h => ⟨h.1, ⟨h.2.1, by decide, by decide⟩, h.2.2⟩
theorem held_b (b v n : Nat) (w : World) (h : Br w b v n) : Calls Tryd.prog 87 #[.pointer (some ⟨b, 0, none⟩)] w fun e w' => e = .returned (.int .i64 n) ∧ w = w' :=
  held_c b v n w h.rd (by omega) (by have := h.le; omega)
theorem drop_b (b v n k : Nat) (w : World) (h : Br w b v n) (hk : k ≤ n) :
    Calls Tryd.prog 57 #[.pointer (some ⟨b, 0, none⟩), .int .u64 k] w fun e w' => e = .returned (.tuple #[]) ∧ Br w' b (v / 2 ^ k) (n - k) ∧ Only b w w' := by
  have h1 := h.rd.c0
  have h2 := h.rd.c1
  have h3 := h.rd.fz 0
  have h4 := h.rd.fz 1
  have h64 := h.le
  have hv := lt_word h.lt h.le
  go_enter Tryd.func57, Tryd.ntmps57
  go_wp2
  go_end0
  refine ⟨rfl, ⟨?_, div_lt v n k h.lt hk, by omega⟩, ?_⟩
  · have := (h.rd.set0 ((v : Int) / 2 ^ k)).set1 ((n : Int) - k)
    rw [div_nat] at this
    rw [show ((n - k : Nat) : Int) = (n : Int) - k by omega]
    simpa only [Int.toNat_natCast, div_nat] using this
  · exact ((Only.refl _ _).setCell _ _).setCell _ _
theorem put_no (b v n x : Nat) (w : World) (h : Br w b v n) (hn : 56 < n) :
    Calls Tryd.prog 34 #[.pointer (some ⟨b, 0, none⟩), .int .u8 x] w fun e w' => e = .returned (.bool false) ∧ w = w' := by
  have h2 := h.rd.c1
  have hn' : (56 : Int) < n := by omega
  go_enter Tryd.func34, Tryd.ntmps34
  go_wp2
  refine wp_scope_forward 0 rfl ?_
  go_wp2
  go_step3
  refine ⟨rfl, ?_⟩
  go_wp2
  rw [Exit.noGoto_ret]
  go_ret
  exact ⟨rfl, rfl⟩
theorem put_yes (b v n x : Nat) (w : World) (h : Br w b v n) (hn : n ≤ 56) (hx : x < 256) :
    Calls Tryd.prog 34 #[.pointer (some ⟨b, 0, none⟩), .int .u8 x] w fun e w' => e = .returned (.bool true) ∧ Br w' b (v + x * 2 ^ n) (n + 8) ∧ Only b w w' := by
  have h1 := h.rd.c0
  have h2 := h.rd.c1
  have h3 := h.rd.fz 0
  have h4 := h.rd.fz 1
  have hn' : ¬ (56 : Int) < n := by omega
  have hv := lt_word h.lt h.le
  go_enter Tryd.func34, Tryd.ntmps34
  go_wp2
  refine wp_scope_forward 0 rfl ?_
  go_wp2
  go_region
  go_wp2
  rw [jump_ret]
  go_ret
  refine ⟨rfl, ⟨?_, put_lt v n x h.lt hx, by omega⟩, ?_⟩
  · rw [or_put v n x h.lt hn hx]
    have := ((h.rd.set0 ((v + x * 2 ^ n : Nat) : Int)).set1 ((n : Int) + 8)).drew
    rw [show ((n + 8 : Nat) : Int) = (n : Int) + 8 by omega]
    exact this
  · exact (((Only.refl _ _).setCell _ _).setCell _ _).drew
/-- So many bits can be told: not below 0, not above 32, not above what is held. -/
def Can (k : Int) (n : Nat) : Prop := 0 ≤ k ∧ k ≤ 32 ∧ k ≤ n
theorem peek_no (b v n : Nat) (k : Int) (w : World) (h : Br w b v n) (hk : ¬ Can k n) :
    Calls Tryd.prog 67 #[.pointer (some ⟨b, 0, none⟩), .int .i64 k] w fun e w' => e = .returned (.tuple #[.int .u32 0, .bool false]) ∧ w = w' := by
  have h2 := h.rd.c1
  have h64 := h.le
  go_enter Tryd.func67, Tryd.ntmps67
  go_wp2
  refine wp_scope_forward 0 rfl ?_
  unfold Can at hk
  by_cases c1 : k < 0
  · go_wp2
    go_step3
    refine ⟨rfl, ?_⟩
    go_wp2
    rw [Exit.noGoto_ret]
    go_ret2
    exact ⟨rfl, rfl⟩
  · by_cases c2 : 32 < k
    · go_wp2
      go_step3
      refine ⟨rfl, ?_⟩
      go_wp2
      rw [Exit.noGoto_ret]
      go_ret2
      exact ⟨rfl, rfl⟩
    · have c3 : (n : Int) < k := by omega
      go_wp2
      go_step3
      refine ⟨rfl, ?_⟩
      go_wp2
      rw [Exit.noGoto_ret]
      go_ret2
      exact ⟨rfl, rfl⟩
theorem peek_yes (b v n k : Nat) (w : World) (h : Br w b v n) (hk : k ≤ 32) (hkn : k ≤ n) :
    Calls Tryd.prog 67 #[.pointer (some ⟨b, 0, none⟩), .int .i64 k] w fun e w' => e = .returned (.tuple #[.int .u32 ((v % 2 ^ k : Nat) : Int), .bool true]) ∧ w = w' := by
  have h1 := h.rd.c0
  have h2 := h.rd.c1
  have h64 := h.le
  have e1 : ¬ (k : Int) < 0 := by omega
  have e2 : ¬ (32 : Int) < k := by omega
  have e3 : ¬ (n : Int) < k := by omega
  have hv := lt_word h.lt h.le
  have hm := and_mask v k hv hk
  go_enter Tryd.func67, Tryd.ntmps67
  go_wp2
  refine wp_scope_forward 0 rfl ?_
  go_wp2
  rw [jump_ret]
  go_ret2
  refine ⟨?_, rfl⟩
  simp only [hm, Array.getD]
  rfl
theorem take_no (b v n : Nat) (k : Int) (w : World) (h : Br w b v n) (hk : ¬ Can k n) :
    Calls Tryd.prog 50 #[.pointer (some ⟨b, 0, none⟩), .int .i64 k] w fun e w' => e = .returned (.tuple #[.int .u32 0, .bool false]) ∧ w = w' := by
  go_enter Tryd.func50, Tryd.ntmps50
  go_wp2_with fail
  refine wp_scope_forward 0 rfl ?_
  go_wp2_with fail
  refine (peek_no b v n k _ h hk).mono ?_
  rintro e w' ⟨rfl, rfl⟩
  go_wp2_with fail
  go_step3
  refine ⟨rfl, ?_⟩
  go_wp2
  rw [Exit.noGoto_ret]
  go_ret2
  exact ⟨rfl, rfl⟩
theorem take_yes (b v n k : Nat) (w : World) (h : Br w b v n) (hk : k ≤ 32) (hkn : k ≤ n) :
    Calls Tryd.prog 50 #[.pointer (some ⟨b, 0, none⟩), .int .i64 k] w fun e w' => e = .returned (.tuple #[.int .u32 ((v % 2 ^ k : Nat) : Int), .bool true]) ∧ Br w' b (v / 2 ^ k) (n - k) ∧ Only b w w' := by
  have h64 := h.le
  go_enter Tryd.func50, Tryd.ntmps50
  go_wp2_with fail
  refine wp_scope_forward 0 rfl ?_
  go_wp2_with fail
  refine (peek_yes b v n k _ h hk hkn).mono ?_
  rintro e w' ⟨rfl, rfl⟩
  go_wp2_with fail
  refine (drop_b b v n k _ h hkn).mono ?_
  rintro e w' ⟨rfl, hb, ho⟩
  go_wp2_with fail
  rw [jump_ret]
  go_ret2
  exact ⟨rfl, hb, ho⟩
theorem align_b (b v n : Nat) (w : World) (h : Br w b v n) :
    Calls Tryd.prog 51 #[.pointer (some ⟨b, 0, none⟩)] w fun e w' => e = .returned (.int .i64 ((n % 8 : Nat) : Int)) ∧ Br w' b (v / 2 ^ (n % 8)) (n - n % 8) ∧ Only b w w' := by
  have h2 := h.rd.c1
  have h64 := h.le
  have e : ((n % 8 : Nat) : Int) = (n : Int) % 8 := by omega
  go_enter Tryd.func51, Tryd.ntmps51
  go_wp2_with fail
  rw [← e]
  refine (drop_b b v n (n % 8) _ h (Nat.mod_le _ _)).mono ?_
  rintro e w' ⟨rfl, hb, ho⟩
  go_wp2_with fail
  go_ret
  exact ⟨rfl, hb, ho⟩
theorem clear_b (b v n : Nat) (w : World) (h : Br w b v n) :
    Calls Tryd.prog 37 #[.pointer (some ⟨b, 0, none⟩)] w fun e w' => e = .returned (.tuple #[]) ∧ Br w' b 0 0 ∧ Only b w w' := by
  have h2 := h.rd.c1
  have h64 := h.le
  go_enter Tryd.func37, Tryd.ntmps37
  go_wp2_with fail
  refine (drop_b b v n n _ h (Nat.le_refl _)).mono ?_
  rintro e w' ⟨rfl, hb, ho⟩
  rw [Nat.div_eq_of_lt h.lt, Nat.sub_self] at hb
  go_wp2_with fail
  go_end0
  exact ⟨rfl, hb, ho⟩
end Go.Proofs.YtikdpnpkmmmacaaDoor

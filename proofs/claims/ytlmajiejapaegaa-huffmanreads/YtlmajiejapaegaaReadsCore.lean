/-
  HuffmanReads, behind the opening of its arguments: the call answers true, and what lay in memory is as it was.
  Conditions: the program keeps its contracts; the lengths, the bytes and the numbers of reads lie in memory.
-/
import Derived.Test.YtlmajiejapaegaaMakesCore
import Derived.Test.YtlmajiejapaegaaRefD
import Derived.Deep.RegionHeld3
namespace Go.Proofs.Ytlmajiejapaegaa
open Go.RowKit
set_option linter.unusedVariables false
variable {PT : World → Nat → Nat → Nat → List Nat → Prop}
/-- Bytes that lie side by side. -/
def Lies (w : World) (a : Option Addr) (l : List Nat) : Prop := l = [] ∨ ∃ (b o : Nat), a = some ⟨b, o, none⟩ ∧ ∀ (i x : Nat), l[i]? = some x → w.cell? ⟨b, o + i, none⟩ = some (.int .u8 (x : Int))
theorem Lies.below {w u : World} {a : Option Addr} {l : List Nat} (h : Lies w a l) (k : Below w.heap.size w u) : Lies u a l := by
  rcases h with h | ⟨b, o, ha, hc⟩
  · exact Or.inl h
  · exact Or.inr ⟨b, o, ha, fun i x hx => (k.cell (p := ⟨b, o + i, none⟩) (World.block_lt_of_cell? w ⟨b, o + i, none⟩ (hc i x hx))).trans (hc i x hx)⟩
def Oct (l : List Nat) : Prop := ∀ x ∈ l, x < 256
theorem Rf.but {w u : World} {C base H : Nat} {v : Value} {l : List Bool} (h : Rf w C base v l) (k : But H w u) (hH : H < C) : Rf u C base v l := by
  have hlt := h.lt
  have hle := h.le
  refine ⟨(World.cell?_of_block (a := ⟨C, 0, none⟩) (k.block C (by omega) (by omega))).trans h.cell, (World.frozen?_of_block (a := ⟨C, 0, none⟩) (k.block C (by omega) (by omega))).trans h.fz, ?_, h.lt, Nat.le_trans h.le k.size⟩
  refine h.own.kept (row := some H) ⟨k.os, k.tape, k.output, k.size, fun i hi hn => k.block i hi (fun e => hn (by rw [e]))⟩ (Or.inr ?_)
  intro e
  have := (h.own.lt H e).1
  omega
theorem told_any (ls : List Nat) (h : List Bool) : ∃ s how k, Told ls h s how k := by
  by_cases h1 : ∃ i n, Hit ls h i n
  · obtain ⟨i, n, hi⟩ := h1
    exact ⟨i, 0, n, Or.inl ⟨hi, rfl⟩⟩
  · have h2 : ∀ i n, ¬ Hit ls h i n := fun i n hi => h1 ⟨i, n, hi⟩
    by_cases h3 : ∃ j n, ls[j]? = some n ∧ 0 < n ∧ h <+: cbits ls j
    · exact ⟨0, 1, 0, Or.inr (Or.inl ⟨h2, h3, rfl, rfl, rfl⟩)⟩
    · exact ⟨0, 2, 0, Or.inr (Or.inr ⟨h2, h3, rfl, rfl, rfl⟩)⟩
set_option maxRecDepth 100000 in
set_option maxHeartbeats 8000000 in
theorem reads_core (hu : Hu PT) (w : World) (a : Option Addr) (zs : List Int) (L C : Nat) (hl : Lens w a zs) (hL : zs.length = L) (hLC : L ≤ C) (hC : L * 8 < 140737488355328) (hz : a = none → L = 0 ∧ C = 0)
    (ta : Option Addr) (t : List Nat) (TL TC : Nat) (ht : Lies w ta t) (hTL : t.length = TL) (hto : Oct t) (ra : Option Addr) (rs : List Nat) (RL RC : Nat) (hrs : Lies w ra rs) (hRL : rs.length = RL) (hro : Oct rs) :
    Calls Try.prog 4 #[.slice a L C, .slice ta TL TC, .slice ra RL RC] w fun e w' => e = .returned (.bool true) ∧ Below w.heap.size w w' := by
  have AB : Aside (Lens w a zs ∧ zs.length = L ∧ L ≤ C ∧ L * 8 < 140737488355328 ∧ (a = none → L = 0 ∧ C = 0)) := ⟨hl, hL, hLC, hC, hz⟩
  have AT : Aside (Lies w ta t ∧ t.length = TL ∧ Oct t ∧ Lies w ra rs ∧ rs.length = RL ∧ Oct rs) := ⟨ht, hTL, hto, hrs, hRL, hro⟩
  obtain ⟨H, hH⟩ : ∃ H, w.heap.size = H := ⟨_, rfl⟩
  have AW : Aside (w.heap.size = H) := hH
  rw [hH]
  clear hl hL hLC hC hz ht hTL hto hrs hRL hro
  obtain ⟨e0, he0⟩ : ∃ e0, nerr zs = e0 := ⟨_, rfl⟩
  have AE : Aside (nerr zs = e0) := he0
  clear he0
  go_enter Try.func4, Try.ntmps4
  by_cases hz0 : e0 = 0
  · subst hz0
    go_upto_region 2 with (first
      | (at_builtin; refine wpList_appn _ rfl (.tmp 21) (.tmp 22) rfl w (by rfl) H AW.out.symm (by rfl) a zs L C AB.out.2.1 (by rfl) AB.out.2.2.2.2 AB.out.1 (by rw [AB.out.2.1]; exact Nat.le_of_lt AB.out.2.2.2.1) ?_; intro v1 w1 h1
         obtain ⟨a1, C1, hv1, hl1, hc1, hs1⟩ := h1.shape
         rw [AB.out.2.1] at hv1 hc1
         subst hv1
         have hn1 := hu.new_ok a1 zs L C1 w1 hl1 AB.out.2.1 hc1 (by have := AB.out; omega) AE.out
         have A1 : Aside (Below w.heap.size w w1) := h1.bel
         clear h1 hl1 hc1 hs1)
      | (go_at_call 10; refine hn1.mono ?_; rintro e2 w2 ⟨T, rfl, hp2, hb2⟩))
    have bw2 : Below w.heap.size w w2 := A1.out.trans (hb2.mono A1.out.size)
    have hq := rnew_ok a zs L C w2 (AB.out.1.below bw2) AB.out.2.1 AE.out
    have A2 : Aside (PT w2 w1.heap.size w2.heap.size T (lens zs) ∧ Below w.heap.size w w2) := ⟨hp2, bw2⟩
    clear hn1 hp2 hb2 bw2 hH
    go_upto_region 3 with (go_at_call 11; refine hq.mono ?_; rintro e3 w3 ⟨Tq, rfl, hq3, hb3, hk3⟩)
    obtain ⟨b, hb⟩ : ∃ b, w3.heap.size = b := ⟨_, rfl⟩
    have hnw := new_b w3
    rw [hb] at hnw
    have A3 : Aside (PT w3 w1.heap.size w2.heap.size T (lens zs) ∧ w2.heap.size ≤ b ∧ Below w.heap.size w w3 ∧ w3.heap.size = b ∧ (∀ u, (∀ k, w2.heap.size ≤ k → k < w3.heap.size → u.heap[k]? = w3.heap[k]?) → Tb u Tq (lens zs))) := ⟨hu.below A2.out.1 hb3 (Nat.le_refl _), by rw [← hb]; exact hb3.size, A2.out.2.trans (hb3.mono A2.out.2.size), hb, hk3⟩
    clear hq hq3 hb3 hk3 hb
    go_upto_region 4 with (go_at_call 16; refine hnw.mono ?_; rintro e4 w4 ⟨rfl, hr4, hb4, hs4⟩)
    obtain ⟨w5, hw5⟩ : ∃ w5, w5 = w4.alloc (.cells #[.slice none 0 0] 44) := ⟨_, rfl⟩
    have hs5 : w5.heap.size = b + 2 := by rw [hw5]; show (w4.heap.push _).size = _; simp; have := A3.out; omega
    have hw4b : w4.heap.size = b + 1 := by have := A3.out; omega
    have A5 : Aside (Both w5 b (b + 1) (.slice none 0 0) [] ∧ Below b w3 w5) := by
      have k5 : Cells w5 (b + 1) #[.slice none 0 0] 44 := by rw [hw5, ← hw4b]; exact Cells.new w4 _ 44
      refine ⟨⟨?_, Rf.nil (Cells.cell k5 0) (Cells.frozen k5 0) (by omega) (by omega), by omega⟩, ?_⟩
      · rw [hw5]; exact hr4.alloc _
      · rw [hw5]; exact hb4.alloc (by omega) _
    go_upto_region 9 with fail
    rw [← hw5]
    have A6 : Aside (∀ W, Below b w3 W → PT W w1.heap.size w2.heap.size T (lens zs) ∧ Tb W Tq (lens zs) ∧ Below w.heap.size w W) := by
      intro W hW
      obtain ⟨k1, k2, k3, k4, k5⟩ := A3.out
      exact ⟨hu.keep k1 fun k _ h2 => hW.block k (by omega), k5 W fun k _ h2 => hW.block k (by omega), k3.trans (hW.mono (by have := k3.size; omega))⟩
    obtain ⟨h1, h2, h3⟩ := nerr_ok AE.out
    have A7 : Aside (part (lens zs) 15 ≤ 32768 ∧ (∀ x ∈ lens zs, x ≤ 15) ∧ (lens zs).length = L ∧ L ≤ 320 ∧ w.heap.size ≤ b) := ⟨by rw [← kr_part (lens_15 h1)]; exact h2, lens_15 h1, by rw [lens_len]; exact AB.out.2.1, by have := h1.1; have := AB.out; omega, by have := A3.out.2.2.1.size; have := A3.out; omega⟩
    clear hnw hr4 hb4 hs4 hs5 hw4b hw5 h1 h2 h3 A1 A2 A3
    go_wp2_with fail
    go_loopg [13] 300 (fun g si wr => ∃ i : Nat, si = .int .i64 i ∧ Aside (i + g = 300 ∧ ∃ v l, Both wr b (b + 1) v l ∧ Below b w3 wr))
    case atStart => exact ⟨0, rfl, ⟨by omega, _, _, A5.out⟩⟩
    case round =>
      obtain ⟨i, rfl, hI⟩ := hrel
      by_cases hgo : i ≤ TL ∧ i < 300
      · have hi : (i : Int) ≤ (TL : Int) := by omega
        have hi3 : (i : Int) < 300 := by omega
        have AI : Aside (i ≤ TL ∧ i < 300) := hgo
        have A8 : Aside (∃ v l, Both wr b (b + 1) v l ∧ Below b w3 wr) := hI.out.2
        obtain ⟨wq, hwq⟩ : ∃ wq, wq = wr := ⟨_, rfl⟩
        subst hwq
        clear hgo
        go_upto_if 65 with fail
        go_cut [14] (fun s14 wc => Aside (∃ n : Nat, n < 12 ∧ s14 = .int .i64 n ∧ wq = wc))
        case first =>
          by_cases hiR : i < RL
          · have r1 : (i : Int) < (RL : Int) := by omega
            obtain ⟨x, hx⟩ : ∃ x, rs[i]? = some x := ⟨_, List.getElem?_eq_getElem (by have := AT.out; omega)⟩
            have hx256 := AT.out.2.2.2.2.2 x (List.mem_of_getElem? hx)
            obtain ⟨v0, l0, hB0, hb0⟩ := A8.out
            rcases AT.out.2.2.2.1.below (A6.out wq hb0).2.2 with e | ⟨b1, o1, rfl, hc⟩
            · rw [e] at hx; simp at hx
            have cx := hc i x hx
            clear hc hx hiR hB0 hb0
            go_wp2_with fail
            go_meet
            exact ⟨x % 12, by omega, by go_num, rfl⟩
          · have r1 : ¬ (i : Int) < (RL : Int) := by omega
            clear hiR
            go_wp2_with fail
            go_meet
            exact ⟨1, by omega, rfl, rfl⟩
        case rest =>
          obtain ⟨n, hn12, rfl, rfl⟩ := hcut.out
          have hnb : (n : Int) < 12 := by omega
          clear hcut
          go_wp2_with fail
          go_loopg [15] n (fun g sk wr => ∃ k : Nat, sk = .int .i64 k ∧ Aside (k + g = n ∧ ∃ v l, Both wr b (b + 1) v l ∧ Below b w3 wr))
          case atStart => exact ⟨0, rfl, ⟨by omega, A8.out⟩⟩
          case round =>
            obtain ⟨k, rfl, hK⟩ := hrel
            obtain ⟨v, l, hB, hb3⟩ := hK.out.2
            by_cases hkn : k < n
            · have hk : (k : Int) < (n : Int) := by omega
              obtain ⟨s, how, j, htold⟩ := told_any (lens zs) l
              obtain ⟨k1, k2, k3⟩ := A6.out wr hb3
              have hrd := hu.read w1.heap.size w2.heap.size T (lens zs) b s how j l wr k1 A7.out.1 A7.out.2.1 hB.br htold
              have AK : Aside (k < n ∧ Both wr b (b + 1) v l ∧ Below b w3 wr ∧ Told (lens zs) l s how j) := ⟨hkn, hB, hb3, htold⟩
              have ns : ((s : Int) != (s : Int)) = false := by simp
              have nh : ((how : Int) != (how : Int)) = false := by simp
              have hkb : (k : Int) < 12 := by omega
              clear hkn hB hb3 htold k1 k2 k3
              go_upto_region 19 with (go_at_call 17; refine hrd.mono ?_; rintro e7 w7 ⟨rfl, hr7, hbut⟩)
              have bb7 : Below b w3 w7 := AK.out.2.2.1.trans ⟨hbut.os, hbut.tape, hbut.output, hbut.size, fun x hx => hbut.block x (by have := AK.out.2.1.br.blt; omega) (by omega)⟩
              have hq7 := rread_c Tq (lens zs) L s how j (b + 1) (b + 1 + 1) v l w7 (A6.out w7 bb7).2.1 A7.out.2.2.1 A7.out.2.2.2.1 A7.out.1 A7.out.2.1 (AK.out.2.1.rf.but hbut (by omega)) AK.out.2.1.br.le AK.out.2.2.2
              have A9 : Aside (Below b w3 w7 ∧ Br w7 b (nm (l.drop j)) (l.drop j).length) := ⟨bb7, hr7⟩
              clear hrd hr7 hbut bb7
              go_upto_region 20 with (go_at_call 18; refine hq7.mono ?_; rintro e8 w8 ⟨rfl, ⟨v8, hf8⟩, hg8⟩)
              obtain ⟨l8, hl8⟩ : ∃ l8, l.drop j = l8 := ⟨_, rfl⟩
              rw [hl8] at hf8 A9
              have hB8 : Both w8 b (b + 1) v8 l8 := ⟨A9.out.2.grew hg8 (by omega) (fun g e => by cases e), hf8, by omega⟩
              have bb8 : Below b w3 w8 := A9.out.1.trans (hg8.below (by omega) (by have := A9.out.2.blt; omega) (fun k e => by cases e))
              obtain ⟨a8, c8, hv8⟩ := hB8.shape
              subst hv8
              obtain ⟨N8, hN8⟩ : ∃ N8, l8.length = N8 := ⟨_, rfl⟩
              have hc8 := hB8.rf.cell
              have hhe := fun (m : Nat) => held_q b (nm l8) l8.length (w8.drewN m) (hB8.br.drewN m)
              rw [hN8] at hc8
              simp only [hN8] at hhe
              have nN : ((N8 : Int) != (N8 : Int)) = false := by simp
              have A10 : Aside (Both w8 b (b + 1) (.slice a8 l8.length c8) l8 ∧ Below b w3 w8) := ⟨hB8, bb8⟩
              clear hq7 hf8 hg8 hl8 hB8 bb8 hN8
              go_wp2_with fail
              go_quiet ((first | (go_at_call 19; refine Calls.quiet_of_same (hhe _))))
              go_wp2_with fail
              have h1 := hK.out.1; have h2 := AK.out
              go_roundg (n - (k + 1))
              case measure => omega
              case rel => exact ⟨k + 1, by go_num, ⟨by omega, _, _, A10.out.1.drewN _, A10.out.2.trans ⟨rfl, rfl, rfl, Nat.le_refl _, fun _ _ => rfl⟩⟩⟩
            · have hk : ¬ (k : Int) < (n : Int) := by omega
              have A9 : Aside (Both wr b (b + 1) v l ∧ Below b w3 wr) := ⟨hB, hb3⟩
              clear hkn hB hb3
              by_cases hiT : i < TL
              · have hi5 : (i : Int) < (TL : Int) := by omega
                obtain ⟨x, hx⟩ : ∃ x, t[i]? = some x := ⟨_, List.getElem?_eq_getElem (by have := AT.out; omega)⟩
                have hx256 := AT.out.2.2.1 x (List.mem_of_getElem? hx)
                rcases AT.out.1 with e | ⟨tb, to0, rfl, hc⟩
                · rw [e] at hx; simp at hx
                have cx0 := hc i x hx
                have htb := World.block_lt_of_cell? w ⟨tb, to0 + i, none⟩ cx0
                have cx : wr.cell? ⟨tb, to0 + i, none⟩ = some (.int .u8 (x : Int)) := ((A6.out wr A9.out.2).2.2.cell (p := ⟨tb, to0 + i, none⟩) htb).trans cx0
                have AX : Aside (tb < b ∧ x < 256) := ⟨Nat.lt_of_lt_of_le htb A7.out.2.2.2.2, hx256⟩
                clear hx hx256 hc cx0 htb hiT
                by_cases hl56 : l.length ≤ 56
                · go_upto_region 22 with fail
                  refine wp_region_noPanic ?_
                  refine wp_region_held_drew (S := fun w' => w'.cell? ⟨tb, to0 + i, none⟩ = some (.int .u8 (x : Int))) (by kernel_rfl) cx (fun hHeld => ?_)
                  refine wpAnyH_take (i := 0) (oi := ⟨_, _, _, _, _, _⟩) (v := ?_) rfl (by kernel_rfl) (by kernel_rfl) (by kernel_rfl) (fun _ _ _ h => h) (Or.inl ⟨by rfl, ?_⟩) hHeld ?_
                  rotate_left
                  · (intro w9 hSw; (try dsimp only at hSw); go_simp; try (with_reducible rfl))
                  try simp only [Act.put, List.setIfInBounds_toArray, List.set_cons_zero, List.set_cons_succ]
                  refine wpAnyH_take (i := 1) (oi := ⟨_, _, _, _, _, _⟩) (v := ?_) rfl (by kernel_rfl) (by kernel_rfl) (by kernel_rfl) (fun _ _ _ h => h) (Or.inl ⟨by rfl, ?_⟩) hHeld ?_
                  rotate_left
                  · (intro w9 hSw; (try dsimp only at hSw); go_simp; try (with_reducible rfl))
                  try simp only [Act.put, List.setIfInBounds_toArray, List.set_cons_zero, List.set_cons_succ]
                  refine wpAnyH_take (i := 2) (oi := ⟨_, _, _, _, _, _⟩) (v := ?_) rfl (by kernel_rfl) (by kernel_rfl) (by kernel_rfl) (fun _ _ _ h => h) (Or.inl ⟨by rfl, ?_⟩) hHeld ?_
                  rotate_left
                  · (intro w9 hSw; (try dsimp only at hSw); go_simp; try (with_reducible rfl))
                  try simp only [Act.put, List.setIfInBounds_toArray, List.set_cons_zero, List.set_cons_succ]
                  refine wpAnyH_take (i := 3) (oi := ⟨_, _, _, _, _, _⟩) (v := ?_) rfl (by kernel_rfl) (by kernel_rfl) (by kernel_rfl) (fun _ _ _ h => h) (Or.inl ⟨by rfl, ?_⟩) hHeld ?_
                  rotate_left
                  · (intro w9 hSw; (try dsimp only at hSw); go_simp; try (with_reducible rfl))
                  try simp only [Act.put, List.setIfInBounds_toArray, List.set_cons_zero, List.set_cons_succ]
                  refine wpAnyH_take (i := 4) (oi := ⟨_, _, _, _, _, _⟩) (v := ?_) rfl (by kernel_rfl) (by kernel_rfl) (by kernel_rfl) (fun _ _ _ h => h) (Or.inl ⟨by rfl, ?_⟩) hHeld ?_
                  rotate_left
                  · (intro w9 hSw; (try dsimp only at hSw); go_simp; try (with_reducible rfl))
                  try simp only [Act.put, List.setIfInBounds_toArray, List.set_cons_zero, List.set_cons_succ]
                  refine wpAnyH_take (i := 5) (oi := ⟨_, _, _, _, _, _⟩) (v := ?_) rfl (by kernel_rfl) (by kernel_rfl) (by kernel_rfl) (fun _ _ _ h => h) (Or.inl ⟨by rfl, ?_⟩) hHeld ?_
                  rotate_left
                  · (intro w9 hSw; (try dsimp only at hSw); go_simp; try (with_reducible rfl))
                  try simp only [Act.put, List.setIfInBounds_toArray, List.set_cons_zero, List.set_cons_succ]
                  refine wpAnyH_take (i := 6) (oi := ⟨_, _, _, _, _, _⟩) (v := ?_) rfl (by kernel_rfl) (by kernel_rfl) (by kernel_rfl) (fun _ _ _ h => h) (Or.inl ⟨by rfl, ?_⟩) hHeld ?_
                  rotate_left
                  · (intro w9 hSw; (try dsimp only at hSw); go_simp; try (with_reducible rfl))
                  try simp only [Act.put, List.setIfInBounds_toArray, List.set_cons_zero, List.set_cons_succ]
                  refine wpAnyH_take (i := 7) (oi := ⟨_, _, _, _, _, _⟩) (v := ?_) rfl (by kernel_rfl) (by kernel_rfl) (by kernel_rfl) (fun _ _ _ h => h) (Or.inl ⟨by rfl, ?_⟩) hHeld ?_
                  rotate_left
                  · (intro w9 hSw; (try dsimp only at hSw); go_simp; try (with_reducible rfl))
                  try simp only [Act.put, List.setIfInBounds_toArray, List.set_cons_zero, List.set_cons_succ]
                  refine wpAnyH_take (i := 8) (oi := ⟨_, _, _, _, _, _⟩) (v := ?_) rfl (by kernel_rfl) (by kernel_rfl) (by kernel_rfl) (fun _ _ _ h => h) (Or.inl ⟨by rfl, ?_⟩) hHeld ?_
                  rotate_left
                  · (intro w9 hSw; (try dsimp only at hSw); go_simp; try (with_reducible rfl))
                  try simp only [Act.put, List.setIfInBounds_toArray, List.set_cons_zero, List.set_cons_succ]
                  refine wpAnyH_take (i := 9) (oi := ⟨_, _, _, _, _, _⟩) (v := ?_) rfl (by kernel_rfl) (by kernel_rfl) (by kernel_rfl) (fun _ _ _ h => h) (Or.inl ⟨by rfl, ?_⟩) hHeld ?_
                  rotate_left
                  · (intro w9 hSw; (try dsimp only at hSw); go_simp; try (with_reducible rfl))
                  try simp only [Act.put, List.setIfInBounds_toArray, List.set_cons_zero, List.set_cons_succ]
                  refine wpAnyH_take (i := 11) (oi := ⟨_, _, _, _, _, _⟩) (v := ?_) rfl (by kernel_rfl) (by kernel_rfl) (by kernel_rfl) (fun _ _ _ h => h) (Or.inl ⟨by rfl, ?_⟩) hHeld ?_
                  rotate_left
                  · (intro w9 hSw; (try dsimp only at hSw); go_simp; try (with_reducible rfl))
                  try simp only [Act.put, List.setIfInBounds_toArray, List.set_cons_zero, List.set_cons_succ]
                  refine wpAnyH_take (i := 12) (oi := ⟨_, _, _, _, _, _⟩) (v := ?_) rfl (by kernel_rfl) (by kernel_rfl) (by kernel_rfl) (fun _ _ _ h => h) (Or.inl ⟨by rfl, ?_⟩) hHeld ?_
                  rotate_left
                  · (intro w9 hSw; (try dsimp only at hSw); go_simp; try (with_reducible rfl))
                  try simp only [Act.put, List.setIfInBounds_toArray, List.set_cons_zero, List.set_cons_succ]
                  refine wpAnyH_take (i := 13) (oi := ⟨_, _, _, _, _, _⟩) (v := ?_) rfl (by kernel_rfl) (by kernel_rfl) (by kernel_rfl) (fun _ _ _ h => h) (Or.inl ⟨by rfl, ?_⟩) hHeld ?_
                  rotate_left
                  · (intro w9 hSw; (try dsimp only at hSw); go_simp; try (with_reducible rfl))
                  try simp only [Act.put, List.setIfInBounds_toArray, List.set_cons_zero, List.set_cons_succ]
                  refine wpAnyH_take (i := 14) (oi := ⟨_, _, _, _, _, _⟩) (v := ?_) rfl (by kernel_rfl) (by kernel_rfl) (by kernel_rfl) (fun _ _ _ h => h) (Or.inl ⟨by rfl, ?_⟩) hHeld ?_
                  rotate_left
                  · (intro w9 hSw; (try dsimp only at hSw); go_simp; try (with_reducible rfl))
                  try simp only [Act.put, List.setIfInBounds_toArray, List.set_cons_zero, List.set_cons_succ]
                  refine wpAnyH_take (i := 15) (oi := ⟨_, _, _, _, _, _⟩) (v := ?_) rfl (by kernel_rfl) (by kernel_rfl) (by kernel_rfl) (fun _ _ _ h => h) (Or.inl ⟨by rfl, ?_⟩) hHeld ?_
                  rotate_left
                  · (intro w9 hSw; (try dsimp only at hSw); go_simp; try (with_reducible rfl))
                  try simp only [Act.put, List.setIfInBounds_toArray, List.set_cons_zero, List.set_cons_succ]
                  refine wpAnyH_ready (rs := [10]) (by kernel_rfl) (by simp) ?_
                  refine AllReadyH.cons (o := ⟨_, _, _, _, _, _⟩) rfl (fun K hK => ?_) AllReadyH.nil
                  go_simp
                  with_reducible refine (put_yes b (nm l) l.length x wr.drew A9.out.1.br.drew hl56 AX.out.2).mono ?_
                  rintro e5 w5 ⟨rfl, hr5, ho5⟩
                  try go_wp2_with fail
                  have c5 : w5.cell? ⟨tb, to0 + i, none⟩ = some (.int .u8 (x : Int)) := (ho5.cell (p := ⟨tb, to0 + i, none⟩) (by show tb ≠ b; have := AX.out.1; omega)).trans cx
                  refine hK.out _ _ c5 (fun hHeldA => ?_)
                  clear hK K
                  try simp only [Act.put, List.setIfInBounds_toArray, List.set_cons_zero, List.set_cons_succ]
                  refine wpAnyH_ready (rs := [16]) (by kernel_rfl) (by simp) ?_
                  refine AllReadyH.cons (o := ⟨_, _, _, _, _, _⟩) rfl (fun K hK => ?_) AllReadyH.nil
                  go_simp
                  with_reducible refine (rput_yes (b + 1) (b + 1 + 1) v l x w5 (A9.out.1.rf.drew.only ho5 (by omega)) hl56 AX.out.2).mono ?_
                  rintro e6 w6 ⟨rfl, ⟨v6, hf6⟩, hg6⟩
                  try go_wp2_with fail
                  have c6 : w6.cell? ⟨tb, to0 + i, none⟩ = some (.int .u8 (x : Int)) := (hg6.cell (p := ⟨tb, to0 + i, none⟩) (by show tb < w5.heap.size; have := hr5.blt; have := AX.out.1; omega) (by show tb ≠ b + 1; have := AX.out.1; omega) (fun e => by have := (A9.out.1.rf.row tb e.symm).1; have := AX.out.1; omega)).trans c5
                  refine hK.out _ _ c6 (fun hHeldB => ?_)
                  clear hK K
                  try simp only [Act.put, List.setIfInBounds_toArray, List.set_cons_zero, List.set_cons_succ]
                  refine wpAnyH_take (i := 17) (oi := ⟨_, _, _, _, _, _⟩) (v := ?_) rfl (by kernel_rfl) (by kernel_rfl) (by kernel_rfl) (fun _ _ _ h => h) (Or.inl ⟨by rfl, ?_⟩) hHeldB ?_
                  rotate_left
                  · (intro w9 hSw; (try dsimp only at hSw); go_simp; try (with_reducible rfl))
                  try simp only [Act.put, List.setIfInBounds_toArray, List.set_cons_zero, List.set_cons_succ]
                  refine wpAnyH_take (i := 18) (oi := ⟨_, _, _, _, _, _⟩) (v := ?_) rfl (by kernel_rfl) (by kernel_rfl) (by kernel_rfl) (fun _ _ _ h => h) (Or.inl ⟨by rfl, ?_⟩) hHeldB ?_
                  rotate_left
                  · (intro w9 hSw; (try dsimp only at hSw); go_simp; try (with_reducible rfl))
                  try simp only [Act.put, List.setIfInBounds_toArray, List.set_cons_zero, List.set_cons_succ]
                  refine wpAnyH_done (by kernel_rfl) ?_ _
                  refine NoPanic.normal ?_
                  have A11 : Aside (Both w6 b (b + 1) v6 (l ++ bitsOf 8 x) ∧ Below b w3 w6) := by
                    refine ⟨Both.put hr5 hg6 (by omega) (fun g e => by have := (A9.out.1.rf.row g e).1; omega) AX.out.2 hf6, A9.out.2.trans ?_⟩
                    have k1 : Below b wr w5 := ⟨ho5.os, ho5.tape, ho5.output, Nat.le_of_eq ho5.size.symm, fun j hj => ho5.block j (by omega)⟩
                    exact k1.trans (hg6.below (by omega) (by have := hr5.blt; omega) (fun k e => by have := (A9.out.1.rf.row k e).1; omega))
                  clear hHeld hHeldA hHeldB c5 c6 hr5 ho5 hf6 hg6 cx
                  go_wp2_with fail
                  have h1 := hI.out.1; have h2 := AI.out
                  go_roundg (300 - (i + 1))
                  case measure => omega
                  case rel => exact ⟨i + 1, by go_num, ⟨by omega, _, _, A11.out⟩⟩
                · have hl56 : 56 < l.length := by omega
                  go_upto_region 22 with fail
                  refine wp_region_noPanic ?_
                  refine wp_region_held_drew (S := fun w' => w'.cell? ⟨tb, to0 + i, none⟩ = some (.int .u8 (x : Int))) (by kernel_rfl) cx (fun hHeld => ?_)
                  refine wpAnyH_take (i := 0) (oi := ⟨_, _, _, _, _, _⟩) (v := ?_) rfl (by kernel_rfl) (by kernel_rfl) (by kernel_rfl) (fun _ _ _ h => h) (Or.inl ⟨by rfl, ?_⟩) hHeld ?_
                  rotate_left
                  · (intro w9 hSw; (try dsimp only at hSw); go_simp; try (with_reducible rfl))
                  try simp only [Act.put, List.setIfInBounds_toArray, List.set_cons_zero, List.set_cons_succ]
                  refine wpAnyH_take (i := 1) (oi := ⟨_, _, _, _, _, _⟩) (v := ?_) rfl (by kernel_rfl) (by kernel_rfl) (by kernel_rfl) (fun _ _ _ h => h) (Or.inl ⟨by rfl, ?_⟩) hHeld ?_
                  rotate_left
                  · (intro w9 hSw; (try dsimp only at hSw); go_simp; try (with_reducible rfl))
                  try simp only [Act.put, List.setIfInBounds_toArray, List.set_cons_zero, List.set_cons_succ]
                  refine wpAnyH_take (i := 2) (oi := ⟨_, _, _, _, _, _⟩) (v := ?_) rfl (by kernel_rfl) (by kernel_rfl) (by kernel_rfl) (fun _ _ _ h => h) (Or.inl ⟨by rfl, ?_⟩) hHeld ?_
                  rotate_left
                  · (intro w9 hSw; (try dsimp only at hSw); go_simp; try (with_reducible rfl))
                  try simp only [Act.put, List.setIfInBounds_toArray, List.set_cons_zero, List.set_cons_succ]
                  refine wpAnyH_take (i := 3) (oi := ⟨_, _, _, _, _, _⟩) (v := ?_) rfl (by kernel_rfl) (by kernel_rfl) (by kernel_rfl) (fun _ _ _ h => h) (Or.inl ⟨by rfl, ?_⟩) hHeld ?_
                  rotate_left
                  · (intro w9 hSw; (try dsimp only at hSw); go_simp; try (with_reducible rfl))
                  try simp only [Act.put, List.setIfInBounds_toArray, List.set_cons_zero, List.set_cons_succ]
                  refine wpAnyH_take (i := 4) (oi := ⟨_, _, _, _, _, _⟩) (v := ?_) rfl (by kernel_rfl) (by kernel_rfl) (by kernel_rfl) (fun _ _ _ h => h) (Or.inl ⟨by rfl, ?_⟩) hHeld ?_
                  rotate_left
                  · (intro w9 hSw; (try dsimp only at hSw); go_simp; try (with_reducible rfl))
                  try simp only [Act.put, List.setIfInBounds_toArray, List.set_cons_zero, List.set_cons_succ]
                  refine wpAnyH_take (i := 5) (oi := ⟨_, _, _, _, _, _⟩) (v := ?_) rfl (by kernel_rfl) (by kernel_rfl) (by kernel_rfl) (fun _ _ _ h => h) (Or.inl ⟨by rfl, ?_⟩) hHeld ?_
                  rotate_left
                  · (intro w9 hSw; (try dsimp only at hSw); go_simp; try (with_reducible rfl))
                  try simp only [Act.put, List.setIfInBounds_toArray, List.set_cons_zero, List.set_cons_succ]
                  refine wpAnyH_take (i := 6) (oi := ⟨_, _, _, _, _, _⟩) (v := ?_) rfl (by kernel_rfl) (by kernel_rfl) (by kernel_rfl) (fun _ _ _ h => h) (Or.inl ⟨by rfl, ?_⟩) hHeld ?_
                  rotate_left
                  · (intro w9 hSw; (try dsimp only at hSw); go_simp; try (with_reducible rfl))
                  try simp only [Act.put, List.setIfInBounds_toArray, List.set_cons_zero, List.set_cons_succ]
                  refine wpAnyH_take (i := 7) (oi := ⟨_, _, _, _, _, _⟩) (v := ?_) rfl (by kernel_rfl) (by kernel_rfl) (by kernel_rfl) (fun _ _ _ h => h) (Or.inl ⟨by rfl, ?_⟩) hHeld ?_
                  rotate_left
                  · (intro w9 hSw; (try dsimp only at hSw); go_simp; try (with_reducible rfl))
                  try simp only [Act.put, List.setIfInBounds_toArray, List.set_cons_zero, List.set_cons_succ]
                  refine wpAnyH_take (i := 8) (oi := ⟨_, _, _, _, _, _⟩) (v := ?_) rfl (by kernel_rfl) (by kernel_rfl) (by kernel_rfl) (fun _ _ _ h => h) (Or.inl ⟨by rfl, ?_⟩) hHeld ?_
                  rotate_left
                  · (intro w9 hSw; (try dsimp only at hSw); go_simp; try (with_reducible rfl))
                  try simp only [Act.put, List.setIfInBounds_toArray, List.set_cons_zero, List.set_cons_succ]
                  refine wpAnyH_take (i := 9) (oi := ⟨_, _, _, _, _, _⟩) (v := ?_) rfl (by kernel_rfl) (by kernel_rfl) (by kernel_rfl) (fun _ _ _ h => h) (Or.inl ⟨by rfl, ?_⟩) hHeld ?_
                  rotate_left
                  · (intro w9 hSw; (try dsimp only at hSw); go_simp; try (with_reducible rfl))
                  try simp only [Act.put, List.setIfInBounds_toArray, List.set_cons_zero, List.set_cons_succ]
                  refine wpAnyH_take (i := 11) (oi := ⟨_, _, _, _, _, _⟩) (v := ?_) rfl (by kernel_rfl) (by kernel_rfl) (by kernel_rfl) (fun _ _ _ h => h) (Or.inl ⟨by rfl, ?_⟩) hHeld ?_
                  rotate_left
                  · (intro w9 hSw; (try dsimp only at hSw); go_simp; try (with_reducible rfl))
                  try simp only [Act.put, List.setIfInBounds_toArray, List.set_cons_zero, List.set_cons_succ]
                  refine wpAnyH_take (i := 12) (oi := ⟨_, _, _, _, _, _⟩) (v := ?_) rfl (by kernel_rfl) (by kernel_rfl) (by kernel_rfl) (fun _ _ _ h => h) (Or.inl ⟨by rfl, ?_⟩) hHeld ?_
                  rotate_left
                  · (intro w9 hSw; (try dsimp only at hSw); go_simp; try (with_reducible rfl))
                  try simp only [Act.put, List.setIfInBounds_toArray, List.set_cons_zero, List.set_cons_succ]
                  refine wpAnyH_take (i := 13) (oi := ⟨_, _, _, _, _, _⟩) (v := ?_) rfl (by kernel_rfl) (by kernel_rfl) (by kernel_rfl) (fun _ _ _ h => h) (Or.inl ⟨by rfl, ?_⟩) hHeld ?_
                  rotate_left
                  · (intro w9 hSw; (try dsimp only at hSw); go_simp; try (with_reducible rfl))
                  try simp only [Act.put, List.setIfInBounds_toArray, List.set_cons_zero, List.set_cons_succ]
                  refine wpAnyH_take (i := 14) (oi := ⟨_, _, _, _, _, _⟩) (v := ?_) rfl (by kernel_rfl) (by kernel_rfl) (by kernel_rfl) (fun _ _ _ h => h) (Or.inl ⟨by rfl, ?_⟩) hHeld ?_
                  rotate_left
                  · (intro w9 hSw; (try dsimp only at hSw); go_simp; try (with_reducible rfl))
                  try simp only [Act.put, List.setIfInBounds_toArray, List.set_cons_zero, List.set_cons_succ]
                  refine wpAnyH_take (i := 15) (oi := ⟨_, _, _, _, _, _⟩) (v := ?_) rfl (by kernel_rfl) (by kernel_rfl) (by kernel_rfl) (fun _ _ _ h => h) (Or.inl ⟨by rfl, ?_⟩) hHeld ?_
                  rotate_left
                  · (intro w9 hSw; (try dsimp only at hSw); go_simp; try (with_reducible rfl))
                  try simp only [Act.put, List.setIfInBounds_toArray, List.set_cons_zero, List.set_cons_succ]
                  refine wpAnyH_ready (rs := [10]) (by kernel_rfl) (by simp) ?_
                  refine AllReadyH.cons (o := ⟨_, _, _, _, _, _⟩) rfl (fun K hK => ?_) AllReadyH.nil
                  go_simp
                  with_reducible refine (put_no b (nm l) l.length x wr.drew A9.out.1.br.drew hl56).mono ?_
                  rintro e5 w5 ⟨rfl, rfl⟩
                  try go_wp2_with fail
                  refine hK.out _ _ hHeld (fun hHeldA => ?_)
                  clear hK K
                  try simp only [Act.put, List.setIfInBounds_toArray, List.set_cons_zero, List.set_cons_succ]
                  refine wpAnyH_ready (rs := [16]) (by kernel_rfl) (by simp) ?_
                  refine AllReadyH.cons (o := ⟨_, _, _, _, _, _⟩) rfl (fun K hK => ?_) AllReadyH.nil
                  go_simp
                  with_reducible refine (rput_no (b + 1) (b + 1 + 1) v l x wr.drew A9.out.1.rf.drew hl56).mono ?_
                  rintro e6 w6 ⟨rfl, rfl⟩
                  try go_wp2_with fail
                  refine hK.out _ _ hHeld (fun hHeldB => ?_)
                  clear hK K
                  try simp only [Act.put, List.setIfInBounds_toArray, List.set_cons_zero, List.set_cons_succ]
                  refine wpAnyH_take (i := 17) (oi := ⟨_, _, _, _, _, _⟩) (v := ?_) rfl (by kernel_rfl) (by kernel_rfl) (by kernel_rfl) (fun _ _ _ h => h) (Or.inl ⟨by rfl, ?_⟩) hHeldB ?_
                  rotate_left
                  · (intro w9 hSw; (try dsimp only at hSw); go_simp; try (with_reducible rfl))
                  try simp only [Act.put, List.setIfInBounds_toArray, List.set_cons_zero, List.set_cons_succ]
                  refine wpAnyH_take (i := 18) (oi := ⟨_, _, _, _, _, _⟩) (v := ?_) rfl (by kernel_rfl) (by kernel_rfl) (by kernel_rfl) (fun _ _ _ h => h) (Or.inl ⟨by rfl, ?_⟩) hHeldB ?_
                  rotate_left
                  · (intro w9 hSw; (try dsimp only at hSw); go_simp; try (with_reducible rfl))
                  try simp only [Act.put, List.setIfInBounds_toArray, List.set_cons_zero, List.set_cons_succ]
                  refine wpAnyH_done (by kernel_rfl) ?_ _
                  refine NoPanic.normal ?_
                  have A11 : Aside (Both wr.drew b (b + 1) v l ∧ Below b w3 wr.drew) := ⟨⟨A9.out.1.br.drew, A9.out.1.rf.drew, A9.out.1.lt⟩, A9.out.2.drew⟩
                  clear hHeld hHeldA hHeldB cx
                  go_wp2_with fail
                  have h1 := hI.out.1; have h2 := AI.out
                  go_roundg (300 - (i + 1))
                  case measure => omega
                  case rel => exact ⟨i + 1, by go_num, ⟨by omega, _, _, A11.out⟩⟩
              · have hi5 : ¬ (i : Int) < (TL : Int) := by omega
                clear hiT
                go_upto_region 22 with fail
                refine wp_region_noPanic ?_
                refine wp_region_held_drew (S := fun _ => True) (by kernel_rfl) trivial (fun hHeld => ?_)
                refine wpAnyH_take (i := 0) (oi := ⟨_, _, _, _, _, _⟩) (v := ?_) rfl (by kernel_rfl) (by kernel_rfl) (by kernel_rfl) (fun _ _ _ h => h) (Or.inl ⟨by rfl, ?_⟩) hHeld ?_
                rotate_left
                · (intro w9 hSw; (try dsimp only at hSw); go_simp; try (with_reducible rfl))
                try simp only [Act.put, List.setIfInBounds_toArray, List.set_cons_zero, List.set_cons_succ]
                refine wpAnyH_take (i := 1) (oi := ⟨_, _, _, _, _, _⟩) (v := ?_) rfl (by kernel_rfl) (by kernel_rfl) (by kernel_rfl) (fun _ _ _ h => h) (Or.inl ⟨by rfl, ?_⟩) hHeld ?_
                rotate_left
                · (intro w9 hSw; (try dsimp only at hSw); go_simp; try (with_reducible rfl))
                try simp only [Act.put, List.setIfInBounds_toArray, List.set_cons_zero, List.set_cons_succ]
                refine wpAnyH_take (i := 2) (oi := ⟨_, _, _, _, _, _⟩) (v := ?_) rfl (by kernel_rfl) (by kernel_rfl) (by kernel_rfl) (fun _ _ _ h => h) (Or.inl ⟨by rfl, ?_⟩) hHeld ?_
                rotate_left
                · (intro w9 hSw; (try dsimp only at hSw); go_simp; try (with_reducible rfl))
                try simp only [Act.put, List.setIfInBounds_toArray, List.set_cons_zero, List.set_cons_succ]
                refine wpAnyH_take (i := 3) (oi := ⟨_, _, _, _, _, _⟩) (v := ?_) rfl (by kernel_rfl) (by kernel_rfl) (by kernel_rfl) (fun _ _ _ h => h) (Or.inl ⟨by rfl, ?_⟩) hHeld ?_
                rotate_left
                · (intro w9 hSw; (try dsimp only at hSw); go_simp; try (with_reducible rfl))
                try simp only [Act.put, List.setIfInBounds_toArray, List.set_cons_zero, List.set_cons_succ]
                refine wpAnyH_take (i := 4) (oi := ⟨_, _, _, _, _, _⟩) (v := ?_) rfl (by kernel_rfl) (by kernel_rfl) (by kernel_rfl) (fun _ _ _ h => h) (Or.inl ⟨by rfl, ?_⟩) hHeld ?_
                rotate_left
                · (intro w9 hSw; (try dsimp only at hSw); go_simp; try (with_reducible rfl))
                try simp only [Act.put, List.setIfInBounds_toArray, List.set_cons_zero, List.set_cons_succ]
                refine wpAnyH_take (i := 5) (oi := ⟨_, _, _, _, _, _⟩) (v := undef) rfl (by kernel_rfl) (by kernel_rfl) (by kernel_rfl) (fun _ _ _ h => h) (Or.inr ⟨by rfl, rfl⟩) hHeld ?_
                try simp only [Act.put, List.setIfInBounds_toArray, List.set_cons_zero, List.set_cons_succ]
                refine wpAnyH_take (i := 6) (oi := ⟨_, _, _, _, _, _⟩) (v := undef) rfl (by kernel_rfl) (by kernel_rfl) (by kernel_rfl) (fun _ _ _ h => h) (Or.inr ⟨by rfl, rfl⟩) hHeld ?_
                try simp only [Act.put, List.setIfInBounds_toArray, List.set_cons_zero, List.set_cons_succ]
                refine wpAnyH_take (i := 7) (oi := ⟨_, _, _, _, _, _⟩) (v := undef) rfl (by kernel_rfl) (by kernel_rfl) (by kernel_rfl) (fun _ _ _ h => h) (Or.inr ⟨by rfl, rfl⟩) hHeld ?_
                try simp only [Act.put, List.setIfInBounds_toArray, List.set_cons_zero, List.set_cons_succ]
                refine wpAnyH_take (i := 8) (oi := ⟨_, _, _, _, _, _⟩) (v := undef) rfl (by kernel_rfl) (by kernel_rfl) (by kernel_rfl) (fun _ _ _ h => h) (Or.inr ⟨by rfl, rfl⟩) hHeld ?_
                try simp only [Act.put, List.setIfInBounds_toArray, List.set_cons_zero, List.set_cons_succ]
                refine wpAnyH_take (i := 9) (oi := ⟨_, _, _, _, _, _⟩) (v := undef) rfl (by kernel_rfl) (by kernel_rfl) (by kernel_rfl) (fun _ _ _ h => h) (Or.inr ⟨by rfl, rfl⟩) hHeld ?_
                try simp only [Act.put, List.setIfInBounds_toArray, List.set_cons_zero, List.set_cons_succ]
                refine wpAnyH_take (i := 10) (oi := ⟨_, _, _, _, _, _⟩) (v := undef) rfl (by kernel_rfl) (by kernel_rfl) (by kernel_rfl) (fun _ _ _ h => h) (Or.inr ⟨by rfl, rfl⟩) hHeld ?_
                try simp only [Act.put, List.setIfInBounds_toArray, List.set_cons_zero, List.set_cons_succ]
                refine wpAnyH_take (i := 11) (oi := ⟨_, _, _, _, _, _⟩) (v := undef) rfl (by kernel_rfl) (by kernel_rfl) (by kernel_rfl) (fun _ _ _ h => h) (Or.inr ⟨by rfl, rfl⟩) hHeld ?_
                try simp only [Act.put, List.setIfInBounds_toArray, List.set_cons_zero, List.set_cons_succ]
                refine wpAnyH_take (i := 12) (oi := ⟨_, _, _, _, _, _⟩) (v := undef) rfl (by kernel_rfl) (by kernel_rfl) (by kernel_rfl) (fun _ _ _ h => h) (Or.inr ⟨by rfl, rfl⟩) hHeld ?_
                try simp only [Act.put, List.setIfInBounds_toArray, List.set_cons_zero, List.set_cons_succ]
                refine wpAnyH_take (i := 13) (oi := ⟨_, _, _, _, _, _⟩) (v := undef) rfl (by kernel_rfl) (by kernel_rfl) (by kernel_rfl) (fun _ _ _ h => h) (Or.inr ⟨by rfl, rfl⟩) hHeld ?_
                try simp only [Act.put, List.setIfInBounds_toArray, List.set_cons_zero, List.set_cons_succ]
                refine wpAnyH_take (i := 14) (oi := ⟨_, _, _, _, _, _⟩) (v := undef) rfl (by kernel_rfl) (by kernel_rfl) (by kernel_rfl) (fun _ _ _ h => h) (Or.inr ⟨by rfl, rfl⟩) hHeld ?_
                try simp only [Act.put, List.setIfInBounds_toArray, List.set_cons_zero, List.set_cons_succ]
                refine wpAnyH_take (i := 15) (oi := ⟨_, _, _, _, _, _⟩) (v := undef) rfl (by kernel_rfl) (by kernel_rfl) (by kernel_rfl) (fun _ _ _ h => h) (Or.inr ⟨by rfl, rfl⟩) hHeld ?_
                try simp only [Act.put, List.setIfInBounds_toArray, List.set_cons_zero, List.set_cons_succ]
                refine wpAnyH_take (i := 16) (oi := ⟨_, _, _, _, _, _⟩) (v := undef) rfl (by kernel_rfl) (by kernel_rfl) (by kernel_rfl) (fun _ _ _ h => h) (Or.inr ⟨by rfl, rfl⟩) hHeld ?_
                try simp only [Act.put, List.setIfInBounds_toArray, List.set_cons_zero, List.set_cons_succ]
                refine wpAnyH_take (i := 17) (oi := ⟨_, _, _, _, _, _⟩) (v := undef) rfl (by kernel_rfl) (by kernel_rfl) (by kernel_rfl) (fun _ _ _ h => h) (Or.inr ⟨by rfl, rfl⟩) hHeld ?_
                try simp only [Act.put, List.setIfInBounds_toArray, List.set_cons_zero, List.set_cons_succ]
                refine wpAnyH_take (i := 18) (oi := ⟨_, _, _, _, _, _⟩) (v := ?_) rfl (by kernel_rfl) (by kernel_rfl) (by kernel_rfl) (fun _ _ _ h => h) (Or.inl ⟨by rfl, ?_⟩) hHeld ?_
                rotate_left
                · (intro w9 hSw; (try dsimp only at hSw); go_simp; try (with_reducible rfl))
                try simp only [Act.put, List.setIfInBounds_toArray, List.set_cons_zero, List.set_cons_succ]
                refine wpAnyH_done (by kernel_rfl) ?_ _
                refine NoPanic.normal ?_
                clear hHeld
                go_wp2_with fail
                have h1 := hI.out.1; have h2 := AI.out
                go_roundg (300 - (i + 1))
                case measure => omega
                case rel => exact ⟨i + 1, by go_num, ⟨by omega, v, l, ⟨A9.out.1.br.drew, A9.out.1.rf.drew, A9.out.1.lt⟩, A9.out.2.drew⟩⟩
      · obtain ⟨v, l, hB, hb3⟩ := hI.out.2
        have hbw := (A6.out wr hb3).2.2
        have haw := awake_c hu wr
        have A10 : Aside (Below w.heap.size w wr) := hbw
        clear hB hb3 hbw
        by_cases hi1 : i ≤ TL
        · have hi : (i : Int) ≤ (TL : Int) := by omega
          have hi3 : ¬ (i : Int) < 300 := by omega
          clear hgo hi1
          go_wp2_with (go_at_call 13; refine haw.mono ?_; rintro e5 w5 ⟨rfl, hb5⟩)
          go_ret
          have h6 := A10.out.trans (hb5.mono A10.out.size)
          rw [AW.out] at h6
          exact ⟨rfl, h6⟩
        · have hi : ¬ (i : Int) ≤ (TL : Int) := by omega
          clear hgo hi1
          go_wp2_with (go_at_call 13; refine haw.mono ?_; rintro e5 w5 ⟨rfl, hb5⟩)
          go_ret
          have h6 := A10.out.trans (hb5.mono A10.out.size)
          rw [AW.out] at h6
          exact ⟨rfl, h6⟩
  · go_upto_region 2 with (first
      | (at_builtin; refine wpList_appn _ rfl (.tmp 21) (.tmp 22) rfl w (by rfl) H AW.out.symm (by rfl) a zs L C AB.out.2.1 (by rfl) AB.out.2.2.2.2 AB.out.1 (by rw [AB.out.2.1]; exact Nat.le_of_lt AB.out.2.2.2.1) ?_; intro v1 w1 h1
         obtain ⟨a1, C1, hv1, hl1, hc1, hs1⟩ := h1.shape
         rw [AB.out.2.1] at hv1 hc1
         subst hv1
         have hn1 := hu.new_err a1 zs L C1 e0 w1 hl1 AB.out.2.1 hc1 (by have := AB.out; omega) AE.out hz0
         have A1 : Aside (Below w.heap.size w w1) := h1.bel
         clear h1 hl1 hc1 hs1)
      | (go_at_call 10; refine hn1.mono ?_; rintro e2 w2 ⟨rfl, hb2⟩))
    have bw2 : Below w.heap.size w w2 := A1.out.trans (hb2.mono A1.out.size)
    have hq := rnew_err a zs L C e0 w2 (AB.out.1.below bw2) AB.out.2.1 (by have := AB.out; omega) AE.out hz0
    have A2 : Aside (Below w.heap.size w w2) := bw2
    clear hn1 hb2 bw2 hH
    go_upto_region 3 with (go_at_call 11; refine hq.mono ?_; rintro e3 w3 ⟨rfl, rfl⟩)
    have hnw := new_b w2
    clear hq
    go_upto_region 4 with (go_at_call 16; refine hnw.mono ?_; rintro e4 w4 ⟨rfl, hr4, hb4, hs4⟩)
    have A4 : Aside (Below w.heap.size w (w4.alloc (.cells #[.slice none 0 0] 44))) := by
      have h5 := A2.out.trans (hb4.mono A2.out.size)
      exact h5.alloc h5.size _
    clear hnw hr4 hb4 hs4
    go_upto_region 6 with fail
    obtain ⟨w5, hw5⟩ : ∃ w5, w5 = w4.alloc (.cells #[.slice none 0 0] 44) := ⟨_, rfl⟩
    rw [← hw5] at A4 ⊢
    have haw := awake_c hu w5
    clear hw5
    go_wp2_with (go_at_call 13; refine haw.mono ?_; rintro e6 w6 ⟨rfl, hb6⟩)
    go_ret
    have h6 := A4.out.trans (hb6.mono A4.out.size)
    rw [AW.out] at h6
    exact ⟨rfl, h6⟩
end Go.Proofs.Ytlmajiejapaegaa

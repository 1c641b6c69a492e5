/-
  HuffmanFull, behind the opening of its arguments: the call answers true, and what lay in memory is as it was.
  Conditions: the program keeps its contracts; the lengths lie in memory.
-/
import Derived.Test.YtlmajiejapaegaaApp
namespace Go.Proofs.Ytlmajiejapaegaa
open Go.RowKit
set_option linter.unusedVariables false
theorem kr_used0 : ∀ {ls : List Nat}, used ls = 0 → kr ls = 0
  | [], _ => rfl
  | l :: ls, h => by
    unfold used at h
    rw [List.countP_cons] at h
    have h0 : ¬ 0 < l := fun hl => by rw [if_pos (decide_eq_true hl)] at h; omega
    have := kr_used0 (ls := ls) (by unfold used; omega)
    rw [kr, if_pos (by omega), this]
theorem kr_one : ∀ {ls : List Nat}, used ls ≤ 1 → ls.count 1 = 1 → kr ls = 16384
  | [], _, h => by simp at h
  | l :: ls, h, h1 => by
    unfold used at h
    rw [List.countP_cons] at h
    rw [List.count_cons] at h1
    by_cases e : l = 1
    · subst e
      rw [if_pos (by decide)] at h
      have := kr_used0 (ls := ls) (by unfold used; omega)
      rw [kr, if_neg (by decide), this]
    · have eb : (l == 1) = false := by rw [beq_eq_false_iff_ne]; exact e
      rw [eb] at h1
      have h2 := kr_one (ls := ls) (by unfold used; omega) (by simpa using h1)
      have hu : 0 < used ls := by
        rcases Nat.eq_zero_or_pos (used ls) with h3 | h3
        · rw [kr_used0 h3] at h2; omega
        · exact h3
      have hl : ¬ 0 < l := fun hl => by rw [if_pos (decide_eq_true hl)] at h; unfold used at hu; omega
      rw [kr, if_pos (by omega), h2]
theorem kr_small {ls : List Nat} (h : kr ls < 32768) (hn : ¬ Under ls) : kr ls ≤ 16384 := by
  unfold Under at hn
  by_cases h0 : 0 < used ls
  · have h1 : used ls ≤ 1 ∧ ls.count 1 = 1 := by
      constructor
      · apply Decidable.byContradiction; intro hc; exact hn ⟨h, h0, Or.inl (by omega)⟩
      · apply Decidable.byContradiction; intro hc; exact hn ⟨h, h0, Or.inr hc⟩
    rw [kr_one h1.1 h1.2]; omega
  · rw [kr_used0 (by omega)]; omega
/-- Full lengths: a run of bits has a symbol, or asks for more. -/
theorem full_told {ls : List Nat} (hk : part ls 15 = 32768) (h15 : ∀ l ∈ ls, l ≤ 15) (h : List Bool) : (∃ s k, Hit ls h s k ∧ Told ls h s 0 k) ∨ (h.length < 15 ∧ Told ls h 0 1 0) := by
  by_cases hh : ∃ i n, Hit ls h i n
  · obtain ⟨i, n, hi⟩ := hh
    exact Or.inl ⟨i, n, hi, Or.inl ⟨hi, rfl⟩⟩
  · rcases full_any hk h with ⟨i, n, hi⟩ | ⟨hl, j, n, h1, h2, h3, h4⟩
    · exact absurd ⟨i, n, hi⟩ hh
    · refine Or.inr ⟨hl, Or.inr (Or.inl ⟨fun i n hi => hh ⟨i, n, hi⟩, ⟨j, n, h1, h2, ?_⟩, rfl, rfl, rfl⟩)⟩
      exact (may_prefix (by omega) h15 h1 h2).2 ⟨h3, h4⟩
variable {PT : World → Nat → Nat → Nat → List Nat → Prop}
set_option maxRecDepth 100000 in
set_option maxHeartbeats 8000000 in
theorem full_core (hu : Hu PT) (w : World) (a : Option Addr) (zs : List Int) (L C : Nat) (hl : Lens w a zs) (hL : zs.length = L) (hLC : L ≤ C) (hC : L * 8 < 140737488355328) (hz : a = none → L = 0 ∧ C = 0) (v : Nat) (hv : v < 65536) :
    Calls Try.prog 7 #[.slice a L C, .int .u16 (v : Int)] w fun e w' => e = .returned (.bool true) ∧ Below w.heap.size w w' := by
  have AB : Aside (Lens w a zs ∧ zs.length = L ∧ L ≤ C ∧ L * 8 < 140737488355328 ∧ (a = none → L = 0 ∧ C = 0) ∧ v < 65536) := ⟨hl, hL, hLC, hC, hz, hv⟩
  obtain ⟨H, hH⟩ : ∃ H, w.heap.size = H := ⟨_, rfl⟩
  have AW : Aside (w.heap.size = H) := hH
  rw [hH]
  clear hl hL hLC hC hz hv
  obtain ⟨r, ok, hrk⟩ : ∃ (r : Nat) (ok : Bool), (Okl zs ∧ r = kr (lens zs) ∧ ok = true) ∨ (¬ Okl zs ∧ r = 0 ∧ ok = false) := by
    by_cases h : Okl zs
    · exact ⟨_, true, Or.inl ⟨h, rfl, rfl⟩⟩
    · exact ⟨0, false, Or.inr ⟨h, rfl, rfl⟩⟩
  have AK : Aside ((Okl zs ∧ r = kr (lens zs) ∧ ok = true) ∨ (¬ Okl zs ∧ r = 0 ∧ ok = false)) := hrk
  clear hrk
  go_enter Try.func7, Try.ntmps7
  go_upto_region 2 with (first
    | (at_builtin; refine wpList_appn _ rfl (.tmp 16) (.tmp 17) rfl w (by rfl) H AW.out.symm (by rfl) a zs L C AB.out.2.1 (by rfl) AB.out.2.2.2.2.1 AB.out.1 (by rw [AB.out.2.1]; exact Nat.le_of_lt AB.out.2.2.2.1) ?_; intro v1 w1 h1
       obtain ⟨a1, C1, hv1, hl1, hc1, hs1⟩ := h1.shape
       rw [AB.out.2.1] at hv1 hc1
       subst hv1
       have hk1 := hu.kraft a1 zs L C1 r ok w1 hl1 AB.out.2.1 hc1 (by have := AB.out; omega) AK.out
       have A1 : Aside (Below w.heap.size w w1) := h1.bel
       clear h1 hl1 hc1 hs1)
    | (go_at_call 8; refine hk1.mono ?_; rintro e2 w2 ⟨rfl, hb2⟩))
  have A2 : Aside (Below w.heap.size w w2) := A1.out.trans (hb2.mono A1.out.size)
  clear hk1 hb2 hH
  obtain ⟨e0, he0⟩ : ∃ e0, nerr zs = e0 := ⟨_, rfl⟩
  obtain ⟨H2, hH2⟩ : ∃ H2, w2.heap.size = H2 := ⟨_, rfl⟩
  have AH2 : Aside (w2.heap.size = H2) := hH2
  have AE : Aside (nerr zs = e0) := he0
  clear he0
  by_cases hz0 : e0 = 0
  · subst hz0
    go_upto_region 3 with (first
      | (at_builtin; refine wpList_appn _ rfl (.tmp 23) (.tmp 24) rfl w2 (by rfl) H2 AH2.out.symm (by rfl) a zs L C AB.out.2.1 (by rfl) AB.out.2.2.2.2.1 (AB.out.1.below A2.out) (by rw [AB.out.2.1]; exact Nat.le_of_lt AB.out.2.2.2.1) ?_; intro v3 w3 h3
         obtain ⟨a3, C3, hv3, hl3, hc3, hs3⟩ := h3.shape
         rw [AB.out.2.1] at hv3 hc3
         subst hv3
         have hn3 := hu.new_ok a3 zs L C3 w3 hl3 AB.out.2.1 hc3 (by have := AB.out; omega) AE.out
         have A3 : Aside (Below w.heap.size w w3) := A2.out.trans (h3.bel.mono A2.out.size)
         clear h3 hl3 hc3 hs3)
      | (go_at_call 10; refine hn3.mono ?_; rintro e4 w4 ⟨T, rfl, hp4, hb4⟩))
    clear hH2
    obtain ⟨h1, h2, h3⟩ := nerr_ok AE.out
    have hok : ok = true := by
      rcases AK.out with h | h
      · exact h.2.2
      · exact absurd h1 h.1
    have hrk : r = kr (lens zs) := by
      rcases AK.out with h | h
      · exact h.2.1
      · exact absurd h1 h.1
    subst hok
    obtain ⟨lo, hlo⟩ : ∃ lo, w3.heap.size = lo := ⟨_, rfl⟩
    have A4 : Aside (PT w4 lo w4.heap.size T (lens zs) ∧ Below w.heap.size w w4 ∧ part (lens zs) 15 = r ∧ (∀ l ∈ lens zs, l ≤ 15)) := ⟨by rw [← hlo]; exact hp4, A3.out.trans (hb4.mono A3.out.size), by rw [hrk]; exact (kr_part (lens_15 h1)).symm, lens_15 h1⟩
    by_cases hr : r = 32768
    · subst hr
      clear hn3 hp4 hb4 h1 h2 h3 hrk hlo
      have hnw := new_b w4
      obtain ⟨b, hb⟩ : ∃ b, w4.heap.size = b := ⟨_, rfl⟩
      rw [hb] at hnw
      have AB4 : Aside (w4.heap.size = b) := hb
      clear hb
      go_upto_region 8 with (go_at_call 16; refine hnw.mono ?_; rintro e5 w5 ⟨rfl, hr5, hb5, hs5⟩)
      obtain ⟨x, hx⟩ : ∃ x : Nat, v % 256 = x := ⟨_, rfl⟩
      obtain ⟨y, hy⟩ : ∃ y : Nat, v / 256 = y := ⟨_, rfl⟩
      have hv := AB.out.2.2.2.2.2
      have hxi : (v : Int) % 256 = (x : Int) := by omega
      have hx256 : x < 256 := by omega
      have hy256 : y < 256 := by omega
      have hput := put_yes b 0 0 x w5 hr5 (by omega) hx256
      have AX : Aside (x < 256 ∧ y < 256 ∧ v = x + y * 256 ∧ v < 65536) := ⟨hx256, hy256, by omega, hv⟩
      have b5w : Below w.heap.size w w5 := A4.out.2.1.trans (Below.mono (by rw [AB4.out]; exact hb5) A4.out.2.1.size)
      have p5 : PT w5 lo b T (lens zs) := by
        have := A4.out.1
        rw [AB4.out] at this
        exact hu.keep this fun k h1 h2 => hb5.block k h2
      have A5 : Aside (PT w5 lo b T (lens zs) ∧ Below w.heap.size w w5 ∧ Br w5 b 0 0 ∧ w.heap.size ≤ b) := ⟨p5, b5w, hr5, by rw [← AB4.out]; exact A4.out.2.1.size⟩
      clear hnw hr5 hb5 hs5 hv hx hx256 hy256 b5w p5
      go_upto_region 10 with (go_at_call 20; refine hput.mono ?_; rintro e6 w6 ⟨rfl, hr6, ho6⟩)
      have e6' : nm (bitsOf 8 x) = x := nm_byte x AX.out.1
      have A6 : Aside (PT w6 lo b T (lens zs) ∧ Below w.heap.size w w6 ∧ Br w6 b (nm (bitsOf 8 x)) (bitsOf 8 x).length) := by
        refine ⟨hu.keep A5.out.1 fun k h1 h2 => ho6.block k (by omega), A5.out.2.1.trans (ho6.below A5.out.2.2.2), ?_⟩
        rw [e6', bitsOf_length]
        have := hr6
        simpa using this
      clear hput hr6 ho6 e6'
      have hend : ∀ (wq : World) (l : List Bool) (s k : Nat), PT wq lo b T (lens zs) → Below w.heap.size w wq → Hit (lens zs) l s k → nm l = v % 2 ^ l.length → b < wq.heap.size →
          ∃ c : Nat, code (lens zs) s k = c ∧ revl k v 0 = c ∧ (lens zs)[s]? = some k ∧ 0 < k ∧ k ≤ 15 := by
        intro wq l s k h1 h2 h3 h4 _
        refine ⟨_, rfl, ?_, h3.1, h3.2.1, A4.out.2.2.2 k (List.mem_of_getElem? h3.1)⟩
        rw [← h3.2.2.2, ← rev_num k h3.2.2.1, h4, rev_mod k l.length v h3.2.2.1]
      have HE : Aside (∀ (wq : World) (l : List Bool) (s k : Nat), PT wq lo b T (lens zs) → Below w.heap.size w wq → Hit (lens zs) l s k → nm l = v % 2 ^ l.length → b < wq.heap.size →
          ∃ c : Nat, code (lens zs) s k = c ∧ revl k v 0 = c ∧ (lens zs)[s]? = some k ∧ 0 < k ∧ k ≤ 15) := hend
      clear hend
      rcases full_told A4.out.2.2.1 A4.out.2.2.2 (bitsOf 8 x) with ⟨s, k, hh, ht⟩ | ⟨_, ht⟩
      · have hrd := hu.read lo b T (lens zs) b s 0 k (bitsOf 8 x) w6 A6.out.1 (by rw [A4.out.2.2.1]; exact Nat.le_refl _) A4.out.2.2.2 A6.out.2.2 ht
        go_upto_region 15 with (go_at_call 17; refine hrd.mono ?_; rintro e7 w7 ⟨rfl, hr7, hb7⟩)
        have p7 : PT w7 lo b T (lens zs) := hu.keep A6.out.1 fun j h1 h2 => hb7.block j (by have := A6.out.2.2.blt; omega) (by omega)
        have bw7 : Below w.heap.size w w7 := A6.out.2.1.trans ⟨hb7.os, hb7.tape, hb7.output, hb7.size, fun j hj => hb7.block j (by have := A6.out.2.1.size; omega) (by have := A5.out.2.2.2; omega)⟩
        have blt : b < w7.heap.size := hr7.blt
        have hnm : nm (bitsOf 8 x) = v % 2 ^ (bitsOf 8 x).length := by rw [nm_byte x AX.out.1, bitsOf_length]; have := AX.out; omega
        clear hrd hr7 hb7 ht hxi
        obtain ⟨c, hc1, hc2, hc3, hc4, hc5⟩ := HE.out w7 (bitsOf 8 x) s k p7 bw7 hh hnm blt
        have hco := hu.code_yes lo b T (lens zs) s k c w7 p7 hc3 hc4 hc1
        have hcl : clamp (k : Int) = k := by unfold clamp; omega
        have hv32 := AX.out.2.2.2
        have AQ : Aside (Below w.heap.size w w7) := bw7
        have hcc : ((c : Int) == (c : Int)) = true := by simp
        have hvm : (v : Int) % 4294967296 = (v : Int) := by omega
        have hrev := fun (W : World) => rev_c v (by omega) (k : Int) W
        simp only [hcl, hc2] at hrev
        clear hc1 hc2 hc3 hc4 hc5 hcl hv32
        go_wp2_with (first
          | (go_at_call 14; refine hco.mono ?_; rintro e8 w8 ⟨rfl, hb8⟩
             have A8 : Aside (Below w.heap.size w w8) := AQ.out.trans (hb8.mono AQ.out.size)
             have haw := awake_c hu w8
             clear hb8)
          | (go_at_call 22; with_reducible refine (hrev _).mono ?_; rintro e9 w9 ⟨rfl, rfl⟩)
          | (go_at_call 13; refine haw.mono ?_; rintro e10 w10 ⟨rfl, hb10⟩))
        go_ret
        have h6 := A8.out.trans (hb10.mono A8.out.size)
        rw [AW.out] at h6
        exact ⟨rfl, h6⟩
      · have hrd := hu.read lo b T (lens zs) b 0 1 0 (bitsOf 8 x) w6 A6.out.1 (by rw [A4.out.2.2.1]; exact Nat.le_refl _) A4.out.2.2.2 A6.out.2.2 ht
        go_upto_region 12 with (go_at_call 17; refine hrd.mono ?_; rintro e7 w7 ⟨rfl, hr7, hb7⟩)
        have p7 : PT w7 lo b T (lens zs) := hu.keep A6.out.1 fun j h1 h2 => hb7.block j (by have := A6.out.2.2.blt; omega) (by omega)
        have bw7 : Below w.heap.size w w7 := A6.out.2.1.trans ⟨hb7.os, hb7.tape, hb7.output, hb7.size, fun j hj => hb7.block j (by have := A6.out.2.1.size; omega) (by have := A5.out.2.2.2; omega)⟩
        rw [List.drop_zero, nm_byte x AX.out.1, bitsOf_length] at hr7
        have hput := put_yes b x 8 y w7 hr7 (by omega) AX.out.2.1
        have A7 : Aside (PT w7 lo b T (lens zs) ∧ Below w.heap.size w w7) := ⟨p7, bw7⟩
        have hyi : (v : Int) / 256 = (y : Int) := by omega
        have hyi2 : (y : Int) % 256 = (y : Int) := by have := AX.out; omega
        clear hrd hb7 ht p7 bw7
        go_upto_region 14 with (go_at_call 20; with_reducible refine hput.mono ?_; rintro e8 w8 ⟨rfl, hr8, ho8⟩)
        obtain ⟨L2, hL2⟩ : ∃ L2, bitsOf 8 x ++ bitsOf 8 y = L2 := ⟨_, rfl⟩
        have hlen : L2.length = 16 := by rw [← hL2, List.length_append, bitsOf_length, bitsOf_length]
        have hnm0 : nm L2 = v := by
          rw [← hL2, nm_append, nm_byte x AX.out.1, nm_byte y AX.out.2.1, bitsOf_length]
          have := AX.out; omega
        have A8' : Aside (PT w8 lo b T (lens zs) ∧ Below w.heap.size w w8 ∧ Br w8 b (nm L2) L2.length) := by
          refine ⟨hu.keep A7.out.1 fun k h1 h2 => ho8.block k (by omega), A7.out.2.trans (ho8.below A5.out.2.2.2), ?_⟩
          rw [hnm0, hlen]
          have e : x + y * 2 ^ 8 = v := by have := AX.out; omega
          rw [e] at hr8
          exact hr8
        have hnm : nm L2 = v % 2 ^ L2.length := by rw [hnm0, hlen]; have := AX.out; omega
        rcases full_told A4.out.2.2.1 A4.out.2.2.2 L2 with ⟨s, k, hh, ht⟩ | ⟨hsh, _⟩
        · have hrd := hu.read lo b T (lens zs) b s 0 k L2 w8 A8'.out.1 (by rw [A4.out.2.2.1]; exact Nat.le_refl _) A4.out.2.2.2 A8'.out.2.2 ht
          clear hput hr8 ho8 hr7 hxi hyi hyi2 hlen hnm0 hL2
          go_upto_region 15 with (go_at_call 17; refine hrd.mono ?_; rintro e9 wq ⟨rfl, hr9, hb9⟩)
          have p9 : PT wq lo b T (lens zs) := hu.keep A8'.out.1 fun j h1 h2 => hb9.block j (by have := A8'.out.2.2.blt; omega) (by omega)
          have bw9 : Below w.heap.size w wq := A8'.out.2.1.trans ⟨hb9.os, hb9.tape, hb9.output, hb9.size, fun j hj => hb9.block j (by have := A8'.out.2.1.size; omega) (by have := A5.out.2.2.2; omega)⟩
          have blt : b < wq.heap.size := hr9.blt
          clear hrd hr9 hb9 ht
          obtain ⟨c, hc1, hc2, hc3, hc4, hc5⟩ := HE.out wq L2 s k p9 bw9 hh hnm blt
          have hco := hu.code_yes lo b T (lens zs) s k c wq p9 hc3 hc4 hc1
          have hcl : clamp (k : Int) = k := by unfold clamp; omega
          have hv32 := AX.out.2.2.2
          have AQ : Aside (Below w.heap.size w wq) := bw9
          have hcc : ((c : Int) == (c : Int)) = true := by simp
          have hvm : (v : Int) % 4294967296 = (v : Int) := by omega
          have hrev := fun (W : World) => rev_c v (by omega) (k : Int) W
          simp only [hcl, hc2] at hrev
          clear hc1 hc2 hc3 hc4 hc5 hcl hv32
          go_wp2_with (first
            | (go_at_call 14; refine hco.mono ?_; rintro e8 w8 ⟨rfl, hb8⟩
               have A8 : Aside (Below w.heap.size w w8) := AQ.out.trans (hb8.mono AQ.out.size)
               have haw := awake_c hu w8
               clear hb8)
            | (go_at_call 22; with_reducible refine (hrev _).mono ?_; rintro e9 w9 ⟨rfl, rfl⟩)
            | (go_at_call 13; refine haw.mono ?_; rintro e10 w10 ⟨rfl, hb10⟩))
          go_ret
          have h6 := A8.out.trans (hb10.mono A8.out.size)
          rw [AW.out] at h6
          exact ⟨rfl, h6⟩
        · omega
    · have q1 : ¬ (r : Int) = 32768 := by omega
      have q2 : ((r : Int) != 32768) = true := by rw [bne_iff_ne]; exact q1
      have q3 : ((r : Int) ≤ 16384) = True := eq_true (by have := kr_small (ls := lens zs) (by omega) h3; omega)
      have q4 : (r ≤ 16384) = True := eq_true (by have := kr_small (ls := lens zs) (by omega) h3; omega)
      have haw := awake_c hu w4
      clear hn3 hp4 hb4 h1 h2 h3 hrk hlo hr
      go_wp2_with (go_at_call 13; refine haw.mono ?_; rintro e5 w5 ⟨rfl, hb5⟩)
      go_ret
      have h6 := A4.out.2.1.trans (hb5.mono A4.out.2.1.size)
      rw [AW.out] at h6
      exact ⟨rfl, h6⟩
  · go_upto_region 3 with (first
      | (at_builtin; refine wpList_appn _ rfl (.tmp 23) (.tmp 24) rfl w2 (by rfl) H2 AH2.out.symm (by rfl) a zs L C AB.out.2.1 (by rfl) AB.out.2.2.2.2.1 (AB.out.1.below A2.out) (by rw [AB.out.2.1]; exact Nat.le_of_lt AB.out.2.2.2.1) ?_; intro v3 w3 h3
         obtain ⟨a3, C3, hv3, hl3, hc3, hs3⟩ := h3.shape
         rw [AB.out.2.1] at hv3 hc3
         subst hv3
         have hn3 := hu.new_err a3 zs L C3 e0 w3 hl3 AB.out.2.1 hc3 (by have := AB.out; omega) AE.out hz0
         have A3 : Aside (Below w.heap.size w w3) := A2.out.trans (h3.bel.mono A2.out.size)
         clear h3 hl3 hc3 hs3)
      | (go_at_call 10; refine hn3.mono ?_; rintro e4 w4 ⟨rfl, hb4⟩))
    have A4 : Aside (Below w.heap.size w w4) := A3.out.trans (hb4.mono A3.out.size)
    have haw := awake_c hu w4
    have z1 : ¬ (e0 : Int) = 0 := by omega
    have z2 : ((e0 : Int) != 0) = true := by rw [bne_iff_ne]; exact z1
    have hne : ok = true → r ≠ 32768 := by
      intro h1 h2
      rcases AK.out with ⟨k1, k2, _⟩ | ⟨_, _, k3⟩
      · apply hz0
        rw [← AE.out]
        unfold nerr
        rw [if_neg (fun hn => hn k1), if_neg (by omega), if_neg (fun hU => by have := hU.1; omega)]
      · rw [k3] at h1; cases h1
    clear hn3 hb4 hH2
    cases ok with
    | true =>
      have hr := hne rfl
      have q1 : ¬ (r : Int) = 32768 := by omega
      have q2 : ((r : Int) != 32768) = true := by rw [bne_iff_ne]; exact q1
      clear hne hr
      go_wp2_with (go_at_call 13; refine haw.mono ?_; rintro e5 w5 ⟨rfl, hb5⟩)
      go_ret
      have h6 := A4.out.trans (hb5.mono A4.out.size)
      rw [AW.out] at h6
      exact ⟨rfl, h6⟩
    | false =>
      clear hne
      go_wp2_with (go_at_call 13; refine haw.mono ?_; rintro e5 w5 ⟨rfl, hb5⟩)
      go_ret
      have h6 := A4.out.trans (hb5.mono A4.out.size)
      rw [AW.out] at h6
      exact ⟨rfl, h6⟩
end Go.Proofs.Ytlmajiejapaegaa

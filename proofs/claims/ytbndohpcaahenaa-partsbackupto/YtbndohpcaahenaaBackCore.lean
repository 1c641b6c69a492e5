/-
  PartsBack's walk.
-/
import Derived.Test.YtbndohpcaahenaaBkm
import Derived.Test.YtbndohpcaahenaaWrt
import Derived.Deep.RegionHeld3
import Derived.Deep.RegionWith
import Derived.BigRegion
import Derived.Deep.CutBlock
import Derived.Deep.DeepCutAuto
namespace Go.Proofs.Ytbndohpcaahenaa
open Go.RowKit
set_option linter.unusedVariables false
theorem ow_two {w : World} {lo n c : Nat} {a : Option Addr} {l : List Nat} (h : Ow w lo 5 1 (.slice a n c) n (ob l)) : l.length = n ∧ n ≤ c ∧ Lies w a l ∧ (a = none → n = 0 ∧ c = 0) := by
  obtain ⟨a', c', e, h1, h2, h3, h4⟩ := h.lies
  cases e
  exact ⟨h1, h2, h3, h4⟩
set_option maxRecDepth 20000 in
set_option maxHeartbeats 4000000 in
theorem back_core (w : World) (a : Option Addr) (ls : List (List Nat)) (N C : Nat) (b : List Nat) (a0 : Option Addr) (l0 : List Nat) (L0 C0 : Nat) (a1 : Option Addr) (l1 : List Nat) (L1 C1 : Nat) (hx : Rl w a ls) (hN : ls.length = N) (hNb : N ≤ 2000000) (hol : ∀ l ∈ ls, Oct l) (hW : vd b = true → (wri (dd b) ls).length ≤ 90000000) (hob : Oct b) (hb : b.length ≤ 2000000)
    (h0 : Lies w a0 l0) (hL0 : l0.length = L0) (hL0b : L0 ≤ 2000000) (h1 : Lies w a1 l1) (hL1 : l1.length = L1) (hL1b : L1 ≤ 2000000) (hz1 : a1 = none → L1 = 0 ∧ C1 = 0) (ho1 : Oct l1) :
    Calls Try.prog 7 #[.slice a N C, .string (st b), .agg #[.slice a0 L0 C0, .slice a1 L1 C1]] w fun e w' => e = .returned (.bool true) ∧ Below w.heap.size w w' := by
  obtain ⟨B, hB⟩ : ∃ B, w.heap.size = B := ⟨_, rfl⟩
  obtain ⟨w0, hw0⟩ : ∃ w0, w.alloc (.cells #[.slice a0 L0 C0, .slice a1 L1 C1] 53) = w0 := ⟨_, rfl⟩
  have kB : Cells w0 B #[.slice a0 L0 C0, .slice a1 L1 C1] 53 := by rw [← hw0, ← hB]; exact Cells.new w _ 53
  have bel0 : Below w.heap.size w w0 := by rw [← hw0]; exact (Below.refl _ w).alloc (Nat.le_refl _) _
  have hwr := write_c b hob (by omega) a ls N C hN w0 (hx.below bel0) hol (fun h => Nat.le_trans (hW h) (by decide))
  have hok : (wv b ls).1 = true → vd b = true ∧ (∀ p ∈ ls, hs (dd b) [] p = false) ∧ (wv b ls).2 = wri (dd b) ls := by
    unfold wv
    split
    · rename_i h; intro _; exact ⟨h.1, h.2, rfl⟩
    · intro h; cases h
  have hno : (wv b ls).1 = false → (wv b ls).2 = [] := by
    unfold wv
    split
    · intro h; cases h
    · intro _; rfl
  obtain ⟨⟨ok, lx⟩, hwv⟩ : ∃ r, wv b ls = r := ⟨_, rfl⟩
  rw [hwv] at hwr hok hno
  dsimp only at hwr hok hno
  rw [hB] at bel0 ⊢
  have AZ : Aside (Lies w a0 l0 ∧ l0.length = L0 ∧ L0 ≤ 2000000 ∧ Lies w a1 l1 ∧ L1 ≤ 2000000 ∧ l1.length = L1 ∧ Oct l1 ∧ (a1 = none → L1 = 0 ∧ C1 = 0) ∧ w.heap.size = B ∧ Below B w w0 ∧ Cells w0 B #[.slice a0 L0 C0, .slice a1 L1 C1] 53 ∧ Rl w a ls ∧ ls.length = N ∧ N ≤ 2000000 ∧ (∀ l ∈ ls, Oct l)) := ⟨h0, hL0, hL0b, h1, hL1b, hL1, ho1, hz1, hB, bel0, kB, hx, hN, hNb, hol⟩
  have AK : Aside ((ok = true → vd b = true ∧ (∀ p ∈ ls, hs (dd b) [] p = false) ∧ lx = wri (dd b) ls) ∧ (ok = false → lx = []) ∧ Oct b ∧ (vd b = true → (wri (dd b) ls).length ≤ 90000000)) := ⟨hok, hno, hob, hW⟩
  obtain ⟨sb, hsb⟩ : ∃ sb, st b = sb := ⟨_, rfl⟩
  rw [hsb] at hwr ⊢
  have AS : Aside (st b = sb) := hsb
  obtain ⟨i0, hi, hz0, hz1', hz2⟩ := ginfo_parts ginfo5
  have AI : Aside (Try.prog.info? 5 = some i0 ∧ i0.zero = some (.int .u8 0) ∧ i0.size = 1 ∧ i0.bytes = 1) := ⟨hi, hz0, hz1', hz2⟩
  clear hx hN hNb hol hW hob hb h0 hL0 hL0b h1 hL1 hL1b hz1 ho1 kB bel0 hok hno hwv hsb hi hz0 hz1' hz2
  go_enter Try.func7, Try.ntmps7
  go_upto_region 1 with fail
  (try rw [hB])
  (try rw [hw0])
  have hwA : Aside (w.alloc (.cells #[.slice a0 L0 C0, .slice a1 L1 C1] 53) = w0) := hw0
  clear hw0 hB
  go_upto_region 2 with (go_at_call 23; refine hwr.mono ?_; rintro e1 w1 ⟨xa, nx, xc, rfl, ox, hnx, bx⟩; have hnxA : Aside (nx = lx.length) := hnx; clear hnx)
  have az := AZ.out
  have hB0 : B < w0.heap.size := az.2.2.2.2.2.2.2.2.2.2.1.lt
  have bw1 : Below B w w1 := az.2.2.2.2.2.2.2.2.2.1.trans (bx.mono (by omega))
  have kB1 := az.2.2.2.2.2.2.2.2.2.2.1.below bx hB0
  have hx2 := ow_two ox
  obtain ⟨lo2, hlo2⟩ : ∃ lo2, w1.heap.size = lo2 := ⟨_, rfl⟩
  have A1 : Aside (Below B w w1 ∧ Cells w1 B #[.slice a0 L0 C0, .slice a1 L1 C1] 53 ∧ w1.heap.size = lo2 ∧ B < lo2) := ⟨bw1, kB1, hlo2, by have := bx.size; omega⟩
  have A2 : Aside (Lies w1 xa lx ∧ nx ≤ xc ∧ lx.length = nx ∧ (xa = none → nx = 0 ∧ xc = 0)) := ⟨hx2.2.2.1, hx2.2.1, hx2.1, hx2.2.2.2⟩
  clear az hB0 bw1 kB1 hx2 ox bx hwr hlo2
  cases ok with
  | false =>
    have hn0 : nx = 0 := by have := AK.out.2.1 rfl; rw [hnxA.out, this]; rfl
    subst hn0
    have hawk := awake_c w1
    go_wp2_with (go_at_call 13; refine hawk.mono ?_; rintro e6 w6 ⟨rfl, b6⟩)
    first | go_ret | go_ret2
    have a1' := A1.out
    exact ⟨rfl, a1'.1.trans (b6.mono (by omega))⟩
  | true =>
    obtain ⟨hvd, hhs, hlx0⟩ := AK.out.1 rfl
    have AV : Aside (vd b = true ∧ (∀ p ∈ ls, hs (dd b) [] p = false) ∧ lx = wri (dd b) ls ∧ nx ≤ 90000000) := ⟨hvd, hhs, hlx0, by rw [← A2.out.2.2.1, hlx0]; exact AK.out.2.2.2 hvd⟩
    clear hvd hhs hlx0
    obtain ⟨Q, hQ⟩ : ∃ Q, min L0 50 = Q := ⟨_, rfl⟩
    have AQ : Aside (min L0 50 = Q) := hQ
    clear hQ
    go_upto_region 5 with fail
    go_wp2_with fail
    go_loopg [9, 10] Q (fun gg s9 s10 wr => ∃ (i : Nat) (va : Option Addr) (cv' : Nat), s9 = .slice va i cv' ∧ s10 = .int .i64 (i : Int) ∧ Aside (i + gg = Q ∧ Ow wr lo2 5 1 (.slice va i cv') i (ob (lt (l0.take i))) ∧ Below lo2 w1 wr))
    case atStart => exact ⟨0, none, 0, rfl, rfl, ⟨by omega, Ow.nil (by have := A1.out.2.2.1; omega), Below.refl _ _⟩⟩
    case round =>
      obtain ⟨i, va, cv', rfl, rfl, hT⟩ := hrel
      obtain ⟨hig, how, hbel⟩ := hT.out
      have az := AZ.out
      have a1' := A1.out
      have kBr := a1'.2.1.below hbel a1'.2.2.2
      have kb0 := kBr.cell 0
      have hQ := AQ.out
      have A3 : Aside (i + gk = Q ∧ Ow wr lo2 5 1 (.slice va i cv') i (ob (lt (l0.take i))) ∧ Below lo2 w1 wr ∧ Cells wr B #[.slice a0 L0 C0, .slice a1 L1 C1] 53) := ⟨hig, how, hbel, kBr⟩
      obtain ⟨tb, htb⟩ : ∃ tb, decide (i < Q) = tb := ⟨_, rfl⟩
      have AT : Aside (decide (i < Q) = tb) := htb
      clear hT hig how hbel a1' kBr
      go_upto_region 6 with fail
      go_cut [37] from 29 to 49 (fun s37 wc => s37 = .bool tb ∧ wc = wr)
      case first =>
        by_cases hl : i < L0
        · have t1 : ((i : Int) < (L0 : Int)) = True := eq_true (by omega)
          have t2 : (i < L0) = True := eq_true hl
          by_cases h50 : i < 50
          · have t3 : ((i : Int) < 50) = True := eq_true (by omega)
            have t4 : (i < 50) = True := eq_true h50
            have : tb = true := by rw [← htb, decide_eq_true_eq]; omega
            subst this
            clear htb hl h50 hQ az
            go_wp2_with fail
            go_meet
            exact ⟨rfl, rfl⟩
          · have t3 : ((i : Int) < 50) = False := eq_false (by omega)
            have t4 : (i < 50) = False := eq_false h50
            have : tb = false := by rw [← htb, decide_eq_false_iff_not]; omega
            subst this
            clear htb hl h50 hQ az
            go_wp2_with fail
            go_meet
            exact ⟨rfl, rfl⟩
        · have t1 : ((i : Int) < (L0 : Int)) = False := eq_false (by omega)
          have t2 : (i < L0) = False := eq_false hl
          have : tb = false := by rw [← htb, decide_eq_false_iff_not]; omega
          subst this
          clear htb hl hQ az
          go_wp2_with fail
          go_meet
          exact ⟨rfl, rfl⟩
      case rest =>
        clear htb az hQ
        obtain ⟨rfl, hwc⟩ := hcut
        have hwc := hwc.symm
        subst hwc
        cases tb with
        | true =>
          have hiQ : i < Q := of_decide_eq_true AT.out
          have hQ := AQ.out
          have az := AZ.out
          have t1 : ((i : Int) < (L0 : Int)) = True := eq_true (by omega)
          have t2 : (i < L0) = True := eq_true (by omega)
          have bi : (i : Int) < 200000000 := by omega
          obtain ⟨x, hx⟩ : ∃ x, l0[i]? = some x := ⟨_, List.getElem?_eq_getElem (by omega)⟩
          obtain ⟨g, o, rfl, hcell⟩ : ∃ g o, a0 = some ⟨g, o, none⟩ ∧ wr.cell? ⟨g, o + i, none⟩ = some (.int .u8 (x : Int)) := by
            rcases az.1 with e | ⟨g, o, ha, hcc⟩
            · rw [e] at hx; simp at hx
            · have hc0 := hcc i x hx
              have hlt : g < w.heap.size := World.block_lt_of_cell? w ⟨g, o + i, none⟩ hc0
              refine ⟨g, o, ha, ?_⟩
              rw [A3.out.2.2.1.cell (p := ⟨g, o + i, none⟩) (by have := A1.out; show g < lo2; omega), A1.out.1.cell (p := ⟨g, o + i, none⟩) (by show g < B; omega)]
              exact hc0
          obtain ⟨y, hy⟩ : ∃ y, 97 + x % 26 = y := ⟨_, rfl⟩
          have hy26 : x % 26 < 26 := Nat.mod_lt _ (by decide)
          obtain ⟨m, hm⟩ : ∃ m, x % 26 = m := ⟨_, rfl⟩
          have hm1 : (x : Int) % 26 = (m : Int) := by omega
          have hm2 : Int.tmod (x : Int) 26 = (m : Int) := by rw [Int.tmod_eq_emod_of_nonneg (by omega)]; exact hm1
          have hm3 : (97 : Int) + (m : Int) = (y : Int) := by omega
          have hyb : (y : Int) < 256 := by omega
          have hmb : (m : Int) < 26 := by omega
          have htk := lt_take hx
          rw [hy] at htk
          obtain ⟨K, hK⟩ : ∃ K, wr.heap.size = K := ⟨_, rfl⟩
          have kn : Cells (wr.alloc (.cells #[.int .u8 (y : Int)] 5)) K #[.int .u8 (y : Int)] 5 := by rw [← hK]; exact Cells.new wr _ 5
          have hl2 : ob [y] = [] ∨ ∃ b o, (some ⟨K, 0, none⟩ : Option Addr) = some ⟨b, o, none⟩ ∧ ∀ (i : Nat) u, (ob [y])[i]? = some u → (wr.alloc (.cells #[.int .u8 (y : Int)] 5)).cell? ⟨b, o + i, none⟩ = some u := Or.inr ⟨K, 0, rfl, fun i u hu => by
            rw [Nat.zero_add, kn.cell]
            cases i with
            | zero => simpa [ob] using hu
            | succ i => simp [ob] at hu⟩
          have b0 : Below wr.heap.size wr (wr.alloc (.cells #[.int .u8 (y : Int)] 5)) := (Below.refl _ wr).alloc (Nat.le_refl _) _
          have how1 := A3.out.2.1.below b0 (Nat.le_refl _)
          have A4 : Aside (i < Q ∧ Q ≤ 50 ∧ lt (l0.take (i + 1)) = lt (l0.take i) ++ [y] ∧ Below lo2 w1 (wr.alloc (.cells #[.int .u8 (y : Int)] 5))) := ⟨hiQ, by omega, htk, A3.out.2.2.1.trans (b0.mono A3.out.2.1.le)⟩
          clear hiQ hQ az hx hy hy26 hm htk b0 kn
          go_upto_region 7 with (at_builtin; refine wpList_ow Try.prog _ rfl (.tmp 40) (.tmp 48) 22 rfl 5 i0 _ 1 1 Try.underlying22 AI.out.1 AI.out.2.1 AI.out.2.2.1 AI.out.2.2.2 rfl (by decide) lo2 (.slice va i cv') i _ (by rfl) how1 (some ⟨K, 0, none⟩) (ob [y]) 1 1 rfl (by rfl) (fun h => by cases h) hl2 ob_one (by have := A4.out; unfold maxLen; omega) (by have := A4.out; omega) ?_; intro v5' w5 hg5; obtain ⟨v5, c5, hv5, _⟩ := hg5.ow.shape; subst hv5)
          have A5 : Aside (Ow w5 lo2 5 1 (.slice v5 (i + 1) c5) (i + 1) (ob (lt (l0.take (i + 1)))) ∧ Below lo2 w1 w5) := ⟨by have := hg5.ow; rw [ob_append, ← A4.out.2.2.1] at this; exact this, A4.out.2.2.2.trans hg5.bel⟩
          clear hg5 how1 hl2 hcell hK hm1 hm2 hm3 hyb hmb
          go_wp2_with fail
          have a4 := A4.out
          have a3 := A3.out
          go_roundg (gk - 1)
          case measure => omega
          case rel => exact ⟨i + 1, v5, c5, rfl, by go_num, ⟨by omega, A5.out.1, A5.out.2⟩⟩
        | false =>
          have hiQ : ¬ i < Q := of_decide_eq_false AT.out
          have hiQ2 : i = Q := by have := A3.out.1; omega
          obtain ⟨l, hl⟩ : ∃ l, l0.take i = l := ⟨_, rfl⟩
          have hll : l.length = i := by rw [← hl, List.length_take]; have := AQ.out; have := AZ.out.2.1; omega
          have hQ := AQ.out
          have ow0 := A3.out.2.1
          rw [hl] at ow0
          have A6 : Aside (Ow wr lo2 5 1 (.slice va i cv') i (ob (lt l)) ∧ l.length = i ∧ i ≤ 50) := ⟨ow0, hll, by omega⟩
          clear hiQ hiQ2 hl hll hQ ow0
          obtain ⟨pb, hpb⟩ : ∃ pb, decide (0 < i) = pb := ⟨_, rfl⟩
          have hpb2 : decide ((0 : Int) < (i : Int)) = pb := by rw [← hpb]; simp
          have APB : Aside (decide (0 < i) = pb) := hpb
          go_upto_if 52 with fail
          go_cut [9] (fun s9 wc => ∃ (va : Option Addr) (n cv' : Nat), s9 = .slice va n cv' ∧ Aside (Ow wc lo2 5 1 (.slice va n cv') n (ob (ahd l)) ∧ Below lo2 w1 wc))
          case first =>
            clear hpb hpb2
            cases pb with
            | true =>
              have h0 : 0 < i := of_decide_eq_true APB.out
              have t1 : ((0 : Int) < (i : Int)) = True := eq_true (by omega)
              have t2 : (0 < i) = True := eq_true h0
              obtain ⟨K, hK⟩ : ∃ K, wr.heap.size = K := ⟨_, rfl⟩
              have kn : Cells (wr.alloc (.cells #[.int .u8 13, .int .u8 10] 5)) K #[.int .u8 13, .int .u8 10] 5 := by rw [← hK]; exact Cells.new wr _ 5
              have hl2 : ob [13, 10] = [] ∨ ∃ b o, (some ⟨K, 0, none⟩ : Option Addr) = some ⟨b, o, none⟩ ∧ ∀ (i : Nat) u, (ob [13, 10])[i]? = some u → (wr.alloc (.cells #[.int .u8 13, .int .u8 10] 5)).cell? ⟨b, o + i, none⟩ = some u := Or.inr ⟨K, 0, rfl, fun i u hu => by
                rw [Nat.zero_add, kn.cell]
                have hi2 : i < 2 := by have := (List.getElem?_eq_some_iff.1 hu).1; simpa [ob] using this
                match i, hi2, hu with
                | 0, _, hu => simpa [ob] using hu
                | 1, _, hu => simpa [ob] using hu⟩
              have b0 : Below wr.heap.size wr (wr.alloc (.cells #[.int .u8 13, .int .u8 10] 5)) := (Below.refl _ wr).alloc (Nat.le_refl _) _
              have how1 := A6.out.1.below b0 (Nat.le_refl _)
              have hle := A6.out.2.2
              have A7 : Aside (i ≤ 50 ∧ Below lo2 w1 (wr.alloc (.cells #[.int .u8 13, .int .u8 10] 5)) ∧ lt l ++ [13, 10] = ahd l) := ⟨hle, A3.out.2.2.1.trans (b0.mono A3.out.2.1.le), by
                unfold ahd
                rw [if_neg]
                intro e
                have := A6.out.2.1
                rw [e] at this
                simp at this
                omega⟩
              clear kn b0 hle h0
              go_wp2_with (at_builtin; refine wpList_ow Try.prog _ rfl (.tmp 53) (.tmp 54) 22 rfl 5 i0 _ 1 1 Try.underlying22 AI.out.1 AI.out.2.1 AI.out.2.2.1 AI.out.2.2.2 rfl (by decide) lo2 (.slice va i cv') i _ (by rfl) how1 (some ⟨K, 0, none⟩) (ob [13, 10]) 2 2 rfl (by rfl) (fun h => by cases h) hl2 ob_one (by have := A7.out; unfold maxLen; omega) (by have := A7.out; omega) ?_; intro v5' w5 hg5; obtain ⟨v5, c5, hv5, _⟩ := hg5.ow.shape; subst hv5)
              go_meet
              exact ⟨v5, i + 2, c5, rfl, ⟨by have := hg5.ow; rw [ob_append, A7.out.2.2] at this; exact this, A7.out.2.1.trans hg5.bel⟩⟩
            | false =>
              have h0 : ¬ 0 < i := of_decide_eq_false APB.out
              have t1 : ((0 : Int) < (i : Int)) = False := eq_false (by omega)
              have t2 : (0 < i) = False := eq_false h0
              have hi0 : i = 0 := by omega
              have hA : Ow wr lo2 5 1 (.slice va i cv') i (ob (ahd l)) := by
                have h := A6.out
                have hl0 : l = [] := List.eq_nil_of_length_eq_zero (by omega)
                rw [hl0] at h ⊢
                exact h.1
              have A7 : Aside (Ow wr lo2 5 1 (.slice va i cv') i (ob (ahd l)) ∧ Below lo2 w1 wr) := ⟨hA, A3.out.2.2.1⟩
              clear hA hi0 h0
              go_wp2_with fail
              go_meet
              exact ⟨va, i, cv', rfl, A7.out⟩
          case rest =>
            clear hpb hpb2
            obtain ⟨va, n, cv', rfl, hC⟩ := hcut
            obtain ⟨how, hbel⟩ := hC.out
            have hn := ow_two how
            have hal := ahd_len l
            have h6 := A6.out.2
            have hvv := AV.out
            have az := AZ.out
            have hlx : Lies wc xa lx := A2.out.1.below (by rw [A1.out.2.2.1]; exact hbel)
            have AB1 : Aside (∀ W, Below lo2 w1 W → W.cell? ⟨B, 1, none⟩ = some (.slice a1 L1 C1) ∧ Lies W a1 l1) := fun W bW => ⟨((A1.out.2.1.below bW A1.out.2.2.2).cell 1).trans rfl, az.2.2.2.1.below (by rw [az.2.2.2.2.2.2.2.2.1]; exact A1.out.1.trans (bW.mono (by have := A1.out.2.2.2; omega)))⟩
            have kb1 := (AB1.out wc hbel).1
            have A4 : Aside ((ahd l).length = n ∧ Below lo2 w1 wc ∧ n + nx + L1 ≤ 100000000) := ⟨hn.1, hbel, by omega⟩
            clear hC hbel hn hal h6 hvv az kb0
            go_upto_region 11 with fail
            refine wp_region_held_drew (S := fun W => W.cell? ⟨B, 1, none⟩ = some (.slice a1 L1 C1) ∧ True) (by kernel_rfl) ⟨kb1, trivial⟩ (fun hHeld => ?_)
            refine wpAnyH_take (i := 0) (oi := ⟨_, _, _, _, _, _⟩) (v := ?_) rfl (by kernel_rfl) (by kernel_rfl) (by kernel_rfl) (fun _ _ _ h => h) (Or.inl ⟨by rfl, ?_⟩) hHeld ?_
            rotate_left
            · (intro w9 hSw; (try dsimp only at hSw); obtain ⟨q0, q1⟩ := hSw; go_simp; try (with_reducible rfl))
            try simp only [Act.put, List.setIfInBounds_toArray, List.set_cons_zero, List.set_cons_succ]
            refine wpAnyH_take (i := 1) (oi := ⟨_, _, _, _, _, _⟩) (v := ?_) rfl (by kernel_rfl) (by kernel_rfl) (by kernel_rfl) (fun _ _ _ h => h) (Or.inl ⟨by rfl, ?_⟩) hHeld ?_
            rotate_left
            · (intro w9 hSw; (try dsimp only at hSw); obtain ⟨q0, q1⟩ := hSw; go_simp; try (with_reducible rfl))
            try simp only [Act.put, List.setIfInBounds_toArray, List.set_cons_zero, List.set_cons_succ]
            refine wpAnyH_take (i := 3) (oi := ⟨_, _, _, _, _, _⟩) (v := ?_) rfl (by kernel_rfl) (by kernel_rfl) (by kernel_rfl) (fun _ _ _ h => h) (Or.inl ⟨by rfl, ?_⟩) hHeld ?_
            rotate_left
            · (intro w9 hSw; (try dsimp only at hSw); obtain ⟨q0, q1⟩ := hSw; go_simp; try (with_reducible rfl))
            try simp only [Act.put, List.setIfInBounds_toArray, List.set_cons_zero, List.set_cons_succ]
            refine wpAnyH_take (i := 4) (oi := ⟨_, _, _, _, _, _⟩) (v := ?_) rfl (by kernel_rfl) (by kernel_rfl) (by kernel_rfl) (fun _ _ _ h => h) (Or.inl ⟨by rfl, ?_⟩) hHeld ?_
            rotate_left
            · (intro w9 hSw; (try dsimp only at hSw); obtain ⟨q0, q1⟩ := hSw; go_simp; try (with_reducible rfl))
            try simp only [Act.put, List.setIfInBounds_toArray, List.set_cons_zero, List.set_cons_succ]
            refine wpAnyH_ready (rs := [2]) (by kernel_rfl) (by simp) ?_
            refine AllReadyH.cons (o := ⟨_, _, _, _, _, _⟩) rfl (fun K hK => ?_) AllReadyH.nil
            refine step_ows Try.prog _ rfl (.tmp 56) (.tmp 57) 22 rfl 5 i0 _ 1 1 Try.underlying22 AI.out.1 AI.out.2.1 AI.out.2.2.1 AI.out.2.2.2 rfl (by decide) lo2 (.slice va n cv') n _ (by first | rfl | go_simp) how.drew xa (ob lx) nx xc (by rw [ob_length]; have := A2.out.2.2.1; omega) (by first | rfl | go_simp) A2.out.2.2.2 (lies_ob (hlx.drewN 1)) ob_one (by have := A4.out.2.2; unfold maxLen; omega) (by have := A4.out.2.2; omega) ?_
            intro v5 c5 w5 hg5
            obtain ⟨n5, hn5⟩ : ∃ n5, n + nx = n5 := ⟨_, rfl⟩
            rw [hn5] at hg5 ⊢
            have hn5A : Aside (n + nx = n5) := hn5
            clear hn5
            have bel5 : Below lo2 w1 w5 := A4.out.2.1.drew.trans hg5.bel
            obtain ⟨kb5, lz5⟩ := AB1.out w5 bel5
            refine hK.out _ _ ⟨kb5, trivial⟩ (fun hHeldB => ?_)
            clear hK K
            try simp only [Act.put, List.setIfInBounds_toArray, List.set_cons_zero, List.set_cons_succ]
            refine wpAnyH_ready (rs := [5]) (by kernel_rfl) (by simp) ?_
            refine AllReadyH.cons (o := ⟨_, _, _, _, _, _⟩) rfl (fun K hK => ?_) AllReadyH.nil
            refine step_ows Try.prog _ rfl (.tmp 58) (.tmp 60) 22 rfl 5 i0 _ 1 1 Try.underlying22 AI.out.1 AI.out.2.1 AI.out.2.2.1 AI.out.2.2.2 rfl (by decide) lo2 (.slice v5 n5 c5) n5 _ (by first | rfl | go_simp) hg5.ow a1 (ob l1) L1 C1 (by rw [ob_length]; have := AZ.out.2.2.2.2.2.1; omega) (by first | rfl | go_simp) AZ.out.2.2.2.2.2.2.2.1 (lies_ob lz5) ob_one (by have := A4.out.2.2; have := hn5A.out; unfold maxLen; omega) (by have := A4.out.2.2; have := hn5A.out; omega) ?_
            intro a6 c6 w6 hg6
            obtain ⟨n6, hn6⟩ : ∃ n6, n5 + L1 = n6 := ⟨_, rfl⟩
            rw [hn6] at hg6 ⊢
            have hn6A : Aside (n5 + L1 = n6) := hn6
            clear hn6
            have bel6 : Below lo2 w1 w6 := bel5.trans hg6.bel
            obtain ⟨kb6, lz6⟩ := AB1.out w6 bel6
            refine hK.out _ _ ⟨kb6, trivial⟩ (fun hHeldC => ?_)
            clear hK K
            try simp only [Act.put, List.setIfInBounds_toArray, List.set_cons_zero, List.set_cons_succ]
            refine wpAnyH_take (i := 6) (oi := ⟨_, _, _, _, _, _⟩) (v := ?_) rfl (by kernel_rfl) (by kernel_rfl) (by kernel_rfl) (fun _ _ _ h => h) (Or.inl ⟨by rfl, ?_⟩) hHeldC ?_
            rotate_left
            · (intro w9 hSw; (try dsimp only at hSw); obtain ⟨q0, q1⟩ := hSw; go_simp; try (with_reducible rfl))
            try simp only [Act.put, List.setIfInBounds_toArray, List.set_cons_zero, List.set_cons_succ]
            refine wpAnyH_done (by kernel_rfl) ?_ _
            (try dsimp only [Exit.then])
            have ow6 := hg6.ow
            rw [ob_append, ob_append] at ow6
            have h6 := ow_two ow6
            have hvv := AV.out
            have az := AZ.out
            have hbd := vd_bd hvv.1 AK.out.2.2.1
            have hback := ahead_back hbd l l1 ls (fun p hp => ⟨hvv.2.1 p hp, az.2.2.2.2.2.2.2.2.2.2.2.2.2.2 p hp⟩)
            rw [← hvv.2.2.1] at hback
            have hox : Oct (ahd l ++ lx ++ l1) := ((ahd_oct l).append (by rw [hvv.2.2.1]; exact wri_oct (dd_oct AK.out.2.2.1) ls az.2.2.2.2.2.2.2.2.2.2.2.2.2.2)).append az.2.2.2.2.2.2.1
            have hwh := whole_c b AK.out.2.2.1 hvv.1 a6 (ahd l ++ lx ++ l1) n6 c6 h6.1 (by have := A4.out.2.2; have := hn5A.out; have := hn6A.out; omega) hox w6 h6.2.2.1
            rw [hback.1, hback.2, AS.out] at hwh
            have hwh2 : Calls Try.prog 9 #[.slice a6 n6 c6, .string sb] w6 fun e w' => Wr w6.heap.size w6 ls 0 e w' := hwh
            have bw6 : Below B w w6 := A1.out.1.trans (bel6.mono (by have := A1.out.2.2.2; omega))
            have A8 : Aside (Below B w w6 ∧ B ≤ w6.heap.size) := ⟨bw6, by have := bw6.size; omega⟩
            clear ow6 h6 hvv az hbd hback hox hwh bw6 hg5 hg6 bel5 bel6 kb5 lz5 kb6 lz6 hHeld hHeldB hHeldC how hlx kb1
            go_upto_region 13 with (go_at_call 9; refine hwh2.mono ?_; rintro e7 w7 ⟨a7, n7, c7, rfl, l7, hn7, b7⟩; have hn7A : Aside (n7 = ls.length) := hn7; clear hn7)
            have az := AZ.out
            have hnN : n7 = N := hn7A.out.trans az.2.2.2.2.2.2.2.2.2.2.2.2.1
            subst hnN
            have bw7 : Below B w w7 := A8.out.1.trans (b7.mono A8.out.2)
            have hrw := rows_c w7 a7 a ls n7 c7 C az.2.2.2.2.2.2.2.2.2.2.2.2.1 (by have := az.2.2.2.2.2.2.2.2.2.2.2.2.2.1; omega) (l7.rl hn7A.out) (az.2.2.2.2.2.2.2.2.2.2.2.1.below (by rw [az.2.2.2.2.2.2.2.2.1]; exact bw7)) az.2.2.2.2.2.2.2.2.2.2.2.2.2.2
            have A9 : Aside (Below B w w7 ∧ B ≤ w7.heap.size) := ⟨bw7, by have := bw7.size; omega⟩
            clear az bw7 b7 l7 hwh2 hn7A
            go_wp2_with (first | (go_at_call 15; refine hrw.mono ?_; rintro e8 w8 ⟨rfl, m8, hm8⟩; have hm8A : Aside (w8 = w7.drewN m8) := hm8; clear hm8; have hawk := awake_c w8) | (go_at_call 13; refine hawk.mono ?_; rintro e9 w9 ⟨rfl, b9⟩))
            first | go_ret | go_ret2
            have a9 := A9.out
            have bw8 : Below B w w8 := by rw [hm8A.out]; exact Below.drewN2 a9.1 _
            exact ⟨rfl, bw8.trans (b9.mono (by have := bw8.size; have := AZ.out.2.2.2.2.2.2.2.2.1; omega))⟩
end Go.Proofs.Ytbndohpcaahenaa

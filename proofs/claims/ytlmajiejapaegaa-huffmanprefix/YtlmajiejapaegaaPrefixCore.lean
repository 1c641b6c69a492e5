/-
  HuffmanPrefix, behind the opening of its arguments: the call answers true, and what lay in memory is as it was.
  Conditions: the program keeps its contracts; the lengths lie in memory.
-/
import Derived.Test.YtlmajiejapaegaaApp
namespace Go.Proofs.Ytlmajiejapaegaa
open Go.RowKit
set_option linter.unusedVariables false
variable {PT : World → Nat → Nat → Nat → List Nat → Prop}
/-- The code of the last symbol of n bits ahead of k; -1: there is none. -/
def lastc (ls : List Nat) (n : Nat) : Nat → Int
  | 0 => -1
  | k + 1 => if ls[k]? = some n then (code ls k n : Int) else lastc ls n k
theorem lastc_spec (ls : List Nat) (n : Nat) : ∀ k, (lastc ls n k = -1 ∧ ∀ j, j < k → ls[j]? ≠ some n) ∨ ∃ j, j < k ∧ ls[j]? = some n ∧ lastc ls n k = (code ls j n : Int) ∧ ∀ i, j < i → i < k → ls[i]? ≠ some n
  | 0 => Or.inl ⟨rfl, fun j h => by omega⟩
  | k + 1 => by
    rw [lastc]
    by_cases h : ls[k]? = some n
    · rw [if_pos h]
      exact Or.inr ⟨k, by omega, h, rfl, fun i h1 h2 => by omega⟩
    · rw [if_neg h]
      rcases lastc_spec ls n k with ⟨h1, h2⟩ | ⟨j, h1, h2, h3, h4⟩
      · refine Or.inl ⟨h1, fun j hj => ?_⟩
        by_cases e : j = k
        · subst e; exact h
        · exact h2 j (by omega)
      · refine Or.inr ⟨j, by omega, h2, h3, fun i hi1 hi2 => ?_⟩
        by_cases e : i = k
        · subst e; exact h
        · exact h4 i hi1 (by omega)
theorem lastc_next {ls : List Nat} {n i : Nat} (hi : ls[i]? = some n) : lastc ls n i = -1 ∨ lastc ls n i + 1 = (code ls i n : Int) := by
  rcases lastc_spec ls n i with ⟨h1, _⟩ | ⟨j, h1, h2, h3, h4⟩
  · exact Or.inl h1
  · right
    rw [h3, code_next h2 hi h1 h4]
    push_cast; rfl
theorem u64_small (x : Nat) (h : x < 1048576) : IntKind.u64.wrap (x : Int) = (x : Int) := by rw [IntKind.wrap_u64]; omega
set_option maxRecDepth 100000 in
set_option maxHeartbeats 8000000 in
theorem prefix_core (hu : Hu PT) (w : World) (a : Option Addr) (zs : List Int) (L C : Nat) (hl : Lens w a zs) (hL : zs.length = L) (hLC : L ≤ C) (hC : L * 8 < 140737488355328) (hz : a = none → L = 0 ∧ C = 0) :
    Calls Try.prog 5 #[.slice a L C] w fun e w' => e = .returned (.bool true) ∧ Below w.heap.size w w' := by
  have AB : Aside (Lens w a zs ∧ zs.length = L ∧ L ≤ C ∧ L * 8 < 140737488355328 ∧ (a = none → L = 0 ∧ C = 0)) := ⟨hl, hL, hLC, hC, hz⟩
  obtain ⟨H, hH⟩ : ∃ H, w.heap.size = H := ⟨_, rfl⟩
  have AW : Aside (w.heap.size = H) := hH
  rw [hH]
  clear hl hL hLC hC hz
  obtain ⟨e0, he0⟩ : ∃ e0, nerr zs = e0 := ⟨_, rfl⟩
  have AE : Aside (nerr zs = e0) := he0
  clear he0
  go_enter Try.func5, Try.ntmps5
  by_cases hz0 : e0 = 0
  · subst hz0
    go_upto_region 4 with (first
      | (at_builtin; refine wpList_appn _ rfl (.tmp 15) (.tmp 16) rfl w (by rfl) H AW.out.symm (by rfl) a zs L C AB.out.2.1 (by rfl) AB.out.2.2.2.2 AB.out.1 (by rw [AB.out.2.1]; exact Nat.le_of_lt AB.out.2.2.2.1) ?_; intro v3 w3 h3
         obtain ⟨a3, C3, hv3, hl3, hc3, hs3⟩ := h3.shape
         rw [AB.out.2.1] at hv3 hc3
         subst hv3
         have hn3 := hu.new_ok a3 zs L C3 w3 hl3 AB.out.2.1 hc3 (by have := AB.out; omega) AE.out
         have A3 : Aside (Below w.heap.size w w3) := h3.bel
         clear h3 hl3 hc3 hs3)
      | (go_at_call 10; refine hn3.mono ?_; rintro e4 w4 ⟨T, rfl, hp4, hb4⟩))
    obtain ⟨h1, h2, h3⟩ := nerr_ok AE.out
    obtain ⟨lo, hlo⟩ : ∃ lo, w3.heap.size = lo := ⟨_, rfl⟩
    have A4 : Aside (PT w4 lo w4.heap.size T (lens zs) ∧ Below w.heap.size w w4 ∧ part (lens zs) 15 ≤ 32768 ∧ (∀ l ∈ lens zs, l ≤ 15) ∧ Okl zs ∧ (lens zs).length = L) := ⟨by rw [← hlo]; exact hp4, A3.out.trans (hb4.mono A3.out.size), by rw [← kr_part (lens_15 h1)]; exact h2, lens_15 h1, h1, by rw [lens_len]; exact AB.out.2.1⟩
    have hLs : (L : Int) ≤ 320 := by have := h1.1; have := AB.out; omega
    clear hn3 hp4 hb4 h1 h2 h3 hlo hH
    go_wp2_with fail
    go_loopg [5] L (fun g si wr => ∃ i : Nat, si = .int .i64 i ∧ Aside (i + g = L ∧ Below w4.heap.size w4 wr))
    case atStart => exact ⟨0, rfl, ⟨by omega, Below.refl _ _⟩⟩
    case round =>
      obtain ⟨i, rfl, hI⟩ := hrel
      have hb0 : Below w4.heap.size w4 wr := hI.out.2
      have hbw : Below w.heap.size w wr := A4.out.2.1.trans (hb0.mono A4.out.2.1.size)
      by_cases hiL : i < L
      · have hi' : (i : Int) < (L : Int) := by omega
        have hib : (i : Int) < 320 := by omega
        obtain ⟨l, hl⟩ : ∃ l, (lens zs)[i]? = some l := ⟨_, List.getElem?_eq_getElem (by have := A4.out; omega)⟩
        have hz := lens_at A4.out.2.2.2.2.1 hl
        have l15 := A4.out.2.2.2.1 l (List.mem_of_getElem? hl)
        rcases AB.out.1 with e | ⟨b0, o0, rfl, hc⟩
        · rw [e] at hz; simp at hz
        have cz0 := hc i _ hz
        have AI : Aside (i < L ∧ (lens zs)[i]? = some l ∧ l ≤ 15 ∧ w.cell? ⟨b0, o0 + i, none⟩ = some (.int .i64 (l : Int))) := ⟨hiL, hl, l15, cz0⟩
        have cz : ∀ W, Below w.heap.size w W → W.cell? ⟨b0, o0 + i, none⟩ = some (.int .i64 (l : Int)) := fun W hW => (hW.cell (p := ⟨b0, o0 + i, none⟩) (World.block_lt_of_cell? w ⟨b0, o0 + i, none⟩ cz0)).trans cz0
        have CZ : Aside (∀ W, Below w.heap.size w W → W.cell? ⟨b0, o0 + i, none⟩ = some (.int .i64 (l : Int))) := cz
        clear hc hz hl l15 hiL cz0 cz
        by_cases hl0 : l = 0
        · subst hl0
          have hco := hu.code_no lo w4.heap.size T (lens zs) (i : Int) wr (hu.below A4.out.1 hb0 (Nat.le_refl _)) (by
            rintro ⟨j, n, e1, e2, e3⟩
            have : j = i := by omega
            subst this
            rw [AI.out.2.1] at e2; cases e2; omega)
          go_upto_region 8 with (go_at_call 14; refine hco.mono ?_; rintro e5 w5 ⟨rfl, hb5⟩)
          have b5 : Below w4.heap.size w4 w5 := hb0.trans (hb5.mono hb0.size)
          have c5 := CZ.out w5 (hbw.trans (hb5.mono hbw.size))
          have A5 : Aside (Below w4.heap.size w4 w5) := b5
          clear hco hb5 b5 hbw hb0
          go_wp2_with fail
          go_loopg [9, 10] 0 (fun g sl sk wr => sl = .int .i64 (-1) ∧ sk = .int .i64 0 ∧ w5 = wr)
          case atStart => exact ⟨rfl, rfl, rfl⟩
          case round =>
            obtain ⟨rfl, rfl, hw⟩ := hrel
            subst hw
            by_cases hi0 : 0 < i
            · have k0 : (0 : Int) < (i : Int) := by omega
              clear hi0
              go_wp2_with fail
              have h1 := hI.out.1; have h2 := AI.out
              go_roundg (L - (i + 1))
              case measure => omega
              case rel => exact ⟨i + 1, by go_num, ⟨by omega, A5.out⟩⟩
            · have k0 : ¬ (0 : Int) < (i : Int) := by omega
              clear hi0
              go_wp2_with fail
              have h1 := hI.out.1; have h2 := AI.out
              go_roundg (L - (i + 1))
              case measure => omega
              case rel => exact ⟨i + 1, by go_num, ⟨by omega, A5.out⟩⟩
        · obtain ⟨c, hcd⟩ : ∃ c, code (lens zs) i l = c := ⟨_, rfl⟩
          have hcb : c < 2 ^ l := by rw [← hcd]; exact code_fits A4.out.2.2.1 AI.out.2.1 (by omega) AI.out.2.2.1
          have hco := hu.code_yes lo w4.heap.size T (lens zs) i l c wr (hu.below A4.out.1 hb0 (Nat.le_refl _)) AI.out.2.1 (by omega) hcd
          have hlp : (0 : Int) < (l : Int) := by omega
          have AC : Aside (code (lens zs) i l = c ∧ c < 2 ^ l ∧ 0 < l) := ⟨hcd, hcb, by omega⟩
          have nl : ((l : Int) != (l : Int)) = false := by simp
          clear hcd hcb hl0
          go_upto_region 8 with (go_at_call 14; refine hco.mono ?_; rintro e5 w5 ⟨rfl, hb5⟩)
          have b5 : Below w4.heap.size w4 w5 := hb0.trans (hb5.mono hb0.size)
          have c5 := CZ.out w5 (hbw.trans (hb5.mono hbw.size))
          have A5 : Aside (Below w4.heap.size w4 w5) := b5
          clear hco hb5 b5 hbw hb0
          go_cut [67] (fun s67 wc => s67 = .bool false ∧ w5 = wc)
          case first =>
            go_wp2_with fail
            go_meet
            refine ⟨?_, rfl⟩
            rw [u64_small c (by have h3 : (2 : Nat) ^ l ≤ 2 ^ 15 := Nat.pow_le_pow_right (by decide) AI.out.2.2.1; have := AC.out; omega), u64_small l (by have := AI.out; omega)]
            rw [show min ((l : Int)).toNat 64 = l by have := AI.out; omega, show (2 : Int) ^ l = ((2 ^ l : Nat) : Int) by push_cast; rfl, u64_small (2 ^ l) (by have h3 : (2 : Nat) ^ l ≤ 2 ^ 15 := Nat.pow_le_pow_right (by decide) AI.out.2.2.1; omega)]
            rw [decide_eq_false (by have := AC.out; omega)]
          case rest =>
            obtain ⟨rfl, rfl⟩ := hcut
            have hcb1 : (c : Int) ≤ 32768 := by
              have h3 : (2 : Nat) ^ l ≤ 2 ^ 15 := Nat.pow_le_pow_right (by decide) AI.out.2.2.1
              have := AC.out; omega
            have hl15 : (l : Int) ≤ 15 := by have := AI.out; omega
            clear c5 nl
            go_wp2_with fail
            go_loopg [9, 10] i (fun g sl sk wr => ∃ k : Nat, sl = .int .i64 (lastc (lens zs) l k) ∧ sk = .int .i64 k ∧ Aside (k + g = i ∧ Below w4.heap.size w4 wr))
            case atStart => exact ⟨0, rfl, rfl, ⟨by omega, A5.out⟩⟩
            case round =>
              obtain ⟨k, hsl, rfl, hK⟩ := hrel
              obtain ⟨la, hla⟩ : ∃ la : Int, lastc (lens zs) l k = la := ⟨_, rfl⟩
              rw [hla] at hsl
              subst hsl
              by_cases hki : k < i
              · have hk' : (k : Int) < (i : Int) := by omega
                have hkb : (k : Int) < 320 := by omega
                obtain ⟨m, hm⟩ : ∃ m, (lens zs)[k]? = some m := ⟨_, List.getElem?_eq_getElem (by have := A4.out; have := AI.out; omega)⟩
                have hb0 : Below w4.heap.size w4 wr := hK.out.2
                have m15 := A4.out.2.2.2.1 m (List.mem_of_getElem? hm)
                have AKk : Aside (k < i ∧ (lens zs)[k]? = some m ∧ m ≤ 15 ∧ lastc (lens zs) l k = la) := ⟨hki, hm, m15, hla⟩
                clear hki hm m15 hla
                by_cases hm0 : m = 0
                · subst hm0
                  have hco := hu.code_no lo w4.heap.size T (lens zs) (k : Int) wr (hu.below A4.out.1 hb0 (Nat.le_refl _)) (by
                    rintro ⟨j, n, e1, e2, e3⟩
                    have : j = k := by omega
                    subst this
                    rw [AKk.out.2.1] at e2; cases e2; omega)
                  have A8 : Aside (lastc (lens zs) l (k + 1) = la) := by
                    show _ = _
                    rw [lastc, if_neg (by rw [AKk.out.2.1]; intro h; cases h; have := AC.out; omega)]
                    exact AKk.out.2.2.2
                  go_wp2_with (go_at_call 14; refine hco.mono ?_; rintro e6 w6 ⟨rfl, hb6⟩)
                  have h1 := hK.out.1; have h2 := AKk.out
                  go_roundg (i - (k + 1))
                  case measure => omega
                  case rel => exact ⟨k + 1, by rw [A8.out], by go_num, ⟨by omega, hb0.trans (hb6.mono hb0.size)⟩⟩
                · obtain ⟨d, hdd⟩ : ∃ d, code (lens zs) k m = d := ⟨_, rfl⟩
                  have hdb : d < 2 ^ m := by rw [← hdd]; exact code_fits A4.out.2.2.1 AKk.out.2.1 (by omega) AKk.out.2.2.1
                  have hco := hu.code_yes lo w4.heap.size T (lens zs) k m d wr (hu.below A4.out.1 hb0 (Nat.le_refl _)) AKk.out.2.1 (by omega) hdd
                  have ADd : Aside (code (lens zs) k m = d ∧ d < 32768 ∧ 0 < m) := ⟨hdd, by
                    have h3 : (2 : Nat) ^ m ≤ 2 ^ 15 := Nat.pow_le_pow_right (by decide) AKk.out.2.2.1
                    omega, by omega⟩
                  have hdb1 : (d : Int) ≤ 32768 := by have := ADd.out; omega
                  have hm15 : (m : Int) ≤ 15 := by have := AKk.out; omega
                  clear hdd hdb hm0
                  go_upto_region 16 with (go_at_call 14; refine hco.mono ?_; rintro e6 w6 ⟨rfl, hb6⟩)
                  have A6 : Aside (Below w4.heap.size w4 w6) := hb0.trans (hb6.mono hb0.size)
                  clear hco hb6 hb0
                  obtain ⟨lb, hlb⟩ : ∃ lb : Int, lastc (lens zs) l (k + 1) = lb := ⟨_, rfl⟩
                  have ALb : Aside (lastc (lens zs) l (k + 1) = lb) := hlb
                  have hlb2 : lb = if m = l then (d : Int) else la := by
                    rw [← hlb, lastc, AKk.out.2.1]
                    by_cases e : m = l
                    · subst e; rw [if_pos rfl, if_pos rfl, ADd.out.1]
                    · rw [if_neg (fun h => e (Option.some.inj h)), if_neg e]; exact AKk.out.2.2.2
                  clear hlb
                  go_upto_if 87 with fail
                  go_cut [9] (fun s9 wc => s9 = .int .i64 lb ∧ w6 = wc)
                  case first =>
                    by_cases hml : m = l
                    · rw [if_pos hml] at hlb2
                      subst hlb2
                      subst hml
                      go_wp2_with fail
                      go_meet
                      exact ⟨rfl, rfl⟩
                    · rw [if_neg hml] at hlb2
                      subst hlb2
                      have t1 : ¬ (m : Int) = (l : Int) := by omega
                      have t2 : ((m : Int) == (l : Int)) = false := by rw [beq_eq_false_iff_ne]; exact t1
                      clear hml
                      go_wp2_with fail
                      go_meet
                      exact ⟨rfl, rfl⟩
                  case rest =>
                    obtain ⟨rfl, rfl⟩ := hcut
                    clear hlb2
                    go_upto_region 18 with fail
                    go_cut [117] (fun s117 wc => s117 = .bool false ∧ w6 = wc)
                    case first =>
                      by_cases hle : m ≤ l
                      · have t1 : (m : Int) ≤ (l : Int) := by omega
                        have t2 : ¬ (l : Int) < (m : Int) := by omega
                        have t4 : ¬ (c : Int) / 2 ^ (l - m) = (d : Int) := by
                          rw [div_nat]
                          intro h
                          have h5 := code_apart AKk.out.2.1 AI.out.2.1 ADd.out.2.2 hle (by rw [AC.out.1, ADd.out.1]; exact Int.ofNat.inj h)
                          have := AKk.out; omega
                        have t3 : ((c : Int) / 2 ^ (l - m) == (d : Int)) = false := by rw [beq_eq_false_iff_ne]; exact t4
                        clear hle
                        go_wp2_with fail
                        go_meet
                        exact ⟨rfl, rfl⟩
                      · have t1 : ¬ (m : Int) ≤ (l : Int) := by omega
                        have t2 : (l : Int) < (m : Int) := by omega
                        have t4 : ¬ (d : Int) / 2 ^ (m - l) = (c : Int) := by
                          rw [div_nat]
                          intro h
                          have h5 := code_apart AI.out.2.1 AKk.out.2.1 AC.out.2.2 (by omega) (by rw [AC.out.1, ADd.out.1]; exact Int.ofNat.inj h)
                          have := AKk.out; omega
                        have t3 : ((d : Int) / 2 ^ (m - l) == (c : Int)) = false := by rw [beq_eq_false_iff_ne]; exact t4
                        clear hle
                        go_wp2_with fail
                        go_meet
                        exact ⟨rfl, rfl⟩
                    case rest =>
                      obtain ⟨rfl, rfl⟩ := hcut
                      go_wp2_with fail
                      have h1 := hK.out.1; have h2 := AKk.out
                      go_roundg (i - (k + 1))
                      case measure => omega
                      case rel => exact ⟨k + 1, by rw [ALb.out], by go_num, ⟨by omega, A6.out⟩⟩
              · have hk' : ¬ (k : Int) < (i : Int) := by omega
                have hki2 : k = i := by have := hK.out; omega
                subst hki2
                have A9 : Aside (Below w4.heap.size w4 wr) := hK.out.2
                have hln := lastc_next AI.out.2.1
                rw [hla, AC.out.1] at hln
                clear hki hla
                rcases hln with e | e
                · subst e
                  go_wp2_with fail
                  have h1 := hI.out.1; have h2 := AI.out
                  go_roundg (L - (k + 1))
                  case measure => omega
                  case rel => exact ⟨k + 1, by go_num, ⟨by omega, A9.out⟩⟩
                · have e1 : la + 1 = (c : Int) := e
                  have e2 : (0 : Int) ≤ la ∨ la = -1 := by omega
                  have e3 : la = (c : Int) - 1 := by omega
                  subst e3
                  have n1 : ((c : Int) != (c : Int)) = false := by simp
                  have n2 : (c : Int) - 1 + 1 = (c : Int) := by omega
                  by_cases hc0 : c = 0
                  · subst hc0
                    go_wp2_with fail
                    have h1 := hI.out.1; have h2 := AI.out
                    go_roundg (L - (k + 1))
                    case measure => omega
                    case rel => exact ⟨k + 1, by go_num, ⟨by omega, A9.out⟩⟩
                  · have n3 : (0 : Int) ≤ (c : Int) - 1 := by omega
                    clear hc0 e1 e2 e
                    go_wp2_with fail
                    have h1 := hI.out.1; have h2 := AI.out
                    go_roundg (L - (k + 1))
                    case measure => omega
                    case rel => exact ⟨k + 1, by go_num, ⟨by omega, A9.out⟩⟩
      · have hi' : ¬ (i : Int) < (L : Int) := by omega
        have haw := awake_c hu wr
        have A6 : Aside (Below w.heap.size w wr) := hbw
        clear hiL hb0 hbw
        go_wp2_with (go_at_call 13; refine haw.mono ?_; rintro e5 w5 ⟨rfl, hb5⟩)
        go_ret
        have h6 := A6.out.trans (hb5.mono A6.out.size)
        rw [AW.out] at h6
        exact ⟨rfl, h6⟩
  · go_upto_region 2 with (first
      | (at_builtin; refine wpList_appn _ rfl (.tmp 15) (.tmp 16) rfl w (by rfl) H AW.out.symm (by rfl) a zs L C AB.out.2.1 (by rfl) AB.out.2.2.2.2 AB.out.1 (by rw [AB.out.2.1]; exact Nat.le_of_lt AB.out.2.2.2.1) ?_; intro v3 w3 h3
         obtain ⟨a3, C3, hv3, hl3, hc3, hs3⟩ := h3.shape
         rw [AB.out.2.1] at hv3 hc3
         subst hv3
         have hn3 := hu.new_err a3 zs L C3 e0 w3 hl3 AB.out.2.1 hc3 (by have := AB.out; omega) AE.out hz0
         have A3 : Aside (Below w.heap.size w w3) := h3.bel
         clear h3 hl3 hc3 hs3)
      | (go_at_call 10; refine hn3.mono ?_; rintro e4 w4 ⟨rfl, hb4⟩))
    have A4 : Aside (Below w.heap.size w w4) := A3.out.trans (hb4.mono A3.out.size)
    have haw := awake_c hu w4
    have z1 : ¬ (e0 : Int) = 0 := by omega
    have z2 : ((e0 : Int) != 0) = true := by rw [bne_iff_ne]; exact z1
    clear hn3 hb4 hH
    go_wp2_with (go_at_call 13; refine haw.mono ?_; rintro e5 w5 ⟨rfl, hb5⟩)
    go_ret
    have h6 := A4.out.trans (hb5.mono A4.out.size)
    rw [AW.out] at h6
    exact ⟨rfl, h6⟩
end Go.Proofs.Ytlmajiejapaegaa

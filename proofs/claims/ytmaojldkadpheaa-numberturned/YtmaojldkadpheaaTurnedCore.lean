/-
  NumberTurned, behind the opening of its arguments: the call answers true, and what lay in memory is as it was.
  Conditions: the list has at most 2^47 - 4096 bytes.
-/
import Derived.Test.YtmaojldkadpheaaTurn
import Derived.Deep.Cut
namespace Go.Proofs.Ytmaojldkadpheaa
open Go.RowKit
set_option linter.unusedVariables false
theorem Cp.take {w u : World} {G L : Nat} {cs : List Nat} (h : Cp w u G L cs) (k : Nat) (hk : k ≤ L) : Cp w u G k (cs.take k) := by
  obtain ⟨cur, hc, hl, hr⟩ := h.row
  refine ⟨h.bel, h.ge, ⟨cur, hc, by omega, fun i x hx => hr i x ?_⟩, by rw [List.length_take, h.len]; omega, h.oct.take k⟩
  rw [List.getElem?_take] at hx
  split at hx
  · exact hx
  · cases hx
theorem shape512 {w u : World} {v : Value} {l : List Nat} (h : Apd w u w.heap.size v (l ++ List.replicate 512 0)) (ol : Oct l) :
    ∃ G c cs, v = .slice (some ⟨G, 0, none⟩) (l.length + 512) c ∧ l.length + 512 ≤ c ∧ c ≤ maxLen ∧ Cp w u G 512 cs := by
  have hlen : (l ++ List.replicate 512 0).length = l.length + 512 := by rw [List.length_append, List.length_replicate]
  have ho : Oct (l ++ List.replicate 512 0) := by
    intro x hx
    rcases List.mem_append.1 hx with hx | hx
    · exact ol x hx
    · rw [(List.mem_replicate.1 hx).2]; decide
  obtain ⟨G, c, hv, h1, h2, cp⟩ := Cp.of_apd h (by rw [hlen]; omega) ho
  rw [hlen] at hv h1 cp
  exact ⟨G, c, _, hv, h1, h2, cp.take 512 (by omega)⟩
set_option maxRecDepth 100000 in
set_option maxHeartbeats 2000000 in
theorem turned_core (w : World) (a : Option Addr) (l : List Nat) (L cap n z : Nat) (hL : l.length = L) (hn : n < 65536) (hz : z < 256) (hlc : L ≤ cap) (hcap : cap ≤ 140737488351232) (ol : Oct l) (hl : Lies w a l) (za : a = none → L = 0 ∧ cap = 0) :
    Calls Try.prog 8 #[.slice a L cap, .int .u16 n, .int .u8 z] w fun e w' => e = .returned (.bool true) ∧ Below w.heap.size w w' := by
  obtain ⟨K, hK⟩ : ∃ K, n % 512 = K := ⟨_, rfl⟩
  have hK5 : K < 512 := by omega
  have hKi : (n : Int) % 512 = (K : Int) := by omega
  have hm1 := Apd.made w w.heap.size (Nat.le_refl _)
  have AL : Aside (l.length = L ∧ L + 512 ≤ 140737488355328 ∧ (a = none → L = 0 ∧ cap = 0)) := ⟨hL, by omega, za⟩
  clear hL hcap hlc za hK
  go_enter Try.func8, Try.ntmps8
  go_upto_region 2 with (first
    | (refine wpList_app w _ rfl (.tmp 15) (.tmp 16) rfl w.heap.size _ [] rfl hm1 a l L cap AL.out.1 rfl AL.out.2.2 (hl.below ((Below.refl w.heap.size w).alloc (Nat.le_refl _) _)) (by have := AL.out; simp only [List.length_nil]; omega) ?_; intro v1 w1 hp1 hb1; rw [List.nil_append] at hp1)
    | (refine wpList_zeros w _ rfl (.tmp 17) rfl w.heap.size _ l rfl hp1 (by have := AL.out; omega) ?_; intro v2 w2 hp2; obtain ⟨G, c2, cs, rfl, hc2, hc2m, cp⟩ := shape512 hp2 ol))
  have hKl : K < cs.length := by rw [cp.len]; exact hK5
  have hx := List.getElem?_eq_getElem hKl
  obtain ⟨x, hxx⟩ : ∃ x, cs[K] = x := ⟨_, rfl⟩
  have hx8 : x < 256 := by rw [← hxx]; exact cp.oct _ (List.getElem_mem hKl)
  rw [hxx] at hx
  obtain ⟨g1, g2⟩ := cp.cell hx
  obtain ⟨y, hy⟩ : ∃ y, (x + z) % 256 = y := ⟨_, rfl⟩
  have hy8 : y < 256 := by omega
  have hyi : ((x : Int) + (z : Int)) % 256 = (y : Int) := by omega
  have cp3 := cp.set K y hK5 hy8
  have c1 := sums_c (some ⟨G, 0, none⟩) cs c2 w2 cp.len cp.oct cp.lies
  have c3 := sums_c (some ⟨G, 0, none⟩) (cs.set K y) c2 _ cp3.len cp3.oct cp3.lies
  have bp := pl_bd cp.oct 512
  have bs := sn_bd cp.oct 512
  have bp' := pl_bd cp3.oct 512
  have bs' := sn_bd cp3.oct 512
  have hbel := cp3.bel
  have hKi2 : (K : Int) < 512 := by omega
  clear hp1 hb1 hp2 hc2 hc2m cp cp3 hm1 hl ol hKl hxx
  by_cases hin : 148 ≤ K ∧ K < 156
  · have hio := sums_in (c := cs) (y := y) hin 512
    rw [hio.1, hio.2] at c3
    obtain ⟨h1, h2⟩ := hin
    have h1i : (148 : Int) ≤ (K : Int) := by omega
    have h2i : (K : Int) ≤ 155 := by omega
    clear hio bp' bs' h1 h2 hx
    generalize pl cs 512 = p at *
    generalize sn cs 512 = q at *
    have e1 : (p == p) = true := by simp
    have e2 : (q == q) = true := by simp
    go_wp2_with fail
    refine c1.mono ?_
    rintro e u ⟨rfl, rfl⟩
    go_wp2_with fail
    refine c3.mono ?_
    rintro e u ⟨rfl, rfl⟩
    go_wp2_with fail
    go_ret
    exact ⟨rfl, hbel⟩
  · have hso := sums_out (y := y) (show K < 148 ∨ 156 ≤ K by omega) hx 512
    rw [if_pos hK5, if_pos hK5] at hso
    have hmod := turned_mod hso.1 hso.2
    have hc : ¬ (148 : Int) ≤ (K : Int) ∨ (148 : Int) ≤ (K : Int) ∧ ¬ (K : Int) ≤ 155 := by omega
    have hq1 : (pl cs 512 == pl (cs.set K y) 512) = decide (z = 0) := by
      rw [show (pl cs 512 == pl (cs.set K y) 512) = decide (pl cs 512 = pl (cs.set K y) 512) from rfl]
      exact decide_eq_decide.2 ⟨fun h => by have := hso.1; omega, fun h => by have := hso.1; omega⟩
    have hq2 : ((z : Int) == 0) = decide (z = 0) := beq_int z 0
    clear hso hin hx
    generalize pl cs 512 = p at *
    generalize sn cs 512 = q at *
    generalize pl (cs.set K y) 512 = p' at *
    generalize sn (cs.set K y) 512 = q' at *
    generalize decide (z = 0) = t at *
    have e1 : (t == t) = true := by simp
    rcases hc with h1i | ⟨h1i, h2i⟩
    all_goals
      go_wp2_with fail
      refine c1.mono ?_
      rintro e u ⟨rfl, rfl⟩
      go_wp2_with fail
      refine c3.mono ?_
      rintro e u ⟨rfl, rfl⟩
      go_wp2_with fail
      go_ret
      exact ⟨rfl, hbel⟩
end Go.Proofs.Ytmaojldkadpheaa

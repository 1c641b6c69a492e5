/-
  PatternsBuilds, behind the opening of its arguments: the call answers true, and what lay in memory is as it was.
  Conditions: the library's table holds what its text lays there; the patterns and the asked pairs lie in memory.
-/
import Derived.Test.YtbepbjbbhenphaaDoorSay
import Derived.Test.YtbepbjbbhenphaaDoorCopyB
import Derived.Test.YtbepbjbbhenphaaDoorAsks
import Derived.Test.YtbepbjbbhenphaaDoorAwake
namespace Go.Proofs.YtbepbjbbhenphaaDoor
open Go.RowKit
set_option linter.unusedVariables false
/-- A row of bytes that may be written. -/
def Wb (w : World) (b n : Nat) : Prop := ∃ cur, Cells w b cur 5 ∧ ∀ k, k < n → ∃ z : Int, cur[k]? = some (.int .u8 z)
/-- A list of numbers that may be written, in a block from lo on. -/
def Wi (w : World) (oa : Option Addr) (lo n : Nat) : Prop := n = 0 ∨ ∃ ob cur, oa = some ⟨ob, 0, none⟩ ∧ lo ≤ ob ∧ Cells w ob cur 3 ∧ ∀ k, k < n → ∃ z : Int, cur[k]? = some (.int .i64 z)
theorem Bk.wb {w : World} {b : Nat} {l : List Nat} (h : Bk w b l) : Wb w b l.length := ⟨_, h, fun k hk => ⟨_, by simp [vn_get, List.getElem?_eq_getElem hk]; rfl⟩⟩
theorem Wb.below {w u : World} {b n B : Nat} (h : Wb w b n) (k : Below B w u) (hb : b < B) : Wb u b n := by
  obtain ⟨cur, h1, h2⟩ := h
  exact ⟨cur, h1.below k hb, h2⟩
theorem Wb.set {w : World} {b n : Nat} (h : Wb w b n) (k : Nat) (z : Int) : Wb (w.setCell ⟨b, k, none⟩ (.int .u8 z)) b n := by
  obtain ⟨cur, h1, h2⟩ := h
  refine ⟨_, h1.set k _, fun j hj => ?_⟩
  obtain ⟨y, hy⟩ := h2 j hj
  rw [Array.getElem?_setIfInBounds]
  by_cases e : k = j
  · subst e
    have := (Array.getElem?_eq_some_iff.1 hy).1
    rw [if_pos rfl, if_pos this]
    exact ⟨z, rfl⟩
  · rw [if_neg e]; exact ⟨y, hy⟩
theorem Own.wi {w w' : World} {base : Nat} {a : Option Addr} {n c : Nat} {l : List Nat} (h : Own w w' base (.slice a n c) l) (hn : l.length = n) : Wi w' a base n := by
  obtain ⟨a', c', e, hnum, _, _, hsh⟩ := h.shape
  cases e
  rcases hnum with e | ⟨ob, o, e, hc⟩
  · left; rw [e]; rfl
  · right
    obtain ⟨ho, _, hob, cur, hcur, _⟩ := hsh ob o Option.none e
    subst ho
    refine ⟨ob, cur, e, hob, hcur, fun k hk => ?_⟩
    have hkl : k < l.length := by omega
    have h1 := hc k l[k] (List.getElem?_eq_getElem hkl)
    rw [Nat.zero_add, Cells.cell (w := w') (b := ob) (cs := cur) (t := 3) hcur] at h1
    exact ⟨_, h1⟩
theorem Wi.below {w u : World} {oa : Option Addr} {lo n : Nat} (h : Wi w oa lo n) (k : Below w.heap.size w u) : Wi u oa lo n := by
  rcases h with h | ⟨ob, cur, e1, e2, e3, e4⟩
  · exact Or.inl h
  · exact Or.inr ⟨ob, cur, e1, e2, e3.below k e3.lt, e4⟩
theorem Wi.far {w : World} {oa : Option Addr} {lo n b : Nat} (h : Wi w oa lo n) (hb : b < lo) (k : Nat) (v : Value) : Wi (w.setCell ⟨b, k, none⟩ v) oa lo n := by
  rcases h with h | ⟨ob, cur, e1, e2, e3, e4⟩
  · exact Or.inl h
  · refine Or.inr ⟨ob, cur, e1, e2, ?_, e4⟩
    unfold Cells at *
    rw [Below.heap_setCell _ _ _ _ (show ob ≠ b by omega)]; exact e3
theorem wi_set {w : World} {lo n ob : Nat} {cur : Array Value} (h2 : lo ≤ ob) (h1 : Cells w ob cur 3) (h3 : ∀ k, k < n → ∃ z : Int, cur[k]? = some (.int .i64 z)) (k : Nat) (z : Int) : Wi (w.setCell ⟨ob, k, none⟩ (.int .i64 z)) (some ⟨ob, 0, none⟩) lo n := by
  refine Or.inr ⟨ob, _, rfl, h2, h1.set k _, fun j hj => ?_⟩
  obtain ⟨y, hy⟩ := h3 j hj
  rw [Array.getElem?_setIfInBounds]
  by_cases e : k = j
  · subst e
    have := (Array.getElem?_eq_some_iff.1 hy).1
    rw [if_pos rfl, if_pos this]
    exact ⟨z, rfl⟩
  · rw [if_neg e]; exact ⟨y, hy⟩
set_option maxRecDepth 100000 in
set_option maxHeartbeats 16000000 in
theorem builds_core (w : World) (hT : Tab w) (a : Option Addr) (ps : List (List Nat)) (L C : Nat) (hp : Rows2 w a ps) (hL : ps.length = L) (hLC : L ≤ C) (hC : C * 24 < 140737488355328) (ho : Octs ps) (hz : a = none → C = 0)
    (ca : Option Addr) (cl CC : Nat) (hasks : Pairs w ca cl) (hcl : cl ≤ maxLen) :
    Calls Tryd.prog 4 #[.slice a L C, .slice ca cl CC] w fun e w' => e = .returned (.bool true) ∧ Below w.heap.size w w' := by
  obtain ⟨H, hH⟩ : ∃ H, w.heap.size = H := ⟨_, rfl⟩
  have AB : Aside (Tab w ∧ Rows2 w a ps ∧ ps.length = L ∧ L ≤ C ∧ C * 24 < 140737488355328 ∧ Octs ps ∧ (a = none → C = 0) ∧ w.heap.size = H) := ⟨hT, hp, hL, hLC, hC, ho, hz, hH⟩
  have AC : Aside (Pairs w ca cl ∧ cl ≤ 9223372036854775807) := ⟨hasks, by unfold maxLen at hcl; omega⟩
  clear hasks hcl hT
  by_cases hck : chk ps = 0
  · have hq := rbuild_ok a ps L C w hp hL hLC (by omega) ho hck
    have AG : Aside (Good ps ∧ chk ps = 0) := ⟨chk_good hck, hck⟩
    clear hp hL hLC hC ho hz hck
    rw [hH] at hq ⊢
    clear hH
    go_enter Tryd.func4, Tryd.ntmps4
    go_upto_region 2 with (go_at_call 14; refine hq.mono ?_; rintro e1 w1 ⟨Q, kids, rfl, hm1, hb1⟩)
    have hbw1 : Below w.heap.size w w1 := by rw [AB.out.2.2.2.2.2.2.2]; exact hb1
    have cop := copy2_c a ps L C w1 (AB.out.2.1.below hbw1) AB.out.2.2.1 AB.out.2.2.2.1 (by have := AB.out; omega)
    have A1 : Aside (Rm w1 Q (words ps).length a L C (words ps) kids ∧ Below w.heap.size w w1) := ⟨hm1, hbw1⟩
    clear hq hm1 hb1 hbw1
    go_upto_region 3 with (go_at_call 11; refine cop.mono ?_; rintro e2 w2 ⟨v2, rfl, hc2⟩)
    obtain ⟨g2, C2, hv2, hL2, hcp2, hg2⟩ := hc2.copies AG.out.1.pos AG.out.1.no_nil
    obtain ⟨a2', C2', hv2', _, hr2, hz2⟩ := hc2.cop.rows
    rw [hv2] at hv2'
    cases hv2'
    rw [AB.out.2.2.1] at hv2 hL2
    subst hv2
    have hbuild := build_ok (some ⟨g2, 0, none⟩) ps L C2 w2 hr2 AB.out.2.2.1 hL2 (by have := AB.out; omega) AB.out.2.2.2.2.2.1 hz2 AG.out.2
    have A2 : Aside (Below w1.heap.size w1 w2 ∧ Copies w2 w1.heap.size w2.heap.size g2 ps ∧ g2 < w2.heap.size) := ⟨hc2.bel, hcp2, hg2⟩
    clear cop hc2 hr2 hz2 hL2 hcp2 hg2
    go_upto_region 9 with (go_at_call 10; refine hbuild.mono ?_; rintro e3 w3 ⟨A, rfl, nd, G, hm3, hf3, hb3⟩)
    obtain ⟨N, hN⟩ : ∃ N, (words ps).length = N := ⟨_, rfl⟩
    obtain ⟨lo, hlo⟩ : ∃ lo, w1.heap.size = lo := ⟨_, rfl⟩
    obtain ⟨hi, hhi⟩ : ∃ hi, w2.heap.size = hi := ⟨_, rfl⟩
    have A3 : Aside (Mach w3 hi A L (longest ps) nd G ∧ Full ps nd G ∧ Rm w1 Q N a L C (words ps) kids ∧ Below lo w1 w3 ∧ Below w.heap.size w w1 ∧ (words ps).length = N ∧ N ≤ 2049 ∧ w1.heap.size = lo ∧ w.heap.size ≤ lo) := by
      refine ⟨by rw [← hhi]; exact hm3, hf3, by rw [← hN]; exact A1.out.1, by rw [← hlo]; exact A2.out.1.trans (hb3.mono A2.out.1.size), A1.out.2, hN, ?_, hlo, by rw [← hlo]; exact A1.out.2.size⟩
      rw [← hN]; have := words_few AG.out.1 ps.length; rwa [List.take_length] at this
    have A4 : Aside (Copies w3 lo hi g2 ps ∧ g2 < hi) := by
      rw [← hlo, ← hhi]
      exact ⟨A2.out.2.1.below hb3 A2.out.2.2 (Nat.le_refl _), A2.out.2.2⟩
    clear hbuild hm3 hf3 hb3 A1 A2 hN hlo hhi
    have hLb : (L : Int) ≤ 64 := by have := AG.out.1.few; have := AB.out; omega
    go_wp2_with fail
    go_loopg [10, 11] L (fun g sm si wr => ∃ (m i : Nat), sm = .int .i64 m ∧ si = .int .i64 i ∧ Aside (i + g = L ∧ m = longest (ps.take i) ∧ Mid lo hi w3 wr ∧ Copies wr lo hi g2 ps))
    case atStart => exact ⟨0, 0, rfl, rfl, ⟨by omega, rfl, Mid.refl _ _ _, A4.out.1⟩⟩
    case round =>
      obtain ⟨m, i, rfl, rfl, hI⟩ := hrel
      by_cases hiL : i < L
      · have hi' : (i : Int) < (L : Int) := by omega
        obtain ⟨p, hp⟩ : ∃ p, ps[i]? = some p := ⟨_, List.getElem?_eq_getElem (by have := AB.out; omega)⟩
        obtain ⟨n, hn⟩ : ∃ n, p.length = n := ⟨_, rfl⟩
        obtain ⟨b, ci, cur, c1, c2, c3, c4, c5, c6⟩ := hI.out.2.2.2 i p hp
        rw [hn] at c1
        have hpg := AG.out.1.len p (List.mem_of_getElem? hp)
        obtain ⟨q, hq⟩ : ∃ q, max m n = q := ⟨_, rfl⟩
        have AP : Aside (ps[i]? = some p ∧ p.length = n ∧ n ≤ 32 ∧ i < L ∧ q = longest (ps.take (i + 1))) := ⟨hp, hn, by omega, hiL, by rw [take_snoc hp, longest_snoc, ← hI.out.2.1, hn]; exact hq.symm⟩
        clear hp hn c2 c3 c4 c5 c6 hpg hiL
        go_upto_region 13 with fail
        rw [show (if m < n then (n : Int) else (m : Int)) = (q : Int) by split <;> omega]
        clear hq c1
        go_wp2_with fail
        go_loopg [12] n (fun g sk wr => ∃ k : Nat, sk = .int .i64 k ∧ Aside (k + g = n ∧ Mid lo hi w3 wr ∧ Copies wr lo hi g2 ps))
        case atStart => exact ⟨0, rfl, ⟨by omega, hI.out.2.2⟩⟩
        case round =>
          obtain ⟨k, rfl, hK⟩ := hrel
          obtain ⟨b, ci, cur, c1, c2, c3, c4, c5, c6⟩ := hK.out.2.2 i p AP.out.1
          rw [AP.out.2.1] at c1 c6
          by_cases hkn : k < n
          · have hk : (k : Int) < (n : Int) := by omega
            obtain ⟨z, hz⟩ := c6 k hkn
            have cz : wr.cell? ⟨b, k, none⟩ = some (.int .u8 z) := (c5.cell k).trans hz
            have fz : wr.frozen? ⟨b, k, none⟩ = false := c5.frozen k
            have hkb : (k : Int) < 32 := by have := AP.out; omega
            have AK : Aside (k < n ∧ lo ≤ b ∧ b < hi ∧ b ≠ g2) := ⟨hkn, c2, c3, c4⟩
            clear c2 c3 c4 c5 c6 hz hkn
            have AW : Aside (∀ z' : Int, Mid lo hi w3 (wr.setCell ⟨b, k, none⟩ (.int .u8 z')) ∧ Copies (wr.setCell ⟨b, k, none⟩ (.int .u8 z')) lo hi g2 ps) := fun z' => ⟨hK.out.2.1.set AK.out.2.1 AK.out.2.2.1 k _, hK.out.2.2.set AK.out.2.2.2 k z'⟩
            go_upto_region 15 with fail
            clear cz fz c1 hk
            go_wp2_with fail
            have h1 := hK.out.1; have h2 := AK.out
            go_roundg (n - (k + 1))
            case measure => omega
            case rel => exact ⟨k + 1, by go_num, ⟨by omega, AW.out _⟩⟩
          · have hk : ¬ (k : Int) < (n : Int) := by omega
            have A5 : Aside (Mid lo hi w3 wr ∧ Copies wr lo hi g2 ps) := hK.out.2
            clear c2 c3 c4 c5 c6 hkn hK
            have hib : (i : Int) < 64 := by omega
            go_wp2_with fail
            have h1 := hI.out.1; have h2 := AP.out
            go_roundg (L - (i + 1))
            case measure => omega
            case rel => exact ⟨q, i + 1, rfl, by go_num, ⟨by omega, h2.2.2.2.2, A5.out⟩⟩
      · have hi' : ¬ (i : Int) < (L : Int) := by omega
        have hm : m = longest ps := by rw [hI.out.2.1, List.take_of_length_le (by have := AB.out; omega)]
        subst hm
        obtain ⟨X, hX⟩ : ∃ X, longest ps = X := ⟨_, rfl⟩
        rw [hX] at A3
        rw [hX]
        obtain ⟨w4, hw4⟩ : ∃ w4, w4 = wr := ⟨_, rfl⟩
        subst hw4
        have hmid := hI.out.2.2.1
        have b14 : Below w1.heap.size w1 w4 := by rw [A3.out.2.2.2.2.2.2.2.1]; exact A3.out.2.2.2.1.trans hmid.below
        have bw4 : Below w.heap.size w w4 := A3.out.2.2.2.2.1.trans (b14.mono A3.out.2.2.2.2.1.size)
        have A6 : Aside (Mach w4 hi A L X nd G ∧ Full ps nd G ∧ Rm w4 Q N a L C (words ps) kids ∧ Tab w4 ∧ Rows2 w4 a ps ∧ Below w.heap.size w w4 ∧ N ≤ 2049 ∧ nd.length = N) := ⟨hmid.mach A3.out.1, A3.out.2.1, A3.out.2.2.1.below b14, AB.out.1.below bw4, AB.out.2.1.below bw4, bw4, A3.out.2.2.2.2.2.2.1, by rw [A3.out.2.1.laid.len]; exact A3.out.2.2.2.2.2.1⟩
        clear hiL hI hmid b14 bw4 A3 A4 hX
        have hst := fun (W : World) (hW : Mach W hi A L X nd G) => states_c W hW N A6.out.2.2.2.2.2.2.2
        have hpa := fun (W : World) (hW : Mach W hi A L X nd G) => patterns_c W hW
        have hlo := fun (W : World) (hW : Mach W hi A L X nd G) => longest_c W hW
        obtain ⟨qa, qc, ka, kc, _, cq1, _, _, _⟩ := A6.out.2.2.1.cells
        have n1 : ((N : Int) != (N : Int)) = false := by simp
        have n2 : ((L : Int) != (L : Int)) = false := by simp
        have n3 : ((X : Int) != (X : Int)) = false := by simp
        have hM4 : Mach w4 hi A L X nd G := A6.out.1
        go_wp2_with fail
        go_quiet ((first
          | (go_at_call 15; refine Calls.quiet_of_same ((hst _ ?_).mono fun e w' h => ⟨h.1, h.2.symm⟩); exact hM4.drewN _)
          | (go_at_call 16; refine Calls.quiet_of_same ((hpa _ ?_).mono fun e w' h => ⟨h.1, h.2.symm⟩); exact hM4.drewN _)
          | (go_at_call 17; refine Calls.quiet_of_same ((hlo _ ?_).mono fun e w' h => ⟨h.1, h.2.symm⟩); exact hM4.drewN _)))
        have hQ4 : Q < w4.heap.size := World.block_lt_of_cell? w4 ⟨Q, 1, none⟩ cq1
        have A7 : Aside (w4.cell? ⟨Q, 1, none⟩ = some (.slice qa N qc) ∧ Q < w4.heap.size) := ⟨cq1, hQ4⟩
        clear hst hpa hlo cq1 n1 n2 n3 hM4 hQ4
        go_wp2_with fail
        go_loopg [13] (N + 2) (fun g ss wr => ∃ j : Nat, ss = .int .i64 ((j : Int) - 1) ∧ Aside (j + g = N + 2 ∧ Below w4.heap.size w4 wr))
        case atStart => exact ⟨0, rfl, ⟨by omega, ⟨rfl, rfl, rfl, Nat.le_refl _, fun _ _ => rfl⟩⟩⟩
        case round =>
          obtain ⟨j, hss, hJ⟩ := hrel
          obtain ⟨s, hs⟩ : ∃ s : Int, (j : Int) - 1 = s := ⟨_, rfl⟩
          rw [hs] at hss
          subst hss
          have hb0 : Below w4.heap.size w4 wr := hJ.out.2
          have cqr : wr.cell? ⟨Q, 1, none⟩ = some (.slice qa N qc) := (hb0.cell (p := ⟨Q, 1, none⟩) A7.out.2).trans A7.out.1
          by_cases hjN : j ≤ N + 1
          · have hsN : s ≤ (N : Int) := by omega
            obtain ⟨u, E, f, hu32, hE64, hElt, hu256, hsay⟩ := say_c A6.out.1 A6.out.2.1 AG.out.1 A6.out.2.2.1 A6.out.2.2.2.1 A6.out.2.2.2.2.1 AB.out.2.2.1 s
            obtain ⟨UL, hUL⟩ : ∃ UL, u.length = UL := ⟨_, rfl⟩
            obtain ⟨EL, hEL⟩ : ∃ EL, E.length = EL := ⟨_, rfl⟩
            unfold Say at hsay
            simp only [hUL] at hsay
            obtain ⟨B5, hB5⟩ : ∃ B5, wr.heap.size = B5 := ⟨_, rfl⟩
            have h18 := (hsay wr hb0).1
            rw [hB5] at h18
            have AU : Aside (u.length = UL ∧ E.length = EL ∧ UL ≤ 32 ∧ EL ≤ 64 ∧ (j : Int) - 1 = s ∧ j ≤ N + 1 ∧ w4.heap.size ≤ B5) := ⟨hUL, hEL, by omega, by omega, hs, hjN, by rw [← hB5]; exact hb0.size⟩
            have nU : ((UL : Int) != (UL : Int)) = false := by simp
            have nF : ((f : Int) != (f : Int)) = false := by simp
            have hslo : (-1 : Int) ≤ s := by omega
            have hshi : s ≤ 2049 := by have := A6.out; omega
            have SAY : Aside (∀ W, Below w4.heap.size w4 W → _) := hsay
            clear hsay hu32 hE64 hElt hu256 hUL hEL hs hjN hB5
            go_upto_region 23 with (go_at_call 18; refine h18.mono ?_; rintro e5 w5 ⟨rfl, hk5, hb5⟩)
            have b5 : Below w4.heap.size w4 w5 := hb0.trans (hb5.mono AU.out.2.2.2.2.2.2)
            have hB5l : B5 < w5.heap.size := Cells.lt hk5
            have h19 := (SAY.out w5 b5).2.1
            have A5 : Aside (Bk w5 B5 u ∧ Below w4.heap.size w4 w5 ∧ B5 < w5.heap.size) := ⟨hk5, b5, hB5l⟩
            clear h18 hk5 hb5 hb0 cqr hsN b5 hB5l
            go_upto_region 24 with (go_at_call 19; refine h19.mono ?_; rintro e6 w6 ⟨v6, rfl, ho6⟩)
            obtain ⟨oa, oc, hv6, hnum6, _, _, _⟩ := ho6.shape
            rw [AU.out.2.1] at hv6
            subst hv6
            have b6 : Below w4.heap.size w4 w6 := A5.out.2.1.trans (ho6.bel.mono A5.out.2.1.size)
            obtain ⟨lo5, hlo5⟩ : ∃ lo5, w5.heap.size = lo5 := ⟨_, rfl⟩
            have AX6 : Aside (Below w4.heap.size w4 w6 ∧ Lies w6 (some ⟨B5, 0, none⟩) u ∧ Wb w6 B5 UL ∧ Wi w6 oa lo5 EL ∧ Nums w6 oa E ∧ B5 < lo5) := by
              refine ⟨b6, A5.out.1.lies.below ho6.bel, ?_, ?_, hnum6, by rw [← hlo5]; exact A5.out.2.2⟩
              · rw [← AU.out.1]; exact A5.out.1.wb.below ho6.bel A5.out.2.2
              · rw [← hlo5]; exact ho6.wi AU.out.2.1
            have AXL : Aside (B5 < lo5) := AX6.out.2.2.2.2.2
            have h21 := (SAY.out w6 b6).2.2.1
            clear h19 ho6 hnum6 b6 hlo5 A5
            go_upto_region 26 with (first
              | (go_at_call 21; (fail_if_success (have hh := c7)); refine h21.mono ?_; rintro e7 w7 ⟨ai, ci, rfl, hl7, rfl⟩
                 have c7 : Aside True := trivial
                 have hsame := same_c (some ⟨B5, 0, none⟩) ai u u UL UL UL ci w6 AU.out.1 AU.out.1 (by have := AU.out; omega) AX6.out.2.1 hl7
                 rw [decide_eq_true (rfl : u = u)] at hsame
                 clear hl7)
              | (go_at_call 20; refine hsame.mono ?_; rintro e8 w8 ⟨rfl, hd8⟩
                 have bd8 : Below w6.heap.size w6 w8 := Drawn.below hd8 _
                 have b8 : Below w4.heap.size w4 w8 := AX6.out.1.trans (bd8.mono AX6.out.1.size)
                 have AX8 : Aside (Below w4.heap.size w4 w8 ∧ Wb w8 B5 UL ∧ Wi w8 oa lo5 EL ∧ Nums w8 oa E) := ⟨b8, AX6.out.2.2.1.below (Drawn.below hd8 (B5 + 1)) (Nat.lt_succ_self _), AX6.out.2.2.2.1.below bd8, AX6.out.2.2.2.2.1.below bd8⟩
                 have h23 := (SAY.out w8 b8).2.2.2.1
                 clear hd8 bd8 b8)
              | (go_at_call 23; refine h23.mono ?_; rintro e9 w9 ⟨v9, rfl, ho9⟩
                 obtain ⟨oa9, oc9, hv9, hnum9, _, _, _⟩ := ho9.shape
                 rw [AU.out.2.1] at hv9
                 subst hv9
                 have hints := ints_c oa oa9 E E EL EL oc oc9 w9 AU.out.2.1 AU.out.2.1 (by have := AU.out; omega) (AX8.out.2.2.2.below ho9.bel) hnum9
                 rw [decide_eq_true (rfl : E = E)] at hints
                 have AX9 : Aside (Below w8.heap.size w8 w9) := ho9.bel
                 clear ho9 hnum9)
              | (go_at_call 22; refine hints.mono ?_; rintro e10 w10 ⟨rfl, hd10⟩
                 have bd10 : Below w8.heap.size w8 w10 := AX9.out.trans (Drawn.below hd10 _)
                 have b10 : Below w4.heap.size w4 w10 := AX8.out.1.trans (bd10.mono AX8.out.1.size)
                 have AX10 : Aside (Below w4.heap.size w4 w10 ∧ Wb w10 B5 UL ∧ Wi w10 oa lo5 EL) := ⟨b10, AX8.out.2.1.below bd10 (Cells.lt AX8.out.2.1.choose_spec.1), AX8.out.2.2.1.below bd10⟩
                 have h24 := (SAY.out w10 b10).2.2.2.2.1
                 have h21b := (SAY.out w10 b10).2.2.1
                 have h25 := (SAY.out w10 b10).2.2.2.2.2.1
                 have h26 := (SAY.out w10 b10).2.2.2.2.2.2
                 clear hd10 bd10 b10)
              | (go_at_call 24; refine h24.mono ?_; rintro e11 w11 ⟨rfl, rfl⟩)
              | (go_at_call 21; refine h21b.mono ?_; rintro e12 w12 ⟨ai2, ci2, rfl, hl12, rfl⟩; clear hl12)
              | (go_at_call 25; refine h25.mono ?_; rintro e13 w13 ⟨rfl, rfl⟩)
              | (go_at_call 26; refine h26.mono ?_; rintro e14 w14 ⟨rfl, rfl⟩))
            clear h21 hsame h23 hints h24 h21b h25 h26 c7 AX6 AX8 AX9 nU nF
            go_wp2_with fail
            go_loopg [16] UL (fun g sk wr => ∃ k : Nat, sk = .int .i64 k ∧ Aside (k + g = UL ∧ Below w4.heap.size w4 wr ∧ Wb wr B5 UL ∧ Wi wr oa lo5 EL ∧ B5 < lo5))
            case atStart => exact ⟨0, rfl, ⟨by omega, AX10.out.1, AX10.out.2.1, AX10.out.2.2, AXL.out⟩⟩
            case round =>
              obtain ⟨k, rfl, hK⟩ := hrel
              by_cases hkU : k < UL
              · have hk : (k : Int) < (UL : Int) := by omega
                obtain ⟨cur, hcur, hrow⟩ := hK.out.2.2.1
                obtain ⟨z, hz⟩ := hrow k hkU
                have cz : wr.cell? ⟨B5, k, none⟩ = some (.int .u8 z) := (hcur.cell k).trans hz
                have fz : wr.frozen? ⟨B5, k, none⟩ = false := hcur.frozen k
                have hkb : (k : Int) < 64 := by have := AU.out; omega
                have AW : Aside (∀ z' : Int, Below w4.heap.size w4 (wr.setCell ⟨B5, k, none⟩ (.int .u8 z')) ∧ Wb (wr.setCell ⟨B5, k, none⟩ (.int .u8 z')) B5 UL ∧ Wi (wr.setCell ⟨B5, k, none⟩ (.int .u8 z')) oa lo5 EL ∧ B5 < lo5) := fun z' => ⟨hK.out.2.1.setCell (p := ⟨B5, k, none⟩) AU.out.2.2.2.2.2.2 _, hK.out.2.2.1.set k z', hK.out.2.2.2.1.far hK.out.2.2.2.2 k _, hK.out.2.2.2.2⟩
                have AL : Aside (k < UL) := hkU
                clear hcur hrow hz hkU
                go_upto_region 28 with fail
                clear cz fz hk
                go_wp2_with fail
                have h1 := hK.out.1; have h2 := AL.out
                go_roundg (UL - (k + 1))
                case measure => omega
                case rel => exact ⟨k + 1, by go_num, ⟨by omega, AW.out _⟩⟩
              · have hk : ¬ (k : Int) < (UL : Int) := by omega
                have AX11 : Aside (Below w4.heap.size w4 wr ∧ Wi wr oa lo5 EL) := ⟨hK.out.2.1, hK.out.2.2.2.1⟩
                clear hkU AX10
                go_wp2_with fail
                go_loopg [17] EL (fun g sk wr => ∃ k : Nat, sk = .int .i64 k ∧ Aside (k + g = EL ∧ Below w4.heap.size w4 wr ∧ Wi wr oa lo5 EL))
                case atStart => exact ⟨0, rfl, ⟨by omega, AX11.out⟩⟩
                case round =>
                  obtain ⟨k2, rfl, hK2⟩ := hrel
                  by_cases hkE : k2 < EL
                  · have hk2 : (k2 : Int) < (EL : Int) := by omega
                    rcases hK2.out.2.2 with e | ⟨ob, cur, rfl, hob, hcur, hrow⟩
                    · omega
                    obtain ⟨z, hz⟩ := hrow k2 hkE
                    have cz : wr.cell? ⟨ob, k2, none⟩ = some (.int .i64 z) := (hcur.cell k2).trans hz
                    have fz : wr.frozen? ⟨ob, k2, none⟩ = false := hcur.frozen k2
                    have hkb : (k2 : Int) < 64 := by have := AU.out; omega
                    have AW : Aside (∀ z' : Int, Below w4.heap.size w4 (wr.setCell ⟨ob, k2, none⟩ (.int .i64 z')) ∧ Wi (wr.setCell ⟨ob, k2, none⟩ (.int .i64 z')) (some ⟨ob, 0, none⟩) lo5 EL) := fun z' => ⟨hK2.out.2.1.setCell (p := ⟨ob, k2, none⟩) (by show _ ≤ ob; have := AU.out; have := hK.out.2.2.2.2; omega) _, wi_set hob hcur hrow k2 z'⟩
                    have AL : Aside (k2 < EL) := hkE
                    clear hcur hrow hz hkE hob
                    go_upto_region 32 with fail
                    clear cz fz hk2
                    go_wp2_with fail
                    have h1 := hK2.out.1; have h2 := AL.out
                    go_roundg (EL - (k2 + 1))
                    case measure => omega
                    case rel => exact ⟨k2 + 1, by go_num, ⟨by omega, AW.out _⟩⟩
                  · have hk2 : ¬ (k2 : Int) < (EL : Int) := by omega
                    have b14 : Below w4.heap.size w4 wr := hK2.out.2.1
                    obtain ⟨B15, hB15⟩ : ∃ B15, wr.heap.size = B15 := ⟨_, rfl⟩
                    have h18 := (SAY.out wr b14).1
                    rw [hB15] at h18
                    have A14 : Aside (Below w4.heap.size w4 wr ∧ w4.heap.size ≤ B15) := ⟨b14, by rw [← hB15]; exact b14.size⟩
                    clear hkE b14 hB15
                    go_upto_region 21 with (first
                      | (go_at_call 18; refine h18.mono ?_; rintro e15 w15 ⟨rfl, hk15, hb15⟩
                         have b15 : Below w4.heap.size w4 w15 := A14.out.1.trans (hb15.mono A14.out.2)
                         have h21 := (SAY.out w15 b15).2.2.1
                         have A15 : Aside (Below w4.heap.size w4 w15 ∧ Lies w15 (some ⟨B15, 0, none⟩) u) := ⟨b15, hk15.lies⟩
                         clear hk15 hb15 b15)
                      | (go_at_call 21; refine h21.mono ?_; rintro e16 w16 ⟨ai, ci, rfl, hl16, rfl⟩
                         have hsame := same_c (some ⟨B15, 0, none⟩) ai u u UL UL UL ci w15 AU.out.1 AU.out.1 (by have := AU.out; omega) A15.out.2 hl16
                         rw [decide_eq_true (rfl : u = u)] at hsame
                         clear hl16)
                      | (go_at_call 20; refine hsame.mono ?_; rintro e17 w17 ⟨rfl, hd17⟩
                         have b17 : Below w4.heap.size w4 w17 := A15.out.1.trans (Drawn.below hd17 _)
                         have h19 := (SAY.out w17 b17).2.1
                         have A17 : Aside (Below w4.heap.size w4 w17) := b17
                         clear hd17 b17)
                      | (go_at_call 19; refine h19.mono ?_; rintro e18 w18 ⟨v18, rfl, ho18⟩
                         obtain ⟨oa18, oc18, hv18, hnum18, _, _, _⟩ := ho18.shape
                         rw [AU.out.2.1] at hv18
                         subst hv18
                         have b18 : Below w4.heap.size w4 w18 := A17.out.trans (ho18.bel.mono A17.out.size)
                         have h23 := (SAY.out w18 b18).2.2.2.1
                         have A18 : Aside (Below w4.heap.size w4 w18 ∧ Nums w18 oa18 E) := ⟨b18, hnum18⟩
                         clear ho18 hnum18 b18)
                      | (go_at_call 23; refine h23.mono ?_; rintro e19 w19 ⟨v19, rfl, ho19⟩
                         obtain ⟨oa19, oc19, hv19, hnum19, _, _, _⟩ := ho19.shape
                         rw [AU.out.2.1] at hv19
                         subst hv19
                         have hints := ints_c oa18 oa19 E E EL EL oc18 oc19 w19 AU.out.2.1 AU.out.2.1 (by have := AU.out; omega) (A18.out.2.below ho19.bel) hnum19
                         rw [decide_eq_true (rfl : E = E)] at hints
                         have A19 : Aside (Below w4.heap.size w4 w19) := A18.out.1.trans (ho19.bel.mono A18.out.1.size)
                         clear ho19 hnum19)
                      | (go_at_call 22; refine hints.mono ?_; rintro e20 w20 ⟨rfl, hd20⟩
                         have A20 : Aside (Below w4.heap.size w4 w20) := A19.out.trans (Drawn.below hd20 _)
                         clear hd20))
                    clear h18 h21 hsame h19 h23 hints
                    go_wp2_with fail
                    have h1 := hJ.out.1; have h2 := AU.out
                    go_roundg (N + 2 - (j + 1))
                    case measure => omega
                    case rel => exact ⟨j + 1, by congr 1; omega, ⟨by omega, A20.out⟩⟩
          · have hsN : ¬ s ≤ (N : Int) := by omega
            have A30 : Aside (Below w4.heap.size w4 wr) := hb0
            clear hjN hs hb0
            go_wp2_with fail
            clear cqr A7
            go_loopg [18] cl (fun g si wr => ∃ i : Nat, si = .int .i64 i ∧ Aside (i + g = cl ∧ Below w4.heap.size w4 wr))
            case atStart => exact ⟨0, rfl, ⟨by omega, A30.out⟩⟩
            case round =>
              obtain ⟨i, rfl, hI⟩ := hrel
              have hb0 : Below w4.heap.size w4 wr := hI.out.2
              have hbw : Below w.heap.size w wr := A6.out.2.2.2.2.2.1.trans (hb0.mono A6.out.2.2.2.2.2.1.size)
              by_cases hic : i < cl
              · have hi' : (i : Int) < (cl : Int) := by omega
                rcases AC.out.1 with e | ⟨cb, co, X0, Y0, rfl, hcb, hcc⟩
                · omega
                obtain ⟨g0, g1, hX, hY⟩ := hcc i hic
                have x0 := (hbw.cell (p := ⟨cb, co + i * 2, none⟩) hcb).trans g0
                have y0 := (hbw.cell (p := ⟨cb, co + i * 2 + 1, none⟩) hcb).trans g1
                have hcb4 : cb < w4.heap.size := Nat.lt_of_lt_of_le hcb A6.out.2.2.2.2.2.1.size
                clear g0 g1 hX hY hcc
                generalize X0 i = x at *
                generalize Y0 i = y at *
                obtain ⟨b, hb, hb256⟩ : ∃ b : Nat, IntKind.u8.wrap y = (b : Int) ∧ b < 256 := ⟨(y % 256).toNat, by rw [IntKind.wrap_u8]; omega, by omega⟩
                obtain ⟨r, hnx⟩ := nxt_c A6.out.1 A6.out.2.1 AG.out.1 A6.out.2.2.1 x b hb256
                have NX : Aside (∀ W, Below w4.heap.size w4 W → _) := hnx
                have AI : Aside (i < cl ∧ cb < w4.heap.size) := ⟨hic, hcb4⟩
                have nR : ((r : Int) != (r : Int)) = false := by simp
                have hib : (i : Int) < 9223372036854775807 := by have := AC.out; omega
                clear hnx hic hcb hbw hb256 hcb4
                go_upto_region 39 with fail
                refine wp_region_noPanic ?_
                refine wp_region_held_drew (S := fun w' => w'.cell? ⟨cb, co + i * 2, none⟩ = some (.int .i64 x) ∧ w'.cell? ⟨cb, co + i * 2 + 1, none⟩ = some (.int .i64 y) ∧ Below w4.heap.size w4 w') (by kernel_rfl) ⟨x0, y0, ⟨hb0.os, hb0.tape, hb0.output, hb0.size, hb0.block⟩⟩ (fun hHeld => ?_)
                refine wpAnyH_take (i := 0) (oi := ⟨_, _, _, _, _, _⟩) (v := ?_) rfl (by kernel_rfl) (by kernel_rfl) (by kernel_rfl) (fun _ _ _ h => h) (Or.inl ⟨by rfl, ?_⟩) hHeld ?_
                rotate_left
                · (intro w9 hSw; (try dsimp only at hSw); go_simp; try (with_reducible rfl))
                try simp only [Act.put, List.setIfInBounds_toArray, List.set_cons_zero, List.set_cons_succ]
                refine wpAnyH_take (i := 1) (oi := ⟨_, _, _, _, _, _⟩) (v := ?_) rfl (by kernel_rfl) (by kernel_rfl) (by kernel_rfl) (fun _ _ _ h => h) (Or.inl ⟨by rfl, ?_⟩) hHeld ?_
                rotate_left
                · (intro w9 hSw; (try dsimp only at hSw); go_simp; try (with_reducible rfl))
                try simp only [Act.put, List.setIfInBounds_toArray, List.set_cons_zero, List.set_cons_succ]
                refine wpAnyH_take (i := 2) (oi := ⟨_, _, _, _, _, _⟩) (v := ?_) rfl (by kernel_rfl) (by kernel_rfl) (by kernel_rfl) (fun _ _ _ h => h) (Or.inl ⟨by rfl, ?_⟩) hHeld ?_
                rotate_left
                · (intro w9 hSw; (try dsimp only at hSw); go_simp; try (with_reducible rfl))
                try simp only [Act.put, List.setIfInBounds_toArray, List.set_cons_zero, List.set_cons_succ]
                refine wpAnyH_take (i := 3) (oi := ⟨_, _, _, _, _, _⟩) (v := ?_) rfl (by kernel_rfl) (by kernel_rfl) (by kernel_rfl) (fun _ _ _ h => h) (Or.inl ⟨by rfl, ?_⟩) hHeld ?_
                rotate_left
                · (intro w9 hSw; (try dsimp only at hSw); go_simp; try (with_reducible rfl))
                try simp only [Act.put, List.setIfInBounds_toArray, List.set_cons_zero, List.set_cons_succ]
                refine wpAnyH_take (i := 4) (oi := ⟨_, _, _, _, _, _⟩) (v := ?_) rfl (by kernel_rfl) (by kernel_rfl) (by kernel_rfl) (fun _ _ _ h => h) (Or.inl ⟨by rfl, ?_⟩) hHeld ?_
                rotate_left
                · (intro w9 hSw; (try dsimp only at hSw); go_simp; try (with_reducible rfl))
                try simp only [Act.put, List.setIfInBounds_toArray, List.set_cons_zero, List.set_cons_succ]
                refine wpAnyH_take (i := 5) (oi := ⟨_, _, _, _, _, _⟩) (v := ?_) rfl (by kernel_rfl) (by kernel_rfl) (by kernel_rfl) (fun _ _ _ h => h) (Or.inl ⟨by rfl, ?_⟩) hHeld ?_
                rotate_left
                · (intro w9 hSw; (try dsimp only at hSw); go_simp; try (with_reducible rfl))
                try simp only [Act.put, List.setIfInBounds_toArray, List.set_cons_zero, List.set_cons_succ]
                refine wpAnyH_take (i := 6) (oi := ⟨_, _, _, _, _, _⟩) (v := ?_) rfl (by kernel_rfl) (by kernel_rfl) (by kernel_rfl) (fun _ _ _ h => h) (Or.inl ⟨by rfl, ?_⟩) hHeld ?_
                rotate_left
                · (intro w9 hSw; (try dsimp only at hSw); go_simp; try (with_reducible rfl))
                try simp only [Act.put, List.setIfInBounds_toArray, List.set_cons_zero, List.set_cons_succ]
                refine wpAnyH_take (i := 7) (oi := ⟨_, _, _, _, _, _⟩) (v := ?_) rfl (by kernel_rfl) (by kernel_rfl) (by kernel_rfl) (fun _ _ _ h => h) (Or.inl ⟨by rfl, ?_⟩) hHeld ?_
                rotate_left
                · (intro w9 hSw; (try dsimp only at hSw); go_simp; try (with_reducible rfl))
                try simp only [Act.put, List.setIfInBounds_toArray, List.set_cons_zero, List.set_cons_succ]
                refine wpAnyH_take (i := 8) (oi := ⟨_, _, _, _, _, _⟩) (v := ?_) rfl (by kernel_rfl) (by kernel_rfl) (by kernel_rfl) (fun _ _ _ h => h) (Or.inl ⟨by rfl, ?_⟩) hHeld ?_
                rotate_left
                · (intro w9 hSw; (try dsimp only at hSw); go_simp; try (with_reducible rfl))
                try simp only [Act.put, List.setIfInBounds_toArray, List.set_cons_zero, List.set_cons_succ]
                refine wpAnyH_take (i := 9) (oi := ⟨_, _, _, _, _, _⟩) (v := ?_) rfl (by kernel_rfl) (by kernel_rfl) (by kernel_rfl) (fun _ _ _ h => h) (Or.inl ⟨by rfl, ?_⟩) hHeld ?_
                rotate_left
                · (intro w9 hSw; (try dsimp only at hSw); go_simp; try (with_reducible rfl))
                try simp only [Act.put, List.setIfInBounds_toArray, List.set_cons_zero, List.set_cons_succ]
                refine wpAnyH_take (i := 10) (oi := ⟨_, _, _, _, _, _⟩) (v := ?_) rfl (by kernel_rfl) (by kernel_rfl) (by kernel_rfl) (fun _ _ _ h => h) (Or.inl ⟨by rfl, ?_⟩) hHeld ?_
                rotate_left
                · (intro w9 hSw; (try dsimp only at hSw); go_simp; try (with_reducible rfl))
                try simp only [Act.put, List.setIfInBounds_toArray, List.set_cons_zero, List.set_cons_succ]
                refine wpAnyH_take (i := 11) (oi := ⟨_, _, _, _, _, _⟩) (v := ?_) rfl (by kernel_rfl) (by kernel_rfl) (by kernel_rfl) (fun _ _ _ h => h) (Or.inl ⟨by rfl, ?_⟩) hHeld ?_
                rotate_left
                · (intro w9 hSw; (try dsimp only at hSw); go_simp; try (with_reducible rfl))
                try simp only [Act.put, List.setIfInBounds_toArray, List.set_cons_zero, List.set_cons_succ]
                refine wpAnyH_take (i := 13) (oi := ⟨_, _, _, _, _, _⟩) (v := ?_) rfl (by kernel_rfl) (by kernel_rfl) (by kernel_rfl) (fun _ _ _ h => h) (Or.inl ⟨by rfl, ?_⟩) hHeld ?_
                rotate_left
                · (intro w9 hSw; (try dsimp only at hSw); go_simp; try (with_reducible rfl))
                try simp only [Act.put, List.setIfInBounds_toArray, List.set_cons_zero, List.set_cons_succ]
                refine wpAnyH_take (i := 14) (oi := ⟨_, _, _, _, _, _⟩) (v := ?_) rfl (by kernel_rfl) (by kernel_rfl) (by kernel_rfl) (fun _ _ _ h => h) (Or.inl ⟨by rfl, ?_⟩) hHeld ?_
                rotate_left
                · (intro w9 hSw; (try dsimp only at hSw); go_simp; try (with_reducible rfl))
                try simp only [Act.put, List.setIfInBounds_toArray, List.set_cons_zero, List.set_cons_succ]
                refine wpAnyH_take (i := 15) (oi := ⟨_, _, _, _, _, _⟩) (v := ?_) rfl (by kernel_rfl) (by kernel_rfl) (by kernel_rfl) (fun _ _ _ h => h) (Or.inl ⟨by rfl, ?_⟩) hHeld ?_
                rotate_left
                · (intro w9 hSw; (try dsimp only at hSw); go_simp; try (with_reducible rfl))
                try simp only [Act.put, List.setIfInBounds_toArray, List.set_cons_zero, List.set_cons_succ]
                refine wpAnyH_take (i := 16) (oi := ⟨_, _, _, _, _, _⟩) (v := ?_) rfl (by kernel_rfl) (by kernel_rfl) (by kernel_rfl) (fun _ _ _ h => h) (Or.inl ⟨by rfl, ?_⟩) hHeld ?_
                rotate_left
                · (intro w9 hSw; (try dsimp only at hSw); go_simp; try (with_reducible rfl))
                try simp only [Act.put, List.setIfInBounds_toArray, List.set_cons_zero, List.set_cons_succ]
                refine wpAnyH_take (i := 17) (oi := ⟨_, _, _, _, _, _⟩) (v := ?_) rfl (by kernel_rfl) (by kernel_rfl) (by kernel_rfl) (fun _ _ _ h => h) (Or.inl ⟨by rfl, ?_⟩) hHeld ?_
                rotate_left
                · (intro w9 hSw; (try dsimp only at hSw); go_simp; try (with_reducible rfl))
                try simp only [Act.put, List.setIfInBounds_toArray, List.set_cons_zero, List.set_cons_succ]
                refine wpAnyH_take (i := 18) (oi := ⟨_, _, _, _, _, _⟩) (v := ?_) rfl (by kernel_rfl) (by kernel_rfl) (by kernel_rfl) (fun _ _ _ h => h) (Or.inl ⟨by rfl, ?_⟩) hHeld ?_
                rotate_left
                · (intro w9 hSw; (try dsimp only at hSw); go_simp; try (with_reducible rfl))
                try simp only [Act.put, List.setIfInBounds_toArray, List.set_cons_zero, List.set_cons_succ]
                refine wpAnyH_take (i := 19) (oi := ⟨_, _, _, _, _, _⟩) (v := ?_) rfl (by kernel_rfl) (by kernel_rfl) (by kernel_rfl) (fun _ _ _ h => h) (Or.inl ⟨by rfl, ?_⟩) hHeld ?_
                rotate_left
                · (intro w9 hSw; (try dsimp only at hSw); go_simp; try (with_reducible rfl))
                try simp only [Act.put, List.setIfInBounds_toArray, List.set_cons_zero, List.set_cons_succ]
                refine wpAnyH_take (i := 20) (oi := ⟨_, _, _, _, _, _⟩) (v := ?_) rfl (by kernel_rfl) (by kernel_rfl) (by kernel_rfl) (fun _ _ _ h => h) (Or.inl ⟨by rfl, ?_⟩) hHeld ?_
                rotate_left
                · (intro w9 hSw; (try dsimp only at hSw); go_simp; try (with_reducible rfl))
                try simp only [Act.put, List.setIfInBounds_toArray, List.set_cons_zero, List.set_cons_succ]
                refine wpAnyH_take (i := 21) (oi := ⟨_, _, _, _, _, _⟩) (v := ?_) rfl (by kernel_rfl) (by kernel_rfl) (by kernel_rfl) (fun _ _ _ h => h) (Or.inl ⟨by rfl, ?_⟩) hHeld ?_
                rotate_left
                · (intro w9 hSw; (try dsimp only at hSw); go_simp; try (with_reducible rfl))
                try simp only [Act.put, List.setIfInBounds_toArray, List.set_cons_zero, List.set_cons_succ]
                refine wpAnyH_take (i := 22) (oi := ⟨_, _, _, _, _, _⟩) (v := ?_) rfl (by kernel_rfl) (by kernel_rfl) (by kernel_rfl) (fun _ _ _ h => h) (Or.inl ⟨by rfl, ?_⟩) hHeld ?_
                rotate_left
                · (intro w9 hSw; (try dsimp only at hSw); go_simp; try (with_reducible rfl))
                try simp only [Act.put, List.setIfInBounds_toArray, List.set_cons_zero, List.set_cons_succ]
                refine wpAnyH_take (i := 23) (oi := ⟨_, _, _, _, _, _⟩) (v := ?_) rfl (by kernel_rfl) (by kernel_rfl) (by kernel_rfl) (fun _ _ _ h => h) (Or.inl ⟨by rfl, ?_⟩) hHeld ?_
                rotate_left
                · (intro w9 hSw; (try dsimp only at hSw); go_simp; try (with_reducible rfl))
                try simp only [Act.put, List.setIfInBounds_toArray, List.set_cons_zero, List.set_cons_succ]
                refine wpAnyH_take (i := 24) (oi := ⟨_, _, _, _, _, _⟩) (v := ?_) rfl (by kernel_rfl) (by kernel_rfl) (by kernel_rfl) (fun _ _ _ h => h) (Or.inl ⟨by rfl, ?_⟩) hHeld ?_
                rotate_left
                · (intro w9 hSw; (try dsimp only at hSw); go_simp; try (with_reducible rfl))
                try simp only [Act.put, List.setIfInBounds_toArray, List.set_cons_zero, List.set_cons_succ]
                refine wpAnyH_ready (rs := [12]) (by kernel_rfl) (by simp) ?_
                refine AllReadyH.cons (o := ⟨_, _, _, _, _, _⟩) rfl (fun K hK => ?_) AllReadyH.nil
                go_simp
                with_reducible refine (NX.out _ hHeld.2.2).1.mono ?_
                rintro e5 w5 ⟨rfl, rfl⟩
                try go_wp2_with fail
                refine hK.out _ _ hHeld (fun hHeldA => ?_)
                clear hK K
                try simp only [Act.put, List.setIfInBounds_toArray, List.set_cons_zero, List.set_cons_succ]
                refine wpAnyH_ready (rs := [25]) (by kernel_rfl) (by simp) ?_
                refine AllReadyH.cons (o := ⟨_, _, _, _, _, _⟩) rfl (fun K hK => ?_) AllReadyH.nil
                go_simp
                with_reducible refine (NX.out _ hHeld.2.2).2.mono ?_
                rintro e6 w6 ⟨rfl, hb6⟩
                try go_wp2_with fail
                have h1 := AI.out.2; have h2 := hHeld.2.2.size
                refine hK.out _ _ ⟨(hb6.cell (p := ⟨cb, co + i * 2, none⟩) (Nat.lt_of_lt_of_le h1 h2)).trans hHeld.1, (hb6.cell (p := ⟨cb, co + i * 2 + 1, none⟩) (Nat.lt_of_lt_of_le h1 h2)).trans hHeld.2.1, hHeld.2.2.trans (hb6.mono h2)⟩ (fun hHeldB => ?_)
                clear hK K
                try simp only [Act.put, List.setIfInBounds_toArray, List.set_cons_zero, List.set_cons_succ]
                refine wpAnyH_take (i := 26) (oi := ⟨_, _, _, _, _, _⟩) (v := ?_) rfl (by kernel_rfl) (by kernel_rfl) (by kernel_rfl) (fun _ _ _ h => h) (Or.inl ⟨by rfl, ?_⟩) hHeldB ?_
                rotate_left
                · (intro w9 hSw; (try dsimp only at hSw); go_simp; try (with_reducible rfl))
                try simp only [Act.put, List.setIfInBounds_toArray, List.set_cons_zero, List.set_cons_succ]
                refine wpAnyH_done (by kernel_rfl) ?_ _
                refine NoPanic.normal ?_
                have A32 : Aside (Below w4.heap.size w4 w6) := hHeldB.2.2
                clear hHeld hHeldA hHeldB x0 y0 hb0 hb6 h1 h2
                go_wp2_with fail
                have h1 := hI.out.1; have h2 := AI.out
                go_roundg (cl - (i + 1))
                case measure => omega
                case rel => exact ⟨i + 1, by go_num, ⟨by omega, A32.out⟩⟩
              · have hi' : ¬ (i : Int) < (cl : Int) := by omega
                have haw := awake_c wr (AB.out.1.below hbw)
                have A31 : Aside (Below H w wr ∧ H ≤ wr.heap.size) := ⟨by rw [← AB.out.2.2.2.2.2.2.2]; exact hbw, by rw [← AB.out.2.2.2.2.2.2.2]; exact hbw.size⟩
                clear hic hb0 hbw
                go_wp2_with (go_at_call 13; refine haw.mono ?_; rintro e5 w5 ⟨rfl, hb5⟩)
                go_ret
                exact ⟨rfl, A31.out.1.trans (hb5.mono A31.out.2)⟩
  · have hq := rbuild_err a ps L C w hp hL hLC (by omega) hck
    clear hp hL hLC hC ho hz
    rw [hH]
    clear hH
    obtain ⟨z, hz⟩ : ∃ z, chk ps = z := ⟨_, rfl⟩
    rw [hz] at hq
    have nz : ((z : Int) != (z : Int)) = false := by simp
    go_enter Tryd.func4, Tryd.ntmps4
    go_upto_region 2 with (go_at_call 14; refine hq.mono ?_; rintro e1 w1 ⟨rfl, hd1⟩)
    have hbw1 : Below w.heap.size w w1 := Drawn.below hd1 _
    have cop := copy_c a ps L C w1 (AB.out.2.1.below hbw1) AB.out.2.2.1 AB.out.2.2.2.1 (by have := AB.out; omega)
    have A1 : Aside (Below w.heap.size w w1) := hbw1
    clear hq hd1 hbw1
    go_upto_region 3 with (go_at_call 11; refine cop.mono ?_; rintro e2 w2 ⟨v2, rfl, hc2⟩)
    obtain ⟨a2, C2, hv2, hL2, hr2, hz2⟩ := hc2.rows
    rw [AB.out.2.2.1] at hv2 hL2
    subst hv2
    have hbuild := build_err a2 ps L C2 w2 hr2 AB.out.2.2.1 hL2 (by have := AB.out; omega) AB.out.2.2.2.2.2.1 hz2 hck
    rw [hz] at hbuild
    have A2 : Aside (Below w1.heap.size w1 w2) := hc2.bel
    clear cop hc2 hr2 hz2 hL2 hck hz
    go_upto_region 4 with (go_at_call 10; refine hbuild.mono ?_; rintro e3 w3 ⟨rfl, hb3⟩)
    have hbw3 : Below w.heap.size w w3 := A1.out.trans ((A2.out.trans (hb3.mono A2.out.size)).mono A1.out.size)
    have haw := awake_c w3 (AB.out.1.below hbw3)
    have A3 : Aside (Below H w w3 ∧ H ≤ w3.heap.size) := ⟨by rw [← AB.out.2.2.2.2.2.2.2]; exact hbw3, by rw [← AB.out.2.2.2.2.2.2.2]; exact hbw3.size⟩
    clear hbuild hb3 hbw3
    go_wp2_with (first | (go_at_call 13; refine haw.mono ?_; rintro e5 w5 ⟨rfl, hb5⟩))
    go_ret
    exact ⟨rfl, A3.out.1.trans (hb5.mono A3.out.2)⟩
end Go.Proofs.YtbepbjbbhenphaaDoor

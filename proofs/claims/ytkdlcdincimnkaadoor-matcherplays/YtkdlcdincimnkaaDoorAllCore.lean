/-
  MatcherAll, behind the opening of its arguments: the call answers true, and what lay in memory is as it was.
  Conditions: the library's table holds what its text lays there; the patterns and the text lie in memory; the text has at most 2^20 bytes.
-/
import Derived.Test.YtkdlcdincimnkaaDoorRefHits
namespace Go.Proofs.YtkdlcdincimnkaaDoor
open Go.RowKit
set_option linter.unusedVariables false
/-- How many hits a short text may have. -/
theorem hits_few {ps : List (List Nat)} {t : List Nat} (hg : Good ps) (h : t.length ≤ 2097152) : (hitsOf ps t).length ≤ 134217728 := by
  have h1 := hitsTo_len ps t t.length
  have h2 := hg.few
  unfold hitsOf
  have := Nat.mul_le_mul h h2
  omega
set_option maxRecDepth 100000 in
set_option maxHeartbeats 8000000 in
theorem all_core (w : World) (hT : Tab w) (a : Option Addr) (ps : List (List Nat)) (L C : Nat) (hp : Rows2 w a ps) (hL : ps.length = L) (hLC : L ≤ C) (hC : C * 24 < 140737488355328) (ho : Octs ps) (hz : a = none → C = 0)
    (ta : Option Addr) (t : List Nat) (TL TC : Nat) (ht : Lies w ta t) (hTL : t.length = TL) (hTC : TL ≤ TC) (hTb : TC < 140737488355328) (hto : Oct t) (htz : ta = none → TL = 0 ∧ TC = 0) (hfew : TL ≤ 1048576) (most : Int) :
    Calls Tryd.prog 4 #[.slice a L C, .slice ta TL TC, .int .i64 most] w fun e w' => e = .returned (.bool true) ∧ Below w.heap.size w w' := by
  obtain ⟨H, hH⟩ : ∃ H, w.heap.size = H := ⟨_, rfl⟩
  have AB : Aside (Tab w ∧ Rows2 w a ps ∧ ps.length = L ∧ L ≤ C ∧ C * 24 < 140737488355328 ∧ Octs ps ∧ (a = none → C = 0) ∧ w.heap.size = H) := ⟨hT, hp, hL, hLC, hC, ho, hz, hH⟩
  have AT : Aside (Lies w ta t ∧ t.length = TL ∧ TL ≤ TC ∧ TC < 140737488355328 ∧ Oct t ∧ (ta = none → TL = 0 ∧ TC = 0) ∧ TL ≤ 1048576) := ⟨ht, hTL, hTC, hTb, hto, htz, hfew⟩
  have cop := copy_c a ps L C w hp hL hLC (by omega)
  rw [hH]
  clear hT hp hL hLC hC ho hz hH ht hTL hTC hTb hto htz hfew
  go_enter Tryd.func4, Tryd.ntmps4
  go_wp2_with fail
  refine cop.mono ?_
  rintro e2 w2 ⟨v2, rfl, hc2⟩
  obtain ⟨a2, C2, hv2, hL2, hr2, hz2⟩ := hc2.rows
  rw [AB.out.2.2.1] at hv2 hL2
  subst hv2
  have b2 : Below H w w2 := by have := hc2.bel; rw [AB.out.2.2.2.2.2.2.2] at this; exact this
  have s2 : H ≤ w2.heap.size := by have := hc2.bel.size; rw [AB.out.2.2.2.2.2.2.2] at this; exact this
  clear cop hc2
  by_cases hck : chk ps = 0
  · have hbuild := build_ok a2 ps L C2 w2 hr2 AB.out.2.2.1 hL2 (by have := AB.out; omega) AB.out.2.2.2.2.2.1 hz2 hck
    have AG : Aside (Good ps) := chk_good hck
    clear hr2 hz2 hL2 hck
    go_wp2_with fail
    refine hbuild.mono ?_
    rintro e3 w3 ⟨A, rfl, nd, G, hm3, hf3, hb3⟩
    have hbw3 : Below H w w3 := b2.trans (hb3.mono s2)
    have hb3w : Below w.heap.size w w3 := by rw [AB.out.2.2.2.2.2.2.2]; exact hbw3
    have A3 : Aside (∃ base, Mach w3 base A L (longest ps) nd G ∧ Full ps nd G ∧ Below w.heap.size w w3 ∧ Lies w3 ta t) := ⟨_, hm3, hf3, hb3w, AT.out.1.below hb3w⟩
    clear hbuild hm3 hf3 hb3 b2 s2 hbw3 hb3w
    go_upto_region 3 with (refine wpList_app0 _ rfl (.tmp 20) (.tmp 21) rfl w3 (by rfl) w3.heap.size rfl (by rfl) ta t TL TC AT.out.2.1 (by rfl) AT.out.2.2.2.2.2.1 (by obtain ⟨_, _, _, _, h⟩ := A3.out; exact h) (by have := AT.out; omega) ?_; intro v4 w4 h4)
    obtain ⟨ia, ic, hv4, hl4, hic, _⟩ := h4.shape
    rw [AT.out.2.1] at hv4 hic
    subst hv4
    obtain ⟨base, hm3, hf3, hb3w, ht3⟩ := A3.out
    have hsz : ∀ n, n ≤ (hitsOf ps t).length → (n : Int) ≤ most → n * 40 ≤ 140737488355328 := fun n h1 _ => by
      have := hits_few AG.out (t := t) (by have := AT.out; omega)
      omega
    have hb4w : Below w.heap.size w w4 := hb3w.trans (h4.bel.mono hb3w.size)
    have hall := all_c w4 (hm3.below h4.bel) hf3 AG.out (AB.out.1.below hb4w) ia t TL ic hl4 AT.out.2.1 (by have := AT.out; omega) AT.out.2.2.2.2.1 most hsz
    obtain ⟨W, hW⟩ : ∃ W, decide ((hitsOf ps t).length ≤ most.toNat) = W := ⟨_, rfl⟩
    obtain ⟨X, hX⟩ : ∃ X, (hitsOf ps t).take most.toNat = X := ⟨_, rfl⟩
    obtain ⟨XL, hXL⟩ : ∃ XL, X.length = XL := ⟨_, rfl⟩
    have hXb : XL < 140737488355328 := by
      have := hits_few AG.out (t := t) (by have := AT.out; omega)
      rw [← hXL, ← hX, List.length_take]; omega
    have hrh := fun (u : World) (hu : Below w.heap.size w u) => rhits_c u a ps L C (AB.out.2.1.below hu) AB.out.2.2.1 AG.out ta t TL TC (AT.out.1.below hu) AT.out.2.1 AT.out.2.2.1 AT.out.2.2.2.1 most hsz
    rw [hW, hX] at hall
    rw [hW, hX] at hrh
    have A4 : Aside (Below w.heap.size w w4 ∧ Lies w4 ia t ∧ X.length = XL ∧ XL < 140737488355328 ∧ TL ≤ ic) := ⟨hb4w, hl4, hXL, hXb, hic⟩
    clear hm3 hf3 hb3w ht3 h4 hsz hb4w hl4 hic A3 hW hX hXL hXb
    go_upto_region 4 with (go_at_call 23; refine hall.mono ?_; rintro e5 w5 ⟨v5, rfl, h5⟩)
    obtain ⟨la, lc, hv5, hl5, _⟩ := owns_hits h5.own
    rw [A4.out.2.2.1] at hv5
    subst hv5
    have hb5w : Below w.heap.size w w5 := A4.out.1.trans (h5.bel.mono A4.out.1.size)
    have hrh5 := hrh w5 hb5w
    have A5 : Aside (Below w.heap.size w w5 ∧ Lies w5 ia t ∧ Hits w5 la X) := ⟨hb5w, A4.out.2.1.below h5.bel, hl5⟩
    clear hall hrh h5 hl5 hb5w
    go_upto_region 7 with (go_at_call 24; refine hrh5.mono ?_; rintro e6 w6 ⟨v6, rfl, h6⟩)
    obtain ⟨ra, rc, hv6, hl6, _⟩ := owns_hits h6.own
    rw [A4.out.2.2.1] at hv6
    subst hv6
    have hb6w : Below w.heap.size w w6 := A5.out.1.trans (h6.bel.mono A5.out.1.size)
    have hsame := hsame_yes la ra X XL lc rc w6 A4.out.2.2.1 A4.out.2.2.2.1 (A5.out.2.2.below h6.bel) hl6
    have A6 : Aside (Below w.heap.size w w6 ∧ Lies w6 ia t ∧ Lies w6 ta t) := ⟨hb6w, A5.out.2.1.below h6.bel, AT.out.1.below hb6w⟩
    have hWW : (W == W) = true := beq_self_eq_true _
    clear hrh5 h6 hl6 hb6w
    go_wp2_with (first
      | (go_at_call 25; refine hsame.mono ?_; rintro e7 w7 ⟨rfl, hd7⟩
         have k1 := conv_c (hd7.lies A6.out.2.1) TL ic AT.out.2.1
         have k2 := conv_c (hd7.lies A6.out.2.2) TL TC AT.out.2.1
         have hb7 : Below w.heap.size w w7 := A6.out.1.trans (hd7.below _)
         have hwake := awake_c w7 (AB.out.1.below hb7)
         have A7 : Aside (Below w.heap.size w w7) := hb7
         clear hsame hd7 hb7)
      | (go_at_call 13; refine hwake.mono ?_; rintro e8 w8 ⟨rfl, hb8⟩))
    go_ret
    exact ⟨rfl, by have := A7.out.trans (hb8.mono A7.out.size); rw [AB.out.2.2.2.2.2.2.2] at this; exact this⟩
  · have hbuild := build_err a2 ps L C2 w2 hr2 AB.out.2.2.1 hL2 (by have := AB.out; omega) AB.out.2.2.2.2.2.1 hz2 hck
    obtain ⟨z, hzz⟩ : ∃ z, chk ps = z := ⟨_, rfl⟩
    rw [hzz] at hbuild hck
    have h0i : ((z : Int) == 0) = false := by rw [beq_eq_false_iff_ne]; omega
    have h0n : ((z : Int) != 0) = true := by rw [bne_iff_ne]; omega
    have AE : Aside (Below H w w2 ∧ H ≤ w2.heap.size) := ⟨b2, s2⟩
    clear hr2 hz2 hL2 hck hzz b2 s2
    go_wp2_with fail
    refine hbuild.mono ?_
    rintro e3 w3 ⟨rfl, hb3⟩
    have hbw3 : Below w.heap.size w w3 := by rw [AB.out.2.2.2.2.2.2.2]; exact AE.out.1.trans (hb3.mono AE.out.2)
    have A3 : Aside (Below w.heap.size w w3 ∧ Lies w3 ta t) := ⟨hbw3, AT.out.1.below hbw3⟩
    clear hb3 hbuild hbw3
    go_upto_region 3 with (refine wpList_app0 _ rfl (.tmp 20) (.tmp 21) rfl w3 (by rfl) w3.heap.size rfl (by rfl) ta t TL TC AT.out.2.1 (by rfl) AT.out.2.2.2.2.2.1 A3.out.2 (by have := AT.out; omega) ?_; intro v4 w4 h4)
    obtain ⟨ia, ic, hv4, _⟩ := h4.shape
    rw [AT.out.2.1] at hv4
    subst hv4
    have hb4w : Below w.heap.size w w4 := A3.out.1.trans (h4.bel.mono A3.out.1.size)
    have hall := all_nil ia TL ic most w4
    have A4 : Aside (Below w.heap.size w w4) := hb4w
    clear h4 hb4w
    go_wp2_with (first
      | (go_at_call 23; refine hall.mono ?_; rintro e5 w5 ⟨rfl, hb5⟩
         have hb5w : Below w.heap.size w w5 := A4.out.trans (hb5.mono A4.out.size)
         have hwake := awake_c w5 (AB.out.1.below hb5w)
         have A5 : Aside (Below w.heap.size w w5) := hb5w
         clear hb5 hb5w hall)
      | (go_at_call 13; refine hwake.mono ?_; rintro e8 w8 ⟨rfl, hb8⟩))
    go_ret
    exact ⟨rfl, by have := A5.out.trans (hb8.mono A5.out.size); rw [AB.out.2.2.2.2.2.2.2] at this; exact this⟩
end Go.Proofs.YtkdlcdincimnkaaDoor

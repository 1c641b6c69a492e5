/-
  MatcherCaps, behind the opening of its arguments: the call answers true, and what lay in memory is as it was.
  Conditions: the library's table holds what its text lays there; the patterns and the texts lie in memory; the texts have at most 2^20 bytes each.
-/
import Derived.Test.YtkdlcdincimnkaaDoorMore
namespace Go.Proofs.YtkdlcdincimnkaaDoor
open Go.RowKit
set_option linter.unusedVariables false
set_option maxRecDepth 100000 in
set_option maxHeartbeats 8000000 in
theorem caps_core (w : World) (hT : Tab w) (a : Option Addr) (ps : List (List Nat)) (L C : Nat) (hp : Rows2 w a ps) (hL : ps.length = L) (hLC : L ≤ C) (hC : C * 24 < 140737488355328) (ho : Octs ps) (hz : a = none → C = 0)
    (ta : Option Addr) (t : List Nat) (TL TC : Nat) (ht : Lies w ta t) (hTL : t.length = TL) (hTC : TL ≤ TC) (hTb : TC < 140737488355328) (hto : Oct t) (htz : ta = none → TL = 0 ∧ TC = 0) (hfew : TL ≤ 1048576)
    (ra : Option Addr) (r : List Nat) (RL RC : Nat) (hr : Lies w ra r) (hRL : r.length = RL) (hRC : RL ≤ RC) (hro : Oct r) (hrz : ra = none → RL = 0 ∧ RC = 0) (hfewr : RL ≤ 1048576) :
    Calls Tryd.prog 8 #[.slice a L C, .slice ta TL TC, .slice ra RL RC] w fun e w' => e = .returned (.bool true) ∧ Below w.heap.size w w' := by
  obtain ⟨H, hH⟩ : ∃ H, w.heap.size = H := ⟨_, rfl⟩
  have AB : Aside (Tab w ∧ Rows2 w a ps ∧ ps.length = L ∧ L ≤ C ∧ C * 24 < 140737488355328 ∧ Octs ps ∧ (a = none → C = 0) ∧ w.heap.size = H) := ⟨hT, hp, hL, hLC, hC, ho, hz, hH⟩
  have AT : Aside (Lies w ta t ∧ t.length = TL ∧ TL ≤ TC ∧ TC < 140737488355328 ∧ Oct t ∧ (ta = none → TL = 0 ∧ TC = 0) ∧ TL ≤ 1048576) := ⟨ht, hTL, hTC, hTb, hto, htz, hfew⟩
  have AR : Aside (Lies w ra r ∧ r.length = RL ∧ RL ≤ RC ∧ Oct r ∧ (ra = none → RL = 0 ∧ RC = 0) ∧ RL ≤ 1048576) := ⟨hr, hRL, hRC, hro, hrz, hfewr⟩
  have cop := copy_c a ps L C w hp hL hLC (by omega)
  rw [hH]
  clear hT hp hL hLC hC ho hz hH ht hTL hTC hTb hto htz hfew hr hRL hRC hro hrz hfewr
  go_enter Tryd.func8, Tryd.ntmps8
  go_wp2_with fail
  refine cop.mono ?_
  rintro e2 w2 ⟨v2, rfl, hc2⟩
  obtain ⟨a2, C2, hv2, hL2, hr2, hz2⟩ := hc2.rows
  rw [AB.out.2.2.1] at hv2 hL2
  subst hv2
  have b2 : Below H w w2 := by have := hc2.bel; rw [AB.out.2.2.2.2.2.2.2] at this; exact this
  have s2 : H ≤ w2.heap.size := by have := hc2.bel.size; rw [AB.out.2.2.2.2.2.2.2] at this; exact this
  clear cop hc2
  by_cases hck : chk ps = 0
  · have hbuild := build_ok a2 ps L C2 w2 hr2 AB.out.2.2.1 hL2 (by have := AB.out; omega) AB.out.2.2.2.2.2.1 hz2 hck
    have AG : Aside (Good ps) := chk_good hck
    clear hr2 hz2 hL2 hck
    go_wp2_with fail
    refine hbuild.mono ?_
    rintro e3 w3 ⟨A, rfl, nd, G, hm3, hf3, hb3⟩
    have hbw3 : Below H w w3 := b2.trans (hb3.mono s2)
    have hb3w : Below w.heap.size w w3 := by rw [AB.out.2.2.2.2.2.2.2]; exact hbw3
    have hallG : ∀ (u : World) (xa : Option Addr) (x : List Nat) (xl xc : Nat) (most : Int), Below w3.heap.size w3 u → Lies u xa x → x.length = xl → xl ≤ 2097152 → Oct x → Calls Tryd.prog 23 #[.pointer (some ⟨A, 0, none⟩), .slice xa xl xc, .int .i64 most] u fun e w' => ∃ v, e = .returned (.tuple #[v, .bool (decide ((hitsOf ps x).length ≤ most.toNat))]) ∧ Alls u w' v ((hitsOf ps x).take most.toNat) := by
      intro u xa x xl xc most hu hx hxl hb ho
      refine all_c u (hm3.below hu) hf3 AG.out ((AB.out.1.below hb3w).below hu) xa x xl xc hx hxl (by omega) ho most (fun n h1 _ => ?_)
      have := hits_few AG.out (t := x) (by omega)
      omega
    have AL : Aside (∀ (u : World) (xa : Option Addr) (x : List Nat) (xl xc : Nat) (most : Int), Below w3.heap.size w3 u → Lies u xa x → x.length = xl → xl ≤ 2097152 → Oct x → Calls Tryd.prog 23 #[.pointer (some ⟨A, 0, none⟩), .slice xa xl xc, .int .i64 most] u fun e w' => ∃ v, e = .returned (.tuple #[v, .bool (decide ((hitsOf ps x).length ≤ most.toNat))]) ∧ Alls u w' v ((hitsOf ps x).take most.toNat)) := hallG
    have A3 : Aside (Below w.heap.size w w3 ∧ Lies w3 ta t) := ⟨hb3w, AT.out.1.below hb3w⟩
    have hall := hallG w3 ta t TL TC 1099511627776 (Below.refl _ _) A3.out.2 AT.out.2.1 (by have := AT.out; omega) AT.out.2.2.2.2.1
    have hfew := hits_few AG.out (t := t) (by have := AT.out; omega)
    rw [show (1099511627776 : Int).toNat = 1099511627776 from rfl, decide_eq_true (by omega : (hitsOf ps t).length ≤ 1099511627776), List.take_of_length_le (by omega)] at hall
    obtain ⟨X, hX⟩ : ∃ X, hitsOf ps t = X := ⟨_, rfl⟩
    obtain ⟨XL, hXL⟩ : ∃ XL, X.length = XL := ⟨_, rfl⟩
    rw [hX] at hall
    have AX : Aside (hitsOf ps t = X ∧ X.length = XL ∧ XL ≤ 134217728) := ⟨hX, hXL, by rw [← hXL, ← hX]; exact hfew⟩
    clear hbuild hm3 hf3 hb3 b2 s2 hbw3 hb3w hallG hfew hX hXL
    go_upto_region 5 with (go_at_call 23; refine hall.mono ?_; rintro e5 w5 ⟨v5, rfl, h5⟩)
    obtain ⟨la, lc, hv5, hl5, hlc, _⟩ := owns_hits h5.own
    obtain ⟨la', lc', hv5', _, _, _, hla⟩ := owns_shape h5.own
    have hla' : ∀ p : Addr, la = some p → p = ⟨p.block, 0, none⟩ := by
      rw [hv5] at hv5'; cases hv5'; exact fun p hp => (hla p hp).1
    rw [AX.out.2.1] at hv5 hlc
    subst hv5
    have A5 : Aside (Below w3.heap.size w3 w5 ∧ Hits w5 la X ∧ XL ≤ lc) := ⟨h5.bel, hl5, hlc⟩
    have AS : Aside (∀ (n : Nat) (W : World), n ≤ XL → (Instr.slice 48 (.slice la XL lc) none (some (.int .i64 (n : Int))) none).run Tryd.prog W = .ok (.slice la n lc) W) := fun n W hn => slice_hits la XL lc n W (by omega) hla'
    clear hall h5 hl5 hlc hv5' hla hla'
    go_wp2_with fail
    go_loopg [11] 9 (fun g si wr => ∃ n : Nat, si = .int .i64 n ∧ Aside (n + g = 9 ∧ n ≤ XL + 1 ∧ Below w5.heap.size w5 wr))
    case atStart => exact ⟨0, rfl, ⟨by omega, by omega, Below.refl _ _⟩⟩
    case round =>
      obtain ⟨n, rfl, hA⟩ := hrel
      by_cases hgo : n ≤ XL ∧ n < 9
      · have hn1 : (n : Int) ≤ (XL : Int) := by omega
        have hn9 : (n : Int) < 9 := by omega
        have hall := AL.out wr ta t TL TC (n : Int) (A5.out.1.trans (hA.out.2.2.mono A5.out.1.size)) ((A3.out.2.below A5.out.1).below hA.out.2.2) AT.out.2.1 (by have := AT.out; omega) AT.out.2.2.2.2.1
        rw [AX.out.1, Int.toNat_natCast, AX.out.2.1] at hall
        have hXn : (X.take n).length = n := by rw [List.length_take, AX.out.2.1]; omega
        have hsl := fun (W : World) => AS.out n W hgo.1
        have AN : Aside (n ≤ XL ∧ n < 9 ∧ (X.take n).length = n) := ⟨hgo.1, hgo.2, hXn⟩
        by_cases hnx : n = XL
        · rw [decide_eq_true (by omega : XL ≤ n)] at hall
          have hnx2 : ((n : Int) == (XL : Int)) = true := by rw [beq_iff_eq]; omega
          have hnx4 : decide (n = XL) = true := decide_eq_true hnx
          clear hnx hXn hgo
          go_wp2_with (first
            | (go_at_call 23; refine hall.mono ?_; rintro e6 w6 ⟨v6, rfl, h6⟩
               obtain ⟨xa, xc, hv6, hl6, _⟩ := owns_hits h6.own
               rw [AN.out.2.2] at hv6
               subst hv6
               have hsame := hsame_yes xa la (X.take n) n xc lc w6 AN.out.2.2 (by have := AN.out; omega) hl6 (((A5.out.2.1.below hA.out.2.2).below h6.bel).take n)
               have A6 : Aside (Below w5.heap.size w5 w6) := hA.out.2.2.trans (h6.bel.mono hA.out.2.2.size)
               clear h6 hl6 hall)
            | (go_at_call 25; refine hsame.mono ?_; rintro e7 w7 ⟨rfl, hd7⟩))
          have hn2 := AN.out; have ha2 := hA.out
          go_roundg (9 - (n + 1))
          case measure => omega
          case rel => exact ⟨n + 1, by go_num, ⟨by omega, by omega, A6.out.trans (hd7.below _)⟩⟩
        · rw [decide_eq_false (by omega : ¬ XL ≤ n)] at hall
          have hnx2 : ((n : Int) == (XL : Int)) = false := by rw [beq_eq_false_iff_ne]; omega
          have hnx4 : decide (n = XL) = false := decide_eq_false hnx
          clear hnx hXn hgo
          go_wp2_with (first
            | (go_at_call 23; refine hall.mono ?_; rintro e6 w6 ⟨v6, rfl, h6⟩
               obtain ⟨xa, xc, hv6, hl6, _⟩ := owns_hits h6.own
               rw [AN.out.2.2] at hv6
               subst hv6
               have hsame := hsame_yes xa la (X.take n) n xc lc w6 AN.out.2.2 (by have := AN.out; omega) hl6 (((A5.out.2.1.below hA.out.2.2).below h6.bel).take n)
               have A6 : Aside (Below w5.heap.size w5 w6) := hA.out.2.2.trans (h6.bel.mono hA.out.2.2.size)
               clear h6 hl6 hall)
            | (go_at_call 25; refine hsame.mono ?_; rintro e7 w7 ⟨rfl, hd7⟩))
          have hn2 := AN.out; have ha2 := hA.out
          go_roundg (9 - (n + 1))
          case measure => omega
          case rel => exact ⟨n + 1, by go_num, ⟨by omega, by omega, A6.out.trans (hd7.below _)⟩⟩
      · have hbr : Below w3.heap.size w3 wr := A5.out.1.trans (hA.out.2.2.mono A5.out.1.size)
        have hbw : Below w.heap.size w wr := A3.out.1.trans (hbr.mono A3.out.1.size)
        obtain ⟨UL, hUL⟩ : ∃ UL, TL + RL = UL := ⟨_, rfl⟩
        obtain ⟨Y, hY⟩ : ∃ Y, hitsOf ps (t ++ r) = Y := ⟨_, rfl⟩
        obtain ⟨YL, hYL⟩ : ∃ YL, Y.length = YL := ⟨_, rfl⟩
        obtain ⟨q, hq, hlate⟩ := hits_longer ps t r
        rw [hY, AX.out.1] at hq
        have hYf := hits_few AG.out (t := t ++ r) (by rw [List.length_append]; have := AT.out; have := AR.out; omega)
        rw [hY, hYL] at hYf
        have hUl : (t ++ r).length = UL := by rw [List.length_append, AT.out.2.1, AR.out.2.1, hUL]
        have hUo : Oct (t ++ r) := fun x hx => by
          rcases List.mem_append.1 hx with hx | hx
          · exact AT.out.2.2.2.2.1 x hx
          · exact AR.out.2.2.2.1 x hx
        have AZ : Aside (Below w3.heap.size w3 wr ∧ Below w.heap.size w wr ∧ Lies wr ta t ∧ Hits wr la X ∧ (t ++ r).length = UL ∧ UL ≤ 2097152 ∧ Oct (t ++ r) ∧ hitsOf ps (t ++ r) = Y ∧ Y.length = YL ∧ YL ≤ 134217728 ∧ Y = X ++ q ∧ (∀ h ∈ q, t.length < h.2) ∧ XL ≤ YL) := ⟨hbr, hbw, AT.out.1.below hbw, A5.out.2.1.below hA.out.2.2, hUl, by have := AT.out; have := AR.out; omega, hUo, hY, hYL, hYf, hq, hlate, by rw [← hYL, hq, List.length_append, AX.out.2.1]; omega⟩
        clear hbr hbw hUL hY hYL hq hlate hYf hUl hUo
        have hex : decide (n ≤ XL) = false ∨ (decide (n ≤ XL) = true ∧ decide ((n : Int) < 9) = false) := by
          by_cases h1 : n ≤ XL
          · exact Or.inr ⟨decide_eq_true h1, decide_eq_false (by omega)⟩
          · exact Or.inl (decide_eq_false h1)
        clear hgo
        rcases hex with hx1 | ⟨hx1, hx2⟩
        all_goals (
          go_upto_region 14 with (first
            | (refine wpList_app0 _ rfl (.tmp 67) (.tmp 68) rfl wr (by rfl) wr.heap.size rfl (by rfl) ta t TL TC AT.out.2.1 (by rfl) AT.out.2.2.2.2.2.1 AZ.out.2.2.1 (by have := AT.out; omega) ?_; intro v8 w8 h8
               have A8 : Aside (Apd wr w8 wr.heap.size v8 t ∧ Lies w8 ra r) := ⟨h8, AR.out.1.below (AZ.out.2.1.trans (h8.bel.mono AZ.out.2.1.size))⟩
               clear h8)
            | (refine wpList_appm wr w8 rfl (.tmp 69) (.tmp 70) rfl wr.heap.size v8 t (by rfl) A8.out.1 ra r RL RC AR.out.2.1 (by rfl) AR.out.2.2.2.2.1 A8.out.2 (by have := AT.out; have := AR.out; omega) ?_; intro v9 w9 h9
               obtain ⟨ua, uc, hv9, hl9, _⟩ := h9.shape
               rw [AZ.out.2.2.2.2.1] at hv9
               subst hv9
               have hall9 := AL.out w9 ua (t ++ r) UL uc 1099511627776 (AZ.out.1.trans (h9.bel.mono AZ.out.1.size)) hl9 AZ.out.2.2.2.2.1 AZ.out.2.2.2.2.2.1 AZ.out.2.2.2.2.2.2.1
               rw [AZ.out.2.2.2.2.2.2.2.1, show (1099511627776 : Int).toNat = 1099511627776 from rfl, decide_eq_true (by have := AZ.out; omega : Y.length ≤ 1099511627776), List.take_of_length_le (by have := AZ.out; omega)] at hall9
               have A9 : Aside (Below wr.heap.size wr w9) := h9.bel
               clear h9 hl9)
            | (go_at_call 23; refine hall9.mono ?_; rintro e10 w10 ⟨v10, rfl, h10⟩))
          obtain ⟨ya, yc, hv10, hl10, hyc, _⟩ := owns_hits h10.own
          obtain ⟨ya', yc', hv10', _, _, _, hya⟩ := owns_shape h10.own
          have hya' : ∀ p : Addr, ya = some p → p = ⟨p.block, 0, none⟩ := by
            rw [hv10] at hv10'; cases hv10'; exact fun p hp => (hya p hp).1
          rw [AZ.out.2.2.2.2.2.2.2.2.1] at hv10 hyc
          subst hv10
          have hsl := fun (W : World) => slice_hits ya YL yc XL W (by have := AZ.out; omega) hya'
          have b10 : Below wr.heap.size wr w10 := A9.out.trans (h10.bel.mono A9.out.size)
          have hYX : Y.take XL = X := by rw [AZ.out.2.2.2.2.2.2.2.2.2.2.1, ← AX.out.2.1, List.take_left]
          have hyX : Hits w10 ya X := by have := hl10.take XL; rw [hYX] at this; exact this
          have hsame := hsame_yes ya la X XL yc lc w10 AX.out.2.1 (by have := AX.out; omega) hyX (AZ.out.2.2.2.1.below b10)
          have hYXi : ¬ (YL : Int) < (XL : Int) := by have := AZ.out; omega
          have hYXd : decide ((YL : Int) < (XL : Int)) = false := decide_eq_false hYXi
          have hYXe : decide (YL < XL) = false := decide_eq_false (by omega)
          have A10 : Aside (Below w.heap.size w w10 ∧ Hits w10 ya Y) := ⟨AZ.out.2.1.trans (b10.mono AZ.out.2.1.size), hl10⟩
          clear h10 hl10 hyc hv10' hya hya' b10 hYX hyX hall9 hYXi
          go_upto_region 16 with (go_at_call 25; refine hsame.mono ?_; rintro e11 w11 ⟨rfl, hd11⟩)
          have A11 : Aside (Below w.heap.size w w11 ∧ Hits w11 ya Y) := ⟨A10.out.1.trans (hd11.below _), A10.out.2.below (hd11.below _)⟩
          clear hsame hd11 hsl hx1 hYXd hYXe A8 A9
          go_wp2_with fail
          obtain ⟨gap, hgap⟩ : ∃ gap, XL + gap = YL := ⟨YL - XL, by have := AZ.out; omega⟩
          go_loopg [16] gap (fun g si wr2 => ∃ i : Nat, si = .int .i64 i ∧ Aside (i + g = YL ∧ XL ≤ i) ∧ w11 = wr2)
          case atStart => exact ⟨XL, rfl, ⟨by omega, Nat.le_refl _⟩, rfl⟩
          case round =>
            obtain ⟨i, rfl, hI, hwi⟩ := hrel
            subst hwi
            by_cases hiY : i < YL
            · have hi : (i : Int) < (YL : Int) := by omega
              have hil : i < Y.length := by have := AZ.out; omega
              obtain ⟨h, hh⟩ : ∃ h, Y[i]? = some h := ⟨_, List.getElem?_eq_getElem hil⟩
              have hq2 : TL < h.2 := by
                have hm : h ∈ q := by
                  rw [AZ.out.2.2.2.2.2.2.2.2.2.2.1, List.getElem?_append_right (by have := AX.out; have := hI.out; omega)] at hh
                  exact List.mem_of_getElem? hh
                have := AZ.out.2.2.2.2.2.2.2.2.2.2.2.1 h hm
                have := AT.out; omega
              rcases A11.out.2 with e | ⟨yb, yo, rfl, hyc⟩
              · rw [e] at hil; simp at hil
              have c2 := (hyc i h hh).2.2
              obtain ⟨e2, he2⟩ : ∃ e2, h.2 = e2 := ⟨_, rfl⟩
              rw [he2] at c2 hq2
              have hle : ¬ (e2 : Int) ≤ (TL : Int) := by omega
              have hi2 : (i : Int) < 134217728 := by have := AZ.out; omega
              have AI : Aside (i < YL) := hiY
              clear hil hh hyc he2 hq2 hiY
              go_wp2_with fail
              have h1 := AI.out; have h2 := hI.out
              go_roundg (YL - (i + 1))
              case measure => omega
              case rel => exact ⟨i + 1, by go_num, ⟨by omega, by omega⟩, rfl⟩
            · have hi : ¬ (i : Int) < (YL : Int) := by omega
              have hwake := awake_c w11 (AB.out.1.below A11.out.1)
              clear hiY
              go_wp2_with (go_at_call 13; refine hwake.mono ?_; rintro e12 w12 ⟨rfl, hb12⟩)
              go_ret
              exact ⟨rfl, by have := A11.out.1.trans (hb12.mono A11.out.1.size); rw [AB.out.2.2.2.2.2.2.2] at this; exact this⟩)
  · have hbuild := build_err a2 ps L C2 w2 hr2 AB.out.2.2.1 hL2 (by have := AB.out; omega) AB.out.2.2.2.2.2.1 hz2 hck
    have AE : Aside (Below H w w2 ∧ H ≤ w2.heap.size) := ⟨b2, s2⟩
    clear hr2 hz2 hL2 hck b2 s2
    go_wp2_with fail
    refine hbuild.mono ?_
    rintro e3 w3 ⟨rfl, hb3⟩
    have AF : Aside (Below H w w3 ∧ H ≤ w3.heap.size) := ⟨AE.out.1.trans (hb3.mono AE.out.2), Nat.le_trans AE.out.2 hb3.size⟩
    have hwake := awake_c w3 (AB.out.1.below (by rw [AB.out.2.2.2.2.2.2.2]; exact AF.out.1))
    clear hb3 hbuild
    go_wp2_with (go_at_call 13; refine hwake.mono ?_; rintro e6 w6 ⟨rfl, hb6⟩)
    go_ret
    exact ⟨rfl, AF.out.1.trans (hb6.mono AF.out.2)⟩
end Go.Proofs.YtkdlcdincimnkaaDoor

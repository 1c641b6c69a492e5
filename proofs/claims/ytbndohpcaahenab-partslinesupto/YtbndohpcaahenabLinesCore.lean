/-
  PartsLines' walk.
-/
import Derived.Test.YtbndohpcaahenabLim
import Derived.Test.YtbndohpcaahenabCpy
import Derived.Test.YtbndohpcaahenabOpenR
import Derived.BigQuiet
import Derived.BigRegion
import Derived.Deep.CutBlock
import Derived.Deep.DeepCutAuto
namespace Go.Proofs.Ytbndohpcaahenab
open Go.RowKit
set_option linter.unusedVariables false
theorem ow_two {w : World} {lo n c : Nat} {a : Option Addr} {l : List Nat} (h : Ow w lo 5 1 (.slice a n c) n (ob l)) : l.length = n ∧ n ≤ c ∧ Lies w a l ∧ (a = none → n = 0 ∧ c = 0) := by
  obtain ⟨a', c', e, h1, h2, h3, h4⟩ := h.lies
  cases e
  exact ⟨h1, h2, h3, h4⟩
def Lr (w : World) (lo : Nat) (a : Option Addr) (ls : List (List Nat)) : Prop := ∀ u, Below lo w u → ∀ (i : Nat) l, ls[i]? = some l → ∃ g o a1 c1, a = some ⟨g, o, none⟩ ∧ u.cell? ⟨g, o + i, none⟩ = some (.slice a1 l.length c1) ∧ Lies u a1 l ∧ l.length ≤ c1 ∧ (a1 = none → l.length = 0 ∧ c1 = 0)
theorem Rl.lr {w : World} {lo : Nat} {a : Option Addr} {ls : List (List Nat)} (hx : Rl w a ls) (hlo : w.heap.size = lo) : Lr w lo a ls := fun u hu i l hl => by
  rcases hx.below (u := u) (by rw [hlo]; exact hu) with e | ⟨g, o, ha, hc⟩
  · rw [e] at hl; simp at hl
  · obtain ⟨a1, c1, k⟩ := hc i l hl
    exact ⟨g, o, a1, c1, ha, k⟩
/-- A new row of one byte. -/
theorem one_lies (w : World) (K y : Nat) (hK : w.heap.size = K) : ob [y] = [] ∨ ∃ b o, (some ⟨K, 0, none⟩ : Option Addr) = some ⟨b, o, none⟩ ∧ ∀ (i : Nat) u, (ob [y])[i]? = some u → (w.alloc (.cells #[.int .u8 (y : Int)] 5)).cell? ⟨b, o + i, none⟩ = some u := Or.inr ⟨K, 0, rfl, fun i u hu => by
  have kn : Cells (w.alloc (.cells #[.int .u8 (y : Int)] 5)) K #[.int .u8 (y : Int)] 5 := by rw [← hK]; exact Cells.new w _ 5
  rw [Nat.zero_add, kn.cell]
  cases i with
  | zero => simpa [ob] using hu
  | succ i => simp [ob] at hu⟩
set_option maxRecDepth 40000 in
set_option maxHeartbeats 8000000 in
theorem lines_core (w : World) (a : Option Addr) (ls : List (List Nat)) (N C : Nat) (b : List Nat) (hx : Rl w a ls) (hN : ls.length = N) (hNb : N ≤ 2000000) (hol : ∀ l ∈ ls, Oct l) (hsum : (ls.map List.length).sum ≤ 2000000) (hob : Oct b) (hb : b.length ≤ 2000000) :
    Calls Try.prog 3 #[.slice a N C, .string (st b)] w fun e w' => e = .returned (.bool true) ∧ Below w.heap.size w w' := by
  obtain ⟨lo, hlo⟩ : ∃ lo, w.heap.size = lo := ⟨_, rfl⟩
  rw [hlo]
  obtain ⟨Q, hQ⟩ : ∃ Q, min N 60 = Q := ⟨_, rfl⟩
  obtain ⟨PL, hPL⟩ : ∃ PL, (ls.take Q).map pl = PL := ⟨_, rfl⟩
  have hPn : PL.length = Q := by rw [← hPL, List.length_map, List.length_take]; omega
  have hPo : ∀ p ∈ PL, Oct p ∧ 10 ∉ p ∧ 13 ∉ p := by
    intro p hp
    rw [← hPL] at hp
    obtain ⟨l, hl, rfl⟩ := List.mem_map.1 hp
    exact ⟨pl_oct (hol l (List.mem_of_mem_take hl)), pl_no l⟩
  have hPs : (PL.map List.length).sum ≤ 2000000 := by rw [← hPL]; exact Nat.le_trans (sum_pl ls Q) hsum
  have hPi : ∀ (i : Nat) l, i < Q → ls[i]? = some l → PL[i]? = some (pl l) := by
    intro i l hi hl
    rw [← hPL, List.getElem?_map, List.getElem?_take, if_pos hi, hl]
    rfl
  have hll : ∀ (i : Nat) l, ls[i]? = some l → l.length ≤ 2000000 := fun i l hl => Nat.le_trans (len_sum (List.mem_of_getElem? hl)) hsum
  have hW : vd b = true → (wri (dd b) PL).length ≤ 100000000 := by
    intro hv
    rw [wri_sum, hPn]
    have e : (dd b).length = b.length + 2 := rfl
    have h70 := (vd_len hv).2
    have h6 : Q * ((dd b).length + 4) ≤ Q * 76 := Nat.mul_le_mul_left _ (by omega)
    omega
  obtain ⟨sb, hsb⟩ : ∃ sb, st b = sb := ⟨_, rfl⟩
  rw [hsb]
  have AZ : Aside (Lr w lo a ls ∧ ls.length = N ∧ N ≤ 2000000 ∧ w.heap.size = lo ∧ min N 60 = Q ∧ Q ≤ 60 ∧ PL.length = Q ∧ (∀ p ∈ PL, Oct p ∧ 10 ∉ p ∧ 13 ∉ p) ∧ (∀ (i : Nat) l, i < Q → ls[i]? = some l → PL[i]? = some (pl l)) ∧ (∀ (i : Nat) l, ls[i]? = some l → l.length ≤ 2000000)) := ⟨hx.lr hlo, hN, hNb, hlo, hQ, by omega, hPn, hPo, hPi, hll⟩
  have AB : Aside (st b = sb ∧ Oct b ∧ b.length ≤ 2000000 ∧ (vd b = true → (wri (dd b) PL).length ≤ 100000000)) := ⟨hsb, hob, hb, hW⟩
  obtain ⟨i5, hi5, hz50, hz51, hz52⟩ := ginfo_parts ginfo5
  obtain ⟨i22, hi22, hz220, hz221, hz222⟩ := ginfo_parts ginfo22
  have AI : Aside (Try.prog.info? 5 = some i5 ∧ i5.zero = some (.int .u8 0) ∧ i5.size = 1 ∧ i5.bytes = 1) := ⟨hi5, hz50, hz51, hz52⟩
  have AJ : Aside (Try.prog.info? 23 = some i22 ∧ i22.zero = some (.slice none 0 0) ∧ i22.size = 1 ∧ i22.bytes = 24) := ⟨hi22, hz220, hz221, hz222⟩
  clear hx hN hNb hol hsum hob hb hlo hQ hPL hPn hPo hPs hPi hll hW hsb hi5 hz50 hz51 hz52 hi22 hz220 hz221 hz222
  go_enter Try.func3, Try.ntmps3
  go_wp2_with fail
  go_loopg [5, 6, 7, 8] Q (fun gg s5 s6 s7 s8 wr => ∃ (i : Nat) (va : Option Addr) (cv' : Nat), s5 = .slice va i cv' ∧ s6 = .int .i64 (i : Int) ∧ Aside (i + gg = Q ∧ Lq wr lo (.slice va i cv') (PL.take i) ∧ Below lo w wr))
  case atStart => exact ⟨0, none, 0, rfl, rfl, ⟨by omega, Lq.nil (by have := AZ.out.2.2.2.1; omega), Below.refl _ _⟩⟩
  case round =>
    obtain ⟨i, va, cv', rfl, rfl, hT⟩ := hrel
    obtain ⟨hig, hlq, hbel⟩ := hT.out
    have az := AZ.out
    have A3 : Aside (i + gk = Q ∧ Lq wr lo (.slice va i cv') (PL.take i) ∧ Below lo w wr ∧ lo ≤ wr.heap.size) := ⟨hig, hlq, hbel, by have := hbel.size; omega⟩
    obtain ⟨tb, htb⟩ : ∃ tb, decide (i < Q) = tb := ⟨_, rfl⟩
    have AT : Aside (decide (i < Q) = tb) := htb
    have hQ := az.2.2.2.2.1
    clear hT hig hlq hbel
    go_upto_region 3 with fail
    go_cut [23] from 16 to 66 (fun s23 wc => s23 = .bool tb ∧ wc = wr)
    case first =>
      by_cases hl : i < N
      · have t1 : ((i : Int) < (N : Int)) = True := eq_true (by omega)
        have t2 : (i < N) = True := eq_true hl
        by_cases h60 : i < 60
        · have t3 : ((i : Int) < 60) = True := eq_true (by omega)
          have t4 : (i < 60) = True := eq_true h60
          have : tb = true := by rw [← htb, decide_eq_true_eq]; omega
          subst this
          clear htb hl h60 hQ az
          go_wp2_with fail
          go_meet
          exact ⟨rfl, rfl⟩
        · have t3 : ((i : Int) < 60) = False := eq_false (by omega)
          have t4 : (i < 60) = False := eq_false h60
          have : tb = false := by rw [← htb, decide_eq_false_iff_not]; omega
          subst this
          clear htb hl h60 hQ az
          go_wp2_with fail
          go_meet
          exact ⟨rfl, rfl⟩
      · have t1 : ((i : Int) < (N : Int)) = False := eq_false (by omega)
        have t2 : (i < N) = False := eq_false hl
        have : tb = false := by rw [← htb, decide_eq_false_iff_not]; omega
        subst this
        clear htb hl hQ az
        go_wp2_with fail
        go_meet
        exact ⟨rfl, rfl⟩
    case rest =>
      clear htb az hQ
      obtain ⟨rfl, hwc⟩ := hcut
      have hwc := hwc.symm
      subst hwc
      cases tb with
      | true =>
        have hiQ : i < Q := of_decide_eq_true AT.out
        have az := AZ.out
        have hQ := az.2.2.2.2.1
        have t1 : ((i : Int) < (N : Int)) = True := eq_true (by omega)
        have t2 : (i < N) = True := eq_true (by omega)
        have bi : (i : Int) < 200000000 := by omega
        obtain ⟨x, hx⟩ : ∃ x, ls[i]? = some x := ⟨_, List.getElem?_eq_getElem (by omega)⟩
        obtain ⟨q, hq⟩ : ∃ q, x.length = q := ⟨_, rfl⟩
        have hqb : q ≤ 2000000 := by rw [← hq]; exact az.2.2.2.2.2.2.2.2.2 i x hx
        have hpl := az.2.2.2.2.2.2.2.2.1 i x hiQ hx
        obtain ⟨g, o, a1, c1, rfl, cp0, lp0, _⟩ := az.1 wr A3.out.2.2.1 i x hx
        rw [hq] at cp0
        obtain ⟨lo2, hlo2⟩ : ∃ lo2, wr.heap.size = lo2 := ⟨_, rfl⟩
        have hg : g < lo2 := by rw [← hlo2]; exact World.block_lt_of_cell? wr ⟨g, o + i, none⟩ cp0
        have AC : Aside (∀ u, Below lo2 wr u → u.cell? ⟨g, o + i, none⟩ = some (.slice a1 q c1) ∧ Lies u a1 x) := fun u hu => ⟨(hu.cell (p := ⟨g, o + i, none⟩) hg).trans cp0, lp0.below (by rw [hlo2]; exact hu)⟩
        have A4 : Aside (i < Q ∧ Q ≤ 60 ∧ x.length = q ∧ q ≤ 2000000 ∧ PL[i]? = some (pl x) ∧ wr.heap.size = lo2) := ⟨hiQ, az.2.2.2.2.2.1, hq, hqb, hpl, hlo2⟩
        obtain ⟨W1, hW1⟩ : ∃ W1, W1 = wr := ⟨_, rfl⟩
        subst hW1
        obtain ⟨G, hG⟩ : ∃ G, G = gk := ⟨_, rfl⟩
        subst hG
        clear hiQ az hQ hx hq hqb hpl cp0 lp0 hlo2 hg
        go_upto_region 6 with fail
        go_wp2_with fail
        go_loopg [7, 8] q (fun gg s7 s8 wr => ∃ (k : Nat) (vp : Option Addr) (n cp : Nat), s7 = .slice vp n cp ∧ s8 = .int .i64 (k : Int) ∧ Aside (k + gg = q ∧ Ow wr lo2 5 1 (.slice vp n cp) n (ob (pl (x.take k))) ∧ Below lo2 W1 wr))
        case atStart => exact ⟨0, none, 0, 0, rfl, rfl, ⟨by omega, Ow.nil (by have := A4.out.2.2.2.2.2; omega), Below.refl _ _⟩⟩
        case round =>
          obtain ⟨k, vp, n, cp, rfl, rfl, hT⟩ := hrel
          obtain ⟨hkg, how, hbel⟩ := hT.out
          have a4 := A4.out
          have ccell := (AC.out wr hbel).1
          by_cases hk : k < q
          · have t3 : ((k : Int) < (q : Int)) = True := eq_true (by omega)
            have t4 : (k < q) = True := eq_true hk
            have bk : (k : Int) < 200000000 := by omega
            obtain ⟨y, hy⟩ : ∃ y, x[k]? = some y := ⟨_, List.getElem?_eq_getElem (by omega)⟩
            obtain ⟨gx, ox, hax, hcx⟩ : ∃ gx ox, a1 = some ⟨gx, ox, none⟩ ∧ wr.cell? ⟨gx, ox + k, none⟩ = some (.int .u8 (y : Int)) := by
              rcases (AC.out wr hbel).2 with e | ⟨g1, o1, e, hc⟩
              · rw [e] at hy; simp at hy
              · exact ⟨g1, o1, e, hc k y hy⟩
            subst hax
            have hnlen := ow_two how
            have hnb : n ≤ 2000000 := by
              have h1 := pl_len (x.take k)
              rw [List.length_take] at h1
              omega
            obtain ⟨kb, hkb⟩ : ∃ kb, (decide (y ≠ 10) && decide (y ≠ 13)) = kb := ⟨_, rfl⟩
            have A5 : Aside (k + gk = q ∧ k < q ∧ Ow wr lo2 5 1 (.slice vp n cp) n (ob (pl (x.take k))) ∧ Below lo2 W1 wr ∧ n ≤ 2000000 ∧ x[k]? = some y ∧ (decide (y ≠ 10) && decide (y ≠ 13)) = kb) := ⟨hkg, hk, how, hbel, hnb, hy, hkb⟩
            clear hT hkg how hbel a4 hk hy hnlen hnb
            go_upto_region 9 with fail
            go_cut [52] from 26 to 62 (fun s52 wc => s52 = .bool kb ∧ wc = wr)
            case first =>
              by_cases h10 : y = 10
              · have s1 : ((y : Int) != 10) = false := by rw [bne_eq_false_iff_eq]; omega
                have s2 : ((y : Int) == 10) = true := by rw [beq_iff_eq]; omega
                have : kb = false := by rw [← hkb]; simp [h10]
                subst this
                clear hkb h10
                go_wp2_with fail
                go_meet
                exact ⟨rfl, rfl⟩
              · have s1 : ((y : Int) != 10) = true := by rw [bne_iff_ne]; omega
                have s2 : ((y : Int) == 10) = false := by rw [beq_eq_false_iff_ne]; omega
                by_cases h13 : y = 13
                · have s3 : ((y : Int) != 13) = false := by rw [bne_eq_false_iff_eq]; omega
                  have s4 : ((y : Int) == 13) = true := by rw [beq_iff_eq]; omega
                  have : kb = false := by rw [← hkb]; simp [h13]
                  subst this
                  clear hkb h10 h13
                  go_wp2_with fail
                  go_meet
                  exact ⟨rfl, rfl⟩
                · have s3 : ((y : Int) != 13) = true := by rw [bne_iff_ne]; omega
                  have s4 : ((y : Int) == 13) = false := by rw [beq_eq_false_iff_ne]; omega
                  have : kb = true := by rw [← hkb]; simp [h10, h13]
                  subst this
                  clear hkb h10 h13
                  go_wp2_with fail
                  go_meet
                  exact ⟨rfl, rfl⟩
            case rest =>
              clear hkb
              obtain ⟨rfl, hwc⟩ := hcut
              have hwc := hwc.symm
              subst hwc
              cases kb with
              | true =>
                obtain ⟨K, hK⟩ : ∃ K, wr.heap.size = K := ⟨_, rfl⟩
                have hl2 := one_lies wr K y hK
                have b0 : Below wr.heap.size wr (wr.alloc (.cells #[.int .u8 (y : Int)] 5)) := (Below.refl _ wr).alloc (Nat.le_refl _) _
                have how1 := A5.out.2.2.1.below b0 (Nat.le_refl _)
                have A6 : Aside (Below lo2 W1 (wr.alloc (.cells #[.int .u8 (y : Int)] 5)) ∧ pl (x.take (k + 1)) = pl (x.take k) ++ [y]) := ⟨A5.out.2.2.2.1.trans (b0.mono A5.out.2.2.1.le), by
                  have h := A5.out.2.2.2.2.2.2
                  rw [Bool.and_eq_true, decide_eq_true_eq, decide_eq_true_eq] at h
                  exact pl_yes A5.out.2.2.2.2.2.1 h.1 h.2⟩
                clear b0
                go_upto_region 8 with (at_builtin; refine wpList_ow Try.prog _ rfl (.tmp 53) (.tmp 61) 23 rfl 5 i5 _ 1 1 Try.underlying23 AI.out.1 AI.out.2.1 AI.out.2.2.1 AI.out.2.2.2 rfl (by decide) lo2 (.slice vp n cp) n _ (by rfl) how1 (some ⟨K, 0, none⟩) (ob [y]) 1 1 rfl (by rfl) (fun h => by cases h) hl2 ob_one (by have := A5.out.2.2.2.2.1; unfold maxLen; omega) (by have := A5.out.2.2.2.2.1; omega) ?_; intro v7' w7 hg7; obtain ⟨v7, c7, hv7, _⟩ := hg7.ow.shape; subst hv7)
                have A7 : Aside (Ow w7 lo2 5 1 (.slice v7 (n + 1) c7) (n + 1) (ob (pl (x.take (k + 1)))) ∧ Below lo2 W1 w7) := ⟨by have := hg7.ow; rw [ob_append, ← A6.out.2] at this; exact this, A6.out.1.trans hg7.bel⟩
                clear hg7 how1 hl2 hK ccell hcx
                go_wp2_with fail
                have a5 := A5.out
                go_roundg (gk - 1)
                case measure => omega
                case rel => exact ⟨k + 1, v7, n + 1, c7, rfl, by go_num, ⟨by omega, A7.out.1, A7.out.2⟩⟩
              | false =>
                have A6 : Aside (pl (x.take (k + 1)) = pl (x.take k)) := by
                  have h := A5.out.2.2.2.2.2.2
                  refine pl_not A5.out.2.2.2.2.2.1 ?_
                  by_cases h10 : y = 10
                  · exact Or.inl h10
                  · right
                    simpa [h10] using h
                clear ccell hcx
                go_wp2_with fail
                have a5 := A5.out
                go_roundg (gk - 1)
                case measure => omega
                case rel => exact ⟨k + 1, vp, n, cp, rfl, by go_num, ⟨by omega, by rw [A6.out]; exact a5.2.2.1, a5.2.2.2.1⟩⟩
          · have t3 : ((k : Int) < (q : Int)) = False := eq_false (by omega)
            have t4 : (k < q) = False := eq_false hk
            have hkq : x.take k = x := List.take_of_length_le (by omega)
            rw [hkq] at how
            have hnlen := ow_two how
            obtain ⟨K, hK⟩ : ∃ K, wr.heap.size = K := ⟨_, rfl⟩
            obtain ⟨vs, hv1, hv2, hv3⟩ := A3.out.2.1.ex
            have hti : (PL.take i).length = i := by rw [List.length_take]; have := AZ.out.2.2.2.2.2.2.1; omega
            rw [hti] at hv1 hv2
            have ba : Below wr.heap.size wr (wr.alloc (.cells #[.slice vp n cp] 23)) := (Below.refl _ wr).alloc (Nat.le_refl _) _
            have hlw : lo2 ≤ wr.heap.size := how.le
            have b2 : Below lo2 W1 (wr.alloc (.cells #[.slice vp n cp] 23)) := hbel.trans (ba.mono hlw)
            have hsz := a4.2.2.2.2.2
            have how9 : Ow (wr.alloc (.cells #[.slice vp n cp] 23)) lo 23 1 (.slice va i cv') i vs := hv2.below b2 (by omega)
            have hc9 : (wr.alloc (.cells #[.slice vp n cp] 23)).cell? ⟨K, 0, none⟩ = some (.slice vp n cp) := by rw [← hK, (Cells.new wr _ 23).cell]; rfl
            have A5 : Aside (∀ u' v', Got lo 23 1 (wr.alloc (.cells #[.slice vp n cp] 23)) u' (.slice va i cv') v' (i + 1) (vs ++ [.slice vp n cp]) → Lq u' lo v' (PL.take (i + 1))) := by
              intro u' v' hg2
              have e : PL.take (i + 1) = PL.take i ++ [pl x] := by rw [List.take_add_one, a4.2.2.2.2.1]; rfl
              rw [e]
              refine Lq.push (w := W1) (u := wr.alloc (.cells #[.slice vp n cp] 23)) (x := .slice vp n cp) (vs := vs) (by omega) hv3 (by rw [hsz]; exact b2) ?_ (by rw [hti]; exact hg2)
              rw [hnlen.1]
              exact (how.below ba (Nat.le_refl _)).lower (by have := A3.out.2.2.2; omega)
            have A6 : Aside (Below lo w (wr.alloc (.cells #[.slice vp n cp] 23)) ∧ i ≤ 60) := ⟨A3.out.2.2.1.trans (b2.mono (by have := A3.out.2.2.2; omega)), by omega⟩
            clear hT hkg how hbel a4 hk hkq hnlen hv1 hv2 hv3 hti ba hlw b2 hsz
            go_upto_region 4 with (at_builtin; refine wpList_ow Try.prog _ rfl (.tmp 63) (.tmp 65) 22 rfl 23 i22 _ 1 24 Try.underlying22 AJ.out.1 AJ.out.2.1 AJ.out.2.2.1 AJ.out.2.2.2 rfl (by decide) lo (.slice va i cv') i _ (by rfl) how9 (some ⟨K, 0, none⟩) [.slice vp n cp] 1 1 rfl (by rfl) (fun h => by cases h) (Or.inr ⟨K, 0, rfl, fun j u hj => by cases j with | zero => (simp at hj; rw [← hj]; exact hc9) | succ j => simp at hj⟩) (fun u hu => by simp at hu; rw [hu]; rfl) (by have := A6.out.2; unfold maxLen; omega) (by have := A6.out.2; omega) ?_; intro v6' w6 hg6; obtain ⟨v6, c6, hv6, _⟩ := hg6.ow.shape; subst hv6)
            have A7 : Aside (Lq w6 lo (.slice v6 (i + 1) c6) (PL.take (i + 1)) ∧ Below lo w w6) := ⟨A5.out _ _ hg6, A6.out.1.trans hg6.bel⟩
            clear hg6 how9 hc9 hK ccell
            go_wp2_with fail
            have a3 := A3.out
            have a4 := A4.out
            go_roundg (G - 1)
            case measure => omega
            case rel => exact ⟨i + 1, v6, c6, rfl, by go_num, ⟨by omega, A7.out.1, A7.out.2⟩⟩
      | false =>
        have hiQ : ¬ i < Q := of_decide_eq_false AT.out
        have az := AZ.out
        have a3 := A3.out
        have ab := AB.out
        have hiQ2 : i = Q := by omega
        have hlq := a3.2.1
        have htk : PL.take i = PL := List.take_of_length_le (by omega)
        rw [htk] at hlq
        have hrl := hlq.rl (by omega)
        have hwr := write_c b ab.2.1 (by omega) va PL i cv' (by omega) wr hrl (fun p hp => (az.2.2.2.2.2.2.2.1 p hp).1) ab.2.2.2
        have hok : (wv b PL).1 = true → vd b = true ∧ (∀ p ∈ PL, hs (dd b) [] p = false) ∧ (wv b PL).2 = wri (dd b) PL := by
          unfold wv
          split
          · rename_i h; intro _; exact ⟨h.1, h.2, rfl⟩
          · intro h; cases h
        obtain ⟨⟨ok, lx⟩, hwv⟩ : ∃ r, wv b PL = r := ⟨_, rfl⟩
        rw [hwv] at hwr hok
        dsimp only at hwr hok
        rw [ab.1] at hwr
        have A4 : Aside (Rl wr va PL ∧ PL.length = i ∧ Below lo w wr ∧ lo ≤ wr.heap.size ∧ i ≤ 60 ∧ (ok = true → vd b = true ∧ (∀ p ∈ PL, hs (dd b) [] p = false) ∧ lx = wri (dd b) PL)) := ⟨hrl, by omega, a3.2.2.1, a3.2.2.2, by omega, hok⟩
        clear hiQ az a3 ab hiQ2 hlq htk hrl hok hwv
        go_upto_region 13 with (go_at_call 4; refine hwr.mono ?_; rintro e1 w1 ⟨xa, nx, xc, rfl, ox, hnx, bx⟩; have hnxA : Aside (nx = lx.length) := hnx; clear hnx)
        have a4 := A4.out
        have hx2 := ow_two ox
        have bw1 : Below lo w w1 := a4.2.2.1.trans (bx.mono a4.2.2.2.1)
        obtain ⟨lo3, hlo3⟩ : ∃ lo3, w1.heap.size = lo3 := ⟨_, rfl⟩
        have A5 : Aside (Below lo w w1 ∧ Rl w1 va PL ∧ w1.heap.size = lo3 ∧ lo ≤ lo3) := ⟨bw1, a4.1.below bx, hlo3, by have := bw1.size; have := AZ.out.2.2.2.1; omega⟩
        have A6 : Aside (Lies w1 xa lx ∧ lx.length = nx) := ⟨hx2.2.2.1, hx2.1⟩
        clear a4 hx2 ox bx bw1 hwr hlo3
        cases ok with
        | false =>
          have hawk := awake_c w1
          go_wp2_with (go_at_call 5; refine hawk.mono ?_; rintro e6 w6 ⟨rfl, b6⟩)
          first | go_ret | go_ret2
          have a5 := A5.out
          exact ⟨rfl, a5.1.trans (b6.mono (by omega))⟩
        | true =>
          obtain ⟨hvd, hhs, hlx0⟩ := A4.out.2.2.2.2.2 rfl
          have hW := AB.out.2.2.2 hvd
          rw [← hlx0, A6.out.2] at hW
          have AV : Aside (vd b = true ∧ (∀ p ∈ PL, hs (dd b) [] p = false) ∧ lx = wri (dd b) PL ∧ nx ≤ 100000000) := ⟨hvd, hhs, hlx0, hW⟩
          clear hvd hhs hlx0 hW
          go_upto_region 16 with fail
          go_wp2_with fail
          go_loopg [11, 12] nx (fun gg s11 s12 wr => ∃ (k : Nat) (vp : Option Addr) (n cp : Nat), s11 = .slice vp n cp ∧ s12 = .int .i64 (k : Int) ∧ Aside (k + gg = nx ∧ Ow wr lo3 5 1 (.slice vp n cp) n (ob (nr (lx.take k))) ∧ Below lo3 w1 wr))
          case atStart => exact ⟨0, none, 0, 0, rfl, rfl, ⟨by omega, Ow.nil (by have := A5.out.2.2.1; omega), Below.refl _ _⟩⟩
          case round =>
            obtain ⟨k, vp, n, cp, rfl, rfl, hT⟩ := hrel
            obtain ⟨hkg, how, hbel⟩ := hT.out
            have hnlen := ow_two how
            have av := AV.out
            have a6 := A6.out
            by_cases hk : k < nx
            · have t3 : ((k : Int) < (nx : Int)) = True := eq_true (by omega)
              have t4 : (k < nx) = True := eq_true hk
              have bk : (k : Int) < 200000000 := by omega
              obtain ⟨y, hy⟩ : ∃ y, lx[k]? = some y := ⟨_, List.getElem?_eq_getElem (by omega)⟩
              obtain ⟨gx, ox, hax, hcx⟩ : ∃ gx ox, xa = some ⟨gx, ox, none⟩ ∧ wr.cell? ⟨gx, ox + k, none⟩ = some (.int .u8 (y : Int)) := by
                rcases a6.1.below (by rw [A5.out.2.2.1]; exact hbel) with e | ⟨g1, o1, e, hc⟩
                · rw [e] at hy; simp at hy
                · exact ⟨g1, o1, e, hc k y hy⟩
              subst hax
              have hnb : n ≤ 100000000 := by
                have h1 := nr_len (lx.take k)
                rw [List.length_take] at h1
                omega
              have A7 : Aside (k + gk = nx ∧ k < nx ∧ Ow wr lo3 5 1 (.slice vp n cp) n (ob (nr (lx.take k))) ∧ Below lo3 w1 wr ∧ n ≤ 100000000 ∧ lx[k]? = some y) := ⟨hkg, hk, how, hbel, hnb, hy⟩
              clear hT hkg how hbel av a6 hk hnlen hnb hy
              by_cases h13 : y = 13
              · have s3 : ((y : Int) != 13) = false := by rw [bne_eq_false_iff_eq]; omega
                have s4 : ((y : Int) == 13) = true := by rw [beq_iff_eq]; omega
                have A8 : Aside (nr (lx.take (k + 1)) = nr (lx.take k)) := nr_not (by rw [← h13]; exact A7.out.2.2.2.2.2)
                clear h13
                go_wp2_with fail
                have a7 := A7.out
                go_roundg (gk - 1)
                case measure => omega
                case rel => exact ⟨k + 1, vp, n, cp, rfl, by go_num, ⟨by omega, by rw [A8.out]; exact a7.2.2.1, a7.2.2.2.1⟩⟩
              · have s3 : ((y : Int) != 13) = true := by rw [bne_iff_ne]; omega
                have s4 : ((y : Int) == 13) = false := by rw [beq_eq_false_iff_ne]; omega
                obtain ⟨K, hK⟩ : ∃ K, wr.heap.size = K := ⟨_, rfl⟩
                have hl2 := one_lies wr K y hK
                have b0 : Below wr.heap.size wr (wr.alloc (.cells #[.int .u8 (y : Int)] 5)) := (Below.refl _ wr).alloc (Nat.le_refl _) _
                have how1 := A7.out.2.2.1.below b0 (Nat.le_refl _)
                have A8 : Aside (Below lo3 w1 (wr.alloc (.cells #[.int .u8 (y : Int)] 5)) ∧ nr (lx.take (k + 1)) = nr (lx.take k) ++ [y]) := ⟨A7.out.2.2.2.1.trans (b0.mono A7.out.2.2.1.le), nr_yes A7.out.2.2.2.2.2 h13⟩
                clear b0 h13
                go_upto_region 18 with (at_builtin; refine wpList_ow Try.prog _ rfl (.tmp 87) (.tmp 92) 23 rfl 5 i5 _ 1 1 Try.underlying23 AI.out.1 AI.out.2.1 AI.out.2.2.1 AI.out.2.2.2 rfl (by decide) lo3 (.slice vp n cp) n _ (by rfl) how1 (some ⟨K, 0, none⟩) (ob [y]) 1 1 rfl (by rfl) (fun h => by cases h) hl2 ob_one (by have := A7.out.2.2.2.2.1; unfold maxLen; omega) (by have := A7.out.2.2.2.2.1; omega) ?_; intro v7' w7 hg7; obtain ⟨v7, c7, hv7, _⟩ := hg7.ow.shape; subst hv7)
                have A9 : Aside (Ow w7 lo3 5 1 (.slice v7 (n + 1) c7) (n + 1) (ob (nr (lx.take (k + 1)))) ∧ Below lo3 w1 w7) := ⟨by have := hg7.ow; rw [ob_append, ← A8.out.2] at this; exact this, A8.out.1.trans hg7.bel⟩
                clear hg7 how1 hl2 hK hcx
                go_wp2_with fail
                have a7 := A7.out
                go_roundg (gk - 1)
                case measure => omega
                case rel => exact ⟨k + 1, v7, n + 1, c7, rfl, by go_num, ⟨by omega, A9.out.1, A9.out.2⟩⟩
            · have t3 : ((k : Int) < (nx : Int)) = False := eq_false (by omega)
              have t4 : (k < nx) = False := eq_false hk
              have htk : lx.take k = lx := List.take_of_length_le (by omega)
              rw [htk] at hnlen
              have az := AZ.out
              have hbd := vd_bd av.1 AB.out.2.1
              have hnr : nr lx = wrj (dd b) PL := by rw [av.2.2.1]; exact nr_wri hbd.no13 PL (fun p hp => (az.2.2.2.2.2.2.2.1 p hp).2.2)
              have hback := wrj_back hbd PL (fun p hp => ⟨av.2.1 p hp, (az.2.2.2.2.2.2.2.1 p hp).1, (az.2.2.2.2.2.2.2.1 p hp).2⟩)
              rw [← hnr] at hback
              have hlxo : Oct (nr lx) := by
                rw [av.2.2.1]
                refine nr_oct ?_
                intro x hx
                exact wri_lt hbd.oct PL (fun p hp => (az.2.2.2.2.2.2.2.1 p hp).1) x hx
              have hnb : n ≤ 100000000 := by
                have h1 := nr_len lx
                omega
              have hwh := whole_c b AB.out.2.1 av.1 vp (nr lx) n cp hnlen.1 hnb hlxo wr hnlen.2.2.1
              rw [hback.1, hback.2, AB.out.1] at hwh
              have hwh2 : Calls Try.prog 6 #[.slice vp n cp, .string sb] wr fun e w' => Wr wr.heap.size wr PL 0 e w' := hwh
              have a5 := A5.out
              have bwr : Below lo w wr := a5.1.trans (hbel.mono a5.2.2.2)
              have A8 : Aside (Below lo w wr ∧ lo ≤ wr.heap.size ∧ Rl wr va PL) := ⟨bwr, by have := bwr.size; omega, a5.2.1.below (by rw [a5.2.2.1]; exact hbel)⟩
              clear hT hkg how hbel hnlen av a6 hk htk az hbd hnr hback hlxo hnb hwh a5 bwr
              go_upto_region 22 with (go_at_call 6; refine hwh2.mono ?_; rintro e7 w7 ⟨a7, n7, c7, rfl, l7, hn7, b7⟩; have hn7A : Aside (n7 = PL.length) := hn7; clear hn7)
              have a8 := A8.out
              have a4 := A4.out
              have hnN : n7 = i := hn7A.out.trans a4.2.1
              subst hnN
              have bw7 : Below lo w w7 := a8.1.trans (b7.mono a8.2.1)
              have hrw := rows_c w7 a7 va PL n7 c7 cv' a4.2.1 (by omega) (l7.rl hn7A.out) (a8.2.2.below b7) (fun p hp => (AZ.out.2.2.2.2.2.2.2.1 p hp).1)
              have A9 : Aside (Below lo w w7) := bw7
              clear a8 a4 bw7 b7 l7 hwh2 hn7A
              go_wp2_with (first | (go_at_call 7; refine hrw.mono ?_; rintro e8 w8 ⟨rfl, m8, hm8⟩; have hm8A : Aside (w8 = w7.drewN m8) := hm8; clear hm8; have hawk := awake_c w8) | (go_at_call 5; refine hawk.mono ?_; rintro e9 w9 ⟨rfl, b9⟩))
              first | go_ret | go_ret2
              have bw8 : Below lo w w8 := by rw [hm8A.out]; exact Below.drewN2 A9.out _
              exact ⟨rfl, bw8.trans (b9.mono (by have := bw8.size; have := AZ.out.2.2.2.1; omega))⟩
end Go.Proofs.Ytbndohpcaahenab

/-
  PartsEnds' walk.
-/
import Derived.Test.YtbndohpcaahenaaEna
import Derived.Test.YtbndohpcaahenaaWrt
import Derived.Test.YtbndohpcaahenaaCut
import Derived.BigQuiet
import Derived.BigRegion
import Derived.Deep.CutBlock
import Derived.Deep.DeepCutAuto
namespace Go.Proofs.Ytbndohpcaahenaa
open Go.RowKit
set_option linter.unusedVariables false
theorem ow_two {w : World} {lo n c : Nat} {a : Option Addr} {l : List Nat} (h : Ow w lo 5 1 (.slice a n c) n (ob l)) : l.length = n ∧ n ≤ c ∧ Lies w a l ∧ (a = none → n = 0 ∧ c = 0) := by
  obtain ⟨a', c', e, h1, h2, h3, h4⟩ := h.lies
  cases e
  exact ⟨h1, h2, h3, h4⟩
theorem slice_to (b o L C k : Nat) (h1 : k ≤ C) (W : World) : (Instr.slice 22 (.slice (some ⟨b, o, none⟩) L C) none (some (.int .i64 (k : Int))) none).run Try.prog W = .ok (.slice (some ⟨b, o, none⟩) k C) W := by
  have hk1 : (k : Int) ≤ (C : Int) := by omega
  have hk0 : (0 : Int) ≤ (k : Int) := by omega
  clear h1
  go_simp
/-- Parts as they lie, in every world that keeps them. -/
def Lr (w : World) (lo : Nat) (a : Option Addr) (ls : List (List Nat)) : Prop := ∀ u, Below lo w u → ∀ (i : Nat) l, ls[i]? = some l → ∃ g o a1 c1, a = some ⟨g, o, none⟩ ∧ u.cell? ⟨g, o + i, none⟩ = some (.slice a1 l.length c1) ∧ Lies u a1 l ∧ l.length ≤ c1 ∧ (a1 = none → l.length = 0 ∧ c1 = 0)
theorem Rl.lr {w : World} {lo : Nat} {a : Option Addr} {ls : List (List Nat)} (hx : Rl w a ls) (hlo : w.heap.size = lo) : Lr w lo a ls := fun u hu i l hl => by
  rcases hx.below (u := u) (by rw [hlo]; exact hu) with e | ⟨g, o, ha, hc⟩
  · rw [e] at hl; simp at hl
  · obtain ⟨a1, c1, k⟩ := hc i l hl
    exact ⟨g, o, a1, c1, ha, k⟩
set_option maxRecDepth 40000 in
set_option maxHeartbeats 8000000 in
theorem ends_core (w : World) (a : Option Addr) (ls : List (List Nat)) (N C : Nat) (b : List Nat) (t : Nat) (hx : Rl w a ls) (hN : ls.length = N) (hNb : N ≤ 2000000) (hol : ∀ l ∈ ls, Oct l) (hW : vd b = true → (wri (dd b) ls).length ≤ 90000000) (hob : Oct b) (hb : b.length ≤ 2000000) (ht : t < 65536) :
    Calls Try.prog 8 #[.slice a N C, .string (st b), .int .u16 (t : Int)] w fun e w' => e = .returned (.bool true) ∧ Below w.heap.size w w' := by
  obtain ⟨B, hB⟩ : ∃ B, w.heap.size = B := ⟨_, rfl⟩
  have hwr := write_c b hob (by omega) a ls N C hN w hx hol (fun h => Nat.le_trans (hW h) (by decide))
  have hok : (wv b ls).1 = true → vd b = true ∧ (∀ p ∈ ls, hs (dd b) [] p = false) ∧ (wv b ls).2 = wri (dd b) ls := by
    unfold wv
    split
    · rename_i h; intro _; exact ⟨h.1, h.2, rfl⟩
    · intro h; cases h
  have hno : (wv b ls).1 = false → (wv b ls).2 = [] := by
    unfold wv
    split
    · intro h; cases h
    · intro _; rfl
  obtain ⟨⟨ok, lx⟩, hwv⟩ : ∃ r, wv b ls = r := ⟨_, rfl⟩
  rw [hwv] at hwr hok hno
  dsimp only at hwr hok hno
  rw [hB] at hwr ⊢
  obtain ⟨S, S2, S4, M0, M2, M4, hS⟩ := sb_of b
  obtain ⟨sb, hsb⟩ : ∃ sb, st b = sb := ⟨_, rfl⟩
  rw [hsb] at hwr hS ⊢
  have AZ : Aside (Lr w B a ls ∧ ls.length = N ∧ N ≤ 2000000 ∧ (∀ l ∈ ls, Oct l) ∧ w.heap.size = B ∧ t < 65536 ∧ st b = sb ∧ Oct b) := ⟨hx.lr hB, hN, hNb, hol, hB, ht, hsb, hob⟩
  have AK : Aside ((ok = true → vd b = true ∧ (∀ p ∈ ls, hs (dd b) [] p = false) ∧ lx = wri (dd b) ls) ∧ (ok = false → lx = []) ∧ (vd b = true → (wri (dd b) ls).length ≤ 90000000) ∧ Sb b sb S S2 S4 M0 M2 M4) := ⟨hok, hno, hW, hS⟩
  clear hx hN hNb hol hW hob hb ht hok hno hwv hsb hB hS
  go_enter Try.func8, Try.ntmps8
  go_upto_region 2 with (go_at_call 23; refine hwr.mono ?_; rintro e1 w1 ⟨xa, nx, xc, rfl, ox, hnx, bx⟩; have hnxA : Aside (nx = lx.length) := hnx; clear hnx)
  have az := AZ.out
  have hx2 := ow_two ox
  have A1 : Aside (Below B w w1 ∧ B ≤ w1.heap.size) := ⟨bx, by have := bx.size; omega⟩
  have A2 : Aside (Lies w1 xa lx ∧ nx ≤ xc ∧ lx.length = nx ∧ (xa = none → nx = 0 ∧ xc = 0)) := ⟨hx2.2.2.1, hx2.2.1, hx2.1, hx2.2.2.2⟩
  clear az hx2 ox bx hwr
  cases ok with
  | false =>
    have hawk := awake_c w1
    go_wp2_with (go_at_call 13; refine hawk.mono ?_; rintro e6 w6 ⟨rfl, b6⟩)
    first | go_ret | go_ret2
    have a1' := A1.out
    exact ⟨rfl, a1'.1.trans (b6.mono (by omega))⟩
  | true =>
    obtain ⟨hvd, hhs, hlx0⟩ := AK.out.1 rfl
    obtain ⟨D, hD⟩ : ∃ D, dd b = D := ⟨_, rfl⟩
    have hS := AK.out.2.2.2
    have hW := AK.out.2.2.1 hvd
    have hblen := vd_len hvd
    have hbd := vd_bd hvd AZ.out.2.2.2.2.2.2.2
    have hoD := dd_oct AZ.out.2.2.2.2.2.2.2
    obtain ⟨DL, hDL⟩ : ∃ DL, D.length = DL := ⟨_, rfl⟩
    have hDL2 : DL = M0 + 2 := by rw [← hDL, ← hD, ← hS.n0]; rfl
    have hSD : st D = S := by rw [← hD, ← dd_st]; rw [AZ.out.2.2.2.2.2.2.1]; exact hS.c1
    rw [← hlx0, A2.out.2.2.1] at hW
    have hnx4 : 4 ≤ nx := by
      rw [← A2.out.2.2.1, hlx0, wri_pre]
      simp
      omega
    rw [hD] at hlx0 hbd hoD
    have AV : Aside (vd b = true ∧ dd b = D ∧ lx = wri D ls ∧ nx ≤ 90000000 ∧ 4 ≤ nx ∧ Bd D ∧ Oct D ∧ D.length = DL ∧ DL ≤ 72 ∧ st D = S) := ⟨hvd, hD, hlx0, hW, hnx4, hbd, hoD, hDL, by have := hS.n0; omega, hSD⟩
    have k1 := hS.c1
    have z0 := hS.z0
    have z1 : S.size = DL := by rw [hDL2]; exact hS.z1
    have u1 : (9223372036854775807 < 2 + M0) = False := eq_false (by have := hS.n0; omega)
    have t1 : ((nx : Int) == 0) = false := by rw [beq_eq_false_iff_ne]; omega
    clear hvd hhs hlx0 hD hS hW hblen hbd hoD hDL hDL2 hSD hnx4
    go_upto_region 5 with fail
    clear t1 k1 z0 u1
    go_wp2_with fail
    go_loopg [6, 10, 11] N (fun gg s6 s10 s11 wr => ∃ i : Nat, s6 = .bool false ∧ s10 = .int .i64 (i : Int) ∧ wr = w1 ∧ Aside (i + gg = N ∧ ∀ (j : Nat) p, j < i → ls[j]? = some p → Cl D p))
    case atStart => exact ⟨0, rfl, rfl, rfl, ⟨by omega, fun j p h => by omega⟩⟩
    case round =>
      obtain ⟨i, rfl, rfl, hw, hT⟩ := hrel
      have hw := hw.symm
      subst hw
      obtain ⟨hig, hcl⟩ := hT.out
      have az := AZ.out
      by_cases hi : i < N
      · have t1 : ((i : Int) < (N : Int)) = True := eq_true (by omega)
        have t2 : (i < N) = True := eq_true hi
        have bi : (i : Int) < 200000000 := by omega
        obtain ⟨p, hp⟩ : ∃ p, ls[i]? = some p := ⟨_, List.getElem?_eq_getElem (by omega)⟩
        obtain ⟨g, o, a1, c1, rfl, cp, lp, hc1, hnil⟩ := az.1 w1 A1.out.1 i p hp
        obtain ⟨q, hq⟩ : ∃ q, p.length = q := ⟨_, rfl⟩
        rw [hq] at cp hc1 hnil
        have hqb : q ≤ 100000000 := by
          have h1 := wpre_le D ls (i + 1)
          have h2 := congrArg List.length (wpre_take (D := D) hp)
          simp only [List.length_append, List.length_cons, List.length_nil] at h2
          have h3 := AV.out
          have h4 := A2.out.2.2.1
          rw [h3.2.2.1] at h4
          omega
        have A3 : Aside (i + gk = N ∧ i < N ∧ (∀ (j : Nat) p, j < i → ls[j]? = some p → Cl D p) ∧ ls[i]? = some p ∧ Lies w1 a1 p ∧ q ≤ c1 ∧ (a1 = none → q = 0 ∧ c1 = 0) ∧ p.length = q ∧ q ≤ 100000000 ∧ Oct p) := ⟨hig, hi, hcl, hp, lp, hc1, hnil, hq, hqb, az.2.2.2.1 p (List.mem_of_getElem? hp)⟩
        obtain ⟨G, hG⟩ : ∃ G, G = gk := ⟨_, rfl⟩
        subst hG
        clear hT hig hcl az hi hp lp hc1 hnil hq hqb
        go_upto_region 8 with fail
        go_wp2_with fail
        go_loopg [6, 11] (q + 1) (fun gg s6 s11 wr => ∃ n : Nat, s6 = .bool false ∧ s11 = .int .i64 (n : Int) ∧ wr = w1 ∧ Aside (n + gg = q + 1 ∧ ∀ j, j < n → j + DL ≤ q → (p.take (j + DL)).drop j ≠ D))
        case atStart => exact ⟨0, rfl, rfl, rfl, ⟨by omega, fun j h => by omega⟩⟩
        case round =>
          obtain ⟨n, rfl, rfl, hw, hT⟩ := hrel
          have hw := hw.symm
          subst hw
          obtain ⟨hng, hcn⟩ := hT.out
          have av := AV.out
          have a3 := A3.out
          obtain ⟨e, he⟩ : ∃ e, n + DL = e := ⟨_, rfl⟩
          have hne : (n : Int) + (DL : Int) = (e : Int) := by omega
          have be : (e : Int) < 400000000 := by omega
          by_cases hle : e ≤ q
          · have t3 : ((e : Int) ≤ (q : Int)) = True := eq_true (by omega)
            have t4 : (e ≤ q) = True := eq_true hle
            have bn : (n : Int) < 200000000 := by omega
            obtain ⟨a2, hsl, hli, _⟩ := cut_of a1 p q c1 n e a3.2.2.2.2.2.2.2.1 a3.2.2.2.2.2.1 (by omega) hle a3.2.2.2.2.2.2.1 w1 a3.2.2.2.2.1
            have hsg : ((p.take e).drop n).length = e - n := by rw [List.length_drop, List.length_take]; omega
            obtain ⟨X, hX⟩ : ∃ X, e - n = X := ⟨_, rfl⟩
            obtain ⟨cx, hcx⟩ : ∃ cx, c1 - n = cx := ⟨_, rfl⟩
            rw [hX] at hsl hsg
            rw [hcx] at hsl
            have hos : Oct ((p.take e).drop n) := (a3.2.2.2.2.2.2.2.2.2.take e).drop n
            have hcv := conv_st (w := w1) X cx hsg hos (hli w1 a3.2.2.2.2.1)
            obtain ⟨S', hS'⟩ : ∃ S', st ((p.take e).drop n) = S' := ⟨_, rfl⟩
            have hbq := st_beq hos av.2.2.2.2.2.2.1
            rw [hS'] at hcv hbq
            rw [av.2.2.2.2.2.2.2.2.2] at hbq
            by_cases heq : (p.take e).drop n = D
            · have t5 : (S'.toList == S.toList) = true := by rw [hbq]; exact decide_eq_true heq
              have hawk := awake_c w1
              clear hT hng hcn av a3 he hle hsg hX hcx hos hS' hbq heq hli
              go_wp2_with (go_at_call 13; refine hawk.mono ?_; rintro e6 w6 ⟨rfl, b6⟩)
              first | go_ret | go_ret2
              have a1' := A1.out
              exact ⟨rfl, a1'.1.trans (b6.mono (by omega))⟩
            · have t5 : (S'.toList == S.toList) = false := by rw [hbq]; exact decide_eq_false heq
              have A4 : Aside (n + gk = q + 1 ∧ (∀ j, j < n → j + DL ≤ q → (p.take (j + DL)).drop j ≠ D) ∧ (p.take (n + DL)).drop n ≠ D ∧ n ≤ q) := ⟨hng, hcn, by rw [he]; exact heq, by omega⟩
              clear hT hng hcn av a3 he hle hsg hX hcx hos hS' hbq heq hli
              go_wp2_with fail
              have a4 := A4.out
              go_roundg (gk - 1)
              case measure => omega
              case rel =>
                refine ⟨n + 1, rfl, by go_num, rfl, ⟨by omega, fun j hj h1 => ?_⟩⟩
                by_cases hjn : j = n
                · rw [hjn]; exact a4.2.2.1
                · exact a4.2.1 j (by omega) h1
          · have t3 : ((e : Int) ≤ (q : Int)) = False := eq_false (by omega)
            have t4 : (e ≤ q) = False := eq_false hle
            have bn : (n : Int) < 200000000 := by omega
            have hclp : Cl D p := Cl.of (fun m hm => by
              rw [av.2.2.2.2.2.2.2.1, a3.2.2.2.2.2.2.2.1] at hm
              rw [av.2.2.2.2.2.2.2.1]
              exact hcn m (by omega) hm)
            have A4 : Aside (Cl D p) := hclp
            clear hT hng hcn av a3 he hle hclp
            go_wp2_with fail
            have a3 := A3.out
            go_roundg (G - 1)
            case measure => omega
            case rel =>
              refine ⟨i + 1, rfl, by go_num, rfl, ⟨by omega, fun j p' hj hp' => ?_⟩⟩
              by_cases hji : j = i
              · subst hji
                rw [a3.2.2.2.1] at hp'
                cases hp'
                exact A4.out
              · exact a3.2.2.1 j p' (by omega) hp'
      · have t1 : ((i : Int) < (N : Int)) = False := eq_false (by omega)
        have t2 : (i < N) = False := eq_false hi
        have AC : Aside (∀ p ∈ ls, Cl D p) := fun p hp => by
          obtain ⟨j, hj, e⟩ := List.mem_iff_getElem.1 hp
          exact hcl j p (by omega) (by rw [List.getElem?_eq_getElem hj, e])
        clear hT hig hcl az hi
        have av := AV.out
        have a2 := A2.out
        have az := AZ.out
        obtain ⟨k, hk⟩ : ∃ k, t % nx = k := ⟨_, rfl⟩
        have hkn : k < nx := by rw [← hk]; exact Nat.mod_lt _ (by omega)
        have hk1 : (t : Int) % (nx : Int) = (k : Int) := by rw [← hk]; simp
        have hk2 : Int.tmod (t : Int) (nx : Int) = (k : Int) := by rw [Int.tmod_eq_emod_of_nonneg (by omega)]; exact hk1
        have bt : (t : Int) < 65536 := by omega
        have bk : (k : Int) < 90000000 := by omega
        have n0 : ((nx : Int) == 0) = false := by rw [beq_eq_false_iff_ne]; omega
        have n1 : ((nx : Int) = 0) = False := eq_false (by omega)
        have n2 : (nx = 0) = False := eq_false (by omega)
        obtain ⟨gx, ox, hxa⟩ : ∃ gx ox, xa = some ⟨gx, ox, none⟩ := by
          rcases a2.1 with e | ⟨g, o, e, _⟩
          · rw [e] at a2
            have := a2.2.2.1
            simp at this
            omega
          · exact ⟨g, o, e⟩
        subst hxa
        have hsl : ∀ W : World, (Instr.slice 22 (.slice (some ⟨gx, ox, none⟩) nx xc) none (some (.int .i64 (k : Int))) none).run Try.prog W = .ok (.slice (some ⟨gx, ox, none⟩) k xc) W := fun W => slice_to gx ox nx xc k (by omega) W
        have hoc : Oct lx := by
          rw [av.2.2.1]
          exact fun x hx => wri_lt av.2.2.2.2.2.1.oct ls (fun p hp => az.2.2.2.1 p hp) x hx
        have hlk : Lies w1 (some ⟨gx, ox, none⟩) (lx.take k) := by
          rcases a2.1 with e | ⟨g, o, e, hc⟩
          · left; rw [e]; simp
          · cases e
            refine Or.inr ⟨gx, ox, rfl, fun i x hx => ?_⟩
            rw [List.getElem?_take] at hx
            split at hx
            · exact hc i x hx
            · simp at hx
        have hwh := whole_c b az.2.2.2.2.2.2.2 av.1 (some ⟨gx, ox, none⟩) (lx.take k) k xc (by rw [List.length_take]; omega) (by omega) (hoc.take k) w1 hlk
        have hen := ends_en av.2.2.2.2.2.1 ls k (by rw [← av.2.2.1]; omega) (fun p hp => ⟨AC.out p hp, az.2.2.2.1 p hp⟩)
        rw [← av.2.2.1, a2.2.2.1] at hen
        rw [av.2.1] at hwh
        obtain ⟨m, hm⟩ : ∃ m, po [] (tot D s0 (lx.take k)) = m := ⟨_, rfl⟩
        obtain ⟨Y, hY⟩ : ∃ Y, why true 0 (cv D s0 (lx.take k)) = Y := ⟨_, rfl⟩
        rw [hm, hY, az.2.2.2.2.2.2.1] at hwh
        rw [hm] at hen
        rw [hen.2.1] at hY
        have A5 : Aside (En D ls k m ∧ why true 0 (decide (k + 2 = nx)) = Y ∧ (∀ p ∈ m, Oct p) ∧ k < nx) := ⟨hen.1, hY, hen.2.2, hkn⟩
        clear av a2 az hk hkn hoc hlk hen hm hY
        go_upto_region 15 with (go_at_call 9; refine hwh.mono ?_; rintro e5 w5 ⟨a5, M, c5, rfl, l5, hM, b5⟩; have hMA : Aside (M = m.length) := hM; clear hM)
        have hrl := l5.rl hMA.out
        have az := AZ.out
        have b15 : Below B w w5 := A1.out.1.trans (b5.mono A1.out.2)
        have A6 : Aside (Rl w5 a5 m ∧ Below B w w5 ∧ Lies w5 (some ⟨gx, ox, none⟩) lx ∧ m.length = M ∧ M ≤ N + 1 ∧ B ≤ w5.heap.size) := ⟨hrl, b15, A2.out.1.below b5, hMA.out.symm, by rw [hMA.out, ← az.2.1]; exact A5.out.1.len, by have := b15.size; omega⟩
        have m1 : ((N : Int) + 1 < (M : Int)) = False := eq_false (by have := A6.out.2.2.2.2.1; omega)
        have bN : (N : Int) < 200000000 := by omega
        clear hwh hrl l5 b5 b15 hMA az hsl hk1 hk2 bt n0 n1 n2 t1 t2
        go_upto_region 17 with fail
        clear m1
        go_wp2_with fail
        go_loopg [6, 16, 17] M (fun gg s6 s16 s17 wr => ∃ i F : Nat, s6 = .bool false ∧ s16 = .int .i64 (F : Int) ∧ s17 = .int .i64 (i : Int) ∧ Aside (i + gg = M ∧ (i ≤ N → F = (wpre D (ls.take i)).length) ∧ F ≤ 100000000 ∧ Dn w5 wr))
        case atStart => exact ⟨0, 0, rfl, rfl, rfl, ⟨by omega, fun _ => by simp [wpre], by omega, Dn.refl _⟩⟩
        case round =>
          obtain ⟨i, F, rfl, rfl, rfl, hT⟩ := hrel
          obtain ⟨hig, hF, hFb, hdn⟩ := hT.out
          by_cases hi : i < M
          · have t1 : ((i : Int) < (M : Int)) = True := eq_true (by omega)
            have t2 : (i < M) = True := eq_true hi
            have av := AV.out
            have az := AZ.out
            have a6 := A6.out
            have a5' := A5.out
            have hiN : i ≤ N := by omega
            have hFe := hF hiN
            obtain ⟨x, hx⟩ : ∃ x, m[i]? = some x := ⟨_, List.getElem?_eq_getElem (by omega)⟩
            obtain ⟨gm, om, rfl, hmc⟩ : ∃ gm om, a5 = some ⟨gm, om, none⟩ ∧ ∃ am cm, wr.cell? ⟨gm, om + i, none⟩ = some (.slice am x.length cm) ∧ Lies wr am x := by
              rcases a6.1 with e | ⟨g, o, e, hc⟩
              · rw [e] at hx; simp at hx
              · obtain ⟨am, cm, h1, h2, _⟩ := hc i x hx
                obtain ⟨mm, hmm⟩ := hdn
                exact ⟨g, o, e, am, cm, by rw [hmm]; exact h1, by rw [hmm]; exact h2.drewN mm⟩
            obtain ⟨am, cm, kmc, lm⟩ := hmc
            obtain ⟨q, hq⟩ : ∃ q, x.length = q := ⟨_, rfl⟩
            rw [hq] at kmc
            obtain ⟨D2, hD2⟩ : ∃ D2, DL + 2 = D2 := ⟨_, rfl⟩
            obtain ⟨F1, hF1⟩ : ∃ F1, F + D2 = F1 := ⟨_, rfl⟩
            have hfr : fr D ls i = F1 := by unfold fr; rw [← hFe, av.2.2.2.2.2.2.2.1]; omega
            have hqb : q ≤ 200000000 := by
              by_cases h : i < N
              · by_cases h2 : F1 + q ≤ k
                · omega
                · have := a5'.1.a5 i x hx (by omega) (by rw [hfr, hq]; exact h2)
                  rw [this] at hq
                  simp at hq
                  omega
              · have := a5'.1.a3 i x hx (by omega)
                rw [this] at hq
                simp at hq
                omega
            have w1 : (DL : Int) + 2 = (D2 : Int) := by omega
            have w2 : (F : Int) + (D2 : Int) = (F1 : Int) := by omega
            have bi : (i : Int) < 200000000 := by omega
            have bF : (F1 : Int) < 200000000 := by omega
            have bD : (D2 : Int) < 200 := by omega
            have hox : Oct x := a5'.2.2.1 x (List.mem_of_getElem? hx)
            obtain ⟨S1, hS1⟩ : ∃ S1, st x = S1 := ⟨_, rfl⟩
            have bw : Below B w wr := by obtain ⟨mm, hmm⟩ := hdn; rw [hmm]; exact Below.drewN2 a6.2.1 mm
            have A7 : Aside (i + gk = M ∧ i < M ∧ i ≤ N ∧ F = (wpre D (ls.take i)).length ∧ F ≤ 100000000 ∧ Dn w5 wr ∧ m[i]? = some x ∧ x.length = q ∧ fr D ls i = F1 ∧ q ≤ 200000000 ∧ Oct x ∧ st x = S1 ∧ Lies wr am x ∧ F1 = F + DL + 2 ∧ Below B w wr ∧ M ≤ N + 1) := ⟨hig, hi, hiN, hFe, hFb, hdn, hx, hq, hfr, hqb, hox, hS1, lm, by omega, bw, a6.2.2.2.2.1⟩
            have S1e : (S1.toList == S1.toList) = true := by simp
            have S1n : (S1.toList != S1.toList) = false := by simp
            clear hT hig hF hFb hdn hi av az a6 a5' hiN hFe hx hq hD2 hF1 hfr hqb hox hS1 bw lm
            go_upto_region 22 with fail
            clear w1 w2 t1 t2
            go_cut [136] from 94 to 190 (fun s136 wc => s136 = .bool false ∧ Dn wr wc)
            case first =>
              have a7 := A7.out
              have az := AZ.out
              by_cases h1 : i + 1 < M
              · have t1 : ((i : Int) + 1 < (M : Int)) = True := eq_true (by omega)
                have t2 : (i + 1 < M) = True := eq_true h1
                have t10 : (i < M) = True := eq_true a7.2.1
                have t11 : ((i : Int) < (M : Int)) = True := eq_true (by have := a7.2.1; omega)
                have t3 : decide ((i : Int) + 1 < (M : Int)) = true := decide_eq_true (by omega)
                have hiN : i < N := by omega
                have t4 : ((i : Int) == (N : Int)) = false := by rw [beq_eq_false_iff_ne]; omega
                have t5 : ((i : Int) < (N : Int)) = True := eq_true (by omega)
                have t6 : (i < N) = True := eq_true hiN
                have hl := A5.out.1.a2 i x a7.2.2.2.2.2.2.1 (by rw [A6.out.2.2.2.1]; exact h1)
                obtain ⟨g, o, a9, c9, rfl, cp, lp, _⟩ := az.1 wr a7.2.2.2.2.2.2.2.2.2.2.2.2.2.2.1 i x hl
                rw [a7.2.2.2.2.2.2.2.1] at cp
                have e1 : ∀ n, (convert 22 9 (.slice am q cm)).run Try.prog (wr.drewN n) = .ok (.string S1) (wr.drewN n) := fun n => by rw [← a7.2.2.2.2.2.2.2.2.2.2.2.1]; exact conv_st q cm a7.2.2.2.2.2.2.2.1 a7.2.2.2.2.2.2.2.2.2.2.1 (a7.2.2.2.2.2.2.2.2.2.2.2.2.1.drewN n)
                have e2 : ∀ n, (convert 22 9 (.slice a9 q c9)).run Try.prog (wr.drewN n) = .ok (.string S1) (wr.drewN n) := fun n => by rw [← a7.2.2.2.2.2.2.2.2.2.2.2.1]; exact conv_st q c9 a7.2.2.2.2.2.2.2.1 a7.2.2.2.2.2.2.2.2.2.2.1 (lp.drewN n)
                clear a7 az h1 hiN hl lp
                go_quiet (fail)
                go_wp2_with fail
                go_meet
                exact ⟨rfl, ⟨_, rfl⟩⟩
              · have t1 : ((i : Int) + 1 < (M : Int)) = False := eq_false (by omega)
                have t2 : (i + 1 < M) = False := eq_false h1
                have t3 : decide ((i : Int) + 1 < (M : Int)) = false := decide_eq_false (by omega)
                have t10 : (i < M) = True := eq_true a7.2.1
                have t11 : ((i : Int) < (M : Int)) = True := eq_true (by have := a7.2.1; omega)
                by_cases hiN : i = N
                · have t4 : ((i : Int) == (N : Int)) = true := by rw [beq_iff_eq]; omega
                  have hx0 := A5.out.1.a3 i x a7.2.2.2.2.2.2.1 (by rw [az.2.1]; exact hiN)
                  have hq0 : q = 0 := by have := a7.2.2.2.2.2.2.2.1; rw [hx0] at this; simpa using this.symm
                  have t5 : ((0 : Int) < (q : Int)) = False := eq_false (by omega)
                  have t6 : (0 < q) = False := eq_false (by omega)
                  have t7 : decide ((0 : Int) < (q : Int)) = false := decide_eq_false (by omega)
                  clear a7 az h1 hiN hx0 hq0
                  go_quiet (fail)
                  go_wp2_with fail
                  go_meet
                  exact ⟨rfl, ⟨_, rfl⟩⟩
                · have t4 : ((i : Int) == (N : Int)) = false := by rw [beq_eq_false_iff_ne]; omega
                  clear a7 az h1 hiN
                  go_quiet (fail)
                  go_wp2_with fail
                  go_meet
                  exact ⟨rfl, ⟨_, rfl⟩⟩
            case rest =>
              obtain ⟨rfl, hdw⟩ := hcut
              obtain ⟨W2, hW2⟩ : ∃ W2, W2 = wc := ⟨_, rfl⟩
              subst hW2
              obtain ⟨k2, hk2⟩ := hdw
              have kmc2 : W2.cell? ⟨gm, om + i, none⟩ = some (.slice am q cm) := by rw [hk2]; exact kmc
              have a7 := A7.out
              have A8 : Aside (Lies W2 am x ∧ Dn w5 W2 ∧ Below B w W2) := ⟨by rw [hk2]; exact a7.2.2.2.2.2.2.2.2.2.2.2.2.1.drewN k2, by rw [hk2]; exact a7.2.2.2.2.2.1.drewN k2, by rw [hk2]; exact Below.drewN2 a7.2.2.2.2.2.2.2.2.2.2.2.2.2.2.1 k2⟩
              clear kmc hk2 a7
              go_upto_region 24 with fail
              go_cut [178] from 94 to 190 (fun s178 wd => s178 = .bool false ∧ Dn W2 wd)
              case first =>
                have a7 := A7.out
                have az := AZ.out
                have a8 := A8.out
                have t10 : (i < M) = True := eq_true a7.2.1
                have t11 : ((i : Int) < (M : Int)) = True := eq_true (by have := a7.2.1; omega)
                by_cases hiN : i < N
                · have t5 : ((i : Int) < (N : Int)) = True := eq_true (by omega)
                  have t6 : (i < N) = True := eq_true hiN
                  have t7 : decide ((i : Int) < (N : Int)) = true := decide_eq_true (by omega)
                  obtain ⟨e, he⟩ : ∃ e, F1 + q = e := ⟨_, rfl⟩
                  have w3 : (F1 : Int) + (q : Int) = (e : Int) := by omega
                  have be : (e : Int) < 600000000 := by omega
                  by_cases hle : e ≤ k
                  · have t1 : ((k : Int) < (e : Int)) = False := eq_false (by omega)
                    have t2 : (k < e) = False := eq_false (by omega)
                    have t3 : decide ((k : Int) < (e : Int)) = false := decide_eq_false (by omega)
                    have a2' := A2.out
                    have hxe := A5.out.1.a4 i x a7.2.2.2.2.2.2.1 (by omega) (by rw [a7.2.2.2.2.2.2.2.2.1, a7.2.2.2.2.2.2.2.1]; omega)
                    rw [a7.2.2.2.2.2.2.2.2.1, a7.2.2.2.2.2.2.2.1, he, ← AV.out.2.2.1] at hxe
                    have hkn := A5.out.2.2.2
                    obtain ⟨a3, hsl, hli, _⟩ := cut_of (some ⟨gx, ox, none⟩) lx nx xc F1 e a2'.2.2.1 a2'.2.1 (by omega) (by omega) a2'.2.2.2 _ a2'.1
                    rw [hxe] at hli
                    have hX : e - F1 = q := by omega
                    obtain ⟨cx, hcx⟩ : ∃ cx, xc - F1 = cx := ⟨_, rfl⟩
                    rw [hX, hcx] at hsl
                    have hlxc : Lies W2 (some ⟨gx, ox, none⟩) lx := by obtain ⟨mm, hmm⟩ := a8.2.1; rw [hmm]; exact A6.out.2.2.1.drewN mm
                    have e1 : ∀ n, (convert 22 9 (.slice am q cm)).run Try.prog (W2.drewN n) = .ok (.string S1) (W2.drewN n) := fun n => by rw [← a7.2.2.2.2.2.2.2.2.2.2.2.1]; exact conv_st q cm a7.2.2.2.2.2.2.2.1 a7.2.2.2.2.2.2.2.2.2.2.1 (a8.1.drewN n)
                    have e2 : ∀ n, (convert 22 9 (.slice a3 q cx)).run Try.prog (W2.drewN n) = .ok (.string S1) (W2.drewN n) := fun n => by rw [← a7.2.2.2.2.2.2.2.2.2.2.2.1]; exact conv_st q cx a7.2.2.2.2.2.2.2.1 a7.2.2.2.2.2.2.2.2.2.2.1 ((hli W2 hlxc).drewN n)
                    clear a7 az a8 hiN he hle a2' hxe hkn hli hX hcx hlxc
                    go_quiet (fail)
                    go_wp2_with fail
                    go_meet
                    exact ⟨rfl, ⟨_, rfl⟩⟩
                  · have t1 : ((k : Int) < (e : Int)) = True := eq_true (by omega)
                    have t2 : (k < e) = True := eq_true (by omega)
                    have t3 : decide ((k : Int) < (e : Int)) = true := decide_eq_true (by omega)
                    have hx0 := A5.out.1.a5 i x a7.2.2.2.2.2.2.1 (by omega) (by rw [a7.2.2.2.2.2.2.2.2.1, a7.2.2.2.2.2.2.2.1]; omega)
                    have hq0 : q = 0 := by have := a7.2.2.2.2.2.2.2.1; rw [hx0] at this; simpa using this.symm
                    have t8 : ((0 : Int) < (q : Int)) = False := eq_false (by omega)
                    have t9 : (0 < q) = False := eq_false (by omega)
                    have t12 : decide ((0 : Int) < (q : Int)) = false := decide_eq_false (by omega)
                    clear a7 az a8 hiN he hle hx0 hq0
                    go_quiet (fail)
                    go_wp2_with fail
                    go_meet
                    exact ⟨rfl, ⟨_, rfl⟩⟩
                · have t5 : ((i : Int) < (N : Int)) = False := eq_false (by omega)
                  have t6 : (i < N) = False := eq_false hiN
                  have t7 : decide ((i : Int) < (N : Int)) = false := decide_eq_false (by omega)
                  clear a7 az a8 hiN
                  go_quiet (fail)
                  go_wp2_with fail
                  go_meet
                  exact ⟨rfl, ⟨_, rfl⟩⟩
              case rest =>
                obtain ⟨rfl, hdw⟩ := hcut
                obtain ⟨k3, hk3⟩ := hdw
                have A9 : Aside (Dn w5 wc ∧ Below B w wc) := ⟨by rw [hk3]; exact A8.out.2.1.drewN k3, by rw [hk3]; exact Below.drewN2 A8.out.2.2 k3⟩
                clear hk3 kmc2 S1e S1n
                have a7 := A7.out
                by_cases hiN : i < N
                · have t5 : ((i : Int) < (N : Int)) = True := eq_true (by omega)
                  have t6 : (i < N) = True := eq_true hiN
                  obtain ⟨p, hp⟩ : ∃ p, ls[i]? = some p := ⟨_, List.getElem?_eq_getElem (by have := AZ.out.2.1; omega)⟩
                  obtain ⟨g, o, a9, c9, rfl, cp, _⟩ := AZ.out.1 wc A9.out.2 i p hp
                  have hst := wpre_step D hp
                  have hle := wpre_le D ls (i + 1)
                  have hv := AV.out
                  have h4 := A2.out.2.2.1
                  rw [hv.2.2.1] at h4
                  obtain ⟨q9, hq9⟩ : ∃ q9, p.length = q9 := ⟨_, rfl⟩
                  rw [hq9] at cp hst
                  obtain ⟨d9, hd9⟩ : ∃ d9, q9 + 2 = d9 := ⟨_, rfl⟩
                  obtain ⟨F9, hF9⟩ : ∃ F9, F1 + d9 = F9 := ⟨_, rfl⟩
                  have w3 : (q9 : Int) + 2 = (d9 : Int) := by omega
                  have w4 : (F1 : Int) + (d9 : Int) = (F9 : Int) := by omega
                  have A10 : Aside (F9 = (wpre D (ls.take (i + 1))).length ∧ F9 ≤ 100000000) := ⟨by rw [hst, a7.2.2.2.2.2.2.2.2.1]; omega, by omega⟩
                  have bd9 : (d9 : Int) < 200000000 := by have := A10.out; omega
                  have bF9 : (F9 : Int) < 200000000 := by have := A10.out; omega
                  clear a7 hiN hp hst hle hv h4 hq9 hd9 hF9
                  go_wp2_with fail
                  have a7 := A7.out
                  go_roundg (gk - 1)
                  case measure => omega
                  case rel => exact ⟨i + 1, F9, rfl, rfl, by go_num, ⟨by omega, fun _ => A10.out.1, A10.out.2, A9.out.1⟩⟩
                · have t5 : ((i : Int) < (N : Int)) = False := eq_false (by omega)
                  have t6 : (i < N) = False := eq_false hiN
                  have A10 : Aside (¬ i < N ∧ F1 ≤ 100000000) := ⟨hiN, by
                    have h1 := wpre_le D ls i
                    have hv := AV.out
                    have h4 := A2.out.2.2.1
                    rw [hv.2.2.1] at h4
                    omega⟩
                  clear a7 hiN
                  go_wp2_with fail
                  have a7 := A7.out
                  have a10 := A10.out
                  go_roundg (gk - 1)
                  case measure => omega
                  case rel => exact ⟨i + 1, F1, rfl, rfl, by go_num, ⟨by omega, fun h => by omega, a10.2, A9.out.1⟩⟩
          · have t1 : ((i : Int) < (M : Int)) = False := eq_false (by omega)
            have t2 : (i < M) = False := eq_false hi
            have hawk : ∀ u : World, Calls Try.prog 13 #[] u fun e w' => e = .returned (.bool true) ∧ Below u.heap.size u w' := fun u => awake_c u
            have hY := A5.out.2.1
            have hkn := A5.out.2.2.2
            have av := AV.out
            have A7 : Aside (Dn w5 wr) := hdn
            rcases (show k + 2 = nx ∨ k + 1 = nx ∨ k + 2 < nx by omega) with e | e | e
            · rw [decide_eq_true e] at hY
              have hY0 : Y = 0 := by rw [← hY]; rfl
              subst hY0
              have r1 : ((nx : Int) ≤ (k : Int) + 2) = True := eq_true (by omega)
              have r2 : ((k : Int) + 1 != (nx : Int)) = true := by rw [bne_iff_ne]; omega
              have r3 : ((k : Int) + 1 == (nx : Int)) = false := by rw [beq_eq_false_iff_ne]; omega
              clear hT hig hF hFb hdn hi hY hkn av e
              go_wp2_with (go_at_call 13; refine (hawk _).mono ?_; rintro e6 w6 ⟨rfl, b6⟩)
              first | go_ret | go_ret2
              obtain ⟨mm, hmm⟩ := A7.out
              have h5 := A6.out
              have b7 : Below B w wr := by rw [hmm]; exact Below.drewN2 h5.2.1 mm
              exact ⟨rfl, b7.trans (b6.mono (by have := b7.size; have := AZ.out.2.2.2.2.1; omega))⟩
            · rw [decide_eq_false (by omega)] at hY
              have hY0 : Y = 33 := by rw [← hY]; rfl
              subst hY0
              have r1 : ((nx : Int) ≤ (k : Int) + 2) = True := eq_true (by omega)
              have r2 : ((k : Int) + 1 != (nx : Int)) = false := by rw [bne_eq_false_iff_eq]; omega
              have r3 : ((k : Int) + 1 == (nx : Int)) = true := by rw [beq_iff_eq]; omega
              clear hT hig hF hFb hdn hi hY hkn av e
              go_wp2_with (go_at_call 13; refine (hawk _).mono ?_; rintro e6 w6 ⟨rfl, b6⟩)
              first | go_ret | go_ret2
              obtain ⟨mm, hmm⟩ := A7.out
              have h5 := A6.out
              have b7 : Below B w wr := by rw [hmm]; exact Below.drewN2 h5.2.1 mm
              exact ⟨rfl, b7.trans (b6.mono (by have := b7.size; have := AZ.out.2.2.2.2.1; omega))⟩
            · rw [decide_eq_false (by omega)] at hY
              have hY0 : Y = 33 := by rw [← hY]; rfl
              subst hY0
              have r1 : ((nx : Int) ≤ (k : Int) + 2) = False := eq_false (by omega)
              clear hT hig hF hFb hdn hi hY hkn av e
              go_wp2_with (go_at_call 13; refine (hawk _).mono ?_; rintro e6 w6 ⟨rfl, b6⟩)
              first | go_ret | go_ret2
              obtain ⟨mm, hmm⟩ := A7.out
              have h5 := A6.out
              have b7 : Below B w wr := by rw [hmm]; exact Below.drewN2 h5.2.1 mm
              exact ⟨rfl, b7.trans (b6.mono (by have := b7.size; have := AZ.out.2.2.2.2.1; omega))⟩
end Go.Proofs.Ytbndohpcaahenaa

/-
  What the document's look comes to.
-/
import Derived.Test.YtbndohpcaahenaaOwn
import Derived.Test.YtbndohpcaahenaaTvm
import Derived.BigQuiet
import Derived.BigRegion
import Derived.Deep.CutBlock
import Derived.Deep.DeepCutAuto
import Derived.Deep.LoopGhost
namespace Go.Proofs.Ytbndohpcaahenaa
open Go.RowKit
set_option linter.unusedVariables false
def dd (b : List Nat) : List Nat := 45 :: 45 :: b
theorem dd_st (b : List Nat) : (⟨#[45, 45]⟩ : ByteArray) ++ st b = st (dd b) := by
  have : (⟨#[45, 45]⟩ : ByteArray) = st [45, 45] := by rfl
  rw [this, st_append]; rfl
theorem dd_oct {b : List Nat} (h : Oct b) : Oct (dd b) := (h.cons (by decide)).cons (by decide)
def Dn (w u : World) : Prop := ∃ n, u = w.drewN n
theorem Dn.refl (w : World) : Dn w w := ⟨0, rfl⟩
theorem Dn.drewN {w u : World} (h : Dn w u) (n : Nat) : Dn w (u.drewN n) := by
  obtain ⟨m, rfl⟩ := h
  exact ⟨m + n, by rw [World.drewN_drewN]⟩
theorem Dn.cell {w u : World} (h : Dn w u) (p : Addr) : u.cell? p = w.cell? p := by obtain ⟨n, rfl⟩ := h; rfl
set_option maxHeartbeats 1000000 in
set_option maxRecDepth 20000 in
theorem look_nil (w : World) (a : Option Addr) (c : Nat) (b : List Nat) (ho : Oct b) (hb : b.length ≤ 1000) (f : Bool) : Calls Try.prog 31 #[.slice a 0 c, .string (st b), .bool f] w fun e w' => e = .returned (.tuple #[.int .i64 1, .bool false]) ∧ Dn w w' := by
  have hcat := dd_st b
  obtain ⟨u, hu⟩ : ∃ u, u = st b := ⟨_, rfl⟩
  obtain ⟨S, hS⟩ : ∃ S, S = st (dd b) := ⟨_, rfl⟩
  have hz : u.size = b.length := by rw [hu, st_size]
  have hzS : S.size = b.length + 2 := by rw [hS, st_size]; rfl
  rw [← hu, ← hS] at hcat
  rw [← hu]
  obtain ⟨M, hM⟩ : ∃ M, b.length = M := ⟨_, rfl⟩
  rw [hM] at hz hzS hb
  have t1 : (9223372036854775807 < 2 + M) = False := eq_false (by omega)
  have t2 : ((0 : Int) < (M : Int) + 2) = True := eq_true (by omega)
  clear hu hS hM ho
  cases f with
  | true =>
    go_enter Try.func31, Try.ntmps31
    go_wp2_with fail
    go_loopg [8, 10] 1 (fun gg s8 s10 wr => s8 = .int .i64 0 ∧ s10 = .int .i64 0 ∧ wr = w)
    case atStart => exact ⟨rfl, rfl, rfl⟩
    case round =>
      obtain ⟨rfl, rfl, hw⟩ := hrel
      have hw := hw.symm
      subst hw
      go_wp2_with fail
      first | go_ret | go_ret2
      exact ⟨rfl, Dn.refl _⟩
  | false =>
    go_enter Try.func31, Try.ntmps31
    go_wp2_with fail
    first | go_ret | go_ret2
    exact ⟨rfl, Dn.refl _⟩
theorem w64_id (z : Int) (h0 : 0 ≤ z) (h1 : z < 9223372036854775808) : wrap64 z = z := by unfold wrap64; omega
theorem lkE_cons (D : List Nat) (y : Nat) (r : List Nat) : lkE D (y :: r) = if y = 10 then lkB D r else if y = 13 then (match r with | [] => (1, false) | z :: r' => if z = 10 then lkB D r' else (0, false)) else (0, false) := rfl
set_option maxHeartbeats 4000000 in
set_option maxRecDepth 20000 in
theorem look_some (w : World) (g o : Nat) (x : List Nat) (L c : Nat) (b : List Nat) (ho : Oct b) (hb : b.length ≤ 1000) (f : Bool) (hL : x.length = L) (hLb : L ≤ 100000000) (hx : ∀ (i v : Nat), x[i]? = some v → w.cell? ⟨g, o + i, none⟩ = some (.int .u8 (v : Int))) :
    Calls Try.prog 31 #[.slice (some ⟨g, o, none⟩) L c, .string (st b), .bool f] w fun e w' => e = .returned (.tuple #[.int .i64 ((look (dd b) f x).1 : Nat), .bool (look (dd b) f x).2]) ∧ Dn w w' := by
  have hcat := dd_st b
  obtain ⟨u, hu⟩ : ∃ u, u = st b := ⟨_, rfl⟩
  obtain ⟨S, hS⟩ : ∃ S, S = st (dd b) := ⟨_, rfl⟩
  obtain ⟨M0, hM0⟩ : ∃ M0, b.length = M0 := ⟨_, rfl⟩
  obtain ⟨M, hM⟩ : ∃ M, (dd b).length = M := ⟨_, rfl⟩
  have hz : u.size = M0 := by rw [hu, st_size, hM0]
  have hzS : S.size = M := by rw [hS, st_size, hM]
  have hMM : M = M0 + 2 := by rw [← hM, ← hM0]; rfl
  rw [← hu, ← hS] at hcat
  rw [← hu]
  have t1 : (9223372036854775807 < 2 + M0) = False := eq_false (by omega)
  obtain ⟨D, hD⟩ : ∃ D, dd b = D := ⟨_, rfl⟩
  rw [hD] at hM hS ⊢
  have hDo : Oct D := by rw [← hD]; exact dd_oct ho
  obtain ⟨res, hres⟩ : ∃ res, look D f x = res := ⟨_, rfl⟩
  obtain ⟨r1, r2⟩ := res
  rw [hres]
  show Calls Try.prog 31 _ w fun e w' => e = .returned (.tuple #[.int .i64 (r1 : Nat), .bool r2]) ∧ Dn w w'
  have AX : Aside (x.length = L ∧ L ≤ 100000000 ∧ D.length = M ∧ S = st D ∧ Oct D ∧ look D f x = (r1, r2) ∧ M ≤ 1002 ∧ ∀ (i v : Nat), x[i]? = some v → w.cell? ⟨g, o + i, none⟩ = some (.int .u8 (v : Int))) := ⟨hL, hLb, hM, hS, hDo, hres, by omega, hx⟩
  clear hu hS hM ho hx hres hDo hL hLb hMM hM0 hD hb
  have ax := AX.out
  go_enter Try.func31, Try.ntmps31
  go_upto_if 14 with fail
  go_cut [8] (fun s8 wc => ∃ i : Nat, s8 = .int .i64 (i : Int) ∧ wc = w ∧ Aside (i ≤ L ∧ lkB D (x.drop i) = (r1, r2)))
  case first =>
    cases f with
    | true =>
      clear ax
      go_wp2_with fail
      go_meet
      exact ⟨0, rfl, rfl, ⟨by omega, by have := AX.out.2.2.2.2.2.1; simpa [look] using this⟩⟩
    | false =>
      have hlk : lkE D x = (r1, r2) := by have := ax.2.2.2.2.2.1; simpa [look] using this
      cases x with
      | nil =>
        have e0 : L = 0 := by have := ax.1; simpa using this.symm
        simp [lkE] at hlk
        obtain ⟨rfl, rfl⟩ := hlk
        subst e0
        clear ax
        go_wp2_with fail
        first | go_ret | go_ret2
        exact ⟨rfl, Dn.refl _⟩
      | cons y r =>
        have hLp : (0 : Int) < (L : Int) := by have := ax.1; simp at this; omega
        have hLn : 0 < L := by omega
        have cy := ax.2.2.2.2.2.2.2 0 y rfl
        rw [Nat.add_zero] at cy
        rw [lkE_cons] at hlk
        have hlen : L = r.length + 1 := by have := ax.1; simp at this; omega
        by_cases h13 : y = 13
        · subst h13
          rw [if_neg (by decide), if_pos rfl] at hlk
          cases r with
          | nil =>
            simp at hlk hlen
            obtain ⟨rfl, rfl⟩ := hlk
            subst hlen
            clear ax
            go_wp2_with fail
            first | go_ret | go_ret2
            exact ⟨rfl, Dn.refl _⟩
          | cons z r' =>
            have cz := ax.2.2.2.2.2.2.2 1 z rfl
            have e1 : ((1 : Int) == (L : Int)) = false := by rw [beq_eq_false_iff_ne]; simp at hlen; omega
            have e2 : (1 : Int) < (L : Int) := by simp at hlen; omega
            have e3 : 1 < L := by omega
            by_cases hz10 : z = 10
            · subst hz10
              simp only [if_pos] at hlk
              have AH : Aside (lkB D r' = (r1, r2) ∧ L = r'.length + 2) := ⟨hlk, by simp at hlen; omega⟩
              clear ax hlk hlen
              go_wp2_with fail
              go_meet
              exact ⟨2, rfl, rfl, ⟨by have := AH.out.2; omega, AH.out.1⟩⟩
            · simp only [if_neg hz10, Prod.mk.injEq] at hlk
              obtain ⟨rfl, rfl⟩ := hlk
              have e4 : ((z : Int) == 10) = false := by rw [beq_eq_false_iff_ne]; omega
              clear ax hlen hz10
              go_wp2_with fail
              first | go_ret | go_ret2
              exact ⟨rfl, Dn.refl _⟩
        · have e1 : ((y : Int) == 13) = false := by rw [beq_eq_false_iff_ne]; omega
          have e5 : ((0 : Int) == (L : Int)) = false := by rw [beq_eq_false_iff_ne]; omega
          by_cases h10 : y = 10
          · subst h10
            rw [if_pos rfl] at hlk
            have AH : Aside (lkB D r = (r1, r2) ∧ L = r.length + 1) := ⟨hlk, hlen⟩
            clear ax hlk hlen h13 e1
            go_wp2_with fail
            go_meet
            exact ⟨1, rfl, rfl, ⟨by have := AH.out.2; omega, AH.out.1⟩⟩
          · rw [if_neg h10, if_neg h13] at hlk
            simp only [Prod.mk.injEq] at hlk
            obtain ⟨rfl, rfl⟩ := hlk
            have e4 : ((y : Int) == 10) = false := by rw [beq_eq_false_iff_ne]; omega
            clear ax hlen h10 h13
            go_wp2_with fail
            first | go_ret | go_ret2
            exact ⟨rfl, Dn.refl _⟩
  case rest =>
    obtain ⟨i0, rfl, hw, hI⟩ := hcut
    have hw := hw.symm
    subst hw
    clear ax
    go_wp2_with fail
    go_loopg [8, 10] M (fun gg s8 s10 wr => ∃ i k : Nat, s8 = .int .i64 (i : Int) ∧ s10 = .int .i64 (k : Int) ∧ Aside (k + gg = M ∧ i ≤ L ∧ lkB (D.drop k) (x.drop i) = (r1, r2) ∧ Dn w wr))
    case atStart => exact ⟨i0, 0, rfl, rfl, ⟨by omega, hI.out.1, by simpa using hI.out.2, Dn.refl _⟩⟩
    case round =>
      obtain ⟨i, k, rfl, rfl, hT⟩ := hrel
      obtain ⟨hkg, hi, hlk, hdn⟩ := hT.out
      have ax := AX.out
      have bi : (i : Int) < 200000000 := by omega
      have bk : (k : Int) < 2000 := by omega
      by_cases hk : k < M
      · have tk1 : ((k : Int) < (M : Int)) = True := eq_true (by omega)
        have tk2 : (k < M) = True := eq_true hk
        obtain ⟨d, hd⟩ : ∃ d, D[k]? = some d := ⟨_, List.getElem?_eq_getElem (by have := ax.2.2.1; omega)⟩
        have hdrop : D.drop k = d :: D.drop (k + 1) := drop_more hd
        rw [hdrop] at hlk
        by_cases hiL : i = L
        · have e0 : x.drop i = [] := List.drop_eq_nil_of_le (by have := ax.1; omega)
          rw [e0] at hlk
          simp only [lkB, Prod.mk.injEq] at hlk
          obtain ⟨rfl, rfl⟩ := hlk
          have ei : ((i : Int) == (L : Int)) = true := by rw [beq_iff_eq]; omega
          have A2 : Aside (Dn w wr) := hdn
          clear hT ax hk hd hdrop e0 hI hdn hkg hi hiL
          go_wp2_with fail
          first | go_ret | go_ret2
          exact ⟨rfl, A2.out⟩
        · obtain ⟨y, hy⟩ : ∃ y, x[i]? = some y := ⟨_, List.getElem?_eq_getElem (by have := ax.1; omega)⟩
          have hxd : x.drop i = y :: x.drop (i + 1) := drop_more hy
          rw [hxd] at hlk
          have ei : ((i : Int) == (L : Int)) = false := by rw [beq_eq_false_iff_ne]; omega
          have bL : (i : Int) < (L : Int) := by omega
          have bLn : i < L := by omega
          have cy : wr.cell? ⟨g, o + i, none⟩ = some (.int .u8 (y : Int)) := (hdn.cell _).trans (ax.2.2.2.2.2.2.2 i y hy)
          have hd0 : ∀ h : k < S.size, (S[k]'h).toNat = d := by rw [ax.2.2.2.1]; exact fun h => st_get ax.2.2.2.2.1 hd h
          by_cases hyd : y = d
          · rw [hyd] at hlk
            simp only [lkB, if_pos] at hlk
            have e3 : ((y : Int) == (d : Int)) = true := by rw [beq_iff_eq]; omega
            have A2 : Aside (Dn w wr ∧ lkB (D.drop (k + 1)) (x.drop (i + 1)) = (r1, r2) ∧ k + gk = M ∧ k < M ∧ i + 1 ≤ L) := ⟨hdn, hlk, hkg, hk, by omega⟩
            subst hyd
            clear hT ax hk hd hdrop hI hdn hkg hi hiL hy hxd hlk
            go_upto_region 16 with fail
            go_quiet (fail)
            go_wp2_with fail
            have a2 := A2.out
            go_roundg (gk - 1)
            case measure => omega
            case rel => exact ⟨i + 1, k + 1, by go_num, by go_num, ⟨by omega, by omega, a2.2.1, a2.1.drewN _⟩⟩
          · simp only [lkB, if_neg hyd, Prod.mk.injEq] at hlk
            obtain ⟨rfl, rfl⟩ := hlk
            have e3 : ((y : Int) == (d : Int)) = false := by rw [beq_eq_false_iff_ne]; omega
            have A2 : Aside (Dn w wr) := hdn
            clear hT ax hk hd hdrop hI hdn hkg hi hiL hy hxd hyd
            go_upto_region 16 with fail
            go_quiet (fail)
            clear bk bi
            go_wp2_with fail
            first | go_ret | go_ret2
            exact ⟨rfl, A2.out.drewN _⟩
      · have tk1 : ((k : Int) < (M : Int)) = False := eq_false (by omega)
        have tk2 : (k < M) = False := eq_false hk
        have hlk2 : lkD (x.drop i) = (r1, r2) := by
          rw [List.drop_eq_nil_of_le (by have := ax.2.2.1; omega)] at hlk
          exact hlk
        have A2 : Aside (Dn w wr ∧ lkD (x.drop i) = (r1, r2) ∧ i ≤ L) := ⟨hdn, hlk2, hi⟩
        clear hT hk hI hdn hkg hi hlk hlk2 bk ax
        go_upto_region 20 with fail
        obtain ⟨q, hq⟩ : ∃ q, decide ((x.drop i).head? = some 45) = q := ⟨_, rfl⟩
        go_cut [67] (fun s67 wc => s67 = .bool q ∧ wc = wr)
        case first =>
          have ax := AX.out
          have a2 := A2.out
          by_cases hiL : i < L
          · obtain ⟨y, hy⟩ : ∃ y, x[i]? = some y := ⟨_, List.getElem?_eq_getElem (by have := ax.1; omega)⟩
            have hxd : x.drop i = y :: x.drop (i + 1) := drop_more hy
            have cy : wr.cell? ⟨g, o + i, none⟩ = some (.int .u8 (y : Int)) := (a2.1.cell _).trans (ax.2.2.2.2.2.2.2 i y hy)
            have t3 : ((i : Int) < (L : Int)) = True := eq_true (by omega)
            have t4 : (i < L) = True := eq_true hiL
            have he : ((y : Int) == 45) = q := by
              rw [← hq, hxd, Bool.eq_iff_iff, beq_iff_eq, decide_eq_true_iff]
              simp
              omega
            clear a2 ax hy hxd hq hiL
            go_wp2_with fail
            go_meet
            exact ⟨by rw [← he], rfl⟩
          · have t3 : ((i : Int) < (L : Int)) = False := eq_false (by omega)
            have t4 : (i < L) = False := eq_false hiL
            have hq2 : q = false := by
              rw [← hq, List.drop_eq_nil_of_le (by have := ax.1; omega)]; rfl
            subst hq2
            clear a2 ax hq hiL
            go_wp2_with fail
            go_meet
            exact ⟨rfl, rfl⟩
        case rest =>
          obtain ⟨rfl, hw2⟩ := hcut
          have hw2 := hw2.symm
          subst hw2
          go_upto_if 67 with fail
          go_cut [8, 11] (fun s8 s11 wc => ∃ (i : Nat) (l : Bool), s8 = .int .i64 (i : Int) ∧ s11 = .bool l ∧ wc = wr ∧ Aside (i ≤ L ∧ lkP (x.drop i) 0 l = (r1, r2)))
          case first =>
            have ax := AX.out
            have a2 := A2.out
            cases q with
            | false =>
              have hne : ¬ (x.drop i).head? = some 45 := by simpa using hq
              have hP : lkP (x.drop i) 0 false = (r1, r2) := by rw [← a2.2.1]; simp only [lkD, if_neg hne]
              have A3 : Aside (i ≤ L ∧ lkP (x.drop i) 0 false = (r1, r2)) := ⟨a2.2.2, hP⟩
              clear a2 ax hq hne hP
              go_wp2_with fail
              go_meet
              exact ⟨i, false, rfl, rfl, rfl, A3.out⟩
            | true =>
              have hh : (x.drop i).head? = some 45 := by simpa using hq
              have hiL : i < L := by
                by_cases e : i < L
                · exact e
                · rw [List.drop_eq_nil_of_le (by have := ax.1; omega)] at hh; simp at hh
              have hD2 := a2.2.1
              simp only [lkD, if_pos hh] at hD2
              rw [List.tail_drop] at hD2
              by_cases h1 : i + 1 = L
              · have e0 : x.drop (i + 1) = [] := List.drop_eq_nil_of_le (by have := ax.1; omega)
                rw [if_pos e0] at hD2
                simp only [Prod.mk.injEq] at hD2
                obtain ⟨rfl, rfl⟩ := hD2
                have e1 : ((i : Int) + 1 == (L : Int)) = true := by rw [beq_iff_eq]; omega
                have A3 : Aside (Dn w wr) := a2.1
                clear a2 ax hq hh hiL e0 h1
                go_wp2_with fail
                first | go_ret | go_ret2
                exact ⟨rfl, A3.out⟩
              · have e1 : ((i : Int) + 1 == (L : Int)) = false := by rw [beq_eq_false_iff_ne]; omega
                obtain ⟨y, hy⟩ : ∃ y, x[i + 1]? = some y := ⟨_, List.getElem?_eq_getElem (by have := ax.1; omega)⟩
                have hxd : x.drop (i + 1) = y :: x.drop (i + 1 + 1) := drop_more hy
                have cy : wr.cell? ⟨g, o + (i + 1), none⟩ = some (.int .u8 (y : Int)) := (a2.1.cell _).trans (ax.2.2.2.2.2.2.2 (i + 1) y hy)
                rw [hxd, if_neg (by simp)] at hD2
                have b1 : (i : Int) + 1 < (L : Int) := by omega
                have b2 : i + 1 < L := by omega
                by_cases hy45 : y = 45
                · subst hy45
                  simp only [List.head?_cons, if_pos, List.tail_cons] at hD2
                  have A3 : Aside (i + 2 ≤ L ∧ lkP (x.drop (i + 2)) 0 true = (r1, r2)) := ⟨by omega, hD2⟩
                  clear a2 ax hq hh hiL h1 hy hxd hD2
                  go_wp2_with fail
                  go_meet
                  exact ⟨i + 2, true, by go_num, rfl, rfl, A3.out⟩
                · rw [if_neg (by simpa using hy45)] at hD2
                  simp only [Prod.mk.injEq] at hD2
                  obtain ⟨rfl, rfl⟩ := hD2
                  have e4 : ((y : Int) == 45) = false := by rw [beq_eq_false_iff_ne]; omega
                  have A3 : Aside (Dn w wr) := a2.1
                  have hw1 : wrap64 ((i : Int) + 1) = (i : Int) + 1 := w64_id _ (by omega) (by omega)
                  clear a2 ax hq hh hiL h1 hy hxd hy45 bi
                  go_wp2_with fail
                  first | go_ret | go_ret2
                  exact ⟨rfl, A3.out⟩
          case rest =>
            obtain ⟨i2, l, rfl, rfl, hw3, hP⟩ := hcut
            have hw3 := hw3.symm
            subst hw3
            have AD : Aside (Dn w wr) := A2.out.1
            have AQ : Aside (i2 ≤ L ∧ lkP (x.drop i2) 0 l = (r1, r2)) := hP.out
            clear A2 hP hq bi
            go_wp2_with fail
            obtain ⟨w9, hw9⟩ : ∃ w9, w9 = wr := ⟨_, rfl⟩
            obtain ⟨gz, hgz⟩ : ∃ gz, gk = gz := ⟨_, rfl⟩
            subst hgz
            subst hw9
            go_loopg [8, 12] (L + 1 - i2) (fun gg s8 s12 wq => ∃ i n : Nat, s8 = .int .i64 (i : Int) ∧ s12 = .int .i64 (n : Int) ∧ wq = w9 ∧ Aside (i + gg = L + 1 ∧ n ≤ 16 ∧ i ≤ L ∧ lkP (x.drop i) n l = (r1, r2)))
            case atStart => exact ⟨i2, 0, rfl, rfl, rfl, ⟨by have := AQ.out.1; omega, by omega, AQ.out.1, AQ.out.2⟩⟩
            case round =>
              obtain ⟨i, n, rfl, rfl, hw4, hT⟩ := hrel
              subst hw4
              obtain ⟨hig, hn, hi, hlk⟩ := hT.out
              have ax := AX.out
              by_cases hiL : i < L
              · obtain ⟨y, hy⟩ : ∃ y, x[i]? = some y := ⟨_, List.getElem?_eq_getElem (by have := ax.1; omega)⟩
                have hxd : x.drop i = y :: x.drop (i + 1) := drop_more hy
                have cy : wr.cell? ⟨g, o + i, none⟩ = some (.int .u8 (y : Int)) := (AD.out.cell _).trans (ax.2.2.2.2.2.2.2 i y hy)
                have t3 : ((i : Int) < (L : Int)) = True := eq_true (by omega)
                have t4 : (i < L) = True := eq_true hiL
                have e0 : ((i : Int) == (L : Int)) = false := by rw [beq_eq_false_iff_ne]; omega
                have hwi : Aside (wrap64 ((i : Int) + 1) = (i : Int) + 1) := w64_id _ (by omega) (by omega)
                rw [hxd] at hlk
                simp only [lkP] at hlk
                by_cases hb : y = 9 ∨ y = 32
                · rw [if_pos hb] at hlk
                  by_cases h16 : n = 16
                  · rw [if_pos h16] at hlk
                    simp only [Prod.mk.injEq] at hlk
                    obtain ⟨rfl, rfl⟩ := hlk
                    subst h16
                    clear hT ax hy hxd hig hn hi hiL
                    rcases hb with rfl | rfl
                    all_goals
                      go_wp2_with fail
                      first | go_ret | go_ret2
                      exact ⟨rfl, AD.out⟩
                  · rw [if_neg h16] at hlk
                    have e16 : ((n : Int) == 16) = false := by rw [beq_eq_false_iff_ne]; omega
                    have bn : (n : Int) < 100 := by omega
                    have A4 : Aside (i + gk = L + 1 ∧ i < L ∧ n + 1 ≤ 16 ∧ lkP (x.drop (i + 1)) (n + 1) l = (r1, r2)) := ⟨hig, hiL, by omega, hlk⟩
                    clear hT ax hy hxd hig hn hi hiL hlk h16
                    rcases hb with rfl | rfl
                    all_goals
                      have hw1 := hwi.out
                      go_wp2_with fail
                      have a4 := A4.out
                      clear hw1
                      go_roundg (gk - 1)
                      case measure => omega
                      case rel => exact ⟨i + 1, n + 1, by first | (rw [hwi.out]; rfl) | go_num, by go_num, rfl, ⟨by omega, by omega, by omega, a4.2.2.2⟩⟩
                · rw [if_neg hb] at hlk
                  have e9 : ((y : Int) == 9) = false := by rw [beq_eq_false_iff_ne]; omega
                  have e32 : ((y : Int) == 32) = false := by rw [beq_eq_false_iff_ne]; omega
                  by_cases h13 : y = 13
                  · subst h13
                    by_cases h1 : i + 1 = L
                    · have hnil : x.drop (i + 1) = [] := List.drop_eq_nil_of_le (by have := ax.1; omega)
                      rw [hnil, if_pos ⟨rfl, rfl⟩] at hlk
                      simp only [Prod.mk.injEq] at hlk
                      obtain ⟨rfl, rfl⟩ := hlk
                      have e1 : ((i : Int) + 1 == (L : Int)) = true := by rw [beq_iff_eq]; omega
                      clear hT ax hy hxd hig hn hi hiL hb hnil h1
                      have hw1 := hwi.out
                      go_wp2_with fail
                      first | go_ret | go_ret2
                      exact ⟨rfl, AD.out⟩
                    · obtain ⟨z, hz2⟩ : ∃ z, x[i + 1]? = some z := ⟨_, List.getElem?_eq_getElem (by have := ax.1; omega)⟩
                      have hxd2 : x.drop (i + 1) = z :: x.drop (i + 1 + 1) := drop_more hz2
                      have cz : wr.cell? ⟨g, o + (i + 1), none⟩ = some (.int .u8 (z : Int)) := (AD.out.cell _).trans (ax.2.2.2.2.2.2.2 (i + 1) z hz2)
                      have e1 : ((i : Int) + 1 == (L : Int)) = false := by rw [beq_eq_false_iff_ne]; omega
                      have b1 : ((i : Int) + 1 < (L : Int)) = True := eq_true (by omega)
                      have b2 : (i + 1 < L) = True := eq_true (by omega)
                      rw [hxd2, if_neg (by simp)] at hlk
                      by_cases hz10 : z = 10
                      · subst hz10
                        rw [if_pos (by simp)] at hlk
                        simp only [Prod.mk.injEq] at hlk
                        obtain ⟨rfl, rfl⟩ := hlk
                        clear hT ax hy hxd hig hn hi hiL hb h1 hz2 hxd2
                        have hw1 := hwi.out
                        go_wp2_with fail
                        first | go_ret | go_ret2
                        exact ⟨rfl, AD.out⟩
                      · rw [if_neg (by simp [hz10])] at hlk
                        simp only [Prod.mk.injEq] at hlk
                        obtain ⟨rfl, rfl⟩ := hlk
                        have ez : ((z : Int) == 10) = false := by rw [beq_eq_false_iff_ne]; omega
                        clear hT ax hy hxd hig hn hi hiL hb h1 hz2 hxd2 hz10
                        have hw1 := hwi.out
                        go_wp2_with fail
                        first | go_ret | go_ret2
                        exact ⟨rfl, AD.out⟩
                  · have e13 : ((y : Int) == 13) = false := by rw [beq_eq_false_iff_ne]; omega
                    rw [if_neg (by simp [h13])] at hlk
                    by_cases h10 : y = 10
                    · subst h10
                      rw [if_pos (by simp)] at hlk
                      simp only [Prod.mk.injEq] at hlk
                      obtain ⟨rfl, rfl⟩ := hlk
                      clear hT ax hy hxd hig hn hi hiL hb h13 e13 e9 e32
                      go_wp2_with fail
                      first | go_ret | go_ret2
                      exact ⟨rfl, AD.out⟩
                    · rw [if_neg (by simp [h13, h10])] at hlk
                      simp only [Prod.mk.injEq] at hlk
                      obtain ⟨rfl, rfl⟩ := hlk
                      have e10 : ((y : Int) == 10) = false := by rw [beq_eq_false_iff_ne]; omega
                      clear hT ax hy hxd hig hn hi hiL hb h13 h10
                      go_wp2_with fail
                      first | go_ret | go_ret2
                      exact ⟨rfl, AD.out⟩
              · have t3 : ((i : Int) < (L : Int)) = False := eq_false (by omega)
                have t4 : (i < L) = False := eq_false hiL
                have e0 : ((i : Int) == (L : Int)) = true := by rw [beq_iff_eq]; omega
                rw [List.drop_eq_nil_of_le (by have := ax.1; omega)] at hlk
                simp only [lkP, Prod.mk.injEq] at hlk
                obtain ⟨rfl, rfl⟩ := hlk
                clear hT ax hig hn hi hiL
                go_wp2_with fail
                first | go_ret | go_ret2
                exact ⟨rfl, AD.out⟩
theorem look_c (w : World) (a : Option Addr) (x : List Nat) (L c : Nat) (b : List Nat) (ho : Oct b) (hb : b.length ≤ 1000) (f : Bool) (hL : x.length = L) (hLb : L ≤ 100000000) (hx : Lies w a x) :
    Calls Try.prog 31 #[.slice a L c, .string (st b), .bool f] w fun e w' => e = .returned (.tuple #[.int .i64 ((look (dd b) f x).1 : Nat), .bool (look (dd b) f x).2]) ∧ Dn w w' := by
  rcases hx with rfl | ⟨g, o, rfl, hx⟩
  · have h0 : L = 0 := by simpa using hL.symm
    subst h0
    have e : look (dd b) f [] = (1, false) := by cases f <;> simp [look, lkE, lkB, dd]
    rw [e]
    exact look_nil w a c b ho hb f
  · exact look_some w g o x L c b ho hb f hL hLb hx
end Go.Proofs.Ytbndohpcaahenaa

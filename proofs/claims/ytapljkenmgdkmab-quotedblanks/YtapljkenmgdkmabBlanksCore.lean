/-
  QuotedBlanks' walk.
-/
import Derived.Test.YtapljkenmgdkmabTwo
import Derived.Deep.LoopGhost
namespace Go.Proofs.Ytapljkenmgdkmab
open Go.RowKit
set_option linter.unusedVariables false
def Octs (ll : List (List Nat)) : Prop := ∀ l ∈ ll, Oct l
/-- Slices of bytes that lie side by side. -/
def Rows2 (w : World) (a : Option Addr) (ll : List (List Nat)) : Prop := ll = [] ∨ ∃ (b o : Nat), a = some ⟨b, o, none⟩ ∧ ∀ (i : Nat) (l : List Nat), ll[i]? = some l → ∃ (ai : Option Addr) (ci : Nat), w.cell? ⟨b, o + i, none⟩ = some (.slice ai l.length ci) ∧ Lies w ai l
theorem Below.drewN' {B : Nat} {w u : World} (h : Below B w u) (n : Nat) : Below B w (u.drewN n) := h.trans (((Only.refl B u).drewN n).below (Nat.le_refl _))
theorem Lies.at' {w : World} {b o : Nat} {l : List Nat} (h : Lies w (some ⟨b, o, none⟩) l) {i x : Nat} (hx : l[i]? = some x) : w.cell? ⟨b, o + i, none⟩ = some (.int .u8 (x : Int)) := by
  rcases h with rfl | ⟨b', o', ha, hc⟩
  · simp at hx
  · cases ha; exact hc i x hx
theorem Lies.some' {w : World} {a : Option Addr} {l : List Nat} (h : Lies w a l) (hl : 0 < l.length) : ∃ b o, a = some ⟨b, o, none⟩ := by
  rcases h with rfl | ⟨b, o, ha, _⟩
  · simp at hl
  · exact ⟨b, o, ha⟩
/-- While the lines are laid. -/
structure Lw (w wr : World) (B : Nat) (s5 s6 : Value) (X Y V : List Nat) (n : Nat) : Prop where
  t : Tw2 wr B s5 s6 X Y
  r : run .no [] X = some (.no, V, Y)
  o : Oct X
  q : Oct Y
  lx : X.length ≤ n
  ly : Y.length ≤ n
  b : Below B w wr
theorem oct_app {l m : List Nat} (h : Oct l) (k : Oct m) : Oct (l ++ m) := fun x hx => by
  rcases List.mem_append.1 hx with hx | hx
  · exact h x hx
  · exact k x hx
set_option maxRecDepth 20000 in
set_option maxHeartbeats 4000000 in
theorem blanks_core (w : World) (a : Option Addr) (ll : List (List Nat)) (La Ca : Nat) (a' : Option Addr) (t : List Nat) (M C' : Nat) (hr : Rows2 w a ll) (hL : ll.length = La) (ho : Octs ll) (ht : Lies w a' t) (hM : t.length = M) (ho' : Oct t) :
    Calls Try.prog 3 #[.slice a La Ca, .slice a' M C'] w fun e w' => e = .returned (.bool true) ∧ Below w.heap.size w w' := by
  obtain ⟨B, hB⟩ : ∃ B, w.heap.size = B := ⟨_, rfl⟩
  rw [hB]
  have A : Aside (Rows2 w a ll ∧ ll.length = La ∧ Octs ll ∧ Lies w a' t ∧ t.length = M ∧ Oct t ∧ w.heap.size = B) := ⟨hr, hL, ho, ht, hM, ho', hB⟩
  clear hr hL ho ht hM ho' hB
  go_enter Try.func3, Try.ntmps3
  go_wp2_with fail
  go_loopg [5, 6, 7, 8, 9, 10, 11] 50 (fun gg s5 s6 s7 s8 s9 s10 s11 wr => ∃ i : Nat, s7 = .int .i64 (i : Int) ∧ Aside (i + gg = 50 ∧ ∃ X Y, Lw w wr B s5 s6 X Y [] (400 * i)))
  case atStart =>
    have a0 := A.out
    exact ⟨0, rfl, by omega, [], [], ⟨⟨Ow.nil (by omega), Ow.nil (by omega), fun g h => by cases h⟩, rfl, (fun x hx => by cases hx), (fun x hx => by cases hx), by simp, by simp, Below.refl _ _⟩⟩
  case round =>
    obtain ⟨i, rfl, hI⟩ := hrel
    obtain ⟨hig, X, Y, hlw⟩ := hI.out
    obtain ⟨G, hG⟩ : ∃ G, G = gk := ⟨_, rfl⟩
    subst hG
    have a0 := A.out
    obtain ⟨xa, xc, hx5, _⟩ := Ob.shape hlw.t.a
    obtain ⟨ya, yc, hy6, _⟩ := Ob.shape hlw.t.b
    obtain ⟨xn, hxn⟩ : ∃ n, X.length = n := ⟨_, rfl⟩
    obtain ⟨yn, hyn⟩ : ∃ n, Y.length = n := ⟨_, rfl⟩
    rw [hxn] at hx5
    rw [hyn] at hy6
    subst hx5
    subst hy6
    have hiI : (i : Int) < 51 := by omega
    by_cases hi : i < La ∧ i < 50
    · have t1 : ((i : Int) < (La : Int)) = True := eq_true (by omega)
      have t1' : (i < La) = True := eq_true hi.1
      have t2 : ((i : Int) < 50) = True := eq_true (by omega)
      have t2' : (i < 50) = True := eq_true hi.2
      obtain ⟨li, hli⟩ : ∃ li, ll[i]? = some li := ⟨_, List.getElem?_eq_getElem (by omega)⟩
      obtain ⟨lb, lo, ai, ci, hal, hcl, hlil⟩ : ∃ lb lo ai ci, a = some ⟨lb, lo, none⟩ ∧ w.cell? ⟨lb, lo + i, none⟩ = some (.slice ai li.length ci) ∧ Lies w ai li := by
        rcases a0.1 with e | ⟨lb, lo, e, h⟩
        · rw [e] at hli; simp at hli
        · obtain ⟨ai, ci, h1, h2⟩ := h i li hli
          exact ⟨lb, lo, ai, ci, e, h1, h2⟩
      subst hal
      obtain ⟨ln, hln⟩ : ∃ n, li.length = n := ⟨_, rfl⟩
      rw [hln] at hcl
      have hoi : Oct li := a0.2.2.1 li (List.mem_of_getElem? hli)
      have AX : Aside (i + G = 50 ∧ i < 50 ∧ Oct li ∧ li.length = ln ∧ Lies w ai li ∧ w.cell? ⟨lb, lo + i, none⟩ = some (.slice ai ln ci) ∧ w.heap.size = B) := ⟨hig, hi.2, hoi, hln, hlil, hcl, a0.2.2.2.2.2.2⟩
      have AW : Aside (Lw w wr B (.slice xa xn xc) (.slice ya yn yc) X Y [] (400 * i)) := hlw
      clear hI hig hlw a0 hxn hyn hi hli hcl hlil hln hoi
      go_wp2_with fail
      go_loopg [5, 6, 8, 9] 70 (fun gg s5 s6 s8 s9 wq => ∃ k : Nat, s8 = .int .i64 (k : Int) ∧ Aside (k + gg = 70 ∧ ∃ X Y, Lw w wq B s5 s6 X Y [] (400 * i + 4 * k)))
      case atStart => exact ⟨0, rfl, by omega, X, Y, AW.out⟩
      case round =>
        obtain ⟨k, rfl, hJ⟩ := hrel
        obtain ⟨hkg, X, Y, hlw⟩ := hJ.out
        have ax := AX.out
        obtain ⟨xa, xc, hx5, _⟩ := Ob.shape hlw.t.a
        obtain ⟨ya, yc, hy6, _⟩ := Ob.shape hlw.t.b
        obtain ⟨xn, hxn⟩ : ∃ n, X.length = n := ⟨_, rfl⟩
        obtain ⟨yn, hyn⟩ : ∃ n, Y.length = n := ⟨_, rfl⟩
        rw [hxn] at hx5
        rw [hyn] at hy6
        subst hx5
        subst hy6
        have hkI : (k : Int) < 71 := by omega
        have hclt := World.block_lt_of_cell? w ⟨lb, lo + i, none⟩ ax.2.2.2.2.2.1
        rw [ax.2.2.2.2.2.2] at hclt
        have cl : ∀ W, Below B w W → W.cell? ⟨lb, lo + i, none⟩ = some (.slice ai ln ci) := fun W hW => (hW.cell (p := ⟨lb, lo + i, none⟩) hclt).trans ax.2.2.2.2.2.1
        obtain ⟨q, hq⟩ : ∃ q, decide (k < ln ∧ k < 70) = q := ⟨_, rfl⟩
        have AQ : Aside (decide (k < ln ∧ k < 70) = q) := hq
        have AJ : Aside (k + gk = 70 ∧ Lw w wr B (.slice xa xn xc) (.slice ya yn yc) X Y [] (400 * i + 4 * k)) := ⟨hkg, hlw⟩
        have ACL : Aside (∀ W, Below B w W → W.cell? ⟨lb, lo + i, none⟩ = some (.slice ai ln ci)) := cl
        have c5 := cl wr hlw.b
        clear hJ hkg hlw ax hclt hq hxn hyn cl
        go_upto_region 6 with fail
        go_cut [35] from 25 to 70 (fun s35 wc => s35 = .bool q ∧ wc = wr)
        case first =>
          by_cases h1 : k < ln
          · have u1 : ((k : Int) < (ln : Int)) = True := eq_true (by omega)
            have u1' : (k < ln) = True := eq_true h1
            by_cases h2 : k < 70
            · have u2 : ((k : Int) < 70) = True := eq_true (by omega)
              have u2' : (k < 70) = True := eq_true h2
              have e : q = true := by rw [← AQ.out]; exact decide_eq_true ⟨h1, h2⟩
              clear h1 h2
              go_wp2_with fail
              go_meet
              exact ⟨by rw [e], rfl⟩
            · have u2 : ((k : Int) < 70) = False := eq_false (by omega)
              have u2' : (k < 70) = False := eq_false h2
              have e : q = false := by rw [← AQ.out]; exact decide_eq_false (by omega)
              clear h1 h2
              go_wp2_with fail
              go_meet
              exact ⟨by rw [e], rfl⟩
          · have u1 : ((k : Int) < (ln : Int)) = False := eq_false (by omega)
            have u1' : (k < ln) = False := eq_false h1
            have e : q = false := by rw [← AQ.out]; exact decide_eq_false (by omega)
            clear h1
            go_wp2_with fail
            go_meet
            exact ⟨by rw [e], rfl⟩
        case rest =>
          obtain ⟨rfl, hw⟩ := hcut
          have hw := hw.symm
          subst hw
          cases q with
          | true =>
            have hkk := of_decide_eq_true AQ.out
            have ax := AX.out
            have aj := AJ.out
            obtain ⟨x, hx⟩ : ∃ x, li[k]? = some x := ⟨_, List.getElem?_eq_getElem (by omega)⟩
            have hx256 := ax.2.2.1 x (List.mem_of_getElem? hx)
            have hlq : ∀ W, Below B w W → Lies W ai li := fun W hW => ax.2.2.2.2.1.below (by rw [ax.2.2.2.2.2.2]; exact hW)
            obtain ⟨ab, ao, ha⟩ := (hlq wr aj.2.b).some' (by omega)
            subst ha
            have ACX : Aside (∀ W, Below B w W → W.cell? ⟨ab, ao + k, none⟩ = some (.int .u8 (x : Int))) := fun W hW => (hlq W hW).at' hx
            have cx := ACX.out wr aj.2.b
            obtain ⟨m20, hm20⟩ : ∃ m, x % 20 = m := ⟨_, rfl⟩
            obtain ⟨c, hc⟩ : ∃ c, 97 + m20 = c := ⟨_, rfl⟩
            have hmI : (x : Int).tmod 20 = (m20 : Int) := by rw [Int.tmod_eq_emod_of_nonneg (by omega)]; omega
            have hcI : (97 : Int) + (m20 : Int) = (c : Int) := by omega
            have hmb : (m20 : Int) < 20 := by omega
            have hcb : (c : Int) < 117 := by omega
            have ACB : Aside (97 ≤ c ∧ c ≤ 116) := ⟨by omega, by omega⟩
            have hkN : (k : Int) < (ln : Int) := by omega
            have ABX : Aside (x < 256 ∧ k < ln ∧ k < 70 ∧ i < 50) := ⟨hx256, hkk.1, hkk.2, ax.2.1⟩
            clear hkk ax hx hx256 hlq hm20 hc
            have hbel := aj.2.b
            clear aj
            go_upto_region 9 with fail
            have aj := AJ.out
            have ac := ACB.out
            obtain ⟨H7, hH7⟩ : ∃ H, wr.heap.size = H := ⟨_, rfl⟩
            have bal7 : Below wr.heap.size wr (wr.alloc (.cells #[.int .u8 (c : Int)] 5)) := (Below.refl _ wr).alloc (Nat.le_refl _) _
            have tw7 : Tw2 (wr.alloc (.cells #[.int .u8 (c : Int)] 5)) B (.slice xa xn xc) (.slice ya yn yc) X Y := Tw2.below AJ.out.2.t bal7
            have hl7 : Lies (wr.alloc (.cells #[.int .u8 (c : Int)] 5)) (some ⟨H7, 0, none⟩) [c] := lies_one wr H7 c hH7
            have AL7 : Aside ((X).length + ([c] : List Nat).length ≤ 140737488355328) := (show _ ≤ _ by have := AJ.out.2.lx; have := ABX.out; simp; omega)
            have AB7 : Aside (Below B w (wr.alloc (.cells #[.int .u8 (c : Int)] 5))) := hbel.trans (bal7.mono AJ.out.2.t.a.le)
            clear aj ac hbel cx hmI hcI
            go_upto_region 10 with (at_builtin; refine wpList_tw _ rfl (.tmp 47) (.tmp 49) rfl B (.slice xa xn xc) (.slice ya yn yc) X Y (by rfl) tw7 H7 [c] 1 1 rfl (by decide) (by rfl) hl7 AL7.out ?_; intro v7 w7 hap7)

            obtain ⟨xa7, xc7, hv7, _⟩ := Ob.shape hap7.t.a
            obtain ⟨xn7, hxn7⟩ : ∃ n, (X ++ [c]).length = n := ⟨_, rfl⟩
            rw [hxn7] at hv7
            subst hv7
            have AB7' : Aside (Below B w w7) := AB7.out.trans hap7.bel
            have AT7 : Aside (Tw2 w7 B (.slice xa7 xn7 xc7) (.slice ya yn yc) (X ++ [c]) Y) := hap7.t
            clear bal7 tw7 hl7 hap7 hxn7 hH7
            obtain ⟨H8, hH8⟩ : ∃ H, w7.heap.size = H := ⟨_, rfl⟩
            have bal8 : Below w7.heap.size w7 (w7.alloc (.cells #[.int .u8 (c : Int)] 5)) := (Below.refl _ w7).alloc (Nat.le_refl _) _
            have tw8 : Tw2 (w7.alloc (.cells #[.int .u8 (c : Int)] 5)) B (.slice ya yn yc) (.slice xa7 xn7 xc7) Y (X ++ [c]) := Tw2.below AT7.out.swap bal8
            have hl8 : Lies (w7.alloc (.cells #[.int .u8 (c : Int)] 5)) (some ⟨H8, 0, none⟩) [c] := lies_one w7 H8 c hH8
            have AL8 : Aside ((Y).length + ([c] : List Nat).length ≤ 140737488355328) := (show _ ≤ _ by have := AJ.out.2.ly; have := ABX.out; simp; omega)
            have AB8 : Aside (Below B w (w7.alloc (.cells #[.int .u8 (c : Int)] 5))) := AB7'.out.trans (bal8.mono AT7.out.a.le)
            skip
            go_upto_region 11 with (at_builtin; refine wpList_tw _ rfl (.tmp 51) (.tmp 53) rfl B (.slice ya yn yc) (.slice xa7 xn7 xc7) Y (X ++ [c]) (by rfl) tw8 H8 [c] 1 1 rfl (by decide) (by rfl) hl8 AL8.out ?_; intro v8 w8 hap8)

            obtain ⟨ya8, yc8, hv8, _⟩ := Ob.shape hap8.t.a
            obtain ⟨yn8, hyn8⟩ : ∃ n, (Y ++ [c]).length = n := ⟨_, rfl⟩
            rw [hyn8] at hv8
            subst hv8
            have AB8' : Aside (Below B w w8) := AB8.out.trans hap8.bel
            have AT8 : Aside (Tw2 w8 B (.slice xa7 xn7 xc7) (.slice ya8 yn8 yc8) (X ++ [c]) (Y ++ [c])) := hap8.t.swap
            have c8 := ACL.out w8 AB8'.out
            have cx8 := ACX.out w8 AB8'.out
            clear bal8 tw8 hl8 hap8 hyn8 hH8 c5
            have AL2 : Aside (Lw w w8 B (.slice xa7 xn7 xc7) (.slice ya8 yn8 yc8) (X ++ [c]) (Y ++ [c]) [] (400 * i + 4 * k + 1)) := by
              have aj := AJ.out
              have ac := ACB.out
              have hoc : Oct [c] := fun z hz => by simp at hz; omega
              exact ⟨AT8.out, run_letter aj.2.r ac.1 ac.2, oct_app aj.2.o hoc, oct_app aj.2.q hoc, by have := aj.2.lx; simp; omega, by have := aj.2.ly; simp; omega, AB8'.out⟩
            by_cases h200 : 200 < x
            · have u3 : ((200 : Int) < (x : Int)) = True := eq_true (by omega)
              have u3' : (200 < x) = True := eq_true h200
              clear h200
              go_upto_region 12 with fail
              clear c8 cx8
              obtain ⟨H10, hH10⟩ : ∃ H, w8.heap.size = H := ⟨_, rfl⟩
              have bal10 : Below w8.heap.size w8 (w8.alloc (.cells #[.int .u8 32, .int .u8 9, .int .u8 (c : Int)] 5)) := (Below.refl _ w8).alloc (Nat.le_refl _) _
              have tw10 : Tw2 (w8.alloc (.cells #[.int .u8 32, .int .u8 9, .int .u8 (c : Int)] 5)) B (.slice xa7 xn7 xc7) (.slice ya8 yn8 yc8) (X ++ [c]) (Y ++ [c]) := Tw2.below AT8.out bal10
              have hl10 : Lies (w8.alloc (.cells #[.int .u8 32, .int .u8 9, .int .u8 (c : Int)] 5)) (some ⟨H10, 0, none⟩) [32, 9, c] := lies_new w8 H10 hH10 [32, 9, c] (0, 0)
              have AL10 : Aside (((X ++ [c])).length + ([32, 9, c] : List Nat).length ≤ 140737488355328) := (show _ ≤ _ by have := AJ.out.2.lx; have := ABX.out; simp; omega)
              have AB10 : Aside (Below B w (w8.alloc (.cells #[.int .u8 32, .int .u8 9, .int .u8 (c : Int)] 5))) := AB8'.out.trans (bal10.mono AT8.out.a.le)
              skip
              go_upto_region 13 with (at_builtin; refine wpList_tw _ rfl (.tmp 63) (.tmp 65) rfl B (.slice xa7 xn7 xc7) (.slice ya8 yn8 yc8) (X ++ [c]) (Y ++ [c]) (by rfl) tw10 H10 [32, 9, c] 3 3 rfl (by decide) (by rfl) hl10 AL10.out ?_; intro v10 w10 hap10)

              obtain ⟨xa9, xc9, hv10, _⟩ := Ob.shape hap10.t.a
              obtain ⟨xn9, hxn9⟩ : ∃ n, (X ++ [c] ++ [32, 9, c]).length = n := ⟨_, rfl⟩
              rw [hxn9] at hv10
              subst hv10
              have AB10' : Aside (Below B w w10) := AB10.out.trans hap10.bel
              have AT10 : Aside (Tw2 w10 B (.slice xa9 xn9 xc9) (.slice ya8 yn8 yc8) (X ++ [c] ++ [32, 9, c]) (Y ++ [c])) := hap10.t
              clear bal10 tw10 hl10 hap10 hxn9 hH10
              obtain ⟨H11, hH11⟩ : ∃ H, w10.heap.size = H := ⟨_, rfl⟩
              have bal11 : Below w10.heap.size w10 (w10.alloc (.cells #[.int .u8 32, .int .u8 9, .int .u8 (c : Int)] 5)) := (Below.refl _ w10).alloc (Nat.le_refl _) _
              have tw11 : Tw2 (w10.alloc (.cells #[.int .u8 32, .int .u8 9, .int .u8 (c : Int)] 5)) B (.slice ya8 yn8 yc8) (.slice xa9 xn9 xc9) (Y ++ [c]) (X ++ [c] ++ [32, 9, c]) := Tw2.below AT10.out.swap bal11
              have hl11 : Lies (w10.alloc (.cells #[.int .u8 32, .int .u8 9, .int .u8 (c : Int)] 5)) (some ⟨H11, 0, none⟩) [32, 9, c] := lies_new w10 H11 hH11 [32, 9, c] (0, 0)
              have AL11 : Aside (((Y ++ [c])).length + ([32, 9, c] : List Nat).length ≤ 140737488355328) := (show _ ≤ _ by have := AJ.out.2.ly; have := ABX.out; simp; omega)
              have AB11 : Aside (Below B w (w10.alloc (.cells #[.int .u8 32, .int .u8 9, .int .u8 (c : Int)] 5))) := AB10'.out.trans (bal11.mono AT10.out.a.le)
              skip
              go_wp2_with (at_builtin; refine wpList_tw _ rfl (.tmp 67) (.tmp 69) rfl B (.slice ya8 yn8 yc8) (.slice xa9 xn9 xc9) (Y ++ [c]) (X ++ [c] ++ [32, 9, c]) (by rfl) tw11 H11 [32, 9, c] 3 3 rfl (by decide) (by rfl) hl11 AL11.out ?_; intro v11 w11 hap11)

              have aj := AJ.out
              have ab := ABX.out
              have al := AL2.out
              have ac := ACB.out
              have hoc : Oct [32, 9, c] := fun z hz => by simp at hz; omega
              go_roundg (gk - 1)
              case measure => omega
              case rel => exact ⟨k + 1, by go_num, by omega, X ++ [c] ++ [32, 9, c], Y ++ [c] ++ [32, 9, c], ⟨hap11.t.swap, run_pair al.r ac.1 ac.2, oct_app al.o hoc, oct_app al.q hoc, by have := aj.2.lx; simp; omega, by have := aj.2.ly; simp; omega, AB11.out.trans hap11.bel⟩⟩
            · have u3 : ((200 : Int) < (x : Int)) = False := eq_false (by omega)
              have u3' : (200 < x) = False := eq_false h200
              clear h200
              go_wp2_with fail
              have aj := AJ.out
              have ab := ABX.out
              have al := AL2.out
              go_roundg (gk - 1)
              case measure => omega
              case rel => exact ⟨k + 1, by go_num, by omega, X ++ [c], Y ++ [c], ⟨al.t, al.r, al.o, al.q, by have := al.lx; omega, by have := al.ly; omega, al.b⟩⟩
          | false =>
            have aj := AJ.out
            have ALw : Aside (Lw w wr B (.slice xa xn xc) (.slice ya yn yc) X Y [] (400 * i + 280)) := ⟨aj.2.t, aj.2.r, aj.2.o, aj.2.q, by have := aj.2.lx; omega, by have := aj.2.ly; omega, aj.2.b⟩
            clear aj AJ AQ c5
            go_upto_if 73 with fail
            obtain ⟨tm0, htm0⟩ : ∃ tm0, decide (0 < M) = tm0 := ⟨_, rfl⟩
            rw [htm0]
            have ATM : Aside (decide (0 < M) = tm0) := htm0
            clear htm0
            go_cut [10] from 15 to 112 (fun s10 wc => ∃ nn : Nat, s10 = .int .i64 (nn : Int) ∧ Aside (nn < 65) ∧ wc = wr)
            case first =>
              cases tm0 with
              | false =>
                go_wp2_with fail
                go_meet
                exact ⟨0, rfl, (show _ < _ by omega), rfl⟩
              | true =>
                have hM0 := of_decide_eq_true ATM.out
                have a0 := A.out
                obtain ⟨r, hr⟩ : ∃ r, i % M = r := ⟨_, rfl⟩
                have hrM : r < M := by rw [← hr]; exact Nat.mod_lt _ hM0
                obtain ⟨y, hy⟩ : ∃ y, t[r]? = some y := ⟨_, List.getElem?_eq_getElem (by omega)⟩
                have hy256 := a0.2.2.2.2.2.1 y (List.mem_of_getElem? hy)
                have hlt : Lies wr a' t := a0.2.2.2.1.below (by rw [a0.2.2.2.2.2.2]; exact ALw.out.b)
                obtain ⟨tb2, to2, hta⟩ := hlt.some' (by omega)
                subst hta
                have cy := hlt.at' hy
                have hrI : (i : Int).tmod (M : Int) = (r : Int) := by rw [Int.tmod_eq_emod_of_nonneg (by omega), ← Int.natCast_emod, hr]
                have hrI2 : (r : Int) < (M : Int) := by omega
                have hrb : (r : Int) < 51 := by have := Nat.mod_le i M; omega
                have hM0' : ((M : Int) == 0) = false := by rw [beq_eq_false_iff_ne]; omega
                have hM0'' : (M : Int) ≠ 0 := by omega
                obtain ⟨nn, hnn⟩ : ∃ n, y % 65 = n := ⟨_, rfl⟩
                have hnI : (y : Int).tmod 65 = (nn : Int) := by rw [Int.tmod_eq_emod_of_nonneg (by omega)]; omega
                have hnb : (nn : Int) < 65 := by omega
                have hyb : (y : Int) < 256 := by omega
                have AN9 : Aside (nn < 65) := (show _ < _ by omega)
                clear a0 hr hrM hy hy256 hlt hM0 hnn
                go_wp2_with fail
                go_meet
                exact ⟨nn, rfl, AN9.out, rfl⟩
            case rest =>
              obtain ⟨nn, rfl, ANN, hw⟩ := hcut
              have hw := hw.symm
              subst hw
              clear ATM
              go_wp2_with fail
              go_loopg [5, 11] nn (fun gg s5 s11 wz => ∃ k3 : Nat, s11 = .int .i64 (k3 : Int) ∧ Aside (k3 + gg = nn ∧ ∃ X V, Lw w wz B s5 (.slice ya yn yc) X Y V (400 * i + 280 + k3) ∧ V.length = k3))
              case atStart => exact ⟨0, rfl, by omega, X, [], ALw.out, rfl⟩
              case round =>
                obtain ⟨k3, rfl, hJ3⟩ := hrel
                obtain ⟨hkg3, X3, V3, hl3, hv3⟩ := hJ3.out
                obtain ⟨xa3, xc3, hx3, _⟩ := Ob.shape hl3.t.a
                obtain ⟨xn3, hxn3⟩ : ∃ n, X3.length = n := ⟨_, rfl⟩
                rw [hxn3] at hx3
                subst hx3
                clear hxn3
                have ax := AX.out
                have hnn := ANN.out
                have hk3I : (k3 : Int) < 66 := by omega
                by_cases hk3 : k3 < nn
                · have u5 : ((k3 : Int) < (nn : Int)) = True := eq_true (by omega)
                  have u5' : (k3 < nn) = True := eq_true hk3
                  obtain ⟨pk, hpk⟩ : ∃ q, i + k3 = q := ⟨_, rfl⟩
                  have hpkI : (i : Int) + (k3 : Int) = (pk : Int) := by omega
                  have hpkb : (pk : Int) < 200 := by omega
                  obtain ⟨H3, hH3⟩ : ∃ H, wr.heap.size = H := ⟨_, rfl⟩
                  clear hnn
                  by_cases hpar : pk % 2 = 0
                  · have hrI : ((pk : Int)).tmod 2 = 0 := by rw [Int.tmod_eq_emod_of_nonneg (by omega)]; omega
                    have cn : (wr.alloc (.cells #[.int .u8 32, .int .u8 9] 5)).cell? ⟨H3, 0, none⟩ = some (.int .u8 32) := by rw [← hH3, (Cells.new wr #[.int .u8 32, .int .u8 9] 5).cell]; rfl
                    obtain ⟨H4, hH4⟩ : ∃ H, (wr.alloc (.cells #[.int .u8 32, .int .u8 9] 5)).heap.size = H := ⟨_, rfl⟩
                    have bal3 : Below wr.heap.size wr (wr.alloc (.cells #[.int .u8 32, .int .u8 9] 5)) := (Below.refl _ wr).alloc (Nat.le_refl _) _
                    have bal4 : Below (wr.alloc (.cells #[.int .u8 32, .int .u8 9] 5)).heap.size (wr.alloc (.cells #[.int .u8 32, .int .u8 9] 5)) ((wr.alloc (.cells #[.int .u8 32, .int .u8 9] 5)).alloc (.cells #[.int .u8 32] 5)) := (Below.refl _ _).alloc (Nat.le_refl _) _
                    have tw4 : Tw2 ((wr.alloc (.cells #[.int .u8 32, .int .u8 9] 5)).alloc (.cells #[.int .u8 32] 5)) B (.slice xa3 xn3 xc3) (.slice ya yn yc) X3 Y := (Tw2.below (Tw2.below hl3.t bal3) bal4)
                    have hl4 : Lies ((wr.alloc (.cells #[.int .u8 32, .int .u8 9] 5)).alloc (.cells #[.int .u8 32] 5)) (some ⟨H4, 0, none⟩) [32] := lies_one (wr.alloc (.cells #[.int .u8 32, .int .u8 9] 5)) H4 32 hH4
                    have AL4 : Aside (X3.length + ([32] : List Nat).length ≤ 140737488355328) := (show _ ≤ _ by have := hl3.lx; simp; omega)
                    have AB4 : Aside (Below B w ((wr.alloc (.cells #[.int .u8 32, .int .u8 9] 5)).alloc (.cells #[.int .u8 32] 5))) := (hl3.b.trans (bal3.mono hl3.t.a.le)).trans (bal4.mono (Nat.le_trans hl3.t.a.le bal3.size))
                    have hH5 : (wr.alloc (.cells #[.int .u8 32, .int .u8 9] 5)).heap.size = H3 + 1 := by rw [← hH3]; show (wr.heap.push _).size = _; simp
                    have A3 : Aside (k3 + gk = nn ∧ k3 < nn ∧ Lw w wr B (.slice xa3 xn3 xc3) (.slice ya yn yc) X3 Y V3 (400 * i + 280 + k3) ∧ V3.length = k3) := ⟨hkg3, hk3, hl3, hv3⟩
                    have e45 : H4 = H3 + 1 := by rw [← hH4]; exact hH5
                    clear hpar hJ3 hkg3 hl3 hv3 hk3 bal3 bal4 ax hpk
                    subst e45
                    go_wp2_with (at_builtin; refine wpList_tw _ rfl (.tmp 88) (.tmp 96) rfl B (.slice xa3 xn3 xc3) (.slice ya yn yc) X3 Y (by rfl) tw4 (H3 + 1) [32] 1 1 rfl (by decide) (by rfl) hl4 AL4.out ?_; intro v9 w9 hap9)
                    have a3 := A3.out
                    have an := ANN.out
                    go_roundg (gk - 1)
                    case measure => omega
                    case rel =>
                      refine ⟨k3 + 1, by go_num, by omega, X3 ++ [32], V3 ++ [32], ⟨hap9.t, run_wait a3.2.2.1.r (by omega) (by omega), oct_app a3.2.2.1.o (fun z hz => by simp at hz; omega), a3.2.2.1.q, by have := a3.2.2.1.lx; simp; omega, by have := a3.2.2.1.ly; omega, AB4.out.trans hap9.bel⟩, by simp; omega⟩

                  · have hpar : pk % 2 = 1 := by omega
                    have hrI : ((pk : Int)).tmod 2 = 1 := by rw [Int.tmod_eq_emod_of_nonneg (by omega)]; omega
                    have cn : (wr.alloc (.cells #[.int .u8 32, .int .u8 9] 5)).cell? ⟨H3, 1, none⟩ = some (.int .u8 9) := by rw [← hH3, (Cells.new wr #[.int .u8 32, .int .u8 9] 5).cell]; rfl
                    obtain ⟨H4, hH4⟩ : ∃ H, (wr.alloc (.cells #[.int .u8 32, .int .u8 9] 5)).heap.size = H := ⟨_, rfl⟩
                    have bal3 : Below wr.heap.size wr (wr.alloc (.cells #[.int .u8 32, .int .u8 9] 5)) := (Below.refl _ wr).alloc (Nat.le_refl _) _
                    have bal4 : Below (wr.alloc (.cells #[.int .u8 32, .int .u8 9] 5)).heap.size (wr.alloc (.cells #[.int .u8 32, .int .u8 9] 5)) ((wr.alloc (.cells #[.int .u8 32, .int .u8 9] 5)).alloc (.cells #[.int .u8 9] 5)) := (Below.refl _ _).alloc (Nat.le_refl _) _
                    have tw4 : Tw2 ((wr.alloc (.cells #[.int .u8 32, .int .u8 9] 5)).alloc (.cells #[.int .u8 9] 5)) B (.slice xa3 xn3 xc3) (.slice ya yn yc) X3 Y := (Tw2.below (Tw2.below hl3.t bal3) bal4)
                    have hl4 : Lies ((wr.alloc (.cells #[.int .u8 32, .int .u8 9] 5)).alloc (.cells #[.int .u8 9] 5)) (some ⟨H4, 0, none⟩) [9] := lies_one (wr.alloc (.cells #[.int .u8 32, .int .u8 9] 5)) H4 9 hH4
                    have AL4 : Aside (X3.length + ([9] : List Nat).length ≤ 140737488355328) := (show _ ≤ _ by have := hl3.lx; simp; omega)
                    have AB4 : Aside (Below B w ((wr.alloc (.cells #[.int .u8 32, .int .u8 9] 5)).alloc (.cells #[.int .u8 9] 5))) := (hl3.b.trans (bal3.mono hl3.t.a.le)).trans (bal4.mono (Nat.le_trans hl3.t.a.le bal3.size))
                    have hH5 : (wr.alloc (.cells #[.int .u8 32, .int .u8 9] 5)).heap.size = H3 + 1 := by rw [← hH3]; show (wr.heap.push _).size = _; simp
                    have A3 : Aside (k3 + gk = nn ∧ k3 < nn ∧ Lw w wr B (.slice xa3 xn3 xc3) (.slice ya yn yc) X3 Y V3 (400 * i + 280 + k3) ∧ V3.length = k3) := ⟨hkg3, hk3, hl3, hv3⟩
                    have e45 : H4 = H3 + 1 := by rw [← hH4]; exact hH5
                    clear hpar hJ3 hkg3 hl3 hv3 hk3 bal3 bal4 ax hpk
                    subst e45
                    go_wp2_with (at_builtin; refine wpList_tw _ rfl (.tmp 88) (.tmp 96) rfl B (.slice xa3 xn3 xc3) (.slice ya yn yc) X3 Y (by rfl) tw4 (H3 + 1) [9] 1 1 rfl (by decide) (by rfl) hl4 AL4.out ?_; intro v9 w9 hap9)
                    have a3 := A3.out
                    have an := ANN.out
                    go_roundg (gk - 1)
                    case measure => omega
                    case rel =>
                      refine ⟨k3 + 1, by go_num, by omega, X3 ++ [9], V3 ++ [9], ⟨hap9.t, run_wait a3.2.2.1.r (by omega) (by omega), oct_app a3.2.2.1.o (fun z hz => by simp at hz; omega), a3.2.2.1.q, by have := a3.2.2.1.lx; simp; omega, by have := a3.2.2.1.ly; omega, AB4.out.trans hap9.bel⟩, by simp; omega⟩

                · have u5 : ((k3 : Int) < (nn : Int)) = False := eq_false (by omega)
                  have u5' : (k3 < nn) = False := eq_false hk3
                  obtain ⟨i2, hi2⟩ : ∃ n, i % 2 = n := ⟨_, rfl⟩
                  have hi2I : (i : Int).tmod 2 = (i2 : Int) := by rw [Int.tmod_eq_emod_of_nonneg (by omega)]; omega
                  have hi2b : (i2 : Int) < 2 := by omega
                  have A3 : Aside (Lw w wr B (.slice xa3 xn3 xc3) (.slice ya yn yc) X3 Y V3 (400 * i + 344)) := ⟨hl3.t, hl3.r, hl3.o, hl3.q, by have := hl3.lx; omega, by have := hl3.ly; omega, hl3.b⟩
                  obtain ⟨tq, htq⟩ : ∃ tq, ((i2 : Int) == 1) = tq := ⟨_, rfl⟩
                  clear hJ3 hkg3 hl3 hv3 hk3 ax hi2 hnn
                  go_upto_if 100 with fail
                  go_cut [5, 6] from 15 to 112 (fun s5 s6 wc => ∃ (xa5 : Option Addr) (xn5 xc5 : Nat) (ya5 : Option Addr) (yn5 yc5 : Nat), s5 = .slice xa5 xn5 xc5 ∧ s6 = .slice ya5 yn5 yc5 ∧ Aside (∃ X5 Y5, Tw2 wc B s5 s6 X5 Y5 ∧ run .no [] (X5 ++ [10]) = some (.no, [], Y5 ++ [10]) ∧ Oct X5 ∧ Oct Y5 ∧ X5.length ≤ 400 * i + 345 ∧ Y5.length ≤ 400 * i + 345 ∧ Below B w wc))
                  case first =>
                    cases tq with
                    | false =>
                      go_wp2_with fail
                      go_meet
                      have a3 := A3.out
                      exact ⟨xa3, xn3, xc3, ya, yn, yc, rfl, rfl, X3, Y, a3.t, run_lf a3.r, a3.o, a3.q, by have := a3.lx; omega, by have := a3.ly; omega, a3.b⟩
                    | true =>
                      have ax := AX.out
                      go_upto_region 22 with fail
                      obtain ⟨H20, hH20⟩ : ∃ H, wr.heap.size = H := ⟨_, rfl⟩
                      have bal20 : Below wr.heap.size wr (wr.alloc (.cells #[.int .u8 13] 5)) := (Below.refl _ wr).alloc (Nat.le_refl _) _
                      have tw20 : Tw2 (wr.alloc (.cells #[.int .u8 13] 5)) B (.slice xa3 xn3 xc3) (.slice ya yn yc) X3 Y := Tw2.below A3.out.t bal20
                      have hl20 : Lies (wr.alloc (.cells #[.int .u8 13] 5)) (some ⟨H20, 0, none⟩) [13] := lies_one wr H20 13 hH20
                      have AL20 : Aside ((X3).length + ([13] : List Nat).length ≤ 140737488355328) := (show _ ≤ _ by have := A3.out.lx; simp; omega)
                      have AB20 : Aside (Below B w (wr.alloc (.cells #[.int .u8 13] 5))) := A3.out.b.trans (bal20.mono A3.out.t.a.le)
                      skip
                      go_upto_region 23 with (at_builtin; refine wpList_tw _ rfl (.tmp 101) (.tmp 102) rfl B (.slice xa3 xn3 xc3) (.slice ya yn yc) X3 Y (by rfl) tw20 H20 [13] 1 1 rfl (by decide) (by rfl) hl20 AL20.out ?_; intro v20 w20 hap20)

                      obtain ⟨xa20, xc20, hv20, _⟩ := Ob.shape hap20.t.a
                      obtain ⟨xn20, hxn20⟩ : ∃ n, (X3 ++ [13]).length = n := ⟨_, rfl⟩
                      rw [hxn20] at hv20
                      subst hv20
                      have AB20' : Aside (Below B w w20) := AB20.out.trans hap20.bel
                      have AT20 : Aside (Tw2 w20 B (.slice xa20 xn20 xc20) (.slice ya yn yc) (X3 ++ [13]) Y) := hap20.t
                      clear bal20 tw20 hl20 hap20 hxn20 hH20
                      obtain ⟨H21, hH21⟩ : ∃ H, w20.heap.size = H := ⟨_, rfl⟩
                      have bal21 : Below w20.heap.size w20 (w20.alloc (.cells #[.int .u8 13] 5)) := (Below.refl _ w20).alloc (Nat.le_refl _) _
                      have tw21 : Tw2 (w20.alloc (.cells #[.int .u8 13] 5)) B (.slice ya yn yc) (.slice xa20 xn20 xc20) Y (X3 ++ [13]) := Tw2.below AT20.out.swap bal21
                      have hl21 : Lies (w20.alloc (.cells #[.int .u8 13] 5)) (some ⟨H21, 0, none⟩) [13] := lies_one w20 H21 13 hH21
                      have AL21 : Aside ((Y).length + ([13] : List Nat).length ≤ 140737488355328) := (show _ ≤ _ by have := A3.out.ly; simp; omega)
                      have AB21 : Aside (Below B w (w20.alloc (.cells #[.int .u8 13] 5))) := AB20'.out.trans (bal21.mono AT20.out.a.le)
                      skip
                      go_wp2_with (at_builtin; refine wpList_tw _ rfl (.tmp 104) (.tmp 105) rfl B (.slice ya yn yc) (.slice xa20 xn20 xc20) Y (X3 ++ [13]) (by rfl) tw21 H21 [13] 1 1 rfl (by decide) (by rfl) hl21 AL21.out ?_; intro v21 w21 hap21)

                      go_meet
                      have a3 := A3.out
                      have ho13 : Oct [13] := fun z hz => by simp at hz; omega
                      obtain ⟨ya21, yc21, hv21, _⟩ := Ob.shape hap21.t.a
                      exact ⟨xa20, xn20, xc20, ya21, _, yc21, rfl, hv21, X3 ++ [13], Y ++ [13], hap21.t.swap, run_crlf a3.r, oct_app a3.o ho13, oct_app a3.q ho13, by have := a3.lx; simp; omega, by have := a3.ly; simp; omega, AB21.out.trans hap21.bel⟩
                  case rest =>
                    obtain ⟨xa5, xn5, xc5, ya5, yn5, yc5, rfl, rfl, hC⟩ := hcut
                    obtain ⟨X5, Y5, h51, h52, h53, h54, h55, h56, h57⟩ := hC.out
                    have A50 : Aside (run .no [] (X5 ++ [10]) = some (.no, [], Y5 ++ [10]) ∧ Oct X5 ∧ Oct Y5 ∧ X5.length ≤ 400 * i + 345 ∧ Y5.length ≤ 400 * i + 345 ∧ Below B w wc) := ⟨h52, h53, h54, h55, h56, h57⟩
                    have A51 : Aside (Tw2 wc B (.slice xa5 xn5 xc5) (.slice ya5 yn5 yc5) X5 Y5) := h51
                    clear hC h51 h52 h53 h54 h55 h56 h57 htq hi2I hi2b
                    have ax := AX.out
                    go_upto_region 24 with fail
                    obtain ⟨H30, hH30⟩ : ∃ H, wc.heap.size = H := ⟨_, rfl⟩
                    have bal30 : Below wc.heap.size wc (wc.alloc (.cells #[.int .u8 10] 5)) := (Below.refl _ wc).alloc (Nat.le_refl _) _
                    have tw30 : Tw2 (wc.alloc (.cells #[.int .u8 10] 5)) B (.slice xa5 xn5 xc5) (.slice ya5 yn5 yc5) X5 Y5 := Tw2.below A51.out bal30
                    have hl30 : Lies (wc.alloc (.cells #[.int .u8 10] 5)) (some ⟨H30, 0, none⟩) [10] := lies_one wc H30 10 hH30
                    have AL30 : Aside ((X5).length + ([10] : List Nat).length ≤ 140737488355328) := (show _ ≤ _ by have := A50.out; simp; omega)
                    have AB30 : Aside (Below B w (wc.alloc (.cells #[.int .u8 10] 5))) := A50.out.2.2.2.2.2.trans (bal30.mono A51.out.a.le)
                    skip
                    go_upto_region 25 with (at_builtin; refine wpList_tw _ rfl (.tmp 107) (.tmp 108) rfl B (.slice xa5 xn5 xc5) (.slice ya5 yn5 yc5) X5 Y5 (by rfl) tw30 H30 [10] 1 1 rfl (by decide) (by rfl) hl30 AL30.out ?_; intro v30 w30 hap30)

                    obtain ⟨xa30, xc30, hv30, _⟩ := Ob.shape hap30.t.a
                    obtain ⟨xn30, hxn30⟩ : ∃ n, (X5 ++ [10]).length = n := ⟨_, rfl⟩
                    rw [hxn30] at hv30
                    subst hv30
                    have AB30' : Aside (Below B w w30) := AB30.out.trans hap30.bel
                    have AT30 : Aside (Tw2 w30 B (.slice xa30 xn30 xc30) (.slice ya5 yn5 yc5) (X5 ++ [10]) Y5) := hap30.t
                    clear bal30 tw30 hl30 hap30 hxn30 hH30
                    obtain ⟨H31, hH31⟩ : ∃ H, w30.heap.size = H := ⟨_, rfl⟩
                    have bal31 : Below w30.heap.size w30 (w30.alloc (.cells #[.int .u8 10] 5)) := (Below.refl _ w30).alloc (Nat.le_refl _) _
                    have tw31 : Tw2 (w30.alloc (.cells #[.int .u8 10] 5)) B (.slice ya5 yn5 yc5) (.slice xa30 xn30 xc30) Y5 (X5 ++ [10]) := Tw2.below AT30.out.swap bal31
                    have hl31 : Lies (w30.alloc (.cells #[.int .u8 10] 5)) (some ⟨H31, 0, none⟩) [10] := lies_one w30 H31 10 hH31
                    have AL31 : Aside ((Y5).length + ([10] : List Nat).length ≤ 140737488355328) := (show _ ≤ _ by have := A50.out; simp; omega)
                    have AB31 : Aside (Below B w (w30.alloc (.cells #[.int .u8 10] 5))) := AB30'.out.trans (bal31.mono AT30.out.a.le)
                    skip
                    go_wp2_with (at_builtin; refine wpList_tw _ rfl (.tmp 110) (.tmp 111) rfl B (.slice ya5 yn5 yc5) (.slice xa30 xn30 xc30) Y5 (X5 ++ [10]) (by rfl) tw31 H31 [10] 1 1 rfl (by decide) (by rfl) hl31 AL31.out ?_; intro v31 w31 hap31)

                    have a5 := A50.out
                    have ho10 : Oct [10] := fun z hz => by simp at hz; omega
                    go_roundg (G - 1)
                    case measure => omega
                    case rel => exact ⟨i + 1, by go_num, by omega, X5 ++ [10], Y5 ++ [10], ⟨hap31.t.swap, a5.1, oct_app a5.2.1 ho10, oct_app a5.2.2.1 ho10, by simp; omega, by simp; omega, AB31.out.trans hap31.bel⟩⟩
    · by_cases h1 : i < La
      · have t1 : ((i : Int) < (La : Int)) = True := eq_true (by omega)
        have t1' : (i < La) = True := eq_true h1
        have t2 : ((i : Int) < 50) = False := eq_false (by omega)
        have t2' : (i < 50) = False := eq_false (by omega)
        have AE : Aside (Lw w wr B (.slice xa xn xc) (.slice ya yn yc) X Y [] (400 * i) ∧ w.heap.size = B ∧ i ≤ 50 ∧ Y.length = yn) := ⟨hlw, a0.2.2.2.2.2.2, by omega, hyn⟩
        clear hI hig hlw a0 hxn hyn hi h1
        obtain ⟨H40, hH40⟩ : ∃ H, wr.heap.size = H := ⟨_, rfl⟩
        have bal40 : Below wr.heap.size wr (wr.alloc (.cells #[.int .u8 32, .int .u8 9] 5)) := (Below.refl _ wr).alloc (Nat.le_refl _) _
        have tw40 : Tw2 (wr.alloc (.cells #[.int .u8 32, .int .u8 9] 5)) B (.slice xa xn xc) (.slice ya yn yc) X Y := Tw2.below AE.out.1.t bal40
        have hl40 : Lies (wr.alloc (.cells #[.int .u8 32, .int .u8 9] 5)) (some ⟨H40, 0, none⟩) [32, 9] := lies_new wr H40 hH40 [32, 9] (0, 0)
        have AL40 : Aside ((X).length + ([32, 9] : List Nat).length ≤ 140737488355328) := (show _ ≤ _ by have := AE.out.1.lx; have := AE.out.2.2.1; simp; omega)
        have AB40 : Aside (Below B w (wr.alloc (.cells #[.int .u8 32, .int .u8 9] 5))) := AE.out.1.b.trans (bal40.mono AE.out.1.t.a.le)
        skip
        go_upto_region 27 with (at_builtin; refine wpList_tw _ rfl (.tmp 113) (.tmp 114) rfl B (.slice xa xn xc) (.slice ya yn yc) X Y (by rfl) tw40 H40 [32, 9] 2 2 rfl (by decide) (by rfl) hl40 AL40.out ?_; intro v40 w40 hap40)

        have ae := AE.out
        have ho2 : Oct [32, 9] := fun z hz => by simp at hz; omega
        have hrun : run .no [] (X ++ [32, 9]) = some (.no, [32, 9], Y) := by
          have h := run_wait (run_wait ae.1.r (by simp) (Or.inl rfl)) (by simp) (b := 9) (Or.inr rfl)
          simpa using h
        obtain ⟨r1, r2, r3⟩ := rn_run hrun 0
        have r1' : (rn 0 .no [] (X ++ [32, 9])).out = Y := by simpa [fin] using r1
        have r2' : (rn 0 .no [] (X ++ [32, 9])).why = 0 := r2
        obtain ⟨xa40, xc40, hv40, _, hlx40, _⟩ := Ob.shape hap40.t.a
        obtain ⟨ya40, yc40, hw40, _, hly40, _⟩ := Ob.shape hap40.t.b
        obtain ⟨xn40, hxn40⟩ : ∃ n, (X ++ [32, 9]).length = n := ⟨_, rfl⟩
        rw [hxn40] at hv40 r3
        rw [Nat.zero_add] at r3
        subst hv40
        rw [ae.2.2.2] at hw40
        injection hw40 with ey1 ey2 ey3
        subst ey1
        have hlx := ae.1.lx
        have hly := ae.1.ly
        have hx40l : xn40 ≤ 20100 := by rw [← hxn40]; simp; omega
        have hwh := whole_c w40 xa40 (X ++ [32, 9]) xn40 xc40 hlx40 hxn40 (by omega) (oct_app ae.1.o ho2)
        unfold WhTo at hwh
        rw [r1', r2', r3] at hwh
        have hB40 : Below B w w40 := AB40.out.trans hap40.bel
        have A40 : Aside (Below B w w40 ∧ B ≤ w40.heap.size ∧ Lies w40 ya Y ∧ Y.length = yn ∧ yn ≤ 20000) := ⟨hB40, hap40.t.a.le, hly40, ae.2.2.2, by omega⟩
        have q5 : ((xn40 : Int) == (xn40 : Int)) = true := by simp
        clear ae ho2 hrun r1 r2 r3 r1' r2' hlx40 hly40 hxn40 hlx hly hx40l hB40 hap40 bal40 tw40 hl40 hH40 ey3 ey2 AE AL40 AB40
        go_wp2_with (first
          | (go_at_call 4; refine hwh.mono ?_; rintro e1 w2 ⟨vo, he2, hob2, hb2⟩; obtain rfl := (show e1 = .returned (.tuple #[vo, .int .i64 0, .int .i64 (xn40 : Int)]) from he2); obtain ⟨oa, oc, hv2, _, hlies2, _⟩ := Ob.shape hob2; rw [A40.out.2.2.2.1] at hv2; subst hv2; have hs := same_c oa ya Y Y yn yn oc yc w2 A40.out.2.2.2.1 A40.out.2.2.2.1 (by have := A40.out; omega) hlies2 (A40.out.2.2.1.below hb2); rw [decide_eq_true rfl] at hs; have A2 : Aside (Below B w w2 ∧ B ≤ w2.heap.size) := ⟨A40.out.1.trans (hb2.mono A40.out.2.1), Nat.le_trans A40.out.2.1 hb2.size⟩; clear hob2 hb2 hlies2 hwh)
          | (go_at_call 5; refine hs.mono ?_; rintro e1 w6 ⟨rfl, n6, hw6⟩; have haw := awake_c w6; have A6 : Aside (Below B w w6 ∧ B ≤ w6.heap.size) := (by rw [hw6]; exact ⟨Below.drewN' A2.out.1 n6, A2.out.2⟩); clear hw6 hs)
          | (go_at_call 6; refine haw.mono ?_; rintro e1 w7 ⟨rfl, hb7⟩))
        first | go_ret | go_ret2
        exact ⟨rfl, A6.out.1.trans (hb7.mono A6.out.2)⟩

      · have t1 : ((i : Int) < (La : Int)) = False := eq_false (by omega)
        have t1' : (i < La) = False := eq_false h1
        have AE : Aside (Lw w wr B (.slice xa xn xc) (.slice ya yn yc) X Y [] (400 * i) ∧ w.heap.size = B ∧ i ≤ 50 ∧ Y.length = yn) := ⟨hlw, a0.2.2.2.2.2.2, by omega, hyn⟩
        clear hI hig hlw a0 hxn hyn hi h1
        obtain ⟨H40, hH40⟩ : ∃ H, wr.heap.size = H := ⟨_, rfl⟩
        have bal40 : Below wr.heap.size wr (wr.alloc (.cells #[.int .u8 32, .int .u8 9] 5)) := (Below.refl _ wr).alloc (Nat.le_refl _) _
        have tw40 : Tw2 (wr.alloc (.cells #[.int .u8 32, .int .u8 9] 5)) B (.slice xa xn xc) (.slice ya yn yc) X Y := Tw2.below AE.out.1.t bal40
        have hl40 : Lies (wr.alloc (.cells #[.int .u8 32, .int .u8 9] 5)) (some ⟨H40, 0, none⟩) [32, 9] := lies_new wr H40 hH40 [32, 9] (0, 0)
        have AL40 : Aside ((X).length + ([32, 9] : List Nat).length ≤ 140737488355328) := (show _ ≤ _ by have := AE.out.1.lx; have := AE.out.2.2.1; simp; omega)
        have AB40 : Aside (Below B w (wr.alloc (.cells #[.int .u8 32, .int .u8 9] 5))) := AE.out.1.b.trans (bal40.mono AE.out.1.t.a.le)
        skip
        go_upto_region 27 with (at_builtin; refine wpList_tw _ rfl (.tmp 113) (.tmp 114) rfl B (.slice xa xn xc) (.slice ya yn yc) X Y (by rfl) tw40 H40 [32, 9] 2 2 rfl (by decide) (by rfl) hl40 AL40.out ?_; intro v40 w40 hap40)

        have ae := AE.out
        have ho2 : Oct [32, 9] := fun z hz => by simp at hz; omega
        have hrun : run .no [] (X ++ [32, 9]) = some (.no, [32, 9], Y) := by
          have h := run_wait (run_wait ae.1.r (by simp) (Or.inl rfl)) (by simp) (b := 9) (Or.inr rfl)
          simpa using h
        obtain ⟨r1, r2, r3⟩ := rn_run hrun 0
        have r1' : (rn 0 .no [] (X ++ [32, 9])).out = Y := by simpa [fin] using r1
        have r2' : (rn 0 .no [] (X ++ [32, 9])).why = 0 := r2
        obtain ⟨xa40, xc40, hv40, _, hlx40, _⟩ := Ob.shape hap40.t.a
        obtain ⟨ya40, yc40, hw40, _, hly40, _⟩ := Ob.shape hap40.t.b
        obtain ⟨xn40, hxn40⟩ : ∃ n, (X ++ [32, 9]).length = n := ⟨_, rfl⟩
        rw [hxn40] at hv40 r3
        rw [Nat.zero_add] at r3
        subst hv40
        rw [ae.2.2.2] at hw40
        injection hw40 with ey1 ey2 ey3
        subst ey1
        have hlx := ae.1.lx
        have hly := ae.1.ly
        have hx40l : xn40 ≤ 20100 := by rw [← hxn40]; simp; omega
        have hwh := whole_c w40 xa40 (X ++ [32, 9]) xn40 xc40 hlx40 hxn40 (by omega) (oct_app ae.1.o ho2)
        unfold WhTo at hwh
        rw [r1', r2', r3] at hwh
        have hB40 : Below B w w40 := AB40.out.trans hap40.bel
        have A40 : Aside (Below B w w40 ∧ B ≤ w40.heap.size ∧ Lies w40 ya Y ∧ Y.length = yn ∧ yn ≤ 20000) := ⟨hB40, hap40.t.a.le, hly40, ae.2.2.2, by omega⟩
        have q5 : ((xn40 : Int) == (xn40 : Int)) = true := by simp
        clear ae ho2 hrun r1 r2 r3 r1' r2' hlx40 hly40 hxn40 hlx hly hx40l hB40 hap40 bal40 tw40 hl40 hH40 ey3 ey2 AE AL40 AB40
        go_wp2_with (first
          | (go_at_call 4; refine hwh.mono ?_; rintro e1 w2 ⟨vo, he2, hob2, hb2⟩; obtain rfl := (show e1 = .returned (.tuple #[vo, .int .i64 0, .int .i64 (xn40 : Int)]) from he2); obtain ⟨oa, oc, hv2, _, hlies2, _⟩ := Ob.shape hob2; rw [A40.out.2.2.2.1] at hv2; subst hv2; have hs := same_c oa ya Y Y yn yn oc yc w2 A40.out.2.2.2.1 A40.out.2.2.2.1 (by have := A40.out; omega) hlies2 (A40.out.2.2.1.below hb2); rw [decide_eq_true rfl] at hs; have A2 : Aside (Below B w w2 ∧ B ≤ w2.heap.size) := ⟨A40.out.1.trans (hb2.mono A40.out.2.1), Nat.le_trans A40.out.2.1 hb2.size⟩; clear hob2 hb2 hlies2 hwh)
          | (go_at_call 5; refine hs.mono ?_; rintro e1 w6 ⟨rfl, n6, hw6⟩; have haw := awake_c w6; have A6 : Aside (Below B w w6 ∧ B ≤ w6.heap.size) := (by rw [hw6]; exact ⟨Below.drewN' A2.out.1 n6, A2.out.2⟩); clear hw6 hs)
          | (go_at_call 6; refine haw.mono ?_; rintro e1 w7 ⟨rfl, hb7⟩))
        first | go_ret | go_ret2
        exact ⟨rfl, A6.out.1.trans (hb7.mono A6.out.2)⟩

end Go.Proofs.Ytapljkenmgdkmab

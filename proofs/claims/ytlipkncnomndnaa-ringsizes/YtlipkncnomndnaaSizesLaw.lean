/-
  RingSizes holds: behind as many bytes as it has room for, a window has just these, whatever was put in ahead of them.
  Conditions: none; the size is any from 1 to 256, the bytes ahead are any two lists, the bytes behind them any.
-/
import Derived.Test.YtlipkncnomndnaaRows
import Derived.Test.YtlipkncnomndnaaWin
import Derived.Test.YtlipkncnomndnaaOpenB
import Derived.WalkKit
import Derived.ProofKit
import Derived.OpenShut
import Derived.ShutString
import Derived.ChangeOld
import Derived.Below
import Derived.Deep.CutBlock
import Derived.Deep.DeepCutAuto
import Derived.Deep.LoopGhost
import Derived.Deep.RegionHeld3
namespace Go.Proofs.Ytlipkncnomndnaa.ringSizes
open Go.ChangeShapes Go.WideShapes Go.ChangeAt Go.RowKit
open Go.ChangeMaps (open_string shut_string)
set_option linter.unusedVariables false

theorem own : ownKnob Try.prog.godebug = none := by kernel_rfl
theorem laidOut : laidOutB Try.prog = true := by kernel_rfl


theorem cells5 : Try.prog.cellsOf 5 = 1 := by kernel_rfl
theorem cells35 : Try.prog.cellsOf 35 = 1 := by kernel_rfl
theorem cells48 : Try.prog.cellsOf 48 = 2 := by kernel_rfl
theorem cells49 : Try.prog.cellsOf 49 = 300 := by kernel_rfl
theorem below_drewN {B : Nat} {w u : World} (h : Below B w u) (n : Nat) : Below B w (u.drewN n) := ⟨h.os, h.tape, h.output, h.size, h.block⟩
theorem Below.le {B C : Nat} {w u : World} (h : Below C w u) (hB : B ≤ C) : Below B w u := ⟨h.os, h.tape, h.output, h.size, fun k hk => h.block k (by omega)⟩
theorem Cells.two {a b k : Nat} {w u : World} {cs : Array Value} {t : TypeId} (h : Cells w k cs t) (g : Two a b w u) (h1 : k ≠ a) (h2 : k ≠ b) : Cells u k cs t := by
  unfold Cells at *
  rw [g.block k h1 h2]; exact h
theorem lastN_end (N : Nat) (l ys : List Int) (h : ys.length = N) : lastN N (l ++ ys) = ys := by
  unfold lastN
  rw [List.length_append, h, show l.length + N - N = l.length by omega, List.drop_left']
  rfl
theorem lastN_put (N : Nat) (l ys : List Int) (k : Nat) (h : k < ys.length) : lastN N (lastN N (l ++ ys.take k) ++ [ys[k]]) = lastN N (l ++ ys.take (k + 1)) := by
  rw [lastN_two, List.take_succ_eq_append_getElem h, List.append_assoc]
theorem Ans.below {w u : World} {B : Nat} {v : Value} {l : List Int} (h : Ans w B v l) (k : Below w.heap.size w u) : Ans u B v l := by
  rcases h with h | ⟨g, hv, hg, hc⟩
  · exact Or.inl h
  · exact Or.inr ⟨g, hv, hg, hc.below k hc.lt⟩
set_option maxRecDepth 100000 in
set_option maxHeartbeats 1000000 in
theorem core (w : World) (n : Nat) (hn1 : 1 ≤ n) (hn2 : n ≤ 256) (a : Option Addr) (us : List Int) (ca : Nat) (b : Option Addr) (bs : List Int) (cb : Nat) (cs : List Int) (hcs : cs.length = 300)
    (hca : us.length ≤ maxLen) (hcb : bs.length ≤ maxLen) (ha : Came w a us) (hb : Came w b bs) :
    Calls Try.prog 7 #[.int .u8 ((n : Int) - 1), .agg #[.slice a us.length ca, .slice b bs.length cb], .agg (vb cs).toArray] w fun e w' => e = .returned (.bool true) ∧ Below w.heap.size w w' := by
  unfold maxLen at hca hcb
  obtain ⟨L, hL⟩ : ∃ L, us.length = L := ⟨_, rfl⟩
  obtain ⟨M, hM⟩ : ∃ M, bs.length = M := ⟨_, rfl⟩
  rw [hL] at hca ⊢
  rw [hM] at hcb ⊢
  have AL : Aside (us.length = L ∧ L ≤ 2 ^ 63 - 1 ∧ bs.length = M ∧ M ≤ 2 ^ 63 - 1 ∧ cs.length = 300) := ⟨hL, hca, hM, hcb, hcs⟩
  clear hca hcb hL hM
  have hw0 : (n : Int) - 1 + 1 = (n : Int) := by omega
  obtain ⟨C, hC⟩ : ∃ C, (vb cs).toArray = C := ⟨_, rfl⟩
  have hCs : C.size = 300 := by rw [← hC]; simp [vb_length, hcs]
  rw [hC]
  have AC : Aside ((vb cs).toArray = C) := hC
  clear hC hcs
  go_enter Try.func7, Try.ntmps7
  go_wp2_with fail
  generalize hwa : (w.alloc (Obj.cells #[Value.slice a L ca, Value.slice b M cb] 48)).alloc (Obj.cells C 49) = wa
  have q0 : Cells wa w.heap.size #[Value.slice a L ca, Value.slice b M cb] 48 := by rw [← hwa]; exact (Cells.new _ _ _).alloc _
  have q1 : Cells wa (w.heap.size + 1) C 49 := by
    rw [← hwa]
    have := Cells.new (w.alloc (Obj.cells #[Value.slice a L ca, Value.slice b M cb] 48)) C 49
    simpa using this
  have belA : Below w.heap.size w wa := by rw [← hwa]; exact ((Below.refl _ _).alloc (Nat.le_refl _) _).alloc (by simp) _
  have szA : w.heap.size + 1 < wa.heap.size := q1.lt
  clear hwa
  have d0 := (q0.cell 0).trans rfl
  have d1 := (q0.cell 1).trans rfl
  clear q0
  go_quiet (fail)
  clear d0 d1
  go_wp2_with fail
  have belB := below_drewN belA nq
  have q2 : Cells (wa.drewN nq) (w.heap.size + 1) C 49 := q1
  have szB : w.heap.size + 1 < (wa.drewN nq).heap.size := szA
  clear q1 belA szA
  generalize wa.drewN nq = wb at *
  have hnew := new_r n wb hn1 (by omega)
  have hPlt := q2.lt
  generalize hS : wb.heap.size = S at *
  have AS0 : Aside (wb.heap.size = S) := hS
  clear hS
  refine hnew.mono ?_
  rintro e w1 ⟨rfl, rx1, bel1, hsz1⟩
  have q3 := q2.below bel1 hPlt
  have belC : Below w.heap.size w w1 := belB.trans (Below.le bel1 (by omega))
  clear hnew q2 belB bel1
  go_wp2_with fail
  have hnew := new_r n w1 hn1 (by omega)
  generalize hS2 : w1.heap.size = S2 at *
  have hSS : S + 2 = S2 := hsz1.symm
  clear hsz1
  have hlx := rx1.lt
  have AS2 : Aside (w1.heap.size = S2) := hS2
  refine hnew.mono ?_
  rintro e w2 ⟨rfl, ry, bel2, hsz2⟩
  have rx := rx1.below bel2 (by omega) (by omega)
  have q4 := q3.below bel2 (by omega)
  have belD : Below w.heap.size w w2 := belC.trans (Below.le bel2 (by omega))
  clear hnew q3 belC bel2 hS2 hlx rx1 hsz2
  go_wp2_with fail
  go_loopg [14] L (fun g si wr => ∃ k : Nat, k + g = L ∧ si = .int .i64 k ∧ Rg wr (S + 1) S n (lastN n (us.take k)) ∧ Rg wr (S2 + 1) S2 n [] ∧ Cells wr (w.heap.size + 1) C 49 ∧ Below w.heap.size w wr)
  case atStart => exact ⟨0, by omega, rfl, by simpa [lastN] using rx, ry, q4, belD⟩
  case round =>
    clear rx ry q4 belD
    obtain ⟨k, hkg, rfl, rx, ry, q4, belD⟩ := hrel
    have AK : Aside (k + gk = L) := hkg
    by_cases hk : k < L
    · have hki : (k : Int) < (L : Int) := by omega
      have hkb : (k : Int) < 9223372036854775807 := by have := AL.out; omega
      have hkl : k < us.length := by rw [AL.out.1]; exact hk
      rcases ha with rfl | ⟨ab, ao, rfl, hab, hac⟩
      · simp at hkl
      have g0 := (belD.cell (p := ⟨ab, ao + k, none⟩) hab).trans (hac k _ (List.getElem?_eq_getElem hkl))
      have AT : Aside (lastN n (lastN n (us.take k) ++ [us[k]]) = lastN n (us.take (k + 1))) := lastN_put n [] us k hkl
      generalize us[k] = z at *
      clear hkl hac hkg
      go_wp2_with fail
      refine (put_r z _ rx).mono ?_
      rintro e w3 ⟨rfl, r3, t3⟩
      rw [AT.out] at r3
      have ry3 := ry.two t3 (by omega) (by omega) (by omega) (by omega)
      have q5 := Cells.two q4 t3 (by omega) (by omega)
      go_wp2_with fail
      have AK := AK.out
      go_roundg (gk - 1)
      case measure => omega
      case rel => exact ⟨k + 1, by omega, by go_num, r3, ry3, q5, belD.trans (t3.below (by omega) (by omega))⟩
    · have hki : ¬ (k : Int) < (L : Int) := by omega
      have hkL : k = L := by omega
      subst hkL
      rw [List.take_of_length_le (by rw [AL.out.1]; omega)] at rx
      clear hki hkg hk AK
      go_wp2_with fail
      go_loopg [15] M (fun g si wr => ∃ j : Nat, j + g = M ∧ si = .int .i64 j ∧ Rg wr (S + 1) S n (lastN n us) ∧ Rg wr (S2 + 1) S2 n (lastN n (bs.take j)) ∧ Cells wr (w.heap.size + 1) C 49 ∧ Below w.heap.size w wr)
      case atStart => exact ⟨0, by omega, rfl, rx, by simpa [lastN] using ry, q4, belD⟩
      case round =>
        clear rx ry q4 belD
        obtain ⟨j, hjg, rfl, rx, ry, q4, belD⟩ := hrel
        have AK : Aside (j + gk = M) := hjg
        by_cases hj : j < M
        · have hki : (j : Int) < (M : Int) := by omega
          have hkb : (j : Int) < 9223372036854775807 := by have := AL.out; omega
          have hkl : j < bs.length := by rw [AL.out.2.2.1]; exact hj
          rcases hb with rfl | ⟨bb, bo, rfl, hbb, hbc⟩
          · simp at hkl
          have g0 := (belD.cell (p := ⟨bb, bo + j, none⟩) hbb).trans (hbc j _ (List.getElem?_eq_getElem hkl))
          have AT : Aside (lastN n (lastN n (bs.take j) ++ [bs[j]]) = lastN n (bs.take (j + 1))) := lastN_put n [] bs j hkl
          generalize bs[j] = z at *
          clear hkl hbc hjg
          go_wp2_with fail
          refine (put_r z _ ry).mono ?_
          rintro e w3 ⟨rfl, r3, t3⟩
          rw [AT.out] at r3
          have rx3 := rx.two t3 (by omega) (by omega) (by omega) (by omega)
          have q5 := Cells.two q4 t3 (by omega) (by omega)
          go_wp2_with fail
          have AK := AK.out
          go_roundg (gk - 1)
          case measure => omega
          case rel => exact ⟨j + 1, by omega, by go_num, rx3, r3, q5, belD.trans (t3.below (by omega) (by omega))⟩
        · have hki : ¬ (j : Int) < (M : Int) := by omega
          have hkL : j = M := by omega
          subst hkL
          rw [List.take_of_length_le (by rw [AL.out.2.2.1]; omega)] at ry
          clear hki hjg hj AK
          go_wp2_with fail
          go_loopg [16] n (fun g si wr => ∃ i : Nat, i + g = n ∧ si = .int .i64 i ∧ Rg wr (S + 1) S n (lastN n (us ++ cs.take i)) ∧ Rg wr (S2 + 1) S2 n (lastN n (bs ++ cs.take i)) ∧ Cells wr (w.heap.size + 1) C 49 ∧ Below w.heap.size w wr)
          case atStart => exact ⟨0, by omega, rfl, by simpa using rx, by simpa using ry, q4, belD⟩
          case round =>
            clear rx ry q4 belD
            obtain ⟨i, hig, rfl, rx, ry, q4, belD⟩ := hrel
            have AK : Aside (i + gk = n) := hig
            by_cases hi : i < n
            · have hki : (i : Int) < (n : Int) := by omega
              have hkl : i < cs.length := by rw [AL.out.2.2.2.2]; omega
              have AT : Aside (lastN n (lastN n (us ++ cs.take i) ++ [cs[i]]) = lastN n (us ++ cs.take (i + 1)) ∧ lastN n (lastN n (bs ++ cs.take i) ++ [cs[i]]) = lastN n (bs ++ cs.take (i + 1))) := ⟨lastN_put n us cs i hkl, lastN_put n bs cs i hkl⟩
              have hCi : C[i]? = some (.int .u8 cs[i]) := by rw [← AC.out, List.getElem?_toArray, vb_get, List.getElem?_eq_getElem hkl]; rfl
              have g0 := (q4.cell i).trans hCi
              generalize cs[i] = z at *
              clear hkl hig hCi
              go_wp2_with fail
              refine (put_r z _ rx).mono ?_
              rintro e w3 ⟨rfl, r3, t3⟩
              rw [AT.out.1] at r3
              have ry3 := ry.two t3 (by omega) (by omega) (by omega) (by omega)
              have q5 := Cells.two q4 t3 (by omega) (by omega)
              have g1 : w3.cell? ⟨w.heap.size + 1, i, none⟩ = some (.int .u8 z) := by rw [q5.cell i, ← q4.cell i]; exact g0
              clear g0
              go_wp2_with fail
              refine (put_r z _ ry3).mono ?_
              rintro e w5 ⟨rfl, r5, t5⟩
              rw [AT.out.2] at r5
              have rx5 := r3.two t5 (by omega) (by omega) (by omega) (by omega)
              have q6 := Cells.two q5 t5 (by omega) (by omega)
              go_wp2_with fail
              have AK := AK.out
              go_roundg (gk - 1)
              case measure => omega
              case rel => exact ⟨i + 1, by omega, by go_num, rx5, r5, q6, (belD.trans (t3.below (by omega) (by omega))).trans (t5.below (by omega) (by omega))⟩
            · have hki : ¬ (i : Int) < (n : Int) := by omega
              have hin : i = n := by omega
              subst hin
              obtain ⟨T, hT⟩ : ∃ T, cs.take i = T := ⟨_, rfl⟩
              have hTl : T.length = i := by rw [← hT, List.length_take, AL.out.2.2.2.2]; omega
              rw [hT, lastN_end _ _ _ hTl] at rx ry
              have hlx := rx.lt
              have hly := ry.lt
              have hszD := belD.size
              have hl1 : ∀ u, Rg u (S + 1) S i T → Calls Try.prog 20 #[.pointer (some ⟨S + 1, 0, none⟩)] u fun e u' => e = .returned (.int .i64 (i : Int)) ∧ u = u' := fun u r => by rw [← hTl]; exact len_r u r
              have hl2 : ∀ u, Rg u (S2 + 1) S2 i T → Calls Try.prog 20 #[.pointer (some ⟨S2 + 1, 0, none⟩)] u fun e u' => e = .returned (.int .i64 (i : Int)) ∧ u = u' := fun u r => by rw [← hTl]; exact len_r u r
              have ACl : Aside (∀ u, Cells u (w.heap.size + 1) C 49 → Lst u (.slice (some ⟨w.heap.size + 1, 0, none⟩) i 300) T) := fun u hu => ⟨_, _, by rw [hTl], by omega, Or.inr ⟨_, _, rfl, fun y z hz => by
                rw [Nat.zero_add, hu.cell y, ← AC.out, List.getElem?_toArray, vb_get]
                rw [← hT, List.getElem?_take] at hz
                split at hz
                · rw [hz]; rfl
                · cases hz⟩⟩
              have ATl : Aside (T.length = i) := hTl
              have hii : ((i : Int) == (i : Int)) = true := by simp
              have hi3 : (i : Int) ≤ 300 := by omega
              have hi0 : (0 : Int) ≤ (i : Int) := by omega
              have hwi : IntKind.i64.wrap ((i : Nat) : Int) = (i : Int) := by rw [IntKind.wrap_i64]; omega
              clear hTl hT hki hig hi AK
              go_upto_region 20 with fail
              go_region_held3 (fun w' => True) (trivial)
                (first
                  | (go_at_call 19; (fail_if_success (have hh := bel5)); refine (tail_r (H := S + 1) (K := S) (N := i) (l := T) _ (by first | exact rx.drew)).mono ?_; rintro e w5 ⟨⟨v5, rfl, hv5⟩, bel5⟩; have ry5 := ry.drew.below bel5 (by exact hly.1) (by exact hly.2); have rx5 := rx.drew.below bel5 (by exact hlx.1) (by exact hlx.2); have q5 := q4.drew.below bel5 (by exact q4.lt))
                  | (go_at_call 19; (have hh := bel5; fail_if_success (have hh := bel6)); refine (tail_r (H := S2 + 1) (K := S2) (N := i) (l := T) _ (by first | exact ry5)).mono ?_; rintro e w6 ⟨⟨v6, rfl, hv6⟩, bel6⟩; have rx6 := rx5.below bel6 rx5.lt.1 rx5.lt.2; have ry6 := ry5.below bel6 ry5.lt.1 ry5.lt.2; have q6 := q5.below bel6 q5.lt; have hv56 := Ans.below hv5 bel6)
                  | (go_at_call 16; (fail_if_success (have hh := m7)); refine (same_c _ _ T _ (by exact hv56.lst) (by exact hv6.lst) (by rw [ATl.out]; omega)).mono ?_; rintro e w7 ⟨rfl, m7, rfl⟩)
                  | (go_at_call 19; (have hh := m7; fail_if_success (have hh := bel8)); refine (tail_r (H := S + 1) (K := S) (N := i) (l := T) _ (by exact rx6.drewN m7)).mono ?_; rintro e w8 ⟨⟨v8, rfl, hv8⟩, bel8⟩; have rx8 := (rx6.drewN m7).below bel8 (by exact rx6.lt.1) (by exact rx6.lt.2); have ry8 := (ry6.drewN m7).below bel8 (by exact ry6.lt.1) (by exact ry6.lt.2); have q8 := (q6.drewN m7).below bel8 (by exact q6.lt))
                  | (go_at_call 16; (have hh := m7; fail_if_success (have hh := m9)); refine (same_c _ _ T _ (by exact hv8.lst) (by exact ACl.out _ q8) (by rw [ATl.out]; omega)).mono ?_; rintro e w9 ⟨rfl, m9, rfl⟩)
                  | (go_at_call 20; (fail_if_success (have hh := hln1)); refine (hl1 _ (by exact rx8.drewN m9)).mono ?_; rintro e w10 ⟨rfl, rfl⟩; have hln1 : True := trivial)
                  | (go_at_call 20; (have hh := hln1); refine (hl2 _ (by exact ry8.drewN m9)).mono ?_; rintro e w11 ⟨rfl, rfl⟩))
              go_wp2_with fail
              go_ret
              refine ⟨rfl, ?_⟩
              have b5 := (below_drewN belD 1).trans (Below.le bel5 (by exact hszD))
              have b6 := b5.trans (Below.le bel6 b5.size)
              have b8 := (below_drewN b6 m7).trans (Below.le bel8 (by exact b6.size))
              exact below_drewN b8 _

theorem walk {H : Type} {enc : TypeId × Value → H} (w : World) (base : Nat) (a0 : Int) (w0 : (Lit.int .u8 a0).wf = true) (v1 : Value) (d1 : DataW H) (p1 : List MemPlace) (o1 : Value.okWide Try.prog w .any base 48 v1) (h1 : DataW.Trod enc Try.prog w 0 (fun _ => true) true 48 v1 d1 p1) (v2 : Value) (d2 : DataW H) (p2 : List MemPlace) (o2 : Value.okWide Try.prog w .any base 49 v2) (h2 : DataW.Trod enc Try.prog w 0 (fun _ => true) true 49 v2 d2 p2) :
    Calls Try.prog 7 #[.int .u8 a0, v1, v2] w fun e w' => e = .returned (.bool true) ∧ Below w.heap.size w w' := by
  have hx := bounds_u8 w0
  obtain ⟨n, rfl⟩ : ∃ n : Nat, a0 = (n : Int) - 1 := ⟨(a0 + 1).toNat, by omega⟩
  obtain ⟨a, us, ca, b, bs, cb, rfl, j1, j2, j3, k1, k2, k3⟩ := open_two Try.underlying48 Try.underlying35 Try.underlying5 cells5 cells35 cells48 o1 h1
  obtain ⟨xs, hxl, rfl, _⟩ := open_arr Try.underlying49 Try.underlying5 cells5 cells49 o2 h2
  have e : (xs.map (fun x : Nat => Value.int .u8 (x : Int))).toArray = (vb (xs.map (fun x : Nat => (x : Int)))).toArray := by simp [vb]
  rw [e]
  exact core w n (by omega) (by omega) a us ca b bs cb _ (by simpa using hxl) (by omega) (by omega) j3 k3

set_option maxRecDepth 100000 in
theorem lifted (os : Os) (started : os.Started) (H : Type) (enc : TypeId × Value → H) :
    ReturnsInHanded {} Try.checked os 7 .any (Rows.ringSizesSpec.pre6 enc Try.prog Try.f7 Rows.ringSizesRow.domain false) (Rows.ringSizesSpec.post enc Try.prog Try.f7 false true false false) := by
  refine returnsInHanded_of_change (C := Try.checked) own started (by kernel_rfl) Try.func7
    (ChangeSpec.witness6 (enc := enc) (C := Try.checked) false ⟨#[], #[.int .u8 0, .agg #[.slice none 0 0, .slice none 0 0], .agg (Array.replicate 300 (.int .u8 0))], []⟩ 8 (by kernel_rfl) (by kernel_rfl) (by kernel_rfl) (by kernel_rfl)) ?_
  intro W base args ds gs before hval0 hW hcnd _
  have hval : ∀ (j : Nat) t v, Try.f7.params[j]? = some t → args[j]? = some v → Value.okWide Try.prog W .any base t v := hval0
  have hW' := hW
  obtain ⟨p, q, hA0, hV, rfl, hfz, hnd⟩ := hW
  have hA : DataW.TrodAll enc Try.prog W 0 (fun _ => true) true Try.f7.params.toList args.toList ds p := hA0
  rw [Try.params7] at hA hval
  obtain ⟨v0, vs0, d0, ds0, p0, q0, hargs, rfl, rfl, h0, r0⟩ := trodAll_cons hA
  obtain ⟨v1, vs1, d1, ds1, p1, q1, rfl, rfl, rfl, h1, r1⟩ := trodAll_cons r0
  obtain ⟨v2, vs2, d2, ds2, p2, q2, rfl, rfl, rfl, h2, r2⟩ := trodAll_cons r1
  obtain ⟨rfl, rfl, rfl⟩ := trodAll_nil r2
  obtain rfl : args = #[v0, v1, v2] := by cases args; simp_all
  obtain ⟨rfl, rfl⟩ := trodVars_none hV
  obtain ⟨a0, rfl, rfl, rfl, w0⟩ := open_int Try.underlying5 (hval 0 5 v0 rfl rfl) h0
  have o1 := hval 1 48 v1 rfl rfl
  have lt1 : ∀ x ∈ p1, x.block < W.heap.size := by obtain ⟨m, hm⟩ := h1; exact DataW.trod_lt m _ _ _ hm
  have o2 := hval 2 49 v2 rfl rfl
  have lt2 : ∀ x ∈ p2, x.block < W.heap.size := by obtain ⟨m, hm⟩ := h2; exact DataW.trod_lt m _ _ _ hm
  clear hA0 hval0
  refine (walk W base a0 w0 v1 d1 p1 o1 h1 v2 d2 p2 o2 h2).mono fun e W' ⟨he, bel⟩ => ?_
  subst he
  exact ⟨_, rfl, _, _, _, [], _, [], hW', trodAll_mk1 (shut_bool Try.underlying4 _), (trodAll_cons_mk (shut_int Try.underlying5 w0) (trodAll_cons_mk (Below.trod laidOut (by kernel_rfl) (of_decide_eq_true (by kernel_rfl)) h1 bel lt1) (trodAll_cons_mk (Below.trod laidOut (by kernel_rfl) (of_decide_eq_true (by kernel_rfl)) h2 bel lt2) trodAll_mk0))), rfl, bel.frame _, fun h => by cases h⟩

theorem over : Rows.ringSizesRow.holds Try.pinned (OpenSpec.ofChange Rows.ringSizesSpec) :=
  OpenClaim.holds_of_wide 7 Try.f7 rfl rfl rfl rfl rfl rfl rfl ⟨rfl, rfl, rfl, rfl, rfl⟩ rfl rfl rfl rfl rfl (by kernel_rfl) Try.func7 (by kernel_rfl)
    (of_decide_eq_true (by kernel_rfl)) (by unfold Func.isWrapper; first | (rw [if_pos (by decide +kernel)]; kernel_rfl) | (rw [if_neg (by decide +kernel)]; exact ⟨rfl, rfl⟩))
    (fun os started H enc _ => lifted os started H enc)

end Go.Proofs.Ytlipkncnomndnaa.ringSizes
namespace Go.Proofs.Ytlipkncnomndnaa
/-- The statement. -/
theorem ringSizes_holds : Rows.RingSizesSaid := ringSizes.over
#print axioms ringSizes_holds
end Go.Proofs.Ytlipkncnomndnaa

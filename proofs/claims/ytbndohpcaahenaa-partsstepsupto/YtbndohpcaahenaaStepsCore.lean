/-
  PartsSteps' walk.
-/
import Derived.Test.YtbndohpcaahenaaStm
import Derived.Test.YtbndohpcaahenaaRvl
import Derived.Test.YtbndohpcaahenaaOfw
import Derived.Test.YtbndohpcaahenaaEnd
import Derived.Test.YtbndohpcaahenaaWholeCore
import Derived.Deep.RegionWith
namespace Go.Proofs.Ytbndohpcaahenaa
open Go.RowKit
set_option linter.unusedVariables false
set_option maxRecDepth 20000 in
set_option maxHeartbeats 2000000 in
theorem steps_core (w : World) (a : Option Addr) (x : List Nat) (L C : Nat) (b : List Nat) (hx : Lies w a x) (hL : x.length = L) (hLb : L ≤ 2000000) (hC : L ≤ C) (hC2 : C ≤ 4000000000000000000) (hox : Oct x) (hob : Oct b) (hb : b.length ≤ 2000000) :
    Calls Try.prog 4 #[.slice a L C, .string (st b)] w fun e w' => e = .returned (.bool true) ∧ Below w.heap.size w w' := by
  obtain ⟨lo, hlo⟩ : ∃ lo, w.heap.size = lo := ⟨_, rfl⟩
  obtain ⟨sb, hsb⟩ : ∃ sb, st b = sb := ⟨_, rfl⟩
  have A : Aside (Lies w a x ∧ x.length = L ∧ L ≤ 2000000 ∧ L ≤ C ∧ C ≤ 4000000000000000000 ∧ Oct x ∧ w.heap.size = lo ∧ Oct b ∧ b.length ≤ 2000000 ∧ st b = sb) := ⟨hx, hL, hLb, hC, hC2, hox, hlo, hob, hb, hsb⟩
  have a0 := A.out
  cases hvd : vd b with
  | false =>
    have hnw := new_no b hob (by omega) hvd w
    have hrv : ∀ w2, Calls Try.prog 10 #[.string sb] w2 fun e w' => e = .returned (.bool false) ∧ w2 = w' := fun w2 => by
      have := rvalid_c b hob (by omega) w2
      rw [hvd, hsb] at this
      exact this.mono fun e w' k => ⟨k.1, k.2.symm⟩
    rw [hsb] at hnw ⊢
    rw [hlo] at hnw ⊢
    clear hx hL hLb hC hC2 hox hob hb hsb hlo a0 hvd
    go_enter Try.func4, Try.ntmps4
    go_wp2_with (first | (go_at_call 11; refine hnw.mono ?_; rintro e1 w1 ⟨rfl, b1⟩) | (go_at_call 10; refine (hrv _).mono ?_; rintro e2 w2 ⟨rfl, rfl⟩) | (go_at_call 13; refine (awake_c _).mono ?_; rintro e3 w3 ⟨rfl, b3⟩))
    first | go_ret | go_ret2
    exact ⟨rfl, b1.trans (b3.mono (by have := b1.size; have := A.out.2.2.2.2.2.2.1; omega))⟩
  | true =>
    have hbd := vd_bd hvd hob
    have hblen := vd_len hvd
    have hnw := new_yes b hob hvd w
    have hrv : ∀ w2, Calls Try.prog 10 #[.string sb] w2 fun e w' => e = .returned (.bool true) ∧ w2 = w' := fun w2 => by
      have := rvalid_c b hob (by omega) w2
      rw [hvd, hsb] at this
      exact this.mono fun e w' k => ⟨k.1, k.2.symm⟩
    obtain ⟨D, hD⟩ : ∃ D, dd b = D := ⟨_, rfl⟩
    obtain ⟨T, hT⟩ : ∃ T, tv D 0 s0 x = T := ⟨_, rfl⟩
    obtain ⟨Cl, hCl⟩ : ∃ Cl, cv D s0 x = Cl := ⟨_, rfl⟩
    obtain ⟨Yn, hYn⟩ : ∃ Yn : Nat, (if Cl = true then 0 else 33) = Yn := ⟨_, rfl⟩
    have hof : ∀ w2, Below lo w w2 → Calls Try.prog 14 #[.slice a L C, .string sb] w2 fun e w' => OfR w2.heap.size w2 T Yn Cl e w' := fun w2 b2 => by
      have := of_c w2 a x L C b hob hblen.2 hbd hox hL (by omega) hC hC2 (hx.below (by rw [hlo]; exact b2))
      rw [hD, hT, hCl, hYn, hsb] at this
      exact this
    have AO : Aside _ := hof
    rw [hsb, hD, hlo] at hnw
    rw [hsb, hlo]
    have AT : Aside (Bd D ∧ dd b = D ∧ tv D 0 s0 x = T ∧ cv D s0 x = Cl ∧ (if Cl = true then 0 else 33) = Yn ∧ b.length ≤ 70) := ⟨by rw [← hD]; exact hbd, hD, hT, hCl, hYn, hblen.2⟩
    clear hx hL hLb hC hC2 hox hob hb hsb hlo a0 hvd hbd hblen hD hT hCl hYn hof
    go_enter Try.func4, Try.ntmps4
    go_upto_region 4 with (first | (go_at_call 11; refine hnw.mono ?_; rintro e1 w1 ⟨B, rfl, hB, hsm1, b1⟩) | (go_at_call 10; refine (hrv _).mono ?_; rintro e2 w2 ⟨rfl, rfl⟩))
    have A1 : Aside (lo ≤ B ∧ Sm w1 B D s0 0 false ∧ Below lo w w1) := ⟨hB, hsm1, b1⟩
    have hof1 := AO.out w1 b1
    clear hnw hrv hB hsm1 b1
    go_upto_region 7 with (go_at_call 14; refine hof1.mono ?_; intro e4 w4 hr4; obtain ⟨v4, o4, he4, how4, b4⟩ := hr4.ex; subst he4; obtain ⟨a4, c4, hv4, hte4⟩ := Te.but how4 (B := B) (by obtain ⟨cs, hc⟩ := A1.out.2.1.cells; exact hc.lt); obtain ⟨nT, hnT⟩ : ∃ nT, T.length = nT := ⟨_, rfl⟩; rw [hnT] at hv4; subst hv4)
    obtain ⟨F, hF⟩ : ∃ F, w4.heap.size = F := ⟨_, rfl⟩
    obtain ⟨w5, hw5⟩ : ∃ w5, w4.alloc (.cells #[.slice a4 nT c4, .int .i64 (Yn : Int), .bool o4, .bool Cl] 35) = w5 := ⟨_, rfl⟩
    rw [hw5, hF]
    have b5 : Below w4.heap.size w4 w5 := by rw [← hw5]; exact (Below.refl _ w4).alloc (Nat.le_refl _) _
    have kF : Cells w5 F #[.slice a4 nT c4, .int .i64 (Yn : Int), .bool o4, .bool Cl] 35 := by rw [← hw5, ← hF]; exact Cells.new w4 _ 35
    have a1 := A1.out
    have a0 := A.out
    have hBlt : B < w1.heap.size := by obtain ⟨cs, hc⟩ := a1.2.1.cells; exact hc.lt
    have b15 : Below w1.heap.size w1 w5 := b4.trans (b5.mono b4.size)
    have hfacts := tot_facts AT.out.1 a0.2.2.2.2.2.1 (by have := a0.2.2.1; have := a0.2.1; omega)
    rw [← tv_snd D 0 s0 x, AT.out.2.2.1] at hfacts
    have hn9 : nT ≤ 1000000000 := by have := hfacts.2.2.all; simp at this; omega
    have A5 : Aside (lo ≤ B ∧ F ≠ B ∧ (∀ u, But B w5 u → Te u a4 T) ∧ Cells w5 F #[.slice a4 nT c4, .int .i64 (Yn : Int), .bool o4, .bool Cl] 35 ∧ Sm w5 B D s0 0 false ∧ Below lo w w5 ∧ T.length = nT ∧ nT ≤ 1000000000 ∧ (∀ g ∈ T.map Prod.snd, g < 258) ∧ lo ≤ w5.heap.size) :=
      ⟨a1.1, by have := b4.size; omega, fun u hu => hte4 u ((But.of_below b5).trans hu), kF, a1.2.1.keep (b15.block B hBlt), a1.2.2.trans (b15.mono (by omega)), hnT, hn9, hfacts.1, by have := b15.size; omega⟩
    have AD : Aside (Oct D ∧ D.length ≤ 72 ∧ D ≠ []) := ⟨AT.out.1.oct, by rw [← AT.out.2.1]; have := AT.out.2.2.2.2.2; simp [dd]; omega, AT.out.1.ne⟩
    clear hof1 hr4 how4 b4 hte4 hnT hF hw5 b5 kF a1 a0 hBlt b15 hfacts hn9 AO
    go_wp2_with fail
    go_loopg [8, 9, 10] L (fun gg s8 s9 s10 wr => ∃ (i k : Nat), s8 = .int .i64 (k : Int) ∧ s9 = .bool true ∧ s10 = .int .i64 (i : Int) ∧ Aside (i + gg = L ∧ ∃ s, Si D T Cl x i k s ∧ Sm wr B D s 0 false ∧ But B w5 wr))
    case atStart => exact ⟨0, 0, rfl, rfl, rfl, ⟨by omega, s0, by have := Si.start AD.out.2.2 x; rw [AT.out.2.2.1, AT.out.2.2.2.1] at this; exact this, A5.out.2.2.2.2.1, But.refl _ _⟩⟩
    case round =>
      obtain ⟨i, k, rfl, rfl, rfl, hR⟩ := hrel
      obtain ⟨hig, s, si, hsm, hbut⟩ := hR.out
      have a5 := A5.out
      have a0 := A.out
      have hbelr : Below lo w wr := a5.2.2.2.2.2.1.trans (hbut.below a5.1 a5.2.2.2.2.2.2.2.2.2)
      by_cases hi : i < L
      · have t1 : ((i : Int) < (L : Int)) = True := eq_true (by omega)
        have t2 : (i < L) = True := eq_true hi
        have bi : (i : Int) < 2000000000 := by omega
        obtain ⟨g, hg⟩ : ∃ g, x[i]? = some g := ⟨_, List.getElem?_eq_getElem (by omega)⟩
        have hg8 : g < 256 := a0.2.2.2.2.2.1 g (List.mem_of_getElem? hg)
        rcases a0.1.below (by rw [a0.2.2.2.2.2.2.1]; exact hbelr) with e | ⟨ba, oa, rfl, hca⟩
        · rw [e] at hg; simp at hg
        have cg := hca i g hg
        have hput := put_yes g AD.out.1 AD.out.2.1 hg8 si.ok wr hsm
        obtain ⟨st1, st2, st3⟩ := si.step AD.out.2.2 hg
        obtain ⟨n, hn⟩ : ∃ n, k + (out (stp D g s)).length = n := ⟨_, rfl⟩
        rw [hn] at st1 st3
        have hafter : ∀ w2, Sm w2 B D (stp D g s) 0 false → Only B wr w2 → w2.cell? ⟨F, 0, none⟩ = some (.slice a4 nT c4) ∧ Calls Try.prog 19 #[.pointer (some ⟨B, 0, none⟩), .slice a4 nT c4, .int .i64 (k : Int), .int .i64 (i : Int)] w2 fun e w' => Tla B D (tk (stp D g s)) false n w2 e w' := fun w2 h2 o2 => by
          have b2 : But B w5 w2 := hbut.trans (But.of_only o2)
          have kF2 := b2.cells a5.2.2.2.1 a5.2.1
          refine ⟨kF2.cell 0, ?_⟩
          exact tells_c rfl a4 T nT c4 i k n (out (stp D g s)) w2 a5.2.2.2.2.2.2.1 a5.2.2.2.2.2.2.2.1 (by omega) (fun y hy => by
            obtain ⟨j, hj⟩ := List.getElem?_of_mem hy
            exact a5.2.2.2.2.2.2.2.2.1 y (List.mem_map.2 ⟨_, List.mem_of_getElem? (st2 j y hj), rfl⟩)) (fun u hu => a5.2.2.1 u (b2.trans hu)) ⟨Kn.of _ h2 (len_step si.ok g).2, But.refl _ _, st2, fun p hp => st3 p (by rw [← hn]; exact hp), hn⟩
        have AF : Aside _ := hafter
        have hrea : ∀ w3, Sm w3 B D (tk (stp D g s)) 0 false → Calls Try.prog 20 #[.pointer (some ⟨B, 0, none⟩)] w3 fun e w' => e = .returned (.int .i64 0) ∧ w3 = w' := fun w3 h3 => (reason_c w3 h3).mono fun e w' k => ⟨by rw [k.1]; simp [why], k.2.symm⟩
        have AE : Aside _ := hrea
        have AN : Aside (i + gk = L ∧ i < L ∧ Si D T Cl x (i + 1) n (tk (stp D g s)) ∧ But B w5 wr) := ⟨hig, hi, st1, hbut⟩
        clear hR hig si hsm hbut a5 a0 hbelr hg hg8 hca st1 st2 st3 hn hafter hrea hi
        go_wp2_with (first | (go_at_call 18; refine hput.mono ?_; rintro e1 w6 ⟨rfl, h6, o6⟩; obtain ⟨d0, htl⟩ := AF.out w6 h6 o6) | (go_at_call 19; refine htl.mono ?_; intro e7 w7 h7; obtain ⟨he7, h8, b8⟩ := h7.ex; subst he7; have hre := AE.out w7 h8) | (go_at_call 20; refine hre.mono ?_; rintro e9 w9 ⟨rfl, rfl⟩))
        have an := AN.out
        go_roundg (gk - 1)
        case measure => omega
        case rel => exact ⟨i + 1, n, rfl, rfl, by go_num, ⟨by omega, _, an.2.2.1, h8, (an.2.2.2.trans (But.of_only o6)).trans b8⟩⟩
      · have t1 : ((i : Int) < (L : Int)) = False := eq_false (by omega)
        have t2 : (i < L) = False := eq_false hi
        have hiL : i = L := by omega
        subst hiL
        have hend := end_yes AD.out.1 AD.out.2.1 si.ok wr hsm
        have si2 := si
        rw [← a0.2.1] at si2
        obtain ⟨st2, st3, hn, hcl⟩ := si2.last
        rw [a0.2.1] at st2 st3
        rw [a5.2.2.2.2.2.2.1] at hn
        have hYn := AT.out.2.2.2.2.1
        have hafter : ∀ w2, Sm w2 B D (en D s) 0 true → Only B wr w2 → w2.cell? ⟨F, 0, none⟩ = some (.slice a4 nT c4) ∧ Calls Try.prog 19 #[.pointer (some ⟨B, 0, none⟩), .slice a4 nT c4, .int .i64 (k : Int), .int .i64 (i : Int)] w2 fun e w' => Tla B D (tk (en D s)) true nT w2 e w' := fun w2 h2 o2 => by
          have b2 : But B w5 w2 := hbut.trans (But.of_only o2)
          have kF2 := b2.cells a5.2.2.2.1 a5.2.1
          refine ⟨kF2.cell 0, ?_⟩
          exact tells_c rfl a4 T nT c4 i k nT (out (en D s)) w2 a5.2.2.2.2.2.2.1 a5.2.2.2.2.2.2.2.1 (by omega) (fun y hy => by
            obtain ⟨j, hj⟩ := List.getElem?_of_mem hy
            exact a5.2.2.2.2.2.2.2.2.1 y (List.mem_map.2 ⟨_, List.mem_of_getElem? (st2 j y hj), rfl⟩)) (fun u hu => a5.2.2.1 u (b2.trans hu)) ⟨Kn.of _ h2 (Nat.le_of_eq (en_kn D s)), But.refl _ _, st2, st3, hn⟩
        have AF : Aside _ := hafter
        have hlast : ∀ w2 w3, Only B wr w2 → Sm w3 B D (tk (en D s)) 0 true → But B w2 w3 → (Calls Try.prog 21 #[.pointer (some ⟨B, 0, none⟩)] w3 fun e w' => e = .returned (.tuple #[]) ∧ w3 = w') ∧ (Calls Try.prog 20 #[.pointer (some ⟨B, 0, none⟩)] w3.drew fun e w' => e = .returned (.int .i64 (Yn : Int)) ∧ w3.drew = w') ∧ (Calls Try.prog 18 #[.pointer (some ⟨B, 0, none⟩), .int .u8 97] w3.drew fun e w' => e = .returned (.bool false) ∧ w3.drew = w') ∧ w3.cell? ⟨F, 0, none⟩ = some (.slice a4 nT c4) ∧ w3.cell? ⟨F, 1, none⟩ = some (.int .i64 (Yn : Int)) ∧ Aside (Below lo w w3 ∧ lo ≤ w3.heap.size) := fun w2 w3 o2 h3 b3 => by
          have b2 : But B w5 w3 := (hbut.trans (But.of_only o2)).trans b3
          have kF2 := b2.cells a5.2.2.2.1 a5.2.1
          refine ⟨(end_no w3 h3 (Or.inl rfl)).mono fun e w' k => ⟨k.1, k.2.symm⟩, (reason_c w3.drew (h3.keep rfl)).mono fun e w' k => ⟨?_, k.2.symm⟩, (put_no 97 w3.drew (h3.keep rfl) (Or.inl rfl)).mono fun e w' k => ⟨k.1, k.2.symm⟩, kF2.cell 0, kF2.cell 1, a5.2.2.2.2.2.1.trans (b2.below a5.1 a5.2.2.2.2.2.2.2.2.2), by have := b2.size; have := a5.2.2.2.2.2.2.2.2.2; omega⟩
          rw [k.1, ← hYn]
          show Ending.returned (.int .i64 (why true 0 (en D s).cl)) = _
          rw [hcl]
          cases Cl <;> rfl
        have AL : Aside _ := hlast
        have hNN : ((nT : Int) == (nT : Int)) = true := by simp
        have hYY : ((Yn : Int) == (Yn : Int)) = true := by simp
        clear hR hig si hsm hbut a5 a0 hbelr st2 st3 hn hcl hYn hafter hlast hi si2
        go_upto_region 19 with (first | (go_at_call 21; refine hend.mono ?_; rintro e1 w6 ⟨rfl, h6, o6⟩; obtain ⟨d0, htl⟩ := AF.out w6 h6 o6) | (go_at_call 19; refine htl.mono ?_; intro e7 w7 h7; obtain ⟨he7, h8, b8⟩ := h7.ex; subst he7; obtain ⟨hen, hre, hpu, f0, f1, AW⟩ := AL.out w6 w7 o6 h8 b8; clear hend) | (go_at_call 21; refine hen.mono ?_; rintro e9 w9 ⟨rfl, rfl⟩))
        have hawk := awake_c w7.drew
        clear hen htl h7 h8 b8 h6 o6 d0 AF AL
        go_region_with (first | (go_at_call 20; refine hre.mono ?_; rintro e10 w10 ⟨rfl, rfl⟩) | (go_at_call 18; refine hpu.mono ?_; rintro e11 w11 ⟨rfl, rfl⟩) | (go_at_call 13; refine hawk.mono ?_; rintro e12 w12 ⟨rfl, b12⟩))
        all_goals go_wp2_with fail
        all_goals first | go_ret | go_ret2
        all_goals exact ⟨rfl, (AW.out.1.trans (Below.drewN2 (Below.refl lo w7) 1)).trans (b12.mono AW.out.2)⟩
end Go.Proofs.Ytbndohpcaahenaa

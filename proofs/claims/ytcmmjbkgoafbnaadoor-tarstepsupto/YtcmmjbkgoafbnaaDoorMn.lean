/-
  Own texts of this seat, one behind the other: what each says stands ahead of it.
-/
import Derived.Test.YtcmmjbkgoafbnaaDoorMm
import Derived.BigQuiet
/-
  What the document's file comes to.
-/
namespace Go.Proofs.YtcmmjbkgoafbnaaDoor
open Go.RowKit
set_option linter.unusedVariables false
/-- A file's bytes, and its end. -/
def fev (b : List Nat) (f Z : Nat) : List Gev := bts 1 f ((b.drop f).take Z) ++ (if Z ≤ b.length - f then [(f + Z - 1, 257, [])] else [])
theorem bts_more {l : List Nat} {f n x : Nat} (hx : l[n]? = some x) : bts 1 f (l.take (n + 1)) = bts 1 f (l.take n) ++ [(f + n, x, [])] := by
  have hn : n < l.length := (List.getElem?_eq_some_iff.1 hx).1
  have ht : l.take (n + 1) = l.take n ++ [x] := take_more hx
  unfold bts
  rw [if_pos rfl, if_pos rfl, ht, List.mapIdx_append, List.length_take, Nat.min_eq_left (by omega)]
  simp
section
variable {lo R : Nat}
set_option maxRecDepth 20000 in
set_option maxHeartbeats 4000000 in
theorem dfile_c (w : World) (r : Dr) (v : Value) (h : Dm w lo R r v) (hlo : lo ≤ R) (a : Option Addr) (b : List Nat) (L C f Z : Nat) (hL : b.length = L) (hLb : L ≤ 100000000000) (ho : Oct b) (hf : f ≤ L) (hf0 : 512 ≤ f) (hZ : Z < 9223372036854775808) (hT : r.ev.length ≤ 2 * f) (hc : ∀ u, Below lo w u → Lies u a b) : Calls Tryd.prog 33 #[.pointer (some ⟨R, 0, none⟩), .slice a L C, .int .i64 (f : Int), .int .u64 (Z : Int)] w fun e w' => e = .returned (.tuple #[]) ∧ (∃ v', Dm w' lo R { r with ev := r.ev ++ fev b f Z } v') ∧ Fr lo R w w' := by
  have A : Aside (b.length = L ∧ L ≤ 100000000000 ∧ Oct b ∧ f ≤ L ∧ (∀ u, Below lo w u → Lies u a b) ∧ lo ≤ R ∧ Z < 9223372036854775808 ∧ r.ev.length ≤ 2 * f ∧ 512 ≤ f) := ⟨hL, hLb, ho, hf, hc, hlo, hZ, hT, hf0⟩
  have A0 : Aside (Dm w lo R r v) := h
  obtain ⟨T, hTl⟩ : ∃ T, (b.drop f) = T := ⟨_, rfl⟩
  have AT : Aside (b.drop f = T) := hTl
  clear h hlo hL hLb ho hf hf0 hZ hT hc hTl
  go_enter Tryd.func33, Tryd.ntmps33
  go_wp2_with fail
  go_loopg [8] (L - f) (fun gg s8 wr => ∃ i : Nat, s8 = .int .i64 (i : Int) ∧ Aside (f ≤ i ∧ i ≤ L ∧ gg = L - i ∧ i - f ≤ Z ∧ (∃ v', Dm wr lo R { r with ev := r.ev ++ bts 1 f (T.take (i - f)) } v') ∧ Fr lo R w wr))
  case atStart =>
    have a0 := A.out
    exact ⟨f, rfl, ⟨Nat.le_refl _, a0.2.2.2.1, rfl, by omega, ⟨v, by rw [Nat.sub_self, List.take_zero, bts_nil, List.append_nil]; exact A0.out⟩, Fr.refl _ _ _⟩⟩
  case round =>
    clear A0
    obtain ⟨i, rfl, hI⟩ := hrel
    obtain ⟨hfi, hiL, hg, hiZ, ⟨v', hd⟩, hfr⟩ := hI.out
    have a0 := A.out
    have bi : (i : Int) ≤ 100000000000 := by omega
    have bf : (f : Int) ≤ (i : Int) := by omega
    obtain ⟨d, hdif⟩ : ∃ d, i - f = d := ⟨_, rfl⟩
    have e1 : (i : Int) - (f : Int) = (d : Int) := by omega
    have e2 : IntKind.u64.wrap (d : Int) = (d : Int) := by rw [tw_u64]; omega
    have bd : (d : Int) ≤ 100000000000 := by omega
    have bZ : (Z : Int) < 9223372036854775808 := by omega
    have bL : (L : Int) ≤ 100000000000 := by omega
    by_cases hlt : i < L ∧ d < Z
    · have t1 : ((i : Int) < (L : Int)) = True := eq_true (by omega)
      have t1n : (i < L) = True := eq_true hlt.1
      have t2 : ((d : Int) < (Z : Int)) = True := eq_true (by omega)
      have t2n : (d < Z) = True := eq_true hlt.2
      obtain ⟨x, hx⟩ : ∃ x, b[i]? = some x := ⟨_, List.getElem?_eq_getElem (by omega)⟩
      have hxo := a0.2.2.1 x (List.mem_of_getElem? hx)
      obtain ⟨ba, oa, rfl, hcx⟩ : ∃ ba oa, a = some ⟨ba, oa, none⟩ ∧ wr.cell? ⟨ba, oa + i, none⟩ = some (.int .u8 (x : Int)) := by
        rcases a0.2.2.2.2.1 wr hfr.bel with q | ⟨ba, oa, q1, q2⟩
        · rw [q] at hx; simp at hx
        · exact ⟨ba, oa, q1, q2 i x hx⟩
      have hTx : T[d]? = some x := by rw [← AT.out, List.getElem?_drop, show f + d = i by omega]; exact hx
      have hte := dtell_c (r := { r with ev := r.ev ++ bts 1 f (T.take (i - f)) }) i x [] a0.2.2.2.2.2.1 hd (by
        show (r.ev ++ bts 1 f (T.take (i - f))).length < _
        have : (bts 1 f (T.take (i - f))).length ≤ i - f := by
          unfold bts
          rw [if_pos rfl, List.length_mapIdx, List.length_take]
          omega
        rw [List.length_append]
        omega)
      have hev : gevv x [] = #[.int .i64 2, .int .u8 (x : Int), .int .i64 0, .int .i64 0, .string ⟨#[]⟩] := by
        unfold gevv gk1 gk2 gk3
        rw [if_neg (by omega), if_neg (by omega), if_pos hxo, if_neg (by omega)]
        rfl
      rw [hev] at hte
      have AG : Aside (i < L ∧ gk = L - i ∧ d < Z ∧ i - f = d ∧ f ≤ i ∧ Fr lo R w wr ∧ r.ev ++ bts 1 f (T.take (i - f)) ++ [(i, x, [])] = r.ev ++ bts 1 f (T.take (i + 1 - f))) := ⟨hlt.1, hg, hlt.2, hdif, hfi, hfr, by rw [List.append_assoc, show i + 1 - f = (i - f) + 1 by omega, bts_more (by rw [hdif]; exact hTx), show f + (i - f) = i by omega]⟩
      clear hI hfi hiL hg hiZ hd hfr a0 hdif hlt hx hxo hTx hev
      go_wp2_with (go_at_call 32; refine hte.mono ?_; rintro e3 w3 ⟨rfl, ⟨v3, D3⟩, F3⟩)
      have ag := AG.out
      go_roundg (L - (i + 1))
      case measure => omega
      case rel => exact ⟨i + 1, by go_num, ⟨by omega, by omega, rfl, by omega, ⟨v3, by rw [← ag.2.2.2.2.2.2]; exact D3⟩, ag.2.2.2.2.2.1.trans F3⟩⟩
    · -- the bytes are all told
      have hbt : bts 1 f (T.take (i - f)) = bts 1 f (T.take Z) := by
        by_cases hq : i < L
        · rw [show i - f = Z by omega]
        · rw [List.take_of_length_le (by rw [← AT.out, List.length_drop]; omega), List.take_of_length_le (by rw [← AT.out, List.length_drop]; omega)]
      have hnl : (bts 1 f (T.take Z)).length ≤ L - f := by
        unfold bts
        rw [if_pos rfl, List.length_mapIdx, List.length_take, ← AT.out, List.length_drop]
        omega
      rw [hbt] at hd
      obtain ⟨q, hq⟩ : ∃ q, L - f = q := ⟨_, rfl⟩
      have e3 : (L : Int) - (f : Int) = (q : Int) := by omega
      have e4 : IntKind.u64.wrap (q : Int) = (q : Int) := by rw [tw_u64]; omega
      have bq : (q : Int) ≤ 100000000000 := by omega
      have hfv : ∀ b1 : Bool, decide (Z ≤ q) = b1 → fev b f Z = bts 1 f (T.take Z) ++ (if b1 then [(f + Z - 1, 257, [])] else []) := fun b1 hb1 => by
        unfold fev
        rw [AT.out, a0.1, hq, ← hb1]
        simp
      have bf2 : (f : Int) ≤ (L : Int) := by omega
      have hcases : (¬ i < L) ∨ (i < L ∧ ¬ d < Z) := by omega
      by_cases hZq : Z ≤ q
      · have t3 : ((Z : Int) ≤ (q : Int)) = True := eq_true (by omega)
        have t3n : (Z ≤ q) = True := eq_true hZq
        have t3g : ((q : Int) ≥ (Z : Int)) = True := eq_true (by omega)
        obtain ⟨fz, hfz⟩ : ∃ fz, f + Z = fz := ⟨_, rfl⟩
        obtain ⟨f1, hf1⟩ : ∃ f1, fz - 1 = f1 := ⟨_, rfl⟩
        have e5 : IntKind.i64.wrap (Z : Int) = (Z : Int) := IntWalk.i64_in _ ⟨by omega, by omega⟩
        have e6 : (f : Int) + (Z : Int) = (fz : Int) := by omega
        have e7 : (fz : Int) - 1 = (f1 : Int) := by omega
        have bz : (fz : Int) ≤ 200000000000 := by omega
        have bz1 : (1 : Int) ≤ (fz : Int) := by omega
        have bZ2 : (Z : Int) ≤ 100000000000 := by omega
        have hte := dtell_c (r := { r with ev := r.ev ++ bts 1 f (T.take Z) }) f1 257 [] a0.2.2.2.2.2.1 hd (by
          show (r.ev ++ bts 1 f (T.take Z)).length < _
          rw [List.length_append]
          omega)
        have hev : gevv 257 [] = #[.int .i64 3, .int .u8 0, .int .i64 0, .int .i64 0, .string ⟨#[]⟩] := rfl
        rw [hev] at hte
        have hfv1 := hfv true (decide_eq_true hZq)
        rw [if_pos rfl, hfz, hf1] at hfv1
        have AG : Aside (r.ev ++ bts 1 f (T.take Z) ++ [(f1, 257, [])] = r.ev ++ fev b f Z ∧ Fr lo R w wr) := ⟨by rw [hfv1, List.append_assoc], hfr⟩
        rcases hcases with hc1 | ⟨hc1, hc2⟩
        · have t1 : ((i : Int) < (L : Int)) = False := eq_false (by omega)
          have t1n : (i < L) = False := eq_false hc1
          clear hI hfi hiL hg hiZ hd hfr a0 hdif hlt hbt hnl hq hfv hfv1 hev hfz hf1 hZq hc1
          go_wp2_with (go_at_call 32; refine hte.mono ?_; rintro e8 w8 ⟨rfl, ⟨v3, D3⟩, F3⟩)
          first | go_end0 | (refine bodyPost_ret (results_none rfl _ _ _) rfl ?_)
          exact ⟨rfl, ⟨v3, by rw [← AG.out.1]; exact D3⟩, AG.out.2.trans F3⟩
        · have t1 : ((i : Int) < (L : Int)) = True := eq_true (by omega)
          have t1n : (i < L) = True := eq_true hc1
          have t2 : ((d : Int) < (Z : Int)) = False := eq_false (by omega)
          have t2n : (d < Z) = False := eq_false hc2
          clear hI hfi hiL hg hiZ hd hfr a0 hdif hlt hbt hnl hq hfv hfv1 hev hfz hf1 hZq hc1 hc2
          go_wp2_with (go_at_call 32; refine hte.mono ?_; rintro e8 w8 ⟨rfl, ⟨v3, D3⟩, F3⟩)
          first | go_end0 | (refine bodyPost_ret (results_none rfl _ _ _) rfl ?_)
          exact ⟨rfl, ⟨v3, by rw [← AG.out.1]; exact D3⟩, AG.out.2.trans F3⟩
      · have t3 : ((Z : Int) ≤ (q : Int)) = False := eq_false (by omega)
        have t3n : (Z ≤ q) = False := eq_false hZq
        have t3g : ((q : Int) ≥ (Z : Int)) = False := eq_false (by omega)
        have hfv1 := hfv false (decide_eq_false hZq)
        rw [if_neg (by simp), List.append_nil] at hfv1
        have AG : Aside (Dm wr lo R { r with ev := r.ev ++ fev b f Z } v' ∧ Fr lo R w wr) := ⟨by rw [hfv1]; exact hd, hfr⟩
        rcases hcases with hc1 | ⟨hc1, hc2⟩
        · have t1 : ((i : Int) < (L : Int)) = False := eq_false (by omega)
          have t1n : (i < L) = False := eq_false hc1
          clear hI hfi hiL hg hiZ hd hfr a0 hdif hlt hbt hnl hq hfv hfv1 hZq hc1
          go_wp2_with fail
          first | go_end0 | (refine bodyPost_ret (results_none rfl _ _ _) rfl ?_)
          exact ⟨rfl, ⟨v', AG.out.1⟩, AG.out.2⟩
        · have t1 : ((i : Int) < (L : Int)) = True := eq_true (by omega)
          have t1n : (i < L) = True := eq_true hc1
          have t2 : ((d : Int) < (Z : Int)) = False := eq_false (by omega)
          have t2n : (d < Z) = False := eq_false hc2
          clear hI hfi hiL hg hiZ hd hfr a0 hdif hlt hbt hnl hq hfv hfv1 hZq hc1 hc2
          go_wp2_with fail
          first | go_end0 | (refine bodyPost_ret (results_none rfl _ _ _) rfl ?_)
          exact ⟨rfl, ⟨v', AG.out.1⟩, AG.out.2⟩
end
end Go.Proofs.YtcmmjbkgoafbnaaDoor

/-
  What the document's Plain comes to.
-/
namespace Go.Proofs.YtcmmjbkgoafbnaaDoor
open Go.RowKit
set_option linter.unusedVariables false
theorem lies_dr {w : World} {b o : Nat} {l : List Nat} (h : Lies w (some ⟨b, o, none⟩) l) (k : Nat) : Lies w (some ⟨b, o + k, none⟩) (l.drop k) := by
  rcases h with rfl | ⟨b', o', ha, hc⟩
  · exact Or.inl (by simp)
  · cases ha
    refine Or.inr ⟨b, o + k, rfl, fun i x hx => ?_⟩
    rw [List.getElem?_drop] at hx
    rw [Nat.add_assoc]
    exact hc _ _ hx
theorem ust_beq {l : List Nat} (h : Oct l) : ((st l).toList == [117, 115, 116, 97, 114]) = decide (l = [117, 115, 116, 97, 114]) := by
  have := st_beq h (show Oct [117, 115, 116, 97, 114] from by unfold Oct; decide)
  have e : (st [117, 115, 116, 97, 114]).toList = [117, 115, 116, 97, 114] := by rw [ByteArray.toList_eq]; rfl
  rw [e] at this; exact this
theorem nil_beq {l : List Nat} (h : Oct l) : ((st l).toList == []) = decide (l = []) := by
  have := st_beq h Oct.nil
  have e : (st []).toList = [] := by rw [ByteArray.toList_eq]; rfl
  rw [e] at this; exact this
set_option maxRecDepth 20000 in
set_option maxHeartbeats 4000000 in
theorem dplain_c (w : World) (b o C : Nat) (l : List Nat) (hL : l.length = 512) (hLC : 512 ≤ C) (hC : C < 1000000000000) (ho : Oct l) (hli : Lies w (some ⟨b, o, none⟩) l) : Calls Tryd.prog 31 #[.slice (some ⟨b, o, none⟩) 512 C] w fun e w' => e = .returned (.string (st (tnm l))) ∧ ∃ n, w' = w.drewN n := by
  have bC : (512 : Int) ≤ (C : Int) := by omega
  have bC2 : (C : Int) < 1000000000000 := by omega
  have h1 : ∀ m, Calls Tryd.prog 51 #[.slice (some ⟨b, o, none⟩) 100 C] (w.drewN m) fun e w' => e = .returned (.string (st (ttx (l.take 100)))) ∧ w' = w.drewN m := fun m => (dtext_c (w.drewN m) (some ⟨b, o, none⟩) (l.take 100) 100 C (by rw [List.length_take]; omega) (by omega) (by omega) (ho.take _) ((lies_take hli 100).drewN m)).mono fun e w' q => ⟨q.1, q.2.symm⟩
  have h2 : ∀ m, Calls Tryd.prog 51 #[.slice (some ⟨b, o + 345, none⟩) 155 (C - 345)] (w.drewN m) fun e w' => e = .returned (.string (st (ttx ((l.drop 345).take 155)))) ∧ w' = w.drewN m := fun m => (dtext_c (w.drewN m) (some ⟨b, o + 345, none⟩) ((l.drop 345).take 155) 155 (C - 345) (by rw [List.length_take, List.length_drop]; omega) (by omega) (by omega) ((ho.drop _).take _) ((lies_take (lies_dr hli 345) 155).drewN m)).mono fun e w' q => ⟨q.1, q.2.symm⟩
  have s1 : ∀ W : World, (Instr.slice 22 (.slice (some ⟨b, o, none⟩) 512 C) none (some (.int .i64 100)) none).run Tryd.prog W = .ok (.slice (some ⟨b, o, none⟩) 100 C) W := fun W => slice_t b o 512 C 100 (by omega) hLC (by omega) W
  have s2 : ∀ W : World, (Instr.slice 22 (.slice (some ⟨b, o, none⟩) 512 C) (some (.int .i64 345)) (some (.int .i64 500)) none).run Tryd.prog W = .ok (.slice (some ⟨b, o + 345, none⟩) 155 (C - 345)) W := fun W => slice_fe b o 512 C 345 500 (by omega) (by omega) (by omega) W
  have s3 : ∀ W : World, (Instr.slice 22 (.slice (some ⟨b, o, none⟩) 512 C) (some (.int .i64 257)) (some (.int .i64 262)) none).run Tryd.prog W = .ok (.slice (some ⟨b, o + 257, none⟩) 5 (C - 257)) W := fun W => slice_fe b o 512 C 257 262 (by omega) (by omega) (by omega) W
  obtain ⟨C2, hC2⟩ : ∃ C2, C - 345 = C2 := ⟨_, rfl⟩
  obtain ⟨C3, hC3⟩ : ∃ C3, C - 257 = C3 := ⟨_, rfl⟩
  obtain ⟨o2, ho2⟩ : ∃ o2, o + 345 = o2 := ⟨_, rfl⟩
  obtain ⟨o3, ho3⟩ : ∃ o3, o + 257 = o3 := ⟨_, rfl⟩
  rw [hC2, ho2] at h2 s2
  rw [hC3, ho3] at s3
  have hcv : ∀ m, (convert 22 9 (.slice (some ⟨b, o3, none⟩) 5 C3)).run Tryd.prog (w.drewN m) = .ok (.string (st ((l.drop 257).take 5))) (w.drewN m) := fun m => conv_st 5 C3 (by rw [List.length_take, List.length_drop]; omega) ((ho.drop _).take _) (by rw [← ho3]; exact (lies_take (lies_dr hli 257) 5).drewN m)
  obtain ⟨N, hN⟩ : ∃ N, ttx (l.take 100) = N := ⟨_, rfl⟩
  obtain ⟨P, hP⟩ : ∃ P, ttx ((l.drop 345).take 155) = P := ⟨_, rfl⟩
  obtain ⟨U, hU⟩ : ∃ U, (l.drop 257).take 5 = U := ⟨_, rfl⟩
  have hno : Oct N := by rw [← hN]; exact oct_ttx (ho.take _)
  have hpo : Oct P := by rw [← hP]; exact oct_ttx ((ho.drop _).take _)
  have hnl : N.length ≤ 100 := by rw [← hN]; have := ttx_len (l.take 100); rw [List.length_take] at this; omega
  have hpl : P.length ≤ 155 := by rw [← hP]; have := ttx_len ((l.drop 345).take 155); rw [List.length_take] at this; omega
  have hub := ust_beq (l := U) (by rw [← hU]; exact (ho.drop _).take _)
  have hpb := nil_beq hpo
  have htn : tnm l = if U = [117, 115, 116, 97, 114] ∧ P ≠ [] then P ++ [47] ++ N else N := by unfold tnm; rw [hN, hP, hU]
  rw [htn]
  rw [hN] at h1
  rw [hP] at h2
  rw [hU] at hcv
  obtain ⟨sn, hsn⟩ : ∃ sn, st N = sn := ⟨_, rfl⟩
  obtain ⟨sp, hsp⟩ : ∃ sp, st P = sp := ⟨_, rfl⟩
  obtain ⟨su, hsu⟩ : ∃ su, st U = su := ⟨_, rfl⟩
  rw [hsn] at h1
  rw [hsp] at h2 hpb
  rw [hsu] at hcv hub
  have AS : Aside (st N = sn ∧ st P = sp) := ⟨hsn, hsp⟩
  clear hL hLC hC ho hli hC2 hC3 ho2 ho3 hN hP hU htn hsu
  by_cases hu : U = [117, 115, 116, 97, 114]
  · have t1 : (su.toList == [117, 115, 116, 97, 114]) = true := by rw [hub]; exact decide_eq_true hu
    by_cases hp : P = []
    · have t2 : (sp.toList == []) = true := by rw [hpb]; exact decide_eq_true hp
      have hs0 : sp = ⟨#[]⟩ := by rw [← hsp, hp]; rfl
      rw [if_neg (fun q => q.2 hp)]
      subst hs0
      clear hub hpb hno hpo hnl hpl hp hsp hsn hu
      rw [AS.out.1]
      go_enter Tryd.func31, Tryd.ntmps31
      go_upto_region 1 with fail
      go_quiet ((first | (go_at_call 51; with_reducible refine Calls.quiet_of_same (h1 _)) | (go_at_call 51; with_reducible refine Calls.quiet_of_same (h2 _))))
      go_wp2_with fail
      first | go_ret | go_ret2
      exact ⟨rfl, _, rfl⟩
    · have t2 : (sp.toList == []) = false := by rw [hpb]; exact decide_eq_false hp
      rw [if_pos ⟨hu, hp⟩]
      have zp : sp.size = P.length := by rw [← hsp, st_size]
      have zn : sn.size = N.length := by rw [← hsn, st_size]
      have e1 : sp ++ ⟨#[47]⟩ = st (P ++ [47]) := by rw [← st_append, hsp]; rfl
      have e2 : st (P ++ [47]) ++ sn = st (P ++ [47] ++ N) := by rw [← hsn, st_append]
      have z2 : (st (P ++ [47])).size = P.length + 1 := by rw [st_size, List.length_append]; rfl
      obtain ⟨lp, hlp⟩ : ∃ lp, P.length = lp := ⟨_, rfl⟩
      obtain ⟨ln, hln⟩ : ∃ ln, N.length = ln := ⟨_, rfl⟩
      rw [hlp] at zp z2 hpl
      rw [hln] at zn hnl
      obtain ⟨sa, hsa⟩ : ∃ sa, st (P ++ [47]) = sa := ⟨_, rfl⟩
      obtain ⟨sb, hsb⟩ : ∃ sb, st (P ++ [47] ++ N) = sb := ⟨_, rfl⟩
      rw [hsa, hsb] at e2
      rw [hsa] at e1 z2
      rw [hsb]
      have g1 : (9223372036854775807 < lp + 1) = False := eq_false (by omega)
      have g2 : (9223372036854775807 < lp + 1 + ln) = False := eq_false (by omega)
      clear hub hpb hno hpo hp hsp hsn hu hlp hln hsa hsb AS
      go_enter Tryd.func31, Tryd.ntmps31
      go_upto_region 1 with fail
      go_quiet ((first | (go_at_call 51; with_reducible refine Calls.quiet_of_same (h1 _)) | (go_at_call 51; with_reducible refine Calls.quiet_of_same (h2 _))))
      go_wp2_with fail
      first | go_ret | go_ret2
      exact ⟨rfl, _, rfl⟩
  · have t1 : (su.toList == [117, 115, 116, 97, 114]) = false := by rw [hub]; exact decide_eq_false hu
    rw [if_neg (fun q => hu q.1), AS.out.1]
    clear hub hpb hno hpo hnl hpl hsp hsn hu
    go_enter Tryd.func31, Tryd.ntmps31
    go_upto_region 1 with fail
    go_quiet ((first | (go_at_call 51; with_reducible refine Calls.quiet_of_same (h1 _)) | (go_at_call 51; with_reducible refine Calls.quiet_of_same (h2 _))))
    go_wp2_with fail
    first | go_ret | go_ret2
    exact ⟨rfl, _, rfl⟩
end Go.Proofs.YtcmmjbkgoafbnaaDoor

/-
  What the document's Of tells of a header, beside the machine. No walk.
-/
namespace Go.Proofs.YtcmmjbkgoafbnaaDoor
open Go.RowKit
set_option linter.unusedVariables false
/-- What is told of a header and its data. -/
def Ev (b : List Nat) (t : Nat) (cn : Option (List Nat)) (Z : Nat) : List Gev := evs (t + 511) (topn (hb b t) cn) ++ (if tisf (tkd (hb b t)) then fev b (t + 512) Z else [])
theorem tus_file {k : Nat} (h : tisf k = true) : tus k = 1 := by
  unfold tisf at h
  simp only [Bool.or_eq_true, beq_iff_eq] at h
  rcases h with (e | e) | e <;> rw [e] <;> rfl
theorem tus_nofile {k : Nat} (h : tisf k = false) : tus k ≠ 1 := by
  unfold tus
  split
  · decide
  · split
    · decide
    · rw [h]; decide
theorem bts_none {us : Nat} (h : us ≠ 1) (t : Nat) (l : List Nat) : bts us t l = [] := by unfold bts; rw [if_neg h]
theorem ev_part {b : List Nat} {t Z : Nat} {cn : Option (List Nat)} (h1 : t + 512 ≤ b.length) (h : b.length - t - 512 < Z) : Ev b t cn Z = hev (hb b t) cn t (b.drop (t + 512)) := by
  unfold Ev hev
  cases hf : tisf (tkd (hb b t)) with
  | true =>
    rw [if_pos rfl, tus_file hf]
    unfold fev
    rw [if_neg (by omega), List.append_nil, List.take_of_length_le (by rw [List.length_drop]; omega)]
  | false =>
    rw [if_neg (by simp), bts_none (tus_nofile hf)]
theorem ev_all {b : List Nat} {t Z : Nat} {cn : Option (List Nat)} (h1 : t + 512 ≤ b.length) (h : Z ≤ b.length - t - 512) : Ev b t cn Z = hev (hb b t) cn t ((b.drop (t + 512)).take Z) ++ evs (t + 511 + Z) (tcl (tus (tkd (hb b t)))) := by
  unfold Ev hev
  cases hf : tisf (tkd (hb b t)) with
  | true =>
    rw [if_pos rfl, tus_file hf]
    unfold fev
    have hz : Z ≤ b.length - (t + 512) := by rw [← Nat.sub_sub]; exact h
    rw [if_pos hz, ← List.append_assoc]
    have e8 : tcl 1 = [(257, [])] := rfl
    rw [e8]
    have e9 : evs (t + 511 + Z) [(257, ([] : List Nat))] = [(t + 511 + Z, 257, [])] := by simp [evs]
    rw [e9, show t + 512 + Z - 1 = t + 511 + Z by omega]
  | false =>
    rw [if_neg (by simp), bts_none (tus_nofile hf)]
    unfold tcl
    rw [if_neg (tus_nofile hf)]
    simp [evs]
theorem fev_len (b : List Nat) (f Z : Nat) : (fev b f Z).length ≤ Z + 1 := by
  unfold fev
  rw [List.length_append]
  have : (bts 1 f ((b.drop f).take Z)).length ≤ Z := by
    unfold bts
    rw [if_pos rfl, List.length_mapIdx, List.length_take]
    omega
  split <;> simp <;> omega
theorem topn_len (B : List Nat) (cn : Option (List Nat)) : (topn B cn).length ≤ 1 := by
  unfold topn
  split <;> simp
theorem hev_len (h : List Nat) (cn : Option (List Nat)) (t : Nat) (d : List Nat) : (hev h cn t d).length ≤ d.length + 1 := by
  unfold hev
  rw [List.length_append]
  have h1 : (evs (t + 511) (topn h cn)).length ≤ 1 := by
    unfold evs
    rw [List.length_map]
    exact topn_len _ _
  have h2 : (bts (tus (tkd h)) (t + 512) d).length ≤ d.length := by
    unfold bts
    split
    · rw [List.length_mapIdx]; exact Nat.le_refl _
    · exact Nat.zero_le _
  omega
theorem ev_len (b : List Nat) (t Z : Nat) (cn : Option (List Nat)) : (Ev b t cn Z).length ≤ Z + 2 := by
  unfold Ev
  rw [List.length_append]
  have h1 : (evs (t + 511) (topn (hb b t) cn)).length ≤ 1 := by
    unfold evs
    rw [List.length_map]
    exact topn_len _ _
  have h2 := fev_len b (t + 512) Z
  split <;> simp <;> omega
theorem ev_none {b : List Nat} {t Z : Nat} {cn : Option (List Nat)} (h : tisf (tkd (hb b t)) = false) : Ev b t cn Z = [] := by
  unfold Ev topn
  rw [if_neg (by rw [h]; simp), if_neg (by rw [h]; simp)]
  rfl
theorem ev_file {b : List Nat} {t Z : Nat} {cn : Option (List Nat)} (h : tisf (tkd (hb b t)) = true) : Ev b t cn Z = [(t + 511, 256, cn.getD (tnm (hb b t)))] ++ fev b (t + 512) Z := by
  unfold Ev topn
  rw [if_pos h, if_pos h]
  rfl
theorem town_nofile {k : Nat} (h : town k = false) : tisf k = false := by
  unfold town at h
  unfold tisf
  have : k = 76 ∨ k = 120 ∨ k = 75 ∨ k = 103 := by
    by_cases h1 : k = 76
    · exact Or.inl h1
    by_cases h2 : k = 120
    · exact Or.inr (Or.inl h2)
    by_cases h3 : k = 75
    · exact Or.inr (Or.inr (Or.inl h3))
    simp at h
    exact Or.inr (Or.inr (Or.inr (h h1 h2 h3)))
  rcases this with rfl | rfl | rfl | rfl <;> decide
theorem town_fin {k : Nat} (h : town k = true) (d : List Nat) (c : Cm) : tfin (tus k) d c = (c, 0) := by
  have h1 : k ≠ 76 ∧ k ≠ 120 := by
    unfold town at h
    simp at h
    exact ⟨h.1.1.1, h.1.1.2⟩
  have : tus k = 0 ∨ tus k = 1 := by
    unfold tus
    rw [if_neg h1.1, if_neg h1.2]
    split
    · exact Or.inr rfl
    · exact Or.inl rfl
  unfold tfin
  rcases this with e | e <;> rw [e] <;> rfl
theorem tkd_at {b : List Nat} {t k : Nat} (h : b[t + 156]? = some k) : tkd (hb b t) = k := by
  unfold tkd hb
  rw [List.getD_eq_getElem?_getD, List.getElem?_take, if_pos (by decide), List.getElem?_drop, h]
  rfl
theorem Lp.okc {b : List Nat} {t : Nat} {T : List Gev} {c : Cm} (h : Lp b t T c) (ho : Oct b) : Okc c := by
  obtain ⟨s, h1, h2⟩ := h.ex
  have := (h1.ok ho).ok.cm
  rw [h2.cm] at this
  exact this
/-- The document's run between headers. -/
structure Or (b : List Nat) (t L : Nat) (r : Dr) : Prop where
  lp : Lp b t r.ev r.cm
  why : r.why = 0
  sat : r.sat = L
  sp : r.sp = false
  ln : r.ev.length ≤ 2 * t
/-- Behind a header: what came of it. -/
structure Oh (b : List Nat) (t L Z : Nat) (r r2 : Dr) : Prop where
  ev : r2.ev = r.ev ++ Ev b t r.cm.1 Z
  cm : r2.cm = tcm (tkd (hb b t)) r.cm
  why : r2.why = 0
  sat : r2.sat = L
  sp : r2.sp = false
section
variable {b : List Nat} {t L Z z y : Nat} {r r2 r3 : Dr}
theorem Or.part (h : Or b t L r) (hL : b.length = L) (h1 : t + 512 ≤ L) (g : Hg (hb b t) z) (hZ : tsz (tkd (hb b t)) z r.cm.2 = Z) (q : Oh b t L Z r r2) (hs : L - t - 512 < Z) : Fo b (dstop 1 L r2).ev (dstop 1 L r2).why (dstop 1 L r2).sat := by
  subst hL
  have := h.lp.part h1 g (by rw [hZ]; exact hs)
  rw [← ev_part h1 hs, ← q.ev] at this
  exact this
theorem Or.told (h : Or b t L r) (hL : b.length = L) (h1 : t + 512 ≤ L) (g : Hg (hb b t) z) (hZ : tsz (tkd (hb b t)) z r.cm.2 = Z) (q : Oh b t L Z r r2) (hs : Z ≤ L - t - 512) (ha : Af r2 r3 (tfin (tus (tkd (hb b t))) ((b.drop (t + 512)).take Z) r2.cm) (t + 511 + Z)) (hsp : r3.sp = true) : Fo b r3.ev r3.why r3.sat := by
  subst hL
  obtain ⟨a1, a2, a3⟩ := ha
  rw [q.cm] at a2 a3
  have hy : (tfin (tus (tkd (hb b t))) ((b.drop (t + 512)).take Z) (tcm (tkd (hb b t)) r.cm)).2 ≠ 0 := fun e => by
    have := (a2 e).2.1
    rw [hsp] at this; cases this
  obtain ⟨b1, b2, b3⟩ := a3 hy
  have := h.lp.told h1 g hZ hs (c' := (tfin (tus (tkd (hb b t))) ((b.drop (t + 512)).take Z) (tcm (tkd (hb b t)) r.cm)).1) (y := (tfin (tus (tkd (hb b t))) ((b.drop (t + 512)).take Z) (tcm (tkd (hb b t)) r.cm)).2) rfl hy
  rw [← ev_all h1 hs, ← q.ev, ← a1, ← b2, ← b3] at this
  exact this
theorem Or.good (q : Oh b t L Z r r2) (ha : Af r2 r3 (tfin (tus (tkd (hb b t))) ((b.drop (t + 512)).take Z) r2.cm) (t + 511 + Z)) (hsp : r3.sp = false) : r3.ev = r.ev ++ Ev b t r.cm.1 Z ∧ tfin (tus (tkd (hb b t))) ((b.drop (t + 512)).take Z) (tcm (tkd (hb b t)) r.cm) = (r3.cm, 0) ∧ r3.why = 0 ∧ r3.sat = L := by
  obtain ⟨a1, a2, a3⟩ := ha
  rw [q.cm] at a2 a3
  have hy : (tfin (tus (tkd (hb b t))) ((b.drop (t + 512)).take Z) (tcm (tkd (hb b t)) r.cm)).2 = 0 := Classical.byContradiction fun e => by
    have := (a3 e).1
    rw [hsp] at this; cases this
  obtain ⟨b1, b2, b3, b4⟩ := a2 hy
  refine ⟨a1.trans q.ev, ?_, b3.trans q.why, b4.trans q.sat⟩
  rw [b1, ← hy]
theorem Or.pad (h : Or b t L r) (hL : b.length = L) (h1 : t + 512 ≤ L) (g : Hg (hb b t) z) (hZ : tsz (tkd (hb b t)) z r.cm.2 = Z) (q : Oh b t L Z r r2) (hs : Z ≤ L - t - 512) (ha : Af r2 r3 (tfin (tus (tkd (hb b t))) ((b.drop (t + 512)).take Z) r2.cm) (t + 511 + Z)) (hsp : r3.sp = false) (hp : L - t - 512 - Z < (512 - Z % 512) % 512) : Fo b (dstop 1 L r3).ev (dstop 1 L r3).why (dstop 1 L r3).sat := by
  subst hL
  obtain ⟨g1, g2, g3, g4⟩ := Or.good q ha hsp
  have := h.lp.pad h1 g hZ hs g2 hp
  rw [← ev_all h1 hs, ← g1] at this
  exact this
theorem Or.next (h : Or b t L r) (hL : b.length = L) (h1 : t + 512 ≤ L) (g : Hg (hb b t) z) (hZ : tsz (tkd (hb b t)) z r.cm.2 = Z) (q : Oh b t L Z r r2) (hs : Z ≤ L - t - 512) (ha : Af r2 r3 (tfin (tus (tkd (hb b t))) ((b.drop (t + 512)).take Z) r2.cm) (t + 511 + Z)) (hsp : r3.sp = false) (hp : (512 - Z % 512) % 512 ≤ L - t - 512 - Z) : Or b (t + 512 + Z + (512 - Z % 512) % 512) L r3 := by
  obtain ⟨g1, g2, g3, g4⟩ := Or.good q ha hsp
  have hev := ev_len b t Z r.cm.1
  have hln := h.ln
  subst hL
  have := h.lp.next h1 g hZ hs g2 hp
  rw [← ev_all h1 hs, ← g1] at this
  refine ⟨this, g3, g4, hsp, ?_⟩
  rw [g1, List.length_append]
  omega
end
theorem Dm.clr {w : World} {lo R : Nat} {r : Dr} {v : Value} (h : Dm w lo R r v) : Dm ((w.setCell ⟨R, 4, none⟩ (.bool false)).setCell ⟨R, 6, none⟩ (.bool false)) lo R { r with nd := false, sd := false } v ∧ Only R w ((w.setCell ⟨R, 4, none⟩ (.bool false)).setCell ⟨R, 6, none⟩ (.bool false)) ∧ (w.setCell ⟨R, 4, none⟩ (.bool false)).cell? ⟨R, 6, none⟩ = some (.bool r.sd) ∧ (w.setCell ⟨R, 4, none⟩ (.bool false)).frozen? ⟨R, 6, none⟩ = false := by
  have o : Only R w ((w.setCell ⟨R, 4, none⟩ (.bool false)).setCell ⟨R, 6, none⟩ (.bool false)) := ((Only.refl R w).setCell 4 _).setCell 6 _
  have k := h.cells.set 4 (.bool false)
  exact ⟨h.only o rfl (k.set 6 (.bool false)), o, (k.cell 6).trans rfl, k.frozen 6⟩
theorem size29t : (Tryd.prog.info? 29).map (·.size) = some 8 := by kernel_rfl
/-- What Of answers. -/
structure Ofr (b : List Nat) (B : Nat) (w : World) (e : Ending) (w' : World) : Prop where
  ex : ∃ (r : Dr) (v : Value), e = .returned (.agg (dcs r v)) ∧ Fo b r.ev r.why r.sat ∧ r.ev.length ≤ 3 * b.length ∧ Ow w' B 75 6 v r.ev.length (gcs r.ev) ∧ Below B w w'
abbrev zrd : Array Value := #[.slice none 0 0, .int .i64 0, .int .i64 0, .string ⟨#[]⟩, .bool false, .int .u64 0, .bool false, .bool false]
theorem of_fin {w wr : World} {H R : Nat} {r : Dr} {v z0 z1 z2 z3 z4 z5 z6 z7 : Value} (g : Dm wr H R r v) (bel : Below H w wr) (kH : Cells wr H #[z0, z1, z2, z3, z4, z5, z6, z7] 29) :
    Cells ((((((((wr.setCell ⟨H, 0, none⟩ v).setCell ⟨H, 1, none⟩ (.int .i64 (r.why : Int))).setCell ⟨H, 2, none⟩ (.int .i64 (r.sat : Int))).setCell ⟨H, 3, none⟩ (.string (st r.nm))).setCell ⟨H, 4, none⟩ (.bool r.nd)).setCell ⟨H, 5, none⟩ (.int .u64 (r.sz : Int))).setCell ⟨H, 6, none⟩ (.bool r.sd)).setCell ⟨H, 7, none⟩ (.bool r.sp)) H (dcs r v) 29 ∧ Ow ((((((((wr.setCell ⟨H, 0, none⟩ v).setCell ⟨H, 1, none⟩ (.int .i64 (r.why : Int))).setCell ⟨H, 2, none⟩ (.int .i64 (r.sat : Int))).setCell ⟨H, 3, none⟩ (.string (st r.nm))).setCell ⟨H, 4, none⟩ (.bool r.nd)).setCell ⟨H, 5, none⟩ (.int .u64 (r.sz : Int))).setCell ⟨H, 6, none⟩ (.bool r.sd)).setCell ⟨H, 7, none⟩ (.bool r.sp)) H 75 6 v r.ev.length (gcs r.ev) ∧ Below H w ((((((((wr.setCell ⟨H, 0, none⟩ v).setCell ⟨H, 1, none⟩ (.int .i64 (r.why : Int))).setCell ⟨H, 2, none⟩ (.int .i64 (r.sat : Int))).setCell ⟨H, 3, none⟩ (.string (st r.nm))).setCell ⟨H, 4, none⟩ (.bool r.nd)).setCell ⟨H, 5, none⟩ (.int .u64 (r.sz : Int))).setCell ⟨H, 6, none⟩ (.bool r.sd)).setCell ⟨H, 7, none⟩ (.bool r.sp)) := by
  have o : Only H wr ((((((((wr.setCell ⟨H, 0, none⟩ v).setCell ⟨H, 1, none⟩ (.int .i64 (r.why : Int))).setCell ⟨H, 2, none⟩ (.int .i64 (r.sat : Int))).setCell ⟨H, 3, none⟩ (.string (st r.nm))).setCell ⟨H, 4, none⟩ (.bool r.nd)).setCell ⟨H, 5, none⟩ (.int .u64 (r.sz : Int))).setCell ⟨H, 6, none⟩ (.bool r.sd)).setCell ⟨H, 7, none⟩ (.bool r.sp)) := ((((((((Only.refl H wr).setCell 0 _).setCell 1 _).setCell 2 _).setCell 3 _).setCell 4 _).setCell 5 _).setCell 6 _).setCell 7 _
  have k8 := (((((((kH.set 0 v).set 1 (.int .i64 (r.why : Int))).set 2 (.int .i64 (r.sat : Int))).set 3 (.string (st r.nm))).set 4 (.bool r.nd)).set 5 (.int .u64 (r.sz : Int))).set 6 (.bool r.sd)).set 7 (.bool r.sp)
  simp only [List.setIfInBounds_toArray, List.set_cons_zero, List.set_cons_succ] at k8
  refine ⟨k8, ?_, bel.trans (o.below (Nat.le_refl _))⟩
  refine g.ow.keep (Nat.le_of_eq o.size.symm) fun i _ _ ⟨cs, fr, hx⟩ => o.block i (fun e => ?_)
  subst e
  unfold Cells at kH
  rw [kH] at hx
  cases hx
theorem keepH {H : Nat} {w1 wr : World} {cs : Array Value} (k : Cells w1 H cs 29) (hz : w1.heap.size = H + 2) (h : Fr H (H + 1) w1 wr) : Cells wr H cs 29 := by
  unfold Cells at *
  rw [h.kp H (by omega) (by omega) (by rw [k]; intro cs h; cases h)]
  exact k
end Go.Proofs.YtcmmjbkgoafbnaaDoor

/-
  Events and their times: what is told with a byte; the machine beside the document's run. No walk.
-/
namespace Go.Proofs.YtcmmjbkgoafbnaaDoor
open Go.RowKit
set_option linter.unusedVariables false
theorem mr_ge : ∀ (l : List Nat) (t : Nat) (s s' : Ts) (T : List Gev), Mr t s l s' T → ∀ p ∈ T, t ≤ p.1
  | [], t, s, s', T, h, p, hp => by
    obtain ⟨_, rfl⟩ := h
    cases hp
  | x :: l, t, s, s', T, h, p, hp => by
    obtain ⟨_, s1, E, T1, _, h2, rfl⟩ := h
    rcases List.mem_append.1 hp with q | q
    · obtain ⟨e, _, rfl⟩ := List.mem_map.1 q
      exact Nat.le_refl _
    · exact Nat.le_of_succ_le (mr_ge l (t + 1) s1 s' T1 h2 p q)
/-- What is told with the byte t: E, from the place i on. -/
structure Tn (T : List Gev) (t i : Nat) (E : List Evn) : Prop where
  here : ∀ (j : Nat) (e : Evn), E[j]? = some e → T[i + j]? = some (t, e)
  there : ∀ p, T[i + E.length]? = some p → p.1 ≠ t
theorem Tn.next {T : List Gev} {t i : Nat} {e : Evn} {E : List Evn} (h : Tn T t i (e :: E)) : Tn T t (i + 1) E := by
  refine ⟨fun j x hj => ?_, fun p hp => h.there p ?_⟩
  · have := h.here (j + 1) x (by simpa using hj)
    rw [← this]; congr 1; omega
  · rw [← hp]; congr 1; simp; omega
theorem tn_of {T Ti T2 : List Gev} {t : Nat} {E : List Evn} (h : T = Ti ++ evs t E ++ T2) (h2 : ∀ p ∈ T2, t < p.1) : Tn T t Ti.length E := by
  have hl : (evs t E).length = E.length := by simp [evs]
  refine ⟨fun j e hj => ?_, fun p hp => ?_⟩
  · have hlt : j < E.length := (List.getElem?_eq_some_iff.1 hj).1
    rw [h, List.append_assoc, List.getElem?_append_right (by omega), Nat.add_sub_cancel_left, List.getElem?_append_left (by omega)]
    simp [evs, hj]
  · rw [h, List.getElem?_append_right (by rw [List.length_append]; omega)] at hp
    rw [List.length_append, hl, Nat.sub_self] at hp
    have := h2 p (List.mem_of_getElem? hp)
    omega
theorem tn_end (T : List Gev) (t : Nat) : Tn T t T.length [] := ⟨fun j e hj => by simp at hj, fun p hp => by simp at hp⟩
/-- The document's run as a machine's. -/
structure Fr2 (b : List Nat) (r : Dr) (k : Nat) (s : Ts) : Prop where
  rch : Rch b k s r.ev
  fin : zfin s = r.why
  st : (s.why = 0 ∧ k = b.length ∧ (r.why = 0 ∨ r.sat = b.length)) ∨ (s.why ≠ 0 ∧ r.why ≠ 0 ∧ k = r.sat + 1)
theorem Fo.run {b : List Nat} {r : Dr} (h : Fo b r.ev r.why r.sat) : ∃ k s, Fr2 b r k s := by
  obtain ⟨k, s, q, q1⟩ := h.ex
  rcases q1 with ⟨q1, q2, q3⟩ | ⟨q1, rfl, q2, q3, _⟩
  · exact ⟨k, s, q, by unfold zfin; rw [if_pos q1, q2], Or.inr ⟨q1, by rw [q2]; exact q1, q3.symm⟩⟩
  · exact ⟨_, s, q, q2.symm, Or.inl ⟨q1, rfl, Or.inr q3⟩⟩
/-- i bytes were put in, n events told. -/
structure Si (b : List Nat) (r : Dr) (k : Nat) (i n : Nat) (si : Ts) : Prop where
  ex : ∃ Ti, Rch b (min i k) si Ti ∧ n = Ti.length
theorem Si.start (b : List Nat) (r : Dr) (k : Nat) : Si b r k 0 0 t0 := ⟨[], by rw [Nat.zero_min]; exact rch_zero b, rfl⟩
/-- One that is taken. -/
theorem Si.step {b : List Nat} {r : Dr} {k : Nat} {s : Ts} (f : Fr2 b r k s) {i n : Nat} {si : Ts} (h : Si b r k i n si) (hi : i < k) : si.why = 0 ∧ (∃ Ti, Rch b i si Ti) ∧ ∃ x s1 E, b[i]? = some x ∧ Sp si x s1 E ∧ Si b r k (i + 1) (n + E.length) s1 ∧ Tn r.ev i n E ∧ (∃ T1, Rch b (i + 1) s1 T1) ∧ (s1.why ≠ 0 ↔ (r.why ≠ 0 ∧ r.sat ≤ i)) := by
  obtain ⟨Ti, h1, rfl⟩ := h.ex
  rw [Nat.min_eq_left (Nat.le_of_lt hi)] at h1
  obtain ⟨h0, x, s1, E, T2, q1, q2, q3, q4, q5⟩ := f.rch.at h1 hi
  refine ⟨h0, ⟨Ti, h1⟩, x, s1, E, q1, q2, ⟨_, by rw [Nat.min_eq_left hi]; exact q3, by simp [evs]⟩, tn_of q4 (fun p hp => mr_ge _ _ _ _ _ q5 p hp), ⟨_, q3⟩, ?_⟩
  have hk := f.rch.1
  by_cases hk2 : i + 1 < k
  · have e := (f.rch.at q3 hk2).1
    rcases f.st with ⟨_, g2, g3 | g3⟩ | ⟨_, g2, g3⟩
    · exact ⟨fun z => absurd e z, fun z => absurd g3 z.1⟩
    · exact ⟨fun z => absurd e z, fun z => by omega⟩
    · exact ⟨fun z => absurd e z, fun z => by omega⟩
  · have ek : i + 1 = k := by omega
    rw [ek] at q3
    obtain ⟨rfl, _⟩ := q3.det f.rch
    rcases f.st with ⟨g1, g2, g3 | g3⟩ | ⟨g1, g2, g3⟩
    · exact ⟨fun z => absurd g1 z, fun z => absurd g3 z.1⟩
    · exact ⟨fun z => absurd g1 z, fun z => by omega⟩
    · exact ⟨fun _ => ⟨g2, by omega⟩, fun _ => g1⟩
/-- It is stopped. -/
theorem Si.over {b : List Nat} {r : Dr} {k : Nat} {s : Ts} (f : Fr2 b r k s) {i n : Nat} {si : Ts} (h : Si b r k i n si) (hi : ¬ i < k) : si = s ∧ n = r.ev.length ∧ Si b r k (i + 1) n s ∧ Tn r.ev i n [] := by
  obtain ⟨Ti, h1, rfl⟩ := h.ex
  rw [Nat.min_eq_right (by omega)] at h1
  obtain ⟨rfl, rfl⟩ := h1.det f.rch
  exact ⟨rfl, rfl, ⟨_, by rw [Nat.min_eq_right (by omega)]; exact h1, rfl⟩, tn_end _ _⟩
theorem Fr2.open_ {b : List Nat} {r : Dr} {k : Nat} {s : Ts} (f : Fr2 b r k s) {i : Nat} (hl : i < b.length) : (i < k ↔ (r.why = 0 ∨ i ≤ r.sat)) := by
  rcases f.st with ⟨g1, g2, g3 | g3⟩ | ⟨g1, g2, g3⟩
  · exact ⟨fun _ => Or.inl g3, fun _ => by omega⟩
  · exact ⟨fun _ => Or.inr (by omega), fun _ => by omega⟩
  · exact ⟨fun _ => Or.inr (by omega), fun q => by rcases q with q | q; exact absurd q g2; omega⟩
/-- What tells an event does not stop. -/
theorem tfin_one (d : List Nat) (c : Cm) : tfin 1 d c = (c, 0) := rfl
theorem tend_one {s : Ts} (h : s.us = 1) : (tend s).why = 0 := by
  show (tfin s.us _ _).2 = 0
  rw [h]; rfl
theorem tbeg_why (z : Nat) (s : Ts) (h0 : s.why = 0) : (tbeg 1 z s).1.why = 0 := by
  unfold tbeg
  split
  · exact tend_one rfl
  · exact h0
theorem tnx_why (s : Ts) : (tnx s).why = s.why := by unfold tnx; split <;> rfl
theorem thead_tells (s : Ts) (h0 : s.why = 0) (he : (thead s).2 ≠ []) : (thead s).1.why = 0 := by
  unfold thead at he ⊢
  split at he
  · exact absurd rfl he
  rename_i hn
  split at he
  · exact absurd rfl he
  rename_i hr
  split at he
  · exact absurd rfl he
  rename_i z hz
  split at he
  · exact absurd rfl he
  rename_i hm
  rw [if_neg hn, if_neg hr]
  rw [if_neg hm]
  cases hf : tisf (tkd s.B) with
  | true =>
    rw [tus_file hf]
    exact tbeg_why _ _ h0
  | false =>
    exfalso
    apply he
    show topn s.B s.nm ++ (tbeg (tus (tkd s.B)) (tsz (tkd s.B) z s.sz) s).2 = []
    unfold topn
    rw [hf, tbeg_ev (tus_nofile hf)]
    rfl
theorem tkp_us2 (x : Nat) (s : Ts) : (tkp x s).us = s.us ∧ (tkp x s).why = s.why := by unfold tkp; split <;> exact ⟨rfl, rfl⟩
theorem tdat_tells (x : Nat) (s : Ts) (h0 : s.why = 0) (he : (tdat x s).2 ≠ []) : (tdat x s).1.why = 0 := by
  by_cases h1 : s.us = 1
  · unfold tdat
    split
    · exact tend_one ((tkp_us2 x s).1.trans h1)
    · exact (tkp_us2 x s).2.trans h0
  · exfalso
    apply he
    unfold tdat tbt tcl
    rw [if_neg h1, if_neg h1]
    split <;> rfl
theorem Sp.tells {s s1 : Ts} {x : Nat} {E : List Evn} (h : Sp s x s1 E) (h0 : s.why = 0) : E = [] ∨ s1.why = 0 := by
  by_cases he : E = []
  · exact Or.inl he
  · refine Or.inr ?_
    rw [h.2] at he
    rw [h.1]
    unfold tput at he ⊢
    split
    · rename_i h1
      rw [if_pos h1] at he
      split
      · rename_i h2
        rw [if_pos h2] at he
        rw [tnx_why]
        exact thead_tells _ h0 he
      · exact h0
    · rename_i h1
      rw [if_neg h1] at he
      split
      · rename_i h2
        rw [if_pos h2] at he
        rw [tnx_why]
        exact tdat_tells _ _ h0 he
      · rename_i h2
        rw [if_neg h2] at he
        exact absurd rfl he
end Go.Proofs.YtcmmjbkgoafbnaaDoor

/-
  What tells comes to.
-/
namespace Go.Proofs.YtcmmjbkgoafbnaaDoor
open Go.RowKit
set_option linter.unusedVariables false
set_option linter.unusedSimpArgs false
/-- Timed events in memory. -/
def Te (w : World) (a : Option Addr) (T : List Gev) : Prop := T = [] ∨ ∃ g o, a = some ⟨g, o, none⟩ ∧ ∀ (i : Nat) (p : Gev), T[i]? = some p → w.cell? ⟨g, o + i * 6, none⟩ = some (.int .i64 (p.1 : Nat)) ∧ w.cell? ⟨g, o + i * 6 + 1, none⟩ = some (.int .i64 (gk1 p.2.1)) ∧ w.cell? ⟨g, o + i * 6 + 2, none⟩ = some (.int .u8 (gk2 p.2.1)) ∧ w.cell? ⟨g, o + i * 6 + 3, none⟩ = some (.int .i64 (gk3 p.2.1)) ∧ w.cell? ⟨g, o + i * 6 + 4, none⟩ = some (.int .i64 0) ∧ w.cell? ⟨g, o + i * 6 + 5, none⟩ = some (.string (st p.2.2))
theorem Te.below {w u : World} {a : Option Addr} {T : List Gev} (h : Te w a T) (k : Below w.heap.size w u) : Te u a T := by
  rcases h with h | ⟨g, o, ha, hx⟩
  · exact Or.inl h
  · refine Or.inr ⟨g, o, ha, fun i p hp => ?_⟩
    obtain ⟨h0, h1, h2, h3, h4, h5⟩ := hx i p hp
    have f : ∀ {q : Addr} {v : Value}, w.cell? q = some v → u.cell? q = some v := fun {q v} hq => (k.cell (p := q) (World.block_lt_of_cell? w _ hq)).trans hq
    exact ⟨f h0, f h1, f h2, f h3, f h4, f h5⟩
theorem gcs_length (T : List Gev) : (gcs T).length = T.length * 6 := by
  induction T with
  | nil => rfl
  | cons p T ih => rw [show gcs (p :: T) = gcel p ++ gcs T from rfl, List.length_append, ih, List.length_cons]; show 6 + _ = _; omega
theorem gcs_at {T : List Gev} {i : Nat} {p : Gev} (hp : T[i]? = some p) (j : Nat) (hj : j < 6) : (gcs T)[i * 6 + j]? = (gcs [p])[j]? := by
  have e : T = T.take i ++ p :: T.drop (i + 1) := by
    have h := (List.getElem?_eq_some_iff.1 hp)
    obtain ⟨h1, h2⟩ := h
    rw [← h2, ← List.drop_eq_getElem_cons h1, List.take_append_drop]
  have hl : (T.take i).length = i := by rw [List.length_take]; have := (List.getElem?_eq_some_iff.1 hp).1; omega
  rw [e, gcs_app, List.getElem?_append_right (by rw [gcs_length, hl]; omega), gcs_length, hl, show p :: T.drop (i + 1) = [p] ++ T.drop (i + 1) from rfl, gcs_app, List.getElem?_append_left (by rw [gcs_length]; simp; omega)]
  congr 1
  omega
theorem te_of {w : World} {lo : Nat} {v : Value} {T : List Gev} (h : Ow w lo 75 6 v T.length (gcs T)) : ∃ a c, v = .slice a T.length c ∧ Te w a T ∧ T.length ≤ c := by
  obtain ⟨a, c, hv, hc, h0 | ⟨g, hg, _, _, hx, _⟩, _⟩ := h.shape
  · exact ⟨a, c, hv, Or.inl (List.eq_nil_of_length_eq_zero h0), hc⟩
  · refine ⟨a, c, hv, Or.inr ⟨g, 0, hg, fun i p hp => ?_⟩, hc⟩
    have f : ∀ j, j < 6 → ∀ u, (gcs [p])[j]? = some u → w.cell? ⟨g, 0 + i * 6 + j, none⟩ = some u := fun j hj u hu => by
      rw [Nat.zero_add]
      exact hx _ _ (by rw [gcs_at hp j hj]; exact hu)
    exact ⟨f 0 (by decide) _ rfl, f 1 (by decide) _ rfl, f 2 (by decide) _ rfl, f 3 (by decide) _ rfl, f 4 (by decide) _ rfl, f 5 (by decide) _ rfl⟩
/-- What tells answers. -/
structure Tla (W : Nat) (s : Ts) (n : Nat) (w : World) (e : Ending) (w' : World) : Prop where
  ex : e = .returned (.tuple #[.int .i64 (n : Int), .bool true]) ∧ Wz w' W s [] ∧ But W w w'
section
variable {W : Nat} {s : Ts}
/-- Where the loop stands. -/
structure Tkq (W : Nat) (s : Ts) (T : List Gev) (t i n : Nat) (w wr : World) (E : List Evn) : Prop where
  wz : Wz wr W s E
  fw : But W w wr
  tn : Tn T t i E
  sum : i + E.length = n
  sil : E = [] ∨ s.why = 0
theorem Tkq.next {T : List Gev} {t i n : Nat} {w wr w2 : World} {e : Evn} {E : List Evn} (h : Tkq W s T t i n w wr (e :: E)) (k : Wz w2 W s E) (f : But W wr w2) : Tkq W s T t (i + 1) n w w2 E := by
  have h1 := h.sum
  simp at h1
  exact ⟨k, h.fw.trans f, h.tn.next, by omega, Or.inr (by rcases h.sil with q | q; cases q; exact q)⟩
set_option maxRecDepth 20000 in
set_option maxHeartbeats 2000000 in
theorem tells_c (a : Option Addr) (T : List Gev) (N c t i n : Nat) (E : List Evn) (w : World) (hN : T.length = N) (hNb : N ≤ 1000000000000) (htb : t ≤ 1000000000000) (hT : ∀ u, But W w u → Te u a T) (h : Tkq W s T t i n w w E) : Calls Tryd.prog 12 #[.pointer (some ⟨W, 0, none⟩), .slice a N c, .int .i64 (i : Int), .int .i64 (t : Int)] w fun e w' => Tla W s n w e w' := by
  have AQ : Aside (T.length = N ∧ (∀ u, But W w u → Te u a T) ∧ N ≤ 1000000000000 ∧ t ≤ 1000000000000) := ⟨hN, hT, hNb, htb⟩
  have A0 : Aside (Tkq W s T t i n w w E) := h
  clear hN hT hNb htb h
  go_enter Tryd.func12, Tryd.ntmps12
  go_wp2_with fail
  go_loopg [2] E.length (fun gg s2 wr => ∃ (i : Nat), s2 = .int .i64 (i : Int) ∧ Aside (∃ E, Tkq W s T t i n w wr E ∧ gg = E.length))
  case atStart => exact ⟨i, rfl, ⟨E, A0.out, rfl⟩⟩
  case round =>
    clear A0
    obtain ⟨i, rfl, hR⟩ := hrel
    obtain ⟨E, tq, hgk⟩ := hR.out
    have a0 := AQ.out
    cases E with
    | nil =>
      have hno := wz_next_no wr tq.wz
      have hsum := tq.sum
      simp at hsum
      subst hsum
      have A3 : Aside (Wz wr W s [] ∧ But W w wr) := ⟨tq.wz, tq.fw⟩
      have hno' : Calls Tryd.prog 15 #[.pointer (some ⟨W, 0, none⟩)] wr fun e w' => e = .returned (.tuple #[.agg #[.int .i64 0, .int .u8 0, .int .i64 0, .int .i64 0, .string ⟨#[]⟩], .bool false]) ∧ Wz w' W s [] ∧ Below wr.heap.size wr w' := hno
      by_cases hi' : i < N
      · have t1 : ((i : Int) < (N : Int)) = True := eq_true (by omega)
        have t2 : (i < N) = True := eq_true hi'
        obtain ⟨p, hp⟩ : ∃ p, T[i]? = some p := ⟨_, List.getElem?_eq_getElem (by omega)⟩
        rcases a0.2.1 wr tq.fw with e | ⟨ge, oe, rfl, hce⟩
        · rw [e] at hp; simp at hp
        obtain ⟨ce0, _⟩ := hce i p hp
        have hne := tq.tn.there p (by simpa using hp)
        obtain ⟨pt, pg⟩ := p
        have hx : ((pt : Int) == (t : Int)) = false := by simp; intro h; exact hne (by show pt = t; omega)
        simp only at ce0
        clear hR tq hgk a0 hno hce hp hne hi'
        go_upto_region 9 with (go_at_call 15; refine hno'.mono ?_; rintro e1 w1 ⟨rfl, z1, b1⟩)
        obtain ⟨E1, hE⟩ : ∃ E1, w1.heap.size = E1 := ⟨_, rfl⟩
        obtain ⟨w3, hw3⟩ : ∃ w3, w1.alloc (.cells #[.int .i64 0, .int .u8 0, .int .i64 0, .int .i64 0, .string ⟨#[]⟩] 36) = w3 := ⟨_, rfl⟩
        rw [hw3, hE]
        have kE : Cells w3 E1 #[.int .i64 0, .int .u8 0, .int .i64 0, .int .i64 0, .string ⟨#[]⟩] 36 := by rw [← hw3, ← hE]; exact Cells.new w1 _ 36
        have b3 : Below w1.heap.size w1 w3 := by rw [← hw3]; exact (Below.refl _ w1).alloc (Nat.le_refl _) _
        have A4 : Aside (Wz w3 W s [] ∧ But W w w3) := ⟨z1.below b3 (Nat.le_refl _), (A3.out.2.trans (But.of_below b1)).trans (But.of_below b3)⟩
        have d0 := kE.cell 0
        have d1 := kE.cell 1
        have d2 := kE.cell 2
        have d3 := kE.cell 3
        have d4 := kE.cell 4
        clear b1 b3 kE hE hw3 hno' A3 ce0 hx t1 t2 z1
        go_quiet (fail)
        go_wp2_with fail
        first | go_ret | go_ret2
        exact ⟨rfl, A4.out.1.below (Below.drewN2 (Below.refl _ w3) _) (Nat.le_refl _), A4.out.2.trans (But.of_below (Below.drewN2 (Below.refl _ w3) _))⟩
      · have t1 : ((i : Int) < (N : Int)) = False := eq_false (by omega)
        have t2 : (i < N) = False := eq_false hi'
        clear hR tq hgk a0 hno hi'
        go_upto_region 9 with (go_at_call 15; refine hno'.mono ?_; rintro e1 w1 ⟨rfl, z1, b1⟩)
        obtain ⟨E1, hE⟩ : ∃ E1, w1.heap.size = E1 := ⟨_, rfl⟩
        obtain ⟨w3, hw3⟩ : ∃ w3, w1.alloc (.cells #[.int .i64 0, .int .u8 0, .int .i64 0, .int .i64 0, .string ⟨#[]⟩] 36) = w3 := ⟨_, rfl⟩
        rw [hw3, hE]
        have kE : Cells w3 E1 #[.int .i64 0, .int .u8 0, .int .i64 0, .int .i64 0, .string ⟨#[]⟩] 36 := by rw [← hw3, ← hE]; exact Cells.new w1 _ 36
        have b3 : Below w1.heap.size w1 w3 := by rw [← hw3]; exact (Below.refl _ w1).alloc (Nat.le_refl _) _
        have A4 : Aside (Wz w3 W s [] ∧ But W w w3) := ⟨z1.below b3 (Nat.le_refl _), (A3.out.2.trans (But.of_below b1)).trans (But.of_below b3)⟩
        have d0 := kE.cell 0
        have d1 := kE.cell 1
        have d2 := kE.cell 2
        have d3 := kE.cell 3
        have d4 := kE.cell 4
        clear b1 b3 kE hE hw3 hno' A3 t1 t2 z1
        go_quiet (fail)
        go_wp2_with fail
        first | go_ret | go_ret2
        exact ⟨rfl, A4.out.1.below (Below.drewN2 (Below.refl _ w3) _) (Nat.le_refl _), A4.out.2.trans (But.of_below (Below.drewN2 (Below.refl _ w3) _))⟩
    | cons e E =>
      have hp := tq.tn.here 0 e rfl
      rw [Nat.add_zero] at hp
      have hi' : i < N := by
        have := (List.getElem?_eq_some_iff.1 hp).1
        omega
      have t1 : ((i : Int) < (N : Int)) = True := eq_true (by omega)
      have t2 : (i < N) = True := eq_true hi'
      rcases a0.2.1 wr tq.fw with q | ⟨ge, oe, rfl, hce⟩
      · rw [q] at hp; simp at hp
      obtain ⟨g, nm⟩ := e
      obtain ⟨ce0, ce1, ce2, ce3, ce4, ce5⟩ := hce i _ hp
      simp only at ce0
      have hx : ((t : Int) == (t : Int)) = true := by simp
      have hput : Calls Tryd.prog 9 #[.pointer (some ⟨W, 0, none⟩), .int .u8 120] wr fun e w' => e = .returned (.bool false) ∧ wr = w' := wz_put_no 120 wr tq.wz (Or.inl (by simp))
      have hrea : Calls Tryd.prog 13 #[.pointer (some ⟨W, 0, none⟩)] wr fun e w' => e = .returned (.int .i64 0) ∧ wr = w' := by
        have h00 : s.why = 0 := by rcases tq.sil with q | q; cases q; exact q
        have := wz_reason wr tq.wz
        rw [h00] at this
        exact this
      obtain ⟨vk, hvk⟩ : ∃ vk : Int, gk1 g = vk := ⟨_, rfl⟩
      obtain ⟨vb, hvb⟩ : ∃ vb : Int, gk2 g = vb := ⟨_, rfl⟩
      obtain ⟨vn, hvn⟩ : ∃ vn : Int, gk3 g = vn := ⟨_, rfl⟩
      obtain ⟨vs, hvs⟩ : ∃ vs, st nm = vs := ⟨_, rfl⟩
      have hnx : Calls Tryd.prog 15 #[.pointer (some ⟨W, 0, none⟩)] wr fun e w' => e = .returned (.tuple #[.agg #[.int .i64 vk, .int .u8 vb, .int .i64 vn, .int .i64 0, .string vs], .bool true]) ∧ Wz w' W s E ∧ But W wr w' := by
        have := wz_next (g, nm) wr tq.wz
        rw [show gevv (g, nm).1 (g, nm).2 = #[.int .i64 vk, .int .u8 vb, .int .i64 vn, .int .i64 0, .string vs] by unfold gevv; rw [hvk, hvb, hvn, hvs]] at this
        exact this
      have AR : Aside (Tkq W s T t i n w wr ((g, nm) :: E) ∧ gk = ((g, nm) :: E).length ∧ i < N ∧ T[i]? = some (t, g, nm) ∧ gk1 g = vk ∧ gk2 g = vb ∧ gk3 g = vn ∧ st nm = vs) := ⟨tq, hgk, hi', hp, hvk, hvb, hvn, hvs⟩
      clear hR tq hgk a0 hce hp hi' ce1 ce2 ce3 ce4 ce5 hvk hvb hvn hvs
      go_upto_region 5 with (first | (go_at_call 9; refine hput.mono ?_; rintro e1 w1 ⟨rfl, rfl⟩) | (go_at_call 13; refine hrea.mono ?_; rintro e1 w1 ⟨rfl, rfl⟩) | (go_at_call 15; refine hnx.mono ?_; rintro e1 w1 ⟨rfl, k1, b1⟩))
      obtain ⟨E1, hE⟩ : ∃ E1, w1.heap.size = E1 := ⟨_, rfl⟩
      obtain ⟨w3, hw3⟩ : ∃ w3, w1.alloc (.cells #[.int .i64 vk, .int .u8 vb, .int .i64 vn, .int .i64 0, .string vs] 36) = w3 := ⟨_, rfl⟩
      rw [hw3, hE]
      have kE : Cells w3 E1 #[.int .i64 vk, .int .u8 vb, .int .i64 vn, .int .i64 0, .string vs] 36 := by rw [← hw3, ← hE]; exact Cells.new w1 _ 36
      have b3 : Below w1.heap.size w1 w3 := by rw [← hw3]; exact (Below.refl _ w1).alloc (Nat.le_refl _) _
      have ar := AR.out
      have bw3 : But W wr w3 := b1.trans (But.of_below b3)
      have kw3 : Wz w3 W s E := k1.below b3 (Nat.le_refl _)
      have A4 : Aside (Tkq W s T t (i + 1) n w w3 E) := ar.1.next kw3 bw3
      have d0 := kE.cell 0
      have d1 := kE.cell 1
      have d2 := kE.cell 2
      have d3 := kE.cell 3
      have d4 := kE.cell 4
      rcases AQ.out.2.1 w3 (ar.1.fw.trans bw3) with q | ⟨ge2, oe2, he2, hce⟩
      · have := ar.2.2.2.1; rw [q] at this; simp at this
      injection he2 with he2
      injection he2 with he2 ho2
      subst he2 ho2
      obtain ⟨_, ce1, ce2, ce3, ce4, ce5⟩ := hce i _ ar.2.2.2.1
      simp only at ce1 ce2 ce3 ce4 ce5
      rw [ar.2.2.2.2.1] at ce1
      rw [ar.2.2.2.2.2.1] at ce2
      rw [ar.2.2.2.2.2.2.1] at ce3
      rw [ar.2.2.2.2.2.2.2] at ce5
      have hN : i < N := ar.2.2.1
      have hN9 : N ≤ 1000000000000 := AQ.out.2.2.1
      have bi : (i : Int) < 2000000000000 := by omega
      have hss : (vs.toList == vs.toList) = true := by simp
      clear b1 b3 kE hE hw3 hput hrea hnx k1 bw3 kw3 hce ar ce0
      go_quiet (fail)
      go_wp2_with fail
      have ar := AR.out
      have hgl := ar.2.1
      simp at hgl
      go_roundg (gk - 1)
      case measure => omega
      case rel => exact ⟨i + 1, by go_num, ⟨E, ⟨A4.out.wz.below (Below.drewN2 (Below.refl _ w3) _) (Nat.le_refl _), A4.out.fw.trans (But.of_below (Below.drewN2 (Below.refl _ w3) _)), A4.out.tn, A4.out.sum, A4.out.sil⟩, by omega⟩⟩
end
end Go.Proofs.YtcmmjbkgoafbnaaDoor

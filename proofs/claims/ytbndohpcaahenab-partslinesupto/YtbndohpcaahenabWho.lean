/-
  What the program's Whole comes to.
-/
import Derived.Test.YtbndohpcaahenabCns
import Derived.Test.YtbndohpcaahenabNew
import Derived.Test.YtbndohpcaahenabEnd
namespace Go.Proofs.Ytbndohpcaahenab
open Go.RowKit
set_option linter.unusedVariables false
theorem fd_snoc (D : List Nat) (s : Sp) (x : List Nat) (g : Nat) : fd D s (x ++ [g]) = ((fd D s x).1 ++ out (stp D g (fd D s x).2), tk (stp D g (fd D s x).2)) := by
  rw [fd_append]
  simp [fd]
/-- What Whole answers. -/
structure Wr (lo : Nat) (w : World) (LS : List (List Nat)) (Y : Int) (e : Ending) (w' : World) : Prop where
  ex : ∃ a n c, e = .returned (.tuple #[.slice a n c, .int .i64 Y, .int .i64 0]) ∧ Ll w' lo (.slice a n c) LS ∧ n = LS.length ∧ Below lo w w'
set_option maxHeartbeats 1000000 in
theorem whole_no (b : List Nat) (ho : Oct b) (hb : b.length < 1000000000000) (hv : vd b = false) (a : Option Addr) (L c : Nat) (w : World) : Calls Try.prog 6 #[.slice a L c, .string (st b)] w fun e w' => e = .returned (.tuple #[.slice none 0 0, .int .i64 0, .int .i64 2]) ∧ Below w.heap.size w w' := by
  have hn := new_no b ho hb hv w
  clear hv ho hb
  go_enter Try.func6, Try.ntmps6
  go_wp2_with (go_at_call 10; refine hn.mono ?_; rintro e1 w1 ⟨rfl, b1⟩)
  first | go_ret | (refine bodyPost_ret (results_tmp3 rfl _ _ _) rfl ?_)
  exact ⟨rfl, b1⟩
/-- Where the loop stands. -/
structure Ws (lo B : Nat) (D x : List Nat) (w wr : World) (v : Value) (i : Nat) : Prop where
  sm : Sm wr B D (fd D s0 (x.take i)).2 0 false
  ll : Ll wr lo v (po [] (fd D s0 (x.take i)).1)
  wi : Wi D (fd D s0 (x.take i)).2 (po [] (fd D s0 (x.take i)).1) i
  bel : Below lo w wr
set_option maxHeartbeats 2000000 in
theorem whole_c (b : List Nat) (ho : Oct b) (hv : vd b = true) (a : Option Addr) (x : List Nat) (L c : Nat) (hL : x.length = L) (hLb : L ≤ 100000000) (hox : Oct x) (w : World) (hx : Lies w a x) : Calls Try.prog 6 #[.slice a L c, .string (st b)] w fun e w' => Wr w.heap.size w (po [] (tot (dd b) s0 x)) (why true 0 (cv (dd b) s0 x)) e w' := by
  have hn := new_yes b ho hv w
  have hbd := vd_bd hv ho
  have hlen := vd_len hv
  have hDl : (dd b).length ≤ 72 := by simp [dd]; omega
  have hDo : Oct (dd b) := dd_oct ho
  obtain ⟨D, hD⟩ : ∃ D, dd b = D := ⟨_, rfl⟩
  rw [hD] at hn hbd hDl hDo ⊢
  obtain ⟨lo, hlo⟩ : ∃ lo, w.heap.size = lo := ⟨_, rfl⟩
  rw [hlo] at hn ⊢
  obtain ⟨LS, hLS⟩ : ∃ LS, po [] (tot D s0 x) = LS := ⟨_, rfl⟩
  obtain ⟨Y, hY⟩ : ∃ Y, why true 0 (cv D s0 x) = Y := ⟨_, rfl⟩
  rw [hLS, hY]
  have hxx : ∀ u, Below lo w u → Lies u a x := fun u hu => hx.below (by rw [hlo]; exact hu)
  have A : Aside (x.length = L ∧ L ≤ 100000000 ∧ Oct x ∧ Bd D ∧ D.length ≤ 72 ∧ Oct D ∧ po [] (tot D s0 x) = LS ∧ why true 0 (cv D s0 x) = Y ∧ ∀ u, Below lo w u → Lies u a x) := ⟨hL, hLb, hox, hbd, hDl, hDo, hLS, hY, hxx⟩
  clear hL hLb hox hbd hDl hDo hLS hY hxx hlen hv ho hD hx hlo
  obtain ⟨sb, hsb⟩ : ∃ sb, st b = sb := ⟨_, rfl⟩
  rw [hsb] at hn ⊢
  clear hsb
  go_enter Try.func6, Try.ntmps6
  go_upto_region 4 with (go_at_call 10; refine hn.mono ?_; rintro e1 w1 ⟨B, rfl, hB, h1, b1⟩)
  have a0 := A.out
  have ws0 : Ws lo B D x w w1 (.slice none 0 0) 0 := ⟨h1, Ll.nil (by have := h1.lt; omega), Wi.s0 a0.2.2.2.1.ne, b1⟩
  have A1 : Aside (Ws lo B D x w w1 (.slice none 0 0) 0 ∧ lo ≤ B) := ⟨ws0, hB⟩
  clear ws0 h1 b1 hn a0 hB
  go_wp2_with fail
  go_loopg [4, 20] L (fun gg s4 s20 wr => ∃ (i : Nat) (av : Option Addr) (n cv' : Nat), s4 = .slice av n cv' ∧ s20 = .int .i64 (i : Int) ∧ Aside (i + gg = L ∧ Ws lo B D x w wr (.slice av n cv') i))
  case atStart => exact ⟨0, none, 0, 0, rfl, rfl, ⟨by omega, A1.out.1⟩⟩
  case round =>
    obtain ⟨i, av, n, cv', rfl, rfl, hT⟩ := hrel
    obtain ⟨hig, ws⟩ := hT.out
    have a0 := A.out
    have hlo := A1.out.2
    by_cases hi : i < L
    · have t1 : ((i : Int) < (L : Int)) = True := eq_true (by omega)
      have t2 : (i < L) = True := eq_true hi
      have bi : (i : Int) < 200000000 := by omega
      obtain ⟨g, hg⟩ : ∃ g, x[i]? = some g := ⟨_, List.getElem?_eq_getElem (by omega)⟩
      have hg256 : g < 256 := a0.2.2.1 g (List.mem_of_getElem? hg)
      rcases a0.2.2.2.2.2.2.2.2 wr ws.bel with e | ⟨gb, og, rfl, hc⟩
      · rw [e] at hg; simp at hg
      have cg := hc i g hg
      have hput := put_yes g a0.2.2.2.2.2.1 a0.2.2.2.2.1 hg256 ws.wi.ok wr ws.sm
      obtain ⟨s, hs⟩ : ∃ s, (fd D s0 (x.take i)).2 = s := ⟨_, rfl⟩
      obtain ⟨o, hO⟩ : ∃ o, (fd D s0 (x.take i)).1 = o := ⟨_, rfl⟩
      have hstep := ws.wi.step a0.2.2.2.1.ne a0.2.2.2.1.oct hg256
      have hlen := len_step ws.wi.ok g
      rw [hs] at hput hstep hlen
      rw [hO] at hstep
      have hfd : fd D s0 (x.take (i + 1)) = (o ++ out (stp D g s), tk (stp D g s)) := by rw [take_more hg, fd_snoc, hs, hO]
      have hgat : ∀ (w2 : World), Sm w2 B D (stp D g s) 0 false → Only B wr w2 → Calls Try.prog 12 #[.pointer (some ⟨B, 0, none⟩), .slice av n cv'] w2 fun e w' => Gr lo B D (tk (stp D g s)) false (po (po [] o) (out (stp D g s))) w2 e w' := fun w2 h2 o2 => by
        have hll := ws.ll.but (But.of_only o2) (Classical.choose_spec ws.sm.cells) ⟨by decide, by decide⟩
        rw [hO] at hll
        exact gather_c lo _ _ _ rfl hstep.1.sg hstep.1.gd (bn_wt (by omega)) hlo w2 (Kn.of _ h2 hlen.2) hll
      have AG : Aside _ := hgat
      have A2 : Aside (i + gk = L ∧ i < L ∧ Below lo w wr ∧ Wi D (tk (stp D g s)) (po (po [] o) (out (stp D g s))) (i + 1) ∧ fd D s0 (x.take (i + 1)) = (o ++ out (stp D g s), tk (stp D g s)) ∧ lo ≤ B) := ⟨hig, hi, ws.bel, hstep.2.2, hfd, hlo⟩
      clear hT ws a0 hi hg hc hstep hlen hfd hgat hs hO hig hlo
      go_upto_region 8 with (go_at_call 11; refine hput.mono ?_; rintro e2 w2 ⟨rfl, h2, o2⟩)
      have hg2 := AG.out w2 h2 o2
      have AO : Aside (Only B wr w2) := o2
      clear hput h2 o2
      go_wp2_with (go_at_call 12; refine hg2.mono ?_; rintro e3 w3 ⟨v3, rfl, l3, s3, b3⟩; obtain ⟨a3, c3, hv3, _⟩ := l3.shape; obtain ⟨n3, hn3⟩ : ∃ n3, (po (po [] o) (out (stp D g s))).length = n3 := ⟨_, rfl⟩; rw [hn3] at hv3; subst hv3; clear hn3)
      have a2 := A2.out
      go_roundg (gk - 1)
      case measure => omega
      case rel =>
        refine ⟨i + 1, a3, n3, c3, rfl, by go_num, ⟨by omega, ?_⟩⟩
        refine ⟨by rw [a2.2.2.2.2.1]; exact s3, by rw [a2.2.2.2.2.1, po_append]; exact l3, by rw [a2.2.2.2.2.1, po_append]; exact a2.2.2.2.1, (a2.2.2.1.trans (AO.out.below a2.2.2.2.2.2)).trans b3⟩
    · have t1 : ((i : Int) < (L : Int)) = False := eq_false (by omega)
      have t2 : (i < L) = False := eq_false hi
      have htk : x.take i = x := List.take_of_length_le (by omega)
      have hsm := ws.sm
      have hll0 := ws.ll
      have hwi := ws.wi
      rw [htk] at hsm hll0 hwi
      obtain ⟨s, hs⟩ : ∃ s, (fd D s0 x).2 = s := ⟨_, rfl⟩
      obtain ⟨o, hO⟩ : ∃ o, (fd D s0 x).1 = o := ⟨_, rfl⟩
      rw [hs] at hsm hwi
      rw [hO] at hll0 hwi
      have hend := end_yes a0.2.2.2.2.2.1 a0.2.2.2.2.1 hwi.ok wr hsm
      have hfin := hwi.fin a0.2.2.2.1.oct
      have hLS2 : po (po [] o) (out (en D s)) = LS := by rw [← a0.2.2.2.2.2.2.1, ← po_append]; unfold tot; rw [hs, hO]
      have hY2 : why true (tk (en D s)).kn (tk (en D s)).cl = Y := by rw [← a0.2.2.2.2.2.2.2.1]; unfold cv; rw [hs]; rfl
      have hgat : ∀ (w2 : World), Sm w2 B D (en D s) 0 true → Only B wr w2 → Calls Try.prog 12 #[.pointer (some ⟨B, 0, none⟩), .slice av n cv'] w2 fun e w' => Gr lo B D (tk (en D s)) true LS w2 e w' := fun w2 h2 o2 => by
        have hll := hll0.but (But.of_only o2) (Classical.choose_spec hsm.cells) ⟨by decide, by decide⟩
        rw [← hLS2]
        exact gather_c lo _ _ _ rfl hfin.1.sg hfin.1.gd (bn_wt (by omega)) hlo w2 (Kn.of _ h2 (by rw [hfin.2.2]; exact Nat.le_refl _)) hll
      have AG : Aside _ := hgat
      have A2 : Aside (Below lo w wr ∧ lo ≤ B ∧ why true (tk (en D s)).kn (tk (en D s)).cl = Y) := ⟨ws.bel, hlo, hY2⟩
      clear hT ws a0 hi hfin hgat hs hO hig hlo hLS2 hY2 htk hsm hll0 hwi
      go_upto_region 11 with (go_at_call 13; refine hend.mono ?_; rintro e2 w2 ⟨rfl, h2, o2⟩)
      have hg2 := AG.out w2 h2 o2
      have AO : Aside (Only B wr w2) := o2
      clear hend h2 o2
      go_upto_region 12 with (go_at_call 12; refine hg2.mono ?_; rintro e3 w3 ⟨v3, rfl, l3, s3, b3⟩; obtain ⟨a3, c3, hv3, _⟩ := l3.shape; obtain ⟨n3, hn3⟩ : ∃ n3, LS.length = n3 := ⟨_, rfl⟩; rw [hn3] at hv3; subst hv3)
      have hre : Calls Try.prog 14 #[.pointer (some ⟨B, 0, none⟩)] w3 fun e w' => e = .returned (.int .i64 Y) ∧ w3 = w' := (reason_c w3 s3).mono fun e w' k => ⟨by rw [k.1, A2.out.2.2], k.2.symm⟩
      have A3 : Aside (Ll w3 lo (.slice a3 n3 c3) LS ∧ Below lo w w3 ∧ n3 = LS.length) := ⟨l3, (A2.out.1.trans (AO.out.below A2.out.2.1)).trans b3, hn3.symm⟩
      clear hg2 l3 s3 b3 hn3
      go_wp2_with (go_at_call 14; refine hre.mono ?_; rintro e4 w4 ⟨rfl, rfl⟩)
      first | go_ret | (refine bodyPost_ret (results_tmp3 rfl _ _ _) rfl ?_)
      exact ⟨⟨a3, n3, c3, rfl, A3.out.1, A3.out.2.2, A3.out.2.1⟩⟩
end Go.Proofs.Ytbndohpcaahenab

/-
  RingPlays holds: a window of any size under any calls of Put, Back, Repeat and Clear answers each as the document says, and holds the same bytes behind each; the lists that are answered are written over and appended to, and that changes neither window.
  Conditions: none; the size is any int, the calls are any list.
-/
import Derived.Test.YtlipkncnomndnaaRows
import Derived.Test.YtlipkncnomndnaaRefR
import Derived.Test.YtlipkncnomndnaaOpenC
import Derived.WalkKit
import Derived.ProofKit
import Derived.OpenShut
import Derived.ShutString
import Derived.ChangeOld
import Derived.Below
import Derived.Deep.CutBlock
import Derived.Deep.DeepCutAuto
import Derived.Deep.LoopGhost
import Derived.Deep.RegionHeld3
namespace Go.Proofs.Ytlipkncnomndnaa.ringPlays
open Go.ChangeShapes Go.WideShapes Go.ChangeAt Go.RowKit
open Go.ChangeMaps (open_string shut_string)
set_option linter.unusedVariables false

theorem own : ownKnob Try.prog.godebug = none := by kernel_rfl
theorem laidOut : laidOutB Try.prog = true := by kernel_rfl


theorem below_drewN {B : Nat} {w u : World} (h : Below B w u) (n : Nat) : Below B w (u.drewN n) := ⟨h.os, h.tape, h.output, h.size, h.block⟩
theorem Below.le {B C : Nat} {w u : World} (h : Below C w u) (hB : B ≤ C) : Below B w u := ⟨h.os, h.tape, h.output, h.size, fun k hk => h.block k (by omega)⟩
theorem len_q {H K N : Nat} {l : List Int} (n : Nat) (w : World) (r : Rg w H K N l) (hn : l.length = n) : Calls Try.prog 20 #[.pointer (some ⟨H, 0, none⟩)] w fun e w' => e = .returned (.int .i64 (n : Int)) ∧ w' = w := by
  rw [← hn]; exact (len_r w r).mono fun _ _ h => ⟨h.1, h.2.symm⟩
theorem size_q {H K N : Nat} {l : List Int} (w : World) (r : Rg w H K N l) : Calls Try.prog 21 #[.pointer (some ⟨H, 0, none⟩)] w fun e w' => e = .returned (.int .i64 (N : Int)) ∧ w' = w :=
  (size_r w r).mono fun _ _ h => ⟨h.1, h.2.symm⟩
/-- The program's window and the document's hold the same bytes. -/
structure Both (w : World) (S n : Nat) (v : Value) (l : List Int) : Prop where
  rg : Rg w (S + 1) S n l
  qf : Qf w (S + 2) (S + 3) n v l
section
variable {w u : World} {S n : Nat} {v : Value} {l : List Int}
theorem Both.drewN (b : Both w S n v l) (k : Nat) : Both (w.drewN k) S n v l := ⟨b.rg.drewN k, b.qf.drewN k⟩
theorem Both.alloc (b : Both w S n v l) (o : Obj) : Both (w.alloc o) S n v l := ⟨b.rg.alloc o, b.qf.alloc o⟩
theorem Both.below (b : Both w S n v l) (k : Below w.heap.size w u) : Both u S n v l := ⟨b.rg.below k b.rg.lt.1 b.rg.lt.2, b.qf.below k b.qf.hd.lt (Nat.le_refl _)⟩
/-- What grew in a block of its own leaves both as they were. -/
theorem Both.grown {r : Option Nat} (b : Both w S n v l) (k : w.grownBy u r) (h : ∀ g, r = some g → S + 3 ≤ g ∧ v.ownBlock ≠ some g) : Both u S n v l := by
  have hb : Below (S + 3) w u := ⟨k.os, k.tape, k.output, k.size, fun i hi => k.block i (by have := b.qf.le; omega) (fun e => by have := (h i e.symm).1; omega)⟩
  refine ⟨b.rg.below hb (by omega) (by omega), b.qf.kept k.size (hb.block _ (by omega)) (fun g hg => k.block g (b.qf.bag.lt g hg).2 (fun e => (h g e.symm).2 hg))⟩
theorem Both.le (b : Both w S n v l) : l.length ≤ n ∧ 1 ≤ n ∧ n ≤ 32768 ∧ S + 3 ≤ w.heap.size := by
  have := b.rg.le
  exact ⟨this.1, this.2.2, this.2.1, b.qf.le⟩
end
set_option maxRecDepth 100000 in
set_option maxHeartbeats 2000000 in
theorem core (w : World) (n : Nat) (hn1 : 1 ≤ n) (hn2 : n ≤ 32768) (a : Option Addr) (len cap : Nat) (hlen : len ≤ maxLen) (hr : Acts w a len) :
    Calls Try.prog 3 #[.int .i64 (n : Int), .slice a len cap] w fun e w' => e = .returned (.bool true) ∧ Below w.heap.size w w' := by
  unfold maxLen at hlen
  have AL : Aside (len ≤ 2 ^ 63 - 1) := hlen
  clear hlen
  obtain ⟨S, hS⟩ : ∃ S, w.heap.size = S := ⟨_, rfl⟩
  have hnew := new_r n w hn1 hn2
  rw [hS] at hnew ⊢
  have AS : Aside (w.heap.size = S) := hS
  clear hS
  go_enter Try.func3, Try.ntmps3
  go_wp2_with fail
  refine hnew.mono ?_
  rintro e w1 ⟨rfl, r1, bel1, hsz1⟩
  clear hnew
  have hnew := rnew_yes n w1 hn1 hn2
  rw [hsz1] at hnew
  clear hsz1
  go_wp2_with fail
  refine hnew.mono ?_
  rintro e w2 ⟨rfl, q2, bel2, hsz2⟩
  have hb2 : Both w2 S n (.slice none 0 0) [] := ⟨r1.below bel2 (by omega) (by omega), q2⟩
  have belA : Below S w w2 := bel1.trans (Below.le bel2 (by omega))
  clear hnew r1 q2 bel1 bel2 hsz2
  go_wp2_with fail
  go_loopg [9] len (fun g si wr => ∃ (k : Nat) (v : Value) (l : List Int), k + g = len ∧ si = .int .i64 k ∧ Both wr S n v l ∧ Below S w wr)
  case atStart => exact ⟨0, _, [], by omega, rfl, hb2, belA⟩
  case round =>
    clear hb2 belA
    obtain ⟨k, v, l, hkg, rfl, hbo, hbel⟩ := hrel
    have AK : Aside (k + gk = len) := hkg
    have hk0 : (0 : Int) ≤ k := Int.natCast_nonneg _
    by_cases hlt : k < len
    · have hki : (k : Int) < (len : Int) := by omega
      have hk1 : (k : Int) < 9223372036854775807 := by have := AL.out; omega
      rcases hr with hr | ⟨b, off, KK, X, Z, Y, rfl, hbw, hc⟩
      · omega
      rw [AS.out] at hbw
      obtain ⟨g0, g1, g2, g3, hK, hZ, hY⟩ := hc k hlt
      have g0' := (hbel.cell (p := ⟨b, off + k * 4, none⟩) hbw).trans g0
      have g1' := (hbel.cell (p := ⟨b, off + k * 4 + 1, none⟩) hbw).trans g1
      have g2' := (hbel.cell (p := ⟨b, off + k * 4 + 2, none⟩) hbw).trans g2
      have g3' := (hbel.cell (p := ⟨b, off + k * 4 + 3, none⟩) hbw).trans g3
      clear g0 g1 g2 g3 hc hkg
      go_upto_region 11 with fail
      obtain ⟨kk, hkk, hkk2⟩ := byte_of_wf hK
      rw [hkk]
      obtain ⟨c, hc4, hcl⟩ : ∃ c : Nat, (kk : Int) % 4 = (c : Int) ∧ c < 4 := ⟨kk % 4, by omega, by omega⟩
      clear g0' g1' g2' g3' hkk hK
      generalize X k = x at *
      generalize Z k = z at *
      generalize Y k = y at *
      have hvr := hbo.qf.bag.lt
      generalize hwa : wr.alloc (Obj.cells #[Value.int IntKind.u8 (kk : Int), Value.int IntKind.u8 x, Value.int IntKind.i64 z, Value.int IntKind.i64 y] 31) = wa
      have hca : Cells wa wr.heap.size #[Value.int IntKind.u8 (kk : Int), Value.int IntKind.u8 x, Value.int IntKind.i64 z, Value.int IntKind.i64 y] 31 := by rw [← hwa]; exact Cells.new _ _ _
      have hboa : Both wa S n v l := by rw [← hwa]; exact hbo.alloc _
      have hble := hbo.le
      have hbela : Below S w wa := by rw [← hwa]; exact hbel.alloc (by omega) _
      have hP := hble.2.2.2
      clear hwa hbo hbel
      generalize wr.heap.size = P at *
      have hPv : some P ≠ v.ownBlock := fun e => by have := (hvr P e.symm).2; omega
      have hvC : ∀ g, v.ownBlock = some g → S + 3 ≤ g := fun g e => (hvr g e).1
      have hvP : ∀ g, v.ownBlock = some g → g < P := fun g e => (hvr g e).2
      have hPlt := hca.lt
      have k0 := (hca.cell 0).trans rfl
      have k1 := (hca.cell 1).trans rfl
      have k2 := (hca.cell 2).trans rfl
      have k3 := (hca.cell 3).trans rfl
      have ALn : Aside (l.length ≤ n) := hble.1
      clear hvr hble
      go_upto_block 2 with fail
      rw [hc4]
      clear hc4 k0
      go_cut [] (fun wc => ∃ v' l', Both wc S n v' l' ∧ Below S w wc)
      case first =>
        match c, hcl with
        | 0, _ =>
          go_wp2_with fail
          refine (put_r x _ hboa.rg).mono ?_
          rintro e w2 ⟨rfl, r2, t2⟩
          have q2 := hboa.qf.grw (Grw.of_two t2) (by omega) (by omega) (by omega) (by omega)
          have k1' : w2.cell? ⟨P, 1, none⟩ = some (.int .u8 x) := (World.cell?_of_block (a := ⟨P, 1, none⟩) (t2.block P (by omega) (by omega))).trans k1
          have hs2 := t2.size
          clear k1 k2 k3
          go_wp2_with fail
          refine (rput x _ q2 ALn.out hn1 hn2).mono ?_
          rintro e w3 ⟨rfl, v', q3, kp3⟩
          go_wp2_with fail
          go_meet
          case rel => exact ⟨v', _, ⟨r2.below (kp3.below (B := S + 2) (Nat.le_refl _) (fun g e => by have := hvC g e; omega) (by omega)) (by omega) (by omega), q3⟩, (hbela.trans (t2.below (by omega) (by omega))).trans (kp3.below (by omega) (fun g e => by have := hvC g e; omega) (by omega))⟩
        | 1, _ =>
          by_cases hcan : 1 ≤ z ∧ z ≤ (l.length : Int)
          · obtain ⟨d, rfl⟩ : ∃ d : Nat, z = (d : Int) := ⟨z.toNat, by omega⟩
            obtain ⟨u, hu⟩ : ∃ u, l[l.length - d]? = some u := ⟨_, List.getElem?_eq_getElem (by omega)⟩
            have c12 := back_r d u wa hboa.rg (by omega) (by omega) hu
            have c13 := fun m => rback_yes d u (wa.drewN m) (hboa.qf.drewN m) (by omega) (by omega) (by have := ALn.out; omega) hu
            have huu : (u != u) = false := by simp
            clear hu hcan
            go_wp2_with fail
            refine c12.mono ?_
            rintro e w2 ⟨rfl, m2, rfl⟩
            clear c12
            go_wp2_with fail
            refine (c13 m2).mono ?_
            rintro e w3 ⟨rfl, m3, rfl⟩
            clear c13
            go_wp2_with fail
            go_meet
            case rel => exact ⟨v, l, hboa.drewN _, below_drewN hbela _⟩
          · have c12 := back_r_no z wa hboa.rg (by omega)
            have c13 := rback_no z wa hboa.qf (by omega)
            clear hcan
            go_wp2_with fail
            refine c12.mono ?_
            rintro e w2 ⟨rfl, rfl⟩
            go_wp2_with fail
            refine c13.mono ?_
            rintro e w3 ⟨rfl, rfl⟩
            go_wp2_with fail
            go_meet
            case rel => exact ⟨v, l, hboa, hbela⟩
        | 2, _ =>
          by_cases hcan : 1 ≤ z ∧ z ≤ (l.length : Int) ∧ 0 ≤ y ∧ y ≤ 65536
          · obtain ⟨d, rfl⟩ : ∃ d : Nat, z = (d : Int) := ⟨z.toNat, by omega⟩
            obtain ⟨m, rfl⟩ : ∃ m : Nat, y = (m : Int) := ⟨y.toNat, by omega⟩
            have hd1 : 1 ≤ d := by omega
            have hd2 : d ≤ l.length := by omega
            have hm2 : m ≤ 65536 := by omega
            clear hcan
            have hrep := repeat_yes d m wa hboa.rg hd1 hd2 hm2
            have hszb := hbela.size
            generalize hG : wa.heap.size = G at *
            have AG : Aside (wa.heap.size = G) := hG
            clear hG
            go_wp2_with fail
            refine hrep.mono ?_
            rintro e w2 ⟨rfl, hx2, r2, gr2⟩
            have hG2 := hx2.lt
            have q2 := hboa.qf.grw gr2 (by omega) (by omega) (by omega) (by omega)
            have hs2 : G ≤ w2.heap.size := by rw [← AG.out]; exact gr2.size
            have k2' : w2.cell? ⟨P, 2, none⟩ = some (.int .i64 (d : Int)) := (World.cell?_of_block (a := ⟨P, 2, none⟩) (gr2.block P (by rw [AG.out]; exact hPlt) (by omega) (by omega))).trans k2
            have k3' : w2.cell? ⟨P, 3, none⟩ = some (.int .i64 (m : Int)) := (World.cell?_of_block (a := ⟨P, 3, none⟩) (gr2.block P (by rw [AG.out]; exact hPlt) (by omega) (by omega))).trans k3
            have hbel2 : Below S w w2 := hbela.trans (gr2.below (by omega) (Nat.le_refl _) (by rw [AG.out]; omega))
            have hrr := rrep_yes d m w2 q2 ALn.out hn1 hn2 hd1 hd2 hm2
            clear hrep k1 k2 k3 gr2
            go_wp2_with fail
            refine hrr.mono ?_
            rintro e w3 ⟨⟨out, rfl, hbag3⟩, v', q3, kp3⟩
            have hGv : some G ≠ v.ownBlock := fun e => by have := hvP G e.symm; omega
            have hx3 : Cells w3 G (vb (cyc l d m)).toArray 5 := by
              have := hx2
              unfold Cells at *
              rw [kp3.block G hG2 (by omega) hGv]; exact this
            have hb3 : Both w3 S n v' (lastN n (l ++ cyc l d m)) := ⟨r2.below (kp3.below (B := S + 2) (Nat.le_refl _) (fun g e => by have := hvC g e; omega) (by omega)) (by omega) (by omega), q3⟩
            have hbel3 : Below S w w3 := hbel2.trans (kp3.below (by omega) (fun g e => by have := hvC g e; omega) (by omega))
            have hvG : v'.ownBlock ≠ some G := fun e => by
              rcases kp3.own G e with h3 | h3
              · exact hGv h3.symm
              · omega
            have hxa : Ans w3 G (.slice (some ⟨G, 0, none⟩) m m) (cyc l d m) := Or.inr ⟨G, by rw [cyc_length], Nat.le_refl _, hx3⟩
            have c16 := same_c _ _ (cyc l d m) w3 hxa.lst hbag3.lst (by rw [cyc_length]; omega)
            have c17 := fun m' yy => spoil_c G _ (cyc l d m) yy (w3.drewN m') (hxa.drewN m') (by rw [cyc_length]; omega)
            have ABo : Aside (Both w3 S n v' (lastN n (l ++ cyc l d m)) ∧ Below S w w3 ∧ v'.ownBlock ≠ some G) := ⟨hb3, hbel3, hvG⟩
            clear hrr hbag3 q3 kp3 hx3 hb3 hbel3 hvG hxa hx2 r2 q2 hbel2 k2' k3' hboa hbela hca
            go_wp2_with fail
            refine c16.mono ?_
            rintro e w4 ⟨rfl, m4, rfl⟩
            clear c16
            go_wp2_with fail
            refine (c17 m4 _).mono ?_
            rintro e w5 ⟨rfl, gr5⟩
            clear c17
            go_wp2_with fail
            go_meet
            case rel =>
              obtain ⟨hb3, hbel3, hvG⟩ := ABo.out
              have hs3 := hb3.le
              refine ⟨v', _, (hb3.drewN m4).grown gr5 (fun g hg => by simp [Value.ownBlock] at hg; subst hg; exact ⟨by omega, hvG⟩), ?_⟩
              exact (below_drewN hbel3 m4).grown gr5 (by show S ≤ w3.heap.size; omega) (fun g hg => by simp [Value.ownBlock] at hg; omega)
          · have c14 := repeat_no z y wa hboa.rg (by omega)
            have c15 := rrep_no z y wa hboa.qf (by omega)
            have hnil : Ans wa S (.slice none 0 0) [] := Or.inl ⟨rfl, rfl⟩
            have c16 := same_c _ _ [] wa hnil.lst hnil.lst (by simp)
            have c17 := fun m' yy => spoil_c S _ [] yy (wa.drewN m') (hnil.drewN m') (by simp)
            have hszb := hbela.size
            clear hcan
            go_wp2_with fail
            refine c14.mono ?_
            rintro e w2 ⟨rfl, rfl⟩
            clear c14
            go_wp2_with fail
            refine c15.mono ?_
            rintro e w3 ⟨rfl, rfl⟩
            clear c15
            go_wp2_with fail
            refine c16.mono ?_
            rintro e w4 ⟨rfl, m4, rfl⟩
            clear c16
            go_wp2_with fail
            refine (c17 m4 _).mono ?_
            rintro e w5 ⟨rfl, gr5⟩
            clear c17
            go_wp2_with fail
            go_meet
            case rel =>
              have hs3 := hboa.le
              exact ⟨v, l, (hboa.drewN m4).grown gr5 (fun g hg => by simp [Value.ownBlock] at hg), (below_drewN hbela m4).grown gr5 (by show S ≤ _; exact Nat.le_trans (by omega) hs3.2.2.2) (fun g hg => by simp [Value.ownBlock] at hg)⟩
        | 3, _ =>
          go_wp2_with fail
          refine (clear_r _ hboa.rg).mono ?_
          rintro e w2 ⟨rfl, r2, o2⟩
          have q2 := hboa.qf.only o2 (by omega) (by omega)
          have f1 := q2.hd.frozen 1
          have c1 := q2.c1
          have ACl : Aside (Both (w2.setCell ⟨S + 2, 1, none⟩ (.slice none 0 0)) S n (.slice none 0 0) [] ∧ Below S w (w2.setCell ⟨S + 2, 1, none⟩ (.slice none 0 0))) := by
            refine ⟨⟨r2.only ((Only.refl (S + 2) w2).setCell 1 _) (by omega) (by omega), ⟨q2.hd.set 1 _, Bag.nil _ _, by omega, ?_⟩⟩, ?_⟩
            · have := q2.le
              simp [World.setCell]; omega
            · exact (hbela.trans (o2.below (by omega))).setCell (by show S ≤ S + 2; omega) _
          clear k1 k2 k3
          go_wp2_with fail
          go_meet
          case rel => exact ⟨_, _, ACl.out.1, ACl.out.2⟩
      case rest =>
        clear hboa hbela hca k1 k2 k3 hPv hvC hvP hPlt ALn hP hZ hY
        obtain ⟨v', l', hbo, hbel⟩ := hcut
        obtain ⟨a', c', rfl⟩ := hbo.qf.bag.shape
        have ct := tail_r _ hbo.rg
        have hvl := hbo.qf.bag.lt
        have hble := hbo.le
        have AM : Aside (l'.length ≤ n ∧ n ≤ 32768) := ⟨hble.1, hble.2.2.1⟩
        go_wp2_with fail
        refine ct.mono ?_
        rintro e w2 ⟨⟨t, rfl, ht⟩, bel2⟩
        clear ct
        have hbo2 := hbo.below bel2
        have hbel2 : Below S w w2 := hbel.trans (Below.le bel2 (by omega))
        have htl := (Bag.of_ans ht).lt
        have ATl : Aside (∀ g, t.ownBlock = some g → S + 3 ≤ g ∧ Value.ownBlock (.slice a' l'.length c') ≠ some g) := fun g hg => ⟨by have := (htl g hg).1; omega, fun e => by have := (htl g hg).1; have := (hvl g e).2; omega⟩
        clear hbo hbel bel2 htl hvl hble
        have cc := hbo2.qf.c1
        have hrg := hbo2.rg
        have hlst := hbo2.qf.bag.lst
        have ABo : Aside (Both w2 S n (.slice a' l'.length c') l' ∧ Below S w w2) := ⟨hbo2, hbel2⟩
        have hsp := fun m yy => spoil_c _ t l' yy (w2.drewN m) (ht.drewN m) (by have := AM.out; omega)
        have htlst := ht.lst
        clear hbo2 hbel2 ht
        obtain ⟨M, hM⟩ : ∃ M, l'.length = M := ⟨_, rfl⟩
        rw [hM] at cc hlst
        have AMM : Aside (l'.length = M) := hM
        clear hM
        have hMM : ((M : Int) != (M : Int)) = false := by simp
        have hnn : ((n : Int) != (n : Int)) = false := by simp
        go_wp2_with fail
        go_quiet ((first
          | (go_at_call 16; refine Calls.quiet_of (same_c _ _ l' _ ?_ ?_ ?_); (first | exact htlst.drewN _ | exact htlst); (first | exact hlst.drewN _ | exact hlst); (have := AM.out; omega))
          | (go_at_call 20; refine Calls.quiet_of_same (len_q (K := S) (N := n) (l := l') M _ ?_ AMM.out); first | exact hrg.drewN _ | exact hrg)
          | (go_at_call 21; refine Calls.quiet_of_same (size_q (K := S) (N := n) (l := l') _ ?_); first | exact hrg.drewN _ | exact hrg)))
        clear cc hrg hlst htlst
        go_wp2_with fail
        refine (hsp _ _).mono ?_
        rintro e w3 ⟨rfl, gr3⟩
        clear hsp
        have AFin : Aside (Both w3 S n (.slice a' l'.length c') l' ∧ Below S w w3) := by
          obtain ⟨hb, hbl⟩ := ABo.out
          have hs := hb.le
          exact ⟨(hb.drewN _).grown gr3 ATl.out, (below_drewN hbl _).grown gr3 (by show S ≤ w2.heap.size; omega) (fun g hg => by have := (ATl.out g hg).1; omega)⟩
        clear gr3
        go_wp2_with fail
        have AK := AK.out
        go_roundg (gk - 1)
        case measure => omega
        case rel => exact ⟨k + 1, _, l', by omega, by go_num, AFin.out.1, AFin.out.2⟩
    · have hki : ¬ (k : Int) < (len : Int) := by omega
      clear hkg AK hlt hr
      obtain ⟨a', c', rfl⟩ := hbo.qf.bag.shape
      have cc := hbo.qf.c1
      have hble := hbo.le
      have hlst := hbo.qf.bag.lst
      have hClt : S + 2 < wr.heap.size := hbo.qf.hd.lt
      have hszb := hbel.size
      go_upto_region 32 with fail
      go_region_held3 (fun w' => w'.cell? ⟨S + 2, 1, none⟩ = some (.slice a' l.length c')) (first | assumption | (refine (bel5.cell (p := ⟨S + 2, 1, none⟩) ?_).trans ?_; (exact hClt); assumption))
        (first
          | (go_at_call 19; refine (tail_r _ (by first | exact hbo.rg.drew | exact hbo.rg | exact hbo.rg.drewN _)).mono ?_; rintro e w5 ⟨⟨v5, rfl, hv5⟩, bel5⟩; have hlst5 := ((hbo.drewN 1).below bel5).qf.bag.lst)
          | (go_at_call 16; refine (same_c _ _ l _ (by first | exact hv5.lst | exact hv5.lst.drewN _) (by exact hlst5) (by omega)).mono ?_; rintro e w6 ⟨rfl, m6, rfl⟩))
      go_wp2_with fail
      go_ret
      exact ⟨rfl, below_drewN ((below_drewN hbel 1).trans (Below.le bel5 (by show S ≤ wr.heap.size; omega))) _⟩
set_option maxRecDepth 100000 in
set_option maxHeartbeats 1000000 in
theorem core_no (w : World) (s : Int) (h : s < 1 ∨ 32768 < s) (a : Option Addr) (len cap : Nat) :
    Calls Try.prog 3 #[.int .i64 s, .slice a len cap] w fun e w' => e = .returned (.bool true) ∧ Below w.heap.size w w' := by
  have c1 := new_no s w h
  have c2 := rnew_no s w h
  clear h
  go_enter Try.func3, Try.ntmps3
  go_wp2_with fail
  refine c1.mono ?_
  rintro e w1 ⟨rfl, rfl⟩
  go_wp2_with fail
  refine c2.mono ?_
  rintro e w1 ⟨rfl, rfl⟩
  go_wp2_with fail
  go_ret
  exact ⟨rfl, Below.refl _ _⟩
theorem cells5 : Try.prog.cellsOf 5 = 1 := by kernel_rfl
theorem cells3 : Try.prog.cellsOf 3 = 1 := by kernel_rfl
theorem cells31 : Try.prog.cellsOf 31 = 4 := by kernel_rfl

theorem walk {H : Type} {enc : TypeId × Value → H} (w : World) (base : Nat) (a0 : Int) (w0 : (Lit.int .i64 a0).wf = true) (v1 : Value) (d1 : DataW H) (p1 : List MemPlace) (o1 : Value.okWide Try.prog w .any base 22 v1) (h1 : DataW.Trod enc Try.prog w 0 (fun _ => true) true 22 v1 d1 p1) :
    Calls Try.prog 3 #[.int .i64 a0, v1] w fun e w' => e = .returned (.bool true) ∧ Below w.heap.size w w' := by
  obtain ⟨a, len, cap, rfl, h1, h2⟩ := open_acts Try.underlying22 Try.underlying31 cells31 rfl rfl rfl rfl cells5 cells5 cells3 cells3 Try.underlying5 Try.underlying5 Try.underlying3 Try.underlying3 o1 h1
  by_cases hs : 1 ≤ a0 ∧ a0 ≤ 32768
  · obtain ⟨n, rfl⟩ : ∃ n : Nat, a0 = (n : Int) := ⟨a0.toNat, by omega⟩
    exact core w n (by omega) (by omega) a len cap h1 h2
  · exact core_no w a0 (by omega) a len cap

set_option maxRecDepth 100000 in
theorem lifted (os : Os) (started : os.Started) (H : Type) (enc : TypeId × Value → H) :
    ReturnsInHanded {} Try.checked os 3 .any (Rows.ringPlaysSpec.pre6 enc Try.prog Try.f3 Rows.ringPlaysRow.domain false) (Rows.ringPlaysSpec.post enc Try.prog Try.f3 false true false false) := by
  refine returnsInHanded_of_change (C := Try.checked) own started (by kernel_rfl) Try.func3
    (ChangeSpec.witness6 (enc := enc) (C := Try.checked) false ⟨#[], #[.int .i64 0, .slice none 0 0], []⟩ 8 (by kernel_rfl) (by kernel_rfl) (by kernel_rfl) (by kernel_rfl)) ?_
  intro W base args ds gs before hval0 hW hcnd _
  have hval : ∀ (j : Nat) t v, Try.f3.params[j]? = some t → args[j]? = some v → Value.okWide Try.prog W .any base t v := hval0
  have hW' := hW
  obtain ⟨p, q, hA0, hV, rfl, hfz, hnd⟩ := hW
  have hA : DataW.TrodAll enc Try.prog W 0 (fun _ => true) true Try.f3.params.toList args.toList ds p := hA0
  rw [Try.params3] at hA hval
  obtain ⟨v0, vs0, d0, ds0, p0, q0, hargs, rfl, rfl, h0, r0⟩ := trodAll_cons hA
  obtain ⟨v1, vs1, d1, ds1, p1, q1, rfl, rfl, rfl, h1, r1⟩ := trodAll_cons r0
  obtain ⟨rfl, rfl, rfl⟩ := trodAll_nil r1
  obtain rfl : args = #[v0, v1] := by cases args; simp_all
  obtain ⟨rfl, rfl⟩ := trodVars_none hV
  obtain ⟨a0, rfl, rfl, rfl, w0⟩ := open_int Try.underlying3 (hval 0 3 v0 rfl rfl) h0
  have o1 := hval 1 22 v1 rfl rfl
  have lt1 : ∀ x ∈ p1, x.block < W.heap.size := by obtain ⟨m, hm⟩ := h1; exact DataW.trod_lt m _ _ _ hm
  clear hA0 hval0
  refine (walk W base a0 w0 v1 d1 p1 o1 h1).mono fun e W' ⟨he, bel⟩ => ?_
  subst he
  exact ⟨_, rfl, _, _, _, [], _, [], hW', trodAll_mk1 (shut_bool Try.underlying4 _), (trodAll_cons_mk (shut_int Try.underlying3 w0) (trodAll_cons_mk (Below.trod laidOut (by kernel_rfl) (of_decide_eq_true (by kernel_rfl)) h1 bel lt1) trodAll_mk0)), rfl, bel.frame _, fun h => by cases h⟩

theorem over : Rows.ringPlaysRow.holds Try.pinned (OpenSpec.ofChange Rows.ringPlaysSpec) :=
  OpenClaim.holds_of_wide 3 Try.f3 rfl rfl rfl rfl rfl rfl rfl ⟨rfl, rfl, rfl, rfl, rfl⟩ rfl rfl rfl rfl rfl (by kernel_rfl) Try.func3 (by kernel_rfl)
    (of_decide_eq_true (by kernel_rfl)) (by unfold Func.isWrapper; first | (rw [if_pos (by decide +kernel)]; kernel_rfl) | (rw [if_neg (by decide +kernel)]; exact ⟨rfl, rfl⟩))
    (fun os started H enc _ => lifted os started H enc)

end Go.Proofs.Ytlipkncnomndnaa.ringPlays
namespace Go.Proofs.Ytlipkncnomndnaa
/-- The statement. -/
theorem ringPlays_holds : Rows.RingPlaysSaid := ringPlays.over
#print axioms ringPlays_holds
end Go.Proofs.Ytlipkncnomndnaa

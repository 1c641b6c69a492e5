/-
  How the library's stable sort merges a run with a lone number behind it: the walk of symMerge there.
  Conditions: the numbers lie in one block, the run is sorted and has no single number, the comparison reads alone.
-/
import Derived.Test.YtbepbjbbhenphabDoorMerge
namespace Go.Proofs.YtbepbjbbhenphabDoor
open Go.RowKit
set_option linter.unusedVariables false
theorem wr_id (z : Int) (h0 : 0 ≤ z) (h1 : z < 9223372036854775808) : IntKind.i64.wrap z = z := by rw [IntKind.wrap_i64]; omega
theorem w64_id (z : Int) (h0 : 0 ≤ z) (h1 : z < 9223372036854775808) : wrap64 z = z := by unfold wrap64; omega
set_option maxRecDepth 100000 in
set_option maxHeartbeats 4000000 in
theorem symR_c (b L cp N : Nat) (key : Nat → Nat) (bx : Value) (w0 w : World) (hcm : Cm b bx N key w0) (P X : List Nat) (y : Nat) (S : List Nat) (hd : Sd w b (P ++ X ++ y :: S)) (hO : Only b w0 w) (hNy : y < N) (hN : ∀ x ∈ X, x < N) (hX : Ord key X) (hX1 : X.length ≠ 1) (hL : P.length + X.length + 1 + S.length = L) (hcp : L ≤ cp) (hLb : L < 4611686018427387904)
    (a m c : Nat) (ha : a = P.length) (hm : m = a + X.length) (hc : c = m + 1) :
    Calls Tryd.prog 35 #[.slice (some ⟨b, 0, none⟩) L cp, .int .i64 a, .int .i64 m, .int .i64 c, .func (.func 26) #[] #[bx]] w fun e w' => e = .returned (.tuple #[]) ∧ ∃ Z, Z.Perm (X ++ [y]) ∧ Ord key Z ∧ Sd w' b (P ++ Z ++ S) ∧ Only b w0 w' := by
  have AB : Aside (P.length + X.length + 1 + S.length = L ∧ L ≤ cp ∧ L < 4611686018427387904 ∧ a = P.length ∧ m = a + X.length ∧ c = m + 1) := ⟨hL, hcp, hLb, ha, hm, hc⟩
  have HC : Aside (Cm b bx N key w0) := hcm
  have HN : Aside ((∀ x ∈ X, x < N) ∧ y < N ∧ Ord key X) := ⟨hN, hNy, hX⟩
  obtain ⟨ml, hml⟩ : ∃ ml : Nat, ml = X.length := ⟨_, rfl⟩
  have hma : wrap64 ((m : Int) - (a : Int)) = (ml : Int) := by unfold wrap64; omega
  have hml1 : ((ml : Int) == 1) = false := by rw [beq_eq_false_iff_ne]; omega
  have hcm1 : wrap64 ((c : Int) - (m : Int)) = 1 := by unfold wrap64; omega
  have hD : Aside (Sd w b (P ++ X ++ y :: S) ∧ Only b w0 w) := ⟨hd, hO⟩
  clear hcm hN hL hcp hLb ha hm hc hNy hX hd hO hml hX1
  go_enter Tryd.func35, Tryd.ntmps35
  go_wp2_with fail
  clear hma hml1 hcm1
  go_loopg [14, 15] X.length (fun g si sj wr => ∃ (i j p q : Nat), si = .int .i64 i ∧ sj = .int .i64 j ∧ Aside (i = a + p ∧ j = a + q ∧ p + g = q ∧ q ≤ X.length ∧ (∀ x ∈ X.take p, key x ≤ key y) ∧ (∀ x ∈ X.drop q, key y ≤ key x) ∧ Sd wr b (P ++ X ++ y :: S) ∧ Only b w0 wr))
  case atStart =>
    obtain ⟨b1, b2, b3, b4, b5, b6⟩ := AB.out
    exact ⟨a, m, 0, X.length, rfl, rfl, ⟨rfl, b5, by omega, Nat.le_refl _, by simp, by simp, hD.out⟩⟩
  case round =>
    clear hD
    obtain ⟨i, j, p, q, rfl, rfl, hA⟩ := hrel
    by_cases hpq : p < q
    · have hij : (i : Int) < (j : Int) := by have := hA.out; omega
      obtain ⟨r, hr⟩ : ∃ r, r = (p + q) / 2 := ⟨_, rfl⟩
      obtain ⟨h, hh⟩ : ∃ h : Nat, h = a + r := ⟨_, rfl⟩
      have AR : Aside (r = (p + q) / 2 ∧ h = a + r ∧ p < q ∧ r < q ∧ p ≤ r) := ⟨hr, hh, hpq, by omega, by omega⟩
      have hrX : r < X.length := by have := hA.out; omega
      obtain ⟨x, hx⟩ : ∃ x, X[r]? = some x := ⟨_, List.getElem?_eq_getElem hrX⟩
      have AX : Aside (X[r]? = some x) := hx
      have hhx : (P ++ X ++ y :: S)[h]? = some x := by
        have := in_at (p := P) (s := y :: S) hx
        have hb := AB.out
        rw [show P.length + r = h by omega] at this
        exact this
      have hmy : (P ++ X ++ y :: S)[m]? = some y := by
        have hb := AB.out
        rw [show m = (P ++ X).length by simp; omega]; exact mid_at _ _ _
      have cx := hA.out.2.2.2.2.2.2.1.cell hhx
      have cy := hA.out.2.2.2.2.2.2.1.cell hmy
      have hxN : x < N := HN.out.1 x (List.mem_of_getElem? hx)
      have hOw : Only b w0 wr := hA.out.2.2.2.2.2.2.2
      have hc := fun u hu => HC.out u hu y x HN.out.2.1 hxN
      have i1 : (h : Int) < (L : Int) := by have := AB.out; omega
      have i2 : (m : Int) < (L : Int) := by have := AB.out; omega
      have wh : IntKind.i64.wrap ((h : Int) + 1) = (h : Int) + 1 := wr_id _ (by omega) (by have := AB.out; omega)
      have hmid := mid_wrap i j h (by have := hA.out; have := AB.out; omega) (by have := hA.out; omega)
      clear hhx hmy hr hh hpq hx hrX hxN
      by_cases hk : key y < key x
      · have hsd : decide (sg (key y) (key x) < 0) = true := by rw [sg_lt]; exact decide_eq_true hk
        have AK : Aside (key y < key x) := hk
        obtain ⟨v, hv⟩ : ∃ v, sg (key y) (key x) = v := ⟨_, rfl⟩
        rw [hv] at hc hsd
        clear hk hv
        go_wp2_with fail
        go_quiet (first | (go_at_call 26; refine Calls.quiet_of (hc _ ?_); first | exact hOw.drewN _ | exact hOw))
        go_wp2_with fail
        have hg := hA.out; have hr := AR.out
        go_roundg (r - p)
        case measure => omega
        case rel =>
          obtain ⟨g1, g2, g3, g4, g5, g6, g7, g8⟩ := hA.out
          refine ⟨i, h, p, r, rfl, by first | rfl | rw [hmid], ⟨g1, by omega, by omega, by omega, g5, ?_, g7.drewN _, g8.drewN _⟩⟩
          intro z hz
          exact Nat.le_trans (Nat.le_of_lt AK.out) (ord_drop HN.out.2.2 AX.out z hz)
      · have hsd : decide (sg (key y) (key x) < 0) = false := by rw [sg_lt]; exact decide_eq_false hk
        have AK : Aside (key x ≤ key y) := (show key x ≤ key y by omega)
        obtain ⟨v, hv⟩ : ∃ v, sg (key y) (key x) = v := ⟨_, rfl⟩
        rw [hv] at hc hsd
        clear hk hv
        go_wp2_with fail
        go_quiet (first | (go_at_call 26; refine Calls.quiet_of (hc _ ?_); first | exact hOw.drewN _ | exact hOw))
        go_wp2_with fail
        have hg := hA.out; have hr := AR.out
        go_roundg (q - (r + 1))
        case measure => omega
        case rel =>
          obtain ⟨g1, g2, g3, g4, g5, g6, g7, g8⟩ := hA.out
          refine ⟨h + 1, j, r + 1, q, by go_num, rfl, ⟨by omega, g2, by omega, g4, ?_, g6, g7.drewN _, g8.drewN _⟩⟩
          intro z hz
          exact Nat.le_trans (ord_take HN.out.2.2 AX.out z hz) AK.out
    · have hij : ¬ (i : Int) < (j : Int) := by have := hA.out; omega
      have hA2 : Aside (i = a + p ∧ p ≤ X.length ∧ (∀ x ∈ X.take p, key x ≤ key y) ∧ (∀ x ∈ X.drop p, key y ≤ key x) ∧ Sd wr b (P ++ X ++ y :: S) ∧ Only b w0 wr) := by
        obtain ⟨g1, g2, g3, g4, g5, g6, g7, g8⟩ := hA.out
        have hb := AB.out
        have e : p = q := by omega
        exact ⟨by omega, by omega, g5, by rw [e]; exact g6, g7, g8⟩
      clear hA hpq
      go_wp2_with fail
      go_loopg [17] (X.length - p) (fun g sk wr => ∃ (k t : Nat), sk = .int .i64 k ∧ Aside (k = a + t ∧ t = p + g ∧ t ≤ X.length ∧ Sd wr b (P ++ X.take t ++ y :: (X.drop t ++ S)) ∧ Only b w0 wr))
      case atStart =>
        have hb := AB.out
        have := hA2.out
        exact ⟨m, X.length, rfl, ⟨by omega, by omega, Nat.le_refl _, by simpa using hA2.out.2.2.2.2.1, hA2.out.2.2.2.2.2⟩⟩
      case round =>
        obtain ⟨k, t, rfl, hK⟩ := hrel
        by_cases htp : p < t
        · have hkp : (i : Int) < (k : Int) := by have := hK.out; have := hA2.out; omega
          obtain ⟨s, hs⟩ : ∃ s, t = s + 1 := ⟨t - 1, by omega⟩
          obtain ⟨o, ho⟩ : ∃ o, k = o + 1 := ⟨k - 1, by have := hK.out; omega⟩
          subst hs
          subst ho
          have AT : Aside (p < s + 1 ∧ o + 1 < L ∧ L < 4611686018427387904) := ⟨htp, by have := hK.out; have := hA2.out; have := AB.out; omega, AB.out.2.2.1⟩
          have hsX : s < X.length := by have := hK.out; omega
          obtain ⟨x, hx⟩ : ∃ x, X[s] = x := ⟨_, rfl⟩
          have hdr : X.drop s = x :: X.drop (s + 1) := by rw [← hx]; exact List.drop_eq_getElem_cons hsX
          have htk : X.take (s + 1) = X.take s ++ [x] := by rw [← hx]; exact List.take_succ_eq_append_getElem hsX
          have hkl : (P ++ X.take s).length = o := by have := hK.out; have := AB.out; simp; omega
          have hlen : (P ++ X.take (s + 1) ++ y :: (X.drop (s + 1) ++ S)).length = L := by have := AB.out; simp; omega
          have hsw : sw (P ++ X.take (s + 1) ++ y :: (X.drop (s + 1) ++ S)) (o + 1) o = P ++ X.take s ++ y :: (X.drop s ++ S) := by
            have := sw_adj' (P ++ X.take s) x y (X.drop (s + 1) ++ S)
            rw [hkl] at this
            rw [htk, hdr, show P ++ (X.take s ++ [x]) ++ y :: (X.drop (s + 1) ++ S) = P ++ X.take s ++ x :: y :: (X.drop (s + 1) ++ S) by simp, this]; simp
          have hS0 := hK.out.2.2.2.1
          have hO0 := hK.out.2.2.2.2
          obtain ⟨x1, y1, hx1, hy1, cx, cy, fx, fy, ⟨u, cu⟩, S3, O3⟩ := swap_pack hS0 (i := o + 1) (j := o) (by have := AT.out; omega) (by have := AT.out; omega)
          rw [hsw] at S3
          have S4 : Aside (Sd ((wr.setCell ⟨b, o + 1, none⟩ (.int .i64 (y1 : Int))).setCell ⟨b, o, none⟩ (.int .i64 (x1 : Int))).drew b (P ++ X.take s ++ y :: (X.drop s ++ S))) := S3
          have O4 : Aside (Only b w0 ((wr.setCell ⟨b, o + 1, none⟩ (.int .i64 (y1 : Int))).setCell ⟨b, o, none⟩ (.int .i64 (x1 : Int))).drew) := hO0.trans O3
          have i3 : (o : Int) < (L : Int) := by have := AT.out; omega
          have i4 : (o : Int) + 1 < (L : Int) := by have := AT.out; omega
          have i5 : (0 : Int) ≤ (o : Int) + 1 := by omega
          have i6 : ((o : Int) + 1).toNat = o + 1 := by omega
          have i9 : (i : Int) < (o : Int) + 1 := by omega
          have i7 : IntKind.i64.wrap (o : Int) = (o : Int) := wr_id _ (by omega) (by have := AT.out.2; omega)
          have i8 : wrap64 (o : Int) = (o : Int) := w64_id _ (by omega) (by have := AT.out.2; omega)
          clear S3 O3 hx1 hy1 hsw hlen hS0 hO0 hkl hdr htk hx hsX htp hkp
          go_wp2_with fail
          go_region
          clear cx cy cu fx fy
          generalize ((wr.setCell ⟨b, o + 1, none⟩ (.int .i64 (y1 : Int))).setCell ⟨b, o, none⟩ (.int .i64 (x1 : Int))).drew = w3 at S4 O4 ⊢
          go_wp2_with fail
          clear i7 i8
          have hg := hK.out; have ht := AT.out
          go_roundg (s - p)
          case measure => omega
          case rel => exact ⟨o, s, by first | rfl | go_num, ⟨by omega, by omega, by omega, S4.out, O4.out⟩⟩
        · have hkp : ¬ (i : Int) < (k : Int) := by have := hK.out; have := hA2.out; omega
          have htp2 : t = p := by have := hK.out; omega
          subst htp2
          clear htp
          go_wp2_with fail
          first | go_end0 | (refine bodyPost_ret (results_none rfl _ _ _) rfl ?_) | go_ret2
          obtain ⟨g1, g2, g3, g4, g5, g6⟩ := hA2.out
          refine ⟨rfl, X.take t ++ y :: X.drop t, ?_, ?_, by simpa using hK.out.2.2.2.1, hK.out.2.2.2.2⟩
          · refine List.perm_middle.trans ?_
            rw [List.take_append_drop]
            exact (List.perm_append_singleton y X).symm
          · exact ord_mid (by rw [List.take_append_drop]; exact HN.out.2.2) g4 g3
end Go.Proofs.YtbepbjbbhenphabDoor

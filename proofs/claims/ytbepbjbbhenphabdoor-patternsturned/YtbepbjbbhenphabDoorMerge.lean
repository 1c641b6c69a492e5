/-
  How the library's stable sort merges two runs, where one of them is a lone number: the walk of symMerge there.
  Conditions: the numbers lie in one block, the runs are sorted, the comparison reads alone.
-/
import Derived.Test.YtbepbjbbhenphabDoorInsert
import Derived.Laws.BitsAllLaws
import Derived.Laws.Bits64
import Derived.Laws.Bits64b
namespace Go.Proofs.YtbepbjbbhenphabDoor
open Go.RowKit
set_option linter.unusedVariables false
theorem ord_take {key : Nat → Nat} {Y : List Nat} (h : Ord key Y) {r y : Nat} (hy : Y[r]? = some y) : ∀ z ∈ Y.take (r + 1), key z ≤ key y := by
  intro z hz
  obtain ⟨i, hi⟩ := List.getElem?_of_mem hz
  rw [List.getElem?_take] at hi
  split at hi
  · rename_i hlt
    by_cases e : i = r
    · subst e; rw [hy] at hi; cases hi; exact Nat.le_refl _
    · obtain ⟨h1, e1⟩ := List.getElem?_eq_some_iff.1 hi
      obtain ⟨h2, e2⟩ := List.getElem?_eq_some_iff.1 hy
      have := List.pairwise_iff_getElem.1 h i r h1 h2 (by omega)
      rw [e1, e2] at this; exact this
  · cases hi
theorem ord_drop {key : Nat → Nat} {Y : List Nat} (h : Ord key Y) {r y : Nat} (hy : Y[r]? = some y) : ∀ z ∈ Y.drop r, key y ≤ key z := by
  intro z hz
  obtain ⟨i, hi⟩ := List.getElem?_of_mem hz
  rw [List.getElem?_drop] at hi
  by_cases e : i = 0
  · subst e; rw [Nat.add_zero, hy] at hi; cases hi; exact Nat.le_refl _
  · obtain ⟨h1, e1⟩ := List.getElem?_eq_some_iff.1 hi
    obtain ⟨h2, e2⟩ := List.getElem?_eq_some_iff.1 hy
    have := List.pairwise_iff_getElem.1 h r (r + i) h2 h1 (by omega)
    rw [e1, e2] at this; exact this
theorem mid_at (p : List Nat) (x : Nat) (s : List Nat) : (p ++ x :: s)[p.length]? = some x := by
  rw [List.getElem?_append_right (Nat.le_refl _)]; simp
theorem in_at {p Y s : List Nat} {r y : Nat} (h : Y[r]? = some y) : (p ++ Y ++ s)[p.length + r]? = some y := by
  have hr := (List.getElem?_eq_some_iff.1 h).1
  rw [List.append_assoc, List.getElem?_append_right (by omega), Nat.add_sub_cancel_left, List.getElem?_append_left hr]; exact h
/-- The place in the middle. -/
theorem mid_wrap (i j h : Nat) (hb : (i : Int) + (j : Int) < 9223372036854775808) (hh : h = (i + j) / 2) : wrap64 (IntKind.u64.wrap (wrap64 ((i : Int) + (j : Int))) / 2) = (h : Int) := by
  rw [IntKind.wrap_u64]; unfold wrap64; omega
set_option maxRecDepth 100000 in
set_option maxHeartbeats 4000000 in
theorem symL_c (b L cp N : Nat) (key : Nat → Nat) (bx : Value) (w0 w : World) (hcm : Cm b bx N key w0) (P : List Nat) (x : Nat) (Y S : List Nat) (hd : Sd w b (P ++ x :: (Y ++ S))) (hO : Only b w0 w) (hNx : x < N) (hN : ∀ y ∈ Y, y < N) (hY : Ord key Y) (hL : P.length + 1 + Y.length + S.length = L) (hcp : L ≤ cp) (hLb : L < 4611686018427387904)
    (a m c : Nat) (ha : a = P.length) (hm : m = a + 1) (hc : c = m + Y.length) :
    Calls Tryd.prog 35 #[.slice (some ⟨b, 0, none⟩) L cp, .int .i64 a, .int .i64 m, .int .i64 c, .func (.func 26) #[] #[bx]] w fun e w' => e = .returned (.tuple #[]) ∧ ∃ Z, Z.Perm (x :: Y) ∧ Ord key Z ∧ Sd w' b (P ++ Z ++ S) ∧ Only b w0 w' := by
  have AB : Aside (P.length + 1 + Y.length + S.length = L ∧ L ≤ cp ∧ L < 4611686018427387904 ∧ a = P.length ∧ m = a + 1 ∧ c = m + Y.length) := ⟨hL, hcp, hLb, ha, hm, hc⟩
  have HC : Aside (Cm b bx N key w0) := hcm
  have HN : Aside ((∀ y ∈ Y, y < N) ∧ x < N ∧ Ord key Y) := ⟨hN, hNx, hY⟩
  have hma : (m : Int) - (a : Int) = 1 := by omega
  have hD : Aside (Sd w b (P ++ x :: (Y ++ S)) ∧ Only b w0 w) := ⟨hd, hO⟩
  clear hcm hN hL hcp hLb ha hm hc hNx hY hd hO
  go_enter Tryd.func35, Tryd.ntmps35
  go_wp2_with fail
  go_loopg [10, 11] Y.length (fun g si sj wr => ∃ (i j p q : Nat), si = .int .i64 i ∧ sj = .int .i64 j ∧ Aside (i = m + p ∧ j = m + q ∧ p + g = q ∧ q ≤ Y.length ∧ (∀ y ∈ Y.take p, key y ≤ key x) ∧ (∀ y ∈ Y.drop q, key x ≤ key y) ∧ Sd wr b (P ++ x :: (Y ++ S)) ∧ Only b w0 wr))
  case atStart =>
    obtain ⟨b1, b2, b3, b4, b5, b6⟩ := AB.out
    exact ⟨m, c, 0, Y.length, rfl, rfl, ⟨rfl, b6, by omega, Nat.le_refl _, by simp, by simp, hD.out⟩⟩
  case round =>
    clear hD
    obtain ⟨i, j, p, q, rfl, rfl, hA⟩ := hrel
    by_cases hpq : p < q
    · have hij : (i : Int) < (j : Int) := by have := hA.out; omega
      obtain ⟨r, hr⟩ : ∃ r, r = (p + q) / 2 := ⟨_, rfl⟩
      obtain ⟨h, hh⟩ : ∃ h : Nat, h = m + r := ⟨_, rfl⟩
      have AR : Aside (r = (p + q) / 2 ∧ h = m + r ∧ p < q ∧ r < q ∧ p ≤ r) := ⟨hr, hh, hpq, by omega, by omega⟩
      have hmid := mid_wrap i j h (by have := hA.out; have := AB.out; omega) (by have := hA.out; omega)
      have hrY : r < Y.length := by have := hA.out; omega
      obtain ⟨y, hy⟩ : ∃ y, Y[r]? = some y := ⟨_, List.getElem?_eq_getElem hrY⟩
      have AY : Aside (Y[r]? = some y) := hy
      have hhy : (P ++ x :: (Y ++ S))[h]? = some y := by
        have := in_at (p := P ++ [x]) (s := S) hy
        have hb := AB.out
        rw [show (P ++ [x]).length + r = h by simp; omega] at this
        simpa using this
      have hax : (P ++ x :: (Y ++ S))[a]? = some x := by rw [AB.out.2.2.2.1]; exact mid_at _ _ _
      have cy := hA.out.2.2.2.2.2.2.1.cell hhy
      have cx := hA.out.2.2.2.2.2.2.1.cell hax
      have hyN : y < N := HN.out.1 y (List.mem_of_getElem? hy)
      have hOw : Only b w0 wr := hA.out.2.2.2.2.2.2.2
      have hc := fun u hu => HC.out u hu y x hyN HN.out.2.1
      have i1 : (h : Int) < (L : Int) := by have := AB.out; omega
      have i2 : (a : Int) < (L : Int) := by have := AB.out; omega
      have wh : IntKind.i64.wrap ((h : Int) + 1) = (h : Int) + 1 := by have := AB.out; rw [IntKind.wrap_i64]; omega
      clear hhy hax hr hh hpq hy hrY hyN
      by_cases hk : key y < key x
      · have hsd : decide (sg (key y) (key x) < 0) = true := by rw [sg_lt]; exact decide_eq_true hk
        have AK : Aside (key y < key x) := hk
        obtain ⟨v, hv⟩ : ∃ v, sg (key y) (key x) = v := ⟨_, rfl⟩
        rw [hv] at hc hsd
        clear hk hv
        go_wp2_with fail
        go_quiet (first | (go_at_call 26; refine Calls.quiet_of (hc _ ?_); first | exact hOw.drewN _ | exact hOw))
        go_wp2_with fail
        have hg := hA.out; have hr := AR.out
        go_roundg (q - (r + 1))
        case measure => omega
        case rel =>
          obtain ⟨g1, g2, g3, g4, g5, g6, g7, g8⟩ := hA.out
          refine ⟨h + 1, j, r + 1, q, by go_num, rfl, ⟨by omega, g2, by omega, g4, ?_, g6, g7.drewN _, g8.drewN _⟩⟩
          intro z hz
          exact Nat.le_trans (ord_take HN.out.2.2 AY.out z hz) (Nat.le_of_lt AK.out)
      · have hsd : decide (sg (key y) (key x) < 0) = false := by rw [sg_lt]; exact decide_eq_false hk
        have AK : Aside (key x ≤ key y) := (show key x ≤ key y by omega)
        obtain ⟨v, hv⟩ : ∃ v, sg (key y) (key x) = v := ⟨_, rfl⟩
        rw [hv] at hc hsd
        clear hk hv
        go_wp2_with fail
        go_quiet (first | (go_at_call 26; refine Calls.quiet_of (hc _ ?_); first | exact hOw.drewN _ | exact hOw))
        go_wp2_with fail
        have hg := hA.out; have hr := AR.out
        go_roundg (r - p)
        case measure => omega
        case rel =>
          obtain ⟨g1, g2, g3, g4, g5, g6, g7, g8⟩ := hA.out
          refine ⟨i, h, p, r, rfl, by first | rfl | rw [hmid], ⟨g1, by omega, by omega, by omega, g5, ?_, g7.drewN _, g8.drewN _⟩⟩
          intro z hz
          exact Nat.le_trans AK.out (ord_drop HN.out.2.2 AY.out z hz)
    · have hij : ¬ (i : Int) < (j : Int) := by have := hA.out; omega
      have hA2 : Aside (i = a + 1 + p ∧ p ≤ Y.length ∧ (∀ y ∈ Y.take p, key y ≤ key x) ∧ (∀ y ∈ Y.drop p, key x ≤ key y) ∧ Sd wr b (P ++ x :: (Y ++ S)) ∧ Only b w0 wr) := by
        obtain ⟨g1, g2, g3, g4, g5, g6, g7, g8⟩ := hA.out
        have hb := AB.out
        have e : p = q := by omega
        exact ⟨by omega, by omega, g5, by rw [e]; exact g6, g7, g8⟩
      obtain ⟨E, hE⟩ : ∃ E, E = a + p := ⟨_, rfl⟩
      have AE : Aside (E = a + p) := hE
      have i1 : wrap64 ((i : Int) - 1) = (E : Int) := by have := hA2.out; have := AB.out; unfold wrap64; omega
      clear hE
      clear hA hpq
      go_wp2_with fail
      go_loopg [13] p (fun g sk wr => ∃ (k t : Nat), sk = .int .i64 k ∧ Aside (k = a + t ∧ t + g = p ∧ Sd wr b (P ++ Y.take t ++ x :: (Y.drop t ++ S)) ∧ Only b w0 wr))
      case atStart =>
        exact ⟨a, 0, rfl, ⟨rfl, by omega, by simpa using hA2.out.2.2.2.2.1, hA2.out.2.2.2.2.2⟩⟩
      case round =>
        obtain ⟨k, t, rfl, hK⟩ := hrel
        by_cases htp : t < p
        · have hkp : (k : Int) < (E : Int) := by have := hK.out; have := AE.out; omega
          have AT : Aside (t < p ∧ k + 1 < L ∧ L < 4611686018427387904) := ⟨htp, by have := hK.out; have := hA2.out; have := AB.out; omega, AB.out.2.2.1⟩
          have htY : t < Y.length := by have := hA2.out; omega
          obtain ⟨y, hy⟩ : ∃ y, Y[t] = y := ⟨_, rfl⟩
          have hdr : Y.drop t = y :: Y.drop (t + 1) := by rw [← hy]; exact List.drop_eq_getElem_cons htY
          have htk : Y.take (t + 1) = Y.take t ++ [y] := by rw [← hy]; exact List.take_succ_eq_append_getElem htY
          have hkl : (P ++ Y.take t).length = k := by have := hK.out; have := AB.out; simp; omega
          have hlen : (P ++ Y.take t ++ x :: (Y.drop t ++ S)).length = L := by have := AB.out; simp; omega
          have hsw : sw (P ++ Y.take t ++ x :: (Y.drop t ++ S)) k (k + 1) = P ++ Y.take (t + 1) ++ x :: (Y.drop (t + 1) ++ S) := by
            have := sw_adj (P ++ Y.take t) x y (Y.drop (t + 1) ++ S)
            rw [hkl] at this
            rw [hdr, htk, List.cons_append, this]; simp
          have hS0 := hK.out.2.2.1
          have hO0 := hK.out.2.2.2
          obtain ⟨x1, y1, hx1, hy1, cx, cy, fx, fy, ⟨u, cu⟩, S3, O3⟩ := swap_pack hS0 (i := k) (j := k + 1) (by have := AT.out; omega) (by have := AT.out; omega)
          rw [hsw] at S3
          have S4 : Aside (Sd ((wr.setCell ⟨b, k, none⟩ (.int .i64 (y1 : Int))).setCell ⟨b, k + 1, none⟩ (.int .i64 (x1 : Int))).drew b (P ++ Y.take (t + 1) ++ x :: (Y.drop (t + 1) ++ S))) := S3
          have O4 : Aside (Only b w0 ((wr.setCell ⟨b, k, none⟩ (.int .i64 (y1 : Int))).setCell ⟨b, k + 1, none⟩ (.int .i64 (x1 : Int))).drew) := hO0.trans O3
          have i3 : (k : Int) < (L : Int) := by have := AT.out; omega
          have i4 : (k : Int) + 1 < (L : Int) := by have := AT.out; omega
          have i5 : (0 : Int) ≤ (k : Int) + 1 := by omega
          have i6 : ((k : Int) + 1).toNat = k + 1 := by omega
          have i7 : IntKind.i64.wrap ((k : Int) + 1) = (k : Int) + 1 := by have := AT.out; rw [IntKind.wrap_i64]; omega
          clear S3 O3 hx1 hy1 hsw hlen hS0 hO0 hkl hdr htk hy htY htp
          go_wp2_with fail
          go_region
          clear cx cy cu fx fy
          generalize ((wr.setCell ⟨b, k, none⟩ (.int .i64 (y1 : Int))).setCell ⟨b, k + 1, none⟩ (.int .i64 (x1 : Int))).drew = w3 at S4 O4 ⊢
          go_wp2_with fail
          have hg := hK.out; have ht := AT.out
          go_roundg (p - (t + 1))
          case measure => omega
          case rel => exact ⟨k + 1, t + 1, by go_num, ⟨by omega, by omega, S4.out, O4.out⟩⟩
        · have hkp : ¬ (k : Int) < (E : Int) := by have := hK.out; have := AE.out; omega
          have htp2 : t = p := by have := hK.out; omega
          subst htp2
          clear htp
          go_wp2_with fail
          first | go_end0 | (refine bodyPost_ret (results_none rfl _ _ _) rfl ?_) | go_ret2
          obtain ⟨g1, g2, g3, g4, g5, g6⟩ := hA2.out
          refine ⟨rfl, Y.take t ++ x :: Y.drop t, ?_, ?_, by simpa using hK.out.2.2.1, hK.out.2.2.2⟩
          · refine List.perm_middle.trans ?_
            rw [List.take_append_drop]
          · exact ord_mid (by rw [List.take_append_drop]; exact HN.out.2.2) g4 g3
end Go.Proofs.YtbepbjbbhenphabDoor

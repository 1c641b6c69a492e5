/-
  How the library's stable sort merges two sorted runs: the walk of symMerge, whole.
  Conditions: the numbers lie in one block, the runs are sorted and not empty, the comparison reads alone.
-/
import Derived.Test.YtbepbjbbhenphabDoorMergeR
import Derived.Deep.CutBlock
import Derived.Deep.DeepCutAuto
namespace Go.Proofs.YtbepbjbbhenphabDoor
open Go.RowKit
set_option linter.unusedVariables false
/-- What symMerge does with runs of fewer than K numbers together. -/
def SymAt (b L cp N : Nat) (key : Nat → Nat) (bx : Value) (w0 : World) (K : Nat) : Prop :=
  ∀ (P X Y S : List Nat) (w : World), X.length + Y.length < K → 0 < X.length → 0 < Y.length → Ord key X → Ord key Y → (∀ x ∈ X, x < N) → (∀ y ∈ Y, y < N) → Sd w b (P ++ X ++ Y ++ S) → Only b w0 w → P.length + X.length + Y.length + S.length = L →
    ∀ a m c : Nat, a = P.length → m = a + X.length → c = m + Y.length →
    Calls Tryd.prog 35 #[.slice (some ⟨b, 0, none⟩) L cp, .int .i64 a, .int .i64 m, .int .i64 c, .func (.func 26) #[] #[bx]] w fun e w' => e = .returned (.tuple #[]) ∧ ∃ Z, Z.Perm (X ++ Y) ∧ Ord key Z ∧ Sd w' b (P ++ Z ++ S) ∧ Only b w0 w'
theorem ord_app {key : Nat → Nat} {A B : List Nat} (ha : Ord key A) (hb : Ord key B) (h : ∀ u ∈ A, ∀ v ∈ B, key u ≤ key v) : Ord key (A ++ B) := by
  unfold Ord at *
  rw [List.pairwise_append]
  exact ⟨ha, hb, h⟩
theorem Ord.take {key : Nat → Nat} {A : List Nat} (h : Ord key A) (k : Nat) : Ord key (A.take k) := List.Pairwise.sublist (List.take_sublist k A) h
theorem Ord.drop {key : Nat → Nat} {A : List Nat} (h : Ord key A) (k : Nat) : Ord key (A.drop k) := List.Pairwise.sublist (List.drop_sublist k A) h
theorem ord_cut {key : Nat → Nat} {A : List Nat} (h : Ord key A) (k : Nat) : ∀ u ∈ A.take k, ∀ v ∈ A.drop k, key u ≤ key v := by
  have : Ord key (A.take k ++ A.drop k) := by rw [List.take_append_drop]; exact h
  unfold Ord at this
  rw [List.pairwise_append] at this
  exact this.2.2
theorem cross {key : Nat → Nat} {U V : List Nat} {p q : Nat} (hpU : p ≤ U.length) (hU : Ord key U) (hV : Ord key V) (h : ∀ x y, 0 < p → U[p - 1]? = some x → V[q]? = some y → key x ≤ key y) : ∀ u ∈ U.take p, ∀ v ∈ V.drop q, key u ≤ key v := by
  intro u hu v hv
  have hp : 0 < p := by
    cases p with
    | zero => simp at hu
    | succ p => omega
  have hql : q < V.length := by
    have : 0 < (V.drop q).length := List.length_pos_of_mem hv
    simp at this; omega
  obtain ⟨y, hy⟩ : ∃ y, V[q]? = some y := ⟨_, List.getElem?_eq_getElem hql⟩
  have h2 := ord_drop hV hy v hv
  obtain ⟨x, hx⟩ : ∃ x, U[p - 1]? = some x := ⟨_, List.getElem?_eq_getElem (by omega)⟩
  have h1 := ord_take hU hx u (by rw [show p - 1 + 1 = p by omega]; exact hu)
  exact Nat.le_trans h1 (Nat.le_trans (h x y hp hx hy) h2)
/-- The two halves, where the runs are cut at places that fit. -/
theorem halves {key : Nat → Nat} {X Y : List Nat} (hX : Ord key X) (hY : Ord key Y) {s e : Nat} (hs : s ≤ X.length) (he : e ≤ Y.length)
    (hA : ∀ x y, 0 < s → X[s - 1]? = some x → Y[e]? = some y → key x ≤ key y) (hB : ∀ x y, 0 < e → X[s]? = some x → Y[e - 1]? = some y → key y ≤ key x) :
    ∀ u ∈ X.take s ++ Y.take e, ∀ v ∈ X.drop s ++ Y.drop e, key u ≤ key v := by
  intro u hu v hv
  rcases List.mem_append.1 hu with hu | hu
  · rcases List.mem_append.1 hv with hv | hv
    · exact ord_cut hX s u hu v hv
    · exact cross hs hX hY hA u hu v hv
  · rcases List.mem_append.1 hv with hv | hv
    · exact cross he hY hX (fun x y h h1 h2 => hB y x h h2 h1) u hu v hv
    · exact ord_cut hY e u hu v hv
theorem sym_perm {X Y X1 X2 Y1 Y2 Z1 Z2 : List Nat} (q1 : X = X1 ++ X2) (q2 : Y = Y1 ++ Y2) (h1 : Z1.Perm (X1 ++ Y1)) (h2 : Z2.Perm (X2 ++ Y2)) : (Z1 ++ Z2).Perm (X ++ Y) := by
  rw [q1, q2]
  refine (h1.append h2).trans ?_
  simp only [List.append_assoc]
  refine List.Perm.append_left X1 ?_
  rw [← List.append_assoc Y1, ← List.append_assoc X2]
  exact List.Perm.append_right Y2 List.perm_append_comm
set_option maxRecDepth 100000 in
set_option maxHeartbeats 8000000 in
theorem symB_c (b L cp N K : Nat) (key : Nat → Nat) (bx : Value) (w0 : World) (hcm : Cm b bx N key w0) (hcp : L ≤ cp) (hLb : L < 4611686018427387904) (ih : SymAt b L cp N key bx w0 K)
    (P X Y S : List Nat) (w : World) (hK : X.length + Y.length ≤ K) (hX2 : 2 ≤ X.length) (hY2 : 2 ≤ Y.length) (hX : Ord key X) (hY : Ord key Y) (hNX : ∀ x ∈ X, x < N) (hNY : ∀ y ∈ Y, y < N) (hd : Sd w b (P ++ X ++ Y ++ S)) (hO : Only b w0 w) (hL : P.length + X.length + Y.length + S.length = L)
    (a m c : Nat) (ha : a = P.length) (hm : m = a + X.length) (hc : c = m + Y.length) :
    Calls Tryd.prog 35 #[.slice (some ⟨b, 0, none⟩) L cp, .int .i64 a, .int .i64 m, .int .i64 c, .func (.func 26) #[] #[bx]] w fun e w' => e = .returned (.tuple #[]) ∧ ∃ Z, Z.Perm (X ++ Y) ∧ Ord key Z ∧ Sd w' b (P ++ Z ++ S) ∧ Only b w0 w' := by
  obtain ⟨mid, hmid⟩ : ∃ mid, mid = (a + c) / 2 := ⟨_, rfl⟩
  obtain ⟨M, hM⟩ : ∃ M, mid = a + M := ⟨mid - a, by omega⟩
  obtain ⟨nn, hnn⟩ : ∃ nn, nn = mid + m := ⟨_, rfl⟩
  obtain ⟨pp, hpp⟩ : ∃ pp, pp + 1 = nn := ⟨nn - 1, by omega⟩
  obtain ⟨ml, hml⟩ : ∃ ml : Nat, ml = X.length := ⟨_, rfl⟩
  obtain ⟨cl, hcl⟩ : ∃ cl : Nat, cl = Y.length := ⟨_, rfl⟩
  have AB : Aside (P.length + X.length + Y.length + S.length = L ∧ L < 4611686018427387904 ∧ a = P.length ∧ m = a + X.length ∧ c = m + Y.length ∧ mid = (a + c) / 2 ∧ mid = a + M ∧ nn = mid + m ∧ pp + 1 = nn ∧ 2 ≤ X.length ∧ 2 ≤ Y.length ∧ X.length + Y.length ≤ K) := ⟨hL, hLb, ha, hm, hc, hmid, hM, hnn, hpp, hX2, hY2, hK⟩
  have HC : Aside (Cm b bx N key w0 ∧ SymAt b L cp N key bx w0 K ∧ L ≤ cp) := ⟨hcm, ih, hcp⟩
  have HN : Aside ((∀ x ∈ X, x < N) ∧ (∀ y ∈ Y, y < N) ∧ Ord key X ∧ Ord key Y) := ⟨hNX, hNY, hX, hY⟩
  have hD : Aside (Sd w b (P ++ X ++ Y ++ S) ∧ Only b w0 w) := ⟨hd, hO⟩
  have hml1 : ((ml : Int) == 1) = false := by rw [beq_eq_false_iff_ne]; omega
  have hcl1 : ((cl : Int) == 1) = false := by rw [beq_eq_false_iff_ne]; omega
  have c1 : (m : Int) - (a : Int) = (ml : Int) := by omega
  have c2 : (c : Int) - (m : Int) = (cl : Int) := by omega
  have c3 : (nn : Int) - 1 = (pp : Int) := by omega
  have z2 : (ml : Int) < 9223372036854775808 := by omega
  have z3 : (cl : Int) < 9223372036854775808 := by omega
  have z4 : (pp : Int) < 9223372036854775808 := by omega
  have z5 : (nn : Int) < 9223372036854775808 := by omega
  have z6 : (mid : Int) + (m : Int) = (nn : Int) := by omega
  have y0 : (a : Int) + (c : Int) < 9223372036854775808 := by omega
  clear hcm ih hcp hLb hK hX2 hY2 hX hY hNX hNY hd hO hL ha hm hc hM hnn hpp hml hcl
  have w1 : wrap64 ((m : Int) - (a : Int)) = (ml : Int) := by rw [c1]; exact w64_id _ (Int.natCast_nonneg _) z2
  have w2 : wrap64 ((c : Int) - (m : Int)) = (cl : Int) := by rw [c2]; exact w64_id _ (Int.natCast_nonneg _) z3
  have w3 : wrap64 ((mid : Int) + (m : Int)) = (nn : Int) := by rw [z6]; exact w64_id _ (Int.natCast_nonneg _) z5
  have w4 : wrap64 ((nn : Int) - 1) = (pp : Int) := by rw [c3]; exact w64_id _ (Int.natCast_nonneg _) z4
  have w5 := mid_wrap a c mid y0 hmid
  clear c1 c2 c3 z2 z3 z4 z5 z6 y0 hmid
  go_enter Tryd.func35, Tryd.ntmps35
  go_upto_if 140 with fail
  rw [w5, w3]
  clear w5 w3 w1 w2 hml1 hcl1
  go_cut [20, 21] (fun s20 s21 wc => wc = w ∧ ∃ lo hi lS hS : Nat, s20 = .int .i64 lo ∧ s21 = .int .i64 hi ∧ Aside (lo = a + lS ∧ hi = a + hS ∧ M ≤ lS + Y.length ∧ hS ≤ M ∧ hS ≤ X.length ∧ lS ≤ hS ∧ (lS = 0 ∨ lS + Y.length = M) ∧ (hS = M ∨ hS = X.length)))
  case first => as_aux_lemma =>
    by_cases hmm : mid < m
    · have hgt : (mid : Int) < (m : Int) := by clear w4; omega
      obtain ⟨lo, hlo⟩ : ∃ lo, lo + c = nn := ⟨nn - c, by clear w4; have := AB.out; omega⟩
      have c4 : (nn : Int) - (c : Int) = (lo : Int) := by clear w4; omega
      have z7 : (lo : Int) < 9223372036854775808 := by clear w4; have := AB.out; omega
      have w6 : wrap64 ((nn : Int) - (c : Int)) = (lo : Int) := by rw [c4]; exact w64_id _ (Int.natCast_nonneg _) z7
      have AL : Aside (lo + c = nn ∧ mid < m) := ⟨hlo, hmm⟩
      clear c4 z7 hlo hmm
      go_wp2_with fail
      go_meet
      clear w4
      have hb := AB.out
      have hl := AL.out
      refine ⟨rfl, lo, mid, lo - a, M, by rw [w6], rfl, ?_⟩
      clear w6
      exact ⟨by omega, by omega, by omega, by omega, by omega, by omega, Or.inr (by omega), Or.inl rfl⟩
    · have hgt : ¬ (mid : Int) < (m : Int) := by clear w4; omega
      have AL : Aside (¬ mid < m) := hmm
      clear hmm
      go_wp2_with fail
      go_meet
      clear w4
      have hb := AB.out
      have hl := AL.out
      exact ⟨rfl, a, m, 0, X.length, rfl, rfl, ⟨rfl, by omega, by omega, by omega, Nat.le_refl _, by omega, Or.inl rfl, Or.inr rfl⟩⟩
  case rest =>
    obtain ⟨rfl, lo, hi, lS, hS, rfl, rfl, AH⟩ := hcut
    go_wp2_with fail
    rw [w4]
    clear w4
    go_loopg [20, 21] (hS - lS) (fun g ss sr wr => ∃ (st r s t : Nat), ss = .int .i64 st ∧ sr = .int .i64 r ∧ Aside (st = a + s ∧ r = a + t ∧ s + g = t ∧ lS ≤ s ∧ t ≤ hS ∧ (s = lS ∨ ∀ x y, X[s - 1]? = some x → Y[M - s]? = some y → key x ≤ key y) ∧ (t = hS ∨ ∀ x y, X[t]? = some x → Y[M - t - 1]? = some y → key y ≤ key x) ∧ Sd wr b (P ++ X ++ Y ++ S) ∧ Only b w0 wr))
    case atStart =>
      have hh := AH.out
      exact ⟨lo, hi, lS, hS, rfl, rfl, ⟨hh.1, hh.2.1, by omega, Nat.le_refl _, Nat.le_refl _, Or.inl rfl, Or.inl rfl, hD.out⟩⟩
    case round =>
      clear hD
      obtain ⟨st, r, s, t, rfl, rfl, hA⟩ := hrel
      by_cases hst : s < t
      · have hij : (st : Int) < (r : Int) := by have := hA.out; omega
        obtain ⟨u, hu⟩ : ∃ u, u = (s + t) / 2 := ⟨_, rfl⟩
        obtain ⟨h, hh⟩ : ∃ h : Nat, h = a + u := ⟨_, rfl⟩
        obtain ⟨g, hg⟩ : ∃ g : Nat, g + h = pp := ⟨pp - h, by have := hA.out; have := AB.out; have := AH.out; omega⟩
        have AR : Aside (u = (s + t) / 2 ∧ h = a + u ∧ s < t ∧ u < t ∧ s ≤ u ∧ g + h = pp) := ⟨hu, hh, hst, by omega, by omega, hg⟩
        have huX : u < X.length := by have := hA.out; have := AH.out; omega
        have hvY : M - u - 1 < Y.length := by have := hA.out; have := AH.out; have := AB.out; omega
        obtain ⟨x, hx⟩ : ∃ x, X[u]? = some x := ⟨_, List.getElem?_eq_getElem huX⟩
        obtain ⟨y, hy⟩ : ∃ y, Y[M - u - 1]? = some y := ⟨_, List.getElem?_eq_getElem hvY⟩
        have AX : Aside (X[u]? = some x ∧ Y[M - u - 1]? = some y) := ⟨hx, hy⟩
        have hhx : (P ++ X ++ Y ++ S)[h]? = some x := by
          have := in_at (p := P) (s := Y ++ S) hx
          have hb := AB.out
          rw [show P.length + u = h by omega] at this
          simpa using this
        have hgy : (P ++ X ++ Y ++ S)[g]? = some y := by
          have := in_at (p := P ++ X) (s := S) hy
          have hb := AB.out; have ha := hA.out; have hc := AH.out
          rw [show (P ++ X).length + (M - u - 1) = g by rw [List.length_append]; omega] at this
          exact this
        have cx := hA.out.2.2.2.2.2.2.2.1.cell hhx
        have cy := hA.out.2.2.2.2.2.2.2.1.cell hgy
        have hOw : Only b w0 wr := hA.out.2.2.2.2.2.2.2.2
        have hc := fun u hu => HC.out.1 u hu y x (HN.out.2.1 y (List.mem_of_getElem? hy)) (HN.out.1 x (List.mem_of_getElem? hx))
        have i1 : (h : Int) < (L : Int) := by have := AB.out; omega
        have i2 : (g : Int) < (L : Int) := by have := AB.out; have := hA.out; have := AH.out; omega
        have i3 : (pp : Int) - (h : Int) = (g : Int) := by omega
        have i4 : (g : Int) < 9223372036854775808 := by have := AB.out; omega
        have i5 : (h : Int) + 1 < 9223372036854775808 := by have := AB.out; omega
        have i6 : (0 : Int) ≤ (h : Int) + 1 := by omega
        have i7 : (st : Int) + (r : Int) < 9223372036854775808 := by have := hA.out; have := AB.out; have := AH.out; omega
        have i8 : h = (st + r) / 2 := by have := hA.out; omega
        clear hhx hgy hu hh hst hx hy huX hvY hg
        by_cases hk : key y < key x
        · as_aux_lemma =>
            have hsd : decide (sg (key y) (key x) < 0) = true := by rw [sg_lt]; exact decide_eq_true hk
            have AK : Aside (key y < key x) := hk
            obtain ⟨v, hv⟩ : ∃ v, sg (key y) (key x) = v := ⟨_, rfl⟩
            rw [hv] at hc hsd
            have hmid2 := mid_wrap st r h i7 i8
            have wh : IntKind.i64.wrap ((h : Int) + 1) = (h : Int) + 1 := wr_id _ i6 i5
            have wg : IntKind.i64.wrap ((pp : Int) - (h : Int)) = (g : Int) := by rw [i3]; exact wr_id _ (Int.natCast_nonneg _) i4
            have wg2 : wrap64 ((pp : Int) - (h : Int)) = (g : Int) := by rw [i3]; exact w64_id _ (Int.natCast_nonneg _) i4
            clear hk hv i3 i4 i5 i6 i7 i8
            go_wp2_with fail
            go_quiet (first | (go_at_call 26; refine Calls.quiet_of (hc _ ?_); first | exact hOw.drewN _ | exact hOw))
            go_wp2_with fail
            have hv2 : Aside (wrap64 (IntKind.u64.wrap (wrap64 ((st : Int) + (r : Int))) / 2) = (h : Int)) := hmid2
            clear hmid2 wh wg wg2
            have hg := hA.out; have hr := AR.out
            go_roundg (u - s)
            case measure => omega
            case rel =>
              obtain ⟨g1, g2, g3, g4, g5, g6, g7, g8, g9⟩ := hA.out
              refine ⟨st, h, s, u, rfl, by rw [hv2.out], ⟨g1, by omega, by omega, g4, by omega, g6, Or.inr ?_, g8.drewN _, g9.drewN _⟩⟩
              intro x' y' h1 h2
              have e1 := AX.out.1; have e2 := AX.out.2
              rw [h1] at e1; rw [h2] at e2
              cases e1; cases e2
              exact Nat.le_of_lt AK.out
        · as_aux_lemma =>
            have hsd : decide (sg (key y) (key x) < 0) = false := by rw [sg_lt]; exact decide_eq_false hk
            have AK : Aside (key x ≤ key y) := (show key x ≤ key y by omega)
            obtain ⟨v, hv⟩ : ∃ v, sg (key y) (key x) = v := ⟨_, rfl⟩
            rw [hv] at hc hsd
            have hmid2 := mid_wrap st r h i7 i8
            have wh : IntKind.i64.wrap ((h : Int) + 1) = (h : Int) + 1 := wr_id _ i6 i5
            have wg : IntKind.i64.wrap ((pp : Int) - (h : Int)) = (g : Int) := by rw [i3]; exact wr_id _ (Int.natCast_nonneg _) i4
            have wg2 : wrap64 ((pp : Int) - (h : Int)) = (g : Int) := by rw [i3]; exact w64_id _ (Int.natCast_nonneg _) i4
            clear hk hv i3 i4 i5 i6 i7 i8
            go_wp2_with fail
            go_quiet (first | (go_at_call 26; refine Calls.quiet_of (hc _ ?_); first | exact hOw.drewN _ | exact hOw))
            go_wp2_with fail
            clear hmid2 wh wg wg2
            have hg := hA.out; have hr := AR.out
            go_roundg (t - (u + 1))
            case measure => omega
            case rel =>
              obtain ⟨g1, g2, g3, g4, g5, g6, g7, g8, g9⟩ := hA.out
              refine ⟨h + 1, r, u + 1, t, by first | rfl | go_num, rfl, ⟨by omega, g2, by omega, by omega, g5, Or.inr ?_, g7, g8.drewN _, g9.drewN _⟩⟩
              intro x' y' h1 h2
              have e1 := AX.out.1; have e2 := AX.out.2
              rw [show u + 1 - 1 = u by omega] at h1
              rw [show M - (u + 1) = M - u - 1 by omega] at h2
              rw [h1] at e1; rw [h2] at e2
              cases e1; cases e2
              exact AK.out
      · as_aux_lemma =>
        have hij : ¬ (st : Int) < (r : Int) := by have := hA.out; omega
        have hts : t = s := by have := hA.out; omega
        subst hts
        obtain ⟨e, he⟩ : ∃ e, e = M - t := ⟨_, rfl⟩
        obtain ⟨en, hen⟩ : ∃ en, en = m + e := ⟨_, rfl⟩
        obtain ⟨X1, hX1⟩ : ∃ X1, X1 = X.take t := ⟨_, rfl⟩
        obtain ⟨X2, hX2⟩ : ∃ X2, X2 = X.drop t := ⟨_, rfl⟩
        obtain ⟨Y1, hY1⟩ : ∃ Y1, Y1 = Y.take e := ⟨_, rfl⟩
        obtain ⟨Y2, hY2⟩ : ∃ Y2, Y2 = Y.drop e := ⟨_, rfl⟩
        have AE : Aside (st = a + X1.length ∧ m = st + X2.length ∧ en = m + Y1.length ∧ c = en + Y2.length ∧ mid = st + Y1.length ∧ en + st = nn ∧ X = X1 ++ X2 ∧ Y = Y1 ++ Y2) := by
          obtain ⟨g1, g2, g3, g4, g5, g6, g7, g8, g9⟩ := hA.out
          have hb := AB.out; have hh := AH.out
          have l1 : X1.length = t := by rw [hX1, List.length_take]; omega
          have l2 : X2.length = X.length - t := by rw [hX2, List.length_drop]
          have l3 : Y1.length = e := by rw [hY1, List.length_take]; omega
          have l4 : Y2.length = Y.length - e := by rw [hY2, List.length_drop]
          refine ⟨by omega, by omega, by omega, by omega, by omega, by omega, by rw [hX1, hX2, List.take_append_drop], by rw [hY1, hY2, List.take_append_drop]⟩
        have AF : Aside ((∀ u ∈ X1 ++ Y1, ∀ v ∈ X2 ++ Y2, key u ≤ key v) ∧ Ord key X1 ∧ Ord key X2 ∧ Ord key Y1 ∧ Ord key Y2) := by
          obtain ⟨g1, g2, g3, g4, g5, g6, g7, g8, g9⟩ := hA.out
          have hb := AB.out; have hh := AH.out; have hn := HN.out
          refine ⟨?_, by rw [hX1]; exact hn.2.2.1.take _, by rw [hX2]; exact hn.2.2.1.drop _, by rw [hY1]; exact hn.2.2.2.take _, by rw [hY2]; exact hn.2.2.2.drop _⟩
          rw [hX1, hX2, hY1, hY2]
          refine halves hn.2.2.1 hn.2.2.2 (by omega) (by omega) ?_ ?_
          · intro x y h0 h1 h2
            have hl := (List.getElem?_eq_some_iff.1 h2).1
            rcases g6 with g6 | g6
            · exfalso; omega
            · exact g6 x y h1 (by rw [← he]; exact h2)
          · intro x y h0 h1 h2
            have hl := (List.getElem?_eq_some_iff.1 h1).1
            rcases g7 with g7 | g7
            · exfalso; omega
            · exact g7 x y h1 (by rw [← he]; exact h2)
        have hS1 : Aside (Sd wr b (P ++ X1 ++ X2 ++ Y1 ++ (Y2 ++ S)) ∧ Only b w0 wr) := by
          obtain ⟨g1, g2, g3, g4, g5, g6, g7, g8, g9⟩ := hA.out
          refine ⟨?_, g9⟩
          have h1 := AE.out.2.2.2.2.2.2.1; have h2 := AE.out.2.2.2.2.2.2.2
          rw [h1, h2] at g8
          simpa using g8
        have AN : Aside ((∀ x ∈ X1, x < N) ∧ (∀ x ∈ X2, x < N) ∧ (∀ x ∈ Y1, x < N) ∧ (∀ x ∈ Y2, x < N) ∧ X.length = X1.length + X2.length ∧ Y.length = Y1.length + Y2.length) := by
          have q1 := AE.out.2.2.2.2.2.2.1; have q2 := AE.out.2.2.2.2.2.2.2
          have n1 := HN.out.1; have n2 := HN.out.2.1
          rw [q1] at n1; rw [q2] at n2
          exact ⟨fun x h => n1 x (List.mem_append_left _ h), fun x h => n1 x (List.mem_append_right _ h), fun x h => n2 x (List.mem_append_left _ h), fun x h => n2 x (List.mem_append_right _ h), by rw [q1, List.length_append], by rw [q2, List.length_append]⟩
        have e1 : (nn : Int) - (st : Int) = (en : Int) := by have := AE.out; omega
        have e2 : (en : Int) < 9223372036854775808 := by have := AE.out; have := AB.out; omega
        have e3 : wrap64 ((nn : Int) - (st : Int)) = (en : Int) := by rw [e1]; exact w64_id _ (Int.natCast_nonneg _) e2
        clear hX1 hX2 hY1 hY2 hen he hst hA e1 e2
        go_upto_region 39 with fail
        rw [e3]
        clear e3
        go_cut [185] (fun s185 wc => wc = wr ∧ s185 = .bool (decide (0 < X2.length ∧ 0 < Y1.length)))
        case first => as_aux_lemma =>
          by_cases h1 : 0 < X2.length
          · have d1 : (st : Int) < (m : Int) := by have := AE.out; omega
            by_cases h2 : 0 < Y1.length
            · have d2 : (m : Int) < (en : Int) := by have := AE.out; omega
              have AZ : Aside (0 < X2.length ∧ 0 < Y1.length) := ⟨h1, h2⟩
              clear h1 h2
              go_wp2_with fail
              go_meet
              exact ⟨rfl, by rw [decide_eq_true AZ.out]⟩
            · have d2 : ¬ (m : Int) < (en : Int) := by have := AE.out; omega
              have AZ : Aside (¬ (0 < X2.length ∧ 0 < Y1.length)) := (show ¬ _ by omega)
              clear h1 h2
              go_wp2_with fail
              go_meet
              exact ⟨rfl, by rw [decide_eq_false AZ.out]⟩
          · have d1 : ¬ (st : Int) < (m : Int) := by have := AE.out; omega
            have AZ : Aside (¬ (0 < X2.length ∧ 0 < Y1.length)) := (show ¬ _ by omega)
            clear h1
            go_wp2_with fail
            go_meet
            exact ⟨rfl, by rw [decide_eq_false AZ.out]⟩
        case rest =>
          obtain ⟨rfl, rfl⟩ := hcut
          clear hij
          go_upto_if 185 with fail
          go_cut [] (fun wc => Aside (Sd wc b (P ++ X1 ++ Y1 ++ (X2 ++ Y2 ++ S)) ∧ Only b w0 wc))
          case first => as_aux_lemma =>
            by_cases hz : 0 < X2.length ∧ 0 < Y1.length
            · have hzd := decide_eq_true hz
              have AZ : Aside (0 < X2.length ∧ 0 < Y1.length) := hz
              clear hz
              generalize decide (0 < X2.length ∧ 0 < Y1.length) = q at hzd
              subst hzd
              go_wp2_with fail
              refine (rot_c b L cp (P ++ X1) X2 Y1 (Y2 ++ S) _ _ hS1.out.1 ?_ AZ.out.1 AZ.out.2 HC.out.2.2 AB.out.2.1 st m en ?_ ?_ ?_).mono ?_
              · have := AB.out; have := AE.out; have := AN.out; simp only [List.length_append]; omega
              · have := AB.out; have := AE.out; simp only [List.length_append]; omega
              · have := AB.out; have := AE.out; simp only [List.length_append]; omega
              · have := AB.out; have := AE.out; simp only [List.length_append]; omega
              rintro e2 w2 ⟨rfl, hs2, ho2⟩
              have A2 : Aside (Sd w2 b (P ++ X1 ++ Y1 ++ (X2 ++ Y2 ++ S)) ∧ Only b w0 w2) := ⟨by simpa using hs2, hS1.out.2.trans ho2⟩
              clear hs2 ho2
              go_wp2_with fail
              go_meet
              exact A2
            · have hzd := decide_eq_false hz
              have A2 : Aside (Sd wc b (P ++ X1 ++ Y1 ++ (X2 ++ Y2 ++ S)) ∧ Only b w0 wc) := by
                refine ⟨?_, hS1.out.2⟩
                have h1 := hS1.out.1
                by_cases h2 : 0 < X2.length
                · have : Y1 = [] := List.eq_nil_of_length_eq_zero (by omega)
                  rw [this] at h1 ⊢; simpa using h1
                · have : X2 = [] := List.eq_nil_of_length_eq_zero (by omega)
                  rw [this] at h1 ⊢; simpa using h1
              clear hz
              generalize decide (0 < X2.length ∧ 0 < Y1.length) = q at hzd
              subst hzd
              go_wp2_with fail
              go_meet
              exact A2
          case rest =>
            clear hS1
            have hS2 := hcut
            clear hcut
            go_upto_region 41 with fail
            generalize wc = wq at *
            go_cut [199] (fun sc wc => wc = wq ∧ sc = .bool (decide (0 < X1.length ∧ 0 < Y1.length)))
            case first => as_aux_lemma =>
              by_cases h1 : 0 < X1.length
              · have d1 : (a : Int) < (st : Int) := by have := AE.out; omega
                by_cases h2 : 0 < Y1.length
                · have d2 : (st : Int) < (mid : Int) := by have := AE.out; omega
                  have AZ : Aside (0 < X1.length ∧ 0 < Y1.length) := ⟨h1, h2⟩
                  clear h1 h2
                  go_wp2_with fail
                  go_meet
                  exact ⟨rfl, by rw [decide_eq_true AZ.out]⟩
                · have d2 : ¬ (st : Int) < (mid : Int) := by have := AE.out; omega
                  have AZ : Aside (¬ (0 < X1.length ∧ 0 < Y1.length)) := (show ¬ _ by omega)
                  clear h1 h2
                  go_wp2_with fail
                  go_meet
                  exact ⟨rfl, by rw [decide_eq_false AZ.out]⟩
              · have d1 : ¬ (a : Int) < (st : Int) := by have := AE.out; omega
                have AZ : Aside (¬ (0 < X1.length ∧ 0 < Y1.length)) := (show ¬ _ by omega)
                clear h1
                go_wp2_with fail
                go_meet
                exact ⟨rfl, by rw [decide_eq_false AZ.out]⟩
            case rest =>
              obtain ⟨rfl, rfl⟩ := hcut
              go_upto_if 199 with fail
              go_cut [] (fun wc => ∃ Z1, Aside (Z1.Perm (X1 ++ Y1) ∧ Ord key Z1 ∧ Sd wc b (P ++ Z1 ++ (X2 ++ Y2 ++ S)) ∧ Only b w0 wc))
              case first => as_aux_lemma =>
                by_cases hz : 0 < X1.length ∧ 0 < Y1.length
                · have hzd := decide_eq_true hz
                  have AZ : Aside (0 < X1.length ∧ 0 < Y1.length) := hz
                  clear hz
                  generalize decide (0 < X1.length ∧ 0 < Y1.length) = q at hzd
                  subst hzd
                  go_wp2_with fail
                  refine (HC.out.2.1 P X1 Y1 (X2 ++ Y2 ++ S) _ ?_ AZ.out.1 AZ.out.2 AF.out.2.1 AF.out.2.2.2.1 AN.out.1 AN.out.2.2.1 hS2.out.1 hS2.out.2 ?_ a st mid AB.out.2.2.1 ?_ ?_).mono ?_
                  · have := AB.out; have := AE.out; have := AN.out; omega
                  · have := AB.out; have := AE.out; have := AN.out; simp only [List.length_append]; omega
                  · have := AE.out; omega
                  · have := AE.out; omega
                  rintro e2 w2 ⟨rfl, Z1, hp2, ho2, hs2, hn2⟩
                  have A2 : Aside (Z1.Perm (X1 ++ Y1) ∧ Ord key Z1 ∧ Sd w2 b (P ++ Z1 ++ (X2 ++ Y2 ++ S)) ∧ Only b w0 w2) := ⟨hp2, ho2, hs2, hn2⟩
                  clear hp2 ho2 hs2 hn2
                  go_wp2_with fail
                  go_meet
                  exact ⟨Z1, A2⟩
                · have hzd := decide_eq_false hz
                  have A2 : Aside ((X1 ++ Y1).Perm (X1 ++ Y1) ∧ Ord key (X1 ++ Y1) ∧ Sd wc b (P ++ (X1 ++ Y1) ++ (X2 ++ Y2 ++ S)) ∧ Only b w0 wc) := by
                    refine ⟨List.Perm.refl _, ?_, by simpa using hS2.out.1, hS2.out.2⟩
                    by_cases h2 : 0 < X1.length
                    · have : Y1 = [] := List.eq_nil_of_length_eq_zero (by omega)
                      rw [this, List.append_nil]; exact AF.out.2.1
                    · have : X1 = [] := List.eq_nil_of_length_eq_zero (by omega)
                      rw [this]; exact AF.out.2.2.2.1
                  clear hz
                  generalize decide (0 < X1.length ∧ 0 < Y1.length) = q at hzd
                  subst hzd
                  go_wp2_with fail
                  go_meet
                  exact ⟨_, A2⟩
              case rest =>
                obtain ⟨Z1, hS3⟩ := hcut
                clear hS2
                go_upto_region 43 with fail
                generalize wc = wq at *
                go_cut [213] (fun sc wc => wc = wq ∧ sc = .bool (decide (0 < X2.length ∧ 0 < Y2.length)))
                case first => as_aux_lemma =>
                  by_cases h1 : 0 < X2.length
                  · have d1 : (mid : Int) < (en : Int) := by have := AE.out; omega
                    by_cases h2 : 0 < Y2.length
                    · have d2 : (en : Int) < (c : Int) := by have := AE.out; omega
                      have AZ : Aside (0 < X2.length ∧ 0 < Y2.length) := ⟨h1, h2⟩
                      clear h1 h2
                      go_wp2_with fail
                      go_meet
                      exact ⟨rfl, by rw [decide_eq_true AZ.out]⟩
                    · have d2 : ¬ (en : Int) < (c : Int) := by have := AE.out; omega
                      have AZ : Aside (¬ (0 < X2.length ∧ 0 < Y2.length)) := (show ¬ _ by omega)
                      clear h1 h2
                      go_wp2_with fail
                      go_meet
                      exact ⟨rfl, by rw [decide_eq_false AZ.out]⟩
                  · have d1 : ¬ (mid : Int) < (en : Int) := by have := AE.out; omega
                    have AZ : Aside (¬ (0 < X2.length ∧ 0 < Y2.length)) := (show ¬ _ by omega)
                    clear h1
                    go_wp2_with fail
                    go_meet
                    exact ⟨rfl, by rw [decide_eq_false AZ.out]⟩
                case rest =>
                  obtain ⟨rfl, rfl⟩ := hcut
                  by_cases hz : 0 < X2.length ∧ 0 < Y2.length
                  · as_aux_lemma =>
                    have hzd := decide_eq_true hz
                    have AZ : Aside (0 < X2.length ∧ 0 < Y2.length) := hz
                    clear hz
                    generalize decide (0 < X2.length ∧ 0 < Y2.length) = q at hzd
                    subst hzd
                    go_wp2_with fail
                    refine (HC.out.2.1 (P ++ Z1) X2 Y2 S _ ?_ AZ.out.1 AZ.out.2 AF.out.2.2.1 AF.out.2.2.2.2 AN.out.2.1 AN.out.2.2.2.1 (by simpa using hS3.out.2.2.1) hS3.out.2.2.2 ?_ mid en c ?_ ?_ ?_).mono ?_
                    · have := AB.out; have := AE.out; have := AN.out; omega
                    · have hp := hS3.out.1.length_eq; have := AB.out; have := AE.out; have := AN.out; simp only [List.length_append] at *; omega
                    · have hp := hS3.out.1.length_eq; have := AB.out; have := AE.out; have := AN.out; simp only [List.length_append] at *; omega
                    · have := AE.out; omega
                    · have := AE.out; omega
                    rintro e2 w2 ⟨rfl, Z2, hp2, ho2, hs2, hn2⟩
                    have A2 : Aside (Z2.Perm (X2 ++ Y2) ∧ Ord key Z2 ∧ Sd w2 b (P ++ Z1 ++ Z2 ++ S) ∧ Only b w0 w2) := ⟨hp2, ho2, hs2, hn2⟩
                    clear hp2 ho2 hs2 hn2
                    go_wp2_with fail
                    first | go_end0 | (refine bodyPost_ret (results_none rfl _ _ _) rfl ?_) | go_ret2
                    exact ⟨rfl, Z1 ++ Z2, sym_perm AE.out.2.2.2.2.2.2.1 AE.out.2.2.2.2.2.2.2 hS3.out.1 A2.out.1, ord_app hS3.out.2.1 A2.out.2.1 (fun u hu v hv => AF.out.1 u (hS3.out.1.mem_iff.1 hu) v (A2.out.1.mem_iff.1 hv)), by simpa using A2.out.2.2.1, A2.out.2.2.2⟩
                  · as_aux_lemma =>
                    have hzd := decide_eq_false hz
                    have A2 : Aside ((X2 ++ Y2).Perm (X2 ++ Y2) ∧ Ord key (X2 ++ Y2)) := by
                      refine ⟨List.Perm.refl _, ?_⟩
                      by_cases h2 : 0 < X2.length
                      · have : Y2 = [] := List.eq_nil_of_length_eq_zero (by omega)
                        rw [this, List.append_nil]; exact AF.out.2.2.1
                      · have : X2 = [] := List.eq_nil_of_length_eq_zero (by omega)
                        rw [this]; exact AF.out.2.2.2.2
                    clear hz
                    generalize decide (0 < X2.length ∧ 0 < Y2.length) = q at hzd
                    subst hzd
                    go_wp2_with fail
                    first | go_end0 | (refine bodyPost_ret (results_none rfl _ _ _) rfl ?_) | go_ret2
                    exact ⟨rfl, Z1 ++ (X2 ++ Y2), sym_perm AE.out.2.2.2.2.2.2.1 AE.out.2.2.2.2.2.2.2 hS3.out.1 A2.out.1, ord_app hS3.out.2.1 A2.out.2 (fun u hu v hv => AF.out.1 u (hS3.out.1.mem_iff.1 hu) v hv), by simpa using hS3.out.2.2.1, hS3.out.2.2.2⟩
/-- symMerge of two sorted runs makes one sorted run of them. -/
theorem sym_c (b L cp N : Nat) (key : Nat → Nat) (bx : Value) (w0 : World) (hcm : Cm b bx N key w0) (hcp : L ≤ cp) (hLb : L < 4611686018427387904) : ∀ K, SymAt b L cp N key bx w0 K := by
  intro K
  induction K with
  | zero => intro P X Y S w h; omega
  | succ K ih =>
    intro P X Y S w hK hX0 hY0 hX hY hNX hNY hd hO hL a m c ha hm hc
    by_cases h1 : X.length = 1
    · obtain ⟨x, rfl⟩ := List.length_eq_one_iff.1 h1
      refine (symL_c b L cp N key bx w0 w hcm P x Y S (by simpa using hd) hO (hNX x (by simp)) hNY hY (by simpa using hL) hcp hLb a m c ha (by simpa using hm) hc).mono ?_
      rintro e w' ⟨he, Z, hp, ho, hs, hn⟩
      exact ⟨he, Z, by simpa using hp, ho, hs, hn⟩
    · by_cases h2 : Y.length = 1
      · obtain ⟨y, rfl⟩ := List.length_eq_one_iff.1 h2
        exact symR_c b L cp N key bx w0 w hcm P X y S (by simpa using hd) hO (hNY y (by simp)) hNX hX h1 (by simpa using hL) hcp hLb a m c ha hm (by simpa using hc)
      · exact symB_c b L cp N K key bx w0 hcm hcp hLb ih P X Y S w (by omega) (by omega) (by omega) hX hY hNX hNY hd hO hL a m c ha hm hc
end Go.Proofs.YtbepbjbbhenphabDoor

/-
  How the library's sort sorts a run by insertion: the walk of insertionSort, and what it makes.
  Conditions: the numbers lie in one block, the comparison reads alone, and tells which of two keys is the smaller one.
-/
import Derived.Test.YtbepbjbbhenphabDoorSwap
import Derived.BigQuiet
import Derived.Deep.QuietTactic
namespace Go.Proofs.YtbepbjbbhenphabDoor
open Go.RowKit
set_option linter.unusedVariables false
/-- What cmp.Compare tells. -/
def sg (p q : Nat) : Int := if p < q then -1 else if q < p then 1 else 0
theorem sg_neg {p q : Nat} (h : p < q) : sg p q = -1 := by simp [sg, h]
theorem sg_pos {p q : Nat} (h : ¬ p < q) : decide (sg p q < 0) = false := by
  unfold sg
  rw [if_neg h]
  split <;> decide
theorem sg_lt {p q : Nat} : decide (sg p q < 0) = decide (p < q) := by
  by_cases h : p < q
  · rw [sg_neg h, decide_eq_true h]; decide
  · rw [sg_pos h, decide_eq_false h]
/-- The comparison: it reads alone, in every world in which block b alone has turned. -/
def Cm (b : Nat) (bx : Value) (N : Nat) (key : Nat → Nat) (w0 : World) : Prop :=
  ∀ u, Only b w0 u → ∀ x y : Nat, x < N → y < N → Calls Tryd.prog 26 #[.int .i64 (x : Int), .int .i64 (y : Int), bx] u fun e u' => e = .returned (.int .i64 (sg (key x) (key y))) ∧ ∃ n, u' = u.drewN n
/-- Rising keys. -/
def Ord (key : Nat → Nat) (l : List Nat) : Prop := l.Pairwise fun x y => key x ≤ key y
/-- Two places of a list change in memory. -/
theorem swap_pack {w : World} {b : Nat} {d : List Nat} (hs : Sd w b d) {i j : Nat} (hi : i < d.length) (hj : j < d.length) :
    ∃ x y : Nat, d.getD i 0 = x ∧ d.getD j 0 = y ∧ w.cell? ⟨b, i, none⟩ = some (.int .i64 (x : Int)) ∧ w.cell? ⟨b, j, none⟩ = some (.int .i64 (y : Int)) ∧ w.frozen? ⟨b, i, none⟩ = false ∧ w.frozen? ⟨b, j, none⟩ = false ∧
      (∃ u, (w.setCell ⟨b, i, none⟩ (.int .i64 (y : Int))).cell? ⟨b, j, none⟩ = some u) ∧
      Sd ((w.setCell ⟨b, i, none⟩ (.int .i64 (y : Int))).setCell ⟨b, j, none⟩ (.int .i64 (x : Int))).drew b (sw d i j) ∧
      Only b w ((w.setCell ⟨b, i, none⟩ (.int .i64 (y : Int))).setCell ⟨b, j, none⟩ (.int .i64 (x : Int))).drew := by
  have s1 := hs.set i (d.getD j 0)
  exact ⟨_, _, rfl, rfl, hs.cell (at_lt' hi), hs.cell (at_lt' hj), hs.frozen i, hs.frozen j, ⟨_, s1.cell (at_lt' (by simp; omega))⟩, (s1.set j (d.getD i 0)).drew, (((Only.refl b w).setCell i _).setCell j _).drew⟩
theorem sw_comm (d : List Nat) {i j : Nat} (h : i ≠ j) : sw d i j = sw d j i := by
  unfold sw; exact List.set_comm _ _ h
theorem sw_adj (p : List Nat) (x y : Nat) (s : List Nat) : sw (p ++ x :: y :: s) p.length (p.length + 1) = p ++ y :: x :: s := by
  have := sw_mid p x [] y s
  simpa using this
theorem sw_adj' (p : List Nat) (x y : Nat) (s : List Nat) : sw (p ++ x :: y :: s) (p.length + 1) p.length = p ++ y :: x :: s := by
  rw [sw_comm _ (by omega)]; exact sw_adj p x y s
/-- Where one stands between two runs. -/
theorem ord_mid {key : Nat → Nat} {A B : List Nat} {x : Nat} (h : Ord key (A ++ B)) (hb : ∀ y ∈ B, key x ≤ key y) (ha : ∀ y ∈ A, key y ≤ key x) : Ord key (A ++ x :: B) := by
  unfold Ord at *
  rw [List.pairwise_append] at *
  refine ⟨h.1, List.pairwise_cons.2 ⟨hb, h.2.1⟩, fun y hy z hz => ?_⟩
  rcases List.mem_cons.1 hz with rfl | hz
  · exact ha y hy
  · exact h.2.2 y hy z hz
theorem ord_last {key : Nat → Nat} {A B : List Nat} {y x : Nat} (h : Ord key (A ++ [y] ++ B)) (hyx : key y ≤ key x) : ∀ z ∈ A ++ [y], key z ≤ key x := by
  unfold Ord at h
  rw [List.pairwise_append, List.pairwise_append] at h
  intro z hz
  rcases List.mem_append.1 hz with hz | hz
  · exact Nat.le_trans (h.1.2.2 z hz y (by simp)) hyx
  · rw [List.mem_singleton.1 hz]; exact hyx
set_option maxHeartbeats 2000000 in
theorem insert_c (b L cp N : Nat) (key : Nat → Nat) (bx : Value) (w0 w : World) (hcm : Cm b bx N key w0) (P X S : List Nat) (hd : Sd w b (P ++ X ++ S)) (hO : Only b w0 w) (hN : ∀ x ∈ X, x < N) (hL : P.length + X.length + S.length = L) (hcp : L ≤ cp) (hLb : L < 4611686018427387904)
    (a c : Nat) (ha : a = P.length) (hc : c = P.length + X.length) :
    Calls Tryd.prog 34 #[.slice (some ⟨b, 0, none⟩) L cp, .int .i64 a, .int .i64 c, .func (.func 26) #[] #[bx]] w fun e w' => e = .returned (.tuple #[]) ∧ ∃ Z, Z.Perm X ∧ Ord key Z ∧ Sd w' b (P ++ Z ++ S) ∧ Only b w0 w' := by
  have AB : Aside (P.length + X.length + S.length = L ∧ L ≤ cp ∧ L < 4611686018427387904 ∧ a = P.length ∧ c = P.length + X.length) := ⟨hL, hcp, hLb, ha, hc⟩
  have HC : Aside (Cm b bx N key w0) := hcm
  have HN : Aside (∀ x ∈ X, x < N) := hN
  have w1 : (a : Int) + 1 < 9223372036854775808 := by omega
  clear hcm hN hL hcp hLb ha hc
  go_enter Tryd.func34, Tryd.ntmps34
  go_wp2_with fail
  go_loopg [8] (X.length - 1) (fun g si wr => ∃ (i : Nat) (Z R : List Nat), si = .int .i64 i ∧ Aside (g = R.length ∧ a < i ∧ (Z = [] → R = [] ∧ X = []) ∧ (Z ≠ [] → i = a + Z.length) ∧ (Z ++ R).Perm X ∧ Ord key Z ∧ Sd wr b (P ++ Z ++ R ++ S) ∧ Only b w0 wr))
  case atStart =>
    cases X with
    | nil => exact ⟨a + 1, [], [], by go_num, ⟨rfl, by omega, fun _ => ⟨rfl, rfl⟩, fun h => absurd rfl h, List.Perm.refl _, List.Pairwise.nil, by simpa using hd, hO⟩⟩
    | cons x X => exact ⟨a + 1, [x], X, by go_num, ⟨rfl, by omega, (fun h => by cases h), fun _ => rfl, List.Perm.refl _, List.pairwise_singleton _ _, by simpa using hd, hO⟩⟩
  case round =>
    obtain ⟨i, Z, R, rfl, hA⟩ := hrel
    cases R with
    | nil =>
      have hlt : ¬ (i : Int) < (c : Int) := by
        obtain ⟨h1, h2, h3, h4, h5, h6, h7, h8⟩ := hA.out
        have hb := AB.out
        have hp := h5.length_eq
        simp at hp
        by_cases hz : Z = []
        · subst hz; simp at hp; omega
        · have := h4 hz; omega
      go_wp2_with fail
      first | go_end0 | (refine bodyPost_ret (results_none rfl _ _ _) rfl ?_)
      obtain ⟨h1, h2, h3, h4, h5, h6, h7, h8⟩ := hA.out
      exact ⟨rfl, Z, by simpa using h5, h6, by simpa using h7, h8⟩
    | cons x R =>
      have hZ : Z ≠ [] := fun h => by have := (hA.out.2.2.1 h).1; cases this
      have hi : i = a + Z.length := hA.out.2.2.2.1 hZ
      have hlt : (i : Int) < (c : Int) := by
        obtain ⟨h1, h2, h3, h4, h5, h6, h7, h8⟩ := hA.out
        have hb := AB.out
        have hp := h5.length_eq
        simp at hp
        omega
      have hic : (i : Int) < 4611686018427387904 := by have := AB.out; omega
      have AI : Aside (i = a + Z.length ∧ i < c ∧ c ≤ L ∧ L < 4611686018427387904) := ⟨hi, by omega, by have := AB.out; omega, AB.out.2.2.1⟩
      clear hi
      go_wp2_with fail
      go_loopg [9] Z.length (fun g sj wr2 => ∃ (j : Nat) (A B : List Nat), sj = .int .i64 j ∧ Aside (g = A.length ∧ j = a + A.length ∧ Z = A ++ B ∧ (∀ y ∈ B, key x ≤ key y) ∧ Sd wr2 b (P ++ A ++ x :: (B ++ R ++ S)) ∧ Only b w0 wr2))
      case atStart =>
        obtain ⟨h1, h2, h3, h4, h5, h6, h7, h8⟩ := hA.out
        exact ⟨i, Z, [], rfl, ⟨rfl, AI.out.1, by simp, by simp, by simpa using h7, h8⟩⟩
      case round =>
        obtain ⟨j, A, B, rfl, hJ⟩ := hrel
        -- what is left behind the inner loop
        have out : (∀ y ∈ A, key y ≤ key x) → Aside (a < i + 1 ∧ (A ++ x :: B = [] → R = [] ∧ X = []) ∧ (A ++ x :: B ≠ [] → i + 1 = a + (A ++ x :: B).length) ∧ (A ++ x :: B ++ R).Perm X ∧ Ord key (A ++ x :: B) ∧ Only b w0 wr) := by
          intro hy
          obtain ⟨h1, h2, h3, h4, h5, h6, h7, h8⟩ := hA.out
          obtain ⟨g1, g2, g3, g4, g5, g6⟩ := hJ.out
          have hz : Z.length = A.length + B.length := by rw [g3]; simp
          refine ⟨by omega, (fun h => by simp at h), fun _ => ?_, ?_, ord_mid (by rw [← g3]; exact h6) g4 hy, g6⟩
          · have := AI.out.1; simp; omega
          · refine List.Perm.trans ?_ h5
            rw [g3]
            simp only [List.append_assoc, List.cons_append]
            exact List.Perm.append_left A List.perm_middle.symm
        rcases List.eq_nil_or_concat A with rfl | ⟨A', y, rfl⟩
        · have hja : decide (a < j) = false := decide_eq_false (by have := hJ.out.2.1; simp at this; omega)
          have hS : Aside (Sd wr b (P ++ [] ++ x :: (B ++ R ++ S))) := hJ.out.2.2.2.2.1
          have hE := out (by simp)
          clear out hJ hlt
          go_wp2_with fail
          go_quiet (fail)
          go_wp2_with fail
          go_roundg (R.length)
          case measure => have := hA.out.1; simp at this; omega
          case rel =>
            obtain ⟨e2, e3, e4, e5, e6, e7⟩ := hE.out
            exact ⟨i + 1, _, R, by go_num, ⟨rfl, e2, e3, e4, e5, e6, by simpa using hS.out.drewN _, e7.drewN _⟩⟩
        · obtain ⟨q, hq⟩ : ∃ q, q = a + A'.length := ⟨_, rfl⟩
          have hjq : j = q + 1 := by have := hJ.out.2.1; simp at this; omega
          subst hjq
          have hja : decide (a < q + 1) = true := decide_eq_true (by omega)
          have hD : P ++ A'.concat y ++ x :: (B ++ R ++ S) = (P ++ A') ++ y :: x :: (B ++ R ++ S) := by simp
          have hPA : (P ++ A').length = q := by have := AB.out; rw [List.length_append]; omega
          have hqL : q + 1 < L := by
            have hb := AB.out; have hi := AI.out; have := hJ.out.2.2.1
            have hz : Z.length = A'.length + 1 + B.length := by rw [this]; simp; omega
            omega
          have AQ : Aside (q + 1 < L ∧ L < 4611686018427387904) := ⟨hqL, AB.out.2.2.1⟩
          have hx1 : (P ++ A'.concat y ++ x :: (B ++ R ++ S))[q + 1]? = some x := by rw [hD, ← hPA, List.getElem?_append_right (by omega)]; simp
          have hy1 : (P ++ A'.concat y ++ x :: (B ++ R ++ S))[q]? = some y := by rw [hD, ← hPA, List.getElem?_append_right (by omega)]; simp
          have cx := hJ.out.2.2.2.2.1.cell hx1
          have cy := hJ.out.2.2.2.2.1.cell hy1
          have hxX : x ∈ X := hA.out.2.2.2.2.1.mem_iff.1 (by simp)
          have hyX : y ∈ X := hA.out.2.2.2.2.1.mem_iff.1 (by rw [hJ.out.2.2.1]; simp)
          have hOw : Only b w0 wr := hJ.out.2.2.2.2.2
          have hc := fun u hu => HC.out u hu x y (HN.out x hxX) (HN.out y hyX)
          have hqi : (q : Int) + 1 < (L : Int) := by omega
          have p0 : (0 : Int) ≤ (q : Int) + 1 := by omega
          have e0 : ((q : Int) + 1).toNat = q + 1 := by omega
          have hqi2 : (q : Int) < (L : Int) := by omega
          have AH : Aside (a < q + 1) := (show a < q + 1 by omega)
          have wq : IntKind.i64.wrap (q : Int) = (q : Int) := by have := AQ.out; rw [IntKind.wrap_i64]; omega
          have hja2 : decide ((a : Int) < (q : Int) + 1) = true := decide_eq_true (by omega)
          have APA : Aside ((P ++ A').length = q ∧ q = a + A'.length) := ⟨hPA, hq⟩
          clear hxX hyX hx1 hy1 hlt hq hPA hD hqL
          by_cases hk : key x < key y
          · have hsd : decide (sg (key x) (key y) < 0) = true := by rw [sg_lt]; exact decide_eq_true hk
            have AK : Aside (key x < key y) := hk
            obtain ⟨v, hv⟩ : ∃ v, sg (key x) (key y) = v := ⟨_, rfl⟩
            rw [hv] at hc hsd
            clear hk out hv
            go_wp2_with fail
            go_quiet (first | (go_at_call 26; refine Calls.quiet_of (hc _ ?_); first | exact hOw.drewN _ | exact hOw))
            clear cx cy hc
            have hS0 : Sd (wr.drewN nq) b (P ++ A'.concat y ++ x :: (B ++ R ++ S)) := hJ.out.2.2.2.2.1.drewN nq
            have hO0 : Only b w0 (wr.drewN nq) := hJ.out.2.2.2.2.2.drewN nq
            have hlen : (P ++ A'.concat y ++ x :: (B ++ R ++ S)).length = q + 2 + (B ++ R ++ S).length := by
              have := APA.out.1
              simp only [List.length_append] at this
              simp only [List.length_append, List.concat_eq_append, List.length_cons, List.length_nil]
              omega
            have hsw : sw (P ++ A'.concat y ++ x :: (B ++ R ++ S)) (q + 1) q = P ++ A' ++ x :: (y :: B ++ R ++ S) := by
              have := sw_adj' (P ++ A') y x (B ++ R ++ S)
              rw [APA.out.1] at this
              rw [show P ++ A'.concat y ++ x :: (B ++ R ++ S) = (P ++ A') ++ y :: x :: (B ++ R ++ S) by simp, this]; simp
            obtain ⟨x1, y1, hx1, hy1, cx, cy, fx, fy, ⟨u, cu⟩, S3, O3⟩ := swap_pack hS0 (i := q + 1) (j := q) (by omega) (by omega)
            rw [hsw] at S3
            have S4 : Aside (Sd (((wr.drewN nq).setCell ⟨b, q + 1, none⟩ (.int .i64 (y1 : Int))).setCell ⟨b, q, none⟩ (.int .i64 (x1 : Int))).drew b (P ++ A' ++ x :: (y :: B ++ R ++ S))) := S3
            have O4 : Aside (Only b w0 (((wr.drewN nq).setCell ⟨b, q + 1, none⟩ (.int .i64 (y1 : Int))).setCell ⟨b, q, none⟩ (.int .i64 (x1 : Int))).drew) := hO0.trans O3
            clear S3 O3 hx1 hy1 hsw hlen hS0 hO0
            generalize wr.drewN nq = w2 at *
            go_wp2_with fail
            go_region
            clear cx cy cu fx fy
            generalize ((w2.setCell ⟨b, q + 1, none⟩ (.int .i64 (y1 : Int))).setCell ⟨b, q, none⟩ (.int .i64 (x1 : Int))).drew = w3 at S4 O4 ⊢
            go_wp2_with fail
            go_roundg (A'.length)
            case measure => have := hJ.out.1; simp at this; omega
            case rel =>
              obtain ⟨g1, g2, g3, g4, g5, g6⟩ := hJ.out
              refine ⟨q, A', y :: B, by first | rfl | go_num, ⟨rfl, APA.out.2, by rw [g3]; simp, ?_, S4.out, O4.out⟩⟩
              intro z hz
              rcases List.mem_cons.1 hz with rfl | hz
              · exact Nat.le_of_lt AK.out
              · exact g4 z hz
          · have hE := out (fun z hz => by
              have h6 := hA.out.2.2.2.2.2.1
              rw [hJ.out.2.2.1, List.concat_eq_append] at h6
              rw [List.concat_eq_append] at hz
              exact ord_last h6 (by omega) z hz)
            have hsd : decide (sg (key x) (key y) < 0) = false := by rw [sg_lt]; exact decide_eq_false hk
            obtain ⟨v, hv⟩ : ∃ v, sg (key x) (key y) = v := ⟨_, rfl⟩
            rw [hv] at hc hsd
            have hS : Aside (Sd wr b (P ++ A'.concat y ++ x :: (B ++ R ++ S))) := hJ.out.2.2.2.2.1
            clear hk out hv hJ
            go_wp2_with fail
            go_quiet (first | (go_at_call 26; refine Calls.quiet_of (hc _ ?_); first | exact hOw.drewN _ | exact hOw))
            go_wp2_with fail
            go_roundg (R.length)
            case measure => have := hA.out.1; simp at this; omega
            case rel =>
              obtain ⟨e2, e3, e4, e5, e6, e7⟩ := hE.out
              exact ⟨i + 1, _, R, by go_num, ⟨rfl, e2, e3, e4, e5, e6, by simpa using hS.out.drewN _, e7.drewN _⟩⟩
end Go.Proofs.YtbepbjbbhenphabDoor

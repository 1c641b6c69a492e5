/-
  How the library's stable sort sorts a list whole: the walks of stable and SortStableFunc.
  Conditions: the numbers lie in one block, the comparison reads alone.
-/
import Derived.Test.YtbepbjbbhenphabDoorSym
namespace Go.Proofs.YtbepbjbbhenphabDoor
open Go.RowKit
set_option linter.unusedVariables false
/-- Sorted blocks of one size, and a shorter one behind them. -/
def Blk (key : Nat → Nat) (z : Nat) (d : List Nat) : Prop := ∃ (Bs : List (List Nat)) (t : List Nat), d = Bs.flatten ++ t ∧ (∀ B ∈ Bs, B.length = z ∧ Ord key B) ∧ t.length < z ∧ Ord key t
theorem flat_len {z : Nat} : ∀ {Bs : List (List Nat)}, (∀ B ∈ Bs, B.length = z) → Bs.flatten.length = Bs.length * z
  | [], _ => by simp
  | B :: Bs, h => by
    rw [List.flatten_cons, List.length_append, h B (by simp), flat_len (fun C hC => h C (by simp [hC])), List.length_cons, Nat.add_mul]; omega
theorem Blk.all {key : Nat → Nat} {z : Nat} {d : List Nat} (h : Blk key z d) (hz : d.length ≤ z) : Ord key d := by
  obtain ⟨Bs, t, rfl, hB, ht, ho⟩ := h
  have hl := flat_len (fun B hB' => (hB B hB').1)
  rw [List.length_append, hl] at hz
  match Bs, hB, hz with
  | [], _, _ => simpa using ho
  | [B], hB, hz =>
    simp at hz
    have ht0 : t = [] := List.eq_nil_of_length_eq_zero (by omega)
    subst ht0
    have := (hB B (by simp)).2
    simpa using this
  | B :: C :: Bs, _, hz =>
    simp only [List.length_cons, Nat.add_mul] at hz
    omega
set_option maxRecDepth 100000 in
set_option maxHeartbeats 4000000 in
theorem stable_c (b L cp N : Nat) (key : Nat → Nat) (bx : Value) (w : World) (hcm : Cm b bx N key w) (d : List Nat) (hd : Sd w b d) (hN : ∀ x ∈ d, x < N) (hL : d.length = L) (hcp : L ≤ cp) (hLb : L < 1073741824) :
    Calls Tryd.prog 31 #[.slice (some ⟨b, 0, none⟩) L cp, .int .i64 L, .func (.func 26) #[] #[bx]] w fun e w' => e = .returned (.tuple #[]) ∧ ∃ Z, Z.Perm d ∧ Ord key Z ∧ Sd w' b Z ∧ Only b w w' := by
  have AB : Aside (d.length = L ∧ L ≤ cp ∧ L < 1073741824 ∧ (∀ x ∈ d, x < N) ∧ Cm b bx N key w) := ⟨hL, hcp, hLb, hN, hcm⟩
  have hD : Aside (Sd w b d) := hd
  have zL : (L : Int) < 1073741824 := by omega
  clear hcm hd hN hL hcp hLb
  go_enter Tryd.func31, Tryd.ntmps31
  go_wp2_with fail
  go_loopg [7, 8] L (fun g sa sb wr => ∃ (a c : Nat) (Bs : List (List Nat)) (r : List Nat), sa = .int .i64 a ∧ sb = .int .i64 c ∧ Aside (c = a + 20 ∧ a + g = L ∧ Bs.flatten.length = a ∧ a + r.length = L ∧ (∀ B ∈ Bs, B.length = 20 ∧ Ord key B) ∧ (Bs.flatten ++ r).Perm d ∧ Sd wr b (Bs.flatten ++ r) ∧ Only b w wr))
  case atStart => exact ⟨0, 20, [], d, rfl, rfl, ⟨rfl, by omega, rfl, by have := AB.out; omega, (fun B hB => by cases hB), by simp, by simpa using hD.out, Only.refl b w⟩⟩
  case round =>
    clear hD
    obtain ⟨a, c, Bs, r, rfl, rfl, hA⟩ := hrel
    by_cases hc : c ≤ L
    · have hci : (c : Int) ≤ (L : Int) := by omega
      obtain ⟨X, hX⟩ : ∃ X, X = r.take 20 := ⟨_, rfl⟩
      obtain ⟨S, hS⟩ : ∃ S, S = r.drop 20 := ⟨_, rfl⟩
      have hr : r = X ++ S := by rw [hX, hS, List.take_append_drop]
      have hXl : X.length = 20 := by have := hA.out; rw [hX, List.length_take]; omega
      have hSl : S.length = r.length - 20 := by rw [hS, List.length_drop]
      have AX : Aside (r = X ++ S ∧ X.length = 20 ∧ S.length = r.length - 20 ∧ c ≤ L) := ⟨hr, hXl, hSl, hc⟩
      clear hX hS hr hXl hSl hc
      have hins := insert_c b L cp N key bx w wr AB.out.2.2.2.2 Bs.flatten X S (by have := hA.out.2.2.2.2.2.2.1; rw [AX.out.1] at this; simpa using this) hA.out.2.2.2.2.2.2.2
        (fun x hx => AB.out.2.2.2.1 x (hA.out.2.2.2.2.2.1.mem_iff.1 (List.mem_append_right _ (by rw [AX.out.1]; exact List.mem_append_left _ hx)))) (by have := hA.out; have := AX.out; omega) AB.out.2.1 (by have := AB.out; omega) a c (by have := hA.out; omega) (by have := hA.out; have := AX.out; omega)
      have hcb : (c : Int) + 20 < 9223372036854775808 := by omega
      go_wp2_with (go_at_call 34; refine hins.mono ?_; rintro e2 w2 ⟨rfl, Z, hp2, ho2, hs2, hn2⟩)
      have A2 : Aside (Z.Perm X ∧ Ord key Z ∧ Sd w2 b (Bs.flatten ++ Z ++ S) ∧ Only b w w2) := ⟨hp2, ho2, hs2, hn2⟩
      clear hp2 ho2 hs2 hn2 hins
      go_roundg (L - c)
      case measure => have := hA.out; have := AX.out; omega
      case rel =>
        obtain ⟨g1, g2, g3, g4, g5, g6, g7, g8⟩ := hA.out
        obtain ⟨q1, q2, q3, q4⟩ := AX.out
        obtain ⟨z1, z2, z3, z4⟩ := A2.out
        have hzl := z1.length_eq
        refine ⟨c, c + 20, Bs ++ [Z], S, rfl, by go_num, ⟨rfl, by omega, by simp only [List.flatten_append, List.flatten_cons, List.flatten_nil, List.append_nil, List.length_append]; omega, by omega, ?_, ?_, by simpa using z3, z4⟩⟩
        · intro B hB
          rcases List.mem_append.1 hB with hB | hB
          · exact g5 B hB
          · rw [List.mem_singleton.1 hB]; exact ⟨by omega, z2⟩
        · refine List.Perm.trans ?_ g6
          rw [q1]
          simp only [List.flatten_append, List.flatten_cons, List.flatten_nil, List.append_nil, List.append_assoc]
          exact List.Perm.append_left _ (z1.append_right S)
    · have hci : ¬ (c : Int) ≤ (L : Int) := by omega
      have AX : Aside (L < c) := (show L < c by omega)
      clear hc
      have hins := insert_c b L cp N key bx w wr AB.out.2.2.2.2 Bs.flatten r [] (by simpa using hA.out.2.2.2.2.2.2.1) hA.out.2.2.2.2.2.2.2
        (fun x hx => AB.out.2.2.2.1 x (hA.out.2.2.2.2.2.1.mem_iff.1 (List.mem_append_right _ hx))) (by have := hA.out; simp only [List.length_nil]; omega) AB.out.2.1 (by have := AB.out; omega) a L (by have := hA.out; omega) (by have := hA.out; omega)
      go_wp2_with (go_at_call 34; refine hins.mono ?_; rintro e2 w2 ⟨rfl, Z, hp2, ho2, hs2, hn2⟩)
      have A2 : Aside (Blk key 20 (Bs.flatten ++ Z) ∧ (Bs.flatten ++ Z).Perm d ∧ Sd w2 b (Bs.flatten ++ Z) ∧ Only b w w2) := by
        obtain ⟨g1, g2, g3, g4, g5, g6, g7, g8⟩ := hA.out
        have := AX.out
        have hzl := hp2.length_eq
        exact ⟨⟨Bs, Z, rfl, g5, by omega, ho2⟩, (List.Perm.append_left _ hp2).trans g6, by simpa using hs2, hn2⟩
      clear hp2 ho2 hs2 hn2 hins hA AX
      go_loopg [6] (L - 20) (fun g sz wr => ∃ (z : Nat) (dz : List Nat), sz = .int .i64 z ∧ Aside (g = L - z ∧ 0 < z ∧ z < 4294967296 ∧ Blk key z dz ∧ dz.Perm d ∧ Sd wr b dz ∧ Only b w wr))
      case atStart => exact ⟨20, _, rfl, ⟨rfl, by omega, by omega, A2.out⟩⟩
      case round =>
        clear A2
        obtain ⟨z, dz, rfl, hB⟩ := hrel
        by_cases hzL : z < L
        · have hzi : (z : Int) < (L : Int) := by omega
          have z2 : 2 * (z : Int) < 9223372036854775808 := by omega
          have AZ : Aside (z < L) := hzL
          clear hzL
          go_wp2_with fail
          go_loopg [7, 8] L (fun g sa sc wr => ∃ (a c : Nat) (Cs Bs : List (List Nat)) (t : List Nat), sa = .int .i64 a ∧ sc = .int .i64 c ∧ Aside (c = a + 2 * z ∧ a + g = L ∧ Cs.flatten.length = a ∧ a + Bs.flatten.length + t.length = L ∧ (∀ B ∈ Cs, B.length = 2 * z ∧ Ord key B) ∧ (∀ B ∈ Bs, B.length = z ∧ Ord key B) ∧ t.length < z ∧ Ord key t ∧ (Cs.flatten ++ (Bs.flatten ++ t)).Perm d ∧ Sd wr b (Cs.flatten ++ (Bs.flatten ++ t)) ∧ Only b w wr))
          case atStart =>
            obtain ⟨g1, g2, g3, ⟨Bs, t, e1, e2, e3, e4⟩, g5, g6, g7⟩ := hB.out
            subst e1
            have hlen := g5.length_eq
            rw [List.length_append] at hlen
            exact ⟨0, 2 * z, [], Bs, t, rfl, by first | rfl | go_num | (congr 1), ⟨by omega, by omega, rfl, by have := AB.out; omega, (fun B hB => by cases hB), e2, e3, e4, by simpa using g5, by simpa using g6, g7⟩⟩
          case round =>
            obtain ⟨a, c, Cs, Bs, t, rfl, rfl, hK⟩ := hrel
            by_cases hcL : c ≤ L
            · have hci : (c : Int) ≤ (L : Int) := by omega
              obtain ⟨X, Y, Bs', hBs⟩ : ∃ X Y Bs', Bs = X :: Y :: Bs' := by
                obtain ⟨k1, k2, k3, k4, k5, k6, k7, k8, k9, k10, k11⟩ := hK.out
                have hl := flat_len (fun B hB' => (k6 B hB').1)
                match Bs, hl with
                | [], hl => simp at hl k4; omega
                | [B], hl => simp at hl; simp at k4; omega
                | X :: Y :: Bs', _ => exact ⟨X, Y, Bs', rfl⟩
              subst hBs
              have hXl : X.length = z := (hK.out.2.2.2.2.2.1 X (by simp)).1
              have hYl : Y.length = z := (hK.out.2.2.2.2.2.1 Y (by simp)).1
              have hfl : (X :: Y :: Bs').flatten.length = X.length + (Y.length + Bs'.flatten.length) := by simp only [List.flatten_cons, List.length_append]
              have hmem : ∀ x ∈ X ++ Y, x < N := fun x hx => AB.out.2.2.2.1 x (hK.out.2.2.2.2.2.2.2.2.1.mem_iff.1 (List.mem_append_right _ (List.mem_append_left _ (by
                rw [List.flatten_cons, List.flatten_cons, ← List.append_assoc]; exact List.mem_append_left _ hx))))
              obtain ⟨m, hm⟩ : ∃ m, m = a + z := ⟨_, rfl⟩
              have hsym := sym_c b L cp N key bx w AB.out.2.2.2.2 AB.out.2.1 (by have := AB.out; omega) (2 * z + 1) Cs.flatten X Y (Bs'.flatten ++ t) wr (by omega) (by have := hB.out; omega) (by have := hB.out; omega) (hK.out.2.2.2.2.2.1 X (by simp)).2 (hK.out.2.2.2.2.2.1 Y (by simp)).2
                (fun x hx => hmem x (List.mem_append_left _ hx)) (fun x hx => hmem x (List.mem_append_right _ hx)) (by simpa using hK.out.2.2.2.2.2.2.2.2.2.1) hK.out.2.2.2.2.2.2.2.2.2.2 (by have := hK.out; rw [List.length_append]; omega) a m c (by have := hK.out; omega) (by omega) (by have := hK.out; omega)
              have AC : Aside (c ≤ L ∧ X.length = z ∧ Y.length = z ∧ (X :: Y :: Bs').flatten.length = X.length + (Y.length + Bs'.flatten.length)) := ⟨hcL, hXl, hYl, hfl⟩
              have hz0 := hB.out.2.1
              have q1 : (a : Int) + (z : Int) = (m : Int) := by omega
              have q3 : (m : Int) < 9223372036854775808 := by have := hK.out; omega
              have q2 : (c : Int) + 2 * (z : Int) < 9223372036854775808 := by omega
              clear hcL hXl hYl hfl hmem hm
              go_wp2_with (go_at_call 35; refine hsym.mono ?_; rintro e2 w2 ⟨rfl, Z, hp2, ho2, hs2, hn2⟩)
              have A2 : Aside (Z.Perm (X ++ Y) ∧ Ord key Z ∧ Sd w2 b (Cs.flatten ++ Z ++ (Bs'.flatten ++ t)) ∧ Only b w w2) := ⟨hp2, ho2, hs2, hn2⟩
              clear hp2 ho2 hs2 hn2 hsym
              go_roundg (L - c)
              case measure => have := hK.out; have := AC.out; omega
              case rel =>
                obtain ⟨k1, k2, k3, k4, k5, k6, k7, k8, k9, k10, k11⟩ := hK.out
                obtain ⟨c1, c2, c3, c4⟩ := AC.out
                obtain ⟨y1, y2, y3, y4⟩ := A2.out
                have hzl := y1.length_eq
                rw [List.length_append] at hzl
                refine ⟨c, c + 2 * z, Cs ++ [Z], Bs', t, rfl, by first | rfl | go_num | (congr 1), ⟨rfl, by omega, ?_, by omega, ?_, fun B hB' => k6 B (by simp [hB']), k7, k8, ?_, by simpa using y3, y4⟩⟩
                · simp only [List.flatten_append, List.flatten_cons, List.flatten_nil, List.append_nil, List.length_append]; omega
                · intro B hB'
                  rcases List.mem_append.1 hB' with hB' | hB'
                  · exact k5 B hB'
                  · rw [List.mem_singleton.1 hB']; exact ⟨by omega, y2⟩
                · refine List.Perm.trans ?_ k9
                  simp only [List.flatten_append, List.flatten_cons, List.flatten_nil, List.append_nil, List.append_assoc]
                  refine List.Perm.append_left _ ?_
                  rw [← List.append_assoc X]
                  exact y1.append_right _
            · have hci : ¬ (c : Int) ≤ (L : Int) := by omega
              have AC : Aside (L < c) := (show L < c by omega)
              clear hcL
              have hl := flat_len (fun B hB' => (hK.out.2.2.2.2.2.1 B hB').1)
              match Bs, hl, hK with
              | [], hl, hK =>
                have hm : ¬ (a : Int) + (z : Int) < (L : Int) := by have := hK.out; simp at this; omega
                have q1 : (a : Int) + (z : Int) < 9223372036854775808 := by have := hK.out; omega
                have q3 : (z : Int) * 2 < 9223372036854775808 := by omega
                clear hl
                go_wp2_with fail
                have hb := hB.out; have hz := AZ.out
                go_roundg (L - 2 * z)
                case measure => omega
                case rel =>
                  obtain ⟨k1, k2, k3, k4, k5, k6, k7, k8, k9, k10, k11⟩ := hK.out
                  exact ⟨2 * z, Cs.flatten ++ t, by first | go_num | (congr 1; omega), ⟨rfl, by omega, by have := AB.out; omega, ⟨Cs, t, rfl, k5, by omega, k8⟩, by simpa using k9, by simpa using k10, k11⟩⟩
              | [X], hl, hK =>
                by_cases ht0 : t = []
                · subst ht0
                  have hm : ¬ (a : Int) + (z : Int) < (L : Int) := by have := hK.out; simp at this hl; omega
                  have q1 : (a : Int) + (z : Int) < 9223372036854775808 := by have := hK.out; omega
                  have q3 : (z : Int) * 2 < 9223372036854775808 := by omega
                  clear hl
                  go_wp2_with fail
                  have hb := hB.out; have hz := AZ.out
                  go_roundg (L - 2 * z)
                  case measure => omega
                  case rel =>
                    obtain ⟨k1, k2, k3, k4, k5, k6, k7, k8, k9, k10, k11⟩ := hK.out
                    have hx := k6 X (by simp)
                    exact ⟨2 * z, Cs.flatten ++ X, by first | go_num | (congr 1; omega), ⟨rfl, by omega, by have := AB.out; omega, ⟨Cs, X, rfl, k5, by omega, hx.2⟩, by simpa using k9, by simpa using k10, k11⟩⟩
                · have htl : 0 < t.length := List.length_pos_iff.2 ht0
                  have hx := hK.out.2.2.2.2.2.1 X (by simp)
                  obtain ⟨m, hm⟩ : ∃ m, m = a + z := ⟨_, rfl⟩
                  have hfl : [X].flatten.length = X.length := by simp
                  have hsym := sym_c b L cp N key bx w AB.out.2.2.2.2 AB.out.2.1 (by have := AB.out; omega) (2 * z + 1) Cs.flatten X t [] wr (by have := hK.out; omega) (by have := hB.out; omega) htl hx.2 hK.out.2.2.2.2.2.2.2.1
                    (fun x hx => AB.out.2.2.2.1 x (hK.out.2.2.2.2.2.2.2.2.1.mem_iff.1 (List.mem_append_right _ (List.mem_append_left _ (by simpa using hx))))) (fun x hx => AB.out.2.2.2.1 x (hK.out.2.2.2.2.2.2.2.2.1.mem_iff.1 (List.mem_append_right _ (List.mem_append_right _ hx)))) (by simpa using hK.out.2.2.2.2.2.2.2.2.2.1) hK.out.2.2.2.2.2.2.2.2.2.2 (by have := hK.out; simp only [List.length_nil]; omega) a m L (by have := hK.out; omega) (by omega) (by have := hK.out; omega)
                  have q1 : (a : Int) + (z : Int) = (m : Int) := by omega
                  have q4 : (m : Int) < 9223372036854775808 := by have := hK.out; omega
                  have hmL : (m : Int) < (L : Int) := by have := hK.out; omega
                  have q3 : (z : Int) * 2 < 9223372036854775808 := by omega
                  have AX : Aside (X.length = z) := hx.1
                  clear hl hm hfl hx htl ht0
                  go_wp2_with (go_at_call 35; refine hsym.mono ?_; rintro e2 w2 ⟨rfl, Z, hp2, ho2, hs2, hn2⟩)
                  have A2 : Aside (Z.Perm (X ++ t) ∧ Ord key Z ∧ Sd w2 b (Cs.flatten ++ Z ++ []) ∧ Only b w w2) := ⟨hp2, ho2, hs2, hn2⟩
                  clear hp2 ho2 hs2 hn2 hsym
                  have hb := hB.out; have hz := AZ.out
                  go_roundg (L - 2 * z)
                  case measure => omega
                  case rel =>
                    obtain ⟨k1, k2, k3, k4, k5, k6, k7, k8, k9, k10, k11⟩ := hK.out
                    obtain ⟨y1, y2, y3, y4⟩ := A2.out
                    have hzl := y1.length_eq
                    rw [List.length_append] at hzl
                    have := AX.out
                    exact ⟨2 * z, Cs.flatten ++ Z, by first | go_num | (congr 1; omega), ⟨rfl, by omega, by have := AB.out; omega, ⟨Cs, Z, rfl, k5, by omega, y2⟩, (List.Perm.append_left _ y1).trans (by simpa using k9), by simpa using y3, y4⟩⟩
              | X :: Y :: Bs', hl, hK =>
                exfalso
                obtain ⟨k1, k2, k3, k4, k5, k6, k7, k8, k9, k10, k11⟩ := hK.out
                have := AC.out
                simp only [List.length_cons, Nat.add_mul] at hl
                omega
        · have hzi : ¬ (z : Int) < (L : Int) := by omega
          go_wp2_with fail
          first | go_end0 | (refine bodyPost_ret (results_none rfl _ _ _) rfl ?_) | go_ret2
          obtain ⟨g1, g2, g3, g4, g5, g6, g7⟩ := hB.out
          exact ⟨rfl, dz, g5, g4.all (by have := g5.length_eq; have := AB.out; omega), g6, g7⟩
theorem sort_c (b L cp N : Nat) (key : Nat → Nat) (bx : Value) (w : World) (hcm : Cm b bx N key w) (d : List Nat) (hd : Sd w b d) (hN : ∀ x ∈ d, x < N) (hL : d.length = L) (hcp : L ≤ cp) (hLb : L < 1073741824) :
    Calls Tryd.prog 25 #[.slice (some ⟨b, 0, none⟩) L cp, .func (.func 26) #[] #[bx]] w fun e w' => e = .returned (.tuple #[]) ∧ ∃ Z, Z.Perm d ∧ Ord key Z ∧ Sd w' b Z ∧ Only b w w' := by
  have hc := stable_c b L cp N key bx w hcm d hd hN hL hcp hLb
  clear hcm hd hN hL hcp hLb
  go_enter Tryd.func25, Tryd.ntmps25
  go_wp2_with (go_at_call 31; refine hc.mono ?_; rintro e2 w2 ⟨rfl, Z, hp2, ho2, hs2, hn2⟩)
  first | go_end0 | (refine bodyPost_ret (results_none rfl _ _ _) rfl ?_) | go_ret2
  exact ⟨rfl, Z, hp2, ho2, hs2, hn2⟩
end Go.Proofs.YtbepbjbbhenphabDoor

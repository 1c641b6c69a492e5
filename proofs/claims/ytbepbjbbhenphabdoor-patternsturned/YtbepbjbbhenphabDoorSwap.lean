/-
  How the library's sort swaps two runs of a list, and turns a list round: the walks of swapRange and rotate, and what they make.
  Conditions: the numbers lie in one block, and the runs within it.
-/
import Derived.Test.YtbepbjbbhenphabDoorProg
import Derived.Test.YtbepbjbbhenphabDoorMem
import Derived.WalkSpells
import Derived.Deep.LoopGhost
import Derived.BigRegion
import Derived.WalkMore
namespace Go.Proofs.YtbepbjbbhenphabDoor
open Go.RowKit
set_option linter.unusedVariables false
/-- Numbers as values. -/
def vi (d : List Nat) : List Value := d.map fun x : Nat => Value.int .i64 (x : Int)
theorem vi_get (d : List Nat) (i : Nat) : (vi d)[i]? = (d[i]?).map fun x : Nat => Value.int .i64 (x : Int) := by simp [vi]
theorem vi_len (d : List Nat) : (vi d).length = d.length := by simp [vi]
/-- Block b holds these numbers. -/
def Sd (w : World) (b : Nat) (d : List Nat) : Prop := Cells w b (vi d).toArray 3
theorem Sd.cell {w : World} {b : Nat} {d : List Nat} (h : Sd w b d) {i x : Nat} (hx : d[i]? = some x) : w.cell? ⟨b, i, none⟩ = some (.int .i64 (x : Int)) := by
  rw [Cells.cell h]; simp [vi_get, hx]
theorem Sd.frozen {w : World} {b : Nat} {d : List Nat} (h : Sd w b d) (i : Nat) : w.frozen? ⟨b, i, none⟩ = false := Cells.frozen h i
theorem Sd.set {w : World} {b : Nat} {d : List Nat} (h : Sd w b d) (i x : Nat) : Sd (w.setCell ⟨b, i, none⟩ (.int .i64 (x : Int))) b (d.set i x) := by
  have := Cells.set h i (.int .i64 (x : Int))
  unfold Sd
  have e : (vi (d.set i x)).toArray = (vi d).toArray.setIfInBounds i (.int .i64 (x : Int)) := by
    simp [vi, List.map_set]
  rw [e]; exact this
theorem Sd.drew {w : World} {b : Nat} {d : List Nat} (h : Sd w b d) : Sd w.drew b d := h
theorem Sd.drewN {w : World} {b : Nat} {d : List Nat} (h : Sd w b d) (n : Nat) : Sd (w.drewN n) b d := h
/-- Two places change. -/
def sw (d : List Nat) (i j : Nat) : List Nat := (d.set i (d.getD j 0)).set j (d.getD i 0)
theorem sw_len (d : List Nat) (i j : Nat) : (sw d i j).length = d.length := by simp [sw]
theorem getD_at {d : List Nat} {i x : Nat} (h : d[i]? = some x) : d.getD i 0 = x := by simp [List.getD, h]
theorem at_lt' {d : List Nat} {i : Nat} (h : i < d.length) : d[i]? = some (d.getD i 0) := by
  rw [List.getElem?_eq_getElem h]; simp [List.getD, List.getElem?_eq_getElem h]
/-- n places change with n others, one by one. -/
def swr (d : List Nat) (a c : Nat) : Nat → List Nat
  | 0 => d
  | n + 1 => sw (swr d a c n) (a + n) (c + n)
theorem swr_len (d : List Nat) (a c : Nat) : ∀ n, (swr d a c n).length = d.length
  | 0 => rfl
  | n + 1 => by rw [swr, sw_len, swr_len d a c n]
set_option maxHeartbeats 1000000 in
theorem swap_c (b L cp : Nat) (d : List Nat) (a c n : Nat) (f : Value) (w : World) (hd : Sd w b d) (hL : d.length = L) (ha : a + n ≤ L) (hc : c + n ≤ L) (hcp : L ≤ cp) (hLb : L < 4611686018427387904) :
    Calls Tryd.prog 37 #[.slice (some ⟨b, 0, none⟩) L cp, .int .i64 a, .int .i64 c, .int .i64 n, f] w fun e w' => e = .returned (.tuple #[]) ∧ Sd w' b (swr d a c n) ∧ Only b w w' := by
  go_enter Tryd.func37, Tryd.ntmps37
  go_wp2_with fail
  go_loopg [10] n (fun g si wr => ∃ k : Nat, k + g = n ∧ si = .int .i64 k ∧ Aside (Sd wr b (swr d a c k)) ∧ Aside (Only b w wr))
  case atStart => exact ⟨0, by omega, rfl, hd, Only.refl b w⟩
  case round =>
    obtain ⟨k, hk, rfl, hs, ho⟩ := hrel
    by_cases hlt : k < n
    · have hki : (k : Int) < (n : Int) := by omega
      obtain ⟨i, hi⟩ : ∃ i, i = a + k := ⟨_, rfl⟩
      obtain ⟨j, hj⟩ : ∃ j, j = c + k := ⟨_, rfl⟩
      have li : i < (swr d a c k).length := by rw [swr_len]; omega
      have lj : j < (swr d a c k).length := by rw [swr_len]; omega
      have ci := hs.out.cell (at_lt' li)
      have cj := hs.out.cell (at_lt' lj)
      obtain ⟨x, hx⟩ : ∃ x, (swr d a c k).getD i 0 = x := ⟨_, rfl⟩
      obtain ⟨y, hy⟩ : ∃ y, (swr d a c k).getD j 0 = y := ⟨_, rfl⟩
      rw [hx] at ci
      rw [hy] at cj
      have fi := hs.out.frozen i
      have fj := hs.out.frozen j
      have s1 := hs.out.set i y
      obtain ⟨u, cj2⟩ : ∃ u, (wr.setCell ⟨b, i, none⟩ (.int .i64 (y : Int))).cell? ⟨b, j, none⟩ = some u := ⟨_, s1.cell (at_lt' (by simp [swr_len]; omega))⟩
      have S3 : Aside (Sd ((wr.setCell ⟨b, i, none⟩ (.int .i64 (y : Int))).setCell ⟨b, j, none⟩ (.int .i64 (x : Int))).drew b (swr d a c (k + 1))) := by
        have := (s1.set j x).drew
        show Sd _ _ _
        rw [swr, sw, ← hi, ← hj, hx, hy]; exact this
      have O3 : Aside (Only b w ((wr.setCell ⟨b, i, none⟩ (.int .i64 (y : Int))).setCell ⟨b, j, none⟩ (.int .i64 (x : Int))).drew) := ((ho.out.setCell i _).setCell j _).drew
      have e1 : ((a : Int) + (k : Int)).toNat = i := by omega
      have e2 : ((c : Int) + (k : Int)).toNat = j := by omega
      have b1 : (a : Int) + (k : Int) < (L : Int) := by omega
      have b2 : (c : Int) + (k : Int) < (L : Int) := by omega
      have p1 : (0 : Int) ≤ (a : Int) + (k : Int) := by omega
      have p2 : (0 : Int) ≤ (c : Int) + (k : Int) := by omega
      have AB : Aside (k + gk = n ∧ n < 4611686018427387904) := ⟨hk, by omega⟩
      have w1 : IntKind.i64.wrap ((a : Int) + (k : Int)) = (a : Int) + (k : Int) := by rw [IntKind.wrap_i64]; omega
      have w2 : IntKind.i64.wrap ((c : Int) + (k : Int)) = (c : Int) + (k : Int) := by rw [IntKind.wrap_i64]; omega
      clear hs ho s1 hi hj hx hy li lj hk hL hcp ha hc
      go_wp2_with fail
      go_region
      clear ci cj cj2 fi fj
      generalize ((wr.setCell ⟨b, i, none⟩ (.int .i64 (y : Int))).setCell ⟨b, j, none⟩ (.int .i64 (x : Int))).drew = w3 at S3 O3 ⊢
      have hkb : (k : Int) + 1 < 9223372036854775808 := by have := AB.out; omega
      go_wp2_with fail
      have hk := AB.out
      go_roundg (gk - 1)
      case measure => omega
      case rel => exact ⟨k + 1, by omega, by go_num, S3, O3⟩
    · have hki : ¬ (k : Int) < (n : Int) := by omega
      have hkn : k = n := by omega
      have S3 : Aside (Sd wr b (swr d a c n)) := by rw [← hkn]; exact hs
      clear hs hkn
      go_wp2_with fail
      first | go_end0 | (refine bodyPost_ret (results_none rfl _ _ _) rfl ?_)
      exact ⟨rfl, S3.out, ho.out⟩
theorem set_mid (p : List Nat) (x y : Nat) (s : List Nat) : (p ++ x :: s).set p.length y = p ++ y :: s := by
  induction p with
  | nil => rfl
  | cons a p ih => simp [ih]
theorem getD_mid (p : List Nat) (x : Nat) (s : List Nat) : (p ++ x :: s).getD p.length 0 = x := by
  simp [List.getD]
theorem sw_mid (p : List Nat) (x : Nat) (m : List Nat) (y : Nat) (s : List Nat) : sw (p ++ x :: m ++ y :: s) p.length (p.length + 1 + m.length) = p ++ y :: m ++ x :: s := by
  unfold sw
  have e1 : (p ++ x :: m ++ y :: s).getD p.length 0 = x := by
    rw [List.append_assoc, List.cons_append]; exact getD_mid _ _ _
  have e2 : (p ++ x :: m ++ y :: s).getD (p.length + 1 + m.length) 0 = y := by
    have : p.length + 1 + m.length = (p ++ x :: m).length := by simp; omega
    rw [this]; exact getD_mid _ _ _
  rw [e1, e2, List.append_assoc, List.cons_append, set_mid, ← List.cons_append, ← List.append_assoc]
  have : p.length + 1 + m.length = (p ++ y :: m).length := by simp; omega
  rw [this]; exact set_mid _ _ _ _
/-- Two runs of one length change. -/
theorem swr_runs : ∀ (n : Nat) (p x m y s : List Nat), x.length = n → y.length = n → swr (p ++ x ++ m ++ y ++ s) p.length (p.length + n + m.length) n = p ++ y ++ m ++ x ++ s := by
  have gen : ∀ (n : Nat) (p x m y s : List Nat) (k : Nat), x.length = n → y.length = n → k ≤ n → swr (p ++ x ++ m ++ y ++ s) p.length (p.length + n + m.length) k = p ++ (y.take k ++ x.drop k) ++ m ++ (x.take k ++ y.drop k) ++ s := by
    intro n p x m y s k hx hy
    induction k with
    | zero => intro _; simp [swr]
    | succ k ih =>
      intro hk
      rw [swr, ih (by omega)]
      have hxk : k < x.length := by omega
      have hyk : k < y.length := by omega
      have e := sw_mid (p ++ y.take k) x[k] (x.drop (k + 1) ++ m ++ x.take k) y[k] (y.drop (k + 1) ++ s)
      have l1 : (p ++ y.take k).length = p.length + k := by simp; omega
      have l2 : (p ++ y.take k).length + 1 + (x.drop (k + 1) ++ m ++ x.take k).length = p.length + n + m.length + k := by simp; omega
      rw [l2, l1] at e
      have f1 : p ++ (y.take k ++ x.drop k) ++ m ++ (x.take k ++ y.drop k) ++ s = p ++ y.take k ++ x[k] :: (x.drop (k + 1) ++ m ++ x.take k) ++ y[k] :: (y.drop (k + 1) ++ s) := by
        rw [List.drop_eq_getElem_cons hxk, List.drop_eq_getElem_cons hyk]; simp only [List.append_assoc, List.cons_append]
      have f2 : p ++ (y.take (k + 1) ++ x.drop (k + 1)) ++ m ++ (x.take (k + 1) ++ y.drop (k + 1)) ++ s = p ++ y.take k ++ y[k] :: (x.drop (k + 1) ++ m ++ x.take k) ++ x[k] :: (y.drop (k + 1) ++ s) := by
        rw [List.take_succ_eq_append_getElem hxk, List.take_succ_eq_append_getElem hyk]; simp only [List.append_assoc, List.cons_append, List.nil_append]
      rw [f1, f2]; exact e
  intro n p x m y s hx hy
  rw [gen n p x m y s n hx hy (Nat.le_refl _)]
  simp [hx, hy, List.take_of_length_le, List.drop_eq_nil_of_le]
set_option maxHeartbeats 1000000 in
/-- Two runs side by side change. -/
theorem rot_c (b L cp : Nat) (p x y s : List Nat) (f : Value) (w : World) (hd : Sd w b (p ++ x ++ y ++ s)) (hL : (p ++ x ++ y ++ s).length = L) (hx : 0 < x.length) (hy : 0 < y.length) (hcp : L ≤ cp) (hLb : L < 4611686018427387904)
    (a m c : Nat) (ha : a = p.length) (hm : m = p.length + x.length) (hc : c = p.length + x.length + y.length) :
    Calls Tryd.prog 36 #[.slice (some ⟨b, 0, none⟩) L cp, .int .i64 a, .int .i64 m, .int .i64 c, f] w fun e w' => e = .returned (.tuple #[]) ∧ Sd w' b (p ++ y ++ x ++ s) ∧ Only b w w' := by
  have hLs : p.length + x.length + y.length + s.length = L := by rw [← hL]; simp; omega
  clear hL
  have AB : Aside (p.length + x.length + y.length + s.length = L ∧ L ≤ cp ∧ L < 4611686018427387904 ∧ a = p.length ∧ m = p.length + x.length ∧ c = p.length + x.length + y.length) := ⟨hLs, hcp, hLb, ha, hm, hc⟩
  have i1 : (c : Int) < 4611686018427387904 := by omega
  have i2 : (m : Int) ≤ c := by omega
  have i3 : (a : Int) ≤ m := by omega
  clear hLs hcp hLb ha hm hc
  go_enter Tryd.func36, Tryd.ntmps36
  go_wp2_with fail
  go_loopg [10, 11] (x.length + y.length) (fun g si sj wr => ∃ (i j : Nat) (p' x' y' s' d' : List Nat), si = .int .i64 i ∧ sj = .int .i64 j ∧ Aside (g = i + j ∧ x'.length = i ∧ y'.length = j ∧ 0 < i ∧ 0 < j ∧ p'.length + i = m ∧ p'.length + x'.length + y'.length + s'.length = L ∧ d' = p' ++ x' ++ y' ++ s' ∧ p' ++ y' ++ x' ++ s' = p ++ y ++ x ++ s ∧ Sd wr b d') ∧ Aside (Only b w wr))
  case atStart =>
    have hb := AB.out
    refine ⟨x.length, y.length, p, x, y, s, _, ?_, ?_, ⟨rfl, rfl, rfl, hx, hy, by omega, by omega, rfl, rfl, hd⟩, Only.refl b w⟩
    · have : (m : Int) - (a : Int) = (x.length : Int) := by omega
      first | rw [this] | (congr 1)
    · have : (c : Int) - (m : Int) = (y.length : Int) := by omega
      first | rw [this] | (congr 1)
  case round =>
    obtain ⟨i, j, p', x', y', s', d', rfl, rfl, hA, hO⟩ := hrel
    have k1 : (i : Int) ≤ m := by have := hA.out; omega
    have k2 : (m : Int) + j < 4611686018427387904 := by have := hA.out; have := AB.out; omega
    have k4 : (0 : Int) < (i : Int) := by have := hA.out; omega
    have k5 : (0 : Int) < (j : Int) := by have := hA.out; omega
    obtain ⟨q, hq⟩ : ∃ q : Nat, q + i = m := ⟨m - i, by omega⟩
    have AQ : Aside (q + i = m) := hq
    have hmi : (m : Int) - (i : Int) = (q : Int) := by omega
    clear hq
    by_cases hij : i = j
    · have hA2 : Aside (Sd wr b d' ∧ d'.length = L ∧ swr d' q m i = p ++ y ++ x ++ s ∧ q + i ≤ L ∧ m + i ≤ L ∧ L ≤ cp ∧ L < 4611686018427387904) := by
        obtain ⟨h1, h2, h3, h4, h5, h6, h7, h8, h9, h10⟩ := hA.out
        have hqp : q = p'.length := by have := AQ.out; omega
        have hb := AB.out
        refine ⟨h10, by rw [h8]; simp; omega, ?_, by have := AQ.out; omega, by omega, hb.2.1, hb.2.2.1⟩
        have := swr_runs i p' x' [] y' s' h2 (by omega)
        simp only [List.append_nil, List.length_nil, Nat.add_zero] at this
        rw [h8, hqp, ← h6, ← h9]
        exact this
      have hne : ((i : Int) == (j : Int)) = true := by subst hij; exact beq_self_eq_true _
      have hij' : (j : Int) = (i : Int) := by omega
      subst hij
      clear hA hij'
      go_wp2_with fail
      refine (swap_c b L cp d' q m i f wr hA2.out.1 hA2.out.2.1 hA2.out.2.2.2.1 hA2.out.2.2.2.2.1 hA2.out.2.2.2.2.2.1 hA2.out.2.2.2.2.2.2).mono ?_
      rintro e2 w2 ⟨rfl, hs2, ho2⟩
      have hS : Aside (Sd w2 b (p ++ y ++ x ++ s)) := by have := hA2.out.2.2.1; show Sd _ _ _; rw [← this]; exact hs2
      clear hs2
      go_wp2_with fail
      first | go_end0 | (refine bodyPost_ret (results_none rfl _ _ _) rfl ?_)
      exact ⟨rfl, hS.out, hO.out.trans ho2⟩
    · have hne : ((i : Int) == (j : Int)) = false := by rw [beq_eq_false_iff_ne]; omega
      by_cases hgt : j < i
      · have hgi : (j : Int) < (i : Int) := by omega
        have hA2 : Aside (d'.length = L ∧ swr d' q m j = p' ++ y' ++ x'.drop j ++ (x'.take j) ++ s' ∧ q + j ≤ L ∧ m + j ≤ L) := by
          obtain ⟨h1, h2, h3, h4, h5, h6, h7, h8, h9, h10⟩ := hA.out
          have hqp : q = p'.length := by have := AQ.out; omega
          refine ⟨by rw [h8]; simp; omega, ?_, by have := AQ.out; omega, by omega⟩
          have := swr_runs j p' (x'.take j) (x'.drop j) y' s' (by simp; omega) (by omega)
          rw [h8, hqp]
          rw [List.append_assoc p' (x'.take j), List.take_append_drop, show p'.length + j + (x'.drop j).length = m by simp; omega] at this
          exact this
        have AG : Aside (j < i) := hgt
        have hgb : decide ((j : Int) < (i : Int)) = true := decide_eq_true hgi
        have wr1 : IntKind.i64.wrap ((i : Int) - (j : Int)) = (i : Int) - (j : Int) := by rw [IntKind.wrap_i64]; omega
        have wr2 : IntKind.i64.wrap ((m : Int) - (i : Int)) = (q : Int) := by rw [IntKind.wrap_i64]; omega
        clear hgi hgt k1 k2 k4 k5 i1 i2 i3 hmi hij
        go_wp2_with fail
        refine (swap_c b L cp d' q m j f wr hA.out.2.2.2.2.2.2.2.2.2 hA2.out.1 hA2.out.2.2.1 hA2.out.2.2.2 AB.out.2.1 AB.out.2.2.1).mono ?_
        rintro e2 w2 ⟨rfl, hs2, ho2⟩
        have hS : Aside (Sd w2 b (swr d' q m j)) := hs2
        have hO2 : Aside (Only b w w2) := hO.out.trans ho2
        clear hs2 ho2 hO
        go_wp2_with fail
        have hgt := AG.out
        go_roundg (i - j + j)
        case measure => have := hA.out; omega
        case rel =>
          obtain ⟨h1, h2, h3, h4, h5, h6, h7, h8, h9, h10⟩ := hA.out
          refine ⟨i - j, j, p' ++ y', x'.drop j, x'.take j, s', _, ?_, rfl, ⟨rfl, by simp; omega, by simp; omega, by omega, h5, by simp; omega, by simp; omega, hA2.out.2.1, ?_, hS.out⟩, hO2⟩
          · have : (i : Int) - (j : Int) = ((i - j : Nat) : Int) := by omega
            first | rw [this] | (congr 1)
          · rw [← h9]; simp only [List.append_assoc]; rw [← List.append_assoc (x'.take j), List.take_append_drop]
      · have hgi : ¬ (j : Int) < (i : Int) := by omega
        have hgi2 : (i : Int) < (j : Int) := by omega
        obtain ⟨r, hr⟩ : ∃ r : Nat, (m : Int) + (j : Int) - (i : Int) = (r : Int) := ⟨m + j - i, by omega⟩
        have AR : Aside (r + i = m + j) := (show _ = _ by omega)
        have hA2 : Aside (d'.length = L ∧ swr d' q r i = p' ++ y'.drop (j - i) ++ y'.take (j - i) ++ x' ++ s' ∧ q + i ≤ L ∧ r + i ≤ L) := by
          obtain ⟨h1, h2, h3, h4, h5, h6, h7, h8, h9, h10⟩ := hA.out
          have hqp : q = p'.length := by have := AQ.out; omega
          have hrr := AR.out
          refine ⟨by rw [h8]; simp; omega, ?_, by have := AQ.out; omega, by omega⟩
          have := swr_runs i p' x' (y'.take (j - i)) (y'.drop (j - i)) s' (by omega) (by simp; omega)
          rw [h8, hqp]
          rw [List.append_assoc (p' ++ x'), List.take_append_drop, show p'.length + i + (y'.take (j - i)).length = r by simp; omega] at this
          exact this
        have AG : Aside (i < j) := (show i < j by omega)
        have hgb : decide ((j : Int) < (i : Int)) = false := decide_eq_false hgi
        have wr1 : IntKind.i64.wrap ((j : Int) - (i : Int)) = (j : Int) - (i : Int) := by rw [IntKind.wrap_i64]; omega
        have wr2 : IntKind.i64.wrap ((m : Int) - (i : Int)) = (q : Int) := by rw [IntKind.wrap_i64]; omega
        have wr3 : IntKind.i64.wrap ((m : Int) + (j : Int)) = (m : Int) + (j : Int) := by rw [IntKind.wrap_i64]; omega
        have wr4 : IntKind.i64.wrap ((m : Int) + (j : Int) - (i : Int)) = (r : Int) := by rw [IntKind.wrap_i64]; omega
        clear hgi2 hgt k1 k2 k4 k5 i1 i2 i3 hmi hij hr hgb
        go_wp2_with fail
        refine (swap_c b L cp d' q r i f wr hA.out.2.2.2.2.2.2.2.2.2 hA2.out.1 hA2.out.2.2.1 hA2.out.2.2.2 AB.out.2.1 AB.out.2.2.1).mono ?_
        rintro e2 w2 ⟨rfl, hs2, ho2⟩
        have hS : Aside (Sd w2 b (swr d' q r i)) := hs2
        have hO2 : Aside (Only b w w2) := hO.out.trans ho2
        clear hs2 ho2 hO
        go_wp2_with fail
        have hgt := AG.out
        go_roundg (i + (j - i))
        case measure => have := hA.out; omega
        case rel =>
          obtain ⟨h1, h2, h3, h4, h5, h6, h7, h8, h9, h10⟩ := hA.out
          refine ⟨i, j - i, p', y'.drop (j - i), y'.take (j - i), x' ++ s', _, rfl, ?_, ⟨rfl, by simp; omega, by simp; omega, h4, by omega, h6, by simp; omega, ?_, ?_, hS.out⟩, hO2⟩
          · have : (j : Int) - (i : Int) = ((j - i : Nat) : Int) := by omega
            first | rw [this] | (congr 1)
          · rw [hA2.out.2.1]; simp only [List.append_assoc]
          · rw [← h9]; simp only [List.append_assoc]; rw [← List.append_assoc (y'.take (j - i)), List.take_append_drop]
end Go.Proofs.YtbepbjbbhenphabDoor

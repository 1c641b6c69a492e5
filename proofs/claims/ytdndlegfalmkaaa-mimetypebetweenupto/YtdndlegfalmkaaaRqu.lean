/-
  The document's quoted.
-/
import Derived.Test.YtdndlegfalmkaaaRtk
namespace Go.Proofs.Ytdndlegfalmkaaa
open Go.RowKit
set_option linter.unusedVariables false
/-- A quoted text and what stands between behind it. -/
def qtb (q : List Nat) : Option (List Nat × List Nat) := (qt [] q).bind fun p => (bt 0 p.2).map fun s => (p.1, s)
set_option maxHeartbeats 2000000 in
theorem rquo_c (l q : List Nat) (x0 : Nat) (hlq : l = x0 :: q) (ho : Oct l) (hl : l.length ≤ 140737488355328) (w : World) : Calls Try.prog 50 #[.string (st l)] w fun e w' => TkTo (qtb q) e ∧ Below w.heap.size w w' := by
  have z1 : (st l).size = l.length := st_size l
  obtain ⟨H, hH⟩ : ∃ H, w.heap.size = H := ⟨_, rfl⟩
  obtain ⟨L, hL⟩ : ∃ L, l.length = L := ⟨_, rfl⟩
  obtain ⟨s, hs⟩ : ∃ s, s = st l := ⟨_, rfl⟩
  obtain ⟨R, hR⟩ : ∃ R, qtb q = R := ⟨_, rfl⟩
  obtain ⟨Q, hQ⟩ : ∃ Q, qt [] q = Q := ⟨_, rfl⟩
  rw [← hs, hL] at z1
  rw [← hs, hR, hH]
  have A : Aside (s = st l ∧ l.length = L ∧ L ≤ 140737488355328 ∧ Oct l ∧ (Q.bind fun p => (bt 0 p.2).map fun s => (p.1, s)) = R ∧ w.heap.size = H ∧ qt [] q = Q ∧ l = x0 :: q) := ⟨hs, hL, by omega, ho, by rw [← hR, ← hQ]; rfl, hH, hQ, hlq⟩
  clear hs hL hl ho hR hH hQ hlq
  go_enter Try.func50, Try.ntmps50
  go_wp2_with fail
  go_loopg [5, 6] (L - 1) (fun g s5 s6 wr => ∃ (k : Nat) (va : Option Addr) (n c : Nat) (a : List Nat), s5 = .slice va n c ∧ s6 = .int .i64 k ∧ Aside (k + g = L ∧ qt a (l.drop k) = Q ∧ Ow wr H 5 1 (.slice va n c) n (ob a) ∧ a.length = n ∧ n ≤ k ∧ Oct a ∧ Below H w wr))
  case atStart =>
    obtain ⟨_, hL, _, _, _, hH, hQ, hlq⟩ := A.out
    exact ⟨1, none, 0, 0, [], rfl, rfl, by have : l.length = q.length + 1 := (by rw [hlq]; rfl); omega, by rw [hlq]; exact hQ, Ow.nil (by omega), rfl, by omega, Oct.nil, Below.refl _ _⟩
  case round =>
    obtain ⟨k, va, n, c, a, rfl, rfl, hI⟩ := hrel
    obtain ⟨hkg, hq, how, han, hnk, hao, hbel⟩ := hI.out
    obtain ⟨hs, hL, hLb, ho, hR, hH, _, _⟩ := A.out
    have hkb : (k : Int) < 1000000000000000 := by omega
    by_cases hk : k < L
    · have hki : ((k : Int) < (L : Int)) = True := eq_true (by omega)
      have hkn : (k < L) = True := eq_true hk
      obtain ⟨x, hx⟩ : ∃ x, l[k]? = some x := ⟨_, List.getElem?_eq_getElem (by omega)⟩
      have hx0 : ∀ h : k < s.size, (s[k]'h).toNat = x := by rw [hs]; exact fun h => st_get ho hx h
      have hx256 : x < 256 := ho x (List.mem_of_getElem? hx)
      rw [drop_more hx] at hq
      by_cases h34 : x = 34
      · have t1 : ((x : Int) == 34) = true := by rw [beq_iff_eq]; omega
        rw [qt_end h34] at hq
        obtain ⟨j, hj⟩ : ∃ j : Nat, j = k + 1 := ⟨_, rfl⟩
        have hji : (k : Int) + 1 = (j : Int) := by omega
        have b1 : (j : Int) ≤ (L : Int) := by omega
        have b1' : j ≤ L := by omega
        have e1 : s.extract j L = st (l.drop (k + 1)) := by rw [hs, st_extract, hj, ← hL, List.take_length]
        have hb := rbt_c (l.drop (k + 1)) (ho.drop _) (by simp; omega) wr
        obtain ⟨v, hv⟩ : ∃ v, v = st (l.drop (k + 1)) := ⟨_, rfl⟩
        rw [← hv] at e1 hb
        have hcv : (convert 40 9 (.slice va n c)).run Try.prog wr = .ok (.string (st a)) wr := by
          obtain ⟨a', c', hv', hn2, _, hlies, _⟩ := how.lies
          cases hv'
          exact conv_st n c hn2 hao hlies
        have hb2 : Calls Try.prog 29 #[.string v] wr fun e w' => (∃ (y : ByteArray) (b : Bool), e = .returned (.tuple #[.string y, .bool b]) ∧ Aside (TkTo R (.returned (.tuple #[.string (st a), .string y, .bool b])))) ∧ wr = w' := hb.mono fun e w' h => by
          obtain ⟨h, h2⟩ := h
          refine ⟨?_, h2.symm⟩
          rw [← hq] at hR
          simp only [Option.bind_some] at hR
          rcases h with ⟨r', h1, rfl⟩ | ⟨h1, u', rfl⟩
          · rw [h1] at hR
            exact ⟨_, _, rfl, Or.inl ⟨a, r', hR.symm, rfl⟩⟩
          · rw [h1] at hR
            exact ⟨_, _, rfl, Or.inr ⟨hR.symm, _, u', rfl⟩⟩
        have A2 : Aside (Below H w wr) := hbel
        clear hI hkg hq how han hnk hao hbel hs hL hLb ho hR hH hk hx h34 hx256 hj hb hv
        go_wp2_with (go_at_call 29; (with_reducible refine hb2.mono ?_); rintro e4 w2 ⟨⟨x2, q2, rfl, hA2⟩, rfl⟩)
        refine bodyPost_ret (results_tmp3 rfl _ _ _) rfl ?_
        exact ⟨hA2.out, A2.out⟩
      · have t1 : ((x : Int) == 34) = false := by rw [beq_eq_false_iff_ne]; omega
        by_cases h92 : x = 92
        · have t2 : ((x : Int) == 92) = true := by rw [beq_iff_eq]; omega
          obtain ⟨j, hj⟩ : ∃ j : Nat, j = k + 1 := ⟨_, rfl⟩
          have hji : (k : Int) + 1 = (j : Int) := by omega
          by_cases hjL : j = L
          · have t3 : ((j : Int) == (L : Int)) = true := by rw [beq_iff_eq]; omega
            have A2 : Aside (R = none ∧ Below H w wr) := by
              refine ⟨?_, hbel⟩
              rw [← hR, ← hq]
              have : l.drop (k + 1) = [] := List.drop_of_length_le (by omega)
              rw [this, qt_cut h92]
              rfl
            clear hI hkg hq how han hnk hao hbel hs hL hLb ho hR hH hk hx h34 hx256 hj h92 hjL
            go_wp2_with fail
            refine bodyPost_ret (results_tmp3 rfl _ _ _) rfl ?_
            exact ⟨Or.inr ⟨A2.out.1, _, _, rfl⟩, A2.out.2⟩
          · have t3 : ((j : Int) == (L : Int)) = false := by rw [beq_eq_false_iff_ne]; omega
            have hjl : j < L := by omega
            have t4 : ((j : Int) < (L : Int)) = True := eq_true (by omega)
            have t4' : (j < L) = True := eq_true hjl
            have hjb : (j : Int) < 1000000000000000 := by omega
            obtain ⟨y, hy⟩ : ∃ y, l[j]? = some y := ⟨_, List.getElem?_eq_getElem (by omega)⟩
            have hy0 : ∀ h : j < s.size, (s[j]'h).toNat = y := by rw [hs]; exact fun h => st_get ho hy h
            have hy256 : y < 256 := ho y (List.mem_of_getElem? hy)
            rw [← hj, drop_more hy, qt_92 h92] at hq
            obtain ⟨K, hK⟩ : ∃ K, wr.heap.size = K := ⟨_, rfl⟩
            have bal : Below wr.heap.size wr (wr.alloc (.cells #[.int .u8 (y : Int)] 5)) := (Below.refl _ wr).alloc (Nat.le_refl _) _
            have how2 := how.below bal (Nat.le_refl _)
            have hcy : (wr.alloc (.cells #[.int .u8 (y : Int)] 5)).cell? ⟨K, 0, none⟩ = some (.int .u8 (y : Int)) := by rw [← hK, (Cells.new wr _ 5).cell]; rfl
            have A2 : Aside (k + gk = L ∧ j = k + 1 ∧ j < L ∧ qt (a ++ [y]) (l.drop (j + 1)) = Q ∧ (a ++ [y]).length = n + 1 ∧ n + 1 ≤ j + 1 ∧ Oct (a ++ [y]) ∧ Below H w (wr.alloc (.cells #[.int .u8 (y : Int)] 5)) ∧ n + 1 ≤ 140737488355328) := ⟨hkg, hj, hjl, hq, by simp [han], by omega, hao.snoc hy256, hbel.trans (bal.mono how.le), by omega⟩
            clear hI hkg hq how han hnk hao hbel hs hL hLb ho hR hH hk hx h34 hx256 hj h92 hjL hjl hy hy256 bal
            go_wp2_with (at_builtin; refine wpList_ob1 _ rfl (.tmp 41) (.tmp 45) rfl H (.slice va n c) n a (by rfl) how2 K y 1 (by rfl) hcy A2.out.2.2.2.2.2.2.2.2 ?_; intro va3 vc3 w3 hgot)
            have a2 := A2.out
            go_roundg (gk - 2)
            case measure => omega
            case rel => exact ⟨j + 1, va3, n + 1, vc3, a ++ [y], rfl, by go_num, by omega, a2.2.2.2.1, hgot.ow, a2.2.2.2.2.1, a2.2.2.2.2.2.1, a2.2.2.2.2.2.2.1, a2.2.2.2.2.2.2.2.1.trans hgot.bel⟩
        · have t2 : ((x : Int) == 92) = false := by rw [beq_eq_false_iff_ne]; omega
          rw [qt_more h34 h92] at hq
          obtain ⟨K, hK⟩ : ∃ K, wr.heap.size = K := ⟨_, rfl⟩
          have bal : Below wr.heap.size wr (wr.alloc (.cells #[.int .u8 (x : Int)] 5)) := (Below.refl _ wr).alloc (Nat.le_refl _) _
          have how2 := how.below bal (Nat.le_refl _)
          have hcy : (wr.alloc (.cells #[.int .u8 (x : Int)] 5)).cell? ⟨K, 0, none⟩ = some (.int .u8 (x : Int)) := by rw [← hK, (Cells.new wr _ 5).cell]; rfl
          have A2 : Aside (k + gk = L ∧ k < L ∧ qt (a ++ [x]) (l.drop (k + 1)) = Q ∧ (a ++ [x]).length = n + 1 ∧ n + 1 ≤ k + 1 ∧ Oct (a ++ [x]) ∧ Below H w (wr.alloc (.cells #[.int .u8 (x : Int)] 5)) ∧ n + 1 ≤ 140737488355328) := ⟨hkg, hk, hq, by simp [han], by omega, hao.snoc hx256, hbel.trans (bal.mono how.le), by omega⟩
          clear hI hkg hq how han hnk hao hbel hs hL hLb ho hR hH hk hx h34 hx256 h92 bal
          go_wp2_with (at_builtin; refine wpList_ob1 _ rfl (.tmp 41) (.tmp 45) rfl H (.slice va n c) n a (by rfl) how2 K x 1 (by rfl) hcy A2.out.2.2.2.2.2.2.2 ?_; intro va3 vc3 w3 hgot)
          have a2 := A2.out
          go_roundg (gk - 1)
          case measure => omega
          case rel => exact ⟨k + 1, va3, n + 1, vc3, a ++ [x], rfl, by go_num, by omega, a2.2.2.1, hgot.ow, a2.2.2.2.1, a2.2.2.2.2.1, a2.2.2.2.2.2.1, a2.2.2.2.2.2.2.1.trans hgot.bel⟩
    · have hki : ((k : Int) < (L : Int)) = False := eq_false (by omega)
      have hkn : (k < L) = False := eq_false hk
      have A2 : Aside (R = none ∧ Below H w wr) := by
        refine ⟨?_, hbel⟩
        rw [← hR, ← hq, List.drop_of_length_le (by omega)]
        rfl
      clear hI hkg hq how han hnk hao hbel hs hL hLb ho hR hH hk
      go_wp2_with fail
      refine bodyPost_ret (results_tmp3 rfl _ _ _) rfl ?_
      exact ⟨Or.inr ⟨A2.out.1, _, _, rfl⟩, A2.out.2⟩
end Go.Proofs.Ytdndlegfalmkaaa

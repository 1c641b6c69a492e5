/-
  What written comes to.
-/
import Derived.Test.YtdndlegfalmkaaaRpa
import Derived.Test.YtdndlegfalmkaaaBck
namespace Go.Proofs.Ytdndlegfalmkaaa
open Go.RowKit
set_option linter.unusedVariables false
theorem Cv.got {lo n H : Nat} {w w' : World} {v v' : Value} {xs : List Value} {l : List Nat} (h : Cv w H l) (k : Got lo 5 1 w w' v v' n xs) : Cv w' H l := by
  have hlt := h.lt
  obtain ⟨cs, m, hh, h1⟩ := h
  refine ⟨cs, m, ?_, h1⟩
  rcases k.kp H hlt with e | ⟨_, cs', e⟩
  · rw [e]; exact hh
  · rw [hh] at e
    injection e with e
    injection e with _ _ e2
    injection e2 with e3 e4
    omega
theorem es_snoc (a : List Nat) (x : Nat) : es (a ++ [x]) = es a ++ (if x = 34 ∨ x = 92 then [92, x] else [x]) := by
  simp [es]
theorem es_take_len (v : List Nat) (k : Nat) : (es (v.take k)).length ≤ 2 * v.length := by
  have := es_len (v.take k)
  have h2 : (v.take k).length ≤ v.length := by simp; omega
  omega
theorem es_oct {v : List Nat} (h : Oct v) : Oct (es v) := by
  intro x hx
  simp only [es, List.mem_flatMap] at hx
  obtain ⟨y, hy, hx⟩ := hx
  have := h y hy
  split at hx <;> simp at hx
  · rcases hx with rfl | rfl <;> omega
  · omega
theorem wr_oct {v : List Nat} (h : Oct v) : Oct (wr v) := by
  unfold wr
  split
  · exact h
  · exact Oct.cons (by omega) ((es_oct h).snoc (by omega))
set_option maxHeartbeats 1000000 in
theorem written_c (v : List Nat) (ho : Oct v) (hl : v.length ≤ 1099511627776) (w : World) : Calls Try.prog 38 #[.string (st v)] w fun e w' => e = .returned (.string (st (wr v))) ∧ Below w.heap.size w w' := by
  have htk := token_c v ho (by omega) w
  cases ht : tok v with
  | true =>
    have e : wr v = v := by unfold wr; rw [ht]; rfl
    rw [e]
    rw [ht] at htk
    clear ht e ho hl
    go_enter Try.func38, Try.ntmps38
    go_wp2_with (go_at_call 12; (with_reducible refine htk.mono ?_); rintro e1 w1 ⟨rfl, rfl⟩)
    go_ret
    exact ⟨rfl, Below.refl _ _⟩
  | false =>
    have e : wr v = 34 :: (es v ++ [34]) := by unfold wr; rw [ht]; rfl
    rw [e]
    rw [ht] at htk
    obtain ⟨H, hH⟩ : ∃ H, w.heap.size = H := ⟨_, rfl⟩
    obtain ⟨w1, hw1⟩ : ∃ w1, w1 = w.alloc (.cells #[.int .u8 34] 5) := ⟨_, rfl⟩
    have how1 : Ow w1 H 5 1 (.slice (some ⟨H, 0, none⟩) 1 1) 1 (ob (34 :: es (v.take 0))) := by rw [hw1]; exact Ow.lit hH (Nat.le_refl _) (by decide) rfl
    have b1 : Below H w w1 := by rw [hw1, ← hH]; exact (Below.refl _ w).alloc (Nat.le_refl _) _
    obtain ⟨w2, cc, hcv, hC, hb2, _, _⟩ := bytes_of ho w1
    obtain ⟨G, hG⟩ : ∃ G, w1.heap.size = G := ⟨_, rfl⟩
    rw [hG] at hcv hC hb2
    obtain ⟨L, hL⟩ : ∃ L, v.length = L := ⟨_, rfl⟩
    obtain ⟨s, hs⟩ : ∃ s, s = st v := ⟨_, rfl⟩
    rw [hL, ← hs] at hcv
    rw [← hs] at htk
    rw [hH, ← hs]
    have A : Aside (v.length = L ∧ L ≤ 1099511627776 ∧ Oct v ∧ Ow w2 H 5 1 (.slice (some ⟨H, 0, none⟩) 1 1) 1 (ob (34 :: es (v.take 0))) ∧ Cv w2 G v ∧ Below H w w2 ∧ w.heap.size = H) := ⟨hL, by omega, ho, how1.below hb2 (by omega), hC, b1.trans (hb2.mono (by have := how1.le; omega)), hH⟩
    clear hs hL hl ho hC hb2 hH ht e how1 b1
    go_enter Try.func38, Try.ntmps38
    go_upto_region 4 with (go_at_call 12; (with_reducible refine htk.mono ?_); rintro e1 w9 ⟨rfl, hw9⟩; have hw9' := hw9.symm; subst hw9')
    (try simp only [A.out.2.2.2.2.2.2])
    rw [← hw1]
    clear hw1 hG htk
    go_wp2_with fail
    clear hcv
    go_loopg [3, 13] L (fun g s3 s13 wr => ∃ (k : Nat) (va : Option Addr) (n c : Nat), s3 = .slice va n c ∧ s13 = .int .i64 k ∧ Aside (k + g = L ∧ Cv wr G v ∧ Below H w wr ∧ Ow wr H 5 1 (.slice va n c) n (ob (34 :: es (v.take k))) ∧ n = 1 + (es (v.take k)).length))
    case atStart => exact ⟨0, _, 1, 1, rfl, rfl, by omega, A.out.2.2.2.2.1, A.out.2.2.2.2.2.1, A.out.2.2.2.1, by simp [es]⟩
    case round =>
      obtain ⟨k, va, n, c, rfl, rfl, hI⟩ := hrel
      obtain ⟨hkg, hC, hB, how, hn⟩ := hI.out
      obtain ⟨hL, hLb, ho, _, _, _, hH⟩ := A.out
      have hel := es_take_len v k
      by_cases hk : k < L
      · have hki : ((k : Int) < (L : Int)) = True := eq_true (by omega)
        have hkn : (k < L) = True := eq_true hk
        have hkb : (k : Int) < 1000000000000000 := by omega
        obtain ⟨x, hx⟩ : ∃ x, v[k]? = some x := ⟨_, List.getElem?_eq_getElem (by omega)⟩
        have hcell := hC.cell hx
        have hsn : es (v.take (k + 1)) = es (v.take k) ++ (if x = 34 ∨ x = 92 then [92, x] else [x]) := by rw [take_more hx, es_snoc]
        by_cases hq : x = 34 ∨ x = 92
        · rw [if_pos hq] at hsn
          obtain ⟨K, hK⟩ : ∃ K, wr.heap.size = K := ⟨_, rfl⟩
          have bal : Below wr.heap.size wr (wr.alloc (.cells #[.int .u8 92] 5)) := (Below.refl _ wr).alloc (Nat.le_refl _) _
          have how2 := how.below bal (Nat.le_refl _)
          have hcy : (wr.alloc (.cells #[.int .u8 92] 5)).cell? ⟨K, 0, none⟩ = some (.int .u8 ((92 : Nat) : Int)) := by rw [← hK, (Cells.new wr _ 5).cell]; rfl
          have A2 : Aside (k + gk = L ∧ k < L ∧ es (v.take (k + 1)) = es (v.take k) ++ [92, x] ∧ Below H w (wr.alloc (.cells #[.int .u8 92] 5)) ∧ Cv (wr.alloc (.cells #[.int .u8 92] 5)) G v ∧ n + 1 ≤ 140737488355328 ∧ n + 1 + 1 ≤ 140737488355328 ∧ n = 1 + (es (v.take k)).length) := ⟨hkg, hk, hsn, hB.trans (bal.mono how.le), hC.below bal hC.lt, by omega, by omega, hn⟩
          have t2 : ((x : Int) == 34) = true ∨ (((x : Int) == 34) = false ∧ ((x : Int) == 92) = true) := by
            rcases hq with rfl | rfl
            · exact Or.inl (by decide)
            · exact Or.inr ⟨by decide, by decide⟩
          clear hI hkg hC hB how hn hL hLb ho hel hk hx hsn hq bal hH
          rcases t2 with t2 | ⟨t2, t3⟩
          all_goals
            go_upto_region 9 with (at_builtin; refine wpList_ob1 _ rfl (.tmp 23) (.tmp 24) rfl H (.slice va n c) n _ (by rfl) how2 K 92 1 (by rfl) hcy A2.out.2.2.2.2.2.1 ?_; intro va3 vc3 w3 hgot)
            obtain ⟨a1, a2, a3, a4, a5, a6, a7, a8⟩ := A2.out
            have C3 := a5.got hgot
            have B3 := a4.trans hgot.bel
            have ow3 := hgot.ow
            obtain ⟨K3, hK3⟩ : ∃ K3, w3.heap.size = K3 := ⟨_, rfl⟩
            have bal3 : Below w3.heap.size w3 (w3.alloc (.cells #[.int .u8 (x : Int)] 5)) := (Below.refl _ w3).alloc (Nat.le_refl _) _
            have how4 := ow3.below bal3 (Nat.le_refl _)
            have hcx : (w3.alloc (.cells #[.int .u8 (x : Int)] 5)).cell? ⟨K3, 0, none⟩ = some (.int .u8 (x : Int)) := by rw [← hK3, (Cells.new w3 _ 5).cell]; rfl
            have A4 : Aside (Cv (w3.alloc (.cells #[.int .u8 (x : Int)] 5)) G v ∧ Below H w (w3.alloc (.cells #[.int .u8 (x : Int)] 5))) := ⟨C3.below bal3 C3.lt, B3.trans (bal3.mono ow3.le)⟩
            clear a1 a2 a3 a4 a5 a6 a8 C3 B3 ow3 bal3 hgot how2 hcy hK hcell
            go_wp2_with (at_builtin; refine wpList_ob1 _ rfl (.tmp 26) (.tmp 28) rfl H (.slice va3 (n + 1) vc3) (n + 1) _ (by rfl) how4 K3 x 1 (by rfl) hcx a7 ?_; intro va5 vc5 w5 hgot5)
            obtain ⟨a1, a2, a3, a4, a5, a6, a7', a8⟩ := A2.out
            go_roundg (gk - 1)
            case measure => omega
            case rel => exact ⟨k + 1, va5, n + 1 + 1, vc5, rfl, by go_num, by omega, A4.out.1.got hgot5, A4.out.2.trans hgot5.bel, by rw [a3]; have hh := hgot5.ow; simpa using hh, by rw [a3]; simp; omega⟩
        · rw [if_neg hq] at hsn
          have t2 : ((x : Int) == 34) = false := by rw [beq_eq_false_iff_ne]; omega
          have t3 : ((x : Int) == 92) = false := by rw [beq_eq_false_iff_ne]; omega
          obtain ⟨K, hK⟩ : ∃ K, wr.heap.size = K := ⟨_, rfl⟩
          have bal : Below wr.heap.size wr (wr.alloc (.cells #[.int .u8 (x : Int)] 5)) := (Below.refl _ wr).alloc (Nat.le_refl _) _
          have how2 := how.below bal (Nat.le_refl _)
          have hcy : (wr.alloc (.cells #[.int .u8 (x : Int)] 5)).cell? ⟨K, 0, none⟩ = some (.int .u8 (x : Int)) := by rw [← hK, (Cells.new wr _ 5).cell]; rfl
          have A2 : Aside (k + gk = L ∧ k < L ∧ es (v.take (k + 1)) = es (v.take k) ++ [x] ∧ Below H w (wr.alloc (.cells #[.int .u8 (x : Int)] 5)) ∧ Cv (wr.alloc (.cells #[.int .u8 (x : Int)] 5)) G v ∧ n + 1 ≤ 140737488355328 ∧ n = 1 + (es (v.take k)).length) := ⟨hkg, hk, hsn, hB.trans (bal.mono how.le), hC.below bal hC.lt, by omega, hn⟩
          clear hI hkg hC hB how hn hL hLb ho hel hk hx hsn hq bal hH
          go_wp2_with (at_builtin; refine wpList_ob1 _ rfl (.tmp 26) (.tmp 28) rfl H (.slice va n c) n _ (by rfl) how2 K x 1 (by rfl) hcy A2.out.2.2.2.2.2.1 ?_; intro va3 vc3 w3 hgot)
          obtain ⟨a1, a2, a3, a4, a5, a6, a8⟩ := A2.out
          go_roundg (gk - 1)
          case measure => omega
          case rel => exact ⟨k + 1, va3, n + 1, vc3, rfl, by go_num, by omega, a5.got hgot, a4.trans hgot.bel, by rw [a3]; have hh := hgot.ow; simpa using hh, by rw [a3]; simp; omega⟩
      · have hki : ((k : Int) < (L : Int)) = False := eq_false (by omega)
        have hkn : (k < L) = False := eq_false hk
        have e : v.take k = v := List.take_of_length_le (by omega)
        rw [e] at how hn hel
        obtain ⟨K, hK⟩ : ∃ K, wr.heap.size = K := ⟨_, rfl⟩
        have bal : Below wr.heap.size wr (wr.alloc (.cells #[.int .u8 34] 5)) := (Below.refl _ wr).alloc (Nat.le_refl _) _
        have how2 := how.below bal (Nat.le_refl _)
        have hcy : (wr.alloc (.cells #[.int .u8 34] 5)).cell? ⟨K, 0, none⟩ = some (.int .u8 ((34 : Nat) : Int)) := by rw [← hK, (Cells.new wr _ 5).cell]; rfl
        have A2 : Aside (Below H w (wr.alloc (.cells #[.int .u8 34] 5)) ∧ n + 1 ≤ 140737488355328) := ⟨hB.trans (bal.mono how.le), by omega⟩
        have hcv : ∀ va3 vc3 w3, Got H 5 1 (wr.alloc (.cells #[.int .u8 34] 5)) w3 (.slice va n c) (.slice va3 (n + 1) vc3) (n + 1) (ob ((34 :: es v) ++ [34])) → (convert 40 9 (.slice va3 (n + 1) vc3)).run Try.prog w3 = .ok (.string (st (34 :: (es v ++ [34])))) w3 := fun va3 vc3 w3 hg => by
          obtain ⟨a', c', hv', hn2, _, hlies, _⟩ := hg.ow.lies
          cases hv'
          exact conv_st (n + 1) vc3 hn2 (Oct.cons (by omega) ((es_oct ho).snoc (by omega))) hlies
        clear hI hkg hC hB how hn hL hLb ho hel hk e bal hH
        go_wp2_with (at_builtin; refine wpList_ob1 _ rfl (.tmp 31) (.tmp 32) rfl H (.slice va n c) n _ (by rfl) how2 K 34 1 (by rfl) hcy A2.out.2 ?_; intro va3 vc3 w3 hgot; have hcv3 := hcv _ _ _ hgot)
        go_ret
        exact ⟨rfl, A2.out.1.trans hgot.bel⟩
end Go.Proofs.Ytdndlegfalmkaaa

/-
  The reader: quoted.
-/
import Derived.Test.YtdndlegfalmkaaaTok
namespace Go.Proofs.Ytdndlegfalmkaaa
open Go.RowKit
set_option linter.unusedVariables false
theorem But.then_below {M : Nat} {w u v : World} (h : But M w u) (k : Below w.heap.size u v) : But M w v :=
  ⟨k.1.trans h.os, k.2.trans h.tape, k.3.trans h.output, Nat.le_trans h.size k.size, fun i hi hm => (k.block i hi).trans (h.block i hi hm)⟩
theorem Ow.but {w u : World} {lo sz n B : Nat} {e : TypeId} {v : Value} {l : List Value} (h : Ow w lo e sz v n l) (k : But B w u) (hB : B < lo) : Ow u lo e sz v n l := h.keep k.size fun g h1 h2 _ => k.block g h2 (by omega)
theorem qt_end {a r : List Nat} {x : Nat} (h : x = 34) : qt a (x :: r) = some (a, r) := by rw [qt.eq_def]; simp [h]
theorem qt_92 {a r : List Nat} {x y : Nat} (h : x = 92) : qt a (x :: y :: r) = qt (a ++ [y]) r := by rw [qt.eq_def]; simp [h]
theorem qt_cut {a : List Nat} {x : Nat} (h : x = 92) : qt a [x] = none := by rw [qt.eq_def]; simp [h]
theorem qt_more {a r : List Nat} {x : Nat} (h1 : x ≠ 34) (h2 : x ≠ 92) : qt a (x :: r) = qt (a ++ [x]) r := by rw [qt.eq_def]; simp [h1, h2]
theorem Oct.snoc {a : List Nat} {x : Nat} (h : Oct a) (hx : x < 256) : Oct (a ++ [x]) := h.append (Oct.cons hx Oct.nil)
set_option maxHeartbeats 1000000 in
theorem quoted_c {w : World} {B x0 : Nat} {l q : List Nat} (h : Rd w B l (x0 :: q)) (hl : l.length ≤ 140737488355328) (ho : Oct l) : Calls Try.prog 59 #[.pointer (some ⟨B, 0, none⟩)] w (Go1 w B l (qt [] q)) := by
  obtain ⟨R, hR⟩ : ∃ R, qt [] q = R := ⟨_, rfl⟩
  rw [hR]
  have hn0 := next_ok h hl ho
  have hqo : Oct q := fun y hy => (ho.suf h.suf) y (List.mem_cons_of_mem _ hy)
  have hql : q.length + 1 ≤ l.length := by
    have := h.suf.length_le
    simpa using this
  obtain ⟨H, hH⟩ : ∃ H, w.heap.size = H := ⟨_, rfl⟩
  have A : Aside (l.length ≤ 140737488355328 ∧ Oct l ∧ qt [] q = R ∧ w.heap.size = H ∧ B < H ∧ Oct q ∧ q.length + 1 ≤ l.length) := ⟨hl, ho, hR, hH, by rw [← hH]; exact h.lt, hqo, hql⟩
  clear h hl ho hR hqo hql hH
  go_enter Try.func59, Try.ntmps59
  go_wp2_with (go_at_call 55; (with_reducible refine hn0.mono ?_); rintro e0 w0 ⟨rfl, hr0, hb0⟩)
  go_loopg [3] q.length (fun g s3 wr => ∃ (va : Option Addr) (n c : Nat) (a r : List Nat), s3 = .slice va n c ∧ Aside (g = r.length ∧ Rd wr B l r ∧ But B w wr ∧ qt a r = R ∧ Ow wr H 5 1 (.slice va n c) n (ob a) ∧ a.length = n ∧ n + r.length ≤ l.length ∧ Oct a ∧ Oct r))
  case atStart => exact ⟨none, 0, 0, [], q, rfl, rfl, hr0, hb0, A.out.2.2.1, Ow.nil (by rw [← A.out.2.2.2.1]; exact hb0.size), rfl, by have := A.out.2.2.2.2.2.2; omega, Oct.nil, A.out.2.2.2.2.2.1⟩
  case round =>
    obtain ⟨va, n, c, a, r, rfl, hI⟩ := hrel
    obtain ⟨hg, hrd, hbt, hcm, how, han, hnl, hao, hro⟩ := hI.out
    obtain ⟨hl, ho, _, hH, hBH, _, _⟩ := A.out
    clear hn0 hr0 hb0
    cases r with
    | nil =>
      have hn := next_no hrd hl
      have A2 : Aside (R = none ∧ But B w wr) := ⟨by rw [← hcm]; rfl, hbt⟩
      clear hI hg hrd hbt hcm how han hnl hao hro hl ho hH hBH
      go_wp2_with (go_at_call 55; (with_reducible refine hn.mono ?_); rintro e1 w1 ⟨rfl, hw1⟩)
      obtain ⟨n1, hw1⟩ := hw1
      exact ⟨rfl, by rw [hw1]; exact A2.out.2.drewN _, Or.inr ⟨A2.out.1, rfl⟩⟩
    | cons x r =>
      have hn := next_ok hrd hl ho
      have hx256 : x < 256 := hro x (by simp)
      have hro' : Oct r := fun y hy => hro y (List.mem_cons_of_mem _ hy)
      by_cases h34 : x = 34
      · have t1 : ((x : Int) == 34) = true := by rw [beq_iff_eq]; omega
        have hcv : ∀ W, But B wr W → (convert 40 9 (.slice va n c)).run Try.prog W = .ok (.string (st a)) W := fun W hW => by
          obtain ⟨a', c', hv, hn2, _, hlies, _⟩ := (how.but hW hBH).lies
          cases hv
          exact conv_st n c hn2 hao hlies
        have A2 : Aside (R = some (a, r) ∧ But B w wr) := ⟨by rw [← hcm, qt_end h34], hbt⟩
        clear hI hg hrd hbt hcm how han hnl hao hro hl ho hH hBH h34 hx256 hro'
        go_wp2_with (go_at_call 55; (with_reducible refine hn.mono ?_); rintro e1 w1 ⟨rfl, hr1, hb1⟩; have hcv1 := hcv w1 hb1)
        go_ret
        exact ⟨A2.out.2.trans hb1, Or.inl ⟨a, r, A2.out.1, rfl, hr1⟩⟩
      · have t1 : ((x : Int) == 34) = false := by rw [beq_eq_false_iff_ne]; omega
        by_cases h92 : x = 92
        · have t2 : ((x : Int) == 92) = true := by rw [beq_iff_eq]; omega
          cases r with
          | nil =>
            have hn2 := fun W (hW : Rd W B l []) => next_no hW hl
            have A2 : Aside (R = none ∧ But B w wr) := ⟨by rw [← hcm, qt_cut h92], hbt⟩
            clear hI hg hrd hbt hcm how han hnl hao hro hl ho hH hBH h34 hx256 hro' h92
            go_wp2_with (first
              | (go_at_call 55; (with_reducible refine hn.mono ?_); rintro e1 w1 ⟨rfl, hr1, hb1⟩)
              | (go_at_call 55; (with_reducible refine (hn2 _ hr1).mono ?_); rintro e2 w2 ⟨rfl, hw2⟩))
            obtain ⟨n2, hw2⟩ := hw2
            exact ⟨rfl, by rw [hw2]; exact (A2.out.2.trans hb1).drewN _, Or.inr ⟨A2.out.1, rfl⟩⟩
          | cons y r =>
            have hn2 := fun W (hW : Rd W B l (y :: r)) => next_ok hW hl ho
            have hy256 : y < 256 := hro' y (by simp)
            have hro2 : Oct r := fun z hz => hro' z (List.mem_cons_of_mem _ hz)
            have A2 : Aside (gk = r.length + 2 ∧ But B w wr ∧ qt (a ++ [y]) r = R ∧ (a ++ [y]).length = n + 1 ∧ n + 1 + r.length ≤ l.length ∧ Oct (a ++ [y]) ∧ Oct r ∧ n + 1 ≤ 140737488355328 ∧ Ow wr H 5 1 (.slice va n c) n (ob a) ∧ B < H ∧ w.heap.size = H) := ⟨by simpa using hg, hbt, by rw [← hcm, qt_92 h92], by simp [han], by simp at hnl; omega, hao.snoc hy256, hro2, by simp at hnl; omega, how, hBH, hH⟩
            clear hI hg hrd hbt hcm how han hnl hao hro hl ho hH hBH h34 hx256 hro' h92 hy256 hro2
            go_upto_region 9 with (first
              | (go_at_call 55; (with_reducible refine hn.mono ?_); rintro e1 w1 ⟨rfl, hr1, hb1⟩)
              | (go_at_call 55; (with_reducible refine (hn2 _ hr1).mono ?_); rintro e2 w2 ⟨rfl, hr2, hb2⟩))
            have how2 := (A2.out.2.2.2.2.2.2.2.2.1.but hb1 A2.out.2.2.2.2.2.2.2.2.2.1).but hb2 A2.out.2.2.2.2.2.2.2.2.2.1
            obtain ⟨K, hK⟩ : ∃ K, w2.heap.size = K := ⟨_, rfl⟩
            have bal : Below w2.heap.size w2 (w2.alloc (.cells #[.int .u8 (y : Int)] 5)) := (Below.refl _ w2).alloc (Nat.le_refl _) _
            have how3 := how2.below bal (Nat.le_refl _)
            have hcy : (w2.alloc (.cells #[.int .u8 (y : Int)] 5)).cell? ⟨K, 0, none⟩ = some (.int .u8 (y : Int)) := by rw [← hK, (Cells.new w2 _ 5).cell]; rfl
            have A4 : Aside (Rd w2 B l r ∧ B < H ∧ Below w2.heap.size w2 (w2.alloc (.cells #[.int .u8 (y : Int)] 5)) ∧ H ≤ w2.heap.size ∧ But B wr w2) := ⟨hr2, A2.out.2.2.2.2.2.2.2.2.2.1, bal, how2.le, hb1.trans hb2⟩
            clear how2 bal hr1 hr2 hb1 hb2 hn hn2
            go_wp2_with (at_builtin; refine wpList_ob1 _ rfl (.tmp 18) (.tmp 20) rfl H (.slice va n c) n a (by rfl) how3 K y 1 (by rfl) hcy A2.out.2.2.2.2.2.2.2.1 ?_; intro va3 vc3 w3 hgot)
            obtain ⟨a1, a2, a3, a4, a5, a6, a7, a8, a9, a10, a11⟩ := A2.out
            obtain ⟨r2, hBH, bal, hle, hb⟩ := A4.out
            have hbel : Below H w2 w3 := (bal.mono hle).trans hgot.bel
            go_roundg r.length
            case measure => omega
            case rel => exact ⟨va3, n + 1, vc3, a ++ [y], r, rfl, rfl, r2.below hbel hBH, (a2.trans hb).then_below (by rw [a11]; exact hbel), a3, hgot.ow, a4, a5, a6, a7⟩
        · have t2 : ((x : Int) == 92) = false := by rw [beq_eq_false_iff_ne]; omega
          have A2 : Aside (gk = r.length + 1 ∧ But B w wr ∧ qt (a ++ [x]) r = R ∧ (a ++ [x]).length = n + 1 ∧ n + 1 + r.length ≤ l.length ∧ Oct (a ++ [x]) ∧ Oct r ∧ n + 1 ≤ 140737488355328 ∧ Ow wr H 5 1 (.slice va n c) n (ob a) ∧ B < H ∧ w.heap.size = H) := ⟨by simpa using hg, hbt, by rw [← hcm, qt_more h34 h92], by simp [han], by simp at hnl; omega, hao.snoc hx256, hro', by simp at hnl; omega, how, hBH, hH⟩
          clear hI hg hrd hbt hcm how han hnl hao hro hl ho hH hBH h34 hx256 hro' h92
          go_upto_region 9 with (go_at_call 55; (with_reducible refine hn.mono ?_); rintro e2 w2 ⟨rfl, hr2, hb2⟩)
          have how2 := A2.out.2.2.2.2.2.2.2.2.1.but hb2 A2.out.2.2.2.2.2.2.2.2.2.1
          obtain ⟨K, hK⟩ : ∃ K, w2.heap.size = K := ⟨_, rfl⟩
          have bal : Below w2.heap.size w2 (w2.alloc (.cells #[.int .u8 (x : Int)] 5)) := (Below.refl _ w2).alloc (Nat.le_refl _) _
          have how3 := how2.below bal (Nat.le_refl _)
          have hcy : (w2.alloc (.cells #[.int .u8 (x : Int)] 5)).cell? ⟨K, 0, none⟩ = some (.int .u8 (x : Int)) := by rw [← hK, (Cells.new w2 _ 5).cell]; rfl
          have A4 : Aside (Rd w2 B l r ∧ B < H ∧ Below w2.heap.size w2 (w2.alloc (.cells #[.int .u8 (x : Int)] 5)) ∧ H ≤ w2.heap.size ∧ But B wr w2) := ⟨hr2, A2.out.2.2.2.2.2.2.2.2.2.1, bal, how2.le, hb2⟩
          clear how2 bal hr2 hb2 hn
          go_wp2_with (at_builtin; refine wpList_ob1 _ rfl (.tmp 18) (.tmp 20) rfl H (.slice va n c) n a (by rfl) how3 K x 1 (by rfl) hcy A2.out.2.2.2.2.2.2.2.1 ?_; intro va3 vc3 w3 hgot)
          obtain ⟨a1, a2, a3, a4, a5, a6, a7, a8, a9, a10, a11⟩ := A2.out
          obtain ⟨r2, hBH, bal, hle, hb⟩ := A4.out
          have hbel : Below H w2 w3 := (bal.mono hle).trans hgot.bel
          go_roundg r.length
          case measure => omega
          case rel => exact ⟨va3, n + 1, vc3, a ++ [x], r, rfl, rfl, r2.below hbel hBH, (a2.trans hb).then_below (by rw [a11]; exact hbel), a3, hgot.ow, a4, a5, a6, a7⟩
end Go.Proofs.Ytdndlegfalmkaaa

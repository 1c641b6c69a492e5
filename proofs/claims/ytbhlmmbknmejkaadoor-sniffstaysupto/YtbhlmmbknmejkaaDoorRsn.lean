/-
  The document's Sniff; awake.
-/
import Derived.Test.YtbhlmmbknmejkaaDoorFil
namespace Go.Proofs.YtbhlmmbknmejkaaDoor
open Go.RowKit
set_option linter.unusedVariables false
theorem oct_gz : Oct gz := by intro x hx; simp [gz] at hx; omega
theorem oct_pk : Oct pk := by intro x hx; simp [pk] at hx; omega
theorem ext_oct {l m : List Nat} (h : Oct l) (k : Oct m) : Oct (ext l m) := by
  unfold ext
  split
  · exact h.append (k.drop _)
  · exact h
theorem pad_oct {l : List Nat} (h : Oct l) {x : Nat} (hx : x < 256) (n : Nat) : Oct (pad l x n) := by
  unfold pad
  refine h.append fun y hy => ?_
  rw [List.mem_replicate] at hy
  omega
theorem tarf_oct {l : List Nat} (h : Oct l) {x : Nat} (hx : x < 256) : Oct (tarf l x) := (pad_oct h hx 257).append (oct_us.drop _)
theorem ext_len (l m : List Nat) : (ext l m).length ≤ l.length + m.length := by
  unfold ext
  split
  · rw [List.length_append, List.length_drop]; omega
  · omega
theorem tarf_len (l : List Nat) (x : Nat) : (tarf l x).length ≤ l.length + 300 := by
  unfold tarf
  rw [List.length_append, List.length_drop, pad_length, show us.length = 5 from rfl]
  split <;> omega
theorem fls_facts {l f : List Nat} (h : Oct l) {i : Nat} (hf : (fls l)[i]? = some f) : Oct f ∧ f.length ≤ l.length + 300 := by
  have hi : i < 4 := (List.getElem?_eq_some_iff.1 hf).1
  have e1 := ext_len l gz
  have e2 := ext_len l pk
  have e3 : gz.length = 3 := rfl
  have e4 : pk.length = 4 := rfl
  obtain rfl | rfl | rfl | rfl : i = 0 ∨ i = 1 ∨ i = 2 ∨ i = 3 := by omega
  all_goals (simp [fls] at hf; subst hf)
  · exact ⟨h, by omega⟩
  · exact ⟨ext_oct h oct_gz, by omega⟩
  · exact ⟨ext_oct h oct_pk, by omega⟩
  · exact ⟨tarf_oct h (by decide), tarf_len _ _⟩
theorem Fl.get {w : World} {B g n c : Nat} {ls : List (List Nat)} (h : Fl w B (.slice (some ⟨g, 0, none⟩) n c) n ls) {i : Nat} {f : List Nat} (hf : ls[i]? = some f) : ∃ a c', w.cell? ⟨g, i, none⟩ = some (.slice a f.length c') ∧ f.length ≤ c' ∧ Lies w a f ∧ (a = none → f.length = 0 ∧ c' = 0) := by
  obtain ⟨vs, h1, h2⟩ := h.ex
  have hi : i < ls.length := (List.getElem?_eq_some_iff.1 hf).1
  obtain ⟨v, hv⟩ : ∃ v, vs[i]? = some v := ⟨_, List.getElem?_eq_getElem (by rw [h2.len]; exact hi)⟩
  obtain ⟨a, c', hv2, hl, hc, hli, hz⟩ := (h2.own i v f hv hf).lies
  obtain ⟨a0, c0, he, _, hq, _⟩ := h1.shape
  cases he
  rcases hq with h0 | ⟨g', hg', _, _, hcell, _⟩
  · have := h.len; omega
  · cases hg'
    subst hv2
    exact ⟨a, c', hcell i _ hv, hc, hli, hz⟩
set_option maxRecDepth 20000 in
set_option maxHeartbeats 2000000 in
theorem rsniff_c (w : World) (a : Option Addr) (l : List Nat) (L C : Nat) (hl : Lies w a l) (hL : l.length = L) (hLC : L ≤ C) (ho : Oct l) (hb : L ≤ 140737488355320) (haz : a = none → L = 0 ∧ C = 0) (e : Bool) : Calls Tryd.prog 8 #[.slice a L C, .bool e] w fun ex w' => ex = .returned (.tuple #[.int .i64 ((rs l e).1 : Int), .bool (rs l e).2]) ∧ Below w.heap.size w w' := by
  have hkd := kind_c w a l L C hl hL hLC ho (by omega)
  have hfi := files_c w a l L C hl hL hLC ho hb haz
  obtain ⟨B, hB⟩ : ∃ B, w.heap.size = B := ⟨_, rfl⟩
  obtain ⟨k, hk⟩ : ∃ k, kd l = k := ⟨_, rfl⟩
  rw [hk] at hkd
  rw [hB] at hfi ⊢
  cases e with
  | true =>
    have e1 : rs l true = (k, true) := by rw [← hk]; rfl
    rw [e1]
    clear hfi hk
    go_enter Tryd.func8, Tryd.ntmps8
    go_wp2_with (go_at_call 10; refine hkd.mono ?_; rintro e1 w1 ⟨rfl, rfl⟩)
    first | go_ret | go_ret2
    exact ⟨rfl, Below.refl _ _⟩
  | false =>
    have e1 : rs l false = if (fls l).all (fun f => decide (kd f = k)) then (k, true) else (0, false) := by unfold rs; rw [hk]; rfl
    obtain ⟨R, hR⟩ : ∃ R, rs l false = R := ⟨_, rfl⟩
    rw [hR] at e1 ⊢
    have A : Aside (R = (if (fls l).all (fun f => decide (kd f = k)) then (k, true) else (0, false)) ∧ Oct l ∧ l.length ≤ 140737488355320 ∧ kd l = k) := ⟨e1, ho, by omega, hk⟩
    clear e1 hR hl hL hLC ho hb haz hk
    go_enter Tryd.func8, Tryd.ntmps8
    go_upto_region 5 with (first | (go_at_call 10; refine hkd.mono ?_; rintro e1 w1 ⟨rfl, rfl⟩) | (go_at_call 11; refine hfi.mono ?_; rintro e2 w2 ⟨g, c, rfl, hfl, hb2⟩))
    have AF : Aside (Fl w2 B (.slice (some ⟨g, 0, none⟩) 4 c) 4 (fls l) ∧ Below B w w2) := ⟨hfl, hb2⟩
    clear hkd hfi hfl hb2
    go_wp2_with fail
    go_loopg [8] 4 (fun gg s8 wr => ∃ i : Nat, s8 = .int .i64 (i : Int) ∧ w2 = wr ∧ Aside (i + gg = 4 ∧ ∀ j f, j < i → (fls l)[j]? = some f → kd f = k))
    case atStart => exact ⟨0, rfl, rfl, ⟨rfl, fun j f hj => absurd hj (Nat.not_lt_zero _)⟩⟩
    case round =>
      obtain ⟨i, rfl, rfl, AR⟩ := hrel
      have ar := AR.out
      by_cases hi : i < 4
      · have t1 : ((i : Int) < 4) = True := eq_true (by omega)
        have t1n : (i < 4) = True := eq_true hi
        obtain ⟨f, hf⟩ : ∃ f, (fls l)[i]? = some f := ⟨_, List.getElem?_eq_getElem hi⟩
        obtain ⟨af, cf, hcell, hfc, hfl, hfz⟩ := AF.out.1.get hf
        have ff := fls_facts A.out.2.1 hf
        obtain ⟨n, hn⟩ : ∃ n, f.length = n := ⟨_, rfl⟩
        rw [hn] at hcell hfc
        have hk2 := kind_c w2 af f n cf hfl hn hfc ff.1 (by have := A.out.2.2.1; omega)
        by_cases hkk : kd f = k
        · rw [hkk] at hk2
          have A2 : Aside (i + 1 + (gk - 1) = 4 ∧ gk ≠ 0 ∧ ∀ j f, j < i + 1 → (fls l)[j]? = some f → kd f = k) := ⟨by omega, by omega, fun j f' hj hf' => by
            by_cases hji : j < i
            · exact ar.2 j f' hji hf'
            · obtain rfl : j = i := by omega
              rw [hf] at hf'
              cases hf'
              exact hkk⟩
          have hi3 : (i : Int) < 4 := by omega
          clear AR ar hi hf hfl hfz ff hn hkk hfc
          go_wp2_with (go_at_call 10; refine hk2.mono ?_; rintro e1 w1 ⟨rfl, rfl⟩)
          have a2 := A2.out
          go_roundg (gk - 1)
          case measure => omega
          case rel => exact ⟨i + 1, by go_num, rfl, ⟨a2.1, a2.2.2⟩⟩
        · have hne : ((kd f : Int) != (k : Int)) = true := by simp; omega
          have hR : R = (0, false) := by
            rw [A.out.1, if_neg]
            intro hall
            rw [List.all_eq_true] at hall
            have := hall f (List.mem_of_getElem? hf)
            exact hkk (of_decide_eq_true this)
          subst hR
          obtain ⟨k2, hk2e⟩ : ∃ k2, kd f = k2 := ⟨_, rfl⟩
          rw [hk2e] at hk2 hne
          have A3 : Aside (Below B w w2) := AF.out.2
          clear AR ar hi hf hfl hfz ff hn hkk hfc A AF
          go_wp2_with (go_at_call 10; refine hk2.mono ?_; rintro e1 w1 ⟨rfl, rfl⟩)
          first | go_ret | go_ret2
          exact ⟨rfl, A3.out⟩
      · have t1 : ((i : Int) < 4) = False := eq_false (by omega)
        have t1n : (i < 4) = False := eq_false hi
        have hR : R = (k, true) := by
          rw [A.out.1, if_pos]
          rw [List.all_eq_true]
          intro f hf
          obtain ⟨j, hj⟩ := List.getElem?_of_mem hf
          have hj4 : j < 4 := (List.getElem?_eq_some_iff.1 hj).1
          exact decide_eq_true (ar.2 j f (by omega) hj)
        subst hR
        have A3 : Aside (Below B w w2) := AF.out.2
        clear AR ar hi A AF t1n
        go_wp2_with fail
        first | go_ret | go_ret2
        exact ⟨rfl, A3.out⟩
set_option maxHeartbeats 1000000 in
theorem awake_c (w : World) (h : Mk w) : Calls Tryd.prog 9 #[] w fun e w' => e = .returned (.bool true) ∧ Below w.heap.size w w' := by
  obtain ⟨B, hB⟩ : ∃ B, w.heap.size = B := ⟨_, rfl⟩
  have b1 : Below B w (w.alloc (.cells #[.int .u8 31, .int .u8 139, .int .u8 8] 5)) := by rw [← hB]; exact (Below.refl _ w).alloc (Nat.le_refl _) _
  have hli1 : Lies (w.alloc (.cells #[.int .u8 31, .int .u8 139, .int .u8 8] 5)) (some ⟨B, 0, none⟩) gz := Or.inr ⟨B, 0, rfl, fun i x hx => by
    rw [← hB, (Cells.new w _ 5).cell]
    have hj : i < 3 := (List.getElem?_eq_some_iff.1 hx).1
    obtain rfl | rfl | rfl : i = 0 ∨ i = 1 ∨ i = 2 := by omega
    all_goals (simp [gz] at hx; subst hx; rfl)⟩
  have s1 := sniff_c _ (h.below b1 (by have := h.lt; omega)) _ gz 3 3 hli1 rfl oct_gz (by decide) false
  rw [show sn gz false = (7, true) by decide] at s1
  have s2 : ∀ u, Below B w u → Calls Tryd.prog 7 #[.slice (some ⟨u.heap.size, 0, none⟩) 1 1, .bool false] (u.alloc (.cells #[.int .u8 31] 5)) fun e w' => e = .returned (.tuple #[.int .i64 0, .bool false]) ∧ Below B w w' := fun u hu => by
    have bu := hu.trans (((Below.refl u.heap.size u).alloc (Nat.le_refl _) (.cells #[.int .u8 31] 5)).mono (by have := hu.size; omega))
    have hli : Lies (u.alloc (.cells #[.int .u8 31] 5)) (some ⟨u.heap.size, 0, none⟩) [31] := Or.inr ⟨u.heap.size, 0, rfl, fun i x hx => by
      rw [(Cells.new u _ 5).cell]
      cases i with
      | zero => simp at hx; subst hx; rfl
      | succ i => simp at hx⟩
    have := sniff_c _ (h.below bu (by have := h.lt; omega)) _ [31] 1 1 hli rfl (by intro x hx; simp at hx; omega) (by decide) false
    rw [show sn [31] false = (0, false) by decide] at this
    exact this.mono fun e w' ⟨h1, h2⟩ => ⟨h1, bu.trans (h2.mono (by have := bu.size; omega))⟩
  rw [hB]
  have A : Aside (Below B w (w.alloc (.cells #[.int .u8 31, .int .u8 139, .int .u8 8] 5))) := b1
  have A2 : Aside (∀ u, Below B w u → Calls Tryd.prog 7 #[.slice (some ⟨u.heap.size, 0, none⟩) 1 1, .bool false] (u.alloc (.cells #[.int .u8 31] 5)) fun e w' => e = .returned (.tuple #[.int .i64 0, .bool false]) ∧ Below B w w') := s2
  clear s2 hli1 b1 h
  go_enter Tryd.func9, Tryd.ntmps9
  go_upto_region 2 with (go_at_call 7; refine s1.mono ?_; rintro e1 w1 ⟨rfl, hb1⟩)
  have q2 := A2.out w1 (A.out.trans (hb1.mono (by have := A.out.size; omega)))
  clear s1 hb1 A A2 hB
  go_wp2_with (go_at_call 7; refine q2.mono ?_; rintro e2 w2 ⟨rfl, hb2⟩)
  first | go_ret | go_ret2
  exact ⟨rfl, hb2⟩
end Go.Proofs.YtbhlmmbknmejkaaDoor

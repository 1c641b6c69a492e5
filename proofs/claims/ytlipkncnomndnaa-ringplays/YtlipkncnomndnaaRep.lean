/-
  What Repeat of the ring comes to: refused, it tells none and false and nothing has changed; else it tells the bytes at the end again and again, and these are put in.
  Conditions: the window has a size from 1 to 32768, and what it holds is not longer.
-/
import Derived.Test.YtlipkncnomndnaaIn
namespace Go.Proofs.Ytlipkncnomndnaa
open Go.RowKit
set_option linter.unusedVariables false

/-- Blocks have come; of the elder ones two alone may have turned. -/
structure Grw (a b : Nat) (w w' : World) : Prop where
  os : w'.os = w.os
  tape : w'.tape = w.tape
  output : w'.output = w.output
  size : w.heap.size ≤ w'.heap.size
  block : ∀ k, k < w.heap.size → k ≠ a → k ≠ b → w'.heap[k]? = w.heap[k]?
theorem Grw.below {a b B : Nat} {w u : World} (h : Grw a b w u) (ha : B ≤ a) (hb : B ≤ b) (hB : B ≤ w.heap.size) : Below B w u :=
  ⟨h.os, h.tape, h.output, h.size, fun k hk => h.block k (by omega) (by omega) (by omega)⟩
theorem Grw.of_below {a b : Nat} {w u : World} (h : Below w.heap.size w u) : Grw a b w u := ⟨h.os, h.tape, h.output, h.size, fun k hk _ _ => h.block k hk⟩
theorem Grw.of_two {a b : Nat} {w u : World} (h : Two a b w u) : Grw a b w u := ⟨h.os, h.tape, h.output, Nat.le_of_eq h.size.symm, fun k _ h1 h2 => h.block k h1 h2⟩
theorem Grw.trans {a b : Nat} {w u v : World} (h : Grw a b w u) (k : Grw a b u v) : Grw a b w v :=
  ⟨k.os.trans h.os, k.tape.trans h.tape, k.output.trans h.output, Nat.le_trans h.size k.size, fun i hi h1 h2 => (k.block i (Nat.lt_of_lt_of_le hi h.size) h1 h2).trans (h.block i hi h1 h2)⟩
theorem Cells.grw {a b : Nat} {w u : World} {k : Nat} {cs : Array Value} {t : TypeId} (h : Cells w k cs t) (g : Grw a b w u) (h1 : k ≠ a) (h2 : k ≠ b) : Cells u k cs t := by
  have := h.lt
  unfold Cells at *
  rw [g.block k this h1 h2]; exact h

theorem repeat_no {H K N : Nat} {l : List Int} (d n : Int) (w : World) (r : Rg w H K N l) (hd : d < 1 ∨ (l.length : Int) < d ∨ n < 0 ∨ 65536 < n) :
    Calls Try.prog 14 #[.pointer (some ⟨H, 0, none⟩), .int .i64 d, .int .i64 n] w fun e w' => e = .returned (.tuple #[.slice none 0 0, .bool false]) ∧ w = w' := by
  go_enter Try.func14, Try.ntmps14
  by_cases h : d < 1
  · go_wp2_with fail
    go_ret2
    exact ⟨rfl, rfl⟩
  · have h0 : (0 : Int) < d := by omega
    have hlen := len_r w r
    clear r
    generalize l.length = L at *
    by_cases h1 : (L : Int) < d
    · go_wp2_with fail
      refine hlen.mono ?_
      rintro e w' ⟨rfl, rfl⟩
      go_wp2_with fail
      go_ret2
      exact ⟨rfl, rfl⟩
    · by_cases h2 : n < 0
      · go_wp2_with fail
        refine hlen.mono ?_
        rintro e w' ⟨rfl, rfl⟩
        go_wp2_with fail
        go_ret2
        exact ⟨rfl, rfl⟩
      · have h3 : 65536 < n := by omega
        go_wp2_with fail
        refine hlen.mono ?_
        rintro e w' ⟨rfl, rfl⟩
        go_wp2_with fail
        go_ret2
        exact ⟨rfl, rfl⟩
set_option maxHeartbeats 400000 in
theorem repeat_a {H K N : Nat} {l : List Int} (d n : Nat) (w : World) (r : Rg w H K N l) (h1 : 1 ≤ d) (hd : d ≤ l.length) (hn : n ≤ 65536) (hc : d ≤ n) :
    Calls Try.prog 14 #[.pointer (some ⟨H, 0, none⟩), .int .i64 (d : Int), .int .i64 (n : Int)] w fun e w' => e = .returned (.tuple #[.slice (some ⟨w.heap.size, 0, none⟩) n n, .bool true]) ∧ Cells w' w.heap.size (vb (cyc l d n)).toArray 5 ∧ Rg w' H K N (lastN N (l ++ cyc l d n)) ∧ Grw H K w w' := by
  have hlt := r.lt
  have hle := r.le
  have hlen := len_r w r
  have hm := made n (by omega) w
  obtain ⟨zs, hzs⟩ : ∃ zs : List Int, zs = List.replicate n 0 := ⟨_, rfl⟩
  have hzl : zs.length = n := by rw [hzs, List.length_replicate]
  rw [← hzs] at hm
  have hcell := Cells.new w (vb zs).toArray 5
  have hal := r.alloc (.cells (vb zs).toArray 5)
  have bel1 : Below w.heap.size w (w.alloc (.cells (vb zs).toArray 5)) := (Below.refl _ _).alloc (Nat.le_refl _) _
  generalize w.alloc (.cells (vb zs).toArray 5) = w1 at *
  have hmo := moveOut_r w.heap.size d n d w1 hal hcell (by omega) (by omega) hn h1 hd (by omega) (by omega) (by omega)
  rw [cyc_first l d d h1 hd (by omega)] at hmo
  have e1 : ¬ (d : Int) < 1 := by omega
  have e2 : ¬ (l.length : Int) < (d : Int) := by omega
  have e3 : ¬ (n : Int) < 0 := by omega
  have e4 : ¬ (65536 : Int) < (n : Int) := by omega
  have e5 : ¬ (n : Int) < (d : Int) := by omega
  have e6 : (d : Int) ≤ (n : Int) := by omega
  have e7 : (0 : Int) ≤ (d : Int) := by omega
  have hHg : H ≠ w.heap.size := by omega
  have hKg : K ≠ w.heap.size := by omega
  generalize hg : w.heap.size = g at *
  have AG : Aside (w.heap.size = g) := hg
  have AN : Aside (n ≤ 65536) := hn
  have AD : Aside (1 ≤ d ∧ d ≤ l.length) := ⟨h1, hd⟩
  have AZ : Aside (zs.length = n) := hzl
  clear hg hcell hzs hzl hle hlt hd
  generalize l.length = L at e2 hlen
  go_enter Try.func14, Try.ntmps14
  go_wp2_with fail
  refine hlen.mono ?_
  rintro e w' ⟨rfl, rfl⟩
  go_wp2_with fail
  refine hmo.mono ?_
  rintro e w2 ⟨rfl, hc2, ho2⟩
  clear hmo hlen hm
  go_wp2_with fail
  generalize Value.bool (decide ((n : Int) < 0) || decide ((65536 : Int) < (n : Int))) = v25
  generalize Value.bool (decide ((65536 : Int) < (n : Int))) = v24
  generalize Value.bool (decide ((n : Int) < 0)) = v20
  go_loopg [9] (n - d) (fun gk s9 wr => ∃ k : Nat, k + gk = n ∧ s9 = .int .i64 k ∧ (d ∣ k ∨ k = n) ∧ (1 ≤ k ∨ k = n) ∧ Cells wr g (vb (splice zs 0 (cyc l d k))).toArray 5 ∧ Only g w1 wr)
  case atStart => exact ⟨d, by omega, rfl, Or.inl (Nat.dvd_refl _), Or.inl h1, hc2, ho2⟩
  case round =>
    clear hc2 ho2
    obtain ⟨k, hkg, rfl, hdv, hk1, hck, hok⟩ := hrel
    have AK : Aside (k + gk = n) := hkg
    by_cases hk : k < n
    · have hki : (k : Int) < (n : Int) := by omega
      have hk0 : (0 : Int) ≤ (k : Int) := by omega
      have hkn : ¬ n = k := by omega
      have hkne : ¬ k = n := by omega
      have hkle : k ≤ n := by omega
      have hdk : d ∣ k := by rcases hdv with h | h; exact h; omega
      have hkp : 1 ≤ k := by omega
      obtain ⟨m, hmm⟩ : ∃ m, n - k = m := ⟨_, rfl⟩
      obtain ⟨X, hX⟩ : ∃ X, X = (cyc l d k).take (min k m) := ⟨_, rfl⟩
      have hXl : X.length = min k m := by rw [hX, List.length_take, cyc_length]; omega
      obtain ⟨c, hcc⟩ : ∃ c, X.length = c := ⟨_, rfl⟩
      have hz := AZ.out
      have AX : Aside (X.length = c ∧ c = min k m ∧ k + X.length ≤ (splice zs 0 (cyc l d k)).length ∧ splice (splice zs 0 (cyc l d k)) k X = splice zs 0 (cyc l d (k + c))) := by
        have hcl := cyc_length l d k
        refine ⟨hcc, by omega, by rw [length_splice _ _ _ (by omega)]; omega, ?_⟩
        have := splice_app zs (cyc l d k) X (by omega)
        rw [hcl] at this
        rw [this, hX, cyc_app l d k (min k m) hdk (by omega)]
        congr 2; omega
      have AS : Aside (∀ j z, X[j]? = some z → wr.cell? ((⟨g, 0, none⟩ : Addr).add j) = some (.int .u8 z)) := fun j z hz' => by
        rw [add_lit, Nat.zero_add]
        refine hck.byte ?_
        rw [hX, List.getElem?_take] at hz'
        split at hz'
        · rename_i hj
          have hcl := cyc_length l d k
          rw [splice_get _ _ _ _ (by omega), if_pos (by omega), Nat.sub_zero]
          exact hz'
        · cases hz'
      have AQ : Aside ((d ∣ (k + c) ∨ k + c = n) ∧ 1 ≤ c ∧ k + c ≤ n) := by
        have hn := AN.out
        refine ⟨?_, by omega, by omega⟩
        by_cases hkm : k ≤ m
        · left
          rw [show k + c = k + k by omega]
          exact Nat.dvd_add hdk hdk
        · right; omega
      have hw1 : IntKind.i64.wrap ((k : Nat) : Int) = (k : Int) := by have := AN.out; rw [IntKind.wrap_i64]; omega
      have hcb : k + c ≤ 65536 := by have := AN.out; have := AQ.out.2.2; omega
      have hnb := AN.out
      have hw2 : IntKind.i64.wrap ((k : Int) + (c : Int)) = (k : Int) + c := by rw [IntKind.wrap_i64]; omega
      clear hz hX hXl hcc hdv hk1 hkg
      go_wp2_with fail
      go_region_law (refine step_copy_only rfl (.tmp 43) (.tmp 46) rfl (some ⟨g, k, none⟩) (some ⟨g, 0, none⟩) m m k n (by go_simp) (by go_simp) g k (splice zs 0 (cyc l d k)) (by exact hck) X (by have := AX.out; show X.length = min _ _; omega) (fun _ => ⟨rfl, _, rfl, by exact AS.out⟩) AX.out.2.2.1 ?_; intro w3 hg3 ho3; rw [AX.out.1])
      all_goals
        rw [AX.out.2.2.2] at hg3
        go_wp2_with fail
        have AK := AK.out
        have AQ := AQ.out
        go_roundg (gk - c)
        case measure => omega
        case rel => exact ⟨k + c, by omega, by go_num, AQ.1, Or.inl (by omega), hg3, hok.trans ⟨ho3.os, ho3.tape, ho3.output, ho3.size, ho3.block⟩⟩
    · have hki : ¬ (k : Int) < (n : Int) := by omega
      have hkn : k = n := by omega
      subst hkn
      have hr := hal.only hok hHg hKg
      rw [splice_all _ _ (by rw [cyc_length, AZ.out])] at hck
      have hmi := moveIn_r g k wr hr hck (cyc_length _ _ _) AN.out hHg hKg
      have AB : Aside (Below w.heap.size w wr) := by show Below _ _ _; rw [AG.out]; exact bel1.trans (hok.below (Nat.le_refl _))
      clear hr hok hkg bel1 hal
      go_wp2_with fail
      refine hmi.mono ?_
      rintro e w4 ⟨rfl, hr4, ht4⟩
      go_wp2_with fail
      go_ret2
      refine ⟨rfl, ?_, hr4, ?_⟩
      · unfold Cells at hck ⊢
        rw [ht4.block g (Ne.symm hHg) (Ne.symm hKg)]; exact hck
      · exact (Grw.of_below AB.out).trans (Grw.of_two ht4)
set_option maxHeartbeats 400000 in
theorem repeat_b {H K N : Nat} {l : List Int} (d n : Nat) (w : World) (r : Rg w H K N l) (h1 : 1 ≤ d) (hd : d ≤ l.length) (hn : n ≤ 65536) (hc : n < d) :
    Calls Try.prog 14 #[.pointer (some ⟨H, 0, none⟩), .int .i64 (d : Int), .int .i64 (n : Int)] w fun e w' => e = .returned (.tuple #[.slice (some ⟨w.heap.size, 0, none⟩) n n, .bool true]) ∧ Cells w' w.heap.size (vb (cyc l d n)).toArray 5 ∧ Rg w' H K N (lastN N (l ++ cyc l d n)) ∧ Grw H K w w' := by
  have hlt := r.lt
  have hle := r.le
  have hlen := len_r w r
  have hm := made n (by omega) w
  obtain ⟨zs, hzs⟩ : ∃ zs : List Int, zs = List.replicate n 0 := ⟨_, rfl⟩
  have hzl : zs.length = n := by rw [hzs, List.length_replicate]
  rw [← hzs] at hm
  have hcell := Cells.new w (vb zs).toArray 5
  have hal := r.alloc (.cells (vb zs).toArray 5)
  have bel1 : Below w.heap.size w (w.alloc (.cells (vb zs).toArray 5)) := (Below.refl _ _).alloc (Nat.le_refl _) _
  generalize w.alloc (.cells (vb zs).toArray 5) = w1 at *
  have hmo := moveOut_r w.heap.size n n d w1 hal hcell (by omega) (by omega) hn h1 hd (by omega) (by omega) (by omega)
  rw [cyc_first l d n h1 hd (by omega)] at hmo
  have e1 : ¬ (d : Int) < 1 := by omega
  have e2 : ¬ (l.length : Int) < (d : Int) := by omega
  have e3 : ¬ (n : Int) < 0 := by omega
  have e4 : ¬ (65536 : Int) < (n : Int) := by omega
  have e5 : (n : Int) < (d : Int) := by omega
  have e6 : (n : Int) ≤ (n : Int) := by omega
  have e7 : (0 : Int) ≤ (n : Int) := by omega
  have hHg : H ≠ w.heap.size := by omega
  have hKg : K ≠ w.heap.size := by omega
  generalize hg : w.heap.size = g at *
  have AG : Aside (w.heap.size = g) := hg
  have AN : Aside (n ≤ 65536) := hn
  have AD : Aside (1 ≤ d ∧ d ≤ l.length) := ⟨h1, hd⟩
  have AZ : Aside (zs.length = n) := hzl
  clear hg hcell hzs hzl hle hlt hd
  generalize l.length = L at e2 hlen
  go_enter Try.func14, Try.ntmps14
  go_wp2_with fail
  refine hlen.mono ?_
  rintro e w' ⟨rfl, rfl⟩
  go_wp2_with fail
  refine hmo.mono ?_
  rintro e w2 ⟨rfl, hc2, ho2⟩
  clear hmo hlen hm
  go_wp2_with fail
  generalize Value.bool (decide ((n : Int) < 0) || decide ((65536 : Int) < (n : Int))) = v25
  generalize Value.bool (decide ((65536 : Int) < (n : Int))) = v24
  generalize Value.bool (decide ((n : Int) < 0)) = v20
  go_loopg [9] (n - n) (fun gk s9 wr => ∃ k : Nat, k + gk = n ∧ s9 = .int .i64 k ∧ (d ∣ k ∨ k = n) ∧ (1 ≤ k ∨ k = n) ∧ Cells wr g (vb (splice zs 0 (cyc l d k))).toArray 5 ∧ Only g w1 wr)
  case atStart => exact ⟨n, by omega, rfl, Or.inr rfl, Or.inr rfl, hc2, ho2⟩
  case round =>
    clear hc2 ho2
    obtain ⟨k, hkg, rfl, hdv, hk1, hck, hok⟩ := hrel
    have AK : Aside (k + gk = n) := hkg
    by_cases hk : k < n
    · have hki : (k : Int) < (n : Int) := by omega
      have hk0 : (0 : Int) ≤ (k : Int) := by omega
      have hkn : ¬ n = k := by omega
      have hkne : ¬ k = n := by omega
      have hkle : k ≤ n := by omega
      have hdk : d ∣ k := by rcases hdv with h | h; exact h; omega
      have hkp : 1 ≤ k := by omega
      obtain ⟨m, hmm⟩ : ∃ m, n - k = m := ⟨_, rfl⟩
      obtain ⟨X, hX⟩ : ∃ X, X = (cyc l d k).take (min k m) := ⟨_, rfl⟩
      have hXl : X.length = min k m := by rw [hX, List.length_take, cyc_length]; omega
      obtain ⟨c, hcc⟩ : ∃ c, X.length = c := ⟨_, rfl⟩
      have hz := AZ.out
      have AX : Aside (X.length = c ∧ c = min k m ∧ k + X.length ≤ (splice zs 0 (cyc l d k)).length ∧ splice (splice zs 0 (cyc l d k)) k X = splice zs 0 (cyc l d (k + c))) := by
        have hcl := cyc_length l d k
        refine ⟨hcc, by omega, by rw [length_splice _ _ _ (by omega)]; omega, ?_⟩
        have := splice_app zs (cyc l d k) X (by omega)
        rw [hcl] at this
        rw [this, hX, cyc_app l d k (min k m) hdk (by omega)]
        congr 2; omega
      have AS : Aside (∀ j z, X[j]? = some z → wr.cell? ((⟨g, 0, none⟩ : Addr).add j) = some (.int .u8 z)) := fun j z hz' => by
        rw [add_lit, Nat.zero_add]
        refine hck.byte ?_
        rw [hX, List.getElem?_take] at hz'
        split at hz'
        · rename_i hj
          have hcl := cyc_length l d k
          rw [splice_get _ _ _ _ (by omega), if_pos (by omega), Nat.sub_zero]
          exact hz'
        · cases hz'
      have AQ : Aside ((d ∣ (k + c) ∨ k + c = n) ∧ 1 ≤ c ∧ k + c ≤ n) := by
        have hn := AN.out
        refine ⟨?_, by omega, by omega⟩
        by_cases hkm : k ≤ m
        · left
          rw [show k + c = k + k by omega]
          exact Nat.dvd_add hdk hdk
        · right; omega
      have hw1 : IntKind.i64.wrap ((k : Nat) : Int) = (k : Int) := by have := AN.out; rw [IntKind.wrap_i64]; omega
      have hcb : k + c ≤ 65536 := by have := AN.out; have := AQ.out.2.2; omega
      have hnb := AN.out
      have hw2 : IntKind.i64.wrap ((k : Int) + (c : Int)) = (k : Int) + c := by rw [IntKind.wrap_i64]; omega
      clear hz hX hXl hcc hdv hk1 hkg
      go_wp2_with fail
      go_region_law (refine step_copy_only rfl (.tmp 43) (.tmp 46) rfl (some ⟨g, k, none⟩) (some ⟨g, 0, none⟩) m m k n (by go_simp) (by go_simp) g k (splice zs 0 (cyc l d k)) (by exact hck) X (by have := AX.out; show X.length = min _ _; omega) (fun _ => ⟨rfl, _, rfl, by exact AS.out⟩) AX.out.2.2.1 ?_; intro w3 hg3 ho3; rw [AX.out.1])
      all_goals
        rw [AX.out.2.2.2] at hg3
        go_wp2_with fail
        have AK := AK.out
        have AQ := AQ.out
        go_roundg (gk - c)
        case measure => omega
        case rel => exact ⟨k + c, by omega, by go_num, AQ.1, Or.inl (by omega), hg3, hok.trans ⟨ho3.os, ho3.tape, ho3.output, ho3.size, ho3.block⟩⟩
    · have hki : ¬ (k : Int) < (n : Int) := by omega
      have hkn : k = n := by omega
      subst hkn
      have hr := hal.only hok hHg hKg
      rw [splice_all _ _ (by rw [cyc_length, AZ.out])] at hck
      have hmi := moveIn_r g k wr hr hck (cyc_length _ _ _) AN.out hHg hKg
      have AB : Aside (Below w.heap.size w wr) := by show Below _ _ _; rw [AG.out]; exact bel1.trans (hok.below (Nat.le_refl _))
      clear hr hok hkg bel1 hal
      go_wp2_with fail
      refine hmi.mono ?_
      rintro e w4 ⟨rfl, hr4, ht4⟩
      go_wp2_with fail
      go_ret2
      refine ⟨rfl, ?_, hr4, ?_⟩
      · unfold Cells at hck ⊢
        rw [ht4.block g (Ne.symm hHg) (Ne.symm hKg)]; exact hck
      · exact (Grw.of_below AB.out).trans (Grw.of_two ht4)
theorem repeat_yes {H K N : Nat} {l : List Int} (d n : Nat) (w : World) (r : Rg w H K N l) (h1 : 1 ≤ d) (hd : d ≤ l.length) (hn : n ≤ 65536) :
    Calls Try.prog 14 #[.pointer (some ⟨H, 0, none⟩), .int .i64 (d : Int), .int .i64 (n : Int)] w fun e w' => e = .returned (.tuple #[.slice (some ⟨w.heap.size, 0, none⟩) n n, .bool true]) ∧ Cells w' w.heap.size (vb (cyc l d n)).toArray 5 ∧ Rg w' H K N (lastN N (l ++ cyc l d n)) ∧ Grw H K w w' := by
  by_cases hc : d ≤ n
  · exact repeat_a d n w r h1 hd hn hc
  · exact repeat_b d n w r h1 hd hn (by omega)
end Go.Proofs.Ytlipkncnomndnaa

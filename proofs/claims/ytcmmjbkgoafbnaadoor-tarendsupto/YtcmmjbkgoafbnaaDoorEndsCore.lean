/-
  TarEnds' walk.
-/
import Derived.Test.YtcmmjbkgoafbnaaDoorMn
import Derived.Test.YtcmmjbkgoafbnaaDoorMi
namespace Go.Proofs.YtcmmjbkgoafbnaaDoor
open Go.RowKit
set_option linter.unusedVariables false
theorem lies_pre {w : World} {a : Option Addr} {l m : List Nat} (h : Lies w a (l ++ m)) : Lies w a l := by
  rcases h with h | ⟨b, o, ha, hc⟩
  · exact Or.inl (List.append_eq_nil_iff.1 h).1
  · exact Or.inr ⟨b, o, ha, fun i x hx => hc i x (by rw [List.getElem?_append_left (List.getElem?_eq_some_iff.1 hx).1]; exact hx)⟩
theorem Nl.drewN {w : World} {a : Option Addr} {ns : List (List Nat)} (h : Nl w a ns) (n : Nat) : Nl (w.drewN n) a ns := h
/-- A list of the call's own that was put together. -/
theorem own_li {w : World} {lo n : Nat} {v : Value} {l m : List Nat} (h : Ow w lo 5 1 v n (ob l ++ ob m)) : ∃ a c, v = .slice a n c ∧ Lies w a (l ++ m) ∧ (l ++ m).length = n := by
  rw [ob_append] at h
  obtain ⟨a, c, hv, hl, _, h1, _⟩ := h.lies
  exact ⟨a, c, hv, h1, hl⟩
set_option maxRecDepth 100000 in
set_option maxHeartbeats 8000000 in
theorem ends_core (w : World) (he : Er w) (a : Option Addr) (l : List Ent) (N C : Nat) (h : Ea w a l N) (aB : Option Addr) (B : List Nat) (lb cb : Nat) (hB : Lies w aB B) (hlb : B.length = lb) (hbb : lb ≤ 1048576) (hBo : Oct B) (hBz : aB = none → lb = 0 ∧ cb = 0) : Calls Tryd.prog 6 #[.slice a N C, .slice aB lb cb] w fun e w' => e = .returned (.bool true) ∧ Below w.heap.size w w' := by
  have hs := h.small (Below.refl _ w) C
  obtain ⟨lo, hlo⟩ : ∃ lo, w.heap.size = lo := ⟨_, rfl⟩
  have h3 := he.1
  have AW : Aside (∀ u, Below lo w u → Calls Tryd.prog 16 #[] u fun e w' => e = .returned (.bool true) ∧ Below u.heap.size u w') := fun u hu => by
    rw [← hlo] at hu
    exact awake_c u (he.below hu (by omega))
  have A : Aside (Ea w a l N ∧ (∀ u, Below lo w u → Er u) ∧ w.heap.size = lo ∧ 3 ≤ lo) := ⟨h, fun u hu => he.below (show Below w.heap.size w u by rw [hlo]; exact hu) (by omega), hlo, by omega⟩
  have AB : Aside (Lies w aB B ∧ B.length = lb ∧ lb ≤ 1048576 ∧ Oct B) := ⟨hB, hlb, hbb, hBo⟩
  have AK : Aside ((ob B).length = lb * 1 ∧ ∀ n, n ≤ 300000000 → n + lb ≤ maxLen ∧ (n + lb) * 1 ≤ 140737488355328 ∧ 0 + n ≤ maxLen ∧ (0 + n) * 1 ≤ 140737488355328 ∧ n + 1 ≤ maxLen ∧ (n + 1) * 1 ≤ 140737488355328) := ⟨by rw [ob_length]; omega, fun n hn => by unfold maxLen; omega⟩
  rw [hlo]
  clear h he hlo h3 hB hlb hbb hBo
  go_enter Tryd.func6, Tryd.ntmps6
  go_upto_if 19 with (go_at_call 17; refine hs.mono ?_; rintro e1 w1 ⟨⟨b, rfl, hb⟩, rfl⟩)
  clear hs
  cases b with
  | false =>
    have ha := AW.out w (Below.refl _ _)
    clear hb
    go_wp2_with (go_at_call 16; refine ha.mono ?_; rintro e2 w2 ⟨rfl, b2⟩)
    first | go_ret | go_ret2
    rw [A.out.2.2.1] at b2
    exact ⟨rfl, b2⟩
  | true =>
    have AS : Aside (N * 500 + sdt l < 20000) := hb rfl
    have hwr := A.out.1.write (Below.refl _ w) AS.out C
    clear hb
    go_upto_region 4 with (go_at_call 19; refine hwr.mono ?_; intro e3 w3 h3; obtain ⟨a3, n, c3, he3, hl3, hb3, hc3, li3, ow3, b3⟩ := h3.ex; subst he3)
    obtain ⟨g3, rfl⟩ : ∃ g3, a3 = some ⟨g3, 0, none⟩ := by
      obtain ⟨a9, c9, hv, _, hq, _⟩ := ow3.shape
      cases hv
      rcases hq with q | ⟨g, hg, _⟩
      · have : (wri l).length = (wal l).length + 1024 := by unfold wri; rw [List.length_append, List.length_replicate]
        omega
      · exact ⟨g, hg⟩
    obtain ⟨m, hm⟩ : ∃ m, (wal l).length = m := ⟨_, rfl⟩
    have hnm : n = m + 1024 := by
      rw [← hl3, ← hm]; unfold wri; rw [List.length_append, List.length_replicate]
    have htd := A.out.1.told b3 AS.out C
    have bl3 : Below lo w w3 := by rw [← A.out.2.2.1]; exact b3
    have A3 : Aside (Below lo w w3 ∧ lo ≤ w3.heap.size ∧ Lies w3 (some ⟨g3, 0, none⟩) (wri l) ∧ (wri l).length = n ∧ n ≤ 300000000 ∧ (wal l).length = m ∧ n = m + 1024 ∧ n ≤ c3) := ⟨bl3, by have := b3.size; have := A.out.2.2.1; omega, li3, hl3, hb3, hm, hnm, hc3⟩
    clear hwr h3 hl3 hb3 hc3 li3 ow3 b3 bl3 hm hnm
    go_upto_region 5 with (go_at_call 20; refine htd.mono ?_; intro e5 w5 h5; obtain ⟨bn, mm, dn, bl_, dl, he5, hn5, hm5, nl5, rl5, b5⟩ := h5.ex; subst he5)
    obtain ⟨H5, hH5⟩ : ∃ H5, w5.heap.size = H5 := ⟨_, rfl⟩
    have bl5 : Below lo w w5 := A3.out.1.trans (b5.mono A3.out.2.1)
    have li5 := A3.out.2.2.1.below b5
    have lb5 : Lies w5 aB B := AB.out.1.below (by rw [A.out.2.2.1]; exact bl5)
    have bA : Below w5.heap.size w5 (w5.alloc (.cells #[] 5)) := (Below.refl _ w5).alloc (Nat.le_refl _) _
    have how : Ow (w5.alloc (.cells #[] 5)) H5 5 1 (.slice (some ⟨H5, 0, none⟩) 0 0) 0 (ob []) := by rw [← hH5]; exact Ow.made (Nat.le_refl _)
    have hz5 := lies_ob (li5.below bA)
    obtain ⟨i0, hii, hz0, hz1, hz2⟩ := ginfo_parts ginfo5
    have AZ : Aside ((ob (wri l)).length = n * 1) := by rw [ob_length, Nat.mul_one]; exact A3.out.2.2.2.1
    have A5 : Aside (Below lo w w5 ∧ lo ≤ w5.heap.size ∧ Nl w5 bn (tdn l) ∧ Rl w5 bl_ (tdd l) ∧ (tdn l).length = mm ∧ (tdd l).length = mm ∧ Lies w5 (some ⟨g3, 0, none⟩) (wri l) ∧ w5.heap.size = H5 ∧ Below w5.heap.size w5 (w5.alloc (.cells #[] 5)) ∧ Lies w5 aB B) := ⟨bl5, by have := b5.size; have := A3.out.2.1; omega, nl5, rl5, hn5, hm5, li5, hH5, bA, lb5⟩
    clear htd h5 hn5 hm5 nl5 rl5 b5 bl5 li5 lb5 bA
    go_upto_region 6 with (first
      | (at_builtin; refine wpList_ow Tryd.prog _ rfl (.tmp 29) (.tmp 30) 22 rfl 5 i0 _ 1 1 Tryd.underlying22 hii hz0 hz1 hz2 rfl (by decide) H5 (.slice (some ⟨H5, 0, none⟩) 0 0) 0 _ (by rfl) how (some ⟨g3, 0, none⟩) (ob (wri l)) n c3 AZ.out (by rfl) (by intro h; cases h) hz5 ob_one (AK.out.2 n A3.out.2.2.2.2.1).2.2.1 (AK.out.2 n A3.out.2.2.2.2.1).2.2.2.1 ?_; intro v6 w6 hg6; obtain ⟨a6, c6, hv6, _⟩ := hg6.ow.shape; rw [Nat.zero_add] at hv6; subst hv6; have ho6 := hg6.ow; rw [ob_append, Nat.zero_add, List.nil_append] at ho6; have hB6 := lies_ob (A5.out.2.2.2.2.2.2.2.2.2.below (A5.out.2.2.2.2.2.2.2.2.1.trans (hg6.bel.mono (Nat.le_of_eq A5.out.2.2.2.2.2.2.2.1)))))
      | (at_builtin; refine wpList_ow Tryd.prog _ rfl (.tmp 31) (.tmp 32) 22 rfl 5 i0 _ 1 1 Tryd.underlying22 hii hz0 hz1 hz2 rfl (by decide) H5 (.slice a6 n c6) n _ (by rfl) ho6 aB (ob B) lb cb AK.out.1 (by rfl) hBz hB6 ob_one (AK.out.2 n A3.out.2.2.2.2.1).1 (AK.out.2 n A3.out.2.2.2.2.1).2.1 ?_; intro v7 w7 hg7; obtain ⟨a7, c7, hv7, li7, hl7⟩ := own_li hg7.ow; subst hv7; have b57 : Below w5.heap.size w5 w7 := (A5.out.2.2.2.2.2.2.2.2.1.trans ((hg6.bel.trans hg7.bel).mono (Nat.le_of_eq A5.out.2.2.2.2.2.2.2.1))); have bl7 : Below lo w w7 := A5.out.1.trans (b57.mono A5.out.2.1); obtain ⟨sx, Tx, hrx, hzx, hpx⟩ := ends_run (A.out.1.eok AS.out) (List.replicate 512 0 ++ B); have e7 : wal l ++ (List.replicate 512 0 ++ (List.replicate 512 0 ++ B)) = wri l ++ B := (by rw [wri_eq, List.append_assoc, List.append_assoc]); rw [e7] at hrx; have hwh := whole_l (b := []) (C := c7) (A.out.2.1 w7 bl7) li7 hl7 (by have := A3.out.2.2.2.2.1; have := AB.out.2.2.1; omega) ((wri_oct (A.out.1.eok AS.out)).app AB.out.2.2.2) hrx (Or.inr hl7) hpx hzx)
      | (go_at_call 18; refine hwh.mono ?_; intro e8 w8 h8; obtain ⟨an, nn, cn, al, nl, cl, he8, hn8, hm8, nl8, rl8, b8⟩ := h8.ex; subst he8))
    have a5 := A5.out
    have b58 : Below w5.heap.size w5 w8 := b57.trans (b8.mono b57.size)
    obtain rfl : nn = mm := by rw [← hn8]; exact a5.2.2.2.2.1
    obtain rfl : nl = nn := by rw [← hm8]; exact a5.2.2.2.2.2.1
    have bl8 : Below lo w w8 := a5.1.trans (b58.mono a5.2.1)
    have A8 : Aside (Below lo w w8 ∧ lo ≤ w8.heap.size ∧ Nl w8 bn (tdn l) ∧ Rl w8 bl_ (tdd l) ∧ (tdn l).length = nl ∧ (tdd l).length = nl ∧ Lies w8 (some ⟨g3, 0, none⟩) (wri l) ∧ Nl w8 an (tdn l) ∧ Rl w8 al (tdd l)) := ⟨bl8, by have := b58.size; have := a5.2.1; omega, a5.2.2.1.below b58, a5.2.2.2.1.below b58, a5.2.2.2.2.1, a5.2.2.2.2.2.1, a5.2.2.2.2.2.2.1.below b58, nl8, rl8⟩
    have li8 : Lies w8 (some ⟨g3, 0, none⟩) (wal l) := lies_pre (m := List.replicate 1024 0) A8.out.2.2.2.2.2.2.1
    have r1 : (n : Int) - 1024 = (m : Int) := by have := A3.out.2.2.2.2.2.2.1; omega
    have bn1 : (n : Int) ≤ 300000000 := by have := A3.out.2.2.2.2.1; omega
    have bn2 : (1024 : Int) ≤ (n : Int) := by omega
    have hsl := slice_t g3 0 n c3 m (by have := A3.out.2.2.2.2.2.2.1; omega) A3.out.2.2.2.2.2.2.2 (by have := A3.out.2.2.2.2.2.2.1; have := A3.out.2.2.2.2.2.2.2; omega)
    obtain ⟨sx, Tx, hrx, hzx, hpx⟩ := bare_run (A.out.1.eok AS.out)
    have hwh := whole_l (b := []) (C := c3) (A.out.2.1 w8 bl8) li8 A3.out.2.2.2.2.2.1 (by have := A3.out.2.2.2.2.1; have := A3.out.2.2.2.2.2.2.1; omega) (wal_oct l (A.out.1.eok AS.out)) hrx (Or.inr A3.out.2.2.2.2.2.1) hpx hzx
    clear h8 hg6 hg7 ho6 hB6 li7 hl7 b57 bl7 hrx hzx hpx e7 b58 bl8 nl8 rl8 hn8 hm8 b8 a5 how hz5 hH5 A5
    go_upto_region 7 with (go_at_call 18; refine hwh.mono ?_; intro e9 w9 h9; obtain ⟨xn, xm, xc, yl, ym, yc, he9, hn9, hm9, nl9, rl9, b9⟩ := h9.ex; subst he9)
    obtain rfl : xm = nl := by rw [← hn9]; exact A8.out.2.2.2.2.1
    obtain rfl : ym = xm := by rw [← hm9]; exact A8.out.2.2.2.2.2.1
    obtain ⟨H9, hH9⟩ : ∃ H9, w9.heap.size = H9 := ⟨_, rfl⟩
    have bl9 : Below lo w w9 := A8.out.1.trans (b9.mono A8.out.2.1)
    have li9 := li8.below b9
    have bA : Below w9.heap.size w9 (w9.alloc (.cells #[] 5)) := (Below.refl _ w9).alloc (Nat.le_refl _) _
    have how : Ow (w9.alloc (.cells #[] 5)) H9 5 1 (.slice (some ⟨H9, 0, none⟩) 0 0) 0 (ob []) := by rw [← hH9]; exact Ow.made (Nat.le_refl _)
    have hz9 := lies_ob (li9.below bA)
    have AZ2 : Aside ((ob (wal l)).length = m * 1 ∧ m ≤ 300000000) := ⟨by rw [ob_length, Nat.mul_one]; exact A3.out.2.2.2.2.2.1, by have := A3.out.2.2.2.2.1; have := A3.out.2.2.2.2.2.2.1; omega⟩
    have A9 : Aside (Below lo w w9 ∧ lo ≤ w9.heap.size ∧ Nl w9 bn (tdn l) ∧ Rl w9 bl_ (tdd l) ∧ (tdn l).length = ym ∧ (tdd l).length = ym ∧ Nl w9 an (tdn l) ∧ Rl w9 al (tdd l) ∧ Nl w9 xn (tdn l) ∧ Rl w9 yl (tdd l) ∧ w9.heap.size = H9 ∧ Below w9.heap.size w9 (w9.alloc (.cells #[] 5))) := ⟨bl9, by have := b9.size; have := A8.out.2.1; omega, A8.out.2.2.1.below b9, A8.out.2.2.2.1.below b9, A8.out.2.2.2.2.1, A8.out.2.2.2.2.2.1, A8.out.2.2.2.2.2.2.2.1.below b9, A8.out.2.2.2.2.2.2.2.2.below b9, nl9, rl9, hH9, bA⟩
    clear hwh h9 hn9 hm9 nl9 rl9 b9 bl9 li9 li8 bA A8
    go_upto_region 8 with (first
      | (at_builtin; go_loud (refine wpList_ow Tryd.prog _ rfl (.tmp 49) (.tmp 54) 22 rfl 5 i0 _ 1 1 Tryd.underlying22 hii hz0 hz1 hz2 rfl (by decide) H9 (.slice (some ⟨H9, 0, none⟩) 0 0) 0 _ (by rfl) how (some ⟨g3, 0, none⟩) (ob (wal l)) m c3 AZ2.out.1 (by rfl) (by intro h; cases h) hz9 ob_one (AK.out.2 m AZ2.out.2).2.2.1 (AK.out.2 m AZ2.out.2).2.2.2.1 ?_; intro v6 w6 hg6; obtain ⟨a6, c6, hv6, _⟩ := hg6.ow.shape; rw [Nat.zero_add] at hv6; subst hv6; have ho6 := hg6.ow; rw [ob_append, Nat.zero_add, List.nil_append] at ho6; obtain ⟨H6, hH6⟩ : ∃ H6, w6.heap.size = H6 := ⟨_, rfl⟩; have b6 : Below w6.heap.size w6 (w6.alloc (.cells #[.int .u8 1] 5)) := (Below.refl _ w6).alloc (Nat.le_refl _) _; have how6 := ho6.below b6 (Nat.le_refl _); have h1c : (ob [1] = [] ∨ ∃ b o, (some ⟨H6, 0, none⟩ : Option Addr) = some ⟨b, o, none⟩ ∧ ∀ i u, (ob [1])[i]? = some u → (w6.alloc (.cells #[.int .u8 1] 5)).cell? ⟨b, o + i, none⟩ = some u) := one_cell (x := 1) hH6))
      | (at_builtin; go_loud (refine wpList_ow Tryd.prog _ rfl (.tmp 55) (.tmp 56) 22 rfl 5 i0 _ 1 1 Tryd.underlying22 hii hz0 hz1 hz2 rfl (by decide) H9 (.slice a6 m c6) m _ (by rfl) how6 (some ⟨H6, 0, none⟩) (ob [1]) 1 1 rfl (by rfl) (by intro h; cases h) h1c ob_one (AK.out.2 m AZ2.out.2).2.2.2.2.1 (AK.out.2 m AZ2.out.2).2.2.2.2.2 ?_; intro v7 w7 hg7; obtain ⟨a7, c7, hv7, li7, hl7⟩ := own_li hg7.ow; subst hv7; have b97 : Below w9.heap.size w9 w7 := (A9.out.2.2.2.2.2.2.2.2.2.2.2.trans ((hg6.bel.trans (b6.mono ho6.le)).trans hg7.bel |>.mono (Nat.le_of_eq A9.out.2.2.2.2.2.2.2.2.2.2.1))); have bl7 : Below lo w w7 := A9.out.1.trans (b97.mono A9.out.2.1); obtain ⟨sx, Tx, hrx, hzx, hpx⟩ := cut_run (A.out.1.eok AS.out) 1; have hwh := whole_l (b := []) (C := c7) (A.out.2.1 w7 bl7) li7 hl7 (by have := AZ2.out.2; omega) ((wal_oct l (A.out.1.eok AS.out)).app (fun x hx => by simp at hx; omega)) hrx (Or.inr hl7) hpx hzx))
      | (go_at_call 18; refine hwh.mono ?_; intro e8 w8 h8; obtain ⟨zn, zm, zc, ql, qm, qc, he8, hn8, hm8, nl8, rl8, b8⟩ := h8.ex; subst he8))
    have a9 := A9.out
    have b98 : Below w9.heap.size w9 w8 := b97.trans (b8.mono b97.size)
    have few := tdn_few A.out.1 AS.out
    have doc := tdd_oct A.out.1
    have fewn : ym < 200000000001 := by have := a9.2.2.2.2.1; omega
    have AF : Aside (Below lo w w8 ∧ lo ≤ w8.heap.size ∧ (∀ k, Calls Tryd.prog 22 #[.slice al ym cl, .slice bl_ ym dl] (w8.drewN k) fun e w' => e = .returned (.bool true) ∧ ∃ j, w' = (w8.drewN k).drewN j) ∧ (∀ k, Calls Tryd.prog 21 #[.slice xn ym xc, .slice bn ym dn] (w8.drewN k) fun e w' => e = .returned (.bool true) ∧ ∃ j, w' = (w8.drewN k).drewN j) ∧ (∀ k, Calls Tryd.prog 22 #[.slice yl ym yc, .slice bl_ ym dl] (w8.drewN k) fun e w' => e = .returned (.bool true) ∧ ∃ j, w' = (w8.drewN k).drewN j)) := by
      refine ⟨a9.1.trans (b98.mono a9.2.1), by have := b98.size; have := a9.2.1; omega, fun k => ?_, fun k => ?_, fun k => ?_⟩
      · exact rows_c (w8.drewN k) al bl_ (tdd l) ym cl dl a9.2.2.2.2.2.1 fewn ((a9.2.2.2.2.2.2.2.1.below b98).drewN k) ((a9.2.2.2.1.below b98).drewN k) doc
      · exact strings_c (w8.drewN k) xn bn (tdn l) ym xc dn a9.2.2.2.2.1 fewn (Nl.drewN (a9.2.2.2.2.2.2.2.2.1.below b98) k) (Nl.drewN (a9.2.2.1.below b98) k)
      · exact rows_c (w8.drewN k) yl bl_ (tdd l) ym yc dl a9.2.2.2.2.2.1 fewn ((a9.2.2.2.2.2.2.2.2.2.1.below b98).drewN k) ((a9.2.2.2.1.below b98).drewN k) doc
    have k1 := strings_c w8 an bn (tdn l) ym cn dn a9.2.2.2.2.1 fewn (a9.2.2.2.2.2.2.1.below b98) (a9.2.2.1.below b98)
    clear hwh h8 hg6 hg7 ho6 how6 h1c li7 hl7 b97 bl7 hrx hzx hpx b98 nl8 rl8 hn8 hm8 b8 a9 how hz9 A9 few doc fewn b6 hH6 hH9
    go_wp2_with (first
      | (go_at_call 21; go_loud ((with_reducible refine k1.mono ?_); rintro e10 w10 ⟨rfl, m10, hm10⟩; have k2 := AF.out.2.2.1 m10; rw [← hm10] at k2; have A10 : Aside (w10 = w8.drewN m10) := hm10; clear hm10))
      | (go_at_call 22; go_loud ((with_reducible refine k2.mono ?_); rintro e11 w11 ⟨rfl, m11, hm11⟩; rw [A10.out, World.drewN_drewN] at hm11; have k3 := AF.out.2.2.2.1 (m10 + m11); rw [← hm11] at k3; have A11 : Aside (w11 = w8.drewN (m10 + m11)) := hm11; clear hm11))
      | (go_at_call 21; go_loud ((with_reducible refine k3.mono ?_); rintro e12 w12 ⟨rfl, m12, hm12⟩; rw [A11.out, World.drewN_drewN] at hm12; have k4 := AF.out.2.2.2.2 (m10 + m11 + m12); rw [← hm12] at k4; have A12 : Aside (w12 = w8.drewN (m10 + m11 + m12)) := hm12; clear hm12))
      | (go_at_call 22; go_loud ((with_reducible refine k4.mono ?_); rintro e13 w13 ⟨rfl, m13, hm13⟩; have bl13 : Below lo w w13 := (by rw [hm13, A12.out]; exact Below.drewN2 (Below.drewN2 AF.out.1 _) _); clear hm13; have ha := AW.out w13 bl13; have hs13 : lo ≤ w13.heap.size := (by have := bl13.size; have := A.out.2.2.1; omega)))
      | (go_at_call 16; refine ha.mono ?_; rintro e14 w14 ⟨rfl, b14⟩))
    first | go_ret | go_ret2
    exact ⟨rfl, bl13.trans (b14.mono hs13)⟩
end Go.Proofs.YtcmmjbkgoafbnaaDoor

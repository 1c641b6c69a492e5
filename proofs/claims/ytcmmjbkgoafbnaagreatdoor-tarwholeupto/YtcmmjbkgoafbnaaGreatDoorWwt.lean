/-
  What the document's Write comes to.
-/
import Derived.Test.YtcmmjbkgoafbnaaGreatDoorWwe
import Derived.Test.YtcmmjbkgoafbnaaGreatDoorMar
namespace Go.Proofs.YtcmmjbkgoafbnaaGreatDoor
open Go.RowKit
set_option linter.unusedVariables false
set_option linter.unusedSimpArgs false
theorem wh512_len (l : List Nat) : (wh512 l).length ≤ l.length + 511 := by
  unfold wh512 fil
  rw [List.length_append, List.length_replicate]
  have := Nat.mod_lt (512 - l.length % 512) (show 0 < 512 by decide)
  omega
theorem sad_len2 {k v : List Nat} (hk : k.length ≤ 10) (hv : v.length ≤ 300) : (sad k v).length ≤ 400 := by
  rw [sad_len (by omega)]
  have := (sdl_ok (s := k.length + v.length + 3) (by omega)).2
  omega
theorem wpr_len {h : Nat} {n d : List Nat} (hn : n.length ≤ 256) (hd : d.length ≤ 100000) : (wpr h n d).length ≤ 4000 := by
  have h1 := sad_len2 (k := kpath) (v := n) (by decide) (by omega)
  have h2 := sad_len2 (k := ksize) (v := dgs d.length) (by decide) (by have := dgs_len (n := d.length) (by omega); omega)
  unfold wpr
  split
  · rw [List.length_append, hdr_len]; have := wh512_len (n ++ [0]); rw [List.length_append, List.length_singleton] at this; omega
  · split
    · rw [List.length_append, hdr_len]; have := wh512_len (sad kpath n); omega
    · split
      · rw [List.length_append, hdr_len]; have := wh512_len (sad kpath n ++ sad ksize (dgs d.length)); rw [List.length_append] at this; omega
      · simp
theorem wen_len {e : Ent} (he : Eok e) : (wen e).length ≤ 200000 := by
  have hd := he.dl
  have hw := wh512_len e.2.1
  unfold wen
  split
  · rw [List.length_append, hdr_len]; omega
  · rw [List.length_append, List.length_append, hdr_len]
    have := wpr_len (h := whw e.2.2.1 (nmd e.1)) (nmd_len e.1) hd
    omega
theorem wal_len : ∀ (l : List Ent), (∀ e ∈ l, Eok e) → (wal l).length ≤ 200000 * l.length
  | [], _ => Nat.le_refl _
  | e :: r, h => by
    have h1 := wen_len (h e (by simp))
    have h2 := wal_len r fun x hx => h x (List.mem_cons_of_mem _ hx)
    simp only [wal, List.length_append, List.length_cons]
    omega
theorem wal_more {l : List Ent} {i : Nat} {e : Ent} (h : l[i]? = some e) : wal (l.take (i + 1)) = wal (l.take i) ++ wen e := by
  obtain ⟨h1, h2⟩ := List.getElem?_eq_some_iff.1 h
  rw [List.take_succ_eq_append_getElem h1, h2, wal_append]
  simp [wal]
section
variable {lo E n : Nat} {w wr u : World} {v : Value} {z : List Nat} {da : Option Addr} {L C how kd : Nat} {s0 : Value}
theorem Rw.drew' {cs : Array Value} (h : Rw lo E w wr v n z cs) : Rw lo E w wr.drew v n z cs := ⟨h.ow.drew, h.bel.drew, h.ev, h.len⟩
theorem Rw.held (h : Rw lo E w wr v n z #[s0, .slice da L C, .int .u8 (how : Int), .int .u8 (kd : Int)]) : wr.cell? ⟨E, 1, none⟩ = some (.slice da L C) ∧ wr.cell? ⟨E, 3, none⟩ = some (.int .u8 (kd : Int)) := ⟨by rw [h.ev.cell]; rfl, by rw [h.ev.cell]; rfl⟩
end
theorem sad_oct {k v : List Nat} (hk : Oct k) (hv : Oct v) : Oct (sad k v) := by
  unfold sad
  have h32 : Oct [32] := fun x hx => by simp at hx; omega
  have h61 : Oct [61] := fun x hx => by simp at hx; omega
  have h10 : Oct [10] := fun x hx => by simp at hx; omega
  exact (((((dgs_oct _ _ (Nat.le_refl _)).app h32).app hk).app h61).app hv).app h10
theorem kpath_oct : Oct kpath := by unfold Oct kpath; decide
theorem ksize_oct : Oct ksize := by unfold Oct ksize; decide
theorem om_whole {w : World} {lo n : Nat} {a : Option Addr} {c : Nat} {l : List Nat} (h : Om w lo (.slice a n c) n l) (hl : l.length = n) (hb : n ≤ 1000000000) : Calls Tryz.prog 38 #[.slice a n c] w fun e w' => ∃ v, e = .returned v ∧ Ow w' w.heap.size 5 1 v (wh512 l).length (ob (wh512 l)) ∧ Below w.heap.size w w' := by
  obtain ⟨a', c', hv, hli⟩ := h.lies
  cases hv
  refine whole38 a l n c w hl hb (fun ha => ?_) hli
  obtain ⟨g, cap, cur, fz, h1, _⟩ := h.ex
  cases h1
  cases ha
set_option maxRecDepth 100000 in
set_option maxHeartbeats 8000000 in
theorem write_c (a : Option Addr) (l : List Ent) (NL C0 : Nat) (w : World) (hl : l.length = NL) (hNb : NL ≤ 1000) (hE : Em w a l) (hok : ∀ e ∈ l, Eok e) : Calls Tryz.prog 25 #[.slice a NL C0] w fun e w' => ∃ v, e = .returned v ∧ Ow w' w.heap.size 5 1 v (wri l).length (ob (wri l)) ∧ Below w.heap.size w w' := by
  obtain ⟨lo, hlo⟩ : ∃ lo, w.heap.size = lo := ⟨_, rfl⟩
  obtain ⟨i0, hii, hz0, hz1, hz2⟩ := ginfo_parts ginfo5
  have u3 : Tryz.prog.underlying 3 = some (.int .i64) := by kernel_rfl
  have A : Aside (l.length = NL ∧ NL ≤ 1000 ∧ Em w a l ∧ (∀ e ∈ l, Eok e) ∧ w.heap.size = lo ∧ (wal l).length ≤ 200000 * NL) := ⟨hl, hNb, hE, hok, hlo, by rw [← hl]; exact wal_len l hok⟩
  rw [hlo]
  clear hl hNb hE hok hlo
  go_enter Tryz.func25, Tryz.ntmps25
  go_wp2_with fail
  go_loopg [3, 4] NL (fun gg s3 s4 wr => ∃ (i : Nat) (va : Option Addr) (n c : Nat), s3 = .slice va n c ∧ s4 = .int .i64 (i : Int) ∧ Aside (i + gg = NL ∧ Ow wr lo 5 1 (.slice va n c) n (ob (wal (l.take i))) ∧ n = (wal (l.take i)).length ∧ Below lo w wr))
  case atStart => exact ⟨0, none, 0, 0, rfl, rfl, ⟨by omega, Ow.nil (by rw [A.out.2.2.2.2.1]; exact Nat.le_refl _), rfl, Below.refl _ _⟩⟩
  case round =>
    obtain ⟨i, va, n, c, rfl, rfl, hI⟩ := hrel
    obtain ⟨hig, how0, hn, hbel⟩ := hI.out
    have a0 := A.out
    obtain ⟨z, hz⟩ : ∃ z, wal (l.take i) = z := ⟨_, rfl⟩
    rw [hz] at how0 hn
    have hnb : n ≤ 200000 * 1000 := by
      have h1 := wal_len (l.take i) fun x hx => a0.2.2.2.1 x (List.mem_of_mem_take hx)
      rw [hz, List.length_take] at h1
      have h2 : min i l.length ≤ 1000 := by omega
      have h3 := Nat.mul_le_mul_left 200000 h2
      omega
    by_cases hiN : i < NL
    · have t1 : ((i : Int) < (NL : Int)) = True := eq_true (by omega)
      have t1n : (i < NL) = True := eq_true hiN
      obtain ⟨e, he⟩ : ∃ e, l[i]? = some e := ⟨_, List.getElem?_eq_getElem (by omega)⟩
      have hek := a0.2.2.2.1 e (List.mem_of_getElem? he)
      have hmore := wal_more he
      obtain ⟨eb, eo, rfl, hEm⟩ : ∃ b o, a = some ⟨b, o, none⟩ ∧ ∀ (i : Nat) (e : Ent), l[i]? = some e → E1 w b (o + i * 4) e := by
        rcases a0.2.2.1 with q | q
        · rw [q] at he; simp at he
        · exact q
      have e1 := hEm i e he
      obtain ⟨da, L, C, g1, g2, g3, g4, g5, g6, g7, g8⟩ := (e1.below hbel (Nat.le_of_eq a0.2.2.2.2.1)).ex
      have hdl : Lies w da e.2.1 := by
        obtain ⟨da', L', C', k1, k2, k3, k4, k5, k6, k7, k8⟩ := e1.ex
        have hb : eb < lo := Classical.byContradiction fun hc => by
          have : w.heap[eb]? = none := Array.getElem?_eq_none (by have := a0.2.2.2.2.1; omega)
          simp [World.cell?, this] at k1
        have kk : wr.cell? ⟨eb, eo + i * 4 + 1, none⟩ = w.cell? ⟨eb, eo + i * 4 + 1, none⟩ := World.cell?_of_block (w := w) (hbel.block eb hb)
        rw [kk, k2] at g2
        cases g2
        exact k5
      obtain ⟨d, hd⟩ : ∃ d, e.2.1 = d := ⟨_, rfl⟩
      obtain ⟨how, hhow⟩ : ∃ x, e.2.2.1 = x := ⟨_, rfl⟩
      obtain ⟨kd, hkd⟩ : ∃ x, e.2.2.2 = x := ⟨_, rfl⟩
      obtain ⟨nm, hnm⟩ : ∃ x, nmd e.1 = x := ⟨_, rfl⟩
      obtain ⟨s0, hs0⟩ : ∃ x, st e.1 = x := ⟨_, rfl⟩
      obtain ⟨ns, hns⟩ : ∃ x, st nm = x := ⟨_, rfl⟩
      obtain ⟨nn, hnn⟩ : ∃ x, nm.length = x := ⟨_, rfl⟩
      have zns : ns.size = nn := by rw [← hns, st_size, hnn]
      have hnb6 : nn ≤ 256 := by rw [← hnn, ← hnm]; exact nmd_len _
      have hno : Oct nm := by rw [← hnm]; exact nmd_oct hek.n
      rw [hs0] at g1
      rw [hhow] at g3
      rw [hkd] at g4
      rw [hd] at g6 hdl
      obtain ⟨E, hEE⟩ : ∃ E, wr.heap.size = E := ⟨_, rfl⟩
      have bA : Below wr.heap.size wr (wr.alloc (.cells #[.string s0, .slice da L C, .int .u8 (how : Int), .int .u8 (kd : Int)] 59)) := (Below.refl _ wr).alloc (Nat.le_refl _) _
      obtain ⟨w2, hw2⟩ : ∃ w2, wr.alloc (.cells #[.string s0, .slice da L C, .int .u8 (how : Int), .int .u8 (kd : Int)] 59) = w2 := ⟨_, rfl⟩
      rw [hw2] at bA
      have R0 : Rw lo E w w2 (.slice va n c) n z #[.string s0, .slice da L C, .int .u8 (how : Int), .int .u8 (kd : Int)] := ⟨how0.below bA (Nat.le_refl _), hbel.trans (bA.mono how0.le), by rw [← hw2, ← hEE]; exact Cells.new wr _ 59, hn.symm⟩
      have hNa := named_c e.1 hek.n hek.nl w2
      rw [hs0, hnm, hns] at hNa
      have hLb : L ≤ 100000 := by rw [← g6, ← hd]; exact hek.dl
      have AW : Aside (∀ u, Below lo w u → Calls Tryz.prog 38 #[.slice da L C] u fun e w' => ∃ v, e = .returned v ∧ Ow w' u.heap.size 5 1 v (wh512 d).length (ob (wh512 d)) ∧ Below u.heap.size u w') := fun u bu => whole38 da d L C u g6 (by omega) g8 (hdl.below (bu.mono (Nat.le_of_eq a0.2.2.2.2.1)))
      have AO : Aside (Oct nm ∧ nm.length ≤ 1000 ∧ L ≤ 100000 ∧ (wh512 d).length ≤ 200000) := ⟨hno, by omega, hLb, by have := wh512_len d; omega⟩
      have AC : Aside (n + 10000 ≤ 300000000 ∧ True) := ⟨by omega, trivial⟩
      have AI : Aside (i < NL ∧ i + gk = NL ∧ z ++ wen e = wal (l.take (i + 1)) ∧ nmd e.1 = nm ∧ e.2.1 = d ∧ e.2.2.1 = how ∧ e.2.2.2 = kd ∧ d.length = L ∧ nm.length = nn ∧ nn ≤ 256 ∧ how < 256 ∧ kd < 256) := ⟨hiN, hig, by rw [hmore, hz], hnm, hd, hhow, hkd, g6, hnn, hnb6, by rw [← hhow]; exact hek.h, by rw [← hkd]; exact hek.k⟩
      have AR : Aside (Rw lo E w w2 (.slice va n c) n z #[.string s0, .slice da L C, .int .u8 (how : Int), .int .u8 (kd : Int)] ∧ wr.alloc (.cells #[.string s0, .slice da L C, .int .u8 (how : Int), .int .u8 (kd : Int)] 59) = w2 ∧ wr.heap.size = E ∧ st nm = ns) := ⟨R0, hw2, hEE, hns⟩
      have bi : (i : Int) < 1000000 := by have := a0.2.1; omega
      have bL : (L : Int) < 1000000 := by omega
      have bn : (nn : Int) < 1000 := by omega
      have bh : (how : Int) < 256 := by have := AI.out.2.2.2.2.2.2.2.2.2.2.1; omega
      have m0 := R0.ev.cell 0
      have m1 := R0.ev.cell 1
      have m2 := R0.ev.cell 2
      have m3 := R0.ev.cell 3
      clear hI hig how0 hn hbel a0 hz hnb hiN he hek hmore hEm e1 g5 g6 g7 g8 hdl hd hhow hkd hnm hs0 hns hnn hnb6 hno hEE bA hw2 R0 hLb
      go_upto_region 6 with fail
      rw [AR.out.2.1, AR.out.2.2.1]
      clear g1 g2 g3 g4
      go_upto_region 7 with (go_at_call 35; refine hNa.mono ?_; rintro e1 w3 ⟨rfl, b3⟩)
      have R3 := AR.out.1.step b3
      clear hNa m0 m1 m2 m3 b3
      have m1 := R3.ev.cell 1
      have m2 := R3.ev.cell 2
      have m3 := R3.ev.cell 3
      by_cases hk0 : kd = 0
      · have t2 : ((kd : Int) != 0) = false := by rw [hk0]; rfl
        have t2b : ((kd : Int) == 0) = true := by rw [hk0]; rfl
        obtain ⟨h4, hh4⟩ : ∃ h4, how % 4 = h4 := ⟨_, rfl⟩
        have h4b : h4 < 4 := by omega
        have q1 : (how : Int) % 4 = (h4 : Int) := by omega
        have q2 : Int.tmod (how : Int) 4 = (h4 : Int) := by rw [Int.tmod_eq_emod_of_nonneg (by omega)]; omega
        have hwd : whw how nm = if h4 = 0 ∧ 100 < nn then 1 else h4 := by unfold whw; rw [hh4, AI.out.2.2.2.2.2.2.2.2.1]
        have hhw : whw how nm = 0 ∨ whw how nm = 1 ∨ whw how nm = 2 ∨ whw how nm = 3 := by rw [hwd]; split <;> omega
        have hsx : True := trivial
        rcases hhw with hw | hw | hw | hw
        · have hc : h4 = 0 ∧ ¬ 100 < nn := by rw [hwd] at hw; split at hw <;> omega
          obtain ⟨hc1, hc2⟩ := hc
          have AG : Aside (i < NL ∧ i + gk = NL ∧ z ++ hdr nm L 48 ++ wh512 d = wal (l.take (i + 1))) := by
            have ai := AI.out
            refine ⟨ai.1, ai.2.1, ?_⟩
            rw [← ai.2.2.1]
            unfold wen
            rw [ai.2.2.2.2.2.2.1, if_neg (by rw [hk0]; simp), ai.2.2.2.1, ai.2.2.2.2.1, ai.2.2.2.2.2.1, hw]
            simp [wpr, ai.2.2.2.2.2.2.2.1, ai.2.2.2.2.2.2.2.2.1, List.append_assoc, hsx]
          have u1 : ((h4 : Int) == 0) = true := by rw [hc1]; rfl
          have u2 : ((100 : Int) < (nn : Int)) = False := eq_false (by omega)
          have u3' : ((h4 : Int) == 1) = false := by rw [hc1]; rfl
          have u4 : ((h4 : Int) == 2) = false := by rw [hc1]; rfl
          have u5 : ((h4 : Int) == 3) = false := by rw [hc1]; rfl
          have AH48 : Aside (∀ u, Calls Tryz.prog 36 #[.string ns, .int .i64 (L : Int), .int .u8 48] u fun e w' => ∃ G, e = .returned (.slice (some ⟨G, 0, none⟩) 512 512) ∧ Bk u w' G 512 (hdr nm L 48)) := fun u => by
            have := head_c nm L 48 AO.out.1 AO.out.2.1 (by have := AO.out.2.2.1; omega) (by decide) u
            rw [AR.out.2.2.2] at this
            exact this
          clear hc1 hc2 hw hwd h4b hh4 hk0 hsx
          go_upto_region 23 with fail
          clear m1 m2 m3 t2 t2b q1 q2 u1 u2 u3' u4 u5
          refine wp_region_held_drew (S := fun u => u.cell? ⟨E, 1, none⟩ = some (.slice da L C) ∧ u.cell? ⟨E, 3, none⟩ = some (.int .u8 (kd : Int))) (by kernel_rfl) R3.held (fun hHeld => ?_)
          refine wpAnyH_take (i := 0) (oi := ⟨_, _, _, _, _, _⟩) (v := ?_) rfl (by kernel_rfl) (by kernel_rfl) (by kernel_rfl) (fun _ _ _ h => h) (Or.inl ⟨by rfl, ?_⟩) hHeld ?_
          rotate_left
          · (intro w9 hSw; (try dsimp only at hSw); obtain ⟨q0, q1⟩ := hSw; go_simp; try (with_reducible rfl))
          try simp only [Act.put, List.setIfInBounds_toArray, List.set_cons_zero, List.set_cons_succ]
          refine wpAnyH_take (i := 1) (oi := ⟨_, _, _, _, _, _⟩) (v := ?_) rfl (by kernel_rfl) (by kernel_rfl) (by kernel_rfl) (fun _ _ _ h => h) (Or.inl ⟨by rfl, ?_⟩) hHeld ?_
          rotate_left
          · (intro w9 hSw; (try dsimp only at hSw); obtain ⟨q0, q1⟩ := hSw; go_simp; try (with_reducible rfl))
          try simp only [Act.put, List.setIfInBounds_toArray, List.set_cons_zero, List.set_cons_succ]
          refine wpAnyH_take (i := 2) (oi := ⟨_, _, _, _, _, _⟩) (v := ?_) rfl (by kernel_rfl) (by kernel_rfl) (by kernel_rfl) (fun _ _ _ h => h) (Or.inl ⟨by rfl, ?_⟩) hHeld ?_
          rotate_left
          · (intro w9 hSw; (try dsimp only at hSw); obtain ⟨q0, q1⟩ := hSw; go_simp; try (with_reducible rfl))
          try simp only [Act.put, List.setIfInBounds_toArray, List.set_cons_zero, List.set_cons_succ]
          refine wpAnyH_take (i := 5) (oi := ⟨_, _, _, _, _, _⟩) (v := ?_) rfl (by kernel_rfl) (by kernel_rfl) (by kernel_rfl) (fun _ _ _ h => h) (Or.inl ⟨by rfl, ?_⟩) hHeld ?_
          rotate_left
          · (intro w9 hSw; (try dsimp only at hSw); obtain ⟨q0, q1⟩ := hSw; go_simp; try (with_reducible rfl))
          try simp only [Act.put, List.setIfInBounds_toArray, List.set_cons_zero, List.set_cons_succ]
          refine wpAnyH_take (i := 6) (oi := ⟨_, _, _, _, _, _⟩) (v := ?_) rfl (by kernel_rfl) (by kernel_rfl) (by kernel_rfl) (fun _ _ _ h => h) (Or.inl ⟨by rfl, ?_⟩) hHeld ?_
          rotate_left
          · (intro w9 hSw; (try dsimp only at hSw); obtain ⟨q0, q1⟩ := hSw; go_simp; try (with_reducible rfl))
          try simp only [Act.put, List.setIfInBounds_toArray, List.set_cons_zero, List.set_cons_succ]
          refine wpAnyH_ready (rs := [3]) (by kernel_rfl) (by simp) ?_
          refine AllReadyH.cons (o := ⟨_, _, _, _, _, _⟩) rfl (fun K hK => ?_) AllReadyH.nil
          go_simp
          go_at_call 36
          refine (AH48.out _).mono ?_
          rintro e3 w4 ⟨G, rfl, bk⟩
          dsimp only
          have R4 := (R3.drew').step bk.bel
          have AZ4 : Aside ((ob (hdr nm L 48)).length = 512 * 1 ∧ (n) + 512 ≤ maxLen ∧ ((n) + 512) * 1 ≤ 140737488355328) := ⟨by rw [ob_length, hdr_len], by have := AC.out.1; unfold maxLen; omega, by have := AC.out.1; omega⟩
          have D4 := R4.held
          refine hK.out _ _ D4 (fun hH4 => ?_)
          clear hK K
          try simp only [Act.put, List.setIfInBounds_toArray, List.set_cons_zero, List.set_cons_succ]
          refine wpAnyH_ready (rs := [4]) (by kernel_rfl) (by simp) ?_
          refine AllReadyH.cons (o := ⟨_, _, _, _, _, _⟩) rfl (fun K hK => ?_) AllReadyH.nil
          refine step_ows Tryz.prog _ rfl (.tmp 89) (.tmp 92) 22 rfl 5 i0 _ 1 1 Tryz.underlying22 hii hz0 hz1 hz2 rfl (by decide) lo (.slice va n c) (n) (ob (z)) (by first | rfl | go_simp) R4.ow (some ⟨G, 0, none⟩) (ob (hdr nm L 48)) 512 512 AZ4.out.1 (by first | rfl | go_simp) (by intro h; cases h) bk.oc ob_one AZ4.out.2.1 AZ4.out.2.2 ?_
          intro pa pc pw pg
          have R5 := R4.app pg (hdr_len _ _ _)
          have D5 := R5.held
          refine hK.out _ _ D5 (fun hH5 => ?_)
          clear hK K
          try simp only [Act.put, List.setIfInBounds_toArray, List.set_cons_zero, List.set_cons_succ]
          refine wpAnyH_ready (rs := [7]) (by kernel_rfl) (by simp) ?_
          refine AllReadyH.cons (o := ⟨_, _, _, _, _, _⟩) rfl (fun K hK => ?_) AllReadyH.nil
          go_simp
          go_at_call 38
          refine (AW.out _ R5.bel).mono ?_
          rintro e7 w7 ⟨v7, rfl, ow7, b7⟩
          obtain ⟨xa, xc, hv7, hl7, hc7, hli7, hn7⟩ := ow7.lies
          obtain ⟨X, hX⟩ : ∃ X, (wh512 d).length = X := ⟨_, rfl⟩
          rw [hX] at hv7 hn7
          subst hv7
          dsimp only
          have R7 := R5.step b7
          have AZ7 : Aside ((ob (wh512 d)).length = X * 1 ∧ (xa = none → X = 0 ∧ xc = 0) ∧ (n) + 512 + X ≤ maxLen ∧ ((n) + 512 + X) * 1 ≤ 140737488355328) := ⟨by rw [ob_length, hX]; omega, hn7, by have := AC.out.1; have := AO.out.2.2.2; rw [hX] at this; unfold maxLen; omega, by have := AC.out.1; have := AO.out.2.2.2; rw [hX] at this; omega⟩
          have D7 := R7.held
          refine hK.out _ _ D7 (fun hH7 => ?_)
          clear hK K
          try simp only [Act.put, List.setIfInBounds_toArray, List.set_cons_zero, List.set_cons_succ]
          refine wpAnyH_ready (rs := [8]) (by kernel_rfl) (by simp) ?_
          refine AllReadyH.cons (o := ⟨_, _, _, _, _, _⟩) rfl (fun K hK => ?_) AllReadyH.nil
          refine step_ows Tryz.prog _ rfl (.tmp 93) (.tmp 96) 22 rfl 5 i0 _ 1 1 Tryz.underlying22 hii hz0 hz1 hz2 rfl (by decide) lo (.slice pa ((n) + 512) pc) ((n) + 512) (ob ((z) ++ hdr nm L 48)) (by first | rfl | go_simp) R7.ow xa (ob (wh512 d)) X xc AZ7.out.1 (by first | rfl | go_simp) AZ7.out.2.1 (lies_ob hli7) ob_one AZ7.out.2.2.1 AZ7.out.2.2.2 ?_
          intro qa qc qw qg
          have R8 := R7.app qg hX
          have D8 := R8.held
          refine hK.out _ _ D8 (fun hH8 => ?_)
          clear hK K
          try simp only [Act.put, List.setIfInBounds_toArray, List.set_cons_zero, List.set_cons_succ]
          refine wpAnyH_take (i := 9) (oi := ⟨_, _, _, _, _, _⟩) (v := ?_) rfl (by kernel_rfl) (by kernel_rfl) (by kernel_rfl) (fun _ _ _ h => h) (Or.inl ⟨by rfl, ?_⟩) hH8 ?_
          rotate_left
          · (intro w9 hSw; (try dsimp only at hSw); obtain ⟨q0, q1⟩ := hSw; go_simp; try (with_reducible rfl))
          try simp only [Act.put, List.setIfInBounds_toArray, List.set_cons_zero, List.set_cons_succ]
          refine wpAnyH_done (by kernel_rfl) ?_ _
          (try dsimp only [Exit.then])
          have AL : Aside (Rw lo E w qw (.slice qa ((n) + 512 + X) qc) ((n) + 512 + X) ((z) ++ hdr nm L 48 ++ wh512 d) #[.string s0, .slice da L C, .int .u8 (how : Int), .int .u8 (kd : Int)]) := R8
          clear pg qg R4 R5 R7 R8 D4 D5 D7 D8 bk ow7 b7 hl7 hc7 hli7 hn7 AZ4 AZ7 hHeld hH4 hH5 hH7 hH8
          go_wp2_with fail
          have ag := AG.out
          go_roundg (gk - 1)
          case measure => omega
          case rel => exact ⟨i + 1, qa, _, qc, rfl, by go_num, ⟨by omega, by rw [← ag.2.2]; exact AL.out.ow, by rw [← ag.2.2]; exact AL.out.len.symm, AL.out.bel⟩⟩
        · have AG : Aside (i < NL ∧ i + gk = NL ∧ z ++ hdr [120] (nn + 1) 76 ++ wh512 (nm ++ [0]) ++ hdr nm L 48 ++ wh512 d = wal (l.take (i + 1))) := by
            have ai := AI.out
            refine ⟨ai.1, ai.2.1, ?_⟩
            rw [← ai.2.2.1]
            unfold wen
            rw [ai.2.2.2.2.2.2.1, if_neg (by rw [hk0]; simp), ai.2.2.2.1, ai.2.2.2.2.1, ai.2.2.2.2.2.1, hw]
            simp [wpr, ai.2.2.2.2.2.2.2.1, ai.2.2.2.2.2.2.2.2.1, List.append_assoc, hsx]
          have hc : (h4 = 0 ∧ 100 < nn) ∨ h4 = 1 := by rw [hwd] at hw; split at hw <;> omega
          have AH48 : Aside (∀ u, Calls Tryz.prog 36 #[.string ns, .int .i64 (L : Int), .int .u8 48] u fun e w' => ∃ G, e = .returned (.slice (some ⟨G, 0, none⟩) 512 512) ∧ Bk u w' G 512 (hdr nm L 48)) := fun u => by
            have := head_c nm L 48 AO.out.1 AO.out.2.1 (by have := AO.out.2.2.1; omega) (by decide) u
            rw [AR.out.2.2.2] at this
            exact this
          have AX : Aside (∀ u, Calls Tryz.prog 36 #[.string ⟨#[120]⟩, .int .i64 ((nn : Int) + 1), .int .u8 76] u fun e w' => ∃ G, e = .returned (.slice (some ⟨G, 0, none⟩) 512 512) ∧ Bk u w' G 512 (hdr [120] (nn + 1) 76)) := fun u => by
            have := head_c [120] (nn + 1) 76 (fun x hx => by simp at hx; omega) (by simp) (by have := AI.out.2.2.2.2.2.2.2.2.2.1; omega) (by decide) u
            rw [show ((nn + 1 : Nat) : Int) = (nn : Int) + 1 by omega] at this
            exact this
          have AOM : Aside (∀ u, ∃ w1 a c, (convert 9 22 (.string ns)).run Tryz.prog u = .ok (.slice a nn c) w1 ∧ Om w1 u.heap.size (.slice a nn c) nn nm ∧ Below u.heap.size u w1) := fun u => by
            have := bytes_om AO.out.1 (by have := AO.out.2.1; omega) u
            rw [AR.out.2.2.2, AI.out.2.2.2.2.2.2.2.2.1] at this
            exact this
          have A512 : Aside ((ob (hdr [120] (nn + 1) 76)).length = 512 * 1 ∧ n + 512 ≤ maxLen ∧ (n + 512) * 1 ≤ 140737488355328 ∧ nn + 1 ≤ 140737488355328) := ⟨by rw [ob_length, hdr_len], by have := AC.out.1; unfold maxLen; omega, by have := AC.out.1; omega, by have := AI.out.2.2.2.2.2.2.2.2.2.1; omega⟩
          have AWX : Aside ((nm ++ [0]).length = nn + 1 ∧ nn + 1 ≤ 1000000000 ∧ (wh512 (nm ++ [0])).length ≤ 2000) := ⟨by rw [List.length_append, AI.out.2.2.2.2.2.2.2.2.1]; rfl, by have := AI.out.2.2.2.2.2.2.2.2.2.1; omega, by have h1 := wh512_len (nm ++ [0]); rw [List.length_append, AI.out.2.2.2.2.2.2.2.2.1] at h1; have := AI.out.2.2.2.2.2.2.2.2.2.1; simp at h1; omega⟩
          obtain ⟨X1, hX1⟩ : ∃ X1, (wh512 (nm ++ [0])).length = X1 := ⟨_, rfl⟩
          have AX1 : Aside ((wh512 (nm ++ [0])).length = X1 ∧ (ob (wh512 (nm ++ [0]))).length = X1 * 1 ∧ n + 512 + X1 ≤ maxLen ∧ (n + 512 + X1) * 1 ≤ 140737488355328 ∧ X1 ≤ 2000) := ⟨hX1, by rw [ob_length, hX1]; omega, by have := AC.out.1; have := AWX.out.2.2; unfold maxLen; omega, by have := AC.out.1; have := AWX.out.2.2; omega, by have := AWX.out.2.2; omega⟩
          have R3x := R3
          have zns : ns.size = nn := by rw [← AR.out.2.2.2, st_size, AI.out.2.2.2.2.2.2.2.2.1]
          clear hX1 hw hwd hh4 hk0 hsx
          rcases hc with ⟨hc1, hc2⟩ | hc1
          · have u1 : ((h4 : Int) == 0) = true := by rw [hc1]; rfl
            have u2 : ((100 : Int) < (nn : Int)) = True := eq_true (by omega)
            clear hc1 hc2 h4b
            go_upto_region 23 with (first
              | (go_at_call 36; refine (AX.out _).mono ?_; rintro e4 w4 ⟨G, rfl, bk⟩; have R4 := R3x.step bk.bel)
              | (at_builtin; refine wpList_ow Tryz.prog _ rfl (.tmp 56) (.tmp 60) 22 rfl 5 i0 _ 1 1 Tryz.underlying22 hii hz0 hz1 hz2 rfl (by decide) lo (.slice va n c) (n) (ob (z)) (by rfl) R4.ow (some ⟨G, 0, none⟩) (ob (hdr [120] (nn + 1) 76)) 512 512 A512.out.1 (by rfl) (by intro h; cases h) bk.oc ob_one A512.out.2.1 A512.out.2.2.1 ?_; intro v5 w5 hg5; obtain ⟨a5, c5, hv5, _⟩ := hg5.ow.shape; subst hv5; have R5 := R4.app hg5 (hdr_len _ _ _); obtain ⟨w6, ca, cc, hcv, om6, b6⟩ := AOM.out w5; have bA6 := (Below.refl _ w6).alloc (Nat.le_refl _) (.cells #[.int .u8 0] 5); have om7 := om6.below bA6 (Nat.le_refl _); have hc7 := (Cells.new w6 #[.int .u8 0] 5).cell 0; have b7 := b6.trans (bA6.mono b6.size))
              | (at_builtin; refine wpList_om1 _ rfl (.tmp 63) (.tmp 64) rfl w5.heap.size _ nn nm (by rfl) om7 w6.heap.size 0 1 (by rfl) hc7 A512.out.2.2.2 ?_; intro a8 c8 w8 hg8; have R8 := R5.step (b7.trans hg8.bel); have hw8 := om_whole hg8.om AWX.out.1 AWX.out.2.1)
              | (go_at_call 38; refine hw8.mono ?_; rintro e9 w9 ⟨v9, rfl, ow9, b9⟩; obtain ⟨xa9, xc9, hv9, hl9, hc9, hli9, hn9⟩ := ow9.lies; rw [AX1.out.1] at hv9 hn9; subst hv9; have R9 := R8.step b9)
              | (at_builtin; refine wpList_ow Tryz.prog _ rfl (.tmp 61) (.tmp 66) 22 rfl 5 i0 _ 1 1 Tryz.underlying22 hii hz0 hz1 hz2 rfl (by decide) lo (.slice a5 (n + 512) c5) (n + 512) (ob (z ++ hdr [120] (nn + 1) 76)) (by rfl) R9.ow xa9 (ob (wh512 (nm ++ [0]))) X1 xc9 AX1.out.2.1 (by rfl) hn9 (lies_ob hli9) ob_one AX1.out.2.2.1 AX1.out.2.2.2.1 ?_; intro v10 w10 hg10; obtain ⟨a10, c10, hv10, _⟩ := hg10.ow.shape; subst hv10; have R10 := R9.app hg10 AX1.out.1))
            obtain ⟨n1, hn1⟩ : ∃ n1, n + 512 + X1 = n1 := ⟨_, rfl⟩
            rw [hn1] at R10
            (try rw [hn1])
            have ACn : Aside (n1 + 5000 ≤ 300000000 ∧ True) := ⟨by have := AC.out.1; have := AX1.out.2.2.2.2; omega, trivial⟩
            clear hg5 hg8 hg10 R4 R5 R8 R9 R3x bk om6 om7 hcv b6 b7 bA6 hc7 hw8 ow9 b9 hl9 hc9 hli9 hn9 m1 m2 m3 t2 t2b q1 q2 hn1
            (try clear u1)
            (try clear u2)
            (try clear u3')
            refine wp_region_held_drew (S := fun u => u.cell? ⟨E, 1, none⟩ = some (.slice da L C) ∧ u.cell? ⟨E, 3, none⟩ = some (.int .u8 (kd : Int))) (by kernel_rfl) R10.held (fun hHeld => ?_)
            refine wpAnyH_take (i := 0) (oi := ⟨_, _, _, _, _, _⟩) (v := ?_) rfl (by kernel_rfl) (by kernel_rfl) (by kernel_rfl) (fun _ _ _ h => h) (Or.inl ⟨by rfl, ?_⟩) hHeld ?_
            rotate_left
            · (intro w9 hSw; (try dsimp only at hSw); obtain ⟨q0, q1⟩ := hSw; go_simp; try (with_reducible rfl))
            try simp only [Act.put, List.setIfInBounds_toArray, List.set_cons_zero, List.set_cons_succ]
            refine wpAnyH_take (i := 1) (oi := ⟨_, _, _, _, _, _⟩) (v := ?_) rfl (by kernel_rfl) (by kernel_rfl) (by kernel_rfl) (fun _ _ _ h => h) (Or.inl ⟨by rfl, ?_⟩) hHeld ?_
            rotate_left
            · (intro w9 hSw; (try dsimp only at hSw); obtain ⟨q0, q1⟩ := hSw; go_simp; try (with_reducible rfl))
            try simp only [Act.put, List.setIfInBounds_toArray, List.set_cons_zero, List.set_cons_succ]
            refine wpAnyH_take (i := 2) (oi := ⟨_, _, _, _, _, _⟩) (v := ?_) rfl (by kernel_rfl) (by kernel_rfl) (by kernel_rfl) (fun _ _ _ h => h) (Or.inl ⟨by rfl, ?_⟩) hHeld ?_
            rotate_left
            · (intro w9 hSw; (try dsimp only at hSw); obtain ⟨q0, q1⟩ := hSw; go_simp; try (with_reducible rfl))
            try simp only [Act.put, List.setIfInBounds_toArray, List.set_cons_zero, List.set_cons_succ]
            refine wpAnyH_take (i := 5) (oi := ⟨_, _, _, _, _, _⟩) (v := ?_) rfl (by kernel_rfl) (by kernel_rfl) (by kernel_rfl) (fun _ _ _ h => h) (Or.inl ⟨by rfl, ?_⟩) hHeld ?_
            rotate_left
            · (intro w9 hSw; (try dsimp only at hSw); obtain ⟨q0, q1⟩ := hSw; go_simp; try (with_reducible rfl))
            try simp only [Act.put, List.setIfInBounds_toArray, List.set_cons_zero, List.set_cons_succ]
            refine wpAnyH_take (i := 6) (oi := ⟨_, _, _, _, _, _⟩) (v := ?_) rfl (by kernel_rfl) (by kernel_rfl) (by kernel_rfl) (fun _ _ _ h => h) (Or.inl ⟨by rfl, ?_⟩) hHeld ?_
            rotate_left
            · (intro w9 hSw; (try dsimp only at hSw); obtain ⟨q0, q1⟩ := hSw; go_simp; try (with_reducible rfl))
            try simp only [Act.put, List.setIfInBounds_toArray, List.set_cons_zero, List.set_cons_succ]
            refine wpAnyH_ready (rs := [3]) (by kernel_rfl) (by simp) ?_
            refine AllReadyH.cons (o := ⟨_, _, _, _, _, _⟩) rfl (fun K hK => ?_) AllReadyH.nil
            go_simp
            go_at_call 36
            refine (AH48.out _).mono ?_
            rintro e3 w4 ⟨G, rfl, bk⟩
            dsimp only
            have R4 := (R10.drew').step bk.bel
            have AZ4 : Aside ((ob (hdr nm L 48)).length = 512 * 1 ∧ (n1) + 512 ≤ maxLen ∧ ((n1) + 512) * 1 ≤ 140737488355328) := ⟨by rw [ob_length, hdr_len], by have := ACn.out.1; unfold maxLen; omega, by have := ACn.out.1; omega⟩
            have D4 := R4.held
            refine hK.out _ _ D4 (fun hH4 => ?_)
            clear hK K
            try simp only [Act.put, List.setIfInBounds_toArray, List.set_cons_zero, List.set_cons_succ]
            refine wpAnyH_ready (rs := [4]) (by kernel_rfl) (by simp) ?_
            refine AllReadyH.cons (o := ⟨_, _, _, _, _, _⟩) rfl (fun K hK => ?_) AllReadyH.nil
            refine step_ows Tryz.prog _ rfl (.tmp 89) (.tmp 92) 22 rfl 5 i0 _ 1 1 Tryz.underlying22 hii hz0 hz1 hz2 rfl (by decide) lo (.slice a10 n1 c10) (n1) (ob (z ++ hdr [120] (nn + 1) 76 ++ wh512 (nm ++ [0]))) (by first | rfl | go_simp) R4.ow (some ⟨G, 0, none⟩) (ob (hdr nm L 48)) 512 512 AZ4.out.1 (by first | rfl | go_simp) (by intro h; cases h) bk.oc ob_one AZ4.out.2.1 AZ4.out.2.2 ?_
            intro pa pc pw pg
            have R5 := R4.app pg (hdr_len _ _ _)
            have D5 := R5.held
            refine hK.out _ _ D5 (fun hH5 => ?_)
            clear hK K
            try simp only [Act.put, List.setIfInBounds_toArray, List.set_cons_zero, List.set_cons_succ]
            refine wpAnyH_ready (rs := [7]) (by kernel_rfl) (by simp) ?_
            refine AllReadyH.cons (o := ⟨_, _, _, _, _, _⟩) rfl (fun K hK => ?_) AllReadyH.nil
            go_simp
            go_at_call 38
            refine (AW.out _ R5.bel).mono ?_
            rintro e7 w7 ⟨v7, rfl, ow7, b7⟩
            obtain ⟨xa, xc, hv7, hl7, hc7, hli7, hn7⟩ := ow7.lies
            obtain ⟨X, hX⟩ : ∃ X, (wh512 d).length = X := ⟨_, rfl⟩
            rw [hX] at hv7 hn7
            subst hv7
            dsimp only
            have R7 := R5.step b7
            have AZ7 : Aside ((ob (wh512 d)).length = X * 1 ∧ (xa = none → X = 0 ∧ xc = 0) ∧ (n1) + 512 + X ≤ maxLen ∧ ((n1) + 512 + X) * 1 ≤ 140737488355328) := ⟨by rw [ob_length, hX]; omega, hn7, by have := ACn.out.1; have := AO.out.2.2.2; rw [hX] at this; unfold maxLen; omega, by have := ACn.out.1; have := AO.out.2.2.2; rw [hX] at this; omega⟩
            have D7 := R7.held
            refine hK.out _ _ D7 (fun hH7 => ?_)
            clear hK K
            try simp only [Act.put, List.setIfInBounds_toArray, List.set_cons_zero, List.set_cons_succ]
            refine wpAnyH_ready (rs := [8]) (by kernel_rfl) (by simp) ?_
            refine AllReadyH.cons (o := ⟨_, _, _, _, _, _⟩) rfl (fun K hK => ?_) AllReadyH.nil
            refine step_ows Tryz.prog _ rfl (.tmp 93) (.tmp 96) 22 rfl 5 i0 _ 1 1 Tryz.underlying22 hii hz0 hz1 hz2 rfl (by decide) lo (.slice pa ((n1) + 512) pc) ((n1) + 512) (ob ((z ++ hdr [120] (nn + 1) 76 ++ wh512 (nm ++ [0])) ++ hdr nm L 48)) (by first | rfl | go_simp) R7.ow xa (ob (wh512 d)) X xc AZ7.out.1 (by first | rfl | go_simp) AZ7.out.2.1 (lies_ob hli7) ob_one AZ7.out.2.2.1 AZ7.out.2.2.2 ?_
            intro qa qc qw qg
            have RR8 := R7.app qg hX
            have D8 := RR8.held
            refine hK.out _ _ D8 (fun hH8 => ?_)
            clear hK K
            try simp only [Act.put, List.setIfInBounds_toArray, List.set_cons_zero, List.set_cons_succ]
            refine wpAnyH_take (i := 9) (oi := ⟨_, _, _, _, _, _⟩) (v := ?_) rfl (by kernel_rfl) (by kernel_rfl) (by kernel_rfl) (fun _ _ _ h => h) (Or.inl ⟨by rfl, ?_⟩) hH8 ?_
            rotate_left
            · (intro w9 hSw; (try dsimp only at hSw); obtain ⟨q0, q1⟩ := hSw; go_simp; try (with_reducible rfl))
            try simp only [Act.put, List.setIfInBounds_toArray, List.set_cons_zero, List.set_cons_succ]
            refine wpAnyH_done (by kernel_rfl) ?_ _
            (try dsimp only [Exit.then])
            have AL : Aside (Rw lo E w qw (.slice qa ((n1) + 512 + X) qc) ((n1) + 512 + X) ((z ++ hdr [120] (nn + 1) 76 ++ wh512 (nm ++ [0])) ++ hdr nm L 48 ++ wh512 d) #[.string s0, .slice da L C, .int .u8 (how : Int), .int .u8 (kd : Int)]) := RR8
            clear pg qg R4 R5 R7 RR8 D4 D5 D7 D8 bk ow7 b7 hl7 hc7 hli7 hn7 AZ4 AZ7 hHeld hH4 hH5 hH7 hH8
            go_wp2_with fail
            have ag := AG.out
            go_roundg (gk - 1)
            case measure => omega
            case rel => exact ⟨i + 1, qa, _, qc, rfl, by go_num, ⟨by omega, by rw [← ag.2.2]; exact AL.out.ow, by rw [← ag.2.2]; exact AL.out.len.symm, AL.out.bel⟩⟩
          · have u1 : ((h4 : Int) == 0) = false := by rw [hc1]; rfl
            have u3' : ((h4 : Int) == 1) = true := by rw [hc1]; rfl
            clear hc1 h4b
            go_upto_region 23 with (first
              | (go_at_call 36; refine (AX.out _).mono ?_; rintro e4 w4 ⟨G, rfl, bk⟩; have R4 := R3x.step bk.bel)
              | (at_builtin; refine wpList_ow Tryz.prog _ rfl (.tmp 56) (.tmp 60) 22 rfl 5 i0 _ 1 1 Tryz.underlying22 hii hz0 hz1 hz2 rfl (by decide) lo (.slice va n c) (n) (ob (z)) (by rfl) R4.ow (some ⟨G, 0, none⟩) (ob (hdr [120] (nn + 1) 76)) 512 512 A512.out.1 (by rfl) (by intro h; cases h) bk.oc ob_one A512.out.2.1 A512.out.2.2.1 ?_; intro v5 w5 hg5; obtain ⟨a5, c5, hv5, _⟩ := hg5.ow.shape; subst hv5; have R5 := R4.app hg5 (hdr_len _ _ _); obtain ⟨w6, ca, cc, hcv, om6, b6⟩ := AOM.out w5; have bA6 := (Below.refl _ w6).alloc (Nat.le_refl _) (.cells #[.int .u8 0] 5); have om7 := om6.below bA6 (Nat.le_refl _); have hc7 := (Cells.new w6 #[.int .u8 0] 5).cell 0; have b7 := b6.trans (bA6.mono b6.size))
              | (at_builtin; refine wpList_om1 _ rfl (.tmp 63) (.tmp 64) rfl w5.heap.size _ nn nm (by rfl) om7 w6.heap.size 0 1 (by rfl) hc7 A512.out.2.2.2 ?_; intro a8 c8 w8 hg8; have R8 := R5.step (b7.trans hg8.bel); have hw8 := om_whole hg8.om AWX.out.1 AWX.out.2.1)
              | (go_at_call 38; refine hw8.mono ?_; rintro e9 w9 ⟨v9, rfl, ow9, b9⟩; obtain ⟨xa9, xc9, hv9, hl9, hc9, hli9, hn9⟩ := ow9.lies; rw [AX1.out.1] at hv9 hn9; subst hv9; have R9 := R8.step b9)
              | (at_builtin; refine wpList_ow Tryz.prog _ rfl (.tmp 61) (.tmp 66) 22 rfl 5 i0 _ 1 1 Tryz.underlying22 hii hz0 hz1 hz2 rfl (by decide) lo (.slice a5 (n + 512) c5) (n + 512) (ob (z ++ hdr [120] (nn + 1) 76)) (by rfl) R9.ow xa9 (ob (wh512 (nm ++ [0]))) X1 xc9 AX1.out.2.1 (by rfl) hn9 (lies_ob hli9) ob_one AX1.out.2.2.1 AX1.out.2.2.2.1 ?_; intro v10 w10 hg10; obtain ⟨a10, c10, hv10, _⟩ := hg10.ow.shape; subst hv10; have R10 := R9.app hg10 AX1.out.1))
            obtain ⟨n1, hn1⟩ : ∃ n1, n + 512 + X1 = n1 := ⟨_, rfl⟩
            rw [hn1] at R10
            (try rw [hn1])
            have ACn : Aside (n1 + 5000 ≤ 300000000 ∧ True) := ⟨by have := AC.out.1; have := AX1.out.2.2.2.2; omega, trivial⟩
            clear hg5 hg8 hg10 R4 R5 R8 R9 R3x bk om6 om7 hcv b6 b7 bA6 hc7 hw8 ow9 b9 hl9 hc9 hli9 hn9 m1 m2 m3 t2 t2b q1 q2 hn1
            (try clear u1)
            (try clear u2)
            (try clear u3')
            refine wp_region_held_drew (S := fun u => u.cell? ⟨E, 1, none⟩ = some (.slice da L C) ∧ u.cell? ⟨E, 3, none⟩ = some (.int .u8 (kd : Int))) (by kernel_rfl) R10.held (fun hHeld => ?_)
            refine wpAnyH_take (i := 0) (oi := ⟨_, _, _, _, _, _⟩) (v := ?_) rfl (by kernel_rfl) (by kernel_rfl) (by kernel_rfl) (fun _ _ _ h => h) (Or.inl ⟨by rfl, ?_⟩) hHeld ?_
            rotate_left
            · (intro w9 hSw; (try dsimp only at hSw); obtain ⟨q0, q1⟩ := hSw; go_simp; try (with_reducible rfl))
            try simp only [Act.put, List.setIfInBounds_toArray, List.set_cons_zero, List.set_cons_succ]
            refine wpAnyH_take (i := 1) (oi := ⟨_, _, _, _, _, _⟩) (v := ?_) rfl (by kernel_rfl) (by kernel_rfl) (by kernel_rfl) (fun _ _ _ h => h) (Or.inl ⟨by rfl, ?_⟩) hHeld ?_
            rotate_left
            · (intro w9 hSw; (try dsimp only at hSw); obtain ⟨q0, q1⟩ := hSw; go_simp; try (with_reducible rfl))
            try simp only [Act.put, List.setIfInBounds_toArray, List.set_cons_zero, List.set_cons_succ]
            refine wpAnyH_take (i := 2) (oi := ⟨_, _, _, _, _, _⟩) (v := ?_) rfl (by kernel_rfl) (by kernel_rfl) (by kernel_rfl) (fun _ _ _ h => h) (Or.inl ⟨by rfl, ?_⟩) hHeld ?_
            rotate_left
            · (intro w9 hSw; (try dsimp only at hSw); obtain ⟨q0, q1⟩ := hSw; go_simp; try (with_reducible rfl))
            try simp only [Act.put, List.setIfInBounds_toArray, List.set_cons_zero, List.set_cons_succ]
            refine wpAnyH_take (i := 5) (oi := ⟨_, _, _, _, _, _⟩) (v := ?_) rfl (by kernel_rfl) (by kernel_rfl) (by kernel_rfl) (fun _ _ _ h => h) (Or.inl ⟨by rfl, ?_⟩) hHeld ?_
            rotate_left
            · (intro w9 hSw; (try dsimp only at hSw); obtain ⟨q0, q1⟩ := hSw; go_simp; try (with_reducible rfl))
            try simp only [Act.put, List.setIfInBounds_toArray, List.set_cons_zero, List.set_cons_succ]
            refine wpAnyH_take (i := 6) (oi := ⟨_, _, _, _, _, _⟩) (v := ?_) rfl (by kernel_rfl) (by kernel_rfl) (by kernel_rfl) (fun _ _ _ h => h) (Or.inl ⟨by rfl, ?_⟩) hHeld ?_
            rotate_left
            · (intro w9 hSw; (try dsimp only at hSw); obtain ⟨q0, q1⟩ := hSw; go_simp; try (with_reducible rfl))
            try simp only [Act.put, List.setIfInBounds_toArray, List.set_cons_zero, List.set_cons_succ]
            refine wpAnyH_ready (rs := [3]) (by kernel_rfl) (by simp) ?_
            refine AllReadyH.cons (o := ⟨_, _, _, _, _, _⟩) rfl (fun K hK => ?_) AllReadyH.nil
            go_simp
            go_at_call 36
            refine (AH48.out _).mono ?_
            rintro e3 w4 ⟨G, rfl, bk⟩
            dsimp only
            have R4 := (R10.drew').step bk.bel
            have AZ4 : Aside ((ob (hdr nm L 48)).length = 512 * 1 ∧ (n1) + 512 ≤ maxLen ∧ ((n1) + 512) * 1 ≤ 140737488355328) := ⟨by rw [ob_length, hdr_len], by have := ACn.out.1; unfold maxLen; omega, by have := ACn.out.1; omega⟩
            have D4 := R4.held
            refine hK.out _ _ D4 (fun hH4 => ?_)
            clear hK K
            try simp only [Act.put, List.setIfInBounds_toArray, List.set_cons_zero, List.set_cons_succ]
            refine wpAnyH_ready (rs := [4]) (by kernel_rfl) (by simp) ?_
            refine AllReadyH.cons (o := ⟨_, _, _, _, _, _⟩) rfl (fun K hK => ?_) AllReadyH.nil
            refine step_ows Tryz.prog _ rfl (.tmp 89) (.tmp 92) 22 rfl 5 i0 _ 1 1 Tryz.underlying22 hii hz0 hz1 hz2 rfl (by decide) lo (.slice a10 n1 c10) (n1) (ob (z ++ hdr [120] (nn + 1) 76 ++ wh512 (nm ++ [0]))) (by first | rfl | go_simp) R4.ow (some ⟨G, 0, none⟩) (ob (hdr nm L 48)) 512 512 AZ4.out.1 (by first | rfl | go_simp) (by intro h; cases h) bk.oc ob_one AZ4.out.2.1 AZ4.out.2.2 ?_
            intro pa pc pw pg
            have R5 := R4.app pg (hdr_len _ _ _)
            have D5 := R5.held
            refine hK.out _ _ D5 (fun hH5 => ?_)
            clear hK K
            try simp only [Act.put, List.setIfInBounds_toArray, List.set_cons_zero, List.set_cons_succ]
            refine wpAnyH_ready (rs := [7]) (by kernel_rfl) (by simp) ?_
            refine AllReadyH.cons (o := ⟨_, _, _, _, _, _⟩) rfl (fun K hK => ?_) AllReadyH.nil
            go_simp
            go_at_call 38
            refine (AW.out _ R5.bel).mono ?_
            rintro e7 w7 ⟨v7, rfl, ow7, b7⟩
            obtain ⟨xa, xc, hv7, hl7, hc7, hli7, hn7⟩ := ow7.lies
            obtain ⟨X, hX⟩ : ∃ X, (wh512 d).length = X := ⟨_, rfl⟩
            rw [hX] at hv7 hn7
            subst hv7
            dsimp only
            have R7 := R5.step b7
            have AZ7 : Aside ((ob (wh512 d)).length = X * 1 ∧ (xa = none → X = 0 ∧ xc = 0) ∧ (n1) + 512 + X ≤ maxLen ∧ ((n1) + 512 + X) * 1 ≤ 140737488355328) := ⟨by rw [ob_length, hX]; omega, hn7, by have := ACn.out.1; have := AO.out.2.2.2; rw [hX] at this; unfold maxLen; omega, by have := ACn.out.1; have := AO.out.2.2.2; rw [hX] at this; omega⟩
            have D7 := R7.held
            refine hK.out _ _ D7 (fun hH7 => ?_)
            clear hK K
            try simp only [Act.put, List.setIfInBounds_toArray, List.set_cons_zero, List.set_cons_succ]
            refine wpAnyH_ready (rs := [8]) (by kernel_rfl) (by simp) ?_
            refine AllReadyH.cons (o := ⟨_, _, _, _, _, _⟩) rfl (fun K hK => ?_) AllReadyH.nil
            refine step_ows Tryz.prog _ rfl (.tmp 93) (.tmp 96) 22 rfl 5 i0 _ 1 1 Tryz.underlying22 hii hz0 hz1 hz2 rfl (by decide) lo (.slice pa ((n1) + 512) pc) ((n1) + 512) (ob ((z ++ hdr [120] (nn + 1) 76 ++ wh512 (nm ++ [0])) ++ hdr nm L 48)) (by first | rfl | go_simp) R7.ow xa (ob (wh512 d)) X xc AZ7.out.1 (by first | rfl | go_simp) AZ7.out.2.1 (lies_ob hli7) ob_one AZ7.out.2.2.1 AZ7.out.2.2.2 ?_
            intro qa qc qw qg
            have RR8 := R7.app qg hX
            have D8 := RR8.held
            refine hK.out _ _ D8 (fun hH8 => ?_)
            clear hK K
            try simp only [Act.put, List.setIfInBounds_toArray, List.set_cons_zero, List.set_cons_succ]
            refine wpAnyH_take (i := 9) (oi := ⟨_, _, _, _, _, _⟩) (v := ?_) rfl (by kernel_rfl) (by kernel_rfl) (by kernel_rfl) (fun _ _ _ h => h) (Or.inl ⟨by rfl, ?_⟩) hH8 ?_
            rotate_left
            · (intro w9 hSw; (try dsimp only at hSw); obtain ⟨q0, q1⟩ := hSw; go_simp; try (with_reducible rfl))
            try simp only [Act.put, List.setIfInBounds_toArray, List.set_cons_zero, List.set_cons_succ]
            refine wpAnyH_done (by kernel_rfl) ?_ _
            (try dsimp only [Exit.then])
            have AL : Aside (Rw lo E w qw (.slice qa ((n1) + 512 + X) qc) ((n1) + 512 + X) ((z ++ hdr [120] (nn + 1) 76 ++ wh512 (nm ++ [0])) ++ hdr nm L 48 ++ wh512 d) #[.string s0, .slice da L C, .int .u8 (how : Int), .int .u8 (kd : Int)]) := RR8
            clear pg qg R4 R5 R7 RR8 D4 D5 D7 D8 bk ow7 b7 hl7 hc7 hli7 hn7 AZ4 AZ7 hHeld hH4 hH5 hH7 hH8
            go_wp2_with fail
            have ag := AG.out
            go_roundg (gk - 1)
            case measure => omega
            case rel => exact ⟨i + 1, qa, _, qc, rfl, by go_num, ⟨by omega, by rw [← ag.2.2]; exact AL.out.ow, by rw [← ag.2.2]; exact AL.out.len.symm, AL.out.bel⟩⟩
        · have hc : h4 = 2 := by rw [hwd] at hw; split at hw <;> omega
          have hpl : (sad kpath nm).length ≤ 400 := sad_len2 (by decide) (by have := AI.out.2.2.2.2.2.2.2.2.1; have := AI.out.2.2.2.2.2.2.2.2.2.1; omega)
          have hzl : (sad ksize (dgs L)).length ≤ 400 := sad_len2 (by decide) (by have := dgs_len (n := L) (by have := AO.out.2.2.1; omega); omega)
          have hpo : Oct (sad kpath nm) := sad_oct kpath_oct AO.out.1
          have hzo : Oct (sad ksize (dgs L)) := sad_oct ksize_oct (dgs_oct _ _ (Nat.le_refl _))
          obtain ⟨sl, hsl⟩ : ∃ sl, sad kpath nm = sl := ⟨_, rfl⟩
          obtain ⟨LS, hLS⟩ : ∃ LS, sl.length = LS := ⟨_, rfl⟩
          have hLSb : LS ≤ 1000 := by rw [← hLS, ← hsl]; (try rw [List.length_append]); omega
          have hslo : Oct sl := by rw [← hsl]; exact hpo
          have AG : Aside (i < NL ∧ i + gk = NL ∧ z ++ hdr [120] LS 120 ++ wh512 sl ++ hdr nm L 48 ++ wh512 d = wal (l.take (i + 1))) := by
            have ai := AI.out
            refine ⟨ai.1, ai.2.1, ?_⟩
            rw [← ai.2.2.1]
            have hwp : wpr 2 nm d = hdr [120] LS 120 ++ wh512 sl := by
              unfold wpr
              rw [if_neg (by decide), if_pos rfl, hsl, hLS]
            unfold wen
            rw [ai.2.2.2.2.2.2.1, if_neg (by rw [hk0]; simp), ai.2.2.2.1, ai.2.2.2.2.1, ai.2.2.2.2.2.1, hw, hwp]
            simp [ai.2.2.2.2.2.2.2.1, List.append_assoc]
          have AH48 : Aside (∀ u, Calls Tryz.prog 36 #[.string ns, .int .i64 (L : Int), .int .u8 48] u fun e w' => ∃ G, e = .returned (.slice (some ⟨G, 0, none⟩) 512 512) ∧ Bk u w' G 512 (hdr nm L 48)) := fun u => by
            have := head_c nm L 48 AO.out.1 AO.out.2.1 (by have := AO.out.2.2.1; omega) (by decide) u
            rw [AR.out.2.2.2] at this
            exact this
          have AX : Aside (∀ u, Calls Tryz.prog 36 #[.string ⟨#[120]⟩, .int .i64 (LS : Int), .int .u8 120] u fun e w' => ∃ G, e = .returned (.slice (some ⟨G, 0, none⟩) 512 512) ∧ Bk u w' G 512 (hdr [120] LS 120)) := fun u => head_c [120] LS 120 (fun x hx => by simp at hx; omega) (by simp) (by omega) (by decide) u
          obtain ⟨s9, hs9⟩ : ∃ s9, st sl = s9 := ⟨_, rfl⟩
          have AOM : Aside (∀ u, ∃ w1 a c, (convert 9 22 (.string s9)).run Tryz.prog u = .ok (.slice a LS c) w1 ∧ Om w1 u.heap.size (.slice a LS c) LS sl ∧ Below u.heap.size u w1) := fun u => by
            have := bytes_om hslo (by omega) u
            rw [hs9, hLS] at this
            exact this
          have A512 : Aside ((ob (hdr [120] LS 120)).length = 512 * 1 ∧ n + 512 ≤ maxLen ∧ (n + 512) * 1 ≤ 140737488355328 ∧ sl.length = LS ∧ LS ≤ 1000000000) := ⟨by rw [ob_length, hdr_len], by have := AC.out.1; unfold maxLen; omega, by have := AC.out.1; omega, hLS, by omega⟩
          obtain ⟨X1, hX1⟩ : ∃ X1, (wh512 sl).length = X1 := ⟨_, rfl⟩
          have hX1b : X1 ≤ 2000 := by have := wh512_len sl; omega
          have AX1 : Aside ((wh512 sl).length = X1 ∧ (ob (wh512 sl)).length = X1 * 1 ∧ n + 512 + X1 ≤ maxLen ∧ (n + 512 + X1) * 1 ≤ 140737488355328 ∧ X1 ≤ 2000) := ⟨hX1, by rw [ob_length, hX1]; omega, by have := AC.out.1; unfold maxLen; omega, by have := AC.out.1; omega, hX1b⟩
          have z9 : s9.size = LS := by rw [← hs9, st_size, hLS]
          have b9 : (LS : Int) < 1000000 := by omega
          have ek : st kpath = ⟨#[112, 97, 116, 104]⟩ := rfl
          have ez : st ksize = ⟨#[115, 105, 122, 101]⟩ := rfl
          have hsaid := fun u => said_c kpath nm (by have := AI.out.2.2.2.2.2.2.2.2.1; have := AI.out.2.2.2.2.2.2.2.2.2.1; have : kpath.length = 4 := rfl; omega) u
          have hsaiz := fun u => said_c ksize (dgs L) (by have := dgs_len (n := L) (by have := AO.out.2.2.1; omega); have : ksize.length = 4 := rfl; omega) u
          have hdig := fun u => digits_c L (by have := AO.out.2.2.1; omega) u
          simp only [ek, AR.out.2.2.2] at hsaid
          simp only [ez] at hsaiz
          simp only [hsl, hs9] at hsaid
          have ASP : Aside (∀ u, Calls Tryz.prog 39 #[.string ⟨#[112, 97, 116, 104]⟩, .string ns] u fun e w' => e = .returned (.string s9) ∧ Below u.heap.size u w') := hsaid
          have u1 : ((h4 : Int) == 0) = false := by rw [hc]; rfl
          have u3' : ((h4 : Int) == 1) = false := by rw [hc]; rfl
          have u4 : ((h4 : Int) == 2) = true := by rw [hc]; rfl
          have u5 : ((h4 : Int) == 3) = false := by rw [hc]; rfl
          clear hX1 hX1b hw hwd hh4 hk0 hsx hc h4b hpl hzl hpo hzo hsl hLS hLSb hslo hs9 ek ez hsaid hsaiz hdig
          go_upto_region 22 with (go_at_call 39; refine (ASP.out _).mono ?_; rintro e4 w4 ⟨rfl, b4⟩)
          have RS := R3.step b4
          clear b4
          go_upto_region 23 with (first
            | (go_at_call 36; refine (AX.out _).mono ?_; rintro e10 w10 ⟨G, rfl, bk⟩; have R10 := RS.step bk.bel)
            | (at_builtin; refine wpList_ow Tryz.prog _ rfl (.tmp 80) (.tmp 83) 22 rfl 5 i0 _ 1 1 Tryz.underlying22 hii hz0 hz1 hz2 rfl (by decide) lo (.slice va n c) (n) (ob (z)) (by rfl) R10.ow (some ⟨G, 0, none⟩) (ob (hdr [120] LS 120)) 512 512 A512.out.1 (by rfl) (by intro h; cases h) bk.oc ob_one A512.out.2.1 A512.out.2.2.1 ?_; intro v11 w11 hg11; obtain ⟨a11, c11, hv11, _⟩ := hg11.ow.shape; subst hv11; have R11 := R10.app hg11 (hdr_len _ _ _); obtain ⟨w12, ca, cc, hcv, om12, b12⟩ := AOM.out w11; have R12 := R11.step b12; have hw12 := om_whole om12 A512.out.2.2.2.1 A512.out.2.2.2.2)
            | (go_at_call 38; refine hw12.mono ?_; rintro e13 w13 ⟨v13, rfl, ow13, b13⟩; obtain ⟨xa9, xc9, hv9, hl9, hc9, hli9, hn9⟩ := ow13.lies; rw [AX1.out.1] at hv9 hn9; subst hv9; have R13 := R12.step b13)
            | (at_builtin; refine wpList_ow Tryz.prog _ rfl (.tmp 84) (.tmp 87) 22 rfl 5 i0 _ 1 1 Tryz.underlying22 hii hz0 hz1 hz2 rfl (by decide) lo (.slice a11 (n + 512) c11) (n + 512) (ob (z ++ hdr [120] LS 120)) (by rfl) R13.ow xa9 (ob (wh512 sl)) X1 xc9 AX1.out.2.1 (by rfl) hn9 (lies_ob hli9) ob_one AX1.out.2.2.1 AX1.out.2.2.2.1 ?_; intro v14 w14 hg14; obtain ⟨a14, c14, hv14, _⟩ := hg14.ow.shape; subst hv14; have R14 := R13.app hg14 AX1.out.1))
          obtain ⟨n1, hn1⟩ : ∃ n1, n + 512 + X1 = n1 := ⟨_, rfl⟩
          rw [hn1] at R14
          (try rw [hn1])
          have ACn : Aside (n1 + 5000 ≤ 300000000 ∧ True) := ⟨by have := AC.out.1; have := AX1.out.2.2.2.2; omega, trivial⟩
          clear hg11 hg14 R10 R11 R12 R13 RS bk om12 hcv b12 hw12 ow13 b13 hl9 hc9 hli9 hn9 m1 m2 m3 t2 t2b q1 q2 hn1 u1 u3' u4 u5 z9 b9
          refine wp_region_held_drew (S := fun u => u.cell? ⟨E, 1, none⟩ = some (.slice da L C) ∧ u.cell? ⟨E, 3, none⟩ = some (.int .u8 (kd : Int))) (by kernel_rfl) R14.held (fun hHeld => ?_)
          refine wpAnyH_take (i := 0) (oi := ⟨_, _, _, _, _, _⟩) (v := ?_) rfl (by kernel_rfl) (by kernel_rfl) (by kernel_rfl) (fun _ _ _ h => h) (Or.inl ⟨by rfl, ?_⟩) hHeld ?_
          rotate_left
          · (intro w9 hSw; (try dsimp only at hSw); obtain ⟨q0, q1⟩ := hSw; go_simp; try (with_reducible rfl))
          try simp only [Act.put, List.setIfInBounds_toArray, List.set_cons_zero, List.set_cons_succ]
          refine wpAnyH_take (i := 1) (oi := ⟨_, _, _, _, _, _⟩) (v := ?_) rfl (by kernel_rfl) (by kernel_rfl) (by kernel_rfl) (fun _ _ _ h => h) (Or.inl ⟨by rfl, ?_⟩) hHeld ?_
          rotate_left
          · (intro w9 hSw; (try dsimp only at hSw); obtain ⟨q0, q1⟩ := hSw; go_simp; try (with_reducible rfl))
          try simp only [Act.put, List.setIfInBounds_toArray, List.set_cons_zero, List.set_cons_succ]
          refine wpAnyH_take (i := 2) (oi := ⟨_, _, _, _, _, _⟩) (v := ?_) rfl (by kernel_rfl) (by kernel_rfl) (by kernel_rfl) (fun _ _ _ h => h) (Or.inl ⟨by rfl, ?_⟩) hHeld ?_
          rotate_left
          · (intro w9 hSw; (try dsimp only at hSw); obtain ⟨q0, q1⟩ := hSw; go_simp; try (with_reducible rfl))
          try simp only [Act.put, List.setIfInBounds_toArray, List.set_cons_zero, List.set_cons_succ]
          refine wpAnyH_take (i := 5) (oi := ⟨_, _, _, _, _, _⟩) (v := ?_) rfl (by kernel_rfl) (by kernel_rfl) (by kernel_rfl) (fun _ _ _ h => h) (Or.inl ⟨by rfl, ?_⟩) hHeld ?_
          rotate_left
          · (intro w9 hSw; (try dsimp only at hSw); obtain ⟨q0, q1⟩ := hSw; go_simp; try (with_reducible rfl))
          try simp only [Act.put, List.setIfInBounds_toArray, List.set_cons_zero, List.set_cons_succ]
          refine wpAnyH_take (i := 6) (oi := ⟨_, _, _, _, _, _⟩) (v := ?_) rfl (by kernel_rfl) (by kernel_rfl) (by kernel_rfl) (fun _ _ _ h => h) (Or.inl ⟨by rfl, ?_⟩) hHeld ?_
          rotate_left
          · (intro w9 hSw; (try dsimp only at hSw); obtain ⟨q0, q1⟩ := hSw; go_simp; try (with_reducible rfl))
          try simp only [Act.put, List.setIfInBounds_toArray, List.set_cons_zero, List.set_cons_succ]
          refine wpAnyH_ready (rs := [3]) (by kernel_rfl) (by simp) ?_
          refine AllReadyH.cons (o := ⟨_, _, _, _, _, _⟩) rfl (fun K hK => ?_) AllReadyH.nil
          go_simp
          go_at_call 36
          refine (AH48.out _).mono ?_
          rintro e3 w4 ⟨G, rfl, bk⟩
          dsimp only
          have R4 := (R14.drew').step bk.bel
          have AZ4 : Aside ((ob (hdr nm L 48)).length = 512 * 1 ∧ (n1) + 512 ≤ maxLen ∧ ((n1) + 512) * 1 ≤ 140737488355328) := ⟨by rw [ob_length, hdr_len], by have := ACn.out.1; unfold maxLen; omega, by have := ACn.out.1; omega⟩
          have D4 := R4.held
          refine hK.out _ _ D4 (fun hH4 => ?_)
          clear hK K
          try simp only [Act.put, List.setIfInBounds_toArray, List.set_cons_zero, List.set_cons_succ]
          refine wpAnyH_ready (rs := [4]) (by kernel_rfl) (by simp) ?_
          refine AllReadyH.cons (o := ⟨_, _, _, _, _, _⟩) rfl (fun K hK => ?_) AllReadyH.nil
          refine step_ows Tryz.prog _ rfl (.tmp 89) (.tmp 92) 22 rfl 5 i0 _ 1 1 Tryz.underlying22 hii hz0 hz1 hz2 rfl (by decide) lo (.slice a14 n1 c14) (n1) (ob (z ++ hdr [120] LS 120 ++ wh512 sl)) (by first | rfl | go_simp) R4.ow (some ⟨G, 0, none⟩) (ob (hdr nm L 48)) 512 512 AZ4.out.1 (by first | rfl | go_simp) (by intro h; cases h) bk.oc ob_one AZ4.out.2.1 AZ4.out.2.2 ?_
          intro pa pc pw pg
          have R5 := R4.app pg (hdr_len _ _ _)
          have D5 := R5.held
          refine hK.out _ _ D5 (fun hH5 => ?_)
          clear hK K
          try simp only [Act.put, List.setIfInBounds_toArray, List.set_cons_zero, List.set_cons_succ]
          refine wpAnyH_ready (rs := [7]) (by kernel_rfl) (by simp) ?_
          refine AllReadyH.cons (o := ⟨_, _, _, _, _, _⟩) rfl (fun K hK => ?_) AllReadyH.nil
          go_simp
          go_at_call 38
          refine (AW.out _ R5.bel).mono ?_
          rintro e7 w7 ⟨v7, rfl, ow7, b7⟩
          obtain ⟨xa, xc, hv7, hl7, hc7, hli7, hn7⟩ := ow7.lies
          obtain ⟨X, hX⟩ : ∃ X, (wh512 d).length = X := ⟨_, rfl⟩
          rw [hX] at hv7 hn7
          subst hv7
          dsimp only
          have R7 := R5.step b7
          have AZ7 : Aside ((ob (wh512 d)).length = X * 1 ∧ (xa = none → X = 0 ∧ xc = 0) ∧ (n1) + 512 + X ≤ maxLen ∧ ((n1) + 512 + X) * 1 ≤ 140737488355328) := ⟨by rw [ob_length, hX]; omega, hn7, by have := ACn.out.1; have := AO.out.2.2.2; rw [hX] at this; unfold maxLen; omega, by have := ACn.out.1; have := AO.out.2.2.2; rw [hX] at this; omega⟩
          have D7 := R7.held
          refine hK.out _ _ D7 (fun hH7 => ?_)
          clear hK K
          try simp only [Act.put, List.setIfInBounds_toArray, List.set_cons_zero, List.set_cons_succ]
          refine wpAnyH_ready (rs := [8]) (by kernel_rfl) (by simp) ?_
          refine AllReadyH.cons (o := ⟨_, _, _, _, _, _⟩) rfl (fun K hK => ?_) AllReadyH.nil
          refine step_ows Tryz.prog _ rfl (.tmp 93) (.tmp 96) 22 rfl 5 i0 _ 1 1 Tryz.underlying22 hii hz0 hz1 hz2 rfl (by decide) lo (.slice pa ((n1) + 512) pc) ((n1) + 512) (ob ((z ++ hdr [120] LS 120 ++ wh512 sl) ++ hdr nm L 48)) (by first | rfl | go_simp) R7.ow xa (ob (wh512 d)) X xc AZ7.out.1 (by first | rfl | go_simp) AZ7.out.2.1 (lies_ob hli7) ob_one AZ7.out.2.2.1 AZ7.out.2.2.2 ?_
          intro qa qc qw qg
          have RR8 := R7.app qg hX
          have D8 := RR8.held
          refine hK.out _ _ D8 (fun hH8 => ?_)
          clear hK K
          try simp only [Act.put, List.setIfInBounds_toArray, List.set_cons_zero, List.set_cons_succ]
          refine wpAnyH_take (i := 9) (oi := ⟨_, _, _, _, _, _⟩) (v := ?_) rfl (by kernel_rfl) (by kernel_rfl) (by kernel_rfl) (fun _ _ _ h => h) (Or.inl ⟨by rfl, ?_⟩) hH8 ?_
          rotate_left
          · (intro w9 hSw; (try dsimp only at hSw); obtain ⟨q0, q1⟩ := hSw; go_simp; try (with_reducible rfl))
          try simp only [Act.put, List.setIfInBounds_toArray, List.set_cons_zero, List.set_cons_succ]
          refine wpAnyH_done (by kernel_rfl) ?_ _
          (try dsimp only [Exit.then])
          have AL : Aside (Rw lo E w qw (.slice qa ((n1) + 512 + X) qc) ((n1) + 512 + X) ((z ++ hdr [120] LS 120 ++ wh512 sl) ++ hdr nm L 48 ++ wh512 d) #[.string s0, .slice da L C, .int .u8 (how : Int), .int .u8 (kd : Int)]) := RR8
          clear pg qg R4 R5 R7 RR8 D4 D5 D7 D8 bk ow7 b7 hl7 hc7 hli7 hn7 AZ4 AZ7 hHeld hH4 hH5 hH7 hH8
          go_wp2_with fail
          have ag := AG.out
          go_roundg (gk - 1)
          case measure => omega
          case rel => exact ⟨i + 1, qa, _, qc, rfl, by go_num, ⟨by omega, by rw [← ag.2.2]; exact AL.out.ow, by rw [← ag.2.2]; exact AL.out.len.symm, AL.out.bel⟩⟩
        · have hc : h4 = 3 := by rw [hwd] at hw; split at hw <;> omega
          have hpl : (sad kpath nm).length ≤ 400 := sad_len2 (by decide) (by have := AI.out.2.2.2.2.2.2.2.2.1; have := AI.out.2.2.2.2.2.2.2.2.2.1; omega)
          have hzl : (sad ksize (dgs L)).length ≤ 400 := sad_len2 (by decide) (by have := dgs_len (n := L) (by have := AO.out.2.2.1; omega); omega)
          have hpo : Oct (sad kpath nm) := sad_oct kpath_oct AO.out.1
          have hzo : Oct (sad ksize (dgs L)) := sad_oct ksize_oct (dgs_oct _ _ (Nat.le_refl _))
          obtain ⟨sl, hsl⟩ : ∃ sl, sad kpath nm ++ sad ksize (dgs L) = sl := ⟨_, rfl⟩
          obtain ⟨LS, hLS⟩ : ∃ LS, sl.length = LS := ⟨_, rfl⟩
          have hLSb : LS ≤ 1000 := by rw [← hLS, ← hsl]; (try rw [List.length_append]); omega
          have hslo : Oct sl := by rw [← hsl]; exact hpo.app hzo
          have AG : Aside (i < NL ∧ i + gk = NL ∧ z ++ hdr [120] LS 120 ++ wh512 sl ++ hdr nm 7 48 ++ wh512 d = wal (l.take (i + 1))) := by
            have ai := AI.out
            refine ⟨ai.1, ai.2.1, ?_⟩
            rw [← ai.2.2.1]
            have hwp : wpr 3 nm d = hdr [120] LS 120 ++ wh512 sl := by
              unfold wpr
              rw [if_neg (by decide), if_neg (by decide), if_pos rfl, ai.2.2.2.2.2.2.2.1, hsl, hLS]
            unfold wen
            rw [ai.2.2.2.2.2.2.1, if_neg (by rw [hk0]; simp), ai.2.2.2.1, ai.2.2.2.2.1, ai.2.2.2.2.2.1, hw, hwp]
            simp [ai.2.2.2.2.2.2.2.1, List.append_assoc]
          have AH48 : Aside (∀ u, Calls Tryz.prog 36 #[.string ns, .int .i64 7, .int .u8 48] u fun e w' => ∃ G, e = .returned (.slice (some ⟨G, 0, none⟩) 512 512) ∧ Bk u w' G 512 (hdr nm 7 48)) := fun u => by
            have := head_c nm 7 48 AO.out.1 AO.out.2.1 (by decide) (by decide) u
            rw [AR.out.2.2.2] at this
            exact this
          have AX : Aside (∀ u, Calls Tryz.prog 36 #[.string ⟨#[120]⟩, .int .i64 (LS : Int), .int .u8 120] u fun e w' => ∃ G, e = .returned (.slice (some ⟨G, 0, none⟩) 512 512) ∧ Bk u w' G 512 (hdr [120] LS 120)) := fun u => head_c [120] LS 120 (fun x hx => by simp at hx; omega) (by simp) (by omega) (by decide) u
          obtain ⟨s9, hs9⟩ : ∃ s9, st sl = s9 := ⟨_, rfl⟩
          have AOM : Aside (∀ u, ∃ w1 a c, (convert 9 22 (.string s9)).run Tryz.prog u = .ok (.slice a LS c) w1 ∧ Om w1 u.heap.size (.slice a LS c) LS sl ∧ Below u.heap.size u w1) := fun u => by
            have := bytes_om hslo (by omega) u
            rw [hs9, hLS] at this
            exact this
          have A512 : Aside ((ob (hdr [120] LS 120)).length = 512 * 1 ∧ n + 512 ≤ maxLen ∧ (n + 512) * 1 ≤ 140737488355328 ∧ sl.length = LS ∧ LS ≤ 1000000000) := ⟨by rw [ob_length, hdr_len], by have := AC.out.1; unfold maxLen; omega, by have := AC.out.1; omega, hLS, by omega⟩
          obtain ⟨X1, hX1⟩ : ∃ X1, (wh512 sl).length = X1 := ⟨_, rfl⟩
          have hX1b : X1 ≤ 2000 := by have := wh512_len sl; omega
          have AX1 : Aside ((wh512 sl).length = X1 ∧ (ob (wh512 sl)).length = X1 * 1 ∧ n + 512 + X1 ≤ maxLen ∧ (n + 512 + X1) * 1 ≤ 140737488355328 ∧ X1 ≤ 2000) := ⟨hX1, by rw [ob_length, hX1]; omega, by have := AC.out.1; unfold maxLen; omega, by have := AC.out.1; omega, hX1b⟩
          have z9 : s9.size = LS := by rw [← hs9, st_size, hLS]
          have b9 : (LS : Int) < 1000000 := by omega
          have ek : st kpath = ⟨#[112, 97, 116, 104]⟩ := rfl
          have ez : st ksize = ⟨#[115, 105, 122, 101]⟩ := rfl
          have hsaid := fun u => said_c kpath nm (by have := AI.out.2.2.2.2.2.2.2.2.1; have := AI.out.2.2.2.2.2.2.2.2.2.1; have : kpath.length = 4 := rfl; omega) u
          have hsaiz := fun u => said_c ksize (dgs L) (by have := dgs_len (n := L) (by have := AO.out.2.2.1; omega); have : ksize.length = 4 := rfl; omega) u
          have hdig := fun u => digits_c L (by have := AO.out.2.2.1; omega) u
          simp only [ek, AR.out.2.2.2] at hsaid
          simp only [ez] at hsaiz
          obtain ⟨p1, hp1⟩ : ∃ p1, st (sad kpath nm) = p1 := ⟨_, rfl⟩
          obtain ⟨p2, hp2⟩ : ∃ p2, st (sad ksize (dgs L)) = p2 := ⟨_, rfl⟩
          obtain ⟨sd, hsd⟩ : ∃ sd, st (dgs L) = sd := ⟨_, rfl⟩
          obtain ⟨k1, hk1⟩ : ∃ k1, (sad kpath nm).length = k1 := ⟨_, rfl⟩
          obtain ⟨k2, hk2⟩ : ∃ k2, (sad ksize (dgs L)).length = k2 := ⟨_, rfl⟩
          have z1 : p1.size = k1 := by rw [← hp1, st_size, hk1]
          have z2 : p2.size = k2 := by rw [← hp2, st_size, hk2]
          have hx9 : p1 ++ p2 = s9 := by rw [← hp1, ← hp2, st_append, hsl, hs9]
          have v1 : (9223372036854775807 < k1 + k2) = False := eq_false (by omega)
          have v2 : (9223372036854775807 < LS) = False := eq_false (by omega)
          simp only [hp1] at hsaid
          simp only [hp2, hsd] at hsaiz
          simp only [hsd] at hdig
          have ASP : Aside (∀ u, Calls Tryz.prog 39 #[.string ⟨#[112, 97, 116, 104]⟩, .string ns] u fun e w' => e = .returned (.string p1) ∧ Below u.heap.size u w') := hsaid
          have ASZ : Aside (∀ u, Calls Tryz.prog 39 #[.string ⟨#[115, 105, 122, 101]⟩, .string sd] u fun e w' => e = .returned (.string p2) ∧ Below u.heap.size u w') := hsaiz
          have ADG : Aside (∀ u, Calls Tryz.prog 40 #[.int .i64 (L : Int)] u fun e w' => e = .returned (.string sd) ∧ Below u.heap.size u w') := hdig
          have u1 : ((h4 : Int) == 0) = false := by rw [hc]; rfl
          have u3' : ((h4 : Int) == 1) = false := by rw [hc]; rfl
          have u4 : ((h4 : Int) == 2) = false := by rw [hc]; rfl
          have u5 : ((h4 : Int) == 3) = true := by rw [hc]; rfl
          clear hX1 hX1b hw hwd hh4 hk0 hsx hc h4b hpl hzl hpo hzo hsl hLS hLSb hslo hs9 ek ez hsaid hsaiz hdig hp1 hp2 hsd hk1 hk2
          go_upto_region 19 with (go_at_call 39; refine (ASP.out _).mono ?_; rintro e4 w4 ⟨rfl, b4⟩)
          have R4 := R3.step b4
          clear b4 ASP
          go_upto_region 22 with (first
            | (go_at_call 40; refine (ADG.out _).mono ?_; rintro e5 w5 ⟨rfl, b5⟩; have R5 := R4.step b5)
            | (go_at_call 39; refine (ASZ.out _).mono ?_; rintro e6 w6 ⟨rfl, b6⟩; have RS := R5.step b6))
          clear b5 b6 R4 R5 ASZ ADG z1 z2 v1 v2 hx9
          go_upto_region 23 with (first
            | (go_at_call 36; refine (AX.out _).mono ?_; rintro e10 w10 ⟨G, rfl, bk⟩; have R10 := RS.step bk.bel)
            | (at_builtin; refine wpList_ow Tryz.prog _ rfl (.tmp 80) (.tmp 83) 22 rfl 5 i0 _ 1 1 Tryz.underlying22 hii hz0 hz1 hz2 rfl (by decide) lo (.slice va n c) (n) (ob (z)) (by rfl) R10.ow (some ⟨G, 0, none⟩) (ob (hdr [120] LS 120)) 512 512 A512.out.1 (by rfl) (by intro h; cases h) bk.oc ob_one A512.out.2.1 A512.out.2.2.1 ?_; intro v11 w11 hg11; obtain ⟨a11, c11, hv11, _⟩ := hg11.ow.shape; subst hv11; have R11 := R10.app hg11 (hdr_len _ _ _); obtain ⟨w12, ca, cc, hcv, om12, b12⟩ := AOM.out w11; have R12 := R11.step b12; have hw12 := om_whole om12 A512.out.2.2.2.1 A512.out.2.2.2.2)
            | (go_at_call 38; refine hw12.mono ?_; rintro e13 w13 ⟨v13, rfl, ow13, b13⟩; obtain ⟨xa9, xc9, hv9, hl9, hc9, hli9, hn9⟩ := ow13.lies; rw [AX1.out.1] at hv9 hn9; subst hv9; have R13 := R12.step b13)
            | (at_builtin; refine wpList_ow Tryz.prog _ rfl (.tmp 84) (.tmp 87) 22 rfl 5 i0 _ 1 1 Tryz.underlying22 hii hz0 hz1 hz2 rfl (by decide) lo (.slice a11 (n + 512) c11) (n + 512) (ob (z ++ hdr [120] LS 120)) (by rfl) R13.ow xa9 (ob (wh512 sl)) X1 xc9 AX1.out.2.1 (by rfl) hn9 (lies_ob hli9) ob_one AX1.out.2.2.1 AX1.out.2.2.2.1 ?_; intro v14 w14 hg14; obtain ⟨a14, c14, hv14, _⟩ := hg14.ow.shape; subst hv14; have R14 := R13.app hg14 AX1.out.1))
          obtain ⟨n1, hn1⟩ : ∃ n1, n + 512 + X1 = n1 := ⟨_, rfl⟩
          rw [hn1] at R14
          (try rw [hn1])
          have ACn : Aside (n1 + 5000 ≤ 300000000 ∧ True) := ⟨by have := AC.out.1; have := AX1.out.2.2.2.2; omega, trivial⟩
          clear hg11 hg14 R10 R11 R12 R13 RS bk om12 hcv b12 hw12 ow13 b13 hl9 hc9 hli9 hn9 m1 m2 m3 t2 t2b q1 q2 hn1 u1 u3' u4 u5 z9 b9
          refine wp_region_held_drew (S := fun u => u.cell? ⟨E, 1, none⟩ = some (.slice da L C) ∧ u.cell? ⟨E, 3, none⟩ = some (.int .u8 (kd : Int))) (by kernel_rfl) R14.held (fun hHeld => ?_)
          refine wpAnyH_take (i := 0) (oi := ⟨_, _, _, _, _, _⟩) (v := ?_) rfl (by kernel_rfl) (by kernel_rfl) (by kernel_rfl) (fun _ _ _ h => h) (Or.inl ⟨by rfl, ?_⟩) hHeld ?_
          rotate_left
          · (intro w9 hSw; (try dsimp only at hSw); obtain ⟨q0, q1⟩ := hSw; go_simp; try (with_reducible rfl))
          try simp only [Act.put, List.setIfInBounds_toArray, List.set_cons_zero, List.set_cons_succ]
          refine wpAnyH_take (i := 1) (oi := ⟨_, _, _, _, _, _⟩) (v := ?_) rfl (by kernel_rfl) (by kernel_rfl) (by kernel_rfl) (fun _ _ _ h => h) (Or.inl ⟨by rfl, ?_⟩) hHeld ?_
          rotate_left
          · (intro w9 hSw; (try dsimp only at hSw); obtain ⟨q0, q1⟩ := hSw; go_simp; try (with_reducible rfl))
          try simp only [Act.put, List.setIfInBounds_toArray, List.set_cons_zero, List.set_cons_succ]
          refine wpAnyH_take (i := 2) (oi := ⟨_, _, _, _, _, _⟩) (v := ?_) rfl (by kernel_rfl) (by kernel_rfl) (by kernel_rfl) (fun _ _ _ h => h) (Or.inl ⟨by rfl, ?_⟩) hHeld ?_
          rotate_left
          · (intro w9 hSw; (try dsimp only at hSw); obtain ⟨q0, q1⟩ := hSw; go_simp; try (with_reducible rfl))
          try simp only [Act.put, List.setIfInBounds_toArray, List.set_cons_zero, List.set_cons_succ]
          refine wpAnyH_take (i := 5) (oi := ⟨_, _, _, _, _, _⟩) (v := ?_) rfl (by kernel_rfl) (by kernel_rfl) (by kernel_rfl) (fun _ _ _ h => h) (Or.inl ⟨by rfl, ?_⟩) hHeld ?_
          rotate_left
          · (intro w9 hSw; (try dsimp only at hSw); obtain ⟨q0, q1⟩ := hSw; go_simp; try (with_reducible rfl))
          try simp only [Act.put, List.setIfInBounds_toArray, List.set_cons_zero, List.set_cons_succ]
          refine wpAnyH_take (i := 6) (oi := ⟨_, _, _, _, _, _⟩) (v := ?_) rfl (by kernel_rfl) (by kernel_rfl) (by kernel_rfl) (fun _ _ _ h => h) (Or.inl ⟨by rfl, ?_⟩) hHeld ?_
          rotate_left
          · (intro w9 hSw; (try dsimp only at hSw); obtain ⟨q0, q1⟩ := hSw; go_simp; try (with_reducible rfl))
          try simp only [Act.put, List.setIfInBounds_toArray, List.set_cons_zero, List.set_cons_succ]
          refine wpAnyH_ready (rs := [3]) (by kernel_rfl) (by simp) ?_
          refine AllReadyH.cons (o := ⟨_, _, _, _, _, _⟩) rfl (fun K hK => ?_) AllReadyH.nil
          go_simp
          go_at_call 36
          refine (AH48.out _).mono ?_
          rintro e3 w4 ⟨G, rfl, bk⟩
          dsimp only
          have R4 := (R14.drew').step bk.bel
          have AZ4 : Aside ((ob (hdr nm 7 48)).length = 512 * 1 ∧ (n1) + 512 ≤ maxLen ∧ ((n1) + 512) * 1 ≤ 140737488355328) := ⟨by rw [ob_length, hdr_len], by have := ACn.out.1; unfold maxLen; omega, by have := ACn.out.1; omega⟩
          have D4 := R4.held
          refine hK.out _ _ D4 (fun hH4 => ?_)
          clear hK K
          try simp only [Act.put, List.setIfInBounds_toArray, List.set_cons_zero, List.set_cons_succ]
          refine wpAnyH_ready (rs := [4]) (by kernel_rfl) (by simp) ?_
          refine AllReadyH.cons (o := ⟨_, _, _, _, _, _⟩) rfl (fun K hK => ?_) AllReadyH.nil
          refine step_ows Tryz.prog _ rfl (.tmp 89) (.tmp 92) 22 rfl 5 i0 _ 1 1 Tryz.underlying22 hii hz0 hz1 hz2 rfl (by decide) lo (.slice a14 n1 c14) (n1) (ob (z ++ hdr [120] LS 120 ++ wh512 sl)) (by first | rfl | go_simp) R4.ow (some ⟨G, 0, none⟩) (ob (hdr nm 7 48)) 512 512 AZ4.out.1 (by first | rfl | go_simp) (by intro h; cases h) bk.oc ob_one AZ4.out.2.1 AZ4.out.2.2 ?_
          intro pa pc pw pg
          have R5 := R4.app pg (hdr_len _ _ _)
          have D5 := R5.held
          refine hK.out _ _ D5 (fun hH5 => ?_)
          clear hK K
          try simp only [Act.put, List.setIfInBounds_toArray, List.set_cons_zero, List.set_cons_succ]
          refine wpAnyH_ready (rs := [7]) (by kernel_rfl) (by simp) ?_
          refine AllReadyH.cons (o := ⟨_, _, _, _, _, _⟩) rfl (fun K hK => ?_) AllReadyH.nil
          go_simp
          go_at_call 38
          refine (AW.out _ R5.bel).mono ?_
          rintro e7 w7 ⟨v7, rfl, ow7, b7⟩
          obtain ⟨xa, xc, hv7, hl7, hc7, hli7, hn7⟩ := ow7.lies
          obtain ⟨X, hX⟩ : ∃ X, (wh512 d).length = X := ⟨_, rfl⟩
          rw [hX] at hv7 hn7
          subst hv7
          dsimp only
          have R7 := R5.step b7
          have AZ7 : Aside ((ob (wh512 d)).length = X * 1 ∧ (xa = none → X = 0 ∧ xc = 0) ∧ (n1) + 512 + X ≤ maxLen ∧ ((n1) + 512 + X) * 1 ≤ 140737488355328) := ⟨by rw [ob_length, hX]; omega, hn7, by have := ACn.out.1; have := AO.out.2.2.2; rw [hX] at this; unfold maxLen; omega, by have := ACn.out.1; have := AO.out.2.2.2; rw [hX] at this; omega⟩
          have D7 := R7.held
          refine hK.out _ _ D7 (fun hH7 => ?_)
          clear hK K
          try simp only [Act.put, List.setIfInBounds_toArray, List.set_cons_zero, List.set_cons_succ]
          refine wpAnyH_ready (rs := [8]) (by kernel_rfl) (by simp) ?_
          refine AllReadyH.cons (o := ⟨_, _, _, _, _, _⟩) rfl (fun K hK => ?_) AllReadyH.nil
          refine step_ows Tryz.prog _ rfl (.tmp 93) (.tmp 96) 22 rfl 5 i0 _ 1 1 Tryz.underlying22 hii hz0 hz1 hz2 rfl (by decide) lo (.slice pa ((n1) + 512) pc) ((n1) + 512) (ob ((z ++ hdr [120] LS 120 ++ wh512 sl) ++ hdr nm 7 48)) (by first | rfl | go_simp) R7.ow xa (ob (wh512 d)) X xc AZ7.out.1 (by first | rfl | go_simp) AZ7.out.2.1 (lies_ob hli7) ob_one AZ7.out.2.2.1 AZ7.out.2.2.2 ?_
          intro qa qc qw qg
          have RR8 := R7.app qg hX
          have D8 := RR8.held
          refine hK.out _ _ D8 (fun hH8 => ?_)
          clear hK K
          try simp only [Act.put, List.setIfInBounds_toArray, List.set_cons_zero, List.set_cons_succ]
          refine wpAnyH_take (i := 9) (oi := ⟨_, _, _, _, _, _⟩) (v := ?_) rfl (by kernel_rfl) (by kernel_rfl) (by kernel_rfl) (fun _ _ _ h => h) (Or.inl ⟨by rfl, ?_⟩) hH8 ?_
          rotate_left
          · (intro w9 hSw; (try dsimp only at hSw); obtain ⟨q0, q1⟩ := hSw; go_simp; try (with_reducible rfl))
          try simp only [Act.put, List.setIfInBounds_toArray, List.set_cons_zero, List.set_cons_succ]
          refine wpAnyH_done (by kernel_rfl) ?_ _
          (try dsimp only [Exit.then])
          have AL : Aside (Rw lo E w qw (.slice qa ((n1) + 512 + X) qc) ((n1) + 512 + X) ((z ++ hdr [120] LS 120 ++ wh512 sl) ++ hdr nm 7 48 ++ wh512 d) #[.string s0, .slice da L C, .int .u8 (how : Int), .int .u8 (kd : Int)]) := RR8
          clear pg qg R4 R5 R7 RR8 D4 D5 D7 D8 bk ow7 b7 hl7 hc7 hli7 hn7 AZ4 AZ7 hHeld hH4 hH5 hH7 hH8
          go_wp2_with fail
          have ag := AG.out
          go_roundg (gk - 1)
          case measure => omega
          case rel => exact ⟨i + 1, qa, _, qc, rfl, by go_num, ⟨by omega, by rw [← ag.2.2]; exact AL.out.ow, by rw [← ag.2.2]; exact AL.out.len.symm, AL.out.bel⟩⟩
      · have t2 : ((kd : Int) != 0) = true := by rw [bne_iff_ne]; omega
        have t2b : ((kd : Int) == 0) = false := by rw [beq_eq_false_iff_ne]; omega
        obtain ⟨ko, hko⟩ : ∃ ko : Nat, (if kd % 2 = 0 then 75 else 103) = ko := ⟨_, rfl⟩
        have AKD : Aside (∀ u, Calls Tryz.prog 37 #[.int .u8 (kd : Int)] u fun e w' => e = .returned (.int .u8 (ko : Int)) ∧ Below u.heap.size u w') := fun u => by
          have := other_c kd AI.out.2.2.2.2.2.2.2.2.2.2.2 u
          rw [hko] at this
          exact this
        have AKO : Aside (ko < 256) := by show ko < 256; rw [← hko]; split <;> decide
        have AG : Aside (i < NL ∧ i + gk = NL ∧ z ++ hdr nm L ko ++ wh512 d = wal (l.take (i + 1))) := by
          have ai := AI.out
          refine ⟨ai.1, ai.2.1, ?_⟩
          rw [← ai.2.2.1]
          unfold wen
          rw [ai.2.2.2.2.2.2.1, if_pos hk0, ai.2.2.2.1, ai.2.2.2.2.1, ai.2.2.2.2.2.2.2.1, List.append_assoc]
          unfold wotk
          rw [hko]
        have AHD : Aside (∀ u, Calls Tryz.prog 36 #[.string ns, .int .i64 (L : Int), .int .u8 (ko : Int)] u fun e w' => ∃ G, e = .returned (.slice (some ⟨G, 0, none⟩) 512 512) ∧ Bk u w' G 512 (hdr nm L ko)) := fun u => by
          have := head_c nm L ko AO.out.1 AO.out.2.1 (by have := AO.out.2.2.1; omega) AKO.out u
          rw [AR.out.2.2.2] at this
          exact this
        clear hko hk0
        go_upto_region 8 with fail
        clear m1 m2 m3 t2 t2b
        refine wp_region_held_drew (S := fun u => u.cell? ⟨E, 1, none⟩ = some (.slice da L C) ∧ u.cell? ⟨E, 3, none⟩ = some (.int .u8 (kd : Int))) (by kernel_rfl) R3.held (fun hHeld => ?_)
        refine wpAnyH_take (i := 0) (oi := ⟨_, _, _, _, _, _⟩) (v := ?_) rfl (by kernel_rfl) (by kernel_rfl) (by kernel_rfl) (fun _ _ _ h => h) (Or.inl ⟨by rfl, ?_⟩) hHeld ?_
        rotate_left
        · (intro w9 hSw; (try dsimp only at hSw); obtain ⟨q0, q1⟩ := hSw; go_simp; try (with_reducible rfl))
        try simp only [Act.put, List.setIfInBounds_toArray, List.set_cons_zero, List.set_cons_succ]
        refine wpAnyH_take (i := 1) (oi := ⟨_, _, _, _, _, _⟩) (v := ?_) rfl (by kernel_rfl) (by kernel_rfl) (by kernel_rfl) (fun _ _ _ h => h) (Or.inl ⟨by rfl, ?_⟩) hHeld ?_
        rotate_left
        · (intro w9 hSw; (try dsimp only at hSw); obtain ⟨q0, q1⟩ := hSw; go_simp; try (with_reducible rfl))
        try simp only [Act.put, List.setIfInBounds_toArray, List.set_cons_zero, List.set_cons_succ]
        refine wpAnyH_take (i := 2) (oi := ⟨_, _, _, _, _, _⟩) (v := ?_) rfl (by kernel_rfl) (by kernel_rfl) (by kernel_rfl) (fun _ _ _ h => h) (Or.inl ⟨by rfl, ?_⟩) hHeld ?_
        rotate_left
        · (intro w9 hSw; (try dsimp only at hSw); obtain ⟨q0, q1⟩ := hSw; go_simp; try (with_reducible rfl))
        try simp only [Act.put, List.setIfInBounds_toArray, List.set_cons_zero, List.set_cons_succ]
        refine wpAnyH_take (i := 3) (oi := ⟨_, _, _, _, _, _⟩) (v := ?_) rfl (by kernel_rfl) (by kernel_rfl) (by kernel_rfl) (fun _ _ _ h => h) (Or.inl ⟨by rfl, ?_⟩) hHeld ?_
        rotate_left
        · (intro w9 hSw; (try dsimp only at hSw); obtain ⟨q0, q1⟩ := hSw; go_simp; try (with_reducible rfl))
        try simp only [Act.put, List.setIfInBounds_toArray, List.set_cons_zero, List.set_cons_succ]
        refine wpAnyH_take (i := 4) (oi := ⟨_, _, _, _, _, _⟩) (v := ?_) rfl (by kernel_rfl) (by kernel_rfl) (by kernel_rfl) (fun _ _ _ h => h) (Or.inl ⟨by rfl, ?_⟩) hHeld ?_
        rotate_left
        · (intro w9 hSw; (try dsimp only at hSw); obtain ⟨q0, q1⟩ := hSw; go_simp; try (with_reducible rfl))
        try simp only [Act.put, List.setIfInBounds_toArray, List.set_cons_zero, List.set_cons_succ]
        refine wpAnyH_take (i := 5) (oi := ⟨_, _, _, _, _, _⟩) (v := ?_) rfl (by kernel_rfl) (by kernel_rfl) (by kernel_rfl) (fun _ _ _ h => h) (Or.inl ⟨by rfl, ?_⟩) hHeld ?_
        rotate_left
        · (intro w9 hSw; (try dsimp only at hSw); obtain ⟨q0, q1⟩ := hSw; go_simp; try (with_reducible rfl))
        try simp only [Act.put, List.setIfInBounds_toArray, List.set_cons_zero, List.set_cons_succ]
        refine wpAnyH_take (i := 6) (oi := ⟨_, _, _, _, _, _⟩) (v := ?_) rfl (by kernel_rfl) (by kernel_rfl) (by kernel_rfl) (fun _ _ _ h => h) (Or.inl ⟨by rfl, ?_⟩) hHeld ?_
        rotate_left
        · (intro w9 hSw; (try dsimp only at hSw); obtain ⟨q0, q1⟩ := hSw; go_simp; try (with_reducible rfl))
        try simp only [Act.put, List.setIfInBounds_toArray, List.set_cons_zero, List.set_cons_succ]
        refine wpAnyH_take (i := 10) (oi := ⟨_, _, _, _, _, _⟩) (v := ?_) rfl (by kernel_rfl) (by kernel_rfl) (by kernel_rfl) (fun _ _ _ h => h) (Or.inl ⟨by rfl, ?_⟩) hHeld ?_
        rotate_left
        · (intro w9 hSw; (try dsimp only at hSw); obtain ⟨q0, q1⟩ := hSw; go_simp; try (with_reducible rfl))
        try simp only [Act.put, List.setIfInBounds_toArray, List.set_cons_zero, List.set_cons_succ]
        refine wpAnyH_take (i := 11) (oi := ⟨_, _, _, _, _, _⟩) (v := ?_) rfl (by kernel_rfl) (by kernel_rfl) (by kernel_rfl) (fun _ _ _ h => h) (Or.inl ⟨by rfl, ?_⟩) hHeld ?_
        rotate_left
        · (intro w9 hSw; (try dsimp only at hSw); obtain ⟨q0, q1⟩ := hSw; go_simp; try (with_reducible rfl))
        try simp only [Act.put, List.setIfInBounds_toArray, List.set_cons_zero, List.set_cons_succ]
        refine wpAnyH_ready (rs := [7]) (by kernel_rfl) (by simp) ?_
        refine AllReadyH.cons (o := ⟨_, _, _, _, _, _⟩) rfl (fun K hK => ?_) AllReadyH.nil
        go_simp
        go_at_call 37
        refine (AKD.out _).mono ?_
        rintro e2 w4 ⟨rfl, b4⟩
        dsimp only
        have R4 := (R3.drew').step b4
        have D4 := R4.held
        refine hK.out _ _ D4 (fun hH4 => ?_)
        clear hK K
        try simp only [Act.put, List.setIfInBounds_toArray, List.set_cons_zero, List.set_cons_succ]
        refine wpAnyH_ready (rs := [8]) (by kernel_rfl) (by simp) ?_
        refine AllReadyH.cons (o := ⟨_, _, _, _, _, _⟩) rfl (fun K hK => ?_) AllReadyH.nil
        go_simp
        go_at_call 36
        refine (AHD.out _).mono ?_
        rintro e3 w5 ⟨G, rfl, bk⟩
        dsimp only
        have R5 := R4.step bk.bel
        have AZ4 : Aside ((ob (hdr nm L ko)).length = 512 * 1 ∧ n + 512 ≤ maxLen ∧ (n + 512) * 1 ≤ 140737488355328) := ⟨by rw [ob_length, hdr_len], by have := AC.out.1; unfold maxLen; omega, by have := AC.out.1; omega⟩
        have D5 := R5.held
        refine hK.out _ _ D5 (fun hH5 => ?_)
        clear hK K
        try simp only [Act.put, List.setIfInBounds_toArray, List.set_cons_zero, List.set_cons_succ]
        refine wpAnyH_ready (rs := [9]) (by kernel_rfl) (by simp) ?_
        refine AllReadyH.cons (o := ⟨_, _, _, _, _, _⟩) rfl (fun K hK => ?_) AllReadyH.nil
        refine step_ows Tryz.prog _ rfl (.tmp 26) (.tmp 34) 22 rfl 5 i0 _ 1 1 Tryz.underlying22 hii hz0 hz1 hz2 rfl (by decide) lo (.slice va n c) (n) (ob (z)) (by first | rfl | go_simp) R5.ow (some ⟨G, 0, none⟩) (ob (hdr nm L ko)) 512 512 AZ4.out.1 (by first | rfl | go_simp) (by intro h; cases h) bk.oc ob_one AZ4.out.2.1 AZ4.out.2.2 ?_
        intro pa pc pw pg
        have R6 := R5.app pg (hdr_len _ _ _)
        have D6 := R6.held
        refine hK.out _ _ D6 (fun hH6 => ?_)
        clear hK K
        try simp only [Act.put, List.setIfInBounds_toArray, List.set_cons_zero, List.set_cons_succ]
        refine wpAnyH_ready (rs := [12]) (by kernel_rfl) (by simp) ?_
        refine AllReadyH.cons (o := ⟨_, _, _, _, _, _⟩) rfl (fun K hK => ?_) AllReadyH.nil
        go_simp
        go_at_call 38
        refine (AW.out _ R6.bel).mono ?_
        rintro e7 w7 ⟨v7, rfl, ow7, b7⟩
        obtain ⟨xa, xc, hv7, hl7, hc7, hli7, hn7⟩ := ow7.lies
        obtain ⟨X, hX⟩ : ∃ X, (wh512 d).length = X := ⟨_, rfl⟩
        rw [hX] at hv7 hn7
        subst hv7
        dsimp only
        have R7 := R6.step b7
        have AZ7 : Aside ((ob (wh512 d)).length = X * 1 ∧ (xa = none → X = 0 ∧ xc = 0) ∧ n + 512 + X ≤ maxLen ∧ (n + 512 + X) * 1 ≤ 140737488355328) := ⟨by rw [ob_length, hX]; omega, hn7, by have := AC.out.1; have := AO.out.2.2.2; rw [hX] at this; unfold maxLen; omega, by have := AC.out.1; have := AO.out.2.2.2; rw [hX] at this; omega⟩
        have D7 := R7.held
        refine hK.out _ _ D7 (fun hH7 => ?_)
        clear hK K
        try simp only [Act.put, List.setIfInBounds_toArray, List.set_cons_zero, List.set_cons_succ]
        refine wpAnyH_ready (rs := [13]) (by kernel_rfl) (by simp) ?_
        refine AllReadyH.cons (o := ⟨_, _, _, _, _, _⟩) rfl (fun K hK => ?_) AllReadyH.nil
        refine step_ows Tryz.prog _ rfl (.tmp 35) (.tmp 38) 22 rfl 5 i0 _ 1 1 Tryz.underlying22 hii hz0 hz1 hz2 rfl (by decide) lo (.slice pa (n + 512) pc) (n + 512) (ob (z ++ hdr nm L ko)) (by first | rfl | go_simp) R7.ow xa (ob (wh512 d)) X xc AZ7.out.1 (by first | rfl | go_simp) AZ7.out.2.1 (lies_ob hli7) ob_one AZ7.out.2.2.1 AZ7.out.2.2.2 ?_
        intro qa qc qw qg
        have R8 := R7.app qg hX
        have D8 := R8.held
        refine hK.out _ _ D8 (fun hH8 => ?_)
        clear hK K
        try simp only [Act.put, List.setIfInBounds_toArray, List.set_cons_zero, List.set_cons_succ]
        refine wpAnyH_take (i := 14) (oi := ⟨_, _, _, _, _, _⟩) (v := ?_) rfl (by kernel_rfl) (by kernel_rfl) (by kernel_rfl) (fun _ _ _ h => h) (Or.inl ⟨by rfl, ?_⟩) hH8 ?_
        rotate_left
        · (intro w9 hSw; (try dsimp only at hSw); obtain ⟨q0, q1⟩ := hSw; go_simp; try (with_reducible rfl))
        try simp only [Act.put, List.setIfInBounds_toArray, List.set_cons_zero, List.set_cons_succ]
        refine wpAnyH_done (by kernel_rfl) ?_ _
        (try dsimp only [Exit.then])
        have AL : Aside (Rw lo E w qw (.slice qa (n + 512 + X) qc) (n + 512 + X) (z ++ hdr nm L ko ++ wh512 d) #[.string s0, .slice da L C, .int .u8 (how : Int), .int .u8 (kd : Int)]) := R8
        clear pg qg R4 R5 R6 R7 R8 D4 D5 D6 D7 D8 bk ow7 b7 hl7 hc7 hli7 hn7 AZ4 AZ7 hHeld hH4 hH5 hH6 hH7 hH8
        go_wp2_with fail
        have ag := AG.out
        go_roundg (gk - 1)
        case measure => omega
        case rel => exact ⟨i + 1, qa, _, qc, rfl, by go_num, ⟨by omega, by rw [← ag.2.2]; exact AL.out.ow, by rw [← ag.2.2]; exact AL.out.len.symm, AL.out.bel⟩⟩
    · have t1 : ((i : Int) < (NL : Int)) = False := eq_false (by omega)
      have t1n : (i < NL) = False := eq_false hiN
      have hzl : wal l = z := by rw [← hz, List.take_of_length_le (by omega)]
      have AZ : Aside (wri l = z ++ List.replicate 1024 0 ∧ z.length = n ∧ n ≤ 100000000000000 ∧ (wri l).length = n + 1024 ∧ Below lo w wr) := by
        refine ⟨by unfold wri; rw [hzl], hn.symm, by omega, by unfold wri; rw [hzl, List.length_append, List.length_replicate, ← hn], hbel⟩
      clear hI hig hn hbel a0 hz hnb hiN hzl
      go_wp2_with (at_builtin; refine wpList_owz rfl (.tmp 98) (.const (.int .i64 1024)) 22 3 rfl i0 Tryz.underlying22 u3 hii hz0 hz1 hz2 lo _ n z (by rfl) how0 AZ.out.2.1 AZ.out.2.2.1 1024 (by decide) (by first | rfl | go_simp) ?_; intro v6 c6 w6 hg6)
      go_ret
      have az := AZ.out
      refine ⟨_, rfl, ?_, az.2.2.2.2.trans hg6.bel⟩
      have := hg6.ow
      rw [az.2.2.2.1, az.1]
      exact this
end Go.Proofs.YtcmmjbkgoafbnaaGreatDoor

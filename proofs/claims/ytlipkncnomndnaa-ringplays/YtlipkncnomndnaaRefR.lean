/-
  What Repeat of the document's own window comes to, where it is not refused.
  Conditions: the size is from 1 to 32768, the list is not longer, d is from 1 to the list's length, n at most 65536.
-/
import Derived.Test.YtlipkncnomndnaaRef
namespace Go.Proofs.Ytlipkncnomndnaa
open Go.RowKit
set_option linter.unusedVariables false
set_option maxHeartbeats 1000000 in
theorem rrep_yes {C base N : Nat} {v : Value} {l : List Int} (d n : Nat) (w : World) (q : Qf w C base N v l) (hl : l.length ≤ N) (hN1 : 1 ≤ N) (hN : N ≤ 32768) (h1 : 1 ≤ d) (hd : d ≤ l.length) (hn : n ≤ 65536) :
    Calls Try.prog 15 #[.pointer (some ⟨C, 0, none⟩), .int .i64 (d : Int), .int .i64 (n : Int)] w fun e w' => (∃ out, e = .returned (.tuple #[out, .bool true]) ∧ Bag w' w.heap.size out (cyc l d n)) ∧ (∃ v', Qf w' C base N v' (lastN N (l ++ cyc l d n)) ∧ Kp C v v' w w') := by
  obtain ⟨a, c, hv⟩ := q.bag.shape
  have c1 := q.c1
  rw [hv] at c1
  have AV : Aside (v = .slice a l.length c) := hv
  have hlt := q.lt
  have hle := q.le
  have AQ : Aside (Qf w C base N v l) := q
  have AB : Aside (l.length ≤ N ∧ 1 ≤ N ∧ N ≤ 32768 ∧ 1 ≤ d ∧ d ≤ l.length ∧ n ≤ 65536) := ⟨hl, hN1, hN, h1, hd, hn⟩
  have e1 : ¬ (d : Int) < 1 := by omega
  have e2 : ¬ (l.length : Int) < (d : Int) := by omega
  have e3 : ¬ (n : Int) < 0 := by omega
  have e4 : ¬ (65536 : Int) < (n : Int) := by omega
  clear q hv hl hN hd
  generalize l.length = L at c1 e2
  go_enter Try.func15, Try.ntmps15
  go_wp2_with fail
  generalize Value.bool (decide ((n : Int) < 0) || decide ((65536 : Int) < (n : Int))) = v30
  generalize Value.bool (decide ((65536 : Int) < (n : Int))) = v29
  generalize Value.bool (decide ((n : Int) < 0)) = v25
  go_loopg [8, 9] n (fun g so si wr => ∃ (k : Nat) (v' : Value), k + g = n ∧ si = .int .i64 k ∧ Bag wr w.heap.size so ((cyc l d n).take k) ∧ Qf wr C base N v' (lastN N (l ++ (cyc l d n).take k)) ∧ Kp C v v' w wr ∧ (∀ t, so.ownBlock = some t → v'.ownBlock ≠ some t))
  case atStart => exact ⟨0, v, by omega, rfl, by rw [List.take_zero]; exact Bag.nil _ _, by rw [List.take_zero, List.append_nil, lastN_all AB.out.1]; exact AQ.out, Kp.refl _ _ _, fun t ht => by simp [Value.ownBlock] at ht⟩
  case round =>
    obtain ⟨k, v', hkg, rfl, hbag, hq, hkp, hdis⟩ := hrel
    have AK : Aside (k + gk = n) := hkg
    by_cases hk : k < n
    · have hki : (k : Int) < (n : Int) := by omega
      obtain ⟨b1, b2, b3, b4, b5, b6⟩ := AB.out
      obtain ⟨z, hz⟩ : ∃ z, (cyc l d n)[k]? = some z := ⟨_, cyc_get _ _ _ _ hk⟩
      have hcb := cyc_back (N := N) d n k b1 b4 b5 hk
      have hcp := cyc_put (N := N) d n k z hz
      have hll := lastN_length N (l ++ (cyc l d n).take k)
      have htl : ((cyc l d n).take k).length = k := by rw [List.length_take, cyc_length]; omega
      generalize lastN N (l ++ (cyc l d n).take k) = lk at hq hcb hcp hll
      generalize (cyc l d n).take k = tk at hbag hcp htl
      have hb13 := rback_yes d z wr hq b4 hcb.1 (by omega) (hcb.2.trans hz)
      have hb11 := fun w' (q' : Qf w' C base N v' lk) => rput z w' q' (by omega) b2 b3
      have AH : Aside (lastN N (lk ++ [z]) = lastN N (l ++ (cyc l d n).take (k + 1)) ∧ tk ++ [z] = (cyc l d n).take (k + 1) ∧ tk.length = k) := ⟨hcp.1, hcp.2, htl⟩
      have AD : Aside (∀ t, Value.ownBlock _ = some t → v'.ownBlock ≠ some t) := hdis
      have AKp : Aside (Kp C v v' w wr) := hkp
      clear hcb hcp hll hz htl hkg hkp hdis
      go_wp2_with fail
      refine hb13.mono ?_
      rintro e w2 ⟨rfl, m2, rfl⟩
      clear hb13
      go_wp2_with fail
      refine (hb11 _ (hq.drewN m2)).mono ?_
      rintro e w3 ⟨rfl, v'', hq3, hkp3⟩
      clear hb11
      have hlt2 := hbag.lt
      have hsk := AKp.out.size
      have hbag3 := hbag.kept (u := w3) fun g hg => hkp3.block g (hlt2 g hg).2 (by have := (hlt2 g hg).1; omega) (fun e => AD.out g hg e.symm)
      have hbag3a := hbag3.alloc (Obj.cells #[.int .u8 z] 5)
      have hcl : (w3.alloc (Obj.cells #[.int .u8 z] 5)).cell? ⟨w3.heap.size, 0, none⟩ = some (.int .u8 z) := ((Cells.new w3 #[.int .u8 z] 5).cell 0).trans rfl
      have hs3 : wr.heap.size ≤ w3.heap.size := hkp3.size
      have hsz : w.heap.size ≤ (w3.alloc (Obj.cells #[.int .u8 z] 5)).heap.size := by simp; omega
      have ASz : Aside ((w3.alloc (Obj.cells #[.int .u8 z] 5)).heap.size = w3.heap.size + 1) := by show _ = _; simp
      have AQ3 : Aside (Qf w3 C base N v'' (lastN N (lk ++ [z])) ∧ Kp C v' v'' (wr.drewN m2) w3) := ⟨hq3, hkp3⟩
      clear hq3 hkp3 hbag3 hq
      go_wp2_with (at_builtin; refine wpList_append_bag _ rfl (.tmp 45) (.tmp 47) rfl w.heap.size _ tk rfl hbag3a w3.heap.size z rfl hcl (by rw [AH.out.2.2]; omega) hsz ?_)
      intro v4 w4 got
      have fin : Bag w4 w.heap.size v4 ((cyc l d n).take (k + 1)) ∧ Qf w4 C base N v'' (lastN N (l ++ (cyc l d n).take (k + 1))) ∧ Kp C v v'' w w4 ∧ (∀ t, v4.ownBlock = some t → v''.ownBlock ≠ some t) := by
        obtain ⟨hq3, hkp3⟩ := AQ3.out
        have h1 := AH.out
        have h2 := ASz.out
        have hdis := AD.out
        have hgr := got.grew
        have hgs := hgr.size
        have hb4 := got.bag
        rw [h1.2.1] at hb4
        rw [h1.1] at hq3
        have hv3 := hq3.bag.lt
        have hall : ∀ t, t < w3.heap.size → (w3.alloc (Obj.cells #[.int .u8 z] 5)).heap[t]? = w3.heap[t]? := fun t ht => Below.heap_alloc w3 _ t ht
        have hne : ∀ t, v''.ownBlock = some t → Value.ownBlock _ ≠ some t := fun t ht e => by
          rcases hkp3.own t ht with h3 | h3
          · exact hdis t e h3
          · have := (hlt2 t e).2
            have : wr.heap.size ≤ t := h3
            omega
        have hKw := AKp.out.trans (⟨hkp3.os, hkp3.tape, hkp3.output, hkp3.size, hkp3.block, hkp3.own⟩ : Kp C v' v'' wr w3)
        refine ⟨hb4, ?_, ?_, ?_⟩
        · refine hq3.kept (by omega) ?_ ?_
          · exact (hgr.block C (by have := hq3.hd.lt; omega) (fun e => by have := (hlt2 C e.symm).1; omega)).trans (hall C hq3.hd.lt)
          · intro t ht
            exact (hgr.block t (by have := (hv3 t ht).2; omega) (fun e => hne t ht e.symm)).trans (hall t (hv3 t ht).2)
        · refine ⟨hgr.os.trans hKw.os, hgr.tape.trans hKw.tape, hgr.output.trans hKw.output, by omega, ?_, hKw.own⟩
          intro t ht h5 h6
          exact ((hgr.block t (by omega) (fun e => by have := (hlt2 t e.symm).1; omega)).trans (hall t (by omega))).trans (hKw.block t ht h5 h6)
        · intro t ht e
          obtain ⟨g4, o4, c4, cur4, rfl, _, _, _, _, hor⟩ := got.ex
          simp [Value.ownBlock] at ht
          subst ht
          rcases hor with h3 | h3
          · exact hne g4 e h3
          · have := (hv3 g4 e).2
            omega
      have AFin : Aside (Bag w4 w.heap.size v4 ((cyc l d n).take (k + 1)) ∧ Qf w4 C base N v'' (lastN N (l ++ (cyc l d n).take (k + 1))) ∧ Kp C v v'' w w4 ∧ (∀ t, v4.ownBlock = some t → v''.ownBlock ≠ some t)) := fin
      clear fin got hcl hbag3a hbag hlt2
      go_wp2_with fail
      have AK := AK.out
      go_roundg (gk - 1)
      case measure => omega
      case rel => exact ⟨k + 1, v'', by omega, by go_num, AFin.out.1, AFin.out.2.1, AFin.out.2.2.1, AFin.out.2.2.2⟩
    · have hki : ¬ (k : Int) < (n : Int) := by omega
      rw [List.take_of_length_le (by rw [cyc_length]; omega)] at hbag hq
      have AF : Aside (Kp C v v' w wr) := hkp
      clear hdis hkp
      go_wp2_with fail
      go_ret2
      exact ⟨⟨_, rfl, hbag⟩, v', hq, AF.out⟩
end Go.Proofs.Ytlipkncnomndnaa

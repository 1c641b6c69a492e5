/-
  What the document's Out comes to.
  Conditions: its words lie in memory as the states say; the patterns lie in memory, and may be.
-/
import Derived.Test.YtbepbjbbhenphaaDoorRefAsk
namespace Go.Proofs.YtbepbjbbhenphaaDoor
open Go.RowKit
set_option linter.unusedVariables false
theorem Own.drewN {w u : World} {base : Nat} {v : Value} {l : List Nat} (h : Own w u base v l) (n : Nat) : Own w (u.drewN n) base v l := ⟨h.own, ⟨h.bel.os, h.bel.tape, h.bel.output, h.bel.size, h.bel.block⟩, h.le⟩
theorem Own.alloc {w u : World} {base : Nat} {v : Value} {l : List Nat} (h : Own w u base v l) (o : Obj) : Own w (u.alloc o) base v l := ⟨h.own.alloc _, h.bel.alloc h.le _, by show _ ≤ (u.heap.push _).size; simp; have := h.le; omega⟩
set_option maxRecDepth 100000 in
set_option maxHeartbeats 4000000 in
theorem rout_c {Q N : Nat} {pa : Option Addr} {PL PC : Nat} {ws ps : List (List Nat)} {kids : List (List (Nat × Nat))} (s : Nat) (u : List Nat) (w : World) (h : Rm w Q N pa PL PC ws kids) (hp : Rows2 w pa ps) (hPL : ps.length = PL) (hg : Good ps) (hs : ws[s]? = some u) (hu : u.length < 1000) :
    Calls Tryd.prog 23 #[.pointer (some ⟨Q, 0, none⟩), .int .i64 (s : Int)] w fun e w' => ∃ v, e = .returned v ∧ Own w w' w.heap.size v (endsOf ps u) := by
  have hsN : s < N := by have := at_lt hs; have := h.len; omega
  have hi := is_c (s : Int) w h
  rw [decide_eq_true ⟨by omega, by omega⟩] at hi
  have hsi : (s : Int) < (N : Int) := by omega
  have AH : Aside (Rm w Q N pa PL PC ws kids ∧ Rows2 w pa ps ∧ ps.length = PL ∧ Good ps ∧ ws[s]? = some u ∧ u.length < 1000) := ⟨h, hp, hPL, hg, hs, hu⟩
  clear h hp hPL hg hs hu hsN
  go_enter Tryd.func23, Tryd.ntmps23
  go_wp2_with (go_at_call 39; refine hi.mono ?_; rintro e2 w2 ⟨rfl, rfl⟩)
  clear hi
  go_loopg [5, 6] PL (fun g sv si wr => ∃ (v : Value) (k : Nat), sv = v ∧ si = .int .i64 k ∧ Aside (k + g = PL ∧ Own w wr w.heap.size v ((List.range k).filter (endsB ps u))))
  case atStart => exact ⟨_, 0, rfl, rfl, ⟨by omega, ⟨⟨rfl, Or.inl ⟨rfl, rfl⟩⟩, Below.refl _ _, Nat.le_refl _⟩⟩⟩
  case round =>
    obtain ⟨v, k, hv, rfl, hK⟩ := hrel
    have hv2 := hv.symm
    clear hv
    subst hv2
    obtain ⟨wa, wc, ka, kc, c0, c1, c2, hw, _⟩ := (AH.out.1.below hK.out.2.bel).cells
    by_cases hkL : k < PL
    · have hk : (k : Int) < (PL : Int) := by omega
      obtain ⟨p, hp⟩ : ∃ p, ps[k]? = some p := ⟨_, List.getElem?_eq_getElem (by have := AH.out; omega)⟩
      rcases hw with e | ⟨wb, wo, rfl, hc⟩
      · have := AH.out.2.2.2.2.1; rw [e] at this; simp at this
      obtain ⟨ui, uc, u1, u2, u3, u4, u5⟩ := hc s u AH.out.2.2.2.2.1
      rcases AH.out.2.1.below hK.out.2.bel with e | ⟨pb, po, rfl, hq⟩
      · rw [e] at hp; simp at hp
      obtain ⟨qi, qc, q1, q2, q3, q4, q5⟩ := hq k p hp
      have hpl := AH.out.2.2.2.1.len p (List.mem_of_getElem? hp)
      have hends := fun (W : World) (hW : Drawn wr W) => ends_c ui qi u p u.length uc p.length qc W (hW.lies u2) (hW.lies q2) rfl rfl u3 (by have := AH.out; omega) (fun e => (u5 e).1) hpl.1
      have hb : endsB ps u k = p.isSuffixOf u := by unfold endsB; rw [hp]
      rw [← hb] at hends
      obtain ⟨q, hq'⟩ : ∃ q, endsB ps u k = q := ⟨_, rfl⟩
      rw [hq'] at hends
      obtain ⟨m, hm⟩ : ∃ m, p.length = m := ⟨_, rfl⟩
      obtain ⟨n, hn⟩ : ∃ n, u.length = n := ⟨_, rfl⟩
      rw [hm, hn] at hends
      rw [hm] at q1
      rw [hn] at u1
      have hDw : Drawn wr wr := Drawn.refl _
      have AK : Aside (k < PL ∧ endsB ps u k = q ∧ k < 64) := ⟨hkL, hq', by have := AH.out.2.2.2.1.few; have := AH.out.2.2.1; omega⟩
      clear hp hc u2 u3 u4 u5 hq q2 q3 q4 q5 hpl hb hq' hm hn hkL c2
      cases q with
      | false =>
        have hl : Aside ((List.range (k + 1)).filter (endsB ps u) = (List.range k).filter (endsB ps u)) := by
          show _ = _
          rw [List.range_succ, List.filter_append]; simp [AK.out.2.1]
        go_wp2_with fail
        go_quiet (first | (go_at_call 30; refine Calls.quiet_of (hends _ ?_); exact hDw.drewN _))
        go_upto_region 6 with fail
        clear hk hsi
        have hkb : (k : Int) < 64 := by have := AK.out; omega
        go_wp2_with fail
        have h1 := AK.out; have h2 := hK.out
        go_roundg (PL - (k + 1))
        case measure => omega
        case rel => exact ⟨v, k + 1, rfl, by go_num, ⟨by omega, by rw [hl.out]; exact h2.2.drewN _⟩⟩
      | true =>
        have hl : Aside ((List.range (k + 1)).filter (endsB ps u) = (List.range k).filter (endsB ps u) ++ [k]) := by
          show _ = _
          rw [List.range_succ, List.filter_append]; simp [AK.out.2.1]
        have hlen : Aside (((List.range k).filter (endsB ps u)).length < 1048576) := by
          have := List.length_filter_le (endsB ps u) (List.range k)
          rw [List.length_range] at this
          show _ < _
          have := AK.out; omega
        obtain ⟨va, vn', vc, hvs⟩ : ∃ va vn vc, v = .slice va vn vc := by
          obtain ⟨va, vc, e, _⟩ := hK.out.2.shape
          exact ⟨va, _, vc, e⟩
        go_wp2_with fail
        go_quiet (first | (go_at_call 30; refine Calls.quiet_of (hends _ ?_); exact hDw.drewN _))
        have AO : Aside (Own w (wr.drewN nq) w.heap.size v ((List.range k).filter (endsB ps u))) := hK.out.2.drewN nq
        generalize wr.drewN nq = w7 at *
        obtain ⟨w8, hw8⟩ : ∃ w8, w8 = w7.alloc (.cells #[.int .i64 (k : Int)] 3) := ⟨_, rfl⟩
        have A8 : Aside (Own w w8 w.heap.size v ((List.range k).filter (endsB ps u)) ∧ w8.cell? ⟨w7.heap.size, 0, none⟩ = some (.int .i64 (k : Int))) := ⟨by rw [hw8]; exact AO.out.alloc _, by rw [hw8, (Cells.new w7 _ 3).cell]; rfl⟩
        clear hends c0 c1 u1 q1 hk hsi
        go_upto_region 6 with (first
          | (rw [← hw8]; refine wpList_appi w w8 rfl (.tmp 35) (.tmp 37) rfl w.heap.size v _ (by rfl) A8.out.1 w7.heap.size k (by rfl) A8.out.2 hlen.out ?_; intro v' w' hv'))
        have hkb : (k : Int) < 64 := by have := AK.out; omega
        go_wp2_with fail
        have h1 := AK.out; have h2 := hK.out
        go_roundg (PL - (k + 1))
        case measure => omega
        case rel => exact ⟨v', k + 1, rfl, by go_num, ⟨by omega, by rw [hl.out]; exact hv'⟩⟩
    · have hk : ¬ (k : Int) < (PL : Int) := by omega
      have hO : Aside (Own w wr w.heap.size v (endsOf ps u)) := by
        have := hK.out
        unfold endsOf
        rw [AH.out.2.2.1, show PL = k by omega]
        exact this.2
      clear hkL c1 c2 hw
      go_wp2_with fail
      go_ret
      exact ⟨_, rfl, hO.out⟩
end Go.Proofs.YtbepbjbbhenphaaDoor

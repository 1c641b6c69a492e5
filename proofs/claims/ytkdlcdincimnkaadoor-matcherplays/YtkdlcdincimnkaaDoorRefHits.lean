/-
  What the document's Hits comes to.
  Conditions: the patterns may be; the hits that are taken have room.
-/
import Derived.Test.YtkdlcdincimnkaaDoorWake
namespace Go.Proofs.YtkdlcdincimnkaaDoor
open Go.RowKit
set_option linter.unusedVariables false
theorem Alls.drewN {w u : World} {v : Value} {l : List (Nat × Nat)} (h : Alls w u v l) (n : Nat) : Alls w (u.drewN n) v l := ⟨h.own, ⟨h.bel.os, h.bel.tape, h.bel.output, h.bel.size, h.bel.block⟩⟩
theorem Alls.drawn {w u u' : World} {v : Value} {l : List (Nat × Nat)} (h : Alls w u v l) (k : Drawn u u') : Alls w u' v l := by
  obtain ⟨n, rfl⟩ := k; exact h.drewN n
theorem Alls.nil (w : World) : Alls w w (.slice none 0 0) [] := ⟨⟨rfl, Or.inl ⟨rfl, rfl⟩⟩, Below.refl _ _⟩
theorem Alls.alloc {w u : World} {v : Value} {l : List (Nat × Nat)} (h : Alls w u v l) (o : Obj) : Alls w (u.alloc o) v l := ⟨h.own.alloc _, h.bel.alloc h.bel.size _⟩
/-- append of a hit to a list of the call's own. -/
theorem wpList_apph (w0 w : World) {ops : Array Oper} {rest : List Oper} {o : Oper} {a : Act} {Q : Exit → Act → World → Prop} (hgd : o.guard = none) (s x : Operand)
    (ho : o.op = .call { callee := .builtin .append, args := #[s, x], argTypes := #[48, 48] }) (v : Value) (l : List (Nat × Nat)) (hs : a.eval s = v) (hown : Alls w0 w v l)
    (b p e : Nat) (hx : a.eval x = .slice (some ⟨b, 0, none⟩) 1 1) (hl : Cells w b #[.int .i64 (p : Int), .slice none 0 0, .int .i64 (e : Int)] 59) (hlen : (l.length + 1) * 40 ≤ 140737488355328)
    (h : ∀ v' w', Alls w0 w' v' (l ++ [(p, e)]) → wpList Tryd.prog ops Q rest (a.put o.dst v') w') : wpList Tryd.prog ops Q (o :: rest) a w := by
  obtain ⟨i0, hi, hz0, hz1, hz2⟩ := info_parts info59
  refine wpList_append_own w hgd s x 48 ho w0.heap.size 59 i0 (.agg #[.int .i64 0, .slice none 0 0, .int .i64 0]) 3 40 Tryd.underlying48 hi hz0 hz1 hz2 rfl (by decide) v _ _ hs hown.own ⟨b, 0, none⟩ 1 1 (hv (p, e)) hx rfl (World.news_of_block (cs := #[.int .i64 (p : Int), .slice none 0 0, .int .i64 (e : Int)]) hl) (hv_one _) (by unfold maxLen; omega) (by omega) hown.bel.size ?_
  intro v' w' h2 h3 h4
  have hb : Below w0.heap.size w w' := (Below.refl _ w).grown h3 hown.bel.size (fun k hk => by
    rcases hown.own.2 with ⟨rfl, _⟩ | ⟨g, c, cur, rfl, hg, _⟩
    · cases hk
    · cases hk; exact hg)
  refine h v' w' ⟨?_, hown.bel.trans hb⟩
  rw [hvs_app] at h2
  rw [List.length_append]; exact h2
theorem suffix_window {p T : List Nat} (h : p.length ≤ 32) : p.isSuffixOf (T.drop (T.length - 32)) = p.isSuffixOf T := by
  rw [Bool.eq_iff_iff, List.isSuffixOf_iff_suffix, List.isSuffixOf_iff_suffix]
  constructor
  · intro h1; exact h1.trans (List.drop_suffix _ _)
  · intro h1
    obtain ⟨r, hr⟩ := h1
    refine ⟨r.drop (T.length - 32), ?_⟩
    have : r.length = T.length - p.length := by rw [← hr, List.length_append]; omega
    conv => rhs; rw [← hr]
    rw [List.length_append, List.drop_append_of_le_length (by omega)]
    congr 2; omega
set_option maxRecDepth 100000 in
set_option maxHeartbeats 4000000 in
theorem rhits_c (w : World) (a : Option Addr) (ps : List (List Nat)) (L C : Nat) (hp : Rows2 w a ps) (hL : ps.length = L) (hg : Good ps)
    (ta : Option Addr) (t : List Nat) (TL TC : Nat) (ht : Lies w ta t) (hTL : t.length = TL) (hTC : TL ≤ TC) (hTb : TC < 140737488355328) (most : Int)
    (hsz : ∀ n, n ≤ (hitsOf ps t).length → (n : Int) ≤ most → n * 40 ≤ 140737488355328) :
    Calls Tryd.prog 24 #[.slice a L C, .slice ta TL TC, .int .i64 most] w fun e w' => ∃ v, e = .returned (.tuple #[v, .bool (decide ((hitsOf ps t).length ≤ most.toNat))]) ∧ Alls w w' v ((hitsOf ps t).take most.toNat) := by
  have AB : Aside (Rows2 w a ps ∧ ps.length = L ∧ Good ps) := ⟨hp, hL, hg⟩
  have AT : Aside (Lies w ta t ∧ t.length = TL ∧ TL ≤ TC ∧ TC < 140737488355328 ∧ ∀ n, n ≤ (hitsOf ps t).length → (n : Int) ≤ most → n * 40 ≤ 140737488355328) := ⟨ht, hTL, hTC, hTb, hsz⟩
  clear hp hL hg ht hTL hTC hTb hsz
  go_enter Tryd.func24, Tryd.ntmps24
  go_wp2_with fail
  go_loopg [8, 9] TL (fun g sv si wr => ∃ (v : Value) (I : Nat), sv = v ∧ si = .int .i64 I ∧ Aside (I + g = TL + 1 ∧ 1 ≤ I ∧ Alls w wr v (hitsTo ps t (I - 1)) ∧ (hitsTo ps t (I - 1)).length ≤ most.toNat))
  case atStart => exact ⟨_, 1, rfl, rfl, ⟨by omega, by omega, Alls.nil w, by simp [hitsTo]⟩⟩
  case round =>
    obtain ⟨v, I, hv, rfl, hA⟩ := hrel
    have hv2 := hv.symm
    clear hv
    subst hv2
    by_cases hiL : I ≤ TL
    · have hi : (I : Int) ≤ (TL : Int) := by omega
      obtain ⟨j, hj⟩ : ∃ j, I = j + 1 := ⟨I - 1, by have := hA.out.2.1; omega⟩
      obtain ⟨T, hT⟩ : ∃ T, t.take (j + 1) = T := ⟨_, rfl⟩
      have hR := hA.out.2.2
      rw [hj, Nat.add_sub_cancel] at hR
      have AI : Aside (I ≤ TL ∧ I = j + 1 ∧ t.take (j + 1) = T ∧ T.length = I ∧ j < t.length) := ⟨hiL, hj, hT, by rw [← hT, List.length_take]; have := AT.out; omega, by have := AT.out; omega⟩
      have R0 : Aside (Alls w wr v (hitsTo ps t j ++ ((List.range 0).filter (endsB ps T)).map fun x => (x, I)) ∧ (hitsTo ps t j ++ ((List.range 0).filter (endsB ps T)).map fun x => (x, I)).length ≤ most.toNat) := by show _ ∧ _; simpa using hR
      clear hj hT hR hiL
      go_wp2_with fail
      go_loopg [8, 10] L (fun g sv sk wr => ∃ (v : Value) (k : Nat), sv = v ∧ sk = .int .i64 k ∧ Aside (k + g = L ∧ Alls w wr v (hitsTo ps t j ++ ((List.range k).filter (endsB ps T)).map fun x => (x, I)) ∧ (hitsTo ps t j ++ ((List.range k).filter (endsB ps T)).map fun x => (x, I)).length ≤ most.toNat))
      case atStart => exact ⟨_, 0, rfl, rfl, ⟨by omega, R0.out.1, R0.out.2⟩⟩
      case round =>
        clear R0
        obtain ⟨v, k, hv, rfl, hK⟩ := hrel
        have hv2 := hv.symm
        clear hv
        subst hv2
        by_cases hkL : k < L
        · have hk : (k : Int) < (L : Int) := by omega
          have hkl : k < ps.length := by have := AB.out; omega
          obtain ⟨p, hp⟩ : ∃ p, ps[k]? = some p := ⟨_, List.getElem?_eq_getElem hkl⟩
          rcases AB.out.1 with e | ⟨pb, po, rfl, hc⟩
          · rw [e] at hkl; simp at hkl
          obtain ⟨ai, ci, c1, c2, c3, c4, c5⟩ := hc k p hp
          have hbel := hK.out.2.1.bel
          have c1' : wr.cell? ⟨pb, po + k, none⟩ = some (.slice ai p.length ci) := (hbel.cell (p := ⟨pb, po + k, none⟩) (World.block_lt_of_cell? w ⟨pb, po + k, none⟩ c1)).trans c1
          have hlp := c2.below hbel
          have hp32 := AB.out.2.2.len p (List.mem_of_getElem? hp)
          have hlt0 := (AT.out.1.below hbel).take (j + 1)
          rw [AI.out.2.2.1] at hlt0
          rcases hlt0 with e | ⟨tb0, to0, rfl, htc⟩
          · exfalso; have := AI.out; rw [e] at this; simp at this; omega
          obtain ⟨lo, hlo⟩ : ∃ lo, I - 32 = lo := ⟨_, rfl⟩
          have hlt : Lies wr (some ⟨tb0, to0 + lo, none⟩) (T.drop lo) := lies_drop htc lo
          have hends := fun (W : World) (hW : Drawn wr W) => ends_c (some ⟨tb0, to0 + lo, none⟩) ai (T.drop lo) p (I - lo) (TC - lo) p.length ci W (hW.lies hlt) (hW.lies hlp) (by rw [List.length_drop]; have := AI.out; omega) rfl (by have := AI.out; have := AT.out; omega) (by have := AI.out; have := AT.out; omega) (fun h => by cases h) hp32.1
          have hb : endsB ps T k = p.isSuffixOf (T.drop lo) := by unfold endsB; rw [hp]; simp only; rw [← hlo, ← AI.out.2.2.2.1, suffix_window hp32.2]
          rw [← hb] at hends
          obtain ⟨q, hq⟩ : ∃ q, endsB ps T k = q := ⟨_, rfl⟩
          rw [hq] at hends
          obtain ⟨m, hm⟩ : ∃ m, p.length = m := ⟨_, rfl⟩
          obtain ⟨WL, hWL⟩ : ∃ WL, I - lo = WL := ⟨_, rfl⟩
          obtain ⟨WC, hWC⟩ : ∃ WC, TC - lo = WC := ⟨_, rfl⟩
          rw [hm, hWL, hWC] at hends
          rw [hm] at c1'
          have hDw : Drawn wr wr := Drawn.refl _
          have AK : Aside (k < L ∧ endsB ps T k = q ∧ k < ps.length) := ⟨hkL, hq, hkl⟩
          have hIc : (I : Int) ≤ (TC : Int) := by have := AT.out; omega
          have hloI : (lo : Int) ≤ (I : Int) := by omega
          have hTCl : ¬ TC = lo := by have := AI.out; have := AT.out; omega
          have hI0 : (0 : Int) ≤ (I : Int) := by omega
          clear hkl hp hc c1 c2 c3 c4 c5 hbel hlp hp32 htc hlt hb hq hm hkL
          go_upto_region 8 with fail
          go_cut [34] from 17 to 45 (fun s34 wc => s34 = .bool (!q) ∧ Drawn wr wc)
          case first =>
            by_cases h32 : I ≤ 32
            · have hlo0 : lo = 0 := by omega
              subst hlo0
              have hneg : (I : Int) - 32 ≤ 0 := by omega
              clear hlo h32
              go_quiet (first | (go_at_call 26; refine Calls.quiet_of (hends _ ?_); exact hDw.drewN _))
              go_wp2_with fail
              go_meet
              exact ⟨rfl, ⟨_, rfl⟩⟩
            · have hlo1 : (I : Int) - 32 = (lo : Int) := by omega
              have hpos : ¬ (lo : Int) ≤ 0 := by omega
              have hpos2 : (0 : Int) ≤ (lo : Int) := by omega
              have hpos3 : (0 : Int) < (lo : Int) := by omega
              have hwl : IntKind.i64.wrap (lo : Int) = (lo : Int) := by rw [IntKind.wrap_i64]; have := AI.out; have := AT.out; omega
              clear hlo h32
              go_quiet (first | (go_at_call 26; refine Calls.quiet_of (hends _ ?_); exact hDw.drewN _))
              go_wp2_with fail
              go_meet
              exact ⟨rfl, ⟨_, rfl⟩⟩
          obtain ⟨rfl, hdc⟩ := hcut
          have AC : Aside (Alls w wc v (hitsTo ps t j ++ ((List.range k).filter (endsB ps T)).map fun x => (x, I))) := hK.out.2.1.drawn hdc
          obtain ⟨l, hl⟩ : ∃ l, hitsTo ps t j ++ ((List.range k).filter (endsB ps T)).map (fun x => (x, I)) = l := ⟨_, rfl⟩
          rw [hl] at AC
          have hfew : l.length ≤ most.toNat := by rw [← hl]; exact hK.out.2.2
          clear hends hlo hDw hdc c1' hWL hWC
          cases q with
          | false =>
            have hl2 : hitsTo ps t j ++ ((List.range (k + 1)).filter (endsB ps T)).map (fun x => (x, I)) = l := by
              rw [← hl, List.range_succ, List.filter_append]
              simp [AK.out.2.1]
            have AL : Aside (hitsTo ps t j ++ ((List.range (k + 1)).filter (endsB ps T)).map (fun x => (x, I)) = l ∧ l.length ≤ most.toNat) := ⟨hl2, hfew⟩
            clear hl hfew hl2
            go_upto_region 7 with fail
            have hkb : (k : Int) < 64 := by have := AK.out; have := AB.out.2.1; have := AB.out.2.2.few; omega
            go_wp2_with fail
            have hk1 := AK.out.1; have hkk := hK.out.1
            go_roundg (L - (k + 1))
            case measure => omega
            case rel => exact ⟨v, k + 1, rfl, by go_num, ⟨by omega, by rw [AL.out.1]; exact AC.out, by rw [AL.out.1]; exact AL.out.2⟩⟩
          | true =>
            have hl2 : l ++ [(k, I)] = hitsTo ps t j ++ ((List.range (k + 1)).filter (endsB ps T)).map (fun x => (x, I)) := by
              rw [← hl, List.range_succ, List.filter_append]
              simp [AK.out.2.1]
            have hat : (endsOf ps T)[((List.range k).filter (endsB ps T)).length]? = some k := filter_at (endsB ps T) (P := ps.length) AK.out.2.2 AK.out.2.1
            have hpre : (endsOf ps T).take ((List.range k).filter (endsB ps T)).length = (List.range k).filter (endsB ps T) := by
              unfold endsOf
              rw [show ps.length = k + (ps.length - k) by have := AK.out; omega, List.range_add, List.filter_append, List.take_left]
            obtain ⟨r, hr⟩ := hits_cut AI.out.2.2.2.2 (by rw [AI.out.2.2.1]) hat
            rw [hpre, ← AI.out.2.1, hl] at hr
            obtain ⟨va, vn, vc, rfl, hvn⟩ : ∃ va vn vc, v = .slice va vn vc ∧ vn = l.length := by
              obtain ⟨va, vc, hv, _⟩ := owns_shape AC.out.own
              exact ⟨va, _, vc, hv, rfl⟩
            by_cases hlm : (vn : Int) < most
            · have hlm2 : ¬ most ≤ (vn : Int) := by omega
              have AL : Aside (l ++ [(k, I)] = hitsTo ps t j ++ ((List.range (k + 1)).filter (endsB ps T)).map (fun x => (x, I)) ∧ l.length + 1 ≤ most.toNat ∧ (l.length + 1) * 40 ≤ 140737488355328) := ⟨hl2, by omega, AT.out.2.2.2.2 _ (by rw [hr]; simp) (by omega)⟩
              obtain ⟨w6, hw6⟩ : ∃ w6, w6 = wc.alloc (.cells #[.int .i64 (k : Int), .slice none 0 0, .int .i64 (I : Int)] 59) := ⟨_, rfl⟩
              have A6 : Aside (Alls w w6 (.slice va vn vc) l ∧ Cells w6 wc.heap.size #[.int .i64 (k : Int), .slice none 0 0, .int .i64 (I : Int)] 59) := ⟨by rw [hw6]; exact AC.out.alloc _, by rw [hw6]; exact Cells.new wc _ 59⟩
              clear hl hfew hl2 hat hpre hr hlm hvn
              go_upto_region 11 with fail
              go_upto_region 7 with (first
                | (rw [← hw6]; refine wpList_apph w w6 rfl (.tmp 40) (.tmp 44) rfl _ l (by rfl) A6.out.1 wc.heap.size k I (by rfl) A6.out.2 AL.out.2.2 ?_; intro v' w' hv'))
              have hk1 := AK.out.1; have hkk := hK.out.1
              have hkb : (k : Int) < 64 := by have := AB.out.2.1; have := AB.out.2.2.few; omega
              go_wp2_with fail
              go_roundg (L - (k + 1))
              case measure => omega
              case rel => exact ⟨v', k + 1, rfl, by go_num, ⟨by omega, by rw [← AL.out.1]; exact hv', by rw [← AL.out.1, List.length_append]; exact AL.out.2.1⟩⟩
            · have hlm2 : most ≤ (vn : Int) := by omega
              have AF : Aside ((hitsOf ps t).take most.toNat = l ∧ ¬ (hitsOf ps t).length ≤ most.toNat) := by
                have hlen : most.toNat = l.length := by omega
                refine ⟨by rw [hlen, hr, List.take_left], ?_⟩
                rw [hlen, hr, List.length_append, List.length_cons]; omega
              clear hl hfew hl2 hat hpre hr hlm hvn
              go_wp2_with fail
              first | go_ret | go_ret2
              obtain ⟨f1, f2⟩ := AF.out
              exact ⟨_, by rw [decide_eq_false f2]; rfl, by rw [f1]; exact AC.out⟩
        · have hk : ¬ (k : Int) < (L : Int) := by omega
          have hkE : k = ps.length := by have := hK.out.1; have := AB.out.2.1; omega
          have hall : hitsTo ps t j ++ ((List.range k).filter (endsB ps T)).map (fun x => (x, I)) = hitsTo ps t (I + 1 - 1) := by
            have hi2 := AI.out
            rw [Nat.add_sub_cancel, hi2.2.1, hkE]
            rw [hitsTo, hitsAt, hi2.2.2.1, hi2.2.2.2.1, hi2.2.1]
            rfl
          have AR : Aside (Alls w wr v (hitsTo ps t (I + 1 - 1)) ∧ (hitsTo ps t (I + 1 - 1)).length ≤ most.toNat) := ⟨by rw [← hall]; exact hK.out.2.1, by rw [← hall]; exact hK.out.2.2⟩
          clear hkL hall
          go_upto_region 4 with fail
          have hIb : (I : Int) + 1 < 9223372036854775808 := by have := AI.out; have := AT.out; omega
          clear hi hk
          go_wp2_with fail
          have hi2 := AI.out.1; have hia := hA.out
          go_roundg (TL - I)
          case measure => omega
          case rel => exact ⟨v, I + 1, rfl, by go_num, ⟨by omega, by omega, AR.out⟩⟩
    · have hi : ¬ (I : Int) ≤ (TL : Int) := by omega
      have hR := hA.out
      have e : hitsTo ps t (I - 1) = hitsOf ps t := by
        unfold hitsOf; rw [AT.out.2.1]; congr 1; omega
      rw [e] at hR
      have AR : Aside (Alls w wr v (hitsOf ps t) ∧ (hitsOf ps t).length ≤ most.toNat) := hR.2.2
      clear hR e hiL
      go_wp2_with fail
      first | go_ret | go_ret2
      obtain ⟨f1, f2⟩ := AR.out
      exact ⟨_, by rw [decide_eq_true f2]; rfl, by rw [List.take_of_length_le f2]; exact f1⟩
end Go.Proofs.YtkdlcdincimnkaaDoor

/-
  Own texts of this seat, one behind the other: what each says stands ahead of it.
-/
import Derived.Test.YtogednaamndpgaaGreatDoorMo
/-
  What the document's tokens come to.
-/
namespace Go.Proofs.YtogednaamndpgaaGreatDoor
open Go.RowKit
set_option linter.unusedVariables false
def tokV : Tok → V3
  | .inl y => (.int .u8 (y : Int), .int .i64 0, .int .i64 0)
  | .inr (n, d) => (.int .u8 0, .int .i64 (n : Int), .int .i64 (d : Int))
theorem tokV_one (t : Tok) : (tokV t).1.oneCell' = true ∧ (tokV t).2.1.oneCell' = true ∧ (tokV t).2.2.oneCell' = true := by cases t using Tok.el <;> exact ⟨rfl, rfl, rfl⟩
theorem O3.toks {w : World} {lo : Nat} {v : Value} {ts : List Tok} (h : O3 w lo 133 v (ts.map tokV)) : ∃ a c, v = .slice a ts.length c ∧ ts.length ≤ c ∧ Toks w a ts := by
  obtain ⟨a, c, hv, hc, hl, _⟩ := h.shape
  rw [List.length_map] at hv hc
  refine ⟨a, c, hv, hc, ?_⟩
  rcases hl with e | ⟨g, cs, ha, _, hcs, hh⟩
  · left; simpa using e
  · refine Or.inr ⟨g, 0, cs, ha, hcs, fun i t ht => ?_⟩
    obtain ⟨h1, h2, h3⟩ := hh i (tokV t) (by rw [List.getElem?_map, ht]; rfl)
    cases t using Tok.el with
    | lit y => exact ⟨by rw [Nat.zero_add]; exact h1, by rw [Nat.zero_add]; exact h2⟩
    | cp n d => exact ⟨by rw [Nat.zero_add]; exact h2, by rw [Nat.zero_add]; exact h3⟩
theorem tells_lit {T : List Nat} {b : Nat} : ∀ {l : List Tok} {i k : Nat}, Tells T i l k → T[k]? = some b → Tells T i (l ++ [.lit b]) (k + 1)
  | [], i, k, h, hb => by
    have : i = k := h
    subst this
    exact ⟨hb, rfl⟩
  | .inl c :: l, i, k, h, hb => ⟨h.1, tells_lit h.2 hb⟩
  | .inr (n, d) :: l, i, k, h, hb => ⟨h.1, h.2.1, h.2.2.1, h.2.2.2.1, h.2.2.2.2.1, h.2.2.2.2.2.1, h.2.2.2.2.2.2.1, tells_lit h.2.2.2.2.2.2.2 hb⟩
theorem tells_cp {T : List Nat} {n d : Nat} : ∀ {l : List Tok} {i k : Nat}, Tells T i l k → 3 ≤ n → n ≤ 258 → 1 ≤ d → d ≤ 200 → d ≤ k → Back T k d n → Tells T i (l ++ [.cp n d]) (k + n)
  | [], i, k, h, h1, h2, h3, h4, h5, h6 => by
    have : i = k := h
    subst this
    exact ⟨h1, h2, h3, h4, h5, h6.1, h6.2, rfl⟩
  | .inl c :: l, i, k, h, h1, h2, h3, h4, h5, h6 => ⟨h.1, tells_cp h.2 h1 h2 h3 h4 h5 h6⟩
  | .inr (m, e) :: l, i, k, h, h1, h2, h3, h4, h5, h6 => ⟨h.1, h.2.1, h.2.2.1, h.2.2.2.1, h.2.2.2.2.1, h.2.2.2.2.2.1, h.2.2.2.2.2.2.1, tells_cp h.2.2.2.2.2.2.2 h1 h2 h3 h4 h5 h6⟩
theorem tells_len {T : List Nat} : ∀ {l : List Tok} {i k : Nat}, Tells T i l k → i + l.length ≤ k
  | [], i, k, h => by have : i = k := h; simp; omega
  | .inl c :: l, i, k, h => by have := tells_len h.2; simp; omega
  | .inr (n, d) :: l, i, k, h => by have := tells_len h.2.2.2.2.2.2.2; have := h.1; simp; omega
def Best (l : List Nat) (k e best at_ : Nat) : Prop := best = 0 ∨ (1 ≤ at_ ∧ at_ ≤ 200 ∧ at_ ≤ k ∧ Back l k at_ best ∧ best ≤ 258 ∧ k + best ≤ e)
set_option maxRecDepth 100000 in
set_option maxHeartbeats 4000000 in
theorem tokens_c (w : World) (a : Option Addr) (l : List Nat) (L c i e : Nat) (cp : Bool) (hl : Lies w a l) (hL : l.length = L) (hLb : L ≤ 10000) (hi : i ≤ e) (he : e ≤ L) :
    Calls Tryz.prog 54 #[.slice a L c, .int .i64 (i : Int), .int .i64 (e : Int), .bool cp] w fun e1 w' => ∃ ta ts tc, e1 = .returned (.slice ta ts.length tc) ∧ Toks w' ta ts ∧ Tells l i ts e ∧ Below w.heap.size w w' := by
  obtain ⟨B, hB⟩ : ∃ B, w.heap.size = B := ⟨_, rfl⟩
  rw [hB]
  have A : Aside (Lies w a l ∧ l.length = L ∧ L ≤ 10000 ∧ i ≤ e ∧ e ≤ L ∧ w.heap.size = B) := ⟨hl, hL, hLb, hi, he, hB⟩
  have hLi : (L : Int) ≤ 10000 := by omega
  have hei : (e : Int) ≤ (L : Int) := by omega
  obtain ⟨i0, hi0, hz0, hz1, hz2⟩ := ginfo_parts info110
  have AI : Aside (Tryz.prog.info? 133 = some i0 ∧ i0.zero = some (.agg #[.int .u8 0, .int .i64 0, .int .i64 0]) ∧ i0.size = 3 ∧ i0.bytes = 24) := ⟨hi0, hz0, hz1, hz2⟩
  clear hl hL hLb hi he hB hi0 hz0 hz1 hz2
  go_enter Tryz.func54, Tryz.ntmps54
  go_wp2_with fail
  go_loopg [1, 9] (e - i) (fun gg s1 s9 wr => ∃ k : Nat, s1 = .int .i64 (k : Int) ∧ Aside (k + gg = e ∧ ∃ ts, Tells l i ts k ∧ O3 wr B 133 s9 (ts.map tokV) ∧ Below B w wr))
  case atStart => exact ⟨i, rfl, by have := A.out; omega, [], rfl, O3.nil (by have := A.out; omega), Below.refl _ _⟩
  case round =>
    obtain ⟨k, rfl, hI⟩ := hrel
    obtain ⟨w5, hw5⟩ : ∃ w5, w5 = wr := ⟨_, rfl⟩
    subst hw5
    obtain ⟨G, hG⟩ : ∃ G, G = gk := ⟨_, rfl⟩
    subst hG
    obtain ⟨hkg, ts, htel, ho3, hbel⟩ := hI.out
    have a0 := A.out
    obtain ⟨va, vc, hv, hvc, _, _⟩ := ho3.shape
    obtain ⟨ln, hln⟩ : ∃ ln, (ts.map tokV).length = ln := ⟨_, rfl⟩
    rw [hln] at hv
    subst hv
    by_cases hk : k < e
    · have t1 : ((k : Int) < (e : Int)) = True := eq_true (by omega)
      have t1' : (k < e) = True := eq_true hk
      have hkI : (k : Int) < 10000 := by omega
      have heI : (e : Int) ≤ 10000 := by omega
      obtain ⟨x, hx⟩ : ∃ x, l[k]? = some x := ⟨_, List.getElem?_eq_getElem (by omega)⟩
      have hl5 : Lies w5 a l := a0.1.below (by rw [a0.2.2.2.2.2]; exact hbel)
      have htl := tells_len htel
      have AX : Aside (k + G = e ∧ k < e ∧ Tells l i ts k ∧ O3 w5 B 133 (.slice va ln vc) (ts.map tokV) ∧ Below B w w5 ∧ l[k]? = some x ∧ Lies w5 a l ∧ ((ts.map tokV).length + 1) * 24 ≤ 1000000000) := ⟨hkg, hk, htel, ho3, hbel, hx, hl5, by rw [List.length_map]; omega⟩
      obtain ⟨mq, hmq⟩ : ∃ mq, min 258 (e - k) = mq := ⟨_, rfl⟩
      have hmqi : (if (e : Int) - (k : Int) < 258 then (e : Int) - (k : Int) else 258) = (mq : Int) := by split <;> omega
      have AM : Aside (min 258 (e - k) = mq) := hmq
      clear hI hkg htel ho3 hbel a0 hvc hln hk hx hl5 htl hmq
      go_wp2_with fail
      go_loopg [10, 11, 12] 201 (fun gg s10 s11 s12 wq => ∃ best at_ d : Nat, s10 = .int .i64 (best : Int) ∧ s11 = .int .i64 (at_ : Int) ∧ s12 = .int .i64 (d : Int) ∧ Aside (d + gg = 202 ∧ 1 ≤ d ∧ Best l k e best at_ ∧ Drawn w5 wq))
      case atStart => exact ⟨0, 0, 1, rfl, rfl, rfl, by omega, by omega, Or.inl rfl, ⟨0, rfl⟩⟩
      case round =>
        obtain ⟨best, at_, d, rfl, rfl, rfl, hJ⟩ := hrel
        obtain ⟨hdg, hd1, hbest, hdr⟩ := hJ.out
        have ax := AX.out
        by_cases hgo : cp = true ∧ d ≤ k ∧ d ≤ 200
        · obtain ⟨hcp, hdk, hd2⟩ := hgo
          subst hcp
          have t2 : ((d : Int) ≤ (k : Int)) = True := eq_true (by omega)
          have t2' : (d ≤ k) = True := eq_true hdk
          have t3 : ((d : Int) ≤ 200) = True := eq_true (by omega)
          have t3' : (d ≤ 200) = True := eq_true hd2
          have hdI : (d : Int) ≤ 200 := by omega
          have hlq : Lies wr a l := by obtain ⟨n, rfl⟩ := hdr; exact ax.2.2.2.2.2.2.1
          have a0 := A.out
          have hm := AM.out
          have hrun := run_c a l L c k d mq wr hlq a0.2.1 a0.2.2.1 (by omega) hd1 hdk (by omega)
          have AJ : Aside (d + gk = 202 ∧ 1 ≤ d ∧ d ≤ 200 ∧ d ≤ k ∧ Best l k e best at_ ∧ Drawn w5 wr ∧ best < 1000) := ⟨hdg, hd1, hd2, hdk, hbest, hdr, by rcases hbest with h | h <;> omega⟩
          clear hJ hdg hd1 hbest hdr ax hdk hd2 hlq a0 hm
          go_upto_region 8 with (go_at_call 83; refine hrun.mono ?_; rintro e2 w6 ⟨n, rfl, hn1, hn2, hn3⟩)
          have aj := AJ.out
          have hm := AM.out
          have hdr6 : Drawn w5 w6 := by
            obtain ⟨p, hp⟩ := aj.2.2.2.2.2.1
            obtain ⟨q, hq⟩ := hn3
            rw [hq, hp]
            exact ⟨_, World.drewN_drewN _ _ _⟩
          by_cases hnb : best < n
          · have t4 : ((best : Int) < (n : Int)) = True := eq_true (by omega)
            have t4' : (best < n) = True := eq_true hnb
            have ax := AX.out
            have AK : Aside (d + gk = 202 ∧ 1 ≤ d ∧ d ≤ 200 ∧ Best l k e n d ∧ Drawn w5 w6) := ⟨aj.1, aj.2.1, aj.2.2.1, Or.inr ⟨aj.2.1, aj.2.2.1, aj.2.2.2.1, hn2, by omega, by omega⟩, hdr6⟩
            clear aj hm hdr6 hnb ax hrun hn1 hn2 hn3 t2 t2' t3 t3'
            go_wp2_with fail
            have ak := AK.out
            go_roundg (gk - 1)
            case measure => omega
            case rel => exact ⟨n, d, d + 1, rfl, rfl, by go_num, by omega, by omega, ak.2.2.2.1, ak.2.2.2.2⟩
          · have t4 : ((best : Int) < (n : Int)) = False := eq_false (by omega)
            have t4' : (best < n) = False := eq_false hnb
            have AK : Aside (d + gk = 202 ∧ 1 ≤ d ∧ d ≤ 200 ∧ Best l k e best at_ ∧ Drawn w5 w6) := ⟨aj.1, aj.2.1, aj.2.2.1, aj.2.2.2.2.1, hdr6⟩
            clear aj hm hdr6 hnb hrun hn1 hn2 hn3 t2 t2' t3 t3'
            go_wp2_with fail
            have ak := AK.out
            go_roundg (gk - 1)
            case measure => omega
            case rel => exact ⟨best, at_, d + 1, rfl, rfl, by go_num, by omega, by omega, ak.2.2.2.1, ak.2.2.2.2⟩
        · have hways : cp = false ∨ (cp = true ∧ k < d) ∨ (cp = true ∧ d ≤ k ∧ 200 < d) := by
            cases cp
            · exact Or.inl rfl
            · right
              by_cases h : d ≤ k
              · exact Or.inr ⟨rfl, h, by have : ¬ d ≤ 200 := fun h2 => hgo ⟨rfl, h, h2⟩
                                         omega⟩
              · exact Or.inl ⟨rfl, by omega⟩
          clear hgo ax
          have hdI : (d : Int) ≤ 202 := by omega
          rcases hways with rfl | ⟨rfl, h⟩ | ⟨rfl, h1, h2⟩
          · have ax := AX.out
            obtain ⟨H, hH⟩ : ∃ H, wr.heap.size = H := ⟨_, rfl⟩
            by_cases hb3 : best < 3
            · have t5 : ((best : Int) < 3) = True := eq_true (by omega)
              have t5' : (best < 3) = True := eq_true hb3
              obtain ⟨ab, ao, ha, cx⟩ : ∃ ab ao, a = some ⟨ab, ao, none⟩ ∧ wr.cell? ⟨ab, ao + k, none⟩ = some (.int .u8 (x : Int)) := by
                obtain ⟨nn, rfl⟩ := hdr
                rcases ax.2.2.2.2.2.2.1 with e | ⟨ab, ao, e, h⟩
                · rw [e] at ax; simp at ax
                · exact ⟨ab, ao, e, h k x ax.2.2.2.2.2.1⟩
              subst ha
              have hkL : ((k : Int) < (L : Int)) = True := eq_true (by have := A.out; omega)
              have hkL' : (k < L) = True := eq_true (by have := A.out; omega)
              have AB : Aside (True) := trivial
              have bal : Below wr.heap.size wr (wr.alloc (.cells #[.int .u8 (x : Int), .int .i64 0, .int .i64 0] 133)) := (Below.refl _ wr).alloc (Nat.le_refl _) _
              have ho3A : O3 (wr.alloc (.cells #[.int .u8 (x : Int), .int .i64 0, .int .i64 0] 133)) B 133 (.slice va ln vc) (ts.map tokV) := O3.below (O3.drawn ax.2.2.2.1 hdr) bal (Nat.le_refl _)
              have hcN := Cells.new wr #[.int .u8 (x : Int), .int .i64 0, .int .i64 0] 133
              rw [hH] at hcN
              have q0 := hcN.cell 0
              have q1 := hcN.cell 1
              have q2 := hcN.cell 2
              simp only [List.getElem?_toArray, List.getElem?_cons_zero, List.getElem?_cons_succ] at q0 q1 q2
              have hbw : Below B w (wr.alloc (.cells #[.int .u8 (x : Int), .int .i64 0, .int .i64 0] 133)) := (ax.2.2.2.2.1.trans (by obtain ⟨nn, rfl⟩ := hdr; exact ((Only.refl B w5).drewN nn).below (Nat.le_refl _))).trans (bal.mono (by obtain ⟨nn, rfl⟩ := hdr; exact ax.2.2.2.1.le))
              have A2 : Aside (Below B w (wr.alloc (.cells #[.int .u8 (x : Int), .int .i64 0, .int .i64 0] 133))) := hbw
              clear hJ hdg hd1 hbest hdr ax bal hcN hbw hb3
              go_wp2_with (at_builtin; refine wpList_o3 _ rfl (.tmp 44) (.tmp 50) 109 rfl 133 i0 (.agg #[.int .u8 0, .int .i64 0, .int .i64 0]) 24 Tryz.underlying109 AI.out.1 AI.out.2.1 AI.out.2.2.1 AI.out.2.2.2 rfl B (.slice va ln vc) (ts.map tokV) (by rfl) ho3A H 1 (tokV (.lit x)) (by rfl) q0 q1 q2 (tokV_one _) AX.out.2.2.2.2.2.2.2 (by decide) ?_; intro v7 w7 hg7)
              have ax := AX.out
              have ab := AB.out
              go_roundg (G - (1))
              case measure => omega
              case rel => exact ⟨k + 1, by go_num, by omega, ts ++ [.lit x], tells_lit ax.2.2.1 ax.2.2.2.2.2.1, by rw [List.map_append]; exact hg7.ow, A2.out.trans hg7.bel⟩
            · have t5 : ((best : Int) < 3) = False := eq_false (by omega)
              have t5' : (best < 3) = False := eq_false hb3
              obtain ⟨b1, b2, b3, b4, b5, b6⟩ : 1 ≤ at_ ∧ at_ ≤ 200 ∧ at_ ≤ k ∧ Back l k at_ best ∧ best ≤ 258 ∧ k + best ≤ e := hbest.resolve_left (by omega)
              have hbI : (best : Int) ≤ 258 := by omega
              have AB : Aside (3 ≤ best ∧ k + best ≤ e ∧ 1 ≤ at_ ∧ at_ ≤ 200 ∧ at_ ≤ k ∧ Back l k at_ best ∧ best ≤ 258) := ⟨by omega, b6, b1, b2, b3, b4, b5⟩
              clear b1 b2 b3 b4 b5 b6
              have bal : Below wr.heap.size wr (wr.alloc (.cells #[.int .u8 0, .int .i64 (best : Int), .int .i64 (at_ : Int)] 133)) := (Below.refl _ wr).alloc (Nat.le_refl _) _
              have ho3A : O3 (wr.alloc (.cells #[.int .u8 0, .int .i64 (best : Int), .int .i64 (at_ : Int)] 133)) B 133 (.slice va ln vc) (ts.map tokV) := O3.below (O3.drawn ax.2.2.2.1 hdr) bal (Nat.le_refl _)
              have hcN := Cells.new wr #[.int .u8 0, .int .i64 (best : Int), .int .i64 (at_ : Int)] 133
              rw [hH] at hcN
              have q0 := hcN.cell 0
              have q1 := hcN.cell 1
              have q2 := hcN.cell 2
              simp only [List.getElem?_toArray, List.getElem?_cons_zero, List.getElem?_cons_succ] at q0 q1 q2
              have hbw : Below B w (wr.alloc (.cells #[.int .u8 0, .int .i64 (best : Int), .int .i64 (at_ : Int)] 133)) := (ax.2.2.2.2.1.trans (by obtain ⟨nn, rfl⟩ := hdr; exact ((Only.refl B w5).drewN nn).below (Nat.le_refl _))).trans (bal.mono (by obtain ⟨nn, rfl⟩ := hdr; exact ax.2.2.2.1.le))
              have A2 : Aside (Below B w (wr.alloc (.cells #[.int .u8 0, .int .i64 (best : Int), .int .i64 (at_ : Int)] 133))) := hbw
              clear hJ hdg hd1 hbest hdr ax bal hcN hbw hb3
              go_wp2_with (at_builtin; refine wpList_o3 _ rfl (.tmp 54) (.tmp 58) 109 rfl 133 i0 (.agg #[.int .u8 0, .int .i64 0, .int .i64 0]) 24 Tryz.underlying109 AI.out.1 AI.out.2.1 AI.out.2.2.1 AI.out.2.2.2 rfl B (.slice va ln vc) (ts.map tokV) (by rfl) ho3A H 1 (tokV (.cp best at_)) (by rfl) q0 q1 q2 (tokV_one _) AX.out.2.2.2.2.2.2.2 (by decide) ?_; intro v7 w7 hg7)
              have ax := AX.out
              have ab := AB.out
              go_roundg (G - (best))
              case measure => omega
              case rel => exact ⟨k + best, by go_num, by omega, ts ++ [.cp best at_], tells_cp ax.2.2.1 ab.1 ab.2.2.2.2.2.2 ab.2.2.1 ab.2.2.2.1 ab.2.2.2.2.1 ab.2.2.2.2.2.1, by rw [List.map_append]; exact hg7.ow, A2.out.trans hg7.bel⟩
          · have t2 : ((d : Int) ≤ (k : Int)) = False := eq_false (by omega)
            have t2' : (d ≤ k) = False := eq_false (by omega)
            clear h
            have ax := AX.out
            obtain ⟨H, hH⟩ : ∃ H, wr.heap.size = H := ⟨_, rfl⟩
            by_cases hb3 : best < 3
            · have t5 : ((best : Int) < 3) = True := eq_true (by omega)
              have t5' : (best < 3) = True := eq_true hb3
              obtain ⟨ab, ao, ha, cx⟩ : ∃ ab ao, a = some ⟨ab, ao, none⟩ ∧ wr.cell? ⟨ab, ao + k, none⟩ = some (.int .u8 (x : Int)) := by
                obtain ⟨nn, rfl⟩ := hdr
                rcases ax.2.2.2.2.2.2.1 with e | ⟨ab, ao, e, h⟩
                · rw [e] at ax; simp at ax
                · exact ⟨ab, ao, e, h k x ax.2.2.2.2.2.1⟩
              subst ha
              have hkL : ((k : Int) < (L : Int)) = True := eq_true (by have := A.out; omega)
              have hkL' : (k < L) = True := eq_true (by have := A.out; omega)
              have AB : Aside (True) := trivial
              have bal : Below wr.heap.size wr (wr.alloc (.cells #[.int .u8 (x : Int), .int .i64 0, .int .i64 0] 133)) := (Below.refl _ wr).alloc (Nat.le_refl _) _
              have ho3A : O3 (wr.alloc (.cells #[.int .u8 (x : Int), .int .i64 0, .int .i64 0] 133)) B 133 (.slice va ln vc) (ts.map tokV) := O3.below (O3.drawn ax.2.2.2.1 hdr) bal (Nat.le_refl _)
              have hcN := Cells.new wr #[.int .u8 (x : Int), .int .i64 0, .int .i64 0] 133
              rw [hH] at hcN
              have q0 := hcN.cell 0
              have q1 := hcN.cell 1
              have q2 := hcN.cell 2
              simp only [List.getElem?_toArray, List.getElem?_cons_zero, List.getElem?_cons_succ] at q0 q1 q2
              have hbw : Below B w (wr.alloc (.cells #[.int .u8 (x : Int), .int .i64 0, .int .i64 0] 133)) := (ax.2.2.2.2.1.trans (by obtain ⟨nn, rfl⟩ := hdr; exact ((Only.refl B w5).drewN nn).below (Nat.le_refl _))).trans (bal.mono (by obtain ⟨nn, rfl⟩ := hdr; exact ax.2.2.2.1.le))
              have A2 : Aside (Below B w (wr.alloc (.cells #[.int .u8 (x : Int), .int .i64 0, .int .i64 0] 133))) := hbw
              clear hJ hdg hd1 hbest hdr ax bal hcN hbw hb3
              go_wp2_with (at_builtin; refine wpList_o3 _ rfl (.tmp 44) (.tmp 50) 109 rfl 133 i0 (.agg #[.int .u8 0, .int .i64 0, .int .i64 0]) 24 Tryz.underlying109 AI.out.1 AI.out.2.1 AI.out.2.2.1 AI.out.2.2.2 rfl B (.slice va ln vc) (ts.map tokV) (by rfl) ho3A H 1 (tokV (.lit x)) (by rfl) q0 q1 q2 (tokV_one _) AX.out.2.2.2.2.2.2.2 (by decide) ?_; intro v7 w7 hg7)
              have ax := AX.out
              have ab := AB.out
              go_roundg (G - (1))
              case measure => omega
              case rel => exact ⟨k + 1, by go_num, by omega, ts ++ [.lit x], tells_lit ax.2.2.1 ax.2.2.2.2.2.1, by rw [List.map_append]; exact hg7.ow, A2.out.trans hg7.bel⟩
            · have t5 : ((best : Int) < 3) = False := eq_false (by omega)
              have t5' : (best < 3) = False := eq_false hb3
              obtain ⟨b1, b2, b3, b4, b5, b6⟩ : 1 ≤ at_ ∧ at_ ≤ 200 ∧ at_ ≤ k ∧ Back l k at_ best ∧ best ≤ 258 ∧ k + best ≤ e := hbest.resolve_left (by omega)
              have hbI : (best : Int) ≤ 258 := by omega
              have AB : Aside (3 ≤ best ∧ k + best ≤ e ∧ 1 ≤ at_ ∧ at_ ≤ 200 ∧ at_ ≤ k ∧ Back l k at_ best ∧ best ≤ 258) := ⟨by omega, b6, b1, b2, b3, b4, b5⟩
              clear b1 b2 b3 b4 b5 b6
              have bal : Below wr.heap.size wr (wr.alloc (.cells #[.int .u8 0, .int .i64 (best : Int), .int .i64 (at_ : Int)] 133)) := (Below.refl _ wr).alloc (Nat.le_refl _) _
              have ho3A : O3 (wr.alloc (.cells #[.int .u8 0, .int .i64 (best : Int), .int .i64 (at_ : Int)] 133)) B 133 (.slice va ln vc) (ts.map tokV) := O3.below (O3.drawn ax.2.2.2.1 hdr) bal (Nat.le_refl _)
              have hcN := Cells.new wr #[.int .u8 0, .int .i64 (best : Int), .int .i64 (at_ : Int)] 133
              rw [hH] at hcN
              have q0 := hcN.cell 0
              have q1 := hcN.cell 1
              have q2 := hcN.cell 2
              simp only [List.getElem?_toArray, List.getElem?_cons_zero, List.getElem?_cons_succ] at q0 q1 q2
              have hbw : Below B w (wr.alloc (.cells #[.int .u8 0, .int .i64 (best : Int), .int .i64 (at_ : Int)] 133)) := (ax.2.2.2.2.1.trans (by obtain ⟨nn, rfl⟩ := hdr; exact ((Only.refl B w5).drewN nn).below (Nat.le_refl _))).trans (bal.mono (by obtain ⟨nn, rfl⟩ := hdr; exact ax.2.2.2.1.le))
              have A2 : Aside (Below B w (wr.alloc (.cells #[.int .u8 0, .int .i64 (best : Int), .int .i64 (at_ : Int)] 133))) := hbw
              clear hJ hdg hd1 hbest hdr ax bal hcN hbw hb3
              go_wp2_with (at_builtin; refine wpList_o3 _ rfl (.tmp 54) (.tmp 58) 109 rfl 133 i0 (.agg #[.int .u8 0, .int .i64 0, .int .i64 0]) 24 Tryz.underlying109 AI.out.1 AI.out.2.1 AI.out.2.2.1 AI.out.2.2.2 rfl B (.slice va ln vc) (ts.map tokV) (by rfl) ho3A H 1 (tokV (.cp best at_)) (by rfl) q0 q1 q2 (tokV_one _) AX.out.2.2.2.2.2.2.2 (by decide) ?_; intro v7 w7 hg7)
              have ax := AX.out
              have ab := AB.out
              go_roundg (G - (best))
              case measure => omega
              case rel => exact ⟨k + best, by go_num, by omega, ts ++ [.cp best at_], tells_cp ax.2.2.1 ab.1 ab.2.2.2.2.2.2 ab.2.2.1 ab.2.2.2.1 ab.2.2.2.2.1 ab.2.2.2.2.2.1, by rw [List.map_append]; exact hg7.ow, A2.out.trans hg7.bel⟩
          · have t2 : ((d : Int) ≤ (k : Int)) = True := eq_true (by omega)
            have t2' : (d ≤ k) = True := eq_true h1
            have t3 : ((d : Int) ≤ 200) = False := eq_false (by omega)
            have t3' : (d ≤ 200) = False := eq_false (by omega)
            clear h1 h2
            have ax := AX.out
            obtain ⟨H, hH⟩ : ∃ H, wr.heap.size = H := ⟨_, rfl⟩
            by_cases hb3 : best < 3
            · have t5 : ((best : Int) < 3) = True := eq_true (by omega)
              have t5' : (best < 3) = True := eq_true hb3
              obtain ⟨ab, ao, ha, cx⟩ : ∃ ab ao, a = some ⟨ab, ao, none⟩ ∧ wr.cell? ⟨ab, ao + k, none⟩ = some (.int .u8 (x : Int)) := by
                obtain ⟨nn, rfl⟩ := hdr
                rcases ax.2.2.2.2.2.2.1 with e | ⟨ab, ao, e, h⟩
                · rw [e] at ax; simp at ax
                · exact ⟨ab, ao, e, h k x ax.2.2.2.2.2.1⟩
              subst ha
              have hkL : ((k : Int) < (L : Int)) = True := eq_true (by have := A.out; omega)
              have hkL' : (k < L) = True := eq_true (by have := A.out; omega)
              have AB : Aside (True) := trivial
              have bal : Below wr.heap.size wr (wr.alloc (.cells #[.int .u8 (x : Int), .int .i64 0, .int .i64 0] 133)) := (Below.refl _ wr).alloc (Nat.le_refl _) _
              have ho3A : O3 (wr.alloc (.cells #[.int .u8 (x : Int), .int .i64 0, .int .i64 0] 133)) B 133 (.slice va ln vc) (ts.map tokV) := O3.below (O3.drawn ax.2.2.2.1 hdr) bal (Nat.le_refl _)
              have hcN := Cells.new wr #[.int .u8 (x : Int), .int .i64 0, .int .i64 0] 133
              rw [hH] at hcN
              have q0 := hcN.cell 0
              have q1 := hcN.cell 1
              have q2 := hcN.cell 2
              simp only [List.getElem?_toArray, List.getElem?_cons_zero, List.getElem?_cons_succ] at q0 q1 q2
              have hbw : Below B w (wr.alloc (.cells #[.int .u8 (x : Int), .int .i64 0, .int .i64 0] 133)) := (ax.2.2.2.2.1.trans (by obtain ⟨nn, rfl⟩ := hdr; exact ((Only.refl B w5).drewN nn).below (Nat.le_refl _))).trans (bal.mono (by obtain ⟨nn, rfl⟩ := hdr; exact ax.2.2.2.1.le))
              have A2 : Aside (Below B w (wr.alloc (.cells #[.int .u8 (x : Int), .int .i64 0, .int .i64 0] 133))) := hbw
              clear hJ hdg hd1 hbest hdr ax bal hcN hbw hb3
              go_wp2_with (at_builtin; refine wpList_o3 _ rfl (.tmp 44) (.tmp 50) 109 rfl 133 i0 (.agg #[.int .u8 0, .int .i64 0, .int .i64 0]) 24 Tryz.underlying109 AI.out.1 AI.out.2.1 AI.out.2.2.1 AI.out.2.2.2 rfl B (.slice va ln vc) (ts.map tokV) (by rfl) ho3A H 1 (tokV (.lit x)) (by rfl) q0 q1 q2 (tokV_one _) AX.out.2.2.2.2.2.2.2 (by decide) ?_; intro v7 w7 hg7)
              have ax := AX.out
              have ab := AB.out
              go_roundg (G - (1))
              case measure => omega
              case rel => exact ⟨k + 1, by go_num, by omega, ts ++ [.lit x], tells_lit ax.2.2.1 ax.2.2.2.2.2.1, by rw [List.map_append]; exact hg7.ow, A2.out.trans hg7.bel⟩
            · have t5 : ((best : Int) < 3) = False := eq_false (by omega)
              have t5' : (best < 3) = False := eq_false hb3
              obtain ⟨b1, b2, b3, b4, b5, b6⟩ : 1 ≤ at_ ∧ at_ ≤ 200 ∧ at_ ≤ k ∧ Back l k at_ best ∧ best ≤ 258 ∧ k + best ≤ e := hbest.resolve_left (by omega)
              have hbI : (best : Int) ≤ 258 := by omega
              have AB : Aside (3 ≤ best ∧ k + best ≤ e ∧ 1 ≤ at_ ∧ at_ ≤ 200 ∧ at_ ≤ k ∧ Back l k at_ best ∧ best ≤ 258) := ⟨by omega, b6, b1, b2, b3, b4, b5⟩
              clear b1 b2 b3 b4 b5 b6
              have bal : Below wr.heap.size wr (wr.alloc (.cells #[.int .u8 0, .int .i64 (best : Int), .int .i64 (at_ : Int)] 133)) := (Below.refl _ wr).alloc (Nat.le_refl _) _
              have ho3A : O3 (wr.alloc (.cells #[.int .u8 0, .int .i64 (best : Int), .int .i64 (at_ : Int)] 133)) B 133 (.slice va ln vc) (ts.map tokV) := O3.below (O3.drawn ax.2.2.2.1 hdr) bal (Nat.le_refl _)
              have hcN := Cells.new wr #[.int .u8 0, .int .i64 (best : Int), .int .i64 (at_ : Int)] 133
              rw [hH] at hcN
              have q0 := hcN.cell 0
              have q1 := hcN.cell 1
              have q2 := hcN.cell 2
              simp only [List.getElem?_toArray, List.getElem?_cons_zero, List.getElem?_cons_succ] at q0 q1 q2
              have hbw : Below B w (wr.alloc (.cells #[.int .u8 0, .int .i64 (best : Int), .int .i64 (at_ : Int)] 133)) := (ax.2.2.2.2.1.trans (by obtain ⟨nn, rfl⟩ := hdr; exact ((Only.refl B w5).drewN nn).below (Nat.le_refl _))).trans (bal.mono (by obtain ⟨nn, rfl⟩ := hdr; exact ax.2.2.2.1.le))
              have A2 : Aside (Below B w (wr.alloc (.cells #[.int .u8 0, .int .i64 (best : Int), .int .i64 (at_ : Int)] 133))) := hbw
              clear hJ hdg hd1 hbest hdr ax bal hcN hbw hb3
              go_wp2_with (at_builtin; refine wpList_o3 _ rfl (.tmp 54) (.tmp 58) 109 rfl 133 i0 (.agg #[.int .u8 0, .int .i64 0, .int .i64 0]) 24 Tryz.underlying109 AI.out.1 AI.out.2.1 AI.out.2.2.1 AI.out.2.2.2 rfl B (.slice va ln vc) (ts.map tokV) (by rfl) ho3A H 1 (tokV (.cp best at_)) (by rfl) q0 q1 q2 (tokV_one _) AX.out.2.2.2.2.2.2.2 (by decide) ?_; intro v7 w7 hg7)
              have ax := AX.out
              have ab := AB.out
              go_roundg (G - (best))
              case measure => omega
              case rel => exact ⟨k + best, by go_num, by omega, ts ++ [.cp best at_], tells_cp ax.2.2.1 ab.1 ab.2.2.2.2.2.2 ab.2.2.1 ab.2.2.2.1 ab.2.2.2.2.1 ab.2.2.2.2.2.1, by rw [List.map_append]; exact hg7.ow, A2.out.trans hg7.bel⟩
    · have t1 : ((k : Int) < (e : Int)) = False := eq_false (by omega)
      have t1' : (k < e) = False := eq_false hk
      have hke : k = e := by omega
      subst hke
      obtain ⟨ta, tc, htv, _, htk⟩ := ho3.toks
      injection htv with i1 i2 i3
      subst i1
      subst i3
      have AX : Aside (Toks w5 va ts ∧ Tells l i ts k ∧ Below B w w5 ∧ ln = ts.length) := ⟨htk, htel, hbel, i2⟩
      clear hI hkg htel ho3 hbel a0 hvc hln hk htk i2
      go_wp2_with fail
      go_ret
      have ax := AX.out
      exact ⟨va, ts, vc, by rw [← ax.2.2.2]; rfl, ax.1, ax.2.1, ax.2.2.1⟩
end Go.Proofs.YtogednaamndpgaaGreatDoor

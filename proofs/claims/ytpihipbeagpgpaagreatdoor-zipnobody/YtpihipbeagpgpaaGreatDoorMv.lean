/-
  Own texts of this seat, one behind the other: what each says stands ahead of it.
-/
import Derived.Test.YtpihipbeagpgpaaGreatDoorMu
import Derived.Test.YtpihipbeagpgpaaGreatDoorMg
import Derived.Test.YtpihipbeagpgpaaGreatDoorMe
import Derived.Test.YtpihipbeagpgpaaGreatDoorMt
/-
  What the document's tokens come to.
-/
namespace Go.Proofs.YtpihipbeagpgpaaGreatDoor
open Go.RowKit
set_option linter.unusedVariables false
def tokV : Tok → V3
  | .inl y => (.int .u8 (y : Int), .int .i64 0, .int .i64 0)
  | .inr (n, d) => (.int .u8 0, .int .i64 (n : Int), .int .i64 (d : Int))
theorem tokV_one (t : Tok) : (tokV t).1.oneCell' = true ∧ (tokV t).2.1.oneCell' = true ∧ (tokV t).2.2.oneCell' = true := by cases t using Tok.el <;> exact ⟨rfl, rfl, rfl⟩
theorem O3.toks {w : World} {lo : Nat} {v : Value} {ts : List Tok} (h : O3 w lo 164 v (ts.map tokV)) : ∃ a c, v = .slice a ts.length c ∧ ts.length ≤ c ∧ Toks w a ts := by
  obtain ⟨a, c, hv, hc, hl, _⟩ := h.shape
  rw [List.length_map] at hv hc
  refine ⟨a, c, hv, hc, ?_⟩
  rcases hl with e | ⟨g, cs, ha, _, hcs, hh⟩
  · left; simpa using e
  · refine Or.inr ⟨g, 0, cs, ha, hcs, fun i t ht => ?_⟩
    obtain ⟨h1, h2, h3⟩ := hh i (tokV t) (by rw [List.getElem?_map, ht]; rfl)
    cases t using Tok.el with
    | lit y => exact ⟨by rw [Nat.zero_add]; exact h1, by rw [Nat.zero_add]; exact h2⟩
    | cp n d => exact ⟨by rw [Nat.zero_add]; exact h2, by rw [Nat.zero_add]; exact h3⟩
theorem tells_lit {T : List Nat} {b : Nat} : ∀ {l : List Tok} {i k : Nat}, Tells T i l k → T[k]? = some b → Tells T i (l ++ [.lit b]) (k + 1)
  | [], i, k, h, hb => by
    have : i = k := h
    subst this
    exact ⟨hb, rfl⟩
  | .inl c :: l, i, k, h, hb => ⟨h.1, tells_lit h.2 hb⟩
  | .inr (n, d) :: l, i, k, h, hb => ⟨h.1, h.2.1, h.2.2.1, h.2.2.2.1, h.2.2.2.2.1, h.2.2.2.2.2.1, h.2.2.2.2.2.2.1, tells_lit h.2.2.2.2.2.2.2 hb⟩
theorem tells_cp {T : List Nat} {n d : Nat} : ∀ {l : List Tok} {i k : Nat}, Tells T i l k → 3 ≤ n → n ≤ 258 → 1 ≤ d → d ≤ 200 → d ≤ k → Back T k d n → Tells T i (l ++ [.cp n d]) (k + n)
  | [], i, k, h, h1, h2, h3, h4, h5, h6 => by
    have : i = k := h
    subst this
    exact ⟨h1, h2, h3, h4, h5, h6.1, h6.2, rfl⟩
  | .inl c :: l, i, k, h, h1, h2, h3, h4, h5, h6 => ⟨h.1, tells_cp h.2 h1 h2 h3 h4 h5 h6⟩
  | .inr (m, e) :: l, i, k, h, h1, h2, h3, h4, h5, h6 => ⟨h.1, h.2.1, h.2.2.1, h.2.2.2.1, h.2.2.2.2.1, h.2.2.2.2.2.1, h.2.2.2.2.2.2.1, tells_cp h.2.2.2.2.2.2.2 h1 h2 h3 h4 h5 h6⟩
theorem tells_len {T : List Nat} : ∀ {l : List Tok} {i k : Nat}, Tells T i l k → i + l.length ≤ k
  | [], i, k, h => by have : i = k := h; simp; omega
  | .inl c :: l, i, k, h => by have := tells_len h.2; simp; omega
  | .inr (n, d) :: l, i, k, h => by have := tells_len h.2.2.2.2.2.2.2; have := h.1; simp; omega
def Best (l : List Nat) (k e best at_ : Nat) : Prop := best = 0 ∨ (1 ≤ at_ ∧ at_ ≤ 200 ∧ at_ ≤ k ∧ Back l k at_ best ∧ best ≤ 258 ∧ k + best ≤ e)
set_option maxRecDepth 100000 in
set_option maxHeartbeats 4000000 in
theorem tokens_c (w : World) (a : Option Addr) (l : List Nat) (L c i e : Nat) (cp : Bool) (hl : Lies w a l) (hL : l.length = L) (hLb : L ≤ 10000) (hi : i ≤ e) (he : e ≤ L) :
    Calls Tryz.prog 76 #[.slice a L c, .int .i64 (i : Int), .int .i64 (e : Int), .bool cp] w fun e1 w' => ∃ ta ts tc, e1 = .returned (.slice ta ts.length tc) ∧ Toks w' ta ts ∧ Tells l i ts e ∧ Below w.heap.size w w' := by
  obtain ⟨B, hB⟩ : ∃ B, w.heap.size = B := ⟨_, rfl⟩
  rw [hB]
  have A : Aside (Lies w a l ∧ l.length = L ∧ L ≤ 10000 ∧ i ≤ e ∧ e ≤ L ∧ w.heap.size = B) := ⟨hl, hL, hLb, hi, he, hB⟩
  have hLi : (L : Int) ≤ 10000 := by omega
  have hei : (e : Int) ≤ (L : Int) := by omega
  obtain ⟨i0, hi0, hz0, hz1, hz2⟩ := ginfo_parts info110
  have AI : Aside (Tryz.prog.info? 164 = some i0 ∧ i0.zero = some (.agg #[.int .u8 0, .int .i64 0, .int .i64 0]) ∧ i0.size = 3 ∧ i0.bytes = 24) := ⟨hi0, hz0, hz1, hz2⟩
  clear hl hL hLb hi he hB hi0 hz0 hz1 hz2
  go_enter Tryz.func76, Tryz.ntmps76
  go_wp2_with fail
  go_loopg [1, 9] (e - i) (fun gg s1 s9 wr => ∃ k : Nat, s1 = .int .i64 (k : Int) ∧ Aside (k + gg = e ∧ ∃ ts, Tells l i ts k ∧ O3 wr B 164 s9 (ts.map tokV) ∧ Below B w wr))
  case atStart => exact ⟨i, rfl, by have := A.out; omega, [], rfl, O3.nil (by have := A.out; omega), Below.refl _ _⟩
  case round =>
    obtain ⟨k, rfl, hI⟩ := hrel
    obtain ⟨w5, hw5⟩ : ∃ w5, w5 = wr := ⟨_, rfl⟩
    subst hw5
    obtain ⟨G, hG⟩ : ∃ G, G = gk := ⟨_, rfl⟩
    subst hG
    obtain ⟨hkg, ts, htel, ho3, hbel⟩ := hI.out
    have a0 := A.out
    obtain ⟨va, vc, hv, hvc, _, _⟩ := ho3.shape
    obtain ⟨ln, hln⟩ : ∃ ln, (ts.map tokV).length = ln := ⟨_, rfl⟩
    rw [hln] at hv
    subst hv
    by_cases hk : k < e
    · have t1 : ((k : Int) < (e : Int)) = True := eq_true (by omega)
      have t1' : (k < e) = True := eq_true hk
      have hkI : (k : Int) < 10000 := by omega
      have heI : (e : Int) ≤ 10000 := by omega
      obtain ⟨x, hx⟩ : ∃ x, l[k]? = some x := ⟨_, List.getElem?_eq_getElem (by omega)⟩
      have hl5 : Lies w5 a l := a0.1.below (by rw [a0.2.2.2.2.2]; exact hbel)
      have htl := tells_len htel
      have AX : Aside (k + G = e ∧ k < e ∧ Tells l i ts k ∧ O3 w5 B 164 (.slice va ln vc) (ts.map tokV) ∧ Below B w w5 ∧ l[k]? = some x ∧ Lies w5 a l ∧ ((ts.map tokV).length + 1) * 24 ≤ 1000000000) := ⟨hkg, hk, htel, ho3, hbel, hx, hl5, by rw [List.length_map]; omega⟩
      obtain ⟨mq, hmq⟩ : ∃ mq, min 258 (e - k) = mq := ⟨_, rfl⟩
      have hmqi : (if (e : Int) - (k : Int) < 258 then (e : Int) - (k : Int) else 258) = (mq : Int) := by split <;> omega
      have AM : Aside (min 258 (e - k) = mq) := hmq
      clear hI hkg htel ho3 hbel a0 hvc hln hk hx hl5 htl hmq
      go_wp2_with fail
      go_loopg [10, 11, 12] 201 (fun gg s10 s11 s12 wq => ∃ best at_ d : Nat, s10 = .int .i64 (best : Int) ∧ s11 = .int .i64 (at_ : Int) ∧ s12 = .int .i64 (d : Int) ∧ Aside (d + gg = 202 ∧ 1 ≤ d ∧ Best l k e best at_ ∧ Drawn w5 wq))
      case atStart => exact ⟨0, 0, 1, rfl, rfl, rfl, by omega, by omega, Or.inl rfl, ⟨0, rfl⟩⟩
      case round =>
        obtain ⟨best, at_, d, rfl, rfl, rfl, hJ⟩ := hrel
        obtain ⟨hdg, hd1, hbest, hdr⟩ := hJ.out
        have ax := AX.out
        by_cases hgo : cp = true ∧ d ≤ k ∧ d ≤ 200
        · obtain ⟨hcp, hdk, hd2⟩ := hgo
          subst hcp
          have t2 : ((d : Int) ≤ (k : Int)) = True := eq_true (by omega)
          have t2' : (d ≤ k) = True := eq_true hdk
          have t3 : ((d : Int) ≤ 200) = True := eq_true (by omega)
          have t3' : (d ≤ 200) = True := eq_true hd2
          have hdI : (d : Int) ≤ 200 := by omega
          have hlq : Lies wr a l := by obtain ⟨n, rfl⟩ := hdr; exact ax.2.2.2.2.2.2.1
          have a0 := A.out
          have hm := AM.out
          have hrun := run_c a l L c k d mq wr hlq a0.2.1 a0.2.2.1 (by omega) hd1 hdk (by omega)
          have AJ : Aside (d + gk = 202 ∧ 1 ≤ d ∧ d ≤ 200 ∧ d ≤ k ∧ Best l k e best at_ ∧ Drawn w5 wr ∧ best < 1000) := ⟨hdg, hd1, hd2, hdk, hbest, hdr, by rcases hbest with h | h <;> omega⟩
          clear hJ hdg hd1 hbest hdr ax hdk hd2 hlq a0 hm
          go_upto_region 8 with (go_at_call 105; refine hrun.mono ?_; rintro e2 w6 ⟨n, rfl, hn1, hn2, hn3⟩)
          have aj := AJ.out
          have hm := AM.out
          have hdr6 : Drawn w5 w6 := by
            obtain ⟨p, hp⟩ := aj.2.2.2.2.2.1
            obtain ⟨q, hq⟩ := hn3
            rw [hq, hp]
            exact ⟨_, World.drewN_drewN _ _ _⟩
          by_cases hnb : best < n
          · have t4 : ((best : Int) < (n : Int)) = True := eq_true (by omega)
            have t4' : (best < n) = True := eq_true hnb
            have ax := AX.out
            have AK : Aside (d + gk = 202 ∧ 1 ≤ d ∧ d ≤ 200 ∧ Best l k e n d ∧ Drawn w5 w6) := ⟨aj.1, aj.2.1, aj.2.2.1, Or.inr ⟨aj.2.1, aj.2.2.1, aj.2.2.2.1, hn2, by omega, by omega⟩, hdr6⟩
            clear aj hm hdr6 hnb ax hrun hn1 hn2 hn3 t2 t2' t3 t3'
            go_wp2_with fail
            have ak := AK.out
            go_roundg (gk - 1)
            case measure => omega
            case rel => exact ⟨n, d, d + 1, rfl, rfl, by go_num, by omega, by omega, ak.2.2.2.1, ak.2.2.2.2⟩
          · have t4 : ((best : Int) < (n : Int)) = False := eq_false (by omega)
            have t4' : (best < n) = False := eq_false hnb
            have AK : Aside (d + gk = 202 ∧ 1 ≤ d ∧ d ≤ 200 ∧ Best l k e best at_ ∧ Drawn w5 w6) := ⟨aj.1, aj.2.1, aj.2.2.1, aj.2.2.2.2.1, hdr6⟩
            clear aj hm hdr6 hnb hrun hn1 hn2 hn3 t2 t2' t3 t3'
            go_wp2_with fail
            have ak := AK.out
            go_roundg (gk - 1)
            case measure => omega
            case rel => exact ⟨best, at_, d + 1, rfl, rfl, by go_num, by omega, by omega, ak.2.2.2.1, ak.2.2.2.2⟩
        · have hways : cp = false ∨ (cp = true ∧ k < d) ∨ (cp = true ∧ d ≤ k ∧ 200 < d) := by
            cases cp
            · exact Or.inl rfl
            · right
              by_cases h : d ≤ k
              · exact Or.inr ⟨rfl, h, by have : ¬ d ≤ 200 := fun h2 => hgo ⟨rfl, h, h2⟩
                                         omega⟩
              · exact Or.inl ⟨rfl, by omega⟩
          clear hgo ax
          have hdI : (d : Int) ≤ 202 := by omega
          rcases hways with rfl | ⟨rfl, h⟩ | ⟨rfl, h1, h2⟩
          · have ax := AX.out
            obtain ⟨H, hH⟩ : ∃ H, wr.heap.size = H := ⟨_, rfl⟩
            by_cases hb3 : best < 3
            · have t5 : ((best : Int) < 3) = True := eq_true (by omega)
              have t5' : (best < 3) = True := eq_true hb3
              obtain ⟨ab, ao, ha, cx⟩ : ∃ ab ao, a = some ⟨ab, ao, none⟩ ∧ wr.cell? ⟨ab, ao + k, none⟩ = some (.int .u8 (x : Int)) := by
                obtain ⟨nn, rfl⟩ := hdr
                rcases ax.2.2.2.2.2.2.1 with e | ⟨ab, ao, e, h⟩
                · rw [e] at ax; simp at ax
                · exact ⟨ab, ao, e, h k x ax.2.2.2.2.2.1⟩
              subst ha
              have hkL : ((k : Int) < (L : Int)) = True := eq_true (by have := A.out; omega)
              have hkL' : (k < L) = True := eq_true (by have := A.out; omega)
              have AB : Aside (True) := trivial
              have bal : Below wr.heap.size wr (wr.alloc (.cells #[.int .u8 (x : Int), .int .i64 0, .int .i64 0] 164)) := (Below.refl _ wr).alloc (Nat.le_refl _) _
              have ho3A : O3 (wr.alloc (.cells #[.int .u8 (x : Int), .int .i64 0, .int .i64 0] 164)) B 164 (.slice va ln vc) (ts.map tokV) := O3.below (O3.drawn ax.2.2.2.1 hdr) bal (Nat.le_refl _)
              have hcN := Cells.new wr #[.int .u8 (x : Int), .int .i64 0, .int .i64 0] 164
              rw [hH] at hcN
              have q0 := hcN.cell 0
              have q1 := hcN.cell 1
              have q2 := hcN.cell 2
              simp only [List.getElem?_toArray, List.getElem?_cons_zero, List.getElem?_cons_succ] at q0 q1 q2
              have hbw : Below B w (wr.alloc (.cells #[.int .u8 (x : Int), .int .i64 0, .int .i64 0] 164)) := (ax.2.2.2.2.1.trans (by obtain ⟨nn, rfl⟩ := hdr; exact ((Only.refl B w5).drewN nn).below (Nat.le_refl _))).trans (bal.mono (by obtain ⟨nn, rfl⟩ := hdr; exact ax.2.2.2.1.le))
              have A2 : Aside (Below B w (wr.alloc (.cells #[.int .u8 (x : Int), .int .i64 0, .int .i64 0] 164))) := hbw
              clear hJ hdg hd1 hbest hdr ax bal hcN hbw hb3
              go_wp2_with (at_builtin; refine wpList_o3 _ rfl (.tmp 44) (.tmp 50) 144 rfl 164 i0 (.agg #[.int .u8 0, .int .i64 0, .int .i64 0]) 24 Tryz.underlying144 AI.out.1 AI.out.2.1 AI.out.2.2.1 AI.out.2.2.2 rfl B (.slice va ln vc) (ts.map tokV) (by rfl) ho3A H 1 (tokV (.lit x)) (by rfl) q0 q1 q2 (tokV_one _) AX.out.2.2.2.2.2.2.2 (by decide) ?_; intro v7 w7 hg7)
              have ax := AX.out
              have ab := AB.out
              go_roundg (G - (1))
              case measure => omega
              case rel => exact ⟨k + 1, by go_num, by omega, ts ++ [.lit x], tells_lit ax.2.2.1 ax.2.2.2.2.2.1, by rw [List.map_append]; exact hg7.ow, A2.out.trans hg7.bel⟩
            · have t5 : ((best : Int) < 3) = False := eq_false (by omega)
              have t5' : (best < 3) = False := eq_false hb3
              obtain ⟨b1, b2, b3, b4, b5, b6⟩ : 1 ≤ at_ ∧ at_ ≤ 200 ∧ at_ ≤ k ∧ Back l k at_ best ∧ best ≤ 258 ∧ k + best ≤ e := hbest.resolve_left (by omega)
              have hbI : (best : Int) ≤ 258 := by omega
              have AB : Aside (3 ≤ best ∧ k + best ≤ e ∧ 1 ≤ at_ ∧ at_ ≤ 200 ∧ at_ ≤ k ∧ Back l k at_ best ∧ best ≤ 258) := ⟨by omega, b6, b1, b2, b3, b4, b5⟩
              clear b1 b2 b3 b4 b5 b6
              have bal : Below wr.heap.size wr (wr.alloc (.cells #[.int .u8 0, .int .i64 (best : Int), .int .i64 (at_ : Int)] 164)) := (Below.refl _ wr).alloc (Nat.le_refl _) _
              have ho3A : O3 (wr.alloc (.cells #[.int .u8 0, .int .i64 (best : Int), .int .i64 (at_ : Int)] 164)) B 164 (.slice va ln vc) (ts.map tokV) := O3.below (O3.drawn ax.2.2.2.1 hdr) bal (Nat.le_refl _)
              have hcN := Cells.new wr #[.int .u8 0, .int .i64 (best : Int), .int .i64 (at_ : Int)] 164
              rw [hH] at hcN
              have q0 := hcN.cell 0
              have q1 := hcN.cell 1
              have q2 := hcN.cell 2
              simp only [List.getElem?_toArray, List.getElem?_cons_zero, List.getElem?_cons_succ] at q0 q1 q2
              have hbw : Below B w (wr.alloc (.cells #[.int .u8 0, .int .i64 (best : Int), .int .i64 (at_ : Int)] 164)) := (ax.2.2.2.2.1.trans (by obtain ⟨nn, rfl⟩ := hdr; exact ((Only.refl B w5).drewN nn).below (Nat.le_refl _))).trans (bal.mono (by obtain ⟨nn, rfl⟩ := hdr; exact ax.2.2.2.1.le))
              have A2 : Aside (Below B w (wr.alloc (.cells #[.int .u8 0, .int .i64 (best : Int), .int .i64 (at_ : Int)] 164))) := hbw
              clear hJ hdg hd1 hbest hdr ax bal hcN hbw hb3
              go_wp2_with (at_builtin; refine wpList_o3 _ rfl (.tmp 54) (.tmp 58) 144 rfl 164 i0 (.agg #[.int .u8 0, .int .i64 0, .int .i64 0]) 24 Tryz.underlying144 AI.out.1 AI.out.2.1 AI.out.2.2.1 AI.out.2.2.2 rfl B (.slice va ln vc) (ts.map tokV) (by rfl) ho3A H 1 (tokV (.cp best at_)) (by rfl) q0 q1 q2 (tokV_one _) AX.out.2.2.2.2.2.2.2 (by decide) ?_; intro v7 w7 hg7)
              have ax := AX.out
              have ab := AB.out
              go_roundg (G - (best))
              case measure => omega
              case rel => exact ⟨k + best, by go_num, by omega, ts ++ [.cp best at_], tells_cp ax.2.2.1 ab.1 ab.2.2.2.2.2.2 ab.2.2.1 ab.2.2.2.1 ab.2.2.2.2.1 ab.2.2.2.2.2.1, by rw [List.map_append]; exact hg7.ow, A2.out.trans hg7.bel⟩
          · have t2 : ((d : Int) ≤ (k : Int)) = False := eq_false (by omega)
            have t2' : (d ≤ k) = False := eq_false (by omega)
            clear h
            have ax := AX.out
            obtain ⟨H, hH⟩ : ∃ H, wr.heap.size = H := ⟨_, rfl⟩
            by_cases hb3 : best < 3
            · have t5 : ((best : Int) < 3) = True := eq_true (by omega)
              have t5' : (best < 3) = True := eq_true hb3
              obtain ⟨ab, ao, ha, cx⟩ : ∃ ab ao, a = some ⟨ab, ao, none⟩ ∧ wr.cell? ⟨ab, ao + k, none⟩ = some (.int .u8 (x : Int)) := by
                obtain ⟨nn, rfl⟩ := hdr
                rcases ax.2.2.2.2.2.2.1 with e | ⟨ab, ao, e, h⟩
                · rw [e] at ax; simp at ax
                · exact ⟨ab, ao, e, h k x ax.2.2.2.2.2.1⟩
              subst ha
              have hkL : ((k : Int) < (L : Int)) = True := eq_true (by have := A.out; omega)
              have hkL' : (k < L) = True := eq_true (by have := A.out; omega)
              have AB : Aside (True) := trivial
              have bal : Below wr.heap.size wr (wr.alloc (.cells #[.int .u8 (x : Int), .int .i64 0, .int .i64 0] 164)) := (Below.refl _ wr).alloc (Nat.le_refl _) _
              have ho3A : O3 (wr.alloc (.cells #[.int .u8 (x : Int), .int .i64 0, .int .i64 0] 164)) B 164 (.slice va ln vc) (ts.map tokV) := O3.below (O3.drawn ax.2.2.2.1 hdr) bal (Nat.le_refl _)
              have hcN := Cells.new wr #[.int .u8 (x : Int), .int .i64 0, .int .i64 0] 164
              rw [hH] at hcN
              have q0 := hcN.cell 0
              have q1 := hcN.cell 1
              have q2 := hcN.cell 2
              simp only [List.getElem?_toArray, List.getElem?_cons_zero, List.getElem?_cons_succ] at q0 q1 q2
              have hbw : Below B w (wr.alloc (.cells #[.int .u8 (x : Int), .int .i64 0, .int .i64 0] 164)) := (ax.2.2.2.2.1.trans (by obtain ⟨nn, rfl⟩ := hdr; exact ((Only.refl B w5).drewN nn).below (Nat.le_refl _))).trans (bal.mono (by obtain ⟨nn, rfl⟩ := hdr; exact ax.2.2.2.1.le))
              have A2 : Aside (Below B w (wr.alloc (.cells #[.int .u8 (x : Int), .int .i64 0, .int .i64 0] 164))) := hbw
              clear hJ hdg hd1 hbest hdr ax bal hcN hbw hb3
              go_wp2_with (at_builtin; refine wpList_o3 _ rfl (.tmp 44) (.tmp 50) 144 rfl 164 i0 (.agg #[.int .u8 0, .int .i64 0, .int .i64 0]) 24 Tryz.underlying144 AI.out.1 AI.out.2.1 AI.out.2.2.1 AI.out.2.2.2 rfl B (.slice va ln vc) (ts.map tokV) (by rfl) ho3A H 1 (tokV (.lit x)) (by rfl) q0 q1 q2 (tokV_one _) AX.out.2.2.2.2.2.2.2 (by decide) ?_; intro v7 w7 hg7)
              have ax := AX.out
              have ab := AB.out
              go_roundg (G - (1))
              case measure => omega
              case rel => exact ⟨k + 1, by go_num, by omega, ts ++ [.lit x], tells_lit ax.2.2.1 ax.2.2.2.2.2.1, by rw [List.map_append]; exact hg7.ow, A2.out.trans hg7.bel⟩
            · have t5 : ((best : Int) < 3) = False := eq_false (by omega)
              have t5' : (best < 3) = False := eq_false hb3
              obtain ⟨b1, b2, b3, b4, b5, b6⟩ : 1 ≤ at_ ∧ at_ ≤ 200 ∧ at_ ≤ k ∧ Back l k at_ best ∧ best ≤ 258 ∧ k + best ≤ e := hbest.resolve_left (by omega)
              have hbI : (best : Int) ≤ 258 := by omega
              have AB : Aside (3 ≤ best ∧ k + best ≤ e ∧ 1 ≤ at_ ∧ at_ ≤ 200 ∧ at_ ≤ k ∧ Back l k at_ best ∧ best ≤ 258) := ⟨by omega, b6, b1, b2, b3, b4, b5⟩
              clear b1 b2 b3 b4 b5 b6
              have bal : Below wr.heap.size wr (wr.alloc (.cells #[.int .u8 0, .int .i64 (best : Int), .int .i64 (at_ : Int)] 164)) := (Below.refl _ wr).alloc (Nat.le_refl _) _
              have ho3A : O3 (wr.alloc (.cells #[.int .u8 0, .int .i64 (best : Int), .int .i64 (at_ : Int)] 164)) B 164 (.slice va ln vc) (ts.map tokV) := O3.below (O3.drawn ax.2.2.2.1 hdr) bal (Nat.le_refl _)
              have hcN := Cells.new wr #[.int .u8 0, .int .i64 (best : Int), .int .i64 (at_ : Int)] 164
              rw [hH] at hcN
              have q0 := hcN.cell 0
              have q1 := hcN.cell 1
              have q2 := hcN.cell 2
              simp only [List.getElem?_toArray, List.getElem?_cons_zero, List.getElem?_cons_succ] at q0 q1 q2
              have hbw : Below B w (wr.alloc (.cells #[.int .u8 0, .int .i64 (best : Int), .int .i64 (at_ : Int)] 164)) := (ax.2.2.2.2.1.trans (by obtain ⟨nn, rfl⟩ := hdr; exact ((Only.refl B w5).drewN nn).below (Nat.le_refl _))).trans (bal.mono (by obtain ⟨nn, rfl⟩ := hdr; exact ax.2.2.2.1.le))
              have A2 : Aside (Below B w (wr.alloc (.cells #[.int .u8 0, .int .i64 (best : Int), .int .i64 (at_ : Int)] 164))) := hbw
              clear hJ hdg hd1 hbest hdr ax bal hcN hbw hb3
              go_wp2_with (at_builtin; refine wpList_o3 _ rfl (.tmp 54) (.tmp 58) 144 rfl 164 i0 (.agg #[.int .u8 0, .int .i64 0, .int .i64 0]) 24 Tryz.underlying144 AI.out.1 AI.out.2.1 AI.out.2.2.1 AI.out.2.2.2 rfl B (.slice va ln vc) (ts.map tokV) (by rfl) ho3A H 1 (tokV (.cp best at_)) (by rfl) q0 q1 q2 (tokV_one _) AX.out.2.2.2.2.2.2.2 (by decide) ?_; intro v7 w7 hg7)
              have ax := AX.out
              have ab := AB.out
              go_roundg (G - (best))
              case measure => omega
              case rel => exact ⟨k + best, by go_num, by omega, ts ++ [.cp best at_], tells_cp ax.2.2.1 ab.1 ab.2.2.2.2.2.2 ab.2.2.1 ab.2.2.2.1 ab.2.2.2.2.1 ab.2.2.2.2.2.1, by rw [List.map_append]; exact hg7.ow, A2.out.trans hg7.bel⟩
          · have t2 : ((d : Int) ≤ (k : Int)) = True := eq_true (by omega)
            have t2' : (d ≤ k) = True := eq_true h1
            have t3 : ((d : Int) ≤ 200) = False := eq_false (by omega)
            have t3' : (d ≤ 200) = False := eq_false (by omega)
            clear h1 h2
            have ax := AX.out
            obtain ⟨H, hH⟩ : ∃ H, wr.heap.size = H := ⟨_, rfl⟩
            by_cases hb3 : best < 3
            · have t5 : ((best : Int) < 3) = True := eq_true (by omega)
              have t5' : (best < 3) = True := eq_true hb3
              obtain ⟨ab, ao, ha, cx⟩ : ∃ ab ao, a = some ⟨ab, ao, none⟩ ∧ wr.cell? ⟨ab, ao + k, none⟩ = some (.int .u8 (x : Int)) := by
                obtain ⟨nn, rfl⟩ := hdr
                rcases ax.2.2.2.2.2.2.1 with e | ⟨ab, ao, e, h⟩
                · rw [e] at ax; simp at ax
                · exact ⟨ab, ao, e, h k x ax.2.2.2.2.2.1⟩
              subst ha
              have hkL : ((k : Int) < (L : Int)) = True := eq_true (by have := A.out; omega)
              have hkL' : (k < L) = True := eq_true (by have := A.out; omega)
              have AB : Aside (True) := trivial
              have bal : Below wr.heap.size wr (wr.alloc (.cells #[.int .u8 (x : Int), .int .i64 0, .int .i64 0] 164)) := (Below.refl _ wr).alloc (Nat.le_refl _) _
              have ho3A : O3 (wr.alloc (.cells #[.int .u8 (x : Int), .int .i64 0, .int .i64 0] 164)) B 164 (.slice va ln vc) (ts.map tokV) := O3.below (O3.drawn ax.2.2.2.1 hdr) bal (Nat.le_refl _)
              have hcN := Cells.new wr #[.int .u8 (x : Int), .int .i64 0, .int .i64 0] 164
              rw [hH] at hcN
              have q0 := hcN.cell 0
              have q1 := hcN.cell 1
              have q2 := hcN.cell 2
              simp only [List.getElem?_toArray, List.getElem?_cons_zero, List.getElem?_cons_succ] at q0 q1 q2
              have hbw : Below B w (wr.alloc (.cells #[.int .u8 (x : Int), .int .i64 0, .int .i64 0] 164)) := (ax.2.2.2.2.1.trans (by obtain ⟨nn, rfl⟩ := hdr; exact ((Only.refl B w5).drewN nn).below (Nat.le_refl _))).trans (bal.mono (by obtain ⟨nn, rfl⟩ := hdr; exact ax.2.2.2.1.le))
              have A2 : Aside (Below B w (wr.alloc (.cells #[.int .u8 (x : Int), .int .i64 0, .int .i64 0] 164))) := hbw
              clear hJ hdg hd1 hbest hdr ax bal hcN hbw hb3
              go_wp2_with (at_builtin; refine wpList_o3 _ rfl (.tmp 44) (.tmp 50) 144 rfl 164 i0 (.agg #[.int .u8 0, .int .i64 0, .int .i64 0]) 24 Tryz.underlying144 AI.out.1 AI.out.2.1 AI.out.2.2.1 AI.out.2.2.2 rfl B (.slice va ln vc) (ts.map tokV) (by rfl) ho3A H 1 (tokV (.lit x)) (by rfl) q0 q1 q2 (tokV_one _) AX.out.2.2.2.2.2.2.2 (by decide) ?_; intro v7 w7 hg7)
              have ax := AX.out
              have ab := AB.out
              go_roundg (G - (1))
              case measure => omega
              case rel => exact ⟨k + 1, by go_num, by omega, ts ++ [.lit x], tells_lit ax.2.2.1 ax.2.2.2.2.2.1, by rw [List.map_append]; exact hg7.ow, A2.out.trans hg7.bel⟩
            · have t5 : ((best : Int) < 3) = False := eq_false (by omega)
              have t5' : (best < 3) = False := eq_false hb3
              obtain ⟨b1, b2, b3, b4, b5, b6⟩ : 1 ≤ at_ ∧ at_ ≤ 200 ∧ at_ ≤ k ∧ Back l k at_ best ∧ best ≤ 258 ∧ k + best ≤ e := hbest.resolve_left (by omega)
              have hbI : (best : Int) ≤ 258 := by omega
              have AB : Aside (3 ≤ best ∧ k + best ≤ e ∧ 1 ≤ at_ ∧ at_ ≤ 200 ∧ at_ ≤ k ∧ Back l k at_ best ∧ best ≤ 258) := ⟨by omega, b6, b1, b2, b3, b4, b5⟩
              clear b1 b2 b3 b4 b5 b6
              have bal : Below wr.heap.size wr (wr.alloc (.cells #[.int .u8 0, .int .i64 (best : Int), .int .i64 (at_ : Int)] 164)) := (Below.refl _ wr).alloc (Nat.le_refl _) _
              have ho3A : O3 (wr.alloc (.cells #[.int .u8 0, .int .i64 (best : Int), .int .i64 (at_ : Int)] 164)) B 164 (.slice va ln vc) (ts.map tokV) := O3.below (O3.drawn ax.2.2.2.1 hdr) bal (Nat.le_refl _)
              have hcN := Cells.new wr #[.int .u8 0, .int .i64 (best : Int), .int .i64 (at_ : Int)] 164
              rw [hH] at hcN
              have q0 := hcN.cell 0
              have q1 := hcN.cell 1
              have q2 := hcN.cell 2
              simp only [List.getElem?_toArray, List.getElem?_cons_zero, List.getElem?_cons_succ] at q0 q1 q2
              have hbw : Below B w (wr.alloc (.cells #[.int .u8 0, .int .i64 (best : Int), .int .i64 (at_ : Int)] 164)) := (ax.2.2.2.2.1.trans (by obtain ⟨nn, rfl⟩ := hdr; exact ((Only.refl B w5).drewN nn).below (Nat.le_refl _))).trans (bal.mono (by obtain ⟨nn, rfl⟩ := hdr; exact ax.2.2.2.1.le))
              have A2 : Aside (Below B w (wr.alloc (.cells #[.int .u8 0, .int .i64 (best : Int), .int .i64 (at_ : Int)] 164))) := hbw
              clear hJ hdg hd1 hbest hdr ax bal hcN hbw hb3
              go_wp2_with (at_builtin; refine wpList_o3 _ rfl (.tmp 54) (.tmp 58) 144 rfl 164 i0 (.agg #[.int .u8 0, .int .i64 0, .int .i64 0]) 24 Tryz.underlying144 AI.out.1 AI.out.2.1 AI.out.2.2.1 AI.out.2.2.2 rfl B (.slice va ln vc) (ts.map tokV) (by rfl) ho3A H 1 (tokV (.cp best at_)) (by rfl) q0 q1 q2 (tokV_one _) AX.out.2.2.2.2.2.2.2 (by decide) ?_; intro v7 w7 hg7)
              have ax := AX.out
              have ab := AB.out
              go_roundg (G - (best))
              case measure => omega
              case rel => exact ⟨k + best, by go_num, by omega, ts ++ [.cp best at_], tells_cp ax.2.2.1 ab.1 ab.2.2.2.2.2.2 ab.2.2.1 ab.2.2.2.1 ab.2.2.2.2.1 ab.2.2.2.2.2.1, by rw [List.map_append]; exact hg7.ow, A2.out.trans hg7.bel⟩
    · have t1 : ((k : Int) < (e : Int)) = False := eq_false (by omega)
      have t1' : (k < e) = False := eq_false hk
      have hke : k = e := by omega
      subst hke
      obtain ⟨ta, tc, htv, _, htk⟩ := ho3.toks
      injection htv with i1 i2 i3
      subst i1
      subst i3
      have AX : Aside (Toks w5 va ts ∧ Tells l i ts k ∧ Below B w w5 ∧ ln = ts.length) := ⟨htk, htel, hbel, i2⟩
      clear hI hkg htel ho3 hbel a0 hvc hln hk htk i2
      go_wp2_with fail
      go_ret
      have ax := AX.out
      exact ⟨va, ts, vc, by rw [← ax.2.2.2]; rfl, ax.1, ax.2.1, ax.2.2.1⟩
end Go.Proofs.YtpihipbeagpgpaaGreatDoor

/-
 What the document's Deflate comes to, where no plan is given.
-/
namespace Go.Proofs.YtpihipbeagpgpaaGreatDoor
open Go.RowKit
set_option linter.unusedVariables false
def Tok0 : Tok → Prop
 | .inl y => y < 256
 | .inr (n, d) => 3 ≤ n ∧ n ≤ 258 ∧ 1 ≤ d ∧ d ≤ 200
theorem new_ok (w : World) (la : Option Addr) (l : List Nat) (ll lc : Nat) (hl : Lens w la (iz l)) (hll : l.length = ll) (hm : mays l = true) :
  Calls Tryz.prog 73 #[.slice la ll lc] w fun e w' => ∃ T, e = .returned (.tuple #[.pointer (some ⟨T, 0, none⟩), .int .i64 0]) ∧ Tb w' T l ∧ Below w.heap.size w w' := by
 have h1 := nerr_ok (mays_iff.1 hm)
 rw [lens_iz] at h1
 have hc := rnew_rest la (iz l) ll lc w hl (by simp [iz, hll]) h1.1 (by rw [lens_iz]; exact h1.2.1)
 rw [lens_iz] at hc
 refine hc.mono ?_
 rintro e w' (⟨hu, _⟩ | ⟨_, T, he, ht, hb, _⟩)
 ·exact absurd hu h1.2.2
 ·exact ⟨T, he, ht, hb⟩
theorem Vz.below {w u : World} {lo W : Nat} {v : Value} {z : List Nat} {bs : List Bool} {p : Nat} (h : Vz w lo W v z bs p) (k : Below w.heap.size w u) : Vz u lo W v z bs p := ⟨h.fr.below k h.fr.lt, h.ob.below k (Nat.le_refl _), h.all, h.oct, h.pad⟩
structure Pb where
 kd : Nat
 by_ : Nat
 cp : Bool
 rn : Bool
def Plan (w : World) (b : Option Addr) (ps : List Pb) : Prop := ps = [] ∨ ∃ g o, b = some ⟨g, o, none⟩ ∧ ∀ i p, ps[i]? = some p → w.cell? ⟨g, o + i * 4, none⟩ = some (.int .u8 (p.kd : Int)) ∧ w.cell? ⟨g, o + i * 4 + 1, none⟩ = some (.int .u16 (p.by_ : Int)) ∧ w.cell? ⟨g, o + i * 4 + 2, none⟩ = some (.bool p.cp) ∧ w.cell? ⟨g, o + i * 4 + 3, none⟩ = some (.bool p.rn)
theorem Tells.tok0 {T : List Nat} (ho : Oct T) : ∀ {l : List Tok} {i e : Nat}, Tells T i l e → ∀ t ∈ l, Tok0 t
 | [], _, _, _, t, ht => by cases ht
 | .inl y :: r, i, e, h, t, ht => by
  rcases List.mem_cons.1 ht with rfl | ht
  ·exact ho y (List.mem_of_getElem? h.1)
  ·exact Tells.tok0 ho h.2 t ht
 | .inr (n, d) :: r, i, e, h, t, ht => by
  rcases List.mem_cons.1 ht with rfl | ht
  ·exact ⟨h.1, h.2.1, h.2.2.1, h.2.2.2.1⟩
  ·exact Tells.tok0 ho h.2.2.2.2.2.2.2 t ht
theorem Vz.new (w : World) : Vz (w.alloc (.cells #[.slice none 0 0, .int .i64 0] 134)) w.heap.size w.heap.size (.slice none 0 0) [] [] 0 :=
 ⟨Cells.new w _ 134, Ob.nil (by show _ ≤ (w.heap.push _).size; simp), rfl, (fun x hx => by cases hx), by omega⟩
structure Vt (w1 wr : World) (lo W most : Nat) (l : List Nat) (i at_ : Nat) (bs : List Bool) : Prop where
 wz : ∃ v z p, Vz wr lo W v z bs p ∧ p < 8
 wk : Vk lo W w1 wr
 ld : Leads most (.head false) (.head false) bs 0 [] (l.take at_)
 bl : bs.length ≤ i * 1000000
set_option maxRecDepth 100000 in
set_option maxHeartbeats 8000000 in
theorem deflate0_c (most : Nat) (w : World) (a : Option Addr) (l : List Nat) (L c : Nat) (hl : Lies w a l) (hL : l.length = L) (hLb : L ≤ 5000) (ho : Oct l) (b : Option Addr) (ps : List Pb) (P pc : Nat) (hps : Plan w b ps) (hP : ps.length = P) (hP0 : P = 0) (hPb : P ≤ 200) (hpb : ∀ p ∈ ps, p.kd < 256 ∧ p.by_ < 65536) (h4 : 4 ≤ w.heap.size) (hm : L ≤ most) :
  Calls Tryz.prog 51 #[.slice a L c, .slice b P pc] w fun e w' => ∃ v z, e = .returned v ∧ Ob w' w.heap.size v z ∧ Holds most z l ∧ Oct z ∧ z.length ≤ 100000000 ∧ Below w.heap.size w w' := by
 obtain ⟨B, hB⟩ : ∃ B, w.heap.size = B := ⟨_, rfl⟩
 have hz0 := Vz.new w
 have b0 : Below w.heap.size w (w.alloc (.cells #[.slice none 0 0, .int .i64 0] 134)) := (Below.refl _ w).alloc (Nat.le_refl _) _
 rw [hB] at hz0 b0
 obtain ⟨w0, hw0⟩ : ∃ w0, w0 = w.alloc (.cells #[.slice none 0 0, .int .i64 0] 134) := ⟨_, rfl⟩
 rw [← hw0] at hz0 b0
 have hfx := fixed_c w0
 have A : Aside (Lies w a l ∧ l.length = L ∧ L ≤ 5000 ∧ Oct l ∧ Plan w b ps ∧ ps.length = P ∧ P ≤ 200 ∧ (∀ p ∈ ps, p.kd < 256 ∧ p.by_ < 65536) ∧ 4 ≤ B ∧ L ≤ most ∧ w.heap.size = B) := ⟨hl, hL, hLb, ho, hps, hP, hPb, hpb, by omega, hm, hB⟩
 have A0 : Aside (Vz w0 B B (.slice none 0 0) [] [] 0 ∧ Below B w w0) := ⟨hz0, b0⟩
 have hLi : (L : Int) ≤ 5000 := by omega
 have hPi : (P : Int) ≤ 200 := by omega
 rw [hB]
 clear hl hL hLb ho hps hP hPb hpb h4 hm hz0 b0
 go_enter Tryz.func51, Tryz.ntmps51
 go_upto_region 3 with fail
 rw [← hw0]
 clear hw0 hB
 go_upto_region 4 with (go_at_call 72; refine hfx.mono ?_; rintro e1 w1 ⟨la, lc, da, dc, rfl, hla, hda, hb1⟩)
 have hfx2 := fixed_c w1
 have A1 : Aside (Lens w1 la (iz fixL) ∧ Below w0.heap.size w0 w1) := ⟨hla, hb1⟩
 clear hfx hla hda hb1
 go_upto_region 5 with (go_at_call 72; refine hfx2.mono ?_; rintro e1 w2 ⟨la2, lc2, da2, dc2, rfl, hla2, hda2, hb2⟩)
 have hnw1 := new_ok w2 la fixL 288 lc (A1.out.1.below hb2) (by decide) mays_fixL
 have A2 : Aside (Lens w2 da2 (iz fixD) ∧ Below w1.heap.size w1 w2) := ⟨hda2, hb2⟩
 clear hfx2 hla2 hda2 hb2
 go_upto_region 6 with (go_at_call 73; refine hnw1.mono ?_; rintro e1 w3 ⟨T1, rfl, tb3, hb3⟩)
 have hnw2 := new_ok w3 da2 fixD 32 dc2 (A2.out.1.below hb3) (by decide) mays_fixD
 have A3 : Aside (Tb w3 T1 fixL ∧ Below w2.heap.size w2 w3) := ⟨tb3, hb3⟩
 clear hnw1 tb3 hb3
 go_upto_region 7 with (go_at_call 73; refine hnw2.mono ?_; rintro e1 w4 ⟨T2, rfl, tb4, hb4⟩)
 have A4 : Aside (Tb w4 T1 fixL ∧ Tb w4 T2 fixD ∧ Vz w4 B B (.slice none 0 0) [] [] 0 ∧ Below B w w4) := by
  have h1 := A0.out.1.below A1.out.2
  have h2 := h1.below A2.out.2
  have h3 := h2.below A3.out.2
  have hs : ∀ {x y : World}, Below x.heap.size x y → B ≤ x.heap.size → Below B x y := fun h k => h.mono k
  have s0 : B ≤ w0.heap.size := Nat.le_of_lt A0.out.1.fr.lt
  have s1 := Nat.le_trans s0 A1.out.2.size
  have s2 := Nat.le_trans s1 A2.out.2.size
  have s3 := Nat.le_trans s2 A3.out.2.size
  exact ⟨A3.out.1.wk (lo := B) (W := B) (Vk.of_below hb4) h3.fr, tb4, h3.below hb4, (((A0.out.2.trans (hs A1.out.2 s0)).trans (hs A2.out.2 s1)).trans (hs A3.out.2 s2)).trans (hs hb4 s3)⟩
 clear hnw2 tb4 hb4 A0 A1 A2 A3
 go_wp2_with fail
 go_loopg [6, 15] (P + 1) (fun gg s6 s15 wr => ∃ i at_ : Nat, s6 = .int .i64 (at_ : Int) ∧ s15 = .int .i64 (i : Int) ∧ Aside (i + gg = P + 1 ∧ at_ ≤ L ∧ i ≤ P ∧ ∃ bs, Vt w4 wr B B most l i at_ bs))
 case atStart => exact ⟨0, 0, rfl, rfl, by omega, by omega, by omega, [], ⟨_, _, _, A4.out.2.2.1, by omega⟩, Vk.refl _ _ _, Leads.refl _ _ _ _, by simp⟩
 case round =>
  obtain ⟨i, at_, rfl, rfl, hI⟩ := hrel
  obtain ⟨G, hG⟩ : ∃ G, G = gk := ⟨_, rfl⟩
  subst hG
  obtain ⟨hig, hat, hiP, bs, hbt⟩ := hI.out
  have a0 := A.out
  have hatI : (at_ : Int) ≤ 5000 := by omega
  have hiI : (i : Int) ≤ 200 := by omega
  obtain ⟨⟨v5, z5, p5, hz5, hp5⟩, hwk5, hld5, hbl5⟩ := hbt
  obtain ⟨Hp, hHp⟩ : ∃ Hp, wr.heap.size = Hp := ⟨_, rfl⟩
  obtain ⟨w6, hw6⟩ : ∃ w6, w6 = wr.alloc (.cells #[.int .u8 1, .int .u16 65535, .bool true, .bool false] 142) := ⟨_, rfl⟩
  have b6 : Below wr.heap.size wr w6 := by rw [hw6]; exact (Below.refl _ wr).alloc (Nat.le_refl _) _
  have kp : Cells w6 Hp #[.int .u8 1, .int .u16 65535, .bool true, .bool false] 142 := by rw [hw6, ← hHp]; exact Cells.new wr _ 142
  have hz6 := hz5.below b6
  have hwk6 : Vk B B w4 w6 := hwk5.trans (Vk.of_below b6)
  have bel6 : Below B w w6 := A4.out.2.2.2.trans (hwk6.below (Nat.le_refl _) (Nat.le_of_lt A4.out.2.2.1.fr.lt))
  have hl6 : Lies w6 a l := a0.1.below (by rw [a0.2.2.2.2.2.2.2.2.2.2]; exact bel6)
  have tb1 : Tb w6 T1 fixL := A4.out.1.wk hwk6 A4.out.2.2.1.fr
  have tb2 : Tb w6 T2 fixD := A4.out.2.1.wk hwk6 A4.out.2.2.1.fr
  have A6 : Aside (Vz w6 B B v5 z5 bs p5 ∧ p5 < 8 ∧ Vk B B w4 w6 ∧ Below B w w6 ∧ Lies w6 a l ∧ Tb w6 T1 fixL ∧ Tb w6 T2 fixD ∧ Cells w6 Hp #[.int .u8 1, .int .u16 65535, .bool true, .bool false] 142 ∧ Leads most (.head false) (.head false) bs 0 [] (l.take at_) ∧ bs.length ≤ i * 1000000 ∧ i + G = P + 1 ∧ at_ ≤ L ∧ i ≤ P) := ⟨hz6, hp5, hwk6, bel6, hl6, tb1, tb2, kp, hld5, hbl5, hig, hat, hiP⟩
  have hHs : w4.heap.size ≤ Hp := by rw [← hHp]; exact hwk5.size
  have AH : Aside (w4.heap.size ≤ Hp ∧ B < w4.heap.size) := ⟨hHs, A4.out.2.2.1.fr.lt⟩
  have hlast : i = P := by omega
  clear hI hig hat hHs hz5 hp5 hwk5 hld5 hbl5 b6 hz6 hwk6 bel6 hl6 tb1 tb2
  ·have t1 : ((i : Int) < (P : Int)) = False := eq_false (by omega)
   have t1' : (i < P) = False := eq_false (by omega)
   have t2 : ((P : Int) ≤ (i : Int)) = True := eq_true (by omega)
   have t2' : (P ≤ i) = True := eq_true (by omega)
   have c0 := kp.cell 0
   have c1 := kp.cell 1
   have c2 := kp.cell 2
   have c3 := kp.cell 3
   simp only [List.getElem?_toArray, List.getElem?_cons_zero, List.getElem?_cons_succ] at c0 c1 c2 c3
   have hmin : (if (at_ : Int) + 65535 < (L : Int) then (at_ : Int) + 65535 else (L : Int)) = (L : Int) := by split <;> omega
   have tq : ((L : Int) == (L : Int)) = true := by simp
   have a6 := A6.out
   have hn1 := wnumber_c 1 1 (by decide) (by decide) w6 a6.1 a6.2.1 a0.2.2.2.2.2.2.2.2.1 (by omega)
   clear a0 a6 kp hlast hiP
   go_upto_region 12 with fail
   rw [← hw6]
   clear hw6 hHp
   go_upto_region 17 with (go_at_call 74; refine hn1.mono ?_; rintro e1 w7 ⟨rfl, ⟨v7, z7, p7, wz7, hp7⟩, hk7⟩)
   have a6 := A6.out
   have kp7 := a6.2.2.2.2.2.2.2.1.wk hk7 (kinds_ne a6.2.2.2.2.2.2.2.1 a6.1.fr (by decide)) (by decide)
   clear c0 c1 c2 c3
   have c0 := kp7.cell 0
   have c2 := kp7.cell 2
   simp only [List.getElem?_toArray, List.getElem?_cons_zero, List.getElem?_cons_succ] at c0 c2
   have hn2 := wnumber_c 1 2 (by decide) (by decide) w7 wz7 hp7 A.out.2.2.2.2.2.2.2.2.1 (by have := a6.2.2.2.2.2.2.2.2.2.1; have := A.out; rw [List.length_append, bitsOf_length]; omega)
   have A7 : Aside (Vk B B w6 w7 ∧ Vz w7 B B v7 z7 (bs ++ bitsOf 1 1) p7) := ⟨hk7, wz7⟩
   clear a6 kp7 hn1 wz7 hp7 hk7
   go_upto_region 18 with (go_at_call 74; refine hn2.mono ?_; rintro e1 w8 ⟨rfl, ⟨v8, z8, p8, wz8, hp8⟩, hk8⟩)
   have a6 := A6.out
   have a0 := A.out
   have hk68 : Vk B B w6 w8 := A7.out.1.trans hk8
   have kp8 := a6.2.2.2.2.2.2.2.1.wk hk68 (kinds_ne a6.2.2.2.2.2.2.2.1 a6.1.fr (by decide)) (by decide)
   clear c0 c2
   have c0 := kp8.cell 0
   have c2 := kp8.cell 2
   simp only [List.getElem?_toArray, List.getElem?_cons_zero, List.getElem?_cons_succ] at c0 c2
   have bel8 : Below B w w8 := a6.2.2.2.1.trans (hk68.below (Nat.le_refl _) (Nat.le_of_lt a6.1.fr.lt))
   have hl8 : Lies w8 a l := a0.1.below (by rw [a0.2.2.2.2.2.2.2.2.2.2]; exact bel8)
   have htk := tokens_c w8 a l L c at_ L true hl8 a0.2.1 (by omega) a6.2.2.2.2.2.2.2.2.2.2.2.1 (Nat.le_refl _)
   have A8 : Aside (Vz w8 B B v8 z8 (bs ++ bitsOf 1 1 ++ bitsOf 2 1) p8 ∧ p8 < 8 ∧ Vk B B w6 w8 ∧ Below B w w8 ∧ Tb w8 T1 fixL ∧ Tb w8 T2 fixD) := ⟨wz8, hp8, hk68, bel8, a6.2.2.2.2.2.1.wk hk68 a6.1.fr, a6.2.2.2.2.2.2.1.wk hk68 a6.1.fr⟩
   clear a6 a0 hk68 kp8 bel8 hl8 hn2 wz8 hp8 hk8
   go_wp2_with (first
    | (go_at_call 76; refine htk.mono ?_; rintro e1 w9 ⟨ta, ts, tc, rfl, htoks, htells, hb9⟩; have hbd := wbody_c (lo := B) (W := B) ts fixL fixD T1 T2 ta ts.length tc w9 (A8.out.1.below hb9) A8.out.2.1 A.out.2.2.2.2.2.2.2.2.1 htoks rfl (by have := tells_len htells; have := A.out; omega) (A8.out.2.2.2.2.1.wk (lo := B) (W := B) (Vk.of_below hb9) A8.out.1.fr) (A8.out.2.2.2.2.2.wk (lo := B) (W := B) (Vk.of_below hb9) A8.out.1.fr) fits_fixL.2 fits_fixD.2 (by decide) (by decide) (fun t ht => ⟨htells.uses_fix A.out.2.2.2.1 t ht, (by have := htells.tok0 A.out.2.2.2.1 t ht; cases t using Tok.el <;> exact this)⟩) (has_fixL (by decide)) (by have := A6.out.2.2.2.2.2.2.2.2.2.1; have := A.out; simp only [List.length_append, bitsOf_length]; omega); have A9 : Aside (Tells l at_ ts L ∧ Vk B B w6 w9 ∧ ts.length ≤ 5000) := ⟨htells, A8.out.2.2.1.trans (Vk.of_below hb9), (by have := tells_len htells; have := A.out; omega)⟩; clear htoks htells hb9)
    | (go_at_call 75; refine hbd.mono ?_; rintro e1 w10 ⟨rfl, ⟨v10, z10, p10, wz10, hp10⟩, hk10⟩; have cW0 := wz10.fr.cell 0; simp only [List.getElem?_toArray, List.getElem?_cons_zero] at cW0))
   go_ret
   have a6 := A6.out
   have a0 := A.out
   have a9 := A9.out
   have e : bs ++ bitsOf 1 1 ++ bitsOf 2 1 ++ (ts.flatMap (tokBits fixL fixD) ++ cbits fixL 256) = bs ++ ((bitsOf 1 1 ++ bitsOf 2 1) ++ (ts.flatMap (tokBits fixL fixD) ++ cbits fixL 256)) := by simp
   rw [e] at wz10
   have hld : Leads most (.head false) (.head true) (bs ++ ((bitsOf 1 1 ++ bitsOf 2 1) ++ (ts.flatMap (tokBits fixL fixD) ++ cbits fixL 256))) 0 [] (l.take L) := by
    refine lead_next a6.2.2.2.2.2.2.2.2.1 ?_
    exact (lead_head true 1 (by omega)).trans (lead_body fits_fixL fits_fixD (by rw [a0.2.1]; exact a0.2.2.2.2.2.2.2.2.2.1) a0.2.2.2.1 (has_fixL (by decide)) (a9.1.uses_fix a0.2.2.2.1) a9.1 (by rw [a0.2.1]; exact a6.2.2.2.2.2.2.2.2.2.2.2.1))
   rw [List.take_of_length_le (by omega)] at hld
   refine ⟨v10, z10, rfl, wz10.ob, holds_of wz10.all (by simp; exact hp10) (by simp [bitsOf]; omega) hld, wz10.oct, ?_, ?_⟩
   ·have hl := congrArg List.length wz10.all
    rw [allb_len] at hl
    have h1 := toks_len fits_fixL.2 fits_fixD.2 (l := ts) (fun t ht => ⟨a9.1.uses_fix a0.2.2.2.1 t ht, by have := a9.1.tok0 a0.2.2.2.1 t ht; cases t using Tok.el <;> exact this⟩)
    have h2 : (cbits fixL 256).length ≤ 15 := by decide
    simp only [List.length_append, bitsOf_length, List.length_replicate] at hl
    have := a6.2.2.2.2.2.2.2.2.2.1
    omega
   ·exact a6.2.2.2.1.trans ((a9.2.1.trans hk10).below (Nat.le_refl _) (Nat.le_of_lt a6.1.fr.lt))
end Go.Proofs.YtpihipbeagpgpaaGreatDoor

/-
 Entries in memory; what small comes to.
-/
namespace Go.Proofs.YtpihipbeagpgpaaGreatDoor
open Go.RowKit
set_option linter.unusedVariables false
structure Ent where
 nm : List Nat
 da : List Nat
 pl : List Pb
 hw : Nat
structure E1 (w : World) (b o : Nat) (e : Ent) : Prop where
 c0 : w.cell? ⟨b, o, none⟩ = some (.string (st e.nm))
 c1 : ∃ a c, w.cell? ⟨b, o + 1, none⟩ = some (.slice a e.da.length c) ∧ e.da.length ≤ c ∧ Lies w a e.da
 c2 : ∃ a c, w.cell? ⟨b, o + 2, none⟩ = some (.slice a e.pl.length c) ∧ e.pl.length ≤ c ∧ Plan w a e.pl
 c3 : w.cell? ⟨b, o + 3, none⟩ = some (.int .u8 (e.hw : Int))
 h8 : e.hw < 256
 od : Oct e.da
 on : Oct e.nm
 op : ∀ p ∈ e.pl, p.kd < 256 ∧ p.by_ < 65536
end Go.Proofs.YtpihipbeagpgpaaGreatDoor

/-
 An entry as it is written. No walk.
-/
namespace Go.Proofs.YtpihipbeagpgpaaGreatDoor
open Go.RowKit
set_option linter.unusedVariables false
def Ent.tol (e : Ent) : Bool := decide (e.hw / 16 % 2 = 0)
def Ent.beh (e : Ent) : Bool := decide (e.hw / 2 % 2 = 1) && e.tol
def Ent.dfl (e : Ent) : Bool := decide (e.hw % 2 = 1) || e.beh
def Ent.wid (e : Ent) : Bool := decide (e.hw / 8 % 2 = 1)
def Ent.mrk (e : Ent) : Bool := decide (e.hw / 4 % 2 = 1)
def Ent.nam (e : Ent) : List Nat := e.nm.take 256
def Ent.sum (e : Ent) : Nat := sm 0 e.da
def Ent.flg (e : Ent) : Nat := if e.beh then 8 else if e.tol then 0 else 1
def Ent.met (e : Ent) : Nat := if e.dfl then 8 else 0
def Ent.ext (e : Ent) (z : List Nat) : List Nat := [9, 0, 1, 0, 7] ++ (if e.wid then [1, 0, 16, 0] ++ nbs 8 e.da.length ++ nbs 8 z.length else [])
def Ent.siz (e : Ent) (n : Nat) : Nat := if e.beh then 0 else if e.wid then U32 else n
def Ent.hdr (e : Ent) (z : List Nat) : List Nat :=
 [80, 75, 3, 4] ++ ([20, 0] ++ nbs 2 e.flg ++ nbs 2 e.met ++ [1, 2, 3, 4] ++ nbs 4 (if e.beh then 0 else e.sum) ++ nbs 4 (e.siz z.length) ++ nbs 4 (e.siz e.da.length) ++ nbs 2 e.nam.length ++ nbs 2 (e.ext z).length)
def Ent.tal (e : Ent) (z : List Nat) : List Nat :=
 if e.beh then (if e.mrk then [80, 75, 7, 8] else []) ++ nbs 4 e.sum ++ nbs (if e.wid then 8 else 4) z.length ++ nbs (if e.wid then 8 else 4) e.da.length else []
def Ent.one (e : Ent) (z : List Nat) : List Nat := e.hdr z ++ e.nam ++ e.ext z ++ z ++ e.tal z
theorem oct_dec {l : List Nat} (h : l.all (fun x => decide (x < 256)) = true) : Oct l := fun x hx => by simpa using List.all_eq_true.1 h x hx
theorem Oct.app {a b : List Nat} (h : Oct a) (k : Oct b) : Oct (a ++ b) := fun x hx => by
 rcases List.mem_append.1 hx with q | q
 ·exact h x q
 ·exact k x q
section
variable (e : Ent) (z : List Nat)
theorem Ent.ext_length : (e.ext z).length = if e.wid then 25 else 5 := by
 unfold Ent.ext
 split <;> simp [nbs_length]
theorem Ent.hdr_length : (e.hdr z).length = 30 := by simp [Ent.hdr, nbs_length]
theorem Ent.nam_length : e.nam.length ≤ 256 := by unfold Ent.nam; rw [List.length_take]; omega
theorem Ent.tal_length : (e.tal z).length ≤ 24 := by
 unfold Ent.tal
 split
 ·simp only [List.length_append, nbs_length]
  split <;> split <;> simp
 ·simp
theorem Ent.ext_oct : Oct (e.ext z) := by
 unfold Ent.ext
 refine Oct.app (oct_dec rfl) ?_
 split
 ·exact Oct.app (Oct.app (oct_dec rfl) (nbs_oct _ _)) (nbs_oct _ _)
 ·exact oct_nil
theorem Ent.hdr_oct : Oct (e.hdr z) := by
 unfold Ent.hdr
 refine Oct.app (oct_dec rfl) ?_
 exact (((((((((show Oct [20, 0] from oct_dec rfl).app (nbs_oct _ _)).app (nbs_oct _ _)).app (show Oct [1, 2, 3, 4] from oct_dec rfl)).app (nbs_oct _ _)).app (nbs_oct _ _)).app (nbs_oct _ _)).app (nbs_oct _ _)).app (nbs_oct _ _))
theorem Ent.nam_oct (h : Oct e.nm) : Oct e.nam := fun x hx => h x (List.take_subset _ _ hx)
theorem Ent.tal_oct : Oct (e.tal z) := by
 unfold Ent.tal
 split
 ·refine (((show Oct (if e.mrk then [80, 75, 7, 8] else []) from ?_).app (nbs_oct _ _)).app (nbs_oct _ _)).app (nbs_oct _ _)
  split
  ·exact oct_dec rfl
  ·exact oct_nil
 ·exact oct_nil
theorem Ent.one_oct (hn : Oct e.nm) (hz : Oct z) : Oct (e.one z) := ((((e.hdr_oct z).app (e.nam_oct hn)).app (e.ext_oct z)).app hz).app (e.tal_oct z)
theorem Ent.one_length : (e.one z).length = 30 + e.nam.length + (e.ext z).length + z.length + (e.tal z).length := by
 unfold Ent.one
 simp only [List.length_append, e.hdr_length z]
end
def HF : List (Nat × Nat) := [(2, 0), (2, 1), (2, 2), (4, 0), (4, 3), (4, 4), (4, 5), (2, 6), (2, 7)]
theorem lev_lt_of {n v : Nat} (h : v < 256 ^ n) : lev (nbs n v) = v := by rw [lev_nbs, Nat.mod_eq_of_lt h]
end Go.Proofs.YtpihipbeagpgpaaGreatDoor

/-
 The machine over the header of an entry as it is written. No walk.
-/
namespace Go.Proofs.YtpihipbeagpgpaaGreatDoor
open Go.RowKit
set_option linter.unusedVariables false
theorem zfill_cons (n c v : Nat) (r : List (Nat × Nat)) (l : List Nat) (s : Zs) (h : v < 256 ^ n) : zfill ((n, c) :: r) (nbs n v ++ l) s = zfill r l (zset c v { s with fs := r, bs := [] }) := by
 rw [zfill, List.take_left' (nbs_length n v), List.drop_left' (nbs_length n v), lev_lt_of h]
theorem zfill_skip (n : Nat) (p : List Nat) (r : List (Nat × Nat)) (l : List Nat) (s : Zs) (h : p.length = n) : zfill ((n, 0) :: r) (p ++ l) s = zfill r l { s with fs := r, bs := [] } := by
 rw [zfill, List.take_left' h, List.drop_left' h]
 rfl
def Ent.zh (e : Ent) (z : List Nat) (s : Zs) : Zs :=
 { zhead s with fs := [], fl := e.flg, me := e.met, su := if e.beh then 0 else e.sum, pk := e.siz z.length, sz := e.siz e.da.length, nl := e.nam.length, xl := (e.ext z).length }
structure Ent.Fit (e : Ent) (z : List Nat) : Prop where
 od : Oct e.da
 on : Oct e.nm
 oz : Oct z
 l1 : e.da.length < U32
 l2 : z.length < U32
section
variable {e : Ent} {z : List Nat}
theorem Ent.flg_lt (e : Ent) : e.flg < 256 ^ 2 := by unfold Ent.flg; split; decide; split <;> decide
theorem Ent.met_lt (e : Ent) : e.met < 256 ^ 2 := by unfold Ent.met; split <;> decide
theorem Ent.siz_lt (e : Ent) {n : Nat} (h : n < U32) : e.siz n < 256 ^ 4 := by
 have : (256 : Nat) ^ 4 = 4294967296 := by decide
 unfold U32 at h
 unfold Ent.siz U32
 split
 ·omega
 ·split <;> omega
theorem Ent.sum_lt (e : Ent) (h : Oct e.da) : e.sum < 4294967296 := sm_lt e.da (by decide) h
theorem Ent.fill (f : e.Fit z) (s : Zs) : zfill HF ([20, 0] ++ nbs 2 e.flg ++ nbs 2 e.met ++ [1, 2, 3, 4] ++ nbs 4 (if e.beh then 0 else e.sum) ++ nbs 4 (e.siz z.length) ++ nbs 4 (e.siz e.da.length) ++ nbs 2 e.nam.length ++ nbs 2 (e.ext z).length) (zhead s) = e.zh z s := by
 have p2 : (256 : Nat) ^ 2 = 65536 := by decide
 have p4 : (256 : Nat) ^ 4 = 4294967296 := by decide
 have hs : (if e.beh then 0 else e.sum) < 256 ^ 4 := by
  have := e.sum_lt f.od
  split <;> omega
 have hn : e.nam.length < 256 ^ 2 := by have := e.nam_length; omega
 have hx : (e.ext z).length < 256 ^ 2 := by rw [e.ext_length]; split <;> decide
 simp only [List.append_assoc]
 rw [HF, zfill_skip 2 _ _ _ _ rfl, zfill_cons 2 1 _ _ _ _ e.flg_lt, zfill_cons 2 2 _ _ _ _ e.met_lt, zfill_skip 4 _ _ _ _ rfl, zfill_cons 4 3 _ _ _ _ hs, zfill_cons 4 4 _ _ _ _ (e.siz_lt f.l2), zfill_cons 4 5 _ _ _ _ (e.siz_lt f.l1), zfill_cons 2 6 _ _ _ _ hn]
 have e7 := zfill_cons 2 7 _ [] [] (zset 6 e.nam.length { zset 5 (e.siz e.da.length) { zset 4 (e.siz z.length) { zset 3 (if e.beh then 0 else e.sum) { ({ zset 2 e.met { zset 1 e.flg { ({ zhead s with fs := [(2, 1), (2, 2), (4, 0), (4, 3), (4, 4), (4, 5), (2, 6), (2, 7)], bs := [] } : Zs) with fs := [(2, 2), (4, 0), (4, 3), (4, 4), (4, 5), (2, 6), (2, 7)], bs := [] } with fs := [(4, 0), (4, 3), (4, 4), (4, 5), (2, 6), (2, 7)], bs := [] } with fs := [(4, 3), (4, 4), (4, 5), (2, 6), (2, 7)], bs := [] } : Zs) with fs := [(4, 4), (4, 5), (2, 6), (2, 7)], bs := [] } with fs := [(4, 5), (2, 6), (2, 7)], bs := [] } with fs := [(2, 6), (2, 7)], bs := [] } with fs := [(2, 7)], bs := [] }) hx
 rw [List.append_nil] at e7
 exact e7.trans rfl
theorem magic_run {t : Nat} {s : Zs} (h0 : s.why = 0) (hp : s.ph = 0) (hb : s.bs = []) : Mr t s [80, 75, 3, 4] (zhead s) [] := by
 have st1 : ∀ (u : Zs) (x : Nat), u.why = 0 → u.ph = 0 → ∀ t, Mr t u [x] (zpla x u) [] := fun u x a b t => by
  have := mr_st (t := t) (x := x) a (by rw [b]; decide)
  rw [zst0 x b] at this
  exact this
 have a1 := st1 s 80 h0 hp t
 have e1 : zpla 80 s = { s with bs := [80] } := by unfold zpla; rw [hb]; rfl
 rw [e1] at a1
 have a2 := st1 { s with bs := [80] } 75 h0 hp (t + 1)
 have e2 : zpla 75 { s with bs := [80] } = { s with bs := [80, 75] } := rfl
 rw [e2] at a2
 have a3 := st1 { s with bs := [80, 75] } 3 h0 hp (t + 1 + 1)
 have e3 : zpla 3 { s with bs := [80, 75] } = { s with bs := [80, 75, 3] } := rfl
 rw [e3] at a3
 have a4 := st1 { s with bs := [80, 75, 3] } 4 h0 hp (t + 1 + 1 + 1)
 have e4 : zpla 4 { s with bs := [80, 75, 3] } = zhead s := rfl
 rw [e4] at a4
 exact a1.seq (a2.seq (a3.seq a4))
theorem Ent.hdr_run (f : e.Fit z) {t : Nat} {s : Zs} (h0 : s.why = 0) (hp : s.ph = 0) (hb : s.bs = []) : Mr t s (e.hdr z) (zname (e.zh z s)).1 (evs (t + 29) (zname (e.zh z s)).2) := by
 have a1 := magic_run (t := t) h0 hp hb
 have a2 := gat_all HF ([20, 0] ++ nbs 2 e.flg ++ nbs 2 e.met ++ [1, 2, 3, 4] ++ nbs 4 (if e.beh then 0 else e.sum) ++ nbs 4 (e.siz z.length) ++ nbs 4 (e.siz e.da.length) ++ nbs 2 e.nam.length ++ nbs 2 (e.ext z).length) (t + 4) (zhead s) h0 rfl rfl rfl (by decide) (by decide) (by simp [nbs_length, HF, tot])
 rw [e.fill f s] at a2
 have a3 := a1.seq a2
 unfold Ent.hdr
 exact a3
end
end Go.Proofs.YtpihipbeagpgpaaGreatDoor

/-
 The machine over name and extra of an entry as it is written. No walk.
-/
namespace Go.Proofs.YtpihipbeagpgpaaGreatDoor
open Go.RowKit
set_option linter.unusedVariables false
structure Ent.At (e : Ent) (P S X : Nat) (w : Bool) (s : Zs) : Prop where
 why : s.why = 0
 fl : s.fl = e.flg
 me : s.me = e.met
 su : s.su = if e.beh then 0 else e.sum
 pk : s.pk = P
 sz : s.sz = S
 nm : s.nm = e.nam
 tk : s.tk = 0
 gv : s.gv = 0
 sg : s.sg = 0
 xl : s.xl = X
 wd : s.wd = w
section
variable {e : Ent} {P S X : Nat} {w : Bool} {s : Zs} {z : List Nat}
theorem Ent.At.rec_ (h : e.At P S X w s) (hX : 4 ≤ X) (r l : Nat) (hr : r < 65536) (hl : l < 65536) (t : Nat) : (zrec s).2 = [] ∧ ∃ s3, e.At P S (X - 4) w s3 ∧ s3.ri = r ∧ s3.rl = l ∧ Mr t (zrec s).1 (nbs 2 r ++ nbs 2 l) (zrc1 s3).1 (evs (t + 3) (zrc1 s3).2) := by
 have p2 : (256 : Nat) ^ 2 = 65536 := by decide
 have hx := h.xl
 have e0 : zrec s = ({ s with xl := s.xl - 4, ph := 2, k := 1, fs := [(2, 8), (2, 9)], bs := [], ri := 0, rl := 0 }, []) := by
  unfold zrec
  rw [if_neg (by omega)]
 rw [e0]
 refine ⟨rfl, { s with xl := s.xl - 4, ph := 2, k := 1, fs := [], bs := [], ri := r, rl := l }, ⟨h.why, h.fl, h.me, h.su, h.pk, h.sz, h.nm, h.tk, h.gv, h.sg, by show s.xl - 4 = _; rw [hx], h.wd⟩, rfl, rfl, ?_⟩
 have a2 := gat_all [(2, 8), (2, 9)] (nbs 2 r ++ nbs 2 l) t { s with xl := s.xl - 4, ph := 2, k := 1, fs := [(2, 8), (2, 9)], bs := [], ri := 0, rl := 0 } h.why rfl rfl rfl (by decide) (by decide) (by simp [nbs_length, tot])
 have f1 := zfill_cons 2 8 r [(2, 9)] (nbs 2 l) { s with xl := s.xl - 4, ph := 2, k := 1, fs := [(2, 8), (2, 9)], bs := [], ri := 0, rl := 0 } (by omega)
 have f2 := zfill_cons 2 9 l [] [] (zset 8 r { ({ s with xl := s.xl - 4, ph := 2, k := 1, fs := [(2, 8), (2, 9)], bs := [], ri := 0, rl := 0 } : Zs) with fs := [(2, 9)], bs := [] }) (by omega)
 rw [List.append_nil] at f2
 rw [f1, f2] at a2
 exact a2
theorem Ent.At.pass_ (h : e.At P S X w s) {n : Nat} (hn : n ≠ 0) {l : List Nat} (hl : l.length = n) (t : Nat) : (zpr n s).2 = [] ∧ ∃ s3, e.At P S X w s3 ∧ Mr t (zpr n s).1 l (zrec s3).1 (evs (t + (n - 1)) (zrec s3).2) := by
 have e0 : zpr n s = ({ s with ph := 3, k := 2, mn := n }, []) := by
  unfold zpr
  rw [if_neg hn]
 rw [e0]
 refine ⟨rfl, { s with ph := 3, k := 2, nm := s.nm, mn := 0 }, ⟨h.why, h.fl, h.me, h.su, h.pk, h.sz, h.nm, h.tk, h.gv, h.sg, h.xl, h.wd⟩, ?_⟩
 exact tak_all (l := l) (t := t) (s := { s with ph := 3, k := 2, mn := n }) h.why rfl (by show 1 ≤ n; omega) hl
theorem Ent.At.done_ (h : e.At P S 0 w s) : zrec s = zbody s := by
 unfold zrec
 rw [if_pos (by have := h.xl; omega)]
 unfold zxb
 rw [if_pos h.xl]
theorem Ent.At.nine (h : e.At P S X w s) (hX : 5 ≤ X) (t : Nat) : (zrec s).2 = [] ∧ ∃ s3, e.At P S (X - 5) w s3 ∧ Mr t (zrec s).1 [9, 0, 1, 0, 7] (zrec s3).1 (evs (t + 4) (zrec s3).2) := by
 obtain ⟨a1, s3, a2, a3, a4, a5⟩ := h.rec_ (by omega) 9 1 (by decide) (by decide) t
 have x3 := a2.xl
 have e3 : zrc1 s3 = zpr 1 { s3 with xl := s3.xl - s3.rl } := by
  unfold zrc1
  rw [if_neg (by omega), if_pos (Or.inl (by omega)), a4]
 rw [e3] at a5
 have h4 : e.At P S (X - 5) w { s3 with xl := s3.xl - s3.rl } := ⟨a2.why, a2.fl, a2.me, a2.su, a2.pk, a2.sz, a2.nm, a2.tk, a2.gv, a2.sg, by show s3.xl - s3.rl = _; omega, a2.wd⟩
 obtain ⟨b1, s5, b2, b3⟩ := h4.pass_ (n := 1) (by decide) (l := [7]) rfl (t + 4)
 rw [b1] at a5
 exact ⟨a1, s5, b2, a5.seq b3⟩
end
structure Ent.Bd (e : Ent) (z : List Nat) (s : Zs) : Prop where
 at_ : e.At (if e.beh then 0 else z.length) (if e.beh then 0 else e.da.length) 0 e.wid s
section
variable {e : Ent} {z : List Nat} {s : Zs}
theorem Ent.ext_run (f : e.Fit z) (h : e.At (e.siz z.length) (e.siz e.da.length) (e.ext z).length false s) (t : Nat) : (zrec s).2 = [] ∧ ∃ s3, e.Bd z s3 ∧ Mr t (zrec s).1 (e.ext z) (zbody s3).1 (evs (t + ((e.ext z).length - 1)) (zbody s3).2) := by
 have p8 : (256 : Nat) ^ 8 = 18446744073709551616 := by decide
 have l1 := f.l1
 have l2 := f.l2
 unfold U32 at l1 l2
 have hl := e.ext_length z
 by_cases hw : e.wid = true
 ·rw [if_pos hw] at hl
  have hx : e.ext z = [9, 0, 1, 0, 7] ++ ([1, 0, 16, 0] ++ (nbs 8 e.da.length ++ nbs 8 z.length)) := by unfold Ent.ext; rw [if_pos hw]; simp
  rw [hl] at h
  obtain ⟨a1, s3, a2, a3⟩ := h.nine (by decide) t
  obtain ⟨b1, s4, b2, b3, b4, b5⟩ := a2.rec_ (by decide) 1 16 (by decide) (by decide) (t + 5)
  rw [b1] at a3
  have x4 := b2.xl
  have e4 : zrc1 s4 = zwid 16 { s4 with xl := s4.xl - s4.rl, wd := true } := by
   unfold zrc1
   rw [if_neg (by omega), if_neg (by rw [b3, b2.wd]; simp), b4]
  rw [e4] at b5
  have h5 : e.At (e.siz z.length) (e.siz e.da.length) 0 true { s4 with xl := s4.xl - s4.rl, wd := true } := ⟨b2.why, b2.fl, b2.me, b2.su, b2.pk, b2.sz, b2.nm, b2.tk, b2.gv, b2.sg, by show s4.xl - s4.rl = _; omega, rfl⟩
  obtain ⟨s5, hs5⟩ : ∃ s5, { s4 with xl := s4.xl - s4.rl, wd := true } = s5 := ⟨_, rfl⟩
  rw [hs5] at h5 b5
  rw [hl, hx]
  by_cases hb : e.beh = true
  ·-- the sizes stand behind: these sixteen bytes are passed over
   have z1 : s5.pk = 0 := by rw [h5.pk]; unfold Ent.siz; rw [if_pos hb]
   have z2 : s5.sz = 0 := by rw [h5.sz]; unfold Ent.siz; rw [if_pos hb]
   have ef : zwf s5 16 = ([], 16) := by
    unfold zwf U32
    rw [if_neg (by omega), if_neg (by omega)]
   have ew : zwid 16 s5 = zpr 16 { s5 with mn := 16 } := by
    unfold zwid
    rw [ef, if_pos rfl]
   rw [ew] at b5
   have h6 : e.At (e.siz z.length) (e.siz e.da.length) 0 true { s5 with mn := 16 } := ⟨h5.why, h5.fl, h5.me, h5.su, h5.pk, h5.sz, h5.nm, h5.tk, h5.gv, h5.sg, h5.xl, h5.wd⟩
   obtain ⟨c1, s6, c2, c3⟩ := h6.pass_ (n := 16) (by decide) (l := nbs 8 e.da.length ++ nbs 8 z.length) (by simp [nbs_length]) (t + 9)
   rw [c1] at b5
   rw [c2.done_] at c3
   refine ⟨a1, s6, ⟨?_⟩, a3.seq (b5.seq c3)⟩
   rw [if_pos hb, if_pos hb, hw]
   have e1 : e.siz z.length = 0 := by unfold Ent.siz; rw [if_pos hb]
   have e2 : e.siz e.da.length = 0 := by unfold Ent.siz; rw [if_pos hb]
   rw [e1, e2] at c2
   exact c2
  ·have z1 : s5.pk = U32 := by rw [h5.pk]; unfold Ent.siz; rw [if_neg hb, if_pos hw]
   have z2 : s5.sz = U32 := by rw [h5.sz]; unfold Ent.siz; rw [if_neg hb, if_pos hw]
   have ef : zwf s5 16 = ([(8, 5), (8, 4)], 0) := by
    unfold zwf
    rw [if_pos ⟨z2, by decide⟩, if_pos ⟨z1, by decide⟩]
   have ew : zwid 16 s5 = ({ s5 with ph := 2, k := 2, fs := [(8, 5), (8, 4)], bs := [], mn := 0 }, []) := by
    unfold zwid
    rw [ef, if_neg (by simp)]
   rw [ew] at b5
   have a7 := gat_all [(8, 5), (8, 4)] (nbs 8 e.da.length ++ nbs 8 z.length) (t + 9) { s5 with ph := 2, k := 2, fs := [(8, 5), (8, 4)], bs := [], mn := 0 } h5.why rfl rfl rfl (by decide) (by decide) (by simp [nbs_length, tot])
   have f1 := zfill_cons 8 5 e.da.length [(8, 4)] (nbs 8 z.length) { s5 with ph := 2, k := 2, fs := [(8, 5), (8, 4)], bs := [], mn := 0 } (by omega)
   have f2 := zfill_cons 8 4 z.length [] [] (zset 5 e.da.length { ({ s5 with ph := 2, k := 2, fs := [(8, 5), (8, 4)], bs := [], mn := 0 } : Zs) with fs := [(8, 4)], bs := [] }) (by omega)
   rw [List.append_nil] at f2
   rw [f1, f2] at a7
   obtain ⟨s7, hs7⟩ : ∃ s7 : Zs, { s5 with ph := 2, k := 2, fs := [], bs := [], mn := 0, sz := e.da.length, pk := z.length } = s7 := ⟨_, rfl⟩
   have a8 : Mr (t + 9) { s5 with ph := 2, k := 2, fs := [(8, 5), (8, 4)], bs := [], mn := 0 } (nbs 8 e.da.length ++ nbs 8 z.length) (zrec s7).1 (evs (t + 9 + 15) (zrec s7).2) := by
    rw [← hs7]
    exact a7
   have h7 : e.At z.length e.da.length 0 true s7 := by
    rw [← hs7]
    exact ⟨h5.why, h5.fl, h5.me, h5.su, rfl, rfl, h5.nm, h5.tk, h5.gv, h5.sg, h5.xl, h5.wd⟩
   rw [h7.done_] at a8
   refine ⟨a1, s7, ⟨?_⟩, a3.seq (b5.seq a8)⟩
   rw [if_neg hb, if_neg hb, hw]
   exact h7
 ·rw [if_neg hw] at hl
  have hx : e.ext z = [9, 0, 1, 0, 7] := by unfold Ent.ext; rw [if_neg hw]; rfl
  rw [hl] at h
  obtain ⟨a1, s3, a2, a3⟩ := h.nine (by decide) t
  rw [a2.done_] at a3
  rw [hl, hx]
  refine ⟨a1, s3, ⟨?_⟩, a3⟩
  have hw' : e.wid = false := by simpa using hw
  rw [hw']
  have e1 : ∀ n, e.siz n = if e.beh then 0 else n := fun n => by
   unfold Ent.siz
   rw [if_neg hw]
  rw [e1, e1] at a2
  exact a2
end
end Go.Proofs.YtpihipbeagpgpaaGreatDoor

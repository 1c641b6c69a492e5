/-
  What lay comes to: a pattern's beginnings are states, and it is one of its last state's outs.
  Conditions: the machine is that of the patterns so far, the pattern is another one; there are fewer than 64.
-/
import Derived.Test.YtbepbjbbhenphabDoorLays
import Derived.Test.YtbepbjbbhenphabDoorLies
namespace Go.Proofs.YtbepbjbbhenphabDoor
open Go.RowKit
set_option linter.unusedVariables false
set_option maxRecDepth 100000 in
set_option maxHeartbeats 4000000 in
theorem lay_c {base A pn lg : Nat} {nd : List Nd} {G : Nat → Nat → Option Nat} {ps ws : List (List Nat)} (k L c : Nat) (a : Option Addr) (p : List Nat) (w : World) (h : Mach w base A pn lg nd G) (hl : Lay ps ws nd G) (hk : k = ps.length) (hk64 : k < 64) (hp : p ∉ ps) (hLp : p.length = L) (hLc : L ≤ c) (hL : L < 1048576) (ho : Oct p)
    (hli : ∀ u, Below base w u → Lies u a p) (hbase : base ≤ w.heap.size) (hsm : ws.length + p.length < 1048576) (hlg : lg < 1048576) :
    Calls Tryd.prog 16 #[.pointer (some ⟨A, 0, none⟩), .int .i64 k, .slice a L c] w fun e w' => e = .returned (.tuple #[]) ∧ ∃ nd' G', Mach w' base A pn (max lg L) nd' G' ∧ Lay (ps ++ [p]) (lw ws [] p) nd' G' ∧ Below base w w' := by
  have AB : Aside (k = ps.length ∧ k < 64 ∧ p ∉ ps ∧ p.length = L ∧ L ≤ c ∧ L < 1048576 ∧ Oct p ∧ base ≤ w.heap.size ∧ ws.length + p.length < 1048576 ∧ lg < 1048576) := ⟨hk, hk64, hp, hLp, hLc, hL, ho, hbase, hsm, hlg⟩
  have AL : Aside (∀ u, Below base w u → Lies u a p) := hli
  have AM : Aside (Mach w base A pn lg nd G ∧ Lay ps ws nd G) := ⟨h, hl⟩
  obtain ⟨mx, hmx⟩ : ∃ mx, max lg L = mx := ⟨_, rfl⟩
  rw [hmx]
  have AX : Aside (max lg L = mx) := hmx
  clear hmx
  clear hk hp hLp hLc hL ho hbase hsm hlg hli h hl hk64
  go_enter Tryd.func16, Tryd.ntmps16
  go_wp2_with fail
  go_loopg [6, 13] L (fun gg ss si wr => ∃ (s i : Nat) (ws' : List (List Nat)) (nd' : List Nd) (G' : Nat → Nat → Option Nat), ss = .int .i64 s ∧ si = .int .i64 i ∧ Aside (i + gg = L ∧ ws'[s]? = some (p.take i) ∧ lw ws' (p.take i) (p.drop i) = lw ws [] p ∧ ws'.length ≤ ws.length + i ∧ Mach wr base A pn lg nd' G' ∧ Lay ps ws' nd' G' ∧ Below base w wr))
  case atStart => exact ⟨0, 0, ws, nd, G, rfl, rfl, ⟨by omega, by simpa using AM.out.2.laid.tri.zero, by simp, by omega, AM.out.1, AM.out.2, Below.refl _ _⟩⟩
  case round =>
    clear AM
    obtain ⟨s, i, ws', nd', G', rfl, rfl, hA⟩ := hrel
    by_cases hiL : i < L
    · have hi : (i : Int) < (L : Int) := by omega
      have hil : i < p.length := by have := AB.out; omega
      obtain ⟨x, hx⟩ : ∃ x, p[i]? = some x := ⟨_, List.getElem?_eq_getElem hil⟩
      have hx256 : x < 256 := AB.out.2.2.2.2.2.2.1 x (List.mem_of_getElem? hx)
      have htk : p.take (i + 1) = p.take i ++ [x] := by
        rw [List.take_add_one, hx]; rfl
      have hdr : p.drop i = x :: p.drop (i + 1) := by
        rw [List.drop_eq_getElem_cons hil]; congr 1
        have := List.getElem?_eq_getElem hil
        rw [hx] at this; cases this; rfl
      have hib : (i : Int) + 1 < 9223372036854775808 := by have := AB.out; omega
      have AI : Aside (i < L ∧ p.take (i + 1) = p.take i ++ [x] ∧ p.drop i = x :: p.drop (i + 1) ∧ x < 256) := ⟨hiL, htk, hdr, hx256⟩
      rcases AL.out wr hA.out.2.2.2.2.2.2 with e | ⟨pb, po, rfl, hc⟩
      · rw [e] at hil; simp at hil
      have cx := hc i x hx
      obtain ⟨g, cap, M, k0, c0, c1, c2, c3, h1, h2, h3, h4⟩ := hA.out.2.2.2.2.1.parts
      have hs' : s < 1048576 := by have := at_lt hA.out.2.1; have := hA.out.2.2.2.2.2.1.laid.small; omega
      have HM : Aside (Mp wr M k0 G' ∧ s < 9223372036854775808) := ⟨h3, by omega⟩
      clear hil hx hx256 htk hdr hiL h1 h2 h3 h4 c0 c1 c2 hc hs'
      cases hr : G' s x with
      | some t =>
        go_wp2_with (first | (at_lookup; refine wpList_look wr rfl _ _ rfl M k0 s x G' (by rfl) HM.out.1 (by rfl) HM.out.2 AI.out.2.2.2 _ hr ?_))
        have hg := hA.out; have hi := AI.out
        go_roundg (L - (i + 1))
        case measure => omega
        case rel =>
          obtain ⟨a1, a2, a3, a4, a5, a6, a7⟩ := hA.out
          have ht := (a6.laid.map a2 x t).1 hr
          refine ⟨t, i + 1, ws', nd', G', rfl, by go_num, ⟨by omega, by rw [hi.2.1]; exact ht, ?_, by omega, a5, a6, a7⟩⟩
          rw [← a3, hi.2.2.1, lw, hi.2.1]
          unfold ins
          rw [if_pos (List.mem_of_getElem? ht)]
      | none =>
        obtain ⟨n, hn⟩ := hA.out.2.2.2.2.2.1.laid.node hA.out.2.1
        obtain ⟨N, hN⟩ : ∃ N, nd'.length = N := ⟨_, rfl⟩
        have hNw : N = ws'.length := by rw [← hN]; exact hA.out.2.2.2.2.2.1.laid.len
        have hdp : n.dp < 1048576 := by
          rw [hA.out.2.2.2.2.2.1.laid.dp hA.out.2.1 hn]
          have := AB.out; have : (p.take i).length ≤ p.length := by rw [List.length_take]; omega
          omega
        have hadd := add_c s x N n wr hA.out.2.2.2.2.1 AI.out.2.2.2 hN (by have := hA.out; have := AB.out; have := AI.out; omega) hn hdp (by have := hA.out.2.2.2.2.2.2.size; have := AB.out; omega)
        obtain ⟨hlay, hnew⟩ := hA.out.2.2.2.2.2.1.add hA.out.2.1 hr hn AI.out.2.2.2 (by have := hA.out; have := AB.out; have := AI.out; omega)
        have AY : Aside (Lay ps (ws' ++ [p.take i ++ [x]]) (nd' ++ [⟨s, x, n.dp + 1, 0, 0⟩]) (upd G' s x N) ∧ p.take i ++ [x] ∉ ws' ∧ N = ws'.length) := ⟨by rw [hNw]; exact hlay, hnew, hNw⟩
        clear hn hN hNw hdp hlay hnew
        go_wp2_with (first | (at_lookup; refine wpList_look wr rfl _ _ rfl M k0 s x G' (by rfl) HM.out.1 (by rfl) HM.out.2 AI.out.2.2.2 _ hr ?_) | (go_at_call 24; refine hadd.mono ?_; rintro e2 w2 ⟨rfl, hm2, hb2⟩))
        have hg := hA.out; have hi := AI.out
        go_roundg (L - (i + 1))
        case measure => omega
        case rel =>
          obtain ⟨a1, a2, a3, a4, a5, a6, a7⟩ := hA.out
          obtain ⟨y1, y2, y3⟩ := AY.out
          refine ⟨N, i + 1, _, _, _, rfl, by go_num, ⟨by omega, ?_, ?_, by simp; omega, hm2, y1, a7.trans hb2⟩⟩
          · rw [hi.2.1, y3]; exact at_new _ _
          · rw [← a3, hi.2.2.1, lw, hi.2.1]
            unfold ins
            rw [if_neg y2]
    · have hi : ¬ (i : Int) < (L : Int) := by omega
      have hiL2 : i = L := by have := hA.out; omega
      have htake : p.take i = p := List.take_of_length_le (by have := AB.out; omega)
      have hdrop : p.drop i = [] := List.drop_eq_nil_of_le (by have := AB.out; omega)
      have hA2 : Aside (ws'[s]? = some p ∧ ws' = lw ws [] p ∧ Mach wr base A pn lg nd' G' ∧ Lay ps ws' nd' G' ∧ Below base w wr) := by
        obtain ⟨a1, a2, a3, a4, a5, a6, a7⟩ := hA.out
        rw [htake, hdrop, lw] at a3
        exact ⟨by rw [htake] at a2; exact a2, a3, a5, a6, a7⟩
      obtain ⟨n, hn⟩ := hA2.out.2.2.2.1.laid.node hA2.out.1
      obtain ⟨g, cap, c2, hbg, _, hset⟩ := hA2.out.2.2.1.node
      obtain ⟨⟨x0, hx0⟩, hfz, hm3, hb3, _⟩ := hset s 4 n { n with ou := 2 ^ k } (.int .u64 ((2 ^ k : Nat) : Int)) hn (by decide) rfl
      have hmk := hA2.out.2.2.2.1.mark hA2.out.1 hn AB.out.2.2.1 (by have := AB.out; omega)
      obtain ⟨N, hN⟩ : ∃ N, nd'.length = N := ⟨_, rfl⟩
      rw [hN] at c2
      have hsN : (s : Int) < (N : Int) := by have := at_lt hn; omega
      have A3 : Aside (Mach (wr.setCell ⟨g, s * 5 + 4, none⟩ (.int .u64 ((2 ^ k : Nat) : Int))).drew base A pn lg (nd'.set s { n with ou := 2 ^ k }) G' ∧ Below base wr (wr.setCell ⟨g, s * 5 + 4, none⟩ (.int .u64 ((2 ^ k : Nat) : Int))).drew ∧ Lay (ps ++ [p]) ws' (nd'.set s { n with ou := 2 ^ k }) G') := ⟨hm3.drew, hb3.drew, by rw [AB.out.1]; exact hmk⟩
      obtain ⟨z, hz⟩ : ∃ z : Nat, 2 ^ k = z := ⟨_, rfl⟩
      rw [hz] at A3
      have hsh : IntKind.u64.wrap (2 ^ min k 64) = (z : Int) := by
        have h64 := AB.out.2.1
        have hz2 : z < 2 ^ 64 := by rw [← hz]; exact Nat.pow_lt_pow_right (by decide) h64
        rw [Nat.min_eq_left (by omega), IntKind.wrap_u64, ← hz]
        have : ((2 : Int) ^ k) = ((2 ^ k : Nat) : Int) := by push_cast; rfl
        rw [this, hz]
        omega
      clear hset hm3 hb3 hmk hN hn hiL hiL2 htake hdrop hA hz hbg
      go_wp2_with fail
      go_region
      clear hsh hx0 hfz c2
      generalize (wr.setCell ⟨g, s * 5 + 4, none⟩ (.int .u64 (z : Int))).drew = w3 at A3 ⊢
      obtain ⟨f1, m1, b1⟩ := A3.out.1.longest mx
      obtain ⟨g', cap', M', k', c0, c1, c2, c3, h1, h2, h3, h4⟩ := A3.out.1.parts
      have A4 : Aside (Mach (w3.setCell ⟨A, 1, none⟩ (.int .i64 (mx : Int))) base A pn mx (nd'.set s { n with ou := z }) G' ∧ Below base w3 (w3.setCell ⟨A, 1, none⟩ (.int .i64 (mx : Int)))) := ⟨m1, b1⟩
      have fin : ∀ w4, w4 = w3.setCell ⟨A, 1, none⟩ (.int .i64 (mx : Int)) → ∃ nd' G', Mach w4 base A pn mx nd' G' ∧ Lay (ps ++ [p]) (lw ws [] p) nd' G' ∧ Below base w w4 := by
        rintro w4 rfl
        exact ⟨_, _, A4.out.1, by rw [← hA2.out.2.1]; exact A3.out.2.2, (hA2.out.2.2.2.2.trans A3.out.2.1).trans A4.out.2⟩
      clear m1 b1 h1 h2 h3 h4 c0 c2 c3
      by_cases hml : lg < L
      · have hmi : (lg : Int) < (L : Int) := by omega
        have hmx : Aside (mx = L) := (show mx = L by have := AX.out; omega)
        clear A4 hml
        have AF : Aside _ := fin
        clear fin
        go_wp2_with fail
        first | go_end0 | (refine bodyPost_ret (results_none rfl _ _ _) rfl ?_) | go_ret2
        exact ⟨rfl, AF.out _ (by rw [hmx.out])⟩
      · have hmi : ¬ (lg : Int) < (L : Int) := by omega
        have hmx : Aside (mx = lg) := (show mx = lg by have := AX.out; omega)
        clear A4 hml
        have AF : Aside _ := fin
        clear fin
        go_wp2_with fail
        first | go_end0 | (refine bodyPost_ret (results_none rfl _ _ _) rfl ?_) | go_ret2
        exact ⟨rfl, AF.out _ (by rw [hmx.out])⟩
end Go.Proofs.YtbepbjbbhenphabDoor

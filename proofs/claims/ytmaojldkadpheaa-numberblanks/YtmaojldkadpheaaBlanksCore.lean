/-
  NumberBlanks, behind the opening of its arguments: the call answers true, and what lay in memory is as it was.
  Conditions: the bytes lie side by side.
-/
import Derived.Test.YtmaojldkadpheaaApp
import Derived.Test.YtmaojldkadpheaaBlank
import Derived.Deep.CutBlock
import Derived.Deep.DeepCutAuto
namespace Go.Proofs.Ytmaojldkadpheaa
open Go.RowKit
set_option linter.unusedVariables false
theorem Apd.nil (w : World) : Apd w w w.heap.size (.slice none 0 0) [] := ⟨World.ownsRow_nil w _ _ _, Below.refl _ _, Nat.le_refl _⟩
theorem Apd.alloc {w0 w : World} {base : Nat} {v : Value} {l : List Nat} (h : Apd w0 w base v l) (o : Obj) : Apd w0 (w.alloc o) base v l :=
  ⟨h.own.alloc o, h.bel.alloc h.le o, Nat.le_trans h.le (by show _ ≤ (w.heap.push _).size; simp)⟩
theorem Apd.slice {w w' : World} {base : Nat} {v' : Value} {l : List Nat} (h : Apd w w' base v' l) : ∃ a L c, v' = .slice a L c ∧ l.length = L ∧ L ≤ c ∧ c < 9223372036854775808 ∧ Lies w' a l ∧ (a = none → L = 0 ∧ c = 0) := by
  obtain ⟨a, c, hv, hl, hn⟩ := h.shape
  refine ⟨a, _, c, hv, rfl, ?_, ?_, hl, hn⟩
  · rcases h.own.2 with ⟨hv2, h0⟩ | ⟨g, c2, cur, hv2, hg, hh, hc, hm, hs, ht⟩
    · omega
    · rw [hv] at hv2
      have := (Value.slice.inj hv2).2.2; omega
  · rcases h.own.2 with ⟨hv2, h0⟩ | ⟨g, c2, cur, hv2, hg, hh, hc, hm, hs, ht⟩
    · rw [hv] at hv2
      have := (Value.slice.inj hv2).2.2; omega
    · rw [hv] at hv2
      have := (Value.slice.inj hv2).2.2
      unfold maxLen at hm; omega
/-- The digits that are written of some bytes. -/
def dg (l : List Nat) : List Nat := l.map fun x => 48 + x % 8
theorem dg_digs (l : List Nat) : Digs (dg l) := by
  intro x hx
  obtain ⟨y, _, rfl⟩ := List.mem_map.1 hx
  omega
theorem dg_more {l : List Nat} {k x : Nat} (h : l[k]? = some x) : dg (l.take (k + 1)) = dg (l.take k) ++ [48 + x % 8] := by
  obtain ⟨hk, he⟩ := List.getElem?_eq_some_iff.1 h
  rw [List.take_succ_eq_append_getElem hk, he]; simp [dg]
/-- The padding that is written behind. -/
def pq (B k : Nat) : List Nat := (List.range k).map fun i => 32 * (B / 2 ^ i % 2)
theorem pq_more (B k : Nat) : pq B (k + 1) = pq B k ++ [32 * (B / 2 ^ k % 2)] := by unfold pq; rw [List.range_succ]; simp
theorem pq_len (B k : Nat) : (pq B k).length = k := by simp [pq]
theorem pq_pads (B k : Nat) : pads (pq B k) = true := by
  unfold pads
  rw [List.all_eq_true]
  intro x hx
  obtain ⟨i, _, rfl⟩ := List.mem_map.1 hx
  rcases Nat.mod_two_eq_zero_or_one (B / 2 ^ i) with h | h <;> rw [h] <;> rfl
theorem pq_oct (B k : Nat) : Oct (pq B k) := by
  intro x hx
  obtain ⟨i, _, rfl⟩ := List.mem_map.1 hx
  have := Nat.mod_lt (B / 2 ^ i) (show 0 < 2 by decide)
  omega
theorem pad_bit (B i : Nat) (hB : B < 256) : 32 * bits .and .u8 ((B : Int) / 2 ^ i) 1 % 256 = ((32 * (B / 2 ^ i % 2) : Nat) : Int) := by
  have e : (B : Int) / 2 ^ i = ((B / 2 ^ i : Nat) : Int) := by push_cast; rfl
  have h : B / 2 ^ i < 256 := Nat.lt_of_le_of_lt (Nat.div_le_self ..) hB
  rw [e, show (1 : Int) = ((1 : Nat) : Int) from rfl, u8_and_nat _ 1 h (by decide), Nat.and_one_is_mod]
  have := Nat.mod_lt (B / 2 ^ i) (show 0 < 2 by decide)
  omega
theorem Digs.oct {l : List Nat} (h : Digs l) : Oct l := fun x hx => by have := h x hx; omega
set_option maxRecDepth 100000 in
set_option maxHeartbeats 4000000 in
theorem blanks_core (w : World) (a : Option Addr) (l : List Nat) (L cap A B : Nat) (hL : l.length = L) (hA : A < 256) (hB : B < 256) (hlc : L ≤ cap) (hcap : cap < 9223372036854775808) (hl : Lies w a l) :
    Calls Try.prog 7 #[.slice a L cap, .int .u8 A, .int .u8 B] w fun e w' => e = .returned (.bool true) ∧ Below w.heap.size w w' := by
  have AL : Aside (l.length = L ∧ L < 9223372036854775808) := ⟨hL, by omega⟩
  clear hL hlc hcap
  go_enter Try.func7, Try.ntmps7
  go_upto_block 0 with fail
  go_cut [7] (fun s7 wc => ∃ (v : Value) (P : List Nat), s7 = v ∧ Apd w wc w.heap.size v P ∧ Digs P ∧ P.length ≤ 20)
  case first =>
    obtain ⟨M, hM⟩ : ∃ M, min L 20 = M := ⟨_, rfl⟩
    have AM : Aside (min L 20 = M) := hM
    clear hM
    go_wp2_with fail
    go_loopg [7, 8] M (fun g sp si wr => ∃ (k : Nat) (v : Value), k + g = M ∧ si = .int .i64 k ∧ sp = v ∧ Apd w wr w.heap.size v (dg (l.take k)))
    case atStart => exact ⟨0, _, by omega, rfl, rfl, Apd.nil w⟩
    case round =>
      obtain ⟨k, v, hk, rfl, rfl, ap⟩ := hrel
      have AK : Aside (k + gk = M) := hk
      clear hk
      by_cases hlt : k < M
      · have h1 : (k : Int) < (L : Int) := by have := AM.out; omega
        have h2 : (k : Int) < 20 := by have := AM.out; omega
        have hkl : k < l.length := by rw [AL.out.1]; omega
        have hx := List.getElem?_eq_getElem hkl
        obtain ⟨x, hxx⟩ : ∃ x, l[k] = x := ⟨_, rfl⟩
        rw [hxx] at hx
        have hl2 := hl.below ap.bel
        rcases hl2 with rfl | ⟨b, o, rfl, hc⟩
        · simp at hkl
        have hcell := hc k x hx
        have hmore := dg_more hx
        obtain ⟨d, hd⟩ : ∃ d, 48 + x % 8 = d := ⟨_, rfl⟩
        have hdi : (48 : Int) + (x : Int) % 8 = (d : Int) := by omega
        rw [hd] at hmore
        have AH : Aside (dg (l.take (k + 1)) = dg (l.take k) ++ [d]) := hmore
        have ap2 := ap.alloc (.cells #[.int .u8 (d : Int)] 5)
        have hlen : (dg (l.take k)).length + [d].length ≤ 140737488355328 := by
          have : (dg (l.take k)).length ≤ k := by unfold dg; rw [List.length_map]; exact List.length_take_le ..
          have : k < 20 := by omega
          simp only [List.length_cons, List.length_nil]; omega
        clear hmore hc hx hxx hkl hd
        go_wp2_with (refine wpList_app w _ rfl (.tmp 30) (.tmp 37) rfl w.heap.size _ _ rfl ap2 (some ⟨wr.heap.size, 0, none⟩) [d] 1 1 rfl rfl (fun h => by cases h) (lies_new wr d) hlen ?_; intro v1 w1 hp1 hb1)
        have hk := AK.out
        go_roundg (gk - 1)
        case measure => omega
        case rel => exact ⟨k + 1, v1, by omega, by go_num, rfl, by rw [AH.out]; exact hp1⟩
      · have hcase : (k : Int) < (L : Int) ∧ ¬ (k : Int) < 20 ∨ ¬ (k : Int) < (L : Int) := by have := AM.out; omega
        have hlen : (dg (l.take k)).length ≤ 20 := by
          have h1 : (dg (l.take k)).length ≤ k := by unfold dg; rw [List.length_map]; exact List.length_take_le ..
          have h2 := AK.out
          have h3 := AM.out
          omega
        rcases hcase with ⟨h1, h2⟩ | h1
        all_goals
          go_wp2_with fail
          go_meet
          case rel => exact ⟨_, _, rfl, ap, dg_digs _, hlen⟩
  case rest =>
    obtain ⟨v, P, rfl, ap, hP, hP20⟩ := hcut
    clear hl AL
    obtain ⟨pa, M, pc, rfl, hM, hMc, hpc, lp, hpn⟩ := ap.slice
    have belc := ap.bel
    have lec := ap.le
    have co := octal_c pa P M pc wc hM hP.oct hMc hpc lp
    rw [oct_plain P hP hP20] at co
    obtain ⟨F, hF⟩ : ∃ F, fold 0 P = F := ⟨_, rfl⟩
    rw [hF] at co
    have co : Calls Try.prog 9 #[.slice pa M pc] wc fun e w' => e = .returned (.tuple #[.int .u64 F, .bool true]) ∧ wc = w' := co
    obtain ⟨N, hN⟩ : ∃ N, A % 9 = N := ⟨_, rfl⟩
    have hNi : (A : Int) % 9 = (N : Int) := by omega
    obtain ⟨N2, hN2⟩ : ∃ N2, B % 9 = N2 := ⟨_, rfl⟩
    have hN2i : (B : Int) % 9 = (N2 : Int) := by omega
    have AN : Aside (N < 9 ∧ N2 < 9 ∧ P.length = M ∧ M ≤ 20 ∧ M ≤ pc ∧ pc < 9223372036854775808 ∧ fold 0 P = F ∧ (pa = none → M = 0 ∧ pc = 0)) := ⟨by omega, by omega, hM, by omega, hMc, hpc, hF, hpn⟩
    clear ap hM hMc hpc hP20 hF hN hN2 hpn
    go_wp2_with fail
    refine co.mono ?_
    rintro e u ⟨rfl, rfl⟩
    clear co
    go_wp2_with fail
    go_loopg [11, 12] N (fun g sb si wr => ∃ (k : Nat) (v : Value), k + g = N ∧ si = .int .i64 k ∧ sb = v ∧ Apd wc wr wc.heap.size v (List.replicate k 32))
    case atStart => exact ⟨0, _, by omega, rfl, rfl, Apd.nil wc⟩
    case round =>
      obtain ⟨k, v, hk, rfl, rfl, ap⟩ := hrel
      have AK : Aside (k + gk = N) := hk
      clear hk
      by_cases hlt : k < N
      · have h1 : (k : Int) < (N : Int) := by omega
        have ap2 := ap.alloc (.cells #[.int .u8 32] 5)
        have hlen : (List.replicate k 32).length + [32].length ≤ 140737488355328 := by
          have := AN.out
          simp only [List.length_replicate, List.length_cons, List.length_nil]; omega
        have hkb : (k : Int) + 1 < 100 := by have := AN.out; omega
        go_wp2_with (refine wpList_app wc _ rfl (.tmp 51) (.tmp 52) rfl wc.heap.size _ _ rfl ap2 (some ⟨wr.heap.size, 0, none⟩) [32] 1 1 rfl rfl (fun h => by cases h) (lies_new wr 32) hlen ?_; intro v1 w1 hp1 hb1)
        have hk := AK.out
        go_roundg (gk - 1)
        case measure => omega
        case rel => exact ⟨k + 1, v1, by omega, by go_num, rfl, by rw [List.replicate_succ']; exact hp1⟩
      · have h1 : ¬ (k : Int) < (N : Int) := by omega
        have hkN : k = N := by have := AK.out; omega
        subst hkN
        have lp2 := lp.below ap.bel
        have hlen : (List.replicate k 32).length + P.length ≤ 140737488355328 := by
          have := AN.out
          simp only [List.length_replicate]; omega
        clear AK hlt
        go_upto_block 4 with (refine wpList_app wc _ rfl (.tmp 54) (.tmp 55) rfl wc.heap.size _ _ rfl ap pa P M pc AN.out.2.2.1 rfl AN.out.2.2.2.2.2.2.2 lp2 hlen ?_; intro v1 w1 hp1 hb1)
        clear ap lp2 hb1 hlen
        obtain ⟨R, hR⟩ : ∃ R, List.replicate k 32 ++ P = R := ⟨_, rfl⟩
        rw [hR] at hp1
        have AR : Aside (List.replicate k 32 ++ P = R ∧ R.length = k + M) := ⟨hR, by rw [← hR, List.length_append, List.length_replicate, AN.out.2.2.1]⟩
        clear hR
        go_wp2_with fail
        go_loopg [11, 13] N2 (fun g sb si wr => ∃ (i : Nat) (v : Value), i + g = N2 ∧ si = .int .i64 i ∧ sb = v ∧ Apd wc wr wc.heap.size v (R ++ pq B i))
        case atStart => exact ⟨0, _, by omega, rfl, rfl, by rw [show pq B 0 = [] from rfl, List.append_nil]; exact hp1⟩
        case round =>
          clear hp1
          obtain ⟨i, v, hi, rfl, rfl, ap⟩ := hrel
          have AI : Aside (i + gk = N2) := hi
          clear hi
          by_cases hlt : i < N2
          · have h1 : (i : Int) < (N2 : Int) := by omega
            have hi8 : i < 8 := by have := AN.out; omega
            have hi8i : (i : Int) % 8 = (i : Int) := by omega
            have hq := pad_bit B i hB
            have hmore := pq_more B i
            obtain ⟨d, hd⟩ : ∃ d, 32 * (B / 2 ^ i % 2) = d := ⟨_, rfl⟩
            rw [hd] at hq hmore
            have AH : Aside (R ++ pq B (i + 1) = R ++ pq B i ++ [d]) := by show _ = _; rw [hmore, List.append_assoc]
            have ap2 := ap.alloc (.cells #[.int .u8 (d : Int)] 5)
            have hlen : (R ++ pq B i).length + [d].length ≤ 140737488355328 := by
              have h1 := AN.out
              have h2 := AR.out
              simp only [List.length_append, pq_len, List.length_cons, List.length_nil]; omega
            have hib : (i : Int) + 1 < 100 := by omega
            clear hmore hd
            go_wp2_with (refine wpList_app wc _ rfl (.tmp 64) (.tmp 72) rfl wc.heap.size _ _ rfl ap2 (some ⟨wr.heap.size, 0, none⟩) [d] 1 1 rfl rfl (fun h => by cases h) (lies_new wr d) hlen ?_; intro v2 w2 hp2 hb2)
            have hi := AI.out
            go_roundg (gk - 1)
            case measure => omega
            case rel => exact ⟨i + 1, v2, by omega, by go_num, rfl, by rw [AH.out]; exact hp2⟩
          · have h1 : ¬ (i : Int) < (N2 : Int) := by omega
            obtain ⟨T, hT⟩ : ∃ T, R ++ pq B i = T := ⟨_, rfl⟩
            have hres := oct_within k P (pq B i) hP (by have := AN.out; omega) (pq_pads B i)
            rw [AR.out.1, hT, AN.out.2.2.2.2.2.2.1] at hres
            have hTo : Oct T := by
              rw [← hT, ← AR.out.1]
              intro x hx
              rcases List.mem_append.1 hx with hx | hx
              · rcases List.mem_append.1 hx with hx | hx
                · rw [(List.mem_replicate.1 hx).2]; decide
                · exact hP.oct x hx
              · exact pq_oct B i x hx
            have hTl : T.length ≤ 1000 := by
              have h2 := AR.out
              have h3 := AN.out
              have h4 := AI.out
              rw [← hT, List.length_append, pq_len]; omega
            rw [hT] at ap
            have bel5 := belc.trans (ap.bel.mono lec)
            have le5 := ap.le
            have lp5 := lp.below ap.bel
            obtain ⟨ba, S, bc, rfl, hS, hSc, hbc, lb, hbn⟩ := ap.slice
            have co2 := octal_c ba T S bc wr hS hTo hSc hbc lb
            rw [hres.1] at co2
            have co2 : Calls Try.prog 9 #[.slice ba S bc] wr fun e w' => e = .returned (.tuple #[.int .u64 F, .bool true]) ∧ wr = w' := co2
            have AS : Aside (T.length = S ∧ S ≤ 1000 ∧ (ba = none → S = 0 ∧ bc = 0) ∧ oct (T ++ [56]) = none ∧ Oct T) := ⟨hS, by omega, hbn, hres.2, hTo⟩
            clear ap hS hSc hbc hbn hres hTo hTl hT AR AI hlt lp
            go_wp2_with fail
            refine co2.mono ?_
            rintro e u ⟨rfl, rfl⟩
            clear co2
            have hm1 := Apd.made wr wr.heap.size (Nat.le_refl _)
            have lb1 := lb.below ((Below.refl wr.heap.size wr).alloc (Nat.le_refl _) (.cells #[] 5))
            go_wp2_with (first
              | (refine wpList_app wr _ rfl (.tmp 80) (.tmp 81) rfl wr.heap.size _ [] rfl hm1 ba T S bc AS.out.1 rfl AS.out.2.2.1 lb1 (by have := AS.out; simp only [List.length_nil]; omega) ?_; intro v6 w6 hp6 hb6; rw [List.nil_append] at hp6)
              | (refine wpList_app wr _ rfl (.tmp 82) (.tmp 83) rfl wr.heap.size _ T rfl (hp6.alloc (.cells #[.int .u8 56] 5)) (some ⟨w6.heap.size, 0, none⟩) [56] 1 1 rfl rfl (fun h => by cases h) (lies_new w6 56) (by have := AS.out; simp only [List.length_cons, List.length_nil]; omega) ?_; intro v7 w7 hp7 hb7; obtain ⟨ca, S7, cc, rfl, hS7, hSc7, hcc7, lc7, _⟩ := hp7.slice))
            have ho7 : Oct (T ++ [56]) := by
              intro x hx
              rcases List.mem_append.1 hx with hx | hx
              · exact AS.out.2.2.2.2 x hx
              · simp at hx; omega
            have co3 := octal_c ca (T ++ [56]) S7 cc w7 hS7 ho7 hSc7 hcc7 lc7
            rw [AS.out.2.2.2.1] at co3
            have co3 : Calls Try.prog 9 #[.slice ca S7 cc] w7 fun e w' => e = .returned (.tuple #[.int .u64 0, .bool false]) ∧ w7 = w' := co3
            have bel7 := bel5.trans (hp7.bel.mono (Nat.le_trans lec le5))
            have lp7 := lp5.below hp7.bel
            clear hp6 hp7 hb6 hb7 lb lb1 lp5 hm1 hS7 hSc7 hcc7 lc7 ho7 AS bel5 le5 belc lec
            refine co3.mono ?_
            rintro e u ⟨rfl, rfl⟩
            clear co3
            have AP : Aside (P.length = M ∧ M ≤ 20 ∧ fold 0 P = F) := ⟨AN.out.2.2.1, AN.out.2.2.2.1, AN.out.2.2.2.2.2.2.1⟩
            clear AN hNi hN2i hA hB h1
            go_wp2_with fail
            go_loopg [18, 19] M (fun g sv si wr => ∃ j : Nat, j + g = M ∧ si = .int .i64 j ∧ sv = .int .u64 (fold 0 (P.take j) : Nat) ∧ w7 = wr)
            case atStart => exact ⟨0, by omega, rfl, by rw [List.take_zero, fold_nil]; rfl, rfl⟩
            case round =>
              obtain ⟨j, hj, rfl, rfl, rfl⟩ := hrel
              have AJ : Aside (j + gk = M) := hj
              clear hj
              by_cases hlt : j < M
              · have h1 : (j : Int) < (M : Int) := by omega
                have hkl : j < P.length := by rw [AP.out.1]; exact hlt
                have hx := List.getElem?_eq_getElem hkl
                have hx2 := hP _ (List.getElem_mem hkl)
                have hmore : fold 0 (P.take (j + 1)) = 8 * fold 0 (P.take j) + (P[j] - 48) := by
                  rw [List.take_succ_eq_append_getElem hkl, fold_append, fold_cons, fold_nil]
                have hlt2 := fold_lt (P.take j) 0 0 (fun x hx => hP x (List.mem_of_mem_take hx)) (by decide)
                have hpw := pow_60 (j := 0 + (P.take j).length) (by have h1 := List.length_take_le j P; have h2 := AP.out; omega)
                obtain ⟨x, hxx⟩ : ∃ x, P[j] = x := ⟨_, rfl⟩
                rw [hxx] at hx hx2 hmore
                obtain ⟨V, hV⟩ : ∃ V, fold 0 (P.take j) = V := ⟨_, rfl⟩
                rw [hV] at hmore hlt2 ⊢
                have hVb : V < 1152921504606846976 := Nat.lt_of_lt_of_le hlt2 hpw
                have AH : Aside (fold 0 (P.take (j + 1)) = 8 * V + (x - 48)) := hmore
                rcases lp7 with hlp | ⟨b, o, hab, hc⟩
                · rw [hlp] at hkl; simp at hkl
                cases hab
                have hcell := hc j x hx
                have hjb : (j : Int) + 1 < 100 := by have := AP.out; omega
                have hx48 : (48 : Int) ≤ (x : Int) := by omega
                have hx55 : (x : Int) ≤ 55 := by omega
                clear hc hx hxx hkl hmore hlt2 hpw hV
                go_wp2_with fail
                have hj := AJ.out
                go_roundg (gk - 1)
                case measure => omega
                case rel => exact ⟨j + 1, by omega, by go_num, by rw [AH.out]; go_num, rfl⟩
              · have h1 : ¬ (j : Int) < (M : Int) := by omega
                have hV : fold 0 (P.take j) = F := by
                  rw [List.take_of_length_le (by have h2 := AJ.out; have h3 := AP.out; omega)]; exact AP.out.2.2
                rw [hV]
                have e1 : ((F : Int) == (F : Int)) = true := by simp
                clear hV
                go_wp2_with fail
                go_ret
                exact ⟨rfl, bel7⟩
end Go.Proofs.Ytmaojldkadpheaa

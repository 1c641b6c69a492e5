/-
  RingRepeat holds: what Repeat tells from d back are the d bytes at the end, again and again, n of them, and they stand behind the others then; where there is no byte d back it tells none, and nothing has changed.
  Conditions: none; the bytes are any list, of which the first 300 are taken, d and n any from 0 to 255.
-/
import Derived.Test.YtlipkncnomndnaaRows
import Derived.Test.YtlipkncnomndnaaRep
import Derived.Test.YtlipkncnomndnaaOpen
import Derived.WalkKit
import Derived.ProofKit
import Derived.OpenShut
import Derived.ShutString
import Derived.ChangeOld
import Derived.Below
import Derived.Deep.CutBlock
import Derived.Deep.DeepCutAuto
import Derived.Deep.LoopGhost
import Derived.Deep.RegionHeld3
import Derived.Laws.AppendOwn
namespace Go.Proofs.Ytlipkncnomndnaa.ringRepeat
open Go.ChangeShapes Go.WideShapes Go.ChangeAt Go.RowKit
open Go.ChangeMaps (open_string shut_string)
set_option linter.unusedVariables false

theorem own : ownKnob Try.prog.godebug = none := by kernel_rfl
theorem laidOut : laidOutB Try.prog = true := by kernel_rfl


theorem cells5 : Try.prog.cellsOf 5 = 1 := by kernel_rfl
theorem below_drewN {B : Nat} {w u : World} (h : Below B w u) (n : Nat) : Below B w (u.drewN n) := ⟨h.os, h.tape, h.output, h.size, h.block⟩
theorem Below.le {B C : Nat} {w u : World} (h : Below C w u) (hB : B ≤ C) : Below B w u := ⟨h.os, h.tape, h.output, h.size, fun k hk => h.block k (by omega)⟩
theorem came_take {w : World} {a : Option Addr} {bs : List Int} (h : Came w a bs) (n : Nat) : Came w a (bs.take n) := by
  rcases h with rfl | ⟨b, o, ha, hb, hc⟩
  · left; simp
  · right
    refine ⟨b, o, ha, hb, fun i z hz => hc i z ?_⟩
    rw [List.getElem?_take] at hz
    split at hz
    · exact hz
    · cases hz
theorem came_lst {w u : World} {a : Option Addr} {bs : List Int} {cap : Nat} (h : Came w a bs) (hb : Below w.heap.size w u) (hl : bs.length ≤ cap) : Lst u (.slice a bs.length cap) bs := by
  rcases h with rfl | ⟨b, o, ha, hbw, hc⟩
  · exact ⟨_, _, rfl, hl, Or.inl rfl⟩
  · exact ⟨_, _, rfl, hl, Or.inr ⟨b, o, ha, fun i z hz => (hb.cell (p := ⟨b, o + i, none⟩) hbw).trans (hc i z hz)⟩⟩
/-- What is known of a row of the call's own that has a byte at least. -/
theorem own_form {w : World} {base n : Nat} {v : Value} {l : List Int} (h : w.ownsRow base 5 1 v n (vb l)) (hl : l.length = n) (h1 : 1 ≤ n) :
    ∃ G c, v = .slice (some ⟨G, 0, none⟩) n c ∧ base ≤ G ∧ G < w.heap.size ∧ n ≤ c ∧ c ≤ maxLen ∧ ∀ j z, l[j]? = some z → w.cell? ⟨G, j, none⟩ = some (.int .u8 z) := by
  rcases h.2 with ⟨hv, hn⟩ | ⟨G, c, cur, hv, hg, hh, hc, hm, _, _⟩
  · omega
  · refine ⟨G, c, hv, hg, (Array.getElem?_eq_some_iff.1 hh).1, hc, hm, fun j z hz => ?_⟩
    have := h.cells (g := G) (by rw [hv]; rfl) j (.int .u8 z) (by rw [vb_get, hz]; rfl)
    rw [add_lit, Nat.zero_add] at this
    exact this
set_option maxRecDepth 100000 in
set_option maxHeartbeats 1000000 in
theorem core (w : World) (a : Option Addr) (bs : List Int) (cap d n : Nat) (hd : d < 256) (hn : n < 256) (hbc : bs.length ≤ cap) (hcap : cap ≤ maxLen) (hr : Came w a bs) :
    Calls Try.prog 6 #[.slice a bs.length cap, .int .u8 (d : Int), .int .u8 (n : Int)] w fun e w' => e = .returned (.bool true) ∧ Below w.heap.size w w' := by
  unfold maxLen at hcap
  obtain ⟨L, hL⟩ : ∃ L, bs.length = L := ⟨_, rfl⟩
  rw [hL] at hbc ⊢
  have AL : Aside (bs.length = L ∧ L ≤ 2 ^ 63 - 1 ∧ L ≤ cap ∧ cap ≤ 2 ^ 63 - 1 ∧ Came w a bs) := ⟨hL, by omega, hbc, hcap, hr⟩
  clear hcap hbc hL hr
  go_enter Try.func6, Try.ntmps6
  go_wp2_with fail
  refine (new_r 300 _ (by decide) (by decide)).mono ?_
  rintro e w1 ⟨rfl, r1, bel1, hsz⟩
  have hH1 : w.heap.size + 2 ≤ w1.heap.size := by omega
  clear hsz
  go_upto_if 26 with fail
  go_cut [0] from 24 (fun s0 wc => wc = w1 ∧ ∃ cs : List Int, cs.length ≤ 300 ∧ cs.length ≤ cap ∧ s0 = .slice a cs.length cap ∧ Came w a cs)
  case first =>
    by_cases h3 : 300 < L
    · have h3' : (300 : Int) < (L : Int) := by omega
      have h3c : (300 : Int) ≤ (cap : Int) := by have := AL.out; omega
      have hr := AL.out.2.2.2.2
      have hl3 : (bs.take 300).length = 300 := by rw [List.length_take, AL.out.1]; omega
      have hr3 := came_take hr 300
      rcases hr with rfl | ⟨b, o, rfl, hbw, hc⟩
      · exfalso; have := AL.out.1; simp at this; omega
      clear hc
      go_wp2_with fail
      go_meet
      case rel => exact ⟨rfl, bs.take 300, by omega, by rw [hl3]; omega, by rw [hl3], hr3⟩
    · have h3' : ¬ (300 : Int) < (L : Int) := by omega
      go_wp2_with fail
      go_meet
      case rel => exact ⟨rfl, bs, by have := AL.out; omega, by have := AL.out; omega, by rw [AL.out.1], AL.out.2.2.2.2⟩
  case rest =>
    obtain ⟨rfl, cs, hl3, hlc, rfl, hr⟩ := hcut
    have ACap : Aside (cs.length ≤ cap ∧ cap ≤ 2 ^ 63 - 1) := ⟨hlc, AL.out.2.2.2.1⟩
    clear AL hlc
    clear bs L
    obtain ⟨L, hL⟩ : ∃ L, cs.length = L := ⟨_, rfl⟩
    have AL : Aside (cs.length = L) := hL
    rw [hL] at hl3 ⊢
    clear hL
    go_wp2_with fail
    go_loopg [9] L (fun g si wr => ∃ k : Nat, k + g = L ∧ si = .int .i64 k ∧ Rg wr (w.heap.size + 1) w.heap.size 300 (lastN 300 (cs.take k)) ∧ Below w.heap.size w wr)
    case atStart => exact ⟨0, by omega, rfl, by simpa [lastN] using r1, bel1⟩
    case round =>
      clear r1 bel1 hH1
      obtain ⟨k, hkg, rfl, rk, belk⟩ := hrel
      have AK : Aside (k + gk = L) := hkg
      by_cases hk : k < L
      · have hki : (k : Int) < (L : Int) := by omega
        have hkl : k < cs.length := by rw [AL.out]; exact hk
        rcases hr with rfl | ⟨b, o, rfl, hb, hc⟩
        · simp at hkl
        have g0 := (belk.cell (p := ⟨b, o + k, none⟩) hb).trans (hc k _ (List.getElem?_eq_getElem hkl))
        have AT : Aside (lastN 300 (lastN 300 (cs.take k) ++ [cs[k]]) = lastN 300 (cs.take (k + 1))) := by
          have := lastN_two 300 (cs.take k) [] [cs[k]]
          simp only [List.append_nil] at this
          show _ = _
          rw [this, List.take_succ_eq_append_getElem hkl]
        generalize cs[k] = z at *
        clear hkl hc hkg
        go_wp2_with fail
        refine (put_r z _ rk).mono ?_
        rintro e w2 ⟨rfl, r2, t2⟩
        rw [AT.out] at r2
        go_wp2_with fail
        have AK := AK.out
        go_roundg (gk - 1)
        case measure => omega
        case rel => exact ⟨k + 1, by omega, by go_num, r2, belk.trans (t2.below (by omega) (Nat.le_refl _))⟩
      · have hki : ¬ (k : Int) < (L : Int) := by omega
        have hkL : k = L := by omega
        subst hkL
        rw [List.take_of_length_le (by rw [AL.out]; omega), lastN_all (by rw [AL.out]; exact hl3)] at rk
        clear hki hkg AK hk
        have belT := belk.size
        have hHwr := rk.lt
        by_cases hno : d < 1 ∨ k < d
        · have hrep := repeat_no (d : Int) (n : Int) wr rk (by rw [AL.out]; omega)
          have hlst := fun u hb => came_lst (u := u) hr hb ACap.out.1
          rw [AL.out] at hlst
          by_cases hd0 : d = 0
          · have hrep := repeat_no (0 : Int) (n : Int) wr rk (by omega)
            have hdz : ((d : Int) == 0) = true := by simp; omega
            clear hno
            go_wp2_with fail
            refine hrep.mono ?_
            rintro e w2 ⟨rfl, rfl⟩
            clear hrep
            go_wp2_with fail
            refine (tail_r _ rk).mono ?_
            rintro e w2 ⟨⟨v2, rfl, hv2⟩, bel2⟩
            have bel3 := belk.trans (Below.le bel2 belT)
            go_wp2_with fail
            refine (same_c _ _ cs _ hv2.lst (hlst _ bel3) (by rw [AL.out]; omega)).mono ?_
            rintro e w3 ⟨rfl, m3, rfl⟩
            go_wp2_with fail
            go_ret
            exact ⟨rfl, below_drewN bel3 _⟩
          · have hdz : ((d : Int) == 0) = false := by simp; omega
            have hkd : (k : Int) < (d : Int) := by omega
            clear hno
            go_wp2_with fail
            refine hrep.mono ?_
            rintro e w2 ⟨rfl, rfl⟩
            clear hrep
            go_wp2_with fail
            refine (tail_r _ rk).mono ?_
            rintro e w2 ⟨⟨v2, rfl, hv2⟩, bel2⟩
            have bel3 := belk.trans (Below.le bel2 belT)
            go_wp2_with fail
            refine (same_c _ _ cs _ hv2.lst (hlst _ bel3) (by rw [AL.out]; omega)).mono ?_
            rintro e w3 ⟨rfl, m3, rfl⟩
            go_wp2_with fail
            go_ret
            exact ⟨rfl, below_drewN bel3 _⟩
        · have hd1 : 1 ≤ d := by omega
          have hdk : d ≤ k := by omega
          clear hno
          rcases hr with rfl | ⟨b, o, rfl, hb, hc⟩
          · exfalso; have := AL.out; simp at this; omega
          have hrep := repeat_yes d n wr rk hd1 (by rw [AL.out]; exact hdk) (by omega)
          have hdz : ((d : Int) == 0) = false := by simp; omega
          have hkd : ¬ (k : Int) < (d : Int) := by omega
          have hnn : ((n : Int) != (n : Int)) = false := by simp
          generalize hg : wr.heap.size = g at *
          go_wp2_with fail
          refine hrep.mono ?_
          rintro e w2 ⟨rfl, hx2, r2, gr2⟩
          have bel2 : Below w.heap.size w w2 := belk.trans (gr2.below (by omega) (Nat.le_refl _) (by omega))
          have hg2 := hx2.lt
          clear hrep rk belk gr2 hg
          have hck : ∀ i z, cs[i]? = some z → w2.cell? ⟨b, o + i, none⟩ = some (.int .u8 z) := fun i z hz => (bel2.cell (p := ⟨b, o + i, none⟩) hb).trans (hc i z hz)
          have AC : Aside (∀ i z, cs[i]? = some z → w2.cell? ⟨b, o + i, none⟩ = some (.int .u8 z)) := hck
          clear hck hc
          go_wp2_with fail
          go_loopg [12] n (fun gg si wr => ∃ i : Nat, i + gg = n ∧ si = .int .i64 i ∧ ∃ m, wr = w2.drewN m)
          case atStart => exact ⟨0, by omega, rfl, 0, rfl⟩
          case round =>
            obtain ⟨i, hig, rfl, m, rfl⟩ := hrel
            have AK : Aside (i + gk = n) := hig
            by_cases hi : i < n
            · have hii : (i : Int) < (n : Int) := by omega
              obtain ⟨r, hrr⟩ : ∃ r, i % d = r := ⟨_, rfl⟩
              have hrd : r < d := by rw [← hrr]; exact Nat.mod_lt _ (by omega)
              obtain ⟨p, hp⟩ : ∃ p, k - d = p := ⟨_, rfl⟩
              obtain ⟨y, hy⟩ : ∃ y, p + r = y := ⟨_, rfl⟩
              have hyl : y < cs.length := by rw [AL.out]; omega
              have hxi : (cyc cs d n)[i]? = some (cs[y]) := by
                rw [cyc_get _ _ _ _ hi, AL.out, hrr, hp, hy]
                simp [List.getElem?_eq_getElem hyl]
              have gx := hx2.byte hxi
              have gy := AC.out y _ (List.getElem?_eq_getElem hyl)
              generalize cs[y] = z at *
              have hzz : (z != z) = false := by simp
              have hp1 : (k : Int) - (d : Int) = (p : Int) := by omega
              have hr1 : (i : Int) % (d : Int) = (r : Int) := by rw [← hrr]; rfl
              have hr2 : Int.tmod (i : Int) (d : Int) = (r : Int) := by rw [← hrr]; rfl
              have hy1 : (p : Int) + (r : Int) = (y : Int) := by omega
              have hy2 : (y : Int) < (k : Int) := by omega
              have hy3 : (0 : Int) ≤ (y : Int) := by omega
              have hd0 : ¬ (d : Int) = 0 := by omega
              clear hyl hxi hig hrr hp hy
              go_wp2_with fail
              go_quiet (fail)
              go_wp2_with fail
              have AK := AK.out
              go_roundg (gk - 1)
              case measure => omega
              case rel => exact ⟨i + 1, by omega, by go_num, _, rfl⟩
            · have hii : ¬ (i : Int) < (n : Int) := by omega
              have hin : i = n := by omega
              subst hin
              clear hig AK hi
              obtain ⟨i0, hi0, hz0, hz1, hz2⟩ := info_parts info5
              have rq := r2.drewN m
              have belq := below_drewN bel2 m
              have hxq : Cells (w2.drewN m) g (vb (cyc cs d i)).toArray 5 := hx2
              have ACq : Aside (∀ i z, cs[i]? = some z → (w2.drewN m).cell? ⟨b, o + i, none⟩ = some (.int .u8 z)) := AC.out
              clear r2 bel2 hx2 AC hg2
              generalize w2.drewN m = wq at *
              have hgq := hxq.lt
              obtain ⟨X, hX⟩ : ∃ X, cyc cs d i = X := ⟨_, rfl⟩
              have hXl : X.length = i := by rw [← hX, cyc_length]
              rw [hX] at rq hxq
              have hHq := rq.lt
              have hszq := belq.size
              have hbq : b < wq.heap.size := Nat.lt_of_lt_of_le hb hszq
              have hmade := World.ownsRow_made (base := wq.heap.size) (e := 5) (size := 1) wq #[] 0 (Nat.le_refl _) (by decide) rfl
              have AN : Aside ((vb cs).length = k * 1 ∧ ∀ j u, (vb cs)[j]? = some u → (wq.alloc (Obj.cells #[] 5)).cell? ((⟨b, o, none⟩ : Addr).add j) = some u) := by
                refine ⟨by rw [vb_length, AL.out]; omega, fun j u hu => ?_⟩
                rw [add_lit, World.cell?_of_block (a := ⟨b, o + j, none⟩) (Below.heap_alloc wq (Obj.cells #[] 5) b hbq)]
                rw [vb_get] at hu
                cases hz : cs[j]? with
                | none => simp [hz] at hu
                | some z => simp [hz] at hu; rw [← hu]; exact ACq.out j z hz
              have AXL : Aside (X.length = i) := hXl
              clear hX hXl ACq
              go_wp2_with (at_builtin; refine wpList_append_own _ rfl (.tmp 105) (.tmp 106) 35 rfl wq.heap.size 5 i0 (.int .u8 0) 1 1 Try.underlying35 hi0 hz0 hz1 hz2 rfl (by decide) _ _ _ rfl hmade ⟨b, o, none⟩ k cap (vb cs) rfl AN.out.1 AN.out.2 vb_one (by unfold maxLen; omega) (by omega) (by simp) ?_)
              intro v3 w3 hown3 hgrow3 _
              have bel3 : Below wq.heap.size wq w3 := ⟨hgrow3.os, hgrow3.tape, hgrow3.output, Nat.le_trans (by simp) hgrow3.size, fun t ht => (hgrow3.block t (by simp; omega) (fun e => by injection e with e; have : t = wq.heap.size := e; omega)).trans (Below.heap_alloc wq _ t ht)⟩
              have hx3 := hxq.below bel3 hgq
              have AX : Aside ((vb X).length = i * 1 ∧ ∀ j u, (vb X)[j]? = some u → w3.cell? ((⟨g, 0, none⟩ : Addr).add j) = some u) := by
                refine ⟨by rw [vb_length, AXL.out]; omega, fun j u hu => ?_⟩
                rw [add_lit, Nat.zero_add, hx3.cell, List.getElem?_toArray]
                exact hu
              have AG3 : Aside (_ ∧ _) := And.intro hown3 hgrow3
              have hle3 : wq.heap.size ≤ w3.heap.size := bel3.size
              have hown3' : w3.ownsRow wq.heap.size 5 1 v3 k (vb cs) := by simpa using hown3
              clear hmade AN hgrow3 hown3
              go_wp2_with (at_builtin; refine wpList_append_own _ rfl (.tmp 107) (.tmp 108) 35 rfl wq.heap.size 5 i0 (.int .u8 0) 1 1 Try.underlying35 hi0 hz0 hz1 hz2 rfl (by decide) _ _ _ rfl hown3' ⟨g, 0, none⟩ i i (vb X) rfl AX.out.1 AX.out.2 vb_one (by unfold maxLen; omega) (by omega) hle3 ?_)
              intro v4 w4 hown4 hgrow4 _
              have hown4' : w4.ownsRow wq.heap.size 5 1 v4 (k + i) (vb (cs ++ X)) := by
                have e : vb (cs ++ X) = vb cs ++ vb X := by simp [vb]
                rw [e]; exact hown4
              have bel4q : Below wq.heap.size wq w4 := bel3.grown hgrow4 hle3 (fun t ht => (hown3'.lt t ht).1)
              obtain ⟨G, c4, rfl, hG1, hG2, hc4, hcm4, hcells4⟩ := own_form hown4' (by rw [List.length_append, AL.out, AXL.out]) (by omega)
              have r4 := rq.below bel4q hHq.1 hHq.2
              have bel4 : Below w.heap.size w w4 := belq.trans (Below.le bel4q hszq)
              have hsz4 := bel4.size
              obtain ⟨M, hM⟩ : ∃ M, k + i = M := ⟨_, rfl⟩
              rw [hM] at hc4 ⊢
              obtain ⟨T, hT⟩ : ∃ T, lastN 300 (cs ++ X) = T := ⟨_, rfl⟩
              rw [hT] at r4
              obtain ⟨q, hq⟩ : ∃ q, M - 300 = q := ⟨_, rfl⟩
              have hlM : (cs ++ X).length = M := by rw [List.length_append, AL.out, AXL.out, hM]
              have hTl : T.length = M - q := by rw [← hT, lastN_length, hlM]; omega
              have hTd : T = (cs ++ X).drop q := by rw [← hT, lastN, hlM, hq]
              have ATl : Aside (T.length = M - q) := hTl
              have AS : Aside (∀ wc, Below w4.heap.size w4 wc → Lst wc (.slice (some ⟨G, q, none⟩) (M - q) (c4 - q)) T) := fun wc hbw => ⟨_, _, by rw [hTl], by omega, Or.inr ⟨G, q, rfl, fun j z hz => by
                rw [hTd, List.getElem?_drop] at hz
                exact (hbw.cell (p := ⟨G, q + j, none⟩) hG2).trans (hcells4 _ _ hz)⟩⟩
              have hcq : ¬ c4 = q := by omega
              have hM2 : M ≤ 600 := by omega
              have AC4 : Aside (M ≤ c4 ∧ c4 ≤ maxLen) := ⟨hc4, hcm4⟩
              have hw1 : IntKind.i64.wrap ((M : Int) - 300) = (M : Int) - 300 := by rw [IntKind.wrap_i64]; omega
              have hw2 : IntKind.i64.wrap ((q : Nat) : Int) = (q : Int) := by rw [IntKind.wrap_i64]; omega
              have hq0 : (0 : Int) ≤ (q : Int) := by omega
              have hqM : (q : Int) ≤ (M : Int) := by omega
              have hqM' : q ≤ M := by omega
              clear hTl hTd hlM hT hM hown4 hown4' hgrow4 hown3' AG3 AX hx3 bel3 bel4q hcells4 hxq rq belq hcm4 hc4
              go_upto_region 21 with fail
              by_cases h3 : 300 < M
              · have h3i : (M : Int) - 300 = (q : Int) := by omega
                have h3j : (0 : Int) < (q : Int) := by omega
                have h3n : 0 < q := by omega
                have h3k : ¬ (q : Int) < 0 := by omega
                have h3l : ¬ (q : Int) ≤ 0 := by omega
                clear hq
                go_region_law
                  (first
                    | (go_simp; go_at_call 19; refine (tail_r _ (by first | exact r4.drew | exact r4 | exact r4.drewN _)).mono ?_; rintro e w5 ⟨⟨v5, rfl, hv5⟩, bel5⟩; dsimp only)
                    | (go_simp; go_at_call 16; refine (same_c _ _ T _ (by first | exact hv5.lst | exact hv5.lst.drewN _) (by exact AS.out _ ⟨bel5.os, bel5.tape, bel5.output, bel5.size, bel5.block⟩) (by rw [ATl.out]; omega)).mono ?_; rintro e w6 ⟨rfl, m6, rfl⟩; dsimp only))
                all_goals
                  go_wp2_with fail
                  go_ret
                  exact ⟨rfl, below_drewN ((below_drewN bel4 1).trans (Below.le bel5 hsz4)) _⟩
              · have h3i : (M : Int) - 300 ≤ 0 := by omega
                have h3j : ¬ (0 : Int) < (M : Int) - 300 := by omega
                have h3m : ¬ (300 : Int) < (M : Int) := by omega
                obtain rfl : q = 0 := by omega
                clear hq
                go_region_law
                  (first
                    | (go_simp; go_at_call 19; refine (tail_r _ (by first | exact r4.drew | exact r4 | exact r4.drewN _)).mono ?_; rintro e w5 ⟨⟨v5, rfl, hv5⟩, bel5⟩; dsimp only)
                    | (go_simp; go_at_call 16; refine (same_c _ _ T _ (by first | exact hv5.lst | exact hv5.lst.drewN _) (by exact AS.out _ ⟨bel5.os, bel5.tape, bel5.output, bel5.size, bel5.block⟩) (by rw [ATl.out]; omega)).mono ?_; rintro e w6 ⟨rfl, m6, rfl⟩; dsimp only))
                all_goals
                  go_wp2_with fail
                  go_ret
                  exact ⟨rfl, below_drewN ((below_drewN bel4 1).trans (Below.le bel5 hsz4)) _⟩

theorem walk {H : Type} {enc : TypeId × Value → H} (w : World) (base : Nat) (v0 : Value) (d0 : DataW H) (p0 : List MemPlace) (o0 : Value.okWide Try.prog w .any base 35 v0) (h0 : DataW.Trod enc Try.prog w 0 (fun _ => true) true 35 v0 d0 p0) (a1 : Int) (w1 : (Lit.int .u8 a1).wf = true) (a2 : Int) (w2 : (Lit.int .u8 a2).wf = true) :
    Calls Try.prog 6 #[v0, .int .u8 a1, .int .u8 a2] w fun e w' => e = .returned (.bool true) ∧ Below w.heap.size w w' := by
  have hx1 := bounds_u8 w1
  have hx2 := bounds_u8 w2
  obtain ⟨d, rfl⟩ : ∃ d : Nat, a1 = (d : Int) := ⟨a1.toNat, by omega⟩
  obtain ⟨n, rfl⟩ : ∃ n : Nat, a2 = (n : Int) := ⟨a2.toNat, by omega⟩
  obtain ⟨a, bs, cap, rfl, h1, h2, h3⟩ := open_came Try.underlying35 Try.underlying5 cells5 o0 h0
  exact core w a bs cap d n (by omega) (by omega) h1 h2 h3

set_option maxRecDepth 100000 in
theorem lifted (os : Os) (started : os.Started) (H : Type) (enc : TypeId × Value → H) :
    ReturnsInHanded {} Try.checked os 6 .any (Rows.ringRepeatSpec.pre6 enc Try.prog Try.f6 Rows.ringRepeatRow.domain false) (Rows.ringRepeatSpec.post enc Try.prog Try.f6 false true false false) := by
  refine returnsInHanded_of_change (C := Try.checked) own started (by kernel_rfl) Try.func6
    (ChangeSpec.witness6 (enc := enc) (C := Try.checked) false ⟨#[], #[.slice none 0 0, .int .u8 0, .int .u8 0], []⟩ 8 (by kernel_rfl) (by kernel_rfl) (by kernel_rfl) (by kernel_rfl)) ?_
  intro W base args ds gs before hval0 hW hcnd _
  have hval : ∀ (j : Nat) t v, Try.f6.params[j]? = some t → args[j]? = some v → Value.okWide Try.prog W .any base t v := hval0
  have hW' := hW
  obtain ⟨p, q, hA0, hV, rfl, hfz, hnd⟩ := hW
  have hA : DataW.TrodAll enc Try.prog W 0 (fun _ => true) true Try.f6.params.toList args.toList ds p := hA0
  rw [Try.params6] at hA hval
  obtain ⟨v0, vs0, d0, ds0, p0, q0, hargs, rfl, rfl, h0, r0⟩ := trodAll_cons hA
  obtain ⟨v1, vs1, d1, ds1, p1, q1, rfl, rfl, rfl, h1, r1⟩ := trodAll_cons r0
  obtain ⟨v2, vs2, d2, ds2, p2, q2, rfl, rfl, rfl, h2, r2⟩ := trodAll_cons r1
  obtain ⟨rfl, rfl, rfl⟩ := trodAll_nil r2
  obtain rfl : args = #[v0, v1, v2] := by cases args; simp_all
  obtain ⟨rfl, rfl⟩ := trodVars_none hV
  have o0 := hval 0 35 v0 rfl rfl
  have lt0 : ∀ x ∈ p0, x.block < W.heap.size := by obtain ⟨m, hm⟩ := h0; exact DataW.trod_lt m _ _ _ hm
  obtain ⟨a1, rfl, rfl, rfl, w1⟩ := open_int Try.underlying5 (hval 1 5 v1 rfl rfl) h1
  obtain ⟨a2, rfl, rfl, rfl, w2⟩ := open_int Try.underlying5 (hval 2 5 v2 rfl rfl) h2
  clear hA0 hval0
  refine (walk W base v0 d0 p0 o0 h0 a1 w1 a2 w2).mono fun e W' ⟨he, bel⟩ => ?_
  subst he
  exact ⟨_, rfl, _, _, _, [], _, [], hW', trodAll_mk1 (shut_bool Try.underlying4 _), (trodAll_cons_mk (Below.trod laidOut (by kernel_rfl) (of_decide_eq_true (by kernel_rfl)) h0 bel lt0) (trodAll_cons_mk (shut_int Try.underlying5 w1) (trodAll_cons_mk (shut_int Try.underlying5 w2) trodAll_mk0))), rfl, bel.frame _, fun h => by cases h⟩

theorem over : Rows.ringRepeatRow.holds Try.pinned (OpenSpec.ofChange Rows.ringRepeatSpec) :=
  OpenClaim.holds_of_wide 6 Try.f6 rfl rfl rfl rfl rfl rfl rfl ⟨rfl, rfl, rfl, rfl, rfl⟩ rfl rfl rfl rfl rfl (by kernel_rfl) Try.func6 (by kernel_rfl)
    (of_decide_eq_true (by kernel_rfl)) (by unfold Func.isWrapper; first | (rw [if_pos (by decide +kernel)]; kernel_rfl) | (rw [if_neg (by decide +kernel)]; exact ⟨rfl, rfl⟩))
    (fun os started H enc _ => lifted os started H enc)

end Go.Proofs.Ytlipkncnomndnaa.ringRepeat
namespace Go.Proofs.Ytlipkncnomndnaa
/-- The statement. -/
theorem ringRepeat_holds : Rows.RingRepeatSaid := ringRepeat.over
#print axioms ringRepeat_holds
end Go.Proofs.Ytlipkncnomndnaa

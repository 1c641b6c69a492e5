/-
  PatternsFails, behind the opening of its argument: the call answers true, and what lay in memory is as it was.
  Conditions: the library's table holds what its text lays there; the patterns lie in memory.
-/
import Derived.Test.YtbepbjbbhenphaaDoorBegins
namespace Go.Proofs.YtbepbjbbhenphaaDoor
open Go.RowKit
set_option linter.unusedVariables false
set_option maxHeartbeats 1000000 in
/-- The empty text is an end of every text. -/
theorem ends_zero (ab d n : Nat) (b : Option Addr) (w : World) (hn : n < 1048576) :
    Calls Tryd.prog 30 #[.slice (some ⟨ab, 0, none⟩) n n, .slice b 0 d] w fun r w' => r = .returned (.bool true) ∧ Drawn w w' := by
  have hs := same_c (some ⟨ab, 0, none⟩) b [] [] 0 0 0 d w rfl rfl (by decide) (Or.inl rfl) (Or.inl rfl)
  rw [decide_eq_true rfl] at hs
  have hni : (n : Int) < 1048576 := by omega
  have hn0 : (0 : Int) ≤ (n : Int) := by omega
  clear hn
  go_enter Tryd.func30, Tryd.ntmps30
  go_wp2_with (go_at_call 20; refine hs.mono ?_; rintro e2 w2 ⟨rfl, hd2⟩)
  go_ret
  exact ⟨rfl, hd2⟩
/-- No end of a word that is longer than its fail's word begins a pattern. -/
theorem no_longer {ps : List (List Nat)} {u : List Nat} {k : Nat} (hk : 1 ≤ k) (hlt : k < u.length - (lsf (words ps) u.tail).length) : begB ps (u.drop k) = false := by
  cases hq : begB ps (u.drop k) with
  | false => rfl
  | true =>
    exfalso
    have hne : u.drop k ≠ [] := fun e => by have := congrArg List.length e; rw [List.length_drop] at this; simp at this; omega
    have hm := (begB_words hne).1 hq
    have hsuf : u.drop k <:+ u.tail := by
      rw [← List.drop_one, show k = 1 + (k - 1) by omega, ← List.drop_drop]
      exact List.drop_suffix _ _
    have := (lsf_max hm hsuf).length_le
    rw [List.length_drop] at this
    omega
theorem take_mem {ps : List (List Nat)} {u : List Nat} (h : u ∈ words ps) (k : Nat) : u.take k ∈ words ps := by
  rcases words_mem_iff.1 h with rfl | ⟨p, hp, hpre⟩
  · simpa using h
  · exact words_mem_iff.2 (Or.inr ⟨p, hp, (List.take_prefix _ _).trans hpre⟩)
set_option maxRecDepth 100000 in
set_option maxHeartbeats 8000000 in
theorem fails_core (w : World) (hT : Tab w) (a : Option Addr) (ps : List (List Nat)) (L C : Nat) (hp : Rows2 w a ps) (hL : ps.length = L) (hLC : L ≤ C) (hC : C * 24 < 140737488355328) (ho : Octs ps) (hz : a = none → C = 0) :
    Calls Tryd.prog 8 #[.slice a L C] w fun e w' => e = .returned (.bool true) ∧ Below w.heap.size w w' := by
  obtain ⟨H, hH⟩ : ∃ H, w.heap.size = H := ⟨_, rfl⟩
  have AB : Aside (Tab w ∧ Rows2 w a ps ∧ ps.length = L ∧ L ≤ C ∧ C * 24 < 140737488355328 ∧ Octs ps ∧ (a = none → C = 0) ∧ w.heap.size = H) := ⟨hT, hp, hL, hLC, hC, ho, hz, hH⟩
  have cop := copy_c a ps L C w hp hL hLC (by omega)
  rw [hH]
  clear hT hp hL hLC hC ho hz hH
  go_enter Tryd.func8, Tryd.ntmps8
  go_wp2_with fail
  refine cop.mono ?_
  rintro e2 w2 ⟨v2, rfl, hc2⟩
  obtain ⟨a2, C2, hv2, hL2, hr2, hz2⟩ := hc2.rows
  rw [AB.out.2.2.1] at hv2 hL2
  subst hv2
  have b2 : Below H w w2 := by have := hc2.bel; rw [AB.out.2.2.2.2.2.2.2] at this; exact this
  have s2 : H ≤ w2.heap.size := by have := hc2.bel.size; rw [AB.out.2.2.2.2.2.2.2] at this; exact this
  clear cop hc2
  by_cases hck : chk ps = 0
  · have hbuild := build_ok a2 ps L C2 w2 hr2 AB.out.2.2.1 hL2 (by have := AB.out; omega) AB.out.2.2.2.2.2.1 hz2 hck
    have AG : Aside (Good ps) := chk_good hck
    clear hr2 hz2 hL2 hck
    go_wp2_with fail
    refine hbuild.mono ?_
    rintro e3 w3 ⟨A, rfl, nd, G, hm3, hf3, hb3⟩
    obtain ⟨base, hbase⟩ : ∃ base, base = w2.heap.size := ⟨_, rfl⟩
    rw [← hbase] at hm3
    obtain ⟨X, hX⟩ : ∃ X, longest ps = X := ⟨_, rfl⟩
    rw [hX] at hm3
    have hbw3 : Below H w w3 := b2.trans (hb3.mono s2)
    have hb3w : Below w.heap.size w w3 := by rw [AB.out.2.2.2.2.2.2.2]; exact hbw3
    have A3 : Aside (Mach w3 base A L X nd G ∧ Full ps nd G ∧ Below w.heap.size w w3) := ⟨hm3, hf3, hb3w⟩
    obtain ⟨N, hN⟩ : ∃ N, (words ps).length = N := ⟨_, rfl⟩
    have AN : Aside ((words ps).length = N ∧ N < 1048576 ∧ 0 < N) := ⟨hN, by rw [← hN]; exact hf3.laid.small, by rw [← hN]; exact hf3.laid.tri.pos⟩
    clear hbuild hm3 hf3 hb3 b2 s2 hbw3 hb3w hbase hX hN
    go_wp2_with fail
    go_loopg [5] N (fun g si wr => ∃ s : Nat, si = .int .i64 s ∧ Aside (s + g = N + 1 ∧ 1 ≤ s ∧ s ≤ N ∧ Below w3.heap.size w3 wr))
    case atStart => exact ⟨1, rfl, ⟨by omega, by omega, by have := AN.out; omega, Below.refl _ _⟩⟩
    case round =>
      obtain ⟨s, rfl, hA⟩ := hrel
      have AW : Aside (Mach wr base A L X nd G ∧ Below w.heap.size w wr) := ⟨A3.out.1.below hA.out.2.2.2, A3.out.2.2.trans (hA.out.2.2.2.mono A3.out.2.2.size)⟩
      have hst := fun (W : World) (hW : Mach W base A L X nd G) => states_c W hW N (by rw [A3.out.2.1.laid.len]; exact AN.out.1)
      by_cases hsN : s < N
      · have hs : (s : Int) < (N : Int) := by omega
        obtain ⟨u, hu⟩ : ∃ u, (words ps)[s]? = some u := ⟨_, List.getElem?_eq_getElem (by have := AN.out; omega)⟩
        obtain ⟨n, hn⟩ := A3.out.2.1.laid.node hu
        have hfin := A3.out.2.1.fin hu hn
        have hune : u ≠ [] := fun e => by
          have h1 := A3.out.2.1.laid.tri.zero
          rw [e] at hu
          have := A3.out.2.1.laid.tri.one hu h1
          have := hA.out; omega
        have hum : u ∈ words ps := List.mem_of_getElem? hu
        obtain ⟨v, hv⟩ : ∃ v, lsf (words ps) u.tail = v := ⟨_, rfl⟩
        obtain ⟨f, hf⟩ : ∃ f, n.fa = f := ⟨_, rfl⟩
        have hvf : (words ps)[f]? = some v := by rw [← hf, ← hv]; exact hfin.1
        obtain ⟨m, hm⟩ := A3.out.2.1.laid.node hvf
        have hdpf := A3.out.2.1.laid.dp hvf hm
        obtain ⟨UL, hUL⟩ : ∃ UL, u.length = UL := ⟨_, rfl⟩
        obtain ⟨VL, hVL⟩ : ∃ VL, v.length = VL := ⟨_, rfl⟩
        have hVU : VL < UL := by
          have h1 := lsf_len (words ps) u.tail
          rw [List.length_tail, hv, hVL, hUL] at h1
          have : 0 < u.length := List.length_pos_iff.2 hune
          omega
        have hULb : UL ≤ 32 := by
          have := words_short hum
          have := longest_le (B := 32) (fun p hp => (AG.out.len p hp).2)
          omega
        have hword := fun (W : World) (hW : Mach W base A L X nd G) => word_c s u UL W hW A3.out.2.1.laid hu hUL (by omega)
        have hfail := fun (W : World) (hW : Mach W base A L X nd G) => fail_c s n W hW hn
        rw [hf] at hfail
        have hdep := fun (W : World) (hW : Mach W base A L X nd G) => depth_c f m W hW hm
        rw [hdpf, hVL] at hdep
        have hwordf := fun (W : World) (hW : Mach W base A L X nd G) => word_c f v VL W hW A3.out.2.1.laid hvf hVL (by omega)
        have AU : Aside ((words ps)[s]? = some u ∧ u.length = UL ∧ v.length = VL ∧ VL < UL ∧ UL ≤ 32 ∧ lsf (words ps) u.tail = v ∧ (words ps)[f]? = some v ∧ u ∈ words ps ∧ u ≠ [] ∧ s < N ∧ f < N) := ⟨hu, hUL, hVL, hVU, hULb, hv, hvf, hum, hune, hsN, by have := at_lt hvf; have := AN.out; omega⟩
        obtain ⟨HB, hHB⟩ : ∃ HB, wr.heap.size = HB := ⟨_, rfl⟩
        have hword0 := hword wr AW.out.1
        rw [hHB] at hword0
        have hst0 := hst wr AW.out.1
        clear hu hn hfin hune hum hv hf hvf hm hdpf hUL hVL hVU hULb hword hsN
        go_upto_region 8 with (first
          | (go_at_call 15; refine hst0.mono ?_; rintro e4 w4 ⟨rfl, rfl⟩)
          | (go_at_call 18; refine hword0.mono ?_; rintro e4 w4 ⟨rfl, hbk4, hb4⟩
             have hb4' : Below wr.heap.size wr w4 := (by rw [hHB]; exact hb4)
             have hm4 := AW.out.1.below hb4'
             have hfail4 := hfail w4 hm4)
          | (go_at_call 25; refine hfail4.mono ?_; rintro e5 w5 ⟨rfl, rfl⟩))
        have A4 : Aside (Mach w4 base A L X nd G ∧ Bk w4 HB u ∧ Below w3.heap.size w3 w4) := ⟨hm4, hbk4, hA.out.2.2.2.trans (hb4'.mono hA.out.2.2.2.size)⟩
        have hst4 := hst w4 hm4
        have hdep4 := hdep w4 hm4
        have hwf4 := hwordf w4 hm4
        obtain ⟨HC, hHC⟩ : ∃ HC, w4.heap.size = HC := ⟨_, rfl⟩
        rw [hHC] at hwf4
        have AH : Aside (w4.heap.size = HC ∧ wr.heap.size = HB) := ⟨hHC, hHB⟩
        have hu0 : ((UL : Int) == 0) = false := by rw [beq_eq_false_iff_ne]; have := AU.out; omega
        have hu1 : decide (UL = 0) = false := decide_eq_false (by have := AU.out; omega)
        have hfN : decide (N ≤ f) = false := decide_eq_false (by have := AU.out; omega)
        have hfN2 : decide ((N : Int) ≤ (f : Int)) = false := decide_eq_false (by have := AU.out; omega)
        have hf0 : decide ((f : Int) < 0) = false := decide_eq_false (by omega)
        have hvu : decide (UL ≤ VL) = false := decide_eq_false (by have := AU.out; omega)
        have hvu2 : decide ((UL : Int) ≤ (VL : Int)) = false := decide_eq_false (by have := AU.out; omega)
        have hends : ∀ W : World, Lies W (some ⟨HB, 0, none⟩) u → Bk W HC v → Calls Tryd.prog 30 #[.slice (some ⟨HB, 0, none⟩) UL UL, .slice (some ⟨HC, 0, none⟩) VL VL] W fun r w' => r = .returned (.bool true) ∧ Drawn W w' := by
          intro W h1 h2
          obtain ⟨hu, hUL, hVL, hVU, hULb, hv, hvf, hum, hune, _⟩ := AU.out
          by_cases hV0 : VL = 0
          · subst hV0
            exact ends_zero HB 0 UL (some ⟨HC, 0, none⟩) W (by omega)
          · have := ends_c (some ⟨HB, 0, none⟩) (some ⟨HC, 0, none⟩) u v UL UL VL VL W h1 h2.lies hUL hVL (Nat.le_refl _) (by omega) (fun e => by cases e) (by omega)
            rw [show v.isSuffixOf u = true from List.isSuffixOf_iff_suffix.2 (by rw [← hv]; exact (lsf_suffix _ _).trans (List.tail_suffix u))] at this
            exact this
        clear hst hfail hdep hwordf hword0 hst0 hb4 hb4' hm4 hfail4 hbk4 hHC hHB
        go_upto_region 10 with (first
          | (go_at_call 15; refine hst4.mono ?_; rintro e5 w5 ⟨rfl, rfl⟩)
          | (go_at_call 24; refine hdep4.mono ?_; rintro e5 w5 ⟨rfl, rfl⟩)
          | (go_at_call 18; refine hwf4.mono ?_; rintro e6 w6 ⟨rfl, hbk6, hb6⟩
             have hl6 : Lies w6 (some ⟨HB, 0, none⟩) u := A4.out.2.1.lies.below (by rw [AH.out.1]; exact hb6)
             have hends6 := hends w6 hl6 hbk6)
          | (go_at_call 30; refine hends6.mono ?_; rintro e7 w7 ⟨rfl, hd7⟩))
        have A7 : Aside (Mach w7 base A L X nd G ∧ Cells w7 HB (vn u).toArray 5 ∧ Below w3.heap.size w3 w7) := by
          have hb6' : Below w4.heap.size w4 w6 := by rw [AH.out.1]; exact hb6
          have hc6 : Cells w6 HB (vn u).toArray 5 := Cells.below A4.out.2.1 hb6' (Cells.lt A4.out.2.1)
          refine ⟨(A4.out.1.below hb6').below (hd7.below _), ?_, (A4.out.2.2.trans (hb6'.mono A4.out.2.2.size)).trans (hd7.below _)⟩
          obtain ⟨nn, hnn⟩ := hd7
          rw [hnn]; exact Cells.drewN hc6 nn
        obtain ⟨DL, hDL⟩ : ∃ DL, UL - VL = DL := ⟨_, rfl⟩
        have AD : Aside (UL - VL = DL ∧ 1 ≤ DL ∧ DL ≤ UL) := ⟨hDL, by have := AU.out; omega, by omega⟩
        have hDi : (UL : Int) - (VL : Int) = (DL : Int) := by have := AU.out; omega
        have hDb : (DL : Int) < 33 := by have := AU.out; have := AD.out; omega
        have hdepW : Aside (∀ W : World, Mach W base A L X nd G → Calls Tryd.prog 24 #[.pointer (some ⟨A, 0, none⟩), .int .i64 (f : Int)] W fun e w' => e = .returned (.int .i64 (VL : Int)) ∧ W = w') := by
          intro W hW
          obtain ⟨m, hm⟩ := A3.out.2.1.laid.node AU.out.2.2.2.2.2.2.1
          have := depth_c f m W hW hm
          rw [A3.out.2.1.laid.dp AU.out.2.2.2.2.2.2.1 hm, AU.out.2.2.1] at this
          exact this
        clear hst4 hdep4 hwf4 hends hu0 hu1 hfN hfN2 hf0 hvu hvu2 hbk6 hb6 hl6 hends6 hd7 hDL
        go_wp2_with fail
        go_loopg [8] UL (fun g sk wr2 => ∃ k : Nat, sk = .int .i64 k ∧ Aside (k + g = UL + 1 ∧ 1 ≤ k ∧ k ≤ DL ∧ Drawn w7 wr2))
        case atStart => exact ⟨1, rfl, ⟨by omega, by omega, AD.out.2.1, Drawn.refl _⟩⟩
        case round =>
          obtain ⟨k, rfl, hK⟩ := hrel
          have hmk : Mach wr base A L X nd G := by obtain ⟨nn, hnn⟩ := hK.out.2.2.2; rw [hnn]; exact A7.out.1.drewN nn
          have hck : Cells wr HB (vn u).toArray 5 := by obtain ⟨nn, hnn⟩ := hK.out.2.2.2; rw [hnn]; exact Cells.drewN A7.out.2.1 nn
          have hdk := hdepW.out wr hmk
          by_cases hkD : k < DL
          · have hk : (k : Int) < (DL : Int) := by omega
            have hku : (k : Int) ≤ (UL : Int) := by have := AD.out; omega
            have hk0 : (0 : Int) ≤ (k : Int) := by omega
            have hUk : ¬ UL = k := by have := AD.out; have := AU.out; omega
            have hk32 : (k : Int) < 33 := by have := AD.out; have := AU.out; omega
            have hlu : Lies wr (some ⟨HB, 0, none⟩) u := Bk.lies hck
            have hlk : Lies wr (some ⟨HB, k, none⟩) (u.drop k) := by
              rcases hlu with e | ⟨b0, o0, e, hc⟩
              · exact absurd e AU.out.2.2.2.2.2.2.2.2.1
              · cases e
                have := lies_drop hc k
                rw [Nat.zero_add] at this
                exact this
            have hbw : Below w.heap.size w wr := A3.out.2.2.trans ((A7.out.2.2.trans (hK.out.2.2.2.below _)).mono A3.out.2.2.size)
            have hbeg := begins_c a (some ⟨HB, k, none⟩) ps (u.drop k) L C (UL - k) (UL - k) wr (AB.out.2.1.below hbw) AB.out.2.2.1 (by have := AB.out; omega) hlk (by rw [List.length_drop, AU.out.2.1])
            rw [no_longer hK.out.2.1 (by rw [AU.out.2.2.2.2.2.1, AU.out.2.2.1, AU.out.2.1]; have := AD.out; omega)] at hbeg
            have AK : Aside (k < DL) := hkD
            clear hmk hck hlu hlk hbw hkD
            go_wp2_with (first
              | (go_at_call 24; refine hdk.mono ?_; rintro e8 w8 ⟨rfl, rfl⟩)
              | (go_at_call 29; refine hbeg.mono ?_; rintro e9 w9 ⟨rfl, hd9⟩))
            have h1 := AK.out; have h2 := hK.out; have h3 := AD.out
            go_roundg (UL + 1 - (k + 1))
            case measure => omega
            case rel => exact ⟨k + 1, by go_num, ⟨by omega, by omega, by omega, h2.2.2.2.trans hd9⟩⟩
          · have hk : ¬ (k : Int) < (DL : Int) := by omega
            obtain ⟨wq, hwq⟩ : ∃ wq, wq = wr := ⟨_, rfl⟩
            subst hwq
            have AQ : Aside (Mach wq base A L X nd G ∧ Cells wq HB (vn u).toArray 5 ∧ Below w3.heap.size w3 wq) := ⟨hmk, hck, A7.out.2.2.trans (hK.out.2.2.2.below _)⟩
            clear hmk hck hkD
            go_upto_region 15 with (go_at_call 24; refine hdk.mono ?_; rintro e8 w8 ⟨rfl, rfl⟩)
            clear hdk hk hDi hDb
            go_cut [9] from 28 to 127 (fun s9 wc => s9 = .int .i64 0 ∧ wq = wc)
            case first =>
              go_wp2_with fail
              go_meet
              exact ⟨rfl, rfl⟩
            obtain ⟨rfl, rfl⟩ := hcut
            go_wp2_with fail
            go_loopg [9, 10] UL (fun g sa sk wr3 => ∃ j k : Nat, sa = .int .i64 j ∧ sk = .int .i64 k ∧ Aside (k + g = UL ∧ k + 1 ≤ UL ∧ (words ps)[j]? = some (u.take k)) ∧ wq = wr3)
            case atStart => exact ⟨0, 0, rfl, rfl, ⟨by omega, by have := AU.out; omega, by simpa using A3.out.2.1.laid.tri.zero⟩, rfl⟩
            case round =>
              obtain ⟨j, k, rfl, rfl, hJ, hwz⟩ := hrel
              subst hwz
              have hkl : k < u.length := by have := hJ.out; have := AU.out; omega
              obtain ⟨x, hx⟩ : ∃ x, u[k]? = some x := ⟨_, List.getElem?_eq_getElem hkl⟩
              have hx256 : x < 256 := A3.out.2.1.laid.oct u AU.out.2.2.2.2.2.2.2.1 x (List.mem_of_getElem? hx)
              have cx : wq.cell? ⟨HB, k, none⟩ = some (.int .u8 (x : Int)) := by
                rw [Cells.cell AQ.out.2.1]
                have := vn_get u k
                rw [hx] at this
                simpa using this
              have hku : (k : Int) < (UL : Int) := by have := AU.out; omega
              have hk32 : (k : Int) < 33 := by have := AU.out; omega
              have htm : u.take (k + 1) ∈ words ps := take_mem AU.out.2.2.2.2.2.2.2.1 (k + 1)
              have htk : u.take (k + 1) = u.take k ++ [x] := take_snoc hx
              have hfl : ∀ d, FailsTo (words ps) nd d := fun d s u n h1 h2 _ => (A3.out.2.1.fin h1 h2).1
              by_cases hk1 : k + 1 < UL
              · have hki : (k : Int) + 1 < (UL : Int) := by omega
                obtain ⟨j', hj'⟩ := mem_at htm
                have hnx := next_c j x j' (u.take k) wq AQ.out.1 A3.out.2.1.laid hJ.out.2.2 hx256 (hfl _) (by rw [← htk, lsf_of_mem htm]; exact hj')
                have AJ : Aside (k + 1 < UL ∧ (words ps)[j']? = some (u.take (k + 1))) := ⟨hk1, hj'⟩
                clear hkl hx hx256 htm htk hfl hk1 hj'
                go_wp2_with (go_at_call 27; refine hnx.mono ?_; rintro e9 w9 ⟨rfl, rfl⟩)
                have h1 := AJ.out; have h2 := hJ.out
                go_roundg (UL - (k + 1))
                case measure => omega
                case rel => exact ⟨j', k + 1, rfl, by go_num, ⟨by omega, by omega, h1.2⟩, rfl⟩
              · have hki : ¬ (k : Int) + 1 < (UL : Int) := by omega
                have hUk : (UL : Int) - 1 = (k : Int) := by have := hJ.out; omega
                have hux : u.take k ++ [x] = u := by rw [← htk, List.take_of_length_le (by have := AU.out; omega)]
                have hnx : ∀ W : World, Drawn wq W → Calls Tryd.prog 27 #[.pointer (some ⟨A, 0, none⟩), .int .i64 (j : Int), .int .u8 (x : Int)] W fun e w' => e = .returned (.int .i64 (s : Int)) ∧ w' = W := fun W hW => (next_c j x s (u.take k) W (by obtain ⟨nn, rfl⟩ := hW; exact AQ.out.1.drewN nn) A3.out.2.1.laid hJ.out.2.2 hx256 (hfl _) (by rw [hux, lsf_of_mem AU.out.2.2.2.2.2.2.2.1]; exact AU.out.1)).mono fun e w' h => ⟨h.1, h.2.symm⟩
                have hss : ((s : Int) != (s : Int)) = false := by simp
                have hsb : (s : Int) < 1048577 := by have := AU.out; have := AN.out; omega
                have hwk : IntKind.i64.wrap (k : Int) = (k : Int) := by rw [IntKind.wrap_i64]; omega
                have hDw : Drawn wq wq := Drawn.refl _
                have hcx := fun (n : Nat) => hDw.drewN n |>.cell cx
                by_cases hj0 : j = 0
                · have hjb : ((j : Int) != 0) = false := by rw [hj0]; rfl
                  have hjd : decide (j = 0) = true := decide_eq_true hj0
                  subst hj0
                  clear hkl hx hx256 htm htk hfl hk1 hux
                  go_upto_region 20 with fail
                  go_quiet (first | (go_at_call 27; refine Calls.quiet_of_same (hnx _ ?_); exact hDw.drewN _))
                  go_wp2_with fail
                  have h1 := AU.out; have h2 := hA.out; have h3 := AN.out
                  go_roundg (N + 1 - (s + 1))
                  case measure => omega
                  case rel => exact ⟨s + 1, by go_num, ⟨by omega, by omega, by omega, AQ.out.2.2.trans ((hDw.drewN _).below _)⟩⟩
                · have hjb : ((j : Int) != 0) = true := by rw [bne_iff_ne]; omega
                  have hjd : decide (j = 0) = false := decide_eq_false hj0
                  have hjn : ¬ (j : Int) = 0 := by omega
                  have hv0 : u.take k ≠ [] := fun e => by
                    have h1 := hJ.out.2.2
                    rw [e] at h1
                    exact hj0 (A3.out.2.1.laid.tri.one h1 A3.out.2.1.laid.tri.zero)
                  obtain ⟨nj, hnj⟩ := A3.out.2.1.laid.node hJ.out.2.2
                  have hfinj := A3.out.2.1.fin hJ.out.2.2 hnj
                  obtain ⟨fj, hfj⟩ : ∃ fj, nj.fa = fj := ⟨_, rfl⟩
                  have hfin1 : (words ps)[nj.fa]? = some (lsf (words ps) (u.take k).tail) := hfinj.1
                  rw [hfj] at hfin1
                  have hfa : ∀ W : World, Drawn wq W → Calls Tryd.prog 25 #[.pointer (some ⟨A, 0, none⟩), .int .i64 (j : Int)] W fun e w' => e = .returned (.int .i64 (nj.fa : Int)) ∧ w' = W := fun W hW => (fail_c j nj W (by obtain ⟨nn, rfl⟩ := hW; exact AQ.out.1.drewN nn) hnj).mono fun e w' h => ⟨h.1, h.2.symm⟩
                  rw [hfj] at hfa
                  have hnx2 : ∀ W : World, Drawn wq W → Calls Tryd.prog 27 #[.pointer (some ⟨A, 0, none⟩), .int .i64 (fj : Int), .int .u8 (x : Int)] W fun e w' => e = .returned (.int .i64 (f : Int)) ∧ w' = W := fun W hW => (next_c fj x f (lsf (words ps) (u.take k).tail) W (by obtain ⟨nn, rfl⟩ := hW; exact AQ.out.1.drewN nn) A3.out.2.1.laid hfin1 hx256 (hfl _) (by rw [lsf_fail A3.out.2.1.laid.tri hv0, hux, AU.out.2.2.2.2.2.1]; exact AU.out.2.2.2.2.2.2.1)).mono fun e w' h => ⟨h.1, h.2.symm⟩
                  have hff : ((f : Int) != (f : Int)) = false := by simp
                  clear hkl hx hx256 htm htk hfl hk1 hux hv0 hnj hfinj hfin1 hfj hj0
                  go_upto_region 20 with fail
                  go_quiet (first
                    | (go_at_call 27; with_reducible refine Calls.quiet_of_same (hnx _ ?_); exact hDw.drewN _)
                    | (go_at_call 27; with_reducible refine Calls.quiet_of_same (hnx2 _ ?_); exact hDw.drewN _)
                    | (go_at_call 25; refine Calls.quiet_of_same (hfa _ ?_); exact hDw.drewN _))
                  go_wp2_with fail
                  have h1 := AU.out; have h2 := hA.out; have h3 := AN.out
                  go_roundg (N + 1 - (s + 1))
                  case measure => omega
                  case rel => exact ⟨s + 1, by go_num, ⟨by omega, by omega, by omega, AQ.out.2.2.trans ((hDw.drewN _).below _)⟩⟩
      · have hs : ¬ (s : Int) < (N : Int) := by omega
        have h0 := A3.out.2.1.laid.tri.zero
        obtain ⟨n0, hn0⟩ := A3.out.2.1.laid.node h0
        have hfin0 := A3.out.2.1.fin h0 hn0
        have hfa0 : n0.fa = 0 := A3.out.2.1.laid.tri.one (by have := hfin0.1; simpa [lsf] using this) h0
        have hdp0 : n0.dp = 0 := A3.out.2.1.laid.dp h0 hn0
        have hfail : Calls Tryd.prog 25 #[.pointer (some ⟨A, 0, none⟩), .int .i64 0] wr fun e w' => e = .returned (.int .i64 0) ∧ wr = w' := by
          have := fail_c 0 n0 wr AW.out.1 hn0
          rw [hfa0] at this
          exact this
        have hdep : Calls Tryd.prog 24 #[.pointer (some ⟨A, 0, none⟩), .int .i64 0] wr fun e w' => e = .returned (.int .i64 0) ∧ wr = w' := by
          have := depth_c 0 n0 wr AW.out.1 hn0
          rw [hdp0] at this
          exact this
        have hst0 := hst wr AW.out.1
        have hwake := awake_c wr (AB.out.1.below AW.out.2)
        clear hst h0 hn0 hfin0 hfa0 hdp0 hsN
        go_wp2_with (first
          | (go_at_call 15; refine hst0.mono ?_; rintro e4 w4 ⟨rfl, rfl⟩)
          | (go_at_call 25; refine hfail.mono ?_; rintro e4 w4 ⟨rfl, rfl⟩)
          | (go_at_call 24; refine hdep.mono ?_; rintro e4 w4 ⟨rfl, rfl⟩)
          | (go_at_call 13; refine hwake.mono ?_; rintro e6 w6 ⟨rfl, hb6⟩))
        go_ret
        exact ⟨rfl, by have := AW.out.2.trans (hb6.mono AW.out.2.size); rw [AB.out.2.2.2.2.2.2.2] at this; exact this⟩
  · have hbuild := build_err a2 ps L C2 w2 hr2 AB.out.2.2.1 hL2 (by have := AB.out; omega) AB.out.2.2.2.2.2.1 hz2 hck
    obtain ⟨z, hzz⟩ : ∃ z, chk ps = z := ⟨_, rfl⟩
    rw [hzz] at hbuild hck
    have h0i : ((z : Int) == 0) = false := by rw [beq_eq_false_iff_ne]; omega
    have h0n : ((z : Int) != 0) = true := by rw [bne_iff_ne]; omega
    have AE : Aside (Below H w w2 ∧ H ≤ w2.heap.size) := ⟨b2, s2⟩
    clear hr2 hz2 hL2 hck hzz b2 s2
    go_wp2_with fail
    refine hbuild.mono ?_
    rintro e3 w3 ⟨rfl, hb3⟩
    have AF : Aside (Below H w w3 ∧ H ≤ w3.heap.size) := ⟨AE.out.1.trans (hb3.mono AE.out.2), Nat.le_trans AE.out.2 hb3.size⟩
    have hwake := awake_c w3 (AB.out.1.below (by rw [AB.out.2.2.2.2.2.2.2]; exact AF.out.1))
    clear hb3 hbuild
    go_wp2_with (go_at_call 13; refine hwake.mono ?_; rintro e6 w6 ⟨rfl, hb6⟩)
    go_ret
    exact ⟨rfl, AF.out.1.trans (hb6.mono AF.out.2)⟩
end Go.Proofs.YtbepbjbbhenphaaDoor

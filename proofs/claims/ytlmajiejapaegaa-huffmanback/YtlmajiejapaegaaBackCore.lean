/-
  HuffmanBack, behind the opening of its arguments: the call answers true, and what lay in memory is as it was.
  Conditions: the program keeps its contracts; the lengths and the symbols lie in memory.
-/
import Derived.Test.YtlmajiejapaegaaBackW
namespace Go.Proofs.Ytlmajiejapaegaa
open Go.RowKit
set_option linter.unusedVariables false
variable {PT : World → Nat → Nat → Nat → List Nat → Prop}
/-- Numbers of 16 bits that lie side by side. -/
def Su (w : World) (a : Option Addr) (l : List Nat) : Prop := l = [] ∨ ∃ (b o : Nat), a = some ⟨b, o, none⟩ ∧ ∀ (i x : Nat), l[i]? = some x → w.cell? ⟨b, o + i, none⟩ = some (.int .u16 (x : Int))
theorem u64_small' (x : Nat) (h : x < 1048576) : IntKind.u64.wrap (x : Int) = (x : Int) := by rw [IntKind.wrap_u64]; omega
theorem bit_and (c k : Nat) (h : c < 32768) : (bits .and .u32 ((c : Int) / 2 ^ k) 1 == 1) = (c / 2 ^ k % 2 == 1) := by
  have e : (c : Int) / 2 ^ k = ((c / 2 ^ k : Nat) : Int) := by push_cast; rfl
  have hb : c / 2 ^ k < 4294967296 := Nat.lt_of_le_of_lt (Nat.div_le_self _ _) (by omega)
  rw [e, show (1 : Int) = ((1 : Nat) : Int) from rfl, u32_and_nat _ 1 hb (by decide), Nat.and_one_is_mod]
  have h2 : c / 2 ^ k % 2 = 0 ∨ c / 2 ^ k % 2 = 1 := by omega
  rcases h2 with h | h <;> rw [h] <;> rfl
theorem or_u8 (v k : Nat) (hv : v < 2 ^ k) (hk : k < 8) : bits .or .u8 (v : Int) ((2 : Int) ^ k % 256) = ((v + 2 ^ k : Nat) : Int) := by
  have h1 : 2 ^ k ≤ 2 ^ 7 := Nat.pow_le_pow_right (by decide) (by omega)
  have e : (2 : Int) ^ k % 256 = ((2 ^ k : Nat) : Int) := by
    have : (2 : Int) ^ k = ((2 ^ k : Nat) : Int) := by push_cast; rfl
    rw [this]
    obtain ⟨X, hX⟩ : ∃ X : Nat, 2 ^ k = X := ⟨_, rfl⟩
    rw [hX] at h1 ⊢
    omega
  rw [e, u8_or_nat v (2 ^ k) (by omega) (by omega)]
  congr 1
  have := Nat.two_pow_add_eq_or_of_lt (i := k) (b := v) hv 1
  rw [Nat.mul_one] at this
  rw [Nat.or_comm, ← this]
  omega
/-- Noughts at the high end. -/
theorem nm_noughts (l : List Bool) (n : Nat) : nm (l ++ List.replicate n false) = nm l := by
  have : ∀ n, nm (List.replicate n false) = 0 := by
    intro n
    induction n with
    | zero => rfl
    | succ n ih => rw [List.replicate_succ]; simp [nm, ih]
  rw [nm_append, this]; simp
theorem eight_nm {line : List Bool} {j k : Nat} (h : j + k = line.length) (hk : k ≤ 8) : nm (((line ++ List.replicate 8 false).drop j).take 8) = nm (((line ++ List.replicate 8 false).drop j).take k) := by
  have e1 : (line ++ List.replicate 8 false).drop j = line.drop j ++ List.replicate 8 false := by rw [List.drop_append, show j - line.length = 0 by omega, List.drop_zero]
  have e2 : (line.drop j).length = k := by rw [List.length_drop]; omega
  rw [e1]
  generalize line.drop j = X at e2
  have e3 : (X ++ List.replicate 8 false).take k = X := by rw [← e2]; exact List.take_left
  have e4 : (X ++ List.replicate 8 false).take 8 = X ++ List.replicate (8 - k) false := by
    rw [List.take_append, List.take_of_length_le (by omega), e2, List.take_replicate, show min (8 - k) 8 = 8 - k by omega]
  rw [e3, e4]
  exact nm_noughts _ _
set_option maxRecDepth 100000 in
set_option maxHeartbeats 8000000 in
theorem back_core (hu : Hu PT) (w : World) (a : Option Addr) (zs : List Int) (L C : Nat) (hl : Lens w a zs) (hL : zs.length = L) (hLC : L ≤ C) (hC : L * 8 < 140737488355328) (hz : a = none → L = 0 ∧ C = 0)
    (xa : Option Addr) (xs : List Nat) (XL XC : Nat) (hx : Su w xa xs) (hXL : xs.length = XL) (hxb : ∀ x ∈ xs, x < 65536) :
    Calls Try.prog 6 #[.slice a L C, .slice xa XL XC] w fun e w' => e = .returned (.bool true) ∧ Below w.heap.size w w' := by
  have AB : Aside (Lens w a zs ∧ zs.length = L ∧ L ≤ C ∧ L * 8 < 140737488355328 ∧ (a = none → L = 0 ∧ C = 0)) := ⟨hl, hL, hLC, hC, hz⟩
  have AT : Aside (Su w xa xs ∧ xs.length = XL ∧ ∀ x ∈ xs, x < 65536) := ⟨hx, hXL, hxb⟩
  obtain ⟨H, hH⟩ : ∃ H, w.heap.size = H := ⟨_, rfl⟩
  have AW : Aside (w.heap.size = H) := hH
  rw [hH]
  clear hl hL hLC hC hz hx hXL hxb
  obtain ⟨e0, he0⟩ : ∃ e0, nerr zs = e0 := ⟨_, rfl⟩
  have AE : Aside (nerr zs = e0) := he0
  clear he0
  have haw : ∀ W, Calls Try.prog 13 #[] W fun e w' => e = .returned (.bool true) ∧ Below W.heap.size W w' := fun W => awake_c hu W
  go_enter Try.func6, Try.ntmps6
  by_cases hz0 : e0 = 0
  · subst hz0
    go_upto_region 2 with (first
      | (at_builtin; refine wpList_appn _ rfl (.tmp 23) (.tmp 24) rfl w (by rfl) H AW.out.symm (by rfl) a zs L C AB.out.2.1 (by rfl) AB.out.2.2.2.2 AB.out.1 (by rw [AB.out.2.1]; exact Nat.le_of_lt AB.out.2.2.2.1) ?_; intro v3 w3 h3
         obtain ⟨a3, C3, hv3, hl3, hc3, hs3⟩ := h3.shape
         rw [AB.out.2.1] at hv3 hc3
         subst hv3
         have hn3 := hu.new_ok a3 zs L C3 w3 hl3 AB.out.2.1 hc3 (by have := AB.out; omega) AE.out
         have A3 : Aside (Below w.heap.size w w3) := h3.bel
         clear h3 hl3 hc3 hs3)
      | (go_at_call 10; refine hn3.mono ?_; rintro e4 w4 ⟨T, rfl, hp4, hb4⟩))
    obtain ⟨h1, h2, h3⟩ := nerr_ok AE.out
    obtain ⟨lo, hlo⟩ : ∃ lo, w3.heap.size = lo := ⟨_, rfl⟩
    have A4 : Aside (PT w4 lo w4.heap.size T (lens zs) ∧ Below w.heap.size w w4 ∧ part (lens zs) 15 ≤ 32768 ∧ (∀ l ∈ lens zs, l ≤ 15) ∧ Okl zs ∧ (lens zs).length = L) := ⟨by rw [← hlo]; exact hp4, A3.out.trans (hb4.mono A3.out.size), by rw [← kr_part (lens_15 h1)]; exact h2, lens_15 h1, h1, by rw [lens_len]; exact AB.out.2.1⟩
    have hLs : (L : Int) ≤ 320 := by have := h1.1; have := AB.out; omega
    clear hn3 hp4 hb4 h1 h2 h3 hlo hH
    by_cases hL0 : L = 0
    · subst hL0
      go_wp2_with (go_at_call 13; refine (haw _).mono ?_; rintro e5 w5 ⟨rfl, hb5⟩)
      first | go_ret | go_ret2
      exact ⟨rfl, by rw [← AW.out]; exact A4.out.2.1.trans (hb5.mono A4.out.2.1.size)⟩
    have hLne : ((L : Int) == 0) = false := beq_eq_false_iff_ne.2 (by omega)
    have hLp : (0 : Int) < (L : Int) := by omega
    clear hL0
    obtain ⟨B4, hB4⟩ : ∃ B4, w4.heap.size = B4 := ⟨_, rfl⟩
    have AB4 : Aside (w4.heap.size = B4) := hB4
    clear hB4
    go_upto_region 6 with fail
    go_wp2_with fail
    go_loopg [7, 8, 9] 300 (fun g vl vw si wr => ∃ i : Nat, si = .int .i64 i ∧ Aside (i + g = 300 ∧ ∃ want : List Nat, want.length ≤ i ∧ Coded (lens zs) want ∧ Wr w4 wr B4 vl vw (lineOf (lens zs) want) want))
    case atStart => exact ⟨0, rfl, by omega, [], by simp, (fun s hs => by cases hs), ⟨World.ownsRow_nil _ _ _ _, World.ownsRow_nil _ _ _ _, Below.refl _ _, by rw [AB4.out]; exact Nat.le_refl _⟩⟩
    case round =>
      obtain ⟨i, rfl, hI⟩ := hrel
      obtain ⟨want, hwl, hwc, hW⟩ := hI.out.2
      have hI1 := hI.out.1
      by_cases hgo : i < XL ∧ i < 300
      · have hi1 : (i : Int) < (XL : Int) := by omega
        have hi3 : (i : Int) < 300 := by omega
        obtain ⟨x, hx⟩ : ∃ x, xs[i]? = some x := ⟨_, List.getElem?_eq_getElem (by have := AT.out; omega)⟩
        have hxb := AT.out.2.2 x (List.mem_of_getElem? hx)
        rcases AT.out.1 with e | ⟨b0, o0, rfl, hc⟩
        · rw [e] at hx; simp at hx
        have hbw : Below w.heap.size w wr := A4.out.2.1.trans (hW.bel.mono (by rw [← AB4.out]; exact A4.out.2.1.size))
        have cx : wr.cell? ⟨b0, o0 + i, none⟩ = some (.int .u16 (x : Int)) := by
          have h1 := hc i x hx
          exact (hbw.cell (p := ⟨b0, o0 + i, none⟩) (World.block_lt_of_cell? w ⟨b0, o0 + i, none⟩ h1)).trans h1
        obtain ⟨s, hs⟩ : ∃ s, x % L = s := ⟨_, rfl⟩
        have hsL : s < L := by rw [← hs]; exact Nat.mod_lt _ (by omega)
        have hsI : (x : Int).tmod (L : Int) = (s : Int) := by rw [← hs, Int.tmod_eq_emod_of_nonneg (by omega)]; omega
        obtain ⟨n, hn⟩ : ∃ n, (lens zs)[s]? = some n := ⟨_, List.getElem?_eq_getElem (by rw [A4.out.2.2.2.2.2]; exact hsL)⟩
        have hn15 := A4.out.2.2.2.1 n (List.mem_of_getElem? hn)
        have hpt : PT wr lo w4.heap.size T (lens zs) := hu.below A4.out.1 (by rw [AB4.out]; exact hW.bel) (Nat.le_refl _)
        have AI : Aside (i + gk = 300 ∧ i < XL ∧ i < 300 ∧ want.length ≤ i ∧ Coded (lens zs) want ∧ Wr w4 wr B4 u7 u8 (lineOf (lens zs) want) want ∧ (lens zs)[s]? = some n ∧ s < L ∧ PT wr lo w4.heap.size T (lens zs)) := ⟨hI1, hgo.1, hgo.2, hwl, hwc, hW, hn, hsL, hpt⟩
        clear hc hx hgo hbw hs hI hwl hwc hW hI1 hsL hn hpt
        by_cases hn0 : n = 0
        · subst hn0
          have hco := hu.code_no lo w4.heap.size T (lens zs) (s : Int) wr AI.out.2.2.2.2.2.2.2.2 (by
            rintro ⟨j, m, e1, e2, e3⟩
            have : j = s := by omega
            subst this
            rw [AI.out.2.2.2.2.2.2.1] at e2; cases e2; omega)
          go_wp2_with (go_at_call 14; refine hco.mono ?_; rintro e5 w5 ⟨rfl, hb5⟩)
          go_roundg (300 - (i + 1))
          case measure => have := AI.out; omega
          case rel => exact ⟨i + 1, by go_num, by have := AI.out; omega, want, by have := AI.out; omega, AI.out.2.2.2.2.1, AI.out.2.2.2.2.2.1.below hb5⟩
        · have hnp : 0 < n := by omega
          obtain ⟨c, hc⟩ : ∃ c, code (lens zs) s n = c := ⟨_, rfl⟩
          have hcb : c < 2 ^ n := by rw [← hc]; exact code_fits A4.out.2.2.1 AI.out.2.2.2.2.2.2.1 hnp hn15
          have hcb2 : c < 32768 := Nat.lt_of_lt_of_le hcb (show 2 ^ n ≤ 2 ^ 15 from Nat.pow_le_pow_right (by decide) hn15)
          have hco := hu.code_yes lo w4.heap.size T (lens zs) s n c wr AI.out.2.2.2.2.2.2.2.2 AI.out.2.2.2.2.2.2.1 hnp hc
          have AC : Aside (code (lens zs) s n = c ∧ 0 < n) := ⟨hc, hnp⟩
          have hnI : (1 : Int) ≤ (n : Int) := by omega
          have hn15I : (n : Int) ≤ 15 := by omega
          clear hn0 hc hcb hnp hn15
          go_upto_region 13 with (first
            | (go_at_call 14; refine hco.mono ?_; rintro e5 w5 ⟨rfl, hb5⟩
               have hW5 := AI.out.2.2.2.2.2.1.below hb5)
            | (at_builtin; refine wpList_appi _ rfl (.tmp 77) (.tmp 79) rfl w5 s (by rfl) w5.heap.size rfl w4 B4 u7 u8 (lineOf (lens zs) want) want hW5 (by rfl) (by rfl) (by have := AI.out; omega) ?_; intro v6 w6 hW6))
          have A6 : Aside (Wr w4 w6 B4 u7 v6 (lineOf (lens zs) want) (want ++ [s])) := hW6
          clear hco hb5 hW5 hW6
          go_wp2_with fail
          go_loopg [7, 14] n (fun g vl sk wr => ∃ q : Nat, sk = .int .i64 ((n : Int) - 1 - (q : Int)) ∧ Aside (q + g = n ∧ Wr w4 wr B4 vl v6 (lineOf (lens zs) want ++ (cbits (lens zs) s).take q) (want ++ [s])))
          case atStart => exact ⟨0, by go_num, by omega, by rw [List.take_zero, List.append_nil]; exact A6.out⟩
          case round =>
            obtain ⟨q, rfl, hQ⟩ := hrel
            by_cases hq : q < n
            · obtain ⟨k, hk⟩ : ∃ k, n - 1 - q = k := ⟨_, rfl⟩
              have hkI : (n : Int) - 1 - (q : Int) = (k : Int) := by omega
              rw [hkI]
              have hk15 : (k : Int) < 15 := by omega
              obtain ⟨y, hy⟩ : ∃ y, (c / 2 ^ k % 2 == 1) = y := ⟨_, rfl⟩
              have hlen : (lineOf (lens zs) want ++ (cbits (lens zs) s).take q).length ≤ 1048576 := by
                have h1 := lineOf_le A4.out.2.2.2.1 AI.out.2.2.2.2.1
                have h2 := AI.out
                have h3 := cbits_len h2.2.2.2.2.2.2.1
                rw [List.length_append, List.length_take]
                omega
              have AQ : Aside ((lineOf (lens zs) want ++ (cbits (lens zs) s).take q).length ≤ 1048576 ∧ q < n ∧ n - 1 - q = k) := ⟨hlen, hq, hk⟩
              clear hlen hq hk hy
              go_upto_region 16 with fail
              go_wp2_with (at_builtin; refine wpList_appb _ rfl (.tmp 87) (.tmp 94) rfl wr _ (by rfl) wr.heap.size rfl w4 B4 u7 v6 _ _ hQ.out.2 (by rfl) (by rfl) AQ.out.1 ?_; intro v7 w7 hW7)
              go_roundg (n - (q + 1))
              case measure => have := hQ.out.1; have := AQ.out; omega
              case rel =>
                have h1 := AQ.out
                refine ⟨q + 1, ?_, by omega, ?_⟩
                · rw [show (n : Int) - 1 - ((q + 1 : Nat) : Int) = (k : Int) - 1 by omega]
                · rw [cbits_step AI.out.2.2.2.2.2.2.1 AC.out.1 h1.2.1, h1.2.2, ← bit_and c k hcb2, ← List.append_assoc]
                  exact hW7
            · have hqn : q = n := by have := hQ.out.1; omega
              subst hqn
              have hkI : (q : Int) - 1 - (q : Int) = -1 := by omega
              rw [hkI]
              clear hq
              go_wp2_with fail
              go_roundg (300 - (i + 1))
              case measure => have := AI.out; omega
              case rel =>
                refine ⟨i + 1, by go_num, by have := AI.out; omega, want ++ [s], by rw [List.length_append]; have := AI.out; simp; omega, AI.out.2.2.2.2.1.snoc AI.out.2.2.2.2.2.2.1 AC.out.2, ?_⟩
                rw [lineOf_snoc]
                have := hQ.out.2
                rw [List.take_of_length_le (by rw [cbits_len AI.out.2.2.2.2.2.2.1]; exact Nat.le_refl _)] at this
                exact this
      · have AI : Aside (want.length ≤ 300 ∧ Coded (lens zs) want ∧ Wr w4 wr B4 u7 u8 (lineOf (lens zs) want) want) := ⟨by omega, hwc, hW⟩
        clear hI hwl hwc hW hI1
        obtain ⟨wq, hwq⟩ : ∃ wq, wq = wr := ⟨_, rfl⟩
        subst hwq
        go_upto_region 7 with fail
        go_cut [57] (fun s57 wc => s57 = .bool false ∧ wq = wc)
        case first =>
          by_cases h1 : i < XL
          · have i1 : (i : Int) < (XL : Int) := by omega
            have i2 : ¬ (i : Int) < 300 := by omega
            clear hgo h1
            go_wp2_with fail
            go_meet
            exact ⟨rfl, rfl⟩
          · have i1 : ¬ (i : Int) < (XL : Int) := by omega
            clear hgo h1
            go_wp2_with fail
            go_meet
            exact ⟨rfl, rfl⟩
        case rest =>
          obtain ⟨rfl, rfl⟩ := hcut
          obtain ⟨la, lc, wa, wc', hvl, hvw, hcl, hcw⟩ := AI.out.2.2.shape
          obtain ⟨line, hline⟩ : ∃ line, lineOf (lens zs) want = line := ⟨_, rfl⟩
          obtain ⟨N, hN⟩ : ∃ N, line.length = N := ⟨_, rfl⟩
          obtain ⟨K, hK⟩ : ∃ K, want.length = K := ⟨_, rfl⟩
          have hNb : N ≤ 4500 := by
            have h1 := lineOf_le A4.out.2.2.2.1 AI.out.2.1
            rw [hline, hN] at h1
            have := AI.out.1
            omega
          rw [hline] at hvl hcl
          rw [hN] at hvl
          rw [hK] at hvw
          subst hvl
          subst hvw
          obtain ⟨rb, hrb⟩ : ∃ rb, wq.heap.size = rb := ⟨_, rfl⟩
          have hpt : PT wq lo w4.heap.size T (lens zs) := hu.below A4.out.1 (by rw [AB4.out]; exact AI.out.2.2.bel) (Nat.le_refl _)
          have hbw : Below w.heap.size w wq := A4.out.2.1.trans (AI.out.2.2.bel.mono (by rw [← AB4.out]; exact A4.out.2.1.size))
          have hle : w4.heap.size ≤ rb := by rw [← hrb, AB4.out]; exact AI.out.2.2.le
          have hnw := new_b wq
          rw [hrb] at hnw
          have A5 : Aside (want.length ≤ 300 ∧ Coded (lens zs) want ∧ lineOf (lens zs) want = line ∧ line.length = N ∧ want.length = K ∧ PT wq lo w4.heap.size T (lens zs) ∧ Below w.heap.size w wq ∧ w4.heap.size ≤ rb ∧ wq.heap.size = rb) := ⟨AI.out.1, AI.out.2.1, hline, hN, hK, hpt, hbw, hle, hrb⟩
          have AL : Aside ((line = [] ∨ ∃ b, la = some ⟨b, 0, none⟩ ∧ ∀ (i : Nat) (x : Bool), line[i]? = some x → wq.cell? ⟨b, i, none⟩ = some (.bool x)) ∧ (want = [] ∨ ∃ b, wa = some ⟨b, 0, none⟩ ∧ ∀ (i x : Nat), want[i]? = some x → wq.cell? ⟨b, i, none⟩ = some (.int .i64 (x : Int)))) := ⟨hcl, hcw⟩
          have hKb : K ≤ 300 := by have := AI.out.1; omega
          clear AI hcl hcw hline hN hK hrb hpt hbw hle
          go_upto_region 18 with (go_at_call 16; refine hnw.mono ?_; rintro e7 w7 ⟨rfl, hr7, hb7, hs7⟩)
          have A7 : Aside (Br w7 rb 0 0 ∧ Below rb wq w7) := ⟨hr7, hb7⟩
          clear hnw hr7 hb7 hs7
          go_wp2_with fail
          go_loopg [16, 17] (N + 8) (fun g sg si wr => ∃ (got i : Nat), sg = .int .i64 (got : Int) ∧ si = .int .i64 (i : Int) ∧ Aside (i + g = N + 8 ∧ (got = K ∨ i < N) ∧ ∃ l, Held (lens zs) want i got l ∧ Br wr rb (nm l) l.length ∧ Below rb wq wr ∧ l.length < 15))
          case atStart =>
            refine ⟨0, 0, rfl, rfl, by omega, ?_, [], Held.zero _ _, A7.out.1, A7.out.2, by decide⟩
            have a := A5.out
            by_cases h0 : N = 0
            · left
              cases want with
              | nil => have := a.2.2.2.2.1; simpa using this
              | cons s want =>
                exfalso
                obtain ⟨n, h1, h2⟩ := a.2.1 s (by simp)
                have e1 : lineOf (lens zs) (s :: want) = cbits (lens zs) s ++ lineOf (lens zs) want := by simp [lineOf]
                have e2 := congrArg List.length e1
                rw [List.length_append, cbits_len h1, a.2.2.1, a.2.2.2.1] at e2
                omega
            · right; omega
          case round =>
            obtain ⟨got, j, rfl, rfl, hJ⟩ := hrel
            by_cases hjN : j < N
            · have hj1 : (j : Int) < (N : Int) := by omega
              have hgw := hJ.out
              obtain ⟨l, hld, hbr, hbl, hl15⟩ := hgw.2.2
              rcases AL.out.1 with e | ⟨lb, rfl, hlc⟩
              · have := A5.out.2.2.2.1; rw [e] at this; simp at this; omega
              have hlb : lb < rb := by
                obtain ⟨x, hx⟩ : ∃ x, line[0]? = some x := ⟨_, List.getElem?_eq_getElem (by have := A5.out; omega)⟩
                have := World.block_lt_of_cell? wq ⟨lb, 0, none⟩ (hlc 0 x hx)
                have h2 := A5.out.2.2.2.2.2.2.2.2
                simp only [] at this
                omega
              have CL : Aside (∀ W, Below rb wq W → ∀ (i : Nat) (x : Bool), line[i]? = some x → W.cell? ⟨lb, i, none⟩ = some (.bool x)) := fun W hW i x hx => (hW.cell (p := ⟨lb, i, none⟩) hlb).trans (hlc i x hx)
              have AJ : Aside (j + gk = N + 8 ∧ j < N ∧ Held (lens zs) want j got l ∧ Br wr rb (nm l) l.length ∧ Below rb wq wr ∧ l.length < 15) := ⟨hgw.1, hjN, hld, hbr, hbl, hl15⟩
              clear hgw hJ hld hbr hbl hl15 hlc hlb hjN
              obtain ⟨wj, hwj⟩ : ∃ wj, wj = wr := ⟨_, rfl⟩
              subst hwj
              obtain ⟨bl, hbl⟩ : ∃ bl, ((line ++ List.replicate 8 false).drop j) = bl := ⟨_, rfl⟩
              have ABL : Aside (((line ++ List.replicate 8 false).drop j) = bl) := hbl
              clear hbl
              go_wp2_with fail
              go_loopg [18, 19] 8 (fun g sb sk wr => ∃ (k v : Nat), sb = .int .u8 (v : Int) ∧ sk = .int .i64 (k : Int) ∧ Aside (k + g = 8 ∧ j + k ≤ N ∧ nm (bl.take k) = v) ∧ wj = wr)
              case atStart => exact ⟨0, 0, rfl, rfl, ⟨by omega, by have := AJ.out; omega, by simp [nm]⟩, rfl⟩
              case round =>
                obtain ⟨k, v, rfl, rfl, hK, hw⟩ := hrel
                subst hw
                by_cases hgo : k < 8 ∧ j + k < N
                · have k1 : (k : Int) < 8 := by omega
                  have k2 : (j : Int) + (k : Int) < (N : Int) := by omega
                  obtain ⟨m, hm⟩ : ∃ m, j + k = m := ⟨_, rfl⟩
                  have hmI : (j : Int) + (k : Int) = (m : Int) := by omega
                  have hmN : (m : Int) < (N : Int) := by omega
                  obtain ⟨x, hx⟩ : ∃ x, line[m]? = some x := ⟨_, List.getElem?_eq_getElem (by have := A5.out; omega)⟩
                  have cx := CL.out wj AJ.out.2.2.2.2.1 m x hx
                  have hbx : bl[k]? = some x := by
                    rw [← ABL.out, List.getElem?_drop, hm, List.getElem?_append_left (by have := (List.getElem?_eq_some_iff.1 hx).1; exact this)]; exact hx
                  have hbk : k < bl.length := (List.getElem?_eq_some_iff.1 hbx).1
                  have hnx : nm (bl.take (k + 1)) = v + (if x then 1 else 0) * 2 ^ k := by
                    have h1 := hK.out.2.2
                    rw [List.take_add_one, hbx]
                    show nm (bl.take k ++ [x]) = _
                    rw [nm_append, h1, List.length_take, show min k bl.length = k by omega]
                    cases x <;> simp [nm]
                  have hv : v < 2 ^ k := by
                    have h1 := nm_lt (bl.take k)
                    rw [hK.out.2.2, List.length_take, show min k bl.length = k by omega] at h1
                    exact h1
                  have AK : Aside (k < 8 ∧ j + k < N ∧ nm (bl.take (k + 1)) = v + (if x then 1 else 0) * 2 ^ k ∧ v < 2 ^ k) := ⟨hgo.1, hgo.2, hnx, hv⟩
                  clear hx hbx hbk hnx hv hgo hm
                  cases x with
                  | false =>
                    go_wp2_with fail
                    go_roundg (8 - (k + 1))
                    case measure => have := hK.out.1; have := AK.out; omega
                    case rel =>
                      have a := AK.out
                      exact ⟨k + 1, v, rfl, by go_num, ⟨by omega, by omega, by rw [a.2.2.1]; simp⟩, rfl⟩
                  | true =>
                    go_wp2_with fail
                    rw [or_u8 v k AK.out.2.2.2 AK.out.1]
                    go_roundg (8 - (k + 1))
                    case measure => have := hK.out.1; have := AK.out; omega
                    case rel =>
                      have a := AK.out
                      exact ⟨k + 1, v + 2 ^ k, rfl, by go_num, ⟨by omega, by omega, by rw [a.2.2.1]; simp⟩, rfl⟩
                · have hv8 : nm (bl.take 8) = v := by
                    have h1 := hK.out
                    by_cases h8 : k = 8
                    · rw [← h8]; exact h1.2.2
                    · have hjk : j + k = N := by omega
                      have hN := A5.out.2.2.2.1
                      rw [← h1.2.2, ← ABL.out]
                      exact eight_nm (by omega) (by omega)
                  have hlen8 : (bl.take 8).length = 8 := by rw [← ABL.out]; exact eight (by have := A5.out; have := AJ.out; omega)
                  have hv256 : v < 256 := by have := nm_lt (bl.take 8); rw [hv8, hlen8] at this; exact this
                  have hput := put_yes rb (nm l) l.length v wj AJ.out.2.2.2.1 (by have := AJ.out; omega) hv256
                  have hhd : Held (lens zs) want (j + 8) got (l ++ bl.take 8) := by
                    have a := A5.out
                    have := AJ.out.2.2.1.put (by rw [a.2.2.1]; have := AJ.out; omega)
                    rw [a.2.2.1, ABL.out] at this
                    exact this
                  have hnm : nm l + v * 2 ^ l.length = nm (l ++ bl.take 8) := by rw [nm_append, hv8]
                  have hll : l.length + 8 = (l ++ bl.take 8).length := by rw [List.length_append, hlen8]
                  rw [hnm, hll] at hput
                  have A8 : Aside (Held (lens zs) want (j + 8) got (l ++ bl.take 8) ∧ (l ++ bl.take 8).length ≤ 22) := ⟨hhd, by have := AJ.out; omega⟩
                  have hkk := hK.out
                  clear hK hv8 hlen8 hhd hnm hll
                  go_upto_region 24 with fail
                  go_cut [112] (fun s112 wc => s112 = .bool false ∧ wj = wc)
                  case first =>
                    by_cases h1 : k < 8
                    · have k1 : (k : Int) < 8 := by omega
                      have k2 : ¬ (j : Int) + (k : Int) < (N : Int) := by omega
                      clear hgo h1 hput hkk
                      go_wp2_with fail
                      go_meet
                      exact ⟨rfl, rfl⟩
                    · have k1 : ¬ (k : Int) < 8 := by omega
                      clear hgo h1 hput hkk
                      go_wp2_with fail
                      go_meet
                      exact ⟨rfl, rfl⟩
                  case rest =>
                    obtain ⟨rfl, rfl⟩ := hcut
                    clear hkk hgo
                    go_upto_region 30 with (go_at_call 20; refine hput.mono ?_; rintro e8 w8 ⟨rfl, hr8, ho8⟩)
                    have A9 : Aside (Br w8 rb (nm (l ++ bl.take 8)) (l ++ bl.take 8).length ∧ Below rb wq w8) := ⟨hr8, AJ.out.2.2.2.2.1.trans (ho8.below (Nat.le_refl _))⟩
                    clear hput hr8 ho8 hv256
                    go_loopg [16] K (fun g sg wr => ∃ got : Nat, sg = .int .i64 (got : Int) ∧ Aside (K ≤ got + g ∧ got ≤ K ∧ ∃ l, Held (lens zs) want (j + 8) got l ∧ Br wr rb (nm l) l.length ∧ Below rb wq wr ∧ l.length ≤ 22))
                    case atStart => exact ⟨got, rfl, by omega, by have := A8.out.1.got; have := A5.out; omega, _, A8.out.1, A9.out.1, A9.out.2, A8.out.2⟩
                    case round =>
                      obtain ⟨g5, rfl, hG⟩ := hrel
                      obtain ⟨l5, hl5, hb5, hw5, hlb5⟩ := hG.out.2.2
                      have hG1 := hG.out.1
                      have hG2 := hG.out.2.1
                      by_cases hgK : g5 < K
                      · have g1 : (g5 : Int) < (K : Int) := by omega
                        obtain ⟨s, hs⟩ : ∃ s, want[g5]? = some s := ⟨_, List.getElem?_eq_getElem (by have := A5.out; omega)⟩
                        obtain ⟨n, hn, hn0⟩ := A5.out.2.1 s (List.mem_of_getElem? hs)
                        have hn15 := A4.out.2.2.2.1 n (List.mem_of_getElem? hn)
                        have hsL : s < L := by have := (List.getElem?_eq_some_iff.1 hn).1; rw [A4.out.2.2.2.2.2] at this; exact this
                        have hpt : PT wr lo w4.heap.size T (lens zs) := hu.keep A5.out.2.2.2.2.2.1 fun k _ h2 => hw5.block k (by have := A5.out; omega)
                        rcases AL.out.2 with e | ⟨wb, rfl, hwc⟩
                        · rw [e] at hs; simp at hs
                        have cw0 := hwc g5 s hs
                        have hwbr : wb < rb := by
                          have := World.block_lt_of_cell? wq ⟨wb, g5, none⟩ cw0
                          have h2 := A5.out.2.2.2.2.2.2.2.2
                          simp only [] at this
                          omega
                        have CW : Aside (∀ W, Below rb wq W → W.cell? ⟨wb, g5, none⟩ = some (.int .i64 (s : Int))) := fun W hW => (hW.cell (p := ⟨wb, g5, none⟩) hwbr).trans cw0
                        by_cases hnl : n ≤ l5.length
                        · have hh := hl5.hit A4.out.2.2.1 A4.out.2.2.2.1 hs hn hn0 hnl
                          have hrd := hu.read lo w4.heap.size T (lens zs) rb s 0 n l5 wr hpt A4.out.2.2.1 A4.out.2.2.2.1 hb5 hh.1
                          have AR : Aside (K ≤ g5 + gk ∧ g5 < K ∧ Held (lens zs) want (j + 8) (g5 + 1) (l5.drop n) ∧ Below rb wq wr ∧ l5.length ≤ 22) := ⟨hG1, hgK, hh.2, hw5, hlb5⟩
                          clear hG hl5 hb5 hw5 hlb5 hG1 hgK hs hn hn0 hpt hwc cw0 hwbr hnl hh
                          go_upto_region 32 with (go_at_call 17; refine hrd.mono ?_; rintro e10 w10 ⟨rfl, hr10, ho10⟩)
                          have b10 : Below rb wq w10 := AR.out.2.2.2.1.trans ⟨ho10.os, ho10.tape, ho10.output, ho10.size, fun k hk => ho10.block k (by have := AR.out.2.2.2.1.size; have := A5.out; omega) (by omega)⟩
                          have cw := CW.out w10 b10
                          have A10 : Aside (Br w10 rb (nm (l5.drop n)) (l5.drop n).length ∧ Below rb wq w10) := ⟨hr10, b10⟩
                          clear hrd hr10 ho10 b10
                          go_wp2_with fail
                          go_roundg (K - (g5 + 1))
                          case measure => have := AR.out; omega
                          case rel =>
                            have r := AR.out
                            exact ⟨g5 + 1, by go_num, by omega, by omega, _, r.2.2.1, A10.out.1, A10.out.2, by rw [List.length_drop]; omega⟩
                        · have hm := hl5.more A4.out.2.2.1 A4.out.2.2.2.1 hs hn hn0 (by omega)
                          have hrd := hu.read lo w4.heap.size T (lens zs) rb 0 1 0 l5 wr hpt A4.out.2.2.1 A4.out.2.2.2.1 hb5 hm.1
                          have hjN : (j : Int) + 8 < (N : Int) := by have := hm.2; rw [A5.out.2.2.1, A5.out.2.2.2.1] at this; omega
                          have AR : Aside (K ≤ g5 + gk ∧ g5 < K ∧ Held (lens zs) want (j + 8) g5 l5 ∧ Below rb wq wr ∧ l5.length < 15) := ⟨hG1, hgK, hl5, hw5, by omega⟩
                          rw [List.drop_zero] at hrd
                          clear hG hl5 hb5 hw5 hlb5 hG1 hgK hs hn hn0 hpt hwc cw0 hwbr hnl hm
                          go_upto_region 32 with (go_at_call 17; refine hrd.mono ?_; rintro e10 w10 ⟨rfl, hr10, ho10⟩)
                          have b10 : Below rb wq w10 := AR.out.2.2.2.1.trans ⟨ho10.os, ho10.tape, ho10.output, ho10.size, fun k hk => ho10.block k (by have := AR.out.2.2.2.1.size; have := A5.out; omega) (by omega)⟩
                          have A10 : Aside (Br w10 rb (nm l5) l5.length ∧ Below rb wq w10) := ⟨hr10, b10⟩
                          clear hrd hr10 ho10 b10
                          go_wp2_with fail
                          go_roundg (N - j)
                          case measure => have := AJ.out; omega
                          case rel =>
                            have r := AR.out
                            exact ⟨g5, j + 8, rfl, by go_num, by have := AJ.out; omega, Or.inr (by omega), l5, r.2.2.1, A10.out.1, A10.out.2, r.2.2.2.2⟩
                      · have g5K : g5 = K := by omega
                        have g1 : ¬ (g5 : Int) < (K : Int) := by omega
                        have AR : Aside (g5 = K ∧ Held (lens zs) want (j + 8) g5 l5 ∧ Br wr rb (nm l5) l5.length ∧ Below rb wq wr) := ⟨g5K, hl5, hb5, hw5⟩
                        clear hG hl5 hb5 hw5 hlb5 hG1 hgK g5K
                        go_wp2_with fail
                        go_roundg (N - j)
                        case measure => have := AJ.out; omega
                        case rel =>
                          have r := AR.out
                          refine ⟨g5, j + 8, rfl, by go_num, by have := AJ.out; omega, Or.inl r.1, l5, r.2.1, r.2.2.1, r.2.2.2, ?_⟩
                          have h1 := r.2.1.len
                          have a := A5.out
                          rw [r.1, ← a.2.2.2.2.1, List.take_length, a.2.2.1, a.2.2.2.1] at h1
                          have := AJ.out
                          omega
            · have hj1 : ¬ (j : Int) < (N : Int) := by omega
              have hgot : got = K := by have := hJ.out.2.1; omega
              subst hgot
              obtain ⟨l, _, _, hbl, _⟩ := hJ.out.2.2
              have AJ : Aside (Below w.heap.size w wr) := A5.out.2.2.2.2.2.2.1.trans (hbl.mono (by have := A5.out.2.2.2.2.2.2.1.size; have := A5.out; omega))
              clear hJ hbl hjN
              go_wp2_with (go_at_call 13; refine (haw _).mono ?_; rintro e11 w11 ⟨rfl, hb11⟩)
              first | go_ret | go_ret2
              exact ⟨rfl, by rw [← AW.out]; exact AJ.out.trans (hb11.mono AJ.out.size)⟩
  · have hne : ((e0 : Int) == 0) = false := beq_eq_false_iff_ne.2 (by omega)
    have hz1 : e0 ≠ 0 := hz0
    clear hz0
    go_upto_region 2 with (first
      | (at_builtin; refine wpList_appn _ rfl (.tmp 23) (.tmp 24) rfl w (by rfl) H AW.out.symm (by rfl) a zs L C AB.out.2.1 (by rfl) AB.out.2.2.2.2 AB.out.1 (by rw [AB.out.2.1]; exact Nat.le_of_lt AB.out.2.2.2.1) ?_; intro v3 w3 h3
         obtain ⟨a3, C3, hv3, hl3, hc3, hs3⟩ := h3.shape
         rw [AB.out.2.1] at hv3 hc3
         subst hv3
         have hn3 := hu.new_err a3 zs L C3 e0 w3 hl3 AB.out.2.1 hc3 (by have := AB.out; omega) AE.out hz1
         have A3 : Aside (Below w.heap.size w w3) := h3.bel
         clear h3 hl3 hc3 hs3)
      | (go_at_call 10; refine hn3.mono ?_; rintro e4 w4 ⟨rfl, hb4⟩))
    have A4 : Aside (Below w.heap.size w w4) := A3.out.trans (hb4.mono A3.out.size)
    clear hn3 hb4 A3 hH
    go_wp2_with (go_at_call 13; refine (haw _).mono ?_; rintro e5 w5 ⟨rfl, hb5⟩)
    first | go_ret | go_ret2
    exact ⟨rfl, by rw [← AW.out]; exact A4.out.trans (hb5.mono A4.out.size)⟩
end Go.Proofs.Ytlmajiejapaegaa

/-
  What the document's Look and Code come to.
  Conditions: the table and the bits lie in memory; the lengths make codes.
-/
import Derived.Test.YtlmajiejapaegaaRLook
namespace Go.Proofs.Ytlmajiejapaegaa
open Go.RowKit
set_option linter.unusedVariables false
/-- What a look at some bits tells: the symbol, what came, how many bits. -/
def Told (ls : List Nat) (h : List Bool) (s how k : Nat) : Prop :=
  (Hit ls h s k ∧ how = 0) ∨ ((∀ i n, ¬ Hit ls h i n) ∧ (∃ j n, ls[j]? = some n ∧ 0 < n ∧ h <+: cbits ls j) ∧ s = 0 ∧ how = 1 ∧ k = 0) ∨ ((∀ i n, ¬ Hit ls h i n) ∧ (¬ ∃ j n, ls[j]? = some n ∧ 0 < n ∧ h <+: cbits ls j) ∧ s = 0 ∧ how = 2 ∧ k = 0)
theorem cbits_at {ls : List Nat} {i n : Nat} (h : ls[i]? = some n) : cbits ls i = bitsB n (code ls i n) := by unfold cbits; rw [h]
set_option maxRecDepth 100000 in
set_option maxHeartbeats 4000000 in
theorem rlook_c (T : Nat) (ls : List Nat) (a : Option Addr) (h : List Bool) (H C L s how k : Nat) (w : World) (ht : Tb w T ls) (hl : Lb w a h) (hH : h.length = H) (hHb : H < 1048576) (hL : ls.length = L) (hLb : L ≤ 320) (hk : part ls 15 ≤ 32768) (h15 : ∀ l ∈ ls, l ≤ 15) (hr : Told ls h s how k) :
    Calls Try.prog 30 #[.pointer (some ⟨T, 0, none⟩), .slice a H C] w fun e w' => e = .returned (.tuple #[.int .i64 (s : Int), .int .i64 (how : Int), .int .i64 (k : Int)]) ∧ Drawn w w' := by
  have AH : Aside (Tb w T ls ∧ Lb w a h ∧ h.length = H ∧ H < 1048576 ∧ ls.length = L ∧ L ≤ 320 ∧ part ls 15 ≤ 32768 ∧ (∀ l ∈ ls, l ≤ 15)) := ⟨ht, hl, hH, hHb, hL, hLb, hk, h15⟩
  have AR : Aside (Told ls h s how k) := hr
  clear ht hl hH hHb hL hLb hk h15 hr
  obtain ⟨g, rows, cT, cR, hrow⟩ := AH.out.1.cells
  rw [AH.out.2.2.2.2.1] at cT
  have hTl := World.block_lt_of_cell? w ⟨T, 0, none⟩ cT
  have AT : Aside (w.cell? ⟨T, 0, none⟩ = some (.slice (some ⟨g, 0, none⟩) L L) ∧ T < w.heap.size ∧ Cells w g rows 42) := ⟨cT, hTl, cR⟩
  have AW : Aside (∀ (j m : Nat), ls[j]? = some m → (0 < m → ∃ b, rows[j]? = some (.slice (some ⟨b, 0, none⟩) m m) ∧ Bb w b (bitsB m (code ls j m))) ∧ (m = 0 → rows[j]? = some (.slice none 0 0))) := hrow
  clear cT cR hrow hTl
  go_enter Try.func30, Try.ntmps30
  go_wp2_with fail
  go_loopg [7, 8] L (fun gg sm si wr => ∃ (mo : Bool) (i : Nat), sm = .bool mo ∧ si = .int .i64 i ∧ Aside (i + gg = L ∧ (∀ j n, j < i → ¬ Hit ls h j n) ∧ (mo = true ↔ ∃ j n, j < i ∧ ls[j]? = some n ∧ 0 < n ∧ h <+: cbits ls j) ∧ Drawn w wr))
  case atStart => exact ⟨false, 0, rfl, rfl, ⟨by omega, fun j n h => by omega, ⟨fun h => (by cases h), fun ⟨j, n, h, _⟩ => by omega⟩, Drawn.refl _⟩⟩
  case round =>
    obtain ⟨mo, i, rfl, rfl, hI⟩ := hrel
    have bd := Drawn.below hI.out.2.2.2 w.heap.size
    have cT : wr.cell? ⟨T, 0, none⟩ = some (.slice (some ⟨g, 0, none⟩) L L) := (bd.cell (p := ⟨T, 0, none⟩) AT.out.2.1).trans AT.out.1
    by_cases hiL : i < L
    · have hi : (i : Int) < (L : Int) := by omega
      obtain ⟨l, hl⟩ : ∃ l, ls[i]? = some l := ⟨_, List.getElem?_eq_getElem (by have := AH.out; omega)⟩
      have hr := AW.out i l hl
      have cg : ∀ {v : Value}, rows[i]? = some v → wr.cell? ⟨g, i, none⟩ = some v := fun {v} hv => (bd.cell (p := ⟨g, i, none⟩) AT.out.2.2.lt).trans ((AT.out.2.2.cell i).trans hv)
      have hib : (i : Int) < 320 := by have := AH.out; omega
      have AI : Aside (i < L ∧ ls[i]? = some l) := ⟨hiL, hl⟩
      clear hiL hl
      by_cases hl0 : l = 0
      · subst hl0
        have cz := cg (hr.2 rfl)
        have A2 : Aside ((∀ j n, j < i + 1 → ¬ Hit ls h j n) ∧ (mo = true ↔ ∃ j n, j < i + 1 ∧ ls[j]? = some n ∧ 0 < n ∧ h <+: cbits ls j)) := by
          refine ⟨fun j n hj hh => ?_, ?_⟩
          · by_cases e : j = i
            · subst e; have := hh.1; rw [AI.out.2] at this; cases this; exact absurd hh.2.1 (by omega)
            · exact hI.out.2.1 j n (by omega) hh
          · rw [hI.out.2.2.1]
            constructor
            · rintro ⟨j, n, h1, h2⟩; exact ⟨j, n, by omega, h2⟩
            · rintro ⟨j, n, h1, h2, h3, h4⟩
              by_cases e : j = i
              · subst e; rw [AI.out.2] at h2; cases h2; omega
              · exact ⟨j, n, by omega, h2, h3, h4⟩
        clear hr cg bd
        go_wp2_with fail
        have h1 := hI.out; have h2 := AI.out
        go_roundg (L - (i + 1))
        case measure => omega
        case rel => exact ⟨mo, i + 1, rfl, by go_num, ⟨by omega, A2.out.1, A2.out.2, h1.2.2.2⟩⟩
      · obtain ⟨b, hb1, hb2⟩ := hr.1 (by omega)
        have cz := cg hb1
        have hlp : (l : Int) ≠ 0 := by omega
        have hle : ((l : Int) == 0) = false := by rw [beq_eq_false_iff_ne]; exact hlp
        have l15 := AH.out.2.2.2.2.2.2.2 l (List.mem_of_getElem? AI.out.2)
        have hlb : Lb w (some ⟨b, 0, none⟩) (cbits ls i) := by rw [cbits_at AI.out.2]; exact hb2.lb
        have hcl : (cbits ls i).length = l := by rw [cbits_at AI.out.2, bitsB_len]
        have hhit := hit_prefix (h := h) AH.out.2.2.2.2.2.2.1 AH.out.2.2.2.2.2.2.2 AI.out.2 (by omega)
        have A3 : Aside (l ≠ 0 ∧ l ≤ 15 ∧ Lb w (some ⟨b, 0, none⟩) (cbits ls i) ∧ (cbits ls i).length = l ∧ (cbits ls i <+: h ↔ Hit ls h i l)) := ⟨hl0, l15, hlb, hcl, hhit⟩
        have hbeg := begins_c a (some ⟨b, 0, none⟩) h (cbits ls i) H l C l (decide (cbits ls i <+: h)) wr (AH.out.2.1.below (Drawn.below hI.out.2.2.2 _)) (hlb.below (Drawn.below hI.out.2.2.2 _)) AH.out.2.2.1 hcl (by omega) rfl
        clear hr cg bd hb1 hb2 hl0 l15 hlb hcl hhit
        by_cases hp : cbits ls i <+: h
        · rw [decide_eq_true hp] at hbeg
          have A4 : Aside (i = s ∧ how = 0 ∧ l = k) := by
            have hh := A3.out.2.2.2.2.1 hp
            rcases AR.out with ⟨h1, h2⟩ | ⟨h1, _⟩ | ⟨h1, _⟩
            · obtain ⟨e1, e2⟩ := hit_one hh h1
              exact ⟨e1, h2, e2⟩
            · exact absurd hh (h1 i l)
            · exact absurd hh (h1 i l)
          clear hp
          go_wp2_with (go_at_call 33; refine hbeg.mono ?_; rintro e5 w5 ⟨rfl, hd5⟩)
          go_ret3
          obtain ⟨rfl, rfl, rfl⟩ := A4.out
          exact ⟨rfl, hI.out.2.2.2.trans hd5⟩
        · rw [decide_eq_false hp] at hbeg
          have A2 : Aside (∀ j n, j < i + 1 → ¬ Hit ls h j n) := by
            intro j n hj hh
            by_cases e : j = i
            · subst e
              have e2 := hh.1; rw [AI.out.2] at e2; cases e2
              exact hp (A3.out.2.2.2.2.2 hh)
            · exact hI.out.2.1 j n (by omega) hh
          clear hp
          cases mo with
          | true =>
            have A5 : Aside (∃ j n, j < i + 1 ∧ ls[j]? = some n ∧ 0 < n ∧ h <+: cbits ls j) := by
              obtain ⟨j, n, h1, h2⟩ := hI.out.2.2.1.1 rfl
              exact ⟨j, n, by omega, h2⟩
            go_wp2_with (go_at_call 33; refine hbeg.mono ?_; rintro e5 w5 ⟨rfl, hd5⟩)
            have h1 := hI.out; have h2 := AI.out
            go_roundg (L - (i + 1))
            case measure => omega
            case rel => exact ⟨true, i + 1, rfl, by go_num, ⟨by omega, A2.out, ⟨fun _ => A5.out, fun _ => rfl⟩, h1.2.2.2.trans hd5⟩⟩
          | false =>
            obtain ⟨q, hq⟩ : ∃ q, decide (h <+: cbits ls i) = q := ⟨_, rfl⟩
            have A5 : Aside (q = true ↔ ∃ j n, j < i + 1 ∧ ls[j]? = some n ∧ 0 < n ∧ h <+: cbits ls j) := by
              rw [← hq, decide_eq_true_iff]
              constructor
              · intro hh; exact ⟨i, l, by omega, AI.out.2, by have := A3.out; omega, hh⟩
              · rintro ⟨j, n, h1, h2, h3, h4⟩
                by_cases e : j = i
                · subst e; exact h4
                · exact absurd (hI.out.2.2.1.2 ⟨j, n, by omega, h2, h3, h4⟩) (by simp)
            have hbeg2 := fun (W : World) (hW : Drawn w W) => begins_c (some ⟨b, 0, none⟩) a (cbits ls i) h l H l C q W (A3.out.2.2.1.below (Drawn.below hW _)) (AH.out.2.1.below (Drawn.below hW _)) A3.out.2.2.2.1 AH.out.2.2.1 AH.out.2.2.2.1 hq.symm
            have BG : Aside (∀ W, Drawn w W → _) := hbeg2
            clear hbeg2 hq
            go_wp2_with (first
              | (go_at_call 33; with_reducible refine hbeg.mono ?_; rintro e5 w5 ⟨rfl, hd5⟩
                 have hdd : Drawn w w5 := hI.out.2.2.2.trans hd5
                 have hb2 := BG.out w5 hdd
                 have A6 : Aside (Drawn w w5) := hdd
                 clear hdd hd5)
              | (go_at_call 33; with_reducible refine hb2.mono ?_; rintro e6 w6 ⟨rfl, hd6⟩))
            have h1 := hI.out; have h2 := AI.out
            go_roundg (L - (i + 1))
            case measure => omega
            case rel => exact ⟨q, i + 1, rfl, by go_num, ⟨by omega, A2.out, A5.out, A6.out.trans hd6⟩⟩
    · have hi : ¬ (i : Int) < (L : Int) := by omega
      have hno : ∀ j n, ¬ Hit ls h j n := fun j n hh => hI.out.2.1 j n (by have := (List.getElem?_eq_some_iff.1 hh.1).1; have := AH.out; omega) hh
      have hmo : mo = true ↔ ∃ j n, ls[j]? = some n ∧ 0 < n ∧ h <+: cbits ls j := by
        rw [hI.out.2.2.1]
        constructor
        · rintro ⟨j, n, _, h2⟩; exact ⟨j, n, h2⟩
        · rintro ⟨j, n, h2⟩; exact ⟨j, n, by have := (List.getElem?_eq_some_iff.1 h2.1).1; have := AH.out; omega, h2⟩
      have A7 : Aside ((mo = true ∧ s = 0 ∧ how = 1 ∧ k = 0) ∨ (mo = false ∧ s = 0 ∧ how = 2 ∧ k = 0)) := by
        rcases AR.out with ⟨h1, _⟩ | ⟨_, h1, h2⟩ | ⟨_, h1, h2⟩
        · exact absurd h1 (hno s k)
        · exact Or.inl ⟨hmo.2 h1, h2⟩
        · refine Or.inr ⟨?_, h2⟩
          cases hm : mo with
          | false => rfl
          | true => exact absurd (hmo.1 hm) h1
      clear hiL hno hmo bd
      rcases A7.out with ⟨rfl, rfl, rfl, rfl⟩ | ⟨rfl, rfl, rfl, rfl⟩
      · go_wp2_with fail
        go_ret3
        exact ⟨rfl, hI.out.2.2.2⟩
      · go_wp2_with fail
        go_ret3
        exact ⟨rfl, hI.out.2.2.2⟩
theorem num_take_snoc {l : List Bool} {k : Nat} {x : Bool} (h : l[k]? = some x) : num (l.take (k + 1)) = 2 * num (l.take k) + (if x then 1 else 0) := by
  rw [take_one h, num_app]
  cases x <;> simp [num] <;> omega
theorem rcode_no (T : Nat) (ls : List Nat) (L : Nat) (s : Int) (w : World) (ht : Tb w T ls) (hL : ls.length = L) (hs : ¬ ∃ (i n : Nat), s = (i : Int) ∧ ls[i]? = some n ∧ 0 < n) :
    Calls Try.prog 15 #[.pointer (some ⟨T, 0, none⟩), .int .i64 s] w fun e w' => e = .returned (.tuple #[.int .u32 0, .int .i64 0, .bool false]) ∧ w = w' := by
  obtain ⟨g, rows, cT, cR, hrow⟩ := ht.cells
  rw [hL] at cT
  by_cases h0 : s < 0
  · clear hs hrow cR cT
    go_enter Try.func15, Try.ntmps15
    go_wp2_with fail
    go_ret3
    exact ⟨rfl, rfl⟩
  · by_cases h1 : (L : Int) ≤ s
    · clear hs hrow cR
      go_enter Try.func15, Try.ntmps15
      go_wp2_with fail
      go_ret3
      exact ⟨rfl, rfl⟩
    · obtain ⟨i, rfl⟩ : ∃ i : Nat, s = (i : Int) := ⟨s.toNat, by omega⟩
      obtain ⟨n, hn⟩ : ∃ n, ls[i]? = some n := ⟨_, List.getElem?_eq_getElem (by omega)⟩
      have hn0 : n = 0 := by
        apply Decidable.byContradiction
        intro hc
        exact hs ⟨i, n, rfl, hn, by omega⟩
      subst hn0
      have cz : w.cell? ⟨g, i, none⟩ = some (.slice none 0 0) := (cR.cell i).trans ((hrow i 0 hn).2 rfl)
      have hi : (i : Int) < (L : Int) := by omega
      clear hs hrow cR hn h1
      go_enter Try.func15, Try.ntmps15
      go_wp2_with fail
      go_ret3
      exact ⟨rfl, rfl⟩
set_option maxRecDepth 100000 in
set_option maxHeartbeats 2000000 in
theorem rcode_c (T : Nat) (ls : List Nat) (L i n c : Nat) (w : World) (ht : Tb w T ls) (hL : ls.length = L) (hk : part ls 15 ≤ 32768) (hi : ls[i]? = some n) (h0 : 0 < n) (hn : n ≤ 15) (hc : code ls i n = c) :
    Calls Try.prog 15 #[.pointer (some ⟨T, 0, none⟩), .int .i64 (i : Int)] w fun e w' => e = .returned (.tuple #[.int .u32 (c : Int), .int .i64 (n : Int), .bool true]) ∧ w = w' := by
  obtain ⟨g, rows, cT, cR, hrow⟩ := ht.cells
  rw [hL] at cT
  obtain ⟨b, hb1, hb2⟩ := (hrow i n hi).1 h0
  have cz : w.cell? ⟨g, i, none⟩ = some (.slice (some ⟨b, 0, none⟩) n n) := (cR.cell i).trans hb1
  have hil := (List.getElem?_eq_some_iff.1 hi).1
  have hii : (i : Int) < (L : Int) := by omega
  have hi0 : (0 : Int) ≤ (i : Int) := by omega
  have hge : ¬ (L : Int) ≤ (i : Int) := by omega
  have hnz : ¬ (n : Int) = 0 := by omega
  have hnz2 : ((n : Int) == 0) = false := by rw [beq_eq_false_iff_ne]; exact hnz
  have hcb : c < 2 ^ n := by rw [← hc]; exact code_fits hk hi h0 hn
  rw [hc] at hb2
  have AB : Aside (Bb w b (bitsB n c) ∧ c < 2 ^ n ∧ n ≤ 15) := ⟨hb2, hcb, hn⟩
  clear ht hL hk hi h0 hc cR hrow hb1 hb2 hil hcb hn
  go_enter Try.func15, Try.ntmps15
  go_wp2_with fail
  clear cT cz hge hnz hnz2
  go_loopg [7, 9] n (fun gg sv sk wr => ∃ (v k : Nat), sv = .int .u32 v ∧ sk = .int .i64 k ∧ Aside (k + gg = n ∧ v = num ((bitsB n c).take k)) ∧ w = wr)
  case atStart => exact ⟨0, 0, rfl, rfl, ⟨by omega, by simp [num]⟩, rfl⟩
  case round =>
    obtain ⟨v, k, rfl, rfl, hK, hw⟩ := hrel
    subst hw
    by_cases hkn : k < n
    · have hk : (k : Int) < (n : Int) := by omega
      obtain ⟨x, hx⟩ : ∃ x, (bitsB n c)[k]? = some x := ⟨_, List.getElem?_eq_getElem (by rw [bitsB_len]; exact hkn)⟩
      have cx : w.cell? ⟨b, k, none⟩ = some (.bool x) := by rw [Cells.cell AB.out.1]; simp [vb, hx]
      have hv : v < 32768 := by
        rw [hK.out.2]
        have h1 := num_lt ((bitsB n c).take k)
        have h2 : (2 : Nat) ^ ((bitsB n c).take k).length ≤ 2 ^ 15 := Nat.pow_le_pow_right (by decide) (by rw [List.length_take, bitsB_len]; have := AB.out; omega)
        omega
      have hv1 : (v : Int) ≤ 32768 := by omega
      have hkb : (k : Int) < 15 := by have := AB.out; omega
      have A2 : Aside (k < n ∧ num ((bitsB n c).take (k + 1)) = 2 * v + (if x then 1 else 0)) := ⟨hkn, by rw [num_take_snoc hx, hK.out.2]⟩
      clear hx hv hkn
      cases x with
      | true =>
        go_wp2_with fail
        have h1 := hK.out.1; have h2 := A2.out
        go_roundg (n - (k + 1))
        case measure => omega
        case rel => exact ⟨2 * v + 1, k + 1, by go_num, by go_num, ⟨by omega, by have := h2.2; simpa using this.symm⟩, rfl⟩
      | false =>
        go_wp2_with fail
        have h1 := hK.out.1; have h2 := A2.out
        go_roundg (n - (k + 1))
        case measure => omega
        case rel => exact ⟨2 * v, k + 1, by go_num, by go_num, ⟨by omega, by have := h2.2; simpa using this.symm⟩, rfl⟩
    · have hk : ¬ (k : Int) < (n : Int) := by omega
      have hvc : v = c := by
        rw [hK.out.2, List.take_of_length_le (by rw [bitsB_len]; omega), num_bits, Nat.mod_eq_of_lt AB.out.2.1]
      subst hvc
      clear hkn
      go_wp2_with fail
      go_ret3
      exact ⟨rfl, rfl⟩
end Go.Proofs.Ytlmajiejapaegaa

/-
  Own texts of this seat, one behind the other: what each says stands ahead of it.
-/
import Derived.Test.YtikdpnpkmmmacaaDoorMc
import Derived.BigQuiet
import Derived.Test.YtikdpnpkmmmacaaDoorProg
import Derived.Test.YtikdpnpkmmmacaaDoorMb
import Derived.WalkSpells
import Derived.OpenShut
import Derived.Test.YtikdpnpkmmmacaaDoorMa
import Derived.WalkMore
import Derived.ScopeJumps
import Derived.Deep.QuietTactic
import Derived.Test.YtikdpnpkmmmacaaDoorMd
/-
  What the document's Code, begins and Look come to.
  Conditions: the table and the bits lie in memory.
-/
namespace Go.Proofs.YtikdpnpkmmmacaaDoor
open Go.RowKit
set_option linter.unusedVariables false
/-- The world, some draws further on. -/
def Drawn (w u : World) : Prop := ∃ n, u = w.drewN n
theorem Drawn.refl (w : World) : Drawn w w := ⟨0, rfl⟩
theorem Drawn.drewN {w u : World} (h : Drawn w u) (n : Nat) : Drawn w (u.drewN n) := by
  obtain ⟨k, rfl⟩ := h
  exact ⟨k + n, by simp [World.drewN, Nat.add_assoc]⟩
theorem Drawn.trans {w u v : World} (h : Drawn w u) (k : Drawn u v) : Drawn w v := by
  obtain ⟨n, rfl⟩ := k
  exact h.drewN n
theorem Drawn.below {w u : World} (h : Drawn w u) (B : Nat) : Below B w u := by
  obtain ⟨n, rfl⟩ := h
  exact ⟨rfl, rfl, rfl, Nat.le_refl _, fun _ _ => rfl⟩
/-- Bits that lie side by side. -/
def Lb (w : World) (a : Option Addr) (l : List Bool) : Prop := l = [] ∨ ∃ (b o : Nat), a = some ⟨b, o, none⟩ ∧ ∀ (i : Nat) (x : Bool), l[i]? = some x → w.cell? ⟨b, o + i, none⟩ = some (.bool x)
theorem Lb.below {w u : World} {a : Option Addr} {l : List Bool} (h : Lb w a l) (k : Below w.heap.size w u) : Lb u a l := by
  rcases h with h | ⟨b, o, ha, hc⟩
  · exact Or.inl h
  · exact Or.inr ⟨b, o, ha, fun i x hx => (k.cell (p := ⟨b, o + i, none⟩) (World.block_lt_of_cell? w ⟨b, o + i, none⟩ (hc i x hx))).trans (hc i x hx)⟩
theorem Bb.lb {w : World} {b : Nat} {l : List Bool} (h : Bb w b l) : Lb w (some ⟨b, 0, none⟩) l := Or.inr ⟨b, 0, rfl, fun i x hx => by
  rw [Nat.zero_add, Cells.cell h]; simp [vb, hx]⟩
theorem pre_step {α : Type} {p q : List α} {k : Nat} {x y : α} (h : p.take k = q.take k) (hx : p[k]? = some x) (hy : q[k]? = some y) : p.take (k + 1) = q.take (k + 1) ↔ x = y := by
  rw [take_one hx, take_one hy, h]
  simp
set_option maxRecDepth 100000 in
set_option maxHeartbeats 2000000 in
theorem begins_c (a b : Option Addr) (p q : List Bool) (P Q C D : Nat) (r : Bool) (w : World) (h1 : Lb w a p) (h2 : Lb w b q) (hP : p.length = P) (hQ : q.length = Q) (hb : Q < 1048576) (hr : r = decide (q <+: p)) :
    Calls Tryd.prog 76 #[.slice a P C, .slice b Q D] w fun e w' => e = .returned (.bool r) ∧ Drawn w w' := by
  have AH : Aside (Lb w a p ∧ Lb w b q ∧ p.length = P ∧ q.length = Q ∧ Q < 1048576 ∧ r = decide (q <+: p)) := ⟨h1, h2, hP, hQ, hb, hr⟩
  clear h1 h2 hP hQ hb hr
  by_cases hlt : P < Q
  · have hi : (P : Int) < (Q : Int) := by omega
    have hf : r = false := by
      rw [AH.out.2.2.2.2.2]
      exact decide_eq_false fun h => by have := h.length_le; have := AH.out; omega
    subst hf
    clear hlt
    go_enter Tryd.func76, Tryd.ntmps76
    go_wp2_with fail
    go_ret
    exact ⟨rfl, Drawn.refl _⟩
  have hi : ¬ (P : Int) < (Q : Int) := by omega
  have AL : Aside (Q ≤ P) := by show _ ≤ _; omega
  clear hlt
  go_enter Tryd.func76, Tryd.ntmps76
  go_wp2_with fail
  clear hi
  go_loopg [5] Q (fun g si wr => ∃ i : Nat, si = .int .i64 i ∧ Aside (i + g = Q ∧ p.take i = q.take i ∧ Drawn w wr))
  case atStart => exact ⟨0, rfl, ⟨by omega, by simp, Drawn.refl _⟩⟩
  case round =>
    obtain ⟨i, rfl, hI⟩ := hrel
    by_cases hiQ : i < Q
    · have hi : (i : Int) < (Q : Int) := by omega
      have hi2 : (i : Int) < (P : Int) := by have := AL.out; omega
      obtain ⟨x, hx⟩ : ∃ x, p[i]? = some x := ⟨_, List.getElem?_eq_getElem (by have := AH.out; have := AL.out; omega)⟩
      obtain ⟨y, hy⟩ : ∃ y, q[i]? = some y := ⟨_, List.getElem?_eq_getElem (by have := AH.out; omega)⟩
      have hst := pre_step hI.out.2.1 hx hy
      have l1 := AH.out.1.below (Drawn.below hI.out.2.2 _)
      have l2 := AH.out.2.1.below (Drawn.below hI.out.2.2 _)
      rcases l1 with e | ⟨b1, o1, rfl, hc1⟩
      · rw [e] at hx; simp at hx
      rcases l2 with e | ⟨b2, o2, rfl, hc2⟩
      · rw [e] at hy; simp at hy
      have c1 := hc1 i x hx
      have c2 := hc2 i y hy
      have hib : (i : Int) < 1048576 := by have := AH.out; omega
      have AI : Aside (i < Q) := hiQ
      by_cases hxy : x = y
      · subst hxy
        have ht : Aside (p.take (i + 1) = q.take (i + 1)) := hst.2 rfl
        clear hx hy hst hc1 hc2 hiQ
        cases x
        all_goals (
          go_wp2_with fail
          go_quiet (fail)
          go_wp2_with fail
          have h1 := hI.out; have h2 := AI.out
          go_roundg (Q - (i + 1))
          case measure => omega
          case rel => exact ⟨i + 1, by go_num, ⟨by omega, ht.out, h1.2.2.drewN _⟩⟩)
      · have hf : r = false := by
          rw [AH.out.2.2.2.2.2]
          refine decide_eq_false fun h => hxy (hst.1 ?_)
          have h3 := List.prefix_iff_eq_take.1 h
          have h4 : q.take (i + 1) = p.take (i + 1) := by
            have hq := AH.out.2.2.2.1
            rw [h3, List.take_take, hq, Nat.min_eq_left (by have := AI.out; omega)]
          exact h4.symm
        subst hf
        clear hx hy hst hc1 hc2 hiQ
        cases x <;> cases y
        · exact absurd rfl hxy
        · clear hxy
          go_wp2_with fail
          go_quiet (fail)
          go_wp2_with fail
          go_ret
          exact ⟨rfl, hI.out.2.2.drewN _⟩
        · clear hxy
          go_wp2_with fail
          go_quiet (fail)
          go_wp2_with fail
          go_ret
          exact ⟨rfl, hI.out.2.2.drewN _⟩
        · exact absurd rfl hxy
    · have hi : ¬ (i : Int) < (Q : Int) := by omega
      have ht : r = true := by
        rw [AH.out.2.2.2.2.2]
        refine decide_eq_true ?_
        have h1 := hI.out.2.1
        rw [List.take_of_length_le (l := q) (by have := AH.out; omega)] at h1
        rw [← h1]; exact List.take_prefix _ _
      subst ht
      clear hiQ
      go_wp2_with fail
      go_ret
      exact ⟨rfl, hI.out.2.2⟩
end Go.Proofs.YtikdpnpkmmmacaaDoor

/-
  What the document's Look and Code come to.
  Conditions: the table and the bits lie in memory; the lengths make codes.
-/
namespace Go.Proofs.YtikdpnpkmmmacaaDoor
open Go.RowKit
set_option linter.unusedVariables false
/-- What a look at some bits tells: the symbol, what came, how many bits. -/
def Told (ls : List Nat) (h : List Bool) (s how k : Nat) : Prop :=
  (Hit ls h s k ∧ how = 0) ∨ ((∀ i n, ¬ Hit ls h i n) ∧ (∃ j n, ls[j]? = some n ∧ 0 < n ∧ h <+: cbits ls j) ∧ s = 0 ∧ how = 1 ∧ k = 0) ∨ ((∀ i n, ¬ Hit ls h i n) ∧ (¬ ∃ j n, ls[j]? = some n ∧ 0 < n ∧ h <+: cbits ls j) ∧ s = 0 ∧ how = 2 ∧ k = 0)
theorem cbits_at {ls : List Nat} {i n : Nat} (h : ls[i]? = some n) : cbits ls i = bitsB n (code ls i n) := by unfold cbits; rw [h]
set_option maxRecDepth 100000 in
set_option maxHeartbeats 4000000 in
theorem rlook_c (T : Nat) (ls : List Nat) (a : Option Addr) (h : List Bool) (H C L s how k : Nat) (w : World) (ht : Tb w T ls) (hl : Lb w a h) (hH : h.length = H) (hHb : H < 1048576) (hL : ls.length = L) (hLb : L ≤ 320) (hk : part ls 15 ≤ 32768) (h15 : ∀ l ∈ ls, l ≤ 15) (hr : Told ls h s how k) :
    Calls Tryd.prog 64 #[.pointer (some ⟨T, 0, none⟩), .slice a H C] w fun e w' => e = .returned (.tuple #[.int .i64 (s : Int), .int .i64 (how : Int), .int .i64 (k : Int)]) ∧ Drawn w w' := by
  have AH : Aside (Tb w T ls ∧ Lb w a h ∧ h.length = H ∧ H < 1048576 ∧ ls.length = L ∧ L ≤ 320 ∧ part ls 15 ≤ 32768 ∧ (∀ l ∈ ls, l ≤ 15)) := ⟨ht, hl, hH, hHb, hL, hLb, hk, h15⟩
  have AR : Aside (Told ls h s how k) := hr
  clear ht hl hH hHb hL hLb hk h15 hr
  obtain ⟨g, rows, cT, cR, hrow⟩ := AH.out.1.cells
  rw [AH.out.2.2.2.2.1] at cT
  have hTl := World.block_lt_of_cell? w ⟨T, 0, none⟩ cT
  have AT : Aside (w.cell? ⟨T, 0, none⟩ = some (.slice (some ⟨g, 0, none⟩) L L) ∧ T < w.heap.size ∧ Cells w g rows 92) := ⟨cT, hTl, cR⟩
  have AW : Aside (∀ (j m : Nat), ls[j]? = some m → (0 < m → ∃ b, rows[j]? = some (.slice (some ⟨b, 0, none⟩) m m) ∧ Bb w b (bitsB m (code ls j m))) ∧ (m = 0 → rows[j]? = some (.slice none 0 0))) := hrow
  clear cT cR hrow hTl
  go_enter Tryd.func64, Tryd.ntmps64
  go_wp2_with fail
  go_loopg [7, 8] L (fun gg sm si wr => ∃ (mo : Bool) (i : Nat), sm = .bool mo ∧ si = .int .i64 i ∧ Aside (i + gg = L ∧ (∀ j n, j < i → ¬ Hit ls h j n) ∧ (mo = true ↔ ∃ j n, j < i ∧ ls[j]? = some n ∧ 0 < n ∧ h <+: cbits ls j) ∧ Drawn w wr))
  case atStart => exact ⟨false, 0, rfl, rfl, ⟨by omega, fun j n h => by omega, ⟨fun h => (by cases h), fun ⟨j, n, h, _⟩ => by omega⟩, Drawn.refl _⟩⟩
  case round =>
    obtain ⟨mo, i, rfl, rfl, hI⟩ := hrel
    have bd := Drawn.below hI.out.2.2.2 w.heap.size
    have cT : wr.cell? ⟨T, 0, none⟩ = some (.slice (some ⟨g, 0, none⟩) L L) := (bd.cell (p := ⟨T, 0, none⟩) AT.out.2.1).trans AT.out.1
    by_cases hiL : i < L
    · have hi : (i : Int) < (L : Int) := by omega
      obtain ⟨l, hl⟩ : ∃ l, ls[i]? = some l := ⟨_, List.getElem?_eq_getElem (by have := AH.out; omega)⟩
      have hr := AW.out i l hl
      have cg : ∀ {v : Value}, rows[i]? = some v → wr.cell? ⟨g, i, none⟩ = some v := fun {v} hv => (bd.cell (p := ⟨g, i, none⟩) AT.out.2.2.lt).trans ((AT.out.2.2.cell i).trans hv)
      have hib : (i : Int) < 320 := by have := AH.out; omega
      have AI : Aside (i < L ∧ ls[i]? = some l) := ⟨hiL, hl⟩
      clear hiL hl
      by_cases hl0 : l = 0
      · subst hl0
        have cz := cg (hr.2 rfl)
        have A2 : Aside ((∀ j n, j < i + 1 → ¬ Hit ls h j n) ∧ (mo = true ↔ ∃ j n, j < i + 1 ∧ ls[j]? = some n ∧ 0 < n ∧ h <+: cbits ls j)) := by
          refine ⟨fun j n hj hh => ?_, ?_⟩
          · by_cases e : j = i
            · subst e; have := hh.1; rw [AI.out.2] at this; cases this; exact absurd hh.2.1 (by omega)
            · exact hI.out.2.1 j n (by omega) hh
          · rw [hI.out.2.2.1]
            constructor
            · rintro ⟨j, n, h1, h2⟩; exact ⟨j, n, by omega, h2⟩
            · rintro ⟨j, n, h1, h2, h3, h4⟩
              by_cases e : j = i
              · subst e; rw [AI.out.2] at h2; cases h2; omega
              · exact ⟨j, n, by omega, h2, h3, h4⟩
        clear hr cg bd
        go_wp2_with fail
        have h1 := hI.out; have h2 := AI.out
        go_roundg (L - (i + 1))
        case measure => omega
        case rel => exact ⟨mo, i + 1, rfl, by go_num, ⟨by omega, A2.out.1, A2.out.2, h1.2.2.2⟩⟩
      · obtain ⟨b, hb1, hb2⟩ := hr.1 (by omega)
        have cz := cg hb1
        have hlp : (l : Int) ≠ 0 := by omega
        have hle : ((l : Int) == 0) = false := by rw [beq_eq_false_iff_ne]; exact hlp
        have l15 := AH.out.2.2.2.2.2.2.2 l (List.mem_of_getElem? AI.out.2)
        have hlb : Lb w (some ⟨b, 0, none⟩) (cbits ls i) := by rw [cbits_at AI.out.2]; exact hb2.lb
        have hcl : (cbits ls i).length = l := by rw [cbits_at AI.out.2, bitsB_len]
        have hhit := hit_prefix (h := h) AH.out.2.2.2.2.2.2.1 AH.out.2.2.2.2.2.2.2 AI.out.2 (by omega)
        have A3 : Aside (l ≠ 0 ∧ l ≤ 15 ∧ Lb w (some ⟨b, 0, none⟩) (cbits ls i) ∧ (cbits ls i).length = l ∧ (cbits ls i <+: h ↔ Hit ls h i l)) := ⟨hl0, l15, hlb, hcl, hhit⟩
        have hbeg := begins_c a (some ⟨b, 0, none⟩) h (cbits ls i) H l C l (decide (cbits ls i <+: h)) wr (AH.out.2.1.below (Drawn.below hI.out.2.2.2 _)) (hlb.below (Drawn.below hI.out.2.2.2 _)) AH.out.2.2.1 hcl (by omega) rfl
        clear hr cg bd hb1 hb2 hl0 l15 hlb hcl hhit
        by_cases hp : cbits ls i <+: h
        · rw [decide_eq_true hp] at hbeg
          have A4 : Aside (i = s ∧ how = 0 ∧ l = k) := by
            have hh := A3.out.2.2.2.2.1 hp
            rcases AR.out with ⟨h1, h2⟩ | ⟨h1, _⟩ | ⟨h1, _⟩
            · obtain ⟨e1, e2⟩ := hit_one hh h1
              exact ⟨e1, h2, e2⟩
            · exact absurd hh (h1 i l)
            · exact absurd hh (h1 i l)
          clear hp
          go_wp2_with (go_at_call 76; refine hbeg.mono ?_; rintro e5 w5 ⟨rfl, hd5⟩)
          go_ret3
          obtain ⟨rfl, rfl, rfl⟩ := A4.out
          exact ⟨rfl, hI.out.2.2.2.trans hd5⟩
        · rw [decide_eq_false hp] at hbeg
          have A2 : Aside (∀ j n, j < i + 1 → ¬ Hit ls h j n) := by
            intro j n hj hh
            by_cases e : j = i
            · subst e
              have e2 := hh.1; rw [AI.out.2] at e2; cases e2
              exact hp (A3.out.2.2.2.2.2 hh)
            · exact hI.out.2.1 j n (by omega) hh
          clear hp
          cases mo with
          | true =>
            have A5 : Aside (∃ j n, j < i + 1 ∧ ls[j]? = some n ∧ 0 < n ∧ h <+: cbits ls j) := by
              obtain ⟨j, n, h1, h2⟩ := hI.out.2.2.1.1 rfl
              exact ⟨j, n, by omega, h2⟩
            go_wp2_with (go_at_call 76; refine hbeg.mono ?_; rintro e5 w5 ⟨rfl, hd5⟩)
            have h1 := hI.out; have h2 := AI.out
            go_roundg (L - (i + 1))
            case measure => omega
            case rel => exact ⟨true, i + 1, rfl, by go_num, ⟨by omega, A2.out, ⟨fun _ => A5.out, fun _ => rfl⟩, h1.2.2.2.trans hd5⟩⟩
          | false =>
            obtain ⟨q, hq⟩ : ∃ q, decide (h <+: cbits ls i) = q := ⟨_, rfl⟩
            have A5 : Aside (q = true ↔ ∃ j n, j < i + 1 ∧ ls[j]? = some n ∧ 0 < n ∧ h <+: cbits ls j) := by
              rw [← hq, decide_eq_true_iff]
              constructor
              · intro hh; exact ⟨i, l, by omega, AI.out.2, by have := A3.out; omega, hh⟩
              · rintro ⟨j, n, h1, h2, h3, h4⟩
                by_cases e : j = i
                · subst e; exact h4
                · exact absurd (hI.out.2.2.1.2 ⟨j, n, by omega, h2, h3, h4⟩) (by simp)
            have hbeg2 := fun (W : World) (hW : Drawn w W) => begins_c (some ⟨b, 0, none⟩) a (cbits ls i) h l H l C q W (A3.out.2.2.1.below (Drawn.below hW _)) (AH.out.2.1.below (Drawn.below hW _)) A3.out.2.2.2.1 AH.out.2.2.1 AH.out.2.2.2.1 hq.symm
            have BG : Aside (∀ W, Drawn w W → _) := hbeg2
            clear hbeg2 hq
            go_wp2_with (first
              | (go_at_call 76; with_reducible refine hbeg.mono ?_; rintro e5 w5 ⟨rfl, hd5⟩
                 have hdd : Drawn w w5 := hI.out.2.2.2.trans hd5
                 have hb2 := BG.out w5 hdd
                 have A6 : Aside (Drawn w w5) := hdd
                 clear hdd hd5)
              | (go_at_call 76; with_reducible refine hb2.mono ?_; rintro e6 w6 ⟨rfl, hd6⟩))
            have h1 := hI.out; have h2 := AI.out
            go_roundg (L - (i + 1))
            case measure => omega
            case rel => exact ⟨q, i + 1, rfl, by go_num, ⟨by omega, A2.out, A5.out, A6.out.trans hd6⟩⟩
    · have hi : ¬ (i : Int) < (L : Int) := by omega
      have hno : ∀ j n, ¬ Hit ls h j n := fun j n hh => hI.out.2.1 j n (by have := (List.getElem?_eq_some_iff.1 hh.1).1; have := AH.out; omega) hh
      have hmo : mo = true ↔ ∃ j n, ls[j]? = some n ∧ 0 < n ∧ h <+: cbits ls j := by
        rw [hI.out.2.2.1]
        constructor
        · rintro ⟨j, n, _, h2⟩; exact ⟨j, n, h2⟩
        · rintro ⟨j, n, h2⟩; exact ⟨j, n, by have := (List.getElem?_eq_some_iff.1 h2.1).1; have := AH.out; omega, h2⟩
      have A7 : Aside ((mo = true ∧ s = 0 ∧ how = 1 ∧ k = 0) ∨ (mo = false ∧ s = 0 ∧ how = 2 ∧ k = 0)) := by
        rcases AR.out with ⟨h1, _⟩ | ⟨_, h1, h2⟩ | ⟨_, h1, h2⟩
        · exact absurd h1 (hno s k)
        · exact Or.inl ⟨hmo.2 h1, h2⟩
        · refine Or.inr ⟨?_, h2⟩
          cases hm : mo with
          | false => rfl
          | true => exact absurd (hmo.1 hm) h1
      clear hiL hno hmo bd
      rcases A7.out with ⟨rfl, rfl, rfl, rfl⟩ | ⟨rfl, rfl, rfl, rfl⟩
      · go_wp2_with fail
        go_ret3
        exact ⟨rfl, hI.out.2.2.2⟩
      · go_wp2_with fail
        go_ret3
        exact ⟨rfl, hI.out.2.2.2⟩
theorem num_take_snoc {l : List Bool} {k : Nat} {x : Bool} (h : l[k]? = some x) : num (l.take (k + 1)) = 2 * num (l.take k) + (if x then 1 else 0) := by
  rw [take_one h, num_app]
  cases x <;> simp [num] <;> omega
end Go.Proofs.YtikdpnpkmmmacaaDoor

/-
  What Reverse comes to, the program's and the document's: the lowest m bits of v, the lowest one first, gathered as a number; m is n between 0 and 32.
  Conditions: v is a number of 32 bits.
-/
namespace Go.Proofs.YtikdpnpkmmmacaaDoor
open Go.RowKit
/-- k bits of v, the lowest one first, behind those of o. -/
def revl : Nat → Nat → Nat → Nat
  | 0, _, o => o
  | k + 1, v, o => revl k (v / 2) (2 * o + v % 2)
theorem revl_lt : ∀ (k v o i : Nat), o < 2 ^ i → revl k v o < 2 ^ (i + k)
  | 0, _, _, _, h => h
  | k + 1, v, o, i, h => by
    have := revl_lt k (v / 2) (2 * o + v % 2) (i + 1) (by rw [Nat.pow_succ]; omega)
    rw [show i + (k + 1) = i + 1 + k by omega]; exact this
theorem revl_add : ∀ (k v o : Nat), revl k v o = o * 2 ^ k + revl k v 0
  | 0, _, o => by simp [revl]
  | k + 1, v, o => by
    rw [revl, revl, revl_add k (v / 2) (2 * o + v % 2), revl_add k (v / 2) (2 * 0 + v % 2), Nat.pow_succ, Nat.add_mul, Nat.mul_zero, Nat.zero_add]
    rw [show 2 * o * 2 ^ k = o * (2 ^ k * 2) by rw [Nat.mul_comm 2 o, Nat.mul_assoc, Nat.mul_comm 2]]
    omega
/-- The highest bit comes last. -/
theorem revl_last : ∀ (k v : Nat), revl (k + 1) v 0 = 2 * revl k v 0 + v / 2 ^ k % 2
  | 0, v => by simp [revl]
  | k + 1, v => by
    rw [revl, revl_add (k + 1), revl_last k (v / 2), revl, revl_add k (v / 2) (2 * 0 + v % 2), Nat.div_div_eq_div_mul, ← Nat.pow_succ']
    rw [Nat.mul_zero, Nat.zero_add, Nat.pow_succ, ← Nat.mul_assoc]
    omega
theorem revl_div (k v : Nat) : revl k v 0 / 2 ^ k = 0 := Nat.div_eq_of_lt (by have := revl_lt k v 0 0 (by decide); rwa [Nat.zero_add] at this)
/-- Bits above the first k do not matter. -/
theorem revl_high : ∀ (k v o c : Nat), revl k (v + c * 2 ^ k) o = revl k v o
  | 0, _, _, _ => rfl
  | k + 1, v, o, c => by
    rw [revl, revl]
    have e : c * 2 ^ (k + 1) = 2 * (c * 2 ^ k) := by rw [Nat.pow_succ, ← Nat.mul_assoc, Nat.mul_comm]
    rw [e, show (v + 2 * (c * 2 ^ k)) % 2 = v % 2 by omega, show (v + 2 * (c * 2 ^ k)) / 2 = v / 2 + c * 2 ^ k by omega]
    exact revl_high k _ _ _
/-- Turned round again they are as they were. -/
theorem revl_twice : ∀ (k v : Nat), revl k (revl k v 0) 0 = v % 2 ^ k
  | 0, v => by simp [revl, Nat.mod_one]
  | k + 1, v => by
    rw [revl_last k (revl (k + 1) v 0)]
    have e1 : revl (k + 1) v 0 = revl k (v / 2) 0 + v % 2 * 2 ^ k := by rw [revl, revl_add, Nat.mul_zero, Nat.zero_add]; omega
    rw [e1, revl_high, revl_twice k (v / 2)]
    have h0 : 0 < 2 ^ k := Nat.two_pow_pos k
    have e2 : (revl k (v / 2) 0 + v % 2 * 2 ^ k) / 2 ^ k = v % 2 := by
      rw [Nat.add_mul_div_right _ _ h0, revl_div, Nat.zero_add]
    rw [e2]
    have e3 : v % 2 ^ (k + 1) = v % 2 + 2 * (v / 2 % 2 ^ k) := by rw [Nat.pow_succ', Nat.mod_mul]
    omega
/-- A bit more at the low end of a number of at most 31 bits. -/
theorem or_bit (o v i : Nat) (ho : o < 2 ^ i) (hi : i < 32) (hv : v < 4294967296) : bits .or .u32 ((o : Int) * 2 % 4294967296) (bits .and .u32 (v : Int) 1) = ((2 * o + v % 2 : Nat) : Int) := by
  have h1 : 2 ^ i ≤ 2147483648 := pow_le64 (show i ≤ 31 by omega)
  have e : (o : Int) * 2 % 4294967296 = ((2 * o : Nat) : Int) := by omega
  rw [e, show (1 : Int) = ((1 : Nat) : Int) from rfl, u32_and_nat v 1 hv (by decide), Nat.and_one_is_mod, u32_or_nat _ _ (by omega) (by omega)]
  congr 1
  exact (Nat.two_pow_add_eq_or_of_lt (i := 1) (b := v % 2) (by omega) o).symm

/-- n between 0 and 32. -/
def clamp (n : Int) : Nat := (max 0 (min n 32)).toNat
theorem clamp_le (n : Int) : clamp n ≤ 32 := by unfold clamp; omega

set_option maxHeartbeats 1000000 in
theorem rev_c (v : Nat) (hv : v < 4294967296) (n : Int) (w : World) :
    Calls Tryd.prog 88 #[.int .u32 v, .int .i64 n] w fun e w' => e = .returned (.int .u32 (revl (clamp n) v 0 : Nat)) ∧ w = w' := by
  obtain ⟨m, hm⟩ : ∃ m, clamp n = m := ⟨_, rfl⟩
  have hm2 : (m : Int) = max 0 (min n 32) := by unfold clamp at hm; omega
  rw [hm]
  go_enter Tryd.func88, Tryd.ntmps88
  go_wp2
  all_goals
    go_loop [0, 5, 9] (fun a o i => ∃ k v' o' : Nat, k ≤ m ∧ i = .int .i64 k ∧ a = .int .u32 v' ∧ o = .int .u32 o' ∧ v' < 4294967296 ∧ o' < 2 ^ k ∧ revl (m - k) v' o' = revl m v 0) (fun _ _ i => m - (intOf i).toNat)
    case atStart => exact ⟨0, v, 0, Nat.zero_le _, rfl, rfl, rfl, hv, by decide, rfl⟩
    case round =>
      obtain ⟨k, v', o', hk, rfl, rfl, rfl, hv', ho', hr⟩ := hrel
      go_wp2
      all_goals first
        | (have hlt : k < m := by omega
           obtain ⟨j, hj⟩ : ∃ j, m - k = j + 1 := ⟨m - k - 1, by omega⟩
           rw [hj, revl] at hr
           have hp : 2 ^ k ≤ 2147483648 := pow_le64 (show k ≤ 31 by omega)
           go_round
           case rel =>
             refine ⟨k + 1, v' / 2, 2 * o' + v' % 2, by omega, by go_num, by go_num, ?_, by omega, by rw [Nat.pow_succ]; omega, by rw [show m - (k + 1) = j by omega]; exact hr⟩
             rw [← or_bit o' v' k ho' (by omega) hv']
           case measure => simp [intOf]; omega)
        | (have hke : k = m := by omega
           subst hke
           rw [Nat.sub_self, revl] at hr
           go_ret
           exact ⟨by rw [← hr]; rfl, rfl⟩)
end Go.Proofs.YtikdpnpkmmmacaaDoor

/-
  Bits that a reader holds, as a number and turned round: the number of the first ones, the first one highest. No walk in this text.
-/
namespace Go.Proofs.YtikdpnpkmmmacaaDoor
open Go.RowKit
set_option linter.unusedVariables false
theorem radd_off (g o j : Nat) : (⟨g, o, none⟩ : Addr).add j = ⟨g, o + j, none⟩ := by unfold Addr.add; split <;> simp_all
theorem Told.le {ls : List Nat} {h : List Bool} {s how k : Nat} (t : Told ls h s how k) : k ≤ h.length := by
  rcases t with ⟨h1, _⟩ | ⟨_, _, _, _, rfl⟩ | ⟨_, _, _, _, rfl⟩
  · exact h1.2.2.1
  · omega
  · omega
theorem nm_bit {l : List Bool} {k : Nat} {x : Bool} (h : l[k]? = some x) : nm l / 2 ^ k % 2 = if x then 1 else 0 := by
  obtain ⟨hk, e⟩ := List.getElem?_eq_some_iff.1 h
  rw [← nm_drop, nm_ahead l k hk, e]
  cases x <;> simp <;> omega
theorem rev_num {l : List Bool} : ∀ k, k ≤ l.length → revl k (nm l) 0 = num (l.take k)
  | 0, _ => by simp [revl, num]
  | k + 1, h => by
    obtain ⟨x, hx⟩ : ∃ x, l[k]? = some x := ⟨_, List.getElem?_eq_getElem (by omega)⟩
    rw [revl_last, rev_num k (by omega), nm_bit hx, num_take_snoc hx]
/-- Of a number's lowest bits alone. -/
theorem rev_mod (n m v : Nat) (h : n ≤ m) : revl n (v % 2 ^ m) 0 = revl n v 0 := by
  have e : v = v % 2 ^ m % 2 ^ n + v / 2 ^ n * 2 ^ n := by
    rw [Nat.mod_mod_of_dvd _ (Nat.pow_dvd_pow 2 h), Nat.mul_comm]; exact (Nat.mod_add_div v (2 ^ n)).symm
  have e2 : v % 2 ^ m = v % 2 ^ m % 2 ^ n + v % 2 ^ m / 2 ^ n * 2 ^ n := by rw [Nat.mul_comm]; exact (Nat.mod_add_div _ _).symm
  rw [e2, revl_high, e, revl_high, ← e]
end Go.Proofs.YtikdpnpkmmmacaaDoor

/-
  Worlds in which of all blocks that were there one alone may have turned.
-/
namespace Go.Proofs.YtikdpnpkmmmacaaDoor
open Go.RowKit
set_option linter.unusedVariables false
/-- Of all blocks that are there M alone may have turned. -/
structure But (M : Nat) (w w' : World) : Prop where
  os : w'.os = w.os
  tape : w'.tape = w.tape
  output : w'.output = w.output
  size : w.heap.size ≤ w'.heap.size
  block : ∀ k, k < w.heap.size → k ≠ M → w'.heap[k]? = w.heap[k]?
end Go.Proofs.YtikdpnpkmmmacaaDoor

/-
  What each method of bits' Reader comes to: at a nil reader, and at one that lies in memory, whose wide number is v and whose count is n.
  Conditions: n is at most 64, and v is below 2 to the n.
-/
namespace Go.Proofs.YtikdpnpkmmmacaaDoor
open Go.RowKit

/-- A scope whose one label is jumped to, forward: what stands behind the label is gone through from there. -/
theorem wp_scope_forward {P : Program} {a : Act} {w : World} {Q : Exit → Act → World → Prop} {c rest : Code} (l : Nat) (hf : findLabel c l = some rest)
    (first : c.wp P (Exit.jump l (fun a w => rest.wp P (Exit.noGoto Q) a w) Q) a w) : (Code.scope c).wp P Q a w := by
  refine wp_scope_jumps l _ (fun _ _ => 0) hf first ?_
  intro a w h
  refine wp_mono h ?_
  intro e a w hq
  cases e with
  | goto l => exact hq.elim
  | _ => exact hq
section
variable {Q : Exit → Act → World → Prop} {a : Act} {w : World} {l : Nat} {J : Act → World → Prop}
theorem jump_ret : Exit.jump l J Q .ret a w = Q .ret a w := rfl
end

/-! ### nil -/
theorem held_nil (w : World) : Calls Tryd.prog 87 #[.pointer none] w fun e w' => e = .returned (.int .i64 0) ∧ w' = w := by
  go_enter Tryd.func87, Tryd.ntmps87
  go_wp2
  go_ret
  exact ⟨rfl, rfl⟩
theorem put_nil (b : Int) (w : World) : Calls Tryd.prog 34 #[.pointer none, .int .u8 b] w fun e w' => e = .returned (.bool false) ∧ w' = w := by
  go_enter Tryd.func34, Tryd.ntmps34
  go_wp2
  refine wp_scope_forward 0 rfl ?_
  go_wp2
  go_step3
  refine ⟨rfl, ?_⟩
  go_wp2
  rw [Exit.noGoto_ret]
  go_ret
  exact ⟨rfl, rfl⟩
theorem peek_nil (n : Int) (w : World) : Calls Tryd.prog 67 #[.pointer none, .int .i64 n] w fun e w' => e = .returned (.tuple #[.int .u32 0, .bool false]) ∧ w' = w := by
  go_enter Tryd.func67, Tryd.ntmps67
  go_wp2
  refine wp_scope_forward 0 rfl ?_
  go_wp2
  go_step3
  refine ⟨rfl, ?_⟩
  go_wp2
  rw [Exit.noGoto_ret]
  go_ret2
  exact ⟨rfl, rfl⟩
theorem take_nil (n : Int) (w : World) : Calls Tryd.prog 50 #[.pointer none, .int .i64 n] w fun e w' => e = .returned (.tuple #[.int .u32 0, .bool false]) ∧ w' = w := by
  go_enter Tryd.func50, Tryd.ntmps50
  go_wp2_with fail
  refine wp_scope_forward 0 rfl ?_
  go_wp2_with fail
  refine (peek_nil n _).mono ?_
  rintro e w' ⟨rfl, rfl⟩
  go_wp2_with fail
  go_step3
  refine ⟨rfl, ?_⟩
  go_wp2
  rw [Exit.noGoto_ret]
  go_ret2
  exact ⟨rfl, rfl⟩
/-! ### a reader that is there -/
/-- Block b holds a reader: its wide number, and its count. -/
def Rd (w : World) (b : Nat) (v n : Int) : Prop := ∃ t, Cells w b #[.int .u64 v, .int .u64 n] t
section
variable {w u : World} {b c : Nat} {v n : Int}
theorem Rd.c0 (h : Rd w b v n) : w.cell? ⟨b, 0, none⟩ = some (.int .u64 v) := by obtain ⟨t, h⟩ := h; rw [h.cell 0]; rfl
theorem Rd.c1 (h : Rd w b v n) : w.cell? ⟨b, 1, none⟩ = some (.int .u64 n) := by obtain ⟨t, h⟩ := h; rw [h.cell 1]; rfl
theorem Rd.fz (h : Rd w b v n) (i : Nat) : w.frozen? ⟨b, i, none⟩ = false := by obtain ⟨t, h⟩ := h; exact h.frozen i
theorem Rd.set0 (h : Rd w b v n) (v' : Int) : Rd (w.setCell ⟨b, 0, none⟩ (.int .u64 v')) b v' n := by obtain ⟨t, h⟩ := h; exact ⟨t, h.set 0 _⟩
theorem Rd.set1 (h : Rd w b v n) (n' : Int) : Rd (w.setCell ⟨b, 1, none⟩ (.int .u64 n')) b v n' := by obtain ⟨t, h⟩ := h; exact ⟨t, h.set 1 _⟩
theorem Rd.drewN (h : Rd w b v n) (k : Nat) : Rd (w.drewN k) b v n := h
theorem Rd.drew (h : Rd w b v n) : Rd w.drew b v n := h
theorem Rd.only (h : Rd w b v n) (k : Only c w u) (hb : b ≠ c) : Rd u b v n := by obtain ⟨t, h⟩ := h; exact ⟨t, h.only k hb⟩
theorem Rd.below {B : Nat} (h : Rd w b v n) (k : Below B w u) (hb : b < B) : Rd u b v n := by obtain ⟨t, h⟩ := h; exact ⟨t, h.below k hb⟩
theorem Rd.alloc (h : Rd w b v n) (o : Obj) : Rd (w.alloc o) b v n := by obtain ⟨t, h⟩ := h; exact ⟨t, h.alloc o⟩
theorem Rd.lt (h : Rd w b v n) : b < w.heap.size := by obtain ⟨t, h⟩ := h; exact h.lt
end
theorem Rd.new (w : World) (t : TypeId) : Rd (w.alloc (.cells #[.int .u64 0, .int .u64 0] t)) w.heap.size 0 0 := ⟨t, Cells.new w _ t⟩

theorem new_any (w : World) : Calls Tryd.prog 31 #[] w fun e w' => e = .returned (.pointer (some ⟨w.heap.size, 0, none⟩)) ∧ w' = w.alloc (.cells #[.int .u64 0, .int .u64 0] 102) := by
  go_enter Tryd.func31, Tryd.ntmps31
  go_wp2
  go_ret
  exact ⟨rfl, rfl⟩
theorem new_c (w : World) : Calls Tryd.prog 31 #[] w fun e w' => e = .returned (.pointer (some ⟨w.heap.size, 0, none⟩)) ∧ Rd w' w.heap.size 0 0 ∧ Below w.heap.size w w' ∧ w'.heap.size = w.heap.size + 1 :=
  (new_any w).mono fun _ _ h => ⟨h.1, by rw [h.2]; exact Rd.new _ _, by rw [h.2]; exact (Below.refl _ _).alloc (Nat.le_refl _) _, by rw [h.2]; simp⟩
theorem held_c (b : Nat) (v n : Int) (w : World) (h : Rd w b v n) (h0 : 0 ≤ n) (h64 : n ≤ 64) :
    Calls Tryd.prog 87 #[.pointer (some ⟨b, 0, none⟩)] w fun e w' => e = .returned (.int .i64 n) ∧ w = w' := by
  have h1 := h.c1
  go_enter Tryd.func87, Tryd.ntmps87
  go_wp2
  go_ret
  exact ⟨rfl, rfl⟩
end Go.Proofs.YtikdpnpkmmmacaaDoor

/-
  What each method of bits' Reader comes to, at a reader in memory that holds n bits, their number v.
  Conditions: n is at most 64, and v is below 2 to the n; each method keeps that.
-/
namespace Go.Proofs.YtikdpnpkmmmacaaDoor
open Go.RowKit

/-- Block b holds a reader of n bits, whose number is v. -/
structure Br (w : World) (b v n : Nat) : Prop where
  rd : Rd w b v n
  lt : v < 2 ^ n
  le : n ≤ 64
section
variable {w u : World} {b c v n : Nat}
theorem Br.drewN (h : Br w b v n) (k : Nat) : Br (w.drewN k) b v n := ⟨h.rd, h.lt, h.le⟩
theorem Br.drew (h : Br w b v n) : Br w.drew b v n := ⟨h.rd, h.lt, h.le⟩
theorem Br.only (h : Br w b v n) (k : Only c w u) (hb : b ≠ c) : Br u b v n := ⟨h.rd.only k hb, h.lt, h.le⟩
theorem Br.below {B : Nat} (h : Br w b v n) (k : Below B w u) (hb : b < B) : Br u b v n := ⟨h.rd.below k hb, h.lt, h.le⟩
theorem Br.alloc (h : Br w b v n) (o : Obj) : Br (w.alloc o) b v n := ⟨h.rd.alloc o, h.lt, h.le⟩
theorem Br.blt (h : Br w b v n) : b < w.heap.size := h.rd.lt
end
theorem new_b (w : World) : Calls Tryd.prog 31 #[] w fun e w' => e = .returned (.pointer (some ⟨w.heap.size, 0, none⟩)) ∧ Br w' w.heap.size 0 0 ∧ Below w.heap.size w w' ∧ w'.heap.size = w.heap.size + 1 :=
  (new_c w).mono fun _ _ h => ⟨h.1, ⟨h.2.1, by decide, by decide⟩, h.2.2⟩
theorem held_b (b v n : Nat) (w : World) (h : Br w b v n) : Calls Tryd.prog 87 #[.pointer (some ⟨b, 0, none⟩)] w fun e w' => e = .returned (.int .i64 n) ∧ w = w' :=
  held_c b v n w h.rd (by omega) (by have := h.le; omega)
theorem drop_b (b v n k : Nat) (w : World) (h : Br w b v n) (hk : k ≤ n) :
    Calls Tryd.prog 57 #[.pointer (some ⟨b, 0, none⟩), .int .u64 k] w fun e w' => e = .returned (.tuple #[]) ∧ Br w' b (v / 2 ^ k) (n - k) ∧ Only b w w' := by
  have h1 := h.rd.c0
  have h2 := h.rd.c1
  have h3 := h.rd.fz 0
  have h4 := h.rd.fz 1
  have h64 := h.le
  have hv := lt_word h.lt h.le
  go_enter Tryd.func57, Tryd.ntmps57
  go_wp2
  go_end0
  refine ⟨rfl, ⟨?_, div_lt v n k h.lt hk, by omega⟩, ?_⟩
  · have := (h.rd.set0 ((v : Int) / 2 ^ k)).set1 ((n : Int) - k)
    rw [div_nat] at this
    rw [show ((n - k : Nat) : Int) = (n : Int) - k by omega]
    simpa only [Int.toNat_natCast, div_nat] using this
  · exact ((Only.refl _ _).setCell _ _).setCell _ _
theorem put_no (b v n x : Nat) (w : World) (h : Br w b v n) (hn : 56 < n) :
    Calls Tryd.prog 34 #[.pointer (some ⟨b, 0, none⟩), .int .u8 x] w fun e w' => e = .returned (.bool false) ∧ w = w' := by
  have h2 := h.rd.c1
  have hn' : (56 : Int) < n := by omega
  go_enter Tryd.func34, Tryd.ntmps34
  go_wp2
  refine wp_scope_forward 0 rfl ?_
  go_wp2
  go_step3
  refine ⟨rfl, ?_⟩
  go_wp2
  rw [Exit.noGoto_ret]
  go_ret
  exact ⟨rfl, rfl⟩
theorem put_yes (b v n x : Nat) (w : World) (h : Br w b v n) (hn : n ≤ 56) (hx : x < 256) :
    Calls Tryd.prog 34 #[.pointer (some ⟨b, 0, none⟩), .int .u8 x] w fun e w' => e = .returned (.bool true) ∧ Br w' b (v + x * 2 ^ n) (n + 8) ∧ Only b w w' := by
  have h1 := h.rd.c0
  have h2 := h.rd.c1
  have h3 := h.rd.fz 0
  have h4 := h.rd.fz 1
  have hn' : ¬ (56 : Int) < n := by omega
  have hv := lt_word h.lt h.le
  go_enter Tryd.func34, Tryd.ntmps34
  go_wp2
  refine wp_scope_forward 0 rfl ?_
  go_wp2
  go_region
  go_wp2
  rw [jump_ret]
  go_ret
  refine ⟨rfl, ⟨?_, put_lt v n x h.lt hx, by omega⟩, ?_⟩
  · rw [or_put v n x h.lt hn hx]
    have := ((h.rd.set0 ((v + x * 2 ^ n : Nat) : Int)).set1 ((n : Int) + 8)).drew
    rw [show ((n + 8 : Nat) : Int) = (n : Int) + 8 by omega]
    exact this
  · exact (((Only.refl _ _).setCell _ _).setCell _ _).drew
/-- So many bits can be told: not below 0, not above 32, not above what is held. -/
def Can (k : Int) (n : Nat) : Prop := 0 ≤ k ∧ k ≤ 32 ∧ k ≤ n
theorem peek_no (b v n : Nat) (k : Int) (w : World) (h : Br w b v n) (hk : ¬ Can k n) :
    Calls Tryd.prog 67 #[.pointer (some ⟨b, 0, none⟩), .int .i64 k] w fun e w' => e = .returned (.tuple #[.int .u32 0, .bool false]) ∧ w = w' := by
  have h2 := h.rd.c1
  have h64 := h.le
  go_enter Tryd.func67, Tryd.ntmps67
  go_wp2
  refine wp_scope_forward 0 rfl ?_
  unfold Can at hk
  by_cases c1 : k < 0
  · go_wp2
    go_step3
    refine ⟨rfl, ?_⟩
    go_wp2
    rw [Exit.noGoto_ret]
    go_ret2
    exact ⟨rfl, rfl⟩
  · by_cases c2 : 32 < k
    · go_wp2
      go_step3
      refine ⟨rfl, ?_⟩
      go_wp2
      rw [Exit.noGoto_ret]
      go_ret2
      exact ⟨rfl, rfl⟩
    · have c3 : (n : Int) < k := by omega
      go_wp2
      go_step3
      refine ⟨rfl, ?_⟩
      go_wp2
      rw [Exit.noGoto_ret]
      go_ret2
      exact ⟨rfl, rfl⟩
theorem peek_yes (b v n k : Nat) (w : World) (h : Br w b v n) (hk : k ≤ 32) (hkn : k ≤ n) :
    Calls Tryd.prog 67 #[.pointer (some ⟨b, 0, none⟩), .int .i64 k] w fun e w' => e = .returned (.tuple #[.int .u32 ((v % 2 ^ k : Nat) : Int), .bool true]) ∧ w = w' := by
  have h1 := h.rd.c0
  have h2 := h.rd.c1
  have h64 := h.le
  have e1 : ¬ (k : Int) < 0 := by omega
  have e2 : ¬ (32 : Int) < k := by omega
  have e3 : ¬ (n : Int) < k := by omega
  have hv := lt_word h.lt h.le
  have hm := and_mask v k hv hk
  go_enter Tryd.func67, Tryd.ntmps67
  go_wp2
  refine wp_scope_forward 0 rfl ?_
  go_wp2
  rw [jump_ret]
  go_ret2
  refine ⟨?_, rfl⟩
  simp only [hm, Array.getD]
  rfl
theorem take_no (b v n : Nat) (k : Int) (w : World) (h : Br w b v n) (hk : ¬ Can k n) :
    Calls Tryd.prog 50 #[.pointer (some ⟨b, 0, none⟩), .int .i64 k] w fun e w' => e = .returned (.tuple #[.int .u32 0, .bool false]) ∧ w = w' := by
  go_enter Tryd.func50, Tryd.ntmps50
  go_wp2_with fail
  refine wp_scope_forward 0 rfl ?_
  go_wp2_with fail
  refine (peek_no b v n k _ h hk).mono ?_
  rintro e w' ⟨rfl, rfl⟩
  go_wp2_with fail
  go_step3
  refine ⟨rfl, ?_⟩
  go_wp2
  rw [Exit.noGoto_ret]
  go_ret2
  exact ⟨rfl, rfl⟩
theorem take_yes (b v n k : Nat) (w : World) (h : Br w b v n) (hk : k ≤ 32) (hkn : k ≤ n) :
    Calls Tryd.prog 50 #[.pointer (some ⟨b, 0, none⟩), .int .i64 k] w fun e w' => e = .returned (.tuple #[.int .u32 ((v % 2 ^ k : Nat) : Int), .bool true]) ∧ Br w' b (v / 2 ^ k) (n - k) ∧ Only b w w' := by
  have h64 := h.le
  go_enter Tryd.func50, Tryd.ntmps50
  go_wp2_with fail
  refine wp_scope_forward 0 rfl ?_
  go_wp2_with fail
  refine (peek_yes b v n k _ h hk hkn).mono ?_
  rintro e w' ⟨rfl, rfl⟩
  go_wp2_with fail
  refine (drop_b b v n k _ h hkn).mono ?_
  rintro e w' ⟨rfl, hb, ho⟩
  go_wp2_with fail
  rw [jump_ret]
  go_ret2
  exact ⟨rfl, hb, ho⟩
theorem align_b (b v n : Nat) (w : World) (h : Br w b v n) :
    Calls Tryd.prog 51 #[.pointer (some ⟨b, 0, none⟩)] w fun e w' => e = .returned (.int .i64 ((n % 8 : Nat) : Int)) ∧ Br w' b (v / 2 ^ (n % 8)) (n - n % 8) ∧ Only b w w' := by
  have h2 := h.rd.c1
  have h64 := h.le
  have e : ((n % 8 : Nat) : Int) = (n : Int) % 8 := by omega
  go_enter Tryd.func51, Tryd.ntmps51
  go_wp2_with fail
  rw [← e]
  refine (drop_b b v n (n % 8) _ h (Nat.mod_le _ _)).mono ?_
  rintro e w' ⟨rfl, hb, ho⟩
  go_wp2_with fail
  go_ret
  exact ⟨rfl, hb, ho⟩
theorem clear_b (b v n : Nat) (w : World) (h : Br w b v n) :
    Calls Tryd.prog 37 #[.pointer (some ⟨b, 0, none⟩)] w fun e w' => e = .returned (.tuple #[]) ∧ Br w' b 0 0 ∧ Only b w w' := by
  have h2 := h.rd.c1
  have h64 := h.le
  go_enter Tryd.func37, Tryd.ntmps37
  go_wp2_with fail
  refine (drop_b b v n n _ h (Nat.le_refl _)).mono ?_
  rintro e w' ⟨rfl, hb, ho⟩
  rw [Nat.div_eq_of_lt h.lt, Nat.sub_self] at hb
  go_wp2_with fail
  go_end0
  exact ⟨rfl, hb, ho⟩
end Go.Proofs.YtikdpnpkmmmacaaDoor

/-
  What the program's Read comes to.
-/
namespace Go.Proofs.YtikdpnpkmmmacaaDoor
open Go.RowKit
set_option linter.unusedVariables false
theorem read_none (T : Nat) (w : World) : Calls Tryd.prog 81 #[.pointer (some ⟨T, 0, none⟩), .pointer none] w fun e w' => e = .returned (.tuple #[.int .i64 0, .int .i64 2]) ∧ w = w' := by
  go_enter Tryd.func81, Tryd.ntmps81
  go_wp2_with fail
  first | go_ret | go_ret2
  exact ⟨rfl, rfl⟩
theorem may_of {ls : List Nat} {l : List Bool} (hk : part ls 15 ≤ 32768) (h15 : ∀ x ∈ ls, x ≤ 15) : (∃ j n, ls[j]? = some n ∧ 0 < n ∧ l <+: cbits ls j) ↔ May ls l := by
  constructor
  · rintro ⟨j, n, h1, h2, h3⟩
    have := (may_prefix hk h15 h1 h2).1 h3
    exact ⟨j, n, h1, h2, this.1, this.2⟩
  · rintro ⟨j, n, h1, h2, h3, h4⟩
    exact ⟨j, n, h1, h2, (may_prefix hk h15 h1 h2).2 ⟨h3, h4⟩⟩
theorem told_bad {ls : List Nat} {l : List Bool} {s how k : Nat} (hk : part ls 15 ≤ 32768) (h15 : ∀ x ∈ ls, x ≤ 15) (ht : Told ls l s how k) (h1 : ∀ i n, ¬ Hit ls l i n) (h2 : ¬ May ls l) : s = 0 ∧ how = 2 ∧ k = 0 := by
  rcases ht with ⟨h, _⟩ | ⟨_, h, _⟩ | ⟨_, _, h⟩
  · exact absurd h (h1 _ _)
  · exact absurd ((may_of hk h15).1 h) h2
  · exact h
theorem told_more {ls : List Nat} {l : List Bool} {s how k : Nat} (hk : part ls 15 ≤ 32768) (h15 : ∀ x ∈ ls, x ≤ 15) (ht : Told ls l s how k) (h1 : ∀ i n, ¬ Hit ls l i n) (h2 : May ls l) : s = 0 ∧ how = 1 ∧ k = 0 := by
  rcases ht with ⟨h, _⟩ | ⟨_, _, h⟩ | ⟨_, h, _⟩
  · exact absurd h (h1 _ _)
  · exact h
  · exact absurd ((may_of hk h15).2 h2) h
theorem told_hit {ls : List Nat} {l : List Bool} {s how k s0 n : Nat} (ht : Told ls l s how k) (hh : Hit ls l s0 n) : s = s0 ∧ how = 0 ∧ k = n := by
  rcases ht with ⟨h, h0⟩ | ⟨h, _⟩ | ⟨h, _⟩
  · have := hit_one h hh
    exact ⟨this.1, h0, this.2⟩
  · exact absurd hh (h _ _)
  · exact absurd hh (h _ _)
theorem But.drawn {b : Nat} {w u : World} (h : Drawn w u) : But b w u := by
  obtain ⟨n, rfl⟩ := h
  exact ⟨rfl, rfl, rfl, Nat.le_refl _, fun _ _ _ => rfl⟩
theorem But.only {b : Nat} {w u v : World} (h : But b w u) (k : Only b u v) : But b w v :=
  ⟨k.os.trans h.os, k.tape.trans h.tape, k.output.trans h.output, by rw [k.size]; exact h.size, fun i hi hne => (k.block i hne).trans (h.block i hi hne)⟩
set_option maxRecDepth 100000 in
set_option maxHeartbeats 4000000 in
theorem read_c (lo hi T : Nat) (ls : List Nat) (b s how k : Nat) (l : List Bool) (w : World) (hp : PT w lo hi T ls) (hk : part ls 15 ≤ 32768) (h15 : ∀ x ∈ ls, x ≤ 15) (hb : Br w b (nm l) l.length) (ht : Told ls l s how k) :
    Calls Tryd.prog 81 #[.pointer (some ⟨T, 0, none⟩), .pointer (some ⟨b, 0, none⟩)] w fun e w' => e = .returned (.tuple #[.int .i64 (s : Int), .int .i64 (how : Int)]) ∧ Br w' b (nm (l.drop k)) (l.drop k).length ∧ But b w w' := by
  obtain ⟨g, M, kk, ht2, _⟩ := hp
  obtain ⟨G, hG, hLd⟩ := ht2.m
  have cT1 := ht2.t.cell 1
  simp only [List.getElem?_toArray, List.getElem?_cons_zero, List.getElem?_cons_succ] at cT1
  have hheld := held_b b (nm l) l.length w hb
  obtain ⟨H, hH⟩ : ∃ H, min l.length 15 = H := ⟨_, rfl⟩
  have hpeek := peek_yes b (nm l) l.length H w hb (by omega) (by omega)
  have hvb : nm l % 2 ^ H < 4294967296 := by
    have h1 := Nat.mod_lt (nm l) (show 0 < 2 ^ H from Nat.pow_pos (by decide))
    have h2 : 2 ^ H ≤ 2 ^ 15 := Nat.pow_le_pow_right (by decide) (by omega)
    omega
  have hrev := rev_c (nm l % 2 ^ H) hvb (H : Int) w
  have hcl : clamp (H : Int) = H := by unfold clamp; omega
  rw [hcl, rev_mod H H _ (Nat.le_refl _), rev_num H (by omega)] at hrev
  obtain ⟨v, hv⟩ : ∃ v, num (l.take H) = v := ⟨_, rfl⟩
  rw [hv] at hrev
  obtain ⟨x, hx⟩ : ∃ x, nm l % 2 ^ H = x := ⟨_, rfl⟩
  rw [hx] at hrev hpeek
  obtain ⟨Ln, hLn⟩ : ∃ Ln, l.length = Ln := ⟨_, rfl⟩
  have htk : ∀ n, n ≤ H → num (l.take n) = v / 2 ^ (H - n) := fun n hn => by rw [← hv]; exact take_num hn (by omega)
  have AH : Aside (Mp w M kk G ∧ Laidm ls ls.length G ∧ Br w b (nm l) l.length ∧ Told ls l s how k ∧ (∀ x ∈ ls, x ≤ 15) ∧ min l.length 15 = H ∧ (∀ n, n ≤ H → num (l.take n) = v / 2 ^ (H - n)) ∧ v < 2 ^ H ∧ l.length = Ln) := ⟨hG, hLd, hb, ht, h15, hH, htk, by rw [← hv]; have := num_lt (l.take H); rw [List.length_take, show min H l.length = H by omega] at this; exact this, hLn⟩
  rw [hLn] at hheld
  have hH15 : H ≤ 15 := by omega
  have hmin : (if (15 : Int) < (Ln : Int) then (15 : Int) else (Ln : Int)) = (H : Int) := by split <;> omega
  have hmin2 : (if (Ln : Int) < (15 : Int) then (Ln : Int) else (15 : Int)) = (H : Int) := by split <;> omega
  have AK : Aside (part ls 15 ≤ 32768) := hk
  clear ht2 hG hLd hb ht h15 hH htk hv hx hLn hcl hvb hk
  go_enter Tryd.func81, Tryd.ntmps81
  go_upto_region 6 with (go_at_call 87; refine hheld.mono ?_; rintro e2 w2 ⟨rfl, rfl⟩)
  clear hheld hmin hmin2
  go_upto_region 9 with (first
    | (go_at_call 67; refine hpeek.mono ?_; rintro e3 w3 ⟨rfl, rfl⟩)
    | (go_at_call 88; refine hrev.mono ?_; rintro e4 w4 ⟨rfl, rfl⟩))
  clear hpeek hrev
  go_loopg [30] (H + 1) (fun gg si wr => ∃ n : Nat, si = .int .i64 (n : Int) ∧ Aside (n + gg = H + 1 ∧ Drawn w wr ∧ ∀ j, j < n → G j (num (l.take j)) = some (-1)))
  case atStart => exact ⟨0, rfl, by omega, Drawn.refl _, fun j hj => by omega⟩
  case round =>
    obtain ⟨n, rfl, hI⟩ := hrel
    by_cases hn : n ≤ H
    · have hnI : (n : Int) < (H : Int) + 1 := by omega
      have hnH : (n : Int) ≤ (H : Int) := by omega
      obtain ⟨y, hy⟩ : ∃ y, v / 2 ^ (H - n) = y := ⟨_, rfl⟩
      have hvb : v < 4294967296 := by have := AH.out.2.2.2.2.2.2.2.1; have h2 : 2 ^ H ≤ 2 ^ 15 := Nat.pow_le_pow_right (by decide) hH15; omega
      have hyb : y < 4294967296 := by rw [← hy]; exact Nat.lt_of_le_of_lt (Nat.div_le_self _ _) hvb
      have hyI : (v : Int) / 2 ^ (H - n) = (y : Int) := by rw [← hy]; push_cast; rfl
      obtain ⟨r, hr⟩ : ∃ r, G n y = r := ⟨_, rfl⟩
      obtain ⟨q, hq⟩ := hI.out.2.1
      have hlook : ∀ j, (Instr.lookup 132 (.map (some M)) (.agg #[.int .u32 (n : Int), .int .u32 (y : Int)]) true).run Tryd.prog (wr.drewN j) = .ok (.tuple #[.int .i64 (r.getD 0), .bool r.isSome]) (wr.drewN j) := fun j =>
        run_look (wr.drewN j) M kk n y G (by rw [hq]; exact AH.out.1) (by omega) hyb r hr
      have cT1r : wr.cell? ⟨T, 1, none⟩ = some (.map (some M)) := by rw [hq]; exact cT1
      have htn : num (l.take n) = y := by rw [← hy]; exact AH.out.2.2.2.2.2.2.1 n hn
      have AY : Aside (G n y = r ∧ num (l.take n) = y ∧ n ≤ H) := ⟨hr, htn, hn⟩
      clear hq hr hy htn hn
      go_upto_region 11 with fail
      go_quiet (fail)
      have hdr : Aside (Drawn w (wr.drewN nq)) := hI.out.2.1.drewN nq
      obtain ⟨w5, hw5⟩ : ∃ w5, wr.drewN nq = w5 := ⟨_, rfl⟩
      rw [hw5] at hdr ⊢
      clear hw5 cT1r hlook
      cases r with
      | none =>
        go_wp2_with fail
        first | go_ret | go_ret2
        have a := AH.out
        have y := AY.out
        have hbd := a.2.1.bad (l := l) (n := n) (by omega) hI.out.2.2 (by rw [y.2.1]; exact y.1)
        obtain ⟨rfl, rfl, rfl⟩ := told_bad AK.out a.2.2.2.2.1 a.2.2.2.1 hbd.1 hbd.2
        refine ⟨rfl, ?_, But.drawn hdr.out⟩
        obtain ⟨q, hq⟩ := hdr.out
        rw [hq]
        exact a.2.2.1.drewN q
      | some z =>
        by_cases hz : z = -1
        · subst hz
          go_wp2_with fail
          go_roundg (H - n)
          case measure => have := hI.out.1; have := AY.out.2.2; omega
          case rel =>
            refine ⟨n + 1, by go_num, by have := AY.out.2.2; omega, hdr.out, fun j hj => ?_⟩
            rcases (show j < n ∨ j = n by omega) with h | rfl
            · exact hI.out.2.2 j h
            · rw [AY.out.2.1]; exact AY.out.1
        · have hzb : (z == -1) = false := beq_eq_false_iff_ne.2 hz
          have a := AH.out
          have y1 := AY.out
          obtain ⟨s0, rfl, hh⟩ := a.2.1.hit (l := l) (n := n) (v := z) (by omega) (by rw [y1.2.1]; exact y1.1) hz
          obtain ⟨rfl, rfl, rfl⟩ := told_hit a.2.2.2.1 hh
          have hbr : Br w5 b (nm l) l.length := by obtain ⟨q, hq⟩ := hdr.out; rw [hq]; exact a.2.2.1.drewN q
          have htake := take_yes b (nm l) l.length k w5 hbr (by omega) (by omega)
          clear a y1 hh hbr hz
          go_wp2_with (go_at_call 50; refine htake.mono ?_; rintro e6 w6 ⟨rfl, hb6, ho6⟩)
          first | go_ret | go_ret2
          refine ⟨rfl, ?_, (But.drawn hdr.out).only ho6⟩
          rw [nm_drop, List.length_drop]
          exact hb6
    · have hn1 : n = H + 1 := by have := hI.out.1; omega
      subst hn1
      have hni : ¬ ((H + 1 : Nat) : Int) < (H : Int) + 1 := by omega
      clear hn
      go_wp2_with fail
      first | go_ret | go_ret2
      have a := AH.out
      have hm := a.2.1.more a.2.2.2.2.1 (l := l) (n := H) a.2.2.2.2.2.1.symm (fun j hj => hI.out.2.2 j (by omega))
      obtain ⟨rfl, rfl, rfl⟩ := told_more AK.out a.2.2.2.2.1 a.2.2.2.1 hm.2.1 hm.2.2
      refine ⟨rfl, ?_, But.drawn hI.out.2.1⟩
      obtain ⟨q, hq⟩ := hI.out.2.1
      rw [hq]
      exact a.2.2.1.drewN q
theorem new_err (a : Option Addr) (zs : List Int) (L C e0 : Nat) (w : World) (h : Lens w a zs) (hL : zs.length = L) (hLb : L < 140737488355328) (he : nerr zs = e0) (h0 : e0 ≠ 0) :
    Calls Tryd.prog 70 #[.slice a L C] w fun e w' => e = .returned (.tuple #[.pointer none, .int .i64 (e0 : Int)]) ∧ Below w.heap.size w w' := by
  by_cases hok : Okl zs
  · exact new_room a zs L C e0 w h hL hLb hok he h0
  · have : e0 = 2 := by rw [← he]; unfold nerr; rw [if_pos hok]
    subst this
    exact new_arg a zs L C w h hL hLb hok
end Go.Proofs.YtikdpnpkmmmacaaDoor

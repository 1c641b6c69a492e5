/-
  The document's machine in memory, and what its reading methods come to: kid, find, longest.
  Conditions: its words and its ways lie in memory as the states say.
-/
import Derived.Test.YtbepbjbbhenphaaDoorEnds
namespace Go.Proofs.YtbepbjbbhenphaaDoor
open Go.RowKit
set_option linter.unusedVariables false
/-- The state one byte on, by a state's list of ways; -1: none. -/
def kidOf (l : List (Nat × Nat)) (b : Nat) : Int := match l.find? (fun x => x.1 == b) with
  | some x => (x.2 : Int)
  | none => -1
/-- A state's ways, as they lie. -/
def Kds (w : World) (a : Option Addr) (l : List (Nat × Nat)) : Prop := l = [] ∨ ∃ b o, a = some ⟨b, o, none⟩ ∧ ∀ (i : Nat) (x : Nat × Nat), l[i]? = some x → w.cell? ⟨b, o + i * 2, none⟩ = some (.int .u8 (x.1 : Int)) ∧ w.cell? ⟨b, o + i * 2 + 1, none⟩ = some (.int .i64 (x.2 : Int))
/-- All states' ways, as they lie. -/
def KRows (w : World) (a : Option Addr) (kids : List (List (Nat × Nat))) : Prop := kids = [] ∨ ∃ b o, a = some ⟨b, o, none⟩ ∧ ∀ (i : Nat) (l : List (Nat × Nat)), kids[i]? = some l → ∃ (ki : Option Addr) (kc : Nat), w.cell? ⟨b, o + i, none⟩ = some (.slice ki l.length kc) ∧ Kds w ki l ∧ l.length < 1048576
/-- The document's machine at block Q. -/
structure Rm (w : World) (Q N : Nat) (pa : Option Addr) (PL PC : Nat) (ws : List (List Nat)) (kids : List (List (Nat × Nat))) : Prop where
  cells : ∃ wa wc ka kc, w.cell? ⟨Q, 0, none⟩ = some (.slice pa PL PC) ∧ w.cell? ⟨Q, 1, none⟩ = some (.slice wa N wc) ∧ w.cell? ⟨Q, 2, none⟩ = some (.slice ka N kc) ∧ Rows2 w wa ws ∧ KRows w ka kids
  len : ws.length = N
  klen : kids.length = N
  tri : Tri ws
  kin : ∀ (s : Nat) (u : List Nat) (l : List (Nat × Nat)), ws[s]? = some u → kids[s]? = some l → ∀ b, (∀ t : Nat, ws[t]? = some (u ++ [b]) → kidOf l b = (t : Int)) ∧ (u ++ [b] ∉ ws → kidOf l b = -1)
theorem find_take_none {l : List (Nat × Nat)} {b k : Nat} {x : Nat × Nat} (h : (l.take k).find? (fun x => x.1 == b) = none) (hx : l[k]? = some x) (hne : x.1 ≠ b) : (l.take (k + 1)).find? (fun x => x.1 == b) = none := by
  rw [take_snoc hx, List.find?_append, h]
  simp [hne]
theorem find_take_some {l : List (Nat × Nat)} {b k : Nat} {x : Nat × Nat} (h : (l.take k).find? (fun x => x.1 == b) = none) (hx : l[k]? = some x) (he : x.1 = b) : kidOf l b = (x.2 : Int) := by
  have : l = l.take k ++ x :: l.drop (k + 1) := by rw [← drop_more hx, List.take_append_drop]
  unfold kidOf
  rw [this, List.find?_append, h]
  simp [he]
set_option maxRecDepth 100000 in
set_option maxHeartbeats 1000000 in
theorem kid_c {Q N : Nat} {pa : Option Addr} {PL PC : Nat} {ws : List (List Nat)} {kids : List (List (Nat × Nat))} (s b : Nat) (l : List (Nat × Nat)) (w : World) (h : Rm w Q N pa PL PC ws kids) (hs : kids[s]? = some l) :
    Calls Tryd.prog 35 #[.pointer (some ⟨Q, 0, none⟩), .int .i64 (s : Int), .int .u8 (b : Int)] w fun e w' => e = .returned (.int .i64 (kidOf l b)) ∧ w = w' := by
  obtain ⟨wa, wc, ka, kc, c0, c1, c2, _, hk⟩ := h.cells
  have hsN : (s : Int) < (N : Int) := by have := at_lt hs; have := h.klen; omega
  rcases hk with e | ⟨kb, ko, rfl, hk⟩
  · rw [e] at hs; simp at hs
  obtain ⟨ki, kc', ck, hkd, hlb⟩ := hk s l hs
  obtain ⟨L, hL⟩ : ∃ L, l.length = L := ⟨_, rfl⟩
  rw [hL] at ck hlb
  have AK : Aside (Kds w ki l ∧ l.length = L ∧ L < 1048576) := ⟨hkd, hL, hlb⟩
  clear h hs c0 c1 hk hkd hL hlb
  go_enter Tryd.func35, Tryd.ntmps35
  go_wp2_with fail
  go_loopg [7] L (fun g si wr => ∃ k : Nat, si = .int .i64 k ∧ Aside (k + g = L ∧ (l.take k).find? (fun x => x.1 == b) = none) ∧ w = wr)
  case atStart => exact ⟨0, rfl, ⟨by omega, by simp⟩, rfl⟩
  case round =>
    obtain ⟨k, rfl, hK, hw⟩ := hrel
    subst hw
    by_cases hkL : k < L
    · have hki : (k : Int) < (L : Int) := by omega
      obtain ⟨x, hx⟩ : ∃ x, l[k]? = some x := ⟨_, List.getElem?_eq_getElem (by have := AK.out; omega)⟩
      rcases AK.out.1 with e | ⟨lb, lo, rfl, hc⟩
      · rw [e] at hx; simp at hx
      obtain ⟨x0, x1⟩ := hc k x hx
      obtain ⟨p, q⟩ := x
      simp only at x0 x1
      by_cases hpb : p = b
      · have hr : Aside (kidOf l b = (q : Int)) := find_take_some hK.out.2 hx hpb
        have hpb1 : ((p : Int) == (b : Int)) = true := by rw [beq_iff_eq]; omega
        have hpb2 : decide (p = b) = true := decide_eq_true hpb
        clear hc hx hkL hpb hK AK
        go_wp2_with fail
        go_ret
        exact ⟨by rw [hr.out]; rfl, rfl⟩
      · have hpb2 : ¬ (p : Int) = (b : Int) := by omega
        have hn : Aside ((l.take (k + 1)).find? (fun x => x.1 == b) = none ∧ k < L) := ⟨find_take_none hK.out.2 hx hpb, hkL⟩
        clear hc hx hkL hpb
        go_upto_region 3 with fail
        have hkb : (k : Int) < 1048576 := by have := AK.out; omega
        clear hki hpb2 hsN
        go_wp2_with fail
        have h1 := hn.out; have h2 := hK.out.1
        go_roundg (L - (k + 1))
        case measure => omega
        case rel => exact ⟨k + 1, by go_num, ⟨by omega, h1.1⟩, rfl⟩
    · have hki : ¬ (k : Int) < (L : Int) := by omega
      have hr : Aside (kidOf l b = -1) := by
        have := hK.out
        have e : l.take k = l := List.take_of_length_le (by have := AK.out; omega)
        rw [e] at this
        show _ = _
        unfold kidOf
        rw [this.2]
      clear hkL
      go_wp2_with fail
      go_ret
      exact ⟨by rw [hr.out]; rfl, rfl⟩
theorem tri_take {ws : List (List Nat)} (h : Tri ws) : ∀ (n : Nat) {u : List Nat}, u.length ≤ n → u ∈ ws → ∀ k, u.take k ∈ ws := by
  intro n
  induction n with
  | zero => intro u hn hu k; have : u = [] := List.eq_nil_of_length_eq_zero (by omega); subst this; simpa using hu
  | succ n ih =>
    intro u hn hu k
    by_cases hk : u.length ≤ k
    · rw [List.take_of_length_le hk]; exact hu
    · rcases List.eq_nil_or_concat u with e | ⟨v, b, e⟩
      · subst e; simpa using hu
      · have e2 : u = v ++ [b] := by rw [e]; simp
        rw [e2] at hu hn hk ⊢
        have hv := h.closed hu
        rw [List.length_append] at hn hk
        simp at hn hk
        rw [List.take_append_of_le_length (by omega)]
        exact ih (by omega) hv k
set_option maxHeartbeats 2000000 in
theorem find_c {Q N : Nat} {pa : Option Addr} {PL PC : Nat} {ws : List (List Nat)} {kids : List (List (Nat × Nat))} (a : Option Addr) (x : List Nat) (n c : Nat) (r : Int) (w : World) (h : Rm w Q N pa PL PC ws kids) (hx : Lies w a x) (hn : x.length = n) (hnb : n < 1048576) (hr : (∃ t : Nat, ws[t]? = some x ∧ r = (t : Int)) ∨ (x ∉ ws ∧ r = -1)) :
    Calls Tryd.prog 48 #[.pointer (some ⟨Q, 0, none⟩), .slice a n c] w fun e w' => e = .returned (.int .i64 r) ∧ w = w' := by
  have AH : Aside (Rm w Q N pa PL PC ws kids ∧ Lies w a x ∧ x.length = n ∧ n < 1048576) := ⟨h, hx, hn, hnb⟩
  have AR : Aside ((∃ t : Nat, ws[t]? = some x ∧ r = (t : Int)) ∨ (x ∉ ws ∧ r = -1)) := hr
  clear h hx hn hnb hr
  go_enter Tryd.func48, Tryd.ntmps48
  go_wp2_with fail
  go_loopg [5, 6] n (fun g ss si wr => ∃ (s : Int) (i : Nat), ss = .int .i64 s ∧ si = .int .i64 i ∧ Aside (i + g = n ∧ ((∃ t : Nat, ws[t]? = some (x.take i) ∧ s = (t : Int)) ∨ (x.take i ∉ ws ∧ s = -1))) ∧ w = wr)
  case atStart => exact ⟨0, 0, rfl, rfl, ⟨by omega, Or.inl ⟨0, by simpa using AH.out.1.tri.zero, rfl⟩⟩, rfl⟩
  case round =>
    obtain ⟨s, i, rfl, rfl, hI, hw⟩ := hrel
    subst hw
    rcases hI.out.2 with ⟨t, ht, rfl⟩ | ⟨hno, rfl⟩
    · by_cases hin : i < n
      · have hii : (i : Int) < (n : Int) := by omega
        have ht0 : (0 : Int) ≤ (t : Int) := by omega
        obtain ⟨b, hb⟩ : ∃ b, x[i]? = some b := ⟨_, List.getElem?_eq_getElem (by have := AH.out; omega)⟩
        obtain ⟨l, hl⟩ : ∃ l, kids[t]? = some l := ⟨_, List.getElem?_eq_getElem (by have := at_lt ht; have := AH.out.1.len; have := AH.out.1.klen; omega)⟩
        have hkid := kid_c t b l w AH.out.1 hl
        obtain ⟨s', hs'⟩ : ∃ s', kidOf l b = s' := ⟨_, rfl⟩
        rw [hs'] at hkid
        have hk := AH.out.1.kin t _ l ht hl b
        have htk : x.take (i + 1) = x.take i ++ [b] := take_snoc hb
        have hnx : Aside (((∃ t : Nat, ws[t]? = some (x.take (i + 1)) ∧ s' = (t : Int)) ∨ (x.take (i + 1) ∉ ws ∧ s' = -1)) ∧ i < n) := by
          refine ⟨?_, hin⟩
          rw [htk, ← hs']
          by_cases hm : x.take i ++ [b] ∈ ws
          · obtain ⟨t', ht'⟩ := mem_at hm
            exact Or.inl ⟨t', ht', hk.1 t' ht'⟩
          · exact Or.inr ⟨hm, hk.2 hm⟩
        rcases AH.out.2.1 with e | ⟨xb, xo, rfl, hc⟩
        · rw [e] at hb; simp at hb
        have cx := hc i b hb
        have hib : (i : Int) < 1048576 := by have := AH.out; omega
        clear hb hl hs' hk htk hc hin ht
        go_wp2_with (go_at_call 35; refine hkid.mono ?_; rintro e2 w2 ⟨rfl, rfl⟩)
        have h1 := hnx.out; have h2 := hI.out.1
        go_roundg (n - (i + 1))
        case measure => omega
        case rel => exact ⟨s', i + 1, rfl, by go_num, ⟨by omega, h1.1⟩, rfl⟩
      · have hii : ¬ (i : Int) < (n : Int) := by omega
        have hrt : Aside (r = (t : Int)) := by
          rw [List.take_of_length_le (by have := AH.out; omega)] at ht
          rcases AR.out with ⟨t', ht', e⟩ | ⟨hno, _⟩
          · rw [AH.out.1.tri.one ht ht']; exact e
          · exact absurd (List.mem_of_getElem? ht) hno
        clear hin ht
        go_wp2_with fail
        go_ret
        exact ⟨by rw [hrt.out]; rfl, rfl⟩
    · have hrt : Aside (r = -1) := by
        rcases AR.out with ⟨t', ht', e⟩ | ⟨_, e⟩
        · exact absurd (tri_take AH.out.1.tri x.length (Nat.le_refl _) (List.mem_of_getElem? ht') i) hno
        · exact e
      clear hno
      by_cases hin : i < n
      · have hii : (i : Int) < (n : Int) := by omega
        clear hin
        go_wp2_with fail
        go_ret
        exact ⟨by rw [hrt.out]; rfl, rfl⟩
      · have hii : ¬ (i : Int) < (n : Int) := by omega
        clear hin
        go_wp2_with fail
        go_ret
        exact ⟨by rw [hrt.out]; rfl, rfl⟩
theorem lsf_next {ws : List (List Nat)} {t : List Nat} {k : Nat} (hk : k < t.length) (h : t.drop k ∉ ws) : lsf ws (t.drop k) = lsf ws (t.drop (k + 1)) := by
  obtain ⟨x, hx⟩ : ∃ x, t[k]? = some x := ⟨_, List.getElem?_eq_getElem hk⟩
  rw [drop_more hx] at h ⊢
  rw [lsf, if_neg h]
set_option maxRecDepth 100000 in
set_option maxHeartbeats 2000000 in
theorem rlongest_c {Q N : Nat} {pa : Option Addr} {PL PC : Nat} {ws : List (List Nat)} {kids : List (List (Nat × Nat))} (a : Option Addr) (t : List Nat) (n c f r : Nat) (w : World) (h : Rm w Q N pa PL PC ws kids) (ht : Lies w a t) (hn : t.length = n) (hnc : n ≤ c) (hnb : n < 1048576) (hz : a = none → c = 0) (hf : f ≤ n) (hr : ws[r]? = some (lsf ws (t.drop f))) :
    Calls Tryd.prog 40 #[.pointer (some ⟨Q, 0, none⟩), .slice a n c, .int .i64 (f : Int)] w fun e w' => e = .returned (.int .i64 (r : Int)) ∧ w = w' := by
  have AH : Aside (Rm w Q N pa PL PC ws kids ∧ Lies w a t ∧ t.length = n ∧ n ≤ c ∧ n < 1048576 ∧ (a = none → c = 0) ∧ f ≤ n ∧ ws[r]? = some (lsf ws (t.drop f))) := ⟨h, ht, hn, hnc, hnb, hz, hf, hr⟩
  clear h ht hn hnc hnb hz hf hr
  go_enter Tryd.func40, Tryd.ntmps40
  go_wp2_with fail
  go_loopg [7] (n - f) (fun g sk wr => ∃ k : Nat, sk = .int .i64 k ∧ Aside (k + g = n ∧ f ≤ k ∧ lsf ws (t.drop f) = lsf ws (t.drop k)) ∧ w = wr)
  case atStart => exact ⟨f, rfl, ⟨by have := AH.out; omega, Nat.le_refl _, rfl⟩, rfl⟩
  case round =>
    obtain ⟨k, rfl, hK, hw⟩ := hrel
    subst hw
    have hkn : k ≤ n := by have := hK.out; omega
    have hk : (k : Int) ≤ (n : Int) := by omega
    have hk0 : (0 : Int) ≤ (k : Int) := by omega
    have hkb : (k : Int) < 1048576 := by have := AH.out; omega
    have AA : Aside (k ≤ n) := hkn
    have hslice : ∃ a2 c2, (∀ W : World, (Instr.slice 36 (.slice a n c) (some (.int .i64 (k : Int))) none none).run Tryd.prog W = .ok (.slice a2 (n - k) c2) W) ∧ Lies w a2 (t.drop k) := by
      obtain ⟨_, hl, hn, hnc, _, hz, _⟩ := AH.out
      by_cases hck : c = k
      · have hkE : k = n := by omega
        refine ⟨a, c - k, fun W => ?_, Or.inl (List.drop_eq_nil_of_le (by omega))⟩
        subst hck
        clear hkE hl hn hnc hz AA hK AH
        go_simp
      · cases a with
        | none => exact absurd (hz rfl) (by have := hz rfl; omega)
        | some p =>
          obtain ⟨b, o, sp⟩ := p
          rcases hl with e | ⟨b0, o0, e, hc⟩
          · have hn0 : n = 0 := by rw [e] at hn; simpa using hn.symm
            have hk0' : k = 0 := by omega
            refine ⟨some ((⟨b, o, sp⟩ : Addr).add (k * 1)), c - k, fun W => ?_, Or.inl (by rw [e]; simp)⟩
            clear e hn0 hk0' hn hnc hz AA hK AH
            go_simp
          · cases e
            refine ⟨some ⟨b, o + k, none⟩, c - k, fun W => ?_, lies_drop hc k⟩
            clear hc hn hnc hz AA hK AH
            go_simp
    obtain ⟨a2, c2, hsl, hl2⟩ := hslice
    by_cases hm : t.drop k ∈ ws
    · have hrk : ws[r]? = some (t.drop k) := by rw [← lsf_of_mem hm, ← hK.out.2.2]; exact AH.out.2.2.2.2.2.2.2
      have hfind := find_c a2 (t.drop k) (n - k) c2 (r : Int) w AH.out.1 hl2 (by rw [List.length_drop, AH.out.2.2.1]) (by have := AH.out; omega) (Or.inl ⟨r, hrk, rfl⟩)
      have hr0 : (0 : Int) ≤ (r : Int) := by omega
      clear hl2 hm hrk hkn hk0 hkb
      go_wp2_with (go_at_call 48; refine hfind.mono ?_; rintro e2 w2 ⟨rfl, rfl⟩)
      go_ret
      exact ⟨rfl, rfl⟩
    · have hfind := find_c a2 (t.drop k) (n - k) c2 (-1) w AH.out.1 hl2 (by rw [List.length_drop, AH.out.2.2.1]) (by have := AH.out; omega) (Or.inr ⟨hm, rfl⟩)
      have hkl : k < n := by
        have hz0 := AH.out.1.tri.nil_mem
        rcases Nat.lt_or_ge k n with h | h
        · exact h
        · exfalso; apply hm; rw [List.drop_eq_nil_of_le (by have := AH.out; omega)]; exact hz0
      have hnx : Aside (lsf ws (t.drop k) = lsf ws (t.drop (k + 1)) ∧ k < n) := ⟨lsf_next (by have := AH.out; omega) hm, hkl⟩
      clear hl2 hm hkn hk0 hkl
      go_wp2_with (go_at_call 48; refine hfind.mono ?_; rintro e2 w2 ⟨rfl, rfl⟩)
      have h1 := hnx.out; have h2 := hK.out
      go_roundg (n - (k + 1))
      case measure => omega
      case rel => exact ⟨k + 1, by go_num, ⟨by omega, by omega, h2.2.2.trans h1.1⟩, rfl⟩
end Go.Proofs.YtbepbjbbhenphaaDoor

/-
  What Next, Fail, Depth, States, Patterns, Longest come to over a machine whose words are told.
  Conditions: the machine lies as said; the fails of the words that are no longer than the state's are worked out.
-/
import Derived.Test.YtbepbjbbhenphabDoorMach
import Derived.Test.YtbepbjbbhenphabDoorWords
namespace Go.Proofs.YtbepbjbbhenphabDoor
open Go.RowKit
set_option linter.unusedVariables false
/-- The nodes and the map are those of the words. -/
structure Laid (ws : List (List Nat)) (nd : List Nd) (G : Nat → Nat → Option Nat) : Prop where
  tri : Tri ws
  len : nd.length = ws.length
  oct : ∀ u ∈ ws, ∀ x ∈ u, x < 256
  dp : ∀ {s : Nat} {u : List Nat} {n : Nd}, ws[s]? = some u → nd[s]? = some n → n.dp = u.length
  bf : ∀ {s : Nat} {u : List Nat} {b : Nat} {n : Nd}, ws[s]? = some (u ++ [b]) → nd[s]? = some n → ws[n.bf]? = some u ∧ n.la = b
  map : ∀ {s : Nat} {u : List Nat}, ws[s]? = some u → ∀ b t, G s b = some t ↔ ws[t]? = some (u ++ [b])
  out : ∀ s b, ws.length ≤ s → G s b = none
  small : ws.length < 1048576
/-- The fails of the words that are shorter than d are worked out. -/
def FailsTo (ws : List (List Nat)) (nd : List Nd) (d : Nat) : Prop := ∀ (s : Nat) (u : List Nat) (n : Nd), ws[s]? = some u → nd[s]? = some n → u.length < d → ws[n.fa]? = some (lsf ws u.tail)
theorem FailsTo.mono {ws : List (List Nat)} {nd : List Nd} {d e : Nat} (h : FailsTo ws nd d) (he : e ≤ d) : FailsTo ws nd e := fun s u n h1 h2 h3 => h s u n h1 h2 (by omega)
theorem Laid.node {ws : List (List Nat)} {nd : List Nd} {G : Nat → Nat → Option Nat} (h : Laid ws nd G) {s : Nat} {u : List Nat} (hs : ws[s]? = some u) : ∃ n, nd[s]? = some n :=
  ⟨_, List.getElem?_eq_getElem (by rw [h.len]; exact at_lt hs)⟩
theorem next_no {base A pn lg : Nat} {nd : List Nd} {G : Nat → Nat → Option Nat} (s : Int) (b : Nat) (w : World) (h : Mach w base A pn lg nd G) (L : Nat) (hL : nd.length = L) (hs : ¬ (0 ≤ s ∧ s < (L : Int))) :
    Calls Tryd.prog 9 #[.pointer (some ⟨A, 0, none⟩), .int .i64 s, .int .u8 b] w fun e w' => e = .returned (.int .i64 0) ∧ w = w' := by
  have hh := has_c s w h L hL
  rw [decide_eq_false hs] at hh
  clear hs
  go_enter Tryd.func9, Tryd.ntmps9
  go_wp2_with (go_at_call 19; refine hh.mono ?_; rintro e2 w2 ⟨rfl, rfl⟩)
  go_ret
  exact ⟨rfl, rfl⟩
set_option maxHeartbeats 1000000 in
theorem next_c {base A pn lg : Nat} {nd : List Nd} {G : Nat → Nat → Option Nat} {ws : List (List Nat)} (s b t : Nat) (u : List Nat) (w : World) (h : Mach w base A pn lg nd G) (hl : Laid ws nd G) (hs : ws[s]? = some u) (hb : b < 256) (hf : FailsTo ws nd (u.length + 1)) (ht : ws[t]? = some (lsf ws (u ++ [b]))) :
    Calls Tryd.prog 9 #[.pointer (some ⟨A, 0, none⟩), .int .i64 s, .int .u8 b] w fun e w' => e = .returned (.int .i64 t) ∧ w = w' := by
  have hlt := at_lt hs
  have hh := has_c (s : Int) w h nd.length rfl
  rw [decide_eq_true (show 0 ≤ (s : Int) ∧ (s : Int) < (nd.length : Int) by rw [hl.len]; omega)] at hh
  obtain ⟨g, cap, M, k, c0, c1, c2, c3, h1, h2, h3, h4⟩ := h.parts
  obtain ⟨N, hN⟩ : ∃ N, nd.length = N := ⟨_, rfl⟩
  have HL : Aside (Laid ws nd G ∧ FailsTo ws nd (u.length + 1) ∧ ws[t]? = some (lsf ws (u ++ [b])) ∧ nd.length = N ∧ (∀ (s : Nat) (n : Nd), nd[s]? = some n → w.cell? ⟨g, s * 5, none⟩ = some (.int .i64 (n.bf : Int)) ∧ w.cell? ⟨g, s * 5 + 1, none⟩ = some (.int .u8 (n.la : Int)) ∧ w.cell? ⟨g, s * 5 + 2, none⟩ = some (.int .i64 (n.dp : Int)) ∧ w.cell? ⟨g, s * 5 + 3, none⟩ = some (.int .i64 (n.fa : Int)) ∧ w.cell? ⟨g, s * 5 + 4, none⟩ = some (.int .u64 (n.ou : Int)))) := ⟨hl, hf, ht, hN, h4⟩
  have HM : Aside (Mp w M k G ∧ b < 256) := ⟨h3, hb⟩
  rw [hN] at c2
  clear h1 h2 h3 h4 c0 c1 h hl hf ht hb hN hlt
  go_enter Tryd.func9, Tryd.ntmps9
  go_wp2_with (go_at_call 19; refine hh.mono ?_; rintro e2 w2 ⟨rfl, rfl⟩)
  clear hh
  go_loopg [1] u.length (fun gg ss wr => ∃ (s' : Nat) (u' : List Nat), ss = .int .i64 s' ∧ Aside (gg = u'.length ∧ u'.length ≤ u.length ∧ ws[s']? = some u' ∧ lsf ws (u' ++ [b]) = lsf ws (u ++ [b])) ∧ w = wr)
  case atStart => exact ⟨s, u, rfl, ⟨rfl, Nat.le_refl _, hs, rfl⟩, rfl⟩
  case round =>
    obtain ⟨s', u', rfl, hA, rfl⟩ := hrel
    have hs' : s' < 9223372036854775808 := by have := at_lt hA.out.2.2.1; have := HL.out.1.small; omega
    cases hr : G s' b with
    | some t' =>
      have htt : t' = t := by
        obtain ⟨a1, a2, a3, a4⟩ := hA.out
        have q := (HL.out.1.map a3 b t').1 hr
        refine HL.out.1.tri.one (u := lsf ws (u ++ [b])) ?_ HL.out.2.2.1
        rw [← a4, lsf_of_mem (List.mem_of_getElem? q)]; exact q
      subst htt
      go_wp2_with (first | (at_lookup; refine wpList_look w rfl _ _ rfl M k s' b G (by rfl) HM.out.1 (by rfl) hs' HM.out.2 _ hr ?_))
      go_ret
      exact ⟨rfl, rfl⟩
    | none =>
      by_cases h0 : s' = 0
      · have htt : t = 0 := by
          obtain ⟨a1, a2, a3, a4⟩ := hA.out
          have z := HL.out.1.tri.zero
          subst h0
          rw [z] at a3
          cases a3
          refine HL.out.1.tri.one HL.out.2.2.1 ?_
          rw [← a4, lsf_zero (fun hm => ?_)]
          · exact z
          · obtain ⟨q, hq⟩ := mem_at hm
            have := (HL.out.1.map z b q).2 hq
            rw [hr] at this; cases this
        subst htt
        subst h0
        go_wp2_with (first | (at_lookup; refine wpList_look w rfl _ _ rfl M k 0 b G (by rfl) HM.out.1 (by rfl) hs' HM.out.2 _ hr ?_))
        go_ret
        exact ⟨rfl, rfl⟩
      · obtain ⟨n, hn⟩ := HL.out.1.node hA.out.2.2.1
        have hfa : ws[n.fa]? = some (lsf ws u'.tail) := HL.out.2.1 s' u' n hA.out.2.2.1 hn (by have := hA.out.2.1; omega)
        have hne : u' ≠ [] := fun e => h0 (HL.out.1.tri.one (e ▸ hA.out.2.2.1) HL.out.1.tri.zero)
        have hnew : Aside (ws[n.fa]? = some (lsf ws u'.tail) ∧ (lsf ws u'.tail).length < u'.length ∧ lsf ws (lsf ws u'.tail ++ [b]) = lsf ws (u ++ [b])) := by
          obtain ⟨a1, a2, a3, a4⟩ := hA.out
          refine ⟨hfa, ?_, ?_⟩
          · have := lsf_len ws u'.tail
            have h5 : u'.tail.length = u'.length - 1 := List.length_tail
            have h6 : 0 < u'.length := List.length_pos_iff.2 hne
            omega
          · rw [lsf_fall HL.out.1.tri (fun hm => ?_) hne]
            · exact a4
            · obtain ⟨q, hq⟩ := mem_at hm
              have := (HL.out.1.map a3 b q).2 hq
              rw [hr] at this; cases this
        have hc := (HL.out.2.2.2.2 s' n hn).2.2.2.1
        have hsN : (s' : Int) < (N : Int) := by have := at_lt hn; have := HL.out.2.2.2.1; omega
        have hz : ((s' : Int) == 0) = false := by rw [beq_eq_false_iff_ne]; omega
        obtain ⟨f, hf⟩ : ∃ f, n.fa = f := ⟨_, rfl⟩
        rw [hf] at hc hnew
        clear hn hfa hne hf
        go_wp2_with (first | (at_lookup; refine wpList_look w rfl _ _ rfl M k s' b G (by rfl) HM.out.1 (by rfl) hs' HM.out.2 _ hr ?_))
        have ha := hA.out; have hn := hnew.out
        go_roundg ((lsf ws u'.tail).length)
        case measure => omega
        case rel => exact ⟨f, lsf ws u'.tail, rfl, ⟨rfl, by omega, hn.1, hn.2.2⟩, rfl⟩
end Go.Proofs.YtbepbjbbhenphabDoor

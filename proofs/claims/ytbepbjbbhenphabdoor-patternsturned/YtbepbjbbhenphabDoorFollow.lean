/-
  What follow comes to: a state's fail and its outs, worked out.
  Conditions: those of all states with shorter words are worked out.
-/
import Derived.Test.YtbepbjbbhenphabDoorLays
import Derived.Deep.RegionWith
import Derived.Deep.CutBlock
import Derived.Deep.DeepCutAuto
namespace Go.Proofs.YtbepbjbbhenphabDoor
open Go.RowKit
set_option linter.unusedVariables false
/-- A node whose fail and outs are worked out: u is its word. -/
def Fin (ps ws : List (List Nat)) (u : List Nat) (n : Nd) : Prop := ws[n.fa]? = some (lsf ws u.tail) ∧ n.ou < 18446744073709551616 ∧ ∀ i, n.ou.testBit i = decide (∃ p, ps[i]? = some p ∧ p <:+ u)
/-- A node of which nothing is worked out yet. -/
def Raw (ps : List (List Nat)) (u : List Nat) (n : Nd) : Prop := n.fa = 0 ∧ n.ou < 18446744073709551616 ∧ ∀ i, n.ou.testBit i = decide (ps[i]? = some u)
theorem or_lt64 {a b : Nat} (ha : a < 18446744073709551616) (hb : b < 18446744073709551616) : a ||| b < 18446744073709551616 := Nat.or_lt_two_pow (n := 64) ha hb
/-- Words of no byte or one have nothing shorter but the empty word. -/
theorem fin_short {ps ws : List (List Nat)} {u : List Nat} {n : Nd} (ht : Tri ws) (hne : [] ∉ ps) (hu : u.length < 2) (h : Raw ps u n) : Fin ps ws u n := by
  obtain ⟨h1, h2, h3⟩ := h
  have htl : u.tail = [] := List.eq_nil_of_length_eq_zero (by rw [List.length_tail]; omega)
  refine ⟨by rw [h1, htl]; exact ht.zero, h2, fun i => ?_⟩
  rw [h3 i]
  congr 1
  apply propext
  constructor
  · intro e; exact ⟨u, e, List.suffix_refl _⟩
  · rintro ⟨p, hp, hs⟩
    have hp0 : p ≠ [] := fun e => hne (e ▸ List.mem_of_getElem? hp)
    cases u with
    | nil => exact absurd (List.eq_nil_of_suffix_nil hs) hp0
    | cons x t =>
      have ht0 : t = [] := htl
      subst ht0
      rcases List.suffix_cons_iff.1 hs with rfl | hs
      · exact hp
      · exact absurd (List.eq_nil_of_suffix_nil hs) hp0
/-- The outs of a word are its own and those of its fail. -/
theorem fin_long {ps ws : List (List Nat)} {u : List Nat} {n m : Nd} (hsub : ∀ p ∈ ps, p ∈ ws) (h : Raw ps u n) {f : Nat} (hf : ws[f]? = some (lsf ws u.tail)) (hm : Fin ps ws (lsf ws u.tail) m) : Fin ps ws u { n with fa := f, ou := n.ou ||| m.ou } := by
  obtain ⟨h1, h2, h3⟩ := h
  obtain ⟨m1, m2, m3⟩ := hm
  refine ⟨hf, or_lt64 h2 m2, fun i => ?_⟩
  show (n.ou ||| m.ou).testBit i = _
  rw [Nat.testBit_or, h3 i, m3 i, ← Bool.decide_or]
  congr 1
  apply propext
  constructor
  · rintro (e | ⟨p, hp, hs⟩)
    · exact ⟨u, e, List.suffix_refl _⟩
    · exact ⟨p, hp, (ends_iff (hsub p (List.mem_of_getElem? hp))).2 (Or.inr hs)⟩
  · rintro ⟨p, hp, hs⟩
    rcases (ends_iff (hsub p (List.mem_of_getElem? hp))).1 hs with rfl | hs
    · exact Or.inl hp
    · exact Or.inr ⟨p, hp, hs⟩
set_option maxHeartbeats 2000000 in
theorem follow_c {base A pn lg : Nat} {nd : List Nd} {G : Nat → Nat → Option Nat} {ps ws : List (List Nat)} (s : Nat) (u : List Nat) (n : Nd) (w : World) (h : Mach w base A pn lg nd G) (hl : Laid ws nd G) (hs : ws[s]? = some u) (hn : nd[s]? = some n) (hr : Raw ps u n) (hne : [] ∉ ps) (hsub : ∀ p ∈ ps, p ∈ ws)
    (hd : ∀ (s' : Nat) (u' : List Nat) (n' : Nd), ws[s']? = some u' → nd[s']? = some n' → u'.length < u.length → Fin ps ws u' n') (hu : u.length < 1048576) :
    Calls Tryd.prog 18 #[.pointer (some ⟨A, 0, none⟩), .int .i64 s] w fun e w' => e = .returned (.tuple #[]) ∧ ∃ m : Nd, m.bf = n.bf ∧ m.la = n.la ∧ m.dp = n.dp ∧ Fin ps ws u m ∧ Mach w' base A pn lg (nd.set s m) G ∧ Below base w w' ∧ (∀ (B : Nat) (cs : Array Value), w.heap[B]? = some (.cells cs 3) → w'.heap[B]? = some (.cells cs 3)) := by
  obtain ⟨g, cap, c2, hbg, hAg, hset⟩ := h.node
  have hdp := hl.dp hs hn
  obtain ⟨g', cap', M, k, c0', c1', c2', c3, h1, h2, h3, h4⟩ := h.parts
  rw [c2] at c2'
  cases c2'
  obtain ⟨q0, q1, q2, q3, q4⟩ := h4 s n hn
  obtain ⟨N, hN⟩ : ∃ N, nd.length = N := ⟨_, rfl⟩
  rw [hN] at c2
  have hsN : (s : Int) < (N : Int) := by have := at_lt hn; omega
  by_cases hshort : u.length < 2
  · have hd2 : (n.dp : Int) < 2 := by omega
    have A1 : Aside (Fin ps ws u n ∧ Mach w base A pn lg (nd.set s n) G) := ⟨fin_short hl.tri hne hshort hr, by
      have : nd.set s n = nd := by
        apply List.ext_getElem?
        intro i
        rw [List.getElem?_set]
        split
        · rename_i e; subst e; rw [if_pos (at_lt hn)]; exact hn.symm
        · rfl
      rw [this]; exact h⟩
    obtain ⟨dp, hdd⟩ : ∃ dp, n.dp = dp := ⟨_, rfl⟩
    rw [hdd] at q2 hd2
    clear h4 h1 h2 h3 hset q0 q1 q3 q4 hd hr hl h hN hn hdp hdd
    go_enter Tryd.func18, Tryd.ntmps18
    go_wp2_with fail
    first | go_end0 | (refine bodyPost_ret (results_none rfl _ _ _) rfl ?_) | go_ret2
    exact ⟨rfl, n, rfl, rfl, rfl, A1.out.1, A1.out.2, Below.refl _ _, fun B cs hB => hB⟩
  · have hd2 : ¬ (n.dp : Int) < 2 := by omega
    obtain ⟨v, b, huv⟩ : ∃ v b, u = v ++ [b] := by
      rcases List.eq_nil_or_concat u with e | ⟨v, b, e⟩
      · rw [e] at hshort; simp at hshort
      · exact ⟨v, b, by rw [e]; simp⟩
    have hv0 : v ≠ [] := fun e => by rw [huv, e] at hshort; simp at hshort
    have hvl : v.length + 1 = u.length := by rw [huv]; simp
    obtain ⟨hbf, hla⟩ := hl.bf (by rw [← huv]; exact hs) hn
    obtain ⟨nb, hnb⟩ := hl.node hbf
    obtain ⟨r0, r1, r2, r3, r4⟩ := h4 n.bf nb hnb
    have hfb : ws[nb.fa]? = some (lsf ws v.tail) := (hd n.bf v nb hbf hnb (by omega)).1
    have hlv := lsf_len ws v.tail
    have hlt : v.tail.length = v.length - 1 := List.length_tail
    have hv1 : 0 < v.length := List.length_pos_iff.2 hv0
    obtain ⟨f, hf⟩ := mem_at (lsf_mem hl.tri.nil_mem (u.tail))
    have hff : ws[f]? = some (lsf ws (lsf ws v.tail ++ [b])) := by rw [lsf_fail hl.tri hv0, ← huv]; exact hf
    have hb256 : b < 256 := hl.oct u (List.mem_of_getElem? hs) b (by rw [huv]; simp)
    have hft : FailsTo ws nd ((lsf ws v.tail).length + 1) := fun s' u' n' e1 e2 e3 => (hd s' u' n' e1 e2 (by omega)).1
    have hnext := fun W (hW : Mach W base A pn lg nd G) => next_c nb.fa b f (lsf ws v.tail) W hW hl hfb hb256 hft hff
    obtain ⟨nf, hnf⟩ := hl.node hf
    have hul : u.tail.length = u.length - 1 := List.length_tail
    have hlu := lsf_len ws u.tail
    have hfin := hd f _ nf hf hnf (by omega)
    have hsf : s ≠ f := fun e => by
      subst e
      rw [hs] at hf
      have := congrArg (Option.map List.length) hf
      simp at this; omega
    -- the fail is written
    obtain ⟨⟨x3, hx3⟩, f3, m3, b3, far3⟩ := hset s 3 n { n with fa := f } (.int .i64 (f : Int)) hn (by decide) rfl
    obtain ⟨w3, hw3⟩ : ∃ w3, w3 = (w.setCell ⟨g, s * 5 + 3, none⟩ (.int .i64 (f : Int))).drew := ⟨_, rfl⟩
    have m3' : Mach w3 base A pn lg (nd.set s { n with fa := f }) G := by rw [hw3]; exact m3.drew
    have c5 : w3.cell? ⟨A, 2, none⟩ = some (.slice (some ⟨g, 0, none⟩) N cap) := by
      rw [hw3, ← c2]
      exact World.cell?_of_block (w := w) (Below.heap_setCell _ _ _ _ hAg)
    obtain ⟨g5, cap5, c5', hbg5, _, hset5⟩ := m3'.node
    rw [c5, List.length_set, hN] at c5'
    cases c5'
    obtain ⟨g6, cap6, M6, k6, d0, d1, d2, d3, e1, e2, e3, e4⟩ := m3'.parts
    rw [c5, List.length_set, hN] at d2
    cases d2
    have hn3 : (nd.set s { n with fa := f })[s]? = some { n with fa := f } := by rw [List.getElem?_set, if_pos rfl, if_pos (at_lt hn)]
    have hnf3 : (nd.set s { n with fa := f })[f]? = some nf := by rw [List.getElem?_set, if_neg hsf]; exact hnf
    obtain ⟨t0, t1, t2, t3, t4⟩ := e4 s _ hn3
    obtain ⟨v0, v1, v2, v3, v4⟩ := e4 f _ hnf3
    obtain ⟨⟨x4, hx4⟩, f4, m4, b4, far4⟩ := hset5 s 4 _ { n with fa := f, ou := n.ou ||| nf.ou } (.int .u64 ((n.ou ||| nf.ou : Nat) : Int)) hn3 (by decide) rfl
    rw [List.set_set] at m4
    have hor := u64_or_nat n.ou nf.ou hr.2.1 hfin.2.1
    have hfN : (f : Int) < (N : Int) := by have := at_lt hnf; omega
    have hbN : (n.bf : Int) < (N : Int) := by have := at_lt hnb; omega
    have A1 : Aside (Fin ps ws u { n with fa := f, ou := n.ou ||| nf.ou } ∧ Mach (w3.setCell ⟨g, s * 5 + 4, none⟩ (.int .u64 ((n.ou ||| nf.ou : Nat) : Int))) base A pn lg (nd.set s { n with fa := f, ou := n.ou ||| nf.ou }) G ∧ Below base w (w3.setCell ⟨g, s * 5 + 4, none⟩ (.int .u64 ((n.ou ||| nf.ou : Nat) : Int))) ∧ (∀ (B : Nat) (cs : Array Value), w.heap[B]? = some (.cells cs 3) → (w3.setCell ⟨g, s * 5 + 4, none⟩ (.int .u64 ((n.ou ||| nf.ou : Nat) : Int))).heap[B]? = some (.cells cs 3))) := by
      refine ⟨fin_long hsub hr hf hfin, m4, ?_, fun B cs hB => far4 B cs (by rw [hw3]; exact far3 B cs hB)⟩
      have : Below base w w3 := by rw [hw3]; exact b3.drew
      exact this.trans b4
    have AM : Aside (Mach w base A pn lg nd G) := h
    rw [hla] at q1
    simp only [] at t3 t4
    obtain ⟨dp, hdd⟩ : ∃ dp, n.dp = dp := ⟨_, rfl⟩
    obtain ⟨bf, hbb⟩ : ∃ bf, n.bf = bf := ⟨_, rfl⟩
    obtain ⟨o1, ho1⟩ : ∃ o1, n.ou = o1 := ⟨_, rfl⟩
    obtain ⟨o2, ho2⟩ : ∃ o2, nf.ou = o2 := ⟨_, rfl⟩
    obtain ⟨o3, ho3⟩ : ∃ o3, o1 ||| o2 = o3 := ⟨_, rfl⟩
    obtain ⟨fb, hfb2⟩ : ∃ fb, nb.fa = fb := ⟨_, rfl⟩
    rw [hdd] at q2 hd2
    rw [hbb] at q0 r3 hbN
    rw [ho1] at t4
    rw [ho2] at v4
    rw [ho1, ho2, ho3] at hor A1
    rw [hfb2] at r3 hnext
    have AF : Aside (n.ou = o1 ∧ nf.ou = o2) := ⟨ho1, ho2⟩
    clear e4 e3 e2 e1 h4 h1 h2 h3 hset hset5 q3 q4 r0 r1 r2 r4 t0 t1 t2 v0 v1 v2 v3 hd hr hl h hN hn hdp hdd hbb ho1 ho2 ho3 hfb2 m3 m3' b3 m4 b4 hn3 hnf3 hfin hnf hlu hul hft hff hb256 hf hlt hv1 hlv hfb hnb hla hbf hvl hv0 huv hshort d0 d1 d3 c0' c1' c3 hsub hne hu hbg hbg5 hsf hAg far3 far4
    go_enter Tryd.func18, Tryd.ntmps18
    go_upto_region 2 with fail
    go_cut [] (fun wc => wc = w3)
    case first =>
      clear c5 t3 t4 v4 hx4 f4 A1
      go_region_with (first | (go_at_call 9; refine (hnext _ (by first | exact AM.out.drew | exact AM.out | exact AM.out.drewN _)).mono ?_; rintro e2 w2 ⟨rfl, rfl⟩))
      all_goals go_wp2_with fail
      all_goals go_meet
      all_goals exact hw3.symm
    case rest =>
      obtain rfl := hcut
      clear hw3 hx3 f3 q0 q1 q2 c2 hnext AM r3 hx4
      go_wp2_with fail
      go_region
      all_goals (
        go_wp2_with fail
        first | go_end0 | (refine bodyPost_ret (results_none rfl _ _ _) rfl ?_) | go_ret2
        have hb := AF.out
        refine ⟨rfl, { n with fa := f, ou := o3 }, rfl, rfl, rfl, A1.out.1, A1.out.2.1.drew, A1.out.2.2.1.drew, A1.out.2.2.2⟩)
end Go.Proofs.YtbepbjbbhenphabDoor

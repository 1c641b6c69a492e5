/-
  What the statements' begins comes to: whether a text is a beginning of a pattern; and where the longest end of a text that begins a pattern stands.
  Conditions: the patterns and the text lie in memory.
-/
import Derived.Test.YtbepbjbbhenphaaDoorEnds
namespace Go.Proofs.YtbepbjbbhenphaaDoor
open Go.RowKit
set_option linter.unusedVariables false
/-- Is a text a beginning of a pattern? -/
def begB (ps : List (List Nat)) (t : List Nat) : Bool := ps.any fun p => t.isPrefixOf p
theorem begB_iff {ps : List (List Nat)} {t : List Nat} : begB ps t = true ↔ ∃ p ∈ ps, t <+: p := by
  unfold begB
  rw [List.any_eq_true]
  constructor
  · rintro ⟨p, hp, h⟩; exact ⟨p, hp, List.isPrefixOf_iff_prefix.1 h⟩
  · rintro ⟨p, hp, h⟩; exact ⟨p, hp, List.isPrefixOf_iff_prefix.2 h⟩
theorem begB_words {ps : List (List Nat)} {t : List Nat} (h : t ≠ []) : begB ps t = true ↔ t ∈ words ps := by
  rw [begB_iff, words_mem_iff]
  constructor
  · exact Or.inr
  · rintro (h' | h')
    · exact absurd h' h
    · exact h'
theorem prefix_iff_take {t p : List Nat} (h : t.length ≤ p.length) : p.take t.length = t ↔ t <+: p := by
  constructor
  · intro e; rw [← e]; exact List.take_prefix _ _
  · intro e; exact (List.prefix_iff_eq_take.1 e).symm
set_option maxHeartbeats 2000000 in
theorem begins_c (a b : Option Addr) (ps : List (List Nat)) (t : List Nat) (L C n d : Nat) (w : World) (hp : Rows2 w a ps) (hL : ps.length = L) (hLb : L < 140737488355328) (ht : Lies w b t) (hn : t.length = n) :
    Calls Tryd.prog 29 #[.slice a L C, .slice b n d] w fun e w' => e = .returned (.bool (begB ps t)) ∧ Drawn w w' := by
  have AB : Aside (Rows2 w a ps ∧ ps.length = L ∧ L < 140737488355328 ∧ Lies w b t ∧ t.length = n) := ⟨hp, hL, hLb, ht, hn⟩
  obtain ⟨q, hq⟩ : ∃ q, begB ps t = q := ⟨_, rfl⟩
  rw [hq]
  have AQ : Aside (begB ps t = q) := hq
  clear hp hL hLb ht hn hq
  go_enter Tryd.func29, Tryd.ntmps29
  go_wp2_with fail
  go_loopg [5] L (fun g si wr => ∃ i : Nat, si = .int .i64 i ∧ Aside (i + g = L ∧ (∀ p ∈ ps.take i, ¬ t <+: p) ∧ Drawn w wr))
  case atStart => exact ⟨0, rfl, ⟨by omega, by simp, Drawn.refl w⟩⟩
  case round =>
    obtain ⟨i, rfl, hA⟩ := hrel
    by_cases hiL : i < L
    · have hi : (i : Int) < (L : Int) := by omega
      have hil : i < ps.length := by have := AB.out; omega
      obtain ⟨p, hp⟩ : ∃ p, ps[i]? = some p := ⟨_, List.getElem?_eq_getElem hil⟩
      rcases AB.out.1 with e | ⟨pb, po, rfl, hc⟩
      · rw [e] at hil; simp at hil
      obtain ⟨ai, ci, c1, c2, c3, c4, c5⟩ := hc i p hp
      have c1 := hA.out.2.2.cell c1
      have c2 := hA.out.2.2.lies c2
      have hlt := hA.out.2.2.lies AB.out.2.2.2.1
      obtain ⟨k, hk⟩ : ∃ k, p.length = k := ⟨_, rfl⟩
      rw [hk] at c1 c3
      have AI : Aside (i < L ∧ (∀ r, r ∈ ps.take (i + 1) ↔ r ∈ ps.take i ∨ r = p) ∧ p ∈ ps) := ⟨hiL, fun r => by rw [take_snoc hp]; simp, List.mem_of_getElem? hp⟩
      have next : ¬ t <+: p → Aside (∀ r ∈ ps.take (i + 1), ¬ t <+: r) := by
        intro hnp r hr
        rcases (AI.out.2.1 r).1 hr with h | rfl
        · exact hA.out.2.1 r h
        · exact hnp
      by_cases hnk : n ≤ k
      · have hnki : (n : Int) ≤ (k : Int) := by omega
        have hnc : (n : Int) ≤ (ci : Int) := by omega
        have htl : (p.take n).length = n := by rw [List.length_take]; omega
        have hsame := same_c ai b (p.take n) t n n ci d wr htl AB.out.2.2.2.2 (by omega) (c2.take n) hlt
        have hpre : p.take n = t ↔ t <+: p := by have := AB.out.2.2.2.2; rw [← this] at hnk; rw [← this]; exact prefix_iff_take (by omega)
        cases ai with
        | none =>
          obtain ⟨hk0, hc0⟩ := c5 rfl
          have hkk : k = 0 := by omega
          have hn0 : n = 0 := by omega
          subst hkk
          subst hn0
          subst hc0
          have htrue : p.take 0 = t := by rw [List.take_zero]; exact (List.eq_nil_of_length_eq_zero AB.out.2.2.2.2).symm
          rw [decide_eq_true htrue] at hsame
          have hqt : Aside (q = true) := by show _ = _; rw [← AQ.out]; exact begB_iff.2 ⟨p, AI.out.2.2, hpre.1 htrue⟩
          clear next hpre hnk htl hlt c2 c3 c4 c5 hc hil hk hp hiL hk0
          go_wp2_with (go_at_call 20; refine hsame.mono ?_; rintro e2 w2 ⟨rfl, hd2⟩)
          go_ret
          exact ⟨by rw [hqt.out]; rfl, hA.out.2.2.trans hd2⟩
        | some ad =>
          obtain ⟨ab, ao, asp⟩ := ad
          by_cases hpt : p.take n = t
          · rw [decide_eq_true hpt] at hsame
            have hqt : Aside (q = true) := by show _ = _; rw [← AQ.out]; exact begB_iff.2 ⟨p, AI.out.2.2, hpre.1 hpt⟩
            clear next hpre hnk htl hlt c2 c3 c4 c5 hc hil hk hp hiL hpt
            go_wp2_with (go_at_call 20; refine hsame.mono ?_; rintro e2 w2 ⟨rfl, hd2⟩)
            go_ret
            exact ⟨by rw [hqt.out]; rfl, hA.out.2.2.trans hd2⟩
          · rw [decide_eq_false hpt] at hsame
            have hnx := next (fun h => hpt (hpre.2 h))
            clear next hpre hnk htl hlt c2 c3 c4 c5 hc hil hk hp hiL hpt
            go_wp2_with (go_at_call 20; refine hsame.mono ?_; rintro e2 w2 ⟨rfl, hd2⟩)
            have hg := hA.out; have hi := AI.out; have hb := AB.out
            go_roundg (L - (i + 1))
            case measure => omega
            case rel => exact ⟨i + 1, by first | (rw [w64_id _ (by omega) (by omega)]; rfl) | go_num, ⟨by omega, hnx.out, hg.2.2.trans hd2⟩⟩
      · have hnki : ¬ (n : Int) ≤ (k : Int) := by omega
        have hnx := next (fun h => by have := h.length_le; have := AB.out.2.2.2.2; omega)
        clear next hnk hlt c2 c3 c4 c5 hc hil hk hp hiL
        go_wp2_with fail
        have hg := hA.out; have hi := AI.out; have hb := AB.out
        go_roundg (L - (i + 1))
        case measure => omega
        case rel => exact ⟨i + 1, by first | (rw [w64_id _ (by omega) (by omega)]; rfl) | go_num, ⟨by omega, hnx.out, hg.2.2⟩⟩
    · have hi : ¬ (i : Int) < (L : Int) := by omega
      have hqf : Aside (q = false) := by
        show _ = _
        rw [← AQ.out]
        cases hb : begB ps t with
        | false => rfl
        | true =>
          obtain ⟨p, hp, h⟩ := begB_iff.1 hb
          refine absurd h (hA.out.2.1 p ?_)
          rw [List.take_of_length_le (by have := AB.out; omega)]; exact hp
      clear hiL
      go_wp2_with fail
      go_ret
      exact ⟨by rw [hqf.out]; rfl, hA.out.2.2⟩
theorem lsf_skip {ws : List (List Nat)} : ∀ (T : List Nat) (k : Nat), (∀ j, j < k → T.drop j ∉ ws ∨ T.drop j = []) → lsf ws T = lsf ws (T.drop k)
  | T, 0, _ => by simp
  | [], k + 1, _ => by simp
  | x :: T, k + 1, h => by
    rw [lsf, if_neg]
    · rw [List.drop_succ_cons]
      exact lsf_skip T k (fun j hj => by simpa using h (j + 1) (by omega))
    · rcases h 0 (by omega) with h0 | h0
      · simpa using h0
      · simp at h0
theorem longest_ge : ∀ {ps : List (List Nat)} {p : List Nat}, p ∈ ps → p.length ≤ longest ps := by
  have key : ∀ (ps : List (List Nat)) (m : Nat), (∀ p ∈ ps, p.length ≤ ps.foldl (fun m p => max m p.length) m) ∧ m ≤ ps.foldl (fun m p => max m p.length) m := by
    intro ps
    induction ps with
    | nil => intro m; exact ⟨by simp, Nat.le_refl _⟩
    | cons q ps ih =>
      intro m
      obtain ⟨h1, h2⟩ := ih (max m q.length)
      refine ⟨fun p hp => ?_, ?_⟩
      · rcases List.mem_cons.1 hp with rfl | hp
        · show _ ≤ ps.foldl _ (max m p.length); omega
        · exact h1 p hp
      · show _ ≤ ps.foldl _ (max m q.length); omega
  intro ps p hp
  exact (key ps 0).1 p hp
theorem words_short {ps : List (List Nat)} {u : List Nat} (h : u ∈ words ps) : u.length ≤ longest ps := by
  rcases words_mem_iff.1 h with rfl | ⟨p, hp, hu⟩
  · simp
  · exact Nat.le_trans hu.length_le (longest_ge hp)
end Go.Proofs.YtbepbjbbhenphaaDoor

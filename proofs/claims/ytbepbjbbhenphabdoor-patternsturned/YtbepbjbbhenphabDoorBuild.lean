/-
  What Build comes to: Check's error, or the machine of the patterns, whole.
  Conditions: the patterns lie in memory.
-/
import Derived.Test.YtbepbjbbhenphabDoorFollow
import Derived.Test.YtbepbjbbhenphabDoorLay
import Derived.Test.YtbepbjbbhenphabDoorOrder
import Derived.Test.YtbepbjbbhenphabDoorChecks
namespace Go.Proofs.YtbepbjbbhenphabDoor
open Go.RowKit
set_option linter.unusedVariables false
/-- The machine of some patterns. -/
structure Full (ps : List (List Nat)) (nd : List Nd) (G : Nat → Nat → Option Nat) : Prop where
  laid : Laid (words ps) nd G
  fin : ∀ {s : Nat} {u : List Nat} {n : Nd}, (words ps)[s]? = some u → nd[s]? = some n → Fin ps (words ps) u n
/-- How many bytes the longest one has. -/
def longest (ps : List (List Nat)) : Nat := ps.foldl (fun m p => max m p.length) 0
theorem longest_snoc (ps : List (List Nat)) (p : List Nat) : longest (ps ++ [p]) = max (longest ps) p.length := by simp [longest]
theorem words_snoc (ps : List (List Nat)) (p : List Nat) : words (ps ++ [p]) = lw (words ps) [] p := by simp [words]
theorem longest_le {B : Nat} : ∀ {ps : List (List Nat)}, (∀ p ∈ ps, p.length ≤ B) → longest ps ≤ B := by
  intro ps h
  have key : ∀ (ps : List (List Nat)) (m : Nat), m ≤ B → (∀ p ∈ ps, p.length ≤ B) → ps.foldl (fun m p => max m p.length) m ≤ B := by
    intro ps
    induction ps with
    | nil => intro m hm _; exact hm
    | cons p ps ih => intro m hm h; exact ih (max m p.length) (by have := h p (by simp); omega) (fun q hq => h q (by simp [hq]))
  exact key ps 0 (by omega) h
theorem words_nil : words [] = [[]] := rfl
theorem take_snoc {α : Type} {l : List α} {k : Nat} {x : α} (h : l[k]? = some x) : l.take (k + 1) = l.take k ++ [x] := by rw [List.take_add_one, h]; rfl
theorem lay_nil : Lay [] [[]] [⟨0, 0, 0, 0, 0⟩] (fun _ _ => none) := by
  refine ⟨⟨tri_one, rfl, by simp, ?_, ?_, ?_, fun _ _ _ => rfl, by decide⟩, by simp, ?_, by simp⟩
  · intro s u n h1 h2
    have := at_lt h1
    have e : s = 0 := by simpa using this
    subst e
    simp at h1 h2
    rw [h1, ← h2]; rfl
  · intro s u b n h1 h2
    have := at_lt h1
    have e : s = 0 := by simpa using this
    subst e
    simp at h1
  · intro s u h1 b t
    constructor
    · intro h; cases h
    · intro h
      have := at_lt h
      have e : t = 0 := by simpa using this
      subst e
      simp at h
  · intro s u n h1 h2
    have := at_lt h1
    have e : s = 0 := by simpa using this
    subst e
    simp at h2
    rw [← h2]
    exact ⟨(by decide : (0 : Nat) < 18446744073709551616), fun i => by show Nat.testBit 0 i = _; simp⟩
/-- The first machine in memory. -/
theorem mach_new (w : World) (base pn : Nat) (hb : base ≤ w.heap.size) :
    Mach (((w.alloc (.cells #[.int .i64 0, .int .u8 0, .int .i64 0, .int .i64 0, .int .u64 0] 42)).alloc (.map #[] 0)).alloc (.cells #[.int .i64 (pn : Int), .int .i64 0, .slice (some ⟨w.heap.size, 0, none⟩) 1 1, .map (some (w.heap.size + 1))] 46)) base (w.heap.size + 2) pn 0 [⟨0, 0, 0, 0, 0⟩] (fun _ _ => none) := by
  obtain ⟨w1, h1⟩ : ∃ w1, w1 = w.alloc (.cells #[.int .i64 0, .int .u8 0, .int .i64 0, .int .i64 0, .int .u64 0] 42) := ⟨_, rfl⟩
  obtain ⟨w2, h2⟩ : ∃ w2, w2 = w1.alloc (.map #[] 0) := ⟨_, rfl⟩
  obtain ⟨o, ho⟩ : ∃ o, o = Obj.cells #[.int .i64 (pn : Int), .int .i64 0, .slice (some ⟨w.heap.size, 0, none⟩) 1 1, .map (some (w.heap.size + 1))] 46 := ⟨_, rfl⟩
  rw [← h1, ← h2, ← ho]
  have s1 : w1.heap.size = w.heap.size + 1 := by rw [h1]; simp
  have s2 : w2.heap.size = w.heap.size + 2 := by rw [h2]; show (w1.heap.push _).size = _; simp; omega
  have c1 : w1.heap[w.heap.size]? = some (.cells #[.int .i64 0, .int .u8 0, .int .i64 0, .int .i64 0, .int .u64 0] 42) := by rw [h1]; exact Cells.new w _ 42
  have c2 : w2.heap[w.heap.size]? = some (.cells #[.int .i64 0, .int .u8 0, .int .i64 0, .int .i64 0, .int .u64 0] 42) := by rw [h2, Below.heap_alloc w1 _ _ (by omega)]; exact c1
  have m2 : Mp w2 (w.heap.size + 1) 0 (fun _ _ => none) := by rw [h2, ← s1]; exact Mp.made w1
  refine ⟨w.heap.size, 1, w.heap.size + 1, 0, #[.int .i64 0, .int .u8 0, .int .i64 0, .int .i64 0, .int .u64 0], ?_, ?_, Nat.le_refl _, by decide, rfl, rfl, m2.heap ?_, by simp, by omega, hb, by omega⟩
  · rw [← s2, ho]; exact Cells.new w2 _ 46
  · rw [Below.heap_alloc w2 _ _ (by omega)]; exact c2
  · rw [Below.heap_alloc w2 _ _ (by omega)]
set_option maxRecDepth 100000 in
set_option maxHeartbeats 4000000 in
theorem build_err (a : Option Addr) (ps : List (List Nat)) (L C : Nat) (w : World) (hp : Rows2 w a ps) (hL : ps.length = L) (hLC : L ≤ C) (hC : L < 140737488355328) (ho : Octs ps) (hz : a = none → C = 0) (he : chk ps ≠ 0) :
    Calls Tryd.prog 6 #[.slice a L C] w fun e w' => e = .returned (.tuple #[.pointer none, .int .i64 (chk ps : Nat)]) ∧ Below w.heap.size w w' := by
  have hc := check_c a ps L C w hp hL hLC hC ho hz
  have hi : (((chk ps : Nat) : Int) == 0) = false := by rw [beq_eq_false_iff_ne]; omega
  generalize chk ps = z at *
  clear hp hL hLC hC ho hz he
  go_enter Tryd.func6, Tryd.ntmps6
  go_wp2_with (go_at_call 15; refine hc.mono ?_; rintro e2 w2 ⟨rfl, hb2⟩)
  go_ret2
  exact ⟨rfl, hb2⟩
/-- While the states are followed, shortest first: which of them are worked out. -/
def Half (ps ws : List (List Nat)) (nd : List Nd) (did : List Nat) : Prop := ∀ (s : Nat) (u : List Nat) (n : Nd), ws[s]? = some u → nd[s]? = some n → (s ∈ did → Fin ps ws u n) ∧ (s ∉ did → Raw ps u n)
theorem Half.step {ps ws : List (List Nat)} {nd : List Nd} {did : List Nat} (h : Half ps ws nd did) {s : Nat} {u : List Nat} {m : Nd} (hs : ws[s]? = some u) (hl : s < nd.length) (hm : Fin ps ws u m) : Half ps ws (nd.set s m) (did ++ [s]) := by
  intro s' u' n' h1 h2
  rw [List.getElem?_set] at h2
  split at h2
  · rename_i e
    subst e
    first | (rw [if_pos hl] at h2) | skip
    cases h2
    rw [hs] at h1; cases h1
    exact ⟨fun _ => hm, fun hn => absurd (by simp) hn⟩
  · rename_i e
    obtain ⟨k1, k2⟩ := h s' u' n' h1 h2
    refine ⟨fun hm' => ?_, fun hn => k2 (fun h' => hn (List.mem_append_left _ h'))⟩
    rcases List.mem_append.1 hm' with hm' | hm'
    · exact k1 hm'
    · exact absurd (List.mem_singleton.1 hm').symm e
/-- All shorter words stand ahead. -/
theorem ahead_of {key : Nat → Nat} {Z : List Nat} {N j s s' : Nat} (hp : Z.Perm (List.range N)) (ho : Ord key Z) (hj : Z[j]? = some s) (hs' : s' < N) (hk : key s' < key s) : s' ∈ Z.take j := by
  have hm : s' ∈ Z := hp.mem_iff.2 (List.mem_range.2 hs')
  obtain ⟨i, hi⟩ := List.getElem?_of_mem hm
  have hij : i < j := by
    rcases Nat.lt_or_ge i j with h | h
    · exact h
    · exfalso
      obtain ⟨h1, e1⟩ := List.getElem?_eq_some_iff.1 hi
      obtain ⟨h2, e2⟩ := List.getElem?_eq_some_iff.1 hj
      rcases Nat.lt_or_ge j i with h3 | h3
      · have := List.pairwise_iff_getElem.1 ho j i h2 h1 h3
        rw [e1, e2] at this; omega
      · have : i = j := by omega
        subst this
        rw [hi] at hj; cases hj; omega
  exact List.mem_of_getElem? (i := i) (by rw [List.getElem?_take, if_pos hij]; exact hi)
theorem fresh_at {Z : List Nat} {N j s : Nat} (hp : Z.Perm (List.range N)) (hj : Z[j]? = some s) : s ∉ Z.take j := by
  intro hm
  have hn : Z.Nodup := hp.nodup_iff.2 List.nodup_range
  obtain ⟨i, hi⟩ := List.getElem?_of_mem hm
  rw [List.getElem?_take] at hi
  split at hi
  · rename_i hlt
    obtain ⟨h1, e1⟩ := List.getElem?_eq_some_iff.1 hi
    obtain ⟨h2, e2⟩ := List.getElem?_eq_some_iff.1 hj
    have := List.pairwise_iff_getElem.1 hn i j h1 h2 hlt
    exact this (by rw [e1, e2])
  · cases hi
set_option maxRecDepth 100000 in
set_option maxHeartbeats 8000000 in
theorem build_ok (a : Option Addr) (ps : List (List Nat)) (L C : Nat) (w : World) (hp : Rows2 w a ps) (hL : ps.length = L) (hLC : L ≤ C) (hC : L < 140737488355328) (ho : Octs ps) (hz : a = none → C = 0) (he : chk ps = 0) :
    Calls Tryd.prog 6 #[.slice a L C] w fun e w' => ∃ A, e = .returned (.tuple #[.pointer (some ⟨A, 0, none⟩), .int .i64 0]) ∧ ∃ nd G, Mach w' w.heap.size A L (longest ps) nd G ∧ Full ps nd G ∧ Below w.heap.size w w' := by
  have hc := check_c a ps L C w hp hL hLC hC ho hz
  rw [he] at hc
  obtain ⟨H, hH⟩ : ∃ H, w.heap.size = H := ⟨_, rfl⟩
  have hgood := chk_good he
  have AB : Aside (Rows2 w a ps ∧ ps.length = L ∧ Octs ps ∧ Good ps ∧ w.heap.size = H) := ⟨hp, hL, ho, hgood, hH⟩
  have hl0 : 0 < L := by have := hgood.pos; omega
  rcases hp with hp | ⟨pb, po, rfl, hcell⟩
  · rw [hp] at hL; simp at hL; omega
  rw [hH] at hc ⊢
  clear hL hLC hC ho hz he hH hgood hl0
  go_enter Tryd.func6, Tryd.ntmps6
  go_upto_region 4 with (go_at_call 15; refine hc.mono ?_; rintro e2 w1 ⟨rfl, hb1⟩)
  obtain ⟨w2, hw2⟩ : ∃ w2, w2 = ((w1.alloc (.cells #[.int .i64 0, .int .u8 0, .int .i64 0, .int .i64 0, .int .u64 0] 42)).alloc (.map #[] 0)).alloc (.cells #[.int .i64 (L : Int), .int .i64 0, .slice (some ⟨w1.heap.size, 0, none⟩) 1 1, .map (some (w1.heap.size + 1))] 46) := ⟨_, rfl⟩
  have hm2 : Mach w2 H (w1.heap.size + 2) L 0 [⟨0, 0, 0, 0, 0⟩] (fun _ _ => none) := by
    rw [hw2]; exact mach_new w1 H L (by have := hb1.size; rw [AB.out.2.2.2.2] at this; exact this)
  have hb2 : Below H w w2 := by
    rw [hw2]
    have hs : H ≤ w1.heap.size := by have := hb1.size; rw [AB.out.2.2.2.2] at this; exact this
    exact ((hb1.alloc hs _).alloc (by show _ ≤ (w1.heap.push _).size; simp; omega) _).alloc (by show _ ≤ ((w1.heap.push _).push _).size; simp; omega) _
  have AM : Aside (Mach w2 H (w1.heap.size + 2) L 0 [⟨0, 0, 0, 0, 0⟩] (fun _ _ => none) ∧ Below H w w2) := ⟨hm2, hb2⟩
  clear hm2 hb2 hb1 hc
  have hmm := @run_makeMap Tryd.prog
  go_upto_region 5 with fail
  clear hmm
  obtain ⟨A, hA⟩ : ∃ A, w1.heap.size + 1 + 1 = A := ⟨_, rfl⟩
  rw [← hw2, hA]
  rw [show w1.heap.size + 2 = A from hA] at AM
  clear hw2 hA
  go_wp2_with fail
  go_loopg [24] L (fun g si wr => ∃ (i : Nat) (nd : List Nd) (G : Nat → Nat → Option Nat), si = .int .i64 i ∧ Aside (i + g = L ∧ Mach wr H A L (longest (ps.take i)) nd G ∧ Lay (ps.take i) (words (ps.take i)) nd G ∧ Below H w wr))
  case atStart => exact ⟨0, _, _, rfl, ⟨by omega, AM.out.1, lay_nil, AM.out.2⟩⟩
  case round =>
    clear AM
    obtain ⟨i, nd, G, rfl, hA⟩ := hrel
    by_cases hiL : i < L
    · have hi : (i : Int) < (L : Int) := by omega
      have hil : i < ps.length := by have := AB.out; omega
      obtain ⟨q, hq⟩ : ∃ q, ps[i]? = some q := ⟨_, List.getElem?_eq_getElem hil⟩
      obtain ⟨hq0, hq32⟩ := AB.out.2.2.2.1.len q (List.mem_of_getElem? hq)
      have hL64 : L ≤ 64 := by have := AB.out.2.2.2.1.few; have := AB.out; omega
      have hib : (i : Int) + 1 < 9223372036854775808 := by omega
      have hbw : Below w.heap.size w wr := by rw [AB.out.2.2.2.2]; exact hA.out.2.2.2
      obtain ⟨ai, ci, c1, c2, c3, c4, c5⟩ := hcell i q hq
      have c1' : wr.cell? ⟨pb, po + i, none⟩ = some (.slice ai q.length ci) := (hbw.cell (p := ⟨pb, po + i, none⟩) (World.block_lt_of_cell? w ⟨pb, po + i, none⟩ c1)).trans c1
      have hti : (ps.take i).length = i := by rw [List.length_take]; omega
      have hpre : ∀ p ∈ ps.take i, p.length ≤ 32 := fun p hp => (AB.out.2.2.2.1.len p (List.mem_of_mem_take hp)).2
      have hwl := words_len hpre
      have hll := longest_le hpre
      have hqn : q ∉ ps.take i := by
        intro hm
        obtain ⟨j, hj⟩ := List.getElem?_of_mem hm
        rw [List.getElem?_take] at hj
        split at hj
        · rename_i hlt
          obtain ⟨h1, e1⟩ := List.getElem?_eq_some_iff.1 hj
          obtain ⟨h2, e2⟩ := List.getElem?_eq_some_iff.1 hq
          exact List.pairwise_iff_getElem.1 AB.out.2.2.2.1.once j i h1 h2 hlt (by rw [e1, e2])
        · cases hj
      have hlay := lay_c i q.length ci ai q wr hA.out.2.1 hA.out.2.2.1 hti.symm (by omega) hqn rfl c3 (by omega) (AB.out.2.2.1 q (List.mem_of_getElem? hq)) (fun u hu => c2.below (hbw.trans (by rw [AB.out.2.2.2.2]; exact hu))) (by have := hbw.size; rw [AB.out.2.2.2.2] at this; exact this) (by rw [hti] at hwl; omega) (by omega)
      have AI : Aside (i < L ∧ ps.take (i + 1) = ps.take i ++ [q]) := ⟨hiL, take_snoc hq⟩
      obtain ⟨k, hk⟩ : ∃ k, q.length = k := ⟨_, rfl⟩
      rw [hk] at hlay c1'
      have AK : Aside (q.length = k) := hk
      clear hq hil hq0 hq32 hL64 hbw c1 c2 c3 c4 c5 hti hpre hwl hll hqn hiL hk
      go_wp2_with (go_at_call 16; refine hlay.mono ?_; rintro e2 w3 ⟨rfl, nd', G', hm3, hl3, hb3⟩)
      have hg := hA.out; have hi := AI.out
      go_roundg (L - (i + 1))
      case measure => omega
      case rel =>
        refine ⟨i + 1, nd', G', by go_num, ⟨by omega, ?_, ?_, hg.2.2.2.trans hb3⟩⟩
        · rw [hi.2, longest_snoc, AK.out]; exact hm3
        · rw [hi.2, words_snoc]; exact hl3
    · have hi : ¬ (i : Int) < (L : Int) := by omega
      have hall : ps.take i = ps := List.take_of_length_le (by have := AB.out; have := hA.out; omega)
      have hA2 : Aside (Mach wr H A L (longest ps) nd G ∧ Lay ps (words ps) nd G ∧ Below H w wr) := by
        obtain ⟨a1, a2, a3, a4⟩ := hA.out
        rw [hall] at a2 a3
        exact ⟨a2, a3, a4⟩
      obtain ⟨N, hN⟩ : ∃ N, nd.length = N := ⟨_, rfl⟩
      have hNw : N = (words ps).length := by rw [← hN]; exact hA2.out.2.1.laid.len
      have hNb : N < 1048576 := by rw [hNw]; exact hA2.out.2.1.laid.small
      have hord := order_c wr hA2.out.1 N hN hNb
      have AN : Aside (nd.length = N ∧ N = (words ps).length ∧ N < 1048576) := ⟨hN, hNw, hNb⟩
      obtain ⟨X, hX⟩ : ∃ X, longest ps = X := ⟨_, rfl⟩
      rw [hX] at hA2
      have AX : Aside (longest ps = X) := hX
      clear hall hiL hA hN hNw hNb hX
      go_wp2_with (go_at_call 17; refine hord.mono ?_; rintro e2 w3 ⟨B, Z, rfl, hp3, ho3, hs3, hB3, hb3⟩)
      have A3 : Aside (Z.Perm (List.range N) ∧ Ord (deep nd) Z ∧ Sd w3 B Z ∧ Mach w3 H A L X nd G ∧ Below H w w3 ∧ Z.length = N) := by
        refine ⟨hp3, ho3, hs3, hA2.out.1.below hb3, hA2.out.2.2.trans (hb3.mono ?_), by rw [hp3.length_eq, List.length_range]⟩
        have := hA2.out.2.2.size; rw [AB.out.2.2.2.2] at this; exact this
      clear hp3 ho3 hs3 hB3 hb3 hord
      go_loopg [37] N (fun g sj wr => ∃ (j : Nat) (nd' : List Nd), sj = .int .i64 j ∧ Aside (j + g = N ∧ Sd wr B Z ∧ Mach wr H A L X nd' G ∧ Laid (words ps) nd' G ∧ Half ps (words ps) nd' (Z.take j) ∧ Below H w wr))
      case atStart =>
        refine ⟨0, nd, rfl, ⟨by omega, A3.out.2.2.1, A3.out.2.2.2.1, hA2.out.2.1.laid, ?_, A3.out.2.2.2.2.1⟩⟩
        intro s u n h1 h2
        refine ⟨fun h => by simp at h, fun _ => ⟨hA2.out.2.1.fa n (List.mem_of_getElem? h2), hA2.out.2.1.ou h1 h2⟩⟩
      case round =>
        obtain ⟨j, nd', rfl, hJ⟩ := hrel
        by_cases hjN : j < N
        · have hj : (j : Int) < (N : Int) := by omega
          have hjZ : j < Z.length := by have := A3.out; omega
          obtain ⟨s, hs⟩ : ∃ s, Z[j]? = some s := ⟨_, List.getElem?_eq_getElem hjZ⟩
          have cs := hJ.out.2.1.cell hs
          have hsN : s < N := List.mem_range.1 (A3.out.1.mem_iff.1 (List.mem_of_getElem? hs))
          obtain ⟨u, hu⟩ : ∃ u, (words ps)[s]? = some u := ⟨_, List.getElem?_eq_getElem (by have := AN.out; omega)⟩
          obtain ⟨n, hn⟩ := hJ.out.2.2.2.1.node hu
          have hfresh := fresh_at A3.out.1 hs
          have hdeep : ∀ (s' : Nat) (u' : List Nat), (words ps)[s']? = some u' → deep nd s' = u'.length := by
            intro s' u' h'
            obtain ⟨n', hn'⟩ := hA2.out.2.1.laid.node h'
            rw [deep_at hn']; exact hA2.out.2.1.laid.dp h' hn'
          have hul : u.length < 1048576 := by
            rcases words_mem_iff.1 (List.mem_of_getElem? hu) with rfl | ⟨p, hp, hpre⟩
            · simp
            · have := hpre.length_le; have := (AB.out.2.2.2.1.len p hp).2; omega
          have hfol := follow_c s u n wr hJ.out.2.2.1 hJ.out.2.2.2.1 hu hn ((hJ.out.2.2.2.2.1 s u n hu hn).2 hfresh) AB.out.2.2.2.1.no_nil hA2.out.2.1.sub
            (fun s' u' n' h1 h2 h3 => (hJ.out.2.2.2.2.1 s' u' n' h1 h2).1 (ahead_of A3.out.1 A3.out.2.1 hs (by have := at_lt h1; have := AN.out; omega) (by rw [hdeep s' u' h1, hdeep s u hu]; exact h3))) hul
          have hjb : (j : Int) + 1 < 9223372036854775808 := by have := AN.out; omega
          have AI : Aside (j < N ∧ Z.take (j + 1) = Z.take j ++ [s] ∧ (words ps)[s]? = some u ∧ nd'[s]? = some n ∧ s < nd'.length) := ⟨hjN, take_snoc hs, hu, hn, at_lt hn⟩
          clear hs hjZ hsN hu hn hfresh hdeep hul hjN
          go_wp2_with (go_at_call 18; refine hfol.mono ?_; rintro e2 w4 ⟨rfl, m, m1, m2, m3, m4, m5, m6, m7⟩)
          have hg := hJ.out; have hi := AI.out
          go_roundg (N - (j + 1))
          case measure => omega
          case rel =>
            refine ⟨j + 1, nd'.set s m, by go_num, ⟨by omega, m7 _ _ hg.2.1, m5, hg.2.2.2.1.set hi.2.2.2.1 m1 m2 m3, ?_, hg.2.2.2.2.2.trans m6⟩⟩
            rw [hi.2.1]
            exact hg.2.2.2.2.1.step hi.2.2.1 hi.2.2.2.2 m4
        · have hj : ¬ (j : Int) < (N : Int) := by omega
          have hfull : Aside (Full ps nd' G) := by
            refine ⟨hJ.out.2.2.2.1, ?_⟩
            intro s u n h1 h2
            refine (hJ.out.2.2.2.2.1 s u n h1 h2).1 ?_
            rw [List.take_of_length_le (by have := A3.out; omega)]
            exact A3.out.1.mem_iff.2 (List.mem_range.2 (by have := at_lt h1; have := AN.out; omega))
          clear hjN
          go_wp2_with fail
          go_ret2
          exact ⟨A, rfl, nd', G, by rw [AX.out]; exact hJ.out.2.2.1, hfull.out, hJ.out.2.2.2.2.2⟩
end Go.Proofs.YtbepbjbbhenphabDoor

/-
  Own texts of this seat, one behind the other: what each says stands ahead of it.
-/
import Derived.Test.YtcmmjbkgoafbnaaDoorMl
import Derived.Test.YtcmmjbkgoafbnaaDoorMm
import Derived.Test.YtcmmjbkgoafbnaaDoorMe
/-
  What told comes to: the walk.
-/
namespace Go.Proofs.YtcmmjbkgoafbnaaDoor
open Go.RowKit
set_option linter.unusedVariables false
set_option linter.unusedSimpArgs false
theorem made_one {w : World} {H : Nat} (v : Value) (t : TypeId) (hH : w.heap.size = H) : ([v] : List Value) = [] ∨ ∃ b o, (some ⟨H, 0, none⟩ : Option Addr) = some ⟨b, o, none⟩ ∧ ∀ i u, ([v] : List Value)[i]? = some u → (w.alloc (.cells #[v] t)).cell? ⟨b, o + i, none⟩ = some u := Or.inr ⟨H, 0, rfl, fun i u hu => by
  cases i with
  | zero => simp at hu; rw [← hu, ← hH, (Cells.new w #[v] t).cell (0 + 0)]; rfl
  | succ i => simp at hu⟩
/-- What told stands at. -/
structure To (w wr : World) (lo : Nat) (v1 v2 : Value) (n : Nat) (l : List Ent) : Prop where
  ex : ∃ vs, Ns wr lo v1 (tdn l) ∧ Ow wr lo 22 1 v2 n vs ∧ Sv w vs (tdd l)
  len : n = (tdn l).length
  bel : Below lo w wr
set_option maxRecDepth 100000 in
set_option maxHeartbeats 4000000 in
theorem told_c (a : Option Addr) (l : List Ent) (NL C0 : Nat) (w : World) (hl : l.length = NL) (hNb : NL ≤ 1000) (hE : Em w a l) (hok : ∀ e ∈ l, Eok e) : Calls Tryd.prog 20 #[.slice a NL C0] w fun e w' => ∃ v1 v2, e = .returned (.tuple #[v1, v2]) ∧ To w w' w.heap.size v1 v2 (tdn l).length l := by
  obtain ⟨lo, hlo⟩ : ∃ lo, w.heap.size = lo := ⟨_, rfl⟩
  obtain ⟨i9, hi9, hy0, hy1, hy2⟩ := ginfo_parts ginfo9
  obtain ⟨i0, hi0, hz0, hz1, hz2⟩ := ginfo_parts ginfo22
  have A : Aside (l.length = NL ∧ NL ≤ 1000 ∧ Em w a l ∧ (∀ e ∈ l, Eok e) ∧ w.heap.size = lo) := ⟨hl, hNb, hE, hok, hlo⟩
  rw [hlo]
  clear hl hNb hE hok hlo
  go_enter Tryd.func20, Tryd.ntmps20
  go_wp2_with fail
  go_loopg [4, 5, 6] NL (fun gg s4 s5 s6 wr => ∃ (i : Nat) (an : Option Addr) (cn : Nat) (ar : Option Addr) (cr n : Nat), s4 = .slice an n cn ∧ s5 = .slice ar n cr ∧ s6 = .int .i64 (i : Int) ∧ Aside (i + gg = NL ∧ To w wr lo (.slice an n cn) (.slice ar n cr) n (l.take i)))
  case atStart => exact ⟨0, none, 0, none, 0, 0, rfl, rfl, rfl, ⟨by omega, ⟨⟨[], Ns.nil (by rw [A.out.2.2.2.2]; exact Nat.le_refl _), Ow.nil (by rw [A.out.2.2.2.2]; exact Nat.le_refl _), Sv.nil _⟩, rfl, Below.refl _ _⟩⟩⟩
  case round =>
    obtain ⟨i, an, cn, ar, cr, n, rfl, rfl, rfl, hI⟩ := hrel
    obtain ⟨hig, hT⟩ := hI.out
    have a0 := A.out
    by_cases hiN : i < NL
    · have t1 : ((i : Int) < (NL : Int)) = True := eq_true (by omega)
      have t1n : (i < NL) = True := eq_true hiN
      obtain ⟨e, he⟩ : ∃ e, l[i]? = some e := ⟨_, List.getElem?_eq_getElem (by omega)⟩
      have hek := a0.2.2.2.1 e (List.mem_of_getElem? he)
      have hmore := td_more he
      obtain ⟨eb, eo, rfl, hEm⟩ : ∃ b o, a = some ⟨b, o, none⟩ ∧ ∀ (i : Nat) (e : Ent), l[i]? = some e → E1 w b (o + i * 4) e := by
        rcases a0.2.2.1 with q | q
        · rw [q] at he; simp at he
        · exact q
      obtain ⟨da, L, C, g1, g2, g3, g4, g5, g6, g7, g8⟩ := (hEm i e he).ex
      have hb : eb < lo := Classical.byContradiction fun hc => by
        have : w.heap[eb]? = none := Array.getElem?_eq_none (by have := a0.2.2.2.2; omega)
        simp [World.cell?, this] at g1
      obtain ⟨s0, hs0⟩ : ∃ x, st e.1 = x := ⟨_, rfl⟩
      obtain ⟨kd, hkd⟩ : ∃ x, e.2.2.2 = x := ⟨_, rfl⟩
      obtain ⟨nm, hnm⟩ : ∃ x, nmd e.1 = x := ⟨_, rfl⟩
      obtain ⟨ns, hns⟩ : ∃ x, st nm = x := ⟨_, rfl⟩
      obtain ⟨d, hd⟩ : ∃ x, e.2.1 = x := ⟨_, rfl⟩
      have AL : Aside (∀ u, Below lo w u → u.cell? ⟨eb, eo + i * 4, none⟩ = some (.string s0) ∧ u.cell? ⟨eb, eo + i * 4 + 1, none⟩ = some (.slice da L C) ∧ u.cell? ⟨eb, eo + i * 4 + 3, none⟩ = some (.int .u8 (kd : Int))) := fun u bu => by
        have kk : ∀ j, u.cell? ⟨eb, j, none⟩ = w.cell? ⟨eb, j, none⟩ := fun j => World.cell?_of_block (w := w) (bu.block eb hb)
        exact ⟨by rw [kk, ← hs0]; exact g1, by rw [kk]; exact g2, by rw [kk, ← hkd]; exact g4⟩
      have m := AL.out wr hT.bel
      have m0 := m.1
      have m3 := m.2.2
      have bi : (i : Int) < 1000000 := by have := a0.2.1; omega
      have hnb : n ≤ 1000 := by
        have h1 := hT.len
        have h2 := tdn_len (l.take i)
        rw [List.length_take] at h2
        omega
      rw [hkd, hnm, hd] at hmore
      rw [hd] at g5 g6
      by_cases hk0 : kd = 0
      · have t2 : ((kd : Int) == 0) = true := by rw [hk0]; rfl
        have hNa := named_c e.1 hek.n hek.nl wr
        rw [hs0, hnm, hns] at hNa
        rw [if_pos hk0, if_pos hk0] at hmore
        have AI : Aside (i < NL ∧ i + gk = NL ∧ tdn (l.take (i + 1)) = tdn (l.take i) ++ [nm] ∧ tdd (l.take (i + 1)) = tdd (l.take i) ++ [d] ∧ st nm = ns ∧ To w wr lo (.slice an n cn) (.slice ar n cr) n (l.take i) ∧ Lies w da d ∧ d.length = L ∧ L ≤ C ∧ (da = none → L = 0 ∧ C = 0)) := ⟨hiN, hig, hmore.1, hmore.2, hns, hT, g5, g6, g7, g8⟩
        have AM : Aside (n + 1 ≤ maxLen ∧ (n + 1) * 16 ≤ 140737488355328 ∧ (n + 1) * 24 ≤ 140737488355328) := ⟨by unfold maxLen; omega, by omega, by omega⟩
        clear hI hig hT a0 hiN he hek hmore hEm g1 g2 g3 g4 g5 g6 g7 g8 hb hs0 hkd hnm hns hd m hk0 hnb
        go_upto_region 7 with fail
        clear m3 t2
        go_upto_region 8 with (first
          | (go_at_call 23; refine hNa.mono ?_; rintro e1 w3 ⟨rfl, b3⟩; obtain ⟨H, hH⟩ : ∃ H, w3.heap.size = H := ⟨_, rfl⟩; have hlN := made_one (.string ns) 9 hH; have h1N : ∀ u ∈ ([.string ns] : List Value), u.oneCell' = true := (fun u hu => by simp at hu; subst hu; rfl); have bA : Below w3.heap.size w3 (w3.alloc (.cells #[.string ns] 9)) := (Below.refl _ w3).alloc (Nat.le_refl _) _; obtain ⟨vs, hN0, hO0, hS0⟩ := AI.out.2.2.2.2.2.1.ex; have b13 := b3.trans (bA.mono b3.size); have hN1 := hN0.below b13 (Nat.le_refl _); unfold Ns at hN1; rw [← AI.out.2.2.2.2.2.1.len] at hN1)
          | (at_builtin; refine wpList_ow Tryd.prog _ rfl (.tmp 19) (.tmp 26) 43 rfl 9 i9 _ 1 16 Tryd.underlying43 hi9 hy0 hy1 hy2 rfl (by decide) lo (.slice an n cn) n _ (by rfl) hN1 (some ⟨H, 0, none⟩) [.string ns] 1 1 rfl (by rfl) (by intro h; cases h) hlN h1N AM.out.1 AM.out.2.1 ?_; intro v4 w4 hg4; obtain ⟨a4, c4, hv4, _⟩ := hg4.ow.shape; subst hv4))
        have ai := AI.out
        have T0 := ai.2.2.2.2.2.1
        have bel4 : Below lo w w4 := T0.bel.trans ((b13.mono hN0.le).trans hg4.bel)
        have O4 : Ow w4 lo 22 1 (.slice ar n cr) n vs := (hO0.below b13 (Nat.le_refl _)).got hg4 (by decide)
        have N4 : Ns w4 lo (.slice a4 (n + 1) c4) (tdn (l.take (i + 1))) := by
          unfold Ns
          rw [ai.2.2.1, List.length_append, List.length_singleton, ← T0.len, sv_append]
          have := hg4.ow
          rw [show sv [nm] = [.string ns] by simp [sv, ai.2.2.2.2.1]]
          exact this
        have m1 := (AL.out w4 bel4).2.1
        obtain ⟨H2, hH2⟩ : ∃ H2, w4.heap.size = H2 := ⟨_, rfl⟩
        have hl2 := made_one (.slice da L C) 22 hH2
        have h12 : ∀ u ∈ ([.slice da L C] : List Value), u.oneCell' = true := fun u hu => by simp at hu; subst hu; rfl
        have bB : Below w4.heap.size w4 (w4.alloc (.cells #[.slice da L C] 22)) := (Below.refl _ w4).alloc (Nat.le_refl _) _
        have O5 := O4.below bB (Nat.le_refl _)
        have N5 := N4.below bB (Nat.le_refl _)
        have AF : Aside (Ns (w4.alloc (.cells #[.slice da L C] 22)) lo (.slice a4 (n + 1) c4) (tdn (l.take (i + 1))) ∧ Below lo w (w4.alloc (.cells #[.slice da L C] 22)) ∧ Sv w (vs ++ [.slice da L C]) (tdd (l.take (i + 1))) ∧ n + 1 = (tdn (l.take (i + 1))).length ∧ i < NL ∧ i + gk = NL) := by
          refine ⟨N5, bel4.trans (bB.mono O4.le), ?_, by rw [ai.2.2.1, List.length_append, ← T0.len]; rfl, ai.1, ai.2.1⟩
          rw [ai.2.2.2.1, ← ai.2.2.2.2.2.2.2.1]
          exact hS0.more ai.2.2.2.2.2.2.1 (by rw [ai.2.2.2.2.2.2.2.1]; exact ai.2.2.2.2.2.2.2.2.1) (by rw [ai.2.2.2.2.2.2.2.1]; exact ai.2.2.2.2.2.2.2.2.2)
        clear hlN h1N bA hN0 hO0 hS0 b13 hN1 ai T0 bel4 O4 N4 bB N5 hg4 hNa b3 m0 hH
        go_wp2_with (at_builtin; refine wpList_ow Tryd.prog _ rfl (.tmp 28) (.tmp 34) 44 rfl 22 i0 _ 1 24 Tryd.underlying44 hi0 hz0 hz1 hz2 rfl (by decide) lo (.slice ar n cr) n vs (by rfl) O5 (some ⟨H2, 0, none⟩) [.slice da L C] 1 1 rfl (by rfl) (by intro h; cases h) hl2 h12 AM.out.1 AM.out.2.2 ?_; intro v6 w6 hg6; obtain ⟨a6, c6, hv6, _⟩ := hg6.ow.shape; subst hv6)
        have af := AF.out
        go_roundg (gk - 1)
        case measure => omega
        case rel => exact ⟨i + 1, a4, c4, a6, c6, n + 1, rfl, rfl, by go_num, ⟨by omega, ⟨⟨_, af.1.got hg6 (by decide), hg6.ow, af.2.2.1⟩, af.2.2.2.1, af.2.1.trans hg6.bel⟩⟩⟩
      · have t2 : ((kd : Int) == 0) = false := by rw [beq_eq_false_iff_ne]; omega
        rw [if_neg hk0, if_neg hk0] at hmore
        have AI : Aside (i < NL ∧ i + gk = NL ∧ To w wr lo (.slice an n cn) (.slice ar n cr) n (l.take (i + 1))) := ⟨hiN, hig, ⟨by rw [hmore.1, hmore.2]; exact hT.ex, by rw [hmore.1]; exact hT.len, hT.bel⟩⟩
        clear hI hig hT a0 hiN he hek hmore hEm g1 g2 g3 g4 g5 g6 g7 g8 hb hs0 hkd hnm hns hd m hk0 hnb
        go_wp2_with fail
        have ai := AI.out
        go_roundg (gk - 1)
        case measure => omega
        case rel => exact ⟨i + 1, an, cn, ar, cr, n, rfl, rfl, by go_num, ⟨by omega, ai.2.2⟩⟩
    · have t1 : ((i : Int) < (NL : Int)) = False := eq_false (by omega)
      have t1n : (i < NL) = False := eq_false hiN
      have AZ : Aside (To w wr lo (.slice an n cn) (.slice ar n cr) (tdn l).length l) := by
        have h := hT
        rw [List.take_of_length_le (by omega)] at h
        show To w wr lo (.slice an n cn) (.slice ar n cr) (tdn l).length l
        exact ⟨by rw [← h.len]; exact h.ex, rfl, h.bel⟩
      clear hI hig hT a0 hiN
      go_wp2_with fail
      first | go_ret | go_ret2
      exact ⟨_, _, rfl, AZ.out⟩
end Go.Proofs.YtcmmjbkgoafbnaaDoor

/-
  What Write, Whole, told and small say of entries that came in, in letters.
-/
namespace Go.Proofs.YtcmmjbkgoafbnaaDoor
open Go.RowKit
set_option linter.unusedVariables false
/-- What Write answers. -/
structure Wtr (l : List Ent) (u : World) (e : Ending) (u' : World) : Prop where
  ex : ∃ a n c, e = .returned (.slice a n c) ∧ (wri l).length = n ∧ n ≤ 300000000 ∧ n ≤ c ∧ Lies u' a (wri l) ∧ Ow u' u.heap.size 5 1 (.slice a n c) n (ob (wri l)) ∧ Below u.heap.size u u'
theorem Ea.write {w u : World} {a : Option Addr} {l : List Ent} {N : Nat} (h : Ea w a l N) (hu : Below w.heap.size w u) (hs : N * 500 + sdt l < 20000) (C : Nat) : Calls Tryd.prog 19 #[.slice a N C] u fun e w' => Wtr l u e w' := by
  have hl := h.len
  have hok := h.eok hs
  refine (write_c a l N C u hl (by omega) (h.em.below hu (Nat.le_refl _)) hok).mono fun e w' q => ?_
  obtain ⟨v, rfl, q1, q2⟩ := q
  obtain ⟨a', c, rfl, q3, q4, q5, _⟩ := q1.lies
  exact ⟨a', _, c, rfl, rfl, wri_len hok (by omega), q4, q5, q1, q2⟩
/-- What Whole answers. -/
structure Whl (ns ls : List (List Nat)) (y : Nat) (u : World) (e : Ending) (u' : World) : Prop where
  ex : ∃ an n cn al m cl, e = .returned (.tuple #[.slice an n cn, .slice al m cl, .int .i64 (y : Int)]) ∧ ns.length = n ∧ ls.length = m ∧ Nl u' an ns ∧ Rl u' al ls ∧ Below u.heap.size u u'
theorem Wr0.whl {ns ls : List (List Nat)} {y : Nat} {u u' : World} {e : Ending} (h : Wr0 (ns, ls) y u e u') : Whl ns ls y u e u' := by
  obtain ⟨vn, vl, lo2, rfl, _, h2, h3, h4⟩ := h.ex
  obtain ⟨an, cn, rfl, _, q1, _⟩ := h2.nl
  obtain ⟨al, cl, rfl, _⟩ := h3.shape
  exact ⟨an, _, cn, al, _, cl, rfl, rfl, rfl, q1, h3.rl rfl, h4⟩
theorem whole_l {u : World} (he : Er u) {b ns ls : List (List Nat)} {z : List Nat} {aB : Option Addr} {L C k y : Nat} {s : Ts} {T : List Gev} (hB : Lies u aB z) (hL : z.length = L) (hLb : L ≤ 1000000000000) (ho : Oct z) (hr : Rch z k s T) (hk : s.why ≠ 0 ∨ k = L) (hp : po2 [] [] (evx T) = (ns, ls)) (hy : zfin s = y) : Calls Tryd.prog 18 #[.slice aB L C] u fun e w' => Whl ns ls y u e w' :=
  (wwhole_c u he aB z L C hB hL hLb ho k s T hr hk (ns, ls) hp y hy).mono fun e w' h => h.whl
/-- What told answers. -/
structure Tdl (l : List Ent) (u : World) (e : Ending) (u' : World) : Prop where
  ex : ∃ an n cn al cl, e = .returned (.tuple #[.slice an n cn, .slice al n cl]) ∧ (tdn l).length = n ∧ (tdd l).length = n ∧ Nl u' an (tdn l) ∧ Rl u' al (tdd l) ∧ Below u.heap.size u u'
theorem Ea.told {w u : World} {a : Option Addr} {l : List Ent} {N : Nat} (h : Ea w a l N) (hu : Below w.heap.size w u) (hs : N * 500 + sdt l < 20000) (C : Nat) : Calls Tryd.prog 20 #[.slice a N C] u fun e w' => Tdl l u e w' := by
  have hok := h.eok hs
  refine (told_c a l N C u h.len (by omega) (h.em.below hu (Nat.le_refl _)) hok).mono fun e w' q => ?_
  obtain ⟨v1, v2, rfl, q⟩ := q
  obtain ⟨vs, q1, q2, q3⟩ := q.ex
  obtain ⟨an, cn, rfl, _, r1, _⟩ := q1.nl
  obtain ⟨al, cl, rfl, _, r2, _⟩ := (q3.below q.bel).rl q2 (td_len l)
  exact ⟨an, _, cn, al, cl, rfl, rfl, (td_len l).symm, r1, r2, q.bel⟩
theorem tdd_oct {w : World} {a : Option Addr} {l : List Ent} {N : Nat} (h : Ea w a l N) : ∀ x ∈ tdd l, Oct x := by
  have : ∀ l : List Ent, (∀ e ∈ l, Eo e) → ∀ x ∈ tdd l, Oct x := by
    intro l
    induction l with
    | nil => intro _ x hx; simp [tdd] at hx
    | cons e r ih =>
      intro he x hx
      have hr := ih fun y hy => he y (List.mem_cons_of_mem _ hy)
      simp only [tdd] at hx
      split at hx
      · rcases List.mem_cons.1 hx with rfl | hx
        · exact (he e (by simp)).d
        · exact hr x hx
      · exact hr x hx
  exact this l h.ok
theorem tdn_few {w : World} {a : Option Addr} {l : List Ent} {N : Nat} (h : Ea w a l N) (hs : N * 500 + sdt l < 20000) : (tdn l).length ≤ 39 := by
  have := tdn_len l
  have := h.len
  omega
/-- small, where the world behind it is the one ahead of it. -/
theorem Ea.small {w u : World} {a : Option Addr} {l : List Ent} {N : Nat} (h : Ea w a l N) (hu : Below w.heap.size w u) (C : Nat) : Calls Tryd.prog 17 #[.slice a N C] u fun e w' => (∃ b, e = .returned (.bool b) ∧ (b = true → N * 500 + sdt l < 20000)) ∧ u = w' :=
  (small_c a l N C u h.len h.big (h.em.below hu (Nat.le_refl _)) (fun e he => (h.ok e he).dl)).mono fun e w' ⟨b, h1, h2, h3⟩ => ⟨⟨b, h1, h2⟩, h3.symm⟩
end Go.Proofs.YtcmmjbkgoafbnaaDoor

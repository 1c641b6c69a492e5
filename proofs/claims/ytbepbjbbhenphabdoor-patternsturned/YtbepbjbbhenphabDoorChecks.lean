/-
  What Check comes to, whole; and what patterns without an error are.
-/
import Derived.Test.YtbepbjbbhenphabDoorCheck
namespace Go.Proofs.YtbepbjbbhenphabDoor
open Go.RowKit
set_option linter.unusedVariables false
def chkFrom : List (List Nat) → List (List Nat) → Nat
  | _, [] => 0
  | ahead, p :: r => if oneErr p ahead = 0 then chkFrom (ahead ++ [p]) r else oneErr p ahead
/-- The error of some patterns. -/
def chk (ps : List (List Nat)) : Nat := if ps.length = 0 ∨ 64 < ps.length then 60 else chkFrom [] ps
/-- Patterns that may be. -/
structure Good (ps : List (List Nat)) : Prop where
  pos : 0 < ps.length
  few : ps.length ≤ 64
  len : ∀ p ∈ ps, 0 < p.length ∧ p.length ≤ 32
  once : ps.Nodup
theorem oneErr_zero {p : List Nat} {ahead : List (List Nat)} (h : oneErr p ahead = 0) : 0 < p.length ∧ p.length ≤ 32 ∧ p ∉ ahead := by
  unfold oneErr at h
  split at h
  · cases h
  · split at h
    · cases h
    · split at h
      · cases h
      · exact ⟨by omega, by omega, by assumption⟩
theorem chkFrom_zero : ∀ (r ahead : List (List Nat)), chkFrom ahead r = 0 → ahead.Nodup → (∀ p ∈ r, 0 < p.length ∧ p.length ≤ 32) ∧ (ahead ++ r).Nodup
  | [], ahead, _, hn => ⟨by simp, by simpa using hn⟩
  | p :: r, ahead, h, hn => by
    rw [chkFrom] at h
    split at h
    · rename_i h0
      obtain ⟨h1, h2, h3⟩ := oneErr_zero h0
      obtain ⟨k1, k2⟩ := chkFrom_zero r (ahead ++ [p]) h (by
        rw [List.nodup_append]
        refine ⟨hn, by simp, fun a ha b hb => ?_⟩
        rw [List.mem_singleton.1 hb]
        exact fun e => h3 (e ▸ ha))
      refine ⟨fun q hq => ?_, by simpa using k2⟩
      rcases List.mem_cons.1 hq with rfl | hq
      · exact ⟨h1, h2⟩
      · exact k1 q hq
    · rename_i h0
      exact absurd h h0
theorem chk_good {ps : List (List Nat)} (h : chk ps = 0) : Good ps := by
  unfold chk at h
  split at h
  · cases h
  · rename_i hc
    obtain ⟨h1, h2⟩ := chkFrom_zero ps [] h (by simp)
    exact ⟨by omega, by omega, h1, by simpa using h2⟩
theorem Good.no_nil {ps : List (List Nat)} (h : Good ps) : [] ∉ ps := fun hm => by have := (h.len [] hm).1; simp at this
theorem chkFrom_cases : ∀ (r ahead : List (List Nat)), chkFrom ahead r = 0 ∨ chkFrom ahead r = 61 ∨ chkFrom ahead r = 62 ∨ chkFrom ahead r = 63
  | [], _ => Or.inl rfl
  | p :: r, ahead => by
    rw [chkFrom]
    split
    · exact chkFrom_cases r _
    · unfold oneErr
      split
      · simp
      · split
        · simp
        · split <;> simp
theorem chk_lt (ps : List (List Nat)) : chk ps < 100 := by
  unfold chk
  split
  · omega
  · rcases chkFrom_cases ps [] with h | h | h | h <;> omega
theorem drop_more {α : Type} {l : List α} {k : Nat} {x : α} (h : l[k]? = some x) : l.drop k = x :: l.drop (k + 1) := by
  obtain ⟨hk, e⟩ := List.getElem?_eq_some_iff.1 h
  rw [List.drop_eq_getElem_cons hk, e]
set_option maxHeartbeats 1000000 in
theorem check_c (a : Option Addr) (ps : List (List Nat)) (L C : Nat) (w : World) (hp : Rows2 w a ps) (hL : ps.length = L) (hLC : L ≤ C) (hC : L < 140737488355328) (ho : Octs ps) (hz : a = none → C = 0) :
    Calls Tryd.prog 15 #[.slice a L C] w fun e w' => e = .returned (.int .i64 (chk ps : Nat)) ∧ Below w.heap.size w w' := by
  obtain ⟨H, hH⟩ : ∃ H, w.heap.size = H := ⟨_, rfl⟩
  have AB : Aside (Rows2 w a ps ∧ ps.length = L ∧ L ≤ C ∧ L < 140737488355328 ∧ Octs ps ∧ w.heap.size = H) := ⟨hp, hL, hLC, hC, ho, hH⟩
  have hck : chk ps = if L = 0 ∨ 64 < L then 60 else chkFrom [] ps := by unfold chk; rw [hL]
  rw [hck, hH]
  have hCi : (L : Int) ≤ (C : Int) := by omega
  clear hck
  by_cases h0 : L = 0
  · rw [if_pos (Or.inl h0)]
    subst h0
    clear hp hL hLC hC ho hH
    go_enter Tryd.func15, Tryd.ntmps15
    go_wp2_with fail
    go_ret
    exact ⟨rfl, Below.refl _ _⟩
  · have h0i : ((L : Int) == 0) = false := by rw [beq_eq_false_iff_ne]; omega
    by_cases h1 : 64 < L
    · rw [if_pos (Or.inr h1)]
      have h1i : (64 : Int) < (L : Int) := by omega
      clear hp hL hLC hC ho hH h0 h1
      go_enter Tryd.func15, Tryd.ntmps15
      go_wp2_with fail
      go_ret
      exact ⟨rfl, Below.refl _ _⟩
    · rw [if_neg (by omega)]
      have h1i : ¬ (64 : Int) < (L : Int) := by omega
      have AL : Aside (L ≤ 64) := (show L ≤ 64 by omega)
      obtain ⟨z, hz'⟩ : ∃ z, chkFrom [] ps = z := ⟨_, rfl⟩
      rw [hz']
      have AZ : Aside (chkFrom [] ps = z) := hz'
      rcases hp with hp | ⟨pb, po, rfl, hc⟩
      · rw [hp] at hL; simp at hL; exact absurd hL.symm h0
      clear hL hLC hC ho hH h0 h1 hz' hz
      go_enter Tryd.func15, Tryd.ntmps15
      go_wp2_with fail
      go_loopg [16] L (fun g si wr => ∃ i : Nat, si = .int .i64 i ∧ Aside (i + g = L ∧ chkFrom (ps.take i) (ps.drop i) = z ∧ Below H w wr))
      case atStart => exact ⟨0, rfl, ⟨by omega, by simpa using AZ.out, Below.refl _ _⟩⟩
      case round =>
        obtain ⟨i, rfl, hA⟩ := hrel
        by_cases hiL : i < L
        · have hi : (i : Int) < (L : Int) := by omega
          have hiC : (i : Int) ≤ (C : Int) := by omega
          have hil : i < ps.length := by have := AB.out; omega
          obtain ⟨q, hq⟩ : ∃ q, ps[i]? = some q := ⟨_, List.getElem?_eq_getElem hil⟩
          have hib : (i : Int) + 1 < 9223372036854775808 := by have := AL.out; omega
          have hbw : Below w.heap.size w wr := by rw [AB.out.2.2.2.2.2]; exact hA.out.2.2
          obtain ⟨ai, ci, c1, c2, c3, c4, c5⟩ := hc i q hq
          have c1' : wr.cell? ⟨pb, po + i, none⟩ = some (.slice ai q.length ci) := (hbw.cell (p := ⟨pb, po + i, none⟩) (World.block_lt_of_cell? w ⟨pb, po + i, none⟩ c1)).trans c1
          have hone := one_c ai (some ⟨pb, po, none⟩) q (ps.take i) q.length ci i C wr (c2.below hbw) rfl (AB.out.2.2.2.2.1 q (List.mem_of_getElem? hq)) ((AB.out.1.below hbw).take i) (by rw [List.length_take]; omega) (by have := AB.out; omega) (by have := AB.out; omega) (fun l hl => AB.out.2.2.2.2.1 l (List.mem_of_mem_take hl)) (by omega)
          have hst : Aside (chkFrom (ps.take i) (ps.drop i) = if oneErr q (ps.take i) = 0 then chkFrom (ps.take (i + 1)) (ps.drop (i + 1)) else oneErr q (ps.take i)) := by
            show _ = _
            rw [drop_more hq, chkFrom, List.take_add_one, hq]; rfl
          obtain ⟨k, hk⟩ : ∃ k, q.length = k := ⟨_, rfl⟩
          rw [hk] at hone c1'
          obtain ⟨er, her⟩ : ∃ er, oneErr q (ps.take i) = er := ⟨_, rfl⟩
          rw [her] at hone hst
          have AI : Aside (i < L ∧ wr.heap.size ≥ H) := ⟨hiL, by have := hbw.size; rw [AB.out.2.2.2.2.2] at this; exact this⟩
          clear hq hil c1 c2 c3 c4 c5 hk hiL her hbw
          by_cases h0 : er = 0
          · have AE : Aside (chkFrom (ps.take (i + 1)) (ps.drop (i + 1)) = z) := by have := hst.out; rw [if_pos h0, hA.out.2.1] at this; exact this.symm
            subst h0
            clear hst
            go_wp2_with (go_at_call 23; refine hone.mono ?_; rintro e2 w2 ⟨rfl, hb2⟩)
            have hg := hA.out; have hi := AI.out
            go_roundg (L - (i + 1))
            case measure => omega
            case rel => exact ⟨i + 1, by go_num, ⟨by omega, AE.out, hg.2.2.trans (hb2.mono hi.2)⟩⟩
          · have h0i : ((er : Int) == 0) = false := by rw [beq_eq_false_iff_ne]; omega
            have AE : Aside (er = z) := by have := hst.out; rw [if_neg h0, hA.out.2.1] at this; exact this.symm
            clear h0 hib hst
            go_wp2_with (go_at_call 23; refine hone.mono ?_; rintro e2 w2 ⟨rfl, hb2⟩)
            go_ret
            exact ⟨by rw [← AE.out]; rfl, hA.out.2.2.trans (hb2.mono AI.out.2)⟩
        · have hi : ¬ (i : Int) < (L : Int) := by omega
          have hz0 : Aside (z = 0) := by
            have := hA.out.2.1
            rw [List.drop_eq_nil_of_le (by have := AB.out; omega), chkFrom] at this
            exact this.symm
          clear hiL
          go_wp2_with fail
          go_ret
          exact ⟨by rw [hz0.out]; rfl, hA.out.2.2⟩
end Go.Proofs.YtbepbjbbhenphabDoor

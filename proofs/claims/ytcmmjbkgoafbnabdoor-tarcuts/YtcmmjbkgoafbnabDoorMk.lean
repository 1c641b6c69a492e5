/-
  Own texts of this seat, one behind the other: what each says stands ahead of it.
-/
import Derived.Test.YtcmmjbkgoafbnabDoorMj
import Derived.Test.YtcmmjbkgoafbnabDoorMe
import Derived.Test.YtcmmjbkgoafbnabDoorMa
import Derived.Deep.AppendLies
import Derived.Deep.RegionLaw
import Derived.Deep.RegionHeld3
import Derived.Test.YtcmmjbkgoafbnabDoorMd
import Derived.Test.YtcmmjbkgoafbnabDoorMf
/-
  The walker with what is pending: what Put, Next, End and Reason come to.
-/
namespace Go.Proofs.YtcmmjbkgoafbnabDoor
open Go.RowKit
set_option linter.unusedVariables false
set_option linter.unusedSimpArgs false
def gk1 (g : Nat) : Int := if g = 256 then 1 else if g = 257 then 3 else 2
def gk2 (g : Nat) : Int := if g < 256 then (g : Int) else 0
def gk3 (g : Nat) : Int := if g = 256 then 2 else 0
def gevv (g : Nat) (nm : List Nat) : Array Value := #[.int .i64 (gk1 g), .int .u8 (gk2 g), .int .i64 (gk3 g), .int .i64 0, .string (st nm)]
/-- What is pending, as it lies. -/
def rv : List Evn → Rv
  | [] => v0
  | e :: r => ⟨gk1 e.1, gk2 e.1, gk3 e.1, e.2, !r.isEmpty, false⟩
theorem gk1_ne (g : Nat) : gk1 g ≠ 0 := by unfold gk1; split <;> (try split) <;> decide
theorem rv_next {e : Evn} {E : List Evn} (h : Tfo (e :: E)) : vnx (rv (e :: E)) = rv E := by
  rcases (tfo_next h).2.2.2 with rfl | rfl
  · rfl
  · rfl
theorem vbeg_no {us z : Nat} {v : Rv} (h : us ≠ 1) : vbeg us z v = v := by
  unfold vbeg vcl
  rw [if_neg h]
  split <;> rfl
theorem vopn_rv (n : List Nat) (z : Nat) (s : Ts) : vbeg 1 z (vopn n v0) = rv ((256, n) :: (tbeg 1 z s).2) := by
  unfold vbeg tbeg
  split
  · rfl
  · rfl
theorem vhd_rv (s : Ts) : vhd s v0 = rv (thead s).2 := by
  unfold vhd thead
  split
  · rfl
  · split
    · rfl
    · split
      · rename_i h; rw [h]; rfl
      · rename_i z h
        rw [h]
        simp only
        split
        · rfl
        · by_cases ho : town (tkd s.B) = true
          · rw [if_pos ho]
            unfold vent topn tsz
            rw [if_pos ho]
            have hu : tus (tkd s.B) = if tisf (tkd s.B) then 1 else 0 := by
              unfold town at ho
              simp only [Bool.and_eq_true, bne_iff_ne, ne_eq] at ho
              unfold tus
              rw [if_neg ho.1.1.1, if_neg ho.1.1.2]
            rw [hu]
            by_cases hf : tisf (tkd s.B) = true
            · rw [if_pos hf, if_pos hf, if_pos hf]
              exact vopn_rv _ _ _
            · rw [if_neg hf, if_neg hf, if_neg hf, vbeg_no (by decide)]
              show v0 = rv ([] ++ _)
              rw [tbeg_ev (by decide)]; rfl
          · rw [if_neg ho]
            have hc : tkd s.B = 76 ∨ tkd s.B = 120 ∨ tkd s.B = 75 ∨ tkd s.B = 103 := by
              unfold town at ho
              by_cases q1 : tkd s.B = 76
              · exact Or.inl q1
              · by_cases q2 : tkd s.B = 120
                · exact Or.inr (Or.inl q2)
                · by_cases q3 : tkd s.B = 75
                  · exact Or.inr (Or.inr (Or.inl q3))
                  · by_cases q4 : tkd s.B = 103
                    · exact Or.inr (Or.inr (Or.inr q4))
                    · simp [q1, q2, q3, q4] at ho
            have hu : tus (tkd s.B) ≠ 1 := by rcases hc with e | e | e | e <;> rw [e] <;> decide
            have hf : tisf (tkd s.B) = false := by rcases hc with e | e | e | e <;> rw [e] <;> rfl
            rw [vbeg_no hu]
            unfold topn
            show v0 = rv ((if tisf (tkd s.B) = true then [(256, s.nm.getD (tnm s.B))] else []) ++ (tbeg (tus (tkd s.B)) _ _).2)
            rw [if_neg (by rw [hf]; decide), tbeg_ev hu]; rfl
theorem vdt_rv (x : Nat) (s : Ts) (hx : x < 256) : vdt x s v0 = rv (tdat x s).2 := by
  have h1 : vbyt x v0 = rv [(x, [])] := by
    unfold rv vbyt gk1 gk2 gk3
    simp only
    rw [if_neg (by omega), if_neg (by omega), if_pos hx, if_neg (by omega)]; rfl
  have h2 : ({ vbyt x v0 with cl := true } : Rv) = rv [(x, []), (257, [])] := by rw [h1]; rfl
  unfold vdt tdat tbt tcl vcl
  by_cases hl : s.lf = 1
  · rw [if_pos hl, if_pos hl]
    by_cases hu : s.us = 1
    · rw [if_pos hu, if_pos hu]; simp only [if_pos hu]; exact h2
    · rw [if_neg hu, if_neg hu]; simp only [if_neg hu]; rfl
  · rw [if_neg hl, if_neg hl]
    by_cases hu : s.us = 1
    · rw [if_pos hu]; simp only [if_pos hu]; exact h1
    · rw [if_neg hu]; simp only [if_neg hu]; rfl
theorem vpu_rv (s : Ts) (x : Nat) (hx : x < 256) : vpu s x v0 = rv (tput s x).2 := by
  unfold vpu tput
  split
  · split
    · exact vhd_rv _
    · rfl
  · split
    · exact vdt_rv x _ hx
    · rfl
/-- The walker between calls: E is pending. -/
structure Wz (w : World) (W : Nat) (s : Ts) (E : List Evn) : Prop where
  wm : Wm w W s (rv E)
  ok : Tod s
  er : Er w
  hW : 3 ≤ W
  fo : Tfo E
/-- The walker when it has ended. -/
structure We (w : World) (W : Nat) (s : Ts) : Prop where
  wm : Wm w W s { v0 with ed := true }
/-- What is told in the end. -/
def zfin (s : Ts) : Nat := if s.why ≠ 0 then s.why else if twhl s then 0 else 1
section
variable {w u : World} {W : Nat} {s s1 : Ts} {E : List Evn}
theorem Wz.lt (h : Wz w W s E) : W < w.heap.size := h.wm.lt
theorem Wz.below (h : Wz w W s E) {C : Nat} (k : Below C w u) (hC : w.heap.size ≤ C) : Wz u W s E := ⟨h.wm.below k (by have := h.lt; omega), h.ok, h.er.below k (by have := h.er.1; omega), h.hW, h.fo⟩
theorem Wz.drewN (h : Wz w W s E) (n : Nat) : Wz (w.drewN n) W s E := ⟨h.wm.drewN n, h.ok, h.er.drewN n, h.hW, h.fo⟩
/-- Where what may have turned is another block. -/
theorem Wz.keep (h : Wz w W s E) (hs : w.heap.size ≤ u.heap.size) (k : ∀ i, i < 3 ∨ i = W → u.heap[i]? = w.heap[i]?) : Wz u W s E := by
  refine ⟨h.wm.keep (k W (Or.inr rfl)), h.ok, ?_, h.hW, h.fo⟩
  obtain ⟨h0, t1, x1, t2, x2, h1, h2⟩ := h.er
  exact ⟨Nat.le_trans h0 hs, t1, x1, t2, x2, by rw [World.cell?_of_block (w := w) (k 1 (by show 1 < 3 ∨ _; omega))]; exact h1, by rw [World.cell?_of_block (w := w) (k 2 (by show 2 < 3 ∨ _; omega))]; exact h2⟩
theorem Wz.low (h : Wz w W s E) {C : Nat} (k : Below C w u) (hC : W < C) : Wz u W s E := h.keep k.size fun i hi => k.block i (by have := h.hW; omega)
theorem wz_put (x : Nat) (hx : x < 256) (w : World) (h : Wz w W s []) (h0 : s.why = 0) (hs : Sp s x s1 E) : Calls Tryd.prog 17 #[.pointer (some ⟨W, 0, none⟩), .int .u8 (x : Int)] w fun e w' => e = .returned (.bool true) ∧ Wz w' W s1 E ∧ But W w w' := by
  have := put_yes x w h.wm h.ok (by unfold vop; rw [h0]; rfl) h0 h.er h.hW hx
  refine this.mono fun e w' k => ⟨k.re, ⟨?_, ?_, k.er, h.hW, ?_⟩, k.bu⟩
  · rw [hs.1, hs.2, ← vpu_rv s x hx]; exact k.wm
  · rw [hs.1]; exact h.ok.put hx
  · rw [hs.2]; exact tput_form s x hx
theorem wz_put_no (x : Nat) (w : World) (h : Wz w W s E) (h0 : E ≠ [] ∨ s.why ≠ 0) : Calls Tryd.prog 17 #[.pointer (some ⟨W, 0, none⟩), .int .u8 (x : Int)] w fun e w' => e = .returned (.bool false) ∧ w = w' := by
  refine (put_no x w h.wm ?_).mono fun e w' k => ⟨k.1, k.2.symm⟩
  unfold vop
  rcases h0 with h0 | h0
  · cases E with
    | nil => exact absurd rfl h0
    | cons e r => rw [decide_eq_false (show ¬ (rv (e :: r)).ek = 0 from gk1_ne e.1)]; rfl
  · rw [decide_eq_false h0]; simp
theorem wz_next (e : Evn) (w : World) (h : Wz w W s (e :: E)) : Calls Tryd.prog 18 #[.pointer (some ⟨W, 0, none⟩)] w fun x w' => x = .returned (.tuple #[.agg (gevv e.1 e.2), .bool true]) ∧ Wz w' W s E ∧ But W w w' := by
  refine (next_yes w h.wm (gk1_ne e.1)).mono fun x w' k => ⟨k.1, ⟨?_, h.ok, h.er.but k.2.2 h.hW, h.hW, (tfo_next h.fo).1⟩, k.2.2⟩
  rw [← rv_next h.fo]; exact k.2.1
theorem wz_next_no (w : World) (h : Wz w W s []) : Calls Tryd.prog 18 #[.pointer (some ⟨W, 0, none⟩)] w fun x w' => x = .returned (.tuple #[.agg ev0, .bool false]) ∧ Wz w' W s [] ∧ Below w.heap.size w w' :=
  (next_no w h.wm rfl).mono fun x w' k => ⟨k.1, h.below k.2 (Nat.le_refl _), k.2⟩
theorem wz_reason (w : World) (h : Wz w W s E) : Calls Tryd.prog 20 #[.pointer (some ⟨W, 0, none⟩)] w fun e w' => e = .returned (.int .i64 (s.why : Int)) ∧ w = w' := reason_c w h.wm
theorem wz_end (w : World) (h : Wz w W s []) : Calls Tryd.prog 19 #[.pointer (some ⟨W, 0, none⟩)] w fun e w' => e = .returned (.tuple #[]) ∧ (∃ s2 v2, Wm w' W s2 v2 ∧ s2.why = zfin s ∧ v2.ek = 0 ∧ vop s2 v2 = false) ∧ But W w w' := by
  by_cases h0 : s.why = 0
  · refine (end_yes w h.wm (by unfold vop; rw [h0]; rfl) h.er h.hW).mono fun e w' k => ⟨k.re, ⟨_, _, k.wm, ?_, rfl, ?_⟩, k.bu⟩
    · have hz : zfin s = if twhl s then 0 else 1 := by unfold zfin; rw [if_neg (fun q => q h0)]
      rw [hz]
      unfold tfn
      split
      · exact h0
      · rfl
    · unfold vop; simp
  · refine (end_no w h.wm (by unfold vop; rw [decide_eq_false h0]; simp)).mono fun e w' k => ⟨k.1, ⟨s, rv [], ?_, ?_, rfl, ?_⟩, ?_⟩
    · rw [k.2]; exact h.wm
    · unfold zfin; rw [if_pos h0]
    · unfold vop; rw [decide_eq_false h0]; simp
    · rw [k.2]; exact But.refl _ _
theorem wz_new (w : World) (he : Er w) : Calls Tryd.prog 16 #[] w fun e w' => e = .returned (.pointer (some ⟨w.heap.size, 0, none⟩)) ∧ Wz w' w.heap.size t0 [] ∧ Below w.heap.size w w' :=
  (new_c w).mono fun e w' k => ⟨k.1, ⟨k.2.1, tod0, he.below k.2.2 he.1, he.1, tfo_nil⟩, k.2.2⟩
end
end Go.Proofs.YtcmmjbkgoafbnabDoor

/-
  Lists of lists of bytes, of the call's own: the members as they are gathered.
-/
namespace Go.Proofs.YtcmmjbkgoafbnabDoor
open Go.RowKit
set_option linter.unusedVariables false
theorem ginfo22 : (Tryd.prog.info? 26).map (fun i => (i.zero, i.size, i.bytes)) = some (some (.slice none 0 0), 1, 24) := by kernel_rfl
/-- Parts out of signs. -/
def po : List (List Nat) → List Nat → List (List Nat)
  | ls, [] => ls
  | ls, g :: r => if g = 256 then po (ls ++ [[]]) r else if g = 257 then po ls r else po (ls.dropLast ++ [ls.getLastD [] ++ [g]]) r
/-- Bytes come behind an open part alone. -/
def Gd : Bool → List Nat → Prop
  | _, [] => True
  | i, g :: r => if g = 256 then Gd true r else if g = 257 then Gd i r else i = true ∧ Gd i r
theorem po_append (ls : List (List Nat)) (a b : List Nat) : po ls (a ++ b) = po (po ls a) b := by
  induction a generalizing ls with
  | nil => rfl
  | cons g r ih =>
    simp only [List.cons_append, po]
    split
    · exact ih _
    · split
      · exact ih _
      · exact ih _
/-- A list of lists of bytes, of the call's own, in blocks from lo on; the last one's block is no other one's. -/
structure Ll (w : World) (lo : Nat) (v : Value) (ls : List (List Nat)) : Prop where
  ex : ∃ vs : List Value, vs.length = ls.length ∧ Ow w lo 26 1 v ls.length vs ∧ (∀ (i : Nat) (a : Value) (l : List Nat), vs[i]? = some a → ls[i]? = some l → Ow w lo 5 1 a l.length (ob l)) ∧ ∀ (i : Nat) (a z : Value), vs[i]? = some a → i + 1 < vs.length → vs.getLast? = some z → ∀ g, a.ownBlock = some g → z.ownBlock ≠ some g
theorem Ll.nil {w : World} {lo : Nat} (h : lo ≤ w.heap.size) : Ll w lo (.slice none 0 0) [] := ⟨[], rfl, Ow.nil h, fun i a l h => by simp at h, fun i a z h => by simp at h⟩
theorem Ll.keep {w u : World} {lo : Nat} {v : Value} {ls : List (List Nat)} (h : Ll w lo v ls) (hs : w.heap.size ≤ u.heap.size) (k : ∀ g, lo ≤ g → g < w.heap.size → (∃ cs e fr, w.heap[g]? = some (.cells cs e fr) ∧ (e = 5 ∨ e = 26)) → u.heap[g]? = w.heap[g]?) : Ll u lo v ls := by
  obtain ⟨vs, h1, h2, h3, h4⟩ := h.ex
  exact ⟨vs, h1, h2.keep hs (fun g a b ⟨cs, fr, c⟩ => k g a b ⟨cs, 26, fr, c, Or.inr rfl⟩), fun i a l ha hl => (h3 i a l ha hl).keep hs (fun g a b ⟨cs, fr, c⟩ => k g a b ⟨cs, 5, fr, c, Or.inl rfl⟩), h4⟩
theorem Ll.below {w u : World} {lo C : Nat} {v : Value} {ls : List (List Nat)} (h : Ll w lo v ls) (k : Below C w u) (hC : w.heap.size ≤ C) : Ll u lo v ls := h.keep k.size fun g _ h2 _ => k.block g (by omega)
theorem Ll.drewN {w : World} {lo : Nat} {v : Value} {ls : List (List Nat)} (h : Ll w lo v ls) (n : Nat) : Ll (w.drewN n) lo v ls := h.keep (Nat.le_refl _) fun _ _ _ _ => rfl
theorem Ll.but {w u : World} {lo M : Nat} {v : Value} {ls : List (List Nat)} {cs : Array Value} {t : TypeId} (h : Ll w lo v ls) (k : But M w u) (hM : Cells w M cs t) (ht : t ≠ 5 ∧ t ≠ 26) : Ll u lo v ls := h.keep k.size fun g _ h2 ⟨cs', e, fr, hc, he⟩ => k.block g h2 (fun e2 => by
  subst e2
  unfold Cells at hM
  rw [hM] at hc
  cases hc
  rcases he with rfl | rfl
  · exact ht.1 rfl
  · exact ht.2 rfl)
theorem Ll.le {w : World} {lo : Nat} {v : Value} {ls : List (List Nat)} (h : Ll w lo v ls) : lo ≤ w.heap.size := by obtain ⟨vs, _, h2, _⟩ := h.ex; exact h2.le
theorem Ll.shape {w : World} {lo : Nat} {v : Value} {ls : List (List Nat)} (h : Ll w lo v ls) : ∃ a c, v = .slice a ls.length c ∧ ls.length ≤ c := by
  obtain ⟨vs, _, h2, _⟩ := h.ex
  obtain ⟨a, c, hv, hc, _⟩ := h2.shape
  exact ⟨a, c, hv, hc⟩
/-- One more part. -/
theorem Ll.open_ {w u : World} {lo : Nat} {v v' : Value} {ls : List (List Nat)} (h : Ll w lo v ls) (vs : List Value) (k : Got lo 26 1 w u v v' (ls.length + 1) (vs ++ [.slice none 0 0])) (hvs : vs.length = ls.length) (h3 : ∀ (i : Nat) (a : Value) (l : List Nat), vs[i]? = some a → ls[i]? = some l → Ow w lo 5 1 a l.length (ob l)) : Ll u lo v' (ls ++ [[]]) := by
  refine ⟨vs ++ [.slice none 0 0], by simp [hvs], by simpa using k.ow, fun i a l ha hl => ?_, fun i a z ha hi hz g hg => ?_⟩
  · by_cases hlt : i < vs.length
    · rw [List.getElem?_append_left hlt] at ha
      rw [List.getElem?_append_left (by omega)] at hl
      exact (h3 i a l ha hl).got k (by decide)
    · have hi : i = vs.length := by
        have := (List.getElem?_eq_some_iff.1 ha).1
        simp at this
        omega
      subst hi
      rw [List.getElem?_append_right (by omega)] at ha
      rw [List.getElem?_append_right (by omega)] at hl
      simp [hvs] at ha hl
      subst hl
      rw [← ha]
      exact Ow.nil k.ow.le
  · rw [List.getLast?_append] at hz
    simp at hz
    rw [← hz]
    simp [Value.ownBlock]
theorem Ow.keep1 {w u : World} {lo sz n : Nat} {e : TypeId} {v : Value} {l : List Value} (h : Ow w lo e sz v n l) (hs : w.heap.size ≤ u.heap.size) (k : ∀ g, v.ownBlock = some g → u.heap[g]? = w.heap[g]?) : Ow u lo e sz v n l := by
  refine ⟨⟨h.own.1, ?_⟩, Nat.le_trans h.le hs⟩
  rcases h.own.2 with q | ⟨g, c, cur, hv, hg, hh, q⟩
  · exact Or.inl q
  · exact Or.inr ⟨g, c, cur, hv, hg, (k g (by rw [hv]; rfl)).trans hh, q⟩
/-- What an append to the last part's bytes comes to, ahead of its being laid back. -/
structure Gob (lo : Nat) (w w' : World) (a a' : Value) (n : Nat) (l : List Nat) : Prop where
  got : Got lo 5 1 w w' a a' n (ob l)
  blk : ∀ g, a'.ownBlock = some g → a.ownBlock = some g ∨ g = w.heap.size
theorem Ow.set_at {w : World} {lo n i g : Nat} {e : TypeId} {a : Option Addr} {c : Nat} {xs : List Value} (h : Ow w lo e 1 (.slice (some ⟨g, 0, none⟩) n c) n xs) (x : Value) (hi : i < n) (h1 : x.oneCell' = true) : Ow (w.setCell ⟨g, i, none⟩ x) lo e 1 (.slice (some ⟨g, 0, none⟩) n c) n (xs.set i x) := by
  have hl := h.own.1
  refine ⟨⟨by simpa using hl, ?_⟩, by simpa [World.setCell] using h.le⟩
  rcases h.own.2 with ⟨hv, h0⟩ | ⟨g', c', cur, hv, hg, hh, hc, hm, hs, ht⟩
  · cases hv
  · cases hv
    refine Or.inr ⟨g, c, cur.setIfInBounds i x, rfl, hg, ?_, hc, hm, by simpa using hs, ?_⟩
    · simp [World.setCell, Array.getElem?_modify, hh]
    · rw [Array.toList_setIfInBounds, List.take_set, ht]
theorem Ll.byte {w u : World} {lo n g c x : Nat} {ls : List (List Nat)} {l : List Nat} {vs : List Value} {a a' : Value} (h : Ll w lo (.slice (some ⟨g, 0, none⟩) (n + 1) c) ls) (hls : ls.length = n + 1) (hvs : vs.length = n + 1) (hl : ls[n]? = some l)
    (h2 : Ow w lo 26 1 (.slice (some ⟨g, 0, none⟩) (n + 1) c) (n + 1) vs) (h3 : ∀ (i : Nat) (a : Value) (l : List Nat), vs[i]? = some a → ls[i]? = some l → Ow w lo 5 1 a l.length (ob l)) (h4 : ∀ (i : Nat) (a z : Value), vs[i]? = some a → i + 1 < vs.length → vs.getLast? = some z → ∀ g, a.ownBlock = some g → z.ownBlock ≠ some g)
    (ha : vs[n]? = some a) (k : Gob lo w u a a' (l.length + 1) (l ++ [x])) (h1 : a'.oneCell' = true) : Ll (u.setCell ⟨g, n, none⟩ a') lo (.slice (some ⟨g, 0, none⟩) (n + 1) c) (ls.dropLast ++ [l ++ [x]]) := by
  have hlast : vs.getLast? = some a := by rw [List.getLast?_eq_getElem?, hvs, Nat.add_sub_cancel, ha]
  have hu := h2.got k.got (by decide)
  have hset := Ow.set_at (a := none) hu a' (i := n) (by omega) h1
  have kg : ∃ cs, u.heap[g]? = some (.cells cs 26 (0, 0)) := by
    rcases hu.own.2 with ⟨hv, h0⟩ | ⟨g', c', cur, hv, hg, hh, _⟩
    · cases hv
    · cases hv; exact ⟨_, hh⟩
  obtain ⟨cg, hcg⟩ := kg
  have hdl : ls.dropLast.length = n := by simp [hls]
  refine ⟨vs.set n a', by simp [hvs, hls], by simpa [hls] using hset, fun i b m hb hm => ?_, fun i b z hb hi hz gb hgb => ?_⟩
  · by_cases hin : i = n
    · rw [hin, List.getElem?_set_self (by omega)] at hb
      rw [hin, List.getElem?_append_right (by omega), hdl] at hm
      simp at hb hm
      subst hb hm
      have := k.got.ow.set (i := n) (x := a') (b := g) (cs := cg) (t := 26) hcg (by decide)
      simpa using this
    · rw [List.getElem?_set_ne (Ne.symm hin)] at hb
      have hilt : i < n := by have := (List.getElem?_eq_some_iff.1 hb).1; omega
      rw [List.getElem?_append_left (by omega), List.getElem?_dropLast, if_pos (by omega)] at hm
      have ho := h3 i b m hb hm
      refine (ho.keep1 k.got.size (fun gg hgg => ?_)).set (b := g) (cs := cg) (t := 26) hcg (by decide)
      exact k.got.kb gg (ho.lt_block hgg).2 (fun e => h4 i b a hb (by omega) hlast gg hgg e.symm)
  · rw [List.length_set] at hi
    have hin : i ≠ n := by omega
    rw [List.getElem?_set_ne (Ne.symm hin)] at hb
    have hz2 : z = a' := by
      rw [List.getLast?_eq_getElem?, List.length_set, hvs, Nat.add_sub_cancel, List.getElem?_set_self (by omega)] at hz
      simpa using hz.symm
    rw [hz2]
    intro e
    have hilt : i < n := by omega
    obtain ⟨m, hm⟩ : ∃ m, ls[i]? = some m := ⟨_, List.getElem?_eq_getElem (by omega)⟩
    rcases k.blk gb e with h5 | h5
    · exact h4 i b a hb (by omega) hlast gb hgb h5
    · have := ((h3 i b m hb hm).lt_block hgb).2
      omega
theorem step_gob {w : World} {ops : Array Oper} {o : Oper} {a : Act} {K : Act → World → Prop} {Q : Exit → Act → World → Prop} {E : Prop} (hgd : o.guard = none) (s x : Operand)
    (ho : o.op = .call { callee := .builtin .append, args := #[s, x], argTypes := #[26, 26] }) (lo : Nat) (v : Value) (k : Nat) (l : List Nat) (hs : a.eval s = v) (hown : Ow w lo 5 1 v k (ob l)) (hk : l.length = k)
    (b c y : Nat) (hx : a.eval x = .slice (some ⟨b, 0, none⟩) 1 c) (hl : w.cell? ⟨b, 0, none⟩ = some (.int .u8 (y : Int))) (hlen : k + 1 ≤ 140737488355328)
    (h : ∀ g cap w', Gob lo w w' v (.slice (some ⟨g, 0, none⟩) (k + 1) cap) (k + 1) (l ++ [y]) → K (a.put o.dst (.slice (some ⟨g, 0, none⟩) (k + 1) cap)) w') :
    if Region.wanted o (yielded ops a.tmps) = true then Oper.wp Tryd.prog o a w K Q else E := by
  obtain ⟨i, hi, hz0, hz1, hz2⟩ := ginfo_parts ginfo5
  refine step_append_lies w hgd s x 26 ho lo 5 i _ 1 1 Tryd.underlying26 hi hz0 hz1 hz2 rfl (by decide) v _ _ hs hown.own ⟨b, 0, none⟩ 1 c (ob [y]) hx (by rfl) (fun j u hj => ?_) ob_one (by decide) (by unfold maxLen; omega) (by omega) hown.le _ rfl fun g cap w' h2 h3 h4 _ => h g cap w' ⟨?_, ?_⟩
  · cases j with
    | zero => simp [ob] at hj; rw [← hj, addr_add]; exact hl
    | succ j => simp [ob] at hj
  · have := Got.mk' hown h2 h3
    rw [ob_append] at this
    exact this
  · intro g' hg'
    simp [Value.ownBlock] at hg'
    subst hg'
    exact h4
end Go.Proofs.YtcmmjbkgoafbnabDoor

/-
  What Whole's loops stand at. No walk.
-/
namespace Go.Proofs.YtcmmjbkgoafbnabDoor
open Go.RowKit
set_option linter.unusedVariables false
/-- What is gathered, what is still to come, and what is answered in the end. -/
structure Ms (ns ls : List (List Nat)) (L : Nat) (fut : List Evn) (R0 : List (List Nat) × List (List Nat)) : Prop where
  res : po2 ns ls fut = R0
  gd : Gd2 (decide (ls ≠ [])) fut
  lt : ∀ e ∈ fut, e.1 < 258
  no : ls.length + nop fut ≤ L
  each : ∀ l ∈ ls, l.length + nbe fut ≤ L
  tot : nbe fut ≤ L
  eqn : ns.length = ls.length
section
variable {ns ls : List (List Nat)} {L : Nat} {e : Evn} {fut : List Evn} {R0 : List (List Nat) × List (List Nat)}
theorem Ms.open_ (h : Ms ns ls L (e :: fut) R0) (he : e.1 = 256) : Ms (ns ++ [e.2]) (ls ++ [[]]) L fut R0 := by
  have h1 := h.res
  rw [po2, if_pos he] at h1
  have hb : nbe (e :: fut) = nbe fut := by simp only [nbe]; rw [if_neg (by omega)]; omega
  refine ⟨h1, ?_, fun c hc => h.lt c (List.mem_cons_of_mem _ hc), ?_, fun l hl => ?_, by have := h.tot; rw [hb] at this; exact this, by simp [h.eqn]⟩
  · have : decide (ls ++ [[]] ≠ []) = true := by simp
    rw [this]; exact gd2_true _
  · have := h.no
    simp only [nop, he, if_true, List.length_append, List.length_singleton] at this ⊢
    omega
  · rcases List.mem_append.1 hl with q | q
    · have := h.each l q; rw [hb] at this; exact this
    · rw [List.mem_singleton.1 q]; have := h.tot; rw [hb] at this; simpa using this
theorem Ms.close (h : Ms ns ls L (e :: fut) R0) (he : e.1 = 257) : Ms ns ls L fut R0 := by
  have h1 := h.res
  rw [po2, if_neg (by omega), if_pos he] at h1
  have hb : nbe (e :: fut) = nbe fut := by simp only [nbe]; rw [if_neg (by omega)]; omega
  have hn : nop (e :: fut) = nop fut := by simp only [nop]; rw [if_neg (by omega)]; omega
  refine ⟨h1, ?_, fun c hc => h.lt c (List.mem_cons_of_mem _ hc), by have := h.no; rw [hn] at this; exact this, fun l hl => by have := h.each l hl; rw [hb] at this; exact this, by have := h.tot; rw [hb] at this; exact this, h.eqn⟩
  have := h.gd
  unfold Gd2 at this
  rw [if_neg (by omega), if_pos he] at this
  exact this
theorem Ms.ne (h : Ms ns ls L (e :: fut) R0) (hg : e.1 < 256) : ls ≠ [] := by
  have := h.gd
  unfold Gd2 at this
  rw [if_neg (by omega), if_neg (by omega)] at this
  simpa using this.1
theorem Ms.byte (h : Ms ns ls L (e :: fut) R0) (hg : e.1 < 256) {l : List Nat} (hl : ls.getLastD [] = l) (hm : l ∈ ls) : Ms ns (ls.dropLast ++ [l ++ [e.1]]) L fut R0 := by
  have hne := h.ne hg
  have h1 := h.res
  rw [po2, if_neg (by omega), if_neg (by omega), hl] at h1
  have hb : nbe (e :: fut) = 1 + nbe fut := by simp only [nbe]; rw [if_pos hg]
  have hn : nop (e :: fut) = nop fut := by simp only [nop]; rw [if_neg (by omega)]; omega
  have hp := List.length_pos_iff.2 hne
  refine ⟨h1, ?_, fun c hc => h.lt c (List.mem_cons_of_mem _ hc), ?_, fun m hm' => ?_, by have := h.tot; omega, ?_⟩
  · have : decide (ls.dropLast ++ [l ++ [e.1]] ≠ []) = true := by simp
    rw [this]; exact gd2_true _
  · have := h.no
    simp only [List.length_append, List.length_singleton, List.length_dropLast] at this ⊢
    omega
  · rcases List.mem_append.1 hm' with q | q
    · have := h.each m (List.dropLast_subset _ q); omega
    · rw [List.mem_singleton.1 q, List.length_append, List.length_singleton]
      have := h.each l hm
      omega
  · have := h.eqn
    simp only [List.length_append, List.length_singleton, List.length_dropLast]
    omega
theorem Ms.nil (h : Ms ns ls L [] R0) : R0 = (ns, ls) := h.res.symm
end
/-- Names as values. -/
def sv (ns : List (List Nat)) : List Value := ns.map fun n => .string (st n)
theorem sv_length (ns : List (List Nat)) : (sv ns).length = ns.length := by simp [sv]
theorem sv_append (a b : List (List Nat)) : sv (a ++ b) = sv a ++ sv b := by simp [sv]
/-- A list of names, of the call's own. -/
def Ns (w : World) (lo : Nat) (v : Value) (ns : List (List Nat)) : Prop := Ow w lo 9 1 v ns.length (sv ns)
theorem Ns.nil {w : World} {lo : Nat} (h : lo ≤ w.heap.size) : Ns w lo (.slice none 0 0) [] := Ow.nil h
theorem Ns.keep {w u : World} {lo : Nat} {v : Value} {ns : List (List Nat)} (h : Ns w lo v ns) (hs : w.heap.size ≤ u.heap.size) (k : ∀ g, lo ≤ g → g < w.heap.size → (∃ cs fr, w.heap[g]? = some (.cells cs 9 fr)) → u.heap[g]? = w.heap[g]?) : Ns u lo v ns := Ow.keep h hs k
theorem Ns.below {w u : World} {lo C : Nat} {v : Value} {ns : List (List Nat)} (h : Ns w lo v ns) (k : Below C w u) (hC : w.heap.size ≤ C) : Ns u lo v ns := h.keep k.size fun g _ h2 _ => k.block g (by omega)
theorem Ns.only {w u : World} {lo M : Nat} {v : Value} {ns : List (List Nat)} {cs : Array Value} {t : TypeId} (h : Ns w lo v ns) (k : Only M w u) (hM : Cells w M cs t) (ht : t ≠ 9) : Ns u lo v ns := h.keep (Nat.le_of_eq k.size.symm) fun g _ h2 ⟨cs', fr, hc⟩ => k.block g fun e2 => by
  subst e2
  unfold Cells at hM
  rw [hM] at hc
  cases hc
  exact ht rfl
theorem Ns.butW {w u : World} {lo W : Nat} {v : Value} {ns : List (List Nat)} (h : Ns w lo v ns) (k : But W w u) (hW : W < lo) : Ns u lo v ns := h.keep k.size fun g h1 h2 _ => k.block g h2 (by omega)
theorem Ll.butW {w u : World} {lo W : Nat} {v : Value} {ls : List (List Nat)} (h : Ll w lo v ls) (k : But W w u) (hW : W < lo) : Ll u lo v ls := h.keep k.size fun g h1 h2 _ => k.block g h2 (by omega)
theorem Ll.only {w u : World} {lo M : Nat} {v : Value} {ls : List (List Nat)} {cs : Array Value} {t : TypeId} (h : Ll w lo v ls) (k : Only M w u) (hM : Cells w M cs t) (ht : t ≠ 5 ∧ t ≠ 26) : Ll u lo v ls := h.but (But.of_only k) hM ht
theorem Ns.got {w u : World} {lo lo2 n : Nat} {e : TypeId} {v a a' : Value} {ns : List (List Nat)} {xs : List Value} (h : Ns w lo v ns) (k : Got lo2 e 1 w u a a' n xs) (he : e ≠ 9) : Ns u lo v ns := Ow.got h k (Ne.symm he)
theorem Ll.got9 {w u : World} {lo lo2 n : Nat} {v a a' : Value} {ls : List (List Nat)} {xs : List Value} (h : Ll w lo v ls) (k : Got lo2 9 1 w u a a' n xs) : Ll u lo v ls := by
  obtain ⟨vs, h1, h2, h3, h4⟩ := h.ex
  exact ⟨vs, h1, h2.got k (by decide), fun i a l ha hl => (h3 i a l ha hl).got k (by decide), h4⟩
/-- What Whole answers. -/
structure Wr0 (R0 : List (List Nat) × List (List Nat)) (y : Nat) (w : World) (e : Ending) (w' : World) : Prop where
  ex : ∃ vn vl lo2, e = .returned (.tuple #[vn, vl, .int .i64 (y : Int)]) ∧ w.heap.size ≤ lo2 ∧ Ns w' lo2 vn R0.1 ∧ Ll w' lo2 vl R0.2 ∧ Below w.heap.size w w'
section
variable {W lo2 E E2 : Nat} {w wr wx w7 : World} {ek eb en ek2 eb2 en2 : Int} {nm nm2 : List Nat} {ok ok2 : Bool} {vn vl : Value} {ns ls : List (List Nat)} {s1 : Ts} {rem rem2 : List Evn} {L : Nat} {fut : List Evn} {R0 : List (List Nat) × List (List Nat)}
/-- The inner loop. -/
structure Gq (W lo2 E : Nat) (w wr : World) (ek eb en : Int) (nm : List Nat) (ok : Bool) (vn vl : Value) (ns ls : List (List Nat)) (s1 : Ts) (rem : List Evn) (L : Nat) (fut : List Evn) (R0 : List (List Nat) × List (List Nat)) : Prop where
  wz : Wz wr W s1 rem
  nn : Ns wr lo2 vn ns
  ll : Ll wr lo2 vl ls
  ev : Cells wr E #[.int .i64 ek, .int .u8 eb, .int .i64 en, .int .i64 0, .string (st nm)] 49
  bel : Below w.heap.size w wr
  le : lo2 ≤ E
  geo : w.heap.size ≤ W ∧ W < lo2
  st : (ok = false ∧ rem = [] ∧ Ms ns ls L fut R0) ∨ (ok = true ∧ ∃ g : Evn, ek = gk1 g.1 ∧ eb = gk2 g.1 ∧ nm = g.2 ∧ Ms ns ls L (g :: (rem ++ fut)) R0)
/-- Behind an event, ahead of the next. -/
structure Gu (W lo2 : Nat) (w wr : World) (vn vl : Value) (ns ls : List (List Nat)) (s1 : Ts) (rem : List Evn) (L : Nat) (fut : List Evn) (R0 : List (List Nat) × List (List Nat)) : Prop where
  wz : Wz wr W s1 rem
  nn : Ns wr lo2 vn ns
  ll : Ll wr lo2 vl ls
  bel : Below w.heap.size w wr
  geo : w.heap.size ≤ W ∧ W < lo2
  ms : Ms ns ls L (rem ++ fut) R0
theorem But.bel {M : Nat} {w u x : World} (h : But M u x) (k : Below w.heap.size w u) (hM : w.heap.size ≤ M) : Below w.heap.size w x := k.trans ⟨h.os, h.tape, h.output, h.size, fun i hi => h.block i (by have := k.size; omega) (by omega)⟩
/-- What Next answers, whatever is pending. -/
def NxC (W : Nat) (s1 : Ts) (rem : List Evn) (u : World) (ek eb en : Int) (nm : List Nat) (ok : Bool) (rem2 : List Evn) : Prop := (Calls Tryd.prog 18 #[.pointer (some ⟨W, 0, none⟩)] u fun e w' => e = .returned (.tuple #[.agg #[.int .i64 ek, .int .u8 eb, .int .i64 en, .int .i64 0, .string (st nm)], .bool ok]) ∧ Wz w' W s1 rem2 ∧ But W u w') ∧ ((ok = false ∧ rem = [] ∧ rem2 = []) ∨ (ok = true ∧ ∃ g : Evn, ek = gk1 g.1 ∧ eb = gk2 g.1 ∧ nm = g.2 ∧ rem = g :: rem2))
theorem next_all {u : World} (hz : Wz u W s1 rem) : ∃ ek eb en nm ok rem2, NxC W s1 rem u ek eb en nm ok rem2 := by
  cases rem with
  | nil => exact ⟨0, 0, 0, [], false, [], (wz_next_no u hz).mono fun e w' k => ⟨k.1, k.2.1, But.of_below k.2.2⟩, Or.inl ⟨rfl, rfl, rfl⟩⟩
  | cons e r => exact ⟨gk1 e.1, gk2 e.1, gk3 e.1, e.2, true, r, wz_next e u hz, Or.inr ⟨rfl, e, rfl, rfl, rfl, rfl⟩⟩
/-- The next event is laid into its place. -/
theorem Gu.next (h : Gu W lo2 w wx vn vl ns ls s1 rem L fut R0) (hE : wx.heap.size = E2) (hz : Wz w7 W s1 rem2) (hf : But W (wx.alloc (.cells #[.int .i64 ek, .int .u8 eb, .int .i64 en, .int .i64 0, .string (st nm)] 49)) w7) (hc : (ok2 = false ∧ rem = [] ∧ rem2 = []) ∨ (ok2 = true ∧ ∃ g : Evn, ek2 = gk1 g.1 ∧ eb2 = gk2 g.1 ∧ nm2 = g.2 ∧ rem = g :: rem2)) :
    Cells w7 E2 #[.int .i64 ek, .int .u8 eb, .int .i64 en, .int .i64 0, .string (st nm)] 49 ∧ Gq W lo2 E2 w (((((w7.setCell ⟨E2, 0, none⟩ (.int .i64 ek2)).setCell ⟨E2, 1, none⟩ (.int .u8 eb2)).setCell ⟨E2, 2, none⟩ (.int .i64 en2)).setCell ⟨E2, 3, none⟩ (.int .i64 0)).setCell ⟨E2, 4, none⟩ (.string (st nm2))) ek2 eb2 en2 nm2 ok2 vn vl ns ls s1 rem2 L fut R0 := by
  have bA : Below wx.heap.size wx (wx.alloc (.cells #[.int .i64 ek, .int .u8 eb, .int .i64 en, .int .i64 0, .string (st nm)] 49)) := (Below.refl _ wx).alloc (Nat.le_refl _) _
  have kA : Cells (wx.alloc (.cells #[.int .i64 ek, .int .u8 eb, .int .i64 en, .int .i64 0, .string (st nm)] 49)) E2 #[.int .i64 ek, .int .u8 eb, .int .i64 en, .int .i64 0, .string (st nm)] 49 := by rw [← hE]; exact Cells.new wx _ 49
  have hle := h.ll.le
  have geo := h.geo
  have k7 := hf.cells kA (by omega)
  have l7 := (h.ll.below bA (Nat.le_refl _)).butW hf geo.2
  have n7 := (h.nn.below bA (Nat.le_refl _)).butW hf geo.2
  have o8 := only_five E2 w7 (.int .i64 ek2) (.int .u8 eb2) (.int .i64 en2) (.int .i64 0) (.string (st nm2))
  refine ⟨k7, ⟨hz.low (o8.below (Nat.le_refl _)) (by omega), n7.only o8 k7 (by decide), l7.only o8 k7 ⟨by decide, by decide⟩, set5 k7 _ _ _ _ _, ?_, by omega, geo, ?_⟩⟩
  · exact (hf.bel (h.bel.trans (bA.mono h.bel.size)) geo.1).trans (o8.below (by omega))
  · rcases hc with ⟨h1, h2, h3⟩ | ⟨h1, g, h2, h3, h4, h5⟩
    · left
      have ms := h.ms
      rw [h2] at ms
      exact ⟨h1, h3, ms⟩
    · right
      have ms := h.ms
      rw [h5] at ms
      exact ⟨h1, g, h2, h3, h4, ms⟩
end
end Go.Proofs.YtcmmjbkgoafbnabDoor

/-
  What the document's Rows and Strings come to.
-/
namespace Go.Proofs.YtcmmjbkgoafbnabDoor
open Go.RowKit
set_option linter.unusedVariables false
def Dn (w u : World) : Prop := ∃ n, u = w.drewN n
theorem Dn.refl (w : World) : Dn w w := ⟨0, rfl⟩
theorem Dn.drewN {w u : World} (h : Dn w u) (n : Nat) : Dn w (u.drewN n) := by
  obtain ⟨m, rfl⟩ := h
  exact ⟨_, World.drewN_drewN _ _ _⟩
/-- A list of lists of bytes in memory. -/
def Rl (w : World) (a : Option Addr) (ls : List (List Nat)) : Prop := ls = [] ∨ ∃ g o, a = some ⟨g, o, none⟩ ∧ ∀ (i : Nat) (l : List Nat), ls[i]? = some l → ∃ a1 c1, w.cell? ⟨g, o + i, none⟩ = some (.slice a1 l.length c1) ∧ Lies w a1 l ∧ l.length ≤ c1 ∧ (a1 = none → l.length = 0 ∧ c1 = 0)
theorem Rl.below {w u : World} {a : Option Addr} {ls : List (List Nat)} (h : Rl w a ls) (k : Below w.heap.size w u) : Rl u a ls := by
  rcases h with h | ⟨g, o, ha, hx⟩
  · exact Or.inl h
  · refine Or.inr ⟨g, o, ha, fun i l hl => ?_⟩
    obtain ⟨a1, c1, h1, h2, h3⟩ := hx i l hl
    exact ⟨a1, c1, (k.cell (p := ⟨g, o + i, none⟩) (World.block_lt_of_cell? w _ h1)).trans h1, h2.below k, h3⟩
theorem Rl.drewN {w : World} {a : Option Addr} {ls : List (List Nat)} (h : Rl w a ls) (n : Nat) : Rl (w.drewN n) a ls := h
theorem Ll.at {w : World} {lo : Nat} {a : Option Addr} {n c : Nat} {ls : List (List Nat)} (h : Ll w lo (.slice a n c) ls) (hn : n = ls.length) {i : Nat} {l : List Nat} (hl : ls[i]? = some l) : ∃ g a1 c1, a = some ⟨g, 0, none⟩ ∧ w.cell? ⟨g, i, none⟩ = some (.slice a1 l.length c1) ∧ Lies w a1 l ∧ l.length ≤ c1 ∧ (a1 = none → l.length = 0 ∧ c1 = 0) := by
  obtain ⟨vs, h1, h2, h3, h4⟩ := h.ex
  have hi := (List.getElem?_eq_some_iff.1 hl).1
  obtain ⟨v, hv⟩ : ∃ v, vs[i]? = some v := ⟨_, List.getElem?_eq_getElem (by omega)⟩
  obtain ⟨a9, c9, h9, _, h10 | ⟨g, h10, _, _, h11, _⟩, _⟩ := h2.shape
  · omega
  cases h9
  obtain ⟨a1, c1, e1, e2, e3, e4, e5⟩ := (h3 i v l hv hl).lies
  subst e1
  exact ⟨g, a1, c1, h10, h11 i _ hv, e4, e3, e5⟩
theorem Ll.rl {w : World} {lo : Nat} {a : Option Addr} {n c : Nat} {ls : List (List Nat)} (h : Ll w lo (.slice a n c) ls) (hn : n = ls.length) : Rl w a ls := by
  rcases Nat.eq_zero_or_pos ls.length with h0 | h0
  · exact Or.inl (List.eq_nil_of_length_eq_zero h0)
  · obtain ⟨l0, hl0⟩ : ∃ l0, ls[0]? = some l0 := ⟨_, List.getElem?_eq_getElem h0⟩
    obtain ⟨g, _, _, hg, _⟩ := h.at hn hl0
    refine Or.inr ⟨g, 0, hg, fun i l hl => ?_⟩
    obtain ⟨g', a1, c1, hg', h1, h2, h3, h4⟩ := h.at hn hl
    rw [hg] at hg'
    cases hg'
    exact ⟨a1, c1, by rw [Nat.zero_add]; exact h1, h2, h3, h4⟩
/-- Strings in memory. -/
def Nl (w : World) (a : Option Addr) (ns : List (List Nat)) : Prop := ns = [] ∨ ∃ g o, a = some ⟨g, o, none⟩ ∧ ∀ (i : Nat) (l : List Nat), ns[i]? = some l → w.cell? ⟨g, o + i, none⟩ = some (.string (st l))
theorem Nl.below {w u : World} {a : Option Addr} {ns : List (List Nat)} (h : Nl w a ns) (k : Below w.heap.size w u) : Nl u a ns := by
  rcases h with h | ⟨g, o, ha, hx⟩
  · exact Or.inl h
  · refine Or.inr ⟨g, o, ha, fun i l hl => ?_⟩
    have h1 := hx i l hl
    exact (k.cell (p := ⟨g, o + i, none⟩) (World.block_lt_of_cell? w _ h1)).trans h1
theorem Ns.nl {w : World} {lo : Nat} {v : Value} {ns : List (List Nat)} (h : Ns w lo v ns) : ∃ a c, v = .slice a ns.length c ∧ ns.length ≤ c ∧ Nl w a ns ∧ (a = none → ns.length = 0 ∧ c = 0) := by
  obtain ⟨a, c, hv, hc, h10, h12⟩ := Ow.shape h
  refine ⟨a, c, hv, hc, ?_, h12⟩
  rcases h10 with h0 | ⟨g, hg, _, _, h11, _⟩
  · exact Or.inl (List.eq_nil_of_length_eq_zero h0)
  · refine Or.inr ⟨g, 0, hg, fun i l hl => ?_⟩
    rw [Nat.zero_add]
    exact h11 i _ (by unfold sv; rw [List.getElem?_map, hl]; rfl)
set_option maxHeartbeats 1000000 in
theorem strings_c (w : World) (a b : Option Addr) (ls : List (List Nat)) (n c d : Nat) (hn : ls.length = n) (hb : n < 200000000001) (ha : Nl w a ls) (hbb : Nl w b ls) : Calls Tryd.prog 9 #[.slice a n c, .slice b n d] w fun e w' => e = .returned (.bool true) ∧ ∃ m, w' = w.drewN m := by
  have A : Aside (ls.length = n ∧ n < 200000000001 ∧ Nl w a ls ∧ Nl w b ls) := ⟨hn, hb, ha, hbb⟩
  have hz : ((n : Int) != (n : Int)) = false := by simp
  clear hn hb ha hbb
  go_enter Tryd.func9, Tryd.ntmps9
  go_wp2_with fail
  go_loopg [5] n (fun g s5 wr => ∃ k : Nat, s5 = .int .i64 (k : Int) ∧ Aside (k + g = n ∧ Dn w wr))
  case atStart => exact ⟨0, rfl, ⟨by omega, Dn.refl _⟩⟩
  case round =>
    obtain ⟨k, rfl, hT⟩ := hrel
    obtain ⟨hkg, m0, hm0⟩ := hT.out
    have a0 := A.out
    by_cases hk : k < n
    · have t1 : ((k : Int) < (n : Int)) = True := eq_true (by omega)
      have t2 : (k < n) = True := eq_true hk
      obtain ⟨l, hl⟩ : ∃ l, ls[k]? = some l := ⟨_, List.getElem?_eq_getElem (by omega)⟩
      rcases a0.2.2.1 with e | ⟨g1, o1, rfl, h1⟩
      · rw [e] at hl; simp at hl
      rcases a0.2.2.2 with e | ⟨g2, o2, rfl, h2⟩
      · rw [e] at hl; simp at hl
      have k1 := h1 k l hl
      have k2 := h2 k l hl
      obtain ⟨S, hS⟩ : ∃ S, st l = S := ⟨_, rfl⟩
      have kk1 : wr.cell? ⟨g1, o1 + k, none⟩ = some (.string S) := by rw [hm0, ← hS]; exact k1
      have kk2 : wr.cell? ⟨g2, o2 + k, none⟩ = some (.string S) := by rw [hm0, ← hS]; exact k2
      have bk : (k : Int) < 400000000000 := by omega
      have A2 : Aside (k + gk = n ∧ k < n ∧ Dn w wr) := ⟨hkg, hk, ⟨m0, hm0⟩⟩
      have hsz : (S.toList == S.toList) = true := by simp
      clear hT hkg hm0 a0 hk hl h1 h2 k1 k2 hS
      go_upto_region 6 with fail
      go_quiet (fail)
      go_wp2_with fail
      have a2 := A2.out
      go_roundg (gk - 1)
      case measure => omega
      case rel => exact ⟨k + 1, by go_num, ⟨by omega, a2.2.2.drewN _⟩⟩
    · have t1 : ((k : Int) < (n : Int)) = False := eq_false (by omega)
      have t2 : (k < n) = False := eq_false hk
      have A2 : Aside (∃ m, wr = w.drewN m) := ⟨m0, hm0⟩
      clear hT hkg hm0 a0 hk
      go_wp2_with fail
      first | go_ret | go_ret2
      exact ⟨rfl, A2.out⟩
end Go.Proofs.YtcmmjbkgoafbnabDoor

/-
  What told comes to.
-/
namespace Go.Proofs.YtcmmjbkgoafbnabDoor
open Go.RowKit
set_option linter.unusedVariables false
set_option linter.unusedSimpArgs false
/-- The names and the data of files. -/
def tdn : List Ent → List (List Nat)
  | [] => []
  | e :: r => if e.2.2.2 = 0 then nmd e.1 :: tdn r else tdn r
def tdd : List Ent → List (List Nat)
  | [] => []
  | e :: r => if e.2.2.2 = 0 then e.2.1 :: tdd r else tdd r
theorem tdn_append (a b : List Ent) : tdn (a ++ b) = tdn a ++ tdn b := by
  induction a with
  | nil => rfl
  | cons e r ih => simp only [List.cons_append, tdn, ih]; split <;> rfl
theorem tdd_append (a b : List Ent) : tdd (a ++ b) = tdd a ++ tdd b := by
  induction a with
  | nil => rfl
  | cons e r ih => simp only [List.cons_append, tdd, ih]; split <;> rfl
theorem td_len (l : List Ent) : (tdn l).length = (tdd l).length := by
  induction l with
  | nil => rfl
  | cons e r ih => simp only [tdn, tdd]; split <;> simp [ih]
theorem tdn_len (l : List Ent) : (tdn l).length ≤ l.length := by
  induction l with
  | nil => exact Nat.le_refl _
  | cons e r ih => simp only [tdn]; split <;> simp <;> omega
theorem td_more {l : List Ent} {i : Nat} {e : Ent} (h : l[i]? = some e) : tdn (l.take (i + 1)) = (if e.2.2.2 = 0 then tdn (l.take i) ++ [nmd e.1] else tdn (l.take i)) ∧ tdd (l.take (i + 1)) = (if e.2.2.2 = 0 then tdd (l.take i) ++ [e.2.1] else tdd (l.take i)) := by
  obtain ⟨h1, h2⟩ := List.getElem?_eq_some_iff.1 h
  rw [List.take_succ_eq_append_getElem h1, h2, tdn_append, tdd_append]
  simp only [tdn, tdd]
  constructor <;> split <;> simp
/-- Slices that lie where bytes are. -/
structure Sv (w : World) (vs : List Value) (ls : List (List Nat)) : Prop where
  len : vs.length = ls.length
  at_ : ∀ (i : Nat) (l : List Nat), ls[i]? = some l → ∃ a c, vs[i]? = some (.slice a l.length c) ∧ Lies w a l ∧ l.length ≤ c ∧ (a = none → l.length = 0 ∧ c = 0)
theorem Sv.nil (w : World) : Sv w [] [] := ⟨rfl, fun i l h => by simp at h⟩
theorem Sv.more {w : World} {vs : List Value} {ls : List (List Nat)} (h : Sv w vs ls) {l : List Nat} {a : Option Addr} {c : Nat} (hl : Lies w a l) (hc : l.length ≤ c) (hn : a = none → l.length = 0 ∧ c = 0) : Sv w (vs ++ [.slice a l.length c]) (ls ++ [l]) := by
  refine ⟨by simp [h.len], fun i m hm => ?_⟩
  rcases Nat.lt_or_ge i ls.length with hi | hi
  · rw [List.getElem?_append_left hi] at hm
    obtain ⟨a', c', h1, h2⟩ := h.at_ i m hm
    exact ⟨a', c', by rw [List.getElem?_append_left (by rw [h.len]; exact hi)]; exact h1, h2⟩
  · rw [List.getElem?_append_right hi] at hm
    have h0 : i - ls.length = 0 := by
      rcases Nat.eq_zero_or_pos (i - ls.length) with h | h
      · exact h
      · rw [List.getElem?_eq_none (by simp; omega)] at hm; cases hm
    rw [h0] at hm
    simp at hm
    subst hm
    exact ⟨a, c, by rw [List.getElem?_append_right (by rw [h.len]; exact hi), h.len, h0]; rfl, hl, hc, hn⟩
theorem Sv.below {w u : World} {vs : List Value} {ls : List (List Nat)} (h : Sv w vs ls) (k : Below w.heap.size w u) : Sv u vs ls := ⟨h.len, fun i l hl => by
  obtain ⟨a, c, h1, h2, h3⟩ := h.at_ i l hl
  exact ⟨a, c, h1, h2.below k, h3⟩⟩
theorem Sv.rl {w : World} {lo n : Nat} {v : Value} {vs : List Value} {ls : List (List Nat)} (h : Sv w vs ls) (ho : Ow w lo 26 1 v n vs) (hn : n = ls.length) : ∃ a c, v = .slice a n c ∧ n ≤ c ∧ Rl w a ls ∧ (a = none → n = 0 ∧ c = 0) := by
  obtain ⟨a, c, hv, hc, h10, h12⟩ := ho.shape
  refine ⟨a, c, hv, hc, ?_, h12⟩
  rcases h10 with h0 | ⟨g, hg, _, _, h11, _⟩
  · exact Or.inl (List.eq_nil_of_length_eq_zero (by omega))
  · refine Or.inr ⟨g, 0, hg, fun i l hl => ?_⟩
    obtain ⟨a1, c1, h1, h2, h3⟩ := h.at_ i l hl
    exact ⟨a1, c1, by rw [Nat.zero_add]; exact h11 i _ h1, h2, h3⟩
end Go.Proofs.YtcmmjbkgoafbnabDoor

/-
  Entries that are written, through the machine. No walk.
-/
namespace Go.Proofs.YtcmmjbkgoafbnabDoor
set_option linter.unusedVariables false
set_option linter.unusedSimpArgs false
/-- What an entry tells. -/
def ete (e : Ent) : List Evn := if e.2.2.2 = 0 then (256, nmd e.1) :: (e.2.1.map (fun x => (x, [])) ++ [(257, [])]) else []
def eta : List Ent → List Evn
  | [] => []
  | e :: r => ete e ++ eta r
theorem oct_x : Oct [120] := fun x hx => by simp at hx; omega
theorem other_run {n d : List Nat} {z k t : Nat} {s : Ts} (h : Sd (none, none) s) (hn : Oct n) (hk : k = 75 ∨ k = 103) (hz : z < 8589934592) (hd : d.length = z) : ∃ s' T, Mr t s (hdr n z k ++ wh512 d) s' T ∧ Sd (none, none) s' ∧ evx T = [] := by
  have hu : tus k = 0 := by rcases hk with rfl | rfl <;> rfl
  have ho : town k = false := by rcases hk with rfl | rfl <;> rfl
  have hi : tisf k = false := by rcases hk with rfl | rfl <;> rfl
  have hm : tmuch k z = false := by unfold tmuch; rcases hk with rfl | rfl <;> simp
  have hc : tcm k (none, none) = (none, none) := by unfold tcm; split <;> rfl
  have hs : tsz k z none = z := by unfold tsz; rw [ho, if_neg (by decide)]
  have hf : tfin 0 d (none, none) = ((none, none), 0) := by unfold tfin; rw [if_neg (by decide), if_neg (by decide)]
  obtain ⟨s', T, q1, q2, q3⟩ := seg (n := n) (d := d) (z := z) (k := k) (t := t) h hn (by omega) hz hm (by rw [hd]; exact hs.symm) (fun q => by omega) (by rw [hu, hc, hf])
  rw [hu, hc, hf] at q2
  refine ⟨s', T, q1, q2, ?_⟩
  rw [q3, hu]
  unfold topn dte
  rw [hdr_kind, hi, if_neg (by decide), if_neg (by decide)]
  rfl
theorem file_run {n d : List Nat} {z t : Nat} {cn : Option (List Nat)} {cz : Option Nat} {s : Ts} (h : Sd (cn, cz) s) (hn : Oct n) (hnz : ∀ c ∈ n, c ≠ 0) (hz : z < 8589934592) (hd : d.length = cz.getD z) : ∃ s' T, Mr t s (hdr n z 48 ++ wh512 d) s' T ∧ Sd (none, none) s' ∧ evx T = (256, cn.getD (n.take 100)) :: (d.map (fun x => (x, [])) ++ [(257, [])]) := by
  have hu : tus 48 = 1 := rfl
  have hm : tmuch 48 z = false := by unfold tmuch; simp
  have hc : tcm 48 (cn, cz) = (none, none) := rfl
  have hs : tsz 48 z cz = cz.getD z := rfl
  have hf : tfin 1 d (none, none) = ((none, none), 0) := by unfold tfin; rw [if_neg (by decide), if_neg (by decide)]
  obtain ⟨s', T, q1, q2, q3⟩ := seg (n := n) (d := d) (z := z) (k := 48) (t := t) h hn (by omega) hz hm (by rw [hd]; exact hs.symm) (fun q => by omega) (by rw [hu, hc, hf])
  rw [hu, hc, hf] at q2
  refine ⟨s', T, q1, q2, ?_⟩
  rw [q3, hu]
  unfold topn dte
  rw [hdr_kind, show tisf 48 = true from rfl, if_pos rfl, if_pos rfl, hdr_tnm _ _ hnz]
  rfl
theorem long_run {d : List Nat} {z k t : Nat} {s : Ts} {c : Cm} (h : Sd (none, none) s) (hk : k = 76 ∨ k = 120) (hd : d.length = z) (hz : z ≤ if k = 76 then 257 else 1024) (hf : tfin (tus k) d (none, none) = (c, 0)) : ∃ s' T, Mr t s (hdr [120] z k ++ wh512 d) s' T ∧ Sd c s' ∧ evx T = [] := by
  have ho : town k = false := by rcases hk with rfl | rfl <;> rfl
  have hi : tisf k = false := by rcases hk with rfl | rfl <;> rfl
  have hu : tus k ≠ 1 := by rcases hk with rfl | rfl <;> decide
  have hz2 : z ≤ 1024 := by rcases hk with rfl | rfl <;> simp at hz <;> omega
  have hm : tmuch k z = false := by
    unfold tmuch
    rcases hk with rfl | rfl <;> simp at hz ⊢ <;> omega
  have hc : tcm k (none, none) = (none, none) := by unfold tcm; split <;> rfl
  have hs : tsz k z none = z := by unfold tsz; rw [ho, if_neg (by decide)]
  obtain ⟨s', T, q1, q2, q3⟩ := seg (n := [120]) (d := d) (z := z) (k := k) (t := t) h oct_x (by omega) (by omega) hm (by rw [hd]; exact hs.symm) (fun q => by omega) (by rw [hc, hf])
  rw [hc, hf] at q2
  refine ⟨s', T, q1, q2, ?_⟩
  rw [q3]
  unfold topn dte
  rw [hdr_kind, hi, if_neg (by decide), if_neg hu]
  rfl
/-- What stands ahead of a file's header. -/
theorem ahead_run {n d : List Nat} {hw t : Nat} {s : Ts} (h : Sd (none, none) s) (hn : n.length ≤ 256) (hnz : ∀ c ∈ n, c ≠ 0) (hd : d.length ≤ 100000) (hhw : hw < 4) (h0 : hw = 0 → n.length ≤ 100) : ∃ s' T cn cz, Mr t s (wpr hw n d) s' T ∧ Sd (cn, cz) s' ∧ evx T = [] ∧ cn.getD (n.take 100) = n ∧ cz.getD (if hw = 3 then 7 else d.length) = d.length := by
  have hpl := sad_len2 (k := kpath) (v := n) (by decide) (by omega)
  have hzl := sad_len2 (k := ksize) (v := dgs d.length) (by decide) (by have := dgs_len (n := d.length) (by omega); omega)
  have hc : hw = 0 ∨ hw = 1 ∨ hw = 2 ∨ hw = 3 := by omega
  rcases hc with rfl | rfl | rfl | rfl
  · refine ⟨s, [], none, none, ⟨rfl, rfl⟩, h, rfl, ?_, rfl⟩
    show n.take 100 = n
    exact List.take_of_length_le (h0 rfl)
  · obtain ⟨s', T, q1, q2, q3⟩ := long_run (d := n ++ [0]) (z := n.length + 1) (k := 76) (t := t) (c := (some n, none)) h (Or.inl rfl) (by simp) (by simp; omega) (by
      show tfin 2 (n ++ [0]) (none, none) = _
      unfold tfin tnam
      rw [if_pos rfl, ttx_nz (m := []) hnz, if_neg (by omega)])
    exact ⟨s', T, some n, none, q1, q2, q3, rfl, rfl⟩
  · obtain ⟨s', T, q1, q2, q3⟩ := long_run (d := sad kpath n) (z := (sad kpath n).length) (k := 120) (t := t) (c := (some n, none)) h (Or.inr rfl) rfl (by simp; omega) (by
      show tfin 3 (sad kpath n) (none, none) = _
      unfold tfin
      rw [if_neg (by decide), if_pos rfl, trr_one hn])
    exact ⟨s', T, some n, none, q1, q2, q3, rfl, rfl⟩
  · obtain ⟨s', T, q1, q2, q3⟩ := long_run (d := sad kpath n ++ sad ksize (dgs d.length)) (z := (sad kpath n ++ sad ksize (dgs d.length)).length) (k := 120) (t := t) (c := (some n, some d.length)) h (Or.inr rfl) rfl (by rw [List.length_append]; simp; omega) (by
      show tfin 3 (sad kpath n ++ sad ksize (dgs d.length)) (none, none) = _
      unfold tfin
      rw [if_neg (by decide), if_pos rfl, trr_two hn hd])
    exact ⟨s', T, some n, some d.length, q1, q2, q3, rfl, rfl⟩
theorem ent_run {e : Ent} {t : Nat} {s : Ts} (he : Eok e) (h : Sd (none, none) s) : ∃ s' T, Mr t s (wen e) s' T ∧ Sd (none, none) s' ∧ evx T = ete e := by
  have hno := nmd_oct he.n
  have hnz := nmd_nz e.1
  have hnl := nmd_len e.1
  have hdl := he.dl
  by_cases hk : e.2.2.2 = 0
  · have hw4 : whw e.2.2.1 (nmd e.1) < 4 := by unfold whw; split <;> omega
    have hw0 : whw e.2.2.1 (nmd e.1) = 0 → (nmd e.1).length ≤ 100 := by unfold whw; split <;> omega
    obtain ⟨s1, T1, cn, cz, q1, q2, q3, q4, q5⟩ := ahead_run (d := e.2.1) (t := t) h hnl hnz hdl hw4 hw0
    obtain ⟨s2, T2, r1, r2, r3⟩ := file_run (n := nmd e.1) (d := e.2.1) (z := if whw e.2.2.1 (nmd e.1) = 3 then 7 else e.2.1.length) (t := t + (wpr (whw e.2.2.1 (nmd e.1)) (nmd e.1) e.2.1).length) q2 hno hnz (by split <;> omega) q5.symm
    refine ⟨s2, T1 ++ T2, ?_, r2, ?_⟩
    · unfold wen
      rw [if_neg (by rw [hk]; simp)]
      exact (mr_append _ _ _ _ _ _).2 ⟨s1, T1, T2, q1, r1, rfl⟩
    · rw [evx_append, q3, r3, q4]
      unfold ete
      rw [if_pos hk]
      rfl
  · obtain ⟨s', T, q1, q2, q3⟩ := other_run (n := nmd e.1) (d := e.2.1) (z := e.2.1.length) (k := wotk e.2.2.2) (t := t) h hno (by unfold wotk; split <;> simp) (by omega) rfl
    refine ⟨s', T, ?_, q2, by rw [q3]; unfold ete; rw [if_neg hk]⟩
    unfold wen
    rw [if_pos hk]
    exact q1
theorem wal_run : ∀ (l : List Ent) (t : Nat) (s : Ts), (∀ e ∈ l, Eok e) → Sd (none, none) s → ∃ s' T, Mr t s (wal l) s' T ∧ Sd (none, none) s' ∧ evx T = eta l
  | [], t, s, _, h => ⟨s, [], ⟨rfl, rfl⟩, h, rfl⟩
  | e :: r, t, s, he, h => by
    obtain ⟨s1, T1, q1, q2, q3⟩ := ent_run (t := t) (he e (by simp)) h
    obtain ⟨s2, T2, r1, r2, r3⟩ := wal_run r (t + (wen e).length) s1 (fun x hx => he x (List.mem_cons_of_mem _ hx)) q2
    exact ⟨s2, T1 ++ T2, (mr_append _ _ _ _ _ _).2 ⟨s1, T1, T2, q1, r1, rfl⟩, r2, by rw [evx_append, q3, r3]; rfl⟩
end Go.Proofs.YtcmmjbkgoafbnabDoor

/-
  What is told of an archive that is written. No walk.
-/
namespace Go.Proofs.YtcmmjbkgoafbnabDoor
set_option linter.unusedVariables false
set_option linter.unusedSimpArgs false
theorem po2_bytes : ∀ (d : List Nat) (ns ls : List (List Nat)) (p : List Nat) (r : List Evn), Oct d → po2 ns (ls ++ [p]) (d.map (fun x => (x, [])) ++ r) = po2 ns (ls ++ [p ++ d]) r
  | [], ns, ls, p, r, _ => by simp
  | x :: d, ns, ls, p, r, h => by
    have hx := h x (by simp)
    show po2 ns (ls ++ [p]) ((x, []) :: (d.map (fun x => (x, [])) ++ r)) = _
    rw [po2, if_neg (by simp only; omega), if_neg (by simp only; omega)]
    have e1 : (ls ++ [p]).dropLast = ls := by simp
    have e2 : (ls ++ [p]).getLastD [] = p := by simp
    rw [e1, e2]
    rw [po2_bytes d ns ls (p ++ [x]) r fun y hy => h y (List.mem_cons_of_mem _ hy)]
    simp
theorem po2_ent {e : Ent} (he : Oct e.2.1) (ns ls : List (List Nat)) (r : List Evn) : po2 ns ls (ete e ++ r) = po2 (ns ++ tdn [e]) (ls ++ tdd [e]) r := by
  unfold ete
  by_cases hk : e.2.2.2 = 0
  · rw [if_pos hk]
    simp only [tdn, tdd, hk, if_true]
    rw [List.cons_append, po2, if_pos rfl, List.append_assoc, po2_bytes _ _ _ _ _ he, List.nil_append]
    show po2 _ _ ((257, []) :: r) = _
    rw [po2, if_neg (by decide), if_pos rfl]
  · rw [if_neg hk]
    simp only [tdn, tdd, hk, if_false, List.append_nil, List.nil_append]
theorem po2_eta : ∀ (l : List Ent) (ns ls : List (List Nat)) (r : List Evn), (∀ e ∈ l, Oct e.2.1) → po2 ns ls (eta l ++ r) = po2 (ns ++ tdn l) (ls ++ tdd l) r
  | [], ns, ls, r, _ => by simp [eta, tdn, tdd]
  | e :: l, ns, ls, r, h => by
    show po2 ns ls ((ete e ++ eta l) ++ r) = _
    rw [List.append_assoc, po2_ent (h e (by simp)), po2_eta l _ _ _ fun x hx => h x (List.mem_cons_of_mem _ hx), List.append_assoc, List.append_assoc, ← tdn_append, ← tdd_append]
    rfl
theorem po2_told {l : List Ent} (h : ∀ e ∈ l, Eok e) : po2 [] [] (eta l) = (tdn l, tdd l) := by
  have := po2_eta l [] [] [] fun e he => (h e he).d
  rw [List.append_nil] at this
  rw [this]; rfl
theorem zero_run {t : Nat} {s : Ts} {c : Cm} (h : Sd c s) : ∃ s', Mr t s (List.replicate 512 0) s' [] ∧ s'.wh = 3 ∧ s'.why = 0 ∧ s'.ps = 0 := by
  have hb := run_block (h := List.replicate 512 0) (t := t) h.why h.wh h.ps h.bl List.length_replicate
  have hn : noughts (List.replicate 512 0) = true := by unfold noughts; rw [List.all_eq_true]; intro x hx; rw [(List.mem_replicate.1 hx).2]; rfl
  have ht : ∀ S : Ts, noughts S.B = true → thead S = ({ S with wh := 3 }, []) := fun S hS => by unfold thead; rw [if_pos hS]
  rw [ht _ (by exact hn)] at hb
  obtain ⟨S, hS⟩ : ∃ S : Ts, { s with B := List.replicate 512 0, ps := 0, wh := 3 } = S := ⟨_, rfl⟩
  have e : tnx S = S := by unfold tnx; rw [if_neg (fun q => by have := q.1; rw [← hS] at this; exact absurd (show (3 : Nat) = 2 from this) (by decide))]
  refine ⟨S, ?_, by rw [← hS], by rw [← hS]; exact h.why, by rw [← hS]⟩
  have hb2 : Mr t s (List.replicate 512 0) (tnx S) [] := by rw [← hS]; exact hb
  rw [e] at hb2
  exact hb2
theorem rch_all {b : List Nat} {s : Ts} {T : List Gev} (h : Mr 0 t0 b s T) : Rch b b.length s T := ⟨Nat.le_refl _, by rw [List.take_length]; exact h⟩
/-- Noughts behind entries, and anything behind these. -/
theorem ends_run {l : List Ent} (h : ∀ e ∈ l, Eok e) (x : List Nat) : ∃ s T, Rch (wal l ++ (List.replicate 512 0 ++ x)) (wal l ++ (List.replicate 512 0 ++ x)).length s T ∧ zfin s = 0 ∧ po2 [] [] (evx T) = (tdn l, tdd l) := by
  obtain ⟨s1, T1, q1, q2, q3⟩ := wal_run l 0 t0 h sd0
  obtain ⟨s2, r1, r2, r3, r4⟩ := zero_run (t := 0 + (wal l).length) q2
  have ho := run_over x (0 + (wal l).length + (List.replicate 512 0).length) s2 r3 r2 (by omega)
  refine ⟨_, _, rch_all ((mr_append _ _ _ _ _ _).2 ⟨_, _, _, q1, (mr_append _ _ _ _ _ _).2 ⟨_, _, _, r1, ho, rfl⟩, rfl⟩), ?_, ?_⟩
  · unfold zfin
    rw [if_neg (fun q => q r3), if_pos (by unfold twhl; show (decide (s2.wh = 3) || _) = true; rw [r2]; rfl)]
  · rw [List.append_nil, List.append_nil, q3]; exact po2_told h
theorem wri_eq (l : List Ent) : wri l = wal l ++ (List.replicate 512 0 ++ List.replicate 512 0) := by
  unfold wri
  rw [List.replicate_append_replicate]
theorem back_run {l : List Ent} (h : ∀ e ∈ l, Eok e) : ∃ s T, Rch (wri l) (wri l).length s T ∧ zfin s = 0 ∧ po2 [] [] (evx T) = (tdn l, tdd l) := by
  rw [wri_eq]
  exact ends_run h _
/-- Entries alone. -/
theorem bare_run {l : List Ent} (h : ∀ e ∈ l, Eok e) : ∃ s T, Rch (wal l) (wal l).length s T ∧ zfin s = 0 ∧ po2 [] [] (evx T) = (tdn l, tdd l) := by
  obtain ⟨s1, T1, q1, q2, q3⟩ := wal_run l 0 t0 h sd0
  refine ⟨_, _, rch_all q1, ?_, by rw [q3]; exact po2_told h⟩
  unfold zfin
  rw [if_neg (fun q => q q2.why), if_pos (by unfold twhl; rw [q2.wh, q2.ps]; rfl)]
/-- A byte behind entries. -/
theorem cut_run {l : List Ent} (h : ∀ e ∈ l, Eok e) (x : Nat) : ∃ s T, Rch (wal l ++ [x]) (wal l ++ [x]).length s T ∧ zfin s = 1 ∧ po2 [] [] (evx T) = (tdn l, tdd l) := by
  obtain ⟨s1, T1, q1, q2, q3⟩ := wal_run l 0 t0 h sd0
  have hr := run_head [x] [] s1.B (0 + (wal l).length) s1 q2.why q2.wh q2.ps rfl q2.bl (by simp)
  refine ⟨_, _, rch_all ((mr_append _ _ _ _ _ _).2 ⟨_, _, _, q1, hr, rfl⟩), ?_, by rw [List.append_nil, q3]; exact po2_told h⟩
  unfold zfin
  rw [if_neg (fun q => q q2.why), if_neg (by unfold twhl; show ¬ (decide (s1.wh = 3) || (decide (s1.wh = 0) && decide (([] : List Nat).length + [x].length = 0))) = true; rw [q2.wh]; simp)]
theorem wal_oct : ∀ (l : List Ent), (∀ e ∈ l, Eok e) → Oct (wal l)
  | [], _ => fun x hx => by simp [wal] at hx
  | e :: r, h => by
    have he := h e (by simp)
    have hr : ∀ n, Oct (List.replicate n 0) := fun n x hx => by rw [(List.mem_replicate.1 hx).2]; decide
    have hw : ∀ d, Oct d → Oct (wh512 d) := fun d hd => hd.app (hr _)
    have hno := nmd_oct he.n
    have h0 : Oct [0] := fun x hx => by simp at hx; omega
    refine Oct.app ?_ (wal_oct r fun x hx => h x (List.mem_cons_of_mem _ hx))
    unfold wen
    split
    · refine (hdr_oct hno ?_).app (hw _ he.d)
      unfold wotk; split <;> decide
    · refine Oct.app ?_ ((hdr_oct hno (by decide)).app (hw _ he.d))
      have hp := sad_oct kpath_oct hno
      have hz := sad_oct ksize_oct (dgs_oct _ _ (Nat.le_refl e.2.1.length))
      unfold wpr
      split
      · exact (hdr_oct oct_x (by decide)).app (hw _ (hno.app h0))
      · split
        · exact (hdr_oct oct_x (by decide)).app (hw _ hp)
        · split
          · exact (hdr_oct oct_x (by decide)).app (hw _ (hp.app hz))
          · intro x hx; simp at hx
theorem wri_oct {l : List Ent} (h : ∀ e ∈ l, Eok e) : Oct (wri l) := (wal_oct l h).app fun x hx => by rw [(List.mem_replicate.1 hx).2]; decide
theorem wri_len {l : List Ent} (h : ∀ e ∈ l, Eok e) (hl : l.length ≤ 1000) : (wri l).length ≤ 300000000 := by
  have := wal_len l h
  unfold wri
  rw [List.length_append, List.length_replicate]
  omega
end Go.Proofs.YtcmmjbkgoafbnabDoor

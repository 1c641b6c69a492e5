/-
 Which names are told of a written file, and in which order. No walk.
-/
import Derived.Test.YtogednaamndpgaaGreatDoorMzb
namespace Go.Proofs.YtogednaamndpgaaGreatDoor
open Go.RowKit
set_option linter.unusedVariables false
def opn : List Evn → List (List Nat)
 | [] => []
 | e :: l => if e.1 = 256 then e.2 :: opn l else opn l
theorem opn_append (a b : List Evn) : opn (a ++ b) = opn a ++ opn b := by
 induction a with
 | nil => rfl
 | cons e a ih =>
  simp only [List.cons_append, opn]
  split
  ·rw [ih]; rfl
  ·exact ih
theorem opn_evd (n d : List Nat) (h : Oct d) : opn (evd n d) = [n] := by
 have key : ∀ d : List Nat, Oct d → opn (d.map fun x => ((x, []) : Evn)) = [] := by
  intro d
  induction d with
  | nil => intro _; rfl
  | cons x d ih =>
   intro ho
   have hx := ho x (List.mem_cons_self ..)
   simp only [List.map_cons, opn]
   rw [if_neg (by omega)]
   exact ih (fun y hy => ho y (List.mem_cons_of_mem _ hy))
 unfold evd opn
 rw [if_pos rfl, key d h]
theorem opn_wel : ∀ (l : List Wm), (∀ m ∈ l, Oct m.d) → opn (wel l) = l.map Wm.n
 | [], _ => rfl
 | m :: l, h => by
  have e : wel (m :: l) = evd m.n m.d ++ ((257, []) :: wel l) := by simp [wel]
  rw [e, opn_append, opn_evd _ _ (h m (List.mem_cons_self ..))]
  simp only [opn]
  rw [if_neg (by decide), opn_wel l (fun x hx => h x (List.mem_cons_of_mem _ hx))]
  rfl
structure Bi (LN : List (List Nat)) (B : Nat) (P R : List Evn) : Prop where
 nm : opn (P ++ R) = LN
 by_ : nbe ((P ++ R).map Prod.fst) ≤ B
theorem Bi.next {LN : List (List Nat)} {B : Nat} {P R : List Evn} {e : Evn} (h : Bi LN B P (e :: R)) : Bi LN B (P ++ [e]) R := ⟨by rw [List.append_assoc]; exact h.nm, by rw [List.append_assoc]; exact h.by_⟩
theorem Bi.at {LN : List (List Nat)} {B : Nat} {P R : List Evn} {e : Evn} (h : Bi LN B P (e :: R)) (he : e.1 = 256) : LN[(opn P).length]? = some e.2 ∧ (opn (P ++ [e])).length = (opn P).length + 1 := by
 have q := h.nm
 rw [opn_append] at q
 simp only [opn] at q
 rw [if_pos he] at q
 refine ⟨by rw [← q, List.getElem?_append_right (by omega), Nat.sub_self]; rfl, ?_⟩
 rw [opn_append, List.length_append]
 simp [opn, he]
theorem Bi.no {P : List Evn} {e : Evn} (he : e.1 ≠ 256) : (opn (P ++ [e])).length = (opn P).length := by
 rw [opn_append]
 simp [opn, he]
theorem sp_len {s s1 : Gs} {x : Nat} {E : List Evn} (hok : Gok s) (h0 : s.why = 0) (hs : Sp s x s1 E) : E.length ≤ 1 + nbe (cde E) := by
 rcases hs with ⟨h9, y, hy, rfl, rfl⟩ | ⟨h9, rfl, rfl⟩
 ·obtain ⟨d1, _⟩ := hok.d9 h0 h9
  obtain ⟨o, q1, _, _⟩ := d1.next hy
  have hoc : Oct o := fun z hz => hy.oct z (by rw [q1]; exact List.mem_append_right _ hz)
  have e1 : cde ((y.out.drop s.y.out.length).map fun b => (b, [])) = o := by
   rw [q1, List.drop_left]
   unfold cde
   rw [List.map_map]
   exact List.map_id o
  rw [e1, (oct_counts o hoc).2, List.length_map, q1, List.drop_left]
  omega
 ·rcases gst_form (x := x) hok.nx h9 with ⟨e1, _⟩ | ⟨m, e1, _⟩ | ⟨e1, _⟩ <;> rw [e1] <;> simp <;> omega
theorem cde_fst (E : List Evn) : cde E = E.map Prod.fst := rfl
theorem sndl_evs (t : Nat) (E : List Evn) : sndl (evs t E) = E := by simp [sndl, evs, Function.comp_def]
theorem bs_step {z : List Nat} {LN : List (List Nat)} {B L : Nat} {s si : Gs} {T : List Gev} {P : List Evn} {i : Nat} (ho : Oct z) (hr : Rch z L s T) (hT : opn (sndl T) = LN) (hB : nbe ((sndl T).map Prod.fst) ≤ B) (h : ∃ Ti, Rch z i si Ti ∧ sndl Ti = P) (hi : i < L) : si.why = 0 ∧ Gok si ∧ si.y.out.length ≤ B ∧ ∃ x s1 E R', z[i]? = some x ∧ Sp si x s1 E ∧ (∃ Ti, Rch z (i + 1) s1 Ti ∧ sndl Ti = P ++ E) ∧ Bi LN B P (E ++ R') ∧ E.length ≤ 1 + B ∧ s1.y.out.length ≤ B := by
 obtain ⟨Ti, q1, rfl⟩ := h
 obtain ⟨h0, x, s1, E, T2, a1, a2, a3, a4, a5⟩ := hr.at q1 hi
 have f := rch_facts ho i si Ti q1
 have f1 := rch_facts ho (i + 1) s1 _ a3
 have eT : sndl T = sndl Ti ++ (E ++ sndl T2) := by rw [a4, sndl_append, sndl_append, sndl_evs, List.append_assoc]
 have hb2 : nbe ((sndl Ti).map Prod.fst) + (nbe (E.map Prod.fst) + nbe ((sndl T2).map Prod.fst)) ≤ B := by
  rw [eT, List.map_append, List.map_append, nbe_append, nbe_append] at hB
  exact hB
 have c1 : cds Ti = (sndl Ti).map Prod.fst := cds_sndl Ti
 have l1 := f.len
 rw [c1] at l1
 have l2 := f1.len
 rw [cds_append, cds_evs, nbe_append, c1, cde_fst] at l2
 have l3 := sp_len f.ok h0 a2
 rw [cde_fst] at l3
 refine ⟨h0, f.ok, by omega, x, s1, E, sndl T2, a1, a2, ⟨_, a3, by rw [sndl_append, sndl_evs]⟩, ⟨by rw [← eT]; exact hT, ?_⟩, by omega, by omega⟩
 rw [← eT]
 exact hB
end Go.Proofs.YtogednaamndpgaaGreatDoor

/-
  MimetypeBetween: the mathematics.
-/
import Derived.Test.YtdndlegfalmkaaaMix
namespace Go.Proofs.Ytdndlegfalmkaaa
open Go.RowKit
set_option linter.unusedVariables false
def pxo (A : List Nat) (k : Nat) (f : Fd) : Px := ⟨pu A k, mxf A 0 f.1, pu A (k + 1), pu A (k + 2), f.2, pu A (k + 3)⟩
def pxs (A : List Nat) : Nat → List Fd → List Px
  | _, [] => []
  | k, f :: r => pxo A k f :: pxs A (k + 1) r
theorem pxs_app (A : List Nat) : ∀ (l m : List Fd) (k : Nat), pxs A k (l ++ m) = pxs A k l ++ pxs A (k + l.length) m
  | [], m, k => rfl
  | x :: r, m, k => by
    have h := pxs_app A r m (k + 1)
    have e : k + 1 + r.length = k + (x :: r).length := by simp; omega
    rw [e] at h
    simp only [List.cons_append, pxs, h]
def bs (A m s : List Nat) : List Nat := pu A 3 ++ (mxf A 0 m ++ (pu A 0 ++ 47 :: (pu A 1 ++ (mxf A 0 s ++ pu A 2))))
def bx (A m s : List Nat) (T : List Fd) (k : Nat) : List Nat := bs A m s ++ (pxs A 0 (T.take k)).flatMap pxl
theorem bx_next {A m s : List Nat} {T : List Fd} {k : Nat} {f : Fd} (h : T[k]? = some f) : bx A m s T (k + 1) = bx A m s T k ++ pxl (pxo A k f) := by
  have hk := (List.getElem?_eq_some_iff.1 h).1
  unfold bx
  rw [List.take_add_one, h]
  have e : (T.take k).length = k := by simp; omega
  rw [Option.toList_some, pxs_app, e, Nat.zero_add, List.flatMap_append]
  simp [pxs]
theorem pxl_len (A : List Nat) (k : Nat) (f : Fd) : (pxl (pxo A k f)).length ≤ 50 * (f.1.length + f.2.length + 1) := by
  have h0 := pu_len A k
  have h1 := pu_len A (k + 1)
  have h2 := pu_len A (k + 2)
  have h3 := pu_len A (k + 3)
  have h4 := wr_len f.2
  have h5 := mxf_len A f.1 0
  unfold pxl pxo
  simp
  omega
theorem pxs_len (A : List Nat) : ∀ (F : List Fd) (k : Nat), ((pxs A k F).flatMap pxl).length ≤ 50 * wt F
  | [], k => by simp [pxs]
  | f :: r, k => by
    have h := pxs_len A r (k + 1)
    have h2 := pxl_len A k f
    rw [wt_cons]
    simp only [pxs, List.flatMap_cons, List.length_append]
    omega
theorem wt_take (T : List Fd) (k : Nat) : wt (T.take k) ≤ wt T := by
  have h := wt_append (T.take k) (T.drop k)
  rw [List.take_append_drop] at h
  omega
theorem bs_len (A m s : List Nat) : (bs A m s).length ≤ m.length + s.length + 41 := by
  have h0 := pu_len A 0
  have h1 := pu_len A 1
  have h2 := pu_len A 2
  have h3 := pu_len A 3
  have h4 := mxf_len A m 0
  have h5 := mxf_len A s 0
  unfold bs
  simp
  omega
theorem bx_len (A m s : List Nat) (T : List Fd) (k : Nat) : (bx A m s T k).length ≤ m.length + s.length + 41 + 50 * wt T := by
  have h1 := bs_len A m s
  have h2 := pxs_len A (T.take k) 0
  have h3 := wt_take T k
  unfold bx
  rw [List.length_append]
  omega
theorem pxl_oct (A : List Nat) (k : Nat) (f : Fd) (h1 : Oct f.1) (h2 : Oct f.2) : Oct (pxl (pxo A k f)) := by
  unfold pxl pxo
  exact Oct.cons (by omega) ((pu_oct A k).append ((oct_mxf A f.1 0 h1).append ((pu_oct A (k + 1)).append (Oct.cons (by omega) ((pu_oct A (k + 2)).append ((wr_oct h2).append (pu_oct A (k + 3))))))))
theorem pxs_oct (A : List Nat) : ∀ (F : List Fd) (k : Nat), OctF F → Oct ((pxs A k F).flatMap pxl)
  | [], k, _ => by simp [pxs, Oct]
  | f :: r, k, h => by
    simp only [pxs, List.flatMap_cons]
    exact (pxl_oct A k f (h f (by simp)).1 (h f (by simp)).2).append (pxs_oct A r (k + 1) fun g hg => h g (by simp [hg]))
theorem bx_oct {A m s : List Nat} {T : List Fd} (hm : Oct m) (hs : Oct s) (hT : OctF T) (k : Nat) : Oct (bx A m s T k) := by
  unfold bx bs
  exact ((pu_oct A 3).append ((oct_mxf A m 0 hm).append ((pu_oct A 0).append (Oct.cons (by omega) ((pu_oct A 1).append ((oct_mxf A s 0 hs).append (pu_oct A 2))))))).append (pxs_oct A _ 0 fun f hf => hT f (List.mem_of_mem_take hf))
theorem pxs_ok (A : List Nat) : ∀ (F : List Fd) (k : Nat), (∀ f ∈ F, tok f.1 = true) → ∀ p ∈ pxs A k F, OkP p
  | [], k, _ => by simp [pxs]
  | f :: r, k, h => by
    intro p hp
    simp only [pxs, List.mem_cons] at hp
    rcases hp with rfl | hp
    · exact ⟨pu_gap _ _, by show tok (mxf A 0 f.1) = true; rw [tok_mxf]; exact h f (by simp), pu_gap _ _, pu_nt _ _, pu_gap _ _, pu_gap _ _, pu_nt _ _⟩
    · exact pxs_ok A r (k + 1) (fun g hg => h g (by simp [hg])) p hp
theorem pxs_map (A : List Nat) : ∀ (F : List Fd) (k : Nat), (pxs A k F).map (fun p => ((low p.n, p.v) : Fd)) = F.map fun f => (low f.1, f.2)
  | [], k => rfl
  | f :: r, k => by
    have h := pxs_map A r (k + 1)
    simp only [pxs, List.map_cons, h]
    congr 2
    exact low_mxf A f.1 0
theorem bx_ty {A m s : List Nat} {T : List Fd} {x : List Nat} (h : tx (m, s, T) = some x) : ty (bx A m s T T.length) = some (m, s, T) := by
  obtain ⟨h1, h2, h3, _⟩ := tx_parts h
  simp only at h1 h2 h3
  obtain ⟨m1, m2⟩ := sm_tok h1
  obtain ⟨s1, s2⟩ := sm_tok h2
  have hf := ty_form (g3 := pu A 3) (M := mxf A 0 m) (g0 := pu A 0) (g1 := pu A 1) (S := mxf A 0 s) (g2 := pu A 2) (P := pxs A 0 T) (pu_gap _ _) (by rw [tok_mxf]; exact m1) (pu_gap _ _) (pu_nt _ _) (pu_gap _ _) (by rw [tok_mxf]; exact s1) (pu_gap _ _) (pu_nt _ _) (pxs_ok A T 0 fun f hf => (sm_tok (h3 f hf)).1)
  rw [low_mxf, low_mxf, m2, s2, pxs_map, map_id' fun f hf => (sm_tok (h3 f hf)).2] at hf
  rw [← hf]
  unfold bx bs
  rw [List.take_length]
  congr 1
  simp
theorem tx_one (v : List Nat) : tx ([97], [98], [([99], v)]) = some ([97, 47, 98, 59, 32, 99, 61] ++ wr v) := by
  rw [tx_some (by show sm [97] = true; decide) (by show sm [98] = true; decide) (by show List.all [(([99], v) : Fd)] _ = true; simp only [List.all_cons, List.all_nil, Bool.and_true]; decide)]
  simp [pt]
theorem px_parts (A : List Nat) (k : Nat) (f : Fd) : ((((((([59] ++ pu A k) ++ mxf A 0 f.1) ++ pu A (k + 1)) ++ [61]) ++ pu A (k + 2)) ++ wr f.2) ++ pu A (k + 3)) = pxl (pxo A k f) := by
  unfold pxl pxo
  simp
theorem bs_parts (A m s : List Nat) : pu A 3 ++ (((((mxf A 0 m ++ pu A 0) ++ [47]) ++ pu A 1) ++ mxf A 0 s) ++ pu A 2) = bs A m s := by
  unfold bs
  simp
end Go.Proofs.Ytdndlegfalmkaaa

/-
  A type that is written, in whatever form, is read as the type; no walk.
-/
import Derived.Test.YtdndlegfalmkaaaMth
namespace Go.Proofs.Ytdndlegfalmkaaa
set_option linter.unusedVariables false
/-- What may stand between: it changes nothing. -/
def Gap (g : List Nat) : Prop := ∀ r, bt 0 (g ++ r) = bt 0 r
/-- No token goes on here. -/
def nt : List Nat → Bool
  | [] => true
  | x :: _ => !tk x
theorem Gap.nil : Gap [] := fun _ => rfl
theorem nt_app {g x : List Nat} (hg : nt g = true) (hx : nt x = true) : nt (g ++ x) = true := by
  cases g with
  | nil => exact hx
  | cons y q => exact hg
theorem tk_not {x : Nat} (h : tk x = true) : isB x = false ∧ x ≠ 40 ∧ x ≠ 34 := by
  unfold tk at h
  simp only [Bool.and_eq_true, decide_eq_true_eq, Bool.not_eq_true'] at h
  refine ⟨?_, ?_, ?_⟩
  · unfold isB
    simp only [Bool.or_eq_false_iff, beq_eq_false_iff_ne]
    omega
  · rintro rfl; simp [sp] at h
  · rintro rfl; simp [sp] at h
theorem tok_cons {m : List Nat} (h : tok m = true) : ∃ x r, m = x :: r ∧ tk x = true ∧ r.all tk = true := by
  cases m with
  | nil => simp [tok] at h
  | cons x r =>
    simp only [tok, List.all_cons, Bool.and_eq_true] at h
    exact ⟨x, r, rfl, h.2.1, h.2.2⟩
theorem tok_all {m : List Nat} (h : tok m = true) : m.all tk = true ∧ 0 < m.length := by
  obtain ⟨x, r, rfl, h1, h2⟩ := tok_cons h
  exact ⟨by simp only [List.all_cons, h1, h2, Bool.and_self], by simp⟩
theorem rn_app : ∀ (m x : List Nat), m.all tk = true → nt x = true → rn (m ++ x) = m.length
  | [], x, _, hx => by
    unfold rn
    cases x with
    | nil => rfl
    | cons y q =>
      have : tk y = false := by simpa [nt] using hx
      simp [this]
  | y :: m, x, hm, hx => by
    simp only [List.all_cons, Bool.and_eq_true] at hm
    have := rn_app m x hm.2 hx
    unfold rn at *
    rw [List.cons_append, List.takeWhile_cons, if_pos hm.1, List.length_cons, this, List.length_cons]
theorem tkn_app {m x : List Nat} (hm : tok m = true) (hx : nt x = true) : tkn (m ++ x) = (bt 0 x).map fun q => (m, q) := by
  obtain ⟨h1, h2⟩ := tok_all hm
  unfold tkn
  rw [rn_app m x h1 hx, if_neg (by omega), List.drop_left, List.take_left]
theorem bt_tok {m x : List Nat} (hm : tok m = true) : bt 0 (m ++ x) = some (m ++ x) := by
  obtain ⟨y, r, rfl, h1, _⟩ := tok_cons hm
  obtain ⟨k1, k2, _⟩ := tk_not h1
  exact bt_stop k1 k2
theorem qt_es : ∀ (v a x : List Nat), qt a (es v ++ 34 :: x) = some (a ++ v, x)
  | [], a, x => by
    show qt a (34 :: x) = _
    rw [qt.eq_def]
    simp
  | y :: v, a, x => by
    have ih := qt_es v (a ++ [y]) x
    have e : es (y :: v) = (if y = 34 ∨ y = 92 then [92, y] else [y]) ++ es v := by simp [es]
    rw [e]
    by_cases h : y = 34 ∨ y = 92
    · rw [if_pos h]
      have : qt a ([92, y] ++ es v ++ 34 :: x) = qt (a ++ [y]) (es v ++ 34 :: x) := by
        rw [List.append_assoc]
        simp [qt]
      rw [this, ih]
      simp
    · rw [if_neg h]
      have h1 : y ≠ 34 := fun e => h (Or.inl e)
      have h2 : y ≠ 92 := fun e => h (Or.inr e)
      have : qt a ([y] ++ es v ++ 34 :: x) = qt (a ++ [y]) (es v ++ 34 :: x) := by
        rw [List.append_assoc]
        show qt a (y :: (es v ++ 34 :: x)) = _
        rw [qt.eq_def]
        simp [h1, h2]
      rw [this, ih]
      simp
theorem vl_wr {v x : List Nat} (hx : nt x = true) : vl (wr v ++ x) = (bt 0 x).map fun q => (v, q) := by
  unfold wr
  cases h : tok v with
  | true =>
    rw [if_pos rfl]
    obtain ⟨y, r, rfl, h1, _⟩ := tok_cons h
    show vl (y :: (r ++ x)) = _
    simp only [vl]
    rw [if_neg (tk_not h1).2.2]
    exact tkn_app h hx
  | false =>
    rw [if_neg (by decide)]
    show vl (34 :: ((es v ++ [34]) ++ x)) = _
    simp only [vl, if_true]
    rw [List.append_assoc]
    show (qt [] (es v ++ 34 :: x)).bind _ = _
    rw [qt_es]
    rfl
theorem bt_wr {v x : List Nat} : bt 0 (wr v ++ x) = some (wr v ++ x) := by
  unfold wr
  cases h : tok v with
  | true => rw [if_pos rfl]; exact bt_tok h
  | false =>
    rw [if_neg (by decide)]
    exact bt_stop (by decide) (by decide)
/-- A parameter as it may be written: what stands behind its first sign, its name, what stands behind that, behind its second sign, its value, what stands behind it. -/
structure Px where
  a : List Nat
  n : List Nat
  b : List Nat
  c : List Nat
  v : List Nat
  d : List Nat
def pxl (p : Px) : List Nat := 59 :: (p.a ++ (p.n ++ (p.b ++ 61 :: (p.c ++ (wr p.v ++ p.d)))))
structure OkP (p : Px) : Prop where
  a : Gap p.a
  n : tok p.n = true
  b : Gap p.b
  bn : nt p.b = true
  c : Gap p.c
  d : Gap p.d
  dn : nt p.d = true
theorem pxs_nt (P : List Px) : nt (P.flatMap pxl) = true := by
  cases P with
  | nil => rfl
  | cons p P => rw [List.flatMap_cons]; rfl
theorem pxs_bt (P : List Px) : bt 0 (P.flatMap pxl) = some (P.flatMap pxl) := by
  cases P with
  | nil => rfl
  | cons p P => rw [List.flatMap_cons]; exact bt_stop (by decide) (by decide)
theorem px_read {p : Px} (h : OkP p) {X : List Nat} (hn : nt X = true) (hb : bt 0 X = some X) : (sg 59 (pxl p ++ X)).bind pm = some ((low p.n, p.v), X) := by
  have e : pxl p ++ X = 59 :: (p.a ++ (p.n ++ (p.b ++ 61 :: (p.c ++ (wr p.v ++ (p.d ++ X)))))) := by simp [pxl]
  rw [e]
  have s1 : sg 59 (59 :: (p.a ++ (p.n ++ (p.b ++ 61 :: (p.c ++ (wr p.v ++ (p.d ++ X))))))) = some (p.n ++ (p.b ++ 61 :: (p.c ++ (wr p.v ++ (p.d ++ X))))) := by
    simp only [sg, if_true]
    rw [h.a, bt_tok h.n]
  rw [s1]
  simp only [Option.bind_some]
  unfold pm
  have hnt : nt (p.b ++ 61 :: (p.c ++ (wr p.v ++ (p.d ++ X)))) = true := nt_app h.bn (by rfl)
  rw [tkn_app h.n hnt, h.b, bt_stop (by decide) (by decide)]
  simp only [Option.map_some, Option.bind_some]
  have s2 : sg 61 (61 :: (p.c ++ (wr p.v ++ (p.d ++ X)))) = some (wr p.v ++ (p.d ++ X)) := by
    simp only [sg, if_true]
    rw [h.c, bt_wr]
  rw [s2]
  simp only [Option.bind_some]
  rw [vl_wr (nt_app h.dn hn), h.d, hb]
  rfl
theorem ps_form : ∀ (P : List Px), (∀ p ∈ P, OkP p) → ps (P.flatMap pxl).length (P.flatMap pxl) = some (P.map fun p => (low p.n, p.v))
  | [], _ => ps_nil _
  | p :: P, h => by
    have ih := ps_form P (fun q hq => h q (List.mem_cons_of_mem _ hq))
    have k := px_read (h p (List.mem_cons_self ..)) (pxs_nt P) (pxs_bt P)
    rw [List.flatMap_cons]
    rw [ps_step (by simp [pxl])]
    cases h1 : sg 59 (pxl p ++ P.flatMap pxl) with
    | none => rw [h1] at k; cases k
    | some r1 =>
      rw [h1] at k
      simp only [Option.bind_some] at k ⊢
      rw [k]
      simp only [Option.bind_some]
      rw [ih]
      rfl
theorem ty_form {g3 M g0 g1 S g2 : List Nat} {P : List Px} (h3 : Gap g3) (hM : tok M = true) (h0 : Gap g0) (h0n : nt g0 = true) (h1 : Gap g1) (hS : tok S = true) (h2 : Gap g2) (h2n : nt g2 = true) (hP : ∀ p ∈ P, OkP p) :
    ty (g3 ++ (M ++ (g0 ++ 47 :: (g1 ++ (S ++ (g2 ++ P.flatMap pxl)))))) = some (low M, low S, P.map fun p => (low p.n, p.v)) := by
  unfold ty
  rw [h3, bt_tok hM]
  simp only [Option.bind_some]
  rw [tkn_app hM (nt_app h0n (by rfl)), h0, bt_stop (by decide) (by decide)]
  simp only [Option.map_some, Option.bind_some]
  have s : sg 47 (47 :: (g1 ++ (S ++ (g2 ++ P.flatMap pxl)))) = some (S ++ (g2 ++ P.flatMap pxl)) := by
    simp only [sg, if_true]
    rw [h1, bt_tok hS]
  rw [s]
  simp only [Option.bind_some]
  rw [tkn_app hS (nt_app h2n (pxs_nt P)), h2, pxs_bt]
  simp only [Option.map_some, Option.bind_some]
  rw [ps_form P hP]
  rfl
theorem sm_tok {l : List Nat} (h : sm l = true) : tok l = true ∧ low l = l := by
  unfold sm at h
  simp only [Bool.and_eq_true, decide_eq_true_eq] at h
  exact h
theorem gap_blank : Gap [32] := fun r => by
  show bt 0 (32 :: r) = _
  exact bt_blank (by decide)
theorem tx_parts {t : Ty} {s : List Nat} (h : tx t = some s) : sm t.1 = true ∧ sm t.2.1 = true ∧ (∀ f ∈ t.2.2, sm f.1 = true) ∧ s = t.1 ++ 47 :: (t.2.1 ++ t.2.2.flatMap pt) := by
  unfold tx at h
  split at h
  · rename_i h1
    simp only [Bool.and_eq_true] at h1
    cases h
    exact ⟨h1.1, h1.2.1, fun f hf => List.all_eq_true.1 h1.2.2 f hf, rfl⟩
  · cases h
theorem map_id' {F : List Fd} (h : ∀ f ∈ F, low f.1 = f.1) : (F.map fun f => (low f.1, f.2)) = F := by
  conv => rhs; rw [← List.map_id F]
  refine List.map_congr_left fun f hf => ?_
  rw [h f hf]
  rfl
theorem ty_tx {t : Ty} {s : List Nat} (h : tx t = some s) : ty s = some t := by
  obtain ⟨h1, h2, h3, rfl⟩ := tx_parts h
  obtain ⟨m, u, F⟩ := t
  simp only at h1 h2 h3
  obtain ⟨m1, m2⟩ := sm_tok h1
  obtain ⟨u1, u2⟩ := sm_tok h2
  have k := ty_form (g3 := []) (M := m) (g0 := []) (g1 := []) (S := u) (g2 := []) (P := F.map fun f => ⟨[32], f.1, [], [], f.2, []⟩) Gap.nil m1 Gap.nil rfl Gap.nil u1 Gap.nil rfl (fun p hp => by
    obtain ⟨f, hf, rfl⟩ := List.mem_map.1 hp
    exact ⟨gap_blank, (sm_tok (h3 f hf)).1, Gap.nil, rfl, Gap.nil, Gap.nil, rfl⟩)
  have e : (F.map fun f => (⟨[32], f.1, [], [], f.2, []⟩ : Px)).flatMap pxl = F.flatMap pt := by
    rw [List.flatMap_map]
    congr 1
    funext f
    simp [pxl, pt]
  rw [e] at k
  simp only [List.nil_append, List.map_map, Function.comp_def] at k
  rw [m2, u2, map_id' (fun f hf => (sm_tok (h3 f hf)).2)] at k
  exact k
/-- How long what is written is. -/
theorem es_len (v : List Nat) : (es v).length ≤ 2 * v.length := by
  induction v with
  | nil => simp [es]
  | cons y v ih =>
    have e : es (y :: v) = (if y = 34 ∨ y = 92 then [92, y] else [y]) ++ es v := by simp [es]
    rw [e]
    split <;> simp <;> omega
theorem wr_len (v : List Nat) : (wr v).length ≤ 2 * v.length + 2 := by
  unfold wr
  have := es_len v
  split
  · omega
  · simp; omega
theorem pts_len (F : List Fd) : (F.flatMap pt).length ≤ 5 * wt F := by
  induction F with
  | nil => simp
  | cons f F ih =>
    have := wr_len f.2
    have e : (pt f).length = f.1.length + (wr f.2).length + 3 := by simp [pt]; omega
    rw [List.flatMap_cons, wt_cons, List.length_append, e]
    omega
end Go.Proofs.Ytdndlegfalmkaaa

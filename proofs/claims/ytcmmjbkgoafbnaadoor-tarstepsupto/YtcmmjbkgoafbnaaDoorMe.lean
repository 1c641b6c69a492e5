/-
  Own texts of this seat, one behind the other: what each says stands ahead of it.
-/
import Derived.Test.YtcmmjbkgoafbnaaDoorMd
import Derived.Test.YtcmmjbkgoafbnaaDoorMb
import Derived.Test.YtcmmjbkgoafbnaaDoorMa
import Derived.Deep.OwnRows
import Derived.Laws.CopyOwn
import Derived.Lib.FrozenHead
/-
  Records that are written are read. No walk.
-/
namespace Go.Proofs.YtcmmjbkgoafbnaaDoor
set_option linter.unusedVariables false
set_option linter.unusedSimpArgs false
theorem dgs_isd : ∀ (f n : Nat), n ≤ f → ∀ x ∈ dgs n, isd x = true
  | f, n, h, x, hx => by
    by_cases h9 : n ≤ 9
    · rw [dgs_small h9] at hx
      simp at hx
      rw [isd_true]; omega
    · cases f with
      | zero => omega
      | succ f =>
        rw [dgs_more (by omega)] at hx
        rcases List.mem_append.1 hx with e | e
        · exact dgs_isd f (n / 10) (by omega) x e
        · simp at e; rw [isd_true]; omega
theorem dgs_pos (n : Nat) : 0 < (dgs n).length := by
  by_cases h9 : n ≤ 9
  · rw [dgs_small h9]; simp
  · rw [dgs_more (by omega)]; simp
theorem dgs_num : ∀ (f n : Nat), n ≤ f → num 0 (dgs n) = n
  | f, n, h => by
    by_cases h9 : n ≤ 9
    · rw [dgs_small h9]
      show 10 * 0 + (48 + n - 48) = n
      omega
    · cases f with
      | zero => omega
      | succ f =>
        rw [dgs_more (by omega), num_append, dgs_num f (n / 10) (by omega)]
        show 10 * (n / 10) + (48 + n % 10 - 48) = n
        omega
theorem tdc_append : ∀ (l m : List Nat) (v : Nat), tdc v (l ++ m) = (tdc v l).bind fun u => tdc u m
  | [], m, v => rfl
  | x :: r, m, v => by
    show (if isd x = false then none else if 9223372036854775807 < 10 * v + (x - 48) then none else tdc (10 * v + (x - 48)) (r ++ m)) = (if isd x = false then none else if 9223372036854775807 < 10 * v + (x - 48) then none else tdc (10 * v + (x - 48)) r).bind fun u => tdc u m
    split
    · rfl
    · split
      · rfl
      · exact tdc_append r m _
theorem tdc_one {v y : Nat} (h : y ≤ 9) (hb : 10 * v + y ≤ 9223372036854775807) : tdc v [48 + y] = some (10 * v + y) := by
  show (if isd (48 + y) = false then none else if 9223372036854775807 < 10 * v + (48 + y - 48) then none else some (10 * v + (48 + y - 48))) = _
  rw [if_neg (by rw [isd_false]; omega), show 48 + y - 48 = y by omega, if_neg (by omega)]
theorem dgs_tdc : ∀ (f n : Nat), n ≤ f → n ≤ 9223372036854775807 → tdc 0 (dgs n) = some n
  | f, n, h, hb => by
    by_cases h9 : n ≤ 9
    · rw [dgs_small h9, tdc_one h9 (by omega)]
      congr 1; omega
    · cases f with
      | zero => omega
      | succ f =>
        rw [dgs_more (by omega), tdc_append, dgs_tdc f (n / 10) (by omega) (by omega)]
        show tdc (n / 10) [48 + n % 10] = some n
        rw [tdc_one (by omega) (by omega)]
        congr 1; omega
theorem dgs_tdec {n : Nat} (hb : n ≤ 9223372036854775807) : tdec (dgs n) = some n := by
  unfold tdec
  rw [if_neg (fun h => by have := dgs_pos n; rw [h] at this; simp at this), dgs_tdc n n (Nat.le_refl _) hb]
theorem dgs_len4 {n : Nat} (h : n < 1000) : (dgs n).length ≤ 3 := by
  by_cases h9 : n ≤ 9
  · rw [dgs_small h9]; simp
  · rw [dgs_more (by omega)]
    by_cases h8 : n / 10 ≤ 9
    · rw [dgs_small h8]; simp
    · rw [dgs_more (by omega), dgs_small (by omega)]; simp
theorem tcut_form {D x r : List Nat} (hd : ∀ y ∈ D, isd y = true) (h4 : D.length ≤ 4) (hN : num 0 D = D.length + x.length + 2) : tcut (D ++ 32 :: (x ++ 10 :: r)) = some (x, D.length + x.length + 2) := by
  have g32 : (D ++ 32 :: (x ++ 10 :: r))[D.length]? = some 32 := by
    rw [List.getElem?_append_right (Nat.le_refl _), Nat.sub_self]; rfl
  have hl : (D ++ 32 :: (x ++ 10 :: r)).length = D.length + x.length + 2 + r.length := by simp; omega
  have hdg : Dg (D ++ 32 :: (x ++ 10 :: r)) D.length := ⟨by omega, fun i y hi hy => by
    rw [List.getElem?_append_left hi] at hy
    exact hd y (List.mem_of_getElem? hy)⟩
  rw [tcut_eq hdg h4 (Or.inr (Or.inr ⟨32, g32, rfl⟩)), List.take_left, hN]
  have g10 : (D ++ 32 :: (x ++ 10 :: r))[D.length + x.length + 2 - 1]? = some 10 := by
    rw [List.getElem?_append_right (by omega), show D.length + x.length + 2 - 1 - D.length = x.length + 1 by omega, List.getElem?_cons_succ, List.getElem?_append_right (Nat.le_refl _), Nat.sub_self]; rfl
  rw [if_neg (by rw [hl, g32, g10]; intro h; rcases h with h | h | h | h <;> first | omega | exact h rfl)]
  have e : ((D ++ 32 :: (x ++ 10 :: r)).take (D.length + x.length + 2 - 1)).drop (D.length + 1) = x := by
    have e1 : D ++ 32 :: (x ++ 10 :: r) = (D ++ [32]) ++ (x ++ 10 :: r) := by simp
    have q : D.length + x.length + 2 - 1 - (D ++ [32]).length = x.length := by rw [List.length_append, List.length_singleton]; omega
    rw [e1, List.drop_take, show D.length + 1 = (D ++ [32]).length by simp, List.drop_left, q, List.take_left]
  rw [e]
theorem teq_form {k v : List Nat} (hk : 61 ∉ k) : teq (k ++ 61 :: v) = some (k, v) := by
  have := teq_at (x := k ++ 61 :: v) (i := k.length) (by rw [List.getElem?_append_right (Nat.le_refl _), Nat.sub_self]; rfl) (fun j y hj hy => by
    rw [List.getElem?_append_left hj] at hy
    intro e; subst e; exact hk (List.mem_of_getElem? hy))
  rw [this, List.take_left, show k ++ 61 :: v = (k ++ [61]) ++ v by simp, show k.length + 1 = (k ++ [61]).length by simp, List.drop_left]
theorem sad_trc {k v r : List Nat} (hk : 61 ∉ k) (h : k.length + v.length + 3 < 900) : trc (sad k v ++ r) = some (k, v, (sad k v).length) := by
  obtain ⟨h1, h2⟩ := sdl_ok (s := k.length + v.length + 3) (by omega)
  have hl := sad_len (k := k) (v := v) (by omega)
  obtain ⟨n, hn⟩ : ∃ n, sdl (k.length + v.length + 3) = n := ⟨_, rfl⟩
  have e : sad k v ++ r = dgs n ++ 32 :: ((k ++ 61 :: v) ++ 10 :: r) := by unfold sad; rw [hn]; simp
  rw [hn] at h1 h2 hl
  have hx : (k ++ 61 :: v).length = k.length + v.length + 1 := by simp; omega
  have hc := tcut_form (D := dgs n) (x := k ++ 61 :: v) (r := r) (dgs_isd n n (Nat.le_refl _)) (by have := dgs_len4 (n := n) (by omega); omega) (by rw [dgs_num n n (Nat.le_refl _), hx]; omega)
  rw [e, trc_of hc, teq_form hk, hl, hx]
  show some (k, v, _) = some (k, v, n)
  rw [show (dgs n).length + (k.length + v.length + 1) + 2 = n by omega]
theorem trr_path {nm r : List Nat} (c : Cm) (h : nm.length ≤ 256) : trr (sad kpath nm ++ r) c = trr r (some nm, c.2) := by
  have hp : kpath.length = 4 := rfl
  rw [trr_some (sad_trc (by decide) (by omega))]
  have : tset kpath nm c = ((some nm, c.2), 0) := by unfold tset tnam; rw [if_pos rfl, if_neg (by omega)]
  rw [this, if_neg (by simp), List.drop_left]
theorem trr_size {L : Nat} {r : List Nat} (c : Cm) (h : L ≤ 100000) : trr (sad ksize (dgs L) ++ r) c = trr r (c.1, some L) := by
  have hp : ksize.length = 4 := rfl
  have hd := dgs_len (n := L) (by omega)
  rw [trr_some (sad_trc (by decide) (by omega))]
  have : tset ksize (dgs L) c = ((c.1, some L), 0) := by unfold tset tsiz; rw [if_neg (by decide), if_pos rfl, dgs_tdec (by omega)]
  rw [this, if_neg (by simp), List.drop_left]
theorem trr_one {nm : List Nat} (h : nm.length ≤ 256) : trr (sad kpath nm) (none, none) = ((some nm, none), 0) := by
  have := trr_path (r := []) (none, none) h
  rw [List.append_nil] at this
  rw [this]; rfl
theorem trr_two {nm : List Nat} {L : Nat} (h : nm.length ≤ 256) (hL : L ≤ 100000) : trr (sad kpath nm ++ sad ksize (dgs L)) (none, none) = ((some nm, some L), 0) := by
  have := trr_size (r := []) (some nm, none) hL
  rw [List.append_nil] at this
  rw [trr_path _ h, this]; rfl
end Go.Proofs.YtcmmjbkgoafbnaaDoor

/-
  What is told with a byte: its form; names and parts out of what is told. No walk.
-/
namespace Go.Proofs.YtcmmjbkgoafbnaaDoor
set_option linter.unusedVariables false
/-- At most two events, the second one a file's end. -/
def Tfo (E : List Evn) : Prop := E = [] ∨ (∃ e, E = [e] ∧ e.1 < 258 ∧ (e.1 ≠ 256 → e.2 = [])) ∨ ∃ e, E = [e, (257, [])] ∧ e.1 < 258 ∧ (e.1 ≠ 256 → e.2 = [])
theorem tfo_nil : Tfo [] := Or.inl rfl
theorem tfo_next {e : Evn} {E : List Evn} (h : Tfo (e :: E)) : Tfo E ∧ e.1 < 258 ∧ (e.1 ≠ 256 → e.2 = []) ∧ (E = [] ∨ E = [(257, [])]) := by
  rcases h with h | ⟨x, h, h1, h2⟩ | ⟨x, h, h1, h2⟩
  · cases h
  · cases h; exact ⟨tfo_nil, h1, h2, Or.inl rfl⟩
  · cases h; exact ⟨Or.inr (Or.inl ⟨_, rfl, by decide, fun _ => rfl⟩), h1, h2, Or.inr rfl⟩
theorem topn_tbeg (B : List Nat) (nm : Option (List Nat)) (us z : Nat) (s : Ts) (hu : us = tus (tkd B)) : Tfo (topn B nm ++ (tbeg us z s).2) := by
  unfold topn tbeg tcl
  by_cases hf : tisf (tkd B) = true
  · have h1 : tus (tkd B) = 1 := by
      unfold tisf at hf
      simp only [Bool.or_eq_true, beq_iff_eq] at hf
      rcases hf with (e | e) | e <;> rw [e] <;> rfl
    rw [if_pos hf, hu, h1]
    split
    · exact Or.inr (Or.inr ⟨_, rfl, by show 256 < 258; decide, fun h => absurd rfl h⟩)
    · exact Or.inr (Or.inl ⟨_, rfl, by show 256 < 258; decide, fun h => absurd rfl h⟩)
  · have h1 : tus (tkd B) ≠ 1 := by
      unfold tus
      split
      · decide
      · split
        · decide
        · decide
    rw [if_neg hf, hu, if_neg h1]
    split <;> exact Or.inl rfl
theorem thead_form (s : Ts) : Tfo (thead s).2 := by
  unfold thead
  split
  · exact tfo_nil
  · split
    · exact tfo_nil
    · split
      · exact tfo_nil
      · split
        · exact tfo_nil
        · exact topn_tbeg _ _ _ _ _ rfl
theorem tput_form (s : Ts) (x : Nat) (hx : x < 256) : Tfo (tput s x).2 := by
  unfold tput
  split
  · split
    · exact thead_form _
    · exact tfo_nil
  · split
    · unfold tdat tbt tcl
      simp only
      split
      · split
        · exact Or.inr (Or.inr ⟨_, rfl, by show x < 258; omega, fun _ => rfl⟩)
        · exact tfo_nil
      · split
        · exact Or.inr (Or.inl ⟨_, rfl, by show x < 258; omega, fun _ => rfl⟩)
        · exact tfo_nil
    · exact tfo_nil
/-- Names and parts out of events. -/
def po2 : List (List Nat) → List (List Nat) → List Evn → List (List Nat) × List (List Nat)
  | ns, ls, [] => (ns, ls)
  | ns, ls, e :: r => if e.1 = 256 then po2 (ns ++ [e.2]) (ls ++ [[]]) r else if e.1 = 257 then po2 ns ls r else po2 ns (ls.dropLast ++ [ls.getLastD [] ++ [e.1]]) r
def Gd2 : Bool → List Evn → Prop
  | _, [] => True
  | i, e :: r => if e.1 = 256 then Gd2 true r else if e.1 = 257 then Gd2 i r else i = true ∧ Gd2 i r
def nop : List Evn → Nat
  | [] => 0
  | e :: r => (if e.1 = 256 then 1 else 0) + nop r
def nbe : List Evn → Nat
  | [] => 0
  | e :: r => (if e.1 < 256 then 1 else 0) + nbe r
def evx (T : List Gev) : List Evn := T.map fun p => p.2
theorem evx_append (T U : List Gev) : evx (T ++ U) = evx T ++ evx U := by simp [evx]
theorem evx_evs (t : Nat) (E : List Evn) : evx (evs t E) = E := by simp only [evx, evs, List.map_map]; exact List.map_id E
theorem nop_append (a b : List Evn) : nop (a ++ b) = nop a + nop b := by
  induction a with
  | nil => simp [nop]
  | cons g r ih => simp only [List.cons_append, nop, ih]; omega
theorem nbe_append (a b : List Evn) : nbe (a ++ b) = nbe a + nbe b := by
  induction a with
  | nil => simp [nbe]
  | cons g r ih => simp only [List.cons_append, nbe, ih]; omega
theorem gd2_true : ∀ r : List Evn, Gd2 true r
  | [] => trivial
  | e :: r => by
    unfold Gd2
    split
    · exact gd2_true r
    · split
      · exact gd2_true r
      · exact ⟨rfl, gd2_true r⟩
theorem gd2_append : ∀ (i : Bool) (a b : List Evn), Gd2 i a → (Gd2 (i || decide (0 < nop a)) b) → Gd2 i (a ++ b)
  | i, [], b, _, h => by simpa [nop] using h
  | i, g :: a, b, h1, h2 => by
    unfold Gd2 at h1
    rw [List.cons_append]
    unfold Gd2
    split at h1
    · rename_i e; rw [if_pos e]; exact gd2_append true a b h1 (by simpa using gd2_true b)
    · rename_i e
      rw [if_neg e]
      have h2' : Gd2 (i || decide (0 < nop a)) b := by simpa [nop, e] using h2
      split at h1
      · rename_i e7; rw [if_pos e7]; exact gd2_append i a b h1 h2'
      · rename_i e7; rw [if_neg e7]; exact ⟨h1.1, gd2_append i a b h1.2 h2'⟩
/-- What holds of all that was told. -/
structure Rf (k : Nat) (s : Ts) (E : List Evn) : Prop where
  gd : Gd2 false E
  op : s.wh = 1 → s.us = 1 → 0 < nop E
  no : nop E ≤ k
  nb : nbe E ≤ k
  lt : ∀ e ∈ E, e.1 < 258
theorem tend_wh (s : Ts) : (tend s).wh = s.wh ∧ (tend s).us = s.us := ⟨rfl, rfl⟩
theorem tnx_wh1 {s : Ts} (h : (tnx s).wh = 1) : s.wh = 1 ∧ (tnx s).us = s.us := by
  unfold tnx at h ⊢
  split at h
  · exact absurd (show (0 : Nat) = 1 from h) (by decide)
  · rename_i q; rw [if_neg q]; exact ⟨h, rfl⟩
theorem tfo_counts {E : List Evn} (h : Tfo E) : nop E ≤ 1 ∧ nbe E ≤ 1 ∧ (∀ e ∈ E, e.1 < 258) ∧ nop E + nbe E ≤ 1 := by
  rcases h with rfl | ⟨e, rfl, h1, _⟩ | ⟨e, rfl, h1, _⟩
  · simp [nop, nbe]
  · refine ⟨?_, ?_, fun x hx => ?_, ?_⟩
    · simp only [nop]; split <;> omega
    · simp only [nbe]; split <;> omega
    · simp at hx; rw [hx]; exact h1
    · simp only [nop, nbe]; split <;> split <;> omega
  · refine ⟨?_, ?_, fun x hx => ?_, ?_⟩
    · simp only [nop]; simp; split <;> omega
    · simp only [nbe]; simp; split <;> omega
    · simp at hx; rcases hx with rfl | rfl
      · exact h1
      · decide
    · simp only [nop, nbe]; simp; split <;> split <;> omega
theorem tbeg_ev {us z : Nat} {s : Ts} (h : us ≠ 1) : (tbeg us z s).2 = [] := by
  unfold tbeg
  split
  · show tcl us = []; unfold tcl; rw [if_neg h]
  · rfl
theorem tbeg_us (us z : Nat) (s : Ts) : (tbeg us z s).1.us = us := by
  unfold tbeg
  split
  · rfl
  · rfl
theorem Rf.put {k x : Nat} {s : Ts} {E : List Evn} (h : Rf k s E) (hx : x < 256) : Rf (k + 1) (tput s x).1 (E ++ (tput s x).2) := by
  have hf := tput_form s x hx
  obtain ⟨c1, c2, c3, c4⟩ := tfo_counts hf
  have key : Gd2 (decide (0 < nop E)) (tput s x).2 ∧ ((tput s x).1.wh = 1 → (tput s x).1.us = 1 → 0 < nop E + nop (tput s x).2) := by
    unfold tput
    split
    · rename_i h0
      split
      · have hh : ∀ q : Ts, q.wh = 0 → Gd2 (decide (0 < nop E)) (thead q).2 ∧ ((thead q).1.wh = 1 → (thead q).1.us = 1 → 0 < nop (thead q).2) := by
          intro q hq
          unfold thead
          split
          · exact ⟨trivial, fun e => absurd (show (3 : Nat) = 1 from e) (by decide)⟩
          · split
            · exact ⟨trivial, fun e => absurd (hq.symm.trans e) (by decide)⟩
            · split
              · exact ⟨trivial, fun e => absurd (hq.symm.trans e) (by decide)⟩
              · split
                · exact ⟨trivial, fun e => absurd (hq.symm.trans e) (by decide)⟩
                · rename_i z _ _
                  unfold topn
                  by_cases hf : tisf (tkd q.B) = true
                  · rw [if_pos hf]
                    refine ⟨?_, fun _ _ => by simp [nop]; omega⟩
                    show Gd2 _ ((256, _) :: _)
                    unfold Gd2
                    rw [if_pos rfl]
                    exact gd2_true _
                  · have h1 : tus (tkd q.B) ≠ 1 := by
                      unfold tus
                      split
                      · decide
                      · split
                        · decide
                        · decide
                    rw [if_neg hf]
                    refine ⟨?_, fun _ e => absurd ((tbeg_us _ _ _).symm.trans e) h1⟩
                    show Gd2 _ ([] ++ (tbeg (tus (tkd q.B)) _ _).2)
                    rw [tbeg_ev h1]
                    trivial
        have := hh { s with B := s.B.set s.ps x, ps := 0 } h0
        refine ⟨this.1, fun e1 e2 => ?_⟩
        obtain ⟨q1, q2⟩ := tnx_wh1 e1
        have e2' : (thead { s with B := s.B.set s.ps x, ps := 0 }).1.us = 1 := by rw [← q2]; exact e2
        have := this.2 q1 e2'
        show 0 < nop E + nop (thead { s with B := s.B.set s.ps x, ps := 0 }).2
        omega
      · exact ⟨trivial, fun e => absurd (h0.symm.trans e) (by decide)⟩
    · split
      · rename_i h0 h1
        have hus : s.us = 1 → 0 < nop E := h.op h1
        refine ⟨?_, fun e1 e2 => ?_⟩
        · unfold tdat tbt tcl
          simp only
          by_cases hu : s.us = 1
          · rw [decide_eq_true (hus hu)]; exact gd2_true _
          · simp only [if_neg hu]
            split <;> trivial
        · obtain ⟨q1, q2⟩ := tnx_wh1 e1
          have e3 : (tdat x { s with ps := (s.ps + 1) % 512 }).1.us = 1 := by rw [← q2]; exact e2
          have : s.us = 1 := by
            unfold tdat at e3
            split at e3
            · rw [(tend_wh _).2] at e3
              have := (tkp_us x { s with ps := (s.ps + 1) % 512 }).1
              rw [← this]; exact e3
            · have := (tkp_us x { s with ps := (s.ps + 1) % 512 }).1
              rw [← this]; exact e3
          have := hus this
          omega
      · rename_i h0 h1
        refine ⟨trivial, fun e1 _ => ?_⟩
        exact absurd (tnx_wh1 e1).1 h1
  exact ⟨gd2_append false E _ h.gd (by simpa using key.1), fun a b => by rw [nop_append]; exact key.2 a b, by rw [nop_append]; have := h.no; omega, by rw [nbe_append]; have := h.nb; omega, fun e he => by
    rcases List.mem_append.1 he with q | q
    · exact h.lt e q
    · exact c3 e q⟩
theorem Mr.rf : ∀ {l : List Nat} {t k : Nat} {s s' : Ts} {T : List Gev} {E : List Evn}, Mr t s l s' T → Rf k s E → Oct l → Rf (k + l.length) s' (E ++ evx T)
  | [], t, k, s, s', T, E, h, r, _ => by obtain ⟨rfl, rfl⟩ := h; simpa [evx] using r
  | x :: l, t, k, s, s', T, E, ⟨_, s1, F, T1, h1, h2, h3⟩, r, ho => by
    have r1 := r.put (x := x) (ho x (by simp))
    rw [← h1.1, ← h1.2] at r1
    have := Mr.rf h2 r1 (fun y hy => ho y (List.mem_cons_of_mem _ hy))
    rw [h3, evx_append, evx_evs, ← List.append_assoc, List.length_cons, show k + (l.length + 1) = k + 1 + l.length by omega]
    exact this
theorem Rch.rf {b : List Nat} {k : Nat} {s : Ts} {T : List Gev} (h : Rch b k s T) (ho : Oct b) : Rf k s (evx T) := by
  have := h.2.rf (k := 0) (E := []) ⟨trivial, fun e => absurd (show (0 : Nat) = 1 from e) (by decide), Nat.le_refl _, Nat.le_refl _, fun e he => by cases he⟩ (ho.take k)
  rw [List.length_take, Nat.min_eq_left h.1, Nat.zero_add, List.nil_append] at this
  exact this
end Go.Proofs.YtcmmjbkgoafbnaaDoor

/-
  A header and its data through the machine. No walk.
-/
namespace Go.Proofs.YtcmmjbkgoafbnaaDoor
set_option linter.unusedVariables false
set_option linter.unusedSimpArgs false
/-- At a header's first byte, with what is to come. -/
structure Sd (c : Cm) (s : Ts) : Prop where
  wh : s.wh = 0
  ps : s.ps = 0
  why : s.why = 0
  bl : s.B.length = 512
  kl : s.K.length = 1024
  cm : (s.nm, s.sz) = c
theorem sd0 : Sd (none, none) t0 := ⟨rfl, rfl, rfl, List.length_replicate, List.length_replicate, rfl⟩
/-- What data tells. -/
def dte (us : Nat) (d : List Nat) : List Evn := if us = 1 then d.map (fun x => (x, [])) ++ [(257, [])] else []
theorem evx_bts (us : Nat) : ∀ (l : List Nat) (t : Nat), evx (bts us t l) = if us = 1 then l.map (fun x => (x, [])) else []
  | [], t => by unfold bts; split <;> rfl
  | x :: l, t => by
    rw [bts_cons, evx_append, evx_evs, evx_bts us l (t + 1)]
    unfold tbt
    split <;> rfl
theorem tfin_low {us : Nat} (h : ¬ 2 ≤ us) (a b : List Nat) (c : Cm) : tfin us a c = tfin us b c := by unfold tfin; rw [if_neg (by omega), if_neg (by omega), if_neg (by omega), if_neg (by omega)]
theorem fil_zero {L : Nat} (h : L % 512 = 0) : fil L = 0 := by unfold fil; rw [h]
theorem fil_more {L : Nat} (h : L % 512 ≠ 0) : L % 512 + fil L = 512 := by
  unfold fil
  have := Nat.mod_lt L (show 0 < 512 by decide)
  rw [Nat.mod_eq_of_lt (a := 512 - L % 512) (by omega)]
  omega
/-- Data, and the bytes behind it to its block's end. -/
theorem seg_data {d : List Nat} {t : Nat} {cc : Cm} {S : Ts} (h0 : S.why = 0) (h1 : S.wh = 1) (hd : d.length = S.lf) (hp : 0 < d.length) (hps : S.ps = 0) (hus : S.us ≤ 3) (hln : 2 ≤ S.us → S.ln = 0) (hK : 2 ≤ S.us → d.length ≤ 1024) (hb : S.B.length = 512) (hk : S.K.length = 1024) (hc : (S.nm, S.sz) = cc) (hf : (tfin S.us d cc).2 = 0) :
    ∃ s' T, Mr t S (wh512 d) s' T ∧ Sd (tfin S.us d cc).1 s' ∧ evx T = dte S.us d := by
  have hr := run_all (l := d) (t := t) h0 h1 hd hp (by omega) hus (fun h => by rw [hln h, ← hd, hk, Nat.zero_add]; exact hK h)
  have hkt : tfin S.us ((tdt d S).K.take (tdt d S).ln) cc = tfin S.us d cc := by
    by_cases h2 : 2 ≤ S.us
    · have hl := hln h2
      have e : tdt d S = { S with K := S.K.take S.ln ++ d ++ S.K.drop (S.ln + d.length), ln := S.ln + d.length, lf := S.lf - d.length, ps := (S.ps + d.length) % 512 } := by unfold tdt; rw [if_pos (by omega)]
      rw [e]
      show tfin S.us ((S.K.take S.ln ++ d ++ S.K.drop (S.ln + d.length)).take (S.ln + d.length)) cc = _
      rw [hl, List.take_zero, List.nil_append, Nat.zero_add, List.take_left]
    · exact tfin_low h2 _ _ _
  have hfld : (tdt d S).us = S.us ∧ (tdt d S).nm = S.nm ∧ (tdt d S).sz = S.sz ∧ (tdt d S).ps = d.length % 512 ∧ (tdt d S).B = S.B ∧ (tdt d S).K.length = 1024 := by
    unfold tdt
    split
    · refine ⟨rfl, rfl, rfl, ?_, rfl, ?_⟩
      · show (S.ps + d.length) % 512 = _; rw [hps, Nat.zero_add]
      · show (S.K.take S.ln ++ d ++ S.K.drop (S.ln + d.length)).length = 1024
        rename_i h2
        have hl := hln (by omega)
        have := hK (by omega)
        rw [hl, List.length_append, List.length_append, List.length_take, List.length_drop, hk]
        omega
    · exact ⟨rfl, rfl, rfl, by show (S.ps + d.length) % 512 = _; rw [hps, Nat.zero_add], rfl, hk⟩
  obtain ⟨f1, f2, f3, f4, f5, f6⟩ := hfld
  obtain ⟨S2, hS2⟩ : ∃ S2, tend { tdt d S with wh := 2 } = S2 := ⟨_, rfl⟩
  have g : S2.wh = 2 ∧ S2.ps = d.length % 512 ∧ S2.why = 0 ∧ S2.B.length = 512 ∧ S2.K.length = 1024 ∧ (S2.nm, S2.sz) = (tfin S.us d cc).1 := by
    rw [← hS2]
    refine ⟨rfl, f4, ?_, by show (tdt d S).B.length = 512; rw [f5]; exact hb, f6, ?_⟩
    · show (tfin (tdt d S).us ((tdt d S).K.take (tdt d S).ln) ((tdt d S).nm, (tdt d S).sz)).2 = 0
      rw [f1, f2, f3, hc, hkt]; exact hf
    · show ((tfin (tdt d S).us ((tdt d S).K.take (tdt d S).ln) ((tdt d S).nm, (tdt d S).sz)).1.1, (tfin (tdt d S).us ((tdt d S).K.take (tdt d S).ln) ((tdt d S).nm, (tdt d S).sz)).1.2) = _
      rw [f1, f2, f3, hc, hkt]
  rw [hS2] at hr
  have hev : evx (bts S.us t d ++ evs (t + d.length - 1) (tcl S.us)) = dte S.us d := by
    rw [evx_append, evx_evs, evx_bts]
    unfold dte tcl
    split <;> rfl
  obtain ⟨g1, g2, g3, g4, g5, g6⟩ := g
  by_cases hm : d.length % 512 = 0
  · have e : tnx S2 = { S2 with wh := 0 } := by unfold tnx; rw [if_pos ⟨g1, by rw [g2, hm]⟩]
    rw [e] at hr
    refine ⟨{ S2 with wh := 0 }, _, ?_, ⟨rfl, by show S2.ps = 0; rw [g2, hm], g3, g4, g5, g6⟩, hev⟩
    unfold wh512
    rw [fil_zero hm, List.replicate_zero, List.append_nil]
    exact hr
  · have e : tnx S2 = S2 := by unfold tnx; rw [if_neg (by rw [g2]; omega)]
    rw [e] at hr
    have hr2 := run_rest (l := List.replicate (fil d.length) 0) (t := t + d.length) (s := S2) g3 g1 (by omega) (by rw [List.length_replicate, g2]; exact fil_more hm) (by rw [g2]; exact Nat.mod_lt _ (by decide))
    refine ⟨{ S2 with ps := 0, wh := 0 }, _, (mr_append _ _ _ _ _ _).2 ⟨_, _, _, hr, hr2, rfl⟩, ⟨rfl, rfl, g3, g4, g5, g6⟩, by rw [List.append_nil]; exact hev⟩
theorem tus_own {k : Nat} (h : 2 ≤ tus k) : (town k || tus k == 0) = false := by
  unfold tus at h ⊢
  by_cases h1 : k = 76
  · subst h1; decide
  · by_cases h2 : k = 120
    · subst h2; decide
    · rw [if_neg h1, if_neg h2] at h
      split at h <;> omega
theorem thead_of {s : Ts} {z k : Nat} (h1 : noughts s.B = false) (h2 : rgt s.B = true) (h3 : fld ((s.B.drop 124).take 12) = some z) (h4 : tkd s.B = k) (h5 : tmuch k z = false) :
    thead s = ((tbeg (tus k) (tsz k z s.sz) { s with ln := if town k || tus k == 0 then s.ln else 0, nm := (tcm k (s.nm, s.sz)).1, sz := (tcm k (s.nm, s.sz)).2 }).1, topn s.B s.nm ++ (tbeg (tus k) (tsz k z s.sz) s).2) := by
  unfold thead
  rw [if_neg (by rw [h1]; decide), if_neg (by rw [h2]; decide), h3]
  simp only [h4, h5, Bool.false_eq_true, if_false]
/-- A header that is written, and its data. -/
theorem seg {n d : List Nat} {z k t : Nat} {c : Cm} {s : Ts} (h : Sd c s) (hn : Oct n) (hk : k < 256) (hz : z < 8589934592) (hm : tmuch k z = false) (hd : d.length = tsz k z c.2) (hK : 2 ≤ tus k → d.length ≤ 1024) (hf : (tfin (tus k) d (tcm k c)).2 = 0) :
    ∃ s' T, Mr t s (hdr n z k ++ wh512 d) s' T ∧ Sd (tfin (tus k) d (tcm k c)).1 s' ∧ evx T = topn (hdr n z k) c.1 ++ dte (tus k) d := by
  have hb := run_block (h := hdr n z k) (t := t) (s := s) h.why h.wh h.ps h.bl (hdr_len _ _ _)
  obtain ⟨cn, cz⟩ := c
  obtain ⟨hc1, hc2⟩ : s.nm = cn ∧ s.sz = cz := by have := h.cm; simpa using this
  have ht : thead { s with B := hdr n z k, ps := 0 } = ((tbeg (tus k) (tsz k z cz) { s with B := hdr n z k, ps := 0, ln := if town k || tus k == 0 then s.ln else 0, nm := (tcm k (cn, cz)).1, sz := (tcm k (cn, cz)).2 }).1, topn (hdr n z k) cn ++ (tbeg (tus k) (tsz k z cz) { s with B := hdr n z k, ps := 0 }).2) := by
    refine (thead_of (s := { s with B := hdr n z k, ps := 0 }) (hdr_some n z k) (hdr_rgt hn hk) (hdr_fld hz) (hdr_kind n z k) hm).trans ?_
    show ((tbeg (tus k) (tsz k z s.sz) { s with B := hdr n z k, ps := 0, ln := if town k || tus k == 0 then s.ln else 0, nm := (tcm k (s.nm, s.sz)).1, sz := (tcm k (s.nm, s.sz)).2 }).1, topn (hdr n z k) s.nm ++ (tbeg (tus k) (tsz k z s.sz) { s with B := hdr n z k, ps := 0 }).2) = _
    rw [hc1, hc2]
  rw [ht] at hb
  obtain ⟨S1, hS1⟩ : ∃ S1 : Ts, { s with B := hdr n z k, ps := 0, ln := if town k || tus k == 0 then s.ln else 0, nm := (tcm k (cn, cz)).1, sz := (tcm k (cn, cz)).2 } = S1 := ⟨_, rfl⟩
  have g : S1.wh = 0 ∧ S1.ps = 0 ∧ S1.why = 0 ∧ S1.B.length = 512 ∧ S1.K.length = 1024 ∧ (S1.nm, S1.sz) = tcm k (cn, cz) ∧ (2 ≤ tus k → S1.ln = 0) := by
    rw [← hS1]
    refine ⟨h.wh, rfl, h.why, hdr_len _ _ _, h.kl, rfl, fun h2 => ?_⟩
    show (if town k || tus k == 0 then s.ln else 0) = 0
    rw [tus_own h2]; rfl
  rw [hS1] at hb
  obtain ⟨g1, g2, g3, g4, g5, g6, g7⟩ := g
  simp only at hd
  by_cases hz0 : tsz k z cz = 0
  · have hdn : d = [] := List.eq_nil_of_length_eq_zero (by omega)
    subst hdn
    have e1 : ∀ S, tbeg (tus k) (tsz k z cz) S = (tend { S with us := tus k, lf := tsz k z cz }, tcl (tus k)) := fun S => by unfold tbeg; rw [if_pos hz0]
    rw [e1, e1] at hb
    have hkt : tfin (tus k) (S1.K.take S1.ln) (tcm k (cn, cz)) = tfin (tus k) [] (tcm k (cn, cz)) := by
      by_cases h2 : 2 ≤ tus k
      · rw [g7 h2, List.take_zero]
      · exact tfin_low h2 _ _ _
    have hw : tnx (tend { S1 with us := tus k, lf := tsz k z cz }) = tend { S1 with us := tus k, lf := tsz k z cz } := by
      unfold tnx
      rw [if_neg (fun q => by have q1 : S1.wh = 2 := q.1; omega)]
    refine ⟨_, _, by show Mr t s (hdr n z k ++ []) _ _; rw [List.append_nil]; exact hb, ?_, ?_⟩
    · show Sd _ (tnx (tend { S1 with us := tus k, lf := tsz k z cz }))
      rw [hw]
      refine ⟨g1, g2, ?_, g4, g5, ?_⟩
      · show (tfin (tus k) (S1.K.take S1.ln) (S1.nm, S1.sz)).2 = 0
        rw [g6, hkt]; exact hf
      · show ((tfin (tus k) (S1.K.take S1.ln) (S1.nm, S1.sz)).1.1, (tfin (tus k) (S1.K.take S1.ln) (S1.nm, S1.sz)).1.2) = _
        rw [g6, hkt]
    · rw [evx_evs]
      show topn (hdr n z k) cn ++ tcl (tus k) = _
      unfold tcl dte
      split <;> rfl
  · have e1 : ∀ S, tbeg (tus k) (tsz k z cz) S = ({ S with us := tus k, lf := tsz k z cz, wh := 1 }, []) := fun S => by unfold tbeg; rw [if_neg hz0]
    rw [e1, e1] at hb
    rw [tnx_wh (s := ({ S1 with us := tus k, lf := tsz k z cz, wh := 1 } : Ts)) rfl, List.append_nil] at hb
    obtain ⟨s', T, q1, q2, q3⟩ := seg_data (d := d) (t := t + 512) (cc := tcm k (cn, cz)) (S := { S1 with us := tus k, lf := tsz k z cz, wh := 1 }) g3 rfl hd (by omega) g2 (tus_le k) g7 hK g4 g5 g6 hf
    refine ⟨s', _, (mr_append _ _ _ _ _ _).2 ⟨_, _, _, hb, by rw [hdr_len]; exact q1, rfl⟩, q2, ?_⟩
    rw [evx_append, evx_evs, q3]
end Go.Proofs.YtcmmjbkgoafbnaaDoor

/-
  A list of bytes of the call's own that a conversion may have laid: appends to it.
-/
namespace Go.Proofs.YtcmmjbkgoafbnaaDoor
open Go.RowKit
set_option linter.unusedVariables false
/-- Cells of a row, none of them frozen, are written. -/
theorem store_m (P : Program) (g o : Nat) (t : TypeId) (fz : Nat × Nat) : ∀ (vs : List Value) (i : Nat) (cur : Array Value) (w : World), w.heap[g]? = some (.cells cur t fz) → (fz.2 = 0 ∨ cur.size ≤ fz.1) → o + i + vs.length ≤ cur.size → (∀ v ∈ vs, v.oneCell' = true) →
    (storeCells ⟨g, o, none⟩ vs i).run P w = .ok () (w.setRow g (cur.toList.take (o + i) ++ vs ++ cur.toList.drop (o + i + vs.length)).toArray)
  | [], i, cur, w, hg, _, _, _ => by
    simp only [storeCells, List.append_nil, List.length_nil, Nat.add_zero, List.take_append_drop, Array.toArray_toList]
    rw [setRow_self w g cur t fz hg]
    rfl
  | v :: rest, i, cur, w, hg, hfz, hl, h1 => by
    have hi : o + i < cur.size := by simp at hl; omega
    have hadd : (⟨g, o, none⟩ : Addr).add i = ⟨g, o + i, none⟩ := addr_add g o i
    have hcell : w.cell? ⟨g, o + i, none⟩ = some cur[o + i] := by simp [World.cell?, hg, hi]
    have hfro : w.frozen? ⟨g, o + i, none⟩ = false := by
      obtain ⟨lo, hi'⟩ := fz
      simp only [World.frozen?, hg, Bool.and_eq_false_iff, decide_eq_false_iff_not]
      simp only at hfz
      omega
    have hst : (store ((⟨g, o, none⟩ : Addr).add i) v).run P w = .ok () (w.setRow g (cur.setIfInBounds (o + i) v)) := by
      rw [hadd, run_store P w _ v _ (h1 v (by simp)), hcell]
      simp [hfro, setCell_eq_setRow w g (o + i) cur t fz v hg]
    have ih := store_m P g o t fz rest (i + 1) (cur.setIfInBounds (o + i) v) (w.setRow g (cur.setIfInBounds (o + i) v)) (setRow_heap w g cur _ t _ hg) (by simpa using hfz) (by simp at hl ⊢; omega) (fun x hx => h1 x (by simp [hx]))
    simp only [storeCells, Sem.run_bind, hst, Result.andThen_ok, ih, setRow_setRow]
    congr 3
    have e := list_seg_step cur.toList (o + i) v rest (by simp at hl ⊢; omega)
    simpa [Array.toList_setIfInBounds, Nat.add_assoc] using e
/-- Bytes of the call's own, in a row that may bear a conversion's mark. -/
structure Om (w : World) (lo : Nat) (v : Value) (n : Nat) (l : List Nat) : Prop where
  ex : ∃ g cap cur fz, v = .slice (some ⟨g, 0, none⟩) n cap ∧ lo ≤ g ∧ w.heap[g]? = some (.cells cur 5 fz) ∧ (fz.2 = 0 ∨ cur.size ≤ fz.1) ∧ n ≤ cap ∧ cap ≤ maxLen ∧ cur.size = cap ∧ cur.toList.take n = ob l
  len : l.length = n
  le : lo ≤ w.heap.size
theorem Om.below {w u : World} {lo n C : Nat} {v : Value} {l : List Nat} (h : Om w lo v n l) (k : Below C w u) (hC : w.heap.size ≤ C) : Om u lo v n l := by
  obtain ⟨g, cap, cur, fz, h1, h2, h3, h4⟩ := h.ex
  have hlt : g < w.heap.size := (Array.getElem?_eq_some_iff.1 h3).1
  exact ⟨⟨g, cap, cur, fz, h1, h2, by rw [k.block g (by omega)]; exact h3, h4⟩, h.len, Nat.le_trans h.le k.size⟩
theorem Om.lies {w : World} {lo n : Nat} {v : Value} {l : List Nat} (h : Om w lo v n l) : ∃ a c, v = .slice a n c ∧ Lies w a l := by
  obtain ⟨g, cap, cur, fz, h1, h2, h3, h4, h5, h6, h7, h8⟩ := h.ex
  refine ⟨_, cap, h1, Or.inr ⟨g, 0, rfl, fun i x hx => ?_⟩⟩
  rw [Nat.zero_add]
  have hi := (List.getElem?_eq_some_iff.1 hx).1
  have e : (cur.toList.take n)[i]? = some (.int .u8 (x : Int)) := by rw [h8, ob_get, hx]; rfl
  rw [List.getElem?_take, if_pos (by rw [← h.len]; exact hi)] at e
  simp [World.cell?, h3]
  simpa using e
theorem bytes_om {l : List Nat} (ho : Oct l) (hl : l.length ≤ 140737488355328) (w : World) : ∃ w1 a c, (convert 9 22 (.string (st l))).run Tryd.prog w = .ok (.slice a l.length c) w1 ∧ Om w1 w.heap.size (.slice a l.length c) l.length l ∧ Below w.heap.size w w1 := by
  have h := run_bytes_of_string (P := Tryd.prog) w 9 22 5 (st l) Tryd.underlying9 Tryd.underlying22 Tryd.underlying5
  have hge := grownCap_ge w (st l).size 0 5
  have hle := grownCap_le_maxLen w (st l).size 0 5 (by rw [st_size]; unfold maxLen; omega)
  rw [st_size] at h hge hle
  generalize grownCap w l.length 0 5 = c at h hge hle
  have hsz : (bytesRow (st l) c).size = c := by
    have h1 : (st l).data.size = l.length := st_size l
    simp only [bytesRow, Array.size_append, Array.size_map, Array.size_replicate, st_size, h1]
    omega
  refine ⟨_, _, c, h, ⟨⟨w.heap.size, c, bytesRow (st l) c, (c, c + 1), rfl, Nat.le_refl _, ?_, Or.inr (by omega), hge, hle, hsz, ?_⟩, rfl, ?_⟩, ?_⟩
  · rw [hsz]
    show (w.heap.push _)[_]? = _
    simp
  · have e : (st l).data.toList = l.map UInt8.ofNat := rfl
    simp only [bytesRow, Array.toList_append, Array.toList_map, Array.toList_replicate, e, List.map_map]
    have hl : l.length = (l.map ((fun b : UInt8 => Value.int .u8 (b.toNat : Int)) ∘ UInt8.ofNat)).length := by simp
    rw [hl, List.take_left]
    refine List.map_congr_left fun x hx => ?_
    have := ho x hx
    simp
    omega
  · simp
  · exact (Below.drewN2 (Below.refl _ w) 1).alloc (Nat.le_refl _) _
/-- What an append comes to. -/
structure Gom (lo : Nat) (w w' : World) (v' : Value) (n : Nat) (l : List Nat) : Prop where
  om : Om w' lo v' n l
  bel : Below lo w w'
  kp : ∀ k, k < w.heap.size → w'.heap[k]? = w.heap[k]? ∨ (∃ cs fz, w.heap[k]? = some (.cells cs 5 fz))
theorem Cells.gom {lo n b : Nat} {t : TypeId} {w w' : World} {v' : Value} {l : List Nat} {cs : Array Value} (h : Cells w b cs t) (k : Gom lo w w' v' n l) (ht : t ≠ 5) : Cells w' b cs t := by
  unfold Cells at *
  have hlt : b < w.heap.size := (Array.getElem?_eq_some_iff.1 h).1
  rcases k.kp b hlt with e1 | ⟨cs', fz, e1⟩
  · rw [e1]; exact h
  · rw [h] at e1; cases e1; exact absurd rfl ht
theorem Gom.ofRoom {lo g n cap m : Nat} {w : World} {cur : Array Value} {fz : Nat × Nat} {l x : List Nat} (hg : w.heap[g]? = some (.cells cur 5 fz)) (hlo : lo ≤ g) (hfz : fz.2 = 0 ∨ cur.size ≤ fz.1) (hcm : cap ≤ maxLen) (hcs : cur.size = cap) (ht : cur.toList.take n = ob l) (hl : l.length = n) (hx : x.length = m) (hroom : n + m ≤ cap) (hle : lo ≤ w.heap.size) :
    Gom lo w (w.setRow g (cur.toList.take n ++ ob x ++ cur.toList.drop (n + m)).toArray) (.slice (some ⟨g, 0, none⟩) (n + m) cap) (n + m) (l ++ x) := by
  have hxo : (ob x).length = m := by rw [ob_length]; exact hx
  refine ⟨⟨⟨g, cap, _, fz, rfl, hlo, setRow_heap w g cur _ 5 _ hg, ?_, hroom, hcm, ?_, ?_⟩, by rw [List.length_append, hl, hx], by simpa using hle⟩, ?_, fun k hk => ?_⟩
  · simp only [List.size_toArray, List.length_append, List.length_take, List.length_drop, Array.length_toList, hxo]
    omega
  · simp only [List.size_toArray, List.length_append, List.length_take, List.length_drop, Array.length_toList, hxo]
    omega
  · rw [ht]
    have e : n + m = (ob l ++ ob x).length := by rw [List.length_append, ob_length, hl, hxo]
    rw [e, List.take_left, ob_append]
  · exact below_setRow (Below.refl lo w) hlo _
  · by_cases e : k = g
    · subst e; exact Or.inr ⟨_, _, hg⟩
    · exact Or.inl (setRow_other w g k _ e)
section
variable (w : World) {o : Oper} {a : Act}
theorem wpList_om1 {ops : Array Oper} {rest : List Oper} {Q : Exit → Act → World → Prop} (hgd : o.guard = none) (s x : Operand)
    (ho : o.op = .call { callee := .builtin .append, args := #[s, x], argTypes := #[22, 22] }) (lo : Nat) (v : Value) (n : Nat) (l : List Nat) (hs : a.eval s = v) (hown : Om w lo v n l)
    (H y c : Nat) (hx : a.eval x = .slice (some ⟨H, 0, none⟩) 1 c) (hc : w.cell? ⟨H, 0, none⟩ = some (.int .u8 (y : Int))) (hlen : n + 1 ≤ 140737488355328)
    (h : ∀ va c w', Gom lo w w' (.slice va (n + 1) c) (n + 1) (l ++ [y]) → wpList Tryd.prog ops Q rest (a.put o.dst (.slice va (n + 1) c)) w') : wpList Tryd.prog ops Q (o :: rest) a w := by
  obtain ⟨i, hi, hz0, hz1, hz2⟩ := ginfo_parts ginfo5
  obtain ⟨g, cap, cur, fz, rfl, hlo, hg, hfz, hnc, hcm, hcs, ht⟩ := hown.ex
  have hnews : ∀ (j : Nat) u, (ob [y])[j]? = some u → w.cell? ((⟨H, 0, none⟩ : Addr).add j) = some u := fun j u hj => by
    cases j with
    | zero => simp [ob] at hj; rw [← hj, addr_add]; exact hc
    | succ j => simp [ob] at hj
  have hr : ∃ va cp w', (Builtin.append_ #[22, 22] o.type #[.slice (some ⟨g, 0, none⟩) n cap, .slice (some ⟨H, 0, none⟩) 1 c]).run Tryd.prog w = .ok (.slice va (n + 1) cp) w' ∧ Gom lo w w' (.slice va (n + 1) cp) (n + 1) (l ++ [y]) := by
    by_cases hroom : n + 1 ≤ cap
    · have hf := run_firstCells_some (P := Tryd.prog) w i.size 1 ⟨H, 0, none⟩ 1 c (ob [y]) (by rw [hz1]; rfl) hnews
      have hst := store_m Tryd.prog g n 5 fz (ob [y]) 0 cur w hg hfz (by rw [ob_length]; simp; omega) ob_one
      simp only [Nat.add_zero, ob_length, List.length_singleton] at hst
      have hgm := Gom.ofRoom (x := [y]) (m := 1) hg hlo hfz hcm hcs ht hown.len rfl hroom hown.le
      refine ⟨_, cap, _, ?_, hgm⟩
      simp [Builtin.append_, run_underlying Tryd.underlying22, sizeOf, typeInfo, hi, hz1, Builtin.lenOf, hroom, Addr.add_lit]
      rw [hz1] at hf
      rw [hf]
      simp [hst]
    · have holds : ∀ (j : Nat) u, (ob l)[j]? = some u → w.cell? ((⟨g, 0, none⟩ : Addr).add j) = some u := fun j u hj => by
        rw [addr_add, Nat.zero_add]
        have hj' : j < n := by have := (List.getElem?_eq_some_iff.1 hj).1; rw [ob_length, hown.len] at this; exact this
        rw [← ht, List.getElem?_take, if_pos hj'] at hj
        simp [World.cell?, hg]
        simpa using hj
      have hr := run_append_grow (P := Tryd.prog) w 22 o.type 5 i (.int .u8 0) Tryd.underlying22 hi hz0 ⟨g, 0, none⟩ n cap (ob l) (by rw [ob_length, hz1, hown.len]; omega) holds ⟨H, 0, none⟩ 1 c (ob [y]) (by rw [hz1]; rfl) hnews (by omega) (by omega) (by rw [hz2]; exact growslice_fits (by omega) (by omega))
      have hge := grownCap_ge w (n + 1) cap 5
      have hcm2 : grownCap w (n + 1) cap 5 ≤ maxLen := grownCap_le_maxLen w (n + 1) cap 5 (by unfold maxLen; omega)
      refine ⟨_, _, _, hr, ⟨⟨w.heap.size, _, _, (0, 0), rfl, hown.le, heap_alloc_new w.drew _, Or.inl rfl, hge, hcm2, ?_, ?_⟩, by rw [List.length_append, hown.len]; rfl, by simp; have := hown.le; omega⟩, (Below.drewN2 (Below.refl lo w) 1).alloc hown.le _, fun k hk => Or.inl (Below.heap_alloc w.drew _ k hk)⟩
      · have hzz : (Value.int IntKind.u8 0).cells.size = 1 := rfl
        simp only [Array.size_append, List.size_toArray, size_zeroCells, hzz, ob_length, hown.len, List.length_singleton]
        omega
      · simp only [Array.toList_append, List.append_assoc]
        rw [← List.append_assoc]
        have e : n + 1 = (ob l ++ ob [y]).length := by rw [List.length_append, ob_length, ob_length, hown.len]; rfl
        conv => lhs; rw [e]
        rw [List.take_left, ob_append]
  obtain ⟨va, cp, w', hr, hgm⟩ := hr
  refine wpList_plain hgd fun K hK => ?_
  unfold Oper.wp execOp
  simp only [ho, resolve, invoke, builtin, Sem.run_bind, Sem.run_pure, Result.andThen_ok, List.map_toArray, List.map_cons, List.map_nil, hs, hx, hr]
  exact hK _ _ (h va cp w' hgm)
theorem wpList_oms {ops : Array Oper} {rest : List Oper} {Q : Exit → Act → World → Prop} (hgd : o.guard = none) (s x : Operand)
    (ho : o.op = .call { callee := .builtin .append, args := #[s, x], argTypes := #[22, 9] }) (lo : Nat) (v : Value) (n : Nat) (l : List Nat) (hs : a.eval s = v) (hown : Om w lo v n l)
    (m : List Nat) (M : Nat) (u : ByteArray) (hu : u = st m) (hM : m.length = M) (hm : Oct m) (hx : a.eval x = .string u) (hlen : n + M ≤ 140737488355328)
    (h : ∀ va c w', Gom lo w w' (.slice va (n + M) c) (n + M) (l ++ m) → wpList Tryd.prog ops Q rest (a.put o.dst (.slice va (n + M) c)) w') : wpList Tryd.prog ops Q (o :: rest) a w := by
  subst hu
  subst hM
  obtain ⟨i, hi, hz0, hz1, hz2⟩ := ginfo_parts ginfo5
  obtain ⟨g, cap, cur, fz, rfl, hlo, hg, hfz, hnc, hcm, hcs, ht⟩ := hown.ex
  have hsz : (st m).size = m.length := st_size m
  have hr : ∃ va cp w', (Builtin.append_ #[22, 9] o.type #[.slice (some ⟨g, 0, none⟩) n cap, .string (st m)]).run Tryd.prog w = .ok (.slice va (n + m.length) cp) w' ∧ Gom lo w w' (.slice va (n + m.length) cp) (n + m.length) (l ++ m) := by
    by_cases hroom : n + m.length ≤ cap
    · have hf := Lib.run_firstCells_string (P := Tryd.prog) w 1 (st m)
      have hst := store_m Tryd.prog g n 5 fz (ob m) 0 cur w hg hfz (by rw [ob_length]; simp; omega) ob_one
      simp only [Nat.add_zero, ob_length] at hst
      have hgm := Gom.ofRoom (x := m) (m := m.length) hg hlo hfz hcm hcs ht hown.len rfl hroom hown.le
      refine ⟨_, cap, _, ?_, hgm⟩
      rw [strCells_st hm] at hf
      simp [Builtin.append_, run_underlying Tryd.underlying22, run_underlying Tryd.underlying9, sizeOf, typeInfo, hi, hz1, Builtin.lenOf, hsz, hroom, Addr.add_lit]
      rw [hsz] at hf
      rw [hf]
      simp [hst]
    · have holds : ∀ (j : Nat) u, (ob l)[j]? = some u → w.cell? ((⟨g, 0, none⟩ : Addr).add j) = some u := fun j u hj => by
        rw [addr_add, Nat.zero_add]
        have hj' : j < n := by have := (List.getElem?_eq_some_iff.1 hj).1; rw [ob_length, hown.len] at this; exact this
        rw [← ht, List.getElem?_take, if_pos hj'] at hj
        simp [World.cell?, hg]
        simpa using hj
      have hr := Lib.run_append_grow_string (P := Tryd.prog) w 22 9 o.type 5 i (.int .u8 0) Tryd.underlying22 Tryd.underlying9 hi hz0 ⟨g, 0, none⟩ n cap (ob l) (by rw [ob_length, hz1, hown.len]; omega) holds (st m) (by omega) (by omega) (by rw [hz2, hsz]; exact growslice_fits (by omega) (by omega))
      rw [hsz, strCells_st hm] at hr
      have hge := grownCap_ge w (n + m.length) cap 5
      have hcm2 : grownCap w (n + m.length) cap 5 ≤ maxLen := grownCap_le_maxLen w (n + m.length) cap 5 (by unfold maxLen; omega)
      refine ⟨_, _, _, hr, ⟨⟨w.heap.size, _, _, (0, 0), rfl, hown.le, heap_alloc_new w.drew _, Or.inl rfl, hge, hcm2, ?_, ?_⟩, by rw [List.length_append, hown.len], by simp; have := hown.le; omega⟩, (Below.drewN2 (Below.refl lo w) 1).alloc hown.le _, fun k hk => Or.inl (Below.heap_alloc w.drew _ k hk)⟩
      · have hzz : (Value.int IntKind.u8 0).cells.size = 1 := rfl
        simp only [Array.size_append, List.size_toArray, size_zeroCells, hzz, ob_length, hown.len]
        omega
      · simp only [Array.toList_append, List.append_assoc]
        rw [← List.append_assoc]
        have e : n + m.length = (ob l ++ ob m).length := by rw [List.length_append, ob_length, ob_length, hown.len]
        conv => lhs; rw [e]
        rw [List.take_left, ob_append]
  obtain ⟨va, cp, w', hr, hgm⟩ := hr
  refine wpList_plain hgd fun K hK => ?_
  unfold Oper.wp execOp
  simp only [ho, resolve, invoke, builtin, Sem.run_bind, Sem.run_pure, Result.andThen_ok, List.map_toArray, List.map_cons, List.map_nil, hs, hx, hr]
  exact hK _ _ (h va cp w' hgm)
end
end Go.Proofs.YtcmmjbkgoafbnaaDoor

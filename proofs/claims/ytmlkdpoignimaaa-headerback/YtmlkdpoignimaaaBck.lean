/-
  Fields that are written, a line each or broken ahead of blanks, and the run over what was written. No walk.
-/
import Derived.Test.YtmlkdpoignimaaaMrk
import Derived.Test.YtmlkdpoignimaaaTxu
namespace Go.Proofs.Ytmlkdpoignimaaa
set_option linter.unusedVariables false
/-- No line's end in it. -/
def Cln (l : List Nat) : Prop := ∀ x ∈ l, x ≠ 10 ∧ x ≠ 13
theorem Cln.append {l m : List Nat} (h : Cln l) (k : Cln m) : Cln (l ++ m) := by
  intro x hx
  rcases List.mem_append.1 hx with h1 | h1
  · exact h x h1
  · exact k x h1
theorem Cln.take {l : List Nat} (h : Cln l) (k : Nat) : Cln (l.take k) := fun x hx => h x (List.mem_of_mem_take hx)
theorem Cln.drop {l : List Nat} (h : Cln l) (k : Nat) : Cln (l.drop k) := fun x hx => h x (List.mem_of_mem_drop hx)
theorem Cln.trm {l : List Nat} (h : Cln l) : Cln (trm l) := (h.drop _).take _
theorem Cln.d13 {l : List Nat} (h : Cln l) : d13 l = l := by
  unfold Ytmlkdpoignimaaa.d13
  split
  · rename_i e
    exact absurd rfl (h 13 (List.mem_of_getLast? e)).2
  · rfl
/-- A line's end. -/
def Eol (e : List Nat) : Prop := e = [13, 10] ∨ e = [10]
theorem rn_clean (most : Nat) (F : List Fd) (r : List Nat) : ∀ (y : List Nat) (K : Nat) (c : List Nat), Cln y → K + y.length ≤ most → rn most K F c (y ++ r) = rn most (K + y.length) F (c ++ y) r
  | [], K, c => fun _ _ => by simp
  | b :: y, K, c => fun hc hk => by
    simp only [List.length_cons] at hk
    rw [List.cons_append, rn, if_neg (by omega), if_neg (hc b (by simp)).1, rn_clean most F r y (K + 1) (c ++ [b]) (fun x hx => hc x (by simp [hx])) (by omega)]
    simp only [List.length_cons, List.append_assoc, List.singleton_append]
    rw [show K + 1 + y.length = K + (y.length + 1) by omega]
theorem rn_eol {most K : Nat} {F F' : List Fd} {c e r : List Nat} (he : Eol e) (hc : Cln c) (hn : c ≠ []) (hl : lin F c = (0, F')) (hk : K + e.length ≤ most) : rn most K F c (e ++ r) = rn most (K + e.length) F' [] r := by
  rcases he with rfl | rfl
  · simp only [List.length_cons, List.length_nil] at hk
    have d : Ytmlkdpoignimaaa.d13 (c ++ [13]) = c := by simp [Ytmlkdpoignimaaa.d13]
    show rn most K F c (13 :: 10 :: r) = _
    rw [rn, if_neg (by omega), if_neg (by decide), rn, if_neg (by omega), if_pos rfl, d, if_neg hn, hl, if_pos rfl]
    rfl
  · simp only [List.length_cons, List.length_nil] at hk
    show rn most K F c (10 :: r) = _
    rw [rn, if_neg (by omega), if_pos rfl, hc.d13, if_neg hn, hl, if_pos rfl]
    rfl
theorem rn_over {most K : Nat} {F : List Fd} {e r : List Nat} (he : Eol e) (hk : K + e.length ≤ most) : rn most K F [] (e ++ r) = ⟨F, 0, K + e.length - 1⟩ := by
  rcases he with rfl | rfl
  · simp only [List.length_cons, List.length_nil] at hk
    show rn most K F [] (13 :: 10 :: r) = _
    rw [rn, if_neg (by omega), if_neg (by decide), rn, if_neg (by omega), if_pos rfl, if_pos (by rfl)]
    rfl
  · simp only [List.length_cons, List.length_nil] at hk
    show rn most K F [] (10 :: r) = _
    rw [rn, if_neg (by omega), if_pos rfl, if_pos (by rfl)]
    rfl
/-- Within a line: whatever stands behind in it goes to the field's value. -/
def Mid (F : List Fd) (c : List Nat) (F0 : List Fd) (N q : List Nat) : Prop := c ≠ [] ∧ Cln c ∧ ∀ y, lin F (c ++ y) = (0, F0 ++ [(N, q ++ y)])
theorem Mid.more {F F0 : List Fd} {c N q : List Nat} (h : Mid F c F0 N q) {y : List Nat} (hy : Cln y) : Mid F (c ++ y) F0 N (q ++ y) :=
  ⟨by have := h.1; simp [this], h.2.1.append hy, fun z => by rw [List.append_assoc, h.2.2, List.append_assoc]⟩
theorem Mid.line {F F0 : List Fd} {c N q : List Nat} (h : Mid F c F0 N q) : lin F c = (0, F0 ++ [(N, q)]) := by
  have := h.2.2 []
  rw [List.append_nil, List.append_nil] at this
  exact this
theorem Mid.on {F0 : List Fd} {N q : List Nat} {x : Nat} (hx : isB x = true) (hc : x ≠ 10 ∧ x ≠ 13) : Mid (F0 ++ [(N, q)]) [x] F0 N (q ++ [x]) := by
  refine ⟨by simp, fun z hz => by simp at hz; rw [hz]; exact hc, fun y => ?_⟩
  unfold lin
  rw [if_pos (by simpa using hx)]
  simp
/-- Does a line's end stand ahead of byte k. -/
def cutAt (V : List Nat) (k : Nat) : Bool := decide (0 < k) && isB (V.getD k 0) && !isB (V.getD (k - 1) 0)
/-- A value's first k bytes, broken. -/
def bro (e V : List Nat) : Nat → List Nat
  | 0 => []
  | k + 1 => bro e V k ++ (if cutAt V k then e else []) ++ [V.getD k 0]
theorem bro_len {e V : List Nat} (he : Eol e) : ∀ k, (bro e V k).length ≤ 3 * k
  | 0 => by simp [bro]
  | k + 1 => by
    have := bro_len (V := V) he k
    have h2 : e.length ≤ 2 := by rcases he with rfl | rfl <;> simp
    rw [bro]
    split <;> simp <;> omega
theorem rn_bro {most K : Nat} {F F0 : List Fd} {c e V N q : List Nat} (he : Eol e) (hV : Cln V) (h : Mid F c F0 N q) : ∀ k, k ≤ V.length → K + (bro e V k).length ≤ most → ∃ F' c', Mid F' c' F0 N (q ++ V.take k) ∧ ∀ r, rn most K F c (bro e V k ++ r) = rn most (K + (bro e V k).length) F' c' r
  | 0 => fun _ _ => ⟨F, c, by simpa using h, fun r => by simp [bro]⟩
  | k + 1 => fun hk hm => by
    have hl : (bro e V (k + 1)).length = (bro e V k).length + (if cutAt V k then e else []).length + 1 := by rw [bro]; simp; omega
    obtain ⟨F', c', h1, h2⟩ := rn_bro (most := most) (K := K) he hV h k (by omega) (by omega)
    obtain ⟨x, hx⟩ : ∃ x, V[k]? = some x := ⟨_, List.getElem?_eq_getElem (by omega)⟩
    have hg : V.getD k 0 = x := by rw [List.getD_eq_getElem?_getD, hx]; rfl
    have hxc := hV x (List.mem_of_getElem? hx)
    have ht : V.take (k + 1) = V.take k ++ [x] := by rw [List.take_add_one, hx]; rfl
    have hx1 : Cln [x] := fun z hz => by simp at hz; rw [hz]; exact hxc
    by_cases hc : cutAt V k = true
    · have hb : isB x = true := by unfold cutAt at hc; rw [hg] at hc; simp at hc; exact hc.1.2
      rw [if_pos hc] at hl
      refine ⟨F0 ++ [(N, q ++ V.take k)], [x], by rw [ht, ← List.append_assoc]; exact Mid.on hb hxc, fun r => ?_⟩
      rw [bro, if_pos hc, hg, List.append_assoc, List.append_assoc, h2, rn_eol he h1.2.1 h1.1 h1.line (by omega), rn_clean most _ _ [x] _ _ hx1 (by simp; omega)]
      rw [show (K + (bro e V k).length + e.length + [x].length) = K + (bro e V k ++ e ++ [x]).length by simp; omega]
      rfl
    · rw [if_neg hc] at hl
      refine ⟨F', c' ++ [x], by rw [ht, ← List.append_assoc]; exact h1.more hx1, fun r => ?_⟩
      rw [bro, if_neg hc, hg, List.append_nil, List.append_assoc, h2, rn_clean most _ _ [x] _ _ hx1 (by simp at hl ⊢; omega)]
      rw [show (K + (bro e V k).length + [x].length) = K + (bro e V k ++ [x]).length by simp; omega]
/-- A value as it is written. -/
def wv (b : Bool) (e V : List Nat) : List Nat := if b then bro e V V.length else V
theorem wv_len {b : Bool} {e V : List Nat} (he : Eol e) : (wv b e V).length ≤ 3 * V.length := by
  unfold wv
  split
  · exact bro_len he _
  · omega
theorem rn_wv {most K : Nat} {b : Bool} {F F0 : List Fd} {c e V N q : List Nat} (he : Eol e) (hV : Cln V) (h : Mid F c F0 N q) (hm : K + (wv b e V).length ≤ most) : ∃ F' c', Mid F' c' F0 N (q ++ V) ∧ ∀ r, rn most K F c (wv b e V ++ r) = rn most (K + (wv b e V).length) F' c' r := by
  cases b with
  | true =>
    have := rn_bro (K := K) he hV h V.length (Nat.le_refl _) hm
    rw [List.take_length] at this
    exact this
  | false => exact ⟨F, c ++ V, h.more hV, fun r => rn_clean most F r V K c hV hm⟩
/-- A name as the law makes one. -/
def Nam (N : List Nat) : Prop := N ≠ [] ∧ ∀ x ∈ N, isN x = true
theorem Nam.cln {N : List Nat} (h : Nam N) : Cln N := fun x hx => by
  have := h.2 x hx
  simp [isN] at this
  omega
theorem Mid.first {F : List Fd} {N : List Nat} (h : Nam N) (h64 : F.length < 64) : Mid F (N ++ [58, 32]) F N [32] := by
  refine ⟨by simp, h.cln.append (by unfold Cln; decide), fun y => ?_⟩
  obtain ⟨x, N', hN⟩ : ∃ x N', N = x :: N' := by
    cases N with
    | nil => exact absurd rfl h.1
    | cons x N' => exact ⟨x, N', rfl⟩
  have hx : isB ((N ++ [58, 32] ++ y).headD 0) = false := by
    have := h.2 x (by rw [hN]; simp)
    rw [hN]
    simp [isN] at this
    simp [isB]; omega
  have hnm : nm (N ++ [58, 32] ++ y) = N.length := by
    refine nm_at (fun z hz => h.2 z ?_) ?_
    · rw [List.append_assoc, List.take_left] at hz; exact hz
    · rw [List.append_assoc, List.getElem?_append_right (Nat.le_refl _)]; simp
  have hN0 : N.length ≠ 0 := by rw [hN]; simp
  rw [lin_new hx (by rw [hnm]; exact hN0) (by omega), hnm]
  have e1 : (N ++ [58, 32] ++ y).take N.length = N := by rw [List.append_assoc, List.take_left]
  have e2 : (N ++ [58, 32] ++ y).drop (N.length + 1) = [32] ++ y := by
    rw [List.append_assoc, ← List.drop_drop, List.drop_left]; rfl
  rw [e1, e2]
/-- A field as it is written. -/
def wl (b : Bool) (e : List Nat) (f : Fd) : List Nat := f.1 ++ [58, 32] ++ wv b e f.2 ++ e
def wrs (b : Bool) (e : List Nat) (P : List Fd) : List Nat := P.flatMap (wl b e)
theorem wr_snoc (b : Bool) (e : List Nat) (P : List Fd) (f : Fd) : wrs b e (P ++ [f]) = wrs b e P ++ wl b e f := by simp [wrs]
theorem rn_wl {most K : Nat} {b : Bool} {F : List Fd} {e r : List Nat} {f : Fd} (he : Eol e) (hN : Nam f.1) (hV : Cln f.2) (h64 : F.length < 64) (hm : K + (wl b e f).length ≤ most) : rn most K F [] (wl b e f ++ r) = rn most (K + (wl b e f).length) (F ++ [(f.1, 32 :: f.2)]) [] r := by
  have hl : (wl b e f).length = (f.1 ++ [58, 32]).length + (wv b e f.2).length + e.length := by unfold wl; simp; omega
  have m0 := Mid.first (F := F) hN h64
  obtain ⟨F', c', h1, h2⟩ := rn_wv (most := most) (K := K + (f.1 ++ [58, 32]).length) (b := b) he hV m0 (by omega)
  rw [hl]
  unfold wl
  rw [List.append_assoc, List.append_assoc, rn_clean most F _ (f.1 ++ [58, 32]) K [] m0.2.1 (by omega), List.nil_append, h2, rn_eol he h1.2.1 h1.1 h1.line (by omega)]
  rw [show K + (f.1 ++ ([58, 32] : List Nat)).length + (wv b e f.2).length + e.length = K + ((f.1 ++ ([58, 32] : List Nat)).length + (wv b e f.2).length + e.length) by omega]
  rfl
def raw (P : List Fd) : List Fd := P.map fun f => (f.1, 32 :: f.2)
/-- Names and values as the law makes them. -/
def Good (P : List Fd) : Prop := ∀ f ∈ P, Nam f.1 ∧ Cln f.2 ∧ trm f.2 = f.2 ∧ f.1.length ≤ 21 ∧ f.2.length ≤ 60
theorem rn_wr {most : Nat} {b : Bool} {e r : List Nat} (he : Eol e) : ∀ (P : List Fd) (K : Nat) (F : List Fd), Good P → F.length + P.length ≤ 64 → K + (wrs b e P).length ≤ most → rn most K F [] (wrs b e P ++ r) = rn most (K + (wrs b e P).length) (F ++ raw P) [] r
  | [], K, F => fun _ _ _ => by simp [wrs, raw]
  | f :: P, K, F => fun hg h64 hm => by
    have hw : wrs b e (f :: P) = wl b e f ++ wrs b e P := by simp [wrs]
    have hf := hg f (by simp)
    rw [hw, List.length_append] at hm
    simp only [List.length_cons] at h64
    rw [hw, List.append_assoc, rn_wl he hf.1 hf.2.1 (by omega) (by omega), rn_wr he P _ _ (fun g hg' => hg g (by simp [hg'])) (by simp; omega) (by omega)]
    rw [show K + (wl b e f).length + (wrs b e P).length = K + (wl b e f ++ wrs b e P).length by simp; omega]
    simp [raw]
theorem wl_len {b : Bool} {e : List Nat} {f : Fd} (he : Eol e) (h1 : f.1.length ≤ 21) (h2 : f.2.length ≤ 60) : (wl b e f).length ≤ 205 := by
  have h3 := wv_len (b := b) (V := f.2) he
  have h4 : e.length ≤ 2 := by rcases he with rfl | rfl <;> simp
  unfold wl
  simp only [List.length_append, List.length_cons, List.length_nil]
  omega
theorem wr_len {b : Bool} {e : List Nat} (he : Eol e) : ∀ (P : List Fd), Good P → (wrs b e P).length ≤ 205 * P.length
  | [] => fun _ => by simp [wrs]
  | f :: P => fun hg => by
    have hw : wrs b e (f :: P) = wl b e f ++ wrs b e P := by simp [wrs]
    have hf := hg f (by simp)
    have h1 := wl_len (b := b) he hf.2.2.2.1 hf.2.2.2.2
    have h2 := wr_len (b := b) he P (fun g hg' => hg g (by simp [hg']))
    rw [hw, List.length_append, List.length_cons]
    omega
/-- What Whole tells of it. -/
theorem rn_back {b : Bool} {e P r} (he : Eol e) (hg : Good P) (h64 : P.length ≤ 64) : rn 65536 0 [] [] (wrs b e P ++ (e ++ r)) = ⟨raw P, 0, (wrs b e P).length + e.length - 1⟩ := by
  have h1 := wr_len (b := b) he P hg
  have h4 : e.length ≤ 2 := by rcases he with rfl | rfl <;> simp
  rw [rn_wr he P 0 [] hg (by simp; exact h64) (by omega), rn_over he (by omega), Nat.zero_add]
  rfl
/-- What is trimmed stays. -/
theorem tail_take_n : ∀ (n : Nat) (m : List Nat), m.length = n → tail (m.take (tail m)) = tail m
  | 0, m => fun h => by rw [List.eq_nil_of_length_eq_zero h]; rfl
  | n + 1, m => fun h => by
    rcases List.eq_nil_or_concat m with rfl | ⟨m', x, rfl⟩
    · rfl
    · rw [List.concat_eq_append] at *
      cases hx : isB x with
      | true =>
        have ih := tail_take_n n m' (by simp at h; exact h)
        rw [tail_tk_b hx, ih, tail_snoc_b _ _ hx]
      | false => rw [tail_tk_n hx]
theorem drop_lead (l : List Nat) : l.drop (lead l) = [] ∨ ∃ x m, l.drop (lead l) = x :: m ∧ isB x = false := by
  induction l with
  | nil => left; rfl
  | cons x l ih =>
    cases hx : isB x with
    | true => rw [lead_cons_b hx]; exact ih
    | false => right; rw [lead_cons_n hx]; exact ⟨x, l, rfl, hx⟩
theorem trm_trm (l : List Nat) : trm (32 :: trm l) = trm l ∧ trm (trm l) = trm l := by
  have h32 : trm (32 :: trm l) = trm (trm l) := by
    have := lead_cons_b (x := 32) (m := trm l) rfl
    show ((32 :: trm l).drop (lead (32 :: trm l))).take (tail ((32 :: trm l).drop (lead (32 :: trm l)))) = ((trm l).drop (lead (trm l))).take (tail ((trm l).drop (lead (trm l))))
    rw [this]
  have h0 : lead (trm l) = 0 := by
    rcases drop_lead l with h | ⟨x, m, h, hx⟩
    · unfold trm; rw [h]; rfl
    · unfold trm
      rw [h]
      have : tail (x :: m) ≠ 0 := by
        intro h0
        rcases List.eq_nil_or_concat (x :: m) with h1 | ⟨m', z, h1⟩
        · cases h1
        · rw [List.concat_eq_append] at h1
          have e2 := tail_take_n _ (x :: m) rfl
          have hall : ∀ (k : Nat) (q : List Nat), q.length = k → tail q = 0 → ∀ y ∈ q, isB y = true := by
            intro k
            induction k with
            | zero => intro q hq _ y hy; rw [List.eq_nil_of_length_eq_zero hq] at hy; cases hy
            | succ k ih =>
              intro q hq ht y hy
              rcases List.eq_nil_or_concat q with h2 | ⟨q', z', h2⟩
              · rw [h2] at hy; cases hy
              · rw [List.concat_eq_append] at h2
                subst h2
                cases hz : isB z' with
                | false => rw [tail_snoc_n _ _ hz] at ht; omega
                | true =>
                  rw [tail_snoc_b _ _ hz] at ht
                  rcases List.mem_append.1 hy with h3 | h3
                  · exact ih q' (by simp at hq; exact hq) ht y h3
                  · simp at h3; rw [h3]; exact hz
          have := hall _ (x :: m) rfl h0 x (by simp)
          rw [hx] at this; cases this
      obtain ⟨n, hn⟩ : ∃ n, tail (x :: m) = n + 1 := ⟨tail (x :: m) - 1, by omega⟩
      rw [hn, List.take_succ_cons, lead_cons_n hx]
  have h1 : trm (trm l) = trm l := by
    have e : trm (trm l) = ((trm l).drop (lead (trm l))).take (tail ((trm l).drop (lead (trm l)))) := rfl
    rw [e, h0, List.drop_zero]
    have e2 : tail (trm l) = (trm l).length := by
      have h3 := tail_take_n _ (l.drop (lead l)) rfl
      have h4 := tail_le (l.drop (lead l))
      show tail ((l.drop (lead l)).take (tail (l.drop (lead l)))) = _
      rw [h3]
      unfold trm
      rw [List.length_take]; omega
    rw [e2, List.take_length]
  exact ⟨h32.trans h1, h1⟩
theorem told_raw {P : List Fd} (h : Good P) : told (raw P) = P := by
  unfold told raw
  rw [List.map_map]
  have : ∀ f ∈ P, ((fun f : Fd => (f.1, trm f.2)) ∘ fun f : Fd => (f.1, 32 :: f.2)) f = f := fun f hf => by
    have h1 := (h f hf).2.2.1
    have h2 := (trm_trm f.2).1
    rw [h1] at h2
    show (f.1, trm (32 :: f.2)) = f
    rw [h2]
  rw [List.map_congr_left this, List.map_id']
/-- The law's names and values. -/
def nmd (l : List Nat) (k : Nat) : List Nat := 120 :: ((l.take k).map fun x => 33 + x % 94).filter fun x => x != 58
def vlr (l : List Nat) (k : Nat) : List Nat := (l.take k).filter fun x => x != 10 && x != 13
theorem nmd_succ {l : List Nat} {k x : Nat} (h : l[k]? = some x) : nmd l (k + 1) = if 33 + x % 94 = 58 then nmd l k else nmd l k ++ [33 + x % 94] := by
  unfold nmd
  rw [List.take_add_one, h]
  split
  · rename_i e; simp [e]
  · rename_i e; simp [e]
theorem vlr_succ {l : List Nat} {k x : Nat} (h : l[k]? = some x) : vlr l (k + 1) = if x = 10 ∨ x = 13 then vlr l k else vlr l k ++ [x] := by
  unfold vlr
  rw [List.take_add_one, h]
  split
  · rename_i e; rcases e with e | e <;> simp [e]
  · rename_i e; simp at e; simp [e]
theorem nmd_nam (l : List Nat) (k : Nat) : Nam (nmd l k) := by
  refine ⟨by simp [nmd], fun x hx => ?_⟩
  rcases List.mem_cons.1 hx with rfl | hx
  · rfl
  · obtain ⟨hx, hne⟩ := List.mem_filter.1 hx
    obtain ⟨y, _, rfl⟩ := List.mem_map.1 hx
    simp at hne
    have := Nat.mod_lt y (show 0 < 94 by decide)
    simp [isN]; omega
theorem nmd_len (l : List Nat) (k : Nat) : (nmd l k).length ≤ k + 1 := by
  have := List.length_filter_le (fun x => x != 58) ((l.take k).map fun x => 33 + x % 94)
  simp [nmd] at *
  omega
theorem nmd_oct (l : List Nat) (k : Nat) : Oct (nmd l k) := fun x hx => by
  have := (nmd_nam l k).2 x hx
  simp [isN] at this
  omega
theorem vlr_cln (l : List Nat) (k : Nat) : Cln (vlr l k) := fun x hx => by
  simp [vlr] at hx
  exact hx.2
theorem vlr_oct {l : List Nat} (h : Oct l) (k : Nat) : Oct (vlr l k) := fun x hx => by
  simp [vlr] at hx
  exact h x (List.mem_of_mem_take hx.1)
theorem vlr_len (l : List Nat) (k : Nat) : (vlr l k).length ≤ k := by
  have := List.length_filter_le (fun x => x != 10 && x != 13) (l.take k)
  simp only [vlr, List.length_take] at *
  omega
theorem trm_len (l : List Nat) : (trm l).length ≤ l.length := by simp [trm]; omega
/-- One field of the law. -/
def fdo (n v : List Nat) : Fd := (nmd n 20, trm (vlr v 60))
theorem fdo_good (n v : List Nat) : Nam (fdo n v).1 ∧ Cln (fdo n v).2 ∧ trm (fdo n v).2 = (fdo n v).2 ∧ (fdo n v).1.length ≤ 21 ∧ (fdo n v).2.length ≤ 60 :=
  ⟨nmd_nam _ _, (vlr_cln _ _).trm, (trm_trm _).2, nmd_len _ _, Nat.le_trans (trm_len _) (vlr_len _ _)⟩
end Go.Proofs.Ytmlkdpoignimaaa

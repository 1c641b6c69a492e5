/-
  The chapter's mathematics: what a byte does to a group that is begun, what bytes say, how bytes are written. No walk in it.
-/
namespace Go.Proofs.Ytmijpocfichfpaa
/-- What a letter says; 64: it is none. -/
def vl (b : Nat) : Nat :=
  if 65 ≤ b ∧ b ≤ 90 then b - 65 else if 97 ≤ b ∧ b ≤ 122 then b - 71 else if 48 ≤ b ∧ b ≤ 57 then b + 4 else if b = 43 then 62 else if b = 47 then 63 else 64
def isBlank (b : Nat) : Bool := b == 9 || b == 10 || b == 13 || b == 32
theorem vl_le (b : Nat) : vl b ≤ 64 := by unfold vl; (repeat' split) <;> omega
/-- The byte that is known with the letter x behind the letter pv, at the place pl. -/
def tell (pl pv x : Nat) : Nat := (pv * 4 ^ pl + x / 4 ^ (3 - pl)) % 256
/-- What a byte does: it stops, or it goes on, and may tell a byte. -/
abbrev Ev := Nat ⊕ (Nat × Bool × Nat × Option Nat)
abbrev Ev.stop (why : Nat) : Ev := .inl why
abbrev Ev.go (pl : Nat) (p : Bool) (pv : Nat) (o : Option Nat) : Ev := .inr (pl, p, pv, o)
theorem Ev.el {motive : Ev → Prop} (e : Ev) (stop : ∀ why, motive (.stop why)) (go : ∀ pl p pv o, motive (.go pl p pv o)) : motive e :=
  match e with
  | .inl why => stop why
  | .inr (pl, p, pv, o) => go pl p pv o
def ev (pl : Nat) (p : Bool) (pv b : Nat) : Ev :=
  if isBlank b = true then .go pl p pv none
  else if b = 61 then (if pl < 2 then .stop 21 else .go ((pl + 1) % 4) true pv none)
  else if p = true then .stop 21
  else if vl b = 64 then .stop 20
  else .go ((pl + 1) % 4) false (vl b) (if pl = 0 then none else some (tell pl pv (vl b)))
/-- What a group that is begun may be. -/
def Wf (pl : Nat) (p : Bool) (pv : Nat) : Prop := pl < 4 ∧ pv < 64 ∧ (p = true → pl = 0 ∨ pl = 3)
theorem wf0 : Wf 0 false 0 := ⟨by omega, by omega, fun h => by cases h⟩
theorem ev_wf {pl : Nat} {p : Bool} {pv b : Nat} (h : Wf pl p pv) {pl' : Nat} {p' : Bool} {pv' : Nat} {o : Option Nat} (e : ev pl p pv b = .go pl' p' pv' o) : Wf pl' p' pv' := by
  obtain ⟨h1, h2, h3⟩ := h
  unfold ev at e
  split at e
  · cases e; exact ⟨h1, h2, h3⟩
  split at e
  · split at e
    · cases e
    · cases e; exact ⟨Nat.mod_lt _ (by omega), h2, fun _ => by omega⟩
  split at e
  · cases e
  split at e
  · cases e
  · cases e
    refine ⟨Nat.mod_lt _ (by omega), ?_, fun h => by cases h⟩
    have := vl_le b
    omega
theorem tell_lt (pl pv x : Nat) : tell pl pv x < 256 := Nat.mod_lt _ (by omega)
theorem ev_out {pl : Nat} {p : Bool} {pv b : Nat} {pl' : Nat} {p' : Bool} {pv' : Nat} {x : Nat} (e : ev pl p pv b = .go pl' p' pv' (some x)) : x < 256 := by
  unfold ev at e
  split at e
  · cases e
  split at e
  · split at e <;> cases e
  split at e
  · cases e
  split at e
  · cases e
  · split at e
    · cases e
    · cases e; exact tell_lt _ _ _
theorem ev_stop {pl : Nat} {p : Bool} {pv b y : Nat} (e : ev pl p pv b = .stop y) : y = 20 ∨ y = 21 := by
  unfold ev at e
  split at e
  · cases e
  split at e
  · split at e <;> cases e
    exact Or.inr rfl
  split at e
  · cases e; exact Or.inr rfl
  split at e
  · cases e; exact Or.inl rfl
  · cases e
/-- What bytes say, from the byte i on: the bytes, with which of them each is known, why and where they are stopped. -/
structure Rs where
  out : List Nat
  tm : List Nat
  why : Nat
  at_ : Nat
def addo (i : Nat) (o : Option Nat) (r : Rs) : Rs := match o with
  | none => r
  | some x => ⟨x :: r.out, i :: r.tm, r.why, r.at_⟩
def rn (i pl : Nat) (p : Bool) (pv : Nat) : List Nat → Rs
  | [] => ⟨[], [], if pl = 0 then 0 else 1, i⟩
  | b :: l => match ev pl p pv b with
    | .inl y => ⟨[], [], y, i⟩
    | .inr (pl', p', pv', o) => addo i o (rn (i + 1) pl' p' pv' l)
theorem rn_go {i pl : Nat} {p : Bool} {pv b : Nat} {l : List Nat} {pl' : Nat} {p' : Bool} {pv' : Nat} {o : Option Nat} (e : ev pl p pv b = .go pl' p' pv' o) : rn i pl p pv (b :: l) = addo i o (rn (i + 1) pl' p' pv' l) := by
  rw [rn, e]
theorem rn_stop {i pl : Nat} {p : Bool} {pv b : Nat} {l : List Nat} {y : Nat} (e : ev pl p pv b = .stop y) : rn i pl p pv (b :: l) = ⟨[], [], y, i⟩ := by
  rw [rn, e]
theorem rn_lens : ∀ (l : List Nat) (i pl : Nat) (p : Bool) (pv : Nat), (rn i pl p pv l).out.length ≤ l.length ∧ (rn i pl p pv l).tm.length = (rn i pl p pv l).out.length ∧ (rn i pl p pv l).at_ ≤ i + l.length ∧ i ≤ (rn i pl p pv l).at_ ∧ (∀ x ∈ (rn i pl p pv l).out, x < 256) ∧ (∀ t ∈ (rn i pl p pv l).tm, i ≤ t ∧ t < i + l.length)
  | [], i, pl, p, pv => by simp [rn]
  | b :: l, i, pl, p, pv => by
    cases e : ev pl p pv b using Ev.el with
    | stop y => rw [rn_stop e]; simp
    | go pl' p' pv' o =>
      rw [rn_go e]
      obtain ⟨h1, h2, h3, h4, h5, h6⟩ := rn_lens l (i + 1) pl' p' pv'
      cases o with
      | none =>
        simp only [addo, List.length_cons]
        exact ⟨by omega, h2, by omega, by omega, h5, fun t ht => by have := h6 t ht; omega⟩
      | some x =>
        simp only [addo, List.length_cons]
        refine ⟨by omega, by omega, by omega, by omega, ?_, ?_⟩
        · intro z hz
          rcases List.mem_cons.1 hz with rfl | hz
          · exact ev_out e
          · exact h5 z hz
        · intro z hz
          rcases List.mem_cons.1 hz with rfl | hz
          · omega
          · have := h6 z hz; omega
theorem rn_none : ∀ (l : List Nat) (i pl : Nat) (p : Bool) (pv : Nat), (rn i pl p pv l).why < 2 → (rn i pl p pv l).at_ = i + l.length
  | [], i, pl, p, pv, _ => by simp [rn]
  | b :: l, i, pl, p, pv, h => by
    cases e : ev pl p pv b using Ev.el with
    | stop y =>
      rw [rn_stop e] at h
      have := ev_stop e
      simp at h
      omega
    | go pl' p' pv' o =>
      rw [rn_go e] at h ⊢
      have := rn_none l (i + 1) pl' p' pv'
      cases o <;> simp only [addo, List.length_cons] at h ⊢ <;> rw [this h] <;> omega
theorem rn_why (l : List Nat) : ∀ (i pl : Nat) (p : Bool) (pv : Nat), (rn i pl p pv l).why = 0 ∨ (rn i pl p pv l).why = 1 ∨ (rn i pl p pv l).why = 20 ∨ (rn i pl p pv l).why = 21 := by
  induction l with
  | nil => intro i pl p pv; simp only [rn]; split <;> simp
  | cons b l ih =>
    intro i pl p pv
    cases e : ev pl p pv b using Ev.el with
    | stop y => rw [rn_stop e]; have := ev_stop e; simp; omega
    | go pl' p' pv' o =>
      rw [rn_go e]
      have := ih (i + 1) pl' p' pv'
      cases o <;> exact this
/-- m is l with blanks put in. -/
def Wv : List Nat → List Nat → Prop
  | l, [] => l = []
  | l, x :: m => (∃ k, l = x :: k ∧ Wv k m) ∨ (isBlank x = true ∧ Wv l m)
theorem Wv.nil : Wv [] [] := rfl
theorem Wv.keep (x : Nat) {l m : List Nat} (h : Wv l m) : Wv (x :: l) (x :: m) := Or.inl ⟨l, rfl, h⟩
theorem Wv.skip (x : Nat) {l m : List Nat} (hb : isBlank x = true) (h : Wv l m) : Wv l (x :: m) := Or.inr ⟨hb, h⟩
theorem Wv.el {motive : ∀ l m : List Nat, Wv l m → Prop} {l m : List Nat} (target : Wv l m) (nil : motive [] [] Wv.nil) (keep : ∀ (x : Nat) {l m : List Nat} (h : Wv l m), motive l m h → motive (x :: l) (x :: m) (Wv.keep x h)) (skip : ∀ (x : Nat) {l m : List Nat} (hb : isBlank x = true) (h : Wv l m), motive l m h → motive l (x :: m) (Wv.skip x hb h)) : motive l m target := by
  induction m generalizing l with
  | nil =>
    have e : l = [] := target
    subst e
    exact nil
  | cons x m ih =>
    rcases id target with ⟨k, e, h⟩ | ⟨hb, h⟩
    · subst e
      exact keep x h (ih h)
    · exact skip x hb h (ih h)
theorem ev_blank {pl : Nat} {p : Bool} {pv b : Nat} (h : isBlank b = true) : ev pl p pv b = .go pl p pv none := by rw [ev, if_pos h]
theorem rn_wv {l m : List Nat} (h : Wv l m) : ∀ (i j pl : Nat) (p : Bool) (pv : Nat), (rn i pl p pv l).out = (rn j pl p pv m).out ∧ (rn i pl p pv l).why = (rn j pl p pv m).why ∧ (rn i pl p pv l).at_ + j ≤ (rn j pl p pv m).at_ + i := by
  induction h using Wv.el with
  | nil => intro i j pl p pv; exact ⟨rfl, rfl, by simp only [rn]; omega⟩
  | keep x h ih =>
    intro i j pl p pv
    cases e : ev pl p pv x using Ev.el with
    | stop y => rw [rn_stop e, rn_stop e]; exact ⟨rfl, rfl, by simp only []; omega⟩
    | go pl' p' pv' o =>
      rw [rn_go e, rn_go e]
      obtain ⟨h1, h2, h3⟩ := ih (i + 1) (j + 1) pl' p' pv'
      cases o with
      | none => exact ⟨h1, h2, by simp only [addo]; omega⟩
      | some z => exact ⟨by simp only [addo]; rw [h1], h2, by simp only [addo]; omega⟩
  | skip x hb h ih =>
    intro i j pl p pv
    rw [rn_go (ev_blank hb)]
    obtain ⟨h1, h2, h3⟩ := ih i (j + 1) pl p pv
    exact ⟨h1, h2, by simp only [addo]; omega⟩
theorem Wv.refl : ∀ l : List Nat, Wv l l
  | [] => .nil
  | x :: l => .keep x (Wv.refl l)
theorem Wv.snoc {l m : List Nat} (h : Wv l m) (x : Nat) : Wv (l ++ [x]) (m ++ [x]) := by
  induction h using Wv.el with
  | nil => exact .keep x .nil
  | keep y h ih => exact .keep y ih
  | skip y hb h ih => exact .skip y hb ih
theorem Wv.blank {l m : List Nat} (h : Wv l m) {x : Nat} (hx : isBlank x = true) : Wv l (m ++ [x]) := by
  induction h using Wv.el with
  | nil => exact .skip x hx .nil
  | keep y h ih => exact .keep y ih
  | skip y hb h ih => exact .skip y hb ih
/-- The letters. -/
def lt (x : Nat) : Nat := if x < 26 then x + 65 else if x < 52 then x + 71 else if x < 62 then x - 4 else if x = 62 then 43 else 47
theorem vl_lt : ∀ x, x < 64 → vl (lt x) = x := by decide
theorem blank_lt : ∀ x, x < 64 → isBlank (lt x) = false := by decide
theorem lt_ne : ∀ x, x < 64 → lt x ≠ 61 := by decide
theorem lt_oct : ∀ x, x < 64 → lt x < 256 := by decide
theorem ev_lt {pl pv x : Nat} (hx : x < 64) : ev pl false pv (lt x) = .go ((pl + 1) % 4) false x (if pl = 0 then none else some (tell pl pv x)) := by
  rw [ev, blank_lt x hx, if_neg (by simp), if_neg (lt_ne x hx), if_neg (by simp), vl_lt x hx, if_neg (by omega)]
/-- Three bytes (n of them there) as a group. -/
def grp (a b c n : Nat) : List Nat := [lt (a / 4), lt (a % 4 * 16 + b / 16), if n < 2 then 61 else lt (b % 16 * 4 + c / 64), if n < 3 then 61 else lt (c % 64)]
def g3 : List Nat → List Nat
  | [] => []
  | [a] => grp a 0 0 1
  | [a, b] => grp a b 0 2
  | a :: b :: c :: _ => grp a b c 3
def enc : List Nat → List Nat
  | [] => []
  | [a] => grp a 0 0 1
  | [a, b] => grp a b 0 2
  | a :: b :: c :: l => grp a b c 3 ++ enc l
theorem enc_step {l : List Nat} (h : l ≠ []) : enc l = g3 (l.take 3) ++ enc (l.drop 3) := by
  match l, h with
  | [a], _ => simp [enc, g3]
  | [a, b], _ => simp [enc, g3]
  | a :: b :: c :: l, _ => simp [enc, g3]
theorem grp_len (a b c n : Nat) : (grp a b c n).length = 4 := rfl
theorem enc_len : ∀ l : List Nat, (enc l).length = (l.length + 2) / 3 * 4
  | [] => rfl
  | [a] => by simp [enc, grp_len]
  | [a, b] => by simp [enc, grp_len]
  | a :: b :: c :: l => by
    simp only [enc, List.length_append, grp_len, List.length_cons, enc_len l]
    omega
/-- Line ends put in: from the letter i on. -/
def dbrk (n i : Nat) : List Nat → List Nat
  | [] => []
  | x :: l => (if 0 < i ∧ i % n = 0 then [13, 10] else []) ++ x :: dbrk n (i + 1) l
theorem dbrk_wv (n : Nat) : ∀ (l : List Nat) (i : Nat), Wv l (dbrk n i l)
  | [], i => .nil
  | x :: l, i => by
    unfold dbrk
    split
    · exact .skip 13 rfl (.skip 10 rfl (.keep x (dbrk_wv n l _)))
    · exact .keep x (dbrk_wv n l _)
theorem Wv.len {l m : List Nat} (h : Wv l m) : l.length ≤ m.length := by
  induction h using Wv.el with
  | nil => exact Nat.le_refl _
  | keep x h ih => simp; exact ih
  | skip x hb h ih => simp; omega
theorem dbrk_app (n : Nat) : ∀ (l m : List Nat) (i : Nat), dbrk n i (l ++ m) = dbrk n i l ++ dbrk n (i + l.length) m
  | [], m, i => by simp [dbrk]
  | x :: l, m, i => by simp [dbrk, dbrk_app n l m, List.append_assoc]; congr 1; omega
theorem dbrk_len (n : Nat) : ∀ (l : List Nat) (i : Nat), (dbrk n i l).length ≤ 3 * l.length
  | [], i => by simp [dbrk]
  | x :: l, i => by
    have := dbrk_len n l (i + 1)
    unfold dbrk
    split <;> simp <;> omega
theorem dbrk_few (n : Nat) : ∀ (l : List Nat) (i : Nat), (i = 0 ∨ i % n ≠ 0) → (i % n + l.length ≤ n) → dbrk n i l = l
  | [], i, _, _ => rfl
  | x :: l, i, h, h2 => by
    unfold dbrk
    rw [if_neg (by omega), List.nil_append]
    congr 1
    simp only [List.length_cons] at h2
    cases l with
    | nil => rfl
    | cons y l =>
      simp only [List.length_cons] at h2
      have hn : 1 < n := by
        have := Nat.zero_le (i % n)
        omega
      have e : (i + 1) % n = i % n + 1 := by
        rw [Nat.add_mod, Nat.mod_eq_of_lt hn, Nat.mod_eq_of_lt (a := i % n + 1) (by omega)]
      exact dbrk_few n (y :: l) (i + 1) (Or.inr (by rw [e]; omega)) (by rw [e]; simp only [List.length_cons]; omega)
theorem dbrk_mod (n : Nat) : ∀ (l : List Nat) (i j : Nat), 0 < i → 0 < j → i % n = j % n → dbrk n i l = dbrk n j l
  | [], i, j, _, _, _ => rfl
  | x :: l, i, j, hi, hj, h => by
    unfold dbrk
    rw [dbrk_mod n l (i + 1) (j + 1) (by omega) (by omega) (by rw [Nat.add_mod, h, ← Nat.add_mod]), h]
    simp [hi, hj]
theorem dbrk_line (n : Nat) (hn : 0 < n) {l : List Nat} (h : n < l.length) : dbrk n 0 l = l.take n ++ ([13, 10] ++ dbrk n 0 (l.drop n)) := by
  conv => lhs; rw [← List.take_append_drop n l]
  have hl : (l.take n).length = n := by rw [List.length_take]; omega
  rw [dbrk_app, hl, dbrk_few n (l.take n) 0 (Or.inl rfl) (by rw [hl]; simp)]
  congr 1
  obtain ⟨y, m, hm⟩ : ∃ y m, l.drop n = y :: m := by
    cases e : l.drop n with
    | nil => have := congrArg List.length e; rw [List.length_drop] at this; simp at this; omega
    | cons y m => exact ⟨y, m, rfl⟩
  rw [hm, Nat.zero_add]
  unfold dbrk
  rw [if_pos ⟨hn, Nat.mod_self n⟩, if_neg (by omega)]
  simp only [List.nil_append]
  congr 2
  cases m with
  | nil => rfl
  | cons z m =>
    by_cases h1 : n = 1
    · subst h1
      exact dbrk_mod 1 _ _ _ (by omega) (by omega) (by omega)
    · exact dbrk_mod n _ _ _ (by omega) (by omega) (by rw [Nat.add_mod_left, Nat.zero_add])
/-- What Write gives. -/
def wri (l : List Nat) (line : Int) : List Nat := if line ≤ 0 then enc l else dbrk line.toNat 0 (enc l)
theorem wri_wv (l : List Nat) (line : Int) : Wv (enc l) (wri l line) := by
  unfold wri
  split
  · exact Wv.refl _
  · exact dbrk_wv _ _ _
theorem wri_len (l : List Nat) (line : Int) : (wri l line).length ≤ 3 * (enc l).length := by
  unfold wri
  split
  · omega
  · exact dbrk_len _ _ _
theorem grp_oct {a b c n : Nat} (ha : a < 256) (hb : b < 256) (hc : c < 256) : ∀ x ∈ grp a b c n, x < 256 := by
  intro x hx
  have h1 := lt_oct (a / 4) (by omega)
  have h2 := lt_oct (a % 4 * 16 + b / 16) (by omega)
  have h3 := lt_oct (b % 16 * 4 + c / 64) (by omega)
  have h4 := lt_oct (c % 64) (by omega)
  simp only [grp, List.mem_cons, List.not_mem_nil, or_false] at hx
  rcases hx with rfl | rfl | rfl | rfl
  · exact h1
  · exact h2
  · split <;> omega
  · split <;> omega
theorem enc_oct : ∀ (l : List Nat), (∀ x ∈ l, x < 256) → ∀ x ∈ enc l, x < 256
  | [], _, x, hx => by simp [enc] at hx
  | [a], h, x, hx => grp_oct (h a (by simp)) (by omega) (by omega) x hx
  | [a, b], h, x, hx => grp_oct (h a (by simp)) (h b (by simp)) (by omega) x hx
  | a :: b :: c :: l, h, x, hx => by
    rw [enc, List.mem_append] at hx
    rcases hx with hx | hx
    · exact grp_oct (h a (by simp)) (h b (by simp)) (h c (by simp)) x hx
    · exact enc_oct l (fun y hy => h y (by simp [hy])) x hx
theorem Wv.oct {l m : List Nat} (h : Wv l m) (hl : ∀ x ∈ l, x < 256) : ∀ x ∈ m, x < 256 := by
  induction h using Wv.el with
  | nil => exact hl
  | keep y h ih =>
    intro x hx
    rcases List.mem_cons.1 hx with rfl | hx
    · exact hl x (by simp)
    · exact ih (fun z hz => hl z (by simp [hz])) x hx
  | skip y hb h ih =>
    intro x hx
    rcases List.mem_cons.1 hx with rfl | hx
    · simp [isBlank] at hb; omega
    · exact ih hl x hx
theorem wri_oct (l : List Nat) (line : Int) (h : ∀ x ∈ l, x < 256) : ∀ x ∈ wri l line, x < 256 := (wri_wv l line).oct (enc_oct l h)
/-- How many bytes the first k letters tell. -/
def mm (k n : Nat) : Nat := 3 * (k / 4) + min (k % 4 - 1) (n - 3 * (k / 4))
theorem tell1 {a b : Nat} (ha : a < 256) (hb : b < 256) : tell 1 (a / 4) (a % 4 * 16 + b / 16) = a := by simp [tell]; omega
theorem tell2 {a b c : Nat} (hb : b < 256) (hc : c < 256) : tell 2 (a % 4 * 16 + b / 16) (b % 16 * 4 + c / 64) = b := by simp [tell]; omega
theorem tell3 {b c : Nat} (hc : c < 256) : tell 3 (b % 16 * 4 + c / 64) (c % 64) = c := by simp [tell]; omega
theorem ev_pad2 (pv : Nat) : ev 2 false pv 61 = .go 3 true pv none := by rw [ev, if_neg (by decide), if_pos rfl, if_neg (by omega)]
theorem ev_pad3 (p : Bool) (pv : Nat) : ev 3 p pv 61 = .go 0 true pv none := by rw [ev, if_neg (by decide), if_pos rfl, if_neg (by omega)]
section
variable {i pv a b c : Nat} {l : List Nat}
theorem rn_a (ha : a < 256) : rn i 0 false pv (lt (a / 4) :: l) = rn (i + 1) 1 false (a / 4) l := by rw [rn_go (ev_lt (by omega))]; rfl
theorem rn_b (ha : a < 256) (hb : b < 256) : rn i 1 false (a / 4) (lt (a % 4 * 16 + b / 16) :: l) = addo i (some a) (rn (i + 1) 2 false (a % 4 * 16 + b / 16) l) := by
  rw [rn_go (ev_lt (by omega)), if_neg (by omega), tell1 ha hb]
theorem rn_c (hb : b < 256) (hc : c < 256) : rn i 2 false (a % 4 * 16 + b / 16) (lt (b % 16 * 4 + c / 64) :: l) = addo i (some b) (rn (i + 1) 3 false (b % 16 * 4 + c / 64) l) := by
  rw [rn_go (ev_lt (by omega)), if_neg (by omega), tell2 hb hc]
theorem rn_d (hc : c < 256) : rn i 3 false (b % 16 * 4 + c / 64) (lt (c % 64) :: l) = addo i (some c) (rn (i + 1) 0 false (c % 64) l) := by
  rw [rn_go (ev_lt (by omega)), if_neg (by omega), tell3 hc]
end
theorem cut : ∀ (l : List Nat) (k i pv : Nat), (∀ x ∈ l, x < 256) → k ≤ (enc l).length → (rn i 0 false pv ((enc l).take k)).out = l.take (mm k l.length) ∧ (rn i 0 false pv ((enc l).take k)).why = (if k % 4 = 0 then 0 else 1)
  | [], k, i, pv, _, hk => by
    have : k = 0 := by simp [enc] at hk; exact hk
    subst this
    simp [enc, rn]
  | [a], k, i, pv, h, hk => by
    have ha := h a (by simp)
    have hb : 0 < 256 := by omega
    simp only [enc, grp_len] at hk
    match k, hk with
    | 0, _ => simp [enc, rn, mm]
    | 1, _ => simp only [enc, grp, List.take]; rw [rn_a ha]; simp [rn, mm]
    | 2, _ => simp only [enc, grp, List.take]; rw [rn_a ha, rn_b ha hb]; simp [rn, mm, addo]
    | 3, _ => simp only [enc, grp, List.take]; rw [rn_a ha, rn_b ha hb, if_pos (by omega), rn_go (ev_pad2 _)]; simp [rn, mm, addo]
    | 4, _ => simp only [enc, grp, List.take]; rw [rn_a ha, rn_b ha hb, if_pos (by omega), if_pos (by omega), rn_go (ev_pad2 _), rn_go (ev_pad3 _ _)]; simp [rn, mm, addo]
  | [a, b], k, i, pv, h, hk => by
    have ha := h a (by simp)
    have hb := h b (by simp)
    have hc : 0 < 256 := by omega
    simp only [enc, grp_len] at hk
    match k, hk with
    | 0, _ => simp [enc, rn, mm]
    | 1, _ => simp only [enc, grp, List.take]; rw [rn_a ha]; simp [rn, mm]
    | 2, _ => simp only [enc, grp, List.take]; rw [rn_a ha, rn_b ha hb]; simp [rn, mm, addo]
    | 3, _ => simp only [enc, grp, List.take]; rw [rn_a ha, rn_b ha hb, if_neg (by omega), rn_c hb hc]; simp [rn, mm, addo]
    | 4, _ => simp only [enc, grp, List.take]; rw [rn_a ha, rn_b ha hb, if_neg (by omega), if_pos (by omega), rn_c hb hc, rn_go (ev_pad3 _ _)]; simp [rn, mm, addo]
  | a :: b :: c :: l, k, i, pv, h, hk => by
    have ha := h a (by simp)
    have hb := h b (by simp)
    have hc := h c (by simp)
    have hl : ∀ x ∈ l, x < 256 := fun x hx => h x (by simp [hx])
    match k with
    | 0 => simp [enc, rn, mm]
    | 1 => simp only [enc, grp, List.take, List.cons_append]; rw [rn_a ha]; simp [rn, mm]
    | 2 => simp only [enc, grp, List.take, List.cons_append]; rw [rn_a ha, rn_b ha hb]; simp [rn, mm, addo]
    | 3 => simp only [enc, grp, List.take, List.cons_append]; rw [rn_a ha, rn_b ha hb, if_neg (by omega), rn_c hb hc]; simp [rn, mm, addo]
    | k + 4 =>
      have hk2 : k ≤ (enc l).length := by simp only [enc, grp, List.length_append, List.length_cons, List.length_nil] at hk; omega
      obtain ⟨h1, h2⟩ := cut l k (i + 1 + 1 + 1 + 1) (c % 64) hl hk2
      simp only [enc, grp, List.take, List.cons_append, List.nil_append]
      rw [rn_a ha, rn_b ha hb, if_neg (by omega), if_neg (by omega), rn_c hb hc, rn_d hc]
      simp only [addo]
      rw [h1, h2]
      constructor
      · have : mm (k + 4) (a :: b :: c :: l).length = mm k l.length + 3 := by
          simp only [mm, List.length_cons]
          omega
        rw [this]
        rfl
      · have : (k + 4) % 4 = k % 4 := by omega
        rw [this]
theorem back (l : List Nat) (line : Int) (h : ∀ x ∈ l, x < 256) : (rn 0 0 false 0 (wri l line)).out = l ∧ (rn 0 0 false 0 (wri l line)).why = 0 ∧ (rn 0 0 false 0 (wri l line)).at_ = (wri l line).length := by
  obtain ⟨h1, h2⟩ := cut l (enc l).length 0 0 h (Nat.le_refl _)
  rw [List.take_length] at h1 h2
  obtain ⟨k1, k2, k3⟩ := rn_wv (wri_wv l line) 0 0 0 false 0
  have h0 : (rn 0 0 false 0 (wri l line)).why = 0 := by
    rw [← k2, h2, enc_len, if_pos (by omega)]
  refine ⟨?_, h0, ?_⟩
  · rw [← k1, h1]
    refine List.take_of_length_le ?_
    rw [enc_len, mm]
    omega
  · rw [rn_none _ _ _ _ _ (by omega), Nat.zero_add]
end Go.Proofs.Ytmijpocfichfpaa

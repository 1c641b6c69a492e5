/-
  Registers of 32 bits as numbers: 'mv', moved down by one bit, is linear under '^^^'; what a row of moves, a product of registers and a square come to; two lists of bytes that differ within 32 bits have two sums.
-/
import Derived.WalkKit
namespace Go.Proofs.YtopaekcbopoeaaaDoor
/-- The register, moved down by one bit. -/
def mv (x : Nat) : Nat := if x % 2 = 1 then x / 2 ^^^ 3988292384 else x / 2
/-- k moves. -/
def mvs : Nat → Nat → Nat
  | 0, x => x
  | k + 1, x => mvs k (mv x)
theorem xor_cancel (a b p : Nat) : a ^^^ p ^^^ (b ^^^ p) = a ^^^ b := by
  rw [Nat.xor_comm b p, ← Nat.xor_assoc, Nat.xor_assoc a p p, Nat.xor_self, Nat.xor_zero]
theorem xor_back (a p : Nat) : a ^^^ p ^^^ p = a := by rw [Nat.xor_assoc, Nat.xor_self, Nat.xor_zero]
theorem xor_mod2 (x y : Nat) : (x ^^^ y) % 2 = (x + y) % 2 := by
  have h := Nat.xor_mod_two_eq_one (a := x) (b := y)
  omega
theorem mv_xor (x y : Nat) : mv (x ^^^ y) = mv x ^^^ mv y := by
  unfold mv
  have h1 : (x ^^^ y) / 2 = x / 2 ^^^ y / 2 := Nat.xor_div_two
  have h2 : (x ^^^ y) % 2 = (x + y) % 2 := xor_mod2 _ _
  rw [h1, h2]
  rcases Nat.mod_two_eq_zero_or_one x with hx | hx <;> rcases Nat.mod_two_eq_zero_or_one y with hy | hy
  · rw [if_neg (by omega), if_neg (by omega), if_neg (by omega)]
  · rw [if_pos (by omega), if_neg (by omega), if_pos (by omega), Nat.xor_assoc]
  · rw [if_pos (by omega), if_pos (by omega), if_neg (by omega), Nat.xor_assoc, Nat.xor_comm (y / 2), Nat.xor_assoc]
  · rw [if_neg (by omega), if_pos (by omega), if_pos (by omega), xor_cancel]
theorem mvs_xor : ∀ (k x y : Nat), mvs k (x ^^^ y) = mvs k x ^^^ mvs k y
  | 0, _, _ => rfl
  | k + 1, x, y => by rw [mvs, mv_xor, mvs_xor k]; rfl
theorem mvs_add : ∀ (j k x : Nat), mvs (j + k) x = mvs k (mvs j x)
  | 0, k, x => by rw [Nat.zero_add]; rfl
  | j + 1, k, x => by rw [show j + 1 + k = (j + k) + 1 by omega, mvs, mvs_add j k, mvs]
theorem mvs_comm (j k x : Nat) : mvs k (mvs j x) = mvs j (mvs k x) := by rw [← mvs_add, Nat.add_comm, mvs_add]
theorem mvs_one (x : Nat) : mvs 1 x = mv x := rfl
theorem mv_mvs (k x : Nat) : mv (mvs k x) = mvs k (mv x) := mvs_comm k 1 x
theorem mv_zero : mv 0 = 0 := rfl
theorem mvs_zero : ∀ k, mvs k 0 = 0
  | 0 => rfl
  | k + 1 => by rw [mvs, mv_zero, mvs_zero k]
theorem mv_two (x : Nat) : mv (2 * x) = x := by unfold mv; rw [if_neg (by omega)]; omega
theorem mvs_pow : ∀ (k x : Nat), mvs k (2 ^ k * x) = x
  | 0, x => by simp [mvs]
  | k + 1, x => by rw [mvs, Nat.pow_succ', Nat.mul_assoc, mv_two, mvs_pow k]
theorem xor_lt32 {a b : Nat} (ha : a < 4294967296) (hb : b < 4294967296) : a ^^^ b < 4294967296 := Nat.xor_lt_two_pow (n := 32) ha hb
theorem mv_lt {x : Nat} (h : x < 4294967296) : mv x < 4294967296 := by
  unfold mv
  split
  · exact xor_lt32 (by omega) (by decide)
  · omega
theorem mvs_lt : ∀ (k : Nat) {x : Nat}, x < 4294967296 → mvs k x < 4294967296
  | 0, _, h => h
  | k + 1, _, h => mvs_lt k (mv_lt h)
theorem eq_of_xor {a b : Nat} (h : a ^^^ b = 0) : a = b := by
  have := congrArg (· ^^^ b) h
  simp only [xor_back, Nat.zero_xor] at this
  exact this
theorem mv_ne {x : Nat} (h : x < 4294967296) (h0 : x ≠ 0) : mv x ≠ 0 := by
  unfold mv
  split
  · intro e
    have := eq_of_xor e
    omega
  · omega
theorem mvs_ne : ∀ (k : Nat) {x : Nat}, x < 4294967296 → x ≠ 0 → mvs k x ≠ 0
  | 0, _, _, h => h
  | k + 1, _, h, h0 => mvs_ne k (mv_lt h) (mv_ne h h0)
/-- The lowest k bits go out, the others move down. -/
theorem mvs_low : ∀ (k h l : Nat), l < 2 ^ k → mvs k (2 ^ k * h + l) = h ^^^ mvs k l
  | 0, h, l, hl => by
    have : l = 0 := by simpa using hl
    subst this
    simp [mvs]
  | k + 1, h, l, hl => by
    rw [Nat.pow_succ'] at hl ⊢
    rw [mvs, mvs, Nat.mul_assoc]
    unfold mv
    rw [show (2 * (2 ^ k * h) + l) % 2 = l % 2 by omega, show (2 * (2 ^ k * h) + l) / 2 = 2 ^ k * h + l / 2 by omega]
    by_cases hm : l % 2 = 1
    · rw [if_pos hm, if_pos hm, mvs_xor, mvs_low k h (l / 2) (by omega), mvs_xor, Nat.xor_assoc]
    · rw [if_neg hm, if_neg hm, mvs_low k h (l / 2) (by omega)]
/-- Bits that stand on those below. -/
theorem xor_split : ∀ (m x y a b : Nat), x < 2 ^ m → y < 2 ^ m → (x + 2 ^ m * a) ^^^ (y + 2 ^ m * b) = (x ^^^ y) + 2 ^ m * (a ^^^ b)
  | 0, x, y, a, b, hx, hy => by
    have : x = 0 := by simpa using hx
    have : y = 0 := by simpa using hy
    subst x; subst y
    simp
  | m + 1, x, y, a, b, hx, hy => by
    rw [Nat.pow_succ'] at hx hy ⊢
    rw [Nat.mul_assoc, Nat.mul_assoc, Nat.mul_assoc]
    have ih := xor_split m (x / 2) (y / 2) a b (by omega) (by omega)
    have h1 : ((x + 2 * (2 ^ m * a)) ^^^ (y + 2 * (2 ^ m * b))) / 2 = (x + 2 * (2 ^ m * a)) / 2 ^^^ (y + 2 * (2 ^ m * b)) / 2 := Nat.xor_div_two
    have h2 : ((x + 2 * (2 ^ m * a)) ^^^ (y + 2 * (2 ^ m * b))) % 2 = (x + 2 * (2 ^ m * a) + (y + 2 * (2 ^ m * b))) % 2 := xor_mod2 _ _
    have h3 : (x ^^^ y) / 2 = x / 2 ^^^ y / 2 := Nat.xor_div_two
    have h4 : (x ^^^ y) % 2 = (x + y) % 2 := xor_mod2 _ _
    rw [show (x + 2 * (2 ^ m * a)) / 2 = x / 2 + 2 ^ m * a by omega, show (y + 2 * (2 ^ m * b)) / 2 = y / 2 + 2 ^ m * b by omega, ih] at h1
    omega
theorem xor_pow (n x : Nat) (h : x < 2 ^ n) : x ^^^ 2 ^ n = x + 2 ^ n := by
  have := xor_split n x 0 0 1 h (Nat.two_pow_pos n)
  simpa using this
/-- A bit more of a number. -/
theorem mod_more (x i : Nat) : x % 2 ^ (i + 1) = if x / 2 ^ i % 2 = 1 then x % 2 ^ i ^^^ 2 ^ i else x % 2 ^ i := by
  have e : x % 2 ^ (i + 1) = x % 2 ^ i + 2 ^ i * (x / 2 ^ i % 2) := by rw [Nat.pow_succ, Nat.mod_mul]
  rw [e]
  split
  · rename_i h
    rw [h, Nat.mul_one, xor_pow _ _ (Nat.mod_lt _ (Nat.two_pow_pos i))]
  · rename_i h
    rw [show x / 2 ^ i % 2 = 0 by omega, Nat.mul_zero, Nat.add_zero]

/-- What the table holds. -/
def tb : List Nat := [0, 498536548, 997073096, 651767980, 1994146192, 1802195444, 1303535960, 1342533948, 3988292384, 4027552580, 3604390888, 3412177804, 2607071920, 2262029012, 2685067896, 3183342108]
theorem tb_low : ∀ i : Fin 16, tb.getD i.val 0 = mvs 4 i.val := by decide +kernel
theorem four_eq (r : Nat) : r / 16 ^^^ tb.getD (r % 16) 0 = mvs 4 r := by
  have h := mvs_low 4 (r / 16) (r % 16) (Nat.mod_lt _ (by decide))
  rw [show 2 ^ 4 * (r / 16) + r % 16 = r by omega] at h
  rw [h]
  congr 1
  exact tb_low ⟨r % 16, Nat.mod_lt _ (by decide)⟩
/-- The sum with one byte more. -/
def stp (s b : Nat) : Nat := mvs 8 (s ^^^ 4294967295 ^^^ b) ^^^ 4294967295
theorem stp_lt {s b : Nat} (hs : s < 4294967296) (hb : b < 256) : stp s b < 4294967296 :=
  xor_lt32 (mvs_lt 8 (xor_lt32 (xor_lt32 hs (by decide)) (by omega))) (by decide)
/-- The sum of some bytes, behind a sum. -/
def sm (s : Nat) : List Nat → Nat
  | [] => s
  | b :: l => sm (stp s b) l
theorem sm_append (s : Nat) : ∀ (l m : List Nat), sm s (l ++ m) = sm (sm s l) m
  | [], _ => rfl
  | b :: l, m => sm_append (stp s b) l m
theorem sm_lt : ∀ (l : List Nat) {s : Nat}, s < 4294967296 → (∀ b ∈ l, b < 256) → sm s l < 4294967296
  | [], _, h, _ => h
  | b :: l, _, h, hb => sm_lt l (stp_lt h (hb b (List.mem_cons_self ..))) (fun c hc => hb c (List.mem_cons_of_mem _ hc))
/-- A register goes through bytes. -/
theorem stp_xor (s t b : Nat) : stp (s ^^^ t) b = stp s b ^^^ mvs 8 t := by
  unfold stp
  rw [show s ^^^ t ^^^ 4294967295 ^^^ b = (s ^^^ 4294967295 ^^^ b) ^^^ t by ac_rfl, mvs_xor]
  ac_rfl
theorem sm_xor : ∀ (l : List Nat) (s t : Nat), sm (s ^^^ t) l = sm s l ^^^ mvs (8 * l.length) t
  | [], _, _ => rfl
  | b :: l, s, t => by
    rw [sm, stp_xor, sm_xor l, sm, List.length_cons, show 8 * (l.length + 1) = 8 + 8 * l.length by omega, mvs_add]
/-- The sum of two lists comes of both sums. -/
theorem sm_join (l m : List Nat) : sm 0 (l ++ m) = mvs (8 * m.length) (sm 0 l) ^^^ sm 0 m := by
  have h := sm_xor m 0 (sm 0 l)
  rw [Nat.zero_xor] at h
  rw [sm_append, h, Nat.xor_comm]

/-- A product of two registers, n bits of the first. -/
def pf : Nat → Nat → Nat → Nat
  | 0, _, _ => 0
  | n + 1, a, b => (if 2147483648 ≤ a then b else 0) ^^^ pf n (2 * a % 4294967296) (mv b)
theorem pf_zero : ∀ (n b : Nat), pf n 0 b = 0
  | 0, _ => rfl
  | n + 1, b => by rw [pf, if_neg (by decide), pf_zero n]; rfl
theorem pf_mv : ∀ (n a b : Nat), pf n a (mv b) = mv (pf n a b)
  | 0, _, _ => by rw [pf, pf]; rfl
  | n + 1, a, b => by
    rw [pf, pf, mv_xor, pf_mv n]
    split <;> rfl
theorem pf_mvs : ∀ (j n a b : Nat), pf n a (mvs j b) = mvs j (pf n a b)
  | 0, _, _, _ => rfl
  | j + 1, n, a, b => by rw [mvs, pf_mvs j, pf_mv]; rfl
theorem pf_unit : ∀ (n c : Nat), n ≤ 31 → c < 2 ^ (n + 1) → pf (n + 1) (c * 2 ^ (31 - n)) (2 ^ n) = c
  | 0, c, _, hc => by
    rw [pf, pf]
    have : c = 0 ∨ c = 1 := by omega
    rcases this with rfl | rfl <;> decide
  | n + 1, c, hn, hc => by
    obtain ⟨k, hk⟩ : ∃ k, 31 - n = k + 1 := ⟨31 - n - 1, by omega⟩
    have hk2 : 31 - (n + 1) = k := by omega
    have hp : 2 ^ (n + 1) * 2 ^ k = 2147483648 := by rw [← Nat.pow_add, show n + 1 + k = 31 by omega]
    have h0 : 0 < 2 ^ k := Nat.two_pow_pos k
    rw [pf, hk2, Nat.pow_succ' (n := n), mv_two]
    have e1 : 2 * (c * 2 ^ k) % 4294967296 = c % 2 ^ (n + 1) * 2 ^ (31 - n) := by
      rw [hk, Nat.pow_succ' (n := k), show 2 * (c * 2 ^ k) = c * (2 * 2 ^ k) by rw [Nat.mul_left_comm], show (4294967296 : Nat) = 2 ^ (n + 1) * (2 * 2 ^ k) by rw [Nat.mul_left_comm, hp], Nat.mul_mod_mul_right]
    rw [e1, pf_unit n (c % 2 ^ (n + 1)) (by omega) (Nat.mod_lt _ (Nat.two_pow_pos _))]
    have e2 : 2147483648 ≤ c * 2 ^ k ↔ 2 ^ (n + 1) ≤ c := by
      rw [← hp]; exact Nat.mul_le_mul_right_iff h0
    have hc2 : c < 2 * 2 ^ (n + 1) := by rw [← Nat.pow_succ']; exact hc
    rw [← Nat.pow_succ' (n := n)]
    by_cases h : 2 ^ (n + 1) ≤ c
    · rw [if_pos (e2.2 h), Nat.mod_eq_sub_mod h, Nat.mod_eq_of_lt (by omega), Nat.xor_comm, xor_pow _ _ (by omega)]
      omega
    · rw [if_neg (fun x => h (e2.1 x)), Nat.zero_xor, Nat.mod_eq_of_lt (by omega)]
/-- The power 0 is the highest bit. -/
theorem pf_top (a : Nat) (h : a < 4294967296) : pf 32 a 2147483648 = a := by
  have := pf_unit 31 a (by decide) h
  simpa using this
/-- A product with a power is a row of moves. -/
theorem pf_pow (a j : Nat) (h : a < 4294967296) : pf 32 a (mvs j 2147483648) = mvs j a := by rw [pf_mvs, pf_top a h]
theorem top_lt (j : Nat) : mvs j 2147483648 < 4294967296 := mvs_lt j (by decide)
theorem pf_square (j : Nat) : pf 32 (mvs j 2147483648) (mvs j 2147483648) = mvs (2 * j) 2147483648 := by
  rw [pf_pow _ _ (top_lt j), ← mvs_add, Nat.two_mul]
theorem one_byte : (8388608 : Nat) = mvs 8 2147483648 := by decide +kernel

/-- Bytes as one number, the first one lowest. -/
def nb : List Nat → Nat
  | [] => 0
  | x :: l => x + 256 * nb l
theorem sm_nb : ∀ (l : List Nat) (r : Nat), (∀ b ∈ l, b < 256) → sm (r ^^^ 4294967295) l = mvs (8 * l.length) (r ^^^ nb l) ^^^ 4294967295
  | [], r, _ => by simp [sm, nb, mvs]
  | x :: l, r, h => by
    have hx : x < 256 := h x (List.mem_cons_self ..)
    have ih := sm_nb l (mvs 8 (r ^^^ x)) (fun c hc => h c (List.mem_cons_of_mem _ hc))
    have e : stp (r ^^^ 4294967295) x = mvs 8 (r ^^^ x) ^^^ 4294967295 := by unfold stp; rw [xor_back]
    rw [sm, e, ih, List.length_cons, show 8 * (l.length + 1) = 8 + 8 * l.length by omega, mvs_add 8]
    congr 2
    have := mvs_low 8 (nb l) x hx
    rw [nb, mvs_xor, mvs_xor, show x + 256 * nb l = 2 ^ 8 * nb l + x by omega, this]
    ac_rfl
/-- Two lists of one length have one sum if, and only if, what they differ by goes out. -/
theorem sm_same (l m : List Nat) (hl : ∀ b ∈ l, b < 256) (hm : ∀ b ∈ m, b < 256) (e : m.length = l.length) : sm 0 l = sm 0 m ↔ mvs (8 * l.length) (nb l ^^^ nb m) = 0 := by
  have h1 := sm_nb l 4294967295 hl
  have h2 := sm_nb m 4294967295 hm
  rw [Nat.xor_self] at h1 h2
  rw [h1, h2, e, mvs_xor, mvs_xor, mvs_xor]
  constructor
  · intro h
    have h3 := congrArg (fun t => t ^^^ 4294967295 ^^^ mvs (8 * l.length) 4294967295 ^^^ mvs (8 * l.length) (nb m)) h
    rw [xor_back, xor_back, Nat.xor_comm (mvs _ 4294967295) (mvs _ (nb l)), xor_back, Nat.xor_comm (mvs _ 4294967295) (mvs _ (nb m)), xor_back, Nat.xor_self] at h3
    exact h3
  · intro h
    rw [eq_of_xor h]
/-- A bit of one byte turned. -/
theorem nb_set : ∀ (l : List Nat) (j x k : Nat), (∀ b ∈ l, b < 256) → l[j]? = some x → k < 8 → nb (l.set j (x ^^^ 2 ^ k)) = nb l ^^^ 2 ^ (8 * j + k)
  | [], j, x, k, _, h, _ => by simp at h
  | y :: l, 0, x, k, hl, h, hk => by
    have : y = x := by simpa using h
    subst this
    have hy : y < 256 := hl y (List.mem_cons_self ..)
    have hp : 2 ^ k < 2 ^ 8 := Nat.pow_lt_pow_right (by decide) hk
    have := xor_split 8 y (2 ^ k) (nb l) 0 hy hp
    simp only [Nat.mul_zero, Nat.add_zero, Nat.xor_zero] at this
    rw [List.set_cons_zero, nb, nb, Nat.mul_zero, Nat.zero_add]
    exact this.symm
  | y :: l, j + 1, x, k, hl, h, hk => by
    have hy : y < 256 := hl y (List.mem_cons_self ..)
    have ih := nb_set l j x k (fun c hc => hl c (List.mem_cons_of_mem _ hc)) (by simpa using h) hk
    have := xor_split 8 y 0 (nb l) (2 ^ (8 * j + k)) hy (by decide)
    simp only [Nat.zero_add, Nat.xor_zero] at this
    rw [List.set_cons_succ, nb, nb, ih, show 8 * (j + 1) + k = 8 + (8 * j + k) by omega, Nat.pow_add 2 8]
    exact this.symm
end Go.Proofs.YtopaekcbopoeaaaDoor

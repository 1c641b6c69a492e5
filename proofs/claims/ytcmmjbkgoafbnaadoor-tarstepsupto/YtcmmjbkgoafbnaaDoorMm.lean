/-
  Own texts of this seat, one behind the other: what each says stands ahead of it.
-/
import Derived.Test.YtcmmjbkgoafbnaaDoorMl
import Derived.Test.YtcmmjbkgoafbnaaDoorMh
import Derived.Test.YtcmmjbkgoafbnaaDoorMb
import Derived.Deep.CutBlock
import Derived.Deep.DeepCutAuto
import Derived.BigQuiet
import Derived.Test.YtcmmjbkgoafbnaaDoorMg
/-
  What the document's Text and decimal come to.
-/
namespace Go.Proofs.YtcmmjbkgoafbnaaDoor
open Go.RowKit
set_option linter.unusedVariables false
theorem ttx_at : ∀ {l : List Nat} {k : Nat}, l[k]? = some 0 → (∀ j y, j < k → l[j]? = some y → y ≠ 0) → ttx l = l.take k
  | [], k, h, _ => by simp at h
  | x :: l, 0, h, _ => by
    simp at h
    subst h
    rfl
  | x :: l, k + 1, h, hp => by
    have hx : (x != 0) = true := by simpa using hp 0 x (by omega) rfl
    have := ttx_at (l := l) (k := k) (by simpa using h) fun j y hj hy => hp (j + 1) y (by omega) (by simpa using hy)
    unfold ttx at this ⊢
    rw [List.takeWhile_cons, hx, if_pos rfl, this, List.take_succ_cons]
theorem ttx_none {l : List Nat} (hp : ∀ j y, j < l.length → l[j]? = some y → y ≠ 0) : ttx l = l := ttx_all fun c hc => by
  obtain ⟨i, hi, rfl⟩ := List.getElem_of_mem hc
  exact hp i _ hi (List.getElem?_eq_getElem hi)
theorem lies_take {w : World} {b o : Nat} {l : List Nat} (h : Lies w (some ⟨b, o, none⟩) l) (k : Nat) : Lies w (some ⟨b, o, none⟩) (l.take k) := by
  rw [← List.take_append_drop k l] at h
  rcases h with h | ⟨b', o', ha, hc⟩
  · exact Or.inl (List.append_eq_nil_iff.1 h).1
  · refine Or.inr ⟨b', o', ha, fun i x hx => hc i x ?_⟩
    rw [List.getElem?_append_left (List.getElem?_eq_some_iff.1 hx).1]
    exact hx
set_option maxHeartbeats 1000000 in
theorem dtext_c (w : World) (a : Option Addr) (l : List Nat) (L C : Nat) (hL : l.length = L) (hLb : L ≤ 1000000000000) (hLC : L ≤ C) (ho : Oct l) (hli : Lies w a l) : Calls Tryd.prog 51 #[.slice a L C] w fun e w' => e = .returned (.string (st (ttx l))) ∧ w = w' := by
  have A : Aside (l.length = L ∧ L ≤ 1000000000000 ∧ L ≤ C ∧ Oct l ∧ Lies w a l) := ⟨hL, hLb, hLC, ho, hli⟩
  obtain ⟨ans, hans⟩ : ∃ ans, st (ttx l) = ans := ⟨_, rfl⟩
  rw [hans]
  have AA : Aside (st (ttx l) = ans) := hans
  clear hL hLb hLC ho hli hans
  go_enter Tryd.func51, Tryd.ntmps51
  go_wp2_with fail
  go_loopg [3] L (fun gg s3 wr => ∃ k : Nat, s3 = .int .i64 (k : Int) ∧ wr = w ∧ Aside (k + gg = L ∧ ∀ j y, j < k → l[j]? = some y → y ≠ 0))
  case atStart => exact ⟨0, rfl, rfl, ⟨by omega, fun j y h => by omega⟩⟩
  case round =>
    obtain ⟨k, rfl, rfl, hI⟩ := hrel
    obtain ⟨hkg, hp⟩ := hI.out
    have a0 := A.out
    by_cases hk : k < L
    · have t1 : ((k : Int) < (L : Int)) = True := eq_true (by omega)
      have t2 : (k < L) = True := eq_true hk
      have hkb : (k : Int) < 1000000000001 := by omega
      obtain ⟨x, hx⟩ : ∃ x, l[k]? = some x := ⟨_, List.getElem?_eq_getElem (by omega)⟩
      obtain ⟨b, o, hab, hc⟩ : ∃ b o, a = some ⟨b, o, none⟩ ∧ ∀ (i y : Nat), l[i]? = some y → wr.cell? ⟨b, o + i, none⟩ = some (.int .u8 (y : Int)) := by
        rcases a0.2.2.2.2 with q | q
        · rw [q] at hx; simp at hx
        · exact q
      subst hab
      have hcx := hc k x hx
      by_cases h0 : x = 0
      · subst h0
        have t3 : (((0 : Nat) : Int) == 0) = true := rfl
        have hsl := slice_t b o L C k (by omega) a0.2.2.1 (by omega)
        have hcv := conv_st k C (by rw [List.length_take]; omega) (a0.2.2.2.1.take k) (lies_take a0.2.2.2.2 k)
        have e : st (l.take k) = ans := by rw [← AA.out, ttx_at hx hp]
        rw [e] at hcv
        clear hI hkg hp a0 hk hx hc e
        go_wp2_with fail
        first | go_ret | go_ret2
        exact ⟨rfl, rfl⟩
      · have t3 : ((x : Int) == 0) = false := by rw [beq_eq_false_iff_ne]; omega
        have AG : Aside (k + gk = L ∧ k < L ∧ ∀ j y, j < k + 1 → l[j]? = some y → y ≠ 0) := by
          refine ⟨hkg, hk, fun j y hj hy => ?_⟩
          by_cases e : j = k
          · rw [e, hx] at hy; cases hy; exact h0
          · exact hp j y (by omega) hy
        clear hI hkg hp a0 hk hx hc h0
        go_wp2_with fail
        have ag := AG.out
        go_roundg (gk - 1)
        case measure => omega
        case rel => exact ⟨k + 1, by go_num, rfl, ⟨by omega, ag.2.2⟩⟩
    · have t1 : ((k : Int) < (L : Int)) = False := eq_false (by omega)
      have t2 : (k < L) = False := eq_false hk
      have hcv := conv_st L C a0.1 a0.2.2.2.1 a0.2.2.2.2
      have e : st l = ans := by rw [← AA.out, ttx_none fun j y hj hy => hp j y (by omega) hy]
      rw [e] at hcv
      clear hI hkg hp a0 hk e
      go_wp2_with fail
      first | go_ret | go_ret2
      exact ⟨rfl, rfl⟩
/-- What decimal answers. -/
def dv (l : List Nat) : Nat := (tdec l).getD 0
def dok (l : List Nat) : Bool := (tdec l).isSome
theorem tdc_step (v : Nat) (x : Nat) (r : List Nat) : tdc v (x :: r) = if isd x = false then none else if 9223372036854775807 < 10 * v + (x - 48) then none else tdc (10 * v + (x - 48)) r := rfl
theorem tdec_eq {l : List Nat} (h : l ≠ []) : tdec l = tdc 0 l := by unfold tdec; rw [if_neg h]
set_option maxHeartbeats 1000000 in
theorem decimal_c (w : World) (l : List Nat) (ho : Oct l) (hl : l.length ≤ 1000000000000) : Calls Tryd.prog 64 #[.string (st l)] w fun e w' => e = .returned (.tuple #[.int .u64 (dv l : Int), .bool (dok l)]) ∧ w = w' := by
  obtain ⟨s, hs⟩ : ∃ s, s = st l := ⟨_, rfl⟩
  obtain ⟨L, hL⟩ : ∃ L, l.length = L := ⟨_, rfl⟩
  have z1 : s.size = L := by rw [hs, st_size, hL]
  rw [← hs]
  have A : Aside (s = st l ∧ l.length = L ∧ L ≤ 1000000000000 ∧ Oct l) := ⟨hs, hL, by omega, ho⟩
  obtain ⟨V, hV⟩ : ∃ V, dv l = V := ⟨_, rfl⟩
  obtain ⟨K, hK⟩ : ∃ K, dok l = K := ⟨_, rfl⟩
  rw [hV, hK]
  have AV : Aside (dv l = V ∧ dok l = K) := ⟨hV, hK⟩
  clear hs hL hl ho hV hK
  go_enter Tryd.func64, Tryd.ntmps64
  go_wp2_with fail
  go_loopg [4, 5] L (fun gg s4 s5 wr => ∃ (k v : Nat), s4 = .int .u64 (v : Int) ∧ s5 = .int .i64 (k : Int) ∧ wr = w ∧ Aside (k + gg = L ∧ v < 9223372036854775808 ∧ tdc 0 l = tdc v (l.drop k)))
  case atStart => exact ⟨0, 0, by go_num, rfl, rfl, ⟨by omega, by decide, by rw [List.drop_zero]⟩⟩
  case round =>
    obtain ⟨k, v, rfl, rfl, rfl, hI⟩ := hrel
    obtain ⟨hkg, hv, ht⟩ := hI.out
    have a0 := A.out
    by_cases hk : k < L
    · have t1 : ((k : Int) < (L : Int)) = True := eq_true (by omega)
      have t2 : (k < L) = True := eq_true hk
      have hkb : (k : Int) < 1000000000001 := by omega
      obtain ⟨x, hx⟩ : ∃ x, l[k]? = some x := ⟨_, List.getElem?_eq_getElem (by omega)⟩
      have hx0 : ∀ h : k < s.size, (s[k]'h).toNat = x := by rw [a0.1]; exact fun h => st_get a0.2.2.2 hx h
      have hxo := a0.2.2.2 x (List.mem_of_getElem? hx)
      have hne : l ≠ [] := by intro e; rw [e] at hx; simp at hx
      have av := AV.out
      rw [drop_more hx, tdc_step] at ht
      have bad : tdc 0 l = none → V = 0 ∧ K = false := fun h => by
        rw [← av.1, ← av.2]
        unfold dv dok
        rw [tdec_eq hne, h]
        exact ⟨rfl, rfl⟩
      by_cases h48 : x < 48
      · have t3 : ((x : Int) < 48) = True := eq_true (by omega)
        have t4 : (x < 48) = True := eq_true h48
        obtain ⟨rfl, rfl⟩ := bad (by rw [ht, if_pos (isd_false.2 (by omega))])
        clear hI hkg hv ht a0 hk hx hne bad av AV h48 hxo
        go_wp2_with fail
        first | go_ret | go_ret2
        exact ⟨rfl, rfl⟩
      have t3 : ((x : Int) < 48) = False := eq_false (by omega)
      have t4 : (x < 48) = False := eq_false h48
      by_cases h57 : 57 < x
      · have t5 : ((57 : Int) < (x : Int)) = True := eq_true (by omega)
        have t6 : (57 < x) = True := eq_true h57
        obtain ⟨rfl, rfl⟩ := bad (by rw [ht, if_pos (isd_false.2 (by omega))])
        clear hI hkg hv ht a0 hk hx hne bad av AV h48 h57 hxo
        go_wp2_with fail
        first | go_ret | go_ret2
        exact ⟨rfl, rfl⟩
      have t5 : ((57 : Int) < (x : Int)) = False := eq_false (by omega)
      have t6 : (57 < x) = False := eq_false h57
      rw [if_neg (by rw [isd_true.2 (by omega)]; simp)] at ht
      obtain ⟨d, hd⟩ : ∃ d : Nat, x = d + 48 := ⟨x - 48, by omega⟩
      have e1 : IntKind.u8.wrap ((x : Int) - 48) = (d : Int) := by rw [IntKind.wrap_u8]; omega
      have bd : (d : Int) < 10 := by omega
      obtain ⟨q, hq⟩ : ∃ q : Nat, (9223372036854775807 - d) / 10 = q := ⟨_, rfl⟩
      have e2 : IntKind.u64.wrap (9223372036854775807 - (d : Int)) = 9223372036854775807 - (d : Int) := by rw [tw_u64]; omega
      have e3 : Int.tdiv (9223372036854775807 - (d : Int)) 10 = (q : Int) := by rw [Int.tdiv_eq_ediv_of_nonneg (by omega)]; omega
      have e4 : (9223372036854775807 - (d : Int)) / 10 = (q : Int) := by omega
      have e9 : IntKind.u64.wrap ((q : Int)) = (q : Int) := by rw [tw_u64]; omega
      by_cases hbig : q < v
      · have t7 : ((q : Int) < (v : Int)) = True := eq_true (by omega)
        have t8 : (q < v) = True := eq_true hbig
        obtain ⟨rfl, rfl⟩ := bad (by rw [ht, if_pos (by omega)])
        clear hI hkg hv ht a0 hk hx hne bad av AV h48 h57 hxo hd hq hbig
        go_wp2_with fail
        first | go_ret | go_ret2
        exact ⟨rfl, rfl⟩
      · have t7 : ((q : Int) < (v : Int)) = False := eq_false (by omega)
        have t8 : (q < v) = False := eq_false hbig
        have e5 : IntKind.u64.wrap (10 * (v : Int)) = ((10 * v : Nat) : Int) := by rw [tw_u64]; omega
        have e6 : IntKind.u64.wrap (((10 * v : Nat) : Int) + (d : Int)) = ((10 * v + d : Nat) : Int) := by rw [tw_u64]; omega
        obtain ⟨v10, hv10⟩ : ∃ v10, 10 * v = v10 := ⟨_, rfl⟩
        obtain ⟨v11, hv11⟩ : ∃ v11, v10 + d = v11 := ⟨_, rfl⟩
        rw [hv10] at e5 e6
        rw [hv11] at e6
        rw [if_neg (by omega), show x - 48 = d by omega, hv10, hv11] at ht
        have AG : Aside (k + gk = L ∧ k < L ∧ v11 < 9223372036854775808 ∧ tdc 0 l = tdc v11 (l.drop (k + 1))) := ⟨hkg, hk, by omega, ht⟩
        clear hI hkg hv ht a0 hk hx hne bad av h48 h57 hxo hd hq hbig hv10 hv11
        go_wp2_with fail
        have ag := AG.out
        go_roundg (gk - 1)
        case measure => omega
        case rel => exact ⟨k + 1, v11, by go_num, by go_num, rfl, ⟨by omega, ag.2.2.1, ag.2.2.2⟩⟩
    · have t1 : ((k : Int) < (L : Int)) = False := eq_false (by omega)
      have t2 : (k < L) = False := eq_false hk
      have av := AV.out
      obtain ⟨tb, htb⟩ : ∃ tb, decide (0 < L) = tb := ⟨_, rfl⟩
      have t3 : decide ((0 : Int) < (L : Int)) = tb := by rw [← htb]; exact decide_eq_decide.2 (by omega)
      have hVv : V = v ∧ K = tb := by
        rw [List.drop_eq_nil_of_le (by omega)] at ht
        by_cases hne : l = []
        · rw [hne] at ht av
          have hL0 : L = 0 := by rw [← a0.2.1, hne]; rfl
          have hv0 : tdc 0 [] = some 0 := rfl
          have : tdc v [] = some v := rfl
          rw [hv0, this] at ht
          cases ht
          rw [← av.1, ← av.2, ← htb, hL0]
          exact ⟨rfl, rfl⟩
        · have hL0 : 0 < L := by rw [← a0.2.1]; exact List.length_pos_iff.2 hne
          rw [← av.1, ← av.2, ← htb]
          unfold dv dok
          rw [tdec_eq hne, ht]
          exact ⟨rfl, (decide_eq_true hL0).symm⟩
      obtain ⟨rfl, rfl⟩ := hVv
      have AB : Aside (decide (0 < L) = K) := htb
      clear hI hkg hv ht a0 hk av AV htb t3
      go_wp2_with fail
      first | go_ret | go_ret2
      rw [← AB.out]
      exact ⟨rfl, rfl⟩
end Go.Proofs.YtcmmjbkgoafbnaaDoor

/-
  What the document's record comes to.
-/
namespace Go.Proofs.YtcmmjbkgoafbnaaDoor
open Go.RowKit
set_option linter.unusedVariables false
/-- The first record: key, value, how many bytes; nothing and 0, if it is none. -/
def rcd (b : List Nat) : List Nat × List Nat × Nat := (trc b).getD ([], [], 0)
theorem num_ge : ∀ (m : List Nat) (v : Nat), v ≤ num v m
  | [], v => Nat.le_refl _
  | x :: r, v => by
    show v ≤ num (10 * v + (x - 48)) r
    have := num_ge r (10 * v + (x - 48))
    omega
theorem tdc_num : ∀ (m : List Nat) (v : Nat), (∀ x ∈ m, isd x = true) → num v m < 9223372036854775808 → tdc v m = some (num v m)
  | [], v, _, _ => rfl
  | x :: r, v, h, hb => by
    have hx := h x (by simp)
    have hn : num v (x :: r) = num (10 * v + (x - 48)) r := rfl
    rw [hn] at hb ⊢
    have := num_ge r (10 * v + (x - 48))
    rw [tdc_step, if_neg (by rw [hx]; simp), if_neg (by omega)]
    exact tdc_num r _ (fun y hy => h y (List.mem_cons_of_mem _ hy)) hb
theorem dg_dec {b : List Nat} {d : Nat} (h : Dg b d) (h5 : d ≤ 5) (h0 : d ≠ 0) : dv (b.take d) = num 0 (b.take d) ∧ dok (b.take d) = true := by
  have hb := h.bound
  have hp : 10 ^ d ≤ 10 ^ 5 := Nat.pow_le_pow_right (by decide) h5
  have hne : b.take d ≠ [] := by
    intro e
    have := congrArg List.length e
    rw [List.length_take, List.length_nil] at this
    have := h.1
    omega
  have ht : tdec (b.take d) = some (num 0 (b.take d)) := by
    rw [tdec_eq hne]
    refine tdc_num _ _ (fun x hx => ?_) (by omega)
    obtain ⟨i, hi, rfl⟩ := List.getElem_of_mem hx
    rw [List.length_take] at hi
    exact h.2 i _ (by omega) (by rw [List.getElem_take]; exact List.getElem?_eq_getElem (by omega))
  unfold dv dok
  rw [ht]
  exact ⟨rfl, rfl⟩
theorem rcd_none {b : List Nat} (h : tcut b = none) : rcd b = ([], [], 0) := by unfold rcd; rw [trc_cut h]; rfl
theorem tcut_five {b : List Nat} (h : Dg b 5) : tcut b = none := by
  have := h.le
  unfold tcut
  simp only
  rw [if_pos (Or.inr (Or.inl (by omega)))]
theorem rcd_no {b x : List Nat} {n : Nat} (h : tcut b = some (x, n)) (h2 : 61 ∉ x) : rcd b = ([], [], 0) := by
  unfold rcd
  rw [trc_of h, teq_none h2]
  rfl
theorem rcd_yes {b x : List Nat} {n i : Nat} (h : tcut b = some (x, n)) (h1 : x[i]? = some 61) (hp : ∀ j y, j < i → x[j]? = some y → y ≠ 61) : rcd b = (x.take i, x.drop (i + 1), n) := by
  unfold rcd
  rw [trc_of h, teq_at h1 hp]
  rfl
theorem slice_feu (b o L C f e : Nat) (h1 : f ≤ e) (h2 : e ≤ C) (h3 : f ≠ C) (he : e < 1000000000000) (W : World) : (Instr.slice 22 (.slice (some ⟨b, o, none⟩) L C) (some (.int .i64 (f : Int))) (some (.int .u64 (e : Int))) none).run Tryd.prog W = .ok (.slice (some ⟨b, o + f, none⟩) (e - f) (C - f)) W := by
  have hk1 : (f : Int) ≤ (e : Int) := by omega
  have hk2 : (e : Int) ≤ (C : Int) := by omega
  have hk0 : (0 : Int) ≤ (f : Int) := by omega
  have hk3 : (0 : Int) ≤ (e : Int) := by omega
  have hk4 : (e : Int) < 1000000000000 := by omega
  have hCk : ¬ C = f := by omega
  have hCk2 : ¬ (C : Int) = (f : Int) := by omega
  clear h1 h2 h3 he
  go_simp
/-- What record answers. -/
structure Rd (b : List Nat) (w : World) (e : Ending) (w' : World) : Prop where
  ex : ∃ m, e = .returned (.tuple #[.string (st (rcd b).1), .string (st (rcd b).2.1), .int .i64 ((rcd b).2.2 : Int)]) ∧ w' = w.drewN m
theorem Rd.no {b : List Nat} {w : World} (h : rcd b = ([], [], 0)) : Rd b w (.returned (.tuple #[.string ⟨#[]⟩, .string ⟨#[]⟩, .int .i64 0])) w := ⟨0, by rw [h]; rfl, rfl⟩
set_option maxRecDepth 20000 in
set_option maxHeartbeats 4000000 in
theorem record_c (w : World) (b o : Nat) (l : List Nat) (L C : Nat) (hL : l.length = L) (hLb : L ≤ 1000000) (hLC : L ≤ C) (h0 : 0 < L) (ho : Oct l) (hc : ∀ (i x : Nat), l[i]? = some x → w.cell? ⟨b, o + i, none⟩ = some (.int .u8 (x : Int))) : Calls Tryd.prog 63 #[.slice (some ⟨b, o, none⟩) L C] w fun e w' => Rd l w e w' := by
  have A : Aside (l.length = L ∧ L ≤ 1000000 ∧ L ≤ C ∧ 0 < L ∧ Oct l ∧ (∀ (i x : Nat), l[i]? = some x → w.cell? ⟨b, o + i, none⟩ = some (.int .u8 (x : Int)))) := ⟨hL, hLb, hLC, h0, ho, hc⟩
  have AL : Aside (Lies w (some ⟨b, o, none⟩) l) := Or.inr ⟨b, o, rfl, hc⟩
  clear hL hLb hLC h0 ho hc
  go_enter Tryd.func63, Tryd.ntmps63
  go_upto_block 0 with fail
  go_cut [5] (fun s5 wx => ∃ d : Nat, s5 = .int .i64 (d : Int) ∧ wx = w ∧ Aside (Dg l d ∧ d ≤ 5 ∧ (d = 5 ∨ d = l.length ∨ ∃ x, l[d]? = some x ∧ isd x = false)))
  case first =>
    go_wp2_with fail
    go_loopg [5] 6 (fun gg s5 wr => ∃ d : Nat, s5 = .int .i64 (d : Int) ∧ wr = w ∧ Aside (d + gg = 6 ∧ d ≤ 5 ∧ Dg l d))
    case atStart => exact ⟨0, rfl, rfl, ⟨rfl, by decide, dg_zero l⟩⟩
    case round =>
      obtain ⟨d, rfl, rfl, AR⟩ := hrel
      have a0 := A.out
      have r0 := AR.out
      by_cases hdL : d < L
      · have t1 : ((d : Int) < (L : Int)) = True := eq_true (by omega)
        have t2 : (d < L) = True := eq_true hdL
        obtain ⟨x, hx⟩ : ∃ x, l[d]? = some x := ⟨_, List.getElem?_eq_getElem (by omega)⟩
        have hcell := a0.2.2.2.2.2 d x hx
        have hxo := a0.2.2.2.2.1 x (List.mem_of_getElem? hx)
        by_cases h5 : d < 5
        · have t3 : ((d : Int) < 5) = True := eq_true (by omega)
          have t4 : (d < 5) = True := eq_true h5
          have e6 : (d : Int) < 10 := by omega
          by_cases h1 : 48 ≤ x
          · have e1 : ((48 : Int) ≤ (x : Int)) = True := eq_true (by omega)
            have e1n : (48 ≤ x) = True := eq_true h1
            by_cases h2 : x ≤ 57
            · have e2 : ((x : Int) ≤ 57) = True := eq_true (by omega)
              have e2n : (x ≤ 57) = True := eq_true h2
              have AG : Aside (Dg l (d + 1) ∧ d < 5 ∧ d + gk = 6) := ⟨r0.2.2.more hx (isd_true.2 ⟨h1, h2⟩), h5, r0.1⟩
              clear hx hxo h1 h2 a0 r0 AR hdL h5
              go_wp2_with fail
              have ag := AG.out
              go_roundg (gk - 1)
              case measure => omega
              case rel => exact ⟨d + 1, by go_num, rfl, ⟨by omega, by omega, ag.1⟩⟩
            · have e2 : ((x : Int) ≤ 57) = False := eq_false (by omega)
              have e2n : (x ≤ 57) = False := eq_false h2
              have AG : Aside (Dg l d ∧ d ≤ 5 ∧ (d = 5 ∨ d = l.length ∨ ∃ x, l[d]? = some x ∧ isd x = false)) := ⟨r0.2.2, by omega, Or.inr (Or.inr ⟨x, hx, isd_false.2 (by omega)⟩)⟩
              clear hx hxo h1 h2 a0 r0 AR hdL h5
              go_wp2_with fail
              go_meet
              exact ⟨d, rfl, rfl, AG⟩
          · have e1 : ((48 : Int) ≤ (x : Int)) = False := eq_false (by omega)
            have e1n : (48 ≤ x) = False := eq_false h1
            have AG : Aside (Dg l d ∧ d ≤ 5 ∧ (d = 5 ∨ d = l.length ∨ ∃ x, l[d]? = some x ∧ isd x = false)) := ⟨r0.2.2, by omega, Or.inr (Or.inr ⟨x, hx, isd_false.2 (by omega)⟩)⟩
            clear hx hxo h1 a0 r0 AR hdL h5
            go_wp2_with fail
            go_meet
            exact ⟨d, rfl, rfl, AG⟩
        · have t3 : ((d : Int) < 5) = False := eq_false (by omega)
          have t4 : (d < 5) = False := eq_false h5
          have AG : Aside (Dg l d ∧ d ≤ 5 ∧ (d = 5 ∨ d = l.length ∨ ∃ x, l[d]? = some x ∧ isd x = false)) := ⟨r0.2.2, by omega, Or.inl (by omega)⟩
          clear hx hxo hcell a0 r0 AR hdL h5
          go_wp2_with fail
          go_meet
          exact ⟨d, rfl, rfl, AG⟩
      · have t1 : ((d : Int) < (L : Int)) = False := eq_false (by omega)
        have t2 : (d < L) = False := eq_false hdL
        have AG : Aside (Dg l d ∧ d ≤ 5 ∧ (d = 5 ∨ d = l.length ∨ ∃ x, l[d]? = some x ∧ isd x = false)) := ⟨r0.2.2, by omega, Or.inr (Or.inl (by have := r0.2.2.1; omega))⟩
        clear a0 r0 AR hdL
        go_wp2_with fail
        go_meet
        exact ⟨d, rfl, rfl, AG⟩
  case rest =>
  obtain ⟨d, rfl, rfl, AD⟩ := hcut
  obtain ⟨hdg, hd5, hds⟩ := AD.out
  have a0 := A.out
  have hdl := hdg.1
  have hsl := slice_t b o L C d (by omega) a0.2.2.1 (by omega)
  have hcv := conv_st d C (by rw [List.length_take]; omega) (a0.2.2.2.2.1.take d) (lies_take AL.out d)
  have hde := decimal_c wc (l.take d) (a0.2.2.2.2.1.take d) (by rw [List.length_take]; omega)
  obtain ⟨sd, hsd⟩ : ∃ sd, st (l.take d) = sd := ⟨_, rfl⟩
  rw [hsd] at hcv hde
  have bd : (d : Int) ≤ 5 := by omega
  have bL : (L : Int) ≤ 1000000 := by omega
  by_cases hd0 : d = 0
  · have e1 : dok (l.take d) = false := by rw [hd0]; rfl
    rw [e1] at hde
    have hno : rcd l = ([], [], 0) := rcd_none (by
      rw [tcut_eq hdg (by omega) (by rcases hds with q | q | q; exact absurd q (by omega); exact Or.inr (Or.inl q); exact Or.inr (Or.inr q)), if_pos (Or.inl ?_)]
      rw [hd0, List.take_zero]
      show 0 < 0 + 2
      decide)
    have AN : Aside (rcd l = ([], [], 0)) := hno
    obtain ⟨V, hV⟩ : ∃ V, dv (l.take d) = V := ⟨_, rfl⟩
    rw [hV] at hde
    clear hno hdg hds a0 hdl e1 hsd AD hd0 hV
    go_wp2_with (go_at_call 64; refine hde.mono ?_; rintro e4 w4 ⟨rfl, rfl⟩)
    first | go_ret | go_ret2 | go_ret3
    exact Rd.no AN.out
  obtain ⟨e1, e2⟩ := dg_dec hdg hd5 hd0
  obtain ⟨n, hn⟩ : ∃ n, num 0 (l.take d) = n := ⟨_, rfl⟩
  rw [hn] at e1
  have hnb : n < 100000 := by
    have := hdg.bound
    have : 10 ^ d ≤ 10 ^ 5 := Nat.pow_le_pow_right (by decide) hd5
    omega
  rw [e1, e2] at hde
  have bn : (n : Int) < 100000 := by omega
  by_cases hd4 : d = 5
  · have hno : rcd l = ([], [], 0) := rcd_none (tcut_five (by rw [← hd4]; exact hdg))
    have AN : Aside (rcd l = ([], [], 0)) := hno
    have t1 : ((4 : Int) < (d : Int)) = True := eq_true (by omega)
    have t2 : (4 < d) = True := eq_true (by omega)
    clear hno hdg hds a0 hdl e1 e2 hsd AD hd0 hn hnb hd4
    go_wp2_with (go_at_call 64; refine hde.mono ?_; rintro e4 w4 ⟨rfl, rfl⟩)
    first | go_ret | go_ret2 | go_ret3
    exact Rd.no AN.out
  have t1 : ((4 : Int) < (d : Int)) = False := eq_false (by omega)
  have t2 : (4 < d) = False := eq_false (by omega)
  have hcut := tcut_eq hdg (by omega) (by rcases hds with q | q | q; exact absurd q hd4; exact Or.inr (Or.inl q); exact Or.inr (Or.inr q))
  rw [hn] at hcut
  by_cases hnL : L < n
  · have t3 : ((L : Int) < (n : Int)) = True := eq_true (by omega)
    have t4 : (L < n) = True := eq_true hnL
    have AN : Aside (rcd l = ([], [], 0)) := rcd_none (by rw [hcut, if_pos (Or.inr (Or.inl (by omega)))])
    clear hdg hds a0 hdl e1 e2 hsd AD hd0 hn hnb hd4 hcut hnL
    go_wp2_with (go_at_call 64; refine hde.mono ?_; rintro e4 w4 ⟨rfl, rfl⟩)
    first | go_ret | go_ret2 | go_ret3
    exact Rd.no AN.out
  have t3 : ((L : Int) < (n : Int)) = False := eq_false (by omega)
  have t4 : (L < n) = False := eq_false hnL
  by_cases hnd : n < d + 2
  · have t5 : ((n : Int) < (d : Int) + 2) = True := eq_true (by omega)
    have t6 : (n < d + 2) = True := eq_true hnd
    have AN : Aside (rcd l = ([], [], 0)) := rcd_none (by rw [hcut, if_pos (Or.inl hnd)])
    clear hdg hds a0 hdl e1 e2 hsd AD hd0 hn hnb hd4 hcut hnL hnd
    go_wp2_with (go_at_call 64; refine hde.mono ?_; rintro e4 w4 ⟨rfl, rfl⟩)
    first | go_ret | go_ret2 | go_ret3
    exact Rd.no AN.out
  have t5 : ((n : Int) < (d : Int) + 2) = False := eq_false (by omega)
  have t6 : (n < d + 2) = False := eq_false hnd
  obtain ⟨x, hx⟩ : ∃ x, l[d]? = some x := ⟨_, List.getElem?_eq_getElem (by omega)⟩
  have hcx := a0.2.2.2.2.2 d x hx
  have hxo := a0.2.2.2.2.1 x (List.mem_of_getElem? hx)
  have bdL : (d : Int) < (L : Int) := by omega
  have bdLn : d < L := by omega
  by_cases h32 : x = 32
  rotate_left
  · have t7 : ((x : Int) != 32) = true := by rw [bne_iff_ne]; omega
    have AN : Aside (rcd l = ([], [], 0)) := rcd_none (by rw [hcut, if_pos (Or.inr (Or.inr (Or.inl (by rw [hx]; intro e; cases e; exact h32 rfl))))])
    clear hdg hds a0 hdl e1 e2 hsd AD hd0 hn hnb hd4 hcut hnL hnd hx hxo h32
    go_wp2_with (go_at_call 64; refine hde.mono ?_; rintro e4 w4 ⟨rfl, rfl⟩)
    first | go_ret | go_ret2 | go_ret3
    exact Rd.no AN.out
  have t7 : ((x : Int) != 32) = false := by rw [h32]; rfl
  obtain ⟨p, hp⟩ : ∃ p, n = p + 1 := ⟨n - 1, by omega⟩
  obtain ⟨y, hy⟩ : ∃ y, l[p]? = some y := ⟨_, List.getElem?_eq_getElem (by omega)⟩
  have hcy := a0.2.2.2.2.2 p y hy
  have e3 : IntKind.u64.wrap ((n : Int) - 1) = (p : Int) := by rw [tw_u64]; omega
  have e3' : (n : Int) - 1 = (p : Int) := by omega
  have bp : (p : Int) < (L : Int) := by omega
  have bpn : p < L := by omega
  have hyo := a0.2.2.2.2.1 y (List.mem_of_getElem? hy)
  by_cases h10 : y = 10
  rotate_left
  · have t8 : ((y : Int) != 10) = true := by rw [bne_iff_ne]; omega
    have AN : Aside (rcd l = ([], [], 0)) := rcd_none (by rw [hcut, if_pos (Or.inr (Or.inr (Or.inr (by rw [hp, Nat.add_sub_cancel, hy]; intro e; cases e; exact h10 rfl))))])
    clear hdg hds a0 hdl e1 e2 hsd AD hd0 hn hnb hd4 hcut hnL hnd hx hxo h32 hp hy hyo h10
    go_wp2_with (go_at_call 64; refine hde.mono ?_; rintro e4 w4 ⟨rfl, rfl⟩)
    first | go_ret | go_ret2 | go_ret3
    exact Rd.no AN.out
  have t8 : ((y : Int) != 10) = false := by rw [h10]; rfl
  rw [if_neg (by
    rintro (q | q | q | q)
    · omega
    · omega
    · exact q (by rw [hx, h32])
    · exact q (by rw [hp, Nat.add_sub_cancel, hy, h10])), hp, Nat.add_sub_cancel] at hcut
  obtain ⟨f1, hf1⟩ : ∃ f1, d + 1 = f1 := ⟨_, rfl⟩
  obtain ⟨m, hm⟩ : ∃ m, p - f1 = m := ⟨_, rfl⟩
  obtain ⟨Cx, hCx⟩ : ∃ Cx, C - f1 = Cx := ⟨_, rfl⟩
  obtain ⟨xs, hxs⟩ : ∃ xs, (l.take p).drop f1 = xs := ⟨_, rfl⟩
  have hxl : xs.length = m := by rw [← hxs, List.length_drop, List.length_take]; omega
  have hx2 := slice_feu b o L C f1 p (by omega) (by omega) (by omega) (by omega)
  rw [hm, hCx] at hx2
  have e4 : (d : Int) + 1 = (f1 : Int) := by omega
  obtain ⟨o2, ho2⟩ : ∃ o2, o + f1 = o2 := ⟨_, rfl⟩
  rw [ho2] at hx2
  have hxc : ∀ (i z : Nat), xs[i]? = some z → wc.cell? ⟨b, o2 + i, none⟩ = some (.int .u8 (z : Int)) := fun i z hz => by
    rw [← hxs, List.getElem?_drop, List.getElem?_take] at hz
    split at hz
    · rw [← ho2, Nat.add_assoc]; exact a0.2.2.2.2.2 _ _ hz
    · simp at hz
  have AX : Aside (xs.length = m ∧ (∀ (i z : Nat), xs[i]? = some z → wc.cell? ⟨b, o2 + i, none⟩ = some (.int .u8 (z : Int))) ∧ Oct xs ∧ tcut l = some (xs, p + 1) ∧ m ≤ 1000000 ∧ m < Cx ∧ n = p + 1) := by
    refine ⟨hxl, hxc, by rw [← hxs]; exact ((a0.2.2.2.2.1.take p).drop _), by rw [hcut, hf1, hxs], by omega, by omega, hp⟩
  clear hdg hds a0 hdl e1 e2 hsd AD hd0 hn hnb hd4 hcut hnL hnd hx hxo h32 hp hy hyo h10 hm hCx hxs hxl hxc hf1 ho2
  go_upto_block 2 with (go_at_call 64; refine hde.mono ?_; rintro e4 w4 ⟨rfl, rfl⟩)
  clear hsl hcv hde hcx hcy e3 e3' e4 hx2 t1 t2 t3 t4 t5 t6 t7 t8 bdL bdLn bp bpn bL
  go_wp2_with fail
  go_loopg [9] m (fun gg s9 wr => ∃ i : Nat, s9 = .int .i64 (i : Int) ∧ wr = wc ∧ Aside (i + gg = m ∧ ∀ j y, j < i → xs[j]? = some y → y ≠ 61))
  case atStart => exact ⟨0, rfl, rfl, ⟨by omega, fun j y h => by omega⟩⟩
  case round =>
    obtain ⟨i, rfl, rfl, hI⟩ := hrel
    obtain ⟨hig, hpr⟩ := hI.out
    have ax := AX.out
    by_cases him : i < m
    · have t1 : ((i : Int) < (m : Int)) = True := eq_true (by omega)
      have t2 : (i < m) = True := eq_true him
      have bi : (i : Int) < 1000000 := by omega
      obtain ⟨z, hz⟩ : ∃ z, xs[i]? = some z := ⟨_, List.getElem?_eq_getElem (by omega)⟩
      have hcz := ax.2.1 i z hz
      by_cases h61 : z = 61
      · subst h61
        have t3 : (((61 : Nat) : Int) == 61) = true := rfl
        have hrc := rcd_yes ax.2.2.2.1 hz hpr
        have li : Lies wr (some ⟨b, o2, none⟩) xs := Or.inr ⟨b, o2, rfl, ax.2.1⟩
        obtain ⟨i1, hi1⟩ : ∃ i1, i + 1 = i1 := ⟨_, rfl⟩
        have e1 : (i : Int) + 1 = (i1 : Int) := by omega
        have e2 : IntKind.i64.wrap (i1 : Int) = (i1 : Int) := IntWalk.i64_in _ ⟨by omega, by omega⟩
        have hsa := slice_t b o2 m Cx i (by omega) (by omega) (by omega)
        have hsb := slice_f b o2 m Cx i1 (by omega) (by omega) (by omega)
        have ca := fun j => conv_st (w := wr.drewN j) i Cx (by rw [List.length_take]; omega) (ax.2.2.1.take i) ((lies_take li i).drewN j)
        have lib : Lies wr (some ⟨b, o2 + i1, none⟩) (xs.drop i1) := Or.inr ⟨b, o2 + i1, rfl, fun j y hy => by
          rw [List.getElem?_drop] at hy
          rw [Nat.add_assoc]
          exact ax.2.1 _ _ hy⟩
        have cb := fun j => conv_st (w := wr.drewN j) (m - i1) (Cx - i1) (by rw [List.length_drop]; omega) (ax.2.2.1.drop i1) (lib.drewN j)
        obtain ⟨sa, hsa2⟩ : ∃ sa, st (xs.take i) = sa := ⟨_, rfl⟩
        obtain ⟨sb, hsb2⟩ : ∃ sb, st (xs.drop i1) = sb := ⟨_, rfl⟩
        rw [hsa2] at ca
        rw [hsb2] at cb
        have AR : Aside (rcd l = (xs.take i, xs.drop i1, n) ∧ st (xs.take i) = sa ∧ st (xs.drop i1) = sb) := ⟨by rw [hrc, hi1, ax.2.2.2.2.2.2], hsa2, hsb2⟩
        clear hI hig hpr ax him hz hrc li lib hi1 hsa2 hsb2
        go_upto_region 12 with fail
        clear hcz t3 t1 t2
        go_quiet (fail)
        go_wp2_with fail
        first | go_ret | go_ret2 | go_ret3
        have ar := AR.out
        refine ⟨_, ?_, rfl⟩
        rw [ar.1]
        simp only [ar.2.1, ar.2.2]
        rfl
      · have t3 : ((z : Int) == 61) = false := by rw [beq_eq_false_iff_ne]; omega
        have AG : Aside (i + gk = m ∧ i < m ∧ ∀ j y, j < i + 1 → xs[j]? = some y → y ≠ 61) := by
          refine ⟨hig, him, fun j y hj hy => ?_⟩
          by_cases e : j = i
          · rw [e, hz] at hy; cases hy; exact h61
          · exact hpr j y (by omega) hy
        clear hI hig hpr ax him hz h61
        go_wp2_with fail
        have ag := AG.out
        go_roundg (gk - 1)
        case measure => omega
        case rel => exact ⟨i + 1, by go_num, rfl, ⟨by omega, ag.2.2⟩⟩
    · have t1 : ((i : Int) < (m : Int)) = False := eq_false (by omega)
      have t2 : (i < m) = False := eq_false him
      have AN : Aside (rcd l = ([], [], 0)) := rcd_no ax.2.2.2.1 (fun hm => by
        obtain ⟨j, hj, he⟩ := List.getElem_of_mem hm
        exact hpr j 61 (by omega) (by rw [List.getElem?_eq_getElem hj, he]) rfl)
      clear hI hig hpr ax him
      go_wp2_with fail
      first | go_ret | go_ret2 | go_ret3
      exact Rd.no AN.out
end Go.Proofs.YtcmmjbkgoafbnaaDoor

/-
  What the document's records come to.
-/
namespace Go.Proofs.YtcmmjbkgoafbnaaDoor
open Go.RowKit
set_option linter.unusedVariables false
section
variable {w : World} {lo R : Nat} {r : Dr} {v : Value}
theorem Dm.name (h : Dm w lo R r v) (m : List Nat) (s : ByteArray) (hs : st m = s) : Dm ((w.setCell ⟨R, 3, none⟩ (.string s)).setCell ⟨R, 4, none⟩ (.bool true)) lo R { r with nm := m, nd := true } v ∧ Only R w ((w.setCell ⟨R, 3, none⟩ (.string s)).setCell ⟨R, 4, none⟩ (.bool true)) ∧ (w.setCell ⟨R, 3, none⟩ (.string s)).cell? ⟨R, 4, none⟩ = some (.bool r.nd) ∧ (w.setCell ⟨R, 3, none⟩ (.string s)).frozen? ⟨R, 4, none⟩ = false := by
  have o : Only R w ((w.setCell ⟨R, 3, none⟩ (.string s)).setCell ⟨R, 4, none⟩ (.bool true)) := ((Only.refl R w).setCell 3 _).setCell 4 _
  have k := h.cells.set 3 (.string s)
  subst hs
  exact ⟨h.only o rfl (k.set 4 (.bool true)), o, (k.cell 4).trans rfl, k.frozen 4⟩
theorem Dm.sized (h : Dm w lo R r v) (z : Nat) : Dm ((w.setCell ⟨R, 5, none⟩ (.int .u64 (z : Int))).setCell ⟨R, 6, none⟩ (.bool true)) lo R { r with sz := z, sd := true } v ∧ Only R w ((w.setCell ⟨R, 5, none⟩ (.int .u64 (z : Int))).setCell ⟨R, 6, none⟩ (.bool true)) ∧ (w.setCell ⟨R, 5, none⟩ (.int .u64 (z : Int))).cell? ⟨R, 6, none⟩ = some (.bool r.sd) ∧ (w.setCell ⟨R, 5, none⟩ (.int .u64 (z : Int))).frozen? ⟨R, 6, none⟩ = false := by
  have o : Only R w ((w.setCell ⟨R, 5, none⟩ (.int .u64 (z : Int))).setCell ⟨R, 6, none⟩ (.bool true)) := ((Only.refl R w).setCell 5 _).setCell 6 _
  have k := h.cells.set 5 (.int .u64 (z : Int))
  exact ⟨h.only o rfl (k.set 6 (.bool true)), o, (k.cell 6).trans rfl, k.frozen 6⟩
end
/-- What is left by what says something of the next header. -/
def Af (r r' : Dr) (q : Cm × Nat) (p : Nat) : Prop := r'.ev = r.ev ∧ (q.2 = 0 → r'.cm = q.1 ∧ r'.sp = false ∧ r'.why = r.why ∧ r'.sat = r.sat) ∧ (q.2 ≠ 0 → r'.sp = true ∧ r'.why = q.2 ∧ r'.sat = p)
/-- Between records. -/
structure Rs (l : List Nat) (r : Dr) (p : Nat) (m : List Nat) (r1 : Dr) : Prop where
  ev : r1.ev = r.ev
  go : (r1.sp = false ∧ r1.why = r.why ∧ r1.sat = r.sat ∧ trr l r.cm = trr m r1.cm) ∨ (r1.sp = true ∧ Af r r1 (trr l r.cm) p)
theorem Rs.fin_stop {l m : List Nat} {r r1 : Dr} {p : Nat} (h : Rs l r p m r1) (hs : r1.sp = true) : Af r r1 (trr l r.cm) p := by
  rcases h.go with q | q
  · rw [q.1] at hs; cases hs
  · exact q.2
theorem Rs.fin_end {l : List Nat} {r r1 : Dr} {p : Nat} (h : Rs l r p [] r1) (hs : r1.sp = false) : Af r r1 (trr l r.cm) p := by
  rcases h.go with q | q
  · refine ⟨h.ev, fun _ => ?_, fun hn => ?_⟩
    · rw [q.2.2.2, trr_nil]; exact ⟨rfl, hs, q.2.1, q.2.2.1⟩
    · rw [q.2.2.2, trr_nil] at hn; exact absurd rfl hn
  · rw [q.1] at hs; cases hs
theorem Rs.bad {l m : List Nat} {r r1 : Dr} {p : Nat} (h : Rs l r p m r1) (hs : r1.sp = false) (hm : m ≠ []) (ht : trc m = none) : Af r (dstop 49 p r1) (trr l r.cm) p := by
  rcases h.go with q | q
  · rw [q.2.2.2, trr_none hm ht]
    exact ⟨h.ev, (fun e => by cases e), fun _ => ⟨rfl, rfl, rfl⟩⟩
  · rw [q.1] at hs; cases hs
/-- A record that is taken. -/
theorem Rs.next {l m k x : List Nat} {n y : Nat} {r r1 r2 : Dr} {p : Nat} (h : Rs l r p m r1) (hs : r1.sp = false) (ht : trc m = some (k, x, n)) (he : r2.ev = r1.ev) (hq : (tset k x r1.cm).2 = 0) (hc : r2.cm = (tset k x r1.cm).1) (h2 : r2.sp = false ∧ r2.why = r1.why ∧ r2.sat = r1.sat) : Rs l r p (m.drop n) r2 := by
  rcases h.go with q | q
  · refine ⟨he.trans h.ev, Or.inl ⟨h2.1, h2.2.1.trans q.2.1, h2.2.2.trans q.2.2.1, ?_⟩⟩
    rw [q.2.2.2, trr_some ht, if_neg (by rw [hq]; simp), hc]
  · rw [q.1] at hs; cases hs
/-- One that stops it. -/
theorem Rs.stop {l m k x : List Nat} {n y : Nat} {r r1 r2 : Dr} {p : Nat} (h : Rs l r p m r1) (hs : r1.sp = false) (ht : trc m = some (k, x, n)) (he : r2.ev = r1.ev) (hq : (tset k x r1.cm).2 = y) (hy : y ≠ 0) : Rs l r p (m.drop n) (dstop y p r2) := by
  rcases h.go with q | q
  · refine ⟨he.trans h.ev, Or.inr ⟨rfl, he.trans h.ev, fun e => ?_, fun _ => ?_⟩⟩
    · rw [q.2.2.2, trr_some ht, if_pos (by rw [hq]; exact hy), hq] at e; exact absurd e hy
    · rw [q.2.2.2, trr_some ht, if_pos (by rw [hq]; exact hy), hq]; exact ⟨rfl, rfl, rfl⟩
  · rw [q.1] at hs; cases hs
theorem tset_path (x : List Nat) (c : Cm) : tset kpath x c = tnam x c := by unfold tset; rw [if_pos rfl]
theorem tset_size (x : List Nat) (c : Cm) : tset ksize x c = tsiz x c := by unfold tset; rw [if_neg (by decide), if_pos rfl]
theorem tset_none {k x : List Nat} {c : Cm} (h1 : k ≠ kpath) (h2 : k ≠ ksize) : tset k x c = (c, 0) := by unfold tset; rw [if_neg h1, if_neg h2]
theorem tnam_big {x : List Nat} {c : Cm} (h : 256 < x.length) : (tnam x c).2 = 46 := by unfold tnam; rw [if_pos h]
theorem tnam_small {x : List Nat} {c : Cm} (h : ¬ 256 < x.length) : tnam x c = ((some x, c.2), 0) := by unfold tnam; rw [if_neg h]
theorem tsiz_ok2 {x : List Nat} {c : Cm} (h : dok x = true) : tsiz x c = ((c.1, some (dv x)), 0) := by
  unfold dok at h
  unfold tsiz dv
  cases e : tdec x with
  | none => rw [e] at h; cases h
  | some z => rfl
theorem tsiz_bad {x : List Nat} {c : Cm} (h : dok x = false) : (tsiz x c).2 = 48 := by
  unfold dok at h
  unfold tsiz
  cases e : tdec x with
  | none => rfl
  | some z => rw [e] at h; cases h
theorem trc_vlen {b k v : List Nat} {n : Nat} (h : trc b = some (k, v, n)) : v.length ≤ n := by
  unfold trc at h
  cases hc : tcut b with
  | none => rw [hc] at h; cases h
  | some q =>
    obtain ⟨x, n'⟩ := q
    rw [hc] at h
    simp only at h
    cases ht : teq x with
    | none => rw [ht] at h; cases h
    | some q2 =>
      obtain ⟨k', v'⟩ := q2
      rw [ht] at h
      simp only [Option.some.injEq, Prod.mk.injEq] at h
      obtain ⟨rfl, rfl, rfl⟩ := h
      have hx : x.length ≤ n' := by
        unfold tcut at hc
        simp only at hc
        split at hc
        · cases hc
        · simp only [Option.some.injEq, Prod.mk.injEq] at hc
          rw [← hc.1, ← hc.2, List.length_drop, List.length_take]
          omega
      have hv : v'.length ≤ x.length := by
        unfold teq at ht
        split at ht
        · simp only [Option.some.injEq, Prod.mk.injEq] at ht
          rw [← ht.2, List.length_drop]
          omega
        · cases ht
      omega
/-- What records answers. -/
structure Rsa (lo R : Nat) (r : Dr) (v : Value) (q : Cm × Nat) (p : Nat) (w : World) (e : Ending) (w' : World) : Prop where
  ex : e = .returned (.tuple #[]) ∧ ∃ r', Dm w' lo R r' v ∧ Only R w w' ∧ Af r r' q p
theorem cut_from (b o L C n : Nat) (h : n ≤ L) (hC : L ≤ C) : ∃ o2, (∀ W : World, (Instr.slice 22 (.slice (some ⟨b, o, none⟩) L C) (some (.int .i64 (n : Int))) none none).run Tryd.prog W = .ok (.slice (some ⟨b, o2, none⟩) (L - n) (C - n)) W) ∧ (L - n = 0 ∨ o2 = o + n) := by
  by_cases e : n = C
  · obtain rfl : L = C := by omega
    subst e
    exact ⟨o, fun W => by rw [Nat.sub_self]; exact slice_fC b o n W, Or.inl (Nat.sub_self _)⟩
  · exact ⟨o + n, fun W => slice_f b o L C n h hC e W, Or.inr rfl⟩
section
variable {lo R : Nat} {v : Value}
set_option maxRecDepth 20000 in
set_option maxHeartbeats 4000000 in
theorem drecords_c (w : World) (r : Dr) (p : Nat) (h : Dm w lo R r v) (hsp : r.sp = false) (hlo : lo ≤ R) (a : Option Addr) (l : List Nat) (L C : Nat) (hL : l.length = L) (hLb : L ≤ 1000000) (hLC : L ≤ C) (ho : Oct l) (hc : l = [] ∨ ∃ b o, a = some ⟨b, o, none⟩ ∧ b < lo ∧ ∀ (i x : Nat), l[i]? = some x → w.cell? ⟨b, o + i, none⟩ = some (.int .u8 (x : Int))) : Calls Tryd.prog 52 #[.pointer (some ⟨R, 0, none⟩), .slice a L C, .int .i64 (p : Int)] w fun e w' => Rsa lo R r v (trr l r.cm) p w e w' := by
  have A : Aside (Dm w lo R r v ∧ lo ≤ R ∧ Oct l ∧ L ≤ 1000000) := ⟨h, hlo, ho, hLb⟩
  have A0 : Aside (∃ m, Rs l r p m r ∧ m.length = L ∧ Oct m ∧ (m = [] ∨ ∃ b o, a = some ⟨b, o, none⟩ ∧ b < lo ∧ ∀ (i x : Nat), m[i]? = some x → w.cell? ⟨b, o + i, none⟩ = some (.int .u8 (x : Int)))) := ⟨l, ⟨rfl, Or.inl ⟨hsp, rfl, rfl, rfl⟩⟩, hL, ho, hc⟩
  clear h hsp hlo hL hLb ho hc
  go_enter Tryd.func52, Tryd.ntmps52
  (try go_wp2_with fail)
  go_loopg [1] L (fun gg s1 wr => ∃ (n c : Nat) (ax : Option Addr), s1 = .slice ax n c ∧ Aside (n = gg ∧ n ≤ c ∧ ∃ m r1, Rs l r p m r1 ∧ Dm wr lo R r1 v ∧ Only R w wr ∧ m.length = n ∧ Oct m ∧ n ≤ 1000000 ∧ (m = [] ∨ ∃ b o, ax = some ⟨b, o, none⟩ ∧ b < lo ∧ ∀ (i x : Nat), m[i]? = some x → wr.cell? ⟨b, o + i, none⟩ = some (.int .u8 (x : Int)))))
  case atStart =>
    obtain ⟨m, h1, h2, h3, h4⟩ := A0.out
    exact ⟨L, C, a, rfl, ⟨rfl, hLC, m, r, h1, A.out.1, Only.refl _ _, h2, h3, A.out.2.2.2, h4⟩⟩
  case round =>
    clear A0 hLC
    obtain ⟨n, c, ax, rfl, hI⟩ := hrel
    obtain ⟨hng, hnc, m, r1, hrs, hdm, hon, hml, hmo, hnb, hmc⟩ := hI.out
    have d7 := hdm.c7
    have bn : (n : Int) ≤ 1000000 := by omega
    by_cases hn : n = 0
    · subst hn
      have t0 : m = [] := List.eq_nil_of_length_eq_zero hml
      have AF : Aside (∃ r', Dm wr lo R r' v ∧ Only R w wr ∧ Af r r' (trr l r.cm) p) := by
        subst t0
        cases hq : r1.sp with
        | false => exact ⟨r1, hdm, hon, hrs.fin_end hq⟩
        | true => exact ⟨r1, hdm, hon, hrs.fin_stop hq⟩
      clear hI hng hrs hdm hon hml hmo hmc d7 t0
      go_wp2_with fail
      first | go_end0 | (refine bodyPost_ret (results_none rfl _ _ _) rfl ?_)
      exact ⟨rfl, AF.out⟩
    have t1 : ((0 : Int) < (n : Int)) = True := eq_true (by omega)
    have t1n : (0 < n) = True := eq_true (by omega)
    cases hq : r1.sp with
    | true =>
      rw [hq] at d7
      have AF : Aside (∃ r', Dm wr lo R r' v ∧ Only R w wr ∧ Af r r' (trr l r.cm) p) := ⟨r1, hdm, hon, hrs.fin_stop hq⟩
      clear hI hng hrs hdm hon hml hmo hmc hq hn
      go_wp2_with fail
      first | go_end0 | (refine bodyPost_ret (results_none rfl _ _ _) rfl ?_)
      exact ⟨rfl, AF.out⟩
    | false =>
      rw [hq] at d7
      have hmne : m ≠ [] := by intro e; rw [e] at hml; simp at hml; omega
      obtain ⟨b, o, rfl, hbl, hcell⟩ : ∃ b o, ax = some ⟨b, o, none⟩ ∧ b < lo ∧ ∀ (i x : Nat), m[i]? = some x → wr.cell? ⟨b, o + i, none⟩ = some (.int .u8 (x : Int)) := by
        rcases hmc with q | q
        · exact absurd q hmne
        · exact q
      have hrec := record_c wr b o m n c hml (by omega) hnc (by omega) hmo hcell
      cases ht : trc m with
      | none =>
        have hr0 : rcd m = ([], [], 0) := by unfold rcd; rw [ht]; rfl
        have AF : Aside (Af r (dstop 49 p r1) (trr l r.cm) p ∧ Only R w wr ∧ rcd m = ([], [], 0) ∧ Dm wr lo R r1 v) := ⟨hrs.bad hq hmne ht, hon, hr0, hdm⟩
        clear hI hng hrs hdm hon hml hmo hmc hq hn hmne hcell ht hr0
        go_wp2_with (first
          | (go_at_call 63; refine hrec.mono ?_; intro e2 w2 h2; obtain ⟨j, he2, hw2⟩ := h2.ex; rw [AF.out.2.2.1] at he2; have he3 : e2 = .returned (.tuple #[.string ⟨#[]⟩, .string ⟨#[]⟩, .int .i64 0]) := he2; subst he3; have hst := dstop_c 49 p (AF.out.2.2.2.drewN j); rw [← hw2] at hst; have AW : Aside (w2 = wr.drewN j) := hw2; clear hw2 he2 h2)
          | (go_at_call 27; refine hst.mono ?_; rintro e3 w3 ⟨rfl, hd3, ho3⟩))
        first | go_end0 | (refine bodyPost_ret (results_none rfl _ _ _) rfl ?_)
        refine ⟨rfl, _, hd3, ?_, AF.out.1⟩
        rw [AW.out] at ho3
        exact (AF.out.2.1.drewN j).trans ho3
      | some q3 =>
        obtain ⟨k, x, n2⟩ := q3
        obtain ⟨hx1, hx2, hn2, hnl⟩ := trc_mem ht
        rw [hml] at hnl
        have hr0 : rcd m = (k, x, n2) := by unfold rcd; rw [ht]; rfl
        obtain ⟨o2, hsl, ho2⟩ := cut_from b o n c n2 hnl hnc
        obtain ⟨n3, hn3⟩ : ∃ n3, n - n2 = n3 := ⟨_, rfl⟩
        obtain ⟨c3, hc3⟩ : ∃ c3, c - n2 = c3 := ⟨_, rfl⟩
        rw [hn3, hc3] at hsl
        rw [hn3] at ho2
        have hko : Oct k := fun y hy => hmo y (hx2 y hy)
        have hxo : Oct x := fun y hy => hmo y (hx1 y hy)
        have hxl : x.length ≤ 1000000 := by
          have := trc_vlen ht
          omega
        have t2 : ((n2 : Int) == 0) = false := by rw [beq_eq_false_iff_ne]; omega
        have bn2 : (n2 : Int) ≤ (n : Int) := by omega
        have AN : Aside (∀ u, Only R wr u → n3 < gk ∧ n3 ≤ c3 ∧ Only R w u ∧ (m.drop n2).length = n3 ∧ Oct (m.drop n2) ∧ n3 ≤ 1000000 ∧ (m.drop n2 = [] ∨ ∃ b' o', (some ⟨b, o2, none⟩ : Option Addr) = some ⟨b', o', none⟩ ∧ b' < lo ∧ ∀ (i y : Nat), (m.drop n2)[i]? = some y → u.cell? ⟨b', o' + i, none⟩ = some (.int .u8 (y : Int)))) := fun u hu => by
          refine ⟨by omega, by omega, hon.trans hu, by rw [List.length_drop]; omega, hmo.drop _, by omega, ?_⟩
          rcases ho2 with e | e
          · exact Or.inl (List.eq_nil_of_length_eq_zero (by rw [List.length_drop]; omega))
          · refine Or.inr ⟨b, o2, rfl, hbl, fun i y hy => ?_⟩
            rw [List.getElem?_drop] at hy
            rw [e, Nat.add_assoc]
            exact (hu.cell (p := ⟨b, o + (n2 + i), none⟩) (by show b ≠ R; have := A.out.2.1; omega)).trans (hcell _ _ hy)
        have AR : Aside (Rs l r p m r1 ∧ r1.sp = false ∧ trc m = some (k, x, n2) ∧ Dm wr lo R r1 v ∧ rcd m = (k, x, n2) ∧ Oct k ∧ Oct x ∧ x.length ≤ 1000000) := ⟨hrs, hq, ht, hdm, hr0, hko, hxo, hxl⟩
        obtain ⟨sk, hsk⟩ : ∃ sk, st k = sk := ⟨_, rfl⟩
        obtain ⟨sx, hsx⟩ : ∃ sx, st x = sx := ⟨_, rfl⟩
        obtain ⟨LX, hLX⟩ : ∃ LX, x.length = LX := ⟨_, rfl⟩
        have zx : sx.size = LX := by rw [← hsx, st_size, hLX]
        have bLX : (LX : Int) ≤ 1000000 := by omega
        have AS : Aside (st k = sk ∧ st x = sx ∧ x.length = LX) := ⟨hsk, hsx, hLX⟩
        have q1 := key_path hko
        have q2 := key_size hko
        rw [hsk] at q1 q2
        have hrec2 : Calls Tryd.prog 63 #[.slice (some ⟨b, o, none⟩) n c] wr fun e w' => e = .returned (.tuple #[.string sk, .string sx, .int .i64 (n2 : Int)]) ∧ ∃ j, w' = wr.drewN j := hrec.mono fun e w' h2 => by
          obtain ⟨j, he, hw⟩ := h2.ex
          rw [hr0] at he
          simp only [hsk, hsx] at he
          exact ⟨he, j, hw⟩
        clear hI hng hrs hdm hon hml hmo hmc hq hn hmne hcell ht hr0 hrec hx1 hx2 hn2 hnl hn3 hc3 ho2 hko hxo hxl hsk hsx hLX hbl
        by_cases hkp : k = kpath
        · have t3 : (sk.toList == [112, 97, 116, 104]) = true := by rw [q1]; exact decide_eq_true hkp
          clear q1 q2
          by_cases hbig : 256 < LX
          · have t4 : ((256 : Int) < (LX : Int)) = True := eq_true (by omega)
            have t4n : (256 < LX) = True := eq_true hbig
            go_upto_region 4 with (go_at_call 63; refine hrec2.mono ?_; rintro e2 w2 ⟨rfl, j, hw2⟩; have AW2 : Aside (w2 = wr.drewN j) := hw2; clear hw2)
            have D2 := AR.out.2.2.2.1.drewN j
            rw [← AW2.out] at D2
            have O2 : Only R wr w2 := by rw [AW2.out]; exact (Only.refl R wr).drewN j
            clear hrec2
            have c3' := D2.c3
            have f3' := D2.fz 3
            obtain ⟨D3, O3, c4', f4'⟩ := D2.name x sx AS.out.2.1
            obtain ⟨w4, hw4⟩ : ∃ w4, (w2.setCell ⟨R, 3, none⟩ (.string sx)).setCell ⟨R, 4, none⟩ (.bool true) = w4 := ⟨_, rfl⟩
            rw [hw4] at D3 O3
            have hst := dstop_c 46 p D3
            have A3 : Aside (Only R wr w4 ∧ k = kpath ∧ 256 < LX) := ⟨O2.trans O3, hkp, hbig⟩
            clear D2 D3 O2 O3 hkp hbig
            go_upto_region 10 with fail
            (try rw [hw4])
            clear hw4 c3' f3' c4' f4'
            go_wp2_with (go_at_call 27; refine hst.mono ?_; rintro e5 w5 ⟨rfl, D5, O5⟩)
            have an := AN.out _ (A3.out.1.trans O5)
            go_roundg n3
            case measure => exact an.1
            case rel => exact ⟨n3, c3, some ⟨b, o2, none⟩, rfl, ⟨rfl, an.2.1, m.drop n2, dstop 46 p { r1 with nm := x, nd := true }, AR.out.1.stop (n := n2) AR.out.2.1 AR.out.2.2.1 rfl (by rw [A3.out.2.1, tset_path]; exact tnam_big (by rw [AS.out.2.2]; exact A3.out.2.2)) (by decide), D5, an.2.2.1, an.2.2.2.1, an.2.2.2.2.1, an.2.2.2.2.2.1, an.2.2.2.2.2.2⟩⟩
          · have t4 : ((256 : Int) < (LX : Int)) = False := eq_false (by omega)
            have t4n : (256 < LX) = False := eq_false hbig
            go_upto_region 4 with (go_at_call 63; refine hrec2.mono ?_; rintro e2 w2 ⟨rfl, j, hw2⟩; have AW2 : Aside (w2 = wr.drewN j) := hw2; clear hw2)
            have D2 := AR.out.2.2.2.1.drewN j
            rw [← AW2.out] at D2
            have O2 : Only R wr w2 := by rw [AW2.out]; exact (Only.refl R wr).drewN j
            clear hrec2
            have c3' := D2.c3
            have f3' := D2.fz 3
            obtain ⟨D3, O3, c4', f4'⟩ := D2.name x sx AS.out.2.1
            have A3 : Aside (Dm ((w2.setCell ⟨R, 3, none⟩ (.string sx)).setCell ⟨R, 4, none⟩ (.bool true)) lo R { r1 with nm := x, nd := true } v ∧ Only R wr ((w2.setCell ⟨R, 3, none⟩ (.string sx)).setCell ⟨R, 4, none⟩ (.bool true)) ∧ k = kpath ∧ ¬ 256 < LX) := ⟨D3, O2.trans O3, hkp, hbig⟩
            clear D2 D3 O2 O3 hkp hbig
            go_wp2_with fail
            have an := AN.out _ (A3.out.2.1)
            go_roundg n3
            case measure => exact an.1
            case rel => exact ⟨n3, c3, some ⟨b, o2, none⟩, rfl, ⟨rfl, an.2.1, m.drop n2, { r1 with nm := x, nd := true }, AR.out.1.next AR.out.2.1 AR.out.2.2.1 (y := 0) rfl (by rw [A3.out.2.2.1, tset_path, tnam_small (by rw [AS.out.2.2]; exact A3.out.2.2.2)]) (by rw [A3.out.2.2.1, tset_path, tnam_small (by rw [AS.out.2.2]; exact A3.out.2.2.2)]; rfl) ⟨AR.out.2.1, rfl, rfl⟩, A3.out.1, an.2.2.1, an.2.2.2.1, an.2.2.2.2.1, an.2.2.2.2.2.1, an.2.2.2.2.2.2⟩⟩
        have t3 : (sk.toList == [112, 97, 116, 104]) = false := by rw [q1]; exact decide_eq_false hkp
        by_cases hks : k = ksize
        · have t4 : (sk.toList == [115, 105, 122, 101]) = true := by rw [q2]; exact decide_eq_true hks
          clear q1 q2
          cases hdk : dok x with
          | false =>
            go_upto_region 4 with (go_at_call 63; refine hrec2.mono ?_; rintro e2 w2 ⟨rfl, j, hw2⟩; have AW2 : Aside (w2 = wr.drewN j) := hw2; clear hw2)
            have D2 := AR.out.2.2.2.1.drewN j
            rw [← AW2.out] at D2
            have O2 : Only R wr w2 := by rw [AW2.out]; exact (Only.refl R wr).drewN j
            clear hrec2
            have hdec := decimal_c w2 x AR.out.2.2.2.2.2.2.1 (by have := AR.out.2.2.2.2.2.2.2; omega)
            rw [AS.out.2.1, hdk] at hdec
            have c3' := D2.c5
            have f3' := D2.fz 5
            obtain ⟨D3, O3, c4', f4'⟩ := D2.sized (dv x)
            obtain ⟨V, hV⟩ : ∃ V, dv x = V := ⟨_, rfl⟩
            rw [hV] at hdec D3 O3 c4' f4'
            have AV : Aside (dv x = V) := hV
            obtain ⟨w4, hw4⟩ : ∃ w4, (w2.setCell ⟨R, 5, none⟩ (.int .u64 (V : Int))).setCell ⟨R, 6, none⟩ (.bool true) = w4 := ⟨_, rfl⟩
            rw [hw4] at D3 O3
            have hst := dstop_c 48 p D3
            have A3 : Aside (Only R wr w4 ∧ k = ksize ∧ dok x = false) := ⟨O2.trans O3, hks, hdk⟩
            clear D2 D3 O2 O3 hks hdk hV hkp
            go_upto_region 16 with (go_at_call 64; refine hdec.mono ?_; rintro e3 w3 ⟨rfl, rfl⟩)
            (try rw [hw4])
            clear hw4 c3' f3' c4' f4' hdec
            go_wp2_with (go_at_call 27; refine hst.mono ?_; rintro e5 w5 ⟨rfl, D5, O5⟩)
            have an := AN.out _ (A3.out.1.trans O5)
            go_roundg n3
            case measure => exact an.1
            case rel => exact ⟨n3, c3, some ⟨b, o2, none⟩, rfl, ⟨rfl, an.2.1, m.drop n2, dstop 48 p { r1 with sz := V, sd := true }, AR.out.1.stop (n := n2) AR.out.2.1 AR.out.2.2.1 rfl (by rw [A3.out.2.1, tset_size]; exact tsiz_bad A3.out.2.2) (by decide), D5, an.2.2.1, an.2.2.2.1, an.2.2.2.2.1, an.2.2.2.2.2.1, an.2.2.2.2.2.2⟩⟩
          | true =>
            go_upto_region 4 with (go_at_call 63; refine hrec2.mono ?_; rintro e2 w2 ⟨rfl, j, hw2⟩; have AW2 : Aside (w2 = wr.drewN j) := hw2; clear hw2)
            have D2 := AR.out.2.2.2.1.drewN j
            rw [← AW2.out] at D2
            have O2 : Only R wr w2 := by rw [AW2.out]; exact (Only.refl R wr).drewN j
            clear hrec2
            have hdec := decimal_c w2 x AR.out.2.2.2.2.2.2.1 (by have := AR.out.2.2.2.2.2.2.2; omega)
            rw [AS.out.2.1, hdk] at hdec
            have c3' := D2.c5
            have f3' := D2.fz 5
            obtain ⟨D3, O3, c4', f4'⟩ := D2.sized (dv x)
            obtain ⟨V, hV⟩ : ∃ V, dv x = V := ⟨_, rfl⟩
            rw [hV] at hdec D3 O3 c4' f4'
            have AV : Aside (dv x = V) := hV
            have A3 : Aside (Dm ((w2.setCell ⟨R, 5, none⟩ (.int .u64 (V : Int))).setCell ⟨R, 6, none⟩ (.bool true)) lo R { r1 with sz := V, sd := true } v ∧ Only R wr ((w2.setCell ⟨R, 5, none⟩ (.int .u64 (V : Int))).setCell ⟨R, 6, none⟩ (.bool true)) ∧ k = ksize ∧ dok x = true) := ⟨D3, O2.trans O3, hks, hdk⟩
            clear D2 D3 O2 O3 hks hdk hV hkp
            go_wp2_with (go_at_call 64; refine hdec.mono ?_; rintro e3 w3 ⟨rfl, rfl⟩)
            have an := AN.out _ (A3.out.2.1)
            go_roundg n3
            case measure => exact an.1
            case rel => exact ⟨n3, c3, some ⟨b, o2, none⟩, rfl, ⟨rfl, an.2.1, m.drop n2, { r1 with sz := V, sd := true }, AR.out.1.next AR.out.2.1 AR.out.2.2.1 (y := 0) rfl (by rw [A3.out.2.2.1, tset_size, tsiz_ok2 A3.out.2.2.2]) (by rw [A3.out.2.2.1, tset_size, tsiz_ok2 A3.out.2.2.2, AV.out]; rfl) ⟨AR.out.2.1, rfl, rfl⟩, A3.out.1, an.2.2.1, an.2.2.2.1, an.2.2.2.2.1, an.2.2.2.2.2.1, an.2.2.2.2.2.2⟩⟩
        have t4 : (sk.toList == [115, 105, 122, 101]) = false := by rw [q2]; exact decide_eq_false hks
        clear q1 q2
        have A3 : Aside (k ≠ kpath ∧ k ≠ ksize) := ⟨hkp, hks⟩
        clear hkp hks
        go_upto_region 4 with (go_at_call 63; refine hrec2.mono ?_; rintro e2 w2 ⟨rfl, j, hw2⟩; have AW2 : Aside (w2 = wr.drewN j) := hw2; clear hw2)
        have D2 := AR.out.2.2.2.1.drewN j
        rw [← AW2.out] at D2
        have O2 : Only R wr w2 := by rw [AW2.out]; exact (Only.refl R wr).drewN j
        clear hrec2
        have A4 : Aside (Dm w2 lo R r1 v ∧ Only R wr w2) := ⟨D2, O2⟩
        clear D2 O2
        go_wp2_with fail
        have an := AN.out _ (A4.out.2)
        go_roundg n3
        case measure => exact an.1
        case rel => exact ⟨n3, c3, some ⟨b, o2, none⟩, rfl, ⟨rfl, an.2.1, m.drop n2, r1, AR.out.1.next AR.out.2.1 AR.out.2.2.1 (y := 0) rfl (by rw [tset_none A3.out.1 A3.out.2]) (by rw [tset_none A3.out.1 A3.out.2]) ⟨AR.out.2.1, rfl, rfl⟩, A4.out.1, an.2.2.1, an.2.2.2.1, an.2.2.2.2.1, an.2.2.2.2.2.1, an.2.2.2.2.2.2⟩⟩
end
end Go.Proofs.YtcmmjbkgoafbnaaDoor

/-
  What the document's special comes to.
-/
namespace Go.Proofs.YtcmmjbkgoafbnaaDoor
open Go.RowKit
set_option linter.unusedVariables false
section
variable {lo R : Nat} {v : Value}
set_option maxRecDepth 20000 in
set_option maxHeartbeats 4000000 in
theorem dspecial_c (w : World) (r : Dr) (p k : Nat) (hk : k < 256) (hok : town k = false) (h : Dm w lo R r v) (hsp : r.sp = false) (hlo : lo ≤ R) (a : Option Addr) (l : List Nat) (L C : Nat) (hL : l.length = L) (hLb : 2 ≤ tus k → L ≤ 1000000) (hLC : L ≤ C) (ho : Oct l) (hc : l = [] ∨ ∃ b o, a = some ⟨b, o, none⟩ ∧ b < lo ∧ ∀ (i x : Nat), l[i]? = some x → w.cell? ⟨b, o + i, none⟩ = some (.int .u8 (x : Int))) : Calls Tryd.prog 34 #[.pointer (some ⟨R, 0, none⟩), .int .u8 (k : Int), .slice a L C, .int .i64 (p : Int)] w fun e w' => Rsa lo R r v (tfin (tus k) l r.cm) p w e w' := by
  by_cases h76 : k = 76
  · subst h76
    have hLb := hLb (by decide)
    have hli : Lies w a l := by
      rcases hc with q | ⟨b, o, q1, _, q2⟩
      · exact Or.inl q
      · exact Or.inr ⟨b, o, q1, q2⟩
    have htx := dtext_c w a l L C hL (by omega) hLC ho hli
    have hto := oct_ttx ho
    have htl := ttx_len l
    obtain ⟨x, hx⟩ : ∃ x, ttx l = x := ⟨_, rfl⟩
    obtain ⟨sx, hsx⟩ : ∃ sx, st x = sx := ⟨_, rfl⟩
    obtain ⟨LX, hLX⟩ : ∃ LX, x.length = LX := ⟨_, rfl⟩
    have zx : sx.size = LX := by rw [← hsx, st_size, hLX]
    rw [hx, hsx] at htx
    rw [hx, hLX] at htl
    have c3 := h.c3
    have f3 := h.fz 3
    obtain ⟨D3, O3, c4, f4⟩ := h.name x sx hsx
    have bLX : (LX : Int) ≤ 1000000 := by omega
    have e1 : ((76 : Nat) : Int) = 76 := rfl
    have htf : tfin (tus 76) l r.cm = tnam x r.cm := by
      show tfin 2 l r.cm = _
      unfold tfin
      rw [if_pos rfl, hx]
    rw [htf]
    obtain ⟨w4, hw4⟩ : ∃ w4, (w.setCell ⟨R, 3, none⟩ (.string sx)).setCell ⟨R, 4, none⟩ (.bool true) = w4 := ⟨_, rfl⟩
    rw [hw4] at D3 O3
    have c5 : w4.cell? ⟨R, 3, none⟩ = some (.string sx) := by rw [← hsx]; exact D3.c3
    have A3 : Aside (Dm w4 lo R { r with nm := x, nd := true } v ∧ Only R w w4 ∧ r.sp = false ∧ x.length = LX) := ⟨D3, O3, hsp, hLX⟩
    by_cases hbig : 256 < LX
    · have t4 : ((256 : Int) < (LX : Int)) = True := eq_true (by omega)
      have t4n : (256 < LX) = True := eq_true hbig
      have hst := dstop_c 46 p D3
      have AB : Aside (256 < LX) := hbig
      clear h hsp hlo hL hLb hLC ho hc hli hto htl hx hsx hLX D3 O3 hbig htf hk hok
      go_enter Tryd.func34, Tryd.ntmps34
      go_upto_region 3 with (go_at_call 51; refine htx.mono ?_; rintro e2 w2 ⟨rfl, rfl⟩)
      (try rw [hw4])
      clear hw4 c3 f3 c4 f4 htx
      go_wp2_with (go_at_call 27; refine hst.mono ?_; rintro e5 w5 ⟨rfl, D5, O5⟩)
      first | go_end0 | (refine bodyPost_ret (results_none rfl _ _ _) rfl ?_)
      refine ⟨rfl, _, D5, A3.out.2.1.trans O5, rfl, fun e => ?_, fun _ => ?_⟩
      · rw [tnam_big (by rw [A3.out.2.2.2]; exact AB.out)] at e; cases e
      · rw [tnam_big (by rw [A3.out.2.2.2]; exact AB.out)]; exact ⟨rfl, rfl, rfl⟩
    · have t4 : ((256 : Int) < (LX : Int)) = False := eq_false (by omega)
      have t4n : (256 < LX) = False := eq_false hbig
      have AB : Aside (¬ 256 < LX) := hbig
      clear h hsp hlo hL hLb hLC ho hc hli hto htl hx hsx hLX D3 O3 hbig htf hk hok
      go_enter Tryd.func34, Tryd.ntmps34
      go_upto_region 3 with (go_at_call 51; refine htx.mono ?_; rintro e2 w2 ⟨rfl, rfl⟩)
      (try rw [hw4])
      clear hw4 c3 f3 c4 f4 htx
      go_wp2_with fail
      first | go_end0 | (refine bodyPost_ret (results_none rfl _ _ _) rfl ?_)
      refine ⟨rfl, _, A3.out.1, A3.out.2.1, rfl, fun _ => ?_, fun e => ?_⟩
      · rw [tnam_small (by rw [A3.out.2.2.2]; exact AB.out)]; exact ⟨rfl, A3.out.2.2.1, rfl, rfl⟩
      · rw [tnam_small (by rw [A3.out.2.2.2]; exact AB.out)] at e; exact absurd rfl e
  · have t1 : ((k : Int) == 76) = false := by rw [beq_eq_false_iff_ne]; omega
    by_cases h120 : k = 120
    · subst h120
      have hLb := hLb (by decide)
      have hre := drecords_c w r p h hsp hlo a l L C hL hLb hLC ho hc
      have htf : tfin (tus 120) l r.cm = trr l r.cm := by
        show tfin 3 l r.cm = _
        unfold tfin
        rw [if_neg (by decide), if_pos rfl]
      rw [htf]
      clear h hsp hlo hL hLb hLC ho hc htf hk hok h76
      go_enter Tryd.func34, Tryd.ntmps34
      go_wp2_with (go_at_call 52; refine hre.mono ?_; intro e5 w5 h5; obtain ⟨he5, T5⟩ := h5.ex; subst he5; have A5 : Aside _ := T5; clear T5 h5)
      first | go_end0 | (refine bodyPost_ret (results_none rfl _ _ _) rfl ?_)
      exact ⟨rfl, A5.out⟩
    · have t2 : ((k : Int) == 120) = false := by rw [beq_eq_false_iff_ne]; omega
      have hus : tus k = 0 := by
        unfold tus
        rw [if_neg h76, if_neg h120, if_neg]
        unfold town at hok
        unfold tisf
        have : k = 75 ∨ k = 103 := by
          simp at hok
          by_cases h75 : k = 75
          · exact Or.inl h75
          · exact Or.inr (hok h76 h120 h75)
        rcases this with rfl | rfl <;> decide
      have AF : Aside (∃ r', Dm w lo R r' v ∧ Only R w w ∧ Af r r' (tfin (tus k) l r.cm) p) := by
        refine ⟨r, h, Only.refl _ _, rfl, fun _ => ?_, fun e => ?_⟩
        · rw [hus]; exact ⟨rfl, hsp, rfl, rfl⟩
        · rw [hus] at e; exact absurd rfl e
      clear h hsp hlo hL hLb hLC ho hc hk hok h76 h120 hus
      go_enter Tryd.func34, Tryd.ntmps34
      go_wp2_with fail
      first | go_end0 | (refine bodyPost_ret (results_none rfl _ _ _) rfl ?_)
      exact ⟨rfl, AF.out⟩
end
end Go.Proofs.YtcmmjbkgoafbnaaDoor

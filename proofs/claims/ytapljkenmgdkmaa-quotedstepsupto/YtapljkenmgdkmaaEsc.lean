/-
  What stands behind an =, as the document goes through it.
-/
import Derived.Test.YtapljkenmgdkmaaRof
namespace Go.Proofs.Ytapljkenmgdkmaa
open Go.RowKit
set_option linter.unusedVariables false
def cat (K T : List Nat) (r : Rs) : Rs := ⟨K ++ r.out, T ++ r.tm, r.why, r.at_⟩
theorem cat_nil (r : Rs) : cat [] [] r = r := by simp [cat]
theorem cat_addk (i : Nat) (K : List Nat) (r : Rs) : addk i K r = cat K (List.replicate K.length i) r := rfl
theorem cat_cat (K T K2 T2 : List Nat) (r : Rs) : cat K T (cat K2 T2 r) = cat (K ++ K2) (T ++ T2) r := by simp [cat]
/-- n bytes are gone through, and say K, with T. -/
def Tk (l : List Nat) (i n : Nat) (K T : List Nat) : Prop := rn i .no [] (l.drop i) = cat K T (rn (i + n) .no [] (l.drop (i + n)))
/-- What a token comes to. -/
def TkTo (l : List Nat) (i L lo R : Nat) (out tm : List Nat) (w : World) (e : Ending) (w' : World) : Prop :=
  ∃ n : Nat, e = .returned (.int .i64 (n : Int)) ∧ i + n ≤ L + 2 ∧ Fr lo R w w' ∧ ((∃ K T, Rr w' lo R (out ++ K) (tm ++ T) 0 L ∧ 0 < n ∧ i + n ≤ L ∧ Tk l i n K T) ∨ (∃ y t, y ≠ 0 ∧ y ≤ 22 ∧ t ≤ L ∧ Rr w' lo R out tm y t ∧ rn i .no [] (l.drop i) = ⟨[], [], y, t⟩))
theorem rn_eq (i : Nat) (r : List Nat) : rn i .no [] (61 :: r) = rn (i + 1) .eq [] r := by
  rw [rn_go (s' := .eq) (W' := []) (K := []) (by rfl), addk_nil]
set_option maxHeartbeats 2000000 in
theorem escape_c (w : World) (lo R : Nat) (out tm : List Nat) (a : Option Addr) (l : List Nat) (L C i : Nat) (r : List Nat) (hlo : lo ≤ R) (hR : Rr w lo R out tm 0 L) (hl : Lies w a l) (ho : Oct l) (hL : l.length = L) (hLb : L < 1000000000000) (hm : l.drop i = 61 :: r) (h1 : out.length < 1000000000000) (h2 : tm.length < 1000000000000) :
    Calls Try.prog 25 #[.pointer (some ⟨R, 0, none⟩), .slice a L C, .int .i64 (i : Int)] w fun e w' => TkTo l i L lo R out tm w e w' := by
  obtain ⟨hx0, hr, hlt⟩ := drop_cons hm
  obtain ⟨b, o, rfl⟩ := hl.some' (by omega)
  obtain ⟨j, hj⟩ : ∃ j, i + 1 = j := ⟨_, rfl⟩
  obtain ⟨k, hk⟩ : ∃ k, i + 2 = k := ⟨_, rfl⟩
  have hjI : (i : Int) + 1 = (j : Int) := by omega
  have hkI : (i : Int) + 2 = (k : Int) := by omega
  have hjb : (j : Int) < 2000000000000 := by omega
  have hkb : (k : Int) < 2000000000000 := by omega
  have hbk := breaks_c w (some ⟨b, o, none⟩) l L C j r hl hL hLb (by omega) (by rw [← hj]; exact hr)
  have hsay := fun (x s : Nat) => say_c w lo R out tm 0 L x s hlo hR h1 h2
  have hstop := fun (y t : Nat) => stop_c w lo R out tm 0 L y t hlo hR
  have hrn := rn_eq i r
  rw [← hm] at hrn
  rw [hj] at hr hrn
  match r, hr, hbk, hrn with
  | [], hr, hbk, hrn =>
    have hjL : j = L := by have := congrArg List.length hr; simp at this; omega
    have t1 : ((j : Int) == (L : Int)) = true := by rw [beq_iff_eq]; omega
    have AE : Aside (TkTo l i L lo R out tm w (.returned (.int .i64 1)) w) := by
      refine ⟨1, rfl, by omega, Fr.refl _ _ _, Or.inl ⟨[], [], by simpa using hR, by omega, by omega, ?_⟩⟩
      rw [Tk, hrn, hj, hr, cat_nil]; rfl
    have hbk0 : Calls Try.prog 23 #[.slice (some ⟨b, o, none⟩) L C, .int .i64 (j : Int)] w fun e w' => e = .returned (.int .i64 0) ∧ w = w' := hbk
    subst hjL
    clear hbk hsay hstop hR hl ho hL hLb hm h1 h2 hx0 hlt hj hk hrn hr hlo
    go_enter Try.func25, Try.ntmps25
    go_wp2_with (go_at_call 23; refine hbk0.mono ?_; rintro e1 w0 ⟨rfl, hw0⟩; subst hw0)
    go_ret
    exact AE.out
  | 10 :: q, hr, hbk, hrn =>
    obtain ⟨hx, hq, hlt2⟩ := drop_cons hr
    have AE : Aside (TkTo l i L lo R out tm w (.returned (.int .i64 2)) w) := by
      refine ⟨2, rfl, by omega, Fr.refl _ _ _, Or.inl ⟨[], [], by simpa using hR, by omega, by omega, ?_⟩⟩
      rw [Tk, hrn, show i + 2 = j + 1 by omega, hq, cat_nil, rn_go (s' := .no) (W' := []) (K := []) (by rfl), addk_nil]
    have hbk0 : Calls Try.prog 23 #[.slice (some ⟨b, o, none⟩) L C, .int .i64 (j : Int)] w fun e w' => e = .returned (.int .i64 1) ∧ w = w' := hbk
    clear hbk hsay hstop hR hl ho hL hLb hm h1 h2 hx0 hlt hj hk hrn hr hlo hx hq hlt2
    go_enter Try.func25, Try.ntmps25
    go_wp2_with (go_at_call 23; refine hbk0.mono ?_; rintro e1 w0 ⟨rfl, hw0⟩; subst hw0)
    go_ret
    exact AE.out
  | x :: q, hr, hbk, hrn =>
    obtain ⟨hx, hq, hlt2⟩ := drop_cons hr
    have hx256 := ho x (List.mem_of_getElem? hx)
    have cx := hl.at' hx
    have t1 : ((j : Int) == (L : Int)) = false := by rw [beq_eq_false_iff_ne]; omega
    have tj : (j : Int) < (L : Int) := by omega
    by_cases h10 : x = 10
    · subst h10
      have AE : Aside (TkTo l i L lo R out tm w (.returned (.int .i64 2)) w) := by
        refine ⟨2, rfl, by omega, Fr.refl _ _ _, Or.inl ⟨[], [], by simpa using hR, by omega, by omega, ?_⟩⟩
        rw [Tk, hrn, show i + 2 = j + 1 by omega, hq, cat_nil, rn_go (s' := .no) (W' := []) (K := []) (by rfl), addk_nil]
      have hbk0 : Calls Try.prog 23 #[.slice (some ⟨b, o, none⟩) L C, .int .i64 (j : Int)] w fun e w' => e = .returned (.int .i64 1) ∧ w = w' := hbk
      clear hbk hsay hstop hR hl ho hL hLb hm h1 h2 hx0 hlt hj hk hrn hr hlo hx hq hlt2
      go_enter Try.func25, Try.ntmps25
      go_wp2_with (go_at_call 23; refine hbk0.mono ?_; rintro e1 w0 ⟨rfl, hw0⟩; subst hw0)
      go_ret
      exact AE.out
    by_cases h13 : x = 13
    · subst h13
      cases q with
      | nil =>
        have hkL : k = L := by have := congrArg List.length hq; simp at this; omega
        have t2 : ((k : Int) < (L : Int)) = False := eq_false (by omega)
        have t2' : (k < L) = False := eq_false (by omega)
        have AE : Aside (TkTo l i L lo R out tm w (.returned (.int .i64 2)) w) := by
          refine ⟨2, rfl, by omega, Fr.refl _ _ _, Or.inl ⟨[], [], by simpa using hR, by omega, by omega, ?_⟩⟩
          rw [Tk, hrn, show i + 2 = j + 1 by omega, hq, cat_nil, rn_go (s' := .sf) (W' := []) (K := []) (by rfl), addk_nil]
          rfl
        have hbk0 : Calls Try.prog 23 #[.slice (some ⟨b, o, none⟩) L C, .int .i64 (j : Int)] w fun e w' => e = .returned (.int .i64 0) ∧ w = w' := hbk
        clear hbk hsay hstop hR hl ho hL hLb hm h1 h2 hx0 hlt hj hk hrn hr hlo hx hq hlt2 h10 hx256 hkL
        go_enter Try.func25, Try.ntmps25
        go_wp2_with (go_at_call 23; refine hbk0.mono ?_; rintro e1 w0 ⟨rfl, hw0⟩; subst hw0)
        go_ret
        exact AE.out
      | cons z q2 =>
        obtain ⟨hz, hq2, hlt3⟩ := drop_cons hq
        by_cases hz10 : z = 10
        · subst hz10
          have AE : Aside (TkTo l i L lo R out tm w (.returned (.int .i64 3)) w) := by
            refine ⟨3, rfl, by omega, Fr.refl _ _ _, Or.inl ⟨[], [], by simpa using hR, by omega, by omega, ?_⟩⟩
            rw [Tk, hrn, show i + 3 = j + 1 + 1 by omega, hq2, cat_nil, rn_go (s' := .sf) (W' := []) (K := []) (by rfl), addk_nil, rn_go (s' := .no) (W' := []) (K := []) (by rfl), addk_nil]
          have hbk0 : Calls Try.prog 23 #[.slice (some ⟨b, o, none⟩) L C, .int .i64 (j : Int)] w fun e w' => e = .returned (.int .i64 2) ∧ w = w' := hbk
          clear hbk hsay hstop hR hl ho hL hLb hm h1 h2 hx0 hlt hj hk hrn hr hlo hx hq hlt2 h10 hx256 hz hq2 hlt3
          go_enter Try.func25, Try.ntmps25
          go_wp2_with (go_at_call 23; refine hbk0.mono ?_; rintro e1 w0 ⟨rfl, hw0⟩; subst hw0)
          go_ret
          exact AE.out
        · have e : brk (13 :: z :: q2) = 0 := brk_x (by omega) (Or.inr (fun q' h => by injection h with h1; exact hz10 h1))
          rw [e] at hbk
          have hbk0 : Calls Try.prog 23 #[.slice (some ⟨b, o, none⟩) L C, .int .i64 (j : Int)] w fun e w' => e = .returned (.int .i64 0) ∧ w = w' := hbk
          have t2 : ((k : Int) < (L : Int)) = True := eq_true (by omega)
          have t2' : (k < L) = True := eq_true (by omega)
          have hst := hstop 22 k
          have AE : Aside (∀ w', Rr w' lo R out tm 22 k → Fr lo R w w' → TkTo l i L lo R out tm w (.returned (.int .i64 2)) w') := by
            intro w' h3 h4
            refine ⟨2, rfl, by omega, h4, Or.inr ⟨22, k, by omega, by omega, by omega, h3, ?_⟩⟩
            rw [hrn, rn_go (s' := .sf) (W' := []) (K := []) (by rfl), addk_nil, rn_stop (by simp [ev, hz10]), show j + 1 = k by omega]
          clear hbk hsay hstop hR hl ho hL hLb hm h1 h2 hx0 hlt hj hk hrn hr hlo hx hq hlt2 h10 hx256 hz hq2 hlt3 e hz10
          go_enter Try.func25, Try.ntmps25
          go_wp2_with (first
            | (go_at_call 23; refine hbk0.mono ?_; rintro e1 w0 ⟨rfl, hw0⟩; subst hw0)
            | (go_at_call 40; refine hst.mono ?_; rintro e1 w1 ⟨rfl, h3, h4⟩))
          go_ret
          exact AE.out _ h3 h4
    · have e : brk (x :: q) = 0 := brk_x h10 (Or.inl h13)
      rw [e] at hbk
      have hbk0 : Calls Try.prog 23 #[.slice (some ⟨b, o, none⟩) L C, .int .i64 (j : Int)] w fun e w' => e = .returned (.int .i64 0) ∧ w = w' := hbk
      have u13 : ((x : Int) == 13) = false := by rw [beq_eq_false_iff_ne]; omega
      by_cases hv : vl x < 16
      · obtain ⟨v, hve⟩ : ∃ v, vl x = v := ⟨_, rfl⟩
        rw [hve] at hv
        have hdg := digit_c x hx256 (v : Int) (Or.inr ⟨by omega, by rw [hve]⟩) w
        have hvI : (v : Int) < 16 := by omega
        have v0 : ((v : Int) < 0) = False := eq_false (by omega)
        rw [rn_go (s' := .dg v) (W' := []) (K := []) (by simp only [ev]; rw [hve, if_pos hv]), addk_nil] at hrn
        cases q with
        | nil =>
          have hkL : k = L := by have := congrArg List.length hq; simp at this; omega
          have t2 : ((k : Int) == (L : Int)) = true := by rw [beq_iff_eq]; omega
          have hst := hstop 1 L
          have AE : Aside (∀ w', Rr w' lo R out tm 1 L → Fr lo R w w' → TkTo l i L lo R out tm w (.returned (.int .i64 0)) w') := by
            intro w' h3 h4
            refine ⟨0, rfl, by omega, h4, Or.inr ⟨1, L, by omega, by omega, by omega, h3, ?_⟩⟩
            rw [hrn, show j + 1 = L by omega]
            rfl
          subst hkL
          clear hbk hsay hstop hR hl ho hL hLb hm h1 h2 hx0 hlt hj hk hrn hr hlo hx hq hlt2 h10 h13 hx256 e hve hv
          go_enter Try.func25, Try.ntmps25
          go_wp2_with (first
            | (go_at_call 23; refine hbk0.mono ?_; rintro e1 w0 ⟨rfl, hw0⟩; subst hw0)
            | (go_at_call 41; refine hdg.mono ?_; rintro e1 w0 ⟨rfl, hw0⟩; subst hw0)
            | (go_at_call 40; refine hst.mono ?_; rintro e1 w1 ⟨rfl, h3, h4⟩))
          go_ret
          exact AE.out _ h3 h4
        | cons z q2 =>
          obtain ⟨hz, hq2, hlt3⟩ := drop_cons hq
          rw [show j + 1 = k by omega] at hz hlt3 hrn
          have hz256 := ho z (List.mem_of_getElem? hz)
          have cz2 := hl.at' hz
          have t2 : ((k : Int) == (L : Int)) = false := by rw [beq_eq_false_iff_ne]; omega
          have tk : (k : Int) < (L : Int) := by omega
          by_cases hv2 : vl z < 16
          · obtain ⟨u, hue⟩ : ∃ u, vl z = u := ⟨_, rfl⟩
            rw [hue] at hv2
            have hdg2 := digit_c z hz256 (u : Int) (Or.inr ⟨by omega, by rw [hue]⟩) w
            obtain ⟨g, hg⟩ : ∃ g, 16 * v = g := ⟨_, rfl⟩
            obtain ⟨p, hp⟩ : ∃ p, g + u = p := ⟨_, rfl⟩
            have hgI : (16 : Int) * (v : Int) = (g : Int) := by omega
            have hpI : (g : Int) + (u : Int) = (p : Int) := by omega
            have hpb : (p : Int) < 256 := by omega
            have hgb : (g : Int) < 256 := by omega
            have u0 : ((u : Int) < 0) = False := eq_false (by omega)
            have hst := hsay p k
            have AE : Aside (∀ w', Rr w' lo R (out ++ [p]) (tm ++ [k]) 0 L → Fr lo R w w' → TkTo l i L lo R out tm w (.returned (.int .i64 3)) w') := by
              intro w' h3 h4
              refine ⟨3, rfl, by omega, h4, Or.inl ⟨[p], [k], h3, by omega, by omega, ?_⟩⟩
              rw [Tk, hrn, rn_go (s' := .no) (W' := []) (K := [p]) (by simp only [ev]; rw [hue, if_pos hv2, ← hp, ← hg]; rfl), show i + 3 = k + 1 by omega, show k + 1 = j + 1 + 1 by omega, hq2]
              rfl
            clear hbk hsay hstop hR hl ho hL hLb hm h1 h2 hx0 hlt hj hk hrn hr hlo hx hq hlt2 h10 h13 hx256 e hve hv hz hq2 hlt3 hz256 hue hv2 hg hp
            go_enter Try.func25, Try.ntmps25
            go_wp2_with (first
              | (go_at_call 23; refine hbk0.mono ?_; rintro e1 w0 ⟨rfl, hw0⟩; subst hw0)
              | (go_at_call 41; (with_reducible refine hdg.mono ?_); rintro e1 w0 ⟨rfl, hw0⟩; subst hw0)
              | (go_at_call 41; (with_reducible refine hdg2.mono ?_); rintro e1 w0 ⟨rfl, hw0⟩; subst hw0)
              | (go_at_call 24; refine hst.mono ?_; rintro e1 w1 ⟨rfl, h3, h4⟩))
            go_ret
            exact AE.out _ h3 h4
          · have hdg2 := digit_c z hz256 (-1) (Or.inl ⟨by have := vl_le z; omega, rfl⟩) w
            have hst := hstop 22 k
            have AE : Aside (∀ w', Rr w' lo R out tm 22 k → Fr lo R w w' → TkTo l i L lo R out tm w (.returned (.int .i64 0)) w') := by
              intro w' h3 h4
              refine ⟨0, rfl, by omega, h4, Or.inr ⟨22, k, by omega, by omega, by omega, h3, ?_⟩⟩
              rw [hrn, rn_stop (by simp only [ev]; rw [if_neg hv2])]
            clear hbk hsay hstop hR hl ho hL hLb hm h1 h2 hx0 hlt hj hk hrn hr hlo hx hq hlt2 h10 h13 hx256 e hve hv hz hq2 hlt3 hz256 hv2
            go_enter Try.func25, Try.ntmps25
            go_wp2_with (first
              | (go_at_call 23; refine hbk0.mono ?_; rintro e1 w0 ⟨rfl, hw0⟩; subst hw0)
              | (go_at_call 41; (with_reducible refine hdg.mono ?_); rintro e1 w0 ⟨rfl, hw0⟩; subst hw0)
              | (go_at_call 41; (with_reducible refine hdg2.mono ?_); rintro e1 w0 ⟨rfl, hw0⟩; subst hw0)
              | (go_at_call 40; refine hst.mono ?_; rintro e1 w1 ⟨rfl, h3, h4⟩))
            go_ret
            exact AE.out _ h3 h4
      · have hdg := digit_c x hx256 (-1) (Or.inl ⟨by have := vl_le x; omega, rfl⟩) w
        have hst := hstop 22 j
        have AE : Aside (∀ w', Rr w' lo R out tm 22 j → Fr lo R w w' → TkTo l i L lo R out tm w (.returned (.int .i64 0)) w') := by
          intro w' h3 h4
          refine ⟨0, rfl, by omega, h4, Or.inr ⟨22, j, by omega, by omega, by omega, h3, ?_⟩⟩
          rw [hrn, rn_stop (by simp only [ev]; rw [if_neg hv, if_neg h13, if_neg h10])]
        clear hbk hsay hstop hR hl ho hL hLb hm h1 h2 hx0 hlt hj hk hrn hr hlo hx hq hlt2 h10 h13 hx256 e hv
        go_enter Try.func25, Try.ntmps25
        go_wp2_with (first
          | (go_at_call 23; refine hbk0.mono ?_; rintro e1 w0 ⟨rfl, hw0⟩; subst hw0)
          | (go_at_call 41; refine hdg.mono ?_; rintro e1 w0 ⟨rfl, hw0⟩; subst hw0)
          | (go_at_call 40; refine hst.mono ?_; rintro e1 w1 ⟨rfl, h3, h4⟩))
        go_ret
        exact AE.out _ h3 h4
end Go.Proofs.Ytapljkenmgdkmaa

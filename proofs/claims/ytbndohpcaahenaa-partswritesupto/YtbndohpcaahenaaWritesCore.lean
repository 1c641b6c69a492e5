/-
  PartsWrites' walk.
-/
import Derived.Test.YtbndohpcaahenaaRwr
import Derived.Test.YtbndohpcaahenaaCpy
import Derived.Test.YtbndohpcaahenaaSame
namespace Go.Proofs.Ytbndohpcaahenaa
open Go.RowKit
set_option linter.unusedVariables false
theorem wri_len (D : List Nat) (M T : Nat) : ∀ (ls : List (List Nat)), (∀ p ∈ ls, p.length ≤ T) → (wri D ls).length ≤ ls.length * (D.length + T + 4) + (D.length + 4)
  | [], _ => by simp [wri]
  | p :: r, h => by
    have h1 := wri_len D M T r (fun q hq => h q (by simp [hq]))
    have h2 := h p (by simp)
    have h3 : (wri D (p :: r)).length = D.length + 2 + (p.length + 2 + (wri D r).length) := by simp [wri]; omega
    have h4 : (p :: r).length * (D.length + T + 4) = r.length * (D.length + T + 4) + (D.length + T + 4) := by rw [List.length_cons, Nat.succ_mul]
    omega
set_option maxRecDepth 20000 in
set_option maxHeartbeats 2000000 in
theorem writes_core (w : World) (a : Option Addr) (ls : List (List Nat)) (N C : Nat) (b : List Nat) (hx : Rl w a ls) (hN : ls.length = N) (hNb : N ≤ 2000000) (hol : ∀ l ∈ ls, Oct l) (hlb : ∀ l ∈ ls, l.length ≤ 2000000) (hW : vd b = true → (wri (dd b) ls).length ≤ 100000000) (hob : Oct b) (hb : b.length ≤ 2000000) :
    Calls Try.prog 5 #[.slice a N C, .string (st b)] w fun e w' => e = .returned (.bool true) ∧ Below w.heap.size w w' := by
  obtain ⟨B, hB⟩ : ∃ B, w.heap.size = B := ⟨_, rfl⟩
  have hcp := copy_c w a ls N C hN hNb hx hlb
  rw [hB] at hcp ⊢
  have hwr : ∀ (u : World) (a1 : Option Addr) (c1 : Nat), Rl u a1 ls → Calls Try.prog 23 #[.slice a1 N c1, .string (st b)] u fun e w' => Wx u.heap.size u (wv b ls).1 (wv b ls).2 e w' := fun u a1 c1 h => write_c b hob (by omega) a1 ls N c1 hN u h hol hW
  have hrw : ∀ (u : World) (a1 : Option Addr) (c1 : Nat), Rl u a1 ls → Calls Try.prog 24 #[.slice a1 N c1, .string (st b)] u fun e w' => Wx u.heap.size u (wv b ls).1 (wv b ls).2 e w' := fun u a1 c1 h => rwrite_c b hob (by omega) a1 ls N c1 hN u h hol hW
  have hwl : (wv b ls).2.length ≤ 100000000 := by
    unfold wv
    split
    · rename_i h; exact hW h.1
    · simp
  obtain ⟨⟨ok, lx⟩, hwv⟩ : ∃ r, wv b ls = r := ⟨_, rfl⟩
  rw [hwv] at hwr hrw hwl
  obtain ⟨sb, hsb⟩ : ∃ sb, st b = sb := ⟨_, rfl⟩
  rw [hsb] at hwr hrw ⊢
  have AW : Aside ((∀ (u : World) (a1 : Option Addr) (c1 : Nat), Rl u a1 ls → Calls Try.prog 23 #[.slice a1 N c1, .string sb] u fun e w' => Wx u.heap.size u ok lx e w') ∧ (∀ (u : World) (a1 : Option Addr) (c1 : Nat), Rl u a1 ls → Calls Try.prog 24 #[.slice a1 N c1, .string sb] u fun e w' => Wx u.heap.size u ok lx e w')) := ⟨hwr, hrw⟩
  have A : Aside (Rl w a ls ∧ ls.length = N ∧ N ≤ 2000000 ∧ (∀ l ∈ ls, Oct l) ∧ w.heap.size = B ∧ lx.length ≤ 100000000) := ⟨hx, hN, hNb, hol, hB, hwl⟩
  clear hwr hrw hx hN hNb hol hlb hW hob hb hwv hsb hB hwl
  have hoo : (ok == ok) = true := by simp
  go_enter Try.func5, Try.ntmps5
  go_upto_region 2 with (go_at_call 22; refine hcp.mono ?_; rintro e1 w1 ⟨a1, c1, rfl, r1, b1⟩)
  have a0 := A.out
  have h1 := AW.out.1 w1 a1 c1 r1
  have A1 : Aside (Rl w1 a1 ls ∧ Below B w w1 ∧ B ≤ w1.heap.size) := ⟨r1, b1, by have := b1.size; omega⟩
  clear hcp r1 b1 a0
  go_upto_region 3 with (go_at_call 23; refine h1.mono ?_; rintro e2 w2 ⟨a2, n2, c2, rfl, o2, hn2, b2⟩; have hn2A : Aside (n2 = lx.length) := hn2; clear hn2)
  have a1' := A1.out
  have bw2 : Below B w w2 := a1'.2.1.trans (b2.mono a1'.2.2)
  have h2 := AW.out.2 w2 a C (A.out.1.below (by rw [A.out.2.2.2.2.1]; exact bw2))
  obtain ⟨a2x, c2x, e2x, _, _, l2, _⟩ := o2.lies
  cases e2x
  have A2 : Aside (Rl w2 a1 ls ∧ Below B w w2 ∧ B ≤ w2.heap.size ∧ Lies w2 a2 lx ∧ n2 = lx.length) := ⟨a1'.1.below b2, bw2, by have := b2.size; omega, l2, hn2A.out⟩
  clear h1 o2 b2 a1' bw2 l2 hn2A
  go_upto_region 4 with (go_at_call 24; refine h2.mono ?_; rintro e3 w3 ⟨a3, n3, c3, rfl, o3, hn3, b3⟩; have hn3A : Aside (n3 = lx.length) := hn3; clear hn3)
  have a2' := A2.out
  have bw3 : Below B w w3 := a2'.2.1.trans (b3.mono a2'.2.2.1)
  obtain ⟨a3x, c3x, e3x, _, _, l3, _⟩ := o3.lies
  cases e3x
  have hsm : Calls Try.prog 17 #[.slice a2 n2 c2, .slice a3 n3 c3] w3 fun e w' => e = .returned (.bool true) ∧ ∃ n, w' = w3.drewN n := by
    have := same_c a2 a3 lx lx n2 n3 c2 c3 w3 a2'.2.2.2.2.symm hn3A.out.symm (by have := A.out.2.2.2.2.2; omega) (a2'.2.2.2.1.below b3) l3
    rw [decide_eq_true rfl] at this
    exact this
  have hrw : ∀ m : Nat, Calls Try.prog 15 #[.slice a1 N c1, .slice a N C] (w3.drewN m) fun e w' => e = .returned (.bool true) ∧ ∃ n, w' = (w3.drewN m).drewN n := fun m => by
    have a0 := A.out
    exact rows_c (w3.drewN m) a1 a ls N c1 C a0.2.1 (by omega) ((a2'.1.below b3).drewN m) ((a0.1.below (by rw [a0.2.2.2.2.1]; exact bw3)).drewN m) a0.2.2.2.1
  have A3 : Aside (Below B w w3 ∧ B ≤ w3.heap.size ∧ ∀ m : Nat, Calls Try.prog 15 #[.slice a1 N c1, .slice a N C] (w3.drewN m) fun e w' => e = .returned (.bool true) ∧ ∃ n, w' = (w3.drewN m).drewN n) := ⟨bw3, by have := b3.size; omega, hrw⟩
  clear h2 o3 b3 a2' bw3 l3 hn3A hrw
  go_wp2_with (first | (go_at_call 17; refine hsm.mono ?_; rintro e4 w4 ⟨rfl, m4, hm4⟩; have h15 := A3.out.2.2 m4; rw [← hm4] at h15; have hm4A : Aside (w4 = w3.drewN m4) := hm4; clear hm4) | (go_at_call 15; refine h15.mono ?_; rintro e5 w5 ⟨rfl, m5, hm5⟩; have hm5A : Aside (w5 = w4.drewN m5) := hm5; clear hm5; have hawk := awake_c w5) | (go_at_call 13; refine hawk.mono ?_; rintro e6 w6 ⟨rfl, b6⟩))
  first | go_ret | go_ret2
  have a3' := A3.out
  have bw5 : Below B w w5 := by rw [hm5A.out, hm4A.out]; exact Below.drewN2 (Below.drewN2 a3'.1 _) _
  have hB2 := A.out.2.2.2.2.1
  exact ⟨rfl, bw5.trans (b6.mono (by have := bw5.size; omega))⟩
end Go.Proofs.Ytbndohpcaahenaa

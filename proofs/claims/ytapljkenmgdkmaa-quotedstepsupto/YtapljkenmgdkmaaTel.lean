/-
  What the law's own tells comes to.
-/
import Derived.Test.YtapljkenmgdkmaaWholeCore
namespace Go.Proofs.Ytapljkenmgdkmaa
open Go.RowKit
set_option linter.unusedVariables false
theorem Oi.get {w : World} {lo : Nat} {a : Option Addr} {n c : Nat} {l : List Nat} (h : Oi w lo (.slice a n c) l) {i t : Nat} (ht : l[i]? = some t) : ∃ g, a = some ⟨g, 0, none⟩ ∧ w.cell? ⟨g, i, none⟩ = some (.int .i64 (t : Int)) := by
  obtain ⟨a', c', hv, _, hl, _⟩ := Ow.shape h
  cases hv
  rcases hl with e | ⟨g, hg, _, _, hc⟩
  · have := congrArg List.length e
    rw [oi_length] at this
    have h2 := (List.getElem?_eq_some_iff.1 ht).1
    simp at this
    simp [this] at h2
  · exact ⟨g, hg, hc i _ (by rw [oi_get, ht]; rfl)⟩
theorem Ob.get {w : World} {lo : Nat} {a : Option Addr} {n c : Nat} {l : List Nat} (h : Ob w lo (.slice a n c) l) {i x : Nat} (hx : l[i]? = some x) : ∃ g, a = some ⟨g, 0, none⟩ ∧ w.cell? ⟨g, i, none⟩ = some (.int .u8 (x : Int)) := by
  obtain ⟨a', c', hv, _, hl, _⟩ := Ow.shape h
  cases hv
  rcases hl with e | ⟨g, hg, _, _, hc⟩
  · have := congrArg List.length e
    rw [ob_length] at this
    have h2 := (List.getElem?_eq_some_iff.1 hx).1
    simp at this
    simp [this] at h2
  · exact ⟨g, hg, hc i _ (by rw [ob_get, hx]; rfl)⟩
/-- While it is told: R is still known. -/
structure Tw (w wr : World) (B F sn hi y lo : Nat) (R W out tm : List Nat) (oa ta : Option Addr) (n oc tc : Nat) (vy vt : Int) : Prop where
  d : Dl wr B sn hi (R ++ W) R.length y
  c : Cells wr F #[.slice oa n oc, .slice ta n tc, .int .i64 vy, .int .i64 vt] 28
  o : Ob wr lo (.slice oa n oc) out
  t : Oi wr lo (.slice ta n tc) tm
  b : But B w wr
theorem Tw.but {w wr u : World} {B F sn hi sn' hi' y y' lo : Nat} {R W R' W' out tm : List Nat} {oa ta : Option Addr} {n oc tc : Nat} {vy vt : Int} (h : Tw w wr B F sn hi y lo R W out tm oa ta n oc tc vy vt) (k : But B wr u) (hF : F ≠ B) (hd : Dl u B sn' hi' (R' ++ W') R'.length y') : Tw w u B F sn' hi' y' lo R' W' out tm oa ta n oc tc vy vt := by
  obtain ⟨cs, hc⟩ := h.d.cells
  exact ⟨hd, k.cells h.c hF, Ow.but h.o k hc (by decide), Ow.but h.t k hc (by decide), h.b.trans k⟩
set_option maxRecDepth 20000 in
set_option maxHeartbeats 2000000 in
theorem tells_c (w : World) (B sn hi y lo : Nat) (K W out tm : List Nat) (oa ta : Option Addr) (n oc tc : Nat) (vy vt : Int) (told at_ : Nat) (hd : Dl w B sn hi (K ++ W) K.length y) (hO : Ob w lo (.slice oa n oc) out) (hT : Oi w lo (.slice ta n tc) tm)
    (hn : out.length = n) (hnt : tm.length = n) (hnb : n ≤ 2000000) (hab : at_ ≤ 2000000) (hy : K ≠ [] → y = 0) (hlt : told + K.length ≤ n) (hk : ∀ j x, K[j]? = some x → out[told + j]? = some x ∧ tm[told + j]? = some at_) (hend : ∀ t, tm[told + K.length]? = some t → t ≠ at_) :
    Calls Try.prog 16 #[.pointer (some ⟨B, 0, none⟩), .agg #[.slice oa n oc, .slice ta n tc, .int .i64 vy, .int .i64 vt], .int .i64 (told : Int), .int .i64 (at_ : Int)] w fun e w' => e = .returned (.tuple #[.int .i64 ((told + K.length : Nat) : Int), .bool true]) ∧ Dl w' B sn hi W 0 y ∧ But B w w' := by
  obtain ⟨w1, hw1⟩ : ∃ w1, w1 = w.alloc (.cells #[.slice oa n oc, .slice ta n tc, .int .i64 vy, .int .i64 vt] 28) := ⟨_, rfl⟩
  obtain ⟨F, hF⟩ : ∃ F, w.heap.size = F := ⟨_, rfl⟩
  have b1 : Below w.heap.size w w1 := by rw [hw1]; exact (Below.refl _ w).alloc (Nat.le_refl _) _
  have hFB : F ≠ B := by have := hd.lt; omega
  have tw1 : Tw w w1 B F sn hi y lo K W out tm oa ta n oc tc vy vt := ⟨hd.below b1 hd.lt, by rw [hw1, ← hF]; exact Cells.new w _ 28, Ow.below hO b1 (Nat.le_refl _), Ow.below hT b1 (Nat.le_refl _), But.of_below b1⟩
  obtain ⟨total, htot⟩ : ∃ total, told + K.length = total := ⟨_, rfl⟩
  have A : Aside (out.length = n ∧ tm.length = n ∧ n ≤ 2000000 ∧ at_ ≤ 2000000 ∧ (K ≠ [] → y = 0) ∧ total ≤ n ∧ (∀ j x, K[j]? = some x → out[told + j]? = some x ∧ tm[told + j]? = some at_) ∧ (∀ t, tm[total]? = some t → t ≠ at_) ∧ told + K.length = total ∧ F ≠ B) := ⟨hn, hnt, hnb, hab, hy, by omega, hk, by rw [← htot]; exact hend, htot, hFB⟩
  have A1 : Aside (Tw w w1 B F sn hi y lo K W out tm oa ta n oc tc vy vt) := tw1
  rw [htot]
  clear hd hO hT hn hnt hnb hab hy hlt hk hend b1 hFB tw1 htot
  go_enter Try.func16, Try.ntmps16
  go_wp2_with fail
  rw [← hw1]
  (try rw [hF])
  clear hw1 hF
  go_loopg [2, 10, 11] K.length (fun gg s2 s10 s11 wr => ∃ k : Nat, s2 = .int .i64 (k : Int) ∧ Aside (k + gg = total ∧ told ≤ k ∧ Tw w wr B F sn hi y lo (K.drop (k - told)) W out tm oa ta n oc tc vy vt))
  case atStart =>
    have a0 := A.out
    exact ⟨told, rfl, by omega, by omega, by rw [Nat.sub_self]; exact A1.out⟩
  case round =>
    obtain ⟨k, rfl, hI⟩ := hrel
    obtain ⟨hkg, htk, htw⟩ := hI.out
    have a0 := A.out
    have kc := htw.c
    obtain ⟨c0, c1, c2, c3⟩ := four kc
    have hkI : (k : Int) < 4000000 := by omega
    have hnI : (n : Int) < 4000000 := by omega
    by_cases hk : k < total
    · have hj : k - told < K.length := by omega
      obtain ⟨x, hx⟩ : ∃ x, K[k - told]? = some x := ⟨_, List.getElem?_eq_getElem hj⟩
      have hdk : K.drop (k - told) = x :: K.drop (k - told + 1) := drop_more hx
      obtain ⟨h1, h2⟩ := a0.2.2.2.2.2.2.1 _ x hx
      rw [show told + (k - told) = k by omega] at h1 h2
      have hy0 : y = 0 := a0.2.2.2.2.1 (by intro e; rw [e] at hj; simp at hj)
      subst hy0
      obtain ⟨og, hoa, co⟩ := htw.o.get h1
      obtain ⟨tg, hta, ct⟩ := htw.t.get h2
      subst hoa
      subst hta
      have t1 : ((k : Int) < (n : Int)) = True := eq_true (by omega)
      have t1' : (k < n) = True := eq_true (by omega)
      have u1 : ((at_ : Int) == (at_ : Int)) = true := by simp
      have u2 : ((x : Int) != (x : Int)) = false := by simp
      have hd := htw.d
      rw [hdk] at hd
      have hput := put_shut 120 wr (open_full (by simp) wr hd)
      have hput0 : Calls Try.prog 14 #[.pointer (some ⟨B, 0, none⟩), .int .u8 120] wr fun e w' => e = .returned (.bool false) ∧ wr = w' := hput
      have hwy := why_l wr hd
      have hnx := next_l wr hd (by simp)
      have AX : Aside (k + gk = total ∧ k < total ∧ told ≤ k ∧ Tw w wr B F sn hi 0 lo (K.drop (k - told)) W out tm (some ⟨og, 0, none⟩) (some ⟨tg, 0, none⟩) n oc tc vy vt ∧ K.drop (k + 1 - told) = K.drop (k - told + 1) ∧ out[k]? = some x) := ⟨hkg, hk, htk, htw, by rw [show k + 1 - told = k - told + 1 by omega], h1⟩
      clear hI hkg htk htw a0 kc c2 c3 hk hj hx hdk h1 h2 hd hput
      go_upto_region 5 with (first
        | (go_at_call 14; refine hput0.mono ?_; rintro e1 w0 ⟨rfl, hw0⟩; subst hw0)
        | (go_at_call 17; refine hwy.mono ?_; rintro e1 w0 ⟨rfl, hw0⟩; subst hw0)
        | (go_at_call 21; refine hnx.mono ?_; rintro e2 w2 ⟨rfl, h2, o2⟩))
      have ax := AX.out
      have a0 := A.out
      have htw2 : Tw w w2 B F sn hi 0 lo (K.drop (k + 1 - told)) W out tm (some ⟨og, 0, none⟩) (some ⟨tg, 0, none⟩) n oc tc vy vt := ax.2.2.2.1.but o2 a0.2.2.2.2.2.2.2.2.2 (by rw [ax.2.2.2.2.1]; simpa using h2)
      obtain ⟨d0, d1, d2, d3⟩ := four htw2.c
      obtain ⟨og2, ho2, co2⟩ := htw2.o.get ax.2.2.2.2.2
      cases ho2
      have A2 : Aside (Tw w w2 B F sn hi 0 lo (K.drop (k + 1 - told)) W out tm (some ⟨og, 0, none⟩) (some ⟨tg, 0, none⟩) n oc tc vy vt) := htw2
      clear ax a0 htw2 d1 d2 d3 h2 o2 hput0 hwy hnx co ct c0 c1
      go_wp2_with fail
      have ax := AX.out
      go_roundg (gk - 1)
      case measure => omega
      case rel => exact ⟨k + 1, by go_num, by omega, by omega, A2.out⟩
    · have hkt : k = total := by omega
      have hR : K.drop (k - told) = [] := List.drop_eq_nil_of_le (by omega)
      have hd := htw.d
      rw [hR] at hd
      have hnx := next_none wr hd
      have AX : Aside (Dl wr B sn hi W 0 y ∧ But B w wr ∧ k = total) := ⟨hd, htw.b, hkt⟩
      by_cases hkn : k < n
      · have t1 : ((k : Int) < (n : Int)) = True := eq_true (by omega)
        have t1' : (k < n) = True := eq_true (by omega)
        obtain ⟨t, ht⟩ : ∃ t, tm[k]? = some t := ⟨_, List.getElem?_eq_getElem (by omega)⟩
        have hne := a0.2.2.2.2.2.2.2.1 t (by rw [← hkt]; exact ht)
        obtain ⟨tg, hta, ct⟩ := htw.t.get ht
        subst hta
        have u1 : ((t : Int) == (at_ : Int)) = false := by rw [beq_eq_false_iff_ne]; omega
        clear hI hkg htk htw a0 kc c2 c3 hk hkt hR hd ht hne hkn
        go_wp2_with (go_at_call 21; refine hnx.mono ?_; rintro e1 w0 ⟨rfl, hw0⟩; subst hw0)
        go_ret2
        have ax := AX.out
        exact ⟨by rw [ax.2.2]; rfl, ax.1, ax.2.1⟩
      · have t1 : ((k : Int) < (n : Int)) = False := eq_false (by omega)
        have t1' : (k < n) = False := eq_false (by omega)
        clear hI hkg htk htw a0 kc c2 c3 hk hkt hR hd hkn
        go_wp2_with (go_at_call 21; refine hnx.mono ?_; rintro e1 w0 ⟨rfl, hw0⟩; subst hw0)
        go_ret2
        have ax := AX.out
        exact ⟨by rw [ax.2.2]; rfl, ax.1, ax.2.1⟩
end Go.Proofs.Ytapljkenmgdkmaa

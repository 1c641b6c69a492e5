/-
  The document's run in memory: bytes, delimiter.
-/
import Derived.Test.YtbndohpcaahenaaRrn
namespace Go.Proofs.Ytbndohpcaahenaa
open Go.RowKit
set_option linter.unusedVariables false
section
variable {w : World} {lo R y : Nat} {v : Value} {T : List (Nat × Nat)} {o ov : Bool}
theorem evv_byte {x : Nat} (h : x < 256) : evv x = #[.int .i64 2, .int .u8 (x : Int), .int .i64 0, .int .i64 0, .string ⟨#[]⟩] := by
  simp [evv, evk, evb, evn, show ¬ x = 256 by omega, show ¬ x = 257 by omega]
theorem tell_byte (t x : Nat) (hx : x < 256) (hlo : lo ≤ R) (h : Rr w lo R v T y o ov) (hT : T.length < 1000000000000) : Calls Try.prog 33 #[.pointer (some ⟨R, 0, none⟩), .int .i64 (t : Int), .agg #[.int .i64 2, .int .u8 (x : Int), .int .i64 0, .int .i64 0, .string ⟨#[]⟩]] w fun e w' => e = .returned (.tuple #[]) ∧ (∃ v', Rr w' lo R v' (T ++ [(t, x)]) y o ov) ∧ Fr lo R w w' := by
  have := tell_c t x hlo h hT
  rwa [evv_byte hx] at this
set_option maxHeartbeats 1000000 in
theorem bytes_c (t : Nat) (x : List Nat) (a : Option Addr) (L c : Nat) (hL : x.length = L) (hLb : L ≤ 100000000) (hoct : Oct x) (hx : ∀ u, Below lo w u → Lies u a x) (hlo : lo ≤ R) (h : Rr w lo R v T y o ov) (hT : T.length + L < 1000000000000) : Calls Try.prog 30 #[.pointer (some ⟨R, 0, none⟩), .slice a L c, .int .i64 (t : Int)] w fun e w' => e = .returned (.tuple #[]) ∧ (∃ v', Rr w' lo R v' (T ++ tm t (iff' o x)) y o ov) ∧ Fr lo R w w' := by
  cases o with
  | false =>
    have c2 := h.c2
    have A : Aside (Rr w lo R v T y false ov) := h
    rw [show T ++ tm t (iff' false x) = T by simp [iff', tm]]
    by_cases h0 : 0 < L
    · have t1 : ((0 : Int) < (L : Int)) = True := eq_true (by omega)
      have t2 : (0 < L) = True := eq_true h0
      clear h hx hlo hL hLb hT h0
      go_enter Try.func30, Try.ntmps30
      go_wp2_with fail
      go_loopg [6] 1 (fun gg s6 wr => s6 = .int .i64 0 ∧ wr = w)
      case atStart => exact ⟨rfl, rfl⟩
      case round =>
        obtain ⟨rfl, hw⟩ := hrel
        have hw := hw.symm
        subst hw
        go_wp2_with fail
        first | go_end0 | (refine bodyPost_ret (results_none rfl _ _ _) rfl ?_)
        exact ⟨rfl, ⟨v, A.out⟩, Fr.refl _ _ _⟩
    · have e0 : L = 0 := by omega
      subst e0
      clear h hx hlo hL hLb hT h0
      go_enter Try.func30, Try.ntmps30
      go_wp2_with fail
      go_loopg [6] 1 (fun gg s6 wr => s6 = .int .i64 0 ∧ wr = w)
      case atStart => exact ⟨rfl, rfl⟩
      case round =>
        obtain ⟨rfl, hw⟩ := hrel
        have hw := hw.symm
        subst hw
        go_wp2_with fail
        first | go_end0 | (refine bodyPost_ret (results_none rfl _ _ _) rfl ?_)
        exact ⟨rfl, ⟨v, A.out⟩, Fr.refl _ _ _⟩
  | true =>
    rw [show iff' true x = x from rfl]
    have A : Aside (x.length = L ∧ L ≤ 100000000 ∧ Oct x ∧ (∀ u, Below lo w u → Lies u a x) ∧ lo ≤ R ∧ T.length + L < 1000000000000) := ⟨hL, hLb, hoct, hx, hlo, hT⟩
    have A0 : Aside (Rr w lo R v T y true ov) := h
    clear h hx hlo hL hLb hT hoct
    go_enter Try.func30, Try.ntmps30
    go_wp2_with fail
    go_loopg [6] L (fun gg s6 wr => ∃ k : Nat, s6 = .int .i64 (k : Int) ∧ Aside (k + gg = L ∧ (∃ v', Rr wr lo R v' (T ++ tm t (x.take k)) y true ov) ∧ Fr lo R w wr))
    case atStart => exact ⟨0, rfl, ⟨by omega, ⟨v, by simpa [tm] using A0.out⟩, Fr.refl _ _ _⟩⟩
    case round =>
      obtain ⟨k, rfl, hT⟩ := hrel
      obtain ⟨hkg, ⟨v2, hr⟩, hf⟩ := hT.out
      have a0 := A.out
      have c2 := hr.c2
      by_cases hk : k < L
      · have t1 : ((k : Int) < (L : Int)) = True := eq_true (by omega)
        have t2 : (k < L) = True := eq_true hk
        obtain ⟨b, hb⟩ : ∃ b, x[k]? = some b := ⟨_, List.getElem?_eq_getElem (by omega)⟩
        have hb2 : b < 256 := a0.2.2.1 b (List.mem_of_getElem? hb)
        rcases a0.2.2.2.1 wr hf.bel with e | ⟨gb, ob', rfl, hc⟩
        · rw [e] at hb; simp at hb
        have cb := hc k b hb
        have htell := tell_byte (w := wr) t b hb2 a0.2.2.2.2.1 hr (by simp [tm]; omega)
        have htk : T ++ tm t (x.take k) ++ [(t, b)] = T ++ tm t (x.take (k + 1)) := by rw [take_more hb]; simp [tm]
        rw [htk] at htell
        have A2 : Aside (k + gk = L ∧ k < L ∧ Fr lo R w wr) := ⟨hkg, hk, hf⟩
        have bk : (k : Int) < 200000000 := by omega
        clear hT a0 hk hb hc htk hr hf hkg
        go_wp2_with (go_at_call 33; refine htell.mono ?_; rintro e3 w3 ⟨rfl, h3, f3⟩)
        have a2 := A2.out
        go_roundg (gk - 1)
        case measure => omega
        case rel => exact ⟨k + 1, by go_num, ⟨by omega, h3, a2.2.2.trans f3⟩⟩
      · have t1 : ((k : Int) < (L : Int)) = False := eq_false (by omega)
        have t2 : (k < L) = False := eq_false hk
        have htk : x.take k = x := List.take_of_length_le (by omega)
        rw [htk] at hr
        have A2 : Aside (Rr wr lo R v2 (T ++ tm t x) y true ov ∧ Fr lo R w wr) := ⟨hr, hf⟩
        clear hT a0 hk htk hr hf hkg
        go_wp2_with fail
        first | go_end0 | (refine bodyPost_ret (results_none rfl _ _ _) rfl ?_)
        exact ⟨rfl, ⟨v2, A2.out.1⟩, A2.out.2⟩
set_option maxHeartbeats 1000000 in
theorem delimiter_c (t : Nat) (l : Bool) (hlo : lo ≤ R) (h : Rr w lo R v T y o ov) (hT : T.length + 2 < 1000000000000) : Calls Try.prog 32 #[.pointer (some ⟨R, 0, none⟩), .int .i64 (t : Int), .bool l] w fun e w' => e = .returned (.tuple #[]) ∧ (∃ v', Rr w' lo R v' (T ++ tm t (iff' o [257] ++ iff' (!l) [256])) y (!l) l) ∧ Fr lo R w w' := by
  have tail : ∀ (w1 : World) (v1 : Value) (T1 : List (Nat × Nat)) (o1 : Bool), T1.length < 1000000000000 → Rr w1 lo R v1 T1 y o1 ov → Fr lo R w w1 → (∃ o', w1.cell? ⟨R, 2, none⟩ = some (.bool o')) ∧ (∃ o', w1.cell? ⟨R, 3, none⟩ = some (.bool o')) ∧ w1.frozen? ⟨R, 2, none⟩ = false ∧ w1.frozen? ⟨R, 3, none⟩ = false ∧ Rr ((w1.setCell ⟨R, 2, none⟩ (.bool (!l))).setCell ⟨R, 3, none⟩ (.bool l)) lo R v1 T1 y (!l) l ∧ Fr lo R w ((w1.setCell ⟨R, 2, none⟩ (.bool (!l))).setCell ⟨R, 3, none⟩ (.bool l)) := by
    intro w1 v1 T1 o1 hT1 h1 f1
    have k1 := h1.cells.set 2 (.bool (!l))
    have k2 := k1.set 3 (.bool l)
    refine ⟨⟨_, h1.c2⟩, ⟨_, h1.c3⟩, h1.cells.frozen 2, h1.cells.frozen 3, ⟨by simpa using k2, (h1.own.set h1.cells (by decide)).set k1 (by decide)⟩, f1.trans (Fr.of_only (((Only.refl R w1).setCell _ _).setCell _ _) hlo)⟩
  have AT : Aside _ := tail
  have c2 := h.c2
  have A : Aside (lo ≤ R ∧ T.length + 2 < 1000000000000) := ⟨hlo, hT⟩
  have hcl : o = true → Calls Try.prog 33 #[.pointer (some ⟨R, 0, none⟩), .int .i64 (t : Int), .agg #[.int .i64 3, .int .u8 0, .int .i64 0, .int .i64 0, .string ⟨#[]⟩]] w fun e w' => e = .returned (.tuple #[]) ∧ (∃ v', Rr w' lo R v' (T ++ [(t, 257)]) y o ov) ∧ Fr lo R w w' := fun _ => tell_c t 257 hlo h (by omega)
  have hop : ∀ (w1 : World) (v1 : Value) (T1 : List (Nat × Nat)), T1.length < 1000000000000 → Rr w1 lo R v1 T1 y true l → Calls Try.prog 33 #[.pointer (some ⟨R, 0, none⟩), .int .i64 (t : Int), .agg #[.int .i64 1, .int .u8 0, .int .i64 3, .int .i64 0, .string ⟨#[]⟩]] w1 fun e w' => e = .returned (.tuple #[]) ∧ (∃ v', Rr w' lo R v' (T1 ++ [(t, 256)]) y true l) ∧ Fr lo R w1 w' := fun w1 v1 T1 h1 h2 => tell_c t 256 A.out.1 h2 h1
  have AP : Aside _ := hop
  clear tail hop
  cases o with
  | true =>
    have hc := hcl rfl
    clear hcl h hlo hT
    go_enter Try.func32, Try.ntmps32
    go_upto_region 2 with (go_at_call 33; refine hc.mono ?_; rintro e1 w1 ⟨rfl, ⟨v1, h1⟩, f1⟩)
    obtain ⟨⟨o2, g2⟩, ⟨o3, g3⟩, z2, z3, h2, f2⟩ := AT.out w1 v1 _ true (by have := A.out.2; simp; omega) h1 f1
    have d2 := h2.c2
    have A2 : Aside _ := And.intro h2 f2
    cases l with
    | true =>
      clear h2 f2 h1 f1 hc c2
      go_wp2_with fail
      first | go_end0 | (refine bodyPost_ret (results_none rfl _ _ _) rfl ?_)
      exact ⟨rfl, ⟨v1, by simpa [iff', tm] using A2.out.1⟩, A2.out.2⟩
    | false =>
      have ho := AP.out _ v1 _ (by have := A.out.2; simp; omega) h2
      clear h2 f2 h1 f1 hc c2
      go_wp2_with (go_at_call 33; refine ho.mono ?_; rintro e3 w3 ⟨rfl, ⟨v3, h3⟩, f3⟩)
      first | go_end0 | (refine bodyPost_ret (results_none rfl _ _ _) rfl ?_)
      exact ⟨rfl, ⟨v3, by simpa [iff', tm] using h3⟩, A2.out.2.trans f3⟩
  | false =>
    have h1 := h
    obtain ⟨⟨o2, g2⟩, ⟨o3, g3⟩, z2, z3, h2, f2⟩ := AT.out w v T false (by omega) h (Fr.refl _ _ _)
    have d2 := h2.c2
    have A2 : Aside _ := And.intro h2 f2
    clear hcl hlo hT h h1
    cases l with
    | true =>
      clear h2 f2 g2
      go_enter Try.func32, Try.ntmps32
      go_wp2_with fail
      first | go_end0 | (refine bodyPost_ret (results_none rfl _ _ _) rfl ?_)
      exact ⟨rfl, ⟨v, by simpa [iff', tm] using A2.out.1⟩, A2.out.2⟩
    | false =>
      have ho := AP.out _ v _ (by have := A.out.2; omega) h2
      clear h2 f2 g2
      go_enter Try.func32, Try.ntmps32
      go_wp2_with (go_at_call 33; refine ho.mono ?_; rintro e3 w3 ⟨rfl, ⟨v3, h3⟩, f3⟩)
      first | go_end0 | (refine bodyPost_ret (results_none rfl _ _ _) rfl ?_)
      exact ⟨rfl, ⟨v3, by simpa [iff', tm] using h3⟩, A2.out.2.trans f3⟩
end
end Go.Proofs.Ytbndohpcaahenaa

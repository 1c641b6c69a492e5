/-
  A run of blanks, as the document goes through it.
-/
import Derived.Test.YtapljkenmgdkmaaBlm
import Derived.Deep.LoopGhost
namespace Go.Proofs.Ytapljkenmgdkmaa
open Go.RowKit
set_option linter.unusedVariables false
theorem Tk.len {l : List Nat} {i n : Nat} {K T : List Nat} (h : Tk l i n K T) (hi : i ≤ l.length) : K.length ≤ l.length - i ∧ T.length ≤ l.length - i := by
  have h1 := congrArg (fun r => r.out.length) h
  have h2 := congrArg (fun r => r.tm.length) h
  have h3 := rn_len (l.drop i) i .no []
  have h4 := rn_tm (l.drop i) i .no []
  simp [cat, pend] at h1 h2 h3
  omega
/-- What of a run of blanks was said behind j rounds. -/
structure Bl (w0 w : World) (lo R L : Nat) (out tm bl : List Nat) (d : Bool) (i kt j : Nat) : Prop where
  r : Rr w lo R (out ++ bK bl d j) (tm ++ bT bl d i kt j) 0 L
  f : Fr lo R w0 w
theorem bK_len (bl : List Nat) (d : Bool) (j : Nat) : (bK bl d j).length ≤ 2 * bl.length := by
  unfold bK
  rw [List.length_append, List.length_take]
  have : (if d = true then [] else (bl.take j).drop (bl.length - 64)).length ≤ bl.length := by
    split
    · simp
    · simp; omega
  omega
theorem bT_len (bl : List Nat) (d : Bool) (i kt j : Nat) (hj : j ≤ bl.length) : (bT bl d i kt j).length ≤ 2 * bl.length := by
  unfold bT
  rw [List.length_append, List.length_map, List.length_range]
  have : (if d = true then [] else List.replicate (j - (bl.length - 64)) kt).length ≤ bl.length := by
    split
    · simp
    · simp; omega
  omega
set_option maxHeartbeats 2000000 in
theorem blanks_c (w : World) (lo R : Nat) (out tm : List Nat) (a : Option Addr) (l : List Nat) (L C i : Nat) (bl r : List Nat) (hlo : lo ≤ R) (hR : Rr w lo R out tm 0 L) (hl : ∀ w', Fr lo R w w' → Lies w' a l) (ho : Oct l) (hL : l.length = L) (hLb : L < 100000000000) (hm : l.drop i = bl ++ r) (hb : ∀ x ∈ bl, isB x = true) (hr : ∀ x, r[0]? = some x → isB x = false) (hbl : 0 < bl.length) (h1 : out.length < 100000000000) (h2 : tm.length < 100000000000) :
    Calls Try.prog 27 #[.pointer (some ⟨R, 0, none⟩), .slice a L C, .int .i64 (i : Int)] w fun e w' => TkTo l i L lo R out tm w e w' := by
  obtain ⟨N, hN⟩ : ∃ N, bl.length = N := ⟨_, rfl⟩
  have hlen := congrArg List.length hm
  rw [List.length_append, List.length_drop, hN, hL] at hlen
  obtain ⟨en, hen⟩ : ∃ en, i + N = en := ⟨_, rfl⟩
  have henL : en ≤ L := by omega
  have hr2 : l.drop en = r := by rw [← hen, ← hN, ← List.drop_drop, hm, List.drop_left]
  obtain ⟨d, hd⟩ : ∃ d, decide (r = [] ∨ 0 < brk r) = d := ⟨_, rfl⟩
  obtain ⟨kt, hkt⟩ : ∃ kt, lastT en r = kt := ⟨_, rfl⟩
  have hall := b_all hm hb hr
  rw [hN, hen, hd, hkt] at hall
  have hget : ∀ j, j < N → ∃ x, l[i + j]? = some x ∧ bl[j]? = some x ∧ isB x = true ∧ x < 256 := by
    intro j hj
    have e : bl[j]? = some bl[j] := List.getElem?_eq_getElem (by omega)
    have e2 : l[i + j]? = some bl[j] := by rw [← List.getElem?_drop, hm, List.getElem?_append_left (by omega)]; exact e
    exact ⟨_, e2, e, hb _ (List.mem_of_getElem? e), ho _ (List.mem_of_getElem? e2)⟩
  have hiI : (i : Int) < 100000000000 := by omega
  have hnI : (N : Int) < 100000000000 := by omega
  have henI : (i : Int) + (N : Int) = (en : Int) := by omega
  have henb : (en : Int) < 200000000000 := by omega
  obtain ⟨b, o, hab⟩ := (hl w (Fr.refl _ _ _)).some' (by omega)
  subst hab
  have A : Aside ((∀ w', Fr lo R w w' → Lies w' (some ⟨b, o, none⟩) l) ∧ Oct l ∧ l.length = L ∧ L < 100000000000 ∧ bl.length = N ∧ i + N = en ∧ en ≤ L ∧ l.drop en = r ∧ (∀ x, r[0]? = some x → isB x = false) ∧ (∀ j, j < N → ∃ x, l[i + j]? = some x ∧ bl[j]? = some x ∧ isB x = true ∧ x < 256)) := ⟨hl, ho, hL, hLb, hN, hen, henL, hr2, hr, hget⟩
  have AR : Aside (Rr w lo R out tm 0 L ∧ lo ≤ R ∧ out.length < 100000000000 ∧ tm.length < 100000000000 ∧ 0 < N) := ⟨hR, hlo, h1, h2, by omega⟩
  have AE : Aside (Tk l i N (bK bl d N) (bT bl d i kt N) ∧ decide (r = [] ∨ 0 < brk r) = d ∧ lastT en r = kt) := ⟨hall, hd, hkt⟩
  clear hl ho hL hLb hm hb hr hbl h1 h2 hN hlen hen henL hr2 hd hkt hall hget hlo hR
  go_enter Try.func27, Try.ntmps27
  go_wp2_with fail
  go_loopg [7] N (fun gg s7 wr => ∃ k : Nat, k + gg = N ∧ s7 = .int .i64 (k : Int) ∧ wr = w)
  case atStart => exact ⟨0, by omega, rfl, rfl⟩
  case round =>
    obtain ⟨k, hk, rfl, hw⟩ := hrel
    have hw := hw.symm
    subst hw
    have AK : Aside (k + gk = N) := hk
    clear hk
    have a0 := A.out
    have ak := AK.out
    by_cases hkN : k < N
    · obtain ⟨x, hx, hbx, hxB, hx256⟩ := a0.2.2.2.2.2.2.2.2.2 k hkN
      obtain ⟨p, hp⟩ : ∃ p, i + k = p := ⟨_, rfl⟩
      rw [hp] at hx
      have cx := (a0.1 w (Fr.refl _ _ _)).at' hx
      have hpI : (i : Int) + (k : Int) = (p : Int) := by omega
      have hpb : (p : Int) < 200000000000 := by omega
      have t1 : ((p : Int) < (L : Int)) = True := eq_true (by omega)
      have t1' : (p < L) = True := eq_true (by omega)
      have hkb : (k : Int) < 100000000000 := by omega
      have hbl := rblank_c x hx256 w
      rw [hxB] at hbl
      have AN : Aside (k < N) := hkN
      clear a0 ak hkN hx hbx hxB hx256 hp
      go_wp2_with (go_at_call 26; refine hbl.mono ?_; rintro e1 w0 ⟨rfl, hw0⟩; subst hw0)
      have ak := AK.out
      have an := AN.out
      go_roundg (gk - 1)
      case measure => omega
      case rel => exact ⟨k + 1, by omega, by go_num, rfl⟩
    · have hkN2 : k = N := by omega
      subst hkN2
      cases r with
      | nil =>
        have e1 : en = L := by
          have := congrArg List.length a0.2.2.2.2.2.2.2.1
          simp at this
          omega
        have t1 : ((en : Int) < (L : Int)) = False := eq_false (by omega)
        have t1' : (en < L) = False := eq_false (by omega)
        have t2 : ((en : Int) == (L : Int)) = true := by rw [beq_iff_eq]; omega
        have ed : d = true := by rw [← AE.out.2.1]; simp
        have ekt : en = kt := by rw [← AE.out.2.2]; simp [lastT]
        subst ekt
        subst ed
        clear a0 ak hkN e1
        go_wp2_with fail
        go_loopg [10, 11] k (fun gg s10 s11 wr => ∃ j kk : Nat, s10 = .int .i64 (kk : Int) ∧ Aside (j + gg = k ∧ i + j = kk ∧ Bl w wr lo R L out tm bl true i en j))
        case atStart =>
          have ar := AR.out
          exact ⟨0, i, rfl, by omega, by omega, ⟨by rw [bK_zero, bT_zero, List.append_nil, List.append_nil]; exact ar.1, Fr.refl _ _ _⟩⟩
        case round =>
          obtain ⟨j, kk, rfl, hI⟩ := hrel
          obtain ⟨hjk, hkk, hB⟩ := hI.out
          have a0 := A.out
          have ar := AR.out
          have hkkb : (kk : Int) < 200000000000 := by omega
          obtain ⟨m64, hm64⟩ : ∃ m, kk + 64 = m := ⟨_, rfl⟩
          have hm64I : (kk : Int) + 64 = (m64 : Int) := by omega
          have hm64b : (m64 : Int) < 300000000000 := by omega
          by_cases hj : j < k
          · obtain ⟨x5, hx5, hbx5, _, _⟩ := a0.2.2.2.2.2.2.2.2.2 j hj
            rw [hkk] at hx5
            have cx := (a0.1 wr hB.f).at' hx5
            have s1 : ((kk : Int) < (en : Int)) = True := eq_true (by omega)
            have s1' : (kk < en) = True := eq_true (by omega)
            have s2 : (kk : Int) < (L : Int) := by omega
            have hlen1 := bK_len bl true j
            have hlen2 := bT_len bl true i en j (by omega)
            rw [a0.2.2.2.2.1] at hlen1 hlen2
            by_cases h64 : j + 64 < k
            · have s3 : ((m64 : Int) < (en : Int)) = True := eq_true (by omega)
              have s3' : (m64 < en) = True := eq_true (by omega)
              have hsay := say_c wr lo R (out ++ bK bl true j) (tm ++ bT bl true i en j) 0 L x5 m64 ar.2.1 hB.r (by simp; omega) (by simp; omega)
              obtain ⟨e1, e2⟩ := b_early (d := true) (i := i) (kt := en) hbx5 (by rw [a0.2.2.2.2.1]; exact h64)
              have AX : Aside (j + gk = k ∧ j < k ∧ i + j = kk ∧ Fr lo R w wr ∧ ∀ w2, Rr w2 lo R (out ++ bK bl true j ++ [x5]) (tm ++ bT bl true i en j ++ [m64]) 0 L → Rr w2 lo R (out ++ bK bl true (j + 1)) (tm ++ bT bl true i en (j + 1)) 0 L) := ⟨hjk, hj, hkk, hB.f, fun w2 h => by rw [e1, e2, show i + j + 64 = m64 by omega, ← List.append_assoc, ← List.append_assoc]; exact h⟩
              clear hI hjk hkk hB a0 ar hm64 hj hx5 hbx5 hlen1 hlen2 h64 e1 e2
              go_wp2_with (go_at_call 24; refine hsay.mono ?_; rintro e7 w7 ⟨rfl, h7, f7⟩)
              have ax := AX.out
              go_roundg (gk - 1)
              case measure => omega
              case rel => exact ⟨j + 1, kk + 1, by go_num, by omega, by omega, ⟨ax.2.2.2.2 _ h7, ax.2.2.2.1.trans f7⟩⟩
            · have s3 : ((m64 : Int) < (en : Int)) = False := eq_false (by omega)
              have s3' : (m64 < en) = False := eq_false (by omega)
              obtain ⟨e1, e2⟩ := b_drop (bl := bl) (i := i) (kt := en) (j := j) (by rw [a0.2.2.2.2.1]; exact h64)
              have AX : Aside (j + gk = k ∧ j < k ∧ i + j = kk ∧ Bl w wr lo R L out tm bl true i en (j + 1)) := ⟨hjk, hj, hkk, ⟨by rw [e1, e2]; exact hB.r, hB.f⟩⟩
              clear hI hjk hkk hB a0 ar hm64 hj hx5 hbx5 hlen1 hlen2 h64 e1 e2
              go_wp2_with fail
              have ax := AX.out
              go_roundg (gk - 1)
              case measure => omega
              case rel => exact ⟨j + 1, kk + 1, by go_num, by omega, by omega, ax.2.2.2⟩
          · have s1 : ((kk : Int) < (en : Int)) = False := eq_false (by omega)
            have s1' : (kk < en) = False := eq_false (by omega)
            have ej : j = k := by omega
            rw [ej] at hB
            have AX : Aside (TkTo l i L lo R out tm w (.returned (.int .i64 (k : Int))) wr) := ⟨k, rfl, by omega, hB.f, Or.inl ⟨bK bl true k, bT bl true i en k, hB.r, ar.2.2.2.2, by omega, AE.out.1⟩⟩
            clear hI hjk hkk hB a0 ar hm64 hj ej
            go_wp2_with fail
            go_ret
            exact AX.out

      | cons x q =>
        obtain ⟨hxe, hq, hlt⟩ := drop_cons a0.2.2.2.2.2.2.2.1
        have hx256 := a0.2.1 x (List.mem_of_getElem? hxe)
        have hnb := a0.2.2.2.2.2.2.2.2.1 x rfl
        have cE0 := (a0.1 w (Fr.refl _ _ _)).at' hxe
        have t1 : ((en : Int) < (L : Int)) = True := eq_true (by omega)
        have t1' : (en < L) = True := eq_true (by omega)
        have t2 : ((en : Int) == (L : Int)) = false := by rw [beq_eq_false_iff_ne]; omega
        have hbl := rblank_c x hx256 w
        rw [hnb] at hbl
        have hbk := breaks_c w (some ⟨b, o, none⟩) l L C en (x :: q) (a0.1 w (Fr.refl _ _ _)) a0.2.2.1 (by omega) (by omega) a0.2.2.2.2.2.2.2.1
        obtain ⟨bq, hbq⟩ : ∃ bq, brk (x :: q) = bq := ⟨_, rfl⟩
        rw [hbq] at hbk
        have ed : decide (0 < bq) = d := by rw [← AE.out.2.1, hbq]; simp
        have AD : Aside (decide (0 < bq) = d) := ed
        have AH : Aside (l[en]? = some x ∧ en < L) := ⟨hxe, by omega⟩
        clear a0 ak hkN hq hlt hx256 hnb hbq ed hxe
        go_upto_region 6 with (first
          | (go_at_call 26; refine hbl.mono ?_; rintro e1 w0 ⟨rfl, hw0⟩; subst hw0)
          | (go_at_call 23; refine hbk.mono ?_; rintro e1 w0 ⟨rfl, hw0⟩; subst hw0))
        rw [AD.out]
        have hxe := AH.out.1
        clear hbl hbk
        by_cases h13 : x = 13
        · subst h13
          have ekt : en + 1 = kt := by rw [← AE.out.2.2]; simp [lastT]
          have ektI : (en : Int) + 1 = (kt : Int) := by omega
          have ektb : (kt : Int) < 300000000000 := by omega
          clear ekt cE0
          go_wp2_with fail
          go_loopg [10, 11] k (fun gg s10 s11 wr => ∃ j kk : Nat, s10 = .int .i64 (kk : Int) ∧ Aside (j + gg = k ∧ i + j = kk ∧ Bl w wr lo R L out tm bl d i kt j))
          case atStart =>
            have ar := AR.out
            exact ⟨0, i, rfl, by omega, by omega, ⟨by rw [bK_zero, bT_zero, List.append_nil, List.append_nil]; exact ar.1, Fr.refl _ _ _⟩⟩
          case round =>
            obtain ⟨j, kk, rfl, hI⟩ := hrel
            obtain ⟨hjk, hkk, hB⟩ := hI.out
            have a0 := A.out
            have ar := AR.out
            have hkkb : (kk : Int) < 200000000000 := by omega
            obtain ⟨m64, hm64⟩ : ∃ m, kk + 64 = m := ⟨_, rfl⟩
            have hm64I : (kk : Int) + 64 = (m64 : Int) := by omega
            have hm64b : (m64 : Int) < 300000000000 := by omega
            by_cases hj : j < k
            · obtain ⟨x5, hx5, hbx5, _, _⟩ := a0.2.2.2.2.2.2.2.2.2 j hj
              rw [hkk] at hx5
              have cx := (a0.1 wr hB.f).at' hx5
              have cE := (a0.1 wr hB.f).at' hxe
              have s1 : ((kk : Int) < (en : Int)) = True := eq_true (by omega)
              have s1' : (kk < en) = True := eq_true (by omega)
              have s2 : (kk : Int) < (L : Int) := by omega
              have hlen1 := bK_len bl d j
              have hlen2 := bT_len bl d i kt j (by omega)
              rw [a0.2.2.2.2.1] at hlen1 hlen2
              by_cases h64 : j + 64 < k
              · have s3 : ((m64 : Int) < (en : Int)) = True := eq_true (by omega)
                have s3' : (m64 < en) = True := eq_true (by omega)
                have hsay := say_c wr lo R (out ++ bK bl d j) (tm ++ bT bl d i kt j) 0 L x5 m64 ar.2.1 hB.r (by simp; omega) (by simp; omega)
                obtain ⟨e1, e2⟩ := b_early (d := d) (i := i) (kt := kt) hbx5 (by rw [a0.2.2.2.2.1]; exact h64)
                have AX : Aside (j + gk = k ∧ j < k ∧ i + j = kk ∧ Fr lo R w wr ∧ ∀ w2, Rr w2 lo R (out ++ bK bl d j ++ [x5]) (tm ++ bT bl d i kt j ++ [m64]) 0 L → Rr w2 lo R (out ++ bK bl d (j + 1)) (tm ++ bT bl d i kt (j + 1)) 0 L) := ⟨hjk, hj, hkk, hB.f, fun w2 h => by rw [e1, e2, show i + j + 64 = m64 by omega, ← List.append_assoc, ← List.append_assoc]; exact h⟩
                clear hI hjk hkk hB a0 ar hm64 hj hx5 hbx5 hlen1 hlen2 h64 e1 e2
                go_wp2_with (go_at_call 24; refine hsay.mono ?_; rintro e7 w7 ⟨rfl, h7, f7⟩)
                have ax := AX.out
                go_roundg (gk - 1)
                case measure => omega
                case rel => exact ⟨j + 1, kk + 1, by go_num, by omega, by omega, ⟨ax.2.2.2.2 _ h7, ax.2.2.2.1.trans f7⟩⟩
              · have s3 : ((m64 : Int) < (en : Int)) = False := eq_false (by omega)
                have s3' : (m64 < en) = False := eq_false (by omega)
                cases d with
                | true =>
                  obtain ⟨e1, e2⟩ := b_drop (bl := bl) (i := i) (kt := kt) (j := j) (by rw [a0.2.2.2.2.1]; exact h64)
                  have AX : Aside (j + gk = k ∧ j < k ∧ i + j = kk ∧ Bl w wr lo R L out tm bl true i kt (j + 1)) := ⟨hjk, hj, hkk, ⟨by rw [e1, e2]; exact hB.r, hB.f⟩⟩
                  clear hI hjk hkk hB a0 ar hm64 hj hx5 hbx5 hlen1 hlen2 h64 e1 e2
                  go_wp2_with fail
                  have ax := AX.out
                  go_roundg (gk - 1)
                  case measure => omega
                  case rel => exact ⟨j + 1, kk + 1, by go_num, by omega, by omega, ax.2.2.2⟩
                | false =>
                  have hsay := say_c wr lo R (out ++ bK bl false j) (tm ++ bT bl false i kt j) 0 L x5 kt ar.2.1 hB.r (by simp; omega) (by simp; omega)
                  obtain ⟨e1, e2⟩ := b_late (i := i) (kt := kt) hbx5 (by rw [a0.2.2.2.2.1]; exact h64)
                  have AX : Aside (j + gk = k ∧ j < k ∧ i + j = kk ∧ Fr lo R w wr ∧ ∀ w2, Rr w2 lo R (out ++ bK bl false j ++ [x5]) (tm ++ bT bl false i kt j ++ [kt]) 0 L → Rr w2 lo R (out ++ bK bl false (j + 1)) (tm ++ bT bl false i kt (j + 1)) 0 L) := ⟨hjk, hj, hkk, hB.f, fun w2 h => by rw [e1, e2, ← List.append_assoc, ← List.append_assoc]; exact h⟩
                  clear hI hjk hkk hB a0 ar hm64 hj hx5 hbx5 hlen1 hlen2 h64 e1 e2
                  go_wp2_with (go_at_call 24; refine hsay.mono ?_; rintro e7 w7 ⟨rfl, h7, f7⟩)
                  have ax := AX.out
                  go_roundg (gk - 1)
                  case measure => omega
                  case rel => exact ⟨j + 1, kk + 1, by go_num, by omega, by omega, ⟨ax.2.2.2.2 _ h7, ax.2.2.2.1.trans f7⟩⟩
            · have s1 : ((kk : Int) < (en : Int)) = False := eq_false (by omega)
              have s1' : (kk < en) = False := eq_false (by omega)
              have ej : j = k := by omega
              rw [ej] at hB
              have AX : Aside (TkTo l i L lo R out tm w (.returned (.int .i64 (k : Int))) wr) := ⟨k, rfl, by omega, hB.f, Or.inl ⟨bK bl d k, bT bl d i kt k, hB.r, ar.2.2.2.2, by omega, AE.out.1⟩⟩
              clear hI hjk hkk hB a0 ar hm64 hj ej
              go_wp2_with fail
              go_ret
              exact AX.out

        · have u13 : ((x : Int) == 13) = false := by rw [beq_eq_false_iff_ne]; omega
          have ekt : en = kt := by rw [← AE.out.2.2]; simp [lastT, h13]
          subst ekt
          clear cE0 h13
          go_wp2_with fail
          go_loopg [10, 11] k (fun gg s10 s11 wr => ∃ j kk : Nat, s10 = .int .i64 (kk : Int) ∧ Aside (j + gg = k ∧ i + j = kk ∧ Bl w wr lo R L out tm bl d i en j))
          case atStart =>
            have ar := AR.out
            exact ⟨0, i, rfl, by omega, by omega, ⟨by rw [bK_zero, bT_zero, List.append_nil, List.append_nil]; exact ar.1, Fr.refl _ _ _⟩⟩
          case round =>
            obtain ⟨j, kk, rfl, hI⟩ := hrel
            obtain ⟨hjk, hkk, hB⟩ := hI.out
            have a0 := A.out
            have ar := AR.out
            have hkkb : (kk : Int) < 200000000000 := by omega
            obtain ⟨m64, hm64⟩ : ∃ m, kk + 64 = m := ⟨_, rfl⟩
            have hm64I : (kk : Int) + 64 = (m64 : Int) := by omega
            have hm64b : (m64 : Int) < 300000000000 := by omega
            by_cases hj : j < k
            · obtain ⟨x5, hx5, hbx5, _, _⟩ := a0.2.2.2.2.2.2.2.2.2 j hj
              rw [hkk] at hx5
              have cx := (a0.1 wr hB.f).at' hx5
              have cE := (a0.1 wr hB.f).at' hxe
              have s1 : ((kk : Int) < (en : Int)) = True := eq_true (by omega)
              have s1' : (kk < en) = True := eq_true (by omega)
              have s2 : (kk : Int) < (L : Int) := by omega
              have hlen1 := bK_len bl d j
              have hlen2 := bT_len bl d i en j (by omega)
              rw [a0.2.2.2.2.1] at hlen1 hlen2
              by_cases h64 : j + 64 < k
              · have s3 : ((m64 : Int) < (en : Int)) = True := eq_true (by omega)
                have s3' : (m64 < en) = True := eq_true (by omega)
                have hsay := say_c wr lo R (out ++ bK bl d j) (tm ++ bT bl d i en j) 0 L x5 m64 ar.2.1 hB.r (by simp; omega) (by simp; omega)
                obtain ⟨e1, e2⟩ := b_early (d := d) (i := i) (kt := en) hbx5 (by rw [a0.2.2.2.2.1]; exact h64)
                have AX : Aside (j + gk = k ∧ j < k ∧ i + j = kk ∧ Fr lo R w wr ∧ ∀ w2, Rr w2 lo R (out ++ bK bl d j ++ [x5]) (tm ++ bT bl d i en j ++ [m64]) 0 L → Rr w2 lo R (out ++ bK bl d (j + 1)) (tm ++ bT bl d i en (j + 1)) 0 L) := ⟨hjk, hj, hkk, hB.f, fun w2 h => by rw [e1, e2, show i + j + 64 = m64 by omega, ← List.append_assoc, ← List.append_assoc]; exact h⟩
                clear hI hjk hkk hB a0 ar hm64 hj hx5 hbx5 hlen1 hlen2 h64 e1 e2
                go_wp2_with (go_at_call 24; refine hsay.mono ?_; rintro e7 w7 ⟨rfl, h7, f7⟩)
                have ax := AX.out
                go_roundg (gk - 1)
                case measure => omega
                case rel => exact ⟨j + 1, kk + 1, by go_num, by omega, by omega, ⟨ax.2.2.2.2 _ h7, ax.2.2.2.1.trans f7⟩⟩
              · have s3 : ((m64 : Int) < (en : Int)) = False := eq_false (by omega)
                have s3' : (m64 < en) = False := eq_false (by omega)
                cases d with
                | true =>
                  obtain ⟨e1, e2⟩ := b_drop (bl := bl) (i := i) (kt := en) (j := j) (by rw [a0.2.2.2.2.1]; exact h64)
                  have AX : Aside (j + gk = k ∧ j < k ∧ i + j = kk ∧ Bl w wr lo R L out tm bl true i en (j + 1)) := ⟨hjk, hj, hkk, ⟨by rw [e1, e2]; exact hB.r, hB.f⟩⟩
                  clear hI hjk hkk hB a0 ar hm64 hj hx5 hbx5 hlen1 hlen2 h64 e1 e2
                  go_wp2_with fail
                  have ax := AX.out
                  go_roundg (gk - 1)
                  case measure => omega
                  case rel => exact ⟨j + 1, kk + 1, by go_num, by omega, by omega, ax.2.2.2⟩
                | false =>
                  have hsay := say_c wr lo R (out ++ bK bl false j) (tm ++ bT bl false i en j) 0 L x5 en ar.2.1 hB.r (by simp; omega) (by simp; omega)
                  obtain ⟨e1, e2⟩ := b_late (i := i) (kt := en) hbx5 (by rw [a0.2.2.2.2.1]; exact h64)
                  have AX : Aside (j + gk = k ∧ j < k ∧ i + j = kk ∧ Fr lo R w wr ∧ ∀ w2, Rr w2 lo R (out ++ bK bl false j ++ [x5]) (tm ++ bT bl false i en j ++ [en]) 0 L → Rr w2 lo R (out ++ bK bl false (j + 1)) (tm ++ bT bl false i en (j + 1)) 0 L) := ⟨hjk, hj, hkk, hB.f, fun w2 h => by rw [e1, e2, ← List.append_assoc, ← List.append_assoc]; exact h⟩
                  clear hI hjk hkk hB a0 ar hm64 hj hx5 hbx5 hlen1 hlen2 h64 e1 e2
                  go_wp2_with (go_at_call 24; refine hsay.mono ?_; rintro e7 w7 ⟨rfl, h7, f7⟩)
                  have ax := AX.out
                  go_roundg (gk - 1)
                  case measure => omega
                  case rel => exact ⟨j + 1, kk + 1, by go_num, by omega, by omega, ⟨ax.2.2.2.2 _ h7, ax.2.2.2.1.trans f7⟩⟩
            · have s1 : ((kk : Int) < (en : Int)) = False := eq_false (by omega)
              have s1' : (kk < en) = False := eq_false (by omega)
              have ej : j = k := by omega
              rw [ej] at hB
              have AX : Aside (TkTo l i L lo R out tm w (.returned (.int .i64 (k : Int))) wr) := ⟨k, rfl, by omega, hB.f, Or.inl ⟨bK bl d k, bT bl d i en k, hB.r, ar.2.2.2.2, by omega, AE.out.1⟩⟩
              clear hI hjk hkk hB a0 ar hm64 hj ej
              go_wp2_with fail
              go_ret
              exact AX.out

end Go.Proofs.Ytapljkenmgdkmaa

/-
  Own texts of this seat, one behind the other: what each says stands ahead of it.
-/
import Derived.Test.YtogednaamndpgaaGreatDoorMo
import Derived.Test.YtogednaamndpgaaGreatDoorMn
/-
 What the document's said comes to.
-/
namespace Go.Proofs.YtogednaamndpgaaGreatDoor
open Go.RowKit
set_option linter.unusedVariables false
def ILies (w : World) (a : Option Addr) (l : List Nat) : Prop := l = [] ∨ ∃ (b o : Nat), a = some ⟨b, o, none⟩ ∧ ∀ (i x : Nat), l[i]? = some x → w.cell? ⟨b, o + i, none⟩ = some (.int .i64 (x : Int))
theorem ILies.below {w u : World} {a : Option Addr} {l : List Nat} (h : ILies w a l) (k : Below w.heap.size w u) : ILies u a l := by
 rcases h with h | ⟨b, o, ha, hc⟩
 ·exact Or.inl h
 ·exact Or.inr ⟨b, o, ha, fun i x hx => (k.cell (p := ⟨b, o + i, none⟩) (World.block_lt_of_cell? w ⟨b, o + i, none⟩ (hc i x hx))).trans (hc i x hx)⟩
def sayV (x : Say) : V3 := (.int .i64 (x.s : Int), .int .i64 (x.v : Int), .int .i64 (x.n : Int))
theorem sayV_one (t : Say) : (sayV t).1.oneCell' = true ∧ (sayV t).2.1.oneCell' = true ∧ (sayV t).2.2.oneCell' = true := ⟨rfl, rfl, rfl⟩
def SaysT (row : List Nat) (e : Nat) : Nat → List Say → Prop
 | i, [] => i = e
 | i, x :: r => (x.s < 16 ∧ x.n = 0 ∧ row[i]? = some x.s ∧ SaysT row e (i + 1) r) ∨
   (x.s = 16 ∧ x.n = 2 ∧ x.v < 4 ∧ 0 < i ∧ i + (3 + x.v) ≤ row.length ∧ (∀ k, k < 3 + x.v → row[i + k]? = row[i - 1]?) ∧ SaysT row e (i + (3 + x.v)) r) ∨
   (x.s = 17 ∧ x.n = 3 ∧ x.v < 8 ∧ i + (3 + x.v) ≤ row.length ∧ (∀ k, k < 3 + x.v → row[i + k]? = some 0) ∧ SaysT row e (i + (3 + x.v)) r) ∨
   (x.s = 18 ∧ x.n = 7 ∧ x.v < 128 ∧ i + (11 + x.v) ≤ row.length ∧ (∀ k, k < 11 + x.v → row[i + k]? = some 0) ∧ SaysT row e (i + (11 + x.v)) r)
theorem SaysT.says {row : List Nat} : ∀ {l : List Say} {i : Nat}, SaysT row row.length i l → Says row i l
 | [], i, h => h
 | x :: r, i, h => by
  rcases h with ⟨h1, h2, h3, h4⟩ | ⟨h1, h2, h3, h4, h5, h6, h7⟩ | ⟨h1, h2, h3, h4, h5, h6⟩ | ⟨h1, h2, h3, h4, h5, h6⟩
  ·exact Or.inl ⟨h1, h2, h3, h4.says⟩
  ·exact Or.inr (Or.inl ⟨h1, h2, h3, h4, h5, h6, h7.says⟩)
  ·exact Or.inr (Or.inr (Or.inl ⟨h1, h2, h3, h4, h5, h6.says⟩))
  ·exact Or.inr (Or.inr (Or.inr ⟨h1, h2, h3, h4, h5, h6.says⟩))
theorem SaysT.snoc {row : List Nat} {x : Say} {e f : Nat} (hx : SaysT row f e [x]) : ∀ {l : List Say} {i : Nat}, SaysT row e i l → SaysT row f i (l ++ [x])
 | [], i, h => by have : i = e := h; subst this; exact hx
 | y :: r, i, h => by
  rcases h with ⟨h1, h2, h3, h4⟩ | ⟨h1, h2, h3, h4, h5, h6, h7⟩ | ⟨h1, h2, h3, h4, h5, h6⟩ | ⟨h1, h2, h3, h4, h5, h6⟩
  ·exact Or.inl ⟨h1, h2, h3, SaysT.snoc hx h4⟩
  ·exact Or.inr (Or.inl ⟨h1, h2, h3, h4, h5, h6, SaysT.snoc hx h7⟩)
  ·exact Or.inr (Or.inr (Or.inl ⟨h1, h2, h3, h4, h5, SaysT.snoc hx h6⟩))
  ·exact Or.inr (Or.inr (Or.inr ⟨h1, h2, h3, h4, h5, SaysT.snoc hx h6⟩))
def Alike (row : List Nat) (i r : Nat) : Prop := i + r ≤ row.length ∧ ∀ k, k < r → row[i + k]? = row[i]?
theorem say_lit {row : List Nat} {i x : Nat} (h : row[i]? = some x) (hx : x < 16) : SaysT row (i + 1) i [⟨x, 0, 0⟩] := Or.inl ⟨hx, rfl, h, rfl⟩
theorem say_16 {row : List Nat} {i r n : Nat} (h : Alike row i r) (hi : 0 < i) (he : row[i]? = row[i - 1]?) (hn : n ≤ r) (h3 : 3 ≤ n) (h6 : n ≤ 6) : SaysT row (i + n) i [⟨16, n - 3, 2⟩] := by
 refine Or.inr (Or.inl ⟨rfl, rfl, by show n - 3 < 4; omega, hi, by show i + (3 + (n - 3)) ≤ _; have := h.1; omega, fun k hk => ?_, ?_⟩)
 ·rw [h.2 k (by have : k < 3 + (n - 3) := hk; omega), he]
 ·show i + (3 + (n - 3)) = i + n
  omega
theorem say_17 {row : List Nat} {i r : Nat} (h : Alike row i r) (h0 : row[i]? = some 0) (h3 : 3 ≤ r) (h6 : r < 11) : SaysT row (i + r) i [⟨17, r - 3, 3⟩] := by
 refine Or.inr (Or.inr (Or.inl ⟨rfl, rfl, by show r - 3 < 8; omega, by show i + (3 + (r - 3)) ≤ _; have := h.1; omega, fun k hk => ?_, ?_⟩))
 ·rw [h.2 k (by have : k < 3 + (r - 3) := hk; omega), h0]
 ·show i + (3 + (r - 3)) = i + r
  omega
theorem say_18 {row : List Nat} {i r n : Nat} (h : Alike row i r) (h0 : row[i]? = some 0) (hn : n ≤ r) (h3 : 11 ≤ n) (h6 : n ≤ 138) : SaysT row (i + n) i [⟨18, n - 11, 7⟩] := by
 refine Or.inr (Or.inr (Or.inr ⟨rfl, rfl, by show n - 11 < 128; omega, by show i + (11 + (n - 11)) ≤ _; have := h.1; omega, fun k hk => ?_, ?_⟩))
 ·rw [h.2 k (by have : k < 11 + (n - 11) := hk; omega), h0]
 ·show i + (11 + (n - 11)) = i + n
  omega
set_option maxRecDepth 100000 in
set_option maxHeartbeats 4000000 in
theorem said_c (w : World) (a : Option Addr) (row : List Nat) (n c : Nat) (runs : Bool) (hl : ILies w a row) (hn : row.length = n) (hnb : n ≤ 400) (h16 : ∀ x ∈ row, x < 16) :
  Calls Tryz.prog 85 #[.slice a n c, .bool runs] w fun e1 w' => ∃ v ss, e1 = .returned v ∧ O3 w' w.heap.size 142 v (ss.map sayV) ∧ Says row 0 ss ∧ ss.length ≤ n ∧ Below w.heap.size w w' := by
 obtain ⟨B, hB⟩ : ∃ B, w.heap.size = B := ⟨_, rfl⟩
 rw [hB]
 have A : Aside (ILies w a row ∧ row.length = n ∧ n ≤ 400 ∧ (∀ x ∈ row, x < 16) ∧ w.heap.size = B) := ⟨hl, hn, hnb, h16, hB⟩
 have hni : (n : Int) ≤ 400 := by omega
 obtain ⟨i0, hi0, hz0, hz1, hz2⟩ := ginfo_parts info119
 have AI : Aside (Tryz.prog.info? 142 = some i0 ∧ i0.zero = some (.agg #[.int .i64 0, .int .i64 0, .int .i64 0]) ∧ i0.size = 3 ∧ i0.bytes = 24) := ⟨hi0, hz0, hz1, hz2⟩
 clear hl hn hnb h16 hB hi0 hz0 hz1 hz2
 go_enter Tryz.func85, Tryz.ntmps85
 go_wp2_with fail
 go_loopg [5, 6] n (fun gg s5 s6 wr => ∃ i : Nat, s6 = .int .i64 (i : Int) ∧ Aside (i + gg = n ∧ ∃ ss, SaysT row i 0 ss ∧ ss.length ≤ i ∧ O3 wr B 142 s5 (ss.map sayV) ∧ Below B w wr))
 case atStart => exact ⟨0, rfl, by omega, [], rfl, by simp, O3.nil (by have := A.out; omega), Below.refl _ _⟩
 case round =>
  obtain ⟨i, rfl, hI⟩ := hrel
  obtain ⟨w5, hw5⟩ : ∃ w5, w5 = wr := ⟨_, rfl⟩
  subst hw5
  obtain ⟨G, hG⟩ : ∃ G, G = gk := ⟨_, rfl⟩
  subst hG
  obtain ⟨hig, ss, hsay, hsl, ho3, hbel⟩ := hI.out
  have a0 := A.out
  obtain ⟨va, vc, hv, hvc, _, _⟩ := ho3.shape
  obtain ⟨ln, hln⟩ : ∃ ln, (ss.map sayV).length = ln := ⟨_, rfl⟩
  rw [hln] at hv
  subst hv
  by_cases hi : i < n
  ·have t1 : ((i : Int) < (n : Int)) = True := eq_true (by omega)
   have t1' : (i < n) = True := eq_true hi
   have hiI : (i : Int) < 400 := by omega
   obtain ⟨x, hx⟩ : ∃ x, row[i]? = some x := ⟨_, List.getElem?_eq_getElem (by omega)⟩
   have hx16 : x < 16 := a0.2.2.2.1 x (List.mem_of_getElem? hx)
   obtain ⟨rb, ro, ha, hcB⟩ : ∃ rb ro, a = some ⟨rb, ro, none⟩ ∧ ∀ (j y : Nat), row[j]? = some y → w5.cell? ⟨rb, ro + j, none⟩ = some (.int .i64 (y : Int)) := by
    rcases a0.1.below (by rw [a0.2.2.2.2]; exact hbel) with e | ⟨rb, ro, e, h⟩
    ·rw [e] at hx; simp at hx
    ·exact ⟨rb, ro, e, h⟩
   subst ha
   have AX : Aside (i + G = n ∧ i < n ∧ SaysT row i 0 ss ∧ ss.length ≤ i ∧ O3 w5 B 142 (.slice va ln vc) (ss.map sayV) ∧ Below B w w5 ∧ row[i]? = some x ∧ x < 16 ∧ row.length = n ∧ n ≤ 400 ∧ (∀ (j y : Nat), row[j]? = some y → w5.cell? ⟨rb, ro + j, none⟩ = some (.int .i64 (y : Int))) ∧ ((ss.map sayV).length + 1) * 24 ≤ 1000000000) := ⟨hig, hi, hsay, hsl, ho3, hbel, hx, hx16, a0.2.1, a0.2.2.1, hcB, by rw [List.length_map]; omega⟩
   clear hI hig hsay hsl ho3 hbel a0 hvc hln hi hx hx16 hcB
   go_wp2_with fail
   go_loopg [7] n (fun gg s7 wq => ∃ r : Nat, s7 = .int .i64 (r : Int) ∧ Aside (r + gg = n + 1 ∧ 1 ≤ r ∧ Alike row i r ∧ Drawn w5 wq))
   case atStart =>
    have ax := AX.out
    exact ⟨1, rfl, by omega, by omega, ⟨by omega, fun k hk => by (obtain rfl : k = 0 := by omega); rfl⟩, ⟨0, rfl⟩⟩
   case round =>
    obtain ⟨r, rfl, hJ⟩ := hrel
    obtain ⟨hrg, hr1, hal, hdr⟩ := hJ.out
    have ax := AX.out
    have hcr : ∀ (j y : Nat), row[j]? = some y → wr.cell? ⟨rb, ro + j, none⟩ = some (.int .i64 (y : Int)) := by obtain ⟨nn, rfl⟩ := hdr; exact ax.2.2.2.2.2.2.2.2.2.2.1
    have hrI : (r : Int) ≤ 401 := by have := hal.1; omega
    have cx := hcr i x ax.2.2.2.2.2.2.1
    by_cases hmore : i + r < n ∧ row[i + r]? = row[i]?
    ·obtain ⟨hm1, hm2⟩ := hmore
     have t2 : ((i : Int) + (r : Int) < (n : Int)) = True := eq_true (by omega)
     obtain ⟨p, hp⟩ : ∃ p, i + r = p := ⟨_, rfl⟩
     have hpI : (i : Int) + (r : Int) = (p : Int) := by omega
     have cy := hcr (i + r) x (by rw [hm2]; exact ax.2.2.2.2.2.2.1)
     rw [hp] at cy
     have hpn : ((p : Int) < (n : Int)) = True := eq_true (by omega)
     have hpn' : (p < n) = True := eq_true (by omega)
     have t3 : ((x : Int) == (x : Int)) = true := by simp
     have AJ : Aside (r + gk = n + 1 ∧ 1 ≤ r ∧ r < n ∧ Alike row i (r + 1) ∧ Drawn w5 wr) := ⟨hrg, hr1, by omega, ⟨by omega, fun k hk => by
      by_cases e : k = r
      ·rw [e]; exact hm2
      ·exact hal.2 k (by omega)⟩, hdr⟩
     clear hJ hrg hr1 hal hdr ax hcr hm1 hm2 hp t2
     go_wp2_with fail
     go_quiet (fail)
     go_wp2_with fail
     have aj := AJ.out
     go_roundg (gk - 1)
     case measure => omega
     case rel => exact ⟨r + 1, by go_num, by omega, by omega, aj.2.2.2.1, by obtain ⟨q, hq⟩ := aj.2.2.2.2; rw [hq]; exact ⟨_, World.drewN_drewN _ _ _⟩⟩
    ·by_cases hend : i + r < n
     ·have t2 : ((i : Int) + (r : Int) < (n : Int)) = True := eq_true (by omega)
      obtain ⟨p, hp⟩ : ∃ p, i + r = p := ⟨_, rfl⟩
      have hpI : (i : Int) + (r : Int) = (p : Int) := by omega
      obtain ⟨y, hy⟩ : ∃ y, row[i + r]? = some y := ⟨_, List.getElem?_eq_getElem (by omega)⟩
      have hyx : y ≠ x := fun e => hmore ⟨hend, by rw [hy, e]; exact ax.2.2.2.2.2.2.1.symm⟩
      have cy := hcr (i + r) y hy
      rw [hp] at cy
      have hpn : ((p : Int) < (n : Int)) = True := eq_true (by omega)
      have hpn' : (p < n) = True := eq_true (by omega)
      have ty : ((y : Int) == (x : Int)) = false := by rw [beq_eq_false_iff_ne]; omega
      have ty' : ((y : Int) = (x : Int)) = False := eq_false (by omega)
      have ty'' : (y = x) = False := eq_false hyx
      clear hmore hy hyx hp t2 hend
      cases runs with
      | false =>
       have AL : Aside (SaysT row (i + 1) i [⟨x, 0, 0⟩] ∧ i + 1 ≤ n) := ⟨say_lit ax.2.2.2.2.2.2.1 ax.2.2.2.2.2.2.2.1, by omega⟩
       have AJ : Aside (True ∧ Drawn w5 wr) := ⟨trivial, hdr⟩
       clear hJ hrg hr1 hal hdr ax hcr
       go_wp2_with fail
       go_quiet (fail)
       go_upto_region 14 with fail
       obtain ⟨w6, hw6⟩ : ∃ w6, w6 = wr.drewN nq := ⟨_, rfl⟩
       rw [← hw6]
       have A6 : Aside (Drawn wr w6) := ⟨_, hw6⟩
       have cx : w6.cell? ⟨rb, ro + i, none⟩ = some (.int .i64 (x : Int)) := by rw [hw6]; exact cx
       clear hw6
       go_quiet (fail)
       go_upto_region 8 with fail
       obtain ⟨w8, hw8⟩ : ∃ w8, w8 = w6.drewN nq := ⟨_, rfl⟩
       rw [← hw8]
       have hdr8 : Drawn w5 w8 := by
        obtain ⟨q, hq⟩ := AJ.out.2
        obtain ⟨q2, hq2⟩ := A6.out
        rw [hw8, hq2, hq]
        exact ⟨_, by simp only [World.drewN_drewN]; rfl⟩
       have ax := AX.out
       obtain ⟨H, hH⟩ : ∃ H, w8.heap.size = H := ⟨_, rfl⟩
       have bal : Below w8.heap.size w8 (w8.alloc (.cells #[.int .i64 (x : Int), .int .i64 0, .int .i64 0] 142)) := (Below.refl _ w8).alloc (Nat.le_refl _) _
       have ho3A : O3 (w8.alloc (.cells #[.int .i64 (x : Int), .int .i64 0, .int .i64 0] 142)) B 142 (.slice va ln vc) (ss.map sayV) := O3.below (O3.drawn ax.2.2.2.2.1 hdr8) bal (Nat.le_refl _)
       have hcN := Cells.new w8 #[.int .i64 (x : Int), .int .i64 0, .int .i64 0] 142
       rw [hH] at hcN
       have q0 := hcN.cell 0
       have q1 := hcN.cell 1
       have q2 := hcN.cell 2
       simp only [List.getElem?_toArray, List.getElem?_cons_zero, List.getElem?_cons_succ] at q0 q1 q2
       have hbw : Below B w (w8.alloc (.cells #[.int .i64 (x : Int), .int .i64 0, .int .i64 0] 142)) := (ax.2.2.2.2.2.1.trans (by obtain ⟨nn, rfl⟩ := hdr8; exact ((Only.refl B w5).drewN nn).below (Nat.le_refl _))).trans (bal.mono (by obtain ⟨nn, rfl⟩ := hdr8; exact ax.2.2.2.2.1.le))
       have A2 : Aside (Below B w (w8.alloc (.cells #[.int .i64 (x : Int), .int .i64 0, .int .i64 0] 142))) := hbw
       have cx8 : w8.cell? ⟨rb, ro + i, none⟩ = some (.int .i64 (x : Int)) := by obtain ⟨nn, rfl⟩ := hdr8; exact ax.2.2.2.2.2.2.2.2.2.2.1 i x ax.2.2.2.2.2.2.1
       clear ax bal hcN hbw hdr8 hw8 cx
       go_wp2_with (at_builtin; refine wpList_o3 _ rfl (.tmp 33) (.tmp 39) 139 rfl 142 i0 (.agg #[.int .i64 0, .int .i64 0, .int .i64 0]) 24 Tryz.underlying139 AI.out.1 AI.out.2.1 AI.out.2.2.1 AI.out.2.2.2 rfl B (.slice va ln vc) (ss.map sayV) (by rfl) ho3A H 1 (sayV (⟨x, 0, 0⟩)) (by rfl) q0 q1 q2 (sayV_one _) AX.out.2.2.2.2.2.2.2.2.2.2.2 (by decide) ?_; intro v7 w7 hg7)
       have ax := AX.out
       have al := AL.out
       go_roundg (G - (1))
       case measure => omega
       case rel => exact ⟨i + 1, by go_num, by omega, ss ++ [⟨x, 0, 0⟩], SaysT.snoc (al.1) ax.2.2.1, by rw [List.length_append]; simp; omega, by rw [List.map_append]; exact hg7.ow, A2.out.trans hg7.bel⟩
      | true =>
       by_cases hx0 : x = 0
       ·have tx : ((x : Int) == 0) = true := by rw [beq_iff_eq]; omega
        have tx' : ((x : Int) = 0) = True := eq_true (by omega)
        by_cases hr11 : 11 ≤ r
        ·have t11 : ((11 : Int) ≤ (r : Int)) = True := eq_true (by omega)
         have t11' : (11 ≤ r) = True := eq_true (by omega)
         obtain ⟨nn, hnn⟩ : ∃ nn, min r 138 = nn := ⟨_, rfl⟩
         have hmin : (if (138 : Int) < (r : Int) then 138 else (r : Int)) = (nn : Int) := by split <;> omega
         obtain ⟨v8, hv8⟩ : ∃ v8, nn - 11 = v8 := ⟨_, rfl⟩
         have hv8I : (nn : Int) - 11 = (v8 : Int) := by omega
         have hnnI : (nn : Int) ≤ 138 := by omega
         have AL : Aside (SaysT row (i + nn) i [⟨18, v8, 7⟩] ∧ i + nn ≤ n ∧ 11 ≤ nn) := ⟨by rw [← hv8]; exact say_18 hal (by rw [ax.2.2.2.2.2.2.1, hx0]) (by omega) (by omega) (by omega), by have := hal.1; omega, by omega⟩
         clear hx0 hr11 hnn hv8
         have AJ : Aside (True ∧ Drawn w5 wr) := ⟨trivial, hdr⟩
         clear hJ hrg hr1 hal hdr ax hcr
         go_wp2_with fail
         go_quiet (fail)
         go_upto_region 11 with fail
         obtain ⟨w8, hw8⟩ : ∃ w8, w8 = wr.drewN nq := ⟨_, rfl⟩
         rw [← hw8]
         have hdr8 : Drawn w5 w8 := by obtain ⟨q, hq⟩ := AJ.out.2; rw [hw8, hq]; exact ⟨_, by simp only [World.drewN_drewN]; rfl⟩
         have ax := AX.out
         obtain ⟨H, hH⟩ : ∃ H, w8.heap.size = H := ⟨_, rfl⟩
         have bal : Below w8.heap.size w8 (w8.alloc (.cells #[.int .i64 18, .int .i64 (v8 : Int), .int .i64 7] 142)) := (Below.refl _ w8).alloc (Nat.le_refl _) _
         have ho3A : O3 (w8.alloc (.cells #[.int .i64 18, .int .i64 (v8 : Int), .int .i64 7] 142)) B 142 (.slice va ln vc) (ss.map sayV) := O3.below (O3.drawn ax.2.2.2.2.1 hdr8) bal (Nat.le_refl _)
         have hcN := Cells.new w8 #[.int .i64 18, .int .i64 (v8 : Int), .int .i64 7] 142
         rw [hH] at hcN
         have q0 := hcN.cell 0
         have q1 := hcN.cell 1
         have q2 := hcN.cell 2
         simp only [List.getElem?_toArray, List.getElem?_cons_zero, List.getElem?_cons_succ] at q0 q1 q2
         have hbw : Below B w (w8.alloc (.cells #[.int .i64 18, .int .i64 (v8 : Int), .int .i64 7] 142)) := (ax.2.2.2.2.2.1.trans (by obtain ⟨nn, rfl⟩ := hdr8; exact ((Only.refl B w5).drewN nn).below (Nat.le_refl _))).trans (bal.mono (by obtain ⟨nn, rfl⟩ := hdr8; exact ax.2.2.2.2.1.le))
         have A2 : Aside (Below B w (w8.alloc (.cells #[.int .i64 18, .int .i64 (v8 : Int), .int .i64 7] 142))) := hbw
         have cx8 : w8.cell? ⟨rb, ro + i, none⟩ = some (.int .i64 (x : Int)) := by obtain ⟨nn, rfl⟩ := hdr8; exact ax.2.2.2.2.2.2.2.2.2.2.1 i x ax.2.2.2.2.2.2.1
         clear ax bal hcN hbw hdr8 hw8 cx
         go_wp2_with (at_builtin; refine wpList_o3 _ rfl (.tmp 56) (.tmp 60) 139 rfl 142 i0 (.agg #[.int .i64 0, .int .i64 0, .int .i64 0]) 24 Tryz.underlying139 AI.out.1 AI.out.2.1 AI.out.2.2.1 AI.out.2.2.2 rfl B (.slice va ln vc) (ss.map sayV) (by rfl) ho3A H 1 (sayV (⟨18, v8, 7⟩)) (by rfl) q0 q1 q2 (sayV_one _) AX.out.2.2.2.2.2.2.2.2.2.2.2 (by decide) ?_; intro v7 w7 hg7)
         have ax := AX.out
         have al := AL.out
         go_roundg (G - (nn))
         case measure => omega
         case rel => exact ⟨i + nn, by go_num, by omega, ss ++ [⟨18, v8, 7⟩], SaysT.snoc (al.1) ax.2.2.1, by rw [List.length_append]; simp; omega, by rw [List.map_append]; exact hg7.ow, A2.out.trans hg7.bel⟩
        ·have t11 : ((11 : Int) ≤ (r : Int)) = False := eq_false (by omega)
         have t11' : (11 ≤ r) = False := eq_false (by omega)
         by_cases hr3 : 3 ≤ r
         ·have t3r : ((3 : Int) ≤ (r : Int)) = True := eq_true (by omega)
          have t3r' : (3 ≤ r) = True := eq_true (by omega)
          obtain ⟨v8, hv8⟩ : ∃ v8, r - 3 = v8 := ⟨_, rfl⟩
          have hv8I : (r : Int) - 3 = (v8 : Int) := by omega
          have AL : Aside (SaysT row (i + r) i [⟨17, v8, 3⟩] ∧ i + r ≤ n ∧ 3 ≤ r) := ⟨by rw [← hv8]; exact say_17 hal (by rw [ax.2.2.2.2.2.2.1, hx0]) (by omega) (by omega), by have := hal.1; omega, by omega⟩
          clear hx0 hr11 hr3 hv8
          have AJ : Aside (True ∧ Drawn w5 wr) := ⟨trivial, hdr⟩
          clear hJ hrg hr1 hal hdr ax hcr
          go_wp2_with fail
          go_quiet (fail)
          go_upto_region 13 with fail
          obtain ⟨w8, hw8⟩ : ∃ w8, w8 = wr.drewN nq := ⟨_, rfl⟩
          rw [← hw8]
          have hdr8 : Drawn w5 w8 := by obtain ⟨q, hq⟩ := AJ.out.2; rw [hw8, hq]; exact ⟨_, by simp only [World.drewN_drewN]; rfl⟩
          have ax := AX.out
          obtain ⟨H, hH⟩ : ∃ H, w8.heap.size = H := ⟨_, rfl⟩
          have bal : Below w8.heap.size w8 (w8.alloc (.cells #[.int .i64 17, .int .i64 (v8 : Int), .int .i64 3] 142)) := (Below.refl _ w8).alloc (Nat.le_refl _) _
          have ho3A : O3 (w8.alloc (.cells #[.int .i64 17, .int .i64 (v8 : Int), .int .i64 3] 142)) B 142 (.slice va ln vc) (ss.map sayV) := O3.below (O3.drawn ax.2.2.2.2.1 hdr8) bal (Nat.le_refl _)
          have hcN := Cells.new w8 #[.int .i64 17, .int .i64 (v8 : Int), .int .i64 3] 142
          rw [hH] at hcN
          have q0 := hcN.cell 0
          have q1 := hcN.cell 1
          have q2 := hcN.cell 2
          simp only [List.getElem?_toArray, List.getElem?_cons_zero, List.getElem?_cons_succ] at q0 q1 q2
          have hbw : Below B w (w8.alloc (.cells #[.int .i64 17, .int .i64 (v8 : Int), .int .i64 3] 142)) := (ax.2.2.2.2.2.1.trans (by obtain ⟨nn, rfl⟩ := hdr8; exact ((Only.refl B w5).drewN nn).below (Nat.le_refl _))).trans (bal.mono (by obtain ⟨nn, rfl⟩ := hdr8; exact ax.2.2.2.2.1.le))
          have A2 : Aside (Below B w (w8.alloc (.cells #[.int .i64 17, .int .i64 (v8 : Int), .int .i64 3] 142))) := hbw
          have cx8 : w8.cell? ⟨rb, ro + i, none⟩ = some (.int .i64 (x : Int)) := by obtain ⟨nn, rfl⟩ := hdr8; exact ax.2.2.2.2.2.2.2.2.2.2.1 i x ax.2.2.2.2.2.2.1
          clear ax bal hcN hbw hdr8 hw8 cx
          go_wp2_with (at_builtin; refine wpList_o3 _ rfl (.tmp 75) (.tmp 79) 139 rfl 142 i0 (.agg #[.int .i64 0, .int .i64 0, .int .i64 0]) 24 Tryz.underlying139 AI.out.1 AI.out.2.1 AI.out.2.2.1 AI.out.2.2.2 rfl B (.slice va ln vc) (ss.map sayV) (by rfl) ho3A H 1 (sayV (⟨17, v8, 3⟩)) (by rfl) q0 q1 q2 (sayV_one _) AX.out.2.2.2.2.2.2.2.2.2.2.2 (by decide) ?_; intro v7 w7 hg7)
          have ax := AX.out
          have al := AL.out
          go_roundg (G - (r))
          case measure => omega
          case rel => exact ⟨i + r, by go_num, by omega, ss ++ [⟨17, v8, 3⟩], SaysT.snoc (al.1) ax.2.2.1, by rw [List.length_append]; simp; omega, by rw [List.map_append]; exact hg7.ow, A2.out.trans hg7.bel⟩
         ·have t3r : ((3 : Int) ≤ (r : Int)) = False := eq_false (by omega)
          have t3r' : (3 ≤ r) = False := eq_false (by omega)
          clear hx0 hr11 hr3
          rcases (show i = 0 ∨ 0 < i by omega) with hi0' | hi0'
          ·have tI : ((0 : Int) < (i : Int)) = False := eq_false (by omega)
           have tI' : (0 < i) = False := eq_false (by omega)
           clear hi0'
           have AL : Aside (SaysT row (i + 1) i [⟨x, 0, 0⟩] ∧ i + 1 ≤ n) := ⟨say_lit ax.2.2.2.2.2.2.1 ax.2.2.2.2.2.2.2.1, by omega⟩
           have AJ : Aside (True ∧ Drawn w5 wr) := ⟨trivial, hdr⟩
           clear hJ hrg hr1 hal hdr ax hcr
           go_wp2_with fail
           go_quiet (fail)
           go_upto_region 14 with fail
           obtain ⟨w6, hw6⟩ : ∃ w6, w6 = wr.drewN nq := ⟨_, rfl⟩
           rw [← hw6]
           have A6 : Aside (Drawn wr w6) := ⟨_, hw6⟩
           have cx : w6.cell? ⟨rb, ro + i, none⟩ = some (.int .i64 (x : Int)) := by rw [hw6]; exact cx
           clear hw6
           go_quiet (fail)
           go_upto_region 8 with fail
           obtain ⟨w8, hw8⟩ : ∃ w8, w8 = w6.drewN nq := ⟨_, rfl⟩
           rw [← hw8]
           have hdr8 : Drawn w5 w8 := by
            obtain ⟨q, hq⟩ := AJ.out.2
            obtain ⟨q2, hq2⟩ := A6.out
            rw [hw8, hq2, hq]
            exact ⟨_, by simp only [World.drewN_drewN]; rfl⟩
           have ax := AX.out
           obtain ⟨H, hH⟩ : ∃ H, w8.heap.size = H := ⟨_, rfl⟩
           have bal : Below w8.heap.size w8 (w8.alloc (.cells #[.int .i64 (x : Int), .int .i64 0, .int .i64 0] 142)) := (Below.refl _ w8).alloc (Nat.le_refl _) _
           have ho3A : O3 (w8.alloc (.cells #[.int .i64 (x : Int), .int .i64 0, .int .i64 0] 142)) B 142 (.slice va ln vc) (ss.map sayV) := O3.below (O3.drawn ax.2.2.2.2.1 hdr8) bal (Nat.le_refl _)
           have hcN := Cells.new w8 #[.int .i64 (x : Int), .int .i64 0, .int .i64 0] 142
           rw [hH] at hcN
           have q0 := hcN.cell 0
           have q1 := hcN.cell 1
           have q2 := hcN.cell 2
           simp only [List.getElem?_toArray, List.getElem?_cons_zero, List.getElem?_cons_succ] at q0 q1 q2
           have hbw : Below B w (w8.alloc (.cells #[.int .i64 (x : Int), .int .i64 0, .int .i64 0] 142)) := (ax.2.2.2.2.2.1.trans (by obtain ⟨nn, rfl⟩ := hdr8; exact ((Only.refl B w5).drewN nn).below (Nat.le_refl _))).trans (bal.mono (by obtain ⟨nn, rfl⟩ := hdr8; exact ax.2.2.2.2.1.le))
           have A2 : Aside (Below B w (w8.alloc (.cells #[.int .i64 (x : Int), .int .i64 0, .int .i64 0] 142))) := hbw
           have cx8 : w8.cell? ⟨rb, ro + i, none⟩ = some (.int .i64 (x : Int)) := by obtain ⟨nn, rfl⟩ := hdr8; exact ax.2.2.2.2.2.2.2.2.2.2.1 i x ax.2.2.2.2.2.2.1
           clear ax bal hcN hbw hdr8 hw8 cx
           go_wp2_with (at_builtin; refine wpList_o3 _ rfl (.tmp 33) (.tmp 39) 139 rfl 142 i0 (.agg #[.int .i64 0, .int .i64 0, .int .i64 0]) 24 Tryz.underlying139 AI.out.1 AI.out.2.1 AI.out.2.2.1 AI.out.2.2.2 rfl B (.slice va ln vc) (ss.map sayV) (by rfl) ho3A H 1 (sayV (⟨x, 0, 0⟩)) (by rfl) q0 q1 q2 (sayV_one _) AX.out.2.2.2.2.2.2.2.2.2.2.2 (by decide) ?_; intro v7 w7 hg7)
           have ax := AX.out
           have al := AL.out
           go_roundg (G - (1))
           case measure => omega
           case rel => exact ⟨i + 1, by go_num, by omega, ss ++ [⟨x, 0, 0⟩], SaysT.snoc (al.1) ax.2.2.1, by rw [List.length_append]; simp; omega, by rw [List.map_append]; exact hg7.ow, A2.out.trans hg7.bel⟩
          ·obtain ⟨z, hz⟩ : ∃ z, row[i - 1]? = some z := ⟨_, List.getElem?_eq_getElem (by omega)⟩
           by_cases hzx : x = z
           ·have tI : ((0 : Int) < (i : Int)) = True := eq_true (by omega)
            have tI' : (0 < i) = True := eq_true (by omega)
            have tI'' : i ≠ 0 := by omega
            have cz := hcr (i - 1) z hz
            obtain ⟨i1, hi1⟩ : ∃ i1, i - 1 = i1 := ⟨_, rfl⟩
            rw [hi1] at cz
            have hi1I : (i : Int) - 1 = (i1 : Int) := by omega
            have hi1n : ((i1 : Int) < (n : Int)) = True := eq_true (by omega)
            have hi1n' : (i1 < n) = True := eq_true (by omega)
            have tz : ((x : Int) == (z : Int)) = true := by rw [beq_iff_eq]; omega
            have tz' : ((x : Int) = (z : Int)) = True := eq_true (by omega)
            have tz2 : (x = z) = True := eq_true hzx
            clear hi0' hzx hz hi1
            have AL : Aside (SaysT row (i + 1) i [⟨x, 0, 0⟩] ∧ i + 1 ≤ n) := ⟨say_lit ax.2.2.2.2.2.2.1 ax.2.2.2.2.2.2.2.1, by omega⟩
            have AJ : Aside (True ∧ Drawn w5 wr) := ⟨trivial, hdr⟩
            clear hJ hrg hr1 hal hdr ax hcr
            go_wp2_with fail
            go_quiet (fail)
            go_upto_region 14 with fail
            obtain ⟨w6, hw6⟩ : ∃ w6, w6 = wr.drewN nq := ⟨_, rfl⟩
            rw [← hw6]
            have A6 : Aside (Drawn wr w6) := ⟨_, hw6⟩
            have cx : w6.cell? ⟨rb, ro + i, none⟩ = some (.int .i64 (x : Int)) := by rw [hw6]; exact cx
            have cz : w6.cell? ⟨rb, ro + i1, none⟩ = some (.int .i64 (z : Int)) := by rw [hw6]; exact cz
            clear hw6
            go_quiet (fail)
            go_upto_region 8 with fail
            obtain ⟨w8, hw8⟩ : ∃ w8, w8 = w6.drewN nq := ⟨_, rfl⟩
            rw [← hw8]
            have hdr8 : Drawn w5 w8 := by
             obtain ⟨q, hq⟩ := AJ.out.2
             obtain ⟨q2, hq2⟩ := A6.out
             rw [hw8, hq2, hq]
             exact ⟨_, by simp only [World.drewN_drewN]; rfl⟩
            have ax := AX.out
            obtain ⟨H, hH⟩ : ∃ H, w8.heap.size = H := ⟨_, rfl⟩
            have bal : Below w8.heap.size w8 (w8.alloc (.cells #[.int .i64 (x : Int), .int .i64 0, .int .i64 0] 142)) := (Below.refl _ w8).alloc (Nat.le_refl _) _
            have ho3A : O3 (w8.alloc (.cells #[.int .i64 (x : Int), .int .i64 0, .int .i64 0] 142)) B 142 (.slice va ln vc) (ss.map sayV) := O3.below (O3.drawn ax.2.2.2.2.1 hdr8) bal (Nat.le_refl _)
            have hcN := Cells.new w8 #[.int .i64 (x : Int), .int .i64 0, .int .i64 0] 142
            rw [hH] at hcN
            have q0 := hcN.cell 0
            have q1 := hcN.cell 1
            have q2 := hcN.cell 2
            simp only [List.getElem?_toArray, List.getElem?_cons_zero, List.getElem?_cons_succ] at q0 q1 q2
            have hbw : Below B w (w8.alloc (.cells #[.int .i64 (x : Int), .int .i64 0, .int .i64 0] 142)) := (ax.2.2.2.2.2.1.trans (by obtain ⟨nn, rfl⟩ := hdr8; exact ((Only.refl B w5).drewN nn).below (Nat.le_refl _))).trans (bal.mono (by obtain ⟨nn, rfl⟩ := hdr8; exact ax.2.2.2.2.1.le))
            have A2 : Aside (Below B w (w8.alloc (.cells #[.int .i64 (x : Int), .int .i64 0, .int .i64 0] 142))) := hbw
            have cx8 : w8.cell? ⟨rb, ro + i, none⟩ = some (.int .i64 (x : Int)) := by obtain ⟨nn, rfl⟩ := hdr8; exact ax.2.2.2.2.2.2.2.2.2.2.1 i x ax.2.2.2.2.2.2.1
            clear ax bal hcN hbw hdr8 hw8 cx cz
            go_wp2_with (at_builtin; refine wpList_o3 _ rfl (.tmp 33) (.tmp 39) 139 rfl 142 i0 (.agg #[.int .i64 0, .int .i64 0, .int .i64 0]) 24 Tryz.underlying139 AI.out.1 AI.out.2.1 AI.out.2.2.1 AI.out.2.2.2 rfl B (.slice va ln vc) (ss.map sayV) (by rfl) ho3A H 1 (sayV (⟨x, 0, 0⟩)) (by rfl) q0 q1 q2 (sayV_one _) AX.out.2.2.2.2.2.2.2.2.2.2.2 (by decide) ?_; intro v7 w7 hg7)
            have ax := AX.out
            have al := AL.out
            go_roundg (G - (1))
            case measure => omega
            case rel => exact ⟨i + 1, by go_num, by omega, ss ++ [⟨x, 0, 0⟩], SaysT.snoc (al.1) ax.2.2.1, by rw [List.length_append]; simp; omega, by rw [List.map_append]; exact hg7.ow, A2.out.trans hg7.bel⟩
           ·have tI : ((0 : Int) < (i : Int)) = True := eq_true (by omega)
            have tI' : (0 < i) = True := eq_true (by omega)
            have tI'' : i ≠ 0 := by omega
            have cz := hcr (i - 1) z hz
            obtain ⟨i1, hi1⟩ : ∃ i1, i - 1 = i1 := ⟨_, rfl⟩
            rw [hi1] at cz
            have hi1I : (i : Int) - 1 = (i1 : Int) := by omega
            have hi1n : ((i1 : Int) < (n : Int)) = True := eq_true (by omega)
            have hi1n' : (i1 < n) = True := eq_true (by omega)
            have tz : ((x : Int) == (z : Int)) = false := by rw [beq_eq_false_iff_ne]; omega
            have tz' : ((x : Int) = (z : Int)) = False := eq_false (by omega)
            have tz2 : (x = z) = False := eq_false hzx
            clear hi0' hzx hz hi1
            have AL : Aside (SaysT row (i + 1) i [⟨x, 0, 0⟩] ∧ i + 1 ≤ n) := ⟨say_lit ax.2.2.2.2.2.2.1 ax.2.2.2.2.2.2.2.1, by omega⟩
            have AJ : Aside (True ∧ Drawn w5 wr) := ⟨trivial, hdr⟩
            clear hJ hrg hr1 hal hdr ax hcr
            go_wp2_with fail
            go_quiet (fail)
            go_upto_region 14 with fail
            obtain ⟨w6, hw6⟩ : ∃ w6, w6 = wr.drewN nq := ⟨_, rfl⟩
            rw [← hw6]
            have A6 : Aside (Drawn wr w6) := ⟨_, hw6⟩
            have cx : w6.cell? ⟨rb, ro + i, none⟩ = some (.int .i64 (x : Int)) := by rw [hw6]; exact cx
            have cz : w6.cell? ⟨rb, ro + i1, none⟩ = some (.int .i64 (z : Int)) := by rw [hw6]; exact cz
            clear hw6
            go_quiet (fail)
            go_upto_region 8 with fail
            obtain ⟨w8, hw8⟩ : ∃ w8, w8 = w6.drewN nq := ⟨_, rfl⟩
            rw [← hw8]
            have hdr8 : Drawn w5 w8 := by
             obtain ⟨q, hq⟩ := AJ.out.2
             obtain ⟨q2, hq2⟩ := A6.out
             rw [hw8, hq2, hq]
             exact ⟨_, by simp only [World.drewN_drewN]; rfl⟩
            have ax := AX.out
            obtain ⟨H, hH⟩ : ∃ H, w8.heap.size = H := ⟨_, rfl⟩
            have bal : Below w8.heap.size w8 (w8.alloc (.cells #[.int .i64 (x : Int), .int .i64 0, .int .i64 0] 142)) := (Below.refl _ w8).alloc (Nat.le_refl _) _
            have ho3A : O3 (w8.alloc (.cells #[.int .i64 (x : Int), .int .i64 0, .int .i64 0] 142)) B 142 (.slice va ln vc) (ss.map sayV) := O3.below (O3.drawn ax.2.2.2.2.1 hdr8) bal (Nat.le_refl _)
            have hcN := Cells.new w8 #[.int .i64 (x : Int), .int .i64 0, .int .i64 0] 142
            rw [hH] at hcN
            have q0 := hcN.cell 0
            have q1 := hcN.cell 1
            have q2 := hcN.cell 2
            simp only [List.getElem?_toArray, List.getElem?_cons_zero, List.getElem?_cons_succ] at q0 q1 q2
            have hbw : Below B w (w8.alloc (.cells #[.int .i64 (x : Int), .int .i64 0, .int .i64 0] 142)) := (ax.2.2.2.2.2.1.trans (by obtain ⟨nn, rfl⟩ := hdr8; exact ((Only.refl B w5).drewN nn).below (Nat.le_refl _))).trans (bal.mono (by obtain ⟨nn, rfl⟩ := hdr8; exact ax.2.2.2.2.1.le))
            have A2 : Aside (Below B w (w8.alloc (.cells #[.int .i64 (x : Int), .int .i64 0, .int .i64 0] 142))) := hbw
            have cx8 : w8.cell? ⟨rb, ro + i, none⟩ = some (.int .i64 (x : Int)) := by obtain ⟨nn, rfl⟩ := hdr8; exact ax.2.2.2.2.2.2.2.2.2.2.1 i x ax.2.2.2.2.2.2.1
            clear ax bal hcN hbw hdr8 hw8 cx cz
            go_wp2_with (at_builtin; refine wpList_o3 _ rfl (.tmp 33) (.tmp 39) 139 rfl 142 i0 (.agg #[.int .i64 0, .int .i64 0, .int .i64 0]) 24 Tryz.underlying139 AI.out.1 AI.out.2.1 AI.out.2.2.1 AI.out.2.2.2 rfl B (.slice va ln vc) (ss.map sayV) (by rfl) ho3A H 1 (sayV (⟨x, 0, 0⟩)) (by rfl) q0 q1 q2 (sayV_one _) AX.out.2.2.2.2.2.2.2.2.2.2.2 (by decide) ?_; intro v7 w7 hg7)
            have ax := AX.out
            have al := AL.out
            go_roundg (G - (1))
            case measure => omega
            case rel => exact ⟨i + 1, by go_num, by omega, ss ++ [⟨x, 0, 0⟩], SaysT.snoc (al.1) ax.2.2.1, by rw [List.length_append]; simp; omega, by rw [List.map_append]; exact hg7.ow, A2.out.trans hg7.bel⟩
       ·have tx : ((x : Int) == 0) = false := by rw [beq_eq_false_iff_ne]; omega
        have tx' : ((x : Int) = 0) = False := eq_false (by omega)
        clear hx0
        rcases (show i = 0 ∨ 0 < i by omega) with hi0' | hi0'
        ·have tI : ((0 : Int) < (i : Int)) = False := eq_false (by omega)
         have tI' : (0 < i) = False := eq_false (by omega)
         clear hi0'
         have AL : Aside (SaysT row (i + 1) i [⟨x, 0, 0⟩] ∧ i + 1 ≤ n) := ⟨say_lit ax.2.2.2.2.2.2.1 ax.2.2.2.2.2.2.2.1, by omega⟩
         have AJ : Aside (True ∧ Drawn w5 wr) := ⟨trivial, hdr⟩
         clear hJ hrg hr1 hal hdr ax hcr
         go_wp2_with fail
         go_quiet (fail)
         go_upto_region 14 with fail
         obtain ⟨w6, hw6⟩ : ∃ w6, w6 = wr.drewN nq := ⟨_, rfl⟩
         rw [← hw6]
         have A6 : Aside (Drawn wr w6) := ⟨_, hw6⟩
         have cx : w6.cell? ⟨rb, ro + i, none⟩ = some (.int .i64 (x : Int)) := by rw [hw6]; exact cx
         clear hw6
         go_quiet (fail)
         go_upto_region 8 with fail
         obtain ⟨w8, hw8⟩ : ∃ w8, w8 = w6.drewN nq := ⟨_, rfl⟩
         rw [← hw8]
         have hdr8 : Drawn w5 w8 := by
          obtain ⟨q, hq⟩ := AJ.out.2
          obtain ⟨q2, hq2⟩ := A6.out
          rw [hw8, hq2, hq]
          exact ⟨_, by simp only [World.drewN_drewN]; rfl⟩
         have ax := AX.out
         obtain ⟨H, hH⟩ : ∃ H, w8.heap.size = H := ⟨_, rfl⟩
         have bal : Below w8.heap.size w8 (w8.alloc (.cells #[.int .i64 (x : Int), .int .i64 0, .int .i64 0] 142)) := (Below.refl _ w8).alloc (Nat.le_refl _) _
         have ho3A : O3 (w8.alloc (.cells #[.int .i64 (x : Int), .int .i64 0, .int .i64 0] 142)) B 142 (.slice va ln vc) (ss.map sayV) := O3.below (O3.drawn ax.2.2.2.2.1 hdr8) bal (Nat.le_refl _)
         have hcN := Cells.new w8 #[.int .i64 (x : Int), .int .i64 0, .int .i64 0] 142
         rw [hH] at hcN
         have q0 := hcN.cell 0
         have q1 := hcN.cell 1
         have q2 := hcN.cell 2
         simp only [List.getElem?_toArray, List.getElem?_cons_zero, List.getElem?_cons_succ] at q0 q1 q2
         have hbw : Below B w (w8.alloc (.cells #[.int .i64 (x : Int), .int .i64 0, .int .i64 0] 142)) := (ax.2.2.2.2.2.1.trans (by obtain ⟨nn, rfl⟩ := hdr8; exact ((Only.refl B w5).drewN nn).below (Nat.le_refl _))).trans (bal.mono (by obtain ⟨nn, rfl⟩ := hdr8; exact ax.2.2.2.2.1.le))
         have A2 : Aside (Below B w (w8.alloc (.cells #[.int .i64 (x : Int), .int .i64 0, .int .i64 0] 142))) := hbw
         have cx8 : w8.cell? ⟨rb, ro + i, none⟩ = some (.int .i64 (x : Int)) := by obtain ⟨nn, rfl⟩ := hdr8; exact ax.2.2.2.2.2.2.2.2.2.2.1 i x ax.2.2.2.2.2.2.1
         clear ax bal hcN hbw hdr8 hw8 cx
         go_wp2_with (at_builtin; refine wpList_o3 _ rfl (.tmp 33) (.tmp 39) 139 rfl 142 i0 (.agg #[.int .i64 0, .int .i64 0, .int .i64 0]) 24 Tryz.underlying139 AI.out.1 AI.out.2.1 AI.out.2.2.1 AI.out.2.2.2 rfl B (.slice va ln vc) (ss.map sayV) (by rfl) ho3A H 1 (sayV (⟨x, 0, 0⟩)) (by rfl) q0 q1 q2 (sayV_one _) AX.out.2.2.2.2.2.2.2.2.2.2.2 (by decide) ?_; intro v7 w7 hg7)
         have ax := AX.out
         have al := AL.out
         go_roundg (G - (1))
         case measure => omega
         case rel => exact ⟨i + 1, by go_num, by omega, ss ++ [⟨x, 0, 0⟩], SaysT.snoc (al.1) ax.2.2.1, by rw [List.length_append]; simp; omega, by rw [List.map_append]; exact hg7.ow, A2.out.trans hg7.bel⟩
        ·obtain ⟨z, hz⟩ : ∃ z, row[i - 1]? = some z := ⟨_, List.getElem?_eq_getElem (by omega)⟩
         by_cases hzx : x = z
         ·by_cases hr3 : 3 ≤ r
          ·have t3r : ((3 : Int) ≤ (r : Int)) = True := eq_true (by omega)
           have t3r' : (3 ≤ r) = True := eq_true (by omega)
           have tI : ((0 : Int) < (i : Int)) = True := eq_true (by omega)
           have tI' : (0 < i) = True := eq_true (by omega)
           have tI'' : i ≠ 0 := by omega
           have cz := hcr (i - 1) z hz
           obtain ⟨i1, hi1⟩ : ∃ i1, i - 1 = i1 := ⟨_, rfl⟩
           rw [hi1] at cz
           have hi1I : (i : Int) - 1 = (i1 : Int) := by omega
           have hi1n : ((i1 : Int) < (n : Int)) = True := eq_true (by omega)
           have hi1n' : (i1 < n) = True := eq_true (by omega)
           have tz : ((x : Int) == (z : Int)) = true := by rw [beq_iff_eq]; omega
           have tz' : ((x : Int) = (z : Int)) = True := eq_true (by omega)
           have tz2 : (x = z) = True := eq_true hzx
           obtain ⟨nn, hnn⟩ : ∃ nn, min r 6 = nn := ⟨_, rfl⟩
           have hmin : (if (6 : Int) < (r : Int) then 6 else (r : Int)) = (nn : Int) := by split <;> omega
           obtain ⟨v8, hv8⟩ : ∃ v8, nn - 3 = v8 := ⟨_, rfl⟩
           have hv8I : (nn : Int) - 3 = (v8 : Int) := by omega
           have hnnI : (nn : Int) ≤ 6 := by omega
           have AL : Aside (SaysT row (i + nn) i [⟨16, v8, 2⟩] ∧ i + nn ≤ n ∧ 3 ≤ nn) := ⟨by rw [← hv8]; exact say_16 hal hi0' (by rw [ax.2.2.2.2.2.2.1, hz, hzx]) (by omega) (by omega) (by omega), by have := hal.1; omega, by omega⟩
           clear hi0' hzx hz hi1 hr3 hnn hv8
           have AJ : Aside (True ∧ Drawn w5 wr) := ⟨trivial, hdr⟩
           clear hJ hrg hr1 hal hdr ax hcr
           go_wp2_with fail
           go_quiet (fail)
           go_upto_region 14 with fail
           obtain ⟨w6, hw6⟩ : ∃ w6, w6 = wr.drewN nq := ⟨_, rfl⟩
           rw [← hw6]
           have A6 : Aside (Drawn wr w6) := ⟨_, hw6⟩
           have cx : w6.cell? ⟨rb, ro + i, none⟩ = some (.int .i64 (x : Int)) := by rw [hw6]; exact cx
           have cz : w6.cell? ⟨rb, ro + i1, none⟩ = some (.int .i64 (z : Int)) := by rw [hw6]; exact cz
           clear hw6
           go_quiet (fail)
           go_upto_region 16 with fail
           obtain ⟨w8, hw8⟩ : ∃ w8, w8 = w6.drewN nq := ⟨_, rfl⟩
           rw [← hw8]
           have hdr8 : Drawn w5 w8 := by
            obtain ⟨q, hq⟩ := AJ.out.2
            obtain ⟨q2, hq2⟩ := A6.out
            rw [hw8, hq2, hq]
            exact ⟨_, by simp only [World.drewN_drewN]; rfl⟩
           have ax := AX.out
           obtain ⟨H, hH⟩ : ∃ H, w8.heap.size = H := ⟨_, rfl⟩
           have bal : Below w8.heap.size w8 (w8.alloc (.cells #[.int .i64 16, .int .i64 (v8 : Int), .int .i64 2] 142)) := (Below.refl _ w8).alloc (Nat.le_refl _) _
           have ho3A : O3 (w8.alloc (.cells #[.int .i64 16, .int .i64 (v8 : Int), .int .i64 2] 142)) B 142 (.slice va ln vc) (ss.map sayV) := O3.below (O3.drawn ax.2.2.2.2.1 hdr8) bal (Nat.le_refl _)
           have hcN := Cells.new w8 #[.int .i64 16, .int .i64 (v8 : Int), .int .i64 2] 142
           rw [hH] at hcN
           have q0 := hcN.cell 0
           have q1 := hcN.cell 1
           have q2 := hcN.cell 2
           simp only [List.getElem?_toArray, List.getElem?_cons_zero, List.getElem?_cons_succ] at q0 q1 q2
           have hbw : Below B w (w8.alloc (.cells #[.int .i64 16, .int .i64 (v8 : Int), .int .i64 2] 142)) := (ax.2.2.2.2.2.1.trans (by obtain ⟨nn, rfl⟩ := hdr8; exact ((Only.refl B w5).drewN nn).below (Nat.le_refl _))).trans (bal.mono (by obtain ⟨nn, rfl⟩ := hdr8; exact ax.2.2.2.2.1.le))
           have A2 : Aside (Below B w (w8.alloc (.cells #[.int .i64 16, .int .i64 (v8 : Int), .int .i64 2] 142))) := hbw
           have cx8 : w8.cell? ⟨rb, ro + i, none⟩ = some (.int .i64 (x : Int)) := by obtain ⟨nn, rfl⟩ := hdr8; exact ax.2.2.2.2.2.2.2.2.2.2.1 i x ax.2.2.2.2.2.2.1
           clear ax bal hcN hbw hdr8 hw8 cx cz
           go_wp2_with (at_builtin; refine wpList_o3 _ rfl (.tmp 105) (.tmp 109) 139 rfl 142 i0 (.agg #[.int .i64 0, .int .i64 0, .int .i64 0]) 24 Tryz.underlying139 AI.out.1 AI.out.2.1 AI.out.2.2.1 AI.out.2.2.2 rfl B (.slice va ln vc) (ss.map sayV) (by rfl) ho3A H 1 (sayV (⟨16, v8, 2⟩)) (by rfl) q0 q1 q2 (sayV_one _) AX.out.2.2.2.2.2.2.2.2.2.2.2 (by decide) ?_; intro v7 w7 hg7)
           have ax := AX.out
           have al := AL.out
           go_roundg (G - (nn))
           case measure => omega
           case rel => exact ⟨i + nn, by go_num, by omega, ss ++ [⟨16, v8, 2⟩], SaysT.snoc (al.1) ax.2.2.1, by rw [List.length_append]; simp; omega, by rw [List.map_append]; exact hg7.ow, A2.out.trans hg7.bel⟩
          ·have t3r : ((3 : Int) ≤ (r : Int)) = False := eq_false (by omega)
           have t3r' : (3 ≤ r) = False := eq_false (by omega)
           have tI : ((0 : Int) < (i : Int)) = True := eq_true (by omega)
           have tI' : (0 < i) = True := eq_true (by omega)
           have tI'' : i ≠ 0 := by omega
           have cz := hcr (i - 1) z hz
           obtain ⟨i1, hi1⟩ : ∃ i1, i - 1 = i1 := ⟨_, rfl⟩
           rw [hi1] at cz
           have hi1I : (i : Int) - 1 = (i1 : Int) := by omega
           have hi1n : ((i1 : Int) < (n : Int)) = True := eq_true (by omega)
           have hi1n' : (i1 < n) = True := eq_true (by omega)
           have tz : ((x : Int) == (z : Int)) = true := by rw [beq_iff_eq]; omega
           have tz' : ((x : Int) = (z : Int)) = True := eq_true (by omega)
           have tz2 : (x = z) = True := eq_true hzx
           clear hi0' hzx hz hi1 hr3
           have AL : Aside (SaysT row (i + 1) i [⟨x, 0, 0⟩] ∧ i + 1 ≤ n) := ⟨say_lit ax.2.2.2.2.2.2.1 ax.2.2.2.2.2.2.2.1, by omega⟩
           have AJ : Aside (True ∧ Drawn w5 wr) := ⟨trivial, hdr⟩
           clear hJ hrg hr1 hal hdr ax hcr
           go_wp2_with fail
           go_quiet (fail)
           go_upto_region 14 with fail
           obtain ⟨w6, hw6⟩ : ∃ w6, w6 = wr.drewN nq := ⟨_, rfl⟩
           rw [← hw6]
           have A6 : Aside (Drawn wr w6) := ⟨_, hw6⟩
           have cx : w6.cell? ⟨rb, ro + i, none⟩ = some (.int .i64 (x : Int)) := by rw [hw6]; exact cx
           have cz : w6.cell? ⟨rb, ro + i1, none⟩ = some (.int .i64 (z : Int)) := by rw [hw6]; exact cz
           clear hw6
           go_quiet (fail)
           go_upto_region 8 with fail
           obtain ⟨w8, hw8⟩ : ∃ w8, w8 = w6.drewN nq := ⟨_, rfl⟩
           rw [← hw8]
           have hdr8 : Drawn w5 w8 := by
            obtain ⟨q, hq⟩ := AJ.out.2
            obtain ⟨q2, hq2⟩ := A6.out
            rw [hw8, hq2, hq]
            exact ⟨_, by simp only [World.drewN_drewN]; rfl⟩
           have ax := AX.out
           obtain ⟨H, hH⟩ : ∃ H, w8.heap.size = H := ⟨_, rfl⟩
           have bal : Below w8.heap.size w8 (w8.alloc (.cells #[.int .i64 (x : Int), .int .i64 0, .int .i64 0] 142)) := (Below.refl _ w8).alloc (Nat.le_refl _) _
           have ho3A : O3 (w8.alloc (.cells #[.int .i64 (x : Int), .int .i64 0, .int .i64 0] 142)) B 142 (.slice va ln vc) (ss.map sayV) := O3.below (O3.drawn ax.2.2.2.2.1 hdr8) bal (Nat.le_refl _)
           have hcN := Cells.new w8 #[.int .i64 (x : Int), .int .i64 0, .int .i64 0] 142
           rw [hH] at hcN
           have q0 := hcN.cell 0
           have q1 := hcN.cell 1
           have q2 := hcN.cell 2
           simp only [List.getElem?_toArray, List.getElem?_cons_zero, List.getElem?_cons_succ] at q0 q1 q2
           have hbw : Below B w (w8.alloc (.cells #[.int .i64 (x : Int), .int .i64 0, .int .i64 0] 142)) := (ax.2.2.2.2.2.1.trans (by obtain ⟨nn, rfl⟩ := hdr8; exact ((Only.refl B w5).drewN nn).below (Nat.le_refl _))).trans (bal.mono (by obtain ⟨nn, rfl⟩ := hdr8; exact ax.2.2.2.2.1.le))
           have A2 : Aside (Below B w (w8.alloc (.cells #[.int .i64 (x : Int), .int .i64 0, .int .i64 0] 142))) := hbw
           have cx8 : w8.cell? ⟨rb, ro + i, none⟩ = some (.int .i64 (x : Int)) := by obtain ⟨nn, rfl⟩ := hdr8; exact ax.2.2.2.2.2.2.2.2.2.2.1 i x ax.2.2.2.2.2.2.1
           clear ax bal hcN hbw hdr8 hw8 cx cz
           go_wp2_with (at_builtin; refine wpList_o3 _ rfl (.tmp 33) (.tmp 39) 139 rfl 142 i0 (.agg #[.int .i64 0, .int .i64 0, .int .i64 0]) 24 Tryz.underlying139 AI.out.1 AI.out.2.1 AI.out.2.2.1 AI.out.2.2.2 rfl B (.slice va ln vc) (ss.map sayV) (by rfl) ho3A H 1 (sayV (⟨x, 0, 0⟩)) (by rfl) q0 q1 q2 (sayV_one _) AX.out.2.2.2.2.2.2.2.2.2.2.2 (by decide) ?_; intro v7 w7 hg7)
           have ax := AX.out
           have al := AL.out
           go_roundg (G - (1))
           case measure => omega
           case rel => exact ⟨i + 1, by go_num, by omega, ss ++ [⟨x, 0, 0⟩], SaysT.snoc (al.1) ax.2.2.1, by rw [List.length_append]; simp; omega, by rw [List.map_append]; exact hg7.ow, A2.out.trans hg7.bel⟩
         ·have tI : ((0 : Int) < (i : Int)) = True := eq_true (by omega)
          have tI' : (0 < i) = True := eq_true (by omega)
          have tI'' : i ≠ 0 := by omega
          have cz := hcr (i - 1) z hz
          obtain ⟨i1, hi1⟩ : ∃ i1, i - 1 = i1 := ⟨_, rfl⟩
          rw [hi1] at cz
          have hi1I : (i : Int) - 1 = (i1 : Int) := by omega
          have hi1n : ((i1 : Int) < (n : Int)) = True := eq_true (by omega)
          have hi1n' : (i1 < n) = True := eq_true (by omega)
          have tz : ((x : Int) == (z : Int)) = false := by rw [beq_eq_false_iff_ne]; omega
          have tz' : ((x : Int) = (z : Int)) = False := eq_false (by omega)
          have tz2 : (x = z) = False := eq_false hzx
          clear hi0' hzx hz hi1
          have AL : Aside (SaysT row (i + 1) i [⟨x, 0, 0⟩] ∧ i + 1 ≤ n) := ⟨say_lit ax.2.2.2.2.2.2.1 ax.2.2.2.2.2.2.2.1, by omega⟩
          have AJ : Aside (True ∧ Drawn w5 wr) := ⟨trivial, hdr⟩
          clear hJ hrg hr1 hal hdr ax hcr
          go_wp2_with fail
          go_quiet (fail)
          go_upto_region 14 with fail
          obtain ⟨w6, hw6⟩ : ∃ w6, w6 = wr.drewN nq := ⟨_, rfl⟩
          rw [← hw6]
          have A6 : Aside (Drawn wr w6) := ⟨_, hw6⟩
          have cx : w6.cell? ⟨rb, ro + i, none⟩ = some (.int .i64 (x : Int)) := by rw [hw6]; exact cx
          have cz : w6.cell? ⟨rb, ro + i1, none⟩ = some (.int .i64 (z : Int)) := by rw [hw6]; exact cz
          clear hw6
          go_quiet (fail)
          go_upto_region 8 with fail
          obtain ⟨w8, hw8⟩ : ∃ w8, w8 = w6.drewN nq := ⟨_, rfl⟩
          rw [← hw8]
          have hdr8 : Drawn w5 w8 := by
           obtain ⟨q, hq⟩ := AJ.out.2
           obtain ⟨q2, hq2⟩ := A6.out
           rw [hw8, hq2, hq]
           exact ⟨_, by simp only [World.drewN_drewN]; rfl⟩
          have ax := AX.out
          obtain ⟨H, hH⟩ : ∃ H, w8.heap.size = H := ⟨_, rfl⟩
          have bal : Below w8.heap.size w8 (w8.alloc (.cells #[.int .i64 (x : Int), .int .i64 0, .int .i64 0] 142)) := (Below.refl _ w8).alloc (Nat.le_refl _) _
          have ho3A : O3 (w8.alloc (.cells #[.int .i64 (x : Int), .int .i64 0, .int .i64 0] 142)) B 142 (.slice va ln vc) (ss.map sayV) := O3.below (O3.drawn ax.2.2.2.2.1 hdr8) bal (Nat.le_refl _)
          have hcN := Cells.new w8 #[.int .i64 (x : Int), .int .i64 0, .int .i64 0] 142
          rw [hH] at hcN
          have q0 := hcN.cell 0
          have q1 := hcN.cell 1
          have q2 := hcN.cell 2
          simp only [List.getElem?_toArray, List.getElem?_cons_zero, List.getElem?_cons_succ] at q0 q1 q2
          have hbw : Below B w (w8.alloc (.cells #[.int .i64 (x : Int), .int .i64 0, .int .i64 0] 142)) := (ax.2.2.2.2.2.1.trans (by obtain ⟨nn, rfl⟩ := hdr8; exact ((Only.refl B w5).drewN nn).below (Nat.le_refl _))).trans (bal.mono (by obtain ⟨nn, rfl⟩ := hdr8; exact ax.2.2.2.2.1.le))
          have A2 : Aside (Below B w (w8.alloc (.cells #[.int .i64 (x : Int), .int .i64 0, .int .i64 0] 142))) := hbw
          have cx8 : w8.cell? ⟨rb, ro + i, none⟩ = some (.int .i64 (x : Int)) := by obtain ⟨nn, rfl⟩ := hdr8; exact ax.2.2.2.2.2.2.2.2.2.2.1 i x ax.2.2.2.2.2.2.1
          clear ax bal hcN hbw hdr8 hw8 cx cz
          go_wp2_with (at_builtin; refine wpList_o3 _ rfl (.tmp 33) (.tmp 39) 139 rfl 142 i0 (.agg #[.int .i64 0, .int .i64 0, .int .i64 0]) 24 Tryz.underlying139 AI.out.1 AI.out.2.1 AI.out.2.2.1 AI.out.2.2.2 rfl B (.slice va ln vc) (ss.map sayV) (by rfl) ho3A H 1 (sayV (⟨x, 0, 0⟩)) (by rfl) q0 q1 q2 (sayV_one _) AX.out.2.2.2.2.2.2.2.2.2.2.2 (by decide) ?_; intro v7 w7 hg7)
          have ax := AX.out
          have al := AL.out
          go_roundg (G - (1))
          case measure => omega
          case rel => exact ⟨i + 1, by go_num, by omega, ss ++ [⟨x, 0, 0⟩], SaysT.snoc (al.1) ax.2.2.1, by rw [List.length_append]; simp; omega, by rw [List.map_append]; exact hg7.ow, A2.out.trans hg7.bel⟩
     ·have t2 : ((i : Int) + (r : Int) < (n : Int)) = False := eq_false (by omega)
      clear hmore hend
      cases runs with
      | false =>
       have AL : Aside (SaysT row (i + 1) i [⟨x, 0, 0⟩] ∧ i + 1 ≤ n) := ⟨say_lit ax.2.2.2.2.2.2.1 ax.2.2.2.2.2.2.2.1, by omega⟩
       have AJ : Aside (True ∧ Drawn w5 wr) := ⟨trivial, hdr⟩
       clear hJ hrg hr1 hal hdr ax hcr
       go_wp2_with fail
       go_quiet (fail)
       go_upto_region 14 with fail
       obtain ⟨w6, hw6⟩ : ∃ w6, w6 = wr.drewN nq := ⟨_, rfl⟩
       rw [← hw6]
       have A6 : Aside (Drawn wr w6) := ⟨_, hw6⟩
       have cx : w6.cell? ⟨rb, ro + i, none⟩ = some (.int .i64 (x : Int)) := by rw [hw6]; exact cx
       clear hw6
       go_quiet (fail)
       go_upto_region 8 with fail
       obtain ⟨w8, hw8⟩ : ∃ w8, w8 = w6.drewN nq := ⟨_, rfl⟩
       rw [← hw8]
       have hdr8 : Drawn w5 w8 := by
        obtain ⟨q, hq⟩ := AJ.out.2
        obtain ⟨q2, hq2⟩ := A6.out
        rw [hw8, hq2, hq]
        exact ⟨_, by simp only [World.drewN_drewN]; rfl⟩
       have ax := AX.out
       obtain ⟨H, hH⟩ : ∃ H, w8.heap.size = H := ⟨_, rfl⟩
       have bal : Below w8.heap.size w8 (w8.alloc (.cells #[.int .i64 (x : Int), .int .i64 0, .int .i64 0] 142)) := (Below.refl _ w8).alloc (Nat.le_refl _) _
       have ho3A : O3 (w8.alloc (.cells #[.int .i64 (x : Int), .int .i64 0, .int .i64 0] 142)) B 142 (.slice va ln vc) (ss.map sayV) := O3.below (O3.drawn ax.2.2.2.2.1 hdr8) bal (Nat.le_refl _)
       have hcN := Cells.new w8 #[.int .i64 (x : Int), .int .i64 0, .int .i64 0] 142
       rw [hH] at hcN
       have q0 := hcN.cell 0
       have q1 := hcN.cell 1
       have q2 := hcN.cell 2
       simp only [List.getElem?_toArray, List.getElem?_cons_zero, List.getElem?_cons_succ] at q0 q1 q2
       have hbw : Below B w (w8.alloc (.cells #[.int .i64 (x : Int), .int .i64 0, .int .i64 0] 142)) := (ax.2.2.2.2.2.1.trans (by obtain ⟨nn, rfl⟩ := hdr8; exact ((Only.refl B w5).drewN nn).below (Nat.le_refl _))).trans (bal.mono (by obtain ⟨nn, rfl⟩ := hdr8; exact ax.2.2.2.2.1.le))
       have A2 : Aside (Below B w (w8.alloc (.cells #[.int .i64 (x : Int), .int .i64 0, .int .i64 0] 142))) := hbw
       have cx8 : w8.cell? ⟨rb, ro + i, none⟩ = some (.int .i64 (x : Int)) := by obtain ⟨nn, rfl⟩ := hdr8; exact ax.2.2.2.2.2.2.2.2.2.2.1 i x ax.2.2.2.2.2.2.1
       clear ax bal hcN hbw hdr8 hw8 cx
       go_wp2_with (at_builtin; refine wpList_o3 _ rfl (.tmp 33) (.tmp 39) 139 rfl 142 i0 (.agg #[.int .i64 0, .int .i64 0, .int .i64 0]) 24 Tryz.underlying139 AI.out.1 AI.out.2.1 AI.out.2.2.1 AI.out.2.2.2 rfl B (.slice va ln vc) (ss.map sayV) (by rfl) ho3A H 1 (sayV (⟨x, 0, 0⟩)) (by rfl) q0 q1 q2 (sayV_one _) AX.out.2.2.2.2.2.2.2.2.2.2.2 (by decide) ?_; intro v7 w7 hg7)
       have ax := AX.out
       have al := AL.out
       go_roundg (G - (1))
       case measure => omega
       case rel => exact ⟨i + 1, by go_num, by omega, ss ++ [⟨x, 0, 0⟩], SaysT.snoc (al.1) ax.2.2.1, by rw [List.length_append]; simp; omega, by rw [List.map_append]; exact hg7.ow, A2.out.trans hg7.bel⟩
      | true =>
       by_cases hx0 : x = 0
       ·have tx : ((x : Int) == 0) = true := by rw [beq_iff_eq]; omega
        have tx' : ((x : Int) = 0) = True := eq_true (by omega)
        by_cases hr11 : 11 ≤ r
        ·have t11 : ((11 : Int) ≤ (r : Int)) = True := eq_true (by omega)
         have t11' : (11 ≤ r) = True := eq_true (by omega)
         obtain ⟨nn, hnn⟩ : ∃ nn, min r 138 = nn := ⟨_, rfl⟩
         have hmin : (if (138 : Int) < (r : Int) then 138 else (r : Int)) = (nn : Int) := by split <;> omega
         obtain ⟨v8, hv8⟩ : ∃ v8, nn - 11 = v8 := ⟨_, rfl⟩
         have hv8I : (nn : Int) - 11 = (v8 : Int) := by omega
         have hnnI : (nn : Int) ≤ 138 := by omega
         have AL : Aside (SaysT row (i + nn) i [⟨18, v8, 7⟩] ∧ i + nn ≤ n ∧ 11 ≤ nn) := ⟨by rw [← hv8]; exact say_18 hal (by rw [ax.2.2.2.2.2.2.1, hx0]) (by omega) (by omega) (by omega), by have := hal.1; omega, by omega⟩
         clear hx0 hr11 hnn hv8
         have AJ : Aside (True ∧ Drawn w5 wr) := ⟨trivial, hdr⟩
         clear hJ hrg hr1 hal hdr ax hcr
         go_wp2_with fail
         go_quiet (fail)
         go_upto_region 11 with fail
         obtain ⟨w8, hw8⟩ : ∃ w8, w8 = wr.drewN nq := ⟨_, rfl⟩
         rw [← hw8]
         have hdr8 : Drawn w5 w8 := by obtain ⟨q, hq⟩ := AJ.out.2; rw [hw8, hq]; exact ⟨_, by simp only [World.drewN_drewN]; rfl⟩
         have ax := AX.out
         obtain ⟨H, hH⟩ : ∃ H, w8.heap.size = H := ⟨_, rfl⟩
         have bal : Below w8.heap.size w8 (w8.alloc (.cells #[.int .i64 18, .int .i64 (v8 : Int), .int .i64 7] 142)) := (Below.refl _ w8).alloc (Nat.le_refl _) _
         have ho3A : O3 (w8.alloc (.cells #[.int .i64 18, .int .i64 (v8 : Int), .int .i64 7] 142)) B 142 (.slice va ln vc) (ss.map sayV) := O3.below (O3.drawn ax.2.2.2.2.1 hdr8) bal (Nat.le_refl _)
         have hcN := Cells.new w8 #[.int .i64 18, .int .i64 (v8 : Int), .int .i64 7] 142
         rw [hH] at hcN
         have q0 := hcN.cell 0
         have q1 := hcN.cell 1
         have q2 := hcN.cell 2
         simp only [List.getElem?_toArray, List.getElem?_cons_zero, List.getElem?_cons_succ] at q0 q1 q2
         have hbw : Below B w (w8.alloc (.cells #[.int .i64 18, .int .i64 (v8 : Int), .int .i64 7] 142)) := (ax.2.2.2.2.2.1.trans (by obtain ⟨nn, rfl⟩ := hdr8; exact ((Only.refl B w5).drewN nn).below (Nat.le_refl _))).trans (bal.mono (by obtain ⟨nn, rfl⟩ := hdr8; exact ax.2.2.2.2.1.le))
         have A2 : Aside (Below B w (w8.alloc (.cells #[.int .i64 18, .int .i64 (v8 : Int), .int .i64 7] 142))) := hbw
         have cx8 : w8.cell? ⟨rb, ro + i, none⟩ = some (.int .i64 (x : Int)) := by obtain ⟨nn, rfl⟩ := hdr8; exact ax.2.2.2.2.2.2.2.2.2.2.1 i x ax.2.2.2.2.2.2.1
         clear ax bal hcN hbw hdr8 hw8 cx
         go_wp2_with (at_builtin; refine wpList_o3 _ rfl (.tmp 56) (.tmp 60) 139 rfl 142 i0 (.agg #[.int .i64 0, .int .i64 0, .int .i64 0]) 24 Tryz.underlying139 AI.out.1 AI.out.2.1 AI.out.2.2.1 AI.out.2.2.2 rfl B (.slice va ln vc) (ss.map sayV) (by rfl) ho3A H 1 (sayV (⟨18, v8, 7⟩)) (by rfl) q0 q1 q2 (sayV_one _) AX.out.2.2.2.2.2.2.2.2.2.2.2 (by decide) ?_; intro v7 w7 hg7)
         have ax := AX.out
         have al := AL.out
         go_roundg (G - (nn))
         case measure => omega
         case rel => exact ⟨i + nn, by go_num, by omega, ss ++ [⟨18, v8, 7⟩], SaysT.snoc (al.1) ax.2.2.1, by rw [List.length_append]; simp; omega, by rw [List.map_append]; exact hg7.ow, A2.out.trans hg7.bel⟩
        ·have t11 : ((11 : Int) ≤ (r : Int)) = False := eq_false (by omega)
         have t11' : (11 ≤ r) = False := eq_false (by omega)
         by_cases hr3 : 3 ≤ r
         ·have t3r : ((3 : Int) ≤ (r : Int)) = True := eq_true (by omega)
          have t3r' : (3 ≤ r) = True := eq_true (by omega)
          obtain ⟨v8, hv8⟩ : ∃ v8, r - 3 = v8 := ⟨_, rfl⟩
          have hv8I : (r : Int) - 3 = (v8 : Int) := by omega
          have AL : Aside (SaysT row (i + r) i [⟨17, v8, 3⟩] ∧ i + r ≤ n ∧ 3 ≤ r) := ⟨by rw [← hv8]; exact say_17 hal (by rw [ax.2.2.2.2.2.2.1, hx0]) (by omega) (by omega), by have := hal.1; omega, by omega⟩
          clear hx0 hr11 hr3 hv8
          have AJ : Aside (True ∧ Drawn w5 wr) := ⟨trivial, hdr⟩
          clear hJ hrg hr1 hal hdr ax hcr
          go_wp2_with fail
          go_quiet (fail)
          go_upto_region 13 with fail
          obtain ⟨w8, hw8⟩ : ∃ w8, w8 = wr.drewN nq := ⟨_, rfl⟩
          rw [← hw8]
          have hdr8 : Drawn w5 w8 := by obtain ⟨q, hq⟩ := AJ.out.2; rw [hw8, hq]; exact ⟨_, by simp only [World.drewN_drewN]; rfl⟩
          have ax := AX.out
          obtain ⟨H, hH⟩ : ∃ H, w8.heap.size = H := ⟨_, rfl⟩
          have bal : Below w8.heap.size w8 (w8.alloc (.cells #[.int .i64 17, .int .i64 (v8 : Int), .int .i64 3] 142)) := (Below.refl _ w8).alloc (Nat.le_refl _) _
          have ho3A : O3 (w8.alloc (.cells #[.int .i64 17, .int .i64 (v8 : Int), .int .i64 3] 142)) B 142 (.slice va ln vc) (ss.map sayV) := O3.below (O3.drawn ax.2.2.2.2.1 hdr8) bal (Nat.le_refl _)
          have hcN := Cells.new w8 #[.int .i64 17, .int .i64 (v8 : Int), .int .i64 3] 142
          rw [hH] at hcN
          have q0 := hcN.cell 0
          have q1 := hcN.cell 1
          have q2 := hcN.cell 2
          simp only [List.getElem?_toArray, List.getElem?_cons_zero, List.getElem?_cons_succ] at q0 q1 q2
          have hbw : Below B w (w8.alloc (.cells #[.int .i64 17, .int .i64 (v8 : Int), .int .i64 3] 142)) := (ax.2.2.2.2.2.1.trans (by obtain ⟨nn, rfl⟩ := hdr8; exact ((Only.refl B w5).drewN nn).below (Nat.le_refl _))).trans (bal.mono (by obtain ⟨nn, rfl⟩ := hdr8; exact ax.2.2.2.2.1.le))
          have A2 : Aside (Below B w (w8.alloc (.cells #[.int .i64 17, .int .i64 (v8 : Int), .int .i64 3] 142))) := hbw
          have cx8 : w8.cell? ⟨rb, ro + i, none⟩ = some (.int .i64 (x : Int)) := by obtain ⟨nn, rfl⟩ := hdr8; exact ax.2.2.2.2.2.2.2.2.2.2.1 i x ax.2.2.2.2.2.2.1
          clear ax bal hcN hbw hdr8 hw8 cx
          go_wp2_with (at_builtin; refine wpList_o3 _ rfl (.tmp 75) (.tmp 79) 139 rfl 142 i0 (.agg #[.int .i64 0, .int .i64 0, .int .i64 0]) 24 Tryz.underlying139 AI.out.1 AI.out.2.1 AI.out.2.2.1 AI.out.2.2.2 rfl B (.slice va ln vc) (ss.map sayV) (by rfl) ho3A H 1 (sayV (⟨17, v8, 3⟩)) (by rfl) q0 q1 q2 (sayV_one _) AX.out.2.2.2.2.2.2.2.2.2.2.2 (by decide) ?_; intro v7 w7 hg7)
          have ax := AX.out
          have al := AL.out
          go_roundg (G - (r))
          case measure => omega
          case rel => exact ⟨i + r, by go_num, by omega, ss ++ [⟨17, v8, 3⟩], SaysT.snoc (al.1) ax.2.2.1, by rw [List.length_append]; simp; omega, by rw [List.map_append]; exact hg7.ow, A2.out.trans hg7.bel⟩
         ·have t3r : ((3 : Int) ≤ (r : Int)) = False := eq_false (by omega)
          have t3r' : (3 ≤ r) = False := eq_false (by omega)
          clear hx0 hr11 hr3
          rcases (show i = 0 ∨ 0 < i by omega) with hi0' | hi0'
          ·have tI : ((0 : Int) < (i : Int)) = False := eq_false (by omega)
           have tI' : (0 < i) = False := eq_false (by omega)
           clear hi0'
           have AL : Aside (SaysT row (i + 1) i [⟨x, 0, 0⟩] ∧ i + 1 ≤ n) := ⟨say_lit ax.2.2.2.2.2.2.1 ax.2.2.2.2.2.2.2.1, by omega⟩
           have AJ : Aside (True ∧ Drawn w5 wr) := ⟨trivial, hdr⟩
           clear hJ hrg hr1 hal hdr ax hcr
           go_wp2_with fail
           go_quiet (fail)
           go_upto_region 14 with fail
           obtain ⟨w6, hw6⟩ : ∃ w6, w6 = wr.drewN nq := ⟨_, rfl⟩
           rw [← hw6]
           have A6 : Aside (Drawn wr w6) := ⟨_, hw6⟩
           have cx : w6.cell? ⟨rb, ro + i, none⟩ = some (.int .i64 (x : Int)) := by rw [hw6]; exact cx
           clear hw6
           go_quiet (fail)
           go_upto_region 8 with fail
           obtain ⟨w8, hw8⟩ : ∃ w8, w8 = w6.drewN nq := ⟨_, rfl⟩
           rw [← hw8]
           have hdr8 : Drawn w5 w8 := by
            obtain ⟨q, hq⟩ := AJ.out.2
            obtain ⟨q2, hq2⟩ := A6.out
            rw [hw8, hq2, hq]
            exact ⟨_, by simp only [World.drewN_drewN]; rfl⟩
           have ax := AX.out
           obtain ⟨H, hH⟩ : ∃ H, w8.heap.size = H := ⟨_, rfl⟩
           have bal : Below w8.heap.size w8 (w8.alloc (.cells #[.int .i64 (x : Int), .int .i64 0, .int .i64 0] 142)) := (Below.refl _ w8).alloc (Nat.le_refl _) _
           have ho3A : O3 (w8.alloc (.cells #[.int .i64 (x : Int), .int .i64 0, .int .i64 0] 142)) B 142 (.slice va ln vc) (ss.map sayV) := O3.below (O3.drawn ax.2.2.2.2.1 hdr8) bal (Nat.le_refl _)
           have hcN := Cells.new w8 #[.int .i64 (x : Int), .int .i64 0, .int .i64 0] 142
           rw [hH] at hcN
           have q0 := hcN.cell 0
           have q1 := hcN.cell 1
           have q2 := hcN.cell 2
           simp only [List.getElem?_toArray, List.getElem?_cons_zero, List.getElem?_cons_succ] at q0 q1 q2
           have hbw : Below B w (w8.alloc (.cells #[.int .i64 (x : Int), .int .i64 0, .int .i64 0] 142)) := (ax.2.2.2.2.2.1.trans (by obtain ⟨nn, rfl⟩ := hdr8; exact ((Only.refl B w5).drewN nn).below (Nat.le_refl _))).trans (bal.mono (by obtain ⟨nn, rfl⟩ := hdr8; exact ax.2.2.2.2.1.le))
           have A2 : Aside (Below B w (w8.alloc (.cells #[.int .i64 (x : Int), .int .i64 0, .int .i64 0] 142))) := hbw
           have cx8 : w8.cell? ⟨rb, ro + i, none⟩ = some (.int .i64 (x : Int)) := by obtain ⟨nn, rfl⟩ := hdr8; exact ax.2.2.2.2.2.2.2.2.2.2.1 i x ax.2.2.2.2.2.2.1
           clear ax bal hcN hbw hdr8 hw8 cx
           go_wp2_with (at_builtin; refine wpList_o3 _ rfl (.tmp 33) (.tmp 39) 139 rfl 142 i0 (.agg #[.int .i64 0, .int .i64 0, .int .i64 0]) 24 Tryz.underlying139 AI.out.1 AI.out.2.1 AI.out.2.2.1 AI.out.2.2.2 rfl B (.slice va ln vc) (ss.map sayV) (by rfl) ho3A H 1 (sayV (⟨x, 0, 0⟩)) (by rfl) q0 q1 q2 (sayV_one _) AX.out.2.2.2.2.2.2.2.2.2.2.2 (by decide) ?_; intro v7 w7 hg7)
           have ax := AX.out
           have al := AL.out
           go_roundg (G - (1))
           case measure => omega
           case rel => exact ⟨i + 1, by go_num, by omega, ss ++ [⟨x, 0, 0⟩], SaysT.snoc (al.1) ax.2.2.1, by rw [List.length_append]; simp; omega, by rw [List.map_append]; exact hg7.ow, A2.out.trans hg7.bel⟩
          ·obtain ⟨z, hz⟩ : ∃ z, row[i - 1]? = some z := ⟨_, List.getElem?_eq_getElem (by omega)⟩
           by_cases hzx : x = z
           ·have tI : ((0 : Int) < (i : Int)) = True := eq_true (by omega)
            have tI' : (0 < i) = True := eq_true (by omega)
            have tI'' : i ≠ 0 := by omega
            have cz := hcr (i - 1) z hz
            obtain ⟨i1, hi1⟩ : ∃ i1, i - 1 = i1 := ⟨_, rfl⟩
            rw [hi1] at cz
            have hi1I : (i : Int) - 1 = (i1 : Int) := by omega
            have hi1n : ((i1 : Int) < (n : Int)) = True := eq_true (by omega)
            have hi1n' : (i1 < n) = True := eq_true (by omega)
            have tz : ((x : Int) == (z : Int)) = true := by rw [beq_iff_eq]; omega
            have tz' : ((x : Int) = (z : Int)) = True := eq_true (by omega)
            have tz2 : (x = z) = True := eq_true hzx
            clear hi0' hzx hz hi1
            have AL : Aside (SaysT row (i + 1) i [⟨x, 0, 0⟩] ∧ i + 1 ≤ n) := ⟨say_lit ax.2.2.2.2.2.2.1 ax.2.2.2.2.2.2.2.1, by omega⟩
            have AJ : Aside (True ∧ Drawn w5 wr) := ⟨trivial, hdr⟩
            clear hJ hrg hr1 hal hdr ax hcr
            go_wp2_with fail
            go_quiet (fail)
            go_upto_region 14 with fail
            obtain ⟨w6, hw6⟩ : ∃ w6, w6 = wr.drewN nq := ⟨_, rfl⟩
            rw [← hw6]
            have A6 : Aside (Drawn wr w6) := ⟨_, hw6⟩
            have cx : w6.cell? ⟨rb, ro + i, none⟩ = some (.int .i64 (x : Int)) := by rw [hw6]; exact cx
            have cz : w6.cell? ⟨rb, ro + i1, none⟩ = some (.int .i64 (z : Int)) := by rw [hw6]; exact cz
            clear hw6
            go_quiet (fail)
            go_upto_region 8 with fail
            obtain ⟨w8, hw8⟩ : ∃ w8, w8 = w6.drewN nq := ⟨_, rfl⟩
            rw [← hw8]
            have hdr8 : Drawn w5 w8 := by
             obtain ⟨q, hq⟩ := AJ.out.2
             obtain ⟨q2, hq2⟩ := A6.out
             rw [hw8, hq2, hq]
             exact ⟨_, by simp only [World.drewN_drewN]; rfl⟩
            have ax := AX.out
            obtain ⟨H, hH⟩ : ∃ H, w8.heap.size = H := ⟨_, rfl⟩
            have bal : Below w8.heap.size w8 (w8.alloc (.cells #[.int .i64 (x : Int), .int .i64 0, .int .i64 0] 142)) := (Below.refl _ w8).alloc (Nat.le_refl _) _
            have ho3A : O3 (w8.alloc (.cells #[.int .i64 (x : Int), .int .i64 0, .int .i64 0] 142)) B 142 (.slice va ln vc) (ss.map sayV) := O3.below (O3.drawn ax.2.2.2.2.1 hdr8) bal (Nat.le_refl _)
            have hcN := Cells.new w8 #[.int .i64 (x : Int), .int .i64 0, .int .i64 0] 142
            rw [hH] at hcN
            have q0 := hcN.cell 0
            have q1 := hcN.cell 1
            have q2 := hcN.cell 2
            simp only [List.getElem?_toArray, List.getElem?_cons_zero, List.getElem?_cons_succ] at q0 q1 q2
            have hbw : Below B w (w8.alloc (.cells #[.int .i64 (x : Int), .int .i64 0, .int .i64 0] 142)) := (ax.2.2.2.2.2.1.trans (by obtain ⟨nn, rfl⟩ := hdr8; exact ((Only.refl B w5).drewN nn).below (Nat.le_refl _))).trans (bal.mono (by obtain ⟨nn, rfl⟩ := hdr8; exact ax.2.2.2.2.1.le))
            have A2 : Aside (Below B w (w8.alloc (.cells #[.int .i64 (x : Int), .int .i64 0, .int .i64 0] 142))) := hbw
            have cx8 : w8.cell? ⟨rb, ro + i, none⟩ = some (.int .i64 (x : Int)) := by obtain ⟨nn, rfl⟩ := hdr8; exact ax.2.2.2.2.2.2.2.2.2.2.1 i x ax.2.2.2.2.2.2.1
            clear ax bal hcN hbw hdr8 hw8 cx cz
            go_wp2_with (at_builtin; refine wpList_o3 _ rfl (.tmp 33) (.tmp 39) 139 rfl 142 i0 (.agg #[.int .i64 0, .int .i64 0, .int .i64 0]) 24 Tryz.underlying139 AI.out.1 AI.out.2.1 AI.out.2.2.1 AI.out.2.2.2 rfl B (.slice va ln vc) (ss.map sayV) (by rfl) ho3A H 1 (sayV (⟨x, 0, 0⟩)) (by rfl) q0 q1 q2 (sayV_one _) AX.out.2.2.2.2.2.2.2.2.2.2.2 (by decide) ?_; intro v7 w7 hg7)
            have ax := AX.out
            have al := AL.out
            go_roundg (G - (1))
            case measure => omega
            case rel => exact ⟨i + 1, by go_num, by omega, ss ++ [⟨x, 0, 0⟩], SaysT.snoc (al.1) ax.2.2.1, by rw [List.length_append]; simp; omega, by rw [List.map_append]; exact hg7.ow, A2.out.trans hg7.bel⟩
           ·have tI : ((0 : Int) < (i : Int)) = True := eq_true (by omega)
            have tI' : (0 < i) = True := eq_true (by omega)
            have tI'' : i ≠ 0 := by omega
            have cz := hcr (i - 1) z hz
            obtain ⟨i1, hi1⟩ : ∃ i1, i - 1 = i1 := ⟨_, rfl⟩
            rw [hi1] at cz
            have hi1I : (i : Int) - 1 = (i1 : Int) := by omega
            have hi1n : ((i1 : Int) < (n : Int)) = True := eq_true (by omega)
            have hi1n' : (i1 < n) = True := eq_true (by omega)
            have tz : ((x : Int) == (z : Int)) = false := by rw [beq_eq_false_iff_ne]; omega
            have tz' : ((x : Int) = (z : Int)) = False := eq_false (by omega)
            have tz2 : (x = z) = False := eq_false hzx
            clear hi0' hzx hz hi1
            have AL : Aside (SaysT row (i + 1) i [⟨x, 0, 0⟩] ∧ i + 1 ≤ n) := ⟨say_lit ax.2.2.2.2.2.2.1 ax.2.2.2.2.2.2.2.1, by omega⟩
            have AJ : Aside (True ∧ Drawn w5 wr) := ⟨trivial, hdr⟩
            clear hJ hrg hr1 hal hdr ax hcr
            go_wp2_with fail
            go_quiet (fail)
            go_upto_region 14 with fail
            obtain ⟨w6, hw6⟩ : ∃ w6, w6 = wr.drewN nq := ⟨_, rfl⟩
            rw [← hw6]
            have A6 : Aside (Drawn wr w6) := ⟨_, hw6⟩
            have cx : w6.cell? ⟨rb, ro + i, none⟩ = some (.int .i64 (x : Int)) := by rw [hw6]; exact cx
            have cz : w6.cell? ⟨rb, ro + i1, none⟩ = some (.int .i64 (z : Int)) := by rw [hw6]; exact cz
            clear hw6
            go_quiet (fail)
            go_upto_region 8 with fail
            obtain ⟨w8, hw8⟩ : ∃ w8, w8 = w6.drewN nq := ⟨_, rfl⟩
            rw [← hw8]
            have hdr8 : Drawn w5 w8 := by
             obtain ⟨q, hq⟩ := AJ.out.2
             obtain ⟨q2, hq2⟩ := A6.out
             rw [hw8, hq2, hq]
             exact ⟨_, by simp only [World.drewN_drewN]; rfl⟩
            have ax := AX.out
            obtain ⟨H, hH⟩ : ∃ H, w8.heap.size = H := ⟨_, rfl⟩
            have bal : Below w8.heap.size w8 (w8.alloc (.cells #[.int .i64 (x : Int), .int .i64 0, .int .i64 0] 142)) := (Below.refl _ w8).alloc (Nat.le_refl _) _
            have ho3A : O3 (w8.alloc (.cells #[.int .i64 (x : Int), .int .i64 0, .int .i64 0] 142)) B 142 (.slice va ln vc) (ss.map sayV) := O3.below (O3.drawn ax.2.2.2.2.1 hdr8) bal (Nat.le_refl _)
            have hcN := Cells.new w8 #[.int .i64 (x : Int), .int .i64 0, .int .i64 0] 142
            rw [hH] at hcN
            have q0 := hcN.cell 0
            have q1 := hcN.cell 1
            have q2 := hcN.cell 2
            simp only [List.getElem?_toArray, List.getElem?_cons_zero, List.getElem?_cons_succ] at q0 q1 q2
            have hbw : Below B w (w8.alloc (.cells #[.int .i64 (x : Int), .int .i64 0, .int .i64 0] 142)) := (ax.2.2.2.2.2.1.trans (by obtain ⟨nn, rfl⟩ := hdr8; exact ((Only.refl B w5).drewN nn).below (Nat.le_refl _))).trans (bal.mono (by obtain ⟨nn, rfl⟩ := hdr8; exact ax.2.2.2.2.1.le))
            have A2 : Aside (Below B w (w8.alloc (.cells #[.int .i64 (x : Int), .int .i64 0, .int .i64 0] 142))) := hbw
            have cx8 : w8.cell? ⟨rb, ro + i, none⟩ = some (.int .i64 (x : Int)) := by obtain ⟨nn, rfl⟩ := hdr8; exact ax.2.2.2.2.2.2.2.2.2.2.1 i x ax.2.2.2.2.2.2.1
            clear ax bal hcN hbw hdr8 hw8 cx cz
            go_wp2_with (at_builtin; refine wpList_o3 _ rfl (.tmp 33) (.tmp 39) 139 rfl 142 i0 (.agg #[.int .i64 0, .int .i64 0, .int .i64 0]) 24 Tryz.underlying139 AI.out.1 AI.out.2.1 AI.out.2.2.1 AI.out.2.2.2 rfl B (.slice va ln vc) (ss.map sayV) (by rfl) ho3A H 1 (sayV (⟨x, 0, 0⟩)) (by rfl) q0 q1 q2 (sayV_one _) AX.out.2.2.2.2.2.2.2.2.2.2.2 (by decide) ?_; intro v7 w7 hg7)
            have ax := AX.out
            have al := AL.out
            go_roundg (G - (1))
            case measure => omega
            case rel => exact ⟨i + 1, by go_num, by omega, ss ++ [⟨x, 0, 0⟩], SaysT.snoc (al.1) ax.2.2.1, by rw [List.length_append]; simp; omega, by rw [List.map_append]; exact hg7.ow, A2.out.trans hg7.bel⟩
       ·have tx : ((x : Int) == 0) = false := by rw [beq_eq_false_iff_ne]; omega
        have tx' : ((x : Int) = 0) = False := eq_false (by omega)
        clear hx0
        rcases (show i = 0 ∨ 0 < i by omega) with hi0' | hi0'
        ·have tI : ((0 : Int) < (i : Int)) = False := eq_false (by omega)
         have tI' : (0 < i) = False := eq_false (by omega)
         clear hi0'
         have AL : Aside (SaysT row (i + 1) i [⟨x, 0, 0⟩] ∧ i + 1 ≤ n) := ⟨say_lit ax.2.2.2.2.2.2.1 ax.2.2.2.2.2.2.2.1, by omega⟩
         have AJ : Aside (True ∧ Drawn w5 wr) := ⟨trivial, hdr⟩
         clear hJ hrg hr1 hal hdr ax hcr
         go_wp2_with fail
         go_quiet (fail)
         go_upto_region 14 with fail
         obtain ⟨w6, hw6⟩ : ∃ w6, w6 = wr.drewN nq := ⟨_, rfl⟩
         rw [← hw6]
         have A6 : Aside (Drawn wr w6) := ⟨_, hw6⟩
         have cx : w6.cell? ⟨rb, ro + i, none⟩ = some (.int .i64 (x : Int)) := by rw [hw6]; exact cx
         clear hw6
         go_quiet (fail)
         go_upto_region 8 with fail
         obtain ⟨w8, hw8⟩ : ∃ w8, w8 = w6.drewN nq := ⟨_, rfl⟩
         rw [← hw8]
         have hdr8 : Drawn w5 w8 := by
          obtain ⟨q, hq⟩ := AJ.out.2
          obtain ⟨q2, hq2⟩ := A6.out
          rw [hw8, hq2, hq]
          exact ⟨_, by simp only [World.drewN_drewN]; rfl⟩
         have ax := AX.out
         obtain ⟨H, hH⟩ : ∃ H, w8.heap.size = H := ⟨_, rfl⟩
         have bal : Below w8.heap.size w8 (w8.alloc (.cells #[.int .i64 (x : Int), .int .i64 0, .int .i64 0] 142)) := (Below.refl _ w8).alloc (Nat.le_refl _) _
         have ho3A : O3 (w8.alloc (.cells #[.int .i64 (x : Int), .int .i64 0, .int .i64 0] 142)) B 142 (.slice va ln vc) (ss.map sayV) := O3.below (O3.drawn ax.2.2.2.2.1 hdr8) bal (Nat.le_refl _)
         have hcN := Cells.new w8 #[.int .i64 (x : Int), .int .i64 0, .int .i64 0] 142
         rw [hH] at hcN
         have q0 := hcN.cell 0
         have q1 := hcN.cell 1
         have q2 := hcN.cell 2
         simp only [List.getElem?_toArray, List.getElem?_cons_zero, List.getElem?_cons_succ] at q0 q1 q2
         have hbw : Below B w (w8.alloc (.cells #[.int .i64 (x : Int), .int .i64 0, .int .i64 0] 142)) := (ax.2.2.2.2.2.1.trans (by obtain ⟨nn, rfl⟩ := hdr8; exact ((Only.refl B w5).drewN nn).below (Nat.le_refl _))).trans (bal.mono (by obtain ⟨nn, rfl⟩ := hdr8; exact ax.2.2.2.2.1.le))
         have A2 : Aside (Below B w (w8.alloc (.cells #[.int .i64 (x : Int), .int .i64 0, .int .i64 0] 142))) := hbw
         have cx8 : w8.cell? ⟨rb, ro + i, none⟩ = some (.int .i64 (x : Int)) := by obtain ⟨nn, rfl⟩ := hdr8; exact ax.2.2.2.2.2.2.2.2.2.2.1 i x ax.2.2.2.2.2.2.1
         clear ax bal hcN hbw hdr8 hw8 cx
         go_wp2_with (at_builtin; refine wpList_o3 _ rfl (.tmp 33) (.tmp 39) 139 rfl 142 i0 (.agg #[.int .i64 0, .int .i64 0, .int .i64 0]) 24 Tryz.underlying139 AI.out.1 AI.out.2.1 AI.out.2.2.1 AI.out.2.2.2 rfl B (.slice va ln vc) (ss.map sayV) (by rfl) ho3A H 1 (sayV (⟨x, 0, 0⟩)) (by rfl) q0 q1 q2 (sayV_one _) AX.out.2.2.2.2.2.2.2.2.2.2.2 (by decide) ?_; intro v7 w7 hg7)
         have ax := AX.out
         have al := AL.out
         go_roundg (G - (1))
         case measure => omega
         case rel => exact ⟨i + 1, by go_num, by omega, ss ++ [⟨x, 0, 0⟩], SaysT.snoc (al.1) ax.2.2.1, by rw [List.length_append]; simp; omega, by rw [List.map_append]; exact hg7.ow, A2.out.trans hg7.bel⟩
        ·obtain ⟨z, hz⟩ : ∃ z, row[i - 1]? = some z := ⟨_, List.getElem?_eq_getElem (by omega)⟩
         by_cases hzx : x = z
         ·by_cases hr3 : 3 ≤ r
          ·have t3r : ((3 : Int) ≤ (r : Int)) = True := eq_true (by omega)
           have t3r' : (3 ≤ r) = True := eq_true (by omega)
           have tI : ((0 : Int) < (i : Int)) = True := eq_true (by omega)
           have tI' : (0 < i) = True := eq_true (by omega)
           have tI'' : i ≠ 0 := by omega
           have cz := hcr (i - 1) z hz
           obtain ⟨i1, hi1⟩ : ∃ i1, i - 1 = i1 := ⟨_, rfl⟩
           rw [hi1] at cz
           have hi1I : (i : Int) - 1 = (i1 : Int) := by omega
           have hi1n : ((i1 : Int) < (n : Int)) = True := eq_true (by omega)
           have hi1n' : (i1 < n) = True := eq_true (by omega)
           have tz : ((x : Int) == (z : Int)) = true := by rw [beq_iff_eq]; omega
           have tz' : ((x : Int) = (z : Int)) = True := eq_true (by omega)
           have tz2 : (x = z) = True := eq_true hzx
           obtain ⟨nn, hnn⟩ : ∃ nn, min r 6 = nn := ⟨_, rfl⟩
           have hmin : (if (6 : Int) < (r : Int) then 6 else (r : Int)) = (nn : Int) := by split <;> omega
           obtain ⟨v8, hv8⟩ : ∃ v8, nn - 3 = v8 := ⟨_, rfl⟩
           have hv8I : (nn : Int) - 3 = (v8 : Int) := by omega
           have hnnI : (nn : Int) ≤ 6 := by omega
           have AL : Aside (SaysT row (i + nn) i [⟨16, v8, 2⟩] ∧ i + nn ≤ n ∧ 3 ≤ nn) := ⟨by rw [← hv8]; exact say_16 hal hi0' (by rw [ax.2.2.2.2.2.2.1, hz, hzx]) (by omega) (by omega) (by omega), by have := hal.1; omega, by omega⟩
           clear hi0' hzx hz hi1 hr3 hnn hv8
           have AJ : Aside (True ∧ Drawn w5 wr) := ⟨trivial, hdr⟩
           clear hJ hrg hr1 hal hdr ax hcr
           go_wp2_with fail
           go_quiet (fail)
           go_upto_region 14 with fail
           obtain ⟨w6, hw6⟩ : ∃ w6, w6 = wr.drewN nq := ⟨_, rfl⟩
           rw [← hw6]
           have A6 : Aside (Drawn wr w6) := ⟨_, hw6⟩
           have cx : w6.cell? ⟨rb, ro + i, none⟩ = some (.int .i64 (x : Int)) := by rw [hw6]; exact cx
           have cz : w6.cell? ⟨rb, ro + i1, none⟩ = some (.int .i64 (z : Int)) := by rw [hw6]; exact cz
           clear hw6
           go_quiet (fail)
           go_upto_region 16 with fail
           obtain ⟨w8, hw8⟩ : ∃ w8, w8 = w6.drewN nq := ⟨_, rfl⟩
           rw [← hw8]
           have hdr8 : Drawn w5 w8 := by
            obtain ⟨q, hq⟩ := AJ.out.2
            obtain ⟨q2, hq2⟩ := A6.out
            rw [hw8, hq2, hq]
            exact ⟨_, by simp only [World.drewN_drewN]; rfl⟩
           have ax := AX.out
           obtain ⟨H, hH⟩ : ∃ H, w8.heap.size = H := ⟨_, rfl⟩
           have bal : Below w8.heap.size w8 (w8.alloc (.cells #[.int .i64 16, .int .i64 (v8 : Int), .int .i64 2] 142)) := (Below.refl _ w8).alloc (Nat.le_refl _) _
           have ho3A : O3 (w8.alloc (.cells #[.int .i64 16, .int .i64 (v8 : Int), .int .i64 2] 142)) B 142 (.slice va ln vc) (ss.map sayV) := O3.below (O3.drawn ax.2.2.2.2.1 hdr8) bal (Nat.le_refl _)
           have hcN := Cells.new w8 #[.int .i64 16, .int .i64 (v8 : Int), .int .i64 2] 142
           rw [hH] at hcN
           have q0 := hcN.cell 0
           have q1 := hcN.cell 1
           have q2 := hcN.cell 2
           simp only [List.getElem?_toArray, List.getElem?_cons_zero, List.getElem?_cons_succ] at q0 q1 q2
           have hbw : Below B w (w8.alloc (.cells #[.int .i64 16, .int .i64 (v8 : Int), .int .i64 2] 142)) := (ax.2.2.2.2.2.1.trans (by obtain ⟨nn, rfl⟩ := hdr8; exact ((Only.refl B w5).drewN nn).below (Nat.le_refl _))).trans (bal.mono (by obtain ⟨nn, rfl⟩ := hdr8; exact ax.2.2.2.2.1.le))
           have A2 : Aside (Below B w (w8.alloc (.cells #[.int .i64 16, .int .i64 (v8 : Int), .int .i64 2] 142))) := hbw
           have cx8 : w8.cell? ⟨rb, ro + i, none⟩ = some (.int .i64 (x : Int)) := by obtain ⟨nn, rfl⟩ := hdr8; exact ax.2.2.2.2.2.2.2.2.2.2.1 i x ax.2.2.2.2.2.2.1
           clear ax bal hcN hbw hdr8 hw8 cx cz
           go_wp2_with (at_builtin; refine wpList_o3 _ rfl (.tmp 105) (.tmp 109) 139 rfl 142 i0 (.agg #[.int .i64 0, .int .i64 0, .int .i64 0]) 24 Tryz.underlying139 AI.out.1 AI.out.2.1 AI.out.2.2.1 AI.out.2.2.2 rfl B (.slice va ln vc) (ss.map sayV) (by rfl) ho3A H 1 (sayV (⟨16, v8, 2⟩)) (by rfl) q0 q1 q2 (sayV_one _) AX.out.2.2.2.2.2.2.2.2.2.2.2 (by decide) ?_; intro v7 w7 hg7)
           have ax := AX.out
           have al := AL.out
           go_roundg (G - (nn))
           case measure => omega
           case rel => exact ⟨i + nn, by go_num, by omega, ss ++ [⟨16, v8, 2⟩], SaysT.snoc (al.1) ax.2.2.1, by rw [List.length_append]; simp; omega, by rw [List.map_append]; exact hg7.ow, A2.out.trans hg7.bel⟩
          ·have t3r : ((3 : Int) ≤ (r : Int)) = False := eq_false (by omega)
           have t3r' : (3 ≤ r) = False := eq_false (by omega)
           have tI : ((0 : Int) < (i : Int)) = True := eq_true (by omega)
           have tI' : (0 < i) = True := eq_true (by omega)
           have tI'' : i ≠ 0 := by omega
           have cz := hcr (i - 1) z hz
           obtain ⟨i1, hi1⟩ : ∃ i1, i - 1 = i1 := ⟨_, rfl⟩
           rw [hi1] at cz
           have hi1I : (i : Int) - 1 = (i1 : Int) := by omega
           have hi1n : ((i1 : Int) < (n : Int)) = True := eq_true (by omega)
           have hi1n' : (i1 < n) = True := eq_true (by omega)
           have tz : ((x : Int) == (z : Int)) = true := by rw [beq_iff_eq]; omega
           have tz' : ((x : Int) = (z : Int)) = True := eq_true (by omega)
           have tz2 : (x = z) = True := eq_true hzx
           clear hi0' hzx hz hi1 hr3
           have AL : Aside (SaysT row (i + 1) i [⟨x, 0, 0⟩] ∧ i + 1 ≤ n) := ⟨say_lit ax.2.2.2.2.2.2.1 ax.2.2.2.2.2.2.2.1, by omega⟩
           have AJ : Aside (True ∧ Drawn w5 wr) := ⟨trivial, hdr⟩
           clear hJ hrg hr1 hal hdr ax hcr
           go_wp2_with fail
           go_quiet (fail)
           go_upto_region 14 with fail
           obtain ⟨w6, hw6⟩ : ∃ w6, w6 = wr.drewN nq := ⟨_, rfl⟩
           rw [← hw6]
           have A6 : Aside (Drawn wr w6) := ⟨_, hw6⟩
           have cx : w6.cell? ⟨rb, ro + i, none⟩ = some (.int .i64 (x : Int)) := by rw [hw6]; exact cx
           have cz : w6.cell? ⟨rb, ro + i1, none⟩ = some (.int .i64 (z : Int)) := by rw [hw6]; exact cz
           clear hw6
           go_quiet (fail)
           go_upto_region 8 with fail
           obtain ⟨w8, hw8⟩ : ∃ w8, w8 = w6.drewN nq := ⟨_, rfl⟩
           rw [← hw8]
           have hdr8 : Drawn w5 w8 := by
            obtain ⟨q, hq⟩ := AJ.out.2
            obtain ⟨q2, hq2⟩ := A6.out
            rw [hw8, hq2, hq]
            exact ⟨_, by simp only [World.drewN_drewN]; rfl⟩
           have ax := AX.out
           obtain ⟨H, hH⟩ : ∃ H, w8.heap.size = H := ⟨_, rfl⟩
           have bal : Below w8.heap.size w8 (w8.alloc (.cells #[.int .i64 (x : Int), .int .i64 0, .int .i64 0] 142)) := (Below.refl _ w8).alloc (Nat.le_refl _) _
           have ho3A : O3 (w8.alloc (.cells #[.int .i64 (x : Int), .int .i64 0, .int .i64 0] 142)) B 142 (.slice va ln vc) (ss.map sayV) := O3.below (O3.drawn ax.2.2.2.2.1 hdr8) bal (Nat.le_refl _)
           have hcN := Cells.new w8 #[.int .i64 (x : Int), .int .i64 0, .int .i64 0] 142
           rw [hH] at hcN
           have q0 := hcN.cell 0
           have q1 := hcN.cell 1
           have q2 := hcN.cell 2
           simp only [List.getElem?_toArray, List.getElem?_cons_zero, List.getElem?_cons_succ] at q0 q1 q2
           have hbw : Below B w (w8.alloc (.cells #[.int .i64 (x : Int), .int .i64 0, .int .i64 0] 142)) := (ax.2.2.2.2.2.1.trans (by obtain ⟨nn, rfl⟩ := hdr8; exact ((Only.refl B w5).drewN nn).below (Nat.le_refl _))).trans (bal.mono (by obtain ⟨nn, rfl⟩ := hdr8; exact ax.2.2.2.2.1.le))
           have A2 : Aside (Below B w (w8.alloc (.cells #[.int .i64 (x : Int), .int .i64 0, .int .i64 0] 142))) := hbw
           have cx8 : w8.cell? ⟨rb, ro + i, none⟩ = some (.int .i64 (x : Int)) := by obtain ⟨nn, rfl⟩ := hdr8; exact ax.2.2.2.2.2.2.2.2.2.2.1 i x ax.2.2.2.2.2.2.1
           clear ax bal hcN hbw hdr8 hw8 cx cz
           go_wp2_with (at_builtin; refine wpList_o3 _ rfl (.tmp 33) (.tmp 39) 139 rfl 142 i0 (.agg #[.int .i64 0, .int .i64 0, .int .i64 0]) 24 Tryz.underlying139 AI.out.1 AI.out.2.1 AI.out.2.2.1 AI.out.2.2.2 rfl B (.slice va ln vc) (ss.map sayV) (by rfl) ho3A H 1 (sayV (⟨x, 0, 0⟩)) (by rfl) q0 q1 q2 (sayV_one _) AX.out.2.2.2.2.2.2.2.2.2.2.2 (by decide) ?_; intro v7 w7 hg7)
           have ax := AX.out
           have al := AL.out
           go_roundg (G - (1))
           case measure => omega
           case rel => exact ⟨i + 1, by go_num, by omega, ss ++ [⟨x, 0, 0⟩], SaysT.snoc (al.1) ax.2.2.1, by rw [List.length_append]; simp; omega, by rw [List.map_append]; exact hg7.ow, A2.out.trans hg7.bel⟩
         ·have tI : ((0 : Int) < (i : Int)) = True := eq_true (by omega)
          have tI' : (0 < i) = True := eq_true (by omega)
          have tI'' : i ≠ 0 := by omega
          have cz := hcr (i - 1) z hz
          obtain ⟨i1, hi1⟩ : ∃ i1, i - 1 = i1 := ⟨_, rfl⟩
          rw [hi1] at cz
          have hi1I : (i : Int) - 1 = (i1 : Int) := by omega
          have hi1n : ((i1 : Int) < (n : Int)) = True := eq_true (by omega)
          have hi1n' : (i1 < n) = True := eq_true (by omega)
          have tz : ((x : Int) == (z : Int)) = false := by rw [beq_eq_false_iff_ne]; omega
          have tz' : ((x : Int) = (z : Int)) = False := eq_false (by omega)
          have tz2 : (x = z) = False := eq_false hzx
          clear hi0' hzx hz hi1
          have AL : Aside (SaysT row (i + 1) i [⟨x, 0, 0⟩] ∧ i + 1 ≤ n) := ⟨say_lit ax.2.2.2.2.2.2.1 ax.2.2.2.2.2.2.2.1, by omega⟩
          have AJ : Aside (True ∧ Drawn w5 wr) := ⟨trivial, hdr⟩
          clear hJ hrg hr1 hal hdr ax hcr
          go_wp2_with fail
          go_quiet (fail)
          go_upto_region 14 with fail
          obtain ⟨w6, hw6⟩ : ∃ w6, w6 = wr.drewN nq := ⟨_, rfl⟩
          rw [← hw6]
          have A6 : Aside (Drawn wr w6) := ⟨_, hw6⟩
          have cx : w6.cell? ⟨rb, ro + i, none⟩ = some (.int .i64 (x : Int)) := by rw [hw6]; exact cx
          have cz : w6.cell? ⟨rb, ro + i1, none⟩ = some (.int .i64 (z : Int)) := by rw [hw6]; exact cz
          clear hw6
          go_quiet (fail)
          go_upto_region 8 with fail
          obtain ⟨w8, hw8⟩ : ∃ w8, w8 = w6.drewN nq := ⟨_, rfl⟩
          rw [← hw8]
          have hdr8 : Drawn w5 w8 := by
           obtain ⟨q, hq⟩ := AJ.out.2
           obtain ⟨q2, hq2⟩ := A6.out
           rw [hw8, hq2, hq]
           exact ⟨_, by simp only [World.drewN_drewN]; rfl⟩
          have ax := AX.out
          obtain ⟨H, hH⟩ : ∃ H, w8.heap.size = H := ⟨_, rfl⟩
          have bal : Below w8.heap.size w8 (w8.alloc (.cells #[.int .i64 (x : Int), .int .i64 0, .int .i64 0] 142)) := (Below.refl _ w8).alloc (Nat.le_refl _) _
          have ho3A : O3 (w8.alloc (.cells #[.int .i64 (x : Int), .int .i64 0, .int .i64 0] 142)) B 142 (.slice va ln vc) (ss.map sayV) := O3.below (O3.drawn ax.2.2.2.2.1 hdr8) bal (Nat.le_refl _)
          have hcN := Cells.new w8 #[.int .i64 (x : Int), .int .i64 0, .int .i64 0] 142
          rw [hH] at hcN
          have q0 := hcN.cell 0
          have q1 := hcN.cell 1
          have q2 := hcN.cell 2
          simp only [List.getElem?_toArray, List.getElem?_cons_zero, List.getElem?_cons_succ] at q0 q1 q2
          have hbw : Below B w (w8.alloc (.cells #[.int .i64 (x : Int), .int .i64 0, .int .i64 0] 142)) := (ax.2.2.2.2.2.1.trans (by obtain ⟨nn, rfl⟩ := hdr8; exact ((Only.refl B w5).drewN nn).below (Nat.le_refl _))).trans (bal.mono (by obtain ⟨nn, rfl⟩ := hdr8; exact ax.2.2.2.2.1.le))
          have A2 : Aside (Below B w (w8.alloc (.cells #[.int .i64 (x : Int), .int .i64 0, .int .i64 0] 142))) := hbw
          have cx8 : w8.cell? ⟨rb, ro + i, none⟩ = some (.int .i64 (x : Int)) := by obtain ⟨nn, rfl⟩ := hdr8; exact ax.2.2.2.2.2.2.2.2.2.2.1 i x ax.2.2.2.2.2.2.1
          clear ax bal hcN hbw hdr8 hw8 cx cz
          go_wp2_with (at_builtin; refine wpList_o3 _ rfl (.tmp 33) (.tmp 39) 139 rfl 142 i0 (.agg #[.int .i64 0, .int .i64 0, .int .i64 0]) 24 Tryz.underlying139 AI.out.1 AI.out.2.1 AI.out.2.2.1 AI.out.2.2.2 rfl B (.slice va ln vc) (ss.map sayV) (by rfl) ho3A H 1 (sayV (⟨x, 0, 0⟩)) (by rfl) q0 q1 q2 (sayV_one _) AX.out.2.2.2.2.2.2.2.2.2.2.2 (by decide) ?_; intro v7 w7 hg7)
          have ax := AX.out
          have al := AL.out
          go_roundg (G - (1))
          case measure => omega
          case rel => exact ⟨i + 1, by go_num, by omega, ss ++ [⟨x, 0, 0⟩], SaysT.snoc (al.1) ax.2.2.1, by rw [List.length_append]; simp; omega, by rw [List.map_append]; exact hg7.ow, A2.out.trans hg7.bel⟩
  ·have t1 : ((i : Int) < (n : Int)) = False := eq_false (by omega)
   have t1' : (i < n) = False := eq_false hi
   have hin : i = n := by omega
   have AX : Aside (SaysT row n 0 ss ∧ ss.length ≤ n ∧ O3 w5 B 142 (.slice va ln vc) (ss.map sayV) ∧ Below B w w5 ∧ row.length = n) := ⟨by rw [← hin]; exact hsay, by omega, ho3, hbel, a0.2.1⟩
   clear hI hig hsay hsl ho3 hbel a0 hvc hln hi hin
   go_wp2_with fail
   go_ret
   have ax := AX.out
   exact ⟨.slice va ln vc, ss, rfl, ax.2.2.1, SaysT.says (by rw [ax.2.2.2.2]; exact ax.1), ax.2.1, ax.2.2.2.1⟩
end Go.Proofs.YtogednaamndpgaaGreatDoor

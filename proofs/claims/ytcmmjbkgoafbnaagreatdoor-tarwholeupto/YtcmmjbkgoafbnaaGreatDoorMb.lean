/-
  Own texts of this seat, one behind the other: what each says stands ahead of it.
-/
import Derived.Test.YtcmmjbkgoafbnaaGreatDoorMa
import Derived.BigRegion
import Derived.Deep.RegionLaw
import Derived.Test.YtcmmjbkgoafbnaaGreatDoorWrd
import Derived.Test.YtcmmjbkgoafbnaaGreatDoorTrm
import Derived.Deep.CutBlock
import Derived.Deep.DeepCutAuto
import Derived.BigQuiet
import Derived.Test.YtcmmjbkgoafbnaaGreatDoorWrc
/-
  The document's run in memory; what its stop and its tell come to.
-/
namespace Go.Proofs.YtcmmjbkgoafbnaaGreatDoor
open Go.RowKit
set_option linter.unusedVariables false
theorem tw_u64 (z : Int) : IntKind.u64.wrap z = z % 18446744073709551616 := by
  simp [IntKind.wrap, IntKind.signed, IntKind.bits]
/-- The document's run: events, why and where it was stopped, what is to come. -/
structure Dr where
  ev : List Gev
  why : Nat
  sat : Nat
  nm : List Nat
  nd : Bool
  sz : Nat
  sd : Bool
  sp : Bool
def Dr.cm (r : Dr) : Cm := (if r.nd then some r.nm else none, if r.sd then some r.sz else none)
/-- Events as cells. -/
def gcel (e : Gev) : List Value := [.int .i64 (e.1 : Int), .int .i64 (gk1 e.2.1), .int .u8 (gk2 e.2.1), .int .i64 (gk3 e.2.1), .int .i64 0, .string (st e.2.2)]
def gcs (l : List Gev) : List Value := l.flatMap gcel
def dcs (r : Dr) (v : Value) : Array Value := #[v, .int .i64 (r.why : Int), .int .i64 (r.sat : Int), .string (st r.nm), .bool r.nd, .int .u64 (r.sz : Int), .bool r.sd, .bool r.sp]
theorem gcs_app (M N : List Gev) : gcs (M ++ N) = gcs M ++ gcs N := by simp [gcs]
theorem gcs_one : ∀ (T : List Gev), ∀ u ∈ gcs T, u.oneCell' = true := by
  intro T u hu
  obtain ⟨p, _, hp⟩ := List.mem_flatMap.1 hu
  simp [gcel] at hp
  rcases hp with rfl | rfl | rfl | rfl | rfl | rfl <;> rfl
theorem ginfo75 : (Tryz.prog.info? 56).map (fun i => (i.zero, i.size, i.bytes)) = some (some (.agg #[.int .i64 0, .int .i64 0, .int .u8 0, .int .i64 0, .int .i64 0, .string ⟨#[]⟩]), 6, 56) := by kernel_rfl
/-- The run, in block R; its events in rows from lo on. -/
structure Dm (w : World) (lo R : Nat) (r : Dr) (v : Value) : Prop where
  cells : Cells w R (dcs r v) 31
  ow : Ow w lo 56 6 v r.ev.length (gcs r.ev)
/-- What may turn while it is worked on: R, rows of events from lo on; blocks may come. -/
structure Fr (lo R : Nat) (w w' : World) : Prop where
  bel : Below lo w w'
  size : w.heap.size ≤ w'.heap.size
  kp : ∀ k, k < w.heap.size → k ≠ R → (∀ cs, w.heap[k]? ≠ some (.cells cs 56 (0, 0))) → w'.heap[k]? = w.heap[k]?
theorem Fr.refl (lo R : Nat) (w : World) : Fr lo R w w := ⟨Below.refl _ _, Nat.le_refl _, fun _ _ _ _ => rfl⟩
theorem Fr.trans {lo R : Nat} {w u v : World} (h : Fr lo R w u) (k : Fr lo R u v) : Fr lo R w v := ⟨h.bel.trans k.bel, Nat.le_trans h.size k.size, fun i h1 h2 h3 => by
  have e := h.kp i h1 h2 h3
  exact (k.kp i (Nat.lt_of_lt_of_le h1 h.size) h2 (by rw [e]; exact h3)).trans e⟩
theorem Fr.of_only {lo R : Nat} {w u : World} (h : Only R w u) (hR : lo ≤ R) : Fr lo R w u := ⟨h.below hR, Nat.le_of_eq h.size.symm, fun k _ hk _ => h.block k hk⟩
theorem Fr.of_got {lo R n : Nat} {w u : World} {v v' : Value} {xs : List Value} (h : Got lo 56 6 w u v v' n xs) : Fr lo R w u := ⟨h.bel, h.size, fun k hk _ hn => by
  rcases h.kp k hk with e | ⟨_, cs, e⟩
  · exact e
  · exact absurd e (hn cs)⟩
theorem Fr.of_below {lo R : Nat} {w u : World} (h : Below w.heap.size w u) (hlo : lo ≤ w.heap.size) : Fr lo R w u := ⟨h.mono hlo, h.size, fun k hk _ _ => h.block k hk⟩
theorem Fr.drewN {lo R : Nat} (w : World) (n : Nat) : Fr lo R w (w.drewN n) := ⟨Below.drewN2 (Below.refl _ w) n, Nat.le_refl _, fun k _ _ _ => rfl⟩
section
variable {w : World} {lo R : Nat} {r : Dr} {v : Value}
theorem Dm.lt (h : Dm w lo R r v) : R < w.heap.size := h.cells.lt
theorem Dm.drewN (h : Dm w lo R r v) (n : Nat) : Dm (w.drewN n) lo R r v := ⟨h.cells, h.ow.drewN n⟩
theorem Dm.c0 (h : Dm w lo R r v) : w.cell? ⟨R, 0, none⟩ = some v := (h.cells.cell 0).trans rfl
theorem Dm.c1 (h : Dm w lo R r v) : w.cell? ⟨R, 1, none⟩ = some (.int .i64 (r.why : Int)) := (h.cells.cell 1).trans rfl
theorem Dm.c2 (h : Dm w lo R r v) : w.cell? ⟨R, 2, none⟩ = some (.int .i64 (r.sat : Int)) := (h.cells.cell 2).trans rfl
theorem Dm.c3 (h : Dm w lo R r v) : w.cell? ⟨R, 3, none⟩ = some (.string (st r.nm)) := (h.cells.cell 3).trans rfl
theorem Dm.c4 (h : Dm w lo R r v) : w.cell? ⟨R, 4, none⟩ = some (.bool r.nd) := (h.cells.cell 4).trans rfl
theorem Dm.c5 (h : Dm w lo R r v) : w.cell? ⟨R, 5, none⟩ = some (.int .u64 (r.sz : Int)) := (h.cells.cell 5).trans rfl
theorem Dm.c6 (h : Dm w lo R r v) : w.cell? ⟨R, 6, none⟩ = some (.bool r.sd) := (h.cells.cell 6).trans rfl
theorem Dm.c7 (h : Dm w lo R r v) : w.cell? ⟨R, 7, none⟩ = some (.bool r.sp) := (h.cells.cell 7).trans rfl
theorem Dm.fz (h : Dm w lo R r v) (i : Nat) : w.frozen? ⟨R, i, none⟩ = false := h.cells.frozen i
theorem Dm.below {u : World} (h : Dm w lo R r v) (k : Below w.heap.size w u) : Dm u lo R r v := ⟨h.cells.below k h.cells.lt, h.ow.below k (Nat.le_refl _)⟩
theorem Dm.only {u : World} (h : Dm w lo R r v) (o : Only R w u) {r' : Dr} (he : r'.ev = r.ev) (hc : Cells u R (dcs r' v) 31) : Dm u lo R r' v := by
  refine ⟨hc, ?_⟩
  rw [he]
  refine h.ow.keep (Nat.le_of_eq o.size.symm) fun g _ _ ⟨cs, fr, hx⟩ => o.block g (fun e => ?_)
  subst e
  have := h.cells
  unfold Cells at this
  rw [this] at hx
  cases hx
/-- Stopped. -/
def dstop (y p : Nat) (r : Dr) : Dr := { r with why := y, sat := p, sp := true }
set_option maxHeartbeats 1000000 in
theorem dstop_c (y p : Nat) (h : Dm w lo R r v) : Calls Tryz.prog 17 #[.pointer (some ⟨R, 0, none⟩), .int .i64 (y : Int), .int .i64 (p : Int)] w fun e w' => e = .returned (.tuple #[]) ∧ Dm w' lo R (dstop y p r) v ∧ Only R w w' := by
  have c1 := h.c1
  have z1 := h.fz 1
  have k1 := h.cells.set 1 (.int .i64 (y : Int))
  have c2 : (w.setCell ⟨R, 1, none⟩ (.int .i64 (y : Int))).cell? ⟨R, 2, none⟩ = some (.int .i64 (r.sat : Int)) := (k1.cell 2).trans rfl
  have z2 := k1.frozen 2
  have k2 := k1.set 2 (.int .i64 (p : Int))
  have c3 : ((w.setCell ⟨R, 1, none⟩ (.int .i64 (y : Int))).setCell ⟨R, 2, none⟩ (.int .i64 (p : Int))).cell? ⟨R, 7, none⟩ = some (.bool r.sp) := (k2.cell 7).trans rfl
  have z3 := k2.frozen 7
  have k3 := k2.set 7 (.bool true)
  have o : Only R w (((w.setCell ⟨R, 1, none⟩ (.int .i64 (y : Int))).setCell ⟨R, 2, none⟩ (.int .i64 (p : Int))).setCell ⟨R, 7, none⟩ (.bool true)) := (((Only.refl R w).setCell 1 _).setCell 2 _).setCell 7 _
  have AF : Aside (Dm (((w.setCell ⟨R, 1, none⟩ (.int .i64 (y : Int))).setCell ⟨R, 2, none⟩ (.int .i64 (p : Int))).setCell ⟨R, 7, none⟩ (.bool true)) lo R (dstop y p r) v ∧ Only R w (((w.setCell ⟨R, 1, none⟩ (.int .i64 (y : Int))).setCell ⟨R, 2, none⟩ (.int .i64 (p : Int))).setCell ⟨R, 7, none⟩ (.bool true))) := ⟨h.only o rfl k3, o⟩
  clear h k1 k2 k3 o
  go_enter Tryz.func17, Tryz.ntmps17
  go_wp2_with fail
  first | go_end0 | (refine bodyPost_ret (results_none rfl _ _ _) rfl ?_)
  exact ⟨rfl, AF.out⟩
set_option maxHeartbeats 2000000 in
theorem dtell_c (t g : Nat) (nm : List Nat) (hlo : lo ≤ R) (h : Dm w lo R r v) (hT : r.ev.length < 1000000000000) : Calls Tryz.prog 22 #[.pointer (some ⟨R, 0, none⟩), .int .i64 (t : Int), .agg (gevv g nm)] w fun e w' => e = .returned (.tuple #[]) ∧ (∃ v', Dm w' lo R { r with ev := r.ev ++ [(t, g, nm)] } v') ∧ Fr lo R w w' := by
  obtain ⟨a, c, hv, hc, _, _⟩ := h.ow.shape
  obtain ⟨N, hN⟩ : ∃ N, r.ev.length = N := ⟨_, rfl⟩
  obtain ⟨H, hH⟩ : ∃ H, w.heap.size = H := ⟨_, rfl⟩
  obtain ⟨ek, hek⟩ : ∃ z : Int, gk1 g = z := ⟨_, rfl⟩
  obtain ⟨eb, heb⟩ : ∃ z : Int, gk2 g = z := ⟨_, rfl⟩
  obtain ⟨en', hen⟩ : ∃ z : Int, gk3 g = z := ⟨_, rfl⟩
  obtain ⟨S, hSS⟩ : ∃ S, st nm = S := ⟨_, rfl⟩
  have hevv : gevv g nm = #[.int .i64 ek, .int .u8 eb, .int .i64 en', .int .i64 0, .string S] := by rw [← hek, ← heb, ← hen, ← hSS]; rfl
  have htc : gcs [(t, g, nm)] = [.int .i64 (t : Int), .int .i64 ek, .int .u8 eb, .int .i64 en', .int .i64 0, .string S] := by rw [← hek, ← heb, ← hen, ← hSS]; rfl
  rw [hevv]
  rw [hN] at hv hT
  obtain ⟨w1, hw1⟩ : ∃ w1, w.alloc (.cells #[.int .i64 ek, .int .u8 eb, .int .i64 en', .int .i64 0, .string S] 44) = w1 := ⟨_, rfl⟩
  have b1 : Below w.heap.size w w1 := by rw [← hw1]; exact (Below.refl _ w).alloc (Nat.le_refl _) _
  have r1 := h.below b1
  have hz1 : w1.heap.size = H + 1 := by rw [← hw1, ← hH]; simp
  have k50 : Cells w1 H #[.int .i64 ek, .int .u8 eb, .int .i64 en', .int .i64 0, .string S] 44 := by rw [← hw1, ← hH]; exact Cells.new w _ 44
  obtain ⟨w2, hw2⟩ : ∃ w2, (w1.alloc (.cells #[.int .i64 (t : Int), .int .i64 ek, .int .u8 eb, .int .i64 en', .int .i64 0, .string S] 56)).drew = w2 := ⟨_, rfl⟩
  have b2 : Below w1.heap.size w1 w2 := by rw [← hw2]; exact ((Below.refl _ w1).alloc (Nat.le_refl _) _).drew
  have r2 := r1.below b2
  have k69 : Cells w2 (H + 1) #[.int .i64 (t : Int), .int .i64 ek, .int .u8 eb, .int .i64 en', .int .i64 0, .string S] 56 := by rw [← hw2, ← hz1]; exact (Cells.new w1 _ 56).drew
  have hnews : ∀ (j : Nat) x, (gcs [(t, g, nm)])[j]? = some x → w2.cell? ⟨H + 1, 0 + j, none⟩ = some x := fun j x hj => by
    rw [Nat.zero_add, k69.cell, ← hj, htc]; simp
  have d0 := k50.cell 0
  have d1 := k50.cell 1
  have d2 := k50.cell 2
  have d3 := k50.cell 3
  have d4 := k50.cell 4
  have c0 := r1.c0
  rw [hv] at c0
  have k50' := k50.alloc (.cells #[.int .i64 (t : Int), .int .i64 ek, .int .u8 eb, .int .i64 en', .int .i64 0, .string S] 56)
  have a0 : (w1.alloc (.cells #[.int .i64 (t : Int), .int .i64 ek, .int .u8 eb, .int .i64 en', .int .i64 0, .string S] 56)).cell? ⟨R, 0, none⟩ = some (.slice a N c) := by rw [(r1.cells.alloc _).cell, ← hv]; rfl
  obtain ⟨i0, hi, hz0, hz1', hz2⟩ := ginfo_parts ginfo75
  have how := r2.ow
  rw [hN, hv] at how
  have hk2 : ∀ (v2 : Value) (w3 : World) (n2 : Nat) (xs : List Value), Got lo 56 6 w2 w3 (.slice a N c) v2 n2 xs → w3.cell? ⟨R, 0, none⟩ = some (.slice a N c) ∧ w3.frozen? ⟨R, 0, none⟩ = false := fun v2 w3 n2 xs hg => by
    have k2 := r2.cells.got hg (by decide)
    refine ⟨?_, k2.frozen 0⟩
    rw [k2.cell, ← hv]; rfl
  have A : Aside (Dm w2 lo R r v ∧ Fr lo R w w2 ∧ lo ≤ R ∧ (w1.alloc (.cells #[.int .i64 (t : Int), .int .i64 ek, .int .u8 eb, .int .i64 en', .int .i64 0, .string S] 56)).drew = w2 ∧ r.ev.length = N) := ⟨r2, (Fr.of_below b1 h.ow.le).trans (Fr.of_below b2 r1.ow.le), hlo, hw2, hN⟩
  have AN : Aside (N + 1 ≤ maxLen ∧ (N + 1) * 56 ≤ 140737488355328) := ⟨by unfold maxLen; omega, by omega⟩
  rw [← hw2] at how hnews hk2
  have h1c := gcs_one [(t, g, nm)]
  clear h b1 r1 k50 b2 r2 k69 hw2 hN hc hT hlo hek heb hen hevv htc k50' hSS
  go_enter Tryz.func22, Tryz.ntmps22
  go_upto_region 1 with fail
  go_region_law (refine step_ow Tryz.prog _ rfl (.tmp 10) (.tmp 14) 28 rfl 56 i0 _ 6 56 Tryz.underlying28 hi hz0 hz1' hz2 rfl (by decide) lo (.slice a N c) N _ (by go_simp) how (H + 1) 0 1 _ rfl (by go_simp) hnews h1c AN.out.1 AN.out.2 ?_; intro gg cap w3 hgot; have e4 := (hk2 _ _ _ _ hgot).1; have f4 := (hk2 _ _ _ _ hgot).2)
  all_goals
    go_wp2_with fail
    first | go_end0 | (refine bodyPost_ret (results_none rfl _ _ _) rfl ?_)
    have ae := A.out
    rw [ae.2.2.2.1] at hgot
    have k2 := ae.1.cells.got hgot (by decide)
    refine ⟨rfl, ⟨.slice (some ⟨gg, 0, none⟩) (N + 1) cap, ?_, ?_⟩, (ae.2.1.trans (Fr.of_got hgot)).trans (Fr.of_only ((Only.refl R w3).setCell 0 _) ae.2.2.1)⟩
    · have := k2.set 0 (.slice (some ⟨gg, 0, none⟩) (N + 1) cap)
      exact this
    · have := hgot.ow.set (i := 0) (x := .slice (some ⟨gg, 0, none⟩) (N + 1) cap) k2 (by decide)
      show Ow _ lo 56 6 _ (r.ev ++ [(t, g, nm)]).length (gcs (r.ev ++ [(t, g, nm)]))
      rw [List.length_append, ae.2.2.2.2, gcs_app]
      exact this
end
end Go.Proofs.YtcmmjbkgoafbnaaGreatDoor

/-
  What the document's Text and decimal come to.
-/
namespace Go.Proofs.YtcmmjbkgoafbnaaGreatDoor
open Go.RowKit
set_option linter.unusedVariables false
theorem ttx_at : ∀ {l : List Nat} {k : Nat}, l[k]? = some 0 → (∀ j y, j < k → l[j]? = some y → y ≠ 0) → ttx l = l.take k
  | [], k, h, _ => by simp at h
  | x :: l, 0, h, _ => by
    simp at h
    subst h
    rfl
  | x :: l, k + 1, h, hp => by
    have hx : (x != 0) = true := by simpa using hp 0 x (by omega) rfl
    have := ttx_at (l := l) (k := k) (by simpa using h) fun j y hj hy => hp (j + 1) y (by omega) (by simpa using hy)
    unfold ttx at this ⊢
    rw [List.takeWhile_cons, hx, if_pos rfl, this, List.take_succ_cons]
theorem ttx_none {l : List Nat} (hp : ∀ j y, j < l.length → l[j]? = some y → y ≠ 0) : ttx l = l := ttx_all fun c hc => by
  obtain ⟨i, hi, rfl⟩ := List.getElem_of_mem hc
  exact hp i _ hi (List.getElem?_eq_getElem hi)
theorem lies_take {w : World} {b o : Nat} {l : List Nat} (h : Lies w (some ⟨b, o, none⟩) l) (k : Nat) : Lies w (some ⟨b, o, none⟩) (l.take k) := by
  rw [← List.take_append_drop k l] at h
  rcases h with h | ⟨b', o', ha, hc⟩
  · exact Or.inl (List.append_eq_nil_iff.1 h).1
  · refine Or.inr ⟨b', o', ha, fun i x hx => hc i x ?_⟩
    rw [List.getElem?_append_left (List.getElem?_eq_some_iff.1 hx).1]
    exact hx
set_option maxHeartbeats 1000000 in
theorem dtext_c (w : World) (a : Option Addr) (l : List Nat) (L C : Nat) (hL : l.length = L) (hLb : L ≤ 1000000000000) (hLC : L ≤ C) (ho : Oct l) (hli : Lies w a l) : Calls Tryz.prog 33 #[.slice a L C] w fun e w' => e = .returned (.string (st (ttx l))) ∧ w = w' := by
  have A : Aside (l.length = L ∧ L ≤ 1000000000000 ∧ L ≤ C ∧ Oct l ∧ Lies w a l) := ⟨hL, hLb, hLC, ho, hli⟩
  obtain ⟨ans, hans⟩ : ∃ ans, st (ttx l) = ans := ⟨_, rfl⟩
  rw [hans]
  have AA : Aside (st (ttx l) = ans) := hans
  clear hL hLb hLC ho hli hans
  go_enter Tryz.func33, Tryz.ntmps33
  go_wp2_with fail
  go_loopg [3] L (fun gg s3 wr => ∃ k : Nat, s3 = .int .i64 (k : Int) ∧ wr = w ∧ Aside (k + gg = L ∧ ∀ j y, j < k → l[j]? = some y → y ≠ 0))
  case atStart => exact ⟨0, rfl, rfl, ⟨by omega, fun j y h => by omega⟩⟩
  case round =>
    obtain ⟨k, rfl, rfl, hI⟩ := hrel
    obtain ⟨hkg, hp⟩ := hI.out
    have a0 := A.out
    by_cases hk : k < L
    · have t1 : ((k : Int) < (L : Int)) = True := eq_true (by omega)
      have t2 : (k < L) = True := eq_true hk
      have hkb : (k : Int) < 1000000000001 := by omega
      obtain ⟨x, hx⟩ : ∃ x, l[k]? = some x := ⟨_, List.getElem?_eq_getElem (by omega)⟩
      obtain ⟨b, o, hab, hc⟩ : ∃ b o, a = some ⟨b, o, none⟩ ∧ ∀ (i y : Nat), l[i]? = some y → wr.cell? ⟨b, o + i, none⟩ = some (.int .u8 (y : Int)) := by
        rcases a0.2.2.2.2 with q | q
        · rw [q] at hx; simp at hx
        · exact q
      subst hab
      have hcx := hc k x hx
      by_cases h0 : x = 0
      · subst h0
        have t3 : (((0 : Nat) : Int) == 0) = true := rfl
        have hsl := slice_t b o L C k (by omega) a0.2.2.1 (by omega)
        have hcv := conv_st k C (by rw [List.length_take]; omega) (a0.2.2.2.1.take k) (lies_take a0.2.2.2.2 k)
        have e : st (l.take k) = ans := by rw [← AA.out, ttx_at hx hp]
        rw [e] at hcv
        clear hI hkg hp a0 hk hx hc e
        go_wp2_with fail
        first | go_ret | go_ret2
        exact ⟨rfl, rfl⟩
      · have t3 : ((x : Int) == 0) = false := by rw [beq_eq_false_iff_ne]; omega
        have AG : Aside (k + gk = L ∧ k < L ∧ ∀ j y, j < k + 1 → l[j]? = some y → y ≠ 0) := by
          refine ⟨hkg, hk, fun j y hj hy => ?_⟩
          by_cases e : j = k
          · rw [e, hx] at hy; cases hy; exact h0
          · exact hp j y (by omega) hy
        clear hI hkg hp a0 hk hx hc h0
        go_wp2_with fail
        have ag := AG.out
        go_roundg (gk - 1)
        case measure => omega
        case rel => exact ⟨k + 1, by go_num, rfl, ⟨by omega, ag.2.2⟩⟩
    · have t1 : ((k : Int) < (L : Int)) = False := eq_false (by omega)
      have t2 : (k < L) = False := eq_false hk
      have hcv := conv_st L C a0.1 a0.2.2.2.1 a0.2.2.2.2
      have e : st l = ans := by rw [← AA.out, ttx_none fun j y hj hy => hp j y (by omega) hy]
      rw [e] at hcv
      clear hI hkg hp a0 hk e
      go_wp2_with fail
      first | go_ret | go_ret2
      exact ⟨rfl, rfl⟩
/-- What decimal answers. -/
def dv (l : List Nat) : Nat := (tdec l).getD 0
def dok (l : List Nat) : Bool := (tdec l).isSome
theorem tdc_step (v : Nat) (x : Nat) (r : List Nat) : tdc v (x :: r) = if isd x = false then none else if 9223372036854775807 < 10 * v + (x - 48) then none else tdc (10 * v + (x - 48)) r := rfl
theorem tdec_eq {l : List Nat} (h : l ≠ []) : tdec l = tdc 0 l := by unfold tdec; rw [if_neg h]
set_option maxHeartbeats 1000000 in
theorem decimal_c (w : World) (l : List Nat) (ho : Oct l) (hl : l.length ≤ 1000000000000) : Calls Tryz.prog 49 #[.string (st l)] w fun e w' => e = .returned (.tuple #[.int .u64 (dv l : Int), .bool (dok l)]) ∧ w = w' := by
  obtain ⟨s, hs⟩ : ∃ s, s = st l := ⟨_, rfl⟩
  obtain ⟨L, hL⟩ : ∃ L, l.length = L := ⟨_, rfl⟩
  have z1 : s.size = L := by rw [hs, st_size, hL]
  rw [← hs]
  have A : Aside (s = st l ∧ l.length = L ∧ L ≤ 1000000000000 ∧ Oct l) := ⟨hs, hL, by omega, ho⟩
  obtain ⟨V, hV⟩ : ∃ V, dv l = V := ⟨_, rfl⟩
  obtain ⟨K, hK⟩ : ∃ K, dok l = K := ⟨_, rfl⟩
  rw [hV, hK]
  have AV : Aside (dv l = V ∧ dok l = K) := ⟨hV, hK⟩
  clear hs hL hl ho hV hK
  go_enter Tryz.func49, Tryz.ntmps49
  go_wp2_with fail
  go_loopg [4, 5] L (fun gg s4 s5 wr => ∃ (k v : Nat), s4 = .int .u64 (v : Int) ∧ s5 = .int .i64 (k : Int) ∧ wr = w ∧ Aside (k + gg = L ∧ v < 9223372036854775808 ∧ tdc 0 l = tdc v (l.drop k)))
  case atStart => exact ⟨0, 0, by go_num, rfl, rfl, ⟨by omega, by decide, by rw [List.drop_zero]⟩⟩
  case round =>
    obtain ⟨k, v, rfl, rfl, rfl, hI⟩ := hrel
    obtain ⟨hkg, hv, ht⟩ := hI.out
    have a0 := A.out
    by_cases hk : k < L
    · have t1 : ((k : Int) < (L : Int)) = True := eq_true (by omega)
      have t2 : (k < L) = True := eq_true hk
      have hkb : (k : Int) < 1000000000001 := by omega
      obtain ⟨x, hx⟩ : ∃ x, l[k]? = some x := ⟨_, List.getElem?_eq_getElem (by omega)⟩
      have hx0 : ∀ h : k < s.size, (s[k]'h).toNat = x := by rw [a0.1]; exact fun h => st_get a0.2.2.2 hx h
      have hxo := a0.2.2.2 x (List.mem_of_getElem? hx)
      have hne : l ≠ [] := by intro e; rw [e] at hx; simp at hx
      have av := AV.out
      rw [drop_more hx, tdc_step] at ht
      have bad : tdc 0 l = none → V = 0 ∧ K = false := fun h => by
        rw [← av.1, ← av.2]
        unfold dv dok
        rw [tdec_eq hne, h]
        exact ⟨rfl, rfl⟩
      by_cases h48 : x < 48
      · have t3 : ((x : Int) < 48) = True := eq_true (by omega)
        have t4 : (x < 48) = True := eq_true h48
        obtain ⟨rfl, rfl⟩ := bad (by rw [ht, if_pos (isd_false.2 (by omega))])
        clear hI hkg hv ht a0 hk hx hne bad av AV h48 hxo
        go_wp2_with fail
        first | go_ret | go_ret2
        exact ⟨rfl, rfl⟩
      have t3 : ((x : Int) < 48) = False := eq_false (by omega)
      have t4 : (x < 48) = False := eq_false h48
      by_cases h57 : 57 < x
      · have t5 : ((57 : Int) < (x : Int)) = True := eq_true (by omega)
        have t6 : (57 < x) = True := eq_true h57
        obtain ⟨rfl, rfl⟩ := bad (by rw [ht, if_pos (isd_false.2 (by omega))])
        clear hI hkg hv ht a0 hk hx hne bad av AV h48 h57 hxo
        go_wp2_with fail
        first | go_ret | go_ret2
        exact ⟨rfl, rfl⟩
      have t5 : ((57 : Int) < (x : Int)) = False := eq_false (by omega)
      have t6 : (57 < x) = False := eq_false h57
      rw [if_neg (by rw [isd_true.2 (by omega)]; simp)] at ht
      obtain ⟨d, hd⟩ : ∃ d : Nat, x = d + 48 := ⟨x - 48, by omega⟩
      have e1 : IntKind.u8.wrap ((x : Int) - 48) = (d : Int) := by rw [IntKind.wrap_u8]; omega
      have bd : (d : Int) < 10 := by omega
      obtain ⟨q, hq⟩ : ∃ q : Nat, (9223372036854775807 - d) / 10 = q := ⟨_, rfl⟩
      have e2 : IntKind.u64.wrap (9223372036854775807 - (d : Int)) = 9223372036854775807 - (d : Int) := by rw [tw_u64]; omega
      have e3 : Int.tdiv (9223372036854775807 - (d : Int)) 10 = (q : Int) := by rw [Int.tdiv_eq_ediv_of_nonneg (by omega)]; omega
      have e4 : (9223372036854775807 - (d : Int)) / 10 = (q : Int) := by omega
      have e9 : IntKind.u64.wrap ((q : Int)) = (q : Int) := by rw [tw_u64]; omega
      by_cases hbig : q < v
      · have t7 : ((q : Int) < (v : Int)) = True := eq_true (by omega)
        have t8 : (q < v) = True := eq_true hbig
        obtain ⟨rfl, rfl⟩ := bad (by rw [ht, if_pos (by omega)])
        clear hI hkg hv ht a0 hk hx hne bad av AV h48 h57 hxo hd hq hbig
        go_wp2_with fail
        first | go_ret | go_ret2
        exact ⟨rfl, rfl⟩
      · have t7 : ((q : Int) < (v : Int)) = False := eq_false (by omega)
        have t8 : (q < v) = False := eq_false hbig
        have e5 : IntKind.u64.wrap (10 * (v : Int)) = ((10 * v : Nat) : Int) := by rw [tw_u64]; omega
        have e6 : IntKind.u64.wrap (((10 * v : Nat) : Int) + (d : Int)) = ((10 * v + d : Nat) : Int) := by rw [tw_u64]; omega
        obtain ⟨v10, hv10⟩ : ∃ v10, 10 * v = v10 := ⟨_, rfl⟩
        obtain ⟨v11, hv11⟩ : ∃ v11, v10 + d = v11 := ⟨_, rfl⟩
        rw [hv10] at e5 e6
        rw [hv11] at e6
        rw [if_neg (by omega), show x - 48 = d by omega, hv10, hv11] at ht
        have AG : Aside (k + gk = L ∧ k < L ∧ v11 < 9223372036854775808 ∧ tdc 0 l = tdc v11 (l.drop (k + 1))) := ⟨hkg, hk, by omega, ht⟩
        clear hI hkg hv ht a0 hk hx hne bad av h48 h57 hxo hd hq hbig hv10 hv11
        go_wp2_with fail
        have ag := AG.out
        go_roundg (gk - 1)
        case measure => omega
        case rel => exact ⟨k + 1, v11, by go_num, by go_num, rfl, ⟨by omega, ag.2.2.1, ag.2.2.2⟩⟩
    · have t1 : ((k : Int) < (L : Int)) = False := eq_false (by omega)
      have t2 : (k < L) = False := eq_false hk
      have av := AV.out
      obtain ⟨tb, htb⟩ : ∃ tb, decide (0 < L) = tb := ⟨_, rfl⟩
      have t3 : decide ((0 : Int) < (L : Int)) = tb := by rw [← htb]; exact decide_eq_decide.2 (by omega)
      have hVv : V = v ∧ K = tb := by
        rw [List.drop_eq_nil_of_le (by omega)] at ht
        by_cases hne : l = []
        · rw [hne] at ht av
          have hL0 : L = 0 := by rw [← a0.2.1, hne]; rfl
          have hv0 : tdc 0 [] = some 0 := rfl
          have : tdc v [] = some v := rfl
          rw [hv0, this] at ht
          cases ht
          rw [← av.1, ← av.2, ← htb, hL0]
          exact ⟨rfl, rfl⟩
        · have hL0 : 0 < L := by rw [← a0.2.1]; exact List.length_pos_iff.2 hne
          rw [← av.1, ← av.2, ← htb]
          unfold dv dok
          rw [tdec_eq hne, ht]
          exact ⟨rfl, (decide_eq_true hL0).symm⟩
      obtain ⟨rfl, rfl⟩ := hVv
      have AB : Aside (decide (0 < L) = K) := htb
      clear hI hkg hv ht a0 hk av AV htb t3
      go_wp2_with fail
      first | go_ret | go_ret2
      rw [← AB.out]
      exact ⟨rfl, rfl⟩
end Go.Proofs.YtcmmjbkgoafbnaaGreatDoor

/-
  What the document's record comes to.
-/
namespace Go.Proofs.YtcmmjbkgoafbnaaGreatDoor
open Go.RowKit
set_option linter.unusedVariables false
/-- The first record: key, value, how many bytes; nothing and 0, if it is none. -/
def rcd (b : List Nat) : List Nat × List Nat × Nat := (trc b).getD ([], [], 0)
theorem num_ge : ∀ (m : List Nat) (v : Nat), v ≤ num v m
  | [], v => Nat.le_refl _
  | x :: r, v => by
    show v ≤ num (10 * v + (x - 48)) r
    have := num_ge r (10 * v + (x - 48))
    omega
theorem tdc_num : ∀ (m : List Nat) (v : Nat), (∀ x ∈ m, isd x = true) → num v m < 9223372036854775808 → tdc v m = some (num v m)
  | [], v, _, _ => rfl
  | x :: r, v, h, hb => by
    have hx := h x (by simp)
    have hn : num v (x :: r) = num (10 * v + (x - 48)) r := rfl
    rw [hn] at hb ⊢
    have := num_ge r (10 * v + (x - 48))
    rw [tdc_step, if_neg (by rw [hx]; simp), if_neg (by omega)]
    exact tdc_num r _ (fun y hy => h y (List.mem_cons_of_mem _ hy)) hb
theorem dg_dec {b : List Nat} {d : Nat} (h : Dg b d) (h5 : d ≤ 5) (h0 : d ≠ 0) : dv (b.take d) = num 0 (b.take d) ∧ dok (b.take d) = true := by
  have hb := h.bound
  have hp : 10 ^ d ≤ 10 ^ 5 := Nat.pow_le_pow_right (by decide) h5
  have hne : b.take d ≠ [] := by
    intro e
    have := congrArg List.length e
    rw [List.length_take, List.length_nil] at this
    have := h.1
    omega
  have ht : tdec (b.take d) = some (num 0 (b.take d)) := by
    rw [tdec_eq hne]
    refine tdc_num _ _ (fun x hx => ?_) (by omega)
    obtain ⟨i, hi, rfl⟩ := List.getElem_of_mem hx
    rw [List.length_take] at hi
    exact h.2 i _ (by omega) (by rw [List.getElem_take]; exact List.getElem?_eq_getElem (by omega))
  unfold dv dok
  rw [ht]
  exact ⟨rfl, rfl⟩
theorem rcd_none {b : List Nat} (h : tcut b = none) : rcd b = ([], [], 0) := by unfold rcd; rw [trc_cut h]; rfl
theorem tcut_five {b : List Nat} (h : Dg b 5) : tcut b = none := by
  have := h.le
  unfold tcut
  simp only
  rw [if_pos (Or.inr (Or.inl (by omega)))]
theorem rcd_no {b x : List Nat} {n : Nat} (h : tcut b = some (x, n)) (h2 : 61 ∉ x) : rcd b = ([], [], 0) := by
  unfold rcd
  rw [trc_of h, teq_none h2]
  rfl
theorem rcd_yes {b x : List Nat} {n i : Nat} (h : tcut b = some (x, n)) (h1 : x[i]? = some 61) (hp : ∀ j y, j < i → x[j]? = some y → y ≠ 61) : rcd b = (x.take i, x.drop (i + 1), n) := by
  unfold rcd
  rw [trc_of h, teq_at h1 hp]
  rfl
theorem slice_feu (b o L C f e : Nat) (h1 : f ≤ e) (h2 : e ≤ C) (h3 : f ≠ C) (he : e < 1000000000000) (W : World) : (Instr.slice 22 (.slice (some ⟨b, o, none⟩) L C) (some (.int .i64 (f : Int))) (some (.int .u64 (e : Int))) none).run Tryz.prog W = .ok (.slice (some ⟨b, o + f, none⟩) (e - f) (C - f)) W := by
  have hk1 : (f : Int) ≤ (e : Int) := by omega
  have hk2 : (e : Int) ≤ (C : Int) := by omega
  have hk0 : (0 : Int) ≤ (f : Int) := by omega
  have hk3 : (0 : Int) ≤ (e : Int) := by omega
  have hk4 : (e : Int) < 1000000000000 := by omega
  have hCk : ¬ C = f := by omega
  have hCk2 : ¬ (C : Int) = (f : Int) := by omega
  clear h1 h2 h3 he
  go_simp
/-- What record answers. -/
structure Rd (b : List Nat) (w : World) (e : Ending) (w' : World) : Prop where
  ex : ∃ m, e = .returned (.tuple #[.string (st (rcd b).1), .string (st (rcd b).2.1), .int .i64 ((rcd b).2.2 : Int)]) ∧ w' = w.drewN m
theorem Rd.no {b : List Nat} {w : World} (h : rcd b = ([], [], 0)) : Rd b w (.returned (.tuple #[.string ⟨#[]⟩, .string ⟨#[]⟩, .int .i64 0])) w := ⟨0, by rw [h]; rfl, rfl⟩
set_option maxRecDepth 20000 in
set_option maxHeartbeats 4000000 in
theorem record_c (w : World) (b o : Nat) (l : List Nat) (L C : Nat) (hL : l.length = L) (hLb : L ≤ 1000000) (hLC : L ≤ C) (h0 : 0 < L) (ho : Oct l) (hc : ∀ (i x : Nat), l[i]? = some x → w.cell? ⟨b, o + i, none⟩ = some (.int .u8 (x : Int))) : Calls Tryz.prog 48 #[.slice (some ⟨b, o, none⟩) L C] w fun e w' => Rd l w e w' := by
  have A : Aside (l.length = L ∧ L ≤ 1000000 ∧ L ≤ C ∧ 0 < L ∧ Oct l ∧ (∀ (i x : Nat), l[i]? = some x → w.cell? ⟨b, o + i, none⟩ = some (.int .u8 (x : Int)))) := ⟨hL, hLb, hLC, h0, ho, hc⟩
  have AL : Aside (Lies w (some ⟨b, o, none⟩) l) := Or.inr ⟨b, o, rfl, hc⟩
  clear hL hLb hLC h0 ho hc
  go_enter Tryz.func48, Tryz.ntmps48
  go_upto_block 0 with fail
  go_cut [5] (fun s5 wx => ∃ d : Nat, s5 = .int .i64 (d : Int) ∧ wx = w ∧ Aside (Dg l d ∧ d ≤ 5 ∧ (d = 5 ∨ d = l.length ∨ ∃ x, l[d]? = some x ∧ isd x = false)))
  case first =>
    go_wp2_with fail
    go_loopg [5] 6 (fun gg s5 wr => ∃ d : Nat, s5 = .int .i64 (d : Int) ∧ wr = w ∧ Aside (d + gg = 6 ∧ d ≤ 5 ∧ Dg l d))
    case atStart => exact ⟨0, rfl, rfl, ⟨rfl, by decide, dg_zero l⟩⟩
    case round =>
      obtain ⟨d, rfl, rfl, AR⟩ := hrel
      have a0 := A.out
      have r0 := AR.out
      by_cases hdL : d < L
      · have t1 : ((d : Int) < (L : Int)) = True := eq_true (by omega)
        have t2 : (d < L) = True := eq_true hdL
        obtain ⟨x, hx⟩ : ∃ x, l[d]? = some x := ⟨_, List.getElem?_eq_getElem (by omega)⟩
        have hcell := a0.2.2.2.2.2 d x hx
        have hxo := a0.2.2.2.2.1 x (List.mem_of_getElem? hx)
        by_cases h5 : d < 5
        · have t3 : ((d : Int) < 5) = True := eq_true (by omega)
          have t4 : (d < 5) = True := eq_true h5
          have e6 : (d : Int) < 10 := by omega
          by_cases h1 : 48 ≤ x
          · have e1 : ((48 : Int) ≤ (x : Int)) = True := eq_true (by omega)
            have e1n : (48 ≤ x) = True := eq_true h1
            by_cases h2 : x ≤ 57
            · have e2 : ((x : Int) ≤ 57) = True := eq_true (by omega)
              have e2n : (x ≤ 57) = True := eq_true h2
              have AG : Aside (Dg l (d + 1) ∧ d < 5 ∧ d + gk = 6) := ⟨r0.2.2.more hx (isd_true.2 ⟨h1, h2⟩), h5, r0.1⟩
              clear hx hxo h1 h2 a0 r0 AR hdL h5
              go_wp2_with fail
              have ag := AG.out
              go_roundg (gk - 1)
              case measure => omega
              case rel => exact ⟨d + 1, by go_num, rfl, ⟨by omega, by omega, ag.1⟩⟩
            · have e2 : ((x : Int) ≤ 57) = False := eq_false (by omega)
              have e2n : (x ≤ 57) = False := eq_false h2
              have AG : Aside (Dg l d ∧ d ≤ 5 ∧ (d = 5 ∨ d = l.length ∨ ∃ x, l[d]? = some x ∧ isd x = false)) := ⟨r0.2.2, by omega, Or.inr (Or.inr ⟨x, hx, isd_false.2 (by omega)⟩)⟩
              clear hx hxo h1 h2 a0 r0 AR hdL h5
              go_wp2_with fail
              go_meet
              exact ⟨d, rfl, rfl, AG⟩
          · have e1 : ((48 : Int) ≤ (x : Int)) = False := eq_false (by omega)
            have e1n : (48 ≤ x) = False := eq_false h1
            have AG : Aside (Dg l d ∧ d ≤ 5 ∧ (d = 5 ∨ d = l.length ∨ ∃ x, l[d]? = some x ∧ isd x = false)) := ⟨r0.2.2, by omega, Or.inr (Or.inr ⟨x, hx, isd_false.2 (by omega)⟩)⟩
            clear hx hxo h1 a0 r0 AR hdL h5
            go_wp2_with fail
            go_meet
            exact ⟨d, rfl, rfl, AG⟩
        · have t3 : ((d : Int) < 5) = False := eq_false (by omega)
          have t4 : (d < 5) = False := eq_false h5
          have AG : Aside (Dg l d ∧ d ≤ 5 ∧ (d = 5 ∨ d = l.length ∨ ∃ x, l[d]? = some x ∧ isd x = false)) := ⟨r0.2.2, by omega, Or.inl (by omega)⟩
          clear hx hxo hcell a0 r0 AR hdL h5
          go_wp2_with fail
          go_meet
          exact ⟨d, rfl, rfl, AG⟩
      · have t1 : ((d : Int) < (L : Int)) = False := eq_false (by omega)
        have t2 : (d < L) = False := eq_false hdL
        have AG : Aside (Dg l d ∧ d ≤ 5 ∧ (d = 5 ∨ d = l.length ∨ ∃ x, l[d]? = some x ∧ isd x = false)) := ⟨r0.2.2, by omega, Or.inr (Or.inl (by have := r0.2.2.1; omega))⟩
        clear a0 r0 AR hdL
        go_wp2_with fail
        go_meet
        exact ⟨d, rfl, rfl, AG⟩
  case rest =>
  obtain ⟨d, rfl, rfl, AD⟩ := hcut
  obtain ⟨hdg, hd5, hds⟩ := AD.out
  have a0 := A.out
  have hdl := hdg.1
  have hsl := slice_t b o L C d (by omega) a0.2.2.1 (by omega)
  have hcv := conv_st d C (by rw [List.length_take]; omega) (a0.2.2.2.2.1.take d) (lies_take AL.out d)
  have hde := decimal_c wc (l.take d) (a0.2.2.2.2.1.take d) (by rw [List.length_take]; omega)
  obtain ⟨sd, hsd⟩ : ∃ sd, st (l.take d) = sd := ⟨_, rfl⟩
  rw [hsd] at hcv hde
  have bd : (d : Int) ≤ 5 := by omega
  have bL : (L : Int) ≤ 1000000 := by omega
  by_cases hd0 : d = 0
  · have e1 : dok (l.take d) = false := by rw [hd0]; rfl
    rw [e1] at hde
    have hno : rcd l = ([], [], 0) := rcd_none (by
      rw [tcut_eq hdg (by omega) (by rcases hds with q | q | q; exact absurd q (by omega); exact Or.inr (Or.inl q); exact Or.inr (Or.inr q)), if_pos (Or.inl ?_)]
      rw [hd0, List.take_zero]
      show 0 < 0 + 2
      decide)
    have AN : Aside (rcd l = ([], [], 0)) := hno
    obtain ⟨V, hV⟩ : ∃ V, dv (l.take d) = V := ⟨_, rfl⟩
    rw [hV] at hde
    clear hno hdg hds a0 hdl e1 hsd AD hd0 hV
    go_wp2_with (go_at_call 49; refine hde.mono ?_; rintro e4 w4 ⟨rfl, rfl⟩)
    first | go_ret | go_ret2 | go_ret3
    exact Rd.no AN.out
  obtain ⟨e1, e2⟩ := dg_dec hdg hd5 hd0
  obtain ⟨n, hn⟩ : ∃ n, num 0 (l.take d) = n := ⟨_, rfl⟩
  rw [hn] at e1
  have hnb : n < 100000 := by
    have := hdg.bound
    have : 10 ^ d ≤ 10 ^ 5 := Nat.pow_le_pow_right (by decide) hd5
    omega
  rw [e1, e2] at hde
  have bn : (n : Int) < 100000 := by omega
  by_cases hd4 : d = 5
  · have hno : rcd l = ([], [], 0) := rcd_none (tcut_five (by rw [← hd4]; exact hdg))
    have AN : Aside (rcd l = ([], [], 0)) := hno
    have t1 : ((4 : Int) < (d : Int)) = True := eq_true (by omega)
    have t2 : (4 < d) = True := eq_true (by omega)
    clear hno hdg hds a0 hdl e1 e2 hsd AD hd0 hn hnb hd4
    go_wp2_with (go_at_call 49; refine hde.mono ?_; rintro e4 w4 ⟨rfl, rfl⟩)
    first | go_ret | go_ret2 | go_ret3
    exact Rd.no AN.out
  have t1 : ((4 : Int) < (d : Int)) = False := eq_false (by omega)
  have t2 : (4 < d) = False := eq_false (by omega)
  have hcut := tcut_eq hdg (by omega) (by rcases hds with q | q | q; exact absurd q hd4; exact Or.inr (Or.inl q); exact Or.inr (Or.inr q))
  rw [hn] at hcut
  by_cases hnL : L < n
  · have t3 : ((L : Int) < (n : Int)) = True := eq_true (by omega)
    have t4 : (L < n) = True := eq_true hnL
    have AN : Aside (rcd l = ([], [], 0)) := rcd_none (by rw [hcut, if_pos (Or.inr (Or.inl (by omega)))])
    clear hdg hds a0 hdl e1 e2 hsd AD hd0 hn hnb hd4 hcut hnL
    go_wp2_with (go_at_call 49; refine hde.mono ?_; rintro e4 w4 ⟨rfl, rfl⟩)
    first | go_ret | go_ret2 | go_ret3
    exact Rd.no AN.out
  have t3 : ((L : Int) < (n : Int)) = False := eq_false (by omega)
  have t4 : (L < n) = False := eq_false hnL
  by_cases hnd : n < d + 2
  · have t5 : ((n : Int) < (d : Int) + 2) = True := eq_true (by omega)
    have t6 : (n < d + 2) = True := eq_true hnd
    have AN : Aside (rcd l = ([], [], 0)) := rcd_none (by rw [hcut, if_pos (Or.inl hnd)])
    clear hdg hds a0 hdl e1 e2 hsd AD hd0 hn hnb hd4 hcut hnL hnd
    go_wp2_with (go_at_call 49; refine hde.mono ?_; rintro e4 w4 ⟨rfl, rfl⟩)
    first | go_ret | go_ret2 | go_ret3
    exact Rd.no AN.out
  have t5 : ((n : Int) < (d : Int) + 2) = False := eq_false (by omega)
  have t6 : (n < d + 2) = False := eq_false hnd
  obtain ⟨x, hx⟩ : ∃ x, l[d]? = some x := ⟨_, List.getElem?_eq_getElem (by omega)⟩
  have hcx := a0.2.2.2.2.2 d x hx
  have hxo := a0.2.2.2.2.1 x (List.mem_of_getElem? hx)
  have bdL : (d : Int) < (L : Int) := by omega
  have bdLn : d < L := by omega
  by_cases h32 : x = 32
  rotate_left
  · have t7 : ((x : Int) != 32) = true := by rw [bne_iff_ne]; omega
    have AN : Aside (rcd l = ([], [], 0)) := rcd_none (by rw [hcut, if_pos (Or.inr (Or.inr (Or.inl (by rw [hx]; intro e; cases e; exact h32 rfl))))])
    clear hdg hds a0 hdl e1 e2 hsd AD hd0 hn hnb hd4 hcut hnL hnd hx hxo h32
    go_wp2_with (go_at_call 49; refine hde.mono ?_; rintro e4 w4 ⟨rfl, rfl⟩)
    first | go_ret | go_ret2 | go_ret3
    exact Rd.no AN.out
  have t7 : ((x : Int) != 32) = false := by rw [h32]; rfl
  obtain ⟨p, hp⟩ : ∃ p, n = p + 1 := ⟨n - 1, by omega⟩
  obtain ⟨y, hy⟩ : ∃ y, l[p]? = some y := ⟨_, List.getElem?_eq_getElem (by omega)⟩
  have hcy := a0.2.2.2.2.2 p y hy
  have e3 : IntKind.u64.wrap ((n : Int) - 1) = (p : Int) := by rw [tw_u64]; omega
  have e3' : (n : Int) - 1 = (p : Int) := by omega
  have bp : (p : Int) < (L : Int) := by omega
  have bpn : p < L := by omega
  have hyo := a0.2.2.2.2.1 y (List.mem_of_getElem? hy)
  by_cases h10 : y = 10
  rotate_left
  · have t8 : ((y : Int) != 10) = true := by rw [bne_iff_ne]; omega
    have AN : Aside (rcd l = ([], [], 0)) := rcd_none (by rw [hcut, if_pos (Or.inr (Or.inr (Or.inr (by rw [hp, Nat.add_sub_cancel, hy]; intro e; cases e; exact h10 rfl))))])
    clear hdg hds a0 hdl e1 e2 hsd AD hd0 hn hnb hd4 hcut hnL hnd hx hxo h32 hp hy hyo h10
    go_wp2_with (go_at_call 49; refine hde.mono ?_; rintro e4 w4 ⟨rfl, rfl⟩)
    first | go_ret | go_ret2 | go_ret3
    exact Rd.no AN.out
  have t8 : ((y : Int) != 10) = false := by rw [h10]; rfl
  rw [if_neg (by
    rintro (q | q | q | q)
    · omega
    · omega
    · exact q (by rw [hx, h32])
    · exact q (by rw [hp, Nat.add_sub_cancel, hy, h10])), hp, Nat.add_sub_cancel] at hcut
  obtain ⟨f1, hf1⟩ : ∃ f1, d + 1 = f1 := ⟨_, rfl⟩
  obtain ⟨m, hm⟩ : ∃ m, p - f1 = m := ⟨_, rfl⟩
  obtain ⟨Cx, hCx⟩ : ∃ Cx, C - f1 = Cx := ⟨_, rfl⟩
  obtain ⟨xs, hxs⟩ : ∃ xs, (l.take p).drop f1 = xs := ⟨_, rfl⟩
  have hxl : xs.length = m := by rw [← hxs, List.length_drop, List.length_take]; omega
  have hx2 := slice_feu b o L C f1 p (by omega) (by omega) (by omega) (by omega)
  rw [hm, hCx] at hx2
  have e4 : (d : Int) + 1 = (f1 : Int) := by omega
  obtain ⟨o2, ho2⟩ : ∃ o2, o + f1 = o2 := ⟨_, rfl⟩
  rw [ho2] at hx2
  have hxc : ∀ (i z : Nat), xs[i]? = some z → wc.cell? ⟨b, o2 + i, none⟩ = some (.int .u8 (z : Int)) := fun i z hz => by
    rw [← hxs, List.getElem?_drop, List.getElem?_take] at hz
    split at hz
    · rw [← ho2, Nat.add_assoc]; exact a0.2.2.2.2.2 _ _ hz
    · simp at hz
  have AX : Aside (xs.length = m ∧ (∀ (i z : Nat), xs[i]? = some z → wc.cell? ⟨b, o2 + i, none⟩ = some (.int .u8 (z : Int))) ∧ Oct xs ∧ tcut l = some (xs, p + 1) ∧ m ≤ 1000000 ∧ m < Cx ∧ n = p + 1) := by
    refine ⟨hxl, hxc, by rw [← hxs]; exact ((a0.2.2.2.2.1.take p).drop _), by rw [hcut, hf1, hxs], by omega, by omega, hp⟩
  clear hdg hds a0 hdl e1 e2 hsd AD hd0 hn hnb hd4 hcut hnL hnd hx hxo h32 hp hy hyo h10 hm hCx hxs hxl hxc hf1 ho2
  go_upto_block 2 with (go_at_call 49; refine hde.mono ?_; rintro e4 w4 ⟨rfl, rfl⟩)
  clear hsl hcv hde hcx hcy e3 e3' e4 hx2 t1 t2 t3 t4 t5 t6 t7 t8 bdL bdLn bp bpn bL
  go_wp2_with fail
  go_loopg [9] m (fun gg s9 wr => ∃ i : Nat, s9 = .int .i64 (i : Int) ∧ wr = wc ∧ Aside (i + gg = m ∧ ∀ j y, j < i → xs[j]? = some y → y ≠ 61))
  case atStart => exact ⟨0, rfl, rfl, ⟨by omega, fun j y h => by omega⟩⟩
  case round =>
    obtain ⟨i, rfl, rfl, hI⟩ := hrel
    obtain ⟨hig, hpr⟩ := hI.out
    have ax := AX.out
    by_cases him : i < m
    · have t1 : ((i : Int) < (m : Int)) = True := eq_true (by omega)
      have t2 : (i < m) = True := eq_true him
      have bi : (i : Int) < 1000000 := by omega
      obtain ⟨z, hz⟩ : ∃ z, xs[i]? = some z := ⟨_, List.getElem?_eq_getElem (by omega)⟩
      have hcz := ax.2.1 i z hz
      by_cases h61 : z = 61
      · subst h61
        have t3 : (((61 : Nat) : Int) == 61) = true := rfl
        have hrc := rcd_yes ax.2.2.2.1 hz hpr
        have li : Lies wr (some ⟨b, o2, none⟩) xs := Or.inr ⟨b, o2, rfl, ax.2.1⟩
        obtain ⟨i1, hi1⟩ : ∃ i1, i + 1 = i1 := ⟨_, rfl⟩
        have e1 : (i : Int) + 1 = (i1 : Int) := by omega
        have e2 : IntKind.i64.wrap (i1 : Int) = (i1 : Int) := IntWalk.i64_in _ ⟨by omega, by omega⟩
        have hsa := slice_t b o2 m Cx i (by omega) (by omega) (by omega)
        have hsb := slice_f b o2 m Cx i1 (by omega) (by omega) (by omega)
        have ca := fun j => conv_st (w := wr.drewN j) i Cx (by rw [List.length_take]; omega) (ax.2.2.1.take i) ((lies_take li i).drewN j)
        have lib : Lies wr (some ⟨b, o2 + i1, none⟩) (xs.drop i1) := Or.inr ⟨b, o2 + i1, rfl, fun j y hy => by
          rw [List.getElem?_drop] at hy
          rw [Nat.add_assoc]
          exact ax.2.1 _ _ hy⟩
        have cb := fun j => conv_st (w := wr.drewN j) (m - i1) (Cx - i1) (by rw [List.length_drop]; omega) (ax.2.2.1.drop i1) (lib.drewN j)
        obtain ⟨sa, hsa2⟩ : ∃ sa, st (xs.take i) = sa := ⟨_, rfl⟩
        obtain ⟨sb, hsb2⟩ : ∃ sb, st (xs.drop i1) = sb := ⟨_, rfl⟩
        rw [hsa2] at ca
        rw [hsb2] at cb
        have AR : Aside (rcd l = (xs.take i, xs.drop i1, n) ∧ st (xs.take i) = sa ∧ st (xs.drop i1) = sb) := ⟨by rw [hrc, hi1, ax.2.2.2.2.2.2], hsa2, hsb2⟩
        clear hI hig hpr ax him hz hrc li lib hi1 hsa2 hsb2
        go_upto_region 12 with fail
        clear hcz t3 t1 t2
        go_quiet (fail)
        go_wp2_with fail
        first | go_ret | go_ret2 | go_ret3
        have ar := AR.out
        refine ⟨_, ?_, rfl⟩
        rw [ar.1]
        simp only [ar.2.1, ar.2.2]
        rfl
      · have t3 : ((z : Int) == 61) = false := by rw [beq_eq_false_iff_ne]; omega
        have AG : Aside (i + gk = m ∧ i < m ∧ ∀ j y, j < i + 1 → xs[j]? = some y → y ≠ 61) := by
          refine ⟨hig, him, fun j y hj hy => ?_⟩
          by_cases e : j = i
          · rw [e, hz] at hy; cases hy; exact h61
          · exact hpr j y (by omega) hy
        clear hI hig hpr ax him hz h61
        go_wp2_with fail
        have ag := AG.out
        go_roundg (gk - 1)
        case measure => omega
        case rel => exact ⟨i + 1, by go_num, rfl, ⟨by omega, ag.2.2⟩⟩
    · have t1 : ((i : Int) < (m : Int)) = False := eq_false (by omega)
      have t2 : (i < m) = False := eq_false him
      have AN : Aside (rcd l = ([], [], 0)) := rcd_no ax.2.2.2.1 (fun hm => by
        obtain ⟨j, hj, he⟩ := List.getElem_of_mem hm
        exact hpr j 61 (by omega) (by rw [List.getElem?_eq_getElem hj, he]) rfl)
      clear hI hig hpr ax him
      go_wp2_with fail
      first | go_ret | go_ret2 | go_ret3
      exact Rd.no AN.out
end Go.Proofs.YtcmmjbkgoafbnaaGreatDoor

/-
  What the document's records come to.
-/
namespace Go.Proofs.YtcmmjbkgoafbnaaGreatDoor
open Go.RowKit
set_option linter.unusedVariables false
section
variable {w : World} {lo R : Nat} {r : Dr} {v : Value}
theorem Dm.name (h : Dm w lo R r v) (m : List Nat) (s : ByteArray) (hs : st m = s) : Dm ((w.setCell ⟨R, 3, none⟩ (.string s)).setCell ⟨R, 4, none⟩ (.bool true)) lo R { r with nm := m, nd := true } v ∧ Only R w ((w.setCell ⟨R, 3, none⟩ (.string s)).setCell ⟨R, 4, none⟩ (.bool true)) ∧ (w.setCell ⟨R, 3, none⟩ (.string s)).cell? ⟨R, 4, none⟩ = some (.bool r.nd) ∧ (w.setCell ⟨R, 3, none⟩ (.string s)).frozen? ⟨R, 4, none⟩ = false := by
  have o : Only R w ((w.setCell ⟨R, 3, none⟩ (.string s)).setCell ⟨R, 4, none⟩ (.bool true)) := ((Only.refl R w).setCell 3 _).setCell 4 _
  have k := h.cells.set 3 (.string s)
  subst hs
  exact ⟨h.only o rfl (k.set 4 (.bool true)), o, (k.cell 4).trans rfl, k.frozen 4⟩
theorem Dm.sized (h : Dm w lo R r v) (z : Nat) : Dm ((w.setCell ⟨R, 5, none⟩ (.int .u64 (z : Int))).setCell ⟨R, 6, none⟩ (.bool true)) lo R { r with sz := z, sd := true } v ∧ Only R w ((w.setCell ⟨R, 5, none⟩ (.int .u64 (z : Int))).setCell ⟨R, 6, none⟩ (.bool true)) ∧ (w.setCell ⟨R, 5, none⟩ (.int .u64 (z : Int))).cell? ⟨R, 6, none⟩ = some (.bool r.sd) ∧ (w.setCell ⟨R, 5, none⟩ (.int .u64 (z : Int))).frozen? ⟨R, 6, none⟩ = false := by
  have o : Only R w ((w.setCell ⟨R, 5, none⟩ (.int .u64 (z : Int))).setCell ⟨R, 6, none⟩ (.bool true)) := ((Only.refl R w).setCell 5 _).setCell 6 _
  have k := h.cells.set 5 (.int .u64 (z : Int))
  exact ⟨h.only o rfl (k.set 6 (.bool true)), o, (k.cell 6).trans rfl, k.frozen 6⟩
end
/-- What is left by what says something of the next header. -/
def Af (r r' : Dr) (q : Cm × Nat) (p : Nat) : Prop := r'.ev = r.ev ∧ (q.2 = 0 → r'.cm = q.1 ∧ r'.sp = false ∧ r'.why = r.why ∧ r'.sat = r.sat) ∧ (q.2 ≠ 0 → r'.sp = true ∧ r'.why = q.2 ∧ r'.sat = p)
/-- Between records. -/
structure Rs (l : List Nat) (r : Dr) (p : Nat) (m : List Nat) (r1 : Dr) : Prop where
  ev : r1.ev = r.ev
  go : (r1.sp = false ∧ r1.why = r.why ∧ r1.sat = r.sat ∧ trr l r.cm = trr m r1.cm) ∨ (r1.sp = true ∧ Af r r1 (trr l r.cm) p)
theorem Rs.fin_stop {l m : List Nat} {r r1 : Dr} {p : Nat} (h : Rs l r p m r1) (hs : r1.sp = true) : Af r r1 (trr l r.cm) p := by
  rcases h.go with q | q
  · rw [q.1] at hs; cases hs
  · exact q.2
theorem Rs.fin_end {l : List Nat} {r r1 : Dr} {p : Nat} (h : Rs l r p [] r1) (hs : r1.sp = false) : Af r r1 (trr l r.cm) p := by
  rcases h.go with q | q
  · refine ⟨h.ev, fun _ => ?_, fun hn => ?_⟩
    · rw [q.2.2.2, trr_nil]; exact ⟨rfl, hs, q.2.1, q.2.2.1⟩
    · rw [q.2.2.2, trr_nil] at hn; exact absurd rfl hn
  · rw [q.1] at hs; cases hs
theorem Rs.bad {l m : List Nat} {r r1 : Dr} {p : Nat} (h : Rs l r p m r1) (hs : r1.sp = false) (hm : m ≠ []) (ht : trc m = none) : Af r (dstop 49 p r1) (trr l r.cm) p := by
  rcases h.go with q | q
  · rw [q.2.2.2, trr_none hm ht]
    exact ⟨h.ev, (fun e => by cases e), fun _ => ⟨rfl, rfl, rfl⟩⟩
  · rw [q.1] at hs; cases hs
/-- A record that is taken. -/
theorem Rs.next {l m k x : List Nat} {n y : Nat} {r r1 r2 : Dr} {p : Nat} (h : Rs l r p m r1) (hs : r1.sp = false) (ht : trc m = some (k, x, n)) (he : r2.ev = r1.ev) (hq : (tset k x r1.cm).2 = 0) (hc : r2.cm = (tset k x r1.cm).1) (h2 : r2.sp = false ∧ r2.why = r1.why ∧ r2.sat = r1.sat) : Rs l r p (m.drop n) r2 := by
  rcases h.go with q | q
  · refine ⟨he.trans h.ev, Or.inl ⟨h2.1, h2.2.1.trans q.2.1, h2.2.2.trans q.2.2.1, ?_⟩⟩
    rw [q.2.2.2, trr_some ht, if_neg (by rw [hq]; simp), hc]
  · rw [q.1] at hs; cases hs
/-- One that stops it. -/
theorem Rs.stop {l m k x : List Nat} {n y : Nat} {r r1 r2 : Dr} {p : Nat} (h : Rs l r p m r1) (hs : r1.sp = false) (ht : trc m = some (k, x, n)) (he : r2.ev = r1.ev) (hq : (tset k x r1.cm).2 = y) (hy : y ≠ 0) : Rs l r p (m.drop n) (dstop y p r2) := by
  rcases h.go with q | q
  · refine ⟨he.trans h.ev, Or.inr ⟨rfl, he.trans h.ev, fun e => ?_, fun _ => ?_⟩⟩
    · rw [q.2.2.2, trr_some ht, if_pos (by rw [hq]; exact hy), hq] at e; exact absurd e hy
    · rw [q.2.2.2, trr_some ht, if_pos (by rw [hq]; exact hy), hq]; exact ⟨rfl, rfl, rfl⟩
  · rw [q.1] at hs; cases hs
theorem tset_path (x : List Nat) (c : Cm) : tset kpath x c = tnam x c := by unfold tset; rw [if_pos rfl]
theorem tset_size (x : List Nat) (c : Cm) : tset ksize x c = tsiz x c := by unfold tset; rw [if_neg (by decide), if_pos rfl]
theorem tset_none {k x : List Nat} {c : Cm} (h1 : k ≠ kpath) (h2 : k ≠ ksize) : tset k x c = (c, 0) := by unfold tset; rw [if_neg h1, if_neg h2]
theorem tnam_big {x : List Nat} {c : Cm} (h : 256 < x.length) : (tnam x c).2 = 46 := by unfold tnam; rw [if_pos h]
theorem tnam_small {x : List Nat} {c : Cm} (h : ¬ 256 < x.length) : tnam x c = ((some x, c.2), 0) := by unfold tnam; rw [if_neg h]
theorem tsiz_ok2 {x : List Nat} {c : Cm} (h : dok x = true) : tsiz x c = ((c.1, some (dv x)), 0) := by
  unfold dok at h
  unfold tsiz dv
  cases e : tdec x with
  | none => rw [e] at h; cases h
  | some z => rfl
theorem tsiz_bad {x : List Nat} {c : Cm} (h : dok x = false) : (tsiz x c).2 = 48 := by
  unfold dok at h
  unfold tsiz
  cases e : tdec x with
  | none => rfl
  | some z => rw [e] at h; cases h
theorem trc_vlen {b k v : List Nat} {n : Nat} (h : trc b = some (k, v, n)) : v.length ≤ n := by
  unfold trc at h
  cases hc : tcut b with
  | none => rw [hc] at h; cases h
  | some q =>
    obtain ⟨x, n'⟩ := q
    rw [hc] at h
    simp only at h
    cases ht : teq x with
    | none => rw [ht] at h; cases h
    | some q2 =>
      obtain ⟨k', v'⟩ := q2
      rw [ht] at h
      simp only [Option.some.injEq, Prod.mk.injEq] at h
      obtain ⟨rfl, rfl, rfl⟩ := h
      have hx : x.length ≤ n' := by
        unfold tcut at hc
        simp only at hc
        split at hc
        · cases hc
        · simp only [Option.some.injEq, Prod.mk.injEq] at hc
          rw [← hc.1, ← hc.2, List.length_drop, List.length_take]
          omega
      have hv : v'.length ≤ x.length := by
        unfold teq at ht
        split at ht
        · simp only [Option.some.injEq, Prod.mk.injEq] at ht
          rw [← ht.2, List.length_drop]
          omega
        · cases ht
      omega
/-- What records answers. -/
structure Rsa (lo R : Nat) (r : Dr) (v : Value) (q : Cm × Nat) (p : Nat) (w : World) (e : Ending) (w' : World) : Prop where
  ex : e = .returned (.tuple #[]) ∧ ∃ r', Dm w' lo R r' v ∧ Only R w w' ∧ Af r r' q p
theorem cut_from (b o L C n : Nat) (h : n ≤ L) (hC : L ≤ C) : ∃ o2, (∀ W : World, (Instr.slice 22 (.slice (some ⟨b, o, none⟩) L C) (some (.int .i64 (n : Int))) none none).run Tryz.prog W = .ok (.slice (some ⟨b, o2, none⟩) (L - n) (C - n)) W) ∧ (L - n = 0 ∨ o2 = o + n) := by
  by_cases e : n = C
  · obtain rfl : L = C := by omega
    subst e
    exact ⟨o, fun W => by rw [Nat.sub_self]; exact slice_fC b o n W, Or.inl (Nat.sub_self _)⟩
  · exact ⟨o + n, fun W => slice_f b o L C n h hC e W, Or.inr rfl⟩
section
variable {lo R : Nat} {v : Value}
set_option maxRecDepth 20000 in
set_option maxHeartbeats 4000000 in
theorem drecords_c (w : World) (r : Dr) (p : Nat) (h : Dm w lo R r v) (hsp : r.sp = false) (hlo : lo ≤ R) (a : Option Addr) (l : List Nat) (L C : Nat) (hL : l.length = L) (hLb : L ≤ 1000000) (hLC : L ≤ C) (ho : Oct l) (hc : l = [] ∨ ∃ b o, a = some ⟨b, o, none⟩ ∧ b < lo ∧ ∀ (i x : Nat), l[i]? = some x → w.cell? ⟨b, o + i, none⟩ = some (.int .u8 (x : Int))) : Calls Tryz.prog 34 #[.pointer (some ⟨R, 0, none⟩), .slice a L C, .int .i64 (p : Int)] w fun e w' => Rsa lo R r v (trr l r.cm) p w e w' := by
  have A : Aside (Dm w lo R r v ∧ lo ≤ R ∧ Oct l ∧ L ≤ 1000000) := ⟨h, hlo, ho, hLb⟩
  have A0 : Aside (∃ m, Rs l r p m r ∧ m.length = L ∧ Oct m ∧ (m = [] ∨ ∃ b o, a = some ⟨b, o, none⟩ ∧ b < lo ∧ ∀ (i x : Nat), m[i]? = some x → w.cell? ⟨b, o + i, none⟩ = some (.int .u8 (x : Int)))) := ⟨l, ⟨rfl, Or.inl ⟨hsp, rfl, rfl, rfl⟩⟩, hL, ho, hc⟩
  clear h hsp hlo hL hLb ho hc
  go_enter Tryz.func34, Tryz.ntmps34
  (try go_wp2_with fail)
  go_loopg [1] L (fun gg s1 wr => ∃ (n c : Nat) (ax : Option Addr), s1 = .slice ax n c ∧ Aside (n = gg ∧ n ≤ c ∧ ∃ m r1, Rs l r p m r1 ∧ Dm wr lo R r1 v ∧ Only R w wr ∧ m.length = n ∧ Oct m ∧ n ≤ 1000000 ∧ (m = [] ∨ ∃ b o, ax = some ⟨b, o, none⟩ ∧ b < lo ∧ ∀ (i x : Nat), m[i]? = some x → wr.cell? ⟨b, o + i, none⟩ = some (.int .u8 (x : Int)))))
  case atStart =>
    obtain ⟨m, h1, h2, h3, h4⟩ := A0.out
    exact ⟨L, C, a, rfl, ⟨rfl, hLC, m, r, h1, A.out.1, Only.refl _ _, h2, h3, A.out.2.2.2, h4⟩⟩
  case round =>
    clear A0 hLC
    obtain ⟨n, c, ax, rfl, hI⟩ := hrel
    obtain ⟨hng, hnc, m, r1, hrs, hdm, hon, hml, hmo, hnb, hmc⟩ := hI.out
    have d7 := hdm.c7
    have bn : (n : Int) ≤ 1000000 := by omega
    by_cases hn : n = 0
    · subst hn
      have t0 : m = [] := List.eq_nil_of_length_eq_zero hml
      have AF : Aside (∃ r', Dm wr lo R r' v ∧ Only R w wr ∧ Af r r' (trr l r.cm) p) := by
        subst t0
        cases hq : r1.sp with
        | false => exact ⟨r1, hdm, hon, hrs.fin_end hq⟩
        | true => exact ⟨r1, hdm, hon, hrs.fin_stop hq⟩
      clear hI hng hrs hdm hon hml hmo hmc d7 t0
      go_wp2_with fail
      first | go_end0 | (refine bodyPost_ret (results_none rfl _ _ _) rfl ?_)
      exact ⟨rfl, AF.out⟩
    have t1 : ((0 : Int) < (n : Int)) = True := eq_true (by omega)
    have t1n : (0 < n) = True := eq_true (by omega)
    cases hq : r1.sp with
    | true =>
      rw [hq] at d7
      have AF : Aside (∃ r', Dm wr lo R r' v ∧ Only R w wr ∧ Af r r' (trr l r.cm) p) := ⟨r1, hdm, hon, hrs.fin_stop hq⟩
      clear hI hng hrs hdm hon hml hmo hmc hq hn
      go_wp2_with fail
      first | go_end0 | (refine bodyPost_ret (results_none rfl _ _ _) rfl ?_)
      exact ⟨rfl, AF.out⟩
    | false =>
      rw [hq] at d7
      have hmne : m ≠ [] := by intro e; rw [e] at hml; simp at hml; omega
      obtain ⟨b, o, rfl, hbl, hcell⟩ : ∃ b o, ax = some ⟨b, o, none⟩ ∧ b < lo ∧ ∀ (i x : Nat), m[i]? = some x → wr.cell? ⟨b, o + i, none⟩ = some (.int .u8 (x : Int)) := by
        rcases hmc with q | q
        · exact absurd q hmne
        · exact q
      have hrec := record_c wr b o m n c hml (by omega) hnc (by omega) hmo hcell
      cases ht : trc m with
      | none =>
        have hr0 : rcd m = ([], [], 0) := by unfold rcd; rw [ht]; rfl
        have AF : Aside (Af r (dstop 49 p r1) (trr l r.cm) p ∧ Only R w wr ∧ rcd m = ([], [], 0) ∧ Dm wr lo R r1 v) := ⟨hrs.bad hq hmne ht, hon, hr0, hdm⟩
        clear hI hng hrs hdm hon hml hmo hmc hq hn hmne hcell ht hr0
        go_wp2_with (first
          | (go_at_call 48; refine hrec.mono ?_; intro e2 w2 h2; obtain ⟨j, he2, hw2⟩ := h2.ex; rw [AF.out.2.2.1] at he2; have he3 : e2 = .returned (.tuple #[.string ⟨#[]⟩, .string ⟨#[]⟩, .int .i64 0]) := he2; subst he3; have hst := dstop_c 49 p (AF.out.2.2.2.drewN j); rw [← hw2] at hst; have AW : Aside (w2 = wr.drewN j) := hw2; clear hw2 he2 h2)
          | (go_at_call 17; refine hst.mono ?_; rintro e3 w3 ⟨rfl, hd3, ho3⟩))
        first | go_end0 | (refine bodyPost_ret (results_none rfl _ _ _) rfl ?_)
        refine ⟨rfl, _, hd3, ?_, AF.out.1⟩
        rw [AW.out] at ho3
        exact (AF.out.2.1.drewN j).trans ho3
      | some q3 =>
        obtain ⟨k, x, n2⟩ := q3
        obtain ⟨hx1, hx2, hn2, hnl⟩ := trc_mem ht
        rw [hml] at hnl
        have hr0 : rcd m = (k, x, n2) := by unfold rcd; rw [ht]; rfl
        obtain ⟨o2, hsl, ho2⟩ := cut_from b o n c n2 hnl hnc
        obtain ⟨n3, hn3⟩ : ∃ n3, n - n2 = n3 := ⟨_, rfl⟩
        obtain ⟨c3, hc3⟩ : ∃ c3, c - n2 = c3 := ⟨_, rfl⟩
        rw [hn3, hc3] at hsl
        rw [hn3] at ho2
        have hko : Oct k := fun y hy => hmo y (hx2 y hy)
        have hxo : Oct x := fun y hy => hmo y (hx1 y hy)
        have hxl : x.length ≤ 1000000 := by
          have := trc_vlen ht
          omega
        have t2 : ((n2 : Int) == 0) = false := by rw [beq_eq_false_iff_ne]; omega
        have bn2 : (n2 : Int) ≤ (n : Int) := by omega
        have AN : Aside (∀ u, Only R wr u → n3 < gk ∧ n3 ≤ c3 ∧ Only R w u ∧ (m.drop n2).length = n3 ∧ Oct (m.drop n2) ∧ n3 ≤ 1000000 ∧ (m.drop n2 = [] ∨ ∃ b' o', (some ⟨b, o2, none⟩ : Option Addr) = some ⟨b', o', none⟩ ∧ b' < lo ∧ ∀ (i y : Nat), (m.drop n2)[i]? = some y → u.cell? ⟨b', o' + i, none⟩ = some (.int .u8 (y : Int)))) := fun u hu => by
          refine ⟨by omega, by omega, hon.trans hu, by rw [List.length_drop]; omega, hmo.drop _, by omega, ?_⟩
          rcases ho2 with e | e
          · exact Or.inl (List.eq_nil_of_length_eq_zero (by rw [List.length_drop]; omega))
          · refine Or.inr ⟨b, o2, rfl, hbl, fun i y hy => ?_⟩
            rw [List.getElem?_drop] at hy
            rw [e, Nat.add_assoc]
            exact (hu.cell (p := ⟨b, o + (n2 + i), none⟩) (by show b ≠ R; have := A.out.2.1; omega)).trans (hcell _ _ hy)
        have AR : Aside (Rs l r p m r1 ∧ r1.sp = false ∧ trc m = some (k, x, n2) ∧ Dm wr lo R r1 v ∧ rcd m = (k, x, n2) ∧ Oct k ∧ Oct x ∧ x.length ≤ 1000000) := ⟨hrs, hq, ht, hdm, hr0, hko, hxo, hxl⟩
        obtain ⟨sk, hsk⟩ : ∃ sk, st k = sk := ⟨_, rfl⟩
        obtain ⟨sx, hsx⟩ : ∃ sx, st x = sx := ⟨_, rfl⟩
        obtain ⟨LX, hLX⟩ : ∃ LX, x.length = LX := ⟨_, rfl⟩
        have zx : sx.size = LX := by rw [← hsx, st_size, hLX]
        have bLX : (LX : Int) ≤ 1000000 := by omega
        have AS : Aside (st k = sk ∧ st x = sx ∧ x.length = LX) := ⟨hsk, hsx, hLX⟩
        have q1 := key_path hko
        have q2 := key_size hko
        rw [hsk] at q1 q2
        have hrec2 : Calls Tryz.prog 48 #[.slice (some ⟨b, o, none⟩) n c] wr fun e w' => e = .returned (.tuple #[.string sk, .string sx, .int .i64 (n2 : Int)]) ∧ ∃ j, w' = wr.drewN j := hrec.mono fun e w' h2 => by
          obtain ⟨j, he, hw⟩ := h2.ex
          rw [hr0] at he
          simp only [hsk, hsx] at he
          exact ⟨he, j, hw⟩
        clear hI hng hrs hdm hon hml hmo hmc hq hn hmne hcell ht hr0 hrec hx1 hx2 hn2 hnl hn3 hc3 ho2 hko hxo hxl hsk hsx hLX hbl
        by_cases hkp : k = kpath
        · have t3 : (sk.toList == [112, 97, 116, 104]) = true := by rw [q1]; exact decide_eq_true hkp
          clear q1 q2
          by_cases hbig : 256 < LX
          · have t4 : ((256 : Int) < (LX : Int)) = True := eq_true (by omega)
            have t4n : (256 < LX) = True := eq_true hbig
            go_upto_region 4 with (go_at_call 48; refine hrec2.mono ?_; rintro e2 w2 ⟨rfl, j, hw2⟩; have AW2 : Aside (w2 = wr.drewN j) := hw2; clear hw2)
            have D2 := AR.out.2.2.2.1.drewN j
            rw [← AW2.out] at D2
            have O2 : Only R wr w2 := by rw [AW2.out]; exact (Only.refl R wr).drewN j
            clear hrec2
            have c3' := D2.c3
            have f3' := D2.fz 3
            obtain ⟨D3, O3, c4', f4'⟩ := D2.name x sx AS.out.2.1
            obtain ⟨w4, hw4⟩ : ∃ w4, (w2.setCell ⟨R, 3, none⟩ (.string sx)).setCell ⟨R, 4, none⟩ (.bool true) = w4 := ⟨_, rfl⟩
            rw [hw4] at D3 O3
            have hst := dstop_c 46 p D3
            have A3 : Aside (Only R wr w4 ∧ k = kpath ∧ 256 < LX) := ⟨O2.trans O3, hkp, hbig⟩
            clear D2 D3 O2 O3 hkp hbig
            go_upto_region 10 with fail
            (try rw [hw4])
            clear hw4 c3' f3' c4' f4'
            go_wp2_with (go_at_call 17; refine hst.mono ?_; rintro e5 w5 ⟨rfl, D5, O5⟩)
            have an := AN.out _ (A3.out.1.trans O5)
            go_roundg n3
            case measure => exact an.1
            case rel => exact ⟨n3, c3, some ⟨b, o2, none⟩, rfl, ⟨rfl, an.2.1, m.drop n2, dstop 46 p { r1 with nm := x, nd := true }, AR.out.1.stop (n := n2) AR.out.2.1 AR.out.2.2.1 rfl (by rw [A3.out.2.1, tset_path]; exact tnam_big (by rw [AS.out.2.2]; exact A3.out.2.2)) (by decide), D5, an.2.2.1, an.2.2.2.1, an.2.2.2.2.1, an.2.2.2.2.2.1, an.2.2.2.2.2.2⟩⟩
          · have t4 : ((256 : Int) < (LX : Int)) = False := eq_false (by omega)
            have t4n : (256 < LX) = False := eq_false hbig
            go_upto_region 4 with (go_at_call 48; refine hrec2.mono ?_; rintro e2 w2 ⟨rfl, j, hw2⟩; have AW2 : Aside (w2 = wr.drewN j) := hw2; clear hw2)
            have D2 := AR.out.2.2.2.1.drewN j
            rw [← AW2.out] at D2
            have O2 : Only R wr w2 := by rw [AW2.out]; exact (Only.refl R wr).drewN j
            clear hrec2
            have c3' := D2.c3
            have f3' := D2.fz 3
            obtain ⟨D3, O3, c4', f4'⟩ := D2.name x sx AS.out.2.1
            have A3 : Aside (Dm ((w2.setCell ⟨R, 3, none⟩ (.string sx)).setCell ⟨R, 4, none⟩ (.bool true)) lo R { r1 with nm := x, nd := true } v ∧ Only R wr ((w2.setCell ⟨R, 3, none⟩ (.string sx)).setCell ⟨R, 4, none⟩ (.bool true)) ∧ k = kpath ∧ ¬ 256 < LX) := ⟨D3, O2.trans O3, hkp, hbig⟩
            clear D2 D3 O2 O3 hkp hbig
            go_wp2_with fail
            have an := AN.out _ (A3.out.2.1)
            go_roundg n3
            case measure => exact an.1
            case rel => exact ⟨n3, c3, some ⟨b, o2, none⟩, rfl, ⟨rfl, an.2.1, m.drop n2, { r1 with nm := x, nd := true }, AR.out.1.next AR.out.2.1 AR.out.2.2.1 (y := 0) rfl (by rw [A3.out.2.2.1, tset_path, tnam_small (by rw [AS.out.2.2]; exact A3.out.2.2.2)]) (by rw [A3.out.2.2.1, tset_path, tnam_small (by rw [AS.out.2.2]; exact A3.out.2.2.2)]; rfl) ⟨AR.out.2.1, rfl, rfl⟩, A3.out.1, an.2.2.1, an.2.2.2.1, an.2.2.2.2.1, an.2.2.2.2.2.1, an.2.2.2.2.2.2⟩⟩
        have t3 : (sk.toList == [112, 97, 116, 104]) = false := by rw [q1]; exact decide_eq_false hkp
        by_cases hks : k = ksize
        · have t4 : (sk.toList == [115, 105, 122, 101]) = true := by rw [q2]; exact decide_eq_true hks
          clear q1 q2
          cases hdk : dok x with
          | false =>
            go_upto_region 4 with (go_at_call 48; refine hrec2.mono ?_; rintro e2 w2 ⟨rfl, j, hw2⟩; have AW2 : Aside (w2 = wr.drewN j) := hw2; clear hw2)
            have D2 := AR.out.2.2.2.1.drewN j
            rw [← AW2.out] at D2
            have O2 : Only R wr w2 := by rw [AW2.out]; exact (Only.refl R wr).drewN j
            clear hrec2
            have hdec := decimal_c w2 x AR.out.2.2.2.2.2.2.1 (by have := AR.out.2.2.2.2.2.2.2; omega)
            rw [AS.out.2.1, hdk] at hdec
            have c3' := D2.c5
            have f3' := D2.fz 5
            obtain ⟨D3, O3, c4', f4'⟩ := D2.sized (dv x)
            obtain ⟨V, hV⟩ : ∃ V, dv x = V := ⟨_, rfl⟩
            rw [hV] at hdec D3 O3 c4' f4'
            have AV : Aside (dv x = V) := hV
            obtain ⟨w4, hw4⟩ : ∃ w4, (w2.setCell ⟨R, 5, none⟩ (.int .u64 (V : Int))).setCell ⟨R, 6, none⟩ (.bool true) = w4 := ⟨_, rfl⟩
            rw [hw4] at D3 O3
            have hst := dstop_c 48 p D3
            have A3 : Aside (Only R wr w4 ∧ k = ksize ∧ dok x = false) := ⟨O2.trans O3, hks, hdk⟩
            clear D2 D3 O2 O3 hks hdk hV hkp
            go_upto_region 16 with (go_at_call 49; refine hdec.mono ?_; rintro e3 w3 ⟨rfl, rfl⟩)
            (try rw [hw4])
            clear hw4 c3' f3' c4' f4' hdec
            go_wp2_with (go_at_call 17; refine hst.mono ?_; rintro e5 w5 ⟨rfl, D5, O5⟩)
            have an := AN.out _ (A3.out.1.trans O5)
            go_roundg n3
            case measure => exact an.1
            case rel => exact ⟨n3, c3, some ⟨b, o2, none⟩, rfl, ⟨rfl, an.2.1, m.drop n2, dstop 48 p { r1 with sz := V, sd := true }, AR.out.1.stop (n := n2) AR.out.2.1 AR.out.2.2.1 rfl (by rw [A3.out.2.1, tset_size]; exact tsiz_bad A3.out.2.2) (by decide), D5, an.2.2.1, an.2.2.2.1, an.2.2.2.2.1, an.2.2.2.2.2.1, an.2.2.2.2.2.2⟩⟩
          | true =>
            go_upto_region 4 with (go_at_call 48; refine hrec2.mono ?_; rintro e2 w2 ⟨rfl, j, hw2⟩; have AW2 : Aside (w2 = wr.drewN j) := hw2; clear hw2)
            have D2 := AR.out.2.2.2.1.drewN j
            rw [← AW2.out] at D2
            have O2 : Only R wr w2 := by rw [AW2.out]; exact (Only.refl R wr).drewN j
            clear hrec2
            have hdec := decimal_c w2 x AR.out.2.2.2.2.2.2.1 (by have := AR.out.2.2.2.2.2.2.2; omega)
            rw [AS.out.2.1, hdk] at hdec
            have c3' := D2.c5
            have f3' := D2.fz 5
            obtain ⟨D3, O3, c4', f4'⟩ := D2.sized (dv x)
            obtain ⟨V, hV⟩ : ∃ V, dv x = V := ⟨_, rfl⟩
            rw [hV] at hdec D3 O3 c4' f4'
            have AV : Aside (dv x = V) := hV
            have A3 : Aside (Dm ((w2.setCell ⟨R, 5, none⟩ (.int .u64 (V : Int))).setCell ⟨R, 6, none⟩ (.bool true)) lo R { r1 with sz := V, sd := true } v ∧ Only R wr ((w2.setCell ⟨R, 5, none⟩ (.int .u64 (V : Int))).setCell ⟨R, 6, none⟩ (.bool true)) ∧ k = ksize ∧ dok x = true) := ⟨D3, O2.trans O3, hks, hdk⟩
            clear D2 D3 O2 O3 hks hdk hV hkp
            go_wp2_with (go_at_call 49; refine hdec.mono ?_; rintro e3 w3 ⟨rfl, rfl⟩)
            have an := AN.out _ (A3.out.2.1)
            go_roundg n3
            case measure => exact an.1
            case rel => exact ⟨n3, c3, some ⟨b, o2, none⟩, rfl, ⟨rfl, an.2.1, m.drop n2, { r1 with sz := V, sd := true }, AR.out.1.next AR.out.2.1 AR.out.2.2.1 (y := 0) rfl (by rw [A3.out.2.2.1, tset_size, tsiz_ok2 A3.out.2.2.2]) (by rw [A3.out.2.2.1, tset_size, tsiz_ok2 A3.out.2.2.2, AV.out]; rfl) ⟨AR.out.2.1, rfl, rfl⟩, A3.out.1, an.2.2.1, an.2.2.2.1, an.2.2.2.2.1, an.2.2.2.2.2.1, an.2.2.2.2.2.2⟩⟩
        have t4 : (sk.toList == [115, 105, 122, 101]) = false := by rw [q2]; exact decide_eq_false hks
        clear q1 q2
        have A3 : Aside (k ≠ kpath ∧ k ≠ ksize) := ⟨hkp, hks⟩
        clear hkp hks
        go_upto_region 4 with (go_at_call 48; refine hrec2.mono ?_; rintro e2 w2 ⟨rfl, j, hw2⟩; have AW2 : Aside (w2 = wr.drewN j) := hw2; clear hw2)
        have D2 := AR.out.2.2.2.1.drewN j
        rw [← AW2.out] at D2
        have O2 : Only R wr w2 := by rw [AW2.out]; exact (Only.refl R wr).drewN j
        clear hrec2
        have A4 : Aside (Dm w2 lo R r1 v ∧ Only R wr w2) := ⟨D2, O2⟩
        clear D2 O2
        go_wp2_with fail
        have an := AN.out _ (A4.out.2)
        go_roundg n3
        case measure => exact an.1
        case rel => exact ⟨n3, c3, some ⟨b, o2, none⟩, rfl, ⟨rfl, an.2.1, m.drop n2, r1, AR.out.1.next AR.out.2.1 AR.out.2.2.1 (y := 0) rfl (by rw [tset_none A3.out.1 A3.out.2]) (by rw [tset_none A3.out.1 A3.out.2]) ⟨AR.out.2.1, rfl, rfl⟩, A4.out.1, an.2.2.1, an.2.2.2.1, an.2.2.2.2.1, an.2.2.2.2.2.1, an.2.2.2.2.2.2⟩⟩
end
end Go.Proofs.YtcmmjbkgoafbnaaGreatDoor

/-
  What the document's special comes to.
-/
namespace Go.Proofs.YtcmmjbkgoafbnaaGreatDoor
open Go.RowKit
set_option linter.unusedVariables false
section
variable {lo R : Nat} {v : Value}
set_option maxRecDepth 20000 in
set_option maxHeartbeats 4000000 in
theorem dspecial_c (w : World) (r : Dr) (p k : Nat) (hk : k < 256) (hok : town k = false) (h : Dm w lo R r v) (hsp : r.sp = false) (hlo : lo ≤ R) (a : Option Addr) (l : List Nat) (L C : Nat) (hL : l.length = L) (hLb : 2 ≤ tus k → L ≤ 1000000) (hLC : L ≤ C) (ho : Oct l) (hc : l = [] ∨ ∃ b o, a = some ⟨b, o, none⟩ ∧ b < lo ∧ ∀ (i x : Nat), l[i]? = some x → w.cell? ⟨b, o + i, none⟩ = some (.int .u8 (x : Int))) : Calls Tryz.prog 24 #[.pointer (some ⟨R, 0, none⟩), .int .u8 (k : Int), .slice a L C, .int .i64 (p : Int)] w fun e w' => Rsa lo R r v (tfin (tus k) l r.cm) p w e w' := by
  by_cases h76 : k = 76
  · subst h76
    have hLb := hLb (by decide)
    have hli : Lies w a l := by
      rcases hc with q | ⟨b, o, q1, _, q2⟩
      · exact Or.inl q
      · exact Or.inr ⟨b, o, q1, q2⟩
    have htx := dtext_c w a l L C hL (by omega) hLC ho hli
    have hto := oct_ttx ho
    have htl := ttx_len l
    obtain ⟨x, hx⟩ : ∃ x, ttx l = x := ⟨_, rfl⟩
    obtain ⟨sx, hsx⟩ : ∃ sx, st x = sx := ⟨_, rfl⟩
    obtain ⟨LX, hLX⟩ : ∃ LX, x.length = LX := ⟨_, rfl⟩
    have zx : sx.size = LX := by rw [← hsx, st_size, hLX]
    rw [hx, hsx] at htx
    rw [hx, hLX] at htl
    have c3 := h.c3
    have f3 := h.fz 3
    obtain ⟨D3, O3, c4, f4⟩ := h.name x sx hsx
    have bLX : (LX : Int) ≤ 1000000 := by omega
    have e1 : ((76 : Nat) : Int) = 76 := rfl
    have htf : tfin (tus 76) l r.cm = tnam x r.cm := by
      show tfin 2 l r.cm = _
      unfold tfin
      rw [if_pos rfl, hx]
    rw [htf]
    obtain ⟨w4, hw4⟩ : ∃ w4, (w.setCell ⟨R, 3, none⟩ (.string sx)).setCell ⟨R, 4, none⟩ (.bool true) = w4 := ⟨_, rfl⟩
    rw [hw4] at D3 O3
    have c5 : w4.cell? ⟨R, 3, none⟩ = some (.string sx) := by rw [← hsx]; exact D3.c3
    have A3 : Aside (Dm w4 lo R { r with nm := x, nd := true } v ∧ Only R w w4 ∧ r.sp = false ∧ x.length = LX) := ⟨D3, O3, hsp, hLX⟩
    by_cases hbig : 256 < LX
    · have t4 : ((256 : Int) < (LX : Int)) = True := eq_true (by omega)
      have t4n : (256 < LX) = True := eq_true hbig
      have hst := dstop_c 46 p D3
      have AB : Aside (256 < LX) := hbig
      clear h hsp hlo hL hLb hLC ho hc hli hto htl hx hsx hLX D3 O3 hbig htf hk hok
      go_enter Tryz.func24, Tryz.ntmps24
      go_upto_region 3 with (go_at_call 33; refine htx.mono ?_; rintro e2 w2 ⟨rfl, rfl⟩)
      (try rw [hw4])
      clear hw4 c3 f3 c4 f4 htx
      go_wp2_with (go_at_call 17; refine hst.mono ?_; rintro e5 w5 ⟨rfl, D5, O5⟩)
      first | go_end0 | (refine bodyPost_ret (results_none rfl _ _ _) rfl ?_)
      refine ⟨rfl, _, D5, A3.out.2.1.trans O5, rfl, fun e => ?_, fun _ => ?_⟩
      · rw [tnam_big (by rw [A3.out.2.2.2]; exact AB.out)] at e; cases e
      · rw [tnam_big (by rw [A3.out.2.2.2]; exact AB.out)]; exact ⟨rfl, rfl, rfl⟩
    · have t4 : ((256 : Int) < (LX : Int)) = False := eq_false (by omega)
      have t4n : (256 < LX) = False := eq_false hbig
      have AB : Aside (¬ 256 < LX) := hbig
      clear h hsp hlo hL hLb hLC ho hc hli hto htl hx hsx hLX D3 O3 hbig htf hk hok
      go_enter Tryz.func24, Tryz.ntmps24
      go_upto_region 3 with (go_at_call 33; refine htx.mono ?_; rintro e2 w2 ⟨rfl, rfl⟩)
      (try rw [hw4])
      clear hw4 c3 f3 c4 f4 htx
      go_wp2_with fail
      first | go_end0 | (refine bodyPost_ret (results_none rfl _ _ _) rfl ?_)
      refine ⟨rfl, _, A3.out.1, A3.out.2.1, rfl, fun _ => ?_, fun e => ?_⟩
      · rw [tnam_small (by rw [A3.out.2.2.2]; exact AB.out)]; exact ⟨rfl, A3.out.2.2.1, rfl, rfl⟩
      · rw [tnam_small (by rw [A3.out.2.2.2]; exact AB.out)] at e; exact absurd rfl e
  · have t1 : ((k : Int) == 76) = false := by rw [beq_eq_false_iff_ne]; omega
    by_cases h120 : k = 120
    · subst h120
      have hLb := hLb (by decide)
      have hre := drecords_c w r p h hsp hlo a l L C hL hLb hLC ho hc
      have htf : tfin (tus 120) l r.cm = trr l r.cm := by
        show tfin 3 l r.cm = _
        unfold tfin
        rw [if_neg (by decide), if_pos rfl]
      rw [htf]
      clear h hsp hlo hL hLb hLC ho hc htf hk hok h76
      go_enter Tryz.func24, Tryz.ntmps24
      go_wp2_with (go_at_call 34; refine hre.mono ?_; intro e5 w5 h5; obtain ⟨he5, T5⟩ := h5.ex; subst he5; have A5 : Aside _ := T5; clear T5 h5)
      first | go_end0 | (refine bodyPost_ret (results_none rfl _ _ _) rfl ?_)
      exact ⟨rfl, A5.out⟩
    · have t2 : ((k : Int) == 120) = false := by rw [beq_eq_false_iff_ne]; omega
      have hus : tus k = 0 := by
        unfold tus
        rw [if_neg h76, if_neg h120, if_neg]
        unfold town at hok
        unfold tisf
        have : k = 75 ∨ k = 103 := by
          simp at hok
          by_cases h75 : k = 75
          · exact Or.inl h75
          · exact Or.inr (hok h76 h120 h75)
        rcases this with rfl | rfl <;> decide
      have AF : Aside (∃ r', Dm w lo R r' v ∧ Only R w w ∧ Af r r' (tfin (tus k) l r.cm) p) := by
        refine ⟨r, h, Only.refl _ _, rfl, fun _ => ?_, fun e => ?_⟩
        · rw [hus]; exact ⟨rfl, hsp, rfl, rfl⟩
        · rw [hus] at e; exact absurd rfl e
      clear h hsp hlo hL hLb hLC ho hc hk hok h76 h120 hus
      go_enter Tryz.func24, Tryz.ntmps24
      go_wp2_with fail
      first | go_end0 | (refine bodyPost_ret (results_none rfl _ _ _) rfl ?_)
      exact ⟨rfl, AF.out⟩
end
end Go.Proofs.YtcmmjbkgoafbnaaGreatDoor

/-
  What the document's file comes to.
-/
namespace Go.Proofs.YtcmmjbkgoafbnaaGreatDoor
open Go.RowKit
set_option linter.unusedVariables false
/-- A file's bytes, and its end. -/
def fev (b : List Nat) (f Z : Nat) : List Gev := bts 1 f ((b.drop f).take Z) ++ (if Z ≤ b.length - f then [(f + Z - 1, 257, [])] else [])
theorem bts_more {l : List Nat} {f n x : Nat} (hx : l[n]? = some x) : bts 1 f (l.take (n + 1)) = bts 1 f (l.take n) ++ [(f + n, x, [])] := by
  have hn : n < l.length := (List.getElem?_eq_some_iff.1 hx).1
  have ht : l.take (n + 1) = l.take n ++ [x] := take_more hx
  unfold bts
  rw [if_pos rfl, if_pos rfl, ht, List.mapIdx_append, List.length_take, Nat.min_eq_left (by omega)]
  simp
section
variable {lo R : Nat}
set_option maxRecDepth 20000 in
set_option maxHeartbeats 4000000 in
theorem dfile_c (w : World) (r : Dr) (v : Value) (h : Dm w lo R r v) (hlo : lo ≤ R) (a : Option Addr) (b : List Nat) (L C f Z : Nat) (hL : b.length = L) (hLb : L ≤ 100000000000) (ho : Oct b) (hf : f ≤ L) (hf0 : 512 ≤ f) (hZ : Z < 9223372036854775808) (hT : r.ev.length ≤ 2 * f) (hc : ∀ u, Below lo w u → Lies u a b) : Calls Tryz.prog 23 #[.pointer (some ⟨R, 0, none⟩), .slice a L C, .int .i64 (f : Int), .int .u64 (Z : Int)] w fun e w' => e = .returned (.tuple #[]) ∧ (∃ v', Dm w' lo R { r with ev := r.ev ++ fev b f Z } v') ∧ Fr lo R w w' := by
  have A : Aside (b.length = L ∧ L ≤ 100000000000 ∧ Oct b ∧ f ≤ L ∧ (∀ u, Below lo w u → Lies u a b) ∧ lo ≤ R ∧ Z < 9223372036854775808 ∧ r.ev.length ≤ 2 * f ∧ 512 ≤ f) := ⟨hL, hLb, ho, hf, hc, hlo, hZ, hT, hf0⟩
  have A0 : Aside (Dm w lo R r v) := h
  obtain ⟨T, hTl⟩ : ∃ T, (b.drop f) = T := ⟨_, rfl⟩
  have AT : Aside (b.drop f = T) := hTl
  clear h hlo hL hLb ho hf hf0 hZ hT hc hTl
  go_enter Tryz.func23, Tryz.ntmps23
  go_wp2_with fail
  go_loopg [8] (L - f) (fun gg s8 wr => ∃ i : Nat, s8 = .int .i64 (i : Int) ∧ Aside (f ≤ i ∧ i ≤ L ∧ gg = L - i ∧ i - f ≤ Z ∧ (∃ v', Dm wr lo R { r with ev := r.ev ++ bts 1 f (T.take (i - f)) } v') ∧ Fr lo R w wr))
  case atStart =>
    have a0 := A.out
    exact ⟨f, rfl, ⟨Nat.le_refl _, a0.2.2.2.1, rfl, by omega, ⟨v, by rw [Nat.sub_self, List.take_zero, bts_nil, List.append_nil]; exact A0.out⟩, Fr.refl _ _ _⟩⟩
  case round =>
    clear A0
    obtain ⟨i, rfl, hI⟩ := hrel
    obtain ⟨hfi, hiL, hg, hiZ, ⟨v', hd⟩, hfr⟩ := hI.out
    have a0 := A.out
    have bi : (i : Int) ≤ 100000000000 := by omega
    have bf : (f : Int) ≤ (i : Int) := by omega
    obtain ⟨d, hdif⟩ : ∃ d, i - f = d := ⟨_, rfl⟩
    have e1 : (i : Int) - (f : Int) = (d : Int) := by omega
    have e2 : IntKind.u64.wrap (d : Int) = (d : Int) := by rw [tw_u64]; omega
    have bd : (d : Int) ≤ 100000000000 := by omega
    have bZ : (Z : Int) < 9223372036854775808 := by omega
    have bL : (L : Int) ≤ 100000000000 := by omega
    by_cases hlt : i < L ∧ d < Z
    · have t1 : ((i : Int) < (L : Int)) = True := eq_true (by omega)
      have t1n : (i < L) = True := eq_true hlt.1
      have t2 : ((d : Int) < (Z : Int)) = True := eq_true (by omega)
      have t2n : (d < Z) = True := eq_true hlt.2
      obtain ⟨x, hx⟩ : ∃ x, b[i]? = some x := ⟨_, List.getElem?_eq_getElem (by omega)⟩
      have hxo := a0.2.2.1 x (List.mem_of_getElem? hx)
      obtain ⟨ba, oa, rfl, hcx⟩ : ∃ ba oa, a = some ⟨ba, oa, none⟩ ∧ wr.cell? ⟨ba, oa + i, none⟩ = some (.int .u8 (x : Int)) := by
        rcases a0.2.2.2.2.1 wr hfr.bel with q | ⟨ba, oa, q1, q2⟩
        · rw [q] at hx; simp at hx
        · exact ⟨ba, oa, q1, q2 i x hx⟩
      have hTx : T[d]? = some x := by rw [← AT.out, List.getElem?_drop, show f + d = i by omega]; exact hx
      have hte := dtell_c (r := { r with ev := r.ev ++ bts 1 f (T.take (i - f)) }) i x [] a0.2.2.2.2.2.1 hd (by
        show (r.ev ++ bts 1 f (T.take (i - f))).length < _
        have : (bts 1 f (T.take (i - f))).length ≤ i - f := by
          unfold bts
          rw [if_pos rfl, List.length_mapIdx, List.length_take]
          omega
        rw [List.length_append]
        omega)
      have hev : gevv x [] = #[.int .i64 2, .int .u8 (x : Int), .int .i64 0, .int .i64 0, .string ⟨#[]⟩] := by
        unfold gevv gk1 gk2 gk3
        rw [if_neg (by omega), if_neg (by omega), if_pos hxo, if_neg (by omega)]
        rfl
      rw [hev] at hte
      have AG : Aside (i < L ∧ gk = L - i ∧ d < Z ∧ i - f = d ∧ f ≤ i ∧ Fr lo R w wr ∧ r.ev ++ bts 1 f (T.take (i - f)) ++ [(i, x, [])] = r.ev ++ bts 1 f (T.take (i + 1 - f))) := ⟨hlt.1, hg, hlt.2, hdif, hfi, hfr, by rw [List.append_assoc, show i + 1 - f = (i - f) + 1 by omega, bts_more (by rw [hdif]; exact hTx), show f + (i - f) = i by omega]⟩
      clear hI hfi hiL hg hiZ hd hfr a0 hdif hlt hx hxo hTx hev
      go_wp2_with (go_at_call 22; refine hte.mono ?_; rintro e3 w3 ⟨rfl, ⟨v3, D3⟩, F3⟩)
      have ag := AG.out
      go_roundg (L - (i + 1))
      case measure => omega
      case rel => exact ⟨i + 1, by go_num, ⟨by omega, by omega, rfl, by omega, ⟨v3, by rw [← ag.2.2.2.2.2.2]; exact D3⟩, ag.2.2.2.2.2.1.trans F3⟩⟩
    · -- the bytes are all told
      have hbt : bts 1 f (T.take (i - f)) = bts 1 f (T.take Z) := by
        by_cases hq : i < L
        · rw [show i - f = Z by omega]
        · rw [List.take_of_length_le (by rw [← AT.out, List.length_drop]; omega), List.take_of_length_le (by rw [← AT.out, List.length_drop]; omega)]
      have hnl : (bts 1 f (T.take Z)).length ≤ L - f := by
        unfold bts
        rw [if_pos rfl, List.length_mapIdx, List.length_take, ← AT.out, List.length_drop]
        omega
      rw [hbt] at hd
      obtain ⟨q, hq⟩ : ∃ q, L - f = q := ⟨_, rfl⟩
      have e3 : (L : Int) - (f : Int) = (q : Int) := by omega
      have e4 : IntKind.u64.wrap (q : Int) = (q : Int) := by rw [tw_u64]; omega
      have bq : (q : Int) ≤ 100000000000 := by omega
      have hfv : ∀ b1 : Bool, decide (Z ≤ q) = b1 → fev b f Z = bts 1 f (T.take Z) ++ (if b1 then [(f + Z - 1, 257, [])] else []) := fun b1 hb1 => by
        unfold fev
        rw [AT.out, a0.1, hq, ← hb1]
        simp
      have bf2 : (f : Int) ≤ (L : Int) := by omega
      have hcases : (¬ i < L) ∨ (i < L ∧ ¬ d < Z) := by omega
      by_cases hZq : Z ≤ q
      · have t3 : ((Z : Int) ≤ (q : Int)) = True := eq_true (by omega)
        have t3n : (Z ≤ q) = True := eq_true hZq
        have t3g : ((q : Int) ≥ (Z : Int)) = True := eq_true (by omega)
        obtain ⟨fz, hfz⟩ : ∃ fz, f + Z = fz := ⟨_, rfl⟩
        obtain ⟨f1, hf1⟩ : ∃ f1, fz - 1 = f1 := ⟨_, rfl⟩
        have e5 : IntKind.i64.wrap (Z : Int) = (Z : Int) := IntWalk.i64_in _ ⟨by omega, by omega⟩
        have e6 : (f : Int) + (Z : Int) = (fz : Int) := by omega
        have e7 : (fz : Int) - 1 = (f1 : Int) := by omega
        have bz : (fz : Int) ≤ 200000000000 := by omega
        have bz1 : (1 : Int) ≤ (fz : Int) := by omega
        have bZ2 : (Z : Int) ≤ 100000000000 := by omega
        have hte := dtell_c (r := { r with ev := r.ev ++ bts 1 f (T.take Z) }) f1 257 [] a0.2.2.2.2.2.1 hd (by
          show (r.ev ++ bts 1 f (T.take Z)).length < _
          rw [List.length_append]
          omega)
        have hev : gevv 257 [] = #[.int .i64 3, .int .u8 0, .int .i64 0, .int .i64 0, .string ⟨#[]⟩] := rfl
        rw [hev] at hte
        have hfv1 := hfv true (decide_eq_true hZq)
        rw [if_pos rfl, hfz, hf1] at hfv1
        have AG : Aside (r.ev ++ bts 1 f (T.take Z) ++ [(f1, 257, [])] = r.ev ++ fev b f Z ∧ Fr lo R w wr) := ⟨by rw [hfv1, List.append_assoc], hfr⟩
        rcases hcases with hc1 | ⟨hc1, hc2⟩
        · have t1 : ((i : Int) < (L : Int)) = False := eq_false (by omega)
          have t1n : (i < L) = False := eq_false hc1
          clear hI hfi hiL hg hiZ hd hfr a0 hdif hlt hbt hnl hq hfv hfv1 hev hfz hf1 hZq hc1
          go_wp2_with (go_at_call 22; refine hte.mono ?_; rintro e8 w8 ⟨rfl, ⟨v3, D3⟩, F3⟩)
          first | go_end0 | (refine bodyPost_ret (results_none rfl _ _ _) rfl ?_)
          exact ⟨rfl, ⟨v3, by rw [← AG.out.1]; exact D3⟩, AG.out.2.trans F3⟩
        · have t1 : ((i : Int) < (L : Int)) = True := eq_true (by omega)
          have t1n : (i < L) = True := eq_true hc1
          have t2 : ((d : Int) < (Z : Int)) = False := eq_false (by omega)
          have t2n : (d < Z) = False := eq_false hc2
          clear hI hfi hiL hg hiZ hd hfr a0 hdif hlt hbt hnl hq hfv hfv1 hev hfz hf1 hZq hc1 hc2
          go_wp2_with (go_at_call 22; refine hte.mono ?_; rintro e8 w8 ⟨rfl, ⟨v3, D3⟩, F3⟩)
          first | go_end0 | (refine bodyPost_ret (results_none rfl _ _ _) rfl ?_)
          exact ⟨rfl, ⟨v3, by rw [← AG.out.1]; exact D3⟩, AG.out.2.trans F3⟩
      · have t3 : ((Z : Int) ≤ (q : Int)) = False := eq_false (by omega)
        have t3n : (Z ≤ q) = False := eq_false hZq
        have t3g : ((q : Int) ≥ (Z : Int)) = False := eq_false (by omega)
        have hfv1 := hfv false (decide_eq_false hZq)
        rw [if_neg (by simp), List.append_nil] at hfv1
        have AG : Aside (Dm wr lo R { r with ev := r.ev ++ fev b f Z } v' ∧ Fr lo R w wr) := ⟨by rw [hfv1]; exact hd, hfr⟩
        rcases hcases with hc1 | ⟨hc1, hc2⟩
        · have t1 : ((i : Int) < (L : Int)) = False := eq_false (by omega)
          have t1n : (i < L) = False := eq_false hc1
          clear hI hfi hiL hg hiZ hd hfr a0 hdif hlt hbt hnl hq hfv hfv1 hZq hc1
          go_wp2_with fail
          first | go_end0 | (refine bodyPost_ret (results_none rfl _ _ _) rfl ?_)
          exact ⟨rfl, ⟨v', AG.out.1⟩, AG.out.2⟩
        · have t1 : ((i : Int) < (L : Int)) = True := eq_true (by omega)
          have t1n : (i < L) = True := eq_true hc1
          have t2 : ((d : Int) < (Z : Int)) = False := eq_false (by omega)
          have t2n : (d < Z) = False := eq_false hc2
          clear hI hfi hiL hg hiZ hd hfr a0 hdif hlt hbt hnl hq hfv hfv1 hZq hc1 hc2
          go_wp2_with fail
          first | go_end0 | (refine bodyPost_ret (results_none rfl _ _ _) rfl ?_)
          exact ⟨rfl, ⟨v', AG.out.1⟩, AG.out.2⟩
end
end Go.Proofs.YtcmmjbkgoafbnaaGreatDoor

/-
  What the document's Plain comes to.
-/
namespace Go.Proofs.YtcmmjbkgoafbnaaGreatDoor
open Go.RowKit
set_option linter.unusedVariables false
theorem lies_dr {w : World} {b o : Nat} {l : List Nat} (h : Lies w (some ⟨b, o, none⟩) l) (k : Nat) : Lies w (some ⟨b, o + k, none⟩) (l.drop k) := by
  rcases h with rfl | ⟨b', o', ha, hc⟩
  · exact Or.inl (by simp)
  · cases ha
    refine Or.inr ⟨b, o + k, rfl, fun i x hx => ?_⟩
    rw [List.getElem?_drop] at hx
    rw [Nat.add_assoc]
    exact hc _ _ hx
theorem ust_beq {l : List Nat} (h : Oct l) : ((st l).toList == [117, 115, 116, 97, 114]) = decide (l = [117, 115, 116, 97, 114]) := by
  have := st_beq h (show Oct [117, 115, 116, 97, 114] from by unfold Oct; decide)
  have e : (st [117, 115, 116, 97, 114]).toList = [117, 115, 116, 97, 114] := by rw [ByteArray.toList_eq]; rfl
  rw [e] at this; exact this
theorem nil_beq {l : List Nat} (h : Oct l) : ((st l).toList == []) = decide (l = []) := by
  have := st_beq h Oct.nil
  have e : (st []).toList = [] := by rw [ByteArray.toList_eq]; rfl
  rw [e] at this; exact this
set_option maxRecDepth 20000 in
set_option maxHeartbeats 4000000 in
theorem dplain_c (w : World) (b o C : Nat) (l : List Nat) (hL : l.length = 512) (hLC : 512 ≤ C) (hC : C < 1000000000000) (ho : Oct l) (hli : Lies w (some ⟨b, o, none⟩) l) : Calls Tryz.prog 21 #[.slice (some ⟨b, o, none⟩) 512 C] w fun e w' => e = .returned (.string (st (tnm l))) ∧ ∃ n, w' = w.drewN n := by
  have bC : (512 : Int) ≤ (C : Int) := by omega
  have bC2 : (C : Int) < 1000000000000 := by omega
  have h1 : ∀ m, Calls Tryz.prog 33 #[.slice (some ⟨b, o, none⟩) 100 C] (w.drewN m) fun e w' => e = .returned (.string (st (ttx (l.take 100)))) ∧ w' = w.drewN m := fun m => (dtext_c (w.drewN m) (some ⟨b, o, none⟩) (l.take 100) 100 C (by rw [List.length_take]; omega) (by omega) (by omega) (ho.take _) ((lies_take hli 100).drewN m)).mono fun e w' q => ⟨q.1, q.2.symm⟩
  have h2 : ∀ m, Calls Tryz.prog 33 #[.slice (some ⟨b, o + 345, none⟩) 155 (C - 345)] (w.drewN m) fun e w' => e = .returned (.string (st (ttx ((l.drop 345).take 155)))) ∧ w' = w.drewN m := fun m => (dtext_c (w.drewN m) (some ⟨b, o + 345, none⟩) ((l.drop 345).take 155) 155 (C - 345) (by rw [List.length_take, List.length_drop]; omega) (by omega) (by omega) ((ho.drop _).take _) ((lies_take (lies_dr hli 345) 155).drewN m)).mono fun e w' q => ⟨q.1, q.2.symm⟩
  have s1 : ∀ W : World, (Instr.slice 22 (.slice (some ⟨b, o, none⟩) 512 C) none (some (.int .i64 100)) none).run Tryz.prog W = .ok (.slice (some ⟨b, o, none⟩) 100 C) W := fun W => slice_t b o 512 C 100 (by omega) hLC (by omega) W
  have s2 : ∀ W : World, (Instr.slice 22 (.slice (some ⟨b, o, none⟩) 512 C) (some (.int .i64 345)) (some (.int .i64 500)) none).run Tryz.prog W = .ok (.slice (some ⟨b, o + 345, none⟩) 155 (C - 345)) W := fun W => slice_fe b o 512 C 345 500 (by omega) (by omega) (by omega) W
  have s3 : ∀ W : World, (Instr.slice 22 (.slice (some ⟨b, o, none⟩) 512 C) (some (.int .i64 257)) (some (.int .i64 262)) none).run Tryz.prog W = .ok (.slice (some ⟨b, o + 257, none⟩) 5 (C - 257)) W := fun W => slice_fe b o 512 C 257 262 (by omega) (by omega) (by omega) W
  obtain ⟨C2, hC2⟩ : ∃ C2, C - 345 = C2 := ⟨_, rfl⟩
  obtain ⟨C3, hC3⟩ : ∃ C3, C - 257 = C3 := ⟨_, rfl⟩
  obtain ⟨o2, ho2⟩ : ∃ o2, o + 345 = o2 := ⟨_, rfl⟩
  obtain ⟨o3, ho3⟩ : ∃ o3, o + 257 = o3 := ⟨_, rfl⟩
  rw [hC2, ho2] at h2 s2
  rw [hC3, ho3] at s3
  have hcv : ∀ m, (convert 22 9 (.slice (some ⟨b, o3, none⟩) 5 C3)).run Tryz.prog (w.drewN m) = .ok (.string (st ((l.drop 257).take 5))) (w.drewN m) := fun m => conv_st 5 C3 (by rw [List.length_take, List.length_drop]; omega) ((ho.drop _).take _) (by rw [← ho3]; exact (lies_take (lies_dr hli 257) 5).drewN m)
  obtain ⟨N, hN⟩ : ∃ N, ttx (l.take 100) = N := ⟨_, rfl⟩
  obtain ⟨P, hP⟩ : ∃ P, ttx ((l.drop 345).take 155) = P := ⟨_, rfl⟩
  obtain ⟨U, hU⟩ : ∃ U, (l.drop 257).take 5 = U := ⟨_, rfl⟩
  have hno : Oct N := by rw [← hN]; exact oct_ttx (ho.take _)
  have hpo : Oct P := by rw [← hP]; exact oct_ttx ((ho.drop _).take _)
  have hnl : N.length ≤ 100 := by rw [← hN]; have := ttx_len (l.take 100); rw [List.length_take] at this; omega
  have hpl : P.length ≤ 155 := by rw [← hP]; have := ttx_len ((l.drop 345).take 155); rw [List.length_take] at this; omega
  have hub := ust_beq (l := U) (by rw [← hU]; exact (ho.drop _).take _)
  have hpb := nil_beq hpo
  have htn : tnm l = if U = [117, 115, 116, 97, 114] ∧ P ≠ [] then P ++ [47] ++ N else N := by unfold tnm; rw [hN, hP, hU]
  rw [htn]
  rw [hN] at h1
  rw [hP] at h2
  rw [hU] at hcv
  obtain ⟨sn, hsn⟩ : ∃ sn, st N = sn := ⟨_, rfl⟩
  obtain ⟨sp, hsp⟩ : ∃ sp, st P = sp := ⟨_, rfl⟩
  obtain ⟨su, hsu⟩ : ∃ su, st U = su := ⟨_, rfl⟩
  rw [hsn] at h1
  rw [hsp] at h2 hpb
  rw [hsu] at hcv hub
  have AS : Aside (st N = sn ∧ st P = sp) := ⟨hsn, hsp⟩
  clear hL hLC hC ho hli hC2 hC3 ho2 ho3 hN hP hU htn hsu
  by_cases hu : U = [117, 115, 116, 97, 114]
  · have t1 : (su.toList == [117, 115, 116, 97, 114]) = true := by rw [hub]; exact decide_eq_true hu
    by_cases hp : P = []
    · have t2 : (sp.toList == []) = true := by rw [hpb]; exact decide_eq_true hp
      have hs0 : sp = ⟨#[]⟩ := by rw [← hsp, hp]; rfl
      rw [if_neg (fun q => q.2 hp)]
      subst hs0
      clear hub hpb hno hpo hnl hpl hp hsp hsn hu
      rw [AS.out.1]
      go_enter Tryz.func21, Tryz.ntmps21
      go_upto_region 1 with fail
      go_quiet ((first | (go_at_call 33; with_reducible refine Calls.quiet_of_same (h1 _)) | (go_at_call 33; with_reducible refine Calls.quiet_of_same (h2 _))))
      go_wp2_with fail
      first | go_ret | go_ret2
      exact ⟨rfl, _, rfl⟩
    · have t2 : (sp.toList == []) = false := by rw [hpb]; exact decide_eq_false hp
      rw [if_pos ⟨hu, hp⟩]
      have zp : sp.size = P.length := by rw [← hsp, st_size]
      have zn : sn.size = N.length := by rw [← hsn, st_size]
      have e1 : sp ++ ⟨#[47]⟩ = st (P ++ [47]) := by rw [← st_append, hsp]; rfl
      have e2 : st (P ++ [47]) ++ sn = st (P ++ [47] ++ N) := by rw [← hsn, st_append]
      have z2 : (st (P ++ [47])).size = P.length + 1 := by rw [st_size, List.length_append]; rfl
      obtain ⟨lp, hlp⟩ : ∃ lp, P.length = lp := ⟨_, rfl⟩
      obtain ⟨ln, hln⟩ : ∃ ln, N.length = ln := ⟨_, rfl⟩
      rw [hlp] at zp z2 hpl
      rw [hln] at zn hnl
      obtain ⟨sa, hsa⟩ : ∃ sa, st (P ++ [47]) = sa := ⟨_, rfl⟩
      obtain ⟨sb, hsb⟩ : ∃ sb, st (P ++ [47] ++ N) = sb := ⟨_, rfl⟩
      rw [hsa, hsb] at e2
      rw [hsa] at e1 z2
      rw [hsb]
      have g1 : (9223372036854775807 < lp + 1) = False := eq_false (by omega)
      have g2 : (9223372036854775807 < lp + 1 + ln) = False := eq_false (by omega)
      clear hub hpb hno hpo hp hsp hsn hu hlp hln hsa hsb AS
      go_enter Tryz.func21, Tryz.ntmps21
      go_upto_region 1 with fail
      go_quiet ((first | (go_at_call 33; with_reducible refine Calls.quiet_of_same (h1 _)) | (go_at_call 33; with_reducible refine Calls.quiet_of_same (h2 _))))
      go_wp2_with fail
      first | go_ret | go_ret2
      exact ⟨rfl, _, rfl⟩
  · have t1 : (su.toList == [117, 115, 116, 97, 114]) = false := by rw [hub]; exact decide_eq_false hu
    rw [if_neg (fun q => hu q.1), AS.out.1]
    clear hub hpb hno hpo hnl hpl hsp hsn hu
    go_enter Tryz.func21, Tryz.ntmps21
    go_upto_region 1 with fail
    go_quiet ((first | (go_at_call 33; with_reducible refine Calls.quiet_of_same (h1 _)) | (go_at_call 33; with_reducible refine Calls.quiet_of_same (h2 _))))
    go_wp2_with fail
    first | go_ret | go_ret2
    exact ⟨rfl, _, rfl⟩
end Go.Proofs.YtcmmjbkgoafbnaaGreatDoor

/-
  What the document's Of tells of a header, beside the machine. No walk.
-/
namespace Go.Proofs.YtcmmjbkgoafbnaaGreatDoor
open Go.RowKit
set_option linter.unusedVariables false
/-- What is told of a header and its data. -/
def Ev (b : List Nat) (t : Nat) (cn : Option (List Nat)) (Z : Nat) : List Gev := evs (t + 511) (topn (hb b t) cn) ++ (if tisf (tkd (hb b t)) then fev b (t + 512) Z else [])
theorem tus_file {k : Nat} (h : tisf k = true) : tus k = 1 := by
  unfold tisf at h
  simp only [Bool.or_eq_true, beq_iff_eq] at h
  rcases h with (e | e) | e <;> rw [e] <;> rfl
theorem tus_nofile {k : Nat} (h : tisf k = false) : tus k ≠ 1 := by
  unfold tus
  split
  · decide
  · split
    · decide
    · rw [h]; decide
theorem bts_none {us : Nat} (h : us ≠ 1) (t : Nat) (l : List Nat) : bts us t l = [] := by unfold bts; rw [if_neg h]
theorem ev_part {b : List Nat} {t Z : Nat} {cn : Option (List Nat)} (h1 : t + 512 ≤ b.length) (h : b.length - t - 512 < Z) : Ev b t cn Z = hev (hb b t) cn t (b.drop (t + 512)) := by
  unfold Ev hev
  cases hf : tisf (tkd (hb b t)) with
  | true =>
    rw [if_pos rfl, tus_file hf]
    unfold fev
    rw [if_neg (by omega), List.append_nil, List.take_of_length_le (by rw [List.length_drop]; omega)]
  | false =>
    rw [if_neg (by simp), bts_none (tus_nofile hf)]
theorem ev_all {b : List Nat} {t Z : Nat} {cn : Option (List Nat)} (h1 : t + 512 ≤ b.length) (h : Z ≤ b.length - t - 512) : Ev b t cn Z = hev (hb b t) cn t ((b.drop (t + 512)).take Z) ++ evs (t + 511 + Z) (tcl (tus (tkd (hb b t)))) := by
  unfold Ev hev
  cases hf : tisf (tkd (hb b t)) with
  | true =>
    rw [if_pos rfl, tus_file hf]
    unfold fev
    have hz : Z ≤ b.length - (t + 512) := by rw [← Nat.sub_sub]; exact h
    rw [if_pos hz, ← List.append_assoc]
    have e8 : tcl 1 = [(257, [])] := rfl
    rw [e8]
    have e9 : evs (t + 511 + Z) [(257, ([] : List Nat))] = [(t + 511 + Z, 257, [])] := by simp [evs]
    rw [e9, show t + 512 + Z - 1 = t + 511 + Z by omega]
  | false =>
    rw [if_neg (by simp), bts_none (tus_nofile hf)]
    unfold tcl
    rw [if_neg (tus_nofile hf)]
    simp [evs]
theorem fev_len (b : List Nat) (f Z : Nat) : (fev b f Z).length ≤ Z + 1 := by
  unfold fev
  rw [List.length_append]
  have : (bts 1 f ((b.drop f).take Z)).length ≤ Z := by
    unfold bts
    rw [if_pos rfl, List.length_mapIdx, List.length_take]
    omega
  split <;> simp <;> omega
theorem topn_len (B : List Nat) (cn : Option (List Nat)) : (topn B cn).length ≤ 1 := by
  unfold topn
  split <;> simp
theorem hev_len (h : List Nat) (cn : Option (List Nat)) (t : Nat) (d : List Nat) : (hev h cn t d).length ≤ d.length + 1 := by
  unfold hev
  rw [List.length_append]
  have h1 : (evs (t + 511) (topn h cn)).length ≤ 1 := by
    unfold evs
    rw [List.length_map]
    exact topn_len _ _
  have h2 : (bts (tus (tkd h)) (t + 512) d).length ≤ d.length := by
    unfold bts
    split
    · rw [List.length_mapIdx]; exact Nat.le_refl _
    · exact Nat.zero_le _
  omega
theorem ev_len (b : List Nat) (t Z : Nat) (cn : Option (List Nat)) : (Ev b t cn Z).length ≤ Z + 2 := by
  unfold Ev
  rw [List.length_append]
  have h1 : (evs (t + 511) (topn (hb b t) cn)).length ≤ 1 := by
    unfold evs
    rw [List.length_map]
    exact topn_len _ _
  have h2 := fev_len b (t + 512) Z
  split <;> simp <;> omega
theorem ev_none {b : List Nat} {t Z : Nat} {cn : Option (List Nat)} (h : tisf (tkd (hb b t)) = false) : Ev b t cn Z = [] := by
  unfold Ev topn
  rw [if_neg (by rw [h]; simp), if_neg (by rw [h]; simp)]
  rfl
theorem ev_file {b : List Nat} {t Z : Nat} {cn : Option (List Nat)} (h : tisf (tkd (hb b t)) = true) : Ev b t cn Z = [(t + 511, 256, cn.getD (tnm (hb b t)))] ++ fev b (t + 512) Z := by
  unfold Ev topn
  rw [if_pos h, if_pos h]
  rfl
theorem town_nofile {k : Nat} (h : town k = false) : tisf k = false := by
  unfold town at h
  unfold tisf
  have : k = 76 ∨ k = 120 ∨ k = 75 ∨ k = 103 := by
    by_cases h1 : k = 76
    · exact Or.inl h1
    by_cases h2 : k = 120
    · exact Or.inr (Or.inl h2)
    by_cases h3 : k = 75
    · exact Or.inr (Or.inr (Or.inl h3))
    simp at h
    exact Or.inr (Or.inr (Or.inr (h h1 h2 h3)))
  rcases this with rfl | rfl | rfl | rfl <;> decide
theorem town_fin {k : Nat} (h : town k = true) (d : List Nat) (c : Cm) : tfin (tus k) d c = (c, 0) := by
  have h1 : k ≠ 76 ∧ k ≠ 120 := by
    unfold town at h
    simp at h
    exact ⟨h.1.1.1, h.1.1.2⟩
  have : tus k = 0 ∨ tus k = 1 := by
    unfold tus
    rw [if_neg h1.1, if_neg h1.2]
    split
    · exact Or.inr rfl
    · exact Or.inl rfl
  unfold tfin
  rcases this with e | e <;> rw [e] <;> rfl
theorem tkd_at {b : List Nat} {t k : Nat} (h : b[t + 156]? = some k) : tkd (hb b t) = k := by
  unfold tkd hb
  rw [List.getD_eq_getElem?_getD, List.getElem?_take, if_pos (by decide), List.getElem?_drop, h]
  rfl
theorem Lp.okc {b : List Nat} {t : Nat} {T : List Gev} {c : Cm} (h : Lp b t T c) (ho : Oct b) : Okc c := by
  obtain ⟨s, h1, h2⟩ := h.ex
  have := (h1.ok ho).ok.cm
  rw [h2.cm] at this
  exact this
/-- The document's run between headers. -/
structure Or (b : List Nat) (t L : Nat) (r : Dr) : Prop where
  lp : Lp b t r.ev r.cm
  why : r.why = 0
  sat : r.sat = L
  sp : r.sp = false
  ln : r.ev.length ≤ 2 * t
/-- Behind a header: what came of it. -/
structure Oh (b : List Nat) (t L Z : Nat) (r r2 : Dr) : Prop where
  ev : r2.ev = r.ev ++ Ev b t r.cm.1 Z
  cm : r2.cm = tcm (tkd (hb b t)) r.cm
  why : r2.why = 0
  sat : r2.sat = L
  sp : r2.sp = false
section
variable {b : List Nat} {t L Z z y : Nat} {r r2 r3 : Dr}
theorem Or.part (h : Or b t L r) (hL : b.length = L) (h1 : t + 512 ≤ L) (g : Hg (hb b t) z) (hZ : tsz (tkd (hb b t)) z r.cm.2 = Z) (q : Oh b t L Z r r2) (hs : L - t - 512 < Z) : Fo b (dstop 1 L r2).ev (dstop 1 L r2).why (dstop 1 L r2).sat := by
  subst hL
  have := h.lp.part h1 g (by rw [hZ]; exact hs)
  rw [← ev_part h1 hs, ← q.ev] at this
  exact this
theorem Or.told (h : Or b t L r) (hL : b.length = L) (h1 : t + 512 ≤ L) (g : Hg (hb b t) z) (hZ : tsz (tkd (hb b t)) z r.cm.2 = Z) (q : Oh b t L Z r r2) (hs : Z ≤ L - t - 512) (ha : Af r2 r3 (tfin (tus (tkd (hb b t))) ((b.drop (t + 512)).take Z) r2.cm) (t + 511 + Z)) (hsp : r3.sp = true) : Fo b r3.ev r3.why r3.sat := by
  subst hL
  obtain ⟨a1, a2, a3⟩ := ha
  rw [q.cm] at a2 a3
  have hy : (tfin (tus (tkd (hb b t))) ((b.drop (t + 512)).take Z) (tcm (tkd (hb b t)) r.cm)).2 ≠ 0 := fun e => by
    have := (a2 e).2.1
    rw [hsp] at this; cases this
  obtain ⟨b1, b2, b3⟩ := a3 hy
  have := h.lp.told h1 g hZ hs (c' := (tfin (tus (tkd (hb b t))) ((b.drop (t + 512)).take Z) (tcm (tkd (hb b t)) r.cm)).1) (y := (tfin (tus (tkd (hb b t))) ((b.drop (t + 512)).take Z) (tcm (tkd (hb b t)) r.cm)).2) rfl hy
  rw [← ev_all h1 hs, ← q.ev, ← a1, ← b2, ← b3] at this
  exact this
theorem Or.good (q : Oh b t L Z r r2) (ha : Af r2 r3 (tfin (tus (tkd (hb b t))) ((b.drop (t + 512)).take Z) r2.cm) (t + 511 + Z)) (hsp : r3.sp = false) : r3.ev = r.ev ++ Ev b t r.cm.1 Z ∧ tfin (tus (tkd (hb b t))) ((b.drop (t + 512)).take Z) (tcm (tkd (hb b t)) r.cm) = (r3.cm, 0) ∧ r3.why = 0 ∧ r3.sat = L := by
  obtain ⟨a1, a2, a3⟩ := ha
  rw [q.cm] at a2 a3
  have hy : (tfin (tus (tkd (hb b t))) ((b.drop (t + 512)).take Z) (tcm (tkd (hb b t)) r.cm)).2 = 0 := Classical.byContradiction fun e => by
    have := (a3 e).1
    rw [hsp] at this; cases this
  obtain ⟨b1, b2, b3, b4⟩ := a2 hy
  refine ⟨a1.trans q.ev, ?_, b3.trans q.why, b4.trans q.sat⟩
  rw [b1, ← hy]
theorem Or.pad (h : Or b t L r) (hL : b.length = L) (h1 : t + 512 ≤ L) (g : Hg (hb b t) z) (hZ : tsz (tkd (hb b t)) z r.cm.2 = Z) (q : Oh b t L Z r r2) (hs : Z ≤ L - t - 512) (ha : Af r2 r3 (tfin (tus (tkd (hb b t))) ((b.drop (t + 512)).take Z) r2.cm) (t + 511 + Z)) (hsp : r3.sp = false) (hp : L - t - 512 - Z < (512 - Z % 512) % 512) : Fo b (dstop 1 L r3).ev (dstop 1 L r3).why (dstop 1 L r3).sat := by
  subst hL
  obtain ⟨g1, g2, g3, g4⟩ := Or.good q ha hsp
  have := h.lp.pad h1 g hZ hs g2 hp
  rw [← ev_all h1 hs, ← g1] at this
  exact this
theorem Or.next (h : Or b t L r) (hL : b.length = L) (h1 : t + 512 ≤ L) (g : Hg (hb b t) z) (hZ : tsz (tkd (hb b t)) z r.cm.2 = Z) (q : Oh b t L Z r r2) (hs : Z ≤ L - t - 512) (ha : Af r2 r3 (tfin (tus (tkd (hb b t))) ((b.drop (t + 512)).take Z) r2.cm) (t + 511 + Z)) (hsp : r3.sp = false) (hp : (512 - Z % 512) % 512 ≤ L - t - 512 - Z) : Or b (t + 512 + Z + (512 - Z % 512) % 512) L r3 := by
  obtain ⟨g1, g2, g3, g4⟩ := Or.good q ha hsp
  have hev := ev_len b t Z r.cm.1
  have hln := h.ln
  subst hL
  have := h.lp.next h1 g hZ hs g2 hp
  rw [← ev_all h1 hs, ← g1] at this
  refine ⟨this, g3, g4, hsp, ?_⟩
  rw [g1, List.length_append]
  omega
end
theorem Dm.clr {w : World} {lo R : Nat} {r : Dr} {v : Value} (h : Dm w lo R r v) : Dm ((w.setCell ⟨R, 4, none⟩ (.bool false)).setCell ⟨R, 6, none⟩ (.bool false)) lo R { r with nd := false, sd := false } v ∧ Only R w ((w.setCell ⟨R, 4, none⟩ (.bool false)).setCell ⟨R, 6, none⟩ (.bool false)) ∧ (w.setCell ⟨R, 4, none⟩ (.bool false)).cell? ⟨R, 6, none⟩ = some (.bool r.sd) ∧ (w.setCell ⟨R, 4, none⟩ (.bool false)).frozen? ⟨R, 6, none⟩ = false := by
  have o : Only R w ((w.setCell ⟨R, 4, none⟩ (.bool false)).setCell ⟨R, 6, none⟩ (.bool false)) := ((Only.refl R w).setCell 4 _).setCell 6 _
  have k := h.cells.set 4 (.bool false)
  exact ⟨h.only o rfl (k.set 6 (.bool false)), o, (k.cell 6).trans rfl, k.frozen 6⟩
theorem size29t : (Tryz.prog.info? 31).map (·.size) = some 8 := by kernel_rfl
/-- What Of answers. -/
structure Ofr (b : List Nat) (B : Nat) (w : World) (e : Ending) (w' : World) : Prop where
  ex : ∃ (r : Dr) (v : Value), e = .returned (.agg (dcs r v)) ∧ Fo b r.ev r.why r.sat ∧ r.ev.length ≤ 3 * b.length ∧ Ow w' B 56 6 v r.ev.length (gcs r.ev) ∧ Below B w w'
abbrev zrd : Array Value := #[.slice none 0 0, .int .i64 0, .int .i64 0, .string ⟨#[]⟩, .bool false, .int .u64 0, .bool false, .bool false]
theorem of_fin {w wr : World} {H R : Nat} {r : Dr} {v z0 z1 z2 z3 z4 z5 z6 z7 : Value} (g : Dm wr H R r v) (bel : Below H w wr) (kH : Cells wr H #[z0, z1, z2, z3, z4, z5, z6, z7] 31) :
    Cells ((((((((wr.setCell ⟨H, 0, none⟩ v).setCell ⟨H, 1, none⟩ (.int .i64 (r.why : Int))).setCell ⟨H, 2, none⟩ (.int .i64 (r.sat : Int))).setCell ⟨H, 3, none⟩ (.string (st r.nm))).setCell ⟨H, 4, none⟩ (.bool r.nd)).setCell ⟨H, 5, none⟩ (.int .u64 (r.sz : Int))).setCell ⟨H, 6, none⟩ (.bool r.sd)).setCell ⟨H, 7, none⟩ (.bool r.sp)) H (dcs r v) 31 ∧ Ow ((((((((wr.setCell ⟨H, 0, none⟩ v).setCell ⟨H, 1, none⟩ (.int .i64 (r.why : Int))).setCell ⟨H, 2, none⟩ (.int .i64 (r.sat : Int))).setCell ⟨H, 3, none⟩ (.string (st r.nm))).setCell ⟨H, 4, none⟩ (.bool r.nd)).setCell ⟨H, 5, none⟩ (.int .u64 (r.sz : Int))).setCell ⟨H, 6, none⟩ (.bool r.sd)).setCell ⟨H, 7, none⟩ (.bool r.sp)) H 56 6 v r.ev.length (gcs r.ev) ∧ Below H w ((((((((wr.setCell ⟨H, 0, none⟩ v).setCell ⟨H, 1, none⟩ (.int .i64 (r.why : Int))).setCell ⟨H, 2, none⟩ (.int .i64 (r.sat : Int))).setCell ⟨H, 3, none⟩ (.string (st r.nm))).setCell ⟨H, 4, none⟩ (.bool r.nd)).setCell ⟨H, 5, none⟩ (.int .u64 (r.sz : Int))).setCell ⟨H, 6, none⟩ (.bool r.sd)).setCell ⟨H, 7, none⟩ (.bool r.sp)) := by
  have o : Only H wr ((((((((wr.setCell ⟨H, 0, none⟩ v).setCell ⟨H, 1, none⟩ (.int .i64 (r.why : Int))).setCell ⟨H, 2, none⟩ (.int .i64 (r.sat : Int))).setCell ⟨H, 3, none⟩ (.string (st r.nm))).setCell ⟨H, 4, none⟩ (.bool r.nd)).setCell ⟨H, 5, none⟩ (.int .u64 (r.sz : Int))).setCell ⟨H, 6, none⟩ (.bool r.sd)).setCell ⟨H, 7, none⟩ (.bool r.sp)) := ((((((((Only.refl H wr).setCell 0 _).setCell 1 _).setCell 2 _).setCell 3 _).setCell 4 _).setCell 5 _).setCell 6 _).setCell 7 _
  have k8 := (((((((kH.set 0 v).set 1 (.int .i64 (r.why : Int))).set 2 (.int .i64 (r.sat : Int))).set 3 (.string (st r.nm))).set 4 (.bool r.nd)).set 5 (.int .u64 (r.sz : Int))).set 6 (.bool r.sd)).set 7 (.bool r.sp)
  simp only [List.setIfInBounds_toArray, List.set_cons_zero, List.set_cons_succ] at k8
  refine ⟨k8, ?_, bel.trans (o.below (Nat.le_refl _))⟩
  refine g.ow.keep (Nat.le_of_eq o.size.symm) fun i _ _ ⟨cs, fr, hx⟩ => o.block i (fun e => ?_)
  subst e
  unfold Cells at kH
  rw [kH] at hx
  cases hx
theorem keepH {H : Nat} {w1 wr : World} {cs : Array Value} (k : Cells w1 H cs 31) (hz : w1.heap.size = H + 2) (h : Fr H (H + 1) w1 wr) : Cells wr H cs 31 := by
  unfold Cells at *
  rw [h.kp H (by omega) (by omega) (by rw [k]; intro cs h; cases h)]
  exact k
end Go.Proofs.YtcmmjbkgoafbnaaGreatDoor

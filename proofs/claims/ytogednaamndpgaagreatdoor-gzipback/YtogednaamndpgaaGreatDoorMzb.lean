/-
  Own texts of this seat, one behind the other: what each says stands ahead of it.
-/
import Derived.Test.YtogednaamndpgaaGreatDoorMza
/-
 A whole file as it is written: how the machine runs over it, what Whole makes of it. No walk.
-/
namespace Go.Proofs.YtogednaamndpgaaGreatDoor
open Go.RowKit
set_option linter.unusedVariables false
section
variable {b : List Nat}
def Nq (b : List Nat) (i : Nat) (T : List Gev) : Prop := ∃ s, Rch b i s T ∧ s.why = 0 ∧ s.wh = true ∧ ((s.nx = 12 ∧ b[i]? ≠ some 31) ∨ s.nx = 13)
theorem Nq.step {i : Nat} {T : List Gev} (h : Nq b i T) (hx : b[i]? = some 0) : Nq b (i + 1) T := by
 obtain ⟨s, h1, h2, h3, h4⟩ := h
 rcases h4 with ⟨h4, _⟩ | h4
 ·have e : gst s 0 = ({ s with nx := 13 }, []) := by unfold gst; rw [h4]; rfl
  have := h1.step h2 hx (Or.inr ⟨by rw [h4]; decide, rfl, rfl⟩)
  rw [e] at this
  rw [show T ++ evs i ({ s with nx := 13 }, ([] : List Evn)).2 = T from List.append_nil _] at this
  exact ⟨{ s with nx := 13 }, this, h2, h3, Or.inr rfl⟩
 ·have e : gst s 0 = (s, []) := by unfold gst; rw [h4]; rfl
  have := h1.step h2 hx (Or.inr ⟨by rw [h4]; decide, rfl, rfl⟩)
  rw [e] at this
  exact ⟨_, by simpa [evs] using this, h2, h3, Or.inr h4⟩
theorem Nq.bad {i x : Nat} {T : List Gev} (h : Nq b i T) (hx : b[i]? = some x) (h0 : x ≠ 0) : ∃ s', Rch b (i + 1) s' T ∧ s'.why = 47 := by
 obtain ⟨s, h1, h2, h3, h4⟩ := h
 have e : ∃ s', gst s x = (s', []) ∧ s'.why = 47 := by
  rcases h4 with ⟨h4, h5⟩ | h4
  ·refine ⟨{ gnou x s with nx := 13 }, ?_, ?_⟩
   ·unfold gst; rw [h4]
    show (if x = 31 then gbgn x s else { gnou x s with nx := 13 }, []) = _
    rw [if_neg (fun e => h5 (by rw [hx, e]))]
   ·show (gnou x s).why = 47
    unfold gnou; rw [if_neg h0]; rfl
  ·refine ⟨gnou x s, by unfold gst; rw [h4]; rfl, ?_⟩
   unfold gnou; rw [if_neg h0]; rfl
 obtain ⟨s', e1, e2⟩ := e
 have := h1.step h2 hx (Or.inr ⟨by rcases h4 with ⟨h4, _⟩ | h4 <;> rw [h4] <;> decide, rfl, rfl⟩)
 rw [e1] at this
 exact ⟨s', by simpa [evs] using this, e2⟩
theorem nq_all : ∀ (k i : Nat) (T : List Gev), Nq b i T → (∀ j, j < k → b[i + j]? = some 0) → Nq b (i + k) T
 | 0, i, T, h, _ => h
 | k + 1, i, T, h, hj => by
  have := nq_all k (i + 1) T (h.step (hj 0 (by omega))) (fun j hjk => by have := hj (j + 1) (by omega); rw [← this]; congr 1; omega)
  rw [show i + (k + 1) = i + 1 + k by omega]
  exact this
theorem sp_start (b : List Nat) (K : Nat) : Sp0 b ⟨[], 0, b.length, 0, K⟩ s0 := ⟨rfl, rch_zero b, rfl, Or.inl ⟨rfl, rfl⟩, rfl, by decide⟩
theorem sm_b (d : List Nat) (h : Oct d) : sm 0 d < 4294967296 := sm_lt d (by decide) h
theorem file_run {ws : List Wm} {k : Nat} (ho : Oct b) (hne : ws ≠ []) (hok : ∀ m ∈ ws, m.Ok 10000) (hb : b = wal ws ++ List.replicate k 0) : ∃ s T, Rch b b.length s T ∧ zfin s = 0 ∧ sndl T = wel ws := by
 obtain ⟨r, s, h1, h2, h3⟩ := members_run ho (K := 10000) (by unfold MM; omega) sm_b ws (List.replicate k 0) _ s0 hne (sp_start b 10000) hok (by show b.drop 0 = _; rw [List.drop_zero]; exact hb)
 have hp : r.pos = (wal ws).length := by rw [h2]; show 0 + _ = _; omega
 have hev : sndl r.ev = wel ws := by rw [h3]; rfl
 have hl : b.length = r.pos + k := by rw [hb, hp]; simp
 have at0 : ∀ j, j < k → b[r.pos + j]? = some 0 := fun j hj => by
  rw [hb, hp, List.getElem?_append_right (by omega), Nat.add_sub_cancel_left]
  simp [hj]
 have hq : Nq b r.pos r.ev := ⟨s, h1.rch, h1.sw, h1.wh, Or.inl ⟨h1.nx, by
  by_cases hk : 0 < k
  ·have := at0 0 hk; rw [Nat.add_zero] at this; rw [this]; simp
  ·rw [List.getElem?_eq_none (by omega)]; simp⟩⟩
 obtain ⟨s', q1, q2, q3, _⟩ := nq_all k _ _ hq at0
 rw [← hl] at q1
 exact ⟨s', r.ev, q1, by unfold zfin; rw [if_neg (fun e => e q2), if_pos q3], hev⟩
end
theorem ct_few : ∀ (m : Nat) (cs : List Nat), nbe cs ≤ m → ct m cs = (cs, false)
 | _, [], _ => by unfold ct; rfl
 | 0, g :: r, h => by
  simp only [nbe] at h
  have hg : ¬ g < 256 := by intro e; rw [if_pos e] at h; omega
  rw [ct_big hg, ct_few 0 r (by omega)]
 | m + 1, g :: r, h => by
  simp only [nbe] at h
  by_cases hg : g < 256
  ·rw [if_pos hg] at h
   have e : ct (m + 1) (g :: r) = (g :: (ct m r).1, (ct m r).2) := by simp [ct, hg]
   rw [e, ct_few m r (by omega)]
  ·rw [ct_big hg, ct_few (m + 1) r (by rw [if_neg hg] at h; omega)]
theorem rs_wel {ws : List Wm} {T : List Gev} {N y : Nat} (h : sndl T = wel ws) (hN : wdl ws ≤ N) (ho : ∀ m ∈ ws, Oct m.d) : rs N y [] (cds T) = (ws.map Wm.d, y) := by
 have e : cds T = (wel ws).map Prod.fst := by rw [cds_sndl, h]
 unfold rs
 rw [e, ct_few N _ (by rw [nbe_wel ws ho]; exact hN)]
 have := po_wel ws [] [] ho
 simp only [List.append_nil, List.nil_append, po] at this
 simp [this]
section
variable {ms : List Mb} {zs : List (List Nat)}
theorem wms_cons (m : Mb) (ms : List Mb) (z : List Nat) (zs : List (List Nat)) : wms (m :: ms) (z :: zs) = wmk m z :: wms ms zs := rfl
theorem zall_cons {m : Mb} {z : List Nat} (h : Zall (m :: ms) (z :: zs)) : Zok m z ∧ Zall ms zs := ⟨h.2 0 m z rfl rfl, by have := h.1; simpa using this, fun i m' z' h1 h2 => h.2 (i + 1) m' z' (by simpa using h1) (by simpa using h2)⟩
structure Wok (ms : List Mb) (ws : List Wm) : Prop where
 ok : ∀ x ∈ ws, x.Ok 10000
 d : ws.map Wm.d = ms.map Mb.dt
 n : ws.map Wm.n = ms.map fun m => nmd m.nm
 oc : ∀ x ∈ ws, Oct x.bytes
 w : wdl ws ≤ msz ms
theorem wms_ok : ∀ (ms : List Mb) (zs : List (List Nat)), Zall ms zs → (∀ m ∈ ms, Mok m) → Wok ms (wms ms zs)
 | [], zs, h, _ => ⟨fun x hx => by simp [wms] at hx, rfl, rfl, fun x hx => by simp [wms] at hx, Nat.le_refl _⟩
 | m :: ms, [], h, _ => by have := h.1; simp at this
 | m :: ms, z :: zs, h, hm => by
  obtain ⟨h1, h2⟩ := zall_cons h
  have ih := wms_ok ms zs h2 (fun x hx => hm x (List.mem_cons_of_mem _ hx))
  have hk := hm m (List.mem_cons_self ..)
  rw [wms_cons]
  have ob1 : Oct (wmk m z).bytes := by
   unfold Wm.bytes Wm.head wmk
   refine Oct.append (Oct.append (Oct.append (Oct.append (hten_oct (by have := wfl_lt m; show wfl m < 256; omega)) (wX_oct hk)) (wN_oct hk)) ?_) (h1.oc.append ((nbs_oct 4 _).append (nbs_oct 4 _)))
   unfold wS
   split
   ·exact nbs_oct 2 _
   ·exact Oct.nil
  refine ⟨fun x hx => ?_, by simp [ih.d, wmk], by simp [ih.n, wmk], fun x hx => ?_, ?_⟩
  ·rcases List.mem_cons.1 hx with rfl | hx
   ·exact ⟨wmk_hw m, h1.ho, hk.dt⟩
   ·exact ih.ok x hx
  ·rcases List.mem_cons.1 hx with rfl | hx
   ·exact ob1
   ·exact ih.oc x hx
  ·have := ih.w
   simp only [wdl, msz]
   show m.dt.length + _ ≤ _
   omega
theorem Wok.wal {ws : List Wm} (h : Wok ms ws) : Oct (wal ws) := fun x hx => by
 unfold Go.Proofs.YtogednaamndpgaaGreatDoor.wal at hx
 obtain ⟨m, h1, h2⟩ := List.mem_flatMap.1 hx
 exact h.oc m h1 x h2
theorem wms_ne (h : Zall ms zs) (hne : ms ≠ []) : wms ms zs ≠ [] := by
 cases ms with
 | nil => exact absurd rfl hne
 | cons m ms =>
  cases zs with
  | nil => have := h.1; simp at this
  | cons z zs => simp [wms]
end
theorem Wok.append {ms ns : List Mb} {ws vs : List Wm} (h : Wok ms ws) (k : Wok ns vs) : Wok (ms ++ ns) (ws ++ vs) := by
 have e1 : ∀ l m : List Wm, wdl (l ++ m) = wdl l + wdl m := fun l m => by
  induction l with
  | nil => simp [wdl]
  | cons x l ih => simp only [List.cons_append, wdl, ih]; omega
 have e2 : ∀ l m : List Mb, msz (l ++ m) = msz l + msz m := fun l m => by
  induction l with
  | nil => simp [msz]
  | cons x l ih => simp only [List.cons_append, msz, ih]; omega
 refine ⟨fun x hx => ?_, by simp [h.d, k.d], by simp [h.n, k.n], fun x hx => ?_, by rw [e1, e2]; have := h.w; have := k.w; omega⟩
 ·rcases List.mem_append.1 hx with q | q
  ·exact h.ok x q
  ·exact k.ok x q
 ·rcases List.mem_append.1 hx with q | q
  ·exact h.oc x q
  ·exact k.oc x q
end Go.Proofs.YtogednaamndpgaaGreatDoor

/-
 What given comes to; what small says of members.
-/
namespace Go.Proofs.YtogednaamndpgaaGreatDoor
open Go.RowKit
set_option linter.unusedVariables false
structure Mo0 (m : Mb) : Prop where
 nm : Oct m.nm
 nl : m.nm.length ≤ 9223372036854775807
 ex : Oct m.ex
 el : m.ex.length ≤ 9223372036854775807
 dt : Oct m.dt
 dl : m.dt.length ≤ 140737488355328
 pl : m.ps.length ≤ 140737488355328
 pb : ∀ p ∈ m.ps, p.kd < 256 ∧ p.by_ < 65536
theorem msz_mem {m : Mb} : ∀ {ms : List Mb}, m ∈ ms → m.dt.length + 20 * m.ps.length ≤ msz ms
 | [], h => by cases h
 | x :: l, h => by
  rcases List.mem_cons.1 h with rfl | h
  ·simp only [msz]; omega
  ·have := msz_mem h; simp only [msz]; omega
theorem mok_all {ms : List Mb} (h : ∀ m ∈ ms, Mo0 m) (hs : ms.length + msz ms < 3000) : ∀ m ∈ ms, Mok m := fun m hm => by
 have k := h m hm
 have q := msz_mem hm
 exact ⟨k.nm, by have := k.nl; omega, k.ex, by have := k.el; omega, k.dt, by omega, by omega, k.pb⟩
theorem Gl.below {w u : World} {lo : Nat} {v : Value} {ls : List (List Nat)} (h : Gl w lo v ls) (k : Below w.heap.size w u) : Gl u lo v ls := by
 obtain ⟨vs, h1, h2, h3⟩ := h.ex
 refine ⟨vs, h1, h2.below k (Nat.le_refl _), fun i x l hx hl => ?_⟩
 obtain ⟨a1, c1, q1, q2⟩ := h3 i x l hx hl
 exact ⟨a1, c1, q1, q2.below k⟩
def Vd (u : World) (vs : List Value) (ms : List Mb) : Prop := ∀ (j : Nat) (x : Value) (m : Mb), vs[j]? = some x → ms[j]? = some m → ∃ a1 c1, x = .slice a1 m.dt.length c1 ∧ Sl u a1 m.dt c1
theorem Vd.below {w u : World} {vs : List Value} {ms : List Mb} (h : Vd w vs ms) (k : Below w.heap.size w u) : Vd u vs ms := fun j x m hx hm => by
 obtain ⟨a1, c1, q1, q2⟩ := h j x m hx hm
 exact ⟨a1, c1, q1, q2.below k⟩
theorem Vd.one {u : World} {vs : List Value} {ms : List Mb} (h : Vd u vs ms) (hl : vs.length = ms.length) : ∀ x ∈ vs, x.oneCell' = true := fun x hx => by
 obtain ⟨j, hj⟩ := List.getElem?_of_mem hx
 have hjl := (List.getElem?_eq_some_iff.1 hj).1
 obtain ⟨a1, c1, rfl, _⟩ := h j x ms[j] hj (List.getElem?_eq_getElem (by omega))
 rfl
theorem Vd.app {u : World} {vs us : List Value} {ms ns : List Mb} (h : Vd u vs ms) (k : Vd u us ns) (hl : vs.length = ms.length) : Vd u (vs ++ us) (ms ++ ns) := fun j x m hx hm => by
 by_cases hj : j < vs.length
 ·rw [List.getElem?_append_left hj] at hx
  rw [List.getElem?_append_left (by omega)] at hm
  exact h j x m hx hm
 ·rw [List.getElem?_append_right (by omega)] at hx
  rw [List.getElem?_append_right (by omega)] at hm
  rw [hl] at hx
  exact k _ x m hx hm
theorem Vd.rl {u : World} {lo n c : Nat} {a : Option Addr} {vs : List Value} {ms : List Mb} (h : Vd u vs ms) (ho : Ow u lo 22 1 (.slice a n c) n vs) (hl : vs.length = ms.length) : Rl u a (ms.map Mb.dt) := by
 obtain ⟨a2, c2, hv, _, h0 | ⟨g, hg, _, _, hx, _⟩, _⟩ := ho.shape
 ·have := ho.own.1
  exact Or.inl (by rw [List.map_eq_nil_iff]; exact List.eq_nil_of_length_eq_zero (by omega))
 ·cases hv
  refine Or.inr ⟨g, 0, hg, fun i l hl' => ?_⟩
  rw [List.getElem?_map] at hl'
  cases hq : ms[i]? with
  | none => rw [hq] at hl'; simp at hl'
  | some m =>
   rw [hq] at hl'
   simp at hl'
   subst hl'
   have hi : i < vs.length := by have := (List.getElem?_eq_some_iff.1 hq).1; omega
   obtain ⟨x, hx'⟩ : ∃ x, vs[i]? = some x := ⟨_, List.getElem?_eq_getElem hi⟩
   obtain ⟨a1, c1, rfl, q⟩ := h i x m hx' hq
   exact ⟨a1, c1, by rw [Nat.zero_add]; exact hx i _ hx', q.1, q.2⟩
structure Gvn (w0 : World) (ms : List Mb) (N : Nat) (u : World) (e : Ending) (u' : World) : Prop where
 ex : ∃ a c vs, e = .returned (.slice a N c) ∧ vs.length = N ∧ Ow u' u.heap.size 22 1 (.slice a N c) N vs ∧ Vd w0 vs ms ∧ Below u.heap.size u u'
set_option maxRecDepth 20000 in
set_option maxHeartbeats 1000000 in
theorem given_c (w0 w : World) (a : Option Addr) (ms : List Mb) (N C : Nat) (hN : ms.length = N) (hNb : N ≤ 3000) (hm : Lm w0 a ms) (hw0 : Below w0.heap.size w0 w) : Calls Tryz.prog 23 #[.slice a N C] w fun e w' => Gvn w0 ms N w e w' := by
 obtain ⟨lo, hlo⟩ : ∃ lo, w.heap.size = lo := ⟨_, rfl⟩
 have A : Aside (ms.length = N ∧ N ≤ 3000 ∧ Lm w0 a ms ∧ w.heap.size = lo ∧ Below w0.heap.size w0 w ∧ w0.heap.size ≤ lo) := ⟨hN, hNb, hm, hlo, hw0, by have := hw0.size; omega⟩
 clear hN hNb hm hlo hw0
 go_enter Tryz.func23, Tryz.ntmps23
 go_wp2_with fail
 go_loopg [3, 4] N (fun gg s3 s4 wr => ∃ (va : Option Addr) (n c i : Nat), s3 = .slice va n c ∧ s4 = .int .i64 (i : Int) ∧ Aside (i + gg = N ∧ n = i ∧ ∃ vs, vs.length = i ∧ Ow wr lo 22 1 (.slice va n c) n vs ∧ (∀ (j : Nat) (x : Value) (m : Mb), vs[j]? = some x → ms[j]? = some m → ∃ a1 c1, x = .slice a1 m.dt.length c1 ∧ Sl w0 a1 m.dt c1) ∧ Below lo w wr))
 case atStart => exact ⟨none, 0, 0, 0, rfl, rfl, ⟨by omega, rfl, [], rfl, Ow.nil (by rw [A.out.2.2.2.1]; exact Nat.le_refl _), fun j x m h => by simp at h, Below.refl _ _⟩⟩
 case round =>
  obtain ⟨va, n, c, i, rfl, rfl, hT⟩ := hrel
  obtain ⟨hig, rfl, vs, hvl, hown, hvs, hbel⟩ := hT.out
  have a0 := A.out
  by_cases hi : n < N
  ·have t1 : ((n : Int) < (N : Int)) = True := eq_true (by omega)
   have t2 : (n < N) = True := eq_true hi
   have bi : (n : Int) < 10000 := by omega
   obtain ⟨m, hm⟩ : ∃ m, ms[n]? = some m := ⟨_, List.getElem?_eq_getElem (by omega)⟩
   obtain ⟨g, o, ea, ec, da, dc, pa, pc, rfl, hl0⟩ := a0.2.2.1.at hm
   have hl := hl0.below (a0.2.2.2.2.1.trans (hbel.mono a0.2.2.2.2.2))
   obtain ⟨dl, hdl⟩ : ∃ dl, m.dt.length = dl := ⟨_, rfl⟩
   have k3 : wr.cell? ⟨g, o + n * 5 + 3, none⟩ = some (.slice da dl dc) := by rw [← hdl]; exact hl.c3
   obtain ⟨H, hH⟩ : ∃ H, wr.heap.size = H := ⟨_, rfl⟩
   have bA : Below wr.heap.size wr (wr.alloc (.cells #[.slice da dl dc] 22)) := (Below.refl _ wr).alloc (Nat.le_refl _) _
   have howA := hown.below bA (Nat.le_refl _)
   have hlz : ([.slice da dl dc] : List Value) = [] ∨ ∃ b o, (some ⟨H, 0, none⟩ : Option Addr) = some ⟨b, o, none⟩ ∧ ∀ i u, ([.slice da dl dc] : List Value)[i]? = some u → (wr.alloc (.cells #[.slice da dl dc] 22)).cell? ⟨b, o + i, none⟩ = some u := Or.inr ⟨H, 0, rfl, fun i u hu => by
    cases i with
    | zero => simp at hu; rw [← hu, ← hH, (Cells.new wr #[.slice da dl dc] 22).cell]; rfl
    | succ i => simp at hu⟩
   have h1c : ∀ u ∈ ([.slice da dl dc] : List Value), u.oneCell' = true := fun u hu => by simp at hu; subst hu; rfl
   obtain ⟨i0, hii, hz0, hz1, hz2⟩ := ginfo_parts ginfo22
   have hAm : Aside (n + 1 ≤ maxLen ∧ (n + 1) * 24 ≤ 140737488355328) := ⟨by unfold maxLen; omega, by omega⟩
   have hle := hown.le
   have hT0 : ∀ (v5 : Value) (w5 : World), Got lo 22 1 (wr.alloc (.cells #[.slice da dl dc] 22)) w5 (.slice va n c) v5 (n + 1) (vs ++ [Value.slice da dl dc]) → ∃ a5 c5, v5 = .slice a5 (n + 1) c5 ∧ Aside ((vs ++ [Value.slice da dl dc]).length = n + 1 ∧ Ow w5 lo 22 1 (.slice a5 (n + 1) c5) (n + 1) (vs ++ [Value.slice da dl dc]) ∧ (∀ (j : Nat) (x : Value) (m : Mb), (vs ++ [Value.slice da dl dc])[j]? = some x → ms[j]? = some m → ∃ a1 c1, x = .slice a1 m.dt.length c1 ∧ Sl w0 a1 m.dt c1) ∧ Below lo w w5) := fun v5 w5 hgot => by
    obtain ⟨a5, c5, hv5, _⟩ := hgot.ow.shape
    subst hv5
    refine ⟨a5, c5, rfl, by simp [hvl], hgot.ow, fun j x m' hx hm' => ?_, (hbel.trans (bA.mono hle)).trans hgot.bel⟩
    by_cases hj : j < n
    ·rw [List.getElem?_append_left (by omega)] at hx
     exact hvs j x m' hx hm'
    ·have hj2 := (List.getElem?_eq_some_iff.1 hx).1
     simp only [List.length_append, List.length_cons, List.length_nil, hvl] at hj2
     obtain rfl : j = n := by omega
     rw [List.getElem?_append_right (by omega), hvl, Nat.sub_self] at hx
     simp at hx
     rw [hm] at hm'
     cases hm'
     exact ⟨da, dc, by rw [← hx, hdl], hl0.dt⟩
   have AT : Aside _ := hT0
   have AG : Aside (n + gk = N ∧ n < N) := ⟨hig, hi⟩
   clear hT hig hvl hown hvs hbel a0 hi hm hl0 hl hdl bA hT0 hle
   go_wp2_with (at_builtin; refine wpList_ow Tryz.prog _ rfl (.tmp 11) (.tmp 17) 23 rfl 22 i0 _ 1 24 Tryz.underlying23 hii hz0 hz1 hz2 rfl (by decide) lo (.slice va n c) n _ (by rfl) howA (some ⟨H, 0, none⟩) [.slice da dl dc] 1 1 rfl (by rfl) (by intro h; cases h) hlz h1c hAm.out.1 hAm.out.2 ?_; intro v5 w5 hgot; obtain ⟨a5, c5, hv5, T5⟩ := AT.out v5 w5 hgot; subst hv5)
   have ag := AG.out
   go_roundg (gk - 1)
   case measure => omega
   case rel => exact ⟨a5, n + 1, c5, n + 1, rfl, by go_num, ⟨by omega, rfl, _, T5.out⟩⟩
  ·have t1 : ((n : Int) < (N : Int)) = False := eq_false (by omega)
   have t2 : (n < N) = False := eq_false hi
   obtain rfl : n = N := by omega
   have A3 : Aside (vs.length = n ∧ Ow wr lo 22 1 (.slice va n c) n vs ∧ Vd w0 vs ms ∧ Below lo w wr) := ⟨hvl, hown, hvs, hbel⟩
   clear hT hig hvl hown hvs hbel a0 hi
   go_wp2_with fail
   first | go_ret | go_ret2
   obtain ⟨q1, q2, q3, q4⟩ := A3.out
   have hlo := A.out.2.2.2.1
   exact ⟨va, c, vs, rfl, q1, by rw [hlo]; exact q2, q3, by rw [hlo]; exact q4⟩
end Go.Proofs.YtogednaamndpgaaGreatDoor

/-
 What Whole makes of files that the document writes; operations that are wanted.
-/
namespace Go.Proofs.YtogednaamndpgaaGreatDoor
open Go.RowKit
set_option linter.unusedVariables false
structure Wf (LS : List (List Nat)) (y : Nat) (w : World) (e : Ending) (w' : World) : Prop where
 ex : ∃ a c, e = .returned (.tuple #[.slice a LS.length c, .int .i64 (y : Int)]) ∧ Rl w' a LS ∧ Below w.heap.size w w'
theorem wf_of {LS : List (List Nat)} {y : Nat} {w w' : World} {e : Ending} (h : Wr0 (LS, y) w e w') : Wf LS y w e w' := by
 obtain ⟨v, lo2, h1, h2, h3, h4⟩ := h.ex
 obtain ⟨a, c, hv, _⟩ := h3.shape
 subst hv
 exact ⟨a, c, h1, h3.rl rfl, h4⟩
section
variable {w : World} {a : Option Addr} {b : List Nat} {L C N : Nat} {ms : List Mb} {ws : List Wm}
theorem whole_file (ht : Tabs w) (hct : Ctab w) (h8 : 8 ≤ w.heap.size) (hB : Lies w a b) (hL : b.length = L) (hLb : L ≤ 1000000000000) (hk : Wok ms ws) (hne : ws ≠ []) (k : Nat) (hb : b = wal ws ++ List.replicate k 0) (hN : msz ms ≤ N) (hNb : N ≤ 100000) : Calls Tryz.prog 8 #[.slice a L C, .int .i64 (N : Int)] w fun e w' => Wf (ms.map Mb.dt) 0 w e w' := by
 have ho : Oct b := by
  rw [hb]
  exact hk.wal.append (fun x hx => by have := List.eq_of_mem_replicate hx; omega)
 obtain ⟨s, T, q1, q2, q3⟩ := file_run ho hne hk.ok hb
 have hr := rs_wel (N := N) (y := 0) q3 (by have := hk.w; omega) (fun m hm => (hk.ok m hm).oc)
 rw [hk.d] at hr
 exact (wwhole_c w ht hct h8 a b L C (N : Int) N (by simp) (by omega) hB hL hLb ho b.length s T q1 (Or.inr hL) _ (by rw [q2]; exact hr)).mono fun e w' h => wf_of h
end
end Go.Proofs.YtogednaamndpgaaGreatDoor

/-
  MimetypeWrites' walk.
-/
import Derived.Test.YtdndlegfalmkaaaRtx
namespace Go.Proofs.Ytdndlegfalmkaaa
open Go.RowKit
set_option linter.unusedVariables false
/-- A whole row, at a step of a region that draws its order. -/
theorem step_ows (P : Program) (w : World) {o : Oper} {a : Act} {ops : Array Oper} {K : Act → World → Prop} {Q : Exit → Act → World → Prop} {E : Prop} (hgd : o.guard = none) (s x : Operand) (t : TypeId)
    (ho : o.op = .call { callee := .builtin .append, args := #[s, x], argTypes := #[t, t] }) (e : TypeId) (i : TypeInfo) (z : Value) (sz bytes : Nat) (ht : P.underlying t = some (.slice e)) (hi : P.info? e = some i) (hz0 : i.zero = some z) (hz1 : i.size = sz) (hz2 : i.bytes = bytes) (hz3 : z.cells.size = sz) (hsz : 0 < sz)
    (lo : Nat) (v : Value) (k : Nat) (l : List Value) (hs : a.eval s = v) (hown : Ow w lo e sz v k l)
    (ax : Option Addr) (m : List Value) (n c : Nat) (hnm : m.length = n * sz) (hx : a.eval x = .slice ax n c) (hz : ax = none → n = 0 ∧ c = 0) (hl : m = [] ∨ ∃ b o, ax = some ⟨b, o, none⟩ ∧ ∀ i u, m[i]? = some u → w.cell? ⟨b, o + i, none⟩ = some u) (h1 : ∀ u ∈ m, u.oneCell' = true) (h63 : k + n ≤ maxLen) (hlen : (k + n) * bytes ≤ 140737488355328)
    (h : ∀ va c' w', Got lo e sz w w' v (.slice va (k + n) c') (k + n) (l ++ m) → K (a.put o.dst (.slice va (k + n) c')) w') : if Region.wanted o (yielded ops a.tmps) = true then Oper.wp P o a w K Q else E := by
  have hw : Region.wanted o (yielded ops a.tmps) = true := by simp [Region.wanted, hgd]
  rw [if_pos hw]
  have h' : ∀ v' w', Got lo e sz w w' v v' (k + n) (l ++ m) → K (a.put o.dst v') w' := fun v' w' hg => by
    obtain ⟨a', c', hv, _⟩ := hg.ow.shape
    subst hv
    exact h a' c' w' hg
  cases ax with
  | none =>
    obtain ⟨h1, h2⟩ := hz rfl
    subst h1
    have hm : m = [] := List.eq_nil_of_length_eq_zero (by omega)
    subst hm
    subst h2
    have hrun := run_append_owned_none (P := P) (w := w) lo t o.type e i sz ht hi v _ _ hown.own
    unfold Oper.wp
    simp [execOp, ho, resolve, invoke, builtin, hs, hx, hrun, Result.andThen]
    refine h' v w ?_
    rw [List.append_nil]
    exact ⟨hown, Below.refl _ _, fun _ _ _ => rfl, fun k _ => Or.inl rfl⟩
  | some ad =>
    obtain ⟨v', w', hrun, r1, r2, _⟩ := run_append_own (P := P) w lo t o.type e i z sz bytes ht hi hz0 hz1 hz2 hz3 hsz v _ _ hown.own ad n c m hnm (fun j u hj => by
      rcases hl with rfl | ⟨b, off, ha, hc⟩
      · simp at hj
      · cases ha
        rw [addr_add]
        exact hc j u hj) h1 h63 hlen hown.le
    unfold Oper.wp
    simp [execOp, ho, resolve, invoke, builtin, hs, hx, hrun, Result.andThen]
    exact h' v' w' (Got.mk' hown r1 r2)
theorem fc_cell {T : List Fd} {i : Nat} {u : Value} (h : (fc T)[i]? = some u) : ∃ j f, T[j]? = some f ∧ ((i = j * 2 ∧ u = .string (st f.1)) ∨ (i = j * 2 + 1 ∧ u = .string (st f.2))) := by
  have hi := (List.getElem?_eq_some_iff.1 h).1
  rw [fc_length] at hi
  obtain ⟨f, hf⟩ : ∃ f, T[i / 2]? = some f := ⟨_, List.getElem?_eq_getElem (by omega)⟩
  have hg := fc_get hf
  refine ⟨i / 2, f, hf, ?_⟩
  rcases (show i = i / 2 * 2 ∨ i = i / 2 * 2 + 1 by omega) with e | e
  · left
    refine ⟨e, ?_⟩
    rw [← e, h] at hg
    exact Option.some.inj hg.1
  · right
    refine ⟨e, ?_⟩
    rw [← e, h] at hg
    exact Option.some.inj hg.2
theorem fl_fc {w : World} {a : Option Addr} {L C : Nat} {T : List Fd} (h : FL w (.slice a L C) T) : fc T = [] ∨ ∃ b o, a = some ⟨b, o, none⟩ ∧ ∀ (i : Nat) u, (fc T)[i]? = some u → w.cell? ⟨b, o + i, none⟩ = some u := by
  obtain ⟨a', c', hv, hq⟩ := h
  injection hv with e1 e2 e3
  rcases hq with e | ⟨g, o, ha, hx⟩
  · left; rw [e]; rfl
  · refine Or.inr ⟨g, o, e1.trans ha, fun i u hu => ?_⟩
    obtain ⟨j, f, hf, hor⟩ := fc_cell hu
    rcases hor with ⟨rfl, rfl⟩ | ⟨rfl, rfl⟩
    · exact (hx j f hf).1
    · exact (hx j f hf).2
/-- What stands behind the copy: the copied type at its own block, its fields there, the asker's as they were. -/
structure Nx (w W : World) (H B : Nat) (M S : ByteArray) (a : Option Addr) (L c : Nat) (va : Option Addr) (vc : Nat) (T : List Fd) : Prop where
  kB : Cells W B #[.string M, .string S, .slice va L vc] 24
  kH : Cells W H #[.string M, .string S, .slice a L c] 24
  fl : FL W (.slice va L vc) T
  fa : FL W (.slice a L c) T
  bel : Below H w W
theorem Nx.below {w W U : World} {H B : Nat} {M S : ByteArray} {a : Option Addr} {L c : Nat} {va : Option Addr} {vc : Nat} {T : List Fd} (h : Nx w W H B M S a L c va vc T) (k : Below W.heap.size W U) : Nx w U H B M S a L c va vc T :=
  ⟨h.kB.below k h.kB.lt, h.kH.below k h.kH.lt, h.fl.below k, h.fa.below k, h.bel.trans (k.mono (Nat.le_of_lt h.kH.lt))⟩
theorem Nx.six {w W : World} {H B : Nat} {M S : ByteArray} {a : Option Addr} {L c : Nat} {va : Option Addr} {vc : Nat} {T : List Fd} (h : Nx w W H B M S a L c va vc T) :
    (W.cell? ⟨H, 0, none⟩ = some (.string M) ∧ W.cell? ⟨H, 1, none⟩ = some (.string S) ∧ W.cell? ⟨H, 2, none⟩ = some (.slice a L c)) ∧ W.cell? ⟨B, 0, none⟩ = some (.string M) ∧ W.cell? ⟨B, 1, none⟩ = some (.string S) ∧ W.cell? ⟨B, 2, none⟩ = some (.slice va L vc) :=
  ⟨⟨by rw [h.kH.cell]; rfl, by rw [h.kH.cell]; rfl, by rw [h.kH.cell]; rfl⟩, by rw [h.kB.cell]; rfl, by rw [h.kB.cell]; rfl, by rw [h.kB.cell]; rfl⟩
theorem Nx.laid {w w1 w4 : World} {H G b n : Nat} {M S : ByteArray} {a : Option Addr} {L c : Nat} {va : Option Addr} {vc : Nat} {T : List Fd} (kz : Cells w4 b #[.string ⟨#[]⟩, .string ⟨#[]⟩, .slice none 0 0] 24) (kH : Cells w4 H #[.string M, .string S, .slice a L c] 24) (hG : w1.heap.size = G) (hb : G ≤ b) (hH : H < G) (ow : Ow w4 G 29 2 (.slice va L vc) n (fc T)) (f1 : FL w1 (.slice a L c) T) (b4 : Below G w1 w4) (b1 : Below H w w1) :
    Nx w (((w4.setCell ⟨b, 0, none⟩ (.string M)).setCell ⟨b, 1, none⟩ (.string S)).setCell ⟨b, 2, none⟩ (.slice va L vc)) H b M S a L c va vc T := by
  have c1 := kz.set 0 (.string M)
  have c2 := c1.set 1 (.string S)
  have c3 := c2.set 2 (.slice va L vc)
  have o1 := ow.set (i := 0) (x := .string M) kz (by decide)
  have o2 := o1.set (i := 1) (x := .string S) c1 (by decide)
  have o3 := o2.set (i := 2) (x := .slice va L vc) c2 (by decide)
  have hon : Only b w4 (((w4.setCell ⟨b, 0, none⟩ (.string M)).setCell ⟨b, 1, none⟩ (.string S)).setCell ⟨b, 2, none⟩ (.slice va L vc)) := (((Only.refl b w4).setCell 0 _).setCell 1 _).setCell 2 _
  have b5 : Below G w1 (((w4.setCell ⟨b, 0, none⟩ (.string M)).setCell ⟨b, 1, none⟩ (.string S)).setCell ⟨b, 2, none⟩ (.slice va L vc)) := b4.trans (hon.below hb)
  exact ⟨c3, kH.only hon (by omega), o3.fl, f1.below (by rw [hG]; exact b5), b1.trans (b5.mono (by omega))⟩
theorem Nx.new {w w1 w4 : World} {H G n : Nat} {M S : ByteArray} {a : Option Addr} {L c : Nat} {va : Option Addr} {vc : Nat} {T : List Fd} (kH : Cells w4 H #[.string M, .string S, .slice a L c] 24) (hG : w1.heap.size = G) (hH : H < G) (ow : Ow w4 G 29 2 (.slice va L vc) n (fc T)) (f1 : FL w1 (.slice a L c) T) (b4 : Below G w1 w4) (b1 : Below H w w1) :
    Nx w (w4.alloc (.cells #[.string M, .string S, .slice va L vc] 24)) H w4.heap.size M S a L c va vc T := by
  have hal : Below w4.heap.size w4 (w4.alloc (.cells #[.string M, .string S, .slice va L vc] 24)) := (Below.refl _ w4).alloc (Nat.le_refl _) _
  have s4 := b4.size
  have b5 : Below G w1 (w4.alloc (.cells #[.string M, .string S, .slice va L vc] 24)) := b4.trans (hal.mono (by omega))
  exact ⟨Cells.new w4 _ 24, kH.alloc _, (ow.below hal (Nat.le_refl _)).fl, f1.below (by rw [hG]; exact b5), b1.trans (b5.mono (by omega))⟩
set_option maxRecDepth 20000 in
set_option maxHeartbeats 8000000 in
theorem writes_core (w : World) (m s : List Nat) (a : Option Addr) (L c : Nat) (T : List Fd) (nm : List Nat) (hv : FL w (.slice a L c) T) (hT : OctF T) (hm : Oct m) (hs : Oct s) (hb : m.length + s.length + wt T ≤ 1000000000) (haz : a = none → L = 0 ∧ c = 0) (hn : Oct nm) (hnb : nm.length ≤ 1000000000) : Calls Try.prog 4 #[.agg #[.string (st m), .string (st s), .slice a L c], .string (st nm)] w fun e w' => e = .returned (.bool true) ∧ Below w.heap.size w w' := by
  obtain ⟨H, hH⟩ : ∃ H, w.heap.size = H := ⟨_, rfl⟩
  obtain ⟨w1, hw1⟩ : ∃ w1, w1 = w.alloc (.cells #[.string (st m), .string (st s), .slice a L c] 24) := ⟨_, rfl⟩
  have b1 : Below w.heap.size w w1 := by rw [hw1]; exact (Below.refl _ w).alloc (Nat.le_refl _) _
  have k1 : Cells w1 H #[.string (st m), .string (st s), .slice a L c] 24 := by rw [hw1, ← hH]; exact Cells.new w _ 24
  have hTL := hv.len
  have hwt := wt_len T
  have f1 := hv.below b1
  obtain ⟨R, hR⟩ : ∃ R, st ((tx (m, s, T)).getD []) = R := ⟨_, rfl⟩
  obtain ⟨r, hr⟩ : ∃ r, (tx (m, s, T)).isSome = r := ⟨_, rfl⟩
  obtain ⟨Y, hY⟩ : ∃ Y, st (pr T nm).1 = Y := ⟨_, rfl⟩
  obtain ⟨y, hy⟩ : ∃ y, (pr T nm).2 = y := ⟨_, rfl⟩
  have htx := fun W va vc (h : FL W (.slice va L vc) T) => text_c W m s va L vc T h hT hm hs (by omega)
  have hrtx := fun W va vc (h : FL W (.slice va L vc) T) => rtext_c W m s va L vc T h hT hm hs (by omega)
  have hpa := fun W va vc (h : FL W (.slice va L vc) T) => par_c W (st m) (st s) va L vc T nm h hT hn (by omega) (by omega)
  have hrpa := fun W va vc (h : FL W (.slice va L vc) T) => rpar_c W (st m) (st s) va L vc T nm h hT hn (by omega) (by omega)
  have hfe : ∀ W va vc, FL W (.slice va L vc) T → FL W (.slice a L c) T → Calls Try.prog 21 #[.slice va L vc, .slice a L c] W fun e w' => e = .returned (.bool true) ∧ Below W.heap.size W w' := fun W va vc h h2 => by
    have h := feq_c W (.slice va L vc) (.slice a L c) T T h h2 hT hT (by omega)
    rw [decide_eq_true rfl] at h
    exact h.mono fun e w' h => by
      obtain ⟨h1, n', h2⟩ := h
      exact ⟨h1, by rw [h2]; exact Below.drewN2 (Below.refl _ _) _⟩
  have hawk := fun W => awake_c W
  obtain ⟨M, hM⟩ : ∃ M, st m = M := ⟨_, rfl⟩
  obtain ⟨S, hS⟩ : ∃ S, st s = S := ⟨_, rfl⟩
  obtain ⟨N, hN⟩ : ∃ N, st nm = N := ⟨_, rfl⟩
  rw [hM, hS] at k1 hw1 ⊢
  simp only [hM, hS, hR, hr, hY, hy, hN] at htx hrtx hpa hrpa
  rw [hN]
  have k1d : ∀ W, Cells W H #[.string M, .string S, .slice a L c] 24 → W.cell? ⟨H, 0, none⟩ = some (.string M) ∧ W.cell? ⟨H, 1, none⟩ = some (.string S) ∧ W.cell? ⟨H, 2, none⟩ = some (.slice a L c) := fun W h => ⟨by rw [h.cell]; rfl, by rw [h.cell]; rfl, by rw [h.cell]; rfl⟩
  obtain ⟨x0, x1, x2⟩ := k1d w1 k1
  have ka := k1.alloc (.cells #[] 29)
  have kb := k1.alloc (.cells #[.string ⟨#[]⟩, .string ⟨#[]⟩, .slice none 0 0] 24)
  have kab := ka.alloc (.cells #[.string ⟨#[]⟩, .string ⟨#[]⟩, .slice none 0 0] 24)
  have kba := kb.alloc (.cells #[] 29)
  obtain ⟨xa0, xa1, xa2⟩ := k1d _ ka
  obtain ⟨xb0, xb1, xb2⟩ := k1d _ kb
  obtain ⟨xc0, xc1, xc2⟩ := k1d _ kab
  obtain ⟨xd0, xd1, xd2⟩ := k1d _ kba
  obtain ⟨G, hG⟩ : ∃ G, w1.heap.size = G := ⟨_, rfl⟩
  have oa : Ow (w1.alloc (.cells #[] 29)) G 29 2 (.slice (some ⟨G, 0, none⟩) 0 0) 0 [] := Ow.lit (cs := #[]) hG (Nat.le_refl _) (by decide) rfl
  have oab : Ow ((w1.alloc (.cells #[] 29)).alloc (.cells #[.string ⟨#[]⟩, .string ⟨#[]⟩, .slice none 0 0] 24)) G 29 2 (.slice (some ⟨G, 0, none⟩) 0 0) 0 [] := oa.below ((Below.refl _ _).alloc (Nat.le_refl _) _) (Nat.le_refl _)
  have oba : Ow ((w1.alloc (.cells #[.string ⟨#[]⟩, .string ⟨#[]⟩, .slice none 0 0] 24)).alloc (.cells #[] 29)) G 29 2 (.slice (some ⟨G + 1, 0, none⟩) 0 0) 0 [] := Ow.lit (cs := #[]) (by rw [← hG]; simp) (by omega) (by decide) rfl
  have ba : Below G w1 (w1.alloc (.cells #[] 29)) := by rw [← hG]; exact (Below.refl _ w1).alloc (Nat.le_refl _) _
  have bb : Below G w1 (w1.alloc (.cells #[.string ⟨#[]⟩, .string ⟨#[]⟩, .slice none 0 0] 24)) := by rw [← hG]; exact (Below.refl _ w1).alloc (Nat.le_refl _) _
  have bab : Below G w1 ((w1.alloc (.cells #[] 29)).alloc (.cells #[.string ⟨#[]⟩, .string ⟨#[]⟩, .slice none 0 0] 24)) := ba.trans (by have := ba.size; exact (Below.refl _ _).alloc (by omega) _)
  have bba : Below G w1 ((w1.alloc (.cells #[.string ⟨#[]⟩, .string ⟨#[]⟩, .slice none 0 0] 24)).alloc (.cells #[] 29)) := bb.trans (by have := bb.size; exact (Below.refl _ _).alloc (by omega) _)
  have kZab : Cells ((w1.alloc (.cells #[] 29)).alloc (.cells #[.string ⟨#[]⟩, .string ⟨#[]⟩, .slice none 0 0] 24)) (G + 1) #[.string ⟨#[]⟩, .string ⟨#[]⟩, .slice none 0 0] 24 := by
    have h := Cells.new (w1.alloc (.cells #[] 29)) #[.string ⟨#[]⟩, .string ⟨#[]⟩, .slice none 0 0] 24
    have e : (w1.alloc (.cells #[] 29)).heap.size = G + 1 := by rw [← hG]; simp
    rw [e] at h
    exact h
  have kZba : Cells ((w1.alloc (.cells #[.string ⟨#[]⟩, .string ⟨#[]⟩, .slice none 0 0] 24)).alloc (.cells #[] 29)) G #[.string ⟨#[]⟩, .string ⟨#[]⟩, .slice none 0 0] 24 := by
    have h := Cells.new w1 #[.string ⟨#[]⟩, .string ⟨#[]⟩, .slice none 0 0] 24
    rw [hG] at h
    exact h.alloc _
  have hl : ∀ W, Below G w1 W → (fc T = [] ∨ ∃ b o, a = some ⟨b, o, none⟩ ∧ ∀ (i : Nat) u, (fc T)[i]? = some u → W.cell? ⟨b, o + i, none⟩ = some u) := fun W h => fl_fc (f1.below (by rw [hG]; exact h))
  have hla := hl _ ba
  have hlab := hl _ bab
  have hlba := hl _ bba
  obtain ⟨i0, hi, hz0, hz1, hz2⟩ := ginfo_parts ginfo29
  rw [hH] at b1 ⊢
  have AL : Aside ((fc T).length = L * 2 ∧ (a = none → L = 0 ∧ c = 0) ∧ 0 + L ≤ maxLen ∧ (0 + L) * 32 ≤ 140737488355328) := ⟨by rw [fc_length]; omega, haz, by unfold maxLen; omega, by omega⟩
  have A : Aside (w.heap.size = H ∧ Below H w w1 ∧ FL w1 (.slice a L c) T ∧ H < G) := ⟨hH, b1, f1, by have := k1.lt; omega⟩
  have AW : Aside (Below G w1 (w1.alloc (.cells #[] 29)) ∧ Below G w1 ((w1.alloc (.cells #[] 29)).alloc (.cells #[.string ⟨#[]⟩, .string ⟨#[]⟩, .slice none 0 0] 24)) ∧ Below G w1 ((w1.alloc (.cells #[.string ⟨#[]⟩, .string ⟨#[]⟩, .slice none 0 0] 24)).alloc (.cells #[] 29))) := ⟨ba, bab, bba⟩
  have zf : ∀ (W : World) (b : Nat) (cs : Array Value), Cells W b cs 24 → W.frozen? ⟨b, 0, none⟩ = false ∧ W.frozen? ⟨b, 1, none⟩ = false ∧ W.frozen? ⟨b, 2, none⟩ = false := fun W b cs h => ⟨h.frozen 0, h.frozen 1, h.frozen 2⟩
  have zc : ∀ (W : World) (b : Nat), Cells W b #[.string ⟨#[]⟩, .string ⟨#[]⟩, .slice none 0 0] 24 → W.cell? ⟨b, 0, none⟩ = some (.string ⟨#[]⟩) ∧ W.cell? ⟨b, 1, none⟩ = some (.string ⟨#[]⟩) ∧ W.cell? ⟨b, 2, none⟩ = some (.slice none 0 0) := fun W b h => ⟨by rw [h.cell]; rfl, by rw [h.cell]; rfl, by rw [h.cell]; rfl⟩
  clear hv hT hm hs hb haz hn hnb b1 f1 hM hS hN hR hr hY hy hTL hwt ba bb bab bba hl
  go_enter Try.func4, Try.ntmps4
  go_upto_region 1 with fail
  (try simp only [A.out.1])
  rw [← hw1]
  clear hw1
  refine wp_region_held_drew (S := fun w' => w'.cell? ⟨H, 0, none⟩ = some (.string M) ∧ w'.cell? ⟨H, 1, none⟩ = some (.string S) ∧ w'.cell? ⟨H, 2, none⟩ = some (.slice a L c)) (by kernel_rfl) ⟨x0, x1, x2⟩ (fun hHeld => ?_)
  refine wpAnyH_take (i := 0) (oi := ⟨_, _, _, _, _, _⟩) (v := ?_) rfl (by kernel_rfl) (by kernel_rfl) (by kernel_rfl) (fun _ _ _ h => h) (Or.inl ⟨by rfl, ?_⟩) hHeld ?_
  rotate_left
  · (intro w9 hSw; (try dsimp only at hSw); obtain ⟨q0, q1, q2⟩ := hSw; go_simp; try (with_reducible rfl))
  try simp only [Act.put, List.setIfInBounds_toArray, List.set_cons_zero, List.set_cons_succ]
  refine wpAnyH_take (i := 1) (oi := ⟨_, _, _, _, _, _⟩) (v := ?_) rfl (by kernel_rfl) (by kernel_rfl) (by kernel_rfl) (fun _ _ _ h => h) (Or.inl ⟨by rfl, ?_⟩) hHeld ?_
  rotate_left
  · (intro w9 hSw; (try dsimp only at hSw); obtain ⟨q0, q1, q2⟩ := hSw; go_simp; try (with_reducible rfl))
  try simp only [Act.put, List.setIfInBounds_toArray, List.set_cons_zero, List.set_cons_succ]
  refine wpAnyH_take (i := 2) (oi := ⟨_, _, _, _, _, _⟩) (v := ?_) rfl (by kernel_rfl) (by kernel_rfl) (by kernel_rfl) (fun _ _ _ h => h) (Or.inl ⟨by rfl, ?_⟩) hHeld ?_
  rotate_left
  · (intro w9 hSw; (try dsimp only at hSw); obtain ⟨q0, q1, q2⟩ := hSw; go_simp; try (with_reducible rfl))
  try simp only [Act.put, List.setIfInBounds_toArray, List.set_cons_zero, List.set_cons_succ]
  refine wpAnyH_take (i := 3) (oi := ⟨_, _, _, _, _, _⟩) (v := ?_) rfl (by kernel_rfl) (by kernel_rfl) (by kernel_rfl) (fun _ _ _ h => h) (Or.inl ⟨by rfl, ?_⟩) hHeld ?_
  rotate_left
  · (intro w9 hSw; (try dsimp only at hSw); obtain ⟨q0, q1, q2⟩ := hSw; go_simp; try (with_reducible rfl))
  try simp only [Act.put, List.setIfInBounds_toArray, List.set_cons_zero, List.set_cons_succ]
  refine wpAnyH_take (i := 5) (oi := ⟨_, _, _, _, _, _⟩) (v := ?_) rfl (by kernel_rfl) (by kernel_rfl) (by kernel_rfl) (fun _ _ _ h => h) (Or.inl ⟨by rfl, ?_⟩) hHeld ?_
  rotate_left
  · (intro w9 hSw; (try dsimp only at hSw); obtain ⟨q0, q1, q2⟩ := hSw; go_simp; try (with_reducible rfl))
  try simp only [Act.put, List.setIfInBounds_toArray, List.set_cons_zero, List.set_cons_succ]
  refine wpAnyH_take (i := 6) (oi := ⟨_, _, _, _, _, _⟩) (v := ?_) rfl (by kernel_rfl) (by kernel_rfl) (by kernel_rfl) (fun _ _ _ h => h) (Or.inl ⟨by rfl, ?_⟩) hHeld ?_
  rotate_left
  · (intro w9 hSw; (try dsimp only at hSw); obtain ⟨q0, q1, q2⟩ := hSw; go_simp; try (with_reducible rfl))
  try simp only [Act.put, List.setIfInBounds_toArray, List.set_cons_zero, List.set_cons_succ]
  refine wpAnyH_ready (rs := [4, 9]) (by kernel_rfl) (by simp) ?_
  refine AllReadyH.cons (o := ⟨_, _, _, _, _, _⟩) rfl (fun K hK => ?_) ?_
  · go_simp
    refine hK.out _ _ ⟨xa0, xa1, xa2⟩ (fun hHeldA => ?_)
    clear hK K
    try simp only [Act.put, List.setIfInBounds_toArray, List.set_cons_zero, List.set_cons_succ]
    refine wpAnyH_ready (rs := [7, 9]) (by kernel_rfl) (by simp) ?_
    refine AllReadyH.cons (o := ⟨_, _, _, _, _, _⟩) rfl (fun K hK => ?_) ?_
    · refine step_ows Try.prog _ rfl (.tmp 18) (.tmp 20) 22 rfl 29 i0 _ 2 32 Try.underlying22 hi hz0 hz1 hz2 rfl (by decide) G (.slice (some ⟨G, 0, none⟩) 0 0) 0 [] (by first | rfl | go_simp) oa.drew a (fc T) L c AL.out.1 (by first | rfl | go_simp) AL.out.2.1 hla fc_one AL.out.2.2.1 AL.out.2.2.2 ?_
      intro va vc w4 hgot
      have k4 := Cells.got ka.drew hgot (by decide)
      have y4 := k1d _ k4
      have ow4 : Ow w4 G 29 2 (.slice va L vc) L (fc T) := by have h := hgot.ow; rw [Nat.zero_add, List.nil_append] at h; exact h
      have eL : 0 + L = L := Nat.zero_add L
      rw [eL]
      refine hK.out _ _ y4 (fun hHeldB => ?_)
      clear hK K
      try simp only [Act.put, List.setIfInBounds_toArray, List.set_cons_zero, List.set_cons_succ]
      refine wpAnyH_take (i := 8) (oi := ⟨_, _, _, _, _, _⟩) (v := ?_) rfl (by kernel_rfl) (by kernel_rfl) (by kernel_rfl) (fun _ _ _ h => h) (Or.inl ⟨by rfl, ?_⟩) hHeldB ?_
      rotate_left
      · (intro w9 hSw; (try dsimp only at hSw); obtain ⟨q0, q1, q2⟩ := hSw; go_simp; try (with_reducible rfl))
      try simp only [Act.put, List.setIfInBounds_toArray, List.set_cons_zero, List.set_cons_succ]
      refine wpAnyH_ready (rs := [9]) (by kernel_rfl) (by simp) ?_
      refine AllReadyH.cons (o := ⟨_, _, _, _, _, _⟩) rfl (fun K hK => ?_) AllReadyH.nil
      go_simp
      refine hK.out _ _ (k1d _ (k4.alloc (.cells #[.string ⟨#[]⟩, .string ⟨#[]⟩, .slice none 0 0] 24))) (fun hHeldC => ?_)
      clear hK K
      try simp only [Act.put, List.setIfInBounds_toArray, List.set_cons_zero, List.set_cons_succ]
      refine wpAnyH_ready (rs := [10]) (by kernel_rfl) (by simp) ?_
      refine AllReadyH.cons (o := ⟨_, _, _, _, _, _⟩) rfl (fun K hK => ?_) AllReadyH.nil
      go_simp
      have nx : Nx w (w4.alloc (.cells #[.string M, .string S, .slice va L vc] 24)) H w4.heap.size M S a L c va vc T := Nx.new k4 hG A.out.2.2.2 ow4 A.out.2.2.1 (AW.out.1.trans (Below.trans (Below.drew (Below.refl _ _)) hgot.bel)) A.out.2.1
      refine hK.out _ _ nx.six.1 (fun hHeldD => ?_)
      clear hK K
      try simp only [Act.put, List.setIfInBounds_toArray, List.set_cons_zero, List.set_cons_succ]
      refine wpAnyH_done (by kernel_rfl) ?_ _
      dsimp only [Exit.then]
      clear hHeldB hHeldC hHeldD
      generalize (w4.alloc (.cells #[.string M, .string S, .slice va L vc] 24)) = w5 at nx ⊢
      obtain ⟨B, hB⟩ : ∃ B, w4.heap.size = B := ⟨_, rfl⟩
      rw [hB] at nx
      (try rw [hB])
      (try simp only [hB])
      clear hB
      clear y4 k4 ow4 hgot x0 x1 x2 xa0 xa1 xa2 xb0 xb1 xb2 xc0 xc1 xc2 xd0 xd1 xd2 ka kb kab kba oa oab oba kZab kZba hla hlab hlba k1 k1d zf zc AW hi hz0 hz1 hz2
      obtain ⟨⟨c0, c1, c2⟩, d0, d1, d2⟩ := nx.six
      have N5 : Aside (Nx w w5 H B M S a L c va vc T) := nx
      have ht5 := htx w5 va vc nx.fl
      clear nx
      go_upto_region 3 with (go_at_call 17; (with_reducible refine ht5.mono ?_); rintro e6 w6 ⟨rfl, hb6⟩)
      have N6 : Aside (Nx w w6 H B M S a L c va vc T) := N5.out.below hb6
      clear c0 c1 c2 d0 d1 d2 ht5 hb6
      obtain ⟨⟨c0, c1, c2⟩, d0, d1, d2⟩ := N6.out.six
      have ht6 := hrtx w6 a c N6.out.fa
      go_upto_region 4 with (go_at_call 18; (with_reducible refine ht6.mono ?_); rintro e7 w7 ⟨rfl, hb7⟩)
      have N7 : Aside (Nx w w7 H B M S a L c va vc T) := N6.out.below hb7
      clear c0 c1 c2 d0 d1 d2 ht6 hb7
      obtain ⟨⟨c0, c1, c2⟩, d0, d1, d2⟩ := N7.out.six
      have ht7 := hpa w7 va vc N7.out.fl
      go_upto_region 5 with (go_at_call 19; (with_reducible refine ht7.mono ?_); rintro e8 w8 ⟨rfl, hb8⟩)
      have N8 : Aside (Nx w w8 H B M S a L c va vc T) := N7.out.below hb8
      clear c0 c1 c2 d0 d1 d2 ht7 hb8
      obtain ⟨⟨c0, c1, c2⟩, d0, d1, d2⟩ := N8.out.six
      have ht8 := hrpa w8 a c N8.out.fa
      go_upto_region 6 with (go_at_call 20; (with_reducible refine ht8.mono ?_); rintro e9 w9 ⟨rfl, hb9⟩)
      have N9 : Aside (Nx w w9 H B M S a L c va vc T) := N8.out.below hb9
      clear c0 c1 c2 d0 d1 d2 ht8 hb9
      obtain ⟨⟨c0, c1, c2⟩, d0, d1, d2⟩ := N9.out.six
      have ht9 := hfe w9 va vc N9.out.fl N9.out.fa
      have er : (r == r) = true := by simp
      have ey : (y == y) = true := by simp
      clear htx hrtx hpa hrpa hfe
      go_wp2_with (first
        | (go_at_call 21; (with_reducible refine ht9.mono ?_); rintro e10 w10 ⟨rfl, hb10⟩)
        | (go_at_call 16; (with_reducible refine (hawk _).mono ?_); rintro e11 w11 ⟨rfl, hb11⟩))
      first | go_ret | go_ret2
      have N10 := N9.out.below hb10
      exact ⟨rfl, N10.bel.trans (hb11.mono (Nat.le_of_lt N10.kH.lt))⟩
    refine AllReadyH.cons (o := ⟨_, _, _, _, _, _⟩) rfl (fun K hK => ?_) AllReadyH.nil
    go_simp
    refine hK.out _ _ ⟨xc0, xc1, xc2⟩ (fun hHeldA2 => ?_)
    clear hK K
    try simp only [Act.put, List.setIfInBounds_toArray, List.set_cons_zero, List.set_cons_succ]
    refine wpAnyH_ready (rs := [7]) (by kernel_rfl) (by simp) ?_
    refine AllReadyH.cons (o := ⟨_, _, _, _, _, _⟩) rfl (fun K hK => ?_) AllReadyH.nil
    refine step_ows Try.prog _ rfl (.tmp 18) (.tmp 20) 22 rfl 29 i0 _ 2 32 Try.underlying22 hi hz0 hz1 hz2 rfl (by decide) G (.slice (some ⟨G, 0, none⟩) 0 0) 0 [] (by first | rfl | go_simp) oab.drew a (fc T) L c AL.out.1 (by first | rfl | go_simp) AL.out.2.1 hlab fc_one AL.out.2.2.1 AL.out.2.2.2 ?_
    intro va vc w4 hgot
    have k4 := Cells.got kab.drew hgot (by decide)
    have y4 := k1d _ k4
    have ow4 : Ow w4 G 29 2 (.slice va L vc) L (fc T) := by have h := hgot.ow; rw [Nat.zero_add, List.nil_append] at h; exact h
    have eL : 0 + L = L := Nat.zero_add L
    rw [eL]
    refine hK.out _ _ y4 (fun hHeldB => ?_)
    clear hK K
    try simp only [Act.put, List.setIfInBounds_toArray, List.set_cons_zero, List.set_cons_succ]
    have kz := Cells.got kZab.drew hgot (by decide)
    obtain ⟨v0, v1, v2⟩ := zf _ _ _ kz
    obtain ⟨u0, u1, u2⟩ := zc _ _ kz
    have nx : Nx w (((w4.setCell ⟨G + 1, 0, none⟩ (.string M)).setCell ⟨G + 1, 1, none⟩ (.string S)).setCell ⟨G + 1, 2, none⟩ (.slice va L vc)) H (G + 1) M S a L c va vc T := Nx.laid kz k4 hG (by omega) A.out.2.2.2 ow4 A.out.2.2.1 (AW.out.2.1.trans (Below.trans (Below.drew (Below.refl _ _)) hgot.bel)) A.out.2.1
    refine wpAnyH_take (i := 8) (oi := ⟨_, _, _, _, _, _⟩) (v := ?_) rfl (by kernel_rfl) (by kernel_rfl) (by kernel_rfl) (fun _ _ _ h => h) (Or.inl ⟨by rfl, ?_⟩) hHeldB ?_
    rotate_left
    · (intro w9 hSw; (try dsimp only at hSw); obtain ⟨q0, q1, q2⟩ := hSw; go_simp; try (with_reducible rfl))
    try simp only [Act.put, List.setIfInBounds_toArray, List.set_cons_zero, List.set_cons_succ]
    refine wpAnyH_ready (rs := [10]) (by kernel_rfl) (by simp) ?_
    refine AllReadyH.cons (o := ⟨_, _, _, _, _, _⟩) rfl (fun K hK => ?_) AllReadyH.nil
    go_simp
    refine hK.out _ _ nx.six.1 (fun hHeldC => ?_)
    clear hK K
    try simp only [Act.put, List.setIfInBounds_toArray, List.set_cons_zero, List.set_cons_succ]
    refine wpAnyH_done (by kernel_rfl) ?_ _
    dsimp only [Exit.then]
    clear kz v0 v1 v2 u0 u1 u2 hHeldB hHeldC
    generalize (((w4.setCell ⟨G + 1, 0, none⟩ (.string M)).setCell ⟨G + 1, 1, none⟩ (.string S)).setCell ⟨G + 1, 2, none⟩ (.slice va L vc)) = w5 at nx ⊢
    obtain ⟨B, hB⟩ : ∃ B, G + 1 = B := ⟨_, rfl⟩
    rw [hB] at nx
    (try rw [hB])
    (try simp only [hB])
    clear hB
    clear y4 k4 ow4 hgot x0 x1 x2 xa0 xa1 xa2 xb0 xb1 xb2 xc0 xc1 xc2 xd0 xd1 xd2 ka kb kab kba oa oab oba kZab kZba hla hlab hlba k1 k1d zf zc AW hi hz0 hz1 hz2
    obtain ⟨⟨c0, c1, c2⟩, d0, d1, d2⟩ := nx.six
    have N5 : Aside (Nx w w5 H B M S a L c va vc T) := nx
    have ht5 := htx w5 va vc nx.fl
    clear nx
    go_upto_region 3 with (go_at_call 17; (with_reducible refine ht5.mono ?_); rintro e6 w6 ⟨rfl, hb6⟩)
    have N6 : Aside (Nx w w6 H B M S a L c va vc T) := N5.out.below hb6
    clear c0 c1 c2 d0 d1 d2 ht5 hb6
    obtain ⟨⟨c0, c1, c2⟩, d0, d1, d2⟩ := N6.out.six
    have ht6 := hrtx w6 a c N6.out.fa
    go_upto_region 4 with (go_at_call 18; (with_reducible refine ht6.mono ?_); rintro e7 w7 ⟨rfl, hb7⟩)
    have N7 : Aside (Nx w w7 H B M S a L c va vc T) := N6.out.below hb7
    clear c0 c1 c2 d0 d1 d2 ht6 hb7
    obtain ⟨⟨c0, c1, c2⟩, d0, d1, d2⟩ := N7.out.six
    have ht7 := hpa w7 va vc N7.out.fl
    go_upto_region 5 with (go_at_call 19; (with_reducible refine ht7.mono ?_); rintro e8 w8 ⟨rfl, hb8⟩)
    have N8 : Aside (Nx w w8 H B M S a L c va vc T) := N7.out.below hb8
    clear c0 c1 c2 d0 d1 d2 ht7 hb8
    obtain ⟨⟨c0, c1, c2⟩, d0, d1, d2⟩ := N8.out.six
    have ht8 := hrpa w8 a c N8.out.fa
    go_upto_region 6 with (go_at_call 20; (with_reducible refine ht8.mono ?_); rintro e9 w9 ⟨rfl, hb9⟩)
    have N9 : Aside (Nx w w9 H B M S a L c va vc T) := N8.out.below hb9
    clear c0 c1 c2 d0 d1 d2 ht8 hb9
    obtain ⟨⟨c0, c1, c2⟩, d0, d1, d2⟩ := N9.out.six
    have ht9 := hfe w9 va vc N9.out.fl N9.out.fa
    have er : (r == r) = true := by simp
    have ey : (y == y) = true := by simp
    clear htx hrtx hpa hrpa hfe
    go_wp2_with (first
      | (go_at_call 21; (with_reducible refine ht9.mono ?_); rintro e10 w10 ⟨rfl, hb10⟩)
      | (go_at_call 16; (with_reducible refine (hawk _).mono ?_); rintro e11 w11 ⟨rfl, hb11⟩))
    first | go_ret | go_ret2
    have N10 := N9.out.below hb10
    exact ⟨rfl, N10.bel.trans (hb11.mono (Nat.le_of_lt N10.kH.lt))⟩
  refine AllReadyH.cons (o := ⟨_, _, _, _, _, _⟩) rfl (fun K hK => ?_) AllReadyH.nil
  go_simp
  refine hK.out _ _ ⟨xb0, xb1, xb2⟩ (fun hHeldA => ?_)
  clear hK K
  try simp only [Act.put, List.setIfInBounds_toArray, List.set_cons_zero, List.set_cons_succ]
  refine wpAnyH_ready (rs := [4]) (by kernel_rfl) (by simp) ?_
  refine AllReadyH.cons (o := ⟨_, _, _, _, _, _⟩) rfl (fun K hK => ?_) AllReadyH.nil
  go_simp
  refine hK.out _ _ ⟨xd0, xd1, xd2⟩ (fun hHeldA2 => ?_)
  clear hK K
  try simp only [Act.put, List.setIfInBounds_toArray, List.set_cons_zero, List.set_cons_succ]
  refine wpAnyH_ready (rs := [7]) (by kernel_rfl) (by simp) ?_
  refine AllReadyH.cons (o := ⟨_, _, _, _, _, _⟩) rfl (fun K hK => ?_) AllReadyH.nil
  refine step_ows Try.prog _ rfl (.tmp 18) (.tmp 20) 22 rfl 29 i0 _ 2 32 Try.underlying22 hi hz0 hz1 hz2 rfl (by decide) G (.slice (some ⟨G + 1, 0, none⟩) 0 0) 0 [] (by first | rfl | go_simp) oba.drew a (fc T) L c AL.out.1 (by first | rfl | go_simp) AL.out.2.1 hlba fc_one AL.out.2.2.1 AL.out.2.2.2 ?_
  intro va vc w4 hgot
  have k4 := Cells.got kba.drew hgot (by decide)
  have y4 := k1d _ k4
  have ow4 : Ow w4 G 29 2 (.slice va L vc) L (fc T) := by have h := hgot.ow; rw [Nat.zero_add, List.nil_append] at h; exact h
  have eL : 0 + L = L := Nat.zero_add L
  rw [eL]
  refine hK.out _ _ y4 (fun hHeldB => ?_)
  clear hK K
  try simp only [Act.put, List.setIfInBounds_toArray, List.set_cons_zero, List.set_cons_succ]
  have kz := Cells.got kZba.drew hgot (by decide)
  obtain ⟨v0, v1, v2⟩ := zf _ _ _ kz
  obtain ⟨u0, u1, u2⟩ := zc _ _ kz
  have nx : Nx w (((w4.setCell ⟨G, 0, none⟩ (.string M)).setCell ⟨G, 1, none⟩ (.string S)).setCell ⟨G, 2, none⟩ (.slice va L vc)) H (G) M S a L c va vc T := Nx.laid kz k4 hG (by omega) A.out.2.2.2 ow4 A.out.2.2.1 (AW.out.2.2.trans (Below.trans (Below.drew (Below.refl _ _)) hgot.bel)) A.out.2.1
  refine wpAnyH_take (i := 8) (oi := ⟨_, _, _, _, _, _⟩) (v := ?_) rfl (by kernel_rfl) (by kernel_rfl) (by kernel_rfl) (fun _ _ _ h => h) (Or.inl ⟨by rfl, ?_⟩) hHeldB ?_
  rotate_left
  · (intro w9 hSw; (try dsimp only at hSw); obtain ⟨q0, q1, q2⟩ := hSw; go_simp; try (with_reducible rfl))
  try simp only [Act.put, List.setIfInBounds_toArray, List.set_cons_zero, List.set_cons_succ]
  refine wpAnyH_ready (rs := [10]) (by kernel_rfl) (by simp) ?_
  refine AllReadyH.cons (o := ⟨_, _, _, _, _, _⟩) rfl (fun K hK => ?_) AllReadyH.nil
  go_simp
  refine hK.out _ _ nx.six.1 (fun hHeldC => ?_)
  clear hK K
  try simp only [Act.put, List.setIfInBounds_toArray, List.set_cons_zero, List.set_cons_succ]
  refine wpAnyH_done (by kernel_rfl) ?_ _
  dsimp only [Exit.then]
  clear kz v0 v1 v2 u0 u1 u2 hHeldB hHeldC
  generalize (((w4.setCell ⟨G, 0, none⟩ (.string M)).setCell ⟨G, 1, none⟩ (.string S)).setCell ⟨G, 2, none⟩ (.slice va L vc)) = w5 at nx ⊢
  obtain ⟨B, hB⟩ : ∃ B, G = B := ⟨_, rfl⟩
  rw [hB] at nx
  (try rw [hB])
  (try simp only [hB])
  clear hB
  clear y4 k4 ow4 hgot x0 x1 x2 xa0 xa1 xa2 xb0 xb1 xb2 xc0 xc1 xc2 xd0 xd1 xd2 ka kb kab kba oa oab oba kZab kZba hla hlab hlba k1 k1d zf zc AW hi hz0 hz1 hz2
  obtain ⟨⟨c0, c1, c2⟩, d0, d1, d2⟩ := nx.six
  have N5 : Aside (Nx w w5 H B M S a L c va vc T) := nx
  have ht5 := htx w5 va vc nx.fl
  clear nx
  go_upto_region 3 with (go_at_call 17; (with_reducible refine ht5.mono ?_); rintro e6 w6 ⟨rfl, hb6⟩)
  have N6 : Aside (Nx w w6 H B M S a L c va vc T) := N5.out.below hb6
  clear c0 c1 c2 d0 d1 d2 ht5 hb6
  obtain ⟨⟨c0, c1, c2⟩, d0, d1, d2⟩ := N6.out.six
  have ht6 := hrtx w6 a c N6.out.fa
  go_upto_region 4 with (go_at_call 18; (with_reducible refine ht6.mono ?_); rintro e7 w7 ⟨rfl, hb7⟩)
  have N7 : Aside (Nx w w7 H B M S a L c va vc T) := N6.out.below hb7
  clear c0 c1 c2 d0 d1 d2 ht6 hb7
  obtain ⟨⟨c0, c1, c2⟩, d0, d1, d2⟩ := N7.out.six
  have ht7 := hpa w7 va vc N7.out.fl
  go_upto_region 5 with (go_at_call 19; (with_reducible refine ht7.mono ?_); rintro e8 w8 ⟨rfl, hb8⟩)
  have N8 : Aside (Nx w w8 H B M S a L c va vc T) := N7.out.below hb8
  clear c0 c1 c2 d0 d1 d2 ht7 hb8
  obtain ⟨⟨c0, c1, c2⟩, d0, d1, d2⟩ := N8.out.six
  have ht8 := hrpa w8 a c N8.out.fa
  go_upto_region 6 with (go_at_call 20; (with_reducible refine ht8.mono ?_); rintro e9 w9 ⟨rfl, hb9⟩)
  have N9 : Aside (Nx w w9 H B M S a L c va vc T) := N8.out.below hb9
  clear c0 c1 c2 d0 d1 d2 ht8 hb9
  obtain ⟨⟨c0, c1, c2⟩, d0, d1, d2⟩ := N9.out.six
  have ht9 := hfe w9 va vc N9.out.fl N9.out.fa
  have er : (r == r) = true := by simp
  have ey : (y == y) = true := by simp
  clear htx hrtx hpa hrpa hfe
  go_wp2_with (first
    | (go_at_call 21; (with_reducible refine ht9.mono ?_); rintro e10 w10 ⟨rfl, hb10⟩)
    | (go_at_call 16; (with_reducible refine (hawk _).mono ?_); rintro e11 w11 ⟨rfl, hb11⟩))
  first | go_ret | go_ret2
  have N10 := N9.out.below hb10
  exact ⟨rfl, N10.bel.trans (hb11.mono (Nat.le_of_lt N10.kH.lt))⟩
end Go.Proofs.Ytdndlegfalmkaaa

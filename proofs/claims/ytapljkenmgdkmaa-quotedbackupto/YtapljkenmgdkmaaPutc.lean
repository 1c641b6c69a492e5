/-
  The decoder's calls: New, Put, Next, End, Reason, Reset.
-/
import Derived.Test.YtapljkenmgdkmaaPut
namespace Go.Proofs.Ytapljkenmgdkmaa
open Go.RowKit
set_option linter.unusedVariables false
section
variable {w u : World} {B y : Nat} {s : St} {K W : List Nat}
theorem Du.lt (h : Du w B s K W) : B < w.heap.size := by obtain ⟨hi, _, hd⟩ := h.ex; exact hd.lt
theorem Du.cells (h : Du w B s K W) : ∃ cs, Cells w B cs 51 := by obtain ⟨hi, _, hd⟩ := h.ex; exact hd.cells
theorem Du.keep (h : Du w B s K W) (k : u.heap[B]? = w.heap[B]?) : Du u B s K W := by obtain ⟨hi, h1, hd⟩ := h.ex; exact ⟨⟨hi, h1, hd.keep k⟩, h.wf⟩
theorem Du.drewN (h : Du w B s K W) (n : Nat) : Du (w.drewN n) B s K W := h.keep rfl
theorem Du.drew (h : Du w B s K W) : Du w.drew B s K W := h.keep rfl
theorem Du.below (h : Du w B s K W) {C : Nat} (k : Below C w u) (hC : B < C) : Du u B s K W := h.keep (k.block B hC)
theorem Du.alloc (h : Du w B s K W) (o : Obj) : Du (w.alloc o) B s K W := h.keep (Below.heap_alloc w o B h.lt)
theorem Du.ap (h : Du w B s K W) {lo : Nat} {e : TypeId} (k : Ap lo e w u) (he : 51 ≠ e) : Du u B s K W := by obtain ⟨hi, h1, hd⟩ := h.ex; exact ⟨⟨hi, h1, hd.ap k he⟩, h.wf⟩
theorem Dv.lt (h : Dv w B K y) : B < w.heap.size := by obtain ⟨hi, hd⟩ := h.ex; exact hd.lt
theorem Dv.cells (h : Dv w B K y) : ∃ cs, Cells w B cs 51 := by obtain ⟨hi, hd⟩ := h.ex; exact hd.cells
theorem Dv.keep (h : Dv w B K y) (k : u.heap[B]? = w.heap[B]?) : Dv u B K y := by obtain ⟨hi, hd⟩ := h.ex; exact ⟨hi, hd.keep k⟩
theorem Dv.drewN (h : Dv w B K y) (n : Nat) : Dv (w.drewN n) B K y := h.keep rfl
theorem Dv.drew (h : Dv w B K y) : Dv w.drew B K y := h.keep rfl
theorem Dv.below (h : Dv w B K y) {C : Nat} (k : Below C w u) (hC : B < C) : Dv u B K y := h.keep (k.block B hC)
theorem Dv.alloc (h : Dv w B K y) (o : Obj) : Dv (w.alloc o) B K y := h.keep (Below.heap_alloc w o B h.lt)
theorem Dv.ap (h : Dv w B K y) {lo : Nat} {e : TypeId} (k : Ap lo e w u) (he : 51 ≠ e) : Dv u B K y := by obtain ⟨hi, hd⟩ := h.ex; exact ⟨hi, hd.ap k he⟩
end
section
variable {P : Program}
/-- A row was stored into the decoder's block, from place off on. -/
structure Mid (D off : Nat) (f f' : Nat → Value) (vs : List Value) (w w' : World) : Prop where
  cells : Cells w' D (cz f') 51
  only : Only D w w'
  new : ∀ (j : Nat) (v : Value), vs[j]? = some v → f' (off + j) = v
  old : ∀ j, j < off ∨ off + vs.length ≤ j → f' j = f j
theorem store_mid (D off : Nat) : ∀ (vs : List Value) (i : Nat) (f : Nat → Value) (w : World), Cells w D (cz f) 51 → off + i + vs.length ≤ 72 → (∀ v ∈ vs, v.oneCell' = true) →
    ∃ w' f', (storeCells ⟨D, off, none⟩ vs i).run P w = .ok () w' ∧ Mid D (off + i) f f' vs w w'
  | [], i, f, w, hc, hl, h1 => ⟨w, f, rfl, hc, Only.refl _ _, fun j v h => by simp at h, fun _ _ => rfl⟩
  | v :: rest, i, f, w, hc, hl, h1 => by
    rw [List.length_cons] at hl
    have hadd : (⟨D, off, none⟩ : Addr).add i = ⟨D, off + i, none⟩ := by unfold Addr.add; split <;> simp_all
    have hcell : w.cell? ⟨D, off + i, none⟩ = some (f (off + i)) := (hc.cell _).trans (cz_at f (by omega))
    have hfro := hc.frozen (off + i)
    have hst : (store ((⟨D, off, none⟩ : Addr).add i) v).run P w = .ok () (w.setCell ⟨D, off + i, none⟩ v) := by
      rw [hadd, run_store P w _ v _ (h1 v (by simp)), hcell]
      simp [hfro]
    have hc2 : Cells (w.setCell ⟨D, off + i, none⟩ v) D (cz (upd f (off + i) v)) 51 := by
      have := hc.set (off + i) v
      rwa [cz_set] at this
    obtain ⟨w', f', h2, h3⟩ := store_mid D off rest (i + 1) (upd f (off + i) v) _ hc2 (by omega) (fun x hx => h1 x (by simp [hx]))
    refine ⟨w', f', ?_, h3.cells, ((Only.refl D w).setCell _ _).trans h3.only, ?_, ?_⟩
    · simp only [storeCells, Sem.run_bind, hst, Result.andThen_ok, h2]
    · intro j x hj
      cases j with
      | zero =>
        rw [List.getElem?_cons_zero] at hj
        cases hj
        rw [Nat.add_zero, h3.old _ (Or.inl (by omega)), upd_same]
      | succ j =>
        rw [List.getElem?_cons_succ] at hj
        have := h3.new j x hj
        rw [show off + i + (j + 1) = off + (i + 1) + j by omega]
        exact this
    · intro j hj
      rw [List.length_cons] at hj
      rw [h3.old j (by omega), upd_ne _ _ (by omega)]
theorem wpList_store_mid {ops : Array Oper} {rest : List Oper} {o : Oper} {a : Act} {w : World} {Q : Exit → Act → World → Prop} (hgd : o.guard = none) (ty : TypeId) (x y : Operand) (ho : o.op = .store ty x y)
    (D off : Nat) (cells : Array Value) (hx : a.eval x = .pointer (some ⟨D, off, none⟩)) (hy : a.eval y = .agg cells) (f : Nat → Value) (hg : Cells w D (cz f) 51) (hi : (P.info? ty).map (·.size) = some cells.size)
    (hle : off + cells.size ≤ 72) (h1 : cells.all (·.oneCell') = true)
    (h : ∀ w' f', Mid D off f f' cells.toList w w' → wpList P ops Q rest (a.put o.dst undef) w') : wpList P ops Q (o :: rest) a w := by
  refine wpList_plain hgd fun K hK => ?_
  obtain ⟨w', f', h2, h3⟩ := store_mid (P := P) D off cells.toList 0 f w hg (by simp; omega) (fun v hv => (Array.all_eq_true_iff_forall_mem.1 h1) v (by simpa using hv))
  have hv : (storeVar ty ⟨D, off, none⟩ (.agg cells)).run P w = .ok () w' := by
    cases hq : P.info? ty with
    | none => simp [hq] at hi
    | some i =>
      have hs : cells.size = i.size := by simp [hq] at hi; omega
      simp [storeVar, sizeOf, typeInfo, hq, Value.cells, hs, h2]
  unfold Oper.wp execOp
  simp only [ho, hx, hy, Instr.storeAt, Instr.sureAddr, Sem.run_bind, Sem.run_pure, Result.andThen_ok, hv]
  exact hK _ _ (h w' f' h3)
end
section
variable {B : Nat} {s : St} {K W : List Nat}
theorem put_call (sn hi x f : Nat) (hf : (sn = 1 ∧ f = 29) ∨ (sn = 2 ∧ f = 30) ∨ (sn = 3 ∧ f = 31) ∨ (sn = 4 ∧ f = 32) ∨ (sn = 0 ∧ f = 33)) (w : World) (h : Dl w B sn hi W 0 0) (R : World → Prop) (hc : Calls Try.prog f #[.pointer (some ⟨B, 0, none⟩), .int .u8 x] w fun e w' => e = .returned (.tuple #[]) ∧ R w' ∧ But B w w') :
    Calls Try.prog 14 #[.pointer (some ⟨B, 0, none⟩), .int .u8 x] w fun e w' => e = .returned (.bool true) ∧ R w' ∧ But B w w' := by
  have hop := open_yes (by omega) w h
  have c0 := h.c0
  clear h
  rcases hf with ⟨rfl, rfl⟩ | ⟨rfl, rfl⟩ | ⟨rfl, rfl⟩ | ⟨rfl, rfl⟩ | ⟨rfl, rfl⟩
  all_goals
    go_enter Try.func14, Try.ntmps14
    go_wp2_with (first
      | (go_at_call 28; refine hop.mono ?_; rintro e1 w0 ⟨rfl, hw0⟩; subst hw0)
      | (first | go_at_call 29 | go_at_call 30 | go_at_call 31 | go_at_call 32 | go_at_call 33
         refine hc.mono ?_; rintro e1 w1 ⟨rfl, h1, o1⟩))
    go_ret
    exact ⟨rfl, h1, o1⟩
/-- A byte that goes on. -/
theorem put_go (x : Nat) (hx : x < 256) (w : World) (h : Du w B s [] W) {s' : St} {W' K' : List Nat} (e : ev s W x = .go s' W' K') :
    Calls Try.prog 14 #[.pointer (some ⟨B, 0, none⟩), .int .u8 x] w fun e w' => e = .returned (.bool true) ∧ Du w' B s' K' W' ∧ But B w w' := by
  obtain ⟨hi, hh, hd⟩ := h.ex
  have hwf := h.wf
  have hwf2 := ev_wf hx hwf e
  have hW := hwf.le
  cases s using St.el with
  | no =>
    have hc := plain_c (K := []) (W := W) x hx w hd (by simp; omega) hW e
    refine (put_call 0 hi x 33 (by simp) w hd (fun w' => Dl w' B s'.num hi (K' ++ W') K'.length 0) hc).mono ?_
    rintro e1 w1 ⟨he, h1, o1⟩
    refine ⟨he, ⟨⟨hi, fun q hq => ?_, h1⟩, hwf2⟩, o1⟩
    subst hq
    unfold ev pl at e
    simp only at e
    (repeat' split at e) <;> cases e
  | eq =>
    have hWn : W = [] := by rcases hwf.nil with h | h | h <;> first | cases h; done | exact h
    subst hWn
    unfold ev at e
    simp only at e
    split at e
    · rename_i hv
      cases e
      refine (put_call 1 hi x 29 (by simp) w hd (fun w' => Dl w' B 2 (vl x) [] 0 0) (eq_dig x hx hv w hd)).mono ?_
      rintro e1 w1 ⟨he, h1, o1⟩
      exact ⟨he, ⟨⟨vl x, (fun q hq => by cases hq; rfl), h1⟩, hwf2⟩, o1⟩
    split at e
    · rename_i h13
      subst h13
      cases e
      refine (put_call 1 hi 13 29 (by simp) w hd (fun w' => Dl w' B 3 hi [] 0 0) (eq_13 w hd)).mono ?_
      rintro e1 w1 ⟨he, h1, o1⟩
      exact ⟨he, ⟨⟨hi, (fun q hq => by cases hq), h1⟩, hwf2⟩, o1⟩
    split at e
    · rename_i h10
      subst h10
      cases e
      refine (put_call 1 hi 10 29 (by simp) w hd (fun w' => Dl w' B 0 hi [] 0 0) (eq_10 w hd)).mono ?_
      rintro e1 w1 ⟨he, h1, o1⟩
      exact ⟨he, ⟨⟨hi, (fun q hq => by cases hq), h1⟩, hwf2⟩, o1⟩
    · cases e
  | dg q =>
    have hWn : W = [] := by rcases hwf.nil with h | h | h <;> first | cases h; done | exact h
    subst hWn
    obtain rfl := hh q rfl
    unfold ev at e
    simp only at e
    split at e
    · rename_i hv
      cases e
      refine (put_call 2 hi x 30 (by simp) w hd (fun w' => Dl w' B 0 hi [16 * hi + vl x] 1 0) (dg_go x hx hv (hwf.dig hi rfl) w hd)).mono ?_
      rintro e1 w1 ⟨he, h1, o1⟩
      exact ⟨he, ⟨⟨hi, (fun q hq => by cases hq), h1⟩, hwf2⟩, o1⟩
    · cases e
  | sf =>
    have hWn : W = [] := by rcases hwf.nil with h | h | h <;> first | cases h; done | exact h
    subst hWn
    unfold ev at e
    simp only at e
    split at e
    · rename_i h10
      subst h10
      cases e
      refine (put_call 3 hi 10 31 (by simp) w hd (fun w' => Dl w' B 0 hi [] 0 0) (sf_10 w hd)).mono ?_
      rintro e1 w1 ⟨he, h1, o1⟩
      exact ⟨he, ⟨⟨hi, (fun q hq => by cases hq), h1⟩, hwf2⟩, o1⟩
    · cases e
  | bk =>
    have hc := bk_go x hx hW w hd e
    refine (put_call 4 hi x 32 (by simp) w hd (fun w' => Dl w' B s'.num hi (K' ++ W') K'.length 0) hc).mono ?_
    rintro e1 w1 ⟨he, h1, o1⟩
    refine ⟨he, ⟨⟨hi, fun q hq => ?_, h1⟩, hwf2⟩, o1⟩
    subst hq
    unfold ev pl at e
    simp only at e
    (repeat' split at e) <;> cases e
/-- A byte that stops it. -/
theorem put_stop (x : Nat) (hx : x < 256) (w : World) (h : Du w B s [] W) (e : ev s W x = .stop) :
    Calls Try.prog 14 #[.pointer (some ⟨B, 0, none⟩), .int .u8 x] w fun e w' => e = .returned (.bool true) ∧ Dv w' B [] 22 ∧ But B w w' := by
  obtain ⟨hi, hh, hd⟩ := h.ex
  have hwf := h.wf
  cases s using St.el with
  | no =>
    obtain ⟨s', W', K', e2⟩ := pl_goes [] W x
    unfold ev at e
    simp only at e
    rw [e2] at e
    cases e
  | eq =>
    have hWn : W = [] := by rcases hwf.nil with h | h | h <;> first | cases h; done | exact h
    subst hWn
    unfold ev at e
    simp only at e
    split at e
    · cases e
    rename_i hv
    split at e
    · cases e
    rename_i h13
    split at e
    · cases e
    rename_i h10
    refine (put_call 1 hi x 29 (by simp) w hd (fun w' => Dl w' B 5 hi [] 0 22) (eq_stop x hx hv h13 h10 w hd)).mono ?_
    rintro e1 w1 ⟨he, h1, o1⟩
    exact ⟨he, ⟨⟨hi, h1⟩⟩, o1⟩
  | dg q =>
    have hWn : W = [] := by rcases hwf.nil with h | h | h <;> first | cases h; done | exact h
    subst hWn
    unfold ev at e
    simp only at e
    split at e
    · cases e
    rename_i hv
    refine (put_call 2 hi x 30 (by simp) w hd (fun w' => Dl w' B 5 hi [] 0 22) (dg_stop x hx hv w hd)).mono ?_
    rintro e1 w1 ⟨he, h1, o1⟩
    exact ⟨he, ⟨⟨hi, h1⟩⟩, o1⟩
  | sf =>
    have hWn : W = [] := by rcases hwf.nil with h | h | h <;> first | cases h; done | exact h
    subst hWn
    unfold ev at e
    simp only at e
    split at e
    · cases e
    rename_i hv
    refine (put_call 3 hi x 31 (by simp) w hd (fun w' => Dl w' B 5 hi [] 0 22) (sf_stop x hv w hd)).mono ?_
    rintro e1 w1 ⟨he, h1, o1⟩
    exact ⟨he, ⟨⟨hi, h1⟩⟩, o1⟩
  | bk =>
    unfold ev at e
    simp only at e
    split at e
    · cases e
    · obtain ⟨s', W', K', e2⟩ := pl_goes (W ++ [13]) [] x
      rw [e2] at e
      cases e
theorem put_shut (x : Nat) (w : World) (hop : Calls Try.prog 28 #[.pointer (some ⟨B, 0, none⟩)] w fun e w' => e = .returned (.bool false) ∧ w = w') : Calls Try.prog 14 #[.pointer (some ⟨B, 0, none⟩), .int .u8 x] w fun e w' => e = .returned (.bool false) ∧ w = w' := by
  go_enter Try.func14, Try.ntmps14
  go_wp2_with (go_at_call 28; refine hop.mono ?_; rintro e1 w0 ⟨rfl, hw0⟩; subst hw0)
  go_ret
  exact ⟨rfl, rfl⟩
theorem put_full (x : Nat) (w : World) (h : Du w B s K W) (hK : K ≠ []) : Calls Try.prog 14 #[.pointer (some ⟨B, 0, none⟩), .int .u8 x] w fun e w' => e = .returned (.bool false) ∧ w = w' := by
  obtain ⟨hi, hh, hd⟩ := h.ex
  exact put_shut x w (open_full (List.length_pos_iff.2 hK) w hd)
theorem put_over {y : Nat} (x : Nat) (w : World) (h : Dv w B K y) : Calls Try.prog 14 #[.pointer (some ⟨B, 0, none⟩), .int .u8 x] w fun e w' => e = .returned (.bool false) ∧ w = w' := by
  obtain ⟨hi, hd⟩ := h.ex
  exact put_shut x w (open_over w hd)
theorem next_l {hi sn kn y x : Nat} {l : List Nat} (w : World) (h : Dl w B sn hi (x :: l) kn y) (hk : 0 < kn) : Calls Try.prog 21 #[.pointer (some ⟨B, 0, none⟩)] w fun e w' => e = .returned (.tuple #[.int .u8 (x : Int), .bool true]) ∧ Dl w' B sn hi l (kn - 1) y ∧ But B w w' := by
  have c0 := h.c70
  have hta := take_l x w h hk
  have t3 : ((kn : Int) == 0) = false := by rw [beq_eq_false_iff_ne]; omega
  clear h hk
  go_enter Try.func21, Try.ntmps21
  go_wp2_with (go_at_call 39; refine hta.mono ?_; rintro e1 w1 ⟨rfl, h1, o1⟩)
  go_ret2
  exact ⟨rfl, h1, But.of_only o1⟩
theorem next_none {hi sn y : Nat} {l : List Nat} (w : World) (h : Dl w B sn hi l 0 y) : Calls Try.prog 21 #[.pointer (some ⟨B, 0, none⟩)] w fun e w' => e = .returned (.tuple #[.int .u8 0, .bool false]) ∧ w = w' := by
  have c0 := h.c70
  clear h
  go_enter Try.func21, Try.ntmps21
  go_wp2_with fail
  go_ret2
  exact ⟨rfl, rfl⟩
theorem next_nil (w : World) : Calls Try.prog 21 #[.pointer none] w fun e w' => e = .returned (.tuple #[.int .u8 0, .bool false]) ∧ w = w' := by
  go_enter Try.func21, Try.ntmps21
  go_wp2_with fail
  go_ret2
  exact ⟨rfl, rfl⟩
theorem next_du {x : Nat} (w : World) (h : Du w B s (x :: K) W) : Calls Try.prog 21 #[.pointer (some ⟨B, 0, none⟩)] w fun e w' => e = .returned (.tuple #[.int .u8 (x : Int), .bool true]) ∧ Du w' B s K W ∧ But B w w' := by
  obtain ⟨hi, hh, hd⟩ := h.ex
  refine (next_l w hd (by simp)).mono ?_
  rintro e1 w1 ⟨he, h1, o1⟩
  exact ⟨he, ⟨⟨hi, hh, by simpa using h1⟩, h.wf⟩, o1⟩
theorem next_dv {x y : Nat} (w : World) (h : Dv w B (x :: K) y) : Calls Try.prog 21 #[.pointer (some ⟨B, 0, none⟩)] w fun e w' => e = .returned (.tuple #[.int .u8 (x : Int), .bool true]) ∧ Dv w' B K y ∧ But B w w' := by
  obtain ⟨hi, hd⟩ := h.ex
  refine (next_l w hd (by simp)).mono ?_
  rintro e1 w1 ⟨he, h1, o1⟩
  exact ⟨he, ⟨⟨hi, by simpa using h1⟩⟩, o1⟩
theorem next_du0 (w : World) (h : Du w B s [] W) : Calls Try.prog 21 #[.pointer (some ⟨B, 0, none⟩)] w fun e w' => e = .returned (.tuple #[.int .u8 0, .bool false]) ∧ w = w' := by
  obtain ⟨hi, hh, hd⟩ := h.ex
  exact next_none w hd
theorem next_dv0 {y : Nat} (w : World) (h : Dv w B [] y) : Calls Try.prog 21 #[.pointer (some ⟨B, 0, none⟩)] w fun e w' => e = .returned (.tuple #[.int .u8 0, .bool false]) ∧ w = w' := by
  obtain ⟨hi, hd⟩ := h.ex
  exact next_none w hd
theorem why_l {hi sn kn y : Nat} {l : List Nat} (w : World) (h : Dl w B sn hi l kn y) : Calls Try.prog 17 #[.pointer (some ⟨B, 0, none⟩)] w fun e w' => e = .returned (.int .i64 (y : Int)) ∧ w = w' := by
  have c0 := h.c71
  clear h
  go_enter Try.func17, Try.ntmps17
  go_wp2_with fail
  go_ret
  exact ⟨rfl, rfl⟩
theorem why_nil (w : World) : Calls Try.prog 17 #[.pointer none] w fun e w' => e = .returned (.int .i64 0) ∧ w = w' := by
  go_enter Try.func17, Try.ntmps17
  go_wp2_with fail
  go_ret
  exact ⟨rfl, rfl⟩
theorem why_du (w : World) (h : Du w B s K W) : Calls Try.prog 17 #[.pointer (some ⟨B, 0, none⟩)] w fun e w' => e = .returned (.int .i64 0) ∧ w = w' := by
  obtain ⟨hi, hh, hd⟩ := h.ex
  exact why_l w hd
theorem why_dv {y : Nat} (w : World) (h : Dv w B K y) : Calls Try.prog 17 #[.pointer (some ⟨B, 0, none⟩)] w fun e w' => e = .returned (.int .i64 (y : Int)) ∧ w = w' := by
  obtain ⟨hi, hd⟩ := h.ex
  exact why_l w hd
theorem end_shut (v : Value) (w : World) (hop : Calls Try.prog 28 #[v] w fun e w' => e = .returned (.bool false) ∧ w = w') : Calls Try.prog 18 #[v] w fun e w' => e = .returned (.tuple #[]) ∧ w = w' := by
  go_enter Try.func18, Try.ntmps18
  go_wp2_with (go_at_call 28; refine hop.mono ?_; rintro e1 w0 ⟨rfl, hw0⟩; subst hw0)
  first | go_end0 | (refine bodyPost_ret (results_none rfl _ _ _) rfl ?_)
  exact ⟨rfl, rfl⟩
theorem end_dg {hi : Nat} (w : World) (h : Dl w B 2 hi [] 0 0) : Calls Try.prog 18 #[.pointer (some ⟨B, 0, none⟩)] w fun e w' => e = .returned (.tuple #[]) ∧ Dl w' B 5 hi [] 0 1 ∧ But B w w' := by
  have hop := open_yes (by omega) w h
  have c0 := h.c0
  have c1 := h.c71
  have z0 := h.fz 0
  have z1 := h.fz 71
  have A : Aside (Dl w B 2 hi [] 0 0) := h
  clear h
  go_enter Try.func18, Try.ntmps18
  go_wp2_with (go_at_call 28; refine hop.mono ?_; rintro e1 w0 ⟨rfl, hw0⟩; subst hw0)
  first | go_end0 | (refine bodyPost_ret (results_none rfl _ _ _) rfl ?_)
  exact ⟨rfl, (A.out.set71 1).set0 5, But.of_only (((Only.refl B _).setCell _ _).setCell _ _)⟩
theorem end_bk {hi : Nat} (w : World) (h : Dl w B 4 hi W 0 0) (hl : W.length ≤ 64) : Calls Try.prog 18 #[.pointer (some ⟨B, 0, none⟩)] w fun e w' => e = .returned (.tuple #[]) ∧ Dl w' B 5 hi (W ++ [13]) (W.length + 1) 0 ∧ But B w w' := by
  have hop := open_yes (by omega) w h
  have c0 := h.c0
  have hkn := know_new 13 w h (by omega)
  clear h hl
  go_enter Try.func18, Try.ntmps18
  go_upto_region 7 with (first
    | (go_at_call 28; refine hop.mono ?_; rintro e1 w0 ⟨rfl, hw0⟩; subst hw0)
    | (go_at_call 34; refine hkn.mono ?_; rintro e1 w1 ⟨rfl, h1, o1⟩))
  have d0 := h1.c0
  have z0 := h1.fz 0
  have A : Aside (Dl w1 B 4 hi (W ++ [13]) (W.length + 1) 0 ∧ But B w w1) := ⟨h1, o1⟩
  clear h1 o1 hkn hop c0
  go_wp2_with fail
  first | go_end0 | (refine bodyPost_ret (results_none rfl _ _ _) rfl ?_)
  exact ⟨rfl, A.out.1.set0 5, A.out.2.trans (But.of_only ((Only.refl B _).setCell _ _))⟩
theorem end_else {hi sn : Nat} (hs : sn = 0 ∨ sn = 1 ∨ sn = 3) (w : World) (h : Dl w B sn hi W 0 0) : Calls Try.prog 18 #[.pointer (some ⟨B, 0, none⟩)] w fun e w' => e = .returned (.tuple #[]) ∧ Dl w' B 5 hi [] 0 0 ∧ But B w w' := by
  have hop := open_yes (by omega) w h
  have c0 := h.c0
  have hdr := drop_l w h
  clear h
  rcases hs with rfl | rfl | rfl
  all_goals
    go_enter Try.func18, Try.ntmps18
    go_upto_region 7 with (first
      | (go_at_call 28; refine hop.mono ?_; rintro e1 w0 ⟨rfl, hw0⟩; subst hw0)
      | (go_at_call 35; refine hdr.mono ?_; rintro e1 w1 ⟨rfl, h1, o1⟩))
    have d0 := h1.c0
    have z0 := h1.fz 0
    have A : Aside (Dl w1 B _ hi [] 0 0 ∧ Only B w w1) := ⟨h1, o1⟩
    clear h1 o1 hdr hop c0
    go_wp2_with fail
    first | go_end0 | (refine bodyPost_ret (results_none rfl _ _ _) rfl ?_)
    exact ⟨rfl, A.out.1.set0 5, But.of_only (A.out.2.setCell _ _)⟩
/-- End. -/
theorem end_c (w : World) (h : Du w B s [] W) : Calls Try.prog 18 #[.pointer (some ⟨B, 0, none⟩)] w fun e w' => e = .returned (.tuple #[]) ∧ Dv w' B (fin s W) (finy s) ∧ But B w w' := by
  obtain ⟨hi, hh, hd⟩ := h.ex
  have hwf := h.wf
  cases s using St.el with
  | no =>
    refine (end_else (sn := 0) (Or.inl rfl) w hd).mono ?_
    rintro e1 w1 ⟨he, h1, o1⟩
    exact ⟨he, ⟨⟨hi, h1⟩⟩, o1⟩
  | eq =>
    refine (end_else (sn := 1) (Or.inr (Or.inl rfl)) w hd).mono ?_
    rintro e1 w1 ⟨he, h1, o1⟩
    exact ⟨he, ⟨⟨hi, h1⟩⟩, o1⟩
  | sf =>
    refine (end_else (sn := 3) (Or.inr (Or.inr rfl)) w hd).mono ?_
    rintro e1 w1 ⟨he, h1, o1⟩
    exact ⟨he, ⟨⟨hi, h1⟩⟩, o1⟩
  | dg q =>
    have hWn : W = [] := by rcases hwf.nil with h | h | h <;> first | cases h; done | exact h
    subst hWn
    refine (end_dg w hd).mono ?_
    rintro e1 w1 ⟨he, h1, o1⟩
    exact ⟨he, ⟨⟨hi, h1⟩⟩, o1⟩
  | bk =>
    refine (end_bk w hd hwf.le).mono ?_
    rintro e1 w1 ⟨he, h1, o1⟩
    exact ⟨he, ⟨⟨hi, by simpa [fin, finy] using h1⟩⟩, o1⟩
/-- What a new decoder's cells are. -/
def nf (i : Nat) : Value := if i < 68 then .int .u8 0 else .int .i64 0
theorem size51 : (Try.prog.info? 51).map (·.size) = some 72 := by kernel_rfl
theorem zero51 (w : World) : (zeroValue 51).run Try.prog w = .ok (.agg (cz nf)) w := by kernel_rfl
theorem nf_one : (cz nf).all (·.oneCell') = true := by kernel_rfl
theorem du_new {w : World} {B : Nat} {f : Nat → Value} (hc : Cells w B (cz f) 51) (hf : ∀ i, i < 72 → f i = nf i) : Du w B .no [] [] := by
  refine ⟨⟨0, (fun h e => by cases e), ⟨⟨0, fun _ => 0, by omega, ⟨f, hc, hf 0 (by omega), hf 1 (by omega), fun j hj => ?_, hf 68 (by omega), hf 69 (by omega), hf 70 (by omega), hf 71 (by omega)⟩, fun j x h => by simp at h⟩, by simp, by simp⟩⟩, wf0⟩
  rw [hf (2 + j) (by omega), nf, if_pos (by omega)]
  rfl
theorem new_c (w : World) : Calls Try.prog 13 #[] w fun e w' => e = .returned (.pointer (some ⟨w.heap.size, 0, none⟩)) ∧ Du w' w.heap.size .no [] [] ∧ Below w.heap.size w w' := by
  obtain ⟨cs, hcs⟩ : ∃ cs, cs = cz nf := ⟨_, rfl⟩
  have hz : ∀ w, (zeroValue 51).run Try.prog w = .ok (.agg cs) w := fun w => by rw [hcs]; exact zero51 w
  have A : Aside (cs = cz nf) := hcs
  clear hcs
  go_enter Try.func13, Try.ntmps13
  go_wp2_with fail
  go_ret
  refine ⟨rfl, ?_, (Below.refl _ w).alloc (Nat.le_refl _) _⟩
  rw [A.out]
  exact du_new (Cells.new w (cz nf) 51) fun i hi => rfl
theorem reset_l {sn hi kn y : Nat} {l : List Nat} (w : World) (h : Dl w B sn hi l kn y) : Calls Try.prog 15 #[.pointer (some ⟨B, 0, none⟩)] w fun e w' => e = .returned (.tuple #[]) ∧ Du w' B .no [] [] ∧ But B w w' := by
  obtain ⟨fi, g, _, hd, _⟩ := h.ex
  obtain ⟨f, hfr, _⟩ := hd.ex
  obtain ⟨cs, hcs⟩ : ∃ cs, cs = cz nf := ⟨_, rfl⟩
  have hz : ∀ w, (zeroValue 51).run Try.prog w = .ok (.agg cs) w := fun w => by rw [hcs]; exact zero51 w
  have A : Aside (cs = cz nf) := hcs
  clear hcs h hd
  go_enter Try.func15, Try.ntmps15
  go_wp2_with (refine wpList_store_mid rfl 51 (.tmp 6) (.tmp 5) rfl B 0 cs rfl rfl f hfr (by rw [A.out, cz_size]; exact size51) (by rw [A.out, cz_size]; decide) (by rw [A.out]; exact nf_one) ?_; intro w4 f4 hm4)
  first | go_end0 | (refine bodyPost_ret (results_none rfl _ _ _) rfl ?_)
  refine ⟨rfl, du_new hm4.cells fun i hi => ?_, But.of_only hm4.only⟩
  have := hm4.new i (nf i) (by rw [A.out]; simp [cz, hi])
  rwa [Nat.zero_add] at this
theorem reset_du (w : World) (h : Du w B s K W) : Calls Try.prog 15 #[.pointer (some ⟨B, 0, none⟩)] w fun e w' => e = .returned (.tuple #[]) ∧ Du w' B .no [] [] ∧ But B w w' := by
  obtain ⟨hi, hh, hd⟩ := h.ex
  exact reset_l w hd
theorem reset_dv {y : Nat} (w : World) (h : Dv w B K y) : Calls Try.prog 15 #[.pointer (some ⟨B, 0, none⟩)] w fun e w' => e = .returned (.tuple #[]) ∧ Du w' B .no [] [] ∧ But B w w' := by
  obtain ⟨hi, hd⟩ := h.ex
  exact reset_l w hd
theorem reset_nil (w : World) : Calls Try.prog 15 #[.pointer none] w fun e w' => e = .returned (.tuple #[]) ∧ w = w' := by
  go_enter Try.func15, Try.ntmps15
  go_wp2_with fail
  first | go_end0 | (refine bodyPost_ret (results_none rfl _ _ _) rfl ?_)
  exact ⟨rfl, rfl⟩
end
end Go.Proofs.Ytapljkenmgdkmaa

/-
  Own texts of this seat, one behind the other: what each says stands ahead of it.
-/
import Derived.Test.YtpihipbeagpgpaaGreatDoorMf
import Derived.Test.YtpihipbeagpgpaaGreatDoorMg
import Derived.Deep.RegionHeld3
/-
 Rows of many cells: built, stored into the inflater's block.
-/
namespace Go.Proofs.YtpihipbeagpgpaaGreatDoor
open Go.RowKit
set_option linter.unusedVariables false
section
variable {P : Program}
structure Mid (D off : Nat) (f f' : Nat → Value) (vs : List Value) (w w' : World) : Prop where
 cells : Cells w' D (cz f') 97
 only : Only D w w'
 new : ∀ (j : Nat) (v : Value), vs[j]? = some v → f' (off + j) = v
 old : ∀ j, j < off ∨ off + vs.length ≤ j → f' j = f j
theorem store_mid (D off : Nat) : ∀ (vs : List Value) (i : Nat) (f : Nat → Value) (w : World), Cells w D (cz f) 97 → off + i + vs.length ≤ 355 → (∀ v ∈ vs, v.oneCell' = true) →
  ∃ w' f', (storeCells ⟨D, off, none⟩ vs i).run P w = .ok () w' ∧ Mid D (off + i) f f' vs w w'
 | [], i, f, w, hc, hl, h1 => ⟨w, f, rfl, hc, Only.refl _ _, fun j v h => by simp at h, fun _ _ => rfl⟩
 | v :: rest, i, f, w, hc, hl, h1 => by
  rw [List.length_cons] at hl
  have hadd : (⟨D, off, none⟩ : Addr).add i = ⟨D, off + i, none⟩ := by unfold Addr.add; split <;> simp_all
  have hcell : w.cell? ⟨D, off + i, none⟩ = some (f (off + i)) := (hc.cell _).trans (cz_at f (by omega))
  have hfro := hc.frozen (off + i)
  have hst : (store ((⟨D, off, none⟩ : Addr).add i) v).run P w = .ok () (w.setCell ⟨D, off + i, none⟩ v) := by
   rw [hadd, run_store P w _ v _ (h1 v (by simp)), hcell]
   simp [hfro]
  have hc2 : Cells (w.setCell ⟨D, off + i, none⟩ v) D (cz (upd f (off + i) v)) 97 := by
   have := hc.set (off + i) v
   rwa [cz_set] at this
  obtain ⟨w', f', h2, h3⟩ := store_mid D off rest (i + 1) (upd f (off + i) v) _ hc2 (by omega) (fun x hx => h1 x (by simp [hx]))
  refine ⟨w', f', ?_, h3.cells, ((Only.refl D w).setCell _ _).trans h3.only, ?_, ?_⟩
  ·simp only [storeCells, Sem.run_bind, hst, Result.andThen_ok, h2]
  ·intro j x hj
   cases j with
   | zero =>
    rw [List.getElem?_cons_zero] at hj
    cases hj
    rw [Nat.add_zero, h3.old _ (Or.inl (by omega)), upd_same]
   | succ j =>
    rw [List.getElem?_cons_succ] at hj
    have := h3.new j x hj
    rw [show off + i + (j + 1) = off + (i + 1) + j by omega]
    exact this
  ·intro j hj
   rw [List.length_cons] at hj
   rw [h3.old j (by omega), upd_ne _ _ (by omega)]
theorem wpList_store_mid {ops : Array Oper} {rest : List Oper} {o : Oper} {a : Act} {w : World} {Q : Exit → Act → World → Prop} (hgd : o.guard = none) (ty : TypeId) (x y : Operand) (ho : o.op = .store ty x y)
  (D off : Nat) (cells : Array Value) (hx : a.eval x = .pointer (some ⟨D, off, none⟩)) (hy : a.eval y = .agg cells) (f : Nat → Value) (hg : Cells w D (cz f) 97) (hi : (P.info? ty).map (·.size) = some cells.size)
  (hle : off + cells.size ≤ 355) (h1 : cells.all (·.oneCell') = true)
  (h : ∀ w' f', Mid D off f f' cells.toList w w' → wpList P ops Q rest (a.put o.dst undef) w') : wpList P ops Q (o :: rest) a w := by
 refine wpList_plain hgd fun K hK => ?_
 obtain ⟨w', f', h2, h3⟩ := store_mid (P := P) D off cells.toList 0 f w hg (by simp; omega) (fun v hv => (Array.all_eq_true_iff_forall_mem.1 h1) v (by simpa using hv))
 have hv : (storeVar ty ⟨D, off, none⟩ (.agg cells)).run P w = .ok () w' := by
  cases hq : P.info? ty with
  | none => simp [hq] at hi
  | some i =>
   have hs : cells.size = i.size := by simp [hq] at hi; omega
   simp [storeVar, sizeOf, typeInfo, hq, Value.cells, hs, h2]
 unfold Oper.wp execOp
 simp only [ho, hx, hy, Instr.storeAt, Instr.sureAddr, Sem.run_bind, Sem.run_pure, Result.andThen_ok, hv]
 exact hK _ _ (h w' f' h3)
end
def pf (a b c : Int) (i : Nat) : Value := if i = 0 then .int .i64 a else if i = 1 then .int .i64 b else if i = 2 then .int .i64 c else if i = 23 then .pointer none else .int .i64 0
def pz (a b c : Int) : Array Value := ((List.range 340).map (pf a b c)).toArray
theorem pz_size (a b c : Int) : (pz a b c).size = 340 := by simp [pz]
theorem pz_at (a b c : Int) {i : Nat} (h : i < 340) : (pz a b c).toList[i]? = some (pf a b c i) := by simp [pz, h]
theorem pz_one (a b c : Int) : (pz a b c).all (·.oneCell') = true := by
 rw [Array.all_eq_true_iff_forall_mem]
 intro v hv
 simp only [pz, List.mem_toArray, List.mem_map] at hv
 obtain ⟨i, _, rfl⟩ := hv
 unfold pf
 split
 ·rfl
 split
 ·rfl
 split
 ·rfl
 split <;> rfl
theorem size71 : (Tryz.prog.info? 95).map (·.size) = some 340 := by kernel_rfl
def nf (b R : Nat) (v3 v4 : Value) (i : Nat) : Value := if i = 0 then .pointer (some ⟨b, 0, none⟩) else if i = 1 then .pointer (some ⟨R, 0, none⟩) else if i = 2 then .nilFunc else if i = 3 then v3 else if i = 4 then v4
 else if i = 5 then .bool false else if i = 6 then .pointer none else if i = 7 then .pointer none else if i = 31 then .pointer none else if i = 351 then .int .u8 0 else if i = 352 then .bool false else if i = 353 then .bool false else .int .i64 0
theorem size73 : (Tryz.prog.info? 97).map (·.size) = some 355 := by kernel_rfl
theorem zc71 (a b c : Int) : ((Tryz.zeroCells95.setIfInBounds 0 (.int .i64 a)).setIfInBounds 1 (.int .i64 b)).setIfInBounds 2 (.int .i64 c) = pz a b c := by kernel_rfl
theorem zc71_none : Tryz.zeroCells95 = pz 0 0 0 := by kernel_rfl
end Go.Proofs.YtpihipbeagpgpaaGreatDoor

/-
  What the step that takes a length of a length comes to.
-/
namespace Go.Proofs.YtpihipbeagpgpaaGreatDoor
open Go.RowKit
set_option linter.unusedVariables false
theorem ordr_lt : ∀ i, i < 19 → ordr.getD i 0 < 19 := by decide +kernel
section
variable {B D b R : Nat} {f : Nat → Value} {bs : List Bool} {most : Nat}
set_option maxHeartbeats 1000000 in
theorem smallLength_s (w : World) {last : Bool} {a c k i : Nat} {first : List Nat} {pos : Nat} {out times : List Nat} (hI : Is w B D b R f bs ⟨.dfst last a c k i first, pos, out, times⟩) (hO : Op f) : StepOk 93 B D b R bs most ⟨.dfst last a c k i first, pos, out, times⟩ w := by
  obtain ⟨k2, k5, sm⟩ := id hI.at_
  have hle' : pos ≤ bs.length := hI.le
  have hm' : Bs w B D b R f (bs.drop pos) (win out) := hI.mem
  have c0 := (hm'.cell (show 0 < 355 by decide)).trans (congrArg some hm'.c0)
  have A : Aside (Is w B D b R f bs ⟨.dfst last a c k i first, pos, out, times⟩ ∧ Op f ∧ pos ≤ bs.length) := ⟨hI, hO, hle'⟩
  have AK : Aside (f 2 = fnv D 93 ∧ f 5 = .bool last ∧ Sm f a c k i first) := ⟨k2, k5, sm⟩
  unfold StepOk
  by_cases hshort : (bs.drop pos).length < 3
  · have htake := take_short 3 w hm' hshort
    have AS : Aside ((bs.drop pos).length < 3) := hshort
    clear hI hO hle' hm' k2 k5 hshort sm
    go_enter Tryz.func93, Tryz.ntmps93
    go_wp2_with (go_at_call 58; refine htake.mono ?_; rintro e3 w3 ⟨rfl, rfl⟩)
    first | go_ret | go_ret2
    have a' := A.out
    have sh := AS.out
    rw [List.length_drop] at sh
    refine ⟨false, rfl, Fm.refl B w, Res.want a'.1 a'.2.1 ?_ ?_ (fun y => by simp) (by simp)⟩
    · show bs.length < pos + 32
      omega
    · unfold step
      simp only []
      rw [if_pos AK.out.2.2.lt, num_no (by omega)]; rfl
  · obtain ⟨v, hv⟩ : ∃ v, nm ((bs.drop pos).take 3) = v := ⟨_, rfl⟩
    have hvlt : v < 8 := by rw [← hv]; exact nm_take_lt _ 3
    have htake := take_at 3 w hm' (by decide) (by omega) v hv
    obtain ⟨o, ho⟩ : ∃ o, ordr.getD i 0 = o := ⟨_, rfl⟩
    have hik := sm.lt
    have hk19 := sm.k19
    have holt : o < 19 := by rw [← ho]; exact ordr_lt i (by omega)
    have hvI : (v : Int) < 8 := by omega
    have hoI : ((o : Int) < 19) = True := eq_true (by omega)
    have hon : (o < 19) = True := eq_true (by omega)
    have hiI : ((i : Int) < 19) = True := eq_true (by omega)
    have hin : (i < 19) = True := eq_true (by omega)
    have AS : Aside (pos + 3 ≤ bs.length ∧ nm ((bs.drop pos).take 3) = v ∧ ordr.getD i 0 = o ∧ o < 19 ∧ v < 8 ∧ i < 19) := ⟨by rw [List.length_drop] at hshort; omega, hv, ho, holt, hvlt, by omega⟩
    clear hI hO hle' hm' k2 k5 hshort sm hv hvlt ho hik hk19 holt
    go_enter Tryz.func93, Tryz.ntmps93
    go_upto_region 5 with (go_at_call 58; refine htake.mono ?_; rintro e2 w2 ⟨rfl, hb2, hf2⟩)
    have s := AS.out
    have k' := AK.out
    have d11 := (hb2.cell (show 11 < 355 by decide)).trans (congrArg some k'.2.2.have_)
    have t2 := (A.out.1.tabs.below (hf2.below (by have := A.out.1.mem.lt; omega)) A.out.1.b7).t2 i s.2.2.2.2.2
    rw [s.2.2.1] at t2
    have dO := hb2.cell (show 12 + o < 355 by omega)
    have zO := hb2.fz (12 + o)
    have Ab2 : Aside (Bs w2 B D b R f ((bs.drop pos).drop 3) (win out) ∧ Fm B w w2) := ⟨hb2, hf2⟩
    clear hb2 hf2 htake c0 s k'
    go_region
    have hb3 := (Ab2.out.1.set (12 + o) (.int .i64 (v : Int)) (by omega)).drew
    have hf3 : Fm B w (w2.setCell ⟨D, 12 + o, none⟩ (.int .i64 (v : Int))).drew := (Ab2.out.2.trans (Ab2.out.1.fmD ((Only.refl D w2).setCell (12 + o) _))).drew
    obtain ⟨w3, hw3⟩ : ∃ w3, (w2.setCell ⟨D, 12 + o, none⟩ (.int .i64 (v : Int))).drew = w3 := ⟨_, rfl⟩
    rw [hw3] at hb3 hf3 ⊢
    obtain ⟨j, hj⟩ : ∃ j, i + 1 = j := ⟨_, rfl⟩
    have hjI : (i : Int) + 1 = (j : Int) := by omega
    have e11 : upd f (12 + o) (.int .i64 (v : Int)) 11 = .int .i64 (i : Int) := (upd_ne _ _ (by omega)).trans AK.out.2.2.have_
    have g11 := (hb3.cell (show 11 < 355 by decide)).trans (congrArg some e11)
    have y11 := hb3.fz 11
    have hb4 := hb3.set 11 (.int .i64 (j : Int)) (by decide)
    have hf4 : Fm B w (w3.setCell ⟨D, 11, none⟩ (.int .i64 (j : Int))) := hf3.trans (hb3.fmD ((Only.refl D w3).setCell 11 _))
    have hib : (i : Int) < 100 := by have := AS.out; omega
    have AJ : Aside (i + 1 = j) := hj
    clear hw3 hb3 hf3 d11 t2 dO zO e11 hj
    go_upto_region 7 with fail
    obtain ⟨w4, hw4⟩ : ∃ w4, w3.setCell ⟨D, 11, none⟩ (.int .i64 (j : Int)) = w4 := ⟨_, rfl⟩
    rw [hw4] at hb4 hf4 ⊢
    have g11' := hb4.cell (show 11 < 355 by decide)
    rw [upd_same] at g11'
    have g10 := hb4.cell (show 10 < 355 by decide)
    rw [upd_ne _ _ (by decide), upd_ne _ _ (by omega), AK.out.2.2.c10] at g10
    obtain ⟨first', hfst⟩ : ∃ l, first.set o v = l := ⟨_, rfl⟩
    have hrow : ∀ (n x : Nat), first'[n]? = some x → upd (upd f (12 + o) (.int .i64 (v : Int))) 11 (.int .i64 (j : Int)) (12 + n) = .int .i64 (x : Int) := fun n x hx => by
      rw [upd_ne _ _ (by omega)]
      rw [← hfst, List.getElem?_set] at hx
      by_cases e : o = n
      · subst e
        rw [if_pos rfl] at hx
        split at hx
        · cases hx; exact upd_same _ _ _
        · cases hx
      · rw [if_neg e] at hx
        rw [upd_ne _ _ (by omega)]
        exact AK.out.2.2.row n x hx
    have hlen' : first'.length = 19 := by rw [← hfst, List.length_set]; exact AK.out.2.2.len
    have hle7 : ∀ x ∈ first', x ≤ 7 := fun x hx => by
      rw [← hfst] at hx
      rcases List.mem_or_eq_of_mem_set hx with h | h
      · exact AK.out.2.2.le x h
      · have := AS.out; omega
    have A4 : Aside (Bs w4 B D b R (upd (upd f (12 + o) (.int .i64 (v : Int))) 11 (.int .i64 (j : Int))) ((bs.drop pos).drop 3) (win out) ∧ Fm B w w4 ∧ first.set o v = first' ∧ (∀ (n x : Nat), first'[n]? = some x → upd (upd f (12 + o) (.int .i64 (v : Int))) 11 (.int .i64 (j : Int)) (12 + n) = .int .i64 (x : Int)) ∧ first'.length = 19 ∧ ∀ x ∈ first', x ≤ 7) := ⟨hb4, hf4, hfst, hrow, hlen', hle7⟩
    have hupd : ∀ n, n ≠ 11 → n < 12 ∨ 31 ≤ n → upd (upd f (12 + o) (.int .i64 (v : Int))) 11 (.int .i64 (j : Int)) n = f n := fun n h1 h2 => by
      have := AS.out
      rw [upd_ne _ _ h1, upd_ne _ _ (by omega)]
    have AU : Aside (∀ n, n ≠ 11 → n < 12 ∨ 31 ≤ n → upd (upd f (12 + o) (.int .i64 (v : Int))) 11 (.int .i64 (j : Int)) n = f n) := hupd
    clear hb4 hf4 hfst hrow hlen' hle7 hw4 hupd g11 y11
    have hstep : step bs most ⟨.dfst last a c k i first, pos, out, times⟩ = some ⟨.dfst last a c k j first', pos + 3, out, times⟩ := by
      have s := AS.out
      unfold step
      simp only []
      rw [if_pos AK.out.2.2.lt, pnum_at s.1, s.2.1, s.2.2.1, Option.map_some, A4.out.2.2.1, AJ.out]
    have AT : Aside (step bs most ⟨.dfst last a c k i first, pos, out, times⟩ = some ⟨.dfst last a c k j first', pos + 3, out, times⟩) := hstep
    clear hstep
    by_cases hjk : j < k
    · have t1 : ((j : Int) < (k : Int)) = True := eq_true (by omega)
      have t2 : (j < k) = True := eq_true hjk
      have AL : Aside (j < k) := hjk
      clear hjk hjI hib
      go_quiet (fail)
      go_wp2_with fail
      first | go_ret | go_ret2
      have a' := A.out
      have s := AS.out
      have a4 := A4.out
      have u := AU.out
      have m := AK.out.2.2
      have hb5 := a4.1.drewN nq
      rw [List.drop_drop] at hb5
      have hf : Fm B w (w4.drewN nq) := a4.2.1.drewN nq
      refine ⟨true, rfl, hf, Res.next (c' := ⟨.dfst last a c k j first', pos + 3, out, times⟩) (Runs.one AT.out) (a'.1.to hf hb5 ⟨(u 2 (by decide) (by decide)).trans AK.out.1, (u 5 (by decide) (by decide)).trans AK.out.2.1, m.a1, m.a2, m.b1, m.b2, (u 8 (by decide) (by decide)).trans m.c8, (u 9 (by decide) (by decide)).trans m.c9, (u 10 (by decide) (by decide)).trans m.c10, upd_same _ _ _, AL.out, m.k19, a4.2.2.2.2.1, a4.2.2.2.1, a4.2.2.2.2.2⟩ (u 3 (by decide) (by decide)) (u 4 (by decide) (by decide)) s.1) (a'.2.1.to (u 352 (by decide) (by decide)) (u 353 (by decide) (by decide)) (u 354 (by decide) (by decide))) rfl ?_⟩
      unfold mu rk
      simp only []
      omega
    · have hjk' : j = k := by have := AK.out.2.2.lt; have := AJ.out; omega
      have AL : Aside (j = k ∧ ¬ j < k) := ⟨hjk', hjk⟩
      have t1 : ((j : Int) < (k : Int)) = False := eq_false (by omega)
      have t2 : (j < k) = False := eq_false hjk
      clear hjk hjI hib hjk'
      go_quiet (fail)
      have hb5 := A4.out.1.drewN nq
      have hf5 : Fm B w (w4.drewN nq) := A4.out.2.1.drewN nq
      obtain ⟨w5, hw5⟩ : ∃ w5, w4.drewN nq = w5 := ⟨_, rfl⟩
      rw [hw5] at hb5 hf5 ⊢
      have hlens : ∀ u, Bs u B D b R (upd (upd f (12 + o) (.int .i64 (v : Int))) 11 (.int .i64 (j : Int))) ((bs.drop pos).drop 3) (win out) → Lens u (some ⟨D, 12, none⟩) (iz first') := fun u hu => Or.inr ⟨D, 12, rfl, fun n z hz => by
        unfold iz at hz
        rw [List.getElem?_map, Option.map_eq_some_iff] at hz
        obtain ⟨x, hx, rfl⟩ := hz
        have hn : n < 19 := by rw [← A4.out.2.2.2.2.1]; exact (List.getElem?_eq_some_iff.1 hx).1
        rw [hu.cell (show 12 + n < 355 by omega), A4.out.2.2.2.1 n x hx]⟩
      have hok : Okl (iz first') := okl_iz.2 ⟨by rw [A4.out.2.2.2.2.1]; decide, fun x hx => by have := A4.out.2.2.2.2.2 x hx; omega⟩
      have hkr := kraft_c (some ⟨D, 12, none⟩) (iz first') 19 19 (kr first') true w5 (hlens _ hb5) (by rw [iz_len]; exact A4.out.2.2.2.2.1) (by decide) (Or.inl ⟨hok, by rw [lens_iz], rfl⟩)
      obtain ⟨q, hq⟩ : ∃ q, kr first' = q := ⟨_, rfl⟩
      rw [hq] at hkr
      have A5 : Aside (Bs w5 B D b R (upd (upd f (12 + o) (.int .i64 (v : Int))) 11 (.int .i64 (j : Int))) ((bs.drop pos).drop 3) (win out) ∧ Fm B w w5 ∧ Okl (iz first') ∧ kr first' = q ∧ (∀ u, Bs u B D b R (upd (upd f (12 + o) (.int .i64 (v : Int))) 11 (.int .i64 (j : Int))) ((bs.drop pos).drop 3) (win out) → Lens u (some ⟨D, 12, none⟩) (iz first'))) := ⟨hb5, hf5, hok, hq, hlens⟩
      clear hb5 hf5 hok hlens hw5 g11' g10
      by_cases hfull : q = 32768
      · have AF : Aside (q = 32768) := hfull
        have hqt : ((q : Int) != 32768) = false := by rw [bne_eq_false_iff_eq]; omega
        clear hfull hq
        go_upto_region 12 with (go_at_call 121; refine hkr.mono ?_; rintro e6 w6 ⟨rfl, hb6⟩)
        have s6 := A5.out.1.below hb6 (Nat.le_refl _)
        have hnerr : nerr (iz first') = 0 := by
          unfold nerr
          rw [if_neg (by rw [Decidable.not_not]; exact A5.out.2.2.1), lens_iz, if_neg (by rw [A5.out.2.2.2.1, AF.out]; decide), if_neg]
          rintro ⟨h1, _⟩
          rw [A5.out.2.2.2.1, AF.out] at h1
          omega
        have hnew := new_yes (some ⟨D, 12, none⟩) (iz first') 19 19 w6 (A5.out.2.2.2.2 _ s6) (by rw [iz_len]; exact A4.out.2.2.2.2.1) (by decide) hnerr
        rw [lens_iz] at hnew
        have A6 : Aside (Bs w6 B D b R (upd (upd f (12 + o) (.int .i64 (v : Int))) 11 (.int .i64 (j : Int))) ((bs.drop pos).drop 3) (win out) ∧ Fm B w w6) := ⟨s6, A5.out.2.1.trans (Fm.of_below hb6 (Nat.le_refl _))⟩
        clear s6 hnerr hb6 hkr hqt
        go_wp2_with (first
          | (go_at_call 88; refine hnew.mono ?_; rintro e7 w7 ⟨T, rfl, hp7, hb7⟩
             have s7 := A6.out.1.below hb7 (Nat.le_refl _)
             have d31 := s7.cell (show 31 < 355 by decide)
             have z31 := s7.fz 31
             have s8 := s7.set 31 (.pointer (some ⟨T, 0, none⟩)) (by decide)
             have d11 := s7.cell (show 11 < 355 by decide)
             have z11 := s7.fz 11
             have hth := pthen_c 122 _ (s8.set 11 (.int .i64 0) (by decide))
             have A7 : Aside (Bs w7 B D b R (upd (upd f (12 + o) (.int .i64 (v : Int))) 11 (.int .i64 (j : Int))) ((bs.drop pos).drop 3) (win out) ∧ Fm B w w7 ∧ Tbl w7 B (.pointer (some ⟨T, 0, none⟩)) first') := ⟨s7, A6.out.2.trans (Fm.of_below hb7 (Nat.le_refl _)), w6.heap.size, w7.heap.size, T, rfl, A6.out.1.lt, Nat.le_refl _, hp7, by rw [A4.out.2.2.2.2.1]; decide⟩
             clear s7 s8 hp7 hb7)
          | (go_at_call 60; refine hth.mono ?_; rintro e9 w9 ⟨rfl, hb9, hf9⟩))
        first | go_ret | go_ret2
        have a' := A.out
        have s := AS.out
        have a7 := A7.out
        have u := AU.out
        have m := AK.out.2.2
        have hf79 : Fm B w7 w9 := (a7.1.fmD (((Only.refl D w7).setCell 31 (.pointer (some ⟨T, 0, none⟩))).setCell 11 (.int .i64 0))).trans hf9
        have hf : Fm B w w9 := a7.2.1.trans hf79
        rw [List.drop_drop] at hb9
        have u' : ∀ n, n ≠ 2 → n ≠ 11 → n ≠ 31 → n < 12 ∨ 31 ≤ n → upd (upd (upd (upd (upd f (12 + o) (.int .i64 (v : Int))) 11 (.int .i64 (j : Int))) 31 (.pointer (some ⟨T, 0, none⟩))) 11 (.int .i64 0)) 2 (fnv D 122) n = f n := fun n h0 h1 h2 h3 => by
          rw [upd_ne _ _ h0, upd_ne _ _ h1, upd_ne _ _ h2]
          exact u n h1 h3
        refine ⟨true, rfl, hf, Res.next (c' := ⟨.dsym last a c first' [], pos + 3, out, times⟩) (Runs.cons AT.out (Runs.one ?_)) (a'.1.to hf hb9 ⟨upd_same _ _ _, (u' 5 (by decide) (by decide) (by decide) (by decide)).trans AK.out.2.1, m.a1, m.a2, m.b1, m.b2, (u' 8 (by decide) (by decide) (by decide) (by decide)).trans m.c8, (u' 9 (by decide) (by decide) (by decide) (by decide)).trans m.c9, rfl, by simp, fun j x hx => by simp at hx, ?_, A4.out.2.2.2.2.1⟩ (u' 3 (by decide) (by decide) (by decide) (by decide)) (u' 4 (by decide) (by decide) (by decide) (by decide)) s.1) (a'.2.1.to (u' 352 (by decide) (by decide) (by decide) (by decide)) (u' 353 (by decide) (by decide) (by decide) (by decide)) (u' 354 (by decide) (by decide) (by decide) (by decide))) rfl ?_⟩
        · unfold step
          simp only []
          rw [if_neg AL.out.2, if_pos (by rw [A5.out.2.2.2.1]; exact AF.out)]
        · exact a7.2.2.fm hf79
        · unfold mu rk
          simp only []
          omega
      · have AF : Aside (¬ q = 32768) := hfull
        have hqt : ((q : Int) != 32768) = true := by rw [bne_iff_ne]; omega
        clear hfull hq
        go_wp2_with (first
          | (go_at_call 121; refine hkr.mono ?_; rintro e6 w6 ⟨rfl, hb6⟩
             have s6 := A5.out.1.below hb6 (Nat.le_refl _)
             have hst := pstop_c 12 w6 s6
             have A6 : Aside (Fm B w w6) := A5.out.2.1.trans (Fm.of_below hb6 (Nat.le_refl _)))
          | (go_at_call 65; refine hst.mono ?_; rintro e9 w9 ⟨rfl, hb9, hf9⟩))
        first | go_ret | go_ret2
        have a' := A.out
        have u := AU.out
        have hf : Fm B w w9 := A6.out.trans hf9
        refine ⟨false, rfl, hf, Res.over (c' := ⟨.bad 12, pos + 3, out, times⟩) (Runs.cons AT.out (Runs.one ?_)) (a'.1.bad a'.2.1 hf hb9 12 (by decide) rfl rfl ((upd_ne _ _ (by decide)).trans (u 352 (by decide) (by decide))) ((upd_ne _ _ (by decide)).trans (u 353 (by decide) (by decide))) ((upd_ne _ _ (by decide)).trans (u 3 (by decide) (by decide))) ((upd_ne _ _ (by decide)).trans (u 4 (by decide) (by decide)))) rfl⟩
        unfold step
        simp only []
        rw [if_neg AL.out.2, if_neg (by rw [A5.out.2.2.2.1]; exact AF.out)]
end
end Go.Proofs.YtpihipbeagpgpaaGreatDoor

/-
 What the steps at a dynamic block's beginning come to: counts.
-/
namespace Go.Proofs.YtpihipbeagpgpaaGreatDoor
open Go.RowKit
set_option linter.unusedVariables false
section
variable {B D b R : Nat} {f : Nat → Value} {bs : List Bool} {most : Nat}
theorem Bs.mid {w w' : World} {h : List Bool} {l : List Int} {f' : Nat → Value} {off : Nat} {vs : List Value} (s : Bs w B D b R f h l) (m : Mid D off f f' vs w w') (ho : 2 ≤ off) : Bs w' B D b R f' h l :=
 s.onD m.only m.cells (m.old 0 (Or.inl (by omega))) (m.old 1 (Or.inl (by omega)))
set_option maxRecDepth 100000 in
set_option maxHeartbeats 1000000 in
theorem counts_s (w : World) {last : Bool} {pos : Nat} {out times : List Nat} (hI : Is w B D b R f bs ⟨.dnum last, pos, out, times⟩) (hO : Op f) : StepOk 64 B D b R bs most ⟨.dnum last, pos, out, times⟩ w := by
 obtain ⟨k2, k5⟩ := id hI.at_
 have hle' : pos ≤ bs.length := hI.le
 have hm' : Bs w B D b R f (bs.drop pos) (win out) := hI.mem
 have c0 := (hm'.cell (show 0 < 355 by decide)).trans (congrArg some hm'.c0)
 have A : Aside (Is w B D b R f bs ⟨.dnum last, pos, out, times⟩ ∧ Op f ∧ pos ≤ bs.length) := ⟨hI, hO, hle'⟩
 have AK : Aside (f 2 = fnv D 64 ∧ f 5 = .bool last) := ⟨k2, k5⟩
 unfold StepOk
 by_cases hshort : (bs.drop pos).length < 14
 ·have htake := take_short 14 w hm' hshort
  have AS : Aside ((bs.drop pos).length < 14) := hshort
  clear hI hO hle' hm' k2 k5 hshort
  go_enter Tryz.func64, Tryz.ntmps64
  go_wp2_with (go_at_call 58; refine htake.mono ?_; rintro e3 w3 ⟨rfl, rfl⟩)
  first | go_ret | go_ret2
  have a := A.out
  have sh := AS.out
  rw [List.length_drop] at sh
  refine ⟨false, rfl, Fm.refl B w, Res.want a.1 a.2.1 ?_ ?_ (fun y => by simp) (by simp)⟩
  ·show bs.length < pos + 32
   omega
  ·unfold step
   simp only []
   rw [num_no (by omega)]; rfl
 ·obtain ⟨v, hv⟩ : ∃ v, nm ((bs.drop pos).take 14) = v := ⟨_, rfl⟩
  have hvlt : v < 16384 := by rw [← hv]; exact nm_take_lt _ 14
  have htake := take_at 14 w hm' (by decide) (by omega) v hv
  obtain ⟨x, hx⟩ : ∃ x, v % 32 = x := ⟨_, rfl⟩
  obtain ⟨y0, hy0⟩ : ∃ y, v / 32 = y := ⟨_, rfl⟩
  obtain ⟨y, hy⟩ : ∃ y, y0 % 32 = y := ⟨_, rfl⟩
  obtain ⟨z, hz⟩ : ∃ z, v / 1024 = z := ⟨_, rfl⟩
  have hand1 : bits .and .u32 (v : Int) 31 = (x : Int) := by
   have := u32_mask v 5 (by omega) (by decide) 31 rfl
   rw [show 2 ^ 5 = 32 from rfl, hx] at this
   exact this
  have hand2 : bits .and .u32 (y0 : Int) 31 = (y : Int) := by
   have := u32_mask y0 5 (by omega) (by decide) 31 rfl
   rw [show 2 ^ 5 = 32 from rfl, hy] at this
   exact this
  have hdiv1 : (v : Int) / 32 = (y0 : Int) := by omega
  have hdiv2 : (v : Int) / 1024 = (z : Int) := by omega
  have hxI : (x : Int) < 32 := by omega
  have hyI : (y : Int) < 32 := by omega
  have hzI : (z : Int) < 16 := by omega
  have AS : Aside (pos + 14 ≤ bs.length ∧ nm ((bs.drop pos).take 14) = v ∧ v % 32 = x ∧ v / 32 % 32 = y ∧ v / 1024 = z ∧ x < 32 ∧ y < 32 ∧ z < 16) := ⟨by rw [List.length_drop] at hshort; omega, hv, hx, by rw [hy0]; exact hy, hz, by omega, by omega, by omega⟩
  clear hI hO hle' hm' k2 k5 hshort hv hvlt hx hy0 hy hz
  go_enter Tryz.func64, Tryz.ntmps64
  go_upto_region 4 with (go_at_call 58; refine htake.mono ?_; rintro e2 w2 ⟨rfl, hb2, hf2⟩)
  have hfr := hb2.fr
  have Ab2 : Aside (Bs w2 B D b R f ((bs.drop pos).drop 14) (win out) ∧ Fm B w w2) := ⟨hb2, hf2⟩
  clear hb2 hf2 htake c0
  go_upto_region 5 with (first
   | (refine wpList_store_mid rfl 95 (.tmp 31) (.tmp 29) rfl D 8 (((Tryz.zeroCells95.setIfInBounds 0 (.int .i64 (257 + (x : Int)))).setIfInBounds 1 (.int .i64 (1 + (y : Int)))).setIfInBounds 2 (.int .i64 (4 + (z : Int)))) rfl rfl f hfr (by rw [zc71, pz_size]; exact size71) (by rw [zc71, pz_size]; decide) (by rw [zc71]; exact pz_one _ _ _) ?_; intro w4 f4 hm4; rw [zc71] at hm4))
  have hb4 := Ab2.out.1.mid hm4 (by decide)
  have hf4 : Fm B w w4 := Ab2.out.2.trans (Ab2.out.1.fmD hm4.only)
  have hnew : ∀ j, j < 340 → f4 (8 + j) = pf (257 + (x : Int)) (1 + (y : Int)) (4 + (z : Int)) j := fun j hj => hm4.new j _ (pz_at _ _ _ hj)
  have hold : ∀ j, j < 8 ∨ 348 ≤ j → f4 j = f j := fun j hj => hm4.old j (by rw [Array.length_toList, pz_size]; exact hj)
  have e8 : f4 8 = .int .i64 (257 + (x : Int)) := hnew 0 (by decide)
  have e9 : f4 9 = .int .i64 (1 + (y : Int)) := hnew 1 (by decide)
  have e10 : f4 10 = .int .i64 (4 + (z : Int)) := hnew 2 (by decide)
  have d8 := (hb4.cell (show 8 < 355 by decide)).trans (congrArg some e8)
  have d9 := (hb4.cell (show 9 < 355 by decide)).trans (congrArg some e9)
  have A4 : Aside (Bs w4 B D b R f4 ((bs.drop pos).drop 14) (win out) ∧ Fm B w w4 ∧ (∀ j, j < 340 → f4 (8 + j) = pf (257 + (x : Int)) (1 + (y : Int)) (4 + (z : Int)) j) ∧ (∀ j, j < 8 ∨ 348 ≤ j → f4 j = f j) ∧ f4 8 = .int .i64 (257 + (x : Int)) ∧ f4 9 = .int .i64 (1 + (y : Int)) ∧ f4 10 = .int .i64 (4 + (z : Int))) := ⟨hb4, hf4, hnew, hold, e8, e9, e10⟩
  clear hm4 hb4 hf4 hnew hold e8 e9 e10 hfr
  by_cases hbad : 286 < 257 + x ∨ 30 < 1 + y
  ·have AB : Aside (286 < 257 + x ∨ 30 < 1 + y) := hbad
   have hst := pstop_c 12 w4 A4.out.1
   by_cases h1 : 286 < 257 + x
   ·have t1 : ((286 : Int) < 257 + (x : Int)) = True := eq_true (by omega)
    clear hbad h1
    go_wp2_with (go_at_call 65; refine hst.mono ?_; rintro e5 w5 ⟨rfl, hb5, hf5⟩)
    first | go_ret | go_ret2
    have a := A.out
    have s := AS.out
    have hf : Fm B w w5 := A4.out.2.1.trans hf5
    have ho := A4.out.2.2.2.1
    refine ⟨false, rfl, hf, Res.over (c' := ⟨.bad 12, pos + 14, out, times⟩) (Runs.one ?_) (a.1.bad a.2.1 hf hb5 12 (by decide) rfl rfl (ho 352 (by decide)) (ho 353 (by decide)) (ho 3 (by decide)) (ho 4 (by decide))) rfl⟩
    unfold step
    simp only [pnum_at s.1, s.2.1, Option.map_some, s.2.2.1, s.2.2.2.1]
    rw [if_pos AB.out]
   ·have t1 : ((286 : Int) < 257 + (x : Int)) = False := eq_false (by omega)
    have t2 : ((30 : Int) < 1 + (y : Int)) = True := eq_true (by omega)
    clear hbad h1
    go_wp2_with (go_at_call 65; refine hst.mono ?_; rintro e5 w5 ⟨rfl, hb5, hf5⟩)
    first | go_ret | go_ret2
    have a := A.out
    have s := AS.out
    have hf : Fm B w w5 := A4.out.2.1.trans hf5
    have ho := A4.out.2.2.2.1
    refine ⟨false, rfl, hf, Res.over (c' := ⟨.bad 12, pos + 14, out, times⟩) (Runs.one ?_) (a.1.bad a.2.1 hf hb5 12 (by decide) rfl rfl (ho 352 (by decide)) (ho 353 (by decide)) (ho 3 (by decide)) (ho 4 (by decide))) rfl⟩
    unfold step
    simp only [pnum_at s.1, s.2.1, Option.map_some, s.2.2.1, s.2.2.2.1]
    rw [if_pos AB.out]
  ·have t1 : ((286 : Int) < 257 + (x : Int)) = False := eq_false (by omega)
   have t2 : ((30 : Int) < 1 + (y : Int)) = False := eq_false (by omega)
   have AB : Aside (¬ (286 < 257 + x ∨ 30 < 1 + y)) := hbad
   have hst := pthen_c 93 w4 A4.out.1
   clear hbad
   go_wp2_with (go_at_call 60; refine hst.mono ?_; rintro e5 w5 ⟨rfl, hb5, hf5⟩)
   first | go_ret | go_ret2
   have a := A.out
   have s := AS.out
   have a4 := A4.out
   have hbad := AB.out
   have hf : Fm B w w5 := a4.2.1.trans hf5
   have ho := a4.2.2.2.1
   rw [List.drop_drop] at hb5
   refine ⟨true, rfl, hf, Res.next (c' := ⟨.dfst last (257 + x) (1 + y) (4 + z) 0 (List.replicate 19 0), pos + 14, out, times⟩) (Runs.one ?_) (a.1.to hf hb5 ⟨rfl, (ho 5 (by decide)).trans AK.out.2, by omega, by omega, by omega, by omega, ?_, ?_, ?_, ?_, by omega, by omega, by simp, ?_, ?_⟩ (ho 3 (by decide)) (ho 4 (by decide)) s.1) (a.2.1.to (ho 352 (by decide)) (ho 353 (by decide)) (ho 354 (by decide))) rfl ?_⟩
   ·unfold step
    simp only [pnum_at s.1, s.2.1, Option.map_some, s.2.2.1, s.2.2.2.1, s.2.2.2.2.1]
    rw [if_neg hbad]
   ·rw [upd_ne _ _ (by decide), a4.2.2.2.2.1]; congr 1
   ·rw [upd_ne _ _ (by decide), a4.2.2.2.2.2.1]; congr 1
   ·rw [upd_ne _ _ (by decide), a4.2.2.2.2.2.2]; congr 1
   ·exact a4.2.2.1 3 (by decide)
   ·intro j x' hj
    have hjl := (List.getElem?_eq_some_iff.1 hj).1
    rw [List.length_replicate] at hjl
    have hx0 : x' = 0 := List.eq_of_mem_replicate (List.mem_of_getElem? hj)
    have := a4.2.2.1 (4 + j) (by omega)
    rw [show 8 + (4 + j) = 12 + j by omega] at this
    rw [upd_ne _ _ (by omega), this, hx0]
    unfold pf
    rw [if_neg (by omega), if_neg (by omega), if_neg (by omega), if_neg (by omega)]
    rfl
   ·intro x' hx'
    rw [List.eq_of_mem_replicate hx']
    omega
   ·unfold mu rk
    simp only []
    omega
end
end Go.Proofs.YtpihipbeagpgpaaGreatDoor

/-
  What dynamicCodes comes to.
-/
namespace Go.Proofs.YtpihipbeagpgpaaGreatDoor
open Go.RowKit
set_option linter.unusedVariables false
section
variable {B D b R : Nat} {f : Nat → Value}
theorem new_any2 (w : World) (a : Option Addr) (ls : List Nat) (L C : Nat) (hl : Lens w a (iz ls)) (hL : ls.length = L) (hb : L ≤ 316) (hB : B + 4 ≤ w.heap.size) : Calls Tryz.prog 88 #[.slice a L C] w fun e w' => ∃ (p : Option Addr) (er : Nat), e = .returned (.tuple #[.pointer p, .int .i64 (er : Int)]) ∧ Below w.heap.size w w' ∧ ((mays ls = true ∧ er = 0 ∧ Tbl w' B (.pointer p) ls) ∨ (mays ls = false ∧ er ≠ 0)) := by
  have hL' : (iz ls).length = L := by rw [iz_len]; exact hL
  cases hm : mays ls with
  | true =>
    refine (new_yes a (iz ls) L C w hl hL' (by omega) (mays_iff.1 hm)).mono ?_
    rintro e w' ⟨T, h1, h2, h3⟩
    rw [lens_iz] at h2
    exact ⟨some ⟨T, 0, none⟩, 0, h1, h3, Or.inl ⟨rfl, rfl, _, _, T, rfl, hB, Nat.le_refl _, h2, by omega⟩⟩
  | false =>
    have hne : nerr (iz ls) ≠ 0 := fun e => by rw [mays_iff.2 e] at hm; cases hm
    refine (new_err a (iz ls) L C _ w hl hL' (by omega) rfl hne).mono ?_
    rintro e w' ⟨h1, h2⟩
    exact ⟨none, _, h1, h2, Or.inr ⟨rfl, hne⟩⟩
def DynTo (B D b R : Nat) (f : Nat → Value) (h : List Bool) (o : List Int) (a : Nat) (l : List Nat) (w : World) (e : Ending) (w' : World) : Prop :=
  Fm B w w' ∧ (((l.getD 256 0 = 0 ∨ mays (l.take a) = false ∨ mays (l.drop a) = false) ∧ e = .returned (.bool false) ∧ Bs w' B D b R (upd f 354 (.int .i64 12)) h o) ∨
    (¬ (l.getD 256 0 = 0 ∨ mays (l.take a) = false ∨ mays (l.drop a) = false) ∧ e = .returned (.bool true) ∧ ∃ f', Bs w' B D b R f' h o ∧ f' 2 = fnv D 63 ∧ Tbl w' B (f' 6) (l.take a) ∧ Tbl w' B (f' 7) (l.drop a) ∧ f' 3 = f 3 ∧ f' 4 = f 4 ∧ f' 5 = f 5 ∧ ∀ n, 348 ≤ n → f' n = f n))
set_option maxRecDepth 100000 in
set_option maxHeartbeats 1000000 in
theorem dynCodes_c (w : World) {h : List Bool} {o : List Int} {a c : Nat} {code l : List Nat} (s : Bs w B D b R f h o) (p : Pl w B f a c code l) (hll : l.length = a + c) : Calls Tryz.prog 137 #[.pointer (some ⟨D, 0, none⟩)] w fun e w' => DynTo B D b R f h o a l w e w' := by
  have ha1 := p.a1
  have ha2 := p.a2
  have hb1 := p.b1
  have hb2 := p.b2
  have hcell : ∀ u, Bs u B D b R f h o → u.cell? ⟨D, 8, none⟩ = some (.int .i64 (a : Int)) ∧ u.cell? ⟨D, 11, none⟩ = some (.int .i64 ((a + c : Nat) : Int)) := fun u hu => ⟨(hu.cell (show 8 < 355 by decide)).trans (congrArg some p.c8), (hu.cell (show 11 < 355 by decide)).trans (congrArg some (by rw [p.have_, hll]))⟩
  have hlens1 : ∀ u, Bs u B D b R f h o → Lens u (some ⟨D, 32, none⟩) (iz (l.take a)) := fun u hu => Or.inr ⟨D, 32, rfl, fun n z hz => by
    unfold iz at hz
    rw [List.getElem?_map, Option.map_eq_some_iff] at hz
    obtain ⟨x, hx, rfl⟩ := hz
    have hn := (List.getElem?_eq_some_iff.1 hx).1
    rw [List.length_take] at hn
    rw [List.getElem?_take_of_lt (by omega)] at hx
    rw [hu.cell (show 32 + n < 355 by omega), p.row n x hx]⟩
  have hlens2 : ∀ u, Bs u B D b R f h o → Lens u (some ⟨D, 32 + a, none⟩) (iz (l.drop a)) := fun u hu => Or.inr ⟨D, 32 + a, rfl, fun n z hz => by
    unfold iz at hz
    rw [List.getElem?_map, Option.map_eq_some_iff] at hz
    obtain ⟨x, hx, rfl⟩ := hz
    have hn := (List.getElem?_eq_some_iff.1 hx).1
    rw [List.length_drop] at hn
    rw [List.getElem?_drop] at hx
    rw [hu.cell (show 32 + a + n < 355 by omega), show 32 + a + n = 32 + (a + n) by omega, p.row (a + n) x hx]⟩
  obtain ⟨x256, hx256⟩ : ∃ x, l.getD 256 0 = x := ⟨_, rfl⟩
  have h256 : f 288 = .int .i64 (x256 : Int) := by
    rw [← hx256, List.getD_eq_getElem?_getD, List.getElem?_eq_getElem (show 256 < l.length by omega)]
    exact p.row 256 _ (List.getElem?_eq_getElem (show 256 < l.length by omega))
  have l1 : (l.take a).length = a := by rw [List.length_take]; omega
  have l2 : (l.drop a).length = c := by rw [List.length_drop]; omega
  have hn1 := new_any2 (B := B) w.drew (some ⟨D, 32, none⟩) (l.take a) a 316 (hlens1 _ s.drew) l1 (by omega) s.drew.lt
  have AC : Aside ((∀ u, Bs u B D b R f h o → u.cell? ⟨D, 8, none⟩ = some (.int .i64 (a : Int)) ∧ u.cell? ⟨D, 11, none⟩ = some (.int .i64 ((a + c : Nat) : Int))) ∧ (∀ u, Bs u B D b R f h o → Lens u (some ⟨D, 32 + a, none⟩) (iz (l.drop a))) ∧ (l.drop a).length = c ∧ Bs w B D b R f h o ∧ l.getD 256 0 = x256 ∧ f 288 = .int .i64 (x256 : Int) ∧ 257 ≤ a ∧ a ≤ 286 ∧ 1 ≤ c ∧ c ≤ 30) := ⟨hcell, hlens2, l2, s, hx256, h256, ha1, ha2, hb1, hb2⟩
  have c8 := (hcell w s).1
  have t1 : ((a : Int) ≤ 316) = True := eq_true (by omega)
  have t1' : (a ≤ 316) = True := eq_true (by omega)
  have t2 : ((316 : Int) < (a : Int)) = False := eq_false (by omega)
  have t2' : (316 < a) = False := eq_false (by omega)
  obtain ⟨hv, hhv⟩ : ∃ hv, a + c = hv := ⟨_, rfl⟩
  clear s p hll ha1 ha2 hb1 hb2 hcell hlens1 hlens2 hx256 h256 l1 l2
  go_enter Tryz.func137, Tryz.ntmps137
  go_upto_region 2 with fail
  go_region_held3 (fun u => u.cell? ⟨D, 8, none⟩ = some (.int .i64 (a : Int))) (first | assumption | exact c8 | exact (AC.out.1 _ (AC.out.2.2.2.1.drew.below hb2 (Nat.le_refl _))).1)
    (first | (go_at_call 88; refine hn1.mono ?_; rintro e2 w2 ⟨p1, er1, rfl, hb2, hh2⟩))
  all_goals
    have s2 := AC.out.2.2.2.1.drew.below hb2 (Nat.le_refl _)
    have d8 := (AC.out.1 _ s2).1
    have d11 := (AC.out.1 _ s2).2
    rw [hhv] at d11
    have t3 : ((a : Int) ≤ (hv : Int)) = True := eq_true (by omega)
    have t3' : (a ≤ hv) = True := eq_true (by omega)
    have t4 : ((hv : Int) ≤ 316) = True := eq_true (by have := AC.out; omega)
    have t4' : (hv ≤ 316) = True := eq_true (by have := AC.out; omega)
    have t5 : (316 = a) = False := eq_false (by have := AC.out; omega)
    have t5' : ((316 : Int) = (a : Int)) = False := eq_false (by have := AC.out; omega)
    have hk2 : Aside (∀ u, Below w2.drew.heap.size w2.drew u → u.cell? ⟨D, 8, none⟩ = some (.int .i64 (a : Int)) ∧ u.cell? ⟨D, 11, none⟩ = some (.int .i64 (hv : Int))) := fun u hu => by
      have := AC.out.1 _ (s2.drew.below hu (Nat.le_refl _))
      rw [hhv] at this
      exact this
    have hn2 := new_any2 (B := B) w2.drew (some ⟨D, 32 + a, none⟩) (l.drop a) (hv - a) (316 - a) (AC.out.2.1 _ s2.drew) (by rw [AC.out.2.2.1]; omega) (by have := AC.out; omega) s2.drew.lt
    have A2 : Aside (Bs w2 B D b R f h o ∧ Fm B w w2 ∧ ((mays (l.take a) = true ∧ er1 = 0 ∧ Tbl w2 B (.pointer p1) (l.take a)) ∨ (mays (l.take a) = false ∧ er1 ≠ 0)) ∧ a + c = hv) := ⟨s2, (Fm.refl B w).drew.trans (Fm.of_below hb2 (Nat.le_refl _)), hh2, hhv⟩
    clear s2 hb2 hh2 hn1 hhv c8
    go_upto_region 3 with fail
    go_region_held3 (fun u => u.cell? ⟨D, 8, none⟩ = some (.int .i64 (a : Int)) ∧ u.cell? ⟨D, 11, none⟩ = some (.int .i64 (hv : Int))) (first | assumption | exact ⟨d8, d11⟩ | exact hk2.out _ hb3)
      (first | (go_at_call 88; refine hn2.mono ?_; rintro e3 w3 ⟨p2, er2, rfl, hb3, hh3⟩))
    all_goals
      have s3 := A2.out.1.drew.below hb3 (Nat.le_refl _)
      have g3 := (s3.cell (show 288 < 355 by decide)).trans (congrArg some AC.out.2.2.2.2.2.1)
      have A3 : Aside (Bs w3 B D b R f h o ∧ Fm B w w3 ∧ ((mays (l.take a) = true ∧ er1 = 0 ∧ Tbl w3 B (.pointer p1) (l.take a)) ∨ (mays (l.take a) = false ∧ er1 ≠ 0)) ∧ ((mays (l.drop a) = true ∧ er2 = 0 ∧ Tbl w3 B (.pointer p2) (l.drop a)) ∨ (mays (l.drop a) = false ∧ er2 ≠ 0)) ∧ l.getD 256 0 = x256) := by
        refine ⟨s3, A2.out.2.1.trans ((Fm.refl B w2).drew.trans (Fm.of_below hb3 (Nat.le_refl _))), ?_, hh3, AC.out.2.2.2.2.1⟩
        rcases A2.out.2.2.1 with ⟨q1, q2, q3⟩ | q
        · exact Or.inl ⟨q1, q2, q3.fm ((Fm.refl B w2).drew.trans (Fm.of_below hb3 (Nat.le_refl _)))⟩
        · exact Or.inr q
      clear s3 hb3 hh3 hn2 d8 d11 A2 AC hk2 t1 t1' t2 t2' t3 t3' t4 t4' t5 t5'
      by_cases hx : x256 = 0
      · subst hx
        have g3' : w3.cell? ⟨D, 288, none⟩ = some (.int .i64 0) := g3
        have hst := pstop_c 12 w3 A3.out.1
        clear g3
        go_wp2_with (go_at_call 65; refine hst.mono ?_; rintro e5 w5 ⟨rfl, hb5, hf5⟩)
        first | go_ret | go_ret2
        exact ⟨A3.out.2.1.trans hf5, Or.inl ⟨Or.inl A3.out.2.2.2.2, rfl, hb5⟩⟩
      · have x0 : ((x256 : Int) == 0) = false := by rw [beq_eq_false_iff_ne]; omega
        have AX : Aside (x256 ≠ 0) := hx
        clear hx
        rcases A3.out.2.2.1 with ⟨q1, q2, q3⟩ | ⟨q1, q2⟩
        · rcases A3.out.2.2.2.1 with ⟨r1, r2, r3⟩ | ⟨r1, r2⟩
          · subst q2 r2
            obtain ⟨_, _, T1, hT1, _⟩ := id q3
            obtain ⟨_, _, T2, hT2, _⟩ := id r3
            cases hT1
            cases hT2
            have d6 := A3.out.1.cell (show 6 < 355 by decide)
            have d7 := A3.out.1.cell (show 7 < 355 by decide)
            have z6 := A3.out.1.fz 6
            have z7 := A3.out.1.fz 7
            have s4 := (A3.out.1.set 6 (.pointer (some ⟨T1, 0, none⟩)) (by decide)).set 7 (.pointer (some ⟨T2, 0, none⟩)) (by decide)
            have hfr := s4.fr
            have f4 : Fm B w3 ((w3.setCell ⟨D, 6, none⟩ (.pointer (some ⟨T1, 0, none⟩))).setCell ⟨D, 7, none⟩ (.pointer (some ⟨T2, 0, none⟩))) := A3.out.1.fmD (((Only.refl D w3).setCell 6 _).setCell 7 _)
            have A4 : Aside (Bs ((w3.setCell ⟨D, 6, none⟩ (.pointer (some ⟨T1, 0, none⟩))).setCell ⟨D, 7, none⟩ (.pointer (some ⟨T2, 0, none⟩))) B D b R (upd (upd f 6 (.pointer (some ⟨T1, 0, none⟩))) 7 (.pointer (some ⟨T2, 0, none⟩))) h o ∧ Fm B w3 ((w3.setCell ⟨D, 6, none⟩ (.pointer (some ⟨T1, 0, none⟩))).setCell ⟨D, 7, none⟩ (.pointer (some ⟨T2, 0, none⟩))) ∧ Tbl w3 B (.pointer (some ⟨T1, 0, none⟩)) (l.take a) ∧ Tbl w3 B (.pointer (some ⟨T2, 0, none⟩)) (l.drop a) ∧ mays (l.take a) = true ∧ mays (l.drop a) = true) := ⟨s4, f4, q3, r3, q1, r1⟩
            clear s4 f4 q3 r3 q1 r1
            go_wp2_with (first
              | (refine wpList_store_mid rfl 95 (.tmp 64) (.tmp 62) rfl D 8 Tryz.zeroCells95 rfl rfl _ hfr (by rw [zc71_none, pz_size]; exact size71) (by rw [zc71_none, pz_size]; decide) (by rw [zc71_none]; exact pz_one _ _ _) ?_; intro w5 f5 hm5; rw [zc71_none] at hm5
                 have s5 := A4.out.1.mid hm5 (by decide)
                 have hth := pthen_c 63 w5 s5
                 have A5 : Aside (Fm B w3 w5 ∧ (∀ j, j < 8 ∨ 348 ≤ j → f5 j = upd (upd f 6 (.pointer (some ⟨T1, 0, none⟩))) 7 (.pointer (some ⟨T2, 0, none⟩)) j)) := ⟨A4.out.2.1.trans (A4.out.1.fmD hm5.only), fun j hj => hm5.old j (by rw [Array.length_toList, pz_size]; exact hj)⟩
                 clear s5 hm5 hfr)
              | (go_at_call 60; refine hth.mono ?_; rintro e6 w6 ⟨rfl, hb6, hf6⟩))
            first | go_ret | go_ret2
            have a4 := A4.out
            have a5 := A5.out
            have hf36 := a5.1.trans hf6
            have hx := AX.out
            refine ⟨A3.out.2.1.trans hf36, Or.inr ⟨?_, rfl, _, hb6, upd_same _ _ _, ?_, ?_, ?_, ?_, ?_, ?_⟩⟩
            · rw [A3.out.2.2.2.2, a4.2.2.2.2.1, a4.2.2.2.2.2]
              rintro (h1 | h1 | h1)
              · exact hx h1
              · cases h1
              · cases h1
            · rw [upd_ne _ _ (by decide), a5.2 6 (by decide), upd_ne _ _ (by decide), upd_same]; exact a4.2.2.1.fm hf36
            · rw [upd_ne _ _ (by decide), a5.2 7 (by decide), upd_same]; exact a4.2.2.2.1.fm hf36
            · rw [upd_ne _ _ (by decide), a5.2 3 (by decide), upd_ne _ _ (by decide), upd_ne _ _ (by decide)]
            · rw [upd_ne _ _ (by decide), a5.2 4 (by decide), upd_ne _ _ (by decide), upd_ne _ _ (by decide)]
            · rw [upd_ne _ _ (by decide), a5.2 5 (by decide), upd_ne _ _ (by decide), upd_ne _ _ (by decide)]
            · intro n hn
              rw [upd_ne _ _ (by omega), a5.2 n (Or.inr hn), upd_ne _ _ (by omega), upd_ne _ _ (by omega)]
          · subst q2
            have y0 : ((er2 : Int) != 0) = true := by rw [bne_iff_ne]; omega
            have AQ : Aside (mays (l.drop a) = false) := r1
            have hst := pstop_c 12 w3 A3.out.1
            clear q1 q3 r1 r2
            go_wp2_with (go_at_call 65; refine hst.mono ?_; rintro e5 w5 ⟨rfl, hb5, hf5⟩)
            first | go_ret | go_ret2
            exact ⟨A3.out.2.1.trans hf5, Or.inl ⟨Or.inr (Or.inr AQ.out), rfl, hb5⟩⟩
        · have y0 : ((er1 : Int) != 0) = true := by rw [bne_iff_ne]; omega
          have AQ : Aside (mays (l.take a) = false) := q1
          have hst := pstop_c 12 w3 A3.out.1
          clear q1 q2
          go_wp2_with (go_at_call 65; refine hst.mono ?_; rintro e5 w5 ⟨rfl, hb5, hf5⟩)
          first | go_ret | go_ret2
          exact ⟨A3.out.2.1.trans hf5, Or.inl ⟨Or.inr (Or.inl AQ.out), rfl, hb5⟩⟩
end
end Go.Proofs.YtpihipbeagpgpaaGreatDoor

/-
  What the step that takes a length of the row comes to.
-/
namespace Go.Proofs.YtpihipbeagpgpaaGreatDoor
open Go.RowKit
set_option linter.unusedVariables false
section
variable {B D b R : Nat} {f : Nat → Value} {bs : List Bool} {most : Nat}
set_option maxHeartbeats 1000000 in
theorem codeLength_s (w : World) {last : Bool} {a c : Nat} {code l : List Nat} {pos : Nat} {out times : List Nat} (hI : Is w B D b R f bs ⟨.dsym last a c code l, pos, out, times⟩) (hO : Op f) : StepOk 122 B D b R bs most ⟨.dsym last a c code l, pos, out, times⟩ w := by
  obtain ⟨k2, k5, pl⟩ := id hI.at_
  have hle' : pos ≤ bs.length := hI.le
  have hm' : Bs w B D b R f (bs.drop pos) (win out) := hI.mem
  obtain ⟨L, hL⟩ : ∃ L, l.length = L := ⟨_, rfl⟩
  have c11 := (hm'.cell (show 11 < 355 by decide)).trans (congrArg some pl.have_)
  rw [hL] at c11
  have c8 := (hm'.cell (show 8 < 355 by decide)).trans (congrArg some pl.c8)
  have c9 := (hm'.cell (show 9 < 355 by decide)).trans (congrArg some pl.c9)
  have A : Aside (Is w B D b R f bs ⟨.dsym last a c code l, pos, out, times⟩ ∧ Op f ∧ pos ≤ bs.length ∧ Bs w B D b R f (bs.drop pos) (win out)) := ⟨hI, hO, hle', hm'⟩
  have AK : Aside (f 2 = fnv D 122 ∧ f 5 = .bool last ∧ Pl w B f a c code l ∧ l.length = L) := ⟨k2, k5, pl, hL⟩
  have haI : (a : Int) < 300 := by have := pl.a2; omega
  have hcI : (c : Int) < 40 := by have := pl.b2; omega
  have hLac : L ≤ a + c := by rw [← hL]; exact pl.len
  unfold StepOk
  by_cases hfull : L = a + c
  · have t1 : ((L : Int) == (a : Int) + (c : Int)) = true := by rw [beq_iff_eq]; omega
    have AF : Aside (L = a + c) := hfull
    clear hI hO hle' hm' k2 k5 pl hL hLac hfull
    go_enter Tryz.func122, Tryz.ntmps122
    go_upto_region 2 with fail
    go_quiet (fail)
    have hd := dynCodes_c _ (A.out.2.2.2.drewN nq) (AK.out.2.2.1.mono ((Fm.refl B w).drewN nq) rfl rfl rfl rfl (fun _ _ => rfl)) (AK.out.2.2.2.trans AF.out)
    go_wp2_with (go_at_call 137; refine hd.mono ?_; rintro e2 w2 ⟨hf2, ⟨hbad, rfl, hb2⟩ | ⟨hgood, rfl, f', hb2, g2, g6, g7, g3, g4, g5, gr⟩⟩)
    · first | go_ret | go_ret2
      have a' := A.out
      have hf : Fm B w w2 := ((Fm.refl B w).drewN nq).trans hf2
      refine ⟨false, rfl, hf, Res.over (c' := ⟨.bad 12, pos, out, times⟩) (Runs.one ?_) (a'.1.bad a'.2.1 hf hb2 12 (by decide) rfl rfl rfl rfl rfl rfl) rfl⟩
      unfold step
      simp only []
      rw [if_neg (by rw [AK.out.2.2.2, AF.out]; omega), if_pos hbad]
    · first | go_ret | go_ret2
      have a' := A.out
      have hf : Fm B w w2 := ((Fm.refl B w).drewN nq).trans hf2
      refine ⟨true, rfl, hf, Res.next (c' := ⟨.sym last (l.take a) (l.drop a), pos, out, times⟩) (Runs.one ?_) (a'.1.to hf hb2 ⟨g2, g5.trans AK.out.2.1, g6, g7⟩ g3 g4 a'.2.2.1) (a'.2.1.to (gr 352 (by decide)) (gr 353 (by decide)) (gr 354 (by decide))) rfl ?_⟩
      · unfold step
        simp only []
        rw [if_neg (by rw [AK.out.2.2.2, AF.out]; omega), if_neg hgood]
      · unfold mu rk
        simp only []
        omega
  · have t1 : ((L : Int) == (a : Int) + (c : Int)) = false := by rw [beq_eq_false_iff_ne]; omega
    have AF : Aside (L < a + c) := (show L < a + c by omega)
    have c31 := hm'.cell (show 31 < 355 by decide)
    obtain ⟨v31, hv31⟩ : ∃ v, f 31 = v := ⟨_, rfl⟩
    have tb := pl.tbl
    rw [hv31] at c31 tb
    have A31 : Aside (f 31 = v31 ∧ Tbl w B v31 code) := ⟨hv31, tb⟩
    clear hI hO hle' hm' k2 k5 pl hL hLac hfull hv31 tb
    go_enter Tryz.func122, Tryz.ntmps122
    go_upto_region 2 with fail
    go_quiet (fail)
    have hread := pread_c v31 code _ (A.out.2.2.2.drewN nq) (A31.out.2.fm ((Fm.refl B w).drewN nq))
    have h31 : (w.drewN nq).cell? ⟨D, 31, none⟩ = some v31 := c31
    obtain ⟨w1, hw1⟩ : ∃ w1, w.drewN nq = w1 := ⟨_, rfl⟩
    have A1 : Aside (Fm B w w1) := (by show Fm B w w1; rw [← hw1]; exact (Fm.refl B w).drewN nq)
    rw [hw1] at hread h31 ⊢
    clear c31 c8 c9 c11 hw1
    cases hs : sread code (bs.drop pos) using SR.el with
    | cut =>
      rw [hs] at hread
      have AS : Aside (sread code (bs.drop pos) = .cut) := hs
      clear hs
      go_wp2_with (go_at_call 89; refine hread.mono ?_; rintro e2 w2 ⟨hf2, rfl, hb2⟩)
      first | go_ret | go_ret2
      have a' := A.out
      have hf : Fm B w w2 := A1.out.trans hf2
      refine ⟨false, rfl, hf, Res.want (a'.1.same hf hb2) a'.2.1 ?_ ?_ (fun y => by simp) (by simp)⟩
      · have := cut_short AS.out A31.out.2.le15
        rw [List.length_drop] at this
        show bs.length < pos + 32
        omega
      · unfold step
        simp only [AS.out]
        rw [if_pos (by rw [AK.out.2.2.2]; exact AF.out)]
    | bad j =>
      rw [hs] at hread
      have AS : Aside (sread code (bs.drop pos) = .bad j) := hs
      clear hs
      go_wp2_with (go_at_call 89; refine hread.mono ?_; rintro e2 w2 ⟨hf2, rfl, hb2⟩)
      first | go_ret | go_ret2
      have a' := A.out
      have hf : Fm B w w2 := A1.out.trans hf2
      refine ⟨false, rfl, hf, Res.over (c' := ⟨.bad 13, pos + j, out, times⟩) (Runs.one ?_) (a'.1.bad a'.2.1 hf hb2 13 (by decide) rfl rfl rfl rfl rfl rfl) rfl⟩
      unfold step
      simp only [AS.out]
      rw [if_pos (by rw [AK.out.2.2.2]; exact AF.out)]
    | got s n =>
      rw [hs] at hread
      have AS : Aside (sread code (bs.drop pos) = .got s n) := hs
      have hn : Aside (pos + n ≤ bs.length ∧ 0 < n ∧ s < 19) := ⟨sread_end hs A.out.2.2.1, by have := sread_le (ls := code) (h := bs.drop pos); rw [hs] at this; exact this.2.1, by have := got_lt hs; rw [AK.out.2.2.1.code] at this; exact this⟩
      have hst : ∀ st, (if s < 16 then .dsym last a c code (l ++ [s]) else if s = 16 ∧ l = [] then .bad 12 else .drep last a c code l s) = st → step bs most ⟨.dsym last a c code l, pos, out, times⟩ = some ⟨st, pos + n, out, times⟩ := fun st h => by
        unfold step
        simp only [AS.out]
        rw [if_pos (by rw [AK.out.2.2.2]; exact AF.out), h]
      have AST : Aside (∀ st, (if s < 16 then .dsym last a c code (l ++ [s]) else if s = 16 ∧ l = [] then .bad 12 else .drep last a c code l s) = st → step bs most ⟨.dsym last a c code l, pos, out, times⟩ = some ⟨st, pos + n, out, times⟩) := hst
      clear hs hst
      by_cases h16 : s < 16
      · have t2 : ((s : Int) < 16) = True := eq_true (by omega)
        have A16 : Aside (s < 16) := h16
        clear h16
        go_upto_region 8 with (go_at_call 89; refine hread.mono ?_; rintro e2 w2 ⟨hf2, rfl, hb2⟩)
        have p := AK.out.2.2.1
        have hLt : L < 316 := by have := AF.out; have := p.a2; have := p.b2; omega
        have d11 := (hb2.cell (show 11 < 355 by decide)).trans (congrArg some (by rw [p.have_, AK.out.2.2.2]))
        have dL := hb2.cell (show 32 + L < 355 by omega)
        have zL := hb2.fz (32 + L)
        have t3 : ((L : Int) < 316) = True := eq_true (by omega)
        have t3' : (L < 316) = True := eq_true hLt
        have A2 : Aside (Bs w2 B D b R f ((bs.drop pos).drop n) (win out) ∧ Fm B w w2 ∧ L < 316) := ⟨hb2, A1.out.trans hf2, hLt⟩
        clear hb2 hf2 p hread h31 hLt
        go_region
        have hb3 := (A2.out.1.set (32 + L) (.int .i64 (s : Int)) (by omega)).drew
        have hf3 : Fm B w (w2.setCell ⟨D, 32 + L, none⟩ (.int .i64 (s : Int))).drew := (A2.out.2.1.trans (A2.out.1.fmD ((Only.refl D w2).setCell (32 + L) _))).drew
        obtain ⟨w3, hw3⟩ : ∃ w3, (w2.setCell ⟨D, 32 + L, none⟩ (.int .i64 (s : Int))).drew = w3 := ⟨_, rfl⟩
        rw [hw3] at hb3 hf3 ⊢
        have e11 : upd f (32 + L) (.int .i64 (s : Int)) 11 = .int .i64 (L : Int) := (upd_ne _ _ (by omega)).trans (by rw [AK.out.2.2.1.have_, AK.out.2.2.2])
        have g11 := (hb3.cell (show 11 < 355 by decide)).trans (congrArg some e11)
        have y11 := hb3.fz 11
        have hLI : (L : Int) < 400 := by have := A2.out.2.2; omega
        have A3 : Aside (Bs w3 B D b R (upd f (32 + L) (.int .i64 (s : Int))) ((bs.drop pos).drop n) (win out) ∧ Fm B w w3) := ⟨hb3, hf3⟩
        clear hw3 hb3 hf3 e11 d11 dL zL t3 t3'
        go_wp2_with fail
        first | go_ret | go_ret2
        have a' := A.out
        have p := AK.out.2.2.1
        have hb4 := A3.out.1.set 11 (.int .i64 ((L : Int) + 1)) (by decide)
        have hf4 : Fm B w (w3.setCell ⟨D, 11, none⟩ (.int .i64 ((L : Int) + 1))) := A3.out.2.trans (A3.out.1.fmD ((Only.refl D w3).setCell 11 _))
        rw [List.drop_drop] at hb4
        have u : ∀ m, m ≠ 11 → m < 32 ∨ 348 ≤ m → upd (upd f (32 + L) (.int .i64 (s : Int))) 11 (.int .i64 ((L : Int) + 1)) m = f m := fun m h1 h2 => by
          have := A2.out.2.2
          rw [upd_ne _ _ h1, upd_ne _ _ (by omega)]
        refine ⟨true, rfl, hf4, Res.next (c' := ⟨.dsym last a c code (l ++ [s]), pos + n, out, times⟩) (Runs.one (AST.out _ (if_pos A16.out))) (a'.1.to hf4 hb4 ⟨(u 2 (by decide) (by decide)).trans AK.out.1, (u 5 (by decide) (by decide)).trans AK.out.2.1, p.a1, p.a2, p.b1, p.b2, (u 8 (by decide) (by decide)).trans p.c8, (u 9 (by decide) (by decide)).trans p.c9, ?_, ?_, ?_, ?_, p.code⟩ (u 3 (by decide) (by decide)) (u 4 (by decide) (by decide)) hn.out.1) (a'.2.1.to (u 352 (by decide) (by decide)) (u 353 (by decide) (by decide)) (u 354 (by decide) (by decide))) rfl ?_⟩
        · rw [upd_same, List.length_append, AK.out.2.2.2]
          rfl
        · rw [List.length_append, AK.out.2.2.2]
          exact AF.out
        · intro j x hx
          rw [upd_ne _ _ (by omega)]
          rw [List.getElem?_append] at hx
          split at hx
          · rename_i hjl
            rw [upd_ne _ _ (by rw [AK.out.2.2.2] at hjl; omega)]
            exact p.row j x hx
          · rename_i hjl
            rw [AK.out.2.2.2] at hjl hx
            have hj1 : j - L = 0 := by
              have := (List.getElem?_eq_some_iff.1 hx).1
              rw [List.length_singleton] at this
              omega
            rw [hj1] at hx
            cases hx
            rw [show 32 + j = 32 + L by omega, upd_same]
        · rw [u 31 (by decide) (by decide)]
          exact p.tbl.fm hf4
        · unfold mu rk
          simp only []
          have := hn.out
          omega
      · have t2 : ((s : Int) < 16) = False := eq_false (by omega)
        by_cases hz : s = 16 ∧ L = 0
        · obtain ⟨rfl, rfl⟩ := hz
          have hl0 : Aside (l = []) := List.eq_nil_of_length_eq_zero AK.out.2.2.2
          have hL0 : f 11 = .int .i64 0 := by rw [AK.out.2.2.1.have_, AK.out.2.2.2]; rfl
          clear h16 t2
          go_wp2_with (first
            | (go_at_call 89; refine hread.mono ?_; rintro e2 w2 ⟨hf2, rfl, hb2⟩
               have d11 := (hb2.cell (show 11 < 355 by decide)).trans (congrArg some hL0)
               have hst := pstop_c 12 w2 hb2)
            | (go_at_call 65; refine hst.mono ?_; rintro e3 w3 ⟨rfl, hb3, hf3⟩))
          first | go_ret | go_ret2
          have a' := A.out
          have hf : Fm B w w3 := (A1.out.trans hf2).trans hf3
          exact ⟨false, rfl, hf, Res.over (c' := ⟨.bad 12, pos + n, out, times⟩) (Runs.one (AST.out _ (by rw [if_neg (by decide), if_pos (by simp [hl0.out])]))) (a'.1.bad a'.2.1 hf hb3 12 (by decide) rfl rfl rfl rfl rfl rfl) rfl⟩
        · have AZ : Aside (¬ s < 16 ∧ ¬ (s = 16 ∧ L = 0)) := ⟨h16, hz⟩
          have hsI : (s : Int) < 400 := by have := hn.out; omega
          have hL11 : f 11 = .int .i64 (L : Int) := by rw [AK.out.2.2.1.have_, AK.out.2.2.2]
          have hfin : ∀ (w2 w3 : World), Fm B w1 w2 → Bs w2 B D b R f ((bs.drop pos).drop n) (win out) → Bs w3 B D b R (upd (upd f 348 (.int .i64 (s : Int))) 2 (fnv D 138)) ((bs.drop pos).drop n) (win out) → Fm B (w2.setCell ⟨D, 348, none⟩ (.int .i64 (s : Int))) w3 → Fm B w w3 ∧ Res B D b R bs most ⟨.dsym last a c code l, pos, out, times⟩ true w3 := fun w2 w3 hf2 hb2 hb3 hf3 => by
            have a' := A.out
            have p := AK.out.2.2.1
            have hf : Fm B w w3 := ((A1.out.trans hf2).trans (hb2.fmD ((Only.refl D w2).setCell 348 _))).trans hf3
            rw [List.drop_drop] at hb3
            have z := AZ.out
            refine ⟨hf, Res.next (c' := ⟨.drep last a c code l s, pos + n, out, times⟩) (Runs.one (AST.out _ ?_)) (a'.1.to hf hb3 ⟨rfl, AK.out.2.1, p.mono hf rfl rfl rfl rfl (fun j hj => by rw [upd_ne _ _ (by omega), upd_ne _ _ (by omega)]), rfl, by omega, by have := hn.out; omega, ?_⟩ rfl rfl hn.out.1) (a'.2.1.to rfl rfl rfl) rfl ?_⟩
            · rw [if_neg z.1, if_neg (fun h => z.2 ⟨h.1, by rw [← AK.out.2.2.2, h.2]; rfl⟩)]
            · intro h h'
              exact z.2 ⟨h, by rw [← AK.out.2.2.2, h']; rfl⟩
            · unfold mu rk
              simp only []
              have := hn.out
              omega
          have AFIN : Aside (∀ (w2 w3 : World), Fm B w1 w2 → Bs w2 B D b R f ((bs.drop pos).drop n) (win out) → Bs w3 B D b R (upd (upd f 348 (.int .i64 (s : Int))) 2 (fnv D 138)) ((bs.drop pos).drop n) (win out) → Fm B (w2.setCell ⟨D, 348, none⟩ (.int .i64 (s : Int))) w3 → Fm B w w3 ∧ Res B D b R bs most ⟨.dsym last a c code l, pos, out, times⟩ true w3) := hfin
          clear hfin
          by_cases h16' : s = 16
          · have t4 : ((s : Int) == 16) = true := by rw [beq_iff_eq]; omega
            have t5 : ((L : Int) == 0) = false := by rw [beq_eq_false_iff_ne]; have := AZ.out; omega
            clear h16 hz h16'
            go_wp2_with (first
              | (go_at_call 89; refine hread.mono ?_; rintro e2 w2 ⟨hf2, rfl, hb2⟩
                 have d11 := (hb2.cell (show 11 < 355 by decide)).trans (congrArg some hL11)
                 have d8 := hb2.cell (show 348 < 355 by decide)
                 have z8 := hb2.fz 348
                 have hth := pthen_c 138 _ (hb2.set 348 (.int .i64 (s : Int)) (by decide)))
              | (go_at_call 60; refine hth.mono ?_; rintro e3 w3 ⟨rfl, hb3, hf3⟩))
            first | go_ret | go_ret2
            have q := AFIN.out w2 w3 hf2 hb2 hb3 hf3
            exact ⟨true, rfl, q.1, q.2⟩
          · have t4 : ((s : Int) == 16) = false := by rw [beq_eq_false_iff_ne]; omega
            clear h16 hz h16'
            go_wp2_with (first
              | (go_at_call 89; refine hread.mono ?_; rintro e2 w2 ⟨hf2, rfl, hb2⟩
                 have d11 := (hb2.cell (show 11 < 355 by decide)).trans (congrArg some hL11)
                 have d8 := hb2.cell (show 348 < 355 by decide)
                 have z8 := hb2.fz 348
                 have hth := pthen_c 138 _ (hb2.set 348 (.int .i64 (s : Int)) (by decide)))
              | (go_at_call 60; refine hth.mono ?_; rintro e3 w3 ⟨rfl, hb3, hf3⟩))
            first | go_ret | go_ret2
            have q := AFIN.out w2 w3 hf2 hb2 hb3 hf3
            exact ⟨true, rfl, q.1, q.2⟩
end
end Go.Proofs.YtpihipbeagpgpaaGreatDoor

/-
  Own texts of this seat, one behind the other: what each says stands ahead of it.
-/
import Derived.Test.YtogednaamndpgaaDoorMm
import Derived.Test.YtogednaamndpgaaDoorMn
/-
  The walker's steps: extraLength, headSum, dataSum, dataSize.
-/
namespace Go.Proofs.YtogednaamndpgaaDoor
open Go.RowKit
set_option linter.unusedVariables false
section
variable {lo hi B D b R W A : Nat} {n I : List Nat} {cf : Cfg} {q : Md} {s : Gs}
theorem Wk.gath {w : World} (x : Nat) (hx : x < 256) (hb : s.nb < 4294967296) (hl : 1 ≤ s.lf) (hl2 : s.lf < 1000000) (t : Bool) (ht : decide (s.lf - 1 = 0) = t) (h : Wk w lo hi B D b R W A (gcof s none) n I cf q) : Calls Tryd.prog 26 #[.pointer (some ⟨W, 0, none⟩), .int .u8 (x : Int)] w fun e w' => e = .returned (.bool t) ∧ Wk w' lo hi B D b R W A (gcof (gath x s) none) n I cf q ∧ Fw lo hi w w' := by
  rw [← ht]
  exact h.gather x hx hb hl hl2 w
theorem Wk.half {w : World} {m : Nat} (h : Wk w lo hi B D b R W A (gcof s none) n I cf q) (e : s.nb / 65536 = m) : Calls Tryd.prog 79 #[.pointer (some ⟨W, 0, none⟩)] w fun e w' => e = .returned (.int .u32 (m : Int)) ∧ w = w' := by
  rw [← e]
  exact half_c w h.wc
set_option maxHeartbeats 1000000 in
theorem extra_c (x : Nat) (hx : x < 256) (w : World) (hw : Wk w lo hi B D b R W A (gcof s none) s.nm I cf q) (hs : s.sm < 4294967296) (hb : s.nb < 4294967296) (hf : s.fl < 32) (hon : Oct s.nm) (hl1 : 1 ≤ s.lf) (hl : s.lf < 1000000) : Calls Tryd.prog 66 #[.pointer (some ⟨W, 0, none⟩), .int .u8 (x : Int)] w fun e w' => e = .returned (.tuple #[]) ∧ Wo w' lo hi B D b R W A (gext (Go.Proofs.YtogednaamndpgaaDoor.gath x (gcnt x s))) ∧ Fw lo hi w w' := by
  have kc := hw.cnt_ x hx hs
  have hb2 := gath_lt (s := gcnt x s) hx hb
  unfold gext
  by_cases hz : s.lf - 1 = 0
  · rw [if_pos (show (Go.Proofs.YtogednaamndpgaaDoor.gath x (gcnt x s)).lf = 0 from hz)]
    have kg : ∀ w, Wk w lo hi B D b R W A (gcof (gcnt x s) none) s.nm I cf q → Calls Tryd.prog 26 #[.pointer (some ⟨W, 0, none⟩), .int .u8 (x : Int)] w _ := fun w h => Wk.gath (s := gcnt x s) x hx hb hl1 hl true (decide_eq_true hz) h
    obtain ⟨s2, hs2⟩ : ∃ s2, Go.Proofs.YtogednaamndpgaaDoor.gath x (gcnt x s) = s2 := ⟨_, rfl⟩
    have e1 : s2.fl = s.fl := by rw [← hs2]; rfl
    have e2 : s2.nm = s.nm := by rw [← hs2]; rfl
    rw [hs2] at kg hb2 ⊢
    rw [← e1] at hf
    rw [← e2] at hon
    obtain ⟨m, hm⟩ : ∃ m, s2.nb / 65536 = m := ⟨_, rfl⟩
    have hmb : m < 65536 := by omega
    rw [hm]
    rw [← e2] at kg kc
    by_cases h1 : 1024 < m
    · rw [if_pos h1]
      have t1 : decide (1024 < (m : Int)) = true := decide_eq_true (by omega)
      clear hw hs hb hf hon hl1 hl hx hz hs2 e1 e2 hb2
      go_enter Tryd.func66, Tryd.ntmps66
      go_wp2_with (first
        | (go_at_call 22; refine kc.mono ?_; rintro e1 w1 ⟨rfl, h1, f1⟩)
        | (go_at_call 26; refine (kg _ h1).mono ?_; rintro e2 w2 ⟨rfl, h2, f2⟩; have d15 := h2.wc.a15; have z15 := h2.wc.fz 15)
        | (go_at_call 79; refine (h2.half hm).mono ?_; rintro e3 w3 ⟨rfl, rfl⟩))
      first | go_end0 | (refine bodyPost_ret (results_none rfl _ _ _) rfl ?_)
      exact ⟨rfl, Or.inl ⟨rfl, I, cf, q, (h2.bad 46).1⟩, (f1.trans f2).trans (h2.bad 46).2⟩
    · rw [if_neg h1]
      have t1 : decide (1024 < (m : Int)) = false := decide_eq_false (by omega)
      by_cases h0 : m = 0
      · rw [if_pos h0]
        have kf : ∀ w, Wk w lo hi B D b R W A (gcof s2 none) s2.nm I cf q → Calls Tryd.prog 55 #[.pointer (some ⟨W, 0, none⟩)] w _ := fun w h => field_c (s := s2) w h hf hon
        have t0 : ((m : Int) == 0) = true := by rw [h0]; rfl
        clear hw hs hb hf hon hl1 hl hx hz hs2 e1 e2 hb2 h0
        go_enter Tryd.func66, Tryd.ntmps66
        go_wp2_with (first
          | (go_at_call 22; refine kc.mono ?_; rintro e1 w1 ⟨rfl, h1, f1⟩)
          | (go_at_call 26; refine (kg _ h1).mono ?_; rintro e2 w2 ⟨rfl, h2, f2⟩)
          | (go_at_call 79; refine (h2.half hm).mono ?_; rintro e3 w3 ⟨rfl, rfl⟩)
          | (go_at_call 55; refine (kf _ h2).mono ?_; rintro e4 w4 ⟨rfl, h4, f4⟩))
        first | go_end0 | (refine bodyPost_ret (results_none rfl _ _ _) rfl ?_)
        exact ⟨rfl, h4, (f1.trans f2).trans f4⟩
      · rw [if_neg h0]
        have kt : ∀ w, Wk w lo hi B D b R W A (gcof s2 none) s2.nm I cf q → Calls Tryd.prog 18 #[.pointer (some ⟨W, 0, none⟩), .func (.func 44) #[.pointer (some ⟨W, 0, none⟩)] #[], .int .i64 (m : Int)] w _ := fun w h => h.then_ 44 m w
        have t0 : ((m : Int) == 0) = false := by rw [beq_eq_false_iff_ne]; omega
        clear hw hs hb hf hon hl1 hl hx hz hs2 e1 e2 hb2 h0
        go_enter Tryd.func66, Tryd.ntmps66
        go_wp2_with (first
          | (go_at_call 22; refine kc.mono ?_; rintro e1 w1 ⟨rfl, h1, f1⟩)
          | (go_at_call 26; refine (kg _ h1).mono ?_; rintro e2 w2 ⟨rfl, h2, f2⟩)
          | (go_at_call 79; refine (h2.half hm).mono ?_; rintro e3 w3 ⟨rfl, rfl⟩)
          | (go_at_call 18; refine (kt _ h2).mono ?_; rintro e4 w4 ⟨rfl, h4, f4⟩))
        first | go_end0 | (refine bodyPost_ret (results_none rfl _ _ _) rfl ?_)
        exact ⟨rfl, Or.inl ⟨rfl, I, cf, q, h4⟩, (f1.trans f2).trans f4⟩
  · rw [if_neg (show ¬ (Go.Proofs.YtogednaamndpgaaDoor.gath x (gcnt x s)).lf = 0 from hz)]
    have kg : ∀ w, Wk w lo hi B D b R W A (gcof (gcnt x s) none) s.nm I cf q → Calls Tryd.prog 26 #[.pointer (some ⟨W, 0, none⟩), .int .u8 (x : Int)] w _ := fun w h => Wk.gath (s := gcnt x s) x hx hb hl1 hl false (decide_eq_false hz) h
    clear hw hs hb hf hon hl1 hl hx hz hb2
    go_enter Tryd.func66, Tryd.ntmps66
    go_wp2_with (first
      | (go_at_call 22; refine kc.mono ?_; rintro e1 w1 ⟨rfl, h1, f1⟩)
      | (go_at_call 26; refine (kg _ h1).mono ?_; rintro e2 w2 ⟨rfl, h2, f2⟩))
    first | go_end0 | (refine bodyPost_ret (results_none rfl _ _ _) rfl ?_)
    exact ⟨rfl, Or.inl ⟨rfl, I, cf, q, h2⟩, f1.trans f2⟩
set_option maxHeartbeats 1000000 in
theorem hsum_c (x : Nat) (hx : x < 256) (w : World) (hw : Wk w lo hi B D b R W A (gcof s none) s.nm I cf q) (hs : s.sm < 4294967296) (hb : s.nb < 4294967296) (hon : Oct s.nm) (hl1 : 1 ≤ s.lf) (hl : s.lf < 1000000) : Calls Tryd.prog 69 #[.pointer (some ⟨W, 0, none⟩), .int .u8 (x : Int)] w fun e w' => e = .returned (.tuple #[]) ∧ Wo w' lo hi B D b R W A (ghsm (Go.Proofs.YtogednaamndpgaaDoor.gath x s)) ∧ Fw lo hi w w' := by
  have hb2 := gath_lt (s := s) hx hb
  unfold ghsm
  by_cases hz : s.lf - 1 = 0
  · rw [if_pos (show (Go.Proofs.YtogednaamndpgaaDoor.gath x s).lf = 0 from hz)]
    have kg := Wk.gath x hx hb hl1 hl true (decide_eq_true hz) hw
    obtain ⟨s2, hs2⟩ : ∃ s2, Go.Proofs.YtogednaamndpgaaDoor.gath x s = s2 := ⟨_, rfl⟩
    have e2 : s2.nm = s.nm := by rw [← hs2]; rfl
    have e3 : s2.sm = s.sm := by rw [← hs2]; rfl
    rw [hs2] at kg hb2 ⊢
    rw [← e2] at hon kg
    obtain ⟨m, hm⟩ : ∃ m, s2.nb / 65536 = m := ⟨_, rfl⟩
    obtain ⟨v, hv⟩ : ∃ v, s2.sm % 65536 = v := ⟨_, rfl⟩
    have hand : bits .and .u32 (s2.sm : Int) 65535 = (v : Int) := by
      have := u32_mask s2.sm 16 (by omega) (by decide) 65535 rfl
      rw [← hv]
      exact this
    rw [hm, hv]
    by_cases h1 : m = v
    · rw [if_pos h1]
      have t1 : ((m : Int) != (v : Int)) = false := by rw [h1]; simp
      have ko : ∀ w, Wk w lo hi B D b R W A (gcof s2 none) s2.nm I cf q → Calls Tryd.prog 70 #[.pointer (some ⟨W, 0, none⟩)] w _ := fun w h => opm_c w h hon
      clear hw hs hb hon hl1 hl hx hz hs2 e2 e3 hb2 h1 hv
      go_enter Tryd.func69, Tryd.ntmps69
      go_upto_region 1 with (go_at_call 26; refine kg.mono ?_; rintro e2 w2 ⟨rfl, h2, f2⟩)
      have d6 : w2.cell? ⟨W, 6, none⟩ = some (.int .u32 (s2.sm : Int)) := h2.wc.a6
      have kh : ∀ k, Calls Tryd.prog 79 #[.pointer (some ⟨W, 0, none⟩)] (w2.drewN k) fun e w' => e = .returned (.int .u32 (m : Int)) ∧ w' = w2.drewN k := fun k => ((h2.drewN k).half hm).mono fun e w' h => ⟨h.1, h.2.symm⟩
      have A2 : Aside (Wk w2 lo hi B D b R W A (gcof s2 none) s2.nm I cf q ∧ Fw lo hi w w2) := ⟨h2, f2⟩
      clear h2 f2 kg
      go_quiet ((go_at_call 79; refine Calls.quiet_of_same (kh _)))
      go_wp2_with (go_at_call 70; refine (ko _ (A2.out.1.drewN _)).mono ?_; rintro e4 w4 ⟨rfl, h4, f4⟩)
      first | go_end0 | (refine bodyPost_ret (results_none rfl _ _ _) rfl ?_)
      exact ⟨rfl, Or.inr ⟨_, rfl, h4⟩, (A2.out.2.trans (Fw.drewN w2 _)).trans f4⟩
    · rw [if_neg h1]
      have t1 : ((m : Int) != (v : Int)) = true := by rw [bne_iff_ne]; omega
      clear hw hs hb hon hl1 hl hx hz hs2 e2 e3 hb2 h1 hv
      go_enter Tryd.func69, Tryd.ntmps69
      go_upto_region 1 with (go_at_call 26; refine kg.mono ?_; rintro e2 w2 ⟨rfl, h2, f2⟩)
      have d6 : w2.cell? ⟨W, 6, none⟩ = some (.int .u32 (s2.sm : Int)) := h2.wc.a6
      have kh : ∀ k, Calls Tryd.prog 79 #[.pointer (some ⟨W, 0, none⟩)] (w2.drewN k) fun e w' => e = .returned (.int .u32 (m : Int)) ∧ w' = w2.drewN k := fun k => ((h2.drewN k).half hm).mono fun e w' h => ⟨h.1, h.2.symm⟩
      have A2 : Aside (Wk w2 lo hi B D b R W A (gcof s2 none) s2.nm I cf q ∧ Fw lo hi w w2) := ⟨h2, f2⟩
      have d15 := h2.wc.a15
      have z15 := h2.wc.fz 15
      clear h2 f2 kg
      go_quiet ((go_at_call 79; refine Calls.quiet_of_same (kh _)))
      go_wp2_with fail
      first | go_end0 | (refine bodyPost_ret (results_none rfl _ _ _) rfl ?_)
      exact ⟨rfl, Or.inl ⟨rfl, I, cf, q, ((A2.out.1.drewN _).bad 43).1⟩, (A2.out.2.trans (Fw.drewN w2 _)).trans ((A2.out.1.drewN _).bad 43).2⟩
  · rw [if_neg (show ¬ (Go.Proofs.YtogednaamndpgaaDoor.gath x s).lf = 0 from hz)]
    have kg := Wk.gath x hx hb hl1 hl false (decide_eq_false hz) hw
    clear hw hs hb hon hl1 hl hx hz hb2
    go_enter Tryd.func69, Tryd.ntmps69
    go_wp2_with (go_at_call 26; refine kg.mono ?_; rintro e2 w2 ⟨rfl, h2, f2⟩)
    first | go_end0 | (refine bodyPost_ret (results_none rfl _ _ _) rfl ?_)
    exact ⟨rfl, Or.inl ⟨rfl, I, cf, q, h2⟩, f2⟩
end
end Go.Proofs.YtogednaamndpgaaDoor

/-
  A member's deflated bytes and what stands behind them: what the document says is what the machine comes to. No walk.
-/
namespace Go.Proofs.YtogednaamndpgaaDoor
open Go.RowKit
set_option linter.unusedVariables false
section
variable {bs : List Bool} {M : Nat}
theorem give_oct {k : St} {v p : Nat} {c : Cfg} (hc : Oct c.out) (hv : v < 256) : Oct (give M k v p c).out := by
  unfold give
  split
  · intro x hx
    rcases List.mem_append.1 hx with h | h
    · exact hc x h
    · rw [List.mem_singleton.1 h]; exact hv
  · exact hc
theorem step_oct {c d : Cfg} (h : step bs M c = some d) (hc : Oct c.out) : Oct d.out := by
  obtain ⟨st, pos, out, times⟩ := c
  unfold step at h
  cases st using St.el with
  | head last =>
    cases last with
    | true => simp only [Option.some.injEq] at h; subst h; exact hc
    | false => simp only [Option.map_eq_some_iff] at h; obtain ⟨v, hv, rfl⟩ := h; exact hc
  | sraw last n =>
    cases n with
    | zero => simp only [Option.some.injEq] at h; subst h; exact hc
    | succ n =>
      simp only [Option.map_eq_some_iff] at h
      obtain ⟨v, hv, rfl⟩ := h
      exact give_oct hc (numb_lt hv)
  | dfst last a b i j first =>
    simp only [] at h
    split at h
    · simp only [Option.map_eq_some_iff] at h; obtain ⟨v, hv, rfl⟩ := h; exact hc
    · simp only [Option.some.injEq] at h; subst h; exact hc
  | dsym last a b code l =>
    simp only [] at h
    split at h
    · cases e : sread code (bs.drop pos) using SR.el with
      | cut => rw [e] at h; cases h
      | bad j => rw [e] at h; simp only [Option.some.injEq] at h; subst h; exact hc
      | got s n => rw [e] at h; simp only [Option.some.injEq] at h; subst h; exact hc
    · simp only [Option.some.injEq] at h; subst h; exact hc
  | sym last lit di =>
    simp only [] at h
    cases e : sread lit (bs.drop pos) using SR.el with
    | cut => rw [e] at h; cases h
    | bad j => rw [e] at h; simp only [Option.some.injEq] at h; subst h; exact hc
    | got s n =>
      rw [e] at h
      simp only [] at h
      split at h
      · rename_i hs; simp only [Option.some.injEq] at h; subst h; exact give_oct hc hs
      · simp only [Option.some.injEq] at h; subst h; exact hc
  | dist last lit di n =>
    simp only [] at h
    cases e : sread di (bs.drop pos) using SR.el with
    | cut => rw [e] at h; cases h
    | bad j => rw [e] at h; simp only [Option.some.injEq] at h; subst h; exact hc
    | got s n => rw [e] at h; simp only [Option.some.injEq] at h; subst h; exact hc
  | copy last lit di n d =>
    cases n with
    | zero => simp only [Option.some.injEq] at h; subst h; exact hc
    | succ n =>
      simp only [Option.some.injEq] at h
      subst h
      refine give_oct hc ?_
      show out.getD (out.length - d) 0 < 256
      rw [List.getD_eq_getElem?_getD]
      cases e : out[out.length - d]? with
      | none => decide
      | some v => exact hc v (List.mem_of_getElem? e)
  | done => cases h
  | bad y => cases h
  | _ => simp only [Option.map_eq_some_iff] at h; obtain ⟨v, hv, rfl⟩ := h; exact hc
theorem runs_oct {c d : Cfg} (h : Runs bs M c d) (hc : Oct c.out) : Oct d.out := by
  induction h using Runs.el with
  | refl => exact hc
  | cons h1 _ ih => exact ih (step_oct h1 hc)
theorem Stands.oct {I : List Nat} {y : Cfg} (h : Stands I M y) : Oct y.out := runs_oct h.1 (fun x hx => by cases hx)
theorem Stands.tl {I : List Nat} {y : Cfg} (h : Stands I M y) : y.times.length = y.out.length := times_len h.1 (Nat.zero_le _) rfl
end
theorem open_c3 {y : Cfg} (h : ¬ Over y) : endC y = false ∧ badC y = 0 ∧ whyC y = 1 := by
  unfold endC badC whyC
  cases e : y.st using St.el <;> first | exact ⟨rfl, rfl, rfl⟩ | exact absurd (Or.inl e) h | exact absurd (Or.inr ⟨_, e⟩) h
theorem done_c3 {y : Cfg} (h : y.st = .done) : endC y = true ∧ badC y = 0 ∧ whyC y = 0 := by unfold endC badC whyC; rw [h]; exact ⟨rfl, rfl, rfl⟩
theorem bad_c3 {y : Cfg} {k : Nat} (h : y.st = .bad k) : endC y = false ∧ badC y = k ∧ whyC y = k := by unfold endC badC whyC; rw [h]; exact ⟨rfl, rfl, rfl⟩
theorem c0_open : ¬ Over c0 := by
  rintro (e | ⟨y, e⟩) <;> simp [c0] at e
/-- What is told of the bytes that were inflated, from a place on. -/
def gtells (p : Nat) (z : Cfg) : List Gev := List.zipWith (fun t x => (p + t, x, [])) z.times z.out
theorem gtells_next {p : Nat} {y y' : Cfg} {o : List Nat} {t : Nat} (hl : y.times.length = y.out.length) (h1 : y'.out = y.out ++ o) (h2 : y'.times = y.times ++ List.replicate o.length t) : gtells p y' = gtells p y ++ evs (p + t) (o.map fun b => (b, [])) := by
  unfold gtells
  rw [h1, h2, List.zipWith_append hl]
  congr 1
  clear h1 h2 hl
  induction o with
  | nil => rfl
  | cons a o ih => simp only [List.length_cons, List.replicate_succ, List.zipWith_cons_cons, List.map_cons, evs] at ih ⊢; rw [ih]
/-- The inflater stands at y behind the bytes I. -/
def gdd (s : Gs) (I : List Nat) (y : Cfg) : Gs := { s with ip := I, y := y, sm := sm 0 y.out, gv := y.out.length, nx := if endC y then 10 else 9, lf := if endC y then 4 else s.lf, why := badC y }
section
variable {b : List Nat} {r : Gr} {s : Gs} {n : List Nat}
theorem Op1.gdd (h : Op1 b r s n) : s = gdd s [] c0 := by
  obtain ⟨nx, fl, nm, lf, nb, sm_, gv, wh, why, ip, y⟩ := s
  have h1 := h.nx; have h2 := h.ip; have h3 := h.y; have h4 := h.sm; have h5 := h.gv; have h6 := h.sw
  simp only at h1 h2 h3 h4 h5 h6
  subst h1 h2 h3 h4 h5 h6
  rfl
theorem data_run (h : Op1 b r s n) : ∀ (k : Nat), k ≤ (b.drop r.pos).length → (∀ j, j < k → ∀ y, Stands ((b.drop r.pos).take j) MM y → ¬ Over y) → ∃ y, Stands ((b.drop r.pos).take k) MM y ∧ Rch b (r.pos + k) (gdd s ((b.drop r.pos).take k) y) (r.ev ++ [(r.pos - 1, 256, n)] ++ gtells r.pos y)
  | 0, hk, hn => ⟨c0, by rw [List.take_zero]; exact stands_nil MM, by
      rw [List.take_zero, ← h.gdd]
      have := h.rch
      simpa [gtells, c0] using this⟩
  | k + 1, hk, hn => by
    obtain ⟨y, h1, h2⟩ := data_run h k (by omega) (fun j hj => hn j (by omega))
    obtain ⟨a1, a2, a3⟩ := open_c3 (hn k (by omega) y h1)
    have hkl : k < (b.drop r.pos).length := hk
    have et : (b.drop r.pos).take (k + 1) = (b.drop r.pos).take k ++ [(b.drop r.pos)[k]] := List.take_succ_eq_append_getElem hkl
    obtain ⟨y', h3⟩ := stands_ex ((b.drop r.pos).take (k + 1)) MM
    have h4 := h3
    rw [et] at h4
    obtain ⟨o, q1, q2, _⟩ := h1.next h4
    have hx : b[r.pos + k]? = some (b.drop r.pos)[k] := by rw [List.getElem_drop, List.getElem?_eq_getElem]
    have q3 := h2.step (by show badC y = 0; exact a2) hx (s1 := gdd s ((b.drop r.pos).take (k + 1)) y') (E := o.map fun b => (b, [])) (Or.inl ⟨by show (if endC y then 10 else 9) = 9; rw [a1]; rfl, y', h4, ?_, ?_⟩)
    · refine ⟨y', h3, ?_⟩
      have hlen : ((b.drop r.pos).take k).length = k := by rw [List.length_take]; omega
      rw [hlen] at q2
      rw [gtells_next h1.tl q1 q2, ← List.append_assoc]
      exact q3
    · rw [et]
      unfold Go.Proofs.YtogednaamndpgaaDoor.gdd gdat
      simp only [a1]
      rfl
    · show _ = List.map _ (y'.out.drop y.out.length)
      rw [q1, List.drop_left]
end
theorem first_of (P : Nat → Prop) : ∀ n, P n → ∃ k, k ≤ n ∧ P k ∧ ∀ j, j < k → ¬ P j := by
  intro n
  induction n using Nat.strongRecOn with
  | ind n ih =>
    intro h
    by_cases hq : ∃ j, j < n ∧ P j
    · obtain ⟨j, hj, hp⟩ := hq
      obtain ⟨k, h1, h2, h3⟩ := ih j hj hp
      exact ⟨k, by omega, h2, h3⟩
    · exact ⟨n, Nat.le_refl n, h, fun j hj hp => hq ⟨j, hj, hp⟩⟩
section
variable {D : List Nat} {N : Nat} {z : Cfg}
/-- With which byte it is over. -/
theorem over_first (hz : Stands D N z) (ho : Over z) : ∃ k, k < D.length ∧ Stands (D.take (k + 1)) N z ∧ (∀ j, j ≤ k → ∀ y, Stands (D.take j) N y → ¬ Over y) ∧ 8 * k < z.pos ∧ z.pos ≤ 8 * (k + 1) := by
  obtain ⟨k, h1, ⟨y, h2, h3⟩, h4⟩ := first_of (fun k => ∃ y, Stands (D.take k) N y ∧ Over y) D.length ⟨z, by rw [List.take_length]; exact hz, ho⟩
  have hy : y = z := (h2.of_take h3).one hz
  subst hy
  have hk : k ≠ 0 := by
    rintro rfl
    rw [List.take_zero] at h2
    have := h2.one (stands_nil N)
    rw [this] at ho
    exact c0_open ho
  obtain ⟨m, rfl⟩ : ∃ m, k = m + 1 := ⟨k - 1, by omega⟩
  refine ⟨m, by omega, h2, fun j hj y' q1 q2 => h4 j (by omega) ⟨y', q1, q2⟩, ?_, ?_⟩
  · obtain ⟨e, q1⟩ := stands_ex (D.take m) N
    have q2 : ¬ Over e := fun q => h4 m (by omega) ⟨e, q1, q⟩
    have hlen : (D.take m).length = m := by rw [List.length_take]; omega
    have et : D.take (m + 1) = D.take m ++ [D[m]] := List.take_succ_eq_append_getElem (by omega)
    rw [et] at h2
    have := over_pos q1 q2 h2 h3
    rwa [hlen] at this
  · have := h2.pos
    rw [List.length_take] at this
    omega
/-- Where it is not over, it never was. -/
theorem open_all (hz : Stands D N z) (ho : ¬ Over z) (j : Nat) (y : Cfg) (h : Stands (D.take j) N y) : ¬ Over y := fun q => ho ((h.of_take q).one hz ▸ q)
end
/-- Four bytes of a number at a place. -/
def le4 (b : List Nat) (p : Nat) : Nat := le ((b.drop p).take 4)
section
variable {b : List Nat} {s : Gs} {T : List Gev}
theorem le4_at {p x0 x1 x2 x3 : Nat} (h0 : b[p]? = some x0) (h1 : b[p + 1]? = some x1) (h2 : b[p + 2]? = some x2) (h3 : b[p + 3]? = some x3) : le4 b p = x0 + 256 * x1 + 65536 * x2 + 16777216 * x3 := by
  obtain ⟨p0, e0⟩ := List.getElem?_eq_some_iff.1 h0
  obtain ⟨p1, e1⟩ := List.getElem?_eq_some_iff.1 h1
  obtain ⟨p2, e2⟩ := List.getElem?_eq_some_iff.1 h2
  obtain ⟨p3, e3⟩ := List.getElem?_eq_some_iff.1 h3
  unfold le4
  rw [List.drop_eq_getElem_cons p0, List.drop_eq_getElem_cons p1, List.drop_eq_getElem_cons p2, List.drop_eq_getElem_cons p3, e0, e1, e2, e3]
  simp [le]
  omega
/-- A number of four bytes is taken. -/
theorem tail_run (ho : Oct b) (g : Gs → Gs × List Evn) (K p : Nat) (hK : K ≠ 9) (hg : ∀ s x, s.nx = K → gst s x = g (gath x s)) (hg2 : ∀ s, s.lf ≠ 0 → g s = (s, [])) (h : Rch b p s T) (h0 : s.why = 0) (hn : s.nx = K) (hl : s.lf = 4) (hw : s.wh = false) (hb : s.nb < 4294967296) : (b.length < p + 4 ∧ Jz b T 1 b.length) ∨ (p + 4 ≤ b.length ∧ ∃ s', s' = { s with lf := 0, nb := le4 b p } ∧ Rch b (p + 4) (g s').1 (T ++ evs (p + 3) (g s').2)) := by
  have cut : ∀ (q : Nat) (s1 : Gs), Rch b q s1 T → s1.why = 0 → s1.wh = false → ¬ q < b.length → Jz b T 1 b.length := fun q s1 hr h1 h2 hq => ⟨by decide, q, s1, hr, Or.inl ⟨h1, h2, by have := hr.1; omega, rfl, rfl⟩⟩
  have stepn : ∀ (q x : Nat) (s1 : Gs), Rch b q s1 T → s1.why = 0 → s1.nx = K → s1.lf - 1 ≠ 0 → b[q]? = some x → Rch b (q + 1) (gath x s1) T := fun q x s1 hr h1 h2 h3 hx => by
    have e : gst s1 x = (gath x s1, []) := (hg s1 x h2).trans (hg2 _ h3)
    have := hr.step h1 hx (s1 := gath x s1) (E := []) (Or.inr ⟨by rw [h2]; exact hK, by rw [e], by rw [e]⟩)
    simpa [evs] using this
  by_cases c0 : p < b.length
  · obtain ⟨x0, e0⟩ : ∃ x, b[p]? = some x := ⟨_, List.getElem?_eq_getElem c0⟩
    have r1 := stepn p x0 s h h0 hn (by omega) e0
    by_cases c1 : p + 1 < b.length
    · obtain ⟨x1, e1⟩ : ∃ x, b[p + 1]? = some x := ⟨_, List.getElem?_eq_getElem c1⟩
      have r2 := stepn (p + 1) x1 _ r1 h0 hn (by show s.lf - 1 - 1 ≠ 0; omega) e1
      by_cases c2 : p + 2 < b.length
      · obtain ⟨x2, e2⟩ : ∃ x, b[p + 2]? = some x := ⟨_, List.getElem?_eq_getElem c2⟩
        have r3 := stepn (p + 2) x2 _ r2 h0 hn (by show s.lf - 1 - 1 - 1 ≠ 0; omega) e2
        by_cases c3 : p + 3 < b.length
        · obtain ⟨x3, e3⟩ : ∃ x, b[p + 3]? = some x := ⟨_, List.getElem?_eq_getElem c3⟩
          have o0 := ho x0 (List.mem_of_getElem? e0)
          have o1 := ho x1 (List.mem_of_getElem? e1)
          have o2 := ho x2 (List.mem_of_getElem? e2)
          have o3 := ho x3 (List.mem_of_getElem? e3)
          have eg : gst (gath x2 (gath x1 (gath x0 s))) x3 = g (gath x3 (gath x2 (gath x1 (gath x0 s)))) := hg _ _ hn
          have es : gath x3 (gath x2 (gath x1 (gath x0 s))) = { s with lf := 0, nb := le4 b p } := by
            have en : (((s.nb / 256 + x0 * 16777216) / 256 + x1 * 16777216) / 256 + x2 * 16777216) / 256 + x3 * 16777216 = le4 b p := by rw [le4_at e0 e1 e2 e3]; omega
            show { s with lf := s.lf - 1 - 1 - 1 - 1, nb := (((s.nb / 256 + x0 * 16777216) / 256 + x1 * 16777216) / 256 + x2 * 16777216) / 256 + x3 * 16777216 } = _
            rw [en, hl]
          have r4 := r3.step h0 e3 (s1 := (g { s with lf := 0, nb := le4 b p }).1) (E := (g { s with lf := 0, nb := le4 b p }).2) (Or.inr ⟨by show s.nx ≠ 9; rw [hn]; exact hK, by rw [eg, es], by rw [eg, es]⟩)
          exact Or.inr ⟨c3, _, rfl, r4⟩
        · exact Or.inl ⟨by omega, cut (p + 3) _ r3 h0 hw c3⟩
      · exact Or.inl ⟨by omega, cut (p + 2) _ r2 h0 hw c2⟩
    · exact Or.inl ⟨by omega, cut (p + 1) _ r1 h0 hw c1⟩
  · exact Or.inl ⟨by omega, cut p s h h0 hw c0⟩
end
/-- How many bytes were told. -/
def nby : List Gev → Nat
  | [] => 0
  | e :: T => (if e.2.1 < 256 then 1 else 0) + nby T
theorem nby_append : ∀ (T U : List Gev), nby (T ++ U) = nby T + nby U
  | [], U => by simp [nby]
  | e :: T, U => by show _ + nby (T ++ U) = _ + nby T + nby U; rw [nby_append T U]; omega
theorem nby_tells {p : Nat} {z : Cfg} (ho : Oct z.out) (hl : z.times.length = z.out.length) : nby (gtells p z) = z.out.length := by
  obtain ⟨st, pos, out, times⟩ := z
  unfold gtells
  simp only at ho hl ⊢
  clear st pos
  induction out generalizing times with
  | nil => simp [nby]
  | cons a o ih =>
    cases times with
    | nil => simp at hl
    | cons t ts =>
      have h1 := ih ts (fun x hx => ho x (List.mem_cons_of_mem _ hx)) (by simpa using hl)
      have h2 := ho a (List.mem_cons_self ..)
      simp only [List.zipWith_cons_cons, nby, if_pos h2, List.length_cons, h1]
      omega
/-- A member: what the document's run makes of it, the inflater's run being z. -/
def mtail (b : List Nat) (z : Cfg) (r : Gr) : Gr :=
  if (gnum b 4 r).why = 0 ∧ gval b 4 r ≠ sm 0 z.out then gstop 44 ((gnum b 4 r).pos - 1) (gnum b 4 r) else gnum b 4 r
def msize (b : List Nat) (z : Cfg) (r : Gr) : Gr :=
  if (gnum b 4 r).why = 0 ∧ gval b 4 r ≠ z.out.length % 4294967296 then gstop 45 ((gnum b 4 r).pos - 1) (gnum b 4 r) else gnum b 4 r
def mclose (r : Gr) : Gr := if r.why = 0 then { r with ev := r.ev ++ [(r.pos - 1, 257, [])] } else r
def mdata (b : List Nat) (n : List Nat) (z : Cfg) (r : Gr) : Gr := { r with ev := r.ev ++ [(r.pos - 1, 256, n)] ++ gtells r.pos z, left := r.left - z.out.length }
def mrest (b : List Nat) (z : Cfg) (r : Gr) : Gr := if (mtail b z r).why = 0 then mclose (msize b z (mtail b z r)) else mtail b z r
def gmemb (b : List Nat) (r : Gr) (z : Cfg) : Gr :=
  if (ghead b r).1.why = 0 then
    (if endC z then mrest b z { mdata b (ghead b r).2 z (ghead b r).1 with pos := (ghead b r).1.pos + atC (b.length - (ghead b r).1.pos) z + 1 }
     else gstop (whyC z) (min ((ghead b r).1.pos + atC (b.length - (ghead b r).1.pos) z) b.length) (mdata b (ghead b r).2 z (ghead b r).1))
  else (ghead b r).1
/-- Too much was asked for. -/
def Jx (b : List Nat) (r : Gr) : Prop := r.why = 62 ∧ r.left = 0 ∧ ∃ k s T x U, Rch b k s T ∧ T.map (fun e => e.2) = r.ev.map (fun e => e.2) ++ (x, []) :: U ∧ x < 256
/-- Behind a member. -/
structure Sb (b : List Nat) (r : Gr) (s : Gs) : Prop where
  why : r.why = 0
  rch : Rch b r.pos s r.ev
  sw : s.why = 0
  nx : s.nx = 12
  wh : s.wh = true
  nm : s.nm = []
  nb : s.nb < 4294967296
theorem gval4 {b : List Nat} {r : Gr} (h : r.pos + 4 ≤ b.length) : gval b 4 r = le4 b r.pos := by unfold gval le4; rw [if_neg (by omega)]
theorem le4_lt {b : List Nat} (ho : Oct b) (p : Nat) : le4 b p < 4294967296 := by
  have h1 := le_lt ((b.drop p).take 4) (fun x hx => ho x (List.mem_of_mem_drop (List.mem_of_mem_take hx)))
  have h2 : ((b.drop p).take 4).length ≤ 4 := by rw [List.length_take]; omega
  have h3 : 256 ^ ((b.drop p).take 4).length ≤ 256 ^ 4 := Nat.pow_le_pow_right (by decide) h2
  unfold le4
  omega
section
variable {b : List Nat} {r : Gr} {s : Gs} {n : List Nat} {z : Cfg}
theorem mtail_cut (h : b.length < r.pos + 4) : mtail b z r = gstop 1 b.length r := by
  unfold mtail
  rw [gnum_cut h]
  exact if_neg (fun q => by have := q.1; simp [gstop] at this)
theorem mtail_at (h : r.pos + 4 ≤ b.length) (hy : r.why = 0) : mtail b z r = if le4 b r.pos = sm 0 z.out then { r with pos := r.pos + 4 } else gstop 44 (r.pos + 4 - 1) { r with pos := r.pos + 4 } := by
  unfold mtail
  rw [gnum_go h, gval4 h]
  by_cases e : le4 b r.pos = sm 0 z.out
  · rw [if_pos e, if_neg (fun q => q.2 e)]
  · rw [if_neg e, if_pos ⟨hy, e⟩]
theorem msize_cut (h : b.length < r.pos + 4) : msize b z r = gstop 1 b.length r := by
  unfold msize
  rw [gnum_cut h]
  exact if_neg (fun q => by have := q.1; simp [gstop] at this)
theorem msize_at (h : r.pos + 4 ≤ b.length) (hy : r.why = 0) : msize b z r = if le4 b r.pos = z.out.length % 4294967296 then { r with pos := r.pos + 4 } else gstop 45 (r.pos + 4 - 1) { r with pos := r.pos + 4 } := by
  unfold msize
  rw [gnum_go h, gval4 h]
  by_cases e : le4 b r.pos = z.out.length % 4294967296
  · rw [if_pos e, if_neg (fun q => q.2 e)]
  · rw [if_neg e, if_pos ⟨hy, e⟩]
theorem rest_ok (ho : Oct b) (h : Rch b r.pos s r.ev) (hy : r.why = 0) (h0 : s.why = 0) (hn : s.nx = 10) (hl : s.lf = 4) (hw : s.wh = false) (hb : s.nb < 4294967296) (hs : s.sm = sm 0 z.out) (hgv : s.gv = z.out.length) (hnm : s.nm = []) : (∃ s1, Sb b (mrest b z r) s1) ∨ Js b (mrest b z r) := by
  unfold mrest
  rcases tail_run ho gdsm 10 r.pos (by decide) (fun s x e => by unfold gst; rw [e]; rfl) (fun s e => by unfold gdsm; rw [if_neg e]) h h0 hn hl hw hb with ⟨q1, q2⟩ | ⟨q1, s', q2, q3⟩
  · rw [mtail_cut q1, if_neg (by simp [gstop])]
    exact Or.inr q2
  · rw [mtail_at q1 hy]
    have e1 : gdsm s' = if le4 b r.pos = sm 0 z.out then ({ s' with nx := 11, lf := 4 }, []) else (gbad 44 s', []) := by
      unfold gdsm
      rw [if_pos (by rw [q2]), show s'.nb = le4 b r.pos by rw [q2], show s'.sm = sm 0 z.out by rw [q2]; exact hs]
    by_cases hm : le4 b r.pos = sm 0 z.out
    · rw [if_pos hm] at e1
      rw [if_pos hm, if_pos hy]
      rw [e1] at q3
      have q4 : Rch b (r.pos + 4) { s' with nx := 11, lf := 4 } r.ev := by simpa [evs] using q3
      rcases tail_run (s := { s' with nx := 11, lf := 4 }) ho gdsz 11 (r.pos + 4) (by decide) (fun s x e => by unfold gst; rw [e]; rfl) (fun s e => by unfold gdsz; rw [if_neg e]) q4 (by rw [q2]; exact h0) rfl rfl (by rw [q2]; exact hw) (by rw [q2]; exact le4_lt ho _) with ⟨p1, p2⟩ | ⟨p1, s2, p2, p3⟩
      · rw [msize_cut (r := { r with pos := r.pos + 4 }) p1]
        unfold mclose
        rw [if_neg (by simp [gstop])]
        exact Or.inr p2
      · rw [msize_at (r := { r with pos := r.pos + 4 }) p1 hy]
        have e2 : gdsz s2 = if le4 b (r.pos + 4) = z.out.length % 4294967296 then ({ s2 with wh := true, nx := 12 }, [(257, [])]) else (gbad 45 s2, []) := by
          unfold gdsz
          rw [if_pos (by rw [p2]), show s2.nb = le4 b (r.pos + 4) by rw [p2], show s2.gv = z.out.length by rw [p2, q2]; exact hgv]
        by_cases hz : le4 b (r.pos + 4) = z.out.length % 4294967296
        · rw [if_pos hz] at e2
          rw [if_pos hz]
          unfold mclose
          rw [if_pos hy]
          rw [e2] at p3
          refine Or.inl ⟨{ s2 with wh := true, nx := 12 }, hy, ?_, by rw [p2, q2]; exact h0, rfl, rfl, by rw [p2, q2]; exact hnm, by rw [p2]; exact le4_lt ho _⟩
          show Rch b (r.pos + 4 + 4) _ (r.ev ++ [(r.pos + 4 + 4 - 1, 257, [])])
          rw [show r.pos + 4 + 4 - 1 = r.pos + 4 + 3 by omega]
          exact p3
        · rw [if_neg hz] at e2
          rw [if_neg hz]
          unfold mclose
          rw [if_neg (by simp [gstop])]
          rw [e2] at p3
          exact Or.inr ⟨by show (45 : Nat) ≠ 0; decide, r.pos + 4 + 4, gbad 45 s2, by simpa [evs, gstop] using p3, Or.inr ⟨rfl, by show r.pos + 4 + 4 = r.pos + 4 + 4 - 1 + 1; omega⟩⟩
    · rw [if_neg hm] at e1
      rw [if_neg hm, if_neg (by simp [gstop])]
      rw [e1] at q3
      exact Or.inr ⟨by show (44 : Nat) ≠ 0; decide, r.pos + 4, gbad 44 s', by simpa [evs, gstop] using q3, Or.inr ⟨rfl, by show r.pos + 4 = r.pos + 4 - 1 + 1; omega⟩⟩
theorem tells_snd (p : Nat) (z : Cfg) (hl : z.times.length = z.out.length) : (gtells p z).map (fun e => e.2) = z.out.map fun x => (x, []) := by
  obtain ⟨st, pos, out, times⟩ := z
  unfold gtells
  simp only at hl ⊢
  clear st pos
  induction out generalizing times with
  | nil => simp
  | cons a o ih =>
    cases times with
    | nil => simp at hl
    | cons t ts => simp only [List.zipWith_cons_cons, List.map_cons]; rw [ih ts (by simpa using hl)]
theorem bad_nz {D : List Nat} {N k : Nat} (h : Stands D N z) (e : z.st = .bad k) : k ≠ 0 := by
  have := stands_bad h e
  omega
theorem memb_ok (ho : Oct b) (h : Sp0 b r s) (hz : (ghead b r).1.why = 0 → Stands (b.drop (ghead b r).1.pos) (ghead b r).1.left z) (hN : (ghead b r).1.left < MM) : (∃ s1, Sb b (gmemb b r z) s1) ∨ Js b (gmemb b r z) ∨ Jx b (gmemb b r z) := by
  unfold gmemb
  rcases h.head ho with ⟨s1, q⟩ | q
  · rw [if_pos q.why]
    have hz := hz q.why
    obtain ⟨rh, hrh⟩ : ∃ rh, (ghead b r).1 = rh := ⟨_, rfl⟩
    obtain ⟨nm, hnm⟩ : ∃ nm, (ghead b r).2 = nm := ⟨_, rfl⟩
    rw [hrh] at q hz hN ⊢
    rw [hnm] at q ⊢
    clear hrh hnm h
    have hpl := q.rch.1
    obtain ⟨D, hD⟩ : ∃ D, b.drop rh.pos = D := ⟨_, rfl⟩
    have hDl : D.length = b.length - rh.pos := by rw [← hD, List.length_drop]
    have run := data_run q
    rw [hD] at hz run
    rw [← hDl]
    by_cases h62 : z.st = .bad 62
    · -- too much
      obtain ⟨k, k1, k2, k3, k4, k5⟩ := over_first hz (Or.inr ⟨62, h62⟩)
      obtain ⟨b1, b2, b3⟩ := bad_c3 h62
      rw [if_neg (by rw [b1]; decide)]
      have hno : ∀ j, j < k + 1 → ∀ y, Stands (D.take j) MM y → ¬ Over y := by
        intro j hj y hy
        obtain ⟨e, he⟩ := stands_ex (D.take j) rh.left
        have ne := k3 j (by omega) e he
        rcases hy.fewer he (Nat.le_of_lt hN) with ⟨q1, _⟩ | ⟨q1, _⟩
        · exact absurd (Or.inr ⟨62, q1⟩) ne
        · rw [← q1]; exact ne
      obtain ⟨y, y1, y2⟩ := run (k + 1) (by omega) hno
      rcases y1.fewer k2 (Nat.le_of_lt hN) with ⟨_, q2, q3, _⟩ | ⟨q1, q2⟩
      · refine Or.inr (Or.inr ⟨b3, ?_, rh.pos + (k + 1), _, _, y.out[rh.left], (y.out.drop (rh.left + 1)).map (fun x => (x, [])), y2, ?_, ?_⟩)
        · show rh.left - z.out.length = 0
          rw [q2, List.length_take]; omega
        · show _ = List.map _ (rh.ev ++ [(rh.pos - 1, 256, nm)] ++ gtells rh.pos z) ++ _
          rw [List.map_append (l₂ := gtells rh.pos y), List.map_append (l₂ := gtells rh.pos z), tells_snd _ y y1.tl, tells_snd _ z hz.tl, q2, List.append_assoc]
          congr 1
          have e : y.out = y.out.take rh.left ++ y.out[rh.left] :: y.out.drop (rh.left + 1) := by rw [← List.drop_eq_getElem_cons q3, List.take_append_drop]
          conv => lhs; rw [e]
          rw [List.map_append, List.map_cons]
        · exact y1.oct _ (List.getElem_mem _)
      · exfalso
        rw [q1] at h62
        exact stands_62 y1 (by omega) h62
    · have hzM : Stands D MM z := by
        rcases runs_more hz.1 (Nat.le_of_lt hN) with ⟨e, _⟩ | e
        · exact absurd e h62
        · exact ⟨e, step_none_most hz.2⟩
      by_cases hov : Over z
      · obtain ⟨k, k1, k2, k3, k4, k5⟩ := over_first hzM hov
        obtain ⟨y, y1, y2⟩ := run (k + 1) (by omega) (fun j hj => k3 j (by omega))
        have := y1.one k2
        subst this
        have hat : atC D.length y = k := over_at hov k4 k5
        rw [hat]
        rcases hov with e | ⟨w, e⟩
        · obtain ⟨b1, b2, b3⟩ := done_c3 e
          rw [if_pos b1]
          rcases rest_ok (r := { mdata b nm y rh with pos := rh.pos + k + 1 }) (z := y) ho y2 q.why b2 (by show (if endC y then 10 else 9) = 10; rw [b1]; rfl) (by show (if endC y then 4 else s1.lf) = 4; rw [b1]; rfl) q.wh q.nb rfl rfl q.nm with p | p
          · exact Or.inl p
          · exact Or.inr (Or.inl p)
        · obtain ⟨b1, b2, b3⟩ := bad_c3 e
          rw [if_neg (by rw [b1]; decide)]
          refine Or.inr (Or.inl ⟨?_, rh.pos + (k + 1), _, y2, Or.inr ⟨b2.trans b3.symm, ?_⟩⟩)
          · show whyC y ≠ 0
            rw [b3]; exact bad_nz hz e
          · show _ = min (rh.pos + k) b.length + 1
            omega
      · obtain ⟨y, y1, y2⟩ := run D.length (Nat.le_refl _) (fun j hj y' hy' => open_all hzM hov j y' hy')
        rw [List.take_length] at y1
        have := y1.one hzM
        subst this
        obtain ⟨b1, b2, b3⟩ := open_c3 hov
        rw [if_neg (by rw [b1]; decide), (open_at hov).1, b3]
        refine Or.inr (Or.inl ⟨by show (1 : Nat) ≠ 0; decide, rh.pos + D.length, _, y2, Or.inl ⟨b2, q.wh, by omega, rfl, ?_⟩⟩)
        show min (rh.pos + D.length) b.length = b.length
        omega
  · rw [if_neg q.1]
    exact Or.inr (Or.inl q)
end
end Go.Proofs.YtogednaamndpgaaDoor

/-
  The walker's steps: dataSum, dataSize; what it asks of its inflater.
-/
namespace Go.Proofs.YtogednaamndpgaaDoor
open Go.RowKit
set_option linter.unusedVariables false
section
variable {lo hi B D b R W A : Nat} {n I : List Nat} {cf : Cfg} {q : Md} {s : Gs}
/-- How the walker stands behind a step: nothing to tell, a member's beginning, or its end. -/
def Wp (w : World) (lo hi B D b R W A : Nat) (r : Gs × List Evn) : Prop := (r.2 = [] ∧ ∃ I cf q, Wk w lo hi B D b R W A (gcof r.1 none) r.1.nm I cf q) ∨ (∃ m, r.2 = [(256, m)] ∧ Wk w lo hi B D b R W A (gcof r.1 (some (256, m))) r.1.nm [] c0 .want) ∨ (r.2 = [(257, [])] ∧ ∃ I cf q, Wk w lo hi B D b R W A (gcof r.1 (some (257, []))) r.1.nm I cf q)
theorem Wo.wp {w : World} {r : Gs × List Evn} (h : Wo w lo hi B D b R W A r) : Wp w lo hi B D b R W A r := by
  rcases h with h | h
  · exact Or.inl h
  · exact Or.inr (Or.inl h)
set_option maxHeartbeats 1000000 in
theorem dsum_c (x : Nat) (hx : x < 256) (w : World) (hw : Wk w lo hi B D b R W A (gcof s none) s.nm I cf q) (hb : s.nb < 4294967296) (hl1 : 1 ≤ s.lf) (hl : s.lf < 1000000) : Calls Tryd.prog 19 #[.pointer (some ⟨W, 0, none⟩), .int .u8 (x : Int)] w fun e w' => e = .returned (.tuple #[]) ∧ Wp w' lo hi B D b R W A (gdsm (gath x s)) ∧ Fw lo hi w w' := by
  unfold gdsm
  by_cases hz : s.lf - 1 = 0
  · rw [if_pos (show (gath x s).lf = 0 from hz)]
    have kg := Wk.gath x hx hb hl1 hl true (decide_eq_true hz) hw
    obtain ⟨s2, hs2⟩ : ∃ s2, gath x s = s2 := ⟨_, rfl⟩
    have e2 : s2.nm = s.nm := by rw [← hs2]; rfl
    rw [hs2] at kg ⊢
    rw [← e2] at kg
    obtain ⟨m, hm⟩ : ∃ m, s2.nb = m := ⟨_, rfl⟩
    obtain ⟨v, hv⟩ : ∃ v, s2.sm = v := ⟨_, rfl⟩
    by_cases h1 : s2.nb = s2.sm
    · rw [if_pos h1]
      have t1 : ((m : Int) != (v : Int)) = false := by rw [← hm, ← hv, h1]; simp
      have kt : ∀ w, Wk w lo hi B D b R W A (gcof s2 none) s2.nm I cf q → Calls Tryd.prog 18 #[.pointer (some ⟨W, 0, none⟩), .func (.func 27) #[.pointer (some ⟨W, 0, none⟩)] #[], .int .i64 4] w _ := fun w h => h.then_ 27 4 w
      clear hw hb hl1 hl hx hz hs2 e2 h1
      go_enter Tryd.func19, Tryd.ntmps19
      go_upto_region 1 with (go_at_call 26; refine kg.mono ?_; rintro e2 w2 ⟨rfl, h2, f2⟩)
      have d6 : w2.cell? ⟨W, 6, none⟩ = some (.int .u32 (v : Int)) := by rw [← hv]; exact h2.wc.a6
      have d5 : w2.cell? ⟨W, 5, none⟩ = some (.int .u32 (m : Int)) := by rw [← hm]; exact h2.wc.a5
      have A2 : Aside (Wk w2 lo hi B D b R W A (gcof s2 none) s2.nm I cf q ∧ Fw lo hi w w2) := ⟨h2, f2⟩
      clear h2 f2 kg hm hv
      go_quiet (fail)
      go_wp2_with (go_at_call 18; refine (kt _ (A2.out.1.drewN _)).mono ?_; rintro e4 w4 ⟨rfl, h4, f4⟩)
      first | go_end0 | (refine bodyPost_ret (results_none rfl _ _ _) rfl ?_)
      exact ⟨rfl, Or.inl ⟨rfl, I, cf, q, h4⟩, (A2.out.2.trans (Fw.drewN w2 _)).trans f4⟩
    · rw [if_neg h1]
      have t1 : ((m : Int) != (v : Int)) = true := by rw [bne_iff_ne, ← hm, ← hv]; omega
      clear hw hb hl1 hl hx hz hs2 e2 h1
      go_enter Tryd.func19, Tryd.ntmps19
      go_upto_region 1 with (go_at_call 26; refine kg.mono ?_; rintro e2 w2 ⟨rfl, h2, f2⟩)
      have d6 : w2.cell? ⟨W, 6, none⟩ = some (.int .u32 (v : Int)) := by rw [← hv]; exact h2.wc.a6
      have d5 : w2.cell? ⟨W, 5, none⟩ = some (.int .u32 (m : Int)) := by rw [← hm]; exact h2.wc.a5
      have d15 := h2.wc.a15
      have z15 := h2.wc.fz 15
      have A2 : Aside (Wk w2 lo hi B D b R W A (gcof s2 none) s2.nm I cf q ∧ Fw lo hi w w2) := ⟨h2, f2⟩
      clear h2 f2 kg hm hv
      go_quiet (fail)
      go_wp2_with fail
      first | go_end0 | (refine bodyPost_ret (results_none rfl _ _ _) rfl ?_)
      exact ⟨rfl, Or.inl ⟨rfl, I, cf, q, ((A2.out.1.drewN _).bad 44).1⟩, (A2.out.2.trans (Fw.drewN w2 _)).trans ((A2.out.1.drewN _).bad 44).2⟩
  · rw [if_neg (show ¬ (gath x s).lf = 0 from hz)]
    have kg := Wk.gath x hx hb hl1 hl false (decide_eq_false hz) hw
    clear hw hb hl1 hl hx hz
    go_enter Tryd.func19, Tryd.ntmps19
    go_wp2_with (go_at_call 26; refine kg.mono ?_; rintro e2 w2 ⟨rfl, h2, f2⟩)
    first | go_end0 | (refine bodyPost_ret (results_none rfl _ _ _) rfl ?_)
    exact ⟨rfl, Or.inl ⟨rfl, I, cf, q, h2⟩, f2⟩
theorem Wk.close {w : World} (h : Wk w lo hi B D b R W A (gcof s none) s.nm I cf q) : Wk (((((((w.setCell ⟨W, 8, none⟩ (.int .i64 3)).setCell ⟨W, 9, none⟩ (.int .u8 0)).setCell ⟨W, 10, none⟩ (.int .i64 0)).setCell ⟨W, 11, none⟩ (.int .i64 0)).setCell ⟨W, 12, none⟩ (.string ⟨#[]⟩)).setCell ⟨W, 13, none⟩ (.bool true)).setCell ⟨W, 1, none⟩ (fnv W 30)) lo hi B D b R W A (gcof { s with wh := true, nx := 12 } (some (257, []))) s.nm I cf q ∧ Fw lo hi w (((((((w.setCell ⟨W, 8, none⟩ (.int .i64 3)).setCell ⟨W, 9, none⟩ (.int .u8 0)).setCell ⟨W, 10, none⟩ (.int .i64 0)).setCell ⟨W, 11, none⟩ (.int .i64 0)).setCell ⟨W, 12, none⟩ (.string ⟨#[]⟩)).setCell ⟨W, 13, none⟩ (.bool true)).setCell ⟨W, 1, none⟩ (fnv W 30)) := by
  have o : Only W w (((((((w.setCell ⟨W, 8, none⟩ (.int .i64 3)).setCell ⟨W, 9, none⟩ (.int .u8 0)).setCell ⟨W, 10, none⟩ (.int .i64 0)).setCell ⟨W, 11, none⟩ (.int .i64 0)).setCell ⟨W, 12, none⟩ (.string ⟨#[]⟩)).setCell ⟨W, 13, none⟩ (.bool true)).setCell ⟨W, 1, none⟩ (fnv W 30)) := ((only5 W w _ _ _ _ _).setCell 13 _).setCell 1 _
  exact ⟨h.set o (((h.wc.sev (some (257, []))).s13 true).s1 30) rfl, h.fw o⟩
set_option maxHeartbeats 1000000 in
theorem dsize_c (x : Nat) (hx : x < 256) (w : World) (hw : Wk w lo hi B D b R W A (gcof s none) s.nm I cf q) (hb : s.nb < 4294967296) (hl1 : 1 ≤ s.lf) (hl : s.lf < 1000000) : Calls Tryd.prog 27 #[.pointer (some ⟨W, 0, none⟩), .int .u8 (x : Int)] w fun e w' => e = .returned (.tuple #[]) ∧ Wp w' lo hi B D b R W A (gdsz (gath x s)) ∧ Fw lo hi w w' := by
  unfold gdsz
  by_cases hz : s.lf - 1 = 0
  · rw [if_pos (show (gath x s).lf = 0 from hz)]
    have kg := Wk.gath x hx hb hl1 hl true (decide_eq_true hz) hw
    obtain ⟨s2, hs2⟩ : ∃ s2, gath x s = s2 := ⟨_, rfl⟩
    have e2 : s2.nm = s.nm := by rw [← hs2]; rfl
    rw [hs2] at kg ⊢
    rw [← e2] at kg
    obtain ⟨m, hm⟩ : ∃ m, s2.nb = m := ⟨_, rfl⟩
    obtain ⟨v, hv⟩ : ∃ v, s2.gv % 4294967296 = v := ⟨_, rfl⟩
    by_cases h1 : s2.nb = s2.gv % 4294967296
    · rw [if_pos h1]
      have t1 : ((m : Int) != (v : Int)) = false := by rw [← hm, ← hv, h1]; simp
      clear hw hb hl1 hl hx hz hs2 e2 h1
      go_enter Tryd.func27, Tryd.ntmps27
      go_upto_region 1 with (go_at_call 26; refine kg.mono ?_; rintro e2 w2 ⟨rfl, h2, f2⟩)
      have d7 : w2.cell? ⟨W, 7, none⟩ = some (.int .u32 (v : Int)) := by rw [← hv]; exact h2.wc.a7
      have d5 : w2.cell? ⟨W, 5, none⟩ = some (.int .u32 (m : Int)) := by rw [← hm]; exact h2.wc.a5
      have c8 := h2.wc.a8
      have c9 := h2.wc.a9
      have c10 := h2.wc.a10
      have c11 := h2.wc.a11
      have c12 := h2.wc.a12
      have c13 := h2.wc.a13
      have c1 := h2.wc.a1
      have z8 := h2.wc.fz 8
      have z9 := h2.wc.fz 9
      have z10 := h2.wc.fz 10
      have z11 := h2.wc.fz 11
      have z12 := h2.wc.fz 12
      have z13 := h2.wc.fz 13
      have z1 := h2.wc.fz 1
      have A2 : Aside (Wk w2 lo hi B D b R W A (gcof s2 none) s2.nm I cf q ∧ Fw lo hi w w2) := ⟨h2, f2⟩
      clear h2 f2 kg hm hv
      go_quiet (fail)
      go_wp2_with fail
      first | go_end0 | (refine bodyPost_ret (results_none rfl _ _ _) rfl ?_)
      exact ⟨rfl, Or.inr (Or.inr ⟨rfl, I, cf, q, (A2.out.1.drewN _).close.1⟩), (A2.out.2.trans (Fw.drewN w2 _)).trans (A2.out.1.drewN _).close.2⟩
    · rw [if_neg h1]
      have t1 : ((m : Int) != (v : Int)) = true := by rw [bne_iff_ne, ← hm, ← hv]; omega
      clear hw hb hl1 hl hx hz hs2 e2 h1
      go_enter Tryd.func27, Tryd.ntmps27
      go_upto_region 1 with (go_at_call 26; refine kg.mono ?_; rintro e2 w2 ⟨rfl, h2, f2⟩)
      have d7 : w2.cell? ⟨W, 7, none⟩ = some (.int .u32 (v : Int)) := by rw [← hv]; exact h2.wc.a7
      have d5 : w2.cell? ⟨W, 5, none⟩ = some (.int .u32 (m : Int)) := by rw [← hm]; exact h2.wc.a5
      have d15 := h2.wc.a15
      have z15 := h2.wc.fz 15
      have A2 : Aside (Wk w2 lo hi B D b R W A (gcof s2 none) s2.nm I cf q ∧ Fw lo hi w w2) := ⟨h2, f2⟩
      clear h2 f2 kg hm hv
      go_quiet (fail)
      go_wp2_with fail
      first | go_end0 | (refine bodyPost_ret (results_none rfl _ _ _) rfl ?_)
      exact ⟨rfl, Or.inl ⟨rfl, I, cf, q, ((A2.out.1.drewN _).bad 45).1⟩, (A2.out.2.trans (Fw.drewN w2 _)).trans ((A2.out.1.drewN _).bad 45).2⟩
  · rw [if_neg (show ¬ (gath x s).lf = 0 from hz)]
    have kg := Wk.gath x hx hb hl1 hl false (decide_eq_false hz) hw
    clear hw hb hl1 hl hx hz
    go_enter Tryd.func27, Tryd.ntmps27
    go_wp2_with (go_at_call 26; refine kg.mono ?_; rintro e2 w2 ⟨rfl, h2, f2⟩)
    first | go_end0 | (refine bodyPost_ret (results_none rfl _ _ _) rfl ?_)
    exact ⟨rfl, Or.inl ⟨rfl, I, cf, q, h2⟩, f2⟩
end
end Go.Proofs.YtogednaamndpgaaDoor

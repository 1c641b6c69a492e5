/-
  TarSteps' walk.
-/
import Derived.Test.YtcmmjbkgoafbnaaDoorMn
import Derived.Test.YtcmmjbkgoafbnaaDoorOofB
import Derived.Test.YtcmmjbkgoafbnaaDoorAwk
import Derived.Deep.RegionWith
namespace Go.Proofs.YtcmmjbkgoafbnaaDoor
open Go.RowKit
set_option linter.unusedVariables false
section
variable {W : Nat} {s : Ts} {E : List Evn}
theorem ci_put (x : Nat) (hx : x < 256) (w : World) (hz : Wz w W s E) : ∃ v s1 E1, Calls Tryd.prog 9 #[.pointer (some ⟨W, 0, none⟩), .int .u8 (x : Int)] w fun e w' => e = .returned (.bool v) ∧ Wz w' W s1 E1 ∧ But W w w' := by
  by_cases hn : E ≠ [] ∨ s.why ≠ 0
  · exact ⟨false, s, E, (wz_put_no x w hz hn).mono fun e w' ⟨k1, k2⟩ => by subst k2; exact ⟨k1, hz, But.refl _ _⟩⟩
  · have hE : E = [] := by by_cases q : E = []; exact q; exact absurd (Or.inl q) hn
    have h0 : s.why = 0 := by by_cases q : s.why = 0; exact q; exact absurd (Or.inr q) hn
    subst hE
    exact ⟨true, _, _, wz_put x hx w hz h0 ⟨rfl, rfl⟩⟩
/-- Timed events stay where a walker works. -/
theorem te_fw {w : World} {lo2 : Nat} {v : Value} {T : List Gev} (h : Ow w lo2 75 6 v T.length (gcs T)) (hl : W < lo2) : ∃ a c, v = .slice a T.length c ∧ ∀ u, But W w u → Te u a T := by
  obtain ⟨a, c, hv, ht, _⟩ := te_of h
  obtain ⟨a2, c2, hv2, _, h0 | ⟨g, hg, hlo, _, hx, _⟩, _⟩ := h.shape
  · exact ⟨a, c, hv, fun u _ => Or.inl (List.eq_nil_of_length_eq_zero h0)⟩
  · refine ⟨a, c, hv, fun u hu => ?_⟩
    rw [hv] at hv2
    injection hv2 with e1 e2 e3
    rcases ht with e | ⟨g', o, ha, hc⟩
    · exact Or.inl e
    · refine Or.inr ⟨g', o, ha, fun i p hp => ?_⟩
      have hgg : g' = g := by
        rw [ha, hg] at e1
        injection e1 with e1
        injection e1
      have f : ∀ {n : Nat} {v : Value}, w.cell? ⟨g', n, none⟩ = some v → u.cell? ⟨g', n, none⟩ = some v := fun {n v} hq => by
        have hl := World.block_lt_of_cell? w _ hq
        rw [← hq]
        unfold World.cell?
        rw [hu.block g' hl (by omega)]
      obtain ⟨h0, h1, h2, h3, h4, h5⟩ := hc i p hp
      exact ⟨f h0, f h1, f h2, f h3, f h4, f h5⟩
/-- The walker when it has ended. -/
structure Wx (w : World) (W : Nat) (y : Nat) : Prop where
  ex : ∃ s2 v2, Wm w W s2 v2 ∧ s2.why = y ∧ v2.ek = 0 ∧ vop s2 v2 = false
theorem Wx.below {w u : World} {y C : Nat} (h : Wx w W y) (k : Below C w u) (hC : W < C) : Wx u W y := by
  obtain ⟨s2, v2, h1, h2⟩ := h.ex
  exact ⟨⟨s2, v2, h1.below k hC, h2⟩⟩
theorem Wx.lt {w : World} {y : Nat} (h : Wx w W y) : W < w.heap.size := by
  obtain ⟨s2, v2, h1, _⟩ := h.ex
  exact h1.lt
theorem wx_reason {y : Nat} (w : World) (h : Wx w W y) : Calls Tryd.prog 13 #[.pointer (some ⟨W, 0, none⟩)] w fun e w' => e = .returned (.int .i64 (y : Int)) ∧ w = w' := by
  obtain ⟨s2, v2, h1, rfl, _⟩ := h.ex
  exact reason_c w h1
theorem wx_put {y : Nat} (x : Nat) (w : World) (h : Wx w W y) : Calls Tryd.prog 9 #[.pointer (some ⟨W, 0, none⟩), .int .u8 (x : Int)] w fun e w' => e = .returned (.bool false) ∧ w = w' := by
  obtain ⟨s2, v2, h1, _, _, h4⟩ := h.ex
  exact (put_no x w h1 h4).mono fun e w' k => ⟨k.1, k.2.symm⟩
theorem wx_next {y : Nat} (w : World) (h : Wx w W y) : Calls Tryd.prog 15 #[.pointer (some ⟨W, 0, none⟩)] w fun e w' => e = .returned (.tuple #[.agg ev0, .bool false]) ∧ Wx w' W y ∧ Below w.heap.size w w' := by
  obtain ⟨s2, v2, h1, h2, h3, h4⟩ := h.ex
  exact (next_no w h1 h3).mono fun e w' k => ⟨k.1, h.below k.2 h1.lt, k.2⟩
/-- What a round of TarSteps does. -/
structure Rdf (W : Nat) (x : List Nat) (r : Dr) (k : Nat) (i n xi : Nat) (op : Bool) (s1 : Ts) (E : List Evn) (wr : World) : Prop where
  put : Calls Tryd.prog 9 #[.pointer (some ⟨W, 0, none⟩), .int .u8 (xi : Int)] wr fun e w' => e = .returned (.bool op) ∧ Wz w' W s1 E ∧ But W wr w'
  op_ : op = decide (r.why = 0 ∨ i ≤ r.sat)
  si : Si x r k (i + 1) (n + E.length) s1
  tn : Tn r.ev i n E
  why : s1.why ≠ 0 ↔ (r.why ≠ 0 ∧ r.sat ≤ i)
  sil : E = [] ∨ s1.why = 0
theorem round_facts {x : List Nat} {r : Dr} {k : Nat} {s si : Ts} {i n xi : Nat} {wr : World} (ho : Oct x) (f : Fr2 x r k s) (h : Si x r k i n si) (hz : Wz wr W si []) (hx : x[i]? = some xi) : ∃ op s1 E, Rdf W x r k i n xi op s1 E wr := by
  have hi' : i < x.length := (List.getElem?_eq_some_iff.1 hx).1
  have hop := f.open_ hi'
  by_cases hk : i < k
  · obtain ⟨h0, _, xj, s1, E, q1, q2, q3, q4, _, q5⟩ := h.step f hk
    rw [hx] at q1
    cases q1
    refine ⟨true, s1, E, wz_put xi (ho xi (List.mem_of_getElem? hx)) wr hz h0 q2, ?_, q3, q4, q5, q2.tells h0⟩
    exact (decide_eq_true (hop.1 hk)).symm
  · obtain ⟨rfl, rfl, q3, q4⟩ := h.over f hk
    have hs : si.why ≠ 0 ∧ r.why ≠ 0 ∧ k = r.sat + 1 := by
      rcases f.st with ⟨_, g, _⟩ | g
      · omega
      · exact g
    refine ⟨false, si, [], (wz_put_no xi wr hz (Or.inr hs.1)).mono fun e w' ⟨k1, k2⟩ => by subst k2; exact ⟨k1, hz, But.refl _ _⟩, ?_, by simpa using q3, q4, ⟨fun _ => ⟨hs.2.1, by omega⟩, fun _ => hs.1⟩, Or.inl rfl⟩
    exact (decide_eq_false (fun q => hk (hop.2 q))).symm
set_option maxRecDepth 20000 in
set_option maxHeartbeats 8000000 in
theorem steps_core (w : World) (he : Er w) (a : Option Addr) (x : List Nat) (L C : Nat) (hx : Lies w a x) (hL : x.length = L) (hLb : L ≤ 10000000000) (hC : L ≤ C) (hCb : C < 1000000000000) (hox : Oct x) (a2 : Option Addr) (cc : List Nat) (L2 C2 : Nat) (hc : Lies w a2 cc) (hL2 : cc.length = L2) (hL2b : L2 ≤ 10000000000) (hoc : Oct cc) :
    Calls Tryd.prog 3 #[.slice a L C, .slice a2 L2 C2] w fun e w' => e = .returned (.bool true) ∧ Below w.heap.size w w' := by
  obtain ⟨lo, hlo⟩ : ∃ lo, w.heap.size = lo := ⟨_, rfl⟩
  rw [hlo]
  have AQ : Aside (Lies w a x ∧ x.length = L ∧ L ≤ 10000000000 ∧ L ≤ C ∧ Oct x ∧ w.heap.size = lo ∧ C < 1000000000000) := ⟨hx, hL, hLb, hC, hox, hlo, hCb⟩
  have A2 : Aside (Lies w a2 cc ∧ cc.length = L2 ∧ L2 ≤ 10000000000 ∧ Oct cc) := ⟨hc, hL2, hL2b, hoc⟩
  have kn := wz_new w he
  have h3 := he.1
  rw [hlo] at kn h3
  have AW : Aside (∀ u, Below lo w u → Calls Tryd.prog 16 #[] u fun e w' => e = .returned (.bool true) ∧ Below u.heap.size u w') := fun u hu => by
    rw [← hlo] at hu
    exact awake_c u (he.below hu (by omega))
  clear hx hL hLb hC hCb hox hc hL2 hL2b hoc hlo h3
  go_enter Tryd.func3, Tryd.ntmps3
  go_upto_region 2 with (go_at_call 8; refine kn.mono ?_; rintro e1 w1 ⟨rfl, z1, b1⟩)
  obtain ⟨W, hW⟩ : ∃ W, lo = W := ⟨_, rfl⟩
  have z1' := z1
  have hlt := z1.lt
  have A1 : Aside (Wz w1 lo t0 [] ∧ Below lo w w1 ∧ lo ≤ w1.heap.size) := ⟨z1, b1, by omega⟩
  clear kn z1 b1 z1' hlt hW W he
  go_wp2_with fail
  go_loopg [6] L2 (fun gg s6 wr => ∃ (i : Nat), s6 = .int .i64 (i : Int) ∧ Aside (i + gg = L2 ∧ ∃ s E, Wz wr lo s E ∧ But lo w1 wr))
  case atStart => exact ⟨0, rfl, ⟨by omega, t0, [], A1.out.1, But.refl _ _⟩⟩
  case round =>
    obtain ⟨i, rfl, hT⟩ := hrel
    obtain ⟨hig, si, Ei, hz, hfw⟩ := hT.out
    have a1 := A1.out
    have a2' := A2.out
    have hbelr : Below lo w wr := a1.2.1.trans (hfw.below (Nat.le_refl _) a1.2.2)
    by_cases hi' : i < L2
    · have t1 : ((i : Int) < (L2 : Int)) = True := eq_true (by omega)
      have t2 : (i < L2) = True := eq_true hi'
      have bi : (i : Int) < 2000000000000 := by omega
      obtain ⟨g, hg⟩ : ∃ g, cc[i]? = some g := ⟨_, List.getElem?_eq_getElem (by omega)⟩
      have hg8 : g < 256 := a2'.2.2.2 g (List.mem_of_getElem? hg)
      rcases a2'.1.below (by rw [AQ.out.2.2.2.2.2.1]; exact hbelr) with e | ⟨ba, oa, rfl, hca⟩
      · rw [e] at hg; simp at hg
      have cg := hca i g hg
      obtain ⟨v, s1, E1, hput⟩ := ci_put g hg8 wr hz
      have AN : Aside (i + gk = L2 ∧ i < L2 ∧ But lo w1 wr) := ⟨hig, hi', hfw⟩
      clear hT hig hz hfw a1 a2' hi' hg hg8 hbelr hca
      go_wp2_with (go_at_call 9; refine hput.mono ?_; rintro e6 w6 ⟨rfl, z6, f6⟩)
      have an := AN.out
      go_roundg (gk - 1)
      case measure => omega
      case rel => exact ⟨i + 1, by go_num, ⟨by omega, s1, E1, z6, an.2.2.trans f6⟩⟩
    · have t1 : ((i : Int) < (L2 : Int)) = False := eq_false (by omega)
      have t2 : (i < L2) = False := eq_false hi'
      have hres := wz_reset wr hz
      have AR : Aside (But lo w1 wr ∧ lo < wr.heap.size) := ⟨hfw, hz.lt⟩
      clear hT hig hz hfw a1 a2' hi' hbelr
      go_upto_region 9 with (go_at_call 10; refine hres.mono ?_; rintro e6 w6 ⟨rfl, z6, f6⟩)
      have b16 : Below lo w w6 := A1.out.2.1.trans ((AR.out.1.trans f6).below (Nat.le_refl _) A1.out.2.2)
      have a0 := AQ.out
      have hof := of_c w6 a0.2.2.2.2.1 a0.2.1 a0.2.2.1 a0.2.2.2.1 a0.2.2.2.2.2.2 (a0.1.below (by rw [a0.2.2.2.2.2.1]; exact b16))
      have A6 : Aside (Wz w6 lo t0 [] ∧ Below lo w w6 ∧ lo < w6.heap.size) := ⟨z6, b16, z6.lt⟩
      clear hres z6 f6 t1 t2 AR b16 a0
      go_upto_region 10 with (go_at_call 11; refine hof.mono ?_; intro e4 w4 hr4; obtain ⟨r, v4, he4, hfo, hle, how4, b4⟩ := hr4.ex; unfold dcs at he4; subst he4; obtain ⟨a4, c4, hv4, hte4⟩ := te_fw (W := lo) how4 A6.out.2.2; obtain ⟨nT, hnT⟩ : ∃ nT, r.ev.length = nT := ⟨_, rfl⟩; rw [hnT] at hv4; subst hv4)
      obtain ⟨F, hF⟩ : ∃ F, w4.heap.size = F := ⟨_, rfl⟩
      obtain ⟨y, hy⟩ : ∃ y : Int, (r.why : Int) = y := ⟨_, rfl⟩
      obtain ⟨sa, hsa⟩ : ∃ sa : Int, (r.sat : Int) = sa := ⟨_, rfl⟩
      rw [hy, hsa, hF]
      obtain ⟨w5, hw5⟩ : ∃ w5, w4.alloc (.cells #[.slice a4 nT c4, .int .i64 y, .int .i64 sa, .string (st r.nm), .bool r.nd, .int .u64 (r.sz : Int), .bool r.sd, .bool r.sp] 29) = w5 := ⟨_, rfl⟩
      rw [hw5]
      have b5 : Below w4.heap.size w4 w5 := by rw [← hw5]; exact (Below.refl _ w4).alloc (Nat.le_refl _) _
      have kF : Cells w5 F #[.slice a4 nT c4, .int .i64 y, .int .i64 sa, .string (st r.nm), .bool r.nd, .int .u64 (r.sz : Int), .bool r.sd, .bool r.sp] 29 := by rw [← hw5, ← hF]; exact Cells.new w4 _ 29
      have a6 := A6.out
      have a0 := AQ.out
      have b65 : Below w6.heap.size w6 w5 := b4.trans (b5.mono b4.size)
      have hn9 : nT ≤ 100000000000 := by omega
      have bel5 : Below lo w w5 := a6.2.1.trans (b65.mono (Nat.le_of_lt a6.2.2))
      have A5 : Aside (lo < F ∧ (∀ u, But lo w5 u → Te u a4 r.ev) ∧ Cells w5 F #[.slice a4 nT c4, .int .i64 y, .int .i64 sa, .string (st r.nm), .bool r.nd, .int .u64 (r.sz : Int), .bool r.sd, .bool r.sp] 29 ∧ Wz w5 lo t0 [] ∧ Below lo w w5 ∧ r.ev.length = nT ∧ nT ≤ 100000000000 ∧ lo ≤ w5.heap.size ∧ Fo x r.ev r.why r.sat ∧ (r.why : Int) = y ∧ (r.sat : Int) = sa) :=
        ⟨by have := b4.size; omega, fun u hu => hte4 u ((But.of_below b5).trans hu), kF, a6.1.below b65 (Nat.le_refl _), bel5, hnT, hn9, by have := b65.size; omega, hfo, hy, hsa⟩
      clear hof hr4 how4 b4 hte4 hnT hF hw5 b5 kF a6 a0 b65 hn9 bel5 hfo hle
      obtain ⟨k, s, hf⟩ := A5.out.2.2.2.2.2.2.2.2.1.run
      have AF : Aside (Fr2 x r k s) := hf
      clear hf hy hsa
      go_wp2_with fail
      go_loopg [8, 9, 10] L (fun gg s8 s9 s10 wr => ∃ (i n : Nat), s8 = .int .i64 (n : Int) ∧ s9 = .bool true ∧ s10 = .int .i64 (i : Int) ∧ Aside (i + gg = L ∧ ∃ si, Si x r k i n si ∧ Wz wr lo si [] ∧ But lo w5 wr))
      case atStart => exact ⟨0, 0, rfl, rfl, rfl, ⟨by omega, t0, Si.start x r k, A5.out.2.2.2.1, But.refl _ _⟩⟩
      case round =>
        obtain ⟨i, n, rfl, rfl, rfl, hT⟩ := hrel
        obtain ⟨hig, si, hsi, hz, hfw⟩ := hT.out
        have a5 := A5.out
        have a0 := AQ.out
        have hbelr : Below lo w wr := a5.2.2.2.2.1.trans (hfw.below (Nat.le_refl _) a5.2.2.2.2.2.2.2.1)
        have kFr := hfw.cells a5.2.2.1 (Nat.ne_of_gt a5.1)
        by_cases hi' : i < L
        · have t1 : ((i : Int) < (L : Int)) = True := eq_true (by omega)
          have t2 : (i < L) = True := eq_true hi'
          have bi : (i : Int) < 2000000000000 := by omega
          obtain ⟨g, hg⟩ : ∃ g, x[i]? = some g := ⟨_, List.getElem?_eq_getElem (by omega)⟩
          rcases a0.1.below (by rw [a0.2.2.2.2.2.1]; exact hbelr) with e | ⟨ba, oa, rfl, hca⟩
          · rw [e] at hg; simp at hg
          have cg := hca i g hg
          obtain ⟨op, s1, E, hrd⟩ := round_facts a0.2.2.2.2.1 AF.out hsi hz hg
          obtain ⟨n1, hn1⟩ : ∃ n1, n + E.length = n1 := ⟨_, rfl⟩
          obtain ⟨qi, hqi⟩ : ∃ qi : Int, (s1.why : Int) = qi := ⟨_, rfl⟩
          have hput := hrd.put
          have hafter : ∀ w2, Wz w2 lo s1 E → But lo wr w2 → w2.cell? ⟨F, 0, none⟩ = some (.slice a4 nT c4) ∧ Calls Tryd.prog 12 #[.pointer (some ⟨lo, 0, none⟩), .slice a4 nT c4, .int .i64 (n : Int), .int .i64 (i : Int)] w2 fun e w' => Tla lo s1 n1 w2 e w' := fun w2 h2 o2 => by
            have f2 : But lo w5 w2 := hfw.trans o2
            have kF2 := f2.cells a5.2.2.1 (Nat.ne_of_gt a5.1)
            refine ⟨(kF2.cell 0).trans rfl, ?_⟩
            exact tells_c a4 r.ev nT c4 i n n1 E w2 a5.2.2.2.2.2.1 (by have := a5.2.2.2.2.2.2.1; omega) (by have := a0.2.2.1; omega) (fun u hu => a5.2.1 u (f2.trans hu)) ⟨h2, But.refl _ _, hrd.tn, hn1, hrd.sil⟩
          have AT : Aside _ := hafter
          have hrea : ∀ w2 w3, But lo wr w2 → Wz w3 lo s1 [] → But lo w2 w3 → (∀ m, Calls Tryd.prog 13 #[.pointer (some ⟨lo, 0, none⟩)] (w3.drewN m) fun e w' => e = .returned (.int .i64 qi) ∧ w' = w3.drewN m) ∧ w3.cell? ⟨F, 1, none⟩ = some (.int .i64 y) ∧ w3.cell? ⟨F, 2, none⟩ = some (.int .i64 sa) := fun w2 w3 h2 h3 h4 => by
            have f2 : But lo w5 w3 := (hfw.trans h2).trans h4
            have kF2 := f2.cells a5.2.2.1 (Nat.ne_of_gt a5.1)
            refine ⟨fun m => ?_, (kF2.cell 1).trans rfl, (kF2.cell 2).trans rfl⟩
            have := wz_reason (w3.drewN m) (h3.below (Below.drewN2 (Below.refl _ w3) _) (Nat.le_refl _))
            rw [hqi] at this
            exact this.mono fun e w' k => ⟨k.1, k.2.symm⟩
          have AE : Aside _ := hrea
          have AN : Aside (i + gk = L ∧ i < L ∧ Si x r k (i + 1) n1 s1 ∧ But lo w5 wr) := ⟨hig, hi', by rw [← hn1]; exact hrd.si, hfw⟩
          have e1 : wr.cell? ⟨F, 1, none⟩ = some (.int .i64 y) := (kFr.cell 1).trans rfl
          have e2 : wr.cell? ⟨F, 2, none⟩ = some (.int .i64 sa) := (kFr.cell 2).trans rfl
          have hop := hrd.op_
          have hwhy := hrd.why
          have hyy := a5.2.2.2.2.2.2.2.2.2.1
          have hss := a5.2.2.2.2.2.2.2.2.2.2
          have hcases : (r.why = 0) ∨ (r.why ≠ 0 ∧ r.sat < i) ∨ (r.why ≠ 0 ∧ r.sat = i) ∨ (r.why ≠ 0 ∧ i < r.sat) := by omega
          clear hT hig hsi hz hfw a5 a0 hbelr hg hca hn1 hafter hrea hi' hrd kFr
          rcases hcases with hq | hq | hq | hq
          · have eop : op = true := by rw [hop]; exact decide_eq_true (by omega)
            have e3 : (y == 0) = true := by rw [beq_iff_eq]; omega
            have e4 : (y != 0) = false := by rw [bne_eq_false_iff_eq]; omega
            have e5 : (qi != 0) = false := by rw [bne_eq_false_iff_eq]; omega
            subst eop
            clear hop hwhy hyy hss hq hqi
            go_upto_region 18 with (first | (go_at_call 9; refine hput.mono ?_; rintro e6 w6 ⟨rfl, h6, o6⟩; obtain ⟨d0, htl⟩ := AT.out w6 h6 o6) | (go_at_call 12; refine htl.mono ?_; intro e7 w7 h7; obtain ⟨he7, h8, b8⟩ := h7.ex; subst he7; obtain ⟨hre, f1, f2⟩ := AE.out w6 w7 o6 h8 b8))
            have A7 : Aside (Wz w7 lo s1 [] ∧ But lo wr w7) := ⟨h8, o6.trans b8⟩
            clear h6 o6 h8 b8 h7 htl hput AT AE d0 e1 e2 cg t1 t2
            go_quiet ((go_at_call 13; refine Calls.quiet_of_same (hre _)))
            go_wp2_with fail
            have an := AN.out
            go_roundg (gk - 1)
            case measure => omega
            case rel => exact ⟨i + 1, n1, rfl, rfl, by go_num, ⟨by omega, s1, an.2.2.1, A7.out.1.below (Below.drewN2 (Below.refl _ w7) _) (Nat.le_refl _), (an.2.2.2.trans A7.out.2).trans (But.of_below (Below.drewN2 (Below.refl _ w7) _))⟩⟩
          · have eop : op = false := by rw [hop]; exact decide_eq_false (by omega)
            have e3 : (y == 0) = false := by rw [beq_eq_false_iff_ne]; omega
            have e4 : (y != 0) = true := by rw [bne_iff_ne]; omega
            have e5 : (qi != 0) = true := by rw [bne_iff_ne]; omega
            have e6 : (sa ≥ (i : Int)) = False := eq_false (by omega)
            have e7 : ((i : Int) ≤ sa) = False := eq_false (by omega)
            have e8 : (sa ≤ (i : Int)) = True := eq_true (by omega)
            subst eop
            clear hop hwhy hyy hss hq hqi
            go_upto_region 18 with (first | (go_at_call 9; refine hput.mono ?_; rintro e6 w6 ⟨rfl, h6, o6⟩; obtain ⟨d0, htl⟩ := AT.out w6 h6 o6) | (go_at_call 12; refine htl.mono ?_; intro e7 w7 h7; obtain ⟨he7, h8, b8⟩ := h7.ex; subst he7; obtain ⟨hre, f1, f2⟩ := AE.out w6 w7 o6 h8 b8))
            have A7 : Aside (Wz w7 lo s1 [] ∧ But lo wr w7) := ⟨h8, o6.trans b8⟩
            clear h6 o6 h8 b8 h7 htl hput AT AE d0 e1 e2 cg t1 t2
            go_quiet ((go_at_call 13; refine Calls.quiet_of_same (hre _)))
            go_wp2_with fail
            have an := AN.out
            go_roundg (gk - 1)
            case measure => omega
            case rel => exact ⟨i + 1, n1, rfl, rfl, by go_num, ⟨by omega, s1, an.2.2.1, A7.out.1.below (Below.drewN2 (Below.refl _ w7) _) (Nat.le_refl _), (an.2.2.2.trans A7.out.2).trans (But.of_below (Below.drewN2 (Below.refl _ w7) _))⟩⟩
          · have eop : op = true := by rw [hop]; exact decide_eq_true (by omega)
            have e3 : (y == 0) = false := by rw [beq_eq_false_iff_ne]; omega
            have e4 : (y != 0) = true := by rw [bne_iff_ne]; omega
            have e5 : (qi != 0) = true := by rw [bne_iff_ne]; omega
            have e6 : (sa ≥ (i : Int)) = True := eq_true (by omega)
            have e7 : ((i : Int) ≤ sa) = True := eq_true (by omega)
            have e8 : (sa ≤ (i : Int)) = True := eq_true (by omega)
            subst eop
            clear hop hwhy hyy hss hq hqi
            go_upto_region 18 with (first | (go_at_call 9; refine hput.mono ?_; rintro e6 w6 ⟨rfl, h6, o6⟩; obtain ⟨d0, htl⟩ := AT.out w6 h6 o6) | (go_at_call 12; refine htl.mono ?_; intro e7 w7 h7; obtain ⟨he7, h8, b8⟩ := h7.ex; subst he7; obtain ⟨hre, f1, f2⟩ := AE.out w6 w7 o6 h8 b8))
            have A7 : Aside (Wz w7 lo s1 [] ∧ But lo wr w7) := ⟨h8, o6.trans b8⟩
            clear h6 o6 h8 b8 h7 htl hput AT AE d0 e1 e2 cg t1 t2
            go_quiet ((go_at_call 13; refine Calls.quiet_of_same (hre _)))
            go_wp2_with fail
            have an := AN.out
            go_roundg (gk - 1)
            case measure => omega
            case rel => exact ⟨i + 1, n1, rfl, rfl, by go_num, ⟨by omega, s1, an.2.2.1, A7.out.1.below (Below.drewN2 (Below.refl _ w7) _) (Nat.le_refl _), (an.2.2.2.trans A7.out.2).trans (But.of_below (Below.drewN2 (Below.refl _ w7) _))⟩⟩
          · have eop : op = true := by rw [hop]; exact decide_eq_true (by omega)
            have e3 : (y == 0) = false := by rw [beq_eq_false_iff_ne]; omega
            have e4 : (y != 0) = true := by rw [bne_iff_ne]; omega
            have e5 : (qi != 0) = false := by rw [bne_eq_false_iff_eq]; omega
            have e6 : (sa ≥ (i : Int)) = True := eq_true (by omega)
            have e7 : ((i : Int) ≤ sa) = True := eq_true (by omega)
            have e8 : (sa ≤ (i : Int)) = False := eq_false (by omega)
            subst eop
            clear hop hwhy hyy hss hq hqi
            go_upto_region 18 with (first | (go_at_call 9; refine hput.mono ?_; rintro e6 w6 ⟨rfl, h6, o6⟩; obtain ⟨d0, htl⟩ := AT.out w6 h6 o6) | (go_at_call 12; refine htl.mono ?_; intro e7 w7 h7; obtain ⟨he7, h8, b8⟩ := h7.ex; subst he7; obtain ⟨hre, f1, f2⟩ := AE.out w6 w7 o6 h8 b8))
            have A7 : Aside (Wz w7 lo s1 [] ∧ But lo wr w7) := ⟨h8, o6.trans b8⟩
            clear h6 o6 h8 b8 h7 htl hput AT AE d0 e1 e2 cg t1 t2
            go_quiet ((go_at_call 13; refine Calls.quiet_of_same (hre _)))
            go_wp2_with fail
            have an := AN.out
            go_roundg (gk - 1)
            case measure => omega
            case rel => exact ⟨i + 1, n1, rfl, rfl, by go_num, ⟨by omega, s1, an.2.2.1, A7.out.1.below (Below.drewN2 (Below.refl _ w7) _) (Nat.le_refl _), (an.2.2.2.trans A7.out.2).trans (But.of_below (Below.drewN2 (Below.refl _ w7) _))⟩⟩
        · have t1 : ((i : Int) < (L : Int)) = False := eq_false (by omega)
          have t2 : (i < L) = False := eq_false hi'
          have hkL := AF.out.rch.1
          obtain ⟨rfl, rfl, _, _⟩ := hsi.over AF.out (by omega)
          have hend := wz_end wr hz
          have hfin : ((zfin si : Nat) : Int) = y := by rw [AF.out.fin]; exact a5.2.2.2.2.2.2.2.2.2.1
          obtain ⟨yn, hyn⟩ : ∃ yn, zfin si = yn := ⟨_, rfl⟩
          rw [hyn] at hend hfin
          obtain ⟨N', hN'⟩ : ∃ N' : Nat, r.ev.length = N' := ⟨_, rfl⟩
          have hNn : N' = nT := by rw [← hN']; exact a5.2.2.2.2.2.1
          have AN : Aside (But lo w5 wr ∧ N' = nT ∧ ((yn : Nat) : Int) = y) := ⟨hfw, hNn, hfin⟩
          rw [hN']
          clear hT hig hsi hz hfw a5 a0 hbelr kFr hi' hkL hN' hyn hfin
          subst hNn
          go_upto_region 21 with (go_at_call 14; refine hend.mono ?_; rintro e6 w6 ⟨rfl, z6, f6⟩)
          have hnx : Calls Tryd.prog 15 #[.pointer (some ⟨lo, 0, none⟩)] w6 fun e w' => e = .returned (.tuple #[.agg #[.int .i64 0, .int .u8 0, .int .i64 0, .int .i64 0, .string ⟨#[]⟩], .bool false]) ∧ Wx w' lo yn ∧ Below w6.heap.size w6 w' := wx_next w6 ⟨z6⟩
          have A6 : Aside (But lo w5 w6) := AN.out.1.trans f6
          clear hend z6 f6 t1 t2
          go_upto_region 22 with (go_at_call 15; refine hnx.mono ?_; rintro e7 w7 ⟨rfl, z7, b7⟩)
          obtain ⟨E1, hE⟩ : ∃ E1, w7.heap.size = E1 := ⟨_, rfl⟩
          obtain ⟨w8, hw8⟩ : ∃ w8, w7.alloc (.cells #[.int .i64 0, .int .u8 0, .int .i64 0, .int .i64 0, .string ⟨#[]⟩] 36) = w8 := ⟨_, rfl⟩
          rw [hw8, hE]
          have b8 : Below w7.heap.size w7 w8 := by rw [← hw8]; exact (Below.refl _ w7).alloc (Nat.le_refl _) _
          have z8 := z7.below b8 z7.lt
          have f8 : But lo w5 w8 := (A6.out.trans (But.of_below b7)).trans (But.of_below b8)
          have k8 := f8.cells A5.out.2.2.1 (Nat.ne_of_gt A5.out.1)
          have d0 : w8.cell? ⟨F, 0, none⟩ = some (.slice a4 N' c4) := (k8.cell 0).trans rfl
          have d1 : w8.cell? ⟨F, 1, none⟩ = some (.int .i64 y) := (k8.cell 1).trans rfl
          have bel8 : Below lo w w8 := A5.out.2.2.2.2.1.trans (f8.below (Nat.le_refl _) A5.out.2.2.2.2.2.2.2.1)
          have A8 : Aside (Below lo w w8 ∧ lo ≤ w8.heap.size) := ⟨bel8, by have := f8.size; have := A5.out.2.2.2.2.2.2.2.1; omega⟩
          have z8d : Wx w8.drew lo yn := z8.below (Below.drewN2 (Below.refl _ w8) 1) z8.lt
          have hre : Calls Tryd.prog 13 #[.pointer (some ⟨lo, 0, none⟩)] w8.drew fun e w' => e = .returned (.int .i64 y) ∧ w8.drew = w' := by
            have := wx_reason w8.drew z8d
            rw [AN.out.2.2] at this
            exact this
          have hpu : Calls Tryd.prog 9 #[.pointer (some ⟨lo, 0, none⟩), .int .u8 0] w8.drew fun e w' => e = .returned (.bool false) ∧ w8.drew = w' := wx_put 0 w8.drew z8d
          have ha := AW.out w8.drew (Below.drewN2 bel8 1)
          have hYtcmmjbkgoafbnaaDoor : ((N' : Int) == (N' : Int)) = true := by simp
          have hYY : (y == y) = true := by simp
          clear hnx z7 b7 hE hw8 b8 z8 f8 k8 bel8 z8d
          go_region_with (first | (go_at_call 13; refine hre.mono ?_; rintro e10 w10 ⟨rfl, rfl⟩) | (go_at_call 9; refine hpu.mono ?_; rintro e11 w11 ⟨rfl, rfl⟩) | (go_at_call 16; refine ha.mono ?_; rintro e12 w12 ⟨rfl, b12⟩))
          all_goals go_wp2_with fail
          all_goals first | go_ret | go_ret2
          all_goals exact ⟨rfl, (A8.out.1.trans (Below.drewN2 (Below.refl lo w8) 1)).trans (b12.mono A8.out.2)⟩
end
end Go.Proofs.YtcmmjbkgoafbnaaDoor

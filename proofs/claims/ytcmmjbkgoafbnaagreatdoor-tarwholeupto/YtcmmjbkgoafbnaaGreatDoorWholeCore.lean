/-
  TarWhole's walk.
-/
import Derived.Test.YtcmmjbkgoafbnaaGreatDoorMc
import Derived.Test.YtcmmjbkgoafbnaaGreatDoorOof
namespace Go.Proofs.YtcmmjbkgoafbnaaGreatDoor
open Go.RowKit
set_option linter.unusedVariables false
/-- A run of the machine over as many bytes as it takes. -/
theorem rch_any (b : List Nat) : ∀ j, j ≤ b.length → ∃ k s T, Rch b k s T ∧ (s.why ≠ 0 ∨ k = j)
  | 0, _ => ⟨0, t0, [], rch_zero b, Or.inr rfl⟩
  | j + 1, h => by
    obtain ⟨k, s, T, h1, h2⟩ := rch_any b j (by omega)
    by_cases h0 : s.why = 0
    · rcases h2 with q | rfl
      · exact absurd h0 q
      · exact ⟨k + 1, _, _, h1.step h0 (List.getElem?_eq_getElem (by omega)) ⟨rfl, rfl⟩, Or.inr rfl⟩
    · exact ⟨k, s, T, h1, Or.inl h0⟩
theorem rch_one {b : List Nat} {k k' : Nat} {s s' : Ts} {T T' : List Gev} (h : Rch b k s T) (hk : s.why ≠ 0 ∨ k = b.length) (h' : Rch b k' s' T') (hk' : s'.why ≠ 0 ∨ k' = b.length) : k = k' ∧ s = s' ∧ T = T' := by
  rcases Nat.lt_trichotomy k k' with q | q | q
  · exfalso
    have h0 := (h'.at h q).1
    rcases hk with e | e
    · exact e h0
    · have := h'.1; omega
  · subst q
    obtain ⟨rfl, rfl⟩ := h.det h'
    exact ⟨rfl, rfl, rfl⟩
  · exfalso
    have h0 := (h.at h' q).1
    rcases hk' with e | e
    · exact e h0
    · have := h.1; omega
/-- What Of says, of the machine's run. -/
theorem Fo.same {b : List Nat} {r : Dr} {k : Nat} {s : Ts} {T : List Gev} (h : Fo b r.ev r.why r.sat) (hr : Rch b k s T) (hk : s.why ≠ 0 ∨ k = b.length) : r.ev = T ∧ r.why = zfin s := by
  obtain ⟨k', s', q, q1⟩ := h.ex
  have hk' : s'.why ≠ 0 ∨ k' = b.length := by
    rcases q1 with q1 | q1
    · exact Or.inl q1.1
    · exact Or.inr q1.2.1
  obtain ⟨rfl, rfl, e⟩ := rch_one hr hk q hk'
  refine ⟨e.symm, ?_⟩
  rcases q1 with ⟨q1, q2, _⟩ | ⟨_, _, q2, _⟩
  · unfold zfin; rw [if_pos q1]; exact q2
  · exact q2
/-- What Whole answers. -/
structure Whl (ns ls : List (List Nat)) (y : Nat) (u : World) (e : Ending) (u' : World) : Prop where
  ex : ∃ an n cn al m cl, e = .returned (.tuple #[.slice an n cn, .slice al m cl, .int .i64 (y : Int)]) ∧ ns.length = n ∧ ls.length = m ∧ Nl u' an ns ∧ Rl u' al ls ∧ Below u.heap.size u u'
theorem Wr0.whl {ns ls : List (List Nat)} {y : Nat} {u u' : World} {e : Ending} (h : Wr0 (ns, ls) y u e u') : Whl ns ls y u e u' := by
  obtain ⟨vn, vl, lo2, rfl, _, h2, h3, h4⟩ := h.ex
  obtain ⟨an, cn, rfl, _, q1, _⟩ := h2.nl
  obtain ⟨al, cl, rfl, _⟩ := h3.shape
  exact ⟨an, _, cn, al, _, cl, rfl, rfl, rfl, q1, h3.rl rfl, h4⟩
theorem po_len : ∀ (ls : List (List Nat)) (c : List Nat), (po ls c).length ≤ ls.length + c.length
  | ls, [] => Nat.le_refl _
  | ls, g :: r => by
    simp only [po]
    split
    · have := po_len (ls ++ [[]]) r; simp at this ⊢; omega
    · split
      · have := po_len ls r; rw [List.length_cons]; omega
      · have := po_len (ls.dropLast ++ [ls.getLastD [] ++ [g]]) r; simp at this ⊢; omega
theorem po_oct : ∀ (ls : List (List Nat)) (c : List Nat), (∀ g ∈ c, g < 258) → (∀ l ∈ ls, Oct l) → ∀ l ∈ po ls c, Oct l
  | ls, [], _, h, l, hl => h l hl
  | ls, g :: r, hc, h, l, hl => by
    have hr : ∀ g ∈ r, g < 258 := fun x hx => hc x (List.mem_cons_of_mem _ hx)
    simp only [po] at hl
    split at hl
    · refine po_oct _ r hr (fun m hm => ?_) l hl
      rcases List.mem_append.1 hm with q | q
      · exact h m q
      · simp at q; subst q; intro x hx; simp at hx
    · rename_i n1
      split at hl
      · exact po_oct _ r hr h l hl
      · rename_i n2
        refine po_oct _ r hr (fun m hm => ?_) l hl
        rcases List.mem_append.1 hm with q | q
        · exact h m (List.dropLast_subset _ q)
        · simp at q
          subst q
          have hg := hc g (by simp)
          have hlast : Oct (ls.getLast?.getD []) := by
            cases hq : ls.getLast? with
            | none => intro x hx; simp at hx
            | some z => exact h z (List.mem_of_getLast? hq)
          exact Oct.app hlast (show Oct [g] from fun x hx => by rw [List.mem_singleton.1 hx]; omega)
theorem nms_len : ∀ (ns : List (List Nat)) (E : List Evn), (nms ns E).length ≤ ns.length + E.length
  | ns, [] => Nat.le_refl _
  | ns, e :: r => by
    simp only [nms]
    split
    · have := nms_len (ns ++ [e.2]) r; simp at this ⊢; omega
    · have := nms_len ns r; rw [List.length_cons]; omega
set_option maxRecDepth 20000 in
set_option maxHeartbeats 4000000 in
theorem whole_core (w : World) (he : Er w) (a : Option Addr) (x : List Nat) (L C : Nat) (hx : Lies w a x) (hL : x.length = L) (hLb : L ≤ 10000000000) (hC : L ≤ C) (hCb : C < 1000000000000) (hox : Oct x) (haz : a = none → L = 0 ∧ C = 0) :
    Calls Tryz.prog 3 #[.slice a L C] w fun e w' => e = .returned (.bool true) ∧ Below w.heap.size w w' := by
  obtain ⟨B, hB⟩ : ∃ B, w.heap.size = B := ⟨_, rfl⟩
  have h3 := he.1
  have AW : Aside (∀ u, Below B w u → Calls Tryz.prog 11 #[] u fun e w' => e = .returned (.bool true) ∧ Below u.heap.size u w') := fun u hu => by
    rw [← hB] at hu
    exact awake_c u (he.below hu (by omega))
  rw [hB] at h3
  rw [hB]
  have hob0 : Ow (w.alloc (.cells #[] 5)) B 5 1 (.slice (some ⟨w.heap.size, 0, none⟩) 0 0) 0 (ob []) := Ow.made (by omega)
  have b0 : Below w.heap.size w (w.alloc (.cells #[] 5)) := (Below.refl _ w).alloc (Nat.le_refl _) _
  have hl0 := lies_ob (hx.below b0)
  rw [hB] at hob0 b0
  obtain ⟨i0, hi, hz0, hz1, hz2⟩ := ginfo_parts ginfo5
  obtain ⟨k, s, T, hr, hk⟩ := rch_any x x.length (Nat.le_refl _)
  obtain ⟨NS, hNS⟩ : ∃ NS, nms [] (evx T) = NS := ⟨_, rfl⟩
  obtain ⟨LS, hLS⟩ : ∃ LS, po [] (cds T) = LS := ⟨_, rfl⟩
  have hpo : po2 [] [] (evx T) = (NS, LS) := by rw [po2_two, hNS, cds_evx, hLS]
  obtain ⟨y, hy⟩ : ∃ y, zfin s = y := ⟨_, rfl⟩
  have A : Aside (Lies w a x ∧ x.length = L ∧ L ≤ 10000000000 ∧ L ≤ C ∧ Oct x ∧ w.heap.size = B ∧ Below B w (w.alloc (.cells #[] 5)) ∧ (∀ u, Below B w u → Er u) ∧ C < 1000000000000 ∧ 3 ≤ B) := ⟨hx, hL, hLb, hC, hox, hB, b0, fun u hu => he.below (show Below w.heap.size w u by rw [hB]; exact hu) (by omega), hCb, h3⟩
  have AM : Aside (Rch x k s T ∧ (s.why ≠ 0 ∨ k = x.length) ∧ po2 [] [] (evx T) = (NS, LS) ∧ zfin s = y ∧ nms [] (evx T) = NS ∧ po [] (cds T) = LS) := ⟨hr, hk, hpo, hy, hNS, hLS⟩
  have AZ : Aside ((a = none → L = 0 ∧ C = 0) ∧ (ob x).length = L * 1 ∧ 0 + L ≤ maxLen ∧ (0 + L) * 1 ≤ 140737488355328) := ⟨haz, by rw [ob_length]; omega, by unfold maxLen; omega, by omega⟩
  have h1c : ∀ u ∈ ob x, u.oneCell' = true := ob_one
  clear hx hLb haz b0 hL hC hox he hr hk hpo hNS hLS hy hCb h3
  go_enter Tryz.func3, Tryz.ntmps3
  go_upto_region 2 with (at_builtin; refine wpList_ow Tryz.prog _ rfl (.tmp 8) (.tmp 9) 22 rfl 5 i0 _ 1 1 Tryz.underlying22 hi hz0 hz1 hz2 rfl (by decide) B (.slice (some ⟨B, 0, none⟩) 0 0) 0 _ (by rfl) hob0 a (ob x) L C AZ.out.2.1 (by rfl) AZ.out.1 hl0 h1c AZ.out.2.2.1 AZ.out.2.2.2 ?_; intro v1 w1 hgot)
  have a0 := A.out
  have am := AM.out
  have bel1 : Below B w w1 := a0.2.2.2.2.2.2.1.trans hgot.bel
  have how1 := hgot.ow
  rw [ob_append, List.nil_append, Nat.zero_add] at how1
  have hs1 := how1.le
  obtain ⟨va, vc, hv, _, hvc, hlies1, _⟩ := how1.lies
  subst hv
  have hwh : Calls Tryz.prog 4 #[.slice va L vc] w1 fun e w' => Whl NS LS y w1 e w' :=
    (wwhole_c w1 (a0.2.2.2.2.2.2.2.1 w1 bel1) va x L vc hlies1 a0.2.1 (by omega) a0.2.2.2.2.1 k s T am.1 (by rw [← a0.2.1]; exact am.2.1) (NS, LS) am.2.2.1 y am.2.2.2.1).mono fun e w' h => h.whl
  have A1 : Aside (Below B w w1 ∧ B ≤ w1.heap.size ∧ Lies w1 va x) := ⟨bel1, hs1, hlies1⟩
  clear a0 am bel1 how1 hgot hlies1 hob0 hl0 h1c hi hz0 hz1 hz2 hB hs1 hvc
  go_upto_region 3 with (go_at_call 4; refine hwh.mono ?_; intro e2 w2 h2; obtain ⟨an, nn, cn, al, nl, cl, he2, hn2, hm2, nl2, rl2, b2⟩ := h2.ex; subst he2)
  have a0 := A.out
  have a1 := A1.out
  have bel2 : Below B w w2 := a1.1.trans (b2.mono a1.2.1)
  have hof := of_c w2 a0.2.2.2.2.1 a0.2.1 a0.2.2.1 a0.2.2.2.1 a0.2.2.2.2.2.2.2.2.1 (a0.1.below (by rw [a0.2.2.2.2.2.1]; exact bel2))
  have A2 : Aside (Below B w w2 ∧ B ≤ w2.heap.size ∧ Nl w2 an NS ∧ Rl w2 al LS ∧ Lies w2 va x ∧ NS.length = nn ∧ LS.length = nl) := ⟨bel2, by have := b2.size; omega, nl2, rl2, a1.2.2.below b2, hn2, hm2⟩
  clear hwh b2 nl2 rl2 h2 bel2 hn2 hm2 a0 a1
  go_upto_region 4 with (go_at_call 5; refine hof.mono ?_; intro e4 w4 hr4; obtain ⟨r, v4, he4, hfo, hle, how4, b4⟩ := hr4.ex; unfold dcs at he4; subst he4; obtain ⟨a4, c4, hv4, hte4, _⟩ := te_of how4; obtain ⟨nT, hnT⟩ : ∃ nT, r.ev.length = nT := ⟨_, rfl⟩; rw [hnT] at hv4; subst hv4)
  obtain ⟨F, hF⟩ : ∃ F, w4.heap.size = F := ⟨_, rfl⟩
  have am := AM.out
  obtain ⟨hre, hry⟩ := hfo.same am.1 am.2.1
  rw [am.2.2.2.1] at hry
  rw [hry, hF]
  obtain ⟨w5, hw5⟩ : ∃ w5, w4.alloc (.cells #[.slice a4 nT c4, .int .i64 (y : Int), .int .i64 (r.sat : Int), .string (st r.nm), .bool r.nd, .int .u64 (r.sz : Int), .bool r.sd, .bool r.sp] 31) = w5 := ⟨_, rfl⟩
  rw [hw5]
  have b5 : Below w4.heap.size w4 w5 := by rw [← hw5]; exact (Below.refl _ w4).alloc (Nat.le_refl _) _
  have kF : Cells w5 F #[.slice a4 nT c4, .int .i64 (y : Int), .int .i64 (r.sat : Int), .string (st r.nm), .bool r.nd, .int .u64 (r.sz : Int), .bool r.sd, .bool r.sp] 31 := by rw [← hw5, ← hF]; exact Cells.new w4 _ 31
  have a0 := A.out
  have a2' := A2.out
  have bel4 : Below B w w4 := a2'.1.trans (b4.mono a2'.2.1)
  have hs4 : B ≤ w4.heap.size := by have := b4.size; omega
  have bel5 : Below B w w5 := bel4.trans (b5.mono hs4)
  have hs5 : B ≤ w5.heap.size := by have := b5.size; omega
  have b25 : Below w2.heap.size w2 w5 := b4.trans (b5.mono b4.size)
  have hnTb : nT ≤ 30000000000 := by omega
  have hte5 : Te w5 a4 T := by rw [← hre]; exact hte4.below b5
  have hTn : T.length = nT := by rw [← hre]; exact hnT
  have hrf := am.1.rf a0.2.2.2.2.1
  have hlt : ∀ g ∈ cds T, g < 258 := fun g hg => by
    rw [← cds_evx] at hg
    obtain ⟨e, he, rfl⟩ := List.mem_map.1 hg
    exact hrf.lt e he
  have hgd : Gd false (cds T) := by rw [← cds_evx]; exact gd2_gd _ _ hrf.gd
  have hLo : ∀ l ∈ LS, Oct l := by rw [← am.2.2.2.2.2]; exact po_oct [] _ hlt (by simp)
  have hcl : (cds T).length = nT := by rw [← hTn]; simp [cds]
  have hLl : nl ≤ 100000000000 := by
    have := po_len [] (cds T)
    rw [am.2.2.2.2.2] at this
    simp at this
    have := a2'.2.2.2.2.2.2
    omega
  have hNl : nn ≤ 100000000000 := by
    have := nms_len [] (evx T)
    rw [am.2.2.2.2.1] at this
    have e : (evx T).length = nT := by rw [← hTn]; simp [evx]
    simp at this
    have := a2'.2.2.2.2.2.1
    omega
  have APt : Aside (∀ u, Below w5.heap.size w5 u → Calls Tryz.prog 9 #[.slice a4 nT c4] u fun e w' => ∃ a7 c7, e = .returned (.slice a7 nl c7) ∧ Rl w' a7 LS ∧ Below u.heap.size u w') := fun u hu => by
    have := parts_c u a4 T nT c4 hTn (hte5.below hu) hlt hgd ⟨by simp; omega, by simp⟩
    rw [am.2.2.2.2.2] at this
    refine this.mono fun e w' k => ?_
    obtain ⟨a7, n7, c7, he, l7, hn7, b7⟩ := k.ex
    have e7 : n7 = nl := hn7.trans a2'.2.2.2.2.2.2
    rw [e7] at he
    exact ⟨a7, c7, he, l7.rl hn7, b7⟩
  have hnm : Calls Tryz.prog 7 #[.slice a4 nT c4] w5 fun e w' => ∃ a6 c6, e = .returned (.slice a6 nn c6) ∧ Nl w' a6 NS ∧ Below w5.heap.size w5 w' := by
    have := names_c w5 a4 T nT c4 hTn hte5 (by omega)
    rw [am.2.2.2.2.1] at this
    refine this.mono fun e w' k => ?_
    obtain ⟨v, rfl, h1, h2⟩ := k.ex
    obtain ⟨a6, c6, rfl, _, h3, _⟩ := h1.nl
    exact ⟨a6, c6, by rw [a2'.2.2.2.2.2.1], h3, h2⟩
  have A5 : Aside (Below B w w5 ∧ B ≤ w5.heap.size ∧ Nl w5 an NS ∧ Rl w5 al LS ∧ Lies w5 va x ∧ Lies w5 a x ∧ Cells w5 F #[.slice a4 nT c4, .int .i64 (y : Int), .int .i64 (r.sat : Int), .string (st r.nm), .bool r.nd, .int .u64 (r.sz : Int), .bool r.sd, .bool r.sp] 31 ∧ (∀ l ∈ LS, Oct l) ∧ nl ≤ 100000000000 ∧ LS.length = nl ∧ nn ≤ 100000000000 ∧ NS.length = nn) := ⟨bel5, hs5, a2'.2.2.1.below b25, a2'.2.2.2.1.below b25, a2'.2.2.2.2.1.below b25, a0.1.below (by rw [a0.2.2.2.2.2.1]; exact bel5), kF, hLo, hLl, a2'.2.2.2.2.2.2, hNl, a2'.2.2.2.2.2.1⟩
  have hYY : ((y : Int) == (y : Int)) = true := by simp
  have ASm : Aside (∀ u : World, Lies u va x → Lies u a x → Calls Tryz.prog 10 #[.slice va L vc, .slice a L C] u fun e w' => e = .returned (.bool true) ∧ ∃ n, w' = u.drewN n) := fun u h1 h2 => by
    have hd : decide (x = x) = true := decide_eq_true rfl
    have := same_c va a x x L L vc C u A.out.2.1 A.out.2.1 (by have := A.out.2.2.1; omega) h1 h2
    rw [hd] at this
    exact this
  have d0 : w5.cell? ⟨F, 0, none⟩ = some (.slice a4 nT c4) := (kF.cell 0).trans rfl
  clear hof a0 b4 how4 hte4 b5 bel5 hs5 b25 kF a2' bel4 hs4 hF hw5 hnT am hnTb hLo hLl hfo hr4 hre hry hte5 hTn hrf hlt hgd hcl hNl hle
  go_wp2_with (first
    | (go_at_call 7; refine hnm.mono ?_; rintro e6 w6 ⟨a6, c6, rfl, l6, b6⟩; have hst6 := strings_c w6 an a6 NS nn cn c6 A5.out.2.2.2.2.2.2.2.2.2.2.2 (by have := A5.out.2.2.2.2.2.2.2.2.2.2.1; omega) (A5.out.2.2.1.below b6) l6)
    | (go_at_call 6; refine hst6.mono ?_; rintro e7 w7 ⟨rfl, m7, hm7⟩; have b7 : Below w5.heap.size w5 w7 := (by rw [hm7]; exact Below.drewN2 b6 _); have k7 := Cells.below (u := w7) A5.out.2.2.2.2.2.2.1 b7 A5.out.2.2.2.2.2.2.1.lt; have d7 : w7.cell? ⟨F, 0, none⟩ = some (.slice a4 nT c4) := (k7.cell 0).trans rfl; have hpt := APt.out w7 b7; have A7 : Aside (Below w5.heap.size w5 w7) := b7; clear hm7 k7 b7)
    | (go_at_call 9; refine hpt.mono ?_; rintro e8 w8 ⟨a8, c8, rfl, l8, b8⟩; have b58 : Below w5.heap.size w5 w8 := A7.out.trans (b8.mono A7.out.size); have hrw8 := rows_c w8 al a8 LS nl cl c8 A5.out.2.2.2.2.2.2.2.2.2.1 (by have := A5.out.2.2.2.2.2.2.2.2.1; omega) (A5.out.2.2.2.1.below b58) l8 A5.out.2.2.2.2.2.2.2.1)
    | (go_at_call 8; refine hrw8.mono ?_; rintro e9 w9 ⟨rfl, m9, hm9⟩; have b59 : Below w5.heap.size w5 w9 := (by rw [hm9]; exact Below.drewN2 b58 _); have k9 := Cells.below (u := w9) A5.out.2.2.2.2.2.2.1 b59 A5.out.2.2.2.2.2.2.1.lt; have d1 : w9.cell? ⟨F, 1, none⟩ = some (.int .i64 (y : Int)) := (k9.cell 1).trans rfl; have hsm9 := ASm.out w9 (A5.out.2.2.2.2.1.below b59) (A5.out.2.2.2.2.2.1.below b59); have A9 : Aside (Below w5.heap.size w5 w9) := b59; clear hm9 k9 b59)
    | (go_at_call 10; refine hsm9.mono ?_; rintro e10 w10 ⟨rfl, m10, hm10⟩; have e10b : Below B w w10 := (by rw [hm10]; exact Below.drewN2 (A5.out.1.trans (A9.out.mono A5.out.2.1)) _); have hawk := AW.out w10 e10b; have AE : Aside (Below B w w10) := e10b; clear hm10 e10b)
    | (go_at_call 11; refine hawk.mono ?_; rintro e11 w11 ⟨rfl, b11⟩))
  first | go_ret | go_ret2
  exact ⟨rfl, AE.out.trans (b11.mono (by have := AE.out.size; have := A.out.2.2.2.2.2.1; omega))⟩
end Go.Proofs.YtcmmjbkgoafbnaaGreatDoor

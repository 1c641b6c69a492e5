/-
  HeaderBack's walk.
-/
import Derived.Test.YtmlkdpoignimaaaVld
import Derived.Test.YtmlkdpoignimaaaAsksCore
import Derived.Deep.RegionHeld3
import Derived.Laws.IdiomStrings
namespace Go.Proofs.Ytmlkdpoignimaaa
open Go.RowKit
set_option linter.unusedVariables false
def Octs (ll : List (List Nat)) : Prop := ∀ l ∈ ll, Oct l
/-- Slices of bytes that lie side by side. -/
def Rows2 (w : World) (a : Option Addr) (ll : List (List Nat)) : Prop := ll = [] ∨ ∃ (b o : Nat), a = some ⟨b, o, none⟩ ∧ ∀ (i : Nat) (l : List Nat), ll[i]? = some l → ∃ (ai : Option Addr) (ci : Nat), w.cell? ⟨b, o + i, none⟩ = some (.slice ai l.length ci) ∧ Lies w ai l
theorem Rows2.pick {w : World} {a : Option Addr} {ll : List (List Nat)} {B i : Nat} {l : List Nat} (h : Rows2 w a ll) (hB : w.heap.size = B) (hx : ll[i]? = some l) : ∃ ab ao ai ci, a = some ⟨ab, ao, none⟩ ∧ (∀ u, Below B w u → u.cell? ⟨ab, ao + i, none⟩ = some (.slice ai l.length ci)) ∧ ∀ u, Below B w u → Lies u ai l := by
  rcases h with rfl | ⟨b, o, ha, hc⟩
  · simp at hx
  · obtain ⟨ai, ci, h1, h2⟩ := hc i l hx
    refine ⟨b, o, ai, ci, ha, fun u hu => ?_, fun u hu => h2.below (by rw [hB]; exact hu)⟩
    exact (hu.cell (p := ⟨b, o + i, none⟩) (by rw [← hB]; exact World.block_lt_of_cell? w _ h1)).trans h1
/-- The law's fields. -/
def flds (nn vv : List (List Nat)) : List Fd := (List.zipWith fdo nn vv).take 64
theorem flds_good (nn vv : List (List Nat)) : Good (flds nn vv) := by
  intro f hf
  have := List.mem_of_mem_take hf
  obtain ⟨i, hi⟩ := List.getElem?_of_mem this
  rw [List.getElem?_zipWith] at hi
  cases h1 : nn[i]? with
  | none => rw [h1] at hi; simp at hi
  | some n =>
    cases h2 : vv[i]? with
    | none => rw [h1, h2] at hi; simp at hi
    | some v =>
      rw [h1, h2] at hi
      simp at hi
      rw [← hi]; exact fdo_good n v
theorem flds_len (nn vv : List (List Nat)) : (flds nn vv).length = min (min nn.length vv.length) 64 := by
  unfold flds
  rw [List.length_take, List.length_zipWith]; omega
theorem flds_get {nn vv : List (List Nat)} {i : Nat} {n v : List Nat} (h1 : nn[i]? = some n) (h2 : vv[i]? = some v) (hi : i < 64) : (flds nn vv)[i]? = some (fdo n v) := by
  unfold flds
  rw [List.getElem?_take_of_lt hi, List.getElem?_zipWith, h1, h2]
theorem fdo_oct {n v : List Nat} (hv : Oct v) : Oct (fdo n v).1 ∧ Oct (fdo n v).2 := ⟨nmd_oct _ _, (vlr_oct hv _).trm⟩
theorem flds_oct {nn vv : List (List Nat)} (hv : Octs vv) : OctF (flds nn vv) := by
  intro f hf
  have := List.mem_of_mem_take hf
  obtain ⟨i, hi⟩ := List.getElem?_of_mem this
  rw [List.getElem?_zipWith] at hi
  cases h1 : nn[i]? with
  | none => rw [h1] at hi; simp at hi
  | some n =>
    cases h2 : vv[i]? with
    | none => rw [h1, h2] at hi; simp at hi
    | some v =>
      rw [h1, h2] at hi
      simp at hi
      rw [← hi]; exact fdo_oct (hv v (List.mem_of_getElem? h2))
theorem Eol.oct {e : List Nat} (h : Eol e) : Oct e := by rcases h with rfl | rfl <;> (unfold Oct; decide)
theorem bro_oct {e V : List Nat} (he : Eol e) (hV : Oct V) : ∀ k, k ≤ V.length → Oct (bro e V k)
  | 0 => fun _ => by simp [bro, Oct]
  | k + 1 => fun hk => by
    rw [bro]
    refine ((bro_oct he hV k (by omega)).append ?_).append ?_
    · split
      · exact he.oct
      · simp [Oct]
    · intro x hx
      simp at hx
      rw [hx, List.getElem?_eq_getElem (by omega)]
      exact hV _ (List.getElem_mem _)
theorem wrs_oct {b : Bool} {e : List Nat} (he : Eol e) : ∀ (P : List Fd), OctF P → Oct (wrs b e P)
  | [] => fun _ => by simp [wrs, Oct]
  | f :: P => fun h => by
    have hw : wrs b e (f :: P) = wl b e f ++ wrs b e P := by simp [wrs]
    have hf := h f (by simp)
    rw [hw]
    refine Oct.append ?_ (wrs_oct he P fun g hg => h g (by simp [hg]))
    unfold wl
    refine ((hf.1.append (by unfold Oct; decide)).append ?_).append he.oct
    unfold wv
    split
    · exact bro_oct he hf.2 _ (Nat.le_refl _)
    · exact hf.2
/-- A string's bytes, laid anew. -/
theorem lies_str (w : World) (H : Nat) (hH : w.heap.size = H) (s : ByteArray) (cap : Nat) (fr : Nat × Nat) : Lies (w.drew.alloc (.cells (bytesRow s cap) 5 fr)) (some ⟨H, 0, none⟩) (bl s) :=
  Or.inr ⟨H, 0, rfl, fun i x hx => by
    have hi : i < s.size := by have := (List.getElem?_eq_some_iff.1 hx).1; rw [bl_length] at this; exact this
    have hd : i < s.data.size := hi
    rw [bl_get hi] at hx
    rw [Nat.zero_add, ← hH, show w.heap.size = w.drew.heap.size from rfl, World.cell?_alloc_mark]
    unfold bytesRow
    rw [Array.getElem?_append_left (by simpa using hd), Array.getElem?_map, Array.getElem?_eq_getElem hd]
    simp at hx
    rw [← hx]
    rfl⟩
theorem bro_end {e V : List Nat} {k x : Nat} (hx : V[k]? = some x) : bro e V (k + 1) = bro e V k ++ (if cutAt V k then e else []) ++ [x] := by
  rw [bro, List.getD_eq_getElem?_getD, hx]; rfl
theorem slice_one {V X1 : ByteArray} {k q : Nat} (hz : V.size = q) (hk : k < q) (he : V.extract k (k + 1) = X1) (w : World) : (Instr.slice 9 (.string V) (some (.int .i64 (k : Int))) (some (.int .i64 ((k : Int) + 1))) none).run Try.prog w = .ok (.string X1) w := by
  have hj : (0 : Int) ≤ (k : Int) + 1 ∧ (k : Int) + 1 ≤ (V.size : Int) := by omega
  have hi : (0 : Int) ≤ (k : Int) ∧ (k : Int) ≤ (k : Int) + 1 := by omega
  have e1 : ((k : Int) + 1).toNat = k + 1 := by omega
  simp [Instr.slice, Instr.sliceBounds, Instr.sliceBound, asIntOf, run_underlying Try.underlying9, hj, hi, e1, he]
theorem cut_zero (V : List Nat) : cutAt V 0 = false := rfl
theorem cut_at {V : List Nat} {j x y : Nat} (hx : V[j + 1]? = some x) (hy : V[j]? = some y) : cutAt V (j + 1) = (isB x && !isB y) := by
  unfold cutAt
  rw [List.getD_eq_getElem?_getD, List.getD_eq_getElem?_getD, Nat.add_sub_cancel, hx, hy]
  simp
set_option maxRecDepth 20000 in
set_option maxHeartbeats 2000000 in
theorem back_core (w : World) (a : Option Addr) (nn : List (List Nat)) (La Ca : Nat) (a2 : Option Addr) (vv : List (List Nat)) (Lb Cb : Nat) (κ : Nat) (hn : Rows2 w a nn) (hLa : nn.length = La) (hon : Octs nn) (hv : Rows2 w a2 vv) (hLb : vv.length = Lb) (hov : Octs vv) (hκ : κ < 256) :
    Calls Try.prog 7 #[.slice a La Ca, .slice a2 Lb Cb, .int .u8 (κ : Int)] w fun e w' => e = .returned (.bool true) ∧ Below w.heap.size w w' := by
  obtain ⟨B, hB⟩ : ∃ B, w.heap.size = B := ⟨_, rfl⟩
  obtain ⟨q2, hq2⟩ : ∃ q, κ % 2 = q := ⟨_, rfl⟩
  obtain ⟨q4, hq4⟩ : ∃ q, κ % 4 = q := ⟨_, rfl⟩
  have hmI2 : (κ : Int).tmod 2 = (q2 : Int) := by rw [Int.tmod_eq_emod_of_nonneg (by omega)]; omega
  have hmI4 : (κ : Int).tmod 4 = (q4 : Int) := by rw [Int.tmod_eq_emod_of_nonneg (by omega)]; omega
  have hqb2 : (q2 : Int) < 2 := by omega
  have hqb4 : (q4 : Int) < 4 := by omega
  obtain ⟨b, hb⟩ : ∃ b, decide (2 ≤ q4) = b := ⟨_, rfl⟩
  obtain ⟨e, he, hE⟩ : ∃ e, Eol e ∧ (e = if q2 = 1 then [10] else [13, 10]) := by
    by_cases h : q2 = 1
    · exact ⟨[10], Or.inr rfl, by rw [if_pos h]⟩
    · exact ⟨[13, 10], Or.inl rfl, by rw [if_neg h]⟩
  obtain ⟨E, hEE⟩ : ∃ E, st e = E := ⟨_, rfl⟩
  obtain ⟨P, hP⟩ : ∃ P, flds nn vv = P := ⟨_, rfl⟩
  obtain ⟨G, hG⟩ : ∃ G, P.length = G := ⟨_, rfl⟩
  have hgd := flds_good nn vv
  have hoc := flds_oct (nn := nn) hov
  have hln := flds_len nn vv
  rw [hP] at hgd hoc hln
  rw [hLa, hLb, hG] at hln
  have A : Aside (Rows2 w a nn ∧ nn.length = La ∧ Octs nn ∧ Rows2 w a2 vv ∧ vv.length = Lb ∧ Octs vv ∧ w.heap.size = B ∧ flds nn vv = P ∧ P.length = G ∧ G = min (min La Lb) 64) := ⟨hn, hLa, hon, hv, hLb, hov, hB, hP, hG, hln⟩
  have AP : Aside (Good P ∧ OctF P ∧ Eol e ∧ st e = E ∧ decide (2 ≤ q4) = b ∧ (e = if q2 = 1 then [10] else [13, 10])) := ⟨hgd, hoc, he, hEE, hb, hE⟩
  rw [hB]
  clear hn hLa hon hv hLb hov hB hP hG hln hgd hoc he hEE hb hE hq2 hq4 hκ
  go_enter Try.func7, Try.ntmps7
  go_upto_if 21 with fail
  go_cut [7] (fun s7 wc => s7 = .string E ∧ wc = w)
  case first =>
    have ap := AP.out
    by_cases h : q2 = 1
    · have t1 : ((q2 : Int) == 1) = true := by rw [beq_iff_eq]; omega
      have hE2 : E = ⟨#[10]⟩ := by rw [← ap.2.2.2.1, ap.2.2.2.2.2, if_pos h]; rfl
      clear ap h
      go_wp2_with fail
      go_meet
      exact ⟨by rw [hE2], rfl⟩
    · have t1 : ((q2 : Int) == 1) = false := by rw [beq_eq_false_iff_ne]; omega
      have hE2 : E = ⟨#[13, 10]⟩ := by rw [← ap.2.2.2.1, ap.2.2.2.2.2, if_neg h]; rfl
      clear ap h
      go_wp2_with fail
      go_meet
      exact ⟨by rw [hE2], rfl⟩
  case rest =>
    obtain ⟨rfl, hw⟩ := hcut
    have hw := hw.symm
    subst hw
    clear hmI2 hqb2
    go_wp2_with fail
    go_loopg [8, 9, 10, 11, 12, 13, 14] G (fun gg s8 s9 s10 s11 s12 s13 s14 wr => ∃ (i : Nat) (S : ByteArray) (va : Option Addr) (c : Nat), s8 = .string S ∧ s9 = .slice va i c ∧ s10 = .int .i64 (i : Int) ∧ Aside (i + gg = G ∧ S = st (wrs b e (P.take i)) ∧ Ow wr B 43 2 (.slice va i c) i (fc (P.take i)) ∧ Below B w wr))
    case atStart => exact ⟨0, _, _, _, rfl, rfl, rfl, by omega, rfl, Ow.nil (by have := A.out.2.2.2.2.2.2.1; omega), Below.refl _ _⟩
    case round =>
      obtain ⟨i, S, va, c, rfl, rfl, rfl, hI⟩ := hrel
      obtain ⟨hig, hS, how, hbel⟩ := hI.out
      obtain ⟨GK, hGK⟩ : ∃ x, x = gk := ⟨_, rfl⟩
      subst hGK
      have a0 := A.out
      by_cases hi : i < G
      · have t1 : ((i : Int) < (La : Int)) = True := eq_true (by omega)
        have t1' : (i < La) = True := eq_true (by omega)
        have t2 : ((i : Int) < (Lb : Int)) = True := eq_true (by omega)
        have t2' : (i < Lb) = True := eq_true (by omega)
        have t3 : ((i : Int) < 64) = True := eq_true (by omega)
        have t3' : (i < 64) = True := eq_true (by omega)
        have hiI : (i : Int) < 64 := by omega
        obtain ⟨n, hn⟩ : ∃ n, nn[i]? = some n := ⟨_, List.getElem?_eq_getElem (by omega)⟩
        obtain ⟨v, hv⟩ : ∃ v, vv[i]? = some v := ⟨_, List.getElem?_eq_getElem (by omega)⟩
        obtain ⟨ab, ao, ai, ci, ha, hca, hla⟩ := a0.1.pick a0.2.2.2.2.2.2.1 hn
        obtain ⟨cb, co, bi, di, ha2, hcb, hlb⟩ := a0.2.2.2.1.pick a0.2.2.2.2.2.2.1 hv
        subst ha
        subst ha2
        have hon := a0.2.2.1 n (List.mem_of_getElem? hn)
        have hov := a0.2.2.2.2.2.1 v (List.mem_of_getElem? hv)
        have hPi : P[i]? = some (fdo n v) := by rw [← a0.2.2.2.2.2.2.2.1]; exact flds_get hn hv (by omega)
        obtain ⟨N, hN⟩ : ∃ N, st (fdo n v).1 = N := ⟨_, rfl⟩
        obtain ⟨V, hV⟩ : ∃ V, st (fdo n v).2 = V := ⟨_, rfl⟩
        have hna : ∀ W, Below B w W → Calls Try.prog 24 #[.slice ai n.length ci] W fun e w' => e = .returned (.string N) ∧ Below W.heap.size W w' := fun W hW => by rw [← hN]; exact named_c W ai n n.length ci (hla W hW) rfl hon
        have hva : ∀ W, Below B w W → Calls Try.prog 25 #[.slice bi v.length di] W fun e w' => e = .returned (.string V) ∧ Below W.heap.size W w' := fun W hW => by rw [← hV]; exact valued_c W bi v v.length di (hlb W hW) rfl hov
        obtain ⟨ln, hln⟩ : ∃ x, n.length = x := ⟨_, rfl⟩
        obtain ⟨lv, hlv⟩ : ∃ x, v.length = x := ⟨_, rfl⟩
        rw [hln] at hca hna
        rw [hlv] at hcb hva
        have d1 := hca wr hbel
        have d2 := hcb wr hbel
        have AR : Aside (i + GK = G ∧ i < G ∧ S = st (wrs b e (P.take i)) ∧ Ow wr B 43 2 (.slice va i c) i (fc (P.take i)) ∧ Below B w wr ∧ P[i]? = some (fdo n v) ∧ st (fdo n v).1 = N ∧ st (fdo n v).2 = V ∧ Oct v) := ⟨hig, hi, hS, how, hbel, hPi, hN, hV, hov⟩
        clear hI hig hS how a0 hi hn hv hla hlb hon hov hPi hN hV hln hlv
        go_upto_region 9 with fail
        go_cut [11] from 22 to 111 (fun s11 wc => ∃ H, s11 = .pointer (some ⟨H, 0, none⟩) ∧ Aside (Cells wc H #[.string N, .string V] 43 ∧ Below wr.heap.size wr wc ∧ wr.heap.size ≤ H))
        case first =>
          have hBle := AR.out.2.2.2.1.le
          have hbd : Below B w wr.drew := hbel.drew
          have hba : ∀ o, Below B w (wr.drew.alloc o) := fun o => hbd.alloc hBle o
          have zf : ∀ W H, Cells W H #[.string ⟨#[]⟩, .string ⟨#[]⟩] 43 → (W.cell? ⟨H, 0, none⟩ = some (.string ⟨#[]⟩) ∧ W.frozen? ⟨H, 0, none⟩ = false ∧ (W.setCell ⟨H, 0, none⟩ (.string N)).cell? ⟨H, 1, none⟩ = some (.string ⟨#[]⟩) ∧ (W.setCell ⟨H, 0, none⟩ (.string N)).frozen? ⟨H, 1, none⟩ = false ∧ W.cell? ⟨H, 1, none⟩ = some (.string ⟨#[]⟩) ∧ W.frozen? ⟨H, 1, none⟩ = false) := fun W H h => by
            have h2 := h.set 0 (.string N)
            exact ⟨by rw [h.cell]; rfl, h.frozen 0, by rw [h2.cell]; rfl, h2.frozen 1, by rw [h.cell]; rfl, h.frozen 1⟩
          have hS : ∀ W, Below B w W → (W.cell? ⟨ab, ao + i, none⟩ = some (.slice ai ln ci) ∧ W.cell? ⟨cb, co + i, none⟩ = some (.slice bi lv di)) := fun W hW => ⟨hca W hW, hcb W hW⟩
          have hsz : ∀ W o, (World.alloc W o).heap.size = W.heap.size + 1 := fun W o => by show (W.heap.push o).size = _; simp
          have tr : ∀ U W, Below wr.heap.size wr U ∧ wr.heap.size ≤ U.heap.size → Below U.heap.size U W → Below wr.heap.size wr W ∧ wr.heap.size ≤ W.heap.size := fun U W h1 h2 => ⟨h1.1.trans (h2.mono h1.2), Nat.le_trans h1.2 h2.size⟩
          have f0 : Below wr.heap.size wr wr.drew ∧ wr.heap.size ≤ wr.drew.heap.size := ⟨(Below.refl _ wr).drew, Nat.le_refl _⟩
          have fa : ∀ U o, Below wr.heap.size wr U ∧ wr.heap.size ≤ U.heap.size → Below wr.heap.size wr (World.alloc U o) ∧ wr.heap.size ≤ (World.alloc U o).heap.size := fun U o h => ⟨h.1.alloc h.2 o, by rw [hsz]; omega⟩
          have fs : ∀ U H x y, Below wr.heap.size wr U ∧ wr.heap.size ≤ U.heap.size → wr.heap.size ≤ H → Below wr.heap.size wr ((World.setCell U ⟨H, 0, none⟩ x).setCell ⟨H, 1, none⟩ y) ∧ wr.heap.size ≤ ((World.setCell U ⟨H, 0, none⟩ x).setCell ⟨H, 1, none⟩ y).heap.size := fun U H x y h hH => ⟨(h.1.setCell hH _).setCell hH _, ((h.1.setCell hH _).setCell hH _).size⟩
          have tb : ∀ W, Below wr.heap.size wr W ∧ wr.heap.size ≤ W.heap.size → Below B w W := fun W h => hbel.trans (h.1.mono hBle)
          go_region_held3 (fun w' => w'.cell? ⟨ab, ao + i, none⟩ = some (.slice ai ln ci) ∧ w'.cell? ⟨cb, co + i, none⟩ = some (.slice bi lv di)) (first | exact ⟨d1, d2⟩ | exact hS _ (tb _ f0) | exact hS _ (tb _ (fa _ _ f0)) | exact hS _ (tb _ f2) | exact hS _ (tb _ (fa _ _ f2)) | exact hS _ (tb _ f3) | exact hS _ (tb _ (fa _ _ f3)) | exact hS _ (tb _ (fs _ _ _ _ f3 f2.2)) | exact hS _ (tb _ (fs _ _ _ _ f3 (Nat.le_refl _))))
            (first | (go_at_call 24; refine (hna _ (by first | (exact tb _ f0) | (exact tb _ (fa _ _ f0)))).mono ?_; rintro e2 w2 ⟨rfl, hb2⟩; have f2 : Below wr.heap.size wr w2 ∧ wr.heap.size ≤ w2.heap.size := (by first | (exact tr _ _ f0 hb2) | (exact tr _ _ (fa _ _ f0) hb2)); (first | (have k2 : Cells w2 wr.heap.size #[.string ⟨#[]⟩, .string ⟨#[]⟩] 43 := (Cells.drew (Cells.new wr #[.string ⟨#[]⟩, .string ⟨#[]⟩] 43)).below hb2 (by show wr.heap.size < (wr.alloc _).heap.size; rw [hsz]; exact Nat.lt_succ_self _)) | (have _q : Below wr.drew.heap.size wr.drew w2 := hb2) | (clear hna hva hca hcb AP A AR hS tr fa tb; fail))) | (go_at_call 25; refine (hva _ (by first | (exact tb _ f2) | (exact tb _ (fa _ _ f2)))).mono ?_; rintro e3 w3 ⟨rfl, hb3⟩; have f3 : Below wr.heap.size wr w3 ∧ wr.heap.size ≤ w3.heap.size := (by first | (exact tr _ _ f2 hb3) | (exact tr _ _ (fa _ _ f2) hb3)); (first | (have k3 := (Cells.new w2 _ 43).below hb3 (by rw [hsz]; omega); obtain ⟨z1, z2, z3, z4, z5, z6⟩ := zf _ _ k3) | (have k3 := k2.below hb3 k2.lt; obtain ⟨z1, z2, z3, z4, z5, z6⟩ := zf _ _ k3) | (have _q : Below w2.heap.size w2 w3 := hb3))))
          · go_wp2_with fail
            go_meet
            exact ⟨w3.heap.size, rfl, Cells.new w3 _ 43, (fa _ _ f3).1, f3.2⟩
          · go_wp2_with fail
            go_meet
            exact ⟨w2.heap.size, rfl, (k3.set 0 (.string N)).set 1 (.string V), (fs _ _ _ _ f3 f2.2).1, f2.2⟩
          · go_wp2_with fail
            go_meet
            exact ⟨wr.heap.size, rfl, (k3.set 0 (.string N)).set 1 (.string V), (fs _ _ _ _ f3 (Nat.le_refl _)).1, Nat.le_refl _⟩
        case rest =>
          obtain ⟨H, rfl, hC⟩ := hcut
          obtain ⟨kH, hb1, hHle⟩ := hC.out
          have ar := AR.out
          obtain ⟨i3, hj3, hy0, hy1, hy2⟩ := ginfo_parts ginfo43
          have g0 : wc.cell? ⟨H, 0, none⟩ = some (.string N) := by rw [kH.cell]; rfl
          have g1 : wc.cell? ⟨H, 1, none⟩ = some (.string V) := by rw [kH.cell]; rfl
          obtain ⟨H2, hH2⟩ : ∃ H2, wc.heap.size = H2 := ⟨_, rfl⟩
          have bal : Below wc.heap.size wc (wc.alloc (.cells #[.string N, .string V] 43)) := (Below.refl _ wc).alloc (Nat.le_refl _) _
          have how2 := (ar.2.2.2.1.below hb1 (Nat.le_refl _)).below bal (Nat.le_refl _)
          have kH2 : Cells (wc.alloc (.cells #[.string N, .string V] 43)) H2 #[.string N, .string V] 43 := by rw [← hH2]; exact Cells.new wc _ 43
          have hfc : fc [fdo n v] = [.string N, .string V] := by rw [← ar.2.2.2.2.2.2.1, ← ar.2.2.2.2.2.2.2.1]; rfl
          have hlz : fc [fdo n v] = [] ∨ ∃ b o, some (⟨H2, 0, none⟩ : Addr) = some ⟨b, o, none⟩ ∧ ∀ (j : Nat) u, (fc [fdo n v])[j]? = some u → (wc.alloc (.cells #[.string N, .string V] 43)).cell? ⟨b, o + j, none⟩ = some u := Or.inr ⟨H2, 0, rfl, fun j u hu => by
            rw [Nat.zero_add, kH2.cell, ← hu, hfc]; simp⟩
          have hkH : Cells (wc.alloc (.cells #[.string N, .string V] 43)) H #[.string N, .string V] 43 := kH.alloc _
          have hne : some H ≠ (Value.slice va i c).ownBlock := fun h => by
            have := ar.2.2.2.1.lt_block h.symm
            omega
          have hbw : Below B w (wc.alloc (.cells #[.string N, .string V] 43)) := ar.2.2.2.2.1.trans ((hb1.trans (bal.mono hb1.size)).mono ar.2.2.2.1.le)
          have A3 : Aside (Cells (wc.alloc (.cells #[.string N, .string V] 43)) H #[.string N, .string V] 43 ∧ some H ≠ (Value.slice va i c).ownBlock ∧ Below B w (wc.alloc (.cells #[.string N, .string V] 43)) ∧ i + 1 ≤ maxLen ∧ (i + 1) * 32 ≤ 140737488355328) := ⟨hkH, hne, hbw, by unfold maxLen; omega, by omega⟩
          clear kH hb1 hHle ar bal kH2 hfc hkH hne hbw hC hca hcb hna hva d1 d2
          go_upto_if 57 with (at_builtin; refine wpList_ow Try.prog _ rfl (.tmp 49) (.tmp 51) 23 rfl 43 i3 _ 2 32 Try.underlying23 hj3 hy0 hy1 hy2 rfl (by decide) B (.slice va i c) i _ (by rfl) how2 (some ⟨H2, 0, none⟩) (fc [fdo n v]) 1 1 rfl (by rfl) (by intro h; cases h) hlz fc_one A3.out.2.2.2.1 A3.out.2.2.2.2 ?_; intro v5 w5 hgot; have k5 : Cells w5 H #[.string N, .string V] 43 := (hgot.kb H A3.out.1.lt A3.out.2.1).trans A3.out.1; have g5 : w5.cell? ⟨H, 0, none⟩ = some (.string N) := (by rw [k5.cell]; rfl); have g6 : w5.cell? ⟨H, 1, none⟩ = some (.string V) := (by rw [k5.cell]; rfl); obtain ⟨va5, vc5, hv5, _⟩ := hgot.ow.shape; subst hv5)
          obtain ⟨vl, hvl⟩ : ∃ vl, (fdo n v).2 = vl := ⟨_, rfl⟩
          obtain ⟨X, hX⟩ : ∃ X, st (wv b e vl) = X := ⟨_, rfl⟩
          have ar := AR.out
          have ap := AP.out
          have hPt : P.take (i + 1) = P.take i ++ [fdo n v] := by rw [List.take_add_one, ar.2.2.2.2.2.1]; rfl
          have how5 : Ow w5 B 43 2 (.slice va5 (i + 1) vc5) (i + 1) (fc (P.take (i + 1))) := by rw [hPt, fc_append]; exact hgot.ow
          have hvo : Oct vl := by rw [← hvl]; exact (fdo_oct (n := n) ar.2.2.2.2.2.2.2.2).2
          have hgf := ap.1 _ (List.mem_of_getElem? ar.2.2.2.2.2.1)
          have hwle : (wv b e vl).length ≤ 180 := by have := wv_len (b := b) (V := vl) ap.2.2.1; rw [← hvl] at this ⊢; omega
          have hSz : S.size ≤ 205 * 64 := by
            have h1 := wr_len (b := b) ap.2.2.1 (P.take i) (fun f hf => ap.1 f (List.mem_of_mem_take hf))
            rw [ar.2.2.1, st_size]
            have : (P.take i).length ≤ 64 := by rw [List.length_take]; have := A.out; omega
            omega
          have hEz : E.size ≤ 2 := by rw [← ap.2.2.2.1, st_size]; rcases ap.2.2.1 with h | h <;> rw [h] <;> decide
          have hVs : V.size = vl.length := by rw [← ar.2.2.2.2.2.2.2.1, st_size, hvl]
          have hVl : vl.length ≤ 60 := by rw [← hvl]; exact hgf.2.2.2.2
          have hNs : N.size ≤ 21 := by rw [← ar.2.2.2.2.2.2.1, st_size]; exact hgf.2.2.2.1
          have hXs : X.size ≤ 180 := by rw [← hX, st_size]; exact hwle
          have A5 : Aside (Cells w5 H #[.string N, .string V] 43 ∧ Ow w5 B 43 2 (.slice va5 (i + 1) vc5) (i + 1) (fc (P.take (i + 1))) ∧ Below B w w5 ∧ (fdo n v).2 = vl ∧ st (wv b e vl) = X ∧ P.take (i + 1) = P.take i ++ [fdo n v] ∧ Oct vl) := ⟨k5, how5, A3.out.2.2.1.trans hgot.bel, hvl, hX, hPt, hvo⟩
          have AZ : Aside (S.size ≤ 205 * 64 ∧ E.size ≤ 2 ∧ V.size = vl.length ∧ vl.length ≤ 60 ∧ N.size ≤ 21 ∧ X.size ≤ 180 ∧ decide (2 ≤ q4) = b) := ⟨hSz, hEz, hVs, hVl, hNs, hXs, ap.2.2.2.2.1⟩
          have hdq : decide ((2 : Int) ≤ (q4 : Int)) = b := by rw [← ap.2.2.2.2.1]; exact decide_eq_decide.2 (by omega)
          rw [hdq]
          clear hdq
          clear how2 hlz hgot k5 ar ap hPt how5 hvo hgf hwle hSz hEz hVs hVl hNs hXs hX hvl A3 g0 g1 hH2
          go_cut [12, 13, 14] from 22 to 111 (fun s12 s13 s14 wc => s12 = .string X ∧ wc = w5)
          case first =>
            have az := AZ.out
            have a5 := A5.out
            by_cases hb : 2 ≤ q4
            · have t4 : ((2 : Int) ≤ (q4 : Int)) = True := eq_true (by omega)
              have t4' : (2 ≤ q4) = True := eq_true hb
              have hbt : b = true := by rw [← az.2.2.2.2.2.2]; exact decide_eq_true hb
              obtain ⟨q, hq⟩ : ∃ q, vl.length = q := ⟨_, rfl⟩
              have hz : V.size = q := by rw [az.2.2.1, hq]
              have AQ : Aside (b = true ∧ vl.length = q ∧ q ≤ 60) := ⟨hbt, hq, by omega⟩
              clear az a5 hb hq t4 t4'
              subst hbt
              go_wp2_with fail
              go_loopg [13, 14] q (fun gg s13 s14 wv => ∃ (k : Nat) (K : ByteArray), s13 = .string K ∧ s14 = .int .i64 (k : Int) ∧ wv = w5 ∧ Aside (k + gg = q ∧ K = st (bro e vl k)))
              case atStart => exact ⟨0, _, rfl, rfl, rfl, by omega, rfl⟩
              case round =>
                obtain ⟨k, K, rfl, rfl, hw, hJ⟩ := hrel
                have hw := hw.symm
                subst hw
                have aq := AQ.out
                have az := AZ.out
                have a5 := A5.out
                have ap := AP.out
                have hj := hJ.out
                have hkI : (k : Int) < 61 := by omega
                by_cases hk : k < q
                · have u1 : ((k : Int) < (q : Int)) = True := eq_true (by omega)
                  have u1' : (k < q) = True := eq_true hk
                  obtain ⟨x, hx⟩ : ∃ x, vl[k]? = some x := ⟨_, List.getElem?_eq_getElem (by omega)⟩
                  have hV0 : V = st vl := by rw [← a5.2.2.2.1]; exact AR.out.2.2.2.2.2.2.2.1.symm
                  have hxk : ∀ h, (V[k]'h).toNat = x := by rw [hV0]; exact fun h => st_get a5.2.2.2.2.2.2 hx h
                  have hKs : K.size ≤ 180 := by rw [hj.2, st_size]; have := bro_len (V := vl) ap.2.2.1 k; omega
                  obtain ⟨X1, hX1⟩ : ∃ X1, st [x] = X1 := ⟨_, rfl⟩
                  have hX1s : X1.size = 1 := by rw [← hX1, st_size]; rfl
                  have hext : V.extract k (k + 1) = X1 := by
                    rw [hV0, st_extract, ← hX1]
                    congr 1
                    rw [List.take_add_one, hx, List.drop_append_of_le_length (by rw [List.length_take]; omega), List.drop_of_length_le (by rw [List.length_take]; omega)]
                    rfl
                  obtain ⟨ct, hct⟩ : ∃ ct, cutAt vl k = ct := ⟨_, rfl⟩
                  have hsu := bro_end (e := e) hx
                  rw [hct] at hsu
                  have AK : Aside (k + gk = q ∧ k < q ∧ K = st (bro e vl k) ∧ bro e vl (k + 1) = bro e vl k ++ (if ct then e else []) ++ [x] ∧ st [x] = X1 ∧ st e = E) := ⟨hj.1, hk, hj.2, hsu, hX1, ap.2.2.2.1⟩
                  have s1 : (9223372036854775807 < K.size + E.size) = False := eq_false (by omega)
                  have s2 : (9223372036854775807 < K.size + X1.size) = False := eq_false (by omega)
                  have s3 : (9223372036854775807 < K.size + E.size + X1.size) = False := eq_false (by omega)
                  have hkq : (k : Int) + 1 ≤ (q : Int) := by omega
                  have hsl := slice_one hz hk hext w5
                  have ACT : Aside (cutAt vl k = ct ∧ vl[k]? = some x ∧ V = st vl ∧ Oct vl) := ⟨hct, hx, hV0, a5.2.2.2.2.2.2⟩
                  clear aq az a5 ap hj hJ hk hx hV0 hKs hX1 hX1s hct hsu
                  go_upto_region 17 with fail
                  go_cut [91] from 58 to 101 (fun s91 wc => s91 = .bool ct ∧ wc = w5)
                  case first =>
                    have act := ACT.out
                    rcases Nat.eq_zero_or_pos k with h0 | h0
                    · subst h0
                      have e : ct = false := by rw [← act.1]; rfl
                      clear act hext hsl
                      go_wp2_with fail
                      go_meet
                      exact ⟨by rw [e], rfl⟩
                    · obtain ⟨j, hkj⟩ : ∃ j, k = j + 1 := ⟨k - 1, by omega⟩
                      obtain ⟨y, hy⟩ : ∃ y, vl[j]? = some y := ⟨_, List.getElem?_eq_getElem (by have := (List.getElem?_eq_some_iff.1 act.2.1).1; omega)⟩
                      have hyk : ∀ h, (V[j]'h).toNat = y := by rw [act.2.2.1]; exact fun h => st_get act.2.2.2 hy h
                      have hct : ct = (isB x && !isB y) := by rw [← act.1, hkj]; exact cut_at (by rw [← hkj]; exact act.2.1) hy
                      have r0 : ((0 : Int) < (k : Int)) = True := eq_true (by omega)
                      have r0' : (0 < k) = True := eq_true h0
                      have hkjI : (k : Int) - 1 = (j : Int) := by omega
                      have hjq : (j : Int) < (q : Int) := by have := AK.out.2.1; omega
                      have hkq2 : (k : Int) < (q : Int) := by have := AK.out.2.1; omega
                      have hjq' : (j < q) = True := eq_true (by have := AK.out.2.1; omega)
                      clear act hext hsl hkj h0 hy
                      cases hbx : isB x with
                      | false =>
                        have nx := isB_not.1 hbx
                        have e : ct = false := by rw [hct, hbx]; rfl
                        have v1 : ((x : Int) == 32) = false := by rw [beq_eq_false_iff_ne]; omega
                        have v2 : ((x : Int) == 9) = false := by rw [beq_eq_false_iff_ne]; omega
                        clear nx hbx hct
                        go_wp2_with fail
                        go_meet
                        exact ⟨by rw [e], rfl⟩
                      | true =>
                        rw [hbx] at hct
                        have hxo := isB_iff.1 hbx
                        clear hbx
                        cases hby : isB y with
                        | false =>
                          have ny := isB_not.1 hby
                          have e : ct = true := by rw [hct, hby]; rfl
                          have v1 : ((y : Int) != 32) = true := by rw [bne_iff_ne]; omega
                          have v2 : ((y : Int) != 9) = true := by rw [bne_iff_ne]; omega
                          clear ny hby hct
                          rcases hxo with rfl | rfl
                          all_goals
                            go_wp2_with fail
                            go_meet
                            exact ⟨by rw [e], rfl⟩
                        | true =>
                          have e : ct = false := by rw [hct, hby]; rfl
                          have hyo := isB_iff.1 hby
                          clear hby hct
                          rcases hxo with rfl | rfl
                          all_goals
                            rcases hyo with rfl | rfl
                            all_goals
                              go_wp2_with fail
                              go_meet
                              exact ⟨by rw [e], rfl⟩
                  case rest =>
                    obtain ⟨rfl, hw⟩ := hcut
                    have hw := hw.symm
                    subst hw
                    cases ct with
                    | true =>
                      clear hxk
                      go_wp2_with fail
                      have ak := AK.out
                      go_roundg (gk - 1)
                      case measure => omega
                      case rel => exact ⟨k + 1, _, rfl, by go_num, rfl, by omega, by rw [ak.2.2.2.1, ← st_append, ← st_append, ← ak.2.2.1, ak.2.2.2.2.1, if_pos trivial, ak.2.2.2.2.2]⟩
                    | false =>
                      clear hxk
                      go_wp2_with fail
                      have ak := AK.out
                      go_roundg (gk - 1)
                      case measure => omega
                      case rel => exact ⟨k + 1, _, rfl, by go_num, rfl, by omega, by rw [ak.2.2.2.1, if_neg (by decide), List.append_nil, ← st_append, ← ak.2.2.1, ak.2.2.2.2.1]⟩
                · have u1 : ((k : Int) < (q : Int)) = False := eq_false (by omega)
                  have u1' : (k < q) = False := eq_false hk
                  have hKX : K = X := by rw [← a5.2.2.2.2.1, hj.2, show k = vl.length by omega]; rfl
                  clear aq az a5 ap hj hJ hk
                  go_wp2_with fail
                  go_meet
                  exact ⟨by first | rfl | rw [hKX], rfl⟩
            · have t4 : ((2 : Int) ≤ (q4 : Int)) = False := eq_false (by omega)
              have t4' : (2 ≤ q4) = False := eq_false hb
              have hVX : V = X := by
                rw [← a5.2.2.2.2.1, ← AR.out.2.2.2.2.2.2.2.1, a5.2.2.2.1, ← az.2.2.2.2.2.2, decide_eq_false hb]; rfl
              have hbf : b = false := by rw [← az.2.2.2.2.2.2]; exact decide_eq_false hb
              clear az a5 hb t4 t4'
              subst hbf
              go_wp2_with fail
              go_meet
              exact ⟨by rw [hVX], rfl⟩
          case rest =>
            obtain ⟨rfl, hw⟩ := hcut
            have hw := hw.symm
            subst hw
            have az := AZ.out
            have s1 : (9223372036854775807 < N.size + 2) = False := eq_false (by omega)
            have s2 : (9223372036854775807 < N.size + 2 + X.size) = False := eq_false (by omega)
            have s3 : (9223372036854775807 < N.size + 2 + X.size + E.size) = False := eq_false (by omega)
            have s4 : (9223372036854775807 < S.size + (N.size + 2 + X.size + E.size)) = False := eq_false (by omega)
            clear az
            go_wp2_with fail
            have ar := AR.out
            have a5 := A5.out
            have ap := AP.out
            go_roundg (GK - 1)
            case measure => omega
            case rel =>
              refine ⟨i + 1, _, _, _, rfl, rfl, by go_num, by omega, ?_, a5.2.1, a5.2.2.1⟩
              rw [a5.2.2.2.2.2.1, wr_snoc, ← st_append, ← ar.2.2.1]
              unfold wl
              rw [← st_append, ← st_append, ← st_append, ar.2.2.2.2.2.2.1, a5.2.2.2.1, a5.2.2.2.2.1, ap.2.2.2.1]
              rfl
      · have hiG : i = G := by omega
        have ap := AP.out
        have hPt : P.take i = P := by rw [hiG]; exact List.take_of_length_le (by omega)
        rw [hPt] at hS how
        obtain ⟨lw, hlw⟩ : ∃ x, (wrs b e P).length = x := ⟨_, rfl⟩
        obtain ⟨le, hle⟩ : ∃ x, e.length = x := ⟨_, rfl⟩
        have hlwb : lw ≤ 205 * 64 := by rw [← hlw]; have := wr_len (b := b) ap.2.2.1 P ap.1; omega
        have hleb : 1 ≤ le ∧ le ≤ 2 := by rw [← hle]; rcases ap.2.2.1 with h | h <;> rw [h] <;> decide
        have hSs : S.size = lw := by rw [hS, st_size, hlw]
        have hEs : E.size = le := by rw [← ap.2.2.2.1, st_size, hle]
        obtain ⟨lz, hlzd⟩ : ∃ lz, wrs b e P ++ (e ++ [98, 111, 100, 121]) = lz := ⟨_, rfl⟩
        have hZ : S ++ E ++ (⟨#[98, 111, 100, 121]⟩ : ByteArray) = st lz := by
          rw [hS, ← ap.2.2.2.1, ← hlzd, ← st_append, ← st_append, show (⟨#[98, 111, 100, 121]⟩ : ByteArray) = st [98, 111, 100, 121] from rfl]
          rw [st_append, st_append, st_append, st_append, List.append_assoc]
        have hlzl : lz.length = lw + le + 4 := by rw [← hlzd]; simp only [List.length_append, List.length_cons, List.length_nil, hlw, hle]; omega
        have holz : Oct lz := by rw [← hlzd]; exact (wrs_oct ap.2.2.1 P ap.2.1).append (ap.2.2.1.oct.append (by unfold Oct; decide))
        obtain ⟨H9, hH9⟩ : ∃ H9, wr.heap.size = H9 := ⟨_, rfl⟩
        have hcv := run_bytes_of_string (P := Try.prog) wr 9 22 5 (st lz) Try.underlying9 Try.underlying22 Try.underlying5
        obtain ⟨cp, hcp⟩ : ∃ cp, grownCap wr (st lz).size 0 5 = cp := ⟨_, rfl⟩
        obtain ⟨zn, hzn⟩ : ∃ zn, lw + le + 4 = zn := ⟨_, rfl⟩
        obtain ⟨w9, hw9⟩ : ∃ w9, w9 = wr.drew.alloc (.cells (bytesRow (st lz) cp) 5 ((bytesRow (st lz) cp).size, (bytesRow (st lz) cp).size + 1)) := ⟨_, rfl⟩
        have hl9 : Lies w9 (some ⟨H9, 0, none⟩) lz := by have := lies_str wr H9 hH9 (st lz) cp ((bytesRow (st lz) cp).size, (bytesRow (st lz) cp).size + 1); rw [bl_st holz, ← hw9] at this; exact this
        have b9 : Below wr.heap.size wr w9 := by rw [hw9]; exact ((Below.refl _ wr).drew).alloc (Nat.le_refl _) _
        rw [hcp, ← hw9, st_size, hlzl, hzn, hH9, ← hZ] at hcv
        have hR := rn_back (b := b) (e := e) (P := P) (r := [98, 111, 100, 121]) ap.2.2.1 ap.1 (by omega)
        rw [hlzd, hlw, hle] at hR
        obtain ⟨u, hu⟩ : ∃ u, lw + le = u := ⟨_, rfl⟩
        have hwh := whole_a w9 (some ⟨H9, 0, none⟩) lz zn cp 65536 _ hR u (by simp only; omega) 0 rfl P (told_raw ap.1) hl9 (by omega) (by omega) holz (by decide) (by decide)
        have haw := fun W => awake_c W
        have hwf : FL wr (.slice va i c) P := how.fl (by omega)
        have AT : Aside (Below B w wr ∧ B ≤ wr.heap.size ∧ FL wr (.slice va i c) P ∧ Below wr.heap.size wr w9 ∧ OctF P ∧ P.length ≤ 64) := ⟨hbel, how.le, hwf, b9, ap.2.1, by omega⟩
        have s1 : (9223372036854775807 < S.size + E.size) = False := eq_false (by omega)
        have s2 : (9223372036854775807 < S.size + E.size + 4) = False := eq_false (by omega)
        have x1 : (S.size : Int) ≤ 13120 := by omega
        have x2 : (E.size : Int) ≤ 2 := by omega
        have x3 : ((u : Int) == (S.size : Int) + (E.size : Int)) = true := by rw [beq_iff_eq]; omega
        have AG : Aside (G = min (min La Lb) 64) := a0.2.2.2.2.2.2.2.2.2
        clear hI hig hS how hbel a0 ap hPt hlw hle hlwb hleb hSs hEs hlzd hZ hlzl holz hH9 hcp hzn hw9 hl9 b9 hR hu hwf hi
        go_upto_region 7 with fail
        go_cut [35] from 22 to 111 (fun s35 wc => s35 = .bool false ∧ wc = wr)
        case first =>
          have ag := AG.out
          have hiI : (i : Int) < 65 := by omega
          by_cases h1 : i < La
          · have t1 : ((i : Int) < (La : Int)) = True := eq_true (by omega)
            have t1' : (i < La) = True := eq_true h1
            by_cases h2 : i < Lb
            · have t2 : ((i : Int) < (Lb : Int)) = True := eq_true (by omega)
              have t2' : (i < Lb) = True := eq_true h2
              have t3 : ((i : Int) < 64) = False := eq_false (by omega)
              have t3' : (i < 64) = False := eq_false (by omega)
              clear ag h1 h2 hiG hcv hwh
              go_wp2_with fail
              go_meet
              exact ⟨rfl, rfl⟩
            · have t2 : ((i : Int) < (Lb : Int)) = False := eq_false (by omega)
              have t2' : (i < Lb) = False := eq_false h2
              clear ag h1 h2 hiG hcv hwh
              go_wp2_with fail
              go_meet
              exact ⟨rfl, rfl⟩
          · have t1 : ((i : Int) < (La : Int)) = False := eq_false (by omega)
            have t1' : (i < La) = False := eq_false h1
            clear ag h1 hiG hcv hwh
            go_wp2_with fail
            go_meet
            exact ⟨rfl, rfl⟩
        case rest =>
          obtain ⟨rfl, hw⟩ := hcut
          have hw := hw.symm
          subst hw
          clear hiG
          go_upto_region 23 with (go_at_call 9; refine hwh.mono ?_; rintro e10 w10 ⟨a10, n10, c10, rfl, hfl10, hb10⟩)
          have at_ := AT.out
          have b10 : Below wr.heap.size wr w10 := at_.2.2.2.1.trans (hb10.mono at_.2.2.2.1.size)
          have hfe := feq_c w10 _ _ _ _ hfl10 (at_.2.2.1.below b10) at_.2.2.2.2.1 at_.2.2.2.2.1 (by have := at_.2.2.2.2.2; omega)
          rw [decide_eq_true rfl] at hfe
          have A10 : Aside (Below B w w10 ∧ B ≤ w10.heap.size) := ⟨at_.1.trans (b10.mono at_.2.1), Nat.le_trans at_.2.1 b10.size⟩
          clear at_ b10 hfl10 hb10 hwh hcv s1 s2
          go_wp2_with (first
            | (go_at_call 12; refine hfe.mono ?_; rintro e11 w11 ⟨rfl, n11, hw11⟩; have A11 : Aside (Below B w w11 ∧ B ≤ w11.heap.size) := (by rw [hw11]; exact ⟨Below.drewN2 A10.out.1 n11, A10.out.2⟩); clear hw11)
            | (go_at_call 10; refine (haw _).mono ?_; rintro e12 w12 ⟨rfl, hb12⟩))
          first | go_ret | go_ret2
          exact ⟨rfl, A11.out.1.trans (hb12.mono A11.out.2)⟩
end Go.Proofs.Ytmlkdpoignimaaa

/-
  Own texts of this seat, one behind the other: what each says stands ahead of it.
-/
import Derived.Test.YtpihipbeagpgpaaGreatDoorMm
import Derived.Deep.LoopGhost
/-
  The numbers of a wide record: wideSizes.
-/
namespace Go.Proofs.YtpihipbeagpgpaaGreatDoor
open Go.RowKit
set_option linter.unusedVariables false
def zwv (s : Zs) (i : Nat) : Nat := if i = 0 then s.sz else s.pk
def zwl (s : Zs) (n : Nat) : Nat → List (Nat × Nat) × Nat
  | 0 => ([], n)
  | i + 1 => if zwv s i = U32 ∧ 8 ≤ (zwl s n i).2 then ((zwl s n i).1 ++ [(8, 5 - i)], (zwl s n i).2 - 8) else zwl s n i
theorem zwl2 (s : Zs) (n : Nat) : zwl s n 2 = zwf s n := by
  unfold zwf
  simp only [zwl, zwv, if_pos, Nat.one_ne_zero, if_false]
  by_cases h1 : s.sz = U32 ∧ 8 ≤ n
  · rw [if_pos h1, if_pos h1]
    by_cases h2 : s.pk = U32 ∧ 16 ≤ n
    · rw [if_pos h2, if_pos ⟨h2.1, by show 8 ≤ n - 8; omega⟩]
      simp only [List.nil_append, List.singleton_append, Nat.sub_zero, Nat.sub_sub]
    · rw [if_neg h2, if_neg (fun e => h2 ⟨e.1, by have : 8 ≤ n - 8 := e.2; omega⟩)]
      rfl
  · rw [if_neg h1, if_neg h1]
    by_cases h2 : s.pk = U32 ∧ 8 ≤ n
    · rw [if_pos h2, if_pos h2]; rfl
    · rw [if_neg h2, if_neg h2]
theorem zwl_le (s : Zs) (n : Nat) : ∀ i, (zwl s n i).2 ≤ n ∧ (zwl s n i).1.length ≤ i
  | 0 => ⟨Nat.le_refl _, Nat.le_refl _⟩
  | i + 1 => by
    have ih := zwl_le s n i
    show ((if zwv s i = U32 ∧ 8 ≤ (zwl s n i).2 then ((zwl s n i).1 ++ [(8, 5 - i)], (zwl s n i).2 - 8) else zwl s n i) : List (Nat × Nat) × Nat).2 ≤ n ∧ _
    split
    · rename_i h
      refine ⟨by show (zwl s n i).2 - 8 ≤ n; omega, ?_⟩
      have e : zwl s n (i + 1) = ((zwl s n i).1 ++ [(8, 5 - i)], (zwl s n i).2 - 8) := by
        show (if _ then _ else _) = _
        rw [if_pos h]
      rw [e]
      show ((zwl s n i).1 ++ [(8, 5 - i)]).length ≤ i + 1
      rw [List.length_append, List.length_singleton]; omega
    · rename_i h
      have e : zwl s n (i + 1) = zwl s n i := by
        show (if _ then _ else _) = _
        rw [if_neg h]
      rw [e]
      exact ⟨ih.1, by omega⟩
theorem ginfo126 : (Tryz.prog.info? 126).map (fun i => (i.zero, i.size, i.bytes)) = some (some (.agg #[.int .i64 0, .nilFunc]), 2, 16) := by kernel_rfl
def Zr (w : World) (hi W N : Nat) (x : World) (f : List (Nat × Nat) × Nat) (a : Option Addr) (C : Nat) : Prop := ∃ xs : List Value, Ow w (N + 3) 126 2 (.slice a f.1.length C) f.1.length xs ∧ But (N + 1) x w ∧ Cells w (N + 1) #[.int .u64 (f.2 : Int)] 66 ∧ ∀ j m t, f.1[j]? = some (m, t) → xs[j * 2]? = some (.int .i64 (m : Int)) ∧ ∃ u, xs[j * 2 + 1]? = some u ∧ Uv w hi W 0 0 t u
section
variable {lo hi B D b R W : Nat} {I : List Nat} {cf : Cfg} {q : Md} {c : Zc} {s : Zs} {v td : Value}
theorem Bx.but {w u : World} {p k : Nat} {t : TypeId} {cs : Array Value} (h : Bx w hi p t cs) (o : But k w u) (hk : p ≠ k) : Bx u hi p t cs := h.keep (o.block p h.lt hk)
theorem Wk.but {w u : World} {p : Nat} {t : TypeId} {cs : Array Value} (h : Wk w lo hi B D b R W c I cf q) (x : Bx w hi p t cs) (ht : t = 66 ∨ t = 3 ∨ t = 98) (o : But p w u) : Wk u lo hi B D b R W c I cf q := by
  have g := h.g
  have hp := x.lo
  have hk : Kq B w u := ⟨o.size, fun k hk => by
    by_cases e : k = p
    · subst e
      exact Or.inr ⟨by have := g.l9; have := g.lW; have := g.hW; omega, Or.inr (by have := g.hB; omega), cs, t, _, x.cell, by unfold Kt; rcases ht with e | e | e <;> simp [e]⟩
    · exact Or.inl (o.block k hk e)⟩
  exact h.kq hk (o.block W h.wc.lt (by have := g.hW; omega)) (o.block 0 (by have := h.wc.lt; omega) (by have := g.l9; have := g.lW; have := g.hW; omega))
theorem Wk.fbut {w u : World} {p : Nat} {t : TypeId} {cs : Array Value} (h : Wk w lo hi B D b R W c I cf q) (x : Bx w hi p t cs) (ht : t = 66 ∨ t = 3 ∨ t = 98) (o : But p w u) : Fz lo hi w u := ⟨o.os, o.tape, o.output, o.size, fun k hk => by
  by_cases e : k = p
  · subst e
    exact Or.inr ⟨by have := h.g.lW; have := h.g.hW; have := x.lo; omega, Or.inr (Bt.mk x.cell ht)⟩
  · exact Or.inl (o.block k hk e)⟩
theorem Zr.more {wr w4 x : World} {N m C pc rem : Nat} {a : Option Addr} {f : List (Nat × Nat)} (hN : hi ≤ N) (hxs : x.heap.size = N + 3) (h : Zr wr hi W N x (f, rem) a C) (hfl : f.length = m) (hm : m ≤ 2) (hpc : ∃ t, t ≠ 0 ∧ t ≠ 8 ∧ t ≠ 9 ∧ t + 1 = pc) (b4 : Below wr.heap.size wr w4) (s4 : w4.heap.size = wr.heap.size + 1) (c4 : Cells w4 wr.heap.size #[.pointer (some ⟨W, pc, none⟩)] 128) :
    ∃ xs, Ow (w4.alloc (.cells #[.int .i64 8, .func (.func 98) #[] #[.pointer (some ⟨wr.heap.size, 0, none⟩)]] 126)) (N + 3) 126 2 (.slice a m C) m xs ∧
    (∀ j u, [Value.int .i64 8, .func (.func 98) #[] #[.pointer (some ⟨wr.heap.size, 0, none⟩)]][j]? = some u → (w4.alloc (.cells #[.int .i64 8, .func (.func 98) #[] #[.pointer (some ⟨wr.heap.size, 0, none⟩)]] 126)).cell? ⟨wr.heap.size + 1, 0 + j, none⟩ = some u) ∧
    Aside (∀ v6 w6, Got (N + 3) 126 2 (w4.alloc (.cells #[.int .i64 8, .func (.func 98) #[] #[.pointer (some ⟨wr.heap.size, 0, none⟩)]] 126)) w6 (.slice a m C) v6 (m + 1) (xs ++ [.int .i64 8, .func (.func 98) #[] #[.pointer (some ⟨wr.heap.size, 0, none⟩)]]) → ∃ a6 c6, v6 = .slice a6 (m + 1) c6 ∧ w6.cell? ⟨N + 1, 0, none⟩ = some (.int .u64 (rem : Int)) ∧ w6.frozen? ⟨N + 1, 0, none⟩ = false ∧
      Aside (∀ r2 : Nat, Zr (w6.setCell ⟨N + 1, 0, none⟩ (.int .u64 (r2 : Int))) hi W N x (f ++ [(8, pc - 1)], r2) a6 c6)) := by
  obtain ⟨xs, ho, hb, hc, hu⟩ := h
  rw [hfl] at ho
  obtain ⟨o, ho2⟩ : ∃ o, o = (Obj.cells #[.int .i64 8, .func (.func 98) #[] #[.pointer (some ⟨wr.heap.size, 0, none⟩)]] 126) := ⟨_, rfl⟩
  have b5 : Below wr.heap.size wr (w4.alloc o) := b4.alloc b4.size o
  have hle := ho.le
  have ho5 := ho.below b5 (Nat.le_refl _)
  have xl : xs.length = m * 2 := ho.own.1
  have cA : Cells (w4.alloc o) (wr.heap.size + 1) #[.int .i64 8, .func (.func 98) #[] #[.pointer (some ⟨wr.heap.size, 0, none⟩)]] 126 := by rw [ho2, ← s4]; exact Cells.new _ _ _
  refine ⟨xs, by rw [← ho2]; exact ho5, fun j u hj => ?_, fun v6 w6 hg => ?_⟩
  · rw [← ho2, cA.cell, Nat.zero_add]
    simpa using hj
  · rw [← ho2] at hg
    obtain ⟨a6, c6, hv6, _⟩ := hg.ow.shape
    have hN1 : N + 1 < wr.heap.size := by omega
    have cL : Cells w6 (N + 1) #[.int .u64 (rem : Int)] 66 := (hc.below b5 (by omega)).got hg (by decide)
    refine ⟨a6, c6, hv6, by rw [cL.cell]; rfl, cL.frozen 0, fun r2 => ?_⟩
    have oL : Only (N + 1) w6 (w6.setCell ⟨N + 1, 0, none⟩ (.int .u64 (r2 : Int))) := (Only.refl _ _).setCell 0 _
    have hlen : (f ++ [(8, pc - 1)]).length = m + 1 := by rw [List.length_append, List.length_singleton, hfl]
    have hbut : But (N + 1) x w6 := by
      have hb1 : But (N + 1) x (w4.alloc o) := ⟨b5.os.trans hb.os, b5.tape.trans hb.tape, b5.output.trans hb.output, Nat.le_trans hb.size b5.size, fun k hk hn => (b5.block k (Nat.lt_of_lt_of_le hk hb.size)).trans (hb.block k hk hn)⟩
      exact ⟨hg.bel.os.trans hb1.os, hg.bel.tape.trans hb1.tape, hg.bel.output.trans hb1.output, Nat.le_trans hb1.size hg.size, fun k hk hn => (hg.bel.block k (by omega)).trans (hb1.block k hk hn)⟩
    have uvk : ∀ t u, Uv wr hi W 0 0 t u → Uv (w6.setCell ⟨N + 1, 0, none⟩ (.int .u64 (r2 : Int))) hi W 0 0 t u := fun t u hq => by
      rcases hq with hq | ⟨hq, bx, h1, h2⟩
      · exact Or.inl hq
      · refine Or.inr ⟨hq, bx, h1, ⟨h2.lo, ?_⟩⟩
        have k1 := (h2.cell.below b5 h2.lt).got hg (by decide)
        refine k1.only oL ?_
        rintro rfl
        have e1 := h2.cell
        unfold Cells at e1 hc
        have e2 := e1.symm.trans hc
        injection e2 with e2
        injection e2 with _ e2
        exact absurd e2 (by decide)
    refine ⟨xs ++ [.int .i64 8, .func (.func 98) #[] #[.pointer (some ⟨wr.heap.size, 0, none⟩)]], ?_, hbut.only oL, ?_, fun j mm t hj => ?_⟩
    · show Ow _ _ _ _ (.slice a6 (f ++ [(8, pc - 1)]).length c6) (f ++ [(8, pc - 1)]).length _
      rw [hlen]
      have := hg.ow
      rw [hv6] at this
      exact this.set cL (by decide)
    · have := cL.set 0 (.int .u64 (r2 : Int))
      exact this
    · by_cases hjm : j < m
      · rw [List.getElem?_append_left (by omega)] at hj
        obtain ⟨e1, u, e2, e3⟩ := hu j mm t hj
        exact ⟨by rw [List.getElem?_append_left (by omega)]; exact e1, u, by rw [List.getElem?_append_left (by omega)]; exact e2, uvk t u e3⟩
      · have hjl := (List.getElem?_eq_some_iff.1 hj).1
        rw [hlen] at hjl
        have hjm2 : j = m := by omega
        subst hjm2
        rw [List.getElem?_append_right (by omega), hfl] at hj
        simp at hj
        obtain ⟨rfl, rfl⟩ := hj
        obtain ⟨t, t0, t8, t9, rfl⟩ := hpc
        refine ⟨by rw [List.getElem?_append_right (by omega), xl]; simp, _, by rw [List.getElem?_append_right (by omega), xl, show j * 2 + 1 - j * 2 = 1 by omega]; rfl, Or.inr ⟨by simpa using t0, wr.heap.size, rfl, ⟨by omega, ?_⟩⟩⟩
        have e : tg W 0 0 (t + 1 - 1) = .pointer (some ⟨W, t + 1, none⟩) := by
          unfold tg
          rw [Nat.add_sub_cancel, if_neg t8, if_neg t9]
          rfl
        rw [e]
        have k1 : Cells w6 wr.heap.size #[.pointer (some ⟨W, t + 1, none⟩)] 128 := (c4.alloc o).got hg (by decide)
        exact k1.only oL (by omega)
theorem wide_end {w wr x : World} {N n C : Nat} {a : Option Addr} (k3 : Wk x lo hi B D b R W (zc s v td none) I cf q) (z : Zh s) (hn : n < 18446744073709551616) (hx : s.xl < 18446744073709551616) (hsx : x.heap.size = N + 3) (hs : hi ≤ N) (x0 : Bx x hi N 39 #[.pointer (some ⟨W, 0, none⟩)]) (xL : Bx x hi (N + 1) 66 #[.int .u64 (n : Int)]) (f0 : Fz lo hi w x) (hz : Zr wr hi W N x (zwf s n) a C) :
    Calls Tryz.prog 66 #[.pointer (some ⟨W, 0, none⟩), .func (.func 143) #[] #[.pointer (some ⟨N, 0, none⟩), .pointer (some ⟨N + 1, 0, none⟩)], .slice a (zwf s n).1.length C] wr fun e w' => e = .returned (.tuple #[]) ∧ (Wz w' lo hi B D b R W (zwid n s).1 (zwid n s).2 ∧ Fz lo hi w w') := by
  obtain ⟨xs, ho, hb, hc, hu⟩ := hz
  have kr := k3.but xL (Or.inl rfl) hb
  have fr := f0.trans (k3.fbut xL (Or.inl rfl) hb)
  have y0 : Bx wr hi N 39 #[ptr W 0] := x0.but hb (by omega)
  have yL : Bx wr hi (N + 1) 66 #[.int .u64 ((zwf s n).2 : Int)] := ⟨by omega, hc⟩
  unfold zwid
  by_cases hf : (zwf s n).1 = []
  · rw [if_pos hf, hf]
    refine gath0_c 143 #[] _ (Or.inr (Or.inr (Or.inr (Or.inr (Or.inl ⟨rfl, rfl, N, N + 1, rfl⟩))))) a C _ wr fun w1 b1 => ?_
    have kz := Kz.of_below (hi := hi) b1 (Nat.le_refl _)
    refine (wide1_c (s := { s with mn := (zwf s n).2 }) N (N + 1) (zwf s n).2 w1 (kr.below b1 (Nat.le_refl _)) ⟨z.why, z.ph, z.fl, z.sg, z.nl, z.nm, z.s0, z.g0⟩ hx (y0.kz kz (by simp [Bq])) (yL.kz kz (by simp [Bq]))).mono ?_
    rintro e w' ⟨rfl, k, f⟩
    exact ⟨rfl, k, fr.trans ((Fz.of_below b1 (Nat.le_refl _)).trans f)⟩
  · rw [if_neg hf]
    obtain ⟨a2, c2, hv, hc2, hsh, _⟩ := ho.shape
    cases hv
    have hl0 : (zwf s n).1.length ≠ 0 := by simpa using hf
    rcases hsh with hsh | ⟨g, rfl, hg1, ⟨cs, hg2⟩, hg3, hg4⟩
    · exact absurd hsh hl0
    · have hcap : C ≤ 9223372036854775807 := by
        rcases ho.own.2 with ⟨e, _⟩ | ⟨g', c', cur, e, _, hh, hcc, hmm, _⟩
        · cases e
        · cases e
          unfold maxLen at hmm
          omega
      have hcg : Cells wr g cs 126 := hg2
      have hl : Fls wr hi W 0 0 g 0 (zwf s n).1 := ⟨cs, ⟨by omega, hcg⟩, fun j m t hj => by
        obtain ⟨e1, u, e2, e3⟩ := hu j m t hj
        have q1 := hg3 _ _ e1
        have q2 := hg3 _ _ e2
        rw [hcg.cell] at q1 q2
        exact ⟨by rw [Nat.zero_add]; exact q1, u, by rw [Nat.zero_add]; exact q2, e3⟩⟩
      refine (gath_c 0 0 g 0 C (.func 143) #[] #[.pointer (some ⟨N, 0, none⟩), .pointer (some ⟨N + 1, 0, none⟩)] (zwf s n).1 hf hc2 hcap wr kr hl).mono ?_
      rintro e w' ⟨rfl, ⟨v', a1, a2⟩, f⟩
      refine ⟨rfl, Or.inl ⟨rfl, v', td, I, cf, q, ?_, fun _ => a2 _ rfl rfl rfl ?_, fun e => by rcases e with e | e <;> cases e⟩, fr.trans f⟩
      · have e : zc ({ s with ph := 2, k := 2, fs := (zwf s n).1, bs := [], mn := (zwf s n).2 } : Zs) v' td none = { zc s v td none with nx := v' } := by
          unfold zc
          simp [z.ph]
        rw [e]
        exact a1
      · exact Or.inr (Or.inr (Or.inl ⟨rfl, N, N + 1, yL.lt, yL, rfl, y0⟩))
set_option maxHeartbeats 2000000 in
theorem wide_c (n : Nat) (w : World) (h : Wk w lo hi B D b R W (zc s v td none) I cf q) (z : Zh s) (hn : n < 18446744073709551616) (hx : s.xl < 18446744073709551616) : Calls Tryz.prog 127 #[.pointer (some ⟨W, 0, none⟩), .int .u64 (n : Int)] w fun e w' => e = .returned (.tuple #[]) ∧ (Wz w' lo hi B D b R W (zwid n s).1 (zwid n s).2 ∧ Fz lo hi w w') := by
  have k3 := (((h.alloc (.cells #[.pointer (some ⟨W, 0, none⟩)] 39)).alloc (.cells #[.int .u64 (n : Int)] 66)).alloc (.cells #[.pointer (some ⟨W, 6, none⟩), .pointer (some ⟨W, 5, none⟩)] 128)).drewN 1
  have b3 : Below w.heap.size w ((((w.alloc (.cells #[.pointer (some ⟨W, 0, none⟩)] 39)).alloc (.cells #[.int .u64 (n : Int)] 66)).alloc (.cells #[.pointer (some ⟨W, 6, none⟩), .pointer (some ⟨W, 5, none⟩)] 128)).drew) := (((below_alloc w _).alloc (by simp) _).alloc (by simp; omega) _).drew
  obtain ⟨N, hN⟩ : ∃ N, w.heap.size = N := ⟨_, rfl⟩
  obtain ⟨x, hxw⟩ : ∃ x, x = ((((w.alloc (.cells #[.pointer (some ⟨W, 0, none⟩)] 39)).alloc (.cells #[.int .u64 (n : Int)] 66)).alloc (.cells #[.pointer (some ⟨W, 6, none⟩), .pointer (some ⟨W, 5, none⟩)] 128)).drew) := ⟨_, rfl⟩
  have k3 : Wk x lo hi B D b R W (zc s v td none) I cf q := by rw [hxw]; exact k3
  have hsx : x.heap.size = N + 3 := by rw [hxw, ← hN]; simp
  have hs := h.hs
  rw [hN] at hs
  have x0 : Bx x hi N 39 #[.pointer (some ⟨W, 0, none⟩)] := ⟨hs, by rw [hxw, ← hN]; exact ((Cells.new w _ _).alloc _).alloc _⟩
  have xL : Bx x hi (N + 1) 66 #[.int .u64 (n : Int)] := ⟨by omega, by rw [hxw, ← hN]; exact cn1.alloc _⟩
  have xA : Bx x hi (N + 2) 128 #[.pointer (some ⟨W, 6, none⟩), .pointer (some ⟨W, 5, none⟩)] := ⟨by omega, by rw [hxw, ← hN]; exact cn2⟩
  rw [← hxw] at b3
  have f0 : Fz lo hi w x := Fz.of_below b3 (Nat.le_refl _)
  have AK : Aside (Wk x lo hi B D b R W (zc s v td none) I cf q ∧ Zh s ∧ n < 18446744073709551616 ∧ s.xl < 18446744073709551616 ∧ x.heap.size = N + 3 ∧ hi ≤ N ∧ Bx x hi N 39 #[.pointer (some ⟨W, 0, none⟩)] ∧ Bx x hi (N + 1) 66 #[.int .u64 (n : Int)] ∧ Bx x hi (N + 2) 128 #[.pointer (some ⟨W, 6, none⟩), .pointer (some ⟨W, 5, none⟩)] ∧ Fz lo hi w x) := ⟨k3, z, hn, hx, hsx, hs, x0, xL, xA, f0⟩
  have Z0 : Aside (Zr x hi W N x (zwl s n 0) none 0) := ⟨[], Ow.nil (by omega), ⟨rfl, rfl, rfl, Nat.le_refl _, fun _ _ _ => rfl⟩, xL.cell, fun j m t hj => by simp [zwl] at hj⟩
  obtain ⟨i0, hii, hz0, hz1, hz2⟩ := ginfo_parts ginfo126
  have hAm : Aside (∀ m, m ≤ 2 → m + 1 ≤ maxLen ∧ (m + 1) * 16 ≤ 140737488355328) := fun m hm => ⟨by unfold maxLen; omega, by omega⟩
  clear h z hn hx k3 hsx hs x0 xL xA b3 f0
  go_enter Tryz.func127, Tryz.ntmps127
  go_wp2_with fail
  go_region
  rw [← hxw]
  clear hxw hN
  go_wp2_with fail
  go_loopg [5, 19] 2 (fun g s5 s19 wr => ∃ (i m C : Nat) (a : Option Addr), s19 = .int .i64 (i : Int) ∧ s5 = .slice a m C ∧ Aside (i + g = 2 ∧ (zwl s n i).1.length = m ∧ Zr wr hi W N x (zwl s n i) a C))
  case atStart => exact ⟨0, 0, 0, none, rfl, rfl, rfl, rfl, Z0.out⟩
  case round =>
    obtain ⟨i, m, C, a, rfl, rfl, AR⟩ := hrel
    obtain ⟨hg, hm, hzr⟩ := AR.out
    obtain ⟨k3, z, hn, hx, hsx, hs, x0, xL, xA, f0⟩ := AK.out
    obtain ⟨xs, ho, hb, hc, hu⟩ := hzr
    have kr := k3.but xL (Or.inl rfl) hb
    have y0 : wr.cell? ⟨N, 0, none⟩ = some (.pointer (some ⟨W, 0, none⟩)) := by rw [(x0.but hb (by omega)).cell.cell]; rfl
    have yA := (xA.but hb (by omega)).cell
    by_cases hi2 : i < 2
    · obtain ⟨pc, hpc⟩ : ∃ pc, 6 - i = pc := ⟨_, rfl⟩
      obtain ⟨sv, hsv⟩ : ∃ sv, zwv s i = sv := ⟨_, rfl⟩
      obtain ⟨rem, hrem⟩ : ∃ r, (zwl s n i).2 = r := ⟨_, rfl⟩
      have hle := zwl_le s n i
      have hstep : zwl s n (i + 1) = if sv = U32 ∧ 8 ≤ rem then ((zwl s n i).1 ++ [(8, pc - 1)], rem - 8) else zwl s n i := by
        show (if zwv s i = U32 ∧ 8 ≤ (zwl s n i).2 then ((zwl s n i).1 ++ [(8, 5 - i)], (zwl s n i).2 - 8) else zwl s n i) = _
        rw [hsv, hrem, show 5 - i = pc - 1 by omega]
      have dA : wr.cell? ⟨N + 2, i, none⟩ = some (.pointer (some ⟨W, pc, none⟩)) := by
        rw [yA.cell]
        obtain rfl | rfl : i = 0 ∨ i = 1 := by omega
        · subst hpc; rfl
        · subst hpc; rfl
      have dV : wr.cell? ⟨W, pc, none⟩ = some (.int .u64 (sv : Int)) := by
        obtain rfl | rfl : i = 0 ∨ i = 1 := by omega
        · subst hpc; rw [← hsv]; exact kr.wc.a6
        · subst hpc; rw [← hsv]; exact kr.wc.a5
      have dL : wr.cell? ⟨N + 1, 0, none⟩ = some (.int .u64 (rem : Int)) := by rw [hc.cell, hrem]; rfl
      have hiI : (i : Int) < 2 := by omega
      have hzr2 : Zr wr hi W N x ((zwl s n i).1, rem) a C := by rw [← hrem]; exact ⟨xs, ho, hb, hc, hu⟩
      have AZ : Aside (Zr wr hi W N x ((zwl s n i).1, rem) a C ∧ (zwl s n i).1.length = m ∧ rem ≤ n ∧ m ≤ i ∧ i + gk = 2 ∧ hi ≤ N ∧ x.heap.size = N + 3 ∧ Zr wr hi W N x (zwl s n i) a C) := ⟨hzr2, hm, by omega, by omega, hg, hs, hsx, AR.out.2.2⟩
      have AS : Aside (zwl s n (i + 1) = if sv = U32 ∧ 8 ≤ rem then ((zwl s n i).1 ++ [(8, pc - 1)], rem - 8) else zwl s n i) := hstep
      have APC : Aside (∃ t, t ≠ 0 ∧ t ≠ 8 ∧ t ≠ 9 ∧ t + 1 = pc) := ⟨pc - 1, by omega, by omega, by omega, by omega⟩
      have hrn : rem < 18446744073709551616 := by omega
      clear AR hg hm k3 z hn hx hsx hs x0 xL xA f0 ho hb hc hu kr y0 yA hpc hsv hrem hle hstep hzr2 xs
      by_cases h1 : sv = 4294967295
      · subst h1
        by_cases h8 : 8 ≤ rem
        · have h8i : (8 : Int) ≤ (rem : Int) := by omega
          have h8d : decide ((8 : Int) ≤ (rem : Int)) = true := decide_eq_true h8i
          have hmod : ((rem : Int) - 8) % 18446744073709551616 = (rem : Int) - 8 := by omega
          have AR8 : Aside (((rem - 8 : Nat) : Int) = (rem : Int) - 8 ∧ 8 ≤ rem) := ⟨by omega, h8⟩
          clear h8 hrn
          go_wp2_with (first
            | (go_at_call 69; refine (into_c W pc wr).mono ?_; rintro e4 w4 ⟨rfl, c4, b4, s4⟩; obtain ⟨xs, how5, hlz, hgo⟩ := Zr.more AZ.out.2.2.2.2.2.1 AZ.out.2.2.2.2.2.2.1 AZ.out.1 AZ.out.2.1 (by have := AZ.out.2.2.2.1; omega) APC.out b4 s4 c4)
            | (at_builtin; refine wpList_ow Tryz.prog _ rfl (.tmp 31) (.tmp 35) 155 rfl 126 i0 _ 2 16 Tryz.underlying155 hii hz0 hz1 hz2 rfl (by decide) (N + 3) (.slice a m C) m xs (by rfl) how5 (some ⟨wr.heap.size + 1, 0, none⟩) [.int .i64 8, .func (.func 98) #[] #[.pointer (some ⟨wr.heap.size, 0, none⟩)]] 1 1 rfl (by rfl) (by intro h; cases h) (Or.inr ⟨_, _, rfl, hlz⟩) (by intro u hu; simp at hu; rcases hu with rfl | rfl <;> rfl) (hAm.out m (by have := AZ.out.2.2.2.1; omega)).1 (hAm.out m (by have := AZ.out.2.2.2.1; omega)).2 ?_; intro v6 w6 hgot; obtain ⟨a6, c6, hv6, d6, z6, T6⟩ := hgo.out v6 w6 hgot; subst hv6))
          have az := AZ.out
          have ar := AR8.out
          go_roundg (1 - i)
          case measure => omega
          case rel =>
            refine ⟨i + 1, m + 1, c6, a6, by go_num, rfl, ?_⟩
            have e := AS.out
            rw [if_pos ⟨rfl, ar.2⟩] at e
            rw [e]
            refine ⟨by omega, by show (_ ++ [_]).length = m + 1; rw [List.length_append, List.length_singleton, az.2.1], ?_⟩
            have k := T6.out (rem - 8)
            rw [ar.1] at k
            exact k
        · have h8i : ¬ (8 : Int) ≤ (rem : Int) := by omega
          have h8d : decide ((8 : Int) ≤ (rem : Int)) = false := decide_eq_false h8i
          have A8 : Aside (¬ 8 ≤ rem) := h8
          clear h8 hrn
          go_wp2_with fail
          have az := AZ.out
          go_roundg (1 - i)
          case measure => omega
          case rel =>
            refine ⟨i + 1, m, C, a, by go_num, rfl, ?_⟩
            have e := AS.out
            rw [if_neg (fun q => A8.out q.2)] at e
            rw [e]
            exact ⟨by omega, az.2.1, az.2.2.2.2.2.2.2⟩
      · have t1 : ((sv : Int) == 4294967295) = false := by rw [beq_eq_false_iff_ne]; omega
        have A1 : Aside (¬ sv = 4294967295) := h1
        clear h1 hrn
        go_wp2_with fail
        have az := AZ.out
        go_roundg (1 - i)
        case measure => omega
        case rel =>
          refine ⟨i + 1, m, C, a, by go_num, rfl, ?_⟩
          have e := AS.out
          rw [if_neg (fun q => A1.out q.1)] at e
          rw [e]
          exact ⟨by omega, az.2.1, az.2.2.2.2.2.2.2⟩
    · obtain rfl : i = 2 := by omega
      have hz2 := AR.out.2.2
      rw [zwl2] at hz2 hm
      have ke := wide_end k3 z hn hx hsx hs x0 xL f0 hz2
      rw [hm] at ke
      obtain ⟨G, hG⟩ : ∃ G : World → Prop, G = fun w' => (Wz w' lo hi B D b R W (zwid n s).1 (zwid n s).2 ∧ Fz lo hi w w') := ⟨_, rfl⟩
      have kg : Calls Tryz.prog 66 #[.pointer (some ⟨W, 0, none⟩), .func (.func 143) #[] #[.pointer (some ⟨N, 0, none⟩), .pointer (some ⟨N + 1, 0, none⟩)], .slice a m C] wr fun e w' => e = .returned (.tuple #[]) ∧ G w' := by rw [hG]; exact ke
      have AP : Aside (∀ w', G w' → (Wz w' lo hi B D b R W (zwid n s).1 (zwid n s).2 ∧ Fz lo hi w w')) := fun w' k => by rw [hG] at k; exact k
      clear AR hg hm k3 z hn hx hsx hs x0 xL xA f0 ho hb hc hu kr yA hi2 hz2 ke hG xs
      go_wp2_with (go_at_call 66; refine kg.mono ?_; rintro e3 w3 ⟨rfl, h3⟩)
      first | go_end0 | (refine bodyPost_ret (results_none rfl _ _ _) rfl ?_)
      exact ⟨rfl, AP.out _ h3⟩
end
end Go.Proofs.YtpihipbeagpgpaaGreatDoor

/-
 Places of numbers handed to closures, one behind the other; what is gathered of them.
-/
namespace Go.Proofs.YtpihipbeagpgpaaGreatDoor
open Go.RowKit
set_option linter.unusedVariables false
section
variable {lo hi B D b R W P Q be bw : Nat} {I : List Nat} {cf : Cfg} {q : Md} {c : Zc} {s : Zs} {v td : Value}
structure Ch (W : Nat) (x : World) (l : List Nat) (u : World) : Prop where
 bel : Below x.heap.size x u
 size : u.heap.size = x.heap.size + l.length
 box : ∀ (j p : Nat), l[j]? = some p → Cells u (x.heap.size + j) #[.pointer (some ⟨W, p, none⟩)] 128
theorem Ch.zero (W : Nat) (x : World) : Ch W x [] x.drew := ⟨(Below.refl _ x).drew, rfl, fun j p h => by simp at h⟩
theorem Ch.step {x u u2 : World} {l : List Nat} {p : Nat} (h : Ch W x l u) (c : Cells u2 u.heap.size #[.pointer (some ⟨W, p, none⟩)] 128) (b : Below u.heap.size u u2) (s : u2.heap.size = u.heap.size + 1) : Ch W x (l ++ [p]) u2 := by
 refine ⟨h.bel.trans (b.mono h.bel.size), by rw [s, h.size, List.length_append, List.length_singleton]; omega, fun j p' hj => ?_⟩
 by_cases hl : j < l.length
 ·rw [List.getElem?_append_left hl] at hj
  have := h.box j p' hj
  exact this.below b this.lt
 ·have hjl := (List.getElem?_eq_some_iff.1 hj).1
  rw [List.length_append, List.length_singleton] at hjl
  have e : j = l.length := by omega
  subst e
  rw [List.getElem?_append_right (Nat.le_refl _)] at hj
  simp at hj
  subst hj
  rw [← h.size]
  exact c
theorem head_ask (x w7 : World) (h : Wk x lo hi B D b R W c I cf q) (hc : Ch W x [2, 3, 4, 5, 6, 7, 8] w7) : Calls Tryz.prog 66 #[.pointer (some ⟨W, 0, none⟩), .func (.func 67) #[.pointer (some ⟨W, 0, none⟩)] #[], .slice (some ⟨x.heap.size + 1 + 1 + 1 + 1 + 1 + 1 + 1, 0, none⟩) 9 9] (w7.alloc (.cells #[.int .i64 2, .func (.func 68) #[] #[], .int .i64 2, .func (.func 98) #[] #[.pointer (some ⟨x.heap.size, 0, none⟩)], .int .i64 2, .func (.func 98) #[] #[.pointer (some ⟨x.heap.size + 1, 0, none⟩)], .int .i64 4, .func (.func 68) #[] #[], .int .i64 4, .func (.func 98) #[] #[.pointer (some ⟨x.heap.size + 1 + 1, 0, none⟩)], .int .i64 4, .func (.func 98) #[] #[.pointer (some ⟨x.heap.size + 1 + 1 + 1, 0, none⟩)], .int .i64 4, .func (.func 98) #[] #[.pointer (some ⟨x.heap.size + 1 + 1 + 1 + 1, 0, none⟩)], .int .i64 2, .func (.func 98) #[] #[.pointer (some ⟨x.heap.size + 1 + 1 + 1 + 1 + 1, 0, none⟩)], .int .i64 2, .func (.func 98) #[] #[.pointer (some ⟨x.heap.size + 1 + 1 + 1 + 1 + 1 + 1, 0, none⟩)]] 126)) fun e w' => e = .returned (.tuple #[]) ∧ ((∃ v, Wk w' lo hi B D b R W { c with nx := v } I cf q ∧ ∀ s, Nz w' hi W (zhead s) v) ∧ Fz lo hi x w') := by
 obtain ⟨o, ho⟩ : ∃ o, o = (Obj.cells #[.int .i64 2, .func (.func 68) #[] #[], .int .i64 2, .func (.func 98) #[] #[.pointer (some ⟨x.heap.size, 0, none⟩)], .int .i64 2, .func (.func 98) #[] #[.pointer (some ⟨x.heap.size + 1, 0, none⟩)], .int .i64 4, .func (.func 68) #[] #[], .int .i64 4, .func (.func 98) #[] #[.pointer (some ⟨x.heap.size + 1 + 1, 0, none⟩)], .int .i64 4, .func (.func 98) #[] #[.pointer (some ⟨x.heap.size + 1 + 1 + 1, 0, none⟩)], .int .i64 4, .func (.func 98) #[] #[.pointer (some ⟨x.heap.size + 1 + 1 + 1 + 1, 0, none⟩)], .int .i64 2, .func (.func 98) #[] #[.pointer (some ⟨x.heap.size + 1 + 1 + 1 + 1 + 1, 0, none⟩)], .int .i64 2, .func (.func 98) #[] #[.pointer (some ⟨x.heap.size + 1 + 1 + 1 + 1 + 1 + 1, 0, none⟩)]] 126) := ⟨_, rfl⟩
 have hsz := hc.size
 have h7 : w7.heap.size = x.heap.size + 1 + 1 + 1 + 1 + 1 + 1 + 1 := by rw [hsz]; rfl
 have b6 : Below x.heap.size x (w7.alloc o) := hc.bel.alloc hc.bel.size o
 have hs := h.hs
 have hb : ∀ (j p : Nat), [2, 3, 4, 5, 6, 7, 8][j]? = some p → Bx (w7.alloc o) hi (x.heap.size + j) 128 #[.pointer (some ⟨W, p, none⟩)] := fun j p hj => ⟨by omega, (hc.box j p hj).alloc o⟩
 have k6 := h.below b6 (Nat.le_refl _)
 have hl : Fls (w7.alloc o) hi W 0 0 (x.heap.size + 1 + 1 + 1 + 1 + 1 + 1 + 1) 0 [(2, 0), (2, 1), (2, 2), (4, 0), (4, 3), (4, 4), (4, 5), (2, 6), (2, 7)] := by
  refine ⟨_, ⟨by omega, by rw [← h7, ho]; exact Cells.new _ _ _⟩, fun j m t hj => ?_⟩
  have hj2 : j < 9 := (List.getElem?_eq_some_iff.1 hj).1
  obtain rfl | rfl | rfl | rfl | rfl | rfl | rfl | rfl | rfl : j = 0 ∨ j = 1 ∨ j = 2 ∨ j = 3 ∨ j = 4 ∨ j = 5 ∨ j = 6 ∨ j = 7 ∨ j = 8 := by omega
  ·simp at hj; obtain ⟨rfl, rfl⟩ := hj; exact ⟨rfl, _, rfl, Or.inl ⟨rfl, rfl⟩⟩
  ·simp at hj; obtain ⟨rfl, rfl⟩ := hj; exact ⟨rfl, _, rfl, Or.inr ⟨by decide, _, rfl, (hb 0 _ rfl)⟩⟩
  ·simp at hj; obtain ⟨rfl, rfl⟩ := hj; exact ⟨rfl, _, rfl, Or.inr ⟨by decide, _, rfl, (hb 1 _ rfl)⟩⟩
  ·simp at hj; obtain ⟨rfl, rfl⟩ := hj; exact ⟨rfl, _, rfl, Or.inl ⟨rfl, rfl⟩⟩
  ·simp at hj; obtain ⟨rfl, rfl⟩ := hj; exact ⟨rfl, _, rfl, Or.inr ⟨by decide, _, rfl, (hb 2 _ rfl)⟩⟩
  ·simp at hj; obtain ⟨rfl, rfl⟩ := hj; exact ⟨rfl, _, rfl, Or.inr ⟨by decide, _, rfl, (hb 3 _ rfl)⟩⟩
  ·simp at hj; obtain ⟨rfl, rfl⟩ := hj; exact ⟨rfl, _, rfl, Or.inr ⟨by decide, _, rfl, (hb 4 _ rfl)⟩⟩
  ·simp at hj; obtain ⟨rfl, rfl⟩ := hj; exact ⟨rfl, _, rfl, Or.inr ⟨by decide, _, rfl, (hb 5 _ rfl)⟩⟩
  ·simp at hj; obtain ⟨rfl, rfl⟩ := hj; exact ⟨rfl, _, rfl, Or.inr ⟨by decide, _, rfl, (hb 6 _ rfl)⟩⟩
 rw [← ho]
 refine (gath_c 0 0 (x.heap.size + 1 + 1 + 1 + 1 + 1 + 1 + 1) 0 9 (.func 67) #[.pointer (some ⟨W, 0, none⟩)] #[] [(2, 0), (2, 1), (2, 2), (4, 0), (4, 3), (4, 4), (4, 5), (2, 6), (2, 7)] (by simp) (by decide) (by decide) (w7.alloc o) k6 hl).mono ?_
 rintro e w' ⟨rfl, ⟨v', a1, a2⟩, f⟩
 exact ⟨rfl, ⟨v', a1, fun s => a2 _ rfl rfl rfl (Or.inl ⟨rfl, rfl⟩)⟩, (Fz.of_below b6 (Nat.le_refl _)).trans f⟩
theorem both_ask (n : Nat) (x w7 : World) (h : Wk x lo hi B D b R W c I cf q) (hc : Ch W x [5, 6] w7) : Calls Tryz.prog 66 #[.pointer (some ⟨W, 0, none⟩), .func (.func 154) #[.pointer (some ⟨W, 0, none⟩)] #[], .slice (some ⟨x.heap.size + 1 + 1, 0, none⟩) 2 2] (w7.alloc (.cells #[.int .i64 (n : Int), .func (.func 98) #[] #[.pointer (some ⟨x.heap.size, 0, none⟩)], .int .i64 (n : Int), .func (.func 98) #[] #[.pointer (some ⟨x.heap.size + 1, 0, none⟩)]] 126)) fun e w' => e = .returned (.tuple #[]) ∧ ((∃ v, Wk w' lo hi B D b R W { c with nx := v } I cf q ∧ ∀ s : Zs, s.ph = 2 → s.k = 5 → s.bs = [] → s.fs = [(n, 4), (n, 5)] → Nz w' hi W s v) ∧ Fz lo hi x w') := by
 obtain ⟨o, ho⟩ : ∃ o, o = (Obj.cells #[.int .i64 (n : Int), .func (.func 98) #[] #[.pointer (some ⟨x.heap.size, 0, none⟩)], .int .i64 (n : Int), .func (.func 98) #[] #[.pointer (some ⟨x.heap.size + 1, 0, none⟩)]] 126) := ⟨_, rfl⟩
 have hsz := hc.size
 have h7 : w7.heap.size = x.heap.size + 1 + 1 := by rw [hsz]; rfl
 have b6 : Below x.heap.size x (w7.alloc o) := hc.bel.alloc hc.bel.size o
 have hs := h.hs
 have hb : ∀ (j p : Nat), [5, 6][j]? = some p → Bx (w7.alloc o) hi (x.heap.size + j) 128 #[.pointer (some ⟨W, p, none⟩)] := fun j p hj => ⟨by omega, (hc.box j p hj).alloc o⟩
 have k6 := h.below b6 (Nat.le_refl _)
 have hl : Fls (w7.alloc o) hi W 0 0 (x.heap.size + 1 + 1) 0 [(n, 4), (n, 5)] := by
  refine ⟨_, ⟨by omega, by rw [← h7, ho]; exact Cells.new _ _ _⟩, fun j m t hj => ?_⟩
  have hj2 : j < 2 := (List.getElem?_eq_some_iff.1 hj).1
  obtain rfl | rfl : j = 0 ∨ j = 1 := by omega
  ·simp at hj; obtain ⟨rfl, rfl⟩ := hj; exact ⟨rfl, _, rfl, Or.inr ⟨by decide, _, rfl, (hb 0 _ rfl)⟩⟩
  ·simp at hj; obtain ⟨rfl, rfl⟩ := hj; exact ⟨rfl, _, rfl, Or.inr ⟨by decide, _, rfl, (hb 1 _ rfl)⟩⟩
 rw [← ho]
 refine (gath_c 0 0 (x.heap.size + 1 + 1) 0 2 (.func 154) #[.pointer (some ⟨W, 0, none⟩)] #[] [(n, 4), (n, 5)] (by simp) (Nat.le_refl 2) (by decide) (w7.alloc o) k6 hl).mono ?_
 rintro e w' ⟨rfl, ⟨v', a1, a2⟩, f⟩
 exact ⟨rfl, ⟨v', a1, fun s h1 h2 h3 h4 => a2 s h1 h3 h4 (Or.inr (Or.inr (Or.inr (Or.inr (Or.inr ⟨h2, rfl⟩)))))⟩, (Fz.of_below b6 (Nat.le_refl _)).trans f⟩
theorem sum_ask (bx : Nat) (F : Fn) (fb fc : Array Value) (w : World) (h : Wk w lo hi B D b R W c I cf q) (hx : Bx w hi bx 128 #[.pointer (some ⟨W, 4, none⟩)]) : Calls Tryz.prog 66 #[.pointer (some ⟨W, 0, none⟩), .func F fb fc, .slice (some ⟨w.heap.size, 0, none⟩) 1 1] (w.alloc (.cells #[.int .i64 4, .func (.func 98) #[] #[.pointer (some ⟨bx, 0, none⟩)]] 126)) fun e w' => e = .returned (.tuple #[]) ∧ ((∃ v, Wk w' lo hi B D b R W { c with nx := v } I cf q ∧ ∀ s : Zs, s.ph = 2 → s.bs = [] → s.fs = [(4, 3)] → Th (w.alloc (.cells #[.int .i64 4, .func (.func 98) #[] #[.pointer (some ⟨bx, 0, none⟩)]] 126)) hi W 0 0 (w.heap.size + 1) s (.func F fb fc) → Nz w' hi W s v) ∧ Fz lo hi w w') := by
 obtain ⟨o, ho⟩ : ∃ o, o = (Obj.cells #[.int .i64 4, .func (.func 98) #[] #[.pointer (some ⟨bx, 0, none⟩)]] 126) := ⟨_, rfl⟩
 have b6 : Below w.heap.size w (w.alloc o) := below_alloc w o
 have hs := h.hs
 have k6 := h.below b6 (Nat.le_refl _)
 have hb := hx.kz (Kz.of_below b6 (Nat.le_refl _)) (by simp [Bq])
 have hl : Fls (w.alloc o) hi W 0 0 w.heap.size 0 [(4, 3)] := by
  refine ⟨_, ⟨by omega, by rw [ho]; exact Cells.new _ _ _⟩, fun j m t hj => ?_⟩
  have hj2 : j < 1 := (List.getElem?_eq_some_iff.1 hj).1
  obtain rfl : j = 0 := by omega
  simp at hj; obtain ⟨rfl, rfl⟩ := hj; exact ⟨rfl, _, rfl, Or.inr ⟨by decide, _, rfl, hb⟩⟩
 rw [← ho]
 refine (gath_c 0 0 w.heap.size 0 1 F fb fc [(4, 3)] (by simp) (by decide) (by decide) (w.alloc o) k6 hl).mono ?_
 rintro e w' ⟨rfl, ⟨v', a1, a2⟩, f⟩
 refine ⟨rfl, ⟨v', a1, fun s h1 h3 h4 hT => a2 s h1 h3 h4 ?_⟩, (Fz.of_below b6 (Nat.le_refl _)).trans f⟩
 have e : (w.alloc o).heap.size = w.heap.size + 1 := by simp
 rw [e]
 exact hT
end
end Go.Proofs.YtpihipbeagpgpaaGreatDoor

/-
 An entry begins: header; its name: name; a record that is wide.
-/
namespace Go.Proofs.YtpihipbeagpgpaaGreatDoor
open Go.RowKit
set_option linter.unusedVariables false
section
variable {P : Program}
structure Midz (D off : Nat) (f f' : Nat → Value) (vs : List Value) (w w' : World) : Prop where
 cells : Cells w' D (kz f') 72
 only : Only D w w'
 new : ∀ (j : Nat) (v : Value), vs[j]? = some v → f' (off + j) = v
 old : ∀ j, j < off ∨ off + vs.length ≤ j → f' j = f j
theorem store_midz (D off : Nat) : ∀ (vs : List Value) (i : Nat) (f : Nat → Value) (w : World), Cells w D (kz f) 72 → off + i + vs.length ≤ 278 → (∀ v ∈ vs, v.oneCell' = true) →
  ∃ w' f', (storeCells ⟨D, off, none⟩ vs i).run P w = .ok () w' ∧ Midz D (off + i) f f' vs w w'
 | [], i, f, w, hc, hl, h1 => ⟨w, f, rfl, hc, Only.refl _ _, fun j v h => by simp at h, fun _ _ => rfl⟩
 | v :: rest, i, f, w, hc, hl, h1 => by
  rw [List.length_cons] at hl
  have hadd : (⟨D, off, none⟩ : Addr).add i = ⟨D, off + i, none⟩ := by unfold Addr.add; split <;> simp_all
  have hcell : w.cell? ⟨D, off + i, none⟩ = some (f (off + i)) := (hc.cell _).trans (kz_at f (by omega))
  have hfro := hc.frozen (off + i)
  have hst : (store ((⟨D, off, none⟩ : Addr).add i) v).run P w = .ok () (w.setCell ⟨D, off + i, none⟩ v) := by
   rw [hadd, run_store P w _ v _ (h1 v (by simp)), hcell]
   simp [hfro]
  have hc2 : Cells (w.setCell ⟨D, off + i, none⟩ v) D (kz (upd f (off + i) v)) 72 := by
   have := hc.set (off + i) v
   rwa [kz_set] at this
  obtain ⟨w', f', h2, h3⟩ := store_midz D off rest (i + 1) (upd f (off + i) v) _ hc2 (by omega) (fun x hx => h1 x (by simp [hx]))
  refine ⟨w', f', ?_, h3.cells, ((Only.refl D w).setCell _ _).trans h3.only, ?_, ?_⟩
  ·simp only [storeCells, Sem.run_bind, hst, Result.andThen_ok, h2]
  ·intro j x hj
   cases j with
   | zero =>
    rw [List.getElem?_cons_zero] at hj
    cases hj
    rw [Nat.add_zero, h3.old _ (Or.inl (by omega)), upd_same]
   | succ j =>
    rw [List.getElem?_cons_succ] at hj
    have := h3.new j x hj
    rw [show off + i + (j + 1) = off + (i + 1) + j by omega]
    exact this
  ·intro j hj
   rw [List.length_cons] at hj
   rw [h3.old j (by omega), upd_ne _ _ (by omega)]
theorem wpList_store_midz {ops : Array Oper} {rest : List Oper} {o : Oper} {a : Act} {w : World} {Q : Exit → Act → World → Prop} (hgd : o.guard = none) (ty : TypeId) (x y : Operand) (ho : o.op = .store ty x y)
  (D off : Nat) (cells : Array Value) (hx : a.eval x = .pointer (some ⟨D, off, none⟩)) (hy : a.eval y = .agg cells) (f : Nat → Value) (hg : Cells w D (kz f) 72) (hi : (P.info? ty).map (·.size) = some cells.size)
  (hle : off + cells.size ≤ 278) (h1 : cells.all (·.oneCell') = true)
  (h : ∀ w' f', Midz D off f f' cells.toList w w' → wpList P ops Q rest (a.put o.dst undef) w') : wpList P ops Q (o :: rest) a w := by
 refine wpList_plain hgd fun K hK => ?_
 obtain ⟨w', f', h2, h3⟩ := store_midz (P := P) D off cells.toList 0 f w hg (by simp; omega) (fun v hv => (Array.all_eq_true_iff_forall_mem.1 h1) v (by simpa using hv))
 have hv : (storeVar ty ⟨D, off, none⟩ (.agg cells)).run P w = .ok () w' := by
  cases hq : P.info? ty with
  | none => simp [hq] at hi
  | some i =>
   have hs : cells.size = i.size := by simp [hq] at hi; omega
   simp [storeVar, sizeOf, typeInfo, hq, Value.cells, hs, h2]
 unfold Oper.wp execOp
 simp only [ho, hx, hy, Instr.storeAt, Instr.sureAddr, Sem.run_bind, Sem.run_pure, Result.andThen_ok, hv]
 exact hK _ _ (h w' f' h3)
end
theorem ite_onez {p : Prop} [Decidable p] {a b : Value} (ha : a.oneCell' = true) (hb : b.oneCell' = true) : (if p then a else b).oneCell' = true := by
 split
 ·exact ha
 ·exact hb
def ef (i : Nat) : Value := if i < 7 then .int .u64 0 else if i = 7 then .bool false else if i < 264 then .int .u8 0 else if i < 266 then .int .u64 0 else .int .u32 0
theorem ef_one (i : Nat) : (ef i).oneCell' = true := by
 unfold ef
 exact ite_onez rfl (ite_onez rfl (ite_onez rfl (ite_onez rfl rfl)))
theorem ef_cells : Tryz.zeroCells70 = ((List.range 267).map ef).toArray := by kernel_rfl
theorem size70 : (Tryz.prog.info? 70).map (·.size) = some 267 := by kernel_rfl
section
variable {lo hi B D b R W P Q be bw : Nat} {I : List Nat} {cf : Cfg} {q : Md} {c : Zc} {s : Zs} {v td : Value}
def zce (c : Zc) : Zc := { c with fl := 0, me := 0, su := 0, pk := 0, sz := 0, nl := 0, xl := 0, wd := false, nm := [], tk := 0, gv := 0, sg := 0 }
theorem Midz.entry {w w' : World} {f f' : Nat → Value} (h : Midz W 2 f f' ((List.range 267).map ef) w w') (hw : Wf f D c) : Wf f' D (zce c) := by
 have hl : ((List.range 267).map ef).length = 267 := by simp
 have ho : ∀ j, j < 2 ∨ 269 ≤ j → f' j = f j := fun j hj => h.old j (by rw [hl]; omega)
 have hnw : ∀ j, j < 267 → f' (2 + j) = ef j := fun j hj => h.new j (ef j) (by simp [hj])
 refine ⟨(ho 0 (by omega)).trans hw.c0, (ho 1 (by omega)).trans hw.c1, hnw 0 (by omega), hnw 1 (by omega), hnw 2 (by omega), hnw 3 (by omega), hnw 4 (by omega), hnw 5 (by omega), hnw 6 (by omega), hnw 7 (by omega), hnw 264 (by omega), hnw 265 (by omega), hnw 266 (by omega), (ho 269 (by omega)).trans hw.c269, (ho 270 (by omega)).trans hw.c270, (ho 271 (by omega)).trans hw.c271, (ho 272 (by omega)).trans hw.c272, (ho 273 (by omega)).trans hw.c273, (ho 274 (by omega)).trans hw.c274, (ho 275 (by omega)).trans hw.c275, (ho 276 (by omega)).trans hw.c276, (ho 277 (by omega)).trans hw.c277, by show (0 : Nat) ≤ 256; decide, fun j x hx => by simp [zce] at hx⟩
set_option maxRecDepth 20000 in
set_option maxHeartbeats 20000000 in
theorem header_c (w : World) (h : Wk w lo hi B D b R W c I cf q) : Calls Tryz.prog 47 #[.pointer (some ⟨W, 0, none⟩)] w fun e w' => e = .returned (.tuple #[]) ∧ ((∃ v, Wk w' lo hi B D b R W { zce c with nx := v } I cf q ∧ ∀ s, Nz w' hi W (zhead s) v) ∧ Fz lo hi w w') := by
 obtain ⟨f, hf, hwf⟩ := h.wc.ex
 have hz := ef_cells
 have hs : (((List.range 267).map ef).toArray).size = 267 := by simp
 have h1 : (((List.range 267).map ef).toArray).all (·.oneCell') = true := by
  rw [Array.all_eq_true_iff_forall_mem]
  intro x hx
  simp only [List.mem_toArray, List.mem_map] at hx
  obtain ⟨i, _, rfl⟩ := hx
  exact ef_one i
 obtain ⟨Z, hZ⟩ : ∃ Z, ((List.range 267).map ef).toArray = Z := ⟨_, rfl⟩
 rw [hZ] at hz hs h1
 have A : Aside (Wk w lo hi B D b R W c I cf q ∧ Wf f D c ∧ ((List.range 267).map ef).toArray = Z) := ⟨h, hwf, hZ⟩
 clear h hwf hZ
 go_enter Tryz.func47, Tryz.ntmps47
 go_upto_region 2 with (refine wpList_store_midz rfl 70 (.tmp 6) (.tmp 4) rfl W 2 Z (by rfl) (by rfl) f hf (by rw [hs]; exact size70) (by rw [hs]; omega) h1 ?_; intro w3 f3 hm)
 have k3 : Wk w3 lo hi B D b R W (zce c) I cf q := by
  obtain ⟨h, hwf, hZ⟩ := A.out
  have e : Z.toList = (List.range 267).map ef := by rw [← hZ]
  rw [e] at hm
  exact h.set hm.only ⟨f3, hm.cells, hm.entry hwf⟩
 have f3w : Aside (Fz lo hi w w3) := A.out.1.fw hm.only
 obtain ⟨x, hx⟩ : ∃ x, x = w3 := ⟨_, rfl⟩
 have ka := fun w7 => head_ask x w7 (by rw [hx]; exact k3)
 obtain ⟨G, hG⟩ : ∃ G : World → Prop, G = fun w' => ((∃ v, Wk w' lo hi B D b R W { zce c with nx := v } I cf q ∧ ∀ s, Nz w' hi W (zhead s) v) ∧ Fz lo hi w w') := ⟨_, rfl⟩
 have kq : Aside (∀ w7, Ch W x [2, 3, 4, 5, 6, 7, 8] w7 → Calls Tryz.prog 66 #[.pointer (some ⟨W, 0, none⟩), .func (.func 67) #[.pointer (some ⟨W, 0, none⟩)] #[], .slice (some ⟨x.heap.size + 1 + 1 + 1 + 1 + 1 + 1 + 1, 0, none⟩) 9 9] (w7.alloc (.cells #[.int .i64 2, .func (.func 68) #[] #[], .int .i64 2, .func (.func 98) #[] #[.pointer (some ⟨x.heap.size, 0, none⟩)], .int .i64 2, .func (.func 98) #[] #[.pointer (some ⟨x.heap.size + 1, 0, none⟩)], .int .i64 4, .func (.func 68) #[] #[], .int .i64 4, .func (.func 98) #[] #[.pointer (some ⟨x.heap.size + 1 + 1, 0, none⟩)], .int .i64 4, .func (.func 98) #[] #[.pointer (some ⟨x.heap.size + 1 + 1 + 1, 0, none⟩)], .int .i64 4, .func (.func 98) #[] #[.pointer (some ⟨x.heap.size + 1 + 1 + 1 + 1, 0, none⟩)], .int .i64 2, .func (.func 98) #[] #[.pointer (some ⟨x.heap.size + 1 + 1 + 1 + 1 + 1, 0, none⟩)], .int .i64 2, .func (.func 98) #[] #[.pointer (some ⟨x.heap.size + 1 + 1 + 1 + 1 + 1 + 1, 0, none⟩)]] 126)) fun e w' => e = .returned (.tuple #[]) ∧ G w') := fun w7 hc => by
  rw [hG]
  refine (ka w7 hc).mono fun e w' ⟨a, b, f⟩ => ⟨a, b, f3w.out.trans (by rw [← hx]; exact f)⟩
 have AP : Aside (∀ w', G w' → ((∃ v, Wk w' lo hi B D b R W { zce c with nx := v } I cf q ∧ ∀ s, Nz w' hi W (zhead s) v) ∧ Fz lo hi w w')) := fun w' k => by rw [hG] at k; exact k
 have ch : Aside (Ch W x [] x.drew) := Ch.zero W x
 rw [← hx]
 clear hx k3 hm ka hG f3w A hz hs h1 hf
 go_region_held3 (fun y => True) (trivial) (first
  | (go_at_call 69; refine (into_c _ _ _).mono ?_; rintro e4 w4 ⟨rfl, c4, b4, s4⟩; have ch : Aside (Ch W x _ w4) := ch.out.step c4 b4 s4; clear c4 b4)
  | (go_at_call 66; refine (kq.out _ ch.out).mono ?_; rintro e6 w6 ⟨rfl, h6⟩))
 all_goals
  go_wp2_with fail
  first | go_end0 | (refine bodyPost_ret (results_none rfl _ _ _) rfl ?_)
  exact ⟨rfl, AP.out _ h6⟩
end
end Go.Proofs.YtpihipbeagpgpaaGreatDoor

/-
 What stands behind the data: sumBehind, bothBehind.
-/
namespace Go.Proofs.YtpihipbeagpgpaaGreatDoor
open Go.RowKit
set_option linter.unusedVariables false
structure Zd (s : Zs) : Prop where
 why : s.why = 0
 ph : s.ph ≠ 1
 sg : s.sg < 4294967296
section
variable {lo hi B D b R W P Q be bw : Nat} {I : List Nat} {cf : Cfg} {q : Md} {c : Zc} {s : Zs} {v td : Value}
set_option maxHeartbeats 1000000 in
theorem both_c (w : World) (h : Wk w lo hi B D b R W (zc s v td none) I cf q) (z : Zd s) : Calls Tryz.prog 168 #[.pointer (some ⟨W, 0, none⟩)] w fun e w' => e = .returned (.tuple #[]) ∧ (Wz w' lo hi B D b R W (zboth s).1 (zboth s).2 ∧ Fz lo hi w w') := by
 have d4 : w.cell? ⟨W, 4, none⟩ = some (.int .u64 (s.su : Int)) := h.wc.a4
 have d9 : w.cell? ⟨W, 9, none⟩ = some (.bool s.wd) := h.wc.a9
 have d268 : w.cell? ⟨W, 268, none⟩ = some (.int .u32 (s.sg : Int)) := h.wc.a268
 have c277 := h.wc.a277
 have z277 := h.wc.fz 277
 have hmod : (s.sg : Int) % 18446744073709551616 = (s.sg : Int) := by have := z.sg; omega
 by_cases hb : s.su = s.sg
 ·have e : zboth s = ({ s with ph := 2, k := 5, fs := if s.wd = true then [(8, 4), (8, 5)] else [(4, 4), (4, 5)], bs := [] }, []) := by unfold zboth; rw [if_pos hb]
  rw [e]
  obtain ⟨n, hn⟩ : ∃ n : Nat, (if s.wd = true then 8 else 4) = n := ⟨_, rfl⟩
  have en : (if s.wd = true then [(8, 4), (8, 5)] else [(4, 4), (4, 5)] : List (Nat × Nat)) = [(n, 4), (n, 5)] := by
   rw [← hn]; split <;> rfl
  rw [en]
  have kg : ∀ m w7, Ch W (w.drewN m) [5, 6] w7 → Calls Tryz.prog 66 #[.pointer (some ⟨W, 0, none⟩), .func (.func 154) #[.pointer (some ⟨W, 0, none⟩)] #[], .slice (some ⟨w.heap.size + 1 + 1, 0, none⟩) 2 2] (w7.alloc (.cells #[.int .i64 (n : Int), .func (.func 98) #[] #[.pointer (some ⟨w.heap.size, 0, none⟩)], .int .i64 (n : Int), .func (.func 98) #[] #[.pointer (some ⟨w.heap.size + 1, 0, none⟩)]] 126)) fun e w' => e = .returned (.tuple #[]) ∧ (Wz w' lo hi B D b R W { s with ph := 2, k := 5, fs := [(n, 4), (n, 5)], bs := [] } [] ∧ Fz lo hi w w') := fun m w7 hc => by
   refine (both_ask n (w.drewN m) w7 (h.drewN m) hc).mono ?_
   rintro e w' ⟨rfl, ⟨v', a1, a2⟩, f⟩
   refine ⟨rfl, Or.inl ⟨rfl, v', td, I, cf, q, ?_, fun _ => a2 _ rfl rfl rfl rfl, fun e => by rcases e with e | e <;> cases e⟩, (Fz.drewN w m).trans f⟩
   have e : zc ({ s with ph := 2, k := 5, fs := [(n, 4), (n, 5)], bs := [] } : Zs) v' td none = { zc s v td none with nx := v' } := by
    unfold zc
    simp [z.ph]
   rw [e]
   exact a1
  obtain ⟨G, hG⟩ : ∃ G : World → Prop, G = fun w' => (Wz w' lo hi B D b R W { s with ph := 2, k := 5, fs := [(n, 4), (n, 5)], bs := [] } [] ∧ Fz lo hi w w') := ⟨_, rfl⟩
  have kq : Aside (∀ m w7, Ch W (w.drewN m) [5, 6] w7 → Calls Tryz.prog 66 #[.pointer (some ⟨W, 0, none⟩), .func (.func 154) #[.pointer (some ⟨W, 0, none⟩)] #[], .slice (some ⟨w.heap.size + 1 + 1, 0, none⟩) 2 2] (w7.alloc (.cells #[.int .i64 (n : Int), .func (.func 98) #[] #[.pointer (some ⟨w.heap.size, 0, none⟩)], .int .i64 (n : Int), .func (.func 98) #[] #[.pointer (some ⟨w.heap.size + 1, 0, none⟩)]] 126)) fun e w' => e = .returned (.tuple #[]) ∧ G w') := by rw [hG]; exact kg
  have AP : Aside (∀ w', G w' → (Wz w' lo hi B D b R W { s with ph := 2, k := 5, fs := [(n, 4), (n, 5)], bs := [] } [] ∧ Fz lo hi w w')) := fun w' k => by rw [hG] at k; exact k
  obtain ⟨su, hsu⟩ : ∃ n, s.su = n := ⟨_, rfl⟩
  obtain ⟨wd, hwd⟩ : ∃ n, s.wd = n := ⟨_, rfl⟩
  rw [← hb] at d268 hmod
  rw [hsu] at d4 d268 hmod
  rw [hwd] at d9 hn
  clear h z e en kg hG hsu hwd hb
  have ch0 : ∀ m, Aside (Ch W (w.drewN m) [] (w.drewN m).drew) := fun m => Ch.zero W (w.drewN m)
  cases wd with
  | true =>
   obtain rfl : 8 = n := hn
   go_enter Tryz.func168, Tryz.ntmps168
   go_wp2_with fail
   go_quiet (fail)
   go_wp2_with fail
   have ch := ch0 nq
   clear ch0
   go_region_held3 (fun y => True) (trivial) (first
    | (go_at_call 69; refine (into_c _ _ _).mono ?_; rintro e4 w4 ⟨rfl, c4, b4, s4⟩; have ch : Aside (Ch W _ _ w4) := ch.out.step c4 b4 s4; clear c4 b4)
    | (go_at_call 66; refine (kq.out _ _ ch.out).mono ?_; rintro e6 w6 ⟨rfl, h6⟩))
   all_goals
    go_wp2_with fail
    first | go_end0 | (refine bodyPost_ret (results_none rfl _ _ _) rfl ?_)
    exact ⟨rfl, AP.out _ h6⟩
  | false =>
   obtain rfl : 4 = n := hn
   go_enter Tryz.func168, Tryz.ntmps168
   go_wp2_with fail
   go_quiet (fail)
   go_wp2_with fail
   have ch := ch0 nq
   clear ch0
   go_region_held3 (fun y => True) (trivial) (first
    | (go_at_call 69; refine (into_c _ _ _).mono ?_; rintro e4 w4 ⟨rfl, c4, b4, s4⟩; have ch : Aside (Ch W _ _ w4) := ch.out.step c4 b4 s4; clear c4 b4)
    | (go_at_call 66; refine (kq.out _ _ ch.out).mono ?_; rintro e6 w6 ⟨rfl, h6⟩))
   all_goals
    go_wp2_with fail
    first | go_end0 | (refine bodyPost_ret (results_none rfl _ _ _) rfl ?_)
    exact ⟨rfl, AP.out _ h6⟩
 ·have e : zboth s = (zbad 44 s, []) := by unfold zboth; rw [if_neg hb]
  rw [e]
  have AH : Aside (Wk w lo hi B D b R W (zc s v td none) I cf q) := h
  obtain ⟨su, hsu⟩ : ∃ n, s.su = n := ⟨_, rfl⟩
  obtain ⟨sg, hsg⟩ : ∃ n, s.sg = n := ⟨_, rfl⟩
  rw [hsu] at d4 hb
  rw [hsg] at d268 hb hmod
  have t0 : ((su : Int) != (sg : Int)) = true := by rw [bne_iff_ne]; omega
  clear h z e hsu hsg hb
  go_enter Tryz.func168, Tryz.ntmps168
  go_wp2_with fail
  go_quiet (fail)
  go_wp2_with fail
  first | go_end0 | (refine bodyPost_ret (results_none rfl _ _ _) rfl ?_)
  have h := AH.out
  exact ⟨rfl, Or.inl ⟨rfl, v, td, I, cf, q, (h.drewN _).set ((Only.refl W _).setCell 277 _) ((h.drewN _).wc.s277 44), fun e => absurd e (by show ¬ (44 : Nat) = 0; decide), fun _ e => absurd e (by show ¬ (44 : Nat) = 0; decide)⟩, (Fz.drewN w _).trans ((h.drewN _).fw ((Only.refl W _).setCell 277 _))⟩
theorem sum1_c (F bx : Nat) (w : World) (h : Wk w lo hi B D b R W (zc s v td none) I cf q) (z : Zd s) (xw : Bx w hi bw 39 #[ptr W 0]) (xF : Bx w hi F 126 #[.int .i64 4, cl 98 #[ptr bx 0]]) (xb : Bx w hi bx 128 #[ptr W 4]) : Calls Tryz.prog 167 #[.pointer (some ⟨bw, 0, none⟩), .pointer (some ⟨F, 0, none⟩)] w fun e w' => e = .returned (.tuple #[]) ∧ (Wz w' lo hi B D b R W (zsum1 s).1 (zsum1 s).2 ∧ Fz lo hi w w') := by
 have d4 : w.cell? ⟨W, 4, none⟩ = some (.int .u64 (s.su : Int)) := h.wc.a4
 have dw : w.cell? ⟨bw, 0, none⟩ = some (.pointer (some ⟨W, 0, none⟩)) := by rw [xw.cell.cell]; rfl
 have dF0 : w.cell? ⟨F, 0, none⟩ = some (.int .i64 4) := by rw [xF.cell.cell]; rfl
 have dF1 : w.cell? ⟨F, 1, none⟩ = some (.func (.func 98) #[] #[.pointer (some ⟨bx, 0, none⟩)]) := by rw [xF.cell.cell]; rfl
 by_cases hm : s.su = 134695760
 ·have e : zsum1 s = ({ s with ph := 2, k := 4, fs := [(4, 3)], bs := [] }, []) := by unfold zsum1; rw [if_pos hm]
  rw [e]
  have ks := sum_ask bx (.func 168) #[.pointer (some ⟨W, 0, none⟩)] #[] w h xb
  have kg : Calls Tryz.prog 66 #[.pointer (some ⟨W, 0, none⟩), .func (.func 168) #[.pointer (some ⟨W, 0, none⟩)] #[], .slice (some ⟨w.heap.size, 0, none⟩) 1 1] (w.alloc (.cells #[.int .i64 4, .func (.func 98) #[] #[.pointer (some ⟨bx, 0, none⟩)]] 126)) fun e w' => e = .returned (.tuple #[]) ∧ (Wz w' lo hi B D b R W { s with ph := 2, k := 4, fs := [(4, 3)], bs := [] } [] ∧ Fz lo hi w w') := by
   refine ks.mono ?_
   rintro e w' ⟨rfl, ⟨v', a1, a2⟩, f⟩
   refine ⟨rfl, Or.inl ⟨rfl, v', td, I, cf, q, ?_, fun _ => a2 _ rfl rfl rfl (Or.inr (Or.inr (Or.inr (Or.inr (Or.inl ⟨rfl, rfl⟩))))), fun e => by rcases e with e | e <;> cases e⟩, f⟩
   have e : zc ({ s with ph := 2, k := 4, fs := [(4, 3)], bs := [] } : Zs) v' td none = { zc s v td none with nx := v' } := by
    unfold zc
    simp [z.ph]
   rw [e]
   exact a1
  obtain ⟨G, hG⟩ : ∃ G : World → Prop, G = fun w' => (Wz w' lo hi B D b R W { s with ph := 2, k := 4, fs := [(4, 3)], bs := [] } [] ∧ Fz lo hi w w') := ⟨_, rfl⟩
  rw [show (fun (e : Ending) (w' : World) => e = .returned (.tuple #[]) ∧ (Wz w' lo hi B D b R W { s with ph := 2, k := 4, fs := [(4, 3)], bs := [] } [] ∧ Fz lo hi w w')) = fun e w' => e = .returned (.tuple #[]) ∧ G w' by rw [hG]] at kg ⊢
  rw [hm] at d4
  clear h z xw xF xb e ks hG hm
  go_enter Tryz.func167, Tryz.ntmps167
  go_wp2_with (go_at_call 66; refine kg.mono ?_; rintro e3 w3 ⟨rfl, h3⟩)
  first | go_end0 | (refine bodyPost_ret (results_none rfl _ _ _) rfl ?_)
  exact ⟨rfl, h3⟩
 ·have e : zsum1 s = zboth s := by unfold zsum1; rw [if_neg hm]
  rw [e]
  have kb := both_c w h z
  obtain ⟨G, hG⟩ : ∃ G : World → Prop, G = fun w' => (Wz w' lo hi B D b R W (zboth s).1 (zboth s).2 ∧ Fz lo hi w w') := ⟨_, rfl⟩
  rw [show (fun (e : Ending) (w' : World) => e = .returned (.tuple #[]) ∧ (Wz w' lo hi B D b R W (zboth s).1 (zboth s).2 ∧ Fz lo hi w w')) = fun e w' => e = .returned (.tuple #[]) ∧ G w' by rw [hG]] at kb ⊢
  obtain ⟨su, hsu⟩ : ∃ n, s.su = n := ⟨_, rfl⟩
  rw [hsu] at d4 hm
  have t0 : ((su : Int) == 134695760) = false := by rw [beq_eq_false_iff_ne]; omega
  clear h z xw xF xb e hG hm hsu
  go_enter Tryz.func167, Tryz.ntmps167
  go_wp2_with (go_at_call 168; refine kb.mono ?_; rintro e3 w3 ⟨rfl, h3⟩)
  first | go_end0 | (refine bodyPost_ret (results_none rfl _ _ _) rfl ?_)
  exact ⟨rfl, h3⟩
theorem sumb_c (w : World) (h : Wk w lo hi B D b R W (zc s v td none) I cf q) (z : Zd s) : Calls Tryz.prog 161 #[.pointer (some ⟨W, 0, none⟩)] w fun e w' => e = .returned (.tuple #[]) ∧ (Wz w' lo hi B D b R W { s with ph := 2, k := 3, fs := [(4, 3)], bs := [] } [] ∧ Fz lo hi w w') := by
 have b1 := below_alloc w (.cells #[.pointer (some ⟨W, 0, none⟩)] 39)
 have kg : ∀ w4, Below (w.heap.size + 1) (w.alloc (.cells #[.pointer (some ⟨W, 0, none⟩)] 39)) w4 → w4.heap.size = w.heap.size + 1 + 1 → Cells w4 (w.heap.size + 1) #[.pointer (some ⟨W, 4, none⟩)] 128 → Calls Tryz.prog 66 #[.pointer (some ⟨W, 0, none⟩), .func (.func 167) #[] #[.pointer (some ⟨w.heap.size, 0, none⟩), .pointer (some ⟨w.heap.size + 1 + 1, 0, none⟩)], .slice (some ⟨w.heap.size + 1 + 1 + 1, 0, none⟩) 1 1] ((w4.alloc (.cells #[.int .i64 4, .func (.func 98) #[] #[.pointer (some ⟨w.heap.size + 1, 0, none⟩)]] 126)).alloc (.cells #[.int .i64 4, .func (.func 98) #[] #[.pointer (some ⟨w.heap.size + 1, 0, none⟩)]] 126)) fun e w' => e = .returned (.tuple #[]) ∧ (Wz w' lo hi B D b R W { s with ph := 2, k := 3, fs := [(4, 3)], bs := [] } [] ∧ Fz lo hi w w') := fun w4 b4 s4 c4 => by
  obtain ⟨o, ho⟩ : ∃ o, o = (Obj.cells #[.int .i64 4, .func (.func 98) #[] #[.pointer (some ⟨w.heap.size + 1, 0, none⟩)]] 126) := ⟨_, rfl⟩
  rw [← ho]
  have hs := h.hs
  have b4' : Below w.heap.size w w4 := b1.trans (b4.mono (by omega))
  have b5 : Below w.heap.size w (w4.alloc o) := b4'.alloc b4'.size o
  have k5 := h.below b5 (Nat.le_refl _)
  have xw : Bx (w4.alloc o) hi w.heap.size 39 #[ptr W 0] := ⟨hs, ((Cells.new w _ _).below b4 (by omega)).alloc o⟩
  have xb : Bx (w4.alloc o) hi (w.heap.size + 1) 128 #[ptr W 4] := ⟨by omega, c4.alloc o⟩
  have xF : Bx (w4.alloc o) hi (w.heap.size + 1 + 1) 126 #[.int .i64 4, cl 98 #[ptr (w.heap.size + 1) 0]] := ⟨by omega, by rw [← s4, ho]; exact Cells.new _ _ _⟩
  have h5 : (w4.alloc o).heap.size = w.heap.size + 1 + 1 + 1 := by simp [s4]
  have ks := sum_ask (w.heap.size + 1) (.func 167) #[] #[.pointer (some ⟨w.heap.size, 0, none⟩), .pointer (some ⟨w.heap.size + 1 + 1, 0, none⟩)] (w4.alloc o) k5 xb
  rw [h5, ← ho] at ks
  refine ks.mono ?_
  rintro e w' ⟨rfl, ⟨v', a1, a2⟩, f⟩
  have kz := Kz.of_below (hi := hi) (below_alloc (w4.alloc o) o) (Nat.le_refl _)
  refine ⟨rfl, Or.inl ⟨rfl, v', td, I, cf, q, ?_, fun _ => a2 _ rfl rfl rfl (Or.inr (Or.inr (Or.inr (Or.inl ⟨rfl, w.heap.size, w.heap.size + 1 + 1, w.heap.size + 1, rfl, xw.kz kz (by simp [Bq]), xF.kz kz (by simp [Bq]), xb.kz kz (by simp [Bq])⟩)))), fun e => by rcases e with e | e <;> cases e⟩, (Fz.of_below b5 (Nat.le_refl _)).trans f⟩
  have e : zc ({ s with ph := 2, k := 3, fs := [(4, 3)], bs := [] } : Zs) v' td none = { zc s v td none with nx := v' } := by
   unfold zc
   simp [z.ph]
  rw [e]
  exact a1
 obtain ⟨G, hG⟩ : ∃ G : World → Prop, G = fun w' => (Wz w' lo hi B D b R W { s with ph := 2, k := 3, fs := [(4, 3)], bs := [] } [] ∧ Fz lo hi w w') := ⟨_, rfl⟩
 rw [show (fun (e : Ending) (w' : World) => e = .returned (.tuple #[]) ∧ (Wz w' lo hi B D b R W { s with ph := 2, k := 3, fs := [(4, 3)], bs := [] } [] ∧ Fz lo hi w w')) = fun e w' => e = .returned (.tuple #[]) ∧ G w' by rw [hG]] at kg ⊢
 have kq : Aside (∀ w4, Below (w.heap.size + 1) (w.alloc (.cells #[.pointer (some ⟨W, 0, none⟩)] 39)) w4 → w4.heap.size = w.heap.size + 1 + 1 → Cells w4 (w.heap.size + 1) #[.pointer (some ⟨W, 4, none⟩)] 128 → Calls Tryz.prog 66 #[.pointer (some ⟨W, 0, none⟩), .func (.func 167) #[] #[.pointer (some ⟨w.heap.size, 0, none⟩), .pointer (some ⟨w.heap.size + 1 + 1, 0, none⟩)], .slice (some ⟨w.heap.size + 1 + 1 + 1, 0, none⟩) 1 1] ((w4.alloc (.cells #[.int .i64 4, .func (.func 98) #[] #[.pointer (some ⟨w.heap.size + 1, 0, none⟩)]] 126)).alloc (.cells #[.int .i64 4, .func (.func 98) #[] #[.pointer (some ⟨w.heap.size + 1, 0, none⟩)]] 126)) fun e w' => e = .returned (.tuple #[]) ∧ G w') := kg
 have hw0 : ∀ w4, Below (w.heap.size + 1) (w.alloc (.cells #[.pointer (some ⟨W, 0, none⟩)] 39)) w4 → w4.cell? ⟨w.heap.size, 0, none⟩ = some (.pointer (some ⟨W, 0, none⟩)) := fun w4 b4 => by
  have c : Cells (w.alloc (.cells #[.pointer (some ⟨W, 0, none⟩)] 39)) w.heap.size #[.pointer (some ⟨W, 0, none⟩)] 39 := Cells.new w _ _
  have c4 := c.below b4 (by omega)
  rw [c4.cell]; rfl
 have AW : Aside (∀ w4, Below (w.heap.size + 1) (w.alloc (.cells #[.pointer (some ⟨W, 0, none⟩)] 39)) w4 → w4.cell? ⟨w.heap.size, 0, none⟩ = some (.pointer (some ⟨W, 0, none⟩))) := hw0
 have hne : ∀ (u : World) (o : Obj), u.heap.size = w.heap.size + 1 + 1 → u.cell? ⟨w.heap.size, 0, none⟩ = some (.pointer (some ⟨W, 0, none⟩)) → (u.alloc o).cell? ⟨w.heap.size, 0, none⟩ = some (.pointer (some ⟨W, 0, none⟩)) := fun u o hu hc => by
  rw [← hc]
  exact (below_alloc u o).cell (by show w.heap.size < u.heap.size; omega)
 have AN : Aside (∀ (u : World) (o : Obj), u.heap.size = w.heap.size + 1 + 1 → u.cell? ⟨w.heap.size, 0, none⟩ = some (.pointer (some ⟨W, 0, none⟩)) → (u.alloc o).cell? ⟨w.heap.size, 0, none⟩ = some (.pointer (some ⟨W, 0, none⟩))) := hne
 clear h z b1 kg hG hw0 hne
 go_enter Tryz.func161, Tryz.ntmps161
 go_wp2_with (first
  | (go_at_call 69; refine (into_c W 4 _).mono ?_; rintro e4 w4 ⟨rfl, c4, b4, s4⟩; simp at c4 b4 s4; have cw := AN.out w4 (.cells #[.int .i64 4, .func (.func 98) #[] #[.pointer (some ⟨w.heap.size + 1, 0, none⟩)]] 126) s4 (AW.out w4 b4); have c4a : Aside (Below (w.heap.size + 1) (w.alloc (.cells #[.pointer (some ⟨W, 0, none⟩)] 39)) w4 ∧ Cells w4 (w.heap.size + 1) #[.pointer (some ⟨W, 4, none⟩)] 128) := ⟨b4, c4⟩; clear c4 b4)
  | (go_at_call 66; refine (kq.out w4 c4a.out.1 s4 c4a.out.2).mono ?_; rintro e3 w3 ⟨rfl, h3⟩))
 first | go_end0 | (refine bodyPost_ret (results_none rfl _ _ _) rfl ?_)
 exact ⟨rfl, h3⟩
end
end Go.Proofs.YtpihipbeagpgpaaGreatDoor

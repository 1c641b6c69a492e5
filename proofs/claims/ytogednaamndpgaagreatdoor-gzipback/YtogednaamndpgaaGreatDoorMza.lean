/-
  Own texts of this seat, one behind the other: what each says stands ahead of it.
-/
import Derived.Test.YtogednaamndpgaaGreatDoorMx
import Derived.Test.YtogednaamndpgaaGreatDoorMy
import Derived.Deep.CutBlock
import Derived.Deep.DeepCutAuto
import Derived.Deep.RegionHeld3
/-
 What the document's Write comes to.
-/
namespace Go.Proofs.YtogednaamndpgaaGreatDoor
open Go.RowKit
set_option linter.unusedVariables false
theorem lies_oc {w : World} {a : Option Addr} {l : List Nat} (h : Lies w a l) : ob l = [] ∨ ∃ b o, a = some ⟨b, o, none⟩ ∧ ∀ i u, (ob l)[i]? = some u → w.cell? ⟨b, o + i, none⟩ = some u := by
 rcases h with rfl | ⟨b, o, ha, hc⟩
 ·exact Or.inl rfl
 ·refine Or.inr ⟨b, o, ha, fun i u hu => ?_⟩
  rw [ob_get] at hu
  cases hx : l[i]? with
  | none => rw [hx] at hu; simp at hu
  | some x => rw [hx] at hu; simp at hu; rw [← hu]; exact hc i x hx
theorem lies_tk {w : World} {a : Option Addr} {l : List Nat} (h : Lies w a l) (k : Nat) : Lies w a (l.take k) := by
 rcases h with rfl | ⟨b, o, ha, hc⟩
 ·exact Or.inl (by simp)
 ·refine Or.inr ⟨b, o, ha, fun i x hx => hc i x ?_⟩
  rw [List.getElem?_take] at hx
  split at hx
  ·exact hx
  ·cases hx
theorem ow_nil {w : World} {lo n c : Nat} {a : Option Addr} {l : List Value} (h : Ow w lo 5 1 (.slice a n c) n l) : a = none → n = 0 ∧ c = 0 := by
 obtain ⟨a2, c2, hv, _, _, hz⟩ := h.shape
 cases hv
 exact hz
theorem slice_0e (b o L C e : Nat) (h1 : e ≤ C) (h2 : 0 < C) (W : World) : (Instr.slice 22 (.slice (some ⟨b, o, none⟩) L C) none (some (.int .i64 (e : Int))) none).run Tryz.prog W = .ok (.slice (some ⟨b, o, none⟩) e C) W := by
 have hk2 : (e : Int) ≤ (C : Int) := by omega
 have hk3 : (0 : Int) ≤ (e : Int) := by omega
 have hCk : ¬ C = 0 := by omega
 have hCk2 : ¬ (C : Int) = 0 := by omega
 clear h1 h2
 go_simp
def wfl (m : Mb) : Nat := (if m.ex = [] then 0 else 4) + (if nmd m.nm = [] then 0 else 8) + (if m.sb then 2 else 0)
def wX (m : Mb) : List Nat := if m.ex = [] then [] else nbs 2 (m.ex.take 1024).length ++ m.ex.take 1024
def wN (m : Mb) : List Nat := if nmd m.nm = [] then [] else nmd m.nm ++ [0]
def wS (m : Mb) : List Nat := if m.sb then nbs 2 (sm 0 (hten (wfl m) ++ wX m ++ wN m) % 65536) else []
def wmk (m : Mb) (z : List Nat) : Wm := ⟨wfl m, wX m, wN m, wS m, nmd m.nm, z, m.dt⟩
theorem wfl_lt (m : Mb) : wfl m < 32 := by unfold wfl; split <;> split <;> split <;> omega
theorem wmk_hw (m : Mb) : Hw (wfl m) (wX m) (wN m) (wS m) (nmd m.nm) := by
 have e4 : (wfl m / 4 % 2 = 1) ↔ ¬ m.ex = [] := by unfold wfl; split <;> split <;> split <;> simp_all
 have e8 : (wfl m / 8 % 2 = 1) ↔ ¬ nmd m.nm = [] := by unfold wfl; split <;> split <;> split <;> simp_all
 have e2 : (wfl m / 2 % 2 = 1) ↔ m.sb = true := by unfold wfl; split <;> split <;> split <;> simp_all
 refine ⟨wfl_lt m, ?_, ?_, ?_, ?_⟩
 ·by_cases h : m.ex = []
  ·exact Or.inr ⟨fun q => e4.1 q h, by unfold wX; rw [if_pos h]⟩
  ·exact Or.inl ⟨e4.2 h, m.ex.take 1024, by unfold wX; rw [if_neg h], by rw [List.length_take]; omega⟩
 ·by_cases h : nmd m.nm = []
  ·exact Or.inr ⟨fun q => e8.1 q h, by unfold wN; rw [if_pos h], h⟩
  ·exact Or.inl ⟨e8.2 h, by unfold wN; rw [if_neg h], nmd_nz _, nmd_len _⟩
 ·unfold wfl; split <;> split <;> split <;> simp
 ·by_cases h : m.sb = true
  ·exact Or.inl ⟨e2.2 h, by unfold wS; rw [if_pos h]⟩
  ·exact Or.inr ⟨fun q => h (e2.1 q), by unfold wS; rw [if_neg h]⟩
structure Mok (m : Mb) : Prop where
 nm : Oct m.nm
 nl : m.nm.length ≤ 9223372036854775807
 ex : Oct m.ex
 el : m.ex.length ≤ 9223372036854775807
 dt : Oct m.dt
 dl : m.dt.length ≤ 5000
 pl : m.ps.length ≤ 200
 pb : ∀ p ∈ m.ps, p.kd < 256 ∧ p.by_ < 65536
theorem wX_len {m : Mb} : (wX m).length ≤ 1026 := by unfold wX; split <;> simp [nbs_length]; omega
theorem wN_len {m : Mb} : (wN m).length ≤ 257 := by unfold wN; have := nmd_len m.nm; split <;> simp; omega
theorem wX_oct {m : Mb} (h : Mok m) : Oct (wX m) := by unfold wX; split; exact Oct.nil; exact (nbs_oct 2 _).append (h.ex.take _)
theorem wN_oct {m : Mb} (h : Mok m) : Oct (wN m) := by unfold wN; split; exact Oct.nil; exact (nmd_oct h.nm).append (Oct.cons (by omega) Oct.nil)
theorem hten_oct {f : Nat} (h : f < 256) : Oct (hten f) := fun x hx => by simp [hten] at hx; omega
structure Zok (m : Mb) (z : List Nat) : Prop where
 ho : Holds 10000 z m.dt
 oc : Oct z
 len : z.length ≤ 100000000
def Zall (ms : List Mb) (zs : List (List Nat)) : Prop := zs.length = ms.length ∧ ∀ (i : Nat) (m : Mb) (z : List Nat), ms[i]? = some m → zs[i]? = some z → Zok m z
def wms (ms : List Mb) (zs : List (List Nat)) : List Wm := List.zipWith wmk ms zs
theorem zall_snoc {ms : List Mb} {zs : List (List Nat)} {m : Mb} {z : List Nat} (h : Zall ms zs) (hz : Zok m z) : Zall (ms ++ [m]) (zs ++ [z]) := by
 refine ⟨by simp [h.1], fun i m' z' h1 h2 => ?_⟩
 by_cases hi : i < ms.length
 ·rw [List.getElem?_append_left hi] at h1
  rw [List.getElem?_append_left (by rw [h.1]; exact hi)] at h2
  exact h.2 i m' z' h1 h2
 ·rw [List.getElem?_append_right (by omega)] at h1
  rw [List.getElem?_append_right (by rw [h.1]; omega), h.1] at h2
  obtain ⟨e1, _⟩ := List.getElem?_eq_some_iff.1 h1
  simp at e1
  have e : i - ms.length = 0 := by omega
  rw [e] at h1 h2
  simp at h1 h2
  rw [← h1, ← h2]
  exact hz
theorem wal_snoc {ms : List Mb} {zs : List (List Nat)} {m : Mb} {z : List Nat} (h : zs.length = ms.length) : wal (wms (ms ++ [m]) (zs ++ [z])) = wal (wms ms zs) ++ (wmk m z).bytes := by
 unfold wms
 rw [List.zipWith_append h.symm]
 simp [wal]
theorem tk_snoc {ms : List Mb} {i : Nat} {m : Mb} (h : ms[i]? = some m) : ms.take (i + 1) = ms.take i ++ [m] := by
 obtain ⟨h1, h2⟩ := List.getElem?_eq_some_iff.1 h
 rw [List.take_succ_eq_append_getElem h1, h2]
structure Wra (ms : List Mb) (w : World) (e : Ending) (w' : World) : Prop where
 ex : ∃ a n c zs, e = .returned (.slice a n c) ∧ Zall ms zs ∧ Ow w' w.heap.size 5 1 (.slice a n c) n (ob (wal (wms ms zs))) ∧ (wal (wms ms zs)).length = n ∧ n ≤ ms.length * 100002000 ∧ Below w.heap.size w w'
abbrev mcs (S : ByteArray) (ea : Option Addr) (el ec : Nat) (sb : Bool) (da : Option Addr) (dl dc : Nat) (pa : Option Addr) (pl pc : Nat) : Array Value := #[.string S, .slice ea el ec, .bool sb, .slice da dl dc, .slice pa pl pc]
section
variable {lo H1 : Nat} {S : ByteArray} {ea da pa : Option Addr} {el ec dl dc pl pc : Nat} {sb : Bool} {w u u' : World} {v v' : Value} {n n' : Nat} {out : List Nat}
structure Rws (lo H1 : Nat) (S : ByteArray) (ea : Option Addr) (el ec : Nat) (sb : Bool) (da : Option Addr) (dl dc : Nat) (pa : Option Addr) (pl pc : Nat) (w u : World) (v : Value) (n : Nat) (out : List Nat) : Prop where
 ow : Ow u lo 5 1 v n (ob out)
 bel : Below lo w u
 cel : Cells u H1 (mcs S ea el ec sb da dl dc pa pl pc) 53
theorem Rws.step (h : Rws lo H1 S ea el ec sb da dl dc pa pl pc w u v n out) (k : Below u.heap.size u u') : Rws lo H1 S ea el ec sb da dl dc pa pl pc w u' v n out := ⟨h.ow.below k (Nat.le_refl _), h.bel.trans (k.mono h.ow.le), h.cel.below k h.cel.lt⟩
theorem Rws.app {m : List Nat} (h : Rws lo H1 S ea el ec sb da dl dc pa pl pc w u v n out) (g : Got lo 5 1 u u' v v' n' (ob out ++ ob m)) : Rws lo H1 S ea el ec sb da dl dc pa pl pc w u' v' n' (out ++ m) := ⟨by rw [← ob_append]; exact g.ow, h.bel.trans g.bel, Cells.got h.cel g (by decide)⟩
theorem Rws.held (h : Rws lo H1 S ea el ec sb da dl dc pa pl pc w u v n out) : u.cell? ⟨H1, 3, none⟩ = some (.slice da dl dc) ∧ u.cell? ⟨H1, 4, none⟩ = some (.slice pa pl pc) := ⟨(h.cel.cell 3).trans rfl, (h.cel.cell 4).trans rfl⟩
def Ex (u : World) (v : Value) (a : Option Addr) (l : List Nat) : Prop := Lies u a l ∧ ∀ g o, a = some ⟨g, o, none⟩ → l ≠ [] → some g ≠ v.ownBlock
theorem Ex.step {a : Option Addr} {l : List Nat} (h : Ex u v a l) (k : Below u.heap.size u u') : Ex u' v a l := ⟨h.1.below k, h.2⟩
theorem Ex.app {a : Option Addr} {l : List Nat} {xs : List Value} (h : Ex u v a l) (g : Got lo 5 1 u u' v v' n' xs) : Lies u' a l := by
 rcases h.1 with e | ⟨b, o, ha, hc⟩
 ·exact Or.inl e
 ·refine Or.inr ⟨b, o, ha, fun i x hx => ?_⟩
  have hne : l ≠ [] := by intro e; rw [e] at hx; simp at hx
  have hq := hc i x hx
  have hl := World.block_lt_of_cell? u _ hq
  rw [← hq]
  unfold World.cell?
  rw [g.kb b hl (h.2 b o ha hne)]
theorem Rws.fresh {a : Option Addr} {m c : Nat} {l : List Nat} (h : Rws lo H1 S ea el ec sb da dl dc pa pl pc w u v n out) (k : Ow u' u.heap.size 5 1 (.slice a m c) m (ob l)) (hl : l.length = m) : Ex u' v a l := by
 obtain ⟨a2, c2, hv, _, _, hlies, _⟩ := k.lies
 cases hv
 refine ⟨hlies, fun g o ha hne e => ?_⟩
 obtain ⟨a3, c3, hv3, _, h0 | ⟨g3, hg3, hlo, _⟩, _⟩ := k.shape
 ·exact hne (List.eq_nil_of_length_eq_zero (by omega))
 ·cases hv3
  rw [ha] at hg3
  cases hg3
  have := (h.ow.lt_block e.symm).2
  omega
end
theorem ow_ten {w : World} {lo2 f : Nat} (h : lo2 ≤ w.heap.size) : Ow (w.alloc (.cells #[.int .u8 31, .int .u8 139, .int .u8 8, .int .u8 (f : Int), .int .u8 1, .int .u8 2, .int .u8 3, .int .u8 4, .int .u8 0, .int .u8 255] 5)) lo2 5 1 (.slice (some ⟨w.heap.size, 0, none⟩) 10 10) 10 (ob (hten f)) :=
 ⟨⟨by simp [ob_length, hten], Or.inr ⟨w.heap.size, 10, _, rfl, h, heap_alloc_new w _, Nat.le_refl _, by unfold maxLen; omega, rfl, rfl⟩⟩, by show _ ≤ (w.heap.push _).size; simp; omega⟩
theorem zero_cell {w : World} {H : Nat} (hH : w.heap.size = H) : ob [0] = [] ∨ ∃ b o, (some ⟨H, 0, none⟩ : Option Addr) = some ⟨b, o, none⟩ ∧ ∀ i u, (ob [0])[i]? = some u → (w.alloc (.cells #[.int .u8 0] 5)).cell? ⟨b, o + i, none⟩ = some u := one_cell (x := 0) hH
structure C1 (lo2 f x : Nat) (X : List Nat) (w1 : World) (s6 s7 : Value) (wc : World) : Prop where
 ex : ∃ ma mc, s6 = .int .u8 (f : Int) ∧ s7 = .slice ma x mc ∧ Ow wc lo2 5 1 (.slice ma x mc) x (ob X) ∧ Below lo2 w1 wc
structure C2 (lo2 h : Nat) (Hd : List Nat) (w1 : World) (s10 : Value) (wc : World) : Prop where
 ex : ∃ ha hc, s10 = .slice ha h hc ∧ Ow wc lo2 5 1 (.slice ha h hc) h (ob Hd) ∧ Below lo2 w1 wc
structure C3 (lo H1 : Nat) (S : ByteArray) (ea : Option Addr) (el ec : Nat) (sb : Bool) (da : Option Addr) (dl dc : Nat) (pa : Option Addr) (pl pc : Nat) (w : World) (n hl : Nat) (z Hd : List Nat) (m : Mb) (s3 : Value) (wc : World) : Prop where
 ex : ∃ va3 n3 vc3 zz, s3 = .slice va3 n3 vc3 ∧ Rws lo H1 S ea el ec sb da dl dc pa pl pc w wc (.slice va3 n3 vc3) n3 (z ++ Hd ++ zz) ∧ Holds 10000 zz m.dt ∧ Oct zz ∧ n3 = n + hl + zz.length ∧ zz.length ≤ 100000000
set_option maxRecDepth 1000000 in
set_option maxHeartbeats 16000000 in
theorem write_c (w : World) (a : Option Addr) (ms : List Mb) (N C : Nat) (hN : ms.length = N) (hNb : N ≤ 3000) (hm : Lm w a ms) (hok : ∀ m ∈ ms, Mok m) (h4 : 4 ≤ w.heap.size) : Calls Tryz.prog 22 #[.slice a N C] w fun e w' => Wra ms w e w' := by
 obtain ⟨lo, hlo⟩ : ∃ lo, w.heap.size = lo := ⟨_, rfl⟩
 have A : Aside (ms.length = N ∧ N ≤ 3000 ∧ Lm w a ms ∧ (∀ m ∈ ms, Mok m) ∧ 4 ≤ lo ∧ w.heap.size = lo) := ⟨hN, hNb, hm, hok, by omega, hlo⟩
 clear hN hNb hm hok h4 hlo
 obtain ⟨i0, hii, hz0, hz1, hz2⟩ := ginfo_parts ginfo5
 go_enter Tryz.func22, Tryz.ntmps22
 go_wp2_with fail
 go_loopg [3, 4] N (fun gg s3 s4 wr => ∃ (va : Option Addr) (n c i : Nat), s3 = .slice va n c ∧ s4 = .int .i64 (i : Int) ∧ Aside (i + gg = N ∧ ∃ zs, Zall (ms.take i) zs ∧ Ow wr lo 5 1 (.slice va n c) n (ob (wal (wms (ms.take i) zs))) ∧ (wal (wms (ms.take i) zs)).length = n ∧ n ≤ i * 100002000 ∧ Below lo w wr))
 case atStart => exact ⟨none, 0, 0, 0, rfl, rfl, ⟨by omega, [], ⟨rfl, fun i m z h1 h2 => by simp at h2⟩, Ow.nil (by rw [A.out.2.2.2.2.2]; exact Nat.le_refl _), rfl, by omega, Below.refl _ _⟩⟩
 case round =>
  obtain ⟨va, n, c, i, rfl, rfl, hT⟩ := hrel
  obtain ⟨hig, zs, hza, hown, hzl, hnb, hbel⟩ := hT.out
  have a0 := A.out
  by_cases hi : i < N
  ·have t1 : ((i : Int) < (N : Int)) = True := eq_true (by omega)
   have t2 : (i < N) = True := eq_true hi
   have bi : (i : Int) < 10000 := by omega
   obtain ⟨m, hm⟩ : ∃ m, ms[i]? = some m := ⟨_, List.getElem?_eq_getElem (by omega)⟩
   have hmk := a0.2.2.2.1 m (List.mem_of_getElem? hm)
   obtain ⟨g, o, ea, ec, da, dc, pa, pc, rfl, hl0⟩ := a0.2.2.1.at hm
   have hl := hl0.below (by rw [a0.2.2.2.2.2]; exact hbel)
   obtain ⟨z, hz⟩ : ∃ z, wal (wms (ms.take i) zs) = z := ⟨_, rfl⟩
   rw [hz] at hown hzl
   obtain ⟨Sm, hSm⟩ : ∃ Sm, st m.nm = Sm := ⟨_, rfl⟩
   obtain ⟨el, hel⟩ : ∃ el, m.ex.length = el := ⟨_, rfl⟩
   obtain ⟨sb, hsb⟩ : ∃ sb, m.sb = sb := ⟨_, rfl⟩
   obtain ⟨dl, hdl⟩ : ∃ dl, m.dt.length = dl := ⟨_, rfl⟩
   obtain ⟨pl, hpl⟩ : ∃ pl, m.ps.length = pl := ⟨_, rfl⟩
   have k0 : wr.cell? ⟨g, o + i * 5, none⟩ = some (.string Sm) := by rw [← hSm]; exact hl.c0
   have k1 : wr.cell? ⟨g, o + i * 5 + 1, none⟩ = some (.slice ea el ec) := by rw [← hel]; exact hl.c1
   have k2 : wr.cell? ⟨g, o + i * 5 + 2, none⟩ = some (.bool sb) := by rw [← hsb]; exact hl.c2
   have k3 : wr.cell? ⟨g, o + i * 5 + 3, none⟩ = some (.slice da dl dc) := by rw [← hdl]; exact hl.c3
   have k4 : wr.cell? ⟨g, o + i * 5 + 4, none⟩ = some (.slice pa pl pc) := by rw [← hpl]; exact hl.c4
   obtain ⟨H1, hH1⟩ : ∃ H1, wr.heap.size = H1 := ⟨_, rfl⟩
   obtain ⟨w1, hw1⟩ : ∃ w1, wr.alloc (.cells #[.string Sm, .slice ea el ec, .bool sb, .slice da dl dc, .slice pa pl pc] 53) = w1 := ⟨_, rfl⟩
   have b1 : Below wr.heap.size wr w1 := by rw [← hw1]; exact (Below.refl _ wr).alloc (Nat.le_refl _) _
   have kH : Cells w1 H1 (mcs Sm ea el ec sb da dl dc pa pl pc) 53 := by rw [← hw1, ← hH1]; exact Cells.new wr _ 53
   obtain ⟨lo2, hlo2⟩ : ∃ lo2, w1.heap.size = lo2 := ⟨_, rfl⟩
   have hH2 : H1 + 1 = lo2 := by rw [← hlo2, ← hw1, ← hH1]; simp
   have r1 : Rws lo H1 Sm ea el ec sb da dl dc pa pl pc w w1 (.slice va n c) n z := ⟨hown.below b1 (Nat.le_refl _), hbel.trans (b1.mono hown.le), kH⟩
   -- what stands at a world behind w1
   have AR : Aside (Rws lo H1 Sm ea el ec sb da dl dc pa pl pc w w1 (.slice va n c) n z ∧ w1.heap.size = lo2 ∧ H1 < lo2 ∧ lo ≤ lo2) := ⟨r1, hlo2, by omega, by have := r1.ow.le; omega⟩
   have AM : Aside (Mok m ∧ ms[i]? = some m ∧ st m.nm = Sm ∧ m.ex.length = el ∧ m.sb = sb ∧ m.dt.length = dl ∧ m.ps.length = pl ∧ Lies w ea m.ex ∧ Lies w da m.dt ∧ Plan w pa m.ps ∧ el ≤ ec ∧ (ea = none → el = 0 ∧ ec = 0)) := ⟨hmk, hm, hSm, hel, hsb, hdl, hpl, hl0.ex.1, hl0.dt.1, hl0.ps, by rw [← hel]; exact hl0.ex.2.1, by rw [← hel]; exact hl0.ex.2.2⟩
   have AI : Aside (i + gk = N ∧ i < N ∧ Zall (ms.take i) zs ∧ wal (wms (ms.take i) zs) = z ∧ z.length = n ∧ n ≤ i * 100002000) := ⟨hig, hi, hza, hz, hzl, hnb⟩
   obtain ⟨f1, hf1⟩ : ∃ f1 : Nat, (if m.ex = [] then 0 else 4) = f1 := ⟨_, rfl⟩
   obtain ⟨X, hX⟩ : ∃ X, wX m = X := ⟨_, rfl⟩
   obtain ⟨xl, hxl⟩ : ∃ xl, X.length = xl := ⟨_, rfl⟩
   have AX : Aside ((if m.ex = [] then 0 else 4) = f1 ∧ wX m = X ∧ X.length = xl) := ⟨hf1, hX, hxl⟩
   have e1 : w1.cell? ⟨H1, 1, none⟩ = some (.slice ea el ec) := (kH.cell 1).trans rfl
   clear hT hig hza hown hzl hnb hbel a0 hi hm hmk hl0 hl hz hSm hel hsb hdl hpl b1 kH hlo2 hH2 r1 hf1 hX hxl
   obtain ⟨tb, htb⟩ : ∃ tb, decide (0 < el) = tb := ⟨_, rfl⟩
   have ATb : Aside (decide (0 < el) = tb) := htb
   go_upto_if 24 with fail
   clear htb
   (try rw [hw1])
   (try rw [hH1])
   clear hw1 hH1
   go_cut [6, 7] (fun s6 s7 wc => C1 lo2 f1 xl X w1 s6 s7 wc)
   case first => as_aux_lemma =>
    have am := AM.out
    have ax := AX.out
    cases tb with
    | false =>
     have hex : m.ex = [] := by have := of_decide_eq_false ATb.out; exact List.eq_nil_of_length_eq_zero (by omega)
     have h0 : el = 0 := by rw [← am.2.2.2.1, hex]; rfl
     have hf : f1 = 0 := by rw [← ax.1, if_pos hex]
     have hX0 : X = [] := by rw [← ax.2.1]; unfold wX; rw [if_pos hex]
     have hx0 : xl = 0 := by rw [← ax.2.2, hX0]; rfl
     subst hf hX0 hx0
     clear am ax hex h0
     go_wp2_with fail
     go_meet
     exact ⟨none, 0, rfl, rfl, Ow.nil (by rw [AR.out.2.1]; exact Nat.le_refl _), Below.refl _ _⟩
    | true =>
     have h0 : 0 < el := of_decide_eq_true ATb.out
     have hex : ¬ m.ex = [] := by intro e; rw [← am.2.2.2.1, e] at h0; simp at h0
     have hf : f1 = 4 := by rw [← ax.1, if_neg hex]
     obtain ⟨xq, hxq⟩ : ∃ xq, (m.ex.take 1024).length = xq := ⟨_, rfl⟩
     have hX4 : X = nbs 2 xq ++ m.ex.take 1024 := by rw [← ax.2.1, ← hxq]; unfold wX; rw [if_neg hex]
     have hxl4 : xl = 2 + xq := by rw [← ax.2.2, hX4, List.length_append, nbs_length, hxq]
     have hxq2 : xq = min 1024 el := by rw [← hxq, List.length_take, am.2.2.2.1]
     subst hf
     subst hxl4
     have p1 : ((el : Int) > 0) = True := eq_true (by omega)
     have p2 : ((0 : Int) < (el : Int)) = True := eq_true (by omega)
     have p3 : (0 < el) = True := eq_true h0
     obtain ⟨bx, ox, rfl⟩ : ∃ bx ox, ea = some ⟨bx, ox, none⟩ := by
      rcases am.2.2.2.2.2.2.2.1 with e | ⟨b, o, e, _⟩
      ·exact absurd e hex
      ·exact ⟨b, o, e⟩
     have hel2 := am.2.2.2.2.2.2.2.2.2.2.1
     have hsl := slice_0e bx ox el ec xq (by omega) (by omega)
     have hnu : ∀ u, Calls Tryz.prog 32 #[.int .i64 (xq : Int), .int .i64 2] u fun e w' => Oa (nbs 2 xq) 2 u e w' := fun u => number_c xq 2 (by omega) (by omega) u
     have hno := Ow.nil (w := w1) (lo := lo2) (e := 5) (sz := 1) (by rw [AR.out.2.1]; exact Nat.le_refl _)
     have AQ : Aside ((ob (nbs 2 xq)).length = 2 * 1 ∧ 0 + 2 ≤ maxLen ∧ (0 + 2) * 1 ≤ 140737488355328 ∧ (ob (m.ex.take 1024)).length = xq * 1 ∧ 2 + xq ≤ maxLen ∧ (2 + xq) * 1 ≤ 140737488355328) := ⟨by rw [ob_length, nbs_length], by unfold maxLen; omega, by omega, by rw [ob_length, hxq]; omega, by unfold maxLen; omega, by omega⟩
     have AY : Aside (∀ u, Below lo2 w1 u → Lies u (some ⟨bx, ox, none⟩) (m.ex.take 1024)) := fun u hu => (lies_tk am.2.2.2.2.2.2.2.1 1024).below (by have h := AR.out.1.bel.trans (hu.mono AR.out.2.2.2); rw [A.out.2.2.2.2.2]; exact h)
     have AXx : Aside (X = nbs 2 xq ++ m.ex.take 1024) := hX4
     have bel : (el : Int) ≤ 9223372036854775807 := by have := am.1.el; have := am.2.2.2.1; omega
     have bxq : (xq : Int) ≤ 1024 := by omega
     have hcase : (1024 < el ∧ xq = 1024) ∨ (¬ 1024 < el ∧ xq = el) := by omega
     clear am ax hex hxq hX4 hxq2 hel2
     have run : ∀ (u : World), True → True := fun _ h => h
     have hmi : (if (1024 : Int) < (el : Int) then (1024 : Int) else (el : Int)) = (xq : Int) := by split <;> omega
     have hmn : (if 1024 < el then 1024 else el) = xq := by split <;> omega
     have hmi2 : (if (el : Int) < (1024 : Int) then (el : Int) else (1024 : Int)) = (xq : Int) := by split <;> omega
     have hmn2 : (if el < 1024 then el else 1024) = xq := by split <;> omega
     clear hcase run
     go_wp2_with (first
      | (go_at_call 32; refine (hnu _).mono ?_; intro e5 w5 h5; obtain ⟨a5, c5, he5, ho5, hb5⟩ := h5.ex; subst he5; have hl5 := lies_oc ((ho5.lies).elim fun a' h => h.elim fun c' h => by obtain ⟨hv, _, _, hl, _⟩ := h; cases hv; exact hl : Lies w5 a5 (nbs 2 xq)); have hn5 := hno.below hb5 (Nat.le_refl _); have hz5 := ow_nil ho5)
      | (at_builtin; refine wpList_ow Tryz.prog _ rfl (.tmp 34) (.tmp 37) 22 rfl 5 i0 _ 1 1 Tryz.underlying22 hii hz0 hz1 hz2 rfl (by decide) lo2 (.slice none 0 0) 0 _ (by rfl) hn5 a5 (ob (nbs 2 xq)) 2 c5 AQ.out.1 (by rfl) hz5 hl5 ob_one AQ.out.2.1 AQ.out.2.2.1 ?_; intro v6 w6 hg6; obtain ⟨a6, c6, hv6, _⟩ := hg6.ow.shape; rw [Nat.zero_add] at hv6; subst hv6; have ho6 := hg6.ow; have hl6 := lies_oc (AY.out w6 ((hb5.mono (by rw [AR.out.2.1]; exact Nat.le_refl _)).trans hg6.bel)))
      | (at_builtin; refine wpList_ow Tryz.prog _ rfl (.tmp 38) (.tmp 39) 22 rfl 5 i0 _ 1 1 Tryz.underlying22 hii hz0 hz1 hz2 rfl (by decide) lo2 (.slice a6 2 c6) 2 _ (by rfl) ho6 (some ⟨bx, ox, none⟩) (ob (m.ex.take 1024)) xq ec AQ.out.2.2.2.1 (by rfl) (by intro h; cases h) hl6 ob_one AQ.out.2.2.2.2.1 AQ.out.2.2.2.2.2 ?_; intro v7 w7 hg7; obtain ⟨a7, c7, hv7, _⟩ := hg7.ow.shape; subst hv7))
     go_meet
     have h7 := hg7.ow
     rw [List.nil_append, ob_append, ← AXx.out] at h7
     exact ⟨a7, c7, rfl, rfl, h7, ((hb5.mono (by rw [AR.out.2.1]; exact Nat.le_refl _)).trans hg6.bel).trans hg7.bel⟩
   case rest =>
    obtain ⟨ma, mc, rfl, rfl, hoX, hbX⟩ := hcut.ex
    obtain ⟨nn, hnn⟩ : ∃ nn, nmd m.nm = nn := ⟨_, rfl⟩
    obtain ⟨Sn, hSn⟩ : ∃ Sn, st nn = Sn := ⟨_, rfl⟩
    have hnam : Calls Tryz.prog 24 #[.string Sm] wc fun e w' => e = .returned (.string Sn) ∧ Below wc.heap.size wc w' := by
     have := named_c m.nm AM.out.1.nm (by have := AM.out.1.nl; omega) wc
     rw [hnn, hSn, AM.out.2.2.1] at this
     exact this
    have r2 : Rws lo H1 Sm ea el ec sb da dl dc pa pl pc w wc (.slice va n c) n z := AR.out.1.step (by rw [AR.out.2.1]; exact hbX)
    have e0 : wc.cell? ⟨H1, 0, none⟩ = some (.string Sm) := (r2.cel.cell 0).trans rfl
    have A2 : Aside (Ow wc lo2 5 1 (.slice ma xl mc) xl (ob X) ∧ Below lo2 w1 wc ∧ nmd m.nm = nn ∧ st nn = Sn ∧ lo2 ≤ wc.heap.size) := ⟨hoX, hbX, hnn, hSn, hoX.le⟩
    clear hcut hoX hbX hnn hSn r2 e1
    obtain ⟨f2, hf2⟩ : ∃ f2 : Nat, f1 + (if nmd m.nm = [] then 0 else 8) = f2 := ⟨_, rfl⟩
    obtain ⟨Y, hY⟩ : ∃ Y, X ++ wN m = Y := ⟨_, rfl⟩
    obtain ⟨yl, hyl⟩ : ∃ yl, Y.length = yl := ⟨_, rfl⟩
    have AY : Aside (f1 + (if nmd m.nm = [] then 0 else 8) = f2 ∧ X ++ wN m = Y ∧ Y.length = yl) := ⟨hf2, hY, hyl⟩
    clear hf2 hY hyl
    go_upto_region 13 with (go_at_call 24; refine hnam.mono ?_; rintro e2 w2 ⟨rfl, b2⟩)
    have A3 : Aside (Ow w2 lo2 5 1 (.slice ma xl mc) xl (ob X) ∧ Below lo2 w1 w2) := ⟨A2.out.1.below b2 (Nat.le_refl _), A2.out.2.1.trans (b2.mono A2.out.2.2.2.2)⟩
    clear hnam b2 e0
    obtain ⟨tn, htn⟩ : ∃ tn, decide (nn ≠ []) = tn := ⟨_, rfl⟩
    have ATn : Aside (decide (nn ≠ []) = tn) := htn
    clear htn
    go_cut [45] (fun s wd => s = .bool tn ∧ wd = w2)
    case first => as_aux_lemma =>
     have a2 := A2.out
     by_cases hnz : nn = []
     ·have hS0 : Sn = ⟨#[]⟩ := by rw [← a2.2.2.2.1, hnz]; rfl
      have htn : tn = false := by rw [← ATn.out]; exact decide_eq_false (fun h => h hnz)
      subst hS0 htn
      clear a2 hnz
      go_wp2_with fail
      go_meet
      exact ⟨rfl, rfl⟩
     ·have hno : Oct nn := by rw [← a2.2.2.1]; exact nmd_oct AM.out.1.nm
      have htn : tn = true := by rw [← ATn.out]; exact decide_eq_true hnz
      have hse : (Sn.toList == (⟨#[]⟩ : ByteArray).toList) = false := by
       have h1 : (⟨#[]⟩ : ByteArray) = st [] := rfl
       rw [h1, ← a2.2.2.2.1, st_beq hno Oct.nil]
       exact decide_eq_false hnz
      have hse2 := hse
      rw [show (⟨#[]⟩ : ByteArray).toList = [] by rw [ByteArray.toList_eq]] at hse2
      subst htn
      clear a2 hnz hno
      go_wp2_with fail
      go_meet
      exact ⟨rfl, rfl⟩
    case rest =>
    obtain ⟨rfl, hwd⟩ := hcut
    subst hwd
    go_upto_if 45 with fail
    go_cut [6, 7] (fun s6 s7 wd => C1 lo2 f2 yl Y w1 s6 s7 wd)
    case first => as_aux_lemma =>
     have ax := AX.out
     have ay := AY.out
     have a2 := A2.out
     cases tn with
     | false =>
      have hnz : nn = [] := by have := of_decide_eq_false ATn.out; exact Classical.byContradiction this
      have hS0 : Sn = ⟨#[]⟩ := by rw [← a2.2.2.2.1, hnz]; rfl
      have hw0 : wN m = [] := by unfold wN; rw [a2.2.2.1, if_pos hnz]
      have hf : f2 = f1 := by rw [← ay.1, a2.2.2.1, if_pos hnz]; rfl
      have hY0 : Y = X := by rw [← ay.2.1, hw0, List.append_nil]
      have hy0 : yl = xl := by rw [← ay.2.2, hY0, ax.2.2]
      subst hS0 hf hY0 hy0
      clear ax ay a2 hnz hw0
      go_wp2_with fail
      go_meet
      exact ⟨ma, mc, rfl, rfl, A3.out.1, A3.out.2⟩
     | true =>
      have hnz : ¬ nn = [] := of_decide_eq_true ATn.out
      have hno : Oct nn := by rw [← a2.2.2.1]; exact nmd_oct AM.out.1.nm
      have hf8 : f1 + 8 = f2 := by rw [← ay.1, a2.2.2.1, if_neg hnz]
      have hf1b : f1 ≤ 4 := by rw [← ax.1]; split <;> omega
      have hw8 : IntKind.u8.wrap ((f1 : Int) + 8) = (f2 : Int) := by rw [IntKind.wrap_u8]; omega
      have hw9 : (f1 : Int) + 8 = (f2 : Int) := by omega
      have hw7 : (f2 : Int) % 256 = (f2 : Int) := by omega
      obtain ⟨nl, hnl⟩ : ∃ nl, nn.length = nl := ⟨_, rfl⟩
      have hnl2 : nl ≤ 256 := by rw [← hnl, ← a2.2.2.1]; exact nmd_len _
      have hyl : yl = xl + nl + 1 := by rw [← ay.2.2, ← ay.2.1]; unfold wN; rw [a2.2.2.1, if_neg hnz]; simp [ax.2.2, hnl]; omega
      have hYY : Y = X ++ nn ++ [0] := by rw [← ay.2.1]; unfold wN; rw [a2.2.2.1, if_neg hnz, List.append_assoc]
      have hxb : xl ≤ 1026 := by rw [← ax.2.2, ← ax.2.1]; exact wX_len
      have AQ : Aside (nn.length = nl ∧ Oct nn ∧ xl + nl ≤ 140737488355328 ∧ xl + nl + 1 ≤ maxLen ∧ (xl + nl + 1) * 1 ≤ 140737488355328 ∧ Y = X ++ nn ++ [0] ∧ Sn = st nn) := ⟨hnl, hno, by omega, by unfold maxLen; omega, by omega, hYY, a2.2.2.2.1.symm⟩
      have how3 := A3.out.1
      subst hyl
      clear ax ay a2 hnz hno hf8 hf1b hnl hnl2 hYY hxb
      go_wp2_with (first
       | (at_builtin; refine wpList_ows Tryz.prog _ rfl (.tmp 48) (.tmp 49) 22 9 rfl i0 Tryz.underlying22 Tryz.underlying9 hii hz0 hz1 hz2 lo2 (.slice ma xl mc) xl X (by rfl) how3 nn nl Sn AQ.out.2.2.2.2.2.2 AQ.out.1 AQ.out.2.1 (by rfl) AQ.out.2.2.1 ?_; intro a6 c6 w6 hg6; obtain ⟨H6, hH6⟩ : ∃ H6, w6.heap.size = H6 := ⟨_, rfl⟩; have hzc := zero_cell hH6; have b6 : Below w6.heap.size w6 (w6.alloc (.cells #[.int .u8 0] 5)) := (Below.refl _ w6).alloc (Nat.le_refl _) _; have ho6 := hg6.ow.below b6 (Nat.le_refl _))
       | (at_builtin; refine wpList_ow Tryz.prog _ rfl (.tmp 50) (.tmp 51) 22 rfl 5 i0 _ 1 1 Tryz.underlying22 hii hz0 hz1 hz2 rfl (by decide) lo2 (.slice a6 (xl + nl) c6) (xl + nl) _ (by rfl) ho6 (some ⟨H6, 0, none⟩) (ob [0]) 1 1 rfl (by rfl) (by intro h; cases h) hzc ob_one AQ.out.2.2.2.1 AQ.out.2.2.2.2.1 ?_; intro v7 w7 hg7; obtain ⟨a7, c7, hv7, _⟩ := hg7.ow.shape; subst hv7))
      go_meet
      have h7 := hg7.ow
      rw [ob_append, ← AQ.out.2.2.2.2.2.1] at h7
      exact ⟨a7, c7, rfl, rfl, h7, ((A3.out.2.trans hg6.bel).trans (b6.mono hg6.ow.le)).trans hg7.bel⟩
    case rest =>
     obtain ⟨mb, md, rfl, rfl, hoY, hbY⟩ := hcut.ex
     have AYo : Aside (Ow wc lo2 5 1 (.slice mb yl md) yl (ob Y) ∧ Below lo2 w1 wc ∧ lo2 ≤ wc.heap.size) := ⟨hoY, hbY, hoY.le⟩
     have r3 : Rws lo H1 Sm ea el ec sb da dl dc pa pl pc w wc (.slice va n c) n z := AR.out.1.step (by rw [AR.out.2.1]; exact hbY)
     have e2 : wc.cell? ⟨H1, 2, none⟩ = some (.bool sb) := (r3.cel.cell 2).trans rfl
     obtain ⟨f3, hf3⟩ : ∃ f3 : Nat, wfl m = f3 := ⟨_, rfl⟩
     have hf3b : (if sb = true then f2 + 2 else f2) = f3 ∧ f2 ≤ 12 := by
      have ax := AX.out.1
      have ay := AY.out.1
      refine ⟨?_, by rw [← ay, ← ax]; split <;> split <;> omega⟩
      rw [← hf3]
      unfold wfl
      rw [ax, ay, AM.out.2.2.2.2.1]
      split <;> rfl
     have AF3 : Aside (wfl m = f3 ∧ (if sb = true then f2 + 2 else f2) = f3 ∧ f2 ≤ 12) := ⟨hf3, hf3b⟩
     clear hcut hoY hbY r3 hf3 hf3b
     obtain ⟨wY, hwY⟩ : ∃ wY, wY = wc := ⟨_, rfl⟩
     subst hwY
     go_upto_if 54 with fail
     go_cut [6] (fun s6 wd => s6 = .int .u8 (f3 : Int) ∧ wd = wY)
     case first => as_aux_lemma =>
      have af := AF3.out
      cases sb with
      | false =>
       have hf : f2 = f3 := by simpa using af.2.1
       subst hf
       clear af
       go_wp2_with fail
       go_meet
       exact ⟨rfl, rfl⟩
      | true =>
       have hf : f2 + 2 = f3 := by simpa using af.2.1
       have hw8 : IntKind.u8.wrap ((f2 : Int) + 2) = (f3 : Int) := by rw [IntKind.wrap_u8]; omega
       have hw9 : (f2 : Int) + 2 = (f3 : Int) := by omega
       have hw7 : (f3 : Int) % 256 = (f3 : Int) := by omega
       clear af hf
       go_wp2_with fail
       go_meet
       exact ⟨rfl, rfl⟩
     case rest =>
     obtain ⟨rfl, hwd⟩ := hcut
     subst hwd
     obtain ⟨Hq, hHq⟩ : ∃ Hq, wc.heap.size = Hq := ⟨_, rfl⟩
     have b4 : Below wc.heap.size wc (wc.alloc (.cells #[.int .u8 31, .int .u8 139, .int .u8 8, .int .u8 (f3 : Int), .int .u8 1, .int .u8 2, .int .u8 3, .int .u8 4, .int .u8 0, .int .u8 255] 5)) := (Below.refl _ wc).alloc (Nat.le_refl _) _
     have ho4 := ow_ten (f := f3) AYo.out.2.2
     rw [hHq] at ho4
     have hl4 := lies_oc (Lies.below (u := wc.alloc (.cells #[.int .u8 31, .int .u8 139, .int .u8 8, .int .u8 (f3 : Int), .int .u8 1, .int .u8 2, .int .u8 3, .int .u8 4, .int .u8 0, .int .u8 255] 5)) ((AYo.out.1.lies).elim fun a' h => h.elim fun c' h => by obtain ⟨hv, _, _, hl, _⟩ := h; cases hv; exact hl : Lies wc mb Y) b4)
     have hz4 := ow_nil AYo.out.1
     have hyb : yl ≤ 1283 := by
      have ay := AY.out
      rw [← ay.2.2, ← ay.2.1, List.length_append, AX.out.2.2]
      have h1 := wX_len (m := m)
      have h2 := wN_len (m := m)
      have h3 := AX.out.2.2
      rw [← AX.out.2.1] at h3
      omega
     have AZ4 : Aside ((ob Y).length = yl * 1 ∧ 10 + yl ≤ maxLen ∧ (10 + yl) * 1 ≤ 140737488355328 ∧ yl ≤ 1283) := ⟨by rw [ob_length, AY.out.2.2]; omega, by unfold maxLen; omega, by omega, hyb⟩
     have AB4 : Aside (Below lo2 w1 (wc.alloc (.cells #[.int .u8 31, .int .u8 139, .int .u8 8, .int .u8 (f3 : Int), .int .u8 1, .int .u8 2, .int .u8 3, .int .u8 4, .int .u8 0, .int .u8 255] 5))) := AYo.out.2.1.trans (b4.mono AYo.out.2.2)
     obtain ⟨Hd, hHd⟩ : ∃ Hd, hten f3 ++ wX m ++ wN m ++ wS m = Hd := ⟨_, rfl⟩
     obtain ⟨hl, hhl⟩ : ∃ hl, Hd.length = hl := ⟨_, rfl⟩
     have AHd : Aside (hten f3 ++ wX m ++ wN m ++ wS m = Hd ∧ Hd.length = hl) := ⟨hHd, hhl⟩
     clear hHd hhl hyb b4 e2
     go_upto_region 19 with (at_builtin; refine wpList_ow Tryz.prog _ rfl (.tmp 58) (.tmp 59) 22 rfl 5 i0 _ 1 1 Tryz.underlying22 hii hz0 hz1 hz2 rfl (by decide) lo2 (.slice (some ⟨Hq, 0, none⟩) 10 10) 10 _ (by rfl) ho4 mb (ob Y) yl md AZ4.out.1 (by rfl) hz4 hl4 ob_one AZ4.out.2.1 AZ4.out.2.2.1 ?_; intro v6 w6 hg6; obtain ⟨a6, c6, hv6, _⟩ := hg6.ow.shape; subst hv6)
     have h6 := hg6.ow
     rw [ob_append] at h6
     have A6 : Aside (Ow w6 lo2 5 1 (.slice a6 (10 + yl) c6) (10 + yl) (ob (hten f3 ++ Y)) ∧ Below lo2 w1 w6) := ⟨h6, AB4.out.trans hg6.bel⟩
     have r4 : Rws lo H1 Sm ea el ec sb da dl dc pa pl pc w w6 (.slice va n c) n z := AR.out.1.step (by rw [AR.out.2.1]; exact A6.out.2)
     have e2 : w6.cell? ⟨H1, 2, none⟩ = some (.bool sb) := (r4.cel.cell 2).trans rfl
     clear hg6 h6 ho4 hl4 hz4 hHq r4
     go_upto_if 62 with fail
     go_cut [10] (fun s10 wd => C2 lo2 hl Hd w1 s10 wd)
     case first => as_aux_lemma =>
      have ah := AHd.out
      have ay := AY.out
      have hYe : hten f3 ++ wX m ++ wN m = hten f3 ++ Y := by rw [List.append_assoc, AX.out.2.1, ay.2.1]
      cases sb with
      | false =>
       have hS : wS m = [] := by unfold wS; rw [AM.out.2.2.2.2.1]; rfl
       have hH : Hd = hten f3 ++ Y := by rw [← ah.1, hS, List.append_nil, hYe]
       have hL : hl = 10 + yl := by rw [← ah.2, hH, List.length_append, ay.2.2]; rfl
       subst hH hL
       clear ah ay hYe hS
       go_wp2_with fail
       go_meet
       exact ⟨a6, c6, rfl, A6.out.1, A6.out.2⟩
      | true =>
       obtain ⟨hv, hhv⟩ : ∃ hv, sm 0 (hten f3 ++ Y) = hv := ⟨_, rfl⟩
       obtain ⟨h16, hh16⟩ : ∃ h16, hv % 65536 = h16 := ⟨_, rfl⟩
       have hS : wS m = nbs 2 h16 := by unfold wS; rw [AM.out.2.2.2.2.1, AF3.out.1, hYe, hhv, hh16]; rfl
       have hH : Hd = hten f3 ++ Y ++ nbs 2 h16 := by rw [← ah.1, hS, hYe]
       have hL : hl = 10 + yl + 2 := by rw [← ah.2, hH, List.length_append, List.length_append, ay.2.2, nbs_length]; rfl
       have hoY : Oct (hten f3 ++ Y) := (hten_oct (by have := wfl_lt m; have := AF3.out.1; omega)).append (by rw [← ay.2.1, ← AX.out.2.1]; exact (wX_oct AM.out.1).append (wN_oct AM.out.1))
       have hlen : (hten f3 ++ Y).length = 10 + yl := by rw [List.length_append, ay.2.2]; rfl
       have hli6 : Lies w6 a6 (hten f3 ++ Y) := (A6.out.1.lies).elim fun a' h => h.elim fun c' h => by obtain ⟨hv, _, _, hl, _⟩ := h; cases hv; exact hl
       have hsu : Calls Tryz.prog 33 #[.slice a6 (10 + yl) c6] w6 fun e w' => e = .returned (.int .u32 (hv : Int)) ∧ w6 = w' := by
        have := rsum_c a6 (hten f3 ++ Y) c6 w6 hoY (by rw [hlen]; have := AZ4.out.2.2.2; omega) hli6
        rw [hlen, hhv] at this
        exact this
       have hvb : hv < 4294967296 := by rw [← hhv]; exact sm_lt _ (by decide) hoY
       have hr1 : (hv : Int) % 65536 = (h16 : Int) := by omega
       have hr2 : Int.tmod (hv : Int) 65536 = (h16 : Int) := by rw [Int.tmod_eq_emod_of_nonneg (by omega)]; omega
       have b16 : (h16 : Int) < 65536 := by omega
       have hnu : ∀ u, Calls Tryz.prog 32 #[.int .i64 (h16 : Int), .int .i64 2] u fun e w' => Oa (nbs 2 h16) 2 u e w' := fun u => number_c h16 2 (by omega) (by omega) u
       have AQ : Aside ((ob (nbs 2 h16)).length = 2 * 1 ∧ 10 + yl + 2 ≤ maxLen ∧ (10 + yl + 2) * 1 ≤ 140737488355328 ∧ Hd = hten f3 ++ Y ++ nbs 2 h16) := ⟨by rw [ob_length, nbs_length], by have := AZ4.out.2.2.2; unfold maxLen; omega, by have := AZ4.out.2.2.2; omega, hH⟩
       have ho6 := A6.out.1
       have hle6 := A6.out.1.le
       have hvb2 : (hv : Int) < 4294967296 := by omega
       subst hL
       clear ah ay hYe hS hH hoY hlen hli6 hhv hh16 hvb
       go_wp2_with (first
        | (go_at_call 33; refine hsu.mono ?_; rintro e7 w7 ⟨rfl, rfl⟩)
        | (go_at_call 32; refine (hnu _).mono ?_; intro e5 w5 h5; obtain ⟨a5, c5, he5, ho5, hb5⟩ := h5.ex; subst he5; have hl5 := lies_oc ((ho5.lies).elim fun a' h => h.elim fun c' h => by obtain ⟨hv, _, _, hl, _⟩ := h; cases hv; exact hl : Lies w5 a5 (nbs 2 h16)); have hn5 := ho6.below hb5 (Nat.le_refl _); have hz5 := ow_nil ho5)
        | (at_builtin; refine wpList_ow Tryz.prog _ rfl (.tmp 63) (.tmp 68) 22 rfl 5 i0 _ 1 1 Tryz.underlying22 hii hz0 hz1 hz2 rfl (by decide) lo2 (.slice a6 (10 + yl) c6) (10 + yl) _ (by rfl) hn5 a5 (ob (nbs 2 h16)) 2 c5 AQ.out.1 (by rfl) hz5 hl5 ob_one AQ.out.2.1 AQ.out.2.2.1 ?_; intro v8 w8 hg8; obtain ⟨a8, c8, hv8, _⟩ := hg8.ow.shape; subst hv8))
       go_meet
       have h8 := hg8.ow
       rw [ob_append, ← AQ.out.2.2.2] at h8
       exact ⟨a8, c8, rfl, h8, (A6.out.2.trans (hb5.mono hle6)).trans hg8.bel⟩
     case rest =>
     obtain ⟨ha, hc, rfl, hoH, hbH⟩ := hcut.ex
     have r5 : Rws lo H1 Sm ea el ec sb da dl dc pa pl pc w wc (.slice va n c) n z := AR.out.1.step (by rw [AR.out.2.1]; exact hbH)
     have R0 : Rws lo H1 Sm ea el ec sb da dl dc pa pl pc w wc.drew (.slice va n c) n z := r5.step (Below.drewN2 (Below.refl _ wc) 1)
     have hHd : Lies wc.drew ha Hd := Lies.below (u := wc.drew) ((hoH.lies).elim fun a' h => h.elim fun c' h => by obtain ⟨hv, _, _, hl, _⟩ := h; cases hv; exact hl : Lies wc ha Hd) (Below.drewN2 (Below.refl _ wc) 1)
     have hhlb : hl ≤ 1295 := by
      have h1 := wX_len (m := m)
      have h2 := wN_len (m := m)
      have h3 : (wS m).length ≤ 2 := by unfold wS; split <;> simp [nbs_length]
      rw [← AHd.out.2, ← AHd.out.1]
      simp only [List.length_append, hten, List.length_cons, List.length_nil]
      omega
     have hnb := AI.out.2.2.2.2.2
     have hib := AI.out.2.1
     have hNb := A.out.2.1
     have AC : Aside (n + hl + 100000000 ≤ 140000000000000) := (by omega : n + hl + 100000000 ≤ 140000000000000)
     have AZ : Aside ((ob Hd).length = hl * 1 ∧ (ha = none → hl = 0 ∧ hc = 0) ∧ n + hl ≤ maxLen ∧ (n + hl) * 1 ≤ 140737488355328) := ⟨by rw [ob_length, AHd.out.2]; omega, ow_nil hoH, by unfold maxLen; omega, by omega⟩
     have hdf : ∀ u, Below lo w u → Calls Tryz.prog 34 #[.slice da dl dc, .slice pa pl pc] u fun e w' => ∃ v z, e = .returned v ∧ Ob w' u.heap.size v z ∧ Holds 10000 z m.dt ∧ Oct z ∧ z.length ≤ 100000000 ∧ Below u.heap.size u w' := fun u hu => by
      have am := AM.out
      have hu2 : Below w.heap.size w u := by rw [A.out.2.2.2.2.2]; exact hu
      exact deflate_c 10000 u da m.dt dl dc (am.2.2.2.2.2.2.2.2.1.below hu2) am.2.2.2.2.2.1 (by have := am.1.dl; have := am.2.2.2.2.2.1; omega) am.1.dt pa m.ps pl pc (am.2.2.2.2.2.2.2.2.2.1.below hu2) am.2.2.2.2.2.2.1 (by have := am.1.pl; have := am.2.2.2.2.2.2.1; omega) am.1.pb (by have := hu.size; have := A.out.2.2.2.2.1; have := A.out.2.2.2.2.2; omega) (by have := am.1.dl; have := am.2.2.2.2.2.1; omega)
     have d35 : wc.cell? ⟨H1, 3, none⟩ = some (.slice da dl dc) ∧ wc.cell? ⟨H1, 4, none⟩ = some (.slice pa pl pc) := r5.held
     have AD : Aside _ := hdf
     clear hdf
     clear hcut hoH hbH r5 hnb hib hNb hhlb e2
     go_upto_region 21 with fail
     go_cut [3] (fun s3 wd => C3 lo H1 Sm ea el ec sb da dl dc pa pl pc w n hl z Hd m s3 wd)
     case first => as_aux_lemma =>
      refine wp_region_held_drew (S := fun u => u.cell? ⟨H1, 3, none⟩ = some (.slice da dl dc) ∧ u.cell? ⟨H1, 4, none⟩ = some (.slice pa pl pc)) (by kernel_rfl) d35 (fun hHeld => ?_)
      refine wpAnyH_take (i := 0) (oi := ⟨_, _, _, _, _, _⟩) (v := ?_) rfl (by kernel_rfl) (by kernel_rfl) (by kernel_rfl) (fun _ _ _ h => h) (Or.inl ⟨by rfl, ?_⟩) hHeld ?_
      rotate_left
      ·(intro w9 hSw; (try dsimp only at hSw); obtain ⟨q0, q1⟩ := hSw; go_simp; try (with_reducible rfl))
      try simp only [Act.put, List.setIfInBounds_toArray, List.set_cons_zero, List.set_cons_succ]
      refine wpAnyH_take (i := 1) (oi := ⟨_, _, _, _, _, _⟩) (v := ?_) rfl (by kernel_rfl) (by kernel_rfl) (by kernel_rfl) (fun _ _ _ h => h) (Or.inl ⟨by rfl, ?_⟩) hHeld ?_
      rotate_left
      ·(intro w9 hSw; (try dsimp only at hSw); obtain ⟨q0, q1⟩ := hSw; go_simp; try (with_reducible rfl))
      try simp only [Act.put, List.setIfInBounds_toArray, List.set_cons_zero, List.set_cons_succ]
      refine wpAnyH_take (i := 3) (oi := ⟨_, _, _, _, _, _⟩) (v := ?_) rfl (by kernel_rfl) (by kernel_rfl) (by kernel_rfl) (fun _ _ _ h => h) (Or.inl ⟨by rfl, ?_⟩) hHeld ?_
      rotate_left
      ·(intro w9 hSw; (try dsimp only at hSw); obtain ⟨q0, q1⟩ := hSw; go_simp; try (with_reducible rfl))
      try simp only [Act.put, List.setIfInBounds_toArray, List.set_cons_zero, List.set_cons_succ]
      refine wpAnyH_take (i := 4) (oi := ⟨_, _, _, _, _, _⟩) (v := ?_) rfl (by kernel_rfl) (by kernel_rfl) (by kernel_rfl) (fun _ _ _ h => h) (Or.inl ⟨by rfl, ?_⟩) hHeld ?_
      rotate_left
      ·(intro w9 hSw; (try dsimp only at hSw); obtain ⟨q0, q1⟩ := hSw; go_simp; try (with_reducible rfl))
      try simp only [Act.put, List.setIfInBounds_toArray, List.set_cons_zero, List.set_cons_succ]
      refine wpAnyH_take (i := 5) (oi := ⟨_, _, _, _, _, _⟩) (v := ?_) rfl (by kernel_rfl) (by kernel_rfl) (by kernel_rfl) (fun _ _ _ h => h) (Or.inl ⟨by rfl, ?_⟩) hHeld ?_
      rotate_left
      ·(intro w9 hSw; (try dsimp only at hSw); obtain ⟨q0, q1⟩ := hSw; go_simp; try (with_reducible rfl))
      try simp only [Act.put, List.setIfInBounds_toArray, List.set_cons_zero, List.set_cons_succ]
      refine wpAnyH_take (i := 6) (oi := ⟨_, _, _, _, _, _⟩) (v := ?_) rfl (by kernel_rfl) (by kernel_rfl) (by kernel_rfl) (fun _ _ _ h => h) (Or.inl ⟨by rfl, ?_⟩) hHeld ?_
      rotate_left
      ·(intro w9 hSw; (try dsimp only at hSw); obtain ⟨q0, q1⟩ := hSw; go_simp; try (with_reducible rfl))
      try simp only [Act.put, List.setIfInBounds_toArray, List.set_cons_zero, List.set_cons_succ]
      refine wpAnyH_ready (rs := [2]) (by kernel_rfl) (by simp) ?_
      refine AllReadyH.cons (o := ⟨_, _, _, _, _, _⟩) rfl (fun K hK => ?_) AllReadyH.nil
      refine step_ows Tryz.prog _ rfl (.tmp 70) (.tmp 71) 22 rfl 5 i0 _ 1 1 Tryz.underlying22 hii hz0 hz1 hz2 rfl (by decide) lo (.slice va n c) n (ob z) (by first | rfl | go_simp) R0.ow ha (ob Hd) hl hc AZ.out.1 (by first | rfl | go_simp) AZ.out.2.1 (lies_oc hHd) ob_one AZ.out.2.2.1 AZ.out.2.2.2 ?_
      intro va2 vc2 wA hgA
      have RA := R0.app hgA
      have DA := RA.held
      refine hK.out _ _ DA (fun hHA => ?_)
      clear hK K
      try simp only [Act.put, List.setIfInBounds_toArray, List.set_cons_zero, List.set_cons_succ]
      refine wpAnyH_ready (rs := [7]) (by kernel_rfl) (by simp) ?_
      refine AllReadyH.cons (o := ⟨_, _, _, _, _, _⟩) rfl (fun K hK => ?_) AllReadyH.nil
      go_simp
      go_at_call 34
      refine (AD.out _ RA.bel).mono ?_
      rintro e7 w7 ⟨v7, zz, rfl, hob7, hho7, hoz7, hzl7, hb7⟩
      obtain ⟨za, zc, hzv, hzc, hzlies, hzn⟩ := hob7.shape
      obtain ⟨Z, hZ⟩ : ∃ Z, zz.length = Z := ⟨_, rfl⟩
      have how7 : Ow w7 _ 5 1 v7 Z (ob zz) := (by rw [← hZ]; exact ⟨hob7.own, hob7.le⟩)
      rw [hZ] at hzv hzn hzl7
      subst hzv
      dsimp only
      have R7 := RA.step hb7
      have X7 : Ex w7 (.slice va2 (n + hl) vc2) za zz := RA.fresh how7 hZ
      have AZ7 : Aside ((ob zz).length = Z * 1 ∧ (za = none → Z = 0 ∧ zc = 0) ∧ n + hl + Z ≤ maxLen ∧ (n + hl + Z) * 1 ≤ 140737488355328) := ⟨by rw [ob_length]; omega, hzn, by have := AC.out; unfold maxLen; omega, by have := AC.out; omega⟩
      have D7 := R7.held
      refine hK.out _ _ D7 (fun hH7 => ?_)
      clear hK K
      try simp only [Act.put, List.setIfInBounds_toArray, List.set_cons_zero, List.set_cons_succ]
      refine wpAnyH_ready (rs := [8]) (by kernel_rfl) (by simp) ?_
      refine AllReadyH.cons (o := ⟨_, _, _, _, _, _⟩) rfl (fun K hK => ?_) AllReadyH.nil
      refine step_ows Tryz.prog _ rfl (.tmp 72) (.tmp 77) 22 rfl 5 i0 _ 1 1 Tryz.underlying22 hii hz0 hz1 hz2 rfl (by decide) lo (.slice va2 (n + hl) vc2) (n + hl) (ob (z ++ Hd)) (by first | rfl | go_simp) R7.ow za (ob zz) Z zc AZ7.out.1 (by first | rfl | go_simp) AZ7.out.2.1 (lies_oc X7.1) ob_one AZ7.out.2.2.1 AZ7.out.2.2.2 ?_
      intro va3 vc3 w3 hg3
      have R3 := R7.app hg3
      have D3 := R3.held
      refine hK.out _ _ D3 (fun hH3 => ?_)
      clear hK K
      try simp only [Act.put, List.setIfInBounds_toArray, List.set_cons_zero, List.set_cons_succ]
      refine wpAnyH_take (i := 9) (oi := ⟨_, _, _, _, _, _⟩) (v := ?_) rfl (by kernel_rfl) (by kernel_rfl) (by kernel_rfl) (fun _ _ _ h => h) (Or.inl ⟨by rfl, ?_⟩) hH3 ?_
      rotate_left
      ·(intro w9 hSw; (try dsimp only at hSw); obtain ⟨q0, q1⟩ := hSw; go_simp; try (with_reducible rfl))
      try simp only [Act.put, List.setIfInBounds_toArray, List.set_cons_zero, List.set_cons_succ]
      refine wpAnyH_done (by kernel_rfl) ?_ _
      (try dsimp only [Exit.then])
      have AF : Aside _ := R3
      have AH : Aside (Holds 10000 zz m.dt ∧ Oct zz ∧ zz.length = Z ∧ Z ≤ 100000000) := ⟨hho7, hoz7, hZ, hzl7⟩
      clear hgA hg3 RA R3 R7 X7 how7 DA D7 D3 hho7 hoz7 hZ hzl7 hob7 hb7 hzlies hzn hzc R0 hHd
      (try clear XA)
      (try clear hHd7)
      (try clear hHeld)
      (try clear hHA)
      (try clear hH7)
      (try clear hH3)
      go_wp2_with fail
      go_meet
      exact ⟨va3, n + hl + Z, vc3, zz, rfl, AF.out, AH.out.1, AH.out.2.1, by rw [AH.out.2.2.1], by rw [AH.out.2.2.1]; exact AH.out.2.2.2⟩
     case rest =>
     obtain ⟨va3, n3, vc3, zz, rfl, r6, hho, hoz, hn3, hzb⟩ := hcut.ex
     obtain ⟨z3, hz3⟩ : ∃ z3, z ++ Hd ++ zz = z3 := ⟨_, rfl⟩
     rw [hz3] at r6
     obtain ⟨sv, hsv⟩ : ∃ sv, sm 0 m.dt = sv := ⟨_, rfl⟩
     have hsvb : sv < 4294967296 := by rw [← hsv]; exact sm_lt _ (by decide) AM.out.1.dt
     have AZz : Aside (Zok m zz ∧ z ++ Hd ++ zz = z3 ∧ n3 = n + hl + zz.length ∧ sm 0 m.dt = sv) := ⟨⟨hho, hoz, hzb⟩, hz3, hn3, hsv⟩
     have hnb := AI.out.2.2.2.2.2
     have hib := AI.out.2.1
     have hNb := A.out.2.1
     have hAC := AC.out
     clear AC AZ
     have AZ : Aside (n3 + 4 ≤ maxLen ∧ (n3 + 4) * 1 ≤ 140737488355328 ∧ n3 + 4 + 4 ≤ maxLen ∧ (n3 + 4 + 4) * 1 ≤ 140737488355328) := ⟨by unfold maxLen; omega, by omega, by unfold maxLen; omega, by omega⟩
     have R0 : Rws lo H1 Sm ea el ec sb da dl dc pa pl pc w wc.drew (.slice va3 n3 vc3) n3 z3 := r6.step (Below.drewN2 (Below.refl _ wc) 1)
     have hsu : ∀ u, Below lo w u → Calls Tryz.prog 33 #[.slice da dl dc] u fun e w' => e = .returned (.int .u32 (sv : Int)) ∧ u = w' := fun u hu => by
      have am := AM.out
      have hu2 : Below w.heap.size w u := by rw [A.out.2.2.2.2.2]; exact hu
      have := rsum_c da m.dt dc u am.1.dt (by have := am.1.dl; omega) (am.2.2.2.2.2.2.2.2.1.below hu2)
      rw [am.2.2.2.2.2.1, hsv] at this
      exact this
     have hdlb : dl ≤ 5000 := by have := AM.out.1.dl; have := AM.out.2.2.2.2.2.1; omega
     have hn1 : ∀ u, Calls Tryz.prog 32 #[.int .i64 (sv : Int), .int .i64 4] u fun e w' => Oa (nbs 4 sv) 4 u e w' := fun u => number_c sv 4 (by omega) (by omega) u
     have hn2 : ∀ u, Calls Tryz.prog 32 #[.int .i64 (dl : Int), .int .i64 4] u fun e w' => Oa (nbs 4 dl) 4 u e w' := fun u => number_c dl 4 (by omega) (by omega) u
     have bsv : (sv : Int) < 4294967296 := by omega
     have bdl : (dl : Int) ≤ 5000 := by omega
     have wsv : IntKind.i64.wrap (sv : Int) = (sv : Int) := by rw [IntKind.wrap_i64]; omega
     have d35 : wc.cell? ⟨H1, 3, none⟩ = some (.slice da dl dc) ∧ wc.cell? ⟨H1, 4, none⟩ = some (.slice pa pl pc) := r6.held
     have ASu : Aside _ := hsu
     have AN1 : Aside _ := hn1
     have AN2 : Aside _ := hn2
     clear hcut r6 hho hoz hn3 hzb hz3 hsv hsvb hnb hib hNb hAC hdlb AD hHd hsu hn1 hn2
     go_upto_region 22 with fail
     refine wp_region_held_drew (S := fun u => u.cell? ⟨H1, 3, none⟩ = some (.slice da dl dc) ∧ u.cell? ⟨H1, 4, none⟩ = some (.slice pa pl pc)) (by kernel_rfl) d35 (fun hHeld => ?_)
     refine wpAnyH_take (i := 0) (oi := ⟨_, _, _, _, _, _⟩) (v := ?_) rfl (by kernel_rfl) (by kernel_rfl) (by kernel_rfl) (fun _ _ _ h => h) (Or.inl ⟨by rfl, ?_⟩) hHeld ?_
     rotate_left
     ·(intro w9 hSw; (try dsimp only at hSw); obtain ⟨q0, q1⟩ := hSw; go_simp; try (with_reducible rfl))
     try simp only [Act.put, List.setIfInBounds_toArray, List.set_cons_zero, List.set_cons_succ]
     refine wpAnyH_take (i := 1) (oi := ⟨_, _, _, _, _, _⟩) (v := ?_) rfl (by kernel_rfl) (by kernel_rfl) (by kernel_rfl) (fun _ _ _ h => h) (Or.inl ⟨by rfl, ?_⟩) hHeld ?_
     rotate_left
     ·(intro w9 hSw; (try dsimp only at hSw); obtain ⟨q0, q1⟩ := hSw; go_simp; try (with_reducible rfl))
     try simp only [Act.put, List.setIfInBounds_toArray, List.set_cons_zero, List.set_cons_succ]
     refine wpAnyH_take (i := 2) (oi := ⟨_, _, _, _, _, _⟩) (v := ?_) rfl (by kernel_rfl) (by kernel_rfl) (by kernel_rfl) (fun _ _ _ h => h) (Or.inl ⟨by rfl, ?_⟩) hHeld ?_
     rotate_left
     ·(intro w9 hSw; (try dsimp only at hSw); obtain ⟨q0, q1⟩ := hSw; go_simp; try (with_reducible rfl))
     try simp only [Act.put, List.setIfInBounds_toArray, List.set_cons_zero, List.set_cons_succ]
     refine wpAnyH_take (i := 7) (oi := ⟨_, _, _, _, _, _⟩) (v := ?_) rfl (by kernel_rfl) (by kernel_rfl) (by kernel_rfl) (fun _ _ _ h => h) (Or.inl ⟨by rfl, ?_⟩) hHeld ?_
     rotate_left
     ·(intro w9 hSw; (try dsimp only at hSw); obtain ⟨q0, q1⟩ := hSw; go_simp; try (with_reducible rfl))
     try simp only [Act.put, List.setIfInBounds_toArray, List.set_cons_zero, List.set_cons_succ]
     refine wpAnyH_take (i := 8) (oi := ⟨_, _, _, _, _, _⟩) (v := ?_) rfl (by kernel_rfl) (by kernel_rfl) (by kernel_rfl) (fun _ _ _ h => h) (Or.inl ⟨by rfl, ?_⟩) hHeld ?_
     rotate_left
     ·(intro w9 hSw; (try dsimp only at hSw); obtain ⟨q0, q1⟩ := hSw; go_simp; try (with_reducible rfl))
     try simp only [Act.put, List.setIfInBounds_toArray, List.set_cons_zero, List.set_cons_succ]
     refine wpAnyH_take (i := 9) (oi := ⟨_, _, _, _, _, _⟩) (v := ?_) rfl (by kernel_rfl) (by kernel_rfl) (by kernel_rfl) (fun _ _ _ h => h) (Or.inl ⟨by rfl, ?_⟩) hHeld ?_
     rotate_left
     ·(intro w9 hSw; (try dsimp only at hSw); obtain ⟨q0, q1⟩ := hSw; go_simp; try (with_reducible rfl))
     try simp only [Act.put, List.setIfInBounds_toArray, List.set_cons_zero, List.set_cons_succ]
     refine wpAnyH_ready (rs := [3]) (by kernel_rfl) (by simp) ?_
     refine AllReadyH.cons (o := ⟨_, _, _, _, _, _⟩) rfl (fun K hK => ?_) AllReadyH.nil
     go_simp
     go_at_call 33
     refine (ASu.out _ R0.bel).mono ?_
     rintro e3 w3 ⟨rfl, hw3⟩
     subst hw3
     dsimp only
     have D3 := R0.held
     refine hK.out _ _ D3 (fun hH3 => ?_)
     clear hK K
     try simp only [Act.put, List.setIfInBounds_toArray, List.set_cons_zero, List.set_cons_succ]
     refine wpAnyH_take (i := 4) (oi := ⟨_, _, _, _, _, _⟩) (v := ?_) rfl (by kernel_rfl) (by kernel_rfl) (by kernel_rfl) (fun _ _ _ h => h) (Or.inl ⟨by rfl, ?_⟩) hH3 ?_
     rotate_left
     ·(intro w9 hSw; (try dsimp only at hSw); obtain ⟨q0, q1⟩ := hSw; go_simp; try (with_reducible rfl))
     try simp only [Act.put, List.setIfInBounds_toArray, List.set_cons_zero, List.set_cons_succ]
     refine wpAnyH_ready (rs := [5]) (by kernel_rfl) (by simp) ?_
     refine AllReadyH.cons (o := ⟨_, _, _, _, _, _⟩) rfl (fun K hK => ?_) AllReadyH.nil
     go_simp
     go_at_call 32
     refine (AN1.out _).mono ?_
     intro e5 w5 h5
     obtain ⟨a5, c5, he5, ho5, hb5⟩ := h5.ex
     subst he5
     dsimp only
     have R5 := R0.step hb5
     have X5 : Ex w5 (.slice va3 n3 vc3) a5 (nbs 4 sv) := R0.fresh ho5 (nbs_length 4 _)
     have hz5 := (ow_nil ho5)
     have D5 := R5.held
     refine hK.out _ _ D5 (fun hH5 => ?_)
     clear hK K
     try simp only [Act.put, List.setIfInBounds_toArray, List.set_cons_zero, List.set_cons_succ]
     refine wpAnyH_ready (rs := [6]) (by kernel_rfl) (by simp) ?_
     refine AllReadyH.cons (o := ⟨_, _, _, _, _, _⟩) rfl (fun K hK => ?_) AllReadyH.nil
     refine step_ows Tryz.prog _ rfl (.tmp 79) (.tmp 84) 22 rfl 5 i0 _ 1 1 Tryz.underlying22 hii hz0 hz1 hz2 rfl (by decide) lo (.slice va3 n3 vc3) n3 (ob z3) (by first | rfl | go_simp) R5.ow a5 (ob (nbs 4 sv)) 4 c5 (by rw [ob_length, nbs_length]) (by first | rfl | go_simp) hz5 (lies_oc X5.1) ob_one AZ.out.1 AZ.out.2.1 ?_
     intro va4 vc4 w6 hg6
     have R6 := R5.app hg6
     have D6 := R6.held
     refine hK.out _ _ D6 (fun hH6 => ?_)
     clear hK K
     try simp only [Act.put, List.setIfInBounds_toArray, List.set_cons_zero, List.set_cons_succ]
     refine wpAnyH_ready (rs := [10]) (by kernel_rfl) (by simp) ?_
     refine AllReadyH.cons (o := ⟨_, _, _, _, _, _⟩) rfl (fun K hK => ?_) AllReadyH.nil
     go_simp
     go_at_call 32
     refine (AN2.out _).mono ?_
     intro e10 w10 h10
     obtain ⟨a10, c10, he10, ho10, hb10⟩ := h10.ex
     subst he10
     dsimp only
     have R10 := R6.step hb10
     have X10 : Ex w10 (.slice va4 (n3 + 4) vc4) a10 (nbs 4 dl) := R6.fresh ho10 (nbs_length 4 _)
     have hz10 := (ow_nil ho10)
     have D10 := R10.held
     refine hK.out _ _ D10 (fun hH10 => ?_)
     clear hK K
     try simp only [Act.put, List.setIfInBounds_toArray, List.set_cons_zero, List.set_cons_succ]
     refine wpAnyH_ready (rs := [11]) (by kernel_rfl) (by simp) ?_
     refine AllReadyH.cons (o := ⟨_, _, _, _, _, _⟩) rfl (fun K hK => ?_) AllReadyH.nil
     refine step_ows Tryz.prog _ rfl (.tmp 85) (.tmp 89) 22 rfl 5 i0 _ 1 1 Tryz.underlying22 hii hz0 hz1 hz2 rfl (by decide) lo (.slice va4 (n3 + 4) vc4) (n3 + 4) (ob (z3 ++ nbs 4 sv)) (by first | rfl | go_simp) R10.ow a10 (ob (nbs 4 dl)) 4 c10 (by rw [ob_length, nbs_length]) (by first | rfl | go_simp) hz10 (lies_oc X10.1) ob_one AZ.out.2.2.1 AZ.out.2.2.2 ?_
     intro va5 vc5 w11 hg11
     have R11 := R10.app hg11
     have D11 := R11.held
     refine hK.out _ _ D11 (fun hH11 => ?_)
     clear hK K
     try simp only [Act.put, List.setIfInBounds_toArray, List.set_cons_zero, List.set_cons_succ]
     refine wpAnyH_take (i := 12) (oi := ⟨_, _, _, _, _, _⟩) (v := ?_) rfl (by kernel_rfl) (by kernel_rfl) (by kernel_rfl) (fun _ _ _ h => h) (Or.inl ⟨by rfl, ?_⟩) hH11 ?_
     rotate_left
     ·(intro w9 hSw; (try dsimp only at hSw); obtain ⟨q0, q1⟩ := hSw; go_simp; try (with_reducible rfl))
     try simp only [Act.put, List.setIfInBounds_toArray, List.set_cons_zero, List.set_cons_succ]
     refine wpAnyH_done (by kernel_rfl) ?_ _
     (try dsimp only [Exit.then])
     have AR7 : Aside _ := R11
     clear hg6 hg11 R0 R5 R6 R10 R11 X5 X10 D3 D5 D6 D10 D11 ho5 hb5 ho10 hb10 hz5 hz10 h5 h10
     (try clear X5b)
     (try clear X10b)
     (try clear X10c)
     (try clear hH3)
     (try clear hH5)
     (try clear hH6)
     (try clear hH10)
     (try clear hH11)
     (try clear hHeld)
     clear ASu AN1 AN2 wsv d35
     go_wp2_with fail
     have ai := AI.out
     have az := AZz.out
     have r7 := AR7.out
     have am := AM.out
     have e1 : ms.take (i + 1) = ms.take i ++ [m] := tk_snoc am.2.1
     have hzl : zs.length = (ms.take i).length := ai.2.2.1.1
     have e2 : wal (wms (ms.take (i + 1)) (zs ++ [zz])) = z3 ++ nbs 4 sv ++ nbs 4 dl := by
      rw [e1, wal_snoc hzl, ai.2.2.2.1, ← az.2.1]
      unfold Wm.bytes Wm.head wmk
      simp only
      rw [AF3.out.1, AHd.out.1, az.2.2.2, am.2.2.2.2.2.1]
      simp only [List.append_assoc]
     have e3 : (z3 ++ nbs 4 sv ++ nbs 4 dl).length = n3 + 4 + 4 := by
      rw [List.length_append, List.length_append, nbs_length, nbs_length, ← az.2.1, List.length_append, List.length_append, ai.2.2.2.2.1, AHd.out.2, az.2.2.1]
     have hhlb : hl ≤ 1295 := by
      have h1 := wX_len (m := m)
      have h2 := wN_len (m := m)
      have h3 : (wS m).length ≤ 2 := by unfold wS; split <;> simp [nbs_length]
      rw [← AHd.out.2, ← AHd.out.1]
      simp only [List.length_append, hten, List.length_cons, List.length_nil]
      omega
     have hzz := az.1.len
     go_roundg (gk - 1)
     case measure => omega
     case rel => exact ⟨va5, n3 + 4 + 4, vc5, i + 1, rfl, by go_num, ⟨by omega, zs ++ [zz], by rw [e1]; exact zall_snoc ai.2.2.1 az.1, by rw [e2]; exact r7.ow, by rw [e2]; exact e3, by have := ai.2.2.2.2.2; have := az.2.2.1; omega, r7.bel⟩⟩
  ·have t1 : ((i : Int) < (N : Int)) = False := eq_false (by omega)
   have t2 : (i < N) = False := eq_false hi
   obtain rfl : i = N := by omega
   have htk : ms.take i = ms := List.take_of_length_le (by omega)
   rw [htk] at hza hown hzl
   have AE : Aside (Zall ms zs ∧ Ow wr lo 5 1 (.slice va n c) n (ob (wal (wms ms zs))) ∧ (wal (wms ms zs)).length = n ∧ n ≤ ms.length * 100002000 ∧ Below lo w wr) := ⟨hza, hown, hzl, by rw [a0.1]; exact hnb, hbel⟩
   clear hT hig hza hown hzl hnb hbel a0 hi htk
   go_wp2_with fail
   first | go_ret | go_ret2
   obtain ⟨q1, q2, q3, q4, q5⟩ := AE.out
   have hlo := A.out.2.2.2.2.2
   exact ⟨va, n, c, zs, rfl, q1, by rw [hlo]; exact q2, q3, q4, by rw [hlo]; exact q5⟩
end Go.Proofs.YtogednaamndpgaaGreatDoor

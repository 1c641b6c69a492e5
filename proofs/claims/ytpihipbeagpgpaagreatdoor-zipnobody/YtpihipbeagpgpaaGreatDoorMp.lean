/-
  Own texts of this seat, one behind the other: what each says stands ahead of it.
-/
import Derived.Test.YtpihipbeagpgpaaGreatDoorMo
import Derived.Test.YtpihipbeagpgpaaGreatDoorMl
import Derived.Test.YtpihipbeagpgpaaGreatDoorMn
/-
 Behind the event that opens an entry; bytes that are passed over, or the name's.
-/
namespace Go.Proofs.YtpihipbeagpgpaaGreatDoor
open Go.RowKit
set_option linter.unusedVariables false
section
variable {lo hi B D b R W P Q be bw : Nat} {I o : List Nat} {cf : Cfg} {q : Md} {c : Zc} {s : Zs} {v td : Value}
theorem Wk.ext {w : World} {c' : Zc} (h : Wk w lo hi B D b R W c I cf q) (e : c = c') : Wk w lo hi B D b R W c' I cf q := e ▸ h
set_option maxHeartbeats 1000000 in
theorem begin_c (w : World) (h : Wk w lo hi B D b R W (zc s v td none) I cf q) (h0 : s.why = 0) (hp : s.ph ≠ 1) (hsg : s.sg = 0) (hgv : s.gv = 0) (hfl : s.fl < 18446744073709551616) : Calls Tryz.prog 142 #[.pointer (some ⟨W, 0, none⟩)] w fun e w' => e = .returned (.tuple #[]) ∧ (Wz w' lo hi B D b R W (zbegin s).1 (zbegin s).2 ∧ Fz lo hi w w') := by
 have d3 : w.cell? ⟨W, 3, none⟩ = some (.int .u64 (s.me : Int)) := h.wc.a3
 have c1 := h.wc.a1
 have z1 := h.wc.fz 1
 have c274 := h.wc.a274
 have z274 := h.wc.fz 274
 obtain ⟨G, hG⟩ : ∃ G : World → Prop, G = fun w' => (Wz w' lo hi B D b R W (zbegin s).1 (zbegin s).2 ∧ Fz lo hi w w') := ⟨_, rfl⟩
 rw [show (fun (e : Ending) (w' : World) => e = .returned (.tuple #[]) ∧ (Wz w' lo hi B D b R W (zbegin s).1 (zbegin s).2 ∧ Fz lo hi w w')) = fun e w' => e = .returned (.tuple #[]) ∧ G w' by rw [hG]]
 by_cases hm : s.me = 0
 ·have o2 : Only W w ((w.setCell ⟨W, 1, none⟩ (.func (.func 147) #[.pointer (some ⟨W, 0, none⟩)] #[])).setCell ⟨W, 274, none⟩ (.func (.func 148) #[.pointer (some ⟨W, 0, none⟩)] #[])) := ((Only.refl W w).setCell 1 _).setCell 274 _
  have k2 : Wk ((w.setCell ⟨W, 1, none⟩ (.func (.func 147) #[.pointer (some ⟨W, 0, none⟩)] #[])).setCell ⟨W, 274, none⟩ (.func (.func 148) #[.pointer (some ⟨W, 0, none⟩)] #[])) lo hi B D b R W (zc { s with ph := 4 } (bm 147 W) (bm 148 W) none) I cf q :=
   (h.set o2 ((h.wc.s1 (bm 147 W)).s274 (bm 148 W))).ext (by unfold zc; simp [hp])
  have ks : Calls Tryz.prog 148 #[.pointer (some ⟨W, 0, none⟩)] ((w.setCell ⟨W, 1, none⟩ (.func (.func 147) #[.pointer (some ⟨W, 0, none⟩)] #[])).setCell ⟨W, 274, none⟩ (.func (.func 148) #[.pointer (some ⟨W, 0, none⟩)] #[])) fun e w' => e = .returned (.tuple #[]) ∧ G w' := by
   refine (storedEnd_c (s := { s with ph := 4 }) _ k2 h0 rfl (by show s.sg < _; rw [hsg]; decide)).mono ?_
   rintro e w' ⟨a, k, f⟩
   rw [hG]
   refine ⟨a, ?_, (h.fw o2).trans f⟩
   have e : zbegin s = zsen { s with ph := 4 } := by unfold zbegin zsen; rw [if_pos hm]
   rw [e]
   exact k
  rw [hm] at d3
  clear h h0 hp hsg hgv hfl hG hm o2 k2
  go_enter Tryz.func142, Tryz.ntmps142
  go_wp2_with (go_at_call 148; refine ks.mono ?_; rintro e1 w1 ⟨rfl, h1⟩)
  first | go_end0 | (refine bodyPost_ret (results_none rfl _ _ _) rfl ?_)
  exact ⟨rfl, h1⟩
 ·have kr := reset_c w h.inf
  have d0 : w.cell? ⟨W, 0, none⟩ = some (.pointer (some ⟨D, 0, none⟩)) := h.wc.a0
  have ka : ∀ X, Fm B w X → Inf X B D b R [] MM c0 .want → (X.cell? ⟨W, 1, none⟩ = some v ∧ X.frozen? ⟨W, 1, none⟩ = false ∧ X.cell? ⟨W, 274, none⟩ = some td ∧ X.frozen? ⟨W, 274, none⟩ = false) ∧ Calls Tryz.prog 151 #[.pointer (some ⟨W, 0, none⟩)] ((X.setCell ⟨W, 1, none⟩ (.func (.func 150) #[.pointer (some ⟨W, 0, none⟩)] #[])).setCell ⟨W, 274, none⟩ (.func (.func 151) #[.pointer (some ⟨W, 0, none⟩)] #[])) fun e w' => e = .returned (.tuple #[]) ∧ G w' := fun X fX iX => by
   have k1 := h.fm fX iX
   refine ⟨⟨k1.wc.a1, k1.wc.fz 1, k1.wc.a274, k1.wc.fz 274⟩, ?_⟩
   have o2 : Only W X ((X.setCell ⟨W, 1, none⟩ (.func (.func 150) #[.pointer (some ⟨W, 0, none⟩)] #[])).setCell ⟨W, 274, none⟩ (.func (.func 151) #[.pointer (some ⟨W, 0, none⟩)] #[])) := ((Only.refl W X).setCell 1 _).setCell 274 _
   have k2 : Wk ((X.setCell ⟨W, 1, none⟩ (.func (.func 150) #[.pointer (some ⟨W, 0, none⟩)] #[])).setCell ⟨W, 274, none⟩ (.func (.func 151) #[.pointer (some ⟨W, 0, none⟩)] #[])) lo hi B D b R W (zc { s with ph := 5, ip := [], y := c0 } (bm 150 W) (bm 151 W) none) [] c0 .want :=
    (k1.set o2 ((k1.wc.s1 (bm 150 W)).s274 (bm 151 W))).ext (by unfold zc; simp [hp])
   refine (ask_c (s := { s with ph := 5, ip := [], y := c0 }) (o := []) _ k2 (Or.inr ⟨Or.inr rfl, rfl⟩) hsg hgv h0 rfl rfl hfl (stands_nil MM) (by decide) _ rfl).mono ?_
   rintro e w' ⟨a, k, f⟩
   rw [hG]
   refine ⟨a, ?_, (h.ffm fX).trans ((k1.fw o2).trans f)⟩
   have e1 : ({ ({ s with ph := 5, ip := [], y := c0 } : Zs) with sg := sm 0 ({ s with ph := 5, ip := [], y := c0 } : Zs).y.out, gv := ({ s with ph := 5, ip := [], y := c0 } : Zs).y.out.length } : Zs) = { s with ph := 5, ip := [], y := c0 } := by
    show ({ s with ph := 5, ip := [], y := c0, sg := 0, gv := 0 } : Zs) = _
    rw [← hsg]
    conv => lhs; rw [show (s.sg : Nat) = s.gv by rw [hsg, hgv]]
    rw [show s.gv = s.sg by rw [hsg, hgv]]
   have e : zbegin s = zask { s with ph := 5, ip := [], y := c0 } := by
    have ez : zask { s with ph := 5, ip := [], y := c0 } = if zbeh s = false ∧ s.tk = s.pk then (zbad 45 { s with ph := 5, ip := [], y := c0 }, []) else ({ s with ph := 5, ip := [], y := c0 }, []) := by
     unfold zask
     rw [if_neg (by show ¬ badC c0 ≠ 0; exact fun e => e rfl), if_neg (by show ¬ endC c0 = true; decide)]
     rfl
    rw [ez]
    unfold zbegin
    rw [if_neg hm]
   rw [e1] at k
   rw [e]
   exact k
  have AK : Aside (∀ X, Fm B w X → Inf X B D b R [] MM c0 .want → (X.cell? ⟨W, 1, none⟩ = some v ∧ X.frozen? ⟨W, 1, none⟩ = false ∧ X.cell? ⟨W, 274, none⟩ = some td ∧ X.frozen? ⟨W, 274, none⟩ = false) ∧ Calls Tryz.prog 151 #[.pointer (some ⟨W, 0, none⟩)] ((X.setCell ⟨W, 1, none⟩ (.func (.func 150) #[.pointer (some ⟨W, 0, none⟩)] #[])).setCell ⟨W, 274, none⟩ (.func (.func 151) #[.pointer (some ⟨W, 0, none⟩)] #[])) fun e w' => e = .returned (.tuple #[]) ∧ G w') := ka
  obtain ⟨me, hme⟩ : ∃ m, s.me = m := ⟨_, rfl⟩
  rw [hme] at d3 hm
  have t0 : ((me : Int) == 0) = false := by rw [beq_eq_false_iff_ne]; omega
  clear h h0 hp hsg hgv hfl hG hm ka hme c1 c274 z1 z274
  go_enter Tryz.func142, Tryz.ntmps142
  go_wp2_with (first
   | (go_at_call 149; refine kr.mono ?_; rintro e1 w1 ⟨rfl, i1, f1⟩; obtain ⟨⟨c1, z1, c274, z274⟩, kk⟩ := AK.out w1 f1 i1; clear i1 f1)
   | (go_at_call 151; refine kk.mono ?_; rintro e1 w1 ⟨rfl, h1⟩))
  first | go_end0 | (refine bodyPost_ret (results_none rfl _ _ _) rfl ?_)
  exact ⟨rfl, h1⟩
theorem name1_c (be pa x n : Nat) (w : World) (h : Wk w lo hi B D b R W c I cf q) (hn : c.nm.length = n) (hl : n < 256) (xe : Bx w hi be 122 #[ptr W 2]) (xa : Bx w hi pa 3 #[.int .i64 (n : Int)]) : Calls Tryz.prog 96 #[.int .u8 (x : Int), .pointer (some ⟨be, 0, none⟩), .pointer (some ⟨pa, 0, none⟩)] w fun e w' => e = .returned (.tuple #[]) ∧ (Wk w' lo hi B D b R W { c with nm := c.nm ++ [x] } I cf q ∧ Bx w' hi pa 3 #[.int .i64 ((n + 1 : Nat) : Int)] ∧ Fz lo hi w w' ∧ (∀ p t cs, Bx w hi p t cs → p ≠ pa → Bx w' hi p t cs)) := by
 have de : w.cell? ⟨be, 0, none⟩ = some (.pointer (some ⟨W, 2, none⟩)) := by rw [xe.cell.cell]; rfl
 have da : w.cell? ⟨pa, 0, none⟩ = some (.int .i64 (n : Int)) := by rw [xa.cell.cell]; rfl
 have za : w.frozen? ⟨pa, 0, none⟩ = false := xa.cell.frozen 0
 have hW := h.g.hW
 have np : ¬ pa = W := by have := xa.lo; omega
 have fin : ∀ m, Wk (((w.drewN m).setCell ⟨W, 10 + n, none⟩ (.int .u8 (x : Int))).setCell ⟨pa, 0, none⟩ (.int .i64 ((n + 1 : Nat) : Int))) lo hi B D b R W { c with nm := c.nm ++ [x] } I cf q ∧ Bx (((w.drewN m).setCell ⟨W, 10 + n, none⟩ (.int .u8 (x : Int))).setCell ⟨pa, 0, none⟩ (.int .i64 ((n + 1 : Nat) : Int))) hi pa 3 #[.int .i64 ((n + 1 : Nat) : Int)] ∧ Fz lo hi w (((w.drewN m).setCell ⟨W, 10 + n, none⟩ (.int .u8 (x : Int))).setCell ⟨pa, 0, none⟩ (.int .i64 ((n + 1 : Nat) : Int))) ∧ (∀ p t cs, Bx w hi p t cs → p ≠ pa → Bx (((w.drewN m).setCell ⟨W, 10 + n, none⟩ (.int .u8 (x : Int))).setCell ⟨pa, 0, none⟩ (.int .i64 ((n + 1 : Nat) : Int))) hi p t cs) := fun m => by
  have k := h.drewN m
  have o1 : Only W (w.drewN m) ((w.drewN m).setCell ⟨W, 10 + n, none⟩ (.int .u8 (x : Int))) := (Only.refl W _).setCell _ _
  have hc := k.wc.sn x (by rw [hn]; exact hl)
  rw [hn] at hc
  have k1 := k.set o1 hc
  have y1 : Bx ((w.drewN m).setCell ⟨W, 10 + n, none⟩ (.int .u8 (x : Int))) hi pa 3 #[.int .i64 (n : Int)] := ⟨xa.lo, (xa.cell.drewN m).only o1 np⟩
  have o2 : Only pa ((w.drewN m).setCell ⟨W, 10 + n, none⟩ (.int .u8 (x : Int))) (((w.drewN m).setCell ⟨W, 10 + n, none⟩ (.int .u8 (x : Int))).setCell ⟨pa, 0, none⟩ (.int .i64 ((n + 1 : Nat) : Int))) := (Only.refl pa _).setCell 0 _
  refine ⟨k1.box y1 (by decide) o2, ⟨xa.lo, y1.cell.set 0 _⟩, (Fz.drewN w m).trans ((k.fw o1).trans (k1.fbox y1 (by decide) o2)), fun p t cs hp hne => ⟨hp.lo, ?_⟩⟩
  exact ((hp.cell.drewN m).only o1 (by have := hp.lo; omega)).only o2 hne
 have AF : Aside (∀ m, _) := fin
 have c10 : w.cell? ⟨W, 10 + n, none⟩ ≠ none := by
  obtain ⟨f, hf, _⟩ := h.wc.ex
  rw [hf.cell, kz_at f (by omega)]
  simp
 obtain ⟨o0, ho0⟩ : ∃ o0, w.cell? ⟨W, 10 + n, none⟩ = some o0 := Option.ne_none_iff_exists'.1 c10
 have z10 : w.frozen? ⟨W, 10 + n, none⟩ = false := h.wc.fz _
 have hn1 : ((n + 1 : Nat) : Int) = (n : Int) + 1 := by omega
 rw [hn1] at AF
 have hnI : (n : Int) < 256 := by omega
 clear h hn xe xa fin c10 hW hn1
 go_enter Tryz.func96, Tryz.ntmps96
 go_wp2_with fail
 go_region
 go_wp2_with fail
 first | go_end0 | (refine bodyPost_ret (results_none rfl _ _ _) rfl ?_)
 exact ⟨rfl, AF.out _⟩
end
end Go.Proofs.YtpihipbeagpgpaaGreatDoor

/-
  The closure that passes over bytes, or keeps the name's.
-/
namespace Go.Proofs.YtpihipbeagpgpaaGreatDoor
open Go.RowKit
set_option linter.unusedVariables false
section
variable {lo hi B D b R W P Q be bw pu pm pt : Nat} {I o : List Nat} {cf : Cfg} {q : Md} {c : Zc} {s : Zs} {v td : Value}
def Us (w : World) (hi W : Nat) (s : Zs) (F : Fn) (fc : Array Value) : Prop := (s.k = 0 ∧ s.nm.length < 256 ∧ ∃ be pa, F = .func 96 ∧ fc = #[ptr be 0, ptr pa 0] ∧ Bx w hi be 122 #[ptr W 2] ∧ Bx w hi pa 3 #[.int .i64 (s.nm.length : Int)]) ∨ (s.k ≠ 0 ∧ F = .func 139 ∧ fc = #[])
structure Tu (w3 w : World) (lo hi B D b R W pu pm pt : Nat) (I : List Nat) (cf : Cfg) (q : Md) (x : Nat) (s : Zs) (F : Fn) (fc : Array Value) (v td : Value) : Prop where
  wk : Wk w3 lo hi B D b R W (zc (zbyt x s) v td none) I cf q
  pu : Bx w3 hi pu 65 #[.func F #[] fc]
  pm : Bx w3 hi pm 66 #[.int .u64 ((s.mn - 1 : Nat) : Int)]
  pt : Bx w3 hi pt 1 #[t3 W s.k]
  us : (s.k = 0 ∧ ∃ be pa, F = .func 96 ∧ fc = #[ptr be 0, ptr pa 0] ∧ Bx w3 hi be 122 #[ptr W 2] ∧ Bx w3 hi pa 3 #[.int .i64 ((s.nm.length + 1 : Nat) : Int)]) ∨ (s.k ≠ 0 ∧ F = .func 139 ∧ fc = #[])
  fz : Fz lo hi w w3
theorem Tu.mk' {w2 w : World} {x : Nat} {F : Fn} {fc : Array Value} (h1 : 1 ≤ s.mn) (k : Wk w2 lo hi B D b R W (zc (zbyt x s) v td none) I cf q) (xu : Bx w2 hi pu 65 #[.func F #[] fc]) (xm : Bx w2 hi pm 66 #[.int .u64 (s.mn : Int)]) (xt : Bx w2 hi pt 1 #[t3 W s.k]) (hU : (s.k = 0 ∧ ∃ be pa, F = .func 96 ∧ fc = #[ptr be 0, ptr pa 0] ∧ Bx w2 hi be 122 #[ptr W 2] ∧ Bx w2 hi pa 3 #[.int .i64 ((s.nm.length + 1 : Nat) : Int)]) ∨ (s.k ≠ 0 ∧ F = .func 139 ∧ fc = #[])) (f : Fz lo hi w w2) :
    Tu (w2.setCell ⟨pm, 0, none⟩ (.int .u64 ((s.mn : Int) - 1))) w lo hi B D b R W pu pm pt I cf q x s F fc v td := by
  have e : ((s.mn : Int) - 1) = ((s.mn - 1 : Nat) : Int) := by omega
  rw [e]
  have o : Only pm w2 (w2.setCell ⟨pm, 0, none⟩ (.int .u64 ((s.mn - 1 : Nat) : Int))) := (Only.refl pm w2).setCell 0 _
  refine ⟨k.box xm (by decide) o, xu.only o (xu.ne xm (by decide)), ⟨xm.lo, xm.cell.set 0 _⟩, xt.only o (xt.ne xm (by decide)), ?_, f.trans (k.fbox xm (by decide) o)⟩
  rcases hU with ⟨a, be, pa, c, d, e, g⟩ | hU
  · exact Or.inl ⟨a, be, pa, c, d, e.only o (e.ne xm (by decide)), g.only o (g.ne xm (by decide))⟩
  · exact Or.inr hU
theorem Tu.more {w3 w : World} {x : Nat} {F : Fn} {fc : Array Value} (h : Tu w3 w lo hi B D b R W pu pm pt I cf q x s F fc v td) (hv : v = cl 123 #[ptr pu 0, ptr pm 0, ptr pt 0]) (h3 : s.ph = 3) : Wz w3 lo hi B D b R W (zbyt x s) [] := by
  refine Or.inl ⟨rfl, v, td, I, cf, q, h.wk, fun _ => Or.inr (Or.inr (Or.inr (Or.inl ⟨h3, pu, pm, pt, _, hv, h.pu, h.pm, h.pt, ?_⟩))), fun e => ?_⟩
  · rcases h.us with ⟨a, be, pa, c, d, e, g⟩ | ⟨a, c, d⟩
    · refine Or.inl ⟨a, be, pa, by rw [c, d]; rfl, e, ?_⟩
      have en : (zbyt x s).nm.length = s.nm.length + 1 := by
        show (if s.k = 0 then s.nm ++ [x] else s.nm).length = _
        rw [if_pos a, List.length_append, List.length_singleton]
      rw [en]
      exact g
    · exact Or.inr ⟨a, by rw [c, d]⟩
  · have e3 : (zbyt x s).ph = 3 := h3
    omega
set_option maxHeartbeats 2000000 in
theorem tak_c (x : Nat) (F : Fn) (fc : Array Value) (w : World) (h : Wk w lo hi B D b R W (zc s v td none) I cf q) (hv : v = cl 123 #[ptr pu 0, ptr pm 0, ptr pt 0]) (h0 : s.why = 0) (h3 : s.ph = 3) (hk : s.k ≤ 3) (hm : 1 ≤ s.mn) (hmx : s.mn < 18446744073709551616) (xu : Bx w hi pu 65 #[.func F #[] fc]) (xm : Bx w hi pm 66 #[.int .u64 (s.mn : Int)]) (xt : Bx w hi pt 1 #[t3 W s.k]) (hU : Us w hi W s F fc) (hZ : s.mn = 1 → s.k ≤ 2 → Zh (zbyt x s) ∧ s.xl < 18446744073709551616) :
    Calls Tryz.prog 123 #[.int .u8 (x : Int), .pointer (some ⟨pu, 0, none⟩), .pointer (some ⟨pm, 0, none⟩), .pointer (some ⟨pt, 0, none⟩)] w fun e w' => e = .returned (.tuple #[]) ∧ (Wz w' lo hi B D b R W (ztak x s).1 (ztak x s).2 ∧ Fz lo hi w w') := by
  have du : w.cell? ⟨pu, 0, none⟩ = some (.func F #[] fc) := by rw [xu.cell.cell]; rfl
  have hmod : ((s.mn : Int) - 1) % 18446744073709551616 = (s.mn : Int) - 1 := by omega
  obtain ⟨G, hG⟩ : ∃ G : World → Prop, G = fun w' => (Wz w' lo hi B D b R W (ztak x s).1 (ztak x s).2 ∧ Fz lo hi w w') := ⟨_, rfl⟩
  rw [show (fun (e : Ending) (w' : World) => e = .returned (.tuple #[]) ∧ (Wz w' lo hi B D b R W (ztak x s).1 (ztak x s).2 ∧ Fz lo hi w w')) = fun e w' => e = .returned (.tuple #[]) ∧ G w' by rw [hG]]
  -- the use of the byte
  have kuse : ∀ (w2 : World), Wk w2 lo hi B D b R W (zc (zbyt x s) v td none) I cf q → Bx w2 hi pu 65 #[.func F #[] fc] → Bx w2 hi pm 66 #[.int .u64 (s.mn : Int)] → Bx w2 hi pt 1 #[t3 W s.k] → ((s.k = 0 ∧ ∃ be pa, F = .func 96 ∧ fc = #[ptr be 0, ptr pa 0] ∧ Bx w2 hi be 122 #[ptr W 2] ∧ Bx w2 hi pa 3 #[.int .i64 ((s.nm.length + 1 : Nat) : Int)]) ∨ (s.k ≠ 0 ∧ F = .func 139 ∧ fc = #[])) → Fz lo hi w w2 →
      (w2.cell? ⟨pm, 0, none⟩ = some (.int .u64 (s.mn : Int)) ∧ w2.frozen? ⟨pm, 0, none⟩ = false ∧ (w2.setCell ⟨pm, 0, none⟩ (.int .u64 ((s.mn : Int) - 1))).cell? ⟨pt, 0, none⟩ = some (t3 W s.k)) ∧
      (s.mn ≠ 1 → G (w2.setCell ⟨pm, 0, none⟩ (.int .u64 ((s.mn : Int) - 1)))) ∧
      Aside (s.mn = 1 → ∀ n, t3 W s.k = bm n W → Calls Tryz.prog n #[.pointer (some ⟨W, 0, none⟩)] (w2.setCell ⟨pm, 0, none⟩ (.int .u64 ((s.mn : Int) - 1))) fun e w' => e = .returned (.tuple #[]) ∧ G w') := fun w2 k yu ym yt hU2 f => by
    have T : Tu _ w lo hi B D b R W pu pm pt I cf q x s F fc v td := Tu.mk' hm k yu ym yt hU2 f
    refine ⟨⟨by rw [ym.cell.cell]; rfl, ym.cell.frozen 0, by rw [T.pt.cell.cell]; rfl⟩, fun h1 => ?_, fun h1 n hn => ?_⟩
    · rw [hG]
      refine ⟨?_, T.fz⟩
      unfold ztak
      rw [if_neg h1]
      exact T.more hv h3
    · rw [hG]
      unfold ztak
      rw [if_pos h1]
      have k3 := T.wk
      have hk4 : s.k = 0 ∨ s.k = 1 ∨ s.k = 2 ∨ s.k = 3 := by omega
      unfold zthn
      rcases hk4 with e | e | e | e
      · have en : n = 97 := by
          rw [e] at hn
          unfold t3 bm at hn
          simp at hn
          exact hn.symm
        subst en
        have z := hZ h1 (by omega)
        have e2 : (zbyt x s).k = 0 := e
        rw [e2]
        exact (rec_c _ k3 z.1 z.2).mono fun e w' ⟨a, bb, f'⟩ => ⟨a, bb, T.fz.trans f'⟩
      · have en : n = 125 := by
          rw [e] at hn
          unfold t3 bm at hn
          simp at hn
          exact hn.symm
        subst en
        have z := hZ h1 (by omega)
        have e2 : (zbyt x s).k = 1 := e
        rw [e2]
        exact (body_c _ k3 z.1).mono fun e w' ⟨a, bb, f'⟩ => ⟨a, bb, T.fz.trans f'⟩
      · have en : n = 97 := by
          rw [e] at hn
          unfold t3 bm at hn
          simp at hn
          exact hn.symm
        subst en
        have z := hZ h1 (by omega)
        have e2 : (zbyt x s).k = 2 := e
        rw [e2]
        exact (rec_c _ k3 z.1 z.2).mono fun e w' ⟨a, bb, f'⟩ => ⟨a, bb, T.fz.trans f'⟩
      · have en : n = 31 := by
          rw [e] at hn
          unfold t3 bm at hn
          simp at hn
          exact hn.symm
        subst en
        have e2 : (zbyt x s).k = 3 := e
        rw [e2]
        refine (place_c _ k3).mono ?_
        rintro e w' ⟨a, ⟨v', a1, a2⟩, f'⟩
        refine ⟨a, Or.inl ⟨rfl, v', td, I, cf, q, a1.ext ?_, fun _ => a2 _ rfl rfl, fun e => by rcases e with e | e <;> cases e⟩, T.fz.trans f'⟩
        unfold zc zplace
        have e3 : (zbyt x s).ph = 3 := h3
        simp [e3]
  have AU : Aside (∀ (w2 : World), Wk w2 lo hi B D b R W (zc (zbyt x s) v td none) I cf q → Bx w2 hi pu 65 #[.func F #[] fc] → Bx w2 hi pm 66 #[.int .u64 (s.mn : Int)] → Bx w2 hi pt 1 #[t3 W s.k] → ((s.k = 0 ∧ ∃ be pa, F = .func 96 ∧ fc = #[ptr be 0, ptr pa 0] ∧ Bx w2 hi be 122 #[ptr W 2] ∧ Bx w2 hi pa 3 #[.int .i64 ((s.nm.length + 1 : Nat) : Int)]) ∨ (s.k ≠ 0 ∧ F = .func 139 ∧ fc = #[])) → Fz lo hi w w2 →
      (w2.cell? ⟨pm, 0, none⟩ = some (.int .u64 (s.mn : Int)) ∧ w2.frozen? ⟨pm, 0, none⟩ = false ∧ (w2.setCell ⟨pm, 0, none⟩ (.int .u64 ((s.mn : Int) - 1))).cell? ⟨pt, 0, none⟩ = some (t3 W s.k)) ∧
      (s.mn ≠ 1 → G (w2.setCell ⟨pm, 0, none⟩ (.int .u64 ((s.mn : Int) - 1)))) ∧
      Aside (s.mn = 1 → ∀ n, t3 W s.k = bm n W → Calls Tryz.prog n #[.pointer (some ⟨W, 0, none⟩)] (w2.setCell ⟨pm, 0, none⟩ (.int .u64 ((s.mn : Int) - 1))) fun e w' => e = .returned (.tuple #[]) ∧ G w')) := kuse
  have ezc : s.k ≠ 0 → zc (zbyt x s) v td none = zc s v td none := fun e => by unfold zc zbyt; simp [e]
  have ezn : s.k = 0 → zc (zbyt x s) v td none = { zc s v td none with nm := (zc s v td none).nm ++ [x] } := fun e => by unfold zc zbyt; simp [e]
  -- what the use comes to
  have kx : ∀ w1 : World, w1 = w → (∃ fn : Nat, F = .func fn ∧ (fn = 96 ∨ fn = 139) ∧ Calls Tryz.prog fn (#[.int .u8 (x : Int)] ++ fc) w fun e w2 => e = .returned (.tuple #[]) ∧ (w2.cell? ⟨pm, 0, none⟩ = some (.int .u64 (s.mn : Int)) ∧ w2.frozen? ⟨pm, 0, none⟩ = false ∧ (w2.setCell ⟨pm, 0, none⟩ (.int .u64 ((s.mn : Int) - 1))).cell? ⟨pt, 0, none⟩ = some (t3 W s.k)) ∧
      (s.mn ≠ 1 → G (w2.setCell ⟨pm, 0, none⟩ (.int .u64 ((s.mn : Int) - 1)))) ∧
      Aside (s.mn = 1 → ∀ n, t3 W s.k = bm n W → Calls Tryz.prog n #[.pointer (some ⟨W, 0, none⟩)] (w2.setCell ⟨pm, 0, none⟩ (.int .u64 ((s.mn : Int) - 1))) fun e w' => e = .returned (.tuple #[]) ∧ G w')) := fun _ _ => by
    rcases hU with ⟨a, hl, be, pa, rfl, rfl, xe, xa⟩ | ⟨a, rfl, rfl⟩
    · refine ⟨96, rfl, Or.inl rfl, ?_⟩
      refine (name1_c be pa x s.nm.length w h rfl hl xe xa).mono ?_
      rintro e w2 ⟨rfl, k, ya, f, hb⟩
      exact ⟨rfl, AU.out w2 (k.ext (ezn a).symm) (hb _ _ _ xu (xu.ne xa (by decide))) (hb _ _ _ xm (xm.ne xa (by decide))) (hb _ _ _ xt (xt.ne xa (by decide))) (Or.inl ⟨a, be, pa, rfl, rfl, hb _ _ _ xe (xe.ne xa (by decide)), ya⟩) f⟩
    · refine ⟨139, rfl, Or.inr rfl, ?_⟩
      refine (past_c x w).mono ?_
      rintro e w2 ⟨rfl, rfl⟩
      exact ⟨rfl, AU.out w2 (h.ext (ezc a).symm) xu xm xt (Or.inr ⟨a, rfl, rfl⟩) (Fz.refl _ _ _)⟩
  obtain ⟨fn, hF, hfn, kc⟩ := kx w rfl
  have hfc : fc = #[] ∨ ∃ p1 p2 : Nat, fc = #[.pointer (some ⟨p1, 0, none⟩), .pointer (some ⟨p2, 0, none⟩)] := by
    rcases hU with ⟨a, hl, be, pa, rfl, rfl, xe, xa⟩ | ⟨a, rfl, rfl⟩
    · exact Or.inr ⟨be, pa, rfl⟩
    · exact Or.inl rfl
  have hfc2 : (fn = 96 ∧ ∃ p1 p2 : Nat, fc = #[.pointer (some ⟨p1, 0, none⟩), .pointer (some ⟨p2, 0, none⟩)]) ∨ (fn = 139 ∧ fc = #[]) := by
    rcases hU with ⟨a, hl, be, pa, h1, rfl, xe, xa⟩ | ⟨a, h1, rfl⟩
    · rw [hF] at h1; cases h1; exact Or.inl ⟨rfl, be, pa, rfl⟩
    · rw [hF] at h1; cases h1; exact Or.inr ⟨rfl, rfl⟩
  subst hF
  obtain ⟨T, nT, hT, hT2, hT3⟩ : ∃ T nT, t3 W s.k = T ∧ T = bm nT W ∧ (nT = 97 ∨ nT = 125 ∨ nT = 31) := by
    unfold t3
    split
    · exact ⟨_, 125, rfl, rfl, by omega⟩
    · split
      · exact ⟨_, 31, rfl, rfl, by omega⟩
      · exact ⟨_, 97, rfl, rfl, by omega⟩
  rw [hT] at kc
  subst hT2
  unfold bm at kc
  obtain ⟨mn, hmn⟩ : ∃ m, s.mn = m := ⟨_, rfl⟩
  rw [hmn] at kc hmod hm
  clear h h0 h3 hk hmx xu xm xt hU hZ kuse AU ezc ezn kx hG hT hfc hfn hmn
  have cells : ∀ w2 : World, (w2.cell? ⟨pm, 0, none⟩ = some (.int .u64 (mn : Int)) ∧ w2.frozen? ⟨pm, 0, none⟩ = false ∧ (w2.setCell ⟨pm, 0, none⟩ (.int .u64 ((mn : Int) - 1))).cell? ⟨pt, 0, none⟩ = some (.func (.func nT) #[.pointer (some ⟨W, 0, none⟩)] #[])) → True := fun _ _ => trivial
  clear cells
  by_cases h1 : mn = 1
  · have kc2 : Calls Tryz.prog fn (#[.int .u8 (x : Int)] ++ fc) w fun e w2 => e = .returned (.tuple #[]) ∧ (w2.cell? ⟨pm, 0, none⟩ = some (.int .u64 (mn : Int)) ∧ w2.frozen? ⟨pm, 0, none⟩ = false ∧ (w2.setCell ⟨pm, 0, none⟩ (.int .u64 ((mn : Int) - 1))).cell? ⟨pt, 0, none⟩ = some (.func (.func nT) #[.pointer (some ⟨W, 0, none⟩)] #[])) ∧ Calls Tryz.prog nT #[.pointer (some ⟨W, 0, none⟩)] (w2.setCell ⟨pm, 0, none⟩ (.int .u64 ((mn : Int) - 1))) fun e w' => e = .returned (.tuple #[]) ∧ G w' := kc.mono fun e w2 ⟨a, b, _, k3⟩ => ⟨a, b, k3.out h1 nT rfl⟩
    clear kc
    have e1 : (mn : Int) = 1 := by omega
    rw [e1, show (1 : Int) - 1 = 0 from rfl] at kc2
    clear h1 e1 hm hmod
    rcases hfc2 with ⟨rfl, p1, p2, rfl⟩ | ⟨rfl, rfl⟩
    all_goals
      rcases hT3 with rfl | rfl | rfl
      all_goals
        simp only [List.append_toArray, List.cons_append, List.nil_append] at kc2
        go_enter Tryz.func123, Tryz.ntmps123
        go_wp2_with (first
          | (go_at_call 96; refine kc2.mono ?_; rintro e2 w2 ⟨rfl, ⟨d1, z1, d2⟩, k3⟩)
          | (go_at_call 139; refine kc2.mono ?_; rintro e2 w2 ⟨rfl, ⟨d1, z1, d2⟩, k3⟩)
          | (go_at_call 97; refine k3.mono ?_; rintro e3 w3 ⟨rfl, h3⟩)
          | (go_at_call 125; refine k3.mono ?_; rintro e3 w3 ⟨rfl, h3⟩)
          | (go_at_call 31; refine k3.mono ?_; rintro e3 w3 ⟨rfl, h3⟩))
        first | go_end0 | (refine bodyPost_ret (results_none rfl _ _ _) rfl ?_)
        exact ⟨rfl, h3⟩
  · have kc2 : Calls Tryz.prog fn (#[.int .u8 (x : Int)] ++ fc) w fun e w2 => e = .returned (.tuple #[]) ∧ (w2.cell? ⟨pm, 0, none⟩ = some (.int .u64 (mn : Int)) ∧ w2.frozen? ⟨pm, 0, none⟩ = false) ∧ G (w2.setCell ⟨pm, 0, none⟩ (.int .u64 ((mn : Int) - 1))) := kc.mono fun e w2 ⟨a, b, k3, _⟩ => ⟨a, ⟨b.1, b.2.1⟩, k3 h1⟩
    clear kc
    have t1 : ((mn : Int) - 1 == 0) = false := by rw [beq_eq_false_iff_ne]; omega
    have t2 : ¬ ((mn : Int) - 1 = 0) := by omega
    clear h1
    rcases hfc2 with ⟨rfl, p1, p2, rfl⟩ | ⟨rfl, rfl⟩
    all_goals
      simp only [List.append_toArray, List.cons_append, List.nil_append] at kc2
      go_enter Tryz.func123, Tryz.ntmps123
      go_wp2_with (first
        | (go_at_call 96; refine kc2.mono ?_; rintro e2 w2 ⟨rfl, ⟨d1, z1⟩, k3⟩)
        | (go_at_call 139; refine kc2.mono ?_; rintro e2 w2 ⟨rfl, ⟨d1, z1⟩, k3⟩))
      first | go_end0 | (refine bodyPost_ret (results_none rfl _ _ _) rfl ?_)
      exact ⟨rfl, k3⟩
end
end Go.Proofs.YtpihipbeagpgpaaGreatDoor

/-
 The closure that stands in the place of an entry.
-/
namespace Go.Proofs.YtpihipbeagpgpaaGreatDoor
open Go.RowKit
set_option linter.unusedVariables false
section
variable {lo hi B D b R W P Q be pb pt pw : Nat} {I o : List Nat} {cf : Cfg} {q : Md} {c : Zc} {s : Zs} {v td : Value} {cs : Array Value}
structure Tp (w2 w : World) (lo hi B D b R W pb pt pw : Nat) (I : List Nat) (cf : Cfg) (q : Md) (x : Nat) (s : Zs) (v td : Value) : Prop where
 wk : Wk w2 lo hi B D b R W (zc s v td none) I cf q
 pb : ∃ cs, Bx w2 hi pb 98 cs ∧ cs.size = 4 ∧ ∀ (j y : Nat), (s.bs ++ [x])[j]? = some y → cs[j]? = some (.int .u8 (y : Int))
 pt : Bx w2 hi pt 3 #[.int .i64 ((s.bs.length + 1 : Nat) : Int)]
 pw : Bx w2 hi pw 39 #[ptr W 0]
 fz : Fz lo hi w w2
theorem Tp.mk' {x : Nat} (w : World) (h : Wk w lo hi B D b R W (zc s v td none) I cf q) (hl : s.bs.length ≤ 3) (xb : Bx w hi pb 98 cs) (hcs : cs.size = 4) (hb : ∀ (j y : Nat), s.bs[j]? = some y → cs[j]? = some (.int .u8 (y : Int))) (xt : Bx w hi pt 3 #[.int .i64 (s.bs.length : Int)]) (xw : Bx w hi pw 39 #[ptr W 0]) :
  Tp ((w.setCell ⟨pb, s.bs.length, none⟩ (.int .u8 (x : Int))).setCell ⟨pt, 0, none⟩ (.int .i64 ((s.bs.length : Int) + 1))) w lo hi B D b R W pb pt pw I cf q x s v td := by
 have e1 : (s.bs.length : Int) + 1 = ((s.bs.length + 1 : Nat) : Int) := by omega
 rw [e1]
 have o1 : Only pb w (w.setCell ⟨pb, s.bs.length, none⟩ (.int .u8 (x : Int))) := (Only.refl pb w).setCell _ _
 have k1 := h.box xb (by decide) o1
 have t1 := xt.only o1 (xt.ne xb (by decide))
 have o2 : Only pt (w.setCell ⟨pb, s.bs.length, none⟩ (.int .u8 (x : Int))) ((w.setCell ⟨pb, s.bs.length, none⟩ (.int .u8 (x : Int))).setCell ⟨pt, 0, none⟩ (.int .i64 ((s.bs.length + 1 : Nat) : Int))) := (Only.refl pt _).setCell 0 _
 refine ⟨k1.box t1 (by decide) o2, ⟨cs.setIfInBounds s.bs.length (.int .u8 (x : Int)), ⟨xb.lo, (xb.cell.set _ _).only o2 (fun e => (xt.ne xb (by decide)) e.symm)⟩, by simpa using hcs, fun j y hj => ?_⟩, ⟨xt.lo, t1.cell.set 0 _⟩, (xw.only o1 (xw.ne xb (by decide))).only o2 (xw.ne xt (by decide)), (h.fbox xb (by decide) o1).trans (k1.fbox t1 (by decide) o2)⟩
 by_cases hjl : j < s.bs.length
 ·rw [List.getElem?_append_left hjl] at hj
  rw [Array.getElem?_setIfInBounds_ne (by omega)]
  exact hb j y hj
 ·have hjl2 := (List.getElem?_eq_some_iff.1 hj).1
  rw [List.length_append, List.length_singleton] at hjl2
  have e : j = s.bs.length := by omega
  subst e
  rw [List.getElem?_append_right (Nat.le_refl _)] at hj
  simp at hj
  subst hj
  rw [Array.getElem?_setIfInBounds_self_of_lt (by omega)]
theorem Tp.lies {w2 w : World} {x : Nat} (h : Tp w2 w lo hi B D b R W pb pt pw I cf q x s v td) : Lies w2 (some ⟨pb, 0, none⟩) (s.bs ++ [x]) := by
 obtain ⟨cs, h1, h2, h3⟩ := h.pb
 refine Or.inr ⟨pb, 0, rfl, fun i y hy => ?_⟩
 rw [Nat.zero_add, h1.cell.cell]
 exact h3 i y hy
set_option maxRecDepth 20000 in
set_option maxHeartbeats 2000000 in
theorem pla_c (x : Nat) (hx : x < 256) (w : World) (h : Wk w lo hi B D b R W (zc s v td none) I cf q) (hv : v = cl 46 #[ptr pb 0, ptr pt 0, ptr pw 0]) (h0 : s.why = 0) (hp : s.ph = 0) (ho : Oct s.bs) (hl : s.bs.length ≤ 3) (xb : Bx w hi pb 98 cs) (hcs : cs.size = 4) (hb : ∀ (j y : Nat), s.bs[j]? = some y → cs[j]? = some (.int .u8 (y : Int))) (xt : Bx w hi pt 3 #[.int .i64 (s.bs.length : Int)]) (xw : Bx w hi pw 39 #[ptr W 0]) :
  Calls Tryz.prog 46 #[.int .u8 (x : Int), .pointer (some ⟨pb, 0, none⟩), .pointer (some ⟨pt, 0, none⟩), .pointer (some ⟨pw, 0, none⟩)] w fun e w' => e = .returned (.tuple #[]) ∧ (Wz w' lo hi B D b R W (zpla x s) [] ∧ Fz lo hi w w') := by
 have T := Tp.mk' (x := x) w h hl xb hcs hb xt xw
 have hol : Oct (s.bs ++ [x]) := ho.append (fun y hy => by rw [List.mem_singleton.1 hy]; exact hx)
 have hlen : (s.bs ++ [x]).length = s.bs.length + 1 := by rw [List.length_append, List.length_singleton]
 have hcv := conv_st (s.bs.length + 1) 4 hlen hol T.lies
 have dt : w.cell? ⟨pt, 0, none⟩ = some (.int .i64 (s.bs.length : Int)) := by rw [xt.cell.cell]; rfl
 have dc : ∃ c0, w.cell? ⟨pb, s.bs.length, none⟩ = some c0 := by
  rw [xb.cell.cell]
  exact ⟨_, Array.getElem?_eq_getElem (by omega)⟩
 obtain ⟨c0, dc⟩ := dc
 have zb : w.frozen? ⟨pb, s.bs.length, none⟩ = false := xb.cell.frozen _
 have zt : w.frozen? ⟨pt, 0, none⟩ = false := xt.cell.frozen 0
 have npt : ¬ pt = pb := xt.ne xb (by decide)
 have hkb := zbegins_c (s.bs ++ [x]) hol (by omega) _ T.wk.mg
 have hkh := header_c _ T.wk
 have heq := st_beq hol (m := [80, 75, 3, 4]) (by intro y hy; simp at hy; omega)
 have hcl : (st [80, 75, 3, 4]).toList = [80, 75, 3, 4] := by rw [ByteArray.toList_eq]; rfl
 rw [hcl] at heq
 clear hcl
 have dw2 : ((w.setCell ⟨pb, s.bs.length, none⟩ (.int .u8 (x : Int))).setCell ⟨pt, 0, none⟩ (.int .i64 ((s.bs.length : Int) + 1))).cell? ⟨pw, 0, none⟩ = some (.pointer (some ⟨W, 0, none⟩)) := by rw [T.pw.cell.cell]; rfl
 have c277 := T.wk.wc.a277
 have z277 := T.wk.wc.fz 277
 have c275 := T.wk.wc.a275
 have z275 := T.wk.wc.fz 275
 have c1 := T.wk.wc.a1
 have z1 := T.wk.wc.fz 1
 obtain ⟨G, hG⟩ : ∃ G : World → Prop, G = fun w' => (Wz w' lo hi B D b R W (zpla x s) [] ∧ Fz lo hi w w') := ⟨_, rfl⟩
 rw [show (fun (e : Ending) (w' : World) => e = .returned (.tuple #[]) ∧ (Wz w' lo hi B D b R W (zpla x s) [] ∧ Fz lo hi w w')) = fun e w' => e = .returned (.tuple #[]) ∧ G w' by rw [hG]]
 have AG : Aside (∀ w', Wz w' lo hi B D b R W (zpla x s) [] ∧ Fz lo hi w w' → G w') := fun w' k => by rw [hG]; exact k
 obtain ⟨n, hn⟩ : ∃ n, s.bs.length = n := ⟨_, rfl⟩
 obtain ⟨S, hS⟩ : ∃ S, st (s.bs ++ [x]) = S := ⟨_, rfl⟩
 obtain ⟨l, hll⟩ : ∃ l, s.bs ++ [x] = l := ⟨_, rfl⟩
 rw [hS] at hcv hkb heq
 rw [hll] at heq hkb hlen
 obtain ⟨k, hk⟩ : ∃ k, n + 1 = k := ⟨_, rfl⟩
 have hk1 : (n : Int) + 1 = (k : Int) := by omega
 rw [hn] at hcv dt dc zb hkb hkh dw2 c277 z277 c275 z275 c1 z1 hl hlen
 rw [hk1] at hcv hkb hkh dw2 c277 z277 c275 z275 c1 z1
 rw [hk] at hcv hlen
 obtain ⟨u, hu⟩ : ∃ u, u = (w.setCell ⟨pb, n, none⟩ (.int .u8 (x : Int))).setCell ⟨pt, 0, none⟩ (.int .i64 (k : Int)) := ⟨_, rfl⟩
 have T2 : Tp u w lo hi B D b R W pb pt pw I cf q x s v td := by rw [hu, ← hk1, ← hn]; exact T
 have e3 : zpla x s = if l = [80, 75, 3, 4] then zhead s else if zmag l = false then zbad 40 s else if l.length = 4 then { s with ph := 1 } else { s with bs := l } := by unfold zpla; rw [hll]
 have A0 : Aside (Tp u w lo hi B D b R W pb pt pw I cf q x s v td ∧ zpla x s = (if l = [80, 75, 3, 4] then zhead s else if zmag l = false then zbad 40 s else if l.length = 4 then { s with ph := 1 } else { s with bs := l }) ∧ s.why = 0 ∧ s.ph = 0 ∧ s.bs.length = n ∧ s.bs ++ [x] = l ∧ l.length = k ∧ v = cl 46 #[ptr pb 0, ptr pt 0, ptr pw 0]) := ⟨T2, e3, h0, hp, hn, hll, hlen, hv⟩
 have hnI : (n : Int) < 4 := by omega
 have hkI : (k : Int) ≤ 4 := by omega
 have hkn : k ≤ 4 := by omega
 have AKN : Aside (n + 1 = k) := hk
 have u_alone : Aside (u = (w.setCell ⟨pb, n, none⟩ (.int .u8 (x : Int))).setCell ⟨pt, 0, none⟩ (.int .i64 (k : Int))) := hu
 rw [← hu] at hkh
 have AKH : Aside (Calls Tryz.prog 47 #[.pointer (some ⟨W, 0, none⟩)] u fun e w' => e = .returned (.tuple #[]) ∧ ((∃ v_1, Wk w' lo hi B D b R W { zce (zc s v td none) with nx := v_1 } I cf q ∧ ∀ s, Nz w' hi W (zhead s) v_1) ∧ Fz lo hi u w')) := hkh
 clear hk h hv h0 hp ho hx xb hcs hb xt xw T hol hG hS hll hu T2 e3 hkh
 have hsp : (l = [80, 75, 3, 4]) ∨ (l ≠ [80, 75, 3, 4] ∧ zmag l = false) ∨ (l ≠ [80, 75, 3, 4] ∧ zmag l = true ∧ k = 4) ∨ (l ≠ [80, 75, 3, 4] ∧ zmag l = true ∧ k ≠ 4) := by
  by_cases a : l = [80, 75, 3, 4]
  ·exact Or.inl a
  ·cases hz : zmag l with
   | false => exact Or.inr (Or.inl ⟨a, rfl⟩)
   | true =>
    by_cases b : k = 4
    ·exact Or.inr (Or.inr (Or.inl ⟨a, rfl, b⟩))
    ·exact Or.inr (Or.inr (Or.inr ⟨a, rfl, b⟩))
 rcases hsp with a | ⟨a, b⟩ | ⟨a, b, b4⟩ | ⟨a, b, b3⟩
 ·rw [decide_eq_true a] at heq
  have kh : Calls Tryz.prog 47 #[.pointer (some ⟨W, 0, none⟩)] ((w.setCell ⟨pb, n, none⟩ (.int .u8 (x : Int))).setCell ⟨pt, 0, none⟩ (.int .i64 (k : Int))) fun e w' => e = .returned (.tuple #[]) ∧ G w' := by
   rw [← u_alone.out]
   refine AKH.out.mono ?_
   rintro e w' ⟨a1, ⟨v', a2, a3⟩, f⟩
   obtain ⟨T, e3, h0, hp, _⟩ := A0.out
   refine ⟨a1, AG.out w' ⟨?_, T.fz.trans f⟩⟩
   rw [e3, if_pos a]
   exact Or.inl ⟨rfl, v', td, I, cf, q, a2.ext (by unfold zc zce zhead; simp [hp]), fun _ => a3 s, fun e => by rcases e with e | e <;> cases e⟩
  clear a A0 AG AKH u_alone hkb hlen hl
  go_enter Tryz.func46, Tryz.ntmps46
  go_wp2_with (go_at_call 47; refine kh.mono ?_; rintro e1 w1 ⟨rfl, h1⟩)
  first | go_end0 | (refine bodyPost_ret (results_none rfl _ _ _) rfl ?_)
  exact ⟨rfl, h1⟩
 ·rw [decide_eq_false a] at heq
  rw [b] at hkb
  have fin : Aside (G (((w.setCell ⟨pb, n, none⟩ (.int .u8 (x : Int))).setCell ⟨pt, 0, none⟩ (.int .i64 (k : Int))).setCell ⟨W, 277, none⟩ (.int .i64 40))) := by
   obtain ⟨T, e3, h0, hp, _⟩ := A0.out
   rw [← u_alone.out]
   have o1 : Only W u (u.setCell ⟨W, 277, none⟩ (.int .i64 40)) := (Only.refl W u).setCell 277 _
   refine AG.out _ ⟨?_, T.fz.trans (T.wk.fw o1)⟩
   rw [e3, if_neg a, if_pos b]
   exact Or.inl ⟨rfl, v, td, I, cf, q, T.wk.set o1 (T.wk.wc.s277 40), fun e => absurd e (by show ¬ (40 : Nat) = 0; decide), fun _ e => absurd e (by show ¬ (40 : Nat) = 0; decide)⟩
  clear a b A0 AG AKH u_alone hlen hl
  go_enter Tryz.func46, Tryz.ntmps46
  go_wp2_with (go_at_call 48; refine hkb.mono ?_; rintro e1 w1 ⟨rfl, rfl⟩)
  first | go_end0 | (refine bodyPost_ret (results_none rfl _ _ _) rfl ?_)
  exact ⟨rfl, fin.out⟩
 ·rw [decide_eq_false a] at heq
  rw [b] at hkb
  have fin : Aside (G ((((w.setCell ⟨pb, n, none⟩ (.int .u8 (x : Int))).setCell ⟨pt, 0, none⟩ (.int .i64 (k : Int))).setCell ⟨W, 275, none⟩ (.bool true)).setCell ⟨W, 1, none⟩ (.func (.func 49) #[] #[]))) := by
   obtain ⟨T, e3, h0, hp, _, _, hl4, _⟩ := A0.out
   rw [← u_alone.out]
   have o1 : Only W u ((u.setCell ⟨W, 275, none⟩ (.bool true)).setCell ⟨W, 1, none⟩ (.func (.func 49) #[] #[])) := ((Only.refl W u).setCell 275 _).setCell 1 _
   refine AG.out _ ⟨?_, T.fz.trans (T.wk.fw o1)⟩
   rw [e3, if_neg a, if_neg (by rw [b]; decide), if_pos (hl4.trans b4)]
   exact Or.inl ⟨rfl, _, td, I, cf, q, (T.wk.set o1 ((T.wk.wc.s275 true).s1 _)).ext (by unfold zc; rfl), fun _ => Or.inr (Or.inl ⟨rfl, rfl⟩), fun e => by rcases e with e | e <;> cases e⟩
  clear a b A0 AG AKH u_alone hlen hl
  have t1 : ((k : Int) == 4) = true := by rw [beq_iff_eq]; omega
  clear b4
  go_enter Tryz.func46, Tryz.ntmps46
  go_wp2_with (go_at_call 48; refine hkb.mono ?_; rintro e1 w1 ⟨rfl, rfl⟩)
  first | go_end0 | (refine bodyPost_ret (results_none rfl _ _ _) rfl ?_)
  exact ⟨rfl, fin.out⟩
 ·rw [decide_eq_false a] at heq
  rw [b] at hkb
  have fin : Aside (G ((w.setCell ⟨pb, n, none⟩ (.int .u8 (x : Int))).setCell ⟨pt, 0, none⟩ (.int .i64 (k : Int)))) := by
   obtain ⟨T, e3, h0, hp, hn, hll, hl4, hv⟩ := A0.out
   rw [← u_alone.out]
   refine AG.out _ ⟨?_, T.fz⟩
   rw [e3, if_neg a, if_neg (by rw [b]; decide), if_neg (by omega)]
   obtain ⟨cs, x1, x2, x3⟩ := T.pb
   refine Or.inl ⟨rfl, v, td, I, cf, q, T.wk, fun _ => Or.inl ⟨hp, pb, pt, pw, cs, hv, x1, x2, fun j y hj => x3 j y (by rw [hll]; exact hj), ?_, T.pw⟩, fun e => ?_⟩
   ·have := T.pt
    rw [hn] at this
    show Bx u hi pt 3 #[.int .i64 (l.length : Int)]
    rw [hl4]
    rw [AKN.out] at this
    exact this
   ·have e0 : s.ph = 4 ∨ s.ph = 5 := e
    omega
  have t1 : ((k : Int) == 4) = false := by rw [beq_eq_false_iff_ne]; omega
  clear a b b3 A0 AG AKH u_alone hlen hl
  go_enter Tryz.func46, Tryz.ntmps46
  go_wp2_with (go_at_call 48; refine hkb.mono ?_; rintro e1 w1 ⟨rfl, rfl⟩)
  first | go_end0 | (refine bodyPost_ret (results_none rfl _ _ _) rfl ?_)
  exact ⟨rfl, fin.out⟩
end
end Go.Proofs.YtpihipbeagpgpaaGreatDoor

/-
 What comes behind numbers, and gathering what is left of them.
-/
namespace Go.Proofs.YtpihipbeagpgpaaGreatDoor
open Go.RowKit
set_option linter.unusedVariables false
theorem slice155 (A o m C : Nat) (hm : 1 ≤ m) (hC : m ≤ C) : ∃ a, (∀ W : World, (Instr.slice 155 (.slice (some ⟨A, o, none⟩) m C) (some (.int .i64 1)) none none).run Tryz.prog W = .ok (.slice a (m - 1) (C - 1)) W) ∧ (m ≠ 1 → a = some ⟨A, o + 2, none⟩) := by
 by_cases h1 : C = 1
 ·obtain rfl : m = 1 := by omega
  subst h1
  exact ⟨some ⟨A, o, none⟩, fun W => by go_simp, fun h => absurd rfl h⟩
 ·refine ⟨some ⟨A, o + 2, none⟩, fun W => ?_, fun _ => rfl⟩
  have hk1 : (1 : Int) ≤ (m : Int) := by omega
  have hk2 : (m : Int) ≤ (C : Int) := by omega
  have hk3 : (1 : Int) ≤ (C : Int) := by omega
  have hCk : ¬ C = 1 := h1
  have hCk2 : ¬ (C : Int) = 1 := by omega
  clear h1
  go_simp
section
variable {lo hi B D b R W P Q A o C : Nat} {I : List Nat} {cf : Cfg} {q : Md} {c : Zc} {s : Zs} {v td T : Value}
structure Zt (s : Zs) : Prop where
 why : s.why = 0
 ph : s.ph ≠ 1
 sg : s.sg < 4294967296
 n : s.k = 0 → Zn s
 h : s.k = 1 ∨ s.k = 2 → Zh s ∧ s.xl < 18446744073709551616
theorem zthen_c {n : Nat} (w : World) (h : Wk w lo hi B D b R W (zc s v td none) I cf q) (hT : Th w hi W P Q n s T) (z : Zt s) : ∃ kf fb fc, T = .func (.func kf) fb fc ∧ Tc W kf fb fc ∧ ∀ w1, Below w.heap.size w w1 → Calls Tryz.prog kf (fb ++ fc) w1 fun e w' => e = .returned (.tuple #[]) ∧ (Wz w' lo hi B D b R W (zthen s).1 (zthen s).2 ∧ Fz lo hi w w') := by
 have bl : ∀ w1, Below w.heap.size w w1 → Wk w1 lo hi B D b R W (zc s v td none) I cf q ∧ Kz hi w w1 ∧ Fz lo hi w w1 := fun w1 b1 => ⟨h.below b1 (Nat.le_refl _), Kz.of_below b1 (Nat.le_refl _), Fz.of_below b1 (Nat.le_refl _)⟩
 unfold zthen
 rcases hT with ⟨a, rfl⟩ | ⟨a, b1, b2, b3, e, f, be, bw, rfl, g2, g3⟩ | ⟨a, bw, L, b1, e, rfl, g⟩ | ⟨a, bw, F, bx, rfl, e, f, g⟩ | ⟨a, rfl⟩ | ⟨a, rfl⟩
 ·rw [a]
  exact ⟨67, _, _, rfl, Or.inl ⟨rfl, rfl, rfl⟩, fun w1 bb => (name_c w1 (bl w1 bb).1 (z.n a)).mono fun e w' ⟨x1, x2, x3⟩ => ⟨x1, x2, (bl w1 bb).2.2.trans x3⟩⟩
 ·rw [a]
  have zz := z.h (Or.inl a)
  exact ⟨126, _, _, rfl, Or.inr (Or.inr (Or.inr (Or.inl ⟨rfl, rfl, Q, be, bw, P, rfl⟩))), fun w1 bb => (rc1_c w1 (bl w1 bb).1 zz.1 zz.2 (e.kz (bl w1 bb).2.1 (by simp [Bq])) (f.kz (bl w1 bb).2.1 (by simp [Bq])) (g2.kz (bl w1 bb).2.1 (by simp [Bq])) (g3.kz (bl w1 bb).2.1 (by simp [Bq]))).mono fun e w' ⟨x1, x2, x3⟩ => ⟨x1, x2, (bl w1 bb).2.2.trans x3⟩⟩
 ·rw [a]
  have zz := z.h (Or.inr a)
  exact ⟨143, _, _, rfl, Or.inr (Or.inr (Or.inr (Or.inr (Or.inl ⟨rfl, rfl, bw, L, rfl⟩)))), fun w1 bb => (wide1_c bw L s.mn w1 (bl w1 bb).1 zz.1 zz.2 (g.kz (bl w1 bb).2.1 (by simp [Bq])) (e.kz (bl w1 bb).2.1 (by simp [Bq]))).mono fun e w' ⟨x1, x2, x3⟩ => ⟨x1, x2, (bl w1 bb).2.2.trans x3⟩⟩
 ·rw [a]
  exact ⟨167, _, _, rfl, Or.inr (Or.inr (Or.inr (Or.inr (Or.inr ⟨rfl, rfl, bw, F, rfl⟩)))), fun w1 bb => (sum1_c F bx w1 (bl w1 bb).1 ⟨z.why, z.ph, z.sg⟩ (e.kz (bl w1 bb).2.1 (by simp [Bq])) (f.kz (bl w1 bb).2.1 (by simp [Bq])) (g.kz (bl w1 bb).2.1 (by simp [Bq]))).mono fun e w' ⟨x1, x2, x3⟩ => ⟨x1, x2, (bl w1 bb).2.2.trans x3⟩⟩
 ·rw [a]
  exact ⟨168, _, _, rfl, Or.inr (Or.inl ⟨rfl, rfl, rfl⟩), fun w1 bb => (both_c w1 (bl w1 bb).1 ⟨z.why, z.ph, z.sg⟩).mono fun e w' ⟨x1, x2, x3⟩ => ⟨x1, x2, (bl w1 bb).2.2.trans x3⟩⟩
 ·rw [a]
  exact ⟨154, _, _, rfl, Or.inr (Or.inr (Or.inl ⟨rfl, rfl, rfl⟩)), fun w1 bb => (end_c w1 (bl w1 bb).1 z.why z.ph z.sg).mono fun e w' ⟨x1, x2, x3⟩ => ⟨x1, x2, (bl w1 bb).2.2.trans x3⟩⟩
def zgo (s : Zs) : Zs × List Evn := if s.fs = [] then zthen s else (s, [])
theorem after_c {n : Nat} {a : Option Addr} (w : World) (h : Wk w lo hi B D b R W (zc s v td none) I cf q) (h2 : s.ph = 2) (hb : s.bs = []) (hT : Th w hi W P Q n s T) (hn : n ≤ w.heap.size) (z : s.fs = [] → Zt s) (hl : s.fs ≠ [] → a = some ⟨A, o, none⟩ ∧ Fls w hi W P Q A o s.fs) (hC : s.fs.length ≤ C) (hC2 : C ≤ 9223372036854775807) : Calls Tryz.prog 66 #[.pointer (some ⟨W, 0, none⟩), T, .slice a s.fs.length C] w fun e w' => e = .returned (.tuple #[]) ∧ (Wz w' lo hi B D b R W (zgo s).1 (zgo s).2 ∧ Fz lo hi w w') := by
 unfold zgo
 by_cases hf : s.fs = []
 ·rw [if_pos hf]
  obtain ⟨kf, fb, fc, rfl, hc, hk⟩ := zthen_c w h hT (z hf)
  rw [hf]
  exact gath0_c kf fb fc hc a C _ w hk
 ·rw [if_neg hf]
  obtain ⟨rfl, hl2⟩ := hl hf
  obtain ⟨F, fb, fc, rfl⟩ : ∃ F fb fc, T = .func F fb fc := by
   rcases hT with ⟨_, rfl⟩ | ⟨_, _, _, _, _, _, be, bw, rfl, _⟩ | ⟨_, bw, L, _, _, rfl, _⟩ | ⟨_, bw, F, bx, rfl, _⟩ | ⟨_, rfl⟩ | ⟨_, rfl⟩
   all_goals exact ⟨_, _, _, rfl⟩
  refine (gath_c P Q A o C F fb fc s.fs hf hC hC2 w h hl2).mono ?_
  rintro e w' ⟨a, ⟨v', a1, a2⟩, f⟩
  exact ⟨a, Or.inl ⟨rfl, v', td, I, cf, q, a1, fun _ => a2 s h2 hb rfl (hT.mono hn), fun e => by have e' : s.ph = 4 ∨ s.ph = 5 := e; omega⟩, f⟩
theorem Th.opv {w u : World} {pv : Nat} {V : Value} (h : Th w hi W P Q pv s T) (xv : Bx w hi pv 66 #[V]) (o : Only pv w u) : Th u hi W P Q pv s T := by
 rcases h with h | ⟨a, b, c, d, e, f, be, bw, g1, g2, g3⟩ | ⟨a, bw, L, b, c, d, e⟩ | ⟨a, bw, F, bx, b, c, d, e⟩ | h | h
 ·exact Or.inl h
 ·exact Or.inr (Or.inl ⟨a, b, c, d, e.only o (by omega), f.only o (by omega), be, bw, g1, g2.only o (g2.ne xv (by decide)), g3.only o (g3.ne xv (by decide))⟩)
 ·exact Or.inr (Or.inr (Or.inl ⟨a, bw, L, b, c.only o (by omega), d, e.only o (e.ne xv (by decide))⟩))
 ·exact Or.inr (Or.inr (Or.inr (Or.inl ⟨a, bw, F, bx, b, c.only o (c.ne xv (by decide)), d.only o (d.ne xv (by decide)), e.only o (e.ne xv (by decide))⟩)))
 ·exact Or.inr (Or.inr (Or.inr (Or.inr (Or.inl h))))
 ·exact Or.inr (Or.inr (Or.inr (Or.inr (Or.inr h))))
theorem Th.opb {w u : World} {pv pb : Nat} {V : Value} (h : Th w hi W P Q pv s T) (xb : Bx w hi pb 3 #[V]) (o : Only pb w u) : Th u hi W P Q pv s T := by
 rcases h with h | ⟨a, b, c, d, e, f, be, bw, g1, g2, g3⟩ | ⟨a, bw, L, b, c, d, e⟩ | ⟨a, bw, F, bx, b, c, d, e⟩ | h | h
 ·exact Or.inl h
 ·exact Or.inr (Or.inl ⟨a, b, c, d, e.only o (e.ne xb (by decide)), f.only o (f.ne xb (by decide)), be, bw, g1, g2.only o (g2.ne xb (by decide)), g3.only o (g3.ne xb (by decide))⟩)
 ·exact Or.inr (Or.inr (Or.inl ⟨a, bw, L, b, c.only o (c.ne xb (by decide)), d, e.only o (e.ne xb (by decide))⟩))
 ·exact Or.inr (Or.inr (Or.inr (Or.inl ⟨a, bw, F, bx, b, c.only o (c.ne xb (by decide)), d.only o (d.ne xb (by decide)), e.only o (e.ne xb (by decide))⟩)))
 ·exact Or.inr (Or.inr (Or.inr (Or.inr (Or.inl h))))
 ·exact Or.inr (Or.inr (Or.inr (Or.inr (Or.inr h))))
theorem Fls.onx {w u : World} {p : Nat} {tt : TypeId} {V : Array Value} {fs : List (Nat × Nat)} (h : Fls w hi W P Q A o fs) (x : Bx w hi p tt V) (ht : tt ≠ 126 ∧ tt ≠ 128) (k : Only p w u) : Fls u hi W P Q A o fs := by
 obtain ⟨cs, h1, h2⟩ := h.ex
 refine ⟨cs, h1.only k (h1.ne x ht.1.symm), fun j n t hj => ?_⟩
 obtain ⟨a, v, b, c⟩ := h2 j n t hj
 refine ⟨a, v, b, ?_⟩
 rcases c with c | ⟨c, bx, d, e⟩
 ·exact Or.inl c
 ·exact Or.inr ⟨c, bx, d, e.only k (e.ne x ht.2.symm)⟩
structure Ug (u w : World) (lo hi B D b R W P Q A o C pv pb pf pw pt : Nat) (I : List Nat) (cf : Cfg) (q : Md) (V nb : Nat) (s : Zs) (fs : List (Nat × Nat)) (v td T : Value) : Prop where
 wk : Wk u lo hi B D b R W (zc s v td none) I cf q
 th : Th u hi W P Q pv s T
 fl : Fls u hi W P Q A o fs
 pv : Bx u hi pv 66 #[.int .u64 (V : Int)]
 pb : Bx u hi pb 3 #[.int .i64 (nb : Int)]
 pf : Bx u hi pf 155 #[.slice (some ⟨A, o, none⟩) fs.length C]
 pw : Bx u hi pw 39 #[ptr W 0]
 pt : Bx u hi pt 1 #[T]
 fz : Fz lo hi w u
section
variable {u w : World} {pv pb pf pw pt V nb : Nat} {fs : List (Nat × Nat)}
theorem Ug.drewN (h : Ug u w lo hi B D b R W P Q A o C pv pb pf pw pt I cf q V nb s fs v td T) (m : Nat) : Ug (u.drewN m) w lo hi B D b R W P Q A o C pv pb pf pw pt I cf q V nb s fs v td T := by
 have k : Kz hi u (u.drewN m) := fun _ _ _ _ => rfl
 exact ⟨h.wk.drewN m, h.th.kz k, h.fl.kz k, h.pv.kz k (by simp [Bq]), h.pb.kz k (by simp [Bq]), h.pf.kz k (by simp [Bq]), h.pw.kz k (by simp [Bq]), h.pt.kz k (by simp [Bq]), h.fz.trans (Fz.drewN u m)⟩
theorem Ug.setv (h : Ug u w lo hi B D b R W P Q A o C pv pb pf pw pt I cf q V nb s fs v td T) (V2 : Nat) : Ug (u.setCell ⟨pv, 0, none⟩ (.int .u64 (V2 : Int))) w lo hi B D b R W P Q A o C pv pb pf pw pt I cf q V2 nb s fs v td T := by
 have k : Only pv u (u.setCell ⟨pv, 0, none⟩ (.int .u64 (V2 : Int))) := (Only.refl pv u).setCell 0 _
 exact ⟨h.wk.box h.pv (by decide) k, h.th.opv h.pv k, h.fl.onx h.pv (by decide) k, ⟨h.pv.lo, h.pv.cell.set 0 _⟩, h.pb.only k (h.pb.ne h.pv (by decide)), h.pf.only k (h.pf.ne h.pv (by decide)), h.pw.only k (h.pw.ne h.pv (by decide)), h.pt.only k (h.pt.ne h.pv (by decide)), h.fz.trans (h.wk.fbox h.pv (by decide) k)⟩
theorem Ug.setb (h : Ug u w lo hi B D b R W P Q A o C pv pb pf pw pt I cf q V nb s fs v td T) (n2 : Nat) : Ug (u.setCell ⟨pb, 0, none⟩ (.int .i64 (n2 : Int))) w lo hi B D b R W P Q A o C pv pb pf pw pt I cf q V n2 s fs v td T := by
 have k : Only pb u (u.setCell ⟨pb, 0, none⟩ (.int .i64 (n2 : Int))) := (Only.refl pb u).setCell 0 _
 exact ⟨h.wk.box h.pb (by decide) k, h.th.opb h.pb k, h.fl.onx h.pb (by decide) k, h.pv.only k (h.pv.ne h.pb (by decide)), ⟨h.pb.lo, h.pb.cell.set 0 _⟩, h.pf.only k (h.pf.ne h.pb (by decide)), h.pw.only k (h.pw.ne h.pb (by decide)), h.pt.only k (h.pt.ne h.pb (by decide)), h.fz.trans (h.wk.fbox h.pb (by decide) k)⟩
theorem Ug.use (h : Ug u w lo hi B D b R W P Q A o C pv pb pf pw pt I cf q V nb s fs v td T) (t : Nat) (ht : t ≤ 9) (hk : t = 8 ∨ t = 9 → s.k = 1) (uv : Value) (hu : Uv u hi W P Q t uv) :
  ∃ uf uc, uv = .func (.func uf) #[] uc ∧ ((uf = 68 ∧ uc = #[]) ∨ (uf = 98 ∧ ∃ bx : Nat, uc = #[.pointer (some ⟨bx, 0, none⟩)])) ∧ Calls Tryz.prog uf (#[.int .u64 (V : Int)] ++ uc) u fun e u2 => e = .returned (.tuple #[]) ∧ Ug u2 w lo hi B D b R W P Q A o C pv pb pf pw pt I cf q V nb (zset t V s) fs v td T := by
 rcases hu with ⟨rfl, rfl⟩ | ⟨h0, bx, rfl, xb⟩
 ·exact ⟨68, _, rfl, Or.inl ⟨rfl, rfl⟩, (unused_c V u).mono fun e u2 ⟨a, b⟩ => ⟨a, by rw [b]; exact h⟩⟩
 ·refine ⟨98, _, rfl, Or.inr ⟨rfl, bx, rfl⟩, ?_⟩
  have hW := h.wk.g.hW
  by_cases h8 : t = 8
  ·subst h8
   have e8 : tg W P Q 8 = ptr P 0 := rfl
   rw [e8] at xb
   have hk1 := hk (Or.inl rfl)
   rcases h.th with ⟨a, _⟩ | ⟨a, b, c, d, e, f, be, bw, g1, g2, g3⟩ | ⟨a, _⟩ | ⟨a, _⟩ | ⟨a, _⟩ | ⟨a, _⟩
   ·omega
   ·refine (into1_c P 0 bx V u xb.cell _ (by rw [e.cell.cell]; rfl) (e.cell.frozen 0)).mono ?_
    rintro e' u2 ⟨a', rfl⟩
    have k : Only P u (u.setCell ⟨P, 0, none⟩ (.int .u64 (V : Int))) := (Only.refl P u).setCell 0 _
    refine ⟨a', (h.wk.box e (by decide) k).ext rfl, Or.inr (Or.inl ⟨a, b, c, d, ⟨e.lo, e.cell.set 0 _⟩, f.only k (Ne.symm d), be, bw, g1, g2.only k (g2.ne e (by decide)), g3.only k (g3.ne e (by decide))⟩), h.fl.onx e (by decide) k, h.pv.only k (by omega), h.pb.only k (h.pb.ne e (by decide)), h.pf.only k (h.pf.ne e (by decide)), h.pw.only k (h.pw.ne e (by decide)), h.pt.only k (h.pt.ne e (by decide)), h.fz.trans (h.wk.fbox e (by decide) k)⟩
   all_goals omega
  ·by_cases h9 : t = 9
   ·subst h9
    have e9 : tg W P Q 9 = ptr Q 0 := rfl
    rw [e9] at xb
    have hk1 := hk (Or.inr rfl)
    rcases h.th with ⟨a, _⟩ | ⟨a, b, c, d, e, f, be, bw, g1, g2, g3⟩ | ⟨a, _⟩ | ⟨a, _⟩ | ⟨a, _⟩ | ⟨a, _⟩
    ·omega
    ·refine (into1_c Q 0 bx V u xb.cell _ (by rw [f.cell.cell]; rfl) (f.cell.frozen 0)).mono ?_
     rintro e' u2 ⟨a', rfl⟩
     have k : Only Q u (u.setCell ⟨Q, 0, none⟩ (.int .u64 (V : Int))) := (Only.refl Q u).setCell 0 _
     refine ⟨a', (h.wk.box f (by decide) k).ext rfl, Or.inr (Or.inl ⟨a, b, c, d, e.only k d, ⟨f.lo, f.cell.set 0 _⟩, be, bw, g1, g2.only k (g2.ne f (by decide)), g3.only k (g3.ne f (by decide))⟩), h.fl.onx f (by decide) k, h.pv.only k (by omega), h.pb.only k (h.pb.ne f (by decide)), h.pf.only k (h.pf.ne f (by decide)), h.pw.only k (h.pw.ne f (by decide)), h.pt.only k (h.pt.ne f (by decide)), h.fz.trans (h.wk.fbox f (by decide) k)⟩
    all_goals omega
   ·have et : tg W P Q t = ptr W (t + 1) := by unfold tg; rw [if_neg h8, if_neg h9]
    rw [et] at xb
    have go : ∀ (c2 : Zc), Wc (u.setCell ⟨W, t + 1, none⟩ (.int .u64 (V : Int))) W D c2 → c2 = zc (zset t V s) v td none → (∃ o0, u.cell? ⟨W, t + 1, none⟩ = some o0) → (zset t V s).k = s.k → (zset t V s).mn = s.mn → (zset t V s).ri = s.ri → (zset t V s).rl = s.rl → Calls Tryz.prog 98 (#[.int .u64 (V : Int)] ++ #[.pointer (some ⟨bx, 0, none⟩)]) u fun e u2 => e = .returned (.tuple #[]) ∧ Ug u2 w lo hi B D b R W P Q A o C pv pb pf pw pt I cf q V nb (zset t V s) fs v td T := fun c2 hc he ⟨o0, ho0⟩ ek em er el => by
     refine (into1_c W (t + 1) bx V u xb.cell o0 ho0 (h.wk.wc.fz _)).mono ?_
     rintro e' u2 ⟨a', rfl⟩
     have k : Only W u (u.setCell ⟨W, t + 1, none⟩ (.int .u64 (V : Int))) := (Only.refl W u).setCell _ _
     have kz : Kz hi u (u.setCell ⟨W, t + 1, none⟩ (.int .u64 (V : Int))) := Kz.of_only k hW
     have th2 : Th (u.setCell ⟨W, t + 1, none⟩ (.int .u64 (V : Int))) hi W P Q pv (zset t V s) T := by
      have := h.th.kz kz
      unfold Th at *
      rw [ek, em, er, el]
      exact this
     exact ⟨a', (h.wk.set k hc).ext he, th2, h.fl.kz kz, h.pv.kz kz (by simp [Bq]), h.pb.kz kz (by simp [Bq]), h.pf.kz kz (by simp [Bq]), h.pw.kz kz (by simp [Bq]), h.pt.kz kz (by simp [Bq]), h.fz.trans (h.wk.fw k)⟩
    have h17 : t = 1 ∨ t = 2 ∨ t = 3 ∨ t = 4 ∨ t = 5 ∨ t = 6 ∨ t = 7 := by omega
    rcases h17 with rfl | rfl | rfl | rfl | rfl | rfl | rfl
    ·exact go _ (h.wk.wc.s2 V) rfl ⟨_, h.wk.wc.a2⟩ rfl rfl rfl rfl
    ·exact go _ (h.wk.wc.s3 V) rfl ⟨_, h.wk.wc.a3⟩ rfl rfl rfl rfl
    ·exact go _ (h.wk.wc.s4 V) rfl ⟨_, h.wk.wc.a4⟩ rfl rfl rfl rfl
    ·exact go _ (h.wk.wc.s5 V) rfl ⟨_, h.wk.wc.a5⟩ rfl rfl rfl rfl
    ·exact go _ (h.wk.wc.s6 V) rfl ⟨_, h.wk.wc.a6⟩ rfl rfl rfl rfl
    ·exact go _ (h.wk.wc.s7 V) rfl ⟨_, h.wk.wc.a7⟩ rfl rfl rfl rfl
    ·exact go _ (h.wk.wc.s8 V) rfl ⟨_, h.wk.wc.a8⟩ rfl rfl rfl rfl
end
end
end Go.Proofs.YtpihipbeagpgpaaGreatDoor

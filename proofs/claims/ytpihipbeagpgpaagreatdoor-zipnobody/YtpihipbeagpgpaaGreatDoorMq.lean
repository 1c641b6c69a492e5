/-
  Own texts of this seat, one behind the other: what each says stands ahead of it.
-/
import Derived.Test.YtpihipbeagpgpaaGreatDoorMp
/-
 The closure that gathers numbers.
-/
namespace Go.Proofs.YtpihipbeagpgpaaGreatDoor
open Go.RowKit
set_option linter.unusedVariables false
theorem lev_lt : ∀ l : List Nat, Oct l → lev l < 2 ^ (8 * l.length)
 | [], _ => by decide
 | x :: l, h => by
  have ih := lev_lt l (fun y hy => h y (List.mem_cons_of_mem _ hy))
  have hx := h x (List.mem_cons_self ..)
  show x + 256 * lev l < 2 ^ (8 * (l.length + 1))
  rw [show 8 * (l.length + 1) = 8 * l.length + 8 by omega, Nat.pow_add]
  omega
theorem lev_snoc (x : Nat) : ∀ l : List Nat, lev (l ++ [x]) = lev l + x * 2 ^ (8 * l.length)
 | [] => by simp [lev]
 | y :: l => by
  have ih := lev_snoc x l
  show y + 256 * lev (l ++ [x]) = y + 256 * lev l + x * 2 ^ (8 * (l.length + 1))
  rw [ih, show 8 * (l.length + 1) = 8 * l.length + 8 by omega, Nat.pow_add, Nat.mul_add]
  have : 256 * (x * 2 ^ (8 * l.length)) = x * (2 ^ (8 * l.length) * 2 ^ 8) := by
   rw [← Nat.mul_assoc, Nat.mul_comm 256 x, Nat.mul_assoc, Nat.mul_comm 256]
  omega
section
variable {lo hi B D b R W P Q A o C pv pb pf pw pt : Nat} {I : List Nat} {cf : Cfg} {q : Md} {c : Zc} {s : Zs} {v td T : Value}
set_option maxRecDepth 20000 in
set_option maxHeartbeats 4000000 in
theorem gat_c (x n t : Nat) (r : List (Nat × Nat)) (hx : x < 256) (w : World) (h : Wk w lo hi B D b R W (zc s v td none) I cf q) (hv : v = cl 94 #[ptr pv 0, ptr pb 0, ptr pf 0, ptr pw 0, ptr pt 0]) (h2 : s.ph = 2) (hf : s.fs = (n, t) :: r) (hn : n ≤ 8) (hbl : s.bs.length < n) (ho : Oct s.bs) (ht : t ≤ 9) (hk : t = 8 ∨ t = 9 → s.k = 1) (hC : s.fs.length ≤ C) (hC2 : C ≤ 9223372036854775807)
  (xv : Bx w hi pv 66 #[.int .u64 (lev s.bs : Int)]) (xb : Bx w hi pb 3 #[.int .i64 ((8 * s.bs.length : Nat) : Int)]) (xf : Bx w hi pf 155 #[.slice (some ⟨A, o, none⟩) s.fs.length C]) (xw : Bx w hi pw 39 #[ptr W 0]) (xt : Bx w hi pt 1 #[T]) (hl : Fls w hi W P Q A o s.fs) (hT : Th w hi W P Q pv s T)
  (hz : s.bs.length + 1 = n → r = [] → Zt (zset t (lev (s.bs ++ [x])) { s with fs := r, bs := [] })) :
  Calls Tryz.prog 94 #[.int .u8 (x : Int), .pointer (some ⟨pv, 0, none⟩), .pointer (some ⟨pb, 0, none⟩), .pointer (some ⟨pf, 0, none⟩), .pointer (some ⟨pw, 0, none⟩), .pointer (some ⟨pt, 0, none⟩)] w fun e w' => e = .returned (.tuple #[]) ∧ (Wz w' lo hi B D b R W (zgat x s).1 (zgat x s).2 ∧ Fz lo hi w w') := by
 obtain ⟨G, hG⟩ : ∃ G : World → Prop, G = fun w' => (Wz w' lo hi B D b R W (zgat x s).1 (zgat x s).2 ∧ Fz lo hi w w') := ⟨_, rfl⟩
 rw [show (fun (e : Ending) (w' : World) => e = .returned (.tuple #[]) ∧ (Wz w' lo hi B D b R W (zgat x s).1 (zgat x s).2 ∧ Fz lo hi w w')) = fun e w' => e = .returned (.tuple #[]) ∧ G w' by rw [hG]]
 have AG : Aside (∀ w', Wz w' lo hi B D b R W (zgat x s).1 (zgat x s).2 ∧ Fz lo hi w w' → G w') := fun w' k => by rw [hG]; exact k
 have U0 : Ug w w lo hi B D b R W P Q A o C pv pb pf pw pt I cf q (lev s.bs) (8 * s.bs.length) s s.fs v td T := ⟨h, hT, hl, xv, xb, xf, xw, xt, Fz.refl _ _ _⟩
 obtain ⟨nb, hnb⟩ : ∃ nb, 8 * s.bs.length = nb := ⟨_, rfl⟩
 obtain ⟨V0, hV0⟩ : ∃ V0, lev s.bs = V0 := ⟨_, rfl⟩
 obtain ⟨V, hV⟩ : ∃ V, lev (s.bs ++ [x]) = V := ⟨_, rfl⟩
 have hVe : V0 + x * 2 ^ nb = V := by rw [← hV, lev_snoc, hnb, hV0]
 have hor := or_put V0 nb x (by rw [← hV0, ← hnb]; exact lev_lt _ ho) (by omega) hx
 rw [hVe] at hor
 obtain ⟨nb2, hnb2⟩ : ∃ nb2, nb + 8 = nb2 := ⟨_, rfl⟩
 rw [hnb, hV0] at U0
 have U2 := ((U0.setv V).setb nb2).drewN 1
 have dv : w.cell? ⟨pv, 0, none⟩ = some (.int .u64 (V0 : Int)) := by rw [U0.pv.cell.cell]; rfl
 have db : w.cell? ⟨pb, 0, none⟩ = some (.int .i64 (nb : Int)) := by rw [U0.pb.cell.cell]; rfl
 have zv : w.frozen? ⟨pv, 0, none⟩ = false := U0.pv.cell.frozen 0
 have zb : w.frozen? ⟨pb, 0, none⟩ = false := U0.pb.cell.frozen 0
 have npb : ¬ pb = pv := xb.ne xv (by decide)
 have hadd : (nb : Int) + 8 = (nb2 : Int) := by omega
 have hnb0 : (0 : Int) ≤ (nb : Int) := by omega
 have hnb64 : (nb : Int) < 64 := by omega
 obtain ⟨u, hu⟩ : ∃ u, u = ((w.setCell ⟨pv, 0, none⟩ (.int .u64 (V : Int))).setCell ⟨pb, 0, none⟩ (.int .i64 (nb2 : Int))).drew := ⟨_, rfl⟩
 have U3 : Ug u w lo hi B D b R W P Q A o C pv pb pf pw pt I cf q V nb2 s s.fs v td T := by rw [hu]; exact U2
 have AU : Aside (Ug u w lo hi B D b R W P Q A o C pv pb pf pw pt I cf q V nb2 s s.fs v td T) := U3
 have A0 : Aside (v = cl 94 #[ptr pv 0, ptr pb 0, ptr pf 0, ptr pw 0, ptr pt 0] ∧ s.ph = 2 ∧ s.fs = (n, t) :: r ∧ n ≤ 8 ∧ s.bs.length < n ∧ t ≤ 9 ∧ (t = 8 ∨ t = 9 → s.k = 1) ∧ s.fs.length ≤ C ∧ C ≤ 9223372036854775807 ∧ 8 * s.bs.length = nb ∧ nb + 8 = nb2 ∧ lev (s.bs ++ [x]) = V ∧ (s.bs.length + 1 = n → r = [] → Zt (zset t (lev (s.bs ++ [x])) { s with fs := r, bs := [] }))) := ⟨hv, h2, hf, hn, hbl, ht, hk, hC, hC2, hnb, hnb2, hV, hz⟩
 obtain ⟨csA, xA, hxA⟩ := hl.ex
 clear hxA
 have AXA : Aside (Bx w hi A 126 csA) := xA
 have hxI : (0 : Int) ≤ (x : Int) := by omega
 have hxI2 : (x : Int) < 256 := by omega
 clear xA h hv h2 hf hn hbl ho ht hk hC hC2 xv xb xf xw xt hl hT hz hG U0 U2 U3 hnb hV0 hV hVe hnb2 hx
 go_enter Tryz.func94, Tryz.ntmps94
 go_wp2_with fail
 go_region
 go_upto_region 2 with fail
 rw [← hu]
 clear hu hor dv db zv zb npb hadd hnb0 hnb64
 obtain ⟨hv, h2, hf, hn, hbl, ht, hk, hC, hC2, hnb, hnb2, hV, hz⟩ := A0.out
 have U := AU.out
 have dpb : u.cell? ⟨pb, 0, none⟩ = some (.int .i64 (nb2 : Int)) := by rw [U.pb.cell.cell]; rfl
 have dpf : u.cell? ⟨pf, 0, none⟩ = some (.slice (some ⟨A, o, none⟩) s.fs.length C) := by rw [U.pf.cell.cell]; rfl
 have dpv : u.cell? ⟨pv, 0, none⟩ = some (.int .u64 (V : Int)) := by rw [U.pv.cell.cell]; rfl
 have hfl := U.fl
 rw [hf] at hfl
 obtain ⟨dA0, uv, dA1, huv⟩ := hfl.first
 have hlen : s.fs.length = r.length + 1 := by rw [hf]; rfl
 obtain ⟨m, hm⟩ : ∃ m, s.fs.length = m := ⟨_, rfl⟩
 rw [hm] at dpf
 have hm0 : (0 : Int) < (m : Int) := by omega
 have hm0n : 0 < m := by omega
 have hm0b : (0 : Int) ≤ (0 : Int) := Int.le_refl 0
 by_cases hq : s.bs.length + 1 = n
 ·-- the number is whole
  have e8 : nb2 = 8 * n := by omega
  have e8I : (nb2 : Int) = 8 * (n : Int) := by omega
  have t1 : ((nb2 : Int) == 8 * (n : Int)) = true := by rw [beq_iff_eq]; omega
  have hnI : (n : Int) ≤ 8 := by omega
  have hnI0 : (0 : Int) ≤ (n : Int) := by omega
  obtain ⟨s2, hs2⟩ : ∃ s2, s2 = zset t V { s with fs := r, bs := [] } := ⟨_, rfl⟩
  have ek := zset_keep t V { s with fs := r, bs := [] }
  have eg : zgat x s = zgo s2 := by
   unfold zgo
   rw [hs2]
   by_cases hr : r = []
   ·subst hr
    rw [zgat_last x hf hq, hV, if_pos ek.2.2.1]
   ·rw [zgat_more x hf hr hq, hV, if_neg (by rw [ek.2.2.1]; exact hr)]
  -- the use
  have kus : ∀ j, ∃ uf uc, uv = .func (.func uf) #[] uc ∧ ((uf = 68 ∧ uc = #[]) ∨ (uf = 98 ∧ ∃ bx : Nat, uc = #[.pointer (some ⟨bx, 0, none⟩)])) ∧ Calls Tryz.prog uf (#[.int .u64 (V : Int)] ++ uc) (u.drewN j) fun e u2 => e = .returned (.tuple #[]) ∧ Ug u2 w lo hi B D b R W P Q A o C pv pb pf pw pt I cf q V nb2 (zset t V s) s.fs v td T := fun j =>
   (U.drewN j).use t ht hk uv (huv.kz (fun _ _ _ _ => rfl))
  obtain ⟨a2, hsl, ha2⟩ := slice155 A o m C (by omega) (by omega)
  have kaf : ∀ u2 : World, Ug u2 w lo hi B D b R W P Q A o C pv pb pf pw pt I cf q V nb2 (zset t V s) s.fs v td T → Calls Tryz.prog 66 #[.pointer (some ⟨W, 0, none⟩), T, .slice a2 (m - 1) (C - 1)] u2 fun e w' => e = .returned (.tuple #[]) ∧ ((w'.cell? ⟨pw, 0, none⟩ = some (.pointer (some ⟨W, 0, none⟩)) ∧ w'.cell? ⟨pt, 0, none⟩ = some T ∧ w'.cell? ⟨pf, 0, none⟩ = some (.slice (some ⟨A, o, none⟩) m C)) ∧ G w') := fun u2 g => by
   have ez : zc (zset t V s) v td none = zc s2 v td none := by
    rw [hs2]
    unfold zset zc
    split <;> rfl
   have eT : Th u2 hi W P Q pv s2 T := by
    have := g.th
    have e1 : (zset t V s).k = s2.k ∧ (zset t V s).mn = s2.mn ∧ (zset t V s).ri = s2.ri ∧ (zset t V s).rl = s2.rl := by
     rw [hs2]; unfold zset; split <;> exact ⟨rfl, rfl, rfl, rfl⟩
    unfold Th at *
    rw [← e1.1, ← e1.2.1, ← e1.2.2.1, ← e1.2.2.2]
    exact this
   have efs : s2.fs = r := by rw [hs2]; exact ek.2.2.1
   have hm1 : m - 1 = s2.fs.length := by rw [efs]; omega
   have hgf := g.fl
   rw [hf] at hgf
   rw [hm1]
   refine (after_c (A := A) (o := o + 2) (n := pv) u2 (g.wk.ext ez) (by rw [hs2]; exact ek.2.1.trans h2) (by rw [hs2]; exact ek.2.2.2.1) eT (by have := g.pv.lt; omega) (fun e => ?_) (fun e => ⟨ha2 ?_, by rw [efs]; exact hgf.tail⟩) (by omega) (by omega)).mono ?_
   ·rw [hs2, ← hV]
    exact hz hq (efs ▸ e)
   ·intro e1
    rw [efs] at e
    exact e (List.eq_nil_of_length_eq_zero (by omega))
   ·rintro e w' ⟨x1, x2, x3⟩
    refine ⟨x1, ⟨?_, ?_, ?_⟩, AG.out w' ⟨by rw [eg]; exact x2, g.fz.trans x3⟩⟩
    ·rw [(x3.bx g.pw (by decide)).cell.cell]; rfl
    ·rw [(x3.bx g.pt (by decide)).cell.cell]; rfl
    ·have := (x3.bx g.pf (by decide)).cell.cell 0
     rw [hm] at this
     rw [this]; rfl
  have AKA : Aside (∀ u2 : World, Ug u2 w lo hi B D b R W P Q A o C pv pb pf pw pt I cf q V nb2 (zset t V s) s.fs v td T → Calls Tryz.prog 66 #[.pointer (some ⟨W, 0, none⟩), T, .slice a2 (m - 1) (C - 1)] u2 fun e w' => e = .returned (.tuple #[]) ∧ ((w'.cell? ⟨pw, 0, none⟩ = some (.pointer (some ⟨W, 0, none⟩)) ∧ w'.cell? ⟨pt, 0, none⟩ = some T ∧ w'.cell? ⟨pf, 0, none⟩ = some (.slice (some ⟨A, o, none⟩) m C)) ∧ G w')) := kaf
  have AKC : Aside (∀ u2 : World, Ug u2 w lo hi B D b R W P Q A o C pv pb pf pw pt I cf q V nb2 (zset t V s) s.fs v td T → (u2.cell? ⟨pf, 0, none⟩ = some (.slice (some ⟨A, o, none⟩) m C) ∧ u2.cell? ⟨A, o + 1, none⟩ = some uv ∧ u2.cell? ⟨pv, 0, none⟩ = some (.int .u64 (V : Int))) ∧ (u2.cell? ⟨pw, 0, none⟩ = some (.pointer (some ⟨W, 0, none⟩)) ∧ u2.cell? ⟨pt, 0, none⟩ = some T ∧ u2.cell? ⟨pf, 0, none⟩ = some (.slice (some ⟨A, o, none⟩) m C))) := fun u2 g => by
   have q1 := (U.fz.bx AXA.out (by decide)).cell.cell (o + 1)
   have q2 := (g.fz.bx AXA.out (by decide)).cell.cell (o + 1)
   rw [dA1] at q1
   have p1 := g.pf.cell.cell 0
   rw [hm] at p1
   exact ⟨⟨by rw [p1]; rfl, by rw [q2, ← q1], by rw [g.pv.cell.cell]; rfl⟩, by rw [g.pw.cell.cell]; rfl, by rw [g.pt.cell.cell]; rfl, by rw [p1]; rfl⟩
  have U2i : Ug u w lo hi B D b R W P Q A o C pv pb pf pw pt I cf q V nb2 s s.fs v td T := U
  obtain ⟨uf, uc, rfl, hcase, _⟩ := kus 0
  have ku : ∀ j, Calls Tryz.prog uf (#[.int .u64 (V : Int)] ++ uc) (u.drewN j) fun e u2 => e = .returned (.tuple #[]) ∧ ((u2.cell? ⟨pf, 0, none⟩ = some (.slice (some ⟨A, o, none⟩) m C) ∧ u2.cell? ⟨A, o + 1, none⟩ = some (.func (.func uf) #[] uc) ∧ u2.cell? ⟨pv, 0, none⟩ = some (.int .u64 (V : Int))) ∧ Ug u2 w lo hi B D b R W P Q A o C pv pb pf pw pt I cf q V nb2 (zset t V s) s.fs v td T) := fun j => by
   obtain ⟨uf', uc', e1, _, k⟩ := kus j
   injection e1 with e1 e2 e3
   injection e1 with e1
   subst e1 e3
   exact k.mono fun e u2 ⟨a, g⟩ => ⟨a, (AKC.out u2 g).1, g⟩
  have d3 : u.cell? ⟨pf, 0, none⟩ = some (.slice (some ⟨A, o, none⟩) m C) ∧ u.cell? ⟨A, o + 1, none⟩ = some (.func (.func uf) #[] uc) ∧ u.cell? ⟨pv, 0, none⟩ = some (.int .u64 (V : Int)) := ⟨dpf, dA1, dpv⟩
  have AKD : Aside (∀ u2 : World, Ug u2 w lo hi B D b R W P Q A o C pv pb pf pw pt I cf q V nb2 (zset t V s) s.fs v td T → (u2.cell? ⟨pw, 0, none⟩ = some (.pointer (some ⟨W, 0, none⟩)) ∧ u2.cell? ⟨pt, 0, none⟩ = some T ∧ u2.cell? ⟨pf, 0, none⟩ = some (.slice (some ⟨A, o, none⟩) m C)) ∧ ∀ j, Calls Tryz.prog 66 #[.pointer (some ⟨W, 0, none⟩), T, .slice a2 (m - 1) (C - 1)] (u2.drewN j) fun e w' => e = .returned (.tuple #[]) ∧ ((w'.cell? ⟨pw, 0, none⟩ = some (.pointer (some ⟨W, 0, none⟩)) ∧ w'.cell? ⟨pt, 0, none⟩ = some T ∧ w'.cell? ⟨pf, 0, none⟩ = some (.slice (some ⟨A, o, none⟩) m C)) ∧ G w')) := fun u2 g => ⟨(AKC.out u2 g).2, fun j => AKA.out _ (g.drewN j)⟩
  obtain ⟨UG, hUG⟩ : ∃ UG : World → Prop, UG = fun u2 => Ug u2 w lo hi B D b R W P Q A o C pv pb pf pw pt I cf q V nb2 (zset t V s) s.fs v td T := ⟨_, rfl⟩
  have ku2 : ∀ j, Calls Tryz.prog uf (#[.int .u64 (V : Int)] ++ uc) (u.drewN j) fun e u2 => e = .returned (.tuple #[]) ∧ ((u2.cell? ⟨pf, 0, none⟩ = some (.slice (some ⟨A, o, none⟩) m C) ∧ u2.cell? ⟨A, o + 1, none⟩ = some (.func (.func uf) #[] uc) ∧ u2.cell? ⟨pv, 0, none⟩ = some (.int .u64 (V : Int))) ∧ UG u2) := by rw [hUG]; exact ku
  have AKD2 : Aside (∀ u2 : World, UG u2 → (u2.cell? ⟨pw, 0, none⟩ = some (.pointer (some ⟨W, 0, none⟩)) ∧ u2.cell? ⟨pt, 0, none⟩ = some T ∧ u2.cell? ⟨pf, 0, none⟩ = some (.slice (some ⟨A, o, none⟩) m C)) ∧ ∀ j, Calls Tryz.prog 66 #[.pointer (some ⟨W, 0, none⟩), T, .slice a2 (m - 1) (C - 1)] (u2.drewN j) fun e w' => e = .returned (.tuple #[]) ∧ ((w'.cell? ⟨pw, 0, none⟩ = some (.pointer (some ⟨W, 0, none⟩)) ∧ w'.cell? ⟨pt, 0, none⟩ = some T ∧ w'.cell? ⟨pf, 0, none⟩ = some (.slice (some ⟨A, o, none⟩) m C)) ∧ G w')) := by rw [hUG]; exact AKD
  clear AKD AKC AKA kaf kus ku hUG hz eg ek hs2 U U2i AU A0 AG hv h2 hf hn hbl ht hk hC hC2 hnb hnb2 hV hfl hlen hm huv e8 ha2 hq AXA csA
  have hsl2 := hsl
  rcases hcase with ⟨rfl, rfl⟩ | ⟨rfl, bx, rfl⟩
  ·simp only [List.append_toArray, List.cons_append, List.nil_append] at ku2
   go_quiet (fail)
   go_wp2_with fail
   go_region_held3 (fun y => y.cell? ⟨pf, 0, none⟩ = some (.slice (some ⟨A, o, none⟩) m C) ∧ y.cell? ⟨A, o + 1, none⟩ = some (.func (.func 68) #[] #[]) ∧ y.cell? ⟨pv, 0, none⟩ = some (.int .u64 (V : Int))) (first | exact d3 | exact h9.1) ((go_at_call 68; refine (ku2 _).mono ?_; rintro e9 w9 ⟨rfl, h9⟩))
   all_goals
    obtain ⟨d4, kg4⟩ := AKD2.out _ h9.2
    clear h9
    go_wp2_with fail
    go_region_held3 (fun y => y.cell? ⟨pw, 0, none⟩ = some (.pointer (some ⟨W, 0, none⟩)) ∧ y.cell? ⟨pt, 0, none⟩ = some T ∧ y.cell? ⟨pf, 0, none⟩ = some (.slice (some ⟨A, o, none⟩) m C)) (first | exact d4 | exact h8.1) ((go_at_call 66; refine (kg4 _).mono ?_; rintro e8 w8 ⟨rfl, h8⟩))
    all_goals
     go_wp2_with fail
     first | go_end0 | (refine bodyPost_ret (results_none rfl _ _ _) rfl ?_)
     exact ⟨rfl, h8.2⟩
  ·simp only [List.append_toArray, List.cons_append, List.nil_append] at ku2
   go_quiet (fail)
   go_wp2_with fail
   go_region_held3 (fun y => y.cell? ⟨pf, 0, none⟩ = some (.slice (some ⟨A, o, none⟩) m C) ∧ y.cell? ⟨A, o + 1, none⟩ = some (.func (.func 98) #[] #[.pointer (some ⟨bx, 0, none⟩)]) ∧ y.cell? ⟨pv, 0, none⟩ = some (.int .u64 (V : Int))) (first | exact d3 | exact h9.1) ((go_at_call 98; refine (ku2 _).mono ?_; rintro e9 w9 ⟨rfl, h9⟩))
   all_goals
    obtain ⟨d4, kg4⟩ := AKD2.out _ h9.2
    clear h9
    go_wp2_with fail
    go_region_held3 (fun y => y.cell? ⟨pw, 0, none⟩ = some (.pointer (some ⟨W, 0, none⟩)) ∧ y.cell? ⟨pt, 0, none⟩ = some T ∧ y.cell? ⟨pf, 0, none⟩ = some (.slice (some ⟨A, o, none⟩) m C)) (first | exact d4 | exact h8.1) ((go_at_call 66; refine (kg4 _).mono ?_; rintro e8 w8 ⟨rfl, h8⟩))
    all_goals
     go_wp2_with fail
     first | go_end0 | (refine bodyPost_ret (results_none rfl _ _ _) rfl ?_)
     exact ⟨rfl, h8.2⟩
 ·have eg : zgat x s = ({ s with bs := s.bs ++ [x] }, []) := zgat_no x hf hq
  have fin : Aside (∀ j, G (u.drewN j)) := fun j => by
   have g := U.drewN j
   refine AG.out _ ⟨?_, g.fz⟩
   rw [eg]
   have epv := g.pv
   have epb := g.pb
   rw [← hV] at epv
   have elen : nb2 = 8 * (s.bs ++ [x]).length := by rw [List.length_append, List.length_singleton]; omega
   rw [elen] at epb
   exact Or.inl ⟨rfl, v, td, I, cf, q, g.wk, fun _ => Or.inr (Or.inr (Or.inl ⟨h2, pv, pb, pf, pw, pt, P, Q, A, o, C, T, hv, epv, epb, g.pf, g.pw, g.pt, hC, hC2, g.fl, g.th⟩)), fun e => by have e' : s.ph = 4 ∨ s.ph = 5 := e; omega⟩
  have t1 : ((nb2 : Int) == 8 * (n : Int)) = false := by rw [beq_eq_false_iff_ne]; omega
  have hnI : (n : Int) ≤ 8 := by omega
  have hnI0 : (0 : Int) ≤ (n : Int) := by omega
  clear eg hz U AU A0 AG hv h2 hf hn hbl ht hk hC hC2 hnb hnb2 hV hfl hlen hm huv hq AXA csA
  go_quiet (fail)
  go_wp2_with fail
  first | go_end0 | (refine bodyPost_ret (results_none rfl _ _ _) rfl ?_)
  exact ⟨rfl, fin.out _⟩
end
end Go.Proofs.YtpihipbeagpgpaaGreatDoor

/-
 What holds of the walker's states. No walk.
-/
namespace Go.Proofs.YtpihipbeagpgpaaGreatDoor
open Go.RowKit
set_option linter.unusedVariables false
structure Zb (s : Zs) : Prop where
 fl : s.fl < 18446744073709551616
 su : s.su < 18446744073709551616
 pk : s.pk < 18446744073709551616
 sz : s.sz < 18446744073709551616
 nl : s.nl < 18446744073709551616
 xl : s.xl < 18446744073709551616
 ri : s.ri < 18446744073709551616
 rl : s.rl < 18446744073709551616
 mn : s.mn < 18446744073709551616
 sg : s.sg < 4294967296
 bs : Oct s.bs
structure Hd (s : Zs) : Prop where
 sg : s.sg = 0
 gv : s.gv = 0
 tk : s.tk = 0
structure Zq (s : Zs) : Prop where
 b : Zb s
 hd : Hd s
 nl : s.nl = s.nm.length
 le : s.nm.length ≤ 256
 nm : Oct s.nm
def Zp (s : Zs) : Prop :=
 (s.ph = 0 ∧ s.bs.length ≤ 3) ∨ (s.ph = 1) ∨
 (s.ph = 2 ∧ s.k ≤ 5 ∧ (∃ n t r, s.fs = (n, t) :: r ∧ s.bs.length < n) ∧ (∀ a ∈ s.fs, 1 ≤ a.1 ∧ a.1 ≤ 8 ∧ a.2 ≤ 9 ∧ (a.2 = 8 ∨ a.2 = 9 → s.k = 1) ∧ (a.2 = 6 → s.k = 0)) ∧ (s.k = 0 → s.nm = [] ∧ Hd s) ∧ (s.k = 1 ∨ s.k = 2 → Zq s)) ∨
 (s.ph = 3 ∧ s.k ≤ 3 ∧ 1 ≤ s.mn ∧ (s.k = 0 → s.nm.length + s.mn = s.nl ∧ s.nl ≤ 256 ∧ Oct s.nm ∧ Hd s) ∧ (s.k = 1 ∨ s.k = 2 → Zq s)) ∨
 (s.ph = 4 ∧ s.tk < s.pk ∧ s.gv = s.tk) ∨
 (s.ph = 5 ∧ Stands s.ip MM s.y ∧ ¬ Over s.y ∧ s.sg = sm 0 s.y.out ∧ s.gv = s.y.out.length ∧ s.tk = s.ip.length)
def Zi (s : Zs) : Prop := s.why = 0 → Zb s ∧ Zp s
theorem Zi.bad {k : Nat} {s : Zs} (h : k ≠ 0) : Zi (zbad k s) := fun e => absurd e h
theorem oct_nil : Oct [] := fun x h => by cases h
section
variable {s : Zs}
theorem zi0 : Zi s0 := fun _ => ⟨⟨by decide, by decide, by decide, by decide, by decide, by decide, by decide, by decide, by decide, by decide, oct_nil⟩, Or.inl ⟨rfl, by decide⟩⟩
theorem zi_place (h : Zb s) : Zi (zplace s) := fun _ => ⟨⟨h.fl, h.su, h.pk, h.sz, h.nl, h.xl, h.ri, h.rl, h.mn, h.sg, oct_nil⟩, Or.inl ⟨rfl, by show 0 ≤ 3; decide⟩⟩
theorem zi_end (h : Zb s) : Zi (zend s).1 := by
 unfold zend
 split
 ·split
  ·exact zi_place h
  ·exact Zi.bad (by decide)
 ·exact Zi.bad (by decide)
theorem zi_begin (h : Zb s) (hd : Hd s) : Zi (zbegin s).1 := by
 unfold zbegin
 split
 ·split
  ·exact zi_end (s := { s with ph := 4 }) ⟨h.fl, h.su, h.pk, h.sz, h.nl, h.xl, h.ri, h.rl, h.mn, h.sg, h.bs⟩
  ·rename_i hne
   exact fun _ => ⟨⟨h.fl, h.su, h.pk, h.sz, h.nl, h.xl, h.ri, h.rl, h.mn, h.sg, h.bs⟩, Or.inr (Or.inr (Or.inr (Or.inr (Or.inl ⟨rfl, by have := hd.tk; show s.tk < s.pk; omega, by show s.gv = s.tk; rw [hd.gv, hd.tk]⟩))))⟩
 ·split
  ·exact Zi.bad (by decide)
  ·exact fun _ => ⟨⟨h.fl, h.su, h.pk, h.sz, h.nl, h.xl, h.ri, h.rl, h.mn, h.sg, h.bs⟩, Or.inr (Or.inr (Or.inr (Or.inr (Or.inr ⟨rfl, stands_nil MM, c0_open, hd.sg, hd.gv, hd.tk⟩))))⟩
theorem zi_body (h : Zb s) (hd : Hd s) : Zi (zbody s).1 := by
 unfold zbody
 split
 ·exact Zi.bad (by decide)
 ·split
  ·unfold zskip
   split
   ·exact zi_place h
   ·rename_i hne
    exact fun _ => ⟨⟨h.fl, h.su, h.pk, h.sz, h.nl, h.xl, h.ri, h.rl, h.pk, h.sg, h.bs⟩, Or.inr (Or.inr (Or.inr (Or.inl ⟨rfl, Nat.le_refl 3, by show 1 ≤ s.pk; omega, fun e => absurd (show (3 : Nat) = 0 from e) (by decide), fun e => absurd (show (3 : Nat) = 1 ∨ (3 : Nat) = 2 from e) (by decide)⟩)))⟩
  ·split
   ·exact Zi.bad (by decide)
   ·exact zi_begin h hd
theorem Zq.same {t : Zs} (h : Zq s) (hb : Zb t) (h1 : t.sg = s.sg) (h2 : t.gv = s.gv) (h3 : t.tk = s.tk) (h4 : t.nl = s.nl) (h5 : t.nm = s.nm) : Zq t :=
 ⟨hb, ⟨h1.trans h.hd.sg, h2.trans h.hd.gv, h3.trans h.hd.tk⟩, by rw [h4, h5]; exact h.nl, by rw [h5]; exact h.le, by rw [h5]; exact h.nm⟩
theorem zi_xb (h : Zq s) : Zi (zxb s).1 := by
 unfold zxb
 split
 ·exact zi_body h.b h.hd
 ·rename_i hne
  have b := h.b
  have hb : Zb { s with ph := 3, k := 1, mn := s.xl } := ⟨b.fl, b.su, b.pk, b.sz, b.nl, b.xl, b.ri, b.rl, b.xl, b.sg, b.bs⟩
  exact fun _ => ⟨hb, Or.inr (Or.inr (Or.inr (Or.inl ⟨rfl, by show 1 ≤ 3; decide, by show 1 ≤ s.xl; omega, fun e => absurd (show (1 : Nat) = 0 from e) (by decide), fun _ => h.same hb rfl rfl rfl rfl rfl⟩)))⟩
theorem zi_rec (h : Zq s) : Zi (zrec s).1 := by
 unfold zrec
 split
 ·exact zi_xb h
 ·have b := h.b
  have hb : Zb { s with xl := s.xl - 4, ph := 2, k := 1, fs := [(2, 8), (2, 9)], bs := [], ri := 0, rl := 0 } := ⟨b.fl, b.su, b.pk, b.sz, b.nl, by have := b.xl; show s.xl - 4 < _; omega, by show (0 : Nat) < _; decide, by show (0 : Nat) < _; decide, b.mn, b.sg, oct_nil⟩
  refine fun _ => ⟨hb, Or.inr (Or.inr (Or.inl ⟨rfl, by show 1 ≤ 5; decide, ⟨2, 8, [(2, 9)], rfl, by show 0 < 2; decide⟩, fun a ha => ?_, fun e => absurd (show (1 : Nat) = 0 from e) (by decide), fun _ => h.same hb rfl rfl rfl rfl rfl⟩))⟩
  have ha' : a ∈ [((2 : Nat), (8 : Nat)), (2, 9)] := ha
  simp at ha'
  rcases ha' with rfl | rfl
  ·exact ⟨by decide, by decide, by decide, fun _ => rfl, fun e => by cases e⟩
  ·exact ⟨by decide, by decide, by decide, fun _ => rfl, fun e => by cases e⟩
theorem zi_pr {n : Nat} (h : Zq s) (hn : n < 18446744073709551616) : Zi (zpr n s).1 := by
 unfold zpr
 split
 ·exact zi_rec h
 ·rename_i hne
  have b := h.b
  have hb : Zb { s with ph := 3, k := 2, mn := n } := ⟨b.fl, b.su, b.pk, b.sz, b.nl, b.xl, b.ri, b.rl, hn, b.sg, b.bs⟩
  exact fun _ => ⟨hb, Or.inr (Or.inr (Or.inr (Or.inl ⟨rfl, by show 2 ≤ 3; decide, by show 1 ≤ n; omega, fun e => absurd (show (2 : Nat) = 0 from e) (by decide), fun _ => h.same hb rfl rfl rfl rfl rfl⟩)))⟩
theorem zwf_mem (n : Nat) : (zwf s n).2 ≤ n ∧ ∀ a ∈ (zwf s n).1, a.1 = 8 ∧ (a.2 = 4 ∨ a.2 = 5) := by
 unfold zwf
 by_cases h1 : s.sz = U32 ∧ 8 ≤ n
 ·rw [if_pos h1]
  by_cases h2 : s.pk = U32 ∧ 16 ≤ n
  ·rw [if_pos h2]
   refine ⟨by show n - 16 ≤ n; omega, fun a ha => ?_⟩
   simp at ha
   rcases ha with rfl | rfl
   ·exact ⟨rfl, Or.inr rfl⟩
   ·exact ⟨rfl, Or.inl rfl⟩
  ·rw [if_neg h2]
   refine ⟨by show n - 8 ≤ n; omega, fun a ha => ?_⟩
   simp at ha
   subst ha
   exact ⟨rfl, Or.inr rfl⟩
 ·rw [if_neg h1]
  by_cases h2 : s.pk = U32 ∧ 8 ≤ n
  ·rw [if_pos h2]
   refine ⟨by show n - 8 ≤ n; omega, fun a ha => ?_⟩
   simp at ha
   subst ha
   exact ⟨rfl, Or.inl rfl⟩
  ·rw [if_neg h2]
   exact ⟨Nat.le_refl _, fun a ha => by simp at ha⟩
theorem zi_wid {n : Nat} (h : Zq s) (hn : n < 18446744073709551616) : Zi (zwid n s).1 := by
 obtain ⟨h2, hm⟩ := zwf_mem (s := s) n
 have b := h.b
 unfold zwid
 split
 ·have hb : Zb { s with mn := (zwf s n).2 } := ⟨b.fl, b.su, b.pk, b.sz, b.nl, b.xl, b.ri, b.rl, by show (zwf s n).2 < _; omega, b.sg, b.bs⟩
  exact zi_pr (h.same hb rfl rfl rfl rfl rfl) (by omega)
 ·rename_i hne
  have hb : Zb { s with ph := 2, k := 2, fs := (zwf s n).1, bs := [], mn := (zwf s n).2 } := ⟨b.fl, b.su, b.pk, b.sz, b.nl, b.xl, b.ri, b.rl, by show (zwf s n).2 < _; omega, b.sg, oct_nil⟩
  refine fun _ => ⟨hb, Or.inr (Or.inr (Or.inl ⟨rfl, by show 2 ≤ 5; decide, ?_, fun a ha => ?_, fun e => absurd (show (2 : Nat) = 0 from e) (by decide), fun _ => h.same hb rfl rfl rfl rfl rfl⟩))⟩
  ·cases hf : (zwf s n).1 with
   | nil => exact absurd hf hne
   | cons a r =>
    have := hm a (by rw [hf]; exact List.mem_cons_self ..)
    exact ⟨a.1, a.2, r, rfl, by rw [this.1]; show 0 < 8; decide⟩
  ·have := hm a ha
   refine ⟨by omega, by omega, by omega, fun e => ?_, fun e => ?_⟩ <;> omega
theorem zi_rc1 (h : Zq s) : Zi (zrc1 s).1 := by
 have b := h.b
 have b1 : ∀ wd, Zb { s with xl := s.xl - s.rl, wd := wd } := fun wd => ⟨b.fl, b.su, b.pk, b.sz, b.nl, by have := b.xl; show s.xl - s.rl < _; omega, b.ri, b.rl, b.mn, b.sg, b.bs⟩
 unfold zrc1
 split
 ·exact zi_xb h
 ·split
  ·exact zi_pr (h.same (b1 s.wd) rfl rfl rfl rfl rfl) b.rl
  ·exact zi_wid (h.same (b1 true) rfl rfl rfl rfl rfl) b.rl
theorem zi_name (b : Zb s) (hd : Hd s) (hn : s.nm = []) : Zi (zname s).1 := by
 unfold zname
 split
 ·exact Zi.bad (by decide)
 ·rename_i hb
  split
  ·rename_i h0
   exact zi_rec ⟨b, hd, by rw [hn, h0]; rfl, by rw [hn]; decide, by rw [hn]; exact oct_nil⟩
  ·rename_i h0
   have hb' : Zb { s with ph := 3, k := 0, mn := s.nl } := ⟨b.fl, b.su, b.pk, b.sz, b.nl, b.xl, b.ri, b.rl, b.nl, b.sg, b.bs⟩
   exact fun _ => ⟨hb', Or.inr (Or.inr (Or.inr (Or.inl ⟨rfl, by show 0 ≤ 3; decide, by show 1 ≤ s.nl; omega, fun _ => ⟨by show s.nm.length + s.nl = s.nl; rw [hn]; simp, by show s.nl ≤ 256; omega, by show Oct s.nm; rw [hn]; exact oct_nil, ⟨hd.sg, hd.gv, hd.tk⟩⟩, fun e => absurd (show (0 : Nat) = 1 ∨ (0 : Nat) = 2 from e) (by decide)⟩)))⟩
theorem zi_num {k : Nat} {fs : List (Nat × Nat)} (b : Zb s) (hk : 3 ≤ k ∧ k ≤ 5) (hf : fs ≠ []) (hm : ∀ a ∈ fs, 1 ≤ a.1 ∧ a.1 ≤ 8 ∧ a.2 ≤ 5) : Zi { s with ph := 2, k := k, fs := fs, bs := [] } := by
 have hb : Zb { s with ph := 2, k := k, fs := fs, bs := [] } := ⟨b.fl, b.su, b.pk, b.sz, b.nl, b.xl, b.ri, b.rl, b.mn, b.sg, oct_nil⟩
 refine fun _ => ⟨hb, Or.inr (Or.inr (Or.inl ⟨rfl, hk.2, ?_, fun a ha => ?_, fun e => ?_, fun e => ?_⟩))⟩
 ·cases fs with
  | nil => exact absurd rfl hf
  | cons a r =>
   have := hm a (List.mem_cons_self ..)
   exact ⟨a.1, a.2, r, rfl, by show 0 < a.1; omega⟩
 ·have := hm a ha
  exact ⟨this.1, this.2.1, by omega, fun e => by omega, fun e => by omega⟩
 ·have e' : k = 0 := e
  omega
 ·have e' : k = 1 ∨ k = 2 := e
  omega
theorem zi_both (b : Zb s) : Zi (zboth s).1 := by
 unfold zboth
 split
 ·refine zi_num b (by decide) (by split <;> simp) fun a ha => ?_
  split at ha
  ·simp at ha; rcases ha with rfl | rfl <;> decide
  ·simp at ha; rcases ha with rfl | rfl <;> decide
 ·exact Zi.bad (by decide)
theorem zi_sum1 (b : Zb s) : Zi (zsum1 s).1 := by
 unfold zsum1
 split
 ·exact zi_num b (by decide) (by simp) fun a ha => by simp at ha; subst ha; decide
 ·exact zi_both b
theorem zi_ask (b : Zb s) (h5 : s.ph = 5) (h0 : s.why = 0) (hs : Stands s.ip MM s.y) (h1 : s.sg = sm 0 s.y.out) (h2 : s.gv = s.y.out.length) (h3 : s.tk = s.ip.length) : Zi (zask s).1 := by
 unfold zask
 split
 ·rename_i hb; exact Zi.bad hb
 ·rename_i hb
  split
  ·split
   ·exact zi_num b (by decide) (by simp) fun a ha => by simp at ha; subst ha; decide
   ·exact zi_end b
  ·rename_i he
   split
   ·exact Zi.bad (by decide)
   ·refine fun _ => ⟨b, Or.inr (Or.inr (Or.inr (Or.inr (Or.inr ⟨h5, hs, ?_, h1, h2, h3⟩))))⟩
    rintro (q | ⟨k, q⟩)
    ·exact he (done_c3 q).1
    ·exact hb (by rw [(bad_c3 q).2.1]; exact bad_nz hs q)
theorem zb_set {t V : Nat} (b : Zb s) (hV : V < 18446744073709551616) (r : List (Nat × Nat)) : Zb (zset t V { s with fs := r, bs := [] }) := by
 unfold zset
 split <;> exact ⟨by first | exact b.fl | exact hV, by first | exact b.su | exact hV, by first | exact b.pk | exact hV, by first | exact b.sz | exact hV, by first | exact b.nl | exact hV, by first | exact b.xl | exact hV, by first | exact b.ri | exact hV, by first | exact b.rl | exact hV, b.mn, b.sg, oct_nil⟩
theorem zset_hd {t V : Nat} {s : Zs} (h : Hd s) : Hd (zset t V s) := by unfold zset; split <;> exact ⟨h.sg, h.gv, h.tk⟩
theorem zset_nm {t V : Nat} {s : Zs} : (zset t V s).nm = s.nm := by unfold zset; split <;> rfl
theorem zset_nl {t V : Nat} {s : Zs} (h : t ≠ 6) : (zset t V s).nl = s.nl := by unfold zset; split <;> first | rfl | exact absurd rfl h
theorem lev_64 {l : List Nat} (h : Oct l) (hl : l.length ≤ 8) : lev l < 18446744073709551616 := by
 have h1 := lev_lt l h
 have h2 : 2 ^ (8 * l.length) ≤ 2 ^ 64 := Nat.pow_le_pow_right (by decide) (by omega)
 have : (2 : Nat) ^ 64 = 18446744073709551616 := by decide
 omega
theorem zt_set {n t x : Nat} {r : List (Nat × Nat)} (b : Zb s) (h0 : s.why = 0) (hp : Zp s) (h2 : s.ph = 2) (hf : s.fs = (n, t) :: r) (hx : x < 256) (hn : s.bs.length + 1 = n) :
  Zb (zset t (lev (s.bs ++ [x])) { s with fs := r, bs := [] }) ∧ (s.k = 0 → (zset t (lev (s.bs ++ [x])) { s with fs := r, bs := [] }).nm = [] ∧ Hd (zset t (lev (s.bs ++ [x])) { s with fs := r, bs := [] })) ∧ (s.k = 1 ∨ s.k = 2 → Zq (zset t (lev (s.bs ++ [x])) { s with fs := r, bs := [] })) := by
 rcases hp with ⟨e, _⟩ | e | ⟨_, hk, hex, hm, hk0, hk1⟩ | ⟨e, _⟩ | ⟨e, _⟩ | ⟨e, _⟩
 ·omega
 ·omega
 ·obtain ⟨_, a2, a3, a4, a5⟩ := hm (n, t) (by rw [hf]; exact List.mem_cons_self ..)
  have ho : Oct (s.bs ++ [x]) := b.bs.append (fun y hy => by rw [List.mem_singleton.1 hy]; exact hx)
  have hV := lev_64 ho (by rw [List.length_append, List.length_singleton]; show s.bs.length + 1 ≤ 8; have : n ≤ 8 := a2; omega)
  have hb := zb_set (t := t) b hV r
  refine ⟨hb, fun e => ?_, fun e => ?_⟩
  ·obtain ⟨e1, e2⟩ := hk0 e
   exact ⟨by rw [zset_nm]; exact e1, zset_hd ⟨e2.sg, e2.gv, e2.tk⟩⟩
  ·have z := hk1 e
   have t6 : t ≠ 6 := fun q => by have := a5 q; omega
   exact ⟨hb, zset_hd ⟨z.hd.sg, z.hd.gv, z.hd.tk⟩, by rw [zset_nl t6, zset_nm]; exact z.nl, by rw [zset_nm]; exact z.le, by rw [zset_nm]; exact z.nm⟩
 ·omega
 ·omega
 ·omega
theorem zi_then (b : Zb s) (h0 : s.k = 0 → s.nm = [] ∧ Hd s) (h1 : s.k = 1 ∨ s.k = 2 → Zq s) (hk : s.k ≤ 5) : Zi (zthen s).1 := by
 unfold zthen
 split
 ·rename_i e; exact zi_name b (h0 e).2 (h0 e).1
 ·rename_i e; exact zi_rc1 (h1 (Or.inl e))
 ·rename_i e; exact zi_pr (h1 (Or.inr e)) b.mn
 ·exact zi_sum1 b
 ·exact zi_both b
 ·exact zi_end b
theorem zi_gat {x : Nat} (hi : Zi s) (h0 : s.why = 0) (h2 : s.ph = 2) (hx : x < 256) : Zi (zgat x s).1 := by
 obtain ⟨b, hp⟩ := hi h0
 have hp' := hp
 rcases hp' with ⟨e, _⟩ | e | ⟨_, hk, ⟨n, t, r, hf, hl⟩, hm, hk0, hk1⟩ | ⟨e, _⟩ | ⟨e, _⟩ | ⟨e, _⟩
 ·omega
 ·omega
 ·have ho : Oct (s.bs ++ [x]) := b.bs.append (fun y hy => by rw [List.mem_singleton.1 hy]; exact hx)
  by_cases hn : s.bs.length + 1 = n
  ·obtain ⟨q1, q2, q3⟩ := zt_set (r := r) b h0 hp h2 hf hx hn
   have ek := zset_keep t (lev (s.bs ++ [x])) { s with fs := r, bs := [] }
   by_cases hr : r = []
   ·subst hr
    rw [zgat_last x hf hn]
    exact zi_then q1 (fun e => q2 (ek.2.2.2.2 ▸ e)) (fun e => q3 (ek.2.2.2.2 ▸ e)) (by rw [ek.2.2.2.2]; exact hk)
   ·rw [zgat_more x hf hr hn]
    refine fun _ => ⟨q1, Or.inr (Or.inr (Or.inl ⟨ek.2.1.trans h2, by rw [ek.2.2.2.2]; exact hk, ?_, fun a ha => ?_, fun e => q2 (ek.2.2.2.2 ▸ e), fun e => q3 (ek.2.2.2.2 ▸ e)⟩))⟩
    ·cases r with
     | nil => exact absurd rfl hr
     | cons a r' =>
      have := hm a (by rw [hf]; simp)
      exact ⟨a.1, a.2, r', ek.2.2.1, by rw [ek.2.2.2.1]; show 0 < a.1; omega⟩
    ·have ha' : a ∈ r := by
      have := ek.2.2.1
      rw [this] at ha
      exact ha
     have := hm a (by rw [hf]; exact List.mem_cons_of_mem _ ha')
     rw [ek.2.2.2.2]
     exact this
  ·rw [zgat_no x hf hn]
   have hb : Zb { s with bs := s.bs ++ [x] } := ⟨b.fl, b.su, b.pk, b.sz, b.nl, b.xl, b.ri, b.rl, b.mn, b.sg, ho⟩
   refine fun _ => ⟨hb, Or.inr (Or.inr (Or.inl ⟨h2, hk, ⟨n, t, r, hf, by show (s.bs ++ [x]).length < n; rw [List.length_append, List.length_singleton]; omega⟩, hm, fun e => ⟨(hk0 e).1, ⟨(hk0 e).2.sg, (hk0 e).2.gv, (hk0 e).2.tk⟩⟩, fun e => (hk1 e).same hb rfl rfl rfl rfl rfl⟩))⟩
 ·omega
 ·omega
 ·omega
theorem zq_byt {x : Nat} (hi : Zi s) (h0 : s.why = 0) (h3 : s.ph = 3) (hx : x < 256) : s.k ≤ 3 ∧ 1 ≤ s.mn ∧ Zb (zbyt x s) ∧ (s.k = 0 → s.nm.length < 256) ∧ (s.k ≤ 2 → s.mn = 1 → Zq (zbyt x s)) ∧ (s.mn ≠ 1 → Zi (zbyt x s)) := by
 obtain ⟨b, hp⟩ := hi h0
 rcases hp with ⟨e, _⟩ | e | ⟨e, _⟩ | ⟨_, hk, hm, hk0, hk1⟩ | ⟨e, _⟩ | ⟨e, _⟩
 ·omega
 ·omega
 ·omega
 ·have hb : Zb (zbyt x s) := ⟨b.fl, b.su, b.pk, b.sz, b.nl, b.xl, b.ri, b.rl, by have := b.mn; show s.mn - 1 < _; omega, b.sg, b.bs⟩
  have nm0 : s.k = 0 → (zbyt x s).nm = s.nm ++ [x] := fun e => by show (if s.k = 0 then _ else _) = _; rw [if_pos e]
  have nm1 : s.k ≠ 0 → (zbyt x s).nm = s.nm := fun e => by show (if s.k = 0 then _ else _) = _; rw [if_neg e]
  have hoc : s.k = 0 → Oct (zbyt x s).nm := fun e => by
   rw [nm0 e]
   exact (hk0 e).2.2.1.append (fun y hy => by rw [List.mem_singleton.1 hy]; exact hx)
  refine ⟨hk, hm, hb, fun e => by have := hk0 e; omega, fun e e1 => ?_, fun e1 _ => ?_⟩
  ·by_cases ek : s.k = 0
   ·obtain ⟨a1, a2, a3, a4⟩ := hk0 ek
    exact ⟨hb, ⟨a4.sg, a4.gv, a4.tk⟩, by rw [nm0 ek, List.length_append, List.length_singleton]; show s.nl = _; omega, by rw [nm0 ek, List.length_append, List.length_singleton]; omega, hoc ek⟩
   ·exact (hk1 (by omega)).same hb rfl rfl rfl rfl (nm1 ek)
  ·refine ⟨hb, Or.inr (Or.inr (Or.inr (Or.inl ⟨h3, hk, by show 1 ≤ s.mn - 1; omega, fun e => ?_, fun e => ?_⟩)))⟩
   ·obtain ⟨a1, a2, a3, a4⟩ := hk0 e
    exact ⟨by rw [nm0 e, List.length_append, List.length_singleton]; show _ + 1 + (s.mn - 1) = s.nl; omega, a2, hoc e, ⟨a4.sg, a4.gv, a4.tk⟩⟩
   ·have e' : s.k = 1 ∨ s.k = 2 := e
    exact (hk1 e).same hb rfl rfl rfl rfl (nm1 (by omega))
 ·omega
 ·omega
theorem zi_tak {x : Nat} (hi : Zi s) (h0 : s.why = 0) (h3 : s.ph = 3) (hx : x < 256) : Zi (ztak x s).1 := by
 obtain ⟨hk, hm, hb, _, hq, hmore⟩ := zq_byt hi h0 h3 hx
 unfold ztak
 by_cases h1 : s.mn = 1
 ·rw [if_pos h1]
  unfold zthn
  split
  ·rename_i e; have e' : s.k = 0 := e; exact zi_rec (hq (by omega) h1)
  ·rename_i e; have e' : s.k = 1 := e; exact zi_body hb (hq (by omega) h1).hd
  ·rename_i e; have e' : s.k = 2 := e; exact zi_rec (hq (by omega) h1)
  ·exact zi_place hb
 ·rw [if_neg h1]
  exact hmore h1
theorem zi_sto {x : Nat} (hi : Zi s) (h0 : s.why = 0) (h4 : s.ph = 4) (hx : x < 256) : Zi (zsto x s).1 := by
 obtain ⟨b, hp⟩ := hi h0
 rcases hp with ⟨e, _⟩ | e | ⟨e, _⟩ | ⟨e, _⟩ | ⟨_, e1, e2⟩ | ⟨e, _⟩
 ·omega
 ·omega
 ·omega
 ·omega
 ·have hb : Zb (zgiv x s) := ⟨b.fl, b.su, b.pk, b.sz, b.nl, b.xl, b.ri, b.rl, b.mn, stp_lt b.sg hx, b.bs⟩
  show Zi (zsen (zgiv x s)).1
  unfold zsen
  split
  ·exact zi_end hb
  ·rename_i hne
   refine fun _ => ⟨hb, Or.inr (Or.inr (Or.inr (Or.inr (Or.inl ⟨h4, ?_, by show s.gv + 1 = s.tk + 1; omega⟩))))⟩
   have : ¬ s.tk + 1 = s.pk := hne
   show s.tk + 1 < s.pk
   omega
 ·omega
theorem zi_pla {x : Nat} (hi : Zi s) (h0 : s.why = 0) (hp0 : s.ph = 0) (hx : x < 256) : Zi (zpla x s) := by
 obtain ⟨b, hp⟩ := hi h0
 have hl : s.bs.length ≤ 3 := by
  rcases hp with ⟨_, e⟩ | e | ⟨e, _⟩ | ⟨e, _⟩ | ⟨e, _⟩ | ⟨e, _⟩ <;> omega
 have ho : Oct (s.bs ++ [x]) := b.bs.append (fun y hy => by rw [List.mem_singleton.1 hy]; exact hx)
 unfold zpla
 split
 ·have hb : Zb (zhead s) := ⟨by show (0 : Nat) < _; decide, by show (0 : Nat) < _; decide, by show (0 : Nat) < _; decide, by show (0 : Nat) < _; decide, by show (0 : Nat) < _; decide, by show (0 : Nat) < _; decide, b.ri, b.rl, b.mn, by show (0 : Nat) < _; decide, oct_nil⟩
  refine fun _ => ⟨hb, Or.inr (Or.inr (Or.inl ⟨rfl, by show 0 ≤ 5; decide, ⟨2, 0, _, rfl, by show 0 < 2; decide⟩, fun a ha => ?_, fun _ => ⟨rfl, ⟨rfl, rfl, rfl⟩⟩, fun e => absurd (show (0 : Nat) = 1 ∨ (0 : Nat) = 2 from e) (by decide)⟩))⟩
  have ha' : a ∈ [((2 : Nat), (0 : Nat)), (2, 1), (2, 2), (4, 0), (4, 3), (4, 4), (4, 5), (2, 6), (2, 7)] := ha
  simp at ha'
  rcases ha' with rfl | rfl | rfl | rfl | rfl | rfl | rfl | rfl | rfl
  all_goals exact ⟨by decide, by decide, by decide, fun e => absurd e (by decide), fun _ => rfl⟩
 ·split
  ·exact Zi.bad (by decide)
  ·split
   ·exact fun _ => ⟨⟨b.fl, b.su, b.pk, b.sz, b.nl, b.xl, b.ri, b.rl, b.mn, b.sg, b.bs⟩, Or.inr (Or.inl rfl)⟩
   ·rename_i hne
    refine fun _ => ⟨⟨b.fl, b.su, b.pk, b.sz, b.nl, b.xl, b.ri, b.rl, b.mn, b.sg, ho⟩, Or.inl ⟨hp0, ?_⟩⟩
    show (s.bs ++ [x]).length ≤ 3
    rw [List.length_append, List.length_singleton] at hne ⊢
    omega
theorem zi_st {x : Nat} (hi : Zi s) (h0 : s.why = 0) (h5 : s.ph ≠ 5) (hx : x < 256) : Zi (zst s x).1 := by
 have hp := (hi h0).2
 have hc : s.ph = 0 ∨ s.ph = 1 ∨ s.ph = 2 ∨ s.ph = 3 ∨ s.ph = 4 := by
  rcases hp with ⟨e, _⟩ | e | ⟨e, _⟩ | ⟨e, _⟩ | ⟨e, _⟩ | ⟨e, _⟩ <;> omega
 rcases hc with e | e | e | e | e
 ·rw [zst0 x e]; exact zi_pla hi h0 e hx
 ·rw [zst1 x e]; exact hi
 ·rw [zst2 x e]; exact zi_gat hi h0 e hx
 ·rw [zst3 x e]; exact zi_tak hi h0 e hx
 ·rw [zst4 x e]; exact zi_sto hi h0 e hx
theorem zi_dat {x : Nat} {y : Cfg} (hi : Zi s) (h0 : s.why = 0) (h5 : s.ph = 5) (hs : Stands (s.ip ++ [x]) MM y) : Zi (zask (zdat s x y)).1 := by
 obtain ⟨b, hp⟩ := hi h0
 rcases hp with ⟨e, _⟩ | e | ⟨e, _⟩ | ⟨e, _⟩ | ⟨e, _⟩ | ⟨_, a1, a2, a3, a4, a5⟩
 ·omega
 ·omega
 ·omega
 ·omega
 ·omega
 ·exact zi_ask (s := zdat s x y) ⟨b.fl, b.su, b.pk, b.sz, b.nl, b.xl, b.ri, b.rl, b.mn, sm_lt y.out (by decide) hs.oct, b.bs⟩ h5 h0 hs rfl rfl (by show s.tk + 1 = (s.ip ++ [x]).length; rw [List.length_append, List.length_singleton, a5])
theorem Zi.sp {x : Nat} {s1 : Zs} {E : List Evn} (hi : Zi s) (h0 : s.why = 0) (hx : x < 256) (h : Sp s x s1 E) : Zi s1 := by
 rcases h with ⟨h5, y, hy, rfl, _⟩ | ⟨h5, rfl, _⟩
 ·exact zi_dat hi h0 h5 hy
 ·exact zi_st hi h0 h5 hx
end
end Go.Proofs.YtpihipbeagpgpaaGreatDoor

/-
 One byte, in whichever phase; the walker's calls open, Put, Reason, End.
-/
namespace Go.Proofs.YtpihipbeagpgpaaGreatDoor
open Go.RowKit
set_option linter.unusedVariables false
def Sh (W k : Nat) (fb fc : Array Value) : Prop :=
 (k = 46 ∧ fb = #[] ∧ ∃ p1 p2 p3 : Nat, fc = #[.pointer (some ⟨p1, 0, none⟩), .pointer (some ⟨p2, 0, none⟩), .pointer (some ⟨p3, 0, none⟩)]) ∨
 (k = 49 ∧ fb = #[] ∧ fc = #[]) ∨
 (k = 94 ∧ fb = #[] ∧ ∃ p1 p2 p3 p4 p5 : Nat, fc = #[.pointer (some ⟨p1, 0, none⟩), .pointer (some ⟨p2, 0, none⟩), .pointer (some ⟨p3, 0, none⟩), .pointer (some ⟨p4, 0, none⟩), .pointer (some ⟨p5, 0, none⟩)]) ∨
 (k = 123 ∧ fb = #[] ∧ ∃ p1 p2 p3 : Nat, fc = #[.pointer (some ⟨p1, 0, none⟩), .pointer (some ⟨p2, 0, none⟩), .pointer (some ⟨p3, 0, none⟩)]) ∨
 (k = 147 ∧ fb = #[.pointer (some ⟨W, 0, none⟩)] ∧ fc = #[]) ∨
 (k = 150 ∧ fb = #[.pointer (some ⟨W, 0, none⟩)] ∧ fc = #[])
section
variable {lo hi B D b R W : Nat} {I : List Nat} {cf : Cfg} {q : Md} {c : Zc} {s s1 : Zs} {v td : Value} {E : List Evn}
theorem Zq.zh (h : Zq s) (h0 : s.why = 0) (hp : s.ph ≠ 1) : Zh s := ⟨h0, hp, h.b.fl, h.b.sg, h.nl, h.nm, h.hd.sg, h.hd.gv⟩
theorem zstep_c (x : Nat) (hx : x < 256) (w : World) (h : Wk w lo hi B D b R W (zc s v td none) I cf q) (hN : Nz w hi W s v) (hd : (s.ph = 4 ∨ s.ph = 5) → td = (if s.ph = 4 then bm 148 W else bm 151 W) ∧ (s.ph = 5 → I = s.ip ∧ q = .want ∧ cf.out = s.y.out)) (hi' : Zi s) (h0 : s.why = 0) (hs : Sp s x s1 E) (hb : s.ph = 5 → s.y.out.length + 1 < MM ∧ s.ip.length < MM) :
  ∃ k fb fc, v = .func (.func k) fb fc ∧ Sh W k fb fc ∧ Calls Tryz.prog k (fb ++ #[.int .u8 (x : Int)] ++ fc) w fun e w' => e = .returned (.tuple #[]) ∧ (Wz w' lo hi B D b R W s1 E ∧ Fz lo hi w w') := by
 obtain ⟨zb, zp⟩ := hi' h0
 rcases hN with ⟨a, pb, pt, pw, cs, hv, xb, d, e, f, g⟩ | ⟨a, hv⟩ | ⟨a, pv, pb, pf, pw, pt, P, Q, A, o, C, T, hv, xv, xb, xf, xw, xt, i1, i2, i, j⟩ | ⟨a, pu, pm, pt, U, hv, xu, xm, xt, f⟩ | ⟨a, hv⟩ | ⟨a, hv⟩
 ·rcases hs with ⟨h5, _⟩ | ⟨h5, rfl, rfl⟩
  ·omega
  ·rw [zst0 x a]
   have hl : s.bs.length ≤ 3 := by
    rcases zp with ⟨_, e⟩ | e | ⟨e, _⟩ | ⟨e, _⟩ | ⟨e, _⟩ | ⟨e, _⟩ <;> omega
   exact ⟨46, _, _, hv, Or.inl ⟨rfl, rfl, pb, pt, pw, rfl⟩, pla_c x hx w h hv h0 a zb.bs hl xb d e f g⟩
 ·rcases hs with ⟨h5, _⟩ | ⟨h5, rfl, rfl⟩
  ·omega
  ·rw [zst1 x a]
   refine ⟨49, _, _, hv, Or.inr (Or.inl ⟨rfl, rfl, rfl⟩), (rest_c x w).mono ?_⟩
   rintro e w' ⟨h1, rfl⟩
   exact ⟨h1, Or.inl ⟨rfl, v, td, I, cf, q, h, fun _ => Or.inr (Or.inl ⟨a, hv⟩), fun e => by have e2 : s.ph = 4 ∨ s.ph = 5 := e; omega⟩, Fz.refl _ _ _⟩
 ·rcases hs with ⟨h5, _⟩ | ⟨h5, rfl, rfl⟩
  ·omega
  ·rw [zst2 x a]
   have zp' := zp
   rcases zp' with ⟨e, _⟩ | e | ⟨_, hk, ⟨n, t, r, hf, hl⟩, hm, hk0, hk1⟩ | ⟨e, _⟩ | ⟨e, _⟩ | ⟨e, _⟩
   ·omega
   ·omega
   ·obtain ⟨m1, m2, m3, m4, m5⟩ := hm (n, t) (by rw [hf]; exact List.mem_cons_self ..)
    refine ⟨94, _, _, hv, Or.inr (Or.inr (Or.inl ⟨rfl, rfl, pv, pb, pf, pw, pt, rfl⟩)), gat_c x n t r hx w h hv a hf m2 hl zb.bs m3 m4 i1 i2 xv xb xf xw xt i j fun hn hr => ?_⟩
    obtain ⟨q1, q2, q3⟩ := zt_set (r := r) zb h0 zp a hf hx hn
    have ek := zset_keep t (lev (s.bs ++ [x])) { s with fs := r, bs := [] }
    have e0 : (zset t (lev (s.bs ++ [x])) { s with fs := r, bs := [] }).why = 0 := ek.1.trans h0
    have e1 : (zset t (lev (s.bs ++ [x])) { s with fs := r, bs := [] }).ph ≠ 1 := by rw [ek.2.1]; show s.ph ≠ 1; omega
    refine ⟨e0, e1, q1.sg, fun e => ?_, fun e => ⟨(q3 (ek.2.2.2.2 ▸ e)).zh e0 e1, q1.xl⟩⟩
    obtain ⟨u1, u2⟩ := q2 (ek.2.2.2.2 ▸ e)
    exact ⟨e0, e1, q1.fl, q1.sg, u1, q1.xl, u2.sg, u2.gv⟩
   ·omega
   ·omega
   ·omega
 ·rcases hs with ⟨h5, _⟩ | ⟨h5, rfl, rfl⟩
  ·omega
  ·rw [zst3 x a]
   obtain ⟨hk, hm, hbz, hn, hq, _⟩ := zq_byt hi' h0 a hx
   have hZ : s.mn = 1 → s.k ≤ 2 → Zh (zbyt x s) ∧ s.xl < 18446744073709551616 := fun e1 e2 => ⟨(hq e2 e1).zh h0 (by show s.ph ≠ 1; omega), zb.xl⟩
   rcases f with ⟨k0, be, pa, rfl, xe, xa⟩ | ⟨k0, rfl⟩
   ·exact ⟨123, _, _, hv, Or.inr (Or.inr (Or.inr (Or.inl ⟨rfl, rfl, pu, pm, pt, rfl⟩))), tak_c x (.func 96) #[ptr be 0, ptr pa 0] w h hv h0 a hk hm zb.mn xu xm xt (Or.inl ⟨k0, hn k0, be, pa, rfl, rfl, xe, xa⟩) hZ⟩
   ·exact ⟨123, _, _, hv, Or.inr (Or.inr (Or.inr (Or.inl ⟨rfl, rfl, pu, pm, pt, rfl⟩))), tak_c x (.func 139) #[] w h hv h0 a hk hm zb.mn xu xm xt (Or.inr ⟨k0, rfl, rfl⟩) hZ⟩
 ·rcases hs with ⟨h5, _⟩ | ⟨h5, rfl, rfl⟩
  ·omega
  ·rw [zst4 x a]
   obtain ⟨ht, _⟩ := hd (Or.inl a)
   rw [if_pos a] at ht
   have hp : s.tk < s.pk ∧ s.gv = s.tk := by
    rcases zp with ⟨e, _⟩ | e | ⟨e, _⟩ | ⟨e, _⟩ | ⟨_, e1, e2⟩ | ⟨e, _⟩
    ·omega
    ·omega
    ·omega
    ·omega
    ·exact ⟨e1, e2⟩
    ·omega
   have hpk := zb.pk
   subst hv
   exact ⟨147, _, _, rfl, Or.inr (Or.inr (Or.inr (Or.inr (Or.inl ⟨rfl, rfl, rfl⟩)))), zstored_c x hx w h ht h0 a zb.sg (by omega) (by omega)⟩
 ·rcases hs with ⟨h5, y, hy, rfl, rfl⟩ | ⟨h5, rfl, rfl⟩
  ·obtain ⟨ht, hI⟩ := hd (Or.inr a)
   obtain ⟨rfl, rfl, ho⟩ := hI a
   rw [if_neg (by omega)] at ht
   obtain ⟨b1, b2⟩ := hb a
   rcases zp with ⟨e, _⟩ | e | ⟨e, _⟩ | ⟨e, _⟩ | ⟨e, _⟩ | ⟨_, z1, z2, z3, z4, z5⟩
   ·omega
   ·omega
   ·omega
   ·omega
   ·omega
   ·subst hv
    exact ⟨150, _, _, rfl, Or.inr (Or.inr (Or.inr (Or.inr (Or.inr ⟨rfl, rfl, rfl⟩)))), deflated_c x hx y w h ht ho z3 z4 h0 a zb.fl (by unfold MM at b2; omega) hy b1⟩
  ·omega
theorem zev0_some (e : Evn) : ev0 (some e) ≠ 0 := by
 show gk1 e.1 ≠ 0
 unfold gk1
 (repeat' split) <;> decide
theorem zopen_yes (w : World) (h : Wc w W D c) (he : c.ev = none) (h0 : c.why = 0) (hen : c.en = false) : Calls Tryz.prog 32 #[.pointer (some ⟨W, 0, none⟩)] w fun e w' => e = .returned (.bool true) ∧ w = w' := by
 have d8 : w.cell? ⟨W, 269, none⟩ = some (.int .i64 0) := by have := h.a269; rw [he] at this; exact this
 have d15 : w.cell? ⟨W, 277, none⟩ = some (.int .i64 0) := by have := h.a277; rw [h0] at this; exact this
 have d14 : w.cell? ⟨W, 276, none⟩ = some (.bool false) := by have := h.a276; rw [hen] at this; exact this
 clear h he h0 hen
 go_enter Tryz.func32, Tryz.ntmps32
 go_wp2_with fail
 first | go_ret | go_ret2
 exact ⟨rfl, rfl⟩
theorem zopen_ev (w : World) (h : Wc w W D c) (he : c.ev ≠ none) : Calls Tryz.prog 32 #[.pointer (some ⟨W, 0, none⟩)] w fun e w' => e = .returned (.bool false) ∧ w = w' := by
 have d8 := h.a269
 obtain ⟨k, hk⟩ : ∃ k, ev0 c.ev = k := ⟨_, rfl⟩
 have hk0 : (k == 0) = false := by
  rw [beq_eq_false_iff_ne, ← hk]
  cases hc : c.ev with
  | none => exact absurd hc he
  | some e => exact zev0_some e
 rw [hk] at d8
 clear h he hk
 go_enter Tryz.func32, Tryz.ntmps32
 go_wp2_with fail
 first | go_ret | go_ret2
 exact ⟨rfl, rfl⟩
theorem zopen_why (w : World) (h : Wc w W D c) (he : c.ev = none) (h0 : c.why ≠ 0) : Calls Tryz.prog 32 #[.pointer (some ⟨W, 0, none⟩)] w fun e w' => e = .returned (.bool false) ∧ w = w' := by
 have d8 : w.cell? ⟨W, 269, none⟩ = some (.int .i64 0) := by have := h.a269; rw [he] at this; exact this
 have d15 := h.a277
 have hk0 : ((c.why : Int) == 0) = false := by rw [beq_eq_false_iff_ne]; omega
 clear h he h0
 go_enter Tryz.func32, Tryz.ntmps32
 go_wp2_with fail
 first | go_ret | go_ret2
 exact ⟨rfl, rfl⟩
theorem zopen_en (w : World) (h : Wc w W D c) (he : c.ev = none) (h0 : c.why = 0) (hen : c.en = true) : Calls Tryz.prog 32 #[.pointer (some ⟨W, 0, none⟩)] w fun e w' => e = .returned (.bool false) ∧ w = w' := by
 have d8 : w.cell? ⟨W, 269, none⟩ = some (.int .i64 0) := by have := h.a269; rw [he] at this; exact this
 have d15 : w.cell? ⟨W, 277, none⟩ = some (.int .i64 0) := by have := h.a277; rw [h0] at this; exact this
 have d14 : w.cell? ⟨W, 276, none⟩ = some (.bool true) := by have := h.a276; rw [hen] at this; exact this
 clear h he h0 hen
 go_enter Tryz.func32, Tryz.ntmps32
 go_wp2_with fail
 first | go_ret | go_ret2
 exact ⟨rfl, rfl⟩
theorem zopen_no (w : World) (h : Wc w W D c) (hn : c.ev ≠ none ∨ c.why ≠ 0 ∨ c.en = true) : Calls Tryz.prog 32 #[.pointer (some ⟨W, 0, none⟩)] w fun e w' => e = .returned (.bool false) ∧ w = w' := by
 by_cases he : c.ev = none
 ·by_cases h0 : c.why = 0
  ·rcases hn with q | q | q
   ·exact absurd he q
   ·exact absurd h0 q
   ·exact zopen_en w h he h0 q
  ·exact zopen_why w h he h0
 ·exact zopen_ev w h he
theorem zput_no (x : Nat) (w : World) (h : Wc w W D c) (hn : c.ev ≠ none ∨ c.why ≠ 0 ∨ c.en = true) : Calls Tryz.prog 18 #[.pointer (some ⟨W, 0, none⟩), .int .u8 (x : Int)] w fun e w' => e = .returned (.bool false) ∧ w = w' := by
 have ko := zopen_no w h hn
 clear h hn
 go_enter Tryz.func18, Tryz.ntmps18
 go_wp2_with (go_at_call 32; refine ko.mono ?_; rintro e2 w2 ⟨rfl, rfl⟩)
 first | go_ret | go_ret2
 exact ⟨rfl, rfl⟩
set_option maxHeartbeats 2000000 in
theorem zput_gen (k : Nat) (fb fc : Array Value) (hks : Sh W k fb fc) (P : World → Prop) (x : Nat) (w : World) (h : Wc w W D c) (hk : c.nx = .func (.func k) fb fc) (he : c.ev = none) (h0 : c.why = 0) (hen : c.en = false) (hst : Calls Tryz.prog k (fb ++ #[.int .u8 (x : Int)] ++ fc) w fun e w' => e = .returned (.tuple #[]) ∧ P w') : Calls Tryz.prog 18 #[.pointer (some ⟨W, 0, none⟩), .int .u8 (x : Int)] w fun e w' => e = .returned (.bool true) ∧ P w' := by
 have ko := zopen_yes w h he h0 hen
 have d1 : w.cell? ⟨W, 1, none⟩ = some (.func (.func k) fb fc) := by rw [← hk]; exact h.a1
 clear h hk he h0 hen
 rcases hks with ⟨rfl, rfl, p1, p2, p3, rfl⟩ | ⟨rfl, rfl, rfl⟩ | ⟨rfl, rfl, p1, p2, p3, p4, p5, rfl⟩ | ⟨rfl, rfl, p1, p2, p3, rfl⟩ | ⟨rfl, rfl, rfl⟩ | ⟨rfl, rfl, rfl⟩
 all_goals
  simp only [List.append_toArray, List.cons_append, List.nil_append] at hst
  go_enter Tryz.func18, Tryz.ntmps18
  go_wp2_with (first
   | (go_at_call 32; refine ko.mono ?_; rintro e2 w2 ⟨rfl, rfl⟩)
   | (go_at_call 46; refine hst.mono ?_; rintro e3 w3 ⟨rfl, h3⟩)
   | (go_at_call 49; refine hst.mono ?_; rintro e3 w3 ⟨rfl, h3⟩)
   | (go_at_call 94; refine hst.mono ?_; rintro e3 w3 ⟨rfl, h3⟩)
   | (go_at_call 123; refine hst.mono ?_; rintro e3 w3 ⟨rfl, h3⟩)
   | (go_at_call 147; refine hst.mono ?_; rintro e3 w3 ⟨rfl, h3⟩)
   | (go_at_call 150; refine hst.mono ?_; rintro e3 w3 ⟨rfl, h3⟩))
  first | go_ret | go_ret2
  exact ⟨rfl, h3⟩
theorem zreason_c (w : World) (h : Wc w W D c) : Calls Tryz.prog 21 #[.pointer (some ⟨W, 0, none⟩)] w fun e w' => e = .returned (.int .i64 (c.why : Int)) ∧ w = w' := by
 have d15 := h.a277
 clear h
 go_enter Tryz.func21, Tryz.ntmps21
 go_wp2_with fail
 first | go_ret | go_ret2
 exact ⟨rfl, rfl⟩
theorem zend_no (w : World) (h : Wc w W D c) (hn : c.ev ≠ none ∨ c.why ≠ 0 ∨ c.en = true) : Calls Tryz.prog 22 #[.pointer (some ⟨W, 0, none⟩)] w fun e w' => e = .returned (.tuple #[]) ∧ w = w' := by
 have ko := zopen_no w h hn
 clear h hn
 go_enter Tryz.func22, Tryz.ntmps22
 go_wp2_with (go_at_call 32; refine ko.mono ?_; rintro e2 w2 ⟨rfl, rfl⟩)
 first | go_end0 | (refine bodyPost_ret (results_none rfl _ _ _) rfl ?_)
 exact ⟨rfl, rfl⟩
theorem zend_yes (w : World) (hw : Wk w lo hi B D b R W c I cf q) (he : c.ev = none) (h0 : c.why = 0) (hen : c.en = false) (y : Nat) (hy : (if c.ov = true then 0 else 1) = y) : Calls Tryz.prog 22 #[.pointer (some ⟨W, 0, none⟩)] w fun e w' => e = .returned (.tuple #[]) ∧ Wk w' lo hi B D b R W { c with en := true, why := y } I cf q ∧ Fz lo hi w w' := by
 have ko := zopen_yes w hw.wc he h0 hen
 have d13 := hw.wc.a275
 have d14 := hw.wc.a276
 have z14 := hw.wc.fz 276
 have d15 := hw.wc.a277
 have z15 := hw.wc.fz 277
 have AW : Aside (Wk w lo hi B D b R W c I cf q ∧ c.why = 0) := ⟨hw, h0⟩
 obtain ⟨t, ht⟩ : ∃ t, c.ov = t := ⟨_, rfl⟩
 rw [ht] at d13 hy
 clear hw he h0 hen ht
 cases t with
 | true =>
  obtain rfl : (0 : Nat) = y := by simpa using hy
  clear hy
  go_enter Tryz.func22, Tryz.ntmps22
  go_wp2_with (go_at_call 32; refine ko.mono ?_; rintro e2 w2 ⟨rfl, rfl⟩)
  first | go_end0 | (refine bodyPost_ret (results_none rfl _ _ _) rfl ?_)
  have a := AW.out
  refine ⟨rfl, ?_, a.1.fw ((Only.refl W w).setCell 276 _)⟩
  have k := a.1.set ((Only.refl W w).setCell 276 _) (a.1.wc.s276 true)
  have e : ({ c with en := true, why := 0 } : Zc) = { c with en := true } := by rw [← a.2]
  rw [e]
  exact k
 | false =>
  obtain rfl : (1 : Nat) = y := by simpa using hy
  clear hy
  go_enter Tryz.func22, Tryz.ntmps22
  go_wp2_with (go_at_call 32; refine ko.mono ?_; rintro e2 w2 ⟨rfl, rfl⟩)
  first | go_end0 | (refine bodyPost_ret (results_none rfl _ _ _) rfl ?_)
  have a := AW.out
  exact ⟨rfl, a.1.set (((Only.refl W w).setCell 276 _).setCell 277 _) ((a.1.wc.s276 true).s277 1), a.1.fw (((Only.refl W w).setCell 276 _).setCell 277 _)⟩
end
end Go.Proofs.YtpihipbeagpgpaaGreatDoor

/-
 The same where an event of a call turns. No walk.
-/
namespace Go.Proofs.YtpihipbeagpgpaaGreatDoor
open Go.RowKit
set_option linter.unusedVariables false
def Kt6 (ty : TypeId) : Prop := ty = 5 ∨ ty = 72 ∨ ty = 22 ∨ ty = 46 ∨ ty = 66 ∨ ty = 3 ∨ ty = 98
structure Kq6 (B : Nat) (w u : World) : Prop where
 size : w.heap.size ≤ u.heap.size
 block : ∀ k, k < w.heap.size → u.heap[k]? = w.heap[k]? ∨ (9 ≤ k ∧ (k < B ∨ B + 4 ≤ k) ∧ ∃ cs ty fr, w.heap[k]? = some (.cells cs ty fr) ∧ Kt6 ty)
theorem Tbl.kq6 {w u : World} {B : Nat} {v : Value} {ls : List Nat} (h : Tbl w B v ls) (k : Kq6 B w u) : Tbl u B v ls := by
 obtain ⟨lo, hi, T, h1, h2, h3, ⟨g, M, n, q, a1, a2, a3, a4, a5, a6, a7⟩, h5⟩ := h
 have e1 : u.heap[T]? = w.heap[T]? := by
  rcases k.block T (by omega) with e | ⟨_, _, cs, ty, fr, e, ht⟩
  ·exact e
  ·have := q.t; unfold Cells at this; rw [this] at e; cases e; rcases ht with h | h | h | h | h | h | h <;> exact absurd h (by decide)
 have e2 : u.heap[g]? = w.heap[g]? := by
  rcases k.block g (by omega) with e | ⟨_, _, cs, ty, fr, e, ht⟩
  ·exact e
  ·obtain ⟨cs', hc, _⟩ := q.c; unfold Cells at hc; rw [hc] at e; cases e; rcases ht with h | h | h | h | h | h | h <;> exact absurd h (by decide)
 have e3 : u.heap[M]? = w.heap[M]? := by
  rcases k.block M (by omega) with e | ⟨_, _, cs, ty, fr, e, ht⟩
  ·exact e
  ·obtain ⟨G, ⟨D, ⟨es, cl, hb, _⟩, _⟩, _⟩ := q.m; rw [hb] at e; cases e
 exact ⟨lo, hi, T, h1, h2, Nat.le_trans h3 k.size, ⟨g, M, n, q.heap e1 e2 e3, a1, a2, a3, a4, a5, a6, a7⟩, h5⟩
section
variable {w u : World} {B D b R : Nat} {f : Nat → Value} {bs : List Bool} {most : Nat}
theorem Bs.kq6 {h : List Bool} {l : List Int} (s : Bs w B D b R f h l) (k : Kq6 B w u) : Bs u B D b R f h l := by
 have := s.lt
 refine s.keep fun i h1 h2 => ?_
 rcases k.block i (by omega) with e | ⟨_, h3, _⟩
 ·exact e
 ·omega
theorem Fx.kq6 (h : Fx w B f) (k : Kq6 B w u) : Fx u B f := by
 rcases h with h | ⟨h, h'⟩
 ·exact Or.inl h
 ·exact Or.inr ⟨h.kq6 k, h'.kq6 k⟩
theorem Tabs.kq6 (h : Tabs w) (k : Kq6 B w u) (hs : 8 ≤ w.heap.size) : Tabs u := by
 have hc : ∀ p : Addr, p.block < 8 → u.cell? p = w.cell? p := fun p hp => World.cell?_of_block (w := w) (by
  rcases k.block p.block (by omega) with e | ⟨h3, _⟩
  ·exact e
  ·omega)
 exact ⟨fun i hi => (hc ⟨1, i, none⟩ (show 1 < 8 by decide)).trans (h.t0 i hi), fun i hi => (hc ⟨2, i, none⟩ (show 2 < 8 by decide)).trans (h.t1 i hi), fun i hi => (hc ⟨3, i, none⟩ (show 3 < 8 by decide)).trans (h.t2 i hi), fun i hi => (hc ⟨4, i, none⟩ (show 4 < 8 by decide)).trans (h.t3 i hi), fun i hi => (hc ⟨5, i, none⟩ (show 5 < 8 by decide)).trans (h.t4 i hi), fun i hi => (hc ⟨6, i, none⟩ (show 6 < 8 by decide)).trans (h.t5 i hi), fun i hi => (hc ⟨7, i, none⟩ (show 7 < 8 by decide)).trans (h.t6 i hi)⟩
theorem Ctab.kq6 (h : Ctab w) (k : Kq6 B w u) : Ctab u := fun i hi => by
 have e : u.cell? ⟨8, i, none⟩ = w.cell? ⟨8, i, none⟩ := World.cell?_of_block (w := w) (by
  rcases k.block 8 h.lt with e | ⟨h3, _⟩
  ·exact e
  ·omega)
 exact e.trans (h i hi)
theorem Pl.kq6 {a c : Nat} {code l : List Nat} (h : Pl w B f a c code l) (k : Kq6 B w u) : Pl u B f a c code l := ⟨h.a1, h.a2, h.b1, h.b2, h.c8, h.c9, h.have_, h.len, h.row, h.tbl.kq6 k, h.code⟩
theorem At.kq6 {n : Nat} {st : St} (h : At w B D f n st) (k : Kq6 B w u) : At u B D f n st := by
 cases st using St.el with
 | head last => cases last <;> exact h
 | dsym last a b code l => exact ⟨h.1, h.2.1, h.2.2.kq6 k⟩
 | drep last a b code l s => exact ⟨h.1, h.2.1, h.2.2.1.kq6 k, h.2.2.2⟩
 | sym last lit di => exact ⟨h.1, h.2.1, h.2.2.1.kq6 k, h.2.2.2.kq6 k⟩
 | lext last lit di s => exact ⟨h.1, h.2.1, h.2.2.1.kq6 k, h.2.2.2.1.kq6 k, h.2.2.2.2⟩
 | dist last lit di m => exact ⟨h.1, h.2.1, h.2.2.1.kq6 k, h.2.2.2.1.kq6 k, h.2.2.2.2⟩
 | dext last lit di m x => exact ⟨h.1, h.2.1, h.2.2.1.kq6 k, h.2.2.2.1.kq6 k, h.2.2.2.2⟩
 | copy last lit di m d => exact ⟨h.1, h.2.1, h.2.2.1.kq6 k, h.2.2.2.1.kq6 k, h.2.2.2.2⟩
 | _ => exact h
theorem Is.kq6 {c : Cfg} (h : Is w B D b R f bs c) (k : Kq6 B w u) : Is u B D b R f bs c :=
 ⟨h.mem.kq6 k, h.at_.kq6 k, h.fx.kq6 k, h.tabs.kq6 k (by have := h.mem.lt; have := h.b7; omega), h.le, h.b7⟩
theorem Ov.kq6 {c : Cfg} (h : Ov w B D b R f c) (k : Kq6 B w u) : Ov u B D b R f c := by
 obtain ⟨hh, l, s⟩ := h.mem
 exact ⟨⟨hh, l, s.kq6 k⟩, h.waits, h.how, h.fx.kq6 k, h.tabs.kq6 k (by have := s.lt; have := h.b7; omega), h.b7⟩
end
theorem Inf.kq6 {w u : World} {B D b R : Nat} {I : List Nat} {M : Nat} {c : Cfg} {q : Md} (h : Inf w B D b R I M c q) (k : Kq6 B w u) : Inf u B D b R I M c q := by
 refine ⟨h.1, ?_⟩
 have h2 := h.2
 cases q using Md.el with
 | wait x =>
  obtain ⟨f, h3, h4⟩ := h2
  exact ⟨f, h3.kq6 k, h4⟩
 | want =>
  obtain ⟨f, h3⟩ := h2
  exact ⟨f, h3.is_.kq6 k, h3.op, h3.few, h3.z⟩
 | over =>
  obtain ⟨f, h3⟩ := h2
  exact ⟨f, h3.kq6 k⟩
 | shut =>
  obtain ⟨f, h, l, h3, h4, h5, h6, h7, h8, h9⟩ := h2
  exact ⟨f, h, l, h3.kq6 k, h4, h5, h6, h7.kq6 k, h8.kq6 k (by have := h3.lt; omega), h9⟩
end Go.Proofs.YtpihipbeagpgpaaGreatDoor

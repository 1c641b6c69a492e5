/-
  What is to come: what setName, setSize and set make of it.
-/
import Derived.Test.YtcmmjbkgoafbnaaGreatDoorWpb
namespace Go.Proofs.YtcmmjbkgoafbnaaGreatDoor
open Go.RowKit
set_option linter.unusedVariables false
/-- A state with other things to come. -/
def tcs (s : Ts) (c : Cm) : Ts := { s with nm := c.1, sz := c.2 }
theorem tcs_self (s : Ts) : tcs s (s.nm, s.sz) = s := rfl
theorem tcs_tcs (s : Ts) (c d : Cm) : tcs (tcs s c) d = tcs s d := rfl
theorem Tok.tcs {s : Ts} (h : Tok s) {c : Cm} (k : Okc c) : Tok (tcs s c) := ⟨h.bl, h.bo, h.kl, h.ko, h.ps, h.wh, h.us, h.lf, h.ln, k⟩
/-- What the methods of what is to come answer. -/
structure Cr (W : Nat) (s : Ts) (v : Rv) (r : Cm × Nat) (w : World) (e : Ending) (w' : World) : Prop where
  re : e = .returned (.int .i64 (r.2 : Int))
  wm : Wm w' W (tcs s r.1) v
  bu : But W w w'
  er : Er w'
section
variable {W : Nat} {s : Ts} {v : Rv}
theorem setName_c (m : List Nat) (ho : Oct m) (hl : m.length ≤ 1000000000) (w : World) (h : Wm w W s v) (he : Er w) (hW : 3 ≤ W) : Calls Tryz.prog 57 #[.pointer (some ⟨W, 1541, none⟩), .string (st m)] w fun e w' => Cr W s v (tnam m (s.nm, s.sz)) w e w' := by
  have c1 := h.k1541
  have c2 := h.k1542
  have f1 := h.fz 1541
  have f2 := h.fz 1542
  have z1 : (st m).size = m.length := st_size m
  have A : Aside (Wm w W s v ∧ Er w ∧ 3 ≤ W ∧ Oct m) := ⟨h, he, hW, ho⟩
  obtain ⟨x, hx⟩ : ∃ x, st m = x := ⟨_, rfl⟩
  rw [hx] at z1 ⊢
  by_cases h1 : 256 < m.length
  · have AN : Aside (tnam m (s.nm, s.sz) = ((s.nm, s.sz), 46)) := by show tnam _ _ = _; unfold tnam; rw [if_pos h1]
    obtain ⟨L, hL⟩ : ∃ L, m.length = L := ⟨_, rfl⟩
    rw [hL] at z1 h1
    have t1 : ((256 : Int) < (L : Int)) = True := eq_true (by omega)
    clear h1 h he hW ho hl hx hL
    go_enter Tryz.func57, Tryz.ntmps57
    go_wp2_with fail
    first | go_ret | go_ret2
    rw [AN.out]
    exact ⟨rfl, A.out.1, But.refl _ _, A.out.2.1⟩
  · have AN : Aside (tnam m (s.nm, s.sz) = ((some m, s.sz), 0) ∧ st m = x ∧ m.length ≤ 256) := by
      refine ⟨?_, hx, by omega⟩
      unfold tnam; rw [if_neg h1]
    obtain ⟨L, hL⟩ : ∃ L, m.length = L := ⟨_, rfl⟩
    rw [hL] at z1 h1
    have t1 : ((256 : Int) < (L : Int)) = False := eq_false (by omega)
    clear h1 h he hW ho hl hx hL
    go_enter Tryz.func57, Tryz.ntmps57
    go_wp2_with fail
    first | go_ret | go_ret2
    have an := AN.out
    have a0 := A.out
    rw [an.1]
    have k := a0.1.snm m (by
      have := a0.1.ok
      exact ⟨this.bl, this.bo, this.kl, this.ko, this.ps, this.wh, this.us, this.lf, this.ln, ⟨fun n hn => by simp only [Option.some.injEq] at hn; subst hn; exact ⟨a0.2.2.2, an.2.2⟩, this.cm.2⟩⟩)
    rw [an.2.1] at k
    have o : Only W w ((w.setCell ⟨W, 1541, none⟩ (.string x)).setCell ⟨W, 1542, none⟩ (.bool true)) := ((Only.refl W w).setCell 1541 _).setCell 1542 _
    exact ⟨rfl, k, But.of_only o, a0.2.1.but (But.of_only o) a0.2.2.1⟩
theorem setSize_c (m : List Nat) (ho : Oct m) (hl : m.length ≤ 1000000000) (w : World) (h : Wm w W s v) (he : Er w) (hW : 3 ≤ W) : Calls Tryz.prog 68 #[.pointer (some ⟨W, 1541, none⟩), .string (st m)] w fun e w' => Cr W s v (tsiz m (s.nm, s.sz)) w e w' := by
  have h1 := parse79 m ho hl w he
  have A : Aside (Wm w W s v ∧ Er w ∧ 3 ≤ W ∧ Oct m) := ⟨h, he, hW, ho⟩
  clear h he hW ho hl
  go_enter Tryz.func68, Tryz.ntmps68
  go_upto_region 2 with (go_at_call 74; refine h1.mono ?_; rintro e1 w1 ⟨hx, b1⟩; rcases hx with ⟨z, hz, rfl⟩ | ⟨hz, x, t, y, rfl⟩)
  · have a0 := A.out
    have k1 := a0.1.below b1 a0.1.lt
    have c1 := k1.k1543
    have c2 := k1.k1544
    have f1 := k1.fz 1543
    have f2 := k1.fz 1544
    have AZ : Aside (tsiz m (s.nm, s.sz) = ((s.nm, some z), 0) ∧ tdec m = some z ∧ Below w.heap.size w w1 ∧ Wm w1 W s v) := ⟨by unfold tsiz; rw [hz], hz, b1, k1⟩
    clear hz b1 h1 k1 a0
    go_wp2_with fail
    first | go_ret | go_ret2
    have az := AZ.out
    have a0 := A.out
    rw [az.1]
    have k := az.2.2.2.ssz z (by
      have := a0.1.ok
      exact ⟨this.bl, this.bo, this.kl, this.ko, this.ps, this.wh, this.us, this.lf, this.ln, ⟨this.cm.1, fun n hn => by simp only [Option.some.injEq] at hn; subst hn; exact tdec_lt az.2.1⟩⟩)
    have o : Only W w1 ((w1.setCell ⟨W, 1543, none⟩ (.int .u64 (z : Int))).setCell ⟨W, 1544, none⟩ (.bool true)) := ((Only.refl W w1).setCell 1543 _).setCell 1544 _
    have hbu : But W w _ := (But.of_below az.2.2.1).trans (But.of_only o)
    exact ⟨rfl, k, hbu, a0.2.1.but hbu a0.2.2.1⟩
  · have AZ : Aside (tsiz m (s.nm, s.sz) = ((s.nm, s.sz), 48) ∧ Below w.heap.size w w1) := ⟨by unfold tsiz; rw [hz], b1⟩
    clear hz b1 h1
    go_wp2_with fail
    first | go_ret | go_ret2
    have az := AZ.out
    have a0 := A.out
    rw [az.1]
    exact ⟨rfl, a0.1.below az.2 a0.1.lt, But.of_below az.2, a0.2.1.below az.2 (by have := a0.1.lt; omega)⟩
theorem key_path {k : List Nat} (h : Oct k) : ((st k).toList == [112, 97, 116, 104]) = decide (k = kpath) := by
  have := st_beq h (show Oct kpath from by unfold Oct kpath; decide)
  have e : (st kpath).toList = [112, 97, 116, 104] := by rw [ByteArray.toList_eq]; rfl
  rw [e] at this; exact this
theorem key_size {k : List Nat} (h : Oct k) : ((st k).toList == [115, 105, 122, 101]) = decide (k = ksize) := by
  have := st_beq h (show Oct ksize from by unfold Oct ksize; decide)
  have e : (st ksize).toList = [115, 105, 122, 101] := by rw [ByteArray.toList_eq]; rfl
  rw [e] at this; exact this
theorem set_c (k m : List Nat) (hk : Oct k) (ho : Oct m) (hl : m.length ≤ 1000000000) (w : World) (h : Wm w W s v) (he : Er w) (hW : 3 ≤ W) : Calls Tryz.prog 66 #[.pointer (some ⟨W, 1541, none⟩), .string (st k), .string (st m)] w fun e w' => Cr W s v (tset k m (s.nm, s.sz)) w e w' := by
  have h1 := setName_c m ho hl w h he hW
  have h2 := setSize_c m ho hl w h he hW
  have e1 := key_path hk
  have e2 := key_size hk
  have A : Aside (Wm w W s v ∧ Er w) := ⟨h, he⟩
  obtain ⟨x, hx⟩ : ∃ x, st k = x := ⟨_, rfl⟩
  rw [hx] at e1 e2 ⊢
  by_cases q1 : k = kpath
  · rw [decide_eq_true q1] at e1
    have AN : Aside (tset k m (s.nm, s.sz) = tnam m (s.nm, s.sz)) := by show tset _ _ _ = _; unfold tset; rw [if_pos q1]
    clear q1 h he hW ho hl hk hx e2 h2
    go_enter Tryz.func66, Tryz.ntmps66
    go_wp2_with (go_at_call 57; refine h1.mono ?_; rintro e1 w1 ⟨rfl, k1, b1, r1⟩)
    first | go_ret | go_ret2
    rw [AN.out]
    exact ⟨rfl, k1, b1, r1⟩
  · rw [decide_eq_false q1] at e1
    by_cases q2 : k = ksize
    · rw [decide_eq_true q2] at e2
      have AN : Aside (tset k m (s.nm, s.sz) = tsiz m (s.nm, s.sz)) := by show tset _ _ _ = _; unfold tset; rw [if_neg q1, if_pos q2]
      clear q1 q2 h he hW ho hl hk hx h1
      go_enter Tryz.func66, Tryz.ntmps66
      go_wp2_with (go_at_call 68; refine h2.mono ?_; rintro e1 w1 ⟨rfl, k1, b1, r1⟩)
      first | go_ret | go_ret2
      rw [AN.out]
      exact ⟨rfl, k1, b1, r1⟩
    · rw [decide_eq_false q2] at e2
      have AN : Aside (tset k m (s.nm, s.sz) = ((s.nm, s.sz), 0)) := by show tset _ _ _ = _; unfold tset; rw [if_neg q1, if_neg q2]
      clear q1 q2 h he hW ho hl hk hx h1 h2
      go_enter Tryz.func66, Tryz.ntmps66
      go_wp2_with fail
      first | go_ret | go_ret2
      rw [AN.out]
      exact ⟨rfl, A.out.1, But.refl _ _, A.out.2⟩
end
end Go.Proofs.YtcmmjbkgoafbnaaGreatDoor
